/-
  Proved here: 'alive', the closed part that every law of flood ends in, returns true in every world and leaves what lay below as it was. Conditions: none.
  It has no arguments; it is worked out by the evaluator of closed calls (the texts Ax, AxS1 .. AxS31), whose soundness against the machine is 'Go.Ax.closed_call'.
-/
import Derived.Test.YtkdgngdnmgelnaaRows
import Derived.Test.YtkdgngdnmgelnaaAxS31
set_option linter.all false
namespace Go.Ax
open Go Go.RowKit
theorem known_one {P : Program} {g : FuncId} {t : Bool} (hb : ((P.funcs[g]?).bind (fun fn => fn.body)).isSome = true) (hc : ∀ w, Calls P g #[] w fun e w' => e = .returned (.bool t) ∧ Below w.heap.size w w') :
    Known P fun f => bif Nat.beq f g then some t else none := by
  intro f b h
  obtain ⟨hf, h1⟩ := bif_some h
  clear h
  have hf := Nat.eq_of_beq_eq_true hf
  subst hf
  cases h1
  refine ⟨?_, hc⟩
  cases hx : P.funcs[f]? with
  | none => rw [hx] at hb; cases hb
  | some fn =>
    rw [hx] at hb
    cases hy : fn.body with
    | none => rw [Option.bind_some, hy] at hb; cases hb
    | some c => exact ⟨fn, c, rfl, hy⟩
end Go.Ax
namespace Go.Proofs.Ytkdgngdnmgelnaa.alive
open Go.RowKit

theorem mixed : Try.prog.follows .mixedOrders = true := by kernel_rfl
theorem plainNames : (Try.prog.funcs.toList.all fun fn => !(fn.name == "runtime.NumGoroutine")) = true := by kernel_rfl
theorem noCount : Go.Ax.NoCount Try.prog := fun f fn h => by
  have h2 := List.all_eq_true.1 plainNames fn (by
    have := Array.mem_of_getElem? h
    simpa using this)
  simpa using h2

set_option maxRecDepth 1000000 in
theorem value : Go.Ax.evMain Try.prog (fun _ => none) 100000 60 13 = some true := by kernel_rfl

theorem call (w : World) : Calls Try.prog 13 #[] w fun e w' => e = .returned (.bool true) ∧ Below w.heap.size w w' :=
  Go.Ax.closed_call mixed noCount (Go.Ax.Known.nothing _) value w

theorem known : Go.Ax.Known Try.prog fun f => bif Nat.beq f 13 then some true else none := Go.Ax.known_one (by kernel_rfl) call
end Go.Proofs.Ytkdgngdnmgelnaa.alive

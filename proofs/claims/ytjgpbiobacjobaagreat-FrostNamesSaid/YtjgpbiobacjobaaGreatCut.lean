/-
  A closed call is worked out in pieces: the state between two pieces is written out, so that each piece is a theorem of its own.
-/
import Derived.Test.YtjgpbiobacjobaaGreatAxS31
set_option linter.all false
namespace Go.Ax
open Go Go.RowKit
abbrev cB (b : Bool) : Value := .bool b
abbrev cI (n : Nat) : Value := .int .i64 (.ofNat n)
abbrev cM (n : Nat) : Value := .int .i64 (.negSucc n)
abbrev cP (b o : Nat) : Value := .pointer (some ⟨b, o, none⟩)
abbrev cS (b o n c : Nat) : Value := .slice (some ⟨b, o, none⟩) n c
abbrev cA (l : List Value) : Value := .agg l.toArray
abbrev cL {α : Type} (x : α) : Tr α := .node (some x) .nil .nil
abbrev cN {α : Type} (x : α) (l r : Tr α) : Tr α := .node (some x) l r
/-- A piece of a function's code. -/
def cutAt : Code → List Nat → Code
  | .seq a _, 0 :: r => cutAt a r
  | .seq _ b, _ :: r => cutAt b r
  | .cond _ a _, 0 :: r => cutAt a r
  | .cond _ _ b, _ :: r => cutAt b r
  | .block _ b, _ :: r => cutAt b r
  | .loop b, _ :: r => cutAt b r
  | .rangeFunc _ _ a _, 0 :: r => cutAt a r
  | .rangeFunc _ _ _ b, _ :: r => cutAt b r
  | c, _ => c
def cutF (f : Func) (p : List Nat) : Code := cutAt (f.body.getD .skip) p
/-- The first k parts of a sequence, and what is behind them. -/
def preC : Nat → Code → Code
  | 0, _ => .skip
  | k + 1, .seq x y => .seq x (preC k y)
  | _ + 1, _ => .ret
def dropC : Nat → Code → Code
  | 0, c => c
  | k + 1, .seq _ y => dropC k y
  | _ + 1, c => c
section
variable {P : Program} {lo : Nat} {C : CallF}
theorem run_cut : ∀ (k f : Nat) (c : Code) (A : Fr) (H : Hp) (p : Par) (A' : Fr) (H' : Hp) (p' : Par), runCode P lo C f (preC k c) A H p = some (.normal, A', H', p') → runCode P lo C f c A H p = runCode P lo C (f - k) (dropC k c) A' H' p'
  | _, 0, _, _, _, _, _, _, _, h => by simp [runCode] at h
  | 0, f + 1, c, A, H, p, A', H', p', h => by
    simp only [preC, runCode, Option.some.injEq, Prod.mk.injEq, true_and] at h
    obtain ⟨rfl, rfl, rfl⟩ := h
    rfl
  | k + 1, f + 1, c, A, H, p, A', H', p', h => by
    cases c <;> try (simp [preC, runCode] at h; done)
    rename_i x y
    simp only [preC] at h
    rw [runCode] at h
    rw [runCode]
    cases hx : runCode P lo C f x A H p with
    | none => rw [hx] at h; cases h
    | some q =>
      obtain ⟨e, A1, H1, p1⟩ := q
      rw [hx] at h
      cases e <;> simp only at h <;> try (cases h; done)
      show runCode P lo C f y A1 H1 p1 = _
      rw [run_cut k f y A1 H1 p1 A' H' p' h, show f + 1 - (k + 1) = f - k by omega]
      rfl
end
/-- How a closed call ends. -/
noncomputable def endOf (P : Program) (kn : FuncId → Option Bool) (m n : Nat) (fn : Func) (r : Option (Exit × Fr × Hp × Par)) : Option Bool :=
  match r with
  | some (.ret, A, H', _) => match unwindV P 0 (fun t a H p => evCall P kn m n 0 t a H p) fn m A H' none with
    | some (.ret (.bool b), _) => some b
    | _ => none
  | _ => none
theorem main_cut {P : Program} {kn : FuncId → Option Bool} {m n : Nat} {f : FuncId} {fn : Func} {c : Code} {t : Bool} (hf : P.funcs[f]? = some fn) (hb : fn.body = some c)
    (h : endOf P kn m n fn (runCode P 0 (callF P kn m n) m c { fn := f, n := fn.ntmps, T := .nil, defers := [], round := none } { next := 0, t := .nil } none) = some t) : evMain P kn m (n + 1) f = some t := by
  unfold endOf at h
  split at h <;> first | (cases h; done) | skip
  rename_i A H' p' he
  split at h <;> first | (cases h; done) | skip
  rename_i b H'' hu
  cases h
  have e0 : evCall P kn m (n + 1) 0 (.fn (.func f) #[]) [] { next := 0, t := .nil } none = runFunc P 0 (callF P kn m n) (fun t a H p => evCall P kn m n 0 t a H p) m f [] { next := 0, t := .nil } none := by
    rw [evCall]; rfl
  have e : Nat.ble 0 fn.ntmps = true := Nat.ble_eq_true_of_le (Nat.zero_le _)
  have key : evCall P kn m (n + 1) 0 (.fn (.func f) #[]) [] { next := 0, t := .nil } none = some (.ret (.bool t), H'', p') := by
    rw [e0]
    unfold runFunc
    simp only [hf, hb, List.length_nil, e, cond_true]
    rw [show trOf ([] : List Value) 0 .nil = Tr.nil from rfl, he]
    simp only [hu]
  unfold evMain
  rw [key]
end Go.Ax

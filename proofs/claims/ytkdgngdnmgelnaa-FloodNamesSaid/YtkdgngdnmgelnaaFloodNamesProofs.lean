/-
  Proved here: whatever the world, the law FloodNames returns true and leaves what it was given as it was. Conditions: none beyond the row's own.
  The call has no arguments; it is worked out by the evaluator of closed calls (the texts Ax, AxS1 .. AxS31), whose soundness against the machine is 'Go.Ax.closed_call'.
-/
import Derived.Test.YtkdgngdnmgelnaaRows
import Derived.Test.YtkdgngdnmgelnaaAlive
import Derived.Test.YtkdgngdnmgelnaaMb
import Derived.ProofKit
import Derived.Below
import Derived.ChangeSame
namespace Go.Proofs.Ytkdgngdnmgelnaa.floodNames
open Go.Proofs.Ytkdgngdnmgelnaa
open Go.ChangeShapes Go.WideShapes Go.ChangeAt Go.RowKit

theorem own : ownKnob Try.prog.godebug = none := by kernel_rfl

noncomputable abbrev kn : FuncId → Option Bool := fun f => bif Nat.beq f 13 then some true else none
noncomputable abbrev fr (T : Go.Ax.Tr Value) : Go.Ax.Fr := { fn := 5, n := Try.f5.ntmps, T := T, defers := [], round := none }
noncomputable abbrev code (k : Nat) : Code := Go.Ax.dropC k (Go.Ax.cutF Try.f5 [])
open floodNamesState in
set_option maxRecDepth 1000000 in
theorem piece1 : Go.Ax.runCode Try.prog 0 (Go.Ax.callF Try.prog kn 100000 59) 100000 (Go.Ax.preC 11 (code 0)) (fr .nil) { next := 0, t := .nil } none = some (.normal, fr T1, { next := N1, t := H1 }, none) := by kernel_rfl
open floodNamesState in
set_option maxRecDepth 1000000 in
theorem piece2 : Go.Ax.runCode Try.prog 0 (Go.Ax.callF Try.prog kn 100000 59) (100000 - 11) (Go.Ax.preC 1 (code 11)) (fr T1) { next := N1, t := H1 } none = some (.normal, fr T2, { next := N2, t := H2 }, none) := by kernel_rfl
open floodNamesState in
set_option maxRecDepth 1000000 in
theorem piece3 : Go.Ax.endOf Try.prog kn 100000 59 Try.f5 (Go.Ax.runCode Try.prog 0 (Go.Ax.callF Try.prog kn 100000 59) (100000 - 11 - 1) (code 12) (fr T2) { next := N2, t := H2 } none) = some true := by kernel_rfl
theorem body5 : Try.f5.body = some (code 0) := by kernel_rfl
theorem drop1 : Go.Ax.dropC 11 (code 0) = code 11 := by kernel_rfl
theorem drop2 : Go.Ax.dropC 1 (code 11) = code 12 := by kernel_rfl
theorem value : Go.Ax.evMain Try.prog kn 100000 60 5 = some true := by
  refine Go.Ax.main_cut Try.func5 body5 ?_
  rw [Go.Ax.run_cut _ _ _ _ _ _ _ _ _ piece1, drop1, Go.Ax.run_cut _ _ _ _ _ _ _ _ _ piece2, drop2]
  exact piece3

theorem call (w : World) : Calls Try.prog 5 #[] w fun e w' => e = .returned (.bool true) ∧ Below w.heap.size w w' :=
  Go.Ax.closed_call alive.mixed alive.noCount alive.known value w

/-- The last step of a row without parameters, where the call leaves what lay below as it was. -/
theorem post_closed {H : Type} {enc : TypeId × Value → H} {P : Program} {f : Func} {s : ChangeSpec} {apart fresh handsOn again : Bool} {W W' : World} {args : Array Value} {v : Value} {ds gs : List (DataW H)}
    (hW : DataW.Whole enc P f.params.toList s.vars apart W args.toList ds gs [])
    (hres : ∀ (b : Nat) (sp : Nat → Bool) (hd : Bool), DataW.TrodAll enc P W' b sp hd f.resultTypes.toList (v.resultList f.resultTypes.size) (s.fn H (ds ++ gs)).results [])
    (hargs : ∀ sp : Nat → Bool, DataW.TrodAll enc P W' 0 sp true f.params.toList args.toList (s.fn H (ds ++ gs)).args [])
    (hvars : ∀ sp : Nat → Bool, DataW.TrodVars enc P W' sp s.vars (s.fn H (ds ++ gs)).vars [])
    (hb : Below W.heap.size W W')
    (hok : ∀ (j : Nat) (t : TypeId) (r : Value), f.resultTypes[j]? = some t → (v.resultList f.resultTypes.size)[j]? = some r → Value.okWide P W' .any 0 t r) :
    s.post enc P f apart fresh handsOn again W args v W' := by
  have none_in : ∀ p : MemPlace, p ∈ ([] : List MemPlace) → False := fun p hp => by simp at hp
  refine ⟨ds, gs, [], [], [], [], hW, hres _ _ _, hargs _, hvars _, World.keptBut_mono (fun p hp => (none_in p hp).elim) (hb.frame (· ∈ ([] : List MemPlace))), fun _ => ?_⟩
  refine ⟨hok, _, _, [], ⟨[], [], trodAll_append (hargs _) (hres _ _ _), hvars _, rfl, fun b off hp => (none_in _ hp).elim, fun _ => by simp⟩, fun p hp _ => (none_in p hp).elim⟩

set_option maxRecDepth 100000 in
theorem lifted (os : Os) (started : os.Started) (H : Type) (enc : TypeId × Value → H) :
    ReturnsInHanded {} Try.checked os 5 .any (Rows.floodNamesSpec.pre6 enc Try.prog Try.f5 Rows.floodNamesRow.domain false) (Rows.floodNamesSpec.post enc Try.prog Try.f5 false true false false) := by
  refine returnsInHanded_of_change (C := Try.checked) own started (by kernel_rfl) Try.func5
    (ChangeSpec.witness6 (enc := enc) (C := Try.checked) false ⟨#[], #[], []⟩ 8 (by kernel_rfl) (by kernel_rfl) (by kernel_rfl) (by kernel_rfl)) ?_
  intro W base args ds gs before hval0 hW hcnd _
  have hW' := hW
  obtain ⟨p, q, hA0, hV, rfl, hfz, hnd⟩ := hW
  have hA : DataW.TrodAll enc Try.prog W 0 (fun _ => true) true Try.f5.params.toList args.toList ds p := hA0
  rw [Try.params5] at hA
  obtain ⟨rfl, rfl, rfl⟩ := trodAll_none hA
  obtain ⟨rfl, rfl⟩ := trodVars_none hV
  clear hA0 hval0
  simp only [List.append_nil] at hW'
  refine (call W).mono fun e W' ⟨he, hb⟩ => ?_
  subst he
  exact ⟨_, rfl, post_closed hW' (fun _ _ _ => trodAll_mk1 (shut_bool Try.underlying4 _)) (fun sp => rfl) (fun _ => rfl) hb (ok_one (by kernel_rfl) rfl (okWide_bool_mk Try.underlying4 _))⟩

theorem holds : Rows.FloodNamesSaid :=
  OpenClaim.holds_of_wide 5 Try.f5 rfl rfl rfl rfl rfl rfl rfl ⟨rfl, rfl, rfl, rfl, rfl⟩ rfl rfl rfl rfl rfl (by kernel_rfl) Try.func5 (by kernel_rfl)
    (of_decide_eq_true (by kernel_rfl)) (by unfold Func.isWrapper; first | (rw [if_pos (by decide +kernel)]; kernel_rfl) | (rw [if_neg (by decide +kernel)]; exact ⟨rfl, rfl⟩))
    (fun os started H enc _ => lifted os started H enc)
end Go.Proofs.Ytkdgngdnmgelnaa.floodNames

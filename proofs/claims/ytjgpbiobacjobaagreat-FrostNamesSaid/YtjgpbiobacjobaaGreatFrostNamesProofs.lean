/-
  Proved here: whatever the world, the law FrostNames returns true and leaves what it was given as it was. Conditions: none beyond the row's own.
  The call has no arguments; it is worked out by the evaluator of closed calls (the texts Ax, AxS1 .. AxS31), whose soundness against the machine is 'Go.Ax.closed_call'.
-/
import Derived.Test.YtjgpbiobacjobaaGreatRows
import Derived.Test.YtjgpbiobacjobaaGreatAlive
import Derived.Test.YtjgpbiobacjobaaGreatFrostNamesState
import Derived.ProofKit
import Derived.Below
import Derived.ChangeSame
set_option linter.all false
namespace Go.Proofs.YtjgpbiobacjobaaGreat.frostNames
open Go.Proofs.YtjgpbiobacjobaaGreat
open Go.ChangeShapes Go.WideShapes Go.ChangeAt Go.RowKit

theorem own : ownKnob Tryz.prog.godebug = none := by kernel_rfl

noncomputable abbrev kn : FuncId → Option Bool := fun f => bif Nat.beq f 16 then some true else none
noncomputable abbrev fr (T : Go.Ax.Tr Value) : Go.Ax.Fr := { fn := 6, n := Tryz.f6.ntmps, T := T, defers := [], round := none }
noncomputable abbrev code (k : Nat) : Code := Go.Ax.dropC k (Go.Ax.cutF Tryz.f6 [])
open frostNamesState in
set_option maxRecDepth 1000000 in
theorem piece1 : Go.Ax.runCode Tryz.prog 0 (Go.Ax.callF Tryz.prog kn 100000 59) 100000 (Go.Ax.preC 6 (code 0)) (fr .nil) { next := 0, t := .nil } none = some (.normal, fr T1, { next := N1, t := H1 }, none) := by kernel_rfl
open frostNamesState in
set_option maxRecDepth 1000000 in
theorem piece2 : Go.Ax.runCode Tryz.prog 0 (Go.Ax.callF Tryz.prog kn 100000 59) (100000 - 6) (Go.Ax.preC 3 (code 6)) (fr T1) { next := N1, t := H1 } none = some (.normal, fr T2, { next := N2, t := H2 }, none) := by kernel_rfl
open frostNamesState in
set_option maxRecDepth 1000000 in
theorem piece3 : Go.Ax.endOf Tryz.prog kn 100000 59 Tryz.f6 (Go.Ax.runCode Tryz.prog 0 (Go.Ax.callF Tryz.prog kn 100000 59) (100000 - 6 - 3) (code 9) (fr T2) { next := N2, t := H2 } none) = some true := by kernel_rfl
theorem body6 : Tryz.f6.body = some (code 0) := by kernel_rfl
theorem drop1 : Go.Ax.dropC 6 (code 0) = code 6 := by kernel_rfl
theorem drop2 : Go.Ax.dropC 3 (code 6) = code 9 := by kernel_rfl
theorem value : Go.Ax.evMain Tryz.prog kn 100000 60 6 = some true := by
  refine Go.Ax.main_cut Tryz.func6 body6 ?_
  rw [Go.Ax.run_cut _ _ _ _ _ _ _ _ _ piece1, drop1, Go.Ax.run_cut _ _ _ _ _ _ _ _ _ piece2, drop2]
  exact piece3

theorem call (w : World) : Calls Tryz.prog 6 #[] w fun e w' => e = .returned (.bool true) ∧ Below w.heap.size w w' :=
  Go.Ax.closed_call alive.mixed alive.noCount alive.known value w

/-- The last step of a row without parameters, where the call leaves what lay below as it was. -/
theorem post_closed {H : Type} {enc : TypeId × Value → H} {P : Program} {f : Func} {s : ChangeSpec} {apart fresh handsOn again : Bool} {W W' : World} {args : Array Value} {v : Value} {ds gs : List (DataW H)}
    (hW : DataW.Whole enc P f.params.toList s.vars apart W args.toList ds gs [])
    (hres : ∀ (b : Nat) (sp : Nat → Bool) (hd : Bool), DataW.TrodAll enc P W' b sp hd f.resultTypes.toList (v.resultList f.resultTypes.size) (s.fn H (ds ++ gs)).results [])
    (hargs : ∀ sp : Nat → Bool, DataW.TrodAll enc P W' 0 sp true f.params.toList args.toList (s.fn H (ds ++ gs)).args [])
    (hvars : ∀ sp : Nat → Bool, DataW.TrodVars enc P W' sp s.vars (s.fn H (ds ++ gs)).vars [])
    (hb : Below W.heap.size W W')
    (hok : ∀ (j : Nat) (t : TypeId) (r : Value), f.resultTypes[j]? = some t → (v.resultList f.resultTypes.size)[j]? = some r → Value.okWide P W' .any 0 t r) :
    s.post enc P f apart fresh handsOn again W args v W' := by
  have none_in : ∀ p : MemPlace, p ∈ ([] : List MemPlace) → False := fun p hp => by simp at hp
  refine ⟨ds, gs, [], [], [], [], hW, hres _ _ _, hargs _, hvars _, World.keptBut_mono (fun p hp => (none_in p hp).elim) (hb.frame (· ∈ ([] : List MemPlace))), fun _ => ?_⟩
  refine ⟨hok, _, _, [], ⟨[], [], trodAll_append (hargs _) (hres _ _ _), hvars _, rfl, fun b off hp => (none_in _ hp).elim, fun _ => by simp⟩, fun p hp _ => (none_in p hp).elim⟩

set_option maxRecDepth 100000 in
theorem lifted (os : Os) (started : os.Started) (H : Type) (enc : TypeId × Value → H) :
    ReturnsInHanded {} Tryz.checked os 6 .any (Rows.frostNamesSpec.pre6 enc Tryz.prog Tryz.f6 Rows.frostNamesRow.domain false) (Rows.frostNamesSpec.post enc Tryz.prog Tryz.f6 false true false false) := by
  refine returnsInHanded_of_change (C := Tryz.checked) own started (by kernel_rfl) Tryz.func6
    (ChangeSpec.witness6 (enc := enc) (C := Tryz.checked) false ⟨#[], #[], []⟩ 8 (by kernel_rfl) (by kernel_rfl) (by kernel_rfl) (by kernel_rfl)) ?_
  intro W base args ds gs before hval0 hW hcnd _
  have hW' := hW
  obtain ⟨p, q, hA0, hV, rfl, hfz, hnd⟩ := hW
  have hA : DataW.TrodAll enc Tryz.prog W 0 (fun _ => true) true Tryz.f6.params.toList args.toList ds p := hA0
  rw [Tryz.params6] at hA
  obtain ⟨rfl, rfl, rfl⟩ := trodAll_none hA
  obtain ⟨rfl, rfl⟩ := trodVars_none hV
  clear hA0 hval0
  simp only [List.append_nil] at hW'
  refine (call W).mono fun e W' ⟨he, hb⟩ => ?_
  subst he
  exact ⟨_, rfl, post_closed hW' (fun _ _ _ => trodAll_mk1 (shut_bool Tryz.underlying4 _)) (fun sp => rfl) (fun _ => rfl) hb (ok_one (by kernel_rfl) rfl (okWide_bool_mk Tryz.underlying4 _))⟩

theorem holds : Rows.FrostNamesSaid :=
  OpenClaim.holds_of_wide 6 Tryz.f6 rfl rfl rfl rfl rfl rfl rfl ⟨rfl, rfl, rfl, rfl, rfl⟩ rfl rfl rfl rfl rfl (by kernel_rfl) Tryz.func6 (by kernel_rfl)
    (of_decide_eq_true (by kernel_rfl)) (by unfold Func.isWrapper; first | (rw [if_pos (by decide +kernel)]; kernel_rfl) | (rw [if_neg (by decide +kernel)]; exact ⟨rfl, rfl⟩))
    (fun os started H enc _ => lifted os started H enc)
end Go.Proofs.YtjgpbiobacjobaaGreat.frostNames

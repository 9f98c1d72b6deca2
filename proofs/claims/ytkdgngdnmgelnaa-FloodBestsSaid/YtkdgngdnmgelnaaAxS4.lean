import Derived.Test.YtkdgngdnmgelnaaAxS3
set_option linter.all false
namespace Go.Ax
open Go Go.RowKit
section
variable {P : Program} {r : Ren} {A : Fr} {tmps : Array Value}
theorem flat_all_same {vs vs' : List Value} (h : vs.all flat = true) (k : LR r vs vs') : vs' = vs := by
  induction vs generalizing vs' with
  | nil => exact k.of_nil
  | cons v vs ih =>
    obtain ⟨u, us, rfl, hu, hus⟩ := k.of_cons
    simp only [List.all_cons, Bool.and_eq_true] at h
    rw [flat_same h.1 hu, ih h.2 hus]
theorem bif_some {α : Type} {b : Bool} {x : Option α} {v : α} (h : (bif b then x else none) = some v) : b = true ∧ x = some v := by
  cases b
  · cases h
  · exact ⟨rfl, h⟩
theorem evOR (hT : TmpR r A.n A.T tmps) {x : Option Operand} {l : Option Value} (h : evO A x = some l) : (l = none ∧ x.map (evT tmps) = none) ∨ ∃ v v', l = some v ∧ x.map (evT tmps) = some v' ∧ VR r v v' := by
  cases x with
  | none => simp [evO] at h; subst h; exact .inl ⟨rfl, rfl⟩
  | some x =>
    simp only [evO] at h
    cases h1 : ev A x with
    | none => simp [h1] at h
    | some v => simp [h1] at h; subst h; exact .inr ⟨v, _, rfl, rfl, evR hT h1⟩
def Yields (P : Program) (s : Sem Next) (v : Value) : Prop := ∀ w, s.run P w = .ok (.value v) w
theorem flatCall_R {b : Builtin} {ts : Array TypeId} {ty : TypeId} {consts : Array Bool} {vs vs' : List Value} {v : Value} (k : LR r vs vs') (h : pureCall.flatCall P b ts ty consts vs = some v) :
    VR r v v ∧ Yields P (builtin b ts ty consts vs'.toArray) v := by
  unfold pureCall.flatCall at h
  obtain ⟨hf, h⟩ := bif_some h
  cases hp : prun P (builtin b ts ty consts vs.toArray) with
  | none => simp [hp] at h
  | some x =>
    rw [hp] at h
    cases x <;> try (cases h; done)
    rename_i u
    obtain ⟨hu, h⟩ := bif_some h
    cases h
    rw [flat_all_same hf k]
    exact ⟨flat_vr hu, fun w => prun_run _ hp w⟩
theorem pureCall_R {b : Builtin} {ts : Array TypeId} {ty : TypeId} {consts : Array Bool} {vs vs' : List Value} {v : Value} (k : LR r vs vs') (h : pureCall P b ts ty consts vs = some v) :
    VR r v v ∧ Yields P (builtin b ts ty consts vs'.toArray) v := by
  unfold pureCall at h
  split at h
  · rename_i a n c
    cases ht : ts[0]? with
    | none => simp [ht] at h
    | some t =>
      simp only [ht] at h
      cases hu : P.underlying t with
      | none => simp [hu] at h
      | some d =>
        cases d <;> simp only [hu] at h <;> try (cases h; done)
        cases h
        refine ⟨.int _ _, fun w => ?_⟩
        obtain ⟨u, us, rfl, hu', hus⟩ := k.of_cons
        rw [hus.of_nil]
        have hsl : ∃ a' c', u = .slice a' n c' := by cases hu' <;> exact ⟨_, _, rfl⟩
        obtain ⟨a', c', rfl⟩ := hsl
        simp [builtin, Builtin.len_, ht, run_underlying hu, goInt]
  · exact flatCall_R k h
  · exact flatCall_R k h
  · exact flatCall_R k h
  · exact flatCall_R k h
  · exact flatCall_R k h
  · exact flatCall_R k h
  · exact flatCall_R k h
  · cases h
theorem differ_eq {t : TypeId} {a b a' b' : Value} (h : differ P t a b = true) (ka : VR r a a') (kb : VR r b b') (d : Nat) (w : World) :
    (Op.equalIn (d + 1) t a' b').run P w = .ok false w := by
  unfold differ at h
  split at h <;> first | (cases h; done) | skip
  all_goals
    rename_i hu
    cases ka <;> cases kb <;> simp [Op.equalIn, run_underlying hu]
theorem differ_guard {t : TypeId} {a b a' b' : Value} (h : differ P t a b = true) (ka : VR r a a') (kb : VR r b b') (op : BinOp) (x y : Operand) (w : World) :
    (eqGuard op t x y a' b').run P w = .ok () w := by
  unfold differ at h
  split at h <;> first | (cases h; done) | skip
  all_goals
    cases ka <;> cases kb <;> (unfold eqGuard; cases op <;> rfl)
theorem differ_bin {t : TypeId} {a b a' b' : Value} (h : differ P t a b = true) (ka : VR r a a') (kb : VR r b b') :
    (binOp .eql t a' b' = do pure (.bool (← Op.equal t a' b'))) ∧ (binOp .neq t a' b' = do pure (.bool (!(← Op.equal t a' b')))) := by
  unfold differ at h
  split at h <;> first | (cases h; done) | skip
  all_goals
    cases ka <;> cases kb <;> exact ⟨rfl, rfl⟩
theorem differ_R {t : TypeId} {a b a' b' : Value} (h : differ P t a b = true) (ka : VR r a a') (kb : VR r b b') (x y : Operand) (w : World) :
    (do eqGuard .eql t x y a' b'; binOp .eql t a' b').run P w = .ok (.bool false) w ∧ (do eqGuard .neq t x y a' b'; binOp .neq t a' b').run P w = .ok (.bool true) w := by
  have e : ∀ w, (Op.equal t a' b').run P w = .ok false w := fun w => differ_eq h ka kb 9999 w
  rw [(differ_bin h ka kb).1, (differ_bin h ka kb).2]
  simp only [Sem.run_bind, differ_guard h ka kb, Result.andThen_ok, e, Sem.run_pure, Bool.not_false, and_self]
end
end Go.Ax

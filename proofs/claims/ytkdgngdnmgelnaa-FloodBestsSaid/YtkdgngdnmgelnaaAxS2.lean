import Derived.Test.YtkdgngdnmgelnaaAxS1
import Derived.Laws.Entries
import Derived.Laws.Cells
import Derived.Laws.CopyRow
set_option linter.all false
namespace Go.Ax
open Go Go.RowKit
def evT (tmps : Array Value) : Operand → Value
  | .tmp t => tmps.getD t undef
  | .const v => v
  | .global g => .pointer (some ⟨g, 0, none⟩)
  | .func f => .func (.func f) #[] #[]
theorem evT_eq (fr : Frame) : fr.eval = evT fr.tmps := by funext x; cases x <;> rfl
def TmpR (r : Ren) (n : Nat) (T : Tr Value) (tmps : Array Value) : Prop := tmps.size = n ∧ ∀ t v, T.get t = some v → ∃ v', tmps[t]? = some v' ∧ VR r v v'
theorem TmpR.mono {r r' : Ren} (h : Ren.Le r r') {n : Nat} {T : Tr Value} {tmps : Array Value} (k : TmpR r n T tmps) : TmpR r' n T tmps :=
  ⟨k.1, fun t v e => let ⟨v', e', q⟩ := k.2 t v e; ⟨v', e', q.mono h⟩⟩
theorem TmpR.set {r : Ren} {n : Nat} {T : Tr Value} {tmps : Array Value} (k : TmpR r n T tmps) (d : Nat) (hd : d < n) {v v' : Value} (q : VR r v v') : TmpR r n (T.set d v) (tmps.setIfInBounds d v') := by
  refine ⟨by simp [k.1], fun t u e => ?_⟩
  rw [Tr.get_set] at e
  rw [Array.getElem?_setIfInBounds]
  by_cases ht : t = d
  · subst ht
    simp only [if_true] at e
    cases e
    rw [if_pos rfl, if_pos (by rw [k.1]; exact hd)]
    exact ⟨v', rfl, q⟩
  · rw [if_neg ht] at e
    rw [if_neg (fun h => ht h.symm)]
    exact k.2 t u e
section
variable {r : Ren} {A : Fr} {tmps : Array Value}
theorem evR (hT : TmpR r A.n A.T tmps) {x : Operand} {v : Value} (h : ev A x = some v) : VR r v (evT tmps x) := by
  cases x with
  | tmp t =>
    obtain ⟨v', e, q⟩ := hT.2 t v h
    simp only [evT, Array.getD_eq_getD_getElem?, e, Option.getD_some]
    exact q
  | const c =>
    simp only [ev] at h
    cases hf : flat c with
    | true => rw [hf] at h; simp at h; subst h; exact flat_vr hf
    | false => rw [hf] at h; simp at h
  | func f =>
    simp only [ev] at h; cases h
    exact .func (.func f) rfl (fun i v v' e => by simp at e) rfl (fun i v v' e => by simp at e)
  | global g => simp [ev] at h
theorem evsR (hT : TmpR r A.n A.T tmps) : ∀ {xs : List Operand} {vs : List Value}, evs A xs = some vs → LR r vs (xs.map (evT tmps))
  | [], vs, h => by simp [evs] at h; subst h; exact LR.nil
  | x :: xs, vs, h => by
    simp only [evs] at h
    cases h1 : ev A x with
    | none => simp [h1] at h
    | some v =>
      cases h2 : evs A xs with
      | none => simp [h1, h2] at h
      | some vs' =>
        simp [h1, h2] at h; subst h
        exact LR.cons (evR hT h1) (evsR hT h2)
end
/-! ### Facts on types -/
section
variable {P : Program} {w : World}
theorem run_info {t : TypeId} {i : TypeInfo} (h : P.info? t = some i) (w : World) : (typeInfo t).run P w = .ok i w := by
  simp [typeInfo, h]
theorem run_size {t : TypeId} {i : TypeInfo} (h : P.info? t = some i) (w : World) : (sizeOf t).run P w = .ok i.size w := by
  simp [sizeOf, run_info h]
theorem run_agg {t : TypeId} {b : Bool} (h : isAggB P t = some b) (w : World) : (isAgg t).run P w = .ok b w := by
  unfold isAggB at h
  unfold isAgg
  cases hu : P.underlying t with
  | none => simp [hu] at h
  | some d =>
    simp only [hu] at h
    simp only [Sem.run_bind, run_underlying hu, Result.andThen_ok]
    cases d <;> simp at h <;> subst h <;> rfl
theorem run_zero {t : TypeId} {z : Value} (h : zeroOf P t = some z) (w : World) : (zeroValue t).run P w = .ok z w ∧ flat z = true := by
  unfold zeroOf at h
  cases hi : P.info? t with
  | none => simp [hi] at h
  | some i =>
    simp only [hi] at h
    cases hz : i.zero with
    | none => simp [hz] at h
    | some z' =>
      simp only [hz] at h
      cases hf : flat z' with
      | false => simp [hf] at h
      | true =>
        simp [hf] at h; subst h
        exact ⟨by simp [zeroValue, run_info hi, hz], hf⟩
theorem row_some {n : Nat} {cs l : List Value} {i : Nat} (h : row n cs i = some l) : l = (cs.drop i).take n ∧ l.length = n := by
  unfold row at h
  simp only [beq_eq] at h
  by_cases hc : ((cs.drop i).take n).length = n
  · rw [decide_eq_true hc] at h; cases h; exact ⟨rfl, hc⟩
  · rw [decide_eq_false hc] at h; cases h
theorem run_part {r : Ren} {t : TypeId} {cs cs' : Array Value} {off : Nat} {v : Value} (h : partV P t cs.toList off = some v) (k : LR r cs.toList cs'.toList) :
    ∃ v', VR r v v' ∧ ∀ w, (part t cs' off).run P w = .ok v' w := by
  unfold partV at h
  cases ha : isAggB P t with
  | none => simp [ha] at h
  | some b =>
    cases hi : P.info? t with
    | none => cases b <;> simp [ha, hi] at h
    | some i =>
      cases b with
      | true =>
        simp only [ha, hi] at h
        cases hr : row i.size cs.toList off with
        | none => simp [hr] at h
        | some l =>
          simp [hr] at h; subst h
          obtain ⟨e, hl⟩ := row_some hr
          refine ⟨.agg (cs'.extract off (off + i.size)), ?_, fun w => ?_⟩
          · have hq : LR r l ((cs'.toList.drop off).take i.size) := by rw [e]; exact (k.drop off).take i.size
            have := VR.aggL hq
            have e2 : cs'.extract off (off + i.size) = ((cs'.toList.drop off).take i.size).toArray := by
              apply Array.toList_inj.1
              simp [Array.toList_extract, List.extract]
            rw [e2]; exact this
          · simp [part, run_agg ha, run_size hi]
      | false =>
        simp only [ha, hi] at h
        obtain ⟨v', e, q⟩ := k.get h
        refine ⟨v', q, fun w => ?_⟩
        have e' : cs'[off]? = some v' := by simpa using e
        simp [part, run_agg ha, e']
end
end Go.Ax

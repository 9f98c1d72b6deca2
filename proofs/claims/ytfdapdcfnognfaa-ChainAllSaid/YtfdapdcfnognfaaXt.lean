import Derived.Test.YtfdapdcfnognfaaXs
set_option linter.all false
namespace Go.Ax
open Go Go.RowKit Go.Proofs
end Go.Ax
namespace Go.Ax
open Go Go.RowKit Go.Proofs
end Go.Ax
namespace Go.Ax
open Go Go.RowKit Go.Proofs
theorem foG_step {g : Bool} {c : Ch} {hs : List Hr} {i : Nat} {h : Hr} (hx : hs[i]? = some h) : foG g c hs (i + 1) = (boardsF h (foG g c hs i).1, hourF c g h (foG g c hs i).1 (foG g c hs i).2) := by
  unfold foG
  rw [List.take_add_one, hx]
  simp [List.foldl_append]
theorem foG_gates {c : Ch} {hs : List Hr} : ∀ i, (foG false c hs i).1 = (foG true c hs i).1
  | 0 => rfl
  | i + 1 => by
    cases hx : hs[i]? with
    | some h => rw [foG_step hx, foG_step hx, foG_gates i]
    | none =>
      have e : ∀ g, foG g c hs (i + 1) = foG g c hs i := fun g => by
        unfold foG; rw [List.take_add_one, hx]; simp
      rw [e, e, foG_gates i]
end Go.Ax
namespace Go.Ax
open Go Go.RowKit Go.Proofs
end Go.Ax
namespace Go.Ax
open Go Go.RowKit Go.Proofs
end Go.Ax
namespace Go.Ax
open Go Go.RowKit Go.Proofs
theorem sides_pond {c : Ch} (v : c.Vd) : All2 (PdLe false true) c.ponds c.ponds := by
  refine all2_of _ _ rfl fun i x y hx hy => ?_
  rw [hx] at hy; cases hy
  have := List.all_eq_true.1 v.p (x, i) (List.mem_zipIdx_iff_getElem?.2 hx)
  simp [pondB, withinB] at this
  constructor <;> first | rfl | (intro _; rfl) | (simp; omega) | omega
theorem sides_hour {h : Hr} {pn gn : Nat} (hv : hourB h pn gn = true) : HrLe false true h h := by
  have hf := hour_facts hv
  refine ⟨rfl, rfl, end_le rfl fun i x y hx hy => ?_, fun t ht => ?_⟩
  · rw [hx] at hy; cases hy
    have := hf x (List.mem_of_getElem? hx)
    simp [endV]; omega
  · simp only [hourB, Bool.and_eq_true] at hv
    have := List.all_eq_true.1 hv.2 t ht
    simp [waterB] at this; omega
theorem nn_of {ps : List Pd} {B : Int} {s : St} (a : Ahead ps B s) : NN s := fun i => by
  rcases Nat.lt_or_ge i s.ws.length with q | q
  · have := a.pos s.ws[i] (List.getElem_mem q)
    simpa [List.getD, q] using this
  · simp [List.getD, List.getElem?_eq_none q]
theorem fo_sides {c : Ch} (v : c.Vd) {hs : List Hr} (hh : ∀ h ∈ hs, hourB h c.pn c.gn = true) (hcl : ∀ h ∈ hs, h.cs.length = h.cn) : ∀ i : Nat, i ≤ 200 → LeS (foG false c hs i).2 (foG true c hs i).2
  | 0, _ => by
    have hall := List.all_eq_true.1 v.w
    have e : ∀ i, (endS false c.ss).getD i 0 ≤ (endS true c.ss).getD i 0 := fun i => by
      cases hx : c.ss[i]? with
      | none => simp [endS, List.getD, hx]
      | some x =>
        obtain ⟨p, hp⟩ := get_some (l := c.ponds) (i := i) (by have := (List.getElem?_eq_some_iff.mp hx).1; rw [v.lp, ← v.wp, ← v.lw]; exact this)
        have := hall (p, x) (List.mem_of_getElem? (zip2_get hp hx))
        simp [withinB] at this
        simp [endS, List.getD, hx, endV]; omega
    have e2 : LeS (s0 false c) (s0 true c) := ⟨⟨by simp [s0, endS], e⟩, Int.le_refl _, Int.le_refl _, Int.le_refl _, Int.le_refl _⟩
    simpa [foG] using e2
  | i + 1, hi => by
    have ih := fo_sides v hh hcl i (by omega)
    obtain ⟨a1, g1, _⟩ := fo_ahead v hh hcl true i (by omega)
    cases e : hs[i]? with
    | none =>
      have e : ∀ g, foG g c hs (i + 1) = foG g c hs i := fun g => by
        unfold foG; rw [List.take_add_one, e]; simp
      rw [e, e]; exact ih
    | some h =>
      have hv := hh h (List.mem_of_getElem? e)
      rw [foG_step e, foG_step e]
      have hb := boards_good g1 hv
      rw [foG_gates]
      exact (hour_le (sides_pond v) (sides_hour hv) (fun g hm => gate_nn (List.all_eq_true.1 hb g hm)) ih (nn_of a1)).1
end Go.Ax
namespace Go.Ax
open Go Go.RowKit Go.Proofs
end Go.Ax
namespace Go.Ax
open Go Go.RowKit Go.Proofs
end Go.Ax
namespace Go.Ax
open Go Go.RowKit Go.Proofs
end Go.Ax
namespace Go.Ax
open Go Go.RowKit Go.Proofs
end Go.Ax
namespace Go.Ax
open Go Go.RowKit Go.Proofs
end Go.Ax
namespace Go.Ax
open Go Go.RowKit Go.Proofs
end Go.Ax

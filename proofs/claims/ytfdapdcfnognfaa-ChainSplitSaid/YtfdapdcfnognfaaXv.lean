import Derived.Test.YtfdapdcfnognfaaAxW4
import Derived.Test.YtfdapdcfnognfaaChecked
import Derived.Test.YtfdapdcfnognfaaXt
import Derived.Test.YtfdapdcfnognfaaXu
set_option linter.all false
namespace Go.Ax
open Go Go.RowKit Go.Proofs
end Go.Ax
namespace Go.Ax
open Go Go.RowKit Go.Proofs
end Go.Ax
namespace Go.Ax
open Go Go.RowKit Go.Proofs
end Go.Ax
namespace Go.Ax
open Go Go.RowKit Go.Proofs
end Go.Ax
namespace Go.Ax
open Go Go.RowKit Go.Proofs
/-- An hour with one more take, by plain data. -/
def Hr.plus (h : Hr) (m : Tk) : Hr := { h with ts := h.ts ++ [m] }
end Go.Ax
namespace Go.Ax
open Go Go.RowKit Go.Proofs
end Go.Ax
namespace Go.Ax
open Go Go.RowKit Go.Proofs
/-- No pond has more in the first one, nor less than nothing in the second one. -/
def WL (s t : St) : Prop := Le s.ws t.ws ∧ NN t
theorem come_wl {p : Int × Nat} (hp : 0 ≤ p.1) {s t : St} (h : WL s t) : WL (comeS s p) (comeS t p) := by
  have a := h.1.2 p.2; have b := h.2 p.2
  exact ⟨h.1.set (by omega), NN.set h.2 (by omega)⟩
theorem flow_wl {x : Gt} (z1 : 0 ≤ x.sill + x.boards * x.step) (z2 : 0 ≤ x.most) {s t : St} (h : WL s t) : WL (flowS s x) (flowS t x) := by
  have a := h.1.2 x.fr.toNat; have b := h.2 x.fr.toNat
  have hf : flowL s.ws x ≤ flowL t.ws x := by unfold flowL; generalize x.sill + x.boards * x.step = z at *; omega
  have hf2 : s.ws.getD x.fr.toNat 0 - flowL s.ws x ≤ t.ws.getD x.fr.toNat 0 - flowL t.ws x := by unfold flowL; generalize x.sill + x.boards * x.step = z at *; omega
  have hf3 : 0 ≤ flowL t.ws x ∧ flowL t.ws x ≤ t.ws.getD x.fr.toNat 0 := by unfold flowL; generalize x.sill + x.boards * x.step = z at *; omega
  exact ⟨h.1.move hf2 hf, NN.move h.2 hf3.1 hf3.2⟩
theorem take_wl {x y : Tk} (hp : x.pond = y.pond) (hy : 0 ≤ y.amount) (hxy : y.amount ≤ x.amount) {s t : St} (h : WL s t) (hs : x.amount ≤ s.ws.getD x.pond.toNat 0) : WL (takeS s x) (takeS t y) := by
  have a := h.1.2 y.pond.toNat; have b := h.2 y.pond.toNat
  rw [hp] at hs
  refine ⟨?_, NN.set h.2 (by unfold takeL; omega)⟩
  show Le (s.ws.set x.pond.toNat (s.ws.getD x.pond.toNat 0 - takeL s.ws x)) _
  rw [hp]
  refine h.1.set ?_
  unfold takeL; rw [hp]; omega
theorem seep_wl {g : Bool} {p : Pd} {i : Nat} (hp : PdLe g g p p) {s t : St} (h : WL s t) : WL (seepS g s (p, i)) (seepS g t (p, i)) := by
  have a := h.1.2 i; have b := h.2 i
  exact ⟨h.1.set (stay_le hp b a), NN.set h.2 (stay_nn b ⟨hp.b2.1, hp.b2.2.1⟩ ⟨hp.b2.2.2.1, hp.b2.2.2.2⟩)⟩
theorem spill_wl {p : Pd} {i : Nat} (hf : 0 ≤ p.full) {s t : St} (h : WL s t) : WL (spillS s (p, i)) (spillS t (p, i)) := by
  have h5 := h.1.2 i; have h6 := h.2 i
  have hf1 : spillL s (p, i) ≤ spillL t (p, i) := by unfold spillL; simp only; omega
  have hf2 : s.ws.getD i 0 - spillL s (p, i) ≤ t.ws.getD i 0 - spillL t (p, i) := by unfold spillL; simp only; omega
  exact ⟨h.1.move hf2 hf1, NN.move h.2 (by unfold spillL; omega) (by unfold spillL; simp only; omega)⟩
theorem takes_wl : ∀ (l : List Tk) {x y : Tk} (_ : x.pond = y.pond) (_ : 0 ≤ y.amount) (_ : y.amount ≤ x.amount) (_ : ∀ t ∈ l, 0 ≤ t.amount) {s t : St}, WL s t → satB (l ++ [x]) s = true → satB (l ++ [y]) t = true ∧ WL ((l ++ [x]).foldl takeS s) ((l ++ [y]).foldl takeS t)
  | [], x, y, hp, hy, hxy, _, s, t, h, hs => by
    simp only [List.nil_append, satB, Bool.and_true, List.foldl_cons, List.foldl_nil] at hs ⊢
    have hs := of_decide_eq_true hs
    have a := h.1.2 y.pond.toNat
    refine ⟨decide_eq_true ?_, take_wl hp hy hxy h hs⟩
    rw [hp] at hs; omega
  | z :: l, x, y, hp, hy, hxy, hl, s, t, h, hs => by
    simp only [List.cons_append, satB, Bool.and_eq_true, List.foldl_cons] at hs ⊢
    obtain ⟨h1, h2⟩ := hs
    have h1 := of_decide_eq_true h1
    have a := h.1.2 z.pond.toNat
    have hz := hl z (List.mem_cons_self ..)
    obtain ⟨q1, q2⟩ := takes_wl l hp hy hxy (fun u hu => hl u (List.mem_cons_of_mem _ hu)) (take_wl rfl hz (Int.le_refl _) h h1) h2
    exact ⟨⟨decide_eq_true (by omega), q1⟩, q2⟩
theorem foldWL {α : Type} {f : St → α → St} : ∀ (l : List α), (∀ x ∈ l, ∀ s t, WL s t → WL (f s x) (f t x)) → ∀ s t, WL s t → WL (l.foldl f s) (l.foldl f t)
  | [], _, _, _, h => h
  | x :: l, hf, s, t, h => foldWL l (fun y hy => hf y (List.mem_cons_of_mem _ hy)) _ _ (hf x (List.mem_cons_self ..) s t h)

theorem pond_self {c : Ch} (v : c.Vd) {p : Pd} (hp : p ∈ c.ponds) : PdLe false false p p := by
  obtain ⟨⟨a1, a2, a3, a4⟩, f1, f2⟩ := pond_facts v p hp
  exact ⟨rfl, rfl, Int.le_refl _, Int.le_refl _, fun h => h, ⟨a1, a2, a3, a4⟩, ⟨a1, a2, a3, a4⟩, by omega⟩
/-- an hour with more taken, against one with less -/
theorem hour_wl {c : Ch} (v : c.Vd) {h : Hr} {gs : List Gt} {x y : Tk} (hv : hourB h c.pn c.gn = true) (hg : gs.all (fun g => gateB g c.pn) = true) (hp : x.pond = y.pond) (hy : 0 ≤ y.amount) (hxy : y.amount ≤ x.amount) {s t : St} (w : WL s t) (hs : satF c false (h.more x none 0) gs s = true) :
    satF c false (h.more y none 0) gs t = true ∧ WL (hourF c false (h.more x none 0) gs s) (hourF c false (h.more y none 0) gs t) := by
  have hf := hour_facts hv
  have hb := boards_good hg hv
  have ht : ∀ t ∈ h.ts, 0 ≤ t.amount := fun t htm => by
    simp only [hourB, Bool.and_eq_true] at hv
    have := List.all_eq_true.1 hv.2 t htm
    simp [waterB] at this; omega
  have e1 : WL ((endS false h.cs).zipIdx.foldl comeS s) ((endS false h.cs).zipIdx.foldl comeS t) := foldWL (f := comeS) ((endS false h.cs).zipIdx) (fun p hp' s t w => come_wl (by
    obtain ⟨i, hi⟩ := List.getElem?_of_mem hp'
    obtain ⟨z, hz, rfl⟩ := zip_elim hi
    have := List.mem_of_getElem? hz
    simp only [endS, List.mem_map] at this
    obtain ⟨q, hq, rfl⟩ := this
    have := hf q hq
    simp [endV]; omega) w) _ _ w
  have e2 : WL (gatesS (boardsF h gs) ((endS false h.cs).zipIdx.foldl comeS s)) (gatesS (boardsF h gs) ((endS false h.cs).zipIdx.foldl comeS t)) := foldWL (f := flowS) (boardsF h gs) (fun g hgm s t w => by
    obtain ⟨z1, z2⟩ := gate_nn (List.all_eq_true.1 hb g hgm)
    exact flow_wl z1 z2 w) _ _ e1
  obtain ⟨q1, q2⟩ := takes_wl h.ts hp hy hxy ht e2 hs
  refine ⟨q1, ?_⟩
  have e4 := foldWL (f := seepS false) c.ponds.zipIdx (fun p hp' s t w => by
    obtain ⟨i, hi⟩ := List.getElem?_of_mem hp'
    obtain ⟨z, hz, rfl⟩ := zip_elim hi
    exact seep_wl (pond_self v (List.mem_of_getElem? hz)) w) _ _ q2
  exact foldWL (f := spillS) c.ponds.zipIdx (fun p hp' s t w => by
    obtain ⟨i, hi⟩ := List.getElem?_of_mem hp'
    obtain ⟨z, hz, rfl⟩ := zip_elim hi
    exact spill_wl (by have := (pond_facts v z (List.mem_of_getElem? hz)).2; omega) w) _ _ e4
theorem go_less {c : Ch} (v : c.Vd) {ms : List Int} {x y : Tk} (hp : x.pond = y.pond) (hy : 0 ≤ y.amount) (hxy : y.amount ≤ x.amount) : ∀ (hs : List Hr) (gs : List Gt) (s t : St), (∀ h ∈ hs, hourB h c.pn c.gn = true) → gs.all (fun g => gateB g c.pn) = true → WL s t → goGo c ms x gs s hs = true → goGo c ms y gs t hs = true
  | [], _, _, _, _, _, _, _ => rfl
  | h :: r, gs, s, t, hh, hg, w, hgo => by
    simp only [goGo, Bool.and_eq_true] at hgo ⊢
    obtain ⟨h1, h2⟩ := hgo
    have hv := hh h (List.mem_cons_self ..)
    obtain ⟨q1, q2⟩ := hour_wl v hv hg hp hy hxy w h1
    refine ⟨q1, ?_⟩
    cases hf : firstB (hourF c false (h.more x none 0) gs s).ws ms 0 with
    | some p => rw [hf] at h2; cases h2
    | none =>
      rw [hf] at h2
      have hn := (firstB_none _ _ _).1 hf
      have : firstB (hourF c false (h.more y none 0) gs t).ws ms 0 = none := (firstB_none _ _ _).2 fun j hj => by
        have := hn j (by rw [q2.1.1]; exact hj)
        have := q2.1.2 j
        omega
      rw [this]
      exact go_less v hp hy hxy r (boardsF h gs) _ _ (fun u hu => hh u (List.mem_cons_of_mem _ hu)) (boards_good hg hv) q2 h2
theorem MQ.less {q : MQ} (v : q.Vd) {a b : Nat} (hab : a ≤ b) (h : q.g b = true) : q.g a = true := by
  refine go_less v.c (x := ⟨q.pond, b⟩) (y := ⟨q.pond, a⟩) rfl (by show (0 : Int) ≤ (a : Int); omega) (by show (a : Int) ≤ (b : Int); omega) q.hs q.c.gs _ _ v.hv v.c.g ⟨⟨rfl, fun _ => Int.le_refl _⟩, ?_⟩ h
  exact nn_of (v.c.ahead false)
theorem MQ.one {q : MQ} (v : q.Vd) {m n : Nat} (hm : q.is m) (hn : q.is n) : m = n := by
  obtain ⟨m1, m2, m3⟩ := hm
  obtain ⟨n1, n2, n3⟩ := hn
  rcases Nat.lt_trichotomy m n with h | h | h
  · rcases m3 with m3 | m3
    · omega
    · rw [MQ.less v (show m + 1 ≤ n from h) n2] at m3; cases m3
  · exact h
  · rcases n3 with n3 | n3
    · omega
    · rw [MQ.less v (show n + 1 ≤ m from h) m2] at n3; cases n3
/-- What is returned is told by the arguments. -/
theorem MQ.same {q : MQ} {H : Hp} (hq : q.At H) {n e n' e' : Int} (h : q.res n e) (k : q.res n' e') : n = n' ∧ e = e' := by
  rcases h with ⟨a, rfl, rfl⟩ | ⟨a, b, rfl, rfl⟩ | ⟨a, b, c, rfl, rfl⟩ | ⟨a, b, rfl, m, rfl, hm⟩ <;> rcases k with ⟨a', rfl, rfl⟩ | ⟨a', b', rfl, rfl⟩ | ⟨a', b', c', rfl, rfl⟩ | ⟨a', b', rfl, m', rfl, hm'⟩
  all_goals first
    | exact ⟨rfl, rfl⟩
    | exact absurd a a'
    | exact absurd a' a
    | (rw [b] at b'; cases b'; done)
    | skip
  · have := MQ.less (MQ.vd hq a b) (Nat.zero_le m') hm'.2.1
    rw [c] at this; cases this
  · have := MQ.less (MQ.vd hq a b) (Nat.zero_le m) hm.2.1
    rw [c'] at this; cases this
  · rw [MQ.one (MQ.vd hq a b) hm hm']; exact ⟨rfl, rfl⟩
end Go.Ax
namespace Go.Ax
open Go Go.RowKit Go.Proofs
end Go.Ax
namespace Go.Ax
open Go Go.RowKit Go.Proofs
end Go.Ax
namespace Go.Ax
open Go Go.RowKit Go.Proofs
end Go.Ax
namespace Go.Ax
open Go Go.RowKit Go.Proofs
end Go.Ax
namespace Go.Ax
open Go Go.RowKit Go.Proofs
end Go.Ax
namespace Go.Ax
open Go Go.RowKit Go.Proofs
end Go.Ax
namespace Go.Ax
open Go Go.RowKit Go.Proofs
end Go.Ax
namespace Go.Ax
open Go Go.RowKit Go.Proofs
end Go.Ax

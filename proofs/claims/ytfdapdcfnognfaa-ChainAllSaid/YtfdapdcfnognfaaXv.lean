import Derived.Test.YtfdapdcfnognfaaAxW4
import Derived.Test.YtfdapdcfnognfaaChecked
import Derived.Test.YtfdapdcfnognfaaXt
import Derived.Test.YtfdapdcfnognfaaXu
set_option linter.all false
namespace Go.Ax
open Go Go.RowKit Go.Proofs
end Go.Ax
namespace Go.Ax
open Go Go.RowKit Go.Proofs
theorem N12 : Try.f12.ntmps = 100 := by kernel_rfl
theorem Z12 : Try.f12.results.toList = ((List.toArray [(.tmp 10)]) : Array ResultVar).toList := by kernel_rfl
theorem B12 : Try.f12.body = some (at_ Try.f12 []) := by kernel_rfl
theorem E12_1 : at_ Try.f12 [1, 1, 1, 1, 0, 1, 0] = .loop (at_ Try.f12 [1, 1, 1, 1, 0, 1, 0, 0]) := by kernel_rfl
noncomputable def R12x1 : RC := (.seq (.reg [⟨(some 53), none, (.cmp .lss (.tmp 52) (.tmp 51))⟩])
  (.seq (.cond (.tmp 53) .skip
  (.exit 0))
  (.seq (.block 1 (.seq (.reg [⟨(some 54), none, (.idx (.tmp 50) (.tmp 52) 3)⟩, ⟨(some 55), none, (.lda (.tmp 54) 3)⟩, ⟨(some 14), none, (.alc 30 [(.slice none 0 0), (.slice none 0 0), (.slice none 0 0)])⟩, ⟨none, none, (.sta (.tmp 14) (.tmp 55) 3)⟩])
  (.seq (.reg [⟨(some 56), none, (.addo (.tmp 14) 2)⟩, ⟨(some 57), none, (.ld (.tmp 56) 1)⟩, ⟨(some 58), none, (.len (.tmp 57))⟩, ⟨(some 59), none, (.cmp .geq (.tmp 58) (.const (.int .i64 32)))⟩])
  (.cond (.tmp 59) (.seq (.reg [⟨(some 60), none, (.call ⟨(.value (.func 15)), (List.toArray []), (List.toArray [])⟩ true)⟩, ⟨(some 10), none, (.mov (.tmp 60))⟩])
  .ret)
  .skip))))
  (.reg [⟨(some 61), none, (.ari .add (.tmp 52) (.const (.int .i64 1)))⟩, ⟨(some 52), none, (.mov (.tmp 61))⟩]))))
theorem L12x1 : low Try.prog Try.f12.ntmps (at_ Try.f12 [1, 1, 1, 1, 0, 1, 0, 0]) = some R12x1 := by kernel_rfl
theorem N42 : Try.f42.ntmps = 83 := by kernel_rfl
theorem Z42 : Try.f42.results.toList = ((List.toArray [(.tmp 7)]) : Array ResultVar).toList := by kernel_rfl
theorem B42 : Try.f42.body = some (at_ Try.f42 []) := by kernel_rfl
theorem E42_1 : at_ Try.f42 [1, 1, 1, 0, 1, 0] = .loop (at_ Try.f42 [1, 1, 1, 0, 1, 0, 0]) := by kernel_rfl
theorem E42_2 : at_ Try.f42 [1, 1, 1, 0, 1, 0, 0, 1, 1, 0, 0, 1, 1, 0, 1, 0] = .loop (at_ Try.f42 [1, 1, 1, 0, 1, 0, 0, 1, 1, 0, 0, 1, 1, 0, 1, 0, 0]) := by kernel_rfl
noncomputable def R42x2 : RC := (.seq (.reg [⟨(some 40), none, (.cmp .lss (.tmp 39) (.tmp 38))⟩])
  (.seq (.cond (.tmp 40) .skip
  (.exit 2))
  (.seq (.block 3 (.seq (.reg [⟨(some 41), none, (.idx (.tmp 37) (.tmp 39) 2)⟩, ⟨(some 42), none, (.lda (.tmp 41) 2)⟩, ⟨(some 13), none, (.alc 86 [(.int .i64 0), (.int .i64 0)])⟩, ⟨none, none, (.sta (.tmp 13) (.tmp 42) 2)⟩])
  (.reg [⟨(some 43), none, (.mov (.tmp 9))⟩, ⟨(some 44), none, (.addo (.tmp 13) 1)⟩, ⟨(some 45), none, (.ld (.tmp 44) 1)⟩, ⟨(some 46), none, (.ari .add (.tmp 43) (.tmp 45))⟩, ⟨(some 9), none, (.mov (.tmp 46))⟩])))
  (.reg [⟨(some 47), none, (.ari .add (.tmp 39) (.const (.int .i64 1)))⟩, ⟨(some 39), none, (.mov (.tmp 47))⟩]))))
theorem L42x2 : low Try.prog Try.f42.ntmps (at_ Try.f42 [1, 1, 1, 0, 1, 0, 0, 1, 1, 0, 0, 1, 1, 0, 1, 0, 0]) = some R42x2 := by kernel_rfl
theorem N43 : Try.f43.ntmps = 6 := by kernel_rfl
theorem Z43 : Try.f43.results.toList = ((List.toArray [(.cell 2 35)]) : Array ResultVar).toList := by kernel_rfl
theorem B43 : Try.f43.body = some (at_ Try.f43 []) := by kernel_rfl
noncomputable def R43 : RC := (.seq (.reg [⟨(some 2), none, (.alc 35 [(.int .i64 0), (.int .i64 0)])⟩])
  (.seq (.reg [⟨(some 3), none, (.mov (.tmp 0))⟩, ⟨(some 4), none, (.mov (.tmp 0))⟩, ⟨(some 5), none, (.pur ⟨(some 5), (.build 35 (List.toArray [(0, (.tmp 3)), (1, (.tmp 4))])), 35, "", (List.toArray []), none⟩)⟩, ⟨none, none, (.sta (.tmp 2) (.tmp 5) 2)⟩])
  .ret))
theorem L43 : low Try.prog Try.f43.ntmps (at_ Try.f43 []) = some R43 := by kernel_rfl
end Go.Ax
namespace Go.Ax
open Go Go.RowKit Go.Proofs
end Go.Ax
namespace Go.Ax
open Go Go.RowKit Go.Proofs
end Go.Ax
namespace Go.Ax
open Go Go.RowKit Go.Proofs
end Go.Ax
namespace Go.Ax
open Go Go.RowKit Go.Proofs
end Go.Ax
namespace Go.Ax
open Go Go.RowKit Go.Proofs
/-- No pond has more in the first one, nor less than nothing in the second one. -/
def WL (s t : St) : Prop := Le s.ws t.ws ∧ NN t
theorem come_wl {p : Int × Nat} (hp : 0 ≤ p.1) {s t : St} (h : WL s t) : WL (comeS s p) (comeS t p) := by
  have a := h.1.2 p.2; have b := h.2 p.2
  exact ⟨h.1.set (by omega), NN.set h.2 (by omega)⟩
theorem flow_wl {x : Gt} (z1 : 0 ≤ x.sill + x.boards * x.step) (z2 : 0 ≤ x.most) {s t : St} (h : WL s t) : WL (flowS s x) (flowS t x) := by
  have a := h.1.2 x.fr.toNat; have b := h.2 x.fr.toNat
  have hf : flowL s.ws x ≤ flowL t.ws x := by unfold flowL; generalize x.sill + x.boards * x.step = z at *; omega
  have hf2 : s.ws.getD x.fr.toNat 0 - flowL s.ws x ≤ t.ws.getD x.fr.toNat 0 - flowL t.ws x := by unfold flowL; generalize x.sill + x.boards * x.step = z at *; omega
  have hf3 : 0 ≤ flowL t.ws x ∧ flowL t.ws x ≤ t.ws.getD x.fr.toNat 0 := by unfold flowL; generalize x.sill + x.boards * x.step = z at *; omega
  exact ⟨h.1.move hf2 hf, NN.move h.2 hf3.1 hf3.2⟩
theorem take_wl {x y : Tk} (hp : x.pond = y.pond) (hy : 0 ≤ y.amount) (hxy : y.amount ≤ x.amount) {s t : St} (h : WL s t) (hs : x.amount ≤ s.ws.getD x.pond.toNat 0) : WL (takeS s x) (takeS t y) := by
  have a := h.1.2 y.pond.toNat; have b := h.2 y.pond.toNat
  rw [hp] at hs
  refine ⟨?_, NN.set h.2 (by unfold takeL; omega)⟩
  show Le (s.ws.set x.pond.toNat (s.ws.getD x.pond.toNat 0 - takeL s.ws x)) _
  rw [hp]
  refine h.1.set ?_
  unfold takeL; rw [hp]; omega
theorem seep_wl {g : Bool} {p : Pd} {i : Nat} (hp : PdLe g g p p) {s t : St} (h : WL s t) : WL (seepS g s (p, i)) (seepS g t (p, i)) := by
  have a := h.1.2 i; have b := h.2 i
  exact ⟨h.1.set (stay_le hp b a), NN.set h.2 (stay_nn b ⟨hp.b2.1, hp.b2.2.1⟩ ⟨hp.b2.2.2.1, hp.b2.2.2.2⟩)⟩
theorem spill_wl {p : Pd} {i : Nat} (hf : 0 ≤ p.full) {s t : St} (h : WL s t) : WL (spillS s (p, i)) (spillS t (p, i)) := by
  have h5 := h.1.2 i; have h6 := h.2 i
  have hf1 : spillL s (p, i) ≤ spillL t (p, i) := by unfold spillL; simp only; omega
  have hf2 : s.ws.getD i 0 - spillL s (p, i) ≤ t.ws.getD i 0 - spillL t (p, i) := by unfold spillL; simp only; omega
  exact ⟨h.1.move hf2 hf1, NN.move h.2 (by unfold spillL; omega) (by unfold spillL; simp only; omega)⟩
theorem takes_wl : ∀ (l : List Tk) {x y : Tk} (_ : x.pond = y.pond) (_ : 0 ≤ y.amount) (_ : y.amount ≤ x.amount) (_ : ∀ t ∈ l, 0 ≤ t.amount) {s t : St}, WL s t → satB (l ++ [x]) s = true → satB (l ++ [y]) t = true ∧ WL ((l ++ [x]).foldl takeS s) ((l ++ [y]).foldl takeS t)
  | [], x, y, hp, hy, hxy, _, s, t, h, hs => by
    simp only [List.nil_append, satB, Bool.and_true, List.foldl_cons, List.foldl_nil] at hs ⊢
    have hs := of_decide_eq_true hs
    have a := h.1.2 y.pond.toNat
    refine ⟨decide_eq_true ?_, take_wl hp hy hxy h hs⟩
    rw [hp] at hs; omega
  | z :: l, x, y, hp, hy, hxy, hl, s, t, h, hs => by
    simp only [List.cons_append, satB, Bool.and_eq_true, List.foldl_cons] at hs ⊢
    obtain ⟨h1, h2⟩ := hs
    have h1 := of_decide_eq_true h1
    have a := h.1.2 z.pond.toNat
    have hz := hl z (List.mem_cons_self ..)
    obtain ⟨q1, q2⟩ := takes_wl l hp hy hxy (fun u hu => hl u (List.mem_cons_of_mem _ hu)) (take_wl rfl hz (Int.le_refl _) h h1) h2
    exact ⟨⟨decide_eq_true (by omega), q1⟩, q2⟩
theorem foldWL {α : Type} {f : St → α → St} : ∀ (l : List α), (∀ x ∈ l, ∀ s t, WL s t → WL (f s x) (f t x)) → ∀ s t, WL s t → WL (l.foldl f s) (l.foldl f t)
  | [], _, _, _, h => h
  | x :: l, hf, s, t, h => foldWL l (fun y hy => hf y (List.mem_cons_of_mem _ hy)) _ _ (hf x (List.mem_cons_self ..) s t h)

theorem pond_self {c : Ch} (v : c.Vd) {p : Pd} (hp : p ∈ c.ponds) : PdLe false false p p := by
  obtain ⟨⟨a1, a2, a3, a4⟩, f1, f2⟩ := pond_facts v p hp
  exact ⟨rfl, rfl, Int.le_refl _, Int.le_refl _, fun h => h, ⟨a1, a2, a3, a4⟩, ⟨a1, a2, a3, a4⟩, by omega⟩
/-- an hour with more taken, against one with less -/
theorem hour_wl {c : Ch} (v : c.Vd) {h : Hr} {gs : List Gt} {x y : Tk} (hv : hourB h c.pn c.gn = true) (hg : gs.all (fun g => gateB g c.pn) = true) (hp : x.pond = y.pond) (hy : 0 ≤ y.amount) (hxy : y.amount ≤ x.amount) {s t : St} (w : WL s t) (hs : satF c false (h.more x none 0) gs s = true) :
    satF c false (h.more y none 0) gs t = true ∧ WL (hourF c false (h.more x none 0) gs s) (hourF c false (h.more y none 0) gs t) := by
  have hf := hour_facts hv
  have hb := boards_good hg hv
  have ht : ∀ t ∈ h.ts, 0 ≤ t.amount := fun t htm => by
    simp only [hourB, Bool.and_eq_true] at hv
    have := List.all_eq_true.1 hv.2 t htm
    simp [waterB] at this; omega
  have e1 : WL ((endS false h.cs).zipIdx.foldl comeS s) ((endS false h.cs).zipIdx.foldl comeS t) := foldWL (f := comeS) ((endS false h.cs).zipIdx) (fun p hp' s t w => come_wl (by
    obtain ⟨i, hi⟩ := List.getElem?_of_mem hp'
    obtain ⟨z, hz, rfl⟩ := zip_elim hi
    have := List.mem_of_getElem? hz
    simp only [endS, List.mem_map] at this
    obtain ⟨q, hq, rfl⟩ := this
    have := hf q hq
    simp [endV]; omega) w) _ _ w
  have e2 : WL (gatesS (boardsF h gs) ((endS false h.cs).zipIdx.foldl comeS s)) (gatesS (boardsF h gs) ((endS false h.cs).zipIdx.foldl comeS t)) := foldWL (f := flowS) (boardsF h gs) (fun g hgm s t w => by
    obtain ⟨z1, z2⟩ := gate_nn (List.all_eq_true.1 hb g hgm)
    exact flow_wl z1 z2 w) _ _ e1
  obtain ⟨q1, q2⟩ := takes_wl h.ts hp hy hxy ht e2 hs
  refine ⟨q1, ?_⟩
  have e4 := foldWL (f := seepS false) c.ponds.zipIdx (fun p hp' s t w => by
    obtain ⟨i, hi⟩ := List.getElem?_of_mem hp'
    obtain ⟨z, hz, rfl⟩ := zip_elim hi
    exact seep_wl (pond_self v (List.mem_of_getElem? hz)) w) _ _ q2
  exact foldWL (f := spillS) c.ponds.zipIdx (fun p hp' s t w => by
    obtain ⟨i, hi⟩ := List.getElem?_of_mem hp'
    obtain ⟨z, hz, rfl⟩ := zip_elim hi
    exact spill_wl (by have := (pond_facts v z (List.mem_of_getElem? hz)).2; omega) w) _ _ e4
theorem go_less {c : Ch} (v : c.Vd) {ms : List Int} {x y : Tk} (hp : x.pond = y.pond) (hy : 0 ≤ y.amount) (hxy : y.amount ≤ x.amount) : ∀ (hs : List Hr) (gs : List Gt) (s t : St), (∀ h ∈ hs, hourB h c.pn c.gn = true) → gs.all (fun g => gateB g c.pn) = true → WL s t → goGo c ms x gs s hs = true → goGo c ms y gs t hs = true
  | [], _, _, _, _, _, _, _ => rfl
  | h :: r, gs, s, t, hh, hg, w, hgo => by
    simp only [goGo, Bool.and_eq_true] at hgo ⊢
    obtain ⟨h1, h2⟩ := hgo
    have hv := hh h (List.mem_cons_self ..)
    obtain ⟨q1, q2⟩ := hour_wl v hv hg hp hy hxy w h1
    refine ⟨q1, ?_⟩
    cases hf : firstB (hourF c false (h.more x none 0) gs s).ws ms 0 with
    | some p => rw [hf] at h2; cases h2
    | none =>
      rw [hf] at h2
      have hn := (firstB_none _ _ _).1 hf
      have : firstB (hourF c false (h.more y none 0) gs t).ws ms 0 = none := (firstB_none _ _ _).2 fun j hj => by
        have := hn j (by rw [q2.1.1]; exact hj)
        have := q2.1.2 j
        omega
      rw [this]
      exact go_less v hp hy hxy r (boardsF h gs) _ _ (fun u hu => hh u (List.mem_cons_of_mem _ hu)) (boards_good hg hv) q2 h2
theorem MQ.less {q : MQ} (v : q.Vd) {a b : Nat} (hab : a ≤ b) (h : q.g b = true) : q.g a = true := by
  refine go_less v.c (x := ⟨q.pond, b⟩) (y := ⟨q.pond, a⟩) rfl (by show (0 : Int) ≤ (a : Int); omega) (by show (a : Int) ≤ (b : Int); omega) q.hs q.c.gs _ _ v.hv v.c.g ⟨⟨rfl, fun _ => Int.le_refl _⟩, ?_⟩ h
  exact nn_of (v.c.ahead false)
theorem MQ.one {q : MQ} (v : q.Vd) {m n : Nat} (hm : q.is m) (hn : q.is n) : m = n := by
  obtain ⟨m1, m2, m3⟩ := hm
  obtain ⟨n1, n2, n3⟩ := hn
  rcases Nat.lt_trichotomy m n with h | h | h
  · rcases m3 with m3 | m3
    · omega
    · rw [MQ.less v (show m + 1 ≤ n from h) n2] at m3; cases m3
  · exact h
  · rcases n3 with n3 | n3
    · omega
    · rw [MQ.less v (show n + 1 ≤ m from h) m2] at n3; cases n3
/-- What is returned is told by the arguments. -/
theorem MQ.same {q : MQ} {H : Hp} (hq : q.At H) {n e n' e' : Int} (h : q.res n e) (k : q.res n' e') : n = n' ∧ e = e' := by
  rcases h with ⟨a, rfl, rfl⟩ | ⟨a, b, rfl, rfl⟩ | ⟨a, b, c, rfl, rfl⟩ | ⟨a, b, rfl, m, rfl, hm⟩ <;> rcases k with ⟨a', rfl, rfl⟩ | ⟨a', b', rfl, rfl⟩ | ⟨a', b', c', rfl, rfl⟩ | ⟨a', b', rfl, m', rfl, hm'⟩
  all_goals first
    | exact ⟨rfl, rfl⟩
    | exact absurd a a'
    | exact absurd a' a
    | (rw [b] at b'; cases b'; done)
    | skip
  · have := MQ.less (MQ.vd hq a b) (Nat.zero_le m') hm'.2.1
    rw [c] at this; cases this
  · have := MQ.less (MQ.vd hq a b) (Nat.zero_le m) hm.2.1
    rw [c'] at this; cases this
  · rw [MQ.one (MQ.vd hq a b) hm hm']; exact ⟨rfl, rfl⟩
end Go.Ax
namespace Go.Ax
open Go Go.RowKit Go.Proofs
end Go.Ax
namespace Go.Ax
open Go Go.RowKit Go.Proofs
def amt (ts : List Tk) : Int := (ts.map Tk.amount).sum
def amtH (hs : List Hr) : Int := (hs.map fun h => amt h.ts).sum
theorem takes_tk : ∀ (ts : List Tk) (s : St), (ts.foldl takeS s).taken ≤ s.taken + amt ts ∧ ((ts.foldl takeS s).taken = s.taken + amt ts ↔ satB ts s = true)
  | [], s => by simp [amt, satB]
  | t :: r, s => by
    obtain ⟨h1, h2⟩ := takes_tk r (takeS s t)
    have e : (takeS s t).taken = s.taken + takeL s.ws t := rfl
    have ea : amt (t :: r) = t.amount + amt r := by simp [amt]
    simp only [List.foldl_cons, satB, ea, Bool.and_eq_true]
    rw [e] at h1 h2
    have hl : takeL s.ws t ≤ t.amount := by unfold takeL; omega
    refine ⟨by omega, ?_⟩
    by_cases q : t.amount ≤ s.ws.getD t.pond.toNat 0
    · have ht : takeL s.ws t = t.amount := by unfold takeL; omega
      rw [← h2, ht]
      constructor
      · intro h; exact ⟨decide_eq_true q, by omega⟩
      · intro h; omega
    · have ht : takeL s.ws t < t.amount := by unfold takeL; omega
      constructor
      · intro h; omega
      · intro h; exact absurd (of_decide_eq_true h.1) q
theorem fold_tk {α : Type} {f : St → α → St} (h : ∀ s x, (f s x).taken = s.taken) : ∀ (l : List α) (s : St), (l.foldl f s).taken = s.taken
  | [], _ => rfl
  | x :: l, s => by rw [List.foldl_cons, fold_tk h l, h]
theorem hour_tk {c : Ch} {g : Bool} {h : Hr} {gs : List Gt} {s : St} : (hourF c g h gs s).taken ≤ s.taken + amt h.ts ∧ (g = false → ((hourF c g h gs s).taken = s.taken + amt h.ts ↔ satF c false h gs s = true)) := by
  have e1 : (hourF c g h gs s).taken = (h.ts.foldl takeS (gatesS (boardsF h gs) (comesS (mkX c h ⟨0, 0, none, 0⟩ g 0) s))).taken := by
    unfold hourF hourS spillsS seepsS
    rw [fold_tk (f := spillS) (fun _ _ => rfl), fold_tk (f := seepS _) (fun _ _ => rfl)]
    rfl
  have e2 : (gatesS (boardsF h gs) (comesS (mkX c h ⟨0, 0, none, 0⟩ g 0) s)).taken = s.taken := by
    unfold gatesS comesS
    rw [fold_tk (f := flowS) (fun _ _ => rfl), fold_tk (f := comeS) (fun _ _ => rfl)]
  obtain ⟨h1, h2⟩ := takes_tk h.ts (gatesS (boardsF h gs) (comesS (mkX c h ⟨0, 0, none, 0⟩ g 0) s))
  rw [← e1, e2] at h1 h2
  exact ⟨h1, fun hg => by subst hg; exact h2⟩
def stepH (c : Ch) (g : Bool) (x : List Gt × St) (h : Hr) : List Gt × St := (boardsF h x.1, hourF c g h x.1 x.2)
theorem run_tk {c : Ch} {g : Bool} : ∀ (L : List Hr) (x : List Gt × St), (L.foldl (stepH c g) x).2.taken ≤ x.2.taken + amtH L
  | [], x => by simp [amtH]
  | h :: r, x => by
    have h1 := (hour_tk (c := c) (g := g) (h := h) (gs := x.1) (s := x.2)).1
    have h2 := run_tk (c := c) (g := g) r (stepH c g x h)
    have e : (stepH c g x h).2.taken = (hourF c g h x.1 x.2).taken := rfl
    rw [e] at h2
    have ea : amtH (h :: r) = amt h.ts + amtH r := by simp [amtH]
    rw [List.foldl_cons, ea]; omega
/-- The hours with one more take each, wherever they lie. -/
def MoreOf (m : Tk) (h h' : Hr) : Prop := ∃ a cap, h' = h.more m a cap
theorem go_iff {c : Ch} {ms : List Int} {m : Tk} : ∀ (hs L : List Hr) (gs : List Gt) (s : St) (k : Nat), All2 (MoreOf m) hs L →
    (goGo c ms m gs s hs = true ↔ lowGo c ms gs s L k = none ∧ (L.foldl (stepH c false) (gs, s)).2.taken = s.taken + amtH L)
  | [], [], gs, s, k, _ => by simp [goGo, lowGo, amtH]
  | [], _ :: _, _, _, _, h => h.elim
  | _ :: _, [], _, _, _, h => h.elim
  | h :: hs, h' :: L, gs, s, k, hl => by
    obtain ⟨⟨a, cap, rfl⟩, hr⟩ := hl
    have ih := go_iff (c := c) (ms := ms) (m := m) hs L (boardsF h gs) (hourF c false (h.more m none 0) gs s) (k + 1) hr
    obtain ⟨h1, h2⟩ := hour_tk (c := c) (g := false) (h := h.more m none 0) (gs := gs) (s := s)
    have h2 := h2 rfl
    have h3 := run_tk (c := c) (g := false) L (boardsF h gs, hourF c false (h.more m none 0) gs s)
    simp only at h3
    have ea : amtH (h.more m a cap :: L) = amt (h.more m none 0).ts + amtH L := by simp [amtH, Hr.more]
    have es : (h.more m a cap :: L).foldl (stepH c false) (gs, s) = L.foldl (stepH c false) (boardsF h gs, hourF c false (h.more m none 0) gs s) := rfl
    have el : lowGo c ms gs s (h.more m a cap :: L) k = match firstB (hourF c false (h.more m none 0) gs s).ws ms 0 with
      | some p => some (k, p)
      | none => lowGo c ms (boardsF h gs) (hourF c false (h.more m none 0) gs s) L (k + 1) := rfl
    rw [ea, es, el]
    simp only [goGo, Bool.and_eq_true]
    rw [← h2]
    cases hf : firstB (hourF c false (h.more m none 0) gs s).ws ms 0 with
    | some p => simp
    | none =>
      simp only
      rw [ih]
      constructor
      · rintro ⟨x1, x2, x3⟩; exact ⟨x2, by omega⟩
      · rintro ⟨x2, x3⟩; exact ⟨by omega, x2, by omega⟩
theorem foG_fold {g : Bool} {c : Ch} {hs : List Hr} {n : Nat} (h : hs.length = n) : foG g c hs n = hs.foldl (stepH c g) (c.gs, s0 g c) := by
  unfold foG; rw [List.take_of_length_le (by omega)]; rfl
end Go.Ax
namespace Go.Ax
open Go Go.RowKit Go.Proofs
noncomputable def R42x1t26 : RC := (.dreg [⟨(some 26), none, (.mem ⟨(some 26), (.buildSlice 28 0 (List.toArray [])), 28, "", (List.toArray []), none⟩)⟩, ⟨(some 27), none, (.addo (.tmp 11) 2)⟩, ⟨(some 28), none, (.ld (.tmp 27) 1)⟩, ⟨(some 29), none, (.mem ⟨(some 29), (.call ⟨(.builtin .append), (List.toArray [(.tmp 26), (.tmp 28)]), (List.toArray [28, 28])⟩), 28, "", (List.toArray []), none⟩)⟩, ⟨(some 30), none, (.ld (.tmp 2) 1)⟩, ⟨(some 31), none, (.mov (.tmp 0))⟩, ⟨(some 32), none, (.pur ⟨(some 32), (.build 86 (List.toArray [(0, (.tmp 30)), (1, (.tmp 31))])), 86, "", (List.toArray []), none⟩)⟩, ⟨(some 33), none, (.mem ⟨(some 33), (.buildSlice 28 1 (List.toArray [(0, (.tmp 32))])), 28, "", (List.toArray []), none⟩)⟩, ⟨(some 34), none, (.mem ⟨(some 34), (.call ⟨(.builtin .append), (List.toArray [(.tmp 29), (.tmp 33)]), (List.toArray [28, 28])⟩), 28, "", (List.toArray []), none⟩)⟩, ⟨(some 35), none, (.addo (.tmp 11) 2)⟩, ⟨none, none, (.st (.tmp 35) (.tmp 34))⟩] [1023, 511, 255, 112, 48, 0, 0, 7, 2, 0, 0])
theorem L42x1t26 : low Try.prog 83 (at_ Try.f42 [1, 1, 1, 0, 1, 0, 0, 1, 1, 0, 0, 1, 0]) = some R42x1t26 := by kernel_rfl
noncomputable def R42x1t36 : RC := (.reg [⟨(some 36), none, (.addo (.tmp 11) 2)⟩, ⟨(some 37), none, (.ld (.tmp 36) 1)⟩, ⟨(some 38), none, (.len (.tmp 37))⟩, ⟨(some 39), none, (.mov (.const (.int .i64 0)))⟩])
theorem L42x1t36 : low Try.prog 83 (at_ Try.f42 [1, 1, 1, 0, 1, 0, 0, 1, 1, 0, 0, 1, 1, 0, 0]) = some R42x1t36 := by kernel_rfl
noncomputable def R42x1t48 : RC := (.reg [⟨(some 48), none, (.mov (.tmp 8))⟩, ⟨(some 49), none, (.lda (.tmp 11) 3)⟩, ⟨(some 50), none, (.mem ⟨(some 50), (.buildSlice 47 1 (List.toArray [(0, (.tmp 49))])), 47, "", (List.toArray []), none⟩)⟩, ⟨(some 51), none, (.mem ⟨(some 51), (.call ⟨(.builtin .append), (List.toArray [(.tmp 48), (.tmp 50)]), (List.toArray [47, 47])⟩), 47, "", (List.toArray []), none⟩)⟩, ⟨(some 8), none, (.mov (.tmp 51))⟩])
theorem L42x1t48 : low Try.prog 83 (at_ Try.f42 [1, 1, 1, 0, 1, 0, 0, 1, 1, 0, 0, 1, 1, 1]) = some R42x1t48 := by kernel_rfl
noncomputable def R42x1e : RC := (.reg [⟨(some 52), none, (.ari .add (.tmp 22) (.const (.int .i64 1)))⟩, ⟨(some 22), none, (.mov (.tmp 52))⟩])
theorem L42x1e : low Try.prog 83 (at_ Try.f42 [1, 1, 1, 0, 1, 0, 0, 1, 1, 1]) = some R42x1e := by kernel_rfl
noncomputable def R42x1v : RC := (.seq (.reg [⟨(some 23), none, (.cmp .lss (.tmp 22) (.tmp 21))⟩])
  (.seq (.cond (.tmp 23) .skip
  (.exit 0))
  (.seq (.block 1 (.seq (.reg [⟨(some 24), none, (.idx (.tmp 20) (.tmp 22) 3)⟩, ⟨(some 25), none, (.lda (.tmp 24) 3)⟩, ⟨(some 11), none, (.alc 30 [(.slice none 0 0), (.slice none 0 0), (.slice none 0 0)])⟩, ⟨none, none, (.sta (.tmp 11) (.tmp 25) 3)⟩])
  (.seq (.other (at_ Try.f42 [1, 1, 1, 0, 1, 0, 0, 1, 1, 0, 0, 1, 0]))
  (.seq (.seq (.other (at_ Try.f42 [1, 1, 1, 0, 1, 0, 0, 1, 1, 0, 0, 1, 1, 0, 0]))
  (.block 2 (.other (at_ Try.f42 [1, 1, 1, 0, 1, 0, 0, 1, 1, 0, 0, 1, 1, 0, 1, 0]))))
  (.other (at_ Try.f42 [1, 1, 1, 0, 1, 0, 0, 1, 1, 0, 0, 1, 1, 1]))))))
  (.other (at_ Try.f42 [1, 1, 1, 0, 1, 0, 0, 1, 1, 1])))))
theorem V42x1 : LT Try.prog 83 (at_ Try.f42 [1, 1, 1, 0, 1, 0, 0]) R42x1v := by
  have e : at_ Try.f42 [1, 1, 1, 0, 1, 0, 0] = (.seq (at_ Try.f42 [1, 1, 1, 0, 1, 0, 0, 0]) (.seq (at_ Try.f42 [1, 1, 1, 0, 1, 0, 0, 1, 0]) (.seq (.block 1 (.seq (at_ Try.f42 [1, 1, 1, 0, 1, 0, 0, 1, 1, 0, 0, 0]) (.seq (at_ Try.f42 [1, 1, 1, 0, 1, 0, 0, 1, 1, 0, 0, 1, 0]) (.seq (.seq (at_ Try.f42 [1, 1, 1, 0, 1, 0, 0, 1, 1, 0, 0, 1, 1, 0, 0]) (at_ Try.f42 [1, 1, 1, 0, 1, 0, 0, 1, 1, 0, 0, 1, 1, 0, 1])) (at_ Try.f42 [1, 1, 1, 0, 1, 0, 0, 1, 1, 0, 0, 1, 1, 1]))))) (at_ Try.f42 [1, 1, 1, 0, 1, 0, 0, 1, 1, 1])))) := by kernel_rfl
  rw [e]
  exact (.seq (.low (by kernel_rfl)) (.seq (.low (by kernel_rfl)) (.seq (.block 1 (.seq (.low (by kernel_rfl)) (.seq (.other _) (.seq (.seq (.other _) (.low (by kernel_rfl))) (.other _))))) (.other _))))

section
variable {kn : FuncId → Option Bool} {lo : Nat} {H : Hp}
/-- the takes of an hour, copied, and one more: both appends -/
theorem app_more {x : Hr} {m : Tk} {H1 : Hp} (ha1 : x.At H1) (htn : x.tn ≤ 999) (hlo : lo ≤ H.next) (hH1 : H.new (.cells [] 86 false) = H1) :
    ∃ v H2 kd, (∀ (n : Nat) (S : Rg) (d : Option Tmp) (p q : Operand) (ty : TypeId) (s : String), evS S p = some (.slice (some ⟨H.next, 0, none⟩) 0 0) → evS S q = some (.slice x.ta x.tn x.tcap) → heapOp Try.prog lo (frS n S) H1 ⟨d, .call ⟨.builtin .append, #[p, q], #[28, 28]⟩, ty, s, #[], none⟩ = some (.val v H2, kd)) ∧ (kd = .pure ∨ kd = .heavy) ∧ Keep H1 H2 [] ∧
      ∀ H3, H2.new (.cells [iv m.pond, iv m.amount] 86 false) = H3 → ∃ a cap H4 kd, a = some ⟨H3.next, 0, none⟩ ∧ (∀ (n : Nat) (S : Rg) (d : Option Tmp) (p q : Operand) (ty : TypeId) (s : String), evS S p = some v → evS S q = some (.slice (some ⟨H2.next, 0, none⟩) 1 1) → heapOp Try.prog lo (frS n S) H3 ⟨d, .call ⟨.builtin .append, #[p, q], #[28, 28]⟩, ty, s, #[], none⟩ = some (.val (.slice a (x.tn + 1) cap) H4, kd)) ∧ (kd = .heavy ∨ ∃ b, kd = .store b ∧ H.next ≤ b) ∧ Sl H4 a (x.tn + 1) cap (tkc (x.ts ++ [m])) ∧ Keep H H4 [] := by
  have hg1 : H1.t.get H.next = some (.cells [] 86 false) := by
    rw [← hH1]; show (H.t.set H.next _).get H.next = _; rw [Tr.get_set, if_pos rfl]
  obtain ⟨k1, n1, c1⟩ := new_facts hH1
  rcases Nat.eq_zero_or_pos x.tn with h0 | h0
  · have hts : x.ts = [] := List.eq_nil_of_length_eq_zero (by rw [ha1.lt]; exact h0)
    have hst := ha1.t
    rw [h0, hts] at hst
    refine ⟨.slice (some ⟨H.next, 0, none⟩) 0 0, H1, .pure, fun n S d p q ty s hp hq => ?_, .inl rfl, Keep.refl _ _, fun H3 hH3 => ?_⟩
    · rw [h0] at hq
      exact heap_append_none se28 u28 hp hq hst rfl
    obtain ⟨k3, n3, c3⟩ := new_facts hH3
    have hg3 : H3.t.get H.next = some (.cells [] 86 false) := by rw [k3.2 _ c1.lt (by simp)]; exact hg1
    obtain ⟨H4, hH4⟩ : ∃ H4, H3.new (.cells [iv m.pond, iv m.amount] 86 true) = H4 := ⟨_, rfl⟩
    obtain ⟨k4, n4, c4⟩ := new_facts hH4
    refine ⟨some ⟨H3.next, 0, none⟩, 1, H4, .heavy, rfl, fun n S d p q ty s hp hq => ?_, .inl rfl, ?_, k1.trans (k3.trans k4)⟩
    · rw [h0, ← hH4]
      exact heap_append_empty (b0 := H.next) se28 u28 hg3 hp hq (.inr ⟨H1.next, rfl, c3.rd, Nat.le_refl _⟩) rfl (by omega) (by omega)
    · rw [h0, hts]
      exact .inr ⟨H3.next, rfl, c4.rd, Nat.le_refl _⟩
  · obtain ⟨H2, hH2⟩ : ∃ H2, H1.new (.cells (tkc x.ts) 86 true) = H2 := ⟨_, rfl⟩
    have hlen := tkc_len x.ts
    rw [ha1.lt] at hlen
    obtain ⟨k2, n2, c2⟩ := new_facts hH2
    have hg2 : H2.t.get H1.next = some (.cells (tkc x.ts) 86 true) := by rw [← hH2]; show (H1.t.set H1.next _).get H1.next = _; rw [Tr.get_set, if_pos rfl]
    refine ⟨.slice (some ⟨H1.next, 0, none⟩) x.tn x.tn, H2, .heavy, fun n S d p q ty s hp hq => ?_, .inr rfl, k2, fun H3 hH3 => ?_⟩
    · rw [← hH2]
      exact heap_append_empty (b0 := H.next) se28 u28 hg1 hp hq ha1.t hlen (by omega) h0
    obtain ⟨k3, n3, c3⟩ := new_facts hH3
    have k13 := k2.trans k3
    have hg3 : H3.t.get H1.next = some (.cells (tkc x.ts) 86 true) := by rw [k3.2 _ c2.lt (by simp)]; exact hg2
    obtain ⟨H4, kd, happ, hkd, hacc, hkp⟩ := heap_append_one (lo := lo) (H := H3) (f := H.next) (k := x.tn) (v := .slice (some ⟨H1.next, 0, none⟩) x.tn x.tn) (cs := tkc x.ts) (news := [iv m.pond, iv m.amount]) (a := some ⟨H2.next, 0, none⟩) (cap2 := 1) se28 u28 (.inr ⟨H2.next, rfl, c3.rd, Nat.le_refl _⟩) rfl (by omega) rfl hlen (by omega)
      (.inr ⟨H1.next, rfl, h0, by omega, by omega, by have := k13.1; omega, hg3⟩) (by omega) (by omega)
    refine ⟨some ⟨H3.next, 0, none⟩, x.tn + 1, H4, kd, rfl, happ, hkd, ?_, hkp H rfl (k1.trans k13)⟩
    rcases hacc with ⟨h, _⟩ | ⟨b, e, _, _, _, hb, hg⟩
    · omega
    · cases e
      refine .inr ⟨H3.next, rfl, ⟨hb, ?_⟩, Nat.le_refl _⟩
      unfold cellsOf; rw [hg, tkc_app]; rfl

theorem more42 {S : Rg} {K : Exit → Rg → Hp → Prop} {x : Hr} {b11 bp : Nat} {m : Tk} {v1 v3 v4 v5 v8 v9 v20 v21 v22 : Value} (c11 : Cl H b11 x.v) (hp : Rd H bp [iv m.pond]) (ha : x.At H) (htn : x.tn ≤ 999) (hlo : lo ≤ H.next) (hlb : lo ≤ b11) (hne : bp ≠ b11) (ob : ∀ b, x.ba = some ⟨b, 0, none⟩ → b ≠ b11) (oc : ∀ b, x.ca = some ⟨b, 0, none⟩ → b ≠ b11)
    (hS : Subs [(0, iv m.amount), (1, v1), (2, pt bp), (3, v3), (4, v4), (5, v5), (8, v8), (9, v9), (11, pt b11), (20, v20), (21, v21), (22, v22)] S)
    (hK : ∀ S' H' a cap, Subs [(0, iv m.amount), (1, v1), (2, pt bp), (3, v3), (4, v4), (5, v5), (8, v8), (9, v9), (11, pt b11), (20, v20), (21, v21), (22, v22)] S' → Keep H H' [b11] → Cl H' b11 (x.more m a cap).v → (x.more m a cap).At H' → (∀ b, a = some ⟨b, 0, none⟩ → H.next ≤ b) → K .normal S' H') :
    Tri Try.prog kn lo 83 false (at_ Try.f42 [1, 1, 1, 0, 1, 0, 0, 1, 1, 0, 0, 1, 0]) S H K := by
  refine tri_piece L42x1t26 hS ?_
  have h11 := c11.lt
  obtain ⟨H1, hH1⟩ : ∃ H1, H.new (.cells [] 86 false) = H1 := ⟨_, rfl⟩
  obtain ⟨k1, n1, c1⟩ := new_facts hH1
  have c11a := k1.cl c11 (by simp)
  have ha1 := ha.keep k1
  obtain ⟨v, H2, kd33, h33, hkd33, k2, hcase⟩ := app_more (lo := lo) (m := m) ha1 htn hlo hH1
  have k12 := k1.trans k2
  have hp2 := k12.rd hp (by simp)
  obtain ⟨H3, hH3⟩ : ∃ H3, H2.new (.cells [iv m.pond, iv m.amount] 86 false) = H3 := ⟨_, rfl⟩
  obtain ⟨a, cap, H4, kd, ea, happ, hkd, hsl, k4⟩ := hcase H3 hH3
  have c4 := k4.cl c11 (by simp)
  have ha4 := ha.keep k4
  have n3 : H3.next = H2.next + 1 := by rw [← hH3]; rfl
  have hne' : H3.next ≠ b11 := by have := k1.1; have := k2.1; omega
  have fin : ∀ (S' : Rg) (H5 : Hp), Subs [(0, iv m.amount), (1, v1), (2, pt bp), (3, v3), (4, v4), (5, v5), (8, v8), (9, v9), (11, pt b11), (20, v20), (21, v21), (22, v22)] S' → (∃ e l, H4.up b11 (.cells ((x.v).set 2 (.slice a (x.tn + 1) cap)) e l) = H5) → K .normal S' H5 := by
    rintro S' H5 hS' ⟨e, l, hH5⟩
    obtain ⟨k5, n5, c5⟩ := up_facts c4 hH5
    have c5 : Cl H5 b11 (x.more m a cap).v := c5
    exact hK S' H5 a cap hS' ((k4.mono (by simp)).trans k5) c5 ⟨k5.sl ha4.b (fun b e => by simpa using ob b e), k5.sl ha4.c (fun b e => by simpa using oc b e), k5.sl hsl (fun b e => by rw [ea] at e; cases e; simpa using hne'), ha.lb, ha.lc, by simp [Hr.more, ha.lt]⟩ (fun b e => by rw [ea] at e; cases e; have := k12.1; omega)
  obtain ⟨_, e4, l4, g4⟩ := id c4
  refine And.intro rfl (Or.inr (And.intro rfl (Exists.intro _ (Exists.intro H1 (Exists.intro _ (And.intro ((heap_build0 se28 z86).trans (by rw [← hH1])) (And.intro (fun b e => by cases e) ?_)))))))
  refine Exists.intro _ (Exists.intro _ (And.intro c11a.of (And.intro rfl (And.intro c11a.lt ?_))))
  have fr : H.next ≠ b11 := by omega
  rcases hkd33 with rfl | rfl <;> rcases hkd with rfl | ⟨bs, rfl, hbs⟩
  all_goals
    refine And.intro rfl (Or.inr (And.intro (by kernel_rfl) (Exists.intro v (Exists.intro H2 (Exists.intro _ (And.intro (h33 83 _ _ _ _ _ _ rfl rfl) (And.intro (fun b e => by cases e) ?_)))))))
    refine Exists.intro _ (Exists.intro _ (And.intro hp2.of (And.intro rfl (And.intro hp2.lt ?_))))
    refine And.intro rfl (Exists.intro (.agg #[iv m.pond, iv m.amount]) (And.intro (by kernel_rfl) ?_))
    refine And.intro rfl (Or.inr (And.intro (by kernel_rfl) (Exists.intro (.slice (some ⟨H2.next, 0, none⟩) 1 1) (Exists.intro H3 (Exists.intro .heavy (And.intro ((heap_build1 (v := .agg #[iv m.pond, iv m.amount]) se28 z86 rfl rfl rfl (by decide)).trans (by rw [← hH3]; rfl)) (And.intro (fun b e => by cases e) ?_)))))))
    refine And.intro rfl (Or.inr (And.intro (by kernel_rfl) (Exists.intro (.slice a (x.tn + 1) cap) (Exists.intro H4 (Exists.intro _ (And.intro (happ 83 _ _ _ _ _ _ rfl rfl) (And.intro (fun b e => by cases e) ?_)))))))
    refine Exists.intro _ (Exists.intro _ (Exists.intro _ (And.intro g4 (And.intro hlb (And.intro rfl (And.intro rfl (And.intro (by simp [Hr.v]) ?_)))))))
    intro H5 hH5
    refine And.intro (by repeat' first | exact True.intro | exact (fun h => h) | refine And.intro ?_ ?_) ?_
    exact fin _ H5 ⟨rfl, rfl, rfl, rfl, rfl, rfl, rfl, rfl, rfl, rfl, rfl, rfl, trivial⟩ ⟨_, _, hH5⟩
end
end Go.Ax
namespace Go.Ax
open Go Go.RowKit Go.Proofs
theorem All2.snoc {α β : Type} {R : α → β → Prop} : ∀ {l : List α} {m : List β} {x : α} {y : β}, All2 R l m → R x y → All2 R (l ++ [x]) (m ++ [y])
  | [], [], _, _, _, h => ⟨h, trivial⟩
  | [], _ :: _, _, _, h, _ => h.elim
  | _ :: _, [], _, _, h, _ => h.elim
  | _ :: _, _ :: _, _, _, h, k => ⟨h.1, h.2.snoc k⟩
theorem amt_app (l m : List Tk) : amt (l ++ m) = amt l + amt m := by simp [amt]
theorem amtH_app (l m : List Hr) : amtH (l ++ m) = amtH l + amtH m := by simp [amtH]
theorem amt_bound : ∀ (ts : List Tk) {pn : Nat}, ts.all (fun t => indexB t.pond pn && waterB t.amount) = true → 0 ≤ amt ts ∧ amt ts ≤ ts.length * 68719476736
  | [], _, _ => by simp [amt]
  | t :: r, pn, h => by
    simp only [List.all_cons, Bool.and_eq_true] at h
    have h1 := amt_bound r h.2
    have h2 := h.1.2
    simp only [waterB, Bool.and_eq_true, decide_eq_true_eq] at h2
    have : amt (t :: r) = t.amount + amt r := by simp [amt]
    rw [this]
    simp only [List.length_cons, Int.natCast_add, Int.add_mul]
    omega

section
variable {kn : FuncId → Option Bool} {lo : Nat} {H : Hp}
theorem len42 {S : Rg} {K : Exit → Rg → Hp → Prop} {b11 : Nat} {y : Hr} {v0 v1 v2 v3 v4 v5 v8 v9 v20 v21 v22 : Value} (c11 : Cl H b11 y.v)
    (hS : Subs [(0, v0), (1, v1), (2, v2), (3, v3), (4, v4), (5, v5), (8, v8), (9, v9), (11, pt b11), (20, v20), (21, v21), (22, v22)] S)
    (hK : ∀ S', Subs [(37, .slice y.ta y.tn y.tcap), (38, iv (y.tn : Int)), (39, iv ((0 : Nat) : Int)), (0, v0), (1, v1), (2, v2), (3, v3), (4, v4), (5, v5), (8, v8), (9, v9), (11, pt b11), (20, v20), (21, v21), (22, v22)] S' → K .normal S' H) :
    Tri Try.prog kn lo 83 false (at_ Try.f42 [1, 1, 1, 0, 1, 0, 0, 1, 1, 0, 0, 1, 1, 0, 0]) S H K := by
  refine tri_piece L42x1t36 hS ?_
  refine Exists.intro _ (Exists.intro _ (And.intro c11.of (And.intro rfl ?_)))
  exact hK _ ⟨rfl, rfl, rfl, rfl, rfl, rfl, rfl, rfl, rfl, rfl, rfl, rfl, rfl, rfl, rfl, trivial⟩
theorem sum42 {S : Rg} {K : Exit → Rg → Hp → Prop} {y : Hr} {T B : Int} {v0 v1 v2 v3 v4 v5 v8 v11 v20 v21 v22 : Value} {pn : Nat} (ha : y.At H) (htn : y.tn ≤ 999) (hts : y.ts.all (fun t => indexB t.pond pn && waterB t.amount) = true) (h0 : 0 ≤ T) (hB : T ≤ 1125899906842624) (hlo : lo ≤ H.next)
    (hS : Subs [(37, .slice y.ta y.tn y.tcap), (38, iv (y.tn : Int)), (39, iv ((0 : Nat) : Int)), (0, v0), (1, v1), (2, v2), (3, v3), (4, v4), (5, v5), (8, v8), (9, iv T), (11, v11), (20, v20), (21, v21), (22, v22)] S)
    (hK : ∀ S' H', Subs [(0, v0), (1, v1), (2, v2), (3, v3), (4, v4), (5, v5), (8, v8), (9, iv (T + amt y.ts)), (11, v11), (20, v20), (21, v21), (22, v22)] S' → Keep H H' [] → K (.exit 2) S' H') :
    Tri Try.prog kn lo 83 false (at_ Try.f42 [1, 1, 1, 0, 1, 0, 0, 1, 1, 0, 0, 1, 1, 0, 1, 0]) S H K := by
  refine loop_low (fn := Try.f42) E42_2 N42 L42x2 (fun i : Nat => [(37, .slice y.ta y.tn y.tcap), (38, iv (y.tn : Int)), (39, iv (i : Int)), (0, v0), (1, v1), (2, v2), (3, v3), (4, v4), (5, v5), (8, v8), (9, iv (T + amt (y.ts.take i))), (11, v11), (20, v20), (21, v21), (22, v22)])
    (fun k i H' => i + k = y.tn ∧ Keep H H' []) y.tn 0 ⟨by omega, Keep.refl _ _⟩ (by simpa [amt] using hS) ?_
  rintro k i H1 ⟨hik, hk⟩
  refine And.intro (fun hlt => ?_) (fun hge => ?_)
  · have hi : i < y.tn := by simpa using hlt
    have hlt' := ha.lt
    have hta := hk.sl0 ha.t
    rcases hta with ⟨_, h0, _⟩ | ⟨tb, eta, htc, _⟩
    · omega
    obtain ⟨x, hx⟩ := get_some (l := y.ts) (i := i) (by omega)
    rw [eta]
    refine Exists.intro i (And.intro rfl (And.intro hi ?_))
    refine Exists.intro _ (Exists.intro _ (And.intro htc.of (And.intro (row_flat (f := Tk.v) (fun _ _ => rfl) hx) ?_)))
    intro H2 hH2
    obtain ⟨k2, n2, c2⟩ := new_facts hH2
    obtain ⟨_, e2, l2, g2⟩ := id c2
    have hkn := hk.1
    refine Exists.intro _ (Exists.intro _ (Exists.intro _ (And.intro g2 (And.intro (by omega) (And.intro rfl (And.intro rfl (And.intro (by simp) ?_)))))))
    intro H3 hH3
    obtain ⟨k3, n3, c3⟩ := up_facts c2 hH3
    have c3 : Cl H3 H1.next x.v := c3
    refine Exists.intro _ (Exists.intro _ (And.intro c3.of (And.intro rfl ?_)))
    have hts1 : (y.ts.take (i + 1)) = y.ts.take i ++ [x] := by rw [List.take_add_one, hx]; rfl
    have e1 : amt (y.ts.take (i + 1)) = amt (y.ts.take i) + x.amount := by rw [hts1, amt_app]; simp [amt]
    have hall : ∀ j, (y.ts.take j).all (fun t => indexB t.pond pn && waterB t.amount) = true := fun j => List.all_eq_true.2 fun z hz => List.all_eq_true.1 hts z (List.mem_of_mem_take hz)
    have b1 := amt_bound _ (hall i)
    have b2 := amt_bound _ (hall (i + 1))
    have l1 : ((y.ts.take i).length : Int) ≤ 1000 := by have := List.length_take_le i y.ts; rw [List.length_take]; omega
    have l2 : ((y.ts.take (i + 1)).length : Int) ≤ 1000 := by rw [List.length_take]; omega
    have p1 := Int.mul_le_mul_of_nonneg_right l1 (show (0 : Int) ≤ 68719476736 by omega)
    have p2 := Int.mul_le_mul_of_nonneg_right l2 (show (0 : Int) ≤ 68719476736 by omega)
    refine And.intro (show InR (T + amt (y.ts.take i) + x.amount) from ⟨by omega, by omega⟩) ?_
    refine And.intro (show InR ((i : Int) + 1) from ⟨by omega, by omega⟩) ?_
    refine ⟨k - 1, i + 1, by omega, ⟨by omega, hk.trans (k2.new k3 (by simp))⟩, by first | rfl | (rw [eta]; rfl), rfl, rfl, rfl, rfl, rfl, rfl, rfl, rfl, rfl, ?_, rfl, rfl, rfl, rfl, trivial⟩
    show some (iv (T + amt (y.ts.take i) + x.amount)) = some (iv (T + amt (y.ts.take (i + 1))))
    rw [e1, Int.add_assoc]
  · have hi : ¬ i < y.tn := by simpa using hge
    have hin : i = y.tn := by omega
    subst hin
    have hlt' := ha.lt
    rw [List.take_of_length_le (by omega)]
    exact hK _ _ ⟨rfl, rfl, rfl, rfl, rfl, rfl, rfl, rfl, rfl, rfl, rfl, rfl, trivial⟩ hk
theorem app42 {S : Rg} {K : Exit → Rg → Hp → Prop} {b11 k f : Nat} {y : Hr} {cs : List Value} {w v0 v1 v2 v3 v4 v5 v9 v20 v21 v22 : Value} (c11 : Cl H b11 y.v) (acc : Acc lo f 30 H w k cs) (hcl : cs.length = k * 3) (hk : k < 1000) (hlo : lo ≤ H.next) (hf : f ≤ H.next)
    (hS : Subs [(0, v0), (1, v1), (2, v2), (3, v3), (4, v4), (5, v5), (8, w), (9, v9), (11, pt b11), (20, v20), (21, v21), (22, v22)] S)
    (hK : ∀ S' H' w', Subs [(0, v0), (1, v1), (2, v2), (3, v3), (4, v4), (5, v5), (8, w'), (9, v9), (20, v20), (21, v21), (22, v22)] S' → Keep H H' (accB w) → (∀ b ∈ accB w', H.next ≤ b) → Acc lo f 30 H' w' (k + 1) (cs ++ y.v) → K .normal S' H') :
    Tri Try.prog kn lo 83 false (at_ Try.f42 [1, 1, 1, 0, 1, 0, 0, 1, 1, 0, 0, 1, 1, 1]) S H K := by
  refine tri_piece L42x1t48 hS ?_
  refine Exists.intro _ (Exists.intro _ (And.intro c11.of (And.intro (show row 3 _ _ = some y.v from rfl) ?_)))
  obtain ⟨H7, hH7⟩ : ∃ H7, H.new (.cells y.v 30 false) = H7 := ⟨_, rfl⟩
  refine And.intro rfl (Or.inr (And.intro rfl (Exists.intro _ (Exists.intro H7 (Exists.intro _ (And.intro ((heap_build1 (v := .agg y.v.toArray) se47 z30 rfl rfl rfl (by decide)).trans (by rw [← hH7]; rfl)) (And.intro (fun b e => by cases e) ?_)))))))
  obtain ⟨k7, n7, c7⟩ := new_facts hH7
  clear hH7
  have hsl : Sl H7 (some ⟨H.next, 0, none⟩) 1 1 y.v := .inr ⟨H.next, rfl, c7.rd, Nat.le_refl _⟩
  obtain ⟨H8, kd, h8, hkd, acc8, k8, n8⟩ := heap_append_two (P := Try.prog) (lo := lo) (k := k) (t1 := 47) se47 u47 hsl rfl (by decide) rfl hcl hk (acc.keep k7) (by omega) (by omega)
  refine And.intro rfl (Or.inr (And.intro (by cases w <;> kernel_rfl) (Exists.intro _ (Exists.intro H8 (Exists.intro _ (And.intro (h8 _ _ _ _ _ _ _ rfl rfl) (And.intro (reg_ok hkd _) ?_)))))))
  exact hK _ H8 _ ⟨rfl, rfl, rfl, rfl, rfl, rfl, rfl, rfl, rfl, rfl, rfl, trivial⟩ ((k7.mono (by simp)).trans k8) (fun b hb => by simp [accB] at hb; omega) acc8
end
/-- Where the hours lie that are made. -/
structure MAt (Fn : Nat) (v : Value) (H : Hp) (r : Hr) : Prop where
  at_ : r.At H
  b : ∀ b, r.ba = some ⟨b, 0, none⟩ → b < Fn
  c : ∀ b, r.ca = some ⟨b, 0, none⟩ → b < Fn
  t : ∀ b, r.ta = some ⟨b, 0, none⟩ → b < H.next ∧ b ∉ accB v
section
variable {kn : FuncId → Option Bool} {lo : Nat} {H : Hp}
theorem loop42 {S : Rg} {K : Exit → Rg → Hp → Prop} {hs : List Hr} {m : Tk} {la : Option Addr} {ln lcap bp pn gn : Nat} {v1 v3 v4 v5 : Value} (hl : Sl H la ln lcap (hrc hs)) (hln : hs.length = ln) (ha : ∀ h ∈ hs, h.At H) (hv : ∀ h ∈ hs, hourB h pn gn = true) (hn : ln ≤ 200) (hp : Rd H bp [iv m.pond]) (m1 : indexB m.pond pn = true) (m2 : waterB m.amount = true) (hlo : lo ≤ H.next)
    (hS : Subs [(0, iv m.amount), (1, v1), (2, pt bp), (3, v3), (4, v4), (5, v5), (8, .slice none 0 0), (9, iv 0), (20, .slice la ln lcap), (21, iv (ln : Int)), (22, iv ((0 : Nat) : Int))] S)
    (hK : ∀ S' w L H', Subs [(0, iv m.amount), (1, v1), (2, pt bp), (3, v3), (4, v4), (5, v5), (8, w), (9, iv (amtH L))] S' → L.length = ln → All2 (MoreOf m) hs L → Keep H H' [] → Acc lo H.next 30 H' w ln (hrc L) → (∀ r ∈ L, r.At H') → K (.exit 0) S' H') :
    Tri Try.prog kn lo 83 false (at_ Try.f42 [1, 1, 1, 0, 1, 0]) S H K := by
  refine loop_lt E42_1 V42x1 (fun x : Value × List Hr => [(0, iv m.amount), (1, v1), (2, pt bp), (3, v3), (4, v4), (5, v5), (8, x.1), (9, iv (amtH x.2)), (20, .slice la ln lcap), (21, iv (ln : Int)), (22, iv (x.2.length : Int))])
    (fun k x H2 => x.2.length + k = ln ∧ All2 (MoreOf m) (hs.take x.2.length) x.2 ∧ Keep H H2 [] ∧ Acc lo H.next 30 H2 x.1 x.2.length (hrc x.2) ∧ 0 ≤ amtH x.2 ∧ amtH x.2 ≤ x.2.length * 4398046511104 ∧ (∀ r ∈ x.2, MAt H.next x.1 H2 r)) ln (.slice none 0 0, []) ⟨by simp, by simp [All2], Keep.refl _ _, .inl ⟨rfl, rfl, rfl⟩, by simp [amtH], by simp [amtH], fun r hr => by simp at hr⟩ (by simpa [amtH] using hS) ?_
  rintro k ⟨w, L⟩ H2 ⟨hik, hrs, hk, hacc, hT0, hTB, hat⟩
  simp only at hik hrs hacc hat hT0 hTB
  have hkn := hk.1
  refine And.intro (fun hlt' => ?_) (fun hge => ?_)
  · have hi : L.length < ln := by simpa using hlt'
    have hl2 := hk.sl0 hl
    rcases hl2 with ⟨_, h0, _⟩ | ⟨lb, ela, hlc, _⟩
    · omega
    obtain ⟨h, hx⟩ := get_some (l := hs) (i := L.length) (by omega)
    have hm := List.mem_of_getElem? hx
    have hvh := hv h hm
    have hat0 := ha h hm
    have htn : h.tn ≤ 32 := by simp [hourB] at hvh; omega
    rw [ela]
    refine Exists.intro L.length (And.intro rfl (And.intro hi ?_))
    refine Exists.intro _ (Exists.intro _ (And.intro hlc.of (And.intro (row_flat (f := Hr.v) (fun _ _ => rfl) hx) ?_)))
    intro H3 hH3; obtain ⟨k3, n3, c3⟩ := new_facts hH3; clear hH3
    obtain ⟨_, e3, l3, g3⟩ := id c3
    refine Exists.intro _ (Exists.intro _ (Exists.intro _ (And.intro g3 (And.intro (by omega) (And.intro rfl (And.intro rfl (And.intro (by simp) ?_)))))))
    intro H4 hH4; obtain ⟨k4, n4, c4⟩ := up_facts c3 hH4; clear hH4
    have c4 : Cl H4 H2.next h.v := c4
    have k24 : Keep H2 H4 [] := k3.new k4 (by simp)
    have k04 := hk.trans k24
    have hn24 := k24.1
    have hpl := hp.lt
    refine more42 (m := m) c4 (k04.rd hp (by simp)) (hat0.keep k04) (by omega) (by omega) (by omega) (by omega) (fun b e => by have := hat0.b.lt b e; omega) (fun b e => by have := hat0.c.lt b e; omega) ⟨rfl, rfl, rfl, rfl, rfl, rfl, rfl, rfl, rfl, rfl, rfl, rfl, trivial⟩ ?_
    intro S5 H5 a cap hS5 k5 c5 at5 fr5
    have hn5 := k5.1
    have k25 : Keep H2 H5 [] := k24.new k5 (fun b hb => .inr (by simp at hb; omega))
    refine len42 c5 hS5 ?_
    intro S6 hS6
    have hW := more_W (a := a) (cap := cap) hvh m1 m2
    have hts : (h.more m a cap).ts.all (fun t => indexB t.pond pn && waterB t.amount) = true := by
      simp only [hourW, Bool.and_eq_true] at hW
      exact hW.2
    have hLn : ((L.length : Nat) : Int) ≤ 200 := by omega
    have hTB2 := Int.mul_le_mul_of_nonneg_right hLn (show (0 : Int) ≤ 4398046511104 by omega)
    refine sum42 (y := h.more m a cap) (T := amtH L) (B := 0) at5 (by show h.tn + 1 ≤ 999; omega) hts hT0 (by omega) (by omega) hS6 ?_
    intro S7 H7 hS7 k7
    have hn7 := k7.1
    have k27 := k25.trans k7
    have c7 := k7.cl c5 (by simp)
    refine app42 (f := H.next) c7 (hacc.keep k27) (by rw [hrc_len]) (by omega) (by omega) (by omega) hS7 ?_
    intro S8 H8 w8 hS8 k8 hw8 acc8
    obtain ⟨s0, s1, s2, s3, s4, s5, s8, s9, s20, s21, s22, _⟩ := hS8
    refine tri_piece (S0 := [(0, iv m.amount), (1, v1), (2, pt bp), (3, v3), (4, v4), (5, v5), (8, w8), (9, iv (amtH L + amt (h.more m a cap).ts)), (20, slv lb ln lcap), (21, iv (ln : Int)), (22, iv (L.length : Int))]) L42x1e ⟨s0, s1, s2, s3, s4, s5, s8, s9, s20, s21, s22, trivial⟩ ?_
    refine And.intro (show InR ((L.length : Int) + 1) from ⟨by omega, by omega⟩) ?_
    have hblk := hacc.blk
    have kH8 : Keep H H8 [] := (hk.trans k27).new k8 (fun b hb => .inr (hblk b hb).1)
    have ea : amtH (L ++ [h.more m a cap]) = amtH L + amt (h.more m a cap).ts := by rw [amtH_app]; simp [amtH]
    have hab := amt_bound _ hts
    have hal : ((h.more m a cap).ts.length : Int) ≤ 33 := by
      have : (h.more m a cap).ts.length = h.tn + 1 := by simp [Hr.more, hat0.lt]
      rw [this]; omega
    have hab2 := Int.mul_le_mul_of_nonneg_right hal (show (0 : Int) ≤ 68719476736 by omega)
    have at8 : (h.more m a cap).At H8 := ⟨k8.sl (at5.keep k7).b (fun b e hb => by have := (hblk b hb).1; have := hat0.b.lt b e; omega), k8.sl (at5.keep k7).c (fun b e hb => by have := (hblk b hb).1; have := hat0.c.lt b e; omega), k8.sl (at5.keep k7).t (fun b e hb => by have := (hblk b hb).2; have := fr5 b e; omega), at5.lb, at5.lc, at5.lt⟩
    refine ⟨k - 1, (w8, L ++ [h.more m a cap]), by omega, ⟨by simp; omega, ?_, kH8, ?_, by simp only; rw [ea]; omega, ?_, fun r hr => ?_⟩, rfl, rfl, rfl, rfl, rfl, rfl, rfl, by simp only; rw [ea]; rfl, by first | rfl | (rw [ela]; rfl), rfl, ?_, trivial⟩
    · have e1 : hs.take (L ++ [h.more m a cap]).length = hs.take L.length ++ [h] := by rw [List.length_append, List.length_singleton, List.take_add_one, hx]; rfl
      simp only
      rw [e1]
      exact hrs.snoc ⟨a, cap, rfl⟩
    · simp only
      have e2 : hrc (L ++ [h.more m a cap]) = hrc L ++ (h.more m a cap).v := by simp [hrc, List.flatMap_append]
      rw [e2, List.length_append]
      exact acc8
    · simp only
      rw [ea, List.length_append, List.length_singleton]
      simp only [Int.natCast_add, Int.add_mul]
      omega
    · simp only [List.mem_append, List.mem_singleton] at hr
      have k28 : Keep H2 H8 (accB w) := (k27.mono (by simp)).trans k8
      rcases hr with hr | rfl
      · have r0 := hat r hr
        refine ⟨⟨k28.sl r0.at_.b (fun b e hb => by have := r0.b b e; have := (hblk b hb).1; omega), k28.sl r0.at_.c (fun b e hb => by have := r0.c b e; have := (hblk b hb).1; omega), k28.sl r0.at_.t (fun b e => (r0.t b e).2), r0.at_.lb, r0.at_.lc, r0.at_.lt⟩, r0.b, r0.c, fun b e => ⟨by have := (r0.t b e).1; have := k28.1; omega, fun hb => by have := hw8 b hb; have := (r0.t b e).1; have := k27.1; omega⟩⟩
      · refine ⟨at8, fun b e => hat0.b.lt b e, fun b e => hat0.c.lt b e, fun b e => ⟨at8.t.lt b e, fun hb => ?_⟩⟩
        have h1 := hw8 b hb
        have := at5.t.lt b e
        omega
    · show some (iv ((L.length : Int) + 1)) = some (iv ((L ++ [h.more m a cap]).length : Int))
      simp
  · have hi : ¬ L.length < ln := by simpa using hge
    have hin : L.length = ln := by omega
    rw [hin] at hacc
    rw [List.take_of_length_le (by omega)] at hrs
    exact hK _ w L H2 ⟨rfl, rfl, rfl, rfl, rfl, rfl, rfl, rfl, trivial⟩ hin hrs hk hacc (fun r hr => (hat r hr).at_)
end
end Go.Ax
namespace Go.Ax
open Go Go.RowKit Go.Proofs
theorem eq_struct {P : Program} {d : Nat} {t : TypeId} {xs ys : Array Value} {fs : Array Field} (hu : prun P (underlying t) = some (.struct fs)) (hp : P.stoodInHeld t = false) (r : Field → Bool)
    (hf : ∀ f ∈ fs.toList, f.name ≠ "_" ∧ ∃ v w, prun P (part f.type xs f.offset) = some v ∧ prun P (part f.type ys f.offset) = some w ∧ prun P (Op.equalIn d f.type v w) = some (r f)) :
    prun P (Op.equalIn (d + 1) t (.agg xs) (.agg ys)) = some (fs.toList.all r) := by
  simp only [Op.equalIn, prun_bind, hu, Option.bind_some, show prun P program = some P from rfl, hp, Bool.false_eq_true, if_false]
  rw [← Array.forIn_toList]
  generalize fs.toList = l at hf
  induction l with
  | nil => rfl
  | cons f l ih =>
    obtain ⟨hn, v, w, h1, h2, h3⟩ := hf f (by simp)
    have ih := ih (fun g hg => hf g (by simp [hg]))
    simp only [List.forIn_cons, prun_bind, prun_ite, List.all_cons]
    rw [if_pos hn]
    cases hr : r f with
    | true =>
      simp only [h1, h2, h3, hr, Option.bind_some, Bool.not_true, Bool.false_eq_true, if_false, prun_pure, Bool.true_and]
      exact ih
    | false =>
      simp only [h1, h2, h3, hr, Option.bind_some, Bool.not_false, if_true, prun_pure, Bool.false_and]
theorem eq_int {d : Nat} {x y : Int} : prun Try.prog (Op.equalIn (d + 1) 3 (iv x) (iv y)) = some (x == y) := by kernel_rfl
theorem nm35 : (fldsIn Try.prog 35).toList.map (fun f => (f.name, f.type, f.offset)) = [("Lo", 3, 0), ("Hi", 3, 1)] := by kernel_rfl
theorem eq_span {d : Nat} {a b c e : Int} : prun Try.prog (Op.equalIn (d + 2) 35 (sp a b) (sp c e)) = some (a == c && b == e) := by
  rw [eq_struct (xs := #[iv a, iv b]) (ys := #[iv c, iv e]) un35 st35 (fun f => if f.offset = 0 then a == c else b == e)]
  · have h : ((fldsIn Try.prog 35).toList.map (fun f => (f.name, f.type, f.offset))).all (fun z => if z.2.2 = 0 then a == c else b == e) = (a == c && b == e) := by rw [nm35]; simp
    rw [List.all_map] at h
    rw [← h]
    rfl
  · intro f hf
    have h : (f.name, f.type, f.offset) ∈ [("Lo", 3, 0), ("Hi", 3, 1)] := by rw [← nm35]; exact List.mem_map.mpr ⟨f, hf, rfl⟩
    simp only [List.mem_cons, List.not_mem_nil, or_false, Prod.mk.injEq] at h
    rcases h with ⟨h0, h1, h2⟩ | ⟨h0, h1, h2⟩ <;> rw [h0, h1, h2]
    · exact ⟨by decide, iv a, iv c, by kernel_rfl, by kernel_rfl, eq_int⟩
    · exact ⟨by decide, iv b, iv e, by kernel_rfl, by kernel_rfl, eq_int⟩
theorem eg35e {x y : Operand} {u v : Array Value} : prun Try.prog (eqGuard .eql 35 x y (.agg u) (.agg v)) = some () := by kernel_rfl
theorem pur_eql35 {A : Fr} {o : Oper} {x y : Operand} {rt : TypeId} {a b c e : Int} (ho : o.op = .binOp .eql 35 x y rt) (hx : ev A x = some (sp a b)) (hy : ev A y = some (sp c e)) : pureOp Try.prog A o = some (.bool (a == c && b == e)) := by
  have h : prun Try.prog (do eqGuard .eql 35 x y (sp a b) (sp c e); binOp .eql 35 (sp a b) (sp c e)) = some (.bool (a == c && b == e)) := by
    rw [prun_bind, show prun Try.prog (eqGuard .eql 35 x y (sp a b) (sp c e)) = some () from eg35e, Option.bind_some]
    show prun Try.prog (do pure (Value.bool (← Op.equalIn (9998 + 2) 35 (sp a b) (sp c e)))) = _
    rw [prun_bind, eq_span]; rfl
  unfold pureOp
  simp only [ho, hx, hy]
  rw [show flat (sp a b) = true from rfl, show flat (sp c e) = true from rfl]
  simp only [Bool.and_self, cond_true, h]
  rfl
end Go.Ax
namespace Go.Ax
open Go Go.RowKit Go.Proofs
noncomputable def R42t54 : RC := (.seq (.reg [⟨(some 54), none, (.lda (.tmp 3) 2)⟩, ⟨(some 55), none, (.ld (.tmp 4) 1)⟩, ⟨(some 56), none, (.mov (.tmp 8))⟩, ⟨(some 57), none, (.call ⟨(.value (.func 25)), (List.toArray [(.tmp 54), (.tmp 55), (.tmp 56)]), (List.toArray [25, 26, 47])⟩ true)⟩, ⟨(some 53), none, (.mov (.tmp 57))⟩, ⟨(some 58), none, (.pur ⟨(some 58), (.extract (.tmp 53) 0), 26, "", (List.toArray []), none⟩)⟩, ⟨(some 59), none, (.pur ⟨(some 59), (.extract (.tmp 53) 1), 37, "", (List.toArray []), none⟩)⟩, ⟨(some 60), none, (.pur ⟨(some 60), (.extract (.tmp 53) 2), 38, "", (List.toArray []), none⟩)⟩, ⟨(some 15), none, (.alc 37 [(.int .i64 0), (.int .i64 0), (.int .i64 0), (.int .i64 0), (.int .i64 0), (.int .i64 0), (.int .i64 0), (.int .i64 0)])⟩, ⟨(some 14), none, (.mov (.tmp 58))⟩, ⟨none, none, (.sta (.tmp 15) (.tmp 59) 8)⟩, ⟨(some 16), none, (.mov (.tmp 60))⟩])
  (.seq (.reg [⟨(some 62), none, (.lda (.tmp 3) 2)⟩, ⟨(some 63), none, (.ld (.tmp 4) 1)⟩, ⟨(some 64), none, (.mov (.tmp 8))⟩, ⟨(some 65), none, (.ld (.tmp 5) 1)⟩, ⟨(some 66), none, (.call ⟨(.value (.func 27)), (List.toArray [(.tmp 62), (.tmp 63), (.tmp 64), (.tmp 65)]), (List.toArray [25, 26, 47, 33])⟩ true)⟩, ⟨(some 61), none, (.mov (.tmp 66))⟩, ⟨(some 67), none, (.pur ⟨(some 67), (.extract (.tmp 61) 0), 3, "", (List.toArray []), none⟩)⟩, ⟨(some 68), none, (.pur ⟨(some 68), (.extract (.tmp 61) 1), 3, "", (List.toArray []), none⟩)⟩, ⟨(some 69), none, (.pur ⟨(some 69), (.extract (.tmp 61) 2), 38, "", (List.toArray []), none⟩)⟩, ⟨(some 17), none, (.mov (.tmp 67))⟩, ⟨(some 18), none, (.mov (.tmp 68))⟩, ⟨(some 19), none, (.mov (.tmp 69))⟩])
  (.seq (.dreg [⟨(some 70), none, (.mov (.tmp 16))⟩, ⟨(some 71), none, (.cmpb .eql (.tmp 70) (.const (.int .i64 0)))⟩, ⟨(some 72), none, (.mov (.tmp 71))⟩, ⟨(some 73), (some (72, true)), (.mov (.tmp 19))⟩, ⟨(some 74), (some (72, true)), (.cmpb .eql (.tmp 73) (.const (.int .i64 4)))⟩, ⟨(some 75), none, (.pur ⟨(some 75), (.pick (.tmp 72) (.tmp 74) (.const (.bool false))), 4, "", (List.toArray []), none⟩)⟩, ⟨(some 76), none, (.mov (.tmp 75))⟩, ⟨(some 77), (some (76, true)), (.addo (.tmp 15) 6)⟩, ⟨(some 78), (some (76, true)), (.lda (.tmp 77) 2)⟩, ⟨(some 79), (some (76, true)), (.mov (.tmp 9))⟩, ⟨(some 80), (some (76, true)), (.call ⟨(.value (.func 43)), (List.toArray [(.tmp 79)]), (List.toArray [3])⟩ false)⟩, ⟨(some 81), (some (76, true)), (.pur ⟨(some 81), (.binOp .eql 35 (.tmp 78) (.tmp 80) 35), 4, "", (List.toArray []), none⟩)⟩, ⟨(some 82), none, (.pur ⟨(some 82), (.pick (.tmp 76) (.tmp 81) (.const (.bool false))), 4, "", (List.toArray []), none⟩)⟩, ⟨(some 7), none, (.mov (.tmp 82))⟩] [8191, 4095, 2047, 639, 127, 255, 127, 63, 31, 15, 7, 3, 1, 0])
  .ret)))
theorem L42t54 : low Try.prog 83 (at_ Try.f42 [1, 1, 1, 1]) = some R42t54 := by kernel_rfl
noncomputable def R42v : RC := (.seq (.reg [⟨(some 7), none, (.mov (.const (.bool false)))⟩])
  (.seq (.reg [⟨(some 8), none, (.mov (.const (.slice none 0 0)))⟩])
  (.seq (.reg [⟨(some 9), none, (.mov (.const (.int .i64 0)))⟩])
  (.seq (.seq (.reg [⟨(some 20), none, (.ld (.tmp 1) 1)⟩, ⟨(some 21), none, (.len (.tmp 20))⟩, ⟨(some 22), none, (.mov (.const (.int .i64 0)))⟩])
  (.block 0 (.other (at_ Try.f42 [1, 1, 1, 0, 1, 0]))))
  (.other (at_ Try.f42 [1, 1, 1, 1]))))))
theorem V42 : LT Try.prog 83 (at_ Try.f42 []) R42v := by
  have e : at_ Try.f42 [] = (.seq (at_ Try.f42 [0]) (.seq (at_ Try.f42 [1, 0]) (.seq (at_ Try.f42 [1, 1, 0]) (.seq (at_ Try.f42 [1, 1, 1, 0]) (at_ Try.f42 [1, 1, 1, 1]))))) := by kernel_rfl
  rw [e]
  exact (.seq (.low (by kernel_rfl)) (.seq (.low (by kernel_rfl)) (.seq (.low (by kernel_rfl)) (.seq (.low (by kernel_rfl)) (.other _)))))

theorem check_more {c : Ch} {m : Tk} : ∀ {hs L : List Hr}, All2 (MoreOf m) hs L → (∀ h ∈ hs, hourB h c.pn c.gn = true ∧ h.tn ≤ 31) → indexB m.pond c.pn = true → waterB m.amount = true → ∀ h ∈ L, hourB h c.pn c.gn = true
  | [], [], _, _, _, _ => fun h hm => by simp at hm
  | [], _ :: _, h, _, _, _ => h.elim
  | _ :: _, [], h, _, _, _ => h.elim
  | x :: hs, y :: L, hr, hh, m1, m2 => fun h hm => by
    rcases List.mem_cons.1 hm with rfl | hm
    · obtain ⟨a, cap, rfl⟩ := hr.1
      obtain ⟨hv, ht⟩ := hh x (List.mem_cons_self ..)
      simp only [hourB, Bool.and_eq_true] at hv
      obtain ⟨⟨⟨⟨⟨v1, v2⟩, v3⟩, v4⟩, v5⟩, v6⟩ := hv
      simp only [hourB, Hr.more, Bool.and_eq_true]
      refine ⟨⟨⟨⟨⟨v1, v2⟩, ?_⟩, v4⟩, v5⟩, ?_⟩
      · simp; omega
      · rw [List.all_append, v6]; simp [m1, m2]
    · exact check_more hr.2 (fun z hz => hh z (List.mem_cons_of_mem _ hz)) m1 m2 h hm
theorem cs_more {m : Tk} : ∀ {hs L : List Hr}, All2 (MoreOf m) hs L → (∀ h ∈ hs, h.cs.length = h.cn) → ∀ h ∈ L, h.cs.length = h.cn
  | [], [], _, _ => fun h hm => by simp at hm
  | [], _ :: _, h, _ => h.elim
  | _ :: _, [], h, _ => h.elim
  | x :: hs, y :: L, hr, hh => fun h hm => by
    rcases List.mem_cons.1 hm with rfl | hm
    · obtain ⟨a, cap, rfl⟩ := hr.1
      exact hh x (List.mem_cons_self ..)
    · exact cs_more hr.2 (fun z hz => hh z (List.mem_cons_of_mem _ hz)) h hm
/-- Run, Low and the sum tell what goes. -/
theorem goes_iff {q : MQ} {H : Hp} (hq : q.At H) (v : q.Vd) {a : Nat} (ha : a ≤ 68719476736) (h31 : ∀ h ∈ q.hs, h.tn ≤ 31) {L : List Hr} (hL : All2 (MoreOf ⟨q.pond, a⟩) q.hs L) (hln : L.length = q.ln) :
    (q.g a = true ↔ lowGo q.c q.ms q.c.gs (s0 false q.c) L 0 = none ∧ (foG false q.c L q.ln).2.taken = amtH L ∧ (foG true q.c L q.ln).2.taken = amtH L) := by
  have m2 : waterB ((⟨q.pond, a⟩ : Tk).amount) = true := by show waterB ((a : Nat) : Int) = true; simp only [waterB, Bool.and_eq_true, decide_eq_true_eq]; omega
  have hb := check_more hL (fun h hm => ⟨v.hv h hm, h31 h hm⟩) v.p m2
  have hc := cs_more hL (fun h hm => (hq.h h hm).lc)
  have e1 := go_iff (c := q.c) (ms := q.ms) q.hs L q.c.gs (s0 false q.c) 0 hL
  have le := (fo_sides v.c hb hc q.ln v.ln).tk
  have up := run_tk (c := q.c) (g := true) L (q.c.gs, s0 true q.c)
  rw [foG_fold hln] at le ⊢
  rw [foG_fold hln] at le ⊢
  have z1 : (s0 false q.c).taken = 0 := rfl
  have z2 : (s0 true q.c).taken = 0 := rfl
  simp only [z1, z2, Int.zero_add] at e1 up
  show goGo _ _ _ _ _ _ = true ↔ _
  rw [e1]
  constructor
  · rintro ⟨x1, x2⟩; exact ⟨x1, x2, by omega⟩
  · rintro ⟨x1, x2, x3⟩; exact ⟨x1, x2⟩

section
variable {kn : FuncId → Option Bool} {lo : Nat} {H : Hp}
theorem one_ok {n : Int} (hlo : lo ≤ H.next) : ∃ H', FnX Try.prog kn lo 43 [iv n] H (sp n n) H' ∧ Keep H H' [] := by
  have key := fnX_low (kn := kn) (lo := lo) (H := H) (args := [iv n]) (Q := fun w H' => w = sp n n ∧ Keep H H' []) Try.func43 B43 N43 Z43 L43 (by simp) ?_
  · obtain ⟨v, H', h, rfl, k⟩ := key; exact ⟨H', h, k⟩
  intro H1 hH1; obtain ⟨k1, n1, c1⟩ := new_facts hH1; clear hH1
  refine And.intro rfl (Exists.intro (sp n n) (And.intro (by kernel_rfl) ?_))
  obtain ⟨_, e1, l1, g1⟩ := id c1
  refine Exists.intro _ (Exists.intro _ (Exists.intro _ (And.intro g1 (And.intro hlo (And.intro rfl (And.intro rfl (And.intro (by simp) ?_)))))))
  intro H2 hH2; obtain ⟨k2, n2, c2⟩ := up_facts c1 hH2; clear hH2
  have c2 : Cl H2 H.next [iv n, iv n] := c2
  refine And.intro trivial (Exists.intro [sp n n] (And.intro ?_ ⟨rfl, k1.new k2 (by simp)⟩))
  obtain ⟨i, hi, hs⟩ : ∃ i, Try.prog.info? 35 = some i ∧ i.size = 2 := by
    have h : (Try.prog.info? 35).map (fun i => i.size) = some 2 := by kernel_rfl
    cases e : Try.prog.info? 35 with
    | none => rw [e] at h; cases h
    | some i => rw [e] at h; simp at h; exact ⟨i, rfl, h⟩
  have := load_all (show isAggB Try.prog 35 = some true by kernel_rfl) hi (cs := [iv n, iv n]) hs c2.rd
  show resS Try.prog _ H2 [.cell 2 35] = some [sp n n]
  simp only [resS]
  show (match loadV Try.prog H2 35 ⟨H.next, 0, none⟩ with | none => none | some v => some [v]) = _
  rw [this]
end
end Go.Ax
namespace Go.Ax
open Go Go.RowKit Go.Proofs
section
variable {kn : FuncId → Option Bool} {lo : Nat} {H : Hp}
theorem goes42_ok {q : MQ} {bc bw bl bm bp : Nat} {a : Nat} (hq : q.At H) (he : checkE q.c q.hs q.ln = 0) (har : q.args = true) (h31 : ∀ h ∈ q.hs, h.tn ≤ 31) (hb : MB q bc bw bl bm bp H) (ha : a ≤ 68719476736) (hlo : lo ≤ H.next) :
    ∃ H', FnX Try.prog kn lo 42 [iv a, pt bl, pt bp, pt bc, pt bw, pt bm] H (.bool (q.g a)) H' ∧ Keep H H' [] := by
  have v := MQ.vd hq he har
  have key := fnX_lt (kn := kn) (lo := lo) (H := H) (args := [iv a, pt bl, pt bp, pt bc, pt bw, pt bm]) (Q := fun w H' => w = .bool (q.g a) ∧ Keep H H' []) Try.func42 B42 N42 Z42 V42 (by simp) ?_
  · obtain ⟨v, H', h, rfl, k⟩ := key; exact ⟨H', h, k⟩
  refine Exists.intro _ (Exists.intro _ (And.intro hb.l.of (And.intro rfl ?_)))
  have m2 : waterB ((⟨q.pond, a⟩ : Tk).amount) = true := by show waterB ((a : Nat) : Int) = true; simp only [waterB, Bool.and_eq_true, decide_eq_true_eq]; omega
  refine loop42 (m := ⟨q.pond, a⟩) hq.l hq.ln hq.h v.hv v.ln hb.p v.p m2 hlo ⟨rfl, rfl, rfl, rfl, rfl, rfl, rfl, rfl, rfl, rfl, rfl, trivial⟩ ?_
  intro S1 w L H1 hS1 hlnL hL k1 acc1 at1
  obtain ⟨la', lcap', rfl, slL, frL⟩ := acc1.sl
  obtain ⟨_, _, _, s3, s4, s5, s8, s9, _⟩ := hS1
  refine tri_piece (S0 := [(3, pt bc), (4, pt bw), (5, pt bm), (8, .slice la' q.ln lcap'), (9, iv (amtH L))]) L42t54 ⟨s3, s4, s5, s8, s9, trivial⟩ ?_
  have m1' := k1.1
  have hb1 := hb.keep k1
  have hcs := check_more hL (fun h hm => ⟨v.hv h hm, h31 h hm⟩) v.p m2
  have heL : checkE q.c L q.ln = 0 := by
    have hok : q.c.ok = true := by
      have he := he
      unfold checkE at he
      split at he
      · omega
      · split at he
        · rename_i w2
          simp only [Bool.and_eq_true] at w2
          exact w2.1
        · omega
    unfold checkE
    rw [if_neg (by have := v.ln; omega), if_pos]
    simp only [Bool.and_eq_true]
    exact ⟨hok, List.all_eq_true.2 hcs⟩
  refine Exists.intro _ (Exists.intro _ (And.intro hb1.c.of (And.intro (show row 2 [_, _] _ = some [.slice q.c.pa q.c.pn q.c.pcap, .slice q.c.ga q.c.gn q.c.gcap] from rfl) ?_)))
  refine Exists.intro _ (Exists.intro _ (And.intro hb1.w.of (And.intro rfl ?_)))
  obtain ⟨v2, H2, f2, k2, p2⟩ := run_ok (kn := kn) (lo := lo) (H := H1) (q := ⟨q.c, la', q.ln, lcap', L⟩) (hq.c.keep k1) slL hlnL at1 (by omega)
  obtain ⟨b2, e2, _, c2, _, _⟩ := p2.ok heL
  subst e2
  refine Exists.intro _ (Exists.intro _ (And.intro (callX_args f2) ?_))
  refine And.intro rfl (Exists.intro (slv b2 q.c.wn q.c.wn) (And.intro rfl ?_))
  obtain ⟨F, hF⟩ : ∃ F, flowsV (foG false q.c L q.ln).2 (foG true q.c L q.ln).2 = F := ⟨_, rfl⟩
  refine And.intro rfl (Exists.intro (.agg (flowsV (foG false q.c L q.ln).2 (foG true q.c L q.ln).2).toArray) (And.intro rfl ?_))
  refine And.intro rfl (Exists.intro (iv 0) (And.intro rfl ?_))
  intro H3 hH3; obtain ⟨k3, n3, c3⟩ := new_facts hH3; clear hH3
  obtain ⟨_, e3, l3, g3⟩ := id c3
  have m2' := k2.1
  refine Exists.intro _ (Exists.intro _ (Exists.intro _ (And.intro g3 (And.intro (by omega) (And.intro rfl (And.intro rfl (And.intro (by simp) ?_)))))))
  intro H4 hH4; obtain ⟨k4, n4, c4⟩ := up_facts c3 hH4; clear hH4
  have c4 : Cl H4 H2.next (flowsV (foG false q.c L q.ln).2 (foG true q.c L q.ln).2) := c4
  have k24 : Keep H2 H4 [] := k3.new k4 (by simp)
  have k14 := k2.trans k24
  have k04 := k1.trans k14
  have hb4 := hb.keep k04
  have m4 := k14.1
  refine Exists.intro _ (Exists.intro _ (And.intro hb4.c.of (And.intro (show row 2 [_, _] _ = some [.slice q.c.pa q.c.pn q.c.pcap, .slice q.c.ga q.c.gn q.c.gcap] from rfl) ?_)))
  refine Exists.intro _ (Exists.intro _ (And.intro hb4.w.of (And.intro rfl ?_)))
  refine Exists.intro _ (Exists.intro _ (And.intro hb4.m.of (And.intro rfl ?_)))
  obtain ⟨H5, f5, k5⟩ := low_ok (kn := kn) (lo := lo) (H := H4) (q := ⟨q.c, la', q.ln, lcap', L, q.ma, q.mn, q.mcap, q.ms⟩) (hq.c.keep k04) (k14.sl0 slL) hlnL (fun r hr => (at1 r hr).keep k14) (k04.sl0 hq.m) hq.ml (by omega)
  have har' : leastB q.c.ponds q.ms q.c.pn q.mn = true := by simp only [MQ.args, Bool.and_eq_true] at har; exact har.1
  have gi := goes_iff hq v ha h31 hL hlnL
  obtain ⟨x1, x2, x3, hv, hx3⟩ : ∃ x1 x2 x3, (⟨q.c, la', q.ln, lcap', L, q.ma, q.mn, q.mcap, q.ms⟩ : LQ).v = (x1, x2, x3) ∧ (x3 = 4 ↔ lowGo q.c q.ms q.c.gs (s0 false q.c) L 0 = none) := by
    unfold LQ.v
    simp only [if_pos heL, har', if_true]
    unfold LQ.go
    simp only
    cases hlg : lowGo q.c q.ms q.c.gs (s0 false q.c) L 0 with
    | none => exact ⟨0, 0, 4, rfl, by simp⟩
    | some z => exact ⟨z.1, z.2, 0, rfl, by simp⟩
  rw [hv] at f5
  refine Exists.intro _ (Exists.intro _ (And.intro (callX_args f5) ?_))
  refine And.intro rfl (Exists.intro (iv x1) (And.intro rfl ?_))
  refine And.intro rfl (Exists.intro (iv x2) (And.intro rfl ?_))
  refine And.intro rfl (Exists.intro (iv x3) (And.intro rfl ?_))
  have k05 := k04.trans k5
  have c5 := k5.cl c4 (by simp)
  intro t1 ht1
  obtain rfl : t1 = true := by rw [← ht1]; rfl
  intro t2 ht2
  have ht2 : (x3 == 4) = t2 := ht2
  refine And.intro rfl (Exists.intro (.bool t2) (And.intro rfl ?_))
  cases t2
  · have hno : q.g a = false := by
      cases hg : q.g a with
      | false => rfl
      | true =>
        have := hx3.2 (gi.1 hg).1
        rw [this] at ht2; simp at ht2
    refine And.intro rfl (Exists.intro (.bool false) (And.intro rfl ?_))
    refine And.intro (by repeat' first | exact True.intro | exact (fun h => h) | refine And.intro ?_ ?_) ?_
    exact And.intro trivial (Exists.intro [.bool false] (And.intro rfl ⟨by rw [hno]; rfl, k05⟩))
  · have hlg := hx3.1 (by simpa using ht2)
    refine Exists.intro _ (Exists.intro _ (And.intro c5.of (And.intro (show row 2 (flowsV _ _) _ = some [iv (foG false q.c L q.ln).2.taken, iv (foG true q.c L q.ln).2.taken] from rfl) (And.intro c5.lt ?_))))
    obtain ⟨H6, f6, k6⟩ := one_ok (kn := kn) (lo := H5.next) (H := H5) (n := amtH L) (Nat.le_refl _)
    refine Exists.intro _ (Exists.intro _ (And.intro (callX_args f6) ?_))
    refine And.intro rfl (Exists.intro (.bool ((foG false q.c L q.ln).2.taken == amtH L && (foG true q.c L q.ln).2.taken == amtH L)) (And.intro (pur_eql35 rfl rfl rfl) ?_))
    refine And.intro rfl (Exists.intro (.bool ((foG false q.c L q.ln).2.taken == amtH L && (foG true q.c L q.ln).2.taken == amtH L)) (And.intro rfl ?_))
    refine And.intro (by repeat' first | exact True.intro | exact (fun h => h) | refine And.intro ?_ ?_) ?_
    refine And.intro trivial (Exists.intro [.bool ((foG false q.c L q.ln).2.taken == amtH L && (foG true q.c L q.ln).2.taken == amtH L)] (And.intro rfl ⟨?_, k05.trans k6⟩))
    show Value.bool _ = Value.bool _
    congr 1
    cases hg : q.g a with
    | true =>
      obtain ⟨_, y1, y2⟩ := gi.1 hg
      rw [y1, y2]; simp
    | false =>
      cases hz : ((foG false q.c L q.ln).2.taken == amtH L && (foG true q.c L q.ln).2.taken == amtH L) with
      | false => rfl
      | true =>
        simp only [Bool.and_eq_true, beq_iff_eq] at hz
        rw [gi.2 ⟨hlg, hz.1, hz.2⟩] at hg; cases hg
end
end Go.Ax
namespace Go.Ax
open Go Go.RowKit Go.Proofs
noncomputable def R12t50 : RC := (.seq (.reg [⟨(some 50), none, (.ld (.tmp 7) 1)⟩, ⟨(some 51), none, (.len (.tmp 50))⟩, ⟨(some 52), none, (.mov (.const (.int .i64 0)))⟩])
  (.block 0 (.other (at_ Try.f12 [1, 1, 1, 1, 0, 1, 0]))))
theorem L12t50 : low Try.prog 100 (at_ Try.f12 [1, 1, 1, 1, 0]) = some R12t50 := by kernel_rfl
noncomputable def R12t62 : RC := (.seq (.reg [⟨(some 62), none, (.pur ⟨(some 62), (.makeFunc (.func 42) (List.toArray []) (List.toArray [(.tmp 7), (.tmp 9), (.tmp 5), (.tmp 6), (.tmp 8)])), 88, "", (List.toArray []), none⟩)⟩, ⟨(some 15), none, (.mov (.tmp 62))⟩])
  (.seq (.seq (.reg [⟨(some 63), none, (.mov (.tmp 12))⟩, ⟨(some 64), none, (.cmp .neq (.tmp 63) (.const (.int .i64 0)))⟩])
  (.cond (.tmp 64) (.seq (.reg [⟨(some 65), none, (.mov (.tmp 11))⟩, ⟨(some 66), none, (.cmpb .eql (.tmp 65) (.const (.int .i64 0)))⟩, ⟨(some 67), none, (.mov (.tmp 66))⟩, ⟨(some 68), (some (67, true)), (.mov (.tmp 15))⟩, ⟨(some 69), (some (67, true)), (.call ⟨(.value (.tmp 68)), (List.toArray [(.const (.int .i64 0))]), (List.toArray [3])⟩ true)⟩, ⟨(some 70), (some (67, true)), (.pur ⟨(some 70), (.unOp .not 4 (.tmp 69)), 4, "", (List.toArray []), none⟩)⟩, ⟨(some 71), none, (.pur ⟨(some 71), (.pick (.tmp 67) (.tmp 70) (.const (.bool false))), 4, "", (List.toArray []), none⟩)⟩, ⟨(some 72), none, (.mov (.tmp 71))⟩, ⟨(some 73), (some (72, true)), (.call ⟨(.value (.func 15)), (List.toArray []), (List.toArray [])⟩ true)⟩, ⟨(some 74), none, (.pur ⟨(some 74), (.pick (.tmp 72) (.tmp 73) (.const (.bool false))), 4, "", (List.toArray []), none⟩)⟩, ⟨(some 10), none, (.mov (.tmp 74))⟩])
  .ret)
  .skip))
  (.seq (.reg [⟨(some 75), none, (.mov (.tmp 11))⟩, ⟨(some 76), none, (.cmpb .geq (.tmp 75) (.const (.int .i64 0)))⟩, ⟨(some 77), none, (.mov (.tmp 76))⟩, ⟨(some 78), (some (77, true)), (.mov (.tmp 11))⟩, ⟨(some 79), (some (77, true)), (.cmpb .leq (.tmp 78) (.const (.int .i64 68719476736)))⟩, ⟨(some 80), none, (.pur ⟨(some 80), (.pick (.tmp 77) (.tmp 79) (.const (.bool false))), 4, "", (List.toArray []), none⟩)⟩, ⟨(some 81), none, (.mov (.tmp 80))⟩, ⟨(some 82), (some (81, true)), (.mov (.tmp 15))⟩, ⟨(some 83), (some (81, true)), (.mov (.tmp 11))⟩, ⟨(some 84), (some (81, true)), (.call ⟨(.value (.tmp 82)), (List.toArray [(.tmp 83)]), (List.toArray [3])⟩ true)⟩, ⟨(some 85), none, (.pur ⟨(some 85), (.pick (.tmp 81) (.tmp 84) (.const (.bool false))), 4, "", (List.toArray []), none⟩)⟩, ⟨(some 86), none, (.mov (.tmp 85))⟩, ⟨(some 87), (some (86, true)), (.mov (.tmp 11))⟩, ⟨(some 88), (some (86, true)), (.cmpb .eql (.tmp 87) (.const (.int .i64 68719476736)))⟩, ⟨(some 89), (some (86, true)), (.mov (.tmp 88))⟩, ⟨(some 90), (some (89, false)), (.mov (.tmp 15))⟩, ⟨(some 91), (some (89, false)), (.mov (.tmp 11))⟩, ⟨(some 92), (some (89, false)), (.ari .add (.tmp 91) (.const (.int .i64 1)))⟩, ⟨(some 93), (some (89, false)), (.call ⟨(.value (.tmp 90)), (List.toArray [(.tmp 92)]), (List.toArray [3])⟩ true)⟩, ⟨(some 94), (some (89, false)), (.pur ⟨(some 94), (.unOp .not 4 (.tmp 93)), 4, "", (List.toArray []), none⟩)⟩, ⟨(some 95), (some (86, true)), (.pur ⟨(some 95), (.pick (.tmp 89) (.const (.bool true)) (.tmp 94)), 4, "", (List.toArray []), none⟩)⟩, ⟨(some 96), none, (.pur ⟨(some 96), (.pick (.tmp 86) (.tmp 95) (.const (.bool false))), 4, "", (List.toArray []), none⟩)⟩, ⟨(some 97), none, (.mov (.tmp 96))⟩, ⟨(some 98), (some (97, true)), (.call ⟨(.value (.func 15)), (List.toArray []), (List.toArray [])⟩ true)⟩, ⟨(some 99), none, (.pur ⟨(some 99), (.pick (.tmp 97) (.tmp 98) (.const (.bool false))), 4, "", (List.toArray []), none⟩)⟩, ⟨(some 10), none, (.mov (.tmp 99))⟩])
  .ret)))
theorem L12t62 : low Try.prog 100 (at_ Try.f12 [1, 1, 1, 1, 1]) = some R12t62 := by kernel_rfl
noncomputable def R12v : RC := (.seq (.reg [⟨(some 5), none, (.box 25 (.tmp 0))⟩, ⟨(some 6), none, (.box 26 (.tmp 1))⟩, ⟨(some 7), none, (.box 47 (.tmp 2))⟩, ⟨(some 8), none, (.box 33 (.tmp 3))⟩, ⟨(some 9), none, (.box 3 (.tmp 4))⟩, ⟨(some 10), none, (.mov (.const (.bool false)))⟩])
  (.seq (.seq (.reg [⟨(some 16), none, (.ld (.tmp 7) 1)⟩, ⟨(some 17), none, (.call ⟨(.value (.func 24)), (List.toArray [(.tmp 16), (.const (.int .i64 8))]), (List.toArray [47, 3])⟩ true)⟩, ⟨(some 18), none, (.mov (.tmp 17))⟩, ⟨(some 19), (some (18, false)), (.lda (.tmp 5) 2)⟩, ⟨(some 20), (some (18, false)), (.ld (.tmp 6) 1)⟩, ⟨(some 21), (some (18, false)), (.ld (.tmp 7) 1)⟩, ⟨(some 22), (some (18, false)), (.call ⟨(.value (.func 14)), (List.toArray [(.tmp 19), (.tmp 20), (.tmp 21)]), (List.toArray [25, 26, 47])⟩ true)⟩, ⟨(some 23), none, (.pur ⟨(some 23), (.pick (.tmp 18) (.const (.bool true)) (.tmp 22)), 4, "", (List.toArray []), none⟩)⟩, ⟨(some 24), none, (.mov (.tmp 23))⟩, ⟨(some 25), (some (24, false)), (.ld (.tmp 8) 1)⟩, ⟨(some 26), (some (24, false)), (.len (.tmp 25))⟩, ⟨(some 27), (some (24, false)), (.cmpb .gtr (.tmp 26) (.const (.int .i64 20)))⟩, ⟨(some 28), none, (.pur ⟨(some 28), (.pick (.tmp 24) (.const (.bool true)) (.tmp 27)), 4, "", (List.toArray []), none⟩)⟩])
  (.cond (.tmp 28) (.seq (.reg [⟨(some 29), none, (.call ⟨(.value (.func 15)), (List.toArray []), (List.toArray [])⟩ true)⟩, ⟨(some 10), none, (.mov (.tmp 29))⟩])
  .ret)
  .skip))
  (.seq (.reg [⟨(some 31), none, (.lda (.tmp 5) 2)⟩, ⟨(some 32), none, (.ld (.tmp 6) 1)⟩, ⟨(some 33), none, (.ld (.tmp 7) 1)⟩, ⟨(some 34), none, (.ld (.tmp 8) 1)⟩, ⟨(some 35), none, (.ld (.tmp 9) 1)⟩, ⟨(some 36), none, (.call ⟨(.value (.func 29)), (List.toArray [(.tmp 31), (.tmp 32), (.tmp 33), (.tmp 34), (.tmp 35)]), (List.toArray [25, 26, 47, 33, 3])⟩ true)⟩, ⟨(some 30), none, (.mov (.tmp 36))⟩, ⟨(some 37), none, (.pur ⟨(some 37), (.extract (.tmp 30) 0), 3, "", (List.toArray []), none⟩)⟩, ⟨(some 38), none, (.pur ⟨(some 38), (.extract (.tmp 30) 1), 38, "", (List.toArray []), none⟩)⟩, ⟨(some 11), none, (.mov (.tmp 37))⟩, ⟨(some 12), none, (.mov (.tmp 38))⟩])
  (.seq (.seq (.reg [⟨(some 39), none, (.mov (.tmp 12))⟩, ⟨(some 40), none, (.cmpb .neq (.tmp 39) (.const (.int .i64 0)))⟩, ⟨(some 41), none, (.mov (.tmp 40))⟩, ⟨(some 42), (some (41, true)), (.mov (.tmp 12))⟩, ⟨(some 43), (some (41, true)), (.cmpb .neq (.tmp 42) (.const (.int .i64 4)))⟩, ⟨(some 44), none, (.pur ⟨(some 44), (.pick (.tmp 41) (.tmp 43) (.const (.bool false))), 4, "", (List.toArray []), none⟩)⟩])
  (.cond (.tmp 44) (.seq (.reg [⟨(some 45), none, (.mov (.tmp 11))⟩, ⟨(some 46), none, (.cmpb .eql (.tmp 45) (.const (.int .i64 0)))⟩, ⟨(some 47), none, (.mov (.tmp 46))⟩, ⟨(some 48), (some (47, true)), (.call ⟨(.value (.func 15)), (List.toArray []), (List.toArray [])⟩ true)⟩, ⟨(some 49), none, (.pur ⟨(some 49), (.pick (.tmp 47) (.tmp 48) (.const (.bool false))), 4, "", (List.toArray []), none⟩)⟩, ⟨(some 10), none, (.mov (.tmp 49))⟩])
  .ret)
  .skip))
  (.seq (.other (at_ Try.f12 [1, 1, 1, 1, 0]))
  (.other (at_ Try.f12 [1, 1, 1, 1, 1])))))))
theorem V12 : LT Try.prog 100 (at_ Try.f12 []) R12v := by
  have e : at_ Try.f12 [] = (.seq (at_ Try.f12 [0]) (.seq (at_ Try.f12 [1, 0]) (.seq (at_ Try.f12 [1, 1, 0]) (.seq (at_ Try.f12 [1, 1, 1, 0]) (.seq (at_ Try.f12 [1, 1, 1, 1, 0]) (at_ Try.f12 [1, 1, 1, 1, 1])))))) := by kernel_rfl
  rw [e]
  exact (.seq (.low (by kernel_rfl)) (.seq (.low (by kernel_rfl)) (.seq (.low (by kernel_rfl)) (.seq (.low (by kernel_rfl)) (.seq (.other _) (.other _))))))

theorem check_three (c : Ch) (hs : List Hr) (n : Nat) : checkE c hs n = 0 ∨ checkE c hs n = 1 ∨ checkE c hs n = 3 := by
  unfold checkE; split
  · exact .inr (.inr rfl)
  · split
    · exact .inl rfl
    · exact .inr (.inl rfl)
section
variable {kn : FuncId → Option Bool} {lo : Nat} {H : Hp}
theorem scan12 {S : Rg} {K : Exit → Rg → Hp → Prop} {hs : List Hr} {la : Option Addr} {ln lcap bl : Nat} {v5 v6 v8 v9 v11 v12 : Value} (hkn : kn 15 = some true) (hb : Rd H bl [.slice la ln lcap]) (hl : Sl H la ln lcap (hrc hs)) (hln : hs.length = ln) (hn : ln ≤ 1000) (hlo : lo ≤ H.next)
    (hS : Subs [(5, v5), (6, v6), (7, pt bl), (8, v8), (9, v9), (11, v11), (12, v12)] S)
    (hR : ∀ S' H', lk S' 10 = some (.bool true) → K .ret S' H')
    (hK : ∀ S' H', (∀ h ∈ hs, h.tn ≤ 31) → Keep H H' [] → Subs [(5, v5), (6, v6), (7, pt bl), (8, v8), (9, v9), (11, v11), (12, v12)] S' → K .normal S' H') :
    Tri Try.prog kn lo 100 false (at_ Try.f12 [1, 1, 1, 1, 0]) S H K := by
  refine tri_piece L12t50 hS ?_
  refine Exists.intro _ (Exists.intro _ (And.intro hb.of (And.intro rfl ?_)))
  refine loop_low (fn := Try.f12) E12_1 N12 L12x1 (fun i : Nat => [(50, .slice la ln lcap), (51, iv (ln : Int)), (52, iv (i : Int)), (5, v5), (6, v6), (7, pt bl), (8, v8), (9, v9), (11, v11), (12, v12)])
    (fun k i H1 => i + k = ln ∧ Keep H H1 [] ∧ ∀ h ∈ hs.take i, h.tn ≤ 31) ln 0 ⟨by omega, Keep.refl _ _, by simp⟩ ⟨rfl, rfl, rfl, rfl, rfl, rfl, rfl, rfl, rfl, rfl, trivial⟩ ?_
  rintro k i H1 ⟨hik, hk, hall⟩
  refine And.intro (fun hlt => ?_) (fun hge => ?_)
  · have hi : i < ln := by simpa using hlt
    have hl2 := hk.sl0 hl
    rcases hl2 with ⟨_, h0, _⟩ | ⟨lb, ela, hlc, _⟩
    · omega
    obtain ⟨x, hx⟩ := get_some (l := hs) (i := i) (by omega)
    have hkn' := hk.1
    rw [ela]
    refine Exists.intro i (And.intro rfl (And.intro hi ?_))
    refine Exists.intro _ (Exists.intro _ (And.intro hlc.of (And.intro (row_flat (f := Hr.v) (fun _ _ => rfl) hx) ?_)))
    intro H2 hH2; obtain ⟨k2, n2, c2⟩ := new_facts hH2; clear hH2
    obtain ⟨_, e2, l2, g2⟩ := id c2
    refine Exists.intro _ (Exists.intro _ (Exists.intro _ (And.intro g2 (And.intro (by omega) (And.intro rfl (And.intro rfl (And.intro (by simp) ?_)))))))
    intro H3 hH3; obtain ⟨k3, n3, c3⟩ := up_facts c2 hH3; clear hH3
    have c3 : Cl H3 H1.next x.v := c3
    refine Exists.intro _ (Exists.intro _ (And.intro c3.of (And.intro rfl ?_)))
    refine And.intro (fun w => ?_) (fun w => ?_)
    · refine Exists.intro _ (Exists.intro _ (And.intro (callX_known hkn) ?_))
      exact hR _ _ rfl
    · have w : ¬ ((x.tn : Int) ≥ 32) := of_decide_eq_false w
      refine And.intro (show InR ((i : Int) + 1) from ⟨by omega, by omega⟩) ?_
      refine ⟨k - 1, i + 1, by omega, ⟨by omega, hk.trans (k2.new k3 (by simp)), fun h hm => ?_⟩, by first | rfl | (rw [ela]; rfl), rfl, rfl, rfl, rfl, rfl, rfl, rfl, rfl, rfl, trivial⟩
      rw [List.take_add_one, hx] at hm
      rcases List.mem_append.1 hm with hm | hm
      · exact hall h hm
      · simp at hm; subst hm; omega
  · have hi : ¬ i < ln := by simpa using hge
    have hin : i = ln := by omega
    rw [hin, List.take_of_length_le (by omega)] at hall
    exact hK _ _ hall hk ⟨rfl, rfl, rfl, rfl, rfl, rfl, rfl, trivial⟩
theorem tail12 {S : Rg} {K : Exit → Rg → Hp → Prop} {q : MQ} {bc bw bl bm bp : Nat} {n e : Int} (hkn : kn 15 = some true) (hq : q.At H) (he : checkE q.c q.hs q.ln = 0) (har : q.args = true) (h31 : ∀ h ∈ q.hs, h.tn ≤ 31) (hb : MB q bc bw bl bm bp H) (hlo : lo ≤ H.next)
    (hr : (e = 4 ∧ n = 0 ∧ q.g 0 = false) ∨ (e = 0 ∧ ∃ m : Nat, n = m ∧ q.is m))
    (hS : Subs [(5, pt bc), (6, pt bw), (7, pt bl), (8, pt bm), (9, pt bp), (11, iv n), (12, iv e)] S)
    (hR : ∀ S' H', lk S' 10 = some (.bool true) → K .ret S' H') :
    Tri Try.prog kn lo 100 false (at_ Try.f12 [1, 1, 1, 1, 1]) S H K := by
  refine tri_piece L12t62 hS ?_
  have go : ∀ (a : Nat) (H9 : Hp) (J : Value → Hp → Prop), a ≤ 68719476736 → Keep H H9 [] → (∀ H', Keep H H' [] → J (.bool (q.g a)) H') → ∃ v H', CallsX Try.prog kn lo (.fn (.func 42) #[pt bl, pt bp, pt bc, pt bw, pt bm]) [iv a] H9 v H' ∧ J v H' := by
    intro a H9 J ha k hJ
    obtain ⟨H', h, k'⟩ := goes42_ok (kn := kn) (lo := lo) (H := H9) (a := a) (hq.keep k) he har h31 (hb.keep k) ha (by have := k.1; omega)
    exact ⟨_, H', callX_func rfl (by simpa using h), hJ H' (k.trans k')⟩
  have al : ∀ (H9 : Hp) (J : Value → Hp → Prop), J (.bool true) H9 → ∃ v H', CallsX Try.prog kn lo (.fn (.func 15) #[]) [] H9 v H' ∧ J v H' := fun H9 J h => ⟨_, _, callX_known hkn, h⟩
  refine And.intro rfl (Exists.intro (.func (.func 42) #[] #[pt bl, pt bp, pt bc, pt bw, pt bm]) (And.intro rfl ?_))
  rcases hr with ⟨rfl, rfl, hg⟩ | ⟨rfl, m, rfl, hm1, hm2, hm3⟩
  · refine And.intro (fun _ => ?_) (fun w => by cases w)
    intro t ht
    obtain rfl : t = true := by rw [← ht]; rfl
    refine go 0 H _ (by omega) (Keep.refl _ _) ?_
    intro H2 k2
    refine And.intro rfl (Exists.intro (.bool (!q.g 0)) (And.intro rfl ?_))
    rw [hg]
    refine And.intro rfl (Exists.intro (.bool true) (And.intro rfl ?_))
    refine al _ _ ?_
    refine And.intro rfl (Exists.intro (.bool true) (And.intro rfl ?_))
    exact hR _ _ rfl
  · refine And.intro (fun w => by cases w) (fun _ => ?_)
    intro t ht
    obtain rfl : t = true := by rw [← ht]; exact decide_eq_true (show (m : Int) ≥ 0 by omega)
    intro t ht
    obtain rfl : t = true := by rw [← ht]; exact decide_eq_true (show (m : Int) ≤ 68719476736 by omega)
    refine And.intro rfl (Exists.intro (.bool true) (And.intro rfl ?_))
    refine go m H _ hm1 (Keep.refl _ _) ?_
    intro H2 k2
    rw [hm2]
    refine And.intro rfl (Exists.intro (.bool true) (And.intro rfl ?_))
    intro t ht
    have ht : ((m : Int) == 68719476736) = t := ht
    cases t
    · have hne : m ≠ 68719476736 := by
        intro h; rw [h] at ht; simp at ht
      have hg1 : q.g (m + 1) = false := by
        rcases hm3 with h | h
        · exact absurd h hne
        · exact h
      refine And.intro (show InR ((m : Int) + 1) from ⟨by omega, by omega⟩) ?_
      rw [show ((m : Int) + 1) = ((m + 1 : Nat) : Int) by simp]
      refine go (m + 1) H2 _ (by omega) k2 ?_
      intro H3 k3
      refine And.intro rfl (Exists.intro (.bool (!q.g (m + 1))) (And.intro rfl ?_))
      rw [hg1]
      refine And.intro rfl (Exists.intro (.bool true) (And.intro rfl ?_))
      refine And.intro rfl (Exists.intro (.bool true) (And.intro rfl ?_))
      refine al _ _ ?_
      refine And.intro rfl (Exists.intro (.bool true) (And.intro rfl ?_))
      exact hR _ _ rfl
    · refine And.intro rfl (Exists.intro (.bool true) (And.intro rfl ?_))
      refine And.intro rfl (Exists.intro (.bool true) (And.intro rfl ?_))
      refine al _ _ ?_
      refine And.intro rfl (Exists.intro (.bool true) (And.intro rfl ?_))
      exact hR _ _ rfl
theorem law_all (hkn : kn 15 = some true) {q : MQ} (hq : q.At H) (hlo : lo ≤ H.next) :
    ∃ H', FnX Try.prog kn lo 12 [q.c.cv, q.c.wv, .slice q.la q.ln q.lcap, .slice q.ma q.mn q.mcap, iv q.pond] H (.bool true) H' := by
  have key := fnX_lt (kn := kn) (lo := lo) (H := H) (args := [q.c.cv, q.c.wv, .slice q.la q.ln q.lcap, .slice q.ma q.mn q.mcap, iv q.pond]) (Q := fun v H' => v = .bool true) Try.func12 B12 N12 Z12 V12 (by simp) ?_
  · obtain ⟨v, H', hf, rfl⟩ := key; exact ⟨H', hf⟩
  have al : ∀ (H9 : Hp) (K : Value → Hp → Prop), K (.bool true) H9 → ∃ v H', CallsX Try.prog kn lo (.fn (.func 15) #[]) [] H9 v H' ∧ K v H' := fun H9 K h => ⟨_, _, callX_known hkn, h⟩
  intro H1 hH1; obtain ⟨k1, n1, c1⟩ := new_facts hH1; clear hH1
  intro H2 hH2; obtain ⟨k2, n2, c2⟩ := new_facts hH2; clear hH2
  intro H3 hH3; obtain ⟨k3, n3, c3⟩ := new_facts hH3; clear hH3
  intro H4 hH4; obtain ⟨k4, n4, c4⟩ := new_facts hH4; clear hH4
  intro H5 hH5; obtain ⟨k5, n5, c5⟩ := new_facts hH5; clear hH5
  have k05 : Keep H H5 [] := k1.trans (k2.trans (k3.trans (k4.trans k5)))
  have hb5 : MB q H.next H1.next H2.next H3.next H4.next H5 := ⟨(k5.cl (k4.cl (k3.cl (k2.cl c1 (by simp)) (by simp)) (by simp)) (by simp)).rd, (k5.cl (k4.cl (k3.cl c2 (by simp)) (by simp)) (by simp)).rd, (k5.cl (k4.cl c3 (by simp)) (by simp)).rd, (k5.cl c4 (by simp)).rd, c5.rd⟩
  have hq5 := hq.keep k05
  have m5 := k05.1
  refine Exists.intro _ (Exists.intro _ (And.intro hb5.l.of (And.intro rfl ?_)))
  refine callB many_ok ?_
  intro t2 H6 h2 k6
  have k06 := k05.trans k6
  have m6 := k6.1
  cases t2
  rotate_left
  · repeat (refine And.intro rfl (Exists.intro (.bool true) (And.intro rfl ?_)))
    refine condT ?_
    refine al _ _ ?_
    exact And.intro trivial (Exists.intro _ (And.intro rfl (rfl)))
  have hmany : q.ln ≤ 205 := by
    simp [manyB] at h2; omega
  have hb6 := hb5.keep k6
  refine Exists.intro _ (Exists.intro _ (And.intro hb6.c.of (And.intro (show row 2 [_, _] _ = some [.slice q.c.pa q.c.pn q.c.pcap, .slice q.c.ga q.c.gn q.c.gcap] from rfl) ?_)))
  refine Exists.intro _ (Exists.intro _ (And.intro hb6.w.of (And.intro rfl ?_)))
  refine Exists.intro _ (Exists.intro _ (And.intro hb6.l.of (And.intro rfl ?_)))
  refine callB (great_ok (lo := lo) (c := q.c) (k06.sl0 hq.l) hq.ln (by omega) (by omega)) ?_
  intro t3 H7 h3 k7
  have k07 := k06.trans k7
  have m7 := k7.1
  cases t3
  rotate_left
  · repeat (refine And.intro rfl (Exists.intro (.bool true) (And.intro rfl ?_)))
    refine condT ?_
    refine al _ _ ?_
    exact And.intro trivial (Exists.intro _ (And.intro rfl (rfl)))
  refine And.intro rfl (Exists.intro (.bool false) (And.intro rfl ?_))
  have hb7 := hb6.keep k7
  refine Exists.intro _ (Exists.intro _ (And.intro hb7.m.of (And.intro rfl ?_)))
  intro t4 h4
  refine And.intro rfl (Exists.intro (.bool t4) (And.intro rfl ?_))
  cases t4
  rotate_left
  · refine condT ?_
    refine al _ _ ?_
    exact And.intro trivial (Exists.intro _ (And.intro rfl (rfl)))
  refine condF ?_
  have hq7 := hq.keep k07
  refine Exists.intro _ (Exists.intro _ (And.intro hb7.c.of (And.intro (show row 2 [_, _] _ = some [.slice q.c.pa q.c.pn q.c.pcap, .slice q.c.ga q.c.gn q.c.gcap] from rfl) ?_)))
  refine Exists.intro _ (Exists.intro _ (And.intro hb7.w.of (And.intro rfl ?_)))
  refine Exists.intro _ (Exists.intro _ (And.intro hb7.l.of (And.intro rfl ?_)))
  refine Exists.intro _ (Exists.intro _ (And.intro hb7.m.of (And.intro rfl ?_)))
  refine Exists.intro _ (Exists.intro _ (And.intro hb7.p.of (And.intro rfl ?_)))
  obtain ⟨n, e, H8, f8, k8, r8⟩ := most_ok (kn := kn) (lo := lo) (H := H7) hq7 (by omega)
  refine Exists.intro _ (Exists.intro _ (And.intro (callX_args f8) ?_))
  refine And.intro rfl (Exists.intro (iv n) (And.intro rfl ?_))
  refine And.intro rfl (Exists.intro (iv e) (And.intro rfl ?_))
  have k08 := k07.trans k8
  have m8 := k8.1
  have hb8 := hb7.keep k8
  have go : (e = 4 ∧ n = 0 ∧ q.g 0 = false ∨ e = 0 ∧ ∃ m : Nat, n = m ∧ q.is m) → checkE q.c q.hs q.ln = 0 → q.args = true → ∀ (S : Rg) (K : Exit → Rg → Hp → Prop), Subs [(5, pt H.next), (6, pt H1.next), (7, pt H2.next), (8, pt H3.next), (9, pt H4.next), (11, iv n), (12, iv e)] S → (∀ S' H', lk S' 10 = some (.bool true) → K .ret S' H') →
      Tri Try.prog kn lo 100 false (at_ Try.f12 [1, 1, 1, 1, 0]) S H8 (fun e S' H' => match e with | .normal => Tri Try.prog kn lo 100 false (at_ Try.f12 [1, 1, 1, 1, 1]) S' H' K | e => K e S' H') := by
    intro hr he har S K hS hR
    refine scan12 hkn hb8.l (k08.sl0 hq.l) hq.ln (by omega) (by omega) hS (fun S' H' h => hR S' H' h) (fun S' H' h31 k9 hS' => ?_)
    exact tail12 hkn ((hq.keep k08).keep k9) he har h31 (hb8.keep k9) (by have := k9.1; omega) hr hS' hR
  rcases r8 with ⟨he, rfl, rfl⟩ | ⟨he, har, rfl, rfl⟩ | ⟨he, har, hg, rfl, rfl⟩ | ⟨he, har, rfl, m, rfl, hm⟩
  · have three := check_three q.c q.hs q.ln
    intro u1 hu1
    obtain rfl : u1 = true := by rw [← hu1]; exact bne_iff_ne.2 he
    intro u2 hu2
    obtain rfl : u2 = true := by rw [← hu2]; exact bne_iff_ne.2 (by omega)
    refine And.intro rfl (Exists.intro (.bool true) (And.intro rfl ?_))
    refine condT ?_
    intro u3 hu3
    obtain rfl : u3 = true := by rw [← hu3]; rfl
    refine al _ _ ?_
    refine And.intro rfl (Exists.intro (.bool true) (And.intro rfl ?_))
    exact And.intro trivial (Exists.intro _ (And.intro rfl rfl))
  · intro u1 hu1
    obtain rfl : u1 = true := by rw [← hu1]; rfl
    intro u2 hu2
    obtain rfl : u2 = true := by rw [← hu2]; rfl
    refine And.intro rfl (Exists.intro (.bool true) (And.intro rfl ?_))
    refine condT ?_
    intro u3 hu3
    obtain rfl : u3 = true := by rw [← hu3]; rfl
    refine al _ _ ?_
    refine And.intro rfl (Exists.intro (.bool true) (And.intro rfl ?_))
    exact And.intro trivial (Exists.intro _ (And.intro rfl rfl))
  · intro u1 hu1
    obtain rfl : u1 = true := by rw [← hu1]; rfl
    intro u2 hu2
    obtain rfl : u2 = false := by rw [← hu2]; rfl
    refine And.intro rfl (Exists.intro (.bool false) (And.intro rfl ?_))
    refine condF ?_
    exact go (.inl ⟨rfl, rfl, hg⟩) he har _ _ ⟨rfl, rfl, rfl, rfl, rfl, rfl, rfl, trivial⟩ (fun S' H' h => And.intro trivial (Exists.intro [.bool true] (And.intro (by show resS Try.prog S' H' [.tmp 10] = _; simp only [resS, h]) rfl)))
  · intro u1 hu1
    obtain rfl : u1 = false := by rw [← hu1]; rfl
    refine And.intro rfl (Exists.intro (.bool false) (And.intro rfl ?_))
    refine condF ?_
    exact go (.inr ⟨rfl, m, rfl, hm⟩) he har _ _ ⟨rfl, rfl, rfl, rfl, rfl, rfl, rfl, trivial⟩ (fun S' H' h => And.intro trivial (Exists.intro [.bool true] (And.intro (by show resS Try.prog S' H' [.tmp 10] = _; simp only [resS, h]) rfl)))
end
end Go.Ax

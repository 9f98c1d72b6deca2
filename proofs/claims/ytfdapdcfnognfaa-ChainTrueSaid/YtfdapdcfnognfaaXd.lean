import Derived.Test.YtfdapdcfnognfaaXc
set_option linter.all false
namespace Go.Ax
open Go Go.RowKit Go.Proofs

/-! Two hours side by side: the one's spans against the other's (for ChainNarrow, ChainSplit, ChainTrue). -/
def All2 {α β : Type} (R : α → β → Prop) : List α → List β → Prop
  | [], [] => True
  | x :: l, y :: m => R x y ∧ All2 R l m
  | _, _ => False
theorem fold2 {α β : Type} {f : St → α → St} {g : St → β → St} {R : α → β → Prop} {P : St → St → Prop} (hstep : ∀ x y s t, R x y → P s t → P (f s x) (g t y)) : ∀ (l : List α) (m : List β), All2 R l m → ∀ s t, P s t → P (l.foldl f s) (m.foldl g t)
  | [], [], _, _, _, h => h
  | [], _ :: _, hr, _, _, _ => hr.elim
  | _ :: _, [], hr, _, _, _ => hr.elim
  | _ :: l, _ :: m, hr, s, t, h => fold2 hstep l m hr.2 _ _ (hstep _ _ s t hr.1 h)
theorem All2.zipIdx {α β : Type} {R : α → β → Prop} : ∀ {l : List α} {m : List β} (n : Nat), All2 R l m → All2 (fun (x : α × Nat) (y : β × Nat) => R x.1 y.1 ∧ x.2 = y.2) (l.zipIdx n) (m.zipIdx n)
  | [], [], _, _ => trivial
  | [], _ :: _, _, h => h.elim
  | _ :: _, [], _, h => h.elim
  | _ :: _, _ :: _, n, h => ⟨⟨h.1, rfl⟩, h.2.zipIdx (n + 1)⟩
theorem All2.same {α : Type} {R : α → α → Prop} : ∀ (l : List α), (∀ x ∈ l, R x x) → All2 R l l
  | [], _ => trivial
  | x :: l, h => ⟨h x (List.mem_cons_self ..), All2.same l fun y hy => h y (List.mem_cons_of_mem _ hy)⟩
/-- No pond has less than nothing. -/
def NN (s : St) : Prop := ∀ i, 0 ≤ s.ws.getD i 0
theorem NN.set {ws : List Int} (h : ∀ i, 0 ≤ ws.getD i 0) {j : Nat} {x : Int} (hx : 0 ≤ x) : ∀ i, 0 ≤ (ws.set j x).getD i 0 := fun i => by
  rw [getD_set]; split
  · exact hx
  · exact h i
theorem NN.move {ws : List Int} (h : ∀ i, 0 ≤ ws.getD i 0) {fr : Nat} {to l : Int} (h0 : 0 ≤ l) (h1 : l ≤ ws.getD fr 0) : ∀ i, 0 ≤ (moveW ws fr to l).getD i 0 := fun i => by
  unfold moveW
  simp only
  split
  · exact NN.set h (by omega) i
  · refine NN.set (NN.set h (by omega)) ?_ i
    have := NN.set h (j := fr) (x := ws.getD fr 0 - l) (by omega) to.toNat
    omega
/-- The one pond seeps so that it never has more, and nothing more has seeped, than of the other one. -/
structure PdLe (g1 g2 : Bool) (p1 p2 : Pd) : Prop where
  full : p1.full = p2.full
  spill : p1.spill = p2.spill
  st : (if g2 = true then p2.lo else p2.hi) ≤ (if g1 = true then p1.lo else p1.hi)
  se : (if g1 = true then p1.hi else p1.lo) ≤ (if g2 = true then p2.hi else p2.lo)
  gg : g1 = true → g2 = true
  b1 : 0 ≤ p1.lo ∧ p1.lo ≤ 1000000 ∧ 0 ≤ p1.hi ∧ p1.hi ≤ 1000000
  b2 : 0 ≤ p2.lo ∧ p2.lo ≤ 1000000 ∧ 0 ≤ p2.hi ∧ p2.hi ≤ 1000000
  f0 : 0 ≤ p2.full
theorem stay_le {g1 g2 : Bool} {p1 p2 : Pd} (h : PdLe g1 g2 p1 p2) {v w : Int} (hw : 0 ≤ w) (hvw : v ≤ w) : stayV g1 v p1.lo p1.hi ≤ stayV g2 w p2.lo p2.hi := by
  obtain ⟨_, _, hs, _, hg, ⟨a1, a2, a3, a4⟩, ⟨b1, b2, b3, b4⟩, _⟩ := h
  unfold stayV
  cases g1 <;> cases g2 <;> simp only [Bool.false_eq_true, if_true, if_false] at hs hg ⊢
  · have e1 := (stay_mono a4 hvw).2
    have e2 := Int.mul_le_mul_of_nonneg_left hs hw
    generalize w * p2.hi = Q at *
    generalize w * p1.hi = P at *
    generalize v * p1.hi = O at *
    omega
  · have e1 := (stay_mono a4 hvw).2
    have e2 := Int.mul_le_mul_of_nonneg_left hs hw
    generalize w * p2.lo = Q at *
    generalize w * p1.hi = P at *
    generalize v * p1.hi = O at *
    omega
  · exact (by simp at hg)
  · have e1 := (stay_mono a2 hvw).1
    have e2 := Int.mul_le_mul_of_nonneg_left hs hw
    generalize w * p2.lo = Q at *
    generalize w * p1.lo = P at *
    generalize v * p1.lo = O at *
    omega
theorem seep_le {g1 g2 : Bool} {p1 p2 : Pd} (h : PdLe g1 g2 p1 p2) {v w : Int} (hw : 0 ≤ w) (hvw : v ≤ w) : seepV g1 v p1.lo p1.hi ≤ seepV g2 w p2.lo p2.hi := by
  obtain ⟨_, _, _, hs, hg, ⟨a1, a2, a3, a4⟩, ⟨b1, b2, b3, b4⟩, _⟩ := h
  unfold seepV
  cases g1 <;> cases g2 <;> simp only [Bool.false_eq_true, if_true, if_false] at hs hg ⊢
  · have e1 := (seep_mono a1 hvw).1
    have e2 := Int.mul_le_mul_of_nonneg_left hs hw
    generalize w * p2.lo = Q at *
    generalize w * p1.lo = P at *
    generalize v * p1.lo = O at *
    omega
  · have e1 := (seep_mono a1 hvw).1
    have e2 := Int.mul_le_mul_of_nonneg_left hs hw
    generalize w * p2.hi = Q at *
    generalize w * p1.lo = P at *
    generalize v * p1.lo = O at *
    omega
  · exact (by simp at hg)
  · have e1 := (seep_mono a3 hvw).2
    have e2 := Int.mul_le_mul_of_nonneg_left hs hw
    generalize w * p2.hi = Q at *
    generalize w * p1.hi = P at *
    generalize v * p1.hi = O at *
    omega
theorem stay_nn {g : Bool} {v a b : Int} (hv : 0 ≤ v) (ha : 0 ≤ a ∧ a ≤ 1000000) (hb : 0 ≤ b ∧ b ≤ 1000000) : 0 ≤ stayV g v a b := by
  unfold stayV
  split
  · have e1 := Int.mul_le_mul_of_nonneg_left ha.2 hv
    have e2 := Int.mul_nonneg hv ha.1
    generalize v * a = P at *
    omega
  · have e1 := Int.mul_le_mul_of_nonneg_left hb.2 hv
    have e2 := Int.mul_nonneg hv hb.1
    generalize v * b = P at *
    omega
/-- An hour against another one. -/
structure HrLe (g1 g2 : Bool) (h1 h2 : Hr) : Prop where
  bs : h1.bs = h2.bs
  ts : h1.ts = h2.ts
  cs : All2 (fun x y => x ≤ y ∧ 0 ≤ y) (endS g1 h1.cs) (endS g2 h2.cs)
  tn : ∀ t ∈ h2.ts, 0 ≤ t.amount
theorem hour_le {g1 g2 : Bool} {c1 c2 : Ch} {h1 h2 : Hr} {gs : List Gt} (hp : All2 (PdLe g1 g2) c1.ponds c2.ponds) (hh : HrLe g1 g2 h1 h2) (hg : ∀ g ∈ boardsF h2 gs, 0 ≤ g.sill + g.boards * g.step ∧ 0 ≤ g.most) {s t : St} (hs : LeS s t) (hn : NN t) :
    LeS (hourF c1 g1 h1 gs s) (hourF c2 g2 h2 gs t) ∧ NN (hourF c2 g2 h2 gs t) ∧ boardsF h1 gs = boardsF h2 gs := by
  have hb : boardsF h1 gs = boardsF h2 gs := by unfold boardsF; rw [hh.bs]
  suffices q : LeS (hourF c1 g1 h1 gs s) (hourF c2 g2 h2 gs t) ∧ NN (hourF c2 g2 h2 gs t) from ⟨q.1, q.2, hb⟩
  show (fun s t => LeS s t ∧ NN t) (spillsS (mkX c1 h1 ⟨0, 0, none, 0⟩ g1 0) (seepsS (mkX c1 h1 ⟨0, 0, none, 0⟩ g1 0) (takesS (mkX c1 h1 ⟨0, 0, none, 0⟩ g1 0) (gatesS (boardsF h1 gs) (comesS (mkX c1 h1 ⟨0, 0, none, 0⟩ g1 0) s)))))
    (spillsS (mkX c2 h2 ⟨0, 0, none, 0⟩ g2 0) (seepsS (mkX c2 h2 ⟨0, 0, none, 0⟩ g2 0) (takesS (mkX c2 h2 ⟨0, 0, none, 0⟩ g2 0) (gatesS (boardsF h2 gs) (comesS (mkX c2 h2 ⟨0, 0, none, 0⟩ g2 0) t)))))
  rw [hb]
  have e1 : (fun s t => LeS s t ∧ NN t) (comesS (mkX c1 h1 ⟨0, 0, none, 0⟩ g1 0) s) (comesS (mkX c2 h2 ⟨0, 0, none, 0⟩ g2 0) t) := by
    refine fold2 (P := fun s t => LeS s t ∧ NN t) (f := comeS) (g := comeS) ?_ ((endS g1 h1.cs).zipIdx) ((endS g2 h2.cs).zipIdx) (hh.cs.zipIdx 0) s t ⟨hs, hn⟩
    rintro ⟨x, i⟩ ⟨y, j⟩ s t ⟨⟨hxy, hy⟩, hij⟩ ⟨h, n⟩
    simp only at hij hxy hy
    subst hij
    have := h.w.2 i
    have := n i
    exact ⟨⟨h.w.set (by show s.ws.getD i 0 + x ≤ t.ws.getD i 0 + y; omega), by have := h.cm; show s.came + x ≤ t.came + y; omega, h.sd, h.rv, h.tk⟩, NN.set n (by show 0 ≤ t.ws.getD i 0 + y; omega)⟩
  have e2 := fold2 (P := fun s t => LeS s t ∧ NN t) (f := flowS) (g := flowS) (R := fun x y => x = y ∧ 0 ≤ y.sill + y.boards * y.step ∧ 0 ≤ y.most) (by
    rintro x g s t ⟨rfl, z1, z2⟩ ⟨h, n⟩
    have := h.w.2 x.fr.toNat
    have := n x.fr.toNat
    have hf : flowL s.ws x ≤ flowL t.ws x := by unfold flowL; generalize x.sill + x.boards * x.step = z at *; omega
    have hf2 : s.ws.getD x.fr.toNat 0 - flowL s.ws x ≤ t.ws.getD x.fr.toNat 0 - flowL t.ws x := by unfold flowL; generalize x.sill + x.boards * x.step = z at *; omega
    have hf3 : 0 ≤ flowL t.ws x ∧ flowL t.ws x ≤ t.ws.getD x.fr.toNat 0 := by unfold flowL; generalize x.sill + x.boards * x.step = z at *; omega
    exact ⟨⟨h.w.move hf2 hf, h.cm, h.sd, river_le h.rv hf, h.tk⟩, NN.move n hf3.1 hf3.2⟩) (boardsF h2 gs) (boardsF h2 gs) (All2.same _ fun g hgm => ⟨rfl, hg g hgm⟩) _ _ e1
  have e3 := fold2 (P := fun s t => LeS s t ∧ NN t) (f := takeS) (g := takeS) (R := fun x y => x = y ∧ 0 ≤ y.amount) (by
    rintro x y s t ⟨rfl, z⟩ ⟨h, n⟩
    have := h.w.2 x.pond.toNat
    have := n x.pond.toNat
    have hf : takeL s.ws x ≤ takeL t.ws x := by unfold takeL; omega
    exact ⟨⟨h.w.set (by unfold takeL; omega), h.cm, h.sd, h.rv, by have := h.tk; show s.taken + takeL s.ws x ≤ t.taken + takeL t.ws x; omega⟩, NN.set n (by unfold takeL; omega)⟩) h2.ts h2.ts (All2.same _ fun x hx => ⟨rfl, hh.tn x hx⟩) _ _ e2
  have e4 := fold2 (P := fun s t => LeS s t ∧ NN t) (f := seepS g1) (g := seepS g2) (by
    rintro ⟨p1, i⟩ ⟨p2, j⟩ s t ⟨hp, hij⟩ ⟨h, n⟩
    simp only at hij hp
    subst hij
    have h5 := h.w.2 i
    have h6 := n i
    refine ⟨⟨h.w.set (stay_le hp h6 h5), h.cm, ?_, h.rv, h.tk⟩, NN.set n (stay_nn h6 ⟨hp.b2.1, hp.b2.2.1⟩ ⟨hp.b2.2.2.1, hp.b2.2.2.2⟩)⟩
    show s.seeped + seepV g1 (s.ws.getD i 0) p1.lo p1.hi ≤ t.seeped + seepV g2 (t.ws.getD i 0) p2.lo p2.hi
    have := h.sd
    have := seep_le hp h6 h5
    omega) c1.ponds.zipIdx c2.ponds.zipIdx (hp.zipIdx 0) _ _ e3
  have e5 := fold2 (P := fun s t => LeS s t ∧ NN t) (f := spillS) (g := spillS) (by
    rintro ⟨p1, i⟩ ⟨p2, j⟩ s t ⟨hp, hij⟩ ⟨h, n⟩
    simp only at hij hp
    subst hij
    have h5 := h.w.2 i
    have h6 := n i
    have hfu := hp.full
    have hf : spillL s (p1, i) ≤ spillL t (p2, i) := by unfold spillL; simp only; omega
    have hf0 : 0 ≤ spillL t (p2, i) := by unfold spillL; omega
    have hf1 : s.ws.getD i 0 - spillL s (p1, i) ≤ t.ws.getD i 0 - spillL t (p2, i) := by unfold spillL; simp only; omega
    show LeS { s with ws := moveW s.ws i p1.spill (spillL s (p1, i)), river := moveR s.river p1.spill (spillL s (p1, i)) } { t with ws := moveW t.ws i p2.spill (spillL t (p2, i)), river := moveR t.river p2.spill (spillL t (p2, i)) } ∧ NN { t with ws := moveW t.ws i p2.spill (spillL t (p2, i)), river := moveR t.river p2.spill (spillL t (p2, i)) }
    rw [hp.spill]
    refine ⟨⟨h.w.move hf1 hf, h.cm, h.sd, river_le h.rv hf, h.tk⟩, ?_⟩
    have hfull := hp.f0
    exact NN.move n hf0 (by unfold spillL; simp only; omega)) c1.ponds.zipIdx c2.ponds.zipIdx (hp.zipIdx 0) _ _ e4
  have f1 : takesS (mkX c1 h1 ⟨0, 0, none, 0⟩ g1 0) = takesS (mkX c2 h2 ⟨0, 0, none, 0⟩ g2 0) := by funext s; show h1.ts.foldl takeS s = h2.ts.foldl takeS s; rw [hh.ts]
  rw [f1]
  exact e5
end Go.Ax
namespace Go.Ax
open Go Go.RowKit Go.Proofs

/-! ChainNarrow's little functions: a number of a span (34), spans within spans (41). -/
def innerV (s : Int × Int) (x : Nat) : Int := s.1 + (x : Int) % (s.2 - s.1 + 1)
theorem innerV_in {s : Int × Int} {x : Nat} (hs : s.1 ≤ s.2) : s.1 ≤ innerV s x ∧ innerV s x ≤ s.2 := by
  unfold innerV
  have h1 := Int.emod_nonneg (x : Int) (b := s.2 - s.1 + 1) (by omega)
  have h2 := Int.emod_lt_of_pos (x : Int) (b := s.2 - s.1 + 1) (by omega)
  omega
def inSpB (a1 a2 b1 b2 : Int) : Bool := decide (b1 ≤ a1) && decide (a1 ≤ a2) && decide (a2 ≤ b2)
section
variable {kn : FuncId → Option Bool} {lo : Nat} {H : Hp}
theorem inner_ok {s : Int × Int} {x : Nat} (hs : 0 ≤ s.1 ∧ s.1 ≤ s.2 ∧ s.2 ≤ 1000000000000) (hx : x ≤ 4294967295) : ∃ H', FnX Try.prog kn lo 34 [sp s.1 s.2, .int .u32 (x : Int)] H (iv (innerV s x)) H' ∧ Keep H H' [] := by
  have key := fnX_low (kn := kn) (lo := lo) (H := H) (args := [sp s.1 s.2, .int .u32 (x : Int)]) (Q := fun v H' => v = iv (innerV s x) ∧ Keep H H' []) Try.func34 B34 N34 Z34 L34 (by simp) ?_
  · obtain ⟨v, H', h, rfl, q⟩ := key; exact ⟨H', h, q⟩
  intro H1 hH1; obtain ⟨k1, n1, c1⟩ := new_facts hH1; clear hH1
  have c1 : Cl H1 H.next [iv s.1, iv s.2] := c1
  have h1 := Int.emod_nonneg (x : Int) (b := s.2 - s.1 + 1) (by omega)
  have h2 := Int.emod_lt_of_pos (x : Int) (b := s.2 - s.1 + 1) (by omega)
  refine Exists.intro _ (Exists.intro _ (And.intro c1.of (And.intro rfl (And.intro c1.lt ?_))))
  refine And.intro rfl (Exists.intro (.int .i64 (IntKind.wrap .i64 (x : Int))) (And.intro (by kernel_rfl) ?_))
  rw [wrap_id ⟨by omega, by omega⟩]
  refine Exists.intro _ (Exists.intro _ (And.intro c1.of (And.intro rfl (And.intro c1.lt ?_))))
  refine Exists.intro _ (Exists.intro _ (And.intro c1.of (And.intro rfl (And.intro c1.lt ?_))))
  refine And.intro ⟨by omega, by omega⟩ ?_
  refine And.intro ⟨by omega, by omega⟩ ?_
  refine And.intro (by omega) (And.intro (by omega) (And.intro ⟨by omega, by omega⟩ (And.intro ⟨by omega, by omega⟩ ?_)))
  refine And.intro ⟨by omega, by omega⟩ ?_
  refine And.intro trivial ?_
  exact And.intro trivial (Exists.intro _ (And.intro rfl ⟨rfl, k1⟩))
theorem inSp_ok {a1 a2 b1 b2 : Int} : ∃ H', FnX Try.prog kn lo 41 [sp a1 a2, sp b1 b2] H (.bool (inSpB a1 a2 b1 b2)) H' ∧ Keep H H' [] := by
  have key := fnX_low (kn := kn) (lo := lo) (H := H) (args := [sp a1 a2, sp b1 b2]) (Q := fun v H' => v = .bool (inSpB a1 a2 b1 b2) ∧ Keep H H' []) Try.func41 B41 N41 Z41 L41 (by simp) ?_
  · obtain ⟨v, H', h, rfl, q⟩ := key; exact ⟨H', h, q⟩
  intro H1 hH1
  obtain ⟨k1, n1, c1⟩ := new_facts hH1
  intro H2 hH2
  obtain ⟨k2, n2, c2⟩ := new_facts hH2
  have c1 : Cl H2 H.next [iv a1, iv a2] := k2.cl c1 (by simp)
  have c2 : Cl H2 H1.next [iv b1, iv b2] := c2
  repeat' first
    | refine Exists.intro _ (Exists.intro _ (And.intro c1.of (And.intro rfl ?_)))
    | refine Exists.intro _ (Exists.intro _ (And.intro c2.of (And.intro rfl ?_)))
    | (intro t ht; cases t)
    | exact And.intro trivial (Exists.intro _ (And.intro rfl ⟨by simp_all [retV, inSpB] <;> (intros; omega), k1.trans k2⟩))
    | refine And.intro rfl (Exists.intro _ (And.intro rfl ?_))
end
end Go.Ax
namespace Go.Ax
open Go Go.RowKit Go.Proofs

/-! More steps of drawn regions; ChainNarrow's closure 'cut' (40). -/
section
variable {P : Program} {kn : FuncId → Option Bool} {lo n : Nat} {masks : List Nat} {r : List RO} {ks : List Kd} {S : Rg} {H : Hp} {K : Rg → Hp → Prop} {d : Option Nat} {x y : Operand}
theorem wD_lda {b o m : Nat} {cs q : List Value} (hx : evS S x = some (.pointer (some ⟨b, o, none⟩))) (hc : Rd H b cs) (hv : row m cs o = some q) (h : wDraw P kn lo n masks r (.read b :: ks) (putS S d (.agg q.toArray)) H K) : wDraw P kn lo n masks (⟨d, none, .lda x m⟩ :: r) ks S H K := by
  simp only [wDraw, wRO, wRI, hx]; exact ⟨cs, q, hc.of, hv, hc.lt, h⟩
theorem wD_len {a : Option Addr} {m c : Nat} (hx : evS S x = some (.slice a m c)) (h : wDraw P kn lo n masks r (.pure :: ks) (putS S d (.int .i64 (m : Int))) H K) : wDraw P kn lo n masks (⟨d, none, .len x⟩ :: r) ks S H K := by
  simp only [wDraw, wRO, wRI, hx]; exact h
theorem wD_rem {a b : Int} (hx : evS S x = some (.int .i64 a)) (hy : evS S y = some (.int .i64 b)) (h0 : 0 ≤ a) (h1 : 0 < b) (h2 : InR a) (h3 : InR b) (h : wDraw P kn lo n masks r (.pure :: ks) (putS S d (.int .i64 (a % b))) H K) : wDraw P kn lo n masks (⟨d, none, .ari .rem x y⟩ :: r) ks S H K := by
  simp only [wDraw, wRO, wRI, hx, hy]; exact ⟨h0, h1, h2, h3, h⟩
theorem wD_add {a b : Int} (hx : evS S x = some (.int .i64 a)) (hy : evS S y = some (.int .i64 b)) (h2 : InR (a + b)) (h : wDraw P kn lo n masks r (.pure :: ks) (putS S d (.int .i64 (a + b))) H K) : wDraw P kn lo n masks (⟨d, none, .ari .add x y⟩ :: r) ks S H K := by
  simp only [wDraw, wRO, wRI, hx, hy]; exact ⟨h2, h⟩
theorem wD_idx {b o len cap size k : Nat} {kd : IntKind} {j : Int} (hx : evS S x = some (.slice (some ⟨b, o, none⟩) len cap)) (hy : evS S y = some (.int kd j)) (hj : j = (k : Int)) (hk : k < len) (h : wDraw P kn lo n masks r (.pure :: ks) (putS S d (.pointer (some ⟨b, o + k * size, none⟩))) H K) : wDraw P kn lo n masks (⟨d, none, .idx x y size⟩ :: r) ks S H K := by
  simp only [wDraw, wRO, wRI, hx, hy]; exact ⟨k, hj, hk, h⟩
theorem wD_callh {c : Call} {t : Target} {vs : List Value} {v : Value} {H' : Hp} (ht : targetS S c = some (t, vs)) (hm : marked t = false) (hc : CallsX P kn H.next t vs H v H') (h : wDraw P kn lo n masks r (.heavy :: ks) (putS S d v) H' K) : wDraw P kn lo n masks (⟨d, none, .call c false⟩ :: r) ks S H K := by
  simp only [wDraw, wRO, wRI, ht, hm, Bool.and_false, cond_false]; exact ⟨v, H', hc, h⟩
theorem wD_callf {c : Call} {t : Target} {vs : List Value} {v : Value} {H' : Hp} (ht : targetS S c = some (t, vs)) (hc : CallsX P kn lo t vs H v H') (h : wDraw P kn lo n masks r (.full :: ks) (putS S d v) H' K) : wDraw P kn lo n masks (⟨d, none, .call c true⟩ :: r) ks S H K := by
  simp only [wDraw, wRO, wRI, ht, Bool.not_true, Bool.false_and, cond_false, cond_true]; exact ⟨v, H', hc, h⟩
end
theorem end_full3 {rest : List Kd} {ms : List Nat} {m0 m1 m2 : Nat} (hc : rest.all calm = true) (h0 : m0 = 2 ^ (rest.length + 2) - 1) (h1 : m1 = 2 ^ (rest.length + 1) - 1) (h2 : m2 = 2 ^ rest.length - 1) :
    (bif (Kd.pure :: .pure :: .full :: rest).all calm then True else pairsP (.pure :: .pure :: .full :: rest) (m0 :: m1 :: m2 :: ms)) := by
  have : (Kd.pure :: .pure :: .full :: rest).all calm = false := rfl
  rw [this]
  exact ⟨below_full _ _ _ (by simpa using h0), below_full _ _ _ (by simpa using h1), below_full _ _ _ (by simpa using h2), pairs_calm _ _ hc⟩
def u32s (l : List Nat) : List Value := l.map fun (n : Nat) => Value.int .u32 ((n : Nat) : Int)
/-- A span within a span. -/
def InS (s r : Int × Int) : Prop := s.1 ≤ r.1 ∧ r.1 ≤ r.2 ∧ r.2 ≤ s.2
theorem cut_in {s : Int × Int} {x y : Nat} (hs : s.1 ≤ s.2) : InS s (min (innerV s x) (innerV s y), max (innerV s x) (innerV s y)) := by
  have h1 := innerV_in (x := x) hs
  have h2 := innerV_in (x := y) hs
  refine ⟨?_, ?_, ?_⟩ <;> simp only <;> omega
section
variable {kn : FuncId → Option Bool} {lo : Nat} {H : Hp}
set_option maxRecDepth 20000 in
theorem cut_ok {b7 bt : Nat} {ba : Option Addr} {bl bcap turn : Nat} {bs : List Nat} {s : Int × Int} (h7 : Rd H b7 [.slice ba bl bcap]) (hb : Sl H ba bl bcap (u32s bs)) (hbl : bs.length = bl) (h0 : 0 < bl) (hr : ∀ n ∈ bs, n ≤ 4294967295)
    (ht : Cl H bt [iv turn]) (hlt : lo ≤ bt) (hne : b7 ≠ bt) (hturn : turn ≤ 1000000) (hs : 0 ≤ s.1 ∧ s.1 ≤ s.2 ∧ s.2 ≤ 1000000000000) (hbl2 : bl ≤ 9223372036854775807) (hlo : lo ≤ H.next) :
    ∃ r H', FnX Try.prog kn lo 40 [sp s.1 s.2, pt b7, pt bt] H (sp r.1 r.2) H' ∧ InS s r ∧ Keep H H' [bt] ∧ Cl H' bt [iv ((turn + 2 : Nat) : Int)] := by
  have key := fnX_low (kn := kn) (lo := lo) (H := H) (args := [sp s.1 s.2, pt b7, pt bt]) (Q := fun v H' => ∃ r : Int × Int, v = sp r.1 r.2 ∧ InS s r ∧ Keep H H' [bt] ∧ Cl H' bt [iv ((turn + 2 : Nat) : Int)]) Try.func40 B40 N40 Z40 L40 (by simp) ?_
  · obtain ⟨v, H', h, r, rfl, q⟩ := key; exact ⟨r, H', h, q⟩
  intro H1 hH1; obtain ⟨k1, n1, c1⟩ := new_facts hH1; clear hH1
  intro H2 hH2; obtain ⟨k2, n2, c2⟩ := new_facts hH2; clear hH2
  have c1 : Cl H2 H.next [iv s.1, iv s.2] := k2.cl c1 (by simp)
  have k02 := k1.trans k2
  have h7' := k02.rd h7 (by simp)
  have ht' := k02.cl ht (by simp)
  have hb' := k02.sl0 hb
  have hn1 := k1.1; have hn2 := k2.1
  have htl := ht.lt
  rcases hb' with ⟨_, w, _⟩ | ⟨bb, rfl, hbr, _⟩
  · omega
  have hmod : turn % bl < bl := Nat.mod_lt _ h0
  obtain ⟨x, hx⟩ := get_some (l := bs) (i := turn % bl) (by omega)
  have hx2 := hr x (List.mem_of_getElem? hx)
  have hmod2 : (turn + 1) % bl < bl := Nat.mod_lt _ h0
  obtain ⟨y, hy⟩ := get_some (l := bs) (i := (turn + 1) % bl) (by omega)
  have hy2 := hr y (List.mem_of_getElem? hy)
  obtain ⟨H3, f3, k3⟩ := inner_ok (kn := kn) (lo := H2.next) (H := H2) hs hx2
  obtain ⟨H4, f4, k4⟩ := inner_ok (kn := kn) (lo := lo) (H := H3) hs hy2
  have c13 := k3.cl c1 (by simp)
  have h73 := k3.rd h7' (by simp)
  have ht3 := k3.cl ht' (by simp)
  have hbr3 := k3.rd hbr (by simp)
  have k24 := k3.trans k4
  have hn4 := k24.1
  refine wD_seq ?_
  refine wD_lda (b := H.next) (o := 0) (q := [iv s.1, iv s.2]) rfl c1.rd rfl ?_
  refine wD_ld (b := b7) (o := 0) (v := .slice (some ⟨bb, 0, none⟩) bl bcap) rfl h7' rfl ?_
  refine wD_ld (b := bt) (o := 0) (v := iv turn) rfl ht'.rd rfl ?_
  refine wD_ld (b := b7) (o := 0) (v := .slice (some ⟨bb, 0, none⟩) bl bcap) rfl h7' rfl ?_
  refine wD_len (m := bl) rfl ?_
  refine wD_rem (a := turn) (b := bl) rfl rfl (by omega) (by omega) ⟨by omega, by omega⟩ ⟨by omega, by omega⟩ ?_
  refine wD_idx (b := bb) (o := 0) (k := turn % bl) (j := (turn : Int) % (bl : Int)) rfl rfl (by simp) hmod ?_
  refine wD_ld (b := bb) (o := 0 + turn % bl * 1) (v := .int .u32 (x : Int)) rfl hbr (by rw [Nat.zero_add, Nat.mul_one]; simp [u32s, hx]) ?_
  refine wD_callh (vs := [sp s.1 s.2, .int .u32 (x : Int)]) rfl (by kernel_rfl) (callX_args f3) ?_
  refine wD_lda (b := H.next) (o := 0) (q := [iv s.1, iv s.2]) rfl c13.rd rfl ?_
  refine wD_ld (b := b7) (o := 0) (v := .slice (some ⟨bb, 0, none⟩) bl bcap) rfl h73 rfl ?_
  refine wD_ld (b := bt) (o := 0) (v := iv turn) rfl ht3.rd rfl ?_
  refine wD_add (a := turn) (b := 1) rfl rfl ⟨by omega, by omega⟩ ?_
  refine wD_ld (b := b7) (o := 0) (v := .slice (some ⟨bb, 0, none⟩) bl bcap) rfl h73 rfl ?_
  refine wD_len (m := bl) rfl ?_
  refine wD_rem (a := (turn : Int) + 1) (b := bl) rfl rfl (by omega) (by omega) ⟨by omega, by omega⟩ ⟨by omega, by omega⟩ ?_
  refine wD_idx (b := bb) (o := 0) (k := (turn + 1) % bl) (j := ((turn : Int) + 1) % (bl : Int)) rfl rfl (by simp) hmod2 ?_
  refine wD_ld (b := bb) (o := 0 + (turn + 1) % bl * 1) (v := .int .u32 (y : Int)) rfl hbr3 (by rw [Nat.zero_add, Nat.mul_one]; simp [u32s, hy]) ?_
  refine wD_callf (vs := [sp s.1 s.2, .int .u32 (y : Int)]) rfl (callX_args f4) ?_
  refine wD_mov (v := iv (innerV s x)) rfl ?_
  refine wD_mov (v := iv (innerV s y)) rfl ?_
  refine wD_end (end_full3 (by rfl) (by simp only [List.length_cons, List.length_nil, Nat.reduceAdd, Nat.reducePow, Nat.reduceSub]) (by simp only [List.length_cons, List.length_nil, Nat.reduceAdd, Nat.reducePow, Nat.reduceSub]) (by simp only [List.length_cons, List.length_nil, Nat.reduceAdd, Nat.reducePow, Nat.reduceSub])) ?_
  have c1 := k4.cl c13 (by simp)
  have ht4 := k4.cl ht3 (by simp)
  have c24 := k24.cl c2 (by simp)
  refine Exists.intro _ (Exists.intro _ (And.intro ht4.of (And.intro rfl ?_)))
  refine And.intro ⟨by omega, by omega⟩ ?_
  obtain ⟨_, e5, l5, g5⟩ := id ht4
  refine Exists.intro _ (Exists.intro _ (Exists.intro _ (And.intro g5 (And.intro hlt (And.intro rfl (And.intro rfl (And.intro (by simp) ?_)))))))
  intro H5 hH5; obtain ⟨k5, n5, c5⟩ := up_facts ht4 hH5; clear hH5
  have c5 : Cl H5 bt [iv ((turn : Int) + 2)] := c5
  have c25 : Cl H5 H1.next [iv 0, iv 0] := k5.cl c24 (by simp; omega)
  refine And.intro rfl (Exists.intro (sp (min (innerV s x) (innerV s y)) (max (innerV s x) (innerV s y))) (And.intro (pure_span (lo := lo) rfl rfl) ?_))
  obtain ⟨_, e6, l6, g6⟩ := id c25
  refine Exists.intro _ (Exists.intro _ (Exists.intro _ (And.intro g6 (And.intro (by omega) (And.intro rfl (And.intro rfl (And.intro (by simp) ?_)))))))
  intro H6 hH6; obtain ⟨k6, n6, c6⟩ := up_facts c25 hH6; clear hH6
  have c6 : Cl H6 H1.next [iv (min (innerV s x) (innerV s y)), iv (max (innerV s x) (innerV s y))] := c6
  refine And.intro trivial (Exists.intro [sp (min (innerV s x) (innerV s y)) (max (innerV s x) (innerV s y))] (And.intro ?_ ⟨(min (innerV s x) (innerV s y), max (innerV s x) (innerV s y)), rfl, cut_in hs.2.1, ?_, ?_⟩))
  · obtain ⟨i, hi, hsz⟩ := i35s
    have hrd := load_all ag35 hi (cs := [iv (min (innerV s x) (innerV s y)), iv (max (innerV s x) (innerV s y))]) hsz c6.rd
    have e6 : ptr H1.next = pt H1.next := rfl
    simp only [resS, lk, beq_eq, Nat.reduceEqDiff, decide_true, decide_false, cond_true, cond_false, putS, e6, hrd]
  · exact (((k02.trans k24).mono (by simp)).new k5 (fun b hb => .inl hb) |>.new k6 (fun b hb => .inr (by simp at hb; omega)))
  · have := k6.cl c5 (by simp; omega)
    simpa using this
end
end Go.Ax
namespace Go.Ax
open Go Go.RowKit Go.Proofs

/-! ChainNarrow's second loop: each span of the water cut. -/
structure Mo2 (F : Hp) (b7 : Nat) (ba : Option Addr) (bl bcap : Nat) (bs : List Nat) : Prop where
  h7 : Rd F b7 [.slice ba bl bcap]
  hb : Sl F ba bl bcap (u32s bs)
  hbl : bs.length = bl
  h0 : 0 < bl
  hr : ∀ n ∈ bs, n ≤ 4294967295
  h2 : bl ≤ 9223372036854775807
abbrev clo2 (b7 bt : Nat) : Value := .func (.func 40) #[] #[pt b7, pt bt]
section
variable {kn : FuncId → Option Bool} {lo : Nat} {F H : Hp} {b7 bt : Nat} {ba : Option Addr} {bl bcap : Nat} {bs : List Nat}
theorem sure_loop {S : Rg} {c : Ch} {b14 b10 t0 : Nat} {lv ev : Value} {K : Exit → Rg → Hp → Prop} (mo : Mo2 F b7 ba bl bcap bs) (hFt : F.next ≤ bt) (htH : bt < H.next) (hlt : lo ≤ bt) (hc : c.At F) (v : c.Vd) (kF : Keep F H []) (hlo : lo ≤ F.next) (ht : Cl H bt [iv (t0 : Int)]) (ht0 : t0 ≤ 10000)
    (hS : Subs [(17, .slice none 0 0), (88, .slice c.wa c.wn c.wcap), (89, iv (c.wn : Int)), (90, iv ((0 : Nat) : Int)), (13, clo2 b7 bt), (14, pt b14), (2, lv), (9, ev), (10, pt b10)] S)
    (hK : ∀ w rs H', rs.length = c.wn → (∀ (j : Nat) r, rs[j]? = some r → ∃ s, c.ss[j]? = some s ∧ InS s r) → Keep H H' [bt] → Acc lo H.next 35 H' w c.wn (spc rs) → Cl H' bt [iv ((t0 + 2 * c.wn : Nat) : Int)] →
      K (.exit 2) [(91, .bool false), (17, w), (88, .slice c.wa c.wn c.wcap), (89, iv (c.wn : Int)), (90, iv (c.wn : Int)), (13, clo2 b7 bt), (14, pt b14), (2, lv), (9, ev), (10, pt b10)] H') :
    Tri Try.prog kn lo 197 false (at_ Try.f10 [1, 1, 1, 1, 1, 1, 1, 1, 1, 1, 0, 1, 0]) S H K := by
  have h16 := v.h16; have hwp := v.wp; have hlp := v.lp; have hlw := v.lw
  have hvw := List.all_eq_true.1 v.w
  have hpf := pond_facts v
  have hFH := kF.1
  refine loop_low (fn := Try.f10) E10_2 N10 L10x2 (fun x : Value × List (Int × Int) => [(17, x.1), (88, .slice c.wa c.wn c.wcap), (89, iv (c.wn : Int)), (90, iv (x.2.length : Int)), (13, clo2 b7 bt), (14, pt b14), (2, lv), (9, ev), (10, pt b10)])
    (fun k x H2 => x.2.length + k = c.wn ∧ (∀ (j : Nat) r, x.2[j]? = some r → ∃ s, c.ss[j]? = some s ∧ InS s r) ∧ Keep H H2 [bt] ∧ Acc lo H.next 35 H2 x.1 x.2.length (spc x.2) ∧ Cl H2 bt [iv ((t0 + 2 * x.2.length : Nat) : Int)])
    c.wn (.slice none 0 0, []) ⟨by simp, fun j r e => by simp at e, Keep.refl H _, .inl ⟨rfl, rfl, rfl⟩, by simpa using ht⟩ hS ?_
  rintro k ⟨w, rs⟩ H2 ⟨hik, hrs, hkH, hacc, htc⟩
  simp only at hik hrs hacc htc
  have hkn := hkH.1
  have hk : Keep F H2 [] := kF.new hkH (fun b hb => .inr (by simp at hb; omega))
  have hkFn := hk.1
  refine And.intro (fun hlt' => ?_) (fun hge => ?_)
  · have hi : rs.length < c.wn := by simpa using hlt'
    have hw2 := hk.sl0 hc.w
    rcases hw2 with ⟨_, h0, _⟩ | ⟨wb, ewa, hwc, _⟩
    · omega
    obtain ⟨s, hs⟩ := get_some (l := c.ss) (i := rs.length) (by omega)
    obtain ⟨p, hp⟩ := get_some (l := c.ponds) (i := rs.length) (by omega)
    have hws := hvw (p, s) (List.mem_of_getElem? (zip2_get hp hs))
    have hws : 0 ≤ s.1 ∧ s.1 ≤ s.2 ∧ s.2 ≤ p.full := by
      simp [withinB] at hws; omega
    have hp2 := (hpf p (List.mem_of_getElem? hp)).2
    rw [ewa]
    refine Exists.intro rs.length (And.intro rfl (And.intro hi ?_))
    refine Exists.intro _ (Exists.intro _ (And.intro hwc.of (And.intro (row_flat (f := fun s : Int × Int => [iv s.1, iv s.2]) (fun _ _ => rfl) hs) ?_)))
    intro H3 hH3; obtain ⟨k3, n3, c3⟩ := new_facts hH3; clear hH3
    obtain ⟨_, e3, l3, g3⟩ := id c3
    refine Exists.intro _ (Exists.intro _ (Exists.intro _ (And.intro g3 (And.intro (by omega) (And.intro rfl (And.intro rfl (And.intro (by simp) ?_)))))))
    intro H4 hH4; obtain ⟨k4, n4, c4⟩ := up_facts c3 hH4; clear hH4
    have c4 : Cl H4 H2.next [iv s.1, iv s.2] := c4
    have k24 : Keep H2 H4 [] := k3.new k4 (by simp)
    have hn24 := k24.1
    refine Exists.intro _ (Exists.intro _ (And.intro c4.of (And.intro (show row 2 _ _ = some [iv s.1, iv s.2] from rfl) ?_)))
    have k04 := hk.trans k24
    have ht4 := k24.cl htc (by simp)
    have h7lt := mo.h7.lt
    obtain ⟨r, H5, h5, hin, k5, t5⟩ := cut_ok (kn := kn) (lo := lo) (s := s) (k04.rd mo.h7 (by simp)) (k04.sl0 mo.hb) mo.hbl mo.h0 mo.hr ht4 hlt (by omega) (by omega) ⟨by omega, by omega, by omega⟩ mo.h2 (by omega)
    refine Exists.intro _ (Exists.intro _ (And.intro (callX_func rfl (by simpa using h5)) ?_))
    have hn45 := k5.1
    obtain ⟨H6, hH6⟩ : ∃ H6, H5.new (.cells [iv r.1, iv r.2] 35 false) = H6 := ⟨_, rfl⟩
    refine And.intro rfl (Or.inr (And.intro rfl (Exists.intro _ (Exists.intro H6 (Exists.intro _ (And.intro ((heap_build1 (v := sp r.1 r.2) se26 z35 rfl rfl rfl (by decide)).trans (by rw [← hH6]; rfl)) (And.intro (fun b e => by cases e) ?_)))))))
    obtain ⟨k6, n6, c6⟩ := new_facts hH6
    clear hH6
    have hsl : Sl H6 (some ⟨H5.next, 0, none⟩) 1 1 [iv r.1, iv r.2] := .inr ⟨H5.next, rfl, c6.rd, Nat.le_refl _⟩
    have k26 : Keep H2 H6 [bt] := ((k24.mono (by simp)).trans k5).trans (k6.mono (by simp))
    have hn26 := k26.1
    have acc6 := hacc.keepW k26 (fun b hb => by simp at hb; omega)
    obtain ⟨H7, kd, h7', hkd, acc7, kk⟩ := heap_append_one (P := Try.prog) (lo := lo) (k := rs.length) (t1 := 26) se26 u26 hsl rfl (by decide) rfl (by unfold spc; rw [flat_len (size := 2) (fun _ _ => rfl)]) (by omega) acc6 (by omega) (by omega)
    refine And.intro rfl (Or.inr (And.intro (by cases w <;> kernel_rfl) (Exists.intro _ (Exists.intro H7 (Exists.intro _ (And.intro (h7' _ _ _ _ _ _ _ rfl rfl) (And.intro (reg_ok hkd _) ?_)))))))
    have kH6 : Keep H H6 [bt] := hkH.trans k26
    have kH7 := app_keep kk (by omega) (F := H) (Nat.le_refl _) kH6
    have t7 := app_cl kk (by omega) (by omega) (k6.cl t5 (by simp))
    refine And.intro (show InR ((rs.length : Int) + 1) from ⟨by omega, by omega⟩) ?_
    refine ⟨k - 1, (Value.slice (some ⟨H6.next, 0, none⟩) (rs.length + 1) (rs.length + 1), rs ++ [r]), by omega, ⟨by simp; omega, fun j q e => ?_, kH7, ?_, ?_⟩, rfl, rfl, rfl, ?_, rfl, rfl, rfl, rfl, rfl, trivial⟩
    · rw [List.getElem?_append] at e
      split at e
      · exact hrs j q e
      · rename_i hj
        have : j = rs.length := by
          have := get_lt e; simp at this; omega
        subst this
        simp at e; subst e
        exact ⟨s, hs, hin⟩
    · have e2 : spc (rs ++ [r]) = spc rs ++ [iv r.1, iv r.2] := by simp [spc, List.flatMap_append]
      show Acc lo H.next 35 H7 (Value.slice (some ⟨H6.next, 0, none⟩) (rs.length + 1) (rs.length + 1)) (rs ++ [r]).length (spc (rs ++ [r]))
      rw [e2, List.length_append]
      exact acc7
    · have e3 : t0 + 2 * (rs ++ [r]).length = t0 + 2 * rs.length + 2 := by simp; omega
      show Cl H7 bt [iv ((t0 + 2 * (rs ++ [r]).length : Nat) : Int)]
      rw [e3]; exact t7
    · show some (iv ((rs.length : Int) + 1)) = some (iv ((rs ++ [r]).length : Int))
      simp
  · have hi : ¬ rs.length < c.wn := by simpa using hge
    have hl : rs.length = c.wn := by omega
    rw [hl] at hacc htc
    have := hK w rs H2 hl hrs hkH hacc htc
    rw [hl]
    have hd2 : decide ((c.wn : Int) < (c.wn : Int)) = false := by simp
    rw [← hd2] at this
    exact this
end
end Go.Ax
namespace Go.Ax
open Go Go.RowKit Go.Proofs

/-! ChainNarrow's fourth loop: each span of what comes in an hour, cut. -/
section
variable {kn : FuncId → Option Bool} {lo : Nat} {F H : Hp} {b7 bt : Nat} {ba : Option Addr} {bl bcap : Nat} {bs : List Nat}
theorem known_comes {S : Rg} {b4 b10 b19 T : Nat} {lv ev rv av bv tv : Value} {ln i : Nat} {ca : Option Addr} {cn ccap : Nat} {cs : List (Int × Int)} {K : Exit → Rg → Hp → Prop} (mo : Mo2 F b7 ba bl bcap bs) (hF7 : b7 ≠ bt) (hFb : ∀ b, ba = some ⟨b, 0, none⟩ → b ≠ bt) (hc : Sl F ca cn ccap (spc cs)) (hcn : cs.length = cn) (hFc : ∀ b, ca = some ⟨b, 0, none⟩ → b ≠ bt)
    (hcs : ∀ s ∈ cs, 0 ≤ s.1 ∧ s.1 ≤ s.2 ∧ s.2 ≤ 68719476736) (hn : cn ≤ 20) (hT : T ≤ 10000) (hlt : lo ≤ bt) (hFt : bt < F.next) (hF19 : F.next ≤ b19) (h19 : b19 < H.next) (hlo : lo ≤ F.next) (kF : Keep F H [bt]) (ht : Cl H bt [iv (T : Int)]) (hc19 : Cl H b19 [bv, .slice none 0 0, tv])
    (hS : Subs [(110, .slice ca cn ccap), (111, iv (cn : Int)), (112, iv ((0 : Nat) : Int)), (13, clo2 b7 bt), (22, pt b19), (20, av), (101, lv), (102, iv (ln : Int)), (103, iv (i : Int)), (14, pt b4), (9, ev), (10, pt b10), (17, rv)] S)
    (hK : ∀ w rs H', rs.length = cn → (∀ (j : Nat) r, rs[j]? = some r → ∃ s, cs[j]? = some s ∧ InS s r) → Keep F H' [bt] → Acc lo H.next 35 H' w cn (spc rs) → Cl H' bt [iv ((T + 2 * cn : Nat) : Int)] → Cl H' b19 [bv, w, tv] →
      K (.exit 6) [(113, .bool false), (110, .slice ca cn ccap), (111, iv (cn : Int)), (112, iv (cn : Int)), (13, clo2 b7 bt), (22, pt b19), (20, av), (101, lv), (102, iv (ln : Int)), (103, iv (i : Int)), (14, pt b4), (9, ev), (10, pt b10), (17, rv)] H') :
    Tri Try.prog kn lo 197 false (at_ Try.f10 [1, 1, 1, 1, 1, 1, 1, 1, 1, 1, 1, 1, 0, 1, 0, 0, 1, 1, 0, 0, 1, 1, 1, 0, 1, 0]) S H K := by
  have hFH := kF.1
  refine loop_low (fn := Try.f10) E10_4 N10 L10x4 (fun x : Value × List (Int × Int) => [(110, .slice ca cn ccap), (111, iv (cn : Int)), (112, iv (x.2.length : Int)), (13, clo2 b7 bt), (22, pt b19), (20, av), (101, lv), (102, iv (ln : Int)), (103, iv (i : Int)), (14, pt b4), (9, ev), (10, pt b10), (17, rv)])
    (fun k x H2 => x.2.length + k = cn ∧ (∀ (j : Nat) r, x.2[j]? = some r → ∃ s, cs[j]? = some s ∧ InS s r) ∧ Keep F H2 [bt] ∧ Acc lo H.next 35 H2 x.1 x.2.length (spc x.2) ∧ Cl H2 bt [iv ((T + 2 * x.2.length : Nat) : Int)] ∧ Cl H2 b19 [bv, x.1, tv] ∧ H.next ≤ H2.next)
    cn (.slice none 0 0, []) ⟨by simp, fun j r e => by simp at e, kF, .inl ⟨rfl, rfl, rfl⟩, by simpa using ht, hc19, Nat.le_refl _⟩ hS ?_
  rintro k ⟨w, rs⟩ H2 ⟨hik, hrs, hk, hacc, htc, hc2, hHn⟩
  simp only at hik hrs hacc htc hc2
  have hkn := hk.1
  refine And.intro (fun hlt' => ?_) (fun hge => ?_)
  · have hi : rs.length < cn := by simpa using hlt'
    have hw2 := hk.sl hc (fun b e => by have := hFc b e; simpa using this)
    rcases hw2 with ⟨_, h0, _⟩ | ⟨cb, eca, hwc, _⟩
    · omega
    obtain ⟨s, hs⟩ := get_some (l := cs) (i := rs.length) (by omega)
    have hsb := hcs s (List.mem_of_getElem? hs)
    rw [eca]
    refine Exists.intro rs.length (And.intro rfl (And.intro hi ?_))
    refine Exists.intro _ (Exists.intro _ (And.intro hwc.of (And.intro (row_flat (f := fun s : Int × Int => [iv s.1, iv s.2]) (fun _ _ => rfl) hs) ?_)))
    intro H3 hH3; obtain ⟨k3, n3, c3⟩ := new_facts hH3; clear hH3
    obtain ⟨_, e3, l3, g3⟩ := id c3
    refine Exists.intro _ (Exists.intro _ (Exists.intro _ (And.intro g3 (And.intro (by omega) (And.intro rfl (And.intro rfl (And.intro (by simp) ?_)))))))
    intro H4 hH4; obtain ⟨k4, n4, c4⟩ := up_facts c3 hH4; clear hH4
    have c4 : Cl H4 H2.next [iv s.1, iv s.2] := c4
    have k24 : Keep H2 H4 [] := k3.new k4 (by simp)
    have hn24 := k24.1
    have c19 := k24.cl hc2 (by simp)
    refine Exists.intro _ (Exists.intro w (And.intro c19.of (And.intro rfl (And.intro c19.lt ?_))))
    refine Exists.intro _ (Exists.intro _ (And.intro c4.of (And.intro (show row 2 _ _ = some [iv s.1, iv s.2] from rfl) (And.intro c4.lt ?_))))
    have k04 : Keep F H4 [bt] := hk.trans (k24.mono (by simp))
    have ht4 := k24.cl htc (by simp)
    obtain ⟨r, H5, h5, hup, k5, t5⟩ := cut_ok (kn := kn) (lo := lo) (s := s) (k04.rd mo.h7 (by simpa using hF7)) (k04.sl mo.hb (fun b e => by have := hFb b e; simpa using this)) mo.hbl mo.h0 mo.hr ht4 hlt hF7 (by omega) ⟨by omega, by omega, by omega⟩ mo.h2 (by omega)
    refine Exists.intro _ (Exists.intro _ (Exists.intro bt (And.intro (callX_func rfl (by simpa using h5)) (And.intro hlt (And.intro (ht4.ne t5 (fun q => by have q := (List.cons.inj q).1; have q := (Value.int.inj q).2; omega)) (And.intro ht4.lt (And.intro (fun c hc hn => k5.2 c hc (by simpa using hn)) ?_)))))))
    have hn45 := k5.1
    obtain ⟨H6, hH6⟩ : ∃ H6, H5.new (.cells [iv r.1, iv r.2] 35 false) = H6 := ⟨_, rfl⟩
    refine And.intro rfl (Or.inr (And.intro rfl (Exists.intro _ (Exists.intro H6 (Exists.intro _ (And.intro ((heap_build1 (v := sp r.1 r.2) se26 z35 rfl rfl rfl (by decide)).trans (by rw [← hH6]; rfl)) (And.intro (fun b e => by cases e) ?_)))))))
    obtain ⟨k6, n6, c6⟩ := new_facts hH6
    clear hH6
    have hsl : Sl H6 (some ⟨H5.next, 0, none⟩) 1 1 [iv r.1, iv r.2] := .inr ⟨H5.next, rfl, c6.rd, Nat.le_refl _⟩
    have k26 : Keep H2 H6 [bt] := ((k24.mono (by simp)).trans k5).trans (k6.mono (by simp))
    have hn26 := k26.1
    have acc6 := hacc.keepW k26 (fun b hb => by simp at hb; omega)
    obtain ⟨H7, kd, h7', hkd, acc7, kk⟩ := heap_append_one (P := Try.prog) (lo := lo) (k := rs.length) (t1 := 26) se26 u26 hsl rfl (by decide) rfl (by unfold spc; rw [flat_len (size := 2) (fun _ _ => rfl)]) (by omega) acc6 (by omega) (by omega)
    refine And.intro rfl (Or.inr (And.intro (by cases w <;> kernel_rfl) (Exists.intro _ (Exists.intro H7 (Exists.intro _ (And.intro (h7' _ _ _ _ _ _ _ rfl rfl) (And.intro (reg_ok hkd _) ?_)))))))
    have kF6 : Keep F H6 [bt] := hk.trans k26
    have kF7 := app_keep kk (by omega) (F := F) (by omega) kF6
    have t7 := app_cl kk (by omega) (by omega) (k6.cl t5 (by simp))
    have c197 := app_cl kk (by omega) (by omega) (k26.cl hc2 (by simp; omega))
    have hn7 := (kk { next := H.next, t := H6.t } rfl ⟨by show H.next ≤ H6.next; omega, fun _ _ _ => rfl⟩).1
    have hn7 : H.next ≤ H7.next := hn7
    have hlen : (rs.length : Int) + 1 = ((rs.length + 1 : Nat) : Int) := by omega
    have fin : ∀ H8, H7.up b19 (.cells ([bv, w, tv].set 1 (.slice (some ⟨H6.next, 0, none⟩) (rs.length + 1) (rs.length + 1))) c197.2.choose c197.2.choose_spec.choose) = H8 →
        (rs ++ [r]).length + (k - 1) = cn ∧ (∀ (j : Nat) q, (rs ++ [r])[j]? = some q → ∃ s, cs[j]? = some s ∧ InS s q) ∧ Keep F H8 [bt] ∧ Acc lo H.next 35 H8 (.slice (some ⟨H6.next, 0, none⟩) (rs.length + 1) (rs.length + 1)) (rs ++ [r]).length (spc (rs ++ [r])) ∧ Cl H8 bt [iv ((T + 2 * (rs ++ [r]).length : Nat) : Int)] ∧ Cl H8 b19 [bv, .slice (some ⟨H6.next, 0, none⟩) (rs.length + 1) (rs.length + 1), tv] ∧ H.next ≤ H8.next := by
      intro H8 hH8
      obtain ⟨k8, n8, c8⟩ := up_facts c197 hH8
      have c8 : Cl H8 b19 [bv, .slice (some ⟨H6.next, 0, none⟩) (rs.length + 1) (rs.length + 1), tv] := c8
      refine ⟨by simp; omega, fun j q e => ?_, kF7.new k8 (fun b hb => .inr (by simp at hb; omega)), ?_, ?_, c8, by omega⟩
      · rw [List.getElem?_append] at e
        split at e
        · exact hrs j q e
        · rename_i hj
          have : j = rs.length := by
            have := get_lt e; simp at this; omega
          subst this
          simp at e; subst e
          exact ⟨s, hs, hup⟩
      · have e2 : spc (rs ++ [r]) = spc rs ++ [iv r.1, iv r.2] := by simp [spc, List.flatMap_append]
        rw [e2, List.length_append]
        exact acc7.keepW k8 (fun b hb => by simp at hb; omega)
      · have := k8.cl t7 (by simp; omega)
        have e3 : T + 2 * (rs ++ [r]).length = T + 2 * rs.length + 2 := by simp; omega
        rw [e3]; exact this
    have hne19 : bt ≠ b19 := by omega
    rcases hkd with rfl | ⟨bk, rfl, hbk⟩
    all_goals
      refine Exists.intro _ (Exists.intro _ (Exists.intro _ (And.intro c197.2.choose_spec.choose_spec (And.intro (by omega) (And.intro rfl (And.intro rfl (And.intro (by show 1 < 3; decide) ?_)))))))
      intro H8 hH8
      have hfin := fin H8 hH8
      refine And.intro ?_ ?_
      · repeat' first | exact True.intro | exact (fun h => h) | exact (fun h => hne19 h) | exact (fun h => hne19 h.symm) | refine And.intro ?_ ?_
      refine And.intro (show InR ((rs.length : Int) + 1) from ⟨by omega, by omega⟩) ?_
      refine ⟨k - 1, (_, rs ++ [r]), by omega, hfin, rfl, rfl, ?_, rfl, rfl, rfl, rfl, rfl, rfl, rfl, rfl, rfl, rfl, trivial⟩
      show some (iv ((rs.length : Int) + 1)) = some (iv ((rs ++ [r]).length : Int))
      rw [hlen]; simp
  · have hi : ¬ rs.length < cn := by simpa using hge
    have hl : rs.length = cn := by omega
    have hd2 : decide ((cn : Int) < (cn : Int)) = false := by simp
    rw [hl] at hacc htc
    have := hK w rs H2 hl hrs hk hacc htc hc2
    rw [hl]
    rw [← hd2] at this
    exact this
end
end Go.Ax
namespace Go.Ax
open Go Go.RowKit Go.Proofs

/-! ChainNarrow's third loop: each hour, with what comes cut. -/
theorem Mo2.keep {F H : Hp} {b7 bt : Nat} {ba : Option Addr} {bl bcap : Nat} {bs : List Nat} (h : Mo2 F b7 ba bl bcap bs) (k : Keep F H [bt]) (h1 : b7 ≠ bt) (h2 : ∀ b, ba = some ⟨b, 0, none⟩ → b ≠ bt) : Mo2 H b7 ba bl bcap bs :=
  ⟨k.rd h.h7 (by simpa using h1), k.sl h.hb (fun b e => by have := h2 b e; simpa using this), h.hbl, h.h0, h.hr, h.h2⟩
structure Nar (h r : Hr) : Prop where
  bs : r.bs = h.bs
  ts : r.ts = h.ts
  bn : r.bn = h.bn
  cn : r.cn = h.cn
  tn : r.tn = h.tn
  l : r.cs.length = h.cs.length
  c : ∀ (j : Nat) q, r.cs[j]? = some q → ∃ s, h.cs[j]? = some s ∧ InS s q
section
variable {kn : FuncId → Option Bool} {lo : Nat} {F H : Hp} {b7 bt : Nat} {ba : Option Addr} {bl bcap : Nat} {bs : List Nat}
theorem known_loop {S : Rg} {q : BQ} {b4 b10 T : Nat} {ev rv : Value} {K : Exit → Rg → Hp → Prop} (mo : Mo2 F b7 ba bl bcap bs) (hF7 : b7 ≠ bt) (hFb : ∀ b, ba = some ⟨b, 0, none⟩ → b ≠ bt)
    (hl : Sl F q.la q.ln q.lcap (hrc q.hs)) (hln : q.hs.length = q.ln) (hh : ∀ h ∈ q.hs, h.At F) (hla : ∀ b, q.la = some ⟨b, 0, none⟩ → b ≠ bt) (hho : ∀ h ∈ q.hs, (∀ b, h.ba = some ⟨b, 0, none⟩ → b ≠ bt) ∧ (∀ b, h.ca = some ⟨b, 0, none⟩ → b ≠ bt) ∧ (∀ b, h.ta = some ⟨b, 0, none⟩ → b ≠ bt))
    (hhb : ∀ h ∈ q.hs, hourB h q.c.pn q.c.gn = true) (h16 : q.c.pn ≤ 16) (hn : q.ln ≤ 24) (hT : T ≤ 1000) (hlt : lo ≤ bt) (hFt : bt < F.next) (hlo : lo ≤ F.next) (hFH : H = F) (ht : Cl H bt [iv (T : Int)])
    (hS : Subs [(20, .slice none 0 0), (101, .slice q.la q.ln q.lcap), (102, iv (q.ln : Int)), (103, iv ((0 : Nat) : Int)), (13, clo2 b7 bt), (14, pt b4), (9, ev), (10, pt b10), (17, rv)] S)
    (hK : ∀ w rs H', rs.length = q.ln → (∀ (j : Nat) r, rs[j]? = some r → ∃ h, q.hs[j]? = some h ∧ Nar h r) → Keep F H' [bt] → Acc lo F.next 30 H' w q.ln (hrc rs) → (∀ r ∈ rs, r.At H') →
      K (.exit 4) [(104, .bool false), (20, w), (101, .slice q.la q.ln q.lcap), (102, iv (q.ln : Int)), (103, iv (q.ln : Int)), (13, clo2 b7 bt), (14, pt b4), (9, ev), (10, pt b10), (17, rv)] H') :
    Tri Try.prog kn lo 197 false (at_ Try.f10 [1, 1, 1, 1, 1, 1, 1, 1, 1, 1, 1, 1, 0, 1, 0]) S H K := by
  subst hFH
  refine loop_low (fn := Try.f10) E10_3 N10 L10x3 (fun x : Value × List Hr => [(20, x.1), (101, .slice q.la q.ln q.lcap), (102, iv (q.ln : Int)), (103, iv (x.2.length : Int)), (13, clo2 b7 bt), (14, pt b4), (9, ev), (10, pt b10), (17, rv)])
    (fun k x H2 => x.2.length + k = q.ln ∧ (∀ (j : Nat) r, x.2[j]? = some r → ∃ h, q.hs[j]? = some h ∧ Nar h r) ∧ Keep H H2 [bt] ∧ Acc lo H.next 30 H2 x.1 x.2.length (hrc x.2) ∧ (∃ T2, T2 ≤ T + 32 * x.2.length ∧ Cl H2 bt [iv ((T2 : Nat) : Int)]) ∧ (∀ r ∈ x.2, WAt H.next bt x.1 H2 r))
    q.ln (.slice none 0 0, []) ⟨by simp, fun j r e => by simp at e, Keep.refl _ _, .inl ⟨rfl, rfl, rfl⟩, ⟨T, by simp, ht⟩, fun r hr => by simp at hr⟩ hS ?_
  rintro k ⟨w, rs⟩ H2 ⟨hik, hrs, hk, hacc, ⟨T2, hT2, htc⟩, hat⟩
  simp only at hik hrs hacc htc hT2 hat
  have hkn := hk.1
  refine And.intro (fun hlt' => ?_) (fun hge => ?_)
  · have hi : rs.length < q.ln := by simpa using hlt'
    have hl2 := hk.sl hl (fun b e => by have := hla b e; simpa using this)
    rcases hl2 with ⟨_, h0, _⟩ | ⟨lb, ela, hlc, _⟩
    · omega
    obtain ⟨h, hx⟩ := get_some (l := q.hs) (i := rs.length) (by omega)
    have hm := List.mem_of_getElem? hx
    have hv := hhb h hm
    simp only [hourB, Bool.and_eq_true] at hv
    obtain ⟨⟨⟨⟨⟨v1, v2⟩, v3⟩, v4⟩, v5⟩, v6⟩ := hv
    have hcn : h.cn = q.c.pn := by simp at v2; omega
    have hat0 := hh h hm
    obtain ⟨o1, o2, o3⟩ := hho h hm
    rw [ela]
    refine Exists.intro rs.length (And.intro rfl (And.intro hi ?_))
    refine Exists.intro _ (Exists.intro _ (And.intro hlc.of (And.intro (row_flat (f := Hr.v) (fun _ _ => rfl) hx) ?_)))
    intro H3 hH3; obtain ⟨k3, n3, c3⟩ := new_facts hH3; clear hH3
    obtain ⟨_, e3, l3, g3⟩ := id c3
    refine Exists.intro _ (Exists.intro _ (Exists.intro _ (And.intro g3 (And.intro (by omega) (And.intro rfl (And.intro rfl (And.intro (by simp) ?_)))))))
    intro H4 hH4; obtain ⟨k4, n4, c4⟩ := up_facts c3 hH4; clear hH4
    have c4 : Cl H4 H2.next [.slice h.ba h.bn h.bcap, .slice h.ca h.cn h.ccap, .slice h.ta h.tn h.tcap] := c4
    refine Exists.intro _ (Exists.intro _ (And.intro c4.of (And.intro rfl ?_)))
    obtain ⟨_, e4, l4, g4⟩ := id c4
    refine Exists.intro _ (Exists.intro _ (Exists.intro _ (And.intro g4 (And.intro (by omega) (And.intro rfl (And.intro rfl (And.intro (by show 1 < 3; decide) ?_)))))))
    intro H5 hH5; obtain ⟨k5, n5, c5⟩ := up_facts c4 hH5; clear hH5
    have c5 : Cl H5 H2.next [.slice h.ba h.bn h.bcap, .slice none 0 0, .slice h.ta h.tn h.tcap] := c5
    have k25 : Keep H2 H5 [] := (k3.new k4 (by simp)).new k5 (by simp)
    have hn25 := k25.1
    have k05 : Keep H H5 [bt] := hk.trans (k25.mono (by simp))
    have hlt2 := c5.lt
    refine known_comes (F := H2) (b19 := H2.next) (T := T2) (lv := .slice q.la q.ln q.lcap) (cs := h.cs) (ca := h.ca) (cn := h.cn) (ccap := h.ccap) (ln := q.ln) (i := rs.length) (av := w) (b4 := b4) (b10 := b10) (ev := ev) (rv := rv) (mo.keep hk hF7 hFb) hF7 hFb (hk.sl hat0.c (fun b e => by have := o2 b e; simpa using this)) hat0.lc o2 (fun s hs => ?_) (by omega) (by omega) hlt (by omega) (by omega) hlt2 (by omega) (k25.mono (by simp)) (k25.cl htc (by simp)) c5 ⟨rfl, rfl, rfl, rfl, rfl, rfl, by rw [ela]; rfl, rfl, rfl, rfl, rfl, rfl, rfl, trivial⟩ ?_
    · have := List.all_eq_true.1 v5 s hs
      simp [withinB] at this; omega
    intro wc cr H6 hcl hcr k26 acc6 t6 c6
    have hn26 := k26.1
    obtain ⟨ac, acap, rfl, sc6, oc6⟩ := acc6.sl
    have hblk := hacc.blk
    refine Exists.intro _ (Exists.intro _ (And.intro c6.of (And.intro rfl ?_)))
    obtain ⟨H7, hH7⟩ : ∃ H7, H6.new (.cells [.slice h.ba h.bn h.bcap, .slice ac h.cn acap, .slice h.ta h.tn h.tcap] 30 false) = H7 := ⟨_, rfl⟩
    refine And.intro rfl (Or.inr (And.intro rfl (Exists.intro _ (Exists.intro H7 (Exists.intro _ (And.intro ((heap_build1 (v := .agg #[.slice h.ba h.bn h.bcap, .slice ac h.cn acap, .slice h.ta h.tn h.tcap]) se47 z30 rfl rfl rfl (by decide)).trans (by rw [← hH7]; rfl)) (And.intro (fun b e => by cases e) ?_)))))))
    obtain ⟨k7, n7, c7⟩ := new_facts hH7
    clear hH7
    have hsl : Sl H7 (some ⟨H6.next, 0, none⟩) 1 1 [.slice h.ba h.bn h.bcap, .slice ac h.cn acap, .slice h.ta h.tn h.tcap] := .inr ⟨H6.next, rfl, c7.rd, Nat.le_refl _⟩
    have k27 : Keep H2 H7 [bt] := k26.trans (k7.mono (by simp))
    have acc7 := hacc.keepW k27 (fun b hb => by simp at hb; omega)
    obtain ⟨H8, kd, h8, hkd, acc8, k8, n8⟩ := heap_append_two (P := Try.prog) (lo := lo) (k := rs.length) (t1 := 47) se47 u47 hsl rfl (by decide) rfl (by rw [hrc_len]) (by omega) acc7 (by omega) (by omega)
    refine And.intro rfl (Or.inr (And.intro (by cases w <;> kernel_rfl) (Exists.intro _ (Exists.intro H8 (Exists.intro _ (And.intro (h8 _ _ _ _ _ _ _ rfl rfl) (And.intro (reg_ok hkd _) ?_)))))))
    refine And.intro (show InR ((rs.length : Int) + 1) from ⟨by omega, by omega⟩) ?_
    have k28 : Keep H2 H8 (bt :: accB w) := (k27.mono (by simp)).trans (k8.mono (fun b hb => List.mem_cons_of_mem _ hb))
    have k68 : Keep H6 H8 (accB w) := (k7.mono (by simp)).trans k8
    have kH8 : Keep H H8 [bt] := hk.new k28 (fun b hb => by
      simp only [List.mem_cons] at hb
      rcases hb with rfl | hb
      · exact .inl (by simp)
      · exact .inr (hblk b hb).1)
    have newAt : ({ h with ca := ac, ccap := acap, cs := cr } : Hr).At H8 := by
      refine ⟨kH8.sl hat0.b (fun b e => by have := o1 b e; simpa using this), k68.sl sc6 (fun b e hb => ?_), kH8.sl hat0.t (fun b e => by have := o3 b e; simpa using this), hat0.lb, hcl, hat0.lt⟩
      have := oc6 b e
      have := (hblk b hb).2
      omega
    refine ⟨k - 1, (_, rs ++ [{ h with ca := ac, ccap := acap, cs := cr }]), by omega, ⟨by simp; omega, fun j r e => ?_, kH8, ?_, ⟨T2 + 2 * h.cn, by simp; omega, k68.cl t6 (fun hb => by have := (hblk bt hb).1; omega)⟩, fun r hr => ?_⟩, rfl, by rw [ela]; rfl, rfl, ?_, rfl, rfl, rfl, rfl, rfl, trivial⟩
    · simp only at e
      rw [List.getElem?_append] at e
      split at e
      · exact hrs j r e
      · rename_i hj
        have : j = rs.length := by
          have := get_lt e; simp at this; omega
        subst this
        simp at e; subst e
        exact ⟨h, hx, rfl, rfl, rfl, rfl, rfl, by show cr.length = h.cs.length; rw [hcl, hat0.lc], hcr⟩
    · show Acc lo H.next 30 H8 (.slice (some ⟨H7.next, 0, none⟩) (rs.length + 1) (rs.length + 1)) (rs ++ [_]).length (hrc (rs ++ [_]))
      have e2 : hrc (rs ++ [{ h with ca := ac, ccap := acap, cs := cr }]) = hrc rs ++ [.slice h.ba h.bn h.bcap, .slice ac h.cn acap, .slice h.ta h.tn h.tcap] := by simp [hrc, List.flatMap_append, Hr.v]
      rw [e2, List.length_append]
      exact acc8
    · simp only [List.mem_append, List.mem_singleton] at hr
      rcases hr with hr | rfl
      · have r0 := hat r hr
        have hb1 : ∀ b, r.ba = some ⟨b, 0, none⟩ → b ∉ bt :: accB w := fun b e hb => by
          obtain ⟨x1, x2⟩ := r0.b b e
          simp only [List.mem_cons] at hb
          rcases hb with hb | hb
          · exact x2 hb
          · have := (hblk b hb).1; omega
        have ht1 : ∀ b, r.ta = some ⟨b, 0, none⟩ → b ∉ bt :: accB w := fun b e hb => by
          obtain ⟨x1, x2⟩ := r0.t b e
          simp only [List.mem_cons] at hb
          rcases hb with hb | hb
          · exact x2 hb
          · have := (hblk b hb).1; omega
        have hc1 : ∀ b, r.ca = some ⟨b, 0, none⟩ → b ∉ bt :: accB w := fun b e hb => by
          obtain ⟨x1, x2⟩ := r0.c b e
          simp only [List.mem_cons] at hb
          rcases hb with hb | hb
          · omega
          · exact x2 hb
        refine ⟨⟨k28.sl r0.at_.b hb1, k28.sl r0.at_.c hc1, k28.sl r0.at_.t ht1, r0.at_.lb, r0.at_.lc, r0.at_.lt⟩, r0.b, r0.t, fun b e => ⟨(r0.c b e).1, ?_⟩⟩
        have := r0.at_.c.lt b e
        simp [accB]; omega
      · refine ⟨newAt, fun b e => ⟨hat0.b.lt b e, o1 b e⟩, fun b e => ⟨hat0.t.lt b e, o3 b e⟩, fun b e => ?_⟩
        have h1 := oc6 b e
        have h2 := sc6.lt b e
        simp [accB]; omega
    · show some (iv ((rs.length : Int) + 1)) = some (iv ((rs ++ [_]).length : Int))
      simp
  · have hi : ¬ rs.length < q.ln := by simpa using hge
    have hl' : rs.length = q.ln := by omega
    have hd2 : decide ((q.ln : Int) < (q.ln : Int)) = false := by simp
    rw [hl'] at hacc
    have := hK w rs H2 hl' hrs hk hacc (fun r hr => (hat r hr).at_)
    rw [hl']
    rw [← hd2] at this
    exact this
end
end Go.Ax
namespace Go.Ax
open Go Go.RowKit Go.Proofs

/-! ChainNarrow's first loop: each pond with its seep cut. -/
theorem se22 : sliceElem Try.prog 22 = some (71, 4) := by kernel_rfl
theorem u22 : Try.prog.underlying 22 = some (.slice 71) := by kernel_rfl
theorem z71 : zeroOf Try.prog 71 = some (.agg #[.int .i64 0, .int .i64 0, .int .i64 0, .int .i64 0]) := by kernel_rfl
/-- A pond whose seep is a part of the other's. -/
structure NarP (p r : Pd) : Prop where
  full : r.full = p.full
  spill : r.spill = p.spill
  s : InS (p.lo, p.hi) (r.lo, r.hi)
section
variable {kn : FuncId → Option Bool} {lo : Nat} {F H : Hp} {b7 bt : Nat} {ba : Option Addr} {bl bcap : Nat} {bs : List Nat}
theorem less_loop {S : Rg} {c : Ch} {b14 b10 t0 : Nat} {wv lv ev gv : Value} {K : Exit → Rg → Hp → Prop} (mo : Mo2 F b7 ba bl bcap bs) (hFt : F.next ≤ bt) (htH : bt < H.next) (hlt : lo ≤ bt) (hc : c.At F) (v : c.Vd) (kF : Keep F H []) (hlo : lo ≤ F.next) (ht : Cl H bt [iv (t0 : Int)]) (ht0 : t0 ≤ 10000)
    (hF14 : F.next ≤ b14) (h14 : Cl H b14 [.slice none 0 0, gv]) (hne : bt ≠ b14)
    (hS : Subs [(70, .slice c.pa c.pn c.pcap), (71, iv (c.pn : Int)), (72, iv ((0 : Nat) : Int)), (13, clo2 b7 bt), (14, pt b14), (1, wv), (2, lv), (9, ev), (10, pt b10)] S)
    (hK : ∀ w rs H', rs.length = c.pn → (∀ (j : Nat) r, rs[j]? = some r → ∃ p, c.ponds[j]? = some p ∧ NarP p r) → Keep H H' [bt, b14] → Acc lo H.next 71 H' w c.pn (pdc rs) → Cl H' bt [iv ((t0 + 2 * c.pn : Nat) : Int)] → Cl H' b14 [w, gv] →
      K (.exit 0) [(73, .bool false), (70, .slice c.pa c.pn c.pcap), (71, iv (c.pn : Int)), (72, iv (c.pn : Int)), (13, clo2 b7 bt), (14, pt b14), (1, wv), (2, lv), (9, ev), (10, pt b10)] H') :
    Tri Try.prog kn lo 197 false (at_ Try.f10 [1, 1, 1, 1, 1, 1, 1, 1, 0, 1, 0]) S H K := by
  have h16 := v.h16; have hwp := v.wp; have hlp := v.lp; have hlw := v.lw
  have hpf := pond_facts v
  have hvp := List.all_eq_true.1 v.p
  have hFH := kF.1
  have h14l := h14.lt
  refine loop_low (fn := Try.f10) E10_1 N10 L10x1 (fun x : Value × List Pd => [(70, .slice c.pa c.pn c.pcap), (71, iv (c.pn : Int)), (72, iv (x.2.length : Int)), (13, clo2 b7 bt), (14, pt b14), (1, wv), (2, lv), (9, ev), (10, pt b10)])
    (fun k x H2 => x.2.length + k = c.pn ∧ (∀ (j : Nat) r, x.2[j]? = some r → ∃ p, c.ponds[j]? = some p ∧ NarP p r) ∧ Keep H H2 [bt, b14] ∧ Acc lo H.next 71 H2 x.1 x.2.length (pdc x.2) ∧ Cl H2 bt [iv ((t0 + 2 * x.2.length : Nat) : Int)] ∧ Cl H2 b14 [x.1, gv])
    c.pn (.slice none 0 0, []) ⟨by simp, fun j r e => by simp at e, Keep.refl H _, .inl ⟨rfl, rfl, rfl⟩, by simpa using ht, h14⟩ hS ?_
  rintro k ⟨w, rs⟩ H2 ⟨hik, hrs, hkH, hacc, htc, hc14⟩
  simp only at hik hrs hacc htc hc14
  have hkn := hkH.1
  have hk : Keep F H2 [] := kF.new hkH (fun b hb => .inr (by simp at hb; omega))
  have hkFn := hk.1
  refine And.intro (fun hlt' => ?_) (fun hge => ?_)
  · have hi : rs.length < c.pn := by simpa using hlt'
    have hp2 := hk.sl0 hc.p
    rcases hp2 with ⟨_, h0, _⟩ | ⟨pb, epa, hpc, _⟩
    · omega
    obtain ⟨p, hp⟩ := get_some (l := c.ponds) (i := rs.length) (by omega)
    have hpd := hvp (p, rs.length) (List.mem_of_getElem? (zip_getP hp))
    have hsp : 0 ≤ p.lo ∧ p.lo ≤ p.hi ∧ p.hi ≤ 1000000 := by
      simp only [pondB, Bool.and_eq_true, withinB, decide_eq_true_eq] at hpd
      omega
    rw [epa]
    refine Exists.intro rs.length (And.intro rfl (And.intro hi ?_))
    refine Exists.intro _ (Exists.intro _ (And.intro hpc.of (And.intro (row_flat (f := Pd.v) (fun _ _ => rfl) hp) ?_)))
    intro H3 hH3; obtain ⟨k3, n3, c3⟩ := new_facts hH3; clear hH3
    obtain ⟨_, e3, l3, g3⟩ := id c3
    refine Exists.intro _ (Exists.intro _ (Exists.intro _ (And.intro g3 (And.intro (by omega) (And.intro rfl (And.intro rfl (And.intro (by simp) ?_)))))))
    intro H4 hH4; obtain ⟨k4, n4, c4⟩ := up_facts c3 hH4; clear hH4
    have c4 : Cl H4 H2.next [iv p.full, iv p.lo, iv p.hi, iv p.spill] := c4
    have k24 : Keep H2 H4 [] := k3.new k4 (by simp)
    have hn24 := k24.1
    refine Exists.intro _ (Exists.intro _ (And.intro c4.of (And.intro (show row 2 _ _ = some [iv p.lo, iv p.hi] from rfl) ?_)))
    have k04 := hk.trans k24
    have ht4 := k24.cl htc (by simp)
    have h7lt := mo.h7.lt
    obtain ⟨r, H5, h5, hin, k5, t5⟩ := cut_ok (kn := kn) (lo := lo) (s := (p.lo, p.hi)) (k04.rd mo.h7 (by simp)) (k04.sl0 mo.hb) mo.hbl mo.h0 mo.hr ht4 hlt (by omega) (by omega) ⟨by simp only; omega, by simp only; omega, by simp only; omega⟩ mo.h2 (by omega)
    refine Exists.intro _ (Exists.intro _ (And.intro (callX_func rfl (by simpa using h5)) ?_))
    have hn45 := k5.1
    have htl := htc.lt
    have c5 := k5.cl c4 (by simp; omega)
    obtain ⟨_, e5, l5, g5⟩ := id c5
    refine Exists.intro _ (Exists.intro _ (Exists.intro _ (And.intro g5 (And.intro (by omega) (And.intro rfl (And.intro rfl (And.intro (by simp) ?_)))))))
    intro H5' hH5'; obtain ⟨k5', n5', c5'⟩ := up_facts c5 hH5'; clear hH5'
    have c5' : Cl H5' H2.next [iv p.full, iv r.1, iv r.2, iv p.spill] := c5'
    have k25 : Keep H2 H5' [bt] := ((k24.mono (by simp)).trans k5).new k5' (fun b hb => .inr (by simp at hb; omega))
    have hc14l := hc14.lt
    have h14' := k25.cl hc14 (by simp; omega)
    have t5' := k5'.cl t5 (by simp; omega)
    refine Exists.intro _ (Exists.intro _ (And.intro h14'.of (And.intro rfl ?_)))
    refine Exists.intro _ (Exists.intro _ (And.intro c5'.of (And.intro (show row 4 _ _ = some [iv p.full, iv r.1, iv r.2, iv p.spill] from rfl) ?_)))
    obtain ⟨H6, hH6⟩ : ∃ H6, H5'.new (.cells [iv p.full, iv r.1, iv r.2, iv p.spill] 71 false) = H6 := ⟨_, rfl⟩
    refine And.intro rfl (Or.inr (And.intro rfl (Exists.intro _ (Exists.intro H6 (Exists.intro _ (And.intro ((heap_build1 (v := .agg #[iv p.full, iv r.1, iv r.2, iv p.spill]) se22 z71 rfl rfl rfl (by decide)).trans (by rw [← hH6]; rfl)) (And.intro (fun b e => by cases e) ?_)))))))
    obtain ⟨k6, n6, c6⟩ := new_facts hH6
    clear hH6
    have hsl : Sl H6 (some ⟨H5'.next, 0, none⟩) 1 1 [iv p.full, iv r.1, iv r.2, iv p.spill] := .inr ⟨H5'.next, rfl, c6.rd, Nat.le_refl _⟩
    have k26 : Keep H2 H6 [bt] := k25.trans (k6.mono (by simp))
    have hn26 := k26.1
    have acc6 := hacc.keepW k26 (fun b hb => by simp at hb; omega)
    obtain ⟨H7, kd, h7', hkd, acc7, kk⟩ := heap_append_one (P := Try.prog) (lo := lo) (k := rs.length) (t1 := 22) se22 u22 hsl rfl (by decide) rfl (by unfold pdc; rw [flat_len (size := 4) (fun _ _ => rfl)]) (by omega) acc6 (by omega) (by omega)
    refine And.intro rfl (Or.inr (And.intro (by cases w <;> kernel_rfl) (Exists.intro _ (Exists.intro H7 (Exists.intro _ (And.intro (h7' _ _ _ _ _ _ _ rfl rfl) (And.intro (reg_ok hkd _) ?_)))))))
    have kH6 : Keep H H6 [bt, b14] := hkH.trans (k26.mono (by simp))
    have kH7 := app_keep kk (by omega) (F := H) (Nat.le_refl _) kH6
    have t7 := app_cl kk (by omega) (by omega) (k6.cl t5' (by simp))
    have c147 := app_cl kk (by omega) (by omega) (k6.cl h14' (by simp))
    obtain ⟨_, e8, l8, g8⟩ := id c147
    refine Exists.intro _ (Exists.intro _ (Exists.intro _ (And.intro g8 (And.intro (by omega) (And.intro rfl (And.intro rfl (And.intro (by simp) ?_)))))))
    intro H8 hH8; obtain ⟨k8, n8, c8⟩ := up_facts c147 hH8; clear hH8
    have c8 : Cl H8 b14 [.slice (some ⟨H6.next, 0, none⟩) (rs.length + 1) (rs.length + 1), gv] := c8
    refine And.intro (show InR ((rs.length : Int) + 1) from ⟨by omega, by omega⟩) ?_
    refine ⟨k - 1, (Value.slice (some ⟨H6.next, 0, none⟩) (rs.length + 1) (rs.length + 1), rs ++ [⟨p.full, r.1, r.2, p.spill⟩]), by omega, ⟨by simp; omega, fun j q e => ?_, kH7.trans (k8.mono (by simp)), ?_, ?_, c8⟩, rfl, rfl, ?_, rfl, rfl, rfl, rfl, rfl, rfl, trivial⟩
    · rw [List.getElem?_append] at e
      split at e
      · exact hrs j q e
      · rename_i hj
        have : j = rs.length := by
          have := get_lt e; simp at this; omega
        subst this
        simp at e; subst e
        exact ⟨p, hp, rfl, rfl, hin⟩
    · have e2 : pdc (rs ++ [⟨p.full, r.1, r.2, p.spill⟩]) = pdc rs ++ [iv p.full, iv r.1, iv r.2, iv p.spill] := by simp [pdc, List.flatMap_append, Pd.v]
      show Acc lo H.next 71 H8 (Value.slice (some ⟨H6.next, 0, none⟩) (rs.length + 1) (rs.length + 1)) (rs ++ [_]).length (pdc (rs ++ [_]))
      rw [e2, List.length_append]
      exact acc7.keepW k8 (fun b hb => by simp at hb; omega)
    · have e3 : t0 + 2 * (rs ++ [(⟨p.full, r.1, r.2, p.spill⟩ : Pd)]).length = t0 + 2 * rs.length + 2 := by simp; omega
      show Cl H8 bt [iv ((t0 + 2 * (rs ++ [(⟨p.full, r.1, r.2, p.spill⟩ : Pd)]).length : Nat) : Int)]
      rw [e3]; exact k8.cl t7 (by simp; omega)
    · show some (iv ((rs.length : Int) + 1)) = some (iv ((rs ++ [(⟨p.full, r.1, r.2, p.spill⟩ : Pd)]).length : Int))
      simp
  · have hi : ¬ rs.length < c.pn := by simpa using hge
    have hl : rs.length = c.pn := by omega
    rw [hl] at hacc htc
    have := hK w rs H2 hl hrs hkH hacc htc hc14
    rw [hl]
    have hd2 : decide ((c.pn : Int) < (c.pn : Int)) = false := by simp
    rw [← hd2] at this
    exact this
end
end Go.Ax
namespace Go.Ax
open Go Go.RowKit Go.Proofs

section
variable {kn : FuncId → Option Bool} {lo : Nat} {H : Hp}
theorem in_loop {S : Rg} {b1 b2 b10 b24 n : Nat} {l1 l2 : List (Int × Int)} {K : Exit → Rg → Hp → Prop} (h1 : Rd H b1 (spc l1)) (h2 : Rd H b2 (spc l2)) (n1 : l1.length = n) (n2 : l2.length = n) (hn : n ≤ 1000)
    (hle : ∀ (i : Nat) x y, l1[i]? = some x → l2[i]? = some y → x.1 ≤ y.1 ∧ y.1 ≤ y.2 ∧ y.2 ≤ x.2)
    (hS : Subs [(9, slv b1 n n), (26, slv b2 n n), (148, iv (n : Int)), (149, iv ((0 : Nat) : Int)), (29, .func (.func 41) #[] #[]), (27, pt b24), (10, pt b10)] S)
    (hK : ∀ H', Keep H H' [] → K (.exit 8) [(150, .bool false), (9, slv b1 n n), (26, slv b2 n n), (148, iv (n : Int)), (149, iv (n : Int)), (29, .func (.func 41) #[] #[]), (27, pt b24), (10, pt b10)] H') :
    Tri Try.prog kn lo 197 false (at_ Try.f10 [1, 1, 1, 1, 1, 1, 1, 1, 1, 1, 1, 1, 1, 1, 1, 1, 0, 1, 0]) S H K := by
  refine loop_low (fn := Try.f10) E10_5 N10 L10x5 (fun i : Nat => [(9, slv b1 n n), (26, slv b2 n n), (148, iv (n : Int)), (149, iv (i : Int)), (29, .func (.func 41) #[] #[]), (27, pt b24), (10, pt b10)])
    (fun k i H2 => i + k = n ∧ Keep H H2 []) n 0 ⟨by omega, Keep.refl _ _⟩ hS ?_
  rintro k i H2 ⟨hik, hk⟩
  refine And.intro (fun hlt' => ?_) (fun hge => ?_)
  · have hi : i < n := by simpa using hlt'
    obtain ⟨x, hx⟩ := get_some (l := l1) (i := i) (by omega)
    obtain ⟨y, hy⟩ := get_some (l := l2) (i := i) (by omega)
    have hxy := hle i x y hx hy
    have r1 := hk.rd h1 (by simp)
    have r2 := hk.rd h2 (by simp)
    refine Exists.intro i (And.intro rfl (And.intro hi ?_))
    refine Exists.intro _ (Exists.intro _ (And.intro r2.of (And.intro (row_flat (f := fun s : Int × Int => [iv s.1, iv s.2]) (fun _ _ => rfl) hy) (And.intro r2.lt ?_))))
    refine Exists.intro i (And.intro rfl (And.intro hi ?_))
    refine Exists.intro _ (Exists.intro _ (And.intro r1.of (And.intro (row_flat (f := fun s : Int × Int => [iv s.1, iv s.2]) (fun _ _ => rfl) hx) (And.intro r1.lt ?_))))
    refine callT (inSp_ok (a1 := y.1) (a2 := y.2) (b1 := x.1) (b2 := x.2)) (by simp [inSpB]; omega) ?_
    intro H3 k3
    refine And.intro rfl (Exists.intro (.bool false) (And.intro rfl ?_))
    refine And.intro (by repeat' first | exact True.intro | exact (fun h => h) | refine And.intro ?_ ?_) ?_
    refine condF ?_
    refine And.intro ⟨by omega, by omega⟩ ?_
    exact ⟨k - 1, i + 1, by omega, ⟨by omega, hk.trans k3⟩, rfl, rfl, rfl, rfl, rfl, rfl, rfl, trivial⟩
  · have hi : ¬ i < n := by simpa using hge
    have hl : i = n := by omega
    subst hl
    have hd2 : decide ((i : Int) < (i : Int)) = false := by simp
    have := hK H2 hk
    rw [← hd2] at this
    exact this
end
end Go.Ax
namespace Go.Ax
open Go Go.RowKit Go.Proofs

/-! Two courses of all the hours side by side. -/
theorem lastB_mem : ∀ (bs : List Bd) (i : Nat) (x : Int), lastB bs i = some x → ∃ b ∈ bs, b.boards = x
  | [], _, _, h => by simp [lastB] at h
  | b :: r, i, x, h => by
    unfold lastB at h
    cases hr : lastB r i with
    | some y =>
      rw [hr] at h
      simp only [Option.some.injEq] at h; subst h
      obtain ⟨c, hc, e⟩ := lastB_mem r i y hr
      exact ⟨c, List.mem_cons_of_mem _ hc, e⟩
    | none =>
      rw [hr] at h
      simp only at h
      split at h
      · exact ⟨b, List.mem_cons_self .., Option.some.inj h⟩
      · cases h
theorem boards_good {h : Hr} {gs : List Gt} {n : Int} {pn gn : Nat} (hg : gs.all (fun g => gateB g n) = true) (hv : hourB h pn gn = true) : (boardsF h gs).all (fun g => gateB g n) = true := by
  simp only [hourB, Bool.and_eq_true] at hv
  have hb := List.all_eq_true.1 hv.1.1.2
  refine List.all_eq_true.2 fun x hx => ?_
  obtain ⟨i, hi, rfl⟩ := List.getElem_of_mem hx
  have e := boards_get h.bs gs i
  have hq : (h.bs.foldl boardS gs)[i]? = some (boardsF h gs)[i] := List.getElem?_eq_getElem hi
  rw [hq] at e
  cases hgi : gs[i]? with
  | none => rw [hgi] at e; cases e
  | some g =>
    rw [hgi] at e
    simp only [Option.map_some, Option.some.injEq] at e
    have g1 := List.all_eq_true.1 hg g (List.mem_of_getElem? hgi)
    rw [e]
    cases hl : lastB h.bs i with
    | none => exact g1
    | some y =>
      obtain ⟨b, hbm, rfl⟩ := lastB_mem _ _ _ hl
      have := hb b hbm
      simp only [Bool.and_eq_true] at this
      simp only [gateB, Bool.and_eq_true] at g1 ⊢
      exact ⟨g1.1, this.2⟩
theorem gate_nn {g : Gt} {n : Int} (h : gateB g n = true) : 0 ≤ g.sill + g.boards * g.step ∧ 0 ≤ g.most := by
  simp only [gateB, Bool.and_eq_true, waterB, boardsB, decide_eq_true_eq] at h
  have hm := Int.mul_nonneg (a := g.boards) (b := g.step) (by omega) (by omega)
  generalize g.boards * g.step = P at *
  omega
theorem run_le {g1 g2 : Bool} {c1 c2 : Ch} {pn gn : Nat} {n : Int} (hp : All2 (PdLe g1 g2) c1.ponds c2.ponds) : ∀ (l m : List Hr), All2 (fun h r => HrLe g1 g2 h r ∧ hourB r pn gn = true) l m → ∀ gs s t, gs.all (fun g => gateB g n) = true → LeS s t → NN t →
    LeS (l.foldl (fun x h => (boardsF h x.1, hourF c1 g1 h x.1 x.2)) (gs, s)).2 (m.foldl (fun x h => (boardsF h x.1, hourF c2 g2 h x.1 x.2)) (gs, t)).2
  | [], [], _, _, _, _, _, h, _ => h
  | [], _ :: _, h, _, _, _, _, _, _ => h.elim
  | _ :: _, [], h, _, _, _, _, _, _ => h.elim
  | h :: l, r :: m, ha, gs, s, t, hg, hs, hn => by
    have hb := boards_good hg ha.1.2
    obtain ⟨q1, q2, q3⟩ := hour_le (gs := gs) hp ha.1.1 (fun g hm => gate_nn (List.all_eq_true.1 hb g hm)) hs hn
    rw [List.foldl_cons, List.foldl_cons]
    simp only [q3]
    exact run_le hp l m ha.2 _ _ _ hb q1 q2
theorem all2_of {α β : Type} {R : α → β → Prop} : ∀ (l : List α) (m : List β), l.length = m.length → (∀ (i : Nat) x y, l[i]? = some x → m[i]? = some y → R x y) → All2 R l m
  | [], [], _, _ => trivial
  | [], _ :: _, h, _ => by simp at h
  | _ :: _, [], h, _ => by simp at h
  | x :: l, y :: m, h, hr => ⟨hr 0 x y rfl rfl, all2_of l m (by simpa using h) fun i a b ha hb => hr (i + 1) a b (by simpa using ha) (by simpa using hb)⟩
end Go.Ax
namespace Go.Ax
open Go Go.RowKit Go.Proofs

/-! ChainNarrow's mathematics. -/
theorem nar_hour {h r : Hr} {pn gn : Nat} (hv : hourB h pn gn = true) (w : Nar h r) : hourB r pn gn = true := by
  have hf := hour_facts hv
  simp only [hourB, Bool.and_eq_true] at hv ⊢
  obtain ⟨⟨⟨⟨⟨v1, v2⟩, v3⟩, v4⟩, v5⟩, v6⟩ := hv
  refine ⟨⟨⟨⟨⟨by rw [w.bn]; exact v1, by rw [w.cn]; exact v2⟩, by rw [w.tn]; exact v3⟩, by rw [w.bs]; exact v4⟩, ?_⟩, by rw [w.ts]; exact v6⟩
  refine List.all_eq_true.2 fun x hx => ?_
  obtain ⟨i, hi, rfl⟩ := List.getElem_of_mem hx
  obtain ⟨s, hs, e1, e2, e3⟩ := w.c i _ (List.getElem?_eq_getElem hi)
  have := hf s (List.mem_of_getElem? hs)
  simp [withinB]; omega
theorem hour_take {h : Hr} {pn gn : Nat} (hv : hourB h pn gn = true) : ∀ t ∈ h.ts, 0 ≤ t.amount := by
  simp only [hourB, Bool.and_eq_true] at hv
  intro t ht
  have := List.all_eq_true.1 hv.2 t ht
  simp [waterB] at this; omega
theorem end_le {g1 g2 : Bool} {l m : List (Int × Int)} (hl : l.length = m.length) (h : ∀ (i : Nat) x y, l[i]? = some x → m[i]? = some y → endV g1 x.1 x.2 ≤ endV g2 y.1 y.2 ∧ 0 ≤ endV g2 y.1 y.2) : All2 (fun x y => x ≤ y ∧ 0 ≤ y) (endS g1 l) (endS g2 m) := by
  refine all2_of _ _ (by simp [endS, hl]) fun i x y hx hy => ?_
  simp only [endS, List.getElem?_map, Option.map_eq_some_iff] at hx hy
  obtain ⟨a, ha, rfl⟩ := hx
  obtain ⟨b, hb, rfl⟩ := hy
  exact h i a b ha hb
theorem fo_le {g1 g2 : Bool} {c1 c2 : Ch} {l m : List Hr} {ln pn gn : Nat} {n : Int} (hp : All2 (PdLe g1 g2) c1.ponds c2.ponds) (hl : l.length = ln) (hm : m.length = ln) (hh : All2 (fun h r => HrLe g1 g2 h r ∧ hourB r pn gn = true) l m)
    (hgs : c1.gs = c2.gs) (hg : c2.gs.all (fun g => gateB g n) = true) (hs : All2 (fun x y => x ≤ y ∧ 0 ≤ y) (endS g1 c1.ss) (endS g2 c2.ss)) (hsl : c1.ss.length = c2.ss.length) : LeS (foG g1 c1 l ln).2 (foG g2 c2 m ln).2 := by
  have key : ∀ (a b : List Int), All2 (fun x y => x ≤ y ∧ 0 ≤ y) a b → (∀ i, a.getD i 0 ≤ b.getD i 0 ∧ 0 ≤ b.getD i 0) := by
    intro a
    induction a with
    | nil => intro b h i; cases b with
      | nil => simp
      | cons _ _ => exact h.elim
    | cons x a ih => intro b h i; cases b with
      | nil => exact h.elim
      | cons y b => cases i with
        | zero => exact h.1
        | succ i => exact ih b h.2 i
  unfold foG
  rw [List.take_of_length_le (by omega), List.take_of_length_le (by omega), hgs]
  refine run_le (pn := pn) (gn := gn) hp l m hh _ _ _ hg ⟨⟨by simp [s0, endS, hsl], fun i => (key _ _ hs i).1⟩, Int.le_refl _, Int.le_refl _, Int.le_refl _, Int.le_refl _⟩ (fun i => (key _ _ hs i).2)
theorem narrow_all {c c' : Ch} {hs hs' : List Hr} {ln : Nat} (he : checkE c hs ln = 0) (lp : c.ponds.length = c.pn) (lg : c.gs.length = c.gn) (lw : c.ss.length = c.wn) (hln : hs.length = ln)
    (h1 : c'.pn = c.pn) (h2 : c'.gn = c.gn) (h3 : c'.wn = c.wn) (h4 : c'.gs = c.gs) (lp' : c'.ponds.length = c.pn) (lw' : c'.ss.length = c.wn) (hln' : hs'.length = ln)
    (hp : ∀ (j : Nat) r, c'.ponds[j]? = some r → ∃ p, c.ponds[j]? = some p ∧ NarP p r) (hw : ∀ (j : Nat) r, c'.ss[j]? = some r → ∃ s, c.ss[j]? = some s ∧ InS s r) (hh : ∀ (j : Nat) r, hs'[j]? = some r → ∃ h, hs[j]? = some h ∧ Nar h r) :
    checkE c' hs' ln = 0 ∧ LeS (foG false c hs ln).2 (foG false c' hs' ln).2 ∧ LeS (foG false c' hs' ln).2 (foG true c' hs' ln).2 ∧ LeS (foG true c' hs' ln).2 (foG true c hs ln).2 := by
  obtain ⟨v, hln2, hv⟩ := check_vd he lp lg lw
  have hvw := List.all_eq_true.1 v.w
  have hvp := List.all_eq_true.1 v.p
  have hpf := pond_facts v
  have hwp := v.wp
  have hin : ∀ (j : Nat) s, c.ss[j]? = some s → ∃ p, c.ponds[j]? = some p ∧ 0 ≤ s.1 ∧ s.1 ≤ s.2 ∧ s.2 ≤ p.full := fun j s hs => by
    have hj := get_lt hs
    obtain ⟨p, hp⟩ := get_some (l := c.ponds) (i := j) (by omega)
    have := hvw (p, s) (List.mem_of_getElem? (zip2_get hp hs))
    simp [withinB] at this
    exact ⟨p, hp, by omega⟩
  have hnf : ∀ (j : Nat) r, c'.ponds[j]? = some r → ∃ p, c.ponds[j]? = some p ∧ NarP p r ∧ (0 ≤ r.lo ∧ r.lo ≤ r.hi ∧ r.hi ≤ 1000000) ∧ p.lo ≤ r.lo ∧ r.hi ≤ p.hi := fun j r e => by
    obtain ⟨p, a, b⟩ := hp j r e
    have := hpf p (List.mem_of_getElem? a)
    obtain ⟨i1, i2, i3⟩ := b.s
    simp only at i1 i2 i3
    exact ⟨p, a, b, by omega, i1, i3⟩
  have hhv : ∀ r ∈ hs', hourB r c.pn c.gn = true := fun r hr => by
    obtain ⟨j, hj, rfl⟩ := List.getElem_of_mem hr
    obtain ⟨h, a, b⟩ := hh j _ (List.getElem?_eq_getElem hj)
    exact nar_hour (hv h (List.mem_of_getElem? a)) b
  refine ⟨?_, ?_, ?_, ?_⟩
  · have hok : c.ok = true := by
      unfold checkE at he
      rw [if_neg (by omega)] at he
      split at he
      · rename_i w; simp only [Bool.and_eq_true] at w; exact w.1
      · omega
    unfold checkE
    rw [if_neg (by omega), if_pos]
    rw [Bool.and_eq_true, h1, h2]
    refine ⟨?_, List.all_eq_true.2 hhv⟩
    simp only [Ch.ok, Bool.and_eq_true, waterOkB, chainB] at hok ⊢
    rw [h1, h2, h3, h4]
    refine ⟨⟨⟨hok.1.1.1, List.all_eq_true.2 fun x hx => ?_⟩, hok.1.2⟩, hok.2.1, List.all_eq_true.2 fun x hx => ?_⟩
    · obtain ⟨i, hi, rfl⟩ := List.getElem_of_mem hx
      have hi' : i < c'.ponds.length := by simpa using hi
      obtain ⟨p, a, b, f, _, _⟩ := hnf i _ (List.getElem?_eq_getElem hi')
      have q := hvp (p, i) (List.mem_of_getElem? (zip_getP a))
      have e1 := b.full
      have e2 := b.spill
      simp only [List.getElem_zipIdx, Nat.zero_add, pondB, Bool.and_eq_true, withinB, decide_eq_true_eq] at q ⊢
      rw [e1, e2]
      exact ⟨⟨⟨q.1.1.1, q.1.1.2⟩, by omega⟩, q.2⟩
    · obtain ⟨i, hi, rfl⟩ := List.getElem_of_mem hx
      have hi' : i < c'.ponds.length ∧ i < c'.ss.length := by
        have : i < min c'.ponds.length c'.ss.length := by simpa [List.length_zip] using hi
        omega
      obtain ⟨p, a, b, f, _, _⟩ := hnf i _ (List.getElem?_eq_getElem hi'.1)
      obtain ⟨s, a2, i1, i2, i3⟩ := hw i _ (List.getElem?_eq_getElem hi'.2)
      obtain ⟨p', a3, f2⟩ := hin i s a2
      have : p' = p := Option.some.inj (a3.symm.trans a)
      subst this
      have e1 := b.full
      simp only [List.getElem_zip, withinB, Bool.and_eq_true, decide_eq_true_eq]
      omega
  · refine fo_le (pn := c.pn) (gn := c.gn) (n := c.pn) (all2_of _ _ (by omega) fun i x y hx hy => ?_) hln hln' (all2_of _ _ (by omega) fun i x y hx hy => ?_) h4.symm (by rw [h4]; exact v.g) (end_le (by omega) fun i x y hx hy => ?_) (by omega)
    · obtain ⟨p, a, b, f, g1, g2⟩ := hnf i y hy
      obtain rfl : p = x := Option.some.inj (a.symm.trans hx)
      have := hpf p (List.mem_of_getElem? a)
      exact ⟨b.full.symm, b.spill.symm, by simpa using g2, by simpa using g1, id, this.1, by omega, by have := b.full; omega⟩
    · obtain ⟨h, a, b⟩ := hh i y hy
      obtain rfl : h = x := Option.some.inj (a.symm.trans hx)
      have hy' := hhv y (List.mem_of_getElem? hy)
      have hf := hour_facts hy'
      refine ⟨⟨b.bs.symm, b.ts.symm, end_le b.l.symm fun j s q hs hq => ?_, hour_take hy'⟩, hy'⟩
      obtain ⟨s', a', i1, i2, i3⟩ := b.c j q hq
      obtain rfl : s' = s := Option.some.inj (a'.symm.trans hs)
      have := hf q (List.mem_of_getElem? hq)
      simp only [endV, Bool.false_eq_true, if_false]; omega
    · obtain ⟨s', a', i1, i2, i3⟩ := hw i y hy
      obtain rfl : s' = x := Option.some.inj (a'.symm.trans hx)
      obtain ⟨p, _, f⟩ := hin i s' a'
      simp only [endV, Bool.false_eq_true, if_false]; omega
  · refine fo_le (pn := c.pn) (gn := c.gn) (n := c.pn) (all2_of _ _ (by omega) fun i x y hx hy => ?_) hln' hln' (all2_of _ _ (by omega) fun i x y hx hy => ?_) rfl (by rw [h4]; exact v.g) (end_le (by omega) fun i x y hx hy => ?_) rfl
    · obtain rfl : x = y := Option.some.inj (hx.symm.trans hy)
      obtain ⟨p, a, b, f, g1, g2⟩ := hnf i x hx
      have := hpf p (List.mem_of_getElem? a)
      exact ⟨rfl, rfl, by simpa using f.2.1, by simpa using f.2.1, fun _ => rfl, by omega, by omega, by have := b.full; omega⟩
    · obtain rfl : x = y := Option.some.inj (hx.symm.trans hy)
      have hy' := hhv x (List.mem_of_getElem? hy)
      have hf := hour_facts hy'
      refine ⟨⟨rfl, rfl, end_le rfl fun j s q hs hq => ?_, hour_take hy'⟩, hy'⟩
      obtain rfl : s = q := Option.some.inj (hs.symm.trans hq)
      have := hf s (List.mem_of_getElem? hq)
      simp only [endV, Bool.false_eq_true, if_false, if_true]; omega
    · obtain rfl : x = y := Option.some.inj (hx.symm.trans hy)
      obtain ⟨s', a', i1, i2, i3⟩ := hw i x hy
      obtain ⟨p, _, f⟩ := hin i s' a'
      simp only [endV, Bool.false_eq_true, if_false, if_true]; omega
  · refine fo_le (pn := c.pn) (gn := c.gn) (n := c.pn) (all2_of _ _ (by omega) fun i x y hx hy => ?_) hln' hln (all2_of _ _ (by omega) fun i x y hx hy => ?_) h4 v.g (end_le (by omega) fun i x y hx hy => ?_) (by omega)
    · obtain ⟨p, a, b, f, g1, g2⟩ := hnf i x hx
      obtain rfl : p = y := Option.some.inj (a.symm.trans hy)
      have := hpf p (List.mem_of_getElem? a)
      exact ⟨b.full, b.spill, by simpa using g1, by simpa using g2, id, by omega, this.1, by omega⟩
    · obtain ⟨h, a, b⟩ := hh i x hx
      obtain rfl : h = y := Option.some.inj (a.symm.trans hy)
      have hy' := hv h (List.mem_of_getElem? hy)
      have hf := hour_facts hy'
      refine ⟨⟨b.bs, b.ts, end_le b.l fun j s q hs hq => ?_, hour_take hy'⟩, hy'⟩
      obtain ⟨s', a', i1, i2, i3⟩ := b.c j s hs
      obtain rfl : s' = q := Option.some.inj (a'.symm.trans hq)
      have := hf s' (List.mem_of_getElem? hq)
      simp only [endV, if_true]; omega
    · obtain ⟨s', a', i1, i2, i3⟩ := hw i x hx
      obtain rfl : s' = y := Option.some.inj (a'.symm.trans hy)
      obtain ⟨p, _, f⟩ := hin i s' a'
      simp only [endV, if_true]; omega
end Go.Ax
namespace Go.Ax
open Go Go.RowKit Go.Proofs

section
variable {kn : FuncId → Option Bool} {lo : Nat} {H : Hp}
theorem pure_chain {n : Nat} {S : Rg} {d : Option Tmp} {x : Operand} {p : String} {a : Option Addr} {m c : Nat} (hx : evS S x = some (.slice a m c)) :
    pureOp Try.prog (frS n S) ⟨d, .build 25 #[(1, x)], 25, p, #[], none⟩ = some (.agg #[.slice none 0 0, .slice a m c]) := by
  have hu : ∃ fs, Try.prog.underlying 25 = some (.struct fs) ∧ placesOf Try.prog fs.toList = some [(0, 1), (1, 1)] := by
    have h : (match Try.prog.underlying 25 with | some (.struct fs) => placesOf Try.prog fs.toList | _ => none) = some [(0, 1), (1, 1)] := by kernel_rfl
    split at h
    · rename_i fs e; exact ⟨fs, e, h⟩
    · cases h
  have z25 : zeroOf Try.prog 25 = some (.agg #[.slice none 0 0, .slice none 0 0]) := by kernel_rfl
  obtain ⟨fs, h1, h2⟩ := hu
  unfold pureOp
  simp only [partsOf, ev_frS, hx, z25, h1, h2]
  rfl
theorem law_narrow {q : BQ} {ba : Option Addr} {bl bcap : Nat} {bs : List Nat} (hkn : kn 15 = some true) (hc : q.c.At H) (hl : Sl H q.la q.ln q.lcap (hrc q.hs)) (hln : q.hs.length = q.ln) (hh : ∀ h ∈ q.hs, h.At H)
    (hb : Sl H ba bl bcap (u32s bs)) (hbl : bs.length = bl) (hr : ∀ n ∈ bs, n ≤ 4294967295) (hb2 : bl ≤ 9223372036854775807) (hlo : lo ≤ H.next) :
    ∃ H', FnX Try.prog kn lo 10 [q.c.cv, q.c.wv, .slice q.la q.ln q.lcap, .slice ba bl bcap] H (.bool true) H' := by
  have key := fnX_low (kn := kn) (lo := lo) (H := H) (args := [q.c.cv, q.c.wv, .slice q.la q.ln q.lcap, .slice ba bl bcap]) (Q := fun v H' => v = .bool true) Try.func10 B10 N10 Z10 L10 (by simp) ?_
  · obtain ⟨v, H', h, rfl⟩ := key; exact ⟨H', h⟩
  intro H1 hH1; obtain ⟨k1, n1, c1⟩ := new_facts hH1; clear hH1
  intro H2 hH2; obtain ⟨k2, n2, c2⟩ := new_facts hH2; clear hH2
  have c1 : Cl H2 H.next [.slice q.c.pa q.c.pn q.c.pcap, .slice q.c.ga q.c.gn q.c.gcap] := k2.cl c1 (by simp)
  have c2 : Cl H2 H1.next [.slice ba bl bcap] := c2
  have k02 := k1.trans k2
  have hn1 := k1.1; have hn2 := k2.1
  have al : ∀ (H9 : Hp) (K : Value → Hp → Prop), K (.bool true) H9 → ∃ v H', CallsX Try.prog kn lo (.fn (.func 15) #[]) [] H9 v H' ∧ K v H' := fun H9 K h => ⟨_, _, callX_known hkn, h⟩
  refine callB many_ok ?_
  intro t H3 ht k3
  have k03 := k02.trans k3
  cases t
  rotate_left
  · refine And.intro rfl (Exists.intro (.bool true) (And.intro rfl ?_))
    refine And.intro rfl (Exists.intro (.bool true) (And.intro rfl ?_))
    refine condT ?_
    refine al _ _ ?_
    exact And.intro trivial (Exists.intro _ (And.intro rfl rfl))
  have hmany : q.ln ≤ 24 ∨ (200 < q.ln ∧ q.ln ≤ 205) := by
    simp [manyB] at ht; omega
  have c1 := k3.cl c1 (by simp)
  have c2 := k3.cl c2 (by simp)
  have hn3 := k3.1
  refine Exists.intro _ (Exists.intro _ (And.intro c1.of (And.intro (show row 2 [_, _] _ = some [.slice q.c.pa q.c.pn q.c.pcap, .slice q.c.ga q.c.gn q.c.gcap] from rfl) ?_)))
  obtain ⟨H4, h4, k4⟩ := great_ok (kn := kn) (lo := lo) (H := H3) (c := q.c) (k03.sl0 hl) hln (by omega) (by omega)
  refine Exists.intro _ (Exists.intro _ (And.intro (callX_args h4) ?_))
  have k04 := k03.trans k4
  have c1 := k4.cl c1 (by simp)
  have c2 := k4.cl c2 (by simp)
  have hn4 := k4.1
  cases hg : greatB q.c q.hs
  rotate_left
  · refine And.intro rfl (Exists.intro (.bool true) (And.intro rfl ?_))
    refine And.intro rfl (Exists.intro (.bool true) (And.intro rfl ?_))
    refine condT ?_
    refine al _ _ ?_
    exact And.intro trivial (Exists.intro _ (And.intro rfl rfl))
  refine And.intro rfl (Exists.intro (.bool false) (And.intro rfl ?_))
  refine Exists.intro _ (Exists.intro _ (And.intro c2.of (And.intro rfl ?_)))
  intro t ht0
  cases t
  rotate_left
  · refine And.intro rfl (Exists.intro (.bool true) (And.intro rfl ?_))
    refine condT ?_
    refine al _ _ ?_
    exact And.intro trivial (Exists.intro _ (And.intro rfl rfl))
  have hbl0 : 0 < bl := by
    have : (bl : Int) ≠ 0 := by simpa using ht0
    omega
  refine And.intro rfl (Exists.intro (.bool false) (And.intro rfl ?_))
  refine condF ?_
  -- the first run
  refine Exists.intro _ (Exists.intro _ (And.intro c1.of (And.intro (show row 2 [_, _] _ = some [.slice q.c.pa q.c.pn q.c.pcap, .slice q.c.ga q.c.gn q.c.gcap] from rfl) ?_)))
  obtain ⟨v5, H5, h5, k5, ra⟩ := run_ok (kn := kn) (lo := lo) (H := H4) (q := q) (hc.keep k04) (k04.sl0 hl) hln (fun x hx => (hh x hx).keep k04) (by omega)
  refine Exists.intro _ (Exists.intro _ (And.intro (callX_args h5) ?_))
  have k05 := k04.trans k5
  have c1 := k5.cl c1 (by simp)
  have c2 := k5.cl c2 (by simp)
  have hn5 := k5.1
  by_cases he : checkE q.c q.hs q.ln = 0
  rotate_left
  · obtain rfl := ra.bad he
    refine And.intro rfl (Exists.intro _ (And.intro rfl ?_))
    refine And.intro rfl (Exists.intro _ (And.intro rfl ?_))
    refine And.intro rfl (Exists.intro _ (And.intro rfl ?_))
    intro H6 hH6; obtain ⟨k6, n6, c6⟩ := new_facts hH6; clear hH6
    obtain ⟨_, e6, l6, g6⟩ := id c6
    refine Exists.intro _ (Exists.intro _ (Exists.intro _ (And.intro g6 (And.intro (by omega) (And.intro rfl (And.intro rfl (And.intro (by simp) ?_)))))))
    intro H7 hH7
    refine And.intro (fun _ => ?_) (fun w => absurd (show checkE q.c q.hs q.ln = 0 by simpa using w) he)
    refine al _ _ ?_
    exact And.intro trivial (Exists.intro _ (And.intro rfl rfl))
  obtain ⟨b1, rfl, hb1, cb1, a1, a2⟩ := ra.ok he
  obtain ⟨v, ok2, ok3⟩ := check_vd he hc.lp hc.lg hc.lw
  have h16 := v.h16; have h1p := v.h1; have hwp := v.wp; have hlw := hc.lw; have hlp := hc.lp
  refine And.intro rfl (Exists.intro _ (And.intro rfl ?_))
  refine And.intro rfl (Exists.intro _ (And.intro rfl ?_))
  refine And.intro rfl (Exists.intro _ (And.intro rfl ?_))
  intro H6 hH6; obtain ⟨k6, n6, c6⟩ := new_facts hH6; clear hH6
  obtain ⟨_, e6, l6, g6⟩ := id c6
  refine Exists.intro _ (Exists.intro _ (Exists.intro _ (And.intro g6 (And.intro (by omega) (And.intro rfl (And.intro rfl (And.intro (by simp) ?_)))))))
  intro H7 hH7; obtain ⟨k7, n7, c7⟩ := up_facts c6 hH7; clear hH7
  have c7 : Cl H7 H5.next (flowsV q.s q.t) := c7
  refine condF ?_
  have k57 : Keep H5 H7 [] := k6.new k7 (by simp)
  have k07 := k05.trans k57
  have c1 := k57.cl c1 (by simp)
  have c2 := k57.cl c2 (by simp)
  have cb1 := k57.cl cb1 (by simp)
  have hn57 := k57.1
  refine Exists.intro _ (Exists.intro _ (And.intro c1.of (And.intro (show row 2 [_, _] _ = some [.slice q.c.pa q.c.pn q.c.pcap, .slice q.c.ga q.c.gn q.c.gcap] from rfl) ?_)))
  refine callT (refchain_ok (lo := lo) (hc.keep k07) v (by omega)) rfl ?_
  intro H8 k8
  have k08 := k07.trans k8
  have c1 := k8.cl c1 (by simp)
  have hn8 := k8.1
  refine And.intro rfl (Exists.intro (.bool false) (And.intro rfl ?_))
  refine Exists.intro _ (Exists.intro _ (And.intro c1.of (And.intro (show row 2 [_, _] _ = some [.slice q.c.pa q.c.pn q.c.pcap, .slice q.c.ga q.c.gn q.c.gcap] from rfl) ?_)))
  have hc8 := hc.keep k08
  refine callT (refwat_ok (lo := lo) (ga := q.c.ga) (gn := q.c.gn) (gcap := q.c.gcap) hc8.p hc8.lp hc8.w hc8.lw (by omega) (by omega)) ?_ ?_
  · have hvw := List.all_eq_true.1 v.w
    unfold refWaterB
    rw [Bool.and_eq_true]
    refine ⟨by simp; omega, List.all_eq_true.2 fun p hp => ?_⟩
    have := hvw p hp
    simp [withinB] at this
    simp [refWithinB]; omega
  intro H9 k9
  have k09 := k08.trans k9
  have k79 := k8.trans k9
  have c1 := k9.cl c1 (by simp)
  have c2 := k79.cl c2 (by simp)
  have c7 := k79.cl c7 (by simp)
  have cb1 := k79.cl cb1 (by simp)
  have hn9 := k9.1
  refine And.intro rfl (Exists.intro (.bool false) (And.intro rfl ?_))
  refine And.intro rfl (Exists.intro (.bool false) (And.intro rfl ?_))
  refine condF ?_
  -- the turn's cell
  intro H10 hH10; obtain ⟨k10, n10, c10⟩ := new_facts hH10; clear hH10
  obtain ⟨_, e10, l10, g10⟩ := id c10
  refine Exists.intro _ (Exists.intro _ (Exists.intro _ (And.intro g10 (And.intro (by omega) (And.intro rfl (And.intro rfl (And.intro (by simp) ?_)))))))
  intro H11 hH11; obtain ⟨k11, n11, c11⟩ := up_facts c10 hH11; clear hH11
  have c11 : Cl H11 H9.next [iv ((0 : Nat) : Int)] := c11
  have k911 : Keep H9 H11 [] := k10.new k11 (by simp)
  refine And.intro rfl (Exists.intro (clo2 H1.next H9.next) (And.intro rfl ?_))
  have mo9 : Mo2 H9 H1.next ba bl bcap bs := ⟨c2.rd, k09.sl0 hb, hbl, hbl0, hr, hb2⟩
  have hn911 := k911.1
  have b1lt := cb1.lt
  -- the chain that is narrower
  have c1 := k911.cl c1 (by simp)
  refine Exists.intro _ (Exists.intro _ (And.intro c1.of (And.intro (show [_, _][1]? = some (.slice q.c.ga q.c.gn q.c.gcap) from rfl) ?_)))
  refine And.intro rfl (Exists.intro (.agg #[.slice none 0 0, .slice q.c.ga q.c.gn q.c.gcap]) (And.intro (pure_chain rfl) ?_))
  intro Ha hHa; obtain ⟨ka, na, ca⟩ := new_facts hHa; clear hHa
  obtain ⟨_, ea, la, ga⟩ := id ca
  refine Exists.intro _ (Exists.intro _ (Exists.intro _ (And.intro ga (And.intro (by omega) (And.intro rfl (And.intro rfl (And.intro (by simp) ?_)))))))
  intro Hb hHb; obtain ⟨kb, nb, cb⟩ := up_facts ca hHb; clear hHb
  have cb : Cl Hb H11.next [.slice none 0 0, .slice q.c.ga q.c.gn q.c.gcap] := cb
  have k11b : Keep H11 Hb [] := ka.new kb (by simp)
  have hn11b := k11b.1
  have c1 := k11b.cl c1 (by simp)
  have c11 := k11b.cl c11 (by simp)
  have c11lt := c11.lt
  have hnb : Hb.next = H11.next + 1 := by omega
  refine Exists.intro _ (Exists.intro _ (And.intro c1.of (And.intro (show [_, _][0]? = some (.slice q.c.pa q.c.pn q.c.pcap) from rfl) ?_)))
  have k9b : Keep H9 Hb [] := k911.trans k11b
  refine less_loop (F := H9) (H := Hb) (b14 := H11.next) (b10 := H5.next) (t0 := 0) (gv := .slice q.c.ga q.c.gn q.c.gcap) (wv := q.c.wv) (lv := .slice q.la q.ln q.lcap) (ev := slv b1 q.c.wn q.c.wn) mo9 (Nat.le_refl _) (by omega) (by omega) (hc.keep k09) v k9b (by omega) c11 (by omega) (by omega) cb (by omega) ⟨rfl, rfl, rfl, rfl, rfl, rfl, rfl, rfl, rfl, trivial⟩ ?_
  intro pw ps Hc hpl hps kbc accP tc c14
  have hnbc := kbc.1
  have k9c : Keep H9 Hc [] := k9b.new kbc (fun b hb => .inr (by simp at hb; omega))
  obtain ⟨pad, pcap, rfl, slP, offP⟩ := accP.sl
  have tclt := tc.lt
  refine sure_loop (F := H9) (H := Hc) (b14 := H11.next) (b10 := H5.next) (lv := .slice q.la q.ln q.lcap) (ev := slv b1 q.c.wn q.c.wn) mo9 (Nat.le_refl _) tclt (by omega) (hc.keep k09) v k9c (by omega) tc (by omega) ⟨rfl, rfl, rfl, rfl, rfl, rfl, rfl, rfl, rfl, trivial⟩ ?_
  intro rw rs H12 hrl hrs kc12 accR t12
  have hn12 := kc12.1
  have k912 : Keep H9 H12 [] := k9c.new kc12 (fun b hb => .inr (by simp at hb; omega))
  obtain ⟨rad, rcap, rfl, slR, offR⟩ := accR.sl
  have c14 := kc12.cl c14 (by simp; omega)
  have slP : Sl H12 pad q.c.pn pcap (pdc ps) := kc12.sl slP (fun b e => by have := offP b e; simp; omega)
  -- the hours
  have old : ∀ {cs : List Value} {a : Option Addr} {n cap : Nat}, Sl H a n cap cs → ∀ b, a = some ⟨b, 0, none⟩ → b ≠ H9.next := fun h b e => by
    have := h.lt b e
    have := k09.1
    omega
  have k012 := k09.trans k912
  have t12lt := t12.lt
  refine known_loop (F := H12) (q := q) (b4 := H11.next) (b10 := H5.next) (T := 0 + 2 * q.c.pn + 2 * q.c.wn) (ev := slv b1 q.c.wn q.c.wn) (rv := .slice rad q.c.wn rcap) (mo9.keep (k912.mono (by simp)) (by omega) (old hb)) (by omega) (old hb) (k012.sl0 hl) hln (fun h hm => (hh h hm).keep k012) (old hl) (fun h hm => ⟨old (hh h hm).b, old (hh h hm).c, old (hh h hm).t⟩)
    ok3 h16 (by omega) (by omega) (by omega) t12lt (by omega) rfl t12 ⟨rfl, rfl, rfl, rfl, rfl, rfl, rfl, rfl, rfl, trivial⟩ ?_
  intro ww hs' H13 hwl hws k13 accW hat
  obtain ⟨wad, wcap, rfl, slW, offW⟩ := accW.sl
  have k913 : Keep H9 H13 [] := k912.new k13 (fun b hb => .inr (by simp at hb; omega))
  have k013 := k09.trans k913
  have hn13 := k913.1
  have c14 := k13.cl c14 (by simp; omega)
  have c7 := k913.cl c7 (by simp)
  have cb1 := k913.cl cb1 (by simp)
  have slR13 : Sl H13 rad q.c.wn rcap (spc rs) := k13.sl slR (fun b e => by have := offR b e; simp; omega)
  have slP13 : Sl H13 pad q.c.pn pcap (pdc ps) := k13.sl slP (fun b e => by have := offP b e; simp; omega)
  have hc13 := hc.keep k013
  have hc' : ({ q.c with pa := pad, pcap := pcap, ponds := ps, wa := rad, wcap := rcap, ss := rs } : Ch).At H13 := ⟨slP13, hc13.g, slR13, hpl, hc.lg, hrl⟩
  obtain ⟨he', L1, L3, L2⟩ := narrow_all (c' := { q.c with pa := pad, pcap := pcap, ponds := ps, wa := rad, wcap := rcap, ss := rs }) he hc.lp hc.lg hc.lw hln rfl rfl rfl rfl hpl hrl hwl hps hrs hws
  refine Exists.intro _ (Exists.intro _ (And.intro c14.of (And.intro (show row 2 [_, _] _ = some [.slice pad q.c.pn pcap, .slice q.c.ga q.c.gn q.c.gcap] from rfl) ?_)))
  obtain ⟨v14, H14, h14, k14, ra'⟩ := run_ok (kn := kn) (lo := lo) (H := H13) (q := ⟨{ q.c with pa := pad, pcap := pcap, ponds := ps, wa := rad, wcap := rcap, ss := rs }, wad, q.ln, wcap, hs'⟩) hc' slW hwl hat (by omega)
  refine Exists.intro _ (Exists.intro _ (And.intro (callX_args h14) ?_))
  obtain ⟨b2, rfl, hb2', cb2, _, _⟩ := ra'.ok he'
  have c7 := k14.cl c7 (by simp)
  have cb1 := k14.cl cb1 (by simp)
  have hn14 := k14.1
  refine And.intro rfl (Exists.intro _ (And.intro rfl ?_))
  refine And.intro rfl (Exists.intro _ (And.intro rfl ?_))
  refine And.intro rfl (Exists.intro _ (And.intro rfl ?_))
  intro H15 hH15; obtain ⟨k15, n15, c15⟩ := new_facts hH15; clear hH15
  obtain ⟨_, e15, l15, g15⟩ := id c15
  refine Exists.intro _ (Exists.intro _ (Exists.intro _ (And.intro g15 (And.intro (by omega) (And.intro rfl (And.intro rfl (And.intro (by simp) ?_)))))))
  intro H16 hH16; obtain ⟨k16, n16, c16⟩ := up_facts c15 hH16; clear hH16
  have c16 : Cl H16 H14.next (flowsV (BQ.s ⟨{ q.c with pa := pad, pcap := pcap, ponds := ps, wa := rad, wcap := rcap, ss := rs }, wad, q.ln, wcap, hs'⟩) (BQ.t ⟨{ q.c with pa := pad, pcap := pcap, ponds := ps, wa := rad, wcap := rcap, ss := rs }, wad, q.ln, wcap, hs'⟩)) := c16
  have k1416 : Keep H14 H16 [] := k15.new k16 (by simp)
  have c7 := k1416.cl c7 (by simp)
  have cb1 := k1416.cl cb1 (by simp)
  have cb2 := k1416.cl cb2 (by simp)
  intro t ht1
  obtain rfl : t = false := by rw [← ht1]; simp
  intro t ht2
  obtain rfl : t = false := by rw [← ht2]; simp
  refine And.intro rfl (Exists.intro (.bool false) (And.intro rfl ?_))
  refine condF ?_
  have w1 := fo_len (c := q.c) (g := false) (hs := q.hs) q.ln
  have w2 := fo_len (c := q.c) (g := true) (hs := q.hs) q.ln
  have w3 := L1.w.1
  have w4 := L2.w.1
  have w5 := L3.w.1
  refine in_loop (b1 := b1) (b2 := b2) (b10 := H5.next) (b24 := H14.next) (n := q.c.wn) cb1.rd cb2.rd ?_ ?_ (by omega) ?_ ⟨rfl, rfl, rfl, rfl, rfl, rfl, rfl, trivial⟩ ?_
  · show (List.zip (foG false q.c q.hs q.ln).2.ws (foG true q.c q.hs q.ln).2.ws).length = _
    rw [List.length_zip]; omega
  · show (List.zip (foG false { q.c with pa := pad, pcap := pcap, ponds := ps, wa := rad, wcap := rcap, ss := rs } hs' q.ln).2.ws (foG true { q.c with pa := pad, pcap := pcap, ponds := ps, wa := rad, wcap := rcap, ss := rs } hs' q.ln).2.ws).length = _
    rw [List.length_zip]; omega
  · intro i x y hx hy
    have hx : (List.zip (foG false q.c q.hs q.ln).2.ws (foG true q.c q.hs q.ln).2.ws)[i]? = some x := hx
    have hy : (List.zip (foG false { q.c with pa := pad, pcap := pcap, ponds := ps, wa := rad, wcap := rcap, ss := rs } hs' q.ln).2.ws (foG true { q.c with pa := pad, pcap := pcap, ponds := ps, wa := rad, wcap := rcap, ss := rs } hs' q.ln).2.ws)[i]? = some y := hy
    rw [List.getElem?_zip_eq_some] at hx hy
    have e1 := L1.w.2 i
    have e2 := L2.w.2 i
    have e3 := L3.w.2 i
    rw [List.getD_eq_getElem?_getD, List.getD_eq_getElem?_getD, hx.1, hy.1] at e1
    rw [List.getD_eq_getElem?_getD, List.getD_eq_getElem?_getD, hx.2, hy.2] at e2
    rw [List.getD_eq_getElem?_getD, List.getD_eq_getElem?_getD, hy.1, hy.2] at e3
    exact ⟨e1, e3, e2⟩
  intro H17 k17
  have c7 := k17.cl c7 (by simp)
  have c16 := k17.cl c16 (by simp)
  refine Exists.intro _ (Exists.intro _ (And.intro c16.of (And.intro (show row 2 _ _ = some [iv _, iv _] from rfl) ?_)))
  refine Exists.intro _ (Exists.intro _ (And.intro c7.of (And.intro (show row 2 _ _ = some [iv _, iv _] from rfl) ?_)))
  refine callT (inSp_ok (lo := lo)) (by simp only [inSpB, Bool.and_eq_true, decide_eq_true_eq]; exact ⟨⟨L1.cm, L3.cm⟩, L2.cm⟩) ?_
  intro H18 k18
  have c7 := k18.cl c7 (by simp)
  have c16 := k18.cl c16 (by simp)
  refine Exists.intro _ (Exists.intro _ (And.intro c16.of (And.intro (show row 2 _ _ = some [iv _, iv _] from rfl) ?_)))
  refine Exists.intro _ (Exists.intro _ (And.intro c7.of (And.intro (show row 2 _ _ = some [iv _, iv _] from rfl) ?_)))
  refine callT (inSp_ok (lo := lo)) (by simp only [inSpB, Bool.and_eq_true, decide_eq_true_eq]; exact ⟨⟨L1.sd, L3.sd⟩, L2.sd⟩) ?_
  intro H19 k19
  have c7 := k19.cl c7 (by simp)
  have c16 := k19.cl c16 (by simp)
  refine And.intro rfl (Exists.intro (.bool true) (And.intro rfl ?_))
  refine Exists.intro _ (Exists.intro _ (And.intro c16.of (And.intro (show row 2 _ _ = some [iv _, iv _] from rfl) ?_)))
  refine Exists.intro _ (Exists.intro _ (And.intro c7.of (And.intro (show row 2 _ _ = some [iv _, iv _] from rfl) ?_)))
  refine callT (inSp_ok (lo := lo)) (by simp only [inSpB, Bool.and_eq_true, decide_eq_true_eq]; exact ⟨⟨L1.rv, L3.rv⟩, L2.rv⟩) ?_
  intro H20 k20
  have c7 := k20.cl c7 (by simp)
  have c16 := k20.cl c16 (by simp)
  refine And.intro rfl (Exists.intro (.bool true) (And.intro rfl ?_))
  refine Exists.intro _ (Exists.intro _ (And.intro c16.of (And.intro (show row 2 _ _ = some [iv _, iv _] from rfl) ?_)))
  refine Exists.intro _ (Exists.intro _ (And.intro c7.of (And.intro (show row 2 _ _ = some [iv _, iv _] from rfl) ?_)))
  refine callT (inSp_ok (lo := lo)) (by simp only [inSpB, Bool.and_eq_true, decide_eq_true_eq]; exact ⟨⟨L1.tk, L3.tk⟩, L2.tk⟩) ?_
  intro H21 k21
  refine And.intro rfl (Exists.intro (.bool true) (And.intro rfl ?_))
  refine al _ _ ?_
  refine And.intro rfl (Exists.intro (.bool true) (And.intro rfl ?_))
  exact And.intro trivial (Exists.intro _ (And.intro rfl rfl))
end
end Go.Ax

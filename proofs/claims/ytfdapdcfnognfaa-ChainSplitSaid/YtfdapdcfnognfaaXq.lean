import Derived.Test.YtfdapdcfnognfaaAxW4
import Derived.Test.YtfdapdcfnognfaaChecked
import Derived.Test.YtfdapdcfnognfaaXp
set_option linter.all false
namespace Go.Ax
open Go Go.RowKit Go.Proofs
end Go.Ax
namespace Go.Ax
open Go Go.RowKit Go.Proofs
def All2 {α β : Type} (R : α → β → Prop) : List α → List β → Prop
  | [], [] => True
  | x :: l, y :: m => R x y ∧ All2 R l m
  | _, _ => False
theorem fold2 {α β : Type} {f : St → α → St} {g : St → β → St} {R : α → β → Prop} {P : St → St → Prop} (hstep : ∀ x y s t, R x y → P s t → P (f s x) (g t y)) : ∀ (l : List α) (m : List β), All2 R l m → ∀ s t, P s t → P (l.foldl f s) (m.foldl g t)
  | [], [], _, _, _, h => h
  | [], _ :: _, hr, _, _, _ => hr.elim
  | _ :: _, [], hr, _, _, _ => hr.elim
  | _ :: l, _ :: m, hr, s, t, h => fold2 hstep l m hr.2 _ _ (hstep _ _ s t hr.1 h)
theorem All2.zipIdx {α β : Type} {R : α → β → Prop} : ∀ {l : List α} {m : List β} (n : Nat), All2 R l m → All2 (fun (x : α × Nat) (y : β × Nat) => R x.1 y.1 ∧ x.2 = y.2) (l.zipIdx n) (m.zipIdx n)
  | [], [], _, _ => trivial
  | [], _ :: _, _, h => h.elim
  | _ :: _, [], _, h => h.elim
  | _ :: _, _ :: _, n, h => ⟨⟨h.1, rfl⟩, h.2.zipIdx (n + 1)⟩
theorem All2.same {α : Type} {R : α → α → Prop} : ∀ (l : List α), (∀ x ∈ l, R x x) → All2 R l l
  | [], _ => trivial
  | x :: l, h => ⟨h x (List.mem_cons_self ..), All2.same l fun y hy => h y (List.mem_cons_of_mem _ hy)⟩
/-- No pond has less than nothing. -/
def NN (s : St) : Prop := ∀ i, 0 ≤ s.ws.getD i 0
theorem NN.set {ws : List Int} (h : ∀ i, 0 ≤ ws.getD i 0) {j : Nat} {x : Int} (hx : 0 ≤ x) : ∀ i, 0 ≤ (ws.set j x).getD i 0 := fun i => by
  rw [getD_set]; split
  · exact hx
  · exact h i
theorem NN.move {ws : List Int} (h : ∀ i, 0 ≤ ws.getD i 0) {fr : Nat} {to l : Int} (h0 : 0 ≤ l) (h1 : l ≤ ws.getD fr 0) : ∀ i, 0 ≤ (moveW ws fr to l).getD i 0 := fun i => by
  unfold moveW
  simp only
  split
  · exact NN.set h (by omega) i
  · refine NN.set (NN.set h (by omega)) ?_ i
    have := NN.set h (j := fr) (x := ws.getD fr 0 - l) (by omega) to.toNat
    omega
/-- The one pond seeps so that it never has more, and nothing more has seeped, than of the other one. -/
structure PdLe (g1 g2 : Bool) (p1 p2 : Pd) : Prop where
  full : p1.full = p2.full
  spill : p1.spill = p2.spill
  st : (if g2 = true then p2.lo else p2.hi) ≤ (if g1 = true then p1.lo else p1.hi)
  se : (if g1 = true then p1.hi else p1.lo) ≤ (if g2 = true then p2.hi else p2.lo)
  gg : g1 = true → g2 = true
  b1 : 0 ≤ p1.lo ∧ p1.lo ≤ 1000000 ∧ 0 ≤ p1.hi ∧ p1.hi ≤ 1000000
  b2 : 0 ≤ p2.lo ∧ p2.lo ≤ 1000000 ∧ 0 ≤ p2.hi ∧ p2.hi ≤ 1000000
  f0 : 0 ≤ p2.full
theorem stay_le {g1 g2 : Bool} {p1 p2 : Pd} (h : PdLe g1 g2 p1 p2) {v w : Int} (hw : 0 ≤ w) (hvw : v ≤ w) : stayV g1 v p1.lo p1.hi ≤ stayV g2 w p2.lo p2.hi := by
  obtain ⟨_, _, hs, _, hg, ⟨a1, a2, a3, a4⟩, ⟨b1, b2, b3, b4⟩, _⟩ := h
  unfold stayV
  cases g1 <;> cases g2 <;> simp only [Bool.false_eq_true, if_true, if_false] at hs hg ⊢
  · have e1 := (stay_mono a4 hvw).2
    have e2 := Int.mul_le_mul_of_nonneg_left hs hw
    generalize w * p2.hi = Q at *
    generalize w * p1.hi = P at *
    generalize v * p1.hi = O at *
    omega
  · have e1 := (stay_mono a4 hvw).2
    have e2 := Int.mul_le_mul_of_nonneg_left hs hw
    generalize w * p2.lo = Q at *
    generalize w * p1.hi = P at *
    generalize v * p1.hi = O at *
    omega
  · exact (by simp at hg)
  · have e1 := (stay_mono a2 hvw).1
    have e2 := Int.mul_le_mul_of_nonneg_left hs hw
    generalize w * p2.lo = Q at *
    generalize w * p1.lo = P at *
    generalize v * p1.lo = O at *
    omega
theorem seep_le {g1 g2 : Bool} {p1 p2 : Pd} (h : PdLe g1 g2 p1 p2) {v w : Int} (hw : 0 ≤ w) (hvw : v ≤ w) : seepV g1 v p1.lo p1.hi ≤ seepV g2 w p2.lo p2.hi := by
  obtain ⟨_, _, _, hs, hg, ⟨a1, a2, a3, a4⟩, ⟨b1, b2, b3, b4⟩, _⟩ := h
  unfold seepV
  cases g1 <;> cases g2 <;> simp only [Bool.false_eq_true, if_true, if_false] at hs hg ⊢
  · have e1 := (seep_mono a1 hvw).1
    have e2 := Int.mul_le_mul_of_nonneg_left hs hw
    generalize w * p2.lo = Q at *
    generalize w * p1.lo = P at *
    generalize v * p1.lo = O at *
    omega
  · have e1 := (seep_mono a1 hvw).1
    have e2 := Int.mul_le_mul_of_nonneg_left hs hw
    generalize w * p2.hi = Q at *
    generalize w * p1.lo = P at *
    generalize v * p1.lo = O at *
    omega
  · exact (by simp at hg)
  · have e1 := (seep_mono a3 hvw).2
    have e2 := Int.mul_le_mul_of_nonneg_left hs hw
    generalize w * p2.hi = Q at *
    generalize w * p1.hi = P at *
    generalize v * p1.hi = O at *
    omega
theorem stay_nn {g : Bool} {v a b : Int} (hv : 0 ≤ v) (ha : 0 ≤ a ∧ a ≤ 1000000) (hb : 0 ≤ b ∧ b ≤ 1000000) : 0 ≤ stayV g v a b := by
  unfold stayV
  split
  · have e1 := Int.mul_le_mul_of_nonneg_left ha.2 hv
    have e2 := Int.mul_nonneg hv ha.1
    generalize v * a = P at *
    omega
  · have e1 := Int.mul_le_mul_of_nonneg_left hb.2 hv
    have e2 := Int.mul_nonneg hv hb.1
    generalize v * b = P at *
    omega
/-- An hour against another one. -/
structure HrLe (g1 g2 : Bool) (h1 h2 : Hr) : Prop where
  bs : h1.bs = h2.bs
  ts : h1.ts = h2.ts
  cs : All2 (fun x y => x ≤ y ∧ 0 ≤ y) (endS g1 h1.cs) (endS g2 h2.cs)
  tn : ∀ t ∈ h2.ts, 0 ≤ t.amount
theorem hour_le {g1 g2 : Bool} {c1 c2 : Ch} {h1 h2 : Hr} {gs : List Gt} (hp : All2 (PdLe g1 g2) c1.ponds c2.ponds) (hh : HrLe g1 g2 h1 h2) (hg : ∀ g ∈ boardsF h2 gs, 0 ≤ g.sill + g.boards * g.step ∧ 0 ≤ g.most) {s t : St} (hs : LeS s t) (hn : NN t) :
    LeS (hourF c1 g1 h1 gs s) (hourF c2 g2 h2 gs t) ∧ NN (hourF c2 g2 h2 gs t) ∧ boardsF h1 gs = boardsF h2 gs := by
  have hb : boardsF h1 gs = boardsF h2 gs := by unfold boardsF; rw [hh.bs]
  suffices q : LeS (hourF c1 g1 h1 gs s) (hourF c2 g2 h2 gs t) ∧ NN (hourF c2 g2 h2 gs t) from ⟨q.1, q.2, hb⟩
  show (fun s t => LeS s t ∧ NN t) (spillsS (mkX c1 h1 ⟨0, 0, none, 0⟩ g1 0) (seepsS (mkX c1 h1 ⟨0, 0, none, 0⟩ g1 0) (takesS (mkX c1 h1 ⟨0, 0, none, 0⟩ g1 0) (gatesS (boardsF h1 gs) (comesS (mkX c1 h1 ⟨0, 0, none, 0⟩ g1 0) s)))))
    (spillsS (mkX c2 h2 ⟨0, 0, none, 0⟩ g2 0) (seepsS (mkX c2 h2 ⟨0, 0, none, 0⟩ g2 0) (takesS (mkX c2 h2 ⟨0, 0, none, 0⟩ g2 0) (gatesS (boardsF h2 gs) (comesS (mkX c2 h2 ⟨0, 0, none, 0⟩ g2 0) t)))))
  rw [hb]
  have e1 : (fun s t => LeS s t ∧ NN t) (comesS (mkX c1 h1 ⟨0, 0, none, 0⟩ g1 0) s) (comesS (mkX c2 h2 ⟨0, 0, none, 0⟩ g2 0) t) := by
    refine fold2 (P := fun s t => LeS s t ∧ NN t) (f := comeS) (g := comeS) ?_ ((endS g1 h1.cs).zipIdx) ((endS g2 h2.cs).zipIdx) (hh.cs.zipIdx 0) s t ⟨hs, hn⟩
    rintro ⟨x, i⟩ ⟨y, j⟩ s t ⟨⟨hxy, hy⟩, hij⟩ ⟨h, n⟩
    simp only at hij hxy hy
    subst hij
    have := h.w.2 i
    have := n i
    exact ⟨⟨h.w.set (by show s.ws.getD i 0 + x ≤ t.ws.getD i 0 + y; omega), by have := h.cm; show s.came + x ≤ t.came + y; omega, h.sd, h.rv, h.tk⟩, NN.set n (by show 0 ≤ t.ws.getD i 0 + y; omega)⟩
  have e2 := fold2 (P := fun s t => LeS s t ∧ NN t) (f := flowS) (g := flowS) (R := fun x y => x = y ∧ 0 ≤ y.sill + y.boards * y.step ∧ 0 ≤ y.most) (by
    rintro x g s t ⟨rfl, z1, z2⟩ ⟨h, n⟩
    have := h.w.2 x.fr.toNat
    have := n x.fr.toNat
    have hf : flowL s.ws x ≤ flowL t.ws x := by unfold flowL; generalize x.sill + x.boards * x.step = z at *; omega
    have hf2 : s.ws.getD x.fr.toNat 0 - flowL s.ws x ≤ t.ws.getD x.fr.toNat 0 - flowL t.ws x := by unfold flowL; generalize x.sill + x.boards * x.step = z at *; omega
    have hf3 : 0 ≤ flowL t.ws x ∧ flowL t.ws x ≤ t.ws.getD x.fr.toNat 0 := by unfold flowL; generalize x.sill + x.boards * x.step = z at *; omega
    exact ⟨⟨h.w.move hf2 hf, h.cm, h.sd, river_le h.rv hf, h.tk⟩, NN.move n hf3.1 hf3.2⟩) (boardsF h2 gs) (boardsF h2 gs) (All2.same _ fun g hgm => ⟨rfl, hg g hgm⟩) _ _ e1
  have e3 := fold2 (P := fun s t => LeS s t ∧ NN t) (f := takeS) (g := takeS) (R := fun x y => x = y ∧ 0 ≤ y.amount) (by
    rintro x y s t ⟨rfl, z⟩ ⟨h, n⟩
    have := h.w.2 x.pond.toNat
    have := n x.pond.toNat
    have hf : takeL s.ws x ≤ takeL t.ws x := by unfold takeL; omega
    exact ⟨⟨h.w.set (by unfold takeL; omega), h.cm, h.sd, h.rv, by have := h.tk; show s.taken + takeL s.ws x ≤ t.taken + takeL t.ws x; omega⟩, NN.set n (by unfold takeL; omega)⟩) h2.ts h2.ts (All2.same _ fun x hx => ⟨rfl, hh.tn x hx⟩) _ _ e2
  have e4 := fold2 (P := fun s t => LeS s t ∧ NN t) (f := seepS g1) (g := seepS g2) (by
    rintro ⟨p1, i⟩ ⟨p2, j⟩ s t ⟨hp, hij⟩ ⟨h, n⟩
    simp only at hij hp
    subst hij
    have h5 := h.w.2 i
    have h6 := n i
    refine ⟨⟨h.w.set (stay_le hp h6 h5), h.cm, ?_, h.rv, h.tk⟩, NN.set n (stay_nn h6 ⟨hp.b2.1, hp.b2.2.1⟩ ⟨hp.b2.2.2.1, hp.b2.2.2.2⟩)⟩
    show s.seeped + seepV g1 (s.ws.getD i 0) p1.lo p1.hi ≤ t.seeped + seepV g2 (t.ws.getD i 0) p2.lo p2.hi
    have := h.sd
    have := seep_le hp h6 h5
    omega) c1.ponds.zipIdx c2.ponds.zipIdx (hp.zipIdx 0) _ _ e3
  have e5 := fold2 (P := fun s t => LeS s t ∧ NN t) (f := spillS) (g := spillS) (by
    rintro ⟨p1, i⟩ ⟨p2, j⟩ s t ⟨hp, hij⟩ ⟨h, n⟩
    simp only at hij hp
    subst hij
    have h5 := h.w.2 i
    have h6 := n i
    have hfu := hp.full
    have hf : spillL s (p1, i) ≤ spillL t (p2, i) := by unfold spillL; simp only; omega
    have hf0 : 0 ≤ spillL t (p2, i) := by unfold spillL; omega
    have hf1 : s.ws.getD i 0 - spillL s (p1, i) ≤ t.ws.getD i 0 - spillL t (p2, i) := by unfold spillL; simp only; omega
    show LeS { s with ws := moveW s.ws i p1.spill (spillL s (p1, i)), river := moveR s.river p1.spill (spillL s (p1, i)) } { t with ws := moveW t.ws i p2.spill (spillL t (p2, i)), river := moveR t.river p2.spill (spillL t (p2, i)) } ∧ NN { t with ws := moveW t.ws i p2.spill (spillL t (p2, i)), river := moveR t.river p2.spill (spillL t (p2, i)) }
    rw [hp.spill]
    refine ⟨⟨h.w.move hf1 hf, h.cm, h.sd, river_le h.rv hf, h.tk⟩, ?_⟩
    have hfull := hp.f0
    exact NN.move n hf0 (by unfold spillL; simp only; omega)) c1.ponds.zipIdx c2.ponds.zipIdx (hp.zipIdx 0) _ _ e4
  have f1 : takesS (mkX c1 h1 ⟨0, 0, none, 0⟩ g1 0) = takesS (mkX c2 h2 ⟨0, 0, none, 0⟩ g2 0) := by funext s; show h1.ts.foldl takeS s = h2.ts.foldl takeS s; rw [hh.ts]
  rw [f1]
  exact e5
end Go.Ax
namespace Go.Ax
open Go Go.RowKit Go.Proofs
end Go.Ax
namespace Go.Ax
open Go Go.RowKit Go.Proofs
section
variable {P : Program} {kn : FuncId → Option Bool} {lo n : Nat} {masks : List Nat} {r : List RO} {ks : List Kd} {S : Rg} {H : Hp} {K : Rg → Hp → Prop} {d : Option Nat} {x y : Operand}
theorem wD_lda {b o m : Nat} {cs q : List Value} (hx : evS S x = some (.pointer (some ⟨b, o, none⟩))) (hc : Rd H b cs) (hv : row m cs o = some q) (h : wDraw P kn lo n masks r (.read b :: ks) (putS S d (.agg q.toArray)) H K) : wDraw P kn lo n masks (⟨d, none, .lda x m⟩ :: r) ks S H K := by
  simp only [wDraw, wRO, wRI, hx]; exact ⟨cs, q, hc.of, hv, hc.lt, h⟩
theorem wD_add {a b : Int} (hx : evS S x = some (.int .i64 a)) (hy : evS S y = some (.int .i64 b)) (h2 : InR (a + b)) (h : wDraw P kn lo n masks r (.pure :: ks) (putS S d (.int .i64 (a + b))) H K) : wDraw P kn lo n masks (⟨d, none, .ari .add x y⟩ :: r) ks S H K := by
  simp only [wDraw, wRO, wRI, hx, hy]; exact ⟨h2, h⟩
theorem wD_callh {c : Call} {t : Target} {vs : List Value} {v : Value} {H' : Hp} (ht : targetS S c = some (t, vs)) (hm : marked t = false) (hc : CallsX P kn H.next t vs H v H') (h : wDraw P kn lo n masks r (.heavy :: ks) (putS S d v) H' K) : wDraw P kn lo n masks (⟨d, none, .call c false⟩ :: r) ks S H K := by
  simp only [wDraw, wRO, wRI, ht, hm, Bool.and_false, cond_false]; exact ⟨v, H', hc, h⟩
end
def u32s (l : List Nat) : List Value := l.map fun (n : Nat) => Value.int .u32 ((n : Nat) : Int)
end Go.Ax
namespace Go.Ax
open Go Go.RowKit Go.Proofs
structure Mo2 (F : Hp) (b7 : Nat) (ba : Option Addr) (bl bcap : Nat) (bs : List Nat) : Prop where
  h7 : Rd F b7 [.slice ba bl bcap]
  hb : Sl F ba bl bcap (u32s bs)
  hbl : bs.length = bl
  h0 : 0 < bl
  hr : ∀ n ∈ bs, n ≤ 4294967295
  h2 : bl ≤ 9223372036854775807
end Go.Ax
namespace Go.Ax
open Go Go.RowKit Go.Proofs
end Go.Ax
namespace Go.Ax
open Go Go.RowKit Go.Proofs
theorem Mo2.keep {F H : Hp} {b7 bt : Nat} {ba : Option Addr} {bl bcap : Nat} {bs : List Nat} (h : Mo2 F b7 ba bl bcap bs) (k : Keep F H [bt]) (h1 : b7 ≠ bt) (h2 : ∀ b, ba = some ⟨b, 0, none⟩ → b ≠ bt) : Mo2 H b7 ba bl bcap bs :=
  ⟨k.rd h.h7 (by simpa using h1), k.sl h.hb (fun b e => by have := h2 b e; simpa using this), h.hbl, h.h0, h.hr, h.h2⟩
end Go.Ax
namespace Go.Ax
open Go Go.RowKit Go.Proofs
end Go.Ax
namespace Go.Ax
open Go Go.RowKit Go.Proofs
end Go.Ax
namespace Go.Ax
open Go Go.RowKit Go.Proofs
theorem lastB_mem : ∀ (bs : List Bd) (i : Nat) (x : Int), lastB bs i = some x → ∃ b ∈ bs, b.boards = x
  | [], _, _, h => by simp [lastB] at h
  | b :: r, i, x, h => by
    unfold lastB at h
    cases hr : lastB r i with
    | some y =>
      rw [hr] at h
      simp only [Option.some.injEq] at h; subst h
      obtain ⟨c, hc, e⟩ := lastB_mem r i y hr
      exact ⟨c, List.mem_cons_of_mem _ hc, e⟩
    | none =>
      rw [hr] at h
      simp only at h
      split at h
      · exact ⟨b, List.mem_cons_self .., Option.some.inj h⟩
      · cases h
theorem boards_good {h : Hr} {gs : List Gt} {n : Int} {pn gn : Nat} (hg : gs.all (fun g => gateB g n) = true) (hv : hourB h pn gn = true) : (boardsF h gs).all (fun g => gateB g n) = true := by
  simp only [hourB, Bool.and_eq_true] at hv
  have hb := List.all_eq_true.1 hv.1.1.2
  refine List.all_eq_true.2 fun x hx => ?_
  obtain ⟨i, hi, rfl⟩ := List.getElem_of_mem hx
  have e := boards_get h.bs gs i
  have hq : (h.bs.foldl boardS gs)[i]? = some (boardsF h gs)[i] := List.getElem?_eq_getElem hi
  rw [hq] at e
  cases hgi : gs[i]? with
  | none => rw [hgi] at e; cases e
  | some g =>
    rw [hgi] at e
    simp only [Option.map_some, Option.some.injEq] at e
    have g1 := List.all_eq_true.1 hg g (List.mem_of_getElem? hgi)
    rw [e]
    cases hl : lastB h.bs i with
    | none => exact g1
    | some y =>
      obtain ⟨b, hbm, rfl⟩ := lastB_mem _ _ _ hl
      have := hb b hbm
      simp only [Bool.and_eq_true] at this
      simp only [gateB, Bool.and_eq_true] at g1 ⊢
      exact ⟨g1.1, this.2⟩
theorem gate_nn {g : Gt} {n : Int} (h : gateB g n = true) : 0 ≤ g.sill + g.boards * g.step ∧ 0 ≤ g.most := by
  simp only [gateB, Bool.and_eq_true, waterB, boardsB, decide_eq_true_eq] at h
  have hm := Int.mul_nonneg (a := g.boards) (b := g.step) (by omega) (by omega)
  generalize g.boards * g.step = P at *
  omega
theorem all2_of {α β : Type} {R : α → β → Prop} : ∀ (l : List α) (m : List β), l.length = m.length → (∀ (i : Nat) x y, l[i]? = some x → m[i]? = some y → R x y) → All2 R l m
  | [], [], _, _ => trivial
  | [], _ :: _, h, _ => by simp at h
  | _ :: _, [], h, _ => by simp at h
  | x :: l, y :: m, h, hr => ⟨hr 0 x y rfl rfl, all2_of l m (by simpa using h) fun i a b ha hb => hr (i + 1) a b (by simpa using ha) (by simpa using hb)⟩
end Go.Ax
namespace Go.Ax
open Go Go.RowKit Go.Proofs
theorem end_le {g1 g2 : Bool} {l m : List (Int × Int)} (hl : l.length = m.length) (h : ∀ (i : Nat) x y, l[i]? = some x → m[i]? = some y → endV g1 x.1 x.2 ≤ endV g2 y.1 y.2 ∧ 0 ≤ endV g2 y.1 y.2) : All2 (fun x y => x ≤ y ∧ 0 ≤ y) (endS g1 l) (endS g2 m) := by
  refine all2_of _ _ (by simp [endS, hl]) fun i x y hx hy => ?_
  simp only [endS, List.getElem?_map, Option.map_eq_some_iff] at hx hy
  obtain ⟨a, ha, rfl⟩ := hx
  obtain ⟨b, hb, rfl⟩ := hy
  exact h i a b ha hb
end Go.Ax
namespace Go.Ax
open Go Go.RowKit Go.Proofs
end Go.Ax
namespace Go.Ax
open Go Go.RowKit Go.Proofs
/-- What is there, seeped, went away and was taken is what was there and came. -/
def Cn (a : Int) (s : St) : Prop := s.ws.sum + s.seeped + s.river + s.taken = a + s.came
/-- What is true, between the least and the greatest course. -/
structure Tru (n : Nat) (M B a : Int) (sl s sg : St) : Prop where
  l : LeS sl s
  g : LeS s sg
  d : Good n M B s
  c : Cn a s
theorem Tru.mono {n : Nat} {M B M' B' a : Int} {sl s sg : St} (h : Tru n M B a sl s sg) (hm : M ≤ M') (hb : B ≤ B') : Tru n M' B' a sl s sg := ⟨h.l, h.g, h.d.mono hm hb, h.c⟩
/-- All hours of a valid list: both courses stay within bounds, with the same boards. -/
theorem fo_ahead {c : Ch} (v : c.Vd) {hs : List Hr} (hh : ∀ h ∈ hs, hourB h c.pn c.gn = true) (hcl : ∀ h ∈ hs, h.cs.length = h.cn) (g : Bool) : ∀ i : Nat, i ≤ 200 →
    Ahead c.ponds (i * perHour) (foG g c hs i).2 ∧ (foG g c hs i).1.all (fun g => gateB g c.pn) = true ∧ (foG g c hs i).1.length = c.gn
  | 0, _ => ⟨by have := v.ahead g; simpa [foG] using this, by simpa [foG] using v.g, by simpa [foG] using v.lg⟩
  | i + 1, hi => by
    obtain ⟨h1, h2, h3⟩ := fo_ahead v hh hcl g i (by omega)
    cases e : hs[i]? with
    | none =>
      have : foG g c hs (i + 1) = foG g c hs i := by
        have hl : hs.length ≤ i := by rw [List.getElem?_eq_none_iff] at e; exact e
        unfold foG
        rw [List.take_of_length_le (by omega), List.take_of_length_le hl]
      rw [this]
      exact ⟨⟨h1.len, h1.pos, h1.full, h1.c0, h1.s0, h1.r0, h1.t0, by have := h1.cB; rw [perHour_eq] at *; omega, by have := h1.sB; rw [perHour_eq] at *; omega, by have := h1.all; rw [perHour_eq] at *; omega⟩, h2, h3⟩
    | some h =>
      have hv := hh h (List.mem_of_getElem? e)
      have hcl := hcl h (List.mem_of_getElem? e)
      have es : foG g c hs (i + 1) = (boardsF h (foG g c hs i).1, hourF c g h (foG g c hs i).1 (foG g c hs i).2) := by
        unfold foG; rw [take_step e]
      have h16 := v.h16; have hwp := v.wp
      have hv0 := hv
      simp only [hourB, Bool.and_eq_true] at hv
      obtain ⟨⟨⟨⟨⟨v1, v2⟩, v3⟩, v4⟩, v5⟩, v6⟩ := hv
      have hcn : h.cn = c.pn := by simp at v2; omega
      obtain ⟨_, ah, gg, gl'⟩ := hour_safe (X := mkX c h ⟨0, 0, none, 0⟩ g 0) (gs := (foG g c hs i).1) (s := (foG g c hs i).2) (B := i * perHour) (by show c.wn = c.ponds.length; rw [v.lp, v.wp]) (by show c.wn ≤ 16; omega) (by show c.pn = c.wn; omega) (by show h.cn = c.wn; omega) (by show c.gn = _; rw [h3]) hcl
        (by show c.ponds.zipIdx.all (fun p => pondB p.1 p.2 c.wn) = true; rw [hwp]; exact v.p) (by show (foG g c hs i).1.all (fun g => gateB g c.wn) = true; rw [hwp]; exact h2) v4 v5 (by show h.ts.all (fun t => indexB t.pond c.wn && waterB t.amount) = true; rw [hwp]; exact v6) h1 (by rw [perHour_eq]; omega) (by rw [perHour_eq]; omega)
      rw [es]
      have e1 : ((i + 1 : Nat) : Int) * perHour = i * perHour + perHour := by rw [Int.natCast_add, Int.add_mul]; simp
      rw [e1]
      refine ⟨ah, ?_, ?_⟩
      · have e2 : (mkX c h ⟨0, 0, none, 0⟩ g 0).n = c.wn := rfl
        rw [e2, hwp] at gg
        exact gg
      · show (boardsS (mkX c h ⟨0, 0, none, 0⟩ g 0) (foG g c hs i).1).length = _
        rw [gl', h3]
end Go.Ax
namespace Go.Ax
open Go Go.RowKit Go.Proofs
structure Tx where
  T : Nat
  pb : Nat
  pcap : Nat
  ga : Option Addr
  gcap : Nat
def Tx.W (p : Tx) : List Nat := p.T :: p.pb :: gl p.ga
def Tx.cells (p : Tx) (gn n : Nat) (s : St) : List Value := [.slice p.ga gn p.gcap, .slice (some ⟨p.pb, 0, none⟩) n p.pcap, iv s.came, iv s.seeped, iv s.river, iv s.taken]
structure TAt (gn n L : Nat) (p : Tx) (H : Hp) (gs : List Gt) (s : St) : Prop where
  hT : Cl H p.T (p.cells gn n s)
  hP : Cl H p.pb (ints s.ws)
  hG : Own L H p.ga gn (gtc gs)
  lg : gs.length = gn
  lws : s.ws.length = n
  lT : L ≤ p.T
  lP : L ≤ p.pb
  ne : p.T ≠ p.pb
  gT : p.T ∉ gl p.ga
  gP : p.pb ∉ gl p.ga
section
variable {gn n L : Nat} {p : Tx} {H H1 : Hp} {gs : List Gt} {s : St}
theorem TAt.off (h : TAt gn n L p H gs s) {b : Nat} (hb : b < L) : b ∉ p.W := by
  have h1 := h.lT; have h2 := h.lP
  intro q
  simp only [Tx.W, List.mem_cons] at q
  rcases q with q | q | q
  · omega
  · omega
  · rcases h.hG with ⟨e, _⟩ | ⟨gb, e, l, _⟩
    · rw [e] at q; simp [gl] at q
    · rw [mem_gl e] at q; simp at q; omega
theorem TAt.offNew (h : TAt gn n L p H gs s) {b : Nat} (hb : H.next ≤ b) : b ∉ p.W := by
  have h1 := h.hT.lt; have h2 := h.hP.lt
  intro q
  simp only [Tx.W, List.mem_cons] at q
  rcases q with q | q | q
  · omega
  · omega
  · rcases h.hG with ⟨e, _⟩ | ⟨gb, e, l, c⟩
    · rw [e] at q; simp [gl] at q
    · rw [mem_gl e] at q; simp at q; have := c.lt; omega
theorem TAt.keep0 (h : TAt gn n L p H gs s) (k : Keep H H1 []) : TAt gn n L p H1 gs s :=
  ⟨k.cl h.hT (by simp), k.cl h.hP (by simp), h.hG.keep k (fun _ _ => by simp), h.lg, h.lws, h.lT, h.lP, h.ne, h.gT, h.gP⟩
end
/-- What an hour of the truth reads. -/
structure TE (c : Ch) (h : Hr) (ba : Option Addr) (bl bcap : Nat) (bs : List Nat) (b5 b6 b7 : Nat) (p : Tx) (F : Hp) : Prop where
  e5 : Rd F b5 [pt p.T]
  e6 : Rd F b6 [.slice c.pa c.pn c.pcap, .slice c.ga c.gn c.gcap]
  e7 : Rd F b7 h.v
  hp : Sl F c.pa c.pn c.pcap (pdc c.ponds)
  hh : h.At F
  hy : Sl F ba bl bcap (u32s bs)
  o5 : b5 ∉ p.W
  o6 : b6 ∉ p.W
  o7 : b7 ∉ p.W
  op : Off p.W c.pa
  ob : Off p.W h.ba
  oc : Off p.W h.ca
  ot : Off p.W h.ta
  oy : Off p.W ba
theorem TE.keep {c : Ch} {h : Hr} {ba : Option Addr} {bl bcap : Nat} {bs : List Nat} {b5 b6 b7 : Nat} {p : Tx} {F H : Hp} {w : List Nat} (t : TE c h ba bl bcap bs b5 b6 b7 p F) (k : Keep F H w) (hw : ∀ b, b ∈ w → b ∈ p.W) : TE c h ba bl bcap bs b5 b6 b7 p H := by
  have k := k.mono hw
  exact ⟨k.rd t.e5 t.o5, k.rd t.e6 t.o6, k.rd t.e7 t.o7, k.sl t.hp t.op, ⟨k.sl t.hh.b t.ob, k.sl t.hh.c t.oc, k.sl t.hh.t t.ot, t.hh.lb, t.hh.lc, t.hh.lt⟩, k.sl t.hy t.oy, t.o5, t.o6, t.o7, t.op, t.ob, t.oc, t.ot, t.oy⟩
/-- The number of the list by which something is chosen. -/
structure By (bl : Nat) (bs : List Nat) : Prop where
  hbl : bs.length = bl
  h0 : 0 < bl
  hr : ∀ n ∈ bs, n ≤ 4294967295
  h2 : bl ≤ 9223372036854775807
end Go.Ax
namespace Go.Ax
open Go Go.RowKit Go.Proofs
end Go.Ax
namespace Go.Ax
open Go Go.RowKit Go.Proofs
end Go.Ax
namespace Go.Ax
open Go Go.RowKit Go.Proofs
section
variable {P : Program} {kn : FuncId → Option Bool} {lo n : Nat} {rd : Bool}
theorem Tri.block {id : Nat} {b : Code} {S : Rg} {H : Hp} {K : Exit → Rg → Hp → Prop} (h : Tri P kn lo n rd b S H fun e S' H' => match e with | .exit j => (bif Nat.beq j id then K .normal S' H' else K (.exit j) S' H') | e => K e S' H') : Tri P kn lo n rd (.block id b) S H K := by
  intro A h1 h2 h3
  obtain ⟨e, S', H', T', p, q, N, r⟩ := h A h1 h2 h3
  have unf : ∀ f m k, runCode P lo (callF P kn m k) (f + 1) (.block id b) A H none = match runCode P lo (callF P kn m k) f b A H none with
    | some (.exit j, A', H', p') => bif Nat.beq j id then some (.normal, A', H', p') else some (.exit j, A', H', p')
    | r => r := fun f m k => by rw [runCode]; rfl
  cases e with
  | exit j =>
    simp only at p
    cases hj : Nat.beq j id with
    | true =>
      rw [hj] at p
      refine ⟨.normal, S', H', T', p, q, N + 1, fun f m k hf hm hk => ?_⟩
      obtain ⟨f, rfl⟩ : ∃ g, f = g + 1 := ⟨f - 1, by omega⟩
      rw [unf, r f m k (by omega) (by omega) (by omega)]
      simp only [hj, cond_true]
    | false =>
      rw [hj] at p
      refine ⟨.exit j, S', H', T', p, q, N + 1, fun f m k hf hm hk => ?_⟩
      obtain ⟨f, rfl⟩ : ∃ g, f = g + 1 := ⟨f - 1, by omega⟩
      rw [unf, r f m k (by omega) (by omega) (by omega)]
      simp only [hj, cond_false]
  | _ =>
    refine ⟨_, S', H', T', p, q, N + 1, fun f m k hf hm hk => ?_⟩
    obtain ⟨f, rfl⟩ : ∃ g, f = g + 1 := ⟨f - 1, by omega⟩
    rw [unf, r f m k (by omega) (by omega) (by omega)]
/-- A piece, from some of what is known. -/
theorem tri_piece {c : Code} {R : RC} {S S0 : Rg} {H : Hp} {K : Exit → Rg → Hp → Prop} (hL : low P n c = some R) (hS : Subs S0 S) (h : wC P kn lo n rd R S0 H K) : Tri P kn lo n rd c S H K := Tri.forget (wC_sound rd _ hL h) hS.get
end
end Go.Ax
namespace Go.Ax
open Go Go.RowKit Go.Proofs
end Go.Ax
namespace Go.Ax
open Go Go.RowKit Go.Proofs
theorem Acc.cl {lo f : Nat} {e : TypeId} {H : Hp} {b n : Nat} {cs : List Value} (h : Acc lo f e H (.slice (some ⟨b, 0, none⟩) n n) n cs) : Cl H b cs ∧ f ≤ b := by
  rcases h with ⟨_, _, h⟩ | ⟨b', e, _, hf, _, hn, hg⟩
  · cases h
  · cases e; exact ⟨⟨hn, _, _, hg⟩, hf⟩
end Go.Ax
namespace Go.Ax
open Go Go.RowKit Go.Proofs
end Go.Ax
namespace Go.Ax
open Go Go.RowKit Go.Proofs
end Go.Ax
namespace Go.Ax
open Go Go.RowKit Go.Proofs
end Go.Ax

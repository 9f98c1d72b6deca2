import Derived.Test.YtbgdbnnbfankeaaMb
import Derived.Test.YtbgdbnnbfankeaaAxW10
import Derived.Test.YtbgdbnnbfankeaaChecked
import Derived.Test.YtbgdbnnbfankeaaAxO
import Derived.Deep.Slices
import Derived.Deep.Fields
import Derived.ChangeSame
set_option linter.all false
/-
  Plant: the cheapest blend (53) (written by program).
-/
namespace Go.Ax
open Go Go.RowKit Go.Proofs

noncomputable abbrev asg53 : Code := at_ Try.f53 [1, 0, 1, 0, 0]
noncomputable abbrev body53 : Code := at_ Try.f53 [1, 0, 1, 0, 1]
abbrev S53 (h : Nat) : Rg := [(2, pt h), (4, pt (h + 2)), (5, pt (h + 3))]
theorem isb4 : isAggB Try.prog 4 = some false := by kernel_rfl
theorem res_cab {P : Program} {S : Rg} {H : Hp} {a b x y n : Nat} {t t2 : TypeId} {cs : List Value} {v : Value} (ha : lk S a = some (.pointer (some ⟨x, 0, none⟩))) (hb : lk S b = some (.pointer (some ⟨y, 0, none⟩))) (h1 : isAggB P t = some true) (h2 : isAggB P t2 = some false) (hi : ∃ i, P.info? t = some i ∧ i.size = n) (hl : cs.length = n) (h : Cl H x cs) (h3 : Cl H y [v]) :
    resS P S H [.cell a t, .cell b t2] = some [.agg cs.toArray, v] := by
  simp only [resS, ha, hb, load_agg h1 hi h.rd hl, load_one h2 h3.rd]
structure J53 (us : List Tn) (r : Rc) (sa : Option Addr) (cap : Nat) (H0 : Hp) (s : List Bl) (H' : Hp) : Prop where
  acc : ∃ a, bstB us r a s = bestB us r ∧ Cl H' (H0.next + 2) (bc (a.getD bz)) ∧ Cl H' (H0.next + 3) [.bool a.isSome] ∧ ∀ x, a = some x → ∀ i, 0 ≤ x i ∧ x i ≤ 12
  rL : Rd H' H0.next [.slice sa us.length cap]
  r4 : Rd H' (H0.next + 4) [.slice sa us.length cap]
  r5 : Rd H' (H0.next + 5) (Rc.f r)
  lp : Lp Try.prog H' (H0.next + 7) .ready none 25 (S53 H0.next) [10] asg53 body53 (H0.next + 6)
  dfr : H'.t.get (H0.next + 6) = some (.dfr (some []))
  ll : H0.next + 8 ≤ H'.next
  kp : Keep H0 H' []
theorem J53.keep {us : List Tn} {r : Rc} {sa : Option Addr} {cap : Nat} {H0 : Hp} {s : List Bl} {H1 H2 : Hp} (j : J53 us r sa cap H0 s H1) {W : List Nat} (k : Keep H1 H2 W) (hW : ∀ b ∈ W, H0.next + 8 ≤ b) : J53 us r sa cap H0 s H2 := by
  have nw : ∀ x, x < H0.next + 8 → x ∉ W := fun x hx q => by have := hW x q; omega
  have ll := j.ll
  obtain ⟨a, e, fd, fo, q⟩ := j.acc
  exact ⟨⟨a, e, k.cl fd (nw _ (by omega)), k.cl fo (nw _ (by omega)), q⟩, k.rd j.rL (nw _ (by omega)), k.rd j.r4 (nw _ (by omega)), k.rd j.r5 (nw _ (by omega)), j.lp.keep k (by omega) (nw _ (by omega)), by rw [k.2 _ (by omega) (nw _ (by omega))]; exact j.dfr, Nat.le_trans j.ll k.1, j.kp.new k (fun b q => .inr (by have := hW b q; omega))⟩
section
variable {kn : FuncId → Option Bool} {lo : Nat} {H : Hp}
set_option maxRecDepth 100000 in
theorem round53 {us : List Tn} {r : Rc} {sa : Option Addr} {cap : Nat} {H0 : Hp} (hs : Sl H0 sa us.length cap (tnc us)) (hn : us.length ≤ 5) (hok : us.all Tn.ok = true) (hlo : lo ≤ H0.next) {x : Bl} {s : List Bl} (hx : ∀ i, 0 ≤ x i ∧ x i ≤ 12) (hrt : rigB us r x = true) (j : J53 us r sa cap H0 (x :: s) H) (hnx : H0.next + 8 ≤ H.next) :
    ∃ H', CallsX Try.prog kn lo (.fn (.yield (H0.next + 7)) #[]) [.agg (bc x).toArray] H (.bool true) H' ∧ J53 us r sa cap H0 s H' ∧ Keep H H' [H0.next + 2, H0.next + 3, H0.next + 7] := by
  have L1 : low Try.prog 25 asg53 = some R53x1 := N53 ▸ L53x1
  have L2 : low Try.prog 25 body53 = some R53x2 := N53 ▸ L53x2
  have key := yield_ok (kn := kn) (P := Try.prog) (lo := lo) (S1 := (10, .agg (bc x).toArray) :: S53 H0.next) (args := [.agg (bc x).toArray]) (Q := fun t H' => t = true ∧ J53 us r sa cap H0 s H' ∧ Keep H H' [H0.next + 2, H0.next + 3, H0.next + 7]) j.lp (by omega) (by rfl) rfl (wC_sound true _ L1 ?_)
  · obtain ⟨t, H', h, rfl, q⟩ := key; exact ⟨H', h, q⟩
  have ll := j.ll
  refine wN_reg ?_
  refine wN_alc ?_
  intro H1 k1 n1 c1
  refine wN_sta (b := H.next) (o := 0) (v := .agg (bc x).toArray) rfl rfl c1 (by omega) rfl rfl (by simp) ?_
  intro H2 k2 n2 c2
  have c2 : Cl H2 H.next (bc x) := c2
  refine wN_end ?_
  have k02 : Keep H H2 [] := k1.new k2 (fun b hb => by simp at hb; omega)
  have m2 := k02.1
  have fs0 := hs.old
  refine And.intro trivial (And.intro (j.lp.keep k02 (by omega) (by simp)) ?_)
  intro H3 s3
  have k3 := s3.keep
  have hn3 : H3.next = H2.next := s3.1
  have lp3 := s3.lp (j.lp.keep k02 (by omega) (by simp))
  have nl : ∀ x, x ≠ H0.next + 7 → x ∉ [H0.next + 7] := fun x hx => by simpa using hx
  obtain ⟨a, ea, c20, c30, hab⟩ := j.acc
  have k03 : Keep H H3 [H0.next + 7] := (k02.mono (by simp)).trans k3
  have c6 := k3.cl c2 (nl _ (by omega))
  have c2 := k03.cl c20 (nl _ (by omega))
  have c3 := k03.cl c30 (nl _ (by omega))
  have rL := k03.rd j.rL (nl _ (by omega))
  have kp3 := j.kp.new k03 (fun b q => .inr (by simp at q; omega))
  have hs := kp3.sl0 hs
  have fs := hs.old
  rw [bstB_step hrt] at ea
  have nn : ∀ x, x ≠ H0.next + 2 → x ≠ H0.next + 3 → x ∉ [H0.next + 2, H0.next + 3] := fun x h1 h2 => by simp; omega
  have fin : ∀ H4 a4, Keep H3 H4 [H0.next + 2, H0.next + 3] → Cl H4 (H0.next + 2) (bc (a4.getD bz)) → Cl H4 (H0.next + 3) [.bool a4.isSome] → pickB us a x = a4 → (∀ x, a4 = some x → ∀ i, 0 ≤ x i ∧ x i ≤ 12) →
      Lp Try.prog H4 (H0.next + 7) .busy none 25 (S53 H0.next) [10] asg53 body53 (H0.next + 6) ∧ ∀ H5, SetLp H4 (H0.next + 7) .ready none H5 → (true = true ∧ J53 us r sa cap H0 s H5 ∧ Keep H H5 [H0.next + 2, H0.next + 3, H0.next + 7]) := by
    intro H4 a4 k4 d2 d3 ep hb4
    have m4 := k4.1
    have lp4 := lp3.keep k4 (by omega) (nn _ (by omega) (by omega))
    refine ⟨lp4, fun H5 s5 => ?_⟩
    have k5 := s5.keep
    have hn5 : H5.next = H4.next := s5.1
    have k05 : Keep H H5 [H0.next + 2, H0.next + 3, H0.next + 7] := ((k03.mono (by simp)).trans (k4.mono (by simp))).trans (k5.mono (by simp))
    have n3 : ∀ x, x ≠ H0.next + 2 → x ≠ H0.next + 3 → x ≠ H0.next + 7 → x ∉ [H0.next + 2, H0.next + 3, H0.next + 7] := fun x h1 h2 h3 => by simp; omega
    rw [ep] at ea
    exact ⟨rfl, ⟨⟨a4, ea, k5.cl d2 (nl _ (by omega)), k5.cl d3 (nl _ (by omega)), hb4⟩, k05.rd j.rL (n3 _ (by omega) (by omega) (by omega)), k05.rd j.r4 (n3 _ (by omega) (by omega) (by omega)), k05.rd j.r5 (n3 _ (by omega) (by omega) (by omega)), s5.lp lp4, by rw [k05.2 _ (by omega) (n3 _ (by omega) (by omega) (by omega))]; exact j.dfr, by omega, j.kp.new k05 (fun b q => .inr (by simp at q; omega))⟩, k05⟩
  have hk := Keep.refl H3 [H0.next + 2, H0.next + 3]
  refine wC_sound true _ L2 ?_
  cases a with
  | none =>
    have c2 : Cl H3 (H0.next + 2) (bc bz) := c2
    have c3 : Cl H3 (H0.next + 3) [.bool false] := c3
    refine wD_seq ?_
    refine wD_ld (b := (H0.next + 3)) (o := 0) (v := .bool false) rfl c3.rd rfl ?_
    refine wD_pur (v := .bool true) rfl rfl ?_
    refine wD_mov (v := .bool true) rfl ?_
    refine wD_gs rfl ?_
    refine wD_gs rfl ?_
    refine wD_gs rfl ?_
    refine wD_gs rfl ?_
    refine wD_gs rfl ?_
    refine wD_gs rfl ?_
    refine wD_gs rfl ?_
    refine wD_pur (v := .bool true) rfl rfl ?_
    refine wD_end (by repeat' first | exact True.intro | exact (fun h => h) | refine And.intro ?_ ?_ | (intro h; have h : (_ : Nat) = _ := h; omega)) ?_
    refine condT ?_
    first | refine wN_reg ?_ | refine wN_blk ?_ | refine wN_bseq ?_ | (refine wOps_nil ?_; refine wN_reg ?_)
    refine wN_lda (b := H.next) (o := 0) rfl c6.rd (show row 5 _ _ = some [iv (x 0), iv (x 1), iv (x 2), iv (x 3), iv (x 4)] from rfl) ?_
    refine wN_sta (b := (H0.next + 2)) (o := 0) rfl rfl c2 (by omega) rfl rfl (by simp) ?_
    intro H1 kH1 nH1 sH1
    have mH1 := kH1.1
    have hk := hk.new kH1 (fun b hb => .inl (by first | (simp at hb; done) | (simp at hb; simp [hb])))
    have c3 := kH1.cl c3 (by first | (simp; done) | (simp; omega))
    have c6 := kH1.cl c6 (by first | (simp; done) | (simp; omega))
    have rL := kH1.rd rL (by first | (simp; done) | (simp; omega))
    have hs := kH1.sl hs (fun b e => by have := fs0 b e; first | (simp; done) | (simp; omega))
    have c2 : Cl H1 (H0.next + 2) [iv (x 0), iv (x 1), iv (x 2), iv (x 3), iv (x 4)] := sH1
    refine wN_st (b := (H0.next + 3)) (o := 0) rfl rfl c3 (by omega) rfl rfl (by simp) ?_
    intro H2 kH2 nH2 sH2
    have mH2 := kH2.1
    have hk := hk.new kH2 (fun b hb => .inl (by first | (simp at hb; done) | (simp at hb; simp [hb])))
    have c6 := kH2.cl c6 (by first | (simp; done) | (simp; omega))
    have rL := kH2.rd rL (by first | (simp; done) | (simp; omega))
    have hs := kH2.sl hs (fun b e => by have := fs0 b e; first | (simp; done) | (simp; omega))
    have c2 := kH2.cl c2 (by first | (simp; done) | (simp; omega))
    have c3 : Cl H2 (H0.next + 3) [.bool true] := sH2
    refine wN_end ?_
    exact fin _ (some x) hk c2 c3 rfl (fun z e i => by cases e; exact hx i)
  | some y =>
    have c2 : Cl H3 (H0.next + 2) (bc y) := c2
    have hy := hab y rfl
    have c3 : Cl H3 (H0.next + 3) [.bool true] := c3
    refine wD_seq ?_
    refine wD_ld (b := (H0.next + 3)) (o := 0) (v := .bool true) rfl c3.rd rfl ?_
    refine wD_pur (v := .bool false) rfl rfl ?_
    refine wD_mov (v := .bool false) rfl ?_
    refine wD_g rfl (wD_lda (b := H.next) (o := 0) rfl c6.rd (show row 5 _ _ = some [iv (x 0), iv (x 1), iv (x 2), iv (x 3), iv (x 4)] from rfl) ?_)
    refine wD_g rfl (wD_ld (b := H0.next) (o := 0) (v := .slice sa us.length cap) rfl rL rfl ?_)
    obtain ⟨H1, fH1, kH1⟩ := cost_ok (kn := kn) (lo := H3.next) (H := H3) (b := x) hs rfl hx hok hn (by omega)
    refine wD_g rfl (wD_callh (vs := [.agg (bc x).toArray, .slice sa us.length cap]) rfl rfl (callX_args fH1) ?_)
    have mH1 := kH1.1
    have hk := hk.new kH1 (fun b hb => .inl (by first | (simp at hb; done) | (simp at hb; simp [hb])))
    have c2 := kH1.cl c2 (by simp)
    have c3 := kH1.cl c3 (by simp)
    have c6 := kH1.cl c6 (by simp)
    have rL := kH1.rd rL (by simp)
    have hs := kH1.sl0 hs
    refine wD_g rfl (wD_lda (b := (H0.next + 2)) (o := 0) rfl c2.rd (show row 5 _ _ = some [iv (y 0), iv (y 1), iv (y 2), iv (y 3), iv (y 4)] from rfl) ?_)
    refine wD_g rfl (wD_ld (b := H0.next) (o := 0) (v := .slice sa us.length cap) rfl rL rfl ?_)
    obtain ⟨H2, fH2, kH2⟩ := cost_ok (kn := kn) (lo := lo) (H := H1) (b := y) hs rfl hy hok hn (by omega)
    refine wD_g rfl (wD_callf (vs := [.agg (bc y).toArray, .slice sa us.length cap]) rfl (callX_args fH2) ?_)
    have mH2 := kH2.1
    have hk := hk.new kH2 (fun b hb => .inl (by first | (simp at hb; done) | (simp at hb; simp [hb])))
    have c2 := kH2.cl c2 (by simp)
    have c3 := kH2.cl c3 (by simp)
    have c6 := kH2.cl c6 (by simp)
    have rL := kH2.rd rL (by simp)
    have hs := kH2.sl0 hs
    refine wD_g rfl (wD_b_lss (a := (cosB us x)) (b := (cosB us y)) rfl rfl ?_)
    intro t1 g1; cases t1
    · have g1 : ¬ ((cosB us x) < (cosB us y)) := of_decide_eq_false g1
      refine wD_pur (v := .bool false) rfl rfl ?_
      refine wD_end (by repeat' first | exact True.intro | exact (fun h => h) | refine And.intro ?_ ?_ | (intro h; have h : (_ : Nat) = _ := h; omega)) ?_
      refine condF ?_
      first | refine wN_skip ?_ | skip
      exact fin _ (some y) hk c2 c3 (by unfold pickB; simp only; rw [if_neg (by omega)]) (fun z e i => by cases e; exact hy i)
    · have g1 : (cosB us x) < (cosB us y) := of_decide_eq_true g1
      refine wD_pur (v := .bool true) rfl rfl ?_
      refine wD_end (by repeat' first | exact True.intro | exact (fun h => h) | refine And.intro ?_ ?_ | (intro h; have h : (_ : Nat) = _ := h; omega)) ?_
      refine condT ?_
      first | refine wN_reg ?_ | refine wN_blk ?_ | refine wN_bseq ?_ | (refine wOps_nil ?_; refine wN_reg ?_)
      refine wN_lda (b := H.next) (o := 0) rfl c6.rd (show row 5 _ _ = some [iv (x 0), iv (x 1), iv (x 2), iv (x 3), iv (x 4)] from rfl) ?_
      refine wN_sta (b := (H0.next + 2)) (o := 0) rfl rfl c2 (by omega) rfl rfl (by simp) ?_
      intro H3 kH3 nH3 sH3
      have mH3 := kH3.1
      have hk := hk.new kH3 (fun b hb => .inl (by first | (simp at hb; done) | (simp at hb; simp [hb])))
      have c3 := kH3.cl c3 (by first | (simp; done) | (simp; omega))
      have c6 := kH3.cl c6 (by first | (simp; done) | (simp; omega))
      have rL := kH3.rd rL (by first | (simp; done) | (simp; omega))
      have hs := kH3.sl hs (fun b e => by have := fs0 b e; first | (simp; done) | (simp; omega))
      have c2 : Cl H3 (H0.next + 2) [iv (x 0), iv (x 1), iv (x 2), iv (x 3), iv (x 4)] := sH3
      refine wN_st (b := (H0.next + 3)) (o := 0) rfl rfl c3 (by omega) rfl rfl (by simp) ?_
      intro H4 kH4 nH4 sH4
      have mH4 := kH4.1
      have hk := hk.new kH4 (fun b hb => .inl (by first | (simp at hb; done) | (simp at hb; simp [hb])))
      have c6 := kH4.cl c6 (by first | (simp; done) | (simp; omega))
      have rL := kH4.rd rL (by first | (simp; done) | (simp; omega))
      have hs := kH4.sl hs (fun b e => by have := fs0 b e; first | (simp; done) | (simp; omega))
      have c2 := kH4.cl c2 (by first | (simp; done) | (simp; omega))
      have c3 : Cl H4 (H0.next + 3) [.bool true] := sH4
      refine wN_end ?_
      exact fin _ (some x) hk c2 c3 (by unfold pickB; simp only; rw [if_pos (by omega)]) (fun z e i => by cases e; exact hx i)
set_option maxRecDepth 100000 in
/-- cheapest -/
theorem cheap_ok {us : List Tn} {r : Rc} {sa : Option Addr} {cap : Nat} (hs : Sl H sa us.length cap (tnc us)) (hf : ∀ b, sa = some ⟨b, 0, none⟩ → Ft H b (tnc us)) (hn : us.length ≤ 5) (hok : us.all Tn.ok = true) (hr : r.ok = true) (hlo : lo ≤ H.next) :
    ∃ H', FnX Try.prog kn lo 53 [.slice sa us.length cap, .agg (Rc.f r).toArray] H (.tuple #[.agg (bc ((bestB us r).getD bz)).toArray, .bool (bestB us r).isSome]) H' ∧ Keep H H' [] := by
  have key := fnX_lowR (kn := kn) (lo := lo) (H := H) (args := [.slice sa us.length cap, .agg (Rc.f r).toArray]) (Q := fun w H' => w = .tuple #[.agg (bc ((bestB us r).getD bz)).toArray, .bool (bestB us r).isSome] ∧ Keep H H' []) Try.func53 B53 N53 Z53 L53 (by simp) ?_
  · obtain ⟨w, H', h, rfl, q⟩ := key; exact ⟨H', h, q⟩
  intro y hy
  refine TriR.lowR hy ?_
  refine wN_reg ?_
  refine wN_box (v := .slice sa us.length cap) rfl ?_
  intro H1 k1 n1 c1
  have c1 : Cl H1 H.next [.slice sa us.length cap] := c1
  refine wN_box (v := .agg (Rc.f r).toArray) rfl ?_
  intro H2 k2 n2 c2
  have c2 : Cl H2 H1.next (Rc.f r) := c2
  refine wN_alc ?_
  intro H3 k3 n3 c3
  have c3 : Cl H3 H2.next (bc bz) := c3
  refine wN_alc ?_
  intro H4 k4 n4 c4
  have c4 : Cl H4 H3.next [.bool false] := c4
  refine wN_end ?_
  intro y hy
  refine TriR.lowL hy ?_
  intro z hz
  refine TriR.lowR hz ?_
  refine wN_reg ?_
  have k24 := k3.trans k4
  have k14 := k2.trans k24
  have k04 := k1.trans k14
  refine wN_ld (b := H.next) (o := 0) (v := .slice sa us.length cap) rfl (k14.cl c1 (by simp)).rd rfl ?_
  refine wN_lda (b := H1.next) (o := 0) rfl (k24.cl c2 (by simp)).rd (show row 7 (Rc.f r) 0 = some (Rc.f r) from rfl) ?_
  have e4 : H4.next = H.next + 4 := by omega
  obtain ⟨H5, f5, g1, g2, n5, k5⟩ := blends75_ok (kn := kn) (lo := lo) (H := H4) (sa := sa) (n := us.length) (cap := cap) (r := r) (by omega)
  refine wN_callf (vs := [.slice sa us.length cap, .agg (Rc.f r).toArray]) rfl (callX_args f5) ?_
  refine wN_end ?_
  intro y hy
  refine TriR.lowB hy ?_
  rw [E53_1]
  refine TriR.range rfl ?_
  intro H7 k7 n7 hdf hlp
  have e5 : H5.next = H.next + 6 := by omega
  have hlp : Lp Try.prog H7 (H5.next + 1) .ready none 25 [(2, pt H.next), (4, pt H2.next), (5, pt H3.next)] [10] asg53 body53 H5.next := hlp.weak ⟨rfl, rfl, rfl, trivial⟩
  rw [show H2.next = H.next + 2 by omega, show H3.next = H.next + 3 by omega, e5] at hlp
  rw [e5] at hdf n7
  have k47 : Keep H4 H7 [] := k5.trans k7
  have k07 : Keep H H7 [] := k04.trans k47
  have d1 := (k14.trans k47).cl c1 (by simp)
  have d3 := (k4.trans k47).cl c3 (by simp)
  have d4 := k47.cl c4 (by simp)
  rw [show H2.next = H.next + 2 by omega] at d3
  rw [show H3.next = H.next + 3 by omega] at d4
  rw [e4] at g1 g2
  have j0 : J53 us r sa cap H (allB us r) H7 := ⟨⟨none, rfl, d3, d4, fun x e => by cases e⟩, d1.rd, k7.rd g1 (by simp), k7.rd g2 (by simp), hlp, hdf, by omega, k07⟩
  obtain ⟨H8, f8, j8⟩ := iter100_ok (kn := kn) (lo := lo) (H := H7) (J := J53 us r sa cap H) (base := H.next + 8) (Wy := [H.next + 2, H.next + 3, H.next + 7]) (r := r) (l := H.next + 7) (bL := H.next + 4) (bR := H.next + 5) (sa := sa) (cap := cap) (us := us) hn hok hr (by omega) (fun x hx => by simp at hx; omega)
    (fun s H1 H2 W j k hw => j.keep k hw) (fun s H1 j => ⟨j.r4, j.r5, j.kp.sl0 hs, fun b e => j.kp.ft (hf b e) (by simp)⟩)
    (fun x s H1 hx hrt j hb => round53 hs hn hok hlo hx hrt j hb)
    (fun x s H1 hrf j => by
      obtain ⟨a, e, q⟩ := j.acc
      rw [bstB_skip hrf] at e
      exact { j with acc := ⟨a, e, q⟩ }) (by omega) j0
  refine Exists.intro _ (Exists.intro H8 (And.intro (callX_func rfl (by rw [e4, e5]; simpa using f8)) ?_))
  have lp8 : Lp Try.prog H8 (H5.next + 1) .ready none 25 (S53 H.next) [10] asg53 body53 H5.next := by rw [e5]; exact j8.lp
  refine ⟨.ready, none, _, lp8, by simp, ?_⟩
  intro H9 s9
  have k9 := s9.keep
  have hn9 : H9.next = H8.next := s9.1
  rw [e5] at k9
  have ll := j8.ll
  have nl : ∀ x, x ≠ H.next + 7 → x ∉ [H.next + 6 + 1] := fun x hx => by simp; omega
  have d9 : H9.t.get H5.next = some (.dfr (some [])) := by rw [e5, k9.2 _ (by omega) (nl _ (by omega))]; exact j8.dfr
  obtain ⟨a, ea, fd, fo, hab⟩ := j8.acc
  have ea : a = bestB us r := ea
  have fd := k9.cl fd (nl _ (by omega))
  have fo := k9.cl fo (nl _ (by omega))
  have kp9 : Keep H H9 [] := j8.kp.new k9 (fun b q => .inr (by simp at q; omega))
  rw [← ea]
  have e2 : H2.next = H.next + 2 := by omega
  have e3 : H3.next = H.next + 3 := by omega
  rw [← e2] at fd
  rw [← e3] at fo
  refine wD_seq ?_
  refine wD_lda (b := H2.next) (o := 0) (q := bc (a.getD bz)) rfl fd.rd rfl ?_
  refine wD_ld (b := H3.next) (o := 0) (v := .bool a.isSome) rfl fo.rd rfl ?_
  refine wD_sta (b := H2.next) (o := 0) (v := .agg (bc (a.getD bz)).toArray) rfl rfl fd (by omega) rfl rfl (by simp) ?_
  intro H10 k10 n10 c10
  have c10 : Cl H10 H2.next (bc (a.getD bz)) := c10
  have fo := k10.cl fo (by simp; omega)
  refine wD_st (b := H3.next) (o := 0) (v := .bool a.isSome) rfl rfl fo (by omega) rfl rfl (by simp) ?_
  intro H11 k11 n11 c11
  have c11 : Cl H11 H3.next [.bool a.isSome] := c11
  have c10 := k11.cl c10 (by simp; omega)
  refine wD_end (by repeat' first | exact True.intro | exact (fun h => h) | refine And.intro ?_ ?_ | (intro h; have h : (_ : Nat) = _ := h; omega)) ?_
  have kpA : Keep H H11 [] := (kp9.new k10 (fun b q => .inr (by simp at q; omega))).new k11 (fun b q => .inr (by simp at q; omega))
  refine And.intro trivial (Or.inr ⟨H5.next, rfl, by omega, by rw [k11.2 _ (by omega) (by simp; omega), k10.2 _ (by omega) (by simp; omega)]; exact d9, fun H12 hn12 hk12 => ?_⟩)
  exact ⟨_, res_cab (x := H2.next) (y := H3.next) rfl rfl a89 isb4 i89s rfl (hk12.cl c10 (by simp; omega)) (hk12.cl c11 (by simp; omega)), rfl, kpA.new hk12 (fun b q => .inr (by simp at q; omega))⟩
end
end Go.Ax

/-
  Plant: an hour, step by step; append that leaves all but its own block (written by program).
-/
namespace Go.Ax
open Go Go.RowKit

section
variable {L : Nat → Nat} {rd left dn ms : Nat → Int} {h R : Int} {n k t : Nat}
variable {du : Nat → Int}
end
end Go.Ax

/-
  Plant: the program's freezer: Frozen (written by program).
-/
namespace Go.Ax
open Go Go.RowKit Go.Proofs

section
variable {kn : FuncId → Option Bool} {lo : Nat} {H : Hp}
end
end Go.Ax

/-
  Plant: Blend; the document's Tanks, Recipe, Right (written by program).
-/
namespace Go.Ax
open Go Go.RowKit Go.Proofs

def sp3 (s t a c : Int) : Bool := decide (a ≤ s) && decide (s ≤ t) && decide (t ≤ c)
theorem sp3_mix (s u a c : Int) : sp3 s s (u * a) (u * c) = mixB s u a c := by unfold sp3 mixB; rw [decide_eq_true (show s ≤ s from Int.le_refl _), Bool.and_true]
def blE (us : List Tn) (r : Rc) : Int := if us.length > 5 then 3 else if (us.all Tn.ok && r.ok) = true then (if (bestB us r).isSome = true then 0 else 4) else 1
def blB (us : List Tn) (r : Rc) : Bl := (bestB us r).getD bz
def blN (us : List Tn) (r : Rc) : Nat := if blE us r = 0 then us.length else 0
def blC (us : List Tn) (r : Rc) : Int := if blE us r = 0 then cosB us (blB us r) else 0
theorem mulR {a b : Int} (h0 : 0 ≤ a) (h1 : a ≤ 2000000) (h2 : 0 ≤ b) (h3 : b ≤ 1000) : -9223372036854775808 ≤ a * b ∧ a * b < 9223372036854775808 := by
  have := Int.mul_nonneg h0 h2
  have := Int.mul_le_mul h1 h3 h2 (by decide)
  omega
theorem in3s : ∃ i, Try.prog.info? 3 = some i ∧ i.size = 1 := by
  have h : (Try.prog.info? 3).map (fun i => Nat.beq i.size 1) = some true := by kernel_rfl
  cases e : Try.prog.info? 3 with
  | none => rw [e] at h; cases h
  | some i => rw [e] at h; exact ⟨i, rfl, by simpa using h⟩
theorem u89 : Try.prog.underlying 89 = some (.array 5 3) := by kernel_rfl
theorem bc_take {b : Bl} {n : Nat} (h : n ≤ 5) : (bc b).take n = nf b n := by
  match n, h with
  | 0, _ => rfl
  | 1, _ => rfl
  | 2, _ => rfl
  | 3, _ => rfl
  | 4, _ => rfl
  | 5, _ => rfl
  | n + 6, h => exact absurd h (by omega)
theorem wN_boxS {P : Program} {kn : FuncId → Option Bool} {lo n : Nat} {r : List RO} {S : Rg} {H : Hp} {K : Rg → Hp → Prop} {d : Option Nat} {x : Operand} {e : TypeId} {v : Value} (hx : evS S x = some v) (h : ∀ H1, Keep H H1 [] → H1.next = H.next + 1 → Sc H1 H.next v.cells.toList → wOps P kn lo n r (putS S d (.pointer (some ⟨H.next, 0, none⟩))) H1 K) : wOps P kn lo n (⟨d, none, .box e x⟩ :: r) S H K := by
  simp only [wOps, wRO, wRI, hx]
  intro H1 hH1
  obtain ⟨k1, n1, _⟩ := new_facts hH1
  exact h H1 k1 n1 (new_sc hH1)
theorem heap_arr5 {lo n : Nat} {S : Rg} {H : Hp} {d : Option Tmp} {ty : TypeId} {x y : Operand} {p : String} {b k : Nat} {c : Bl} (h0 : Sc H b (bc c)) (hk : k ≤ 5) (hx : evS S x = some (pt b)) (hy : evS S y = some (iv (k : Int))) :
    heapOp Try.prog lo (frS n S) H ⟨d, .slice 89 x none (some y) none, ty, p, #[], none⟩ = some (.val (.slice (some ⟨b, 0, none⟩) k 5) H, .read b) := by
  obtain ⟨i, hi, hs⟩ := in3s
  obtain ⟨_, e, h2⟩ := h0
  have b0 : boundOf (frS n S) 5 (some y) = some k := by unfold boundOf; simp only [ev_frS, hy]
  have b1 : boundOf (frS n S) 0 none = some 0 := rfl
  unfold heapOp
  simp only [ev_frS, hx, u89, hi, b0, b1, h2, hs, add_none, Nat.mul_one, Nat.add_zero, Nat.ble_eq_true_of_le hk, Nat.ble_eq_true_of_le (Nat.zero_le k), Bool.and_self, cond_true]
  rfl
theorem heap_app5 {lo n : Nat} {S : Rg} {H : Hp} {d : Option Tmp} {ty : TypeId} {x y : Operand} {p : String} {b k : Nat} {c : Bl} (h0 : Cl H b (bc c)) (hk0 : 0 < k) (hk : k ≤ 5) (hx : evS S x = some (.slice none 0 0)) (hy : evS S y = some (.slice (some ⟨b, 0, none⟩) k 5)) :
    heapOp Try.prog lo (frS n S) H ⟨d, .call ⟨.builtin .append, #[x, y], #[42, 42]⟩, ty, p, #[], none⟩ = some (.val (.slice (some ⟨H.next, 0, none⟩) k k) (H.new (.cells (nf c k) 3 true)), .heavy) := by
  have hm : row (k * 1) (bc c) 0 = some (nf c k) := by
    rw [← bc_take hk]
    unfold row
    simp only [List.drop_zero, Nat.mul_one, beq_eq, List.length_take, List.length_cons, List.length_nil, Nat.zero_add, Nat.reduceAdd, Nat.min_eq_left hk, decide_true, cond_true]
  have hsr : srcCells H 1 (.slice (some ⟨b, 0, none⟩) k 5) = some (k, nf c k) := by simp only [srcCells, h0.rd.of, hm]
  have h1 : Nat.beq k 0 = false := by rw [beq_eq]; simp; omega
  unfold heapOp
  simp only [evs, ev_frS, hx, hy, builtinV, List.getElem?_toArray, List.getElem?_cons_zero, List.getElem?_cons_succ, se42, u42, hsr, appendV, h1, Nat.ble_eq_true_of_le (show k ≤ 1048576 by omega), Nat.beq_refl, Bool.and_true, cond_true, cond_false]
  rfl
theorem heap_app0 {lo n : Nat} {S : Rg} {H : Hp} {d : Option Tmp} {ty : TypeId} {x y : Operand} {p : String} {b : Nat} {c : Bl} (h0 : Cl H b (bc c)) (hx : evS S x = some (.slice none 0 0)) (hy : evS S y = some (.slice (some ⟨b, 0, none⟩) 0 5)) :
    heapOp Try.prog lo (frS n S) H ⟨d, .call ⟨.builtin .append, #[x, y], #[42, 42]⟩, ty, p, #[], none⟩ = some (.val (.slice none 0 0) H, .pure) := by
  have hm : row (0 * 1) (bc c) 0 = some [] := rfl
  have hsr : srcCells H 1 (.slice (some ⟨b, 0, none⟩) 0 5) = some (0, []) := by simp only [srcCells, h0.rd.of, hm]
  unfold heapOp
  simp only [evs, ev_frS, hx, hy, builtinV, List.getElem?_toArray, List.getElem?_cons_zero, List.getElem?_cons_succ, se42, u42, hsr, appendV, Nat.beq_refl, Bool.and_true, cond_true, cond_false]
  rfl
theorem heap_list {lo : Nat} {H : Hp} {b k : Nat} {c : Bl} (h0 : Cl H b (bc c)) (hk : k ≤ 5) : ∃ a c' H1 kd, (∀ (n : Nat) (S : Rg) (d : Option Tmp) (x y : Operand) (ty : TypeId) (p : String), evS S x = some (.slice none 0 0) → evS S y = some (.slice (some ⟨b, 0, none⟩) k 5) → heapOp Try.prog lo (frS n S) H ⟨d, .call ⟨.builtin .append, #[x, y], #[42, 42]⟩, ty, p, #[], none⟩ = some (.val (.slice a k c') H1, kd)) ∧ (∀ x, kd ≠ .read x) ∧ Keep H H1 [] ∧ Sl H1 a k c' (nf c k) := by
  rcases Nat.eq_zero_or_pos k with rfl | hp
  · exact ⟨none, 0, H, .pure, fun n S d x y ty p hx hy => heap_app0 h0 hx hy, (fun x e => by cases e), Keep.refl _ _, .inl ⟨.inl rfl, rfl, rfl, rfl⟩⟩
  · exact ⟨some ⟨H.next, 0, none⟩, k, _, .heavy, fun n S d x y ty p hx hy => heap_app5 h0 hp hk hx hy, (fun x e => by cases e), (new_facts rfl).1, .inr ⟨H.next, rfl, ⟨(new_facts rfl).2.2.1, by unfold cellsOf; rw [new_get rfl]⟩, Nat.le_refl _⟩⟩
section
variable {kn : FuncId → Option Bool} {lo : Nat} {H : Hp}
theorem list54_ok {b : Bl} {sa : Option Addr} {cap : Nat} {us : List Tn} (hn : us.length ≤ 5) (hlo : lo ≤ H.next) : ∃ a c H', FnX Try.prog kn lo 54 [.agg (bc b).toArray, .slice sa us.length cap] H (.slice a us.length c) H' ∧ Keep H H' [] ∧ Sl H' a us.length c (nf b us.length) := by
  have key := fnX_low (kn := kn) (lo := lo) (H := H) (args := [.agg (bc b).toArray, .slice sa us.length cap]) (Q := fun w H' => ∃ a c, w = .slice a us.length c ∧ Keep H H' [] ∧ Sl H' a us.length c (nf b us.length)) Try.func54 B54 N54 Z54 L54 (by simp) ?_
  · obtain ⟨w, H', h, a, c, rfl, q⟩ := key; exact ⟨a, c, H', h, q⟩
  have hk := Keep.refl H []
  refine wN_seq ?_
  refine wN_boxS (v := .agg (bc b).toArray) rfl ?_
  intro H1 k1 n1 cb
  have cb : Sc H1 H.next (bc b) := cb
  have mH1 := k1.1
  have hk := hk.trans k1
  refine wN_mov (v := .slice none 0 0) rfl ?_
  refine wN_end ?_
  refine wN_seq ?_
  refine wN_mov (v := .slice sa us.length cap) rfl ?_
  refine wN_len (m := us.length) rfl ?_
  refine wN_memh (k := .read H.next) rfl (by kernel_rfl) (heap_arr5 cb hn rfl rfl) (fun x e => by cases e; exact cb.lt) ?_
  obtain ⟨a, c, H2, kd, eH2, dH2, kH2, sl⟩ := heap_list (lo := lo) cb.cl hn
  refine wN_memh (k := kd) rfl (by kernel_rfl) (eH2 _ _ _ _ _ _ _ rfl rfl) (fun x e => absurd e (dH2 x)) ?_
  have mH2 := kH2.1
  have hk := hk.trans kH2
  refine wN_mov (v := .slice a us.length c) rfl ?_
  refine wN_end ?_
  exact And.intro trivial (Exists.intro _ (And.intro rfl ⟨a, c, rfl, hk, sl⟩))
theorem blB_in {us : List Tn} {r : Rc} (hA : us.all Tn.ok = true) (hr : 1 ≤ r.un) : ∀ i, 0 ≤ blB us r i ∧ blB us r i ≤ 12 := by
  have h := bestB_says (us := us) (r := r) (by omega)
  unfold blB
  cases e : bestB us r with
  | none => intro i; exact ⟨Int.le_refl _, (by decide : (0 : Int) ≤ 12)⟩
  | some b =>
    rw [e] at h
    intro i
    show 0 ≤ b i ∧ b i ≤ 12
    rcases Nat.lt_or_ge i us.length with q | q
    · have a := h.1.un i q
      have c := (Tn.ok_t (tn_at hA q)).1
      unfold unF at a
      omega
    · rw [h.1.z i q]; exact ⟨Int.le_refl _, by decide⟩
/-- Blend -/
theorem blend_ok {r : Rc} {sa : Option Addr} {cap : Nat} {us : List Tn} (hs : Sl H sa us.length cap (tnc us)) (hf : ∀ b, sa = some ⟨b, 0, none⟩ → Ft H b (tnc us)) (hn2 : us.length ≤ 1000000) (hlo : lo ≤ H.next) : ∃ a c H', FnX Try.prog kn lo 25 [.slice sa us.length cap, .agg (Rc.f r).toArray] H (.tuple #[.slice a (blN us r) c, iv (blC us r), iv (blE us r)]) H' ∧ Keep H H' [] ∧ Sl H' a (blN us r) c (nf (blB us r) (blN us r)) := by
  have key := fnX_low (kn := kn) (lo := lo) (H := H) (args := [.slice sa us.length cap, .agg (Rc.f r).toArray]) (Q := fun w H' => ∃ a c, w = .tuple #[.slice a (blN us r) c, iv (blC us r), iv (blE us r)] ∧ Keep H H' [] ∧ Sl H' a (blN us r) c (nf (blB us r) (blN us r))) Try.func25 B25 N25 Z25 L25 (by simp) ?_
  · obtain ⟨w, H', h, a, c, rfl, q⟩ := key; exact ⟨a, c, H', h, q⟩
  have hk := Keep.refl H []
  have fs := hs.old
  refine wN_seq ?_
  refine wN_box (v := .agg (Rc.f r).toArray) rfl ?_
  intro H1 kH1 nH1 c1
  have c1 : Cl H1 H.next [iv r.un, iv r.s1, iv r.s2, iv r.a1, iv r.a2, iv r.c1, iv r.c2] := c1
  have mH1 := kH1.1
  have hk := hk.trans kH1
  have hs := kH1.sl0 hs
  refine wN_mov (v := .slice none 0 0) rfl ?_
  refine wN_mov (v := iv 0) rfl ?_
  refine wN_mov (v := iv 0) rfl ?_
  refine wN_end ?_
  refine wN_seq ?_
  refine wN_mov (v := .slice sa us.length cap) rfl ?_
  refine wN_len (m := us.length) rfl ?_
  refine wN_c_gtr (a := (us.length : Int)) (b := 5) rfl rfl ?_
  refine wN_end ?_
  refine And.intro (fun q1 => ?_) (fun q1 => ?_)
  · have q1 : (us.length : Int) > 5 := of_decide_eq_true q1
    refine wN_seq ?_
    refine wN_mov (v := .slice none 0 0) rfl ?_
    refine wN_mov (v := iv 0) rfl ?_
    refine wN_mov (v := iv 3) rfl ?_
    refine wN_end ?_
    have e : blE us r = 3 := by unfold blE; rw [if_pos (by omega)]
    have e2 : blN us r = 0 := by unfold blN; rw [if_neg (by omega)]
    have e3 : blC us r = 0 := by unfold blC; rw [if_neg (by omega)]
    exact And.intro trivial (Exists.intro _ (And.intro rfl ⟨none, 0, by rw [e, e2, e3]; rfl, hk, by rw [e2]; exact .inl ⟨.inl rfl, rfl, rfl, rfl⟩⟩))
  · have q1 : ¬ ((us.length : Int) > 5) := of_decide_eq_false q1
    first | refine wN_skip ?_ | skip
    refine wN_seq ?_
    refine wN_mov (v := .slice sa us.length cap) rfl ?_
    obtain ⟨H2, fH2, kH2⟩ := vtanks_ok (kn := kn) (lo := lo) (H := H1) hs rfl (by omega) (by omega)
    rw [decide_eq_true (Nat.zero_le _), decide_eq_true (show us.length ≤ 5 by omega), Bool.true_and, Bool.true_and] at fH2
    have mH2 := kH2.1
    have hk := hk.trans kH2
    have hs := kH2.sl0 hs
    have c1 := kH2.cl c1 (by simp)
    cases hA : us.all Tn.ok
    · rw [hA] at fH2
      refine wN_callf (vs := [.slice sa us.length cap]) rfl (callX_args fH2) ?_
      refine wN_pur (v := .bool true) rfl rfl ?_
      refine wN_mov (v := .bool true) rfl ?_
      refine wN_gs rfl ?_
      refine wN_gs rfl ?_
      refine wN_gs rfl ?_
      refine wN_pur (v := .bool true) rfl rfl ?_
      refine wN_end ?_
      refine condT ?_
      refine wN_seq ?_
      refine wN_mov (v := .slice none 0 0) rfl ?_
      refine wN_mov (v := iv 0) rfl ?_
      refine wN_mov (v := iv 1) rfl ?_
      refine wN_end ?_
      have e : blE us r = 1 := by unfold blE; rw [if_neg (by omega), if_neg (by simp [hA]; try simp [hR])]
      have e2 : blN us r = 0 := by unfold blN; rw [if_neg (by omega)]
      have e3 : blC us r = 0 := by unfold blC; rw [if_neg (by omega)]
      exact And.intro trivial (Exists.intro _ (And.intro rfl ⟨none, 0, by rw [e, e2, e3]; rfl, hk, by rw [e2]; exact .inl ⟨.inl rfl, rfl, rfl, rfl⟩⟩))
    · rw [hA] at fH2
      refine wN_callf (vs := [.slice sa us.length cap]) rfl (callX_args fH2) ?_
      refine wN_pur (v := .bool false) rfl rfl ?_
      refine wN_mov (v := .bool false) rfl ?_
      refine wN_g rfl (wN_lda (b := H.next) (o := 0) rfl c1.rd (show row 7 _ _ = some [iv r.un, iv r.s1, iv r.s2, iv r.a1, iv r.a2, iv r.c1, iv r.c2] from rfl) ?_)
      obtain ⟨H3, fH3, kH3⟩ := vrecipe_ok (kn := kn) (lo := lo) (H := H2) (r := r) (by omega)
      have mH3 := kH3.1
      have hk := hk.trans kH3
      have hs := kH3.sl0 hs
      have c1 := kH3.cl c1 (by simp)
      cases hR : r.ok
      · rw [hR] at fH3
        refine wN_g rfl (wN_callf (vs := [.agg (Rc.f r).toArray]) rfl (callX_args fH3) ?_)
        refine wN_g rfl (wN_pur (v := .bool true) rfl rfl ?_)
        refine wN_pur (v := .bool true) rfl rfl ?_
        refine wN_end ?_
        refine condT ?_
        refine wN_seq ?_
        refine wN_mov (v := .slice none 0 0) rfl ?_
        refine wN_mov (v := iv 0) rfl ?_
        refine wN_mov (v := iv 1) rfl ?_
        refine wN_end ?_
        have e : blE us r = 1 := by unfold blE; rw [if_neg (by omega), if_neg (by simp [hA]; try simp [hR])]
        have e2 : blN us r = 0 := by unfold blN; rw [if_neg (by omega)]
        have e3 : blC us r = 0 := by unfold blC; rw [if_neg (by omega)]
        exact And.intro trivial (Exists.intro _ (And.intro rfl ⟨none, 0, by rw [e, e2, e3]; rfl, hk, by rw [e2]; exact .inl ⟨.inl rfl, rfl, rfl, rfl⟩⟩))
      · rw [hR] at fH3
        refine wN_g rfl (wN_callf (vs := [.agg (Rc.f r).toArray]) rfl (callX_args fH3) ?_)
        refine wN_g rfl (wN_pur (v := .bool false) rfl rfl ?_)
        refine wN_pur (v := .bool false) rfl rfl ?_
        refine wN_end ?_
        refine condF ?_
        first | refine wN_skip ?_ | skip
        refine wN_seq ?_
        refine wN_mov (v := .slice sa us.length cap) rfl ?_
        refine wN_lda (b := H.next) (o := 0) rfl c1.rd (show row 7 _ _ = some [iv r.un, iv r.s1, iv r.s2, iv r.a1, iv r.a2, iv r.c1, iv r.c2] from rfl) ?_
        obtain ⟨H4, fH4, kH4⟩ := cheap_ok (kn := kn) (lo := lo) (H := H3) (r := r) hs (fun b e => hk.ft (hf b e) (by simp)) (by omega) hA hR (by omega)
        have mH4 := kH4.1
        have hk := hk.trans kH4
        have hs := kH4.sl0 hs
        have c1 := kH4.cl c1 (by simp)
        have hbb : ∀ i, 0 ≤ blB us r i ∧ blB us r i ≤ 12 := blB_in hA (Rc.ok_t hR).1.1
        cases hB : (bestB us r).isSome
        · rw [hB] at fH4
          refine wN_callf (vs := [.slice sa us.length cap, .agg (Rc.f r).toArray]) rfl (callX_args fH4) ?_
          refine wN_mov (v := .tuple #[.agg (bc (blB us r)).toArray, .bool false]) rfl ?_
          refine wN_pur (v := .agg (bc (blB us r)).toArray) rfl (by kernel_rfl) ?_
          refine wN_pur (v := .bool false) rfl (by kernel_rfl) ?_
          refine wN_alc ?_
          intro H5 kH5 nH5 c5
          have c5 : Cl H5 H4.next [iv 0, iv 0, iv 0, iv 0, iv 0] := c5
          have mH5 := kH5.1
          have hk := hk.trans kH5
          have hs := kH5.sl0 hs
          have c1 := kH5.cl c1 (by simp)
          refine wN_sta (b := H4.next) (o := 0) rfl rfl c5 (by omega) rfl rfl (by simp) ?_
          intro H6 kH6 nH6 sH6
          have mH6 := kH6.1
          have hk := hk.new kH6 (fun b hb => by simp at hb ⊢; omega)
          have hs := kH6.sl hs (fun b e => by have := fs b e; first | (simp; done) | (simp; omega))
          have c1 := kH6.cl c1 (by first | (simp; done) | (simp; omega))
          have c5 : Cl H6 H4.next [iv ((blB us r) 0), iv ((blB us r) 1), iv ((blB us r) 2), iv ((blB us r) 3), iv ((blB us r) 4)] := sH6
          refine wN_mov (v := .bool false) rfl ?_
          refine wN_end ?_
          refine wN_seq ?_
          refine wN_mov (v := .bool false) rfl ?_
          refine wN_pur (v := .bool true) rfl rfl ?_
          refine wN_end ?_
          refine condT ?_
          refine wN_seq ?_
          refine wN_mov (v := .slice none 0 0) rfl ?_
          refine wN_mov (v := iv 0) rfl ?_
          refine wN_mov (v := iv 4) rfl ?_
          refine wN_end ?_
          have e : blE us r = 4 := by unfold blE; rw [if_neg (by omega), if_pos (by simp [hA, hR]), if_neg (by simp [hB])]
          have e2 : blN us r = 0 := by unfold blN; rw [if_neg (by omega)]
          have e3 : blC us r = 0 := by unfold blC; rw [if_neg (by omega)]
          exact And.intro trivial (Exists.intro _ (And.intro rfl ⟨none, 0, by rw [e, e2, e3]; rfl, hk, by rw [e2]; exact .inl ⟨.inl rfl, rfl, rfl, rfl⟩⟩))
        · rw [hB] at fH4
          refine wN_callf (vs := [.slice sa us.length cap, .agg (Rc.f r).toArray]) rfl (callX_args fH4) ?_
          refine wN_mov (v := .tuple #[.agg (bc (blB us r)).toArray, .bool true]) rfl ?_
          refine wN_pur (v := .agg (bc (blB us r)).toArray) rfl (by kernel_rfl) ?_
          refine wN_pur (v := .bool true) rfl (by kernel_rfl) ?_
          refine wN_alc ?_
          intro H7 kH7 nH7 c7
          have c7 : Cl H7 H4.next [iv 0, iv 0, iv 0, iv 0, iv 0] := c7
          have mH7 := kH7.1
          have hk := hk.trans kH7
          have hs := kH7.sl0 hs
          have c1 := kH7.cl c1 (by simp)
          refine wN_sta (b := H4.next) (o := 0) rfl rfl c7 (by omega) rfl rfl (by simp) ?_
          intro H8 kH8 nH8 sH8
          have mH8 := kH8.1
          have hk := hk.new kH8 (fun b hb => by simp at hb ⊢; omega)
          have hs := kH8.sl hs (fun b e => by have := fs b e; first | (simp; done) | (simp; omega))
          have c1 := kH8.cl c1 (by first | (simp; done) | (simp; omega))
          have c7 : Cl H8 H4.next [iv ((blB us r) 0), iv ((blB us r) 1), iv ((blB us r) 2), iv ((blB us r) 3), iv ((blB us r) 4)] := sH8
          refine wN_mov (v := .bool true) rfl ?_
          refine wN_end ?_
          refine wN_seq ?_
          refine wN_mov (v := .bool true) rfl ?_
          refine wN_pur (v := .bool false) rfl rfl ?_
          refine wN_end ?_
          refine condF ?_
          first | refine wN_skip ?_ | skip
          refine wD_seq ?_
          refine wD_lda (b := H4.next) (o := 0) rfl c7.rd (show row 5 _ _ = some [iv ((blB us r) 0), iv ((blB us r) 1), iv ((blB us r) 2), iv ((blB us r) 3), iv ((blB us r) 4)] from rfl) ?_
          refine wD_mov (v := .slice sa us.length cap) rfl ?_
          obtain ⟨a, c, H9, fH9, kH9, sl⟩ := list54_ok (kn := kn) (lo := H8.next) (H := H8) (b := blB us r) (sa := sa) (cap := cap) (us := us) (by omega) (by omega)
          refine wD_callh (vs := [.agg (bc (blB us r)).toArray, .slice sa us.length cap]) rfl rfl (callX_args fH9) ?_
          have mH9 := kH9.1
          have hk := hk.trans kH9
          have hs := kH9.sl0 hs
          have c1 := kH9.cl c1 (by simp)
          have c7 := kH9.cl c7 (by simp)
          refine wD_lda (b := H4.next) (o := 0) rfl c7.rd (show row 5 _ _ = some [iv ((blB us r) 0), iv ((blB us r) 1), iv ((blB us r) 2), iv ((blB us r) 3), iv ((blB us r) 4)] from rfl) ?_
          refine wD_mov (v := .slice sa us.length cap) rfl ?_
          obtain ⟨H10, fH10, kH10⟩ := cost_ok (kn := kn) (lo := lo) (H := H9) (b := blB us r) hs rfl hbb hA (by omega) (by omega)
          refine wD_callf (vs := [.agg (bc (blB us r)).toArray, .slice sa us.length cap]) rfl (callX_args fH10) ?_
          have mH10 := kH10.1
          have hk := hk.trans kH10
          have hs := kH10.sl0 hs
          have c1 := kH10.cl c1 (by simp)
          have c7 := kH10.cl c7 (by simp)
          have sl := kH10.sl0 sl
          refine wD_mov (v := .slice a us.length c) rfl ?_
          refine wD_mov (v := iv (cosB us (blB us r))) rfl ?_
          refine wD_mov (v := iv 0) rfl ?_
          refine wD_end (by repeat' first | exact True.intro | exact (fun h => h) | refine And.intro ?_ ?_ | (intro h; have h : (_ : Nat) = _ := h; omega)) ?_
          have e : blE us r = 0 := by unfold blE; rw [if_neg (by omega), if_pos (by simp [hA, hR]), if_pos hB]
          have e2 : blN us r = us.length := by unfold blN; rw [if_pos e]
          have e3 : blC us r = cosB us (blB us r) := by unfold blC; rw [if_pos e]
          exact And.intro trivial (Exists.intro _ (And.intro rfl ⟨a, c, by rw [e, e2, e3]; rfl, hk, by rw [e2]; exact sl⟩))
theorem slow_ok {lim : Int} {sa : Option Addr} {cap : Nat} {us : List Tn} (hs : Sl H sa us.length cap (tnc us)) (h0 : 1 ≤ lim) (h9 : lim ≤ 1000000) (hlo : lo ≤ H.next) : ∃ t H', FnX Try.prog kn lo 24 [.slice sa us.length cap, iv lim] H (.bool t) H' ∧ Keep H H' [] ∧ (t = false → us.length ≤ 8) := by
  have key := fnX_low (kn := kn) (lo := lo) (H := H) (args := [.slice sa us.length cap, iv lim]) (Q := fun w H' => ∃ t, w = .bool t ∧ Keep H H' [] ∧ (t = false → us.length ≤ 8)) Try.func24 B24 N24 Z24 L24 (by simp) ?_
  · obtain ⟨w, H', h, t, rfl, q⟩ := key; exact ⟨t, H', h, q⟩
  have hk := Keep.refl H []
  have fs := hs.old
  refine wN_seq ?_
  refine wN_mov (v := .bool false) rfl ?_
  refine wN_end ?_
  refine wN_seq ?_
  refine wN_mov (v := iv 1) rfl ?_
  refine wN_end ?_
  refine wN_seq ?_
  refine wN_mov (v := iv 0) rfl ?_
  refine wN_end ?_
  refine loop_low (fn := Try.f24) E24_1 N24 L24x1 (fun x : Nat × Int => [(0, .slice sa us.length cap), (1, iv lim), (5, iv x.2), (6, iv (x.1 : Int))])
    (fun k x H' => x.1 + k = 8 ∧ 1 ≤ x.2 + 1 ∧ x.2 ≤ lim + 1 ∧ Keep H H' [] ∧ Sl H' sa us.length cap (tnc us)) 8 (0, 1) ⟨by omega, by decide, by omega, hk, hs⟩ ⟨rfl, rfl, rfl, rfl, trivial⟩ ?_
  rintro k ⟨i, q⟩ L1 ⟨hik, h1, h2, hk, hs⟩
  simp only at hik h1 h2 ⊢
  refine wN_seq ?_
  refine wN_mov (v := iv (i : Int)) rfl ?_
  refine wN_mov (v := .slice sa us.length cap) rfl ?_
  refine wN_len (m := us.length) rfl ?_
  refine wN_b_lss (a := (i : Int)) (b := (us.length : Int)) rfl rfl ?_
  intro t1 g1; cases t1
  · have g1 : ¬ ((i : Int) < (us.length : Int)) := of_decide_eq_false g1
    refine wN_mov (v := .bool false) rfl ?_
    refine wN_gs rfl ?_
    refine wN_gs rfl ?_
    refine wN_pur (v := .bool false) rfl rfl ?_
    refine wN_end ?_
    refine condF ?_
    first | (refine wN_exit ?_; show wC _ _ _ _ _ _ _ _ _) | skip
    refine wN_seq ?_
    refine wN_mov (v := iv q) rfl ?_
    refine wN_mov (v := iv lim) rfl ?_
    refine wN_b_gtr (a := q) (b := lim) rfl rfl ?_
    intro t2 g2; cases t2
    · have g2 : ¬ (q > lim) := of_decide_eq_false g2
      refine wN_mov (v := .bool false) rfl ?_
      refine wN_g rfl (wN_mov (v := .slice sa us.length cap) rfl ?_)
      refine wN_g rfl (wN_len (m := us.length) rfl ?_)
      refine wN_g rfl (wN_b_gtr (a := (us.length : Int)) (b := 8) rfl rfl ?_)
      intro t3 g3; cases t3
      · have g3 : ¬ ((us.length : Int) > 8) := of_decide_eq_false g3
        refine wN_pur (v := .bool false) rfl rfl ?_
        refine wN_mov (v := .bool false) rfl ?_
        refine wN_end ?_
        exact And.intro trivial (Exists.intro _ (And.intro rfl ⟨false, rfl, hk, fun e => by first | (cases e; done) | omega⟩))
      · have g3 : (us.length : Int) > 8 := of_decide_eq_true g3
        refine wN_pur (v := .bool true) rfl rfl ?_
        refine wN_mov (v := .bool true) rfl ?_
        refine wN_end ?_
        exact And.intro trivial (Exists.intro _ (And.intro rfl ⟨true, rfl, hk, fun e => by first | (cases e; done) | omega⟩))
    · have g2 : q > lim := of_decide_eq_true g2
      refine wN_mov (v := .bool true) rfl ?_
      refine wN_gs rfl ?_
      refine wN_gs rfl ?_
      refine wN_gs rfl ?_
      refine wN_pur (v := .bool true) rfl rfl ?_
      refine wN_mov (v := .bool true) rfl ?_
      refine wN_end ?_
      exact And.intro trivial (Exists.intro _ (And.intro rfl ⟨true, rfl, hk, fun e => by first | (cases e; done) | omega⟩))
  · have g1 : (i : Int) < (us.length : Int) := of_decide_eq_true g1
    refine wN_mov (v := .bool true) rfl ?_
    refine wN_g rfl (wN_mov (v := iv (i : Int)) rfl ?_)
    refine wN_g rfl (wN_b_lss (a := (i : Int)) (b := 8) rfl rfl ?_)
    intro t4 g4; cases t4
    · have g4 : ¬ ((i : Int) < 8) := of_decide_eq_false g4
      refine wN_pur (v := .bool false) rfl rfl ?_
      refine wN_end ?_
      refine condF ?_
      first | (refine wN_exit ?_; show wC _ _ _ _ _ _ _ _ _) | skip
      refine wN_seq ?_
      refine wN_mov (v := iv q) rfl ?_
      refine wN_mov (v := iv lim) rfl ?_
      refine wN_b_gtr (a := q) (b := lim) rfl rfl ?_
      intro t5 g5; cases t5
      · have g5 : ¬ (q > lim) := of_decide_eq_false g5
        refine wN_mov (v := .bool false) rfl ?_
        refine wN_g rfl (wN_mov (v := .slice sa us.length cap) rfl ?_)
        refine wN_g rfl (wN_len (m := us.length) rfl ?_)
        refine wN_g rfl (wN_b_gtr (a := (us.length : Int)) (b := 8) rfl rfl ?_)
        intro t6 g6; cases t6
        · have g6 : ¬ ((us.length : Int) > 8) := of_decide_eq_false g6
          refine wN_pur (v := .bool false) rfl rfl ?_
          refine wN_mov (v := .bool false) rfl ?_
          refine wN_end ?_
          exact And.intro trivial (Exists.intro _ (And.intro rfl ⟨false, rfl, hk, fun e => by first | (cases e; done) | omega⟩))
        · have g6 : (us.length : Int) > 8 := of_decide_eq_true g6
          refine wN_pur (v := .bool true) rfl rfl ?_
          refine wN_mov (v := .bool true) rfl ?_
          refine wN_end ?_
          exact And.intro trivial (Exists.intro _ (And.intro rfl ⟨true, rfl, hk, fun e => by first | (cases e; done) | omega⟩))
      · have g5 : q > lim := of_decide_eq_true g5
        refine wN_mov (v := .bool true) rfl ?_
        refine wN_gs rfl ?_
        refine wN_gs rfl ?_
        refine wN_gs rfl ?_
        refine wN_pur (v := .bool true) rfl rfl ?_
        refine wN_mov (v := .bool true) rfl ?_
        refine wN_end ?_
        exact And.intro trivial (Exists.intro _ (And.intro rfl ⟨true, rfl, hk, fun e => by first | (cases e; done) | omega⟩))
    · have g4 : (i : Int) < 8 := of_decide_eq_true g4
      refine wN_pur (v := .bool true) rfl rfl ?_
      refine wN_end ?_
      refine condT ?_
      rcases id hs with ⟨_, h0, _⟩ | ⟨sb, es, rs, _⟩
      · omega
      have lsb := rs.lt
      first | refine wN_skip ?_ | skip
      first | refine wN_reg ?_ | refine wN_blk ?_ | refine wN_bseq ?_ | (refine wOps_nil ?_; refine wN_reg ?_)
      refine wN_mov (v := iv q) rfl ?_
      refine wN_mov (v := .slice sa us.length cap) rfl ?_
      refine wN_mov (v := iv (i : Int)) rfl ?_
      refine wN_idx (b := sb) (o := 0) (k := i) (j := (i : Int)) (by rw [← es]; rfl) rfl rfl (by omega) ?_
      refine wN_addo (b := sb) (o := 0 + i * 5) rfl ?_
      refine wN_ld (b := sb) (o := 0 + i * 5) (v := iv ((us.getD i Tn.z).un)) rfl rs (tnc_atF (j := 0) (by omega) rfl) ?_
      refine wN_mm (a := (us.getD i Tn.z).un) (b := 20) rfl rfl ?_
      refine wN_mm (a := 0) (b := min ((us.getD i Tn.z).un) 20) rfl rfl ?_
      refine wN_add (a := 1) (b := max 0 (min ((us.getD i Tn.z).un) 20)) rfl rfl ⟨by omega, by omega⟩ ?_
      refine wN_mul (a := q) (b := 1 + (max 0 (min ((us.getD i Tn.z).un) 20))) rfl rfl (mulR (by omega) (by omega) (by omega) (by omega)) ?_
      have hp0 : 0 ≤ q * (1 + (max 0 (min ((us.getD i Tn.z).un) 20))) := Int.mul_nonneg (by omega) (by omega)
      refine wN_mov (v := iv lim) rfl ?_
      refine wN_add (a := lim) (b := 1) rfl rfl ⟨by omega, by omega⟩ ?_
      refine wN_mm (a := q * (1 + (max 0 (min ((us.getD i Tn.z).un) 20)))) (b := lim + 1) rfl rfl ?_
      refine wN_mov (v := iv (min (q * (1 + (max 0 (min ((us.getD i Tn.z).un) 20)))) (lim + 1))) rfl ?_
      refine wN_end ?_
      first | refine wN_reg ?_ | refine wN_blk ?_ | refine wN_bseq ?_ | (refine wOps_nil ?_; refine wN_reg ?_)
      refine wN_mov (v := iv (i : Int)) rfl ?_
      refine wN_add (a := (i : Int)) (b := 1) rfl rfl ⟨by omega, by omega⟩ ?_
      refine wN_mov (v := iv ((i : Int) + 1)) rfl ?_
      refine wN_end ?_
      exact ⟨k - 1, (i + 1, min (q * (1 + (max 0 (min ((us.getD i Tn.z).un) 20)))) (lim + 1)), by omega, ⟨by simp only; omega, by simp only; omega, by simp only; omega, hk, hs⟩, rfl, rfl, rfl, rfl, trivial⟩
/-- isSpan -/
theorem sp62_ok {s t a c : Int} (hlo : lo ≤ H.next) : ∃ H', FnX Try.prog kn lo 62 [.agg #[iv s, iv t], iv a, iv c] H (.bool (sp3 s t a c)) H' ∧ Keep H H' [] := by
  have key := fnX_low (kn := kn) (lo := lo) (H := H) (args := [.agg #[iv s, iv t], iv a, iv c]) (Q := fun w H' => w = .bool (sp3 s t a c) ∧ Keep H H' []) Try.func62 B62 N62 Z62 L62 (by simp) ?_
  · obtain ⟨w, H', h, rfl, q⟩ := key; exact ⟨H', h, q⟩
  have hk := Keep.refl H []
  refine wN_seq ?_
  refine wN_box (v := .agg #[iv s, iv t]) rfl ?_
  intro H1 kH1 nH1 c1
  have c1 : Cl H1 H.next [iv s, iv t] := c1
  have mH1 := kH1.1
  have hk := hk.trans kH1
  refine wN_mov (v := .bool false) rfl ?_
  refine wN_end ?_
  refine wN_seq ?_
  refine wN_mov (v := iv a) rfl ?_
  refine wN_addo (b := H.next) (o := 0) rfl ?_
  refine wN_ld (b := H.next) (o := 0) (v := iv s) rfl c1.rd rfl ?_
  refine wN_b_leq (a := a) (b := s) rfl rfl ?_
  intro t1 g1; cases t1
  · have g1 : ¬ (a ≤ s) := of_decide_eq_false g1
    refine wN_mov (v := .bool false) rfl ?_
    refine wN_gs rfl ?_
    refine wN_gs rfl ?_
    refine wN_gs rfl ?_
    refine wN_gs rfl ?_
    refine wN_gs rfl ?_
    refine wN_pur (v := .bool false) rfl rfl ?_
    refine wN_mov (v := .bool false) rfl ?_
    refine wN_gs rfl ?_
    refine wN_gs rfl ?_
    refine wN_gs rfl ?_
    refine wN_gs rfl ?_
    refine wN_pur (v := .bool false) rfl rfl ?_
    refine wN_mov (v := .bool false) rfl ?_
    refine wN_end ?_
    exact And.intro trivial (Exists.intro _ (And.intro rfl ⟨congrArg Value.bool (show false = (sp3 s t a c) from (by symm; first | (simp only [sp3, Bool.and_eq_true, Bool.and_eq_false_iff, Bool.or_eq_true, Bool.or_eq_false_iff, Bool.not_eq_true', Bool.not_eq_false', decide_eq_true_eq, decide_eq_false_iff_not]; omega) | (simp [sp3] <;> omega))), hk⟩))
  · have g1 : a ≤ s := of_decide_eq_true g1
    refine wN_mov (v := .bool true) rfl ?_
    refine wN_g rfl (wN_addo (b := H.next) (o := 0) rfl ?_)
    refine wN_g rfl (wN_ld (b := H.next) (o := 0) (v := iv s) rfl c1.rd rfl ?_)
    refine wN_g rfl (wN_addo (b := H.next) (o := 0) rfl ?_)
    refine wN_g rfl (wN_ld (b := H.next) (o := 1) (v := iv t) rfl c1.rd rfl ?_)
    refine wN_g rfl (wN_b_leq (a := s) (b := t) rfl rfl ?_)
    intro t2 g2; cases t2
    · have g2 : ¬ (s ≤ t) := of_decide_eq_false g2
      refine wN_pur (v := .bool false) rfl rfl ?_
      refine wN_mov (v := .bool false) rfl ?_
      refine wN_gs rfl ?_
      refine wN_gs rfl ?_
      refine wN_gs rfl ?_
      refine wN_gs rfl ?_
      refine wN_pur (v := .bool false) rfl rfl ?_
      refine wN_mov (v := .bool false) rfl ?_
      refine wN_end ?_
      exact And.intro trivial (Exists.intro _ (And.intro rfl ⟨congrArg Value.bool (show false = (sp3 s t a c) from (by symm; first | (simp only [sp3, Bool.and_eq_true, Bool.and_eq_false_iff, Bool.or_eq_true, Bool.or_eq_false_iff, Bool.not_eq_true', Bool.not_eq_false', decide_eq_true_eq, decide_eq_false_iff_not]; omega) | (simp [sp3] <;> omega))), hk⟩))
    · have g2 : s ≤ t := of_decide_eq_true g2
      refine wN_pur (v := .bool true) rfl rfl ?_
      refine wN_mov (v := .bool true) rfl ?_
      refine wN_g rfl (wN_addo (b := H.next) (o := 0) rfl ?_)
      refine wN_g rfl (wN_ld (b := H.next) (o := 1) (v := iv t) rfl c1.rd rfl ?_)
      refine wN_g rfl (wN_mov (v := iv c) rfl ?_)
      refine wN_g rfl (wN_b_leq (a := t) (b := c) rfl rfl ?_)
      intro t3 g3; cases t3
      · have g3 : ¬ (t ≤ c) := of_decide_eq_false g3
        refine wN_pur (v := .bool false) rfl rfl ?_
        refine wN_mov (v := .bool false) rfl ?_
        refine wN_end ?_
        exact And.intro trivial (Exists.intro _ (And.intro rfl ⟨congrArg Value.bool (show false = (sp3 s t a c) from (by symm; first | (simp only [sp3, Bool.and_eq_true, Bool.and_eq_false_iff, Bool.or_eq_true, Bool.or_eq_false_iff, Bool.not_eq_true', Bool.not_eq_false', decide_eq_true_eq, decide_eq_false_iff_not]; omega) | (simp [sp3] <;> omega))), hk⟩))
      · have g3 : t ≤ c := of_decide_eq_true g3
        refine wN_pur (v := .bool true) rfl rfl ?_
        refine wN_mov (v := .bool true) rfl ?_
        refine wN_end ?_
        exact And.intro trivial (Exists.intro _ (And.intro rfl ⟨congrArg Value.bool (show true = (sp3 s t a c) from (by symm; first | (simp only [sp3, Bool.and_eq_true, Bool.and_eq_false_iff, Bool.or_eq_true, Bool.or_eq_false_iff, Bool.not_eq_true', Bool.not_eq_false', decide_eq_true_eq, decide_eq_false_iff_not]; omega) | (simp [sp3] <;> omega))), hk⟩))
theorem sm_in {g : Nat → Int} (hb : ∀ i, 0 ≤ g i ∧ g i ≤ 12) : ∀ k, 0 ≤ sm g k ∧ sm g k ≤ 12 * k
  | 0 => by show 0 ≤ (0 : Int) ∧ (0 : Int) ≤ 12 * ((0 : Nat) : Int); omega
  | k + 1 => by
    have a := sm_in hb k; have b := hb k
    show 0 ≤ sm g k + g k ∧ sm g k + g k ≤ 12 * ((k + 1 : Nat) : Int)
    omega
/-- the document's Right -/
theorem right38_ok {g : Nat → Int} {r : Rc} {xa : Option Addr} {xc : Nat} {sa : Option Addr} {cap : Nat} {us : List Tn} (hs : Sl H sa us.length cap (tnc us)) (hx : Sl H xa us.length xc (nf g us.length)) (hb : ∀ i, 0 ≤ g i ∧ g i ≤ 12) (hg : ∀ i, i < us.length → g i ≤ (us.getD i Tn.z).un) (hok : us.all Tn.ok = true) (hr : r.ok = true) (hn2 : us.length ≤ 1000000) (hlo : lo ≤ H.next) :
    ∃ H', FnX Try.prog kn lo 38 [.slice sa us.length cap, .agg (Rc.f r).toArray, .slice xa us.length xc] H (.tuple #[.bool (decide (sm g us.length = r.un) && rigB us r g), iv (cosB us g)]) H' ∧ Keep H H' [] := by
  have key := fnX_low (kn := kn) (lo := lo) (H := H) (args := [.slice sa us.length cap, .agg (Rc.f r).toArray, .slice xa us.length xc]) (Q := fun w H' => w = (.tuple #[.bool (decide (sm g us.length = r.un) && rigB us r g), iv (cosB us g)]) ∧ Keep H H' []) Try.func38 B38 N38 Z38 L38 (by simp) ?_
  · obtain ⟨w, H', h, rfl, q⟩ := key; exact ⟨H', h, q⟩
  have hk := Keep.refl H []
  have fs := hs.old
  have fx := hx.old
  have hs0 := hs
  have hx0 := hx
  have hro := Rc.ok_t hr
  have p_s1 : 0 ≤ r.un * r.s1 := Int.mul_nonneg (by omega) (by omega)
  have q_s1 : r.un * r.s1 ≤ 60 * r.s1 := Int.mul_le_mul_of_nonneg_right (by omega) (by omega)
  have p_s2 : 0 ≤ r.un * r.s2 := Int.mul_nonneg (by omega) (by omega)
  have q_s2 : r.un * r.s2 ≤ 60 * r.s2 := Int.mul_le_mul_of_nonneg_right (by omega) (by omega)
  have p_a1 : 0 ≤ r.un * r.a1 := Int.mul_nonneg (by omega) (by omega)
  have q_a1 : r.un * r.a1 ≤ 60 * r.a1 := Int.mul_le_mul_of_nonneg_right (by omega) (by omega)
  have p_a2 : 0 ≤ r.un * r.a2 := Int.mul_nonneg (by omega) (by omega)
  have q_a2 : r.un * r.a2 ≤ 60 * r.a2 := Int.mul_le_mul_of_nonneg_right (by omega) (by omega)
  have p_c1 : 0 ≤ r.un * r.c1 := Int.mul_nonneg (by omega) (by omega)
  have q_c1 : r.un * r.c1 ≤ 60 * r.c1 := Int.mul_le_mul_of_nonneg_right (by omega) (by omega)
  have p_c2 : 0 ≤ r.un * r.c2 := Int.mul_nonneg (by omega) (by omega)
  have q_c2 : r.un * r.c2 ≤ 60 * r.c2 := Int.mul_le_mul_of_nonneg_right (by omega) (by omega)
  refine wN_seq ?_
  refine wN_box (v := .agg (Rc.f r).toArray) rfl ?_
  intro H1 kH1 nH1 c1
  have c1 : Cl H1 H.next [iv r.un, iv r.s1, iv r.s2, iv r.a1, iv r.a2, iv r.c1, iv r.c2] := c1
  have mH1 := kH1.1
  have hk := hk.trans kH1
  have hs := kH1.sl0 hs
  have hx := kH1.sl0 hx
  refine wN_mov (v := .bool false) rfl ?_
  refine wN_mov (v := iv 0) rfl ?_
  refine wN_end ?_
  refine wN_seq ?_
  refine wN_alc ?_
  intro H2 kH2 nH2 c2
  have c2 : Cl H2 H1.next [iv 0, iv 0, iv 0, iv 0, iv 0] := c2
  have mH2 := kH2.1
  have hk := hk.trans kH2
  have hs := kH2.sl0 hs
  have hx := kH2.sl0 hx
  have c1 := kH2.cl c1 (by simp)
  refine wN_end ?_
  refine wN_seq ?_
  refine wN_mov (v := iv 0) rfl ?_
  refine wN_end ?_
  refine loop_low (fn := Try.f38) E38_1 N38 L38x1 (fun i : Nat => [(0, .slice sa us.length cap), (2, .slice xa us.length xc), (4, pt H.next), (8, pt H1.next), (9, iv (i : Int))])
    (fun k i H' => i + k = us.length ∧ Keep H H' [] ∧ H2.next ≤ H'.next ∧ Sl H' sa us.length cap (tnc us) ∧ Sl H' xa us.length xc (nf g us.length) ∧ Cl H' H.next (Rc.f r) ∧ Cl H' H1.next [iv (sm g i), iv (sumB us g Tn.su i), iv (sumB us g Tn.ac i), iv (sumB us g Tn.co i), iv (sumB us g Tn.pr i)]) us.length 0 ⟨by omega, hk, Nat.le_refl _, hs, hx, c1, c2⟩ ⟨rfl, rfl, rfl, rfl, rfl, trivial⟩ ?_
  rintro k i L1 ⟨hik, hk, hnx, hs, hx, c4, c8⟩
  have mki := hk.1
  have fs := hs0.old
  have fx := hx0.old
  refine wN_seq ?_
  refine wN_mov (v := iv (i : Int)) rfl ?_
  refine wN_mov (v := .slice sa us.length cap) rfl ?_
  refine wN_len (m := us.length) rfl ?_
  refine wN_c_lss (a := (i : Int)) (b := (us.length : Int)) rfl rfl ?_
  refine wN_end ?_
  refine And.intro (fun q1 => ?_) (fun q1 => ?_)
  · have q1 : (i : Int) < (us.length : Int) := of_decide_eq_true q1
    rcases id hs with ⟨_, h0, _⟩ | ⟨sb, es, rs, _⟩
    · omega
    have lsb := rs.lt
    rcases id hx with ⟨_, h0, _⟩ | ⟨xb, ex, rx, _⟩
    · omega
    have lxb := rx.lt
    have lsb0 := fs sb es
    have lxb0 := fx xb ex
    have ht := Tn.ok_t (tn_at hok (show i < us.length by omega))
    have hgi := hb i
    have hgu := hg i (by omega)
    have hsg := sm_in hb i
    have s_su := sumB_in (f := Tn.su) (m := 10000) hb (by decide) (fun i hi => by have z := Tn.ok_t (tn_at hok hi); exact ⟨by omega, by omega⟩) i (by omega)
    have p_su : 0 ≤ g i * (us.getD i Tn.z).su := Int.mul_nonneg hgi.1 (by omega)
    have l_su : g i * (us.getD i Tn.z).su ≤ 12 * (us.getD i Tn.z).su := Int.mul_le_mul_of_nonneg_right hgi.2 (by omega)
    have s_ac := sumB_in (f := Tn.ac) (m := 10000) hb (by decide) (fun i hi => by have z := Tn.ok_t (tn_at hok hi); exact ⟨by omega, by omega⟩) i (by omega)
    have p_ac : 0 ≤ g i * (us.getD i Tn.z).ac := Int.mul_nonneg hgi.1 (by omega)
    have l_ac : g i * (us.getD i Tn.z).ac ≤ 12 * (us.getD i Tn.z).ac := Int.mul_le_mul_of_nonneg_right hgi.2 (by omega)
    have s_co := sumB_in (f := Tn.co) (m := 10000) hb (by decide) (fun i hi => by have z := Tn.ok_t (tn_at hok hi); exact ⟨by omega, by omega⟩) i (by omega)
    have p_co : 0 ≤ g i * (us.getD i Tn.z).co := Int.mul_nonneg hgi.1 (by omega)
    have l_co : g i * (us.getD i Tn.z).co ≤ 12 * (us.getD i Tn.z).co := Int.mul_le_mul_of_nonneg_right hgi.2 (by omega)
    have s_pr := sumB_in (f := Tn.pr) (m := 1048576) hb (by decide) (fun i hi => by have z := Tn.ok_t (tn_at hok hi); exact ⟨by omega, by omega⟩) i (by omega)
    have p_pr : 0 ≤ g i * (us.getD i Tn.z).pr := Int.mul_nonneg hgi.1 (by omega)
    have l_pr : g i * (us.getD i Tn.z).pr ≤ 12 * (us.getD i Tn.z).pr := Int.mul_le_mul_of_nonneg_right hgi.2 (by omega)
    first | refine wN_skip ?_ | skip
    refine wD_seq ?_
    refine wD_mov (v := .slice xa us.length xc) rfl ?_
    refine wD_mov (v := iv (i : Int)) rfl ?_
    refine wD_idx (b := xb) (o := 0) (k := i) (j := (i : Int)) (by rw [← ex]; rfl) rfl rfl (by omega) ?_
    refine wD_ld (b := xb) (o := 0 + i * 1) (v := iv (g i)) rfl rx (nf_at (by omega)) ?_
    refine wD_b_lss (a := (g i)) (b := 0) rfl rfl ?_
    intro t2 g2; cases t2
    · have g2 : ¬ ((g i) < 0) := of_decide_eq_false g2
      refine wD_mov (v := .bool false) rfl ?_
      refine wD_g rfl (wD_mov (v := .slice xa us.length xc) rfl ?_)
      refine wD_g rfl (wD_mov (v := iv (i : Int)) rfl ?_)
      refine wD_g rfl (wD_idx (b := xb) (o := 0) (k := i) (j := (i : Int)) (by rw [← ex]; rfl) rfl rfl (by omega) ?_)
      refine wD_g rfl (wD_ld (b := xb) (o := 0 + i * 1) (v := iv (g i)) rfl rx (nf_at (by omega)) ?_)
      refine wD_g rfl (wD_mov (v := .slice sa us.length cap) rfl ?_)
      refine wD_g rfl (wD_mov (v := iv (i : Int)) rfl ?_)
      refine wD_g rfl (wD_idx (b := sb) (o := 0) (k := i) (j := (i : Int)) (by rw [← es]; rfl) rfl rfl (by omega) ?_)
      refine wD_g rfl (wD_addo (b := sb) (o := 0 + i * 5) rfl ?_)
      refine wD_g rfl (wD_ld (b := sb) (o := 0 + i * 5) (v := iv ((us.getD i Tn.z).un)) rfl rs (tnc_atF (j := 0) (by omega) rfl) ?_)
      refine wD_g rfl (wD_b_gtr (a := (g i)) (b := (us.getD i Tn.z).un) rfl rfl ?_)
      intro t3 g3; cases t3
      · have g3 : ¬ ((g i) > ((us.getD i Tn.z).un)) := of_decide_eq_false g3
        refine wD_pur (v := .bool false) rfl rfl ?_
        refine wD_end (by repeat' first | exact True.intro | exact (fun h => h) | refine And.intro ?_ ?_ | (intro h; have h : (_ : Nat) = _ := h; omega)) ?_
        refine condF ?_
        first | refine wN_skip ?_ | skip
        first | refine wD_dreg ?_ | refine wB_dreg ?_ | refine wB_seq ?_ | (refine wOps_nil ?_; refine wD_dreg ?_)
        refine wD_addo (b := H1.next) (o := 0) rfl ?_
        refine wD_ld (b := H1.next) (o := 0) (v := iv (sm g i)) rfl c8.rd rfl ?_
        refine wD_mov (v := .slice xa us.length xc) rfl ?_
        refine wD_mov (v := iv (i : Int)) rfl ?_
        refine wD_idx (b := xb) (o := 0) (k := i) (j := (i : Int)) (by rw [← ex]; rfl) rfl rfl (by omega) ?_
        refine wD_ld (b := xb) (o := 0 + i * 1) (v := iv (g i)) rfl rx (nf_at (by omega)) ?_
        refine wD_add (a := (sm g i)) (b := (g i)) rfl rfl ⟨by omega, by omega⟩ ?_
        refine wD_addo (b := H1.next) (o := 0) rfl ?_
        refine wD_ld (b := H1.next) (o := 1) (v := iv (sumB us g Tn.su i)) rfl c8.rd rfl ?_
        refine wD_mov (v := .slice xa us.length xc) rfl ?_
        refine wD_mov (v := iv (i : Int)) rfl ?_
        refine wD_idx (b := xb) (o := 0) (k := i) (j := (i : Int)) (by rw [← ex]; rfl) rfl rfl (by omega) ?_
        refine wD_ld (b := xb) (o := 0 + i * 1) (v := iv (g i)) rfl rx (nf_at (by omega)) ?_
        refine wD_mov (v := .slice sa us.length cap) rfl ?_
        refine wD_mov (v := iv (i : Int)) rfl ?_
        refine wD_idx (b := sb) (o := 0) (k := i) (j := (i : Int)) (by rw [← es]; rfl) rfl rfl (by omega) ?_
        refine wD_addo (b := sb) (o := 0 + i * 5) rfl ?_
        refine wD_ld (b := sb) (o := 0 + i * 5 + 1) (v := iv ((us.getD i Tn.z).su)) rfl rs (tnc_atF (j := 1) (by omega) rfl) ?_
        refine wD_mul (a := (g i)) (b := (us.getD i Tn.z).su) rfl rfl ⟨by omega, by omega⟩ ?_
        refine wD_add (a := (sumB us g Tn.su i)) (b := (g i) * ((us.getD i Tn.z).su)) rfl rfl ⟨by omega, by omega⟩ ?_
        refine wD_addo (b := H1.next) (o := 0) rfl ?_
        refine wD_ld (b := H1.next) (o := 2) (v := iv (sumB us g Tn.ac i)) rfl c8.rd rfl ?_
        refine wD_mov (v := .slice xa us.length xc) rfl ?_
        refine wD_mov (v := iv (i : Int)) rfl ?_
        refine wD_idx (b := xb) (o := 0) (k := i) (j := (i : Int)) (by rw [← ex]; rfl) rfl rfl (by omega) ?_
        refine wD_ld (b := xb) (o := 0 + i * 1) (v := iv (g i)) rfl rx (nf_at (by omega)) ?_
        refine wD_mov (v := .slice sa us.length cap) rfl ?_
        refine wD_mov (v := iv (i : Int)) rfl ?_
        refine wD_idx (b := sb) (o := 0) (k := i) (j := (i : Int)) (by rw [← es]; rfl) rfl rfl (by omega) ?_
        refine wD_addo (b := sb) (o := 0 + i * 5) rfl ?_
        refine wD_ld (b := sb) (o := 0 + i * 5 + 2) (v := iv ((us.getD i Tn.z).ac)) rfl rs (tnc_atF (j := 2) (by omega) rfl) ?_
        refine wD_mul (a := (g i)) (b := (us.getD i Tn.z).ac) rfl rfl ⟨by omega, by omega⟩ ?_
        refine wD_add (a := (sumB us g Tn.ac i)) (b := (g i) * ((us.getD i Tn.z).ac)) rfl rfl ⟨by omega, by omega⟩ ?_
        refine wD_addo (b := H1.next) (o := 0) rfl ?_
        refine wD_ld (b := H1.next) (o := 3) (v := iv (sumB us g Tn.co i)) rfl c8.rd rfl ?_
        refine wD_mov (v := .slice xa us.length xc) rfl ?_
        refine wD_mov (v := iv (i : Int)) rfl ?_
        refine wD_idx (b := xb) (o := 0) (k := i) (j := (i : Int)) (by rw [← ex]; rfl) rfl rfl (by omega) ?_
        refine wD_ld (b := xb) (o := 0 + i * 1) (v := iv (g i)) rfl rx (nf_at (by omega)) ?_
        refine wD_mov (v := .slice sa us.length cap) rfl ?_
        refine wD_mov (v := iv (i : Int)) rfl ?_
        refine wD_idx (b := sb) (o := 0) (k := i) (j := (i : Int)) (by rw [← es]; rfl) rfl rfl (by omega) ?_
        refine wD_addo (b := sb) (o := 0 + i * 5) rfl ?_
        refine wD_ld (b := sb) (o := 0 + i * 5 + 3) (v := iv ((us.getD i Tn.z).co)) rfl rs (tnc_atF (j := 3) (by omega) rfl) ?_
        refine wD_mul (a := (g i)) (b := (us.getD i Tn.z).co) rfl rfl ⟨by omega, by omega⟩ ?_
        refine wD_add (a := (sumB us g Tn.co i)) (b := (g i) * ((us.getD i Tn.z).co)) rfl rfl ⟨by omega, by omega⟩ ?_
        refine wD_addo (b := H1.next) (o := 0) rfl ?_
        refine wD_ld (b := H1.next) (o := 4) (v := iv (sumB us g Tn.pr i)) rfl c8.rd rfl ?_
        refine wD_mov (v := .slice xa us.length xc) rfl ?_
        refine wD_mov (v := iv (i : Int)) rfl ?_
        refine wD_idx (b := xb) (o := 0) (k := i) (j := (i : Int)) (by rw [← ex]; rfl) rfl rfl (by omega) ?_
        refine wD_ld (b := xb) (o := 0 + i * 1) (v := iv (g i)) rfl rx (nf_at (by omega)) ?_
        refine wD_mov (v := .slice sa us.length cap) rfl ?_
        refine wD_mov (v := iv (i : Int)) rfl ?_
        refine wD_idx (b := sb) (o := 0) (k := i) (j := (i : Int)) (by rw [← es]; rfl) rfl rfl (by omega) ?_
        refine wD_addo (b := sb) (o := 0 + i * 5) rfl ?_
        refine wD_ld (b := sb) (o := 0 + i * 5 + 4) (v := iv ((us.getD i Tn.z).pr)) rfl rs (tnc_atF (j := 4) (by omega) rfl) ?_
        refine wD_mul (a := (g i)) (b := (us.getD i Tn.z).pr) rfl rfl ⟨by omega, by omega⟩ ?_
        refine wD_add (a := (sumB us g Tn.pr i)) (b := (g i) * ((us.getD i Tn.z).pr)) rfl rfl ⟨by omega, by omega⟩ ?_
        refine wD_pur (v := .agg #[iv ((sm g i) + (g i)), iv ((sumB us g Tn.su i) + ((g i) * ((us.getD i Tn.z).su))), iv ((sumB us g Tn.ac i) + ((g i) * ((us.getD i Tn.z).ac))), iv ((sumB us g Tn.co i) + ((g i) * ((us.getD i Tn.z).co))), iv ((sumB us g Tn.pr i) + ((g i) * ((us.getD i Tn.z).pr)))]) rfl (by kernel_rfl) ?_
        refine wD_sta (b := H1.next) (o := 0) rfl rfl c8 (by omega) rfl rfl (by simp) ?_
        intro H3 kH3 nH3 sH3
        have mH3 := kH3.1
        have hk := hk.new kH3 (fun b hb => by simp at hb ⊢; omega)
        have hs := kH3.sl hs (fun b e => by have := fs b e; first | (simp; done) | (simp; omega))
        have hx := kH3.sl hx (fun b e => by have := fx b e; first | (simp; done) | (simp; omega))
        have c4 := kH3.cl c4 (by first | (simp; done) | (simp; omega))
        have rs := kH3.rd rs (by first | (simp; done) | (simp; omega))
        have rx := kH3.rd rx (by first | (simp; done) | (simp; omega))
        have c8 : Cl H3 H1.next [iv ((sm g i) + (g i)), iv ((sumB us g Tn.su i) + ((g i) * ((us.getD i Tn.z).su))), iv ((sumB us g Tn.ac i) + ((g i) * ((us.getD i Tn.z).ac))), iv ((sumB us g Tn.co i) + ((g i) * ((us.getD i Tn.z).co))), iv ((sumB us g Tn.pr i) + ((g i) * ((us.getD i Tn.z).pr)))] := sH3
        refine wD_end (by repeat' first | exact True.intro | exact (fun h => h) | refine And.intro ?_ ?_ | (intro h; have h : (_ : Nat) = _ := h; omega)) ?_
        first | refine wN_reg ?_ | refine wN_blk ?_ | refine wN_bseq ?_ | (refine wOps_nil ?_; refine wN_reg ?_)
        refine wN_mov (v := iv (i : Int)) rfl ?_
        refine wN_add (a := (i : Int)) (b := 1) rfl rfl ⟨by omega, by omega⟩ ?_
        refine wN_mov (v := iv ((i : Int) + 1)) rfl ?_
        refine wN_end ?_
        exact ⟨k - 1, i + 1, by omega, ⟨by omega, hk, by omega, hs, hx, c4, c8⟩, rfl, rfl, rfl, rfl, rfl, trivial⟩
      · have g3 : (g i) > ((us.getD i Tn.z).un) := of_decide_eq_true g3
        omega
    · have g2 : (g i) < 0 := of_decide_eq_true g2
      omega
  · have q1 : ¬ ((i : Int) < (us.length : Int)) := of_decide_eq_false q1
    have ei : i = us.length := by omega
    subst ei
    first | (refine wN_exit ?_; show wC _ _ _ _ _ _ _ _ _) | skip
    refine wN_seq ?_
    refine wN_addo (b := H1.next) (o := 0) rfl ?_
    refine wN_ld (b := H1.next) (o := 0) (v := iv (sm g us.length)) rfl c8.rd rfl ?_
    refine wN_addo (b := H.next) (o := 0) rfl ?_
    refine wN_ld (b := H.next) (o := 0) (v := iv r.un) rfl c4.rd rfl ?_
    refine wN_b_eql (a := (sm g us.length)) (b := r.un) rfl rfl ?_
    intro t4 g4; cases t4
    · have g4 : ¬ ((sm g us.length) = r.un) := by simpa using g4
      refine wN_mov (v := .bool false) rfl ?_
      refine wN_gs rfl ?_
      refine wN_gs rfl ?_
      refine wN_gs rfl ?_
      refine wN_gs rfl ?_
      refine wN_gs rfl ?_
      refine wN_gs rfl ?_
      refine wN_gs rfl ?_
      refine wN_gs rfl ?_
      refine wN_gs rfl ?_
      refine wN_gs rfl ?_
      refine wN_gs rfl ?_
      refine wN_gs rfl ?_
      refine wN_gs rfl ?_
      refine wN_gs rfl ?_
      refine wN_gs rfl ?_
      refine wN_gs rfl ?_
      refine wN_gs rfl ?_
      refine wN_gs rfl ?_
      refine wN_pur (v := .bool false) rfl rfl ?_
      refine wN_mov (v := .bool false) rfl ?_
      refine wN_end ?_
      refine wN_seq ?_
      refine wN_mov (v := .bool false) rfl ?_
      refine wN_mov (v := .bool false) rfl ?_
      refine wN_gs rfl ?_
      refine wN_gs rfl ?_
      refine wN_gs rfl ?_
      refine wN_gs rfl ?_
      refine wN_gs rfl ?_
      refine wN_gs rfl ?_
      refine wN_gs rfl ?_
      refine wN_gs rfl ?_
      refine wN_gs rfl ?_
      refine wN_gs rfl ?_
      refine wN_gs rfl ?_
      refine wN_gs rfl ?_
      refine wN_gs rfl ?_
      refine wN_gs rfl ?_
      refine wN_gs rfl ?_
      refine wN_gs rfl ?_
      refine wN_gs rfl ?_
      refine wN_gs rfl ?_
      refine wN_pur (v := .bool false) rfl rfl ?_
      refine wN_mov (v := .bool false) rfl ?_
      refine wN_end ?_
      refine wD_seq ?_
      refine wD_mov (v := .bool false) rfl ?_
      refine wD_mov (v := .bool false) rfl ?_
      refine wD_gs rfl ?_
      refine wD_gs rfl ?_
      refine wD_gs rfl ?_
      refine wD_gs rfl ?_
      refine wD_gs rfl ?_
      refine wD_gs rfl ?_
      refine wD_gs rfl ?_
      refine wD_gs rfl ?_
      refine wD_gs rfl ?_
      refine wD_gs rfl ?_
      refine wD_gs rfl ?_
      refine wD_gs rfl ?_
      refine wD_gs rfl ?_
      refine wD_gs rfl ?_
      refine wD_gs rfl ?_
      refine wD_gs rfl ?_
      refine wD_gs rfl ?_
      refine wD_gs rfl ?_
      refine wD_pur (v := .bool false) rfl rfl ?_
      refine wD_addo (b := H1.next) (o := 0) rfl ?_
      refine wD_ld (b := H1.next) (o := 4) (v := iv (sumB us g Tn.pr us.length)) rfl c8.rd rfl ?_
      refine wD_mov (v := .bool false) rfl ?_
      refine wD_mov (v := iv (sumB us g Tn.pr us.length)) rfl ?_
      refine wD_end (by repeat' first | exact True.intro | exact (fun h => h) | refine And.intro ?_ ?_ | (intro h; have h : (_ : Nat) = _ := h; omega)) ?_
      have ev : (decide (sm g us.length = r.un) && rigB us r g) = false := by first | (rw [decide_eq_false (by omega)]; rfl) | (rw [decide_eq_true (by omega)]; unfold rigB; simp only [*]; rfl)
      exact And.intro trivial (Exists.intro _ (And.intro rfl ⟨by rw [ev]; rfl, hk⟩))
    · have g4 : (sm g us.length) = r.un := by simpa using g4
      refine wN_mov (v := .bool true) rfl ?_
      refine wN_g rfl (wN_addo (b := H1.next) (o := 0) rfl ?_)
      refine wN_g rfl (wN_ld (b := H1.next) (o := 1) (v := iv (sumB us g Tn.su us.length)) rfl c8.rd rfl ?_)
      refine wN_g rfl (wN_addo (b := H1.next) (o := 0) rfl ?_)
      refine wN_g rfl (wN_ld (b := H1.next) (o := 1) (v := iv (sumB us g Tn.su us.length)) rfl c8.rd rfl ?_)
      refine wN_g rfl (wN_pur (v := .agg #[iv (sumB us g Tn.su us.length), iv (sumB us g Tn.su us.length)]) rfl (by kernel_rfl) ?_)
      refine wN_g rfl (wN_addo (b := H.next) (o := 0) rfl ?_)
      refine wN_g rfl (wN_ld (b := H.next) (o := 0) (v := iv r.un) rfl c4.rd rfl ?_)
      refine wN_g rfl (wN_addo (b := H.next) (o := 0) rfl ?_)
      refine wN_g rfl (wN_addo (b := H.next) (o := 1) rfl ?_)
      refine wN_g rfl (wN_ld (b := H.next) (o := 1) (v := iv r.s1) rfl c4.rd rfl ?_)
      refine wN_g rfl (wN_mul (a := r.un) (b := r.s1) rfl rfl ⟨by omega, by omega⟩ ?_)
      refine wN_g rfl (wN_addo (b := H.next) (o := 0) rfl ?_)
      refine wN_g rfl (wN_ld (b := H.next) (o := 0) (v := iv r.un) rfl c4.rd rfl ?_)
      refine wN_g rfl (wN_addo (b := H.next) (o := 0) rfl ?_)
      refine wN_g rfl (wN_addo (b := H.next) (o := 1) rfl ?_)
      refine wN_g rfl (wN_ld (b := H.next) (o := 2) (v := iv r.s2) rfl c4.rd rfl ?_)
      refine wN_g rfl (wN_mul (a := r.un) (b := r.s2) rfl rfl ⟨by omega, by omega⟩ ?_)
      obtain ⟨H4, fH4, kH4⟩ := sp62_ok (kn := kn) (lo := lo) (H := L1) (s := (sumB us g Tn.su us.length)) (t := (sumB us g Tn.su us.length)) (a := r.un * r.s1) (c := r.un * r.s2) (by omega)
      rw [sp3_mix] at fH4
      have mH4 := kH4.1
      have hk := hk.trans kH4
      have hs := kH4.sl0 hs
      have hx := kH4.sl0 hx
      have c4 := kH4.cl c4 (by simp)
      have c8 := kH4.cl c8 (by simp)
      cases hm117 : mixB (sumB us g Tn.su us.length) r.un r.s1 r.s2
      · rw [hm117] at fH4
        refine wN_g rfl (wN_callf (vs := [.agg #[iv (sumB us g Tn.su us.length), iv (sumB us g Tn.su us.length)], iv (r.un * r.s1), iv (r.un * r.s2)]) rfl (callX_args fH4) ?_)
        refine wN_pur (v := .bool false) rfl rfl ?_
        refine wN_mov (v := .bool false) rfl ?_
        refine wN_end ?_
        refine wN_seq ?_
        refine wN_mov (v := .bool false) rfl ?_
        refine wN_mov (v := .bool false) rfl ?_
        refine wN_gs rfl ?_
        refine wN_gs rfl ?_
        refine wN_gs rfl ?_
        refine wN_gs rfl ?_
        refine wN_gs rfl ?_
        refine wN_gs rfl ?_
        refine wN_gs rfl ?_
        refine wN_gs rfl ?_
        refine wN_gs rfl ?_
        refine wN_gs rfl ?_
        refine wN_gs rfl ?_
        refine wN_gs rfl ?_
        refine wN_gs rfl ?_
        refine wN_gs rfl ?_
        refine wN_gs rfl ?_
        refine wN_gs rfl ?_
        refine wN_gs rfl ?_
        refine wN_gs rfl ?_
        refine wN_pur (v := .bool false) rfl rfl ?_
        refine wN_mov (v := .bool false) rfl ?_
        refine wN_end ?_
        refine wD_seq ?_
        refine wD_mov (v := .bool false) rfl ?_
        refine wD_mov (v := .bool false) rfl ?_
        refine wD_gs rfl ?_
        refine wD_gs rfl ?_
        refine wD_gs rfl ?_
        refine wD_gs rfl ?_
        refine wD_gs rfl ?_
        refine wD_gs rfl ?_
        refine wD_gs rfl ?_
        refine wD_gs rfl ?_
        refine wD_gs rfl ?_
        refine wD_gs rfl ?_
        refine wD_gs rfl ?_
        refine wD_gs rfl ?_
        refine wD_gs rfl ?_
        refine wD_gs rfl ?_
        refine wD_gs rfl ?_
        refine wD_gs rfl ?_
        refine wD_gs rfl ?_
        refine wD_gs rfl ?_
        refine wD_pur (v := .bool false) rfl rfl ?_
        refine wD_addo (b := H1.next) (o := 0) rfl ?_
        refine wD_ld (b := H1.next) (o := 4) (v := iv (sumB us g Tn.pr us.length)) rfl c8.rd rfl ?_
        refine wD_mov (v := .bool false) rfl ?_
        refine wD_mov (v := iv (sumB us g Tn.pr us.length)) rfl ?_
        refine wD_end (by repeat' first | exact True.intro | exact (fun h => h) | refine And.intro ?_ ?_ | (intro h; have h : (_ : Nat) = _ := h; omega)) ?_
        have ev : (decide (sm g us.length = r.un) && rigB us r g) = false := by first | (rw [decide_eq_false (by omega)]; rfl) | (rw [decide_eq_true (by omega)]; unfold rigB; simp only [*]; rfl)
        exact And.intro trivial (Exists.intro _ (And.intro rfl ⟨by rw [ev]; rfl, hk⟩))
      · rw [hm117] at fH4
        refine wN_g rfl (wN_callf (vs := [.agg #[iv (sumB us g Tn.su us.length), iv (sumB us g Tn.su us.length)], iv (r.un * r.s1), iv (r.un * r.s2)]) rfl (callX_args fH4) ?_)
        refine wN_pur (v := .bool true) rfl rfl ?_
        refine wN_mov (v := .bool true) rfl ?_
        refine wN_end ?_
        refine wN_seq ?_
        refine wN_mov (v := .bool true) rfl ?_
        refine wN_mov (v := .bool true) rfl ?_
        refine wN_g rfl (wN_addo (b := H1.next) (o := 0) rfl ?_)
        refine wN_g rfl (wN_ld (b := H1.next) (o := 2) (v := iv (sumB us g Tn.ac us.length)) rfl c8.rd rfl ?_)
        refine wN_g rfl (wN_addo (b := H1.next) (o := 0) rfl ?_)
        refine wN_g rfl (wN_ld (b := H1.next) (o := 2) (v := iv (sumB us g Tn.ac us.length)) rfl c8.rd rfl ?_)
        refine wN_g rfl (wN_pur (v := .agg #[iv (sumB us g Tn.ac us.length), iv (sumB us g Tn.ac us.length)]) rfl (by kernel_rfl) ?_)
        refine wN_g rfl (wN_addo (b := H.next) (o := 0) rfl ?_)
        refine wN_g rfl (wN_ld (b := H.next) (o := 0) (v := iv r.un) rfl c4.rd rfl ?_)
        refine wN_g rfl (wN_addo (b := H.next) (o := 0) rfl ?_)
        refine wN_g rfl (wN_addo (b := H.next) (o := 3) rfl ?_)
        refine wN_g rfl (wN_ld (b := H.next) (o := 3) (v := iv r.a1) rfl c4.rd rfl ?_)
        refine wN_g rfl (wN_mul (a := r.un) (b := r.a1) rfl rfl ⟨by omega, by omega⟩ ?_)
        refine wN_g rfl (wN_addo (b := H.next) (o := 0) rfl ?_)
        refine wN_g rfl (wN_ld (b := H.next) (o := 0) (v := iv r.un) rfl c4.rd rfl ?_)
        refine wN_g rfl (wN_addo (b := H.next) (o := 0) rfl ?_)
        refine wN_g rfl (wN_addo (b := H.next) (o := 3) rfl ?_)
        refine wN_g rfl (wN_ld (b := H.next) (o := 4) (v := iv r.a2) rfl c4.rd rfl ?_)
        refine wN_g rfl (wN_mul (a := r.un) (b := r.a2) rfl rfl ⟨by omega, by omega⟩ ?_)
        obtain ⟨H5, fH5, kH5⟩ := sp62_ok (kn := kn) (lo := lo) (H := H4) (s := (sumB us g Tn.ac us.length)) (t := (sumB us g Tn.ac us.length)) (a := r.un * r.a1) (c := r.un * r.a2) (by omega)
        rw [sp3_mix] at fH5
        have mH5 := kH5.1
        have hk := hk.trans kH5
        have hs := kH5.sl0 hs
        have hx := kH5.sl0 hx
        have c4 := kH5.cl c4 (by simp)
        have c8 := kH5.cl c8 (by simp)
        cases hm138 : mixB (sumB us g Tn.ac us.length) r.un r.a1 r.a2
        · rw [hm138] at fH5
          refine wN_g rfl (wN_callf (vs := [.agg #[iv (sumB us g Tn.ac us.length), iv (sumB us g Tn.ac us.length)], iv (r.un * r.a1), iv (r.un * r.a2)]) rfl (callX_args fH5) ?_)
          refine wN_pur (v := .bool false) rfl rfl ?_
          refine wN_mov (v := .bool false) rfl ?_
          refine wN_end ?_
          refine wD_seq ?_
          refine wD_mov (v := .bool false) rfl ?_
          refine wD_mov (v := .bool false) rfl ?_
          refine wD_gs rfl ?_
          refine wD_gs rfl ?_
          refine wD_gs rfl ?_
          refine wD_gs rfl ?_
          refine wD_gs rfl ?_
          refine wD_gs rfl ?_
          refine wD_gs rfl ?_
          refine wD_gs rfl ?_
          refine wD_gs rfl ?_
          refine wD_gs rfl ?_
          refine wD_gs rfl ?_
          refine wD_gs rfl ?_
          refine wD_gs rfl ?_
          refine wD_gs rfl ?_
          refine wD_gs rfl ?_
          refine wD_gs rfl ?_
          refine wD_gs rfl ?_
          refine wD_gs rfl ?_
          refine wD_pur (v := .bool false) rfl rfl ?_
          refine wD_addo (b := H1.next) (o := 0) rfl ?_
          refine wD_ld (b := H1.next) (o := 4) (v := iv (sumB us g Tn.pr us.length)) rfl c8.rd rfl ?_
          refine wD_mov (v := .bool false) rfl ?_
          refine wD_mov (v := iv (sumB us g Tn.pr us.length)) rfl ?_
          refine wD_end (by repeat' first | exact True.intro | exact (fun h => h) | refine And.intro ?_ ?_ | (intro h; have h : (_ : Nat) = _ := h; omega)) ?_
          have ev : (decide (sm g us.length = r.un) && rigB us r g) = false := by first | (rw [decide_eq_false (by omega)]; rfl) | (rw [decide_eq_true (by omega)]; unfold rigB; simp only [*]; rfl)
          exact And.intro trivial (Exists.intro _ (And.intro rfl ⟨by rw [ev]; rfl, hk⟩))
        · rw [hm138] at fH5
          refine wN_g rfl (wN_callf (vs := [.agg #[iv (sumB us g Tn.ac us.length), iv (sumB us g Tn.ac us.length)], iv (r.un * r.a1), iv (r.un * r.a2)]) rfl (callX_args fH5) ?_)
          refine wN_pur (v := .bool true) rfl rfl ?_
          refine wN_mov (v := .bool true) rfl ?_
          refine wN_end ?_
          refine wD_seq ?_
          refine wD_mov (v := .bool true) rfl ?_
          refine wD_mov (v := .bool true) rfl ?_
          refine wD_g rfl (wD_addo (b := H1.next) (o := 0) rfl ?_)
          refine wD_g rfl (wD_ld (b := H1.next) (o := 3) (v := iv (sumB us g Tn.co us.length)) rfl c8.rd rfl ?_)
          refine wD_g rfl (wD_addo (b := H1.next) (o := 0) rfl ?_)
          refine wD_g rfl (wD_ld (b := H1.next) (o := 3) (v := iv (sumB us g Tn.co us.length)) rfl c8.rd rfl ?_)
          refine wD_g rfl (wD_pur (v := .agg #[iv (sumB us g Tn.co us.length), iv (sumB us g Tn.co us.length)]) rfl (by kernel_rfl) ?_)
          refine wD_g rfl (wD_addo (b := H.next) (o := 0) rfl ?_)
          refine wD_g rfl (wD_ld (b := H.next) (o := 0) (v := iv r.un) rfl c4.rd rfl ?_)
          refine wD_g rfl (wD_addo (b := H.next) (o := 0) rfl ?_)
          refine wD_g rfl (wD_addo (b := H.next) (o := 5) rfl ?_)
          refine wD_g rfl (wD_ld (b := H.next) (o := 5) (v := iv r.c1) rfl c4.rd rfl ?_)
          refine wD_g rfl (wD_mul (a := r.un) (b := r.c1) rfl rfl ⟨by omega, by omega⟩ ?_)
          refine wD_g rfl (wD_addo (b := H.next) (o := 0) rfl ?_)
          refine wD_g rfl (wD_ld (b := H.next) (o := 0) (v := iv r.un) rfl c4.rd rfl ?_)
          refine wD_g rfl (wD_addo (b := H.next) (o := 0) rfl ?_)
          refine wD_g rfl (wD_addo (b := H.next) (o := 5) rfl ?_)
          refine wD_g rfl (wD_ld (b := H.next) (o := 6) (v := iv r.c2) rfl c4.rd rfl ?_)
          refine wD_g rfl (wD_mul (a := r.un) (b := r.c2) rfl rfl ⟨by omega, by omega⟩ ?_)
          obtain ⟨H6, fH6, kH6⟩ := sp62_ok (kn := kn) (lo := H5.next) (H := H5) (s := (sumB us g Tn.co us.length)) (t := (sumB us g Tn.co us.length)) (a := r.un * r.c1) (c := r.un * r.c2) (by omega)
          rw [sp3_mix] at fH6
          have mH6 := kH6.1
          have hk := hk.trans kH6
          have hs := kH6.sl0 hs
          have hx := kH6.sl0 hx
          have c4 := kH6.cl c4 (by simp)
          have c8 := kH6.cl c8 (by simp)
          cases hm159 : mixB (sumB us g Tn.co us.length) r.un r.c1 r.c2
          · rw [hm159] at fH6
            refine wD_g rfl (wD_callh (vs := [.agg #[iv (sumB us g Tn.co us.length), iv (sumB us g Tn.co us.length)], iv (r.un * r.c1), iv (r.un * r.c2)]) rfl rfl (callX_args fH6) ?_)
            refine wD_pur (v := .bool false) rfl rfl ?_
            refine wD_addo (b := H1.next) (o := 0) rfl ?_
            refine wD_ld (b := H1.next) (o := 4) (v := iv (sumB us g Tn.pr us.length)) rfl c8.rd rfl ?_
            refine wD_mov (v := .bool false) rfl ?_
            refine wD_mov (v := iv (sumB us g Tn.pr us.length)) rfl ?_
            refine wD_end (by repeat' first | exact True.intro | exact (fun h => h) | refine And.intro ?_ ?_ | (intro h; have h : (_ : Nat) = _ := h; omega)) ?_
            have ev : (decide (sm g us.length = r.un) && rigB us r g) = false := by first | (rw [decide_eq_false (by omega)]; rfl) | (rw [decide_eq_true (by omega)]; unfold rigB; simp only [*]; rfl)
            exact And.intro trivial (Exists.intro _ (And.intro rfl ⟨by rw [ev]; rfl, hk⟩))
          · rw [hm159] at fH6
            refine wD_g rfl (wD_callh (vs := [.agg #[iv (sumB us g Tn.co us.length), iv (sumB us g Tn.co us.length)], iv (r.un * r.c1), iv (r.un * r.c2)]) rfl rfl (callX_args fH6) ?_)
            refine wD_pur (v := .bool true) rfl rfl ?_
            refine wD_addo (b := H1.next) (o := 0) rfl ?_
            refine wD_ld (b := H1.next) (o := 4) (v := iv (sumB us g Tn.pr us.length)) rfl c8.rd rfl ?_
            refine wD_mov (v := .bool true) rfl ?_
            refine wD_mov (v := iv (sumB us g Tn.pr us.length)) rfl ?_
            refine wD_end (by repeat' first | exact True.intro | exact (fun h => h) | refine And.intro ?_ ?_ | (intro h; have h : (_ : Nat) = _ := h; omega)) ?_
            have ev : (decide (sm g us.length = r.un) && rigB us r g) = true := by first | (rw [decide_eq_false (by omega)]; rfl) | (rw [decide_eq_true (by omega)]; unfold rigB; simp only [*]; rfl)
            exact And.intro trivial (Exists.intro _ (And.intro rfl ⟨by rw [ev]; rfl, hk⟩))
end
end Go.Ax

/-
  Plant: some blend; the law PlantCheapest (written by program).
-/
namespace Go.Ax
open Go Go.RowKit Go.Proofs

theorem AccB.of {b0 lo f : Nat} {e : TypeId} {H : Hp} {v : Value} {n : Nat} {cs : List Value} (h : Acc lo f e H v n cs) (h0 : 0 < n) : AccB b0 lo f e H v n cs := by
  rcases h with ⟨q, _⟩ | q
  · omega
  · exact .inr q
theorem AccB.lt {b0 lo f : Nat} {e : TypeId} {H : Hp} {v : Value} {n : Nat} {cs : List Value} (h : AccB b0 lo f e H v n cs) {b m c : Nat} (ev : v = .slice (some ⟨b, 0, none⟩) m c) : b < H.next := by
  rcases h with ⟨_, _, rfl, hb, _⟩ | ⟨b1, rfl, _, _, _, hn, _⟩
  · cases ev; exact hb
  · cases ev; exact hn
/-- append of one to what append made of a new block -/
theorem heap_append_at {P : Program} {lo : Nat} {H : Hp} {t0 t1 e ep : TypeId} {size k cap2 f b0 : Nat} {a : Option Addr} {v : Value} {cs news : List Value} (he : sliceElem P t0 = some (e, size)) (ht : P.underlying t1 = some (.slice ep))
    (hs : Sl H a 1 cap2 news) (hl : news.length = 1 * size) (hz : 0 < size) (hone : news.all one = true) (hcl : cs.length = k * size) (hk : k < 1000) (ha : AccB b0 lo f e H v k cs) (hlo : lo ≤ H.next) (hf : f ≤ H.next) :
    ∃ H1 kd, (∀ (n : Nat) (S : Rg) (d : Option Tmp) (x y : Operand) (ty : TypeId) (p : String), evS S x = some v → evS S y = some (.slice a 1 cap2) → heapOp P lo (frS n S) H ⟨d, .call ⟨.builtin .append, #[x, y], #[t0, t1]⟩, ty, p, #[], none⟩ = some (.val (.slice (some ⟨H.next, 0, none⟩) (k + 1) (k + 1)) H1, kd)) ∧ (kd = .heavy ∨ ∃ b, kd = .store b ∧ f ≤ b ∧ ∃ m c, v = .slice (some ⟨b, 0, none⟩) m c) ∧
      Acc lo f e H1 (.slice (some ⟨H.next, 0, none⟩) (k + 1) (k + 1)) (k + 1) (cs ++ news) ∧ KeepB f H H1 := by
  obtain ⟨H1, kd, h1, h2, h3, h4⟩ := heap_append_next he ht hs hl hz hone hcl hk ha hlo hf
  rcases ha with ⟨rfl, rfl, rfl, hb, e0, h0⟩ | ⟨b, rfl, h0, hfb, hlb, hn, hg⟩
  · exact ⟨_, .heavy, fun n S d x y ty p hx hy => heap_append_empty he ht h0 hx hy hs hl (by decide) (by decide), .inl rfl, .inr ⟨H.next, rfl, by omega, hf, hlo, (new_facts rfl).2.2.1, new_get rfl⟩, KeepB.of (new_facts rfl).1 hf⟩
  · refine ⟨H1, kd, h1, ?_, h3, h4⟩
    rcases h2 with q | ⟨c, q, q2⟩
    · exact .inl q
    · refine .inr ⟨c, q, q2, ?_⟩
      have g1 : Nat.ble (0 + (k + 1) * size) cs.length = false := by
        cases h : Nat.ble (0 + (k + 1) * size) cs.length with
        | false => rfl
        | true => have := Nat.le_of_ble_eq_true h; rw [hcl, Nat.succ_mul] at this; omega
      have g2 : Nat.beq (0 + k * size) cs.length = true := by rw [hcl, Nat.zero_add]; exact Nat.beq_refl _
      have g3 : Nat.ble (k + 1) 1048576 = true := Nat.ble_eq_true_of_le (by omega)
      have w := h1 0 [(0, .slice (some ⟨b, 0, none⟩) k k), (1, .slice a 1 cap2)] none (.tmp 0) (.tmp 1) 0 "" rfl rfl
      unfold heapOp at w
      simp only [evs, ev_frS, show evS [(0, .slice (some ⟨b, 0, none⟩) k k), (1, .slice a 1 cap2)] (.tmp 0) = some (.slice (some ⟨b, 0, none⟩) k k) from rfl, show evS [(0, .slice (some ⟨b, 0, none⟩) k k), (1, .slice a 1 cap2)] (.tmp 1) = some (.slice a 1 cap2) from rfl, builtinV, List.getElem?_toArray, List.getElem?_cons_zero, List.getElem?_cons_succ, he, ht, src_of hs hl, appendV, hg, g1, g2, g3, Nat.beq_refl e, hone, Nat.ble_eq_true_of_le hlb, Bool.and_self, cond_true, cond_false, List.drop_zero, show Nat.beq 1 0 = false from rfl] at w
      rw [q] at w
      simp only [Option.some.injEq, Prod.mk.injEq] at w
      have w2 := w.2
      cases w2
      exact ⟨_, _, rfl⟩
theorem AccB.sl {b0 lo f : Nat} {e : TypeId} {H : Hp} {v : Value} {n : Nat} {cs : List Value} (h : AccB b0 lo f e H v n cs) : ∃ a c, v = .slice a n c ∧ Sl H a n c cs := by
  rcases h with ⟨rfl, rfl, rfl, hb, e0, h0⟩ | ⟨b, rfl, h0, hf, hl, hn, hg⟩
  · exact ⟨_, _, rfl, .inr ⟨b0, rfl, ⟨hb, by unfold cellsOf; rw [h0]⟩, Nat.le_refl _⟩⟩
  · exact ⟨_, _, rfl, .inr ⟨b, rfl, ⟨hn, by unfold cellsOf; rw [hg]⟩, Nat.le_refl _⟩⟩
section
variable {kn : FuncId → Option Bool} {lo : Nat} {H : Hp}
end
end Go.Ax

/-
  Plant: all lists of units, and the first cheapest one of them (written by program).
-/
namespace Go.Ax
open Go Go.RowKit

def lstB (us : List Tn) : Nat → Nat → Bl → List Bl
  | 0, _, b => [b]
  | d + 1, nx, b => runs (fun v => lstB us d (nx + 1) (upd b nx v)) (unF us nx + 1).toNat 0
theorem mem_lstB {us : List Tn} {x : Bl} : ∀ d nx b, nx + d = us.length → x ∈ lstB us d nx b → (∀ i, i < nx → x i = b i) ∧ (∀ i, us.length ≤ i → x i = b i) ∧ (∀ i, nx ≤ i → i < us.length → 0 ≤ x i ∧ x i ≤ unF us i)
  | 0, nx, b, hd, h => by
    have h : x ∈ [b] := h
    rw [List.mem_singleton] at h
    subst h
    exact ⟨fun _ _ => rfl, fun _ _ => rfl, fun i h1 h2 => absurd h1 (by omega)⟩
  | d + 1, nx, b, hd, h => by
    obtain ⟨w, h1, h2, h3⟩ := (mem_runs _ _).1 h
    obtain ⟨a1, a2, a3⟩ := mem_lstB d (nx + 1) (upd b nx w) (by omega) h3
    have xn : x nx = w := by rw [a1 nx (by omega)]; unfold upd; rw [if_pos rfl]
    refine ⟨fun i hi => by rw [a1 i (by omega)]; unfold upd; rw [if_neg (by omega)], fun i hi => by rw [a2 i hi]; unfold upd; rw [if_neg (by omega)], fun i h4 h5 => ?_⟩
    by_cases e : i = nx
    · subst e; rw [xn]; omega
    · exact a3 i (by omega) h5
theorem lstB_mem {us : List Tn} {x : Bl} : ∀ d nx b, nx + d = us.length → (∀ i, i < nx → x i = b i) → (∀ i, us.length ≤ i → x i = b i) → (∀ i, nx ≤ i → i < us.length → 0 ≤ x i ∧ x i ≤ unF us i) → x ∈ lstB us d nx b
  | 0, nx, b, hd, h1, h2, h3 => by
    show x ∈ [b]
    rw [List.mem_singleton]
    funext i
    rcases Nat.lt_or_ge i nx with q | q
    · exact h1 i q
    · exact h2 i (by omega)
  | d + 1, nx, b, hd, h1, h2, h3 => by
    have hn := h3 nx (Nat.le_refl _) (by omega)
    refine (mem_runs _ _).2 ⟨x nx, by omega, by omega, ?_⟩
    refine lstB_mem d (nx + 1) (upd b nx (x nx)) (by omega) (fun i hi => ?_) (fun i hi => ?_) (fun i a c => h3 i (by omega) c)
    · unfold upd
      split
      · rename_i e; rw [e]
      · exact h1 i (by omega)
    · unfold upd; rw [if_neg (by omega)]; exact h2 i hi
theorem lstB_sorted {us : List Tn} : ∀ d nx b, nx + d = us.length → (lstB us d nx b).Pairwise ltB
  | 0, nx, b, _ => List.pairwise_singleton _ _
  | d + 1, nx, b, hd => by
    refine runs_sorted _ _ (fun w _ _ => lstB_sorted d (nx + 1) _ (by omega)) (fun w w' _ hw _ x hx y hy => ?_)
    have a := mem_lstB d (nx + 1) (upd b nx w) (by omega) hx
    have c := mem_lstB d (nx + 1) (upd b nx w') (by omega) hy
    refine ⟨nx, fun j hj => ?_, ?_⟩
    · rw [a.1 j (by omega), c.1 j (by omega)]; unfold upd; rw [if_neg (by omega), if_neg (by omega)]
    · rw [a.1 nx (by omega), c.1 nx (by omega)]; unfold upd; rw [if_pos rfl, if_pos rfl]; exact hw
theorem runs_len {α : Type} {f : Int → List α} {m : Nat} : ∀ (r : Nat) (v : Int), (∀ w, v ≤ w → (f w).length ≤ m) → (runs f r v).length ≤ r * m
  | 0, _, _ => by show 0 ≤ _; omega
  | r + 1, v, h => by
    show (f v ++ runs f r (v + 1)).length ≤ _
    rw [List.length_append, Nat.succ_mul]
    have := h v (Int.le_refl _)
    have := runs_len (f := f) (m := m) r (v + 1) (fun w hw => h w (by omega))
    omega
theorem lstB_len {us : List Tn} (hu : ∀ i, unF us i ≤ 12) : ∀ d nx b, (lstB us d nx b).length ≤ 13 ^ d
  | 0, _, _ => Nat.le_refl _
  | d + 1, nx, b => by
    have h := runs_len (f := fun v => lstB us d (nx + 1) (upd b nx v)) (m := 13 ^ d) (unF us nx + 1).toNat 0 (fun w _ => lstB_len hu d (nx + 1) _)
    have := hu nx
    have h2 : (unF us nx + 1).toNat * 13 ^ d ≤ 13 * 13 ^ d := Nat.mul_le_mul_right _ (by omega)
    rw [Nat.pow_succ, Nat.mul_comm (13 ^ d) 13]
    exact Nat.le_trans h h2
theorem ltB_asymm {b c : Bl} (h : ltB b c) (k : ltB c b) : False := by
  obtain ⟨i, h1, h2⟩ := h
  obtain ⟨j, k1, k2⟩ := k
  rcases Nat.lt_trichotomy i j with q | q | q
  · have := k1 i q; omega
  · subst q; omega
  · have := h1 j q; omega
/-- whether it is a blend, to the document's reference -/
def rtB (us : List Tn) (r : Rc) (b : Bl) : Bool := decide (sm b us.length = r.un) && rigB us r b
def refB (us : List Tn) (r : Rc) (a : Option Bl) (s : List Bl) : Option Bl := (s.filter (rtB us r)).foldl (pickB us) a
theorem refB_cons {us : List Tn} {r : Rc} {a : Option Bl} {o : Bl} {s : List Bl} : refB us r a (o :: s) = refB us r (if rtB us r o = true then pickB us a o else a) s := by
  unfold refB
  cases h : rtB us r o
  · rw [List.filter_cons_of_neg (by simp [h]), if_neg (by simp)]
  · rw [List.filter_cons_of_pos (by simp [h]), if_pos rfl]; rfl
theorem isB_mem {us : List Tn} {r : Rc} {x : Bl} : IsB us r x ↔ x ∈ (lstB us us.length 0 bz).filter (rtB us r) := by
  rw [List.mem_filter]
  constructor
  · intro h
    exact ⟨lstB_mem us.length 0 bz (by omega) (fun i hi => absurd hi (by omega)) (fun i hi => h.z i hi) (fun i _ hi => h.un i hi), by unfold rtB; rw [decide_eq_true h.su, h.ri]; rfl⟩
  · rintro ⟨h, q⟩
    obtain ⟨a1, a2, a3⟩ := mem_lstB us.length 0 bz (by omega) h
    unfold rtB at q
    rw [Bool.and_eq_true] at q
    exact ⟨a2, fun i hi => a3 i (by omega) hi, of_decide_eq_true q.1, q.2⟩
theorem refB_eq {us : List Tn} {r : Rc} (hr : 0 ≤ r.un) : refB us r none (lstB us us.length 0 bz) = bestB us r := by
  have fb := fold_best (us := us) ((lstB us us.length 0 bz).filter (rtB us r)) none
  have ff := fold_first (us := us) ((lstB us us.length 0 bz).filter (rtB us r)) none
  have hs := bestB_says (us := us) (r := r) hr
  unfold refB
  cases hb : ((lstB us us.length 0 bz).filter (rtB us r)).foldl (pickB us) none with
  | none =>
    rw [hb] at fb
    cases hc : bestB us r with
    | none => rfl
    | some c =>
      rw [hc] at hs
      have := isB_mem.1 hs.1
      rw [fb.2] at this
      cases this
  | some b =>
    rw [hb] at fb
    obtain ⟨f1, _, f3, _⟩ := fb
    have hmem : b ∈ (lstB us us.length 0 bz).filter (rtB us r) := by
      rcases f1 with q | q
      · cases q
      · exact q
    have hI := isB_mem.2 hmem
    cases hc : bestB us r with
    | none => rw [hc] at hs; exact absurd hI (hs b)
    | some c =>
      rw [hc] at hs
      obtain ⟨hI2, hmin⟩ := hs
      have hm2 := isB_mem.1 hI2
      have e1 := f3 c hm2
      have e2 := (hmin b hI).1
      have e3 : cosB us b = cosB us c := by omega
      have g1 := (hmin b hI).2 e3
      have g2 := ff b ((lstB_sorted us.length 0 bz (by omega)).filter _) (fun c q => by cases q) hb c (.inr hm2) e3.symm
      rcases g1 with q | q
      · rw [q]
      · rcases g2 with w | w
        · rw [w]
        · exact (ltB_asymm q w).elim
end Go.Ax

/-
  Plant: the document's Blend: all lists (56) (written by program).
-/
namespace Go.Ax
open Go Go.RowKit Go.Proofs

theorem se94 : sliceElem Try.prog 94 = some (42, 1) := by kernel_rfl
theorem z42 : zeroOf Try.prog 42 = some (.slice none 0 0) := by kernel_rfl
theorem u94 : Try.prog.underlying 94 = some (.slice 42) := by kernel_rfl
theorem nf_upd {b : Bl} {nx : Nat} {v : Int} : nf (upd b nx v) (nx + 1) = nf b nx ++ [iv v] := by
  rw [nf_succ, nf_congr (f := upd b nx v) (g := b) (fun k hk => by unfold upd; rw [if_neg (by omega)])]
  unfold upd; rw [if_pos rfl]
/-- a list of numbers that append made, or none -/
def Els (H : Hp) (a : Option Addr) (cap n : Nat) (cs : List Value) : Prop := (n = 0 ∧ a = none ∧ cap = 0 ∧ cs = []) ∨ ∃ b, a = some ⟨b, 0, none⟩ ∧ cap = n ∧ b < H.next ∧ H.t.get b = some (.cells cs 3 true)
theorem Els.sl {H : Hp} {a : Option Addr} {cap n : Nat} {cs : List Value} (h : Els H a cap n cs) : Sl H a n cap cs := by
  rcases h with ⟨rfl, rfl, rfl, rfl⟩ | ⟨b, rfl, rfl, h1, h2⟩
  · exact .inl ⟨.inl rfl, rfl, rfl, rfl⟩
  · exact .inr ⟨b, rfl, ⟨h1, by unfold cellsOf; rw [h2]⟩, Nat.le_refl _⟩
/-- what lies below f stays, and all blocks but those that hold lists of lists -/
structure KL (f : Nat) (H H1 : Hp) : Prop where
  nx : H.next ≤ H1.next
  bl : ∀ b, b < H.next → (b < f ∨ ∀ cs, H.t.get b ≠ some (.cells cs 42 true)) → H1.t.get b = H.t.get b
  ro : ∀ b cs, b < H1.next → H1.t.get b = some (.ro cs) → b < H.next ∧ H.t.get b = some (.ro cs)
theorem KL.of {f : Nat} {H H1 : Hp} (k : Keep H H1 []) : KL f H H1 := ⟨k.1, fun b hb _ => k.2 b hb (by simp), k.3⟩
theorem KL.trans {f : Nat} {H H1 H2 : Hp} (h : KL f H H1) (k : KL f H1 H2) : KL f H H2 :=
  ⟨Nat.le_trans h.nx k.nx, fun b hb q => by
    have e := h.bl b hb q
    rw [← e]
    refine k.bl b (Nat.lt_of_lt_of_le hb h.nx) (q.imp id fun z cs => ?_)
    rw [e]; exact z cs, fun b cs hb hg => by
    obtain ⟨a, c⟩ := k.ro b cs hb hg
    exact h.ro b cs a c⟩
theorem KL.keep {f : Nat} {H0 H H1 : Hp} (k : KL f H H1) (h : Keep H0 H []) (hf : H0.next ≤ f) : Keep H0 H1 [] :=
  ⟨Nat.le_trans h.1 k.nx, fun b hb hn => by rw [k.bl b (Nat.lt_of_lt_of_le hb h.1) (.inl (Nat.lt_of_lt_of_le hb hf)), h.2 b hb hn], fun b cs hb hg => by
    obtain ⟨a, c⟩ := k.ro b cs hb hg
    exact h.3 b cs a c⟩
theorem KL.els {f : Nat} {H H1 : Hp} (k : KL f H H1) {a : Option Addr} {cap n : Nat} {cs : List Value} (h : Els H a cap n cs) : Els H1 a cap n cs :=
  h.imp id fun ⟨b, e1, e2, h1, h2⟩ => ⟨b, e1, e2, Nat.lt_of_lt_of_le h1 k.nx, by rw [k.bl b h1 (.inr fun cs q => by rw [h2] at q; cases q)]; exact h2⟩
theorem KL.sl {f : Nat} {H H1 : Hp} (k : KL f H H1) {a : Option Addr} {cap n : Nat} {cs : List Value} (h : Sl H a n cap cs) (hf : ∀ b, a = some ⟨b, 0, none⟩ → b < f) : Sl H1 a n cap cs :=
  h.imp id fun ⟨b, e1, ⟨h1, h2⟩, q⟩ => ⟨b, e1, ⟨Nat.lt_of_lt_of_le h1 k.nx, by unfold cellsOf at h2 ⊢; rw [k.bl b h1 (.inl (hf b e1))]; exact h2⟩, q⟩
/-- a list of lists that append made -/
def Out (lo f n : Nat) (H : Hp) (v : Value) (L : List Bl) : Prop := ∃ cs, Acc lo f 42 H v L.length cs ∧ cs.length = L.length * 1 ∧ ∀ (i : Nat) (x : Bl), L[i]? = some x → ∃ a cap, cs[i]? = some (Value.slice a n cap) ∧ Els H a cap n (nf x n)
theorem Out.keep {lo f n : Nat} {H H1 : Hp} {v : Value} {L : List Bl} (h : Out lo f n H v L) (k : Keep H H1 []) : Out lo f n H1 v L := by
  obtain ⟨cs, h1, h2, h3⟩ := h
  exact ⟨cs, h1.keep k, h2, fun i x hx => by obtain ⟨a, cap, e, q⟩ := h3 i x hx; exact ⟨a, cap, e, (KL.of (f := 0) k).els q⟩⟩
/-- append of one to what append made (any number) -/
theorem heap_append_big {P : Program} {lo : Nat} {H : Hp} {t0 t1 e ep : TypeId} {k cap2 f : Nat} {a : Option Addr} {v w : Value} {cs : List Value} (he : sliceElem P t0 = some (e, 1)) (ht : P.underlying t1 = some (.slice ep))
    (hs : Sl H a 1 cap2 [w]) (hone : one w = true) (hcl : cs.length = k * 1) (hk : k < 1000000) (ha : Acc lo f e H v k cs) (hlo : lo ≤ H.next) (hf : f ≤ H.next) :
    ∃ H1 kd, (∀ (n : Nat) (S : Rg) (d : Option Tmp) (x y : Operand) (ty : TypeId) (p : String), evS S x = some v → evS S y = some (.slice a 1 cap2) → heapOp P lo (frS n S) H ⟨d, .call ⟨.builtin .append, #[x, y], #[t0, t1]⟩, ty, p, #[], none⟩ = some (.val (.slice (some ⟨H.next, 0, none⟩) (k + 1) (k + 1)) H1, kd)) ∧ (∀ b, kd ≠ .read b) ∧
      Acc lo f e H1 (.slice (some ⟨H.next, 0, none⟩) (k + 1) (k + 1)) (k + 1) (cs ++ [w]) ∧ Keep H H1 (bkv v).toList := by
  have hl : [w].length = 1 * 1 := rfl
  have hone : [w].all one = true := by simp [hone]
  rcases ha with ⟨rfl, rfl, rfl⟩ | ⟨b, rfl, h0, hb, hlb, hn, hg⟩
  · refine ⟨H.new (.cells [w] e true), .heavy, ?_, (fun b e => by cases e), ?_, (new_facts rfl).1.mono (by simp)⟩
    · intro n S d x y ty p hx hy
      unfold heapOp
      simp only [evs, ev_frS, hx, hy, builtinV, List.getElem?_toArray, List.getElem?_cons_zero, List.getElem?_cons_succ, he, ht, src_of hs hl, appendV]
      rfl
    · refine .inr ⟨H.next, rfl, by omega, hf, hlo, Nat.lt_succ_self _, ?_⟩
      show (H.t.set H.next _).get H.next = _
      rw [Tr.get_set, if_pos rfl]; rfl
  · have h1 : Nat.ble (0 + (k + 1) * 1) cs.length = false := by
      cases h : Nat.ble (0 + (k + 1) * 1) cs.length with
      | false => rfl
      | true => have := Nat.le_of_ble_eq_true h; rw [hcl, Nat.succ_mul] at this; omega
    have h2 : Nat.beq (0 + k * 1) cs.length = true := by rw [hcl, Nat.zero_add]; exact Nat.beq_refl _
    have h3 : Nat.ble (k + 1) 1048576 = true := Nat.ble_eq_true_of_le (by omega)
    have h4 : Nat.beq e e = true := Nat.beq_refl e
    refine ⟨({ H with t := H.t.set b .dead } : Hp).new (.cells (cs ++ [w]) e true), .store b, ?_, (fun b e => by cases e), ?_, ?_⟩
    · intro n S d x y ty p hx hy
      unfold heapOp
      simp only [evs, ev_frS, hx, hy, builtinV, List.getElem?_toArray, List.getElem?_cons_zero, List.getElem?_cons_succ, he, ht, src_of hs hl, appendV, hg, h1, h2, h3, h4, hone, Nat.ble_eq_true_of_le hlb, Bool.and_self, cond_true, cond_false, List.drop_zero, show Nat.beq 1 0 = false from rfl]
    · refine .inr ⟨H.next, rfl, by omega, hf, hlo, Nat.lt_succ_self _, ?_⟩
      show ((H.t.set b .dead).set H.next _).get H.next = _
      rw [Tr.get_set, if_pos rfl]
    · refine ⟨Nat.le_succ _, fun c hc hn => ?_, fun c xs hc hx => ?_⟩
      · have hne : c ≠ b := by simpa [bkv] using hn
        show ((H.t.set b .dead).set H.next _).get c = _
        rw [Tr.get_set, if_neg (by omega), Tr.get_set, if_neg hne]
      · have hx : ((H.t.set b .dead).set H.next (.cells (cs ++ [w]) e true)).get c = some (.ro xs) := hx
        have hc : c < H.next + 1 := hc
        rw [Tr.get_set] at hx
        split at hx
        · cases hx
        · rw [Tr.get_set] at hx
          split at hx
          · cases hx
          · exact ⟨by omega, hx⟩
/-- one more list -/
theorem Out.append {lo f n : Nat} {H : Hp} {v : Value} {L : List Bl} {a a1 : Option Addr} {cap c1 : Nat} {x : Bl} (h : Out lo f n H v L) (hx : Els H a cap n (nf x n)) (hs : Sl H a1 1 c1 [.slice a n cap]) (hL : L.length < 1000000) (hlo : lo ≤ H.next) (hf : f ≤ H.next) :
    ∃ v1 H1 kd, (∀ (m : Nat) (S : Rg) (d : Option Tmp) (x y : Operand) (ty : TypeId) (p : String), evS S x = some v → evS S y = some (.slice a1 1 c1) → heapOp Try.prog lo (frS m S) H ⟨d, .call ⟨.builtin .append, #[x, y], #[94, 94]⟩, ty, p, #[], none⟩ = some (.val v1 H1, kd)) ∧ (∀ b, kd ≠ .read b) ∧ Out lo f n H1 v1 (L ++ [x]) ∧ KL f H H1 := by
  obtain ⟨cs, h1, h2, h3⟩ := h
  obtain ⟨H1, kd, e, d, ac, k⟩ := heap_append_big (P := Try.prog) (lo := lo) (t1 := 94) se94 u94 hs rfl h2 hL h1 hlo hf
  have kl : KL f H H1 := by
    refine ⟨k.1, fun b hb q => k.2 b hb fun hm => ?_, k.3⟩
    rcases h1 with ⟨_, _, rfl⟩ | ⟨b1, rfl, _, hf1, _, _, hg⟩
    · simp [bkv] at hm
    · simp [bkv] at hm
      subst hm
      rcases q with q | q
      · omega
      · exact q _ hg
  refine ⟨_, H1, kd, e, d, ⟨cs ++ [.slice a n cap], by rw [List.length_append]; exact ac, by rw [List.length_append, List.length_append, h2]; simp, fun i y hy => ?_⟩, kl⟩
  rcases Nat.lt_or_ge i L.length with q | q
  · rw [List.getElem?_append_left q] at hy
    obtain ⟨a', cap', e', z⟩ := h3 i y hy
    exact ⟨a', cap', by rw [List.getElem?_append_left (by omega)]; exact e', kl.els z⟩
  · rw [List.getElem?_append_right q] at hy
    have e0 : i - L.length = 0 := by
      rcases Nat.eq_zero_or_pos (i - L.length) with z | z
      · exact z
      · rw [List.getElem?_eq_none (by simp; omega)] at hy; cases hy
    rw [e0] at hy
    have hy : x = y := by simpa using hy
    subst hy
    exact ⟨a, cap, by rw [List.getElem?_append_right (by omega), show i - cs.length = 0 by omega]; rfl, kl.els hx⟩
section
variable {kn : FuncId → Option Bool} {lo : Nat} {H : Hp}
theorem lists_zero {us : List Tn} {sa : Option Addr} {cap f : Nat} (hok : us.all Tn.ok = true) (hn5 : us.length ≤ 5) {ba : Option Addr} {bcap : Nat} {v : Value} {L : List Bl} {x : Bl} (he : Els H ba bcap us.length (nf x us.length)) (ho : Out lo f us.length H v L) (hL : L.length + 1 ≤ 1000000) (hlo : lo ≤ H.next) (hf : f ≤ H.next) :
    ∃ w H', FnX Try.prog kn lo 56 [.slice sa us.length cap, .slice ba us.length bcap, v] H w H' ∧ Out lo f us.length H' w (L ++ [x]) ∧ KL f H H' := by
  refine fnX_low (kn := kn) (lo := lo) (H := H) (args := [.slice sa us.length cap, .slice ba us.length bcap, v]) (Q := fun w H' => Out lo f us.length H' w (L ++ [x]) ∧ KL f H H') Try.func56 B56 N56 Z56 L56 (by simp) ?_
  have hk : KL f H H := .of (Keep.refl H [])
  refine wN_seq ?_
  refine wN_mov (v := .slice none 0 0) rfl ?_
  refine wN_end ?_
  refine wN_seq ?_
  refine wN_mov (v := .slice ba us.length bcap) rfl ?_
  refine wN_len (m := us.length) rfl ?_
  refine wN_mov (v := .slice sa us.length cap) rfl ?_
  refine wN_len (m := us.length) rfl ?_
  refine wN_c_eql (a := (us.length : Int)) (b := (us.length : Int)) rfl rfl ?_
  refine wN_end ?_
  refine And.intro (fun q1 => ?_) (fun q1 => ?_)
  · have q1 : (us.length : Int) = (us.length : Int) := by simpa using q1
    refine wN_seq ?_
    refine wN_mov (v := v) rfl ?_
    refine wN_mov (v := .slice ba us.length bcap) rfl ?_
    obtain ⟨H1, hH1⟩ : ∃ H1, H.new (.cells [.slice ba us.length bcap] 42 false) = H1 := ⟨_, rfl⟩
    refine wN_memh (H' := H1) (k := .heavy) rfl (by kernel_rfl) ((heap_build1 (v := .slice ba us.length bcap) se94 z42 rfl rfl rfl (by decide)).trans (by rw [← hH1]; rfl)) (fun b e => by cases e) ?_
    obtain ⟨kH1, nH1, c1⟩ := new_facts hH1; clear hH1
    have c1 : Cl H1 H.next [.slice ba us.length bcap] := c1
    have mH1 := kH1.1
    have hk := hk.trans (.of kH1)
    have ho := ho.keep kH1
    have he := (KL.of (f := f) kH1).els he
    obtain ⟨vH2, H2, kdH2, eH2, dH2, oH2, kH2⟩ := ho.append he (c1.sl (Nat.le_refl 1)) (by omega) (by omega) (by omega)
    refine wN_memh (k := kdH2) rfl (by rcases ho with ⟨_, ⟨_, _, rfl⟩ | ⟨_, rfl, _⟩, _⟩ <;> kernel_rfl) (eH2 _ _ _ _ _ _ _ rfl rfl) (fun b q => absurd q (dH2 b)) ?_
    refine wN_mov (v := vH2) rfl ?_
    refine wN_end ?_
    exact And.intro trivial (Exists.intro _ (And.intro rfl ⟨oH2, hk.trans kH2⟩))
  · have q1 : ¬ ((us.length : Int) = (us.length : Int)) := by simpa using q1
    exact absurd rfl q1
theorem lists_succ {us : List Tn} {sa : Option Addr} {cap f : Nat} (hok : us.all Tn.ok = true) (hn5 : us.length ≤ 5) (fs : ∀ b, sa = some ⟨b, 0, none⟩ → b < f) {d nx : Nat} (hd : nx + (d + 1) = us.length) (ih : ∀ (x : Bl) (L : List Bl) {ba : Option Addr} {bcap : Nat} {v : Value} {H : Hp}, Sl H sa us.length cap (tnc us) → Els H ba bcap (nx + 1) (nf x (nx + 1)) → Out lo f us.length H v L → L.length + (lstB us d (nx + 1) x).length ≤ 1000000 → lo ≤ H.next → f ≤ H.next → ∃ w H', FnX Try.prog kn lo 56 [.slice sa us.length cap, .slice ba (nx + 1) bcap, v] H w H' ∧ Out lo f us.length H' w (L ++ lstB us d (nx + 1) x) ∧ KL f H H') {ba : Option Addr} {bcap : Nat} {v : Value} {L : List Bl} {x : Bl} (hs : Sl H sa us.length cap (tnc us)) (he : Els H ba bcap nx (nf x nx)) (ho : Out lo f us.length H v L) (hL : L.length + (lstB us (d + 1) nx x).length ≤ 1000000) (hlo : lo ≤ H.next) (hf : f ≤ H.next) :
    ∃ w H', FnX Try.prog kn lo 56 [.slice sa us.length cap, .slice ba nx bcap, v] H w H' ∧ Out lo f us.length H' w (L ++ lstB us (d + 1) nx x) ∧ KL f H H' := by
  refine fnX_low (kn := kn) (lo := lo) (H := H) (args := [.slice sa us.length cap, .slice ba nx bcap, v]) (Q := fun w H' => Out lo f us.length H' w (L ++ lstB us (d + 1) nx x) ∧ KL f H H') Try.func56 B56 N56 Z56 L56 (by simp) ?_
  have hk : KL f H H := .of (Keep.refl H [])
  refine wN_seq ?_
  refine wN_mov (v := .slice none 0 0) rfl ?_
  refine wN_end ?_
  refine wN_seq ?_
  refine wN_mov (v := .slice ba nx bcap) rfl ?_
  refine wN_len (m := nx) rfl ?_
  refine wN_mov (v := .slice sa us.length cap) rfl ?_
  refine wN_len (m := us.length) rfl ?_
  refine wN_c_eql (a := (nx : Int)) (b := (us.length : Int)) rfl rfl ?_
  refine wN_end ?_
  refine And.intro (fun q1 => ?_) (fun q1 => ?_)
  · have q1 : (nx : Int) = (us.length : Int) := by simpa using q1
    omega
  · have q1 : ¬ ((nx : Int) = (us.length : Int)) := by simpa using q1
    first | refine wN_skip ?_ | skip
    refine wN_seq ?_
    refine wN_mov (v := iv 0) rfl ?_
    refine wN_end ?_
    refine loop_low (fn := Try.f56) E56_1 N56 L56x1 (fun z : Int × Value => [(0, .slice sa us.length cap), (1, .slice ba nx bcap), (2, z.2), (7, iv z.1)])
      (fun k z H' => k = (unF us nx + 1 - z.1).toNat ∧ 0 ≤ z.1 ∧ KL f H H' ∧ Sl H' sa us.length cap (tnc us) ∧ Els H' ba bcap nx (nf x nx) ∧ ∃ L2, Out lo f us.length H' z.2 L2 ∧ L ++ lstB us (d + 1) nx x = L2 ++ runs (fun w => lstB us d (nx + 1) (upd x nx w)) k z.1) (unF us nx + 1 - 0).toNat (0, v) ⟨rfl, Int.le_refl _, hk, hs, he, L, ho, by rw [show (unF us nx + 1 - 0).toNat = (unF us nx + 1).toNat by simp]; rfl⟩ ⟨rfl, rfl, rfl, rfl, trivial⟩ ?_
    rintro k ⟨i, y⟩ L1 ⟨hkv, h0, hk, hs, he, ho⟩
    simp only at hkv h0 ho ⊢
    obtain ⟨L2, ho, hsum⟩ := ho
    have mki := hk.nx
    refine wN_seq ?_
    refine wN_mov (v := iv i) rfl ?_
    refine wN_mov (v := .slice sa us.length cap) rfl ?_
    refine wN_mov (v := .slice ba nx bcap) rfl ?_
    refine wN_len (m := nx) rfl ?_
    rcases id hs with ⟨_, h0, _⟩ | ⟨sb, es, rs, _⟩
    · omega
    have lsb := rs.lt
    have ht := (Tn.ok_t (tn_at hok (show nx < us.length by omega))).1
    have eu : unF us nx = (us.getD nx Tn.z).un := rfl
    refine wN_idx (b := sb) (o := 0) (k := nx) (j := (nx : Int)) (by rw [← es]; rfl) rfl rfl (by omega) ?_
    refine wN_addo (b := sb) (o := 0 + nx * 5) rfl ?_
    refine wN_ld (b := sb) (o := 0 + nx * 5) (v := iv (us.getD nx Tn.z).un) rfl rs (tnc_atF (j := 0) (by omega) rfl) ?_
    refine wN_c_leq (a := i) (b := (us.getD nx Tn.z).un) rfl rfl ?_
    refine wN_end ?_
    refine And.intro (fun q2 => ?_) (fun q2 => ?_)
    · have q2 : i ≤ ((us.getD nx Tn.z).un) := of_decide_eq_true q2
      obtain ⟨k, rfl⟩ : ∃ q, k = q + 1 := ⟨k - 1, by omega⟩
      have hsum : L ++ lstB us (d + 1) nx x = L2 ++ (lstB us d (nx + 1) (upd x nx i) ++ runs (fun w => lstB us d (nx + 1) (upd x nx w)) k (i + 1)) := hsum
      have hlen := congrArg List.length hsum
      rw [List.length_append, List.length_append, List.length_append] at hlen
      have kacc := Keep.refl L1 []
      have hoL := ho
      have heL := he
      have hsL := hs
      have hkL := hk
      first | refine wN_skip ?_ | skip
      first | refine wN_reg ?_ | refine wN_blk ?_ | refine wN_bseq ?_ | (refine wOps_nil ?_; refine wN_reg ?_)
      refine wN_mov (v := .slice sa us.length cap) rfl ?_
      obtain ⟨H1, hH1⟩ : ∃ H1, L1.new (.cells [] 3 false) = H1 := ⟨_, rfl⟩
      refine wN_memh (H' := H1) (k := .heavy) rfl (by kernel_rfl) ((heap_build0 se42 z3).trans (by rw [hH1])) (fun b e => by cases e) ?_
      obtain ⟨kH1, nH1, cH1⟩ := new_facts hH1
      have gH1 := new_get hH1
      have mH1 := kH1.1
      have hk := hk.trans (.of kH1)
      have ho := ho.keep kH1
      have he := (KL.of (f := f) kH1).els he
      have hs := (KL.of (f := f) kH1).sl hs fs
      have kacc := kacc.trans kH1
      refine wN_mov (v := .slice ba nx bcap) rfl ?_
      obtain ⟨vH2, H2, kdH2, eH2, dH2, ac, kH2⟩ := heap_append_first (P := Try.prog) (lo := lo) (H := H1) (f := L1.next) (t0 := 42) (t1 := 42) (e := 3) (b0 := L1.next) se42 u42 he.sl (by rw [nf_len, Nat.mul_one]) (by omega) (by decide) gH1 (by omega) (by omega) (by omega) (by omega)
      refine wN_memh (k := kdH2) rfl (by kernel_rfl) (eH2 _ _ _ _ _ _ _ rfl rfl) (fun b q => by rcases dH2 with z | z <;> rw [z] at q <;> cases q) ?_
      have mH2 := kH2.1
      have hk := hk.trans (.of kH2)
      have ho := ho.keep kH2
      have he := (KL.of (f := f) kH2).els he
      have hs := (KL.of (f := f) kH2).sl hs fs
      have kacc := kacc.trans kH2
      refine wN_mov (v := iv i) rfl ?_
      obtain ⟨H3, hH3⟩ : ∃ H3, H2.new (.cells [iv i] 3 false) = H3 := ⟨_, rfl⟩
      refine wN_memh (H' := H3) (k := .heavy) rfl (by kernel_rfl) ((heap_build1 (v := iv i) se42 z3 rfl rfl rfl (by decide)).trans (by rw [← hH3]; rfl)) (fun b e => by cases e) ?_
      obtain ⟨kH3, nH3, c3⟩ := new_facts hH3; clear hH3
      have c3 : Cl H3 H2.next [iv i] := c3
      have mH3 := kH3.1
      have hk := hk.trans (.of kH3)
      have ho := ho.keep kH3
      have he := (KL.of (f := f) kH3).els he
      have hs := (KL.of (f := f) kH3).sl hs fs
      have kacc := kacc.trans kH3
      have ac := ac.keep kH3
      obtain ⟨H4, kdH4, eH4, dH4, ac2, kbH4⟩ := heap_append_at (P := Try.prog) (lo := lo) (H := H3) (k := nx) (t1 := 42) se42 u42 (c3.sl (Nat.le_refl 1)) rfl (by decide) rfl (by rw [nf_len, Nat.mul_one]) (by omega) ac (by omega) (by omega)
      refine wN_memh (k := kdH4) rfl (by rcases ac with ⟨_, _, rfl, _⟩ | ⟨_, rfl, _⟩ <;> kernel_rfl) (eH4 _ _ _ _ _ _ _ rfl rfl) (fun b q => by rcases dH4 with z | ⟨_, z, _⟩ <;> rw [z] at q <;> cases q) ?_
      rw [← nf_upd] at ac2
      have kkH4 : Keep L1 H4 [] := kbH4.keep kacc (Nat.le_refl _)
      have mH4 := kbH4.1
      have he2 : Els H4 (some ⟨H3.next, 0, none⟩) (nx + 1) (nx + 1) (nf (upd x nx i) (nx + 1)) := by
        rcases ac2 with ⟨q, _⟩ | ⟨b, q, _, _, _, q1, q2⟩
        · omega
        · cases q; exact .inr ⟨_, rfl, rfl, q1, q2⟩
      have ho := hoL.keep kkH4
      have he := (KL.of (f := f) kkH4).els heL
      have hs := (KL.of (f := f) kkH4).sl hsL fs
      have hk := hkL.trans (.of kkH4)
      refine wN_mov (v := y) rfl ?_
      obtain ⟨vH5, H5, fH5, oH5, kH5⟩ := ih (upd x nx i) L2 (v := y) (H := H4) hs he2 ho (by omega) (by omega) (by omega)
      refine wN_callf (vs := [.slice sa us.length cap, .slice (some ⟨H3.next, 0, none⟩) (nx + 1) (nx + 1), y]) rfl (callX_args fH5) ?_
      have mH5 := kH5.nx
      have ho := oH5
      have he := kH5.els he
      have hs := kH5.sl hs fs
      have hk := hk.trans kH5
      refine wN_mov (v := vH5) rfl ?_
      refine wN_end ?_
      first | refine wN_reg ?_ | refine wN_blk ?_ | refine wN_bseq ?_ | (refine wOps_nil ?_; refine wN_reg ?_)
      refine wN_mov (v := iv i) rfl ?_
      refine wN_add (a := i) (b := 1) rfl rfl ⟨by omega, by omega⟩ ?_
      refine wN_mov (v := iv (i + 1)) rfl ?_
      refine wN_end ?_
      exact ⟨k, (i + 1, vH5), by omega, ⟨by simp only; omega, by simp only; omega, hk, hs, he, _, ho, by rw [hsum, List.append_assoc]⟩, rfl, rfl, rfl, rfl, trivial⟩
    · have q2 : ¬ (i ≤ ((us.getD nx Tn.z).un)) := of_decide_eq_false q2
      have k0 : k = 0 := by omega
      subst k0
      have hsum : L ++ lstB us (d + 1) nx x = L2 ++ [] := hsum
      rw [List.append_nil] at hsum
      first | (refine wN_exit ?_; show wC _ _ _ _ _ _ _ _ _) | skip
      refine wN_seq ?_
      refine wN_mov (v := y) rfl ?_
      refine wN_mov (v := y) rfl ?_
      refine wN_end ?_
      exact And.intro trivial (Exists.intro _ (And.intro rfl ⟨by rw [hsum]; exact ho, hk⟩))
/-- lists -/
theorem lists_ok {us : List Tn} {sa : Option Addr} {cap f : Nat} (hok : us.all Tn.ok = true) (hn5 : us.length ≤ 5) (fs : ∀ b, sa = some ⟨b, 0, none⟩ → b < f) : ∀ (d nx : Nat) (x : Bl) (L : List Bl) {ba : Option Addr} {bcap : Nat} {v : Value} {H : Hp}, nx + d = us.length → Sl H sa us.length cap (tnc us) → Els H ba bcap nx (nf x nx) → Out lo f us.length H v L → L.length + (lstB us d nx x).length ≤ 1000000 → lo ≤ H.next → f ≤ H.next → ∃ w H', FnX Try.prog kn lo 56 [.slice sa us.length cap, .slice ba nx bcap, v] H w H' ∧ Out lo f us.length H' w (L ++ lstB us d nx x) ∧ KL f H H'
  | 0, nx, x, L, ba, bcap, v, H, hd, hs, he, ho, hL, hlo, hf => by
    obtain rfl : nx = us.length := by omega
    exact lists_zero hok hn5 he ho hL hlo hf
  | d + 1, nx, x, L, ba, bcap, v, H, hd, hs, he, ho, hL, hlo, hf =>
    lists_succ hok hn5 fs hd (fun x L ba bcap v H hs he ho hL hlo hf => lists_ok hok hn5 fs d (nx + 1) x L (by omega) hs he ho hL hlo hf) hs he ho hL hlo hf
end
end Go.Ax

/-
  Plant: when lots are frozen, late lots, the least rate (written by program).
-/
namespace Go.Ax
open Go Go.RowKit

section
variable {L : Nat → Nat} {rd ms du : Nat → Int} {R : Int} {n : Nat}
end
structure FzOk (us : List Fz) : Prop where
  m : ∀ x, x < us.length → 0 ≤ msF us x ∧ msF us x ≤ 1099511627776
  a : ∀ x, x < us.length → 0 ≤ rdF us x
  d : ∀ x, x < us.length → rdF us x ≤ duF us x ∧ duF us x ≤ 500
theorem FzOk.of {us : List Fz} (h : us.all Fz.ok = true) : FzOk us := ⟨fun x hx => (all_at h hx).2.2, fun x hx => (all_at h hx).2.1.1, fun x hx => ⟨(all_at h hx).2.1.2, (all_at h hx).1.2⟩⟩
end Go.Ax

/-
  Plant: Frozen, Late, the law PlantInTime (written by program).
-/
namespace Go.Ax
open Go Go.RowKit Go.Proofs

section
variable {kn : FuncId → Option Bool} {lo : Nat} {H : Hp}
end
end Go.Ax

/-! The law PlantFaster's code, an addition that may wrap left as it is (written by program). -/
namespace Go.Ax
open Go Go.RowKit Go.Proofs
end Go.Ax

/-
  Plant: Rate, Late, Freezes, the law PlantFaster (written by program).
-/
namespace Go.Ax
open Go Go.RowKit Go.Proofs

section
variable {kn : FuncId → Option Bool} {lo : Nat} {H : Hp}
end
end Go.Ax

/-
  Plant: the document's way to freeze: the next lot, again and again (written by program).
-/
namespace Go.Ax
open Go Go.RowKit

/-- the lot that is taken next, of the first k -/
def nx (us : List Fz) (g : Nat → Int) (h : Int) : Nat → Int
  | 0 => -1
  | k + 1 => if (rdF us k ≤ h ∧ 0 < g k) ∧ (nx us g h k < 0 ∨ duF us k < duF us (nx us g h k).toNat) then (k : Int) else nx us g h k
section
variable {L : Nat → Nat} {rd left dn : Nat → Int} {h R : Int} {n k : Nat}
end
end Go.Ax

/-
  Plant: the document's Frozen and Rate, the law PlantFreezes (written by program).
-/
namespace Go.Ax
open Go Go.RowKit Go.Proofs

section
variable {kn : FuncId → Option Bool} {lo : Nat} {H : Hp}
end
end Go.Ax

/-
  Plant: the document's Rate, Ints, the law PlantFreezes (written by program).
-/
namespace Go.Ax
open Go Go.RowKit Go.Proofs

section
variable {kn : FuncId → Option Bool} {lo : Nat} {H : Hp}
/-- the document's Ints, of the same -/
theorem ints27_ok {g : Nat → Int} {a1 a2 : Option Addr} {n c1 c2 m : Nat} (h1 : Sl H a1 n c1 (nf g m)) (h2 : Sl H a2 n c2 (nf g m)) (hnm : n ≤ m) (hn2 : n ≤ 1000000) : ∃ H', FnX Try.prog kn lo 27 [.slice a1 n c1, .slice a2 n c2] H (.bool true) H' ∧ Keep H H' [] := by
  have key := fnX_low (kn := kn) (lo := lo) (H := H) (args := [.slice a1 n c1, .slice a2 n c2]) (Q := fun w H' => w = .bool true ∧ Keep H H' []) Try.func27 B27 N27 Z27 L27 (by simp) ?_
  · obtain ⟨w, H', h, rfl, q⟩ := key; exact ⟨H', h, q⟩
  have hk := Keep.refl H []
  refine wN_seq ?_
  refine wN_mov (v := .bool false) rfl ?_
  refine wN_end ?_
  refine wN_seq ?_
  refine wN_mov (v := .slice a1 n c1) rfl ?_
  refine wN_len (m := n) rfl ?_
  refine wN_mov (v := .slice a2 n c2) rfl ?_
  refine wN_len (m := n) rfl ?_
  refine wN_c_neq (a := (n : Int)) (b := (n : Int)) rfl rfl ?_
  refine wN_end ?_
  refine And.intro (fun q1 => ?_) (fun q1 => ?_)
  · have q1 : (n : Int) ≠ (n : Int) := by simpa using q1
    exfalso; omega
  · have q1 : ¬ ((n : Int) ≠ (n : Int)) := by simpa using q1
    first | refine wN_skip ?_ | skip
    refine wN_seq ?_
    refine wN_mov (v := iv 0) rfl ?_
    refine wN_end ?_
    refine loop_low (fn := Try.f27) E27_1 N27 L27x1 (fun i : Nat => [(0, .slice a1 n c1), (1, .slice a2 n c2), (5, iv (i : Int))])
      (fun k i H' => i + k = n ∧ Keep H H' [] ∧ Sl H' a1 n c1 (nf g m) ∧ Sl H' a2 n c2 (nf g m)) n 0 ⟨by omega, hk, h1, h2⟩ ⟨rfl, rfl, rfl, trivial⟩ ?_
    rintro k i L1 ⟨hik, hk, h1, h2⟩
    refine wN_seq ?_
    refine wN_mov (v := iv (i : Int)) rfl ?_
    refine wN_mov (v := .slice a1 n c1) rfl ?_
    refine wN_len (m := n) rfl ?_
    refine wN_c_lss (a := (i : Int)) (b := (n : Int)) rfl rfl ?_
    refine wN_end ?_
    refine And.intro (fun q2 => ?_) (fun q2 => ?_)
    · have q2 : (i : Int) < (n : Int) := of_decide_eq_true q2
      have hi : i < n := by omega
      rcases id h1 with ⟨_, h0, _⟩ | ⟨b1, e1, r1, _⟩
      · omega
      rcases id h2 with ⟨_, h0, _⟩ | ⟨b2, e2, r2, _⟩
      · omega
      first | refine wN_skip ?_ | skip
      refine wD_seq ?_
      refine wD_mov (v := .slice a1 n c1) rfl ?_
      refine wD_mov (v := iv (i : Int)) rfl ?_
      refine wD_idx (b := b1) (o := 0) (k := i) (j := (i : Int)) (by rw [← e1]; rfl) rfl rfl hi ?_
      refine wD_ld (b := b1) (o := 0 + i * 1) (v := iv (g i)) rfl r1 (nf_at (f := g) (by omega)) ?_
      refine wD_mov (v := .slice a2 n c2) rfl ?_
      refine wD_mov (v := iv (i : Int)) rfl ?_
      refine wD_idx (b := b2) (o := 0) (k := i) (j := (i : Int)) (by rw [← e2]; rfl) rfl rfl hi ?_
      refine wD_ld (b := b2) (o := 0 + i * 1) (v := iv (g i)) rfl r2 (nf_at (f := g) (by omega)) ?_
      refine wD_c_neq (a := g i) (b := g i) rfl rfl ?_
      rw [show (g i != g i) = false by simp]
      refine wD_end (by repeat' first | exact True.intro | exact (fun h => h) | refine And.intro ?_ ?_ | (intro h; have h : (_ : Nat) = _ := h; omega)) ?_
      refine condF ?_
      first | refine wN_skip ?_ | skip
      first | refine wN_reg ?_ | refine wN_blk ?_ | refine wN_bseq ?_ | (refine wOps_nil ?_; refine wN_reg ?_)
      refine wN_mov (v := iv (i : Int)) rfl ?_
      refine wN_add (a := (i : Int)) (b := 1) rfl rfl ⟨by omega, by omega⟩ ?_
      refine wN_mov (v := iv ((i : Int) + 1)) rfl ?_
      refine wN_end ?_
      exact ⟨k - 1, i + 1, by omega, ⟨by omega, hk, h1, h2⟩, rfl, rfl, rfl, trivial⟩
    · have q2 : ¬ ((i : Int) < (n : Int)) := of_decide_eq_false q2
      first | (refine wN_exit ?_; show wC _ _ _ _ _ _ _ _ _) | skip
      refine wN_seq ?_
      refine wN_mov (v := .bool true) rfl ?_
      refine wN_end ?_
      exact And.intro trivial (Exists.intro _ (And.intro rfl ⟨rfl, hk⟩))
end
end Go.Ax

/-
  Plant: the document's Blend, the law PlantBlends (written by program).
-/
namespace Go.Ax
open Go Go.RowKit Go.Proofs

def bsV (us : List Tn) : Option (Bl × Option Addr × Nat) → Value
  | none => .slice none 0 0
  | some (_, a, c) => .slice a us.length c
def bsL (us : List Tn) : Option (Bl × Option Addr × Nat) → Int
  | none => -1
  | some (b, _, _) => cosB us b
theorem cosB_nn {us : List Tn} {b : Bl} (hb : ∀ i, 0 ≤ b i ∧ b i ≤ 12) (hok : us.all Tn.ok = true) : 0 ≤ cosB us b :=
  (sumB_in (f := Tn.pr) (m := 1048576) hb (by decide) (fun i hi => by have z := Tn.ok_t (tn_at hok hi); exact ⟨by omega, by omega⟩) us.length (Nat.le_refl _)).1
theorem unF_le {us : List Tn} (hok : us.all Tn.ok = true) (i : Nat) : unF us i ≤ 12 := by
  unfold unF
  rcases Nat.lt_or_ge i us.length with q | q
  · exact (Tn.ok_t (tn_at hok q)).1.2
  · rw [List.getD_eq_getElem?_getD, List.getElem?_eq_none q]; show (0 : Int) ≤ 12; decide
theorem lstB_big {us : List Tn} (hok : us.all Tn.ok = true) (h5 : us.length ≤ 5) (x : Bl) : (lstB us us.length 0 x).length ≤ 1000000 := by
  have h := lstB_len (unF_le hok) us.length 0 x
  have h2 : 13 ^ us.length ≤ 13 ^ 5 := Nat.pow_le_pow_right (by decide) h5
  have e : 13 ^ 5 = 371293 := by decide
  omega
theorem lstB_ok {us : List Tn} {x : Bl} (hok : us.all Tn.ok = true) {i : Nat} (h : (lstB us us.length 0 bz)[i]? = some x) : (∀ j, 0 ≤ x j ∧ x j ≤ 12) ∧ ∀ j, j < us.length → x j ≤ (us.getD j Tn.z).un := by
  obtain ⟨_, a2, a3⟩ := mem_lstB us.length 0 bz (by omega) (List.mem_of_getElem? h)
  refine ⟨fun j => ?_, fun j hj => (a3 j (by omega) hj).2⟩
  rcases Nat.lt_or_ge j us.length with q | q
  · have := a3 j (by omega) q
    have := unF_le hok j
    omega
  · rw [a2 j q]; exact ⟨Int.le_refl _, (by decide : (0 : Int) ≤ 12)⟩
theorem drop_at {α : Type} {l : List α} {i : Nat} {x : α} (h : l[i]? = some x) : l.drop i = x :: l.drop (i + 1) := by
  obtain ⟨hi, e⟩ := List.getElem?_eq_some_iff.1 h
  rw [List.drop_eq_getElem_cons hi, e]
section
variable {kn : FuncId → Option Bool} {lo : Nat} {H : Hp}
theorem tanks35g_ok {sa : Option Addr} {cap : Nat} {us : List Tn} (hs : Sl H sa us.length cap (tnc us)) (hn2 : us.length ≤ 1000000) (hlo : lo ≤ H.next) : ∃ H', FnX Try.prog kn lo 35 [.slice sa us.length cap] H (.bool (us.all Tn.ok)) H' ∧ Keep H H' [] := by
  have key := fnX_low (kn := kn) (lo := lo) (H := H) (args := [.slice sa us.length cap]) (Q := fun w H' => w = .bool (us.all Tn.ok) ∧ Keep H H' []) Try.func35 B35 N35 Z35 L35 (by simp) ?_
  · obtain ⟨w, H', h, rfl, q⟩ := key; exact ⟨H', h, q⟩
  have hk := Keep.refl H []
  have fs := hs.old
  refine wN_seq ?_
  refine wN_mov (v := .bool false) rfl ?_
  refine wN_end ?_
  refine wN_seq ?_
  refine wN_mov (v := iv 0) rfl ?_
  refine wN_end ?_
  refine loop_low (fn := Try.f35) E35_1 N35 L35x1 (fun i : Nat => [(0, .slice sa us.length cap), (3, iv (i : Int))])
    (fun k i H' => i + k = us.length ∧ Keep H H' [] ∧ Sl H' sa us.length cap (tnc us) ∧ (us.take i).all Tn.ok = true) us.length 0 ⟨by omega, hk, hs, rfl⟩ ⟨rfl, rfl, trivial⟩ ?_
  rintro k i L1 ⟨hik, hk, hs, hall⟩
  have mki := hk.1
  have fs := hs.old
  refine wN_seq ?_
  refine wN_mov (v := iv (i : Int)) rfl ?_
  refine wN_mov (v := .slice sa us.length cap) rfl ?_
  refine wN_len (m := us.length) rfl ?_
  refine wN_c_lss (a := (i : Int)) (b := (us.length : Int)) rfl rfl ?_
  refine wN_end ?_
  refine And.intro (fun q1 => ?_) (fun q1 => ?_)
  · have q1 : (i : Int) < (us.length : Int) := of_decide_eq_true q1
    rcases id hs with ⟨_, h0, _⟩ | ⟨sb, es, rs, _⟩
    · omega
    have lsb := rs.lt
    obtain ⟨x, hx⟩ := get_some (l := us) (i := i) (by omega)
    have ex := Tn.at hx
    have hst := all_step (f := Tn.ok) hx
    first | refine wN_skip ?_ | skip
    refine wN_seq ?_
    refine wN_mov (v := .slice sa us.length cap) rfl ?_
    refine wN_mov (v := iv (i : Int)) rfl ?_
    refine wN_idx (b := sb) (o := 0) (k := i) (j := (i : Int)) (by rw [← es]; rfl) rfl rfl (by omega) ?_
    refine wN_lda (b := sb) (o := 0 + i * 5) rfl rs (tnc_rowF (by omega)) ?_
    refine wN_alc ?_
    intro H1 kH1 nH1 c1
    have c1 : Cl H1 L1.next [iv 0, iv 0, iv 0, iv 0, iv 0] := c1
    have mH1 := kH1.1
    have hk := hk.trans kH1
    have hs := kH1.sl0 hs
    have rs := kH1.rd rs (by simp)
    refine wN_sta (b := L1.next) (o := 0) rfl rfl c1 (by omega) rfl rfl (by simp) ?_
    intro H2 kH2 nH2 sH2
    have mH2 := kH2.1
    have hk := hk.new kH2 (fun b hb => by simp at hb ⊢; omega)
    have hs := kH2.sl hs (fun b e => by have := fs b e; first | (simp; done) | (simp; omega))
    have rs := kH2.rd rs (by first | (simp; done) | (simp; omega))
    have c1 : Cl H2 L1.next [iv ((us.getD i Tn.z).un), iv ((us.getD i Tn.z).su), iv ((us.getD i Tn.z).ac), iv ((us.getD i Tn.z).co), iv ((us.getD i Tn.z).pr)] := sH2
    refine wN_end ?_
    refine wN_seq ?_
    refine wN_addo (b := L1.next) (o := 0) rfl ?_
    refine wN_ld (b := L1.next) (o := 0) (v := iv ((us.getD i Tn.z).un)) rfl c1.rd rfl ?_
    refine wN_callB rfl (in50_ok) ?_
    intro tH3 H3 hH3 kH3
    have mH3 := kH3.1
    have hk := hk.trans kH3
    have hs := kH3.sl0 hs
    have rs := kH3.rd rs (by simp)
    have c1 := kH3.cl c1 (by simp)
    cases tH3
    · have hbad := inB_f hH3
      refine wN_pur (v := .bool true) rfl rfl ?_
      refine wN_mov (v := .bool true) rfl ?_
      refine wN_gs rfl ?_
      refine wN_gs rfl ?_
      refine wN_gs rfl ?_
      refine wN_gs rfl ?_
      refine wN_pur (v := .bool true) rfl rfl ?_
      refine wN_mov (v := .bool true) rfl ?_
      refine wN_gs rfl ?_
      refine wN_gs rfl ?_
      refine wN_gs rfl ?_
      refine wN_gs rfl ?_
      refine wN_pur (v := .bool true) rfl rfl ?_
      refine wN_mov (v := .bool true) rfl ?_
      refine wN_gs rfl ?_
      refine wN_gs rfl ?_
      refine wN_gs rfl ?_
      refine wN_gs rfl ?_
      refine wN_pur (v := .bool true) rfl rfl ?_
      refine wN_mov (v := .bool true) rfl ?_
      refine wN_gs rfl ?_
      refine wN_gs rfl ?_
      refine wN_gs rfl ?_
      refine wN_gs rfl ?_
      refine wN_pur (v := .bool true) rfl rfl ?_
      refine wN_end ?_
      refine condT ?_
      refine wN_seq ?_
      refine wN_mov (v := .bool false) rfl ?_
      refine wN_end ?_
      exact And.intro trivial (Exists.intro _ (And.intro rfl ⟨by rw [all_fail hx (by rw [← ex]; cases z : Tn.ok (us.getD i Tn.z) with
          | false => rfl
          | true => have := Tn.ok_t z; exact absurd hbad (by omega))]; rfl, hk⟩))
    · have ghH3 := inB_t hH3
      refine wN_pur (v := .bool false) rfl rfl ?_
      refine wN_mov (v := .bool false) rfl ?_
      refine wN_g rfl (wN_addo (b := L1.next) (o := 0) rfl ?_)
      refine wN_g rfl (wN_ld (b := L1.next) (o := 1) (v := iv ((us.getD i Tn.z).su)) rfl c1.rd rfl ?_)
      refine wN_g rfl (wN_callB rfl (in50_ok) ?_)
      intro tH4 H4 hH4 kH4
      have mH4 := kH4.1
      have hk := hk.trans kH4
      have hs := kH4.sl0 hs
      have rs := kH4.rd rs (by simp)
      have c1 := kH4.cl c1 (by simp)
      cases tH4
      · have hbad := inB_f hH4
        refine wN_g rfl (wN_pur (v := .bool true) rfl rfl ?_)
        refine wN_pur (v := .bool true) rfl rfl ?_
        refine wN_mov (v := .bool true) rfl ?_
        refine wN_gs rfl ?_
        refine wN_gs rfl ?_
        refine wN_gs rfl ?_
        refine wN_gs rfl ?_
        refine wN_pur (v := .bool true) rfl rfl ?_
        refine wN_mov (v := .bool true) rfl ?_
        refine wN_gs rfl ?_
        refine wN_gs rfl ?_
        refine wN_gs rfl ?_
        refine wN_gs rfl ?_
        refine wN_pur (v := .bool true) rfl rfl ?_
        refine wN_mov (v := .bool true) rfl ?_
        refine wN_gs rfl ?_
        refine wN_gs rfl ?_
        refine wN_gs rfl ?_
        refine wN_gs rfl ?_
        refine wN_pur (v := .bool true) rfl rfl ?_
        refine wN_end ?_
        refine condT ?_
        refine wN_seq ?_
        refine wN_mov (v := .bool false) rfl ?_
        refine wN_end ?_
        exact And.intro trivial (Exists.intro _ (And.intro rfl ⟨by rw [all_fail hx (by rw [← ex]; cases z : Tn.ok (us.getD i Tn.z) with
            | false => rfl
            | true => have := Tn.ok_t z; exact absurd hbad (by omega))]; rfl, hk⟩))
      · have ghH4 := inB_t hH4
        refine wN_g rfl (wN_pur (v := .bool false) rfl rfl ?_)
        refine wN_pur (v := .bool false) rfl rfl ?_
        refine wN_mov (v := .bool false) rfl ?_
        refine wN_g rfl (wN_addo (b := L1.next) (o := 0) rfl ?_)
        refine wN_g rfl (wN_ld (b := L1.next) (o := 2) (v := iv ((us.getD i Tn.z).ac)) rfl c1.rd rfl ?_)
        refine wN_g rfl (wN_callB rfl (in50_ok) ?_)
        intro tH5 H5 hH5 kH5
        have mH5 := kH5.1
        have hk := hk.trans kH5
        have hs := kH5.sl0 hs
        have rs := kH5.rd rs (by simp)
        have c1 := kH5.cl c1 (by simp)
        cases tH5
        · have hbad := inB_f hH5
          refine wN_g rfl (wN_pur (v := .bool true) rfl rfl ?_)
          refine wN_pur (v := .bool true) rfl rfl ?_
          refine wN_mov (v := .bool true) rfl ?_
          refine wN_gs rfl ?_
          refine wN_gs rfl ?_
          refine wN_gs rfl ?_
          refine wN_gs rfl ?_
          refine wN_pur (v := .bool true) rfl rfl ?_
          refine wN_mov (v := .bool true) rfl ?_
          refine wN_gs rfl ?_
          refine wN_gs rfl ?_
          refine wN_gs rfl ?_
          refine wN_gs rfl ?_
          refine wN_pur (v := .bool true) rfl rfl ?_
          refine wN_end ?_
          refine condT ?_
          refine wN_seq ?_
          refine wN_mov (v := .bool false) rfl ?_
          refine wN_end ?_
          exact And.intro trivial (Exists.intro _ (And.intro rfl ⟨by rw [all_fail hx (by rw [← ex]; cases z : Tn.ok (us.getD i Tn.z) with
              | false => rfl
              | true => have := Tn.ok_t z; exact absurd hbad (by omega))]; rfl, hk⟩))
        · have ghH5 := inB_t hH5
          refine wN_g rfl (wN_pur (v := .bool false) rfl rfl ?_)
          refine wN_pur (v := .bool false) rfl rfl ?_
          refine wN_mov (v := .bool false) rfl ?_
          refine wN_g rfl (wN_addo (b := L1.next) (o := 0) rfl ?_)
          refine wN_g rfl (wN_ld (b := L1.next) (o := 3) (v := iv ((us.getD i Tn.z).co)) rfl c1.rd rfl ?_)
          refine wN_g rfl (wN_callB rfl (in50_ok) ?_)
          intro tH6 H6 hH6 kH6
          have mH6 := kH6.1
          have hk := hk.trans kH6
          have hs := kH6.sl0 hs
          have rs := kH6.rd rs (by simp)
          have c1 := kH6.cl c1 (by simp)
          cases tH6
          · have hbad := inB_f hH6
            refine wN_g rfl (wN_pur (v := .bool true) rfl rfl ?_)
            refine wN_pur (v := .bool true) rfl rfl ?_
            refine wN_mov (v := .bool true) rfl ?_
            refine wN_gs rfl ?_
            refine wN_gs rfl ?_
            refine wN_gs rfl ?_
            refine wN_gs rfl ?_
            refine wN_pur (v := .bool true) rfl rfl ?_
            refine wN_end ?_
            refine condT ?_
            refine wN_seq ?_
            refine wN_mov (v := .bool false) rfl ?_
            refine wN_end ?_
            exact And.intro trivial (Exists.intro _ (And.intro rfl ⟨by rw [all_fail hx (by rw [← ex]; cases z : Tn.ok (us.getD i Tn.z) with
                | false => rfl
                | true => have := Tn.ok_t z; exact absurd hbad (by omega))]; rfl, hk⟩))
          · have ghH6 := inB_t hH6
            refine wN_g rfl (wN_pur (v := .bool false) rfl rfl ?_)
            refine wN_pur (v := .bool false) rfl rfl ?_
            refine wN_mov (v := .bool false) rfl ?_
            refine wN_g rfl (wN_addo (b := L1.next) (o := 0) rfl ?_)
            refine wN_g rfl (wN_ld (b := L1.next) (o := 4) (v := iv ((us.getD i Tn.z).pr)) rfl c1.rd rfl ?_)
            refine wN_g rfl (wN_callB rfl (in50_ok) ?_)
            intro tH7 H7 hH7 kH7
            have mH7 := kH7.1
            have hk := hk.trans kH7
            have hs := kH7.sl0 hs
            have rs := kH7.rd rs (by simp)
            have c1 := kH7.cl c1 (by simp)
            cases tH7
            · have hbad := inB_f hH7
              refine wN_g rfl (wN_pur (v := .bool true) rfl rfl ?_)
              refine wN_pur (v := .bool true) rfl rfl ?_
              refine wN_end ?_
              refine condT ?_
              refine wN_seq ?_
              refine wN_mov (v := .bool false) rfl ?_
              refine wN_end ?_
              exact And.intro trivial (Exists.intro _ (And.intro rfl ⟨by rw [all_fail hx (by rw [← ex]; cases z : Tn.ok (us.getD i Tn.z) with
                  | false => rfl
                  | true => have := Tn.ok_t z; exact absurd hbad (by omega))]; rfl, hk⟩))
            · have ghH7 := inB_t hH7
              refine wN_g rfl (wN_pur (v := .bool false) rfl rfl ?_)
              refine wN_pur (v := .bool false) rfl rfl ?_
              refine wN_end ?_
              refine condF ?_
              first | refine wN_skip ?_ | skip
              first | refine wN_reg ?_ | refine wN_blk ?_ | refine wN_bseq ?_ | (refine wOps_nil ?_; refine wN_reg ?_)
              refine wN_mov (v := iv (i : Int)) rfl ?_
              refine wN_add (a := (i : Int)) (b := 1) rfl rfl ⟨by omega, by omega⟩ ?_
              refine wN_mov (v := iv ((i : Int) + 1)) rfl ?_
              refine wN_end ?_
              exact ⟨k - 1, i + 1, by omega, ⟨by omega, hk, hs, by rw [hst, hall, Bool.true_and, ← ex]; unfold Tn.ok isw; simp only [Bool.and_eq_true, decide_eq_true_eq]; omega⟩, rfl, rfl, trivial⟩
  · have q1 : ¬ ((i : Int) < (us.length : Int)) := of_decide_eq_false q1
    first | (refine wN_exit ?_; show wC _ _ _ _ _ _ _ _ _) | skip
    refine wN_seq ?_
    refine wN_mov (v := .bool true) rfl ?_
    refine wN_end ?_
    exact And.intro trivial (Exists.intro _ (And.intro rfl ⟨by rw [List.take_of_length_le (by omega)] at hall; rw [hall]; rfl, hk⟩))
/-- Recipe -/
theorem recipe36g_ok {r : Rc} (hlo : lo ≤ H.next) : ∃ H', FnX Try.prog kn lo 36 [.agg (Rc.f r).toArray] H (.bool (r.ok)) H' ∧ Keep H H' [] := by
  have key := fnX_low (kn := kn) (lo := lo) (H := H) (args := [.agg (Rc.f r).toArray]) (Q := fun w H' => w = .bool (r.ok) ∧ Keep H H' []) Try.func36 B36 N36 Z36 L36 (by simp) ?_
  · obtain ⟨w, H', h, rfl, q⟩ := key; exact ⟨H', h, q⟩
  have hk := Keep.refl H []
  refine wN_seq ?_
  refine wN_box (v := .agg (Rc.f r).toArray) rfl ?_
  intro H1 kH1 nH1 c1
  have c1 : Cl H1 H.next [iv r.un, iv r.s1, iv r.s2, iv r.a1, iv r.a2, iv r.c1, iv r.c2] := c1
  have mH1 := kH1.1
  have hk := hk.trans kH1
  refine wN_mov (v := .bool false) rfl ?_
  refine wN_end ?_
  refine wN_seq ?_
  refine wN_addo (b := H.next) (o := 0) rfl ?_
  refine wN_ld (b := H.next) (o := 0) (v := iv r.un) rfl c1.rd rfl ?_
  refine wN_callB rfl (in50_ok) ?_
  intro tH2 H2 hH2 kH2
  have mH2 := kH2.1
  have hk := hk.trans kH2
  have c1 := kH2.cl c1 (by simp)
  cases tH2
  · have fhH2 := inB_f hH2
    refine wN_mov (v := .bool false) rfl ?_
    refine wN_gs rfl ?_
    refine wN_gs rfl ?_
    refine wN_gs rfl ?_
    refine wN_pur (v := .bool false) rfl rfl ?_
    refine wN_mov (v := .bool false) rfl ?_
    refine wN_gs rfl ?_
    refine wN_gs rfl ?_
    refine wN_gs rfl ?_
    refine wN_pur (v := .bool false) rfl rfl ?_
    refine wN_mov (v := .bool false) rfl ?_
    refine wN_gs rfl ?_
    refine wN_gs rfl ?_
    refine wN_gs rfl ?_
    refine wN_pur (v := .bool false) rfl rfl ?_
    refine wN_mov (v := .bool false) rfl ?_
    refine wN_end ?_
    exact And.intro trivial (Exists.intro _ (And.intro rfl ⟨congrArg Value.bool (show false = (r.ok) from (by symm; first | (cases z : Rc.ok r <;> first | rfl | (exfalso; have := Rc.ok_t z; omega)) | (unfold Rc.ok; rw [decide_eq_true (by omega), decide_eq_true (by omega)]; simp only [*]; try rfl))), hk⟩))
  · have fhH2 := inB_t hH2
    refine wN_mov (v := .bool true) rfl ?_
    refine wN_g rfl (wN_addo (b := H.next) (o := 0) rfl ?_)
    refine wN_g rfl (wN_lda (b := H.next) (o := 1) rfl c1.rd (show row 2 _ _ = some [iv r.s1, iv r.s2] from rfl) ?_)
    refine wN_g rfl (wN_callB rfl (sp62_ok (by omega)) ?_)
    intro tH3 H3 hH3 kH3
    have mH3 := kH3.1
    have hk := hk.trans kH3
    have c1 := kH3.cl c1 (by simp)
    cases tH3
    · have thH3 : spB r.s1 r.s2 10000 = false := hH3
      refine wN_pur (v := .bool false) rfl rfl ?_
      refine wN_mov (v := .bool false) rfl ?_
      refine wN_gs rfl ?_
      refine wN_gs rfl ?_
      refine wN_gs rfl ?_
      refine wN_pur (v := .bool false) rfl rfl ?_
      refine wN_mov (v := .bool false) rfl ?_
      refine wN_gs rfl ?_
      refine wN_gs rfl ?_
      refine wN_gs rfl ?_
      refine wN_pur (v := .bool false) rfl rfl ?_
      refine wN_mov (v := .bool false) rfl ?_
      refine wN_end ?_
      exact And.intro trivial (Exists.intro _ (And.intro rfl ⟨congrArg Value.bool (show false = (r.ok) from (by symm; first | (cases z : Rc.ok r <;> first | rfl | (exfalso; have := Rc.ok_t z; omega)) | (unfold Rc.ok; rw [decide_eq_true (by omega), decide_eq_true (by omega)]; simp only [*]; try rfl))), hk⟩))
    · have thH3 : spB r.s1 r.s2 10000 = true := hH3
      refine wN_pur (v := .bool true) rfl rfl ?_
      refine wN_mov (v := .bool true) rfl ?_
      refine wN_g rfl (wN_addo (b := H.next) (o := 0) rfl ?_)
      refine wN_g rfl (wN_lda (b := H.next) (o := 3) rfl c1.rd (show row 2 _ _ = some [iv r.a1, iv r.a2] from rfl) ?_)
      refine wN_g rfl (wN_callB rfl (sp62_ok (by omega)) ?_)
      intro tH4 H4 hH4 kH4
      have mH4 := kH4.1
      have hk := hk.trans kH4
      have c1 := kH4.cl c1 (by simp)
      cases tH4
      · have thH4 : spB r.a1 r.a2 10000 = false := hH4
        refine wN_pur (v := .bool false) rfl rfl ?_
        refine wN_mov (v := .bool false) rfl ?_
        refine wN_gs rfl ?_
        refine wN_gs rfl ?_
        refine wN_gs rfl ?_
        refine wN_pur (v := .bool false) rfl rfl ?_
        refine wN_mov (v := .bool false) rfl ?_
        refine wN_end ?_
        exact And.intro trivial (Exists.intro _ (And.intro rfl ⟨congrArg Value.bool (show false = (r.ok) from (by symm; first | (cases z : Rc.ok r <;> first | rfl | (exfalso; have := Rc.ok_t z; omega)) | (unfold Rc.ok; rw [decide_eq_true (by omega), decide_eq_true (by omega)]; simp only [*]; try rfl))), hk⟩))
      · have thH4 : spB r.a1 r.a2 10000 = true := hH4
        refine wN_pur (v := .bool true) rfl rfl ?_
        refine wN_mov (v := .bool true) rfl ?_
        refine wN_g rfl (wN_addo (b := H.next) (o := 0) rfl ?_)
        refine wN_g rfl (wN_lda (b := H.next) (o := 5) rfl c1.rd (show row 2 _ _ = some [iv r.c1, iv r.c2] from rfl) ?_)
        refine wN_g rfl (wN_callB rfl (sp62_ok (by omega)) ?_)
        intro tH5 H5 hH5 kH5
        have mH5 := kH5.1
        have hk := hk.trans kH5
        have c1 := kH5.cl c1 (by simp)
        cases tH5
        · have thH5 : spB r.c1 r.c2 10000 = false := hH5
          refine wN_pur (v := .bool false) rfl rfl ?_
          refine wN_mov (v := .bool false) rfl ?_
          refine wN_end ?_
          exact And.intro trivial (Exists.intro _ (And.intro rfl ⟨congrArg Value.bool (show false = (r.ok) from (by symm; first | (cases z : Rc.ok r <;> first | rfl | (exfalso; have := Rc.ok_t z; omega)) | (unfold Rc.ok; rw [decide_eq_true (by omega), decide_eq_true (by omega)]; simp only [*]; try rfl))), hk⟩))
        · have thH5 : spB r.c1 r.c2 10000 = true := hH5
          refine wN_pur (v := .bool true) rfl rfl ?_
          refine wN_mov (v := .bool true) rfl ?_
          refine wN_end ?_
          exact And.intro trivial (Exists.intro _ (And.intro rfl ⟨congrArg Value.bool (show true = (r.ok) from (by symm; first | (cases z : Rc.ok r <;> first | rfl | (exfalso; have := Rc.ok_t z; omega)) | (unfold Rc.ok; rw [decide_eq_true (by omega), decide_eq_true (by omega)]; simp only [*]; try rfl))), hk⟩))
set_option maxHeartbeats 1000000 in
/-- the document's Blend -/
theorem refblend_ok {r : Rc} {sa : Option Addr} {cap : Nat} {us : List Tn} (hs : Sl H sa us.length cap (tnc us)) (hn2 : us.length ≤ 1000000) (hlo : lo ≤ H.next) : ∃ a c H', FnX Try.prog kn lo 26 [.slice sa us.length cap, .agg (Rc.f r).toArray] H (.tuple #[.slice a (blN us r) c, iv (blC us r), iv (blE us r)]) H' ∧ Keep H H' [] ∧ Sl H' a (blN us r) c (nf (blB us r) (blN us r)) := by
  have key := fnX_low (kn := kn) (lo := lo) (H := H) (args := [.slice sa us.length cap, .agg (Rc.f r).toArray]) (Q := fun w H' => ∃ a c, w = .tuple #[.slice a (blN us r) c, iv (blC us r), iv (blE us r)] ∧ Keep H H' [] ∧ Sl H' a (blN us r) c (nf (blB us r) (blN us r))) Try.func26 B26 N26 Z26 L26 (by simp) ?_
  · obtain ⟨w, H', h, a, c, rfl, q⟩ := key; exact ⟨a, c, H', h, q⟩
  have hk := Keep.refl H []
  have fs := hs.old
  refine wN_seq ?_
  refine wN_box (v := .agg (Rc.f r).toArray) rfl ?_
  intro H1 kH1 nH1 c1
  have c1 : Cl H1 H.next [iv r.un, iv r.s1, iv r.s2, iv r.a1, iv r.a2, iv r.c1, iv r.c2] := c1
  have mH1 := kH1.1
  have hk := hk.trans kH1
  have hs := kH1.sl0 hs
  refine wN_mov (v := .slice none 0 0) rfl ?_
  refine wN_mov (v := iv 0) rfl ?_
  refine wN_mov (v := iv 0) rfl ?_
  refine wN_end ?_
  refine wN_seq ?_
  refine wN_mov (v := .slice sa us.length cap) rfl ?_
  refine wN_len (m := us.length) rfl ?_
  refine wN_c_gtr (a := (us.length : Int)) (b := 5) rfl rfl ?_
  refine wN_end ?_
  refine And.intro (fun q1 => ?_) (fun q1 => ?_)
  · have q1 : (us.length : Int) > 5 := of_decide_eq_true q1
    refine wN_seq ?_
    refine wN_mov (v := .slice none 0 0) rfl ?_
    refine wN_mov (v := iv 0) rfl ?_
    refine wN_mov (v := iv 3) rfl ?_
    refine wN_end ?_
    have e : blE us r = 3 := by unfold blE; rw [if_pos (by omega)]
    have e2 : blN us r = 0 := by unfold blN; rw [if_neg (by omega)]
    have e3 : blC us r = 0 := by unfold blC; rw [if_neg (by omega)]
    exact And.intro trivial (Exists.intro _ (And.intro rfl ⟨none, 0, by rw [e, e2, e3]; rfl, hk, by rw [e2]; exact .inl ⟨.inl rfl, rfl, rfl, rfl⟩⟩))
  · have q1 : ¬ ((us.length : Int) > 5) := of_decide_eq_false q1
    first | refine wN_skip ?_ | skip
    refine wN_seq ?_
    refine wN_mov (v := .slice sa us.length cap) rfl ?_
    obtain ⟨H2, fH2, kH2⟩ := tanks35g_ok (kn := kn) (lo := lo) (H := H1) hs (by omega) (by omega)
    have mH2 := kH2.1
    have hk := hk.trans kH2
    have hs := kH2.sl0 hs
    have c1 := kH2.cl c1 (by simp)
    cases hA : us.all Tn.ok
    · rw [hA] at fH2
      refine wN_callf (vs := [.slice sa us.length cap]) rfl (callX_args fH2) ?_
      refine wN_pur (v := .bool true) rfl rfl ?_
      refine wN_mov (v := .bool true) rfl ?_
      refine wN_gs rfl ?_
      refine wN_gs rfl ?_
      refine wN_gs rfl ?_
      refine wN_pur (v := .bool true) rfl rfl ?_
      refine wN_end ?_
      refine condT ?_
      refine wN_seq ?_
      refine wN_mov (v := .slice none 0 0) rfl ?_
      refine wN_mov (v := iv 0) rfl ?_
      refine wN_mov (v := iv 1) rfl ?_
      refine wN_end ?_
      have e : blE us r = 1 := by unfold blE; rw [if_neg (by omega), if_neg (by simp [hA]; try simp [hR])]
      have e2 : blN us r = 0 := by unfold blN; rw [if_neg (by omega)]
      have e3 : blC us r = 0 := by unfold blC; rw [if_neg (by omega)]
      exact And.intro trivial (Exists.intro _ (And.intro rfl ⟨none, 0, by rw [e, e2, e3]; rfl, hk, by rw [e2]; exact .inl ⟨.inl rfl, rfl, rfl, rfl⟩⟩))
    · rw [hA] at fH2
      refine wN_callf (vs := [.slice sa us.length cap]) rfl (callX_args fH2) ?_
      refine wN_pur (v := .bool false) rfl rfl ?_
      refine wN_mov (v := .bool false) rfl ?_
      refine wN_g rfl (wN_lda (b := H.next) (o := 0) rfl c1.rd (show row 7 _ _ = some [iv r.un, iv r.s1, iv r.s2, iv r.a1, iv r.a2, iv r.c1, iv r.c2] from rfl) ?_)
      obtain ⟨H3, fH3, kH3⟩ := recipe36g_ok (kn := kn) (lo := lo) (H := H2) (r := r) (by omega)
      have mH3 := kH3.1
      have hk := hk.trans kH3
      have hs := kH3.sl0 hs
      have c1 := kH3.cl c1 (by simp)
      cases hR : r.ok
      · rw [hR] at fH3
        refine wN_g rfl (wN_callf (vs := [.agg (Rc.f r).toArray]) rfl (callX_args fH3) ?_)
        refine wN_g rfl (wN_pur (v := .bool true) rfl rfl ?_)
        refine wN_pur (v := .bool true) rfl rfl ?_
        refine wN_end ?_
        refine condT ?_
        refine wN_seq ?_
        refine wN_mov (v := .slice none 0 0) rfl ?_
        refine wN_mov (v := iv 0) rfl ?_
        refine wN_mov (v := iv 1) rfl ?_
        refine wN_end ?_
        have e : blE us r = 1 := by unfold blE; rw [if_neg (by omega), if_neg (by simp [hA]; try simp [hR])]
        have e2 : blN us r = 0 := by unfold blN; rw [if_neg (by omega)]
        have e3 : blC us r = 0 := by unfold blC; rw [if_neg (by omega)]
        exact And.intro trivial (Exists.intro _ (And.intro rfl ⟨none, 0, by rw [e, e2, e3]; rfl, hk, by rw [e2]; exact .inl ⟨.inl rfl, rfl, rfl, rfl⟩⟩))
      · rw [hR] at fH3
        refine wN_g rfl (wN_callf (vs := [.agg (Rc.f r).toArray]) rfl (callX_args fH3) ?_)
        refine wN_g rfl (wN_pur (v := .bool false) rfl rfl ?_)
        refine wN_pur (v := .bool false) rfl rfl ?_
        refine wN_end ?_
        refine condF ?_
        first | refine wN_skip ?_ | skip
        refine wN_seq ?_
        refine wN_mov (v := .slice none 0 0) rfl ?_
        refine wN_end ?_
        refine wN_seq ?_
        refine wN_mov (v := iv (-1)) rfl ?_
        refine wN_end ?_
        refine wN_seq ?_
        refine wN_mov (v := .slice sa us.length cap) rfl ?_
        obtain ⟨vL, H4, fH4, oH4, klH4⟩ := lists_ok (kn := kn) (lo := lo) (f := H3.next) hA (by omega) hs.old us.length 0 bz [] (ba := none) (bcap := 0) (v := .slice none 0 0) (H := H3) (by omega) hs (.inl ⟨rfl, rfl, rfl, rfl⟩) ⟨[], .inl ⟨rfl, rfl, rfl⟩, rfl, fun i x h => by simp at h⟩ (by have := lstB_big hA (by omega) bz; simp only [List.length_nil]; omega) (by omega) (Nat.le_refl _)
        rw [List.nil_append] at oH4
        obtain ⟨cs, ac, hcl, hat⟩ := oH4
        obtain ⟨oa, oc, rfl, osl, hofs⟩ := ac.sl
        refine wN_callf (vs := [.slice sa us.length cap, .slice none 0 0, .slice none 0 0]) rfl (callX_args fH4) ?_
        have kH4 : Keep H3 H4 [] := klH4.keep (Keep.refl _ _) (Nat.le_refl _)
        have mH4 := kH4.1
        have hk := hk.trans kH4
        have hs := kH4.sl0 hs
        have c1 := kH4.cl c1 (by simp)
        have hAL := lstB_big hA (by omega) bz
        have hru := (Rc.ok_t hR).1
        refine wN_mov (v := .slice oa ((lstB us us.length 0 bz).length) oc) rfl ?_
        refine wN_end ?_
        refine wN_seq ?_
        refine wN_mov (v := iv 0) rfl ?_
        refine wN_end ?_
        have kS := Keep.refl H4 []
        refine loop_low (fn := Try.f26) E26_1 N26 L26x1 (fun z : Nat × Option (Bl × Option Addr × Nat) => [(0, .slice sa us.length cap), (3, pt H.next), (7, bsV us z.2), (8, iv (bsL us z.2)), (9, .slice oa ((lstB us us.length 0 bz).length) oc), (10, iv (z.1 : Int))])
          (fun k z H' => z.1 + k = (lstB us us.length 0 bz).length ∧ Keep H H' [] ∧ Sl H' sa us.length cap (tnc us) ∧ Cl H' H.next (Rc.f r) ∧ Sl H' oa (lstB us us.length 0 bz).length oc cs ∧ Keep H4 H' [] ∧ (∀ b a c, z.2 = some (b, a, c) → Els H' a c us.length (nf b us.length) ∧ ∀ j, 0 ≤ b j ∧ b j ≤ 12) ∧ refB us r (z.2.map (·.1)) ((lstB us us.length 0 bz).drop z.1) = bestB us r) (lstB us us.length 0 bz).length (0, none) ⟨by omega, hk, hs, c1, osl, kS, (fun b a c e => by cases e), refB_eq (by omega)⟩ ⟨rfl, rfl, rfl, rfl, rfl, rfl, trivial⟩ ?_
        rintro k ⟨i, sel⟩ L1 ⟨hik, hk, hs, c3, osl, kS, hsel, href⟩
        simp only at hik hsel href ⊢
        have mki := hk.1
        refine wN_seq ?_
        refine wN_mov (v := iv (i : Int)) rfl ?_
        refine wN_mov (v := .slice oa ((lstB us us.length 0 bz).length) oc) rfl ?_
        refine wN_len (m := (lstB us us.length 0 bz).length) rfl ?_
        refine wN_c_lss (a := (i : Int)) (b := ((lstB us us.length 0 bz).length : Int)) rfl rfl ?_
        refine wN_end ?_
        refine And.intro (fun q2 => ?_) (fun q2 => ?_)
        · have q2 : (i : Int) < ((lstB us us.length 0 bz).length : Int) := of_decide_eq_true q2
          obtain ⟨x, hx⟩ := get_some (l := lstB us us.length 0 bz) (i := i) (by omega)
          obtain ⟨ea, ec, hee, hels⟩ := hat i x hx
          have hxo := lstB_ok hA hx
          have hcx := cosB_nn hxo.1 hA
          rcases id osl with ⟨_, h0, _⟩ | ⟨lb, el, rl, _⟩
          · omega
          have lsl := rl.lt
          have hels1 := (KL.of (f := 0) kS).els hels
          have sle := hels1.sl
          have kacc := Keep.refl L1 []
          rcases sel with _ | ⟨bb, ba, bcp⟩
          · first | refine wN_skip ?_ | skip
            refine wD_seq ?_
            refine wD_mov (v := .slice sa us.length cap) rfl ?_
            refine wD_lda (b := H.next) (o := 0) rfl c3.rd (show row 7 _ _ = some [iv r.un, iv r.s1, iv r.s2, iv r.a1, iv r.a2, iv r.c1, iv r.c2] from rfl) ?_
            refine wD_mov (v := .slice oa ((lstB us us.length 0 bz).length) oc) rfl ?_
            refine wD_mov (v := iv (i : Int)) rfl ?_
            refine wD_idx (b := lb) (o := 0) (k := i) (j := (i : Int)) (by rw [← el]; rfl) rfl rfl (by omega) ?_
            refine wD_ld (b := lb) (o := 0 + i * 1) (v := .slice ea us.length ec) rfl rl (by rw [show 0 + i * 1 = i by omega]; exact hee) ?_
            obtain ⟨H5, fH5, kH5⟩ := right38_ok (kn := kn) (lo := lo) (H := L1) (g := x) (r := r) hs sle hxo.1 hxo.2 hA hR (by omega) (by omega)
            have mH5 := kH5.1
            have hk := hk.trans kH5
            have hs := kH5.sl0 hs
            have osl := kH5.sl0 osl
            have c3 := kH5.cl c3 (by simp)
            have kS := kS.trans kH5
            have rl := kH5.rd rl (by simp)
            have sle := kH5.sl0 sle
            have kacc := kacc.trans kH5
            rw [show (decide (sm x us.length = r.un) && rigB us r x) = rtB us r x from rfl] at fH5
            cases hO : rtB us r x
            · rw [hO] at fH5
              refine wD_callf (vs := [.slice sa us.length cap, .agg (Rc.f r).toArray, .slice ea us.length ec]) rfl (callX_args fH5) ?_
              refine wD_mov (v := .tuple #[.bool false, iv (cosB us x)]) rfl ?_
              refine wD_pur (v := .bool false) rfl (by kernel_rfl) ?_
              refine wD_pur (v := iv (cosB us x)) rfl (by kernel_rfl) ?_
              refine wD_mov (v := .bool false) rfl ?_
              refine wD_mov (v := iv (cosB us x)) rfl ?_
              refine wD_end (by repeat' first | exact True.intro | exact (fun h => h) | refine And.intro ?_ ?_ | (intro h; have h : (_ : Nat) = _ := h; omega)) ?_
              refine wN_seq ?_
              refine wN_mov (v := .bool false) rfl ?_
              refine wN_mov (v := .bool false) rfl ?_
              refine wN_gs rfl ?_
              refine wN_gs rfl ?_
              refine wN_gs rfl ?_
              refine wN_gu rfl ?_
              refine wN_gu rfl ?_
              refine wN_gu rfl ?_
              refine wN_gs rfl ?_
              refine wN_pur (v := .bool false) rfl rfl ?_
              refine wN_end ?_
              refine condF ?_
              first | refine wN_skip ?_ | skip
              first | refine wN_reg ?_ | refine wN_blk ?_ | refine wN_bseq ?_ | (refine wOps_nil ?_; refine wN_reg ?_)
              refine wN_mov (v := iv (i : Int)) rfl ?_
              refine wN_add (a := (i : Int)) (b := 1) rfl rfl ⟨by omega, by omega⟩ ?_
              refine wN_mov (v := iv ((i : Int) + 1)) rfl ?_
              refine wN_end ?_
              rw [drop_at hx, refB_cons, if_neg (by rw [hO]; decide)] at href
              exact ⟨k - 1, (i + 1, none), by omega, ⟨by simp only; omega, hk, hs, c3, osl, kS, (fun b a c e => by cases e), href⟩, rfl, rfl, rfl, rfl, rfl, rfl, trivial⟩
            · rw [hO] at fH5
              refine wD_callf (vs := [.slice sa us.length cap, .agg (Rc.f r).toArray, .slice ea us.length ec]) rfl (callX_args fH5) ?_
              refine wD_mov (v := .tuple #[.bool true, iv (cosB us x)]) rfl ?_
              refine wD_pur (v := .bool true) rfl (by kernel_rfl) ?_
              refine wD_pur (v := iv (cosB us x)) rfl (by kernel_rfl) ?_
              refine wD_mov (v := .bool true) rfl ?_
              refine wD_mov (v := iv (cosB us x)) rfl ?_
              refine wD_end (by repeat' first | exact True.intro | exact (fun h => h) | refine And.intro ?_ ?_ | (intro h; have h : (_ : Nat) = _ := h; omega)) ?_
              refine wN_seq ?_
              refine wN_mov (v := .bool true) rfl ?_
              refine wN_mov (v := .bool true) rfl ?_
              refine wN_g rfl (wN_mov (v := iv (-1)) rfl ?_)
              refine wN_g rfl (wN_b_lss (a := -1) (b := 0) rfl rfl ?_)
              intro t3 g3; obtain rfl : t3 = true := by rw [← g3]; rfl
              refine wN_g rfl (wN_mov (v := .bool true) rfl ?_)
              refine wN_gs rfl ?_
              refine wN_gs rfl ?_
              refine wN_gs rfl ?_
              refine wN_g rfl (wN_pur (v := .bool true) rfl rfl ?_)
              refine wN_pur (v := .bool true) rfl rfl ?_
              refine wN_end ?_
              refine condT ?_
              refine wN_seq ?_
              refine wN_mov (v := .slice oa ((lstB us us.length 0 bz).length) oc) rfl ?_
              refine wN_mov (v := iv (i : Int)) rfl ?_
              refine wN_idx (b := lb) (o := 0) (k := i) (j := (i : Int)) (by rw [← el]; rfl) rfl rfl (by omega) ?_
              refine wN_ld (b := lb) (o := 0 + i * 1) (v := .slice ea us.length ec) rfl rl (by rw [show 0 + i * 1 = i by omega]; exact hee) ?_
              refine wN_mov (v := .slice ea us.length ec) rfl ?_
              refine wN_end ?_
              first | refine wN_reg ?_ | refine wN_blk ?_ | refine wN_bseq ?_ | (refine wOps_nil ?_; refine wN_reg ?_)
              refine wN_mov (v := iv (cosB us x)) rfl ?_
              refine wN_mov (v := iv (cosB us x)) rfl ?_
              refine wN_end ?_
              first | refine wN_reg ?_ | refine wN_blk ?_ | refine wN_bseq ?_ | (refine wOps_nil ?_; refine wN_reg ?_)
              refine wN_mov (v := iv (i : Int)) rfl ?_
              refine wN_add (a := (i : Int)) (b := 1) rfl rfl ⟨by omega, by omega⟩ ?_
              refine wN_mov (v := iv ((i : Int) + 1)) rfl ?_
              refine wN_end ?_
              rw [drop_at hx, refB_cons, if_pos hO] at href
              exact ⟨k - 1, (i + 1, some (x, ea, ec)), by omega, ⟨by simp only; omega, hk, hs, c3, osl, kS, (fun b a c e => by cases e; exact ⟨(KL.of (f := 0) kS).els hels, hxo.1⟩), href⟩, rfl, rfl, rfl, rfl, rfl, rfl, trivial⟩
          · obtain ⟨hbe, hbo⟩ := hsel _ _ _ rfl
            have hcb := cosB_nn hbo hA
            first | refine wN_skip ?_ | skip
            refine wD_seq ?_
            refine wD_mov (v := .slice sa us.length cap) rfl ?_
            refine wD_lda (b := H.next) (o := 0) rfl c3.rd (show row 7 _ _ = some [iv r.un, iv r.s1, iv r.s2, iv r.a1, iv r.a2, iv r.c1, iv r.c2] from rfl) ?_
            refine wD_mov (v := .slice oa ((lstB us us.length 0 bz).length) oc) rfl ?_
            refine wD_mov (v := iv (i : Int)) rfl ?_
            refine wD_idx (b := lb) (o := 0) (k := i) (j := (i : Int)) (by rw [← el]; rfl) rfl rfl (by omega) ?_
            refine wD_ld (b := lb) (o := 0 + i * 1) (v := .slice ea us.length ec) rfl rl (by rw [show 0 + i * 1 = i by omega]; exact hee) ?_
            obtain ⟨H6, fH6, kH6⟩ := right38_ok (kn := kn) (lo := lo) (H := L1) (g := x) (r := r) hs sle hxo.1 hxo.2 hA hR (by omega) (by omega)
            have mH6 := kH6.1
            have hk := hk.trans kH6
            have hs := kH6.sl0 hs
            have osl := kH6.sl0 osl
            have c3 := kH6.cl c3 (by simp)
            have kS := kS.trans kH6
            have rl := kH6.rd rl (by simp)
            have sle := kH6.sl0 sle
            have kacc := kacc.trans kH6
            rw [show (decide (sm x us.length = r.un) && rigB us r x) = rtB us r x from rfl] at fH6
            cases hO : rtB us r x
            · rw [hO] at fH6
              refine wD_callf (vs := [.slice sa us.length cap, .agg (Rc.f r).toArray, .slice ea us.length ec]) rfl (callX_args fH6) ?_
              refine wD_mov (v := .tuple #[.bool false, iv (cosB us x)]) rfl ?_
              refine wD_pur (v := .bool false) rfl (by kernel_rfl) ?_
              refine wD_pur (v := iv (cosB us x)) rfl (by kernel_rfl) ?_
              refine wD_mov (v := .bool false) rfl ?_
              refine wD_mov (v := iv (cosB us x)) rfl ?_
              refine wD_end (by repeat' first | exact True.intro | exact (fun h => h) | refine And.intro ?_ ?_ | (intro h; have h : (_ : Nat) = _ := h; omega)) ?_
              refine wN_seq ?_
              refine wN_mov (v := .bool false) rfl ?_
              refine wN_mov (v := .bool false) rfl ?_
              refine wN_gs rfl ?_
              refine wN_gs rfl ?_
              refine wN_gs rfl ?_
              refine wN_gu rfl ?_
              refine wN_gu rfl ?_
              refine wN_gu rfl ?_
              refine wN_gs rfl ?_
              refine wN_pur (v := .bool false) rfl rfl ?_
              refine wN_end ?_
              refine condF ?_
              first | refine wN_skip ?_ | skip
              first | refine wN_reg ?_ | refine wN_blk ?_ | refine wN_bseq ?_ | (refine wOps_nil ?_; refine wN_reg ?_)
              refine wN_mov (v := iv (i : Int)) rfl ?_
              refine wN_add (a := (i : Int)) (b := 1) rfl rfl ⟨by omega, by omega⟩ ?_
              refine wN_mov (v := iv ((i : Int) + 1)) rfl ?_
              refine wN_end ?_
              rw [drop_at hx, refB_cons, if_neg (by rw [hO]; decide)] at href
              exact ⟨k - 1, (i + 1, some (bb, ba, bcp)), by omega, ⟨by simp only; omega, hk, hs, c3, osl, kS, (fun b a c e => by cases e; exact ⟨(KL.of (f := 0) kacc).els hbe, hbo⟩), href⟩, rfl, rfl, rfl, rfl, rfl, rfl, trivial⟩
            · rw [hO] at fH6
              refine wD_callf (vs := [.slice sa us.length cap, .agg (Rc.f r).toArray, .slice ea us.length ec]) rfl (callX_args fH6) ?_
              refine wD_mov (v := .tuple #[.bool true, iv (cosB us x)]) rfl ?_
              refine wD_pur (v := .bool true) rfl (by kernel_rfl) ?_
              refine wD_pur (v := iv (cosB us x)) rfl (by kernel_rfl) ?_
              refine wD_mov (v := .bool true) rfl ?_
              refine wD_mov (v := iv (cosB us x)) rfl ?_
              refine wD_end (by repeat' first | exact True.intro | exact (fun h => h) | refine And.intro ?_ ?_ | (intro h; have h : (_ : Nat) = _ := h; omega)) ?_
              refine wN_seq ?_
              refine wN_mov (v := .bool true) rfl ?_
              refine wN_mov (v := .bool true) rfl ?_
              refine wN_g rfl (wN_mov (v := iv (cosB us bb)) rfl ?_)
              refine wN_g rfl (wN_b_lss (a := (cosB us bb)) (b := 0) rfl rfl ?_)
              intro t4 g4; cases t4
              · have g4 : ¬ ((cosB us bb) < 0) := of_decide_eq_false g4
                refine wN_g rfl (wN_mov (v := .bool false) rfl ?_)
                refine wN_g rfl (wN_mov (v := iv (cosB us x)) rfl ?_)
                refine wN_g rfl (wN_mov (v := iv (cosB us bb)) rfl ?_)
                refine wN_g rfl (wN_b_lss (a := (cosB us x)) (b := (cosB us bb)) rfl rfl ?_)
                intro t5 g5; cases t5
                · have g5 : ¬ ((cosB us x) < (cosB us bb)) := of_decide_eq_false g5
                  refine wN_g rfl (wN_pur (v := .bool false) rfl rfl ?_)
                  refine wN_pur (v := .bool false) rfl rfl ?_
                  refine wN_end ?_
                  refine condF ?_
                  first | refine wN_skip ?_ | skip
                  first | refine wN_reg ?_ | refine wN_blk ?_ | refine wN_bseq ?_ | (refine wOps_nil ?_; refine wN_reg ?_)
                  refine wN_mov (v := iv (i : Int)) rfl ?_
                  refine wN_add (a := (i : Int)) (b := 1) rfl rfl ⟨by omega, by omega⟩ ?_
                  refine wN_mov (v := iv ((i : Int) + 1)) rfl ?_
                  refine wN_end ?_
                  rw [drop_at hx, refB_cons, if_pos hO] at href
                  rw [show pickB us (Option.map (fun z => z.1) (some (bb, ba, bcp))) x = some bb from by show (if cosB us x < cosB us bb then some x else some bb) = _; rw [if_neg (by omega)]] at href
                  exact ⟨k - 1, (i + 1, some (bb, ba, bcp)), by omega, ⟨by simp only; omega, hk, hs, c3, osl, kS, (fun b a c e => by cases e; exact ⟨(KL.of (f := 0) kacc).els hbe, hbo⟩), href⟩, rfl, rfl, rfl, rfl, rfl, rfl, trivial⟩
                · have g5 : (cosB us x) < (cosB us bb) := of_decide_eq_true g5
                  refine wN_g rfl (wN_pur (v := .bool true) rfl rfl ?_)
                  refine wN_pur (v := .bool true) rfl rfl ?_
                  refine wN_end ?_
                  refine condT ?_
                  refine wN_seq ?_
                  refine wN_mov (v := .slice oa ((lstB us us.length 0 bz).length) oc) rfl ?_
                  refine wN_mov (v := iv (i : Int)) rfl ?_
                  refine wN_idx (b := lb) (o := 0) (k := i) (j := (i : Int)) (by rw [← el]; rfl) rfl rfl (by omega) ?_
                  refine wN_ld (b := lb) (o := 0 + i * 1) (v := .slice ea us.length ec) rfl rl (by rw [show 0 + i * 1 = i by omega]; exact hee) ?_
                  refine wN_mov (v := .slice ea us.length ec) rfl ?_
                  refine wN_end ?_
                  first | refine wN_reg ?_ | refine wN_blk ?_ | refine wN_bseq ?_ | (refine wOps_nil ?_; refine wN_reg ?_)
                  refine wN_mov (v := iv (cosB us x)) rfl ?_
                  refine wN_mov (v := iv (cosB us x)) rfl ?_
                  refine wN_end ?_
                  first | refine wN_reg ?_ | refine wN_blk ?_ | refine wN_bseq ?_ | (refine wOps_nil ?_; refine wN_reg ?_)
                  refine wN_mov (v := iv (i : Int)) rfl ?_
                  refine wN_add (a := (i : Int)) (b := 1) rfl rfl ⟨by omega, by omega⟩ ?_
                  refine wN_mov (v := iv ((i : Int) + 1)) rfl ?_
                  refine wN_end ?_
                  rw [drop_at hx, refB_cons, if_pos hO] at href
                  rw [show pickB us (Option.map (fun z => z.1) (some (bb, ba, bcp))) x = some x from by show (if cosB us x < cosB us bb then some x else some bb) = _; rw [if_pos (by omega)]] at href
                  exact ⟨k - 1, (i + 1, some (x, ea, ec)), by omega, ⟨by simp only; omega, hk, hs, c3, osl, kS, (fun b a c e => by cases e; exact ⟨(KL.of (f := 0) kS).els hels, hxo.1⟩), href⟩, rfl, rfl, rfl, rfl, rfl, rfl, trivial⟩
              · have g4 : (cosB us bb) < 0 := of_decide_eq_true g4
                omega
        · have q2 : ¬ ((i : Int) < ((lstB us us.length 0 bz).length : Int)) := of_decide_eq_false q2
          rw [List.drop_of_length_le (by omega)] at href
          rcases sel with _ | ⟨bb, ba, bcp⟩
          · first | (refine wN_exit ?_; show wC _ _ _ _ _ _ _ _ _) | skip
            refine wN_seq ?_
            refine wN_mov (v := iv (-1)) rfl ?_
            refine wN_c_lss (a := -1) (b := 0) rfl rfl ?_
            refine wN_end ?_
            refine condT ?_
            refine wN_seq ?_
            refine wN_mov (v := .slice none 0 0) rfl ?_
            refine wN_mov (v := iv 0) rfl ?_
            refine wN_mov (v := iv 4) rfl ?_
            refine wN_end ?_
            have hB : (bestB us r).isSome = false := by rw [← href]; rfl
            have e : blE us r = 4 := by unfold blE; rw [if_neg (by omega), if_pos (by simp [hA, hR]), if_neg (by simp [hB])]
            have e2 : blN us r = 0 := by unfold blN; rw [if_neg (by omega)]
            have e3 : blC us r = 0 := by unfold blC; rw [if_neg (by omega)]
            exact And.intro trivial (Exists.intro _ (And.intro rfl ⟨none, 0, by rw [e, e2, e3]; rfl, hk, by rw [e2]; exact .inl ⟨.inl rfl, rfl, rfl, rfl⟩⟩))
          · obtain ⟨hbe, hbo⟩ := hsel _ _ _ rfl
            have hcb := cosB_nn hbo hA
            first | (refine wN_exit ?_; show wC _ _ _ _ _ _ _ _ _) | skip
            refine wN_seq ?_
            refine wN_mov (v := iv (cosB us bb)) rfl ?_
            refine wN_c_lss (a := (cosB us bb)) (b := 0) rfl rfl ?_
            refine wN_end ?_
            refine And.intro (fun q6 => ?_) (fun q6 => ?_)
            · have q6 : (cosB us bb) < 0 := of_decide_eq_true q6
              omega
            · have q6 : ¬ ((cosB us bb) < 0) := of_decide_eq_false q6
              first | refine wN_skip ?_ | skip
              refine wN_seq ?_
              refine wN_mov (v := .slice ba us.length bcp) rfl ?_
              refine wN_mov (v := iv (cosB us bb)) rfl ?_
              refine wN_mov (v := .slice ba us.length bcp) rfl ?_
              refine wN_mov (v := iv (cosB us bb)) rfl ?_
              refine wN_mov (v := iv 0) rfl ?_
              refine wN_end ?_
              have hB : (bestB us r).isSome = true := by rw [← href]; rfl
              have hbb : blB us r = bb := by unfold blB; rw [← href]; rfl
              have e : blE us r = 0 := by unfold blE; rw [if_neg (by omega), if_pos (by simp [hA, hR]), if_pos hB]
              have e2 : blN us r = us.length := by unfold blN; rw [if_pos e]
              have e3 : blC us r = cosB us bb := by unfold blC; rw [if_pos e, hbb]
              exact And.intro trivial (Exists.intro _ (And.intro rfl ⟨ba, bcp, by rw [e, e2, e3]; rfl, hk, by rw [e2, hbb]; exact hbe.sl⟩))
set_option maxRecDepth 100000 in
set_option maxHeartbeats 4000000 in
/-- PlantBlends -/
theorem law_blends (hkn : kn 16 = some true) {r : Rc} {sa : Option Addr} {cap : Nat} {us : List Tn} (hs : Sl H sa us.length cap (tnc us)) (hf : ∀ b, sa = some ⟨b, 0, none⟩ → Ft H b (tnc us)) (hro : RoLow lo H) (hlo : lo ≤ H.next) : ∃ H', FnX Try.prog kn lo 4 [.slice sa us.length cap, .agg (Rc.f r).toArray] H (.bool true) H' := by
  have key := fnX_low (kn := kn) (lo := lo) (H := H) (args := [.slice sa us.length cap, .agg (Rc.f r).toArray]) (Q := fun w H' => w = .bool true) Try.func4 B4 N4 Z4 L4 (by simp) ?_
  · obtain ⟨w, H', h, rfl⟩ := key; exact ⟨H', h⟩
  have hk := Keep.refl H []
  have fs := hs.old
  refine wN_seq ?_
  refine wN_box (v := .agg (Rc.f r).toArray) rfl ?_
  intro H1 kH1 nH1 c1
  have c1 : Cl H1 H.next [iv r.un, iv r.s1, iv r.s2, iv r.a1, iv r.a2, iv r.c1, iv r.c2] := c1
  have mH1 := kH1.1
  have hk := hk.trans kH1
  have hs := kH1.sl0 hs
  refine wN_mov (v := .bool false) rfl ?_
  refine wN_end ?_
  refine wN_seq ?_
  refine wN_mov (v := .slice sa us.length cap) rfl ?_
  obtain ⟨tS, H2, fH2, kH2, hS⟩ := slow_ok (kn := kn) (lo := lo) (H := H1) (lim := 3000) hs (by decide) (by decide) (by omega)
  have mH2 := kH2.1
  have hk := hk.trans kH2
  have hs := kH2.sl0 hs
  have c1 := kH2.cl c1 (by simp)
  cases tS
  · refine wN_callf (vs := [.slice sa us.length cap, iv 3000]) rfl (callX_args fH2) ?_
    have hn8 := hS rfl
    refine wN_end ?_
    refine condF ?_
    first | refine wN_skip ?_ | skip
    refine wN_seq ?_
    refine wN_mov (v := .slice sa us.length cap) rfl ?_
    refine wN_lda (b := H.next) (o := 0) rfl c1.rd (show row 7 _ _ = some [iv r.un, iv r.s1, iv r.s2, iv r.a1, iv r.a2, iv r.c1, iv r.c2] from rfl) ?_
    obtain ⟨aB1, cB1, H3, fH3, kH3, sl1⟩ := blend_ok (kn := kn) (lo := lo) (H := H2) (r := r) hs (fun b e => hk.ft (hf b e) (by simp)) (by omega) (by omega)
    refine wN_callf (vs := [.slice sa us.length cap, .agg (Rc.f r).toArray]) rfl (callX_args fH3) ?_
    have mH3 := kH3.1
    have hk := hk.trans kH3
    have hs := kH3.sl0 hs
    have c1 := kH3.cl c1 (by simp)
    refine wN_mov (v := .tuple #[.slice aB1 (blN us r) cB1, iv (blC us r), iv (blE us r)]) rfl ?_
    refine wN_pur (v := .slice aB1 (blN us r) cB1) rfl (by kernel_rfl) ?_
    refine wN_pur (v := iv (blC us r)) rfl (by kernel_rfl) ?_
    refine wN_pur (v := iv (blE us r)) rfl (by kernel_rfl) ?_
    refine wN_mov (v := .slice aB1 (blN us r) cB1) rfl ?_
    refine wN_mov (v := iv (blC us r)) rfl ?_
    refine wN_mov (v := iv (blE us r)) rfl ?_
    refine wN_end ?_
    refine wN_seq ?_
    refine wN_mov (v := .slice sa us.length cap) rfl ?_
    refine wN_lda (b := H.next) (o := 0) rfl c1.rd (show row 7 _ _ = some [iv r.un, iv r.s1, iv r.s2, iv r.a1, iv r.a2, iv r.c1, iv r.c2] from rfl) ?_
    obtain ⟨aB2, cB2, H4, fH4, kH4, sl2⟩ := refblend_ok (kn := kn) (lo := lo) (H := H3) (r := r) hs  (by omega) (by omega)
    refine wN_callf (vs := [.slice sa us.length cap, .agg (Rc.f r).toArray]) rfl (callX_args fH4) ?_
    have mH4 := kH4.1
    have hk := hk.trans kH4
    have hs := kH4.sl0 hs
    have c1 := kH4.cl c1 (by simp)
    have sl1 := kH4.sl0 sl1
    refine wN_mov (v := .tuple #[.slice aB2 (blN us r) cB2, iv (blC us r), iv (blE us r)]) rfl ?_
    refine wN_pur (v := .slice aB2 (blN us r) cB2) rfl (by kernel_rfl) ?_
    refine wN_pur (v := iv (blC us r)) rfl (by kernel_rfl) ?_
    refine wN_pur (v := iv (blE us r)) rfl (by kernel_rfl) ?_
    refine wN_mov (v := .slice aB2 (blN us r) cB2) rfl ?_
    refine wN_mov (v := iv (blC us r)) rfl ?_
    refine wN_mov (v := iv (blE us r)) rfl ?_
    refine wN_end ?_
    refine wN_seq ?_
    refine wN_mov (v := .slice aB1 (blN us r) cB1) rfl ?_
    refine wN_mov (v := .slice aB2 (blN us r) cB2) rfl ?_
    have hbn : blN us r ≤ 1000000 := by unfold blN; split <;> omega
    obtain ⟨H5, fH5, kH5⟩ := ints27_ok (kn := kn) (lo := lo) (H := H4) sl1 sl2 (Nat.le_refl _) hbn
    refine wN_callf (vs := [.slice aB1 (blN us r) cB1, .slice aB2 (blN us r) cB2]) rfl (callX_args fH5) ?_
    have mH5 := kH5.1
    have hk := hk.trans kH5
    have hs := kH5.sl0 hs
    have c1 := kH5.cl c1 (by simp)
    have sl1 := kH5.sl0 sl1
    have sl2 := kH5.sl0 sl2
    refine wN_mov (v := .bool true) rfl ?_
    refine wN_g rfl (wN_mov (v := iv (blC us r)) rfl ?_)
    refine wN_g rfl (wN_mov (v := iv (blC us r)) rfl ?_)
    refine wN_g rfl (wN_eql (a := (blC us r)) rfl rfl ?_)
    refine wN_pur (v := .bool true) rfl rfl ?_
    refine wN_mov (v := .bool true) rfl ?_
    refine wN_g rfl (wN_mov (v := iv (blE us r)) rfl ?_)
    refine wN_g rfl (wN_mov (v := iv (blE us r)) rfl ?_)
    refine wN_g rfl (wN_eql (a := (blE us r)) rfl rfl ?_)
    refine wN_pur (v := .bool true) rfl rfl ?_
    refine wN_mov (v := .bool true) rfl ?_
    refine wN_g rfl (wN_callf (vs := []) rfl (callX_known hkn) ?_)
    refine wN_pur (v := .bool true) rfl rfl ?_
    refine wN_mov (v := .bool true) rfl ?_
    refine wN_end ?_
    exact And.intro trivial (Exists.intro _ (And.intro rfl rfl))
  · refine wN_callf (vs := [.slice sa us.length cap, iv 3000]) rfl (callX_args fH2) ?_
    refine wN_end ?_
    refine condT ?_
    refine wN_seq ?_
    refine wN_callf (vs := []) rfl (callX_known hkn) ?_
    refine wN_mov (v := .bool true) rfl ?_
    refine wN_end ?_
    exact And.intro trivial (Exists.intro _ (And.intro rfl rfl))
end
end Go.Ax

namespace Go.Ax
open Go Go.RowKit Go.Proofs Go.ChangeShapes Go.WideShapes Go.Deep

/-- A type whose cells are whole numbers. -/
def IntT (P : Program) (t : TypeId) : Prop := ∀ (H : Type) (enc : TypeId × Value → H) (w : World) (base : Nat) (spare : Nat → Bool) (held : Bool) (fuel : Nat) (cs : List Value) (x : DataW H × List MemPlace),
  DataW.trod enc P w base spare held fuel t cs = some x → cs.length = P.cellsOf t ∧ ∀ j, j < cs.length → ∃ n, cs[j]? = some (.int .i64 n)
theorem IntT.int {P : Program} {t : TypeId} (ht : P.underlying t = some (.int .i64)) (hc : P.cellsOf t = 1) : IntT P t := by
  intro H enc w base spare held fuel cs x h
  obtain ⟨n, rfl, _⟩ := DataW.trod_int ht h
  refine ⟨by rw [hc]; rfl, fun j hj => ⟨n, ?_⟩⟩
  have : j = 0 := by simp at hj; omega
  subst this; rfl
theorem IntT.struct {P : Program} {t : TypeId} {fs : Array Field} (ht : P.underlying t = some (.struct fs)) (hf : ∀ f ∈ fs.toList, IntT P f.type)
    (hcov : ((List.range (P.cellsOf t)).all fun j => fs.toList.any fun f => decide (f.offset ≤ j) && decide (j < f.offset + P.cellsOf f.type)) = true) : IntT P t := by
  intro H enc w base spare held fuel cs x h
  obtain ⟨xs, n, _, _, hlen, hxl, hg⟩ := DataW.trod_struct ht h
  refine ⟨hlen, fun j hj => ?_⟩
  have h1 := List.all_eq_true.1 hcov j (List.mem_range.2 (by omega))
  obtain ⟨f, hfm, h2⟩ := List.any_eq_true.1 h1
  simp only [Bool.and_eq_true, decide_eq_true_eq] at h2
  obtain ⟨i, hi, hfi⟩ := List.getElem_of_mem hfm
  have hfs : fs[i]? = some f := by
    rw [← Array.getElem?_toList, List.getElem?_eq_getElem hi, hfi]
  have hi2 : i < xs.length := by simpa [hxl] using hi
  have h3 := hg i f hfs
  rw [List.getElem?_eq_getElem hi2] at h3
  obtain ⟨h4, h5⟩ := hf f hfm _ _ _ _ _ _ _ _ _ h3
  obtain ⟨m, hm⟩ := h5 (j - f.offset) (by omega)
  refine ⟨m, ?_⟩
  rw [List.getElem?_take] at hm
  split at hm
  · rw [List.getElem?_drop, show f.offset + (j - f.offset) = j by omega] at hm; exact hm
  · cases hm

/-- A slice of rows of whole numbers, as it is given. -/
structure Given {α : Type} (w : World) (v : Value) (f : α → List Value) (l : List α) (x : Imp) : Prop where
  ok : ∀ (i : Nat) u, x.cs[i]? = some u → w.cell? ⟨x.blk, x.off + i, none⟩ = some u ∧ flat1 u = true
  cs : x.cs = l.flatMap f
  v : (v = .slice none 0 0 ∧ l = []) ∨ ∃ cap, v = .slice (some ⟨x.blk, x.off, none⟩) l.length cap ∧ l.length ≤ cap
theorem flat_get {α : Type} {f : α → List Value} {k : Nat} (hk : 0 < k) : ∀ {l : List α} (_ : ∀ x ∈ l, (f x).length = k) (i : Nat) (u : Value), (l.flatMap f)[i]? = some u → ∃ x, l[i / k]? = some x ∧ (f x)[i % k]? = some u
  | [], _, i, u, h => by simp at h
  | y :: r, hl, i, u, h => by
    have hy := hl y (List.mem_cons_self ..)
    rw [List.flatMap_cons, List.getElem?_append] at h
    split at h
    · rename_i q
      rw [hy] at q
      refine ⟨y, ?_, ?_⟩
      · rw [Nat.div_eq_of_lt q]; rfl
      · rw [Nat.mod_eq_of_lt q]; exact h
    · rename_i q
      rw [hy] at q h
      obtain ⟨x, h1, h2⟩ := flat_get hk (fun x hx => hl x (List.mem_cons_of_mem _ hx)) _ u h
      refine ⟨x, ?_, ?_⟩
      · rw [Nat.div_eq_sub_div hk (by omega)]; exact h1
      · rw [Nat.mod_eq_sub_mod (by omega)]; exact h2
theorem slice_given {H : Type} {enc : TypeId × Value → H} {P : Program} {w : World} {base b0 : Nat} {r : Reach} {held : Bool} {α : Type} (f : α → List Value) (mk : (Nat → Int) → α) (k : Nat) {t e : TypeId} {fuel : Nat} {v : Value} {x : DataW H × List MemPlace}
    (ht : P.underlying t = some (.slice e)) (hI : IntT P e) (hc : P.cellsOf e = k) (hk : 0 < k) (hmk : ∀ N : Nat → Int, f (mk N) = (List.range k).map fun j => Value.int .i64 (N j))
    (hok : Cell.okWide P w r b0 t v) (h : DataW.trod enc P w base (fun _ => true) held fuel t [v] = some x) : ∃ (l : List α) (y : Imp), Given w v f l y := by
  rcases open_slice ht h with ⟨h0, _⟩ | ⟨a, len, cap, m, n, D, Pl, hcs, hb, hl, hm, hmm, hx, hi⟩
  · cases h0
    exact ⟨[], ⟨0, 0, []⟩, fun i u e => by simp at e, rfl, .inl ⟨rfl, rfl⟩⟩
  · cases hcs
    obtain ⟨blk, off, spot⟩ := a
    have hs : spot = none := by
      unfold Cell.okWide at hok
      rw [ht] at hok
      unfold Cell.ok at hok
      simp only [ht] at hok
      exact hok.2.2.2.1
    subst hs
    simp only [if_true] at hmm
    subst hmm
    have hcell : ∀ i, i < len → ∀ j, j < k → ∃ n, w.cell? ⟨blk, off + (i * k + j), none⟩ = some (.int .i64 n) := by
      intro i hil j hj
      obtain ⟨cs', h1, h2⟩ := hi i (by omega)
      obtain ⟨h3, h4⟩ := hI _ _ _ _ _ _ _ _ _ h2
      obtain ⟨_, h5, h6⟩ := World.cells?_some h1
      obtain ⟨n, hn⟩ := h4 j (by omega)
      refine ⟨n, ?_⟩
      have h7 := h6 j (by omega)
      rw [hn, hc, add_add] at h7
      have e : (⟨blk, off, none⟩ : Addr).add (i * k + j) = ⟨blk, off + (i * k + j), none⟩ := by
        unfold Addr.add
        by_cases q : i * k + j = 0
        · simp [q]
        · simp
      rw [e] at h7
      exact h7
    refine ⟨(List.range len).map fun i => mk fun j => match w.cell? ⟨blk, off + (i * k + j), none⟩ with | some (.int _ n) => n | _ => 0, ⟨blk, off, _⟩, ?_, rfl, .inr ⟨m, by simp, by simpa using hl⟩⟩
    intro i u hu
    obtain ⟨y, h1, h2⟩ := flat_get hk (fun y hy => by
      obtain ⟨i, _, rfl⟩ := List.mem_map.1 hy
      rw [hmk]; simp) i u hu
    have hlt : i / k < len := by
      have := get_lt h1
      simpa using this
    rw [List.getElem?_map, List.getElem?_range hlt] at h1
    simp only [Option.map_some, Option.some.injEq] at h1
    subst h1
    have hj : i % k < k := Nat.mod_lt _ hk
    rw [hmk, List.getElem?_map, List.getElem?_range hj] at h2
    simp only [Option.map_some, Option.some.injEq] at h2
    obtain ⟨n, hn⟩ := hcell _ hlt _ hj
    rw [hn] at h2
    subst h2
    rw [Nat.div_add_mod' ] at hn
    exact ⟨hn, rfl⟩
theorem Given.rel {α : Type} {w : World} {v : Value} {f : α → List Value} {l : List α} {x : Imp} (g : Given w v f l x) {r : Ren} {H : Hp} {b : Nat} (hr : r b = some ⟨x.blk, x.off, none⟩) (hb : b < H.next) (hc : cellsOf H b = some x.cs) (hro : H.t.get b = some (.ro x.cs)) :
    ∃ a cap, VR r (.slice a l.length cap) v ∧ Sl H a l.length cap (l.flatMap f) ∧ ∀ b, a = some ⟨b, 0, none⟩ → H.t.get b = some (.ro (l.flatMap f)) := by
  rcases g.v with ⟨rfl, rfl⟩ | ⟨cap, rfl, hl⟩
  · exact ⟨none, 0, .nilSlice, .inl ⟨.inl rfl, rfl, rfl, rfl⟩, fun b e => by cases e⟩
  · refine ⟨some ⟨b, 0, none⟩, cap, ?_, .inr ⟨b, rfl, ⟨hb, by rw [hc, g.cs]⟩, hl⟩, fun b' e => by cases e; rw [hro, g.cs]⟩
    have := VR.slice (o := 0) (n := l.length) (c := cap) hr rfl hl
    simpa using this
end Go.Ax

/-! Slices of rows of plain cells, as arguments. -/
namespace Go.Ax
open Go Go.RowKit Go.Proofs Go.ChangeShapes Go.WideShapes Go.Deep

theorem IntT.row {α : Type} {P : Program} {t : TypeId} {k : Nat} {f : α → List Value} {mk : (Nat → Int) → α} (h : IntT P t) (hc : P.cellsOf t = k) (hmk : ∀ N : Nat → Int, f (mk N) = (List.range k).map fun j => Value.int .i64 (N j))
    {H : Type} {enc : TypeId × Value → H} {w : World} {base : Nat} {spare : Nat → Bool} {held : Bool} (fuel : Nat) (cs : List Value) (x : DataW H × List MemPlace) (hx : DataW.trod enc P w base spare held fuel t cs = some x) : ∃ y : α, cs = f y ∧ True := by
  obtain ⟨h1, h2⟩ := h _ _ _ _ _ _ _ _ _ hx
  have : ∃ N : Nat → Int, ∀ j, j < cs.length → cs[j]? = some (.int .i64 (N j)) := by
    refine ⟨fun j => match cs[j]? with | some (.int _ n) => n | _ => 0, fun j hj => ?_⟩
    obtain ⟨n, hn⟩ := h2 j hj
    simp [hn]
  obtain ⟨N, hN⟩ := this
  refine ⟨mk N, ?_, trivial⟩
  rw [hmk]
  apply List.ext_getElem?
  intro j
  by_cases hj : j < k
  · rw [hN j (by omega), List.getElem?_map, List.getElem?_range hj]; rfl
  · rw [List.getElem?_eq_none (by omega), List.getElem?_eq_none (by simp; omega)]
end Go.Ax

/-! Arguments that point to what points: inner slices, rows of slices. -/
namespace Go.Ax
open Go Go.RowKit Go.Proofs Go.ChangeShapes Go.WideShapes Go.Deep

def renOf (imps : List Imp) : Ren := fun b => (imps[b]?).map fun x => ⟨x.blk, x.off, none⟩
theorem imports3 {P : Program} (imps outs : List Imp) (w : World) (h : ∀ x ∈ imps, ∀ (i : Nat) v, x.cs[i]? = some v → w.cell? ⟨x.blk, x.off + i, none⟩ = some v ∧ flat1 v = true)
    (hcs : ∀ x ∈ outs, ∀ (i : Nat) v, x.cs[i]? = some v → ∃ v', w.cell? ⟨x.blk, x.off + i, none⟩ = some v' ∧ VR (renOf imps) v v') :
    ∃ (r : Ren) (H : Hp), Rel P r w.heap.size H w ∧ H.next = (imps ++ outs).length ∧ (∀ b loc, r b = some loc → b < H.next) ∧ Ren.Le (renOf imps) r ∧ ∀ (b : Nat) x, (imps ++ outs)[b]? = some x → r b = some ⟨x.blk, x.off, none⟩ ∧ H.t.get b = some (.ro x.cs) := by
  have hall : ∀ x ∈ imps ++ outs, ∀ (i : Nat) v, x.cs[i]? = some v → ∃ v', w.cell? ⟨x.blk, x.off + i, none⟩ = some v' ∧ VR (renOf imps) v v' := by
    intro x hx i v hv
    rcases List.mem_append.1 hx with hx | hx
    · obtain ⟨h1, h2⟩ := h x hx i v hv
      exact ⟨v, h1, flat1_vr h2⟩
    · exact hcs x hx i v hv
  obtain ⟨t, ht⟩ := tr_of (fun b => ((imps ++ outs)[b]?).map fun x => .ro x.cs) (imps ++ outs).length
  have hle : Ren.Le (renOf imps) (fun b => ((imps ++ outs)[b]?).map fun x => ⟨x.blk, x.off, none⟩) := fun b loc e => by
    unfold renOf at e
    have hlt : b < imps.length := by
      rcases Nat.lt_or_ge b imps.length with q | q
      · exact q
      · rw [List.getElem?_eq_none q] at e; cases e
    show ((imps ++ outs)[b]?).map _ = _
    rw [List.getElem?_append_left hlt]; exact e
  have hr : ∀ (b : Nat) loc, ((imps ++ outs)[b]?).map (fun x => (⟨x.blk, x.off, none⟩ : Loc)) = some loc → ∃ x, (imps ++ outs)[b]? = some x ∧ b < (imps ++ outs).length ∧ loc = ⟨x.blk, x.off, none⟩ ∧ t.get b = some (.ro x.cs) := by
    intro b loc e
    cases hx : (imps ++ outs)[b]? with
    | none => rw [hx] at e; cases e
    | some x =>
      rw [hx] at e
      simp at e
      have hlt := get_lt hx
      exact ⟨x, rfl, hlt, e.symm, by rw [ht, if_pos hlt, hx]; rfl⟩
  have low : ∀ {g o : Nat} {v : Value}, w.cell? ⟨g, o, none⟩ = some v → g < w.heap.size := fun {g o v} hv => by
    unfold World.cell? at hv
    rcases Nat.lt_or_ge g w.heap.size with q | q
    · exact q
    · rw [Array.getElem?_eq_none q] at hv; cases hv
  refine ⟨fun b => ((imps ++ outs)[b]?).map fun x => ⟨x.blk, x.off, none⟩, { next := (imps ++ outs).length, t }, ⟨?_, ?_, ?_, Nat.le_refl _⟩, rfl, ?_, hle, ?_⟩
  · intro b loc e
    obtain ⟨x, hx, hlt, rfl, hg⟩ := hr b loc e
    refine ⟨hlt, ?_⟩
    show Dm _ _ _ (t.get b)
    rw [hg]
    cases hc : x.cs with
    | nil => exact .inl rfl
    | cons v l =>
      obtain ⟨v', h1, _⟩ := hall x (List.mem_of_getElem? hx) 0 v (by rw [hc]; rfl)
      exact .inr (low h1)
  · intro b loc o e eo
    obtain ⟨x, hx, hlt, rfl, hg⟩ := hr b loc e
    rw [hg] at eo; cases eo
    refine ⟨rfl, fun i v ev => ?_⟩
    obtain ⟨v', h1, h2⟩ := hall x (List.mem_of_getElem? hx) i v ev
    unfold World.cell? at h1
    simp only at h1
    split at h1
    · rename_i C e' f hC
      exact ⟨C, e', f, v', hC, by simpa using h1, h2.mono hle⟩
    · cases h1
  · intro b b' loc loc' e e' _ hl _
    obtain ⟨x, hx, hlt, rfl, hg⟩ := hr b loc e
    obtain ⟨o, h1, h2, h3⟩ := hl
    have : t.get b = some o := h1
    rw [hg] at this; cases this
    cases h3
  · intro b loc e
    obtain ⟨x, hx, hlt, rfl, hg⟩ := hr b loc e
    exact hlt
  · intro b x hx
    have hlt := get_lt hx
    refine ⟨by simp only [hx, Option.map_some], ?_⟩
    show t.get b = _
    rw [ht, if_pos hlt, hx]; rfl

/-- An inner slice, as it is given: an empty one may have any address. -/
structure GivI {α : Type} (w : World) (v : Value) (f : α → List Value) (l : List α) (x : Imp) : Prop where
  ok : ∀ (i : Nat) u, x.cs[i]? = some u → w.cell? ⟨x.blk, x.off + i, none⟩ = some u ∧ flat1 u = true
  cs : x.cs = l.flatMap f
  v : ((v = .slice none 0 0 ∨ ∃ a', v = .slice (some a') 0 0) ∧ l = []) ∨ ∃ cap, v = .slice (some ⟨x.blk, x.off, none⟩) l.length cap ∧ l.length ≤ cap
theorem GivI.rel {α : Type} {w : World} {v : Value} {f : α → List Value} {l : List α} {x : Imp} (g : GivI w v f l x) {r : Ren} {b : Nat} (hr : r b = some ⟨x.blk, x.off, none⟩) :
    ∃ a cap, VR r (.slice a l.length cap) v ∧ (∀ y, a = some ⟨y, 0, none⟩ → y = b) ∧ ∀ H : Hp, b < H.next → H.t.get b = some (.ro x.cs) → Sl H a l.length cap (l.flatMap f) := by
  rcases g.v with ⟨rfl | ⟨a', rfl⟩, rfl⟩ | ⟨cap, rfl, hl⟩
  · exact ⟨none, 0, .nilSlice, fun y e => by (cases e), fun H _ _ => .inl ⟨.inl rfl, rfl, rfl, rfl⟩⟩
  · exact ⟨some ⟨0, 0, some 0⟩, 0, .weird, fun y e => by (cases e), fun H _ _ => .inl ⟨.inr rfl, rfl, rfl, rfl⟩⟩
  · refine ⟨some ⟨b, 0, none⟩, cap, ?_, fun y e => by (cases e; rfl), fun H hb hc => .inr ⟨b, rfl, ⟨hb, by unfold cellsOf; rw [hc, g.cs]⟩, hl⟩⟩
    have := VR.slice (o := 0) (n := l.length) (c := cap) hr rfl hl
    simpa using this
structure RV where
  rv : Value
  l : List Int
  x : Imp
def RV.f (r : RV) : List Value := [r.rv]
def RV.Q (w : World) (r : RV) : Prop := GivI w r.rv (fun n : Int => [iv n]) r.l r.x
end Go.Ax

/-! Machines and what is flat as arguments. -/
namespace Go.Ax
open Go Go.RowKit Go.Proofs Go.ChangeShapes Go.WideShapes Go.Deep

/-- A machine, as it is given. -/
structure MV where
  rv : Value
  l : List Ou
  x : Imp
def MV.f (r : MV) : List Value := [r.rv]
def MV.Q (w : World) (r : MV) : Prop := GivI w r.rv Ou.f r.l r.x
theorem imports_flat {P : Program} (pre : List Imp) {w : World} (h : ∀ x ∈ pre, ∀ (i : Nat) v, x.cs[i]? = some v → w.cell? ⟨x.blk, x.off + i, none⟩ = some v ∧ flat1 v = true) :
    ∃ (r : Ren) (H : Hp), Rel P r w.heap.size H w ∧ (∀ b loc, r b = some loc → b < H.next) ∧ (∀ (b : Nat) x, pre[b]? = some x → b < H.next ∧ r b = some ⟨x.blk, x.off, none⟩ ∧ H.t.get b = some (.ro x.cs)) := by
  obtain ⟨r, H, h1, h2, h3, h4, h5⟩ := imports3 (P := P) pre [] w h (fun x hx => by simp at hx)
  refine ⟨r, H, h1, h3, fun b x hx => ?_⟩
  have := get_lt hx
  obtain ⟨a, c⟩ := h5 b x (by simpa using hx)
  exact ⟨by rw [h2]; simpa using this, a, c⟩
end Go.Ax


import Derived.Test.YtpdoogfafjjdkaaMb
import Derived.Test.YtpdoogfafjjdkaaAxW9
import Derived.Test.YtpdoogfafjjdkaaChecked
import Derived.Test.YtpdoogfafjjdkaaAxW10
import Derived.Test.YtpdoogfafjjdkaaAxO
import Derived.Deep.Slices
import Derived.Deep.Fields
import Derived.ChangeSame
set_option linter.all false
/-
  Late: the states with the iterator's own block; Oxygen (17) (written by program).
-/
namespace Go.Ax
open Go Go.RowKit Go.Proofs

noncomputable abbrev asg17 : Code := at_ Try.f17 [1, 1, 1, 1, 0, 1, 0, 0]
noncomputable abbrev body17 : Code := at_ Try.f17 [1, 1, 1, 1, 0, 1, 0, 1]
theorem se22 : sliceElem Try.prog 22 = some (24, 2) := by kernel_rfl
theorem z24 : zeroOf Try.prog 24 = some (.agg #[iv 0, iv 0]) := by kernel_rfl
theorem u22 : Try.prog.underlying 22 = some (.slice 24) := by kernel_rfl
structure OX where
  g : Lt
  s : Nat
  d : Nat
  m : Nat
  b12 : Nat
  bc : Nat
  r : Nat
structure OJ (X : OX) (lo : Nat) (H0 : Hp) (b k : Nat) (H' : Hp) : Prop where
  c12 : ∃ wv, Cl H' X.b12 [wv] ∧ Acc lo (b + 1) 24 H' wv (k - 1) (spc (X.g.ox X.s (Nat.testBit X.m) (k - 1)))
  cb : Rd H' X.bc (crs X.g X.s X.d X.m)
  hw : Sl H' X.g.wa X.g.wn X.g.wcap (spc X.g.ws)
  ha : Sl H' X.g.aa X.g.an X.g.acap (spc X.g.as)
  lp : Lp Try.prog H' (X.r + 1) .ready none 37 [(12, pt X.b12)] [27] asg17 body17 X.r
  lb : X.r + 1 < b
  ll : b < H'.next
  dfr : H'.t.get X.r = some (.dfr (some []))
  kp : Keep H0 H' []
structure OG (X : OX) (lo : Nat) (H0 : Hp) : Prop where
  o0 : H0.next ≤ X.b12
  ol : lo ≤ X.b12
  o1 : X.b12 < X.bc
  o2 : X.bc < X.r
theorem Acc.other {lo f : Nat} {e : TypeId} {H H1 : Hp} {v : Value} {n : Nat} {cs : List Value} (h : Acc lo f e H v n cs) {w : List Nat} (k : Keep H H1 w) (hw : ∀ b ∈ w, b < f) : Acc lo f e H1 v n cs :=
  h.imp id fun ⟨b, e1, h0, hf, hl, hn, hg⟩ => ⟨b, e1, h0, hf, hl, Nat.lt_of_lt_of_le hn k.1, by rw [k.2 b hn (fun q => by have := hw b q; omega)]; exact hg⟩
section
variable {kn : FuncId → Option Bool} {lo : Nat} {H : Hp}
/-- The states, one by one, with the block of the iterator's own: J holds ahead of the k-th one. -/
theorem iter_ok2 {g : Lt} (v : g.Vd) {s d m l bc : Nat} (hsd : s + d ≤ g.wn) (J : Nat → Nat → Hp → Prop) (hlo : lo ≤ H.next) (rc : Rd H bc (crs g s d m)) (hJ0 : ∀ b H1, Keep H H1 [] → H.next ≤ b → b < H1.next → J b 0 H1) (hJe : ∀ b k H1, J b k H1 → Rd H1 bc (crs g s d m) ∧ Sl H1 g.wa g.wn g.wcap (spc g.ws) ∧ Sl H1 g.aa g.an g.acap (spc g.as))
    (hJk : ∀ b k H1 H2, J b k H1 → Keep H1 H2 [b] → J b k H2) (hJn : ∀ b k H1, J b k H1 → H.next ≤ H1.next)
    (step : ∀ b k H1, k ≤ d → J b k H1 → ∃ H', CallsX Try.prog kn lo (.fn (.yield l) #[]) [.agg (g.st s (Nat.testBit m) k).toArray] H1 (.bool true) H' ∧ (∀ cs, Cl H1 b cs → Cl H' b cs) ∧ J b (k + 1) H') :
    ∃ b H', FnX Try.prog kn lo 63 [.func (.yield l) #[] #[], pt bc] H unit H' ∧ H.next ≤ b ∧ J b (d + 1) H' := by
  have key := fnX_low (kn := kn) (lo := lo) (H := H) (args := [.func (.yield l) #[] #[], pt bc]) (Q := fun w H' => w = unit ∧ ∃ b, H.next ≤ b ∧ J b (d + 1) H') Try.func63 B63 N63 Z63 L63 (by simp) ?_
  · obtain ⟨w, H', h, rfl, b, q⟩ := key; exact ⟨b, H', h, q⟩
  have hk := Keep.refl H []
  have hJm : ∀ b k H1 H2, J b k H1 → Keep H1 H2 [] → J b k H2 := fun b k H1 H2 j kk => hJk b k H1 H2 j (kk.mono (by simp))
  have lbc := rc.lt
  refine wD_seq ?_
  refine wD_addo (b := bc) (o := 0) rfl ?_
  refine wD_addo (b := bc) (o := 0) rfl ?_
  refine wD_lda (b := bc) (o := 4) rfl rc (show row 2 _ _ = some [iv g.f1, iv g.f2] from rfl) ?_
  obtain ⟨H1, fH1, kH1⟩ := bound64_ok (kn := kn) (lo := H.next) (H := H) (a := g.f1) (b := g.f2) (Nat.le_refl _)
  refine wD_callh (vs := [spv g.f1 g.f2]) rfl (by kernel_rfl) (callX_args fH1) ?_
  have mH1 := kH1.1
  have hk := hk.trans kH1
  have rc := kH1.rd rc (by simp)
  refine wD_addo (b := bc) (o := 0) rfl ?_
  refine wD_addo (b := bc) (o := 0) rfl ?_
  refine wD_lda (b := bc) (o := 4) rfl rc (show row 2 _ _ = some [iv g.f1, iv g.f2] from rfl) ?_
  obtain ⟨H2, fH2, kH2⟩ := bound65_ok (kn := kn) (lo := H1.next) (H := H1) (a := g.f1) (b := g.f2) (Nat.le_refl _)
  refine wD_callh (vs := [spv g.f1 g.f2]) rfl (by kernel_rfl) (callX_args fH2) ?_
  have mH2 := kH2.1
  have hk := hk.trans kH2
  have rc := kH2.rd rc (by simp)
  refine wD_pur (v := .agg #[iv 0, iv 0, iv 0, iv g.f1, iv 0, iv g.f2, iv 0]) rfl (by kernel_rfl) ?_
  refine wD_alc ?_
  intro H3 kH3 nH3 c3
  have c3 : Cl H3 H2.next [iv 0, iv 0, iv 0, iv 0, iv 0, iv 0, iv 0] := c3
  have mH3 := kH3.1
  have hk := hk.trans kH3
  have rc := kH3.rd rc (by simp)
  refine wD_sta (b := H2.next) (o := 0) rfl rfl c3 (by omega) rfl rfl (by simp) ?_
  intro H4 kH4 nH4 sH4
  have mH4 := kH4.1
  have hk := hk.new kH4 (fun b hb => by simp at hb ⊢; omega)
  have rc := kH4.rd rc (by first | (simp; done) | (simp; omega))
  have c3 : Cl H4 H2.next [iv 0, iv 0, iv 0, iv g.f1, iv 0, iv g.f2, iv 0] := sH4
  refine wD_end (by repeat' first | exact True.intro | exact (fun h => h) | refine And.intro ?_ ?_ | (intro h; have h : (_ : Nat) = _ := h; omega)) ?_
  have hb3 : H.next ≤ H2.next := by omega
  have hJs : J H2.next 0 H4 := hJ0 _ _ hk hb3 (by omega)
  generalize H2.next = b3 at *
  have c0 : Cl H4 b3 (g.st s (Nat.testBit m) 0) := c3
  refine loop_low (fn := Try.f63) E63_1 N63 L63x1 (fun k : Nat => [(0, .func (.yield l) #[] #[]), (1, pt bc), (3, pt b3)])
    (fun q k H' => k + q = d ∧ J b3 k H' ∧ Cl H' b3 (g.st s (Nat.testBit m) k)) d 0 ⟨by omega, hJs, c0⟩ ⟨rfl, rfl, rfl, trivial⟩ ?_
  rintro q k H5 ⟨hkq, hJ, c⟩
  refine Exists.intro _ (Exists.intro _ (And.intro c.of (And.intro (show _ = some (iv (k : Int)) from rfl) ?_)))
  refine Exists.intro _ (Exists.intro _ (And.intro (hJe b3 k H5 hJ).1.of (And.intro (show _ = some (iv (d : Int)) from rfl) ?_)))
  refine And.intro (fun hlt => ?_) (fun hge => ?_)
  · have hlt : k < d := by have := of_decide_eq_true hlt; omega
    refine Exists.intro _ (Exists.intro _ (And.intro c.of (And.intro (show row 7 _ 0 = some (g.st s (Nat.testBit m) k) from rfl) ?_)))
    obtain ⟨H6, f6, own, hj⟩ := step b3 k H5 (by omega) hJ
    refine Exists.intro _ (Exists.intro _ (And.intro f6 ?_))
    refine And.intro rfl (Exists.intro (.bool false) (And.intro rfl ?_))
    refine condF ?_
    have c6 := own _ c
    obtain ⟨r6, hw6, ha6⟩ := hJe b3 (k + 1) H6 hj
    refine Exists.intro _ (Exists.intro _ (And.intro r6.of (And.intro (show row 16 _ 0 = some (crs g s d m) from rfl) ?_)))
    refine Exists.intro _ (Exists.intro _ (And.intro c6.of (And.intro (show row 7 _ 0 = some (g.st s (Nat.testBit m) k) from rfl) ?_)))
    have hn6 := hJn _ _ _ hj
    obtain ⟨H7, f7, k7⟩ := day_ok (kn := kn) (lo := lo) (H := H6) (s := s) (d := d) (m := m) v (k := k) (by omega) hw6 ha6 (by omega)
    refine Exists.intro _ (Exists.intro _ (And.intro (callX_args f7) ?_))
    have c7 := k7.cl c6 (by simp)
    obtain ⟨_, e8, l8, g8⟩ := id c7
    refine Exists.intro _ (Exists.intro _ (Exists.intro _ (And.intro g8 (And.intro (by omega) (And.intro rfl (And.intro rfl (And.intro (by simp) ?_)))))))
    intro H8 hH8; obtain ⟨k8, n8, c8⟩ := up_facts c7 hH8; clear hH8
    have c8 : Cl H8 b3 (g.st s (Nat.testBit m) (k + 1)) := c8
    exact ⟨q - 1, k + 1, by omega, ⟨by omega, hJk _ _ _ _ (hJm _ _ _ _ hj k7) k8, c8⟩, rfl, rfl, rfl, trivial⟩
  · have hge : ¬ k < d := by have := of_decide_eq_false hge; omega
    have e : k = d := by omega
    subst e
    refine Exists.intro _ (Exists.intro _ (And.intro c.of (And.intro (show row 7 _ 0 = some (g.st s (Nat.testBit m) k) from rfl) ?_)))
    obtain ⟨H6, f6, own, hj⟩ := step b3 k H5 (Nat.le_refl _) hJ
    refine Exists.intro _ (Exists.intro _ (And.intro f6 ?_))
    exact And.intro trivial (Exists.intro _ (And.intro rfl ⟨rfl, b3, hb3, hj⟩))
theorem ox_round {X : OX} {H0 : Hp} (G : OG X lo H0) (v : X.g.Vd) (hsd : X.s + X.d ≤ X.g.wn) (fw : ∀ b, X.g.wa = some ⟨b, 0, none⟩ → b < H0.next) (fa : ∀ b, X.g.aa = some ⟨b, 0, none⟩ → b < H0.next) {b k : Nat} (hkd : k ≤ X.d) (j : OJ X lo H0 b k H) :
    ∃ H', CallsX Try.prog kn lo (.fn (.yield (X.r + 1)) #[]) [.agg (X.g.st X.s (Nat.testBit X.m) k).toArray] H (.bool true) H' ∧ (∀ cs, Cl H b cs → Cl H' b cs) ∧ OJ X lo H0 b (k + 1) H' := by
  have L1 : low Try.prog 37 asg17 = some R17x1 := N17 ▸ L17x1
  have L2 : low Try.prog 37 body17 = some R17x2 := N17 ▸ L17x2
  obtain ⟨o0, ol, o1, o2⟩ := G
  have hn40 := v.n40
  have key := yield_ok (kn := kn) (P := Try.prog) (lo := lo) (S1 := (27, .agg (X.g.st X.s (Nat.testBit X.m) k).toArray) :: [(12, pt X.b12)]) (args := [.agg (X.g.st X.s (Nat.testBit X.m) k).toArray]) (Q := fun t H' => t = true ∧ (∀ cs, Cl H b cs → Cl H' b cs) ∧ OJ X lo H0 b (k + 1) H') j.lp (by omega) (by rfl) rfl (wC_sound true _ L1 ?_)
  · obtain ⟨t, H', h, rfl, q⟩ := key; exact ⟨H', h, q⟩
  have ll := j.ll
  have lb := j.lb
  intro H1 hH1; obtain ⟨k1, n1, c1⟩ := new_facts hH1; clear hH1
  obtain ⟨_, e2, l2, g2⟩ := id c1
  refine Exists.intro _ (Exists.intro _ (Exists.intro _ (And.intro g2 (And.intro (by have := j.kp.1; omega) (And.intro rfl (And.intro rfl (And.intro (by simp) ?_)))))))
  intro H2 hH2; obtain ⟨k2, n2, c2⟩ := up_facts c1 hH2; clear hH2
  have c2 : Cl H2 H.next (X.g.st X.s (Nat.testBit X.m) k) := c2
  have k02 : Keep H H2 [] := k1.new k2 (fun b hb => .inr (by simp at hb; omega))
  have m02 := k02.1
  have lp2 := j.lp.keep k02 (by omega) (by simp)
  refine And.intro trivial (And.intro lp2 ?_)
  intro H4 s4
  have k4 := s4.keep
  have lp4 := s4.lp lp2
  have hn4 : H4.next = H2.next := s4.1
  have nl : ∀ x, x < X.r + 1 → x ∉ [X.r + 1] := fun x hx => by simp; omega
  have k04 : Keep H H4 [X.r + 1] := (k02.mono (by simp)).trans k4
  obtain ⟨wv, d12, acc⟩ := j.c12
  have d12 := k04.cl d12 (nl _ (by omega))
  have db := k04.rd j.cb (nl _ (by omega))
  have dw := k04.sl j.hw (fun b e => nl _ (by have := fw b e; omega))
  have da := k04.sl j.ha (fun b e => nl _ (by have := fa b e; omega))
  have c4 := k4.cl c2 (by simp; omega)
  have ddf : H4.t.get X.r = some (.dfr (some [])) := by rw [k04.2 X.r (by omega) (nl _ (by omega))]; exact j.dfr
  have kp4 : Keep H0 H4 [] := j.kp.new k04 (fun b hb => .inr (by simp at hb; omega))
  have acc := acc.other k04 (by intro b hb; simp at hb; omega)
  refine wC_sound true _ L2 ?_
  refine Exists.intro _ (Exists.intro _ (And.intro c4.of (And.intro (show _ = some (iv (k : Int)) from rfl) ?_)))
  rcases Nat.eq_zero_or_pos k with h0 | h0
  · subst h0
    refine condF ?_
    refine And.intro lp4 ?_
    intro H7 s7
    have k7 := s7.keep
    have hn7 : H7.next = H4.next := s7.1
    have k47 : Keep H H7 [X.r + 1] := k04.trans k7
    exact ⟨rfl, fun cs c => k47.cl c (by simp; omega), ⟨⟨wv, k7.cl d12 (nl _ (by omega)), acc.other k7 (by intro b hb; simp at hb; omega)⟩, k7.rd db (nl _ (by omega)), k7.sl dw (fun b e => nl _ (by have := fw b e; omega)), k7.sl da (fun b e => nl _ (by have := fa b e; omega)), s7.lp lp4, lb, by omega, by rw [k7.2 X.r (by omega) (nl _ (by omega))]; exact ddf, kp4.new k7 (fun b hb => .inr (by simp at hb; omega))⟩⟩
  · have hg : decide ((k : Int) > 0) = true := decide_eq_true (by omega)
    refine And.intro (fun _ => ?_) (fun h => by rw [hg] at h; cases h)
    refine wD_dreg ?_
    refine wD_ld (v := wv) rfl d12.rd rfl ?_
    refine wD_lda rfl c4.rd (show row 7 _ 0 = some (X.g.st X.s (Nat.testBit X.m) k) from rfl) ?_
    obtain ⟨H5, f5, k5⟩ := span42_ok (kn := kn) (lo := H4.next) (H := H4) (n := (k : Int)) (a := X.g.wl X.s k) (b := X.g.wh X.s k) (l := X.g.lo X.s (Nat.testBit X.m) k) (p := X.g.sl X.s (Nat.testBit X.m) k) (h := X.g.hi X.s (Nat.testBit X.m) k) (q := X.g.sm X.s (Nat.testBit X.m) k) (Nat.le_refl _)
    refine wD_callh (vs := [.agg (X.g.st X.s (Nat.testBit X.m) k).toArray]) rfl (by kernel_rfl) (callX_args f5) ?_
    have m5 := k5.1
    obtain ⟨H6, hH6⟩ : ∃ H6, H5.new (.cells [iv (X.g.lo X.s (Nat.testBit X.m) k), iv (X.g.hi X.s (Nat.testBit X.m) k)] 24 false) = H6 := ⟨_, rfl⟩
    refine wD_memh (H' := H6) (k := .heavy) rfl (by kernel_rfl) ((heap_build1 (v := spv (X.g.lo X.s (Nat.testBit X.m) k) (X.g.hi X.s (Nat.testBit X.m) k)) se22 z24 rfl rfl rfl (by decide)).trans (by rw [← hH6]; rfl)) (fun b e => by cases e) ?_
    obtain ⟨k6, n6, c6⟩ := new_facts hH6; clear hH6
    have m6 := k6.1
    have k46 := k5.trans k6
    obtain ⟨H7, kd7, e7, d7, a7, kb7⟩ := heap_append_below (P := Try.prog) (lo := lo) (k := k - 1) (t1 := 22) se22 u22 (c6.sl (Nat.le_refl 1)) rfl (by decide) rfl (by rw [spc_len, Lt.ox_len]) (by omega) (acc.keep k46) (by have := j.kp.1; omega) (by omega)
    refine wD_memh (k := kd7) rfl (by cases wv <;> kernel_rfl) (e7 _ _ _ _ _ _ _ rfl rfl) (reg_ok d7 _) ?_
    have m7 := kb7.1
    have e12 := kb7.cl (k46.cl d12 (by simp)) (by omega)
    refine wD_st (b := X.b12) (o := 0) rfl rfl e12 ol rfl rfl (by simp) ?_
    intro H8 k8 n8 c8
    have c8 : Cl H8 X.b12 [.slice (some ⟨H6.next, 0, none⟩) (k - 1 + 1) (k - 1 + 1)] := c8
    refine wD_end (by rcases d7 with rfl | ⟨b7, rfl, hb7⟩ <;> repeat' first | exact True.intro | exact (fun h => h) | refine And.intro ?_ ?_ | (intro h; have h : (_ : Nat) = _ := h; omega)) ?_
    have n12 : ∀ x, x ≠ X.b12 → x ∉ [X.b12] := fun x hx => by simpa using hx
    have lp5 : Lp Try.prog H8 (X.r + 1) .busy none 37 [(12, pt X.b12)] [27] asg17 body17 X.r := by
      obtain ⟨fn, T, q1, q2, q3⟩ := lp4.keep k46 (by omega) (by simp)
      exact ⟨fn, T, by rw [k8.2 (X.r + 1) (by omega) (n12 _ (by omega)), kb7.2 (X.r + 1) (by omega)]; exact q1, q2, q3⟩
    refine And.intro lp5 ?_
    intro H9 s9
    have k9 := s9.keep
    have hn9 : H9.next = H8.next := s9.1
    have ek : k - 1 + 1 = k := by omega
    have eox : spc (X.g.ox X.s (Nat.testBit X.m) (k + 1 - 1)) = spc (X.g.ox X.s (Nat.testBit X.m) (k - 1)) ++ [iv (X.g.lo X.s (Nat.testBit X.m) k), iv (X.g.hi X.s (Nat.testBit X.m) k)] := by
      have e : k + 1 - 1 = (k - 1) + 1 := by omega
      rw [e, Lt.ox_succ, ek]; simp [spc]
    have accN : Acc lo (b + 1) 24 H9 (.slice (some ⟨H6.next, 0, none⟩) (k - 1 + 1) (k - 1 + 1)) (k + 1 - 1) (spc (X.g.ox X.s (Nat.testBit X.m) (k + 1 - 1))) := by
      rw [eox, show k + 1 - 1 = k - 1 + 1 by omega]
      exact (a7.other k8 (by intro x hx; simp at hx; omega)).other k9 (by intro x hx; simp at hx; omega)
    have kpN : Keep H0 H9 [] := ((kb7.keep (kp4.trans k46) (by have := j.kp.1; omega)).new k8 (fun x hx => .inr (by simp at hx; omega))).new k9 (fun x hx => .inr (by simp at hx; omega))
    refine ⟨rfl, fun cs c => ?_, ⟨⟨_, k9.cl c8 (nl _ (by omega)), accN⟩, k9.rd (k8.rd (kb7.rd (k46.rd db (by simp)) (by omega)) (n12 _ (by omega))) (nl _ (by omega)), ?_, ?_, s9.lp lp5, lb, by omega, ?_, kpN⟩⟩
    · exact k9.cl (k8.cl (kb7.cl (k46.cl (k04.cl c (by simp; omega)) (by simp)) (by omega)) (n12 _ (by omega))) (by simp; omega)
    · exact k9.sl (k8.sl (kb7.sl (k46.sl0 dw) (fun x e => by have := fw x e; omega)) (fun x e => n12 _ (by have := fw x e; omega))) (fun x e => nl _ (by have := fw x e; omega))
    · exact k9.sl (k8.sl (kb7.sl (k46.sl0 da) (fun x e => by have := fa x e; omega)) (fun x e => n12 _ (by have := fa x e; omega))) (fun x e => nl _ (by have := fa x e; omega))
    · rw [k9.2 X.r (by omega) (nl _ (by omega)), k8.2 X.r (by omega) (n12 _ (by omega)), kb7.2 X.r (by omega), k46.2 X.r (by omega) (by simp)]; exact ddf
/-- what Oxygen answers -/
def Lt.Ox (g : Lt) (a b : Int) (us : List Int) (H : Hp) (w : Value) (H' : Hp) : Prop :=
  (g.ok = false ∧ w = .tuple #[.slice none 0 0, iv 1]) ∨ (g.ok = true ∧ (flB g a b && setB a (a + b) us) = false ∧ w = .tuple #[.slice none 0 0, iv 2]) ∨
  (g.ok = true ∧ ∃ s d : Nat, a = s ∧ b = d ∧ s + d ≤ g.wn ∧ setB s (s + d) us = true ∧ ∃ oa oc, w = .tuple #[.slice oa d oc, iv 0] ∧ Sl H' oa d oc (spc (g.ox s (Nat.testBit (dayMask us)) d)) ∧ ∀ x, oa = some ⟨x, 0, none⟩ → H.next ≤ x)
theorem oxygen_ok {g : Lt} {a b : Int} (hw : Sl H g.wa g.wn g.wcap (spc g.ws)) (ha : Sl H g.aa g.an g.acap (spc g.as)) (hwl : g.ws.length = g.wn) (hal : g.as.length = g.an) (hwn : g.wn ≤ 1000) (han : g.an ≤ 1000) {la : Option Addr} {n cap : Nat} {us : List Int} (hl : Sl H la n cap (ints us)) (hul : us.length = n) (hn : n ≤ 1000) (hlo : lo ≤ H.next) :
    ∃ w H', FnX Try.prog kn lo 17 [.agg g.v.toArray, iv a, iv b, .slice la n cap] H w H' ∧ Keep H H' [] ∧ g.Ox a b us H w H' := by
  refine fnX_lowR (kn := kn) (lo := lo) (H := H) (args := [.agg g.v.toArray, iv a, iv b, .slice la n cap]) (Q := fun w H' => Keep H H' [] ∧ g.Ox a b us H w H') Try.func17 B17 N17 Z17 L17 (by simp) ?_
  have fw : ∀ b, g.wa = some ⟨b, 0, none⟩ → b < H.next := hw.old
  have fa : ∀ b, g.aa = some ⟨b, 0, none⟩ → b < H.next := ha.old
  intro y hy
  refine TriR.lowR hy ?_
  intro H1 hH1; obtain ⟨k1, n1, c1⟩ := new_facts hH1; clear hH1
  have c1 : Cl H1 H.next g.v := c1
  intro y hy
  refine TriR.lowR hy ?_
  refine Exists.intro _ (Exists.intro _ (And.intro c1.of (And.intro (show row 13 g.v 0 = some g.v from rfl) ?_)))
  obtain ⟨w, H2, f2, k2, hc⟩ := course_ok (kn := kn) (lo := lo) (H := H1) (g := g) (a := a) (b := b) (us := us) (k1.sl0 hw) (k1.sl0 ha) hwl hal hwn han (k1.sl0 hl) hul hn (by omega)
  have k02 := k1.trans k2
  have m2 := k2.1
  refine Exists.intro _ (Exists.intro _ (And.intro (callX_args f2) ?_))
  have bad : ∀ (e : Int), e ≠ 0 → w = .tuple #[.agg zeroC.toArray, iv e] → True := fun _ _ _ => trivial
  clear bad
  rcases hc with ⟨hok, rfl⟩ | ⟨hok, hfl, rfl⟩ | ⟨hok, s, d, rfl, rfl, hsd, hset, rfl⟩
  · refine And.intro rfl (Exists.intro (.agg zeroC.toArray) (And.intro (by kernel_rfl) ?_))
    refine And.intro rfl (Exists.intro (iv 1) (And.intro (by kernel_rfl) ?_))
    intro H3 hH3; obtain ⟨k3, n3, c3⟩ := new_facts hH3; clear hH3
    have c3 : Cl H3 H2.next zeroC := c3
    obtain ⟨_, e4, l4, g4⟩ := id c3
    refine Exists.intro _ (Exists.intro _ (Exists.intro _ (And.intro g4 (And.intro (by omega) (And.intro rfl (And.intro rfl (And.intro (by simp) ?_)))))))
    intro H4 hH4; obtain ⟨k4, n4, c4⟩ := up_facts c3 hH4; clear hH4
    have k24 : Keep H2 H4 [] := k3.new k4 (fun b hb => .inr (by simp at hb; omega))
    intro y hy
    refine TriR.lowR hy ?_
    refine condT ?_
    exact And.intro trivial (Or.inl ⟨rfl, _, rfl, k02.trans k24, Or.inl ⟨hok, rfl⟩⟩)
  · refine And.intro rfl (Exists.intro (.agg zeroC.toArray) (And.intro (by kernel_rfl) ?_))
    refine And.intro rfl (Exists.intro (iv 2) (And.intro (by kernel_rfl) ?_))
    intro H3 hH3; obtain ⟨k3, n3, c3⟩ := new_facts hH3; clear hH3
    have c3 : Cl H3 H2.next zeroC := c3
    obtain ⟨_, e4, l4, g4⟩ := id c3
    refine Exists.intro _ (Exists.intro _ (Exists.intro _ (And.intro g4 (And.intro (by omega) (And.intro rfl (And.intro rfl (And.intro (by simp) ?_)))))))
    intro H4 hH4; obtain ⟨k4, n4, c4⟩ := up_facts c3 hH4; clear hH4
    have k24 : Keep H2 H4 [] := k3.new k4 (fun b hb => .inr (by simp at hb; omega))
    intro y hy
    refine TriR.lowR hy ?_
    refine condT ?_
    exact And.intro trivial (Or.inl ⟨rfl, _, rfl, k02.trans k24, Or.inr (Or.inl ⟨hok, hfl, rfl⟩)⟩)
  have v := Lt.vd hok hwl hal
  have hn40 := v.n40
  refine And.intro rfl (Exists.intro (.agg (crs g s d (dayMask us)).toArray) (And.intro (by kernel_rfl) ?_))
  refine And.intro rfl (Exists.intro (iv 0) (And.intro (by kernel_rfl) ?_))
  intro H3 hH3; obtain ⟨k3, n3, c3⟩ := new_facts hH3; clear hH3
  have c3 : Cl H3 H2.next zeroC := c3
  obtain ⟨_, e4, l4, g4⟩ := id c3
  refine Exists.intro _ (Exists.intro _ (Exists.intro _ (And.intro g4 (And.intro (by omega) (And.intro rfl (And.intro rfl (And.intro (by simp) ?_)))))))
  intro H4 hH4; obtain ⟨k4, n4, c4⟩ := up_facts c3 hH4; clear hH4
  have c4 : Cl H4 H2.next (crs g s d (dayMask us)) := c4
  have k24 : Keep H2 H4 [] := k3.new k4 (fun b hb => .inr (by simp at hb; omega))
  have k04 := k02.trans k24
  have m4 := k24.1
  intro y hy
  refine TriR.lowR hy ?_
  refine condF ?_
  intro y hy
  refine TriR.lowR hy ?_
  intro H5 hH5; obtain ⟨k5, n5, c5⟩ := new_facts hH5; clear hH5
  have c5 : Cl H5 H4.next [.slice none 0 0] := c5
  have d4 := k5.cl c4 (by simp)
  have k05 := k04.trans k5
  intro y hy
  refine TriR.lowL hy ?_
  intro z hz
  refine TriR.lowR hz ?_
  refine Exists.intro _ (Exists.intro _ (And.intro d4.of (And.intro (show row 16 _ 0 = some (crs g s d (dayMask us)) from rfl) ?_)))
  obtain ⟨bc, H6, f6, k6, hbc, rb⟩ := states_ok (kn := kn) (lo := lo) (H := H5) (g := g) (s := s) (d := d) (m := dayMask us)
  refine Exists.intro _ (Exists.intro _ (And.intro (callX_args f6) ?_))
  intro y hy
  refine TriR.lowB hy ?_
  rw [E17_1]
  refine TriR.range rfl ?_
  intro H7 k7 n7 hd hlp
  have k57 := k6.trans k7
  have k07 := k05.trans k57
  have lbc := rb.lt
  have m6 := k6.1
  let X : OX := ⟨g, s, d, dayMask us, H4.next, bc, H6.next⟩
  have G : OG X lo H := ⟨by show H.next ≤ H4.next; omega, by show lo ≤ H4.next; omega, by show H4.next < bc; omega, by show bc < H6.next; omega⟩
  have e5 := k57.cl c5 (by simp)
  have eb := k7.rd rb (by simp)
  have lp7 : Lp Try.prog H7 (H6.next + 1) .ready none 37 [(12, pt H4.next)] [27] asg17 body17 H6.next := hlp.weak ⟨rfl, trivial⟩
  have fin : ∀ (b k : Nat) (H8 H9 : Hp), OJ X lo H b k H8 → Keep H8 H9 [b] → OJ X lo H b k H9 := fun b k H8 H9 j kk => by
    have lb := j.lb; have ll := j.ll
    have lb : H6.next + 1 < b := lb
    have ll : b < H8.next := ll
    have hl4 : H4.next < H6.next := by omega
    have ne : ∀ x, x < b → x ∉ [b] := fun x h => by simp; omega
    obtain ⟨wv, q1, q2⟩ := j.c12
    have q1 : Cl H8 H4.next [wv] := q1
    exact ⟨⟨wv, (show Cl H9 H4.next [wv] from kk.cl q1 (ne _ (by omega))), q2.other kk (by intro x hx; simp at hx; omega)⟩, kk.rd j.cb (ne _ (by show bc < b; omega)), kk.sl j.hw (fun x e => ne _ (by have := fw x e; omega)), kk.sl j.ha (fun x e => ne _ (by have := fa x e; omega)), j.lp.keep kk (by show H6.next + 1 < H8.next; omega) (ne _ lb), lb, Nat.lt_of_lt_of_le ll kk.1, by rw [kk.2 X.r (by show H6.next < H8.next; omega) (ne _ (by show H6.next < b; omega))]; exact j.dfr, j.kp.new kk (fun x hx => .inr (by simp at hx; omega))⟩
  obtain ⟨b, H8, h8, hb8, j⟩ := iter_ok2 (kn := kn) (lo := lo) (H := H7) (l := H6.next + 1) (bc := bc) v hsd (fun b k H' => OJ X lo H b k H') (by omega) eb
    (fun b H1' kk hb hb2 => ⟨⟨_, kk.cl e5 (by simp), .inl ⟨rfl, rfl, rfl⟩⟩, kk.rd eb (by simp), kk.sl0 (k07.sl0 hw), kk.sl0 (k07.sl0 ha), lp7.keep kk (by omega) (by simp), by show H6.next + 1 < b; omega, hb2, by rw [kk.2 X.r (by show H6.next < H7.next; omega) (by simp)]; exact hd, k07.trans kk⟩)
    (fun b k H' j => ⟨j.cb, j.hw, j.ha⟩) fin (fun b k H' j => by have h1 := j.ll; have h2 : H6.next + 1 < b := j.lb; omega) (fun b k H' hk j => ox_round G v hsd fw fa hk j)
  refine Exists.intro _ (Exists.intro H8 (And.intro (callX_func rfl (by simpa using h8)) ?_))
  refine ⟨.ready, none, _, j.lp, by simp, ?_⟩
  intro H9 s9
  have k9 := s9.keep
  have hn9 : H9.next = H8.next := s9.1
  have ll := j.ll
  have lb : H6.next + 1 < b := j.lb
  have kH : Keep H H9 [] := j.kp.new k9 (fun b hb => .inr (by simp at hb; omega))
  obtain ⟨wv, q12, acc⟩ := j.c12
  have q12 : Cl H8 H4.next [wv] := q12
  have q12 := k9.cl q12 (by simp; omega)
  have acc := acc.other k9 (by intro x hx; simp at hx; omega)
  have dj : H9.t.get H6.next = some (.dfr (some [])) := by
    rw [k9.2 H6.next (by omega) (by simp)]; exact j.dfr
  have acc : Acc lo (b + 1) 24 H9 wv d (spc (g.ox s (Nat.testBit (dayMask us)) d)) := acc
  refine Exists.intro _ (Exists.intro _ (And.intro q12.of (And.intro (show _ = some wv from rfl) ?_)))
  refine And.intro trivial (Or.inr ⟨H6.next, rfl, by omega, dj, fun H10 hn10 hs10 => ?_⟩)
  have k10 : Keep H9 H10 [H6.next] := ⟨by omega, fun b _ hb => hs10 b (by simpa using hb)⟩
  obtain ⟨oa, oc, rfl, hsl, hge⟩ := (acc.other k10 (by intro x hx; simp at hx; omega)).sl
  exact ⟨_, rfl, kH.new k10 (fun b hb => .inr (by simp at hb; omega)), Or.inr (Or.inr ⟨hok, s, d, rfl, rfl, hsd, hset, oa, oc, rfl, hsl, fun x e => by have := hge x e; omega⟩)⟩
end
end Go.Ax

/-
  Late: what a law looks at (13), the document's validity (49, 56, 33, 34), what is true (35) (written by program).
-/
namespace Go.Ax
open Go Go.RowKit Go.Proofs

section
variable {kn : FuncId → Option Bool} {lo : Nat} {H : Hp}
theorem great_ok {g : Lt} {la : Option Addr} {n cap : Nat} : ∃ H', FnX Try.prog kn lo 13 [.agg g.v.toArray, .slice la n cap] H (.bool (decide (g.wn > 45) || decide (g.an > 45) || decide (n > 45))) H' ∧ Keep H H' [] := by
  have key := fnX_low (kn := kn) (lo := lo) (H := H) (args := [.agg g.v.toArray, .slice la n cap]) (Q := fun w H' => w = .bool (decide (g.wn > 45) || decide (g.an > 45) || decide (n > 45)) ∧ Keep H H' []) Try.func13 B13 N13 Z13 L13 (by simp) ?_
  · obtain ⟨w, H', h, rfl, q⟩ := key; exact ⟨H', h, q⟩
  have hk := Keep.refl H []
  intro H1 hH1; obtain ⟨kH1, nH1, c1⟩ := new_facts hH1; clear hH1
  have mH1 := kH1.1
  have hk := hk.trans kH1
  have c1 : Cl H1 H.next [.slice g.wa g.wn g.wcap, .slice g.aa g.an g.acap, iv g.r1, iv g.r2, iv g.f1, iv g.f2, iv g.g1, iv g.g2, iv g.full, iv g.base, iv g.kill, iv g.need, iv g.bear] := c1
  refine Exists.intro _ (Exists.intro _ (And.intro c1.of (And.intro (show _ = some (.slice g.wa g.wn g.wcap) from rfl) ?_)))
  intro t1 g1; cases t1
  · have g1 : ¬ ((g.wn : Int) > 45) := of_decide_eq_false g1
    refine Exists.intro _ (Exists.intro _ (And.intro c1.of (And.intro (show _ = some (.slice g.aa g.an g.acap) from rfl) ?_)))
    intro t2 g2; cases t2
    · have g2 : ¬ ((g.an : Int) > 45) := of_decide_eq_false g2
      refine And.intro rfl (Exists.intro (.bool false) (And.intro rfl ?_))
      intro t3 g3; cases t3
      · have g3 : ¬ ((n : Int) > 45) := of_decide_eq_false g3
        refine And.intro rfl (Exists.intro (.bool false) (And.intro rfl ?_))
        exact And.intro trivial (Exists.intro _ (And.intro rfl ⟨by show Value.bool false = _; congr 1; symm; simp; omega, hk⟩))
      · have g3 : (n : Int) > 45 := of_decide_eq_true g3
        refine And.intro rfl (Exists.intro (.bool true) (And.intro rfl ?_))
        exact And.intro trivial (Exists.intro _ (And.intro rfl ⟨by show Value.bool true = _; congr 1; symm; simp; omega, hk⟩))
    · have g2 : (g.an : Int) > 45 := of_decide_eq_true g2
      refine And.intro rfl (Exists.intro (.bool true) (And.intro rfl ?_))
      refine And.intro rfl (Exists.intro (.bool true) (And.intro rfl ?_))
      exact And.intro trivial (Exists.intro _ (And.intro rfl ⟨by show Value.bool true = _; congr 1; symm; simp; omega, hk⟩))
  · have g1 : (g.wn : Int) > 45 := of_decide_eq_true g1
    refine And.intro rfl (Exists.intro (.bool true) (And.intro rfl ?_))
    refine And.intro rfl (Exists.intro (.bool true) (And.intro rfl ?_))
    exact And.intro trivial (Exists.intro _ (And.intro rfl ⟨by show Value.bool true = _; congr 1; symm; simp; omega, hk⟩))
theorem in49_ok {n a b : Int} : ∃ H', FnX Try.prog kn lo 49 [iv n, iv a, iv b] H (.bool (inB n a b)) H' ∧ Keep H H' [] := by
  have key := fnX_low (kn := kn) (lo := lo) (H := H) (args := [iv n, iv a, iv b]) (Q := fun w H' => w = .bool (inB n a b) ∧ Keep H H' []) Try.func49 B49 N49 Z49 L49 (by simp) ?_
  · obtain ⟨w, H', h, rfl, q⟩ := key; exact ⟨H', h, q⟩
  repeat' first
    | (intro t ht; cases t)
    | exact And.intro trivial (Exists.intro _ (And.intro rfl ⟨by simp_all [retV, inB] <;> (intros; omega), Keep.refl _ _⟩))
    | refine And.intro rfl (Exists.intro _ (And.intro rfl ?_))
theorem within56_ok {a b l m : Int} : ∃ H', FnX Try.prog kn lo 56 [spv a b, iv l, iv m] H (.bool (spanB a b l m)) H' ∧ Keep H H' [] := by
  have key := fnX_low (kn := kn) (lo := lo) (H := H) (args := [spv a b, iv l, iv m]) (Q := fun w H' => w = .bool (spanB a b l m) ∧ Keep H H' []) Try.func56 B56 N56 Z56 L56 (by simp) ?_
  · obtain ⟨w, H', h, rfl, q⟩ := key; exact ⟨H', h, q⟩
  intro H1 hH1
  obtain ⟨k1, n1, c1⟩ := new_facts hH1
  repeat' first
    | refine Exists.intro _ (Exists.intro _ (And.intro c1.of (And.intro rfl ?_)))
    | (intro t ht; cases t)
    | exact And.intro trivial (Exists.intro _ (And.intro rfl ⟨by simp_all [retV, spanB] <;> (intros; omega), k1⟩))
    | refine And.intro rfl (Exists.intro _ (And.intro rfl ?_))
theorem late33_ok {g : Lt} (hw : Sl H g.wa g.wn g.wcap (spc g.ws)) (ha : Sl H g.aa g.an g.acap (spc g.as)) (hwl : g.ws.length = g.wn) (hal : g.as.length = g.an) (hwn : g.wn ≤ 1000) (han : g.an ≤ 1000) :
    ∃ H', FnX Try.prog kn lo 33 [.agg g.v.toArray] H (.bool g.ok) H' ∧ Keep H H' [] := by
  have key := fnX_low (kn := kn) (lo := lo) (H := H) (args := [.agg g.v.toArray]) (Q := fun w H' => w = .bool g.ok ∧ Keep H H' []) Try.func33 B33 N33 Z33 L33 (by simp) ?_
  · obtain ⟨w, H', h, rfl, q⟩ := key; exact ⟨H', h, q⟩
  have hk := Keep.refl H []
  intro H1 hH1; obtain ⟨kH1, nH1, c1⟩ := new_facts hH1; clear hH1
  have mH1 := kH1.1
  have hk := hk.trans kH1
  have hw := kH1.sl0 hw
  have ha := kH1.sl0 ha
  have c1 : Cl H1 H.next [.slice g.wa g.wn g.wcap, .slice g.aa g.an g.acap, iv g.r1, iv g.r2, iv g.f1, iv g.f2, iv g.g1, iv g.g2, iv g.full, iv g.base, iv g.kill, iv g.need, iv g.bear] := c1
  refine Exists.intro _ (Exists.intro _ (And.intro c1.of (And.intro (show _ = some (.slice g.wa g.wn g.wcap) from rfl) ?_)))
  refine Exists.intro _ (Exists.intro _ (And.intro c1.of (And.intro (show _ = some (.slice g.aa g.an g.acap) from rfl) ?_)))
  intro t1 g1; cases t1
  · have g1 : ¬ ((g.wn : Int) ≠ (g.an : Int)) := by simpa using g1
    refine Exists.intro _ (Exists.intro _ (And.intro c1.of (And.intro (show _ = some (.slice g.wa g.wn g.wcap) from rfl) ?_)))
    intro t2 g2; cases t2
    · have g2 : ¬ ((g.wn : Int) > 40) := of_decide_eq_false g2
      refine And.intro rfl (Exists.intro (.bool false) (And.intro rfl ?_))
      refine condF ?_
      have hE : g.ok = ((g.ws.all fun s => spanB s.1 s.2 0 5000) && (g.as.all fun s => spanB s.1 s.2 0 20000) && spanB g.r1 g.r2 0 1000 && inB g.full 0 20000 && spanB g.f1 g.f2 0 g.full && spanB g.g1 g.g2 0 g.full && inB g.base 0 5000 && inB g.kill 0 1048576 && inB g.need 0 20000 && inB g.bear 0 40) := by
        unfold Lt.ok; rw [decide_eq_true (show g.wn = g.an by omega), decide_eq_true (show g.wn ≤ 40 by omega)]; simp only [Bool.true_and]
      refine loop_low (fn := Try.f33) E33_1 N33 L33x1 (fun i : Nat => [(1, pt H.next), (3, iv (i : Int))])
        (fun k i H' => i + k = g.wn ∧ Keep H1 H' [] ∧ ((g.ws.take i).all fun s => spanB s.1 s.2 0 5000) = true ∧ ((g.as.take i).all fun s => spanB s.1 s.2 0 20000) = true) g.wn 0 ⟨by omega, Keep.refl _ _, rfl, rfl⟩ ⟨rfl, rfl, trivial⟩ ?_
      rintro k i L1 ⟨hik, hki, hal1, hal2⟩
      have hk := hk.trans hki
      have hw := hki.sl0 hw
      have ha := hki.sl0 ha
      have c1 := hki.cl c1 (by simp)
      have kb := hki
      refine Exists.intro _ (Exists.intro _ (And.intro c1.of (And.intro (show _ = some (.slice g.wa g.wn g.wcap) from rfl) ?_)))
      refine And.intro (fun q3 => ?_) (fun q3 => ?_)
      · have q3 : (i : Int) < (g.wn : Int) := of_decide_eq_true q3
        have hi : i < g.wn := by omega
        obtain ⟨x, hx⟩ := get_some (l := g.ws) (i := i) (by omega)
        obtain ⟨y, hy⟩ := get_some (l := g.as) (i := i) (by omega)
        have hst1 := all_step (f := fun s : Int × Int => spanB s.1 s.2 0 5000) hx
        have hst2 := all_step (f := fun s : Int × Int => spanB s.1 s.2 0 20000) hy
        rcases hw with ⟨_, h0, _⟩ | ⟨wb, ewa, hwd, _⟩
        · omega
        rcases ha with ⟨_, h0, _⟩ | ⟨ab, eaa, had, _⟩
        · omega
        refine Exists.intro _ (Exists.intro _ (And.intro c1.of (And.intro (show _ = some (Value.slice (some ⟨wb, 0, none⟩) g.wn g.wcap) from by rw [← ewa]; rfl) ?_)))
        refine Exists.intro i (And.intro rfl (And.intro hi ?_))
        refine Exists.intro _ (Exists.intro _ (And.intro hwd.of (And.intro (spc_row hx) ?_)))
        refine callB (within56_ok) ?_
        intro tH2 H2 hH2 kH2
        have mH2 := kH2.1
        have hk := hk.trans kH2
        have c1 := kH2.cl c1 (by simp)
        have kb := kb.trans kH2
        have hwd := kH2.rd hwd (by simp)
        have had := kH2.rd had (by simp)
        cases tH2
        · have h1 := hH2
          refine And.intro rfl (Exists.intro (.bool true) (And.intro rfl ?_))
          refine And.intro rfl (Exists.intro (.bool true) (And.intro rfl ?_))
          refine condT ?_
          have e : g.ok = false := by rw [hE, all_fail (f := fun s : Int × Int => spanB s.1 s.2 0 5000) hx h1]; simp only [Bool.false_and]
          exact And.intro trivial (Exists.intro _ (And.intro rfl ⟨by rw [e]; rfl, hk⟩))
        · have h1 := hH2
          refine And.intro rfl (Exists.intro (.bool false) (And.intro rfl ?_))
          refine Exists.intro _ (Exists.intro _ (And.intro c1.of (And.intro (show _ = some (Value.slice (some ⟨ab, 0, none⟩) g.an g.acap) from by rw [← eaa]; rfl) ?_)))
          refine Exists.intro i (And.intro rfl (And.intro (by omega) ?_))
          refine Exists.intro _ (Exists.intro _ (And.intro had.of (And.intro (spc_row hy) ?_)))
          refine callB (within56_ok) ?_
          intro tH3 H3 hH3 kH3
          have mH3 := kH3.1
          have hk := hk.trans kH3
          have c1 := kH3.cl c1 (by simp)
          have kb := kb.trans kH3
          have hwd := kH3.rd hwd (by simp)
          have had := kH3.rd had (by simp)
          cases tH3
          · have h2 := hH3
            refine And.intro rfl (Exists.intro (.bool true) (And.intro rfl ?_))
            refine And.intro rfl (Exists.intro (.bool true) (And.intro rfl ?_))
            refine condT ?_
            have e : g.ok = false := by rw [hE, all_fail (f := fun s : Int × Int => spanB s.1 s.2 0 20000) hy h2]; simp only [Bool.and_false, Bool.false_and]
            exact And.intro trivial (Exists.intro _ (And.intro rfl ⟨by rw [e]; rfl, hk⟩))
          · have h2 := hH3
            refine And.intro rfl (Exists.intro (.bool false) (And.intro rfl ?_))
            refine And.intro rfl (Exists.intro (.bool false) (And.intro rfl ?_))
            refine condF ?_
            refine And.intro ⟨by omega, by omega⟩ ?_
            exact ⟨k - 1, i + 1, by omega, ⟨by omega, kb, by rw [hst1, hal1, h1]; rfl, by rw [hst2, hal2, h2]; rfl⟩, rfl, rfl, trivial⟩
      · have q3 : ¬ ((i : Int) < (g.wn : Int)) := of_decide_eq_false q3
        have e : i = g.wn := by omega
        subst e
        rw [List.take_of_length_le (by omega)] at hal1 hal2
        refine Exists.intro _ (Exists.intro _ (And.intro c1.of (And.intro (show _ = some (iv g.full) from rfl) ?_)))
        refine callB (in49_ok) ?_
        intro tH4 H4 hH4 kH4
        have mH4 := kH4.1
        have hk := hk.trans kH4
        have hw := kH4.sl0 hw
        have ha := kH4.sl0 ha
        have c1 := kH4.cl c1 (by simp)
        have kb := kb.trans kH4
        cases tH4
        · have h4 := hH4
          refine And.intro rfl (Exists.intro (.bool false) (And.intro rfl ?_))
          refine And.intro rfl (Exists.intro (.bool false) (And.intro rfl ?_))
          refine And.intro rfl (Exists.intro (.bool false) (And.intro rfl ?_))
          refine And.intro rfl (Exists.intro (.bool false) (And.intro rfl ?_))
          refine And.intro rfl (Exists.intro (.bool false) (And.intro rfl ?_))
          refine And.intro rfl (Exists.intro (.bool false) (And.intro rfl ?_))
          refine And.intro rfl (Exists.intro (.bool false) (And.intro rfl ?_))
          have e : g.ok = false := by rw [hE]; simp only [hal1, hal2, h4, Bool.and_true, Bool.true_and, Bool.and_false, Bool.false_and]
          exact And.intro trivial (Exists.intro _ (And.intro rfl ⟨by rw [e]; rfl, hk⟩))
        · have h4 := hH4
          refine Exists.intro _ (Exists.intro _ (And.intro c1.of (And.intro (show row 2 _ _ = some [iv g.f1, iv g.f2] from rfl) ?_)))
          refine Exists.intro _ (Exists.intro _ (And.intro c1.of (And.intro (show _ = some (iv g.full) from rfl) ?_)))
          refine callB (within56_ok) ?_
          intro tH5 H5 hH5 kH5
          have mH5 := kH5.1
          have hk := hk.trans kH5
          have hw := kH5.sl0 hw
          have ha := kH5.sl0 ha
          have c1 := kH5.cl c1 (by simp)
          have kb := kb.trans kH5
          cases tH5
          · have h5 := hH5
            refine And.intro rfl (Exists.intro (.bool false) (And.intro rfl ?_))
            refine And.intro rfl (Exists.intro (.bool false) (And.intro rfl ?_))
            refine And.intro rfl (Exists.intro (.bool false) (And.intro rfl ?_))
            refine And.intro rfl (Exists.intro (.bool false) (And.intro rfl ?_))
            refine And.intro rfl (Exists.intro (.bool false) (And.intro rfl ?_))
            refine And.intro rfl (Exists.intro (.bool false) (And.intro rfl ?_))
            refine And.intro rfl (Exists.intro (.bool false) (And.intro rfl ?_))
            have e : g.ok = false := by rw [hE]; simp only [hal1, hal2, h4, h5, Bool.and_true, Bool.true_and, Bool.and_false, Bool.false_and]
            exact And.intro trivial (Exists.intro _ (And.intro rfl ⟨by rw [e]; rfl, hk⟩))
          · have h5 := hH5
            refine And.intro rfl (Exists.intro (.bool true) (And.intro rfl ?_))
            refine Exists.intro _ (Exists.intro _ (And.intro c1.of (And.intro (show row 2 _ _ = some [iv g.g1, iv g.g2] from rfl) ?_)))
            refine Exists.intro _ (Exists.intro _ (And.intro c1.of (And.intro (show _ = some (iv g.full) from rfl) ?_)))
            refine callB (within56_ok) ?_
            intro tH6 H6 hH6 kH6
            have mH6 := kH6.1
            have hk := hk.trans kH6
            have hw := kH6.sl0 hw
            have ha := kH6.sl0 ha
            have c1 := kH6.cl c1 (by simp)
            have kb := kb.trans kH6
            cases tH6
            · have h6 := hH6
              refine And.intro rfl (Exists.intro (.bool false) (And.intro rfl ?_))
              refine And.intro rfl (Exists.intro (.bool false) (And.intro rfl ?_))
              refine And.intro rfl (Exists.intro (.bool false) (And.intro rfl ?_))
              refine And.intro rfl (Exists.intro (.bool false) (And.intro rfl ?_))
              refine And.intro rfl (Exists.intro (.bool false) (And.intro rfl ?_))
              refine And.intro rfl (Exists.intro (.bool false) (And.intro rfl ?_))
              have e : g.ok = false := by rw [hE]; simp only [hal1, hal2, h4, h5, h6, Bool.and_true, Bool.true_and, Bool.and_false, Bool.false_and]
              exact And.intro trivial (Exists.intro _ (And.intro rfl ⟨by rw [e]; rfl, hk⟩))
            · have h6 := hH6
              refine And.intro rfl (Exists.intro (.bool true) (And.intro rfl ?_))
              refine Exists.intro _ (Exists.intro _ (And.intro c1.of (And.intro (show row 2 _ _ = some [iv g.r1, iv g.r2] from rfl) ?_)))
              refine callB (within56_ok) ?_
              intro tH7 H7 hH7 kH7
              have mH7 := kH7.1
              have hk := hk.trans kH7
              have hw := kH7.sl0 hw
              have ha := kH7.sl0 ha
              have c1 := kH7.cl c1 (by simp)
              have kb := kb.trans kH7
              cases tH7
              · have h7 := hH7
                refine And.intro rfl (Exists.intro (.bool false) (And.intro rfl ?_))
                refine And.intro rfl (Exists.intro (.bool false) (And.intro rfl ?_))
                refine And.intro rfl (Exists.intro (.bool false) (And.intro rfl ?_))
                refine And.intro rfl (Exists.intro (.bool false) (And.intro rfl ?_))
                refine And.intro rfl (Exists.intro (.bool false) (And.intro rfl ?_))
                have e : g.ok = false := by rw [hE]; simp only [hal1, hal2, h4, h5, h6, h7, Bool.and_true, Bool.true_and, Bool.and_false, Bool.false_and]
                exact And.intro trivial (Exists.intro _ (And.intro rfl ⟨by rw [e]; rfl, hk⟩))
              · have h7 := hH7
                refine And.intro rfl (Exists.intro (.bool true) (And.intro rfl ?_))
                refine Exists.intro _ (Exists.intro _ (And.intro c1.of (And.intro (show _ = some (iv g.base) from rfl) ?_)))
                refine callB (in49_ok) ?_
                intro tH8 H8 hH8 kH8
                have mH8 := kH8.1
                have hk := hk.trans kH8
                have hw := kH8.sl0 hw
                have ha := kH8.sl0 ha
                have c1 := kH8.cl c1 (by simp)
                have kb := kb.trans kH8
                cases tH8
                · have h8 := hH8
                  refine And.intro rfl (Exists.intro (.bool false) (And.intro rfl ?_))
                  refine And.intro rfl (Exists.intro (.bool false) (And.intro rfl ?_))
                  refine And.intro rfl (Exists.intro (.bool false) (And.intro rfl ?_))
                  refine And.intro rfl (Exists.intro (.bool false) (And.intro rfl ?_))
                  have e : g.ok = false := by rw [hE]; simp only [hal1, hal2, h4, h5, h6, h7, h8, Bool.and_true, Bool.true_and, Bool.and_false, Bool.false_and]
                  exact And.intro trivial (Exists.intro _ (And.intro rfl ⟨by rw [e]; rfl, hk⟩))
                · have h8 := hH8
                  refine And.intro rfl (Exists.intro (.bool true) (And.intro rfl ?_))
                  refine Exists.intro _ (Exists.intro _ (And.intro c1.of (And.intro (show _ = some (iv g.kill) from rfl) ?_)))
                  refine callB (in49_ok) ?_
                  intro tH9 H9 hH9 kH9
                  have mH9 := kH9.1
                  have hk := hk.trans kH9
                  have hw := kH9.sl0 hw
                  have ha := kH9.sl0 ha
                  have c1 := kH9.cl c1 (by simp)
                  have kb := kb.trans kH9
                  cases tH9
                  · have h9 := hH9
                    refine And.intro rfl (Exists.intro (.bool false) (And.intro rfl ?_))
                    refine And.intro rfl (Exists.intro (.bool false) (And.intro rfl ?_))
                    refine And.intro rfl (Exists.intro (.bool false) (And.intro rfl ?_))
                    have e : g.ok = false := by rw [hE]; simp only [hal1, hal2, h4, h5, h6, h7, h8, h9, Bool.and_true, Bool.true_and, Bool.and_false, Bool.false_and]
                    exact And.intro trivial (Exists.intro _ (And.intro rfl ⟨by rw [e]; rfl, hk⟩))
                  · have h9 := hH9
                    refine And.intro rfl (Exists.intro (.bool true) (And.intro rfl ?_))
                    refine Exists.intro _ (Exists.intro _ (And.intro c1.of (And.intro (show _ = some (iv g.need) from rfl) ?_)))
                    refine callB (in49_ok) ?_
                    intro tH10 H10 hH10 kH10
                    have mH10 := kH10.1
                    have hk := hk.trans kH10
                    have hw := kH10.sl0 hw
                    have ha := kH10.sl0 ha
                    have c1 := kH10.cl c1 (by simp)
                    have kb := kb.trans kH10
                    cases tH10
                    · have h10 := hH10
                      refine And.intro rfl (Exists.intro (.bool false) (And.intro rfl ?_))
                      refine And.intro rfl (Exists.intro (.bool false) (And.intro rfl ?_))
                      have e : g.ok = false := by rw [hE]; simp only [hal1, hal2, h4, h5, h6, h7, h8, h9, h10, Bool.and_true, Bool.true_and, Bool.and_false, Bool.false_and]
                      exact And.intro trivial (Exists.intro _ (And.intro rfl ⟨by rw [e]; rfl, hk⟩))
                    · have h10 := hH10
                      refine And.intro rfl (Exists.intro (.bool true) (And.intro rfl ?_))
                      refine Exists.intro _ (Exists.intro _ (And.intro c1.of (And.intro (show _ = some (iv g.bear) from rfl) ?_)))
                      refine callB (in49_ok) ?_
                      intro tH11 H11 hH11 kH11
                      have mH11 := kH11.1
                      have hk := hk.trans kH11
                      have hw := kH11.sl0 hw
                      have ha := kH11.sl0 ha
                      have c1 := kH11.cl c1 (by simp)
                      have kb := kb.trans kH11
                      cases tH11
                      · have h11 := hH11
                        refine And.intro rfl (Exists.intro (.bool false) (And.intro rfl ?_))
                        have e : g.ok = false := by rw [hE]; simp only [hal1, hal2, h4, h5, h6, h7, h8, h9, h10, h11, Bool.and_true, Bool.true_and, Bool.and_false, Bool.false_and]
                        exact And.intro trivial (Exists.intro _ (And.intro rfl ⟨by rw [e]; rfl, hk⟩))
                      · have h11 := hH11
                        refine And.intro rfl (Exists.intro (.bool true) (And.intro rfl ?_))
                        have e : g.ok = true := by rw [hE]; simp only [hal1, hal2, h4, h5, h6, h7, h8, h9, h10, h11, Bool.and_true, Bool.true_and, Bool.and_false, Bool.false_and]
                        exact And.intro trivial (Exists.intro _ (And.intro rfl ⟨by rw [e]; rfl, hk⟩))
    · have g2 : (g.wn : Int) > 40 := of_decide_eq_true g2
      refine And.intro rfl (Exists.intro (.bool true) (And.intro rfl ?_))
      refine condT ?_
      have e : g.ok = false := by unfold Lt.ok; rw [decide_eq_false (show ¬ g.wn ≤ 40 by omega)]; simp only [Bool.and_false, Bool.false_and]
      exact And.intro trivial (Exists.intro _ (And.intro rfl ⟨by rw [e]; rfl, hk⟩))
  · have g1 : (g.wn : Int) ≠ (g.an : Int) := by simpa using g1
    refine And.intro rfl (Exists.intro (.bool true) (And.intro rfl ?_))
    refine condT ?_
    have e : g.ok = false := by unfold Lt.ok; rw [decide_eq_false (show ¬ g.wn = g.an by omega)]; rfl
    exact And.intro trivial (Exists.intro _ (And.intro rfl ⟨by rw [e]; rfl, hk⟩))
end
end Go.Ax

/-
  Late: what is true of a flood, by remainders (35) (written by program).
-/
namespace Go.Ax
open Go Go.RowKit Go.Proofs

theorem z3 : zeroOf Try.prog 3 = some (.int .i64 0) := by kernel_rfl
section
variable {kn : FuncId → Option Bool} {lo : Nat} {H : Hp}
end
end Go.Ax

/-
  Late: the law LateTrue, whatever the input (written by program).
-/
namespace Go.Ax
open Go Go.RowKit Go.Proofs

theorem flB_of {g : Lt} {s d : Nat} (h : s + d ≤ g.wn) : flB g s d = true := by
  unfold flB inB
  simp only [Bool.and_eq_true, decide_eq_true_eq]
  omega
theorem Lt.Tl.c0 {g : Lt} {a b : Int} {us : List Int} {w : Value} (h : g.Tl a b us w) (hok : g.ok = false) : w = .tuple #[iv 0, iv 0, iv 1] := by
  rcases h with ⟨_, h⟩ | ⟨h, _⟩ | ⟨h, _⟩
  · exact h
  · rw [hok] at h; cases h
  · rw [hok] at h; cases h
theorem Lt.Tl.c1 {g : Lt} {a b : Int} {us : List Int} {w : Value} (h : g.Tl a b us w) (hok : g.ok = true) (hf : (flB g a b && setB a (a + b) us) = false) : w = .tuple #[iv 0, iv 0, iv 2] := by
  rcases h with ⟨h, _⟩ | ⟨_, _, h⟩ | ⟨_, s, d, rfl, rfl, h1, h2, _⟩
  · rw [hok] at h; cases h
  · exact h
  · rw [flB_of h1, h2] at hf; exact absurd hf (by decide)
theorem Lt.Tl.c2 {g : Lt} {s d : Nat} {us : List Int} {w : Value} (h : g.Tl s d us w) (hok : g.ok = true) (hsd : s + d ≤ g.wn) (hset : setB s (s + d) us = true) : w = .tuple #[iv (sureV (decide (g.wl s d ≥ g.kill)) (decide (g.wh s d ≥ g.kill))), iv (sureV (decide (g.sm s (Nat.testBit (dayMask us)) d > g.bear)) (decide (g.sl s (Nat.testBit (dayMask us)) d > g.bear))), iv 0] := by
  rcases h with ⟨h, _⟩ | ⟨_, h, _⟩ | ⟨_, s', d', e1, e2, _, _, h⟩
  · rw [hok] at h; cases h
  · rw [flB_of hsd, hset] at h; exact absurd h (by decide)
  · obtain rfl : s = s' := by omega
    obtain rfl : d = d' := by omega
    exact h
theorem Lt.Wm.any {g : Lt} {a b : Int} {w : Value} (h : g.Wm a b w) : ∃ p q e : Int, w = .tuple #[spv p q, iv e] := by
  rcases h with ⟨_, h⟩ | ⟨_, _, h⟩ | ⟨_, _, _, _, _, _, h⟩ <;> exact ⟨_, _, _, h⟩
theorem Lt.Wm.c2 {g : Lt} {s d : Nat} {w : Value} (h : g.Wm s d w) (hok : g.ok = true) (hsd : s + d ≤ g.wn) : w = .tuple #[spv (g.wl s d) (g.wh s d), iv 0] := by
  rcases h with ⟨h, _⟩ | ⟨_, h, _⟩ | ⟨_, s', d', e1, e2, _, h⟩
  · rw [hok] at h; cases h
  · rw [flB_of hsd] at h; cases h
  · obtain rfl : s = s' := by omega
    obtain rfl : d = d' := by omega
    exact h
section
variable {P : Program} {kn : FuncId → Option Bool} {lo n : Nat} {masks : List Nat} {r : List RO} {ks : List Kd} {S : Rg} {H : Hp} {K : Rg → Hp → Prop} {d : Option Nat} {x y : Operand} {a b : Int}
end
section
variable {kn : FuncId → Option Bool} {lo : Nat} {H : Hp}
end
end Go.Ax

/-! What 'low' makes of more functions of late (written by program). -/
namespace Go.Ax
open Go Go.RowKit Go.Proofs
end Go.Ax

/-
  Late: the document's functions: spans compared, what is used, sureness, the warmth (21, 67, 68, 40) (written by program).
-/
namespace Go.Ax
open Go Go.RowKit Go.Proofs

theorem prun_bind {P : Program} {α β : Type} (f : α → Sem β) : ∀ (x : Sem α), prun P (x >>= f) = match prun P x with | some a => prun P (f a) | none => none := by
  intro x
  induction x with
  | pure a => rfl
  | program k ih => exact ih P
  | _ => rfl
theorem prun_pure {P : Program} {α : Type} (a : α) : prun P (pure a) = some a := rfl
theorem prun_und : prun Try.prog (underlying 3) = some (.int .i64) := by kernel_rfl
theorem prun_eqi (d : Nat) (a b : Int) : prun Try.prog (Op.equalIn (d + 1) 3 (iv a) (iv b)) = some (a == b) := by
  rw [Op.equalIn]
  rw [prun_bind, prun_und]
  rfl
theorem prun_und24 : prun Try.prog (underlying 24) = some (.struct #[⟨"Lo", 3, 0, false, "", "", 0⟩, ⟨"Hi", 3, 1, false, "", "", 8⟩]) := by kernel_rfl
theorem st24 : Try.prog.stoodInHeld 24 = false := by kernel_rfl
theorem prun_part0 (a b : Int) : prun Try.prog (part 3 #[iv a, iv b] 0) = some (iv a) := by kernel_rfl
theorem prun_part1 (a b : Int) : prun Try.prog (part 3 #[iv a, iv b] 1) = some (iv b) := by kernel_rfl
theorem prun_eq24 (d : Nat) (a b c e : Int) : prun Try.prog (Op.equalIn (d + 2) 24 (.agg #[iv a, iv b]) (.agg #[iv c, iv e])) = some (a == c && b == e) := by
  rw [Op.equalIn]
  rw [prun_bind, prun_und24]
  simp only []
  rw [prun_bind]
  rw [show prun Try.prog program = some Try.prog from rfl]
  simp only [st24]
  simp only [Bool.false_eq_true, if_false, ↓reduceIte]
  rw [← Array.forIn_toList]
  simp only [List.forIn_cons, List.forIn_nil]
  rw [if_pos (by decide), if_pos (by decide)]
  simp only [prun_bind, prun_part0, prun_part1, prun_eqi]
  generalize (a == c) = u
  cases u
  · simp only [Bool.not_false, ↓reduceIte, prun_pure, Bool.false_and]
  · simp only [Bool.not_true, Bool.false_eq_true, ↓reduceIte, prun_pure, prun_bind, prun_part0, prun_part1, prun_eqi, Bool.true_and]
    generalize (b == e) = w
    cases w
    · simp only [Bool.not_false, ↓reduceIte, prun_pure]
    · simp only [Bool.not_true, Bool.false_eq_true, ↓reduceIte, prun_pure]
theorem md : Op.maxDepth = 9998 + 2 := by decide
/-- two spans, whether they are the same -/
theorem pure_eql24 {n : Nat} {S : Rg} {d : Option Tmp} {x y : Operand} {p : String} {a b c e : Int} (hx : evS S x = some (.agg #[iv a, iv b])) (hy : evS S y = some (.agg #[iv c, iv e])) :
    pureOp Try.prog (frS n S) ⟨d, .binOp .eql 24 x y 24, 4, p, #[], none⟩ = some (.bool (a == c && b == e)) := by
  have key : prun Try.prog (do eqGuard .eql 24 x y (.agg #[iv a, iv b]) (.agg #[iv c, iv e]); binOp .eql 24 (.agg #[iv a, iv b]) (.agg #[iv c, iv e])) = some (.bool (a == c && b == e)) := by
    rw [prun_bind]
    have hg : prun Try.prog (eqGuard .eql 24 x y (.agg #[iv a, iv b]) (.agg #[iv c, iv e])) = some () := by kernel_rfl
    rw [hg]
    clear hg
    have hb : binOp .eql 24 (.agg #[iv a, iv b]) (.agg #[iv c, iv e]) = (Op.equal 24 (.agg #[iv a, iv b]) (.agg #[iv c, iv e]) >>= fun r => pure (.bool r)) := by kernel_rfl
    simp only [hb]
    rw [prun_bind]
    have heq : Op.equal 24 (.agg #[iv a, iv b]) (.agg #[iv c, iv e]) = Op.equalIn (9998 + 2) 24 (.agg #[iv a, iv b]) (.agg #[iv c, iv e]) := congrArg (fun n => Op.equalIn n 24 (.agg #[iv a, iv b]) (.agg #[iv c, iv e])) md
    rw [heq, prun_eq24]
    rfl
  unfold pureOp
  simp only [ev_frS, hx, hy]
  rw [show (flat (.agg #[iv a, iv b]) && flat (.agg #[iv c, iv e])) = true from rfl, cond_true, key]
  rfl
section
variable {kn : FuncId → Option Bool} {lo : Nat} {H : Hp}
end
end Go.Ax

/-
  Late: the document's functions: the oxygen (43) (written by program).
-/
namespace Go.Ax
open Go Go.RowKit Go.Proofs

section
variable {kn : FuncId → Option Bool} {lo : Nat} {H : Hp}
end
end Go.Ax

/-
  Late: the document's Warmth, Oxygen and Tells (45, 16, 18, 20) (written by program).
-/
namespace Go.Ax
open Go Go.RowKit Go.Proofs

theorem Lt.Tl.any {g : Lt} {a b : Int} {us : List Int} {w : Value} (h : g.Tl a b us w) : ∃ x y e : Int, w = .tuple #[iv x, iv y, iv e] := by
  rcases h with ⟨_, h⟩ | ⟨_, _, h⟩ | ⟨_, _, _, _, _, _, _, h⟩ <;> exact ⟨_, _, _, h⟩
section
variable {kn : FuncId → Option Bool} {lo : Nat} {H : Hp}
end
end Go.Ax

/-
  Late: the law LateFloods, whatever the input (written by program).
-/
namespace Go.Ax
open Go Go.RowKit Go.Proofs

section
variable {kn : FuncId → Option Bool} {lo : Nat} {H : Hp}
end
end Go.Ax

/-! What 'low' makes of more functions of late (written by program). -/
namespace Go.Ax
open Go Go.RowKit Go.Proofs
end Go.Ax

/-
  Late: the longest course; Drowned, Bears (46, 22, 24) (written by program).
-/
namespace Go.Ax
open Go Go.RowKit Go.Proofs

/-- what longestCourse answers -/
def Lt.Lc (g : Lt) (a : Int) (w : Value) : Prop :=
  (g.ok = false ∧ w = .tuple #[.agg zeroC.toArray, iv 1]) ∨ (g.ok = true ∧ inB a 0 g.wn = false ∧ w = .tuple #[.agg zeroC.toArray, iv 2]) ∨
  (g.ok = true ∧ ∃ s d : Nat, a = s ∧ s + d = g.wn ∧ w = .tuple #[.agg (crs g s d 0).toArray, iv 0])
theorem Lt.Nc.lc {g : Lt} {a : Int} (hwn : g.wn ≤ 1000) {w : Value} (h : g.Nc a (IntKind.i64.wrap (g.wn - a)) [] w) : g.Lc a w := by
  rcases h with ⟨h1, rfl⟩ | ⟨h1, h2, rfl⟩ | ⟨h1, s, d, rfl, e, h3, _, rfl⟩
  · exact .inl ⟨h1, rfl⟩
  · refine .inr (.inl ⟨h1, ?_, rfl⟩)
    cases hb : inB a 0 g.wn with
    | false => rfl
    | true =>
      have hx := hb
      simp only [inB, Bool.and_eq_true, decide_eq_true_eq] at hx
      rw [wrap_i64 ⟨by omega, by omega⟩] at h2
      simp only [flB, hb, setB, Bool.and_true, Bool.true_and, inB, Bool.and_eq_false_iff, decide_eq_false_iff_not] at h2
      omega
  · have h4 : (s : Int) ≤ g.wn := by omega
    rw [wrap_i64 ⟨by omega, by omega⟩] at e
    exact .inr (.inr ⟨h1, s, d, rfl, by omega, rfl⟩)
/-- what Drowned answers -/
def Lt.Dr (g : Lt) (a : Int) (w : Value) : Prop :=
  (g.ok = false ∧ w = .tuple #[iv 0, iv 1]) ∨ (g.ok = true ∧ inB a 0 g.wn = false ∧ w = .tuple #[iv 0, iv 2]) ∨
  (g.ok = true ∧ ∃ s d : Nat, a = s ∧ s + d = g.wn ∧ ((∃ k, k ≤ d ∧ g.kill ≤ g.wl s k ∧ (∀ j, j < k → g.wl s j < g.kill) ∧ w = .tuple #[iv (k : Int), iv 0]) ∨ ((∀ j, j ≤ d → g.wl s j < g.kill) ∧ w = .tuple #[iv 0, iv 4])))
/-- what Bears answers -/
def Lt.Br (g : Lt) (a : Int) (w : Value) : Prop :=
  (g.ok = false ∧ w = .tuple #[iv 0, iv 1]) ∨ (g.ok = true ∧ inB a 0 g.wn = false ∧ w = .tuple #[iv 0, iv 2]) ∨
  (g.ok = true ∧ ∃ s d m : Nat, a = s ∧ s + d = g.wn ∧ m ≤ d ∧ (∀ j, j ≤ m → g.sl s (Nat.testBit 0) j ≤ g.bear) ∧ (m = d ∨ g.bear < g.sl s (Nat.testBit 0) (m + 1)) ∧ w = .tuple #[iv (m : Int), iv 0])
section
variable {kn : FuncId → Option Bool} {lo : Nat} {H : Hp}
end
end Go.Ax

/-
  Late: Best (26) (written by program).
-/
namespace Go.Ax
open Go Go.RowKit Go.Proofs

/-- a flood without fresh days in which both is sure -/
def Lt.fine (g : Lt) (s d : Nat) : Prop := g.kill ≤ g.wl s d ∧ g.sl s (Nat.testBit 0) d ≤ g.bear
theorem Lt.first {g : Lt} {s k : Nat} (h3 : ∀ j, j < k → g.wl s j < g.kill) {d : Nat} (h : g.fine s d) : k ≤ d := by
  rcases Nat.lt_or_ge d k with q | q
  · have := h3 d q; have := h.1; omega
  · exact q
abbrev Lt.bc (g : Lt) : Option (Nat × Nat) → List Value
  | none => noneS
  | some (a, b) => g.st a (Nat.testBit 0) b
/-- what Best answers -/
def Lt.Bs (g : Lt) (w : Value) : Prop :=
  (g.ok = false ∧ w = .tuple #[iv 0, iv 0, iv 1]) ∨ (g.ok = true ∧ (∀ s d, s + d ≤ g.wn → ¬ g.fine s d) ∧ w = .tuple #[iv 0, iv 0, iv 4]) ∨
  (g.ok = true ∧ ∃ a b : Nat, a + b ≤ g.wn ∧ g.fine a b ∧ (∀ s d, s + d ≤ g.wn → g.fine s d → b < d ∨ (b = d ∧ a ≤ s)) ∧ w = .tuple #[iv (a : Int), iv (b : Int), iv 0])
section
variable {kn : FuncId → Option Bool} {lo : Nat} {H : Hp}
end
end Go.Ax

/-! What 'low' makes of more functions of late (written by program). -/
namespace Go.Ax
open Go Go.RowKit Go.Proofs
end Go.Ax

/-
  Late: the law LateFewest, whatever the input (written by program).
-/
namespace Go.Ax
open Go Go.RowKit Go.Proofs

section
variable {kn : FuncId → Option Bool} {lo : Nat} {H : Hp}
end
end Go.Ax

/-
  Late: the document's Drowned, Bears, Best (23, 25, 27); the law LateBests, whatever the input (written by program).
-/
namespace Go.Ax
open Go Go.RowKit Go.Proofs

section
variable {kn : FuncId → Option Bool} {lo : Nat} {H : Hp}
end
theorem Lt.Dr.any {g : Lt} {a : Int} {w : Value} (h : g.Dr a w) : ∃ x e : Int, w = .tuple #[iv x, iv e] := by
  rcases h with ⟨_, h⟩ | ⟨_, _, h⟩ | ⟨_, _, _, _, _, ⟨_, _, _, _, h⟩ | ⟨_, h⟩⟩ <;> exact ⟨_, _, h⟩
theorem Lt.Br.any {g : Lt} {a : Int} {w : Value} (h : g.Br a w) : ∃ x e : Int, w = .tuple #[iv x, iv e] := by
  rcases h with ⟨_, h⟩ | ⟨_, _, h⟩ | ⟨_, _, _, _, _, _, _, _, _, h⟩ <;> exact ⟨_, _, h⟩
theorem Lt.Bs.any {g : Lt} {w : Value} (h : g.Bs w) : ∃ x y e : Int, w = .tuple #[iv x, iv y, iv e] := by
  rcases h with ⟨_, h⟩ | ⟨_, _, h⟩ | ⟨_, _, _, _, _, _, h⟩ <;> exact ⟨_, _, _, h⟩
section
variable {kn : FuncId → Option Bool} {lo : Nat} {H : Hp}
end
end Go.Ax

/-! What 'low' makes of more functions of late (written by program). -/
namespace Go.Ax
open Go Go.RowKit Go.Proofs
theorem N36 : Try.f36.ntmps = 6 := by kernel_rfl
theorem Z36 : Try.f36.results.toList = ((List.toArray [(.cell 2 24)]) : Array ResultVar).toList := by kernel_rfl
theorem B36 : Try.f36.body = some (at_ Try.f36 []) := by kernel_rfl
noncomputable def R36 : RC := (.seq (.reg [⟨(some 2), none, (.alc 24 [(.int .i64 0), (.int .i64 0)])⟩])
  (.seq (.reg [⟨(some 3), none, (.mov (.tmp 0))⟩, ⟨(some 4), none, (.mov (.tmp 0))⟩, ⟨(some 5), none, (.pur ⟨(some 5), (.build 24 (List.toArray [(0, (.tmp 3)), (1, (.tmp 4))])), 24, "", (List.toArray []), none⟩)⟩, ⟨none, none, (.sta (.tmp 2) (.tmp 5) 2)⟩])
  .ret))
theorem L36 : low Try.prog Try.f36.ntmps (at_ Try.f36 []) = some R36 := by kernel_rfl
theorem N8 : Try.f8.ntmps = 265 := by kernel_rfl
theorem Z8 : Try.f8.results.toList = ((List.toArray [(.tmp 8)]) : Array ResultVar).toList := by kernel_rfl
theorem B8 : Try.f8.body = some (at_ Try.f8 []) := by kernel_rfl
noncomputable def R8 : RC := (.seq (.reg [⟨(some 4), none, (.box 26 (.tmp 0))⟩, ⟨(some 8), none, (.mov (.const (.bool false)))⟩])
  (.seq (.seq (.reg [⟨(some 25), none, (.lda (.tmp 4) 13)⟩, ⟨(some 26), none, (.mov (.tmp 3))⟩, ⟨(some 27), none, (.call ⟨(.value (.func 13)), (List.toArray [(.tmp 25), (.tmp 26)]), (List.toArray [26, 27])⟩ true)⟩])
  (.cond (.tmp 27) (.seq (.reg [⟨(some 28), none, (.call ⟨(.value (.func 14)), (List.toArray []), (List.toArray [])⟩ true)⟩, ⟨(some 8), none, (.mov (.tmp 28))⟩])
  .ret)
  .skip))
  (.seq (.reg [⟨(some 30), none, (.lda (.tmp 4) 13)⟩, ⟨(some 31), none, (.mov (.tmp 1))⟩, ⟨(some 32), none, (.mov (.tmp 2))⟩, ⟨(some 33), none, (.mov (.tmp 3))⟩, ⟨(some 34), none, (.call ⟨(.value (.func 17)), (List.toArray [(.tmp 30), (.tmp 31), (.tmp 32), (.tmp 33)]), (List.toArray [26, 3, 3, 27])⟩ true)⟩, ⟨(some 29), none, (.mov (.tmp 34))⟩, ⟨(some 35), none, (.pur ⟨(some 35), (.extract (.tmp 29) 0), 22, "", (List.toArray []), none⟩)⟩, ⟨(some 36), none, (.pur ⟨(some 36), (.extract (.tmp 29) 1), 30, "", (List.toArray []), none⟩)⟩, ⟨(some 9), none, (.mov (.tmp 35))⟩, ⟨(some 10), none, (.mov (.tmp 36))⟩])
  (.seq (.reg [⟨(some 38), none, (.lda (.tmp 4) 13)⟩, ⟨(some 39), none, (.mov (.tmp 1))⟩, ⟨(some 40), none, (.mov (.tmp 2))⟩, ⟨(some 41), none, (.call ⟨(.value (.func 15)), (List.toArray [(.tmp 38), (.tmp 39), (.tmp 40)]), (List.toArray [26, 3, 3])⟩ true)⟩, ⟨(some 37), none, (.mov (.tmp 41))⟩, ⟨(some 42), none, (.pur ⟨(some 42), (.extract (.tmp 37) 0), 24, "", (List.toArray []), none⟩)⟩, ⟨(some 43), none, (.pur ⟨(some 43), (.extract (.tmp 37) 1), 30, "", (List.toArray []), none⟩)⟩, ⟨(some 11), none, (.alc 24 [(.int .i64 0), (.int .i64 0)])⟩, ⟨none, none, (.sta (.tmp 11) (.tmp 42) 2)⟩, ⟨(some 12), none, (.mov (.tmp 43))⟩])
  (.seq (.seq (.reg [⟨(some 44), none, (.mov (.tmp 10))⟩, ⟨(some 45), none, (.cmpb .neq (.tmp 44) (.const (.int .i64 0)))⟩, ⟨(some 46), none, (.mov (.tmp 45))⟩, ⟨(some 47), (some (46, false)), (.mov (.tmp 12))⟩, ⟨(some 48), (some (46, false)), (.cmpb .neq (.tmp 47) (.const (.int .i64 0)))⟩, ⟨(some 49), none, (.pur ⟨(some 49), (.pick (.tmp 46) (.const (.bool true)) (.tmp 48)), 4, "", (List.toArray []), none⟩)⟩])
  (.cond (.tmp 49) (.seq (.reg [⟨(some 50), none, (.mov (.tmp 9))⟩, ⟨(some 51), none, (.len (.tmp 50))⟩, ⟨(some 52), none, (.cmpb .eql (.tmp 51) (.const (.int .i64 0)))⟩, ⟨(some 53), none, (.mov (.tmp 52))⟩, ⟨(some 54), (some (53, true)), (.call ⟨(.value (.func 14)), (List.toArray []), (List.toArray [])⟩ true)⟩, ⟨(some 55), none, (.pur ⟨(some 55), (.pick (.tmp 53) (.tmp 54) (.const (.bool false))), 4, "", (List.toArray []), none⟩)⟩, ⟨(some 8), none, (.mov (.tmp 55))⟩])
  .ret)
  .skip))
  (.seq (.seq (.reg [⟨(some 56), none, (.lda (.tmp 4) 13)⟩, ⟨(some 57), none, (.call ⟨(.value (.func 33)), (List.toArray [(.tmp 56)]), (List.toArray [26])⟩ true)⟩, ⟨(some 58), none, (.pur ⟨(some 58), (.unOp .not 4 (.tmp 57)), 4, "", (List.toArray []), none⟩)⟩, ⟨(some 59), none, (.mov (.tmp 58))⟩, ⟨(some 60), (some (59, false)), (.mov (.tmp 9))⟩, ⟨(some 61), (some (59, false)), (.len (.tmp 60))⟩, ⟨(some 62), (some (59, false)), (.mov (.tmp 2))⟩, ⟨(some 63), (some (59, false)), (.cmpb .neq (.tmp 61) (.tmp 62))⟩, ⟨(some 64), none, (.pur ⟨(some 64), (.pick (.tmp 59) (.const (.bool true)) (.tmp 63)), 4, "", (List.toArray []), none⟩)⟩])
  (.cond (.tmp 64) (.seq (.reg [⟨(some 8), none, (.mov (.const (.bool false)))⟩])
  .ret)
  .skip))
  (.seq (.reg [⟨(some 13), none, (.mov (.func 36))⟩])
  (.seq (.dreg [⟨(some 65), none, (.lda (.tmp 4) 13)⟩, ⟨(some 66), none, (.lda (.tmp 4) 13)⟩, ⟨(some 14), none, (.alc 26 [(.slice none 0 0), (.slice none 0 0), (.int .i64 0), (.int .i64 0), (.int .i64 0), (.int .i64 0), (.int .i64 0), (.int .i64 0), (.int .i64 0), (.int .i64 0), (.int .i64 0), (.int .i64 0), (.int .i64 0)])⟩, ⟨(some 15), none, (.alc 26 [(.slice none 0 0), (.slice none 0 0), (.int .i64 0), (.int .i64 0), (.int .i64 0), (.int .i64 0), (.int .i64 0), (.int .i64 0), (.int .i64 0), (.int .i64 0), (.int .i64 0), (.int .i64 0), (.int .i64 0)])⟩, ⟨none, none, (.sta (.tmp 14) (.tmp 65) 13)⟩, ⟨none, none, (.sta (.tmp 15) (.tmp 66) 13)⟩] [31, 13, 0, 0, 0, 0])
  (.seq (.reg [⟨(some 67), none, (.addo (.tmp 14) 0)⟩, ⟨none, none, (.st (.tmp 67) (.const (.slice none 0 0)))⟩, ⟨(some 68), none, (.addo (.tmp 14) 1)⟩, ⟨none, none, (.st (.tmp 68) (.const (.slice none 0 0)))⟩, ⟨(some 69), none, (.addo (.tmp 15) 0)⟩, ⟨none, none, (.st (.tmp 69) (.const (.slice none 0 0)))⟩, ⟨(some 70), none, (.addo (.tmp 15) 1)⟩, ⟨none, none, (.st (.tmp 70) (.const (.slice none 0 0)))⟩])
  (.seq (.seq (.reg [⟨(some 71), none, (.addo (.tmp 4) 0)⟩, ⟨(some 72), none, (.ld (.tmp 71) 1)⟩, ⟨(some 73), none, (.len (.tmp 72))⟩, ⟨(some 74), none, (.mov (.const (.int .i64 0)))⟩])
  (.block 0 (.other (at_ Try.f8 [1, 1, 1, 1, 1, 1, 1, 1, 1, 0, 1, 0]))))
  (.seq (.dreg [⟨(some 130), none, (.mov (.tmp 13))⟩, ⟨(some 131), none, (.addo (.tmp 4) 4)⟩, ⟨(some 132), none, (.addo (.tmp 131) 1)⟩, ⟨(some 133), none, (.ld (.tmp 132) 1)⟩, ⟨(some 134), none, (.call ⟨(.value (.tmp 130)), (List.toArray [(.tmp 133)]), (List.toArray [3])⟩ false)⟩, ⟨(some 135), none, (.mov (.tmp 13))⟩, ⟨(some 136), none, (.addo (.tmp 4) 6)⟩, ⟨(some 137), none, (.addo (.tmp 136) 1)⟩, ⟨(some 138), none, (.ld (.tmp 137) 1)⟩, ⟨(some 139), none, (.call ⟨(.value (.tmp 135)), (List.toArray [(.tmp 138)]), (List.toArray [3])⟩ false)⟩, ⟨(some 140), none, (.mov (.tmp 13))⟩, ⟨(some 141), none, (.addo (.tmp 4) 2)⟩, ⟨(some 142), none, (.addo (.tmp 141) 0)⟩, ⟨(some 143), none, (.ld (.tmp 142) 1)⟩, ⟨(some 144), none, (.call ⟨(.value (.tmp 140)), (List.toArray [(.tmp 143)]), (List.toArray [3])⟩ true)⟩, ⟨(some 145), none, (.addo (.tmp 14) 4)⟩, ⟨none, none, (.sta (.tmp 145) (.tmp 134) 2)⟩, ⟨(some 146), none, (.addo (.tmp 14) 6)⟩, ⟨none, none, (.sta (.tmp 146) (.tmp 139) 2)⟩, ⟨(some 147), none, (.addo (.tmp 14) 2)⟩, ⟨none, none, (.sta (.tmp 147) (.tmp 144) 2)⟩] [1048575, 524287, 262143, 131071, 65535, 31, 16383, 6144, 2048, 0, 0, 511, 192, 64, 0, 0, 15, 6, 2, 0, 0])
  (.seq (.dreg [⟨(some 148), none, (.mov (.tmp 13))⟩, ⟨(some 149), none, (.addo (.tmp 4) 4)⟩, ⟨(some 150), none, (.addo (.tmp 149) 0)⟩, ⟨(some 151), none, (.ld (.tmp 150) 1)⟩, ⟨(some 152), none, (.call ⟨(.value (.tmp 148)), (List.toArray [(.tmp 151)]), (List.toArray [3])⟩ false)⟩, ⟨(some 153), none, (.mov (.tmp 13))⟩, ⟨(some 154), none, (.addo (.tmp 4) 6)⟩, ⟨(some 155), none, (.addo (.tmp 154) 0)⟩, ⟨(some 156), none, (.ld (.tmp 155) 1)⟩, ⟨(some 157), none, (.call ⟨(.value (.tmp 153)), (List.toArray [(.tmp 156)]), (List.toArray [3])⟩ false)⟩, ⟨(some 158), none, (.mov (.tmp 13))⟩, ⟨(some 159), none, (.addo (.tmp 4) 2)⟩, ⟨(some 160), none, (.addo (.tmp 159) 1)⟩, ⟨(some 161), none, (.ld (.tmp 160) 1)⟩, ⟨(some 162), none, (.call ⟨(.value (.tmp 158)), (List.toArray [(.tmp 161)]), (List.toArray [3])⟩ true)⟩, ⟨(some 163), none, (.addo (.tmp 15) 4)⟩, ⟨none, none, (.sta (.tmp 163) (.tmp 152) 2)⟩, ⟨(some 164), none, (.addo (.tmp 15) 6)⟩, ⟨none, none, (.sta (.tmp 164) (.tmp 157) 2)⟩, ⟨(some 165), none, (.addo (.tmp 15) 2)⟩, ⟨none, none, (.sta (.tmp 165) (.tmp 162) 2)⟩] [1048575, 524287, 262143, 131071, 65535, 31, 16383, 6144, 2048, 0, 0, 511, 192, 64, 0, 0, 15, 6, 2, 0, 0])
  (.seq (.reg [⟨(some 167), none, (.lda (.tmp 15) 13)⟩, ⟨(some 168), none, (.mov (.tmp 1))⟩, ⟨(some 169), none, (.mov (.tmp 2))⟩, ⟨(some 170), none, (.mov (.tmp 3))⟩, ⟨(some 171), none, (.call ⟨(.value (.func 17)), (List.toArray [(.tmp 167), (.tmp 168), (.tmp 169), (.tmp 170)]), (List.toArray [26, 3, 3, 27])⟩ true)⟩, ⟨(some 166), none, (.mov (.tmp 171))⟩, ⟨(some 172), none, (.pur ⟨(some 172), (.extract (.tmp 166) 0), 22, "", (List.toArray []), none⟩)⟩, ⟨(some 173), none, (.pur ⟨(some 173), (.extract (.tmp 166) 1), 30, "", (List.toArray []), none⟩)⟩, ⟨(some 17), none, (.mov (.tmp 172))⟩, ⟨(some 18), none, (.mov (.tmp 173))⟩])
  (.seq (.reg [⟨(some 175), none, (.lda (.tmp 14) 13)⟩, ⟨(some 176), none, (.mov (.tmp 1))⟩, ⟨(some 177), none, (.mov (.tmp 2))⟩, ⟨(some 178), none, (.mov (.tmp 3))⟩, ⟨(some 179), none, (.call ⟨(.value (.func 17)), (List.toArray [(.tmp 175), (.tmp 176), (.tmp 177), (.tmp 178)]), (List.toArray [26, 3, 3, 27])⟩ true)⟩, ⟨(some 174), none, (.mov (.tmp 179))⟩, ⟨(some 180), none, (.pur ⟨(some 180), (.extract (.tmp 174) 0), 22, "", (List.toArray []), none⟩)⟩, ⟨(some 181), none, (.pur ⟨(some 181), (.extract (.tmp 174) 1), 30, "", (List.toArray []), none⟩)⟩, ⟨(some 19), none, (.mov (.tmp 180))⟩, ⟨(some 20), none, (.mov (.tmp 181))⟩])
  (.seq (.seq (.reg [⟨(some 182), none, (.mov (.tmp 18))⟩, ⟨(some 183), none, (.cmpb .neq (.tmp 182) (.const (.int .i64 0)))⟩, ⟨(some 184), none, (.mov (.tmp 183))⟩, ⟨(some 185), (some (184, false)), (.mov (.tmp 20))⟩, ⟨(some 186), (some (184, false)), (.cmpb .neq (.tmp 185) (.const (.int .i64 0)))⟩, ⟨(some 187), none, (.pur ⟨(some 187), (.pick (.tmp 184) (.const (.bool true)) (.tmp 186)), 4, "", (List.toArray []), none⟩)⟩, ⟨(some 188), none, (.mov (.tmp 187))⟩, ⟨(some 189), (some (188, false)), (.mov (.tmp 17))⟩, ⟨(some 190), (some (188, false)), (.len (.tmp 189))⟩, ⟨(some 191), (some (188, false)), (.mov (.tmp 2))⟩, ⟨(some 192), (some (188, false)), (.cmpb .neq (.tmp 190) (.tmp 191))⟩, ⟨(some 193), none, (.pur ⟨(some 193), (.pick (.tmp 188) (.const (.bool true)) (.tmp 192)), 4, "", (List.toArray []), none⟩)⟩, ⟨(some 194), none, (.mov (.tmp 193))⟩, ⟨(some 195), (some (194, false)), (.mov (.tmp 19))⟩, ⟨(some 196), (some (194, false)), (.len (.tmp 195))⟩, ⟨(some 197), (some (194, false)), (.mov (.tmp 2))⟩, ⟨(some 198), (some (194, false)), (.cmpb .neq (.tmp 196) (.tmp 197))⟩, ⟨(some 199), none, (.pur ⟨(some 199), (.pick (.tmp 194) (.const (.bool true)) (.tmp 198)), 4, "", (List.toArray []), none⟩)⟩])
  (.cond (.tmp 199) (.seq (.reg [⟨(some 8), none, (.mov (.const (.bool false)))⟩])
  .ret)
  .skip))
  (.seq (.seq (.reg [⟨(some 200), none, (.mov (.tmp 9))⟩, ⟨(some 201), none, (.len (.tmp 200))⟩, ⟨(some 202), none, (.mov (.const (.int .i64 0)))⟩])
  (.block 2 (.other (at_ Try.f8 [1, 1, 1, 1, 1, 1, 1, 1, 1, 1, 1, 1, 1, 1, 1, 0, 1, 0]))))
  (.seq (.reg [⟨(some 227), none, (.lda (.tmp 14) 13)⟩, ⟨(some 228), none, (.mov (.tmp 1))⟩, ⟨(some 229), none, (.mov (.tmp 2))⟩, ⟨(some 230), none, (.call ⟨(.value (.func 15)), (List.toArray [(.tmp 227), (.tmp 228), (.tmp 229)]), (List.toArray [26, 3, 3])⟩ true)⟩, ⟨(some 226), none, (.mov (.tmp 230))⟩, ⟨(some 231), none, (.pur ⟨(some 231), (.extract (.tmp 226) 0), 24, "", (List.toArray []), none⟩)⟩, ⟨(some 232), none, (.pur ⟨(some 232), (.extract (.tmp 226) 1), 30, "", (List.toArray []), none⟩)⟩, ⟨(some 23), none, (.alc 24 [(.int .i64 0), (.int .i64 0)])⟩, ⟨none, none, (.sta (.tmp 23) (.tmp 231) 2)⟩, ⟨(some 18), none, (.mov (.tmp 232))⟩])
  (.seq (.reg [⟨(some 234), none, (.lda (.tmp 15) 13)⟩, ⟨(some 235), none, (.mov (.tmp 1))⟩, ⟨(some 236), none, (.mov (.tmp 2))⟩, ⟨(some 237), none, (.call ⟨(.value (.func 15)), (List.toArray [(.tmp 234), (.tmp 235), (.tmp 236)]), (List.toArray [26, 3, 3])⟩ true)⟩, ⟨(some 233), none, (.mov (.tmp 237))⟩, ⟨(some 238), none, (.pur ⟨(some 238), (.extract (.tmp 233) 0), 24, "", (List.toArray []), none⟩)⟩, ⟨(some 239), none, (.pur ⟨(some 239), (.extract (.tmp 233) 1), 30, "", (List.toArray []), none⟩)⟩, ⟨(some 24), none, (.alc 24 [(.int .i64 0), (.int .i64 0)])⟩, ⟨none, none, (.sta (.tmp 24) (.tmp 238) 2)⟩, ⟨(some 20), none, (.mov (.tmp 239))⟩])
  (.seq (.dreg [⟨(some 240), none, (.mov (.tmp 18))⟩, ⟨(some 241), none, (.cmpb .eql (.tmp 240) (.const (.int .i64 0)))⟩, ⟨(some 242), none, (.mov (.tmp 241))⟩, ⟨(some 243), (some (242, true)), (.mov (.tmp 20))⟩, ⟨(some 244), (some (242, true)), (.cmpb .eql (.tmp 243) (.const (.int .i64 0)))⟩, ⟨(some 245), none, (.pur ⟨(some 245), (.pick (.tmp 242) (.tmp 244) (.const (.bool false))), 4, "", (List.toArray []), none⟩)⟩, ⟨(some 246), none, (.mov (.tmp 245))⟩, ⟨(some 247), (some (246, true)), (.lda (.tmp 23) 2)⟩, ⟨(some 248), (some (246, true)), (.mov (.tmp 13))⟩, ⟨(some 249), (some (246, true)), (.addo (.tmp 11) 0)⟩, ⟨(some 250), (some (246, true)), (.ld (.tmp 249) 1)⟩, ⟨(some 251), (some (246, true)), (.call ⟨(.value (.tmp 248)), (List.toArray [(.tmp 250)]), (List.toArray [3])⟩ false)⟩, ⟨(some 252), (some (246, true)), (.pur ⟨(some 252), (.binOp .eql 24 (.tmp 247) (.tmp 251) 24), 4, "", (List.toArray []), none⟩)⟩, ⟨(some 253), none, (.pur ⟨(some 253), (.pick (.tmp 246) (.tmp 252) (.const (.bool false))), 4, "", (List.toArray []), none⟩)⟩, ⟨(some 254), none, (.mov (.tmp 253))⟩, ⟨(some 255), (some (254, true)), (.lda (.tmp 24) 2)⟩, ⟨(some 256), (some (254, true)), (.mov (.tmp 13))⟩, ⟨(some 257), (some (254, true)), (.addo (.tmp 11) 1)⟩, ⟨(some 258), (some (254, true)), (.ld (.tmp 257) 1)⟩, ⟨(some 259), (some (254, true)), (.call ⟨(.value (.tmp 256)), (List.toArray [(.tmp 258)]), (List.toArray [3])⟩ false)⟩, ⟨(some 260), (some (254, true)), (.pur ⟨(some 260), (.binOp .eql 24 (.tmp 255) (.tmp 259) 24), 4, "", (List.toArray []), none⟩)⟩, ⟨(some 261), none, (.pur ⟨(some 261), (.pick (.tmp 254) (.tmp 260) (.const (.bool false))), 4, "", (List.toArray []), none⟩)⟩, ⟨(some 262), none, (.mov (.tmp 261))⟩, ⟨(some 263), (some (262, true)), (.call ⟨(.value (.func 14)), (List.toArray []), (List.toArray [])⟩ true)⟩, ⟨(some 264), none, (.pur ⟨(some 264), (.pick (.tmp 262) (.tmp 263) (.const (.bool false))), 4, "", (List.toArray []), none⟩)⟩, ⟨(some 8), none, (.mov (.tmp 264))⟩] [33554431, 16777215, 8388607, 4194303, 2097151, 1048575, 491519, 163839, 32767, 32767, 32767, 16383, 8191, 4095, 1919, 639, 127, 127, 127, 63, 31, 15, 7, 3, 1, 0])
  .ret)))))))))))))))))))
theorem L8 : low Try.prog Try.f8.ntmps (at_ Try.f8 []) = some R8 := by kernel_rfl
theorem E8_1 : at_ Try.f8 [1, 1, 1, 1, 1, 1, 1, 1, 1, 0, 1, 0] = .loop (at_ Try.f8 [1, 1, 1, 1, 1, 1, 1, 1, 1, 0, 1, 0, 0]) := by kernel_rfl
theorem E8_2 : at_ Try.f8 [1, 1, 1, 1, 1, 1, 1, 1, 1, 1, 1, 1, 1, 1, 1, 0, 1, 0] = .loop (at_ Try.f8 [1, 1, 1, 1, 1, 1, 1, 1, 1, 1, 1, 1, 1, 1, 1, 0, 1, 0, 0]) := by kernel_rfl
noncomputable def R8x2 : RC := (.seq (.reg [⟨(some 203), none, (.cmp .lss (.tmp 202) (.tmp 201))⟩])
  (.seq (.cond (.tmp 203) .skip
  (.exit 2))
  (.seq (.block 3 (.seq (.reg [⟨(some 204), none, (.mov (.tmp 202))⟩, ⟨(some 205), none, (.idx (.tmp 200) (.tmp 202) 2)⟩, ⟨(some 206), none, (.lda (.tmp 205) 2)⟩, ⟨(some 22), none, (.alc 24 [(.int .i64 0), (.int .i64 0)])⟩, ⟨(some 21), none, (.mov (.tmp 204))⟩, ⟨none, none, (.sta (.tmp 22) (.tmp 206) 2)⟩])
  (.seq (.dreg [⟨(some 207), none, (.mov (.tmp 17))⟩, ⟨(some 208), none, (.mov (.tmp 21))⟩, ⟨(some 209), none, (.idx (.tmp 207) (.tmp 208) 2)⟩, ⟨(some 210), none, (.addo (.tmp 209) 0)⟩, ⟨(some 211), none, (.ld (.tmp 210) 1)⟩, ⟨(some 212), none, (.addo (.tmp 22) 0)⟩, ⟨(some 213), none, (.ld (.tmp 212) 1)⟩, ⟨(some 214), none, (.cmpb .neq (.tmp 211) (.tmp 213))⟩, ⟨(some 215), none, (.mov (.tmp 214))⟩, ⟨(some 216), (some (215, false)), (.mov (.tmp 19))⟩, ⟨(some 217), (some (215, false)), (.mov (.tmp 21))⟩, ⟨(some 218), (some (215, false)), (.idx (.tmp 216) (.tmp 217) 2)⟩, ⟨(some 219), (some (215, false)), (.addo (.tmp 218) 1)⟩, ⟨(some 220), (some (215, false)), (.ld (.tmp 219) 1)⟩, ⟨(some 221), (some (215, false)), (.addo (.tmp 22) 1)⟩, ⟨(some 222), (some (215, false)), (.ld (.tmp 221) 1)⟩, ⟨(some 223), (some (215, false)), (.cmpb .neq (.tmp 220) (.tmp 222))⟩, ⟨(some 224), none, (.pur ⟨(some 224), (.pick (.tmp 215) (.const (.bool true)) (.tmp 223)), 4, "", (List.toArray []), none⟩)⟩] [131071, 65535, 16895, 511, 8191, 4095, 2047, 511, 511, 255, 127, 32, 0, 15, 7, 3, 0, 0])
  (.cond (.tmp 224) (.seq (.reg [⟨(some 8), none, (.mov (.const (.bool false)))⟩])
  .ret)
  .skip))))
  (.reg [⟨(some 225), none, (.ari .add (.tmp 202) (.const (.int .i64 1)))⟩, ⟨(some 202), none, (.mov (.tmp 225))⟩]))))
theorem L8x2 : low Try.prog Try.f8.ntmps (at_ Try.f8 [1, 1, 1, 1, 1, 1, 1, 1, 1, 1, 1, 1, 1, 1, 1, 0, 1, 0, 0]) = some R8x2 := by kernel_rfl
end Go.Ax

/-
  Late: for LateMore, LateEnds, LateOwns: more of everything, a fresh day, parts of lists (37, 36, 21, 17) (written by program).
-/
namespace Go.Ax
open Go Go.RowKit Go.Proofs

/-- A block that append has made. -/
def Lz (H : Hp) (b : Nat) (cs : List Value) : Prop := b < H.next ∧ H.t.get b = some (.cells cs 24 true)
theorem Keep.lz {H H1 : Hp} {l : List Nat} (h : Keep H H1 l) {b : Nat} {cs : List Value} (hc : Lz H b cs) (hl : b ∉ l) : Lz H1 b cs :=
  ⟨Nat.lt_of_lt_of_le hc.1 h.1, by rw [h.2 b hc.1 hl]; exact hc.2⟩
theorem KeepB.lz {f : Nat} {H H1 : Hp} {b : Nat} {cs : List Value} (h : KeepB f H H1) (hc : Lz H b cs) (hb : b < f) : Lz H1 b cs :=
  ⟨Nat.lt_of_lt_of_le hc.1 h.1, by rw [h.2 b hb]; exact hc.2⟩
theorem Lz.rd {H : Hp} {b : Nat} {cs : List Value} (h : Lz H b cs) : Rd H b cs := ⟨h.1, by unfold cellsOf; rw [h.2]⟩
theorem Lz.cl {H : Hp} {b : Nat} {cs : List Value} (h : Lz H b cs) : Cl H b cs := ⟨h.1, _, _, h.2⟩
theorem Acc.lz {lo f : Nat} {H : Hp} {v : Value} {n : Nat} {cs : List Value} (h : Acc lo f 24 H v n cs) (h0 : 0 < n) : ∃ b, v = .slice (some ⟨b, 0, none⟩) n n ∧ f ≤ b ∧ lo ≤ b ∧ Lz H b cs := by
  rcases h with ⟨h, _⟩ | ⟨b, e, _, hf, hl, hn, hg⟩
  · omega
  · exact ⟨b, e, hf, hl, hn, hg⟩
theorem Acc.nil {lo f : Nat} {e : TypeId} {H : Hp} {v : Value} {cs : List Value} (h : Acc lo f e H v 0 cs) : v = .slice none 0 0 := by
  rcases h with ⟨_, _, h⟩ | ⟨_, _, h, _⟩
  · exact h
  · omega
theorem wOps_nil {P : Program} {kn : FuncId → Option Bool} {lo n : Nat} {S : Rg} {H : Hp} {K : Rg → Hp → Prop} (h : K S H) : wOps P kn lo n [] S H K := h
/-- a valid forecast, by its numbers -/
theorem Lt.ok_of {g : Lt} (v : g.Vd) : g.ok = true := by
  simp only [Lt.ok, Bool.and_eq_true, decide_eq_true_eq, List.all_eq_true, spanB, inB]
  have := v.r; have := v.fu; have := v.f; have := v.gr; have := v.b; have := v.k; have := v.ne; have := v.be
  refine ⟨⟨⟨⟨⟨⟨⟨⟨⟨⟨⟨v.n, v.n40⟩, fun s hs => ?_⟩, fun s hs => ?_⟩, ?_⟩, ?_⟩, ?_⟩, ?_⟩, ?_⟩, ?_⟩, ?_⟩, ?_⟩
  · have := v.w s hs; omega
  · have := v.a s hs; omega
  all_goals omega
section
variable {kn : FuncId → Option Bool} {lo : Nat} {H : Hp}
theorem one36_ok {a : Int} (hlo : lo ≤ H.next) : ∃ H', FnX Try.prog kn lo 36 [iv a] H (spv a a) H' ∧ Keep H H' [] := by
  have key := fnX_low (kn := kn) (lo := lo) (H := H) (args := [iv a]) (Q := fun w H' => w = spv a a ∧ Keep H H' []) Try.func36 B36 N36 Z36 L36 (by simp) ?_
  · obtain ⟨w, H', h, rfl, q⟩ := key; exact ⟨H', h, q⟩
  have hk := Keep.refl H []
  intro H1 hH1; obtain ⟨kH1, nH1, c1⟩ := new_facts hH1; clear hH1
  have c1 : Cl H1 H.next [iv 0, iv 0] := c1
  have mH1 := kH1.1
  have hk := hk.trans kH1
  refine And.intro rfl (Exists.intro (.agg #[iv a, iv a]) (And.intro (by kernel_rfl) ?_))
  obtain ⟨_, eH2, lH2, gH2⟩ := id c1
  refine Exists.intro _ (Exists.intro _ (Exists.intro _ (And.intro gH2 (And.intro (by omega) (And.intro rfl (And.intro rfl (And.intro (by simp) ?_)))))))
  intro H2 hH2; obtain ⟨kH2, nH2, sH2⟩ := up_facts c1 hH2; clear hH2
  have mH2 := kH2.1
  have hk := hk.new kH2 (fun b hb => by simp at hb ⊢; omega)
  have c1 : Cl H2 H.next [iv a, iv a] := sH2
  exact And.intro trivial (Exists.intro _ (And.intro (res_cell rfl a24 i24s rfl c1) ⟨rfl, hk⟩))
theorem oxygen_at {g : Lt} (hw : Sl H g.wa g.wn g.wcap (spc g.ws)) (ha : Sl H g.aa g.an g.acap (spc g.as)) (hwl : g.ws.length = g.wn) (hal : g.as.length = g.an) (hwn : g.wn ≤ 1000) (han : g.an ≤ 1000) (hok : g.ok = true) {a b : Int} (s d : Nat) (ea : a = (s : Int)) (eb : b = (d : Int)) (hsd : s + d ≤ g.wn) {la : Option Addr} {n cap : Nat} {us : List Int} (hset : setB s (s + d) us = true) (hl : Sl H la n cap (ints us)) (hul : us.length = n) (hn : n ≤ 1000) (hlo : lo ≤ H.next) :
    ∃ ov H', FnX Try.prog kn lo 17 [.agg g.v.toArray, iv a, iv b, .slice la n cap] H (.tuple #[ov, iv 0]) H' ∧ Keep H H' [] ∧ Acc lo H.next 24 H' ov d (spc (g.ox s (Nat.testBit (dayMask us)) d)) := by
  subst ea; subst eb
  have key := fnX_lowR (kn := kn) (lo := lo) (H := H) (args := [.agg g.v.toArray, iv (s : Int), iv (d : Int), .slice la n cap]) (Q := fun w H' => ∃ ov, w = .tuple #[ov, iv 0] ∧ Keep H H' [] ∧ Acc lo H.next 24 H' ov d (spc (g.ox s (Nat.testBit (dayMask us)) d))) Try.func17 B17 N17 Z17 L17 (by simp) ?_
  · obtain ⟨w, H', h, ov, rfl, q1, q2⟩ := key; exact ⟨ov, H', h, q1, q2⟩
  have fw : ∀ b, g.wa = some ⟨b, 0, none⟩ → b < H.next := hw.old
  have fa : ∀ b, g.aa = some ⟨b, 0, none⟩ → b < H.next := ha.old
  intro y hy
  refine TriR.lowR hy ?_
  intro H1 hH1; obtain ⟨k1, n1, c1⟩ := new_facts hH1; clear hH1
  have c1 : Cl H1 H.next g.v := c1
  intro y hy
  refine TriR.lowR hy ?_
  refine Exists.intro _ (Exists.intro _ (And.intro c1.of (And.intro (show row 13 g.v 0 = some g.v from rfl) ?_)))
  obtain ⟨w, H2, f2, k2, hc⟩ := course_ok (kn := kn) (lo := lo) (H := H1) (g := g) (a := (s : Int)) (b := (d : Int)) (us := us) (k1.sl0 hw) (k1.sl0 ha) hwl hal hwn han (k1.sl0 hl) hul hn (by omega)
  have k02 := k1.trans k2
  have m2 := k2.1
  refine Exists.intro _ (Exists.intro _ (And.intro (callX_args f2) ?_))
  obtain rfl : w = .tuple #[.agg (crs g s d (dayMask us)).toArray, iv 0] := by
    rcases hc with ⟨h, _⟩ | ⟨_, h, _⟩ | ⟨_, s', d', e1, e2, _, _, h⟩
    · rw [hok] at h; cases h
    · rw [flB_of hsd, hset] at h; cases h
    · obtain rfl : s = s' := by omega
      obtain rfl : d = d' := by omega
      exact h
  have v := Lt.vd hok hwl hal
  have hn40 := v.n40
  refine And.intro rfl (Exists.intro (.agg (crs g s d (dayMask us)).toArray) (And.intro (by kernel_rfl) ?_))
  refine And.intro rfl (Exists.intro (iv 0) (And.intro (by kernel_rfl) ?_))
  intro H3 hH3; obtain ⟨k3, n3, c3⟩ := new_facts hH3; clear hH3
  have c3 : Cl H3 H2.next zeroC := c3
  obtain ⟨_, e4, l4, g4⟩ := id c3
  refine Exists.intro _ (Exists.intro _ (Exists.intro _ (And.intro g4 (And.intro (by omega) (And.intro rfl (And.intro rfl (And.intro (by simp) ?_)))))))
  intro H4 hH4; obtain ⟨k4, n4, c4⟩ := up_facts c3 hH4; clear hH4
  have c4 : Cl H4 H2.next (crs g s d (dayMask us)) := c4
  have k24 : Keep H2 H4 [] := k3.new k4 (fun b hb => .inr (by simp at hb; omega))
  have k04 := k02.trans k24
  have m4 := k24.1
  intro y hy
  refine TriR.lowR hy ?_
  refine condF ?_
  intro y hy
  refine TriR.lowR hy ?_
  intro H5 hH5; obtain ⟨k5, n5, c5⟩ := new_facts hH5; clear hH5
  have c5 : Cl H5 H4.next [.slice none 0 0] := c5
  have d4 := k5.cl c4 (by simp)
  have k05 := k04.trans k5
  intro y hy
  refine TriR.lowL hy ?_
  intro z hz
  refine TriR.lowR hz ?_
  refine Exists.intro _ (Exists.intro _ (And.intro d4.of (And.intro (show row 16 _ 0 = some (crs g s d (dayMask us)) from rfl) ?_)))
  obtain ⟨bc, H6, f6, k6, hbc, rb⟩ := states_ok (kn := kn) (lo := lo) (H := H5) (g := g) (s := s) (d := d) (m := dayMask us)
  refine Exists.intro _ (Exists.intro _ (And.intro (callX_args f6) ?_))
  intro y hy
  refine TriR.lowB hy ?_
  rw [E17_1]
  refine TriR.range rfl ?_
  intro H7 k7 n7 hd hlp
  have k57 := k6.trans k7
  have k07 := k05.trans k57
  have lbc := rb.lt
  have m6 := k6.1
  let X : OX := ⟨g, s, d, dayMask us, H4.next, bc, H6.next⟩
  have G : OG X lo H := ⟨by show H.next ≤ H4.next; omega, by show lo ≤ H4.next; omega, by show H4.next < bc; omega, by show bc < H6.next; omega⟩
  have e5 := k57.cl c5 (by simp)
  have eb := k7.rd rb (by simp)
  have lp7 : Lp Try.prog H7 (H6.next + 1) .ready none 37 [(12, pt H4.next)] [27] asg17 body17 H6.next := hlp.weak ⟨rfl, trivial⟩
  have fin : ∀ (b k : Nat) (H8 H9 : Hp), OJ X lo H b k H8 → Keep H8 H9 [b] → OJ X lo H b k H9 := fun b k H8 H9 j kk => by
    have lb := j.lb; have ll := j.ll
    have lb : H6.next + 1 < b := lb
    have ll : b < H8.next := ll
    have hl4 : H4.next < H6.next := by omega
    have ne : ∀ x, x < b → x ∉ [b] := fun x h => by simp; omega
    obtain ⟨wv, q1, q2⟩ := j.c12
    have q1 : Cl H8 H4.next [wv] := q1
    exact ⟨⟨wv, (show Cl H9 H4.next [wv] from kk.cl q1 (ne _ (by omega))), q2.other kk (by intro x hx; simp at hx; omega)⟩, kk.rd j.cb (ne _ (by show bc < b; omega)), kk.sl j.hw (fun x e => ne _ (by have := fw x e; omega)), kk.sl j.ha (fun x e => ne _ (by have := fa x e; omega)), j.lp.keep kk (by show H6.next + 1 < H8.next; omega) (ne _ lb), lb, Nat.lt_of_lt_of_le ll kk.1, by rw [kk.2 X.r (by show H6.next < H8.next; omega) (ne _ (by show H6.next < b; omega))]; exact j.dfr, j.kp.new kk (fun x hx => .inr (by simp at hx; omega))⟩
  obtain ⟨b, H8, h8, hb8, j⟩ := iter_ok2 (kn := kn) (lo := lo) (H := H7) (l := H6.next + 1) (bc := bc) v hsd (fun b k H' => OJ X lo H b k H') (by omega) eb
    (fun b H1' kk hb hb2 => ⟨⟨_, kk.cl e5 (by simp), .inl ⟨rfl, rfl, rfl⟩⟩, kk.rd eb (by simp), kk.sl0 (k07.sl0 hw), kk.sl0 (k07.sl0 ha), lp7.keep kk (by omega) (by simp), by show H6.next + 1 < b; omega, hb2, by rw [kk.2 X.r (by show H6.next < H7.next; omega) (by simp)]; exact hd, k07.trans kk⟩)
    (fun b k H' j => ⟨j.cb, j.hw, j.ha⟩) fin (fun b k H' j => by have h1 := j.ll; have h2 : H6.next + 1 < b := j.lb; omega) (fun b k H' hk j => ox_round G v hsd fw fa hk j)
  refine Exists.intro _ (Exists.intro H8 (And.intro (callX_func rfl (by simpa using h8)) ?_))
  refine ⟨.ready, none, _, j.lp, by simp, ?_⟩
  intro H9 s9
  have k9 := s9.keep
  have hn9 : H9.next = H8.next := s9.1
  have ll := j.ll
  have lb : H6.next + 1 < b := j.lb
  have kH : Keep H H9 [] := j.kp.new k9 (fun b hb => .inr (by simp at hb; omega))
  obtain ⟨wv, q12, acc⟩ := j.c12
  have q12 : Cl H8 H4.next [wv] := q12
  have q12 := k9.cl q12 (by simp; omega)
  have acc := acc.other k9 (by intro x hx; simp at hx; omega)
  have dj : H9.t.get H6.next = some (.dfr (some [])) := by
    rw [k9.2 H6.next (by omega) (by simp)]; exact j.dfr
  have acc : Acc lo (b + 1) 24 H9 wv d (spc (g.ox s (Nat.testBit (dayMask us)) d)) := acc
  refine Exists.intro _ (Exists.intro _ (And.intro q12.of (And.intro (show _ = some wv from rfl) ?_)))
  refine And.intro trivial (Or.inr ⟨H6.next, rfl, by omega, dj, fun H10 hn10 hs10 => ?_⟩)
  have k10 : Keep H9 H10 [H6.next] := ⟨by omega, fun b _ hb => hs10 b (by simpa using hb)⟩
  have acc10 := acc.other k10 (by intro x hx; simp at hx; omega)
  refine ⟨_, rfl, wv, rfl, kH.new k10 (fun b hb => .inr (by simp at hb; omega)), ?_⟩
  rcases acc10 with h | ⟨bb, e1, e2, e3, e4⟩
  · exact .inl h
  · exact .inr ⟨bb, e1, e2, by omega, e4⟩
end
end Go.Ax

/-
  Late: the law LateMore, whatever the input (written by program).
-/
namespace Go.Ax
open Go Go.RowKit Go.Proofs

def Lt.ty (g : Lt) (s d : Nat) : Int := sureV (decide (g.sm s (Nat.testBit 0) d > g.bear)) (decide (g.sl s (Nat.testBit 0) d > g.bear))
section
variable {kn : FuncId → Option Bool} {lo : Nat} {H : Hp}
end
end Go.Ax

/-
  Late: for LateEnds: several lists that append makes side by side; the cold and the hot forecast (written by program).
-/
namespace Go.Ax
open Go Go.RowKit Go.Proofs

def bkv : Value → Option Nat
  | .slice (some ⟨b, _, _⟩) _ _ => some b
  | _ => none
/-- not in the same block -/
def Ap (v w : Value) : Prop := ∀ b c, bkv v = some b → bkv w = some c → b ≠ c
theorem Ap.symm {v w : Value} (h : Ap v w) : Ap w v := fun b c h1 h2 e => h c b h2 h1 e.symm
theorem Acc.ap {lo f : Nat} {e : TypeId} {H : Hp} {w : Value} {m : Nat} {ds : List Value} (h : Acc lo f e H w m ds) (i j : Nat) : Ap (.slice (some ⟨H.next, 0, none⟩) i j) w := by
  intro b c h1 h2 e1
  rcases h with ⟨_, _, rfl⟩ | ⟨b2, rfl, _, _, _, hn, _⟩
  · simp [bkv] at h2
  · simp [bkv] at h1 h2; omega
theorem heap_append_sep {P : Program} {lo : Nat} {H : Hp} {t0 t1 e ep : TypeId} {size k cap2 f : Nat} {a : Option Addr} {v : Value} {cs news : List Value} (he : sliceElem P t0 = some (e, size)) (ht : P.underlying t1 = some (.slice ep))
    (hs : Sl H a 1 cap2 news) (hl : news.length = 1 * size) (hz : 0 < size) (hone : news.all one = true) (hcl : cs.length = k * size) (hk : k < 1000) (ha : Acc lo f e H v k cs) (hlo : lo ≤ H.next) (hf : f ≤ H.next) :
    ∃ H1 kd, (∀ (n : Nat) (S : Rg) (d : Option Tmp) (x y : Operand) (ty : TypeId) (p : String), evS S x = some v → evS S y = some (.slice a 1 cap2) → heapOp P lo (frS n S) H ⟨d, .call ⟨.builtin .append, #[x, y], #[t0, t1]⟩, ty, p, #[], none⟩ = some (.val (.slice (some ⟨H.next, 0, none⟩) (k + 1) (k + 1)) H1, kd)) ∧ (kd = .heavy ∨ ∃ b, kd = .store b ∧ f ≤ b) ∧
      Acc lo f e H1 (.slice (some ⟨H.next, 0, none⟩) (k + 1) (k + 1)) (k + 1) (cs ++ news) ∧ KeepB f H H1 ∧ (∀ (w : Value) (m : Nat) (ds : List Value), Acc lo f e H w m ds → Ap v w → Acc lo f e H1 w m ds) := by
  rcases ha with ⟨rfl, rfl, rfl⟩ | ⟨b, rfl, h0, hb, hlb, hn, hg⟩
  · refine ⟨H.new (.cells news e true), .heavy, ?_, .inl rfl, ?_, ⟨Nat.le_succ _, fun b hb => (new_facts rfl).1.2 b (by omega) (by simp)⟩, fun w m ds hw _ => hw.keep (new_facts rfl).1⟩
    · intro n S d x y ty p hx hy
      unfold heapOp
      simp only [evs, ev_frS, hx, hy, builtinV, List.getElem?_toArray, List.getElem?_cons_zero, List.getElem?_cons_succ, he, ht, src_of hs hl, appendV]
      rfl
    · refine .inr ⟨H.next, rfl, by omega, hf, hlo, Nat.lt_succ_self _, ?_⟩
      show (H.t.set H.next _).get H.next = _
      rw [Tr.get_set, if_pos rfl]; rfl
  · have h1 : Nat.ble (0 + (k + 1) * size) cs.length = false := by
      cases h : Nat.ble (0 + (k + 1) * size) cs.length with
      | false => rfl
      | true => have := Nat.le_of_ble_eq_true h; rw [hcl, Nat.succ_mul] at this; omega
    have h2 : Nat.beq (0 + k * size) cs.length = true := by rw [hcl, Nat.zero_add]; exact Nat.beq_refl _
    have h3 : Nat.ble (k + 1) 1048576 = true := Nat.ble_eq_true_of_le (by omega)
    have h4 : Nat.beq e e = true := Nat.beq_refl e
    refine ⟨({ H with t := H.t.set b .dead } : Hp).new (.cells (cs ++ news) e true), .store b, ?_, .inr ⟨b, rfl, hb⟩, ?_, ?_, ?_⟩
    · intro n S d x y ty p hx hy
      unfold heapOp
      simp only [evs, ev_frS, hx, hy, builtinV, List.getElem?_toArray, List.getElem?_cons_zero, List.getElem?_cons_succ, he, ht, src_of hs hl, appendV, hg, h1, h2, h3, h4, hone, Nat.ble_eq_true_of_le hlb, Bool.and_self, cond_true, cond_false, List.drop_zero, show Nat.beq 1 0 = false from rfl]
    · refine .inr ⟨H.next, rfl, by omega, hf, hlo, Nat.lt_succ_self _, ?_⟩
      show ((H.t.set b .dead).set H.next _).get H.next = _
      rw [Tr.get_set, if_pos rfl]
    · refine ⟨Nat.le_succ _, fun c hc => ?_⟩
      show ((H.t.set b .dead).set H.next _).get c = _
      rw [Tr.get_set, if_neg (by omega), Tr.get_set, if_neg (by omega)]
    · intro w m ds hw hap
      rcases hw with h | ⟨b2, rfl, q1, q2, q3, q4, q5⟩
      · exact .inl h
      · have hne : b ≠ b2 := hap b b2 rfl rfl
        refine .inr ⟨b2, rfl, q1, q2, q3, Nat.lt_succ_of_lt q4, ?_⟩
        show ((H.t.set b .dead).set H.next _).get b2 = _
        rw [Tr.get_set, if_neg (by omega), Tr.get_set, if_neg (fun e => hne e.symm)]
        exact q5
/-- several lists that append makes, apart from each other -/
def AcL (lo f : Nat) (e : TypeId) (H : Hp) (l : List (Value × Nat × List Value)) : Prop := (∀ x ∈ l, Acc lo f e H x.1 x.2.1 x.2.2) ∧ l.Pairwise fun x y => Ap x.1 y.1
theorem AcL.keep {lo f : Nat} {e : TypeId} {H H1 : Hp} {l : List (Value × Nat × List Value)} (h : AcL lo f e H l) (k : Keep H H1 []) : AcL lo f e H1 l := ⟨fun x hx => (h.1 x hx).keep k, h.2⟩
theorem AcL.keepW {lo f : Nat} {e : TypeId} {H H1 : Hp} {l : List (Value × Nat × List Value)} (h : AcL lo f e H l) {x : Nat} (k : Keep H H1 [x]) (hx : x < f) : AcL lo f e H1 l := ⟨fun y hy => (h.1 y hy).keepW k hx, h.2⟩
theorem AcL.app {P : Program} {lo : Nat} {H : Hp} {t0 t1 e ep : TypeId} {size k cap2 f : Nat} {a : Option Addr} {v : Value} {cs news : List Value} (pre post : List (Value × Nat × List Value)) (he : sliceElem P t0 = some (e, size)) (ht : P.underlying t1 = some (.slice ep))
    (hs : Sl H a 1 cap2 news) (hl : news.length = 1 * size) (hz : 0 < size) (hone : news.all one = true) (hcl : cs.length = k * size) (hk : k < 1000) (ha : AcL lo f e H (pre ++ (v, k, cs) :: post)) (hlo : lo ≤ H.next) (hf : f ≤ H.next) :
    ∃ H1 kd, (∀ (n : Nat) (S : Rg) (d : Option Tmp) (x y : Operand) (ty : TypeId) (p : String), evS S x = some v → evS S y = some (.slice a 1 cap2) → heapOp P lo (frS n S) H ⟨d, .call ⟨.builtin .append, #[x, y], #[t0, t1]⟩, ty, p, #[], none⟩ = some (.val (.slice (some ⟨H.next, 0, none⟩) (k + 1) (k + 1)) H1, kd)) ∧ (kd = .heavy ∨ ∃ b, kd = .store b ∧ f ≤ b) ∧
      AcL lo f e H1 (pre ++ (.slice (some ⟨H.next, 0, none⟩) (k + 1) (k + 1), k + 1, cs ++ news) :: post) ∧ KeepB f H H1 := by
  obtain ⟨h1, h2⟩ := ha
  rw [List.pairwise_append, List.pairwise_cons] at h2
  obtain ⟨p1, ⟨p2, p3⟩, p4⟩ := h2
  obtain ⟨H1, kd, q1, q2, q3, q4, q5⟩ := heap_append_sep he ht hs hl hz hone hcl hk (h1 (v, k, cs) (by simp)) hlo hf
  refine ⟨H1, kd, q1, q2, ⟨fun x hx => ?_, ?_⟩, q4⟩
  · rw [List.mem_append, List.mem_cons] at hx
    rcases hx with hx | rfl | hx
    · exact q5 _ _ _ (h1 x (by simp [hx])) (p4 x hx _ (by simp)).symm
    · exact q3
    · exact q5 _ _ _ (h1 x (by simp [hx])) (p2 x hx)
  · rw [List.pairwise_append, List.pairwise_cons]
    refine ⟨p1, ⟨fun x hx => (h1 x (by simp [hx])).ap _ _, p3⟩, fun x hx y hy => ?_⟩
    rcases List.mem_cons.1 hy with rfl | hy
    · exact ((h1 x (by simp [hx])).ap _ _).symm
    · exact p4 x hx y (by simp [hy])
def oneL (s : Int × Int) : Int × Int := (s.1, s.1)
def oneH (s : Int × Int) : Int × Int := (s.2, s.2)
/-- all at the ends that make the most oxygen, and the least -/
abbrev Lt.cold (g : Lt) (a1 : Option Addr) (c1 : Nat) (a2 : Option Addr) (c2 : Nat) : Lt := ⟨a1, g.wn, c1, g.ws.map oneL, a2, g.wn, c2, g.as.map oneH, g.r1, g.r1, g.f2, g.f2, g.g2, g.g2, g.full, g.base, g.kill, g.need, g.bear⟩
abbrev Lt.hot (g : Lt) (a1 : Option Addr) (c1 : Nat) (a2 : Option Addr) (c2 : Nat) : Lt := ⟨a1, g.wn, c1, g.ws.map oneH, a2, g.wn, c2, g.as.map oneL, g.r2, g.r2, g.f1, g.f1, g.g1, g.g1, g.full, g.base, g.kill, g.need, g.bear⟩
theorem Lt.cold_vd {g : Lt} (v : g.Vd) {a1 : Option Addr} {c1 : Nat} {a2 : Option Addr} {c2 : Nat} : (g.cold a1 c1 a2 c2).Vd := by
  have h1 := v.f; have h2 := v.gr; have h3 := v.r; have h4 := v.n
  refine ⟨rfl, v.n40, (by show (g.ws.map _).length = _; rw [List.length_map]; exact v.wl), (by show (g.as.map _).length = g.wn; rw [List.length_map]; have := v.al; omega), fun s hs => ?_, fun s hs => ?_, ?_, v.fu, ?_, ?_, v.b, v.k, v.ne, v.be⟩
  · obtain ⟨t, ht, rfl⟩ := List.mem_map.1 hs
    have := v.w t ht
    unfold oneL; simp only; omega
  · obtain ⟨t, ht, rfl⟩ := List.mem_map.1 hs
    have := v.a t ht
    unfold oneH; simp only; omega
  · show 0 ≤ g.r1 ∧ g.r1 ≤ g.r1 ∧ g.r1 ≤ 1000; omega
  · show 0 ≤ g.f2 ∧ g.f2 ≤ g.f2 ∧ g.f2 ≤ g.full; omega
  · show 0 ≤ g.g2 ∧ g.g2 ≤ g.g2 ∧ g.g2 ≤ g.full; omega
theorem Lt.hot_vd {g : Lt} (v : g.Vd) {a1 : Option Addr} {c1 : Nat} {a2 : Option Addr} {c2 : Nat} : (g.hot a1 c1 a2 c2).Vd := by
  have h1 := v.f; have h2 := v.gr; have h3 := v.r; have h4 := v.n
  refine ⟨rfl, v.n40, (by show (g.ws.map _).length = _; rw [List.length_map]; exact v.wl), (by show (g.as.map _).length = g.wn; rw [List.length_map]; have := v.al; omega), fun s hs => ?_, fun s hs => ?_, ?_, v.fu, ?_, ?_, v.b, v.k, v.ne, v.be⟩
  · obtain ⟨t, ht, rfl⟩ := List.mem_map.1 hs
    have := v.w t ht
    unfold oneH; simp only; omega
  · obtain ⟨t, ht, rfl⟩ := List.mem_map.1 hs
    have := v.a t ht
    unfold oneL; simp only; omega
  · show 0 ≤ g.r2 ∧ g.r2 ≤ g.r2 ∧ g.r2 ≤ 1000; omega
  · show 0 ≤ g.f1 ∧ g.f1 ≤ g.f1 ∧ g.f1 ≤ g.full; omega
  · show 0 ≤ g.g1 ∧ g.g1 ≤ g.g1 ∧ g.g1 ≤ g.full; omega
theorem map_getD {l : List (Int × Int)} {f : Int × Int → Int × Int} {i : Nat} {x : Int × Int} (h : l[i]? = some x) : (l.map f).getD i (0, 0) = f x := by
  rw [List.getD_eq_getElem?_getD, List.getElem?_map, h]; rfl
section
variable {g : Lt} {s : Nat} {F : Nat → Bool} {a1 : Option Addr} {c1 : Nat} {a2 : Option Addr} {c2 : Nat}
theorem Lt.hot_W (v : g.Vd) {i : Nat} (h : i < g.wn) : (g.hot a1 c1 a2 c2).W i = ((g.W i).2, (g.W i).2) := map_getD (Lt.W_in v h).1
theorem Lt.hot_A (v : g.Vd) {i : Nat} (h : i < g.wn) : (g.hot a1 c1 a2 c2).A i = ((g.A i).1, (g.A i).1) := map_getD (Lt.A_in v h).1
theorem Lt.cold_W (v : g.Vd) {i : Nat} (h : i < g.wn) : (g.cold a1 c1 a2 c2).W i = ((g.W i).1, (g.W i).1) := map_getD (Lt.W_in v h).1
theorem Lt.cold_A (v : g.Vd) {i : Nat} (h : i < g.wn) : (g.cold a1 c1 a2 c2).A i = ((g.A i).2, (g.A i).2) := map_getD (Lt.A_in v h).1
theorem Lt.hot_lo (v : g.Vd) : ∀ k, s + k ≤ g.wn → (g.hot a1 c1 a2 c2).lo s F k = g.lo s F k
  | 0, _ => rfl
  | k + 1, h => by
    have ih := Lt.hot_lo v k (by omega)
    rw [Lt.lo, ih, Lt.lo]
    unfold Lt.loDay
    rw [Lt.hot_W v (by omega), Lt.hot_A v (by omega)]
theorem Lt.cold_hi (v : g.Vd) : ∀ k, s + k ≤ g.wn → (g.cold a1 c1 a2 c2).hi s F k = g.hi s F k
  | 0, _ => rfl
  | k + 1, h => by
    have ih := Lt.cold_hi v k (by omega)
    rw [Lt.hi, ih, Lt.hi]
    unfold Lt.hiDay
    rw [Lt.cold_W v (by omega), Lt.cold_A v (by omega)]
theorem Lt.cold_w (v : g.Vd) : ∀ k, s + k ≤ g.wn → (g.cold a1 c1 a2 c2).wl s k = g.wl s k ∧ (g.cold a1 c1 a2 c2).wh s k = g.wl s k
  | 0, _ => ⟨rfl, rfl⟩
  | k + 1, h => by
    obtain ⟨i1, i2⟩ := Lt.cold_w v k (by omega)
    rw [Lt.wl, Lt.wh, i1, i2, Lt.wl, Lt.cold_W v (by omega)]
    exact ⟨rfl, rfl⟩
theorem Lt.hot_w (v : g.Vd) : ∀ k, s + k ≤ g.wn → (g.hot a1 c1 a2 c2).wl s k = g.wh s k ∧ (g.hot a1 c1 a2 c2).wh s k = g.wh s k
  | 0, _ => ⟨rfl, rfl⟩
  | k + 1, h => by
    obtain ⟨i1, i2⟩ := Lt.hot_w v k (by omega)
    have e1 : (g.hot a1 c1 a2 c2).wl s (k + 1) = (g.hot a1 c1 a2 c2).wl s k + max 0 (((g.hot a1 c1 a2 c2).W (s + k)).1 - g.base) := rfl
    have e2 : (g.hot a1 c1 a2 c2).wh s (k + 1) = (g.hot a1 c1 a2 c2).wh s k + max 0 (((g.hot a1 c1 a2 c2).W (s + k)).2 - g.base) := rfl
    have e3 : g.wh s (k + 1) = g.wh s k + max 0 ((g.W (s + k)).2 - g.base) := rfl
    rw [Lt.hot_W v (by omega)] at e1 e2
    rw [e1, e2, e3, i1, i2]
    exact ⟨rfl, rfl⟩
end
end Go.Ax

/-
  Late: LateEnds: the regions of its loop (written by program).
-/
namespace Go.Ax
open Go Go.RowKit Go.Proofs

noncomputable def R8x1v : RC := (.seq (.reg [⟨(some 75), none, (.cmp .lss (.tmp 74) (.tmp 73))⟩])
  (.seq (.cond (.tmp 75) .skip
  (.exit 0))
  (.seq (.block 1 (.seq (.reg [⟨(some 76), none, (.mov (.tmp 74))⟩, ⟨(some 16), none, (.mov (.tmp 76))⟩])
  (.seq (.other (at_ Try.f8 [1, 1, 1, 1, 1, 1, 1, 1, 1, 0, 1, 0, 0, 1, 1, 0, 0, 1, 0]))
  (.other (at_ Try.f8 [1, 1, 1, 1, 1, 1, 1, 1, 1, 0, 1, 0, 0, 1, 1, 0, 0, 1, 1])))))
  (.other (at_ Try.f8 [1, 1, 1, 1, 1, 1, 1, 1, 1, 0, 1, 0, 0, 1, 1, 1])))))
theorem V8x1 : LV Try.prog 265 (at_ Try.f8 [1, 1, 1, 1, 1, 1, 1, 1, 1, 0, 1, 0, 0]) R8x1v := by
  have e : (at_ Try.f8 [1, 1, 1, 1, 1, 1, 1, 1, 1, 0, 1, 0, 0]) = (.seq (at_ Try.f8 [1, 1, 1, 1, 1, 1, 1, 1, 1, 0, 1, 0, 0, 0]) (.seq (at_ Try.f8 [1, 1, 1, 1, 1, 1, 1, 1, 1, 0, 1, 0, 0, 1, 0]) (.seq (.block 1 (.seq (at_ Try.f8 [1, 1, 1, 1, 1, 1, 1, 1, 1, 0, 1, 0, 0, 1, 1, 0, 0, 0]) (.seq (at_ Try.f8 [1, 1, 1, 1, 1, 1, 1, 1, 1, 0, 1, 0, 0, 1, 1, 0, 0, 1, 0]) (at_ Try.f8 [1, 1, 1, 1, 1, 1, 1, 1, 1, 0, 1, 0, 0, 1, 1, 0, 0, 1, 1])))) (at_ Try.f8 [1, 1, 1, 1, 1, 1, 1, 1, 1, 0, 1, 0, 0, 1, 1, 1])))) := by kernel_rfl
  rw [e]
  exact (.seq (.low (by kernel_rfl)) (.seq (.low (by kernel_rfl)) (.seq (.block _ (.seq (.low (by kernel_rfl)) (.seq (.other _) (.other _)))) (.other _))))
noncomputable def R8A : RC := (.dreg [⟨(some 77), none, (.addo (.tmp 14) 0)⟩, ⟨(some 78), none, (.ld (.tmp 77) 1)⟩, ⟨(some 79), none, (.mov (.tmp 13))⟩, ⟨(some 80), none, (.addo (.tmp 4) 0)⟩, ⟨(some 81), none, (.ld (.tmp 80) 1)⟩, ⟨(some 82), none, (.mov (.tmp 16))⟩, ⟨(some 83), none, (.idx (.tmp 81) (.tmp 82) 2)⟩, ⟨(some 84), none, (.addo (.tmp 83) 0)⟩, ⟨(some 85), none, (.ld (.tmp 84) 1)⟩, ⟨(some 86), none, (.call ⟨(.value (.tmp 79)), (List.toArray [(.tmp 85)]), (List.toArray [3])⟩ false)⟩, ⟨(some 87), none, (.mem ⟨(some 87), (.buildSlice 22 1 (List.toArray [(0, (.tmp 86))])), 22, "", (List.toArray []), none⟩)⟩, ⟨(some 88), none, (.mem ⟨(some 88), (.call ⟨(.builtin .append), (List.toArray [(.tmp 78), (.tmp 87)]), (List.toArray [22, 22])⟩), 22, "", (List.toArray []), none⟩)⟩, ⟨(some 89), none, (.addo (.tmp 15) 0)⟩, ⟨(some 90), none, (.ld (.tmp 89) 1)⟩, ⟨(some 91), none, (.mov (.tmp 13))⟩, ⟨(some 92), none, (.addo (.tmp 4) 0)⟩, ⟨(some 93), none, (.ld (.tmp 92) 1)⟩, ⟨(some 94), none, (.mov (.tmp 16))⟩, ⟨(some 95), none, (.idx (.tmp 93) (.tmp 94) 2)⟩, ⟨(some 96), none, (.addo (.tmp 95) 1)⟩, ⟨(some 97), none, (.ld (.tmp 96) 1)⟩, ⟨(some 98), none, (.call ⟨(.value (.tmp 91)), (List.toArray [(.tmp 97)]), (List.toArray [3])⟩ false)⟩, ⟨(some 99), none, (.mem ⟨(some 99), (.buildSlice 22 1 (List.toArray [(0, (.tmp 98))])), 22, "", (List.toArray []), none⟩)⟩, ⟨(some 100), none, (.mem ⟨(some 100), (.call ⟨(.builtin .append), (List.toArray [(.tmp 90), (.tmp 99)]), (List.toArray [22, 22])⟩), 22, "", (List.toArray []), none⟩)⟩, ⟨(some 101), none, (.addo (.tmp 14) 0)⟩, ⟨none, none, (.st (.tmp 101) (.tmp 88))⟩, ⟨(some 102), none, (.addo (.tmp 15) 0)⟩, ⟨none, none, (.st (.tmp 102) (.tmp 100))⟩] [134217727, 67108863, 33554431, 4095, 8388607, 4182015, 2084863, 1015808, 491520, 229376, 0, 32768, 0, 0, 4096, 0, 2047, 1020, 508, 248, 120, 56, 0, 8, 0, 0, 1, 0])
theorem L8A : low Try.prog 265 (at_ Try.f8 [1, 1, 1, 1, 1, 1, 1, 1, 1, 0, 1, 0, 0, 1, 1, 0, 0, 1, 0]) = some R8A := by kernel_rfl
noncomputable def R8B : RC := (.dreg [⟨(some 103), none, (.addo (.tmp 14) 1)⟩, ⟨(some 104), none, (.ld (.tmp 103) 1)⟩, ⟨(some 105), none, (.mov (.tmp 13))⟩, ⟨(some 106), none, (.addo (.tmp 4) 1)⟩, ⟨(some 107), none, (.ld (.tmp 106) 1)⟩, ⟨(some 108), none, (.mov (.tmp 16))⟩, ⟨(some 109), none, (.idx (.tmp 107) (.tmp 108) 2)⟩, ⟨(some 110), none, (.addo (.tmp 109) 1)⟩, ⟨(some 111), none, (.ld (.tmp 110) 1)⟩, ⟨(some 112), none, (.call ⟨(.value (.tmp 105)), (List.toArray [(.tmp 111)]), (List.toArray [3])⟩ false)⟩, ⟨(some 113), none, (.mem ⟨(some 113), (.buildSlice 22 1 (List.toArray [(0, (.tmp 112))])), 22, "", (List.toArray []), none⟩)⟩, ⟨(some 114), none, (.mem ⟨(some 114), (.call ⟨(.builtin .append), (List.toArray [(.tmp 104), (.tmp 113)]), (List.toArray [22, 22])⟩), 22, "", (List.toArray []), none⟩)⟩, ⟨(some 115), none, (.addo (.tmp 15) 1)⟩, ⟨(some 116), none, (.ld (.tmp 115) 1)⟩, ⟨(some 117), none, (.mov (.tmp 13))⟩, ⟨(some 118), none, (.addo (.tmp 4) 1)⟩, ⟨(some 119), none, (.ld (.tmp 118) 1)⟩, ⟨(some 120), none, (.mov (.tmp 16))⟩, ⟨(some 121), none, (.idx (.tmp 119) (.tmp 120) 2)⟩, ⟨(some 122), none, (.addo (.tmp 121) 0)⟩, ⟨(some 123), none, (.ld (.tmp 122) 1)⟩, ⟨(some 124), none, (.call ⟨(.value (.tmp 117)), (List.toArray [(.tmp 123)]), (List.toArray [3])⟩ false)⟩, ⟨(some 125), none, (.mem ⟨(some 125), (.buildSlice 22 1 (List.toArray [(0, (.tmp 124))])), 22, "", (List.toArray []), none⟩)⟩, ⟨(some 126), none, (.mem ⟨(some 126), (.call ⟨(.builtin .append), (List.toArray [(.tmp 116), (.tmp 125)]), (List.toArray [22, 22])⟩), 22, "", (List.toArray []), none⟩)⟩, ⟨(some 127), none, (.addo (.tmp 14) 1)⟩, ⟨none, none, (.st (.tmp 127) (.tmp 114))⟩, ⟨(some 128), none, (.addo (.tmp 15) 1)⟩, ⟨none, none, (.st (.tmp 128) (.tmp 126))⟩] [134217727, 67108863, 33554431, 4095, 8388607, 4182015, 2084863, 1015808, 491520, 229376, 0, 32768, 0, 0, 4096, 0, 2047, 1020, 508, 248, 120, 56, 0, 8, 0, 0, 1, 0])
theorem L8B : low Try.prog 265 (at_ Try.f8 [1, 1, 1, 1, 1, 1, 1, 1, 1, 0, 1, 0, 0, 1, 1, 0, 0, 1, 1]) = some R8B := by kernel_rfl
noncomputable def R8C : RC := (.reg [⟨(some 129), none, (.ari .add (.tmp 74) (.const (.int .i64 1)))⟩, ⟨(some 74), none, (.mov (.tmp 129))⟩])
theorem L8C : low Try.prog 265 (at_ Try.f8 [1, 1, 1, 1, 1, 1, 1, 1, 1, 0, 1, 0, 0, 1, 1, 1]) = some R8C := by kernel_rfl
/-- what lies where in the loop of LateEnds: i elements of Warm, j of Air *-/
def EI (lo : Nat) (H H' : Hp) (g : Lt) (la : Option Addr) (n cap : Nat) (us : List Int) (oa : Option Addr) (d oc s z0 z1 z2 z3 ff : Nat) (wa wb wc wd : Value) (i j : Nat) : Prop :=
  Keep H H' [] ∧ Sl H' g.wa g.wn g.wcap (spc g.ws) ∧ Sl H' g.aa g.an g.acap (spc g.as) ∧ Sl H' la n cap (ints us) ∧ Sl H' oa d oc (spc (g.ox s (Nat.testBit (dayMask us)) d)) ∧ Cl H' z0 g.v ∧ Cl H' z1 [iv (g.wl s d), iv (g.wh s d)] ∧ Cl H' z2 [wa, wc, iv g.r1, iv g.r2, iv g.f1, iv g.f2, iv g.g1, iv g.g2, iv g.full, iv g.base, iv g.kill, iv g.need, iv g.bear] ∧ Cl H' z3 [wb, wd, iv g.r1, iv g.r2, iv g.f1, iv g.f2, iv g.g1, iv g.g2, iv g.full, iv g.base, iv g.kill, iv g.need, iv g.bear] ∧ AcL lo ff 24 H' [(wa, i, spc ((g.ws.map oneL).take i)), (wb, i, spc ((g.ws.map oneH).take i)), (wc, j, spc ((g.as.map oneH).take j)), (wd, j, spc ((g.as.map oneL).take j))] ∧ ff ≤ H'.next
section
variable {kn : FuncId → Option Bool} {lo : Nat} {H : Hp}
set_option maxHeartbeats 4000000 in
theorem ends_A {g : Lt} {la : Option Addr} {n cap : Nat} {us : List Int} {oa : Option Addr} {d oc s z0 z1 z2 z3 ff i : Nat} {wa wb wc wd : Value} {L1 : Hp} (v : g.Vd) (hi : i < g.wn) (hE : EI lo H L1 g la n cap us oa d oc s z0 z1 z2 z3 ff wa wb wc wd i i) (b36 : z0 < z1 ∧ z1 < z2 ∧ z2 < z3 ∧ z3 < ff ∧ H.next ≤ z0) (hlo : lo ≤ H.next)
    (fw : ∀ b, g.wa = some ⟨b, 0, none⟩ → b < H.next) (fa : ∀ b, g.aa = some ⟨b, 0, none⟩ → b < H.next) (fl : ∀ b, la = some ⟨b, 0, none⟩ → b < H.next) (fox : ∀ b, oa = some ⟨b, 0, none⟩ → b < z1) {S : Rg} (hS : Subs [(1, iv (s : Int)), (2, iv (d : Int)), (3, .slice la n cap), (4, pt z0), (9, .slice oa d oc), (11, pt z1), (13, .func (.func 36) #[] #[]), (14, pt z2), (15, pt z3), (73, iv (g.wn : Int)), (74, iv (i : Int)), (16, iv (i : Int))] S) {K : Exit → Rg → Hp → Prop}
    (hK : ∀ (S' : Rg) (H' : Hp) (wa1 wb1 : Value), EI lo H H' g la n cap us oa d oc s z0 z1 z2 z3 ff wa1 wb1 wc wd (i + 1) i → Subs [(1, iv (s : Int)), (2, iv (d : Int)), (3, .slice la n cap), (4, pt z0), (9, .slice oa d oc), (11, pt z1), (13, .func (.func 36) #[] #[]), (14, pt z2), (15, pt z3), (73, iv (g.wn : Int)), (74, iv (i : Int)), (16, iv (i : Int))] S' → K .normal S' H') : Tri Try.prog kn lo 265 false (at_ Try.f8 [1, 1, 1, 1, 1, 1, 1, 1, 1, 0, 1, 0, 0, 1, 1, 0, 0, 1, 0]) S L1 K := by
  refine tri_piece L8A hS ?_
  obtain ⟨hk, hw, ha, hl, hox, cA, cB, cC, cD, hacl, hfl⟩ := hE
  have hwl := v.wl; have hal := v.al; have hnn := v.n; have hn40 := v.n40
  have hia : i < g.an := by omega
  have hm := hk.1; have l13 := cD.lt
  obtain ⟨x, hx⟩ := get_some (l := g.ws) (i := i) (by omega)
  obtain ⟨y, hy⟩ := get_some (l := g.as) (i := i) (by omega)
  rcases hw with ⟨_, h0, _⟩ | ⟨wb0, ewa, hwd, qw⟩
  · omega
  rcases ha with ⟨_, h0, _⟩ | ⟨ab, eaa, had, qa⟩
  · omega
  have lwb := fw wb0 ewa; have lab := fa ab eaa
  first | refine wD_dreg ?_ | (refine wOps_nil ?_; refine wD_dreg ?_)
  refine wD_addo (b := z2) (o := 0) rfl ?_
  refine wD_ld (b := z2) (o := 0) (v := wa) rfl cC.rd rfl ?_
  refine wD_mov (v := .func (.func 36) #[] #[]) rfl ?_
  refine wD_addo (b := z0) (o := 0) rfl ?_
  refine wD_ld (b := z0) (o := 0) (v := .slice (some ⟨wb0, 0, none⟩) g.wn g.wcap) rfl cA.rd (show _ = some (Value.slice (some ⟨wb0, 0, none⟩) g.wn g.wcap) from by rw [← ewa]; rfl) ?_
  refine wD_mov (v := iv (i : Int)) rfl ?_
  refine wD_idx (b := wb0) (o := 0) (k := i) (j := (i : Int)) rfl rfl rfl hi ?_
  refine wD_addo (b := wb0) (o := 0 + i * 2) rfl ?_
  refine wD_ld (b := wb0) (o := 0 + i * 2) (v := iv x.1) rfl hwd (span_get hx).1 ?_
  obtain ⟨H1, fH1, kH1⟩ := one36_ok (kn := kn) (lo := L1.next) (H := L1) (a := x.1) (by omega)
  refine wD_callh (vs := [iv x.1]) rfl (by kernel_rfl) (callX_args fH1) ?_
  have mH1 := kH1.1
  have hk := hk.trans kH1
  have hwd := kH1.rd hwd (by simp)
  have had := kH1.rd had (by simp)
  have hl := kH1.sl0 hl
  have hox := kH1.sl0 hox
  have cA := kH1.cl cA (by simp)
  have cB := kH1.cl cB (by simp)
  have cC := kH1.cl cC (by simp)
  have cD := kH1.cl cD (by simp)
  have hacl := hacl.keep kH1
  obtain ⟨H2, hH2⟩ : ∃ H2, H1.new (.cells [iv x.1, iv x.1] 24 false) = H2 := ⟨_, rfl⟩
  refine wD_memh (H' := H2) (k := .heavy) rfl (by kernel_rfl) ((heap_build1 (v := .agg #[iv x.1, iv x.1]) se22 z24 rfl rfl rfl (by decide)).trans (by rw [← hH2]; rfl)) (fun b e => by cases e) ?_
  obtain ⟨kH2, nH2, c2⟩ := new_facts hH2; clear hH2
  have c2 : Cl H2 H1.next [iv x.1, iv x.1] := c2
  have mH2 := kH2.1
  have hk := hk.trans kH2
  have hwd := kH2.rd hwd (by simp)
  have had := kH2.rd had (by simp)
  have hl := kH2.sl0 hl
  have hox := kH2.sl0 hox
  have cA := kH2.cl cA (by simp)
  have cB := kH2.cl cB (by simp)
  have cC := kH2.cl cC (by simp)
  have cD := kH2.cl cD (by simp)
  have hacl := hacl.keep kH2
  obtain ⟨H3, kdH3, eH3, dH3, aH3, kbH3⟩ := AcL.app (P := Try.prog) (lo := lo) (k := i) (t1 := 22) [] [(wb, i, spc ((g.ws.map oneH).take i)), (wc, i, spc ((g.as.map oneH).take i)), (wd, i, spc ((g.as.map oneL).take i))] se22 u22 (c2.sl (Nat.le_refl 1)) rfl (by decide) rfl (by rw [spc_len, List.length_take, List.length_map]; omega) (by omega) hacl (by omega) (by omega)
  refine wD_memh (k := kdH3) rfl (by cases wa <;> kernel_rfl) (eH3 _ _ _ _ _ _ _ rfl rfl) (reg_ok dH3 _) ?_
  have hk := kbH3.keep hk (by omega)
  have hwd := kbH3.rd hwd (by omega)
  have had := kbH3.rd had (by omega)
  have hl := kbH3.sl hl (fun b e => by have := fl b e; omega)
  have hox := kbH3.sl hox (fun b e => by have := fox b e; omega)
  have cA := kbH3.cl cA (by omega)
  have cB := kbH3.cl cB (by omega)
  have cC := kbH3.cl cC (by omega)
  have cD := kbH3.cl cD (by omega)
  have hacl : AcL lo ff 24 H3 [(.slice (some ⟨H2.next, 0, none⟩) (i + 1) (i + 1), i + 1, spc ((g.ws.map oneL).take i) ++ [iv x.1, iv x.1]), (wb, i, spc ((g.ws.map oneH).take i)), (wc, i, spc ((g.as.map oneH).take i)), (wd, i, spc ((g.as.map oneL).take i))] := aH3
  have mH3 := kbH3.1
  refine wD_addo (b := z3) (o := 0) rfl ?_
  refine wD_ld (b := z3) (o := 0) (v := wb) rfl cD.rd rfl ?_
  refine wD_mov (v := .func (.func 36) #[] #[]) rfl ?_
  refine wD_addo (b := z0) (o := 0) rfl ?_
  refine wD_ld (b := z0) (o := 0) (v := .slice (some ⟨wb0, 0, none⟩) g.wn g.wcap) rfl cA.rd (show _ = some (Value.slice (some ⟨wb0, 0, none⟩) g.wn g.wcap) from by rw [← ewa]; rfl) ?_
  refine wD_mov (v := iv (i : Int)) rfl ?_
  refine wD_idx (b := wb0) (o := 0) (k := i) (j := (i : Int)) rfl rfl rfl hi ?_
  refine wD_addo (b := wb0) (o := 0 + i * 2) rfl ?_
  refine wD_ld (b := wb0) (o := 0 + i * 2 + 1) (v := iv x.2) rfl hwd (span_get hx).2 ?_
  obtain ⟨H4, fH4, kH4⟩ := one36_ok (kn := kn) (lo := H3.next) (H := H3) (a := x.2) (by omega)
  refine wD_callh (vs := [iv x.2]) rfl (by kernel_rfl) (callX_args fH4) ?_
  have mH4 := kH4.1
  have hk := hk.trans kH4
  have hwd := kH4.rd hwd (by simp)
  have had := kH4.rd had (by simp)
  have hl := kH4.sl0 hl
  have hox := kH4.sl0 hox
  have cA := kH4.cl cA (by simp)
  have cB := kH4.cl cB (by simp)
  have cC := kH4.cl cC (by simp)
  have cD := kH4.cl cD (by simp)
  have hacl := hacl.keep kH4
  obtain ⟨H5, hH5⟩ : ∃ H5, H4.new (.cells [iv x.2, iv x.2] 24 false) = H5 := ⟨_, rfl⟩
  refine wD_memh (H' := H5) (k := .heavy) rfl (by kernel_rfl) ((heap_build1 (v := .agg #[iv x.2, iv x.2]) se22 z24 rfl rfl rfl (by decide)).trans (by rw [← hH5]; rfl)) (fun b e => by cases e) ?_
  obtain ⟨kH5, nH5, c5⟩ := new_facts hH5; clear hH5
  have c5 : Cl H5 H4.next [iv x.2, iv x.2] := c5
  have mH5 := kH5.1
  have hk := hk.trans kH5
  have hwd := kH5.rd hwd (by simp)
  have had := kH5.rd had (by simp)
  have hl := kH5.sl0 hl
  have hox := kH5.sl0 hox
  have cA := kH5.cl cA (by simp)
  have cB := kH5.cl cB (by simp)
  have cC := kH5.cl cC (by simp)
  have cD := kH5.cl cD (by simp)
  have hacl := hacl.keep kH5
  obtain ⟨H6, kdH6, eH6, dH6, aH6, kbH6⟩ := AcL.app (P := Try.prog) (lo := lo) (k := i) (t1 := 22) [(.slice (some ⟨H2.next, 0, none⟩) (i + 1) (i + 1), i + 1, spc ((g.ws.map oneL).take i) ++ [iv x.1, iv x.1])] [(wc, i, spc ((g.as.map oneH).take i)), (wd, i, spc ((g.as.map oneL).take i))] se22 u22 (c5.sl (Nat.le_refl 1)) rfl (by decide) rfl (by rw [spc_len, List.length_take, List.length_map]; omega) (by omega) hacl (by omega) (by omega)
  refine wD_memh (k := kdH6) rfl (by cases wb <;> kernel_rfl) (eH6 _ _ _ _ _ _ _ rfl rfl) (reg_ok dH6 _) ?_
  have hk := kbH6.keep hk (by omega)
  have hwd := kbH6.rd hwd (by omega)
  have had := kbH6.rd had (by omega)
  have hl := kbH6.sl hl (fun b e => by have := fl b e; omega)
  have hox := kbH6.sl hox (fun b e => by have := fox b e; omega)
  have cA := kbH6.cl cA (by omega)
  have cB := kbH6.cl cB (by omega)
  have cC := kbH6.cl cC (by omega)
  have cD := kbH6.cl cD (by omega)
  have hacl : AcL lo ff 24 H6 [(.slice (some ⟨H2.next, 0, none⟩) (i + 1) (i + 1), i + 1, spc ((g.ws.map oneL).take i) ++ [iv x.1, iv x.1]), (.slice (some ⟨H5.next, 0, none⟩) (i + 1) (i + 1), i + 1, spc ((g.ws.map oneH).take i) ++ [iv x.2, iv x.2]), (wc, i, spc ((g.as.map oneH).take i)), (wd, i, spc ((g.as.map oneL).take i))] := aH6
  have mH6 := kbH6.1
  refine wD_addo (b := z2) (o := 0) rfl ?_
  refine wD_st (b := z2) (o := 0) rfl rfl cC (by omega) rfl rfl (by simp) ?_
  intro H7 kH7 nH7 sH7
  have mH7 := kH7.1
  have hk := hk.new kH7 (fun b hb => by simp at hb ⊢; omega)
  have hwd := kH7.rd hwd (by first | (simp; done) | (simp; omega))
  have had := kH7.rd had (by first | (simp; done) | (simp; omega))
  have hl := kH7.sl hl (fun b e => by have := fl b e; first | (simp; done) | (simp; omega))
  have hox := kH7.sl hox (fun b e => by have := fox b e; first | (simp; done) | (simp; omega))
  have cA := kH7.cl cA (by first | (simp; done) | (simp; omega))
  have cB := kH7.cl cB (by first | (simp; done) | (simp; omega))
  have cD := kH7.cl cD (by first | (simp; done) | (simp; omega))
  have hacl := hacl.keepW kH7 (by omega)
  have cC : Cl H7 z2 [.slice (some ⟨H2.next, 0, none⟩) (i + 1) (i + 1), wc, iv g.r1, iv g.r2, iv g.f1, iv g.f2, iv g.g1, iv g.g2, iv g.full, iv g.base, iv g.kill, iv g.need, iv g.bear] := sH7
  refine wD_addo (b := z3) (o := 0) rfl ?_
  refine wD_st (b := z3) (o := 0) rfl rfl cD (by omega) rfl rfl (by simp) ?_
  intro H8 kH8 nH8 sH8
  have mH8 := kH8.1
  have hk := hk.new kH8 (fun b hb => by simp at hb ⊢; omega)
  have hwd := kH8.rd hwd (by first | (simp; done) | (simp; omega))
  have had := kH8.rd had (by first | (simp; done) | (simp; omega))
  have hl := kH8.sl hl (fun b e => by have := fl b e; first | (simp; done) | (simp; omega))
  have hox := kH8.sl hox (fun b e => by have := fox b e; first | (simp; done) | (simp; omega))
  have cA := kH8.cl cA (by first | (simp; done) | (simp; omega))
  have cB := kH8.cl cB (by first | (simp; done) | (simp; omega))
  have hacl := hacl.keepW kH8 (by omega)
  have cC := kH8.cl cC (by first | (simp; done) | (simp; omega))
  have cD : Cl H8 z3 [.slice (some ⟨H5.next, 0, none⟩) (i + 1) (i + 1), wd, iv g.r1, iv g.r2, iv g.f1, iv g.f2, iv g.g1, iv g.g2, iv g.full, iv g.base, iv g.kill, iv g.need, iv g.bear] := sH8
  refine wD_end (by rcases dH3 with rfl | ⟨bH3, rfl, hbH3⟩ <;> rcases dH6 with rfl | ⟨bH6, rfl, hbH6⟩ <;> repeat' first | exact True.intro | exact (fun h => h) | refine And.intro ?_ ?_ | (intro h; have h : (_ : Nat) = _ := h; omega)) ?_
  have hoa : spc ((g.ws.map oneL).take (i + 1)) = spc ((g.ws.map oneL).take i) ++ [iv x.1, iv x.1] := by rw [List.take_add_one, List.getElem?_map, hx]; simp [spc, oneL, oneH]
  have hob : spc ((g.ws.map oneH).take (i + 1)) = spc ((g.ws.map oneH).take i) ++ [iv x.2, iv x.2] := by rw [List.take_add_one, List.getElem?_map, hx]; simp [spc, oneL, oneH]
  have hacl : AcL lo ff 24 H8 [(.slice (some ⟨H2.next, 0, none⟩) (i + 1) (i + 1), i + 1, spc ((g.ws.map oneL).take (i + 1))), (.slice (some ⟨H5.next, 0, none⟩) (i + 1) (i + 1), i + 1, spc ((g.ws.map oneH).take (i + 1))), (wc, i, spc ((g.as.map oneH).take (i))), (wd, i, spc ((g.as.map oneL).take (i)))] := by rw [hoa, hob]; exact hacl
  exact hK _ H8 _ _ ⟨hk, .inr ⟨wb0, ewa, hwd, qw⟩, .inr ⟨ab, eaa, had, qa⟩, hl, hox, cA, cB, cC, cD, hacl, by omega⟩ ⟨rfl, rfl, rfl, rfl, rfl, rfl, rfl, rfl, rfl, rfl, rfl, rfl, trivial⟩
set_option maxHeartbeats 4000000 in
theorem ends_B {g : Lt} {la : Option Addr} {n cap : Nat} {us : List Int} {oa : Option Addr} {d oc s z0 z1 z2 z3 ff i : Nat} {wa wb wc wd : Value} {L1 : Hp} (v : g.Vd) (hi : i < g.wn) (hE : EI lo H L1 g la n cap us oa d oc s z0 z1 z2 z3 ff wa wb wc wd (i + 1) i) (b36 : z0 < z1 ∧ z1 < z2 ∧ z2 < z3 ∧ z3 < ff ∧ H.next ≤ z0) (hlo : lo ≤ H.next)
    (fw : ∀ b, g.wa = some ⟨b, 0, none⟩ → b < H.next) (fa : ∀ b, g.aa = some ⟨b, 0, none⟩ → b < H.next) (fl : ∀ b, la = some ⟨b, 0, none⟩ → b < H.next) (fox : ∀ b, oa = some ⟨b, 0, none⟩ → b < z1) {S : Rg} (hS : Subs [(1, iv (s : Int)), (2, iv (d : Int)), (3, .slice la n cap), (4, pt z0), (9, .slice oa d oc), (11, pt z1), (13, .func (.func 36) #[] #[]), (14, pt z2), (15, pt z3), (73, iv (g.wn : Int)), (74, iv (i : Int)), (16, iv (i : Int))] S) {K : Exit → Rg → Hp → Prop}
    (hK : ∀ (S' : Rg) (H' : Hp) (wc1 wd1 : Value), EI lo H H' g la n cap us oa d oc s z0 z1 z2 z3 ff wa wb wc1 wd1 (i + 1) (i + 1) → Subs [(1, iv (s : Int)), (2, iv (d : Int)), (3, .slice la n cap), (4, pt z0), (9, .slice oa d oc), (11, pt z1), (13, .func (.func 36) #[] #[]), (14, pt z2), (15, pt z3), (73, iv (g.wn : Int)), (74, iv (i : Int)), (16, iv (i : Int))] S' → K .normal S' H') : Tri Try.prog kn lo 265 false (at_ Try.f8 [1, 1, 1, 1, 1, 1, 1, 1, 1, 0, 1, 0, 0, 1, 1, 0, 0, 1, 1]) S L1 K := by
  refine tri_piece L8B hS ?_
  obtain ⟨hk, hw, ha, hl, hox, cA, cB, cC, cD, hacl, hfl⟩ := hE
  have hwl := v.wl; have hal := v.al; have hnn := v.n; have hn40 := v.n40
  have hia : i < g.an := by omega
  have hm := hk.1; have l13 := cD.lt
  obtain ⟨x, hx⟩ := get_some (l := g.ws) (i := i) (by omega)
  obtain ⟨y, hy⟩ := get_some (l := g.as) (i := i) (by omega)
  rcases hw with ⟨_, h0, _⟩ | ⟨wb0, ewa, hwd, qw⟩
  · omega
  rcases ha with ⟨_, h0, _⟩ | ⟨ab, eaa, had, qa⟩
  · omega
  have lwb := fw wb0 ewa; have lab := fa ab eaa
  first | refine wD_dreg ?_ | (refine wOps_nil ?_; refine wD_dreg ?_)
  refine wD_addo (b := z2) (o := 0) rfl ?_
  refine wD_ld (b := z2) (o := 1) (v := wc) rfl cC.rd rfl ?_
  refine wD_mov (v := .func (.func 36) #[] #[]) rfl ?_
  refine wD_addo (b := z0) (o := 0) rfl ?_
  refine wD_ld (b := z0) (o := 1) (v := .slice (some ⟨ab, 0, none⟩) g.an g.acap) rfl cA.rd (show _ = some (Value.slice (some ⟨ab, 0, none⟩) g.an g.acap) from by rw [← eaa]; rfl) ?_
  refine wD_mov (v := iv (i : Int)) rfl ?_
  refine wD_idx (b := ab) (o := 0) (k := i) (j := (i : Int)) rfl rfl rfl hia ?_
  refine wD_addo (b := ab) (o := 0 + i * 2) rfl ?_
  refine wD_ld (b := ab) (o := 0 + i * 2 + 1) (v := iv y.2) rfl had (span_get hy).2 ?_
  obtain ⟨H1, fH1, kH1⟩ := one36_ok (kn := kn) (lo := L1.next) (H := L1) (a := y.2) (by omega)
  refine wD_callh (vs := [iv y.2]) rfl (by kernel_rfl) (callX_args fH1) ?_
  have mH1 := kH1.1
  have hk := hk.trans kH1
  have hwd := kH1.rd hwd (by simp)
  have had := kH1.rd had (by simp)
  have hl := kH1.sl0 hl
  have hox := kH1.sl0 hox
  have cA := kH1.cl cA (by simp)
  have cB := kH1.cl cB (by simp)
  have cC := kH1.cl cC (by simp)
  have cD := kH1.cl cD (by simp)
  have hacl := hacl.keep kH1
  obtain ⟨H2, hH2⟩ : ∃ H2, H1.new (.cells [iv y.2, iv y.2] 24 false) = H2 := ⟨_, rfl⟩
  refine wD_memh (H' := H2) (k := .heavy) rfl (by kernel_rfl) ((heap_build1 (v := .agg #[iv y.2, iv y.2]) se22 z24 rfl rfl rfl (by decide)).trans (by rw [← hH2]; rfl)) (fun b e => by cases e) ?_
  obtain ⟨kH2, nH2, c2⟩ := new_facts hH2; clear hH2
  have c2 : Cl H2 H1.next [iv y.2, iv y.2] := c2
  have mH2 := kH2.1
  have hk := hk.trans kH2
  have hwd := kH2.rd hwd (by simp)
  have had := kH2.rd had (by simp)
  have hl := kH2.sl0 hl
  have hox := kH2.sl0 hox
  have cA := kH2.cl cA (by simp)
  have cB := kH2.cl cB (by simp)
  have cC := kH2.cl cC (by simp)
  have cD := kH2.cl cD (by simp)
  have hacl := hacl.keep kH2
  obtain ⟨H3, kdH3, eH3, dH3, aH3, kbH3⟩ := AcL.app (P := Try.prog) (lo := lo) (k := i) (t1 := 22) [(wa, (i + 1), spc ((g.ws.map oneL).take (i + 1))), (wb, (i + 1), spc ((g.ws.map oneH).take (i + 1)))] [(wd, i, spc ((g.as.map oneL).take i))] se22 u22 (c2.sl (Nat.le_refl 1)) rfl (by decide) rfl (by rw [spc_len, List.length_take, List.length_map]; omega) (by omega) hacl (by omega) (by omega)
  refine wD_memh (k := kdH3) rfl (by cases wc <;> kernel_rfl) (eH3 _ _ _ _ _ _ _ rfl rfl) (reg_ok dH3 _) ?_
  have hk := kbH3.keep hk (by omega)
  have hwd := kbH3.rd hwd (by omega)
  have had := kbH3.rd had (by omega)
  have hl := kbH3.sl hl (fun b e => by have := fl b e; omega)
  have hox := kbH3.sl hox (fun b e => by have := fox b e; omega)
  have cA := kbH3.cl cA (by omega)
  have cB := kbH3.cl cB (by omega)
  have cC := kbH3.cl cC (by omega)
  have cD := kbH3.cl cD (by omega)
  have hacl : AcL lo ff 24 H3 [(wa, (i + 1), spc ((g.ws.map oneL).take (i + 1))), (wb, (i + 1), spc ((g.ws.map oneH).take (i + 1))), (.slice (some ⟨H2.next, 0, none⟩) (i + 1) (i + 1), i + 1, spc ((g.as.map oneH).take i) ++ [iv y.2, iv y.2]), (wd, i, spc ((g.as.map oneL).take i))] := aH3
  have mH3 := kbH3.1
  refine wD_addo (b := z3) (o := 0) rfl ?_
  refine wD_ld (b := z3) (o := 1) (v := wd) rfl cD.rd rfl ?_
  refine wD_mov (v := .func (.func 36) #[] #[]) rfl ?_
  refine wD_addo (b := z0) (o := 0) rfl ?_
  refine wD_ld (b := z0) (o := 1) (v := .slice (some ⟨ab, 0, none⟩) g.an g.acap) rfl cA.rd (show _ = some (Value.slice (some ⟨ab, 0, none⟩) g.an g.acap) from by rw [← eaa]; rfl) ?_
  refine wD_mov (v := iv (i : Int)) rfl ?_
  refine wD_idx (b := ab) (o := 0) (k := i) (j := (i : Int)) rfl rfl rfl hia ?_
  refine wD_addo (b := ab) (o := 0 + i * 2) rfl ?_
  refine wD_ld (b := ab) (o := 0 + i * 2) (v := iv y.1) rfl had (span_get hy).1 ?_
  obtain ⟨H4, fH4, kH4⟩ := one36_ok (kn := kn) (lo := H3.next) (H := H3) (a := y.1) (by omega)
  refine wD_callh (vs := [iv y.1]) rfl (by kernel_rfl) (callX_args fH4) ?_
  have mH4 := kH4.1
  have hk := hk.trans kH4
  have hwd := kH4.rd hwd (by simp)
  have had := kH4.rd had (by simp)
  have hl := kH4.sl0 hl
  have hox := kH4.sl0 hox
  have cA := kH4.cl cA (by simp)
  have cB := kH4.cl cB (by simp)
  have cC := kH4.cl cC (by simp)
  have cD := kH4.cl cD (by simp)
  have hacl := hacl.keep kH4
  obtain ⟨H5, hH5⟩ : ∃ H5, H4.new (.cells [iv y.1, iv y.1] 24 false) = H5 := ⟨_, rfl⟩
  refine wD_memh (H' := H5) (k := .heavy) rfl (by kernel_rfl) ((heap_build1 (v := .agg #[iv y.1, iv y.1]) se22 z24 rfl rfl rfl (by decide)).trans (by rw [← hH5]; rfl)) (fun b e => by cases e) ?_
  obtain ⟨kH5, nH5, c5⟩ := new_facts hH5; clear hH5
  have c5 : Cl H5 H4.next [iv y.1, iv y.1] := c5
  have mH5 := kH5.1
  have hk := hk.trans kH5
  have hwd := kH5.rd hwd (by simp)
  have had := kH5.rd had (by simp)
  have hl := kH5.sl0 hl
  have hox := kH5.sl0 hox
  have cA := kH5.cl cA (by simp)
  have cB := kH5.cl cB (by simp)
  have cC := kH5.cl cC (by simp)
  have cD := kH5.cl cD (by simp)
  have hacl := hacl.keep kH5
  obtain ⟨H6, kdH6, eH6, dH6, aH6, kbH6⟩ := AcL.app (P := Try.prog) (lo := lo) (k := i) (t1 := 22) [(wa, (i + 1), spc ((g.ws.map oneL).take (i + 1))), (wb, (i + 1), spc ((g.ws.map oneH).take (i + 1))), (.slice (some ⟨H2.next, 0, none⟩) (i + 1) (i + 1), i + 1, spc ((g.as.map oneH).take i) ++ [iv y.2, iv y.2])] [] se22 u22 (c5.sl (Nat.le_refl 1)) rfl (by decide) rfl (by rw [spc_len, List.length_take, List.length_map]; omega) (by omega) hacl (by omega) (by omega)
  refine wD_memh (k := kdH6) rfl (by cases wd <;> kernel_rfl) (eH6 _ _ _ _ _ _ _ rfl rfl) (reg_ok dH6 _) ?_
  have hk := kbH6.keep hk (by omega)
  have hwd := kbH6.rd hwd (by omega)
  have had := kbH6.rd had (by omega)
  have hl := kbH6.sl hl (fun b e => by have := fl b e; omega)
  have hox := kbH6.sl hox (fun b e => by have := fox b e; omega)
  have cA := kbH6.cl cA (by omega)
  have cB := kbH6.cl cB (by omega)
  have cC := kbH6.cl cC (by omega)
  have cD := kbH6.cl cD (by omega)
  have hacl : AcL lo ff 24 H6 [(wa, (i + 1), spc ((g.ws.map oneL).take (i + 1))), (wb, (i + 1), spc ((g.ws.map oneH).take (i + 1))), (.slice (some ⟨H2.next, 0, none⟩) (i + 1) (i + 1), i + 1, spc ((g.as.map oneH).take i) ++ [iv y.2, iv y.2]), (.slice (some ⟨H5.next, 0, none⟩) (i + 1) (i + 1), i + 1, spc ((g.as.map oneL).take i) ++ [iv y.1, iv y.1])] := aH6
  have mH6 := kbH6.1
  refine wD_addo (b := z2) (o := 0) rfl ?_
  refine wD_st (b := z2) (o := 1) rfl rfl cC (by omega) rfl rfl (by simp) ?_
  intro H7 kH7 nH7 sH7
  have mH7 := kH7.1
  have hk := hk.new kH7 (fun b hb => by simp at hb ⊢; omega)
  have hwd := kH7.rd hwd (by first | (simp; done) | (simp; omega))
  have had := kH7.rd had (by first | (simp; done) | (simp; omega))
  have hl := kH7.sl hl (fun b e => by have := fl b e; first | (simp; done) | (simp; omega))
  have hox := kH7.sl hox (fun b e => by have := fox b e; first | (simp; done) | (simp; omega))
  have cA := kH7.cl cA (by first | (simp; done) | (simp; omega))
  have cB := kH7.cl cB (by first | (simp; done) | (simp; omega))
  have cD := kH7.cl cD (by first | (simp; done) | (simp; omega))
  have hacl := hacl.keepW kH7 (by omega)
  have cC : Cl H7 z2 [wa, .slice (some ⟨H2.next, 0, none⟩) (i + 1) (i + 1), iv g.r1, iv g.r2, iv g.f1, iv g.f2, iv g.g1, iv g.g2, iv g.full, iv g.base, iv g.kill, iv g.need, iv g.bear] := sH7
  refine wD_addo (b := z3) (o := 0) rfl ?_
  refine wD_st (b := z3) (o := 1) rfl rfl cD (by omega) rfl rfl (by simp) ?_
  intro H8 kH8 nH8 sH8
  have mH8 := kH8.1
  have hk := hk.new kH8 (fun b hb => by simp at hb ⊢; omega)
  have hwd := kH8.rd hwd (by first | (simp; done) | (simp; omega))
  have had := kH8.rd had (by first | (simp; done) | (simp; omega))
  have hl := kH8.sl hl (fun b e => by have := fl b e; first | (simp; done) | (simp; omega))
  have hox := kH8.sl hox (fun b e => by have := fox b e; first | (simp; done) | (simp; omega))
  have cA := kH8.cl cA (by first | (simp; done) | (simp; omega))
  have cB := kH8.cl cB (by first | (simp; done) | (simp; omega))
  have hacl := hacl.keepW kH8 (by omega)
  have cC := kH8.cl cC (by first | (simp; done) | (simp; omega))
  have cD : Cl H8 z3 [wb, .slice (some ⟨H5.next, 0, none⟩) (i + 1) (i + 1), iv g.r1, iv g.r2, iv g.f1, iv g.f2, iv g.g1, iv g.g2, iv g.full, iv g.base, iv g.kill, iv g.need, iv g.bear] := sH8
  refine wD_end (by rcases dH3 with rfl | ⟨bH3, rfl, hbH3⟩ <;> rcases dH6 with rfl | ⟨bH6, rfl, hbH6⟩ <;> repeat' first | exact True.intro | exact (fun h => h) | refine And.intro ?_ ?_ | (intro h; have h : (_ : Nat) = _ := h; omega)) ?_
  have hoc : spc ((g.as.map oneH).take (i + 1)) = spc ((g.as.map oneH).take i) ++ [iv y.2, iv y.2] := by rw [List.take_add_one, List.getElem?_map, hy]; simp [spc, oneL, oneH]
  have hod : spc ((g.as.map oneL).take (i + 1)) = spc ((g.as.map oneL).take i) ++ [iv y.1, iv y.1] := by rw [List.take_add_one, List.getElem?_map, hy]; simp [spc, oneL, oneH]
  have hacl : AcL lo ff 24 H8 [(wa, i + 1, spc ((g.ws.map oneL).take (i + 1))), (wb, i + 1, spc ((g.ws.map oneH).take (i + 1))), (.slice (some ⟨H2.next, 0, none⟩) (i + 1) (i + 1), i + 1, spc ((g.as.map oneH).take (i + 1))), (.slice (some ⟨H5.next, 0, none⟩) (i + 1) (i + 1), i + 1, spc ((g.as.map oneL).take (i + 1)))] := by rw [hoc, hod]; exact hacl
  exact hK _ H8 _ _ ⟨hk, .inr ⟨wb0, ewa, hwd, qw⟩, .inr ⟨ab, eaa, had, qa⟩, hl, hox, cA, cB, cC, cD, hacl, by omega⟩ ⟨rfl, rfl, rfl, rfl, rfl, rfl, rfl, rfl, rfl, rfl, rfl, rfl, trivial⟩
end
end Go.Ax

/-
  Late: the law LateEnds, whatever the input (written by program).
-/
namespace Go.Ax
open Go Go.RowKit Go.Proofs

section
variable {kn : FuncId → Option Bool} {lo : Nat} {H : Hp}
set_option maxRecDepth 100000 in
set_option maxHeartbeats 4000000 in
theorem law_ends (hkn : kn 14 = some true) (h48 : kn 48 = none) {g : Lt} (hw : Sl H g.wa g.wn g.wcap (spc g.ws)) (ha : Sl H g.aa g.an g.acap (spc g.as)) (hwl : g.ws.length = g.wn) (hal : g.as.length = g.an) {a b : Int} {la : Option Addr} {n cap : Nat} {us : List Int} (hl : Sl H la n cap (ints us)) (hul : us.length = n) (hlo : lo ≤ H.next) :
    ∃ H', FnX Try.prog kn lo 8 [.agg g.v.toArray, iv a, iv b, .slice la n cap] H (.bool true) H' := by
  have key := fnX_low (kn := kn) (lo := lo) (H := H) (args := [.agg g.v.toArray, iv a, iv b, .slice la n cap]) (Q := fun w H' => w = .bool true) Try.func8 B8 N8 Z8 L8 (by simp) ?_
  · obtain ⟨w, H', hf, rfl⟩ := key; exact ⟨H', hf⟩
  have al : ∀ (H9 : Hp) (K : Value → Hp → Prop), K (.bool true) H9 → ∃ v H', CallsX Try.prog kn lo (.fn (.func 14) #[]) [] H9 v H' ∧ K v H' := fun H9 K h => ⟨_, _, callX_known hkn, h⟩
  have hk := Keep.refl H []
  have fw := hw.old; have fa := ha.old; have fl := hl.old
  intro H1 hH1; obtain ⟨kH1, nH1, c1⟩ := new_facts hH1; clear hH1
  have mH1 := kH1.1
  have hk := hk.trans kH1
  have hw := kH1.sl0 hw
  have ha := kH1.sl0 ha
  have hl := kH1.sl0 hl
  have c1 : Cl H1 H.next [.slice g.wa g.wn g.wcap, .slice g.aa g.an g.acap, iv g.r1, iv g.r2, iv g.f1, iv g.f2, iv g.g1, iv g.g2, iv g.full, iv g.base, iv g.kill, iv g.need, iv g.bear] := c1
  refine Exists.intro _ (Exists.intro _ (And.intro c1.of (And.intro (show row 13 _ _ = some [.slice g.wa g.wn g.wcap, .slice g.aa g.an g.acap, iv g.r1, iv g.r2, iv g.f1, iv g.f2, iv g.g1, iv g.g2, iv g.full, iv g.base, iv g.kill, iv g.need, iv g.bear] from rfl) ?_)))
  refine callB (great_ok) ?_
  intro tH2 H2 hH2 kH2
  have mH2 := kH2.1
  have hk := hk.trans kH2
  have hw := kH2.sl0 hw
  have ha := kH2.sl0 ha
  have hl := kH2.sl0 hl
  have c1 := kH2.cl c1 (by simp)
  cases tH2
  · have hgr : g.wn ≤ 45 ∧ g.an ≤ 45 ∧ n ≤ 45 := by simp at hH2; omega
    refine condF ?_
    refine Exists.intro _ (Exists.intro _ (And.intro c1.of (And.intro (show row 13 _ _ = some [.slice g.wa g.wn g.wcap, .slice g.aa g.an g.acap, iv g.r1, iv g.r2, iv g.f1, iv g.f2, iv g.g1, iv g.g2, iv g.full, iv g.base, iv g.kill, iv g.need, iv g.bear] from rfl) ?_)))
    obtain ⟨wH3, H3, fH3, kH3, hc⟩ := oxygen_ok (kn := kn) (lo := lo) (H := H2) (g := g) (a := a) (b := b) (us := us) hw ha hwl hal (by omega) (by omega) hl hul (by omega) (by omega)
    have mH3 := kH3.1
    have hk := hk.trans kH3
    have hw := kH3.sl0 hw
    have ha := kH3.sl0 ha
    have hl := kH3.sl0 hl
    have c1 := kH3.cl c1 (by simp)
    rcases hc with ⟨hok, rfl⟩ | ⟨hok, hfs, rfl⟩ | ⟨hok, s, d, rfl, rfl, hsd, hset, oa, oc, rfl, hox, _⟩
    · refine Exists.intro _ (Exists.intro _ (And.intro (callX_args fH3) ?_))
      refine And.intro rfl (Exists.intro (.slice none 0 0) (And.intro (by kernel_rfl) ?_))
      refine And.intro rfl (Exists.intro (iv 1) (And.intro (by kernel_rfl) ?_))
      refine Exists.intro _ (Exists.intro _ (And.intro c1.of (And.intro (show row 13 _ _ = some [.slice g.wa g.wn g.wcap, .slice g.aa g.an g.acap, iv g.r1, iv g.r2, iv g.f1, iv g.f2, iv g.g1, iv g.g2, iv g.full, iv g.base, iv g.kill, iv g.need, iv g.bear] from rfl) ?_)))
      obtain ⟨wH4, H4, fH4, kH4, hw15⟩ := warmth_ok (kn := kn) (lo := lo) (H := H3) (g := g) (a := a) (b := b) h48 hw ha hwl hal (by omega) (by omega) (by omega)
      have mH4 := kH4.1
      have hk := hk.trans kH4
      have hw := kH4.sl0 hw
      have ha := kH4.sl0 ha
      have hl := kH4.sl0 hl
      have c1 := kH4.cl c1 (by simp)
      obtain ⟨u1, u2, u3, rfl⟩ := hw15.any
      refine Exists.intro _ (Exists.intro _ (And.intro (callX_args fH4) ?_))
      refine And.intro rfl (Exists.intro (.agg #[iv u1, iv u2]) (And.intro (by kernel_rfl) ?_))
      refine And.intro rfl (Exists.intro (iv u3) (And.intro (by kernel_rfl) ?_))
      intro H5 hH5; obtain ⟨kH5, nH5, c5⟩ := new_facts hH5; clear hH5
      have c5 : Cl H5 H4.next [iv 0, iv 0] := c5
      have mH5 := kH5.1
      have hk := hk.trans kH5
      have hw := kH5.sl0 hw
      have ha := kH5.sl0 ha
      have hl := kH5.sl0 hl
      have c1 := kH5.cl c1 (by simp)
      obtain ⟨_, eH6, lH6, gH6⟩ := id c5
      refine Exists.intro _ (Exists.intro _ (Exists.intro _ (And.intro gH6 (And.intro (by omega) (And.intro rfl (And.intro rfl (And.intro (by simp) ?_)))))))
      intro H6 hH6; obtain ⟨kH6, nH6, sH6⟩ := up_facts c5 hH6; clear hH6
      have mH6 := kH6.1
      have hk := hk.new kH6 (fun b hb => by simp at hb ⊢; omega)
      have hw := kH6.sl hw (fun b e => by have := fw b e; first | (simp; done) | (simp; omega))
      have ha := kH6.sl ha (fun b e => by have := fa b e; first | (simp; done) | (simp; omega))
      have hl := kH6.sl hl (fun b e => by have := fl b e; first | (simp; done) | (simp; omega))
      have c1 := kH6.cl c1 (by first | (simp; done) | (simp; omega))
      have c5 : Cl H6 H4.next [iv u1, iv u2] := sH6
      intro t1 g1; obtain rfl : t1 = true := by rw [← g1]; rfl
      refine And.intro rfl (Exists.intro (.bool true) (And.intro rfl ?_))
      refine condT ?_
      intro t2 g2; obtain rfl : t2 = true := by rw [← g2]; rfl
      refine al _ _ ?_
      refine And.intro rfl (Exists.intro (.bool true) (And.intro rfl ?_))
      exact And.intro trivial (Exists.intro _ (And.intro rfl rfl))
    · refine Exists.intro _ (Exists.intro _ (And.intro (callX_args fH3) ?_))
      refine And.intro rfl (Exists.intro (.slice none 0 0) (And.intro (by kernel_rfl) ?_))
      refine And.intro rfl (Exists.intro (iv 2) (And.intro (by kernel_rfl) ?_))
      refine Exists.intro _ (Exists.intro _ (And.intro c1.of (And.intro (show row 13 _ _ = some [.slice g.wa g.wn g.wcap, .slice g.aa g.an g.acap, iv g.r1, iv g.r2, iv g.f1, iv g.f2, iv g.g1, iv g.g2, iv g.full, iv g.base, iv g.kill, iv g.need, iv g.bear] from rfl) ?_)))
      obtain ⟨wH7, H7, fH7, kH7, hw15⟩ := warmth_ok (kn := kn) (lo := lo) (H := H3) (g := g) (a := a) (b := b) h48 hw ha hwl hal (by omega) (by omega) (by omega)
      have mH7 := kH7.1
      have hk := hk.trans kH7
      have hw := kH7.sl0 hw
      have ha := kH7.sl0 ha
      have hl := kH7.sl0 hl
      have c1 := kH7.cl c1 (by simp)
      obtain ⟨u1, u2, u3, rfl⟩ := hw15.any
      refine Exists.intro _ (Exists.intro _ (And.intro (callX_args fH7) ?_))
      refine And.intro rfl (Exists.intro (.agg #[iv u1, iv u2]) (And.intro (by kernel_rfl) ?_))
      refine And.intro rfl (Exists.intro (iv u3) (And.intro (by kernel_rfl) ?_))
      intro H8 hH8; obtain ⟨kH8, nH8, c8⟩ := new_facts hH8; clear hH8
      have c8 : Cl H8 H7.next [iv 0, iv 0] := c8
      have mH8 := kH8.1
      have hk := hk.trans kH8
      have hw := kH8.sl0 hw
      have ha := kH8.sl0 ha
      have hl := kH8.sl0 hl
      have c1 := kH8.cl c1 (by simp)
      obtain ⟨_, eH9, lH9, gH9⟩ := id c8
      refine Exists.intro _ (Exists.intro _ (Exists.intro _ (And.intro gH9 (And.intro (by omega) (And.intro rfl (And.intro rfl (And.intro (by simp) ?_)))))))
      intro H9 hH9; obtain ⟨kH9, nH9, sH9⟩ := up_facts c8 hH9; clear hH9
      have mH9 := kH9.1
      have hk := hk.new kH9 (fun b hb => by simp at hb ⊢; omega)
      have hw := kH9.sl hw (fun b e => by have := fw b e; first | (simp; done) | (simp; omega))
      have ha := kH9.sl ha (fun b e => by have := fa b e; first | (simp; done) | (simp; omega))
      have hl := kH9.sl hl (fun b e => by have := fl b e; first | (simp; done) | (simp; omega))
      have c1 := kH9.cl c1 (by first | (simp; done) | (simp; omega))
      have c8 : Cl H9 H7.next [iv u1, iv u2] := sH9
      intro t3 g3; obtain rfl : t3 = true := by rw [← g3]; rfl
      refine And.intro rfl (Exists.intro (.bool true) (And.intro rfl ?_))
      refine condT ?_
      intro t4 g4; obtain rfl : t4 = true := by rw [← g4]; rfl
      refine al _ _ ?_
      refine And.intro rfl (Exists.intro (.bool true) (And.intro rfl ?_))
      exact And.intro trivial (Exists.intro _ (And.intro rfl rfl))
    · have v := Lt.vd hok hwl hal; have hn40 := v.n40; have hnn := v.n; have hfu := v.fu; have hfi := v.f; have hgr2 := v.gr; have hrr := v.r; have fox : ∀ x, oa = some ⟨x, 0, none⟩ → x < H3.next := hox.old
      refine Exists.intro _ (Exists.intro _ (And.intro (callX_args fH3) ?_))
      refine And.intro rfl (Exists.intro (.slice oa d oc) (And.intro (by kernel_rfl) ?_))
      refine And.intro rfl (Exists.intro (iv 0) (And.intro (by kernel_rfl) ?_))
      refine Exists.intro _ (Exists.intro _ (And.intro c1.of (And.intro (show row 13 _ _ = some [.slice g.wa g.wn g.wcap, .slice g.aa g.an g.acap, iv g.r1, iv g.r2, iv g.f1, iv g.f2, iv g.g1, iv g.g2, iv g.full, iv g.base, iv g.kill, iv g.need, iv g.bear] from rfl) ?_)))
      obtain ⟨wH10, H10, fH10, kH10, hw15⟩ := warmth_ok (kn := kn) (lo := lo) (H := H3) (g := g) (a := (s : Int)) (b := (d : Int)) h48 hw ha hwl hal (by omega) (by omega) (by omega)
      have mH10 := kH10.1
      have hk := hk.trans kH10
      have hw := kH10.sl0 hw
      have ha := kH10.sl0 ha
      have hl := kH10.sl0 hl
      have c1 := kH10.cl c1 (by simp)
      have hox := kH10.sl0 hox
      obtain rfl := hw15.c2 hok hsd
      refine Exists.intro _ (Exists.intro _ (And.intro (callX_args fH10) ?_))
      refine And.intro rfl (Exists.intro (.agg #[iv (g.wl s d), iv (g.wh s d)]) (And.intro (by kernel_rfl) ?_))
      refine And.intro rfl (Exists.intro (iv 0) (And.intro (by kernel_rfl) ?_))
      intro H11 hH11; obtain ⟨kH11, nH11, c11⟩ := new_facts hH11; clear hH11
      have c11 : Cl H11 H10.next [iv 0, iv 0] := c11
      have mH11 := kH11.1
      have hk := hk.trans kH11
      have hw := kH11.sl0 hw
      have ha := kH11.sl0 ha
      have hl := kH11.sl0 hl
      have c1 := kH11.cl c1 (by simp)
      have hox := kH11.sl0 hox
      obtain ⟨_, eH12, lH12, gH12⟩ := id c11
      refine Exists.intro _ (Exists.intro _ (Exists.intro _ (And.intro gH12 (And.intro (by omega) (And.intro rfl (And.intro rfl (And.intro (by simp) ?_)))))))
      intro H12 hH12; obtain ⟨kH12, nH12, sH12⟩ := up_facts c11 hH12; clear hH12
      have mH12 := kH12.1
      have hk := hk.new kH12 (fun b hb => by simp at hb ⊢; omega)
      have hw := kH12.sl hw (fun b e => by have := fw b e; first | (simp; done) | (simp; omega))
      have ha := kH12.sl ha (fun b e => by have := fa b e; first | (simp; done) | (simp; omega))
      have hl := kH12.sl hl (fun b e => by have := fl b e; first | (simp; done) | (simp; omega))
      have c1 := kH12.cl c1 (by first | (simp; done) | (simp; omega))
      have hox := kH12.sl hox (fun b e => by have := fox b e; first | (simp; done) | (simp; omega))
      have c11 : Cl H12 H10.next [iv (g.wl s d), iv (g.wh s d)] := sH12
      intro t5 g5; obtain rfl : t5 = false := by rw [← g5]; rfl
      intro t6 g6; obtain rfl : t6 = false := by rw [← g6]; rfl
      refine And.intro rfl (Exists.intro (.bool false) (And.intro rfl ?_))
      refine condF ?_
      refine Exists.intro _ (Exists.intro _ (And.intro c1.of (And.intro (show row 13 _ _ = some [.slice g.wa g.wn g.wcap, .slice g.aa g.an g.acap, iv g.r1, iv g.r2, iv g.f1, iv g.f2, iv g.g1, iv g.g2, iv g.full, iv g.base, iv g.kill, iv g.need, iv g.bear] from rfl) ?_)))
      refine callB (late33_ok hw ha hwl hal (by omega) (by omega)) ?_
      intro tH13 H13 hH13 kH13
      obtain rfl : tH13 = true := by rw [← hH13]; exact hok
      have mH13 := kH13.1
      have hk := hk.trans kH13
      have hw := kH13.sl0 hw
      have ha := kH13.sl0 ha
      have hl := kH13.sl0 hl
      have c1 := kH13.cl c1 (by simp)
      have hox := kH13.sl0 hox
      have c11 := kH13.cl c11 (by simp)
      refine And.intro rfl (Exists.intro (.bool false) (And.intro rfl ?_))
      intro t7 g7; cases t7
      · have g7 : ¬ ((d : Int) ≠ (d : Int)) := by simpa using g7
        refine And.intro rfl (Exists.intro (.bool false) (And.intro rfl ?_))
        refine condF ?_
        refine wD_seq ?_
        refine wD_lda (b := H.next) (o := 0) rfl c1.rd (show row 13 _ _ = some [.slice g.wa g.wn g.wcap, .slice g.aa g.an g.acap, iv g.r1, iv g.r2, iv g.f1, iv g.f2, iv g.g1, iv g.g2, iv g.full, iv g.base, iv g.kill, iv g.need, iv g.bear] from rfl) ?_
        refine wD_lda (b := H.next) (o := 0) rfl c1.rd (show row 13 _ _ = some [.slice g.wa g.wn g.wcap, .slice g.aa g.an g.acap, iv g.r1, iv g.r2, iv g.f1, iv g.f2, iv g.g1, iv g.g2, iv g.full, iv g.base, iv g.kill, iv g.need, iv g.bear] from rfl) ?_
        refine wD_alc ?_
        intro H14 kH14 nH14 c14
        have c14 : Cl H14 H13.next [.slice none 0 0, .slice none 0 0, iv 0, iv 0, iv 0, iv 0, iv 0, iv 0, iv 0, iv 0, iv 0, iv 0, iv 0] := c14
        have mH14 := kH14.1
        have hk := hk.trans kH14
        have hw := kH14.sl0 hw
        have ha := kH14.sl0 ha
        have hl := kH14.sl0 hl
        have c1 := kH14.cl c1 (by simp)
        have hox := kH14.sl0 hox
        have c11 := kH14.cl c11 (by simp)
        refine wD_alc ?_
        intro H15 kH15 nH15 c15
        have c15 : Cl H15 H14.next [.slice none 0 0, .slice none 0 0, iv 0, iv 0, iv 0, iv 0, iv 0, iv 0, iv 0, iv 0, iv 0, iv 0, iv 0] := c15
        have mH15 := kH15.1
        have hk := hk.trans kH15
        have hw := kH15.sl0 hw
        have ha := kH15.sl0 ha
        have hl := kH15.sl0 hl
        have c1 := kH15.cl c1 (by simp)
        have hox := kH15.sl0 hox
        have c11 := kH15.cl c11 (by simp)
        have c14 := kH15.cl c14 (by simp)
        refine wD_sta (b := H13.next) (o := 0) rfl rfl c14 (by omega) rfl rfl (by simp) ?_
        intro H16 kH16 nH16 sH16
        have mH16 := kH16.1
        have hk := hk.new kH16 (fun b hb => by simp at hb ⊢; omega)
        have hw := kH16.sl hw (fun b e => by have := fw b e; first | (simp; done) | (simp; omega))
        have ha := kH16.sl ha (fun b e => by have := fa b e; first | (simp; done) | (simp; omega))
        have hl := kH16.sl hl (fun b e => by have := fl b e; first | (simp; done) | (simp; omega))
        have c1 := kH16.cl c1 (by first | (simp; done) | (simp; omega))
        have hox := kH16.sl hox (fun b e => by have := fox b e; first | (simp; done) | (simp; omega))
        have c11 := kH16.cl c11 (by first | (simp; done) | (simp; omega))
        have c15 := kH16.cl c15 (by first | (simp; done) | (simp; omega))
        have c14 : Cl H16 H13.next [.slice g.wa g.wn g.wcap, .slice g.aa g.an g.acap, iv g.r1, iv g.r2, iv g.f1, iv g.f2, iv g.g1, iv g.g2, iv g.full, iv g.base, iv g.kill, iv g.need, iv g.bear] := sH16
        refine wD_sta (b := H14.next) (o := 0) rfl rfl c15 (by omega) rfl rfl (by simp) ?_
        intro H17 kH17 nH17 sH17
        have mH17 := kH17.1
        have hk := hk.new kH17 (fun b hb => by simp at hb ⊢; omega)
        have hw := kH17.sl hw (fun b e => by have := fw b e; first | (simp; done) | (simp; omega))
        have ha := kH17.sl ha (fun b e => by have := fa b e; first | (simp; done) | (simp; omega))
        have hl := kH17.sl hl (fun b e => by have := fl b e; first | (simp; done) | (simp; omega))
        have c1 := kH17.cl c1 (by first | (simp; done) | (simp; omega))
        have hox := kH17.sl hox (fun b e => by have := fox b e; first | (simp; done) | (simp; omega))
        have c11 := kH17.cl c11 (by first | (simp; done) | (simp; omega))
        have c14 := kH17.cl c14 (by first | (simp; done) | (simp; omega))
        have c15 : Cl H17 H14.next [.slice g.wa g.wn g.wcap, .slice g.aa g.an g.acap, iv g.r1, iv g.r2, iv g.f1, iv g.f2, iv g.g1, iv g.g2, iv g.full, iv g.base, iv g.kill, iv g.need, iv g.bear] := sH17
        refine wD_end (by repeat' first | exact True.intro | exact (fun h => h) | refine And.intro ?_ ?_ | (intro h; have h : (_ : Nat) = _ := h; omega)) ?_
        obtain ⟨_, eH18, lH18, gH18⟩ := id c14
        refine Exists.intro _ (Exists.intro _ (Exists.intro _ (And.intro gH18 (And.intro (by omega) (And.intro rfl (And.intro rfl (And.intro (by simp) ?_)))))))
        intro H18 hH18; obtain ⟨kH18, nH18, sH18⟩ := up_facts c14 hH18; clear hH18
        have mH18 := kH18.1
        have hk := hk.new kH18 (fun b hb => by simp at hb ⊢; omega)
        have hw := kH18.sl hw (fun b e => by have := fw b e; first | (simp; done) | (simp; omega))
        have ha := kH18.sl ha (fun b e => by have := fa b e; first | (simp; done) | (simp; omega))
        have hl := kH18.sl hl (fun b e => by have := fl b e; first | (simp; done) | (simp; omega))
        have c1 := kH18.cl c1 (by first | (simp; done) | (simp; omega))
        have hox := kH18.sl hox (fun b e => by have := fox b e; first | (simp; done) | (simp; omega))
        have c11 := kH18.cl c11 (by first | (simp; done) | (simp; omega))
        have c15 := kH18.cl c15 (by first | (simp; done) | (simp; omega))
        have c14 : Cl H18 H13.next [.slice none 0 0, .slice g.aa g.an g.acap, iv g.r1, iv g.r2, iv g.f1, iv g.f2, iv g.g1, iv g.g2, iv g.full, iv g.base, iv g.kill, iv g.need, iv g.bear] := sH18
        obtain ⟨_, eH19, lH19, gH19⟩ := id c14
        refine Exists.intro _ (Exists.intro _ (Exists.intro _ (And.intro gH19 (And.intro (by omega) (And.intro rfl (And.intro rfl (And.intro (by simp) ?_)))))))
        intro H19 hH19; obtain ⟨kH19, nH19, sH19⟩ := up_facts c14 hH19; clear hH19
        have mH19 := kH19.1
        have hk := hk.new kH19 (fun b hb => by simp at hb ⊢; omega)
        have hw := kH19.sl hw (fun b e => by have := fw b e; first | (simp; done) | (simp; omega))
        have ha := kH19.sl ha (fun b e => by have := fa b e; first | (simp; done) | (simp; omega))
        have hl := kH19.sl hl (fun b e => by have := fl b e; first | (simp; done) | (simp; omega))
        have c1 := kH19.cl c1 (by first | (simp; done) | (simp; omega))
        have hox := kH19.sl hox (fun b e => by have := fox b e; first | (simp; done) | (simp; omega))
        have c11 := kH19.cl c11 (by first | (simp; done) | (simp; omega))
        have c15 := kH19.cl c15 (by first | (simp; done) | (simp; omega))
        have c14 : Cl H19 H13.next [.slice none 0 0, .slice none 0 0, iv g.r1, iv g.r2, iv g.f1, iv g.f2, iv g.g1, iv g.g2, iv g.full, iv g.base, iv g.kill, iv g.need, iv g.bear] := sH19
        obtain ⟨_, eH20, lH20, gH20⟩ := id c15
        refine Exists.intro _ (Exists.intro _ (Exists.intro _ (And.intro gH20 (And.intro (by omega) (And.intro rfl (And.intro rfl (And.intro (by simp) ?_)))))))
        intro H20 hH20; obtain ⟨kH20, nH20, sH20⟩ := up_facts c15 hH20; clear hH20
        have mH20 := kH20.1
        have hk := hk.new kH20 (fun b hb => by simp at hb ⊢; omega)
        have hw := kH20.sl hw (fun b e => by have := fw b e; first | (simp; done) | (simp; omega))
        have ha := kH20.sl ha (fun b e => by have := fa b e; first | (simp; done) | (simp; omega))
        have hl := kH20.sl hl (fun b e => by have := fl b e; first | (simp; done) | (simp; omega))
        have c1 := kH20.cl c1 (by first | (simp; done) | (simp; omega))
        have hox := kH20.sl hox (fun b e => by have := fox b e; first | (simp; done) | (simp; omega))
        have c11 := kH20.cl c11 (by first | (simp; done) | (simp; omega))
        have c14 := kH20.cl c14 (by first | (simp; done) | (simp; omega))
        have c15 : Cl H20 H14.next [.slice none 0 0, .slice g.aa g.an g.acap, iv g.r1, iv g.r2, iv g.f1, iv g.f2, iv g.g1, iv g.g2, iv g.full, iv g.base, iv g.kill, iv g.need, iv g.bear] := sH20
        obtain ⟨_, eH21, lH21, gH21⟩ := id c15
        refine Exists.intro _ (Exists.intro _ (Exists.intro _ (And.intro gH21 (And.intro (by omega) (And.intro rfl (And.intro rfl (And.intro (by simp) ?_)))))))
        intro H21 hH21; obtain ⟨kH21, nH21, sH21⟩ := up_facts c15 hH21; clear hH21
        have mH21 := kH21.1
        have hk := hk.new kH21 (fun b hb => by simp at hb ⊢; omega)
        have hw := kH21.sl hw (fun b e => by have := fw b e; first | (simp; done) | (simp; omega))
        have ha := kH21.sl ha (fun b e => by have := fa b e; first | (simp; done) | (simp; omega))
        have hl := kH21.sl hl (fun b e => by have := fl b e; first | (simp; done) | (simp; omega))
        have c1 := kH21.cl c1 (by first | (simp; done) | (simp; omega))
        have hox := kH21.sl hox (fun b e => by have := fox b e; first | (simp; done) | (simp; omega))
        have c11 := kH21.cl c11 (by first | (simp; done) | (simp; omega))
        have c14 := kH21.cl c14 (by first | (simp; done) | (simp; omega))
        have c15 : Cl H21 H14.next [.slice none 0 0, .slice none 0 0, iv g.r1, iv g.r2, iv g.f1, iv g.f2, iv g.g1, iv g.g2, iv g.full, iv g.base, iv g.kill, iv g.need, iv g.bear] := sH21
        refine Exists.intro _ (Exists.intro _ (And.intro c1.of (And.intro (show _ = some (.slice g.wa g.wn g.wcap) from rfl) ?_)))
        obtain ⟨z0, hz0⟩ : ∃ z, z = H.next := ⟨_, rfl⟩
        obtain ⟨z1, hz1⟩ : ∃ z, z = H10.next := ⟨_, rfl⟩
        obtain ⟨z2, hz2⟩ : ∃ z, z = H13.next := ⟨_, rfl⟩
        obtain ⟨z3, hz3⟩ : ∃ z, z = H14.next := ⟨_, rfl⟩
        obtain ⟨ff, hff⟩ : ∃ z, z = H21.next := ⟨_, rfl⟩
        have b36 : z0 < z1 ∧ z1 < z2 ∧ z2 < z3 ∧ z3 < ff ∧ H.next ≤ z0 := by omega
        have foxf : ∀ x, oa = some ⟨x, 0, none⟩ → x < z1 := fun x e => by have := fox x e; omega
        rw [← hz0] at c1
        rw [← hz1] at c11
        rw [← hz2] at c14
        rw [← hz3] at c15
        rw [← hz0, ← hz1, ← hz2, ← hz3]
        have hfm : ff ≤ H21.next := by omega
        clear hz0 hz1 hz2 hz3 hff
        have fox := foxf
        refine loop_lv E8_1 V8x1 (fun x0 : Value × Value × Value × Value × Nat => [(1, iv (s : Int)), (2, iv (d : Int)), (3, .slice la n cap), (4, pt z0), (9, .slice oa d oc), (11, pt z1), (13, .func (.func 36) #[] #[]), (14, pt z2), (15, pt z3), (73, iv (g.wn : Int)), (74, iv (x0.2.2.2.2 : Int))])
          (fun q x0 H' => x0.2.2.2.2 + q = g.wn ∧ EI lo H H' g la n cap us oa d oc s z0 z1 z2 z3 ff x0.1 x0.2.1 x0.2.2.1 x0.2.2.2.1 x0.2.2.2.2 x0.2.2.2.2) g.wn (.slice none 0 0, .slice none 0 0, .slice none 0 0, .slice none 0 0, 0) ⟨by show 0 + g.wn = g.wn; omega, hk, hw, ha, hl, hox, c1, c11, c14, c15, ⟨fun x hx => by simp at hx; rcases hx with rfl | rfl | rfl | rfl <;> exact .inl ⟨rfl, rfl, rfl⟩, by simp [Ap, bkv]⟩, hfm⟩ ⟨rfl, rfl, rfl, rfl, rfl, rfl, rfl, rfl, rfl, rfl, rfl, trivial⟩ ?_
        rintro q ⟨wa, wb, wc, wd, i⟩ L1 ⟨hik, hE⟩
        try simp only at hik
        try simp only at hE
        obtain ⟨hk, hw, ha, hl, hox, cA, cB, cC, cD, hacl, hfl⟩ := id hE
        have hm := hk.1; have l13 := cD.lt
        refine And.intro (fun q8 => ?_) (fun q8 => ?_)
        · have q8 : (i : Int) < (g.wn : Int) := of_decide_eq_true q8
          have hi : i < g.wn := by omega
          refine ends_A (kn := kn) (lo := lo) v hi hE b36 hlo fw fa fl fox ⟨rfl, rfl, rfl, rfl, rfl, rfl, rfl, rfl, rfl, rfl, rfl, rfl, trivial⟩ (fun S1 H1 wa1 wb1 hE1 hS1 => ?_)
          refine ends_B (kn := kn) (lo := lo) v hi hE1 b36 hlo fw fa fl fox hS1 (fun S2 H2 wc1 wd1 hE2 hS2 => ?_)
          refine tri_piece (S0 := [(1, iv (s : Int)), (2, iv (d : Int)), (3, .slice la n cap), (4, pt z0), (9, .slice oa d oc), (11, pt z1), (13, .func (.func 36) #[] #[]), (14, pt z2), (15, pt z3), (73, iv (g.wn : Int)), (74, iv (i : Int)), (16, iv (i : Int))]) L8C hS2 ?_
          refine And.intro (show InR ((i : Int) + 1) from ⟨by omega, by omega⟩) ?_
          exact ⟨q - 1, (wa1, wb1, wc1, wd1, i + 1), by omega, ⟨by show i + 1 + (q - 1) = g.wn; omega, hE2⟩, rfl, rfl, rfl, rfl, rfl, rfl, rfl, rfl, rfl, rfl, rfl, trivial⟩
        · have q8 : ¬ ((i : Int) < (g.wn : Int)) := of_decide_eq_false q8
          have hi : i = g.wn := by omega
          subst hi
          have ac1 : Acc lo ff 24 L1 wa g.wn (spc ((g.ws.map oneL).take g.wn)) := hacl.1 (wa, g.wn, spc ((g.ws.map oneL).take g.wn)) (by simp)
          have ac2 : Acc lo ff 24 L1 wb g.wn (spc ((g.ws.map oneH).take g.wn)) := hacl.1 (wb, g.wn, spc ((g.ws.map oneH).take g.wn)) (by simp)
          have ac3 : Acc lo ff 24 L1 wc g.wn (spc ((g.as.map oneH).take g.wn)) := hacl.1 (wc, g.wn, spc ((g.as.map oneH).take g.wn)) (by simp)
          have ac4 : Acc lo ff 24 L1 wd g.wn (spc ((g.as.map oneL).take g.wn)) := hacl.1 (wd, g.wn, spc ((g.as.map oneL).take g.wn)) (by simp)
          clear hacl hE
          obtain ⟨t1, q1, rfl, hsl1, gsl1⟩ := ac1.sl
          obtain ⟨t2, q2, rfl, hsl2, gsl2⟩ := ac2.sl
          obtain ⟨t3, q3, rfl, hsl3, gsl3⟩ := ac3.sl
          obtain ⟨t4, q4, rfl, hsl4, gsl4⟩ := ac4.sl
          rw [List.take_of_length_le (by rw [List.length_map]; omega)] at hsl1
          have fsl1 : ∀ b, t1 = some ⟨b, 0, none⟩ → ff ≤ b ∧ b < L1.next := fun b e => ⟨gsl1 b e, hsl1.old b e⟩
          rw [List.take_of_length_le (by rw [List.length_map]; omega)] at hsl2
          have fsl2 : ∀ b, t2 = some ⟨b, 0, none⟩ → ff ≤ b ∧ b < L1.next := fun b e => ⟨gsl2 b e, hsl2.old b e⟩
          rw [List.take_of_length_le (by rw [List.length_map]; omega)] at hsl3
          have fsl3 : ∀ b, t3 = some ⟨b, 0, none⟩ → ff ≤ b ∧ b < L1.next := fun b e => ⟨gsl3 b e, hsl3.old b e⟩
          rw [List.take_of_length_le (by rw [List.length_map]; omega)] at hsl4
          have fsl4 : ∀ b, t4 = some ⟨b, 0, none⟩ → ff ≤ b ∧ b < L1.next := fun b e => ⟨gsl4 b e, hsl4.old b e⟩
          refine wD_seq ?_
          refine wD_mov (v := .func (.func 36) #[] #[]) rfl ?_
          refine wD_addo (b := z0) (o := 0) rfl ?_
          refine wD_addo (b := z0) (o := 4) rfl ?_
          refine wD_ld (b := z0) (o := 5) (v := iv g.f2) rfl cA.rd rfl ?_
          obtain ⟨H22, fH22, kH22⟩ := one36_ok (kn := kn) (lo := L1.next) (H := L1) (a := g.f2) (by omega)
          refine wD_callh (vs := [iv g.f2]) rfl (by kernel_rfl) (callX_args fH22) ?_
          have mH22 := kH22.1
          have hk := hk.trans kH22
          have hw := kH22.sl0 hw
          have ha := kH22.sl0 ha
          have hl := kH22.sl0 hl
          have hox := kH22.sl0 hox
          have cA := kH22.cl cA (by simp)
          have cB := kH22.cl cB (by simp)
          have cC := kH22.cl cC (by simp)
          have cD := kH22.cl cD (by simp)
          have hsl1 := kH22.sl0 hsl1
          have hsl2 := kH22.sl0 hsl2
          have hsl3 := kH22.sl0 hsl3
          have hsl4 := kH22.sl0 hsl4
          refine wD_mov (v := .func (.func 36) #[] #[]) rfl ?_
          refine wD_addo (b := z0) (o := 0) rfl ?_
          refine wD_addo (b := z0) (o := 6) rfl ?_
          refine wD_ld (b := z0) (o := 7) (v := iv g.g2) rfl cA.rd rfl ?_
          obtain ⟨H23, fH23, kH23⟩ := one36_ok (kn := kn) (lo := H22.next) (H := H22) (a := g.g2) (by omega)
          refine wD_callh (vs := [iv g.g2]) rfl (by kernel_rfl) (callX_args fH23) ?_
          have mH23 := kH23.1
          have hk := hk.trans kH23
          have hw := kH23.sl0 hw
          have ha := kH23.sl0 ha
          have hl := kH23.sl0 hl
          have hox := kH23.sl0 hox
          have cA := kH23.cl cA (by simp)
          have cB := kH23.cl cB (by simp)
          have cC := kH23.cl cC (by simp)
          have cD := kH23.cl cD (by simp)
          have hsl1 := kH23.sl0 hsl1
          have hsl2 := kH23.sl0 hsl2
          have hsl3 := kH23.sl0 hsl3
          have hsl4 := kH23.sl0 hsl4
          refine wD_mov (v := .func (.func 36) #[] #[]) rfl ?_
          refine wD_addo (b := z0) (o := 0) rfl ?_
          refine wD_addo (b := z0) (o := 2) rfl ?_
          refine wD_ld (b := z0) (o := 2) (v := iv g.r1) rfl cA.rd rfl ?_
          obtain ⟨H24, fH24, kH24⟩ := one36_ok (kn := kn) (lo := lo) (H := H23) (a := g.r1) (by omega)
          refine wD_callf (vs := [iv g.r1]) rfl (callX_args fH24) ?_
          have mH24 := kH24.1
          have hk := hk.trans kH24
          have hw := kH24.sl0 hw
          have ha := kH24.sl0 ha
          have hl := kH24.sl0 hl
          have hox := kH24.sl0 hox
          have cA := kH24.cl cA (by simp)
          have cB := kH24.cl cB (by simp)
          have cC := kH24.cl cC (by simp)
          have cD := kH24.cl cD (by simp)
          have hsl1 := kH24.sl0 hsl1
          have hsl2 := kH24.sl0 hsl2
          have hsl3 := kH24.sl0 hsl3
          have hsl4 := kH24.sl0 hsl4
          refine wD_addo (b := z2) (o := 0) rfl ?_
          refine wD_sta (b := z2) (o := 4) rfl rfl cC (by omega) rfl rfl (by simp) ?_
          intro H25 kH25 nH25 sH25
          have mH25 := kH25.1
          have hk := hk.new kH25 (fun b hb => by simp at hb ⊢; omega)
          have hw := kH25.sl hw (fun b e => by have := fw b e; first | (simp; done) | (simp; omega))
          have ha := kH25.sl ha (fun b e => by have := fa b e; first | (simp; done) | (simp; omega))
          have hl := kH25.sl hl (fun b e => by have := fl b e; first | (simp; done) | (simp; omega))
          have hox := kH25.sl hox (fun b e => by have := fox b e; first | (simp; done) | (simp; omega))
          have cA := kH25.cl cA (by first | (simp; done) | (simp; omega))
          have cB := kH25.cl cB (by first | (simp; done) | (simp; omega))
          have cD := kH25.cl cD (by first | (simp; done) | (simp; omega))
          have hsl1 := kH25.sl hsl1 (fun b e => by have := fsl1 b e; first | (simp; done) | (simp; omega))
          have hsl2 := kH25.sl hsl2 (fun b e => by have := fsl2 b e; first | (simp; done) | (simp; omega))
          have hsl3 := kH25.sl hsl3 (fun b e => by have := fsl3 b e; first | (simp; done) | (simp; omega))
          have hsl4 := kH25.sl hsl4 (fun b e => by have := fsl4 b e; first | (simp; done) | (simp; omega))
          have cC : Cl H25 z2 [.slice t1 g.wn q1, .slice t3 g.wn q3, iv g.r1, iv g.r2, iv g.f2, iv g.f2, iv g.g1, iv g.g2, iv g.full, iv g.base, iv g.kill, iv g.need, iv g.bear] := sH25
          refine wD_addo (b := z2) (o := 0) rfl ?_
          refine wD_sta (b := z2) (o := 6) rfl rfl cC (by omega) rfl rfl (by simp) ?_
          intro H26 kH26 nH26 sH26
          have mH26 := kH26.1
          have hk := hk.new kH26 (fun b hb => by simp at hb ⊢; omega)
          have hw := kH26.sl hw (fun b e => by have := fw b e; first | (simp; done) | (simp; omega))
          have ha := kH26.sl ha (fun b e => by have := fa b e; first | (simp; done) | (simp; omega))
          have hl := kH26.sl hl (fun b e => by have := fl b e; first | (simp; done) | (simp; omega))
          have hox := kH26.sl hox (fun b e => by have := fox b e; first | (simp; done) | (simp; omega))
          have cA := kH26.cl cA (by first | (simp; done) | (simp; omega))
          have cB := kH26.cl cB (by first | (simp; done) | (simp; omega))
          have cD := kH26.cl cD (by first | (simp; done) | (simp; omega))
          have hsl1 := kH26.sl hsl1 (fun b e => by have := fsl1 b e; first | (simp; done) | (simp; omega))
          have hsl2 := kH26.sl hsl2 (fun b e => by have := fsl2 b e; first | (simp; done) | (simp; omega))
          have hsl3 := kH26.sl hsl3 (fun b e => by have := fsl3 b e; first | (simp; done) | (simp; omega))
          have hsl4 := kH26.sl hsl4 (fun b e => by have := fsl4 b e; first | (simp; done) | (simp; omega))
          have cC : Cl H26 z2 [.slice t1 g.wn q1, .slice t3 g.wn q3, iv g.r1, iv g.r2, iv g.f2, iv g.f2, iv g.g2, iv g.g2, iv g.full, iv g.base, iv g.kill, iv g.need, iv g.bear] := sH26
          refine wD_addo (b := z2) (o := 0) rfl ?_
          refine wD_sta (b := z2) (o := 2) rfl rfl cC (by omega) rfl rfl (by simp) ?_
          intro H27 kH27 nH27 sH27
          have mH27 := kH27.1
          have hk := hk.new kH27 (fun b hb => by simp at hb ⊢; omega)
          have hw := kH27.sl hw (fun b e => by have := fw b e; first | (simp; done) | (simp; omega))
          have ha := kH27.sl ha (fun b e => by have := fa b e; first | (simp; done) | (simp; omega))
          have hl := kH27.sl hl (fun b e => by have := fl b e; first | (simp; done) | (simp; omega))
          have hox := kH27.sl hox (fun b e => by have := fox b e; first | (simp; done) | (simp; omega))
          have cA := kH27.cl cA (by first | (simp; done) | (simp; omega))
          have cB := kH27.cl cB (by first | (simp; done) | (simp; omega))
          have cD := kH27.cl cD (by first | (simp; done) | (simp; omega))
          have hsl1 := kH27.sl hsl1 (fun b e => by have := fsl1 b e; first | (simp; done) | (simp; omega))
          have hsl2 := kH27.sl hsl2 (fun b e => by have := fsl2 b e; first | (simp; done) | (simp; omega))
          have hsl3 := kH27.sl hsl3 (fun b e => by have := fsl3 b e; first | (simp; done) | (simp; omega))
          have hsl4 := kH27.sl hsl4 (fun b e => by have := fsl4 b e; first | (simp; done) | (simp; omega))
          have cC : Cl H27 z2 [.slice t1 g.wn q1, .slice t3 g.wn q3, iv g.r1, iv g.r1, iv g.f2, iv g.f2, iv g.g2, iv g.g2, iv g.full, iv g.base, iv g.kill, iv g.need, iv g.bear] := sH27
          refine wD_end (by repeat' first | exact True.intro | exact (fun h => h) | refine And.intro ?_ ?_ | (intro h; have h : (_ : Nat) = _ := h; omega)) ?_
          refine wD_seq ?_
          refine wD_mov (v := .func (.func 36) #[] #[]) rfl ?_
          refine wD_addo (b := z0) (o := 0) rfl ?_
          refine wD_addo (b := z0) (o := 4) rfl ?_
          refine wD_ld (b := z0) (o := 4) (v := iv g.f1) rfl cA.rd rfl ?_
          obtain ⟨H28, fH28, kH28⟩ := one36_ok (kn := kn) (lo := H27.next) (H := H27) (a := g.f1) (by omega)
          refine wD_callh (vs := [iv g.f1]) rfl (by kernel_rfl) (callX_args fH28) ?_
          have mH28 := kH28.1
          have hk := hk.trans kH28
          have hw := kH28.sl0 hw
          have ha := kH28.sl0 ha
          have hl := kH28.sl0 hl
          have hox := kH28.sl0 hox
          have cA := kH28.cl cA (by simp)
          have cB := kH28.cl cB (by simp)
          have cD := kH28.cl cD (by simp)
          have hsl1 := kH28.sl0 hsl1
          have hsl2 := kH28.sl0 hsl2
          have hsl3 := kH28.sl0 hsl3
          have hsl4 := kH28.sl0 hsl4
          have cC := kH28.cl cC (by simp)
          refine wD_mov (v := .func (.func 36) #[] #[]) rfl ?_
          refine wD_addo (b := z0) (o := 0) rfl ?_
          refine wD_addo (b := z0) (o := 6) rfl ?_
          refine wD_ld (b := z0) (o := 6) (v := iv g.g1) rfl cA.rd rfl ?_
          obtain ⟨H29, fH29, kH29⟩ := one36_ok (kn := kn) (lo := H28.next) (H := H28) (a := g.g1) (by omega)
          refine wD_callh (vs := [iv g.g1]) rfl (by kernel_rfl) (callX_args fH29) ?_
          have mH29 := kH29.1
          have hk := hk.trans kH29
          have hw := kH29.sl0 hw
          have ha := kH29.sl0 ha
          have hl := kH29.sl0 hl
          have hox := kH29.sl0 hox
          have cA := kH29.cl cA (by simp)
          have cB := kH29.cl cB (by simp)
          have cD := kH29.cl cD (by simp)
          have hsl1 := kH29.sl0 hsl1
          have hsl2 := kH29.sl0 hsl2
          have hsl3 := kH29.sl0 hsl3
          have hsl4 := kH29.sl0 hsl4
          have cC := kH29.cl cC (by simp)
          refine wD_mov (v := .func (.func 36) #[] #[]) rfl ?_
          refine wD_addo (b := z0) (o := 0) rfl ?_
          refine wD_addo (b := z0) (o := 2) rfl ?_
          refine wD_ld (b := z0) (o := 3) (v := iv g.r2) rfl cA.rd rfl ?_
          obtain ⟨H30, fH30, kH30⟩ := one36_ok (kn := kn) (lo := lo) (H := H29) (a := g.r2) (by omega)
          refine wD_callf (vs := [iv g.r2]) rfl (callX_args fH30) ?_
          have mH30 := kH30.1
          have hk := hk.trans kH30
          have hw := kH30.sl0 hw
          have ha := kH30.sl0 ha
          have hl := kH30.sl0 hl
          have hox := kH30.sl0 hox
          have cA := kH30.cl cA (by simp)
          have cB := kH30.cl cB (by simp)
          have cD := kH30.cl cD (by simp)
          have hsl1 := kH30.sl0 hsl1
          have hsl2 := kH30.sl0 hsl2
          have hsl3 := kH30.sl0 hsl3
          have hsl4 := kH30.sl0 hsl4
          have cC := kH30.cl cC (by simp)
          refine wD_addo (b := z3) (o := 0) rfl ?_
          refine wD_sta (b := z3) (o := 4) rfl rfl cD (by omega) rfl rfl (by simp) ?_
          intro H31 kH31 nH31 sH31
          have mH31 := kH31.1
          have hk := hk.new kH31 (fun b hb => by simp at hb ⊢; omega)
          have hw := kH31.sl hw (fun b e => by have := fw b e; first | (simp; done) | (simp; omega))
          have ha := kH31.sl ha (fun b e => by have := fa b e; first | (simp; done) | (simp; omega))
          have hl := kH31.sl hl (fun b e => by have := fl b e; first | (simp; done) | (simp; omega))
          have hox := kH31.sl hox (fun b e => by have := fox b e; first | (simp; done) | (simp; omega))
          have cA := kH31.cl cA (by first | (simp; done) | (simp; omega))
          have cB := kH31.cl cB (by first | (simp; done) | (simp; omega))
          have hsl1 := kH31.sl hsl1 (fun b e => by have := fsl1 b e; first | (simp; done) | (simp; omega))
          have hsl2 := kH31.sl hsl2 (fun b e => by have := fsl2 b e; first | (simp; done) | (simp; omega))
          have hsl3 := kH31.sl hsl3 (fun b e => by have := fsl3 b e; first | (simp; done) | (simp; omega))
          have hsl4 := kH31.sl hsl4 (fun b e => by have := fsl4 b e; first | (simp; done) | (simp; omega))
          have cC := kH31.cl cC (by first | (simp; done) | (simp; omega))
          have cD : Cl H31 z3 [.slice t2 g.wn q2, .slice t4 g.wn q4, iv g.r1, iv g.r2, iv g.f1, iv g.f1, iv g.g1, iv g.g2, iv g.full, iv g.base, iv g.kill, iv g.need, iv g.bear] := sH31
          refine wD_addo (b := z3) (o := 0) rfl ?_
          refine wD_sta (b := z3) (o := 6) rfl rfl cD (by omega) rfl rfl (by simp) ?_
          intro H32 kH32 nH32 sH32
          have mH32 := kH32.1
          have hk := hk.new kH32 (fun b hb => by simp at hb ⊢; omega)
          have hw := kH32.sl hw (fun b e => by have := fw b e; first | (simp; done) | (simp; omega))
          have ha := kH32.sl ha (fun b e => by have := fa b e; first | (simp; done) | (simp; omega))
          have hl := kH32.sl hl (fun b e => by have := fl b e; first | (simp; done) | (simp; omega))
          have hox := kH32.sl hox (fun b e => by have := fox b e; first | (simp; done) | (simp; omega))
          have cA := kH32.cl cA (by first | (simp; done) | (simp; omega))
          have cB := kH32.cl cB (by first | (simp; done) | (simp; omega))
          have hsl1 := kH32.sl hsl1 (fun b e => by have := fsl1 b e; first | (simp; done) | (simp; omega))
          have hsl2 := kH32.sl hsl2 (fun b e => by have := fsl2 b e; first | (simp; done) | (simp; omega))
          have hsl3 := kH32.sl hsl3 (fun b e => by have := fsl3 b e; first | (simp; done) | (simp; omega))
          have hsl4 := kH32.sl hsl4 (fun b e => by have := fsl4 b e; first | (simp; done) | (simp; omega))
          have cC := kH32.cl cC (by first | (simp; done) | (simp; omega))
          have cD : Cl H32 z3 [.slice t2 g.wn q2, .slice t4 g.wn q4, iv g.r1, iv g.r2, iv g.f1, iv g.f1, iv g.g1, iv g.g1, iv g.full, iv g.base, iv g.kill, iv g.need, iv g.bear] := sH32
          refine wD_addo (b := z3) (o := 0) rfl ?_
          refine wD_sta (b := z3) (o := 2) rfl rfl cD (by omega) rfl rfl (by simp) ?_
          intro H33 kH33 nH33 sH33
          have mH33 := kH33.1
          have hk := hk.new kH33 (fun b hb => by simp at hb ⊢; omega)
          have hw := kH33.sl hw (fun b e => by have := fw b e; first | (simp; done) | (simp; omega))
          have ha := kH33.sl ha (fun b e => by have := fa b e; first | (simp; done) | (simp; omega))
          have hl := kH33.sl hl (fun b e => by have := fl b e; first | (simp; done) | (simp; omega))
          have hox := kH33.sl hox (fun b e => by have := fox b e; first | (simp; done) | (simp; omega))
          have cA := kH33.cl cA (by first | (simp; done) | (simp; omega))
          have cB := kH33.cl cB (by first | (simp; done) | (simp; omega))
          have hsl1 := kH33.sl hsl1 (fun b e => by have := fsl1 b e; first | (simp; done) | (simp; omega))
          have hsl2 := kH33.sl hsl2 (fun b e => by have := fsl2 b e; first | (simp; done) | (simp; omega))
          have hsl3 := kH33.sl hsl3 (fun b e => by have := fsl3 b e; first | (simp; done) | (simp; omega))
          have hsl4 := kH33.sl hsl4 (fun b e => by have := fsl4 b e; first | (simp; done) | (simp; omega))
          have cC := kH33.cl cC (by first | (simp; done) | (simp; omega))
          have cD : Cl H33 z3 [.slice t2 g.wn q2, .slice t4 g.wn q4, iv g.r2, iv g.r2, iv g.f1, iv g.f1, iv g.g1, iv g.g1, iv g.full, iv g.base, iv g.kill, iv g.need, iv g.bear] := sH33
          refine wD_end (by repeat' first | exact True.intro | exact (fun h => h) | refine And.intro ?_ ?_ | (intro h; have h : (_ : Nat) = _ := h; omega)) ?_
          refine Exists.intro _ (Exists.intro _ (And.intro cD.of (And.intro (show row 13 _ _ = some (g.hot t2 q2 t4 q4).v from rfl) ?_)))
          obtain ⟨ova, H34, fH34, kH34, hova⟩ := oxygen_at (kn := kn) (lo := lo) (H := H33) (g := (g.hot t2 q2 t4 q4)) hsl2 hsl4 (by show (g.ws.map _).length = _; rw [List.length_map]; exact hwl) (by show (g.as.map _).length = g.wn; rw [List.length_map]; omega) (by show g.wn ≤ 1000; omega) (by show g.wn ≤ 1000; omega) (Lt.ok_of (Lt.hot_vd v)) s d rfl rfl hsd hset hl hul (by omega) (by omega)
          have mH34 := kH34.1
          have hk := hk.trans kH34
          have hw := kH34.sl0 hw
          have ha := kH34.sl0 ha
          have hl := kH34.sl0 hl
          have hox := kH34.sl0 hox
          have cA := kH34.cl cA (by simp)
          have cB := kH34.cl cB (by simp)
          have hsl1 := kH34.sl0 hsl1
          have hsl2 := kH34.sl0 hsl2
          have hsl3 := kH34.sl0 hsl3
          have hsl4 := kH34.sl0 hsl4
          have cC := kH34.cl cC (by simp)
          have cD := kH34.cl cD (by simp)
          obtain ⟨pa, ra, rfl, hsa, _⟩ := hova.sl
          have fsa : ∀ x, pa = some ⟨x, 0, none⟩ → x < H34.next := hsa.old
          refine Exists.intro _ (Exists.intro _ (And.intro (callX_args fH34) ?_))
          refine And.intro rfl (Exists.intro (.slice pa d ra) (And.intro (by kernel_rfl) ?_))
          refine And.intro rfl (Exists.intro (iv 0) (And.intro (by kernel_rfl) ?_))
          refine Exists.intro _ (Exists.intro _ (And.intro cC.of (And.intro (show row 13 _ _ = some (g.cold t1 q1 t3 q3).v from rfl) ?_)))
          obtain ⟨ovb, H35, fH35, kH35, hovb⟩ := oxygen_at (kn := kn) (lo := lo) (H := H34) (g := (g.cold t1 q1 t3 q3)) hsl1 hsl3 (by show (g.ws.map _).length = _; rw [List.length_map]; exact hwl) (by show (g.as.map _).length = g.wn; rw [List.length_map]; omega) (by show g.wn ≤ 1000; omega) (by show g.wn ≤ 1000; omega) (Lt.ok_of (Lt.cold_vd v)) s d rfl rfl hsd hset hl hul (by omega) (by omega)
          have mH35 := kH35.1
          have hk := hk.trans kH35
          have hw := kH35.sl0 hw
          have ha := kH35.sl0 ha
          have hl := kH35.sl0 hl
          have hox := kH35.sl0 hox
          have cA := kH35.cl cA (by simp)
          have cB := kH35.cl cB (by simp)
          have hsl1 := kH35.sl0 hsl1
          have hsl2 := kH35.sl0 hsl2
          have hsl3 := kH35.sl0 hsl3
          have hsl4 := kH35.sl0 hsl4
          have cC := kH35.cl cC (by simp)
          have cD := kH35.cl cD (by simp)
          have hsa := kH35.sl0 hsa
          obtain ⟨pb, rb, rfl, hsb, _⟩ := hovb.sl
          have fsb : ∀ x, pb = some ⟨x, 0, none⟩ → x < H35.next := hsb.old
          refine Exists.intro _ (Exists.intro _ (And.intro (callX_args fH35) ?_))
          refine And.intro rfl (Exists.intro (.slice pb d rb) (And.intro (by kernel_rfl) ?_))
          refine And.intro rfl (Exists.intro (iv 0) (And.intro (by kernel_rfl) ?_))
          intro t9 g9; obtain rfl : t9 = false := by rw [← g9]; rfl
          intro t10 g10; obtain rfl : t10 = false := by rw [← g10]; rfl
          refine And.intro rfl (Exists.intro (.bool false) (And.intro rfl ?_))
          intro t11 g11; cases t11
          · have g11 : ¬ ((d : Int) ≠ (d : Int)) := by simpa using g11
            refine And.intro rfl (Exists.intro (.bool false) (And.intro rfl ?_))
            intro t12 g12; cases t12
            · have g12 : ¬ ((d : Int) ≠ (d : Int)) := by simpa using g12
              refine And.intro rfl (Exists.intro (.bool false) (And.intro rfl ?_))
              refine condF ?_
              refine loop_low (fn := Try.f8) E8_2 N8 L8x2 (fun i : Nat => [(1, iv (s : Int)), (2, iv (d : Int)), (11, pt z1), (13, .func (.func 36) #[] #[]), (14, pt z2), (15, pt z3), (17, .slice pa d ra), (19, .slice pb d rb), (200, .slice oa d oc), (201, iv (d : Int)), (202, iv (i : Int))])
                (fun k i H' => i + k = d ∧ Keep H35 H' []) d 0 ⟨by omega, Keep.refl _ _⟩ ⟨rfl, rfl, rfl, rfl, rfl, rfl, rfl, rfl, rfl, rfl, rfl, trivial⟩ ?_
              rintro k i L2 ⟨hik, hki⟩
              have hm2 := hki.1
              have hk := hk.trans hki
              have hw := hki.sl0 hw
              have ha := hki.sl0 ha
              have hl := hki.sl0 hl
              have hox := hki.sl0 hox
              have cA := hki.cl cA (by simp)
              have cB := hki.cl cB (by simp)
              have hsl1 := hki.sl0 hsl1
              have hsl2 := hki.sl0 hsl2
              have hsl3 := hki.sl0 hsl3
              have hsl4 := hki.sl0 hsl4
              have cC := hki.cl cC (by simp)
              have cD := hki.cl cD (by simp)
              have hsa := hki.sl0 hsa
              have hsb := hki.sl0 hsb
              have kb := hki
              refine And.intro (fun q13 => ?_) (fun q13 => ?_)
              · have q13 : (i : Int) < (d : Int) := of_decide_eq_true q13
                have hid : i < d := by omega
                rcases hox with ⟨_, h0, _⟩ | ⟨ob, rfl, rhox, _⟩
                · omega
                rcases hsa with ⟨_, h0, _⟩ | ⟨pab, rfl, rhsa, _⟩
                · omega
                rcases hsb with ⟨_, h0, _⟩ | ⟨pbb, rfl, rhsb, _⟩
                · omega
                have lob := rhox.lt; have lpa := rhsa.lt; have lpb := rhsb.lt
                have e1 : (g.hot t2 q2 t4 q4).lo s (Nat.testBit (dayMask us)) (i + 1) = g.lo s (Nat.testBit (dayMask us)) (i + 1) := Lt.hot_lo v _ (by omega)
                have e2 : (g.cold t1 q1 t3 q3).hi s (Nat.testBit (dayMask us)) (i + 1) = g.hi s (Nat.testBit (dayMask us)) (i + 1) := Lt.cold_hi v _ (by omega)
                refine Exists.intro i (And.intro rfl (And.intro hid ?_))
                refine Exists.intro _ (Exists.intro _ (And.intro rhox.of (And.intro (spc_row (Lt.ox_get hid)) ?_)))
                intro H36 hH36; obtain ⟨kH36, nH36, c36⟩ := new_facts hH36; clear hH36
                have c36 : Cl H36 L2.next [iv 0, iv 0] := c36
                have mH36 := kH36.1
                have hk := hk.trans kH36
                have hw := kH36.sl0 hw
                have ha := kH36.sl0 ha
                have hl := kH36.sl0 hl
                have cA := kH36.cl cA (by simp)
                have cB := kH36.cl cB (by simp)
                have hsl1 := kH36.sl0 hsl1
                have hsl2 := kH36.sl0 hsl2
                have hsl3 := kH36.sl0 hsl3
                have hsl4 := kH36.sl0 hsl4
                have cC := kH36.cl cC (by simp)
                have cD := kH36.cl cD (by simp)
                have kb := kb.trans kH36
                have rhox := kH36.rd rhox (by simp)
                have rhsa := kH36.rd rhsa (by simp)
                have rhsb := kH36.rd rhsb (by simp)
                obtain ⟨_, eH37, lH37, gH37⟩ := id c36
                refine Exists.intro _ (Exists.intro _ (Exists.intro _ (And.intro gH37 (And.intro (by omega) (And.intro rfl (And.intro rfl (And.intro (by simp) ?_)))))))
                intro H37 hH37; obtain ⟨kH37, nH37, sH37⟩ := up_facts c36 hH37; clear hH37
                have mH37 := kH37.1
                have hk := hk.new kH37 (fun b hb => by simp at hb ⊢; omega)
                have hw := kH37.sl hw (fun b e => by have := fw b e; first | (simp; done) | (simp; omega))
                have ha := kH37.sl ha (fun b e => by have := fa b e; first | (simp; done) | (simp; omega))
                have hl := kH37.sl hl (fun b e => by have := fl b e; first | (simp; done) | (simp; omega))
                have cA := kH37.cl cA (by first | (simp; done) | (simp; omega))
                have cB := kH37.cl cB (by first | (simp; done) | (simp; omega))
                have hsl1 := kH37.sl hsl1 (fun b e => by have := fsl1 b e; first | (simp; done) | (simp; omega))
                have hsl2 := kH37.sl hsl2 (fun b e => by have := fsl2 b e; first | (simp; done) | (simp; omega))
                have hsl3 := kH37.sl hsl3 (fun b e => by have := fsl3 b e; first | (simp; done) | (simp; omega))
                have hsl4 := kH37.sl hsl4 (fun b e => by have := fsl4 b e; first | (simp; done) | (simp; omega))
                have cC := kH37.cl cC (by first | (simp; done) | (simp; omega))
                have cD := kH37.cl cD (by first | (simp; done) | (simp; omega))
                have kb := kb.new kH37 (fun b hb => by simp at hb ⊢; omega)
                have rhox := kH37.rd rhox (by first | (simp; done) | (simp; omega))
                have rhsa := kH37.rd rhsa (by first | (simp; done) | (simp; omega))
                have rhsb := kH37.rd rhsb (by first | (simp; done) | (simp; omega))
                have c36 : Cl H37 L2.next [iv (g.lo s (Nat.testBit (dayMask us)) (i + 1)), iv (g.hi s (Nat.testBit (dayMask us)) (i + 1))] := sH37
                refine wD_seq ?_
                refine wD_mov (v := .slice (some ⟨pab, 0, none⟩) d ra) rfl ?_
                refine wD_mov (v := iv (i : Int)) rfl ?_
                refine wD_idx (b := pab) (o := 0) (k := i) (j := (i : Int)) rfl rfl rfl hid ?_
                refine wD_addo (b := pab) (o := 0 + i * 2) rfl ?_
                refine wD_ld (b := pab) (o := 0 + i * 2) (v := iv (g.lo s (Nat.testBit (dayMask us)) (i + 1))) rfl rhsa (by rw [← e1]; exact (span_get (Lt.ox_get hid)).1) ?_
                refine wD_addo (b := L2.next) (o := 0) rfl ?_
                refine wD_ld (b := L2.next) (o := 0) (v := iv (g.lo s (Nat.testBit (dayMask us)) (i + 1))) rfl c36.rd rfl ?_
                refine wD_b_neq (a := g.lo s (Nat.testBit (dayMask us)) (i + 1)) (b := g.lo s (Nat.testBit (dayMask us)) (i + 1)) rfl rfl ?_
                intro t14 g14; cases t14
                · have g14 : ¬ ((g.lo s (Nat.testBit (dayMask us)) (i + 1)) ≠ (g.lo s (Nat.testBit (dayMask us)) (i + 1))) := by simpa using g14
                  refine wD_mov (v := .bool false) rfl ?_
                  refine wD_g rfl (wD_mov (v := .slice (some ⟨pbb, 0, none⟩) d rb) rfl ?_)
                  refine wD_g rfl (wD_mov (v := iv (i : Int)) rfl ?_)
                  refine wD_g rfl (wD_idx (b := pbb) (o := 0) (k := i) (j := (i : Int)) rfl rfl rfl hid ?_)
                  refine wD_g rfl (wD_addo (b := pbb) (o := 0 + i * 2) rfl ?_)
                  refine wD_g rfl (wD_ld (b := pbb) (o := 0 + i * 2 + 1) (v := iv (g.hi s (Nat.testBit (dayMask us)) (i + 1))) rfl rhsb (by rw [← e2]; exact (span_get (Lt.ox_get hid)).2) ?_)
                  refine wD_g rfl (wD_addo (b := L2.next) (o := 0) rfl ?_)
                  refine wD_g rfl (wD_ld (b := L2.next) (o := 1) (v := iv (g.hi s (Nat.testBit (dayMask us)) (i + 1))) rfl c36.rd rfl ?_)
                  refine wD_g rfl (wD_b_neq (a := g.hi s (Nat.testBit (dayMask us)) (i + 1)) (b := g.hi s (Nat.testBit (dayMask us)) (i + 1)) rfl rfl ?_)
                  intro t15 g15; cases t15
                  · have g15 : ¬ ((g.hi s (Nat.testBit (dayMask us)) (i + 1)) ≠ (g.hi s (Nat.testBit (dayMask us)) (i + 1))) := by simpa using g15
                    refine wD_pur (v := .bool false) rfl rfl ?_
                    refine wD_end (by repeat' first | exact True.intro | exact (fun h => h) | refine And.intro ?_ ?_ | (intro h; have h : (_ : Nat) = _ := h; omega)) ?_
                    refine condF ?_
                    refine And.intro (show InR ((i : Int) + 1) from ⟨by omega, by omega⟩) ?_
                    exact ⟨k - 1, i + 1, by omega, ⟨by omega, kb⟩, rfl, rfl, rfl, rfl, rfl, rfl, rfl, rfl, rfl, rfl, rfl, trivial⟩
                  · have g15 : (g.hi s (Nat.testBit (dayMask us)) (i + 1)) ≠ (g.hi s (Nat.testBit (dayMask us)) (i + 1)) := by simpa using g15
                    exact absurd rfl g15
                · have g14 : (g.lo s (Nat.testBit (dayMask us)) (i + 1)) ≠ (g.lo s (Nat.testBit (dayMask us)) (i + 1)) := by simpa using g14
                  exact absurd rfl g14
              · have q13 : ¬ ((i : Int) < (d : Int)) := of_decide_eq_false q13
                refine Exists.intro _ (Exists.intro _ (And.intro cC.of (And.intro (show row 13 _ _ = some (g.cold t1 q1 t3 q3).v from rfl) ?_)))
                obtain ⟨wH38, H38, fH38, kH38, hw15⟩ := warmth_ok (kn := kn) (lo := lo) (H := L2) (g := (g.cold t1 q1 t3 q3)) (a := (s : Int)) (b := (d : Int)) h48 hsl1 hsl3 (by show (g.ws.map _).length = _; rw [List.length_map]; exact hwl) (by show (g.as.map _).length = g.wn; rw [List.length_map]; omega) (by show g.wn ≤ 1000; omega) (by show g.wn ≤ 1000; omega) (by omega)
                have mH38 := kH38.1
                have hk := hk.trans kH38
                have hw := kH38.sl0 hw
                have ha := kH38.sl0 ha
                have hl := kH38.sl0 hl
                have hox := kH38.sl0 hox
                have cA := kH38.cl cA (by simp)
                have cB := kH38.cl cB (by simp)
                have hsl1 := kH38.sl0 hsl1
                have hsl2 := kH38.sl0 hsl2
                have hsl3 := kH38.sl0 hsl3
                have hsl4 := kH38.sl0 hsl4
                have cC := kH38.cl cC (by simp)
                have cD := kH38.cl cD (by simp)
                have hsa := kH38.sl0 hsa
                have hsb := kH38.sl0 hsb
                obtain rfl : wH38 = .tuple #[spv (g.wl s d) (g.wl s d), iv 0] := by
                  have e1 := hw15.c2 (Lt.ok_of (Lt.cold_vd v)) hsd
                  have e2 := Lt.cold_w (a1 := t1) (c1 := q1) (a2 := t3) (c2 := q3) v d hsd
                  rw [e2.1, e2.2] at e1; exact e1
                refine Exists.intro _ (Exists.intro _ (And.intro (callX_args fH38) ?_))
                refine And.intro rfl (Exists.intro (.agg #[iv (g.wl s d), iv (g.wl s d)]) (And.intro (by kernel_rfl) ?_))
                refine And.intro rfl (Exists.intro (iv 0) (And.intro (by kernel_rfl) ?_))
                intro H39 hH39; obtain ⟨kH39, nH39, c39⟩ := new_facts hH39; clear hH39
                have c39 : Cl H39 H38.next [iv 0, iv 0] := c39
                have mH39 := kH39.1
                have hk := hk.trans kH39
                have hw := kH39.sl0 hw
                have ha := kH39.sl0 ha
                have hl := kH39.sl0 hl
                have hox := kH39.sl0 hox
                have cA := kH39.cl cA (by simp)
                have cB := kH39.cl cB (by simp)
                have hsl1 := kH39.sl0 hsl1
                have hsl2 := kH39.sl0 hsl2
                have hsl3 := kH39.sl0 hsl3
                have hsl4 := kH39.sl0 hsl4
                have cC := kH39.cl cC (by simp)
                have cD := kH39.cl cD (by simp)
                have hsa := kH39.sl0 hsa
                have hsb := kH39.sl0 hsb
                obtain ⟨_, eH40, lH40, gH40⟩ := id c39
                refine Exists.intro _ (Exists.intro _ (Exists.intro _ (And.intro gH40 (And.intro (by omega) (And.intro rfl (And.intro rfl (And.intro (by simp) ?_)))))))
                intro H40 hH40; obtain ⟨kH40, nH40, sH40⟩ := up_facts c39 hH40; clear hH40
                have mH40 := kH40.1
                have hk := hk.new kH40 (fun b hb => by simp at hb ⊢; omega)
                have hw := kH40.sl hw (fun b e => by have := fw b e; first | (simp; done) | (simp; omega))
                have ha := kH40.sl ha (fun b e => by have := fa b e; first | (simp; done) | (simp; omega))
                have hl := kH40.sl hl (fun b e => by have := fl b e; first | (simp; done) | (simp; omega))
                have hox := kH40.sl hox (fun b e => by have := fox b e; first | (simp; done) | (simp; omega))
                have cA := kH40.cl cA (by first | (simp; done) | (simp; omega))
                have cB := kH40.cl cB (by first | (simp; done) | (simp; omega))
                have hsl1 := kH40.sl hsl1 (fun b e => by have := fsl1 b e; first | (simp; done) | (simp; omega))
                have hsl2 := kH40.sl hsl2 (fun b e => by have := fsl2 b e; first | (simp; done) | (simp; omega))
                have hsl3 := kH40.sl hsl3 (fun b e => by have := fsl3 b e; first | (simp; done) | (simp; omega))
                have hsl4 := kH40.sl hsl4 (fun b e => by have := fsl4 b e; first | (simp; done) | (simp; omega))
                have cC := kH40.cl cC (by first | (simp; done) | (simp; omega))
                have cD := kH40.cl cD (by first | (simp; done) | (simp; omega))
                have hsa := kH40.sl hsa (fun b e => by have := fsa b e; first | (simp; done) | (simp; omega))
                have hsb := kH40.sl hsb (fun b e => by have := fsb b e; first | (simp; done) | (simp; omega))
                have c39 : Cl H40 H38.next [iv (g.wl s d), iv (g.wl s d)] := sH40
                refine Exists.intro _ (Exists.intro _ (And.intro cD.of (And.intro (show row 13 _ _ = some (g.hot t2 q2 t4 q4).v from rfl) ?_)))
                obtain ⟨wH41, H41, fH41, kH41, hw15⟩ := warmth_ok (kn := kn) (lo := lo) (H := H40) (g := (g.hot t2 q2 t4 q4)) (a := (s : Int)) (b := (d : Int)) h48 hsl2 hsl4 (by show (g.ws.map _).length = _; rw [List.length_map]; exact hwl) (by show (g.as.map _).length = g.wn; rw [List.length_map]; omega) (by show g.wn ≤ 1000; omega) (by show g.wn ≤ 1000; omega) (by omega)
                have mH41 := kH41.1
                have hk := hk.trans kH41
                have hw := kH41.sl0 hw
                have ha := kH41.sl0 ha
                have hl := kH41.sl0 hl
                have hox := kH41.sl0 hox
                have cA := kH41.cl cA (by simp)
                have cB := kH41.cl cB (by simp)
                have hsl1 := kH41.sl0 hsl1
                have hsl2 := kH41.sl0 hsl2
                have hsl3 := kH41.sl0 hsl3
                have hsl4 := kH41.sl0 hsl4
                have cC := kH41.cl cC (by simp)
                have cD := kH41.cl cD (by simp)
                have hsa := kH41.sl0 hsa
                have hsb := kH41.sl0 hsb
                have c39 := kH41.cl c39 (by simp)
                obtain rfl : wH41 = .tuple #[spv (g.wh s d) (g.wh s d), iv 0] := by
                  have e1 := hw15.c2 (Lt.ok_of (Lt.hot_vd v)) hsd
                  have e2 := Lt.hot_w (a1 := t2) (c1 := q2) (a2 := t4) (c2 := q4) v d hsd
                  rw [e2.1, e2.2] at e1; exact e1
                refine Exists.intro _ (Exists.intro _ (And.intro (callX_args fH41) ?_))
                refine And.intro rfl (Exists.intro (.agg #[iv (g.wh s d), iv (g.wh s d)]) (And.intro (by kernel_rfl) ?_))
                refine And.intro rfl (Exists.intro (iv 0) (And.intro (by kernel_rfl) ?_))
                intro H42 hH42; obtain ⟨kH42, nH42, c42⟩ := new_facts hH42; clear hH42
                have c42 : Cl H42 H41.next [iv 0, iv 0] := c42
                have mH42 := kH42.1
                have hk := hk.trans kH42
                have hw := kH42.sl0 hw
                have ha := kH42.sl0 ha
                have hl := kH42.sl0 hl
                have hox := kH42.sl0 hox
                have cA := kH42.cl cA (by simp)
                have cB := kH42.cl cB (by simp)
                have hsl1 := kH42.sl0 hsl1
                have hsl2 := kH42.sl0 hsl2
                have hsl3 := kH42.sl0 hsl3
                have hsl4 := kH42.sl0 hsl4
                have cC := kH42.cl cC (by simp)
                have cD := kH42.cl cD (by simp)
                have hsa := kH42.sl0 hsa
                have hsb := kH42.sl0 hsb
                have c39 := kH42.cl c39 (by simp)
                obtain ⟨_, eH43, lH43, gH43⟩ := id c42
                refine Exists.intro _ (Exists.intro _ (Exists.intro _ (And.intro gH43 (And.intro (by omega) (And.intro rfl (And.intro rfl (And.intro (by simp) ?_)))))))
                intro H43 hH43; obtain ⟨kH43, nH43, sH43⟩ := up_facts c42 hH43; clear hH43
                have mH43 := kH43.1
                have hk := hk.new kH43 (fun b hb => by simp at hb ⊢; omega)
                have hw := kH43.sl hw (fun b e => by have := fw b e; first | (simp; done) | (simp; omega))
                have ha := kH43.sl ha (fun b e => by have := fa b e; first | (simp; done) | (simp; omega))
                have hl := kH43.sl hl (fun b e => by have := fl b e; first | (simp; done) | (simp; omega))
                have hox := kH43.sl hox (fun b e => by have := fox b e; first | (simp; done) | (simp; omega))
                have cA := kH43.cl cA (by first | (simp; done) | (simp; omega))
                have cB := kH43.cl cB (by first | (simp; done) | (simp; omega))
                have hsl1 := kH43.sl hsl1 (fun b e => by have := fsl1 b e; first | (simp; done) | (simp; omega))
                have hsl2 := kH43.sl hsl2 (fun b e => by have := fsl2 b e; first | (simp; done) | (simp; omega))
                have hsl3 := kH43.sl hsl3 (fun b e => by have := fsl3 b e; first | (simp; done) | (simp; omega))
                have hsl4 := kH43.sl hsl4 (fun b e => by have := fsl4 b e; first | (simp; done) | (simp; omega))
                have cC := kH43.cl cC (by first | (simp; done) | (simp; omega))
                have cD := kH43.cl cD (by first | (simp; done) | (simp; omega))
                have hsa := kH43.sl hsa (fun b e => by have := fsa b e; first | (simp; done) | (simp; omega))
                have hsb := kH43.sl hsb (fun b e => by have := fsb b e; first | (simp; done) | (simp; omega))
                have c39 := kH43.cl c39 (by first | (simp; done) | (simp; omega))
                have c42 : Cl H43 H41.next [iv (g.wh s d), iv (g.wh s d)] := sH43
                refine wD_seq ?_
                refine wD_mov (v := iv 0) rfl ?_
                refine wD_b_eql (a := 0) (b := 0) rfl rfl ?_
                intro t16 g16; obtain rfl : t16 = true := by rw [← g16]; rfl
                refine wD_mov (v := .bool true) rfl ?_
                refine wD_g rfl (wD_mov (v := iv 0) rfl ?_)
                refine wD_g rfl (wD_b_eql (a := 0) (b := 0) rfl rfl ?_)
                intro t17 g17; obtain rfl : t17 = true := by rw [← g17]; rfl
                refine wD_pur (v := .bool true) rfl rfl ?_
                refine wD_mov (v := .bool true) rfl ?_
                refine wD_g rfl (wD_lda (b := H38.next) (o := 0) rfl c39.rd (show row 2 _ _ = some [iv (g.wl s d), iv (g.wl s d)] from rfl) ?_)
                refine wD_g rfl (wD_mov (v := .func (.func 36) #[] #[]) rfl ?_)
                refine wD_g rfl (wD_addo (b := z1) (o := 0) rfl ?_)
                refine wD_g rfl (wD_ld (b := z1) (o := 0) (v := iv (g.wl s d)) rfl cB.rd rfl ?_)
                obtain ⟨H44, fH44, kH44⟩ := one36_ok (kn := kn) (lo := H43.next) (H := H43) (a := g.wl s d) (by omega)
                refine wD_g rfl (wD_callh (vs := [iv (g.wl s d)]) rfl (by kernel_rfl) (callX_args fH44) ?_)
                have mH44 := kH44.1
                have hk := hk.trans kH44
                have hw := kH44.sl0 hw
                have ha := kH44.sl0 ha
                have hl := kH44.sl0 hl
                have hox := kH44.sl0 hox
                have cA := kH44.cl cA (by simp)
                have cB := kH44.cl cB (by simp)
                have hsl1 := kH44.sl0 hsl1
                have hsl2 := kH44.sl0 hsl2
                have hsl3 := kH44.sl0 hsl3
                have hsl4 := kH44.sl0 hsl4
                have cC := kH44.cl cC (by simp)
                have cD := kH44.cl cD (by simp)
                have hsa := kH44.sl0 hsa
                have hsb := kH44.sl0 hsb
                have c39 := kH44.cl c39 (by simp)
                have c42 := kH44.cl c42 (by simp)
                refine wD_g rfl (wD_pur (v := .bool true) rfl ((pure_eql24 (a := g.wl s d) (b := g.wl s d) (c := g.wl s d) (e := g.wl s d) rfl rfl).trans (by simp)) ?_)
                refine wD_pur (v := .bool true) rfl rfl ?_
                refine wD_mov (v := .bool true) rfl ?_
                refine wD_g rfl (wD_lda (b := H41.next) (o := 0) rfl c42.rd (show row 2 _ _ = some [iv (g.wh s d), iv (g.wh s d)] from rfl) ?_)
                refine wD_g rfl (wD_mov (v := .func (.func 36) #[] #[]) rfl ?_)
                refine wD_g rfl (wD_addo (b := z1) (o := 0) rfl ?_)
                refine wD_g rfl (wD_ld (b := z1) (o := 1) (v := iv (g.wh s d)) rfl cB.rd rfl ?_)
                obtain ⟨H45, fH45, kH45⟩ := one36_ok (kn := kn) (lo := H44.next) (H := H44) (a := g.wh s d) (by omega)
                refine wD_g rfl (wD_callh (vs := [iv (g.wh s d)]) rfl (by kernel_rfl) (callX_args fH45) ?_)
                have mH45 := kH45.1
                have hk := hk.trans kH45
                have hw := kH45.sl0 hw
                have ha := kH45.sl0 ha
                have hl := kH45.sl0 hl
                have hox := kH45.sl0 hox
                have cA := kH45.cl cA (by simp)
                have cB := kH45.cl cB (by simp)
                have hsl1 := kH45.sl0 hsl1
                have hsl2 := kH45.sl0 hsl2
                have hsl3 := kH45.sl0 hsl3
                have hsl4 := kH45.sl0 hsl4
                have cC := kH45.cl cC (by simp)
                have cD := kH45.cl cD (by simp)
                have hsa := kH45.sl0 hsa
                have hsb := kH45.sl0 hsb
                have c39 := kH45.cl c39 (by simp)
                have c42 := kH45.cl c42 (by simp)
                refine wD_g rfl (wD_pur (v := .bool true) rfl ((pure_eql24 (a := g.wh s d) (b := g.wh s d) (c := g.wh s d) (e := g.wh s d) rfl rfl).trans (by simp)) ?_)
                refine wD_pur (v := .bool true) rfl rfl ?_
                refine wD_mov (v := .bool true) rfl ?_
                refine wD_g rfl (wD_callf (vs := []) rfl (callX_known hkn) ?_)
                refine wD_pur (v := .bool true) rfl rfl ?_
                refine wD_mov (v := .bool true) rfl ?_
                refine wD_end (by repeat' first | exact True.intro | exact (fun h => h) | refine And.intro ?_ ?_ | (intro h; have h : (_ : Nat) = _ := h; omega)) ?_
                exact And.intro trivial (Exists.intro _ (And.intro rfl rfl))
            · have g12 : (d : Int) ≠ (d : Int) := by simpa using g12
              exact absurd rfl g12
          · have g11 : (d : Int) ≠ (d : Int) := by simpa using g11
            exact absurd rfl g11
      · have g7 : (d : Int) ≠ (d : Int) := by simpa using g7
        exact absurd rfl g7
  · refine condT ?_
    refine al _ _ ?_
    exact And.intro trivial (Exists.intro _ (And.intro rfl rfl))
end
end Go.Ax

namespace Go.Ax
open Go Go.RowKit Go.Proofs Go.ChangeShapes Go.WideShapes Go.Deep

/-- A type whose cells are whole numbers. -/
def IntT (P : Program) (t : TypeId) : Prop := ∀ (H : Type) (enc : TypeId × Value → H) (w : World) (base : Nat) (spare : Nat → Bool) (held : Bool) (fuel : Nat) (cs : List Value) (x : DataW H × List MemPlace),
  DataW.trod enc P w base spare held fuel t cs = some x → cs.length = P.cellsOf t ∧ ∀ j, j < cs.length → ∃ n, cs[j]? = some (.int .i64 n)
theorem IntT.int {P : Program} {t : TypeId} (ht : P.underlying t = some (.int .i64)) (hc : P.cellsOf t = 1) : IntT P t := by
  intro H enc w base spare held fuel cs x h
  obtain ⟨n, rfl, _⟩ := DataW.trod_int ht h
  refine ⟨by rw [hc]; rfl, fun j hj => ⟨n, ?_⟩⟩
  have : j = 0 := by simp at hj; omega
  subst this; rfl
theorem IntT.struct {P : Program} {t : TypeId} {fs : Array Field} (ht : P.underlying t = some (.struct fs)) (hf : ∀ f ∈ fs.toList, IntT P f.type)
    (hcov : ((List.range (P.cellsOf t)).all fun j => fs.toList.any fun f => decide (f.offset ≤ j) && decide (j < f.offset + P.cellsOf f.type)) = true) : IntT P t := by
  intro H enc w base spare held fuel cs x h
  obtain ⟨xs, n, _, _, hlen, hxl, hg⟩ := DataW.trod_struct ht h
  refine ⟨hlen, fun j hj => ?_⟩
  have h1 := List.all_eq_true.1 hcov j (List.mem_range.2 (by omega))
  obtain ⟨f, hfm, h2⟩ := List.any_eq_true.1 h1
  simp only [Bool.and_eq_true, decide_eq_true_eq] at h2
  obtain ⟨i, hi, hfi⟩ := List.getElem_of_mem hfm
  have hfs : fs[i]? = some f := by
    rw [← Array.getElem?_toList, List.getElem?_eq_getElem hi, hfi]
  have hi2 : i < xs.length := by simpa [hxl] using hi
  have h3 := hg i f hfs
  rw [List.getElem?_eq_getElem hi2] at h3
  obtain ⟨h4, h5⟩ := hf f hfm _ _ _ _ _ _ _ _ _ h3
  obtain ⟨m, hm⟩ := h5 (j - f.offset) (by omega)
  refine ⟨m, ?_⟩
  rw [List.getElem?_take] at hm
  split at hm
  · rw [List.getElem?_drop, show f.offset + (j - f.offset) = j by omega] at hm; exact hm
  · cases hm

/-- A slice of rows of whole numbers, as it is given. -/
structure Given {α : Type} (w : World) (v : Value) (f : α → List Value) (l : List α) (x : Imp) : Prop where
  ok : ∀ (i : Nat) u, x.cs[i]? = some u → w.cell? ⟨x.blk, x.off + i, none⟩ = some u ∧ flat1 u = true
  cs : x.cs = l.flatMap f
  v : (v = .slice none 0 0 ∧ l = []) ∨ ∃ cap, v = .slice (some ⟨x.blk, x.off, none⟩) l.length cap ∧ l.length ≤ cap
theorem flat_get {α : Type} {f : α → List Value} {k : Nat} (hk : 0 < k) : ∀ {l : List α} (_ : ∀ x ∈ l, (f x).length = k) (i : Nat) (u : Value), (l.flatMap f)[i]? = some u → ∃ x, l[i / k]? = some x ∧ (f x)[i % k]? = some u
  | [], _, i, u, h => by simp at h
  | y :: r, hl, i, u, h => by
    have hy := hl y (List.mem_cons_self ..)
    rw [List.flatMap_cons, List.getElem?_append] at h
    split at h
    · rename_i q
      rw [hy] at q
      refine ⟨y, ?_, ?_⟩
      · rw [Nat.div_eq_of_lt q]; rfl
      · rw [Nat.mod_eq_of_lt q]; exact h
    · rename_i q
      rw [hy] at q h
      obtain ⟨x, h1, h2⟩ := flat_get hk (fun x hx => hl x (List.mem_cons_of_mem _ hx)) _ u h
      refine ⟨x, ?_, ?_⟩
      · rw [Nat.div_eq_sub_div hk (by omega)]; exact h1
      · rw [Nat.mod_eq_sub_mod (by omega)]; exact h2
theorem slice_given {H : Type} {enc : TypeId × Value → H} {P : Program} {w : World} {base b0 : Nat} {r : Reach} {held : Bool} {α : Type} (f : α → List Value) (mk : (Nat → Int) → α) (k : Nat) {t e : TypeId} {fuel : Nat} {v : Value} {x : DataW H × List MemPlace}
    (ht : P.underlying t = some (.slice e)) (hI : IntT P e) (hc : P.cellsOf e = k) (hk : 0 < k) (hmk : ∀ N : Nat → Int, f (mk N) = (List.range k).map fun j => Value.int .i64 (N j))
    (hok : Cell.okWide P w r b0 t v) (h : DataW.trod enc P w base (fun _ => true) held fuel t [v] = some x) : ∃ (l : List α) (y : Imp), Given w v f l y := by
  rcases open_slice ht h with ⟨h0, _⟩ | ⟨a, len, cap, m, n, D, Pl, hcs, hb, hl, hm, hmm, hx, hi⟩
  · cases h0
    exact ⟨[], ⟨0, 0, []⟩, fun i u e => by simp at e, rfl, .inl ⟨rfl, rfl⟩⟩
  · cases hcs
    obtain ⟨blk, off, spot⟩ := a
    have hs : spot = none := by
      unfold Cell.okWide at hok
      rw [ht] at hok
      unfold Cell.ok at hok
      simp only [ht] at hok
      exact hok.2.2.2.1
    subst hs
    simp only [if_true] at hmm
    subst hmm
    have hcell : ∀ i, i < len → ∀ j, j < k → ∃ n, w.cell? ⟨blk, off + (i * k + j), none⟩ = some (.int .i64 n) := by
      intro i hil j hj
      obtain ⟨cs', h1, h2⟩ := hi i (by omega)
      obtain ⟨h3, h4⟩ := hI _ _ _ _ _ _ _ _ _ h2
      obtain ⟨_, h5, h6⟩ := World.cells?_some h1
      obtain ⟨n, hn⟩ := h4 j (by omega)
      refine ⟨n, ?_⟩
      have h7 := h6 j (by omega)
      rw [hn, hc, add_add] at h7
      have e : (⟨blk, off, none⟩ : Addr).add (i * k + j) = ⟨blk, off + (i * k + j), none⟩ := by
        unfold Addr.add
        by_cases q : i * k + j = 0
        · simp [q]
        · simp
      rw [e] at h7
      exact h7
    refine ⟨(List.range len).map fun i => mk fun j => match w.cell? ⟨blk, off + (i * k + j), none⟩ with | some (.int _ n) => n | _ => 0, ⟨blk, off, _⟩, ?_, rfl, .inr ⟨m, by simp, by simpa using hl⟩⟩
    intro i u hu
    obtain ⟨y, h1, h2⟩ := flat_get hk (fun y hy => by
      obtain ⟨i, _, rfl⟩ := List.mem_map.1 hy
      rw [hmk]; simp) i u hu
    have hlt : i / k < len := by
      have := get_lt h1
      simpa using this
    rw [List.getElem?_map, List.getElem?_range hlt] at h1
    simp only [Option.map_some, Option.some.injEq] at h1
    subst h1
    have hj : i % k < k := Nat.mod_lt _ hk
    rw [hmk, List.getElem?_map, List.getElem?_range hj] at h2
    simp only [Option.map_some, Option.some.injEq] at h2
    obtain ⟨n, hn⟩ := hcell _ hlt _ hj
    rw [hn] at h2
    subst h2
    rw [Nat.div_add_mod' ] at hn
    exact ⟨hn, rfl⟩
theorem flat_ints (us : List Int) : us.flatMap (fun x => [iv x]) = ints us := by
  induction us with
  | nil => rfl
  | cons u us ih => rw [List.flatMap_cons, ih]; rfl
end Go.Ax

/-! Slices of rows of plain cells, as arguments. -/
namespace Go.Ax
open Go Go.RowKit Go.Proofs Go.ChangeShapes Go.WideShapes Go.Deep

theorem IntT.row {α : Type} {P : Program} {t : TypeId} {k : Nat} {f : α → List Value} {mk : (Nat → Int) → α} (h : IntT P t) (hc : P.cellsOf t = k) (hmk : ∀ N : Nat → Int, f (mk N) = (List.range k).map fun j => Value.int .i64 (N j))
    {H : Type} {enc : TypeId × Value → H} {w : World} {base : Nat} {spare : Nat → Bool} {held : Bool} (fuel : Nat) (cs : List Value) (x : DataW H × List MemPlace) (hx : DataW.trod enc P w base spare held fuel t cs = some x) : ∃ y : α, cs = f y ∧ True := by
  obtain ⟨h1, h2⟩ := h _ _ _ _ _ _ _ _ _ hx
  have : ∃ N : Nat → Int, ∀ j, j < cs.length → cs[j]? = some (.int .i64 (N j)) := by
    refine ⟨fun j => match cs[j]? with | some (.int _ n) => n | _ => 0, fun j hj => ?_⟩
    obtain ⟨n, hn⟩ := h2 j hj
    simp [hn]
  obtain ⟨N, hN⟩ := this
  refine ⟨mk N, ?_, trivial⟩
  rw [hmk]
  apply List.ext_getElem?
  intro j
  by_cases hj : j < k
  · rw [hN j (by omega), List.getElem?_map, List.getElem?_range hj]; rfl
  · rw [List.getElem?_eq_none (by omega), List.getElem?_eq_none (by simp; omega)]
end Go.Ax


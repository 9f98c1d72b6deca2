import Derived.Test.YtpdoogfafjjdkaaMb
import Derived.Test.YtpdoogfafjjdkaaAxW9
import Derived.Test.YtpdoogfafjjdkaaChecked
import Derived.Test.YtpdoogfafjjdkaaAxW10
import Derived.Test.YtpdoogfafjjdkaaAxO
import Derived.Deep.Slices
import Derived.Deep.Fields
import Derived.ChangeSame
set_option linter.all false
/-
  Late: Warmth and Tells (15, 19) (written by program).
-/
namespace Go.Ax
open Go Go.RowKit Go.Proofs

/-- what Warmth answers -/
def Lt.Wm (g : Lt) (a b : Int) (w : Value) : Prop :=
  (g.ok = false ∧ w = .tuple #[spv 0 0, iv 1]) ∨ (g.ok = true ∧ flB g a b = false ∧ w = .tuple #[spv 0 0, iv 2]) ∨ (g.ok = true ∧ ∃ s d : Nat, a = s ∧ b = d ∧ s + d ≤ g.wn ∧ w = .tuple #[spv (g.wl s d) (g.wh s d), iv 0])
/-- what Tells answers -/
def Lt.Tl (g : Lt) (a b : Int) (us : List Int) (w : Value) : Prop :=
  (g.ok = false ∧ w = .tuple #[iv 0, iv 0, iv 1]) ∨ (g.ok = true ∧ (flB g a b && setB a (a + b) us) = false ∧ w = .tuple #[iv 0, iv 0, iv 2]) ∨
  (g.ok = true ∧ ∃ s d : Nat, a = s ∧ b = d ∧ s + d ≤ g.wn ∧ setB s (s + d) us = true ∧ w = .tuple #[iv (sureV (decide (g.wl s d ≥ g.kill)) (decide (g.wh s d ≥ g.kill))), iv (sureV (decide (g.sm s (Nat.testBit (dayMask us)) d > g.bear)) (decide (g.sl s (Nat.testBit (dayMask us)) d > g.bear))), iv 0])
section
variable {kn : FuncId → Option Bool} {lo : Nat} {H : Hp}
theorem tells_ok (h48 : kn 48 = none) {g : Lt} {a b : Int} (hw : Sl H g.wa g.wn g.wcap (spc g.ws)) (ha : Sl H g.aa g.an g.acap (spc g.as)) (hwl : g.ws.length = g.wn) (hal : g.as.length = g.an) (hwn : g.wn ≤ 1000) (han : g.an ≤ 1000) {la : Option Addr} {n cap : Nat} {us : List Int} (hl : Sl H la n cap (ints us)) (hul : us.length = n) (hn : n ≤ 1000) (hlo : lo ≤ H.next) :
    ∃ w H', FnX Try.prog kn lo 19 [.agg g.v.toArray, iv a, iv b, .slice la n cap] H w H' ∧ Keep H H' [] ∧ g.Tl a b us w := by
  refine fnX_low (kn := kn) (lo := lo) (H := H) (args := [.agg g.v.toArray, iv a, iv b, .slice la n cap]) (Q := fun w H' => Keep H H' [] ∧ g.Tl a b us w) Try.func19 B19 N19 Z19 L19 (by simp) ?_
  have hk := Keep.refl H []
  have fw := hw.old; have fa := ha.old
  have fl := hl.old
  intro H1 hH1; obtain ⟨kH1, nH1, c1⟩ := new_facts hH1; clear hH1
  have mH1 := kH1.1
  have hk := hk.trans kH1
  have hw := kH1.sl0 hw
  have ha := kH1.sl0 ha
  have hl := kH1.sl0 hl
  have c1 : Cl H1 H.next [.slice g.wa g.wn g.wcap, .slice g.aa g.an g.acap, iv g.r1, iv g.r2, iv g.f1, iv g.f2, iv g.g1, iv g.g2, iv g.full, iv g.base, iv g.kill, iv g.need, iv g.bear] := c1
  refine Exists.intro _ (Exists.intro _ (And.intro c1.of (And.intro (show row 13 _ _ = some [.slice g.wa g.wn g.wcap, .slice g.aa g.an g.acap, iv g.r1, iv g.r2, iv g.f1, iv g.f2, iv g.g1, iv g.g2, iv g.full, iv g.base, iv g.kill, iv g.need, iv g.bear] from rfl) ?_)))
  obtain ⟨wH2, H2, fH2, kH2, hc⟩ := course_ok (kn := kn) (lo := lo) (H := H1) (g := g) (a := a) (b := b) (us := us) hw ha hwl hal hwn han hl hul hn (by omega)
  have mH2 := kH2.1
  have hk := hk.trans kH2
  have hw := kH2.sl0 hw
  have ha := kH2.sl0 ha
  have hl := kH2.sl0 hl
  have c1 := kH2.cl c1 (by simp)
  rcases hc with ⟨hok, rfl⟩ | ⟨hok, hfl, rfl⟩ | ⟨hok, s, d, rfl, rfl, hsd, hset, rfl⟩
  · refine Exists.intro _ (Exists.intro _ (And.intro (callX_args fH2) ?_))
    refine And.intro rfl (Exists.intro (.agg zeroC.toArray) (And.intro (by kernel_rfl) ?_))
    refine And.intro rfl (Exists.intro (iv 1) (And.intro (by kernel_rfl) ?_))
    intro H3 hH3; obtain ⟨kH3, nH3, c3⟩ := new_facts hH3; clear hH3
    have c3 : Cl H3 H2.next [.slice none 0 0, .slice none 0 0, iv 0, iv 0, iv 0, iv 0, iv 0, iv 0, iv 0, iv 0, iv 0, iv 0, iv 0, iv 0, iv 0, .int .u64 0] := c3
    have mH3 := kH3.1
    have hk := hk.trans kH3
    have hw := kH3.sl0 hw
    have ha := kH3.sl0 ha
    have hl := kH3.sl0 hl
    have c1 := kH3.cl c1 (by simp)
    obtain ⟨_, eH4, lH4, gH4⟩ := id c3
    refine Exists.intro _ (Exists.intro _ (Exists.intro _ (And.intro gH4 (And.intro (by omega) (And.intro rfl (And.intro rfl (And.intro (by simp) ?_)))))))
    intro H4 hH4; obtain ⟨kH4, nH4, sH4⟩ := up_facts c3 hH4; clear hH4
    have mH4 := kH4.1
    have hk := hk.new kH4 (fun b hb => by simp at hb ⊢; omega)
    have hw := kH4.sl hw (fun b e => by have := fw b e; first | (simp; done) | (simp; omega))
    have ha := kH4.sl ha (fun b e => by have := fa b e; first | (simp; done) | (simp; omega))
    have hl := kH4.sl hl (fun b e => by have := fl b e; first | (simp; done) | (simp; omega))
    have c1 := kH4.cl c1 (by first | (simp; done) | (simp; omega))
    have c3 : Cl H4 H2.next [.slice none 0 0, .slice none 0 0, iv 0, iv 0, iv 0, iv 0, iv 0, iv 0, iv 0, iv 0, iv 0, iv 0, iv 0, iv 0, iv 0, .int .u64 0] := sH4
    refine condT ?_
    exact And.intro trivial (Exists.intro _ (And.intro rfl ⟨hk, Or.inl ⟨hok, rfl⟩⟩))
  · refine Exists.intro _ (Exists.intro _ (And.intro (callX_args fH2) ?_))
    refine And.intro rfl (Exists.intro (.agg zeroC.toArray) (And.intro (by kernel_rfl) ?_))
    refine And.intro rfl (Exists.intro (iv 2) (And.intro (by kernel_rfl) ?_))
    intro H5 hH5; obtain ⟨kH5, nH5, c5⟩ := new_facts hH5; clear hH5
    have c5 : Cl H5 H2.next [.slice none 0 0, .slice none 0 0, iv 0, iv 0, iv 0, iv 0, iv 0, iv 0, iv 0, iv 0, iv 0, iv 0, iv 0, iv 0, iv 0, .int .u64 0] := c5
    have mH5 := kH5.1
    have hk := hk.trans kH5
    have hw := kH5.sl0 hw
    have ha := kH5.sl0 ha
    have hl := kH5.sl0 hl
    have c1 := kH5.cl c1 (by simp)
    obtain ⟨_, eH6, lH6, gH6⟩ := id c5
    refine Exists.intro _ (Exists.intro _ (Exists.intro _ (And.intro gH6 (And.intro (by omega) (And.intro rfl (And.intro rfl (And.intro (by simp) ?_)))))))
    intro H6 hH6; obtain ⟨kH6, nH6, sH6⟩ := up_facts c5 hH6; clear hH6
    have mH6 := kH6.1
    have hk := hk.new kH6 (fun b hb => by simp at hb ⊢; omega)
    have hw := kH6.sl hw (fun b e => by have := fw b e; first | (simp; done) | (simp; omega))
    have ha := kH6.sl ha (fun b e => by have := fa b e; first | (simp; done) | (simp; omega))
    have hl := kH6.sl hl (fun b e => by have := fl b e; first | (simp; done) | (simp; omega))
    have c1 := kH6.cl c1 (by first | (simp; done) | (simp; omega))
    have c5 : Cl H6 H2.next [.slice none 0 0, .slice none 0 0, iv 0, iv 0, iv 0, iv 0, iv 0, iv 0, iv 0, iv 0, iv 0, iv 0, iv 0, iv 0, iv 0, .int .u64 0] := sH6
    refine condT ?_
    exact And.intro trivial (Exists.intro _ (And.intro rfl ⟨hk, Or.inr (Or.inl ⟨hok, hfl, rfl⟩)⟩))
  · have v := Lt.vd hok hwl hal
    refine Exists.intro _ (Exists.intro _ (And.intro (callX_args fH2) ?_))
    refine And.intro rfl (Exists.intro (.agg (crs g s d (dayMask us)).toArray) (And.intro (by kernel_rfl) ?_))
    refine And.intro rfl (Exists.intro (iv 0) (And.intro (by kernel_rfl) ?_))
    intro H7 hH7; obtain ⟨kH7, nH7, c7⟩ := new_facts hH7; clear hH7
    have c7 : Cl H7 H2.next [.slice none 0 0, .slice none 0 0, iv 0, iv 0, iv 0, iv 0, iv 0, iv 0, iv 0, iv 0, iv 0, iv 0, iv 0, iv 0, iv 0, .int .u64 0] := c7
    have mH7 := kH7.1
    have hk := hk.trans kH7
    have hw := kH7.sl0 hw
    have ha := kH7.sl0 ha
    have hl := kH7.sl0 hl
    have c1 := kH7.cl c1 (by simp)
    obtain ⟨_, eH8, lH8, gH8⟩ := id c7
    refine Exists.intro _ (Exists.intro _ (Exists.intro _ (And.intro gH8 (And.intro (by omega) (And.intro rfl (And.intro rfl (And.intro (by simp) ?_)))))))
    intro H8 hH8; obtain ⟨kH8, nH8, sH8⟩ := up_facts c7 hH8; clear hH8
    have mH8 := kH8.1
    have hk := hk.new kH8 (fun b hb => by simp at hb ⊢; omega)
    have hw := kH8.sl hw (fun b e => by have := fw b e; first | (simp; done) | (simp; omega))
    have ha := kH8.sl ha (fun b e => by have := fa b e; first | (simp; done) | (simp; omega))
    have hl := kH8.sl hl (fun b e => by have := fl b e; first | (simp; done) | (simp; omega))
    have c1 := kH8.cl c1 (by first | (simp; done) | (simp; omega))
    have c7 : Cl H8 H2.next [.slice g.wa g.wn g.wcap, .slice g.aa g.an g.acap, iv g.r1, iv g.r2, iv g.f1, iv g.f2, iv g.g1, iv g.g2, iv g.full, iv g.base, iv g.kill, iv g.need, iv g.bear, iv (s : Int), iv (d : Int), .int .u64 ((dayMask us : Nat) : Int)] := sH8
    refine condF ?_
    refine Exists.intro _ (Exists.intro _ (And.intro c7.of (And.intro (show row 16 _ _ = some [.slice g.wa g.wn g.wcap, .slice g.aa g.an g.acap, iv g.r1, iv g.r2, iv g.f1, iv g.f2, iv g.g1, iv g.g2, iv g.full, iv g.base, iv g.kill, iv g.need, iv g.bear, iv (s : Int), iv (d : Int), .int .u64 ((dayMask us : Nat) : Int)] from rfl) ?_)))
    obtain ⟨H9, fH9, kH9⟩ := end_ok (kn := kn) (lo := lo) (H := H8) (m := dayMask us) h48 v hsd hw ha (by omega)
    refine Exists.intro _ (Exists.intro _ (And.intro (callX_args fH9) ?_))
    have mH9 := kH9.1
    have hk := hk.trans kH9
    have hw := kH9.sl0 hw
    have ha := kH9.sl0 ha
    have hl := kH9.sl0 hl
    have c1 := kH9.cl c1 (by simp)
    have c7 := kH9.cl c7 (by simp)
    have hwi := Lt.wl_in v d hsd
    have hsi := Lt.sl_in (g := g) (s := s) (F := (Nat.testBit (dayMask us))) d; have hmi := Lt.sm_in (g := g) (s := s) (F := (Nat.testBit (dayMask us))) d
    intro H10 hH10; obtain ⟨kH10, nH10, c10⟩ := new_facts hH10; clear hH10
    have c10 : Cl H10 H9.next [iv 0, iv 0, iv 0, iv 0, iv 0, iv 0, iv 0] := c10
    have mH10 := kH10.1
    have hk := hk.trans kH10
    have hw := kH10.sl0 hw
    have ha := kH10.sl0 ha
    have hl := kH10.sl0 hl
    have c1 := kH10.cl c1 (by simp)
    have c7 := kH10.cl c7 (by simp)
    obtain ⟨_, eH11, lH11, gH11⟩ := id c10
    refine Exists.intro _ (Exists.intro _ (Exists.intro _ (And.intro gH11 (And.intro (by omega) (And.intro rfl (And.intro rfl (And.intro (by simp) ?_)))))))
    intro H11 hH11; obtain ⟨kH11, nH11, sH11⟩ := up_facts c10 hH11; clear hH11
    have mH11 := kH11.1
    have hk := hk.new kH11 (fun b hb => by simp at hb ⊢; omega)
    have hw := kH11.sl hw (fun b e => by have := fw b e; first | (simp; done) | (simp; omega))
    have ha := kH11.sl ha (fun b e => by have := fa b e; first | (simp; done) | (simp; omega))
    have hl := kH11.sl hl (fun b e => by have := fl b e; first | (simp; done) | (simp; omega))
    have c1 := kH11.cl c1 (by first | (simp; done) | (simp; omega))
    have c7 := kH11.cl c7 (by first | (simp; done) | (simp; omega))
    have c10 : Cl H11 H9.next [iv (d : Int), iv (g.wl s d), iv (g.wh s d), iv (g.lo s (Nat.testBit (dayMask us)) d), iv (g.sl s (Nat.testBit (dayMask us)) d), iv (g.hi s (Nat.testBit (dayMask us)) d), iv (g.sm s (Nat.testBit (dayMask us)) d)] := sH11
    refine Exists.intro _ (Exists.intro _ (And.intro c10.of (And.intro (show _ = some (iv (g.wl s d)) from rfl) ?_)))
    refine Exists.intro _ (Exists.intro _ (And.intro c1.of (And.intro (show _ = some (iv g.kill) from rfl) ?_)))
    refine Exists.intro _ (Exists.intro _ (And.intro c10.of (And.intro (show _ = some (iv (g.wh s d)) from rfl) ?_)))
    refine Exists.intro _ (Exists.intro _ (And.intro c1.of (And.intro (show _ = some (iv g.kill) from rfl) ?_)))
    obtain ⟨H12, fH12, kH12⟩ := sure_ok (kn := kn) (lo := lo) (H := H11) (a := decide ((g.wl s d) ≥ g.kill)) (s := decide ((g.wh s d) ≥ g.kill))
    refine Exists.intro _ (Exists.intro _ (And.intro (callX_args fH12) ?_))
    have mH12 := kH12.1
    have hk := hk.trans kH12
    have hw := kH12.sl0 hw
    have ha := kH12.sl0 ha
    have hl := kH12.sl0 hl
    have c1 := kH12.cl c1 (by simp)
    have c7 := kH12.cl c7 (by simp)
    have c10 := kH12.cl c10 (by simp)
    refine Exists.intro _ (Exists.intro _ (And.intro c10.of (And.intro (show _ = some (iv (g.sm s (Nat.testBit (dayMask us)) d)) from rfl) ?_)))
    refine Exists.intro _ (Exists.intro _ (And.intro c1.of (And.intro (show _ = some (iv g.bear) from rfl) ?_)))
    refine Exists.intro _ (Exists.intro _ (And.intro c10.of (And.intro (show _ = some (iv (g.sl s (Nat.testBit (dayMask us)) d)) from rfl) ?_)))
    refine Exists.intro _ (Exists.intro _ (And.intro c1.of (And.intro (show _ = some (iv g.bear) from rfl) ?_)))
    obtain ⟨H13, fH13, kH13⟩ := sure_ok (kn := kn) (lo := lo) (H := H12) (a := decide ((g.sm s (Nat.testBit (dayMask us)) d) > g.bear)) (s := decide ((g.sl s (Nat.testBit (dayMask us)) d) > g.bear))
    refine Exists.intro _ (Exists.intro _ (And.intro (callX_args fH13) ?_))
    have mH13 := kH13.1
    have hk := hk.trans kH13
    have hw := kH13.sl0 hw
    have ha := kH13.sl0 ha
    have hl := kH13.sl0 hl
    have c1 := kH13.cl c1 (by simp)
    have c7 := kH13.cl c7 (by simp)
    have c10 := kH13.cl c10 (by simp)
    exact And.intro trivial (Exists.intro _ (And.intro rfl ⟨hk, Or.inr (Or.inr ⟨hok, s, d, rfl, rfl, hsd, hset, rfl⟩)⟩))
end
end Go.Ax

/-
  Late: the states with the iterator's own block; Oxygen (17) (written by program).
-/
namespace Go.Ax
open Go Go.RowKit Go.Proofs

noncomputable abbrev asg17 : Code := at_ Try.f17 [1, 1, 1, 1, 0, 1, 0, 0]
noncomputable abbrev body17 : Code := at_ Try.f17 [1, 1, 1, 1, 0, 1, 0, 1]
theorem se22 : sliceElem Try.prog 22 = some (24, 2) := by kernel_rfl
theorem z24 : zeroOf Try.prog 24 = some (.agg #[iv 0, iv 0]) := by kernel_rfl
theorem u22 : Try.prog.underlying 22 = some (.slice 24) := by kernel_rfl
structure OX where
  g : Lt
  s : Nat
  d : Nat
  m : Nat
  b12 : Nat
  bc : Nat
  r : Nat
structure OJ (X : OX) (lo : Nat) (H0 : Hp) (b k : Nat) (H' : Hp) : Prop where
  c12 : ∃ wv, Cl H' X.b12 [wv] ∧ Acc lo (b + 1) 24 H' wv (k - 1) (spc (X.g.ox X.s (Nat.testBit X.m) (k - 1)))
  cb : Rd H' X.bc (crs X.g X.s X.d X.m)
  hw : Sl H' X.g.wa X.g.wn X.g.wcap (spc X.g.ws)
  ha : Sl H' X.g.aa X.g.an X.g.acap (spc X.g.as)
  lp : Lp Try.prog H' (X.r + 1) .ready none 37 [(12, pt X.b12)] [27] asg17 body17 X.r
  lb : X.r + 1 < b
  ll : b < H'.next
  dfr : H'.t.get X.r = some (.dfr (some []))
  kp : Keep H0 H' []
structure OG (X : OX) (lo : Nat) (H0 : Hp) : Prop where
  o0 : H0.next ≤ X.b12
  ol : lo ≤ X.b12
  o1 : X.b12 < X.bc
  o2 : X.bc < X.r
theorem Acc.other {lo f : Nat} {e : TypeId} {H H1 : Hp} {v : Value} {n : Nat} {cs : List Value} (h : Acc lo f e H v n cs) {w : List Nat} (k : Keep H H1 w) (hw : ∀ b ∈ w, b < f) : Acc lo f e H1 v n cs :=
  h.imp id fun ⟨b, e1, h0, hf, hl, hn, hg⟩ => ⟨b, e1, h0, hf, hl, Nat.lt_of_lt_of_le hn k.1, by rw [k.2 b hn (fun q => by have := hw b q; omega)]; exact hg⟩
section
variable {kn : FuncId → Option Bool} {lo : Nat} {H : Hp}
/-- The states, one by one, with the block of the iterator's own: J holds ahead of the k-th one. -/
theorem iter_ok2 {g : Lt} (v : g.Vd) {s d m l bc : Nat} (hsd : s + d ≤ g.wn) (J : Nat → Nat → Hp → Prop) (hlo : lo ≤ H.next) (rc : Rd H bc (crs g s d m)) (hJ0 : ∀ b H1, Keep H H1 [] → H.next ≤ b → b < H1.next → J b 0 H1) (hJe : ∀ b k H1, J b k H1 → Rd H1 bc (crs g s d m) ∧ Sl H1 g.wa g.wn g.wcap (spc g.ws) ∧ Sl H1 g.aa g.an g.acap (spc g.as))
    (hJk : ∀ b k H1 H2, J b k H1 → Keep H1 H2 [b] → J b k H2) (hJn : ∀ b k H1, J b k H1 → H.next ≤ H1.next)
    (step : ∀ b k H1, k ≤ d → J b k H1 → ∃ H', CallsX Try.prog kn lo (.fn (.yield l) #[]) [.agg (g.st s (Nat.testBit m) k).toArray] H1 (.bool true) H' ∧ (∀ cs, Cl H1 b cs → Cl H' b cs) ∧ J b (k + 1) H') :
    ∃ b H', FnX Try.prog kn lo 63 [.func (.yield l) #[] #[], pt bc] H unit H' ∧ H.next ≤ b ∧ J b (d + 1) H' := by
  have key := fnX_low (kn := kn) (lo := lo) (H := H) (args := [.func (.yield l) #[] #[], pt bc]) (Q := fun w H' => w = unit ∧ ∃ b, H.next ≤ b ∧ J b (d + 1) H') Try.func63 B63 N63 Z63 L63 (by simp) ?_
  · obtain ⟨w, H', h, rfl, b, q⟩ := key; exact ⟨b, H', h, q⟩
  have hk := Keep.refl H []
  have hJm : ∀ b k H1 H2, J b k H1 → Keep H1 H2 [] → J b k H2 := fun b k H1 H2 j kk => hJk b k H1 H2 j (kk.mono (by simp))
  have lbc := rc.lt
  refine wD_seq ?_
  refine wD_addo (b := bc) (o := 0) rfl ?_
  refine wD_addo (b := bc) (o := 0) rfl ?_
  refine wD_lda (b := bc) (o := 4) rfl rc (show row 2 _ _ = some [iv g.f1, iv g.f2] from rfl) ?_
  obtain ⟨H1, fH1, kH1⟩ := bound64_ok (kn := kn) (lo := H.next) (H := H) (a := g.f1) (b := g.f2) (Nat.le_refl _)
  refine wD_callh (vs := [spv g.f1 g.f2]) rfl (by kernel_rfl) (callX_args fH1) ?_
  have mH1 := kH1.1
  have hk := hk.trans kH1
  have rc := kH1.rd rc (by simp)
  refine wD_addo (b := bc) (o := 0) rfl ?_
  refine wD_addo (b := bc) (o := 0) rfl ?_
  refine wD_lda (b := bc) (o := 4) rfl rc (show row 2 _ _ = some [iv g.f1, iv g.f2] from rfl) ?_
  obtain ⟨H2, fH2, kH2⟩ := bound65_ok (kn := kn) (lo := H1.next) (H := H1) (a := g.f1) (b := g.f2) (Nat.le_refl _)
  refine wD_callh (vs := [spv g.f1 g.f2]) rfl (by kernel_rfl) (callX_args fH2) ?_
  have mH2 := kH2.1
  have hk := hk.trans kH2
  have rc := kH2.rd rc (by simp)
  refine wD_pur (v := .agg #[iv 0, iv 0, iv 0, iv g.f1, iv 0, iv g.f2, iv 0]) rfl (by kernel_rfl) ?_
  refine wD_alc ?_
  intro H3 kH3 nH3 c3
  have c3 : Cl H3 H2.next [iv 0, iv 0, iv 0, iv 0, iv 0, iv 0, iv 0] := c3
  have mH3 := kH3.1
  have hk := hk.trans kH3
  have rc := kH3.rd rc (by simp)
  refine wD_sta (b := H2.next) (o := 0) rfl rfl c3 (by omega) rfl rfl (by simp) ?_
  intro H4 kH4 nH4 sH4
  have mH4 := kH4.1
  have hk := hk.new kH4 (fun b hb => by simp at hb ⊢; omega)
  have rc := kH4.rd rc (by first | (simp; done) | (simp; omega))
  have c3 : Cl H4 H2.next [iv 0, iv 0, iv 0, iv g.f1, iv 0, iv g.f2, iv 0] := sH4
  refine wD_end (by repeat' first | exact True.intro | exact (fun h => h) | refine And.intro ?_ ?_ | (intro h; have h : (_ : Nat) = _ := h; omega)) ?_
  have hb3 : H.next ≤ H2.next := by omega
  have hJs : J H2.next 0 H4 := hJ0 _ _ hk hb3 (by omega)
  generalize H2.next = b3 at *
  have c0 : Cl H4 b3 (g.st s (Nat.testBit m) 0) := c3
  refine loop_low (fn := Try.f63) E63_1 N63 L63x1 (fun k : Nat => [(0, .func (.yield l) #[] #[]), (1, pt bc), (3, pt b3)])
    (fun q k H' => k + q = d ∧ J b3 k H' ∧ Cl H' b3 (g.st s (Nat.testBit m) k)) d 0 ⟨by omega, hJs, c0⟩ ⟨rfl, rfl, rfl, trivial⟩ ?_
  rintro q k H5 ⟨hkq, hJ, c⟩
  refine Exists.intro _ (Exists.intro _ (And.intro c.of (And.intro (show _ = some (iv (k : Int)) from rfl) ?_)))
  refine Exists.intro _ (Exists.intro _ (And.intro (hJe b3 k H5 hJ).1.of (And.intro (show _ = some (iv (d : Int)) from rfl) ?_)))
  refine And.intro (fun hlt => ?_) (fun hge => ?_)
  · have hlt : k < d := by have := of_decide_eq_true hlt; omega
    refine Exists.intro _ (Exists.intro _ (And.intro c.of (And.intro (show row 7 _ 0 = some (g.st s (Nat.testBit m) k) from rfl) ?_)))
    obtain ⟨H6, f6, own, hj⟩ := step b3 k H5 (by omega) hJ
    refine Exists.intro _ (Exists.intro _ (And.intro f6 ?_))
    refine And.intro rfl (Exists.intro (.bool false) (And.intro rfl ?_))
    refine condF ?_
    have c6 := own _ c
    obtain ⟨r6, hw6, ha6⟩ := hJe b3 (k + 1) H6 hj
    refine Exists.intro _ (Exists.intro _ (And.intro r6.of (And.intro (show row 16 _ 0 = some (crs g s d m) from rfl) ?_)))
    refine Exists.intro _ (Exists.intro _ (And.intro c6.of (And.intro (show row 7 _ 0 = some (g.st s (Nat.testBit m) k) from rfl) ?_)))
    have hn6 := hJn _ _ _ hj
    obtain ⟨H7, f7, k7⟩ := day_ok (kn := kn) (lo := lo) (H := H6) (s := s) (d := d) (m := m) v (k := k) (by omega) hw6 ha6 (by omega)
    refine Exists.intro _ (Exists.intro _ (And.intro (callX_args f7) ?_))
    have c7 := k7.cl c6 (by simp)
    obtain ⟨_, e8, l8, g8⟩ := id c7
    refine Exists.intro _ (Exists.intro _ (Exists.intro _ (And.intro g8 (And.intro (by omega) (And.intro rfl (And.intro rfl (And.intro (by simp) ?_)))))))
    intro H8 hH8; obtain ⟨k8, n8, c8⟩ := up_facts c7 hH8; clear hH8
    have c8 : Cl H8 b3 (g.st s (Nat.testBit m) (k + 1)) := c8
    exact ⟨q - 1, k + 1, by omega, ⟨by omega, hJk _ _ _ _ (hJm _ _ _ _ hj k7) k8, c8⟩, rfl, rfl, rfl, trivial⟩
  · have hge : ¬ k < d := by have := of_decide_eq_false hge; omega
    have e : k = d := by omega
    subst e
    refine Exists.intro _ (Exists.intro _ (And.intro c.of (And.intro (show row 7 _ 0 = some (g.st s (Nat.testBit m) k) from rfl) ?_)))
    obtain ⟨H6, f6, own, hj⟩ := step b3 k H5 (Nat.le_refl _) hJ
    refine Exists.intro _ (Exists.intro _ (And.intro f6 ?_))
    exact And.intro trivial (Exists.intro _ (And.intro rfl ⟨rfl, b3, hb3, hj⟩))
theorem ox_round {X : OX} {H0 : Hp} (G : OG X lo H0) (v : X.g.Vd) (hsd : X.s + X.d ≤ X.g.wn) (fw : ∀ b, X.g.wa = some ⟨b, 0, none⟩ → b < H0.next) (fa : ∀ b, X.g.aa = some ⟨b, 0, none⟩ → b < H0.next) {b k : Nat} (hkd : k ≤ X.d) (j : OJ X lo H0 b k H) :
    ∃ H', CallsX Try.prog kn lo (.fn (.yield (X.r + 1)) #[]) [.agg (X.g.st X.s (Nat.testBit X.m) k).toArray] H (.bool true) H' ∧ (∀ cs, Cl H b cs → Cl H' b cs) ∧ OJ X lo H0 b (k + 1) H' := by
  have L1 : low Try.prog 37 asg17 = some R17x1 := N17 ▸ L17x1
  have L2 : low Try.prog 37 body17 = some R17x2 := N17 ▸ L17x2
  obtain ⟨o0, ol, o1, o2⟩ := G
  have hn40 := v.n40
  have key := yield_ok (kn := kn) (P := Try.prog) (lo := lo) (S1 := (27, .agg (X.g.st X.s (Nat.testBit X.m) k).toArray) :: [(12, pt X.b12)]) (args := [.agg (X.g.st X.s (Nat.testBit X.m) k).toArray]) (Q := fun t H' => t = true ∧ (∀ cs, Cl H b cs → Cl H' b cs) ∧ OJ X lo H0 b (k + 1) H') j.lp (by omega) (by rfl) rfl (wC_sound true _ L1 ?_)
  · obtain ⟨t, H', h, rfl, q⟩ := key; exact ⟨H', h, q⟩
  have ll := j.ll
  have lb := j.lb
  intro H1 hH1; obtain ⟨k1, n1, c1⟩ := new_facts hH1; clear hH1
  obtain ⟨_, e2, l2, g2⟩ := id c1
  refine Exists.intro _ (Exists.intro _ (Exists.intro _ (And.intro g2 (And.intro (by have := j.kp.1; omega) (And.intro rfl (And.intro rfl (And.intro (by simp) ?_)))))))
  intro H2 hH2; obtain ⟨k2, n2, c2⟩ := up_facts c1 hH2; clear hH2
  have c2 : Cl H2 H.next (X.g.st X.s (Nat.testBit X.m) k) := c2
  have k02 : Keep H H2 [] := k1.new k2 (fun b hb => .inr (by simp at hb; omega))
  have m02 := k02.1
  have lp2 := j.lp.keep k02 (by omega) (by simp)
  refine And.intro trivial (And.intro lp2 ?_)
  intro H4 s4
  have k4 := s4.keep
  have lp4 := s4.lp lp2
  have hn4 : H4.next = H2.next := s4.1
  have nl : ∀ x, x < X.r + 1 → x ∉ [X.r + 1] := fun x hx => by simp; omega
  have k04 : Keep H H4 [X.r + 1] := (k02.mono (by simp)).trans k4
  obtain ⟨wv, d12, acc⟩ := j.c12
  have d12 := k04.cl d12 (nl _ (by omega))
  have db := k04.rd j.cb (nl _ (by omega))
  have dw := k04.sl j.hw (fun b e => nl _ (by have := fw b e; omega))
  have da := k04.sl j.ha (fun b e => nl _ (by have := fa b e; omega))
  have c4 := k4.cl c2 (by simp; omega)
  have ddf : H4.t.get X.r = some (.dfr (some [])) := by rw [k04.2 X.r (by omega) (nl _ (by omega))]; exact j.dfr
  have kp4 : Keep H0 H4 [] := j.kp.new k04 (fun b hb => .inr (by simp at hb; omega))
  have acc := acc.other k04 (by intro b hb; simp at hb; omega)
  refine wC_sound true _ L2 ?_
  refine Exists.intro _ (Exists.intro _ (And.intro c4.of (And.intro (show _ = some (iv (k : Int)) from rfl) ?_)))
  rcases Nat.eq_zero_or_pos k with h0 | h0
  · subst h0
    refine condF ?_
    refine And.intro lp4 ?_
    intro H7 s7
    have k7 := s7.keep
    have hn7 : H7.next = H4.next := s7.1
    have k47 : Keep H H7 [X.r + 1] := k04.trans k7
    exact ⟨rfl, fun cs c => k47.cl c (by simp; omega), ⟨⟨wv, k7.cl d12 (nl _ (by omega)), acc.other k7 (by intro b hb; simp at hb; omega)⟩, k7.rd db (nl _ (by omega)), k7.sl dw (fun b e => nl _ (by have := fw b e; omega)), k7.sl da (fun b e => nl _ (by have := fa b e; omega)), s7.lp lp4, lb, by omega, by rw [k7.2 X.r (by omega) (nl _ (by omega))]; exact ddf, kp4.new k7 (fun b hb => .inr (by simp at hb; omega))⟩⟩
  · have hg : decide ((k : Int) > 0) = true := decide_eq_true (by omega)
    refine And.intro (fun _ => ?_) (fun h => by rw [hg] at h; cases h)
    refine wD_dreg ?_
    refine wD_ld (v := wv) rfl d12.rd rfl ?_
    refine wD_lda rfl c4.rd (show row 7 _ 0 = some (X.g.st X.s (Nat.testBit X.m) k) from rfl) ?_
    obtain ⟨H5, f5, k5⟩ := span42_ok (kn := kn) (lo := H4.next) (H := H4) (n := (k : Int)) (a := X.g.wl X.s k) (b := X.g.wh X.s k) (l := X.g.lo X.s (Nat.testBit X.m) k) (p := X.g.sl X.s (Nat.testBit X.m) k) (h := X.g.hi X.s (Nat.testBit X.m) k) (q := X.g.sm X.s (Nat.testBit X.m) k) (Nat.le_refl _)
    refine wD_callh (vs := [.agg (X.g.st X.s (Nat.testBit X.m) k).toArray]) rfl (by kernel_rfl) (callX_args f5) ?_
    have m5 := k5.1
    obtain ⟨H6, hH6⟩ : ∃ H6, H5.new (.cells [iv (X.g.lo X.s (Nat.testBit X.m) k), iv (X.g.hi X.s (Nat.testBit X.m) k)] 24 false) = H6 := ⟨_, rfl⟩
    refine wD_memh (H' := H6) (k := .heavy) rfl (by kernel_rfl) ((heap_build1 (v := spv (X.g.lo X.s (Nat.testBit X.m) k) (X.g.hi X.s (Nat.testBit X.m) k)) se22 z24 rfl rfl rfl (by decide)).trans (by rw [← hH6]; rfl)) (fun b e => by cases e) ?_
    obtain ⟨k6, n6, c6⟩ := new_facts hH6; clear hH6
    have m6 := k6.1
    have k46 := k5.trans k6
    obtain ⟨H7, kd7, e7, d7, a7, kb7⟩ := heap_append_below (P := Try.prog) (lo := lo) (k := k - 1) (t1 := 22) se22 u22 (c6.sl (Nat.le_refl 1)) rfl (by decide) rfl (by rw [spc_len, Lt.ox_len]) (by omega) (acc.keep k46) (by have := j.kp.1; omega) (by omega)
    refine wD_memh (k := kd7) rfl (by cases wv <;> kernel_rfl) (e7 _ _ _ _ _ _ _ rfl rfl) (reg_ok d7 _) ?_
    have m7 := kb7.1
    have e12 := kb7.cl (k46.cl d12 (by simp)) (by omega)
    refine wD_st (b := X.b12) (o := 0) rfl rfl e12 ol rfl rfl (by simp) ?_
    intro H8 k8 n8 c8
    have c8 : Cl H8 X.b12 [.slice (some ⟨H6.next, 0, none⟩) (k - 1 + 1) (k - 1 + 1)] := c8
    refine wD_end (by rcases d7 with rfl | ⟨b7, rfl, hb7⟩ <;> repeat' first | exact True.intro | exact (fun h => h) | refine And.intro ?_ ?_ | (intro h; have h : (_ : Nat) = _ := h; omega)) ?_
    have n12 : ∀ x, x ≠ X.b12 → x ∉ [X.b12] := fun x hx => by simpa using hx
    have lp5 : Lp Try.prog H8 (X.r + 1) .busy none 37 [(12, pt X.b12)] [27] asg17 body17 X.r := by
      obtain ⟨fn, T, q1, q2, q3⟩ := lp4.keep k46 (by omega) (by simp)
      exact ⟨fn, T, by rw [k8.2 (X.r + 1) (by omega) (n12 _ (by omega)), kb7.2 (X.r + 1) (by omega)]; exact q1, q2, q3⟩
    refine And.intro lp5 ?_
    intro H9 s9
    have k9 := s9.keep
    have hn9 : H9.next = H8.next := s9.1
    have ek : k - 1 + 1 = k := by omega
    have eox : spc (X.g.ox X.s (Nat.testBit X.m) (k + 1 - 1)) = spc (X.g.ox X.s (Nat.testBit X.m) (k - 1)) ++ [iv (X.g.lo X.s (Nat.testBit X.m) k), iv (X.g.hi X.s (Nat.testBit X.m) k)] := by
      have e : k + 1 - 1 = (k - 1) + 1 := by omega
      rw [e, Lt.ox_succ, ek]; simp [spc]
    have accN : Acc lo (b + 1) 24 H9 (.slice (some ⟨H6.next, 0, none⟩) (k - 1 + 1) (k - 1 + 1)) (k + 1 - 1) (spc (X.g.ox X.s (Nat.testBit X.m) (k + 1 - 1))) := by
      rw [eox, show k + 1 - 1 = k - 1 + 1 by omega]
      exact (a7.other k8 (by intro x hx; simp at hx; omega)).other k9 (by intro x hx; simp at hx; omega)
    have kpN : Keep H0 H9 [] := ((kb7.keep (kp4.trans k46) (by have := j.kp.1; omega)).new k8 (fun x hx => .inr (by simp at hx; omega))).new k9 (fun x hx => .inr (by simp at hx; omega))
    refine ⟨rfl, fun cs c => ?_, ⟨⟨_, k9.cl c8 (nl _ (by omega)), accN⟩, k9.rd (k8.rd (kb7.rd (k46.rd db (by simp)) (by omega)) (n12 _ (by omega))) (nl _ (by omega)), ?_, ?_, s9.lp lp5, lb, by omega, ?_, kpN⟩⟩
    · exact k9.cl (k8.cl (kb7.cl (k46.cl (k04.cl c (by simp; omega)) (by simp)) (by omega)) (n12 _ (by omega))) (by simp; omega)
    · exact k9.sl (k8.sl (kb7.sl (k46.sl0 dw) (fun x e => by have := fw x e; omega)) (fun x e => n12 _ (by have := fw x e; omega))) (fun x e => nl _ (by have := fw x e; omega))
    · exact k9.sl (k8.sl (kb7.sl (k46.sl0 da) (fun x e => by have := fa x e; omega)) (fun x e => n12 _ (by have := fa x e; omega))) (fun x e => nl _ (by have := fa x e; omega))
    · rw [k9.2 X.r (by omega) (nl _ (by omega)), k8.2 X.r (by omega) (n12 _ (by omega)), kb7.2 X.r (by omega), k46.2 X.r (by omega) (by simp)]; exact ddf
/-- what Oxygen answers -/
def Lt.Ox (g : Lt) (a b : Int) (us : List Int) (H : Hp) (w : Value) (H' : Hp) : Prop :=
  (g.ok = false ∧ w = .tuple #[.slice none 0 0, iv 1]) ∨ (g.ok = true ∧ (flB g a b && setB a (a + b) us) = false ∧ w = .tuple #[.slice none 0 0, iv 2]) ∨
  (g.ok = true ∧ ∃ s d : Nat, a = s ∧ b = d ∧ s + d ≤ g.wn ∧ setB s (s + d) us = true ∧ ∃ oa oc, w = .tuple #[.slice oa d oc, iv 0] ∧ Sl H' oa d oc (spc (g.ox s (Nat.testBit (dayMask us)) d)) ∧ ∀ x, oa = some ⟨x, 0, none⟩ → H.next ≤ x)
theorem oxygen_ok {g : Lt} {a b : Int} (hw : Sl H g.wa g.wn g.wcap (spc g.ws)) (ha : Sl H g.aa g.an g.acap (spc g.as)) (hwl : g.ws.length = g.wn) (hal : g.as.length = g.an) (hwn : g.wn ≤ 1000) (han : g.an ≤ 1000) {la : Option Addr} {n cap : Nat} {us : List Int} (hl : Sl H la n cap (ints us)) (hul : us.length = n) (hn : n ≤ 1000) (hlo : lo ≤ H.next) :
    ∃ w H', FnX Try.prog kn lo 17 [.agg g.v.toArray, iv a, iv b, .slice la n cap] H w H' ∧ Keep H H' [] ∧ g.Ox a b us H w H' := by
  refine fnX_lowR (kn := kn) (lo := lo) (H := H) (args := [.agg g.v.toArray, iv a, iv b, .slice la n cap]) (Q := fun w H' => Keep H H' [] ∧ g.Ox a b us H w H') Try.func17 B17 N17 Z17 L17 (by simp) ?_
  have fw : ∀ b, g.wa = some ⟨b, 0, none⟩ → b < H.next := hw.old
  have fa : ∀ b, g.aa = some ⟨b, 0, none⟩ → b < H.next := ha.old
  intro y hy
  refine TriR.lowR hy ?_
  intro H1 hH1; obtain ⟨k1, n1, c1⟩ := new_facts hH1; clear hH1
  have c1 : Cl H1 H.next g.v := c1
  intro y hy
  refine TriR.lowR hy ?_
  refine Exists.intro _ (Exists.intro _ (And.intro c1.of (And.intro (show row 13 g.v 0 = some g.v from rfl) ?_)))
  obtain ⟨w, H2, f2, k2, hc⟩ := course_ok (kn := kn) (lo := lo) (H := H1) (g := g) (a := a) (b := b) (us := us) (k1.sl0 hw) (k1.sl0 ha) hwl hal hwn han (k1.sl0 hl) hul hn (by omega)
  have k02 := k1.trans k2
  have m2 := k2.1
  refine Exists.intro _ (Exists.intro _ (And.intro (callX_args f2) ?_))
  have bad : ∀ (e : Int), e ≠ 0 → w = .tuple #[.agg zeroC.toArray, iv e] → True := fun _ _ _ => trivial
  clear bad
  rcases hc with ⟨hok, rfl⟩ | ⟨hok, hfl, rfl⟩ | ⟨hok, s, d, rfl, rfl, hsd, hset, rfl⟩
  · refine And.intro rfl (Exists.intro (.agg zeroC.toArray) (And.intro (by kernel_rfl) ?_))
    refine And.intro rfl (Exists.intro (iv 1) (And.intro (by kernel_rfl) ?_))
    intro H3 hH3; obtain ⟨k3, n3, c3⟩ := new_facts hH3; clear hH3
    have c3 : Cl H3 H2.next zeroC := c3
    obtain ⟨_, e4, l4, g4⟩ := id c3
    refine Exists.intro _ (Exists.intro _ (Exists.intro _ (And.intro g4 (And.intro (by omega) (And.intro rfl (And.intro rfl (And.intro (by simp) ?_)))))))
    intro H4 hH4; obtain ⟨k4, n4, c4⟩ := up_facts c3 hH4; clear hH4
    have k24 : Keep H2 H4 [] := k3.new k4 (fun b hb => .inr (by simp at hb; omega))
    intro y hy
    refine TriR.lowR hy ?_
    refine condT ?_
    exact And.intro trivial (Or.inl ⟨rfl, _, rfl, k02.trans k24, Or.inl ⟨hok, rfl⟩⟩)
  · refine And.intro rfl (Exists.intro (.agg zeroC.toArray) (And.intro (by kernel_rfl) ?_))
    refine And.intro rfl (Exists.intro (iv 2) (And.intro (by kernel_rfl) ?_))
    intro H3 hH3; obtain ⟨k3, n3, c3⟩ := new_facts hH3; clear hH3
    have c3 : Cl H3 H2.next zeroC := c3
    obtain ⟨_, e4, l4, g4⟩ := id c3
    refine Exists.intro _ (Exists.intro _ (Exists.intro _ (And.intro g4 (And.intro (by omega) (And.intro rfl (And.intro rfl (And.intro (by simp) ?_)))))))
    intro H4 hH4; obtain ⟨k4, n4, c4⟩ := up_facts c3 hH4; clear hH4
    have k24 : Keep H2 H4 [] := k3.new k4 (fun b hb => .inr (by simp at hb; omega))
    intro y hy
    refine TriR.lowR hy ?_
    refine condT ?_
    exact And.intro trivial (Or.inl ⟨rfl, _, rfl, k02.trans k24, Or.inr (Or.inl ⟨hok, hfl, rfl⟩)⟩)
  have v := Lt.vd hok hwl hal
  have hn40 := v.n40
  refine And.intro rfl (Exists.intro (.agg (crs g s d (dayMask us)).toArray) (And.intro (by kernel_rfl) ?_))
  refine And.intro rfl (Exists.intro (iv 0) (And.intro (by kernel_rfl) ?_))
  intro H3 hH3; obtain ⟨k3, n3, c3⟩ := new_facts hH3; clear hH3
  have c3 : Cl H3 H2.next zeroC := c3
  obtain ⟨_, e4, l4, g4⟩ := id c3
  refine Exists.intro _ (Exists.intro _ (Exists.intro _ (And.intro g4 (And.intro (by omega) (And.intro rfl (And.intro rfl (And.intro (by simp) ?_)))))))
  intro H4 hH4; obtain ⟨k4, n4, c4⟩ := up_facts c3 hH4; clear hH4
  have c4 : Cl H4 H2.next (crs g s d (dayMask us)) := c4
  have k24 : Keep H2 H4 [] := k3.new k4 (fun b hb => .inr (by simp at hb; omega))
  have k04 := k02.trans k24
  have m4 := k24.1
  intro y hy
  refine TriR.lowR hy ?_
  refine condF ?_
  intro y hy
  refine TriR.lowR hy ?_
  intro H5 hH5; obtain ⟨k5, n5, c5⟩ := new_facts hH5; clear hH5
  have c5 : Cl H5 H4.next [.slice none 0 0] := c5
  have d4 := k5.cl c4 (by simp)
  have k05 := k04.trans k5
  intro y hy
  refine TriR.lowL hy ?_
  intro z hz
  refine TriR.lowR hz ?_
  refine Exists.intro _ (Exists.intro _ (And.intro d4.of (And.intro (show row 16 _ 0 = some (crs g s d (dayMask us)) from rfl) ?_)))
  obtain ⟨bc, H6, f6, k6, hbc, rb⟩ := states_ok (kn := kn) (lo := lo) (H := H5) (g := g) (s := s) (d := d) (m := dayMask us)
  refine Exists.intro _ (Exists.intro _ (And.intro (callX_args f6) ?_))
  intro y hy
  refine TriR.lowB hy ?_
  rw [E17_1]
  refine TriR.range rfl ?_
  intro H7 k7 n7 hd hlp
  have k57 := k6.trans k7
  have k07 := k05.trans k57
  have lbc := rb.lt
  have m6 := k6.1
  let X : OX := ⟨g, s, d, dayMask us, H4.next, bc, H6.next⟩
  have G : OG X lo H := ⟨by show H.next ≤ H4.next; omega, by show lo ≤ H4.next; omega, by show H4.next < bc; omega, by show bc < H6.next; omega⟩
  have e5 := k57.cl c5 (by simp)
  have eb := k7.rd rb (by simp)
  have lp7 : Lp Try.prog H7 (H6.next + 1) .ready none 37 [(12, pt H4.next)] [27] asg17 body17 H6.next := hlp.weak ⟨rfl, trivial⟩
  have fin : ∀ (b k : Nat) (H8 H9 : Hp), OJ X lo H b k H8 → Keep H8 H9 [b] → OJ X lo H b k H9 := fun b k H8 H9 j kk => by
    have lb := j.lb; have ll := j.ll
    have lb : H6.next + 1 < b := lb
    have ll : b < H8.next := ll
    have hl4 : H4.next < H6.next := by omega
    have ne : ∀ x, x < b → x ∉ [b] := fun x h => by simp; omega
    obtain ⟨wv, q1, q2⟩ := j.c12
    have q1 : Cl H8 H4.next [wv] := q1
    exact ⟨⟨wv, (show Cl H9 H4.next [wv] from kk.cl q1 (ne _ (by omega))), q2.other kk (by intro x hx; simp at hx; omega)⟩, kk.rd j.cb (ne _ (by show bc < b; omega)), kk.sl j.hw (fun x e => ne _ (by have := fw x e; omega)), kk.sl j.ha (fun x e => ne _ (by have := fa x e; omega)), j.lp.keep kk (by show H6.next + 1 < H8.next; omega) (ne _ lb), lb, Nat.lt_of_lt_of_le ll kk.1, by rw [kk.2 X.r (by show H6.next < H8.next; omega) (ne _ (by show H6.next < b; omega))]; exact j.dfr, j.kp.new kk (fun x hx => .inr (by simp at hx; omega))⟩
  obtain ⟨b, H8, h8, hb8, j⟩ := iter_ok2 (kn := kn) (lo := lo) (H := H7) (l := H6.next + 1) (bc := bc) v hsd (fun b k H' => OJ X lo H b k H') (by omega) eb
    (fun b H1' kk hb hb2 => ⟨⟨_, kk.cl e5 (by simp), .inl ⟨rfl, rfl, rfl⟩⟩, kk.rd eb (by simp), kk.sl0 (k07.sl0 hw), kk.sl0 (k07.sl0 ha), lp7.keep kk (by omega) (by simp), by show H6.next + 1 < b; omega, hb2, by rw [kk.2 X.r (by show H6.next < H7.next; omega) (by simp)]; exact hd, k07.trans kk⟩)
    (fun b k H' j => ⟨j.cb, j.hw, j.ha⟩) fin (fun b k H' j => by have h1 := j.ll; have h2 : H6.next + 1 < b := j.lb; omega) (fun b k H' hk j => ox_round G v hsd fw fa hk j)
  refine Exists.intro _ (Exists.intro H8 (And.intro (callX_func rfl (by simpa using h8)) ?_))
  refine ⟨.ready, none, _, j.lp, by simp, ?_⟩
  intro H9 s9
  have k9 := s9.keep
  have hn9 : H9.next = H8.next := s9.1
  have ll := j.ll
  have lb : H6.next + 1 < b := j.lb
  have kH : Keep H H9 [] := j.kp.new k9 (fun b hb => .inr (by simp at hb; omega))
  obtain ⟨wv, q12, acc⟩ := j.c12
  have q12 : Cl H8 H4.next [wv] := q12
  have q12 := k9.cl q12 (by simp; omega)
  have acc := acc.other k9 (by intro x hx; simp at hx; omega)
  have dj : H9.t.get H6.next = some (.dfr (some [])) := by
    rw [k9.2 H6.next (by omega) (by simp)]; exact j.dfr
  have acc : Acc lo (b + 1) 24 H9 wv d (spc (g.ox s (Nat.testBit (dayMask us)) d)) := acc
  refine Exists.intro _ (Exists.intro _ (And.intro q12.of (And.intro (show _ = some wv from rfl) ?_)))
  refine And.intro trivial (Or.inr ⟨H6.next, rfl, by omega, dj, fun H10 hn10 hs10 => ?_⟩)
  have k10 : Keep H9 H10 [H6.next] := ⟨by omega, fun b _ hb => hs10 b (by simpa using hb)⟩
  obtain ⟨oa, oc, rfl, hsl, hge⟩ := (acc.other k10 (by intro x hx; simp at hx; omega)).sl
  exact ⟨_, rfl, kH.new k10 (fun b hb => .inr (by simp at hb; omega)), Or.inr (Or.inr ⟨hok, s, d, rfl, rfl, hsd, hset, oa, oc, rfl, hsl, fun x e => by have := hge x e; omega⟩)⟩
end
end Go.Ax

/-
  Late: what a law looks at (13), the document's validity (49, 56, 33, 34), what is true (35) (written by program).
-/
namespace Go.Ax
open Go Go.RowKit Go.Proofs

section
variable {kn : FuncId → Option Bool} {lo : Nat} {H : Hp}
theorem great_ok {g : Lt} {la : Option Addr} {n cap : Nat} : ∃ H', FnX Try.prog kn lo 13 [.agg g.v.toArray, .slice la n cap] H (.bool (decide (g.wn > 45) || decide (g.an > 45) || decide (n > 45))) H' ∧ Keep H H' [] := by
  have key := fnX_low (kn := kn) (lo := lo) (H := H) (args := [.agg g.v.toArray, .slice la n cap]) (Q := fun w H' => w = .bool (decide (g.wn > 45) || decide (g.an > 45) || decide (n > 45)) ∧ Keep H H' []) Try.func13 B13 N13 Z13 L13 (by simp) ?_
  · obtain ⟨w, H', h, rfl, q⟩ := key; exact ⟨H', h, q⟩
  have hk := Keep.refl H []
  intro H1 hH1; obtain ⟨kH1, nH1, c1⟩ := new_facts hH1; clear hH1
  have mH1 := kH1.1
  have hk := hk.trans kH1
  have c1 : Cl H1 H.next [.slice g.wa g.wn g.wcap, .slice g.aa g.an g.acap, iv g.r1, iv g.r2, iv g.f1, iv g.f2, iv g.g1, iv g.g2, iv g.full, iv g.base, iv g.kill, iv g.need, iv g.bear] := c1
  refine Exists.intro _ (Exists.intro _ (And.intro c1.of (And.intro (show _ = some (.slice g.wa g.wn g.wcap) from rfl) ?_)))
  intro t1 g1; cases t1
  · have g1 : ¬ ((g.wn : Int) > 45) := of_decide_eq_false g1
    refine Exists.intro _ (Exists.intro _ (And.intro c1.of (And.intro (show _ = some (.slice g.aa g.an g.acap) from rfl) ?_)))
    intro t2 g2; cases t2
    · have g2 : ¬ ((g.an : Int) > 45) := of_decide_eq_false g2
      refine And.intro rfl (Exists.intro (.bool false) (And.intro rfl ?_))
      intro t3 g3; cases t3
      · have g3 : ¬ ((n : Int) > 45) := of_decide_eq_false g3
        refine And.intro rfl (Exists.intro (.bool false) (And.intro rfl ?_))
        exact And.intro trivial (Exists.intro _ (And.intro rfl ⟨by show Value.bool false = _; congr 1; symm; simp; omega, hk⟩))
      · have g3 : (n : Int) > 45 := of_decide_eq_true g3
        refine And.intro rfl (Exists.intro (.bool true) (And.intro rfl ?_))
        exact And.intro trivial (Exists.intro _ (And.intro rfl ⟨by show Value.bool true = _; congr 1; symm; simp; omega, hk⟩))
    · have g2 : (g.an : Int) > 45 := of_decide_eq_true g2
      refine And.intro rfl (Exists.intro (.bool true) (And.intro rfl ?_))
      refine And.intro rfl (Exists.intro (.bool true) (And.intro rfl ?_))
      exact And.intro trivial (Exists.intro _ (And.intro rfl ⟨by show Value.bool true = _; congr 1; symm; simp; omega, hk⟩))
  · have g1 : (g.wn : Int) > 45 := of_decide_eq_true g1
    refine And.intro rfl (Exists.intro (.bool true) (And.intro rfl ?_))
    refine And.intro rfl (Exists.intro (.bool true) (And.intro rfl ?_))
    exact And.intro trivial (Exists.intro _ (And.intro rfl ⟨by show Value.bool true = _; congr 1; symm; simp; omega, hk⟩))
theorem in49_ok {n a b : Int} : ∃ H', FnX Try.prog kn lo 49 [iv n, iv a, iv b] H (.bool (inB n a b)) H' ∧ Keep H H' [] := by
  have key := fnX_low (kn := kn) (lo := lo) (H := H) (args := [iv n, iv a, iv b]) (Q := fun w H' => w = .bool (inB n a b) ∧ Keep H H' []) Try.func49 B49 N49 Z49 L49 (by simp) ?_
  · obtain ⟨w, H', h, rfl, q⟩ := key; exact ⟨H', h, q⟩
  repeat' first
    | (intro t ht; cases t)
    | exact And.intro trivial (Exists.intro _ (And.intro rfl ⟨by simp_all [retV, inB] <;> (intros; omega), Keep.refl _ _⟩))
    | refine And.intro rfl (Exists.intro _ (And.intro rfl ?_))
theorem within56_ok {a b l m : Int} : ∃ H', FnX Try.prog kn lo 56 [spv a b, iv l, iv m] H (.bool (spanB a b l m)) H' ∧ Keep H H' [] := by
  have key := fnX_low (kn := kn) (lo := lo) (H := H) (args := [spv a b, iv l, iv m]) (Q := fun w H' => w = .bool (spanB a b l m) ∧ Keep H H' []) Try.func56 B56 N56 Z56 L56 (by simp) ?_
  · obtain ⟨w, H', h, rfl, q⟩ := key; exact ⟨H', h, q⟩
  intro H1 hH1
  obtain ⟨k1, n1, c1⟩ := new_facts hH1
  repeat' first
    | refine Exists.intro _ (Exists.intro _ (And.intro c1.of (And.intro rfl ?_)))
    | (intro t ht; cases t)
    | exact And.intro trivial (Exists.intro _ (And.intro rfl ⟨by simp_all [retV, spanB] <;> (intros; omega), k1⟩))
    | refine And.intro rfl (Exists.intro _ (And.intro rfl ?_))
theorem late33_ok {g : Lt} (hw : Sl H g.wa g.wn g.wcap (spc g.ws)) (ha : Sl H g.aa g.an g.acap (spc g.as)) (hwl : g.ws.length = g.wn) (hal : g.as.length = g.an) (hwn : g.wn ≤ 1000) (han : g.an ≤ 1000) :
    ∃ H', FnX Try.prog kn lo 33 [.agg g.v.toArray] H (.bool g.ok) H' ∧ Keep H H' [] := by
  have key := fnX_low (kn := kn) (lo := lo) (H := H) (args := [.agg g.v.toArray]) (Q := fun w H' => w = .bool g.ok ∧ Keep H H' []) Try.func33 B33 N33 Z33 L33 (by simp) ?_
  · obtain ⟨w, H', h, rfl, q⟩ := key; exact ⟨H', h, q⟩
  have hk := Keep.refl H []
  intro H1 hH1; obtain ⟨kH1, nH1, c1⟩ := new_facts hH1; clear hH1
  have mH1 := kH1.1
  have hk := hk.trans kH1
  have hw := kH1.sl0 hw
  have ha := kH1.sl0 ha
  have c1 : Cl H1 H.next [.slice g.wa g.wn g.wcap, .slice g.aa g.an g.acap, iv g.r1, iv g.r2, iv g.f1, iv g.f2, iv g.g1, iv g.g2, iv g.full, iv g.base, iv g.kill, iv g.need, iv g.bear] := c1
  refine Exists.intro _ (Exists.intro _ (And.intro c1.of (And.intro (show _ = some (.slice g.wa g.wn g.wcap) from rfl) ?_)))
  refine Exists.intro _ (Exists.intro _ (And.intro c1.of (And.intro (show _ = some (.slice g.aa g.an g.acap) from rfl) ?_)))
  intro t1 g1; cases t1
  · have g1 : ¬ ((g.wn : Int) ≠ (g.an : Int)) := by simpa using g1
    refine Exists.intro _ (Exists.intro _ (And.intro c1.of (And.intro (show _ = some (.slice g.wa g.wn g.wcap) from rfl) ?_)))
    intro t2 g2; cases t2
    · have g2 : ¬ ((g.wn : Int) > 40) := of_decide_eq_false g2
      refine And.intro rfl (Exists.intro (.bool false) (And.intro rfl ?_))
      refine condF ?_
      have hE : g.ok = ((g.ws.all fun s => spanB s.1 s.2 0 5000) && (g.as.all fun s => spanB s.1 s.2 0 20000) && spanB g.r1 g.r2 0 1000 && inB g.full 0 20000 && spanB g.f1 g.f2 0 g.full && spanB g.g1 g.g2 0 g.full && inB g.base 0 5000 && inB g.kill 0 1048576 && inB g.need 0 20000 && inB g.bear 0 40) := by
        unfold Lt.ok; rw [decide_eq_true (show g.wn = g.an by omega), decide_eq_true (show g.wn ≤ 40 by omega)]; simp only [Bool.true_and]
      refine loop_low (fn := Try.f33) E33_1 N33 L33x1 (fun i : Nat => [(1, pt H.next), (3, iv (i : Int))])
        (fun k i H' => i + k = g.wn ∧ Keep H1 H' [] ∧ ((g.ws.take i).all fun s => spanB s.1 s.2 0 5000) = true ∧ ((g.as.take i).all fun s => spanB s.1 s.2 0 20000) = true) g.wn 0 ⟨by omega, Keep.refl _ _, rfl, rfl⟩ ⟨rfl, rfl, trivial⟩ ?_
      rintro k i L1 ⟨hik, hki, hal1, hal2⟩
      have hk := hk.trans hki
      have hw := hki.sl0 hw
      have ha := hki.sl0 ha
      have c1 := hki.cl c1 (by simp)
      have kb := hki
      refine Exists.intro _ (Exists.intro _ (And.intro c1.of (And.intro (show _ = some (.slice g.wa g.wn g.wcap) from rfl) ?_)))
      refine And.intro (fun q3 => ?_) (fun q3 => ?_)
      · have q3 : (i : Int) < (g.wn : Int) := of_decide_eq_true q3
        have hi : i < g.wn := by omega
        obtain ⟨x, hx⟩ := get_some (l := g.ws) (i := i) (by omega)
        obtain ⟨y, hy⟩ := get_some (l := g.as) (i := i) (by omega)
        have hst1 := all_step (f := fun s : Int × Int => spanB s.1 s.2 0 5000) hx
        have hst2 := all_step (f := fun s : Int × Int => spanB s.1 s.2 0 20000) hy
        rcases hw with ⟨_, h0, _⟩ | ⟨wb, ewa, hwd, _⟩
        · omega
        rcases ha with ⟨_, h0, _⟩ | ⟨ab, eaa, had, _⟩
        · omega
        refine Exists.intro _ (Exists.intro _ (And.intro c1.of (And.intro (show _ = some (Value.slice (some ⟨wb, 0, none⟩) g.wn g.wcap) from by rw [← ewa]; rfl) ?_)))
        refine Exists.intro i (And.intro rfl (And.intro hi ?_))
        refine Exists.intro _ (Exists.intro _ (And.intro hwd.of (And.intro (spc_row hx) ?_)))
        refine callB (within56_ok) ?_
        intro tH2 H2 hH2 kH2
        have mH2 := kH2.1
        have hk := hk.trans kH2
        have c1 := kH2.cl c1 (by simp)
        have kb := kb.trans kH2
        have hwd := kH2.rd hwd (by simp)
        have had := kH2.rd had (by simp)
        cases tH2
        · have h1 := hH2
          refine And.intro rfl (Exists.intro (.bool true) (And.intro rfl ?_))
          refine And.intro rfl (Exists.intro (.bool true) (And.intro rfl ?_))
          refine condT ?_
          have e : g.ok = false := by rw [hE, all_fail (f := fun s : Int × Int => spanB s.1 s.2 0 5000) hx h1]; simp only [Bool.false_and]
          exact And.intro trivial (Exists.intro _ (And.intro rfl ⟨by rw [e]; rfl, hk⟩))
        · have h1 := hH2
          refine And.intro rfl (Exists.intro (.bool false) (And.intro rfl ?_))
          refine Exists.intro _ (Exists.intro _ (And.intro c1.of (And.intro (show _ = some (Value.slice (some ⟨ab, 0, none⟩) g.an g.acap) from by rw [← eaa]; rfl) ?_)))
          refine Exists.intro i (And.intro rfl (And.intro (by omega) ?_))
          refine Exists.intro _ (Exists.intro _ (And.intro had.of (And.intro (spc_row hy) ?_)))
          refine callB (within56_ok) ?_
          intro tH3 H3 hH3 kH3
          have mH3 := kH3.1
          have hk := hk.trans kH3
          have c1 := kH3.cl c1 (by simp)
          have kb := kb.trans kH3
          have hwd := kH3.rd hwd (by simp)
          have had := kH3.rd had (by simp)
          cases tH3
          · have h2 := hH3
            refine And.intro rfl (Exists.intro (.bool true) (And.intro rfl ?_))
            refine And.intro rfl (Exists.intro (.bool true) (And.intro rfl ?_))
            refine condT ?_
            have e : g.ok = false := by rw [hE, all_fail (f := fun s : Int × Int => spanB s.1 s.2 0 20000) hy h2]; simp only [Bool.and_false, Bool.false_and]
            exact And.intro trivial (Exists.intro _ (And.intro rfl ⟨by rw [e]; rfl, hk⟩))
          · have h2 := hH3
            refine And.intro rfl (Exists.intro (.bool false) (And.intro rfl ?_))
            refine And.intro rfl (Exists.intro (.bool false) (And.intro rfl ?_))
            refine condF ?_
            refine And.intro ⟨by omega, by omega⟩ ?_
            exact ⟨k - 1, i + 1, by omega, ⟨by omega, kb, by rw [hst1, hal1, h1]; rfl, by rw [hst2, hal2, h2]; rfl⟩, rfl, rfl, trivial⟩
      · have q3 : ¬ ((i : Int) < (g.wn : Int)) := of_decide_eq_false q3
        have e : i = g.wn := by omega
        subst e
        rw [List.take_of_length_le (by omega)] at hal1 hal2
        refine Exists.intro _ (Exists.intro _ (And.intro c1.of (And.intro (show _ = some (iv g.full) from rfl) ?_)))
        refine callB (in49_ok) ?_
        intro tH4 H4 hH4 kH4
        have mH4 := kH4.1
        have hk := hk.trans kH4
        have hw := kH4.sl0 hw
        have ha := kH4.sl0 ha
        have c1 := kH4.cl c1 (by simp)
        have kb := kb.trans kH4
        cases tH4
        · have h4 := hH4
          refine And.intro rfl (Exists.intro (.bool false) (And.intro rfl ?_))
          refine And.intro rfl (Exists.intro (.bool false) (And.intro rfl ?_))
          refine And.intro rfl (Exists.intro (.bool false) (And.intro rfl ?_))
          refine And.intro rfl (Exists.intro (.bool false) (And.intro rfl ?_))
          refine And.intro rfl (Exists.intro (.bool false) (And.intro rfl ?_))
          refine And.intro rfl (Exists.intro (.bool false) (And.intro rfl ?_))
          refine And.intro rfl (Exists.intro (.bool false) (And.intro rfl ?_))
          have e : g.ok = false := by rw [hE]; simp only [hal1, hal2, h4, Bool.and_true, Bool.true_and, Bool.and_false, Bool.false_and]
          exact And.intro trivial (Exists.intro _ (And.intro rfl ⟨by rw [e]; rfl, hk⟩))
        · have h4 := hH4
          refine Exists.intro _ (Exists.intro _ (And.intro c1.of (And.intro (show row 2 _ _ = some [iv g.f1, iv g.f2] from rfl) ?_)))
          refine Exists.intro _ (Exists.intro _ (And.intro c1.of (And.intro (show _ = some (iv g.full) from rfl) ?_)))
          refine callB (within56_ok) ?_
          intro tH5 H5 hH5 kH5
          have mH5 := kH5.1
          have hk := hk.trans kH5
          have hw := kH5.sl0 hw
          have ha := kH5.sl0 ha
          have c1 := kH5.cl c1 (by simp)
          have kb := kb.trans kH5
          cases tH5
          · have h5 := hH5
            refine And.intro rfl (Exists.intro (.bool false) (And.intro rfl ?_))
            refine And.intro rfl (Exists.intro (.bool false) (And.intro rfl ?_))
            refine And.intro rfl (Exists.intro (.bool false) (And.intro rfl ?_))
            refine And.intro rfl (Exists.intro (.bool false) (And.intro rfl ?_))
            refine And.intro rfl (Exists.intro (.bool false) (And.intro rfl ?_))
            refine And.intro rfl (Exists.intro (.bool false) (And.intro rfl ?_))
            refine And.intro rfl (Exists.intro (.bool false) (And.intro rfl ?_))
            have e : g.ok = false := by rw [hE]; simp only [hal1, hal2, h4, h5, Bool.and_true, Bool.true_and, Bool.and_false, Bool.false_and]
            exact And.intro trivial (Exists.intro _ (And.intro rfl ⟨by rw [e]; rfl, hk⟩))
          · have h5 := hH5
            refine And.intro rfl (Exists.intro (.bool true) (And.intro rfl ?_))
            refine Exists.intro _ (Exists.intro _ (And.intro c1.of (And.intro (show row 2 _ _ = some [iv g.g1, iv g.g2] from rfl) ?_)))
            refine Exists.intro _ (Exists.intro _ (And.intro c1.of (And.intro (show _ = some (iv g.full) from rfl) ?_)))
            refine callB (within56_ok) ?_
            intro tH6 H6 hH6 kH6
            have mH6 := kH6.1
            have hk := hk.trans kH6
            have hw := kH6.sl0 hw
            have ha := kH6.sl0 ha
            have c1 := kH6.cl c1 (by simp)
            have kb := kb.trans kH6
            cases tH6
            · have h6 := hH6
              refine And.intro rfl (Exists.intro (.bool false) (And.intro rfl ?_))
              refine And.intro rfl (Exists.intro (.bool false) (And.intro rfl ?_))
              refine And.intro rfl (Exists.intro (.bool false) (And.intro rfl ?_))
              refine And.intro rfl (Exists.intro (.bool false) (And.intro rfl ?_))
              refine And.intro rfl (Exists.intro (.bool false) (And.intro rfl ?_))
              refine And.intro rfl (Exists.intro (.bool false) (And.intro rfl ?_))
              have e : g.ok = false := by rw [hE]; simp only [hal1, hal2, h4, h5, h6, Bool.and_true, Bool.true_and, Bool.and_false, Bool.false_and]
              exact And.intro trivial (Exists.intro _ (And.intro rfl ⟨by rw [e]; rfl, hk⟩))
            · have h6 := hH6
              refine And.intro rfl (Exists.intro (.bool true) (And.intro rfl ?_))
              refine Exists.intro _ (Exists.intro _ (And.intro c1.of (And.intro (show row 2 _ _ = some [iv g.r1, iv g.r2] from rfl) ?_)))
              refine callB (within56_ok) ?_
              intro tH7 H7 hH7 kH7
              have mH7 := kH7.1
              have hk := hk.trans kH7
              have hw := kH7.sl0 hw
              have ha := kH7.sl0 ha
              have c1 := kH7.cl c1 (by simp)
              have kb := kb.trans kH7
              cases tH7
              · have h7 := hH7
                refine And.intro rfl (Exists.intro (.bool false) (And.intro rfl ?_))
                refine And.intro rfl (Exists.intro (.bool false) (And.intro rfl ?_))
                refine And.intro rfl (Exists.intro (.bool false) (And.intro rfl ?_))
                refine And.intro rfl (Exists.intro (.bool false) (And.intro rfl ?_))
                refine And.intro rfl (Exists.intro (.bool false) (And.intro rfl ?_))
                have e : g.ok = false := by rw [hE]; simp only [hal1, hal2, h4, h5, h6, h7, Bool.and_true, Bool.true_and, Bool.and_false, Bool.false_and]
                exact And.intro trivial (Exists.intro _ (And.intro rfl ⟨by rw [e]; rfl, hk⟩))
              · have h7 := hH7
                refine And.intro rfl (Exists.intro (.bool true) (And.intro rfl ?_))
                refine Exists.intro _ (Exists.intro _ (And.intro c1.of (And.intro (show _ = some (iv g.base) from rfl) ?_)))
                refine callB (in49_ok) ?_
                intro tH8 H8 hH8 kH8
                have mH8 := kH8.1
                have hk := hk.trans kH8
                have hw := kH8.sl0 hw
                have ha := kH8.sl0 ha
                have c1 := kH8.cl c1 (by simp)
                have kb := kb.trans kH8
                cases tH8
                · have h8 := hH8
                  refine And.intro rfl (Exists.intro (.bool false) (And.intro rfl ?_))
                  refine And.intro rfl (Exists.intro (.bool false) (And.intro rfl ?_))
                  refine And.intro rfl (Exists.intro (.bool false) (And.intro rfl ?_))
                  refine And.intro rfl (Exists.intro (.bool false) (And.intro rfl ?_))
                  have e : g.ok = false := by rw [hE]; simp only [hal1, hal2, h4, h5, h6, h7, h8, Bool.and_true, Bool.true_and, Bool.and_false, Bool.false_and]
                  exact And.intro trivial (Exists.intro _ (And.intro rfl ⟨by rw [e]; rfl, hk⟩))
                · have h8 := hH8
                  refine And.intro rfl (Exists.intro (.bool true) (And.intro rfl ?_))
                  refine Exists.intro _ (Exists.intro _ (And.intro c1.of (And.intro (show _ = some (iv g.kill) from rfl) ?_)))
                  refine callB (in49_ok) ?_
                  intro tH9 H9 hH9 kH9
                  have mH9 := kH9.1
                  have hk := hk.trans kH9
                  have hw := kH9.sl0 hw
                  have ha := kH9.sl0 ha
                  have c1 := kH9.cl c1 (by simp)
                  have kb := kb.trans kH9
                  cases tH9
                  · have h9 := hH9
                    refine And.intro rfl (Exists.intro (.bool false) (And.intro rfl ?_))
                    refine And.intro rfl (Exists.intro (.bool false) (And.intro rfl ?_))
                    refine And.intro rfl (Exists.intro (.bool false) (And.intro rfl ?_))
                    have e : g.ok = false := by rw [hE]; simp only [hal1, hal2, h4, h5, h6, h7, h8, h9, Bool.and_true, Bool.true_and, Bool.and_false, Bool.false_and]
                    exact And.intro trivial (Exists.intro _ (And.intro rfl ⟨by rw [e]; rfl, hk⟩))
                  · have h9 := hH9
                    refine And.intro rfl (Exists.intro (.bool true) (And.intro rfl ?_))
                    refine Exists.intro _ (Exists.intro _ (And.intro c1.of (And.intro (show _ = some (iv g.need) from rfl) ?_)))
                    refine callB (in49_ok) ?_
                    intro tH10 H10 hH10 kH10
                    have mH10 := kH10.1
                    have hk := hk.trans kH10
                    have hw := kH10.sl0 hw
                    have ha := kH10.sl0 ha
                    have c1 := kH10.cl c1 (by simp)
                    have kb := kb.trans kH10
                    cases tH10
                    · have h10 := hH10
                      refine And.intro rfl (Exists.intro (.bool false) (And.intro rfl ?_))
                      refine And.intro rfl (Exists.intro (.bool false) (And.intro rfl ?_))
                      have e : g.ok = false := by rw [hE]; simp only [hal1, hal2, h4, h5, h6, h7, h8, h9, h10, Bool.and_true, Bool.true_and, Bool.and_false, Bool.false_and]
                      exact And.intro trivial (Exists.intro _ (And.intro rfl ⟨by rw [e]; rfl, hk⟩))
                    · have h10 := hH10
                      refine And.intro rfl (Exists.intro (.bool true) (And.intro rfl ?_))
                      refine Exists.intro _ (Exists.intro _ (And.intro c1.of (And.intro (show _ = some (iv g.bear) from rfl) ?_)))
                      refine callB (in49_ok) ?_
                      intro tH11 H11 hH11 kH11
                      have mH11 := kH11.1
                      have hk := hk.trans kH11
                      have hw := kH11.sl0 hw
                      have ha := kH11.sl0 ha
                      have c1 := kH11.cl c1 (by simp)
                      have kb := kb.trans kH11
                      cases tH11
                      · have h11 := hH11
                        refine And.intro rfl (Exists.intro (.bool false) (And.intro rfl ?_))
                        have e : g.ok = false := by rw [hE]; simp only [hal1, hal2, h4, h5, h6, h7, h8, h9, h10, h11, Bool.and_true, Bool.true_and, Bool.and_false, Bool.false_and]
                        exact And.intro trivial (Exists.intro _ (And.intro rfl ⟨by rw [e]; rfl, hk⟩))
                      · have h11 := hH11
                        refine And.intro rfl (Exists.intro (.bool true) (And.intro rfl ?_))
                        have e : g.ok = true := by rw [hE]; simp only [hal1, hal2, h4, h5, h6, h7, h8, h9, h10, h11, Bool.and_true, Bool.true_and, Bool.and_false, Bool.false_and]
                        exact And.intro trivial (Exists.intro _ (And.intro rfl ⟨by rw [e]; rfl, hk⟩))
    · have g2 : (g.wn : Int) > 40 := of_decide_eq_true g2
      refine And.intro rfl (Exists.intro (.bool true) (And.intro rfl ?_))
      refine condT ?_
      have e : g.ok = false := by unfold Lt.ok; rw [decide_eq_false (show ¬ g.wn ≤ 40 by omega)]; simp only [Bool.and_false, Bool.false_and]
      exact And.intro trivial (Exists.intro _ (And.intro rfl ⟨by rw [e]; rfl, hk⟩))
  · have g1 : (g.wn : Int) ≠ (g.an : Int) := by simpa using g1
    refine And.intro rfl (Exists.intro (.bool true) (And.intro rfl ?_))
    refine condT ?_
    have e : g.ok = false := by unfold Lt.ok; rw [decide_eq_false (show ¬ g.wn = g.an by omega)]; rfl
    exact And.intro trivial (Exists.intro _ (And.intro rfl ⟨by rw [e]; rfl, hk⟩))
end
end Go.Ax

/-
  Late: what is true of a flood, by remainders (35) (written by program).
-/
namespace Go.Ax
open Go Go.RowKit Go.Proofs

theorem se27 : sliceElem Try.prog 27 = some (3, 1) := by kernel_rfl
theorem z3 : zeroOf Try.prog 3 = some (.int .i64 0) := by kernel_rfl
section
variable {kn : FuncId → Option Bool} {lo : Nat} {H : Hp}
end
end Go.Ax

/-
  Late: the law LateTrue, whatever the input (written by program).
-/
namespace Go.Ax
open Go Go.RowKit Go.Proofs

theorem flB_of {g : Lt} {s d : Nat} (h : s + d ≤ g.wn) : flB g s d = true := by
  unfold flB inB
  simp only [Bool.and_eq_true, decide_eq_true_eq]
  omega
theorem Lt.Tl.c0 {g : Lt} {a b : Int} {us : List Int} {w : Value} (h : g.Tl a b us w) (hok : g.ok = false) : w = .tuple #[iv 0, iv 0, iv 1] := by
  rcases h with ⟨_, h⟩ | ⟨h, _⟩ | ⟨h, _⟩
  · exact h
  · rw [hok] at h; cases h
  · rw [hok] at h; cases h
theorem Lt.Tl.c1 {g : Lt} {a b : Int} {us : List Int} {w : Value} (h : g.Tl a b us w) (hok : g.ok = true) (hf : (flB g a b && setB a (a + b) us) = false) : w = .tuple #[iv 0, iv 0, iv 2] := by
  rcases h with ⟨h, _⟩ | ⟨_, _, h⟩ | ⟨_, s, d, rfl, rfl, h1, h2, _⟩
  · rw [hok] at h; cases h
  · exact h
  · rw [flB_of h1, h2] at hf; exact absurd hf (by decide)
theorem Lt.Tl.c2 {g : Lt} {s d : Nat} {us : List Int} {w : Value} (h : g.Tl s d us w) (hok : g.ok = true) (hsd : s + d ≤ g.wn) (hset : setB s (s + d) us = true) : w = .tuple #[iv (sureV (decide (g.wl s d ≥ g.kill)) (decide (g.wh s d ≥ g.kill))), iv (sureV (decide (g.sm s (Nat.testBit (dayMask us)) d > g.bear)) (decide (g.sl s (Nat.testBit (dayMask us)) d > g.bear))), iv 0] := by
  rcases h with ⟨h, _⟩ | ⟨_, h, _⟩ | ⟨_, s', d', e1, e2, _, _, h⟩
  · rw [hok] at h; cases h
  · rw [flB_of hsd, hset] at h; exact absurd h (by decide)
  · obtain rfl : s = s' := by omega
    obtain rfl : d = d' := by omega
    exact h
theorem Lt.Wm.any {g : Lt} {a b : Int} {w : Value} (h : g.Wm a b w) : ∃ p q e : Int, w = .tuple #[spv p q, iv e] := by
  rcases h with ⟨_, h⟩ | ⟨_, _, h⟩ | ⟨_, _, _, _, _, _, h⟩ <;> exact ⟨_, _, _, h⟩
theorem Lt.Wm.c2 {g : Lt} {s d : Nat} {w : Value} (h : g.Wm s d w) (hok : g.ok = true) (hsd : s + d ≤ g.wn) : w = .tuple #[spv (g.wl s d) (g.wh s d), iv 0] := by
  rcases h with ⟨h, _⟩ | ⟨_, h, _⟩ | ⟨_, s', d', e1, e2, _, h⟩
  · rw [hok] at h; cases h
  · rw [flB_of hsd] at h; cases h
  · obtain rfl : s = s' := by omega
    obtain rfl : d = d' := by omega
    exact h
section
variable {P : Program} {kn : FuncId → Option Bool} {lo n : Nat} {masks : List Nat} {r : List RO} {ks : List Kd} {S : Rg} {H : Hp} {K : Rg → Hp → Prop} {d : Option Nat} {x y : Operand} {a b : Int}
end
section
variable {kn : FuncId → Option Bool} {lo : Nat} {H : Hp}
end
end Go.Ax

/-! What 'low' makes of more functions of late (written by program). -/
namespace Go.Ax
open Go Go.RowKit Go.Proofs
theorem N21 : Try.f21.ntmps = 26 := by kernel_rfl
theorem Z21 : Try.f21.results.toList = ((List.toArray [(.tmp 4)]) : Array ResultVar).toList := by kernel_rfl
theorem B21 : Try.f21.body = some (at_ Try.f21 []) := by kernel_rfl
noncomputable def R21 : RC := (.seq (.reg [⟨(some 4), none, (.mov (.const (.bool false)))⟩])
  (.seq (.seq (.reg [⟨(some 6), none, (.mov (.tmp 0))⟩, ⟨(some 7), none, (.len (.tmp 6))⟩, ⟨(some 8), none, (.mov (.tmp 1))⟩, ⟨(some 9), none, (.len (.tmp 8))⟩, ⟨(some 10), none, (.cmp .neq (.tmp 7) (.tmp 9))⟩])
  (.cond (.tmp 10) (.seq (.reg [⟨(some 4), none, (.mov (.const (.bool false)))⟩])
  .ret)
  .skip))
  (.seq (.seq (.reg [⟨(some 5), none, (.mov (.const (.int .i64 0)))⟩])
  (.block 0 (.other (at_ Try.f21 [1, 1, 0, 1, 0]))))
  (.seq (.reg [⟨(some 4), none, (.mov (.const (.bool true)))⟩])
  .ret))))
theorem L21 : low Try.prog Try.f21.ntmps (at_ Try.f21 []) = some R21 := by kernel_rfl
theorem E21_1 : at_ Try.f21 [1, 1, 0, 1, 0] = .loop (at_ Try.f21 [1, 1, 0, 1, 0, 0]) := by kernel_rfl
noncomputable def R21x1 : RC := (.seq (.seq (.reg [⟨(some 11), none, (.mov (.tmp 5))⟩, ⟨(some 12), none, (.mov (.tmp 0))⟩, ⟨(some 13), none, (.len (.tmp 12))⟩, ⟨(some 14), none, (.cmp .lss (.tmp 11) (.tmp 13))⟩])
  (.cond (.tmp 14) .skip
  (.exit 0)))
  (.seq (.block 1 (.seq (.dreg [⟨(some 17), none, (.mov (.tmp 0))⟩, ⟨(some 18), none, (.mov (.tmp 5))⟩, ⟨(some 19), none, (.idx (.tmp 17) (.tmp 18) 2)⟩, ⟨(some 20), none, (.lda (.tmp 19) 2)⟩, ⟨(some 21), none, (.mov (.tmp 1))⟩, ⟨(some 22), none, (.mov (.tmp 5))⟩, ⟨(some 23), none, (.idx (.tmp 21) (.tmp 22) 2)⟩, ⟨(some 24), none, (.lda (.tmp 23) 2)⟩, ⟨(some 25), none, (.pur ⟨(some 25), (.binOp .neq 24 (.tmp 20) (.tmp 24) 24), 4, "", (List.toArray []), none⟩)⟩] [255, 112, 48, 0, 0, 7, 3, 0, 0])
  (.cond (.tmp 25) (.seq (.reg [⟨(some 4), none, (.mov (.const (.bool false)))⟩])
  .ret)
  .skip)))
  (.reg [⟨(some 15), none, (.mov (.tmp 5))⟩, ⟨(some 16), none, (.ari .add (.tmp 15) (.const (.int .i64 1)))⟩, ⟨(some 5), none, (.mov (.tmp 16))⟩])))
theorem L21x1 : low Try.prog Try.f21.ntmps (at_ Try.f21 [1, 1, 0, 1, 0, 0]) = some R21x1 := by kernel_rfl
end Go.Ax

/-
  Late: the document's functions: spans compared, what is used, sureness, the warmth (21, 67, 68, 40) (written by program).
-/
namespace Go.Ax
open Go Go.RowKit Go.Proofs

theorem prun_bind {P : Program} {α β : Type} (f : α → Sem β) : ∀ (x : Sem α), prun P (x >>= f) = match prun P x with | some a => prun P (f a) | none => none := by
  intro x
  induction x with
  | pure a => rfl
  | program k ih => exact ih P
  | _ => rfl
theorem prun_pure {P : Program} {α : Type} (a : α) : prun P (pure a) = some a := rfl
theorem prun_und : prun Try.prog (underlying 3) = some (.int .i64) := by kernel_rfl
theorem prun_eqi (d : Nat) (a b : Int) : prun Try.prog (Op.equalIn (d + 1) 3 (iv a) (iv b)) = some (a == b) := by
  rw [Op.equalIn]
  rw [prun_bind, prun_und]
  rfl
theorem prun_und24 : prun Try.prog (underlying 24) = some (.struct #[⟨"Lo", 3, 0, false, "", "", 0⟩, ⟨"Hi", 3, 1, false, "", "", 8⟩]) := by kernel_rfl
theorem st24 : Try.prog.stoodInHeld 24 = false := by kernel_rfl
theorem prun_part0 (a b : Int) : prun Try.prog (part 3 #[iv a, iv b] 0) = some (iv a) := by kernel_rfl
theorem prun_part1 (a b : Int) : prun Try.prog (part 3 #[iv a, iv b] 1) = some (iv b) := by kernel_rfl
theorem prun_eq24 (d : Nat) (a b c e : Int) : prun Try.prog (Op.equalIn (d + 2) 24 (.agg #[iv a, iv b]) (.agg #[iv c, iv e])) = some (a == c && b == e) := by
  rw [Op.equalIn]
  rw [prun_bind, prun_und24]
  simp only []
  rw [prun_bind]
  rw [show prun Try.prog program = some Try.prog from rfl]
  simp only [st24]
  simp only [Bool.false_eq_true, if_false, ↓reduceIte]
  rw [← Array.forIn_toList]
  simp only [List.forIn_cons, List.forIn_nil]
  rw [if_pos (by decide), if_pos (by decide)]
  simp only [prun_bind, prun_part0, prun_part1, prun_eqi]
  generalize (a == c) = u
  cases u
  · simp only [Bool.not_false, ↓reduceIte, prun_pure, Bool.false_and]
  · simp only [Bool.not_true, Bool.false_eq_true, ↓reduceIte, prun_pure, prun_bind, prun_part0, prun_part1, prun_eqi, Bool.true_and]
    generalize (b == e) = w
    cases w
    · simp only [Bool.not_false, ↓reduceIte, prun_pure]
    · simp only [Bool.not_true, Bool.false_eq_true, ↓reduceIte, prun_pure]
theorem md : Op.maxDepth = 9998 + 2 := by decide
/-- two spans, whether they are other ones -/
theorem pure_neq24 {n : Nat} {S : Rg} {d : Option Tmp} {x y : Operand} {p : String} {a b c e : Int} (hx : evS S x = some (.agg #[iv a, iv b])) (hy : evS S y = some (.agg #[iv c, iv e])) :
    pureOp Try.prog (frS n S) ⟨d, .binOp .neq 24 x y 24, 4, p, #[], none⟩ = some (.bool (!(a == c && b == e))) := by
  have key : prun Try.prog (do eqGuard .neq 24 x y (.agg #[iv a, iv b]) (.agg #[iv c, iv e]); binOp .neq 24 (.agg #[iv a, iv b]) (.agg #[iv c, iv e])) = some (.bool (!(a == c && b == e))) := by
    rw [prun_bind]
    have hg : prun Try.prog (eqGuard .neq 24 x y (.agg #[iv a, iv b]) (.agg #[iv c, iv e])) = some () := by kernel_rfl
    rw [hg]
    clear hg
    have hb : binOp .neq 24 (.agg #[iv a, iv b]) (.agg #[iv c, iv e]) = (Op.equal 24 (.agg #[iv a, iv b]) (.agg #[iv c, iv e]) >>= fun r => pure (.bool (!r))) := by kernel_rfl
    simp only [hb]
    rw [prun_bind]
    have heq : Op.equal 24 (.agg #[iv a, iv b]) (.agg #[iv c, iv e]) = Op.equalIn (9998 + 2) 24 (.agg #[iv a, iv b]) (.agg #[iv c, iv e]) := congrArg (fun n => Op.equalIn n 24 (.agg #[iv a, iv b]) (.agg #[iv c, iv e])) md
    rw [heq, prun_eq24]
    rfl
  unfold pureOp
  simp only [ev_frS, hx, hy]
  rw [show (flat (.agg #[iv a, iv b]) && flat (.agg #[iv c, iv e])) = true from rfl, cond_true, key]
  rfl
theorem flB_get {g : Lt} {a b : Int} (h : flB g a b = true) : ∃ s d : Nat, a = s ∧ b = d ∧ s + d ≤ g.wn := by
  simp only [flB, inB, Bool.and_eq_true, decide_eq_true_eq] at h
  exact ⟨a.toNat, b.toNat, by omega, by omega, by omega⟩
section
variable {kn : FuncId → Option Bool} {lo : Nat} {H : Hp}
end
end Go.Ax

/-
  Late: the document's functions: the oxygen (43) (written by program).
-/
namespace Go.Ax
open Go Go.RowKit Go.Proofs

section
variable {kn : FuncId → Option Bool} {lo : Nat} {H : Hp}
end
end Go.Ax

/-
  Late: the document's Warmth, Oxygen and Tells (45, 16, 18, 20) (written by program).
-/
namespace Go.Ax
open Go Go.RowKit Go.Proofs

theorem Lt.Tl.any {g : Lt} {a b : Int} {us : List Int} {w : Value} (h : g.Tl a b us w) : ∃ x y e : Int, w = .tuple #[iv x, iv y, iv e] := by
  rcases h with ⟨_, h⟩ | ⟨_, _, h⟩ | ⟨_, _, _, _, _, _, _, h⟩ <;> exact ⟨_, _, _, h⟩
section
variable {kn : FuncId → Option Bool} {lo : Nat} {H : Hp}
end
end Go.Ax

/-
  Late: the law LateFloods, whatever the input (written by program).
-/
namespace Go.Ax
open Go Go.RowKit Go.Proofs

section
variable {kn : FuncId → Option Bool} {lo : Nat} {H : Hp}
end
end Go.Ax

/-! What 'low' makes of more functions of late (written by program). -/
namespace Go.Ax
open Go Go.RowKit Go.Proofs
theorem N46 : Try.f46.ntmps = 16 := by kernel_rfl
theorem Z46 : Try.f46.results.toList = ((List.toArray [(.cell 4 65), (.tmp 5)]) : Array ResultVar).toList := by kernel_rfl
theorem B46 : Try.f46.body = some (at_ Try.f46 []) := by kernel_rfl
theorem N24 : Try.f24.ntmps = 29 := by kernel_rfl
theorem Z24 : Try.f24.results.toList = ((List.toArray [(.tmp 4), (.tmp 5)]) : Array ResultVar).toList := by kernel_rfl
theorem B24 : Try.f24.body = some (at_ Try.f24 []) := by kernel_rfl
noncomputable def R24 : RC := (.seq (.reg [⟨(some 2), none, (.box 26 (.tmp 0))⟩, ⟨(some 4), none, (.mov (.const (.int .i64 0)))⟩, ⟨(some 5), none, (.mov (.const (.int .i64 0)))⟩])
  (.seq (.reg [⟨(some 10), none, (.lda (.tmp 2) 13)⟩, ⟨(some 11), none, (.mov (.tmp 1))⟩, ⟨(some 12), none, (.call ⟨(.value (.func 46)), (List.toArray [(.tmp 10), (.tmp 11)]), (List.toArray [26, 3])⟩ true)⟩, ⟨(some 9), none, (.mov (.tmp 12))⟩, ⟨(some 13), none, (.pur ⟨(some 13), (.extract (.tmp 9) 0), 65, "", (List.toArray []), none⟩)⟩, ⟨(some 14), none, (.pur ⟨(some 14), (.extract (.tmp 9) 1), 30, "", (List.toArray []), none⟩)⟩, ⟨(some 6), none, (.alc 65 [(.slice none 0 0), (.slice none 0 0), (.int .i64 0), (.int .i64 0), (.int .i64 0), (.int .i64 0), (.int .i64 0), (.int .i64 0), (.int .i64 0), (.int .i64 0), (.int .i64 0), (.int .i64 0), (.int .i64 0), (.int .i64 0), (.int .i64 0), (.int .u64 0)])⟩, ⟨none, none, (.sta (.tmp 6) (.tmp 13) 16)⟩, ⟨(some 7), none, (.mov (.tmp 14))⟩])
  (.seq (.seq (.reg [⟨(some 15), none, (.mov (.tmp 7))⟩, ⟨(some 16), none, (.cmp .neq (.tmp 15) (.const (.int .i64 0)))⟩])
  (.cond (.tmp 16) (.seq (.reg [⟨(some 17), none, (.mov (.tmp 7))⟩, ⟨(some 4), none, (.mov (.const (.int .i64 0)))⟩, ⟨(some 5), none, (.mov (.tmp 17))⟩])
  .ret)
  .skip))
  (.seq (.reg [⟨(some 18), none, (.lda (.tmp 6) 16)⟩, ⟨(some 19), none, (.call ⟨(.value (.func 50)), (List.toArray [(.tmp 18)]), (List.toArray [65])⟩ true)⟩, ⟨(some 8), none, (.alc 72 [(.int .i64 0), (.int .i64 0), (.int .i64 0), (.int .i64 0), (.int .i64 0), (.int .i64 0), (.int .i64 0)])⟩, ⟨none, none, (.sta (.tmp 8) (.tmp 19) 7)⟩])
  (.seq (.seq (.dreg [⟨(some 20), none, (.lda (.tmp 8) 7)⟩, ⟨(some 21), none, (.call ⟨(.value (.func 48)), (List.toArray []), (List.toArray [])⟩ false)⟩, ⟨(some 22), none, (.pur ⟨(some 22), (.binOp .eql 72 (.tmp 20) (.tmp 21) 72), 4, "", (List.toArray []), none⟩)⟩] [3, 0, 0])
  (.cond (.tmp 22) (.seq (.reg [⟨(some 23), none, (.addo (.tmp 6) 13)⟩, ⟨(some 24), none, (.addo (.tmp 23) 1)⟩, ⟨(some 25), none, (.ld (.tmp 24) 1)⟩, ⟨(some 4), none, (.mov (.tmp 25))⟩, ⟨(some 5), none, (.mov (.const (.int .i64 0)))⟩])
  .ret)
  .skip))
  (.seq (.reg [⟨(some 26), none, (.addo (.tmp 8) 0)⟩, ⟨(some 27), none, (.ld (.tmp 26) 1)⟩, ⟨(some 28), none, (.ari .sub (.tmp 27) (.const (.int .i64 1)))⟩, ⟨(some 4), none, (.mov (.tmp 28))⟩, ⟨(some 5), none, (.mov (.const (.int .i64 0)))⟩])
  .ret))))))
theorem L24 : low Try.prog Try.f24.ntmps (at_ Try.f24 []) = some R24 := by kernel_rfl
end Go.Ax

/-
  Late: the longest course; Drowned, Bears (46, 22, 24) (written by program).
-/
namespace Go.Ax
open Go Go.RowKit Go.Proofs

noncomputable def R46v : RC := (.seq (.reg [⟨(some 2), none, (.box 26 (.tmp 0))⟩, ⟨(some 4), none, (.alc 65 [(.slice none 0 0), (.slice none 0 0), (.int .i64 0), (.int .i64 0), (.int .i64 0), (.int .i64 0), (.int .i64 0), (.int .i64 0), (.int .i64 0), (.int .i64 0), (.int .i64 0), (.int .i64 0), (.int .i64 0), (.int .i64 0), (.int .i64 0), (.int .u64 0)])⟩, ⟨(some 5), none, (.mov (.const (.int .i64 0)))⟩])
  (.seq (.other (at_ Try.f46 [1, 0]))
  .ret))
theorem V46 : LV Try.prog 16 (at_ Try.f46 []) R46v := by
  have e : (at_ Try.f46 []) = (.seq (at_ Try.f46 [0]) (.seq (at_ Try.f46 [1, 0]) (at_ Try.f46 [1, 1]))) := by kernel_rfl
  rw [e]
  exact (.seq (.low (by kernel_rfl)) (.seq (.other _) (.low (by kernel_rfl))))
theorem D46p : at_ Try.f46 [1, 0] = .region 1 (opsOf (at_ Try.f46 [1, 0])) false := by kernel_rfl
noncomputable def R46p : List RO := [⟨(some 6), none, (.lda (.tmp 2) 13)⟩, ⟨(some 7), none, (.mov (.tmp 1))⟩, ⟨(some 8), none, (.addo (.tmp 2) 0)⟩, ⟨(some 9), none, (.ld (.tmp 8) 1)⟩, ⟨(some 10), none, (.len (.tmp 9))⟩, ⟨(some 11), none, (.mov (.tmp 1))⟩, ⟨(some 12), none, (.pur ⟨(some 12), (.binOp .sub 3 (.tmp 10) (.tmp 11) 3), 3, "", (List.toArray []), none⟩)⟩, ⟨(some 13), none, (.call ⟨(.value (.func 38)), (List.toArray [(.tmp 6), (.tmp 7), (.tmp 12), (.const (.slice none 0 0))]), (List.toArray [26, 3, 3, 27])⟩ true)⟩, ⟨(some 14), none, (.pur ⟨(some 14), (.extract (.tmp 13) 0), 65, "", (List.toArray []), none⟩)⟩, ⟨(some 15), none, (.pur ⟨(some 15), (.extract (.tmp 13) 1), 30, "", (List.toArray []), none⟩)⟩, ⟨none, none, (.sta (.tmp 4) (.tmp 14) 16)⟩, ⟨(some 5), none, (.mov (.tmp 15))⟩]
theorem P46p : lowROsV Try.prog 16 (opsOf (at_ Try.f46 [1, 0])).toList [6] (opsOf (at_ Try.f46 [1, 0])).toList 0 = some R46p := by kernel_rfl
theorem pure_sub {n : Nat} {S : Rg} {d : Option Tmp} {x y : Operand} {p : String} {a b : Int} (hx : evS S x = some (iv a)) (hy : evS S y = some (iv b)) : pureOp Try.prog (frS n S) ⟨d, .binOp .sub 3 x y 3, 3, p, #[], none⟩ = some (iv (IntKind.i64.wrap (a - b))) := by
  unfold pureOp; simp only [ev_frS, hx, hy]; rfl
theorem prun_und72 : prun Try.prog (underlying 72) = some (.struct #[⟨"days", 3, 0, false, "", "fenberry/late", 0⟩, ⟨"warmth", 24, 1, false, "", "fenberry/late", 8⟩, ⟨"least", 69, 3, false, "", "fenberry/late", 24⟩, ⟨"most", 70, 5, false, "", "fenberry/late", 40⟩]) := by kernel_rfl
theorem st72 : Try.prog.stoodInHeld 72 = false := by kernel_rfl
/-- a state, whether it is the one that a search returns that finds nothing -/
theorem prun_eq72 (d : Nat) {a : Int} {v1 v2 v3 v4 v5 v6 : Value} (h : a ≠ -1) : prun Try.prog (Op.equalIn (d + 2) 72 (.agg #[iv a, v1, v2, v3, v4, v5, v6]) (.agg noneS.toArray)) = some false := by
  rw [Op.equalIn]
  rw [prun_bind, prun_und72]
  simp only []
  rw [prun_bind]
  rw [show prun Try.prog program = some Try.prog from rfl]
  simp only [st72]
  simp only [Bool.false_eq_true, if_false, ↓reduceIte]
  rw [← Array.forIn_toList]
  simp only [List.forIn_cons, List.forIn_nil]
  rw [if_pos (by decide)]
  have e0 : prun Try.prog (part 3 #[iv a, v1, v2, v3, v4, v5, v6] 0) = some (iv a) := by kernel_rfl
  have e1 : prun Try.prog (part 3 noneS.toArray 0) = some (iv (-1)) := by kernel_rfl
  have e2 : (a == -1) = false := by simpa using h
  simp only [prun_bind, e0, e1, prun_eqi, e2, Bool.not_false, ↓reduceIte, prun_pure]
theorem pure_eq72 {n : Nat} {S : Rg} {d : Option Tmp} {x y : Operand} {p : String} {a : Int} {v1 v2 v3 v4 v5 v6 : Value} (hx : evS S x = some (.agg #[iv a, v1, v2, v3, v4, v5, v6])) (hy : evS S y = some (.agg noneS.toArray)) (hv : flat (.agg #[iv a, v1, v2, v3, v4, v5, v6]) = true) (h : a ≠ -1) :
    pureOp Try.prog (frS n S) ⟨d, .binOp .eql 72 x y 72, 4, p, #[], none⟩ = some (.bool false) := by
  have key : prun Try.prog (do eqGuard .eql 72 x y (.agg #[iv a, v1, v2, v3, v4, v5, v6]) (.agg noneS.toArray); binOp .eql 72 (.agg #[iv a, v1, v2, v3, v4, v5, v6]) (.agg noneS.toArray)) = some (.bool false) := by
    rw [prun_bind]
    have hg : prun Try.prog (eqGuard .eql 72 x y (.agg #[iv a, v1, v2, v3, v4, v5, v6]) (.agg noneS.toArray)) = some () := by kernel_rfl
    rw [hg]
    clear hg
    have hb : binOp .eql 72 (.agg #[iv a, v1, v2, v3, v4, v5, v6]) (.agg noneS.toArray) = (Op.equal 72 (.agg #[iv a, v1, v2, v3, v4, v5, v6]) (.agg noneS.toArray) >>= fun r => pure (.bool r)) := by kernel_rfl
    simp only [hb]
    rw [prun_bind]
    have heq : Op.equal 72 (.agg #[iv a, v1, v2, v3, v4, v5, v6]) (.agg noneS.toArray) = Op.equalIn (9998 + 2) 72 (.agg #[iv a, v1, v2, v3, v4, v5, v6]) (.agg noneS.toArray) := congrArg (fun n => Op.equalIn n 72 (.agg #[iv a, v1, v2, v3, v4, v5, v6]) (.agg noneS.toArray)) md
    rw [heq, prun_eq72 _ h]
    rfl
  unfold pureOp
  simp only [ev_frS, hx, hy]
  rw [show (flat (.agg #[iv a, v1, v2, v3, v4, v5, v6]) && flat (.agg noneS.toArray)) = true by rw [hv]; rfl, cond_true, key]
  rfl
theorem pure_eq72n {n : Nat} {S : Rg} {d : Option Tmp} {x y : Operand} {p : String} (hx : evS S x = some (.agg noneS.toArray)) (hy : evS S y = some (.agg noneS.toArray)) :
    pureOp Try.prog (frS n S) ⟨d, .binOp .eql 72 x y 72, 4, p, #[], none⟩ = some (.bool true) := by
  unfold pureOp
  simp only [ev_frS, hx, hy]
  kernel_rfl
theorem res_lc {S : Rg} {H : Hp} {x : Nat} {cs : List Value} {v : Value} (ha : lk S 4 = some (.pointer (some ⟨x, 0, none⟩))) (hb : lk S 5 = some v) (hl : cs.length = 16) (h : Cl H x cs) : resS Try.prog S H [.cell 4 65, .tmp 5] = some [.agg cs.toArray, v] := by
  simp only [resS, ha, hb, load_agg a65 i65s h.rd hl]
/-- what longestCourse answers -/
def Lt.Lc (g : Lt) (a : Int) (w : Value) : Prop :=
  (g.ok = false ∧ w = .tuple #[.agg zeroC.toArray, iv 1]) ∨ (g.ok = true ∧ inB a 0 g.wn = false ∧ w = .tuple #[.agg zeroC.toArray, iv 2]) ∨
  (g.ok = true ∧ ∃ s d : Nat, a = s ∧ s + d = g.wn ∧ w = .tuple #[.agg (crs g s d 0).toArray, iv 0])
theorem Lt.Nc.lc {g : Lt} {a : Int} (hwn : g.wn ≤ 1000) {w : Value} (h : g.Nc a (IntKind.i64.wrap (g.wn - a)) [] w) : g.Lc a w := by
  rcases h with ⟨h1, rfl⟩ | ⟨h1, h2, rfl⟩ | ⟨h1, s, d, rfl, e, h3, _, rfl⟩
  · exact .inl ⟨h1, rfl⟩
  · refine .inr (.inl ⟨h1, ?_, rfl⟩)
    cases hb : inB a 0 g.wn with
    | false => rfl
    | true =>
      have hx := hb
      simp only [inB, Bool.and_eq_true, decide_eq_true_eq] at hx
      rw [wrap_i64 ⟨by omega, by omega⟩] at h2
      simp only [flB, hb, setB, Bool.and_true, Bool.true_and, inB, Bool.and_eq_false_iff, decide_eq_false_iff_not] at h2
      omega
  · have h4 : (s : Int) ≤ g.wn := by omega
    rw [wrap_i64 ⟨by omega, by omega⟩] at e
    exact .inr (.inr ⟨h1, s, d, rfl, by omega, rfl⟩)
/-- what Drowned answers -/
def Lt.Dr (g : Lt) (a : Int) (w : Value) : Prop :=
  (g.ok = false ∧ w = .tuple #[iv 0, iv 1]) ∨ (g.ok = true ∧ inB a 0 g.wn = false ∧ w = .tuple #[iv 0, iv 2]) ∨
  (g.ok = true ∧ ∃ s d : Nat, a = s ∧ s + d = g.wn ∧ ((∃ k, k ≤ d ∧ g.kill ≤ g.wl s k ∧ (∀ j, j < k → g.wl s j < g.kill) ∧ w = .tuple #[iv (k : Int), iv 0]) ∨ ((∀ j, j ≤ d → g.wl s j < g.kill) ∧ w = .tuple #[iv 0, iv 4])))
/-- what Bears answers -/
def Lt.Br (g : Lt) (a : Int) (w : Value) : Prop :=
  (g.ok = false ∧ w = .tuple #[iv 0, iv 1]) ∨ (g.ok = true ∧ inB a 0 g.wn = false ∧ w = .tuple #[iv 0, iv 2]) ∨
  (g.ok = true ∧ ∃ s d m : Nat, a = s ∧ s + d = g.wn ∧ m ≤ d ∧ (∀ j, j ≤ m → g.sl s (Nat.testBit 0) j ≤ g.bear) ∧ (m = d ∨ g.bear < g.sl s (Nat.testBit 0) (m + 1)) ∧ w = .tuple #[iv (m : Int), iv 0])
section
variable {kn : FuncId → Option Bool} {lo : Nat} {H : Hp}
theorem longest_ok {g : Lt} {a : Int} (hw : Sl H g.wa g.wn g.wcap (spc g.ws)) (ha : Sl H g.aa g.an g.acap (spc g.as)) (hwl : g.ws.length = g.wn) (hal : g.as.length = g.an) (hwn : g.wn ≤ 1000) (han : g.an ≤ 1000) (hlo : lo ≤ H.next) :
    ∃ w H', FnX Try.prog kn lo 46 [.agg g.v.toArray, iv a] H w H' ∧ Keep H H' [] ∧ g.Lc a w := by
  refine fnX_lv (P := Try.prog) (kn := kn) (lo := lo) (H := H) (args := [.agg g.v.toArray, iv a]) (Q := fun w H' => Keep H H' [] ∧ g.Lc a w) Try.func46 B46 N46 Z46 V46 (by simp) ?_
  intro H1 hH1; obtain ⟨k1, n1, c1⟩ := new_facts hH1; clear hH1
  have c1 : Cl H1 H.next g.v := c1
  intro H2 hH2; obtain ⟨k2, n2, c2⟩ := new_facts hH2; clear hH2
  have c2 : Cl H2 H1.next zeroC := c2
  have k02 := k1.trans k2
  have d1 := k2.cl c1 (by simp)
  refine tri_regV D46p P46p ?_
  refine Exists.intro _ (Exists.intro _ (And.intro d1.of (And.intro (show row 13 g.v 0 = some g.v from rfl) ?_)))
  refine Exists.intro _ (Exists.intro _ (And.intro d1.of (And.intro (show _ = some (.slice g.wa g.wn g.wcap) from rfl) ?_)))
  refine And.intro rfl (Exists.intro (iv (IntKind.i64.wrap (g.wn - a))) (And.intro (pure_sub rfl rfl) ?_))
  obtain ⟨w, H3, f3, k3, hc⟩ := course_ok (kn := kn) (lo := lo) (H := H2) (g := g) (a := a) (b := IntKind.i64.wrap (g.wn - a)) (us := []) (k02.sl0 hw) (k02.sl0 ha) hwl hal hwn han (la := none) (n := 0) (cap := 0) (.inl ⟨.inl rfl, rfl, rfl, rfl⟩) rfl (by decide) (by omega)
  refine Exists.intro _ (Exists.intro _ (And.intro (callX_args f3) ?_))
  have d2 := k3.cl c2 (by simp)
  have m3 := k3.1
  have hl := hc.lc hwn
  obtain ⟨cs, e, hcl, hone, rfl⟩ : ∃ (cs : List Value) (e : Int), cs.length = 16 ∧ cs.all one = true ∧ w = .tuple #[.agg cs.toArray, iv e] := by
    rcases hc with ⟨_, rfl⟩ | ⟨_, _, rfl⟩ | ⟨_, s, d, _, _, _, _, rfl⟩
    · exact ⟨_, _, rfl, rfl, rfl⟩
    · exact ⟨_, _, rfl, rfl, rfl⟩
    · exact ⟨_, _, rfl, rfl, rfl⟩
  refine And.intro rfl (Exists.intro (.agg cs.toArray) (And.intro (by kernel_rfl) ?_))
  refine And.intro rfl (Exists.intro (iv e) (And.intro (by kernel_rfl) ?_))
  obtain ⟨_, e4, l4, g4⟩ := id d2
  refine Exists.intro _ (Exists.intro _ (Exists.intro _ (And.intro g4 (And.intro (by omega) (And.intro hcl (And.intro hone (And.intro (by simp) ?_)))))))
  intro H4 hH4; obtain ⟨k4, n4, c4⟩ := up_facts d2 hH4; clear hH4
  have c4 : Cl H4 H1.next cs := by
    have e := putRow_all zeroC cs [] (by rw [hcl]; rfl)
    simp only [List.nil_append, List.length_nil] at e
    rw [← e]; exact c4
  have kk := (k02.trans k3).new k4 (fun x hx => .inr (by simp at hx; omega))
  exact And.intro trivial (Exists.intro _ (And.intro (res_lc rfl rfl hcl c4) ⟨kk, hl⟩))
theorem bears_ok (h48 : kn 48 = none) {g : Lt} {a : Int} (hw : Sl H g.wa g.wn g.wcap (spc g.ws)) (ha : Sl H g.aa g.an g.acap (spc g.as)) (hwl : g.ws.length = g.wn) (hal : g.as.length = g.an) (hwn : g.wn ≤ 1000) (han : g.an ≤ 1000) (hlo : lo ≤ H.next) :
    ∃ w H', FnX Try.prog kn lo 24 [.agg g.v.toArray, iv a] H w H' ∧ Keep H H' [] ∧ g.Br a w := by
  refine fnX_low (kn := kn) (lo := lo) (H := H) (args := [.agg g.v.toArray, iv a]) (Q := fun w H' => Keep H H' [] ∧ g.Br a w) Try.func24 B24 N24 Z24 L24 (by simp) ?_
  have hk := Keep.refl H []
  have fw := hw.old; have fa := ha.old
  intro H1 hH1; obtain ⟨kH1, nH1, c1⟩ := new_facts hH1; clear hH1
  have mH1 := kH1.1
  have hk := hk.trans kH1
  have hw := kH1.sl0 hw
  have ha := kH1.sl0 ha
  have c1 : Cl H1 H.next [.slice g.wa g.wn g.wcap, .slice g.aa g.an g.acap, iv g.r1, iv g.r2, iv g.f1, iv g.f2, iv g.g1, iv g.g2, iv g.full, iv g.base, iv g.kill, iv g.need, iv g.bear] := c1
  refine Exists.intro _ (Exists.intro _ (And.intro c1.of (And.intro (show row 13 _ _ = some [.slice g.wa g.wn g.wcap, .slice g.aa g.an g.acap, iv g.r1, iv g.r2, iv g.f1, iv g.f2, iv g.g1, iv g.g2, iv g.full, iv g.base, iv g.kill, iv g.need, iv g.bear] from rfl) ?_)))
  obtain ⟨wH2, H2, fH2, kH2, hc⟩ := longest_ok (kn := kn) (lo := lo) (H := H1) (g := g) (a := a) hw ha hwl hal hwn han (by omega)
  have mH2 := kH2.1
  have hk := hk.trans kH2
  have hw := kH2.sl0 hw
  have ha := kH2.sl0 ha
  have c1 := kH2.cl c1 (by simp)
  rcases hc with ⟨hok, rfl⟩ | ⟨hok, hin, rfl⟩ | ⟨hok, s, d, rfl, hsd, rfl⟩
  · refine Exists.intro _ (Exists.intro _ (And.intro (callX_args fH2) ?_))
    refine And.intro rfl (Exists.intro (.agg zeroC.toArray) (And.intro (by kernel_rfl) ?_))
    refine And.intro rfl (Exists.intro (iv 1) (And.intro (by kernel_rfl) ?_))
    intro H3 hH3; obtain ⟨kH3, nH3, c3⟩ := new_facts hH3; clear hH3
    have c3 : Cl H3 H2.next [.slice none 0 0, .slice none 0 0, iv 0, iv 0, iv 0, iv 0, iv 0, iv 0, iv 0, iv 0, iv 0, iv 0, iv 0, iv 0, iv 0, .int .u64 0] := c3
    have mH3 := kH3.1
    have hk := hk.trans kH3
    have hw := kH3.sl0 hw
    have ha := kH3.sl0 ha
    have c1 := kH3.cl c1 (by simp)
    obtain ⟨_, eH4, lH4, gH4⟩ := id c3
    refine Exists.intro _ (Exists.intro _ (Exists.intro _ (And.intro gH4 (And.intro (by omega) (And.intro rfl (And.intro rfl (And.intro (by simp) ?_)))))))
    intro H4 hH4; obtain ⟨kH4, nH4, sH4⟩ := up_facts c3 hH4; clear hH4
    have mH4 := kH4.1
    have hk := hk.new kH4 (fun b hb => by simp at hb ⊢; omega)
    have hw := kH4.sl hw (fun b e => by have := fw b e; first | (simp; done) | (simp; omega))
    have ha := kH4.sl ha (fun b e => by have := fa b e; first | (simp; done) | (simp; omega))
    have c1 := kH4.cl c1 (by first | (simp; done) | (simp; omega))
    have c3 : Cl H4 H2.next [.slice none 0 0, .slice none 0 0, iv 0, iv 0, iv 0, iv 0, iv 0, iv 0, iv 0, iv 0, iv 0, iv 0, iv 0, iv 0, iv 0, .int .u64 0] := sH4
    refine condT ?_
    exact And.intro trivial (Exists.intro _ (And.intro rfl ⟨hk, Or.inl ⟨hok, rfl⟩⟩))
  · refine Exists.intro _ (Exists.intro _ (And.intro (callX_args fH2) ?_))
    refine And.intro rfl (Exists.intro (.agg zeroC.toArray) (And.intro (by kernel_rfl) ?_))
    refine And.intro rfl (Exists.intro (iv 2) (And.intro (by kernel_rfl) ?_))
    intro H5 hH5; obtain ⟨kH5, nH5, c5⟩ := new_facts hH5; clear hH5
    have c5 : Cl H5 H2.next [.slice none 0 0, .slice none 0 0, iv 0, iv 0, iv 0, iv 0, iv 0, iv 0, iv 0, iv 0, iv 0, iv 0, iv 0, iv 0, iv 0, .int .u64 0] := c5
    have mH5 := kH5.1
    have hk := hk.trans kH5
    have hw := kH5.sl0 hw
    have ha := kH5.sl0 ha
    have c1 := kH5.cl c1 (by simp)
    obtain ⟨_, eH6, lH6, gH6⟩ := id c5
    refine Exists.intro _ (Exists.intro _ (Exists.intro _ (And.intro gH6 (And.intro (by omega) (And.intro rfl (And.intro rfl (And.intro (by simp) ?_)))))))
    intro H6 hH6; obtain ⟨kH6, nH6, sH6⟩ := up_facts c5 hH6; clear hH6
    have mH6 := kH6.1
    have hk := hk.new kH6 (fun b hb => by simp at hb ⊢; omega)
    have hw := kH6.sl hw (fun b e => by have := fw b e; first | (simp; done) | (simp; omega))
    have ha := kH6.sl ha (fun b e => by have := fa b e; first | (simp; done) | (simp; omega))
    have c1 := kH6.cl c1 (by first | (simp; done) | (simp; omega))
    have c5 : Cl H6 H2.next [.slice none 0 0, .slice none 0 0, iv 0, iv 0, iv 0, iv 0, iv 0, iv 0, iv 0, iv 0, iv 0, iv 0, iv 0, iv 0, iv 0, .int .u64 0] := sH6
    refine condT ?_
    exact And.intro trivial (Exists.intro _ (And.intro rfl ⟨hk, Or.inr (Or.inl ⟨hok, hin, rfl⟩)⟩))
  · have v := Lt.vd hok hwl hal
    have hn40 := v.n40
    refine Exists.intro _ (Exists.intro _ (And.intro (callX_args fH2) ?_))
    refine And.intro rfl (Exists.intro (.agg (crs g s d 0).toArray) (And.intro (by kernel_rfl) ?_))
    refine And.intro rfl (Exists.intro (iv 0) (And.intro (by kernel_rfl) ?_))
    intro H7 hH7; obtain ⟨kH7, nH7, c7⟩ := new_facts hH7; clear hH7
    have c7 : Cl H7 H2.next [.slice none 0 0, .slice none 0 0, iv 0, iv 0, iv 0, iv 0, iv 0, iv 0, iv 0, iv 0, iv 0, iv 0, iv 0, iv 0, iv 0, .int .u64 0] := c7
    have mH7 := kH7.1
    have hk := hk.trans kH7
    have hw := kH7.sl0 hw
    have ha := kH7.sl0 ha
    have c1 := kH7.cl c1 (by simp)
    obtain ⟨_, eH8, lH8, gH8⟩ := id c7
    refine Exists.intro _ (Exists.intro _ (Exists.intro _ (And.intro gH8 (And.intro (by omega) (And.intro rfl (And.intro rfl (And.intro (by simp) ?_)))))))
    intro H8 hH8; obtain ⟨kH8, nH8, sH8⟩ := up_facts c7 hH8; clear hH8
    have mH8 := kH8.1
    have hk := hk.new kH8 (fun b hb => by simp at hb ⊢; omega)
    have hw := kH8.sl hw (fun b e => by have := fw b e; first | (simp; done) | (simp; omega))
    have ha := kH8.sl ha (fun b e => by have := fa b e; first | (simp; done) | (simp; omega))
    have c1 := kH8.cl c1 (by first | (simp; done) | (simp; omega))
    have c7 : Cl H8 H2.next [.slice g.wa g.wn g.wcap, .slice g.aa g.an g.acap, iv g.r1, iv g.r2, iv g.f1, iv g.f2, iv g.g1, iv g.g2, iv g.full, iv g.base, iv g.kill, iv g.need, iv g.bear, iv (s : Int), iv (d : Int), .int .u64 (0 : Int)] := sH8
    refine condF ?_
    refine Exists.intro _ (Exists.intro _ (And.intro c7.of (And.intro (show row 16 _ _ = some [.slice g.wa g.wn g.wcap, .slice g.aa g.an g.acap, iv g.r1, iv g.r2, iv g.f1, iv g.f2, iv g.g1, iv g.g2, iv g.full, iv g.base, iv g.kill, iv g.need, iv g.bear, iv (s : Int), iv (d : Int), .int .u64 (0 : Int)] from rfl) ?_)))
    obtain ⟨wH9, H9, fH9, kH9, hres⟩ := hurt_ok (kn := kn) (lo := lo) (H := H8) (m := 0) h48 v (show s + d ≤ g.wn by omega) hw ha (by omega)
    have mH9 := kH9.1
    have hk := hk.trans kH9
    have hw := kH9.sl0 hw
    have ha := kH9.sl0 ha
    have c1 := kH9.cl c1 (by simp)
    have c7 := kH9.cl c7 (by simp)
    rcases hres with ⟨k, hk1, hk2, hk3, rfl⟩ | ⟨hall, rfl⟩
    · refine Exists.intro _ (Exists.intro _ (And.intro (callX_args fH9) ?_))
      intro H10 hH10; obtain ⟨kH10, nH10, c10⟩ := new_facts hH10; clear hH10
      have c10 : Cl H10 H9.next [iv 0, iv 0, iv 0, iv 0, iv 0, iv 0, iv 0] := c10
      have mH10 := kH10.1
      have hk := hk.trans kH10
      have hw := kH10.sl0 hw
      have ha := kH10.sl0 ha
      have c1 := kH10.cl c1 (by simp)
      have c7 := kH10.cl c7 (by simp)
      obtain ⟨_, eH11, lH11, gH11⟩ := id c10
      refine Exists.intro _ (Exists.intro _ (Exists.intro _ (And.intro gH11 (And.intro (by omega) (And.intro rfl (And.intro rfl (And.intro (by simp) ?_)))))))
      intro H11 hH11; obtain ⟨kH11, nH11, sH11⟩ := up_facts c10 hH11; clear hH11
      have mH11 := kH11.1
      have hk := hk.new kH11 (fun b hb => by simp at hb ⊢; omega)
      have hw := kH11.sl hw (fun b e => by have := fw b e; first | (simp; done) | (simp; omega))
      have ha := kH11.sl ha (fun b e => by have := fa b e; first | (simp; done) | (simp; omega))
      have c1 := kH11.cl c1 (by first | (simp; done) | (simp; omega))
      have c7 := kH11.cl c7 (by first | (simp; done) | (simp; omega))
      have c10 : Cl H11 H9.next [iv (k : Int), iv (g.wl s k), iv (g.wh s k), iv (g.lo s (Nat.testBit 0) k), iv (g.sl s (Nat.testBit 0) k), iv (g.hi s (Nat.testBit 0) k), iv (g.sm s (Nat.testBit 0) k)] := sH11
      refine wD_seq ?_
      refine wD_lda (b := H9.next) (o := 0) rfl c10.rd (show row 7 _ _ = some [iv (k : Int), iv (g.wl s k), iv (g.wh s k), iv (g.lo s (Nat.testBit 0) k), iv (g.sl s (Nat.testBit 0) k), iv (g.hi s (Nat.testBit 0) k), iv (g.sm s (Nat.testBit 0) k)] from rfl) ?_
      obtain ⟨H12, fH12, kH12⟩ := none48_ok (kn := kn) (lo := H11.next) (H := H11) (Nat.le_refl _)
      refine wD_callh (vs := []) rfl (by kernel_rfl) (callX_func (by simp [kcall, h48]) (by simpa using fH12)) ?_
      have mH12 := kH12.1
      have hk := hk.trans kH12
      have hw := kH12.sl0 hw
      have ha := kH12.sl0 ha
      have c1 := kH12.cl c1 (by simp)
      have c7 := kH12.cl c7 (by simp)
      have c10 := kH12.cl c10 (by simp)
      refine wD_pur (v := .bool false) rfl (pure_eq72 rfl rfl rfl (by omega)) ?_
      refine wD_end (by repeat' first | exact True.intro | exact (fun h => h) | refine And.intro ?_ ?_ | (intro h; have h : (_ : Nat) = _ := h; omega)) ?_
      refine condF ?_
      have hk0 : 0 < k := by
        rcases Nat.eq_zero_or_pos k with rfl | h
        · have := v.be; simp [Lt.sl] at hk2; omega
        · exact h
      refine Exists.intro _ (Exists.intro _ (And.intro c10.of (And.intro (show _ = some (iv (k : Int)) from rfl) ?_)))
      refine And.intro ⟨by omega, by omega⟩ ?_
      obtain ⟨m, rfl⟩ : ∃ m, k = m + 1 := ⟨k - 1, by omega⟩
      have e : ((m + 1 : Nat) : Int) - 1 = (m : Int) := by omega
      exact And.intro trivial (Exists.intro _ (And.intro rfl ⟨hk, Or.inr (Or.inr ⟨hok, s, d, m, rfl, hsd, by omega, fun j hj => by have := hk3 j (by omega); simp at this; omega, Or.inr (by simp at hk2; omega), by rw [e]; rfl⟩)⟩))
    · refine Exists.intro _ (Exists.intro _ (And.intro (callX_args fH9) ?_))
      intro H13 hH13; obtain ⟨kH13, nH13, c13⟩ := new_facts hH13; clear hH13
      have c13 : Cl H13 H9.next [iv 0, iv 0, iv 0, iv 0, iv 0, iv 0, iv 0] := c13
      have mH13 := kH13.1
      have hk := hk.trans kH13
      have hw := kH13.sl0 hw
      have ha := kH13.sl0 ha
      have c1 := kH13.cl c1 (by simp)
      have c7 := kH13.cl c7 (by simp)
      obtain ⟨_, eH14, lH14, gH14⟩ := id c13
      refine Exists.intro _ (Exists.intro _ (Exists.intro _ (And.intro gH14 (And.intro (by omega) (And.intro rfl (And.intro rfl (And.intro (by simp) ?_)))))))
      intro H14 hH14; obtain ⟨kH14, nH14, sH14⟩ := up_facts c13 hH14; clear hH14
      have mH14 := kH14.1
      have hk := hk.new kH14 (fun b hb => by simp at hb ⊢; omega)
      have hw := kH14.sl hw (fun b e => by have := fw b e; first | (simp; done) | (simp; omega))
      have ha := kH14.sl ha (fun b e => by have := fa b e; first | (simp; done) | (simp; omega))
      have c1 := kH14.cl c1 (by first | (simp; done) | (simp; omega))
      have c7 := kH14.cl c7 (by first | (simp; done) | (simp; omega))
      have c13 : Cl H14 H9.next [iv (-1), iv 0, iv 0, iv 0, iv 0, iv 0, iv 0] := sH14
      refine wD_seq ?_
      refine wD_lda (b := H9.next) (o := 0) rfl c13.rd (show row 7 _ _ = some [iv (-1), iv 0, iv 0, iv 0, iv 0, iv 0, iv 0] from rfl) ?_
      obtain ⟨H15, fH15, kH15⟩ := none48_ok (kn := kn) (lo := H14.next) (H := H14) (Nat.le_refl _)
      refine wD_callh (vs := []) rfl (by kernel_rfl) (callX_func (by simp [kcall, h48]) (by simpa using fH15)) ?_
      have mH15 := kH15.1
      have hk := hk.trans kH15
      have hw := kH15.sl0 hw
      have ha := kH15.sl0 ha
      have c1 := kH15.cl c1 (by simp)
      have c7 := kH15.cl c7 (by simp)
      have c13 := kH15.cl c13 (by simp)
      refine wD_pur (v := .bool true) rfl (pure_eq72n rfl rfl) ?_
      refine wD_end (by repeat' first | exact True.intro | exact (fun h => h) | refine And.intro ?_ ?_ | (intro h; have h : (_ : Nat) = _ := h; omega)) ?_
      refine condT ?_
      refine Exists.intro _ (Exists.intro _ (And.intro c7.of (And.intro (show _ = some (iv (d : Int)) from rfl) ?_)))
      exact And.intro trivial (Exists.intro _ (And.intro rfl ⟨hk, Or.inr (Or.inr ⟨hok, s, d, d, rfl, hsd, Nat.le_refl _, fun j hj => by have := hall j hj; simp at this; omega, Or.inl rfl, rfl⟩)⟩))
end
end Go.Ax

/-
  Late: Best (26) (written by program).
-/
namespace Go.Ax
open Go Go.RowKit Go.Proofs

/-- a flood without fresh days in which both is sure -/
def Lt.fine (g : Lt) (s d : Nat) : Prop := g.kill ≤ g.wl s d ∧ g.sl s (Nat.testBit 0) d ≤ g.bear
theorem Lt.wl_le {g : Lt} {s : Nat} : ∀ {j k : Nat}, j ≤ k → g.wl s j ≤ g.wl s k
  | j, 0, h => by have : j = 0 := by omega
                  subst this; exact Int.le_refl _
  | j, k + 1, h => by
    rcases Nat.lt_or_ge k j with q | q
    · have : j = k + 1 := by omega
      subst this; exact Int.le_refl _
    · have := Lt.wl_le (g := g) (s := s) q
      rw [Lt.wl]; omega
theorem Lt.wh_le {g : Lt} {s : Nat} : ∀ {j k : Nat}, j ≤ k → g.wh s j ≤ g.wh s k
  | j, 0, h => by have : j = 0 := by omega
                  subst this; exact Int.le_refl _
  | j, k + 1, h => by
    rcases Nat.lt_or_ge k j with q | q
    · have : j = k + 1 := by omega
      subst this; exact Int.le_refl _
    · have := Lt.wh_le (g := g) (s := s) q
      rw [Lt.wh]; omega
theorem Lt.sl_le {g : Lt} {s : Nat} {F : Nat → Bool} : ∀ {j k : Nat}, j ≤ k → g.sl s F j ≤ g.sl s F k
  | j, 0, h => by have : j = 0 := by omega
                  subst this; exact Int.le_refl _
  | j, k + 1, h => by
    rcases Nat.lt_or_ge k j with q | q
    · have : j = k + 1 := by omega
      subst this; exact Int.le_refl _
    · have := Lt.sl_le (g := g) (s := s) (F := F) q
      rw [Lt.sl]; cases decide (g.lo s F (k + 1) < g.need) <;> simp only [cond_true, cond_false] <;> omega
theorem Lt.sm_le {g : Lt} {s : Nat} {F : Nat → Bool} : ∀ {j k : Nat}, j ≤ k → g.sm s F j ≤ g.sm s F k
  | j, 0, h => by have : j = 0 := by omega
                  subst this; exact Int.le_refl _
  | j, k + 1, h => by
    rcases Nat.lt_or_ge k j with q | q
    · have : j = k + 1 := by omega
      subst this; exact Int.le_refl _
    · have := Lt.sm_le (g := g) (s := s) (F := F) q
      rw [Lt.sm]; cases decide (g.hi s F (k + 1) < g.need) <;> simp only [cond_true, cond_false] <;> omega
theorem Lt.first {g : Lt} {s k : Nat} (h3 : ∀ j, j < k → g.wl s j < g.kill) {d : Nat} (h : g.fine s d) : k ≤ d := by
  rcases Nat.lt_or_ge d k with q | q
  · have := h3 d q; have := h.1; omega
  · exact q
abbrev Lt.bc (g : Lt) : Option (Nat × Nat) → List Value
  | none => noneS
  | some (a, b) => g.st a (Nat.testBit 0) b
/-- what Best answers -/
def Lt.Bs (g : Lt) (w : Value) : Prop :=
  (g.ok = false ∧ w = .tuple #[iv 0, iv 0, iv 1]) ∨ (g.ok = true ∧ (∀ s d, s + d ≤ g.wn → ¬ g.fine s d) ∧ w = .tuple #[iv 0, iv 0, iv 4]) ∨
  (g.ok = true ∧ ∃ a b : Nat, a + b ≤ g.wn ∧ g.fine a b ∧ (∀ s d, s + d ≤ g.wn → g.fine s d → b < d ∨ (b = d ∧ a ≤ s)) ∧ w = .tuple #[iv (a : Int), iv (b : Int), iv 0])
section
variable {kn : FuncId → Option Bool} {lo : Nat} {H : Hp}
end
end Go.Ax

/-! What 'low' makes of more functions of late (written by program). -/
namespace Go.Ax
open Go Go.RowKit Go.Proofs
end Go.Ax

/-
  Late: the law LateFewest, whatever the input (written by program).
-/
namespace Go.Ax
open Go Go.RowKit Go.Proofs

theorem conv_8 (x : Int) (h2 : 0 ≤ x ∧ x ≤ 255) {S : Rg} {n : Nat} {o : Operand} {d : Option Nat} (hx : evS S o = some (.int .u8 x)) : pureOp Try.prog (frS n S) ⟨d, .convert 5 3 o, 3, "", #[], none⟩ = some (iv x) := by
  have e : ∀ y : Int, prun Try.prog (Go.convert 5 3 (.int .u8 y)) = some (.int .i64 (IntKind.i64.wrap y)) := fun y => by kernel_rfl
  unfold pureOp
  simp only [ev_frS, hx, e, wrap_i64 (x := x) ⟨by omega, by omega⟩]
  rfl
theorem mod_nat {x n : Int} (hx : 0 ≤ x) (hn : 0 < n) : ∃ p : Nat, x % n = (p : Int) ∧ (p : Int) < n := by
  have h1 := Int.emod_nonneg x (show n ≠ 0 by omega)
  have h2 := Int.emod_lt_of_pos x hn
  exact ⟨(x % n).toNat, by omega, by omega⟩
section
variable {kn : FuncId → Option Bool} {lo : Nat} {H : Hp}
end
end Go.Ax

/-
  Late: the document's Drowned, Bears, Best (23, 25, 27); the law LateBests, whatever the input (written by program).
-/
namespace Go.Ax
open Go Go.RowKit Go.Proofs

section
variable {kn : FuncId → Option Bool} {lo : Nat} {H : Hp}
end
theorem Lt.Dr.any {g : Lt} {a : Int} {w : Value} (h : g.Dr a w) : ∃ x e : Int, w = .tuple #[iv x, iv e] := by
  rcases h with ⟨_, h⟩ | ⟨_, _, h⟩ | ⟨_, _, _, _, _, ⟨_, _, _, _, h⟩ | ⟨_, h⟩⟩ <;> exact ⟨_, _, h⟩
theorem Lt.Br.any {g : Lt} {a : Int} {w : Value} (h : g.Br a w) : ∃ x e : Int, w = .tuple #[iv x, iv e] := by
  rcases h with ⟨_, h⟩ | ⟨_, _, h⟩ | ⟨_, _, _, _, _, _, _, _, _, h⟩ <;> exact ⟨_, _, h⟩
theorem Lt.Bs.any {g : Lt} {w : Value} (h : g.Bs w) : ∃ x y e : Int, w = .tuple #[iv x, iv y, iv e] := by
  rcases h with ⟨_, h⟩ | ⟨_, _, h⟩ | ⟨_, _, _, _, _, _, h⟩ <;> exact ⟨_, _, _, h⟩
section
variable {kn : FuncId → Option Bool} {lo : Nat} {H : Hp}
end
end Go.Ax

/-! What 'low' makes of more functions of late (written by program). -/
namespace Go.Ax
open Go Go.RowKit Go.Proofs
theorem N11 : Try.f11.ntmps = 221 := by kernel_rfl
theorem Z11 : Try.f11.results.toList = ((List.toArray [(.tmp 10)]) : Array ResultVar).toList := by kernel_rfl
theorem B11 : Try.f11.body = some (at_ Try.f11 []) := by kernel_rfl
noncomputable def R11 : RC := (.seq (.reg [⟨(some 5), none, (.box 26 (.tmp 0))⟩, ⟨(some 8), none, (.box 56 (.tmp 3))⟩, ⟨(some 10), none, (.mov (.const (.bool false)))⟩])
  (.seq (.seq (.reg [⟨(some 31), none, (.lda (.tmp 5) 13)⟩, ⟨(some 32), none, (.call ⟨(.value (.func 13)), (List.toArray [(.tmp 31), (.const (.slice none 0 0))]), (List.toArray [26, 27])⟩ true)⟩])
  (.cond (.tmp 32) (.seq (.reg [⟨(some 33), none, (.call ⟨(.value (.func 14)), (List.toArray []), (List.toArray [])⟩ true)⟩, ⟨(some 10), none, (.mov (.tmp 33))⟩])
  .ret)
  .skip))
  (.seq (.reg [⟨(some 35), none, (.lda (.tmp 5) 13)⟩, ⟨(some 36), none, (.mov (.tmp 1))⟩, ⟨(some 37), none, (.call ⟨(.value (.func 24)), (List.toArray [(.tmp 35), (.tmp 36)]), (List.toArray [26, 3])⟩ true)⟩, ⟨(some 34), none, (.mov (.tmp 37))⟩, ⟨(some 38), none, (.pur ⟨(some 38), (.extract (.tmp 34) 0), 3, "", (List.toArray []), none⟩)⟩, ⟨(some 39), none, (.pur ⟨(some 39), (.extract (.tmp 34) 1), 30, "", (List.toArray []), none⟩)⟩, ⟨(some 11), none, (.mov (.tmp 38))⟩, ⟨(some 12), none, (.mov (.tmp 39))⟩])
  (.seq (.seq (.reg [⟨(some 40), none, (.mov (.tmp 12))⟩, ⟨(some 41), none, (.cmp .neq (.tmp 40) (.const (.int .i64 0)))⟩])
  (.cond (.tmp 41) (.seq (.reg [⟨(some 42), none, (.mov (.tmp 11))⟩, ⟨(some 43), none, (.cmpb .eql (.tmp 42) (.const (.int .i64 0)))⟩, ⟨(some 44), none, (.mov (.tmp 43))⟩, ⟨(some 45), (some (44, true)), (.call ⟨(.value (.func 14)), (List.toArray []), (List.toArray [])⟩ true)⟩, ⟨(some 46), none, (.pur ⟨(some 46), (.pick (.tmp 44) (.tmp 45) (.const (.bool false))), 4, "", (List.toArray []), none⟩)⟩, ⟨(some 10), none, (.mov (.tmp 46))⟩])
  .ret)
  .skip))
  (.seq (.seq (.reg [⟨(some 47), none, (.lda (.tmp 5) 13)⟩, ⟨(some 48), none, (.call ⟨(.value (.func 33)), (List.toArray [(.tmp 47)]), (List.toArray [26])⟩ true)⟩, ⟨(some 49), none, (.pur ⟨(some 49), (.unOp .not 4 (.tmp 48)), 4, "", (List.toArray []), none⟩)⟩])
  (.cond (.tmp 49) (.seq (.reg [⟨(some 10), none, (.mov (.const (.bool false)))⟩])
  .ret)
  .skip))
  (.seq (.reg [⟨(some 50), none, (.lda (.tmp 5) 13)⟩, ⟨(some 13), none, (.alc 26 [(.slice none 0 0), (.slice none 0 0), (.int .i64 0), (.int .i64 0), (.int .i64 0), (.int .i64 0), (.int .i64 0), (.int .i64 0), (.int .i64 0), (.int .i64 0), (.int .i64 0), (.int .i64 0), (.int .i64 0)])⟩, ⟨none, none, (.sta (.tmp 13) (.tmp 50) 13)⟩])
  (.seq (.reg [⟨(some 51), none, (.pur ⟨(some 51), (.makeFunc (.func 37) (List.toArray []) (List.toArray [(.tmp 8)])), 58, "", (List.toArray []), none⟩)⟩, ⟨(some 14), none, (.mov (.tmp 51))⟩])
  (.seq (.dreg [⟨(some 52), none, (.mov (.tmp 14))⟩, ⟨(some 53), none, (.addo (.tmp 5) 4)⟩, ⟨(some 54), none, (.lda (.tmp 53) 2)⟩, ⟨(some 55), none, (.addo (.tmp 5) 8)⟩, ⟨(some 56), none, (.ld (.tmp 55) 1)⟩, ⟨(some 57), none, (.call ⟨(.value (.tmp 52)), (List.toArray [(.tmp 54), (.tmp 56)]), (List.toArray [24, 3])⟩ false)⟩, ⟨(some 58), none, (.mov (.tmp 14))⟩, ⟨(some 59), none, (.addo (.tmp 5) 6)⟩, ⟨(some 60), none, (.lda (.tmp 59) 2)⟩, ⟨(some 61), none, (.addo (.tmp 5) 8)⟩, ⟨(some 62), none, (.ld (.tmp 61) 1)⟩, ⟨(some 63), none, (.call ⟨(.value (.tmp 58)), (List.toArray [(.tmp 60), (.tmp 62)]), (List.toArray [24, 3])⟩ true)⟩, ⟨(some 64), none, (.addo (.tmp 13) 4)⟩, ⟨none, none, (.sta (.tmp 64) (.tmp 57) 2)⟩, ⟨(some 65), none, (.addo (.tmp 13) 6)⟩, ⟨none, none, (.sta (.tmp 65) (.tmp 63) 2)⟩, ⟨(some 66), none, (.addo (.tmp 13) 1)⟩, ⟨none, none, (.st (.tmp 66) (.const (.slice none 0 0)))⟩] [131071, 65535, 32767, 16383, 8191, 63, 2047, 512, 0, 128, 0, 0, 31, 8, 0, 2, 0, 0])
  (.seq (.seq (.reg [⟨(some 67), none, (.addo (.tmp 5) 1)⟩, ⟨(some 68), none, (.ld (.tmp 67) 1)⟩, ⟨(some 69), none, (.len (.tmp 68))⟩, ⟨(some 70), none, (.mov (.const (.int .i64 0)))⟩])
  (.block 0 (.other (at_ Try.f11 [1, 1, 1, 1, 1, 1, 1, 1, 0, 1, 0]))))
  (.seq (.seq (.reg [⟨(some 84), none, (.lda (.tmp 13) 13)⟩, ⟨(some 85), none, (.mov (.tmp 1))⟩, ⟨(some 86), none, (.call ⟨(.value (.func 24)), (List.toArray [(.tmp 84), (.tmp 85)]), (List.toArray [26, 3])⟩ true)⟩, ⟨(some 83), none, (.mov (.tmp 86))⟩, ⟨(some 87), none, (.pur ⟨(some 87), (.extract (.tmp 83) 0), 3, "", (List.toArray []), none⟩)⟩, ⟨(some 88), none, (.pur ⟨(some 88), (.extract (.tmp 83) 1), 30, "", (List.toArray []), none⟩)⟩, ⟨(some 17), none, (.mov (.tmp 87))⟩, ⟨(some 18), none, (.mov (.tmp 88))⟩])
  (.seq (.reg [⟨(some 89), none, (.mov (.tmp 18))⟩, ⟨(some 90), none, (.cmpb .neq (.tmp 89) (.const (.int .i64 0)))⟩, ⟨(some 91), none, (.mov (.tmp 90))⟩, ⟨(some 92), (some (91, false)), (.mov (.tmp 17))⟩, ⟨(some 93), (some (91, false)), (.mov (.tmp 11))⟩, ⟨(some 94), (some (91, false)), (.cmpb .lss (.tmp 92) (.tmp 93))⟩, ⟨(some 95), none, (.pur ⟨(some 95), (.pick (.tmp 91) (.const (.bool true)) (.tmp 94)), 4, "", (List.toArray []), none⟩)⟩])
  (.cond (.tmp 95) (.seq (.reg [⟨(some 10), none, (.mov (.const (.bool false)))⟩])
  .ret)
  .skip)))
  (.seq (.reg [⟨(some 97), none, (.lda (.tmp 5) 13)⟩, ⟨(some 98), none, (.mov (.tmp 1))⟩, ⟨(some 99), none, (.mov (.tmp 2))⟩, ⟨(some 100), none, (.call ⟨(.value (.func 17)), (List.toArray [(.tmp 97), (.tmp 98), (.tmp 99), (.const (.slice none 0 0))]), (List.toArray [26, 3, 3, 27])⟩ true)⟩, ⟨(some 96), none, (.mov (.tmp 100))⟩, ⟨(some 101), none, (.pur ⟨(some 101), (.extract (.tmp 96) 0), 22, "", (List.toArray []), none⟩)⟩, ⟨(some 102), none, (.pur ⟨(some 102), (.extract (.tmp 96) 1), 30, "", (List.toArray []), none⟩)⟩, ⟨(some 19), none, (.mov (.tmp 101))⟩, ⟨(some 20), none, (.mov (.tmp 102))⟩])
  (.seq (.seq (.reg [⟨(some 103), none, (.mov (.tmp 20))⟩, ⟨(some 104), none, (.cmp .neq (.tmp 103) (.const (.int .i64 0)))⟩])
  (.cond (.tmp 104) (.seq (.reg [⟨(some 105), none, (.call ⟨(.value (.func 14)), (List.toArray []), (List.toArray [])⟩ true)⟩, ⟨(some 10), none, (.mov (.tmp 105))⟩])
  .ret)
  .skip))
  (.seq (.seq (.reg [⟨(some 106), none, (.mov (.tmp 2))⟩, ⟨(some 107), none, (.cmpb .eql (.tmp 106) (.const (.int .i64 0)))⟩, ⟨(some 108), none, (.mov (.tmp 107))⟩, ⟨(some 109), (some (108, false)), (.mov (.tmp 19))⟩, ⟨(some 110), (some (108, false)), (.len (.tmp 109))⟩, ⟨(some 111), (some (108, false)), (.mov (.tmp 2))⟩, ⟨(some 112), (some (108, false)), (.cmpb .neq (.tmp 110) (.tmp 111))⟩, ⟨(some 113), none, (.pur ⟨(some 113), (.pick (.tmp 108) (.const (.bool true)) (.tmp 112)), 4, "", (List.toArray []), none⟩)⟩])
  (.cond (.tmp 113) (.seq (.reg [⟨(some 114), none, (.mov (.tmp 19))⟩, ⟨(some 115), none, (.len (.tmp 114))⟩, ⟨(some 116), none, (.mov (.tmp 2))⟩, ⟨(some 117), none, (.cmpb .eql (.tmp 115) (.tmp 116))⟩, ⟨(some 118), none, (.mov (.tmp 117))⟩, ⟨(some 119), (some (118, true)), (.call ⟨(.value (.func 14)), (List.toArray []), (List.toArray [])⟩ true)⟩, ⟨(some 120), none, (.pur ⟨(some 120), (.pick (.tmp 118) (.tmp 119) (.const (.bool false))), 4, "", (List.toArray []), none⟩)⟩, ⟨(some 10), none, (.mov (.tmp 120))⟩])
  .ret)
  .skip))
  (.seq (.reg [⟨(some 122), none, (.lda (.tmp 5) 13)⟩, ⟨(some 123), none, (.mov (.tmp 1))⟩, ⟨(some 124), none, (.mov (.tmp 2))⟩, ⟨(some 125), none, (.call ⟨(.value (.func 19)), (List.toArray [(.tmp 122), (.tmp 123), (.tmp 124), (.const (.slice none 0 0))]), (List.toArray [26, 3, 3, 27])⟩ true)⟩, ⟨(some 121), none, (.mov (.tmp 125))⟩, ⟨(some 126), none, (.pur ⟨(some 126), (.extract (.tmp 121) 0), 3, "", (List.toArray []), none⟩)⟩, ⟨(some 127), none, (.pur ⟨(some 127), (.extract (.tmp 121) 1), 3, "", (List.toArray []), none⟩)⟩, ⟨(some 128), none, (.pur ⟨(some 128), (.extract (.tmp 121) 2), 30, "", (List.toArray []), none⟩)⟩, ⟨(some 21), none, (.mov (.tmp 126))⟩, ⟨(some 22), none, (.mov (.tmp 127))⟩, ⟨(some 23), none, (.mov (.tmp 128))⟩])
  (.seq (.reg [⟨(some 130), none, (.lda (.tmp 5) 13)⟩, ⟨(some 131), none, (.mov (.tmp 1))⟩, ⟨(some 132), none, (.mov (.tmp 2))⟩, ⟨(some 133), none, (.ari .sub (.tmp 132) (.const (.int .i64 1)))⟩, ⟨(some 134), none, (.call ⟨(.value (.func 19)), (List.toArray [(.tmp 130), (.tmp 131), (.tmp 133), (.const (.slice none 0 0))]), (List.toArray [26, 3, 3, 27])⟩ true)⟩, ⟨(some 129), none, (.mov (.tmp 134))⟩, ⟨(some 135), none, (.pur ⟨(some 135), (.extract (.tmp 129) 0), 3, "", (List.toArray []), none⟩)⟩, ⟨(some 136), none, (.pur ⟨(some 136), (.extract (.tmp 129) 1), 3, "", (List.toArray []), none⟩)⟩, ⟨(some 137), none, (.pur ⟨(some 137), (.extract (.tmp 129) 2), 30, "", (List.toArray []), none⟩)⟩, ⟨(some 24), none, (.mov (.tmp 135))⟩, ⟨(some 25), none, (.mov (.tmp 136))⟩, ⟨(some 26), none, (.mov (.tmp 137))⟩])
  (.seq (.seq (.reg [⟨(some 138), none, (.mov (.tmp 23))⟩, ⟨(some 139), none, (.cmpb .neq (.tmp 138) (.const (.int .i64 0)))⟩, ⟨(some 140), none, (.mov (.tmp 139))⟩, ⟨(some 141), (some (140, false)), (.mov (.tmp 26))⟩, ⟨(some 142), (some (140, false)), (.cmpb .neq (.tmp 141) (.const (.int .i64 0)))⟩, ⟨(some 143), none, (.pur ⟨(some 143), (.pick (.tmp 140) (.const (.bool true)) (.tmp 142)), 4, "", (List.toArray []), none⟩)⟩, ⟨(some 144), none, (.mov (.tmp 143))⟩, ⟨(some 145), (some (144, false)), (.mov (.tmp 24))⟩, ⟨(some 146), (some (144, false)), (.mov (.tmp 21))⟩, ⟨(some 147), (some (144, false)), (.cmpb .gtr (.tmp 145) (.tmp 146))⟩, ⟨(some 148), none, (.pur ⟨(some 148), (.pick (.tmp 144) (.const (.bool true)) (.tmp 147)), 4, "", (List.toArray []), none⟩)⟩, ⟨(some 149), none, (.mov (.tmp 148))⟩, ⟨(some 150), (some (149, false)), (.mov (.tmp 25))⟩, ⟨(some 151), (some (149, false)), (.mov (.tmp 22))⟩, ⟨(some 152), (some (149, false)), (.cmpb .gtr (.tmp 150) (.tmp 151))⟩, ⟨(some 153), none, (.pur ⟨(some 153), (.pick (.tmp 149) (.const (.bool true)) (.tmp 152)), 4, "", (List.toArray []), none⟩)⟩])
  (.cond (.tmp 153) (.seq (.reg [⟨(some 10), none, (.mov (.const (.bool false)))⟩])
  .ret)
  .skip))
  (.seq (.reg [⟨(some 154), none, (.mov (.tmp 1))⟩, ⟨(some 155), none, (.mov (.tmp 4))⟩, ⟨(some 156), none, (.pur ⟨(some 156), (.convert 5 3 (.tmp 155)), 3, "", (List.toArray []), none⟩)⟩, ⟨(some 157), none, (.mov (.tmp 2))⟩, ⟨(some 158), none, (.ari .rem (.tmp 156) (.tmp 157))⟩, ⟨(some 159), none, (.ari .add (.tmp 154) (.tmp 158))⟩, ⟨(some 27), none, (.mov (.tmp 159))⟩])
  (.seq (.reg [⟨(some 161), none, (.lda (.tmp 5) 13)⟩, ⟨(some 162), none, (.mov (.tmp 1))⟩, ⟨(some 163), none, (.mov (.tmp 2))⟩, ⟨(some 164), none, (.mov (.tmp 27))⟩, ⟨(some 165), none, (.mem ⟨(some 165), (.buildSlice 27 1 (List.toArray [(0, (.tmp 164))])), 27, "", (List.toArray []), none⟩)⟩, ⟨(some 166), none, (.call ⟨(.value (.func 17)), (List.toArray [(.tmp 161), (.tmp 162), (.tmp 163), (.tmp 165)]), (List.toArray [26, 3, 3, 27])⟩ true)⟩, ⟨(some 160), none, (.mov (.tmp 166))⟩, ⟨(some 167), none, (.pur ⟨(some 167), (.extract (.tmp 160) 0), 22, "", (List.toArray []), none⟩)⟩, ⟨(some 168), none, (.pur ⟨(some 168), (.extract (.tmp 160) 1), 30, "", (List.toArray []), none⟩)⟩, ⟨(some 28), none, (.mov (.tmp 167))⟩, ⟨(some 23), none, (.mov (.tmp 168))⟩])
  (.seq (.reg [⟨(some 169), none, (.lda (.tmp 5) 13)⟩, ⟨(some 29), none, (.alc 26 [(.slice none 0 0), (.slice none 0 0), (.int .i64 0), (.int .i64 0), (.int .i64 0), (.int .i64 0), (.int .i64 0), (.int .i64 0), (.int .i64 0), (.int .i64 0), (.int .i64 0), (.int .i64 0), (.int .i64 0)])⟩, ⟨none, none, (.sta (.tmp 29) (.tmp 169) 13)⟩])
  (.seq (.reg [⟨(some 170), none, (.addo (.tmp 5) 6)⟩, ⟨(some 171), none, (.lda (.tmp 170) 2)⟩, ⟨(some 172), none, (.addo (.tmp 29) 4)⟩, ⟨none, none, (.sta (.tmp 172) (.tmp 171) 2)⟩])
  (.seq (.reg [⟨(some 174), none, (.lda (.tmp 29) 13)⟩, ⟨(some 175), none, (.mov (.tmp 27))⟩, ⟨(some 176), none, (.mov (.tmp 1))⟩, ⟨(some 177), none, (.mov (.tmp 2))⟩, ⟨(some 178), none, (.ari .add (.tmp 176) (.tmp 177))⟩, ⟨(some 179), none, (.mov (.tmp 27))⟩, ⟨(some 180), none, (.ari .sub (.tmp 178) (.tmp 179))⟩, ⟨(some 181), none, (.call ⟨(.value (.func 17)), (List.toArray [(.tmp 174), (.tmp 175), (.tmp 180), (.const (.slice none 0 0))]), (List.toArray [26, 3, 3, 27])⟩ true)⟩, ⟨(some 173), none, (.mov (.tmp 181))⟩, ⟨(some 182), none, (.pur ⟨(some 182), (.extract (.tmp 173) 0), 22, "", (List.toArray []), none⟩)⟩, ⟨(some 183), none, (.pur ⟨(some 183), (.extract (.tmp 173) 1), 30, "", (List.toArray []), none⟩)⟩, ⟨(some 30), none, (.mov (.tmp 182))⟩, ⟨(some 26), none, (.mov (.tmp 183))⟩])
  (.seq (.dreg [⟨(some 184), none, (.mov (.tmp 23))⟩, ⟨(some 185), none, (.cmpb .eql (.tmp 184) (.const (.int .i64 0)))⟩, ⟨(some 186), none, (.mov (.tmp 185))⟩, ⟨(some 187), (some (186, true)), (.mov (.tmp 26))⟩, ⟨(some 188), (some (186, true)), (.cmpb .eql (.tmp 187) (.const (.int .i64 0)))⟩, ⟨(some 189), none, (.pur ⟨(some 189), (.pick (.tmp 186) (.tmp 188) (.const (.bool false))), 4, "", (List.toArray []), none⟩)⟩, ⟨(some 190), none, (.mov (.tmp 189))⟩, ⟨(some 191), (some (190, true)), (.mov (.tmp 28))⟩, ⟨(some 192), (some (190, true)), (.len (.tmp 191))⟩, ⟨(some 193), (some (190, true)), (.mov (.tmp 2))⟩, ⟨(some 194), (some (190, true)), (.cmpb .eql (.tmp 192) (.tmp 193))⟩, ⟨(some 195), none, (.pur ⟨(some 195), (.pick (.tmp 190) (.tmp 194) (.const (.bool false))), 4, "", (List.toArray []), none⟩)⟩, ⟨(some 196), none, (.mov (.tmp 195))⟩, ⟨(some 197), (some (196, true)), (.mov (.tmp 28))⟩, ⟨(some 198), (some (196, true)), (.mov (.tmp 27))⟩, ⟨(some 199), (some (196, true)), (.mov (.tmp 1))⟩, ⟨(some 200), (some (196, true)), (.ari .sub (.tmp 198) (.tmp 199))⟩, ⟨(some 201), (some (196, true)), (.mem ⟨(some 201), (.slice 22 (.tmp 197) (some (.tmp 200)) none none), 22, "", (List.toArray []), none⟩)⟩, ⟨(some 202), (some (196, true)), (.mov (.tmp 30))⟩, ⟨(some 203), (some (196, true)), (.call ⟨(.value (.func 21)), (List.toArray [(.tmp 201), (.tmp 202)]), (List.toArray [22, 22])⟩ true)⟩, ⟨(some 204), none, (.pur ⟨(some 204), (.pick (.tmp 196) (.tmp 203) (.const (.bool false))), 4, "", (List.toArray []), none⟩)⟩, ⟨(some 205), none, (.mov (.tmp 204))⟩, ⟨(some 206), (some (205, true)), (.mov (.tmp 28))⟩, ⟨(some 207), (some (205, true)), (.mov (.tmp 27))⟩, ⟨(some 208), (some (205, true)), (.mov (.tmp 1))⟩, ⟨(some 209), (some (205, true)), (.ari .sub (.tmp 207) (.tmp 208))⟩, ⟨(some 210), (some (205, true)), (.mem ⟨(some 210), (.slice 22 (.tmp 206) none (some (.tmp 209)) none), 22, "", (List.toArray []), none⟩)⟩, ⟨(some 211), (some (205, true)), (.mov (.tmp 19))⟩, ⟨(some 212), (some (205, true)), (.mov (.tmp 27))⟩, ⟨(some 213), (some (205, true)), (.mov (.tmp 1))⟩, ⟨(some 214), (some (205, true)), (.ari .sub (.tmp 212) (.tmp 213))⟩, ⟨(some 215), (some (205, true)), (.mem ⟨(some 215), (.slice 22 (.tmp 211) none (some (.tmp 214)) none), 22, "", (List.toArray []), none⟩)⟩, ⟨(some 216), (some (205, true)), (.call ⟨(.value (.func 21)), (List.toArray [(.tmp 210), (.tmp 215)]), (List.toArray [22, 22])⟩ true)⟩, ⟨(some 217), none, (.pur ⟨(some 217), (.pick (.tmp 205) (.tmp 216) (.const (.bool false))), 4, "", (List.toArray []), none⟩)⟩, ⟨(some 218), none, (.mov (.tmp 217))⟩, ⟨(some 219), (some (218, true)), (.call ⟨(.value (.func 14)), (List.toArray []), (List.toArray [])⟩ true)⟩, ⟨(some 220), none, (.pur ⟨(some 220), (.pick (.tmp 218) (.tmp 219) (.const (.bool false))), 4, "", (List.toArray []), none⟩)⟩, ⟨(some 10), none, (.mov (.tmp 220))⟩] [137438953471, 68719476735, 34359738367, 17179869183, 8589934591, 4294967295, 2017460223, 809500671, 4194303, 4194303, 4194303, 67108863, 29360127, 4194303, 4194303, 4194303, 2097151, 1048575, 524287, 8191, 131071, 57343, 8191, 8191, 8191, 4095, 2047, 1023, 127, 255, 127, 63, 31, 15, 7, 3, 1, 0])
  .ret))))))))))))))))))))))
theorem L11 : low Try.prog Try.f11.ntmps (at_ Try.f11 []) = some R11 := by kernel_rfl
theorem E11_1 : at_ Try.f11 [1, 1, 1, 1, 1, 1, 1, 1, 0, 1, 0] = .loop (at_ Try.f11 [1, 1, 1, 1, 1, 1, 1, 1, 0, 1, 0, 0]) := by kernel_rfl
noncomputable def R11x1 : RC := (.seq (.reg [⟨(some 71), none, (.cmp .lss (.tmp 70) (.tmp 69))⟩])
  (.seq (.cond (.tmp 71) .skip
  (.exit 0))
  (.seq (.block 1 (.seq (.reg [⟨(some 72), none, (.idx (.tmp 68) (.tmp 70) 2)⟩, ⟨(some 73), none, (.lda (.tmp 72) 2)⟩, ⟨(some 16), none, (.alc 24 [(.int .i64 0), (.int .i64 0)])⟩, ⟨none, none, (.sta (.tmp 16) (.tmp 73) 2)⟩])
  (.dreg [⟨(some 74), none, (.addo (.tmp 13) 1)⟩, ⟨(some 75), none, (.ld (.tmp 74) 1)⟩, ⟨(some 76), none, (.mov (.tmp 14))⟩, ⟨(some 77), none, (.lda (.tmp 16) 2)⟩, ⟨(some 78), none, (.call ⟨(.value (.tmp 76)), (List.toArray [(.tmp 77), (.const (.int .i64 20000))]), (List.toArray [24, 3])⟩ false)⟩, ⟨(some 79), none, (.mem ⟨(some 79), (.buildSlice 22 1 (List.toArray [(0, (.tmp 78))])), 22, "", (List.toArray []), none⟩)⟩, ⟨(some 80), none, (.mem ⟨(some 80), (.call ⟨(.builtin .append), (List.toArray [(.tmp 75), (.tmp 79)]), (List.toArray [22, 22])⟩), 22, "", (List.toArray []), none⟩)⟩, ⟨(some 81), none, (.addo (.tmp 13) 1)⟩, ⟨none, none, (.st (.tmp 81) (.tmp 80))⟩] [255, 127, 63, 28, 12, 0, 0, 1, 0])))
  (.reg [⟨(some 82), none, (.ari .add (.tmp 70) (.const (.int .i64 1)))⟩, ⟨(some 70), none, (.mov (.tmp 82))⟩]))))
theorem L11x1 : low Try.prog Try.f11.ntmps (at_ Try.f11 [1, 1, 1, 1, 1, 1, 1, 1, 0, 1, 0, 0]) = some R11x1 := by kernel_rfl
theorem N37 : Try.f37.ntmps = 21 := by kernel_rfl
theorem Z37 : Try.f37.results.toList = ((List.toArray [(.cell 5 24)]) : Array ResultVar).toList := by kernel_rfl
theorem B37 : Try.f37.body = some (at_ Try.f37 []) := by kernel_rfl
noncomputable def R37 : RC := (.seq (.reg [⟨(some 3), none, (.box 24 (.tmp 0))⟩, ⟨(some 5), none, (.alc 24 [(.int .i64 0), (.int .i64 0)])⟩])
  (.seq (.reg [⟨(some 6), none, (.mov (.tmp 1))⟩, ⟨(some 7), none, (.addo (.tmp 3) 0)⟩, ⟨(some 8), none, (.ld (.tmp 7) 1)⟩, ⟨(some 9), none, (.ld (.tmp 2) 1)⟩, ⟨(some 10), none, (.pur ⟨(some 10), (.convert 56 3 (.tmp 9)), 3, "", (List.toArray []), none⟩)⟩, ⟨(some 11), none, (.ari .add (.tmp 8) (.tmp 10))⟩, ⟨(some 12), none, (.mm true (.tmp 6) (.tmp 11))⟩, ⟨(some 13), none, (.mov (.tmp 1))⟩, ⟨(some 14), none, (.addo (.tmp 3) 1)⟩, ⟨(some 15), none, (.ld (.tmp 14) 1)⟩, ⟨(some 16), none, (.ld (.tmp 2) 1)⟩, ⟨(some 17), none, (.pur ⟨(some 17), (.convert 56 3 (.tmp 16)), 3, "", (List.toArray []), none⟩)⟩, ⟨(some 18), none, (.ari .add (.tmp 15) (.tmp 17))⟩, ⟨(some 19), none, (.mm true (.tmp 13) (.tmp 18))⟩, ⟨(some 20), none, (.pur ⟨(some 20), (.build 24 (List.toArray [(0, (.tmp 12)), (1, (.tmp 19))])), 24, "", (List.toArray []), none⟩)⟩, ⟨none, none, (.sta (.tmp 5) (.tmp 20) 2)⟩])
  .ret))
theorem L37 : low Try.prog Try.f37.ntmps (at_ Try.f37 []) = some R37 := by kernel_rfl
end Go.Ax

/-
  Late: for LateMore, LateEnds, LateOwns: more of everything, a fresh day, parts of lists (37, 36, 21, 17) (written by program).
-/
namespace Go.Ax
open Go Go.RowKit Go.Proofs

/-- A block that append has made. -/
def Lz (H : Hp) (b : Nat) (cs : List Value) : Prop := b < H.next ∧ H.t.get b = some (.cells cs 24 true)
theorem Keep.lz {H H1 : Hp} {l : List Nat} (h : Keep H H1 l) {b : Nat} {cs : List Value} (hc : Lz H b cs) (hl : b ∉ l) : Lz H1 b cs :=
  ⟨Nat.lt_of_lt_of_le hc.1 h.1, by rw [h.2 b hc.1 hl]; exact hc.2⟩
theorem KeepB.lz {f : Nat} {H H1 : Hp} {b : Nat} {cs : List Value} (h : KeepB f H H1) (hc : Lz H b cs) (hb : b < f) : Lz H1 b cs :=
  ⟨Nat.lt_of_lt_of_le hc.1 h.1, by rw [h.2 b hb]; exact hc.2⟩
theorem Lz.rd {H : Hp} {b : Nat} {cs : List Value} (h : Lz H b cs) : Rd H b cs := ⟨h.1, by unfold cellsOf; rw [h.2]⟩
theorem Lz.cl {H : Hp} {b : Nat} {cs : List Value} (h : Lz H b cs) : Cl H b cs := ⟨h.1, _, _, h.2⟩
theorem Acc.lz {lo f : Nat} {H : Hp} {v : Value} {n : Nat} {cs : List Value} (h : Acc lo f 24 H v n cs) (h0 : 0 < n) : ∃ b, v = .slice (some ⟨b, 0, none⟩) n n ∧ f ≤ b ∧ lo ≤ b ∧ Lz H b cs := by
  rcases h with ⟨h, _⟩ | ⟨b, e, _, hf, hl, hn, hg⟩
  · omega
  · exact ⟨b, e, hf, hl, hn, hg⟩
theorem Acc.nil {lo f : Nat} {e : TypeId} {H : Hp} {v : Value} {cs : List Value} (h : Acc lo f e H v 0 cs) : v = .slice none 0 0 := by
  rcases h with ⟨_, _, h⟩ | ⟨_, _, h, _⟩
  · exact h
  · omega
/-- some spans in a row, in a block -/
def Vw (H : Hp) (a : Option Addr) (ss : List (Int × Int)) : Prop := ss = [] ∨ ∃ b o cs, a = some ⟨b, o, none⟩ ∧ Rd H b cs ∧ ∀ i s, ss[i]? = some s → row 2 cs (o + i * 2) = some [iv s.1, iv s.2]
theorem Rd.vw {H : Hp} {b k : Nat} {ss : List (Int × Int)} (h : Rd H b (spc ss)) : Vw H (some ⟨b, k * 2, none⟩) (ss.drop k) := by
  refine .inr ⟨b, k * 2, spc ss, rfl, h, fun i s hs => ?_⟩
  rw [List.getElem?_drop] at hs
  have := spc_row hs
  rw [show 0 + (k + i) * 2 = k * 2 + i * 2 by omega] at this
  exact this
theorem Rd.vw0 {H : Hp} {b k : Nat} {ss : List (Int × Int)} (h : Rd H b (spc ss)) : Vw H (some ⟨b, 0, none⟩) (ss.take k) := by
  refine .inr ⟨b, 0, spc ss, rfl, h, fun i s hs => ?_⟩
  rw [List.getElem?_take] at hs
  split at hs
  · exact spc_row hs
  · cases hs
theorem Rd.vwA {H : Hp} {b : Nat} {ss : List (Int × Int)} (h : Rd H b (spc ss)) : Vw H (some ⟨b, 0, none⟩) ss :=
  .inr ⟨b, 0, spc ss, rfl, h, fun i s hs => spc_row hs⟩
theorem Keep.vw {H H1 : Hp} {l : List Nat} (h : Keep H H1 l) {a : Option Addr} {ss : List (Int × Int)} (hc : Vw H a ss) (hl : ∀ b o, a = some ⟨b, o, none⟩ → b ∉ l) : Vw H1 a ss :=
  hc.imp id fun ⟨b, o, cs, e, r, q⟩ => ⟨b, o, cs, e, h.rd r (hl b o e), q⟩
theorem conv_16 (x : Int) (h2 : 0 ≤ x ∧ x ≤ 65535) {S : Rg} {n : Nat} {o : Operand} {d : Option Nat} (hx : evS S o = some (.int .u16 x)) : pureOp Try.prog (frS n S) ⟨d, .convert 56 3 o, 3, "", #[], none⟩ = some (iv x) := by
  have e : ∀ y : Int, prun Try.prog (Go.convert 56 3 (.int .u16 y)) = some (.int .i64 (IntKind.i64.wrap y)) := fun y => by kernel_rfl
  unfold pureOp
  simp only [ev_frS, hx, e, wrap_i64 (x := x) ⟨by omega, by omega⟩]
  rfl
theorem in24 : ∃ i, Try.prog.info? 24 = some i ∧ i.size = 2 := by
  have h : (Try.prog.info? 24).map (fun i => Nat.beq i.size 2) = some true := by kernel_rfl
  cases e : Try.prog.info? 24 with
  | none => rw [e] at h; cases h
  | some i => rw [e] at h; exact ⟨i, rfl, by simpa using h⟩
/-- the end of a list of spans -/
theorem heap_from {lo n : Nat} {S : Rg} {H : Hp} {d : Option Tmp} {ty : TypeId} {x y : Operand} {p : String} {m b k : Nat} {j : Int} {cs : List Value} (h0 : Lz H b cs) (hx : evS S x = some (.slice (some ⟨b, 0, none⟩) m m)) (hy : evS S y = some (iv j)) (hj : j = (k : Int)) (hk : k < m) :
    heapOp Try.prog lo (frS n S) H ⟨d, .slice 22 x (some y) none none, ty, p, #[], none⟩ = some (.val (.slice (some ⟨b, k * 2, none⟩) (m - k) (m - k)) H, .read b) := by
  subst hj
  obtain ⟨i, hi, hs⟩ := in24
  have hb : boundOf (frS n S) 0 (some y) = some k := by unfold boundOf; simp only [ev_frS, hy]
  have hb0 : boundOf (frS n S) m none = some m := rfl
  have hne : Nat.beq k m = false := by
    cases h : Nat.beq k m
    · rfl
    · have := Nat.eq_of_beq_eq_true h; omega
  unfold heapOp
  simp only [ev_frS, hx, u22, hi, hb, hb0, h0.2, hs, hne, Nat.beq_refl, Nat.ble_eq_true_of_le (Nat.le_refl m), Nat.ble_eq_true_of_le (Nat.le_of_lt hk), show Nat.beq 2 0 = false from rfl, Bool.not_false, Bool.true_or, Bool.and_self, cond_true, add_none, Nat.zero_add]
/-- the beginning of a list of spans -/
theorem heap_to {lo n : Nat} {S : Rg} {H : Hp} {d : Option Tmp} {ty : TypeId} {x y : Operand} {p : String} {m b k : Nat} {j : Int} {cs : List Value} (h0 : Lz H b cs) (hx : evS S x = some (.slice (some ⟨b, 0, none⟩) m m)) (hy : evS S y = some (iv j)) (hj : j = (k : Int)) (hk : k ≤ m) :
    heapOp Try.prog lo (frS n S) H ⟨d, .slice 22 x none (some y) none, ty, p, #[], none⟩ = some (.val (.slice (some ⟨b, 0, none⟩) k m) H, .read b) := by
  subst hj
  obtain ⟨i, hi, hs⟩ := in24
  have hb : boundOf (frS n S) m (some y) = some k := by unfold boundOf; simp only [ev_frS, hy]
  have hb0 : boundOf (frS n S) 0 none = some 0 := rfl
  unfold heapOp
  simp only [ev_frS, hx, u22, hi, hb, hb0, h0.2, hs, Nat.beq_refl, Nat.ble_eq_true_of_le hk, Nat.ble_eq_true_of_le (Nat.zero_le k), show Nat.beq 2 0 = false from rfl, Bool.not_false, Bool.or_true, Bool.and_self, cond_true, Nat.zero_mul, add_none, Nat.sub_zero, Nat.add_zero]
theorem wOps_nil {P : Program} {kn : FuncId → Option Bool} {lo n : Nat} {S : Rg} {H : Hp} {K : Rg → Hp → Prop} (h : K S H) : wOps P kn lo n [] S H K := h
/-- a valid forecast, by its numbers -/
theorem Lt.ok_of {g : Lt} (v : g.Vd) : g.ok = true := by
  simp only [Lt.ok, Bool.and_eq_true, decide_eq_true_eq, List.all_eq_true, spanB, inB]
  have := v.r; have := v.fu; have := v.f; have := v.gr; have := v.b; have := v.k; have := v.ne; have := v.be
  refine ⟨⟨⟨⟨⟨⟨⟨⟨⟨⟨⟨v.n, v.n40⟩, fun s hs => ?_⟩, fun s hs => ?_⟩, ?_⟩, ?_⟩, ?_⟩, ?_⟩, ?_⟩, ?_⟩, ?_⟩, ?_⟩
  · have := v.w s hs; omega
  · have := v.a s hs; omega
  all_goals omega
def moreS (m x : Int) (s : Int × Int) : Int × Int := (min m (s.1 + x), min m (s.2 + x))
/-- with more oxygen -/
abbrev Lt.rich (g : Lt) (x : Int) (aa : Option Addr) (acap : Nat) : Lt := ⟨g.wa, g.wn, g.wcap, g.ws, aa, g.an, acap, g.as.map (moreS 20000 x), g.r1, g.r2, min g.full (g.f1 + x), min g.full (g.f2 + x), min g.full (g.g1 + x), min g.full (g.g2 + x), g.full, g.base, g.kill, g.need, g.bear⟩
theorem Lt.rich_vd {g : Lt} (v : g.Vd) {x : Int} (hx : 0 ≤ x) {aa : Option Addr} {acap : Nat} : (g.rich x aa acap).Vd := by
  have h1 := v.f; have h2 := v.gr; have h3 := v.fu
  refine ⟨v.n, v.n40, v.wl, (by show (g.as.map _).length = _; rw [List.length_map]; exact v.al), v.w, fun s hs => ?_, v.r, v.fu, ?_, ?_, v.b, v.k, v.ne, v.be⟩
  · obtain ⟨t, ht, rfl⟩ := List.mem_map.1 hs
    have := v.a t ht
    unfold moreS; simp only; omega
  · show 0 ≤ min g.full (g.f1 + x) ∧ min g.full (g.f1 + x) ≤ min g.full (g.f2 + x) ∧ min g.full (g.f2 + x) ≤ g.full
    omega
  · show 0 ≤ min g.full (g.g1 + x) ∧ min g.full (g.g1 + x) ≤ min g.full (g.g2 + x) ∧ min g.full (g.g2 + x) ≤ g.full
    omega
theorem Lt.rich_A {g : Lt} (v : g.Vd) {x : Int} {aa : Option Addr} {acap i : Nat} (h : i < g.wn) : (g.rich x aa acap).A i = moreS 20000 x (g.A i) := by
  have e := (Lt.A_in v h).1
  show (g.as.map (moreS 20000 x)).getD i (0, 0) = _
  rw [List.getD_eq_getElem?_getD, List.getElem?_map, e]; rfl
theorem Lt.rich_lo {g : Lt} (v : g.Vd) {x : Int} (hx : 0 ≤ x) {aa : Option Addr} {acap s : Nat} : ∀ k, s + k ≤ g.wn → g.lo s (Nat.testBit 0) k ≤ (g.rich x aa acap).lo s (Nat.testBit 0) k
  | 0, _ => by
    have h1 := v.f
    show g.f1 ≤ min g.full (g.f1 + x)
    omega
  | k + 1, h => by
    have ih := Lt.rich_lo v hx (aa := aa) (acap := acap) (s := s) k (by omega)
    have ha := (Lt.A_in v (i := s + k) (by omega)).2
    rw [Lt.lo, Lt.lo]
    unfold Lt.loDay
    rw [Lt.rich_A v (by omega)]
    show min (max 0 ((bif (Nat.testBit 0 (s + k)) then g.g1 else g.lo s (Nat.testBit 0) k) + ((g.A (s + k)).1 - (g.r2 * (g.W (s + k)).2 + 99) / 100))) g.full ≤ min (max 0 ((bif (Nat.testBit 0 (s + k)) then _ else (g.rich x aa acap).lo s (Nat.testBit 0) k) + (min 20000 ((g.A (s + k)).1 + x) - (g.r2 * (g.W (s + k)).2 + 99) / 100))) g.full
    rw [Nat.zero_testBit]
    simp only [cond_false]
    omega
theorem Lt.rich_sl {g : Lt} (v : g.Vd) {x : Int} (hx : 0 ≤ x) {aa : Option Addr} {acap s : Nat} : ∀ k, s + k ≤ g.wn → (g.rich x aa acap).sl s (Nat.testBit 0) k ≤ g.sl s (Nat.testBit 0) k
  | 0, _ => Int.le_refl _
  | k + 1, h => by
    have ih := Lt.rich_sl v hx (aa := aa) (acap := acap) (s := s) k (by omega)
    have hl := Lt.rich_lo v hx (aa := aa) (acap := acap) (s := s) (k + 1) h
    rw [Lt.sl, Lt.sl]
    by_cases q : (g.rich x aa acap).lo s (Nat.testBit 0) (k + 1) < g.need
    · rw [decide_eq_true (show (g.rich x aa acap).lo s (Nat.testBit 0) (k + 1) < (g.rich x aa acap).need from q), decide_eq_true (show g.lo s (Nat.testBit 0) (k + 1) < g.need by omega)]
      simp only [cond_true]; omega
    · rw [decide_eq_false (show ¬ (g.rich x aa acap).lo s (Nat.testBit 0) (k + 1) < (g.rich x aa acap).need from q)]
      cases decide (g.lo s (Nat.testBit 0) (k + 1) < g.need) <;> simp only [cond_true, cond_false] <;> omega
/-- from a fresh day on -/
abbrev Lt.rest (g : Lt) : Lt := { g with f1 := g.g1, f2 := g.g2 }
theorem Lt.rest_vd {g : Lt} (v : g.Vd) : g.rest.Vd := ⟨v.n, v.n40, v.wl, v.al, v.w, v.a, v.r, v.fu, v.gr, v.gr, v.b, v.k, v.ne, v.be⟩
theorem Lt.lo_before {g : Lt} {s p : Nat} {F G : Nat → Bool} (h : ∀ i, i < p → F (s + i) = G (s + i)) : ∀ j, j ≤ p → g.lo s F j = g.lo s G j ∧ g.hi s F j = g.hi s G j
  | 0, _ => ⟨rfl, rfl⟩
  | j + 1, hj => by
    obtain ⟨h1, h2⟩ := Lt.lo_before h j (by omega)
    rw [Lt.lo, Lt.lo, Lt.hi, Lt.hi, h1, h2, h j (by omega)]
    exact ⟨rfl, rfl⟩
theorem Lt.lo_after {g : Lt} {s p : Nat} {F G : Nat → Bool} (hf : F (s + p) = true) (hF : ∀ i, F (s + p + i + 1) = false) (hG : ∀ i, G (s + p + i) = false) : ∀ j, g.lo s F (p + j + 1) = g.rest.lo (s + p) G (j + 1) ∧ g.hi s F (p + j + 1) = g.rest.hi (s + p) G (j + 1)
  | 0 => by
    have hG0 := hG 0
    rw [Nat.add_zero] at hG0
    simp only [Nat.add_zero]
    rw [Lt.lo, Lt.lo, Lt.hi, Lt.hi, hf]
    simp only [Nat.add_zero, hG0]
    exact ⟨rfl, rfl⟩
  | j + 1 => by
    obtain ⟨h1, h2⟩ := Lt.lo_after hf hF hG j
    have e : p + (j + 1) + 1 = (p + j + 1) + 1 := by omega
    have e2 : s + (p + j + 1) = s + p + j + 1 := by omega
    rw [e, Lt.lo, Lt.hi, h1, h2, e2, hF j]
    rw [show g.rest.lo (s + p) G (j + 1 + 1) = g.rest.loDay (g.rest.lo (s + p) G (j + 1)) (G (s + p + (j + 1))) (s + p + (j + 1)) from rfl, show g.rest.hi (s + p) G (j + 1 + 1) = g.rest.hiDay (g.rest.hi (s + p) G (j + 1)) (G (s + p + (j + 1))) (s + p + (j + 1)) from rfl, hG (j + 1)]
    exact ⟨rfl, rfl⟩
theorem Lt.ox_take {g : Lt} {s p d : Nat} {F G : Nat → Bool} (h : ∀ i, i < p → F (s + i) = G (s + i)) : (g.ox s F d).take p = (g.ox s G d).take p := by
  refine List.ext_getElem? fun i => ?_
  rw [List.getElem?_take, List.getElem?_take]
  split
  · rename_i hi
    by_cases hd : i < d
    · rw [Lt.ox_get hd, Lt.ox_get hd]
      have := Lt.lo_before (g := g) h (i + 1) (by omega)
      rw [this.1, this.2]
    · rw [List.getElem?_eq_none (by rw [Lt.ox_len]; omega), List.getElem?_eq_none (by rw [Lt.ox_len]; omega)]
  · rfl
theorem Lt.ox_drop {g : Lt} {s p d : Nat} {F G : Nat → Bool} (hp : p ≤ d) (hf : F (s + p) = true) (hF : ∀ i, F (s + p + i + 1) = false) (hG : ∀ i, G (s + p + i) = false) : (g.ox s F d).drop p = g.rest.ox (s + p) G (d - p) := by
  refine List.ext_getElem? fun i => ?_
  rw [List.getElem?_drop]
  by_cases hd : i < d - p
  · rw [Lt.ox_get (show p + i < d by omega), Lt.ox_get hd]
    have := Lt.lo_after (g := g) hf hF hG i
    rw [this.1, this.2]
  · rw [List.getElem?_eq_none (by rw [Lt.ox_len]; omega), List.getElem?_eq_none (by rw [Lt.ox_len]; omega)]
theorem sure_mono {a s a' s' : Bool} (h1 : a = true → a' = true) (h2 : s = true → s' = true) : sureV a s ≤ sureV a' s' := by
  cases a <;> cases s <;> cases a' <;> cases s' <;> simp_all [sureV]
/-- the fresh days of one day -/
theorem one_set {s d k : Nat} (h1 : s ≤ k) (h2 : k < s + d) : setB (s : Int) ((s : Int) + d) [(k : Int)] = true := by
  simp only [setB, Bool.and_true, Bool.and_eq_true, decide_eq_true_eq]; omega
theorem one_bit (k i : Nat) : (dayMask [(k : Int)]).testBit i = decide (i = k) := by
  rw [dayMask_has (fun d hd => by simp at hd; omega)]
  rw [Bool.eq_iff_iff, List.contains_iff_mem]
  simp only [List.mem_singleton, decide_eq_true_eq]
  omega
section
variable {kn : FuncId → Option Bool} {lo : Nat} {H : Hp}
theorem add37_ok {a b m x : Int} {bm : Nat} (hm : Rd H bm [.int .u16 x]) (hx : 0 ≤ x ∧ x ≤ 65535) (ha : 0 ≤ a ∧ a ≤ 100000) (hb : 0 ≤ b ∧ b ≤ 100000) (hlo : lo ≤ H.next) : ∃ H', FnX Try.prog kn lo 37 [spv a b, iv m, pt bm] H (spv (min m (a + x)) (min m (b + x))) H' ∧ Keep H H' [] := by
  have key := fnX_low (kn := kn) (lo := lo) (H := H) (args := [spv a b, iv m, pt bm]) (Q := fun w H' => w = spv (min m (a + x)) (min m (b + x)) ∧ Keep H H' []) Try.func37 B37 N37 Z37 L37 (by simp) ?_
  · obtain ⟨w, H', h, rfl, q⟩ := key; exact ⟨H', h, q⟩
  have hk := Keep.refl H []
  have lbm := hm.lt
  intro H1 hH1; obtain ⟨kH1, nH1, c1⟩ := new_facts hH1; clear hH1
  have mH1 := kH1.1
  have hk := hk.trans kH1
  have hm := kH1.rd hm (by simp)
  have c1 : Cl H1 H.next [iv a, iv b] := c1
  intro H2 hH2; obtain ⟨kH2, nH2, c2⟩ := new_facts hH2; clear hH2
  have c2 : Cl H2 H1.next [iv 0, iv 0] := c2
  have mH2 := kH2.1
  have hk := hk.trans kH2
  have hm := kH2.rd hm (by simp)
  have c1 := kH2.cl c1 (by simp)
  refine Exists.intro _ (Exists.intro _ (And.intro c1.of (And.intro (show _ = some (iv a) from rfl) ?_)))
  refine Exists.intro _ (Exists.intro _ (And.intro hm.of (And.intro rfl ?_)))
  refine And.intro rfl (Exists.intro (iv x) (And.intro (conv_16 x hx rfl) ?_))
  refine And.intro (show InR (a + x) from ⟨by omega, by omega⟩) ?_
  refine Exists.intro _ (Exists.intro _ (And.intro c1.of (And.intro (show _ = some (iv b) from rfl) ?_)))
  refine Exists.intro _ (Exists.intro _ (And.intro hm.of (And.intro rfl ?_)))
  refine And.intro rfl (Exists.intro (iv x) (And.intro (conv_16 x hx rfl) ?_))
  refine And.intro (show InR (b + x) from ⟨by omega, by omega⟩) ?_
  refine And.intro rfl (Exists.intro (.agg #[iv (min m (a + x)), iv (min m (b + x))]) (And.intro (by kernel_rfl) ?_))
  obtain ⟨_, eH3, lH3, gH3⟩ := id c2
  refine Exists.intro _ (Exists.intro _ (Exists.intro _ (And.intro gH3 (And.intro (by omega) (And.intro rfl (And.intro rfl (And.intro (by simp) ?_)))))))
  intro H3 hH3; obtain ⟨kH3, nH3, sH3⟩ := up_facts c2 hH3; clear hH3
  have mH3 := kH3.1
  have hk := hk.new kH3 (fun b hb => by simp at hb ⊢; omega)
  have hm := kH3.rd hm (by first | (simp; done) | (simp; omega))
  have c1 := kH3.cl c1 (by first | (simp; done) | (simp; omega))
  have c2 : Cl H3 H1.next [iv (min m (a + x)), iv (min m (b + x))] := sH3
  exact And.intro trivial (Exists.intro _ (And.intro (res_cell rfl a24 i24s rfl c2) ⟨rfl, hk⟩))
theorem same_vw {a1 a2 : Option Addr} {n c1 c2 : Nat} {ss : List (Int × Int)} (h1 : Vw H a1 ss) (h2 : Vw H a2 ss) (hl : ss.length = n) (hn : n ≤ 1000) :
    ∃ H', FnX Try.prog kn lo 21 [.slice a1 n c1, .slice a2 n c2] H (.bool true) H' ∧ Keep H H' [] := by
  have key := fnX_low (kn := kn) (lo := lo) (H := H) (args := [.slice a1 n c1, .slice a2 n c2]) (Q := fun w H' => w = .bool true ∧ Keep H H' []) Try.func21 B21 N21 Z21 L21 (by simp) ?_
  · obtain ⟨w, H', h, rfl, q⟩ := key; exact ⟨H', h, q⟩
  have hne : ((n : Int) != (n : Int)) = false := by simp
  refine And.intro (fun h => by rw [hne] at h; cases h) (fun _ => ?_)
  refine loop_low (fn := Try.f21) E21_1 N21 L21x1 (fun i : Nat => [(0, .slice a1 n c1), (1, .slice a2 n c2), (5, iv (i : Int))])
    (fun k i H' => i + k = n ∧ Keep H H' []) n 0 ⟨by omega, Keep.refl _ _⟩ ⟨rfl, rfl, rfl, trivial⟩ ?_
  rintro kk i H5 ⟨hik, hki⟩
  refine And.intro (fun hlt => ?_) (fun hge => ?_)
  · have hi : i < n := by simpa using hlt
    obtain ⟨p, hp⟩ := get_some (l := ss) (i := i) (by omega)
    rcases h1 with h0 | ⟨x1, o1, cs1, rfl, q1, r1⟩
    · rw [h0] at hp; simp at hp
    rcases h2 with h0 | ⟨x2, o2, cs2, rfl, q2, r2⟩
    · rw [h0] at hp; simp at hp
    have q1 := hki.rd q1 (by simp)
    have q2 := hki.rd q2 (by simp)
    refine wD_seq ?_
    refine wD_mov (v := .slice (some ⟨x1, o1, none⟩) n c1) rfl ?_
    refine wD_mov (v := iv (i : Int)) rfl ?_
    refine wD_idx (b := x1) (o := o1) (k := i) (j := (i : Int)) rfl rfl rfl hi ?_
    refine wD_lda (b := x1) (o := o1 + i * 2) rfl q1 (r1 i p hp) ?_
    refine wD_mov (v := .slice (some ⟨x2, o2, none⟩) n c2) rfl ?_
    refine wD_mov (v := iv (i : Int)) rfl ?_
    refine wD_idx (b := x2) (o := o2) (k := i) (j := (i : Int)) rfl rfl rfl hi ?_
    refine wD_lda (b := x2) (o := o2 + i * 2) rfl q2 (r2 i p hp) ?_
    refine wD_pur (v := .bool false) rfl ((pure_neq24 (a := p.1) (b := p.2) (c := p.1) (e := p.2) rfl rfl).trans (by simp)) ?_
    refine wD_end (by repeat' first | exact True.intro | exact (fun h => h) | refine And.intro ?_ ?_ | (intro h; have h : (_ : Nat) = _ := h; omega)) ?_
    refine condF ?_
    refine And.intro ⟨by omega, by omega⟩ ?_
    exact ⟨kk - 1, i + 1, by omega, ⟨by omega, hki⟩, rfl, rfl, rfl, trivial⟩
  · exact And.intro trivial (Exists.intro _ (And.intro rfl ⟨rfl, hki⟩))
theorem oxygen_at {g : Lt} (hw : Sl H g.wa g.wn g.wcap (spc g.ws)) (ha : Sl H g.aa g.an g.acap (spc g.as)) (hwl : g.ws.length = g.wn) (hal : g.as.length = g.an) (hwn : g.wn ≤ 1000) (han : g.an ≤ 1000) (hok : g.ok = true) {a b : Int} (s d : Nat) (ea : a = (s : Int)) (eb : b = (d : Int)) (hsd : s + d ≤ g.wn) {la : Option Addr} {n cap : Nat} {us : List Int} (hset : setB s (s + d) us = true) (hl : Sl H la n cap (ints us)) (hul : us.length = n) (hn : n ≤ 1000) (hlo : lo ≤ H.next) :
    ∃ ov H', FnX Try.prog kn lo 17 [.agg g.v.toArray, iv a, iv b, .slice la n cap] H (.tuple #[ov, iv 0]) H' ∧ Keep H H' [] ∧ Acc lo H.next 24 H' ov d (spc (g.ox s (Nat.testBit (dayMask us)) d)) := by
  subst ea; subst eb
  have key := fnX_lowR (kn := kn) (lo := lo) (H := H) (args := [.agg g.v.toArray, iv (s : Int), iv (d : Int), .slice la n cap]) (Q := fun w H' => ∃ ov, w = .tuple #[ov, iv 0] ∧ Keep H H' [] ∧ Acc lo H.next 24 H' ov d (spc (g.ox s (Nat.testBit (dayMask us)) d))) Try.func17 B17 N17 Z17 L17 (by simp) ?_
  · obtain ⟨w, H', h, ov, rfl, q1, q2⟩ := key; exact ⟨ov, H', h, q1, q2⟩
  have fw : ∀ b, g.wa = some ⟨b, 0, none⟩ → b < H.next := hw.old
  have fa : ∀ b, g.aa = some ⟨b, 0, none⟩ → b < H.next := ha.old
  intro y hy
  refine TriR.lowR hy ?_
  intro H1 hH1; obtain ⟨k1, n1, c1⟩ := new_facts hH1; clear hH1
  have c1 : Cl H1 H.next g.v := c1
  intro y hy
  refine TriR.lowR hy ?_
  refine Exists.intro _ (Exists.intro _ (And.intro c1.of (And.intro (show row 13 g.v 0 = some g.v from rfl) ?_)))
  obtain ⟨w, H2, f2, k2, hc⟩ := course_ok (kn := kn) (lo := lo) (H := H1) (g := g) (a := (s : Int)) (b := (d : Int)) (us := us) (k1.sl0 hw) (k1.sl0 ha) hwl hal hwn han (k1.sl0 hl) hul hn (by omega)
  have k02 := k1.trans k2
  have m2 := k2.1
  refine Exists.intro _ (Exists.intro _ (And.intro (callX_args f2) ?_))
  obtain rfl : w = .tuple #[.agg (crs g s d (dayMask us)).toArray, iv 0] := by
    rcases hc with ⟨h, _⟩ | ⟨_, h, _⟩ | ⟨_, s', d', e1, e2, _, _, h⟩
    · rw [hok] at h; cases h
    · rw [flB_of hsd, hset] at h; cases h
    · obtain rfl : s = s' := by omega
      obtain rfl : d = d' := by omega
      exact h
  have v := Lt.vd hok hwl hal
  have hn40 := v.n40
  refine And.intro rfl (Exists.intro (.agg (crs g s d (dayMask us)).toArray) (And.intro (by kernel_rfl) ?_))
  refine And.intro rfl (Exists.intro (iv 0) (And.intro (by kernel_rfl) ?_))
  intro H3 hH3; obtain ⟨k3, n3, c3⟩ := new_facts hH3; clear hH3
  have c3 : Cl H3 H2.next zeroC := c3
  obtain ⟨_, e4, l4, g4⟩ := id c3
  refine Exists.intro _ (Exists.intro _ (Exists.intro _ (And.intro g4 (And.intro (by omega) (And.intro rfl (And.intro rfl (And.intro (by simp) ?_)))))))
  intro H4 hH4; obtain ⟨k4, n4, c4⟩ := up_facts c3 hH4; clear hH4
  have c4 : Cl H4 H2.next (crs g s d (dayMask us)) := c4
  have k24 : Keep H2 H4 [] := k3.new k4 (fun b hb => .inr (by simp at hb; omega))
  have k04 := k02.trans k24
  have m4 := k24.1
  intro y hy
  refine TriR.lowR hy ?_
  refine condF ?_
  intro y hy
  refine TriR.lowR hy ?_
  intro H5 hH5; obtain ⟨k5, n5, c5⟩ := new_facts hH5; clear hH5
  have c5 : Cl H5 H4.next [.slice none 0 0] := c5
  have d4 := k5.cl c4 (by simp)
  have k05 := k04.trans k5
  intro y hy
  refine TriR.lowL hy ?_
  intro z hz
  refine TriR.lowR hz ?_
  refine Exists.intro _ (Exists.intro _ (And.intro d4.of (And.intro (show row 16 _ 0 = some (crs g s d (dayMask us)) from rfl) ?_)))
  obtain ⟨bc, H6, f6, k6, hbc, rb⟩ := states_ok (kn := kn) (lo := lo) (H := H5) (g := g) (s := s) (d := d) (m := dayMask us)
  refine Exists.intro _ (Exists.intro _ (And.intro (callX_args f6) ?_))
  intro y hy
  refine TriR.lowB hy ?_
  rw [E17_1]
  refine TriR.range rfl ?_
  intro H7 k7 n7 hd hlp
  have k57 := k6.trans k7
  have k07 := k05.trans k57
  have lbc := rb.lt
  have m6 := k6.1
  let X : OX := ⟨g, s, d, dayMask us, H4.next, bc, H6.next⟩
  have G : OG X lo H := ⟨by show H.next ≤ H4.next; omega, by show lo ≤ H4.next; omega, by show H4.next < bc; omega, by show bc < H6.next; omega⟩
  have e5 := k57.cl c5 (by simp)
  have eb := k7.rd rb (by simp)
  have lp7 : Lp Try.prog H7 (H6.next + 1) .ready none 37 [(12, pt H4.next)] [27] asg17 body17 H6.next := hlp.weak ⟨rfl, trivial⟩
  have fin : ∀ (b k : Nat) (H8 H9 : Hp), OJ X lo H b k H8 → Keep H8 H9 [b] → OJ X lo H b k H9 := fun b k H8 H9 j kk => by
    have lb := j.lb; have ll := j.ll
    have lb : H6.next + 1 < b := lb
    have ll : b < H8.next := ll
    have hl4 : H4.next < H6.next := by omega
    have ne : ∀ x, x < b → x ∉ [b] := fun x h => by simp; omega
    obtain ⟨wv, q1, q2⟩ := j.c12
    have q1 : Cl H8 H4.next [wv] := q1
    exact ⟨⟨wv, (show Cl H9 H4.next [wv] from kk.cl q1 (ne _ (by omega))), q2.other kk (by intro x hx; simp at hx; omega)⟩, kk.rd j.cb (ne _ (by show bc < b; omega)), kk.sl j.hw (fun x e => ne _ (by have := fw x e; omega)), kk.sl j.ha (fun x e => ne _ (by have := fa x e; omega)), j.lp.keep kk (by show H6.next + 1 < H8.next; omega) (ne _ lb), lb, Nat.lt_of_lt_of_le ll kk.1, by rw [kk.2 X.r (by show H6.next < H8.next; omega) (ne _ (by show H6.next < b; omega))]; exact j.dfr, j.kp.new kk (fun x hx => .inr (by simp at hx; omega))⟩
  obtain ⟨b, H8, h8, hb8, j⟩ := iter_ok2 (kn := kn) (lo := lo) (H := H7) (l := H6.next + 1) (bc := bc) v hsd (fun b k H' => OJ X lo H b k H') (by omega) eb
    (fun b H1' kk hb hb2 => ⟨⟨_, kk.cl e5 (by simp), .inl ⟨rfl, rfl, rfl⟩⟩, kk.rd eb (by simp), kk.sl0 (k07.sl0 hw), kk.sl0 (k07.sl0 ha), lp7.keep kk (by omega) (by simp), by show H6.next + 1 < b; omega, hb2, by rw [kk.2 X.r (by show H6.next < H7.next; omega) (by simp)]; exact hd, k07.trans kk⟩)
    (fun b k H' j => ⟨j.cb, j.hw, j.ha⟩) fin (fun b k H' j => by have h1 := j.ll; have h2 : H6.next + 1 < b := j.lb; omega) (fun b k H' hk j => ox_round G v hsd fw fa hk j)
  refine Exists.intro _ (Exists.intro H8 (And.intro (callX_func rfl (by simpa using h8)) ?_))
  refine ⟨.ready, none, _, j.lp, by simp, ?_⟩
  intro H9 s9
  have k9 := s9.keep
  have hn9 : H9.next = H8.next := s9.1
  have ll := j.ll
  have lb : H6.next + 1 < b := j.lb
  have kH : Keep H H9 [] := j.kp.new k9 (fun b hb => .inr (by simp at hb; omega))
  obtain ⟨wv, q12, acc⟩ := j.c12
  have q12 : Cl H8 H4.next [wv] := q12
  have q12 := k9.cl q12 (by simp; omega)
  have acc := acc.other k9 (by intro x hx; simp at hx; omega)
  have dj : H9.t.get H6.next = some (.dfr (some [])) := by
    rw [k9.2 H6.next (by omega) (by simp)]; exact j.dfr
  have acc : Acc lo (b + 1) 24 H9 wv d (spc (g.ox s (Nat.testBit (dayMask us)) d)) := acc
  refine Exists.intro _ (Exists.intro _ (And.intro q12.of (And.intro (show _ = some wv from rfl) ?_)))
  refine And.intro trivial (Or.inr ⟨H6.next, rfl, by omega, dj, fun H10 hn10 hs10 => ?_⟩)
  have k10 : Keep H9 H10 [H6.next] := ⟨by omega, fun b _ hb => hs10 b (by simpa using hb)⟩
  have acc10 := acc.other k10 (by intro x hx; simp at hx; omega)
  refine ⟨_, rfl, wv, rfl, kH.new k10 (fun b hb => .inr (by simp at hb; omega)), ?_⟩
  rcases acc10 with h | ⟨bb, e1, e2, e3, e4⟩
  · exact .inl h
  · exact .inr ⟨bb, e1, e2, by omega, e4⟩
end
end Go.Ax

/-
  Late: the law LateMore, whatever the input (written by program).
-/
namespace Go.Ax
open Go Go.RowKit Go.Proofs

/-- what Tells answers of the weeds, of the vines -/
def Lt.tx (g : Lt) (s d : Nat) : Int := sureV (decide (g.wl s d ≥ g.kill)) (decide (g.wh s d ≥ g.kill))
def Lt.ty (g : Lt) (s d : Nat) : Int := sureV (decide (g.sm s (Nat.testBit 0) d > g.bear)) (decide (g.sl s (Nat.testBit 0) d > g.bear))
theorem Lt.tx_le {g : Lt} {s d e : Nat} (h : d ≤ e) : g.tx s d ≤ g.tx s e :=
  sure_mono (fun q => decide_eq_true (by have := of_decide_eq_true q; have := Lt.wl_le (g := g) (s := s) h; omega)) (fun q => decide_eq_true (by have := of_decide_eq_true q; have := Lt.wh_le (g := g) (s := s) h; omega))
theorem Lt.ty_le {g : Lt} {s d e : Nat} (h : d ≤ e) : g.ty s d ≤ g.ty s e :=
  sure_mono (fun q => decide_eq_true (by have := of_decide_eq_true q; have := Lt.sm_le (g := g) (s := s) (F := Nat.testBit 0) h; omega)) (fun q => decide_eq_true (by have := of_decide_eq_true q; have := Lt.sl_le (g := g) (s := s) (F := Nat.testBit 0) h; omega))
section
variable {kn : FuncId → Option Bool} {lo : Nat} {H : Hp}
theorem tells_is (h48 : kn 48 = none) {g : Lt} (hw : Sl H g.wa g.wn g.wcap (spc g.ws)) (ha : Sl H g.aa g.an g.acap (spc g.as)) (hwl : g.ws.length = g.wn) (hal : g.as.length = g.an) (hwn : g.wn ≤ 1000) (han : g.an ≤ 1000) (hok : g.ok = true) {a b : Int} (s d : Nat) (ea : a = (s : Int)) (eb : b = (d : Int)) (hsd : s + d ≤ g.wn) (hlo : lo ≤ H.next) :
    ∃ (H' : Hp), FnX Try.prog kn lo 19 [.agg g.v.toArray, iv a, iv b, .slice none 0 0] H (.tuple #[iv (g.tx s d), iv (g.ty s d), iv 0]) H' ∧ Keep H H' [] := by
  subst ea; subst eb
  obtain ⟨w, H', hf, hk, hc⟩ := tells_ok (kn := kn) (lo := lo) (H := H) (us := []) (a := (s : Int)) (b := (d : Int)) h48 hw ha hwl hal hwn han (la := none) (n := 0) (cap := 0) (.inl ⟨.inl rfl, rfl, rfl, rfl⟩) rfl (by decide) hlo
  obtain rfl := hc.c2 hok hsd rfl
  exact ⟨H', hf, hk⟩
set_option maxRecDepth 100000 in
set_option maxHeartbeats 4000000 in
theorem law_more (hkn : kn 14 = some true) (h48 : kn 48 = none) {g : Lt} (hw : Sl H g.wa g.wn g.wcap (spc g.ws)) (ha : Sl H g.aa g.an g.acap (spc g.as)) (hwl : g.ws.length = g.wn) (hal : g.as.length = g.an) {a b x y0 : Int} (hx : 0 ≤ x ∧ x ≤ 65535) (hy0 : 0 ≤ y0 ∧ y0 ≤ 255) (hlo : lo ≤ H.next) :
    ∃ H', FnX Try.prog kn lo 11 [.agg g.v.toArray, iv a, iv b, .int .u16 x, .int .u8 y0] H (.bool true) H' := by
  have key := fnX_low (kn := kn) (lo := lo) (H := H) (args := [.agg g.v.toArray, iv a, iv b, .int .u16 x, .int .u8 y0]) (Q := fun w H' => w = .bool true) Try.func11 B11 N11 Z11 L11 (by simp) ?_
  · obtain ⟨w, H', hf, rfl⟩ := key; exact ⟨H', hf⟩
  have al : ∀ (H9 : Hp) (K : Value → Hp → Prop), K (.bool true) H9 → ∃ v H', CallsX Try.prog kn lo (.fn (.func 14) #[]) [] H9 v H' ∧ K v H' := fun H9 K h => ⟨_, _, callX_known hkn, h⟩
  have hk := Keep.refl H []
  have fw := hw.old; have fa := ha.old
  intro H1 hH1; obtain ⟨kH1, nH1, c1⟩ := new_facts hH1; clear hH1
  have mH1 := kH1.1
  have hk := hk.trans kH1
  have hw := kH1.sl0 hw
  have ha := kH1.sl0 ha
  have c1 : Cl H1 H.next [.slice g.wa g.wn g.wcap, .slice g.aa g.an g.acap, iv g.r1, iv g.r2, iv g.f1, iv g.f2, iv g.g1, iv g.g2, iv g.full, iv g.base, iv g.kill, iv g.need, iv g.bear] := c1
  intro H2 hH2; obtain ⟨kH2, nH2, c2⟩ := new_facts hH2; clear hH2
  have c2 : Cl H2 H1.next [.int .u16 x] := c2
  have mH2 := kH2.1
  have hk := hk.trans kH2
  have hw := kH2.sl0 hw
  have ha := kH2.sl0 ha
  have c1 := kH2.cl c1 (by simp)
  refine Exists.intro _ (Exists.intro _ (And.intro c1.of (And.intro (show row 13 _ _ = some [.slice g.wa g.wn g.wcap, .slice g.aa g.an g.acap, iv g.r1, iv g.r2, iv g.f1, iv g.f2, iv g.g1, iv g.g2, iv g.full, iv g.base, iv g.kill, iv g.need, iv g.bear] from rfl) ?_)))
  refine callB ((great_ok (la := none) (n := 0) (cap := 0))) ?_
  intro tH3 H3 hH3 kH3
  have mH3 := kH3.1
  have hk := hk.trans kH3
  have hw := kH3.sl0 hw
  have ha := kH3.sl0 ha
  have c1 := kH3.cl c1 (by simp)
  have c2 := kH3.cl c2 (by simp)
  cases tH3
  · have hgr : g.wn ≤ 45 ∧ g.an ≤ 45 := by simp at hH3; omega
    refine condF ?_
    refine Exists.intro _ (Exists.intro _ (And.intro c1.of (And.intro (show row 13 _ _ = some [.slice g.wa g.wn g.wcap, .slice g.aa g.an g.acap, iv g.r1, iv g.r2, iv g.f1, iv g.f2, iv g.g1, iv g.g2, iv g.full, iv g.base, iv g.kill, iv g.need, iv g.bear] from rfl) ?_)))
    obtain ⟨wH4, H4, fH4, kH4, hc⟩ := bears_ok (kn := kn) (lo := lo) (H := H3) (g := g) (a := a) h48 hw ha hwl hal (by show g.wn ≤ 1000; omega) (by show g.an ≤ 1000; omega) (by omega)
    have mH4 := kH4.1
    have hk := hk.trans kH4
    have hw := kH4.sl0 hw
    have ha := kH4.sl0 ha
    have c1 := kH4.cl c1 (by simp)
    have c2 := kH4.cl c2 (by simp)
    rcases hc with ⟨hok, rfl⟩ | ⟨hok, hin, rfl⟩ | ⟨hok, s, d, m, rfl, hsd, hm1, hm2, hm3, rfl⟩
    · refine Exists.intro _ (Exists.intro _ (And.intro (callX_args fH4) ?_))
      refine And.intro rfl (Exists.intro (iv 0) (And.intro (by kernel_rfl) ?_))
      refine And.intro rfl (Exists.intro (iv 1) (And.intro (by kernel_rfl) ?_))
      refine condT ?_
      intro t1 g1; obtain rfl : t1 = true := by rw [← g1]; rfl
      refine al _ _ ?_
      refine And.intro rfl (Exists.intro (.bool true) (And.intro rfl ?_))
      exact And.intro trivial (Exists.intro _ (And.intro rfl rfl))
    · refine Exists.intro _ (Exists.intro _ (And.intro (callX_args fH4) ?_))
      refine And.intro rfl (Exists.intro (iv 0) (And.intro (by kernel_rfl) ?_))
      refine And.intro rfl (Exists.intro (iv 2) (And.intro (by kernel_rfl) ?_))
      refine condT ?_
      intro t2 g2; obtain rfl : t2 = true := by rw [← g2]; rfl
      refine al _ _ ?_
      refine And.intro rfl (Exists.intro (.bool true) (And.intro rfl ?_))
      exact And.intro trivial (Exists.intro _ (And.intro rfl rfl))
    · have v := Lt.vd hok hwl hal; have hn40 := v.n40; have hnn := v.n; have hfu := v.fu; have hfi := v.f; have hgr2 := v.gr; have lf := hk.1
      refine Exists.intro _ (Exists.intro _ (And.intro (callX_args fH4) ?_))
      refine And.intro rfl (Exists.intro (iv (m : Int)) (And.intro (by kernel_rfl) ?_))
      refine And.intro rfl (Exists.intro (iv 0) (And.intro (by kernel_rfl) ?_))
      refine condF ?_
      refine Exists.intro _ (Exists.intro _ (And.intro c1.of (And.intro (show row 13 _ _ = some [.slice g.wa g.wn g.wcap, .slice g.aa g.an g.acap, iv g.r1, iv g.r2, iv g.f1, iv g.f2, iv g.g1, iv g.g2, iv g.full, iv g.base, iv g.kill, iv g.need, iv g.bear] from rfl) ?_)))
      refine callB (late33_ok hw ha hwl hal (by omega) (by omega)) ?_
      intro tH5 H5 hH5 kH5
      obtain rfl : tH5 = true := by rw [← hH5]; exact hok
      have mH5 := kH5.1
      have hk := hk.trans kH5
      have hw := kH5.sl0 hw
      have ha := kH5.sl0 ha
      have c1 := kH5.cl c1 (by simp)
      have c2 := kH5.cl c2 (by simp)
      refine And.intro rfl (Exists.intro (.bool false) (And.intro rfl ?_))
      refine condF ?_
      refine Exists.intro _ (Exists.intro _ (And.intro c1.of (And.intro (show row 13 _ _ = some [.slice g.wa g.wn g.wcap, .slice g.aa g.an g.acap, iv g.r1, iv g.r2, iv g.f1, iv g.f2, iv g.g1, iv g.g2, iv g.full, iv g.base, iv g.kill, iv g.need, iv g.bear] from rfl) ?_)))
      intro H6 hH6; obtain ⟨kH6, nH6, c6⟩ := new_facts hH6; clear hH6
      have c6 : Cl H6 H5.next [.slice none 0 0, .slice none 0 0, iv 0, iv 0, iv 0, iv 0, iv 0, iv 0, iv 0, iv 0, iv 0, iv 0, iv 0] := c6
      have mH6 := kH6.1
      have hk := hk.trans kH6
      have hw := kH6.sl0 hw
      have ha := kH6.sl0 ha
      have c1 := kH6.cl c1 (by simp)
      have c2 := kH6.cl c2 (by simp)
      obtain ⟨_, eH7, lH7, gH7⟩ := id c6
      refine Exists.intro _ (Exists.intro _ (Exists.intro _ (And.intro gH7 (And.intro (by omega) (And.intro rfl (And.intro rfl (And.intro (by simp) ?_)))))))
      intro H7 hH7; obtain ⟨kH7, nH7, sH7⟩ := up_facts c6 hH7; clear hH7
      have mH7 := kH7.1
      have hk := hk.new kH7 (fun b hb => by simp at hb ⊢; omega)
      have hw := kH7.sl hw (fun b e => by have := fw b e; first | (simp; done) | (simp; omega))
      have ha := kH7.sl ha (fun b e => by have := fa b e; first | (simp; done) | (simp; omega))
      have c1 := kH7.cl c1 (by first | (simp; done) | (simp; omega))
      have c2 := kH7.cl c2 (by first | (simp; done) | (simp; omega))
      have c6 : Cl H7 H5.next [.slice g.wa g.wn g.wcap, .slice g.aa g.an g.acap, iv g.r1, iv g.r2, iv g.f1, iv g.f2, iv g.g1, iv g.g2, iv g.full, iv g.base, iv g.kill, iv g.need, iv g.bear] := sH7
      refine And.intro rfl (Exists.intro (.func (.func 37) #[] #[pt H1.next]) (And.intro (by kernel_rfl) ?_))
      refine wD_seq ?_
      refine wD_mov (v := .func (.func 37) #[] #[pt H1.next]) rfl ?_
      refine wD_addo (b := H.next) (o := 0) rfl ?_
      refine wD_lda (b := H.next) (o := 4) rfl c1.rd (show row 2 _ _ = some [iv g.f1, iv g.f2] from rfl) ?_
      refine wD_addo (b := H.next) (o := 0) rfl ?_
      refine wD_ld (b := H.next) (o := 8) (v := iv g.full) rfl c1.rd rfl ?_
      obtain ⟨H8, fH8, kH8⟩ := add37_ok (kn := kn) (lo := H7.next) (H := H7) (a := g.f1) (b := g.f2) (m := g.full) c2.rd hx ⟨by omega, by omega⟩ ⟨by omega, by omega⟩ (by omega)
      refine wD_callh (vs := [spv g.f1 g.f2, iv g.full]) rfl (by kernel_rfl) (callX_func rfl (by simpa using fH8)) ?_
      have mH8 := kH8.1
      have hk := hk.trans kH8
      have hw := kH8.sl0 hw
      have ha := kH8.sl0 ha
      have c1 := kH8.cl c1 (by simp)
      have c2 := kH8.cl c2 (by simp)
      have c6 := kH8.cl c6 (by simp)
      refine wD_mov (v := .func (.func 37) #[] #[pt H1.next]) rfl ?_
      refine wD_addo (b := H.next) (o := 0) rfl ?_
      refine wD_lda (b := H.next) (o := 6) rfl c1.rd (show row 2 _ _ = some [iv g.g1, iv g.g2] from rfl) ?_
      refine wD_addo (b := H.next) (o := 0) rfl ?_
      refine wD_ld (b := H.next) (o := 8) (v := iv g.full) rfl c1.rd rfl ?_
      obtain ⟨H9, fH9, kH9⟩ := add37_ok (kn := kn) (lo := lo) (H := H8) (a := g.g1) (b := g.g2) (m := g.full) c2.rd hx ⟨by omega, by omega⟩ ⟨by omega, by omega⟩ (by omega)
      refine wD_callf (vs := [spv g.g1 g.g2, iv g.full]) rfl (callX_func rfl (by simpa using fH9)) ?_
      have mH9 := kH9.1
      have hk := hk.trans kH9
      have hw := kH9.sl0 hw
      have ha := kH9.sl0 ha
      have c1 := kH9.cl c1 (by simp)
      have c2 := kH9.cl c2 (by simp)
      have c6 := kH9.cl c6 (by simp)
      refine wD_addo (b := H5.next) (o := 0) rfl ?_
      refine wD_sta (b := H5.next) (o := 4) rfl rfl c6 (by omega) rfl rfl (by simp) ?_
      intro H10 kH10 nH10 sH10
      have mH10 := kH10.1
      have hk := hk.new kH10 (fun b hb => by simp at hb ⊢; omega)
      have hw := kH10.sl hw (fun b e => by have := fw b e; first | (simp; done) | (simp; omega))
      have ha := kH10.sl ha (fun b e => by have := fa b e; first | (simp; done) | (simp; omega))
      have c1 := kH10.cl c1 (by first | (simp; done) | (simp; omega))
      have c2 := kH10.cl c2 (by first | (simp; done) | (simp; omega))
      have c6 : Cl H10 H5.next [.slice g.wa g.wn g.wcap, .slice g.aa g.an g.acap, iv g.r1, iv g.r2, iv (min g.full (g.f1 + x)), iv (min g.full (g.f2 + x)), iv g.g1, iv g.g2, iv g.full, iv g.base, iv g.kill, iv g.need, iv g.bear] := sH10
      refine wD_addo (b := H5.next) (o := 0) rfl ?_
      refine wD_sta (b := H5.next) (o := 6) rfl rfl c6 (by omega) rfl rfl (by simp) ?_
      intro H11 kH11 nH11 sH11
      have mH11 := kH11.1
      have hk := hk.new kH11 (fun b hb => by simp at hb ⊢; omega)
      have hw := kH11.sl hw (fun b e => by have := fw b e; first | (simp; done) | (simp; omega))
      have ha := kH11.sl ha (fun b e => by have := fa b e; first | (simp; done) | (simp; omega))
      have c1 := kH11.cl c1 (by first | (simp; done) | (simp; omega))
      have c2 := kH11.cl c2 (by first | (simp; done) | (simp; omega))
      have c6 : Cl H11 H5.next [.slice g.wa g.wn g.wcap, .slice g.aa g.an g.acap, iv g.r1, iv g.r2, iv (min g.full (g.f1 + x)), iv (min g.full (g.f2 + x)), iv (min g.full (g.g1 + x)), iv (min g.full (g.g2 + x)), iv g.full, iv g.base, iv g.kill, iv g.need, iv g.bear] := sH11
      refine wD_addo (b := H5.next) (o := 0) rfl ?_
      refine wD_st (b := H5.next) (o := 1) rfl rfl c6 (by omega) rfl rfl (by simp) ?_
      intro H12 kH12 nH12 sH12
      have mH12 := kH12.1
      have hk := hk.new kH12 (fun b hb => by simp at hb ⊢; omega)
      have hw := kH12.sl hw (fun b e => by have := fw b e; first | (simp; done) | (simp; omega))
      have ha := kH12.sl ha (fun b e => by have := fa b e; first | (simp; done) | (simp; omega))
      have c1 := kH12.cl c1 (by first | (simp; done) | (simp; omega))
      have c2 := kH12.cl c2 (by first | (simp; done) | (simp; omega))
      have c6 : Cl H12 H5.next [.slice g.wa g.wn g.wcap, .slice none 0 0, iv g.r1, iv g.r2, iv (min g.full (g.f1 + x)), iv (min g.full (g.f2 + x)), iv (min g.full (g.g1 + x)), iv (min g.full (g.g2 + x)), iv g.full, iv g.base, iv g.kill, iv g.need, iv g.bear] := sH12
      refine wD_end (by repeat' first | exact True.intro | exact (fun h => h) | refine And.intro ?_ ?_ | (intro h; have h : (_ : Nat) = _ := h; omega)) ?_
      refine Exists.intro _ (Exists.intro _ (And.intro c1.of (And.intro (show _ = some (.slice g.aa g.an g.acap) from rfl) ?_)))
      obtain ⟨z0, hz0⟩ : ∃ z, z = H.next := ⟨_, rfl⟩
      obtain ⟨z1, hz1⟩ : ∃ z, z = H1.next := ⟨_, rfl⟩
      obtain ⟨z2, hz2⟩ : ∃ z, z = H5.next := ⟨_, rfl⟩
      obtain ⟨ff, hff⟩ : ∃ z, z = H12.next := ⟨_, rfl⟩
      have b36 : z0 < z1 ∧ z1 < z2 ∧ z2 < ff ∧ H.next ≤ z0 := by omega
      rw [← hz0] at c1
      rw [← hz1] at c2
      rw [← hz2] at c6
      rw [← hz0, ← hz1, ← hz2]
      have hfm : ff ≤ H12.next := by omega
      clear hz0 hz1 hz2 hff
      refine loop_low (fn := Try.f11) E11_1 N11 L11x1 (fun x0 : Value × Nat => [(1, iv (s : Int)), (2, iv b), (4, .int .u8 y0), (5, pt z0), (8, pt z1), (11, iv (m : Int)), (13, pt z2), (14, .func (.func 37) #[] #[pt z1]), (68, .slice g.aa g.an g.acap), (69, iv (g.an : Int)), (70, iv (x0.2 : Int))])
        (fun q x0 H' => x0.2 + q = g.an ∧ Keep H H' [] ∧ Sl H' g.wa g.wn g.wcap (spc g.ws) ∧ Sl H' g.aa g.an g.acap (spc g.as) ∧ Cl H' z0 g.v ∧ Cl H' z1 [.int .u16 x] ∧ Cl H' z2 [.slice g.wa g.wn g.wcap, x0.1, iv g.r1, iv g.r2, iv (min g.full (g.f1 + x)), iv (min g.full (g.f2 + x)), iv (min g.full (g.g1 + x)), iv (min g.full (g.g2 + x)), iv g.full, iv g.base, iv g.kill, iv g.need, iv g.bear] ∧ Acc lo ff 24 H' x0.1 x0.2 (spc ((g.as.map (moreS 20000 x)).take x0.2)) ∧ ff ≤ H'.next) g.an (.slice none 0 0, 0) ⟨by show 0 + g.an = g.an; omega, hk, hw, ha, c1, c2, c6, .inl ⟨rfl, rfl, rfl⟩, hfm⟩ ⟨rfl, rfl, rfl, rfl, rfl, rfl, rfl, rfl, rfl, rfl, rfl, trivial⟩ ?_
      rintro q ⟨wv, i⟩ L1 ⟨hik, hk, hw, ha, cA, cB, cC, hacc, hfl⟩
      try simp only at hik
      try simp only at hacc
      try simp only at cC
      have hm := hk.1
      have l13 := cC.lt
      refine And.intro (fun q3 => ?_) (fun q3 => ?_)
      · have q3 : (i : Int) < (g.an : Int) := of_decide_eq_true q3
        have hi : i < g.an := by omega
        obtain ⟨y, hy⟩ := get_some (l := g.as) (i := i) (by omega)
        have hyi := v.a y (List.mem_of_getElem? hy)
        rcases ha with ⟨_, h0, _⟩ | ⟨ab, eaa, had, qa⟩
        · omega
        have lab := fa ab eaa
        rw [eaa]
        have kacc := Keep.refl L1 []
        refine Exists.intro i (And.intro rfl (And.intro hi ?_))
        refine Exists.intro _ (Exists.intro _ (And.intro had.of (And.intro (spc_row hy) ?_)))
        intro H13 hH13; obtain ⟨kH13, nH13, c13⟩ := new_facts hH13; clear hH13
        have c13 : Cl H13 L1.next [iv 0, iv 0] := c13
        have mH13 := kH13.1
        have hk := hk.trans kH13
        have hw := kH13.sl0 hw
        have cA := kH13.cl cA (by simp)
        have cB := kH13.cl cB (by simp)
        have cC := kH13.cl cC (by simp)
        have had := kH13.rd had (by simp)
        have kacc := kacc.trans kH13
        obtain ⟨_, eH14, lH14, gH14⟩ := id c13
        refine Exists.intro _ (Exists.intro _ (Exists.intro _ (And.intro gH14 (And.intro (by omega) (And.intro rfl (And.intro rfl (And.intro (by simp) ?_)))))))
        intro H14 hH14; obtain ⟨kH14, nH14, sH14⟩ := up_facts c13 hH14; clear hH14
        have mH14 := kH14.1
        have hk := hk.new kH14 (fun b hb => by simp at hb ⊢; omega)
        have hw := kH14.sl hw (fun b e => by have := fw b e; first | (simp; done) | (simp; omega))
        have cA := kH14.cl cA (by first | (simp; done) | (simp; omega))
        have cB := kH14.cl cB (by first | (simp; done) | (simp; omega))
        have cC := kH14.cl cC (by first | (simp; done) | (simp; omega))
        have had := kH14.rd had (by first | (simp; done) | (simp; omega))
        have kacc := kacc.new kH14 (fun b hb => by simp at hb ⊢; omega)
        have c13 : Cl H14 L1.next [iv y.1, iv y.2] := sH14
        first | refine wD_dreg ?_ | (refine wOps_nil ?_; refine wD_dreg ?_)
        refine wD_addo (b := z2) (o := 0) rfl ?_
        refine wD_ld (b := z2) (o := 1) (v := wv) rfl cC.rd rfl ?_
        refine wD_mov (v := .func (.func 37) #[] #[pt z1]) rfl ?_
        refine wD_lda (b := L1.next) (o := 0) rfl c13.rd (show row 2 _ _ = some [iv y.1, iv y.2] from rfl) ?_
        obtain ⟨H15, fH15, kH15⟩ := add37_ok (kn := kn) (lo := H14.next) (H := H14) (a := y.1) (b := y.2) (m := 20000) cB.rd hx ⟨by omega, by omega⟩ ⟨by omega, by omega⟩ (by omega)
        refine wD_callh (vs := [spv y.1 y.2, iv 20000]) rfl (by kernel_rfl) (callX_func rfl (by simpa using fH15)) ?_
        have mH15 := kH15.1
        have hk := hk.trans kH15
        have hw := kH15.sl0 hw
        have cA := kH15.cl cA (by simp)
        have cB := kH15.cl cB (by simp)
        have cC := kH15.cl cC (by simp)
        have had := kH15.rd had (by simp)
        have kacc := kacc.trans kH15
        have c13 := kH15.cl c13 (by simp)
        obtain ⟨H16, hH16⟩ : ∃ H16, H15.new (.cells [iv (min 20000 (y.1 + x)), iv (min 20000 (y.2 + x))] 24 false) = H16 := ⟨_, rfl⟩
        refine wD_memh (H' := H16) (k := .heavy) rfl (by kernel_rfl) ((heap_build1 (v := .agg #[iv (min 20000 (y.1 + x)), iv (min 20000 (y.2 + x))]) se22 z24 rfl rfl rfl (by decide)).trans (by rw [← hH16]; rfl)) (fun b e => by cases e) ?_
        obtain ⟨kH16, nH16, c16⟩ := new_facts hH16; clear hH16
        have c16 : Cl H16 H15.next [iv (min 20000 (y.1 + x)), iv (min 20000 (y.2 + x))] := c16
        have mH16 := kH16.1
        have hk := hk.trans kH16
        have hw := kH16.sl0 hw
        have cA := kH16.cl cA (by simp)
        have cB := kH16.cl cB (by simp)
        have cC := kH16.cl cC (by simp)
        have had := kH16.rd had (by simp)
        have kacc := kacc.trans kH16
        have c13 := kH16.cl c13 (by simp)
        obtain ⟨H17, kdH17, eH17, dH17, aH17, kbH17⟩ := heap_append_below (P := Try.prog) (lo := lo) (k := i) (t1 := 22) se22 u22 (c16.sl (Nat.le_refl 1)) rfl (by decide) rfl (by rw [spc_len, List.length_take, List.length_map]; omega) (by omega) (hacc.keep kacc) (by omega) (by omega)
        refine wD_memh (k := kdH17) rfl (by cases wv <;> kernel_rfl) (eH17 _ _ _ _ _ _ _ rfl rfl) (reg_ok dH17 _) ?_
        have hk := kbH17.keep hk (by omega)
        have hw := kbH17.sl hw (fun b e => by have := fw b e; omega)
        have cA := kbH17.cl cA (by omega)
        have cB := kbH17.cl cB (by omega)
        have cC := kbH17.cl cC (by omega)
        have had := kbH17.rd had (by omega)
        have mH17 := kbH17.1
        refine wD_addo (b := z2) (o := 0) rfl ?_
        refine wD_st (b := z2) (o := 1) rfl rfl cC (by omega) rfl rfl (by simp) ?_
        intro H18 kH18 nH18 sH18
        have mH18 := kH18.1
        have hk := hk.new kH18 (fun b hb => by simp at hb ⊢; omega)
        have hw := kH18.sl hw (fun b e => by have := fw b e; first | (simp; done) | (simp; omega))
        have cA := kH18.cl cA (by first | (simp; done) | (simp; omega))
        have cB := kH18.cl cB (by first | (simp; done) | (simp; omega))
        have had := kH18.rd had (by first | (simp; done) | (simp; omega))
        have cC : Cl H18 z2 [.slice g.wa g.wn g.wcap, .slice (some ⟨H16.next, 0, none⟩) (i + 1) (i + 1), iv g.r1, iv g.r2, iv (min g.full (g.f1 + x)), iv (min g.full (g.f2 + x)), iv (min g.full (g.g1 + x)), iv (min g.full (g.g2 + x)), iv g.full, iv g.base, iv g.kill, iv g.need, iv g.bear] := sH18
        refine wD_end (by rcases dH17 with rfl | ⟨bH17, rfl, hbH17⟩ <;> repeat' first | exact True.intro | exact (fun h => h) | refine And.intro ?_ ?_ | (intro h; have h : (_ : Nat) = _ := h; omega)) ?_
        refine And.intro (show InR ((i : Int) + 1) from ⟨by omega, by omega⟩) ?_
        refine ⟨q - 1, (_, i + 1), by omega, ⟨by show i + 1 + (q - 1) = g.an; omega, hk, hw, .inr ⟨ab, (by first | rfl | exact eaa), had, qa⟩, cA, cB, cC, ?_, by omega⟩, rfl, rfl, rfl, rfl, rfl, rfl, rfl, rfl, rfl, rfl, rfl, trivial⟩
        have ho : spc ((g.as.map (moreS 20000 x)).take (i + 1)) = spc ((g.as.map (moreS 20000 x)).take i) ++ [iv (min 20000 (y.1 + x)), iv (min 20000 (y.2 + x))] := by
          rw [List.take_add_one, List.getElem?_map, hy]; simp [spc, moreS]
        show Acc _ _ _ _ _ (i + 1) (spc ((g.as.map (moreS 20000 x)).take (i + 1)))
        rw [ho]; exact aH17.keepW kH18 (by omega)
      · have q3 : ¬ ((i : Int) < (g.an : Int)) := of_decide_eq_false q3
        have hi : i = g.an := by omega
        subst hi
        obtain ⟨ta, tc, rfl, hta, hft⟩ := hacc.sl
        rw [List.take_of_length_le (by rw [List.length_map]; omega)] at hta
        have fta : ∀ b, ta = some ⟨b, 0, none⟩ → b < L1.next := hta.old
        refine Exists.intro _ (Exists.intro _ (And.intro cC.of (And.intro (show row 13 _ _ = some (g.rich x ta tc).v from rfl) ?_)))
        obtain ⟨wH19, H19, fH19, kH19, hc⟩ := bears_ok (kn := kn) (lo := lo) (H := L1) (g := g.rich x ta tc) (a := (s : Int)) h48 hw hta hwl (by show (g.as.map _).length = _; rw [List.length_map]; exact hal) (by show g.wn ≤ 1000; omega) (by show g.an ≤ 1000; omega) (by omega)
        have mH19 := kH19.1
        have hk := hk.trans kH19
        have hw := kH19.sl0 hw
        have ha := kH19.sl0 ha
        have cA := kH19.cl cA (by simp)
        have cB := kH19.cl cB (by simp)
        have cC := kH19.cl cC (by simp)
        have hta := kH19.sl0 hta
        obtain ⟨m2, hmm, rfl⟩ : ∃ m2 : Nat, m ≤ m2 ∧ wH19 = .tuple #[iv (m2 : Int), iv 0] := by
          rcases hc with ⟨h, e⟩ | ⟨h, h2, e⟩ | ⟨h, s1, d1, m2, h1, h2, h3, h4, h5, e⟩
          · rw [Lt.ok_of (Lt.rich_vd v hx.1)] at h; cases h
          · have h2 : inB (s : Int) 0 g.wn = false := h2; simp only [inB, Bool.and_eq_false_iff, decide_eq_false_iff_not] at h2; omega
          · have h2 : s1 + d1 = g.wn := h2
            obtain rfl : s = s1 := by omega
            obtain rfl : d = d1 := by omega
            refine ⟨m2, ?_, e⟩
            rcases h5 with h5 | h5
            · omega
            · have h5 : g.bear < (g.rich x ta tc).sl s (Nat.testBit 0) (m2 + 1) := h5
              rcases Nat.lt_or_ge m2 m with q | q
              · have q1 := Lt.rich_sl v hx.1 (aa := ta) (acap := tc) (s := s) (m2 + 1) (by omega)
                have q2 := hm2 (m2 + 1) q; omega
              · exact q
        refine Exists.intro _ (Exists.intro _ (And.intro (callX_args fH19) ?_))
        refine And.intro rfl (Exists.intro (iv (m2 : Int)) (And.intro (by kernel_rfl) ?_))
        refine And.intro rfl (Exists.intro (iv 0) (And.intro (by kernel_rfl) ?_))
        intro t4 g4; obtain rfl : t4 = false := by rw [← g4]; rfl
        intro t5 g5; cases t5
        · have g5 : ¬ ((m2 : Int) < (m : Int)) := of_decide_eq_false g5
          refine And.intro rfl (Exists.intro (.bool false) (And.intro rfl ?_))
          refine condF ?_
          refine Exists.intro _ (Exists.intro _ (And.intro cA.of (And.intro (show row 13 _ _ = some [.slice g.wa g.wn g.wcap, .slice g.aa g.an g.acap, iv g.r1, iv g.r2, iv g.f1, iv g.f2, iv g.g1, iv g.g2, iv g.full, iv g.base, iv g.kill, iv g.need, iv g.bear] from rfl) ?_)))
          cases hfl : flB g (s : Int) b
          · obtain ⟨wH20, H20, fH20, kH20, hc⟩ := oxygen_ok (kn := kn) (lo := lo) (H := H19) (g := g) (a := (s : Int)) (b := b) hw ha hwl hal (by omega) (by omega) (us := []) (la := none) (n := 0) (cap := 0) (.inl ⟨.inl rfl, rfl, rfl, rfl⟩) rfl (by decide) (by omega)
            have mH20 := kH20.1
            have hk := hk.trans kH20
            have hw := kH20.sl0 hw
            have ha := kH20.sl0 ha
            have cA := kH20.cl cA (by simp)
            have cB := kH20.cl cB (by simp)
            have cC := kH20.cl cC (by simp)
            have hta := kH20.sl0 hta
            obtain rfl : wH20 = .tuple #[.slice none 0 0, iv 2] := by
              rcases hc with ⟨h, _⟩ | ⟨_, _, h⟩ | ⟨_, s1, d1, h1, h2, h3, _⟩
              · rw [hok] at h; cases h
              · exact h
              · rw [h1, h2, flB_of h3] at hfl; cases hfl
            refine Exists.intro _ (Exists.intro _ (And.intro (callX_args fH20) ?_))
            refine And.intro rfl (Exists.intro (.slice none 0 0) (And.intro (by kernel_rfl) ?_))
            refine And.intro rfl (Exists.intro (iv 2) (And.intro (by kernel_rfl) ?_))
            refine condT ?_
            refine al _ _ ?_
            exact And.intro trivial (Exists.intro _ (And.intro rfl rfl))
          · obtain ⟨s1, e0, h1, rfl, h2⟩ := flB_get hfl
            obtain rfl : s = s1 := by omega
            obtain ⟨ov, H21, fH21, kH21, hov⟩ := oxygen_at (kn := kn) (lo := lo) (H := H19) (g := g) hw ha hwl hal (by omega) (by omega) hok s e0 rfl rfl h2 (us := []) (la := none) (n := 0) (cap := 0) rfl (.inl ⟨.inl rfl, rfl, rfl, rfl⟩) rfl (by decide) (by omega)
            have mH21 := kH21.1
            have hk := hk.trans kH21
            have hw := kH21.sl0 hw
            have ha := kH21.sl0 ha
            have cA := kH21.cl cA (by simp)
            have cB := kH21.cl cB (by simp)
            have cC := kH21.cl cC (by simp)
            have hta := kH21.sl0 hta
            refine Exists.intro _ (Exists.intro _ (And.intro (callX_args fH21) ?_))
            refine And.intro rfl (Exists.intro (ov) (And.intro (by kernel_rfl) ?_))
            refine And.intro rfl (Exists.intro (iv 0) (And.intro (by kernel_rfl) ?_))
            refine condF ?_
            rcases Nat.eq_zero_or_pos e0 with rfl | he0
            · obtain rfl := hov.nil
              intro t6 g6; cases t6
              · have g6 : ¬ (((0 : Nat) : Int) = 0) := by simpa using g6
                exfalso; omega
              · have g6 : ((0 : Nat) : Int) = 0 := by simpa using g6
                refine And.intro rfl (Exists.intro (.bool true) (And.intro rfl ?_))
                refine condT ?_
                intro t7 g7; cases t7
                · have g7 : ¬ (0 = ((0 : Nat) : Int)) := by simpa using g7
                  exfalso; omega
                · have g7 : 0 = ((0 : Nat) : Int) := by simpa using g7
                  refine al _ _ ?_
                  refine And.intro rfl (Exists.intro (.bool true) (And.intro rfl ?_))
                  exact And.intro trivial (Exists.intro _ (And.intro rfl rfl))
            · obtain ⟨b1, rfl, hb1, _, lz1⟩ := hov.lz he0
              have lb1 := lz1.1
              intro t8 g8; cases t8
              · have g8 : ¬ ((e0 : Int) = 0) := by simpa using g8
                intro t9 g9; cases t9
                · have g9 : ¬ ((e0 : Int) ≠ (e0 : Int)) := by simpa using g9
                  refine And.intro rfl (Exists.intro (.bool false) (And.intro rfl ?_))
                  refine condF ?_
                  refine Exists.intro _ (Exists.intro _ (And.intro cA.of (And.intro (show row 13 _ _ = some [.slice g.wa g.wn g.wcap, .slice g.aa g.an g.acap, iv g.r1, iv g.r2, iv g.f1, iv g.f2, iv g.g1, iv g.g2, iv g.full, iv g.base, iv g.kill, iv g.need, iv g.bear] from rfl) ?_)))
                  obtain ⟨H22, fH22, kH22⟩ := tells_is (kn := kn) (lo := lo) (H := H21) (a := (s : Int)) (b := (e0 : Int)) h48 hw ha hwl hal (by omega) (by omega) hok s e0 rfl (by omega) (by omega) (by omega)
                  have mH22 := kH22.1
                  have hk := hk.trans kH22
                  have hw := kH22.sl0 hw
                  have ha := kH22.sl0 ha
                  have cA := kH22.cl cA (by simp)
                  have cB := kH22.cl cB (by simp)
                  have cC := kH22.cl cC (by simp)
                  have hta := kH22.sl0 hta
                  have lz1 := kH22.lz lz1 (by simp)
                  refine Exists.intro _ (Exists.intro _ (And.intro (callX_args fH22) ?_))
                  refine And.intro rfl (Exists.intro (iv (g.tx s e0)) (And.intro (by kernel_rfl) ?_))
                  refine And.intro rfl (Exists.intro (iv (g.ty s e0)) (And.intro (by kernel_rfl) ?_))
                  refine And.intro rfl (Exists.intro (iv 0) (And.intro (by kernel_rfl) ?_))
                  refine Exists.intro _ (Exists.intro _ (And.intro cA.of (And.intro (show row 13 _ _ = some [.slice g.wa g.wn g.wcap, .slice g.aa g.an g.acap, iv g.r1, iv g.r2, iv g.f1, iv g.f2, iv g.g1, iv g.g2, iv g.full, iv g.base, iv g.kill, iv g.need, iv g.bear] from rfl) ?_)))
                  refine And.intro (show InR ((e0 : Int) - 1) from ⟨by omega, by omega⟩) ?_
                  obtain ⟨H23, fH23, kH23⟩ := tells_is (kn := kn) (lo := lo) (H := H22) (a := (s : Int)) (b := (e0 : Int) - 1) h48 hw ha hwl hal (by omega) (by omega) hok s (e0 - 1) rfl (by omega) (by omega) (by omega)
                  have mH23 := kH23.1
                  have hk := hk.trans kH23
                  have hw := kH23.sl0 hw
                  have ha := kH23.sl0 ha
                  have cA := kH23.cl cA (by simp)
                  have cB := kH23.cl cB (by simp)
                  have cC := kH23.cl cC (by simp)
                  have hta := kH23.sl0 hta
                  have lz1 := kH23.lz lz1 (by simp)
                  refine Exists.intro _ (Exists.intro _ (And.intro (callX_args fH23) ?_))
                  refine And.intro rfl (Exists.intro (iv (g.tx s (e0 - 1))) (And.intro (by kernel_rfl) ?_))
                  refine And.intro rfl (Exists.intro (iv (g.ty s (e0 - 1))) (And.intro (by kernel_rfl) ?_))
                  refine And.intro rfl (Exists.intro (iv 0) (And.intro (by kernel_rfl) ?_))
                  intro t10 g10; obtain rfl : t10 = false := by rw [← g10]; rfl
                  intro t11 g11; obtain rfl : t11 = false := by rw [← g11]; rfl
                  refine And.intro rfl (Exists.intro (.bool false) (And.intro rfl ?_))
                  intro t12 g12; cases t12
                  · have g12 : ¬ ((g.tx s (e0 - 1)) > (g.tx s e0)) := of_decide_eq_false g12
                    refine And.intro rfl (Exists.intro (.bool false) (And.intro rfl ?_))
                    intro t13 g13; cases t13
                    · have g13 : ¬ ((g.ty s (e0 - 1)) > (g.ty s e0)) := of_decide_eq_false g13
                      refine And.intro rfl (Exists.intro (.bool false) (And.intro rfl ?_))
                      refine condF ?_
                      refine And.intro rfl (Exists.intro (iv y0) (And.intro (conv_8 y0 hy0 rfl) ?_))
                      obtain ⟨p, hp, lp⟩ := mod_nat (x := y0) (n := (e0 : Int)) (by omega) (by omega)
                      refine And.intro (by omega) (And.intro (by omega) (And.intro ⟨by omega, by omega⟩ (And.intro ⟨by omega, by omega⟩ ?_)))
                      refine And.intro (show InR ((s : Int) + y0 % (e0 : Int)) from ⟨by omega, by omega⟩) ?_
                      rw [show (s : Int) + y0 % (e0 : Int) = ((s + p : Nat) : Int) by omega]
                      refine Exists.intro _ (Exists.intro _ (And.intro cA.of (And.intro (show row 13 _ _ = some [.slice g.wa g.wn g.wcap, .slice g.aa g.an g.acap, iv g.r1, iv g.r2, iv g.f1, iv g.f2, iv g.g1, iv g.g2, iv g.full, iv g.base, iv g.kill, iv g.need, iv g.bear] from rfl) ?_)))
                      obtain ⟨H24, hH24⟩ : ∃ H24, H23.new (.cells [iv ((s + p : Nat) : Int)] 3 false) = H24 := ⟨_, rfl⟩
                      refine And.intro rfl (Or.inr (And.intro (by kernel_rfl) (Exists.intro _ (Exists.intro H24 (Exists.intro _ (And.intro ((heap_build1 (v := iv ((s + p : Nat) : Int)) se27 z3 rfl rfl rfl (by decide)).trans (by rw [← hH24]; rfl)) (And.intro (fun b e => by cases e) ?_)))))))
                      obtain ⟨kH24, nH24, c24⟩ := new_facts hH24; clear hH24
                      have c24 : Cl H24 H23.next [iv ((s + p : Nat) : Int)] := c24
                      have mH24 := kH24.1
                      have hk := hk.trans kH24
                      have hw := kH24.sl0 hw
                      have ha := kH24.sl0 ha
                      have cA := kH24.cl cA (by simp)
                      have cB := kH24.cl cB (by simp)
                      have cC := kH24.cl cC (by simp)
                      have hta := kH24.sl0 hta
                      have lz1 := kH24.lz lz1 (by simp)
                      obtain ⟨ov2, H25, fH25, kH25, hov2⟩ := oxygen_at (kn := kn) (lo := lo) (H := H24) (g := g) hw ha hwl hal (by omega) (by omega) hok s e0 rfl rfl h2 (us := [((s + p : Nat) : Int)]) (one_set (by omega) (by omega)) (show Sl H24 _ 1 1 (ints [((s + p : Nat) : Int)]) from c24.sl (Nat.le_refl 1)) rfl (by decide) (by omega)
                      have mH25 := kH25.1
                      have hk := hk.trans kH25
                      have hw := kH25.sl0 hw
                      have ha := kH25.sl0 ha
                      have cA := kH25.cl cA (by simp)
                      have cB := kH25.cl cB (by simp)
                      have cC := kH25.cl cC (by simp)
                      have hta := kH25.sl0 hta
                      have lz1 := kH25.lz lz1 (by simp)
                      have c24 := kH25.cl c24 (by simp)
                      obtain ⟨b2, rfl, hb2, _, lz2⟩ := hov2.lz (by omega)
                      have lb2 := lz2.1
                      refine Exists.intro _ (Exists.intro _ (And.intro (callX_args fH25) ?_))
                      refine And.intro rfl (Exists.intro (.slice (some ⟨b2, 0, none⟩) e0 e0) (And.intro (by kernel_rfl) ?_))
                      refine And.intro rfl (Exists.intro (iv 0) (And.intro (by kernel_rfl) ?_))
                      refine Exists.intro _ (Exists.intro _ (And.intro cA.of (And.intro (show row 13 _ _ = some [.slice g.wa g.wn g.wcap, .slice g.aa g.an g.acap, iv g.r1, iv g.r2, iv g.f1, iv g.f2, iv g.g1, iv g.g2, iv g.full, iv g.base, iv g.kill, iv g.need, iv g.bear] from rfl) ?_)))
                      intro H26 hH26; obtain ⟨kH26, nH26, c26⟩ := new_facts hH26; clear hH26
                      have c26 : Cl H26 H25.next [.slice none 0 0, .slice none 0 0, iv 0, iv 0, iv 0, iv 0, iv 0, iv 0, iv 0, iv 0, iv 0, iv 0, iv 0] := c26
                      have mH26 := kH26.1
                      have hk := hk.trans kH26
                      have hw := kH26.sl0 hw
                      have ha := kH26.sl0 ha
                      have cA := kH26.cl cA (by simp)
                      have cB := kH26.cl cB (by simp)
                      have cC := kH26.cl cC (by simp)
                      have hta := kH26.sl0 hta
                      have lz1 := kH26.lz lz1 (by simp)
                      have c24 := kH26.cl c24 (by simp)
                      have lz2 := kH26.lz lz2 (by simp)
                      obtain ⟨_, eH27, lH27, gH27⟩ := id c26
                      refine Exists.intro _ (Exists.intro _ (Exists.intro _ (And.intro gH27 (And.intro (by omega) (And.intro rfl (And.intro rfl (And.intro (by simp) ?_)))))))
                      intro H27 hH27; obtain ⟨kH27, nH27, sH27⟩ := up_facts c26 hH27; clear hH27
                      have mH27 := kH27.1
                      have hk := hk.new kH27 (fun b hb => by simp at hb ⊢; omega)
                      have hw := kH27.sl hw (fun b e => by have := fw b e; first | (simp; done) | (simp; omega))
                      have ha := kH27.sl ha (fun b e => by have := fa b e; first | (simp; done) | (simp; omega))
                      have cA := kH27.cl cA (by first | (simp; done) | (simp; omega))
                      have cB := kH27.cl cB (by first | (simp; done) | (simp; omega))
                      have cC := kH27.cl cC (by first | (simp; done) | (simp; omega))
                      have hta := kH27.sl hta (fun b e => by have := fta b e; first | (simp; done) | (simp; omega))
                      have lz1 := kH27.lz lz1 (by first | (simp; done) | (simp; omega))
                      have c24 := kH27.cl c24 (by first | (simp; done) | (simp; omega))
                      have lz2 := kH27.lz lz2 (by first | (simp; done) | (simp; omega))
                      have c26 : Cl H27 H25.next [.slice g.wa g.wn g.wcap, .slice g.aa g.an g.acap, iv g.r1, iv g.r2, iv g.f1, iv g.f2, iv g.g1, iv g.g2, iv g.full, iv g.base, iv g.kill, iv g.need, iv g.bear] := sH27
                      refine Exists.intro _ (Exists.intro _ (And.intro cA.of (And.intro (show row 2 _ _ = some [iv g.g1, iv g.g2] from rfl) ?_)))
                      obtain ⟨_, eH28, lH28, gH28⟩ := id c26
                      refine Exists.intro _ (Exists.intro _ (Exists.intro _ (And.intro gH28 (And.intro (by omega) (And.intro rfl (And.intro rfl (And.intro (by simp) ?_)))))))
                      intro H28 hH28; obtain ⟨kH28, nH28, sH28⟩ := up_facts c26 hH28; clear hH28
                      have mH28 := kH28.1
                      have hk := hk.new kH28 (fun b hb => by simp at hb ⊢; omega)
                      have hw := kH28.sl hw (fun b e => by have := fw b e; first | (simp; done) | (simp; omega))
                      have ha := kH28.sl ha (fun b e => by have := fa b e; first | (simp; done) | (simp; omega))
                      have cA := kH28.cl cA (by first | (simp; done) | (simp; omega))
                      have cB := kH28.cl cB (by first | (simp; done) | (simp; omega))
                      have cC := kH28.cl cC (by first | (simp; done) | (simp; omega))
                      have hta := kH28.sl hta (fun b e => by have := fta b e; first | (simp; done) | (simp; omega))
                      have lz1 := kH28.lz lz1 (by first | (simp; done) | (simp; omega))
                      have c24 := kH28.cl c24 (by first | (simp; done) | (simp; omega))
                      have lz2 := kH28.lz lz2 (by first | (simp; done) | (simp; omega))
                      have c26 : Cl H28 H25.next [.slice g.wa g.wn g.wcap, .slice g.aa g.an g.acap, iv g.r1, iv g.r2, iv g.g1, iv g.g2, iv g.g1, iv g.g2, iv g.full, iv g.base, iv g.kill, iv g.need, iv g.bear] := sH28
                      refine Exists.intro _ (Exists.intro _ (And.intro c26.of (And.intro (show row 13 _ _ = some g.rest.v from rfl) ?_)))
                      refine And.intro (show InR ((s : Int) + (e0 : Int)) from ⟨by omega, by omega⟩) ?_
                      refine And.intro (show InR (((s : Int) + (e0 : Int)) - ((s + p : Nat) : Int)) from ⟨by omega, by omega⟩) ?_
                      obtain ⟨ov3, H29, fH29, kH29, hov3⟩ := oxygen_at (kn := kn) (lo := lo) (H := H28) (g := g.rest) hw ha hwl hal (by show g.wn ≤ 1000; omega) (by show g.an ≤ 1000; omega) (Lt.ok_of (Lt.rest_vd v)) (a := ((s + p : Nat) : Int)) (b := ((s : Int) + (e0 : Int)) - ((s + p : Nat) : Int)) (s + p) (e0 - p) (by omega) (by omega) (by show s + p + (e0 - p) ≤ g.wn; omega) (us := []) (la := none) (n := 0) (cap := 0) rfl (.inl ⟨.inl rfl, rfl, rfl, rfl⟩) rfl (by decide) (by omega)
                      have mH29 := kH29.1
                      have hk := hk.trans kH29
                      have hw := kH29.sl0 hw
                      have ha := kH29.sl0 ha
                      have cA := kH29.cl cA (by simp)
                      have cB := kH29.cl cB (by simp)
                      have cC := kH29.cl cC (by simp)
                      have hta := kH29.sl0 hta
                      have lz1 := kH29.lz lz1 (by simp)
                      have c24 := kH29.cl c24 (by simp)
                      have lz2 := kH29.lz lz2 (by simp)
                      have c26 := kH29.cl c26 (by simp)
                      obtain ⟨b3, rfl, hb3, _, lz3⟩ := hov3.lz (by omega)
                      have lb3 := lz3.1
                      refine Exists.intro _ (Exists.intro _ (And.intro (callX_args fH29) ?_))
                      refine And.intro rfl (Exists.intro (.slice (some ⟨b3, 0, none⟩) (e0 - p) (e0 - p)) (And.intro (by kernel_rfl) ?_))
                      refine And.intro rfl (Exists.intro (iv 0) (And.intro (by kernel_rfl) ?_))
                      refine wD_seq ?_
                      refine wD_mov (v := iv 0) rfl ?_
                      refine wD_b_eql (a := 0) (b := 0) rfl rfl ?_
                      intro t14 g14; obtain rfl : t14 = true := by rw [← g14]; rfl
                      refine wD_mov (v := .bool true) rfl ?_
                      refine wD_g rfl (wD_mov (v := iv 0) rfl ?_)
                      refine wD_g rfl (wD_b_eql (a := 0) (b := 0) rfl rfl ?_)
                      intro t15 g15; obtain rfl : t15 = true := by rw [← g15]; rfl
                      refine wD_pur (v := .bool true) rfl rfl ?_
                      refine wD_mov (v := .bool true) rfl ?_
                      refine wD_g rfl (wD_mov (v := .slice (some ⟨b2, 0, none⟩) e0 e0) rfl ?_)
                      refine wD_g rfl (wD_len (m := e0) rfl ?_)
                      refine wD_g rfl (wD_mov (v := iv (e0 : Int)) rfl ?_)
                      refine wD_g rfl (wD_eql (a := (e0 : Int)) rfl rfl ?_)
                      refine wD_pur (v := .bool true) rfl rfl ?_
                      refine wD_mov (v := .bool true) rfl ?_
                      refine wD_g rfl (wD_mov (v := .slice (some ⟨b2, 0, none⟩) e0 e0) rfl ?_)
                      refine wD_g rfl (wD_mov (v := iv ((s + p : Nat) : Int)) rfl ?_)
                      refine wD_g rfl (wD_mov (v := iv (s : Int)) rfl ?_)
                      refine wD_g rfl (wD_sub (a := ((s + p : Nat) : Int)) (b := (s : Int)) rfl rfl ⟨by omega, by omega⟩ ?_)
                      refine wD_g rfl (wD_memh (k := .read b2) rfl (by kernel_rfl) (heap_from (k := p) lz2 rfl rfl (by omega) (by omega)) (fun b e => by cases e; exact lz2.1) ?_)
                      refine wD_g rfl (wD_mov (v := .slice (some ⟨b3, 0, none⟩) (e0 - p) (e0 - p)) rfl ?_)
                      have vw1 : Vw H29 (some ⟨b2, p * 2, none⟩) (g.rest.ox (s + p) (Nat.testBit 0) (e0 - p)) := by
                        have e := Lt.ox_drop (g := g) (s := s) (p := p) (d := e0) (F := Nat.testBit (dayMask [((s + p : Nat) : Int)])) (G := Nat.testBit 0) (by omega) (by rw [one_bit]; simp) (fun i => by rw [one_bit]; simp; omega) (fun i => by simp)
                        rw [← e]; exact lz2.rd.vw
                      obtain ⟨H30, fH30, kH30⟩ := same_vw (kn := kn) (lo := lo) (H := H29) (n := e0 - p) (c1 := e0 - p) (c2 := e0 - p) vw1 lz3.rd.vwA (Lt.ox_len _) (by omega)
                      refine wD_g rfl (wD_callf (vs := [.slice (some ⟨b2, p * 2, none⟩) (e0 - p) (e0 - p), .slice (some ⟨b3, 0, none⟩) (e0 - p) (e0 - p)]) rfl (callX_args fH30) ?_)
                      have mH30 := kH30.1
                      have hk := hk.trans kH30
                      have hw := kH30.sl0 hw
                      have ha := kH30.sl0 ha
                      have cA := kH30.cl cA (by simp)
                      have cB := kH30.cl cB (by simp)
                      have cC := kH30.cl cC (by simp)
                      have hta := kH30.sl0 hta
                      have lz1 := kH30.lz lz1 (by simp)
                      have c24 := kH30.cl c24 (by simp)
                      have lz2 := kH30.lz lz2 (by simp)
                      have c26 := kH30.cl c26 (by simp)
                      have lz3 := kH30.lz lz3 (by simp)
                      refine wD_pur (v := .bool true) rfl rfl ?_
                      refine wD_mov (v := .bool true) rfl ?_
                      refine wD_g rfl (wD_mov (v := .slice (some ⟨b2, 0, none⟩) e0 e0) rfl ?_)
                      refine wD_g rfl (wD_mov (v := iv ((s + p : Nat) : Int)) rfl ?_)
                      refine wD_g rfl (wD_mov (v := iv (s : Int)) rfl ?_)
                      refine wD_g rfl (wD_sub (a := ((s + p : Nat) : Int)) (b := (s : Int)) rfl rfl ⟨by omega, by omega⟩ ?_)
                      refine wD_g rfl (wD_memh (k := .read b2) rfl (by kernel_rfl) (heap_to (k := p) lz2 rfl rfl (by omega) (by omega)) (fun b e => by cases e; exact lz2.1) ?_)
                      refine wD_g rfl (wD_mov (v := .slice (some ⟨b1, 0, none⟩) e0 e0) rfl ?_)
                      refine wD_g rfl (wD_mov (v := iv ((s + p : Nat) : Int)) rfl ?_)
                      refine wD_g rfl (wD_mov (v := iv (s : Int)) rfl ?_)
                      refine wD_g rfl (wD_sub (a := ((s + p : Nat) : Int)) (b := (s : Int)) rfl rfl ⟨by omega, by omega⟩ ?_)
                      refine wD_g rfl (wD_memh (k := .read b1) rfl (by kernel_rfl) (heap_to (k := p) lz1 rfl rfl (by omega) (by omega)) (fun b e => by cases e; exact lz1.1) ?_)
                      have vw2 : Vw H30 (some ⟨b2, 0, none⟩) ((g.ox s (Nat.testBit 0) e0).take p) := by
                        have e := Lt.ox_take (g := g) (s := s) (p := p) (d := e0) (F := Nat.testBit (dayMask [((s + p : Nat) : Int)])) (G := Nat.testBit 0) (fun i hi => by rw [one_bit]; simp; omega)
                        rw [← e]; exact lz2.rd.vw0
                      obtain ⟨H31, fH31, kH31⟩ := same_vw (kn := kn) (lo := lo) (H := H30) (n := p) (c1 := e0) (c2 := e0) vw2 lz1.rd.vw0 (by rw [List.length_take, Lt.ox_len]; omega) (by omega)
                      refine wD_g rfl (wD_callf (vs := [.slice (some ⟨b2, 0, none⟩) p e0, .slice (some ⟨b1, 0, none⟩) p e0]) rfl (callX_args fH31) ?_)
                      have mH31 := kH31.1
                      have hk := hk.trans kH31
                      have hw := kH31.sl0 hw
                      have ha := kH31.sl0 ha
                      have cA := kH31.cl cA (by simp)
                      have cB := kH31.cl cB (by simp)
                      have cC := kH31.cl cC (by simp)
                      have hta := kH31.sl0 hta
                      have lz1 := kH31.lz lz1 (by simp)
                      have c24 := kH31.cl c24 (by simp)
                      have lz2 := kH31.lz lz2 (by simp)
                      have c26 := kH31.cl c26 (by simp)
                      have lz3 := kH31.lz lz3 (by simp)
                      refine wD_pur (v := .bool true) rfl rfl ?_
                      refine wD_mov (v := .bool true) rfl ?_
                      refine wD_g rfl (wD_callf (vs := []) rfl (callX_known hkn) ?_)
                      refine wD_pur (v := .bool true) rfl rfl ?_
                      refine wD_mov (v := .bool true) rfl ?_
                      refine wD_end (by repeat' first | exact True.intro | exact (fun h => h) | refine And.intro ?_ ?_ | (intro h; have h : (_ : Nat) = _ := h; omega)) ?_
                      exact And.intro trivial (Exists.intro _ (And.intro rfl rfl))
                    · have g13 : (g.ty s (e0 - 1)) > (g.ty s e0) := of_decide_eq_true g13
                      exfalso; have := Lt.ty_le (g := g) (s := s) (show e0 - 1 ≤ e0 by omega); omega
                  · have g12 : (g.tx s (e0 - 1)) > (g.tx s e0) := of_decide_eq_true g12
                    exfalso; have := Lt.tx_le (g := g) (s := s) (show e0 - 1 ≤ e0 by omega); omega
                · have g9 : (e0 : Int) ≠ (e0 : Int) := by simpa using g9
                  exact absurd rfl g9
              · have g8 : (e0 : Int) = 0 := by simpa using g8
                exfalso; omega
        · have g5 : (m2 : Int) < (m : Int) := of_decide_eq_true g5
          exfalso; omega
  · refine condT ?_
    refine al _ _ ?_
    exact And.intro trivial (Exists.intro _ (And.intro rfl rfl))
end
end Go.Ax

namespace Go.Ax
open Go Go.RowKit Go.Proofs Go.ChangeShapes Go.WideShapes Go.Deep

/-- A type whose cells are whole numbers. -/
def IntT (P : Program) (t : TypeId) : Prop := ∀ (H : Type) (enc : TypeId × Value → H) (w : World) (base : Nat) (spare : Nat → Bool) (held : Bool) (fuel : Nat) (cs : List Value) (x : DataW H × List MemPlace),
  DataW.trod enc P w base spare held fuel t cs = some x → cs.length = P.cellsOf t ∧ ∀ j, j < cs.length → ∃ n, cs[j]? = some (.int .i64 n)
theorem IntT.int {P : Program} {t : TypeId} (ht : P.underlying t = some (.int .i64)) (hc : P.cellsOf t = 1) : IntT P t := by
  intro H enc w base spare held fuel cs x h
  obtain ⟨n, rfl, _⟩ := DataW.trod_int ht h
  refine ⟨by rw [hc]; rfl, fun j hj => ⟨n, ?_⟩⟩
  have : j = 0 := by simp at hj; omega
  subst this; rfl
theorem IntT.struct {P : Program} {t : TypeId} {fs : Array Field} (ht : P.underlying t = some (.struct fs)) (hf : ∀ f ∈ fs.toList, IntT P f.type)
    (hcov : ((List.range (P.cellsOf t)).all fun j => fs.toList.any fun f => decide (f.offset ≤ j) && decide (j < f.offset + P.cellsOf f.type)) = true) : IntT P t := by
  intro H enc w base spare held fuel cs x h
  obtain ⟨xs, n, _, _, hlen, hxl, hg⟩ := DataW.trod_struct ht h
  refine ⟨hlen, fun j hj => ?_⟩
  have h1 := List.all_eq_true.1 hcov j (List.mem_range.2 (by omega))
  obtain ⟨f, hfm, h2⟩ := List.any_eq_true.1 h1
  simp only [Bool.and_eq_true, decide_eq_true_eq] at h2
  obtain ⟨i, hi, hfi⟩ := List.getElem_of_mem hfm
  have hfs : fs[i]? = some f := by
    rw [← Array.getElem?_toList, List.getElem?_eq_getElem hi, hfi]
  have hi2 : i < xs.length := by simpa [hxl] using hi
  have h3 := hg i f hfs
  rw [List.getElem?_eq_getElem hi2] at h3
  obtain ⟨h4, h5⟩ := hf f hfm _ _ _ _ _ _ _ _ _ h3
  obtain ⟨m, hm⟩ := h5 (j - f.offset) (by omega)
  refine ⟨m, ?_⟩
  rw [List.getElem?_take] at hm
  split at hm
  · rw [List.getElem?_drop, show f.offset + (j - f.offset) = j by omega] at hm; exact hm
  · cases hm

/-- A slice of rows of whole numbers, as it is given. -/
structure Given {α : Type} (w : World) (v : Value) (f : α → List Value) (l : List α) (x : Imp) : Prop where
  ok : ∀ (i : Nat) u, x.cs[i]? = some u → w.cell? ⟨x.blk, x.off + i, none⟩ = some u ∧ flat1 u = true
  cs : x.cs = l.flatMap f
  v : (v = .slice none 0 0 ∧ l = []) ∨ ∃ cap, v = .slice (some ⟨x.blk, x.off, none⟩) l.length cap ∧ l.length ≤ cap
theorem flat_get {α : Type} {f : α → List Value} {k : Nat} (hk : 0 < k) : ∀ {l : List α} (_ : ∀ x ∈ l, (f x).length = k) (i : Nat) (u : Value), (l.flatMap f)[i]? = some u → ∃ x, l[i / k]? = some x ∧ (f x)[i % k]? = some u
  | [], _, i, u, h => by simp at h
  | y :: r, hl, i, u, h => by
    have hy := hl y (List.mem_cons_self ..)
    rw [List.flatMap_cons, List.getElem?_append] at h
    split at h
    · rename_i q
      rw [hy] at q
      refine ⟨y, ?_, ?_⟩
      · rw [Nat.div_eq_of_lt q]; rfl
      · rw [Nat.mod_eq_of_lt q]; exact h
    · rename_i q
      rw [hy] at q h
      obtain ⟨x, h1, h2⟩ := flat_get hk (fun x hx => hl x (List.mem_cons_of_mem _ hx)) _ u h
      refine ⟨x, ?_, ?_⟩
      · rw [Nat.div_eq_sub_div hk (by omega)]; exact h1
      · rw [Nat.mod_eq_sub_mod (by omega)]; exact h2
theorem slice_given {H : Type} {enc : TypeId × Value → H} {P : Program} {w : World} {base b0 : Nat} {r : Reach} {held : Bool} {α : Type} (f : α → List Value) (mk : (Nat → Int) → α) (k : Nat) {t e : TypeId} {fuel : Nat} {v : Value} {x : DataW H × List MemPlace}
    (ht : P.underlying t = some (.slice e)) (hI : IntT P e) (hc : P.cellsOf e = k) (hk : 0 < k) (hmk : ∀ N : Nat → Int, f (mk N) = (List.range k).map fun j => Value.int .i64 (N j))
    (hok : Cell.okWide P w r b0 t v) (h : DataW.trod enc P w base (fun _ => true) held fuel t [v] = some x) : ∃ (l : List α) (y : Imp), Given w v f l y := by
  rcases open_slice ht h with ⟨h0, _⟩ | ⟨a, len, cap, m, n, D, Pl, hcs, hb, hl, hm, hmm, hx, hi⟩
  · cases h0
    exact ⟨[], ⟨0, 0, []⟩, fun i u e => by simp at e, rfl, .inl ⟨rfl, rfl⟩⟩
  · cases hcs
    obtain ⟨blk, off, spot⟩ := a
    have hs : spot = none := by
      unfold Cell.okWide at hok
      rw [ht] at hok
      unfold Cell.ok at hok
      simp only [ht] at hok
      exact hok.2.2.2.1
    subst hs
    simp only [if_true] at hmm
    subst hmm
    have hcell : ∀ i, i < len → ∀ j, j < k → ∃ n, w.cell? ⟨blk, off + (i * k + j), none⟩ = some (.int .i64 n) := by
      intro i hil j hj
      obtain ⟨cs', h1, h2⟩ := hi i (by omega)
      obtain ⟨h3, h4⟩ := hI _ _ _ _ _ _ _ _ _ h2
      obtain ⟨_, h5, h6⟩ := World.cells?_some h1
      obtain ⟨n, hn⟩ := h4 j (by omega)
      refine ⟨n, ?_⟩
      have h7 := h6 j (by omega)
      rw [hn, hc, add_add] at h7
      have e : (⟨blk, off, none⟩ : Addr).add (i * k + j) = ⟨blk, off + (i * k + j), none⟩ := by
        unfold Addr.add
        by_cases q : i * k + j = 0
        · simp [q]
        · simp
      rw [e] at h7
      exact h7
    refine ⟨(List.range len).map fun i => mk fun j => match w.cell? ⟨blk, off + (i * k + j), none⟩ with | some (.int _ n) => n | _ => 0, ⟨blk, off, _⟩, ?_, rfl, .inr ⟨m, by simp, by simpa using hl⟩⟩
    intro i u hu
    obtain ⟨y, h1, h2⟩ := flat_get hk (fun y hy => by
      obtain ⟨i, _, rfl⟩ := List.mem_map.1 hy
      rw [hmk]; simp) i u hu
    have hlt : i / k < len := by
      have := get_lt h1
      simpa using this
    rw [List.getElem?_map, List.getElem?_range hlt] at h1
    simp only [Option.map_some, Option.some.injEq] at h1
    subst h1
    have hj : i % k < k := Nat.mod_lt _ hk
    rw [hmk, List.getElem?_map, List.getElem?_range hj] at h2
    simp only [Option.map_some, Option.some.injEq] at h2
    obtain ⟨n, hn⟩ := hcell _ hlt _ hj
    rw [hn] at h2
    subst h2
    rw [Nat.div_add_mod' ] at hn
    exact ⟨hn, rfl⟩
end Go.Ax

/-! Slices of rows of plain cells, as arguments. -/
namespace Go.Ax
open Go Go.RowKit Go.Proofs Go.ChangeShapes Go.WideShapes Go.Deep

theorem IntT.row {α : Type} {P : Program} {t : TypeId} {k : Nat} {f : α → List Value} {mk : (Nat → Int) → α} (h : IntT P t) (hc : P.cellsOf t = k) (hmk : ∀ N : Nat → Int, f (mk N) = (List.range k).map fun j => Value.int .i64 (N j))
    {H : Type} {enc : TypeId × Value → H} {w : World} {base : Nat} {spare : Nat → Bool} {held : Bool} (fuel : Nat) (cs : List Value) (x : DataW H × List MemPlace) (hx : DataW.trod enc P w base spare held fuel t cs = some x) : ∃ y : α, cs = f y ∧ True := by
  obtain ⟨h1, h2⟩ := h _ _ _ _ _ _ _ _ _ hx
  have : ∃ N : Nat → Int, ∀ j, j < cs.length → cs[j]? = some (.int .i64 (N j)) := by
    refine ⟨fun j => match cs[j]? with | some (.int _ n) => n | _ => 0, fun j hj => ?_⟩
    obtain ⟨n, hn⟩ := h2 j hj
    simp [hn]
  obtain ⟨N, hN⟩ := this
  refine ⟨mk N, ?_, trivial⟩
  rw [hmk]
  apply List.ext_getElem?
  intro j
  by_cases hj : j < k
  · rw [hN j (by omega), List.getElem?_map, List.getElem?_range hj]; rfl
  · rw [List.getElem?_eq_none (by omega), List.getElem?_eq_none (by simp; omega)]
end Go.Ax


import Derived.Test.YtpdoogfafjjdkaaMc
import Derived.Test.YtpdoogfafjjdkaaChecked
import Derived.Test.YtpdoogfafjjdkaaAxO
import Derived.Deep.Slices
import Derived.Deep.Fields
import Derived.ChangeSame
set_option linter.all false
/-
  Late: the document's Drowned, Bears, Best (23, 25, 27); the law LateBests, whatever the input (written by program).
-/
namespace Go.Ax
open Go Go.RowKit Go.Proofs

section
variable {kn : FuncId → Option Bool} {lo : Nat} {H : Hp}
/-- the document's tells of a flood without fresh days -/
theorem tells45_at {g : Lt} (hw : Sl H g.wa g.wn g.wcap (spc g.ws)) (ha : Sl H g.aa g.an g.acap (spc g.as)) (v : g.Vd) {a b : Int} (s d : Nat) (ea : a = (s : Int)) (eb : b = (d : Int)) (hsd : s + d ≤ g.wn) (hlo : lo ≤ H.next) :
    ∃ (x y : Int) (H' : Hp), FnX Try.prog kn lo 45 [.agg g.v.toArray, iv a, iv b, .slice none 0 0] H (.tuple #[iv x, iv y]) H' ∧ Keep H H' [] ∧ (x = 2 ↔ g.kill ≤ g.wl s d) ∧ (y = 0 ↔ g.sl s (Nat.testBit 0) d ≤ g.bear) := by
  subst ea; subst eb
  obtain ⟨H', hf, hk⟩ := tells45_ok (kn := kn) (lo := lo) (H := H) (us := []) v hsd hw ha (la := none) (n := 0) (cap := 0) (.inl ⟨.inl rfl, rfl, rfl, rfl⟩) rfl (by decide) (fun i => by simp [dayMask]) hlo
  have h1 := Lt.wl_in v d hsd
  have h2 := Lt.sm_sl v (F := (Nat.testBit 0)) d hsd
  refine ⟨_, _, H', hf, hk, ?_, ?_⟩
  · show sureV (decide (g.wl s d ≥ g.kill)) (decide (g.wh s d ≥ g.kill)) = 2 ↔ _
    constructor
    · intro e; exact of_decide_eq_true (sure_two e)
    · intro e; rw [decide_eq_true (show g.wl s d ≥ g.kill from e)]; rfl
  · show sureV (decide (g.sm s (Nat.testBit 0) d > g.bear)) (decide (g.sl s (Nat.testBit 0) d > g.bear)) = 0 ↔ _
    constructor
    · intro e; have := of_decide_eq_false (sure_zero e); omega
    · intro e; rw [decide_eq_false (show ¬ g.sm s (Nat.testBit 0) d > g.bear by omega), decide_eq_false (show ¬ g.sl s (Nat.testBit 0) d > g.bear by omega)]; rfl
theorem drowned23_ok {g : Lt} {a : Int} (hw : Sl H g.wa g.wn g.wcap (spc g.ws)) (ha : Sl H g.aa g.an g.acap (spc g.as)) (hwl : g.ws.length = g.wn) (hal : g.as.length = g.an) (hwn : g.wn ≤ 1000) (han : g.an ≤ 1000) (hlo : lo ≤ H.next) :
    ∃ w H', FnX Try.prog kn lo 23 [.agg g.v.toArray, iv a] H w H' ∧ Keep H H' [] ∧ g.Dr a w := by
  refine fnX_low (kn := kn) (lo := lo) (H := H) (args := [.agg g.v.toArray, iv a]) (Q := fun w H' => Keep H H' [] ∧ g.Dr a w) Try.func23 B23 N23 Z23 L23 (by simp) ?_
  have hk := Keep.refl H []
  have fw := hw.old; have fa := ha.old
  intro H1 hH1; obtain ⟨kH1, nH1, c1⟩ := new_facts hH1; clear hH1
  have mH1 := kH1.1
  have hk := hk.trans kH1
  have hw := kH1.sl0 hw
  have ha := kH1.sl0 ha
  have c1 : Cl H1 H.next [.slice g.wa g.wn g.wcap, .slice g.aa g.an g.acap, iv g.r1, iv g.r2, iv g.f1, iv g.f2, iv g.g1, iv g.g2, iv g.full, iv g.base, iv g.kill, iv g.need, iv g.bear] := c1
  refine Exists.intro _ (Exists.intro _ (And.intro c1.of (And.intro (show row 13 _ _ = some [.slice g.wa g.wn g.wcap, .slice g.aa g.an g.acap, iv g.r1, iv g.r2, iv g.f1, iv g.f2, iv g.g1, iv g.g2, iv g.full, iv g.base, iv g.kill, iv g.need, iv g.bear] from rfl) ?_)))
  refine callB (late33_ok hw ha hwl hal hwn han) ?_
  intro tH2 H2 hH2 kH2
  have mH2 := kH2.1
  have hk := hk.trans kH2
  have hw := kH2.sl0 hw
  have ha := kH2.sl0 ha
  have c1 := kH2.cl c1 (by simp)
  cases tH2
  · have hok := hH2
    refine And.intro rfl (Exists.intro (.bool true) (And.intro rfl ?_))
    refine condT ?_
    exact And.intro trivial (Exists.intro _ (And.intro rfl ⟨hk, Or.inl ⟨hok, rfl⟩⟩))
  · have hok := hH2; have v := Lt.vd hok hwl hal; have hn40 := v.n40
    refine And.intro rfl (Exists.intro (.bool false) (And.intro rfl ?_))
    refine condF ?_
    refine Exists.intro _ (Exists.intro _ (And.intro c1.of (And.intro (show _ = some (.slice g.wa g.wn g.wcap) from rfl) ?_)))
    refine callB (in49_ok) ?_
    intro tH3 H3 hH3 kH3
    have mH3 := kH3.1
    have hk := hk.trans kH3
    have hw := kH3.sl0 hw
    have ha := kH3.sl0 ha
    have c1 := kH3.cl c1 (by simp)
    cases tH3
    · have hin := hH3
      refine And.intro rfl (Exists.intro (.bool true) (And.intro rfl ?_))
      refine condT ?_
      exact And.intro trivial (Exists.intro _ (And.intro rfl ⟨hk, Or.inr (Or.inl ⟨hok, hin, rfl⟩)⟩))
    · have hin := hH3
      obtain ⟨s, d, rfl, hsd⟩ : ∃ s d : Nat, a = s ∧ s + d = g.wn := by
        simp only [inB, Bool.and_eq_true, decide_eq_true_eq] at hin; exact ⟨a.toNat, g.wn - a.toNat, by omega, by omega⟩
      refine And.intro rfl (Exists.intro (.bool false) (And.intro rfl ?_))
      refine condF ?_
      refine loop_low (fn := Try.f23) E23_1 N23 L23x1 (fun i : Nat => [(1, iv (s : Int)), (2, pt H.next), (6, iv (i : Int))])
        (fun k i H' => i + k = d + 1 ∧ Keep H3 H' [] ∧ ∀ j, j < i → g.wl s j < g.kill) (d + 1) 0 ⟨by omega, Keep.refl _ _, fun j hj => by omega⟩ ⟨rfl, rfl, rfl, trivial⟩ ?_
      rintro k i L1 ⟨hik, hki, hall⟩
      have hm := hki.1
      have hk := hk.trans hki
      have hw := hki.sl0 hw
      have ha := hki.sl0 ha
      have c1 := hki.cl c1 (by simp)
      have kb := hki
      refine Exists.intro _ (Exists.intro _ (And.intro c1.of (And.intro (show _ = some (.slice g.wa g.wn g.wcap) from rfl) ?_)))
      refine And.intro (show InR ((g.wn : Int) - (s : Int)) from ⟨by omega, by omega⟩) ?_
      refine And.intro (fun q1 => ?_) (fun q1 => ?_)
      · have q1 : (i : Int) ≤ ((g.wn : Int) - (s : Int)) := of_decide_eq_true q1
        have hid : i ≤ d := by omega
        refine Exists.intro _ (Exists.intro _ (And.intro c1.of (And.intro (show row 13 _ _ = some [.slice g.wa g.wn g.wcap, .slice g.aa g.an g.acap, iv g.r1, iv g.r2, iv g.f1, iv g.f2, iv g.g1, iv g.g2, iv g.full, iv g.base, iv g.kill, iv g.need, iv g.bear] from rfl) ?_)))
        obtain ⟨xH4, yH4, H4, fH4, kH4, ixH4, iyH4⟩ := tells45_at (kn := kn) (lo := lo) (H := L1) (a := (s : Int)) (b := (i : Int)) hw ha v s i (by omega) (by omega) (by omega) (by omega)
        have mH4 := kH4.1
        have hk := hk.trans kH4
        have hw := kH4.sl0 hw
        have ha := kH4.sl0 ha
        have c1 := kH4.cl c1 (by simp)
        have kb := kb.trans kH4
        refine Exists.intro _ (Exists.intro _ (And.intro (callX_args fH4) ?_))
        refine And.intro rfl (Exists.intro (iv xH4) (And.intro (by kernel_rfl) ?_))
        refine And.intro rfl (Exists.intro (iv yH4) (And.intro (by kernel_rfl) ?_))
        refine And.intro (fun q2 => ?_) (fun q2 => ?_)
        · have q2 : xH4 = 2 := by simpa using q2
          exact And.intro trivial (Exists.intro _ (And.intro rfl ⟨hk, Or.inr (Or.inr ⟨hok, s, d, rfl, hsd, Or.inl ⟨i, hid, by omega, hall, rfl⟩⟩)⟩))
        · have q2 : ¬ (xH4 = 2) := by simpa using q2
          refine And.intro (show InR ((i : Int) + 1) from ⟨by omega, by omega⟩) ?_
          exact ⟨k - 1, i + 1, by omega, ⟨by omega, kb, fun j hj => by rcases Nat.lt_or_ge j i with q | q; exact hall j q; have : j = i := (by omega); subst this; omega⟩, rfl, rfl, rfl, trivial⟩
      · have q1 : ¬ ((i : Int) ≤ ((g.wn : Int) - (s : Int))) := of_decide_eq_false q1
        exact And.intro trivial (Exists.intro _ (And.intro rfl ⟨hk, Or.inr (Or.inr ⟨hok, s, d, rfl, hsd, Or.inr ⟨fun j hj => hall j (by omega), rfl⟩⟩)⟩))
theorem bears25_ok {g : Lt} {a : Int} (hw : Sl H g.wa g.wn g.wcap (spc g.ws)) (ha : Sl H g.aa g.an g.acap (spc g.as)) (hwl : g.ws.length = g.wn) (hal : g.as.length = g.an) (hwn : g.wn ≤ 1000) (han : g.an ≤ 1000) (hlo : lo ≤ H.next) :
    ∃ w H', FnX Try.prog kn lo 25 [.agg g.v.toArray, iv a] H w H' ∧ Keep H H' [] ∧ g.Br a w := by
  refine fnX_low (kn := kn) (lo := lo) (H := H) (args := [.agg g.v.toArray, iv a]) (Q := fun w H' => Keep H H' [] ∧ g.Br a w) Try.func25 B25 N25 Z25 L25 (by simp) ?_
  have hk := Keep.refl H []
  have fw := hw.old; have fa := ha.old
  intro H1 hH1; obtain ⟨kH1, nH1, c1⟩ := new_facts hH1; clear hH1
  have mH1 := kH1.1
  have hk := hk.trans kH1
  have hw := kH1.sl0 hw
  have ha := kH1.sl0 ha
  have c1 : Cl H1 H.next [.slice g.wa g.wn g.wcap, .slice g.aa g.an g.acap, iv g.r1, iv g.r2, iv g.f1, iv g.f2, iv g.g1, iv g.g2, iv g.full, iv g.base, iv g.kill, iv g.need, iv g.bear] := c1
  refine Exists.intro _ (Exists.intro _ (And.intro c1.of (And.intro (show row 13 _ _ = some [.slice g.wa g.wn g.wcap, .slice g.aa g.an g.acap, iv g.r1, iv g.r2, iv g.f1, iv g.f2, iv g.g1, iv g.g2, iv g.full, iv g.base, iv g.kill, iv g.need, iv g.bear] from rfl) ?_)))
  refine callB (late33_ok hw ha hwl hal hwn han) ?_
  intro tH2 H2 hH2 kH2
  have mH2 := kH2.1
  have hk := hk.trans kH2
  have hw := kH2.sl0 hw
  have ha := kH2.sl0 ha
  have c1 := kH2.cl c1 (by simp)
  cases tH2
  · have hok := hH2
    refine And.intro rfl (Exists.intro (.bool true) (And.intro rfl ?_))
    refine condT ?_
    exact And.intro trivial (Exists.intro _ (And.intro rfl ⟨hk, Or.inl ⟨hok, rfl⟩⟩))
  · have hok := hH2; have v := Lt.vd hok hwl hal; have hn40 := v.n40
    refine And.intro rfl (Exists.intro (.bool false) (And.intro rfl ?_))
    refine condF ?_
    refine Exists.intro _ (Exists.intro _ (And.intro c1.of (And.intro (show _ = some (.slice g.wa g.wn g.wcap) from rfl) ?_)))
    refine callB (in49_ok) ?_
    intro tH3 H3 hH3 kH3
    have mH3 := kH3.1
    have hk := hk.trans kH3
    have hw := kH3.sl0 hw
    have ha := kH3.sl0 ha
    have c1 := kH3.cl c1 (by simp)
    cases tH3
    · have hin := hH3
      refine And.intro rfl (Exists.intro (.bool true) (And.intro rfl ?_))
      refine condT ?_
      exact And.intro trivial (Exists.intro _ (And.intro rfl ⟨hk, Or.inr (Or.inl ⟨hok, hin, rfl⟩)⟩))
    · have hin := hH3
      obtain ⟨s, d, rfl, hsd⟩ : ∃ s d : Nat, a = s ∧ s + d = g.wn := by
        simp only [inB, Bool.and_eq_true, decide_eq_true_eq] at hin; exact ⟨a.toNat, g.wn - a.toNat, by omega, by omega⟩
      refine And.intro rfl (Exists.intro (.bool false) (And.intro rfl ?_))
      refine condF ?_
      refine loop_low (fn := Try.f25) E25_1 N25 L25x1 (fun x : Nat × Nat => [(1, iv (s : Int)), (2, pt H.next), (6, iv (x.2 : Int)), (7, iv (x.1 : Int))])
        (fun k x H' => x.1 + k = d + 1 ∧ Keep H3 H' [] ∧ (x.2 < x.1 ∨ x.2 = 0) ∧ g.sl s (Nat.testBit 0) x.2 ≤ g.bear ∧ ∀ j, x.2 < j → j < x.1 → g.bear < g.sl s (Nat.testBit 0) j) (d + 1) (0, 0) ⟨by show 0 + (d + 1) = d + 1; omega, Keep.refl _ _, Or.inr rfl, by show g.sl s (Nat.testBit 0) 0 ≤ g.bear; have := v.be; rw [Lt.sl]; omega, fun j h1 h2 => by have h2 : j < 0 := h2; omega⟩ ⟨rfl, rfl, rfl, rfl, trivial⟩ ?_
      rintro k ⟨i, m⟩ L1 ⟨hik, hki, hm1, hm2, hm3⟩
      have hm := hki.1
      have hk := hk.trans hki
      have hw := hki.sl0 hw
      have ha := hki.sl0 ha
      have c1 := hki.cl c1 (by simp)
      have kb := hki
      simp only at hik hm1 hm2 hm3
      refine Exists.intro _ (Exists.intro _ (And.intro c1.of (And.intro (show _ = some (.slice g.wa g.wn g.wcap) from rfl) ?_)))
      refine And.intro (show InR ((g.wn : Int) - (s : Int)) from ⟨by omega, by omega⟩) ?_
      refine And.intro (fun q1 => ?_) (fun q1 => ?_)
      · have q1 : (i : Int) ≤ ((g.wn : Int) - (s : Int)) := of_decide_eq_true q1
        have hid : i ≤ d := by omega
        refine Exists.intro _ (Exists.intro _ (And.intro c1.of (And.intro (show row 13 _ _ = some [.slice g.wa g.wn g.wcap, .slice g.aa g.an g.acap, iv g.r1, iv g.r2, iv g.f1, iv g.f2, iv g.g1, iv g.g2, iv g.full, iv g.base, iv g.kill, iv g.need, iv g.bear] from rfl) ?_)))
        obtain ⟨xH4, yH4, H4, fH4, kH4, ixH4, iyH4⟩ := tells45_at (kn := kn) (lo := lo) (H := L1) (a := (s : Int)) (b := (i : Int)) hw ha v s i (by omega) (by omega) (by omega) (by omega)
        have mH4 := kH4.1
        have hk := hk.trans kH4
        have hw := kH4.sl0 hw
        have ha := kH4.sl0 ha
        have c1 := kH4.cl c1 (by simp)
        have kb := kb.trans kH4
        refine Exists.intro _ (Exists.intro _ (And.intro (callX_args fH4) ?_))
        refine And.intro rfl (Exists.intro (iv xH4) (And.intro (by kernel_rfl) ?_))
        refine And.intro rfl (Exists.intro (iv yH4) (And.intro (by kernel_rfl) ?_))
        refine And.intro (fun q2 => ?_) (fun q2 => ?_)
        · have q2 : yH4 = 0 := by simpa using q2
          refine And.intro (show InR ((i : Int) + 1) from ⟨by omega, by omega⟩) ?_
          exact ⟨k - 1, (i + 1, i), by omega, ⟨by show i + 1 + (k - 1) = d + 1; omega, kb, Or.inl (Nat.lt_succ_self i), by show g.sl s (Nat.testBit 0) i ≤ g.bear; omega, fun j h1 h2 => by have h1 : i < j := h1; have h2 : j < i + 1 := h2; omega⟩, rfl, rfl, rfl, rfl, trivial⟩
        · have q2 : ¬ (yH4 = 0) := by simpa using q2
          refine And.intro (show InR ((i : Int) + 1) from ⟨by omega, by omega⟩) ?_
          exact ⟨k - 1, (i + 1, m), by omega, ⟨by show i + 1 + (k - 1) = d + 1; omega, kb, by show m < i + 1 ∨ m = 0; omega, hm2, fun j h1 h2 => by have h2 : j < i + 1 := h2; rcases Nat.lt_or_ge j i with q | q; exact hm3 j h1 q; have : j = i := (by omega); subst this; omega⟩, rfl, rfl, rfl, rfl, trivial⟩
      · have q1 : ¬ ((i : Int) ≤ ((g.wn : Int) - (s : Int))) := of_decide_eq_false q1
        have hid : i = d + 1 := by omega
        subst hid
        exact And.intro trivial (Exists.intro _ (And.intro rfl ⟨hk, Or.inr (Or.inr ⟨hok, s, d, m, rfl, hsd, by omega, fun j hj => by have := Lt.sl_le (g := g) (s := s) (F := (Nat.testBit 0)) hj; omega, by rcases Nat.lt_or_ge m d with q | q; exact Or.inr (hm3 (m + 1) (by omega) (by omega)); exact Or.inl (by omega), rfl⟩)⟩))
theorem best27_ok {g : Lt} (hw : Sl H g.wa g.wn g.wcap (spc g.ws)) (ha : Sl H g.aa g.an g.acap (spc g.as)) (hwl : g.ws.length = g.wn) (hal : g.as.length = g.an) (hwn : g.wn ≤ 1000) (han : g.an ≤ 1000) (hlo : lo ≤ H.next) :
    ∃ w H', FnX Try.prog kn lo 27 [.agg g.v.toArray] H w H' ∧ Keep H H' [] ∧ g.Bs w := by
  refine fnX_low (kn := kn) (lo := lo) (H := H) (args := [.agg g.v.toArray]) (Q := fun w H' => Keep H H' [] ∧ g.Bs w) Try.func27 B27 N27 Z27 L27 (by simp) ?_
  have hk := Keep.refl H []
  have fw := hw.old; have fa := ha.old
  intro H1 hH1; obtain ⟨kH1, nH1, c1⟩ := new_facts hH1; clear hH1
  have mH1 := kH1.1
  have hk := hk.trans kH1
  have hw := kH1.sl0 hw
  have ha := kH1.sl0 ha
  have c1 : Cl H1 H.next [.slice g.wa g.wn g.wcap, .slice g.aa g.an g.acap, iv g.r1, iv g.r2, iv g.f1, iv g.f2, iv g.g1, iv g.g2, iv g.full, iv g.base, iv g.kill, iv g.need, iv g.bear] := c1
  refine Exists.intro _ (Exists.intro _ (And.intro c1.of (And.intro (show row 13 _ _ = some [.slice g.wa g.wn g.wcap, .slice g.aa g.an g.acap, iv g.r1, iv g.r2, iv g.f1, iv g.f2, iv g.g1, iv g.g2, iv g.full, iv g.base, iv g.kill, iv g.need, iv g.bear] from rfl) ?_)))
  refine callB (late33_ok hw ha hwl hal hwn han) ?_
  intro tH2 H2 hH2 kH2
  have mH2 := kH2.1
  have hk := hk.trans kH2
  have hw := kH2.sl0 hw
  have ha := kH2.sl0 ha
  have c1 := kH2.cl c1 (by simp)
  cases tH2
  · have hok := hH2
    refine And.intro rfl (Exists.intro (.bool true) (And.intro rfl ?_))
    refine condT ?_
    exact And.intro trivial (Exists.intro _ (And.intro rfl ⟨hk, Or.inl ⟨hok, rfl⟩⟩))
  · have hok := hH2; have v := Lt.vd hok hwl hal; have hn40 := v.n40
    refine And.intro rfl (Exists.intro (.bool false) (And.intro rfl ?_))
    refine condF ?_
    refine loop_low (fn := Try.f27) E27_1 N27 L27x1 (fun n : Nat => [(1, pt H.next), (5, iv (n : Int))])
      (fun k n H' => n + k = g.wn + 1 ∧ Keep H2 H' [] ∧ ∀ s d, d < n → s + d ≤ g.wn → ¬ g.fine s d) (g.wn + 1) 0 ⟨by omega, Keep.refl _ _, fun s d h => by omega⟩ ⟨rfl, rfl, trivial⟩ ?_
    rintro k n L1 ⟨hik, hki, hout⟩
    have hm := hki.1
    have hk := hk.trans hki
    have hw := hki.sl0 hw
    have ha := hki.sl0 ha
    have c1 := hki.cl c1 (by simp)
    have kb := hki
    refine Exists.intro _ (Exists.intro _ (And.intro c1.of (And.intro (show _ = some (.slice g.wa g.wn g.wcap) from rfl) ?_)))
    refine And.intro (fun q1 => ?_) (fun q1 => ?_)
    · have q1 : (n : Int) ≤ (g.wn : Int) := of_decide_eq_true q1
      have hnw : n ≤ g.wn := by omega
      refine loop_low (fn := Try.f27) E27_2 N27 L27x2 (fun s : Nat => [(1, pt H.next), (5, iv (n : Int)), (6, iv (s : Int))])
        (fun q s H' => s + n + q = g.wn + 1 ∧ Keep L1 H' [] ∧ ∀ s2, s2 < s → s2 + n ≤ g.wn → ¬ g.fine s2 n) (g.wn + 1 - n) 0 ⟨by omega, Keep.refl _ _, fun s2 h => by omega⟩ ⟨rfl, rfl, rfl, trivial⟩ ?_
      rintro q s L2 ⟨hsq, hki2, hin2⟩
      have hm2 := hki2.1
      have hk := hk.trans hki2
      have hw := hki2.sl0 hw
      have ha := hki2.sl0 ha
      have c1 := hki2.cl c1 (by simp)
      have kb := kb.trans hki2
      have kc := hki2
      refine And.intro (show InR ((s : Int) + (n : Int)) from ⟨by omega, by omega⟩) ?_
      refine Exists.intro _ (Exists.intro _ (And.intro c1.of (And.intro (show _ = some (.slice g.wa g.wn g.wcap) from rfl) ?_)))
      refine And.intro (fun q2 => ?_) (fun q2 => ?_)
      · have q2 : ((s : Int) + (n : Int)) ≤ (g.wn : Int) := of_decide_eq_true q2
        have hsn : s + n ≤ g.wn := by omega
        refine Exists.intro _ (Exists.intro _ (And.intro c1.of (And.intro (show row 13 _ _ = some [.slice g.wa g.wn g.wcap, .slice g.aa g.an g.acap, iv g.r1, iv g.r2, iv g.f1, iv g.f2, iv g.g1, iv g.g2, iv g.full, iv g.base, iv g.kill, iv g.need, iv g.bear] from rfl) ?_)))
        obtain ⟨xH3, yH3, H3, fH3, kH3, ixH3, iyH3⟩ := tells45_at (kn := kn) (lo := lo) (H := L2) (a := (s : Int)) (b := (n : Int)) hw ha v s n (by omega) (by omega) (by omega) (by omega)
        have mH3 := kH3.1
        have hk := hk.trans kH3
        have hw := kH3.sl0 hw
        have ha := kH3.sl0 ha
        have c1 := kH3.cl c1 (by simp)
        have kb := kb.trans kH3
        have kc := kc.trans kH3
        refine Exists.intro _ (Exists.intro _ (And.intro (callX_args fH3) ?_))
        refine And.intro rfl (Exists.intro (iv xH3) (And.intro (by kernel_rfl) ?_))
        refine And.intro rfl (Exists.intro (iv yH3) (And.intro (by kernel_rfl) ?_))
        intro t3 g3; cases t3
        · have g3 : ¬ (xH3 = 2) := by simpa using g3
          refine And.intro rfl (Exists.intro (.bool false) (And.intro rfl ?_))
          refine condF ?_
          refine And.intro (show InR ((s : Int) + 1) from ⟨by omega, by omega⟩) ?_
          exact ⟨q - 1, s + 1, by omega, ⟨by omega, kc, fun s2 h1 h2 h3 => by rcases Nat.lt_or_ge s2 s with q | q; exact hin2 s2 q h2 h3; have : s2 = s := (by omega); subst this; have h4 := h3.1; have h5 := h3.2; omega⟩, rfl, rfl, rfl, trivial⟩
        · have g3 : xH3 = 2 := by simpa using g3
          intro t4 g4; cases t4
          · have g4 : ¬ (yH3 = 0) := by simpa using g4
            refine And.intro rfl (Exists.intro (.bool false) (And.intro rfl ?_))
            refine condF ?_
            refine And.intro (show InR ((s : Int) + 1) from ⟨by omega, by omega⟩) ?_
            exact ⟨q - 1, s + 1, by omega, ⟨by omega, kc, fun s2 h1 h2 h3 => by rcases Nat.lt_or_ge s2 s with q | q; exact hin2 s2 q h2 h3; have : s2 = s := (by omega); subst this; have h4 := h3.1; have h5 := h3.2; omega⟩, rfl, rfl, rfl, trivial⟩
          · have g4 : yH3 = 0 := by simpa using g4
            refine And.intro rfl (Exists.intro (.bool true) (And.intro rfl ?_))
            refine condT ?_
            exact And.intro trivial (Exists.intro _ (And.intro rfl ⟨hk, Or.inr (Or.inr ⟨hok, s, n, hsn, ⟨by omega, by omega⟩, fun s2 d2 h1 h2 => by rcases Nat.lt_or_ge d2 n with q | q; exact absurd h2 (hout s2 d2 q h1); rcases Nat.lt_or_ge n d2 with r | r; exact Or.inl r; have : d2 = n := (by omega); subst this; rcases Nat.lt_or_ge s2 s with t | t; exact absurd h2 (hin2 s2 t h1); exact Or.inr ⟨rfl, t⟩, rfl⟩)⟩))
      · have q2 : ¬ (((s : Int) + (n : Int)) ≤ (g.wn : Int)) := of_decide_eq_false q2
        have hsn : s + n = g.wn + 1 := by omega
        refine And.intro (show InR ((n : Int) + 1) from ⟨by omega, by omega⟩) ?_
        exact ⟨k - 1, n + 1, by omega, ⟨by omega, kb, fun s d h1 h2 h3 => by rcases Nat.lt_or_ge d n with q | q; exact hout s d q h2 h3; have : d = n := (by omega); subst this; exact hin2 s (by omega) h2 h3⟩, rfl, rfl, trivial⟩
    · have q1 : ¬ ((n : Int) ≤ (g.wn : Int)) := of_decide_eq_false q1
      exact And.intro trivial (Exists.intro _ (And.intro rfl ⟨hk, Or.inr (Or.inl ⟨hok, fun s d h => hout s d (by omega) h, rfl⟩)⟩))
end
theorem Lt.Dr.uniq {g : Lt} {a : Int} {w w' : Value} (h : g.Dr a w) (h' : g.Dr a w') : w = w' := by
  have hin : ∀ s d : Nat, a = s → s + d = g.wn → inB a 0 g.wn = false → False := fun s d e h1 h2 => by
    subst e; simp only [inB, Bool.and_eq_false_iff, decide_eq_false_iff_not] at h2; omega
  rcases h with ⟨o, rfl⟩ | ⟨o, f, rfl⟩ | ⟨o, s, d, e1, e2, h⟩ <;> rcases h' with ⟨o', rfl⟩ | ⟨o', f', rfl⟩ | ⟨o', s', d', e1', e2', h'⟩
  · rfl
  · rw [o] at o'; cases o'
  · rw [o] at o'; cases o'
  · rw [o] at o'; cases o'
  · rfl
  · exact (hin _ _ e1' e2' f).elim
  · rw [o] at o'; cases o'
  · exact (hin _ _ e1 e2 f').elim
  · obtain rfl : s = s' := by omega
    obtain rfl : d = d' := by omega
    rcases h with ⟨k, h1, h2, h3, rfl⟩ | ⟨h1, rfl⟩ <;> rcases h' with ⟨k', h1', h2', h3', rfl⟩ | ⟨h1', rfl⟩
    · have : k = k' := by
        rcases Nat.lt_trichotomy k k' with q | q | q
        · have := h3' k q; omega
        · exact q
        · have := h3 k' q; omega
      subst this; rfl
    · have := h1' k h1; omega
    · have := h1 k' h1'; omega
    · rfl
theorem Lt.Br.uniq {g : Lt} {a : Int} {w w' : Value} (h : g.Br a w) (h' : g.Br a w') : w = w' := by
  have hin : ∀ s d : Nat, a = s → s + d = g.wn → inB a 0 g.wn = false → False := fun s d e h1 h2 => by
    subst e; simp only [inB, Bool.and_eq_false_iff, decide_eq_false_iff_not] at h2; omega
  rcases h with ⟨o, rfl⟩ | ⟨o, f, rfl⟩ | ⟨o, s, d, m, e1, e2, h1, h2, h3, rfl⟩ <;> rcases h' with ⟨o', rfl⟩ | ⟨o', f', rfl⟩ | ⟨o', s', d', m', e1', e2', h1', h2', h3', rfl⟩
  · rfl
  · rw [o] at o'; cases o'
  · rw [o] at o'; cases o'
  · rw [o] at o'; cases o'
  · rfl
  · exact (hin _ _ e1' e2' f).elim
  · rw [o] at o'; cases o'
  · exact (hin _ _ e1 e2 f').elim
  · obtain rfl : s = s' := by omega
    obtain rfl : d = d' := by omega
    have : m = m' := by
      rcases Nat.lt_trichotomy m m' with q | q | q
      · have := h2' (m + 1) q; omega
      · exact q
      · have := h2 (m' + 1) q; omega
    subst this; rfl
theorem Lt.Bs.uniq {g : Lt} {w w' : Value} (h : g.Bs w) (h' : g.Bs w') : w = w' := by
  rcases h with ⟨o, rfl⟩ | ⟨o, f, rfl⟩ | ⟨o, a, b, h1, h2, h3, rfl⟩ <;> rcases h' with ⟨o', rfl⟩ | ⟨o', f', rfl⟩ | ⟨o', a', b', h1', h2', h3', rfl⟩
  · rfl
  · rw [o] at o'; cases o'
  · rw [o] at o'; cases o'
  · rw [o] at o'; cases o'
  · rfl
  · exact absurd h2' (f a' b' h1')
  · rw [o] at o'; cases o'
  · exact absurd h2 (f' a b h1)
  · have q1 := h3 a' b' h1' h2'
    have q2 := h3' a b h1 h2
    obtain rfl : a = a' := by omega
    obtain rfl : b = b' := by omega
    rfl
theorem Lt.Dr.any {g : Lt} {a : Int} {w : Value} (h : g.Dr a w) : ∃ x e : Int, w = .tuple #[iv x, iv e] := by
  rcases h with ⟨_, h⟩ | ⟨_, _, h⟩ | ⟨_, _, _, _, _, ⟨_, _, _, _, h⟩ | ⟨_, h⟩⟩ <;> exact ⟨_, _, h⟩
theorem Lt.Br.any {g : Lt} {a : Int} {w : Value} (h : g.Br a w) : ∃ x e : Int, w = .tuple #[iv x, iv e] := by
  rcases h with ⟨_, h⟩ | ⟨_, _, h⟩ | ⟨_, _, _, _, _, _, _, _, _, h⟩ <;> exact ⟨_, _, h⟩
theorem Lt.Bs.any {g : Lt} {w : Value} (h : g.Bs w) : ∃ x y e : Int, w = .tuple #[iv x, iv y, iv e] := by
  rcases h with ⟨_, h⟩ | ⟨_, _, h⟩ | ⟨_, _, _, _, _, _, h⟩ <;> exact ⟨_, _, _, h⟩
section
variable {kn : FuncId → Option Bool} {lo : Nat} {H : Hp}
set_option maxRecDepth 100000 in
set_option maxHeartbeats 4000000 in
theorem law_bests (hkn : kn 14 = some true) (h48 : kn 48 = none) {g : Lt} (hw : Sl H g.wa g.wn g.wcap (spc g.ws)) (ha : Sl H g.aa g.an g.acap (spc g.as)) (hwl : g.ws.length = g.wn) (hal : g.as.length = g.an) {a : Int} (hlo : lo ≤ H.next) :
    ∃ H', FnX Try.prog kn lo 4 [.agg g.v.toArray, iv a] H (.bool true) H' := by
  have key := fnX_low (kn := kn) (lo := lo) (H := H) (args := [.agg g.v.toArray, iv a]) (Q := fun w H' => w = .bool true) Try.func4 B4 N4 Z4 L4 (by simp) ?_
  · obtain ⟨w, H', hf, rfl⟩ := key; exact ⟨H', hf⟩
  have al : ∀ (H9 : Hp) (K : Value → Hp → Prop), K (.bool true) H9 → ∃ v H', CallsX Try.prog kn lo (.fn (.func 14) #[]) [] H9 v H' ∧ K v H' := fun H9 K h => ⟨_, _, callX_known hkn, h⟩
  have hk := Keep.refl H []
  have fw := hw.old; have fa := ha.old
  intro H1 hH1; obtain ⟨kH1, nH1, c1⟩ := new_facts hH1; clear hH1
  have mH1 := kH1.1
  have hk := hk.trans kH1
  have hw := kH1.sl0 hw
  have ha := kH1.sl0 ha
  have c1 : Cl H1 H.next [.slice g.wa g.wn g.wcap, .slice g.aa g.an g.acap, iv g.r1, iv g.r2, iv g.f1, iv g.f2, iv g.g1, iv g.g2, iv g.full, iv g.base, iv g.kill, iv g.need, iv g.bear] := c1
  refine Exists.intro _ (Exists.intro _ (And.intro c1.of (And.intro (show row 13 _ _ = some [.slice g.wa g.wn g.wcap, .slice g.aa g.an g.acap, iv g.r1, iv g.r2, iv g.f1, iv g.f2, iv g.g1, iv g.g2, iv g.full, iv g.base, iv g.kill, iv g.need, iv g.bear] from rfl) ?_)))
  refine callB ((great_ok (la := none) (n := 0) (cap := 0))) ?_
  intro tH2 H2 hH2 kH2
  have mH2 := kH2.1
  have hk := hk.trans kH2
  have hw := kH2.sl0 hw
  have ha := kH2.sl0 ha
  have c1 := kH2.cl c1 (by simp)
  cases tH2
  · have hgr : g.wn ≤ 45 ∧ g.an ≤ 45 := by simp at hH2; omega
    refine Exists.intro _ (Exists.intro _ (And.intro c1.of (And.intro (show _ = some (.slice g.wa g.wn g.wcap) from rfl) ?_)))
    intro t1 g1; cases t1
    · have g1 : ¬ ((g.wn : Int) > 20) := of_decide_eq_false g1
      refine And.intro rfl (Exists.intro (.bool false) (And.intro rfl ?_))
      refine And.intro rfl (Exists.intro (.bool false) (And.intro rfl ?_))
      refine condF ?_
      refine Exists.intro _ (Exists.intro _ (And.intro c1.of (And.intro (show row 13 _ _ = some [.slice g.wa g.wn g.wcap, .slice g.aa g.an g.acap, iv g.r1, iv g.r2, iv g.f1, iv g.f2, iv g.g1, iv g.g2, iv g.full, iv g.base, iv g.kill, iv g.need, iv g.bear] from rfl) ?_)))
      obtain ⟨wH3, H3, fH3, kH3, cdr⟩ := drowned22_ok (kn := kn) (lo := lo) (H := H2) (g := g) (a := a) h48 hw ha hwl hal (by omega) (by omega) (by omega)
      have mH3 := kH3.1
      have hk := hk.trans kH3
      have hw := kH3.sl0 hw
      have ha := kH3.sl0 ha
      have c1 := kH3.cl c1 (by simp)
      obtain ⟨u1, e1, rfl⟩ := cdr.any
      refine Exists.intro _ (Exists.intro _ (And.intro (callX_args fH3) ?_))
      refine And.intro rfl (Exists.intro (iv u1) (And.intro (by kernel_rfl) ?_))
      refine And.intro rfl (Exists.intro (iv e1) (And.intro (by kernel_rfl) ?_))
      refine Exists.intro _ (Exists.intro _ (And.intro c1.of (And.intro (show row 13 _ _ = some [.slice g.wa g.wn g.wcap, .slice g.aa g.an g.acap, iv g.r1, iv g.r2, iv g.f1, iv g.f2, iv g.g1, iv g.g2, iv g.full, iv g.base, iv g.kill, iv g.need, iv g.bear] from rfl) ?_)))
      obtain ⟨wH4, H4, fH4, kH4, ddr⟩ := drowned23_ok (kn := kn) (lo := lo) (H := H3) (g := g) (a := a) hw ha hwl hal (by omega) (by omega) (by omega)
      have mH4 := kH4.1
      have hk := hk.trans kH4
      have hw := kH4.sl0 hw
      have ha := kH4.sl0 ha
      have c1 := kH4.cl c1 (by simp)
      obtain rfl := cdr.uniq ddr
      refine Exists.intro _ (Exists.intro _ (And.intro (callX_args fH4) ?_))
      refine And.intro rfl (Exists.intro (iv u1) (And.intro (by kernel_rfl) ?_))
      refine And.intro rfl (Exists.intro (iv e1) (And.intro (by kernel_rfl) ?_))
      refine Exists.intro _ (Exists.intro _ (And.intro c1.of (And.intro (show row 13 _ _ = some [.slice g.wa g.wn g.wcap, .slice g.aa g.an g.acap, iv g.r1, iv g.r2, iv g.f1, iv g.f2, iv g.g1, iv g.g2, iv g.full, iv g.base, iv g.kill, iv g.need, iv g.bear] from rfl) ?_)))
      obtain ⟨wH5, H5, fH5, kH5, cbr⟩ := bears_ok (kn := kn) (lo := lo) (H := H4) (g := g) (a := a) h48 hw ha hwl hal (by omega) (by omega) (by omega)
      have mH5 := kH5.1
      have hk := hk.trans kH5
      have hw := kH5.sl0 hw
      have ha := kH5.sl0 ha
      have c1 := kH5.cl c1 (by simp)
      obtain ⟨u2, e2, rfl⟩ := cbr.any
      refine Exists.intro _ (Exists.intro _ (And.intro (callX_args fH5) ?_))
      refine And.intro rfl (Exists.intro (iv u2) (And.intro (by kernel_rfl) ?_))
      refine And.intro rfl (Exists.intro (iv e2) (And.intro (by kernel_rfl) ?_))
      refine Exists.intro _ (Exists.intro _ (And.intro c1.of (And.intro (show row 13 _ _ = some [.slice g.wa g.wn g.wcap, .slice g.aa g.an g.acap, iv g.r1, iv g.r2, iv g.f1, iv g.f2, iv g.g1, iv g.g2, iv g.full, iv g.base, iv g.kill, iv g.need, iv g.bear] from rfl) ?_)))
      obtain ⟨wH6, H6, fH6, kH6, dbr⟩ := bears25_ok (kn := kn) (lo := lo) (H := H5) (g := g) (a := a) hw ha hwl hal (by omega) (by omega) (by omega)
      have mH6 := kH6.1
      have hk := hk.trans kH6
      have hw := kH6.sl0 hw
      have ha := kH6.sl0 ha
      have c1 := kH6.cl c1 (by simp)
      obtain rfl := cbr.uniq dbr
      refine Exists.intro _ (Exists.intro _ (And.intro (callX_args fH6) ?_))
      refine And.intro rfl (Exists.intro (iv u2) (And.intro (by kernel_rfl) ?_))
      refine And.intro rfl (Exists.intro (iv e2) (And.intro (by kernel_rfl) ?_))
      refine Exists.intro _ (Exists.intro _ (And.intro c1.of (And.intro (show row 13 _ _ = some [.slice g.wa g.wn g.wcap, .slice g.aa g.an g.acap, iv g.r1, iv g.r2, iv g.f1, iv g.f2, iv g.g1, iv g.g2, iv g.full, iv g.base, iv g.kill, iv g.need, iv g.bear] from rfl) ?_)))
      obtain ⟨wH7, H7, fH7, kH7, cbs⟩ := best_ok (kn := kn) (lo := lo) (H := H6) (g := g)  h48 hw ha hwl hal (by omega) (by omega) (by omega)
      have mH7 := kH7.1
      have hk := hk.trans kH7
      have hw := kH7.sl0 hw
      have ha := kH7.sl0 ha
      have c1 := kH7.cl c1 (by simp)
      obtain ⟨u3, u4, e3, rfl⟩ := cbs.any
      refine Exists.intro _ (Exists.intro _ (And.intro (callX_args fH7) ?_))
      refine And.intro rfl (Exists.intro (iv u3) (And.intro (by kernel_rfl) ?_))
      refine And.intro rfl (Exists.intro (iv u4) (And.intro (by kernel_rfl) ?_))
      refine And.intro rfl (Exists.intro (iv e3) (And.intro (by kernel_rfl) ?_))
      refine Exists.intro _ (Exists.intro _ (And.intro c1.of (And.intro (show row 13 _ _ = some [.slice g.wa g.wn g.wcap, .slice g.aa g.an g.acap, iv g.r1, iv g.r2, iv g.f1, iv g.f2, iv g.g1, iv g.g2, iv g.full, iv g.base, iv g.kill, iv g.need, iv g.bear] from rfl) ?_)))
      obtain ⟨wH8, H8, fH8, kH8, dbs⟩ := best27_ok (kn := kn) (lo := lo) (H := H7) (g := g)  hw ha hwl hal (by omega) (by omega) (by omega)
      have mH8 := kH8.1
      have hk := hk.trans kH8
      have hw := kH8.sl0 hw
      have ha := kH8.sl0 ha
      have c1 := kH8.cl c1 (by simp)
      obtain rfl := cbs.uniq dbs
      refine Exists.intro _ (Exists.intro _ (And.intro (callX_args fH8) ?_))
      refine And.intro rfl (Exists.intro (iv u3) (And.intro (by kernel_rfl) ?_))
      refine And.intro rfl (Exists.intro (iv u4) (And.intro (by kernel_rfl) ?_))
      refine And.intro rfl (Exists.intro (iv e3) (And.intro (by kernel_rfl) ?_))
      intro t2 g2; cases t2
      · have g2 : ¬ (u1 = u1) := by simpa using g2
        exact absurd rfl g2
      · have g2 : u1 = u1 := by simpa using g2
        intro t3 g3; cases t3
        · have g3 : ¬ (e1 = e1) := by simpa using g3
          exact absurd rfl g3
        · have g3 : e1 = e1 := by simpa using g3
          refine And.intro rfl (Exists.intro (.bool true) (And.intro rfl ?_))
          intro t4 g4; cases t4
          · have g4 : ¬ (u2 = u2) := by simpa using g4
            exact absurd rfl g4
          · have g4 : u2 = u2 := by simpa using g4
            refine And.intro rfl (Exists.intro (.bool true) (And.intro rfl ?_))
            intro t5 g5; cases t5
            · have g5 : ¬ (e2 = e2) := by simpa using g5
              exact absurd rfl g5
            · have g5 : e2 = e2 := by simpa using g5
              refine And.intro rfl (Exists.intro (.bool true) (And.intro rfl ?_))
              intro t6 g6; cases t6
              · have g6 : ¬ (u3 = u3) := by simpa using g6
                exact absurd rfl g6
              · have g6 : u3 = u3 := by simpa using g6
                refine And.intro rfl (Exists.intro (.bool true) (And.intro rfl ?_))
                intro t7 g7; cases t7
                · have g7 : ¬ (u4 = u4) := by simpa using g7
                  exact absurd rfl g7
                · have g7 : u4 = u4 := by simpa using g7
                  refine And.intro rfl (Exists.intro (.bool true) (And.intro rfl ?_))
                  intro t8 g8; cases t8
                  · have g8 : ¬ (e3 = e3) := by simpa using g8
                    exact absurd rfl g8
                  · have g8 : e3 = e3 := by simpa using g8
                    refine And.intro rfl (Exists.intro (.bool true) (And.intro rfl ?_))
                    refine al _ _ ?_
                    refine And.intro rfl (Exists.intro (.bool true) (And.intro rfl ?_))
                    exact And.intro trivial (Exists.intro _ (And.intro rfl rfl))
    · have g1 : (g.wn : Int) > 20 := of_decide_eq_true g1
      refine Exists.intro _ (Exists.intro _ (And.intro c1.of (And.intro (show _ = some (.slice g.wa g.wn g.wcap) from rfl) ?_)))
      intro t9 g9; cases t9
      · have g9 : ¬ ((g.wn : Int) ≤ 40) := of_decide_eq_false g9
        refine And.intro rfl (Exists.intro (.bool false) (And.intro rfl ?_))
        refine And.intro rfl (Exists.intro (.bool false) (And.intro rfl ?_))
        refine condF ?_
        refine Exists.intro _ (Exists.intro _ (And.intro c1.of (And.intro (show row 13 _ _ = some [.slice g.wa g.wn g.wcap, .slice g.aa g.an g.acap, iv g.r1, iv g.r2, iv g.f1, iv g.f2, iv g.g1, iv g.g2, iv g.full, iv g.base, iv g.kill, iv g.need, iv g.bear] from rfl) ?_)))
        obtain ⟨wH9, H9, fH9, kH9, cdr⟩ := drowned22_ok (kn := kn) (lo := lo) (H := H2) (g := g) (a := a) h48 hw ha hwl hal (by omega) (by omega) (by omega)
        have mH9 := kH9.1
        have hk := hk.trans kH9
        have hw := kH9.sl0 hw
        have ha := kH9.sl0 ha
        have c1 := kH9.cl c1 (by simp)
        obtain ⟨u1, e1, rfl⟩ := cdr.any
        refine Exists.intro _ (Exists.intro _ (And.intro (callX_args fH9) ?_))
        refine And.intro rfl (Exists.intro (iv u1) (And.intro (by kernel_rfl) ?_))
        refine And.intro rfl (Exists.intro (iv e1) (And.intro (by kernel_rfl) ?_))
        refine Exists.intro _ (Exists.intro _ (And.intro c1.of (And.intro (show row 13 _ _ = some [.slice g.wa g.wn g.wcap, .slice g.aa g.an g.acap, iv g.r1, iv g.r2, iv g.f1, iv g.f2, iv g.g1, iv g.g2, iv g.full, iv g.base, iv g.kill, iv g.need, iv g.bear] from rfl) ?_)))
        obtain ⟨wH10, H10, fH10, kH10, ddr⟩ := drowned23_ok (kn := kn) (lo := lo) (H := H9) (g := g) (a := a) hw ha hwl hal (by omega) (by omega) (by omega)
        have mH10 := kH10.1
        have hk := hk.trans kH10
        have hw := kH10.sl0 hw
        have ha := kH10.sl0 ha
        have c1 := kH10.cl c1 (by simp)
        obtain rfl := cdr.uniq ddr
        refine Exists.intro _ (Exists.intro _ (And.intro (callX_args fH10) ?_))
        refine And.intro rfl (Exists.intro (iv u1) (And.intro (by kernel_rfl) ?_))
        refine And.intro rfl (Exists.intro (iv e1) (And.intro (by kernel_rfl) ?_))
        refine Exists.intro _ (Exists.intro _ (And.intro c1.of (And.intro (show row 13 _ _ = some [.slice g.wa g.wn g.wcap, .slice g.aa g.an g.acap, iv g.r1, iv g.r2, iv g.f1, iv g.f2, iv g.g1, iv g.g2, iv g.full, iv g.base, iv g.kill, iv g.need, iv g.bear] from rfl) ?_)))
        obtain ⟨wH11, H11, fH11, kH11, cbr⟩ := bears_ok (kn := kn) (lo := lo) (H := H10) (g := g) (a := a) h48 hw ha hwl hal (by omega) (by omega) (by omega)
        have mH11 := kH11.1
        have hk := hk.trans kH11
        have hw := kH11.sl0 hw
        have ha := kH11.sl0 ha
        have c1 := kH11.cl c1 (by simp)
        obtain ⟨u2, e2, rfl⟩ := cbr.any
        refine Exists.intro _ (Exists.intro _ (And.intro (callX_args fH11) ?_))
        refine And.intro rfl (Exists.intro (iv u2) (And.intro (by kernel_rfl) ?_))
        refine And.intro rfl (Exists.intro (iv e2) (And.intro (by kernel_rfl) ?_))
        refine Exists.intro _ (Exists.intro _ (And.intro c1.of (And.intro (show row 13 _ _ = some [.slice g.wa g.wn g.wcap, .slice g.aa g.an g.acap, iv g.r1, iv g.r2, iv g.f1, iv g.f2, iv g.g1, iv g.g2, iv g.full, iv g.base, iv g.kill, iv g.need, iv g.bear] from rfl) ?_)))
        obtain ⟨wH12, H12, fH12, kH12, dbr⟩ := bears25_ok (kn := kn) (lo := lo) (H := H11) (g := g) (a := a) hw ha hwl hal (by omega) (by omega) (by omega)
        have mH12 := kH12.1
        have hk := hk.trans kH12
        have hw := kH12.sl0 hw
        have ha := kH12.sl0 ha
        have c1 := kH12.cl c1 (by simp)
        obtain rfl := cbr.uniq dbr
        refine Exists.intro _ (Exists.intro _ (And.intro (callX_args fH12) ?_))
        refine And.intro rfl (Exists.intro (iv u2) (And.intro (by kernel_rfl) ?_))
        refine And.intro rfl (Exists.intro (iv e2) (And.intro (by kernel_rfl) ?_))
        refine Exists.intro _ (Exists.intro _ (And.intro c1.of (And.intro (show row 13 _ _ = some [.slice g.wa g.wn g.wcap, .slice g.aa g.an g.acap, iv g.r1, iv g.r2, iv g.f1, iv g.f2, iv g.g1, iv g.g2, iv g.full, iv g.base, iv g.kill, iv g.need, iv g.bear] from rfl) ?_)))
        obtain ⟨wH13, H13, fH13, kH13, cbs⟩ := best_ok (kn := kn) (lo := lo) (H := H12) (g := g)  h48 hw ha hwl hal (by omega) (by omega) (by omega)
        have mH13 := kH13.1
        have hk := hk.trans kH13
        have hw := kH13.sl0 hw
        have ha := kH13.sl0 ha
        have c1 := kH13.cl c1 (by simp)
        obtain ⟨u3, u4, e3, rfl⟩ := cbs.any
        refine Exists.intro _ (Exists.intro _ (And.intro (callX_args fH13) ?_))
        refine And.intro rfl (Exists.intro (iv u3) (And.intro (by kernel_rfl) ?_))
        refine And.intro rfl (Exists.intro (iv u4) (And.intro (by kernel_rfl) ?_))
        refine And.intro rfl (Exists.intro (iv e3) (And.intro (by kernel_rfl) ?_))
        refine Exists.intro _ (Exists.intro _ (And.intro c1.of (And.intro (show row 13 _ _ = some [.slice g.wa g.wn g.wcap, .slice g.aa g.an g.acap, iv g.r1, iv g.r2, iv g.f1, iv g.f2, iv g.g1, iv g.g2, iv g.full, iv g.base, iv g.kill, iv g.need, iv g.bear] from rfl) ?_)))
        obtain ⟨wH14, H14, fH14, kH14, dbs⟩ := best27_ok (kn := kn) (lo := lo) (H := H13) (g := g)  hw ha hwl hal (by omega) (by omega) (by omega)
        have mH14 := kH14.1
        have hk := hk.trans kH14
        have hw := kH14.sl0 hw
        have ha := kH14.sl0 ha
        have c1 := kH14.cl c1 (by simp)
        obtain rfl := cbs.uniq dbs
        refine Exists.intro _ (Exists.intro _ (And.intro (callX_args fH14) ?_))
        refine And.intro rfl (Exists.intro (iv u3) (And.intro (by kernel_rfl) ?_))
        refine And.intro rfl (Exists.intro (iv u4) (And.intro (by kernel_rfl) ?_))
        refine And.intro rfl (Exists.intro (iv e3) (And.intro (by kernel_rfl) ?_))
        intro t10 g10; cases t10
        · have g10 : ¬ (u1 = u1) := by simpa using g10
          exact absurd rfl g10
        · have g10 : u1 = u1 := by simpa using g10
          intro t11 g11; cases t11
          · have g11 : ¬ (e1 = e1) := by simpa using g11
            exact absurd rfl g11
          · have g11 : e1 = e1 := by simpa using g11
            refine And.intro rfl (Exists.intro (.bool true) (And.intro rfl ?_))
            intro t12 g12; cases t12
            · have g12 : ¬ (u2 = u2) := by simpa using g12
              exact absurd rfl g12
            · have g12 : u2 = u2 := by simpa using g12
              refine And.intro rfl (Exists.intro (.bool true) (And.intro rfl ?_))
              intro t13 g13; cases t13
              · have g13 : ¬ (e2 = e2) := by simpa using g13
                exact absurd rfl g13
              · have g13 : e2 = e2 := by simpa using g13
                refine And.intro rfl (Exists.intro (.bool true) (And.intro rfl ?_))
                intro t14 g14; cases t14
                · have g14 : ¬ (u3 = u3) := by simpa using g14
                  exact absurd rfl g14
                · have g14 : u3 = u3 := by simpa using g14
                  refine And.intro rfl (Exists.intro (.bool true) (And.intro rfl ?_))
                  intro t15 g15; cases t15
                  · have g15 : ¬ (u4 = u4) := by simpa using g15
                    exact absurd rfl g15
                  · have g15 : u4 = u4 := by simpa using g15
                    refine And.intro rfl (Exists.intro (.bool true) (And.intro rfl ?_))
                    intro t16 g16; cases t16
                    · have g16 : ¬ (e3 = e3) := by simpa using g16
                      exact absurd rfl g16
                    · have g16 : e3 = e3 := by simpa using g16
                      refine And.intro rfl (Exists.intro (.bool true) (And.intro rfl ?_))
                      refine al _ _ ?_
                      refine And.intro rfl (Exists.intro (.bool true) (And.intro rfl ?_))
                      exact And.intro trivial (Exists.intro _ (And.intro rfl rfl))
      · have g9 : (g.wn : Int) ≤ 40 := of_decide_eq_true g9
        refine And.intro rfl (Exists.intro (.bool true) (And.intro rfl ?_))
        refine And.intro rfl (Exists.intro (.bool true) (And.intro rfl ?_))
        refine condT ?_
        refine al _ _ ?_
        exact And.intro trivial (Exists.intro _ (And.intro rfl rfl))
  · refine And.intro rfl (Exists.intro (.bool true) (And.intro rfl ?_))
    refine condT ?_
    refine al _ _ ?_
    exact And.intro trivial (Exists.intro _ (And.intro rfl rfl))
end
end Go.Ax

namespace Go.Ax
open Go Go.RowKit Go.Proofs Go.ChangeShapes Go.WideShapes Go.Deep

/-- A type whose cells are whole numbers. -/
def IntT (P : Program) (t : TypeId) : Prop := ∀ (H : Type) (enc : TypeId × Value → H) (w : World) (base : Nat) (spare : Nat → Bool) (held : Bool) (fuel : Nat) (cs : List Value) (x : DataW H × List MemPlace),
  DataW.trod enc P w base spare held fuel t cs = some x → cs.length = P.cellsOf t ∧ ∀ j, j < cs.length → ∃ n, cs[j]? = some (.int .i64 n)
theorem IntT.int {P : Program} {t : TypeId} (ht : P.underlying t = some (.int .i64)) (hc : P.cellsOf t = 1) : IntT P t := by
  intro H enc w base spare held fuel cs x h
  obtain ⟨n, rfl, _⟩ := DataW.trod_int ht h
  refine ⟨by rw [hc]; rfl, fun j hj => ⟨n, ?_⟩⟩
  have : j = 0 := by simp at hj; omega
  subst this; rfl
theorem IntT.struct {P : Program} {t : TypeId} {fs : Array Field} (ht : P.underlying t = some (.struct fs)) (hf : ∀ f ∈ fs.toList, IntT P f.type)
    (hcov : ((List.range (P.cellsOf t)).all fun j => fs.toList.any fun f => decide (f.offset ≤ j) && decide (j < f.offset + P.cellsOf f.type)) = true) : IntT P t := by
  intro H enc w base spare held fuel cs x h
  obtain ⟨xs, n, _, _, hlen, hxl, hg⟩ := DataW.trod_struct ht h
  refine ⟨hlen, fun j hj => ?_⟩
  have h1 := List.all_eq_true.1 hcov j (List.mem_range.2 (by omega))
  obtain ⟨f, hfm, h2⟩ := List.any_eq_true.1 h1
  simp only [Bool.and_eq_true, decide_eq_true_eq] at h2
  obtain ⟨i, hi, hfi⟩ := List.getElem_of_mem hfm
  have hfs : fs[i]? = some f := by
    rw [← Array.getElem?_toList, List.getElem?_eq_getElem hi, hfi]
  have hi2 : i < xs.length := by simpa [hxl] using hi
  have h3 := hg i f hfs
  rw [List.getElem?_eq_getElem hi2] at h3
  obtain ⟨h4, h5⟩ := hf f hfm _ _ _ _ _ _ _ _ _ h3
  obtain ⟨m, hm⟩ := h5 (j - f.offset) (by omega)
  refine ⟨m, ?_⟩
  rw [List.getElem?_take] at hm
  split at hm
  · rw [List.getElem?_drop, show f.offset + (j - f.offset) = j by omega] at hm; exact hm
  · cases hm

/-- A slice of rows of whole numbers, as it is given. -/
structure Given {α : Type} (w : World) (v : Value) (f : α → List Value) (l : List α) (x : Imp) : Prop where
  ok : ∀ (i : Nat) u, x.cs[i]? = some u → w.cell? ⟨x.blk, x.off + i, none⟩ = some u ∧ flat1 u = true
  cs : x.cs = l.flatMap f
  v : (v = .slice none 0 0 ∧ l = []) ∨ ∃ cap, v = .slice (some ⟨x.blk, x.off, none⟩) l.length cap ∧ l.length ≤ cap
theorem flat_get {α : Type} {f : α → List Value} {k : Nat} (hk : 0 < k) : ∀ {l : List α} (_ : ∀ x ∈ l, (f x).length = k) (i : Nat) (u : Value), (l.flatMap f)[i]? = some u → ∃ x, l[i / k]? = some x ∧ (f x)[i % k]? = some u
  | [], _, i, u, h => by simp at h
  | y :: r, hl, i, u, h => by
    have hy := hl y (List.mem_cons_self ..)
    rw [List.flatMap_cons, List.getElem?_append] at h
    split at h
    · rename_i q
      rw [hy] at q
      refine ⟨y, ?_, ?_⟩
      · rw [Nat.div_eq_of_lt q]; rfl
      · rw [Nat.mod_eq_of_lt q]; exact h
    · rename_i q
      rw [hy] at q h
      obtain ⟨x, h1, h2⟩ := flat_get hk (fun x hx => hl x (List.mem_cons_of_mem _ hx)) _ u h
      refine ⟨x, ?_, ?_⟩
      · rw [Nat.div_eq_sub_div hk (by omega)]; exact h1
      · rw [Nat.mod_eq_sub_mod (by omega)]; exact h2
theorem slice_given {H : Type} {enc : TypeId × Value → H} {P : Program} {w : World} {base b0 : Nat} {r : Reach} {held : Bool} {α : Type} (f : α → List Value) (mk : (Nat → Int) → α) (k : Nat) {t e : TypeId} {fuel : Nat} {v : Value} {x : DataW H × List MemPlace}
    (ht : P.underlying t = some (.slice e)) (hI : IntT P e) (hc : P.cellsOf e = k) (hk : 0 < k) (hmk : ∀ N : Nat → Int, f (mk N) = (List.range k).map fun j => Value.int .i64 (N j))
    (hok : Cell.okWide P w r b0 t v) (h : DataW.trod enc P w base (fun _ => true) held fuel t [v] = some x) : ∃ (l : List α) (y : Imp), Given w v f l y := by
  rcases open_slice ht h with ⟨h0, _⟩ | ⟨a, len, cap, m, n, D, Pl, hcs, hb, hl, hm, hmm, hx, hi⟩
  · cases h0
    exact ⟨[], ⟨0, 0, []⟩, fun i u e => by simp at e, rfl, .inl ⟨rfl, rfl⟩⟩
  · cases hcs
    obtain ⟨blk, off, spot⟩ := a
    have hs : spot = none := by
      unfold Cell.okWide at hok
      rw [ht] at hok
      unfold Cell.ok at hok
      simp only [ht] at hok
      exact hok.2.2.2.1
    subst hs
    simp only [if_true] at hmm
    subst hmm
    have hcell : ∀ i, i < len → ∀ j, j < k → ∃ n, w.cell? ⟨blk, off + (i * k + j), none⟩ = some (.int .i64 n) := by
      intro i hil j hj
      obtain ⟨cs', h1, h2⟩ := hi i (by omega)
      obtain ⟨h3, h4⟩ := hI _ _ _ _ _ _ _ _ _ h2
      obtain ⟨_, h5, h6⟩ := World.cells?_some h1
      obtain ⟨n, hn⟩ := h4 j (by omega)
      refine ⟨n, ?_⟩
      have h7 := h6 j (by omega)
      rw [hn, hc, add_add] at h7
      have e : (⟨blk, off, none⟩ : Addr).add (i * k + j) = ⟨blk, off + (i * k + j), none⟩ := by
        unfold Addr.add
        by_cases q : i * k + j = 0
        · simp [q]
        · simp
      rw [e] at h7
      exact h7
    refine ⟨(List.range len).map fun i => mk fun j => match w.cell? ⟨blk, off + (i * k + j), none⟩ with | some (.int _ n) => n | _ => 0, ⟨blk, off, _⟩, ?_, rfl, .inr ⟨m, by simp, by simpa using hl⟩⟩
    intro i u hu
    obtain ⟨y, h1, h2⟩ := flat_get hk (fun y hy => by
      obtain ⟨i, _, rfl⟩ := List.mem_map.1 hy
      rw [hmk]; simp) i u hu
    have hlt : i / k < len := by
      have := get_lt h1
      simpa using this
    rw [List.getElem?_map, List.getElem?_range hlt] at h1
    simp only [Option.map_some, Option.some.injEq] at h1
    subst h1
    have hj : i % k < k := Nat.mod_lt _ hk
    rw [hmk, List.getElem?_map, List.getElem?_range hj] at h2
    simp only [Option.map_some, Option.some.injEq] at h2
    obtain ⟨n, hn⟩ := hcell _ hlt _ hj
    rw [hn] at h2
    subst h2
    rw [Nat.div_add_mod' ] at hn
    exact ⟨hn, rfl⟩
end Go.Ax

/-! Slices of rows of plain cells, as arguments. -/
namespace Go.Ax
open Go Go.RowKit Go.Proofs Go.ChangeShapes Go.WideShapes Go.Deep

theorem IntT.row {α : Type} {P : Program} {t : TypeId} {k : Nat} {f : α → List Value} {mk : (Nat → Int) → α} (h : IntT P t) (hc : P.cellsOf t = k) (hmk : ∀ N : Nat → Int, f (mk N) = (List.range k).map fun j => Value.int .i64 (N j))
    {H : Type} {enc : TypeId × Value → H} {w : World} {base : Nat} {spare : Nat → Bool} {held : Bool} (fuel : Nat) (cs : List Value) (x : DataW H × List MemPlace) (hx : DataW.trod enc P w base spare held fuel t cs = some x) : ∃ y : α, cs = f y ∧ True := by
  obtain ⟨h1, h2⟩ := h _ _ _ _ _ _ _ _ _ hx
  have : ∃ N : Nat → Int, ∀ j, j < cs.length → cs[j]? = some (.int .i64 (N j)) := by
    refine ⟨fun j => match cs[j]? with | some (.int _ n) => n | _ => 0, fun j hj => ?_⟩
    obtain ⟨n, hn⟩ := h2 j hj
    simp [hn]
  obtain ⟨N, hN⟩ := this
  refine ⟨mk N, ?_, trivial⟩
  rw [hmk]
  apply List.ext_getElem?
  intro j
  by_cases hj : j < k
  · rw [hN j (by omega), List.getElem?_map, List.getElem?_range hj]; rfl
  · rw [List.getElem?_eq_none (by omega), List.getElem?_eq_none (by simp; omega)]
end Go.Ax


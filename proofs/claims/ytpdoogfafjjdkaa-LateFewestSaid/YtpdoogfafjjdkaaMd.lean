import Derived.Test.YtpdoogfafjjdkaaMc
import Derived.Test.YtpdoogfafjjdkaaChecked
import Derived.Test.YtpdoogfafjjdkaaAxO
import Derived.Deep.Slices
import Derived.Deep.Fields
import Derived.ChangeSame
set_option linter.all false
/-
  Late: the law LateFewest, whatever the input (written by program).
-/
namespace Go.Ax
open Go Go.RowKit Go.Proofs

theorem Lt.sm_sl {g : Lt} (v : g.Vd) {s : Nat} {F : Nat → Bool} (k : Nat) (h : s + k ≤ g.wn) : g.sm s F k ≤ g.sl s F k := by
  have := Lt.tb_in (us := []) (F := F) v k h
  omega
theorem conv_8 (x : Int) (h2 : 0 ≤ x ∧ x ≤ 255) {S : Rg} {n : Nat} {o : Operand} {d : Option Nat} (hx : evS S o = some (.int .u8 x)) : pureOp Try.prog (frS n S) ⟨d, .convert 5 3 o, 3, "", #[], none⟩ = some (iv x) := by
  have e : ∀ y : Int, prun Try.prog (Go.convert 5 3 (.int .u8 y)) = some (.int .i64 (IntKind.i64.wrap y)) := fun y => by kernel_rfl
  unfold pureOp
  simp only [ev_frS, hx, e, wrap_i64 (x := x) ⟨by omega, by omega⟩]
  rfl
theorem mod_nat {x n : Int} (hx : 0 ≤ x) (hn : 0 < n) : ∃ p : Nat, x % n = (p : Int) ∧ (p : Int) < n := by
  have h1 := Int.emod_nonneg x (show n ≠ 0 by omega)
  have h2 := Int.emod_lt_of_pos x hn
  exact ⟨(x % n).toNat, by omega, by omega⟩
section
variable {kn : FuncId → Option Bool} {lo : Nat} {H : Hp}
/-- Tells of a flood without fresh days -/
theorem tells_at (h48 : kn 48 = none) {g : Lt} (hw : Sl H g.wa g.wn g.wcap (spc g.ws)) (ha : Sl H g.aa g.an g.acap (spc g.as)) (hwl : g.ws.length = g.wn) (hal : g.as.length = g.an) (hwn : g.wn ≤ 1000) (han : g.an ≤ 1000) (hok : g.ok = true) {a b : Int} (s d : Nat) (ea : a = (s : Int)) (eb : b = (d : Int)) (hsd : s + d ≤ g.wn) (hlo : lo ≤ H.next) :
    ∃ (x y : Int) (H' : Hp), FnX Try.prog kn lo 19 [.agg g.v.toArray, iv a, iv b, .slice none 0 0] H (.tuple #[iv x, iv y, iv 0]) H' ∧ Keep H H' [] ∧ (x = 2 ↔ g.kill ≤ g.wl s d) ∧ (y = 0 ↔ g.sl s (Nat.testBit 0) d ≤ g.bear) := by
  subst ea; subst eb
  have v := Lt.vd hok hwl hal
  obtain ⟨w, H', hf, hk, hc⟩ := tells_ok (kn := kn) (lo := lo) (H := H) (us := []) (a := (s : Int)) (b := (d : Int)) h48 hw ha hwl hal hwn han (la := none) (n := 0) (cap := 0) (.inl ⟨.inl rfl, rfl, rfl, rfl⟩) rfl (by decide) hlo
  obtain rfl := hc.c2 hok hsd rfl
  have h1 := Lt.wl_in v d hsd
  have h2 := Lt.sm_sl v (F := (Nat.testBit 0)) d hsd
  refine ⟨_, _, H', hf, hk, ?_, ?_⟩
  · show sureV (decide (g.wl s d ≥ g.kill)) (decide (g.wh s d ≥ g.kill)) = 2 ↔ _
    constructor
    · intro e; exact of_decide_eq_true (sure_two e)
    · intro e; rw [decide_eq_true (show g.wl s d ≥ g.kill from e)]; rfl
  · show sureV (decide (g.sm s (Nat.testBit 0) d > g.bear)) (decide (g.sl s (Nat.testBit 0) d > g.bear)) = 0 ↔ _
    constructor
    · intro e; have := of_decide_eq_false (sure_zero e); omega
    · intro e; rw [decide_eq_false (show ¬ g.sm s (Nat.testBit 0) d > g.bear by omega), decide_eq_false (show ¬ g.sl s (Nat.testBit 0) d > g.bear by omega)]; rfl
set_option maxRecDepth 100000 in
set_option maxHeartbeats 4000000 in
theorem law_fewest (hkn : kn 14 = some true) (h48 : kn 48 = none) {g : Lt} (hw : Sl H g.wa g.wn g.wcap (spc g.ws)) (ha : Sl H g.aa g.an g.acap (spc g.as)) (hwl : g.ws.length = g.wn) (hal : g.as.length = g.an) {a x0 y0 : Int} (hx0 : 0 ≤ x0 ∧ x0 ≤ 255) (hy0 : 0 ≤ y0 ∧ y0 ≤ 255) (hlo : lo ≤ H.next) :
    ∃ H', FnX Try.prog kn lo 9 [.agg g.v.toArray, iv a, .int .u8 x0, .int .u8 y0] H (.bool true) H' := by
  have key := fnX_low (kn := kn) (lo := lo) (H := H) (args := [.agg g.v.toArray, iv a, .int .u8 x0, .int .u8 y0]) (Q := fun w H' => w = .bool true) Try.func9 B9 N9 Z9 L9 (by simp) ?_
  · obtain ⟨w, H', hf, rfl⟩ := key; exact ⟨H', hf⟩
  have al : ∀ (H9 : Hp) (K : Value → Hp → Prop), K (.bool true) H9 → ∃ v H', CallsX Try.prog kn lo (.fn (.func 14) #[]) [] H9 v H' ∧ K v H' := fun H9 K h => ⟨_, _, callX_known hkn, h⟩
  have hk := Keep.refl H []
  have fw := hw.old; have fa := ha.old
  intro H1 hH1; obtain ⟨kH1, nH1, c1⟩ := new_facts hH1; clear hH1
  have mH1 := kH1.1
  have hk := hk.trans kH1
  have hw := kH1.sl0 hw
  have ha := kH1.sl0 ha
  have c1 : Cl H1 H.next [.slice g.wa g.wn g.wcap, .slice g.aa g.an g.acap, iv g.r1, iv g.r2, iv g.f1, iv g.f2, iv g.g1, iv g.g2, iv g.full, iv g.base, iv g.kill, iv g.need, iv g.bear] := c1
  refine Exists.intro _ (Exists.intro _ (And.intro c1.of (And.intro (show row 13 _ _ = some [.slice g.wa g.wn g.wcap, .slice g.aa g.an g.acap, iv g.r1, iv g.r2, iv g.f1, iv g.f2, iv g.g1, iv g.g2, iv g.full, iv g.base, iv g.kill, iv g.need, iv g.bear] from rfl) ?_)))
  refine callB ((great_ok (la := none) (n := 0) (cap := 0))) ?_
  intro tH2 H2 hH2 kH2
  have mH2 := kH2.1
  have hk := hk.trans kH2
  have hw := kH2.sl0 hw
  have ha := kH2.sl0 ha
  have c1 := kH2.cl c1 (by simp)
  cases tH2
  · have hgr : g.wn ≤ 45 ∧ g.an ≤ 45 := by simp at hH2; omega
    refine condF ?_
    refine Exists.intro _ (Exists.intro _ (And.intro c1.of (And.intro (show row 13 _ _ = some [.slice g.wa g.wn g.wcap, .slice g.aa g.an g.acap, iv g.r1, iv g.r2, iv g.f1, iv g.f2, iv g.g1, iv g.g2, iv g.full, iv g.base, iv g.kill, iv g.need, iv g.bear] from rfl) ?_)))
    obtain ⟨wH3, H3, fH3, kH3, hc⟩ := drowned22_ok (kn := kn) (lo := lo) (H := H2) (g := g) (a := a) h48 hw ha hwl hal (by omega) (by omega) (by omega)
    have mH3 := kH3.1
    have hk := hk.trans kH3
    have hw := kH3.sl0 hw
    have ha := kH3.sl0 ha
    have c1 := kH3.cl c1 (by simp)
    rcases hc with ⟨hok, rfl⟩ | ⟨hok, hin, rfl⟩ | ⟨hok, s, d, rfl, hsd, ⟨k, hk1, hk2, hk3, rfl⟩ | ⟨hall, rfl⟩⟩
    · refine Exists.intro _ (Exists.intro _ (And.intro (callX_args fH3) ?_))
      refine And.intro rfl (Exists.intro (iv 0) (And.intro (by kernel_rfl) ?_))
      refine And.intro rfl (Exists.intro (iv 1) (And.intro (by kernel_rfl) ?_))
      refine Exists.intro _ (Exists.intro _ (And.intro c1.of (And.intro (show row 13 _ _ = some [.slice g.wa g.wn g.wcap, .slice g.aa g.an g.acap, iv g.r1, iv g.r2, iv g.f1, iv g.f2, iv g.g1, iv g.g2, iv g.full, iv g.base, iv g.kill, iv g.need, iv g.bear] from rfl) ?_)))
      obtain ⟨wH4, H4, fH4, kH4, hc⟩ := bears_ok (kn := kn) (lo := lo) (H := H3) (g := g) (a := a) h48 hw ha hwl hal (by omega) (by omega) (by omega)
      have mH4 := kH4.1
      have hk := hk.trans kH4
      have hw := kH4.sl0 hw
      have ha := kH4.sl0 ha
      have c1 := kH4.cl c1 (by simp)
      obtain rfl : wH4 = .tuple #[iv 0, iv 1] := by
        rcases hc with ⟨h, e⟩ | ⟨h, h2, e⟩ | ⟨h, s, d, m, h1, h2, _, _, _, e⟩
        · exact e
        · rw [hok] at h; cases h
        · rw [hok] at h; cases h
      refine Exists.intro _ (Exists.intro _ (And.intro (callX_args fH4) ?_))
      refine And.intro rfl (Exists.intro (iv 0) (And.intro (by kernel_rfl) ?_))
      refine And.intro rfl (Exists.intro (iv 1) (And.intro (by kernel_rfl) ?_))
      refine Exists.intro _ (Exists.intro _ (And.intro c1.of (And.intro (show row 13 _ _ = some [.slice g.wa g.wn g.wcap, .slice g.aa g.an g.acap, iv g.r1, iv g.r2, iv g.f1, iv g.f2, iv g.g1, iv g.g2, iv g.full, iv g.base, iv g.kill, iv g.need, iv g.bear] from rfl) ?_)))
      obtain ⟨wH5, H5, fH5, kH5, hc⟩ := best_ok (kn := kn) (lo := lo) (H := H4) (g := g) h48 hw ha hwl hal (by omega) (by omega) (by omega)
      have mH5 := kH5.1
      have hk := hk.trans kH5
      have hw := kH5.sl0 hw
      have ha := kH5.sl0 ha
      have c1 := kH5.cl c1 (by simp)
      obtain ⟨u1, u2, u3, rfl⟩ : ∃ u1 u2 u3 : Int, wH5 = .tuple #[iv u1, iv u2, iv u3] := by rcases hc with ⟨_, e⟩ | ⟨_, _, e⟩ | ⟨_, _, _, _, _, _, e⟩ <;> exact ⟨_, _, _, e⟩
      refine Exists.intro _ (Exists.intro _ (And.intro (callX_args fH5) ?_))
      refine And.intro rfl (Exists.intro (iv u1) (And.intro (by kernel_rfl) ?_))
      refine And.intro rfl (Exists.intro (iv u2) (And.intro (by kernel_rfl) ?_))
      refine And.intro rfl (Exists.intro (iv u3) (And.intro (by kernel_rfl) ?_))
      intro t1 g1; obtain rfl : t1 = true := by rw [← g1]; rfl
      refine And.intro rfl (Exists.intro (.bool true) (And.intro rfl ?_))
      refine condT ?_
      intro t2 g2; obtain rfl : t2 = true := by rw [← g2]; rfl
      intro t3 g3; obtain rfl : t3 = true := by rw [← g3]; rfl
      refine And.intro rfl (Exists.intro (.bool true) (And.intro rfl ?_))
      intro t4 g4; obtain rfl : t4 = true := by rw [← g4]; rfl
      refine And.intro rfl (Exists.intro (.bool true) (And.intro rfl ?_))
      refine al _ _ ?_
      refine And.intro rfl (Exists.intro (.bool true) (And.intro rfl ?_))
      exact And.intro trivial (Exists.intro _ (And.intro rfl rfl))
    · refine Exists.intro _ (Exists.intro _ (And.intro (callX_args fH3) ?_))
      refine And.intro rfl (Exists.intro (iv 0) (And.intro (by kernel_rfl) ?_))
      refine And.intro rfl (Exists.intro (iv 2) (And.intro (by kernel_rfl) ?_))
      refine Exists.intro _ (Exists.intro _ (And.intro c1.of (And.intro (show row 13 _ _ = some [.slice g.wa g.wn g.wcap, .slice g.aa g.an g.acap, iv g.r1, iv g.r2, iv g.f1, iv g.f2, iv g.g1, iv g.g2, iv g.full, iv g.base, iv g.kill, iv g.need, iv g.bear] from rfl) ?_)))
      obtain ⟨wH6, H6, fH6, kH6, hc⟩ := bears_ok (kn := kn) (lo := lo) (H := H3) (g := g) (a := a) h48 hw ha hwl hal (by omega) (by omega) (by omega)
      have mH6 := kH6.1
      have hk := hk.trans kH6
      have hw := kH6.sl0 hw
      have ha := kH6.sl0 ha
      have c1 := kH6.cl c1 (by simp)
      obtain rfl : wH6 = .tuple #[iv 0, iv 2] := by
        rcases hc with ⟨h, e⟩ | ⟨h, h2, e⟩ | ⟨h, s, d, m, h1, h2, _, _, _, e⟩
        · rw [hok] at h; cases h
        · exact e
        · simp only [inB, Bool.and_eq_false_iff, decide_eq_false_iff_not] at hin; omega
      refine Exists.intro _ (Exists.intro _ (And.intro (callX_args fH6) ?_))
      refine And.intro rfl (Exists.intro (iv 0) (And.intro (by kernel_rfl) ?_))
      refine And.intro rfl (Exists.intro (iv 2) (And.intro (by kernel_rfl) ?_))
      refine Exists.intro _ (Exists.intro _ (And.intro c1.of (And.intro (show row 13 _ _ = some [.slice g.wa g.wn g.wcap, .slice g.aa g.an g.acap, iv g.r1, iv g.r2, iv g.f1, iv g.f2, iv g.g1, iv g.g2, iv g.full, iv g.base, iv g.kill, iv g.need, iv g.bear] from rfl) ?_)))
      obtain ⟨wH7, H7, fH7, kH7, hc⟩ := best_ok (kn := kn) (lo := lo) (H := H6) (g := g) h48 hw ha hwl hal (by omega) (by omega) (by omega)
      have mH7 := kH7.1
      have hk := hk.trans kH7
      have hw := kH7.sl0 hw
      have ha := kH7.sl0 ha
      have c1 := kH7.cl c1 (by simp)
      obtain ⟨u1, u2, u3, rfl⟩ : ∃ u1 u2 u3 : Int, wH7 = .tuple #[iv u1, iv u2, iv u3] := by rcases hc with ⟨_, e⟩ | ⟨_, _, e⟩ | ⟨_, _, _, _, _, _, e⟩ <;> exact ⟨_, _, _, e⟩
      refine Exists.intro _ (Exists.intro _ (And.intro (callX_args fH7) ?_))
      refine And.intro rfl (Exists.intro (iv u1) (And.intro (by kernel_rfl) ?_))
      refine And.intro rfl (Exists.intro (iv u2) (And.intro (by kernel_rfl) ?_))
      refine And.intro rfl (Exists.intro (iv u3) (And.intro (by kernel_rfl) ?_))
      intro t5 g5; obtain rfl : t5 = false := by rw [← g5]; rfl
      intro t6 g6; obtain rfl : t6 = true := by rw [← g6]; rfl
      refine And.intro rfl (Exists.intro (.bool true) (And.intro rfl ?_))
      refine condT ?_
      intro t7 g7; obtain rfl : t7 = true := by rw [← g7]; rfl
      intro t8 g8; obtain rfl : t8 = true := by rw [← g8]; rfl
      refine And.intro rfl (Exists.intro (.bool true) (And.intro rfl ?_))
      intro t9 g9; obtain rfl : t9 = true := by rw [← g9]; rfl
      refine And.intro rfl (Exists.intro (.bool true) (And.intro rfl ?_))
      refine al _ _ ?_
      refine And.intro rfl (Exists.intro (.bool true) (And.intro rfl ?_))
      exact And.intro trivial (Exists.intro _ (And.intro rfl rfl))
    · have v := Lt.vd hok hwl hal
      have hn40 := v.n40; have hwl0 := Lt.wl_in (s := s) v
      refine Exists.intro _ (Exists.intro _ (And.intro (callX_args fH3) ?_))
      refine And.intro rfl (Exists.intro (iv (k : Int)) (And.intro (by kernel_rfl) ?_))
      refine And.intro rfl (Exists.intro (iv 0) (And.intro (by kernel_rfl) ?_))
      refine Exists.intro _ (Exists.intro _ (And.intro c1.of (And.intro (show row 13 _ _ = some [.slice g.wa g.wn g.wcap, .slice g.aa g.an g.acap, iv g.r1, iv g.r2, iv g.f1, iv g.f2, iv g.g1, iv g.g2, iv g.full, iv g.base, iv g.kill, iv g.need, iv g.bear] from rfl) ?_)))
      obtain ⟨wH8, H8, fH8, kH8, hc⟩ := bears_ok (kn := kn) (lo := lo) (H := H3) (g := g) (a := (s : Int)) h48 hw ha hwl hal (by omega) (by omega) (by omega)
      have mH8 := kH8.1
      have hk := hk.trans kH8
      have hw := kH8.sl0 hw
      have ha := kH8.sl0 ha
      have c1 := kH8.cl c1 (by simp)
      obtain ⟨m, hm1, hm2, hm3, rfl⟩ : ∃ m : Nat, m ≤ d ∧ (∀ j, j ≤ m → g.sl s (Nat.testBit 0) j ≤ g.bear) ∧ (m = d ∨ g.bear < g.sl s (Nat.testBit 0) (m + 1)) ∧ wH8 = .tuple #[iv (m : Int), iv 0] := by
        rcases hc with ⟨h, e⟩ | ⟨h, h2, e⟩ | ⟨h, s1, d1, m, h1, h2, h3, h4, h5, e⟩
        · rw [hok] at h; cases h
        · simp only [inB, Bool.and_eq_false_iff, decide_eq_false_iff_not] at h2; omega
        · obtain rfl : s = s1 := by omega
          obtain rfl : d = d1 := by omega
          exact ⟨m, h3, h4, h5, e⟩
      refine Exists.intro _ (Exists.intro _ (And.intro (callX_args fH8) ?_))
      refine And.intro rfl (Exists.intro (iv (m : Int)) (And.intro (by kernel_rfl) ?_))
      refine And.intro rfl (Exists.intro (iv 0) (And.intro (by kernel_rfl) ?_))
      refine Exists.intro _ (Exists.intro _ (And.intro c1.of (And.intro (show row 13 _ _ = some [.slice g.wa g.wn g.wcap, .slice g.aa g.an g.acap, iv g.r1, iv g.r2, iv g.f1, iv g.f2, iv g.g1, iv g.g2, iv g.full, iv g.base, iv g.kill, iv g.need, iv g.bear] from rfl) ?_)))
      obtain ⟨wH9, H9, fH9, kH9, hc⟩ := best_ok (kn := kn) (lo := lo) (H := H8) (g := g) h48 hw ha hwl hal (by omega) (by omega) (by omega)
      have mH9 := kH9.1
      have hk := hk.trans kH9
      have hw := kH9.sl0 hw
      have ha := kH9.sl0 ha
      have c1 := kH9.cl c1 (by simp)
      rcases hc with ⟨h, _⟩ | ⟨_, hnone, rfl⟩ | ⟨_, b1, b2, hb1, hb2, hbest, rfl⟩
      · rw [hok] at h; cases h
      · refine Exists.intro _ (Exists.intro _ (And.intro (callX_args fH9) ?_))
        refine And.intro rfl (Exists.intro (iv 0) (And.intro (by kernel_rfl) ?_))
        refine And.intro rfl (Exists.intro (iv 0) (And.intro (by kernel_rfl) ?_))
        refine And.intro rfl (Exists.intro (iv 4) (And.intro (by kernel_rfl) ?_))
        intro t10 g10; obtain rfl : t10 = false := by rw [← g10]; rfl
        intro t11 g11; obtain rfl : t11 = false := by rw [← g11]; rfl
        refine And.intro rfl (Exists.intro (.bool false) (And.intro rfl ?_))
        refine condF ?_
        intro t12 g12; obtain rfl : t12 = false := by rw [← g12]; rfl
        refine Exists.intro _ (Exists.intro _ (And.intro c1.of (And.intro (show row 13 _ _ = some [.slice g.wa g.wn g.wcap, .slice g.aa g.an g.acap, iv g.r1, iv g.r2, iv g.f1, iv g.f2, iv g.g1, iv g.g2, iv g.full, iv g.base, iv g.kill, iv g.need, iv g.bear] from rfl) ?_)))
        refine callB (late33_ok hw ha hwl hal (by omega) (by omega)) ?_
        intro tH10 H10 hH10 kH10
        obtain rfl : tH10 = true := by rw [← hH10]; exact hok
        have mH10 := kH10.1
        have hk := hk.trans kH10
        have hw := kH10.sl0 hw
        have ha := kH10.sl0 ha
        have c1 := kH10.cl c1 (by simp)
        refine And.intro rfl (Exists.intro (.bool false) (And.intro rfl ?_))
        refine And.intro rfl (Exists.intro (.bool false) (And.intro rfl ?_))
        intro t13 g13; cases t13
        · have g13 : ¬ ((s : Int) < 0) := of_decide_eq_false g13
          refine And.intro rfl (Exists.intro (.bool false) (And.intro rfl ?_))
          refine Exists.intro _ (Exists.intro _ (And.intro c1.of (And.intro (show _ = some (.slice g.wa g.wn g.wcap) from rfl) ?_)))
          intro t14 g14; cases t14
          · have g14 : ¬ ((s : Int) > (g.wn : Int)) := of_decide_eq_false g14
            refine And.intro rfl (Exists.intro (.bool false) (And.intro rfl ?_))
            refine condF ?_
            refine Exists.intro _ (Exists.intro _ (And.intro c1.of (And.intro (show _ = some (.slice g.wa g.wn g.wcap) from rfl) ?_)))
            refine And.intro (show InR ((g.wn : Int) - (s : Int)) from ⟨by omega, by omega⟩) ?_
            refine condT ?_
            refine Exists.intro _ (Exists.intro _ (And.intro c1.of (And.intro (show row 13 _ _ = some [.slice g.wa g.wn g.wcap, .slice g.aa g.an g.acap, iv g.r1, iv g.r2, iv g.f1, iv g.f2, iv g.g1, iv g.g2, iv g.full, iv g.base, iv g.kill, iv g.need, iv g.bear] from rfl) ?_)))
            obtain ⟨xH11, yH11, H11, fH11, kH11, ixH11, iyH11⟩ := tells_at (kn := kn) (lo := lo) (H := H10) (a := (s : Int)) (b := (k : Int)) h48 hw ha hwl hal (by omega) (by omega) hok s k (by omega) (by omega) (by omega) (by omega)
            have mH11 := kH11.1
            have hk := hk.trans kH11
            have hw := kH11.sl0 hw
            have ha := kH11.sl0 ha
            have c1 := kH11.cl c1 (by simp)
            refine Exists.intro _ (Exists.intro _ (And.intro (callX_args fH11) ?_))
            refine And.intro rfl (Exists.intro (iv xH11) (And.intro (by kernel_rfl) ?_))
            refine And.intro rfl (Exists.intro (iv yH11) (And.intro (by kernel_rfl) ?_))
            refine And.intro rfl (Exists.intro (iv 0) (And.intro (by kernel_rfl) ?_))
            intro t15 g15; obtain rfl : t15 = false := by rw [← g15]; rfl
            intro t16 g16; cases t16
            · have g16 : ¬ (xH11 ≠ 2) := by simpa using g16
              refine And.intro rfl (Exists.intro (.bool false) (And.intro rfl ?_))
              refine condF ?_
              refine And.intro (fun q17 => ?_) (fun q17 => ?_)
              · have q17 : (k : Int) > 0 := of_decide_eq_true q17
                refine Exists.intro _ (Exists.intro _ (And.intro c1.of (And.intro (show row 13 _ _ = some [.slice g.wa g.wn g.wcap, .slice g.aa g.an g.acap, iv g.r1, iv g.r2, iv g.f1, iv g.f2, iv g.g1, iv g.g2, iv g.full, iv g.base, iv g.kill, iv g.need, iv g.bear] from rfl) ?_)))
                refine And.intro (show InR ((k : Int) - 1) from ⟨by omega, by omega⟩) ?_
                obtain ⟨xH12, yH12, H12, fH12, kH12, ixH12, iyH12⟩ := tells_at (kn := kn) (lo := lo) (H := H11) (a := (s : Int)) (b := (k : Int) - 1) h48 hw ha hwl hal (by omega) (by omega) hok s (k - 1) (by omega) (by omega) (by omega) (by omega)
                have mH12 := kH12.1
                have hk := hk.trans kH12
                have hw := kH12.sl0 hw
                have ha := kH12.sl0 ha
                have c1 := kH12.cl c1 (by simp)
                refine Exists.intro _ (Exists.intro _ (And.intro (callX_args fH12) ?_))
                refine And.intro rfl (Exists.intro (iv xH12) (And.intro (by kernel_rfl) ?_))
                refine And.intro rfl (Exists.intro (iv yH12) (And.intro (by kernel_rfl) ?_))
                refine And.intro rfl (Exists.intro (iv 0) (And.intro (by kernel_rfl) ?_))
                intro t18 g18; obtain rfl : t18 = false := by rw [← g18]; rfl
                intro t19 g19; cases t19
                · have g19 : ¬ (xH12 = 2) := by simpa using g19
                  refine And.intro rfl (Exists.intro (.bool false) (And.intro rfl ?_))
                  refine condF ?_
                  refine Exists.intro _ (Exists.intro _ (And.intro c1.of (And.intro (show row 13 _ _ = some [.slice g.wa g.wn g.wcap, .slice g.aa g.an g.acap, iv g.r1, iv g.r2, iv g.f1, iv g.f2, iv g.g1, iv g.g2, iv g.full, iv g.base, iv g.kill, iv g.need, iv g.bear] from rfl) ?_)))
                  obtain ⟨xH13, yH13, H13, fH13, kH13, ixH13, iyH13⟩ := tells_at (kn := kn) (lo := lo) (H := H12) (a := (s : Int)) (b := (m : Int)) h48 hw ha hwl hal (by omega) (by omega) hok s m (by omega) (by omega) (by omega) (by omega)
                  have mH13 := kH13.1
                  have hk := hk.trans kH13
                  have hw := kH13.sl0 hw
                  have ha := kH13.sl0 ha
                  have c1 := kH13.cl c1 (by simp)
                  refine Exists.intro _ (Exists.intro _ (And.intro (callX_args fH13) ?_))
                  refine And.intro rfl (Exists.intro (iv xH13) (And.intro (by kernel_rfl) ?_))
                  refine And.intro rfl (Exists.intro (iv yH13) (And.intro (by kernel_rfl) ?_))
                  refine And.intro rfl (Exists.intro (iv 0) (And.intro (by kernel_rfl) ?_))
                  intro t20 g20; obtain rfl : t20 = false := by rw [← g20]; rfl
                  intro t21 g21; cases t21
                  · have g21 : ¬ (yH13 ≠ 0) := by simpa using g21
                    refine And.intro rfl (Exists.intro (.bool false) (And.intro rfl ?_))
                    intro t22 g22; cases t22
                    · have g22 : ¬ ((m : Int) > ((g.wn : Int) - (s : Int))) := of_decide_eq_false g22
                      refine And.intro rfl (Exists.intro (.bool false) (And.intro rfl ?_))
                      refine condF ?_
                      refine And.intro (fun q23 => ?_) (fun q23 => ?_)
                      · have q23 : (m : Int) < ((g.wn : Int) - (s : Int)) := of_decide_eq_true q23
                        refine Exists.intro _ (Exists.intro _ (And.intro c1.of (And.intro (show row 13 _ _ = some [.slice g.wa g.wn g.wcap, .slice g.aa g.an g.acap, iv g.r1, iv g.r2, iv g.f1, iv g.f2, iv g.g1, iv g.g2, iv g.full, iv g.base, iv g.kill, iv g.need, iv g.bear] from rfl) ?_)))
                        refine And.intro (show InR ((m : Int) + 1) from ⟨by omega, by omega⟩) ?_
                        obtain ⟨xH14, yH14, H14, fH14, kH14, ixH14, iyH14⟩ := tells_at (kn := kn) (lo := lo) (H := H13) (a := (s : Int)) (b := (m : Int) + 1) h48 hw ha hwl hal (by omega) (by omega) hok s (m + 1) (by omega) (by omega) (by omega) (by omega)
                        have mH14 := kH14.1
                        have hk := hk.trans kH14
                        have hw := kH14.sl0 hw
                        have ha := kH14.sl0 ha
                        have c1 := kH14.cl c1 (by simp)
                        refine Exists.intro _ (Exists.intro _ (And.intro (callX_args fH14) ?_))
                        refine And.intro rfl (Exists.intro (iv xH14) (And.intro (by kernel_rfl) ?_))
                        refine And.intro rfl (Exists.intro (iv yH14) (And.intro (by kernel_rfl) ?_))
                        refine And.intro rfl (Exists.intro (iv 0) (And.intro (by kernel_rfl) ?_))
                        intro t24 g24; obtain rfl : t24 = false := by rw [← g24]; rfl
                        intro t25 g25; cases t25
                        · have g25 : ¬ (yH14 = 0) := by simpa using g25
                          refine And.intro rfl (Exists.intro (.bool false) (And.intro rfl ?_))
                          refine condF ?_
                          refine And.intro rfl (Exists.intro (iv x0) (And.intro (conv_8 x0 hx0 rfl) ?_))
                          refine Exists.intro _ (Exists.intro _ (And.intro c1.of (And.intro (show _ = some (.slice g.wa g.wn g.wcap) from rfl) ?_)))
                          refine And.intro (show InR ((g.wn : Int) + 1) from ⟨by omega, by omega⟩) ?_
                          obtain ⟨p, hp, lp⟩ := mod_nat (x := x0) (n := (g.wn : Int) + 1) (by omega) (by omega)
                          refine And.intro (by omega) (And.intro (by omega) (And.intro ⟨by omega, by omega⟩ (And.intro ⟨by omega, by omega⟩ ?_)))
                          refine And.intro rfl (Exists.intro (iv y0) (And.intro (conv_8 y0 hy0 rfl) ?_))
                          refine Exists.intro _ (Exists.intro _ (And.intro c1.of (And.intro (show _ = some (.slice g.wa g.wn g.wcap) from rfl) ?_)))
                          refine And.intro (show InR ((g.wn : Int) - (x0 % ((g.wn : Int) + 1))) from ⟨by omega, by omega⟩) ?_
                          refine And.intro (show InR (((g.wn : Int) - (x0 % ((g.wn : Int) + 1))) + 1) from ⟨by omega, by omega⟩) ?_
                          obtain ⟨q, hq, lq⟩ := mod_nat (x := y0) (n := ((g.wn : Int) - (x0 % ((g.wn : Int) + 1))) + 1) (by omega) (by omega)
                          refine And.intro (by omega) (And.intro (by omega) (And.intro ⟨by omega, by omega⟩ (And.intro ⟨by omega, by omega⟩ ?_)))
                          refine Exists.intro _ (Exists.intro _ (And.intro c1.of (And.intro (show row 13 _ _ = some [.slice g.wa g.wn g.wcap, .slice g.aa g.an g.acap, iv g.r1, iv g.r2, iv g.f1, iv g.f2, iv g.g1, iv g.g2, iv g.full, iv g.base, iv g.kill, iv g.need, iv g.bear] from rfl) ?_)))
                          obtain ⟨xH15, yH15, H15, fH15, kH15, ixH15, iyH15⟩ := tells_at (kn := kn) (lo := lo) (H := H14) (a := x0 % ((g.wn : Int) + 1)) (b := y0 % (((g.wn : Int) - (x0 % ((g.wn : Int) + 1))) + 1)) h48 hw ha hwl hal (by omega) (by omega) hok p q (by omega) (by omega) (by omega) (by omega)
                          have mH15 := kH15.1
                          have hk := hk.trans kH15
                          have hw := kH15.sl0 hw
                          have ha := kH15.sl0 ha
                          have c1 := kH15.cl c1 (by simp)
                          refine Exists.intro _ (Exists.intro _ (And.intro (callX_args fH15) ?_))
                          refine And.intro rfl (Exists.intro (iv xH15) (And.intro (by kernel_rfl) ?_))
                          refine And.intro rfl (Exists.intro (iv yH15) (And.intro (by kernel_rfl) ?_))
                          refine And.intro rfl (Exists.intro (iv 0) (And.intro (by kernel_rfl) ?_))
                          intro t26 g26; obtain rfl : t26 = true := by rw [← g26]; rfl
                          intro t27 g27; cases t27
                          · have g27 : ¬ (xH15 = 2) := by simpa using g27
                            refine And.intro rfl (Exists.intro (.bool false) (And.intro rfl ?_))
                            refine And.intro rfl (Exists.intro (.bool false) (And.intro rfl ?_))
                            refine condT ?_
                            intro t28 g28; obtain rfl : t28 = true := by rw [← g28]; rfl
                            intro t29 g29; obtain rfl : t29 = true := by rw [← g29]; rfl
                            refine And.intro rfl (Exists.intro (.bool true) (And.intro rfl ?_))
                            intro t30 g30; obtain rfl : t30 = true := by rw [← g30]; rfl
                            refine And.intro rfl (Exists.intro (.bool true) (And.intro rfl ?_))
                            refine And.intro rfl (Exists.intro (.bool true) (And.intro rfl ?_))
                            refine And.intro rfl (Exists.intro (.bool true) (And.intro rfl ?_))
                            intro t31 g31; obtain rfl : t31 = false := by rw [← g31]; rfl
                            intro t32 g32; cases t32
                            · have g32 : ¬ ((k : Int) > (m : Int)) := of_decide_eq_false g32
                              exfalso; exact hnone s k (by omega) ⟨by omega, hm2 k (by omega)⟩
                            · have g32 : (k : Int) > (m : Int) := of_decide_eq_true g32
                              refine And.intro rfl (Exists.intro (.bool true) (And.intro rfl ?_))
                              refine And.intro rfl (Exists.intro (.bool true) (And.intro rfl ?_))
                              refine al _ _ ?_
                              refine And.intro rfl (Exists.intro (.bool true) (And.intro rfl ?_))
                              exact And.intro trivial (Exists.intro _ (And.intro rfl rfl))
                          · have g27 : xH15 = 2 := by simpa using g27
                            refine And.intro rfl (Exists.intro (.bool true) (And.intro rfl ?_))
                            intro t33 g33; cases t33
                            · have g33 : ¬ (yH15 = 0) := by simpa using g33
                              refine And.intro rfl (Exists.intro (.bool false) (And.intro rfl ?_))
                              refine condT ?_
                              intro t34 g34; obtain rfl : t34 = true := by rw [← g34]; rfl
                              intro t35 g35; obtain rfl : t35 = true := by rw [← g35]; rfl
                              refine And.intro rfl (Exists.intro (.bool true) (And.intro rfl ?_))
                              intro t36 g36; obtain rfl : t36 = true := by rw [← g36]; rfl
                              refine And.intro rfl (Exists.intro (.bool true) (And.intro rfl ?_))
                              refine And.intro rfl (Exists.intro (.bool true) (And.intro rfl ?_))
                              refine And.intro rfl (Exists.intro (.bool true) (And.intro rfl ?_))
                              intro t37 g37; obtain rfl : t37 = false := by rw [← g37]; rfl
                              intro t38 g38; cases t38
                              · have g38 : ¬ ((k : Int) > (m : Int)) := of_decide_eq_false g38
                                exfalso; exact hnone s k (by omega) ⟨by omega, hm2 k (by omega)⟩
                              · have g38 : (k : Int) > (m : Int) := of_decide_eq_true g38
                                refine And.intro rfl (Exists.intro (.bool true) (And.intro rfl ?_))
                                refine And.intro rfl (Exists.intro (.bool true) (And.intro rfl ?_))
                                refine al _ _ ?_
                                refine And.intro rfl (Exists.intro (.bool true) (And.intro rfl ?_))
                                exact And.intro trivial (Exists.intro _ (And.intro rfl rfl))
                            · have g33 : yH15 = 0 := by simpa using g33
                              exfalso; exact hnone p q (by omega) ⟨by omega, by omega⟩
                        · have g25 : yH14 = 0 := by simpa using g25
                          exfalso; omega
                      · have q23 : ¬ ((m : Int) < ((g.wn : Int) - (s : Int))) := of_decide_eq_false q23
                        refine And.intro rfl (Exists.intro (iv x0) (And.intro (conv_8 x0 hx0 rfl) ?_))
                        refine Exists.intro _ (Exists.intro _ (And.intro c1.of (And.intro (show _ = some (.slice g.wa g.wn g.wcap) from rfl) ?_)))
                        refine And.intro (show InR ((g.wn : Int) + 1) from ⟨by omega, by omega⟩) ?_
                        obtain ⟨p, hp, lp⟩ := mod_nat (x := x0) (n := (g.wn : Int) + 1) (by omega) (by omega)
                        refine And.intro (by omega) (And.intro (by omega) (And.intro ⟨by omega, by omega⟩ (And.intro ⟨by omega, by omega⟩ ?_)))
                        refine And.intro rfl (Exists.intro (iv y0) (And.intro (conv_8 y0 hy0 rfl) ?_))
                        refine Exists.intro _ (Exists.intro _ (And.intro c1.of (And.intro (show _ = some (.slice g.wa g.wn g.wcap) from rfl) ?_)))
                        refine And.intro (show InR ((g.wn : Int) - (x0 % ((g.wn : Int) + 1))) from ⟨by omega, by omega⟩) ?_
                        refine And.intro (show InR (((g.wn : Int) - (x0 % ((g.wn : Int) + 1))) + 1) from ⟨by omega, by omega⟩) ?_
                        obtain ⟨q, hq, lq⟩ := mod_nat (x := y0) (n := ((g.wn : Int) - (x0 % ((g.wn : Int) + 1))) + 1) (by omega) (by omega)
                        refine And.intro (by omega) (And.intro (by omega) (And.intro ⟨by omega, by omega⟩ (And.intro ⟨by omega, by omega⟩ ?_)))
                        refine Exists.intro _ (Exists.intro _ (And.intro c1.of (And.intro (show row 13 _ _ = some [.slice g.wa g.wn g.wcap, .slice g.aa g.an g.acap, iv g.r1, iv g.r2, iv g.f1, iv g.f2, iv g.g1, iv g.g2, iv g.full, iv g.base, iv g.kill, iv g.need, iv g.bear] from rfl) ?_)))
                        obtain ⟨xH16, yH16, H16, fH16, kH16, ixH16, iyH16⟩ := tells_at (kn := kn) (lo := lo) (H := H13) (a := x0 % ((g.wn : Int) + 1)) (b := y0 % (((g.wn : Int) - (x0 % ((g.wn : Int) + 1))) + 1)) h48 hw ha hwl hal (by omega) (by omega) hok p q (by omega) (by omega) (by omega) (by omega)
                        have mH16 := kH16.1
                        have hk := hk.trans kH16
                        have hw := kH16.sl0 hw
                        have ha := kH16.sl0 ha
                        have c1 := kH16.cl c1 (by simp)
                        refine Exists.intro _ (Exists.intro _ (And.intro (callX_args fH16) ?_))
                        refine And.intro rfl (Exists.intro (iv xH16) (And.intro (by kernel_rfl) ?_))
                        refine And.intro rfl (Exists.intro (iv yH16) (And.intro (by kernel_rfl) ?_))
                        refine And.intro rfl (Exists.intro (iv 0) (And.intro (by kernel_rfl) ?_))
                        intro t39 g39; obtain rfl : t39 = true := by rw [← g39]; rfl
                        intro t40 g40; cases t40
                        · have g40 : ¬ (xH16 = 2) := by simpa using g40
                          refine And.intro rfl (Exists.intro (.bool false) (And.intro rfl ?_))
                          refine And.intro rfl (Exists.intro (.bool false) (And.intro rfl ?_))
                          refine condT ?_
                          intro t41 g41; obtain rfl : t41 = true := by rw [← g41]; rfl
                          intro t42 g42; obtain rfl : t42 = true := by rw [← g42]; rfl
                          refine And.intro rfl (Exists.intro (.bool true) (And.intro rfl ?_))
                          intro t43 g43; obtain rfl : t43 = true := by rw [← g43]; rfl
                          refine And.intro rfl (Exists.intro (.bool true) (And.intro rfl ?_))
                          refine And.intro rfl (Exists.intro (.bool true) (And.intro rfl ?_))
                          refine And.intro rfl (Exists.intro (.bool true) (And.intro rfl ?_))
                          intro t44 g44; obtain rfl : t44 = false := by rw [← g44]; rfl
                          intro t45 g45; cases t45
                          · have g45 : ¬ ((k : Int) > (m : Int)) := of_decide_eq_false g45
                            exfalso; exact hnone s k (by omega) ⟨by omega, hm2 k (by omega)⟩
                          · have g45 : (k : Int) > (m : Int) := of_decide_eq_true g45
                            refine And.intro rfl (Exists.intro (.bool true) (And.intro rfl ?_))
                            refine And.intro rfl (Exists.intro (.bool true) (And.intro rfl ?_))
                            refine al _ _ ?_
                            refine And.intro rfl (Exists.intro (.bool true) (And.intro rfl ?_))
                            exact And.intro trivial (Exists.intro _ (And.intro rfl rfl))
                        · have g40 : xH16 = 2 := by simpa using g40
                          refine And.intro rfl (Exists.intro (.bool true) (And.intro rfl ?_))
                          intro t46 g46; cases t46
                          · have g46 : ¬ (yH16 = 0) := by simpa using g46
                            refine And.intro rfl (Exists.intro (.bool false) (And.intro rfl ?_))
                            refine condT ?_
                            intro t47 g47; obtain rfl : t47 = true := by rw [← g47]; rfl
                            intro t48 g48; obtain rfl : t48 = true := by rw [← g48]; rfl
                            refine And.intro rfl (Exists.intro (.bool true) (And.intro rfl ?_))
                            intro t49 g49; obtain rfl : t49 = true := by rw [← g49]; rfl
                            refine And.intro rfl (Exists.intro (.bool true) (And.intro rfl ?_))
                            refine And.intro rfl (Exists.intro (.bool true) (And.intro rfl ?_))
                            refine And.intro rfl (Exists.intro (.bool true) (And.intro rfl ?_))
                            intro t50 g50; obtain rfl : t50 = false := by rw [← g50]; rfl
                            intro t51 g51; cases t51
                            · have g51 : ¬ ((k : Int) > (m : Int)) := of_decide_eq_false g51
                              exfalso; exact hnone s k (by omega) ⟨by omega, hm2 k (by omega)⟩
                            · have g51 : (k : Int) > (m : Int) := of_decide_eq_true g51
                              refine And.intro rfl (Exists.intro (.bool true) (And.intro rfl ?_))
                              refine And.intro rfl (Exists.intro (.bool true) (And.intro rfl ?_))
                              refine al _ _ ?_
                              refine And.intro rfl (Exists.intro (.bool true) (And.intro rfl ?_))
                              exact And.intro trivial (Exists.intro _ (And.intro rfl rfl))
                          · have g46 : yH16 = 0 := by simpa using g46
                            exfalso; exact hnone p q (by omega) ⟨by omega, by omega⟩
                    · have g22 : (m : Int) > ((g.wn : Int) - (s : Int)) := of_decide_eq_true g22
                      exfalso; omega
                  · have g21 : yH13 ≠ 0 := by simpa using g21
                    exfalso; have := hm2 m (by omega); omega
                · have g19 : xH12 = 2 := by simpa using g19
                  exfalso; have := hk3 (k - 1) (by omega); omega
              · have q17 : ¬ ((k : Int) > 0) := of_decide_eq_false q17
                refine Exists.intro _ (Exists.intro _ (And.intro c1.of (And.intro (show row 13 _ _ = some [.slice g.wa g.wn g.wcap, .slice g.aa g.an g.acap, iv g.r1, iv g.r2, iv g.f1, iv g.f2, iv g.g1, iv g.g2, iv g.full, iv g.base, iv g.kill, iv g.need, iv g.bear] from rfl) ?_)))
                obtain ⟨xH17, yH17, H17, fH17, kH17, ixH17, iyH17⟩ := tells_at (kn := kn) (lo := lo) (H := H11) (a := (s : Int)) (b := (m : Int)) h48 hw ha hwl hal (by omega) (by omega) hok s m (by omega) (by omega) (by omega) (by omega)
                have mH17 := kH17.1
                have hk := hk.trans kH17
                have hw := kH17.sl0 hw
                have ha := kH17.sl0 ha
                have c1 := kH17.cl c1 (by simp)
                refine Exists.intro _ (Exists.intro _ (And.intro (callX_args fH17) ?_))
                refine And.intro rfl (Exists.intro (iv xH17) (And.intro (by kernel_rfl) ?_))
                refine And.intro rfl (Exists.intro (iv yH17) (And.intro (by kernel_rfl) ?_))
                refine And.intro rfl (Exists.intro (iv 0) (And.intro (by kernel_rfl) ?_))
                intro t52 g52; obtain rfl : t52 = false := by rw [← g52]; rfl
                intro t53 g53; cases t53
                · have g53 : ¬ (yH17 ≠ 0) := by simpa using g53
                  refine And.intro rfl (Exists.intro (.bool false) (And.intro rfl ?_))
                  intro t54 g54; cases t54
                  · have g54 : ¬ ((m : Int) > ((g.wn : Int) - (s : Int))) := of_decide_eq_false g54
                    refine And.intro rfl (Exists.intro (.bool false) (And.intro rfl ?_))
                    refine condF ?_
                    refine And.intro (fun q55 => ?_) (fun q55 => ?_)
                    · have q55 : (m : Int) < ((g.wn : Int) - (s : Int)) := of_decide_eq_true q55
                      refine Exists.intro _ (Exists.intro _ (And.intro c1.of (And.intro (show row 13 _ _ = some [.slice g.wa g.wn g.wcap, .slice g.aa g.an g.acap, iv g.r1, iv g.r2, iv g.f1, iv g.f2, iv g.g1, iv g.g2, iv g.full, iv g.base, iv g.kill, iv g.need, iv g.bear] from rfl) ?_)))
                      refine And.intro (show InR ((m : Int) + 1) from ⟨by omega, by omega⟩) ?_
                      obtain ⟨xH18, yH18, H18, fH18, kH18, ixH18, iyH18⟩ := tells_at (kn := kn) (lo := lo) (H := H17) (a := (s : Int)) (b := (m : Int) + 1) h48 hw ha hwl hal (by omega) (by omega) hok s (m + 1) (by omega) (by omega) (by omega) (by omega)
                      have mH18 := kH18.1
                      have hk := hk.trans kH18
                      have hw := kH18.sl0 hw
                      have ha := kH18.sl0 ha
                      have c1 := kH18.cl c1 (by simp)
                      refine Exists.intro _ (Exists.intro _ (And.intro (callX_args fH18) ?_))
                      refine And.intro rfl (Exists.intro (iv xH18) (And.intro (by kernel_rfl) ?_))
                      refine And.intro rfl (Exists.intro (iv yH18) (And.intro (by kernel_rfl) ?_))
                      refine And.intro rfl (Exists.intro (iv 0) (And.intro (by kernel_rfl) ?_))
                      intro t56 g56; obtain rfl : t56 = false := by rw [← g56]; rfl
                      intro t57 g57; cases t57
                      · have g57 : ¬ (yH18 = 0) := by simpa using g57
                        refine And.intro rfl (Exists.intro (.bool false) (And.intro rfl ?_))
                        refine condF ?_
                        refine And.intro rfl (Exists.intro (iv x0) (And.intro (conv_8 x0 hx0 rfl) ?_))
                        refine Exists.intro _ (Exists.intro _ (And.intro c1.of (And.intro (show _ = some (.slice g.wa g.wn g.wcap) from rfl) ?_)))
                        refine And.intro (show InR ((g.wn : Int) + 1) from ⟨by omega, by omega⟩) ?_
                        obtain ⟨p, hp, lp⟩ := mod_nat (x := x0) (n := (g.wn : Int) + 1) (by omega) (by omega)
                        refine And.intro (by omega) (And.intro (by omega) (And.intro ⟨by omega, by omega⟩ (And.intro ⟨by omega, by omega⟩ ?_)))
                        refine And.intro rfl (Exists.intro (iv y0) (And.intro (conv_8 y0 hy0 rfl) ?_))
                        refine Exists.intro _ (Exists.intro _ (And.intro c1.of (And.intro (show _ = some (.slice g.wa g.wn g.wcap) from rfl) ?_)))
                        refine And.intro (show InR ((g.wn : Int) - (x0 % ((g.wn : Int) + 1))) from ⟨by omega, by omega⟩) ?_
                        refine And.intro (show InR (((g.wn : Int) - (x0 % ((g.wn : Int) + 1))) + 1) from ⟨by omega, by omega⟩) ?_
                        obtain ⟨q, hq, lq⟩ := mod_nat (x := y0) (n := ((g.wn : Int) - (x0 % ((g.wn : Int) + 1))) + 1) (by omega) (by omega)
                        refine And.intro (by omega) (And.intro (by omega) (And.intro ⟨by omega, by omega⟩ (And.intro ⟨by omega, by omega⟩ ?_)))
                        refine Exists.intro _ (Exists.intro _ (And.intro c1.of (And.intro (show row 13 _ _ = some [.slice g.wa g.wn g.wcap, .slice g.aa g.an g.acap, iv g.r1, iv g.r2, iv g.f1, iv g.f2, iv g.g1, iv g.g2, iv g.full, iv g.base, iv g.kill, iv g.need, iv g.bear] from rfl) ?_)))
                        obtain ⟨xH19, yH19, H19, fH19, kH19, ixH19, iyH19⟩ := tells_at (kn := kn) (lo := lo) (H := H18) (a := x0 % ((g.wn : Int) + 1)) (b := y0 % (((g.wn : Int) - (x0 % ((g.wn : Int) + 1))) + 1)) h48 hw ha hwl hal (by omega) (by omega) hok p q (by omega) (by omega) (by omega) (by omega)
                        have mH19 := kH19.1
                        have hk := hk.trans kH19
                        have hw := kH19.sl0 hw
                        have ha := kH19.sl0 ha
                        have c1 := kH19.cl c1 (by simp)
                        refine Exists.intro _ (Exists.intro _ (And.intro (callX_args fH19) ?_))
                        refine And.intro rfl (Exists.intro (iv xH19) (And.intro (by kernel_rfl) ?_))
                        refine And.intro rfl (Exists.intro (iv yH19) (And.intro (by kernel_rfl) ?_))
                        refine And.intro rfl (Exists.intro (iv 0) (And.intro (by kernel_rfl) ?_))
                        intro t58 g58; obtain rfl : t58 = true := by rw [← g58]; rfl
                        intro t59 g59; cases t59
                        · have g59 : ¬ (xH19 = 2) := by simpa using g59
                          refine And.intro rfl (Exists.intro (.bool false) (And.intro rfl ?_))
                          refine And.intro rfl (Exists.intro (.bool false) (And.intro rfl ?_))
                          refine condT ?_
                          intro t60 g60; obtain rfl : t60 = true := by rw [← g60]; rfl
                          intro t61 g61; obtain rfl : t61 = true := by rw [← g61]; rfl
                          refine And.intro rfl (Exists.intro (.bool true) (And.intro rfl ?_))
                          intro t62 g62; obtain rfl : t62 = true := by rw [← g62]; rfl
                          refine And.intro rfl (Exists.intro (.bool true) (And.intro rfl ?_))
                          refine And.intro rfl (Exists.intro (.bool true) (And.intro rfl ?_))
                          refine And.intro rfl (Exists.intro (.bool true) (And.intro rfl ?_))
                          intro t63 g63; obtain rfl : t63 = false := by rw [← g63]; rfl
                          intro t64 g64; cases t64
                          · have g64 : ¬ ((k : Int) > (m : Int)) := of_decide_eq_false g64
                            exfalso; exact hnone s k (by omega) ⟨by omega, hm2 k (by omega)⟩
                          · have g64 : (k : Int) > (m : Int) := of_decide_eq_true g64
                            refine And.intro rfl (Exists.intro (.bool true) (And.intro rfl ?_))
                            refine And.intro rfl (Exists.intro (.bool true) (And.intro rfl ?_))
                            refine al _ _ ?_
                            refine And.intro rfl (Exists.intro (.bool true) (And.intro rfl ?_))
                            exact And.intro trivial (Exists.intro _ (And.intro rfl rfl))
                        · have g59 : xH19 = 2 := by simpa using g59
                          refine And.intro rfl (Exists.intro (.bool true) (And.intro rfl ?_))
                          intro t65 g65; cases t65
                          · have g65 : ¬ (yH19 = 0) := by simpa using g65
                            refine And.intro rfl (Exists.intro (.bool false) (And.intro rfl ?_))
                            refine condT ?_
                            intro t66 g66; obtain rfl : t66 = true := by rw [← g66]; rfl
                            intro t67 g67; obtain rfl : t67 = true := by rw [← g67]; rfl
                            refine And.intro rfl (Exists.intro (.bool true) (And.intro rfl ?_))
                            intro t68 g68; obtain rfl : t68 = true := by rw [← g68]; rfl
                            refine And.intro rfl (Exists.intro (.bool true) (And.intro rfl ?_))
                            refine And.intro rfl (Exists.intro (.bool true) (And.intro rfl ?_))
                            refine And.intro rfl (Exists.intro (.bool true) (And.intro rfl ?_))
                            intro t69 g69; obtain rfl : t69 = false := by rw [← g69]; rfl
                            intro t70 g70; cases t70
                            · have g70 : ¬ ((k : Int) > (m : Int)) := of_decide_eq_false g70
                              exfalso; exact hnone s k (by omega) ⟨by omega, hm2 k (by omega)⟩
                            · have g70 : (k : Int) > (m : Int) := of_decide_eq_true g70
                              refine And.intro rfl (Exists.intro (.bool true) (And.intro rfl ?_))
                              refine And.intro rfl (Exists.intro (.bool true) (And.intro rfl ?_))
                              refine al _ _ ?_
                              refine And.intro rfl (Exists.intro (.bool true) (And.intro rfl ?_))
                              exact And.intro trivial (Exists.intro _ (And.intro rfl rfl))
                          · have g65 : yH19 = 0 := by simpa using g65
                            exfalso; exact hnone p q (by omega) ⟨by omega, by omega⟩
                      · have g57 : yH18 = 0 := by simpa using g57
                        exfalso; omega
                    · have q55 : ¬ ((m : Int) < ((g.wn : Int) - (s : Int))) := of_decide_eq_false q55
                      refine And.intro rfl (Exists.intro (iv x0) (And.intro (conv_8 x0 hx0 rfl) ?_))
                      refine Exists.intro _ (Exists.intro _ (And.intro c1.of (And.intro (show _ = some (.slice g.wa g.wn g.wcap) from rfl) ?_)))
                      refine And.intro (show InR ((g.wn : Int) + 1) from ⟨by omega, by omega⟩) ?_
                      obtain ⟨p, hp, lp⟩ := mod_nat (x := x0) (n := (g.wn : Int) + 1) (by omega) (by omega)
                      refine And.intro (by omega) (And.intro (by omega) (And.intro ⟨by omega, by omega⟩ (And.intro ⟨by omega, by omega⟩ ?_)))
                      refine And.intro rfl (Exists.intro (iv y0) (And.intro (conv_8 y0 hy0 rfl) ?_))
                      refine Exists.intro _ (Exists.intro _ (And.intro c1.of (And.intro (show _ = some (.slice g.wa g.wn g.wcap) from rfl) ?_)))
                      refine And.intro (show InR ((g.wn : Int) - (x0 % ((g.wn : Int) + 1))) from ⟨by omega, by omega⟩) ?_
                      refine And.intro (show InR (((g.wn : Int) - (x0 % ((g.wn : Int) + 1))) + 1) from ⟨by omega, by omega⟩) ?_
                      obtain ⟨q, hq, lq⟩ := mod_nat (x := y0) (n := ((g.wn : Int) - (x0 % ((g.wn : Int) + 1))) + 1) (by omega) (by omega)
                      refine And.intro (by omega) (And.intro (by omega) (And.intro ⟨by omega, by omega⟩ (And.intro ⟨by omega, by omega⟩ ?_)))
                      refine Exists.intro _ (Exists.intro _ (And.intro c1.of (And.intro (show row 13 _ _ = some [.slice g.wa g.wn g.wcap, .slice g.aa g.an g.acap, iv g.r1, iv g.r2, iv g.f1, iv g.f2, iv g.g1, iv g.g2, iv g.full, iv g.base, iv g.kill, iv g.need, iv g.bear] from rfl) ?_)))
                      obtain ⟨xH20, yH20, H20, fH20, kH20, ixH20, iyH20⟩ := tells_at (kn := kn) (lo := lo) (H := H17) (a := x0 % ((g.wn : Int) + 1)) (b := y0 % (((g.wn : Int) - (x0 % ((g.wn : Int) + 1))) + 1)) h48 hw ha hwl hal (by omega) (by omega) hok p q (by omega) (by omega) (by omega) (by omega)
                      have mH20 := kH20.1
                      have hk := hk.trans kH20
                      have hw := kH20.sl0 hw
                      have ha := kH20.sl0 ha
                      have c1 := kH20.cl c1 (by simp)
                      refine Exists.intro _ (Exists.intro _ (And.intro (callX_args fH20) ?_))
                      refine And.intro rfl (Exists.intro (iv xH20) (And.intro (by kernel_rfl) ?_))
                      refine And.intro rfl (Exists.intro (iv yH20) (And.intro (by kernel_rfl) ?_))
                      refine And.intro rfl (Exists.intro (iv 0) (And.intro (by kernel_rfl) ?_))
                      intro t71 g71; obtain rfl : t71 = true := by rw [← g71]; rfl
                      intro t72 g72; cases t72
                      · have g72 : ¬ (xH20 = 2) := by simpa using g72
                        refine And.intro rfl (Exists.intro (.bool false) (And.intro rfl ?_))
                        refine And.intro rfl (Exists.intro (.bool false) (And.intro rfl ?_))
                        refine condT ?_
                        intro t73 g73; obtain rfl : t73 = true := by rw [← g73]; rfl
                        intro t74 g74; obtain rfl : t74 = true := by rw [← g74]; rfl
                        refine And.intro rfl (Exists.intro (.bool true) (And.intro rfl ?_))
                        intro t75 g75; obtain rfl : t75 = true := by rw [← g75]; rfl
                        refine And.intro rfl (Exists.intro (.bool true) (And.intro rfl ?_))
                        refine And.intro rfl (Exists.intro (.bool true) (And.intro rfl ?_))
                        refine And.intro rfl (Exists.intro (.bool true) (And.intro rfl ?_))
                        intro t76 g76; obtain rfl : t76 = false := by rw [← g76]; rfl
                        intro t77 g77; cases t77
                        · have g77 : ¬ ((k : Int) > (m : Int)) := of_decide_eq_false g77
                          exfalso; exact hnone s k (by omega) ⟨by omega, hm2 k (by omega)⟩
                        · have g77 : (k : Int) > (m : Int) := of_decide_eq_true g77
                          refine And.intro rfl (Exists.intro (.bool true) (And.intro rfl ?_))
                          refine And.intro rfl (Exists.intro (.bool true) (And.intro rfl ?_))
                          refine al _ _ ?_
                          refine And.intro rfl (Exists.intro (.bool true) (And.intro rfl ?_))
                          exact And.intro trivial (Exists.intro _ (And.intro rfl rfl))
                      · have g72 : xH20 = 2 := by simpa using g72
                        refine And.intro rfl (Exists.intro (.bool true) (And.intro rfl ?_))
                        intro t78 g78; cases t78
                        · have g78 : ¬ (yH20 = 0) := by simpa using g78
                          refine And.intro rfl (Exists.intro (.bool false) (And.intro rfl ?_))
                          refine condT ?_
                          intro t79 g79; obtain rfl : t79 = true := by rw [← g79]; rfl
                          intro t80 g80; obtain rfl : t80 = true := by rw [← g80]; rfl
                          refine And.intro rfl (Exists.intro (.bool true) (And.intro rfl ?_))
                          intro t81 g81; obtain rfl : t81 = true := by rw [← g81]; rfl
                          refine And.intro rfl (Exists.intro (.bool true) (And.intro rfl ?_))
                          refine And.intro rfl (Exists.intro (.bool true) (And.intro rfl ?_))
                          refine And.intro rfl (Exists.intro (.bool true) (And.intro rfl ?_))
                          intro t82 g82; obtain rfl : t82 = false := by rw [← g82]; rfl
                          intro t83 g83; cases t83
                          · have g83 : ¬ ((k : Int) > (m : Int)) := of_decide_eq_false g83
                            exfalso; exact hnone s k (by omega) ⟨by omega, hm2 k (by omega)⟩
                          · have g83 : (k : Int) > (m : Int) := of_decide_eq_true g83
                            refine And.intro rfl (Exists.intro (.bool true) (And.intro rfl ?_))
                            refine And.intro rfl (Exists.intro (.bool true) (And.intro rfl ?_))
                            refine al _ _ ?_
                            refine And.intro rfl (Exists.intro (.bool true) (And.intro rfl ?_))
                            exact And.intro trivial (Exists.intro _ (And.intro rfl rfl))
                        · have g78 : yH20 = 0 := by simpa using g78
                          exfalso; exact hnone p q (by omega) ⟨by omega, by omega⟩
                  · have g54 : (m : Int) > ((g.wn : Int) - (s : Int)) := of_decide_eq_true g54
                    exfalso; omega
                · have g53 : yH17 ≠ 0 := by simpa using g53
                  exfalso; have := hm2 m (by omega); omega
            · have g16 : xH11 ≠ 2 := by simpa using g16
              exfalso; omega
          · have g14 : (s : Int) > (g.wn : Int) := of_decide_eq_true g14
            exfalso; omega
        · have g13 : (s : Int) < 0 := of_decide_eq_true g13
          exfalso; omega
      · refine Exists.intro _ (Exists.intro _ (And.intro (callX_args fH9) ?_))
        refine And.intro rfl (Exists.intro (iv (b1 : Int)) (And.intro (by kernel_rfl) ?_))
        refine And.intro rfl (Exists.intro (iv (b2 : Int)) (And.intro (by kernel_rfl) ?_))
        refine And.intro rfl (Exists.intro (iv 0) (And.intro (by kernel_rfl) ?_))
        intro t84 g84; obtain rfl : t84 = false := by rw [← g84]; rfl
        intro t85 g85; obtain rfl : t85 = false := by rw [← g85]; rfl
        refine And.intro rfl (Exists.intro (.bool false) (And.intro rfl ?_))
        refine condF ?_
        intro t86 g86; obtain rfl : t86 = false := by rw [← g86]; rfl
        refine Exists.intro _ (Exists.intro _ (And.intro c1.of (And.intro (show row 13 _ _ = some [.slice g.wa g.wn g.wcap, .slice g.aa g.an g.acap, iv g.r1, iv g.r2, iv g.f1, iv g.f2, iv g.g1, iv g.g2, iv g.full, iv g.base, iv g.kill, iv g.need, iv g.bear] from rfl) ?_)))
        refine callB (late33_ok hw ha hwl hal (by omega) (by omega)) ?_
        intro tH21 H21 hH21 kH21
        obtain rfl : tH21 = true := by rw [← hH21]; exact hok
        have mH21 := kH21.1
        have hk := hk.trans kH21
        have hw := kH21.sl0 hw
        have ha := kH21.sl0 ha
        have c1 := kH21.cl c1 (by simp)
        refine And.intro rfl (Exists.intro (.bool false) (And.intro rfl ?_))
        refine And.intro rfl (Exists.intro (.bool false) (And.intro rfl ?_))
        intro t87 g87; cases t87
        · have g87 : ¬ ((s : Int) < 0) := of_decide_eq_false g87
          refine And.intro rfl (Exists.intro (.bool false) (And.intro rfl ?_))
          refine Exists.intro _ (Exists.intro _ (And.intro c1.of (And.intro (show _ = some (.slice g.wa g.wn g.wcap) from rfl) ?_)))
          intro t88 g88; cases t88
          · have g88 : ¬ ((s : Int) > (g.wn : Int)) := of_decide_eq_false g88
            refine And.intro rfl (Exists.intro (.bool false) (And.intro rfl ?_))
            refine condF ?_
            refine Exists.intro _ (Exists.intro _ (And.intro c1.of (And.intro (show _ = some (.slice g.wa g.wn g.wcap) from rfl) ?_)))
            refine And.intro (show InR ((g.wn : Int) - (s : Int)) from ⟨by omega, by omega⟩) ?_
            refine condT ?_
            refine Exists.intro _ (Exists.intro _ (And.intro c1.of (And.intro (show row 13 _ _ = some [.slice g.wa g.wn g.wcap, .slice g.aa g.an g.acap, iv g.r1, iv g.r2, iv g.f1, iv g.f2, iv g.g1, iv g.g2, iv g.full, iv g.base, iv g.kill, iv g.need, iv g.bear] from rfl) ?_)))
            obtain ⟨xH22, yH22, H22, fH22, kH22, ixH22, iyH22⟩ := tells_at (kn := kn) (lo := lo) (H := H21) (a := (s : Int)) (b := (k : Int)) h48 hw ha hwl hal (by omega) (by omega) hok s k (by omega) (by omega) (by omega) (by omega)
            have mH22 := kH22.1
            have hk := hk.trans kH22
            have hw := kH22.sl0 hw
            have ha := kH22.sl0 ha
            have c1 := kH22.cl c1 (by simp)
            refine Exists.intro _ (Exists.intro _ (And.intro (callX_args fH22) ?_))
            refine And.intro rfl (Exists.intro (iv xH22) (And.intro (by kernel_rfl) ?_))
            refine And.intro rfl (Exists.intro (iv yH22) (And.intro (by kernel_rfl) ?_))
            refine And.intro rfl (Exists.intro (iv 0) (And.intro (by kernel_rfl) ?_))
            intro t89 g89; obtain rfl : t89 = false := by rw [← g89]; rfl
            intro t90 g90; cases t90
            · have g90 : ¬ (xH22 ≠ 2) := by simpa using g90
              refine And.intro rfl (Exists.intro (.bool false) (And.intro rfl ?_))
              refine condF ?_
              refine And.intro (fun q91 => ?_) (fun q91 => ?_)
              · have q91 : (k : Int) > 0 := of_decide_eq_true q91
                refine Exists.intro _ (Exists.intro _ (And.intro c1.of (And.intro (show row 13 _ _ = some [.slice g.wa g.wn g.wcap, .slice g.aa g.an g.acap, iv g.r1, iv g.r2, iv g.f1, iv g.f2, iv g.g1, iv g.g2, iv g.full, iv g.base, iv g.kill, iv g.need, iv g.bear] from rfl) ?_)))
                refine And.intro (show InR ((k : Int) - 1) from ⟨by omega, by omega⟩) ?_
                obtain ⟨xH23, yH23, H23, fH23, kH23, ixH23, iyH23⟩ := tells_at (kn := kn) (lo := lo) (H := H22) (a := (s : Int)) (b := (k : Int) - 1) h48 hw ha hwl hal (by omega) (by omega) hok s (k - 1) (by omega) (by omega) (by omega) (by omega)
                have mH23 := kH23.1
                have hk := hk.trans kH23
                have hw := kH23.sl0 hw
                have ha := kH23.sl0 ha
                have c1 := kH23.cl c1 (by simp)
                refine Exists.intro _ (Exists.intro _ (And.intro (callX_args fH23) ?_))
                refine And.intro rfl (Exists.intro (iv xH23) (And.intro (by kernel_rfl) ?_))
                refine And.intro rfl (Exists.intro (iv yH23) (And.intro (by kernel_rfl) ?_))
                refine And.intro rfl (Exists.intro (iv 0) (And.intro (by kernel_rfl) ?_))
                intro t92 g92; obtain rfl : t92 = false := by rw [← g92]; rfl
                intro t93 g93; cases t93
                · have g93 : ¬ (xH23 = 2) := by simpa using g93
                  refine And.intro rfl (Exists.intro (.bool false) (And.intro rfl ?_))
                  refine condF ?_
                  refine Exists.intro _ (Exists.intro _ (And.intro c1.of (And.intro (show row 13 _ _ = some [.slice g.wa g.wn g.wcap, .slice g.aa g.an g.acap, iv g.r1, iv g.r2, iv g.f1, iv g.f2, iv g.g1, iv g.g2, iv g.full, iv g.base, iv g.kill, iv g.need, iv g.bear] from rfl) ?_)))
                  obtain ⟨xH24, yH24, H24, fH24, kH24, ixH24, iyH24⟩ := tells_at (kn := kn) (lo := lo) (H := H23) (a := (s : Int)) (b := (m : Int)) h48 hw ha hwl hal (by omega) (by omega) hok s m (by omega) (by omega) (by omega) (by omega)
                  have mH24 := kH24.1
                  have hk := hk.trans kH24
                  have hw := kH24.sl0 hw
                  have ha := kH24.sl0 ha
                  have c1 := kH24.cl c1 (by simp)
                  refine Exists.intro _ (Exists.intro _ (And.intro (callX_args fH24) ?_))
                  refine And.intro rfl (Exists.intro (iv xH24) (And.intro (by kernel_rfl) ?_))
                  refine And.intro rfl (Exists.intro (iv yH24) (And.intro (by kernel_rfl) ?_))
                  refine And.intro rfl (Exists.intro (iv 0) (And.intro (by kernel_rfl) ?_))
                  intro t94 g94; obtain rfl : t94 = false := by rw [← g94]; rfl
                  intro t95 g95; cases t95
                  · have g95 : ¬ (yH24 ≠ 0) := by simpa using g95
                    refine And.intro rfl (Exists.intro (.bool false) (And.intro rfl ?_))
                    intro t96 g96; cases t96
                    · have g96 : ¬ ((m : Int) > ((g.wn : Int) - (s : Int))) := of_decide_eq_false g96
                      refine And.intro rfl (Exists.intro (.bool false) (And.intro rfl ?_))
                      refine condF ?_
                      refine And.intro (fun q97 => ?_) (fun q97 => ?_)
                      · have q97 : (m : Int) < ((g.wn : Int) - (s : Int)) := of_decide_eq_true q97
                        refine Exists.intro _ (Exists.intro _ (And.intro c1.of (And.intro (show row 13 _ _ = some [.slice g.wa g.wn g.wcap, .slice g.aa g.an g.acap, iv g.r1, iv g.r2, iv g.f1, iv g.f2, iv g.g1, iv g.g2, iv g.full, iv g.base, iv g.kill, iv g.need, iv g.bear] from rfl) ?_)))
                        refine And.intro (show InR ((m : Int) + 1) from ⟨by omega, by omega⟩) ?_
                        obtain ⟨xH25, yH25, H25, fH25, kH25, ixH25, iyH25⟩ := tells_at (kn := kn) (lo := lo) (H := H24) (a := (s : Int)) (b := (m : Int) + 1) h48 hw ha hwl hal (by omega) (by omega) hok s (m + 1) (by omega) (by omega) (by omega) (by omega)
                        have mH25 := kH25.1
                        have hk := hk.trans kH25
                        have hw := kH25.sl0 hw
                        have ha := kH25.sl0 ha
                        have c1 := kH25.cl c1 (by simp)
                        refine Exists.intro _ (Exists.intro _ (And.intro (callX_args fH25) ?_))
                        refine And.intro rfl (Exists.intro (iv xH25) (And.intro (by kernel_rfl) ?_))
                        refine And.intro rfl (Exists.intro (iv yH25) (And.intro (by kernel_rfl) ?_))
                        refine And.intro rfl (Exists.intro (iv 0) (And.intro (by kernel_rfl) ?_))
                        intro t98 g98; obtain rfl : t98 = false := by rw [← g98]; rfl
                        intro t99 g99; cases t99
                        · have g99 : ¬ (yH25 = 0) := by simpa using g99
                          refine And.intro rfl (Exists.intro (.bool false) (And.intro rfl ?_))
                          refine condF ?_
                          refine And.intro rfl (Exists.intro (iv x0) (And.intro (conv_8 x0 hx0 rfl) ?_))
                          refine Exists.intro _ (Exists.intro _ (And.intro c1.of (And.intro (show _ = some (.slice g.wa g.wn g.wcap) from rfl) ?_)))
                          refine And.intro (show InR ((g.wn : Int) + 1) from ⟨by omega, by omega⟩) ?_
                          obtain ⟨p, hp, lp⟩ := mod_nat (x := x0) (n := (g.wn : Int) + 1) (by omega) (by omega)
                          refine And.intro (by omega) (And.intro (by omega) (And.intro ⟨by omega, by omega⟩ (And.intro ⟨by omega, by omega⟩ ?_)))
                          refine And.intro rfl (Exists.intro (iv y0) (And.intro (conv_8 y0 hy0 rfl) ?_))
                          refine Exists.intro _ (Exists.intro _ (And.intro c1.of (And.intro (show _ = some (.slice g.wa g.wn g.wcap) from rfl) ?_)))
                          refine And.intro (show InR ((g.wn : Int) - (x0 % ((g.wn : Int) + 1))) from ⟨by omega, by omega⟩) ?_
                          refine And.intro (show InR (((g.wn : Int) - (x0 % ((g.wn : Int) + 1))) + 1) from ⟨by omega, by omega⟩) ?_
                          obtain ⟨q, hq, lq⟩ := mod_nat (x := y0) (n := ((g.wn : Int) - (x0 % ((g.wn : Int) + 1))) + 1) (by omega) (by omega)
                          refine And.intro (by omega) (And.intro (by omega) (And.intro ⟨by omega, by omega⟩ (And.intro ⟨by omega, by omega⟩ ?_)))
                          refine Exists.intro _ (Exists.intro _ (And.intro c1.of (And.intro (show row 13 _ _ = some [.slice g.wa g.wn g.wcap, .slice g.aa g.an g.acap, iv g.r1, iv g.r2, iv g.f1, iv g.f2, iv g.g1, iv g.g2, iv g.full, iv g.base, iv g.kill, iv g.need, iv g.bear] from rfl) ?_)))
                          obtain ⟨xH26, yH26, H26, fH26, kH26, ixH26, iyH26⟩ := tells_at (kn := kn) (lo := lo) (H := H25) (a := x0 % ((g.wn : Int) + 1)) (b := y0 % (((g.wn : Int) - (x0 % ((g.wn : Int) + 1))) + 1)) h48 hw ha hwl hal (by omega) (by omega) hok p q (by omega) (by omega) (by omega) (by omega)
                          have mH26 := kH26.1
                          have hk := hk.trans kH26
                          have hw := kH26.sl0 hw
                          have ha := kH26.sl0 ha
                          have c1 := kH26.cl c1 (by simp)
                          refine Exists.intro _ (Exists.intro _ (And.intro (callX_args fH26) ?_))
                          refine And.intro rfl (Exists.intro (iv xH26) (And.intro (by kernel_rfl) ?_))
                          refine And.intro rfl (Exists.intro (iv yH26) (And.intro (by kernel_rfl) ?_))
                          refine And.intro rfl (Exists.intro (iv 0) (And.intro (by kernel_rfl) ?_))
                          intro t100 g100; obtain rfl : t100 = true := by rw [← g100]; rfl
                          intro t101 g101; cases t101
                          · have g101 : ¬ (xH26 = 2) := by simpa using g101
                            refine And.intro rfl (Exists.intro (.bool false) (And.intro rfl ?_))
                            refine And.intro rfl (Exists.intro (.bool false) (And.intro rfl ?_))
                            refine condF ?_
                            refine Exists.intro _ (Exists.intro _ (And.intro c1.of (And.intro (show row 13 _ _ = some [.slice g.wa g.wn g.wcap, .slice g.aa g.an g.acap, iv g.r1, iv g.r2, iv g.f1, iv g.f2, iv g.g1, iv g.g2, iv g.full, iv g.base, iv g.kill, iv g.need, iv g.bear] from rfl) ?_)))
                            obtain ⟨xH27, yH27, H27, fH27, kH27, ixH27, iyH27⟩ := tells_at (kn := kn) (lo := lo) (H := H26) (a := (b1 : Int)) (b := (b2 : Int)) h48 hw ha hwl hal (by omega) (by omega) hok b1 b2 (by omega) (by omega) (by omega) (by omega)
                            have mH27 := kH27.1
                            have hk := hk.trans kH27
                            have hw := kH27.sl0 hw
                            have ha := kH27.sl0 ha
                            have c1 := kH27.cl c1 (by simp)
                            refine Exists.intro _ (Exists.intro _ (And.intro (callX_args fH27) ?_))
                            refine And.intro rfl (Exists.intro (iv xH27) (And.intro (by kernel_rfl) ?_))
                            refine And.intro rfl (Exists.intro (iv yH27) (And.intro (by kernel_rfl) ?_))
                            refine And.intro rfl (Exists.intro (iv 0) (And.intro (by kernel_rfl) ?_))
                            intro t102 g102; obtain rfl : t102 = false := by rw [← g102]; rfl
                            intro t103 g103; cases t103
                            · have g103 : ¬ (xH27 ≠ 2) := by simpa using g103
                              refine And.intro rfl (Exists.intro (.bool false) (And.intro rfl ?_))
                              intro t104 g104; cases t104
                              · have g104 : ¬ (yH27 ≠ 0) := by simpa using g104
                                refine And.intro rfl (Exists.intro (.bool false) (And.intro rfl ?_))
                                refine condF ?_
                                refine And.intro rfl (Exists.intro (.bool true) (And.intro rfl ?_))
                                refine And.intro rfl (Exists.intro (.bool true) (And.intro rfl ?_))
                                refine And.intro rfl (Exists.intro (.bool true) (And.intro rfl ?_))
                                refine al _ _ ?_
                                refine And.intro rfl (Exists.intro (.bool true) (And.intro rfl ?_))
                                exact And.intro trivial (Exists.intro _ (And.intro rfl rfl))
                              · have g104 : yH27 ≠ 0 := by simpa using g104
                                exfalso; have := hb2.2; omega
                            · have g103 : xH27 ≠ 2 := by simpa using g103
                              exfalso; have := hb2.1; omega
                          · have g101 : xH26 = 2 := by simpa using g101
                            refine And.intro rfl (Exists.intro (.bool true) (And.intro rfl ?_))
                            intro t105 g105; cases t105
                            · have g105 : ¬ (yH26 = 0) := by simpa using g105
                              refine And.intro rfl (Exists.intro (.bool false) (And.intro rfl ?_))
                              refine condF ?_
                              refine Exists.intro _ (Exists.intro _ (And.intro c1.of (And.intro (show row 13 _ _ = some [.slice g.wa g.wn g.wcap, .slice g.aa g.an g.acap, iv g.r1, iv g.r2, iv g.f1, iv g.f2, iv g.g1, iv g.g2, iv g.full, iv g.base, iv g.kill, iv g.need, iv g.bear] from rfl) ?_)))
                              obtain ⟨xH28, yH28, H28, fH28, kH28, ixH28, iyH28⟩ := tells_at (kn := kn) (lo := lo) (H := H26) (a := (b1 : Int)) (b := (b2 : Int)) h48 hw ha hwl hal (by omega) (by omega) hok b1 b2 (by omega) (by omega) (by omega) (by omega)
                              have mH28 := kH28.1
                              have hk := hk.trans kH28
                              have hw := kH28.sl0 hw
                              have ha := kH28.sl0 ha
                              have c1 := kH28.cl c1 (by simp)
                              refine Exists.intro _ (Exists.intro _ (And.intro (callX_args fH28) ?_))
                              refine And.intro rfl (Exists.intro (iv xH28) (And.intro (by kernel_rfl) ?_))
                              refine And.intro rfl (Exists.intro (iv yH28) (And.intro (by kernel_rfl) ?_))
                              refine And.intro rfl (Exists.intro (iv 0) (And.intro (by kernel_rfl) ?_))
                              intro t106 g106; obtain rfl : t106 = false := by rw [← g106]; rfl
                              intro t107 g107; cases t107
                              · have g107 : ¬ (xH28 ≠ 2) := by simpa using g107
                                refine And.intro rfl (Exists.intro (.bool false) (And.intro rfl ?_))
                                intro t108 g108; cases t108
                                · have g108 : ¬ (yH28 ≠ 0) := by simpa using g108
                                  refine And.intro rfl (Exists.intro (.bool false) (And.intro rfl ?_))
                                  refine condF ?_
                                  refine And.intro rfl (Exists.intro (.bool true) (And.intro rfl ?_))
                                  refine And.intro rfl (Exists.intro (.bool true) (And.intro rfl ?_))
                                  refine And.intro rfl (Exists.intro (.bool true) (And.intro rfl ?_))
                                  refine al _ _ ?_
                                  refine And.intro rfl (Exists.intro (.bool true) (And.intro rfl ?_))
                                  exact And.intro trivial (Exists.intro _ (And.intro rfl rfl))
                                · have g108 : yH28 ≠ 0 := by simpa using g108
                                  exfalso; have := hb2.2; omega
                              · have g107 : xH28 ≠ 2 := by simpa using g107
                                exfalso; have := hb2.1; omega
                            · have g105 : yH26 = 0 := by simpa using g105
                              have hfb := hbest p q (by omega) ⟨by omega, by omega⟩
                              refine And.intro rfl (Exists.intro (.bool true) (And.intro rfl ?_))
                              refine condF ?_
                              refine Exists.intro _ (Exists.intro _ (And.intro c1.of (And.intro (show row 13 _ _ = some [.slice g.wa g.wn g.wcap, .slice g.aa g.an g.acap, iv g.r1, iv g.r2, iv g.f1, iv g.f2, iv g.g1, iv g.g2, iv g.full, iv g.base, iv g.kill, iv g.need, iv g.bear] from rfl) ?_)))
                              obtain ⟨xH29, yH29, H29, fH29, kH29, ixH29, iyH29⟩ := tells_at (kn := kn) (lo := lo) (H := H26) (a := (b1 : Int)) (b := (b2 : Int)) h48 hw ha hwl hal (by omega) (by omega) hok b1 b2 (by omega) (by omega) (by omega) (by omega)
                              have mH29 := kH29.1
                              have hk := hk.trans kH29
                              have hw := kH29.sl0 hw
                              have ha := kH29.sl0 ha
                              have c1 := kH29.cl c1 (by simp)
                              refine Exists.intro _ (Exists.intro _ (And.intro (callX_args fH29) ?_))
                              refine And.intro rfl (Exists.intro (iv xH29) (And.intro (by kernel_rfl) ?_))
                              refine And.intro rfl (Exists.intro (iv yH29) (And.intro (by kernel_rfl) ?_))
                              refine And.intro rfl (Exists.intro (iv 0) (And.intro (by kernel_rfl) ?_))
                              intro t109 g109; obtain rfl : t109 = false := by rw [← g109]; rfl
                              intro t110 g110; cases t110
                              · have g110 : ¬ (xH29 ≠ 2) := by simpa using g110
                                refine And.intro rfl (Exists.intro (.bool false) (And.intro rfl ?_))
                                intro t111 g111; cases t111
                                · have g111 : ¬ (yH29 ≠ 0) := by simpa using g111
                                  refine And.intro rfl (Exists.intro (.bool false) (And.intro rfl ?_))
                                  refine condF ?_
                                  refine And.intro rfl (Exists.intro (.bool false) (And.intro rfl ?_))
                                  intro t112 g112; cases t112
                                  · have g112 : ¬ ((y0 % (((g.wn : Int) - (x0 % ((g.wn : Int) + 1))) + 1)) > (b2 : Int)) := of_decide_eq_false g112
                                    refine And.intro rfl (Exists.intro (.bool false) (And.intro rfl ?_))
                                    intro t113 g113; cases t113
                                    · have g113 : ¬ ((y0 % (((g.wn : Int) - (x0 % ((g.wn : Int) + 1))) + 1)) = (b2 : Int)) := by simpa using g113
                                      exfalso; omega
                                    · have g113 : (y0 % (((g.wn : Int) - (x0 % ((g.wn : Int) + 1))) + 1)) = (b2 : Int) := by simpa using g113
                                      intro t114 g114; cases t114
                                      · have g114 : ¬ ((x0 % ((g.wn : Int) + 1)) ≥ (b1 : Int)) := of_decide_eq_false g114
                                        exfalso; omega
                                      · have g114 : (x0 % ((g.wn : Int) + 1)) ≥ (b1 : Int) := of_decide_eq_true g114
                                        refine And.intro rfl (Exists.intro (.bool true) (And.intro rfl ?_))
                                        refine And.intro rfl (Exists.intro (.bool true) (And.intro rfl ?_))
                                        refine al _ _ ?_
                                        refine And.intro rfl (Exists.intro (.bool true) (And.intro rfl ?_))
                                        exact And.intro trivial (Exists.intro _ (And.intro rfl rfl))
                                  · have g112 : (y0 % (((g.wn : Int) - (x0 % ((g.wn : Int) + 1))) + 1)) > (b2 : Int) := of_decide_eq_true g112
                                    refine And.intro rfl (Exists.intro (.bool true) (And.intro rfl ?_))
                                    refine And.intro rfl (Exists.intro (.bool true) (And.intro rfl ?_))
                                    refine al _ _ ?_
                                    refine And.intro rfl (Exists.intro (.bool true) (And.intro rfl ?_))
                                    exact And.intro trivial (Exists.intro _ (And.intro rfl rfl))
                                · have g111 : yH29 ≠ 0 := by simpa using g111
                                  exfalso; have := hb2.2; omega
                              · have g110 : xH29 ≠ 2 := by simpa using g110
                                exfalso; have := hb2.1; omega
                        · have g99 : yH25 = 0 := by simpa using g99
                          exfalso; omega
                      · have q97 : ¬ ((m : Int) < ((g.wn : Int) - (s : Int))) := of_decide_eq_false q97
                        refine And.intro rfl (Exists.intro (iv x0) (And.intro (conv_8 x0 hx0 rfl) ?_))
                        refine Exists.intro _ (Exists.intro _ (And.intro c1.of (And.intro (show _ = some (.slice g.wa g.wn g.wcap) from rfl) ?_)))
                        refine And.intro (show InR ((g.wn : Int) + 1) from ⟨by omega, by omega⟩) ?_
                        obtain ⟨p, hp, lp⟩ := mod_nat (x := x0) (n := (g.wn : Int) + 1) (by omega) (by omega)
                        refine And.intro (by omega) (And.intro (by omega) (And.intro ⟨by omega, by omega⟩ (And.intro ⟨by omega, by omega⟩ ?_)))
                        refine And.intro rfl (Exists.intro (iv y0) (And.intro (conv_8 y0 hy0 rfl) ?_))
                        refine Exists.intro _ (Exists.intro _ (And.intro c1.of (And.intro (show _ = some (.slice g.wa g.wn g.wcap) from rfl) ?_)))
                        refine And.intro (show InR ((g.wn : Int) - (x0 % ((g.wn : Int) + 1))) from ⟨by omega, by omega⟩) ?_
                        refine And.intro (show InR (((g.wn : Int) - (x0 % ((g.wn : Int) + 1))) + 1) from ⟨by omega, by omega⟩) ?_
                        obtain ⟨q, hq, lq⟩ := mod_nat (x := y0) (n := ((g.wn : Int) - (x0 % ((g.wn : Int) + 1))) + 1) (by omega) (by omega)
                        refine And.intro (by omega) (And.intro (by omega) (And.intro ⟨by omega, by omega⟩ (And.intro ⟨by omega, by omega⟩ ?_)))
                        refine Exists.intro _ (Exists.intro _ (And.intro c1.of (And.intro (show row 13 _ _ = some [.slice g.wa g.wn g.wcap, .slice g.aa g.an g.acap, iv g.r1, iv g.r2, iv g.f1, iv g.f2, iv g.g1, iv g.g2, iv g.full, iv g.base, iv g.kill, iv g.need, iv g.bear] from rfl) ?_)))
                        obtain ⟨xH30, yH30, H30, fH30, kH30, ixH30, iyH30⟩ := tells_at (kn := kn) (lo := lo) (H := H24) (a := x0 % ((g.wn : Int) + 1)) (b := y0 % (((g.wn : Int) - (x0 % ((g.wn : Int) + 1))) + 1)) h48 hw ha hwl hal (by omega) (by omega) hok p q (by omega) (by omega) (by omega) (by omega)
                        have mH30 := kH30.1
                        have hk := hk.trans kH30
                        have hw := kH30.sl0 hw
                        have ha := kH30.sl0 ha
                        have c1 := kH30.cl c1 (by simp)
                        refine Exists.intro _ (Exists.intro _ (And.intro (callX_args fH30) ?_))
                        refine And.intro rfl (Exists.intro (iv xH30) (And.intro (by kernel_rfl) ?_))
                        refine And.intro rfl (Exists.intro (iv yH30) (And.intro (by kernel_rfl) ?_))
                        refine And.intro rfl (Exists.intro (iv 0) (And.intro (by kernel_rfl) ?_))
                        intro t115 g115; obtain rfl : t115 = true := by rw [← g115]; rfl
                        intro t116 g116; cases t116
                        · have g116 : ¬ (xH30 = 2) := by simpa using g116
                          refine And.intro rfl (Exists.intro (.bool false) (And.intro rfl ?_))
                          refine And.intro rfl (Exists.intro (.bool false) (And.intro rfl ?_))
                          refine condF ?_
                          refine Exists.intro _ (Exists.intro _ (And.intro c1.of (And.intro (show row 13 _ _ = some [.slice g.wa g.wn g.wcap, .slice g.aa g.an g.acap, iv g.r1, iv g.r2, iv g.f1, iv g.f2, iv g.g1, iv g.g2, iv g.full, iv g.base, iv g.kill, iv g.need, iv g.bear] from rfl) ?_)))
                          obtain ⟨xH31, yH31, H31, fH31, kH31, ixH31, iyH31⟩ := tells_at (kn := kn) (lo := lo) (H := H30) (a := (b1 : Int)) (b := (b2 : Int)) h48 hw ha hwl hal (by omega) (by omega) hok b1 b2 (by omega) (by omega) (by omega) (by omega)
                          have mH31 := kH31.1
                          have hk := hk.trans kH31
                          have hw := kH31.sl0 hw
                          have ha := kH31.sl0 ha
                          have c1 := kH31.cl c1 (by simp)
                          refine Exists.intro _ (Exists.intro _ (And.intro (callX_args fH31) ?_))
                          refine And.intro rfl (Exists.intro (iv xH31) (And.intro (by kernel_rfl) ?_))
                          refine And.intro rfl (Exists.intro (iv yH31) (And.intro (by kernel_rfl) ?_))
                          refine And.intro rfl (Exists.intro (iv 0) (And.intro (by kernel_rfl) ?_))
                          intro t117 g117; obtain rfl : t117 = false := by rw [← g117]; rfl
                          intro t118 g118; cases t118
                          · have g118 : ¬ (xH31 ≠ 2) := by simpa using g118
                            refine And.intro rfl (Exists.intro (.bool false) (And.intro rfl ?_))
                            intro t119 g119; cases t119
                            · have g119 : ¬ (yH31 ≠ 0) := by simpa using g119
                              refine And.intro rfl (Exists.intro (.bool false) (And.intro rfl ?_))
                              refine condF ?_
                              refine And.intro rfl (Exists.intro (.bool true) (And.intro rfl ?_))
                              refine And.intro rfl (Exists.intro (.bool true) (And.intro rfl ?_))
                              refine And.intro rfl (Exists.intro (.bool true) (And.intro rfl ?_))
                              refine al _ _ ?_
                              refine And.intro rfl (Exists.intro (.bool true) (And.intro rfl ?_))
                              exact And.intro trivial (Exists.intro _ (And.intro rfl rfl))
                            · have g119 : yH31 ≠ 0 := by simpa using g119
                              exfalso; have := hb2.2; omega
                          · have g118 : xH31 ≠ 2 := by simpa using g118
                            exfalso; have := hb2.1; omega
                        · have g116 : xH30 = 2 := by simpa using g116
                          refine And.intro rfl (Exists.intro (.bool true) (And.intro rfl ?_))
                          intro t120 g120; cases t120
                          · have g120 : ¬ (yH30 = 0) := by simpa using g120
                            refine And.intro rfl (Exists.intro (.bool false) (And.intro rfl ?_))
                            refine condF ?_
                            refine Exists.intro _ (Exists.intro _ (And.intro c1.of (And.intro (show row 13 _ _ = some [.slice g.wa g.wn g.wcap, .slice g.aa g.an g.acap, iv g.r1, iv g.r2, iv g.f1, iv g.f2, iv g.g1, iv g.g2, iv g.full, iv g.base, iv g.kill, iv g.need, iv g.bear] from rfl) ?_)))
                            obtain ⟨xH32, yH32, H32, fH32, kH32, ixH32, iyH32⟩ := tells_at (kn := kn) (lo := lo) (H := H30) (a := (b1 : Int)) (b := (b2 : Int)) h48 hw ha hwl hal (by omega) (by omega) hok b1 b2 (by omega) (by omega) (by omega) (by omega)
                            have mH32 := kH32.1
                            have hk := hk.trans kH32
                            have hw := kH32.sl0 hw
                            have ha := kH32.sl0 ha
                            have c1 := kH32.cl c1 (by simp)
                            refine Exists.intro _ (Exists.intro _ (And.intro (callX_args fH32) ?_))
                            refine And.intro rfl (Exists.intro (iv xH32) (And.intro (by kernel_rfl) ?_))
                            refine And.intro rfl (Exists.intro (iv yH32) (And.intro (by kernel_rfl) ?_))
                            refine And.intro rfl (Exists.intro (iv 0) (And.intro (by kernel_rfl) ?_))
                            intro t121 g121; obtain rfl : t121 = false := by rw [← g121]; rfl
                            intro t122 g122; cases t122
                            · have g122 : ¬ (xH32 ≠ 2) := by simpa using g122
                              refine And.intro rfl (Exists.intro (.bool false) (And.intro rfl ?_))
                              intro t123 g123; cases t123
                              · have g123 : ¬ (yH32 ≠ 0) := by simpa using g123
                                refine And.intro rfl (Exists.intro (.bool false) (And.intro rfl ?_))
                                refine condF ?_
                                refine And.intro rfl (Exists.intro (.bool true) (And.intro rfl ?_))
                                refine And.intro rfl (Exists.intro (.bool true) (And.intro rfl ?_))
                                refine And.intro rfl (Exists.intro (.bool true) (And.intro rfl ?_))
                                refine al _ _ ?_
                                refine And.intro rfl (Exists.intro (.bool true) (And.intro rfl ?_))
                                exact And.intro trivial (Exists.intro _ (And.intro rfl rfl))
                              · have g123 : yH32 ≠ 0 := by simpa using g123
                                exfalso; have := hb2.2; omega
                            · have g122 : xH32 ≠ 2 := by simpa using g122
                              exfalso; have := hb2.1; omega
                          · have g120 : yH30 = 0 := by simpa using g120
                            have hfb := hbest p q (by omega) ⟨by omega, by omega⟩
                            refine And.intro rfl (Exists.intro (.bool true) (And.intro rfl ?_))
                            refine condF ?_
                            refine Exists.intro _ (Exists.intro _ (And.intro c1.of (And.intro (show row 13 _ _ = some [.slice g.wa g.wn g.wcap, .slice g.aa g.an g.acap, iv g.r1, iv g.r2, iv g.f1, iv g.f2, iv g.g1, iv g.g2, iv g.full, iv g.base, iv g.kill, iv g.need, iv g.bear] from rfl) ?_)))
                            obtain ⟨xH33, yH33, H33, fH33, kH33, ixH33, iyH33⟩ := tells_at (kn := kn) (lo := lo) (H := H30) (a := (b1 : Int)) (b := (b2 : Int)) h48 hw ha hwl hal (by omega) (by omega) hok b1 b2 (by omega) (by omega) (by omega) (by omega)
                            have mH33 := kH33.1
                            have hk := hk.trans kH33
                            have hw := kH33.sl0 hw
                            have ha := kH33.sl0 ha
                            have c1 := kH33.cl c1 (by simp)
                            refine Exists.intro _ (Exists.intro _ (And.intro (callX_args fH33) ?_))
                            refine And.intro rfl (Exists.intro (iv xH33) (And.intro (by kernel_rfl) ?_))
                            refine And.intro rfl (Exists.intro (iv yH33) (And.intro (by kernel_rfl) ?_))
                            refine And.intro rfl (Exists.intro (iv 0) (And.intro (by kernel_rfl) ?_))
                            intro t124 g124; obtain rfl : t124 = false := by rw [← g124]; rfl
                            intro t125 g125; cases t125
                            · have g125 : ¬ (xH33 ≠ 2) := by simpa using g125
                              refine And.intro rfl (Exists.intro (.bool false) (And.intro rfl ?_))
                              intro t126 g126; cases t126
                              · have g126 : ¬ (yH33 ≠ 0) := by simpa using g126
                                refine And.intro rfl (Exists.intro (.bool false) (And.intro rfl ?_))
                                refine condF ?_
                                refine And.intro rfl (Exists.intro (.bool false) (And.intro rfl ?_))
                                intro t127 g127; cases t127
                                · have g127 : ¬ ((y0 % (((g.wn : Int) - (x0 % ((g.wn : Int) + 1))) + 1)) > (b2 : Int)) := of_decide_eq_false g127
                                  refine And.intro rfl (Exists.intro (.bool false) (And.intro rfl ?_))
                                  intro t128 g128; cases t128
                                  · have g128 : ¬ ((y0 % (((g.wn : Int) - (x0 % ((g.wn : Int) + 1))) + 1)) = (b2 : Int)) := by simpa using g128
                                    exfalso; omega
                                  · have g128 : (y0 % (((g.wn : Int) - (x0 % ((g.wn : Int) + 1))) + 1)) = (b2 : Int) := by simpa using g128
                                    intro t129 g129; cases t129
                                    · have g129 : ¬ ((x0 % ((g.wn : Int) + 1)) ≥ (b1 : Int)) := of_decide_eq_false g129
                                      exfalso; omega
                                    · have g129 : (x0 % ((g.wn : Int) + 1)) ≥ (b1 : Int) := of_decide_eq_true g129
                                      refine And.intro rfl (Exists.intro (.bool true) (And.intro rfl ?_))
                                      refine And.intro rfl (Exists.intro (.bool true) (And.intro rfl ?_))
                                      refine al _ _ ?_
                                      refine And.intro rfl (Exists.intro (.bool true) (And.intro rfl ?_))
                                      exact And.intro trivial (Exists.intro _ (And.intro rfl rfl))
                                · have g127 : (y0 % (((g.wn : Int) - (x0 % ((g.wn : Int) + 1))) + 1)) > (b2 : Int) := of_decide_eq_true g127
                                  refine And.intro rfl (Exists.intro (.bool true) (And.intro rfl ?_))
                                  refine And.intro rfl (Exists.intro (.bool true) (And.intro rfl ?_))
                                  refine al _ _ ?_
                                  refine And.intro rfl (Exists.intro (.bool true) (And.intro rfl ?_))
                                  exact And.intro trivial (Exists.intro _ (And.intro rfl rfl))
                              · have g126 : yH33 ≠ 0 := by simpa using g126
                                exfalso; have := hb2.2; omega
                            · have g125 : xH33 ≠ 2 := by simpa using g125
                              exfalso; have := hb2.1; omega
                    · have g96 : (m : Int) > ((g.wn : Int) - (s : Int)) := of_decide_eq_true g96
                      exfalso; omega
                  · have g95 : yH24 ≠ 0 := by simpa using g95
                    exfalso; have := hm2 m (by omega); omega
                · have g93 : xH23 = 2 := by simpa using g93
                  exfalso; have := hk3 (k - 1) (by omega); omega
              · have q91 : ¬ ((k : Int) > 0) := of_decide_eq_false q91
                refine Exists.intro _ (Exists.intro _ (And.intro c1.of (And.intro (show row 13 _ _ = some [.slice g.wa g.wn g.wcap, .slice g.aa g.an g.acap, iv g.r1, iv g.r2, iv g.f1, iv g.f2, iv g.g1, iv g.g2, iv g.full, iv g.base, iv g.kill, iv g.need, iv g.bear] from rfl) ?_)))
                obtain ⟨xH34, yH34, H34, fH34, kH34, ixH34, iyH34⟩ := tells_at (kn := kn) (lo := lo) (H := H22) (a := (s : Int)) (b := (m : Int)) h48 hw ha hwl hal (by omega) (by omega) hok s m (by omega) (by omega) (by omega) (by omega)
                have mH34 := kH34.1
                have hk := hk.trans kH34
                have hw := kH34.sl0 hw
                have ha := kH34.sl0 ha
                have c1 := kH34.cl c1 (by simp)
                refine Exists.intro _ (Exists.intro _ (And.intro (callX_args fH34) ?_))
                refine And.intro rfl (Exists.intro (iv xH34) (And.intro (by kernel_rfl) ?_))
                refine And.intro rfl (Exists.intro (iv yH34) (And.intro (by kernel_rfl) ?_))
                refine And.intro rfl (Exists.intro (iv 0) (And.intro (by kernel_rfl) ?_))
                intro t130 g130; obtain rfl : t130 = false := by rw [← g130]; rfl
                intro t131 g131; cases t131
                · have g131 : ¬ (yH34 ≠ 0) := by simpa using g131
                  refine And.intro rfl (Exists.intro (.bool false) (And.intro rfl ?_))
                  intro t132 g132; cases t132
                  · have g132 : ¬ ((m : Int) > ((g.wn : Int) - (s : Int))) := of_decide_eq_false g132
                    refine And.intro rfl (Exists.intro (.bool false) (And.intro rfl ?_))
                    refine condF ?_
                    refine And.intro (fun q133 => ?_) (fun q133 => ?_)
                    · have q133 : (m : Int) < ((g.wn : Int) - (s : Int)) := of_decide_eq_true q133
                      refine Exists.intro _ (Exists.intro _ (And.intro c1.of (And.intro (show row 13 _ _ = some [.slice g.wa g.wn g.wcap, .slice g.aa g.an g.acap, iv g.r1, iv g.r2, iv g.f1, iv g.f2, iv g.g1, iv g.g2, iv g.full, iv g.base, iv g.kill, iv g.need, iv g.bear] from rfl) ?_)))
                      refine And.intro (show InR ((m : Int) + 1) from ⟨by omega, by omega⟩) ?_
                      obtain ⟨xH35, yH35, H35, fH35, kH35, ixH35, iyH35⟩ := tells_at (kn := kn) (lo := lo) (H := H34) (a := (s : Int)) (b := (m : Int) + 1) h48 hw ha hwl hal (by omega) (by omega) hok s (m + 1) (by omega) (by omega) (by omega) (by omega)
                      have mH35 := kH35.1
                      have hk := hk.trans kH35
                      have hw := kH35.sl0 hw
                      have ha := kH35.sl0 ha
                      have c1 := kH35.cl c1 (by simp)
                      refine Exists.intro _ (Exists.intro _ (And.intro (callX_args fH35) ?_))
                      refine And.intro rfl (Exists.intro (iv xH35) (And.intro (by kernel_rfl) ?_))
                      refine And.intro rfl (Exists.intro (iv yH35) (And.intro (by kernel_rfl) ?_))
                      refine And.intro rfl (Exists.intro (iv 0) (And.intro (by kernel_rfl) ?_))
                      intro t134 g134; obtain rfl : t134 = false := by rw [← g134]; rfl
                      intro t135 g135; cases t135
                      · have g135 : ¬ (yH35 = 0) := by simpa using g135
                        refine And.intro rfl (Exists.intro (.bool false) (And.intro rfl ?_))
                        refine condF ?_
                        refine And.intro rfl (Exists.intro (iv x0) (And.intro (conv_8 x0 hx0 rfl) ?_))
                        refine Exists.intro _ (Exists.intro _ (And.intro c1.of (And.intro (show _ = some (.slice g.wa g.wn g.wcap) from rfl) ?_)))
                        refine And.intro (show InR ((g.wn : Int) + 1) from ⟨by omega, by omega⟩) ?_
                        obtain ⟨p, hp, lp⟩ := mod_nat (x := x0) (n := (g.wn : Int) + 1) (by omega) (by omega)
                        refine And.intro (by omega) (And.intro (by omega) (And.intro ⟨by omega, by omega⟩ (And.intro ⟨by omega, by omega⟩ ?_)))
                        refine And.intro rfl (Exists.intro (iv y0) (And.intro (conv_8 y0 hy0 rfl) ?_))
                        refine Exists.intro _ (Exists.intro _ (And.intro c1.of (And.intro (show _ = some (.slice g.wa g.wn g.wcap) from rfl) ?_)))
                        refine And.intro (show InR ((g.wn : Int) - (x0 % ((g.wn : Int) + 1))) from ⟨by omega, by omega⟩) ?_
                        refine And.intro (show InR (((g.wn : Int) - (x0 % ((g.wn : Int) + 1))) + 1) from ⟨by omega, by omega⟩) ?_
                        obtain ⟨q, hq, lq⟩ := mod_nat (x := y0) (n := ((g.wn : Int) - (x0 % ((g.wn : Int) + 1))) + 1) (by omega) (by omega)
                        refine And.intro (by omega) (And.intro (by omega) (And.intro ⟨by omega, by omega⟩ (And.intro ⟨by omega, by omega⟩ ?_)))
                        refine Exists.intro _ (Exists.intro _ (And.intro c1.of (And.intro (show row 13 _ _ = some [.slice g.wa g.wn g.wcap, .slice g.aa g.an g.acap, iv g.r1, iv g.r2, iv g.f1, iv g.f2, iv g.g1, iv g.g2, iv g.full, iv g.base, iv g.kill, iv g.need, iv g.bear] from rfl) ?_)))
                        obtain ⟨xH36, yH36, H36, fH36, kH36, ixH36, iyH36⟩ := tells_at (kn := kn) (lo := lo) (H := H35) (a := x0 % ((g.wn : Int) + 1)) (b := y0 % (((g.wn : Int) - (x0 % ((g.wn : Int) + 1))) + 1)) h48 hw ha hwl hal (by omega) (by omega) hok p q (by omega) (by omega) (by omega) (by omega)
                        have mH36 := kH36.1
                        have hk := hk.trans kH36
                        have hw := kH36.sl0 hw
                        have ha := kH36.sl0 ha
                        have c1 := kH36.cl c1 (by simp)
                        refine Exists.intro _ (Exists.intro _ (And.intro (callX_args fH36) ?_))
                        refine And.intro rfl (Exists.intro (iv xH36) (And.intro (by kernel_rfl) ?_))
                        refine And.intro rfl (Exists.intro (iv yH36) (And.intro (by kernel_rfl) ?_))
                        refine And.intro rfl (Exists.intro (iv 0) (And.intro (by kernel_rfl) ?_))
                        intro t136 g136; obtain rfl : t136 = true := by rw [← g136]; rfl
                        intro t137 g137; cases t137
                        · have g137 : ¬ (xH36 = 2) := by simpa using g137
                          refine And.intro rfl (Exists.intro (.bool false) (And.intro rfl ?_))
                          refine And.intro rfl (Exists.intro (.bool false) (And.intro rfl ?_))
                          refine condF ?_
                          refine Exists.intro _ (Exists.intro _ (And.intro c1.of (And.intro (show row 13 _ _ = some [.slice g.wa g.wn g.wcap, .slice g.aa g.an g.acap, iv g.r1, iv g.r2, iv g.f1, iv g.f2, iv g.g1, iv g.g2, iv g.full, iv g.base, iv g.kill, iv g.need, iv g.bear] from rfl) ?_)))
                          obtain ⟨xH37, yH37, H37, fH37, kH37, ixH37, iyH37⟩ := tells_at (kn := kn) (lo := lo) (H := H36) (a := (b1 : Int)) (b := (b2 : Int)) h48 hw ha hwl hal (by omega) (by omega) hok b1 b2 (by omega) (by omega) (by omega) (by omega)
                          have mH37 := kH37.1
                          have hk := hk.trans kH37
                          have hw := kH37.sl0 hw
                          have ha := kH37.sl0 ha
                          have c1 := kH37.cl c1 (by simp)
                          refine Exists.intro _ (Exists.intro _ (And.intro (callX_args fH37) ?_))
                          refine And.intro rfl (Exists.intro (iv xH37) (And.intro (by kernel_rfl) ?_))
                          refine And.intro rfl (Exists.intro (iv yH37) (And.intro (by kernel_rfl) ?_))
                          refine And.intro rfl (Exists.intro (iv 0) (And.intro (by kernel_rfl) ?_))
                          intro t138 g138; obtain rfl : t138 = false := by rw [← g138]; rfl
                          intro t139 g139; cases t139
                          · have g139 : ¬ (xH37 ≠ 2) := by simpa using g139
                            refine And.intro rfl (Exists.intro (.bool false) (And.intro rfl ?_))
                            intro t140 g140; cases t140
                            · have g140 : ¬ (yH37 ≠ 0) := by simpa using g140
                              refine And.intro rfl (Exists.intro (.bool false) (And.intro rfl ?_))
                              refine condF ?_
                              refine And.intro rfl (Exists.intro (.bool true) (And.intro rfl ?_))
                              refine And.intro rfl (Exists.intro (.bool true) (And.intro rfl ?_))
                              refine And.intro rfl (Exists.intro (.bool true) (And.intro rfl ?_))
                              refine al _ _ ?_
                              refine And.intro rfl (Exists.intro (.bool true) (And.intro rfl ?_))
                              exact And.intro trivial (Exists.intro _ (And.intro rfl rfl))
                            · have g140 : yH37 ≠ 0 := by simpa using g140
                              exfalso; have := hb2.2; omega
                          · have g139 : xH37 ≠ 2 := by simpa using g139
                            exfalso; have := hb2.1; omega
                        · have g137 : xH36 = 2 := by simpa using g137
                          refine And.intro rfl (Exists.intro (.bool true) (And.intro rfl ?_))
                          intro t141 g141; cases t141
                          · have g141 : ¬ (yH36 = 0) := by simpa using g141
                            refine And.intro rfl (Exists.intro (.bool false) (And.intro rfl ?_))
                            refine condF ?_
                            refine Exists.intro _ (Exists.intro _ (And.intro c1.of (And.intro (show row 13 _ _ = some [.slice g.wa g.wn g.wcap, .slice g.aa g.an g.acap, iv g.r1, iv g.r2, iv g.f1, iv g.f2, iv g.g1, iv g.g2, iv g.full, iv g.base, iv g.kill, iv g.need, iv g.bear] from rfl) ?_)))
                            obtain ⟨xH38, yH38, H38, fH38, kH38, ixH38, iyH38⟩ := tells_at (kn := kn) (lo := lo) (H := H36) (a := (b1 : Int)) (b := (b2 : Int)) h48 hw ha hwl hal (by omega) (by omega) hok b1 b2 (by omega) (by omega) (by omega) (by omega)
                            have mH38 := kH38.1
                            have hk := hk.trans kH38
                            have hw := kH38.sl0 hw
                            have ha := kH38.sl0 ha
                            have c1 := kH38.cl c1 (by simp)
                            refine Exists.intro _ (Exists.intro _ (And.intro (callX_args fH38) ?_))
                            refine And.intro rfl (Exists.intro (iv xH38) (And.intro (by kernel_rfl) ?_))
                            refine And.intro rfl (Exists.intro (iv yH38) (And.intro (by kernel_rfl) ?_))
                            refine And.intro rfl (Exists.intro (iv 0) (And.intro (by kernel_rfl) ?_))
                            intro t142 g142; obtain rfl : t142 = false := by rw [← g142]; rfl
                            intro t143 g143; cases t143
                            · have g143 : ¬ (xH38 ≠ 2) := by simpa using g143
                              refine And.intro rfl (Exists.intro (.bool false) (And.intro rfl ?_))
                              intro t144 g144; cases t144
                              · have g144 : ¬ (yH38 ≠ 0) := by simpa using g144
                                refine And.intro rfl (Exists.intro (.bool false) (And.intro rfl ?_))
                                refine condF ?_
                                refine And.intro rfl (Exists.intro (.bool true) (And.intro rfl ?_))
                                refine And.intro rfl (Exists.intro (.bool true) (And.intro rfl ?_))
                                refine And.intro rfl (Exists.intro (.bool true) (And.intro rfl ?_))
                                refine al _ _ ?_
                                refine And.intro rfl (Exists.intro (.bool true) (And.intro rfl ?_))
                                exact And.intro trivial (Exists.intro _ (And.intro rfl rfl))
                              · have g144 : yH38 ≠ 0 := by simpa using g144
                                exfalso; have := hb2.2; omega
                            · have g143 : xH38 ≠ 2 := by simpa using g143
                              exfalso; have := hb2.1; omega
                          · have g141 : yH36 = 0 := by simpa using g141
                            have hfb := hbest p q (by omega) ⟨by omega, by omega⟩
                            refine And.intro rfl (Exists.intro (.bool true) (And.intro rfl ?_))
                            refine condF ?_
                            refine Exists.intro _ (Exists.intro _ (And.intro c1.of (And.intro (show row 13 _ _ = some [.slice g.wa g.wn g.wcap, .slice g.aa g.an g.acap, iv g.r1, iv g.r2, iv g.f1, iv g.f2, iv g.g1, iv g.g2, iv g.full, iv g.base, iv g.kill, iv g.need, iv g.bear] from rfl) ?_)))
                            obtain ⟨xH39, yH39, H39, fH39, kH39, ixH39, iyH39⟩ := tells_at (kn := kn) (lo := lo) (H := H36) (a := (b1 : Int)) (b := (b2 : Int)) h48 hw ha hwl hal (by omega) (by omega) hok b1 b2 (by omega) (by omega) (by omega) (by omega)
                            have mH39 := kH39.1
                            have hk := hk.trans kH39
                            have hw := kH39.sl0 hw
                            have ha := kH39.sl0 ha
                            have c1 := kH39.cl c1 (by simp)
                            refine Exists.intro _ (Exists.intro _ (And.intro (callX_args fH39) ?_))
                            refine And.intro rfl (Exists.intro (iv xH39) (And.intro (by kernel_rfl) ?_))
                            refine And.intro rfl (Exists.intro (iv yH39) (And.intro (by kernel_rfl) ?_))
                            refine And.intro rfl (Exists.intro (iv 0) (And.intro (by kernel_rfl) ?_))
                            intro t145 g145; obtain rfl : t145 = false := by rw [← g145]; rfl
                            intro t146 g146; cases t146
                            · have g146 : ¬ (xH39 ≠ 2) := by simpa using g146
                              refine And.intro rfl (Exists.intro (.bool false) (And.intro rfl ?_))
                              intro t147 g147; cases t147
                              · have g147 : ¬ (yH39 ≠ 0) := by simpa using g147
                                refine And.intro rfl (Exists.intro (.bool false) (And.intro rfl ?_))
                                refine condF ?_
                                refine And.intro rfl (Exists.intro (.bool false) (And.intro rfl ?_))
                                intro t148 g148; cases t148
                                · have g148 : ¬ ((y0 % (((g.wn : Int) - (x0 % ((g.wn : Int) + 1))) + 1)) > (b2 : Int)) := of_decide_eq_false g148
                                  refine And.intro rfl (Exists.intro (.bool false) (And.intro rfl ?_))
                                  intro t149 g149; cases t149
                                  · have g149 : ¬ ((y0 % (((g.wn : Int) - (x0 % ((g.wn : Int) + 1))) + 1)) = (b2 : Int)) := by simpa using g149
                                    exfalso; omega
                                  · have g149 : (y0 % (((g.wn : Int) - (x0 % ((g.wn : Int) + 1))) + 1)) = (b2 : Int) := by simpa using g149
                                    intro t150 g150; cases t150
                                    · have g150 : ¬ ((x0 % ((g.wn : Int) + 1)) ≥ (b1 : Int)) := of_decide_eq_false g150
                                      exfalso; omega
                                    · have g150 : (x0 % ((g.wn : Int) + 1)) ≥ (b1 : Int) := of_decide_eq_true g150
                                      refine And.intro rfl (Exists.intro (.bool true) (And.intro rfl ?_))
                                      refine And.intro rfl (Exists.intro (.bool true) (And.intro rfl ?_))
                                      refine al _ _ ?_
                                      refine And.intro rfl (Exists.intro (.bool true) (And.intro rfl ?_))
                                      exact And.intro trivial (Exists.intro _ (And.intro rfl rfl))
                                · have g148 : (y0 % (((g.wn : Int) - (x0 % ((g.wn : Int) + 1))) + 1)) > (b2 : Int) := of_decide_eq_true g148
                                  refine And.intro rfl (Exists.intro (.bool true) (And.intro rfl ?_))
                                  refine And.intro rfl (Exists.intro (.bool true) (And.intro rfl ?_))
                                  refine al _ _ ?_
                                  refine And.intro rfl (Exists.intro (.bool true) (And.intro rfl ?_))
                                  exact And.intro trivial (Exists.intro _ (And.intro rfl rfl))
                              · have g147 : yH39 ≠ 0 := by simpa using g147
                                exfalso; have := hb2.2; omega
                            · have g146 : xH39 ≠ 2 := by simpa using g146
                              exfalso; have := hb2.1; omega
                      · have g135 : yH35 = 0 := by simpa using g135
                        exfalso; omega
                    · have q133 : ¬ ((m : Int) < ((g.wn : Int) - (s : Int))) := of_decide_eq_false q133
                      refine And.intro rfl (Exists.intro (iv x0) (And.intro (conv_8 x0 hx0 rfl) ?_))
                      refine Exists.intro _ (Exists.intro _ (And.intro c1.of (And.intro (show _ = some (.slice g.wa g.wn g.wcap) from rfl) ?_)))
                      refine And.intro (show InR ((g.wn : Int) + 1) from ⟨by omega, by omega⟩) ?_
                      obtain ⟨p, hp, lp⟩ := mod_nat (x := x0) (n := (g.wn : Int) + 1) (by omega) (by omega)
                      refine And.intro (by omega) (And.intro (by omega) (And.intro ⟨by omega, by omega⟩ (And.intro ⟨by omega, by omega⟩ ?_)))
                      refine And.intro rfl (Exists.intro (iv y0) (And.intro (conv_8 y0 hy0 rfl) ?_))
                      refine Exists.intro _ (Exists.intro _ (And.intro c1.of (And.intro (show _ = some (.slice g.wa g.wn g.wcap) from rfl) ?_)))
                      refine And.intro (show InR ((g.wn : Int) - (x0 % ((g.wn : Int) + 1))) from ⟨by omega, by omega⟩) ?_
                      refine And.intro (show InR (((g.wn : Int) - (x0 % ((g.wn : Int) + 1))) + 1) from ⟨by omega, by omega⟩) ?_
                      obtain ⟨q, hq, lq⟩ := mod_nat (x := y0) (n := ((g.wn : Int) - (x0 % ((g.wn : Int) + 1))) + 1) (by omega) (by omega)
                      refine And.intro (by omega) (And.intro (by omega) (And.intro ⟨by omega, by omega⟩ (And.intro ⟨by omega, by omega⟩ ?_)))
                      refine Exists.intro _ (Exists.intro _ (And.intro c1.of (And.intro (show row 13 _ _ = some [.slice g.wa g.wn g.wcap, .slice g.aa g.an g.acap, iv g.r1, iv g.r2, iv g.f1, iv g.f2, iv g.g1, iv g.g2, iv g.full, iv g.base, iv g.kill, iv g.need, iv g.bear] from rfl) ?_)))
                      obtain ⟨xH40, yH40, H40, fH40, kH40, ixH40, iyH40⟩ := tells_at (kn := kn) (lo := lo) (H := H34) (a := x0 % ((g.wn : Int) + 1)) (b := y0 % (((g.wn : Int) - (x0 % ((g.wn : Int) + 1))) + 1)) h48 hw ha hwl hal (by omega) (by omega) hok p q (by omega) (by omega) (by omega) (by omega)
                      have mH40 := kH40.1
                      have hk := hk.trans kH40
                      have hw := kH40.sl0 hw
                      have ha := kH40.sl0 ha
                      have c1 := kH40.cl c1 (by simp)
                      refine Exists.intro _ (Exists.intro _ (And.intro (callX_args fH40) ?_))
                      refine And.intro rfl (Exists.intro (iv xH40) (And.intro (by kernel_rfl) ?_))
                      refine And.intro rfl (Exists.intro (iv yH40) (And.intro (by kernel_rfl) ?_))
                      refine And.intro rfl (Exists.intro (iv 0) (And.intro (by kernel_rfl) ?_))
                      intro t151 g151; obtain rfl : t151 = true := by rw [← g151]; rfl
                      intro t152 g152; cases t152
                      · have g152 : ¬ (xH40 = 2) := by simpa using g152
                        refine And.intro rfl (Exists.intro (.bool false) (And.intro rfl ?_))
                        refine And.intro rfl (Exists.intro (.bool false) (And.intro rfl ?_))
                        refine condF ?_
                        refine Exists.intro _ (Exists.intro _ (And.intro c1.of (And.intro (show row 13 _ _ = some [.slice g.wa g.wn g.wcap, .slice g.aa g.an g.acap, iv g.r1, iv g.r2, iv g.f1, iv g.f2, iv g.g1, iv g.g2, iv g.full, iv g.base, iv g.kill, iv g.need, iv g.bear] from rfl) ?_)))
                        obtain ⟨xH41, yH41, H41, fH41, kH41, ixH41, iyH41⟩ := tells_at (kn := kn) (lo := lo) (H := H40) (a := (b1 : Int)) (b := (b2 : Int)) h48 hw ha hwl hal (by omega) (by omega) hok b1 b2 (by omega) (by omega) (by omega) (by omega)
                        have mH41 := kH41.1
                        have hk := hk.trans kH41
                        have hw := kH41.sl0 hw
                        have ha := kH41.sl0 ha
                        have c1 := kH41.cl c1 (by simp)
                        refine Exists.intro _ (Exists.intro _ (And.intro (callX_args fH41) ?_))
                        refine And.intro rfl (Exists.intro (iv xH41) (And.intro (by kernel_rfl) ?_))
                        refine And.intro rfl (Exists.intro (iv yH41) (And.intro (by kernel_rfl) ?_))
                        refine And.intro rfl (Exists.intro (iv 0) (And.intro (by kernel_rfl) ?_))
                        intro t153 g153; obtain rfl : t153 = false := by rw [← g153]; rfl
                        intro t154 g154; cases t154
                        · have g154 : ¬ (xH41 ≠ 2) := by simpa using g154
                          refine And.intro rfl (Exists.intro (.bool false) (And.intro rfl ?_))
                          intro t155 g155; cases t155
                          · have g155 : ¬ (yH41 ≠ 0) := by simpa using g155
                            refine And.intro rfl (Exists.intro (.bool false) (And.intro rfl ?_))
                            refine condF ?_
                            refine And.intro rfl (Exists.intro (.bool true) (And.intro rfl ?_))
                            refine And.intro rfl (Exists.intro (.bool true) (And.intro rfl ?_))
                            refine And.intro rfl (Exists.intro (.bool true) (And.intro rfl ?_))
                            refine al _ _ ?_
                            refine And.intro rfl (Exists.intro (.bool true) (And.intro rfl ?_))
                            exact And.intro trivial (Exists.intro _ (And.intro rfl rfl))
                          · have g155 : yH41 ≠ 0 := by simpa using g155
                            exfalso; have := hb2.2; omega
                        · have g154 : xH41 ≠ 2 := by simpa using g154
                          exfalso; have := hb2.1; omega
                      · have g152 : xH40 = 2 := by simpa using g152
                        refine And.intro rfl (Exists.intro (.bool true) (And.intro rfl ?_))
                        intro t156 g156; cases t156
                        · have g156 : ¬ (yH40 = 0) := by simpa using g156
                          refine And.intro rfl (Exists.intro (.bool false) (And.intro rfl ?_))
                          refine condF ?_
                          refine Exists.intro _ (Exists.intro _ (And.intro c1.of (And.intro (show row 13 _ _ = some [.slice g.wa g.wn g.wcap, .slice g.aa g.an g.acap, iv g.r1, iv g.r2, iv g.f1, iv g.f2, iv g.g1, iv g.g2, iv g.full, iv g.base, iv g.kill, iv g.need, iv g.bear] from rfl) ?_)))
                          obtain ⟨xH42, yH42, H42, fH42, kH42, ixH42, iyH42⟩ := tells_at (kn := kn) (lo := lo) (H := H40) (a := (b1 : Int)) (b := (b2 : Int)) h48 hw ha hwl hal (by omega) (by omega) hok b1 b2 (by omega) (by omega) (by omega) (by omega)
                          have mH42 := kH42.1
                          have hk := hk.trans kH42
                          have hw := kH42.sl0 hw
                          have ha := kH42.sl0 ha
                          have c1 := kH42.cl c1 (by simp)
                          refine Exists.intro _ (Exists.intro _ (And.intro (callX_args fH42) ?_))
                          refine And.intro rfl (Exists.intro (iv xH42) (And.intro (by kernel_rfl) ?_))
                          refine And.intro rfl (Exists.intro (iv yH42) (And.intro (by kernel_rfl) ?_))
                          refine And.intro rfl (Exists.intro (iv 0) (And.intro (by kernel_rfl) ?_))
                          intro t157 g157; obtain rfl : t157 = false := by rw [← g157]; rfl
                          intro t158 g158; cases t158
                          · have g158 : ¬ (xH42 ≠ 2) := by simpa using g158
                            refine And.intro rfl (Exists.intro (.bool false) (And.intro rfl ?_))
                            intro t159 g159; cases t159
                            · have g159 : ¬ (yH42 ≠ 0) := by simpa using g159
                              refine And.intro rfl (Exists.intro (.bool false) (And.intro rfl ?_))
                              refine condF ?_
                              refine And.intro rfl (Exists.intro (.bool true) (And.intro rfl ?_))
                              refine And.intro rfl (Exists.intro (.bool true) (And.intro rfl ?_))
                              refine And.intro rfl (Exists.intro (.bool true) (And.intro rfl ?_))
                              refine al _ _ ?_
                              refine And.intro rfl (Exists.intro (.bool true) (And.intro rfl ?_))
                              exact And.intro trivial (Exists.intro _ (And.intro rfl rfl))
                            · have g159 : yH42 ≠ 0 := by simpa using g159
                              exfalso; have := hb2.2; omega
                          · have g158 : xH42 ≠ 2 := by simpa using g158
                            exfalso; have := hb2.1; omega
                        · have g156 : yH40 = 0 := by simpa using g156
                          have hfb := hbest p q (by omega) ⟨by omega, by omega⟩
                          refine And.intro rfl (Exists.intro (.bool true) (And.intro rfl ?_))
                          refine condF ?_
                          refine Exists.intro _ (Exists.intro _ (And.intro c1.of (And.intro (show row 13 _ _ = some [.slice g.wa g.wn g.wcap, .slice g.aa g.an g.acap, iv g.r1, iv g.r2, iv g.f1, iv g.f2, iv g.g1, iv g.g2, iv g.full, iv g.base, iv g.kill, iv g.need, iv g.bear] from rfl) ?_)))
                          obtain ⟨xH43, yH43, H43, fH43, kH43, ixH43, iyH43⟩ := tells_at (kn := kn) (lo := lo) (H := H40) (a := (b1 : Int)) (b := (b2 : Int)) h48 hw ha hwl hal (by omega) (by omega) hok b1 b2 (by omega) (by omega) (by omega) (by omega)
                          have mH43 := kH43.1
                          have hk := hk.trans kH43
                          have hw := kH43.sl0 hw
                          have ha := kH43.sl0 ha
                          have c1 := kH43.cl c1 (by simp)
                          refine Exists.intro _ (Exists.intro _ (And.intro (callX_args fH43) ?_))
                          refine And.intro rfl (Exists.intro (iv xH43) (And.intro (by kernel_rfl) ?_))
                          refine And.intro rfl (Exists.intro (iv yH43) (And.intro (by kernel_rfl) ?_))
                          refine And.intro rfl (Exists.intro (iv 0) (And.intro (by kernel_rfl) ?_))
                          intro t160 g160; obtain rfl : t160 = false := by rw [← g160]; rfl
                          intro t161 g161; cases t161
                          · have g161 : ¬ (xH43 ≠ 2) := by simpa using g161
                            refine And.intro rfl (Exists.intro (.bool false) (And.intro rfl ?_))
                            intro t162 g162; cases t162
                            · have g162 : ¬ (yH43 ≠ 0) := by simpa using g162
                              refine And.intro rfl (Exists.intro (.bool false) (And.intro rfl ?_))
                              refine condF ?_
                              refine And.intro rfl (Exists.intro (.bool false) (And.intro rfl ?_))
                              intro t163 g163; cases t163
                              · have g163 : ¬ ((y0 % (((g.wn : Int) - (x0 % ((g.wn : Int) + 1))) + 1)) > (b2 : Int)) := of_decide_eq_false g163
                                refine And.intro rfl (Exists.intro (.bool false) (And.intro rfl ?_))
                                intro t164 g164; cases t164
                                · have g164 : ¬ ((y0 % (((g.wn : Int) - (x0 % ((g.wn : Int) + 1))) + 1)) = (b2 : Int)) := by simpa using g164
                                  exfalso; omega
                                · have g164 : (y0 % (((g.wn : Int) - (x0 % ((g.wn : Int) + 1))) + 1)) = (b2 : Int) := by simpa using g164
                                  intro t165 g165; cases t165
                                  · have g165 : ¬ ((x0 % ((g.wn : Int) + 1)) ≥ (b1 : Int)) := of_decide_eq_false g165
                                    exfalso; omega
                                  · have g165 : (x0 % ((g.wn : Int) + 1)) ≥ (b1 : Int) := of_decide_eq_true g165
                                    refine And.intro rfl (Exists.intro (.bool true) (And.intro rfl ?_))
                                    refine And.intro rfl (Exists.intro (.bool true) (And.intro rfl ?_))
                                    refine al _ _ ?_
                                    refine And.intro rfl (Exists.intro (.bool true) (And.intro rfl ?_))
                                    exact And.intro trivial (Exists.intro _ (And.intro rfl rfl))
                              · have g163 : (y0 % (((g.wn : Int) - (x0 % ((g.wn : Int) + 1))) + 1)) > (b2 : Int) := of_decide_eq_true g163
                                refine And.intro rfl (Exists.intro (.bool true) (And.intro rfl ?_))
                                refine And.intro rfl (Exists.intro (.bool true) (And.intro rfl ?_))
                                refine al _ _ ?_
                                refine And.intro rfl (Exists.intro (.bool true) (And.intro rfl ?_))
                                exact And.intro trivial (Exists.intro _ (And.intro rfl rfl))
                            · have g162 : yH43 ≠ 0 := by simpa using g162
                              exfalso; have := hb2.2; omega
                          · have g161 : xH43 ≠ 2 := by simpa using g161
                            exfalso; have := hb2.1; omega
                  · have g132 : (m : Int) > ((g.wn : Int) - (s : Int)) := of_decide_eq_true g132
                    exfalso; omega
                · have g131 : yH34 ≠ 0 := by simpa using g131
                  exfalso; have := hm2 m (by omega); omega
            · have g90 : xH22 ≠ 2 := by simpa using g90
              exfalso; omega
          · have g88 : (s : Int) > (g.wn : Int) := of_decide_eq_true g88
            exfalso; omega
        · have g87 : (s : Int) < 0 := of_decide_eq_true g87
          exfalso; omega
    · have v := Lt.vd hok hwl hal
      have hn40 := v.n40; have hwl0 := Lt.wl_in (s := s) v
      refine Exists.intro _ (Exists.intro _ (And.intro (callX_args fH3) ?_))
      refine And.intro rfl (Exists.intro (iv 0) (And.intro (by kernel_rfl) ?_))
      refine And.intro rfl (Exists.intro (iv 4) (And.intro (by kernel_rfl) ?_))
      refine Exists.intro _ (Exists.intro _ (And.intro c1.of (And.intro (show row 13 _ _ = some [.slice g.wa g.wn g.wcap, .slice g.aa g.an g.acap, iv g.r1, iv g.r2, iv g.f1, iv g.f2, iv g.g1, iv g.g2, iv g.full, iv g.base, iv g.kill, iv g.need, iv g.bear] from rfl) ?_)))
      obtain ⟨wH44, H44, fH44, kH44, hc⟩ := bears_ok (kn := kn) (lo := lo) (H := H3) (g := g) (a := (s : Int)) h48 hw ha hwl hal (by omega) (by omega) (by omega)
      have mH44 := kH44.1
      have hk := hk.trans kH44
      have hw := kH44.sl0 hw
      have ha := kH44.sl0 ha
      have c1 := kH44.cl c1 (by simp)
      obtain ⟨m, hm1, hm2, hm3, rfl⟩ : ∃ m : Nat, m ≤ d ∧ (∀ j, j ≤ m → g.sl s (Nat.testBit 0) j ≤ g.bear) ∧ (m = d ∨ g.bear < g.sl s (Nat.testBit 0) (m + 1)) ∧ wH44 = .tuple #[iv (m : Int), iv 0] := by
        rcases hc with ⟨h, e⟩ | ⟨h, h2, e⟩ | ⟨h, s1, d1, m, h1, h2, h3, h4, h5, e⟩
        · rw [hok] at h; cases h
        · simp only [inB, Bool.and_eq_false_iff, decide_eq_false_iff_not] at h2; omega
        · obtain rfl : s = s1 := by omega
          obtain rfl : d = d1 := by omega
          exact ⟨m, h3, h4, h5, e⟩
      refine Exists.intro _ (Exists.intro _ (And.intro (callX_args fH44) ?_))
      refine And.intro rfl (Exists.intro (iv (m : Int)) (And.intro (by kernel_rfl) ?_))
      refine And.intro rfl (Exists.intro (iv 0) (And.intro (by kernel_rfl) ?_))
      refine Exists.intro _ (Exists.intro _ (And.intro c1.of (And.intro (show row 13 _ _ = some [.slice g.wa g.wn g.wcap, .slice g.aa g.an g.acap, iv g.r1, iv g.r2, iv g.f1, iv g.f2, iv g.g1, iv g.g2, iv g.full, iv g.base, iv g.kill, iv g.need, iv g.bear] from rfl) ?_)))
      obtain ⟨wH45, H45, fH45, kH45, hc⟩ := best_ok (kn := kn) (lo := lo) (H := H44) (g := g) h48 hw ha hwl hal (by omega) (by omega) (by omega)
      have mH45 := kH45.1
      have hk := hk.trans kH45
      have hw := kH45.sl0 hw
      have ha := kH45.sl0 ha
      have c1 := kH45.cl c1 (by simp)
      rcases hc with ⟨h, _⟩ | ⟨_, hnone, rfl⟩ | ⟨_, b1, b2, hb1, hb2, hbest, rfl⟩
      · rw [hok] at h; cases h
      · refine Exists.intro _ (Exists.intro _ (And.intro (callX_args fH45) ?_))
        refine And.intro rfl (Exists.intro (iv 0) (And.intro (by kernel_rfl) ?_))
        refine And.intro rfl (Exists.intro (iv 0) (And.intro (by kernel_rfl) ?_))
        refine And.intro rfl (Exists.intro (iv 4) (And.intro (by kernel_rfl) ?_))
        intro t166 g166; obtain rfl : t166 = false := by rw [← g166]; rfl
        intro t167 g167; obtain rfl : t167 = false := by rw [← g167]; rfl
        refine And.intro rfl (Exists.intro (.bool false) (And.intro rfl ?_))
        refine condF ?_
        intro t168 g168; obtain rfl : t168 = false := by rw [← g168]; rfl
        refine Exists.intro _ (Exists.intro _ (And.intro c1.of (And.intro (show row 13 _ _ = some [.slice g.wa g.wn g.wcap, .slice g.aa g.an g.acap, iv g.r1, iv g.r2, iv g.f1, iv g.f2, iv g.g1, iv g.g2, iv g.full, iv g.base, iv g.kill, iv g.need, iv g.bear] from rfl) ?_)))
        refine callB (late33_ok hw ha hwl hal (by omega) (by omega)) ?_
        intro tH46 H46 hH46 kH46
        obtain rfl : tH46 = true := by rw [← hH46]; exact hok
        have mH46 := kH46.1
        have hk := hk.trans kH46
        have hw := kH46.sl0 hw
        have ha := kH46.sl0 ha
        have c1 := kH46.cl c1 (by simp)
        refine And.intro rfl (Exists.intro (.bool false) (And.intro rfl ?_))
        refine And.intro rfl (Exists.intro (.bool false) (And.intro rfl ?_))
        intro t169 g169; cases t169
        · have g169 : ¬ ((s : Int) < 0) := of_decide_eq_false g169
          refine And.intro rfl (Exists.intro (.bool false) (And.intro rfl ?_))
          refine Exists.intro _ (Exists.intro _ (And.intro c1.of (And.intro (show _ = some (.slice g.wa g.wn g.wcap) from rfl) ?_)))
          intro t170 g170; cases t170
          · have g170 : ¬ ((s : Int) > (g.wn : Int)) := of_decide_eq_false g170
            refine And.intro rfl (Exists.intro (.bool false) (And.intro rfl ?_))
            refine condF ?_
            refine Exists.intro _ (Exists.intro _ (And.intro c1.of (And.intro (show _ = some (.slice g.wa g.wn g.wcap) from rfl) ?_)))
            refine And.intro (show InR ((g.wn : Int) - (s : Int)) from ⟨by omega, by omega⟩) ?_
            refine condF ?_
            refine Exists.intro _ (Exists.intro _ (And.intro c1.of (And.intro (show row 13 _ _ = some [.slice g.wa g.wn g.wcap, .slice g.aa g.an g.acap, iv g.r1, iv g.r2, iv g.f1, iv g.f2, iv g.g1, iv g.g2, iv g.full, iv g.base, iv g.kill, iv g.need, iv g.bear] from rfl) ?_)))
            obtain ⟨xH47, yH47, H47, fH47, kH47, ixH47, iyH47⟩ := tells_at (kn := kn) (lo := lo) (H := H46) (a := (s : Int)) (b := (g.wn : Int) - (s : Int)) h48 hw ha hwl hal (by omega) (by omega) hok s d (by omega) (by omega) (by omega) (by omega)
            have mH47 := kH47.1
            have hk := hk.trans kH47
            have hw := kH47.sl0 hw
            have ha := kH47.sl0 ha
            have c1 := kH47.cl c1 (by simp)
            refine Exists.intro _ (Exists.intro _ (And.intro (callX_args fH47) ?_))
            refine And.intro rfl (Exists.intro (iv xH47) (And.intro (by kernel_rfl) ?_))
            refine And.intro rfl (Exists.intro (iv yH47) (And.intro (by kernel_rfl) ?_))
            refine And.intro rfl (Exists.intro (iv 0) (And.intro (by kernel_rfl) ?_))
            intro t171 g171; obtain rfl : t171 = false := by rw [← g171]; rfl
            intro t172 g172; cases t172
            · have g172 : ¬ (xH47 = 2) := by simpa using g172
              refine And.intro rfl (Exists.intro (.bool false) (And.intro rfl ?_))
              refine condF ?_
              refine Exists.intro _ (Exists.intro _ (And.intro c1.of (And.intro (show row 13 _ _ = some [.slice g.wa g.wn g.wcap, .slice g.aa g.an g.acap, iv g.r1, iv g.r2, iv g.f1, iv g.f2, iv g.g1, iv g.g2, iv g.full, iv g.base, iv g.kill, iv g.need, iv g.bear] from rfl) ?_)))
              obtain ⟨xH48, yH48, H48, fH48, kH48, ixH48, iyH48⟩ := tells_at (kn := kn) (lo := lo) (H := H47) (a := (s : Int)) (b := (m : Int)) h48 hw ha hwl hal (by omega) (by omega) hok s m (by omega) (by omega) (by omega) (by omega)
              have mH48 := kH48.1
              have hk := hk.trans kH48
              have hw := kH48.sl0 hw
              have ha := kH48.sl0 ha
              have c1 := kH48.cl c1 (by simp)
              refine Exists.intro _ (Exists.intro _ (And.intro (callX_args fH48) ?_))
              refine And.intro rfl (Exists.intro (iv xH48) (And.intro (by kernel_rfl) ?_))
              refine And.intro rfl (Exists.intro (iv yH48) (And.intro (by kernel_rfl) ?_))
              refine And.intro rfl (Exists.intro (iv 0) (And.intro (by kernel_rfl) ?_))
              intro t173 g173; obtain rfl : t173 = false := by rw [← g173]; rfl
              intro t174 g174; cases t174
              · have g174 : ¬ (yH48 ≠ 0) := by simpa using g174
                refine And.intro rfl (Exists.intro (.bool false) (And.intro rfl ?_))
                intro t175 g175; cases t175
                · have g175 : ¬ ((m : Int) > ((g.wn : Int) - (s : Int))) := of_decide_eq_false g175
                  refine And.intro rfl (Exists.intro (.bool false) (And.intro rfl ?_))
                  refine condF ?_
                  refine And.intro (fun q176 => ?_) (fun q176 => ?_)
                  · have q176 : (m : Int) < ((g.wn : Int) - (s : Int)) := of_decide_eq_true q176
                    refine Exists.intro _ (Exists.intro _ (And.intro c1.of (And.intro (show row 13 _ _ = some [.slice g.wa g.wn g.wcap, .slice g.aa g.an g.acap, iv g.r1, iv g.r2, iv g.f1, iv g.f2, iv g.g1, iv g.g2, iv g.full, iv g.base, iv g.kill, iv g.need, iv g.bear] from rfl) ?_)))
                    refine And.intro (show InR ((m : Int) + 1) from ⟨by omega, by omega⟩) ?_
                    obtain ⟨xH49, yH49, H49, fH49, kH49, ixH49, iyH49⟩ := tells_at (kn := kn) (lo := lo) (H := H48) (a := (s : Int)) (b := (m : Int) + 1) h48 hw ha hwl hal (by omega) (by omega) hok s (m + 1) (by omega) (by omega) (by omega) (by omega)
                    have mH49 := kH49.1
                    have hk := hk.trans kH49
                    have hw := kH49.sl0 hw
                    have ha := kH49.sl0 ha
                    have c1 := kH49.cl c1 (by simp)
                    refine Exists.intro _ (Exists.intro _ (And.intro (callX_args fH49) ?_))
                    refine And.intro rfl (Exists.intro (iv xH49) (And.intro (by kernel_rfl) ?_))
                    refine And.intro rfl (Exists.intro (iv yH49) (And.intro (by kernel_rfl) ?_))
                    refine And.intro rfl (Exists.intro (iv 0) (And.intro (by kernel_rfl) ?_))
                    intro t177 g177; obtain rfl : t177 = false := by rw [← g177]; rfl
                    intro t178 g178; cases t178
                    · have g178 : ¬ (yH49 = 0) := by simpa using g178
                      refine And.intro rfl (Exists.intro (.bool false) (And.intro rfl ?_))
                      refine condF ?_
                      refine And.intro rfl (Exists.intro (iv x0) (And.intro (conv_8 x0 hx0 rfl) ?_))
                      refine Exists.intro _ (Exists.intro _ (And.intro c1.of (And.intro (show _ = some (.slice g.wa g.wn g.wcap) from rfl) ?_)))
                      refine And.intro (show InR ((g.wn : Int) + 1) from ⟨by omega, by omega⟩) ?_
                      obtain ⟨p, hp, lp⟩ := mod_nat (x := x0) (n := (g.wn : Int) + 1) (by omega) (by omega)
                      refine And.intro (by omega) (And.intro (by omega) (And.intro ⟨by omega, by omega⟩ (And.intro ⟨by omega, by omega⟩ ?_)))
                      refine And.intro rfl (Exists.intro (iv y0) (And.intro (conv_8 y0 hy0 rfl) ?_))
                      refine Exists.intro _ (Exists.intro _ (And.intro c1.of (And.intro (show _ = some (.slice g.wa g.wn g.wcap) from rfl) ?_)))
                      refine And.intro (show InR ((g.wn : Int) - (x0 % ((g.wn : Int) + 1))) from ⟨by omega, by omega⟩) ?_
                      refine And.intro (show InR (((g.wn : Int) - (x0 % ((g.wn : Int) + 1))) + 1) from ⟨by omega, by omega⟩) ?_
                      obtain ⟨q, hq, lq⟩ := mod_nat (x := y0) (n := ((g.wn : Int) - (x0 % ((g.wn : Int) + 1))) + 1) (by omega) (by omega)
                      refine And.intro (by omega) (And.intro (by omega) (And.intro ⟨by omega, by omega⟩ (And.intro ⟨by omega, by omega⟩ ?_)))
                      refine Exists.intro _ (Exists.intro _ (And.intro c1.of (And.intro (show row 13 _ _ = some [.slice g.wa g.wn g.wcap, .slice g.aa g.an g.acap, iv g.r1, iv g.r2, iv g.f1, iv g.f2, iv g.g1, iv g.g2, iv g.full, iv g.base, iv g.kill, iv g.need, iv g.bear] from rfl) ?_)))
                      obtain ⟨xH50, yH50, H50, fH50, kH50, ixH50, iyH50⟩ := tells_at (kn := kn) (lo := lo) (H := H49) (a := x0 % ((g.wn : Int) + 1)) (b := y0 % (((g.wn : Int) - (x0 % ((g.wn : Int) + 1))) + 1)) h48 hw ha hwl hal (by omega) (by omega) hok p q (by omega) (by omega) (by omega) (by omega)
                      have mH50 := kH50.1
                      have hk := hk.trans kH50
                      have hw := kH50.sl0 hw
                      have ha := kH50.sl0 ha
                      have c1 := kH50.cl c1 (by simp)
                      refine Exists.intro _ (Exists.intro _ (And.intro (callX_args fH50) ?_))
                      refine And.intro rfl (Exists.intro (iv xH50) (And.intro (by kernel_rfl) ?_))
                      refine And.intro rfl (Exists.intro (iv yH50) (And.intro (by kernel_rfl) ?_))
                      refine And.intro rfl (Exists.intro (iv 0) (And.intro (by kernel_rfl) ?_))
                      intro t179 g179; obtain rfl : t179 = true := by rw [← g179]; rfl
                      intro t180 g180; cases t180
                      · have g180 : ¬ (xH50 = 2) := by simpa using g180
                        refine And.intro rfl (Exists.intro (.bool false) (And.intro rfl ?_))
                        refine And.intro rfl (Exists.intro (.bool false) (And.intro rfl ?_))
                        refine condT ?_
                        intro t181 g181; obtain rfl : t181 = true := by rw [← g181]; rfl
                        intro t182 g182; obtain rfl : t182 = true := by rw [← g182]; rfl
                        refine And.intro rfl (Exists.intro (.bool true) (And.intro rfl ?_))
                        intro t183 g183; obtain rfl : t183 = true := by rw [← g183]; rfl
                        refine And.intro rfl (Exists.intro (.bool true) (And.intro rfl ?_))
                        refine And.intro rfl (Exists.intro (.bool true) (And.intro rfl ?_))
                        refine And.intro rfl (Exists.intro (.bool true) (And.intro rfl ?_))
                        intro t184 g184; obtain rfl : t184 = true := by rw [← g184]; rfl
                        refine And.intro rfl (Exists.intro (.bool true) (And.intro rfl ?_))
                        refine And.intro rfl (Exists.intro (.bool true) (And.intro rfl ?_))
                        refine al _ _ ?_
                        refine And.intro rfl (Exists.intro (.bool true) (And.intro rfl ?_))
                        exact And.intro trivial (Exists.intro _ (And.intro rfl rfl))
                      · have g180 : xH50 = 2 := by simpa using g180
                        refine And.intro rfl (Exists.intro (.bool true) (And.intro rfl ?_))
                        intro t185 g185; cases t185
                        · have g185 : ¬ (yH50 = 0) := by simpa using g185
                          refine And.intro rfl (Exists.intro (.bool false) (And.intro rfl ?_))
                          refine condT ?_
                          intro t186 g186; obtain rfl : t186 = true := by rw [← g186]; rfl
                          intro t187 g187; obtain rfl : t187 = true := by rw [← g187]; rfl
                          refine And.intro rfl (Exists.intro (.bool true) (And.intro rfl ?_))
                          intro t188 g188; obtain rfl : t188 = true := by rw [← g188]; rfl
                          refine And.intro rfl (Exists.intro (.bool true) (And.intro rfl ?_))
                          refine And.intro rfl (Exists.intro (.bool true) (And.intro rfl ?_))
                          refine And.intro rfl (Exists.intro (.bool true) (And.intro rfl ?_))
                          intro t189 g189; obtain rfl : t189 = true := by rw [← g189]; rfl
                          refine And.intro rfl (Exists.intro (.bool true) (And.intro rfl ?_))
                          refine And.intro rfl (Exists.intro (.bool true) (And.intro rfl ?_))
                          refine al _ _ ?_
                          refine And.intro rfl (Exists.intro (.bool true) (And.intro rfl ?_))
                          exact And.intro trivial (Exists.intro _ (And.intro rfl rfl))
                        · have g185 : yH50 = 0 := by simpa using g185
                          exfalso; exact hnone p q (by omega) ⟨by omega, by omega⟩
                    · have g178 : yH49 = 0 := by simpa using g178
                      exfalso; omega
                  · have q176 : ¬ ((m : Int) < ((g.wn : Int) - (s : Int))) := of_decide_eq_false q176
                    refine And.intro rfl (Exists.intro (iv x0) (And.intro (conv_8 x0 hx0 rfl) ?_))
                    refine Exists.intro _ (Exists.intro _ (And.intro c1.of (And.intro (show _ = some (.slice g.wa g.wn g.wcap) from rfl) ?_)))
                    refine And.intro (show InR ((g.wn : Int) + 1) from ⟨by omega, by omega⟩) ?_
                    obtain ⟨p, hp, lp⟩ := mod_nat (x := x0) (n := (g.wn : Int) + 1) (by omega) (by omega)
                    refine And.intro (by omega) (And.intro (by omega) (And.intro ⟨by omega, by omega⟩ (And.intro ⟨by omega, by omega⟩ ?_)))
                    refine And.intro rfl (Exists.intro (iv y0) (And.intro (conv_8 y0 hy0 rfl) ?_))
                    refine Exists.intro _ (Exists.intro _ (And.intro c1.of (And.intro (show _ = some (.slice g.wa g.wn g.wcap) from rfl) ?_)))
                    refine And.intro (show InR ((g.wn : Int) - (x0 % ((g.wn : Int) + 1))) from ⟨by omega, by omega⟩) ?_
                    refine And.intro (show InR (((g.wn : Int) - (x0 % ((g.wn : Int) + 1))) + 1) from ⟨by omega, by omega⟩) ?_
                    obtain ⟨q, hq, lq⟩ := mod_nat (x := y0) (n := ((g.wn : Int) - (x0 % ((g.wn : Int) + 1))) + 1) (by omega) (by omega)
                    refine And.intro (by omega) (And.intro (by omega) (And.intro ⟨by omega, by omega⟩ (And.intro ⟨by omega, by omega⟩ ?_)))
                    refine Exists.intro _ (Exists.intro _ (And.intro c1.of (And.intro (show row 13 _ _ = some [.slice g.wa g.wn g.wcap, .slice g.aa g.an g.acap, iv g.r1, iv g.r2, iv g.f1, iv g.f2, iv g.g1, iv g.g2, iv g.full, iv g.base, iv g.kill, iv g.need, iv g.bear] from rfl) ?_)))
                    obtain ⟨xH51, yH51, H51, fH51, kH51, ixH51, iyH51⟩ := tells_at (kn := kn) (lo := lo) (H := H48) (a := x0 % ((g.wn : Int) + 1)) (b := y0 % (((g.wn : Int) - (x0 % ((g.wn : Int) + 1))) + 1)) h48 hw ha hwl hal (by omega) (by omega) hok p q (by omega) (by omega) (by omega) (by omega)
                    have mH51 := kH51.1
                    have hk := hk.trans kH51
                    have hw := kH51.sl0 hw
                    have ha := kH51.sl0 ha
                    have c1 := kH51.cl c1 (by simp)
                    refine Exists.intro _ (Exists.intro _ (And.intro (callX_args fH51) ?_))
                    refine And.intro rfl (Exists.intro (iv xH51) (And.intro (by kernel_rfl) ?_))
                    refine And.intro rfl (Exists.intro (iv yH51) (And.intro (by kernel_rfl) ?_))
                    refine And.intro rfl (Exists.intro (iv 0) (And.intro (by kernel_rfl) ?_))
                    intro t190 g190; obtain rfl : t190 = true := by rw [← g190]; rfl
                    intro t191 g191; cases t191
                    · have g191 : ¬ (xH51 = 2) := by simpa using g191
                      refine And.intro rfl (Exists.intro (.bool false) (And.intro rfl ?_))
                      refine And.intro rfl (Exists.intro (.bool false) (And.intro rfl ?_))
                      refine condT ?_
                      intro t192 g192; obtain rfl : t192 = true := by rw [← g192]; rfl
                      intro t193 g193; obtain rfl : t193 = true := by rw [← g193]; rfl
                      refine And.intro rfl (Exists.intro (.bool true) (And.intro rfl ?_))
                      intro t194 g194; obtain rfl : t194 = true := by rw [← g194]; rfl
                      refine And.intro rfl (Exists.intro (.bool true) (And.intro rfl ?_))
                      refine And.intro rfl (Exists.intro (.bool true) (And.intro rfl ?_))
                      refine And.intro rfl (Exists.intro (.bool true) (And.intro rfl ?_))
                      intro t195 g195; obtain rfl : t195 = true := by rw [← g195]; rfl
                      refine And.intro rfl (Exists.intro (.bool true) (And.intro rfl ?_))
                      refine And.intro rfl (Exists.intro (.bool true) (And.intro rfl ?_))
                      refine al _ _ ?_
                      refine And.intro rfl (Exists.intro (.bool true) (And.intro rfl ?_))
                      exact And.intro trivial (Exists.intro _ (And.intro rfl rfl))
                    · have g191 : xH51 = 2 := by simpa using g191
                      refine And.intro rfl (Exists.intro (.bool true) (And.intro rfl ?_))
                      intro t196 g196; cases t196
                      · have g196 : ¬ (yH51 = 0) := by simpa using g196
                        refine And.intro rfl (Exists.intro (.bool false) (And.intro rfl ?_))
                        refine condT ?_
                        intro t197 g197; obtain rfl : t197 = true := by rw [← g197]; rfl
                        intro t198 g198; obtain rfl : t198 = true := by rw [← g198]; rfl
                        refine And.intro rfl (Exists.intro (.bool true) (And.intro rfl ?_))
                        intro t199 g199; obtain rfl : t199 = true := by rw [← g199]; rfl
                        refine And.intro rfl (Exists.intro (.bool true) (And.intro rfl ?_))
                        refine And.intro rfl (Exists.intro (.bool true) (And.intro rfl ?_))
                        refine And.intro rfl (Exists.intro (.bool true) (And.intro rfl ?_))
                        intro t200 g200; obtain rfl : t200 = true := by rw [← g200]; rfl
                        refine And.intro rfl (Exists.intro (.bool true) (And.intro rfl ?_))
                        refine And.intro rfl (Exists.intro (.bool true) (And.intro rfl ?_))
                        refine al _ _ ?_
                        refine And.intro rfl (Exists.intro (.bool true) (And.intro rfl ?_))
                        exact And.intro trivial (Exists.intro _ (And.intro rfl rfl))
                      · have g196 : yH51 = 0 := by simpa using g196
                        exfalso; exact hnone p q (by omega) ⟨by omega, by omega⟩
                · have g175 : (m : Int) > ((g.wn : Int) - (s : Int)) := of_decide_eq_true g175
                  exfalso; omega
              · have g174 : yH48 ≠ 0 := by simpa using g174
                exfalso; have := hm2 m (by omega); omega
            · have g172 : xH47 = 2 := by simpa using g172
              exfalso; have := hall d (by omega); omega
          · have g170 : (s : Int) > (g.wn : Int) := of_decide_eq_true g170
            exfalso; omega
        · have g169 : (s : Int) < 0 := of_decide_eq_true g169
          exfalso; omega
      · refine Exists.intro _ (Exists.intro _ (And.intro (callX_args fH45) ?_))
        refine And.intro rfl (Exists.intro (iv (b1 : Int)) (And.intro (by kernel_rfl) ?_))
        refine And.intro rfl (Exists.intro (iv (b2 : Int)) (And.intro (by kernel_rfl) ?_))
        refine And.intro rfl (Exists.intro (iv 0) (And.intro (by kernel_rfl) ?_))
        intro t201 g201; obtain rfl : t201 = false := by rw [← g201]; rfl
        intro t202 g202; obtain rfl : t202 = false := by rw [← g202]; rfl
        refine And.intro rfl (Exists.intro (.bool false) (And.intro rfl ?_))
        refine condF ?_
        intro t203 g203; obtain rfl : t203 = false := by rw [← g203]; rfl
        refine Exists.intro _ (Exists.intro _ (And.intro c1.of (And.intro (show row 13 _ _ = some [.slice g.wa g.wn g.wcap, .slice g.aa g.an g.acap, iv g.r1, iv g.r2, iv g.f1, iv g.f2, iv g.g1, iv g.g2, iv g.full, iv g.base, iv g.kill, iv g.need, iv g.bear] from rfl) ?_)))
        refine callB (late33_ok hw ha hwl hal (by omega) (by omega)) ?_
        intro tH52 H52 hH52 kH52
        obtain rfl : tH52 = true := by rw [← hH52]; exact hok
        have mH52 := kH52.1
        have hk := hk.trans kH52
        have hw := kH52.sl0 hw
        have ha := kH52.sl0 ha
        have c1 := kH52.cl c1 (by simp)
        refine And.intro rfl (Exists.intro (.bool false) (And.intro rfl ?_))
        refine And.intro rfl (Exists.intro (.bool false) (And.intro rfl ?_))
        intro t204 g204; cases t204
        · have g204 : ¬ ((s : Int) < 0) := of_decide_eq_false g204
          refine And.intro rfl (Exists.intro (.bool false) (And.intro rfl ?_))
          refine Exists.intro _ (Exists.intro _ (And.intro c1.of (And.intro (show _ = some (.slice g.wa g.wn g.wcap) from rfl) ?_)))
          intro t205 g205; cases t205
          · have g205 : ¬ ((s : Int) > (g.wn : Int)) := of_decide_eq_false g205
            refine And.intro rfl (Exists.intro (.bool false) (And.intro rfl ?_))
            refine condF ?_
            refine Exists.intro _ (Exists.intro _ (And.intro c1.of (And.intro (show _ = some (.slice g.wa g.wn g.wcap) from rfl) ?_)))
            refine And.intro (show InR ((g.wn : Int) - (s : Int)) from ⟨by omega, by omega⟩) ?_
            refine condF ?_
            refine Exists.intro _ (Exists.intro _ (And.intro c1.of (And.intro (show row 13 _ _ = some [.slice g.wa g.wn g.wcap, .slice g.aa g.an g.acap, iv g.r1, iv g.r2, iv g.f1, iv g.f2, iv g.g1, iv g.g2, iv g.full, iv g.base, iv g.kill, iv g.need, iv g.bear] from rfl) ?_)))
            obtain ⟨xH53, yH53, H53, fH53, kH53, ixH53, iyH53⟩ := tells_at (kn := kn) (lo := lo) (H := H52) (a := (s : Int)) (b := (g.wn : Int) - (s : Int)) h48 hw ha hwl hal (by omega) (by omega) hok s d (by omega) (by omega) (by omega) (by omega)
            have mH53 := kH53.1
            have hk := hk.trans kH53
            have hw := kH53.sl0 hw
            have ha := kH53.sl0 ha
            have c1 := kH53.cl c1 (by simp)
            refine Exists.intro _ (Exists.intro _ (And.intro (callX_args fH53) ?_))
            refine And.intro rfl (Exists.intro (iv xH53) (And.intro (by kernel_rfl) ?_))
            refine And.intro rfl (Exists.intro (iv yH53) (And.intro (by kernel_rfl) ?_))
            refine And.intro rfl (Exists.intro (iv 0) (And.intro (by kernel_rfl) ?_))
            intro t206 g206; obtain rfl : t206 = false := by rw [← g206]; rfl
            intro t207 g207; cases t207
            · have g207 : ¬ (xH53 = 2) := by simpa using g207
              refine And.intro rfl (Exists.intro (.bool false) (And.intro rfl ?_))
              refine condF ?_
              refine Exists.intro _ (Exists.intro _ (And.intro c1.of (And.intro (show row 13 _ _ = some [.slice g.wa g.wn g.wcap, .slice g.aa g.an g.acap, iv g.r1, iv g.r2, iv g.f1, iv g.f2, iv g.g1, iv g.g2, iv g.full, iv g.base, iv g.kill, iv g.need, iv g.bear] from rfl) ?_)))
              obtain ⟨xH54, yH54, H54, fH54, kH54, ixH54, iyH54⟩ := tells_at (kn := kn) (lo := lo) (H := H53) (a := (s : Int)) (b := (m : Int)) h48 hw ha hwl hal (by omega) (by omega) hok s m (by omega) (by omega) (by omega) (by omega)
              have mH54 := kH54.1
              have hk := hk.trans kH54
              have hw := kH54.sl0 hw
              have ha := kH54.sl0 ha
              have c1 := kH54.cl c1 (by simp)
              refine Exists.intro _ (Exists.intro _ (And.intro (callX_args fH54) ?_))
              refine And.intro rfl (Exists.intro (iv xH54) (And.intro (by kernel_rfl) ?_))
              refine And.intro rfl (Exists.intro (iv yH54) (And.intro (by kernel_rfl) ?_))
              refine And.intro rfl (Exists.intro (iv 0) (And.intro (by kernel_rfl) ?_))
              intro t208 g208; obtain rfl : t208 = false := by rw [← g208]; rfl
              intro t209 g209; cases t209
              · have g209 : ¬ (yH54 ≠ 0) := by simpa using g209
                refine And.intro rfl (Exists.intro (.bool false) (And.intro rfl ?_))
                intro t210 g210; cases t210
                · have g210 : ¬ ((m : Int) > ((g.wn : Int) - (s : Int))) := of_decide_eq_false g210
                  refine And.intro rfl (Exists.intro (.bool false) (And.intro rfl ?_))
                  refine condF ?_
                  refine And.intro (fun q211 => ?_) (fun q211 => ?_)
                  · have q211 : (m : Int) < ((g.wn : Int) - (s : Int)) := of_decide_eq_true q211
                    refine Exists.intro _ (Exists.intro _ (And.intro c1.of (And.intro (show row 13 _ _ = some [.slice g.wa g.wn g.wcap, .slice g.aa g.an g.acap, iv g.r1, iv g.r2, iv g.f1, iv g.f2, iv g.g1, iv g.g2, iv g.full, iv g.base, iv g.kill, iv g.need, iv g.bear] from rfl) ?_)))
                    refine And.intro (show InR ((m : Int) + 1) from ⟨by omega, by omega⟩) ?_
                    obtain ⟨xH55, yH55, H55, fH55, kH55, ixH55, iyH55⟩ := tells_at (kn := kn) (lo := lo) (H := H54) (a := (s : Int)) (b := (m : Int) + 1) h48 hw ha hwl hal (by omega) (by omega) hok s (m + 1) (by omega) (by omega) (by omega) (by omega)
                    have mH55 := kH55.1
                    have hk := hk.trans kH55
                    have hw := kH55.sl0 hw
                    have ha := kH55.sl0 ha
                    have c1 := kH55.cl c1 (by simp)
                    refine Exists.intro _ (Exists.intro _ (And.intro (callX_args fH55) ?_))
                    refine And.intro rfl (Exists.intro (iv xH55) (And.intro (by kernel_rfl) ?_))
                    refine And.intro rfl (Exists.intro (iv yH55) (And.intro (by kernel_rfl) ?_))
                    refine And.intro rfl (Exists.intro (iv 0) (And.intro (by kernel_rfl) ?_))
                    intro t212 g212; obtain rfl : t212 = false := by rw [← g212]; rfl
                    intro t213 g213; cases t213
                    · have g213 : ¬ (yH55 = 0) := by simpa using g213
                      refine And.intro rfl (Exists.intro (.bool false) (And.intro rfl ?_))
                      refine condF ?_
                      refine And.intro rfl (Exists.intro (iv x0) (And.intro (conv_8 x0 hx0 rfl) ?_))
                      refine Exists.intro _ (Exists.intro _ (And.intro c1.of (And.intro (show _ = some (.slice g.wa g.wn g.wcap) from rfl) ?_)))
                      refine And.intro (show InR ((g.wn : Int) + 1) from ⟨by omega, by omega⟩) ?_
                      obtain ⟨p, hp, lp⟩ := mod_nat (x := x0) (n := (g.wn : Int) + 1) (by omega) (by omega)
                      refine And.intro (by omega) (And.intro (by omega) (And.intro ⟨by omega, by omega⟩ (And.intro ⟨by omega, by omega⟩ ?_)))
                      refine And.intro rfl (Exists.intro (iv y0) (And.intro (conv_8 y0 hy0 rfl) ?_))
                      refine Exists.intro _ (Exists.intro _ (And.intro c1.of (And.intro (show _ = some (.slice g.wa g.wn g.wcap) from rfl) ?_)))
                      refine And.intro (show InR ((g.wn : Int) - (x0 % ((g.wn : Int) + 1))) from ⟨by omega, by omega⟩) ?_
                      refine And.intro (show InR (((g.wn : Int) - (x0 % ((g.wn : Int) + 1))) + 1) from ⟨by omega, by omega⟩) ?_
                      obtain ⟨q, hq, lq⟩ := mod_nat (x := y0) (n := ((g.wn : Int) - (x0 % ((g.wn : Int) + 1))) + 1) (by omega) (by omega)
                      refine And.intro (by omega) (And.intro (by omega) (And.intro ⟨by omega, by omega⟩ (And.intro ⟨by omega, by omega⟩ ?_)))
                      refine Exists.intro _ (Exists.intro _ (And.intro c1.of (And.intro (show row 13 _ _ = some [.slice g.wa g.wn g.wcap, .slice g.aa g.an g.acap, iv g.r1, iv g.r2, iv g.f1, iv g.f2, iv g.g1, iv g.g2, iv g.full, iv g.base, iv g.kill, iv g.need, iv g.bear] from rfl) ?_)))
                      obtain ⟨xH56, yH56, H56, fH56, kH56, ixH56, iyH56⟩ := tells_at (kn := kn) (lo := lo) (H := H55) (a := x0 % ((g.wn : Int) + 1)) (b := y0 % (((g.wn : Int) - (x0 % ((g.wn : Int) + 1))) + 1)) h48 hw ha hwl hal (by omega) (by omega) hok p q (by omega) (by omega) (by omega) (by omega)
                      have mH56 := kH56.1
                      have hk := hk.trans kH56
                      have hw := kH56.sl0 hw
                      have ha := kH56.sl0 ha
                      have c1 := kH56.cl c1 (by simp)
                      refine Exists.intro _ (Exists.intro _ (And.intro (callX_args fH56) ?_))
                      refine And.intro rfl (Exists.intro (iv xH56) (And.intro (by kernel_rfl) ?_))
                      refine And.intro rfl (Exists.intro (iv yH56) (And.intro (by kernel_rfl) ?_))
                      refine And.intro rfl (Exists.intro (iv 0) (And.intro (by kernel_rfl) ?_))
                      intro t214 g214; obtain rfl : t214 = true := by rw [← g214]; rfl
                      intro t215 g215; cases t215
                      · have g215 : ¬ (xH56 = 2) := by simpa using g215
                        refine And.intro rfl (Exists.intro (.bool false) (And.intro rfl ?_))
                        refine And.intro rfl (Exists.intro (.bool false) (And.intro rfl ?_))
                        refine condF ?_
                        refine Exists.intro _ (Exists.intro _ (And.intro c1.of (And.intro (show row 13 _ _ = some [.slice g.wa g.wn g.wcap, .slice g.aa g.an g.acap, iv g.r1, iv g.r2, iv g.f1, iv g.f2, iv g.g1, iv g.g2, iv g.full, iv g.base, iv g.kill, iv g.need, iv g.bear] from rfl) ?_)))
                        obtain ⟨xH57, yH57, H57, fH57, kH57, ixH57, iyH57⟩ := tells_at (kn := kn) (lo := lo) (H := H56) (a := (b1 : Int)) (b := (b2 : Int)) h48 hw ha hwl hal (by omega) (by omega) hok b1 b2 (by omega) (by omega) (by omega) (by omega)
                        have mH57 := kH57.1
                        have hk := hk.trans kH57
                        have hw := kH57.sl0 hw
                        have ha := kH57.sl0 ha
                        have c1 := kH57.cl c1 (by simp)
                        refine Exists.intro _ (Exists.intro _ (And.intro (callX_args fH57) ?_))
                        refine And.intro rfl (Exists.intro (iv xH57) (And.intro (by kernel_rfl) ?_))
                        refine And.intro rfl (Exists.intro (iv yH57) (And.intro (by kernel_rfl) ?_))
                        refine And.intro rfl (Exists.intro (iv 0) (And.intro (by kernel_rfl) ?_))
                        intro t216 g216; obtain rfl : t216 = false := by rw [← g216]; rfl
                        intro t217 g217; cases t217
                        · have g217 : ¬ (xH57 ≠ 2) := by simpa using g217
                          refine And.intro rfl (Exists.intro (.bool false) (And.intro rfl ?_))
                          intro t218 g218; cases t218
                          · have g218 : ¬ (yH57 ≠ 0) := by simpa using g218
                            refine And.intro rfl (Exists.intro (.bool false) (And.intro rfl ?_))
                            refine condF ?_
                            refine And.intro rfl (Exists.intro (.bool true) (And.intro rfl ?_))
                            refine And.intro rfl (Exists.intro (.bool true) (And.intro rfl ?_))
                            refine And.intro rfl (Exists.intro (.bool true) (And.intro rfl ?_))
                            refine al _ _ ?_
                            refine And.intro rfl (Exists.intro (.bool true) (And.intro rfl ?_))
                            exact And.intro trivial (Exists.intro _ (And.intro rfl rfl))
                          · have g218 : yH57 ≠ 0 := by simpa using g218
                            exfalso; have := hb2.2; omega
                        · have g217 : xH57 ≠ 2 := by simpa using g217
                          exfalso; have := hb2.1; omega
                      · have g215 : xH56 = 2 := by simpa using g215
                        refine And.intro rfl (Exists.intro (.bool true) (And.intro rfl ?_))
                        intro t219 g219; cases t219
                        · have g219 : ¬ (yH56 = 0) := by simpa using g219
                          refine And.intro rfl (Exists.intro (.bool false) (And.intro rfl ?_))
                          refine condF ?_
                          refine Exists.intro _ (Exists.intro _ (And.intro c1.of (And.intro (show row 13 _ _ = some [.slice g.wa g.wn g.wcap, .slice g.aa g.an g.acap, iv g.r1, iv g.r2, iv g.f1, iv g.f2, iv g.g1, iv g.g2, iv g.full, iv g.base, iv g.kill, iv g.need, iv g.bear] from rfl) ?_)))
                          obtain ⟨xH58, yH58, H58, fH58, kH58, ixH58, iyH58⟩ := tells_at (kn := kn) (lo := lo) (H := H56) (a := (b1 : Int)) (b := (b2 : Int)) h48 hw ha hwl hal (by omega) (by omega) hok b1 b2 (by omega) (by omega) (by omega) (by omega)
                          have mH58 := kH58.1
                          have hk := hk.trans kH58
                          have hw := kH58.sl0 hw
                          have ha := kH58.sl0 ha
                          have c1 := kH58.cl c1 (by simp)
                          refine Exists.intro _ (Exists.intro _ (And.intro (callX_args fH58) ?_))
                          refine And.intro rfl (Exists.intro (iv xH58) (And.intro (by kernel_rfl) ?_))
                          refine And.intro rfl (Exists.intro (iv yH58) (And.intro (by kernel_rfl) ?_))
                          refine And.intro rfl (Exists.intro (iv 0) (And.intro (by kernel_rfl) ?_))
                          intro t220 g220; obtain rfl : t220 = false := by rw [← g220]; rfl
                          intro t221 g221; cases t221
                          · have g221 : ¬ (xH58 ≠ 2) := by simpa using g221
                            refine And.intro rfl (Exists.intro (.bool false) (And.intro rfl ?_))
                            intro t222 g222; cases t222
                            · have g222 : ¬ (yH58 ≠ 0) := by simpa using g222
                              refine And.intro rfl (Exists.intro (.bool false) (And.intro rfl ?_))
                              refine condF ?_
                              refine And.intro rfl (Exists.intro (.bool true) (And.intro rfl ?_))
                              refine And.intro rfl (Exists.intro (.bool true) (And.intro rfl ?_))
                              refine And.intro rfl (Exists.intro (.bool true) (And.intro rfl ?_))
                              refine al _ _ ?_
                              refine And.intro rfl (Exists.intro (.bool true) (And.intro rfl ?_))
                              exact And.intro trivial (Exists.intro _ (And.intro rfl rfl))
                            · have g222 : yH58 ≠ 0 := by simpa using g222
                              exfalso; have := hb2.2; omega
                          · have g221 : xH58 ≠ 2 := by simpa using g221
                            exfalso; have := hb2.1; omega
                        · have g219 : yH56 = 0 := by simpa using g219
                          have hfb := hbest p q (by omega) ⟨by omega, by omega⟩
                          refine And.intro rfl (Exists.intro (.bool true) (And.intro rfl ?_))
                          refine condF ?_
                          refine Exists.intro _ (Exists.intro _ (And.intro c1.of (And.intro (show row 13 _ _ = some [.slice g.wa g.wn g.wcap, .slice g.aa g.an g.acap, iv g.r1, iv g.r2, iv g.f1, iv g.f2, iv g.g1, iv g.g2, iv g.full, iv g.base, iv g.kill, iv g.need, iv g.bear] from rfl) ?_)))
                          obtain ⟨xH59, yH59, H59, fH59, kH59, ixH59, iyH59⟩ := tells_at (kn := kn) (lo := lo) (H := H56) (a := (b1 : Int)) (b := (b2 : Int)) h48 hw ha hwl hal (by omega) (by omega) hok b1 b2 (by omega) (by omega) (by omega) (by omega)
                          have mH59 := kH59.1
                          have hk := hk.trans kH59
                          have hw := kH59.sl0 hw
                          have ha := kH59.sl0 ha
                          have c1 := kH59.cl c1 (by simp)
                          refine Exists.intro _ (Exists.intro _ (And.intro (callX_args fH59) ?_))
                          refine And.intro rfl (Exists.intro (iv xH59) (And.intro (by kernel_rfl) ?_))
                          refine And.intro rfl (Exists.intro (iv yH59) (And.intro (by kernel_rfl) ?_))
                          refine And.intro rfl (Exists.intro (iv 0) (And.intro (by kernel_rfl) ?_))
                          intro t223 g223; obtain rfl : t223 = false := by rw [← g223]; rfl
                          intro t224 g224; cases t224
                          · have g224 : ¬ (xH59 ≠ 2) := by simpa using g224
                            refine And.intro rfl (Exists.intro (.bool false) (And.intro rfl ?_))
                            intro t225 g225; cases t225
                            · have g225 : ¬ (yH59 ≠ 0) := by simpa using g225
                              refine And.intro rfl (Exists.intro (.bool false) (And.intro rfl ?_))
                              refine condF ?_
                              refine And.intro rfl (Exists.intro (.bool false) (And.intro rfl ?_))
                              intro t226 g226; cases t226
                              · have g226 : ¬ ((y0 % (((g.wn : Int) - (x0 % ((g.wn : Int) + 1))) + 1)) > (b2 : Int)) := of_decide_eq_false g226
                                refine And.intro rfl (Exists.intro (.bool false) (And.intro rfl ?_))
                                intro t227 g227; cases t227
                                · have g227 : ¬ ((y0 % (((g.wn : Int) - (x0 % ((g.wn : Int) + 1))) + 1)) = (b2 : Int)) := by simpa using g227
                                  exfalso; omega
                                · have g227 : (y0 % (((g.wn : Int) - (x0 % ((g.wn : Int) + 1))) + 1)) = (b2 : Int) := by simpa using g227
                                  intro t228 g228; cases t228
                                  · have g228 : ¬ ((x0 % ((g.wn : Int) + 1)) ≥ (b1 : Int)) := of_decide_eq_false g228
                                    exfalso; omega
                                  · have g228 : (x0 % ((g.wn : Int) + 1)) ≥ (b1 : Int) := of_decide_eq_true g228
                                    refine And.intro rfl (Exists.intro (.bool true) (And.intro rfl ?_))
                                    refine And.intro rfl (Exists.intro (.bool true) (And.intro rfl ?_))
                                    refine al _ _ ?_
                                    refine And.intro rfl (Exists.intro (.bool true) (And.intro rfl ?_))
                                    exact And.intro trivial (Exists.intro _ (And.intro rfl rfl))
                              · have g226 : (y0 % (((g.wn : Int) - (x0 % ((g.wn : Int) + 1))) + 1)) > (b2 : Int) := of_decide_eq_true g226
                                refine And.intro rfl (Exists.intro (.bool true) (And.intro rfl ?_))
                                refine And.intro rfl (Exists.intro (.bool true) (And.intro rfl ?_))
                                refine al _ _ ?_
                                refine And.intro rfl (Exists.intro (.bool true) (And.intro rfl ?_))
                                exact And.intro trivial (Exists.intro _ (And.intro rfl rfl))
                            · have g225 : yH59 ≠ 0 := by simpa using g225
                              exfalso; have := hb2.2; omega
                          · have g224 : xH59 ≠ 2 := by simpa using g224
                            exfalso; have := hb2.1; omega
                    · have g213 : yH55 = 0 := by simpa using g213
                      exfalso; omega
                  · have q211 : ¬ ((m : Int) < ((g.wn : Int) - (s : Int))) := of_decide_eq_false q211
                    refine And.intro rfl (Exists.intro (iv x0) (And.intro (conv_8 x0 hx0 rfl) ?_))
                    refine Exists.intro _ (Exists.intro _ (And.intro c1.of (And.intro (show _ = some (.slice g.wa g.wn g.wcap) from rfl) ?_)))
                    refine And.intro (show InR ((g.wn : Int) + 1) from ⟨by omega, by omega⟩) ?_
                    obtain ⟨p, hp, lp⟩ := mod_nat (x := x0) (n := (g.wn : Int) + 1) (by omega) (by omega)
                    refine And.intro (by omega) (And.intro (by omega) (And.intro ⟨by omega, by omega⟩ (And.intro ⟨by omega, by omega⟩ ?_)))
                    refine And.intro rfl (Exists.intro (iv y0) (And.intro (conv_8 y0 hy0 rfl) ?_))
                    refine Exists.intro _ (Exists.intro _ (And.intro c1.of (And.intro (show _ = some (.slice g.wa g.wn g.wcap) from rfl) ?_)))
                    refine And.intro (show InR ((g.wn : Int) - (x0 % ((g.wn : Int) + 1))) from ⟨by omega, by omega⟩) ?_
                    refine And.intro (show InR (((g.wn : Int) - (x0 % ((g.wn : Int) + 1))) + 1) from ⟨by omega, by omega⟩) ?_
                    obtain ⟨q, hq, lq⟩ := mod_nat (x := y0) (n := ((g.wn : Int) - (x0 % ((g.wn : Int) + 1))) + 1) (by omega) (by omega)
                    refine And.intro (by omega) (And.intro (by omega) (And.intro ⟨by omega, by omega⟩ (And.intro ⟨by omega, by omega⟩ ?_)))
                    refine Exists.intro _ (Exists.intro _ (And.intro c1.of (And.intro (show row 13 _ _ = some [.slice g.wa g.wn g.wcap, .slice g.aa g.an g.acap, iv g.r1, iv g.r2, iv g.f1, iv g.f2, iv g.g1, iv g.g2, iv g.full, iv g.base, iv g.kill, iv g.need, iv g.bear] from rfl) ?_)))
                    obtain ⟨xH60, yH60, H60, fH60, kH60, ixH60, iyH60⟩ := tells_at (kn := kn) (lo := lo) (H := H54) (a := x0 % ((g.wn : Int) + 1)) (b := y0 % (((g.wn : Int) - (x0 % ((g.wn : Int) + 1))) + 1)) h48 hw ha hwl hal (by omega) (by omega) hok p q (by omega) (by omega) (by omega) (by omega)
                    have mH60 := kH60.1
                    have hk := hk.trans kH60
                    have hw := kH60.sl0 hw
                    have ha := kH60.sl0 ha
                    have c1 := kH60.cl c1 (by simp)
                    refine Exists.intro _ (Exists.intro _ (And.intro (callX_args fH60) ?_))
                    refine And.intro rfl (Exists.intro (iv xH60) (And.intro (by kernel_rfl) ?_))
                    refine And.intro rfl (Exists.intro (iv yH60) (And.intro (by kernel_rfl) ?_))
                    refine And.intro rfl (Exists.intro (iv 0) (And.intro (by kernel_rfl) ?_))
                    intro t229 g229; obtain rfl : t229 = true := by rw [← g229]; rfl
                    intro t230 g230; cases t230
                    · have g230 : ¬ (xH60 = 2) := by simpa using g230
                      refine And.intro rfl (Exists.intro (.bool false) (And.intro rfl ?_))
                      refine And.intro rfl (Exists.intro (.bool false) (And.intro rfl ?_))
                      refine condF ?_
                      refine Exists.intro _ (Exists.intro _ (And.intro c1.of (And.intro (show row 13 _ _ = some [.slice g.wa g.wn g.wcap, .slice g.aa g.an g.acap, iv g.r1, iv g.r2, iv g.f1, iv g.f2, iv g.g1, iv g.g2, iv g.full, iv g.base, iv g.kill, iv g.need, iv g.bear] from rfl) ?_)))
                      obtain ⟨xH61, yH61, H61, fH61, kH61, ixH61, iyH61⟩ := tells_at (kn := kn) (lo := lo) (H := H60) (a := (b1 : Int)) (b := (b2 : Int)) h48 hw ha hwl hal (by omega) (by omega) hok b1 b2 (by omega) (by omega) (by omega) (by omega)
                      have mH61 := kH61.1
                      have hk := hk.trans kH61
                      have hw := kH61.sl0 hw
                      have ha := kH61.sl0 ha
                      have c1 := kH61.cl c1 (by simp)
                      refine Exists.intro _ (Exists.intro _ (And.intro (callX_args fH61) ?_))
                      refine And.intro rfl (Exists.intro (iv xH61) (And.intro (by kernel_rfl) ?_))
                      refine And.intro rfl (Exists.intro (iv yH61) (And.intro (by kernel_rfl) ?_))
                      refine And.intro rfl (Exists.intro (iv 0) (And.intro (by kernel_rfl) ?_))
                      intro t231 g231; obtain rfl : t231 = false := by rw [← g231]; rfl
                      intro t232 g232; cases t232
                      · have g232 : ¬ (xH61 ≠ 2) := by simpa using g232
                        refine And.intro rfl (Exists.intro (.bool false) (And.intro rfl ?_))
                        intro t233 g233; cases t233
                        · have g233 : ¬ (yH61 ≠ 0) := by simpa using g233
                          refine And.intro rfl (Exists.intro (.bool false) (And.intro rfl ?_))
                          refine condF ?_
                          refine And.intro rfl (Exists.intro (.bool true) (And.intro rfl ?_))
                          refine And.intro rfl (Exists.intro (.bool true) (And.intro rfl ?_))
                          refine And.intro rfl (Exists.intro (.bool true) (And.intro rfl ?_))
                          refine al _ _ ?_
                          refine And.intro rfl (Exists.intro (.bool true) (And.intro rfl ?_))
                          exact And.intro trivial (Exists.intro _ (And.intro rfl rfl))
                        · have g233 : yH61 ≠ 0 := by simpa using g233
                          exfalso; have := hb2.2; omega
                      · have g232 : xH61 ≠ 2 := by simpa using g232
                        exfalso; have := hb2.1; omega
                    · have g230 : xH60 = 2 := by simpa using g230
                      refine And.intro rfl (Exists.intro (.bool true) (And.intro rfl ?_))
                      intro t234 g234; cases t234
                      · have g234 : ¬ (yH60 = 0) := by simpa using g234
                        refine And.intro rfl (Exists.intro (.bool false) (And.intro rfl ?_))
                        refine condF ?_
                        refine Exists.intro _ (Exists.intro _ (And.intro c1.of (And.intro (show row 13 _ _ = some [.slice g.wa g.wn g.wcap, .slice g.aa g.an g.acap, iv g.r1, iv g.r2, iv g.f1, iv g.f2, iv g.g1, iv g.g2, iv g.full, iv g.base, iv g.kill, iv g.need, iv g.bear] from rfl) ?_)))
                        obtain ⟨xH62, yH62, H62, fH62, kH62, ixH62, iyH62⟩ := tells_at (kn := kn) (lo := lo) (H := H60) (a := (b1 : Int)) (b := (b2 : Int)) h48 hw ha hwl hal (by omega) (by omega) hok b1 b2 (by omega) (by omega) (by omega) (by omega)
                        have mH62 := kH62.1
                        have hk := hk.trans kH62
                        have hw := kH62.sl0 hw
                        have ha := kH62.sl0 ha
                        have c1 := kH62.cl c1 (by simp)
                        refine Exists.intro _ (Exists.intro _ (And.intro (callX_args fH62) ?_))
                        refine And.intro rfl (Exists.intro (iv xH62) (And.intro (by kernel_rfl) ?_))
                        refine And.intro rfl (Exists.intro (iv yH62) (And.intro (by kernel_rfl) ?_))
                        refine And.intro rfl (Exists.intro (iv 0) (And.intro (by kernel_rfl) ?_))
                        intro t235 g235; obtain rfl : t235 = false := by rw [← g235]; rfl
                        intro t236 g236; cases t236
                        · have g236 : ¬ (xH62 ≠ 2) := by simpa using g236
                          refine And.intro rfl (Exists.intro (.bool false) (And.intro rfl ?_))
                          intro t237 g237; cases t237
                          · have g237 : ¬ (yH62 ≠ 0) := by simpa using g237
                            refine And.intro rfl (Exists.intro (.bool false) (And.intro rfl ?_))
                            refine condF ?_
                            refine And.intro rfl (Exists.intro (.bool true) (And.intro rfl ?_))
                            refine And.intro rfl (Exists.intro (.bool true) (And.intro rfl ?_))
                            refine And.intro rfl (Exists.intro (.bool true) (And.intro rfl ?_))
                            refine al _ _ ?_
                            refine And.intro rfl (Exists.intro (.bool true) (And.intro rfl ?_))
                            exact And.intro trivial (Exists.intro _ (And.intro rfl rfl))
                          · have g237 : yH62 ≠ 0 := by simpa using g237
                            exfalso; have := hb2.2; omega
                        · have g236 : xH62 ≠ 2 := by simpa using g236
                          exfalso; have := hb2.1; omega
                      · have g234 : yH60 = 0 := by simpa using g234
                        have hfb := hbest p q (by omega) ⟨by omega, by omega⟩
                        refine And.intro rfl (Exists.intro (.bool true) (And.intro rfl ?_))
                        refine condF ?_
                        refine Exists.intro _ (Exists.intro _ (And.intro c1.of (And.intro (show row 13 _ _ = some [.slice g.wa g.wn g.wcap, .slice g.aa g.an g.acap, iv g.r1, iv g.r2, iv g.f1, iv g.f2, iv g.g1, iv g.g2, iv g.full, iv g.base, iv g.kill, iv g.need, iv g.bear] from rfl) ?_)))
                        obtain ⟨xH63, yH63, H63, fH63, kH63, ixH63, iyH63⟩ := tells_at (kn := kn) (lo := lo) (H := H60) (a := (b1 : Int)) (b := (b2 : Int)) h48 hw ha hwl hal (by omega) (by omega) hok b1 b2 (by omega) (by omega) (by omega) (by omega)
                        have mH63 := kH63.1
                        have hk := hk.trans kH63
                        have hw := kH63.sl0 hw
                        have ha := kH63.sl0 ha
                        have c1 := kH63.cl c1 (by simp)
                        refine Exists.intro _ (Exists.intro _ (And.intro (callX_args fH63) ?_))
                        refine And.intro rfl (Exists.intro (iv xH63) (And.intro (by kernel_rfl) ?_))
                        refine And.intro rfl (Exists.intro (iv yH63) (And.intro (by kernel_rfl) ?_))
                        refine And.intro rfl (Exists.intro (iv 0) (And.intro (by kernel_rfl) ?_))
                        intro t238 g238; obtain rfl : t238 = false := by rw [← g238]; rfl
                        intro t239 g239; cases t239
                        · have g239 : ¬ (xH63 ≠ 2) := by simpa using g239
                          refine And.intro rfl (Exists.intro (.bool false) (And.intro rfl ?_))
                          intro t240 g240; cases t240
                          · have g240 : ¬ (yH63 ≠ 0) := by simpa using g240
                            refine And.intro rfl (Exists.intro (.bool false) (And.intro rfl ?_))
                            refine condF ?_
                            refine And.intro rfl (Exists.intro (.bool false) (And.intro rfl ?_))
                            intro t241 g241; cases t241
                            · have g241 : ¬ ((y0 % (((g.wn : Int) - (x0 % ((g.wn : Int) + 1))) + 1)) > (b2 : Int)) := of_decide_eq_false g241
                              refine And.intro rfl (Exists.intro (.bool false) (And.intro rfl ?_))
                              intro t242 g242; cases t242
                              · have g242 : ¬ ((y0 % (((g.wn : Int) - (x0 % ((g.wn : Int) + 1))) + 1)) = (b2 : Int)) := by simpa using g242
                                exfalso; omega
                              · have g242 : (y0 % (((g.wn : Int) - (x0 % ((g.wn : Int) + 1))) + 1)) = (b2 : Int) := by simpa using g242
                                intro t243 g243; cases t243
                                · have g243 : ¬ ((x0 % ((g.wn : Int) + 1)) ≥ (b1 : Int)) := of_decide_eq_false g243
                                  exfalso; omega
                                · have g243 : (x0 % ((g.wn : Int) + 1)) ≥ (b1 : Int) := of_decide_eq_true g243
                                  refine And.intro rfl (Exists.intro (.bool true) (And.intro rfl ?_))
                                  refine And.intro rfl (Exists.intro (.bool true) (And.intro rfl ?_))
                                  refine al _ _ ?_
                                  refine And.intro rfl (Exists.intro (.bool true) (And.intro rfl ?_))
                                  exact And.intro trivial (Exists.intro _ (And.intro rfl rfl))
                            · have g241 : (y0 % (((g.wn : Int) - (x0 % ((g.wn : Int) + 1))) + 1)) > (b2 : Int) := of_decide_eq_true g241
                              refine And.intro rfl (Exists.intro (.bool true) (And.intro rfl ?_))
                              refine And.intro rfl (Exists.intro (.bool true) (And.intro rfl ?_))
                              refine al _ _ ?_
                              refine And.intro rfl (Exists.intro (.bool true) (And.intro rfl ?_))
                              exact And.intro trivial (Exists.intro _ (And.intro rfl rfl))
                          · have g240 : yH63 ≠ 0 := by simpa using g240
                            exfalso; have := hb2.2; omega
                        · have g239 : xH63 ≠ 2 := by simpa using g239
                          exfalso; have := hb2.1; omega
                · have g210 : (m : Int) > ((g.wn : Int) - (s : Int)) := of_decide_eq_true g210
                  exfalso; omega
              · have g209 : yH54 ≠ 0 := by simpa using g209
                exfalso; have := hm2 m (by omega); omega
            · have g207 : xH53 = 2 := by simpa using g207
              exfalso; have := hall d (by omega); omega
          · have g205 : (s : Int) > (g.wn : Int) := of_decide_eq_true g205
            exfalso; omega
        · have g204 : (s : Int) < 0 := of_decide_eq_true g204
          exfalso; omega
  · refine condT ?_
    refine al _ _ ?_
    exact And.intro trivial (Exists.intro _ (And.intro rfl rfl))
end
end Go.Ax

namespace Go.Ax
open Go Go.RowKit Go.Proofs Go.ChangeShapes Go.WideShapes Go.Deep

/-- A type whose cells are whole numbers. -/
def IntT (P : Program) (t : TypeId) : Prop := ∀ (H : Type) (enc : TypeId × Value → H) (w : World) (base : Nat) (spare : Nat → Bool) (held : Bool) (fuel : Nat) (cs : List Value) (x : DataW H × List MemPlace),
  DataW.trod enc P w base spare held fuel t cs = some x → cs.length = P.cellsOf t ∧ ∀ j, j < cs.length → ∃ n, cs[j]? = some (.int .i64 n)
theorem IntT.int {P : Program} {t : TypeId} (ht : P.underlying t = some (.int .i64)) (hc : P.cellsOf t = 1) : IntT P t := by
  intro H enc w base spare held fuel cs x h
  obtain ⟨n, rfl, _⟩ := DataW.trod_int ht h
  refine ⟨by rw [hc]; rfl, fun j hj => ⟨n, ?_⟩⟩
  have : j = 0 := by simp at hj; omega
  subst this; rfl
theorem IntT.struct {P : Program} {t : TypeId} {fs : Array Field} (ht : P.underlying t = some (.struct fs)) (hf : ∀ f ∈ fs.toList, IntT P f.type)
    (hcov : ((List.range (P.cellsOf t)).all fun j => fs.toList.any fun f => decide (f.offset ≤ j) && decide (j < f.offset + P.cellsOf f.type)) = true) : IntT P t := by
  intro H enc w base spare held fuel cs x h
  obtain ⟨xs, n, _, _, hlen, hxl, hg⟩ := DataW.trod_struct ht h
  refine ⟨hlen, fun j hj => ?_⟩
  have h1 := List.all_eq_true.1 hcov j (List.mem_range.2 (by omega))
  obtain ⟨f, hfm, h2⟩ := List.any_eq_true.1 h1
  simp only [Bool.and_eq_true, decide_eq_true_eq] at h2
  obtain ⟨i, hi, hfi⟩ := List.getElem_of_mem hfm
  have hfs : fs[i]? = some f := by
    rw [← Array.getElem?_toList, List.getElem?_eq_getElem hi, hfi]
  have hi2 : i < xs.length := by simpa [hxl] using hi
  have h3 := hg i f hfs
  rw [List.getElem?_eq_getElem hi2] at h3
  obtain ⟨h4, h5⟩ := hf f hfm _ _ _ _ _ _ _ _ _ h3
  obtain ⟨m, hm⟩ := h5 (j - f.offset) (by omega)
  refine ⟨m, ?_⟩
  rw [List.getElem?_take] at hm
  split at hm
  · rw [List.getElem?_drop, show f.offset + (j - f.offset) = j by omega] at hm; exact hm
  · cases hm

/-- A slice of rows of whole numbers, as it is given. -/
structure Given {α : Type} (w : World) (v : Value) (f : α → List Value) (l : List α) (x : Imp) : Prop where
  ok : ∀ (i : Nat) u, x.cs[i]? = some u → w.cell? ⟨x.blk, x.off + i, none⟩ = some u ∧ flat1 u = true
  cs : x.cs = l.flatMap f
  v : (v = .slice none 0 0 ∧ l = []) ∨ ∃ cap, v = .slice (some ⟨x.blk, x.off, none⟩) l.length cap ∧ l.length ≤ cap
theorem flat_get {α : Type} {f : α → List Value} {k : Nat} (hk : 0 < k) : ∀ {l : List α} (_ : ∀ x ∈ l, (f x).length = k) (i : Nat) (u : Value), (l.flatMap f)[i]? = some u → ∃ x, l[i / k]? = some x ∧ (f x)[i % k]? = some u
  | [], _, i, u, h => by simp at h
  | y :: r, hl, i, u, h => by
    have hy := hl y (List.mem_cons_self ..)
    rw [List.flatMap_cons, List.getElem?_append] at h
    split at h
    · rename_i q
      rw [hy] at q
      refine ⟨y, ?_, ?_⟩
      · rw [Nat.div_eq_of_lt q]; rfl
      · rw [Nat.mod_eq_of_lt q]; exact h
    · rename_i q
      rw [hy] at q h
      obtain ⟨x, h1, h2⟩ := flat_get hk (fun x hx => hl x (List.mem_cons_of_mem _ hx)) _ u h
      refine ⟨x, ?_, ?_⟩
      · rw [Nat.div_eq_sub_div hk (by omega)]; exact h1
      · rw [Nat.mod_eq_sub_mod (by omega)]; exact h2
theorem slice_given {H : Type} {enc : TypeId × Value → H} {P : Program} {w : World} {base b0 : Nat} {r : Reach} {held : Bool} {α : Type} (f : α → List Value) (mk : (Nat → Int) → α) (k : Nat) {t e : TypeId} {fuel : Nat} {v : Value} {x : DataW H × List MemPlace}
    (ht : P.underlying t = some (.slice e)) (hI : IntT P e) (hc : P.cellsOf e = k) (hk : 0 < k) (hmk : ∀ N : Nat → Int, f (mk N) = (List.range k).map fun j => Value.int .i64 (N j))
    (hok : Cell.okWide P w r b0 t v) (h : DataW.trod enc P w base (fun _ => true) held fuel t [v] = some x) : ∃ (l : List α) (y : Imp), Given w v f l y := by
  rcases open_slice ht h with ⟨h0, _⟩ | ⟨a, len, cap, m, n, D, Pl, hcs, hb, hl, hm, hmm, hx, hi⟩
  · cases h0
    exact ⟨[], ⟨0, 0, []⟩, fun i u e => by simp at e, rfl, .inl ⟨rfl, rfl⟩⟩
  · cases hcs
    obtain ⟨blk, off, spot⟩ := a
    have hs : spot = none := by
      unfold Cell.okWide at hok
      rw [ht] at hok
      unfold Cell.ok at hok
      simp only [ht] at hok
      exact hok.2.2.2.1
    subst hs
    simp only [if_true] at hmm
    subst hmm
    have hcell : ∀ i, i < len → ∀ j, j < k → ∃ n, w.cell? ⟨blk, off + (i * k + j), none⟩ = some (.int .i64 n) := by
      intro i hil j hj
      obtain ⟨cs', h1, h2⟩ := hi i (by omega)
      obtain ⟨h3, h4⟩ := hI _ _ _ _ _ _ _ _ _ h2
      obtain ⟨_, h5, h6⟩ := World.cells?_some h1
      obtain ⟨n, hn⟩ := h4 j (by omega)
      refine ⟨n, ?_⟩
      have h7 := h6 j (by omega)
      rw [hn, hc, add_add] at h7
      have e : (⟨blk, off, none⟩ : Addr).add (i * k + j) = ⟨blk, off + (i * k + j), none⟩ := by
        unfold Addr.add
        by_cases q : i * k + j = 0
        · simp [q]
        · simp
      rw [e] at h7
      exact h7
    refine ⟨(List.range len).map fun i => mk fun j => match w.cell? ⟨blk, off + (i * k + j), none⟩ with | some (.int _ n) => n | _ => 0, ⟨blk, off, _⟩, ?_, rfl, .inr ⟨m, by simp, by simpa using hl⟩⟩
    intro i u hu
    obtain ⟨y, h1, h2⟩ := flat_get hk (fun y hy => by
      obtain ⟨i, _, rfl⟩ := List.mem_map.1 hy
      rw [hmk]; simp) i u hu
    have hlt : i / k < len := by
      have := get_lt h1
      simpa using this
    rw [List.getElem?_map, List.getElem?_range hlt] at h1
    simp only [Option.map_some, Option.some.injEq] at h1
    subst h1
    have hj : i % k < k := Nat.mod_lt _ hk
    rw [hmk, List.getElem?_map, List.getElem?_range hj] at h2
    simp only [Option.map_some, Option.some.injEq] at h2
    obtain ⟨n, hn⟩ := hcell _ hlt _ hj
    rw [hn] at h2
    subst h2
    rw [Nat.div_add_mod' ] at hn
    exact ⟨hn, rfl⟩
end Go.Ax

/-! Slices of rows of plain cells, as arguments. -/
namespace Go.Ax
open Go Go.RowKit Go.Proofs Go.ChangeShapes Go.WideShapes Go.Deep

theorem IntT.row {α : Type} {P : Program} {t : TypeId} {k : Nat} {f : α → List Value} {mk : (Nat → Int) → α} (h : IntT P t) (hc : P.cellsOf t = k) (hmk : ∀ N : Nat → Int, f (mk N) = (List.range k).map fun j => Value.int .i64 (N j))
    {H : Type} {enc : TypeId × Value → H} {w : World} {base : Nat} {spare : Nat → Bool} {held : Bool} (fuel : Nat) (cs : List Value) (x : DataW H × List MemPlace) (hx : DataW.trod enc P w base spare held fuel t cs = some x) : ∃ y : α, cs = f y ∧ True := by
  obtain ⟨h1, h2⟩ := h _ _ _ _ _ _ _ _ _ hx
  have : ∃ N : Nat → Int, ∀ j, j < cs.length → cs[j]? = some (.int .i64 (N j)) := by
    refine ⟨fun j => match cs[j]? with | some (.int _ n) => n | _ => 0, fun j hj => ?_⟩
    obtain ⟨n, hn⟩ := h2 j hj
    simp [hn]
  obtain ⟨N, hN⟩ := this
  refine ⟨mk N, ?_, trivial⟩
  rw [hmk]
  apply List.ext_getElem?
  intro j
  by_cases hj : j < k
  · rw [hN j (by omega), List.getElem?_map, List.getElem?_range hj]; rfl
  · rw [List.getElem?_eq_none (by omega), List.getElem?_eq_none (by simp; omega)]
end Go.Ax


/-
  Alarm, and the document's Alarm and Enough, for all inputs; the law FrostWaters.
-/
import Derived.Test.YtjgpbiobacjobaaGreatF3
import Derived.Test.YtjgpbiobacjobaaGreatAxR2
set_option linter.all false
namespace Go.Ax
open Go Go.RowKit Go.Proofs

abbrev sp (a b : Int) : Value := .agg #[iv a, iv b]
def spanB (a b l m : Int) : Bool := decide (l ≤ a) && decide (a ≤ b) && decide (b ≤ m)
def alarmOk (bud b1 b2 fall gap : Int) : Bool := inB bud (-5000) 5000 && spanB b1 b2 (-1000) 1000 && inB fall 0 1000 && inB gap 0 96
def alarmV (bud b1 b2 fall gap : Int) : Int × Int := if alarmOk bud b1 b2 fall gap = true then (bud + 1 + b2 + gap * fall, 0) else (0, 2)
section
variable {kn : FuncId → Option Bool} {lo : Nat} {H : Hp}
theorem in_ok {n a b : Int} : ∃ H', FnX Tryz.prog kn lo 45 [iv n, iv a, iv b] H (.bool (inB n a b)) H' ∧ Keep H H' [] := by
  have key := fnX_low (kn := kn) (lo := lo) (H := H) (args := [iv n, iv a, iv b]) (Q := fun v H' => v = .bool (inB n a b) ∧ Keep H H' []) Tryz.func45 B45 N45 Z45 L45 (by simp) ?_
  · obtain ⟨v, H', h, rfl, q⟩ := key; exact ⟨H', h, q⟩
  repeat' first
    | (intro t ht; cases t)
    | exact And.intro trivial (Exists.intro _ (And.intro rfl ⟨by simp_all [retV, inB] <;> (intros; omega), Keep.refl _ _⟩))
    | refine And.intro rfl (Exists.intro _ (And.intro rfl ?_))
theorem degree_ok {n : Int} : ∃ H', FnX Tryz.prog kn lo 58 [iv n] H (.bool (inB n (-5000) 5000)) H' ∧ Keep H H' [] := by
  have key := fnX_low (kn := kn) (lo := lo) (H := H) (args := [iv n]) (Q := fun v H' => v = .bool (inB n (-5000) 5000) ∧ Keep H H' []) Tryz.func58 B58 N58 Z58 L58 (by simp) ?_
  · obtain ⟨v, H', h, rfl, q⟩ := key; exact ⟨H', h, q⟩
  refine callB within_ok ?_
  intro t H1 ht k1
  exact And.intro trivial (Exists.intro _ (And.intro rfl ⟨by rw [ht]; rfl, k1⟩))
theorem span_ok {a b l m : Int} : ∃ H', FnX Tryz.prog kn lo 59 [sp a b, iv l, iv m] H (.bool (spanB a b l m)) H' ∧ Keep H H' [] := by
  have key := fnX_low (kn := kn) (lo := lo) (H := H) (args := [sp a b, iv l, iv m]) (Q := fun v H' => v = .bool (spanB a b l m) ∧ Keep H H' []) Tryz.func59 B59 N59 Z59 L59 (by simp) ?_
  · obtain ⟨v, H', h, rfl, q⟩ := key; exact ⟨H', h, q⟩
  intro H1 hH1
  obtain ⟨k1, n1, c1⟩ := new_facts hH1
  repeat' first
    | refine Exists.intro _ (Exists.intro _ (And.intro c1.of (And.intro rfl ?_)))
    | (intro t ht; cases t)
    | exact And.intro trivial (Exists.intro _ (And.intro rfl ⟨by simp_all [retV, spanB] <;> (intros; omega), k1⟩))
    | refine And.intro rfl (Exists.intro _ (And.intro rfl ?_))
theorem refspan_ok {a b l m : Int} : ∃ H', FnX Tryz.prog kn lo 60 [sp a b, iv l, iv m] H (.bool (spanB a b l m)) H' ∧ Keep H H' [] := by
  have key := fnX_low (kn := kn) (lo := lo) (H := H) (args := [sp a b, iv l, iv m]) (Q := fun v H' => v = .bool (spanB a b l m) ∧ Keep H H' []) Tryz.func60 B60 N60 Z60 L60 (by simp) ?_
  · obtain ⟨v, H', h, rfl, q⟩ := key; exact ⟨H', h, q⟩
  intro H1 hH1
  obtain ⟨k1, n1, c1⟩ := new_facts hH1
  repeat' first
    | refine Exists.intro _ (Exists.intro _ (And.intro c1.of (And.intro rfl ?_)))
    | (intro t ht; cases t)
    | exact And.intro trivial (Exists.intro _ (And.intro rfl ⟨by simp_all [retV, spanB] <;> (intros; omega), k1⟩))
    | refine And.intro rfl (Exists.intro _ (And.intro rfl ?_))
theorem prod_bound {a b : Int} (ha : 0 ≤ a ∧ a ≤ 96) (hb : 0 ≤ b ∧ b ≤ 1000) : 0 ≤ a * b ∧ a * b ≤ 96000 := by
  have h1 := Int.mul_nonneg ha.1 hb.1
  have h2 := Int.mul_le_mul_of_nonneg_right ha.2 hb.1
  omega
theorem alarm_ok {bud b1 b2 fall gap : Int} :
    ∃ H', FnX Tryz.prog kn lo 27 [iv bud, sp b1 b2, iv fall, iv gap] H (.tuple #[iv (alarmV bud b1 b2 fall gap).1, iv (alarmV bud b1 b2 fall gap).2]) H' ∧ Keep H H' [] := by
  have key := fnX_low (kn := kn) (lo := lo) (H := H) (args := [iv bud, sp b1 b2, iv fall, iv gap]) (Q := fun v H' => v = .tuple #[iv (alarmV bud b1 b2 fall gap).1, iv (alarmV bud b1 b2 fall gap).2] ∧ Keep H H' []) Tryz.func27 B27 N27 Z27 L27 (by simp) ?_
  · obtain ⟨v, H', h, rfl, q⟩ := key; exact ⟨H', h, q⟩
  intro H1 hH1
  obtain ⟨k1, n1, c1⟩ := new_facts hH1
  have c1 : Cl H1 H.next [iv b1, iv b2] := c1
  have bad : ∀ H2, Keep H H2 [] → alarmOk bud b1 b2 fall gap = false → retV [iv 0, iv 2] = .tuple #[iv (alarmV bud b1 b2 fall gap).1, iv (alarmV bud b1 b2 fall gap).2] ∧ Keep H H2 [] := fun H2 k h => ⟨by unfold alarmV; rw [if_neg (by rw [h]; decide)]; rfl, k⟩
  refine callB degree_ok ?_
  intro t1 H2 ht1 k2
  cases t1
  · refine And.intro rfl (Exists.intro (.bool false) (And.intro rfl ?_))
    refine And.intro rfl (Exists.intro (.bool true) (And.intro rfl ?_))
    refine And.intro rfl (Exists.intro (.bool true) (And.intro rfl ?_))
    refine And.intro rfl (Exists.intro (.bool true) (And.intro rfl ?_))
    refine condT ?_
    exact And.intro trivial (Exists.intro _ (And.intro rfl (bad H2 (k1.trans k2) (by unfold alarmOk; rw [ht1]; rfl))))
  have c2 := k2.cl c1 (by simp)
  refine Exists.intro _ (Exists.intro _ (And.intro c2.of (And.intro (show row 2 _ _ = some [iv b1, iv b2] from rfl) ?_)))
  refine callB span_ok ?_
  intro t2 H3 ht2 k3
  have k13 := k1.trans (k2.trans k3)
  have c3 := k3.cl c2 (by simp)
  cases t2
  · refine And.intro rfl (Exists.intro (.bool false) (And.intro rfl ?_))
    refine And.intro rfl (Exists.intro (.bool true) (And.intro rfl ?_))
    refine And.intro rfl (Exists.intro (.bool true) (And.intro rfl ?_))
    refine And.intro rfl (Exists.intro (.bool true) (And.intro rfl ?_))
    refine condT ?_
    exact And.intro trivial (Exists.intro _ (And.intro rfl (bad H3 k13 (by unfold alarmOk; rw [ht1, ht2]; rfl))))
  refine And.intro rfl (Exists.intro (.bool true) (And.intro rfl ?_))
  refine And.intro rfl (Exists.intro (.bool false) (And.intro rfl ?_))
  refine callB within_ok ?_
  intro t3 H4 ht3 k4
  have c4 := k4.cl c3 (by simp)
  refine And.intro rfl (Exists.intro (.bool (!t3)) (And.intro rfl ?_))
  refine And.intro rfl (Exists.intro (.bool (!t3)) (And.intro rfl ?_))
  cases t3
  · refine And.intro rfl (Exists.intro (.bool true) (And.intro rfl ?_))
    refine condT ?_
    exact And.intro trivial (Exists.intro _ (And.intro rfl (bad H4 (k13.trans k4) (by unfold alarmOk; rw [ht1, ht2, ht3]; rfl))))
  refine callB within_ok ?_
  intro t4 H5 ht4 k5
  have c5 := k5.cl c4 (by simp)
  have k15 := k13.trans (k4.trans k5)
  refine And.intro rfl (Exists.intro (.bool (!t4)) (And.intro rfl ?_))
  refine And.intro rfl (Exists.intro (.bool (!t4)) (And.intro rfl ?_))
  cases t4
  · refine condT ?_
    exact And.intro trivial (Exists.intro _ (And.intro rfl (bad H5 k15 (by unfold alarmOk; rw [ht1, ht2, ht3, ht4]; rfl))))
  refine condF ?_
  have hok : alarmOk bud b1 b2 fall gap = true := by unfold alarmOk; rw [ht1, ht2, ht3, ht4]; rfl
  have d1 : -5000 ≤ bud ∧ bud ≤ 5000 := by simpa [inB] using ht1
  have d2 : (-1000 ≤ b1 ∧ b1 ≤ b2) ∧ b2 ≤ 1000 := by simpa [spanB] using ht2
  have d3 : 0 ≤ fall ∧ fall ≤ 1000 := by simpa [inB] using ht3
  have d4 : 0 ≤ gap ∧ gap ≤ 96 := by simpa [inB] using ht4
  have hpr := prod_bound d4 d3
  refine And.intro ⟨by omega, by omega⟩ ?_
  refine Exists.intro _ (Exists.intro _ (And.intro c5.of (And.intro rfl ?_)))
  refine And.intro ⟨by omega, by omega⟩ ?_
  refine And.intro ⟨by omega, by omega⟩ ?_
  refine And.intro ⟨by omega, by omega⟩ ?_
  exact And.intro trivial (Exists.intro _ (And.intro rfl ⟨by unfold alarmV; rw [if_pos hok]; rfl, k15⟩))
theorem refalarm_ok {bud b1 b2 fall gap : Int} :
    ∃ H', FnX Tryz.prog kn lo 28 [iv bud, sp b1 b2, iv fall, iv gap] H (.tuple #[iv (alarmV bud b1 b2 fall gap).1, iv (alarmV bud b1 b2 fall gap).2]) H' ∧ Keep H H' [] := by
  have key := fnX_low (kn := kn) (lo := lo) (H := H) (args := [iv bud, sp b1 b2, iv fall, iv gap]) (Q := fun v H' => v = .tuple #[iv (alarmV bud b1 b2 fall gap).1, iv (alarmV bud b1 b2 fall gap).2] ∧ Keep H H' []) Tryz.func28 B28 N28 Z28 L28 (by simp) ?_
  · obtain ⟨v, H', h, rfl, q⟩ := key; exact ⟨H', h, q⟩
  intro H1 hH1
  obtain ⟨k1, n1, c1⟩ := new_facts hH1
  have c1 : Cl H1 H.next [iv b1, iv b2] := c1
  have bad : ∀ H2, Keep H H2 [] → alarmOk bud b1 b2 fall gap = false → retV [iv 0, iv 2] = .tuple #[iv (alarmV bud b1 b2 fall gap).1, iv (alarmV bud b1 b2 fall gap).2] ∧ Keep H H2 [] := fun H2 k h => ⟨by unfold alarmV; rw [if_neg (by rw [h]; decide)]; rfl, k⟩
  refine callB in_ok ?_
  intro t1 H2 ht1 k2
  refine And.intro rfl (Exists.intro (.bool (!t1)) (And.intro rfl ?_))
  cases t1
  · refine And.intro rfl (Exists.intro (.bool true) (And.intro rfl ?_))
    refine And.intro rfl (Exists.intro (.bool true) (And.intro rfl ?_))
    refine And.intro rfl (Exists.intro (.bool true) (And.intro rfl ?_))
    refine condT ?_
    exact And.intro trivial (Exists.intro _ (And.intro rfl (bad H2 (k1.trans k2) (by unfold alarmOk; rw [ht1]; rfl))))
  have c2 := k2.cl c1 (by simp)
  refine Exists.intro _ (Exists.intro _ (And.intro c2.of (And.intro (show row 2 _ _ = some [iv b1, iv b2] from rfl) ?_)))
  refine callB refspan_ok ?_
  intro t2 H3 ht2 k3
  have k13 := k1.trans (k2.trans k3)
  have c3 := k3.cl c2 (by simp)
  refine And.intro rfl (Exists.intro (.bool (!t2)) (And.intro rfl ?_))
  refine And.intro rfl (Exists.intro (.bool (!t2)) (And.intro rfl ?_))
  cases t2
  · refine And.intro rfl (Exists.intro (.bool true) (And.intro rfl ?_))
    refine And.intro rfl (Exists.intro (.bool true) (And.intro rfl ?_))
    refine condT ?_
    exact And.intro trivial (Exists.intro _ (And.intro rfl (bad H3 k13 (by unfold alarmOk; rw [ht1, ht2]; rfl))))
  refine callB in_ok ?_
  intro t3 H4 ht3 k4
  have c4 := k4.cl c3 (by simp)
  refine And.intro rfl (Exists.intro (.bool (!t3)) (And.intro rfl ?_))
  refine And.intro rfl (Exists.intro (.bool (!t3)) (And.intro rfl ?_))
  cases t3
  · refine And.intro rfl (Exists.intro (.bool true) (And.intro rfl ?_))
    refine condT ?_
    exact And.intro trivial (Exists.intro _ (And.intro rfl (bad H4 (k13.trans k4) (by unfold alarmOk; rw [ht1, ht2, ht3]; rfl))))
  refine callB in_ok ?_
  intro t4 H5 ht4 k5
  have c5 := k5.cl c4 (by simp)
  have k15 := k13.trans (k4.trans k5)
  refine And.intro rfl (Exists.intro (.bool (!t4)) (And.intro rfl ?_))
  refine And.intro rfl (Exists.intro (.bool (!t4)) (And.intro rfl ?_))
  cases t4
  · refine condT ?_
    exact And.intro trivial (Exists.intro _ (And.intro rfl (bad H5 k15 (by unfold alarmOk; rw [ht1, ht2, ht3, ht4]; rfl))))
  refine condF ?_
  have hok : alarmOk bud b1 b2 fall gap = true := by unfold alarmOk; rw [ht1, ht2, ht3, ht4]; rfl
  have d1 : -5000 ≤ bud ∧ bud ≤ 5000 := by simpa [inB] using ht1
  have d2 : (-1000 ≤ b1 ∧ b1 ≤ b2) ∧ b2 ≤ 1000 := by simpa [spanB] using ht2
  have d3 : 0 ≤ fall ∧ fall ≤ 1000 := by simpa [inB] using ht3
  have d4 : 0 ≤ gap ∧ gap ≤ 96 := by simpa [inB] using ht4
  have hpr := prod_bound d4 d3
  have hcomm : fall * gap = gap * fall := Int.mul_comm _ _
  refine And.intro ⟨by omega, by omega⟩ ?_
  refine Exists.intro _ (Exists.intro _ (And.intro c5.of (And.intro rfl ?_)))
  refine And.intro ⟨by omega, by omega⟩ ?_
  refine And.intro (show InR (fall * gap) from ⟨by omega, by omega⟩) ?_
  refine And.intro (show InR (bud + 1 + b2 + fall * gap) from ⟨by omega, by omega⟩) ?_
  exact And.intro trivial (Exists.intro _ (And.intro rfl ⟨by unfold alarmV; rw [if_pos hok, ← hcomm]; rfl, k15⟩))
theorem refenough_ok {st fu re : Int} {sa : Option Addr} {cap : Nat} {us : List Int} (hs : Sl H sa us.length cap (ints us)) (hn2 : us.length ≤ 1000000) :
    ∃ H', FnX Tryz.prog kn lo 30 [iv st, iv fu, iv re, .slice sa us.length cap] H (.tuple #[iv (rowV st fu re us).1, iv (rowV st fu re us).2]) H' ∧ Keep H H' [] := by
  have key := fnX_low (kn := kn) (lo := lo) (H := H) (args := [iv st, iv fu, iv re, .slice sa us.length cap]) (Q := fun v H' => v = .tuple #[iv (rowV st fu re us).1, iv (rowV st fu re us).2] ∧ Keep H H' []) Tryz.func30 B30 N30 Z30 L30 (by simp) ?_
  · obtain ⟨v, H', h, rfl, q⟩ := key; exact ⟨H', h, q⟩
  refine And.intro (fun hgt => ?_) (fun hle => ?_)
  · have h64 : us.length > 64 := by
      have : (us.length : Int) > 64 := by simpa using hgt
      omega
    exact And.intro trivial (Exists.intro _ (And.intro rfl ⟨by unfold rowV; rw [if_pos (by omega)]; rfl, Keep.refl _ _⟩))
  have h64 : ¬ us.length > 64 := by
    have : (us.length : Int) ≤ 64 := by simpa using hle
    omega
  have bad : ∀ H1, Keep H H1 [] → rowOk st fu re us = false → retV [iv 0, iv 2] = .tuple #[iv (rowV st fu re us).1, iv (rowV st fu re us).2] ∧ Keep H H1 [] := fun H1 k h => ⟨by unfold rowV; rw [if_neg (by omega), if_neg (by rw [h]; decide)]; rfl, k⟩
  refine callB in_ok ?_
  intro t2 H1 ht2 k1
  refine And.intro rfl (Exists.intro (.bool (!t2)) (And.intro rfl ?_))
  cases t2
  · refine And.intro rfl (Exists.intro (.bool true) (And.intro rfl ?_))
    refine And.intro rfl (Exists.intro (.bool true) (And.intro rfl ?_))
    refine condT ?_
    exact And.intro trivial (Exists.intro _ (And.intro rfl (bad H1 k1 (by unfold rowOk; rw [ht2]; simp))))
  refine callB in_ok ?_
  intro t1 H2 ht1 k2
  refine And.intro rfl (Exists.intro (.bool (!t1)) (And.intro rfl ?_))
  refine And.intro rfl (Exists.intro (.bool (!t1)) (And.intro rfl ?_))
  cases t1
  · refine And.intro rfl (Exists.intro (.bool true) (And.intro rfl ?_))
    refine condT ?_
    exact And.intro trivial (Exists.intro _ (And.intro rfl (bad H2 (k1.trans k2) (by unfold rowOk; rw [ht1]; simp))))
  refine callB in_ok ?_
  intro t3 H3 ht3 k3
  have k13 := k1.trans (k2.trans k3)
  refine And.intro rfl (Exists.intro (.bool (!t3)) (And.intro rfl ?_))
  refine And.intro rfl (Exists.intro (.bool (!t3)) (And.intro rfl ?_))
  cases t3
  · refine condT ?_
    exact And.intro trivial (Exists.intro _ (And.intro rfl (bad H3 k13 (by unfold rowOk; rw [ht3]; simp))))
  refine condF ?_
  have b1 : 0 ≤ st ∧ st ≤ fu := by simpa [inB] using ht1
  have b2 : 0 ≤ fu ∧ fu ≤ 1099511627776 := by simpa [inB] using ht2
  have b3 : 0 ≤ re ∧ re ≤ 1099511627776 := by simpa [inB] using ht3
  refine loop_low (fn := Tryz.f30) E30_1 N30 L30x1 (fun i : Nat => [(0, iv st), (1, iv fu), (2, iv re), (3, .slice sa us.length cap), (10, iv i)])
    (fun k i H' => i + k = us.length ∧ Keep H H' [] ∧ ((us.take i).all fun x => inB x 0 1099511627776) = true) us.length 0 ⟨by omega, k13, rfl⟩ ⟨rfl, rfl, rfl, rfl, rfl, trivial⟩ ?_
  rintro k i H4 ⟨hik, hk, hall⟩
  refine And.intro (fun hlt => ?_) (fun hge => ?_)
  · have hi : i < us.length := by simpa using hlt
    have hs1 := hk.sl0 hs
    rcases hs1 with ⟨_, h0, _⟩ | ⟨sb, rfl, hc, _⟩
    · omega
    obtain ⟨x, hx⟩ := get_some (l := us) (i := i) (by omega)
    refine Exists.intro i (And.intro rfl (And.intro hi ?_))
    refine Exists.intro _ (Exists.intro _ (And.intro hc.of (And.intro (ints_at hx) ?_)))
    refine callB in_ok ?_
    intro t4 H5 ht4 k5
    refine And.intro rfl (Exists.intro (.bool (!t4)) (And.intro rfl ?_))
    have hst := all_step (f := fun x => inB x 0 1099511627776) hx
    cases t4
    · refine condT ?_
      have hf := take_fail (f := fun x => inB x 0 1099511627776) hx hi ht4
      rw [List.take_length] at hf
      exact And.intro trivial (Exists.intro _ (And.intro rfl (bad H5 (hk.trans k5) (by unfold rowOk; rw [hf]; simp))))
    · refine condF ?_
      refine And.intro ⟨by omega, by omega⟩ ?_
      exact ⟨k - 1, i + 1, by omega, ⟨by omega, hk.trans k5, by rw [hst, hall, ht4]; rfl⟩, rfl, rfl, rfl, rfl, rfl, trivial⟩
  have hi : ¬ i < us.length := by simpa using hge
  have e : i = us.length := by omega
  subst e
  rw [List.take_length] at hall
  have hok : rowOk st fu re us = true := by unfold rowOk; rw [ht1, ht2, ht3, hall]; rfl
  have hv : rowV st fu re us = (match rowGo fu re st us 0 with | some i => ((i : Int), 0) | none => (0, 4)) := by unfold rowV; rw [if_neg (by omega), if_pos hok]; cases rowGo fu re st us 0 <;> rfl
  have b4 := List.all_eq_true.1 hall
  refine loop_low (fn := Tryz.f30) E30_2 N30 L30x2 (fun (s : Nat × Int) => [(0, iv s.2), (1, iv fu), (2, iv re), (3, .slice sa us.length cap), (11, iv s.1)])
    (fun k s H' => s.1 + k = us.length ∧ Keep H H' [] ∧ 0 ≤ s.2 ∧ s.2 ≤ fu ∧ rowGo fu re st us 0 = rowGo fu re s.2 (us.drop s.1) s.1) us.length (0, st) ⟨by simp, hk, b1.1, b1.2, rfl⟩ ⟨rfl, rfl, rfl, rfl, rfl, trivial⟩ ?_
  rintro k ⟨i, w⟩ H5 ⟨hik, hk5, hw0, hwf, hgo⟩
  simp only at hik hw0 hwf hgo
  refine And.intro (fun hlt => ?_) (fun hge => ?_)
  · have hi : i < us.length := by simpa using hlt
    have hs1 := hk5.sl0 hs
    rcases hs1 with ⟨_, h0, _⟩ | ⟨sb, rfl, hc, _⟩
    · omega
    obtain ⟨x, hx⟩ := get_some (l := us) (i := i) (by omega)
    have b5 : 0 ≤ x ∧ x ≤ 1099511627776 := by simpa [inB] using b4 x (List.mem_of_getElem? hx)
    rw [rowGo_drop hx] at hgo
    refine Exists.intro i (And.intro rfl (And.intro hi ?_))
    refine Exists.intro _ (Exists.intro _ (And.intro hc.of (And.intro (ints_at hx) ?_)))
    refine And.intro (fun hgt => ?_) (fun hle => ?_)
    · have hgt : w < x := by simpa using hgt
      rw [if_pos hgt] at hgo
      exact And.intro trivial (Exists.intro _ (And.intro rfl ⟨by rw [hv, hgo]; rfl, hk5⟩))
    · have hle : ¬ x > w := by simpa using hle
      rw [if_neg hle] at hgo
      refine Exists.intro i (And.intro rfl (And.intro hi ?_))
      refine Exists.intro _ (Exists.intro _ (And.intro hc.of (And.intro (ints_at hx) ?_)))
      refine And.intro ⟨by omega, by omega⟩ ?_
      refine And.intro ⟨by omega, by omega⟩ ?_
      refine And.intro ⟨by omega, by omega⟩ ?_
      exact ⟨k - 1, (i + 1, min fu (w - x + re)), by omega, ⟨by simp only; omega, hk5, by simp only; omega, by simp only; omega, hgo⟩, rfl, rfl, rfl, rfl, rfl, trivial⟩
  · have hi : ¬ i < us.length := by simpa using hge
    have e : i = us.length := by omega
    subst e
    rw [List.drop_eq_nil_of_le (by omega)] at hgo
    exact And.intro trivial (Exists.intro _ (And.intro rfl ⟨by rw [hv, hgo]; rfl, hk5⟩))
theorem waters_ok {bud b1 b2 fall gap st fu re : Int} {sa : Option Addr} {cap : Nat} {us : List Int} (hkn : kn 16 = some true) (hs : Sl H sa us.length cap (ints us)) :
    ∃ H', FnX Tryz.prog kn lo 5 [iv bud, sp b1 b2, iv fall, iv gap, iv st, iv fu, iv re, .slice sa us.length cap] H (.bool true) H' := by
  have key := fnX_low (kn := kn) (lo := lo) (H := H) (args := [iv bud, sp b1 b2, iv fall, iv gap, iv st, iv fu, iv re, .slice sa us.length cap]) (Q := fun v H' => v = .bool true) Tryz.func5 B5 N5 Z5 L5 (by simp) ?_
  · obtain ⟨v, H', h, rfl⟩ := key; exact ⟨H', h⟩
  intro H1 hH1
  obtain ⟨k1, n1, c1⟩ := new_facts hH1
  have c1 : Cl H1 H.next [iv b1, iv b2] := c1
  refine And.intro (fun hgt => ?_) (fun hle => ?_)
  · refine Exists.intro _ (Exists.intro _ (And.intro (callX_known hkn) ?_))
    exact And.intro trivial (Exists.intro _ (And.intro rfl rfl))
  have h80 : us.length ≤ 80 := by
    have : (us.length : Int) ≤ 80 := by simpa using hle
    omega
  refine Exists.intro _ (Exists.intro _ (And.intro c1.of (And.intro (show row 2 _ _ = some [iv b1, iv b2] from rfl) ?_)))
  obtain ⟨H2, h2, k2⟩ := alarm_ok (kn := kn) (lo := lo) (H := H1) (bud := bud) (b1 := b1) (b2 := b2) (fall := fall) (gap := gap)
  refine Exists.intro _ (Exists.intro _ (And.intro (callX_args h2) ?_))
  refine And.intro rfl (Exists.intro _ (And.intro rfl ?_))
  refine And.intro rfl (Exists.intro _ (And.intro rfl ?_))
  have c2 := k2.cl c1 (by simp)
  refine Exists.intro _ (Exists.intro _ (And.intro c2.of (And.intro (show row 2 _ _ = some [iv b1, iv b2] from rfl) ?_)))
  obtain ⟨H3, h3, k3⟩ := refalarm_ok (kn := kn) (lo := lo) (H := H2) (bud := bud) (b1 := b1) (b2 := b2) (fall := fall) (gap := gap)
  refine Exists.intro _ (Exists.intro _ (And.intro (callX_args h3) ?_))
  refine And.intro rfl (Exists.intro _ (And.intro rfl ?_))
  refine And.intro rfl (Exists.intro _ (And.intro rfl ?_))
  have k13 := k1.trans (k2.trans k3)
  obtain ⟨H4, h4, k4⟩ := enough_ok (kn := kn) (lo := lo) (st := st) (fu := fu) (re := re) (k13.sl0 hs) (Nat.le_refl _) (by omega)
  rw [List.take_length] at h4
  refine Exists.intro _ (Exists.intro _ (And.intro (callX_args h4) ?_))
  refine And.intro rfl (Exists.intro _ (And.intro rfl ?_))
  refine And.intro rfl (Exists.intro _ (And.intro rfl ?_))
  obtain ⟨H5, h5, k5⟩ := refenough_ok (kn := kn) (lo := lo) (st := st) (fu := fu) (re := re) ((k13.trans k4).sl0 hs) (by omega)
  refine Exists.intro _ (Exists.intro _ (And.intro (callX_args h5) ?_))
  refine And.intro rfl (Exists.intro _ (And.intro rfl ?_))
  refine And.intro rfl (Exists.intro _ (And.intro rfl ?_))
  intro t ht
  obtain rfl : t = true := by rw [← ht]; simp
  intro t ht
  obtain rfl : t = true := by rw [← ht]; simp
  refine And.intro rfl (Exists.intro (.bool true) (And.intro rfl ?_))
  intro t ht
  obtain rfl : t = true := by rw [← ht]; simp
  refine And.intro rfl (Exists.intro (.bool true) (And.intro rfl ?_))
  intro t ht
  obtain rfl : t = true := by rw [← ht]; simp
  refine And.intro rfl (Exists.intro (.bool true) (And.intro rfl ?_))
  refine Exists.intro _ (Exists.intro _ (And.intro (callX_known hkn) ?_))
  refine And.intro rfl (Exists.intro (.bool true) (And.intro rfl ?_))
  exact And.intro trivial (Exists.intro _ (And.intro rfl rfl))
end
end Go.Ax

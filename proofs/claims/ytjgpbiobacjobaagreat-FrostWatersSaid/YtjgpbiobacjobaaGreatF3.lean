/-
  The law FrostRow, for all inputs.
-/
import Derived.Test.YtjgpbiobacjobaaGreatF2
set_option linter.all false
namespace Go.Ax
open Go Go.RowKit Go.Proofs

theorem rowGo_lt {fu re : Int} : ∀ {l : List Int} {w : Int} {i j : Nat}, rowGo fu re w l i = some j → i ≤ j ∧ j < i + l.length
  | [], _, _, _, h => by cases h
  | u :: r, w, i, j, h => by
    rw [rowGo] at h
    split at h
    · cases h; simp
    · have := rowGo_lt h
      simp only [List.length_cons]; omega
theorem rowGo_take {fu re : Int} : ∀ (l : List Int) (k : Nat) (w : Int) (i : Nat), rowGo fu re w (l.take k) i = match rowGo fu re w l i with | some j => if j < i + k then some j else none | none => none
  | [], k, w, i => by simp [rowGo]
  | u :: r, 0, w, i => by
    rw [List.take_zero, rowGo]
    cases h : rowGo fu re w (u :: r) i with
    | none => rfl
    | some j => simp only; rw [if_neg (by have := rowGo_lt h; omega)]
  | u :: r, k + 1, w, i => by
    rw [List.take_succ_cons, rowGo, rowGo]
    by_cases hu : u > w
    · rw [if_pos hu, if_pos hu]; simp only; rw [if_pos (by omega)]
    · rw [if_neg hu, if_neg hu, rowGo_take r k]
      have e : i + 1 + k = i + (k + 1) := by omega
      rw [e]
theorem rowGo_more {fu re re' : Int} (hr : re ≤ re') : ∀ (l : List Int) (w w' : Int) (i j : Nat), w ≤ w' → rowGo fu re' w' l i = some j → ∃ j0, rowGo fu re w l i = some j0 ∧ j0 ≤ j
  | [], _, _, _, _, _, h => by cases h
  | u :: r, w, w', i, j, hw, h => by
    have hl := (rowGo_lt h).1
    rw [rowGo] at h
    rw [rowGo]
    by_cases hu : u > w
    · exact ⟨i, by rw [if_pos hu], hl⟩
    · rw [if_neg hu]
      rw [if_neg (by omega)] at h
      exact rowGo_more hr r _ _ (i + 1) j (by omega) h
theorem wrap_id {x : Int} (h : 0 ≤ x ∧ x < 9223372036854775808) : IntKind.wrap .i64 x = x := by
  show (let m := x % (2 ^ 64 : Int); if (true && decide (m ≥ (2 ^ (64 - 1) : Int))) = true then m - (2 ^ 64 : Int) else m) = _
  have e : (2 ^ 64 : Int) = 18446744073709551616 := by rfl
  have e2 : (2 ^ (64 - 1) : Int) = 9223372036854775808 := by rfl
  rw [e, e2]
  have hm : x % 18446744073709551616 = x := Int.emod_eq_of_lt h.1 (by omega)
  simp only [hm, Bool.true_and]
  rw [if_neg (by simp; omega)]
theorem rowV_cases {st fu re : Int} {l : List Int} (h : l.length ≤ 64) : ((rowV st fu re l) = (0, 2) ∧ rowOk st fu re l = false) ∨ (rowOk st fu re l = true ∧ ((∃ i, rowGo fu re st l 0 = some i ∧ rowV st fu re l = ((i : Int), 0)) ∨ (rowGo fu re st l 0 = none ∧ rowV st fu re l = (0, 4)))) := by
  unfold rowV
  rw [if_neg (by omega)]
  cases hok : rowOk st fu re l
  · exact .inl ⟨by simp, rfl⟩
  · refine .inr ⟨rfl, ?_⟩
    rw [if_pos rfl]
    cases hg : rowGo fu re st l 0 with
    | none => exact .inr ⟨rfl, rfl⟩
    | some i => exact .inl ⟨i, rfl, rfl⟩
theorem u36 : Tryz.prog.underlying 36 = some (.slice 3) := by kernel_rfl
theorem i3 : ∃ i, Tryz.prog.info? 3 = some i := by
  have h : (Tryz.prog.info? 3).isSome = true := by kernel_rfl
  exact Option.isSome_iff_exists.1 h
/-- What is given, cut short: where it lies then. -/
theorem slice_ro_ex {P : Program} {H : Hp} {t e : TypeId} {m cap h : Nat} {a : Option Addr} {cs : List Value} {i : TypeInfo} (ht : P.underlying t = some (.slice e)) (hi : P.info? e = some i)
    (hs : Sl H a m cap cs) (hro : ∀ b, a = some ⟨b, 0, none⟩ → H.t.get b = some (.ro cs)) (hh : h ≤ m) :
    ∃ a' cap' kd, (∀ b, kd = .read b → b < H.next) ∧ Sl H a' h cap' cs ∧ ∀ {lo n : Nat} {S : Rg} {d : Option Tmp} {ty : TypeId} {x y : Operand} {p : String} {k : IntKind}, evS S x = some (.slice a m cap) → evS S y = some (.int k (h : Int)) →
      heapOp P lo (frS n S) H ⟨d, .slice t x none (some y) none, ty, p, #[], none⟩ = some (.val (.slice a' h cap') H, kd) := by
  rcases hs with ⟨rfl, rfl, rfl, rfl⟩ | ⟨b, rfl, hr, hc⟩
  · have : h = 0 := by omega
    subst this
    refine ⟨none, 0, .pure, (fun b e => (by cases e)), .inl ⟨rfl, rfl, rfl, rfl⟩, fun hx hy => ?_⟩
    unfold heapOp
    simp only [ht, ev_frS, hx, hi, boundOf, hy]
    rfl
  · refine ⟨some ⟨b, 0, none⟩, cap, .read b, fun b' e => by cases e; exact hr.lt, .inr ⟨b, rfl, hr, by omega⟩, fun hx hy => ?_⟩
    unfold heapOp
    simp only [ht, ev_frS, hx, hi, boundOf, hy, hro b rfl, show ((h : Nat) : Int) = Int.ofNat h from rfl, Nat.ble_eq_true_of_le (show h ≤ cap by omega), Nat.ble_eq_true_of_le (Nat.zero_le h), Bool.and_self, cond_true, Nat.sub_zero, Nat.zero_mul]
    cases hb : Nat.beq cap 0 <;> simp [Addr.add]
section
variable {kn : FuncId → Option Bool} {lo : Nat} {H : Hp}
theorem row_ok {st fu re : Int} {sa : Option Addr} {cap cut more : Nat} {us : List Int} (hkn : kn 16 = some true) (hs : Sl H sa us.length cap (ints us)) (hro : ∀ b, sa = some ⟨b, 0, none⟩ → H.t.get b = some (.ro (ints us))) (hcut : cut ≤ 255) (hmore : more ≤ 65535) :
    ∃ H', FnX Tryz.prog kn lo 13 [iv st, iv fu, iv re, .slice sa us.length cap, .int .u8 cut, .int .u16 more] H (.bool true) H' := by
  have key := fnX_low (kn := kn) (lo := lo) (H := H) (args := [iv st, iv fu, iv re, .slice sa us.length cap, .int .u8 cut, .int .u16 more]) (Q := fun v H' => v = .bool true) Tryz.func13 B13 N13 Z13 L13 (by simp) ?_
  · obtain ⟨v, H', h, rfl⟩ := key; exact ⟨H', h⟩
  obtain ⟨i3', hi3⟩ := i3
  have ro1 : ∀ {H1 : Hp}, Keep H H1 [] → ∀ b, sa = some ⟨b, 0, none⟩ → H1.t.get b = some (.ro (ints us)) := fun k b e => by
    have hlt : b < H.next := by
      rcases hs with ⟨h, _⟩ | ⟨b', h, hr, _⟩
      · rw [h] at e; cases e
      · rw [h] at e; cases e; exact hr.lt
    rw [k.2 b hlt (by simp)]; exact hro b e
  refine And.intro (fun hgt => ?_) (fun hle => ?_)
  · refine Exists.intro _ (Exists.intro _ (And.intro (callX_known hkn) ?_))
    exact And.intro trivial (Exists.intro _ (And.intro rfl rfl))
  have h64 : us.length ≤ 64 := by
    have : (us.length : Int) ≤ 64 := by simpa using hle
    omega
  obtain ⟨H1, h1, k1⟩ := enough_ok (kn := kn) (lo := lo) (st := st) (fu := fu) (re := re) hs (Nat.le_refl _) (by omega)
  rw [List.take_length] at h1
  refine Exists.intro _ (Exists.intro _ (And.intro (callX_args h1) ?_))
  refine And.intro rfl (Exists.intro _ (And.intro rfl ?_))
  refine And.intro rfl (Exists.intro _ (And.intro rfl ?_))
  rcases rowV_cases (st := st) (fu := fu) (re := re) h64 with ⟨hv, _⟩ | ⟨hok, hg⟩
  · rw [hv]
    (intro t ht; cases t <;> first | (exfalso; revert ht; simp <;> omega) | skip)
    (intro t ht; cases t <;> first | (exfalso; revert ht; simp <;> omega) | skip)
    refine And.intro rfl (Exists.intro (.bool true) (And.intro rfl ?_))
    refine condT ?_
    (intro t ht; cases t <;> first | (exfalso; revert ht; simp <;> omega) | skip)
    refine Exists.intro _ (Exists.intro _ (And.intro (callX_known hkn) ?_))
    refine And.intro rfl (Exists.intro (.bool true) (And.intro rfl ?_))
    exact And.intro trivial (Exists.intro _ (And.intro rfl rfl))
  have hall := hok
  unfold rowOk at hall
  simp only [Bool.and_eq_true] at hall
  have b1 : 0 ≤ st ∧ st ≤ fu := by simpa [inB] using hall.1.1.1
  have b2 : 0 ≤ fu ∧ fu ≤ 1099511627776 := by simpa [inB] using hall.1.1.2
  have b3 : 0 ≤ re ∧ re ≤ 1099511627776 := by simpa [inB] using hall.1.2
  have b4 := List.all_eq_true.1 hall.2
  rcases hg with ⟨i, hg, hv⟩ | ⟨hg, hv⟩
  · rw [hv]
    have hil : i < us.length := by have := rowGo_lt hg; omega
    (intro t ht; cases t <;> first | (exfalso; revert ht; simp <;> omega) | skip)
    refine And.intro rfl (Exists.intro (.bool false) (And.intro rfl ?_))
    refine condF ?_
    refine condT ?_
    (intro t ht; cases t <;> first | (exfalso; revert ht; simp <;> omega) | skip)
    (intro t ht; cases t <;> first | (exfalso; revert ht; simp <;> omega) | skip)
    refine And.intro rfl (Exists.intro (.bool false) (And.intro rfl ?_))
    refine condF ?_
    refine And.intro rfl (Exists.intro (.int .i64 (IntKind.wrap .i64 (cut : Int))) (And.intro (by kernel_rfl) ?_))
    rw [wrap_id ⟨by omega, by omega⟩]
    refine And.intro ⟨by omega, by omega⟩ ?_
    refine And.intro (by omega) (And.intro (by omega) (And.intro ⟨by omega, by omega⟩ (And.intro ⟨by omega, by omega⟩ ?_)))
    have hk0 : (cut : Int) % ((us.length : Int) + 1) = ((cut % (us.length + 1) : Nat) : Int) := by simp
    have hk1 : cut % (us.length + 1) ≤ us.length := by have := Nat.mod_lt cut (show 0 < us.length + 1 by omega); omega
    rw [hk0]
    generalize cut % (us.length + 1) = k at hk1
    obtain ⟨a2, cap2, kd2, q1, q2, q3⟩ := slice_ro_ex (H := H1) (h := k) u36 hi3 (k1.sl0 hs) (ro1 k1) hk1
    refine And.intro rfl (Or.inr (And.intro (by kernel_rfl) (Exists.intro _ (Exists.intro _ (Exists.intro _ (And.intro (q3 rfl rfl) (And.intro q1 ?_)))))))
    obtain ⟨H2, h2, k2⟩ := enough_ok (kn := kn) (lo := lo) (st := st) (fu := fu) (re := re) q2 hk1 (by omega)
    refine Exists.intro _ (Exists.intro _ (And.intro (callX_args h2) ?_))
    refine And.intro rfl (Exists.intro _ (And.intro rfl ?_))
    refine And.intro rfl (Exists.intro _ (And.intro rfl ?_))
    have hlk : (us.take k).length ≤ 64 := by simp; omega
    have htk := rowGo_take (fu := fu) (re := re) us k st 0
    rw [hg] at htk
    have hok2 : rowOk st fu re (us.take k) = true := by
      unfold rowOk at hok ⊢
      simp only [Bool.and_eq_true] at hok ⊢
      exact ⟨hok.1, List.all_eq_true.2 fun x hx => List.all_eq_true.1 hok.2 x (List.mem_of_mem_take hx)⟩
    have fact : (k ≤ i ∧ rowV st fu re (us.take k) = (0, 4)) ∨ (i < k ∧ rowV st fu re (us.take k) = ((i : Int), 0)) := by
      rcases rowV_cases (st := st) (fu := fu) (re := re) hlk with ⟨_, w⟩ | ⟨_, w⟩
      · rw [hok2] at w; cases w
      · simp only [Nat.zero_add] at htk
        by_cases hki : i < k
        · rw [if_pos hki] at htk
          rcases w with ⟨j, w1, w2⟩ | ⟨w1, _⟩
          · rw [htk] at w1; cases w1; exact .inr ⟨hki, w2⟩
          · rw [htk] at w1; cases w1
        · rw [if_neg hki] at htk
          rcases w with ⟨j, w1, w2⟩ | ⟨w1, w2⟩
          · rw [htk] at w1; cases w1
          · exact .inl ⟨by omega, w2⟩
    rcases fact with ⟨hkl, hv2⟩ | ⟨hkl, hv2⟩
    · rw [hv2]
      (intro t ht; cases t <;> first | (exfalso; revert ht; simp <;> omega) | skip)
      (intro t ht; cases t <;> first | (exfalso; revert ht; simp <;> omega) | skip)
      refine And.intro rfl (Exists.intro (.bool false) (And.intro rfl ?_))
      (intro t ht; cases t <;> first | (exfalso; revert ht; simp <;> omega) | skip)
      refine And.intro rfl (Exists.intro (.bool false) (And.intro rfl ?_))
      refine And.intro rfl (Exists.intro (.bool false) (And.intro rfl ?_))
      refine condF ?_
      have k02 := k1.trans k2
      refine And.intro rfl (Exists.intro (.int .i64 (IntKind.wrap .i64 (more : Int))) (And.intro (by kernel_rfl) ?_))
      rw [wrap_id (x := (more : Int)) ⟨by omega, by omega⟩]
      refine And.intro ⟨by omega, by omega⟩ ?_
      refine And.intro rfl (Exists.intro (.int .i64 (IntKind.wrap .i64 (more : Int))) (And.intro (by kernel_rfl) ?_))
      rw [wrap_id (x := (more : Int)) ⟨by omega, by omega⟩]
      refine And.intro ⟨by omega, by omega⟩ ?_
      obtain ⟨H3, h3, k3⟩ := enough_ok (kn := kn) (lo := lo) (st := min fu (st + more)) (fu := fu) (re := min 1099511627776 (re + more)) (k02.sl0 hs) (Nat.le_refl _) (by omega)
      rw [List.take_length] at h3
      refine Exists.intro _ (Exists.intro _ (And.intro (callX_args h3) ?_))
      refine And.intro rfl (Exists.intro _ (And.intro rfl ?_))
      refine And.intro rfl (Exists.intro _ (And.intro rfl ?_))
      have k03 := k02.trans k3
      have hok3 : rowOk (min fu (st + more)) fu (min 1099511627776 (re + more)) us = true := by
        unfold rowOk at hok ⊢
        simp only [Bool.and_eq_true] at hok ⊢
        exact ⟨⟨⟨by simp [inB]; omega, hok.1.1.2⟩, by simp [inB]; omega⟩, hok.2⟩
      have fact3 : rowV (min fu (st + more)) fu (min 1099511627776 (re + more)) us = (0, 4) ∨ ∃ j : Nat, i ≤ j ∧ rowV (min fu (st + more)) fu (min 1099511627776 (re + more)) us = ((j : Int), 0) := by
        rcases rowV_cases (st := min fu (st + more)) (fu := fu) (re := min 1099511627776 (re + more)) h64 with ⟨_, w⟩ | ⟨_, ⟨j, w1, w2⟩ | ⟨_, w2⟩⟩
        · rw [hok3] at w; cases w
        · obtain ⟨j0, w3, w4⟩ := rowGo_more (re := re) (by omega) us st _ 0 j (by omega) w1
          rw [hg] at w3; cases w3
          exact .inr ⟨j, w4, w2⟩
        · exact .inl w2
      rcases fact3 with hv3 | ⟨j, hij, hv3⟩
      · rw [hv3]
        (intro t ht; cases t <;> first | (exfalso; revert ht; simp <;> omega) | skip)
        refine And.intro rfl (Exists.intro (.bool false) (And.intro rfl ?_))
        refine condF ?_
        obtain ⟨a3, cap3, kd3, r1, r2, r3⟩ := slice_ro_ex (H := H3) (h := i) u36 hi3 (k03.sl0 hs) (ro1 k03) (by omega)
        refine And.intro rfl (Or.inr (And.intro (by kernel_rfl) (Exists.intro _ (Exists.intro _ (Exists.intro _ (And.intro (r3 rfl rfl) (And.intro r1 ?_)))))))
        refine loop_low (fn := Tryz.f13) E13_1 N13 L13x1 (fun (s : Nat × Int) => [(1, iv fu), (2, iv re), (3, .slice sa us.length cap), (13, iv (i : Int)), (14, iv 0), (21, iv s.2), (132, .slice a3 i cap3), (133, iv i), (134, iv s.1)])
          (fun k s H' => s.1 + k = i ∧ H' = H3 ∧ 0 ≤ s.2 ∧ s.2 ≤ fu ∧ rowGo fu re st us 0 = rowGo fu re s.2 (us.drop s.1) s.1) i (0, st) ⟨by simp, rfl, b1.1, b1.2, rfl⟩ ⟨rfl, rfl, rfl, rfl, rfl, rfl, rfl, rfl, rfl, trivial⟩ ?_
        rintro k' ⟨p, w⟩ H4 ⟨hik, rfl, hw0, hwf, hgo⟩
        simp only at hik hw0 hwf hgo
        refine And.intro (fun hlt => ?_) (fun hge => ?_)
        · have hp : p < i := by simpa using hlt
          rcases r2 with ⟨_, h0, _⟩ | ⟨sb, rfl, hc, _⟩
          · omega
          obtain ⟨x, hx⟩ := get_some (l := us) (i := p) (by omega)
          have b5 : 0 ≤ x ∧ x ≤ 1099511627776 := by simpa [inB] using b4 x (List.mem_of_getElem? hx)
          rw [rowGo_drop hx, hg] at hgo
          refine Exists.intro p (And.intro rfl (And.intro hp ?_))
          refine Exists.intro _ (Exists.intro _ (And.intro hc.of (And.intro (ints_at hx) ?_)))
          refine And.intro (fun hgt => ?_) (fun hle => ?_)
          · exfalso
            have hgt : w < x := by simpa using hgt
            rw [if_pos hgt] at hgo
            cases hgo; omega
          · have hle : ¬ x > w := by simpa using hle
            rw [if_neg hle] at hgo
            refine And.intro ⟨by omega, by omega⟩ ?_
            refine And.intro ⟨by omega, by omega⟩ ?_
            refine And.intro ⟨by omega, by omega⟩ ?_
            exact ⟨k' - 1, (p + 1, min fu (w - x + re)), by omega, ⟨by simp only; omega, rfl, by simp only; omega, by simp only; omega, hg.trans hgo⟩, rfl, rfl, rfl, rfl, rfl, rfl, rfl, rfl, rfl, trivial⟩
        · have hp : ¬ p < i := by simpa using hge
          have e : p = i := by omega
          subst e
          obtain ⟨x, hx⟩ := get_some (l := us) (i := p) (by omega)
          rw [rowGo_drop hx, hg] at hgo
          have hxw : x > w := by
            rcases Int.lt_or_le w x with q | q
            · exact q
            · rw [if_neg (by omega)] at hgo
              have := (rowGo_lt hgo.symm).1
              omega
          have hs3 := k03.sl0 hs
          rcases hs3 with ⟨_, h0, _⟩ | ⟨sb, rfl, hc, _⟩
          · omega
          (intro t ht; cases t <;> first | (exfalso; revert ht; simp <;> omega) | skip)
          refine Exists.intro p (And.intro rfl (And.intro (by omega) ?_))
          refine Exists.intro _ (Exists.intro _ (And.intro hc.of (And.intro (ints_at hx) ?_)))
          (intro t ht; cases t <;> first | (exfalso; revert ht; simp <;> omega) | skip)
          refine And.intro rfl (Exists.intro (.bool true) (And.intro rfl ?_))
          refine Exists.intro _ (Exists.intro _ (And.intro (callX_known hkn) ?_))
          refine And.intro rfl (Exists.intro (.bool true) (And.intro rfl ?_))
          exact And.intro trivial (Exists.intro _ (And.intro rfl rfl))
      · rw [hv3]
        (intro t ht; cases t <;> first | (exfalso; revert ht; simp <;> omega) | skip)
        (intro t ht; cases t <;> first | (exfalso; revert ht; simp <;> omega) | skip)
        (intro t ht; cases t <;> first | (exfalso; revert ht; simp <;> omega) | skip)
        refine And.intro rfl (Exists.intro (.bool false) (And.intro rfl ?_))
        (intro t ht; cases t <;> first | (exfalso; revert ht; simp <;> omega) | skip)
        refine And.intro rfl (Exists.intro (.bool false) (And.intro rfl ?_))
        refine And.intro rfl (Exists.intro (.bool false) (And.intro rfl ?_))
        refine condF ?_
        obtain ⟨a3, cap3, kd3, r1, r2, r3⟩ := slice_ro_ex (H := H3) (h := i) u36 hi3 (k03.sl0 hs) (ro1 k03) (by omega)
        refine And.intro rfl (Or.inr (And.intro (by kernel_rfl) (Exists.intro _ (Exists.intro _ (Exists.intro _ (And.intro (r3 rfl rfl) (And.intro r1 ?_)))))))
        refine loop_low (fn := Tryz.f13) E13_1 N13 L13x1 (fun (s : Nat × Int) => [(1, iv fu), (2, iv re), (3, .slice sa us.length cap), (13, iv (i : Int)), (14, iv 0), (21, iv s.2), (132, .slice a3 i cap3), (133, iv i), (134, iv s.1)])
          (fun k s H' => s.1 + k = i ∧ H' = H3 ∧ 0 ≤ s.2 ∧ s.2 ≤ fu ∧ rowGo fu re st us 0 = rowGo fu re s.2 (us.drop s.1) s.1) i (0, st) ⟨by simp, rfl, b1.1, b1.2, rfl⟩ ⟨rfl, rfl, rfl, rfl, rfl, rfl, rfl, rfl, rfl, trivial⟩ ?_
        rintro k' ⟨p, w⟩ H4 ⟨hik, rfl, hw0, hwf, hgo⟩
        simp only at hik hw0 hwf hgo
        refine And.intro (fun hlt => ?_) (fun hge => ?_)
        · have hp : p < i := by simpa using hlt
          rcases r2 with ⟨_, h0, _⟩ | ⟨sb, rfl, hc, _⟩
          · omega
          obtain ⟨x, hx⟩ := get_some (l := us) (i := p) (by omega)
          have b5 : 0 ≤ x ∧ x ≤ 1099511627776 := by simpa [inB] using b4 x (List.mem_of_getElem? hx)
          rw [rowGo_drop hx, hg] at hgo
          refine Exists.intro p (And.intro rfl (And.intro hp ?_))
          refine Exists.intro _ (Exists.intro _ (And.intro hc.of (And.intro (ints_at hx) ?_)))
          refine And.intro (fun hgt => ?_) (fun hle => ?_)
          · exfalso
            have hgt : w < x := by simpa using hgt
            rw [if_pos hgt] at hgo
            cases hgo; omega
          · have hle : ¬ x > w := by simpa using hle
            rw [if_neg hle] at hgo
            refine And.intro ⟨by omega, by omega⟩ ?_
            refine And.intro ⟨by omega, by omega⟩ ?_
            refine And.intro ⟨by omega, by omega⟩ ?_
            exact ⟨k' - 1, (p + 1, min fu (w - x + re)), by omega, ⟨by simp only; omega, rfl, by simp only; omega, by simp only; omega, hg.trans hgo⟩, rfl, rfl, rfl, rfl, rfl, rfl, rfl, rfl, rfl, trivial⟩
        · have hp : ¬ p < i := by simpa using hge
          have e : p = i := by omega
          subst e
          obtain ⟨x, hx⟩ := get_some (l := us) (i := p) (by omega)
          rw [rowGo_drop hx, hg] at hgo
          have hxw : x > w := by
            rcases Int.lt_or_le w x with q | q
            · exact q
            · rw [if_neg (by omega)] at hgo
              have := (rowGo_lt hgo.symm).1
              omega
          have hs3 := k03.sl0 hs
          rcases hs3 with ⟨_, h0, _⟩ | ⟨sb, rfl, hc, _⟩
          · omega
          (intro t ht; cases t <;> first | (exfalso; revert ht; simp <;> omega) | skip)
          refine Exists.intro p (And.intro rfl (And.intro (by omega) ?_))
          refine Exists.intro _ (Exists.intro _ (And.intro hc.of (And.intro (ints_at hx) ?_)))
          (intro t ht; cases t <;> first | (exfalso; revert ht; simp <;> omega) | skip)
          refine And.intro rfl (Exists.intro (.bool true) (And.intro rfl ?_))
          refine Exists.intro _ (Exists.intro _ (And.intro (callX_known hkn) ?_))
          refine And.intro rfl (Exists.intro (.bool true) (And.intro rfl ?_))
          exact And.intro trivial (Exists.intro _ (And.intro rfl rfl))
    · rw [hv2]
      (intro t ht; cases t <;> first | (exfalso; revert ht; simp <;> omega) | skip)
      refine And.intro rfl (Exists.intro (.bool false) (And.intro rfl ?_))
      (intro t ht; cases t <;> first | (exfalso; revert ht; simp <;> omega) | skip)
      (intro t ht; cases t <;> first | (exfalso; revert ht; simp <;> omega) | skip)
      (intro t ht; cases t <;> first | (exfalso; revert ht; simp <;> omega) | skip)
      refine And.intro rfl (Exists.intro (.bool false) (And.intro rfl ?_))
      refine And.intro rfl (Exists.intro (.bool false) (And.intro rfl ?_))
      refine And.intro rfl (Exists.intro (.bool false) (And.intro rfl ?_))
      refine condF ?_
      have k02 := k1.trans k2
      refine And.intro rfl (Exists.intro (.int .i64 (IntKind.wrap .i64 (more : Int))) (And.intro (by kernel_rfl) ?_))
      rw [wrap_id (x := (more : Int)) ⟨by omega, by omega⟩]
      refine And.intro ⟨by omega, by omega⟩ ?_
      refine And.intro rfl (Exists.intro (.int .i64 (IntKind.wrap .i64 (more : Int))) (And.intro (by kernel_rfl) ?_))
      rw [wrap_id (x := (more : Int)) ⟨by omega, by omega⟩]
      refine And.intro ⟨by omega, by omega⟩ ?_
      obtain ⟨H3, h3, k3⟩ := enough_ok (kn := kn) (lo := lo) (st := min fu (st + more)) (fu := fu) (re := min 1099511627776 (re + more)) (k02.sl0 hs) (Nat.le_refl _) (by omega)
      rw [List.take_length] at h3
      refine Exists.intro _ (Exists.intro _ (And.intro (callX_args h3) ?_))
      refine And.intro rfl (Exists.intro _ (And.intro rfl ?_))
      refine And.intro rfl (Exists.intro _ (And.intro rfl ?_))
      have k03 := k02.trans k3
      have hok3 : rowOk (min fu (st + more)) fu (min 1099511627776 (re + more)) us = true := by
        unfold rowOk at hok ⊢
        simp only [Bool.and_eq_true] at hok ⊢
        exact ⟨⟨⟨by simp [inB]; omega, hok.1.1.2⟩, by simp [inB]; omega⟩, hok.2⟩
      have fact3 : rowV (min fu (st + more)) fu (min 1099511627776 (re + more)) us = (0, 4) ∨ ∃ j : Nat, i ≤ j ∧ rowV (min fu (st + more)) fu (min 1099511627776 (re + more)) us = ((j : Int), 0) := by
        rcases rowV_cases (st := min fu (st + more)) (fu := fu) (re := min 1099511627776 (re + more)) h64 with ⟨_, w⟩ | ⟨_, ⟨j, w1, w2⟩ | ⟨_, w2⟩⟩
        · rw [hok3] at w; cases w
        · obtain ⟨j0, w3, w4⟩ := rowGo_more (re := re) (by omega) us st _ 0 j (by omega) w1
          rw [hg] at w3; cases w3
          exact .inr ⟨j, w4, w2⟩
        · exact .inl w2
      rcases fact3 with hv3 | ⟨j, hij, hv3⟩
      · rw [hv3]
        (intro t ht; cases t <;> first | (exfalso; revert ht; simp <;> omega) | skip)
        refine And.intro rfl (Exists.intro (.bool false) (And.intro rfl ?_))
        refine condF ?_
        obtain ⟨a3, cap3, kd3, r1, r2, r3⟩ := slice_ro_ex (H := H3) (h := i) u36 hi3 (k03.sl0 hs) (ro1 k03) (by omega)
        refine And.intro rfl (Or.inr (And.intro (by kernel_rfl) (Exists.intro _ (Exists.intro _ (Exists.intro _ (And.intro (r3 rfl rfl) (And.intro r1 ?_)))))))
        refine loop_low (fn := Tryz.f13) E13_1 N13 L13x1 (fun (s : Nat × Int) => [(1, iv fu), (2, iv re), (3, .slice sa us.length cap), (13, iv (i : Int)), (14, iv 0), (21, iv s.2), (132, .slice a3 i cap3), (133, iv i), (134, iv s.1)])
          (fun k s H' => s.1 + k = i ∧ H' = H3 ∧ 0 ≤ s.2 ∧ s.2 ≤ fu ∧ rowGo fu re st us 0 = rowGo fu re s.2 (us.drop s.1) s.1) i (0, st) ⟨by simp, rfl, b1.1, b1.2, rfl⟩ ⟨rfl, rfl, rfl, rfl, rfl, rfl, rfl, rfl, rfl, trivial⟩ ?_
        rintro k' ⟨p, w⟩ H4 ⟨hik, rfl, hw0, hwf, hgo⟩
        simp only at hik hw0 hwf hgo
        refine And.intro (fun hlt => ?_) (fun hge => ?_)
        · have hp : p < i := by simpa using hlt
          rcases r2 with ⟨_, h0, _⟩ | ⟨sb, rfl, hc, _⟩
          · omega
          obtain ⟨x, hx⟩ := get_some (l := us) (i := p) (by omega)
          have b5 : 0 ≤ x ∧ x ≤ 1099511627776 := by simpa [inB] using b4 x (List.mem_of_getElem? hx)
          rw [rowGo_drop hx, hg] at hgo
          refine Exists.intro p (And.intro rfl (And.intro hp ?_))
          refine Exists.intro _ (Exists.intro _ (And.intro hc.of (And.intro (ints_at hx) ?_)))
          refine And.intro (fun hgt => ?_) (fun hle => ?_)
          · exfalso
            have hgt : w < x := by simpa using hgt
            rw [if_pos hgt] at hgo
            cases hgo; omega
          · have hle : ¬ x > w := by simpa using hle
            rw [if_neg hle] at hgo
            refine And.intro ⟨by omega, by omega⟩ ?_
            refine And.intro ⟨by omega, by omega⟩ ?_
            refine And.intro ⟨by omega, by omega⟩ ?_
            exact ⟨k' - 1, (p + 1, min fu (w - x + re)), by omega, ⟨by simp only; omega, rfl, by simp only; omega, by simp only; omega, hg.trans hgo⟩, rfl, rfl, rfl, rfl, rfl, rfl, rfl, rfl, rfl, trivial⟩
        · have hp : ¬ p < i := by simpa using hge
          have e : p = i := by omega
          subst e
          obtain ⟨x, hx⟩ := get_some (l := us) (i := p) (by omega)
          rw [rowGo_drop hx, hg] at hgo
          have hxw : x > w := by
            rcases Int.lt_or_le w x with q | q
            · exact q
            · rw [if_neg (by omega)] at hgo
              have := (rowGo_lt hgo.symm).1
              omega
          have hs3 := k03.sl0 hs
          rcases hs3 with ⟨_, h0, _⟩ | ⟨sb, rfl, hc, _⟩
          · omega
          (intro t ht; cases t <;> first | (exfalso; revert ht; simp <;> omega) | skip)
          refine Exists.intro p (And.intro rfl (And.intro (by omega) ?_))
          refine Exists.intro _ (Exists.intro _ (And.intro hc.of (And.intro (ints_at hx) ?_)))
          (intro t ht; cases t <;> first | (exfalso; revert ht; simp <;> omega) | skip)
          refine And.intro rfl (Exists.intro (.bool true) (And.intro rfl ?_))
          refine Exists.intro _ (Exists.intro _ (And.intro (callX_known hkn) ?_))
          refine And.intro rfl (Exists.intro (.bool true) (And.intro rfl ?_))
          exact And.intro trivial (Exists.intro _ (And.intro rfl rfl))
      · rw [hv3]
        (intro t ht; cases t <;> first | (exfalso; revert ht; simp <;> omega) | skip)
        (intro t ht; cases t <;> first | (exfalso; revert ht; simp <;> omega) | skip)
        (intro t ht; cases t <;> first | (exfalso; revert ht; simp <;> omega) | skip)
        refine And.intro rfl (Exists.intro (.bool false) (And.intro rfl ?_))
        (intro t ht; cases t <;> first | (exfalso; revert ht; simp <;> omega) | skip)
        refine And.intro rfl (Exists.intro (.bool false) (And.intro rfl ?_))
        refine And.intro rfl (Exists.intro (.bool false) (And.intro rfl ?_))
        refine condF ?_
        obtain ⟨a3, cap3, kd3, r1, r2, r3⟩ := slice_ro_ex (H := H3) (h := i) u36 hi3 (k03.sl0 hs) (ro1 k03) (by omega)
        refine And.intro rfl (Or.inr (And.intro (by kernel_rfl) (Exists.intro _ (Exists.intro _ (Exists.intro _ (And.intro (r3 rfl rfl) (And.intro r1 ?_)))))))
        refine loop_low (fn := Tryz.f13) E13_1 N13 L13x1 (fun (s : Nat × Int) => [(1, iv fu), (2, iv re), (3, .slice sa us.length cap), (13, iv (i : Int)), (14, iv 0), (21, iv s.2), (132, .slice a3 i cap3), (133, iv i), (134, iv s.1)])
          (fun k s H' => s.1 + k = i ∧ H' = H3 ∧ 0 ≤ s.2 ∧ s.2 ≤ fu ∧ rowGo fu re st us 0 = rowGo fu re s.2 (us.drop s.1) s.1) i (0, st) ⟨by simp, rfl, b1.1, b1.2, rfl⟩ ⟨rfl, rfl, rfl, rfl, rfl, rfl, rfl, rfl, rfl, trivial⟩ ?_
        rintro k' ⟨p, w⟩ H4 ⟨hik, rfl, hw0, hwf, hgo⟩
        simp only at hik hw0 hwf hgo
        refine And.intro (fun hlt => ?_) (fun hge => ?_)
        · have hp : p < i := by simpa using hlt
          rcases r2 with ⟨_, h0, _⟩ | ⟨sb, rfl, hc, _⟩
          · omega
          obtain ⟨x, hx⟩ := get_some (l := us) (i := p) (by omega)
          have b5 : 0 ≤ x ∧ x ≤ 1099511627776 := by simpa [inB] using b4 x (List.mem_of_getElem? hx)
          rw [rowGo_drop hx, hg] at hgo
          refine Exists.intro p (And.intro rfl (And.intro hp ?_))
          refine Exists.intro _ (Exists.intro _ (And.intro hc.of (And.intro (ints_at hx) ?_)))
          refine And.intro (fun hgt => ?_) (fun hle => ?_)
          · exfalso
            have hgt : w < x := by simpa using hgt
            rw [if_pos hgt] at hgo
            cases hgo; omega
          · have hle : ¬ x > w := by simpa using hle
            rw [if_neg hle] at hgo
            refine And.intro ⟨by omega, by omega⟩ ?_
            refine And.intro ⟨by omega, by omega⟩ ?_
            refine And.intro ⟨by omega, by omega⟩ ?_
            exact ⟨k' - 1, (p + 1, min fu (w - x + re)), by omega, ⟨by simp only; omega, rfl, by simp only; omega, by simp only; omega, hg.trans hgo⟩, rfl, rfl, rfl, rfl, rfl, rfl, rfl, rfl, rfl, trivial⟩
        · have hp : ¬ p < i := by simpa using hge
          have e : p = i := by omega
          subst e
          obtain ⟨x, hx⟩ := get_some (l := us) (i := p) (by omega)
          rw [rowGo_drop hx, hg] at hgo
          have hxw : x > w := by
            rcases Int.lt_or_le w x with q | q
            · exact q
            · rw [if_neg (by omega)] at hgo
              have := (rowGo_lt hgo.symm).1
              omega
          have hs3 := k03.sl0 hs
          rcases hs3 with ⟨_, h0, _⟩ | ⟨sb, rfl, hc, _⟩
          · omega
          (intro t ht; cases t <;> first | (exfalso; revert ht; simp <;> omega) | skip)
          refine Exists.intro p (And.intro rfl (And.intro (by omega) ?_))
          refine Exists.intro _ (Exists.intro _ (And.intro hc.of (And.intro (ints_at hx) ?_)))
          (intro t ht; cases t <;> first | (exfalso; revert ht; simp <;> omega) | skip)
          refine And.intro rfl (Exists.intro (.bool true) (And.intro rfl ?_))
          refine Exists.intro _ (Exists.intro _ (And.intro (callX_known hkn) ?_))
          refine And.intro rfl (Exists.intro (.bool true) (And.intro rfl ?_))
          exact And.intro trivial (Exists.intro _ (And.intro rfl rfl))
  · rw [hv]
    (intro t ht; cases t <;> first | (exfalso; revert ht; simp <;> omega) | skip)
    (intro t ht; cases t <;> first | (exfalso; revert ht; simp <;> omega) | skip)
    refine And.intro rfl (Exists.intro (.bool false) (And.intro rfl ?_))
    refine condF ?_
    refine condF ?_
    refine And.intro rfl (Exists.intro (.int .i64 (IntKind.wrap .i64 (cut : Int))) (And.intro (by kernel_rfl) ?_))
    rw [wrap_id ⟨by omega, by omega⟩]
    refine And.intro ⟨by omega, by omega⟩ ?_
    refine And.intro (by omega) (And.intro (by omega) (And.intro ⟨by omega, by omega⟩ (And.intro ⟨by omega, by omega⟩ ?_)))
    have hk0 : (cut : Int) % ((us.length : Int) + 1) = ((cut % (us.length + 1) : Nat) : Int) := by simp
    have hk1 : cut % (us.length + 1) ≤ us.length := by have := Nat.mod_lt cut (show 0 < us.length + 1 by omega); omega
    rw [hk0]
    generalize cut % (us.length + 1) = k at hk1
    obtain ⟨a2, cap2, kd2, q1, q2, q3⟩ := slice_ro_ex (H := H1) (h := k) u36 hi3 (k1.sl0 hs) (ro1 k1) hk1
    refine And.intro rfl (Or.inr (And.intro (by kernel_rfl) (Exists.intro _ (Exists.intro _ (Exists.intro _ (And.intro (q3 rfl rfl) (And.intro q1 ?_)))))))
    obtain ⟨H2, h2, k2⟩ := enough_ok (kn := kn) (lo := lo) (st := st) (fu := fu) (re := re) q2 hk1 (by omega)
    refine Exists.intro _ (Exists.intro _ (And.intro (callX_args h2) ?_))
    refine And.intro rfl (Exists.intro _ (And.intro rfl ?_))
    refine And.intro rfl (Exists.intro _ (And.intro rfl ?_))
    have hlk : (us.take k).length ≤ 64 := by simp; omega
    have htk := rowGo_take (fu := fu) (re := re) us k st 0
    rw [hg] at htk
    have hok2 : rowOk st fu re (us.take k) = true := by
      unfold rowOk at hok ⊢
      simp only [Bool.and_eq_true] at hok ⊢
      exact ⟨hok.1, List.all_eq_true.2 fun x hx => List.all_eq_true.1 hok.2 x (List.mem_of_mem_take hx)⟩
    have fact : (k ≤ us.length ∧ rowV st fu re (us.take k) = (0, 4)) ∨ (us.length < k ∧ rowV st fu re (us.take k) = (0, 0)) := by
      rcases rowV_cases (st := st) (fu := fu) (re := re) hlk with ⟨_, w⟩ | ⟨_, w⟩
      · rw [hok2] at w; cases w
      · rcases w with ⟨j, w1, w2⟩ | ⟨w1, w2⟩
        · rw [htk] at w1; cases w1
        · exact .inl ⟨hk1, w2⟩
    rcases fact with ⟨hkl, hv2⟩ | ⟨hkl, hv2⟩
    · rw [hv2]
      (intro t ht; cases t <;> first | (exfalso; revert ht; simp <;> omega) | skip)
      (intro t ht; cases t <;> first | (exfalso; revert ht; simp <;> omega) | skip)
      refine And.intro rfl (Exists.intro (.bool false) (And.intro rfl ?_))
      (intro t ht; cases t <;> first | (exfalso; revert ht; simp <;> omega) | skip)
      refine And.intro rfl (Exists.intro (.bool false) (And.intro rfl ?_))
      refine And.intro rfl (Exists.intro (.bool false) (And.intro rfl ?_))
      refine condF ?_
      have k02 := k1.trans k2
      refine And.intro rfl (Exists.intro (.int .i64 (IntKind.wrap .i64 (more : Int))) (And.intro (by kernel_rfl) ?_))
      rw [wrap_id (x := (more : Int)) ⟨by omega, by omega⟩]
      refine And.intro ⟨by omega, by omega⟩ ?_
      refine And.intro rfl (Exists.intro (.int .i64 (IntKind.wrap .i64 (more : Int))) (And.intro (by kernel_rfl) ?_))
      rw [wrap_id (x := (more : Int)) ⟨by omega, by omega⟩]
      refine And.intro ⟨by omega, by omega⟩ ?_
      obtain ⟨H3, h3, k3⟩ := enough_ok (kn := kn) (lo := lo) (st := min fu (st + more)) (fu := fu) (re := min 1099511627776 (re + more)) (k02.sl0 hs) (Nat.le_refl _) (by omega)
      rw [List.take_length] at h3
      refine Exists.intro _ (Exists.intro _ (And.intro (callX_args h3) ?_))
      refine And.intro rfl (Exists.intro _ (And.intro rfl ?_))
      refine And.intro rfl (Exists.intro _ (And.intro rfl ?_))
      have k03 := k02.trans k3
      have hok3 : rowOk (min fu (st + more)) fu (min 1099511627776 (re + more)) us = true := by
        unfold rowOk at hok ⊢
        simp only [Bool.and_eq_true] at hok ⊢
        exact ⟨⟨⟨by simp [inB]; omega, hok.1.1.2⟩, by simp [inB]; omega⟩, hok.2⟩
      have fact3 : rowV (min fu (st + more)) fu (min 1099511627776 (re + more)) us = (0, 4) ∨ ∃ j : Nat, False ∧ rowV (min fu (st + more)) fu (min 1099511627776 (re + more)) us = ((j : Int), 0) := by
        rcases rowV_cases (st := min fu (st + more)) (fu := fu) (re := min 1099511627776 (re + more)) h64 with ⟨_, w⟩ | ⟨_, ⟨j, w1, w2⟩ | ⟨_, w2⟩⟩
        · rw [hok3] at w; cases w
        · obtain ⟨j0, w3, w4⟩ := rowGo_more (re := re) (by omega) us st _ 0 j (by omega) w1
          rw [hg] at w3; cases w3
        · exact .inl w2
      rcases fact3 with hv3 | ⟨j, hij, hv3⟩
      · rw [hv3]
        (intro t ht; cases t <;> first | (exfalso; revert ht; simp <;> omega) | skip)
        refine And.intro rfl (Exists.intro (.bool false) (And.intro rfl ?_))
        refine condF ?_
        obtain ⟨a3, cap3, kd3, r1, r2, r3⟩ := slice_ro_ex (H := H3) (h := us.length) u36 hi3 (k03.sl0 hs) (ro1 k03) (by omega)
        refine And.intro rfl (Or.inr (And.intro (by kernel_rfl) (Exists.intro _ (Exists.intro _ (Exists.intro _ (And.intro (r3 rfl rfl) (And.intro r1 ?_)))))))
        refine loop_low (fn := Tryz.f13) E13_1 N13 L13x1 (fun (s : Nat × Int) => [(1, iv fu), (2, iv re), (3, .slice sa us.length cap), (13, iv 0), (14, iv 4), (21, iv s.2), (132, .slice a3 us.length cap3), (133, iv us.length), (134, iv s.1)])
          (fun k s H' => s.1 + k = us.length ∧ H' = H3 ∧ 0 ≤ s.2 ∧ s.2 ≤ fu ∧ rowGo fu re st us 0 = rowGo fu re s.2 (us.drop s.1) s.1) us.length (0, st) ⟨by simp, rfl, b1.1, b1.2, rfl⟩ ⟨rfl, rfl, rfl, rfl, rfl, rfl, rfl, rfl, rfl, trivial⟩ ?_
        rintro k' ⟨p, w⟩ H4 ⟨hik, rfl, hw0, hwf, hgo⟩
        simp only at hik hw0 hwf hgo
        refine And.intro (fun hlt => ?_) (fun hge => ?_)
        · have hp : p < us.length := by simpa using hlt
          rcases r2 with ⟨_, h0, _⟩ | ⟨sb, rfl, hc, _⟩
          · omega
          obtain ⟨x, hx⟩ := get_some (l := us) (i := p) (by omega)
          have b5 : 0 ≤ x ∧ x ≤ 1099511627776 := by simpa [inB] using b4 x (List.mem_of_getElem? hx)
          rw [rowGo_drop hx, hg] at hgo
          refine Exists.intro p (And.intro rfl (And.intro hp ?_))
          refine Exists.intro _ (Exists.intro _ (And.intro hc.of (And.intro (ints_at hx) ?_)))
          refine And.intro (fun hgt => ?_) (fun hle => ?_)
          · exfalso
            have hgt : w < x := by simpa using hgt
            rw [if_pos hgt] at hgo
            cases hgo
          · have hle : ¬ x > w := by simpa using hle
            rw [if_neg hle] at hgo
            refine And.intro ⟨by omega, by omega⟩ ?_
            refine And.intro ⟨by omega, by omega⟩ ?_
            refine And.intro ⟨by omega, by omega⟩ ?_
            exact ⟨k' - 1, (p + 1, min fu (w - x + re)), by omega, ⟨by simp only; omega, rfl, by simp only; omega, by simp only; omega, hg.trans hgo⟩, rfl, rfl, rfl, rfl, rfl, rfl, rfl, rfl, rfl, trivial⟩
        · have hp : ¬ p < us.length := by simpa using hge
          have e : p = us.length := by omega
          subst e
          (intro t ht; cases t <;> first | (exfalso; revert ht; simp <;> omega) | skip)
          refine And.intro rfl (Exists.intro (.bool true) (And.intro rfl ?_))
          refine Exists.intro _ (Exists.intro _ (And.intro (callX_known hkn) ?_))
          refine And.intro rfl (Exists.intro (.bool true) (And.intro rfl ?_))
          exact And.intro trivial (Exists.intro _ (And.intro rfl rfl))
      · exact hij.elim
    · exfalso; omega
end
end Go.Ax

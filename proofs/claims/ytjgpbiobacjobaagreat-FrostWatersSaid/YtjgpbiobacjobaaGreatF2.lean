/-
  Enough, for all inputs; and a given slice cut short.
-/
import Derived.Test.YtjgpbiobacjobaaGreatF1
set_option linter.all false
namespace Go.Ax
open Go Go.RowKit Go.Proofs

/-- Enough, by plain data: the first night (from i on) in which there is not enough. -/
def rowGo (fu re : Int) : Int → List Int → Nat → Option Nat
  | _, [], _ => none
  | w, u :: r, i => if u > w then some i else rowGo fu re (min fu (w - u + re)) r (i + 1)
def rowOk (st fu re : Int) (l : List Int) : Bool := inB st 0 fu && inB fu 0 1099511627776 && inB re 0 1099511627776 && l.all fun x => inB x 0 1099511627776
def rowV (st fu re : Int) (l : List Int) : Int × Int :=
  if l.length > 64 then (0, 3) else if rowOk st fu re l = true then (match rowGo fu re st l 0 with | some i => ((i : Int), 0) | none => (0, 4)) else (0, 2)
theorem rowGo_drop {fu re w : Int} {l : List Int} {i : Nat} {x : Int} (hx : l[i]? = some x) : rowGo fu re w (l.drop i) i = if x > w then some i else rowGo fu re (min fu (w - x + re)) (l.drop (i + 1)) (i + 1) := by
  have hi := get_lt hx
  rw [List.drop_eq_getElem_cons hi]
  rw [List.getElem?_eq_getElem hi] at hx
  cases hx
  rfl
theorem take_get {l : List Int} {i n : Nat} {x : Int} (h : l[i]? = some x) (hi : i < n) : (l.take n)[i]? = some x := by
  rw [List.getElem?_take, if_pos hi]; exact h

section
variable {kn : FuncId → Option Bool} {lo : Nat} {H : Hp}
theorem enough_ok {st fu re : Int} {sa : Option Addr} {n cap : Nat} {us : List Int} (hs : Sl H sa n cap (ints us)) (hn : n ≤ us.length) (hn2 : n ≤ 1000000) :
    ∃ H', FnX Tryz.prog kn lo 29 [iv st, iv fu, iv re, .slice sa n cap] H (.tuple #[iv (rowV st fu re (us.take n)).1, iv (rowV st fu re (us.take n)).2]) H' ∧ Keep H H' [] := by
  have key := fnX_low (kn := kn) (lo := lo) (H := H) (args := [iv st, iv fu, iv re, .slice sa n cap]) (Q := fun v H' => v = .tuple #[iv (rowV st fu re (us.take n)).1, iv (rowV st fu re (us.take n)).2] ∧ Keep H H' []) Tryz.func29 B29 N29 Z29 L29 (by simp) ?_
  · obtain ⟨v, H', h, rfl, q⟩ := key; exact ⟨H', h, q⟩
  have hlen : (us.take n).length = n := by simp; omega
  refine And.intro (fun hgt => ?_) (fun hle => ?_)
  · have h64 : n > 64 := by
      have : (n : Int) > 64 := by simpa using hgt
      omega
    exact And.intro trivial (Exists.intro _ (And.intro rfl ⟨by unfold rowV; rw [if_pos (by omega)]; rfl, Keep.refl _ _⟩))
  have h64 : ¬ n > 64 := by
    have : (n : Int) ≤ 64 := by simpa using hle
    omega
  -- the four questions
  have bad : ∀ H1, Keep H H1 [] → rowOk st fu re (us.take n) = false → retV [iv 0, iv 2] = .tuple #[iv (rowV st fu re (us.take n)).1, iv (rowV st fu re (us.take n)).2] ∧ Keep H H1 [] := fun H1 k h => ⟨by unfold rowV; rw [if_neg (by omega), if_neg (by rw [h]; decide)]; rfl, k⟩
  refine callB within_ok ?_
  intro t1 H1 ht1 k1
  refine And.intro rfl (Exists.intro (.bool (!t1)) (And.intro rfl ?_))
  cases t1
  · refine And.intro rfl (Exists.intro (.bool true) (And.intro rfl ?_))
    refine And.intro rfl (Exists.intro (.bool true) (And.intro rfl ?_))
    refine And.intro rfl (Exists.intro (.bool true) (And.intro rfl ?_))
    refine condT ?_
    exact And.intro trivial (Exists.intro _ (And.intro rfl (bad H1 k1 (by unfold rowOk; rw [ht1]; rfl))))
  refine callB amount_ok ?_
  intro t2 H2 ht2 k2
  refine And.intro rfl (Exists.intro (.bool (!t2)) (And.intro rfl ?_))
  refine And.intro rfl (Exists.intro (.bool (!t2)) (And.intro rfl ?_))
  cases t2
  · refine And.intro rfl (Exists.intro (.bool true) (And.intro rfl ?_))
    refine And.intro rfl (Exists.intro (.bool true) (And.intro rfl ?_))
    refine condT ?_
    exact And.intro trivial (Exists.intro _ (And.intro rfl (bad H2 (k1.trans k2) (by unfold rowOk; rw [ht1, ht2]; rfl))))
  refine callB amount_ok ?_
  intro t3 H3 ht3 k3
  refine And.intro rfl (Exists.intro (.bool (!t3)) (And.intro rfl ?_))
  refine And.intro rfl (Exists.intro (.bool (!t3)) (And.intro rfl ?_))
  have k13 := k1.trans (k2.trans k3)
  cases t3
  · refine And.intro rfl (Exists.intro (.bool true) (And.intro rfl ?_))
    refine condT ?_
    exact And.intro trivial (Exists.intro _ (And.intro rfl (bad H3 k13 (by unfold rowOk; rw [ht1, ht2, ht3]; rfl))))
  refine callB (all_ok (k13.sl0 hs) hn hn2) ?_
  intro t4 H4 ht4 k4
  refine And.intro rfl (Exists.intro (.bool (!t4)) (And.intro rfl ?_))
  refine And.intro rfl (Exists.intro (.bool (!t4)) (And.intro rfl ?_))
  have k14 := k13.trans k4
  cases t4
  · refine condT ?_
    exact And.intro trivial (Exists.intro _ (And.intro rfl (bad H4 k14 (by unfold rowOk; rw [ht1, ht2, ht3, ht4]; rfl))))
  refine condF ?_
  have hok : rowOk st fu re (us.take n) = true := by unfold rowOk; rw [ht1, ht2, ht3, ht4]; rfl
  have hv : rowV st fu re (us.take n) = (match rowGo fu re st (us.take n) 0 with | some i => ((i : Int), 0) | none => (0, 4)) := by unfold rowV; rw [if_neg (by omega), if_pos hok]
  have b1 : 0 ≤ st ∧ st ≤ fu := by simpa [inB] using ht1
  have b2 : 0 ≤ fu ∧ fu ≤ 1099511627776 := by simpa [inB] using ht2
  have b3 : 0 ≤ re ∧ re ≤ 1099511627776 := by simpa [inB] using ht3
  have b4 := List.all_eq_true.1 ht4
  refine loop_low (fn := Tryz.f29) E29_1 N29 L29x1 (fun (s : Nat × Int) => [(1, iv fu), (2, iv re), (10, iv s.2), (36, .slice sa n cap), (37, iv n), (38, iv s.1)])
    (fun k s H' => s.1 + k = n ∧ H' = H4 ∧ 0 ≤ s.2 ∧ s.2 ≤ fu ∧ rowGo fu re st (us.take n) 0 = rowGo fu re s.2 ((us.take n).drop s.1) s.1) n (0, st) ⟨by simp, rfl, b1.1, b1.2, rfl⟩ ⟨rfl, rfl, rfl, rfl, rfl, rfl, trivial⟩ ?_
  rintro k ⟨i, w⟩ H5 ⟨hik, rfl, hw0, hwf, hgo⟩
  simp only at hik hw0 hwf hgo
  refine And.intro (fun hlt => ?_) (fun hge => ?_)
  · have hi : i < n := by simpa using hlt
    have hs1 := k14.sl0 hs
    rcases hs1 with ⟨_, h0, _⟩ | ⟨sb, rfl, hc, _⟩
    · omega
    obtain ⟨x, hx⟩ := get_some (l := us) (i := i) (by omega)
    have hx' := take_get hx hi
    have b5 : 0 ≤ x ∧ x ≤ 1099511627776 := by simpa [inB] using b4 x (List.mem_of_getElem? hx')
    rw [rowGo_drop hx'] at hgo
    refine Exists.intro i (And.intro rfl (And.intro hi ?_))
    refine Exists.intro _ (Exists.intro _ (And.intro hc.of (And.intro (ints_at hx) ?_)))
    refine And.intro (fun hgt => ?_) (fun hle => ?_)
    · have hgt : x > w := by simpa using hgt
      rw [if_pos hgt] at hgo
      exact And.intro trivial (Exists.intro _ (And.intro rfl ⟨by rw [hv, hgo]; rfl, k14⟩))
    · have hle : ¬ x > w := by simpa using hle
      rw [if_neg hle] at hgo
      refine And.intro ⟨by omega, by omega⟩ ?_
      refine And.intro ⟨by omega, by omega⟩ ?_
      refine And.intro ⟨by omega, by omega⟩ ?_
      exact ⟨k - 1, (i + 1, min fu (w - x + re)), by omega, ⟨by simp only; omega, rfl, by simp only; omega, by simp only; omega, hgo⟩, rfl, rfl, rfl, rfl, rfl, rfl, trivial⟩
  · have hi : ¬ i < n := by simpa using hge
    have e : i = n := by omega
    subst e
    rw [List.drop_eq_nil_of_le (by omega)] at hgo
    exact And.intro trivial (Exists.intro _ (And.intro rfl ⟨by rw [hv, hgo]; rfl, k14⟩))
end

/-- What is given, cut short. -/
theorem heap_slice_ro {P : Program} {lo n : Nat} {S : Rg} {H : Hp} {d : Option Tmp} {t e ty : TypeId} {x y : Operand} {p : String} {m cap h : Nat} {a : Option Addr} {cs : List Value} {i : TypeInfo} {k : IntKind} (ht : P.underlying t = some (.slice e)) (hi : P.info? e = some i)
    (hx : evS S x = some (.slice a m cap)) (hy : evS S y = some (.int k (h : Int))) (hs : Sl H a m cap cs) (hro : ∀ b, a = some ⟨b, 0, none⟩ → H.t.get b = some (.ro cs)) (hh : h ≤ m) :
    ∃ a' cap' kd, heapOp P lo (frS n S) H ⟨d, .slice t x none (some y) none, ty, p, #[], none⟩ = some (.val (.slice a' h cap') H, kd) ∧ (∀ b, kd = .read b → b < H.next) ∧ Sl H a' h cap' cs := by
  rcases hs with ⟨rfl, rfl, rfl, rfl⟩ | ⟨b, rfl, hr, hc⟩
  · have : h = 0 := by omega
    subst this
    refine ⟨none, 0, .pure, ?_, (fun b e => (by cases e)), .inl ⟨rfl, rfl, rfl, rfl⟩⟩
    unfold heapOp
    simp only [ht, ev_frS, hx, hi, boundOf, hy]
    rfl
  · refine ⟨some ⟨b, 0, none⟩, cap, .read b, ?_, fun b' e => by cases e; exact hr.lt, .inr ⟨b, rfl, hr, by omega⟩⟩
    unfold heapOp
    simp only [ht, ev_frS, hx, hi, boundOf, hy, hro b rfl, show ((h : Nat) : Int) = Int.ofNat h from rfl, Nat.ble_eq_true_of_le (show h ≤ cap by omega), Nat.ble_eq_true_of_le (Nat.zero_le h), Bool.and_self, cond_true, Nat.sub_zero, Nat.zero_mul]
    cases hb : Nat.beq cap 0 <;> simp [Addr.add]
end Go.Ax

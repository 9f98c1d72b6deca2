/-
  The frost layer: contracts, for all inputs, of isWithin, isAmount, allWithin (with ContainsFunc and IndexFunc).
-/
import Derived.Test.YtjgpbiobacjobaaGreatAxR
import Derived.Test.YtjgpbiobacjobaaGreatAxW5
import Derived.Test.YtjgpbiobacjobaaGreatAxW6
set_option linter.all false
namespace Go.Ax
open Go Go.RowKit Go.Proofs

abbrev pt (b : Nat) : Value := .pointer (some ⟨b, 0, none⟩)
abbrev iv (x : Int) : Value := .int .i64 x
theorem condT {A B : Prop} (h : A) : (true = true → A) ∧ (true = false → B) := ⟨fun _ => h, fun q => Bool.noConfusion q⟩
theorem condF {A B : Prop} (h : B) : (false = true → A) ∧ (false = false → B) := ⟨fun q => Bool.noConfusion q, fun _ => h⟩
theorem get_lt {α : Type} {l : List α} {i : Nat} {x : α} (h : l[i]? = some x) : i < l.length := by
  rcases Nat.lt_or_ge i l.length with q | q
  · exact q
  · rw [List.getElem?_eq_none q] at h; cases h
theorem get_some {α : Type} {l : List α} {i : Nat} (h : i < l.length) : ∃ x, l[i]? = some x := ⟨l[i], List.getElem?_eq_getElem h⟩
theorem ints_at {us : List Int} {i : Nat} {x : Int} (h : us[i]? = some x) : (ints us)[0 + i * 1]? = some (iv x) := by
  rw [Nat.zero_add, Nat.mul_one]; simp [ints, h]
theorem all_step {α : Type} {f : α → Bool} {l : List α} {i : Nat} {x : α} (h : l[i]? = some x) : (l.take (i + 1)).all f = ((l.take i).all f && f x) := by
  have hi := get_lt h
  rw [List.getElem?_eq_getElem hi] at h
  cases h
  rw [List.take_succ_eq_append_getElem hi, List.all_append]
  simp
theorem take_fail {α : Type} {f : α → Bool} {l : List α} {i n : Nat} {x : α} (h : l[i]? = some x) (hi : i < n) (hx : f x = false) : (l.take n).all f = false := by
  rw [List.all_eq_false]
  exact ⟨x, List.mem_of_getElem? (i := i) (by rw [List.getElem?_take, if_pos hi]; exact h), by rw [hx]; decide⟩

def inB (n a b : Int) : Bool := decide (a ≤ n) && decide (n ≤ b)
section
variable {kn : FuncId → Option Bool} {lo : Nat} {H : Hp}
theorem within_ok {n a b : Int} : ∃ H', FnX Tryz.prog kn lo 42 [iv n, iv a, iv b] H (.bool (inB n a b)) H' ∧ Keep H H' [] := by
  have key := fnX_low (kn := kn) (lo := lo) (H := H) (args := [iv n, iv a, iv b]) (Q := fun v H' => v = .bool (inB n a b) ∧ Keep H H' []) Tryz.func42 B42 N42 Z42 L42 (by simp) ?_
  · obtain ⟨v, H', h, rfl, q⟩ := key; exact ⟨H', h, q⟩
  repeat' first
    | (intro t ht; cases t)
    | exact And.intro trivial (Exists.intro _ (And.intro rfl ⟨by simp_all [retV, inB] <;> (intros; omega), Keep.refl _ _⟩))
    | refine And.intro rfl (Exists.intro _ (And.intro rfl ?_))
theorem amount_ok {n : Int} : ∃ H', FnX Tryz.prog kn lo 43 [iv n] H (.bool (inB n 0 1099511627776)) H' ∧ Keep H H' [] := by
  have key := fnX_low (kn := kn) (lo := lo) (H := H) (args := [iv n]) (Q := fun v H' => v = .bool (inB n 0 1099511627776) ∧ Keep H H' []) Tryz.func43 B43 N43 Z43 L43 (by simp) ?_
  · obtain ⟨v, H', h, rfl, q⟩ := key; exact ⟨H', h, q⟩
  refine callB within_ok ?_
  intro t H1 ht k1
  exact And.intro trivial (Exists.intro _ (And.intro rfl ⟨by rw [ht]; rfl, k1⟩))
/-- allWithin's closure -/
theorem out_ok {n a b : Int} {ba bb : Nat} (ha : Rd H ba [iv a]) (hb : Rd H bb [iv b]) : ∃ H', FnX Tryz.prog kn lo 88 [iv n, pt ba, pt bb] H (.bool (!inB n a b)) H' ∧ Keep H H' [] := by
  have key := fnX_low (kn := kn) (lo := lo) (H := H) (args := [iv n, pt ba, pt bb]) (Q := fun v H' => v = .bool (!inB n a b) ∧ Keep H H' []) Tryz.func88 B88 N88 Z88 L88 (by simp) ?_
  · obtain ⟨v, H', h, rfl, q⟩ := key; exact ⟨H', h, q⟩
  refine Exists.intro _ (Exists.intro _ (And.intro ha.of (And.intro rfl ?_)))
  refine Exists.intro _ (Exists.intro _ (And.intro hb.of (And.intro rfl ?_)))
  refine callB within_ok ?_
  intro t H1 ht k1
  refine And.intro rfl (Exists.intro (.bool (!t)) (And.intro rfl ?_))
  exact And.intro trivial (Exists.intro _ (And.intro rfl ⟨by rw [ht]; rfl, k1⟩))
theorem index_ok {a b : Int} {ba bb : Nat} {sa : Option Addr} {n cap : Nat} {us : List Int} (ha : Rd H ba [iv a]) (hb : Rd H bb [iv b]) (hs : Sl H sa n cap (ints us)) (hn : n ≤ us.length) (hn2 : n ≤ 1000000) :
    ∃ j H', FnX Tryz.prog kn lo 109 [.slice sa n cap, .func (.func 88) #[] #[pt ba, pt bb]] H (iv j) H' ∧ decide (j ≥ 0) = !((us.take n).all fun x => inB x a b) ∧ Keep H H' [] := by
  have key := fnX_low (kn := kn) (lo := lo) (H := H) (args := [.slice sa n cap, .func (.func 88) #[] #[pt ba, pt bb]]) (Q := fun v H' => ∃ j, v = iv j ∧ decide (j ≥ 0) = !((us.take n).all fun x => inB x a b) ∧ Keep H H' []) Tryz.func109 B109 N109 Z109 L109 (by simp) ?_
  · obtain ⟨v, H', h, j, rfl, q⟩ := key; exact ⟨j, H', h, q⟩
  refine loop_low (fn := Tryz.f109) E109_1 N109 L109x1 (fun i : Nat => [(0, .slice sa n cap), (1, .func (.func 88) #[] #[pt ba, pt bb]), (6, .slice sa n cap), (7, iv n), (8, iv i)])
    (fun k i H' => i + k = n ∧ Keep H H' [] ∧ ((us.take i).all fun x => inB x a b) = true) n 0 ⟨by omega, Keep.refl _ _, rfl⟩ ⟨rfl, rfl, rfl, rfl, rfl, trivial⟩ ?_
  rintro k i H1 ⟨hik, hk, hall⟩
  refine And.intro (fun hlt => ?_) (fun hge => ?_)
  · have hi : i < n := by simpa using hlt
    have hs1 := hk.sl0 hs
    rcases hs1 with ⟨_, h0, _⟩ | ⟨sb, rfl, hc, _⟩
    · omega
    obtain ⟨x, hx⟩ := get_some (l := us) (i := i) (by omega)
    refine Exists.intro i (And.intro rfl (And.intro hi ?_))
    refine Exists.intro _ (Exists.intro _ (And.intro hc.of (And.intro (ints_at hx) ?_)))
    obtain ⟨H2, h2, k2⟩ := out_ok (kn := kn) (lo := lo) (n := x) (hk.rd ha (by simp)) (hk.rd hb (by simp))
    refine Exists.intro _ (Exists.intro _ (And.intro (callX_func rfl (by simpa using h2)) ?_))
    have hst := all_step (f := fun x => inB x a b) hx
    cases hin : inB x a b
    · refine condT ?_
      exact And.intro trivial (Exists.intro _ (And.intro rfl ⟨_, rfl, by rw [take_fail hx hi hin]; simp, hk.trans k2⟩))
    · refine condF ?_
      refine And.intro ⟨by omega, by omega⟩ ?_
      exact ⟨k - 1, i + 1, by omega, ⟨by omega, hk.trans k2, by rw [hst, hall, hin]; rfl⟩, rfl, rfl, rfl, rfl, rfl, trivial⟩
  · have hi : ¬ i < n := by simpa using hge
    have e : i = n := by omega
    subst e
    exact And.intro trivial (Exists.intro _ (And.intro rfl ⟨-1, rfl, by rw [hall]; rfl, hk⟩))
theorem all_ok {a b : Int} {sa : Option Addr} {n cap : Nat} {us : List Int} (hs : Sl H sa n cap (ints us)) (hn : n ≤ us.length) (hn2 : n ≤ 1000000) :
    ∃ H', FnX Tryz.prog kn lo 61 [.slice sa n cap, iv a, iv b] H (.bool ((us.take n).all fun x => inB x a b)) H' ∧ Keep H H' [] := by
  have key := fnX_low (kn := kn) (lo := lo) (H := H) (args := [.slice sa n cap, iv a, iv b]) (Q := fun v H' => v = .bool ((us.take n).all fun x => inB x a b) ∧ Keep H H' []) Tryz.func61 B61 N61 Z61 L61 (by simp) ?_
  · obtain ⟨v, H', h, rfl, q⟩ := key; exact ⟨H', h, q⟩
  intro H1 hH1
  obtain ⟨k1, n1, c1⟩ := new_facts hH1
  intro H2 hH2
  obtain ⟨k2, n2, c2⟩ := new_facts hH2
  have c1 := k2.cl c1 (by simp)
  have k12 := k1.trans k2
  refine And.intro rfl (Exists.intro (.func (.func 88) #[] #[pt H.next, pt H1.next]) (And.intro rfl ?_))
  refine callB (b := !((us.take n).all fun x => inB x a b)) ?_ ?_
  · have key := fnX_low (kn := kn) (lo := lo) (H := H2) (args := [.slice sa n cap, .func (.func 88) #[] #[pt H.next, pt H1.next]]) (Q := fun v H' => v = .bool (!((us.take n).all fun x => inB x a b)) ∧ Keep H2 H' []) Tryz.func87 B87 N87 Z87 L87 (by simp) ?_
    · obtain ⟨v, H', h, rfl, q⟩ := key; exact ⟨H', h, q⟩
    obtain ⟨j, H3, h3, hj, k3⟩ := index_ok (kn := kn) (lo := lo) c1.rd c2.rd (k12.sl0 hs) hn hn2
    refine Exists.intro _ (Exists.intro _ (And.intro (callX_args h3) ?_))
    exact And.intro trivial (Exists.intro _ (And.intro rfl ⟨by rw [← hj]; rfl, k3⟩))
  intro t H3 ht k3
  refine And.intro rfl (Exists.intro (.bool (!t)) (And.intro rfl ?_))
  exact And.intro trivial (Exists.intro _ (And.intro rfl ⟨by rw [← ht]; simp [retV], k12.trans k3⟩))
end
end Go.Ax

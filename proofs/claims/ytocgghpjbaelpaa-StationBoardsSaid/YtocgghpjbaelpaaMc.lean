import Derived.Test.YtocgghpjbaelpaaMb
import Derived.Test.YtocgghpjbaelpaaAxW9
import Derived.Test.YtocgghpjbaelpaaChecked
import Derived.Test.YtocgghpjbaelpaaRows
import Derived.Test.YtocgghpjbaelpaaAxO
import Derived.Deep.Slices
import Derived.Deep.Fields
import Derived.ChangeSame
set_option linter.all false
/-
  Station: berries: validBerries, many, firstTries, Bounce (written by program).
-/
namespace Go.Ax
open Go Go.RowKit Go.Proofs

theorem any_hit2 {α : Type} {f : α → Bool} {l : List α} {i : Nat} {x : α} (h : l[i]? = some x) (hx : f x = true) : l.any f = true := List.any_eq_true.2 ⟨x, List.mem_of_getElem? h, hx⟩
theorem u45' : Try.prog.underlying 45 = some (.slice 3) := by kernel_rfl
theorem in3s : ∃ i, Try.prog.info? 3 = some i ∧ i.size = 1 := by
  have h : (Try.prog.info? 3).map (fun i => Nat.beq i.size 1) = some true := by kernel_rfl
  cases e : Try.prog.info? 3 with
  | none => rw [e] at h; cases h
  | some i => rw [e] at h; exact ⟨i, rfl, by simpa using h⟩
/-- the first k elements -/
theorem heap_upto {lo : Nat} {H : Hp} {a : Option Addr} {n cap k : Nat} {cs : List Value} (hs : Sl H a n cap cs) (hf : ∀ b, a = some ⟨b, 0, none⟩ → Fx H b cs) (hk : k ≤ n) :
    ∃ kd, (∀ (m : Nat) (S : Rg) (d : Option Tmp) (x y : Operand) (ty : TypeId) (p : String), evS S x = some (.slice a n cap) → evS S y = some (iv (k : Int)) → heapOp Try.prog lo (frS m S) H ⟨d, .slice 45 x none (some y) none, ty, p, #[], none⟩ = some (.val (.slice a k cap) H, kd)) ∧ ∀ b, kd = .read b → b < H.next := by
  obtain ⟨i, hi, hs1⟩ := in3s
  have hb : ∀ (m : Nat) (S : Rg) (y : Operand) (q : Nat), evS S y = some (iv (k : Int)) → boundOf (frS m S) q (some y) = some k := fun m S y q hy => by unfold boundOf; simp only [ev_frS, hy]
  have hb0 : ∀ (m : Nat) (S : Rg), boundOf (frS m S) 0 none = some 0 := fun _ _ => rfl
  rcases hs with ⟨rfl | rfl, rfl, rfl, rfl⟩ | ⟨b, rfl, hr, hc⟩
  · obtain rfl : k = 0 := by omega
    refine ⟨.pure, fun m S d x y ty p hx hy => ?_, fun b e => by cases e⟩
    unfold heapOp
    simp only [ev_frS, hx, u45', hi, hb m S y _ hy, hb0, Nat.beq_refl, Bool.and_self, cond_true]
  · obtain rfl : k = 0 := by omega
    refine ⟨.pure, fun m S d x y ty p hx hy => ?_, fun b e => by cases e⟩
    unfold heapOp
    simp only [ev_frS, hx, u45', hi, hb m S y _ hy, hb0, Nat.beq_refl, Bool.and_self, cond_true]
  · refine ⟨.read b, fun m S d x y ty p hx hy => ?_, fun b' e => by cases e; exact hr.lt⟩
    have had : ∀ c, (bif c then (⟨b, 0, none⟩ : Addr) else (⟨b, 0, none⟩ : Addr).add (0 * i.size)) = ⟨b, 0, none⟩ := fun c => by cases c <;> simp [Addr.add]
    obtain ⟨_, h2 | ⟨e, h2⟩ | h2⟩ := hf b rfl
    · unfold heapOp
      simp only [ev_frS, hx, u45', hi, hb m S y _ hy, hb0, h2, Nat.ble_eq_true_of_le (show k ≤ cap by omega), Nat.ble_eq_true_of_le (Nat.zero_le k), Bool.and_self, cond_true, had, Nat.sub_zero]
    · unfold heapOp
      simp only [ev_frS, hx, u45', hi, hb m S y _ hy, hb0, h2, Nat.ble_eq_true_of_le (show k ≤ cap by omega), Nat.ble_eq_true_of_le (Nat.zero_le k), Bool.and_self, cond_true, had, Nat.sub_zero]
    · unfold heapOp
      simp only [ev_frS, hx, u45', hi, hb m S y _ hy, hb0, h2, hs1, Nat.beq_refl, Nat.ble_eq_true_of_le hk, Nat.ble_eq_true_of_le (Nat.zero_le k), show Nat.beq 1 0 = false from rfl, Bool.not_false, Bool.or_true, Bool.and_self, cond_true, Nat.sub_zero]
      rfl
/-- how many berries bounce -/
def cntB (rs : List Rw) (b m : Int) : Int := rs.foldl (fun n r => if bnc r.l b m then n + 1 else n) 0
theorem cntB_from (rs : List Rw) (b m x : Int) : rs.foldl (fun n r => if bnc r.l b m then n + 1 else n) x = x + cntB rs b m := by
  induction rs generalizing x with
  | nil => show x = x + 0; omega
  | cons r l ih => unfold cntB; rw [List.foldl_cons, List.foldl_cons, ih, ih]; split <;> omega
theorem cntB_step {rs : List Rw} {b m : Int} {i : Nat} {r : Rw} (h : rs[i]? = some r) : cntB (rs.take (i + 1)) b m = cntB (rs.take i) b m + (if bnc r.l b m then 1 else 0) := by
  unfold cntB; rw [foldl_step h]; split <;> omega
theorem cntB_in (rs : List Rw) (b m : Int) : 0 ≤ cntB rs b m ∧ cntB rs b m ≤ rs.length := by
  induction rs with
  | nil => simp [cntB]
  | cons r l ih =>
    unfold cntB; rw [List.foldl_cons, cntB_from, List.length_cons]
    split <;> omega
theorem cntB_take_in (rs : List Rw) (b m : Int) (i : Nat) : 0 ≤ cntB (rs.take i) b m ∧ cntB (rs.take i) b m ≤ rs.length := by
  have := cntB_in (rs.take i) b m
  rw [List.length_take] at this; omega
def boE (rs : List Rw) (b m : Int) : Int := if rwsOk rs then (if isw b 4096 && isw m 7 then 0 else 2) else 1
def boN (rs : List Rw) (b m : Int) : Int := if boE rs b m = 0 then cntB rs b m else 0
section
variable {kn : FuncId → Option Bool} {lo : Nat} {H : Hp}
theorem index61_ok {sa : Option Addr} {n cap f : Nat} {us : List Rw} (hr : Rws H f sa n cap us) (hm : ∀ r ∈ us, r.n ≤ 1000000) (hn2 : n ≤ 1000000) :
    ∃ j H', FnX Try.prog kn lo 61 [.slice sa n cap, .func (.func 54) #[] #[]] H (iv j) H' ∧ decide (j ≥ 0) = !(us.all Rw.ok) ∧ Keep H H' [] := by
  have key := fnX_low (kn := kn) (lo := lo) (H := H) (args := [.slice sa n cap, .func (.func 54) #[] #[]]) (Q := fun w H' => ∃ j, w = iv j ∧ decide (j ≥ 0) = !(us.all Rw.ok) ∧ Keep H H' []) Try.func61 B61 N61 Z61 L61 (by simp) ?_
  · obtain ⟨v, H', h, j, rfl, q⟩ := key; exact ⟨j, H', h, q⟩
  have hk := Keep.refl H []
  refine wN_seq ?_
  refine wN_mov (v := iv 0) rfl ?_
  refine wN_end ?_
  refine wN_seq ?_
  refine wN_mov (v := .slice sa n cap) rfl ?_
  refine wN_len (m := n) rfl ?_
  refine wN_mov (v := iv 0) rfl ?_
  refine wN_end ?_
  refine loop_low (fn := Try.f61) E61_1 N61 L61x1 (fun i : Nat => [(0, .slice sa n cap), (1, .func (.func 54) #[] #[]), (7, iv (n : Int)), (8, iv (i : Int))])
    (fun k i H' => i + k = n ∧ Keep H H' [] ∧ Rws H' f sa n cap us ∧ (us.take i).all Rw.ok = true) n 0 ⟨by omega, Keep.refl _ _, hr, rfl⟩ ⟨rfl, rfl, rfl, rfl, trivial⟩ ?_
  rintro k i L1 ⟨hik, hk, hr, hall⟩
  refine wN_seq ?_
  refine wN_c_lss (a := (i : Int)) (b := (n : Int)) rfl rfl ?_
  refine wN_end ?_
  refine And.intro (fun q1 => ?_) (fun q1 => ?_)
  · have q1 : (i : Int) < (n : Int) := of_decide_eq_true q1
    have hi : i < n := by omega
    obtain ⟨sb, so, cs, x, hx, esb, rsb, lsf, lcap, hat, hmem⟩ := hr.opn hi
    have hst := all_step (f := Rw.ok) hx
    have hrx := hr.ri x hmem
    first | refine wN_skip ?_ | skip
    refine wN_seq ?_
    refine wN_mov (v := iv (i : Int)) rfl ?_
    refine wN_mov (v := iv (i : Int)) rfl ?_
    refine wN_end ?_
    refine wN_seq ?_
    refine wN_mov (v := .func (.func 54) #[] #[]) rfl ?_
    refine wN_mov (v := .slice sa n cap) rfl ?_
    refine wN_mov (v := iv (i : Int)) rfl ?_
    refine wN_idx (b := sb) (o := so) (k := i) (j := (i : Int)) (by rw [← esb]; rfl) rfl rfl hi ?_
    refine wN_ld (b := sb) (o := so + i * 1) (v := .slice x.ra x.n x.cap) rfl rsb hat ?_
    obtain ⟨H1, fH1, kH1⟩ := bad54_ok (kn := kn) (lo := lo) (H := L1) (r := x) hrx.1 hrx.2.1 (hm x hmem)
    refine wN_callf (vs := [.slice x.ra x.n x.cap]) rfl (callX_func rfl (by simpa using fH1)) ?_
    have mH1 := kH1.1
    have hk := hk.trans kH1
    have hr := hr.keep kH1 (by simp)
    have rsb := kH1.rd rsb (by simp)
    cases hb : Rw.ok x
    · refine wN_end ?_
      refine condT ?_
      refine wN_seq ?_
      refine wN_mov (v := iv (i : Int)) rfl ?_
      refine wN_mov (v := iv (i : Int)) rfl ?_
      refine wN_end ?_
      exact And.intro trivial (Exists.intro _ (And.intro rfl ⟨_, rfl, by rw [all_fail hx hb]; simp, hk⟩))
    · refine wN_end ?_
      refine condF ?_
      first | refine wN_skip ?_ | skip
      first | refine wN_reg ?_ | refine wN_blk ?_ | refine wN_bseq ?_ | (refine wOps_nil ?_; refine wN_reg ?_)
      refine wN_add (a := (i : Int)) (b := 1) rfl rfl ⟨by omega, by omega⟩ ?_
      refine wN_mov (v := iv ((i : Int) + 1)) rfl ?_
      refine wN_end ?_
      exact ⟨k - 1, i + 1, by omega, ⟨by omega, hk, hr, by rw [hst, hall, hb]; rfl⟩, rfl, rfl, rfl, rfl, trivial⟩
  · have q1 : ¬ ((i : Int) < (n : Int)) := of_decide_eq_false q1
    refine wN_seq ?_
    refine wN_mov (v := iv (-1)) rfl ?_
    refine wN_end ?_
    exact And.intro trivial (Exists.intro _ (And.intro rfl ⟨-1, rfl, by rw [List.take_of_length_le (by have := hr.rl; omega)] at hall; rw [hall]; rfl, hk⟩))
theorem badRws_ok {sa : Option Addr} {n cap f : Nat} {us : List Rw} (hr : Rws H f sa n cap us) (hm : ∀ r ∈ us, r.n ≤ 1000000) (hn2 : n ≤ 1000000) :
    ∃ H', FnX Try.prog kn lo 53 [.slice sa n cap, .func (.func 54) #[] #[]] H (.bool (!(us.all Rw.ok))) H' ∧ Keep H H' [] := by
  have key := fnX_low (kn := kn) (lo := lo) (H := H) (args := [.slice sa n cap, .func (.func 54) #[] #[]]) (Q := fun w H' => w = .bool (!(us.all Rw.ok)) ∧ Keep H H' []) Try.func53 B53 N53 Z53 L53 (by simp) ?_
  · obtain ⟨w, H', h, rfl, q⟩ := key; exact ⟨H', h, q⟩
  obtain ⟨j, H3, h3, hj, k3⟩ := index61_ok (kn := kn) (lo := lo) hr hm hn2
  refine Exists.intro _ (Exists.intro _ (And.intro (callX_args h3) ?_))
  exact And.intro trivial (Exists.intro _ (And.intro rfl ⟨by rw [← hj]; rfl, k3⟩))
/-- validBerries -/
theorem valid34_ok {sa : Option Addr} {n cap f : Nat} {rs : List Rw} (hr : Rws H f sa n cap rs) (hm : ∀ r ∈ rs, r.n ≤ 1000000) : ∃ H', FnX Try.prog kn lo 34 [.slice sa n cap] H (.bool (rwsOk rs)) H' ∧ Keep H H' [] := by
  have key := fnX_low (kn := kn) (lo := lo) (H := H) (args := [.slice sa n cap]) (Q := fun w H' => w = .bool (rwsOk rs) ∧ Keep H H' []) Try.func34 B34 N34 Z34 L34 (by simp) ?_
  · obtain ⟨w, H', h, rfl, q⟩ := key; exact ⟨H', h, q⟩
  have hk := Keep.refl H []
  refine wN_seq ?_
  refine wN_mov (v := .bool false) rfl ?_
  refine wN_end ?_
  refine wN_seq ?_
  refine wN_mov (v := .slice sa n cap) rfl ?_
  refine wN_len (m := n) rfl ?_
  refine wN_b_leq (a := (n : Int)) (b := 256) rfl rfl ?_
  intro t1 g1; cases t1
  · have g1 : ¬ ((n : Int) ≤ 256) := of_decide_eq_false g1
    refine wN_mov (v := .bool false) rfl ?_
    refine wN_gs rfl ?_
    refine wN_gs rfl ?_
    refine wN_gs rfl ?_
    refine wN_pur (v := .bool false) rfl rfl ?_
    refine wN_mov (v := .bool false) rfl ?_
    refine wN_end ?_
    exact And.intro trivial (Exists.intro _ (And.intro rfl ⟨congrArg Value.bool (show false = (rwsOk rs) from (by symm; first | (simp [rwsOk, hr.rl, hall]; done) | (simp [rwsOk, hr.rl, hall] <;> omega) | (simp [rwsOk, hr.rl]; done) | (simp [rwsOk, hr.rl] <;> omega))), hk⟩))
  · have g1 : (n : Int) ≤ 256 := of_decide_eq_true g1
    refine wN_mov (v := .bool true) rfl ?_
    refine wN_g rfl (wN_mov (v := .slice sa n cap) rfl ?_)
    refine wN_g rfl (wN_callB rfl (badRws_ok hr hm (by omega)) ?_)
    intro tH1 H1 hH1 kH1
    have mH1 := kH1.1
    have hk := hk.trans kH1
    have hr := hr.keep kH1 (by simp)
    cases tH1
    · have hall : rs.all Rw.ok = true := by simpa using hH1
      refine wN_g rfl (wN_pur (v := .bool true) rfl rfl ?_)
      refine wN_pur (v := .bool true) rfl rfl ?_
      refine wN_mov (v := .bool true) rfl ?_
      refine wN_end ?_
      exact And.intro trivial (Exists.intro _ (And.intro rfl ⟨congrArg Value.bool (show true = (rwsOk rs) from (by symm; first | (simp [rwsOk, hr.rl, hall]; done) | (simp [rwsOk, hr.rl, hall] <;> omega) | (simp [rwsOk, hr.rl]; done) | (simp [rwsOk, hr.rl] <;> omega))), hk⟩))
    · have hall : rs.all Rw.ok = false := by simpa using hH1
      refine wN_g rfl (wN_pur (v := .bool false) rfl rfl ?_)
      refine wN_pur (v := .bool false) rfl rfl ?_
      refine wN_mov (v := .bool false) rfl ?_
      refine wN_end ?_
      exact And.intro trivial (Exists.intro _ (And.intro rfl ⟨congrArg Value.bool (show false = (rwsOk rs) from (by symm; first | (simp [rwsOk, hr.rl, hall]; done) | (simp [rwsOk, hr.rl, hall] <;> omega) | (simp [rwsOk, hr.rl]; done) | (simp [rwsOk, hr.rl] <;> omega))), hk⟩))
/-- many -/
theorem many_ok {sa : Option Addr} {n cap f : Nat} {rs : List Rw} (hr : Rws H f sa n cap rs) : ∃ H', FnX Try.prog kn lo 16 [.slice sa n cap] H (.bool (manyB rs)) H' ∧ Keep H H' [] := by
  have key := fnX_low (kn := kn) (lo := lo) (H := H) (args := [.slice sa n cap]) (Q := fun w H' => w = .bool (manyB rs) ∧ Keep H H' []) Try.func16 B16 N16 Z16 L16 (by simp) ?_
  · obtain ⟨w, H', h, rfl, q⟩ := key; exact ⟨H', h, q⟩
  have hk := Keep.refl H []
  refine wN_seq ?_
  refine wN_mov (v := .bool false) rfl ?_
  refine wN_end ?_
  refine wN_seq ?_
  refine wN_mov (v := .slice sa n cap) rfl ?_
  refine wN_len (m := n) rfl ?_
  refine wN_c_gtr (a := (n : Int)) (b := 260) rfl rfl ?_
  refine wN_end ?_
  refine And.intro (fun q1 => ?_) (fun q1 => ?_)
  · have q1 : (n : Int) > 260 := of_decide_eq_true q1
    refine wN_seq ?_
    refine wN_mov (v := .bool true) rfl ?_
    refine wN_end ?_
    exact And.intro trivial (Exists.intro _ (And.intro rfl ⟨congrArg Value.bool (show true = manyB rs from (by symm; have hrl := hr.rl; simp [manyB]; omega)), hk⟩))
  · have q1 : ¬ ((n : Int) > 260) := of_decide_eq_false q1
    first | refine wN_skip ?_ | skip
    refine wN_seq ?_
    refine wN_mov (v := iv 0) rfl ?_
    refine wN_end ?_
    refine loop_low (fn := Try.f16) E16_1 N16 L16x1 (fun i : Nat => [(0, .slice sa n cap), (3, iv (i : Int))])
      (fun k i H' => i + k = n ∧ Keep H H' [] ∧ Rws H' f sa n cap rs ∧ (rs.take i).any (fun r => decide (r.n > 10)) = false) n 0 ⟨by omega, Keep.refl _ _, hr, rfl⟩ ⟨rfl, rfl, trivial⟩ ?_
    rintro k i L1 ⟨hik, hk, hr, hall⟩
    refine wN_seq ?_
    refine wN_mov (v := iv (i : Int)) rfl ?_
    refine wN_mov (v := .slice sa n cap) rfl ?_
    refine wN_len (m := n) rfl ?_
    refine wN_c_lss (a := (i : Int)) (b := (n : Int)) rfl rfl ?_
    refine wN_end ?_
    refine And.intro (fun q2 => ?_) (fun q2 => ?_)
    · have q2 : (i : Int) < (n : Int) := of_decide_eq_true q2
      have hi : i < n := by omega
      obtain ⟨sb, so, cs, x, hx, esb, rsb, lsf, lcap, hat, hmem⟩ := hr.opn hi
      first | refine wN_skip ?_ | skip
      refine wN_seq ?_
      refine wN_mov (v := .slice sa n cap) rfl ?_
      refine wN_mov (v := iv (i : Int)) rfl ?_
      refine wN_idx (b := sb) (o := so) (k := i) (j := (i : Int)) (by rw [← esb]; rfl) rfl rfl hi ?_
      refine wN_ld (b := sb) (o := so + i * 1) (v := .slice x.ra x.n x.cap) rfl rsb hat ?_
      refine wN_len (m := x.n) rfl ?_
      refine wN_c_gtr (a := (x.n : Int)) (b := 10) rfl rfl ?_
      refine wN_end ?_
      refine And.intro (fun q3 => ?_) (fun q3 => ?_)
      · have q3 : (x.n : Int) > 10 := of_decide_eq_true q3
        have hok : (fun r : Rw => decide (r.n > 10)) x = true := decide_eq_true (by omega)
        refine wN_seq ?_
        refine wN_mov (v := .bool true) rfl ?_
        refine wN_end ?_
        exact And.intro trivial (Exists.intro _ (And.intro rfl ⟨congrArg Value.bool (show true = manyB rs from (by symm; unfold manyB; rw [Bool.or_eq_true]; right; exact any_hit2 hx hok)), hk⟩))
      · have q3 : ¬ ((x.n : Int) > 10) := of_decide_eq_false q3
        have hok : (fun r : Rw => decide (r.n > 10)) x = false := decide_eq_false (by omega)
        first | refine wN_skip ?_ | skip
        first | refine wN_reg ?_ | refine wN_blk ?_ | refine wN_bseq ?_ | (refine wOps_nil ?_; refine wN_reg ?_)
        refine wN_mov (v := iv (i : Int)) rfl ?_
        refine wN_add (a := (i : Int)) (b := 1) rfl rfl ⟨by omega, by omega⟩ ?_
        refine wN_mov (v := iv ((i : Int) + 1)) rfl ?_
        refine wN_end ?_
        exact ⟨k - 1, i + 1, by omega, ⟨by omega, hk, hr, by rw [any_step hx, hall]; exact hok⟩, rfl, rfl, trivial⟩
    · have q2 : ¬ ((i : Int) < (n : Int)) := of_decide_eq_false q2
      refine wN_seq ?_
      refine wN_mov (v := .bool false) rfl ?_
      refine wN_end ?_
      exact And.intro trivial (Exists.intro _ (And.intro rfl ⟨congrArg Value.bool (show false = manyB rs from (by symm; have hrl := hr.rl; rw [List.take_of_length_le (by omega)] at hall; unfold manyB; rw [hall, decide_eq_false (by omega)]; rfl)), hk⟩))
end
end Go.Ax

/-
  Station: berries: firstTries, bouncing, Bounce (written by program).
-/
namespace Go.Ax
open Go Go.RowKit Go.Proofs

noncomputable abbrev asg35 : Code := at_ Try.f35 [1, 0, 1, 1, 0, 1, 0, 0]
noncomputable abbrev body35 : Code := at_ Try.f35 [1, 0, 1, 1, 0, 1, 0, 1]
abbrev S35 (bk : Nat) : Rg := [(4, pt bk), (7, pt (bk + 1))]
def kmin (m : Int) (n : Nat) : Nat := (min m (n : Int)).toNat
/-- what lies where behind i berries -/
structure J35 (H0 : Hp) (sa : Option Addr) (n cap : Nat) (rs : List Rw) (b m : Int) (bk rb tb l : Nat) (i : Nat) (H' : Hp) : Prop where
  kp : Keep H0 H' []
  hr : Rws H' H0.next sa n cap rs
  cb : Rd H' bk [iv b]
  cn : Cl H' (bk + 1) [iv (cntB (rs.take i) b m)]
  cr : Rd H' rb [.slice sa n cap]
  ct : Rd H' tb [iv m]
  lp : Lp Try.prog H' l .ready none 28 (S35 bk) [14] asg35 body35 (l - 1)
  dfr : H'.t.get (l - 1) = some (.dfr (some []))
  ll : l < H'.next
section
variable {kn : FuncId → Option Bool} {lo : Nat} {H : Hp}

/-- firstTries -/
theorem first55_ok {sa : Option Addr} {n cap : Nat} {m : Int} (hlo : lo ≤ H.next) : ∃ H', FnX Try.prog kn lo 55 [.slice sa n cap, iv m] H (.func (.func 64) #[] #[pt H.next, pt (H.next + 1)]) H' ∧ Keep H H' [] ∧ H'.next = H.next + 2 ∧ Rd H' H.next [.slice sa n cap] ∧ Rd H' (H.next + 1) [iv m] := by
  have key := fnX_low (kn := kn) (lo := lo) (H := H) (args := [.slice sa n cap, iv m]) (Q := fun w H' => w = .func (.func 64) #[] #[pt H.next, pt (H.next + 1)] ∧ Keep H H' [] ∧ H'.next = H.next + 2 ∧ Rd H' H.next [.slice sa n cap] ∧ Rd H' (H.next + 1) [iv m]) Try.func55 B55 N55 Z55 L55 (by simp) ?_
  · obtain ⟨w, H', h, rfl, q⟩ := key; exact ⟨H', h, q⟩
  refine wN_seq ?_
  refine wN_box (v := .slice sa n cap) rfl ?_
  intro H1 k1 n1 c1
  have c1 : Cl H1 H.next [.slice sa n cap] := c1
  refine wN_box (v := iv m) rfl ?_
  intro H2 k2 n2 c2
  have c2 : Cl H2 H1.next [iv m] := c2
  rw [n1] at c2 ⊢
  refine wN_mov (v := .nilFunc) rfl ?_
  refine wN_end ?_
  refine wN_seq ?_
  refine wN_pur (v := .func (.func 64) #[] #[pt H.next, pt (H.next + 1)]) rfl (by kernel_rfl) ?_
  refine wN_mov (v := .func (.func 64) #[] #[pt H.next, pt (H.next + 1)]) rfl ?_
  refine wN_end ?_
  exact And.intro trivial (Exists.intro _ (And.intro rfl ⟨rfl, k1.trans k2, by omega, (k2.cl c1 (by simp)).rd, c2.rd⟩))
set_option maxRecDepth 100000 in
/-- firstTries's iterator -/
theorem iter64_ok {sa : Option Addr} {n cap f rb tb l : Nat} {rs : List Rw} {m : Int} (hm0 : 0 ≤ m) {J : Nat → Hp → Prop} (hJ : J 0 H) (hJe : ∀ i H1, J i H1 → Rd H1 rb [.slice sa n cap] ∧ Rd H1 tb [iv m] ∧ Rws H1 f sa n cap rs)
    (hn : n ≤ 1000000) (step : ∀ i x H1, i < n → rs[i]? = some x → J i H1 → ∃ H', CallsX Try.prog kn lo (.fn (.yield l) #[]) [.slice x.ra (kmin m x.n) x.cap] H1 (.bool true) H' ∧ J (i + 1) H') :
    ∃ H', FnX Try.prog kn lo 64 [.func (.yield l) #[] #[], pt rb, pt tb] H unit H' ∧ J n H' := by
  have key := fnX_low (kn := kn) (lo := lo) (H := H) (args := [.func (.yield l) #[] #[], pt rb, pt tb]) (Q := fun w H' => w = unit ∧ J n H') Try.func64 B64 N64 Z64 L64 (by simp) ?_
  · obtain ⟨w, H', h, rfl, q⟩ := key; exact ⟨H', h, q⟩
  obtain ⟨hcr, hct, hr⟩ := hJe _ _ hJ
  refine wN_seq ?_
  refine wN_ld (b := rb) (o := 0) (v := .slice sa n cap) rfl hcr rfl ?_
  refine wN_len (m := n) rfl ?_
  refine wN_mov (v := iv 0) rfl ?_
  refine wN_end ?_
  refine loop_low (fn := Try.f64) E64_1 N64 L64x1 (fun i : Nat => [(0, .func (.yield l) #[] #[]), (1, pt rb), (2, pt tb), (6, .slice sa n cap), (7, iv (n : Int)), (8, iv (i : Int))])
    (fun k i H' => i + k = n ∧ J i H') n 0 ⟨by omega, hJ⟩ ⟨rfl, rfl, rfl, rfl, rfl, rfl, trivial⟩ ?_
  rintro k i L1 ⟨hik, hj⟩
  obtain ⟨hcr, hct, hr⟩ := hJe _ _ hj
  refine wN_seq ?_
  refine wN_c_lss (a := (i : Int)) (b := (n : Int)) rfl rfl ?_
  refine wN_end ?_
  refine And.intro (fun q1 => ?_) (fun q1 => ?_)
  · have q1 : (i : Int) < (n : Int) := of_decide_eq_true q1
    have hi : i < n := by omega
    obtain ⟨sb, so, cs, x, hx, esb, rsb, lsf, lcap, hat, hmem⟩ := hr.opn hi
    have hrx := hr.ri x hmem
    first | refine wN_skip ?_ | skip
    refine wN_seq ?_
    refine wN_idx (b := sb) (o := so) (k := i) (j := (i : Int)) (by rw [← esb]; rfl) rfl rfl hi ?_
    refine wN_ld (b := sb) (o := so + i * 1) (v := .slice x.ra x.n x.cap) rfl rsb hat ?_
    refine wN_mov (v := .slice x.ra x.n x.cap) rfl ?_
    refine wN_end ?_
    refine wN_seq ?_
    refine wN_mov (v := .func (.yield l) #[] #[]) rfl ?_
    refine wN_mov (v := .slice x.ra x.n x.cap) rfl ?_
    refine wN_ld (b := tb) (o := 0) (v := iv m) rfl hct rfl ?_
    refine wN_mov (v := .slice x.ra x.n x.cap) rfl ?_
    refine wN_len (m := x.n) rfl ?_
    refine wN_mm (a := m) (b := (x.n : Int)) rfl rfl ?_
    have hkm : (kmin m x.n : Int) = min m (x.n : Int) := by unfold kmin; omega
    have hkl : kmin m x.n ≤ x.n := by omega
    obtain ⟨kd, hop, hkd⟩ := heap_upto (lo := lo) hrx.1 (fun b e => (hrx.2.2 b e).2) hkl
    refine wN_memh (k := kd) rfl (by kernel_rfl) (hop _ _ _ _ _ _ _ rfl (by rw [hkm]; rfl)) hkd ?_
    obtain ⟨H2, f2, hj2⟩ := step i x _ hi hx hj
    refine wN_callf (vs := [.slice x.ra (kmin m x.n) x.cap]) rfl f2 ?_
    refine wN_pur (v := .bool false) rfl rfl ?_
    refine wN_end ?_
    refine condF ?_
    first | refine wN_skip ?_ | skip
    first | refine wN_reg ?_ | refine wN_blk ?_ | refine wN_bseq ?_ | (refine wOps_nil ?_; refine wN_reg ?_)
    refine wN_add (a := (i : Int)) (b := 1) rfl rfl ⟨by omega, by omega⟩ ?_
    refine wN_mov (v := iv ((i : Int) + 1)) rfl ?_
    refine wN_end ?_
    exact ⟨k - 1, i + 1, by omega, ⟨by omega, hj2⟩, rfl, rfl, rfl, rfl, rfl, rfl, trivial⟩
  · have q1 : ¬ ((i : Int) < (n : Int)) := of_decide_eq_false q1
    have e : i = n := by omega
    exact And.intro trivial (Exists.intro _ (And.intro rfl ⟨rfl, by rw [← e]; exact hj⟩))
theorem bnc_take {l : List Int} {b m : Int} {n : Nat} (hl : l.length = n) (hm : 0 ≤ m) : bnc l b m = (l.take (kmin m n)).any fun h => decide (b ≤ h) := by
  unfold bnc kmin
  rcases Int.lt_or_le m n with q | q
  · rw [Int.min_eq_left (by omega)]
  · rw [Int.min_eq_right q, List.take_of_length_le (by omega), List.take_of_length_le (by simp; omega)]
set_option maxRecDepth 100000 in
theorem round35 {H0 : Hp} {sa : Option Addr} {n cap bk rb tb l i : Nat} {rs : List Rw} {x : Rw} {b m : Int} (hm0 : 0 ≤ m) (hi : i < n) (hn : n ≤ 1000000) (hx : rs[i]? = some x) (hxm : x.n ≤ 1000000) (hlo : lo ≤ H0.next) (hbk : H0.next ≤ bk) (hbl : bk + 1 < rb) (hrt : rb < tb) (htl : tb + 1 < l) (j : J35 H0 sa n cap rs b m bk rb tb l i H) :
    ∃ H', CallsX Try.prog kn lo (.fn (.yield l) #[]) [.slice x.ra (kmin m x.n) x.cap] H (.bool true) H' ∧ J35 H0 sa n cap rs b m bk rb tb l (i + 1) H' := by
  have L1 : low Try.prog 28 asg35 = some R35x1 := N35 ▸ L35x1
  have L2 : low Try.prog 28 body35 = some R35x2 := N35 ▸ L35x2
  have ll := j.ll
  have hmem := List.mem_of_getElem? hx
  have hrl := j.hr.rl
  have key := yield_ok (kn := kn) (P := Try.prog) (lo := lo) (S1 := (14, .slice x.ra (kmin m x.n) x.cap) :: S35 bk) (args := [.slice x.ra (kmin m x.n) x.cap]) (Q := fun t H' => t = true ∧ J35 H0 sa n cap rs b m bk rb tb l (i + 1) H') j.lp (by omega) (by rfl) rfl (wC_sound true _ L1 ?_)
  · obtain ⟨t, H', h1, h2, h3⟩ := key; subst h2; exact ⟨H', h1, h3⟩
  refine wN_reg ?_
  refine wN_mov (v := .slice x.ra (kmin m x.n) x.cap) rfl ?_
  refine wN_end ?_
  refine And.intro trivial (And.intro j.lp ?_)
  intro H4 s4
  have k4 := s4.keep
  have lp4 := s4.lp j.lp
  have hn4 : H4.next = H.next := s4.1
  have nl : ∀ y, y ≠ l → y ∉ [l] := fun y hy => by simpa using hy
  have nw : ∀ y ∈ [l], H0.next ≤ y := fun y hy => by simp at hy; omega
  have hr4 := j.hr.keep k4 nw
  have cb4 := k4.rd j.cb (nl _ (by omega))
  have cn4 := k4.cl j.cn (nl _ (by omega))
  have cr4 := k4.rd j.cr (nl _ (by omega))
  have ct4 := k4.rd j.ct (nl _ (by omega))
  have df4 : H4.t.get (l - 1) = some (.dfr (some [])) := by rw [k4.2 _ (by omega) (nl _ (by omega))]; exact j.dfr
  have kp4 : Keep H0 H4 [] := j.kp.new k4 (fun y hy => .inr (nw y hy))
  have hrx := hr4.ri x hmem
  have hct := cntB_take_in rs b m i
  have hkl : kmin m x.n ≤ x.n := by unfold kmin; omega
  have hlx := hrx.2.1
  -- what is behind, whatever the berry did
  have fin : ∀ H5, Keep H4 H5 [bk + 1] → Cl H5 (bk + 1) [iv (cntB (rs.take (i + 1)) b m)] → Lp Try.prog H5 l .busy none 28 (S35 bk) [14] asg35 body35 (l - 1) ∧ ∀ H6, SetLp H5 l .ready none H6 → true = true ∧ J35 H0 sa n cap rs b m bk rb tb l (i + 1) H6 := by
    intro H5 k5 c5
    have m5 := k5.1
    have lp5 := lp4.keep k5 (by omega) (by simp; omega)
    refine ⟨lp5, fun H6 s6 => ⟨rfl, ?_⟩⟩
    have k6 := s6.keep
    have hn6 : H6.next = H5.next := s6.1
    have nb : ∀ y, y ≠ bk + 1 → y ∉ [bk + 1] := fun y hy => by simpa using hy
    exact ⟨(kp4.new k5 (fun y hy => .inr (by simp at hy; omega))).new k6 (fun y hy => .inr (nw y hy)), (hr4.keep k5 (fun y hy => by simp at hy; omega)).keep k6 nw, k6.rd (k5.rd cb4 (nb _ (by omega))) (nl _ (by omega)), k6.cl c5 (nl _ (by omega)),
      k6.rd (k5.rd cr4 (nb _ (by omega))) (nl _ (by omega)), k6.rd (k5.rd ct4 (nb _ (by omega))) (nl _ (by omega)), s6.lp lp5, by rw [k6.2 _ (by omega) (nl _ (by omega)), k5.2 _ (by omega) (nb _ (by omega))]; exact df4, by omega⟩
  refine wC_sound true _ L2 ?_
  refine wN_seq ?_
  refine wN_mov (v := .slice x.ra (kmin m x.n) x.cap) rfl ?_
  refine wN_len (m := kmin m x.n) rfl ?_
  refine wN_mov (v := iv 0) rfl ?_
  refine wN_end ?_
  refine loop_low (fn := Try.f35) E35_3 N35 L35x3 (fun q : Nat => [(4, pt bk), (7, pt (bk + 1)), (15, .slice x.ra (kmin m x.n) x.cap), (16, iv (kmin m x.n : Int)), (17, iv (q : Int))])
    (fun k q H' => q + k = kmin m x.n ∧ H' = H4 ∧ (x.l.take q).any (fun h => decide (b ≤ h)) = false) (kmin m x.n) 0 ⟨by omega, rfl, rfl⟩ ⟨rfl, rfl, rfl, rfl, rfl, trivial⟩ ?_
  rintro k q L1 ⟨hqk, rfl, hall⟩
  refine wN_seq ?_
  refine wN_c_lss (a := (q : Int)) (b := (kmin m x.n : Int)) rfl rfl ?_
  refine wN_end ?_
  refine And.intro (fun q1 => ?_) (fun q1 => ?_)
  · have q1 : (q : Int) < (kmin m x.n : Int) := of_decide_eq_true q1
    have hq : q < kmin m x.n := by omega
    obtain ⟨z, hz⟩ := get_some (l := x.l) (i := q) (by omega)
    have hs := hrx.1
    rcases hs with ⟨_, h0, _⟩ | ⟨xb, exb, rxb, _⟩
    · omega
    first | refine wN_skip ?_ | skip
    refine wN_seq ?_
    refine wN_idx (b := xb) (o := 0) (k := q) (j := (q : Int)) (by rw [← exb]; rfl) rfl rfl hq ?_
    refine wN_ld (b := xb) (o := 0 + q * 1) (v := iv z) rfl rxb (ints_at hz) ?_
    refine wN_mov (v := iv z) rfl ?_
    refine wN_end ?_
    refine wN_seq ?_
    refine wN_mov (v := iv z) rfl ?_
    refine wN_ld (b := bk) (o := 0) (v := iv b) rfl cb4 rfl ?_
    refine wN_c_geq (a := z) (b := b) rfl rfl ?_
    refine wN_end ?_
    refine And.intro (fun q2 => ?_) (fun q2 => ?_)
    · have q2 : z ≥ b := of_decide_eq_true q2
      refine wN_seq ?_
      refine wN_ld (b := bk + 1) (o := 0) (v := iv (cntB (rs.take i) b m)) rfl cn4.rd rfl ?_
      refine wN_add (a := cntB (rs.take i) b m) (b := 1) rfl rfl ⟨by omega, by omega⟩ ?_
      refine wN_st (b := bk + 1) (o := 0) (v := iv (cntB (rs.take i) b m + 1)) rfl rfl cn4 (by omega) rfl rfl (by simp) ?_
      intro H5 k5 n5 c5
      have hb : bnc x.l b m = true := by rw [bnc_take hlx hm0]; exact any_hit hz hq (decide_eq_true (by omega))
      have c5 : Cl H5 (bk + 1) [iv (cntB (rs.take (i + 1)) b m)] := by rw [cntB_step hx, hb]; exact c5
      refine wN_end ?_
      obtain ⟨f1, f2⟩ := fin H5 k5 c5
      exact And.intro f1 f2
    · have q2 : ¬ z ≥ b := of_decide_eq_false q2
      first | refine wN_skip ?_ | skip
      first | refine wN_reg ?_ | refine wN_blk ?_ | (refine wOps_nil ?_; refine wN_reg ?_)
      refine wN_add (a := (q : Int)) (b := 1) rfl rfl ⟨by omega, by omega⟩ ?_
      refine wN_mov (v := iv ((q : Int) + 1)) rfl ?_
      refine wN_end ?_
      exact ⟨k - 1, q + 1, by omega, ⟨by omega, rfl, by rw [any_step hz, hall]; exact decide_eq_false (by omega)⟩, rfl, rfl, rfl, rfl, rfl, trivial⟩
  · have q1 : ¬ ((q : Int) < (kmin m x.n : Int)) := of_decide_eq_false q1
    have e : q = kmin m x.n := by omega
    have hb : bnc x.l b m = false := by rw [bnc_take hlx hm0, ← e]; exact hall
    obtain ⟨f1, f2⟩ := fin L1 (Keep.refl _ _) (by rw [cntB_step hx, hb]; simpa using cn4)
    exact And.intro f1 f2
set_option maxRecDepth 100000 in
/-- bouncing -/
theorem bounce35_ok {sa : Option Addr} {n cap : Nat} {rs : List Rw} {b m : Int} (hm0 : 0 ≤ m) (hr : Rws H H.next sa n cap rs) (hm : ∀ r ∈ rs, r.n ≤ 1000000) (hn : n ≤ 1000000) (hlo : lo ≤ H.next) :
    ∃ H', FnX Try.prog kn lo 35 [.slice sa n cap, iv b, iv m] H (iv (cntB rs b m)) H' ∧ Keep H H' [] := by
  have key := fnX_lowR (kn := kn) (lo := lo) (H := H) (args := [.slice sa n cap, iv b, iv m]) (Q := fun w H' => w = iv (cntB rs b m) ∧ Keep H H' []) Try.func35 B35 N35 Z35 L35 (by simp) ?_
  · obtain ⟨w, H', h, rfl, q⟩ := key; exact ⟨H', h, q⟩
  intro y hy
  refine TriR.lowR hy ?_
  refine wN_reg ?_
  refine wN_box (v := iv b) rfl ?_
  intro H1 k1 n1 c1
  have c1 : Cl H1 H.next [iv b] := c1
  refine wN_mov (v := iv 0) rfl ?_
  refine wN_end ?_
  intro y hy
  refine TriR.lowS hy ?_
  intro y hy
  refine TriR.lowR hy ?_
  refine wN_reg ?_
  refine wN_alc ?_
  intro H2 k2 n2 c2
  refine wN_st (b := H1.next) (o := 0) (v := iv 0) rfl rfl c2 (by omega) rfl rfl (by simp) ?_
  intro H3 k3 n3 c3
  have c3 : Cl H3 H1.next [iv 0] := c3
  refine wN_end ?_
  intro y hy
  refine TriR.lowR hy ?_
  refine wN_skip ?_
  intro y hy
  refine TriR.lowL hy ?_
  intro z hz
  refine TriR.lowR hz ?_
  refine wN_reg ?_
  refine wN_mov (v := .slice sa n cap) rfl ?_
  refine wN_mov (v := iv m) rfl ?_
  obtain ⟨H4, f4, k4, n4, r4, t4⟩ := first55_ok (kn := kn) (lo := lo) (H := H3) (sa := sa) (n := n) (cap := cap) (m := m) (by omega)
  refine wN_callf (vs := [.slice sa n cap, iv m]) rfl (callX_args f4) ?_
  refine wN_end ?_
  intro y hy
  refine TriR.lowB hy ?_
  rw [E35_1]
  refine TriR.range rfl ?_
  intro H5 k5 n5 hdf hlp
  have e1 : H1.next = H.next + 1 := by omega
  have e3 : H3.next = H.next + 2 := by omega
  have e4 : H4.next = H.next + 4 := by omega
  have hlp : Lp Try.prog H5 (H4.next + 1) .ready none 28 [(4, pt H.next), (7, pt H1.next)] [14] asg35 body35 H4.next := hlp.weak ⟨rfl, rfl, trivial⟩
  rw [e1, e4] at hlp
  rw [e4] at hdf n5
  rw [e3] at r4 t4
  have k25 : Keep H2 H5 [H1.next] := (k3.trans (k4.mono (by simp))).trans (k5.mono (by simp))
  have k15 : Keep H1 H5 [] := k2.new k25 (fun y hy => .inr (by simp at hy; omega))
  have k05 : Keep H H5 [] := k1.trans k15
  have k35 : Keep H3 H5 [] := k4.trans k5
  have j0 : J35 H sa n cap rs b m H.next (H.next + 2) (H.next + 2 + 1) (H.next + 4 + 1) 0 H5 := ⟨k05, hr.keep k05 (by simp), (k15.cl c1 (by simp)).rd, by have := k35.cl c3 (by simp); rw [e1] at this; exact this, k5.rd r4 (by simp), k5.rd t4 (by simp), hlp, hdf, by omega⟩
  obtain ⟨H6, f6, j6⟩ := iter64_ok (kn := kn) (lo := lo) (H := H5) (l := H.next + 4 + 1) (J := J35 H sa n cap rs b m H.next (H.next + 2) (H.next + 2 + 1) (H.next + 4 + 1)) hm0 j0 (fun i H1' j => ⟨j.cr, j.ct, j.hr⟩) hn
    (fun i x H1' hi hx j => round35 hm0 hi hn hx (hm x (List.mem_of_getElem? hx)) hlo (Nat.le_refl _) (by omega) (by omega) (by omega) j)
  refine Exists.intro _ (Exists.intro H6 (And.intro (callX_func rfl (by rw [e4, e3]; simpa using f6)) ?_))
  have lp6 : Lp Try.prog H6 (H4.next + 1) .ready none 28 (S35 H.next) [14] asg35 body35 H4.next := by rw [e4]; exact j6.lp
  refine ⟨.ready, none, _, lp6, by simp, ?_⟩
  intro H7 s7
  have k7 := s7.keep
  have hn7 : H7.next = H6.next := s7.1
  rw [e4] at k7
  have ll := j6.ll
  have nl : ∀ y, y ≠ H.next + 4 + 1 → y ∉ [H.next + 4 + 1] := fun y hy => by simpa using hy
  have d7 : H7.t.get H4.next = some (.dfr (some [])) := by rw [e4, k7.2 _ (by omega) (nl _ (by omega))]; exact j6.dfr
  have c7 := k7.cl j6.cn (nl _ (by omega))
  rw [List.take_of_length_le (by have := hr.rl; omega), ← e1] at c7
  have kp7 : Keep H H7 [] := j6.kp.new k7 (fun y hy => .inr (by simp at hy; omega))
  refine wN_seq ?_
  refine wN_ld (b := H1.next) (o := 0) (v := iv (cntB rs b m)) rfl c7.rd rfl ?_
  refine wN_mov (v := iv (cntB rs b m)) rfl ?_
  refine wN_end ?_
  refine And.intro trivial (Or.inr ⟨H4.next, rfl, by omega, d7, fun H8 hn8 k8 => ?_⟩)
  exact ⟨_, rfl, rfl, kp7.new k8 (fun y hy => .inr (by simp at hy; omega))⟩
theorem Rws.upTo {H : Hp} {f f' : Nat} {sa : Option Addr} {n cap : Nat} {rs : List Rw} (h : Rws H f sa n cap rs) (hf : f ≤ f') : Rws H f' sa n cap rs where
  r := h.r.imp id fun ⟨b, o, cs, e, r, hb, q⟩ => ⟨b, o, cs, e, r, by omega, q⟩
  rl := h.rl
  ri := fun r hq => by
    obtain ⟨h1, h2, h3⟩ := h.ri r hq
    exact ⟨h1, h2, fun x e => ⟨by have := (h3 x e).1; omega, (h3 x e).2⟩⟩
/-- Bounce -/
theorem bounce19_ok {sa : Option Addr} {n cap f : Nat} {rs : List Rw} {b m : Int} (hr : Rws H f sa n cap rs) (hf : f ≤ H.next) (hm : ∀ r ∈ rs, r.n ≤ 1000000) (hn : n ≤ 1000000) (hlo : lo ≤ H.next) :
    ∃ H', FnX Try.prog kn lo 19 [.slice sa n cap, iv b, iv m] H (.tuple #[iv (boN rs b m), iv (boE rs b m)]) H' ∧ Keep H H' [] := by
  have key := fnX_low (kn := kn) (lo := lo) (H := H) (args := [.slice sa n cap, iv b, iv m]) (Q := fun w H' => w = (.tuple #[iv (boN rs b m), iv (boE rs b m)]) ∧ Keep H H' []) Try.func19 B19 N19 Z19 L19 (by simp) ?_
  · obtain ⟨w, H', h, rfl, q⟩ := key; exact ⟨H', h, q⟩
  have hk := Keep.refl H []
  refine wN_seq ?_
  refine wN_mov (v := iv 0) rfl ?_
  refine wN_mov (v := iv 0) rfl ?_
  refine wN_end ?_
  refine wN_seq ?_
  refine wN_mov (v := .slice sa n cap) rfl ?_
  refine wN_callB rfl (valid34_ok hr hm) ?_
  intro tH1 H1 hH1 kH1
  have mH1 := kH1.1
  have hk := hk.trans kH1
  have hr := hr.keep kH1 (by simp)
  cases tH1
  · have hvd : rwsOk rs = false := hH1
    refine wN_pur (v := .bool true) rfl rfl ?_
    refine wN_end ?_
    refine condT ?_
    refine wN_seq ?_
    refine wN_mov (v := iv 0) rfl ?_
    refine wN_mov (v := iv 1) rfl ?_
    refine wN_end ?_
    have e1 : boE rs b m = 1 := by unfold boE; rw [hvd]; rfl
    have e2 : boN rs b m = 0 := by unfold boN; rw [e1]; rfl
    exact And.intro trivial (Exists.intro _ (And.intro rfl ⟨by rw [e1, e2]; rfl, hk⟩))
  · have hvd : rwsOk rs = true := hH1
    refine wN_pur (v := .bool false) rfl rfl ?_
    refine wN_end ?_
    refine condF ?_
    first | refine wN_skip ?_ | skip
    refine wN_seq ?_
    refine wN_mov (v := iv b) rfl ?_
    refine wN_callB rfl (isw_ok) ?_
    intro tH2 H2 hH2 kH2
    have mH2 := kH2.1
    have hk := hk.trans kH2
    have hr := hr.keep kH2 (by simp)
    cases tH2
    · have fhH2 := isw_f hH2
      refine wN_pur (v := .bool true) rfl rfl ?_
      refine wN_mov (v := .bool true) rfl ?_
      refine wN_gs rfl ?_
      refine wN_gs rfl ?_
      refine wN_gs rfl ?_
      refine wN_pur (v := .bool true) rfl rfl ?_
      refine wN_end ?_
      refine condT ?_
      refine wN_seq ?_
      refine wN_mov (v := iv 0) rfl ?_
      refine wN_mov (v := iv 2) rfl ?_
      refine wN_end ?_
      have e1 : boE rs b m = 2 := by unfold boE; rw [if_pos hvd, if_neg (by simp only [isw, Bool.and_eq_true, Bool.and_eq_false_iff, Bool.or_eq_true, Bool.or_eq_false_iff, Bool.not_eq_true', Bool.not_eq_false', decide_eq_true_eq, decide_eq_false_iff_not]; omega)]
      have e2 : boN rs b m = 0 := by unfold boN; rw [e1]; rfl
      exact And.intro trivial (Exists.intro _ (And.intro rfl ⟨by rw [e1, e2]; rfl, hk⟩))
    · have fhH2 := isw_t hH2
      refine wN_pur (v := .bool false) rfl rfl ?_
      refine wN_mov (v := .bool false) rfl ?_
      refine wN_g rfl (wN_mov (v := iv m) rfl ?_)
      refine wN_g rfl (wN_callB rfl (isw_ok) ?_)
      intro tH3 H3 hH3 kH3
      have mH3 := kH3.1
      have hk := hk.trans kH3
      have hr := hr.keep kH3 (by simp)
      cases tH3
      · have fhH3 := isw_f hH3
        refine wN_g rfl (wN_pur (v := .bool true) rfl rfl ?_)
        refine wN_pur (v := .bool true) rfl rfl ?_
        refine wN_end ?_
        refine condT ?_
        refine wN_seq ?_
        refine wN_mov (v := iv 0) rfl ?_
        refine wN_mov (v := iv 2) rfl ?_
        refine wN_end ?_
        have e1 : boE rs b m = 2 := by unfold boE; rw [if_pos hvd, if_neg (by simp only [isw, Bool.and_eq_true, Bool.and_eq_false_iff, Bool.or_eq_true, Bool.or_eq_false_iff, Bool.not_eq_true', Bool.not_eq_false', decide_eq_true_eq, decide_eq_false_iff_not]; omega)]
        have e2 : boN rs b m = 0 := by unfold boN; rw [e1]; rfl
        exact And.intro trivial (Exists.intro _ (And.intro rfl ⟨by rw [e1, e2]; rfl, hk⟩))
      · have fhH3 := isw_t hH3
        refine wN_g rfl (wN_pur (v := .bool false) rfl rfl ?_)
        refine wN_pur (v := .bool false) rfl rfl ?_
        refine wN_end ?_
        refine condF ?_
        first | refine wN_skip ?_ | skip
        refine wN_seq ?_
        refine wN_mov (v := .slice sa n cap) rfl ?_
        refine wN_mov (v := iv b) rfl ?_
        refine wN_mov (v := iv m) rfl ?_
        obtain ⟨H4, fH4, kH4⟩ := bounce35_ok (kn := kn) (lo := lo) (H := H3) (b := b) (m := m) (by omega) (hr.upTo (by omega)) hm hn (by omega)
        refine wN_callf (vs := [.slice sa n cap, iv b, iv m]) rfl (callX_args fH4) ?_
        have mH4 := kH4.1
        have hk := hk.trans kH4
        have hr := hr.keep kH4 (by simp)
        refine wN_mov (v := iv (cntB rs b m)) rfl ?_
        refine wN_mov (v := iv 0) rfl ?_
        refine wN_end ?_
        have e1 : boE rs b m = 0 := by unfold boE; rw [if_pos hvd, if_pos (by simp only [isw, Bool.and_eq_true, Bool.and_eq_false_iff, Bool.or_eq_true, Bool.or_eq_false_iff, Bool.not_eq_true', Bool.not_eq_false', decide_eq_true_eq, decide_eq_false_iff_not]; omega)]
        have e2 : boN rs b m = cntB rs b m := by unfold boN; rw [e1]; rfl
        exact And.intro trivial (Exists.intro _ (And.intro rfl ⟨by rw [e1, e2]; rfl, hk⟩))
end
end Go.Ax

/-! What 'low' makes of functions of station (written by program). -/
namespace Go.Ax
open Go Go.RowKit Go.Proofs
theorem N9 : Try.f9.ntmps = 132 := by kernel_rfl
theorem Z9 : Try.f9.results.toList = ((List.toArray [(.tmp 10)]) : Array ResultVar).toList := by kernel_rfl
theorem B9 : Try.f9.body = some (at_ Try.f9 []) := by kernel_rfl
noncomputable def R9 : RC := (.seq (.reg [⟨(some 10), none, (.mov (.const (.bool false)))⟩])
  (.seq (.seq (.reg [⟨(some 19), none, (.mov (.tmp 0))⟩, ⟨(some 20), none, (.call ⟨(.value (.func 16)), (List.toArray [(.tmp 19)]), (List.toArray [35])⟩ true)⟩])
  (.cond (.tmp 20) (.seq (.reg [⟨(some 21), none, (.call ⟨(.value (.func 10)), (List.toArray []), (List.toArray [])⟩ true)⟩, ⟨(some 10), none, (.mov (.tmp 21))⟩])
  .ret)
  .skip))
  (.seq (.reg [⟨(some 23), none, (.mov (.tmp 0))⟩, ⟨(some 24), none, (.mov (.tmp 1))⟩, ⟨(some 25), none, (.mov (.tmp 2))⟩, ⟨(some 26), none, (.call ⟨(.value (.func 19)), (List.toArray [(.tmp 23), (.tmp 24), (.tmp 25)]), (List.toArray [35, 3, 3])⟩ true)⟩, ⟨(some 22), none, (.mov (.tmp 26))⟩, ⟨(some 27), none, (.pur ⟨(some 27), (.extract (.tmp 22) 0), 3, "", (List.toArray []), none⟩)⟩, ⟨(some 28), none, (.pur ⟨(some 28), (.extract (.tmp 22) 1), 25, "", (List.toArray []), none⟩)⟩, ⟨(some 11), none, (.mov (.tmp 27))⟩, ⟨(some 12), none, (.mov (.tmp 28))⟩])
  (.seq (.seq (.reg [⟨(some 29), none, (.mov (.tmp 12))⟩, ⟨(some 30), none, (.cmp .neq (.tmp 29) (.const (.int .i64 0)))⟩])
  (.cond (.tmp 30) (.seq (.reg [⟨(some 31), none, (.mov (.tmp 11))⟩, ⟨(some 32), none, (.cmpb .eql (.tmp 31) (.const (.int .i64 0)))⟩, ⟨(some 33), none, (.mov (.tmp 32))⟩, ⟨(some 34), (some (33, true)), (.mov (.tmp 12))⟩, ⟨(some 35), (some (33, true)), (.cmpb .eql (.tmp 34) (.const (.int .i64 1)))⟩, ⟨(some 36), (some (33, true)), (.mov (.tmp 35))⟩, ⟨(some 37), (some (36, false)), (.mov (.tmp 12))⟩, ⟨(some 38), (some (36, false)), (.cmpb .eql (.tmp 37) (.const (.int .i64 2)))⟩, ⟨(some 39), (some (33, true)), (.pur ⟨(some 39), (.pick (.tmp 36) (.const (.bool true)) (.tmp 38)), 4, "", (List.toArray []), none⟩)⟩, ⟨(some 40), none, (.pur ⟨(some 40), (.pick (.tmp 33) (.tmp 39) (.const (.bool false))), 4, "", (List.toArray []), none⟩)⟩, ⟨(some 41), none, (.mov (.tmp 40))⟩, ⟨(some 42), (some (41, true)), (.call ⟨(.value (.func 10)), (List.toArray []), (List.toArray [])⟩ true)⟩, ⟨(some 43), none, (.pur ⟨(some 43), (.pick (.tmp 41) (.tmp 42) (.const (.bool false))), 4, "", (List.toArray []), none⟩)⟩, ⟨(some 10), none, (.mov (.tmp 43))⟩])
  .ret)
  .skip))
  (.seq (.seq (.reg [⟨(some 44), none, (.mov (.tmp 1))⟩, ⟨(some 45), none, (.cmpb .lss (.tmp 44) (.const (.int .i64 0)))⟩, ⟨(some 46), none, (.mov (.tmp 45))⟩, ⟨(some 47), (some (46, false)), (.mov (.tmp 2))⟩, ⟨(some 48), (some (46, false)), (.cmpb .lss (.tmp 47) (.const (.int .i64 0)))⟩, ⟨(some 49), none, (.pur ⟨(some 49), (.pick (.tmp 46) (.const (.bool true)) (.tmp 48)), 4, "", (List.toArray []), none⟩)⟩, ⟨(some 50), none, (.mov (.tmp 49))⟩, ⟨(some 51), (some (50, false)), (.mov (.tmp 2))⟩, ⟨(some 52), (some (50, false)), (.cmpb .gtr (.tmp 51) (.const (.int .i64 7)))⟩, ⟨(some 53), none, (.pur ⟨(some 53), (.pick (.tmp 50) (.const (.bool true)) (.tmp 52)), 4, "", (List.toArray []), none⟩)⟩, ⟨(some 54), none, (.mov (.tmp 53))⟩, ⟨(some 55), (some (54, false)), (.mov (.tmp 0))⟩, ⟨(some 56), (some (54, false)), (.len (.tmp 55))⟩, ⟨(some 57), (some (54, false)), (.cmpb .gtr (.tmp 56) (.const (.int .i64 256)))⟩, ⟨(some 58), none, (.pur ⟨(some 58), (.pick (.tmp 54) (.const (.bool true)) (.tmp 57)), 4, "", (List.toArray []), none⟩)⟩])
  (.cond (.tmp 58) (.seq (.reg [⟨(some 10), none, (.mov (.const (.bool false)))⟩])
  .ret)
  .skip))
  (.seq (.reg [⟨(some 13), none, (.mov (.const (.int .i64 0)))⟩])
  (.seq (.seq (.reg [⟨(some 14), none, (.mov (.const (.int .i64 0)))⟩])
  (.block 0 (.other (at_ Try.f9 [1, 1, 1, 1, 1, 1, 0, 1, 0]))))
  (.seq (.reg [⟨(some 102), none, (.mov (.tmp 0))⟩, ⟨(some 103), none, (.mov (.tmp 1))⟩, ⟨(some 104), none, (.mov (.tmp 3))⟩, ⟨(some 105), none, (.pur ⟨(some 105), (.convert 5 3 (.tmp 104)), 3, "", (List.toArray []), none⟩)⟩, ⟨(some 106), none, (.ari .add (.tmp 103) (.tmp 105))⟩, ⟨(some 107), none, (.mm true (.const (.int .i64 4096)) (.tmp 106))⟩, ⟨(some 108), none, (.mov (.tmp 2))⟩, ⟨(some 109), none, (.mov (.tmp 4))⟩, ⟨(some 110), none, (.pur ⟨(some 110), (.convert 5 3 (.tmp 109)), 3, "", (List.toArray []), none⟩)⟩, ⟨(some 111), none, (.ari .rem (.tmp 110) (.const (.int .i64 8)))⟩, ⟨(some 112), none, (.ari .sub (.tmp 108) (.tmp 111))⟩, ⟨(some 113), none, (.mm false (.const (.int .i64 0)) (.tmp 112))⟩, ⟨(some 114), none, (.call ⟨(.value (.func 19)), (List.toArray [(.tmp 102), (.tmp 107), (.tmp 113)]), (List.toArray [35, 3, 3])⟩ true)⟩, ⟨(some 101), none, (.mov (.tmp 114))⟩, ⟨(some 115), none, (.pur ⟨(some 115), (.extract (.tmp 101) 0), 3, "", (List.toArray []), none⟩)⟩, ⟨(some 116), none, (.pur ⟨(some 116), (.extract (.tmp 101) 1), 25, "", (List.toArray []), none⟩)⟩, ⟨(some 17), none, (.mov (.tmp 115))⟩, ⟨(some 18), none, (.mov (.tmp 116))⟩])
  (.seq (.reg [⟨(some 117), none, (.mov (.tmp 13))⟩, ⟨(some 118), none, (.mov (.tmp 11))⟩, ⟨(some 119), none, (.cmpb .eql (.tmp 117) (.tmp 118))⟩, ⟨(some 120), none, (.mov (.tmp 119))⟩, ⟨(some 121), (some (120, true)), (.mov (.tmp 18))⟩, ⟨(some 122), (some (120, true)), (.cmpb .eql (.tmp 121) (.const (.int .i64 0)))⟩, ⟨(some 123), none, (.pur ⟨(some 123), (.pick (.tmp 120) (.tmp 122) (.const (.bool false))), 4, "", (List.toArray []), none⟩)⟩, ⟨(some 124), none, (.mov (.tmp 123))⟩, ⟨(some 125), (some (124, true)), (.mov (.tmp 17))⟩, ⟨(some 126), (some (124, true)), (.mov (.tmp 11))⟩, ⟨(some 127), (some (124, true)), (.cmpb .leq (.tmp 125) (.tmp 126))⟩, ⟨(some 128), none, (.pur ⟨(some 128), (.pick (.tmp 124) (.tmp 127) (.const (.bool false))), 4, "", (List.toArray []), none⟩)⟩, ⟨(some 129), none, (.mov (.tmp 128))⟩, ⟨(some 130), (some (129, true)), (.call ⟨(.value (.func 10)), (List.toArray []), (List.toArray [])⟩ true)⟩, ⟨(some 131), none, (.pur ⟨(some 131), (.pick (.tmp 129) (.tmp 130) (.const (.bool false))), 4, "", (List.toArray []), none⟩)⟩, ⟨(some 10), none, (.mov (.tmp 131))⟩])
  .ret)))))))))
theorem L9 : low Try.prog Try.f9.ntmps (at_ Try.f9 []) = some R9 := by kernel_rfl
theorem E9_1 : at_ Try.f9 [1, 1, 1, 1, 1, 1, 0, 1, 0] = .loop (at_ Try.f9 [1, 1, 1, 1, 1, 1, 0, 1, 0, 0]) := by kernel_rfl
noncomputable def R9x1 : RC := (.seq (.seq (.reg [⟨(some 59), none, (.mov (.tmp 14))⟩, ⟨(some 60), none, (.mov (.tmp 0))⟩, ⟨(some 61), none, (.len (.tmp 60))⟩, ⟨(some 62), none, (.cmp .lss (.tmp 59) (.tmp 61))⟩])
  (.cond (.tmp 62) .skip
  (.exit 0)))
  (.seq (.block 1 (.seq (.reg [⟨(some 66), none, (.mov (.tmp 0))⟩, ⟨(some 67), none, (.mov (.tmp 14))⟩, ⟨(some 68), none, (.mov (.tmp 14))⟩, ⟨(some 69), none, (.ari .add (.tmp 68) (.const (.int .i64 1)))⟩, ⟨(some 70), none, (.mem ⟨(some 70), (.slice 35 (.tmp 66) (some (.tmp 67)) (some (.tmp 69)) none), 35, "", (List.toArray []), none⟩)⟩, ⟨(some 71), none, (.mov (.tmp 1))⟩, ⟨(some 72), none, (.mov (.tmp 2))⟩, ⟨(some 73), none, (.call ⟨(.value (.func 19)), (List.toArray [(.tmp 70), (.tmp 71), (.tmp 72)]), (List.toArray [35, 3, 3])⟩ true)⟩, ⟨(some 65), none, (.mov (.tmp 73))⟩, ⟨(some 74), none, (.pur ⟨(some 74), (.extract (.tmp 65) 0), 3, "", (List.toArray []), none⟩)⟩, ⟨(some 75), none, (.pur ⟨(some 75), (.extract (.tmp 65) 1), 25, "", (List.toArray []), none⟩)⟩, ⟨(some 15), none, (.mov (.tmp 74))⟩, ⟨(some 16), none, (.mov (.tmp 75))⟩])
  (.seq (.seq (.reg [⟨(some 76), none, (.mov (.tmp 16))⟩, ⟨(some 77), none, (.cmpb .neq (.tmp 76) (.const (.int .i64 0)))⟩, ⟨(some 78), none, (.mov (.tmp 77))⟩, ⟨(some 79), (some (78, false)), (.mov (.tmp 15))⟩, ⟨(some 80), (some (78, false)), (.cmpb .lss (.tmp 79) (.const (.int .i64 0)))⟩, ⟨(some 81), none, (.pur ⟨(some 81), (.pick (.tmp 78) (.const (.bool true)) (.tmp 80)), 4, "", (List.toArray []), none⟩)⟩, ⟨(some 82), none, (.mov (.tmp 81))⟩, ⟨(some 83), (some (82, false)), (.mov (.tmp 15))⟩, ⟨(some 84), (some (82, false)), (.cmpb .gtr (.tmp 83) (.const (.int .i64 1)))⟩, ⟨(some 85), none, (.pur ⟨(some 85), (.pick (.tmp 82) (.const (.bool true)) (.tmp 84)), 4, "", (List.toArray []), none⟩)⟩, ⟨(some 86), none, (.mov (.tmp 85))⟩, ⟨(some 87), (some (86, false)), (.mov (.tmp 15))⟩, ⟨(some 88), (some (86, false)), (.cmpb .eql (.tmp 87) (.const (.int .i64 1)))⟩, ⟨(some 89), (some (86, false)), (.mov (.tmp 0))⟩, ⟨(some 90), (some (86, false)), (.mov (.tmp 14))⟩, ⟨(some 91), (some (86, false)), (.idx (.tmp 89) (.tmp 90) 1)⟩, ⟨(some 92), (some (86, false)), (.ld (.tmp 91) 1)⟩, ⟨(some 93), (some (86, false)), (.mov (.tmp 1))⟩, ⟨(some 94), (some (86, false)), (.mov (.tmp 2))⟩, ⟨(some 95), (some (86, false)), (.call ⟨(.value (.func 24)), (List.toArray [(.tmp 92), (.tmp 93), (.tmp 94)]), (List.toArray [45, 3, 3])⟩ true)⟩, ⟨(some 96), (some (86, false)), (.pur ⟨(some 96), (.binOp .neq 4 (.tmp 88) (.tmp 95) 4), 4, "", (List.toArray []), none⟩)⟩, ⟨(some 97), none, (.pur ⟨(some 97), (.pick (.tmp 86) (.const (.bool true)) (.tmp 96)), 4, "", (List.toArray []), none⟩)⟩])
  (.cond (.tmp 97) (.seq (.reg [⟨(some 10), none, (.mov (.const (.bool false)))⟩])
  .ret)
  .skip))
  (.reg [⟨(some 98), none, (.mov (.tmp 13))⟩, ⟨(some 99), none, (.mov (.tmp 15))⟩, ⟨(some 100), none, (.ari .add (.tmp 98) (.tmp 99))⟩, ⟨(some 13), none, (.mov (.tmp 100))⟩]))))
  (.reg [⟨(some 63), none, (.mov (.tmp 14))⟩, ⟨(some 64), none, (.ari .add (.tmp 63) (.const (.int .i64 1)))⟩, ⟨(some 14), none, (.mov (.tmp 64))⟩])))
theorem L9x1 : low Try.prog Try.f9.ntmps (at_ Try.f9 [1, 1, 1, 1, 1, 1, 0, 1, 0, 0]) = some R9x1 := by kernel_rfl
theorem N10 : Try.f10.ntmps = 78 := by kernel_rfl
theorem Z10 : Try.f10.results.toList = ((List.toArray [(.tmp 0)]) : Array ResultVar).toList := by kernel_rfl
theorem B10 : Try.f10.body = some (at_ Try.f10 []) := by kernel_rfl
noncomputable def R10 : RC := (.seq (.reg [⟨(some 0), none, (.mov (.const (.bool false)))⟩])
  (.seq (.reg [⟨(some 12), none, (.call ⟨(.value (.func 25)), (List.toArray []), (List.toArray [])⟩ true)⟩, ⟨(some 11), none, (.mov (.tmp 12))⟩, ⟨(some 13), none, (.pur ⟨(some 13), (.extract (.tmp 11) 0), 22, "", (List.toArray []), none⟩)⟩, ⟨(some 14), none, (.pur ⟨(some 14), (.extract (.tmp 11) 1), 34, "", (List.toArray []), none⟩)⟩, ⟨(some 2), none, (.alc 34 [(.int .i64 0), (.int .i64 0), (.int .i64 0), (.int .i64 0), (.int .i64 0), (.slice none 0 0)])⟩, ⟨(some 1), none, (.mov (.tmp 13))⟩, ⟨none, none, (.sta (.tmp 2) (.tmp 14) 6)⟩])
  (.seq (.reg [⟨(some 16), none, (.mov (.tmp 1))⟩, ⟨(some 17), none, (.call ⟨(.value (.func 11)), (List.toArray [(.tmp 16), (.const (.int .i64 2))]), (List.toArray [22, 3])⟩ true)⟩, ⟨(some 15), none, (.mov (.tmp 17))⟩, ⟨(some 18), none, (.pur ⟨(some 18), (.extract (.tmp 15) 0), 24, "", (List.toArray []), none⟩)⟩, ⟨(some 19), none, (.pur ⟨(some 19), (.extract (.tmp 15) 1), 25, "", (List.toArray []), none⟩)⟩, ⟨(some 3), none, (.mov (.tmp 18))⟩, ⟨(some 4), none, (.mov (.tmp 19))⟩])
  (.seq (.reg [⟨(some 21), none, (.mov (.tmp 1))⟩, ⟨(some 22), none, (.call ⟨(.value (.func 13)), (List.toArray [(.tmp 21), (.const (.int .i64 20))]), (List.toArray [22, 3])⟩ true)⟩, ⟨(some 20), none, (.mov (.tmp 22))⟩, ⟨(some 23), none, (.pur ⟨(some 23), (.extract (.tmp 20) 0), 3, "", (List.toArray []), none⟩)⟩, ⟨(some 24), none, (.pur ⟨(some 24), (.extract (.tmp 20) 1), 25, "", (List.toArray []), none⟩)⟩, ⟨(some 5), none, (.mov (.tmp 23))⟩, ⟨(some 6), none, (.mov (.tmp 24))⟩])
  (.seq (.reg [⟨(some 26), none, (.lda (.tmp 2) 6)⟩, ⟨(some 27), none, (.call ⟨(.value (.func 17)), (List.toArray [(.tmp 26)]), (List.toArray [34])⟩ true)⟩, ⟨(some 25), none, (.mov (.tmp 27))⟩, ⟨(some 28), none, (.pur ⟨(some 28), (.extract (.tmp 25) 0), 38, "", (List.toArray []), none⟩)⟩, ⟨(some 29), none, (.pur ⟨(some 29), (.extract (.tmp 25) 1), 25, "", (List.toArray []), none⟩)⟩, ⟨(some 7), none, (.alc 38 [(.int .i64 0), (.int .i64 0), (.int .i64 0), (.int .i64 0), (.int .i64 0), (.int .i64 0)])⟩, ⟨none, none, (.sta (.tmp 7) (.tmp 28) 6)⟩, ⟨(some 8), none, (.mov (.tmp 29))⟩])
  (.seq (.reg [⟨(some 31), none, (.mem ⟨(some 31), (.buildSlice 45 2 (List.toArray [(0, (.const (.int .i64 30))), (1, (.const (.int .i64 100)))])), 45, "", (List.toArray []), none⟩)⟩, ⟨(some 32), none, (.mem ⟨(some 32), (.buildSlice 45 4 (List.toArray [(0, (.const (.int .i64 90))), (1, (.const (.int .i64 90))), (2, (.const (.int .i64 90))), (3, (.const (.int .i64 120)))])), 45, "", (List.toArray []), none⟩)⟩, ⟨(some 33), none, (.mem ⟨(some 33), (.buildSlice 45 1 (List.toArray [(0, (.const (.int .i64 20)))])), 45, "", (List.toArray []), none⟩)⟩, ⟨(some 34), none, (.mem ⟨(some 34), (.buildSlice 35 3 (List.toArray [(0, (.tmp 31)), (1, (.tmp 32)), (2, (.tmp 33))])), 35, "", (List.toArray []), none⟩)⟩, ⟨(some 35), none, (.call ⟨(.value (.func 19)), (List.toArray [(.tmp 34), (.const (.int .i64 100)), (.const (.int .i64 3))]), (List.toArray [35, 3, 3])⟩ true)⟩, ⟨(some 30), none, (.mov (.tmp 35))⟩, ⟨(some 36), none, (.pur ⟨(some 36), (.extract (.tmp 30) 0), 3, "", (List.toArray []), none⟩)⟩, ⟨(some 37), none, (.pur ⟨(some 37), (.extract (.tmp 30) 1), 25, "", (List.toArray []), none⟩)⟩, ⟨(some 9), none, (.mov (.tmp 36))⟩, ⟨(some 10), none, (.mov (.tmp 37))⟩])
  (.seq (.seq (.reg [⟨(some 38), none, (.mov (.tmp 3))⟩, ⟨(some 39), none, (.len (.tmp 38))⟩, ⟨(some 40), none, (.cmpb .neq (.tmp 39) (.const (.int .i64 3)))⟩, ⟨(some 41), none, (.mov (.tmp 40))⟩, ⟨(some 42), (some (41, false)), (.mov (.tmp 3))⟩, ⟨(some 43), (some (41, false)), (.idx (.tmp 42) (.const (.int .i64 2)) 6)⟩, ⟨(some 44), (some (41, false)), (.lda (.tmp 43) 6)⟩, ⟨(some 45), (some (41, false)), (.pur ⟨(some 45), (.build 47 (List.toArray [(0, (.const (.int .i64 112))), (1, (.const (.int .i64 120)))])), 47, "", (List.toArray []), none⟩)⟩, ⟨(some 46), (some (41, false)), (.pur ⟨(some 46), (.build 47 (List.toArray [(0, (.const (.int .i64 127))), (1, (.const (.int .i64 160)))])), 47, "", (List.toArray []), none⟩)⟩, ⟨(some 47), (some (41, false)), (.pur ⟨(some 47), (.build 47 (List.toArray [(1, (.const (.int .i64 8)))])), 47, "", (List.toArray []), none⟩)⟩, ⟨(some 48), (some (41, false)), (.pur ⟨(some 48), (.build 52 (List.toArray [(0, (.tmp 45)), (1, (.tmp 46)), (2, (.tmp 47))])), 52, "", (List.toArray []), none⟩)⟩, ⟨(some 49), (some (41, false)), (.pur ⟨(some 49), (.binOp .neq 52 (.tmp 44) (.tmp 48) 52), 4, "", (List.toArray []), none⟩)⟩, ⟨(some 50), none, (.pur ⟨(some 50), (.pick (.tmp 41) (.const (.bool true)) (.tmp 49)), 4, "", (List.toArray []), none⟩)⟩, ⟨(some 51), none, (.mov (.tmp 50))⟩, ⟨(some 52), (some (51, false)), (.mov (.tmp 4))⟩, ⟨(some 53), (some (51, false)), (.cmpb .neq (.tmp 52) (.const (.int .i64 0)))⟩, ⟨(some 54), none, (.pur ⟨(some 54), (.pick (.tmp 51) (.const (.bool true)) (.tmp 53)), 4, "", (List.toArray []), none⟩)⟩, ⟨(some 55), none, (.mov (.tmp 54))⟩, ⟨(some 56), (some (55, false)), (.mov (.tmp 5))⟩, ⟨(some 57), (some (55, false)), (.cmpb .neq (.tmp 56) (.const (.int .i64 2)))⟩, ⟨(some 58), none, (.pur ⟨(some 58), (.pick (.tmp 55) (.const (.bool true)) (.tmp 57)), 4, "", (List.toArray []), none⟩)⟩, ⟨(some 59), none, (.mov (.tmp 58))⟩, ⟨(some 60), (some (59, false)), (.mov (.tmp 6))⟩, ⟨(some 61), (some (59, false)), (.cmpb .neq (.tmp 60) (.const (.int .i64 0)))⟩, ⟨(some 62), none, (.pur ⟨(some 62), (.pick (.tmp 59) (.const (.bool true)) (.tmp 61)), 4, "", (List.toArray []), none⟩)⟩])
  (.cond (.tmp 62) (.seq (.reg [⟨(some 0), none, (.mov (.const (.bool false)))⟩])
  .ret)
  .skip))
  (.seq (.reg [⟨(some 63), none, (.lda (.tmp 7) 6)⟩, ⟨(some 64), none, (.pur ⟨(some 64), (.build 38 (List.toArray [(0, (.const (.int .i64 7000))), (1, (.const (.int .i64 6580))), (2, (.const (.int .i64 233))), (3, (.const (.int .i64 187))), (4, (.const (.int .i64 329000))), (5, (.const (.int .i64 3948000)))])), 38, "", (List.toArray []), none⟩)⟩, ⟨(some 65), none, (.pur ⟨(some 65), (.binOp .eql 38 (.tmp 63) (.tmp 64) 38), 4, "", (List.toArray []), none⟩)⟩, ⟨(some 66), none, (.mov (.tmp 65))⟩, ⟨(some 67), (some (66, true)), (.mov (.tmp 8))⟩, ⟨(some 68), (some (66, true)), (.cmpb .eql (.tmp 67) (.const (.int .i64 0)))⟩, ⟨(some 69), none, (.pur ⟨(some 69), (.pick (.tmp 66) (.tmp 68) (.const (.bool false))), 4, "", (List.toArray []), none⟩)⟩, ⟨(some 70), none, (.mov (.tmp 69))⟩, ⟨(some 71), (some (70, true)), (.mov (.tmp 9))⟩, ⟨(some 72), (some (70, true)), (.cmpb .eql (.tmp 71) (.const (.int .i64 1)))⟩, ⟨(some 73), none, (.pur ⟨(some 73), (.pick (.tmp 70) (.tmp 72) (.const (.bool false))), 4, "", (List.toArray []), none⟩)⟩, ⟨(some 74), none, (.mov (.tmp 73))⟩, ⟨(some 75), (some (74, true)), (.mov (.tmp 10))⟩, ⟨(some 76), (some (74, true)), (.cmpb .eql (.tmp 75) (.const (.int .i64 0)))⟩, ⟨(some 77), none, (.pur ⟨(some 77), (.pick (.tmp 74) (.tmp 76) (.const (.bool false))), 4, "", (List.toArray []), none⟩)⟩, ⟨(some 0), none, (.mov (.tmp 77))⟩])
  .ret))))))))
theorem L10 : low Try.prog Try.f10.ntmps (at_ Try.f10 []) = some R10 := by kernel_rfl
theorem N25 : Try.f25.ntmps = 18 := by kernel_rfl
theorem Z25 : Try.f25.results.toList = ((List.toArray [(.tmp 0), (.cell 1 34)]) : Array ResultVar).toList := by kernel_rfl
theorem B25 : Try.f25.body = some (at_ Try.f25 []) := by kernel_rfl
noncomputable def R25 : RC := (.seq (.reg [⟨(some 0), none, (.mov (.const (.slice none 0 0)))⟩, ⟨(some 1), none, (.alc 34 [(.int .i64 0), (.int .i64 0), (.int .i64 0), (.int .i64 0), (.int .i64 0), (.slice none 0 0)])⟩])
  (.seq (.reg [⟨(some 3), none, (.pur ⟨(some 3), (.build 47 (List.toArray [(0, (.const (.int .i64 100))), (1, (.const (.int .i64 110)))])), 47, "", (List.toArray []), none⟩)⟩, ⟨(some 4), none, (.pur ⟨(some 4), (.build 47 (List.toArray [(0, (.const (.int .i64 20))), (1, (.const (.int .i64 30)))])), 47, "", (List.toArray []), none⟩)⟩, ⟨(some 5), none, (.pur ⟨(some 5), (.build 49 (List.toArray [(0, (.tmp 3)), (1, (.tmp 4))])), 49, "", (List.toArray []), none⟩)⟩, ⟨(some 6), none, (.pur ⟨(some 6), (.build 47 (List.toArray [(0, (.const (.int .i64 90))), (1, (.const (.int .i64 105)))])), 47, "", (List.toArray []), none⟩)⟩, ⟨(some 7), none, (.pur ⟨(some 7), (.build 47 (List.toArray [(0, (.const (.int .i64 10))), (1, (.const (.int .i64 10)))])), 47, "", (List.toArray []), none⟩)⟩, ⟨(some 8), none, (.pur ⟨(some 8), (.build 49 (List.toArray [(0, (.tmp 6)), (1, (.tmp 7))])), 49, "", (List.toArray []), none⟩)⟩, ⟨(some 9), none, (.pur ⟨(some 9), (.build 47 (List.toArray [(0, (.const (.int .i64 112))), (1, (.const (.int .i64 112)))])), 47, "", (List.toArray []), none⟩)⟩, ⟨(some 10), none, (.pur ⟨(some 10), (.build 47 (List.toArray [(0, (.const (.int .i64 15))), (1, (.const (.int .i64 40)))])), 47, "", (List.toArray []), none⟩)⟩, ⟨(some 11), none, (.pur ⟨(some 11), (.build 49 (List.toArray [(0, (.tmp 9)), (1, (.tmp 10))])), 49, "", (List.toArray []), none⟩)⟩, ⟨(some 12), none, (.mem ⟨(some 12), (.buildSlice 22 3 (List.toArray [(0, (.tmp 5)), (1, (.tmp 8)), (2, (.tmp 11))])), 22, "", (List.toArray []), none⟩)⟩, ⟨(some 2), none, (.mov (.tmp 12))⟩])
  (.seq (.reg [⟨(some 13), none, (.mov (.tmp 2))⟩, ⟨(some 14), none, (.pur ⟨(some 14), (.build 58 (List.toArray [(0, (.const (.int .i64 100))), (1, (.const (.int .i64 5))), (2, (.const (.int .i64 3))), (3, (.const (.int .i64 40))), (4, (.const (.int .i64 700)))])), 58, "", (List.toArray []), none⟩)⟩, ⟨(some 15), none, (.pur ⟨(some 15), (.build 58 (List.toArray [(0, (.const (.int .i64 50))), (2, (.const (.int .i64 1))), (3, (.const (.int .i64 70))), (4, (.const (.int .i64 400)))])), 58, "", (List.toArray []), none⟩)⟩, ⟨(some 16), none, (.mem ⟨(some 16), (.buildSlice 32 2 (List.toArray [(0, (.tmp 14)), (1, (.tmp 15))])), 32, "", (List.toArray []), none⟩)⟩, ⟨(some 17), none, (.pur ⟨(some 17), (.build 34 (List.toArray [(3, (.const (.int .i64 10000))), (4, (.const (.int .i64 3000))), (5, (.tmp 16))])), 34, "", (List.toArray []), none⟩)⟩, ⟨(some 0), none, (.mov (.tmp 13))⟩, ⟨none, none, (.sta (.tmp 1) (.tmp 17) 6)⟩])
  .ret)))
theorem L25 : low Try.prog Try.f25.ntmps (at_ Try.f25 []) = some R25 := by kernel_rfl
end Go.Ax

/-
  Station: sample, and awake: true in every world (written by program).
-/
namespace Go.Ax
open Go Go.RowKit Go.Proofs

theorem i34s : ∃ i, Try.prog.info? 34 = some i ∧ i.size = 6 := by
  have h : (Try.prog.info? 34).map (fun i => i.size) = some 6 := by kernel_rfl
  cases e : Try.prog.info? 34 with
  | none => rw [e] at h; cases h
  | some i => rw [e] at h; simp at h; exact ⟨i, rfl, h⟩
theorem a34 : isAggB Try.prog 34 = some true := by kernel_rfl
theorem res_tc {P : Program} {S : Rg} {H : Hp} {a b x n : Nat} {t : TypeId} {cs : List Value} {v : Value} (hb : lk S b = some v) (ha : lk S a = some (.pointer (some ⟨x, 0, none⟩))) (h1 : isAggB P t = some true) (hi : ∃ i, P.info? t = some i ∧ i.size = n) (hl : cs.length = n) (h : Cl H x cs) : resS P S H [.tmp b, .cell a t] = some [v, .agg cs.toArray] := by
  simp only [resS, ha, hb, load_agg h1 hi h.rd hl]
def L0 : List Tk := [⟨100, 110, 20, 30⟩, ⟨90, 105, 10, 10⟩, ⟨112, 112, 15, 40⟩]
def M0 : List Sm := [⟨100, 5, 3, 40, 700⟩, ⟨50, 0, 1, 70, 400⟩]
def s0 (b : Nat) : Sp := ⟨0, 0, 0, 10000, 3000, some ⟨b, 0, none⟩, 2, 2, M0⟩
def rs0 (a b c : Nat) : List Rw := [⟨some ⟨a, 0, none⟩, 2, 2, [30, 100]⟩, ⟨some ⟨b, 0, none⟩, 4, 4, [90, 90, 90, 120]⟩, ⟨some ⟨c, 0, none⟩, 1, 1, [20]⟩]
theorem q0 : qe L0 2 = 0 := by kernel_rfl
theorem q1 : ql L0 2 = visL L0 2 := by kernel_rfl
theorem q2 : (visL L0 2)[2]? = some ⟨112, 120, 127, 160, 0, 8⟩ := by kernel_rfl
theorem q3 : by' L0 20 = (2, 0) := by kernel_rfl
theorem q4 (b : Nat) : (s0 b).load = ⟨7000, 6580, 233, 187, 329000, 3948000⟩ := by kernel_rfl
theorem q5 (b : Nat) : (s0 b).we = 0 := by kernel_rfl
theorem q6 (a b c : Nat) : boN (rs0 a b c) 100 3 = 1 := by kernel_rfl
theorem q7 (a b c : Nat) : boE (rs0 a b c) 100 3 = 0 := by kernel_rfl
section
variable {kn : FuncId → Option Bool} {lo : Nat} {H : Hp}
/-- sample -/
theorem sample25_ok (hlo : lo ≤ H.next) : ∃ w H', FnX Try.prog kn lo 25 [] H w H' ∧ ∃ b1 b2, w = .tuple #[slv b1 3 3, .agg (s0 b2).v.toArray] ∧ Keep H H' [] ∧ H.next ≤ b1 ∧ H.next ≤ b2 ∧ Sc H' b1 (tkc L0) ∧ Sc H' b2 (smc M0) := by
  have key := fnX_low (kn := kn) (lo := lo) (H := H) (args := []) (Q := fun w H' => ∃ b1 b2, w = .tuple #[slv b1 3 3, .agg (s0 b2).v.toArray] ∧ Keep H H' [] ∧ H.next ≤ b1 ∧ H.next ≤ b2 ∧ Sc H' b1 (tkc L0) ∧ Sc H' b2 (smc M0)) Try.func25 B25 N25 Z25 L25 (by simp) ?_
  · exact key
  have hk := Keep.refl H []
  refine wN_seq ?_
  refine wN_mov (v := .slice none 0 0) rfl ?_
  refine wN_alc ?_
  intro H1 kH1 nH1 c1
  have c1 : Cl H1 H.next [iv 0, iv 0, iv 0, iv 0, iv 0, .slice none 0 0] := c1
  have mH1 := kH1.1
  have hk := hk.trans kH1
  refine wN_end ?_
  refine wN_seq ?_
  refine wN_pur (v := .agg #[iv 100, iv 110]) rfl (by kernel_rfl) ?_
  refine wN_pur (v := .agg #[iv 20, iv 30]) rfl (by kernel_rfl) ?_
  refine wN_pur (v := .agg #[iv 100, iv 110, iv 20, iv 30]) rfl (by kernel_rfl) ?_
  refine wN_pur (v := .agg #[iv 90, iv 105]) rfl (by kernel_rfl) ?_
  refine wN_pur (v := .agg #[iv 10, iv 10]) rfl (by kernel_rfl) ?_
  refine wN_pur (v := .agg #[iv 90, iv 105, iv 10, iv 10]) rfl (by kernel_rfl) ?_
  refine wN_pur (v := .agg #[iv 112, iv 112]) rfl (by kernel_rfl) ?_
  refine wN_pur (v := .agg #[iv 15, iv 40]) rfl (by kernel_rfl) ?_
  refine wN_pur (v := .agg #[iv 112, iv 112, iv 15, iv 40]) rfl (by kernel_rfl) ?_
  obtain ⟨H2, hgH2⟩ : ∃ H2, H1.new (.cells [iv 100, iv 110, iv 20, iv 30, iv 90, iv 105, iv 10, iv 10, iv 112, iv 112, iv 15, iv 40] 49 false) = H2 := ⟨_, rfl⟩
  refine wN_memh (v := .slice (some ⟨H1.next, 0, none⟩) 3 3) (H' := H2) (k := .heavy) rfl (by kernel_rfl) (by rw [← hgH2]; kernel_rfl) (fun b e => by cases e) ?_
  obtain ⟨kH2, nH2, _⟩ := new_facts hgH2
  have t1 := new_sc hgH2
  have mH2 := kH2.1
  have hk := hk.trans kH2
  have c1 := kH2.cl c1 (by simp)
  obtain ⟨bt1, hbt1⟩ : ∃ q, q = H1.next := ⟨_, rfl⟩
  rw [← hbt1] at t1 ⊢
  refine wN_mov (v := .slice (some ⟨bt1, 0, none⟩) 3 3) rfl ?_
  refine wN_end ?_
  refine wN_seq ?_
  refine wN_mov (v := .slice (some ⟨bt1, 0, none⟩) 3 3) rfl ?_
  refine wN_pur (v := .agg #[iv 100, iv 5, iv 3, iv 40, iv 700]) rfl (by kernel_rfl) ?_
  refine wN_pur (v := .agg #[iv 50, iv 0, iv 1, iv 70, iv 400]) rfl (by kernel_rfl) ?_
  obtain ⟨H3, hgH3⟩ : ∃ H3, H2.new (.cells [iv 100, iv 5, iv 3, iv 40, iv 700, iv 50, iv 0, iv 1, iv 70, iv 400] 58 false) = H3 := ⟨_, rfl⟩
  refine wN_memh (v := .slice (some ⟨H2.next, 0, none⟩) 2 2) (H' := H3) (k := .heavy) rfl (by kernel_rfl) (by rw [← hgH3]; kernel_rfl) (fun b e => by cases e) ?_
  obtain ⟨kH3, nH3, _⟩ := new_facts hgH3
  have t2 := new_sc hgH3
  have mH3 := kH3.1
  have hk := hk.trans kH3
  have c1 := kH3.cl c1 (by simp)
  have t1 := kH3.sc t1 (by simp)
  obtain ⟨bt2, hbt2⟩ : ∃ q, q = H2.next := ⟨_, rfl⟩
  rw [← hbt2] at t2 ⊢
  refine wN_pur (v := .agg #[iv 0, iv 0, iv 0, iv 10000, iv 3000, .slice (some ⟨bt2, 0, none⟩) 2 2]) rfl (by kernel_rfl) ?_
  refine wN_mov (v := .slice (some ⟨bt1, 0, none⟩) 3 3) rfl ?_
  refine wN_sta (b := H.next) (o := 0) rfl rfl c1 (by omega) rfl rfl (by simp) ?_
  intro H4 kH4 nH4 sH4
  have mH4 := kH4.1
  have hk := hk.new kH4 (fun b hb => by simp at hb ⊢; omega)
  have t1 := kH4.sc t1 (by first | (simp; done) | (simp; omega))
  have t2 := kH4.sc t2 (by first | (simp; done) | (simp; omega))
  have c1 : Cl H4 H.next [iv 0, iv 0, iv 0, iv 10000, iv 3000, .slice (some ⟨bt2, 0, none⟩) 2 2] := sH4
  refine wN_end ?_
  exact And.intro trivial (Exists.intro _ (And.intro (res_tc rfl rfl a34 i34s rfl c1) ⟨bt1, bt2, rfl, hk, by omega, by omega, t1, t2⟩))
set_option maxRecDepth 100000 in
/-- awake -/
theorem awake10_ok (hro : RoLow lo H) (hlo : lo ≤ H.next) : ∃ H', FnX Try.prog (fun _ => none) lo 10 [] H (.bool true) H' ∧ Keep H H' [] := by
  have key := fnX_low (kn := fun _ => none) (lo := lo) (H := H) (args := []) (Q := fun w H' => w = .bool true ∧ Keep H H' []) Try.func10 B10 N10 Z10 L10 (by simp) ?_
  · obtain ⟨w, H', h, rfl, q⟩ := key; exact ⟨H', h, q⟩
  have hk := Keep.refl H []
  refine wN_seq ?_
  refine wN_mov (v := .bool false) rfl ?_
  refine wN_end ?_
  refine wN_seq ?_
  obtain ⟨wH1, H1, fH1, b1, b2, rfl, kH1, l1, l2, t1, t2⟩ := sample25_ok (kn := fun _ => none) (lo := lo) (H := H) (by omega)
  refine wN_callf (vs := []) rfl (callX_func (by rfl) (by simpa using fH1)) ?_
  have mH1 := kH1.1
  have hk := hk.trans kH1
  have lt1 := t1.lt
  have lt2 := t2.lt
  refine wN_mov (v := .tuple #[.slice (some ⟨b1, 0, none⟩) 3 3, .agg (s0 b2).v.toArray]) rfl ?_
  refine wN_pur (v := .slice (some ⟨b1, 0, none⟩) 3 3) rfl (by kernel_rfl) ?_
  refine wN_pur (v := .agg (s0 b2).v.toArray) rfl (by kernel_rfl) ?_
  refine wN_alc ?_
  intro H2 kH2 nH2 c2
  have c2 : Cl H2 H1.next [iv 0, iv 0, iv 0, iv 0, iv 0, .slice none 0 0] := c2
  have mH2 := kH2.1
  have hk := hk.trans kH2
  have t1 := kH2.sc t1 (by simp)
  have t2 := kH2.sc t2 (by simp)
  refine wN_mov (v := .slice (some ⟨b1, 0, none⟩) 3 3) rfl ?_
  refine wN_sta (b := H1.next) (o := 0) rfl rfl c2 (by omega) rfl rfl (by simp) ?_
  intro H3 kH3 nH3 sH3
  have mH3 := kH3.1
  have hk := hk.new kH3 (fun b hb => by simp at hb ⊢; omega)
  have t1 := kH3.sc t1 (by first | (simp; done) | (simp; omega))
  have t2 := kH3.sc t2 (by first | (simp; done) | (simp; omega))
  have c2 : Cl H3 H1.next [iv 0, iv 0, iv 0, iv 10000, iv 3000, .slice (some ⟨b2, 0, none⟩) 2 2] := sH3
  refine wN_end ?_
  refine wN_seq ?_
  refine wN_mov (v := .slice (some ⟨b1, 0, none⟩) 3 3) rfl ?_
  obtain ⟨wH4, H4, fH4, a, c, rfl, kH4, hv, _⟩ := queue11_ok (kn := fun _ => none) (lo := lo) (H := H3) (bays := 2) (t1.cl.sl (Nat.le_refl 3)) rfl (hk.low hro) (by omega)
  rw [q0, q1, visL_len] at fH4
  rw [q1, visL_len] at hv
  have fH4 : FnX Try.prog (fun _ => none) lo 11 [slv b1 3 3, iv 2] H3 (.tuple #[.slice a 3 c, iv 0]) H4 := fH4
  have hv : Sl H4 a 3 c (vsc (visL L0 2)) := hv
  refine wN_callf (vs := [slv b1 3 3, iv 2]) rfl (callX_args fH4) ?_
  have mH4 := kH4.1
  have hk := hk.trans kH4
  have t1 := kH4.sc t1 (by simp)
  have t2 := kH4.sc t2 (by simp)
  have c2 := kH4.cl c2 (by simp)
  have fv := hv.old
  refine wN_mov (v := .tuple #[.slice a 3 c, iv 0]) rfl ?_
  refine wN_pur (v := .slice a 3 c) rfl (by kernel_rfl) ?_
  refine wN_pur (v := iv 0) rfl (by kernel_rfl) ?_
  refine wN_mov (v := .slice a 3 c) rfl ?_
  refine wN_mov (v := iv 0) rfl ?_
  refine wN_end ?_
  refine wN_seq ?_
  refine wN_mov (v := .slice (some ⟨b1, 0, none⟩) 3 3) rfl ?_
  obtain ⟨H5, fH5, kH5⟩ := bays13_ok (kn := fun _ => none) (lo := lo) (H := H4) (m := 20) (t1.cl.sl (Nat.le_refl 3)) rfl (hk.low hro) (by omega)
  rw [q3] at fH5
  refine wN_callf (vs := [slv b1 3 3, iv 20]) rfl (callX_args fH5) ?_
  have mH5 := kH5.1
  have hk := hk.trans kH5
  have t1 := kH5.sc t1 (by simp)
  have t2 := kH5.sc t2 (by simp)
  have c2 := kH5.cl c2 (by simp)
  have hv := kH5.sl0 hv
  refine wN_mov (v := .tuple #[iv 2, iv 0]) rfl ?_
  refine wN_pur (v := iv 2) rfl (by kernel_rfl) ?_
  refine wN_pur (v := iv 0) rfl (by kernel_rfl) ?_
  refine wN_mov (v := iv 2) rfl ?_
  refine wN_mov (v := iv 0) rfl ?_
  refine wN_end ?_
  refine wN_seq ?_
  refine wN_lda (b := H1.next) (o := 0) rfl c2.rd (show row 6 _ _ = some [iv 0, iv 0, iv 0, iv 10000, iv 3000, .slice (some ⟨b2, 0, none⟩) 2 2] from rfl) ?_
  obtain ⟨H6, fH6, kH6⟩ := weigh17_ok (kn := fun _ => none) (lo := lo) (H := H5) (s := s0 b2) (t2.cl.sl (Nat.le_refl 2)) rfl (by omega)
  rw [q4, q5] at fH6
  refine wN_callf (vs := [.agg (s0 b2).v.toArray]) rfl (callX_args fH6) ?_
  have mH6 := kH6.1
  have hk := hk.trans kH6
  have t1 := kH6.sc t1 (by simp)
  have t2 := kH6.sc t2 (by simp)
  have c2 := kH6.cl c2 (by simp)
  have hv := kH6.sl0 hv
  refine wN_mov (v := .tuple #[.agg #[iv 7000, iv 6580, iv 233, iv 187, iv 329000, iv 3948000], iv 0]) rfl ?_
  refine wN_pur (v := .agg #[iv 7000, iv 6580, iv 233, iv 187, iv 329000, iv 3948000]) rfl (by kernel_rfl) ?_
  refine wN_pur (v := iv 0) rfl (by kernel_rfl) ?_
  refine wN_alc ?_
  intro H7 kH7 nH7 c7
  have c7 : Cl H7 H6.next [iv 0, iv 0, iv 0, iv 0, iv 0, iv 0] := c7
  have mH7 := kH7.1
  have hk := hk.trans kH7
  have t1 := kH7.sc t1 (by simp)
  have t2 := kH7.sc t2 (by simp)
  have c2 := kH7.cl c2 (by simp)
  have hv := kH7.sl0 hv
  refine wN_sta (b := H6.next) (o := 0) rfl rfl c7 (by omega) rfl rfl (by simp) ?_
  intro H8 kH8 nH8 sH8
  have mH8 := kH8.1
  have hk := hk.new kH8 (fun b hb => by simp at hb ⊢; omega)
  have t1 := kH8.sc t1 (by first | (simp; done) | (simp; omega))
  have t2 := kH8.sc t2 (by first | (simp; done) | (simp; omega))
  have c2 := kH8.cl c2 (by first | (simp; done) | (simp; omega))
  have hv := kH8.sl hv (fun b e => by have := fv b e; first | (simp; done) | (simp; omega))
  have c7 : Cl H8 H6.next [iv 7000, iv 6580, iv 233, iv 187, iv 329000, iv 3948000] := sH8
  refine wN_mov (v := iv 0) rfl ?_
  refine wN_end ?_
  refine wN_seq ?_
  obtain ⟨H9, hgH9⟩ : ∃ H9, H8.new (.cells [iv 30, iv 100] 3 false) = H9 := ⟨_, rfl⟩
  refine wN_memh (v := .slice (some ⟨H8.next, 0, none⟩) 2 2) (H' := H9) (k := .heavy) rfl (by kernel_rfl) (by rw [← hgH9]; kernel_rfl) (fun b e => by cases e) ?_
  obtain ⟨kH9, nH9, _⟩ := new_facts hgH9
  have r1 := new_sc hgH9
  have mH9 := kH9.1
  have hk := hk.trans kH9
  have t1 := kH9.sc t1 (by simp)
  have t2 := kH9.sc t2 (by simp)
  have c2 := kH9.cl c2 (by simp)
  have hv := kH9.sl0 hv
  have c7 := kH9.cl c7 (by simp)
  obtain ⟨br1, hbr1⟩ : ∃ q, q = H8.next := ⟨_, rfl⟩
  rw [← hbr1] at r1 ⊢
  obtain ⟨H10, hgH10⟩ : ∃ H10, H9.new (.cells [iv 90, iv 90, iv 90, iv 120] 3 false) = H10 := ⟨_, rfl⟩
  refine wN_memh (v := .slice (some ⟨H9.next, 0, none⟩) 4 4) (H' := H10) (k := .heavy) rfl (by kernel_rfl) (by rw [← hgH10]; kernel_rfl) (fun b e => by cases e) ?_
  obtain ⟨kH10, nH10, _⟩ := new_facts hgH10
  have r2 := new_sc hgH10
  have mH10 := kH10.1
  have hk := hk.trans kH10
  have t1 := kH10.sc t1 (by simp)
  have t2 := kH10.sc t2 (by simp)
  have c2 := kH10.cl c2 (by simp)
  have hv := kH10.sl0 hv
  have c7 := kH10.cl c7 (by simp)
  have r1 := kH10.sc r1 (by simp)
  obtain ⟨br2, hbr2⟩ : ∃ q, q = H9.next := ⟨_, rfl⟩
  rw [← hbr2] at r2 ⊢
  obtain ⟨H11, hgH11⟩ : ∃ H11, H10.new (.cells [iv 20] 3 false) = H11 := ⟨_, rfl⟩
  refine wN_memh (v := .slice (some ⟨H10.next, 0, none⟩) 1 1) (H' := H11) (k := .heavy) rfl (by kernel_rfl) (by rw [← hgH11]; kernel_rfl) (fun b e => by cases e) ?_
  obtain ⟨kH11, nH11, _⟩ := new_facts hgH11
  have r3 := new_sc hgH11
  have mH11 := kH11.1
  have hk := hk.trans kH11
  have t1 := kH11.sc t1 (by simp)
  have t2 := kH11.sc t2 (by simp)
  have c2 := kH11.cl c2 (by simp)
  have hv := kH11.sl0 hv
  have c7 := kH11.cl c7 (by simp)
  have r1 := kH11.sc r1 (by simp)
  have r2 := kH11.sc r2 (by simp)
  obtain ⟨br3, hbr3⟩ : ∃ q, q = H10.next := ⟨_, rfl⟩
  rw [← hbr3] at r3 ⊢
  obtain ⟨H12, hgH12⟩ : ∃ H12, H11.new (.cells [.slice (some ⟨br1, 0, none⟩) 2 2, .slice (some ⟨br2, 0, none⟩) 4 4, .slice (some ⟨br3, 0, none⟩) 1 1] 45 false) = H12 := ⟨_, rfl⟩
  refine wN_memh (v := .slice (some ⟨H11.next, 0, none⟩) 3 3) (H' := H12) (k := .heavy) rfl (by kernel_rfl) (by rw [← hgH12]; kernel_rfl) (fun b e => by cases e) ?_
  obtain ⟨kH12, nH12, _⟩ := new_facts hgH12
  have r0 := new_sc hgH12
  have mH12 := kH12.1
  have hk := hk.trans kH12
  have t1 := kH12.sc t1 (by simp)
  have t2 := kH12.sc t2 (by simp)
  have c2 := kH12.cl c2 (by simp)
  have hv := kH12.sl0 hv
  have c7 := kH12.cl c7 (by simp)
  have r1 := kH12.sc r1 (by simp)
  have r2 := kH12.sc r2 (by simp)
  have r3 := kH12.sc r3 (by simp)
  obtain ⟨br0, hbr0⟩ : ∃ q, q = H11.next := ⟨_, rfl⟩
  rw [← hbr0] at r0 ⊢
  have lr1 := r1.lt
  have lr2 := r2.lt
  have lr3 := r3.lt
  have lr0 := r0.lt
  have hR : Rws H12 H12.next (some ⟨br0, 0, none⟩) 3 3 (rs0 br1 br2 br3) := by
    refine ⟨.inr ⟨br0, 0, _, rfl, r0.cl.rd, lr0, Nat.le_refl _, fun i r hr => ?_⟩, rfl, fun r hr => ?_⟩
    · match i, hr with
      | 0, hr => cases hr; rfl
      | 1, hr => cases hr; rfl
      | 2, hr => cases hr; rfl
      | _ + 3, hr => cases hr
    · simp only [rs0, List.mem_cons, List.not_mem_nil, or_false] at hr
      rcases hr with rfl | rfl | rfl
      · exact ⟨r1.cl.sl (Nat.le_refl _), rfl, fun x e => by cases e; exact ⟨lr1, r1.fx⟩⟩
      · exact ⟨r2.cl.sl (Nat.le_refl _), rfl, fun x e => by cases e; exact ⟨lr2, r2.fx⟩⟩
      · exact ⟨r3.cl.sl (Nat.le_refl _), rfl, fun x e => by cases e; exact ⟨lr3, r3.fx⟩⟩
  obtain ⟨H13, fH13, kH13⟩ := bounce19_ok (kn := fun _ => none) (lo := lo) (H := H12) (b := 100) (m := 3) hR (Nat.le_refl _) (fun r hr => by simp only [rs0, List.mem_cons, List.not_mem_nil, or_false] at hr; rcases hr with rfl | rfl | rfl <;> (simp only; omega)) (by decide) (by omega)
  rw [q6, q7] at fH13
  refine wN_callf (vs := [slv br0 3 3, iv 100, iv 3]) rfl (callX_args fH13) ?_
  have mH13 := kH13.1
  have hk := hk.trans kH13
  have t1 := kH13.sc t1 (by simp)
  have t2 := kH13.sc t2 (by simp)
  have c2 := kH13.cl c2 (by simp)
  have hv := kH13.sl0 hv
  have c7 := kH13.cl c7 (by simp)
  have r1 := kH13.sc r1 (by simp)
  have r2 := kH13.sc r2 (by simp)
  have r3 := kH13.sc r3 (by simp)
  have r0 := kH13.sc r0 (by simp)
  refine wN_mov (v := .tuple #[iv 1, iv 0]) rfl ?_
  refine wN_pur (v := iv 1) rfl (by kernel_rfl) ?_
  refine wN_pur (v := iv 0) rfl (by kernel_rfl) ?_
  refine wN_mov (v := iv 1) rfl ?_
  refine wN_mov (v := iv 0) rfl ?_
  refine wN_end ?_
  refine wN_seq ?_
  refine wN_mov (v := .slice a 3 c) rfl ?_
  refine wN_len (m := 3) rfl ?_
  refine wN_b_neq (a := 3) (b := 3) rfl rfl ?_
  intro t1 g1; obtain rfl : t1 = false := by rw [← g1]; rfl
  refine wN_mov (v := .bool false) rfl ?_
  refine wN_g rfl (wN_mov (v := .slice a 3 c) rfl ?_)
  rcases hv with ⟨_, h0, _⟩ | ⟨sv, esv, rv, _⟩
  · omega
  refine wN_g rfl (wN_idx (b := sv) (o := 0) (k := 2) (j := 2) (by rw [← esv]; rfl) rfl rfl (by decide) ?_)
  refine wN_g rfl (wN_lda (b := sv) (o := 0 + 2 * 6) rfl rv (vsc_row q2) ?_)
  refine wN_g rfl (wN_pur (v := .agg #[iv 112, iv 120]) rfl (by kernel_rfl) ?_)
  refine wN_g rfl (wN_pur (v := .agg #[iv 127, iv 160]) rfl (by kernel_rfl) ?_)
  refine wN_g rfl (wN_pur (v := .agg #[iv 0, iv 8]) rfl (by kernel_rfl) ?_)
  refine wN_g rfl (wN_pur (v := .agg #[iv 112, iv 120, iv 127, iv 160, iv 0, iv 8]) rfl (by kernel_rfl) ?_)
  refine wN_g rfl (wN_pur (v := .bool false) rfl (neq_visit rfl rfl) ?_)
  refine wN_pur (v := .bool false) rfl rfl ?_
  refine wN_mov (v := .bool false) rfl ?_
  refine wN_g rfl (wN_mov (v := iv 0) rfl ?_)
  refine wN_g rfl (wN_b_neq (a := 0) (b := 0) rfl rfl ?_)
  intro t2 g2; obtain rfl : t2 = false := by rw [← g2]; rfl
  refine wN_pur (v := .bool false) rfl rfl ?_
  refine wN_mov (v := .bool false) rfl ?_
  refine wN_g rfl (wN_mov (v := iv 2) rfl ?_)
  refine wN_g rfl (wN_b_neq (a := 2) (b := 2) rfl rfl ?_)
  intro t3 g3; obtain rfl : t3 = false := by rw [← g3]; rfl
  refine wN_pur (v := .bool false) rfl rfl ?_
  refine wN_mov (v := .bool false) rfl ?_
  refine wN_g rfl (wN_mov (v := iv 0) rfl ?_)
  refine wN_g rfl (wN_b_neq (a := 0) (b := 0) rfl rfl ?_)
  intro t4 g4; obtain rfl : t4 = false := by rw [← g4]; rfl
  refine wN_pur (v := .bool false) rfl rfl ?_
  refine wN_end ?_
  refine condF ?_
  first | refine wN_skip ?_ | skip
  refine wN_seq ?_
  refine wN_lda (b := H6.next) (o := 0) rfl c7.rd (show row 6 _ _ = some [iv 7000, iv 6580, iv 233, iv 187, iv 329000, iv 3948000] from rfl) ?_
  refine wN_pur (v := .agg #[iv 7000, iv 6580, iv 233, iv 187, iv 329000, iv 3948000]) rfl (by kernel_rfl) ?_
  refine wN_pur (v := .bool true) rfl (eql_load rfl rfl) ?_
  refine wN_mov (v := .bool true) rfl ?_
  refine wN_g rfl (wN_mov (v := iv 0) rfl ?_)
  refine wN_g rfl (wN_b_eql (a := 0) (b := 0) rfl rfl ?_)
  intro t5 g5; obtain rfl : t5 = true := by rw [← g5]; rfl
  refine wN_pur (v := .bool true) rfl rfl ?_
  refine wN_mov (v := .bool true) rfl ?_
  refine wN_g rfl (wN_mov (v := iv 1) rfl ?_)
  refine wN_g rfl (wN_b_eql (a := 1) (b := 1) rfl rfl ?_)
  intro t6 g6; obtain rfl : t6 = true := by rw [← g6]; rfl
  refine wN_pur (v := .bool true) rfl rfl ?_
  refine wN_mov (v := .bool true) rfl ?_
  refine wN_g rfl (wN_mov (v := iv 0) rfl ?_)
  refine wN_g rfl (wN_b_eql (a := 0) (b := 0) rfl rfl ?_)
  intro t7 g7; obtain rfl : t7 = true := by rw [← g7]; rfl
  refine wN_pur (v := .bool true) rfl rfl ?_
  refine wN_mov (v := .bool true) rfl ?_
  refine wN_end ?_
  exact And.intro trivial (Exists.intro _ (And.intro rfl ⟨rfl, hk⟩))
end
end Go.Ax

/-
  Proved here: 'alive', the closed part that every law of station ends in, returns true in every world and leaves what lay below as it was. Conditions: none.
  It has no arguments; it is walked (the K texts) by the evaluator of calls, whose soundness against the machine is 'Go.Ax.open_call'.
-/
namespace Go.Ax
open Go Go.RowKit
theorem known_one {P : Program} {g : FuncId} {t : Bool} (hb : ((P.funcs[g]?).bind (fun fn => fn.body)).isSome = true) (hc : ∀ w, Calls P g #[] w fun e w' => e = .returned (.bool t) ∧ Below w.heap.size w w') :
    Known P fun f => bif Nat.beq f g then some t else none := by
  intro f b h
  obtain ⟨hf, h1⟩ := bif_some h
  clear h
  have hf := Nat.eq_of_beq_eq_true hf
  subst hf
  cases h1
  refine ⟨?_, hc⟩
  cases hx : P.funcs[f]? with
  | none => rw [hx] at hb; cases hb
  | some fn =>
    rw [hx] at hb
    cases hy : fn.body with
    | none => rw [Option.bind_some, hy] at hb; cases hb
    | some c => exact ⟨fn, c, rfl, hy⟩
end Go.Ax
namespace Go.Proofs.Ytocgghpjbaelpaa.alive
open Go.RowKit

theorem mixed : Try.prog.follows .mixedOrders = true := by kernel_rfl
theorem plainNames : (Try.prog.funcs.toList.all fun fn => !(fn.name == "runtime.NumGoroutine")) = true := by kernel_rfl
theorem noCount : Go.Ax.NoCount Try.prog := fun f fn h => by
  have h2 := List.all_eq_true.1 plainNames fn (by
    have := Array.mem_of_getElem? h
    simpa using this)
  simpa using h2

theorem call (w : World) : Calls Try.prog 10 #[] w fun e w' => e = .returned (.bool true) ∧ Below w.heap.size w w' := by
  obtain ⟨r, H, hrel, hr⟩ : ∃ (r : Go.Ax.Ren) (H : Go.Ax.Hp), Go.Ax.Rel Try.prog r w.heap.size H w ∧ ∀ b loc, r b = some loc → b < H.next := by
    obtain ⟨r, H, h1, h2, h3⟩ := Go.Ax.imports (P := Try.prog) [] w (fun x hx => by simp at hx)
    exact ⟨r, H, by first | exact h1 | exact h2, by first | exact h2 | exact h3 | exact h3.1⟩
  obtain ⟨H', hf, _⟩ := Go.Ax.awake10_ok (lo := H.next) (H := H) (fun b cs hb _ => hb) (Nat.le_refl _)
  exact Go.Ax.open_call mixed noCount (Go.Ax.Known.nothing _) hrel hr .nil hf

theorem known : Go.Ax.Known Try.prog fun f => bif Nat.beq f 10 then some true else none := Go.Ax.known_one (by kernel_rfl) call
end Go.Proofs.Ytocgghpjbaelpaa.alive

/-
  Station: the laws StationQueues and StationWeighs, whatever the input (written by program).
-/
namespace Go.Ax
open Go Go.RowKit Go.Proofs

section
variable {kn : FuncId → Option Bool} {lo : Nat} {H : Hp}
theorem manyB_f {rs : List Rw} {n : Nat} (hl : rs.length = n) (h : manyB rs = false) : (∀ r ∈ rs, r.n ≤ 1000000) ∧ n ≤ 1000000 := by
  unfold manyB at h
  rw [Bool.or_eq_false_iff, decide_eq_false_iff_not, List.any_eq_false] at h
  refine ⟨fun r hr => ?_, by omega⟩
  have := h.2 r hr
  simp at this
  omega
end
end Go.Ax

/-
  Station: loads that are split, samples that are turned (written by program).
-/
namespace Go.Ax
open Go Go.RowKit

abbrev Sp.g (s : Sp) (x : Int) : Sp := ⟨s.gr, s.bed, s.day, x, s.tare, s.sa, s.sn, s.scap, s.ss⟩
theorem div_add_ge {a b c : Int} (hc : 0 < c) : (a + b) / c ≤ a / c + b / c + 1 := by
  have h1 := Int.lt_ediv_add_one_mul_self a hc
  have h2 := Int.lt_ediv_add_one_mul_self b hc
  have h3 : (a + b) / c < a / c + b / c + 2 := by
    refine (Int.ediv_lt_iff_lt_mul hc).2 ?_
    have e : (a / c + b / c + 2) * c = (a / c + 1) * c + (b / c + 1) * c := by rw [← Int.add_mul]; congr 1; omega
    rw [e]; omega
  omega
theorem Sp.ends {s : Sp} (nb : s.Nb) {q : Sm → Int} {l h X : Int} (hX : X = sm (fun x => x.w * q x) s.ss) (hl : ∀ y ∈ s.ss, l ≤ q y) (hh : ∀ y ∈ s.ss, q y ≤ h) : s.good * l ≤ s.good * X / s.W ∧ s.good * X / s.W ≤ s.good * h := by
  have w := nb.w; have g := nb.good
  have e1 : l * s.W ≤ X := by
    rw [hX, Int.mul_comm]
    show sm fW s.ss * l ≤ _
    rw [← sm_mul]
    exact sm_le fun y hy => Int.mul_le_mul_of_nonneg_left (hl y hy) (fW_in (nb.ok y hy)).1
  have e2 : X ≤ h * s.W := by
    rw [hX, Int.mul_comm h]
    show _ ≤ sm fW s.ss * h
    rw [← sm_mul]
    exact sm_le fun y hy => Int.mul_le_mul_of_nonneg_left (hh y hy) (fW_in (nb.ok y hy)).1
  constructor
  · refine (Int.le_ediv_iff_mul_le (by omega)).2 ?_
    rw [Int.mul_assoc]
    exact Int.mul_le_mul_of_nonneg_left e1 g.1
  · have : s.good * X ≤ s.good * h * s.W := by rw [Int.mul_assoc]; exact Int.mul_le_mul_of_nonneg_left e2 g.1
    have q := Int.ediv_le_ediv (c := s.W) (by omega) this
    rw [Int.mul_ediv_cancel _ (by omega)] at q
    exact q
theorem Sp.split {s : Sp} (nb : s.Nb) {n : Int} (h0 : 0 ≤ n) (h1 : n ≤ s.net) : (s.g (s.tare + n)).net = n ∧ (s.g (s.tare + s.net - n)).net = s.net - n ∧
    (s.g (s.tare + n)).good + (s.g (s.tare + s.net - n)).good ≤ s.good ∧ s.good ≤ (s.g (s.tare + n)).good + (s.g (s.tare + s.net - n)).good + 1 ∧
    (s.g (s.tare + n)).col + (s.g (s.tare + s.net - n)).col ≤ s.col ∧ (s.g (s.tare + n)).firm + (s.g (s.tare + s.net - n)).firm ≤ s.firm := by
  have w := nb.w
  have n1 : (s.g (s.tare + n)).net = n := by show s.tare + n - s.tare = n; omega
  have n2 : (s.g (s.tare + s.net - n)).net = s.net - n := by show s.tare + s.net - n - s.tare = s.net - n; omega
  have g1 : (s.g (s.tare + n)).good = n * (s.W - s.T - s.R) / s.W := by show (s.g (s.tare + n)).net * (s.W - s.T - s.R) / s.W = _; rw [n1]
  have g2 : (s.g (s.tare + s.net - n)).good = (s.net - n) * (s.W - s.T - s.R) / s.W := by show (s.g (s.tare + s.net - n)).net * (s.W - s.T - s.R) / s.W = _; rw [n2]
  have e : n * (s.W - s.T - s.R) + (s.net - n) * (s.W - s.T - s.R) = s.net * (s.W - s.T - s.R) := by rw [← Int.add_mul]; congr 1; omega
  have a1 := div_add_le (a := n * (s.W - s.T - s.R)) (b := (s.net - n) * (s.W - s.T - s.R)) (c := s.W) (by omega)
  have a2 := div_add_ge (a := n * (s.W - s.T - s.R)) (b := (s.net - n) * (s.W - s.T - s.R)) (c := s.W) (by omega)
  rw [e, ← g1, ← g2] at a1 a2
  have a1 : (s.g (s.tare + n)).good + (s.g (s.tare + s.net - n)).good ≤ s.good := a1
  have a2 : s.good ≤ (s.g (s.tare + n)).good + (s.g (s.tare + s.net - n)).good + 1 := a2
  have key : ∀ X : Int, 0 ≤ X → (s.g (s.tare + n)).good * X / s.W + (s.g (s.tare + s.net - n)).good * X / s.W ≤ s.good * X / s.W := fun X hX => by
    refine Int.le_trans (div_add_le (by omega)) (Int.ediv_le_ediv (by omega) ?_)
    rw [← Int.add_mul]
    exact Int.mul_le_mul_of_nonneg_right a1 hX
  exact ⟨n1, n2, a1, a2, key s.C nb.c.1, key s.F nb.f.1⟩
end Go.Ax

/-
  Station: the law StationSplit, whatever the input (written by program).
-/
namespace Go.Ax
open Go Go.RowKit Go.Proofs

section
variable {kn : FuncId → Option Bool} {lo : Nat} {H : Hp}
end
end Go.Ax

/-
  Station: samples that are turned, and halved (written by program).
-/
namespace Go.Ax
open Go Go.RowKit

def rotL (l : List Sm) (t : Nat) : List Sm := l.drop (t % l.length) ++ l.take (t % l.length)
def hfS (x : Sm) : Sm := ⟨x.w / 2, x.t / 2, x.r / 2, x.c, x.m⟩
def evS2 (x : Sm) : Prop := x.w % 2 = 0 ∧ x.t % 2 = 0 ∧ x.r % 2 = 0
instance (x : Sm) : Decidable (evS2 x) := by unfold evS2; infer_instance
def tw (x : Sm) : List Sm := if evS2 x then [hfS x, hfS x] else [x]
def oth : List Sm → List Sm
  | [] => []
  | x :: l => tw x ++ l
abbrev Sp.o (s : Sp) (g b d : Int) (t : Nat) (sa : Option Addr) (sn cap : Nat) : Sp := ⟨g, b, d, s.gross, s.tare, sa, sn, cap, oth (rotL s.ss t)⟩
end Go.Ax

/-
  Station: the law StationSamples, whatever the input (written by program).
-/
namespace Go.Ax
open Go Go.RowKit Go.Proofs

theorem conv_5 (x : Int) (h1 : 0 ≤ x) (h2 : x ≤ 255) {S : Rg} {n : Nat} {o : Operand} {d : Option Nat} (hx : evS S o = some (.int .u8 x)) : pureOp Try.prog (frS n S) ⟨d, .convert 5 3 o, 3, "", #[], none⟩ = some (iv x) := by
  have e : ∀ y : Int, prun Try.prog (Go.convert 5 3 (.int .u8 y)) = some (.int .i64 (IntKind.i64.wrap y)) := fun y => by kernel_rfl
  unfold pureOp
  simp only [ev_frS, hx, flat, flat1, cond_true, e, wrap_i64 (x := x) ⟨(by omega), (by omega)⟩]
theorem Acc.zero {lo f : Nat} {e : TypeId} {H : Hp} {v : Value} {n : Nat} {cs : List Value} (h : Acc lo f e H v n cs) (hn : n = 0) : v = .slice none 0 0 := by
  rcases h with ⟨_, _, h⟩ | ⟨_, _, h, _⟩
  · exact h
  · omega
section
variable {kn : FuncId → Option Bool} {lo : Nat} {H : Hp}
end
end Go.Ax

/-
  Station: the law StationBoards, whatever the input (written by program).
-/
namespace Go.Ax
open Go Go.RowKit Go.Proofs

theorem bnc_mono {l : List Int} {b m b' m' : Int} (hb : b ≤ b') (hm : m' ≤ m) (h : bnc l b' m' = true) : bnc l b m = true := by
  unfold bnc at h ⊢
  obtain ⟨x, hx, h2⟩ := List.any_eq_true.1 h
  refine List.any_eq_true.2 ⟨x, ?_, decide_eq_true (by have := of_decide_eq_true h2; omega)⟩
  have e : (l.take m.toNat).take m'.toNat = l.take m'.toNat := by rw [List.take_take, Nat.min_eq_left (by omega)]
  rw [← e] at hx
  exact List.mem_of_mem_take hx
theorem cntB_mono {b m b' m' : Int} (hb : b ≤ b') (hm : m' ≤ m) : ∀ rs : List Rw, cntB rs b' m' ≤ cntB rs b m
  | [] => by simp [cntB]
  | r :: l => by
    have ih := cntB_mono hb hm l
    unfold cntB
    rw [List.foldl_cons, cntB_from, List.foldl_cons, cntB_from]
    have q := bnc_mono (l := r.l) hb hm
    cases h1 : bnc r.l b' m' with
    | false => cases h2 : bnc r.l b m <;> simp <;> omega
    | true => rw [q h1]; simp; omega
theorem bo_cases (rs : List Rw) (b m : Int) : (boE rs b m = 0 ∧ boN rs b m = cntB rs b m) ∨ (boE rs b m = 1 ∧ boN rs b m = 0) ∨ (boE rs b m = 2 ∧ boN rs b m = 0) := by
  unfold boN boE
  split
  · split
    · exact .inl ⟨rfl, by simp⟩
    · exact .inr (.inr ⟨rfl, by simp⟩)
  · exact .inr (.inl ⟨rfl, by simp⟩)
theorem bo_zero {rs : List Rw} {b m : Int} (h : boE rs b m = 0) : rwsOk rs = true ∧ (0 ≤ b ∧ b ≤ 4096) ∧ 0 ≤ m ∧ m ≤ 7 := by
  unfold boE at h
  split at h
  · next q =>
    split at h
    · next q2 =>
      rw [Bool.and_eq_true] at q2
      exact ⟨q, isw_t q2.1, isw_t q2.2⟩
    · cases h
  · cases h
theorem bo_ok {rs : List Rw} {b m : Int} (h : rwsOk rs = true) (hb : 0 ≤ b ∧ b ≤ 4096) (hm : 0 ≤ m ∧ m ≤ 7) : boE rs b m = 0 ∧ boN rs b m = cntB rs b m := by
  have e : boE rs b m = 0 := by
    unfold boE
    rw [if_pos h, if_pos (by simp [isw]; omega)]
  exact ⟨e, by unfold boN; rw [if_pos e]⟩
theorem rws_one {rs : List Rw} {x : Rw} (h : rwsOk rs = true) (hx : x ∈ rs) : rwsOk [x] = true := by
  unfold rwsOk at h ⊢
  rw [Bool.and_eq_true, List.all_eq_true] at h
  simp [h.2 x hx]
theorem cnt_one {x : Rw} {b m : Int} : cntB [x] b m = if bnc x.l b m then 1 else 0 := by
  show (if bnc x.l b m then (0 : Int) + 1 else 0) = _
  split <;> rfl
theorem u35' : Try.prog.underlying 35 = some (.slice 45) := by kernel_rfl
theorem in45s : ∃ i, Try.prog.info? 45 = some i ∧ i.size = 1 := by
  have h : (Try.prog.info? 45).map (fun i => Nat.beq i.size 1) = some true := by kernel_rfl
  cases e : Try.prog.info? 45 with
  | none => rw [e] at h; cases h
  | some i => rw [e] at h; exact ⟨i, rfl, by simpa using h⟩
/-- one row -/
theorem heap_row1 {lo : Nat} {H : Hp} {x0 n cap i : Nat} {cs : List Value} (hg : H.t.get x0 = some (.ro cs)) (hi : i < n) (hc : n ≤ cap) (m : Nat) (S : Rg) (d : Option Tmp) (x y z : Operand) (ty : TypeId) (p : String)
    (hx : evS S x = some (.slice (some ⟨x0, 0, none⟩) n cap)) (hy : evS S y = some (iv (i : Int))) (hz : evS S z = some (iv ((i + 1 : Nat) : Int))) :
    heapOp Try.prog lo (frS m S) H ⟨d, .slice 35 x (some y) (some z) none, ty, p, #[], none⟩ = some (.val (.slice (some ⟨x0, i * 1, none⟩) 1 (cap - i)) H, .read x0) := by
  obtain ⟨f, hi1, hs1⟩ := in45s
  have hb : boundOf (frS m S) n (some z) = some (i + 1) := by unfold boundOf; simp only [ev_frS, hz]
  have hb0 : boundOf (frS m S) 0 (some y) = some i := by unfold boundOf; simp only [ev_frS, hy]
  have hf : Nat.beq cap i = false := by
    cases h : Nat.beq cap i with
    | false => rfl
    | true => have := Nat.eq_of_beq_eq_true h; omega
  unfold heapOp
  simp only [ev_frS, hx, u35', hi1, hb, hb0, hg, hs1, hf, Nat.ble_eq_true_of_le (show i + 1 ≤ cap by omega), Nat.ble_eq_true_of_le (Nat.le_succ i), Bool.and_self, cond_true, cond_false, Addr.add, Nat.zero_add, Nat.add_sub_cancel_left]
  split
  · next h => rw [h]
  · rfl
theorem rws_sub {H : Hp} {f x0 n cap i : Nat} {rs : List Rw} {x : Rw} (hr : Rws H f (some ⟨x0, 0, none⟩) n cap rs) (hi : i < n) (hx : rs[i]? = some x) : Rws H f (some ⟨x0, i * 1, none⟩) 1 (cap - i) [x] where
  r := by
    rcases hr.r with ⟨h | h, _⟩ | ⟨b, o, cs, e, r, hb, hn, hc⟩
    · cases h
    · cases h
    · cases e
      refine .inr ⟨_, _, cs, rfl, r, hb, by omega, fun j y hy => ?_⟩
      have h0 : j = 0 := by
        rcases Nat.eq_zero_or_pos j with q | q
        · exact q
        · rw [List.getElem?_eq_none (by simp; omega)] at hy; cases hy
      subst h0
      cases hy
      have := hc i _ hx
      rw [Nat.zero_add] at this
      simpa using this
  rl := rfl
  ri := fun r hq => by
    simp at hq; subst hq
    exact hr.ri _ (List.mem_of_getElem? hx)
theorem neq_bool {n : Nat} {S : Rg} {d : Option Tmp} {x y : Operand} {p : String} {ty : TypeId} {t : Bool} (hx : evS S x = some (.bool t)) (hy : evS S y = some (.bool t)) : pureOp Try.prog (frS n S) ⟨d, .binOp .neq 4 x y 4, ty, p, #[], none⟩ = some (.bool false) := by
  cases t <;> (unfold pureOp; simp only [ev_frS, hx, hy]; kernel_rfl)
section
variable {kn : FuncId → Option Bool} {lo : Nat} {H : Hp}
set_option maxRecDepth 100000 in
set_option maxHeartbeats 4000000 in
/-- StationBoards -/
theorem law_boards (hkn : kn 10 = some true) {ra : Option Addr} {rn rcap : Nat} {rs : List Rw} {b m c d : Int} (hr0 : Rws H H.next ra rn rcap rs) (hrb : rn = 0 ∨ ∃ x, ra = some ⟨x, 0, none⟩ ∧ x < H.next ∧ H.t.get x = some (.ro (rwc rs))) (hc0 : 0 ≤ c ∧ c ≤ 255) (hd0 : 0 ≤ d ∧ d ≤ 255) (hro : RoLow lo H) (hlo : lo ≤ H.next) : ∃ H', FnX Try.prog kn lo 9 [.slice ra rn rcap, iv b, iv m, .int .u8 c, .int .u8 d] H (.bool true) H' := by
  have key := fnX_low (kn := kn) (lo := lo) (H := H) (args := [.slice ra rn rcap, iv b, iv m, .int .u8 c, .int .u8 d]) (Q := fun w H' => w = .bool true) Try.func9 B9 N9 Z9 L9 (by simp) ?_
  · obtain ⟨w, H', h, rfl⟩ := key; exact ⟨H', h⟩
  have hk := Keep.refl H []
  have hr := hr0
  refine wN_seq ?_
  refine wN_mov (v := .bool false) rfl ?_
  refine wN_end ?_
  refine wN_seq ?_
  refine wN_mov (v := .slice ra rn rcap) rfl ?_
  refine wN_callB rfl (many_ok hr) ?_
  intro tH1 H1 hH1 kH1
  have mH1 := kH1.1
  have hk := hk.trans kH1
  have hr := hr.keep kH1 (by simp)
  cases tH1
  · obtain ⟨hm, hn⟩ := manyB_f hr.rl hH1
    refine wN_end ?_
    refine condF ?_
    first | refine wN_skip ?_ | skip
    refine wN_seq ?_
    refine wN_mov (v := .slice ra rn rcap) rfl ?_
    refine wN_mov (v := iv b) rfl ?_
    refine wN_mov (v := iv m) rfl ?_
    obtain ⟨H2, fH2, kH2⟩ := bounce19_ok (kn := kn) (lo := lo) (H := H1) (b := b) (m := m) hr (by omega) hm hn (by omega)
    refine wN_callf (vs := [.slice ra rn rcap, iv b, iv m]) rfl (callX_args fH2) ?_
    have mH2 := kH2.1
    have hk := hk.trans kH2
    have hr := hr.keep kH2 (by simp)
    have hbo := bo_cases rs b m
    refine wN_mov (v := .tuple #[iv (boN rs b m), iv (boE rs b m)]) rfl ?_
    refine wN_pur (v := iv (boN rs b m)) rfl (by kernel_rfl) ?_
    refine wN_pur (v := iv (boE rs b m)) rfl (by kernel_rfl) ?_
    refine wN_mov (v := iv (boN rs b m)) rfl ?_
    refine wN_mov (v := iv (boE rs b m)) rfl ?_
    refine wN_end ?_
    refine wN_seq ?_
    refine wN_mov (v := iv (boE rs b m)) rfl ?_
    refine wN_c_neq (a := (boE rs b m)) (b := 0) rfl rfl ?_
    refine wN_end ?_
    refine And.intro (fun q1 => ?_) (fun q1 => ?_)
    · have q1 : (boE rs b m) ≠ 0 := by simpa using q1
      refine wN_seq ?_
      refine wN_mov (v := iv (boN rs b m)) rfl ?_
      refine wN_b_eql (a := (boN rs b m)) (b := 0) rfl rfl ?_
      intro t2 g2; cases t2
      · have g2 : ¬ ((boN rs b m) = 0) := by simpa using g2
        exfalso; omega
      · have g2 : (boN rs b m) = 0 := by simpa using g2
        refine wN_mov (v := .bool true) rfl ?_
        refine wN_g rfl (wN_mov (v := iv (boE rs b m)) rfl ?_)
        refine wN_g rfl (wN_b_eql (a := (boE rs b m)) (b := 1) rfl rfl ?_)
        intro t3 g3; cases t3
        · have g3 : ¬ ((boE rs b m) = 1) := by simpa using g3
          refine wN_g rfl (wN_mov (v := .bool false) rfl ?_)
          refine wN_g rfl (wN_mov (v := iv (boE rs b m)) rfl ?_)
          refine wN_g rfl (wN_b_eql (a := (boE rs b m)) (b := 2) rfl rfl ?_)
          intro t4 g4; cases t4
          · have g4 : ¬ ((boE rs b m) = 2) := by simpa using g4
            exfalso; omega
          · have g4 : (boE rs b m) = 2 := by simpa using g4
            refine wN_g rfl (wN_pur (v := .bool true) rfl rfl ?_)
            refine wN_pur (v := .bool true) rfl rfl ?_
            refine wN_mov (v := .bool true) rfl ?_
            refine wN_g rfl (wN_callf (vs := []) rfl (callX_known hkn) ?_)
            refine wN_pur (v := .bool true) rfl rfl ?_
            refine wN_mov (v := .bool true) rfl ?_
            refine wN_end ?_
            exact And.intro trivial (Exists.intro _ (And.intro rfl rfl))
        · have g3 : (boE rs b m) = 1 := by simpa using g3
          refine wN_g rfl (wN_mov (v := .bool true) rfl ?_)
          refine wN_gs rfl ?_
          refine wN_gs rfl ?_
          refine wN_g rfl (wN_pur (v := .bool true) rfl rfl ?_)
          refine wN_pur (v := .bool true) rfl rfl ?_
          refine wN_mov (v := .bool true) rfl ?_
          refine wN_g rfl (wN_callf (vs := []) rfl (callX_known hkn) ?_)
          refine wN_pur (v := .bool true) rfl rfl ?_
          refine wN_mov (v := .bool true) rfl ?_
          refine wN_end ?_
          exact And.intro trivial (Exists.intro _ (And.intro rfl rfl))
    · have q1 : ¬ ((boE rs b m) ≠ 0) := by simpa using q1
      have hbz : boE rs b m = 0 := by omega
      obtain ⟨hok, hb0, hm0⟩ := bo_zero hbz
      have hbn : boN rs b m = cntB rs b m := by omega
      have hok2 := hok
      unfold rwsOk at hok2
      rw [Bool.and_eq_true, decide_eq_true_eq] at hok2
      have hl256 := hok2.1
      have hrl := hr.rl
      first | refine wN_skip ?_ | skip
      refine wN_seq ?_
      refine wN_mov (v := iv b) rfl ?_
      refine wN_b_lss (a := b) (b := 0) rfl rfl ?_
      intro t5 g5; cases t5
      · have g5 : ¬ (b < 0) := of_decide_eq_false g5
        refine wN_mov (v := .bool false) rfl ?_
        refine wN_g rfl (wN_mov (v := iv m) rfl ?_)
        refine wN_g rfl (wN_b_lss (a := m) (b := 0) rfl rfl ?_)
        intro t6 g6; cases t6
        · have g6 : ¬ (m < 0) := of_decide_eq_false g6
          refine wN_pur (v := .bool false) rfl rfl ?_
          refine wN_mov (v := .bool false) rfl ?_
          refine wN_g rfl (wN_mov (v := iv m) rfl ?_)
          refine wN_g rfl (wN_b_gtr (a := m) (b := 7) rfl rfl ?_)
          intro t7 g7; cases t7
          · have g7 : ¬ (m > 7) := of_decide_eq_false g7
            refine wN_pur (v := .bool false) rfl rfl ?_
            refine wN_mov (v := .bool false) rfl ?_
            refine wN_g rfl (wN_mov (v := .slice ra rn rcap) rfl ?_)
            refine wN_g rfl (wN_len (m := rn) rfl ?_)
            refine wN_g rfl (wN_b_gtr (a := (rn : Int)) (b := 256) rfl rfl ?_)
            intro t8 g8; cases t8
            · have g8 : ¬ ((rn : Int) > 256) := of_decide_eq_false g8
              refine wN_pur (v := .bool false) rfl rfl ?_
              refine wN_end ?_
              refine condF ?_
              first | refine wN_skip ?_ | skip
              refine wN_seq ?_
              refine wN_mov (v := iv 0) rfl ?_
              refine wN_end ?_
              refine wN_seq ?_
              refine wN_mov (v := iv 0) rfl ?_
              refine wN_end ?_
              refine loop_low (fn := Try.f9) E9_1 N9 L9x1 (fun i : Nat => [(0, .slice ra rn rcap), (1, iv b), (2, iv m), (3, .int .u8 c), (4, .int .u8 d), (11, iv (boN rs b m)), (13, iv (cntB (rs.take i) b m)), (14, iv (i : Int))])
                (fun k i H' => i + k = rn ∧ Keep H H' []) rn 0 ⟨by omega, hk⟩ ⟨rfl, rfl, rfl, rfl, rfl, rfl, rfl, rfl, trivial⟩ ?_
              rintro k i L1 ⟨hik, hk⟩
              have mk0 := hk.1
              have hr := hr0.keep hk (by simp)
              have hci := cntB_take_in rs b m i
              refine wN_seq ?_
              refine wN_mov (v := iv (i : Int)) rfl ?_
              refine wN_mov (v := .slice ra rn rcap) rfl ?_
              refine wN_len (m := rn) rfl ?_
              refine wN_c_lss (a := (i : Int)) (b := (rn : Int)) rfl rfl ?_
              refine wN_end ?_
              refine And.intro (fun q9 => ?_) (fun q9 => ?_)
              · have q9 : (i : Int) < (rn : Int) := of_decide_eq_true q9
                have hi : i < rn := by omega
                obtain ⟨sx, ha, hsx, hg0⟩ : ∃ x, ra = some ⟨x, 0, none⟩ ∧ x < H.next ∧ H.t.get x = some (.ro (rwc rs)) := hrb.elim (fun q => by omega) id
                obtain ⟨sb, so, cs, x, hx, esb, rsb, lsf, lcap, hat, hmem⟩ := hr.opn hi
                have hgx : L1.t.get sx = some (.ro (rwc rs)) := (hk.2 sx hsx (by simp)).trans hg0
                first | refine wN_skip ?_ | skip
                refine wN_seq ?_
                refine wN_mov (v := .slice ra rn rcap) rfl ?_
                refine wN_mov (v := iv (i : Int)) rfl ?_
                refine wN_mov (v := iv (i : Int)) rfl ?_
                refine wN_add (a := (i : Int)) (b := 1) rfl rfl ⟨by omega, by omega⟩ ?_
                refine wN_memh (k := .read sx) rfl (by kernel_rfl) (heap_row1 (lo := lo) hgx hi lcap _ _ _ _ _ _ _ _ (by rw [← ha]; rfl) rfl rfl) (fun b e => by cases e; omega) ?_
                refine wN_mov (v := iv b) rfl ?_
                refine wN_mov (v := iv m) rfl ?_
                obtain ⟨H3, fH3, kH3⟩ := bounce19_ok (kn := kn) (lo := lo) (H := L1) (b := b) (m := m) (rws_sub (ha ▸ hr) hi hx) (by omega) (fun r hq => by simp at hq; subst hq; exact hm _ hmem) (by omega) (by omega)
                obtain ⟨e1, e2⟩ := bo_ok (rws_one hok hmem) hb0 hm0
                rw [e1, e2, cnt_one] at fH3
                have mH3 := kH3.1
                have hk := hk.trans kH3
                have hr := hr.keep kH3 (by simp)
                have rsb := kH3.rd rsb (by simp)
                cases hbx : bnc x.l b m
                · rw [hbx] at fH3
                  refine wN_callf (vs := [.slice (some ⟨sx, i * 1, none⟩) 1 (rcap - i), iv b, iv m]) (v := .tuple #[iv 0, iv 0]) rfl (callX_args fH3) ?_
                  refine wN_mov (v := .tuple #[iv 0, iv 0]) rfl ?_
                  refine wN_pur (v := iv 0) rfl (by kernel_rfl) ?_
                  refine wN_pur (v := iv 0) rfl (by kernel_rfl) ?_
                  refine wN_mov (v := iv 0) rfl ?_
                  refine wN_mov (v := iv 0) rfl ?_
                  refine wN_end ?_
                  refine wN_seq ?_
                  refine wN_mov (v := iv 0) rfl ?_
                  refine wN_b_neq (a := 0) (b := 0) rfl rfl ?_
                  intro t10 g10; obtain rfl : t10 = false := by rw [← g10]; rfl
                  refine wN_mov (v := .bool false) rfl ?_
                  refine wN_g rfl (wN_mov (v := iv 0) rfl ?_)
                  refine wN_g rfl (wN_b_lss (a := 0) (b := 0) rfl rfl ?_)
                  intro t11 g11; obtain rfl : t11 = false := by rw [← g11]; rfl
                  refine wN_pur (v := .bool false) rfl rfl ?_
                  refine wN_mov (v := .bool false) rfl ?_
                  refine wN_g rfl (wN_mov (v := iv 0) rfl ?_)
                  refine wN_g rfl (wN_b_gtr (a := 0) (b := 1) rfl rfl ?_)
                  intro t12 g12; obtain rfl : t12 = false := by rw [← g12]; rfl
                  refine wN_pur (v := .bool false) rfl rfl ?_
                  refine wN_mov (v := .bool false) rfl ?_
                  refine wN_g rfl (wN_mov (v := iv 0) rfl ?_)
                  refine wN_g rfl (wN_b_eql (a := 0) (b := 1) rfl rfl ?_)
                  intro t13 g13; obtain rfl : t13 = false := by rw [← g13]; rfl
                  refine wN_g rfl (wN_mov (v := .slice ra rn rcap) rfl ?_)
                  refine wN_g rfl (wN_mov (v := iv (i : Int)) rfl ?_)
                  refine wN_g rfl (wN_idx (b := sb) (o := so) (k := i) (j := (i : Int)) (by rw [← esb]; rfl) rfl rfl hi ?_)
                  refine wN_g rfl (wN_ld (b := sb) (o := so + i * 1) (v := .slice x.ra x.n x.cap) rfl rsb hat ?_)
                  refine wN_g rfl (wN_mov (v := iv b) rfl ?_)
                  refine wN_g rfl (wN_mov (v := iv m) rfl ?_)
                  have hrx := hr.ri x hmem
                  obtain ⟨H4, fH4, kH4⟩ := ref24_ok (kn := kn) (lo := lo) (H := H3) (b := b) (m := m) hrx.1 hrx.2.1 (hm x hmem)
                  rw [hbx] at fH4
                  refine wN_g rfl (wN_callf (vs := [.slice x.ra x.n x.cap, iv b, iv m]) rfl (callX_args fH4) ?_)
                  have mH4 := kH4.1
                  have hk := hk.trans kH4
                  have hr := hr.keep kH4 (by simp)
                  have rsb := kH4.rd rsb (by simp)
                  refine wN_g rfl (wN_pur (v := .bool false) rfl (neq_bool rfl rfl) ?_)
                  refine wN_pur (v := .bool false) rfl rfl ?_
                  refine wN_end ?_
                  refine condF ?_
                  first | refine wN_skip ?_ | skip
                  first | refine wN_reg ?_ | refine wN_blk ?_ | refine wN_bseq ?_ | (refine wOps_nil ?_; refine wN_reg ?_)
                  refine wN_mov (v := iv (cntB (rs.take i) b m)) rfl ?_
                  refine wN_mov (v := iv 0) rfl ?_
                  refine wN_add (a := (cntB (rs.take i) b m)) (b := 0) rfl rfl ⟨by omega, by omega⟩ ?_
                  refine wN_mov (v := iv ((cntB (rs.take i) b m) + 0)) rfl ?_
                  refine wN_end ?_
                  first | refine wN_reg ?_ | refine wN_blk ?_ | refine wN_bseq ?_ | (refine wOps_nil ?_; refine wN_reg ?_)
                  refine wN_mov (v := iv (i : Int)) rfl ?_
                  refine wN_add (a := (i : Int)) (b := 1) rfl rfl ⟨by omega, by omega⟩ ?_
                  refine wN_mov (v := iv ((i : Int) + 1)) rfl ?_
                  refine wN_end ?_
                  exact ⟨k - 1, i + 1, by omega, ⟨by omega, hk⟩, rfl, rfl, rfl, rfl, rfl, rfl, by rw [cntB_step hx, hbx]; rfl, rfl, trivial⟩
                · rw [hbx] at fH3
                  refine wN_callf (vs := [.slice (some ⟨sx, i * 1, none⟩) 1 (rcap - i), iv b, iv m]) (v := .tuple #[iv 1, iv 0]) rfl (callX_args fH3) ?_
                  refine wN_mov (v := .tuple #[iv 1, iv 0]) rfl ?_
                  refine wN_pur (v := iv 1) rfl (by kernel_rfl) ?_
                  refine wN_pur (v := iv 0) rfl (by kernel_rfl) ?_
                  refine wN_mov (v := iv 1) rfl ?_
                  refine wN_mov (v := iv 0) rfl ?_
                  refine wN_end ?_
                  refine wN_seq ?_
                  refine wN_mov (v := iv 0) rfl ?_
                  refine wN_b_neq (a := 0) (b := 0) rfl rfl ?_
                  intro t14 g14; obtain rfl : t14 = false := by rw [← g14]; rfl
                  refine wN_mov (v := .bool false) rfl ?_
                  refine wN_g rfl (wN_mov (v := iv 1) rfl ?_)
                  refine wN_g rfl (wN_b_lss (a := 1) (b := 0) rfl rfl ?_)
                  intro t15 g15; obtain rfl : t15 = false := by rw [← g15]; rfl
                  refine wN_pur (v := .bool false) rfl rfl ?_
                  refine wN_mov (v := .bool false) rfl ?_
                  refine wN_g rfl (wN_mov (v := iv 1) rfl ?_)
                  refine wN_g rfl (wN_b_gtr (a := 1) (b := 1) rfl rfl ?_)
                  intro t16 g16; obtain rfl : t16 = false := by rw [← g16]; rfl
                  refine wN_pur (v := .bool false) rfl rfl ?_
                  refine wN_mov (v := .bool false) rfl ?_
                  refine wN_g rfl (wN_mov (v := iv 1) rfl ?_)
                  refine wN_g rfl (wN_b_eql (a := 1) (b := 1) rfl rfl ?_)
                  intro t17 g17; obtain rfl : t17 = true := by rw [← g17]; rfl
                  refine wN_g rfl (wN_mov (v := .slice ra rn rcap) rfl ?_)
                  refine wN_g rfl (wN_mov (v := iv (i : Int)) rfl ?_)
                  refine wN_g rfl (wN_idx (b := sb) (o := so) (k := i) (j := (i : Int)) (by rw [← esb]; rfl) rfl rfl hi ?_)
                  refine wN_g rfl (wN_ld (b := sb) (o := so + i * 1) (v := .slice x.ra x.n x.cap) rfl rsb hat ?_)
                  refine wN_g rfl (wN_mov (v := iv b) rfl ?_)
                  refine wN_g rfl (wN_mov (v := iv m) rfl ?_)
                  have hrx := hr.ri x hmem
                  obtain ⟨H5, fH5, kH5⟩ := ref24_ok (kn := kn) (lo := lo) (H := H3) (b := b) (m := m) hrx.1 hrx.2.1 (hm x hmem)
                  rw [hbx] at fH5
                  refine wN_g rfl (wN_callf (vs := [.slice x.ra x.n x.cap, iv b, iv m]) rfl (callX_args fH5) ?_)
                  have mH5 := kH5.1
                  have hk := hk.trans kH5
                  have hr := hr.keep kH5 (by simp)
                  have rsb := kH5.rd rsb (by simp)
                  refine wN_g rfl (wN_pur (v := .bool false) rfl (neq_bool rfl rfl) ?_)
                  refine wN_pur (v := .bool false) rfl rfl ?_
                  refine wN_end ?_
                  refine condF ?_
                  first | refine wN_skip ?_ | skip
                  first | refine wN_reg ?_ | refine wN_blk ?_ | refine wN_bseq ?_ | (refine wOps_nil ?_; refine wN_reg ?_)
                  refine wN_mov (v := iv (cntB (rs.take i) b m)) rfl ?_
                  refine wN_mov (v := iv 1) rfl ?_
                  refine wN_add (a := (cntB (rs.take i) b m)) (b := 1) rfl rfl ⟨by omega, by omega⟩ ?_
                  refine wN_mov (v := iv ((cntB (rs.take i) b m) + 1)) rfl ?_
                  refine wN_end ?_
                  first | refine wN_reg ?_ | refine wN_blk ?_ | refine wN_bseq ?_ | (refine wOps_nil ?_; refine wN_reg ?_)
                  refine wN_mov (v := iv (i : Int)) rfl ?_
                  refine wN_add (a := (i : Int)) (b := 1) rfl rfl ⟨by omega, by omega⟩ ?_
                  refine wN_mov (v := iv ((i : Int) + 1)) rfl ?_
                  refine wN_end ?_
                  exact ⟨k - 1, i + 1, by omega, ⟨by omega, hk⟩, rfl, rfl, rfl, rfl, rfl, rfl, by rw [cntB_step hx, hbx]; rfl, rfl, trivial⟩
              · have q9 : ¬ ((i : Int) < (rn : Int)) := of_decide_eq_false q9
                have ei : i = rn := by omega
                rw [List.take_of_length_le (by omega)]
                first | (refine wN_exit ?_; show wC _ _ _ _ _ _ _ _ _) | skip
                refine wN_seq ?_
                refine wN_mov (v := .slice ra rn rcap) rfl ?_
                refine wN_mov (v := iv b) rfl ?_
                refine wN_mov (v := .int .u8 c) rfl ?_
                refine wN_pur (v := iv c) rfl (conv_5 c hc0.1 hc0.2 rfl) ?_
                refine wN_add (a := b) (b := c) rfl rfl ⟨by omega, by omega⟩ ?_
                refine wN_mm (a := 4096) (b := b + c) rfl rfl ?_
                refine wN_mov (v := iv m) rfl ?_
                refine wN_mov (v := .int .u8 d) rfl ?_
                refine wN_pur (v := iv d) rfl (conv_5 d hd0.1 hd0.2 rfl) ?_
                refine wN_rem (a := d) (b := 8) rfl rfl (by omega) (by omega) ⟨by omega, by omega⟩ ⟨by omega, by omega⟩ ?_
                refine wN_sub (a := m) (b := d % 8) rfl rfl ⟨by omega, by omega⟩ ?_
                refine wN_mm (a := 0) (b := m - (d % 8)) rfl rfl ?_
                obtain ⟨H6, fH6, kH6⟩ := bounce19_ok (kn := kn) (lo := lo) (H := L1) (b := min 4096 (b + c)) (m := max 0 (m - d % 8)) hr (by omega) hm hn (by omega)
                obtain ⟨e1, e2⟩ := bo_ok (b := min 4096 (b + c)) (m := max 0 (m - d % 8)) hok (by omega) (by omega)
                rw [e1, e2] at fH6
                refine wN_callf (vs := [.slice ra rn rcap, iv (min 4096 (b + c)), iv (max 0 (m - d % 8))]) (v := .tuple #[iv (cntB rs (min 4096 (b + c)) (max 0 (m - d % 8))), iv 0]) rfl (callX_args fH6) ?_
                have mH6 := kH6.1
                have hk := hk.trans kH6
                have hr := hr.keep kH6 (by simp)
                have hmono := cntB_mono (b := b) (m := m) (b' := min 4096 (b + c)) (m' := max 0 (m - d % 8)) (by omega) (by omega) rs
                refine wN_mov (v := .tuple #[iv (cntB rs (min 4096 (b + c)) (max 0 (m - d % 8))), iv 0]) rfl ?_
                refine wN_pur (v := iv (cntB rs (min 4096 (b + c)) (max 0 (m - d % 8)))) rfl (by kernel_rfl) ?_
                refine wN_pur (v := iv 0) rfl (by kernel_rfl) ?_
                refine wN_mov (v := iv (cntB rs (min 4096 (b + c)) (max 0 (m - d % 8)))) rfl ?_
                refine wN_mov (v := iv 0) rfl ?_
                refine wN_end ?_
                refine wN_seq ?_
                refine wN_mov (v := iv (cntB rs b m)) rfl ?_
                refine wN_mov (v := iv (boN rs b m)) rfl ?_
                refine wN_b_eql (a := (cntB rs b m)) (b := (boN rs b m)) rfl rfl ?_
                intro t18 g18; cases t18
                · have g18 : ¬ ((cntB rs b m) = (boN rs b m)) := by simpa using g18
                  exfalso; omega
                · have g18 : (cntB rs b m) = (boN rs b m) := by simpa using g18
                  refine wN_mov (v := .bool true) rfl ?_
                  refine wN_g rfl (wN_mov (v := iv 0) rfl ?_)
                  refine wN_g rfl (wN_b_eql (a := 0) (b := 0) rfl rfl ?_)
                  intro t19 g19; obtain rfl : t19 = true := by rw [← g19]; rfl
                  refine wN_pur (v := .bool true) rfl rfl ?_
                  refine wN_mov (v := .bool true) rfl ?_
                  refine wN_g rfl (wN_mov (v := iv (cntB rs (min 4096 (b + c)) (max 0 (m - d % 8)))) rfl ?_)
                  refine wN_g rfl (wN_mov (v := iv (boN rs b m)) rfl ?_)
                  refine wN_g rfl (wN_b_leq (a := (cntB rs (min 4096 (b + c)) (max 0 (m - d % 8)))) (b := (boN rs b m)) rfl rfl ?_)
                  intro t20 g20; cases t20
                  · have g20 : ¬ ((cntB rs (min 4096 (b + c)) (max 0 (m - d % 8))) ≤ (boN rs b m)) := of_decide_eq_false g20
                    exfalso; omega
                  · have g20 : (cntB rs (min 4096 (b + c)) (max 0 (m - d % 8))) ≤ (boN rs b m) := of_decide_eq_true g20
                    refine wN_pur (v := .bool true) rfl rfl ?_
                    refine wN_mov (v := .bool true) rfl ?_
                    refine wN_g rfl (wN_callf (vs := []) rfl (callX_known hkn) ?_)
                    refine wN_pur (v := .bool true) rfl rfl ?_
                    refine wN_mov (v := .bool true) rfl ?_
                    refine wN_end ?_
                    exact And.intro trivial (Exists.intro _ (And.intro rfl rfl))
            · have g8 : (rn : Int) > 256 := of_decide_eq_true g8
              exfalso; omega
          · have g7 : m > 7 := of_decide_eq_true g7
            exfalso; omega
        · have g6 : m < 0 := of_decide_eq_true g6
          exfalso; omega
      · have g5 : b < 0 := of_decide_eq_true g5
        exfalso; omega
  · refine wN_end ?_
    refine condT ?_
    refine wN_seq ?_
    refine wN_callf (vs := []) rfl (callX_known hkn) ?_
    refine wN_mov (v := .bool true) rfl ?_
    refine wN_end ?_
    exact And.intro trivial (Exists.intro _ (And.intro rfl rfl))
end
end Go.Ax

namespace Go.Ax
open Go Go.RowKit Go.Proofs Go.ChangeShapes Go.WideShapes Go.Deep

/-- A type whose cells are whole numbers. -/
def IntT (P : Program) (t : TypeId) : Prop := ∀ (H : Type) (enc : TypeId × Value → H) (w : World) (base : Nat) (spare : Nat → Bool) (held : Bool) (fuel : Nat) (cs : List Value) (x : DataW H × List MemPlace),
  DataW.trod enc P w base spare held fuel t cs = some x → cs.length = P.cellsOf t ∧ ∀ j, j < cs.length → ∃ n, cs[j]? = some (.int .i64 n)
theorem IntT.int {P : Program} {t : TypeId} (ht : P.underlying t = some (.int .i64)) (hc : P.cellsOf t = 1) : IntT P t := by
  intro H enc w base spare held fuel cs x h
  obtain ⟨n, rfl, _⟩ := DataW.trod_int ht h
  refine ⟨by rw [hc]; rfl, fun j hj => ⟨n, ?_⟩⟩
  have : j = 0 := by simp at hj; omega
  subst this; rfl
theorem IntT.struct {P : Program} {t : TypeId} {fs : Array Field} (ht : P.underlying t = some (.struct fs)) (hf : ∀ f ∈ fs.toList, IntT P f.type)
    (hcov : ((List.range (P.cellsOf t)).all fun j => fs.toList.any fun f => decide (f.offset ≤ j) && decide (j < f.offset + P.cellsOf f.type)) = true) : IntT P t := by
  intro H enc w base spare held fuel cs x h
  obtain ⟨xs, n, _, _, hlen, hxl, hg⟩ := DataW.trod_struct ht h
  refine ⟨hlen, fun j hj => ?_⟩
  have h1 := List.all_eq_true.1 hcov j (List.mem_range.2 (by omega))
  obtain ⟨f, hfm, h2⟩ := List.any_eq_true.1 h1
  simp only [Bool.and_eq_true, decide_eq_true_eq] at h2
  obtain ⟨i, hi, hfi⟩ := List.getElem_of_mem hfm
  have hfs : fs[i]? = some f := by
    rw [← Array.getElem?_toList, List.getElem?_eq_getElem hi, hfi]
  have hi2 : i < xs.length := by simpa [hxl] using hi
  have h3 := hg i f hfs
  rw [List.getElem?_eq_getElem hi2] at h3
  obtain ⟨h4, h5⟩ := hf f hfm _ _ _ _ _ _ _ _ _ h3
  obtain ⟨m, hm⟩ := h5 (j - f.offset) (by omega)
  refine ⟨m, ?_⟩
  rw [List.getElem?_take] at hm
  split at hm
  · rw [List.getElem?_drop, show f.offset + (j - f.offset) = j by omega] at hm; exact hm
  · cases hm

/-- A slice of rows of whole numbers, as it is given. -/
structure Given {α : Type} (w : World) (v : Value) (f : α → List Value) (l : List α) (x : Imp) : Prop where
  ok : ∀ (i : Nat) u, x.cs[i]? = some u → w.cell? ⟨x.blk, x.off + i, none⟩ = some u ∧ flat1 u = true
  cs : x.cs = l.flatMap f
  v : (v = .slice none 0 0 ∧ l = []) ∨ ∃ cap, v = .slice (some ⟨x.blk, x.off, none⟩) l.length cap ∧ l.length ≤ cap
theorem flat_get {α : Type} {f : α → List Value} {k : Nat} (hk : 0 < k) : ∀ {l : List α} (_ : ∀ x ∈ l, (f x).length = k) (i : Nat) (u : Value), (l.flatMap f)[i]? = some u → ∃ x, l[i / k]? = some x ∧ (f x)[i % k]? = some u
  | [], _, i, u, h => by simp at h
  | y :: r, hl, i, u, h => by
    have hy := hl y (List.mem_cons_self ..)
    rw [List.flatMap_cons, List.getElem?_append] at h
    split at h
    · rename_i q
      rw [hy] at q
      refine ⟨y, ?_, ?_⟩
      · rw [Nat.div_eq_of_lt q]; rfl
      · rw [Nat.mod_eq_of_lt q]; exact h
    · rename_i q
      rw [hy] at q h
      obtain ⟨x, h1, h2⟩ := flat_get hk (fun x hx => hl x (List.mem_cons_of_mem _ hx)) _ u h
      refine ⟨x, ?_, ?_⟩
      · rw [Nat.div_eq_sub_div hk (by omega)]; exact h1
      · rw [Nat.mod_eq_sub_mod (by omega)]; exact h2
theorem Given.rel {α : Type} {w : World} {v : Value} {f : α → List Value} {l : List α} {x : Imp} (g : Given w v f l x) {r : Ren} {H : Hp} {b : Nat} (hr : r b = some ⟨x.blk, x.off, none⟩) (hb : b < H.next) (hc : cellsOf H b = some x.cs) (hro : H.t.get b = some (.ro x.cs)) :
    ∃ a cap, VR r (.slice a l.length cap) v ∧ Sl H a l.length cap (l.flatMap f) ∧ ∀ b, a = some ⟨b, 0, none⟩ → H.t.get b = some (.ro (l.flatMap f)) := by
  rcases g.v with ⟨rfl, rfl⟩ | ⟨cap, rfl, hl⟩
  · exact ⟨none, 0, .nilSlice, .inl ⟨.inl rfl, rfl, rfl, rfl⟩, fun b e => by cases e⟩
  · refine ⟨some ⟨b, 0, none⟩, cap, ?_, .inr ⟨b, rfl, ⟨hb, by rw [hc, g.cs]⟩, hl⟩, fun b' e => by cases e; rw [hro, g.cs]⟩
    have := VR.slice (o := 0) (n := l.length) (c := cap) hr rfl hl
    simpa using this
theorem flat_ints (us : List Int) : us.flatMap (fun x => [iv x]) = ints us := by
  induction us with
  | nil => rfl
  | cons u us ih => rw [List.flatMap_cons, ih]; rfl
end Go.Ax

/-! Slices of rows of plain cells, as arguments. -/
namespace Go.Ax
open Go Go.RowKit Go.Proofs Go.ChangeShapes Go.WideShapes Go.Deep

theorem IntT.row {α : Type} {P : Program} {t : TypeId} {k : Nat} {f : α → List Value} {mk : (Nat → Int) → α} (h : IntT P t) (hc : P.cellsOf t = k) (hmk : ∀ N : Nat → Int, f (mk N) = (List.range k).map fun j => Value.int .i64 (N j))
    {H : Type} {enc : TypeId × Value → H} {w : World} {base : Nat} {spare : Nat → Bool} {held : Bool} (fuel : Nat) (cs : List Value) (x : DataW H × List MemPlace) (hx : DataW.trod enc P w base spare held fuel t cs = some x) : ∃ y : α, cs = f y ∧ True := by
  obtain ⟨h1, h2⟩ := h _ _ _ _ _ _ _ _ _ hx
  have : ∃ N : Nat → Int, ∀ j, j < cs.length → cs[j]? = some (.int .i64 (N j)) := by
    refine ⟨fun j => match cs[j]? with | some (.int _ n) => n | _ => 0, fun j hj => ?_⟩
    obtain ⟨n, hn⟩ := h2 j hj
    simp [hn]
  obtain ⟨N, hN⟩ := this
  refine ⟨mk N, ?_, trivial⟩
  rw [hmk]
  apply List.ext_getElem?
  intro j
  by_cases hj : j < k
  · rw [hN j (by omega), List.getElem?_map, List.getElem?_range hj]; rfl
  · rw [List.getElem?_eq_none (by omega), List.getElem?_eq_none (by simp; omega)]
theorem spot_of {w : World} {a : Addr} {v : Value} (h : w.cell? a = some v) : a.spot = none := by
  unfold World.cell? at h
  split at h
  · cases hs : a.spot with
    | none => rfl
    | some x => rw [hs] at h; simp at h
  · cases h
theorem add_zero' (a : Addr) : a.add 0 = a := by unfold Addr.add; simp
theorem add_plain (b o n : Nat) : (⟨b, o, none⟩ : Addr).add n = ⟨b, o + n, none⟩ := by
  unfold Addr.add
  by_cases q : n = 0
  · simp [q]
  · simp [q]
/-- A slice of rows, as it is read; Q: what else is known of a row. -/
theorem rows_read {H : Type} {enc : TypeId × Value → H} {P : Program} {w : World} {base : Nat} {held : Bool} {α : Type} {f : α → List Value} {Q : α → Prop} {k : Nat} {t e : TypeId} {fuel : Nat} {v : Value} {x : DataW H × List MemPlace}
    (ht : P.underlying t = some (.slice e)) (hR : ∀ (fuel : Nat) (cs : List Value) (x : DataW H × List MemPlace), DataW.trod enc P w base (fun _ => true) held fuel e cs = some x → ∃ y : α, cs = f y ∧ Q y) (hc : P.cellsOf e = k) (hk : 0 < k) (hfk : ∀ y, (f y).length = k)
    (h : DataW.trod enc P w base (fun _ => true) held fuel t [v] = some x) : ∃ (l : List α), l.length ≤ maxLen ∧ (∀ y ∈ l, Q y) ∧
      (((v = .slice none 0 0 ∨ ∃ a', v = .slice (some a') 0 0) ∧ l = []) ∨ ∃ blk off cap, v = .slice (some ⟨blk, off, none⟩) l.length cap ∧ l.length ≤ cap ∧ ∀ (i : Nat) u, (l.flatMap f)[i]? = some u → w.cell? ⟨blk, off + i, none⟩ = some u) := by
  rcases open_slice ht h with ⟨h0, _⟩ | ⟨a, len, cap, m, n, D, Pl, hcs, hb, hl, hm, hmm, hx, hi⟩
  · cases h0
    exact ⟨[], by simp, fun y hy => by simp at hy, .inl ⟨.inl rfl, rfl⟩⟩
  cases hcs
  simp only [if_true] at hmm
  subst hmm
  rcases Nat.eq_zero_or_pos m with h0 | h0
  · subst h0
    have : len = 0 := by omega
    subst this
    exact ⟨[], by simp, fun y hy => by simp at hy, .inl ⟨.inr ⟨_, rfl⟩, rfl⟩⟩
  obtain ⟨blk, off, spot⟩ := a
  have hs : spot = none := by
    obtain ⟨cs', h1, h2⟩ := hi 0 h0
    obtain ⟨y, hy, _⟩ := hR _ _ _ h2
    obtain ⟨_, h5, h6⟩ := World.cells?_some h1
    have h7 := h6 0 (by omega)
    rw [Nat.zero_mul, add_zero', add_zero'] at h7
    have h8 : cs'[0]? = some (cs'[0]'(by omega)) := List.getElem?_eq_getElem _
    rw [h8] at h7
    exact spot_of h7
  subst hs
  have hrow : ∀ i, i < len → ∃ y : α, Q y ∧ ∀ j, j < k → ∃ u, (f y)[j]? = some u ∧ w.cell? ⟨blk, off + (i * k + j), none⟩ = some u := by
    intro i hil
    obtain ⟨cs', h1, h2⟩ := hi i (by omega)
    obtain ⟨y, rfl, hq⟩ := hR _ _ _ h2
    obtain ⟨_, h5, h6⟩ := World.cells?_some h1
    refine ⟨y, hq, fun j hj => ?_⟩
    have h7 := h6 j (by omega)
    have h8 : (f y)[j]? = some ((f y)[j]'(by rw [hfk]; exact hj)) := List.getElem?_eq_getElem _
    rw [h8, hc, add_plain, add_plain, Nat.add_assoc] at h7
    exact ⟨_, h8, h7⟩
  have key : ∀ n, n ≤ len → ∃ l : List α, l.length = n ∧ (∀ y ∈ l, Q y) ∧ ∀ (i : Nat) y, l[i]? = some y → ∀ j, j < k → ∃ u, (f y)[j]? = some u ∧ w.cell? ⟨blk, off + (i * k + j), none⟩ = some u := by
    intro n
    induction n with
    | zero => intro _; exact ⟨[], rfl, fun y hy => by simp at hy, fun i y e => by simp at e⟩
    | succ n ih =>
      intro hn
      obtain ⟨l, h1, hq, h2⟩ := ih (by omega)
      obtain ⟨y, hyq, hy⟩ := hrow n (by omega)
      refine ⟨l ++ [y], by simp [h1], fun z hz => ?_, fun i z e => ?_⟩
      · simp only [List.mem_append, List.mem_singleton] at hz
        rcases hz with hz | rfl
        · exact hq z hz
        · exact hyq
      rw [List.getElem?_append] at e
      split at e
      · exact h2 i z e
      · rename_i q
        have : i = n := by have := get_lt e; simp at this; omega
        subst this
        rw [h1, Nat.sub_self] at e
        simp at e; subst e
        exact hy
  obtain ⟨l, hl1, hq, hl2⟩ := key len (Nat.le_refl _)
  refine ⟨l, by omega, hq, .inr ⟨blk, off, m, by rw [hl1], by omega, fun i u hu => ?_⟩⟩
  obtain ⟨y, h1, h2⟩ := flat_get hk (fun y _ => hfk y) i u hu
  have hj : i % k < k := Nat.mod_lt _ hk
  obtain ⟨u', e1, e2⟩ := hl2 _ y h1 _ hj
  rw [h2] at e1; cases e1
  rw [Nat.div_add_mod'] at e2
  exact e2
end Go.Ax

/-! Arguments that point to what points: inner slices, rows of slices. -/
namespace Go.Ax
open Go Go.RowKit Go.Proofs Go.ChangeShapes Go.WideShapes Go.Deep

def renOf (imps : List Imp) : Ren := fun b => (imps[b]?).map fun x => ⟨x.blk, x.off, none⟩
theorem imports3 {P : Program} (imps outs : List Imp) (w : World) (h : ∀ x ∈ imps, ∀ (i : Nat) v, x.cs[i]? = some v → w.cell? ⟨x.blk, x.off + i, none⟩ = some v ∧ flat1 v = true)
    (hcs : ∀ x ∈ outs, ∀ (i : Nat) v, x.cs[i]? = some v → ∃ v', w.cell? ⟨x.blk, x.off + i, none⟩ = some v' ∧ VR (renOf imps) v v') :
    ∃ (r : Ren) (H : Hp), Rel P r w.heap.size H w ∧ H.next = (imps ++ outs).length ∧ (∀ b loc, r b = some loc → b < H.next) ∧ Ren.Le (renOf imps) r ∧ ∀ (b : Nat) x, (imps ++ outs)[b]? = some x → r b = some ⟨x.blk, x.off, none⟩ ∧ H.t.get b = some (.ro x.cs) := by
  have hall : ∀ x ∈ imps ++ outs, ∀ (i : Nat) v, x.cs[i]? = some v → ∃ v', w.cell? ⟨x.blk, x.off + i, none⟩ = some v' ∧ VR (renOf imps) v v' := by
    intro x hx i v hv
    rcases List.mem_append.1 hx with hx | hx
    · obtain ⟨h1, h2⟩ := h x hx i v hv
      exact ⟨v, h1, flat1_vr h2⟩
    · exact hcs x hx i v hv
  obtain ⟨t, ht⟩ := tr_of (fun b => ((imps ++ outs)[b]?).map fun x => .ro x.cs) (imps ++ outs).length
  have hle : Ren.Le (renOf imps) (fun b => ((imps ++ outs)[b]?).map fun x => ⟨x.blk, x.off, none⟩) := fun b loc e => by
    unfold renOf at e
    have hlt : b < imps.length := by
      rcases Nat.lt_or_ge b imps.length with q | q
      · exact q
      · rw [List.getElem?_eq_none q] at e; cases e
    show ((imps ++ outs)[b]?).map _ = _
    rw [List.getElem?_append_left hlt]; exact e
  have hr : ∀ (b : Nat) loc, ((imps ++ outs)[b]?).map (fun x => (⟨x.blk, x.off, none⟩ : Loc)) = some loc → ∃ x, (imps ++ outs)[b]? = some x ∧ b < (imps ++ outs).length ∧ loc = ⟨x.blk, x.off, none⟩ ∧ t.get b = some (.ro x.cs) := by
    intro b loc e
    cases hx : (imps ++ outs)[b]? with
    | none => rw [hx] at e; cases e
    | some x =>
      rw [hx] at e
      simp at e
      have hlt := get_lt hx
      exact ⟨x, rfl, hlt, e.symm, by rw [ht, if_pos hlt, hx]; rfl⟩
  have low : ∀ {g o : Nat} {v : Value}, w.cell? ⟨g, o, none⟩ = some v → g < w.heap.size := fun {g o v} hv => by
    unfold World.cell? at hv
    rcases Nat.lt_or_ge g w.heap.size with q | q
    · exact q
    · rw [Array.getElem?_eq_none q] at hv; cases hv
  refine ⟨fun b => ((imps ++ outs)[b]?).map fun x => ⟨x.blk, x.off, none⟩, { next := (imps ++ outs).length, t }, ⟨?_, ?_, ?_, Nat.le_refl _⟩, rfl, ?_, hle, ?_⟩
  · intro b loc e
    obtain ⟨x, hx, hlt, rfl, hg⟩ := hr b loc e
    refine ⟨hlt, ?_⟩
    show Dm _ _ _ (t.get b)
    rw [hg]
    cases hc : x.cs with
    | nil => exact .inl rfl
    | cons v l =>
      obtain ⟨v', h1, _⟩ := hall x (List.mem_of_getElem? hx) 0 v (by rw [hc]; rfl)
      exact .inr (low h1)
  · intro b loc o e eo
    obtain ⟨x, hx, hlt, rfl, hg⟩ := hr b loc e
    rw [hg] at eo; cases eo
    refine ⟨rfl, fun i v ev => ?_⟩
    obtain ⟨v', h1, h2⟩ := hall x (List.mem_of_getElem? hx) i v ev
    unfold World.cell? at h1
    simp only at h1
    split at h1
    · rename_i C e' f hC
      exact ⟨C, e', f, v', hC, by simpa using h1, h2.mono hle⟩
    · cases h1
  · intro b b' loc loc' e e' _ hl _
    obtain ⟨x, hx, hlt, rfl, hg⟩ := hr b loc e
    obtain ⟨o, h1, h2, h3⟩ := hl
    have : t.get b = some o := h1
    rw [hg] at this; cases this
    cases h3
  · intro b loc e
    obtain ⟨x, hx, hlt, rfl, hg⟩ := hr b loc e
    exact hlt
  · intro b x hx
    have hlt := get_lt hx
    refine ⟨by simp only [hx, Option.map_some], ?_⟩
    show t.get b = _
    rw [ht, if_pos hlt, hx]; rfl

/-- An inner slice, as it is given: an empty one may have any address. -/
structure GivI {α : Type} (w : World) (v : Value) (f : α → List Value) (l : List α) (x : Imp) : Prop where
  ok : ∀ (i : Nat) u, x.cs[i]? = some u → w.cell? ⟨x.blk, x.off + i, none⟩ = some u ∧ flat1 u = true
  cs : x.cs = l.flatMap f
  v : ((v = .slice none 0 0 ∨ ∃ a', v = .slice (some a') 0 0) ∧ l = []) ∨ ∃ cap, v = .slice (some ⟨x.blk, x.off, none⟩) l.length cap ∧ l.length ≤ cap
theorem givI_of {H : Type} {enc : TypeId × Value → H} {P : Program} {w : World} {base : Nat} {held : Bool} {α : Type} {f : α → List Value} {Q : α → Prop} {k : Nat} {t e : TypeId} {fuel : Nat} {v : Value} {x : DataW H × List MemPlace}
    (ht : P.underlying t = some (.slice e)) (hR : ∀ (fuel : Nat) (cs : List Value) (x : DataW H × List MemPlace), DataW.trod enc P w base (fun _ => true) held fuel e cs = some x → ∃ y : α, cs = f y ∧ Q y) (hc : P.cellsOf e = k) (hk : 0 < k) (hfk : ∀ y, (f y).length = k) (hflat : ∀ y u, u ∈ f y → flat1 u = true)
    (h : DataW.trod enc P w base (fun _ => true) held fuel t [v] = some x) : ∃ (l : List α) (y : Imp), GivI w v f l y := by
  obtain ⟨l, h1, h2, ⟨h3, rfl⟩ | ⟨blk, off, cap, h3, h4, h5⟩⟩ := rows_read ht hR hc hk hfk h
  · exact ⟨[], ⟨0, 0, []⟩, ⟨fun i u e => by simp at e, rfl, .inl ⟨h3, rfl⟩⟩⟩
  · refine ⟨l, ⟨blk, off, l.flatMap f⟩, ⟨fun i u hu => ⟨h5 i u hu, ?_⟩, rfl, .inr ⟨cap, h3, h4⟩⟩⟩
    obtain ⟨y, hy, hu'⟩ := List.mem_flatMap.1 (List.mem_of_getElem? hu)
    exact hflat y u hu'
theorem GivI.rel {α : Type} {w : World} {v : Value} {f : α → List Value} {l : List α} {x : Imp} (g : GivI w v f l x) {r : Ren} {b : Nat} (hr : r b = some ⟨x.blk, x.off, none⟩) :
    ∃ a cap, VR r (.slice a l.length cap) v ∧ (∀ y, a = some ⟨y, 0, none⟩ → y = b) ∧ ∀ H : Hp, b < H.next → H.t.get b = some (.ro x.cs) → Sl H a l.length cap (l.flatMap f) := by
  rcases g.v with ⟨rfl | ⟨a', rfl⟩, rfl⟩ | ⟨cap, rfl, hl⟩
  · exact ⟨none, 0, .nilSlice, fun y e => by (cases e), fun H _ _ => .inl ⟨.inl rfl, rfl, rfl, rfl⟩⟩
  · exact ⟨some ⟨0, 0, some 0⟩, 0, .weird, fun y e => by (cases e), fun H _ _ => .inl ⟨.inr rfl, rfl, rfl, rfl⟩⟩
  · refine ⟨some ⟨b, 0, none⟩, cap, ?_, fun y e => by (cases e; rfl), fun H hb hc => .inr ⟨b, rfl, ⟨hb, by unfold cellsOf; rw [hc, g.cs]⟩, hl⟩⟩
    have := VR.slice (o := 0) (n := l.length) (c := cap) hr rfl hl
    simpa using this
/-- A list of rows that point elsewhere, as it is given. -/
structure GivO {α : Type} (w : World) (v : Value) (f : α → List Value) (l : List α) (x : Imp) : Prop where
  cs : ∀ (i : Nat) u, (l.flatMap f)[i]? = some u → w.cell? ⟨x.blk, x.off + i, none⟩ = some u
  v : ((v = .slice none 0 0 ∨ ∃ a', v = .slice (some a') 0 0) ∧ l = []) ∨ ∃ cap, v = .slice (some ⟨x.blk, x.off, none⟩) l.length cap ∧ l.length ≤ cap
theorem givO_of {w : World} {α : Type} {f : α → List Value} {Q : α → Prop} {v : Value} {l : List α} (h : ((v = .slice none 0 0 ∨ ∃ a', v = .slice (some a') 0 0) ∧ l = []) ∨ ∃ blk off cap, v = .slice (some ⟨blk, off, none⟩) l.length cap ∧ l.length ≤ cap ∧ ∀ (i : Nat) u, (l.flatMap f)[i]? = some u → w.cell? ⟨blk, off + i, none⟩ = some u) : ∃ x : Imp, GivO w v f l x := by
  rcases h with ⟨h1, rfl⟩ | ⟨blk, off, cap, h1, h2, h3⟩
  · exact ⟨⟨0, 0, []⟩, fun i u e => by simp at e, .inl ⟨h1, rfl⟩⟩
  · exact ⟨⟨blk, off, []⟩, h3, .inr ⟨cap, h1, h2⟩⟩
structure RV where
  rv : Value
  l : List Int
  x : Imp
def RV.f (r : RV) : List Value := [r.rv]
def RV.Q (w : World) (r : RV) : Prop := GivI w r.rv (fun n : Int => [iv n]) r.l r.x
end Go.Ax

/-! Trucks, slips and berries as arguments. -/
namespace Go.Ax
open Go Go.RowKit Go.Proofs Go.ChangeShapes Go.WideShapes Go.Deep

theorem rows_abs {w : World} {imps : List Imp} : ∀ (L : List RV) (pre post : List Imp), imps = pre ++ L.map RV.x ++ post → (∀ b ∈ L, b.Q w) → ∃ bs : List Rw, bs.length = L.length ∧ LR (renOf imps) (rwc bs) (L.flatMap RV.f) ∧
    ∀ (H : Hp) (f : Nat), imps.length ≤ f → (∀ (b : Nat) x, imps[b]? = some x → b < H.next ∧ H.t.get b = some (.ro x.cs)) → ∀ b ∈ bs, Sl H b.ra b.n b.cap (ints b.l) ∧ b.l.length = b.n ∧ ∀ x, b.ra = some ⟨x, 0, none⟩ → x < f ∧ Fx H x (ints b.l)
  | [], _, _, _, _ => ⟨[], rfl, .nil, fun _ _ _ _ b hb => by simp at hb⟩
  | b :: L, pre, post, he, hq => by
    obtain ⟨bs, e1, e2, e3⟩ := rows_abs (imps := imps) L (pre ++ [b.x]) post (by rw [he]; simp) (fun x hx => hq x (List.mem_cons_of_mem _ hx))
    have q := hq b (List.mem_cons_self ..)
    have i1 : imps[pre.length]? = some b.x := by rw [he]; simp
    obtain ⟨a1, c1, r1, y1, l1⟩ := GivI.rel q (r := renOf imps) (b := pre.length) (by unfold renOf; rw [i1]; rfl)
    refine ⟨⟨a1, b.l.length, c1, b.l⟩ :: bs, by simp [e1], ?_, fun H f hf hH x hx => ?_⟩
    · show LR (renOf imps) (.slice a1 b.l.length c1 :: rwc bs) (b.rv :: L.flatMap RV.f)
      exact .cons r1 e2
    · simp only [List.mem_cons] at hx
      rcases hx with rfl | hx
      · obtain ⟨b1, d1⟩ := hH _ _ i1
        exact ⟨by rw [← flat_ints]; exact l1 H b1 d1, rfl, fun x e => by
          have e2 := y1 x e; have := get_lt i1; subst e2
          exact ⟨by omega, b1, .inl (by rw [d1, q.cs, ← flat_ints])⟩⟩
      · exact e3 H f hf hH x hx
/-- Some plain lists, and a list of rows. -/
theorem imports_rows {P : Program} (pre : List Imp) {w : World} {s2 : Value} {L2 : List RV} {x2 : Imp} (g2 : GivO w s2 RV.f L2 x2) (q2 : ∀ b ∈ L2, b.Q w) (h : ∀ x ∈ pre, ∀ (i : Nat) v, x.cs[i]? = some v → w.cell? ⟨x.blk, x.off + i, none⟩ = some v ∧ flat1 v = true) :
    ∃ (r : Ren) (H : Hp) (ra : Option Addr) (rn rcap : Nat) (rs : List Rw), Rel P r w.heap.size H w ∧ (∀ b loc, r b = some loc → b < H.next) ∧ (∀ (b : Nat) x, pre[b]? = some x → b < H.next ∧ r b = some ⟨x.blk, x.off, none⟩ ∧ H.t.get b = some (.ro x.cs)) ∧ Rws H H.next ra rn rcap rs ∧
      VR r (.slice ra rn rcap) s2 ∧ (rn = 0 ∨ ∃ x, ra = some ⟨x, 0, none⟩ ∧ x < H.next ∧ H.t.get x = some (.ro (rwc rs))) := by
  obtain ⟨rs, r1, r2, r3⟩ := rows_abs (w := w) (imps := pre ++ L2.map RV.x) L2 pre [] (by simp) q2
  obtain ⟨imps, himps⟩ : ∃ imps, imps = pre ++ L2.map RV.x := ⟨_, rfl⟩
  rw [← himps] at r2 r3
  have himp : ∀ x ∈ imps, ∀ (i : Nat) v, x.cs[i]? = some v → w.cell? ⟨x.blk, x.off + i, none⟩ = some v ∧ flat1 v = true := by
    intro x hx
    rw [himps] at hx
    simp only [List.mem_append, List.mem_map] at hx
    rcases hx with hx | ⟨y, hy, rfl⟩
    · exact h x hx
    · exact (q2 y hy).ok
  obtain ⟨r, H, h1, h2, h3, h4, h5⟩ := imports3 (P := P) imps [⟨x2.blk, x2.off, rwc rs⟩] w himp (by
    intro x hx i u hu
    simp only [List.mem_cons, List.not_mem_nil, or_false] at hx
    subst hx
    have hlt := get_lt hu
    have hlt2 : i < (L2.flatMap RV.f).length := by rw [← r2.1]; exact hlt
    have hu2 := List.getElem?_eq_getElem hlt2
    exact ⟨_, g2.cs i _ hu2, r2.2 i u _ hu hu2⟩)
  have hnx : H.next = imps.length + 1 := by rw [h2]; simp
  have hg5 : ∀ (b : Nat) x, imps[b]? = some x → r b = some ⟨x.blk, x.off, none⟩ ∧ H.t.get b = some (.ro x.cs) := fun b x hx => h5 b x (by rw [List.getElem?_append_left (get_lt hx)]; exact hx)
  have hH : ∀ (b : Nat) x, imps[b]? = some x → b < H.next ∧ H.t.get b = some (.ro x.cs) := fun b x hx => ⟨by have := get_lt hx; omega, (hg5 b x hx).2⟩
  obtain ⟨o1, p1⟩ := h5 imps.length ⟨x2.blk, x2.off, rwc rs⟩ (by simp)
  refine ⟨r, H, ?_⟩
  have hlen : L2.length = rs.length := r1.symm
  have rows := r3 H H.next (by omega) hH
  have pres : ∀ (b : Nat) x, pre[b]? = some x → b < H.next ∧ r b = some ⟨x.blk, x.off, none⟩ ∧ H.t.get b = some (.ro x.cs) := fun b x hx => by
    have hx2 : imps[b]? = some x := by rw [himps, List.getElem?_append_left (get_lt hx)]; exact hx
    exact ⟨(hH b x hx2).1, hg5 b x hx2⟩
  rcases g2.v with ⟨rfl | ⟨a', rfl⟩, e⟩ | ⟨cap, rfl, hl⟩
  · have e2 : rs = [] := List.eq_nil_of_length_eq_zero (by rw [r1, e]; rfl)
    subst e2
    exact ⟨none, 0, 0, [], h1, h3, pres, ⟨.inl ⟨.inl rfl, rfl, rfl⟩, rfl, fun r hr => by simp at hr⟩, .nilSlice, .inl rfl⟩
  · have e2 : rs = [] := List.eq_nil_of_length_eq_zero (by rw [r1, e]; rfl)
    subst e2
    exact ⟨some ⟨0, 0, some 0⟩, 0, 0, [], h1, h3, pres, ⟨.inl ⟨.inr rfl, rfl, rfl⟩, rfl, fun r hr => by simp at hr⟩, .weird, .inl rfl⟩
  · have hb : imps.length < H.next := by omega
    refine ⟨some ⟨imps.length, 0, none⟩, rs.length, cap, rs, h1, h3, pres, ⟨.inr ⟨imps.length, 0, rwc rs, rfl, ⟨hb, by unfold cellsOf; rw [p1]⟩, hb, by omega, fun i r hr => by have := rwc_row hr; simpa using this⟩, rfl, rows⟩, ?_, .inr ⟨_, rfl, hb, p1⟩⟩
    have := VR.slice (o := 0) (n := L2.length) (c := cap) o1 rfl hl
    rw [hlen] at this
    simpa [hlen] using this
end Go.Ax


import Derived.Test.YtocgghpjbaelpaaMb
import Derived.Test.YtocgghpjbaelpaaAxW9
import Derived.Test.YtocgghpjbaelpaaChecked
import Derived.Test.YtocgghpjbaelpaaRows
import Derived.Test.YtocgghpjbaelpaaAxO
import Derived.Deep.Slices
import Derived.Deep.Fields
import Derived.ChangeSame
set_option linter.all false
/-
  Station: berries: firstTries, bouncing, Bounce (written by program).
-/
namespace Go.Ax
open Go Go.RowKit Go.Proofs

noncomputable abbrev asg35 : Code := at_ Try.f35 [1, 0, 1, 1, 0, 1, 0, 0]
noncomputable abbrev body35 : Code := at_ Try.f35 [1, 0, 1, 1, 0, 1, 0, 1]
abbrev S35 (bk : Nat) : Rg := [(4, pt bk), (7, pt (bk + 1))]
def kmin (m : Int) (n : Nat) : Nat := (min m (n : Int)).toNat
/-- what lies where behind i berries -/
structure J35 (H0 : Hp) (sa : Option Addr) (n cap : Nat) (rs : List Rw) (b m : Int) (bk rb tb l : Nat) (i : Nat) (H' : Hp) : Prop where
  kp : Keep H0 H' []
  hr : Rws H' H0.next sa n cap rs
  cb : Rd H' bk [iv b]
  cn : Cl H' (bk + 1) [iv (cntB (rs.take i) b m)]
  cr : Rd H' rb [.slice sa n cap]
  ct : Rd H' tb [iv m]
  lp : Lp Try.prog H' l .ready none 28 (S35 bk) [14] asg35 body35 (l - 1)
  dfr : H'.t.get (l - 1) = some (.dfr (some []))
  ll : l < H'.next
section
variable {kn : FuncId → Option Bool} {lo : Nat} {H : Hp}

/-- firstTries -/
theorem first55_ok {sa : Option Addr} {n cap : Nat} {m : Int} (hlo : lo ≤ H.next) : ∃ H', FnX Try.prog kn lo 55 [.slice sa n cap, iv m] H (.func (.func 64) #[] #[pt H.next, pt (H.next + 1)]) H' ∧ Keep H H' [] ∧ H'.next = H.next + 2 ∧ Rd H' H.next [.slice sa n cap] ∧ Rd H' (H.next + 1) [iv m] := by
  have key := fnX_low (kn := kn) (lo := lo) (H := H) (args := [.slice sa n cap, iv m]) (Q := fun w H' => w = .func (.func 64) #[] #[pt H.next, pt (H.next + 1)] ∧ Keep H H' [] ∧ H'.next = H.next + 2 ∧ Rd H' H.next [.slice sa n cap] ∧ Rd H' (H.next + 1) [iv m]) Try.func55 B55 N55 Z55 L55 (by simp) ?_
  · obtain ⟨w, H', h, rfl, q⟩ := key; exact ⟨H', h, q⟩
  refine wN_seq ?_
  refine wN_box (v := .slice sa n cap) rfl ?_
  intro H1 k1 n1 c1
  have c1 : Cl H1 H.next [.slice sa n cap] := c1
  refine wN_box (v := iv m) rfl ?_
  intro H2 k2 n2 c2
  have c2 : Cl H2 H1.next [iv m] := c2
  rw [n1] at c2 ⊢
  refine wN_mov (v := .nilFunc) rfl ?_
  refine wN_end ?_
  refine wN_seq ?_
  refine wN_pur (v := .func (.func 64) #[] #[pt H.next, pt (H.next + 1)]) rfl (by kernel_rfl) ?_
  refine wN_mov (v := .func (.func 64) #[] #[pt H.next, pt (H.next + 1)]) rfl ?_
  refine wN_end ?_
  exact And.intro trivial (Exists.intro _ (And.intro rfl ⟨rfl, k1.trans k2, by omega, (k2.cl c1 (by simp)).rd, c2.rd⟩))
set_option maxRecDepth 100000 in
/-- firstTries's iterator -/
theorem iter64_ok {sa : Option Addr} {n cap f rb tb l : Nat} {rs : List Rw} {m : Int} (hm0 : 0 ≤ m) {J : Nat → Hp → Prop} (hJ : J 0 H) (hJe : ∀ i H1, J i H1 → Rd H1 rb [.slice sa n cap] ∧ Rd H1 tb [iv m] ∧ Rws H1 f sa n cap rs)
    (hn : n ≤ 1000000) (step : ∀ i x H1, i < n → rs[i]? = some x → J i H1 → ∃ H', CallsX Try.prog kn lo (.fn (.yield l) #[]) [.slice x.ra (kmin m x.n) x.cap] H1 (.bool true) H' ∧ J (i + 1) H') :
    ∃ H', FnX Try.prog kn lo 64 [.func (.yield l) #[] #[], pt rb, pt tb] H unit H' ∧ J n H' := by
  have key := fnX_low (kn := kn) (lo := lo) (H := H) (args := [.func (.yield l) #[] #[], pt rb, pt tb]) (Q := fun w H' => w = unit ∧ J n H') Try.func64 B64 N64 Z64 L64 (by simp) ?_
  · obtain ⟨w, H', h, rfl, q⟩ := key; exact ⟨H', h, q⟩
  obtain ⟨hcr, hct, hr⟩ := hJe _ _ hJ
  refine wN_seq ?_
  refine wN_ld (b := rb) (o := 0) (v := .slice sa n cap) rfl hcr rfl ?_
  refine wN_len (m := n) rfl ?_
  refine wN_mov (v := iv 0) rfl ?_
  refine wN_end ?_
  refine loop_low (fn := Try.f64) E64_1 N64 L64x1 (fun i : Nat => [(0, .func (.yield l) #[] #[]), (1, pt rb), (2, pt tb), (6, .slice sa n cap), (7, iv (n : Int)), (8, iv (i : Int))])
    (fun k i H' => i + k = n ∧ J i H') n 0 ⟨by omega, hJ⟩ ⟨rfl, rfl, rfl, rfl, rfl, rfl, trivial⟩ ?_
  rintro k i L1 ⟨hik, hj⟩
  obtain ⟨hcr, hct, hr⟩ := hJe _ _ hj
  refine wN_seq ?_
  refine wN_c_lss (a := (i : Int)) (b := (n : Int)) rfl rfl ?_
  refine wN_end ?_
  refine And.intro (fun q1 => ?_) (fun q1 => ?_)
  · have q1 : (i : Int) < (n : Int) := of_decide_eq_true q1
    have hi : i < n := by omega
    obtain ⟨sb, so, cs, x, hx, esb, rsb, lsf, lcap, hat, hmem⟩ := hr.opn hi
    have hrx := hr.ri x hmem
    first | refine wN_skip ?_ | skip
    refine wN_seq ?_
    refine wN_idx (b := sb) (o := so) (k := i) (j := (i : Int)) (by rw [← esb]; rfl) rfl rfl hi ?_
    refine wN_ld (b := sb) (o := so + i * 1) (v := .slice x.ra x.n x.cap) rfl rsb hat ?_
    refine wN_mov (v := .slice x.ra x.n x.cap) rfl ?_
    refine wN_end ?_
    refine wN_seq ?_
    refine wN_mov (v := .func (.yield l) #[] #[]) rfl ?_
    refine wN_mov (v := .slice x.ra x.n x.cap) rfl ?_
    refine wN_ld (b := tb) (o := 0) (v := iv m) rfl hct rfl ?_
    refine wN_mov (v := .slice x.ra x.n x.cap) rfl ?_
    refine wN_len (m := x.n) rfl ?_
    refine wN_mm (a := m) (b := (x.n : Int)) rfl rfl ?_
    have hkm : (kmin m x.n : Int) = min m (x.n : Int) := by unfold kmin; omega
    have hkl : kmin m x.n ≤ x.n := by omega
    obtain ⟨kd, hop, hkd⟩ := heap_upto (lo := lo) hrx.1 (fun b e => (hrx.2.2 b e).2) hkl
    refine wN_memh (k := kd) rfl (by kernel_rfl) (hop _ _ _ _ _ _ _ rfl (by rw [hkm]; rfl)) hkd ?_
    obtain ⟨H2, f2, hj2⟩ := step i x _ hi hx hj
    refine wN_callf (vs := [.slice x.ra (kmin m x.n) x.cap]) rfl f2 ?_
    refine wN_pur (v := .bool false) rfl rfl ?_
    refine wN_end ?_
    refine condF ?_
    first | refine wN_skip ?_ | skip
    first | refine wN_reg ?_ | refine wN_blk ?_ | refine wN_bseq ?_ | (refine wOps_nil ?_; refine wN_reg ?_)
    refine wN_add (a := (i : Int)) (b := 1) rfl rfl ⟨by omega, by omega⟩ ?_
    refine wN_mov (v := iv ((i : Int) + 1)) rfl ?_
    refine wN_end ?_
    exact ⟨k - 1, i + 1, by omega, ⟨by omega, hj2⟩, rfl, rfl, rfl, rfl, rfl, rfl, trivial⟩
  · have q1 : ¬ ((i : Int) < (n : Int)) := of_decide_eq_false q1
    have e : i = n := by omega
    exact And.intro trivial (Exists.intro _ (And.intro rfl ⟨rfl, by rw [← e]; exact hj⟩))
theorem bnc_take {l : List Int} {b m : Int} {n : Nat} (hl : l.length = n) (hm : 0 ≤ m) : bnc l b m = (l.take (kmin m n)).any fun h => decide (b ≤ h) := by
  unfold bnc kmin
  rcases Int.lt_or_le m n with q | q
  · rw [Int.min_eq_left (by omega)]
  · rw [Int.min_eq_right q, List.take_of_length_le (by omega), List.take_of_length_le (by simp; omega)]
set_option maxRecDepth 100000 in
theorem round35 {H0 : Hp} {sa : Option Addr} {n cap bk rb tb l i : Nat} {rs : List Rw} {x : Rw} {b m : Int} (hm0 : 0 ≤ m) (hi : i < n) (hn : n ≤ 1000000) (hx : rs[i]? = some x) (hxm : x.n ≤ 1000000) (hlo : lo ≤ H0.next) (hbk : H0.next ≤ bk) (hbl : bk + 1 < rb) (hrt : rb < tb) (htl : tb + 1 < l) (j : J35 H0 sa n cap rs b m bk rb tb l i H) :
    ∃ H', CallsX Try.prog kn lo (.fn (.yield l) #[]) [.slice x.ra (kmin m x.n) x.cap] H (.bool true) H' ∧ J35 H0 sa n cap rs b m bk rb tb l (i + 1) H' := by
  have L1 : low Try.prog 28 asg35 = some R35x1 := N35 ▸ L35x1
  have L2 : low Try.prog 28 body35 = some R35x2 := N35 ▸ L35x2
  have ll := j.ll
  have hmem := List.mem_of_getElem? hx
  have hrl := j.hr.rl
  have key := yield_ok (kn := kn) (P := Try.prog) (lo := lo) (S1 := (14, .slice x.ra (kmin m x.n) x.cap) :: S35 bk) (args := [.slice x.ra (kmin m x.n) x.cap]) (Q := fun t H' => t = true ∧ J35 H0 sa n cap rs b m bk rb tb l (i + 1) H') j.lp (by omega) (by rfl) rfl (wC_sound true _ L1 ?_)
  · obtain ⟨t, H', h1, h2, h3⟩ := key; subst h2; exact ⟨H', h1, h3⟩
  refine wN_reg ?_
  refine wN_mov (v := .slice x.ra (kmin m x.n) x.cap) rfl ?_
  refine wN_end ?_
  refine And.intro trivial (And.intro j.lp ?_)
  intro H4 s4
  have k4 := s4.keep
  have lp4 := s4.lp j.lp
  have hn4 : H4.next = H.next := s4.1
  have nl : ∀ y, y ≠ l → y ∉ [l] := fun y hy => by simpa using hy
  have nw : ∀ y ∈ [l], H0.next ≤ y := fun y hy => by simp at hy; omega
  have hr4 := j.hr.keep k4 nw
  have cb4 := k4.rd j.cb (nl _ (by omega))
  have cn4 := k4.cl j.cn (nl _ (by omega))
  have cr4 := k4.rd j.cr (nl _ (by omega))
  have ct4 := k4.rd j.ct (nl _ (by omega))
  have df4 : H4.t.get (l - 1) = some (.dfr (some [])) := by rw [k4.2 _ (by omega) (nl _ (by omega))]; exact j.dfr
  have kp4 : Keep H0 H4 [] := j.kp.new k4 (fun y hy => .inr (nw y hy))
  have hrx := hr4.ri x hmem
  have hct := cntB_take_in rs b m i
  have hkl : kmin m x.n ≤ x.n := by unfold kmin; omega
  have hlx := hrx.2.1
  -- what is behind, whatever the berry did
  have fin : ∀ H5, Keep H4 H5 [bk + 1] → Cl H5 (bk + 1) [iv (cntB (rs.take (i + 1)) b m)] → Lp Try.prog H5 l .busy none 28 (S35 bk) [14] asg35 body35 (l - 1) ∧ ∀ H6, SetLp H5 l .ready none H6 → true = true ∧ J35 H0 sa n cap rs b m bk rb tb l (i + 1) H6 := by
    intro H5 k5 c5
    have m5 := k5.1
    have lp5 := lp4.keep k5 (by omega) (by simp; omega)
    refine ⟨lp5, fun H6 s6 => ⟨rfl, ?_⟩⟩
    have k6 := s6.keep
    have hn6 : H6.next = H5.next := s6.1
    have nb : ∀ y, y ≠ bk + 1 → y ∉ [bk + 1] := fun y hy => by simpa using hy
    exact ⟨(kp4.new k5 (fun y hy => .inr (by simp at hy; omega))).new k6 (fun y hy => .inr (nw y hy)), (hr4.keep k5 (fun y hy => by simp at hy; omega)).keep k6 nw, k6.rd (k5.rd cb4 (nb _ (by omega))) (nl _ (by omega)), k6.cl c5 (nl _ (by omega)),
      k6.rd (k5.rd cr4 (nb _ (by omega))) (nl _ (by omega)), k6.rd (k5.rd ct4 (nb _ (by omega))) (nl _ (by omega)), s6.lp lp5, by rw [k6.2 _ (by omega) (nl _ (by omega)), k5.2 _ (by omega) (nb _ (by omega))]; exact df4, by omega⟩
  refine wC_sound true _ L2 ?_
  refine wN_seq ?_
  refine wN_mov (v := .slice x.ra (kmin m x.n) x.cap) rfl ?_
  refine wN_len (m := kmin m x.n) rfl ?_
  refine wN_mov (v := iv 0) rfl ?_
  refine wN_end ?_
  refine loop_low (fn := Try.f35) E35_3 N35 L35x3 (fun q : Nat => [(4, pt bk), (7, pt (bk + 1)), (15, .slice x.ra (kmin m x.n) x.cap), (16, iv (kmin m x.n : Int)), (17, iv (q : Int))])
    (fun k q H' => q + k = kmin m x.n ∧ H' = H4 ∧ (x.l.take q).any (fun h => decide (b ≤ h)) = false) (kmin m x.n) 0 ⟨by omega, rfl, rfl⟩ ⟨rfl, rfl, rfl, rfl, rfl, trivial⟩ ?_
  rintro k q L1 ⟨hqk, rfl, hall⟩
  refine wN_seq ?_
  refine wN_c_lss (a := (q : Int)) (b := (kmin m x.n : Int)) rfl rfl ?_
  refine wN_end ?_
  refine And.intro (fun q1 => ?_) (fun q1 => ?_)
  · have q1 : (q : Int) < (kmin m x.n : Int) := of_decide_eq_true q1
    have hq : q < kmin m x.n := by omega
    obtain ⟨z, hz⟩ := get_some (l := x.l) (i := q) (by omega)
    have hs := hrx.1
    rcases hs with ⟨_, h0, _⟩ | ⟨xb, exb, rxb, _⟩
    · omega
    first | refine wN_skip ?_ | skip
    refine wN_seq ?_
    refine wN_idx (b := xb) (o := 0) (k := q) (j := (q : Int)) (by rw [← exb]; rfl) rfl rfl hq ?_
    refine wN_ld (b := xb) (o := 0 + q * 1) (v := iv z) rfl rxb (ints_at hz) ?_
    refine wN_mov (v := iv z) rfl ?_
    refine wN_end ?_
    refine wN_seq ?_
    refine wN_mov (v := iv z) rfl ?_
    refine wN_ld (b := bk) (o := 0) (v := iv b) rfl cb4 rfl ?_
    refine wN_c_geq (a := z) (b := b) rfl rfl ?_
    refine wN_end ?_
    refine And.intro (fun q2 => ?_) (fun q2 => ?_)
    · have q2 : z ≥ b := of_decide_eq_true q2
      refine wN_seq ?_
      refine wN_ld (b := bk + 1) (o := 0) (v := iv (cntB (rs.take i) b m)) rfl cn4.rd rfl ?_
      refine wN_add (a := cntB (rs.take i) b m) (b := 1) rfl rfl ⟨by omega, by omega⟩ ?_
      refine wN_st (b := bk + 1) (o := 0) (v := iv (cntB (rs.take i) b m + 1)) rfl rfl cn4 (by omega) rfl rfl (by simp) ?_
      intro H5 k5 n5 c5
      have hb : bnc x.l b m = true := by rw [bnc_take hlx hm0]; exact any_hit hz hq (decide_eq_true (by omega))
      have c5 : Cl H5 (bk + 1) [iv (cntB (rs.take (i + 1)) b m)] := by rw [cntB_step hx, hb]; exact c5
      refine wN_end ?_
      obtain ⟨f1, f2⟩ := fin H5 k5 c5
      exact And.intro f1 f2
    · have q2 : ¬ z ≥ b := of_decide_eq_false q2
      first | refine wN_skip ?_ | skip
      first | refine wN_reg ?_ | refine wN_blk ?_ | (refine wOps_nil ?_; refine wN_reg ?_)
      refine wN_add (a := (q : Int)) (b := 1) rfl rfl ⟨by omega, by omega⟩ ?_
      refine wN_mov (v := iv ((q : Int) + 1)) rfl ?_
      refine wN_end ?_
      exact ⟨k - 1, q + 1, by omega, ⟨by omega, rfl, by rw [any_step hz, hall]; exact decide_eq_false (by omega)⟩, rfl, rfl, rfl, rfl, rfl, trivial⟩
  · have q1 : ¬ ((q : Int) < (kmin m x.n : Int)) := of_decide_eq_false q1
    have e : q = kmin m x.n := by omega
    have hb : bnc x.l b m = false := by rw [bnc_take hlx hm0, ← e]; exact hall
    obtain ⟨f1, f2⟩ := fin L1 (Keep.refl _ _) (by rw [cntB_step hx, hb]; simpa using cn4)
    exact And.intro f1 f2
set_option maxRecDepth 100000 in
/-- bouncing -/
theorem bounce35_ok {sa : Option Addr} {n cap : Nat} {rs : List Rw} {b m : Int} (hm0 : 0 ≤ m) (hr : Rws H H.next sa n cap rs) (hm : ∀ r ∈ rs, r.n ≤ 1000000) (hn : n ≤ 1000000) (hlo : lo ≤ H.next) :
    ∃ H', FnX Try.prog kn lo 35 [.slice sa n cap, iv b, iv m] H (iv (cntB rs b m)) H' ∧ Keep H H' [] := by
  have key := fnX_lowR (kn := kn) (lo := lo) (H := H) (args := [.slice sa n cap, iv b, iv m]) (Q := fun w H' => w = iv (cntB rs b m) ∧ Keep H H' []) Try.func35 B35 N35 Z35 L35 (by simp) ?_
  · obtain ⟨w, H', h, rfl, q⟩ := key; exact ⟨H', h, q⟩
  intro y hy
  refine TriR.lowR hy ?_
  refine wN_reg ?_
  refine wN_box (v := iv b) rfl ?_
  intro H1 k1 n1 c1
  have c1 : Cl H1 H.next [iv b] := c1
  refine wN_mov (v := iv 0) rfl ?_
  refine wN_end ?_
  intro y hy
  refine TriR.lowS hy ?_
  intro y hy
  refine TriR.lowR hy ?_
  refine wN_reg ?_
  refine wN_alc ?_
  intro H2 k2 n2 c2
  refine wN_st (b := H1.next) (o := 0) (v := iv 0) rfl rfl c2 (by omega) rfl rfl (by simp) ?_
  intro H3 k3 n3 c3
  have c3 : Cl H3 H1.next [iv 0] := c3
  refine wN_end ?_
  intro y hy
  refine TriR.lowR hy ?_
  refine wN_skip ?_
  intro y hy
  refine TriR.lowL hy ?_
  intro z hz
  refine TriR.lowR hz ?_
  refine wN_reg ?_
  refine wN_mov (v := .slice sa n cap) rfl ?_
  refine wN_mov (v := iv m) rfl ?_
  obtain ⟨H4, f4, k4, n4, r4, t4⟩ := first55_ok (kn := kn) (lo := lo) (H := H3) (sa := sa) (n := n) (cap := cap) (m := m) (by omega)
  refine wN_callf (vs := [.slice sa n cap, iv m]) rfl (callX_args f4) ?_
  refine wN_end ?_
  intro y hy
  refine TriR.lowB hy ?_
  rw [E35_1]
  refine TriR.range rfl ?_
  intro H5 k5 n5 hdf hlp
  have e1 : H1.next = H.next + 1 := by omega
  have e3 : H3.next = H.next + 2 := by omega
  have e4 : H4.next = H.next + 4 := by omega
  have hlp : Lp Try.prog H5 (H4.next + 1) .ready none 28 [(4, pt H.next), (7, pt H1.next)] [14] asg35 body35 H4.next := hlp.weak ⟨rfl, rfl, trivial⟩
  rw [e1, e4] at hlp
  rw [e4] at hdf n5
  rw [e3] at r4 t4
  have k25 : Keep H2 H5 [H1.next] := (k3.trans (k4.mono (by simp))).trans (k5.mono (by simp))
  have k15 : Keep H1 H5 [] := k2.new k25 (fun y hy => .inr (by simp at hy; omega))
  have k05 : Keep H H5 [] := k1.trans k15
  have k35 : Keep H3 H5 [] := k4.trans k5
  have j0 : J35 H sa n cap rs b m H.next (H.next + 2) (H.next + 2 + 1) (H.next + 4 + 1) 0 H5 := ⟨k05, hr.keep k05 (by simp), (k15.cl c1 (by simp)).rd, by have := k35.cl c3 (by simp); rw [e1] at this; exact this, k5.rd r4 (by simp), k5.rd t4 (by simp), hlp, hdf, by omega⟩
  obtain ⟨H6, f6, j6⟩ := iter64_ok (kn := kn) (lo := lo) (H := H5) (l := H.next + 4 + 1) (J := J35 H sa n cap rs b m H.next (H.next + 2) (H.next + 2 + 1) (H.next + 4 + 1)) hm0 j0 (fun i H1' j => ⟨j.cr, j.ct, j.hr⟩) hn
    (fun i x H1' hi hx j => round35 hm0 hi hn hx (hm x (List.mem_of_getElem? hx)) hlo (Nat.le_refl _) (by omega) (by omega) (by omega) j)
  refine Exists.intro _ (Exists.intro H6 (And.intro (callX_func rfl (by rw [e4, e3]; simpa using f6)) ?_))
  have lp6 : Lp Try.prog H6 (H4.next + 1) .ready none 28 (S35 H.next) [14] asg35 body35 H4.next := by rw [e4]; exact j6.lp
  refine ⟨.ready, none, _, lp6, by simp, ?_⟩
  intro H7 s7
  have k7 := s7.keep
  have hn7 : H7.next = H6.next := s7.1
  rw [e4] at k7
  have ll := j6.ll
  have nl : ∀ y, y ≠ H.next + 4 + 1 → y ∉ [H.next + 4 + 1] := fun y hy => by simpa using hy
  have d7 : H7.t.get H4.next = some (.dfr (some [])) := by rw [e4, k7.2 _ (by omega) (nl _ (by omega))]; exact j6.dfr
  have c7 := k7.cl j6.cn (nl _ (by omega))
  rw [List.take_of_length_le (by have := hr.rl; omega), ← e1] at c7
  have kp7 : Keep H H7 [] := j6.kp.new k7 (fun y hy => .inr (by simp at hy; omega))
  refine wN_seq ?_
  refine wN_ld (b := H1.next) (o := 0) (v := iv (cntB rs b m)) rfl c7.rd rfl ?_
  refine wN_mov (v := iv (cntB rs b m)) rfl ?_
  refine wN_end ?_
  refine And.intro trivial (Or.inr ⟨H4.next, rfl, by omega, d7, fun H8 hn8 k8 => ?_⟩)
  exact ⟨_, rfl, rfl, kp7.new k8 (fun y hy => .inr (by simp at hy; omega))⟩
theorem Rws.upTo {H : Hp} {f f' : Nat} {sa : Option Addr} {n cap : Nat} {rs : List Rw} (h : Rws H f sa n cap rs) (hf : f ≤ f') : Rws H f' sa n cap rs where
  r := h.r.imp id fun ⟨b, o, cs, e, r, hb, q⟩ => ⟨b, o, cs, e, r, by omega, q⟩
  rl := h.rl
  ri := fun r hq => by
    obtain ⟨h1, h2, h3⟩ := h.ri r hq
    exact ⟨h1, h2, fun x e => ⟨by have := (h3 x e).1; omega, (h3 x e).2⟩⟩
/-- Bounce -/
theorem bounce19_ok {sa : Option Addr} {n cap f : Nat} {rs : List Rw} {b m : Int} (hr : Rws H f sa n cap rs) (hf : f ≤ H.next) (hm : ∀ r ∈ rs, r.n ≤ 1000000) (hn : n ≤ 1000000) (hlo : lo ≤ H.next) :
    ∃ H', FnX Try.prog kn lo 19 [.slice sa n cap, iv b, iv m] H (.tuple #[iv (boN rs b m), iv (boE rs b m)]) H' ∧ Keep H H' [] := by
  have key := fnX_low (kn := kn) (lo := lo) (H := H) (args := [.slice sa n cap, iv b, iv m]) (Q := fun w H' => w = (.tuple #[iv (boN rs b m), iv (boE rs b m)]) ∧ Keep H H' []) Try.func19 B19 N19 Z19 L19 (by simp) ?_
  · obtain ⟨w, H', h, rfl, q⟩ := key; exact ⟨H', h, q⟩
  have hk := Keep.refl H []
  refine wN_seq ?_
  refine wN_mov (v := iv 0) rfl ?_
  refine wN_mov (v := iv 0) rfl ?_
  refine wN_end ?_
  refine wN_seq ?_
  refine wN_mov (v := .slice sa n cap) rfl ?_
  refine wN_callB rfl (valid34_ok hr hm) ?_
  intro tH1 H1 hH1 kH1
  have mH1 := kH1.1
  have hk := hk.trans kH1
  have hr := hr.keep kH1 (by simp)
  cases tH1
  · have hvd : rwsOk rs = false := hH1
    refine wN_pur (v := .bool true) rfl rfl ?_
    refine wN_end ?_
    refine condT ?_
    refine wN_seq ?_
    refine wN_mov (v := iv 0) rfl ?_
    refine wN_mov (v := iv 1) rfl ?_
    refine wN_end ?_
    have e1 : boE rs b m = 1 := by unfold boE; rw [hvd]; rfl
    have e2 : boN rs b m = 0 := by unfold boN; rw [e1]; rfl
    exact And.intro trivial (Exists.intro _ (And.intro rfl ⟨by rw [e1, e2]; rfl, hk⟩))
  · have hvd : rwsOk rs = true := hH1
    refine wN_pur (v := .bool false) rfl rfl ?_
    refine wN_end ?_
    refine condF ?_
    first | refine wN_skip ?_ | skip
    refine wN_seq ?_
    refine wN_mov (v := iv b) rfl ?_
    refine wN_callB rfl (isw_ok) ?_
    intro tH2 H2 hH2 kH2
    have mH2 := kH2.1
    have hk := hk.trans kH2
    have hr := hr.keep kH2 (by simp)
    cases tH2
    · have fhH2 := isw_f hH2
      refine wN_pur (v := .bool true) rfl rfl ?_
      refine wN_mov (v := .bool true) rfl ?_
      refine wN_gs rfl ?_
      refine wN_gs rfl ?_
      refine wN_gs rfl ?_
      refine wN_pur (v := .bool true) rfl rfl ?_
      refine wN_end ?_
      refine condT ?_
      refine wN_seq ?_
      refine wN_mov (v := iv 0) rfl ?_
      refine wN_mov (v := iv 2) rfl ?_
      refine wN_end ?_
      have e1 : boE rs b m = 2 := by unfold boE; rw [if_pos hvd, if_neg (by simp only [isw, Bool.and_eq_true, Bool.and_eq_false_iff, Bool.or_eq_true, Bool.or_eq_false_iff, Bool.not_eq_true', Bool.not_eq_false', decide_eq_true_eq, decide_eq_false_iff_not]; omega)]
      have e2 : boN rs b m = 0 := by unfold boN; rw [e1]; rfl
      exact And.intro trivial (Exists.intro _ (And.intro rfl ⟨by rw [e1, e2]; rfl, hk⟩))
    · have fhH2 := isw_t hH2
      refine wN_pur (v := .bool false) rfl rfl ?_
      refine wN_mov (v := .bool false) rfl ?_
      refine wN_g rfl (wN_mov (v := iv m) rfl ?_)
      refine wN_g rfl (wN_callB rfl (isw_ok) ?_)
      intro tH3 H3 hH3 kH3
      have mH3 := kH3.1
      have hk := hk.trans kH3
      have hr := hr.keep kH3 (by simp)
      cases tH3
      · have fhH3 := isw_f hH3
        refine wN_g rfl (wN_pur (v := .bool true) rfl rfl ?_)
        refine wN_pur (v := .bool true) rfl rfl ?_
        refine wN_end ?_
        refine condT ?_
        refine wN_seq ?_
        refine wN_mov (v := iv 0) rfl ?_
        refine wN_mov (v := iv 2) rfl ?_
        refine wN_end ?_
        have e1 : boE rs b m = 2 := by unfold boE; rw [if_pos hvd, if_neg (by simp only [isw, Bool.and_eq_true, Bool.and_eq_false_iff, Bool.or_eq_true, Bool.or_eq_false_iff, Bool.not_eq_true', Bool.not_eq_false', decide_eq_true_eq, decide_eq_false_iff_not]; omega)]
        have e2 : boN rs b m = 0 := by unfold boN; rw [e1]; rfl
        exact And.intro trivial (Exists.intro _ (And.intro rfl ⟨by rw [e1, e2]; rfl, hk⟩))
      · have fhH3 := isw_t hH3
        refine wN_g rfl (wN_pur (v := .bool false) rfl rfl ?_)
        refine wN_pur (v := .bool false) rfl rfl ?_
        refine wN_end ?_
        refine condF ?_
        first | refine wN_skip ?_ | skip
        refine wN_seq ?_
        refine wN_mov (v := .slice sa n cap) rfl ?_
        refine wN_mov (v := iv b) rfl ?_
        refine wN_mov (v := iv m) rfl ?_
        obtain ⟨H4, fH4, kH4⟩ := bounce35_ok (kn := kn) (lo := lo) (H := H3) (b := b) (m := m) (by omega) (hr.upTo (by omega)) hm hn (by omega)
        refine wN_callf (vs := [.slice sa n cap, iv b, iv m]) rfl (callX_args fH4) ?_
        have mH4 := kH4.1
        have hk := hk.trans kH4
        have hr := hr.keep kH4 (by simp)
        refine wN_mov (v := iv (cntB rs b m)) rfl ?_
        refine wN_mov (v := iv 0) rfl ?_
        refine wN_end ?_
        have e1 : boE rs b m = 0 := by unfold boE; rw [if_pos hvd, if_pos (by simp only [isw, Bool.and_eq_true, Bool.and_eq_false_iff, Bool.or_eq_true, Bool.or_eq_false_iff, Bool.not_eq_true', Bool.not_eq_false', decide_eq_true_eq, decide_eq_false_iff_not]; omega)]
        have e2 : boN rs b m = cntB rs b m := by unfold boN; rw [e1]; rfl
        exact And.intro trivial (Exists.intro _ (And.intro rfl ⟨by rw [e1, e2]; rfl, hk⟩))
end
end Go.Ax

/-! What 'low' makes of functions of station (written by program). -/
namespace Go.Ax
open Go Go.RowKit Go.Proofs
noncomputable def R3 : RC := (.seq (.reg [⟨(some 6), none, (.mov (.const (.bool false)))⟩])
  (.seq (.seq (.reg [⟨(some 15), none, (.mov (.tmp 0))⟩, ⟨(some 16), none, (.len (.tmp 15))⟩, ⟨(some 17), none, (.cmp .gtr (.tmp 16) (.const (.int .i64 70)))⟩])
  (.cond (.tmp 17) (.seq (.reg [⟨(some 18), none, (.call ⟨(.value (.func 10)), (List.toArray []), (List.toArray [])⟩ true)⟩, ⟨(some 6), none, (.mov (.tmp 18))⟩])
  .ret)
  .skip))
  (.seq (.reg [⟨(some 20), none, (.mov (.tmp 0))⟩, ⟨(some 21), none, (.mov (.tmp 1))⟩, ⟨(some 22), none, (.call ⟨(.value (.func 11)), (List.toArray [(.tmp 20), (.tmp 21)]), (List.toArray [22, 3])⟩ true)⟩, ⟨(some 19), none, (.mov (.tmp 22))⟩, ⟨(some 23), none, (.pur ⟨(some 23), (.extract (.tmp 19) 0), 24, "", (List.toArray []), none⟩)⟩, ⟨(some 24), none, (.pur ⟨(some 24), (.extract (.tmp 19) 1), 25, "", (List.toArray []), none⟩)⟩, ⟨(some 7), none, (.mov (.tmp 23))⟩, ⟨(some 8), none, (.mov (.tmp 24))⟩])
  (.seq (.reg [⟨(some 26), none, (.mov (.tmp 0))⟩, ⟨(some 27), none, (.mov (.tmp 1))⟩, ⟨(some 28), none, (.call ⟨(.value (.func 12)), (List.toArray [(.tmp 26), (.tmp 27)]), (List.toArray [22, 3])⟩ true)⟩, ⟨(some 25), none, (.mov (.tmp 28))⟩, ⟨(some 29), none, (.pur ⟨(some 29), (.extract (.tmp 25) 0), 24, "", (List.toArray []), none⟩)⟩, ⟨(some 30), none, (.pur ⟨(some 30), (.extract (.tmp 25) 1), 25, "", (List.toArray []), none⟩)⟩, ⟨(some 9), none, (.mov (.tmp 29))⟩, ⟨(some 10), none, (.mov (.tmp 30))⟩])
  (.seq (.reg [⟨(some 32), none, (.mov (.tmp 0))⟩, ⟨(some 33), none, (.mov (.tmp 2))⟩, ⟨(some 34), none, (.call ⟨(.value (.func 13)), (List.toArray [(.tmp 32), (.tmp 33)]), (List.toArray [22, 3])⟩ true)⟩, ⟨(some 31), none, (.mov (.tmp 34))⟩, ⟨(some 35), none, (.pur ⟨(some 35), (.extract (.tmp 31) 0), 3, "", (List.toArray []), none⟩)⟩, ⟨(some 36), none, (.pur ⟨(some 36), (.extract (.tmp 31) 1), 25, "", (List.toArray []), none⟩)⟩, ⟨(some 11), none, (.mov (.tmp 35))⟩, ⟨(some 12), none, (.mov (.tmp 36))⟩])
  (.seq (.reg [⟨(some 38), none, (.mov (.tmp 0))⟩, ⟨(some 39), none, (.mov (.tmp 2))⟩, ⟨(some 40), none, (.call ⟨(.value (.func 14)), (List.toArray [(.tmp 38), (.tmp 39)]), (List.toArray [22, 3])⟩ true)⟩, ⟨(some 37), none, (.mov (.tmp 40))⟩, ⟨(some 41), none, (.pur ⟨(some 41), (.extract (.tmp 37) 0), 3, "", (List.toArray []), none⟩)⟩, ⟨(some 42), none, (.pur ⟨(some 42), (.extract (.tmp 37) 1), 25, "", (List.toArray []), none⟩)⟩, ⟨(some 13), none, (.mov (.tmp 41))⟩, ⟨(some 14), none, (.mov (.tmp 42))⟩])
  (.seq (.reg [⟨(some 43), none, (.mov (.tmp 7))⟩, ⟨(some 44), none, (.mov (.tmp 9))⟩, ⟨(some 45), none, (.call ⟨(.value (.func 15)), (List.toArray [(.tmp 43), (.tmp 44)]), (List.toArray [24, 24])⟩ true)⟩, ⟨(some 46), none, (.mov (.tmp 45))⟩, ⟨(some 47), (some (46, true)), (.mov (.tmp 8))⟩, ⟨(some 48), (some (46, true)), (.mov (.tmp 10))⟩, ⟨(some 49), (some (46, true)), (.cmpb .eql (.tmp 47) (.tmp 48))⟩, ⟨(some 50), none, (.pur ⟨(some 50), (.pick (.tmp 46) (.tmp 49) (.const (.bool false))), 4, "", (List.toArray []), none⟩)⟩, ⟨(some 51), none, (.mov (.tmp 50))⟩, ⟨(some 52), (some (51, true)), (.mov (.tmp 11))⟩, ⟨(some 53), (some (51, true)), (.mov (.tmp 13))⟩, ⟨(some 54), (some (51, true)), (.cmpb .eql (.tmp 52) (.tmp 53))⟩, ⟨(some 55), none, (.pur ⟨(some 55), (.pick (.tmp 51) (.tmp 54) (.const (.bool false))), 4, "", (List.toArray []), none⟩)⟩, ⟨(some 56), none, (.mov (.tmp 55))⟩, ⟨(some 57), (some (56, true)), (.mov (.tmp 12))⟩, ⟨(some 58), (some (56, true)), (.mov (.tmp 14))⟩, ⟨(some 59), (some (56, true)), (.cmpb .eql (.tmp 57) (.tmp 58))⟩, ⟨(some 60), none, (.pur ⟨(some 60), (.pick (.tmp 56) (.tmp 59) (.const (.bool false))), 4, "", (List.toArray []), none⟩)⟩, ⟨(some 61), none, (.mov (.tmp 60))⟩, ⟨(some 62), (some (61, true)), (.call ⟨(.value (.func 10)), (List.toArray []), (List.toArray [])⟩ true)⟩, ⟨(some 63), none, (.pur ⟨(some 63), (.pick (.tmp 61) (.tmp 62) (.const (.bool false))), 4, "", (List.toArray []), none⟩)⟩, ⟨(some 6), none, (.mov (.tmp 63))⟩])
  .ret)))))))
theorem L3 : low Try.prog Try.f3.ntmps (at_ Try.f3 []) = some R3 := by kernel_rfl
theorem N6 : Try.f6.ntmps = 204 := by kernel_rfl
theorem Z6 : Try.f6.results.toList = ((List.toArray [(.tmp 6)]) : Array ResultVar).toList := by kernel_rfl
theorem B6 : Try.f6.body = some (at_ Try.f6 []) := by kernel_rfl
noncomputable def R6 : RC := (.seq (.reg [⟨(some 6), none, (.mov (.const (.bool false)))⟩])
  (.seq (.seq (.reg [⟨(some 21), none, (.mov (.tmp 0))⟩, ⟨(some 22), none, (.len (.tmp 21))⟩, ⟨(some 23), none, (.cmp .gtr (.tmp 22) (.const (.int .i64 64)))⟩])
  (.cond (.tmp 23) (.seq (.reg [⟨(some 24), none, (.call ⟨(.value (.func 10)), (List.toArray []), (List.toArray [])⟩ true)⟩, ⟨(some 6), none, (.mov (.tmp 24))⟩])
  .ret)
  .skip))
  (.seq (.reg [⟨(some 26), none, (.mov (.tmp 0))⟩, ⟨(some 27), none, (.mov (.tmp 1))⟩, ⟨(some 28), none, (.call ⟨(.value (.func 11)), (List.toArray [(.tmp 26), (.tmp 27)]), (List.toArray [22, 3])⟩ true)⟩, ⟨(some 25), none, (.mov (.tmp 28))⟩, ⟨(some 29), none, (.pur ⟨(some 29), (.extract (.tmp 25) 0), 24, "", (List.toArray []), none⟩)⟩, ⟨(some 30), none, (.pur ⟨(some 30), (.extract (.tmp 25) 1), 25, "", (List.toArray []), none⟩)⟩, ⟨(some 7), none, (.mov (.tmp 29))⟩, ⟨(some 8), none, (.mov (.tmp 30))⟩])
  (.seq (.reg [⟨(some 32), none, (.mov (.tmp 0))⟩, ⟨(some 33), none, (.mov (.tmp 2))⟩, ⟨(some 34), none, (.call ⟨(.value (.func 13)), (List.toArray [(.tmp 32), (.tmp 33)]), (List.toArray [22, 3])⟩ true)⟩, ⟨(some 31), none, (.mov (.tmp 34))⟩, ⟨(some 35), none, (.pur ⟨(some 35), (.extract (.tmp 31) 0), 3, "", (List.toArray []), none⟩)⟩, ⟨(some 36), none, (.pur ⟨(some 36), (.extract (.tmp 31) 1), 25, "", (List.toArray []), none⟩)⟩, ⟨(some 9), none, (.mov (.tmp 35))⟩, ⟨(some 10), none, (.mov (.tmp 36))⟩])
  (.seq (.seq (.reg [⟨(some 37), none, (.mov (.tmp 8))⟩, ⟨(some 38), none, (.cmp .eql (.tmp 37) (.const (.int .i64 0)))⟩])
  (.cond (.tmp 38) (.seq (.reg [⟨(some 40), none, (.mov (.tmp 0))⟩, ⟨(some 41), none, (.mov (.tmp 1))⟩, ⟨(some 42), none, (.ari .add (.tmp 41) (.const (.int .i64 1)))⟩, ⟨(some 43), none, (.mm true (.tmp 42) (.const (.int .i64 8)))⟩, ⟨(some 44), none, (.call ⟨(.value (.func 11)), (List.toArray [(.tmp 40), (.tmp 43)]), (List.toArray [22, 3])⟩ true)⟩, ⟨(some 39), none, (.mov (.tmp 44))⟩, ⟨(some 45), none, (.pur ⟨(some 45), (.extract (.tmp 39) 0), 24, "", (List.toArray []), none⟩)⟩, ⟨(some 46), none, (.pur ⟨(some 46), (.extract (.tmp 39) 1), 25, "", (List.toArray []), none⟩)⟩, ⟨(some 11), none, (.mov (.tmp 45))⟩, ⟨(some 12), none, (.mov (.tmp 46))⟩])
  (.seq (.seq (.reg [⟨(some 47), none, (.mov (.tmp 12))⟩, ⟨(some 48), none, (.cmpb .neq (.tmp 47) (.const (.int .i64 0)))⟩, ⟨(some 49), none, (.mov (.tmp 48))⟩, ⟨(some 50), (some (49, false)), (.mov (.tmp 7))⟩, ⟨(some 51), (some (49, false)), (.len (.tmp 50))⟩, ⟨(some 52), (some (49, false)), (.mov (.tmp 0))⟩, ⟨(some 53), (some (49, false)), (.len (.tmp 52))⟩, ⟨(some 54), (some (49, false)), (.cmpb .neq (.tmp 51) (.tmp 53))⟩, ⟨(some 55), none, (.pur ⟨(some 55), (.pick (.tmp 49) (.const (.bool true)) (.tmp 54)), 4, "", (List.toArray []), none⟩)⟩, ⟨(some 56), none, (.mov (.tmp 55))⟩, ⟨(some 57), (some (56, false)), (.mov (.tmp 11))⟩, ⟨(some 58), (some (56, false)), (.len (.tmp 57))⟩, ⟨(some 59), (some (56, false)), (.mov (.tmp 0))⟩, ⟨(some 60), (some (56, false)), (.len (.tmp 59))⟩, ⟨(some 61), (some (56, false)), (.cmpb .neq (.tmp 58) (.tmp 60))⟩, ⟨(some 62), none, (.pur ⟨(some 62), (.pick (.tmp 56) (.const (.bool true)) (.tmp 61)), 4, "", (List.toArray []), none⟩)⟩])
  (.cond (.tmp 62) (.seq (.reg [⟨(some 6), none, (.mov (.const (.bool false)))⟩])
  .ret)
  .skip))
  (.seq (.reg [⟨(some 13), none, (.mov (.const (.int .i64 0)))⟩])
  (.block 0 (.other (at_ Try.f6 [1, 1, 1, 1, 0, 1, 0, 1, 1, 1, 0]))))))
  .skip))
  (.seq (.seq (.reg [⟨(some 142), none, (.mov (.tmp 10))⟩, ⟨(some 143), none, (.cmpb .eql (.tmp 142) (.const (.int .i64 1)))⟩, ⟨(some 144), none, (.mov (.tmp 143))⟩, ⟨(some 145), (some (144, false)), (.mov (.tmp 10))⟩, ⟨(some 146), (some (144, false)), (.cmpb .eql (.tmp 145) (.const (.int .i64 2)))⟩, ⟨(some 147), none, (.pur ⟨(some 147), (.pick (.tmp 144) (.const (.bool true)) (.tmp 146)), 4, "", (List.toArray []), none⟩)⟩])
  (.cond (.tmp 147) (.seq (.reg [⟨(some 148), none, (.mov (.tmp 9))⟩, ⟨(some 149), none, (.cmpb .eql (.tmp 148) (.const (.int .i64 0)))⟩, ⟨(some 150), none, (.mov (.tmp 149))⟩, ⟨(some 151), (some (150, true)), (.call ⟨(.value (.func 10)), (List.toArray []), (List.toArray [])⟩ true)⟩, ⟨(some 152), none, (.pur ⟨(some 152), (.pick (.tmp 150) (.tmp 151) (.const (.bool false))), 4, "", (List.toArray []), none⟩)⟩, ⟨(some 6), none, (.mov (.tmp 152))⟩])
  .ret)
  .skip))
  (.seq (.seq (.reg [⟨(some 16), none, (.mov (.const (.int .i64 1)))⟩])
  (.block 2 (.other (at_ Try.f6 [1, 1, 1, 1, 1, 1, 0, 1, 0]))))
  (.seq (.reg [⟨(some 191), none, (.mov (.tmp 10))⟩, ⟨(some 192), none, (.cmpb .eql (.tmp 191) (.const (.int .i64 0)))⟩, ⟨(some 193), none, (.mov (.tmp 192))⟩, ⟨(some 194), (some (193, false)), (.mov (.tmp 10))⟩, ⟨(some 195), (some (193, false)), (.cmpb .eql (.tmp 194) (.const (.int .i64 4)))⟩, ⟨(some 196), (some (193, false)), (.mov (.tmp 195))⟩, ⟨(some 197), (some (196, true)), (.mov (.tmp 9))⟩, ⟨(some 198), (some (196, true)), (.cmpb .eql (.tmp 197) (.const (.int .i64 0)))⟩, ⟨(some 199), (some (193, false)), (.pur ⟨(some 199), (.pick (.tmp 196) (.tmp 198) (.const (.bool false))), 4, "", (List.toArray []), none⟩)⟩, ⟨(some 200), none, (.pur ⟨(some 200), (.pick (.tmp 193) (.const (.bool true)) (.tmp 199)), 4, "", (List.toArray []), none⟩)⟩, ⟨(some 201), none, (.mov (.tmp 200))⟩, ⟨(some 202), (some (201, true)), (.call ⟨(.value (.func 10)), (List.toArray []), (List.toArray [])⟩ true)⟩, ⟨(some 203), none, (.pur ⟨(some 203), (.pick (.tmp 201) (.tmp 202) (.const (.bool false))), 4, "", (List.toArray []), none⟩)⟩, ⟨(some 6), none, (.mov (.tmp 203))⟩])
  .ret))))))))
theorem L6 : low Try.prog Try.f6.ntmps (at_ Try.f6 []) = some R6 := by kernel_rfl
theorem E6_1 : at_ Try.f6 [1, 1, 1, 1, 0, 1, 0, 1, 1, 1, 0] = .loop (at_ Try.f6 [1, 1, 1, 1, 0, 1, 0, 1, 1, 1, 0, 0]) := by kernel_rfl
noncomputable def R6x1 : RC := (.seq (.seq (.reg [⟨(some 63), none, (.mov (.tmp 13))⟩, ⟨(some 64), none, (.mov (.tmp 0))⟩, ⟨(some 65), none, (.len (.tmp 64))⟩, ⟨(some 66), none, (.cmp .lss (.tmp 63) (.tmp 65))⟩])
  (.cond (.tmp 66) .skip
  (.exit 0)))
  (.seq (.block 1 (.seq (.dreg [⟨(some 69), none, (.mov (.tmp 7))⟩, ⟨(some 70), none, (.mov (.tmp 13))⟩, ⟨(some 71), none, (.idx (.tmp 69) (.tmp 70) 6)⟩, ⟨(some 72), none, (.lda (.tmp 71) 6)⟩, ⟨(some 73), none, (.mov (.tmp 11))⟩, ⟨(some 74), none, (.mov (.tmp 13))⟩, ⟨(some 75), none, (.idx (.tmp 73) (.tmp 74) 6)⟩, ⟨(some 76), none, (.lda (.tmp 75) 6)⟩, ⟨(some 14), none, (.alc 52 [(.int .i64 0), (.int .i64 0), (.int .i64 0), (.int .i64 0), (.int .i64 0), (.int .i64 0)])⟩, ⟨(some 15), none, (.alc 52 [(.int .i64 0), (.int .i64 0), (.int .i64 0), (.int .i64 0), (.int .i64 0), (.int .i64 0)])⟩, ⟨none, none, (.sta (.tmp 14) (.tmp 72) 6)⟩, ⟨none, none, (.sta (.tmp 15) (.tmp 76) 6)⟩] [2047, 783, 0, 0, 112, 48, 0, 0, 7, 3, 0, 0])
  (.seq (.seq (.reg [⟨(some 77), none, (.addo (.tmp 14) 0)⟩, ⟨(some 78), none, (.addo (.tmp 77) 0)⟩, ⟨(some 79), none, (.ld (.tmp 78) 1)⟩, ⟨(some 80), none, (.addo (.tmp 14) 0)⟩, ⟨(some 81), none, (.addo (.tmp 80) 1)⟩, ⟨(some 82), none, (.ld (.tmp 81) 1)⟩, ⟨(some 83), none, (.cmpb .gtr (.tmp 79) (.tmp 82))⟩, ⟨(some 84), none, (.mov (.tmp 83))⟩, ⟨(some 85), (some (84, false)), (.addo (.tmp 14) 2)⟩, ⟨(some 86), (some (84, false)), (.addo (.tmp 85) 0)⟩, ⟨(some 87), (some (84, false)), (.ld (.tmp 86) 1)⟩, ⟨(some 88), (some (84, false)), (.addo (.tmp 14) 2)⟩, ⟨(some 89), (some (84, false)), (.addo (.tmp 88) 1)⟩, ⟨(some 90), (some (84, false)), (.ld (.tmp 89) 1)⟩, ⟨(some 91), (some (84, false)), (.cmpb .gtr (.tmp 87) (.tmp 90))⟩, ⟨(some 92), none, (.pur ⟨(some 92), (.pick (.tmp 84) (.const (.bool true)) (.tmp 91)), 4, "", (List.toArray []), none⟩)⟩, ⟨(some 93), none, (.mov (.tmp 92))⟩, ⟨(some 94), (some (93, false)), (.addo (.tmp 14) 4)⟩, ⟨(some 95), (some (93, false)), (.addo (.tmp 94) 0)⟩, ⟨(some 96), (some (93, false)), (.ld (.tmp 95) 1)⟩, ⟨(some 97), (some (93, false)), (.addo (.tmp 14) 4)⟩, ⟨(some 98), (some (93, false)), (.addo (.tmp 97) 1)⟩, ⟨(some 99), (some (93, false)), (.ld (.tmp 98) 1)⟩, ⟨(some 100), (some (93, false)), (.cmpb .gtr (.tmp 96) (.tmp 99))⟩, ⟨(some 101), none, (.pur ⟨(some 101), (.pick (.tmp 93) (.const (.bool true)) (.tmp 100)), 4, "", (List.toArray []), none⟩)⟩, ⟨(some 102), none, (.mov (.tmp 101))⟩, ⟨(some 103), (some (102, false)), (.addo (.tmp 14) 4)⟩, ⟨(some 104), (some (102, false)), (.addo (.tmp 103) 0)⟩, ⟨(some 105), (some (102, false)), (.ld (.tmp 104) 1)⟩, ⟨(some 106), (some (102, false)), (.cmpb .lss (.tmp 105) (.const (.int .i64 0)))⟩, ⟨(some 107), none, (.pur ⟨(some 107), (.pick (.tmp 102) (.const (.bool true)) (.tmp 106)), 4, "", (List.toArray []), none⟩)⟩])
  (.cond (.tmp 107) (.seq (.reg [⟨(some 6), none, (.mov (.const (.bool false)))⟩])
  .ret)
  .skip))
  (.seq (.reg [⟨(some 108), none, (.addo (.tmp 15) 0)⟩, ⟨(some 109), none, (.addo (.tmp 108) 0)⟩, ⟨(some 110), none, (.ld (.tmp 109) 1)⟩, ⟨(some 111), none, (.addo (.tmp 14) 0)⟩, ⟨(some 112), none, (.addo (.tmp 111) 0)⟩, ⟨(some 113), none, (.ld (.tmp 112) 1)⟩, ⟨(some 114), none, (.cmpb .gtr (.tmp 110) (.tmp 113))⟩, ⟨(some 115), none, (.mov (.tmp 114))⟩, ⟨(some 116), (some (115, false)), (.addo (.tmp 15) 0)⟩, ⟨(some 117), (some (115, false)), (.addo (.tmp 116) 1)⟩, ⟨(some 118), (some (115, false)), (.ld (.tmp 117) 1)⟩, ⟨(some 119), (some (115, false)), (.addo (.tmp 14) 0)⟩, ⟨(some 120), (some (115, false)), (.addo (.tmp 119) 1)⟩, ⟨(some 121), (some (115, false)), (.ld (.tmp 120) 1)⟩, ⟨(some 122), (some (115, false)), (.cmpb .gtr (.tmp 118) (.tmp 121))⟩, ⟨(some 123), none, (.pur ⟨(some 123), (.pick (.tmp 115) (.const (.bool true)) (.tmp 122)), 4, "", (List.toArray []), none⟩)⟩, ⟨(some 124), none, (.mov (.tmp 123))⟩, ⟨(some 125), (some (124, false)), (.addo (.tmp 15) 4)⟩, ⟨(some 126), (some (124, false)), (.addo (.tmp 125) 0)⟩, ⟨(some 127), (some (124, false)), (.ld (.tmp 126) 1)⟩, ⟨(some 128), (some (124, false)), (.addo (.tmp 14) 4)⟩, ⟨(some 129), (some (124, false)), (.addo (.tmp 128) 0)⟩, ⟨(some 130), (some (124, false)), (.ld (.tmp 129) 1)⟩, ⟨(some 131), (some (124, false)), (.cmpb .gtr (.tmp 127) (.tmp 130))⟩, ⟨(some 132), none, (.pur ⟨(some 132), (.pick (.tmp 124) (.const (.bool true)) (.tmp 131)), 4, "", (List.toArray []), none⟩)⟩, ⟨(some 133), none, (.mov (.tmp 132))⟩, ⟨(some 134), (some (133, false)), (.addo (.tmp 15) 4)⟩, ⟨(some 135), (some (133, false)), (.addo (.tmp 134) 1)⟩, ⟨(some 136), (some (133, false)), (.ld (.tmp 135) 1)⟩, ⟨(some 137), (some (133, false)), (.addo (.tmp 14) 4)⟩, ⟨(some 138), (some (133, false)), (.addo (.tmp 137) 1)⟩, ⟨(some 139), (some (133, false)), (.ld (.tmp 138) 1)⟩, ⟨(some 140), (some (133, false)), (.cmpb .gtr (.tmp 136) (.tmp 139))⟩, ⟨(some 141), none, (.pur ⟨(some 141), (.pick (.tmp 133) (.const (.bool true)) (.tmp 140)), 4, "", (List.toArray []), none⟩)⟩])
  (.cond (.tmp 141) (.seq (.reg [⟨(some 6), none, (.mov (.const (.bool false)))⟩])
  .ret)
  .skip)))))
  (.reg [⟨(some 67), none, (.mov (.tmp 13))⟩, ⟨(some 68), none, (.ari .add (.tmp 67) (.const (.int .i64 1)))⟩, ⟨(some 13), none, (.mov (.tmp 68))⟩])))
theorem L6x1 : low Try.prog Try.f6.ntmps (at_ Try.f6 [1, 1, 1, 1, 0, 1, 0, 1, 1, 1, 0, 0]) = some R6x1 := by kernel_rfl
theorem E6_2 : at_ Try.f6 [1, 1, 1, 1, 1, 1, 0, 1, 0] = .loop (at_ Try.f6 [1, 1, 1, 1, 1, 1, 0, 1, 0, 0]) := by kernel_rfl
noncomputable def R6x2 : RC := (.seq (.seq (.reg [⟨(some 153), none, (.mov (.tmp 16))⟩, ⟨(some 154), none, (.cmp .leq (.tmp 153) (.const (.int .i64 8)))⟩])
  (.cond (.tmp 154) .skip
  (.exit 2)))
  (.seq (.block 3 (.seq (.reg [⟨(some 158), none, (.mov (.tmp 0))⟩, ⟨(some 159), none, (.mov (.tmp 16))⟩, ⟨(some 160), none, (.call ⟨(.value (.func 11)), (List.toArray [(.tmp 158), (.tmp 159)]), (List.toArray [22, 3])⟩ true)⟩, ⟨(some 157), none, (.mov (.tmp 160))⟩, ⟨(some 161), none, (.pur ⟨(some 161), (.extract (.tmp 157) 0), 24, "", (List.toArray []), none⟩)⟩, ⟨(some 162), none, (.pur ⟨(some 162), (.extract (.tmp 157) 1), 25, "", (List.toArray []), none⟩)⟩, ⟨(some 17), none, (.mov (.tmp 161))⟩, ⟨(some 18), none, (.mov (.tmp 162))⟩])
  (.seq (.seq (.reg [⟨(some 163), none, (.mov (.tmp 18))⟩, ⟨(some 164), none, (.cmp .neq (.tmp 163) (.const (.int .i64 0)))⟩])
  (.cond (.tmp 164) (.seq (.reg [⟨(some 6), none, (.mov (.const (.bool false)))⟩])
  .ret)
  .skip))
  (.seq (.reg [⟨(some 19), none, (.mov (.const (.bool true)))⟩])
  (.seq (.seq (.reg [⟨(some 20), none, (.mov (.const (.int .i64 0)))⟩])
  (.block 4 (.other (at_ Try.f6 [1, 1, 1, 1, 1, 1, 0, 1, 0, 0, 1, 0, 0, 1, 1, 1, 0, 1, 0]))))
  (.seq (.reg [⟨(some 182), none, (.mov (.tmp 19))⟩, ⟨(some 183), none, (.mov (.tmp 10))⟩, ⟨(some 184), none, (.cmpb .eql (.tmp 183) (.const (.int .i64 0)))⟩, ⟨(some 185), none, (.mov (.tmp 184))⟩, ⟨(some 186), (some (185, true)), (.mov (.tmp 16))⟩, ⟨(some 187), (some (185, true)), (.mov (.tmp 9))⟩, ⟨(some 188), (some (185, true)), (.cmpb .geq (.tmp 186) (.tmp 187))⟩, ⟨(some 189), none, (.pur ⟨(some 189), (.pick (.tmp 185) (.tmp 188) (.const (.bool false))), 4, "", (List.toArray []), none⟩)⟩, ⟨(some 190), none, (.pur ⟨(some 190), (.binOp .neq 4 (.tmp 182) (.tmp 189) 4), 4, "", (List.toArray []), none⟩)⟩])
  (.cond (.tmp 190) (.seq (.reg [⟨(some 6), none, (.mov (.const (.bool false)))⟩])
  .ret)
  .skip)))))))
  (.reg [⟨(some 155), none, (.mov (.tmp 16))⟩, ⟨(some 156), none, (.ari .add (.tmp 155) (.const (.int .i64 1)))⟩, ⟨(some 16), none, (.mov (.tmp 156))⟩])))
theorem L6x2 : low Try.prog Try.f6.ntmps (at_ Try.f6 [1, 1, 1, 1, 1, 1, 0, 1, 0, 0]) = some R6x2 := by kernel_rfl
theorem E6_3 : at_ Try.f6 [1, 1, 1, 1, 1, 1, 0, 1, 0, 0, 1, 0, 0, 1, 1, 1, 0, 1, 0] = .loop (at_ Try.f6 [1, 1, 1, 1, 1, 1, 0, 1, 0, 0, 1, 0, 0, 1, 1, 1, 0, 1, 0, 0]) := by kernel_rfl
noncomputable def R6x3 : RC := (.seq (.seq (.reg [⟨(some 165), none, (.mov (.tmp 20))⟩, ⟨(some 166), none, (.mov (.tmp 17))⟩, ⟨(some 167), none, (.len (.tmp 166))⟩, ⟨(some 168), none, (.cmp .lss (.tmp 165) (.tmp 167))⟩])
  (.cond (.tmp 168) .skip
  (.exit 4)))
  (.seq (.block 5 (.reg [⟨(some 171), none, (.mov (.tmp 19))⟩, ⟨(some 172), none, (.mov (.tmp 171))⟩, ⟨(some 173), (some (172, true)), (.mov (.tmp 17))⟩, ⟨(some 174), (some (172, true)), (.mov (.tmp 20))⟩, ⟨(some 175), (some (172, true)), (.idx (.tmp 173) (.tmp 174) 6)⟩, ⟨(some 176), (some (172, true)), (.addo (.tmp 175) 4)⟩, ⟨(some 177), (some (172, true)), (.addo (.tmp 176) 1)⟩, ⟨(some 178), (some (172, true)), (.ld (.tmp 177) 1)⟩, ⟨(some 179), (some (172, true)), (.mov (.tmp 2))⟩, ⟨(some 180), (some (172, true)), (.cmpb .leq (.tmp 178) (.tmp 179))⟩, ⟨(some 181), none, (.pur ⟨(some 181), (.pick (.tmp 172) (.tmp 180) (.const (.bool false))), 4, "", (List.toArray []), none⟩)⟩, ⟨(some 19), none, (.mov (.tmp 181))⟩]))
  (.reg [⟨(some 169), none, (.mov (.tmp 20))⟩, ⟨(some 170), none, (.ari .add (.tmp 169) (.const (.int .i64 1)))⟩, ⟨(some 20), none, (.mov (.tmp 170))⟩])))
theorem L6x3 : low Try.prog Try.f6.ntmps (at_ Try.f6 [1, 1, 1, 1, 1, 1, 0, 1, 0, 0, 1, 0, 0, 1, 1, 1, 0, 1, 0, 0]) = some R6x3 := by kernel_rfl
theorem N10 : Try.f10.ntmps = 78 := by kernel_rfl
theorem Z10 : Try.f10.results.toList = ((List.toArray [(.tmp 0)]) : Array ResultVar).toList := by kernel_rfl
theorem B10 : Try.f10.body = some (at_ Try.f10 []) := by kernel_rfl
noncomputable def R10 : RC := (.seq (.reg [⟨(some 0), none, (.mov (.const (.bool false)))⟩])
  (.seq (.reg [⟨(some 12), none, (.call ⟨(.value (.func 25)), (List.toArray []), (List.toArray [])⟩ true)⟩, ⟨(some 11), none, (.mov (.tmp 12))⟩, ⟨(some 13), none, (.pur ⟨(some 13), (.extract (.tmp 11) 0), 22, "", (List.toArray []), none⟩)⟩, ⟨(some 14), none, (.pur ⟨(some 14), (.extract (.tmp 11) 1), 34, "", (List.toArray []), none⟩)⟩, ⟨(some 2), none, (.alc 34 [(.int .i64 0), (.int .i64 0), (.int .i64 0), (.int .i64 0), (.int .i64 0), (.slice none 0 0)])⟩, ⟨(some 1), none, (.mov (.tmp 13))⟩, ⟨none, none, (.sta (.tmp 2) (.tmp 14) 6)⟩])
  (.seq (.reg [⟨(some 16), none, (.mov (.tmp 1))⟩, ⟨(some 17), none, (.call ⟨(.value (.func 11)), (List.toArray [(.tmp 16), (.const (.int .i64 2))]), (List.toArray [22, 3])⟩ true)⟩, ⟨(some 15), none, (.mov (.tmp 17))⟩, ⟨(some 18), none, (.pur ⟨(some 18), (.extract (.tmp 15) 0), 24, "", (List.toArray []), none⟩)⟩, ⟨(some 19), none, (.pur ⟨(some 19), (.extract (.tmp 15) 1), 25, "", (List.toArray []), none⟩)⟩, ⟨(some 3), none, (.mov (.tmp 18))⟩, ⟨(some 4), none, (.mov (.tmp 19))⟩])
  (.seq (.reg [⟨(some 21), none, (.mov (.tmp 1))⟩, ⟨(some 22), none, (.call ⟨(.value (.func 13)), (List.toArray [(.tmp 21), (.const (.int .i64 20))]), (List.toArray [22, 3])⟩ true)⟩, ⟨(some 20), none, (.mov (.tmp 22))⟩, ⟨(some 23), none, (.pur ⟨(some 23), (.extract (.tmp 20) 0), 3, "", (List.toArray []), none⟩)⟩, ⟨(some 24), none, (.pur ⟨(some 24), (.extract (.tmp 20) 1), 25, "", (List.toArray []), none⟩)⟩, ⟨(some 5), none, (.mov (.tmp 23))⟩, ⟨(some 6), none, (.mov (.tmp 24))⟩])
  (.seq (.reg [⟨(some 26), none, (.lda (.tmp 2) 6)⟩, ⟨(some 27), none, (.call ⟨(.value (.func 17)), (List.toArray [(.tmp 26)]), (List.toArray [34])⟩ true)⟩, ⟨(some 25), none, (.mov (.tmp 27))⟩, ⟨(some 28), none, (.pur ⟨(some 28), (.extract (.tmp 25) 0), 38, "", (List.toArray []), none⟩)⟩, ⟨(some 29), none, (.pur ⟨(some 29), (.extract (.tmp 25) 1), 25, "", (List.toArray []), none⟩)⟩, ⟨(some 7), none, (.alc 38 [(.int .i64 0), (.int .i64 0), (.int .i64 0), (.int .i64 0), (.int .i64 0), (.int .i64 0)])⟩, ⟨none, none, (.sta (.tmp 7) (.tmp 28) 6)⟩, ⟨(some 8), none, (.mov (.tmp 29))⟩])
  (.seq (.reg [⟨(some 31), none, (.mem ⟨(some 31), (.buildSlice 45 2 (List.toArray [(0, (.const (.int .i64 30))), (1, (.const (.int .i64 100)))])), 45, "", (List.toArray []), none⟩)⟩, ⟨(some 32), none, (.mem ⟨(some 32), (.buildSlice 45 4 (List.toArray [(0, (.const (.int .i64 90))), (1, (.const (.int .i64 90))), (2, (.const (.int .i64 90))), (3, (.const (.int .i64 120)))])), 45, "", (List.toArray []), none⟩)⟩, ⟨(some 33), none, (.mem ⟨(some 33), (.buildSlice 45 1 (List.toArray [(0, (.const (.int .i64 20)))])), 45, "", (List.toArray []), none⟩)⟩, ⟨(some 34), none, (.mem ⟨(some 34), (.buildSlice 35 3 (List.toArray [(0, (.tmp 31)), (1, (.tmp 32)), (2, (.tmp 33))])), 35, "", (List.toArray []), none⟩)⟩, ⟨(some 35), none, (.call ⟨(.value (.func 19)), (List.toArray [(.tmp 34), (.const (.int .i64 100)), (.const (.int .i64 3))]), (List.toArray [35, 3, 3])⟩ true)⟩, ⟨(some 30), none, (.mov (.tmp 35))⟩, ⟨(some 36), none, (.pur ⟨(some 36), (.extract (.tmp 30) 0), 3, "", (List.toArray []), none⟩)⟩, ⟨(some 37), none, (.pur ⟨(some 37), (.extract (.tmp 30) 1), 25, "", (List.toArray []), none⟩)⟩, ⟨(some 9), none, (.mov (.tmp 36))⟩, ⟨(some 10), none, (.mov (.tmp 37))⟩])
  (.seq (.seq (.reg [⟨(some 38), none, (.mov (.tmp 3))⟩, ⟨(some 39), none, (.len (.tmp 38))⟩, ⟨(some 40), none, (.cmpb .neq (.tmp 39) (.const (.int .i64 3)))⟩, ⟨(some 41), none, (.mov (.tmp 40))⟩, ⟨(some 42), (some (41, false)), (.mov (.tmp 3))⟩, ⟨(some 43), (some (41, false)), (.idx (.tmp 42) (.const (.int .i64 2)) 6)⟩, ⟨(some 44), (some (41, false)), (.lda (.tmp 43) 6)⟩, ⟨(some 45), (some (41, false)), (.pur ⟨(some 45), (.build 47 (List.toArray [(0, (.const (.int .i64 112))), (1, (.const (.int .i64 120)))])), 47, "", (List.toArray []), none⟩)⟩, ⟨(some 46), (some (41, false)), (.pur ⟨(some 46), (.build 47 (List.toArray [(0, (.const (.int .i64 127))), (1, (.const (.int .i64 160)))])), 47, "", (List.toArray []), none⟩)⟩, ⟨(some 47), (some (41, false)), (.pur ⟨(some 47), (.build 47 (List.toArray [(1, (.const (.int .i64 8)))])), 47, "", (List.toArray []), none⟩)⟩, ⟨(some 48), (some (41, false)), (.pur ⟨(some 48), (.build 52 (List.toArray [(0, (.tmp 45)), (1, (.tmp 46)), (2, (.tmp 47))])), 52, "", (List.toArray []), none⟩)⟩, ⟨(some 49), (some (41, false)), (.pur ⟨(some 49), (.binOp .neq 52 (.tmp 44) (.tmp 48) 52), 4, "", (List.toArray []), none⟩)⟩, ⟨(some 50), none, (.pur ⟨(some 50), (.pick (.tmp 41) (.const (.bool true)) (.tmp 49)), 4, "", (List.toArray []), none⟩)⟩, ⟨(some 51), none, (.mov (.tmp 50))⟩, ⟨(some 52), (some (51, false)), (.mov (.tmp 4))⟩, ⟨(some 53), (some (51, false)), (.cmpb .neq (.tmp 52) (.const (.int .i64 0)))⟩, ⟨(some 54), none, (.pur ⟨(some 54), (.pick (.tmp 51) (.const (.bool true)) (.tmp 53)), 4, "", (List.toArray []), none⟩)⟩, ⟨(some 55), none, (.mov (.tmp 54))⟩, ⟨(some 56), (some (55, false)), (.mov (.tmp 5))⟩, ⟨(some 57), (some (55, false)), (.cmpb .neq (.tmp 56) (.const (.int .i64 2)))⟩, ⟨(some 58), none, (.pur ⟨(some 58), (.pick (.tmp 55) (.const (.bool true)) (.tmp 57)), 4, "", (List.toArray []), none⟩)⟩, ⟨(some 59), none, (.mov (.tmp 58))⟩, ⟨(some 60), (some (59, false)), (.mov (.tmp 6))⟩, ⟨(some 61), (some (59, false)), (.cmpb .neq (.tmp 60) (.const (.int .i64 0)))⟩, ⟨(some 62), none, (.pur ⟨(some 62), (.pick (.tmp 59) (.const (.bool true)) (.tmp 61)), 4, "", (List.toArray []), none⟩)⟩])
  (.cond (.tmp 62) (.seq (.reg [⟨(some 0), none, (.mov (.const (.bool false)))⟩])
  .ret)
  .skip))
  (.seq (.reg [⟨(some 63), none, (.lda (.tmp 7) 6)⟩, ⟨(some 64), none, (.pur ⟨(some 64), (.build 38 (List.toArray [(0, (.const (.int .i64 7000))), (1, (.const (.int .i64 6580))), (2, (.const (.int .i64 233))), (3, (.const (.int .i64 187))), (4, (.const (.int .i64 329000))), (5, (.const (.int .i64 3948000)))])), 38, "", (List.toArray []), none⟩)⟩, ⟨(some 65), none, (.pur ⟨(some 65), (.binOp .eql 38 (.tmp 63) (.tmp 64) 38), 4, "", (List.toArray []), none⟩)⟩, ⟨(some 66), none, (.mov (.tmp 65))⟩, ⟨(some 67), (some (66, true)), (.mov (.tmp 8))⟩, ⟨(some 68), (some (66, true)), (.cmpb .eql (.tmp 67) (.const (.int .i64 0)))⟩, ⟨(some 69), none, (.pur ⟨(some 69), (.pick (.tmp 66) (.tmp 68) (.const (.bool false))), 4, "", (List.toArray []), none⟩)⟩, ⟨(some 70), none, (.mov (.tmp 69))⟩, ⟨(some 71), (some (70, true)), (.mov (.tmp 9))⟩, ⟨(some 72), (some (70, true)), (.cmpb .eql (.tmp 71) (.const (.int .i64 1)))⟩, ⟨(some 73), none, (.pur ⟨(some 73), (.pick (.tmp 70) (.tmp 72) (.const (.bool false))), 4, "", (List.toArray []), none⟩)⟩, ⟨(some 74), none, (.mov (.tmp 73))⟩, ⟨(some 75), (some (74, true)), (.mov (.tmp 10))⟩, ⟨(some 76), (some (74, true)), (.cmpb .eql (.tmp 75) (.const (.int .i64 0)))⟩, ⟨(some 77), none, (.pur ⟨(some 77), (.pick (.tmp 74) (.tmp 76) (.const (.bool false))), 4, "", (List.toArray []), none⟩)⟩, ⟨(some 0), none, (.mov (.tmp 77))⟩])
  .ret))))))))
theorem L10 : low Try.prog Try.f10.ntmps (at_ Try.f10 []) = some R10 := by kernel_rfl
theorem N25 : Try.f25.ntmps = 18 := by kernel_rfl
theorem Z25 : Try.f25.results.toList = ((List.toArray [(.tmp 0), (.cell 1 34)]) : Array ResultVar).toList := by kernel_rfl
theorem B25 : Try.f25.body = some (at_ Try.f25 []) := by kernel_rfl
noncomputable def R25 : RC := (.seq (.reg [⟨(some 0), none, (.mov (.const (.slice none 0 0)))⟩, ⟨(some 1), none, (.alc 34 [(.int .i64 0), (.int .i64 0), (.int .i64 0), (.int .i64 0), (.int .i64 0), (.slice none 0 0)])⟩])
  (.seq (.reg [⟨(some 3), none, (.pur ⟨(some 3), (.build 47 (List.toArray [(0, (.const (.int .i64 100))), (1, (.const (.int .i64 110)))])), 47, "", (List.toArray []), none⟩)⟩, ⟨(some 4), none, (.pur ⟨(some 4), (.build 47 (List.toArray [(0, (.const (.int .i64 20))), (1, (.const (.int .i64 30)))])), 47, "", (List.toArray []), none⟩)⟩, ⟨(some 5), none, (.pur ⟨(some 5), (.build 49 (List.toArray [(0, (.tmp 3)), (1, (.tmp 4))])), 49, "", (List.toArray []), none⟩)⟩, ⟨(some 6), none, (.pur ⟨(some 6), (.build 47 (List.toArray [(0, (.const (.int .i64 90))), (1, (.const (.int .i64 105)))])), 47, "", (List.toArray []), none⟩)⟩, ⟨(some 7), none, (.pur ⟨(some 7), (.build 47 (List.toArray [(0, (.const (.int .i64 10))), (1, (.const (.int .i64 10)))])), 47, "", (List.toArray []), none⟩)⟩, ⟨(some 8), none, (.pur ⟨(some 8), (.build 49 (List.toArray [(0, (.tmp 6)), (1, (.tmp 7))])), 49, "", (List.toArray []), none⟩)⟩, ⟨(some 9), none, (.pur ⟨(some 9), (.build 47 (List.toArray [(0, (.const (.int .i64 112))), (1, (.const (.int .i64 112)))])), 47, "", (List.toArray []), none⟩)⟩, ⟨(some 10), none, (.pur ⟨(some 10), (.build 47 (List.toArray [(0, (.const (.int .i64 15))), (1, (.const (.int .i64 40)))])), 47, "", (List.toArray []), none⟩)⟩, ⟨(some 11), none, (.pur ⟨(some 11), (.build 49 (List.toArray [(0, (.tmp 9)), (1, (.tmp 10))])), 49, "", (List.toArray []), none⟩)⟩, ⟨(some 12), none, (.mem ⟨(some 12), (.buildSlice 22 3 (List.toArray [(0, (.tmp 5)), (1, (.tmp 8)), (2, (.tmp 11))])), 22, "", (List.toArray []), none⟩)⟩, ⟨(some 2), none, (.mov (.tmp 12))⟩])
  (.seq (.reg [⟨(some 13), none, (.mov (.tmp 2))⟩, ⟨(some 14), none, (.pur ⟨(some 14), (.build 58 (List.toArray [(0, (.const (.int .i64 100))), (1, (.const (.int .i64 5))), (2, (.const (.int .i64 3))), (3, (.const (.int .i64 40))), (4, (.const (.int .i64 700)))])), 58, "", (List.toArray []), none⟩)⟩, ⟨(some 15), none, (.pur ⟨(some 15), (.build 58 (List.toArray [(0, (.const (.int .i64 50))), (2, (.const (.int .i64 1))), (3, (.const (.int .i64 70))), (4, (.const (.int .i64 400)))])), 58, "", (List.toArray []), none⟩)⟩, ⟨(some 16), none, (.mem ⟨(some 16), (.buildSlice 32 2 (List.toArray [(0, (.tmp 14)), (1, (.tmp 15))])), 32, "", (List.toArray []), none⟩)⟩, ⟨(some 17), none, (.pur ⟨(some 17), (.build 34 (List.toArray [(3, (.const (.int .i64 10000))), (4, (.const (.int .i64 3000))), (5, (.tmp 16))])), 34, "", (List.toArray []), none⟩)⟩, ⟨(some 0), none, (.mov (.tmp 13))⟩, ⟨none, none, (.sta (.tmp 1) (.tmp 17) 6)⟩])
  .ret)))
theorem L25 : low Try.prog Try.f25.ntmps (at_ Try.f25 []) = some R25 := by kernel_rfl
end Go.Ax

/-
  Station: sample, and awake: true in every world (written by program).
-/
namespace Go.Ax
open Go Go.RowKit Go.Proofs

theorem i34s : ∃ i, Try.prog.info? 34 = some i ∧ i.size = 6 := by
  have h : (Try.prog.info? 34).map (fun i => i.size) = some 6 := by kernel_rfl
  cases e : Try.prog.info? 34 with
  | none => rw [e] at h; cases h
  | some i => rw [e] at h; simp at h; exact ⟨i, rfl, h⟩
theorem a34 : isAggB Try.prog 34 = some true := by kernel_rfl
theorem res_tc {P : Program} {S : Rg} {H : Hp} {a b x n : Nat} {t : TypeId} {cs : List Value} {v : Value} (hb : lk S b = some v) (ha : lk S a = some (.pointer (some ⟨x, 0, none⟩))) (h1 : isAggB P t = some true) (hi : ∃ i, P.info? t = some i ∧ i.size = n) (hl : cs.length = n) (h : Cl H x cs) : resS P S H [.tmp b, .cell a t] = some [v, .agg cs.toArray] := by
  simp only [resS, ha, hb, load_agg h1 hi h.rd hl]
def L0 : List Tk := [⟨100, 110, 20, 30⟩, ⟨90, 105, 10, 10⟩, ⟨112, 112, 15, 40⟩]
def M0 : List Sm := [⟨100, 5, 3, 40, 700⟩, ⟨50, 0, 1, 70, 400⟩]
def s0 (b : Nat) : Sp := ⟨0, 0, 0, 10000, 3000, some ⟨b, 0, none⟩, 2, 2, M0⟩
def rs0 (a b c : Nat) : List Rw := [⟨some ⟨a, 0, none⟩, 2, 2, [30, 100]⟩, ⟨some ⟨b, 0, none⟩, 4, 4, [90, 90, 90, 120]⟩, ⟨some ⟨c, 0, none⟩, 1, 1, [20]⟩]
theorem q0 : qe L0 2 = 0 := by kernel_rfl
theorem q1 : ql L0 2 = visL L0 2 := by kernel_rfl
theorem q2 : (visL L0 2)[2]? = some ⟨112, 120, 127, 160, 0, 8⟩ := by kernel_rfl
theorem q3 : by' L0 20 = (2, 0) := by kernel_rfl
theorem q4 (b : Nat) : (s0 b).load = ⟨7000, 6580, 233, 187, 329000, 3948000⟩ := by kernel_rfl
theorem q5 (b : Nat) : (s0 b).we = 0 := by kernel_rfl
theorem q6 (a b c : Nat) : boN (rs0 a b c) 100 3 = 1 := by kernel_rfl
theorem q7 (a b c : Nat) : boE (rs0 a b c) 100 3 = 0 := by kernel_rfl
section
variable {kn : FuncId → Option Bool} {lo : Nat} {H : Hp}
/-- sample -/
theorem sample25_ok (hlo : lo ≤ H.next) : ∃ w H', FnX Try.prog kn lo 25 [] H w H' ∧ ∃ b1 b2, w = .tuple #[slv b1 3 3, .agg (s0 b2).v.toArray] ∧ Keep H H' [] ∧ H.next ≤ b1 ∧ H.next ≤ b2 ∧ Sc H' b1 (tkc L0) ∧ Sc H' b2 (smc M0) := by
  have key := fnX_low (kn := kn) (lo := lo) (H := H) (args := []) (Q := fun w H' => ∃ b1 b2, w = .tuple #[slv b1 3 3, .agg (s0 b2).v.toArray] ∧ Keep H H' [] ∧ H.next ≤ b1 ∧ H.next ≤ b2 ∧ Sc H' b1 (tkc L0) ∧ Sc H' b2 (smc M0)) Try.func25 B25 N25 Z25 L25 (by simp) ?_
  · exact key
  have hk := Keep.refl H []
  refine wN_seq ?_
  refine wN_mov (v := .slice none 0 0) rfl ?_
  refine wN_alc ?_
  intro H1 kH1 nH1 c1
  have c1 : Cl H1 H.next [iv 0, iv 0, iv 0, iv 0, iv 0, .slice none 0 0] := c1
  have mH1 := kH1.1
  have hk := hk.trans kH1
  refine wN_end ?_
  refine wN_seq ?_
  refine wN_pur (v := .agg #[iv 100, iv 110]) rfl (by kernel_rfl) ?_
  refine wN_pur (v := .agg #[iv 20, iv 30]) rfl (by kernel_rfl) ?_
  refine wN_pur (v := .agg #[iv 100, iv 110, iv 20, iv 30]) rfl (by kernel_rfl) ?_
  refine wN_pur (v := .agg #[iv 90, iv 105]) rfl (by kernel_rfl) ?_
  refine wN_pur (v := .agg #[iv 10, iv 10]) rfl (by kernel_rfl) ?_
  refine wN_pur (v := .agg #[iv 90, iv 105, iv 10, iv 10]) rfl (by kernel_rfl) ?_
  refine wN_pur (v := .agg #[iv 112, iv 112]) rfl (by kernel_rfl) ?_
  refine wN_pur (v := .agg #[iv 15, iv 40]) rfl (by kernel_rfl) ?_
  refine wN_pur (v := .agg #[iv 112, iv 112, iv 15, iv 40]) rfl (by kernel_rfl) ?_
  obtain ⟨H2, hgH2⟩ : ∃ H2, H1.new (.cells [iv 100, iv 110, iv 20, iv 30, iv 90, iv 105, iv 10, iv 10, iv 112, iv 112, iv 15, iv 40] 49 false) = H2 := ⟨_, rfl⟩
  refine wN_memh (v := .slice (some ⟨H1.next, 0, none⟩) 3 3) (H' := H2) (k := .heavy) rfl (by kernel_rfl) (by rw [← hgH2]; kernel_rfl) (fun b e => by cases e) ?_
  obtain ⟨kH2, nH2, _⟩ := new_facts hgH2
  have t1 := new_sc hgH2
  have mH2 := kH2.1
  have hk := hk.trans kH2
  have c1 := kH2.cl c1 (by simp)
  obtain ⟨bt1, hbt1⟩ : ∃ q, q = H1.next := ⟨_, rfl⟩
  rw [← hbt1] at t1 ⊢
  refine wN_mov (v := .slice (some ⟨bt1, 0, none⟩) 3 3) rfl ?_
  refine wN_end ?_
  refine wN_seq ?_
  refine wN_mov (v := .slice (some ⟨bt1, 0, none⟩) 3 3) rfl ?_
  refine wN_pur (v := .agg #[iv 100, iv 5, iv 3, iv 40, iv 700]) rfl (by kernel_rfl) ?_
  refine wN_pur (v := .agg #[iv 50, iv 0, iv 1, iv 70, iv 400]) rfl (by kernel_rfl) ?_
  obtain ⟨H3, hgH3⟩ : ∃ H3, H2.new (.cells [iv 100, iv 5, iv 3, iv 40, iv 700, iv 50, iv 0, iv 1, iv 70, iv 400] 58 false) = H3 := ⟨_, rfl⟩
  refine wN_memh (v := .slice (some ⟨H2.next, 0, none⟩) 2 2) (H' := H3) (k := .heavy) rfl (by kernel_rfl) (by rw [← hgH3]; kernel_rfl) (fun b e => by cases e) ?_
  obtain ⟨kH3, nH3, _⟩ := new_facts hgH3
  have t2 := new_sc hgH3
  have mH3 := kH3.1
  have hk := hk.trans kH3
  have c1 := kH3.cl c1 (by simp)
  have t1 := kH3.sc t1 (by simp)
  obtain ⟨bt2, hbt2⟩ : ∃ q, q = H2.next := ⟨_, rfl⟩
  rw [← hbt2] at t2 ⊢
  refine wN_pur (v := .agg #[iv 0, iv 0, iv 0, iv 10000, iv 3000, .slice (some ⟨bt2, 0, none⟩) 2 2]) rfl (by kernel_rfl) ?_
  refine wN_mov (v := .slice (some ⟨bt1, 0, none⟩) 3 3) rfl ?_
  refine wN_sta (b := H.next) (o := 0) rfl rfl c1 (by omega) rfl rfl (by simp) ?_
  intro H4 kH4 nH4 sH4
  have mH4 := kH4.1
  have hk := hk.new kH4 (fun b hb => by simp at hb ⊢; omega)
  have t1 := kH4.sc t1 (by first | (simp; done) | (simp; omega))
  have t2 := kH4.sc t2 (by first | (simp; done) | (simp; omega))
  have c1 : Cl H4 H.next [iv 0, iv 0, iv 0, iv 10000, iv 3000, .slice (some ⟨bt2, 0, none⟩) 2 2] := sH4
  refine wN_end ?_
  exact And.intro trivial (Exists.intro _ (And.intro (res_tc rfl rfl a34 i34s rfl c1) ⟨bt1, bt2, rfl, hk, by omega, by omega, t1, t2⟩))
set_option maxRecDepth 100000 in
/-- awake -/
theorem awake10_ok (hro : RoLow lo H) (hlo : lo ≤ H.next) : ∃ H', FnX Try.prog (fun _ => none) lo 10 [] H (.bool true) H' ∧ Keep H H' [] := by
  have key := fnX_low (kn := fun _ => none) (lo := lo) (H := H) (args := []) (Q := fun w H' => w = .bool true ∧ Keep H H' []) Try.func10 B10 N10 Z10 L10 (by simp) ?_
  · obtain ⟨w, H', h, rfl, q⟩ := key; exact ⟨H', h, q⟩
  have hk := Keep.refl H []
  refine wN_seq ?_
  refine wN_mov (v := .bool false) rfl ?_
  refine wN_end ?_
  refine wN_seq ?_
  obtain ⟨wH1, H1, fH1, b1, b2, rfl, kH1, l1, l2, t1, t2⟩ := sample25_ok (kn := fun _ => none) (lo := lo) (H := H) (by omega)
  refine wN_callf (vs := []) rfl (callX_func (by rfl) (by simpa using fH1)) ?_
  have mH1 := kH1.1
  have hk := hk.trans kH1
  have lt1 := t1.lt
  have lt2 := t2.lt
  refine wN_mov (v := .tuple #[.slice (some ⟨b1, 0, none⟩) 3 3, .agg (s0 b2).v.toArray]) rfl ?_
  refine wN_pur (v := .slice (some ⟨b1, 0, none⟩) 3 3) rfl (by kernel_rfl) ?_
  refine wN_pur (v := .agg (s0 b2).v.toArray) rfl (by kernel_rfl) ?_
  refine wN_alc ?_
  intro H2 kH2 nH2 c2
  have c2 : Cl H2 H1.next [iv 0, iv 0, iv 0, iv 0, iv 0, .slice none 0 0] := c2
  have mH2 := kH2.1
  have hk := hk.trans kH2
  have t1 := kH2.sc t1 (by simp)
  have t2 := kH2.sc t2 (by simp)
  refine wN_mov (v := .slice (some ⟨b1, 0, none⟩) 3 3) rfl ?_
  refine wN_sta (b := H1.next) (o := 0) rfl rfl c2 (by omega) rfl rfl (by simp) ?_
  intro H3 kH3 nH3 sH3
  have mH3 := kH3.1
  have hk := hk.new kH3 (fun b hb => by simp at hb ⊢; omega)
  have t1 := kH3.sc t1 (by first | (simp; done) | (simp; omega))
  have t2 := kH3.sc t2 (by first | (simp; done) | (simp; omega))
  have c2 : Cl H3 H1.next [iv 0, iv 0, iv 0, iv 10000, iv 3000, .slice (some ⟨b2, 0, none⟩) 2 2] := sH3
  refine wN_end ?_
  refine wN_seq ?_
  refine wN_mov (v := .slice (some ⟨b1, 0, none⟩) 3 3) rfl ?_
  obtain ⟨wH4, H4, fH4, a, c, rfl, kH4, hv, _⟩ := queue11_ok (kn := fun _ => none) (lo := lo) (H := H3) (bays := 2) (t1.cl.sl (Nat.le_refl 3)) rfl (hk.low hro) (by omega)
  rw [q0, q1, visL_len] at fH4
  rw [q1, visL_len] at hv
  have fH4 : FnX Try.prog (fun _ => none) lo 11 [slv b1 3 3, iv 2] H3 (.tuple #[.slice a 3 c, iv 0]) H4 := fH4
  have hv : Sl H4 a 3 c (vsc (visL L0 2)) := hv
  refine wN_callf (vs := [slv b1 3 3, iv 2]) rfl (callX_args fH4) ?_
  have mH4 := kH4.1
  have hk := hk.trans kH4
  have t1 := kH4.sc t1 (by simp)
  have t2 := kH4.sc t2 (by simp)
  have c2 := kH4.cl c2 (by simp)
  have fv := hv.old
  refine wN_mov (v := .tuple #[.slice a 3 c, iv 0]) rfl ?_
  refine wN_pur (v := .slice a 3 c) rfl (by kernel_rfl) ?_
  refine wN_pur (v := iv 0) rfl (by kernel_rfl) ?_
  refine wN_mov (v := .slice a 3 c) rfl ?_
  refine wN_mov (v := iv 0) rfl ?_
  refine wN_end ?_
  refine wN_seq ?_
  refine wN_mov (v := .slice (some ⟨b1, 0, none⟩) 3 3) rfl ?_
  obtain ⟨H5, fH5, kH5⟩ := bays13_ok (kn := fun _ => none) (lo := lo) (H := H4) (m := 20) (t1.cl.sl (Nat.le_refl 3)) rfl (hk.low hro) (by omega)
  rw [q3] at fH5
  refine wN_callf (vs := [slv b1 3 3, iv 20]) rfl (callX_args fH5) ?_
  have mH5 := kH5.1
  have hk := hk.trans kH5
  have t1 := kH5.sc t1 (by simp)
  have t2 := kH5.sc t2 (by simp)
  have c2 := kH5.cl c2 (by simp)
  have hv := kH5.sl0 hv
  refine wN_mov (v := .tuple #[iv 2, iv 0]) rfl ?_
  refine wN_pur (v := iv 2) rfl (by kernel_rfl) ?_
  refine wN_pur (v := iv 0) rfl (by kernel_rfl) ?_
  refine wN_mov (v := iv 2) rfl ?_
  refine wN_mov (v := iv 0) rfl ?_
  refine wN_end ?_
  refine wN_seq ?_
  refine wN_lda (b := H1.next) (o := 0) rfl c2.rd (show row 6 _ _ = some [iv 0, iv 0, iv 0, iv 10000, iv 3000, .slice (some ⟨b2, 0, none⟩) 2 2] from rfl) ?_
  obtain ⟨H6, fH6, kH6⟩ := weigh17_ok (kn := fun _ => none) (lo := lo) (H := H5) (s := s0 b2) (t2.cl.sl (Nat.le_refl 2)) rfl (by omega)
  rw [q4, q5] at fH6
  refine wN_callf (vs := [.agg (s0 b2).v.toArray]) rfl (callX_args fH6) ?_
  have mH6 := kH6.1
  have hk := hk.trans kH6
  have t1 := kH6.sc t1 (by simp)
  have t2 := kH6.sc t2 (by simp)
  have c2 := kH6.cl c2 (by simp)
  have hv := kH6.sl0 hv
  refine wN_mov (v := .tuple #[.agg #[iv 7000, iv 6580, iv 233, iv 187, iv 329000, iv 3948000], iv 0]) rfl ?_
  refine wN_pur (v := .agg #[iv 7000, iv 6580, iv 233, iv 187, iv 329000, iv 3948000]) rfl (by kernel_rfl) ?_
  refine wN_pur (v := iv 0) rfl (by kernel_rfl) ?_
  refine wN_alc ?_
  intro H7 kH7 nH7 c7
  have c7 : Cl H7 H6.next [iv 0, iv 0, iv 0, iv 0, iv 0, iv 0] := c7
  have mH7 := kH7.1
  have hk := hk.trans kH7
  have t1 := kH7.sc t1 (by simp)
  have t2 := kH7.sc t2 (by simp)
  have c2 := kH7.cl c2 (by simp)
  have hv := kH7.sl0 hv
  refine wN_sta (b := H6.next) (o := 0) rfl rfl c7 (by omega) rfl rfl (by simp) ?_
  intro H8 kH8 nH8 sH8
  have mH8 := kH8.1
  have hk := hk.new kH8 (fun b hb => by simp at hb ⊢; omega)
  have t1 := kH8.sc t1 (by first | (simp; done) | (simp; omega))
  have t2 := kH8.sc t2 (by first | (simp; done) | (simp; omega))
  have c2 := kH8.cl c2 (by first | (simp; done) | (simp; omega))
  have hv := kH8.sl hv (fun b e => by have := fv b e; first | (simp; done) | (simp; omega))
  have c7 : Cl H8 H6.next [iv 7000, iv 6580, iv 233, iv 187, iv 329000, iv 3948000] := sH8
  refine wN_mov (v := iv 0) rfl ?_
  refine wN_end ?_
  refine wN_seq ?_
  obtain ⟨H9, hgH9⟩ : ∃ H9, H8.new (.cells [iv 30, iv 100] 3 false) = H9 := ⟨_, rfl⟩
  refine wN_memh (v := .slice (some ⟨H8.next, 0, none⟩) 2 2) (H' := H9) (k := .heavy) rfl (by kernel_rfl) (by rw [← hgH9]; kernel_rfl) (fun b e => by cases e) ?_
  obtain ⟨kH9, nH9, _⟩ := new_facts hgH9
  have r1 := new_sc hgH9
  have mH9 := kH9.1
  have hk := hk.trans kH9
  have t1 := kH9.sc t1 (by simp)
  have t2 := kH9.sc t2 (by simp)
  have c2 := kH9.cl c2 (by simp)
  have hv := kH9.sl0 hv
  have c7 := kH9.cl c7 (by simp)
  obtain ⟨br1, hbr1⟩ : ∃ q, q = H8.next := ⟨_, rfl⟩
  rw [← hbr1] at r1 ⊢
  obtain ⟨H10, hgH10⟩ : ∃ H10, H9.new (.cells [iv 90, iv 90, iv 90, iv 120] 3 false) = H10 := ⟨_, rfl⟩
  refine wN_memh (v := .slice (some ⟨H9.next, 0, none⟩) 4 4) (H' := H10) (k := .heavy) rfl (by kernel_rfl) (by rw [← hgH10]; kernel_rfl) (fun b e => by cases e) ?_
  obtain ⟨kH10, nH10, _⟩ := new_facts hgH10
  have r2 := new_sc hgH10
  have mH10 := kH10.1
  have hk := hk.trans kH10
  have t1 := kH10.sc t1 (by simp)
  have t2 := kH10.sc t2 (by simp)
  have c2 := kH10.cl c2 (by simp)
  have hv := kH10.sl0 hv
  have c7 := kH10.cl c7 (by simp)
  have r1 := kH10.sc r1 (by simp)
  obtain ⟨br2, hbr2⟩ : ∃ q, q = H9.next := ⟨_, rfl⟩
  rw [← hbr2] at r2 ⊢
  obtain ⟨H11, hgH11⟩ : ∃ H11, H10.new (.cells [iv 20] 3 false) = H11 := ⟨_, rfl⟩
  refine wN_memh (v := .slice (some ⟨H10.next, 0, none⟩) 1 1) (H' := H11) (k := .heavy) rfl (by kernel_rfl) (by rw [← hgH11]; kernel_rfl) (fun b e => by cases e) ?_
  obtain ⟨kH11, nH11, _⟩ := new_facts hgH11
  have r3 := new_sc hgH11
  have mH11 := kH11.1
  have hk := hk.trans kH11
  have t1 := kH11.sc t1 (by simp)
  have t2 := kH11.sc t2 (by simp)
  have c2 := kH11.cl c2 (by simp)
  have hv := kH11.sl0 hv
  have c7 := kH11.cl c7 (by simp)
  have r1 := kH11.sc r1 (by simp)
  have r2 := kH11.sc r2 (by simp)
  obtain ⟨br3, hbr3⟩ : ∃ q, q = H10.next := ⟨_, rfl⟩
  rw [← hbr3] at r3 ⊢
  obtain ⟨H12, hgH12⟩ : ∃ H12, H11.new (.cells [.slice (some ⟨br1, 0, none⟩) 2 2, .slice (some ⟨br2, 0, none⟩) 4 4, .slice (some ⟨br3, 0, none⟩) 1 1] 45 false) = H12 := ⟨_, rfl⟩
  refine wN_memh (v := .slice (some ⟨H11.next, 0, none⟩) 3 3) (H' := H12) (k := .heavy) rfl (by kernel_rfl) (by rw [← hgH12]; kernel_rfl) (fun b e => by cases e) ?_
  obtain ⟨kH12, nH12, _⟩ := new_facts hgH12
  have r0 := new_sc hgH12
  have mH12 := kH12.1
  have hk := hk.trans kH12
  have t1 := kH12.sc t1 (by simp)
  have t2 := kH12.sc t2 (by simp)
  have c2 := kH12.cl c2 (by simp)
  have hv := kH12.sl0 hv
  have c7 := kH12.cl c7 (by simp)
  have r1 := kH12.sc r1 (by simp)
  have r2 := kH12.sc r2 (by simp)
  have r3 := kH12.sc r3 (by simp)
  obtain ⟨br0, hbr0⟩ : ∃ q, q = H11.next := ⟨_, rfl⟩
  rw [← hbr0] at r0 ⊢
  have lr1 := r1.lt
  have lr2 := r2.lt
  have lr3 := r3.lt
  have lr0 := r0.lt
  have hR : Rws H12 H12.next (some ⟨br0, 0, none⟩) 3 3 (rs0 br1 br2 br3) := by
    refine ⟨.inr ⟨br0, 0, _, rfl, r0.cl.rd, lr0, Nat.le_refl _, fun i r hr => ?_⟩, rfl, fun r hr => ?_⟩
    · match i, hr with
      | 0, hr => cases hr; rfl
      | 1, hr => cases hr; rfl
      | 2, hr => cases hr; rfl
      | _ + 3, hr => cases hr
    · simp only [rs0, List.mem_cons, List.not_mem_nil, or_false] at hr
      rcases hr with rfl | rfl | rfl
      · exact ⟨r1.cl.sl (Nat.le_refl _), rfl, fun x e => by cases e; exact ⟨lr1, r1.fx⟩⟩
      · exact ⟨r2.cl.sl (Nat.le_refl _), rfl, fun x e => by cases e; exact ⟨lr2, r2.fx⟩⟩
      · exact ⟨r3.cl.sl (Nat.le_refl _), rfl, fun x e => by cases e; exact ⟨lr3, r3.fx⟩⟩
  obtain ⟨H13, fH13, kH13⟩ := bounce19_ok (kn := fun _ => none) (lo := lo) (H := H12) (b := 100) (m := 3) hR (Nat.le_refl _) (fun r hr => by simp only [rs0, List.mem_cons, List.not_mem_nil, or_false] at hr; rcases hr with rfl | rfl | rfl <;> (simp only; omega)) (by decide) (by omega)
  rw [q6, q7] at fH13
  refine wN_callf (vs := [slv br0 3 3, iv 100, iv 3]) rfl (callX_args fH13) ?_
  have mH13 := kH13.1
  have hk := hk.trans kH13
  have t1 := kH13.sc t1 (by simp)
  have t2 := kH13.sc t2 (by simp)
  have c2 := kH13.cl c2 (by simp)
  have hv := kH13.sl0 hv
  have c7 := kH13.cl c7 (by simp)
  have r1 := kH13.sc r1 (by simp)
  have r2 := kH13.sc r2 (by simp)
  have r3 := kH13.sc r3 (by simp)
  have r0 := kH13.sc r0 (by simp)
  refine wN_mov (v := .tuple #[iv 1, iv 0]) rfl ?_
  refine wN_pur (v := iv 1) rfl (by kernel_rfl) ?_
  refine wN_pur (v := iv 0) rfl (by kernel_rfl) ?_
  refine wN_mov (v := iv 1) rfl ?_
  refine wN_mov (v := iv 0) rfl ?_
  refine wN_end ?_
  refine wN_seq ?_
  refine wN_mov (v := .slice a 3 c) rfl ?_
  refine wN_len (m := 3) rfl ?_
  refine wN_b_neq (a := 3) (b := 3) rfl rfl ?_
  intro t1 g1; obtain rfl : t1 = false := by rw [← g1]; rfl
  refine wN_mov (v := .bool false) rfl ?_
  refine wN_g rfl (wN_mov (v := .slice a 3 c) rfl ?_)
  rcases hv with ⟨_, h0, _⟩ | ⟨sv, esv, rv, _⟩
  · omega
  refine wN_g rfl (wN_idx (b := sv) (o := 0) (k := 2) (j := 2) (by rw [← esv]; rfl) rfl rfl (by decide) ?_)
  refine wN_g rfl (wN_lda (b := sv) (o := 0 + 2 * 6) rfl rv (vsc_row q2) ?_)
  refine wN_g rfl (wN_pur (v := .agg #[iv 112, iv 120]) rfl (by kernel_rfl) ?_)
  refine wN_g rfl (wN_pur (v := .agg #[iv 127, iv 160]) rfl (by kernel_rfl) ?_)
  refine wN_g rfl (wN_pur (v := .agg #[iv 0, iv 8]) rfl (by kernel_rfl) ?_)
  refine wN_g rfl (wN_pur (v := .agg #[iv 112, iv 120, iv 127, iv 160, iv 0, iv 8]) rfl (by kernel_rfl) ?_)
  refine wN_g rfl (wN_pur (v := .bool false) rfl (neq_visit rfl rfl) ?_)
  refine wN_pur (v := .bool false) rfl rfl ?_
  refine wN_mov (v := .bool false) rfl ?_
  refine wN_g rfl (wN_mov (v := iv 0) rfl ?_)
  refine wN_g rfl (wN_b_neq (a := 0) (b := 0) rfl rfl ?_)
  intro t2 g2; obtain rfl : t2 = false := by rw [← g2]; rfl
  refine wN_pur (v := .bool false) rfl rfl ?_
  refine wN_mov (v := .bool false) rfl ?_
  refine wN_g rfl (wN_mov (v := iv 2) rfl ?_)
  refine wN_g rfl (wN_b_neq (a := 2) (b := 2) rfl rfl ?_)
  intro t3 g3; obtain rfl : t3 = false := by rw [← g3]; rfl
  refine wN_pur (v := .bool false) rfl rfl ?_
  refine wN_mov (v := .bool false) rfl ?_
  refine wN_g rfl (wN_mov (v := iv 0) rfl ?_)
  refine wN_g rfl (wN_b_neq (a := 0) (b := 0) rfl rfl ?_)
  intro t4 g4; obtain rfl : t4 = false := by rw [← g4]; rfl
  refine wN_pur (v := .bool false) rfl rfl ?_
  refine wN_end ?_
  refine condF ?_
  first | refine wN_skip ?_ | skip
  refine wN_seq ?_
  refine wN_lda (b := H6.next) (o := 0) rfl c7.rd (show row 6 _ _ = some [iv 7000, iv 6580, iv 233, iv 187, iv 329000, iv 3948000] from rfl) ?_
  refine wN_pur (v := .agg #[iv 7000, iv 6580, iv 233, iv 187, iv 329000, iv 3948000]) rfl (by kernel_rfl) ?_
  refine wN_pur (v := .bool true) rfl (eql_load rfl rfl) ?_
  refine wN_mov (v := .bool true) rfl ?_
  refine wN_g rfl (wN_mov (v := iv 0) rfl ?_)
  refine wN_g rfl (wN_b_eql (a := 0) (b := 0) rfl rfl ?_)
  intro t5 g5; obtain rfl : t5 = true := by rw [← g5]; rfl
  refine wN_pur (v := .bool true) rfl rfl ?_
  refine wN_mov (v := .bool true) rfl ?_
  refine wN_g rfl (wN_mov (v := iv 1) rfl ?_)
  refine wN_g rfl (wN_b_eql (a := 1) (b := 1) rfl rfl ?_)
  intro t6 g6; obtain rfl : t6 = true := by rw [← g6]; rfl
  refine wN_pur (v := .bool true) rfl rfl ?_
  refine wN_mov (v := .bool true) rfl ?_
  refine wN_g rfl (wN_mov (v := iv 0) rfl ?_)
  refine wN_g rfl (wN_b_eql (a := 0) (b := 0) rfl rfl ?_)
  intro t7 g7; obtain rfl : t7 = true := by rw [← g7]; rfl
  refine wN_pur (v := .bool true) rfl rfl ?_
  refine wN_mov (v := .bool true) rfl ?_
  refine wN_end ?_
  exact And.intro trivial (Exists.intro _ (And.intro rfl ⟨rfl, hk⟩))
end
end Go.Ax

/-
  Proved here: 'alive', the closed part that every law of station ends in, returns true in every world and leaves what lay below as it was. Conditions: none.
  It has no arguments; it is walked (the K texts) by the evaluator of calls, whose soundness against the machine is 'Go.Ax.open_call'.
-/
namespace Go.Ax
open Go Go.RowKit
theorem known_one {P : Program} {g : FuncId} {t : Bool} (hb : ((P.funcs[g]?).bind (fun fn => fn.body)).isSome = true) (hc : ∀ w, Calls P g #[] w fun e w' => e = .returned (.bool t) ∧ Below w.heap.size w w') :
    Known P fun f => bif Nat.beq f g then some t else none := by
  intro f b h
  obtain ⟨hf, h1⟩ := bif_some h
  clear h
  have hf := Nat.eq_of_beq_eq_true hf
  subst hf
  cases h1
  refine ⟨?_, hc⟩
  cases hx : P.funcs[f]? with
  | none => rw [hx] at hb; cases hb
  | some fn =>
    rw [hx] at hb
    cases hy : fn.body with
    | none => rw [Option.bind_some, hy] at hb; cases hb
    | some c => exact ⟨fn, c, rfl, hy⟩
end Go.Ax
namespace Go.Proofs.Ytocgghpjbaelpaa.alive
open Go.RowKit

theorem mixed : Try.prog.follows .mixedOrders = true := by kernel_rfl
theorem plainNames : (Try.prog.funcs.toList.all fun fn => !(fn.name == "runtime.NumGoroutine")) = true := by kernel_rfl
theorem noCount : Go.Ax.NoCount Try.prog := fun f fn h => by
  have h2 := List.all_eq_true.1 plainNames fn (by
    have := Array.mem_of_getElem? h
    simpa using this)
  simpa using h2

theorem call (w : World) : Calls Try.prog 10 #[] w fun e w' => e = .returned (.bool true) ∧ Below w.heap.size w w' := by
  obtain ⟨r, H, hrel, hr⟩ : ∃ (r : Go.Ax.Ren) (H : Go.Ax.Hp), Go.Ax.Rel Try.prog r w.heap.size H w ∧ ∀ b loc, r b = some loc → b < H.next := by
    obtain ⟨r, H, h1, h2, h3⟩ := Go.Ax.imports (P := Try.prog) [] w (fun x hx => by simp at hx)
    exact ⟨r, H, by first | exact h1 | exact h2, by first | exact h2 | exact h3 | exact h3.1⟩
  obtain ⟨H', hf, _⟩ := Go.Ax.awake10_ok (lo := H.next) (H := H) (fun b cs hb _ => hb) (Nat.le_refl _)
  exact Go.Ax.open_call mixed noCount (Go.Ax.Known.nothing _) hrel hr .nil hf

theorem known : Go.Ax.Known Try.prog fun f => bif Nat.beq f 10 then some true else none := Go.Ax.known_one (by kernel_rfl) call
end Go.Proofs.Ytocgghpjbaelpaa.alive

/-
  Station: the laws StationQueues and StationWeighs, whatever the input (written by program).
-/
namespace Go.Ax
open Go Go.RowKit Go.Proofs

section
variable {kn : FuncId → Option Bool} {lo : Nat} {H : Hp}
end
end Go.Ax

/-
  Station: queues: more bays, true times (written by program).
-/
namespace Go.Ax
open Go Go.RowKit

theorem pF_lo_hi {L : List Tk} (h : ∀ t ∈ L, t.ok = true) (i : Nat) : (pF L Prod.fst i).1 ≤ (pF L Prod.snd i).1 ∧ (pF L Prod.fst i).2 ≤ (pF L Prod.snd i).2 ∧ 0 ≤ (pF L Prod.fst i).2 := by
  have q : (0 ≤ (L.getD i Tk.z).a1 ∧ (L.getD i Tk.z).a1 ≤ (L.getD i Tk.z).a2 ∧ (L.getD i Tk.z).a2 ≤ 1048576) ∧ 0 ≤ (L.getD i Tk.z).w1 ∧ (L.getD i Tk.z).w1 ≤ (L.getD i Tk.z).w2 ∧ (L.getD i Tk.z).w2 ≤ 1440 := by
    rcases Nat.lt_or_ge i L.length with q | q
    · exact Tk.ok_t (h _ (List.mem_of_getElem? (getX Tk.z q)))
    · rw [List.getD_eq_getElem?_getD, List.getElem?_eq_none q]; decide
  unfold pF; simp only; omega
namespace Yd
theorem Dom.bn {n n' : Nat} {y y' : Yd} (h : Dom n n' y y') (hn : 0 < n) {a a' : Int} (ha : a' ≤ a) : y'.bn n' a' ≤ y.bn n a := by
  have := h.rd hn
  unfold Yd.bn; omega
end Yd
theorem visit_ord {L : List Tk} (h : ∀ t ∈ L, t.ok = true) {n : Nat} (hn : 0 < n) (i : Nat) : (visit L n i).b1 ≤ (visit L n i).b2 ∧ (visit L n i).e1 ≤ (visit L n i).e2 ∧ (visit L n i).w1 ≤ (visit L n i).w2 ∧ 0 ≤ (visit L n i).w1 := by
  have q := pF_lo_hi h i
  have d := Yd.dom_at (n := n) (n' := n) (p := pF L Prod.snd) (p' := pF L Prod.fst) hn (Nat.le_refl _) (i := i) (fun j _ => pF_lo_hi h j)
  have r : Yd.rdy n (pF L Prod.fst) i ≤ Yd.rdy n (pF L Prod.snd) i := d.rd hn
  have b : Yd.bgn n (pF L Prod.fst) i ≤ Yd.bgn n (pF L Prod.snd) i := d.bn hn q.1
  have t : (L.getD i Tk.z).a1 ≤ (L.getD i Tk.z).a2 := q.1
  unfold visit Yd.fin
  simp only
  omega
theorem visit_more {L : List Tk} (h : ∀ t ∈ L, t.ok = true) {n n' : Nat} (hn : 0 < n) (hnn : n ≤ n') (i : Nat) : (visit L n' i).b1 ≤ (visit L n i).b1 ∧ (visit L n' i).b2 ≤ (visit L n i).b2 ∧ (visit L n' i).w1 ≤ (visit L n i).w1 ∧ (visit L n' i).w2 ≤ (visit L n i).w2 := by
  have d1 := Yd.dom_at (n := n) (n' := n') (p := pF L Prod.fst) (p' := pF L Prod.fst) hn hnn (i := i) (fun j _ => ⟨Int.le_refl _, Int.le_refl _, (ok_in h (.inl rfl) j).2.1⟩)
  have d2 := Yd.dom_at (n := n) (n' := n') (p := pF L Prod.snd) (p' := pF L Prod.snd) hn hnn (i := i) (fun j _ => ⟨Int.le_refl _, Int.le_refl _, (ok_in h (.inr rfl) j).2.1⟩)
  have r1 : Yd.rdy n' (pF L Prod.fst) i ≤ Yd.rdy n (pF L Prod.fst) i := d1.rd hn
  have r2 : Yd.rdy n' (pF L Prod.snd) i ≤ Yd.rdy n (pF L Prod.snd) i := d2.rd hn
  have b1 : Yd.bgn n' (pF L Prod.fst) i ≤ Yd.bgn n (pF L Prod.fst) i := d1.bn hn (Int.le_refl _)
  have b2 : Yd.bgn n' (pF L Prod.snd) i ≤ Yd.bgn n (pF L Prod.snd) i := d2.bn hn (Int.le_refl _)
  unfold visit
  simp only
  omega
theorem lw_from' (l : List Vs) (m b : Int) : l.foldl (fun m v => max m v.w2) b ≤ m ↔ b ≤ m ∧ ∀ v ∈ l, v.w2 ≤ m := by
  induction l generalizing b with
  | nil => simp
  | cons x l ih =>
    rw [List.foldl_cons, ih]
    constructor
    · rintro ⟨h1, h2⟩
      refine ⟨by omega, fun v hv => ?_⟩
      rcases List.mem_cons.1 hv with e | hv
      · rw [e]; omega
      · exact h2 v hv
    · rintro ⟨h1, h2⟩; exact ⟨by have := h2 x (by simp); omega, fun v hv => h2 v (List.mem_cons_of_mem _ hv)⟩
theorem lw_all {m : Int} (hm : 0 ≤ m) {L : List Tk} {n : Nat} : lw (visL L n) ≤ m ↔ ∀ i, i < L.length → (visit L n i).w2 ≤ m := by
  unfold lw
  rw [lw_from']
  constructor
  · rintro ⟨_, h⟩ i hi; exact h _ (List.mem_of_getElem? (visL_get hi))
  · intro h
    refine ⟨hm, fun v hv => ?_⟩
    obtain ⟨i, hi, rfl⟩ := List.mem_map.1 hv
    exact h i (List.mem_range.1 hi)
theorem lw_mono {L : List Tk} (h : ∀ t ∈ L, t.ok = true) {m : Int} (hm : 0 ≤ m) {n n' : Nat} (hn : 0 < n) (hnn : n ≤ n') (hl : lw (visL L n) ≤ m) : lw (visL L n') ≤ m := by
  rw [lw_all hm] at hl ⊢
  intro i hi
  have := hl i hi
  have := visit_more h hn hnn i
  omega
theorem bay_spec {f : Nat → Bool} (hf : ∀ k k', 1 ≤ k → k ≤ k' → f k = true → f k' = true) : ∀ (d i : Nat), 1 ≤ i → (∀ k, 1 ≤ k → k < i → f k = false) →
    (∃ a : Nat, bayGo f d i = ((a : Int), 0) ∧ i ≤ a ∧ a < i + d ∧ ∀ k, 1 ≤ k → (f k = true ↔ a ≤ k)) ∨ (bayGo f d i = (0, 4) ∧ ∀ k, 1 ≤ k → k < i + d → f k = false)
  | 0, i, h1, h => .inr ⟨rfl, fun k a b => h k a (by omega)⟩
  | d + 1, i, h1, h => by
    unfold bayGo
    cases e : f i with
    | true =>
      refine .inl ⟨i, by simp, Nat.le_refl _, by omega, fun k hk => ⟨fun q => ?_, fun q => hf i k h1 q e⟩⟩
      rcases Nat.lt_or_ge k i with r | r
      · rw [h k hk r] at q; cases q
      · exact r
    | false =>
      simp only [Bool.false_eq_true, if_false]
      rcases bay_spec hf d (i + 1) (by omega) (fun k a b => by
        by_cases q : k = i
        · subst q; exact e
        · exact h k a (by omega)) with ⟨a, h1, h2, h3, h4⟩ | ⟨h1, h2⟩
      · exact .inl ⟨a, h1, by omega, by omega, h4⟩
      · exact .inr ⟨h1, fun k a b => h2 k a (by omega)⟩
theorem qe_0 {L : List Tk} {n : Int} (h : qe L n = 0) : tksOk L = true ∧ 1 ≤ n ∧ n ≤ 8 := by
  unfold qe at h
  split at h
  · split at h
    · rename_i h1 h2; exact ⟨h1, inB_t h2⟩
    · cases h
  · cases h
theorem qe_of {L : List Tk} {n : Int} (h : tksOk L = true) (h1 : 1 ≤ n) (h2 : n ≤ 8) : qe L n = 0 := by
  unfold qe; rw [if_pos h, if_pos (by simp [inB]; omega)]
theorem ql_of {L : List Tk} {n : Nat} (h : qe L (n : Int) = 0) : ql L (n : Int) = visL L n := by
  unfold ql; rw [if_pos h]; rfl
theorem by_cases' {L : List Tk} {m : Int} : (by' L m = (0, 1)) ∨ (by' L m = (0, 2)) ∨ (tksOk L = true ∧ (0 ≤ m ∧ m ≤ 1048576) ∧ by' L m = bayGo (fun n => decide (lw (visL L n) ≤ m)) 8 1) := by
  unfold by'
  split
  · split
    · rename_i h1 h2; exact .inr (.inr ⟨h1, isw_t h2, rfl⟩)
    · exact .inr (.inl rfl)
  · exact .inl rfl
end Go.Ax

/-
  Station: the law StationMore, whatever the input (written by program).
-/
namespace Go.Ax
open Go Go.RowKit Go.Proofs

section
variable {kn : FuncId → Option Bool} {lo : Nat} {H : Hp}
theorem bay_12 {L : List Tk} {m : Int} : (bayGo (fun n => decide (lw (visL L n) ≤ m)) 8 1).2 = 0 ∨ (bayGo (fun n => decide (lw (visL L n) ≤ m)) 8 1).2 = 4 := by
  have key : ∀ (f : Nat → Bool) (d i : Nat), (bayGo f d i).2 = 0 ∨ (bayGo f d i).2 = 4 := by
    intro f d
    induction d with
    | zero => intro i; exact .inr rfl
    | succ d ih => intro i; unfold bayGo; split
                   · exact .inl rfl
                   · exact ih _
  exact key _ _ _
set_option maxRecDepth 100000 in
set_option maxHeartbeats 4000000 in
/-- StationMore -/
theorem law_more (hkn : kn 10 = some true) {sa : Option Addr} {N cap : Nat} {L : List Tk} {bays m : Int} (hs0 : Sl H sa N cap (tkc L)) (hl : L.length = N) (hro : RoLow lo H) (hlo : lo ≤ H.next) : ∃ H', FnX Try.prog kn lo 6 [.slice sa N cap, iv bays, iv m] H (.bool true) H' := by
  have key := fnX_low (kn := kn) (lo := lo) (H := H) (args := [.slice sa N cap, iv bays, iv m]) (Q := fun w H' => w = .bool true) Try.func6 B6 N6 Z6 L6 (by simp) ?_
  · obtain ⟨w, H', h, rfl⟩ := key; exact ⟨H', h⟩
  have hk := Keep.refl H []
  have hs := hs0
  refine wN_seq ?_
  refine wN_mov (v := .bool false) rfl ?_
  refine wN_end ?_
  refine wN_seq ?_
  refine wN_mov (v := .slice sa N cap) rfl ?_
  refine wN_len (m := N) rfl ?_
  refine wN_c_gtr (a := (N : Int)) (b := 64) rfl rfl ?_
  refine wN_end ?_
  refine And.intro (fun q1 => ?_) (fun q1 => ?_)
  · have q1 : (N : Int) > 64 := of_decide_eq_true q1
    refine wN_seq ?_
    refine wN_callf (vs := []) rfl (callX_known hkn) ?_
    refine wN_mov (v := .bool true) rfl ?_
    refine wN_end ?_
    exact And.intro trivial (Exists.intro _ (And.intro rfl rfl))
  · have q1 : ¬ ((N : Int) > 64) := of_decide_eq_false q1
    first | refine wN_skip ?_ | skip
    refine wN_seq ?_
    refine wN_mov (v := .slice sa N cap) rfl ?_
    refine wN_mov (v := iv bays) rfl ?_
    obtain ⟨wH1, H1, fH1, a1, c1, rfl, kH1, hv1, _⟩ := queue11_ok (kn := kn) (lo := lo) (H := H) (bays := bays) hs hl (hk.low hro) (by omega)
    refine wN_callf (vs := [.slice sa N cap, iv bays]) rfl (callX_args fH1) ?_
    have mH1 := kH1.1
    have hk := hk.trans kH1
    have hs := kH1.sl0 hs
    refine wN_mov (v := .tuple #[.slice a1 ((ql L bays).length) c1, iv (qe L bays)]) rfl ?_
    refine wN_pur (v := .slice a1 ((ql L bays).length) c1) rfl (by kernel_rfl) ?_
    refine wN_pur (v := iv (qe L bays)) rfl (by kernel_rfl) ?_
    refine wN_mov (v := .slice a1 ((ql L bays).length) c1) rfl ?_
    refine wN_mov (v := iv (qe L bays)) rfl ?_
    refine wN_end ?_
    refine wN_seq ?_
    refine wN_mov (v := .slice sa N cap) rfl ?_
    refine wN_mov (v := iv m) rfl ?_
    obtain ⟨H2, fH2, kH2⟩ := bays13_ok (kn := kn) (lo := lo) (H := H1) (m := m) hs hl (hk.low hro) (by omega)
    refine wN_callf (vs := [.slice sa N cap, iv m]) rfl (callX_args fH2) ?_
    have mH2 := kH2.1
    have hk := hk.trans kH2
    have hs := kH2.sl0 hs
    have hv1 := kH2.sl0 hv1
    refine wN_mov (v := .tuple #[iv ((by' L m).1), iv ((by' L m).2)]) rfl ?_
    refine wN_pur (v := iv ((by' L m).1)) rfl (by kernel_rfl) ?_
    refine wN_pur (v := iv ((by' L m).2)) rfl (by kernel_rfl) ?_
    refine wN_mov (v := iv ((by' L m).1)) rfl ?_
    refine wN_mov (v := iv ((by' L m).2)) rfl ?_
    refine wN_end ?_
    refine wN_seq ?_
    refine wN_mov (v := iv (qe L bays)) rfl ?_
    refine wN_c_eql (a := (qe L bays)) (b := 0) rfl rfl ?_
    refine wN_end ?_
    refine And.intro (fun q2 => ?_) (fun q2 => ?_)
    · have q2 : (qe L bays) = 0 := by simpa using q2
      obtain ⟨hval, hb1, hb2⟩ := qe_0 q2
      obtain ⟨n, rfl⟩ : ∃ n : Nat, bays = (n : Int) := ⟨bays.toNat, by omega⟩
      have hok := (tksOk_t hval).2
      rw [ql_of q2, visL_len] at hv1
      obtain ⟨n2, hn2⟩ : ∃ n2, n2 = min (n + 1) 8 := ⟨_, rfl⟩
      have hn2i : min ((n : Int) + 1) 8 = (n2 : Int) := by omega
      have hq2 : qe L (n2 : Int) = 0 := qe_of hval (by omega) (by omega)
      have hQ2 := ql_of hq2
      rw [ql_of q2, visL_len]
      refine wN_seq ?_
      refine wN_mov (v := .slice sa N cap) rfl ?_
      refine wN_mov (v := iv (n : Int)) rfl ?_
      refine wN_add (a := (n : Int)) (b := 1) rfl rfl ⟨by omega, by omega⟩ ?_
      refine wN_mm (a := (n : Int) + 1) (b := 8) rfl rfl ?_
      rw [show (bif true then min ((n : Int) + 1) 8 else max ((n : Int) + 1) 8) = (n2 : Int) from hn2i]
      obtain ⟨wH3, H3, fH3, a2, c2, rfl, kH3, hv2, _⟩ := queue11_ok (kn := kn) (lo := lo) (H := H2) (bays := (n2 : Int)) hs hl (hk.low hro) (by omega)
      rw [hq2, hQ2, visL_len] at fH3
      rw [hQ2, visL_len] at hv2
      refine wN_callf (vs := [.slice sa N cap, iv (n2 : Int)]) rfl (callX_args fH3) ?_
      have mH3 := kH3.1
      have hk := hk.trans kH3
      have hs := kH3.sl0 hs
      have hv1 := kH3.sl0 hv1
      refine wN_mov (v := .tuple #[.slice a2 L.length c2, iv 0]) rfl ?_
      refine wN_pur (v := .slice a2 L.length c2) rfl (by kernel_rfl) ?_
      refine wN_pur (v := iv 0) rfl (by kernel_rfl) ?_
      refine wN_mov (v := .slice a2 L.length c2) rfl ?_
      refine wN_mov (v := iv 0) rfl ?_
      refine wN_end ?_
      refine wN_seq ?_
      refine wN_mov (v := iv 0) rfl ?_
      refine wN_b_neq (a := 0) (b := 0) rfl rfl ?_
      intro t3 g3; obtain rfl : t3 = false := by rw [← g3]; rfl
      refine wN_mov (v := .bool false) rfl ?_
      refine wN_g rfl (wN_mov (v := .slice a1 L.length c1) rfl ?_)
      refine wN_g rfl (wN_len (m := L.length) rfl ?_)
      refine wN_g rfl (wN_mov (v := .slice sa N cap) rfl ?_)
      refine wN_g rfl (wN_len (m := N) rfl ?_)
      refine wN_g rfl (wN_b_neq (a := (L.length : Int)) (b := (N : Int)) rfl rfl ?_)
      intro t4 g4; cases t4
      · have g4 : ¬ ((L.length : Int) ≠ (N : Int)) := by simpa using g4
        refine wN_pur (v := .bool false) rfl rfl ?_
        refine wN_mov (v := .bool false) rfl ?_
        refine wN_g rfl (wN_mov (v := .slice a2 L.length c2) rfl ?_)
        refine wN_g rfl (wN_len (m := L.length) rfl ?_)
        refine wN_g rfl (wN_mov (v := .slice sa N cap) rfl ?_)
        refine wN_g rfl (wN_len (m := N) rfl ?_)
        refine wN_g rfl (wN_b_neq (a := (L.length : Int)) (b := (N : Int)) rfl rfl ?_)
        intro t5 g5; cases t5
        · have g5 : ¬ ((L.length : Int) ≠ (N : Int)) := by simpa using g5
          refine wN_pur (v := .bool false) rfl rfl ?_
          refine wN_end ?_
          refine condF ?_
          first | refine wN_skip ?_ | skip
          refine wN_seq ?_
          refine wN_mov (v := iv 0) rfl ?_
          refine wN_end ?_
          have hN : L.length = N := hl
          refine loop_low (fn := Try.f6) E6_1 N6 L6x1 (fun i : Nat => [(0, .slice sa N cap), (2, iv m), (7, .slice a1 L.length c1), (9, iv ((by' L m).1)), (10, iv ((by' L m).2)), (11, .slice a2 L.length c2), (13, iv (i : Int))])
            (fun k i H' => i + k = N ∧ Keep H H' [] ∧ Sl H' a1 L.length c1 (vsc (visL L n)) ∧ Sl H' a2 L.length c2 (vsc (visL L n2))) N 0 ⟨by omega, hk, hv1, hv2⟩ ⟨rfl, rfl, rfl, rfl, rfl, rfl, rfl, trivial⟩ ?_
          rintro k i L1 ⟨hik, hk, hv1, hv2⟩
          have mk0 := hk.1
          have hs := hk.sl0 hs0
          refine wN_seq ?_
          refine wN_mov (v := iv (i : Int)) rfl ?_
          refine wN_mov (v := .slice sa N cap) rfl ?_
          refine wN_len (m := N) rfl ?_
          refine wN_c_lss (a := (i : Int)) (b := (N : Int)) rfl rfl ?_
          refine wN_end ?_
          refine And.intro (fun q6 => ?_) (fun q6 => ?_)
          · have q6 : (i : Int) < (N : Int) := of_decide_eq_true q6
            have hi : i < N := by omega
            have ho := visit_ord hok (n := n) (by omega) i
            have hm := visit_more hok (n := n) (n' := n2) (by omega) (by omega) i
            have hw1 := hv1
            have hw2 := hv2
            have fw1 := hv1.old
            have fw2 := hv2.old
            rcases hv1 with ⟨_, h0, _⟩ | ⟨s1, e1, r1, _⟩
            · omega
            have l1 := r1.lt
            rcases hv2 with ⟨_, h0, _⟩ | ⟨s2, e2, r2, _⟩
            · omega
            have l2 := r2.lt
            have fs := hs.old
            first | refine wN_skip ?_ | skip
            refine wD_seq ?_
            refine wD_mov (v := .slice a1 L.length c1) rfl ?_
            refine wD_mov (v := iv (i : Int)) rfl ?_
            refine wD_idx (b := s1) (o := 0) (k := i) (j := (i : Int)) (by rw [← e1]; rfl) rfl rfl (by omega) ?_
            refine wD_lda (b := s1) (o := 0 + i * 6) rfl r1 (vsc_row (visL_get (by omega))) ?_
            refine wD_mov (v := .slice a2 L.length c2) rfl ?_
            refine wD_mov (v := iv (i : Int)) rfl ?_
            refine wD_idx (b := s2) (o := 0) (k := i) (j := (i : Int)) (by rw [← e2]; rfl) rfl rfl (by omega) ?_
            refine wD_lda (b := s2) (o := 0 + i * 6) rfl r2 (vsc_row (visL_get (by omega))) ?_
            refine wD_alc ?_
            intro H4 kH4 nH4 c4
            have c4 : Cl H4 L1.next [iv 0, iv 0, iv 0, iv 0, iv 0, iv 0] := c4
            have mH4 := kH4.1
            have hk := hk.trans kH4
            have hs := kH4.sl0 hs
            have hw1 := kH4.sl0 hw1
            have hw2 := kH4.sl0 hw2
            have r1 := kH4.rd r1 (by simp)
            have r2 := kH4.rd r2 (by simp)
            refine wD_alc ?_
            intro H5 kH5 nH5 c5
            have c5 : Cl H5 H4.next [iv 0, iv 0, iv 0, iv 0, iv 0, iv 0] := c5
            have mH5 := kH5.1
            have hk := hk.trans kH5
            have hs := kH5.sl0 hs
            have hw1 := kH5.sl0 hw1
            have hw2 := kH5.sl0 hw2
            have r1 := kH5.rd r1 (by simp)
            have r2 := kH5.rd r2 (by simp)
            have c4 := kH5.cl c4 (by simp)
            refine wD_sta (b := L1.next) (o := 0) rfl rfl c4 (by omega) rfl rfl (by simp) ?_
            intro H6 kH6 nH6 sH6
            have mH6 := kH6.1
            have hk := hk.new kH6 (fun b hb => by simp at hb ⊢; omega)
            have hs := kH6.sl hs (fun b e => by have := fs b e; first | (simp; done) | (simp; omega))
            have hw1 := kH6.sl hw1 (fun b e => by have := fw1 b e; first | (simp; done) | (simp; omega))
            have hw2 := kH6.sl hw2 (fun b e => by have := fw2 b e; first | (simp; done) | (simp; omega))
            have r1 := kH6.rd r1 (by first | (simp; done) | (simp; omega))
            have r2 := kH6.rd r2 (by first | (simp; done) | (simp; omega))
            have c5 := kH6.cl c5 (by first | (simp; done) | (simp; omega))
            have c4 : Cl H6 L1.next [iv ((visit L n i).b1), iv ((visit L n i).b2), iv ((visit L n i).e1), iv ((visit L n i).e2), iv ((visit L n i).w1), iv ((visit L n i).w2)] := sH6
            refine wD_sta (b := H4.next) (o := 0) rfl rfl c5 (by omega) rfl rfl (by simp) ?_
            intro H7 kH7 nH7 sH7
            have mH7 := kH7.1
            have hk := hk.new kH7 (fun b hb => by simp at hb ⊢; omega)
            have hs := kH7.sl hs (fun b e => by have := fs b e; first | (simp; done) | (simp; omega))
            have hw1 := kH7.sl hw1 (fun b e => by have := fw1 b e; first | (simp; done) | (simp; omega))
            have hw2 := kH7.sl hw2 (fun b e => by have := fw2 b e; first | (simp; done) | (simp; omega))
            have r1 := kH7.rd r1 (by first | (simp; done) | (simp; omega))
            have r2 := kH7.rd r2 (by first | (simp; done) | (simp; omega))
            have c4 := kH7.cl c4 (by first | (simp; done) | (simp; omega))
            have c5 : Cl H7 H4.next [iv ((visit L n2 i).b1), iv ((visit L n2 i).b2), iv ((visit L n2 i).e1), iv ((visit L n2 i).e2), iv ((visit L n2 i).w1), iv ((visit L n2 i).w2)] := sH7
            refine wD_end (by repeat' first | exact True.intro | exact (fun h => h) | refine And.intro ?_ ?_ | (intro h; have h : (_ : Nat) = _ := h; omega)) ?_
            refine wN_seq ?_
            refine wN_addo (b := L1.next) (o := 0) rfl ?_
            refine wN_addo (b := L1.next) (o := 0) rfl ?_
            refine wN_ld (b := L1.next) (o := 0) (v := iv ((visit L n i).b1)) rfl c4.rd rfl ?_
            refine wN_addo (b := L1.next) (o := 0) rfl ?_
            refine wN_addo (b := L1.next) (o := 0) rfl ?_
            refine wN_ld (b := L1.next) (o := 1) (v := iv ((visit L n i).b2)) rfl c4.rd rfl ?_
            refine wN_b_gtr (a := (visit L n i).b1) (b := (visit L n i).b2) rfl rfl ?_
            intro t7 g7; cases t7
            · have g7 : ¬ (((visit L n i).b1) > ((visit L n i).b2)) := of_decide_eq_false g7
              refine wN_mov (v := .bool false) rfl ?_
              refine wN_g rfl (wN_addo (b := L1.next) (o := 0) rfl ?_)
              refine wN_g rfl (wN_addo (b := L1.next) (o := 2) rfl ?_)
              refine wN_g rfl (wN_ld (b := L1.next) (o := 2) (v := iv ((visit L n i).e1)) rfl c4.rd rfl ?_)
              refine wN_g rfl (wN_addo (b := L1.next) (o := 0) rfl ?_)
              refine wN_g rfl (wN_addo (b := L1.next) (o := 2) rfl ?_)
              refine wN_g rfl (wN_ld (b := L1.next) (o := 3) (v := iv ((visit L n i).e2)) rfl c4.rd rfl ?_)
              refine wN_g rfl (wN_b_gtr (a := (visit L n i).e1) (b := (visit L n i).e2) rfl rfl ?_)
              intro t8 g8; cases t8
              · have g8 : ¬ (((visit L n i).e1) > ((visit L n i).e2)) := of_decide_eq_false g8
                refine wN_pur (v := .bool false) rfl rfl ?_
                refine wN_mov (v := .bool false) rfl ?_
                refine wN_g rfl (wN_addo (b := L1.next) (o := 0) rfl ?_)
                refine wN_g rfl (wN_addo (b := L1.next) (o := 4) rfl ?_)
                refine wN_g rfl (wN_ld (b := L1.next) (o := 4) (v := iv ((visit L n i).w1)) rfl c4.rd rfl ?_)
                refine wN_g rfl (wN_addo (b := L1.next) (o := 0) rfl ?_)
                refine wN_g rfl (wN_addo (b := L1.next) (o := 4) rfl ?_)
                refine wN_g rfl (wN_ld (b := L1.next) (o := 5) (v := iv ((visit L n i).w2)) rfl c4.rd rfl ?_)
                refine wN_g rfl (wN_b_gtr (a := (visit L n i).w1) (b := (visit L n i).w2) rfl rfl ?_)
                intro t9 g9; cases t9
                · have g9 : ¬ (((visit L n i).w1) > ((visit L n i).w2)) := of_decide_eq_false g9
                  refine wN_pur (v := .bool false) rfl rfl ?_
                  refine wN_mov (v := .bool false) rfl ?_
                  refine wN_g rfl (wN_addo (b := L1.next) (o := 0) rfl ?_)
                  refine wN_g rfl (wN_addo (b := L1.next) (o := 4) rfl ?_)
                  refine wN_g rfl (wN_ld (b := L1.next) (o := 4) (v := iv ((visit L n i).w1)) rfl c4.rd rfl ?_)
                  refine wN_g rfl (wN_b_lss (a := (visit L n i).w1) (b := 0) rfl rfl ?_)
                  intro t10 g10; cases t10
                  · have g10 : ¬ (((visit L n i).w1) < 0) := of_decide_eq_false g10
                    refine wN_pur (v := .bool false) rfl rfl ?_
                    refine wN_end ?_
                    refine condF ?_
                    first | refine wN_skip ?_ | skip
                    refine wN_seq ?_
                    refine wN_addo (b := H4.next) (o := 0) rfl ?_
                    refine wN_addo (b := H4.next) (o := 0) rfl ?_
                    refine wN_ld (b := H4.next) (o := 0) (v := iv ((visit L n2 i).b1)) rfl c5.rd rfl ?_
                    refine wN_addo (b := L1.next) (o := 0) rfl ?_
                    refine wN_addo (b := L1.next) (o := 0) rfl ?_
                    refine wN_ld (b := L1.next) (o := 0) (v := iv ((visit L n i).b1)) rfl c4.rd rfl ?_
                    refine wN_b_gtr (a := (visit L n2 i).b1) (b := (visit L n i).b1) rfl rfl ?_
                    intro t11 g11; cases t11
                    · have g11 : ¬ (((visit L n2 i).b1) > ((visit L n i).b1)) := of_decide_eq_false g11
                      refine wN_mov (v := .bool false) rfl ?_
                      refine wN_g rfl (wN_addo (b := H4.next) (o := 0) rfl ?_)
                      refine wN_g rfl (wN_addo (b := H4.next) (o := 0) rfl ?_)
                      refine wN_g rfl (wN_ld (b := H4.next) (o := 1) (v := iv ((visit L n2 i).b2)) rfl c5.rd rfl ?_)
                      refine wN_g rfl (wN_addo (b := L1.next) (o := 0) rfl ?_)
                      refine wN_g rfl (wN_addo (b := L1.next) (o := 0) rfl ?_)
                      refine wN_g rfl (wN_ld (b := L1.next) (o := 1) (v := iv ((visit L n i).b2)) rfl c4.rd rfl ?_)
                      refine wN_g rfl (wN_b_gtr (a := (visit L n2 i).b2) (b := (visit L n i).b2) rfl rfl ?_)
                      intro t12 g12; cases t12
                      · have g12 : ¬ (((visit L n2 i).b2) > ((visit L n i).b2)) := of_decide_eq_false g12
                        refine wN_pur (v := .bool false) rfl rfl ?_
                        refine wN_mov (v := .bool false) rfl ?_
                        refine wN_g rfl (wN_addo (b := H4.next) (o := 0) rfl ?_)
                        refine wN_g rfl (wN_addo (b := H4.next) (o := 4) rfl ?_)
                        refine wN_g rfl (wN_ld (b := H4.next) (o := 4) (v := iv ((visit L n2 i).w1)) rfl c5.rd rfl ?_)
                        refine wN_g rfl (wN_addo (b := L1.next) (o := 0) rfl ?_)
                        refine wN_g rfl (wN_addo (b := L1.next) (o := 4) rfl ?_)
                        refine wN_g rfl (wN_ld (b := L1.next) (o := 4) (v := iv ((visit L n i).w1)) rfl c4.rd rfl ?_)
                        refine wN_g rfl (wN_b_gtr (a := (visit L n2 i).w1) (b := (visit L n i).w1) rfl rfl ?_)
                        intro t13 g13; cases t13
                        · have g13 : ¬ (((visit L n2 i).w1) > ((visit L n i).w1)) := of_decide_eq_false g13
                          refine wN_pur (v := .bool false) rfl rfl ?_
                          refine wN_mov (v := .bool false) rfl ?_
                          refine wN_g rfl (wN_addo (b := H4.next) (o := 0) rfl ?_)
                          refine wN_g rfl (wN_addo (b := H4.next) (o := 4) rfl ?_)
                          refine wN_g rfl (wN_ld (b := H4.next) (o := 5) (v := iv ((visit L n2 i).w2)) rfl c5.rd rfl ?_)
                          refine wN_g rfl (wN_addo (b := L1.next) (o := 0) rfl ?_)
                          refine wN_g rfl (wN_addo (b := L1.next) (o := 4) rfl ?_)
                          refine wN_g rfl (wN_ld (b := L1.next) (o := 5) (v := iv ((visit L n i).w2)) rfl c4.rd rfl ?_)
                          refine wN_g rfl (wN_b_gtr (a := (visit L n2 i).w2) (b := (visit L n i).w2) rfl rfl ?_)
                          intro t14 g14; cases t14
                          · have g14 : ¬ (((visit L n2 i).w2) > ((visit L n i).w2)) := of_decide_eq_false g14
                            refine wN_pur (v := .bool false) rfl rfl ?_
                            refine wN_end ?_
                            refine condF ?_
                            first | refine wN_skip ?_ | skip
                            first | refine wN_reg ?_ | refine wN_blk ?_ | refine wN_bseq ?_ | (refine wOps_nil ?_; refine wN_reg ?_)
                            refine wN_mov (v := iv (i : Int)) rfl ?_
                            refine wN_add (a := (i : Int)) (b := 1) rfl rfl ⟨by omega, by omega⟩ ?_
                            refine wN_mov (v := iv ((i : Int) + 1)) rfl ?_
                            refine wN_end ?_
                            exact ⟨k - 1, i + 1, by omega, ⟨by omega, hk, hw1, hw2⟩, rfl, rfl, rfl, rfl, rfl, rfl, rfl, trivial⟩
                          · have g14 : ((visit L n2 i).w2) > ((visit L n i).w2) := of_decide_eq_true g14
                            exfalso; omega
                        · have g13 : ((visit L n2 i).w1) > ((visit L n i).w1) := of_decide_eq_true g13
                          exfalso; omega
                      · have g12 : ((visit L n2 i).b2) > ((visit L n i).b2) := of_decide_eq_true g12
                        exfalso; omega
                    · have g11 : ((visit L n2 i).b1) > ((visit L n i).b1) := of_decide_eq_true g11
                      exfalso; omega
                  · have g10 : ((visit L n i).w1) < 0 := of_decide_eq_true g10
                    exfalso; omega
                · have g9 : ((visit L n i).w1) > ((visit L n i).w2) := of_decide_eq_true g9
                  exfalso; omega
              · have g8 : ((visit L n i).e1) > ((visit L n i).e2) := of_decide_eq_true g8
                exfalso; omega
            · have g7 : ((visit L n i).b1) > ((visit L n i).b2) := of_decide_eq_true g7
              exfalso; omega
          · have q6 : ¬ ((i : Int) < (N : Int)) := of_decide_eq_false q6
            first | (refine wN_exit ?_; show wC _ _ _ _ _ _ _ _ _) | skip
            refine wN_seq ?_
            refine wN_mov (v := iv ((by' L m).2)) rfl ?_
            refine wN_b_eql (a := (by' L m).2) (b := 1) rfl rfl ?_
            intro t15 g15; cases t15
            · have g15 : ¬ (((by' L m).2) = 1) := by simpa using g15
              refine wN_mov (v := .bool false) rfl ?_
              refine wN_g rfl (wN_mov (v := iv ((by' L m).2)) rfl ?_)
              refine wN_g rfl (wN_b_eql (a := (by' L m).2) (b := 2) rfl rfl ?_)
              intro t16 g16; cases t16
              · have g16 : ¬ (((by' L m).2) = 2) := by simpa using g16
                refine wN_pur (v := .bool false) rfl rfl ?_
                refine wN_end ?_
                refine condF ?_
                first | refine wN_skip ?_ | skip
                refine wN_seq ?_
                refine wN_mov (v := iv 1) rfl ?_
                refine wN_end ?_
                obtain ⟨hval, hm, hby⟩ : tksOk L = true ∧ (0 ≤ m ∧ m ≤ 1048576) ∧ by' L m = bayGo (fun n => decide (lw (visL L n) ≤ m)) 8 1 := by
                  rcases by_cases' (L := L) (m := m) with e | e | e
                  · exfalso; have p2 := congrArg Prod.snd e; simp only at p2; omega
                  · exfalso; have p2 := congrArg Prod.snd e; simp only at p2; omega
                  · exact e
                have hok := (tksOk_t hval).2
                have hspec := bay_spec (f := fun n => decide (lw (visL L n) ≤ m)) (fun k k2 h1 h2 h3 => decide_eq_true (lw_mono hok hm.1 h1 h2 (of_decide_eq_true h3))) 8 1 (Nat.le_refl _) (fun k h1 h2 => by omega)
                rw [← hby] at hspec
                refine loop_low (fn := Try.f6) E6_2 N6 L6x2 (fun q : Nat => [(0, .slice sa N cap), (2, iv m), (9, iv ((by' L m).1)), (10, iv ((by' L m).2)), (16, iv (q : Int))])
                  (fun k q H' => q + k = 9 ∧ 1 ≤ q ∧ Keep H H' []) 8 1 ⟨by omega, by omega, hk⟩ ⟨rfl, rfl, rfl, rfl, rfl, trivial⟩ ?_
                rintro k q L2 ⟨hqk, hq1, hk⟩
                have mk0 := hk.1
                have hs := hk.sl0 hs0
                skip
                refine wN_seq ?_
                refine wN_mov (v := iv (q : Int)) rfl ?_
                refine wN_c_leq (a := (q : Int)) (b := 8) rfl rfl ?_
                refine wN_end ?_
                refine And.intro (fun q17 => ?_) (fun q17 => ?_)
                · have q17 : (q : Int) ≤ 8 := of_decide_eq_true q17
                  have hq3 : qe L (q : Int) = 0 := qe_of hval (by omega) (by omega)
                  have hQ3 := ql_of hq3
                  first | refine wN_skip ?_ | skip
                  refine wN_seq ?_
                  refine wN_mov (v := .slice sa N cap) rfl ?_
                  refine wN_mov (v := iv (q : Int)) rfl ?_
                  obtain ⟨wH8, H8, fH8, a3, c3, rfl, kH8, hv3, _⟩ := queue11_ok (kn := kn) (lo := lo) (H := L2) (bays := (q : Int)) hs hl (hk.low hro) (by omega)
                  rw [hq3, hQ3, visL_len] at fH8
                  rw [hQ3, visL_len] at hv3
                  refine wN_callf (vs := [.slice sa N cap, iv (q : Int)]) rfl (callX_args fH8) ?_
                  have mH8 := kH8.1
                  have hk := hk.trans kH8
                  have hs := kH8.sl0 hs
                  refine wN_mov (v := .tuple #[.slice a3 L.length c3, iv 0]) rfl ?_
                  refine wN_pur (v := .slice a3 L.length c3) rfl (by kernel_rfl) ?_
                  refine wN_pur (v := iv 0) rfl (by kernel_rfl) ?_
                  refine wN_mov (v := .slice a3 L.length c3) rfl ?_
                  refine wN_mov (v := iv 0) rfl ?_
                  refine wN_end ?_
                  refine wN_seq ?_
                  refine wN_mov (v := iv 0) rfl ?_
                  refine wN_c_neq (a := 0) (b := 0) rfl rfl ?_
                  refine wN_end ?_
                  refine condF ?_
                  first | refine wN_skip ?_ | skip
                  refine wN_seq ?_
                  refine wN_mov (v := .bool true) rfl ?_
                  refine wN_end ?_
                  refine wN_seq ?_
                  refine wN_mov (v := iv 0) rfl ?_
                  refine wN_end ?_
                  have lV : (visL L q).length = N := by rw [visL_len, hl]
                  refine loop_low (fn := Try.f6) E6_3 N6 L6x3 (fun j : Nat => [(0, .slice sa N cap), (2, iv m), (9, iv ((by' L m).1)), (10, iv ((by' L m).2)), (16, iv (q : Int)), (17, .slice a3 L.length c3), (19, .bool (((visL L q).take j).all (fun v => decide (v.w2 ≤ m)))), (20, iv (j : Int))])
                    (fun k j H' => j + k = N ∧ Keep H H' [] ∧ Sl H' a3 L.length c3 (vsc (visL L q))) N 0 ⟨by omega, hk, hv3⟩ ⟨rfl, rfl, rfl, rfl, rfl, rfl, rfl, rfl, trivial⟩ ?_
                  rintro k2 j L3 ⟨hjk, hk, hv3⟩
                  have mk0 := hk.1
                  refine wN_seq ?_
                  refine wN_mov (v := iv (j : Int)) rfl ?_
                  refine wN_mov (v := .slice a3 L.length c3) rfl ?_
                  refine wN_len (m := L.length) rfl ?_
                  refine wN_c_lss (a := (j : Int)) (b := (L.length : Int)) rfl rfl ?_
                  refine wN_end ?_
                  refine And.intro (fun q18 => ?_) (fun q18 => ?_)
                  · have q18 : (j : Int) < (L.length : Int) := of_decide_eq_true q18
                    have hj : j < N := by omega
                    obtain ⟨x, hx⟩ := get_some (l := visL L q) (i := j) (by omega)
                    have hw3 := hv3
                    rcases hv3 with ⟨_, h0, _⟩ | ⟨s3, e3, r3, _⟩
                    · omega
                    first | refine wN_skip ?_ | skip
                    first | refine wN_reg ?_ | refine wN_blk ?_ | refine wN_bseq ?_ | (refine wOps_nil ?_; refine wN_reg ?_)
                    refine wN_mov (v := .bool (((visL L q).take j).all (fun v => decide (v.w2 ≤ m)))) rfl ?_
                    cases hall : (((visL L q).take j).all (fun v => decide (v.w2 ≤ m)))
                    · refine wN_mov (v := .bool false) rfl ?_
                      refine wN_gs rfl ?_
                      refine wN_gs rfl ?_
                      refine wN_gs rfl ?_
                      refine wN_gs rfl ?_
                      refine wN_gs rfl ?_
                      refine wN_gs rfl ?_
                      refine wN_gs rfl ?_
                      refine wN_gs rfl ?_
                      refine wN_pur (v := .bool false) rfl rfl ?_
                      have hstep : ((((visL L q).take j).all (fun v => decide (v.w2 ≤ m))) && (fun v : Vs => decide (v.w2 ≤ m)) x) = false := by rw [hall]; rfl
                      refine wN_mov (v := .bool false) rfl ?_
                      refine wN_end ?_
                      first | refine wN_reg ?_ | refine wN_blk ?_ | refine wN_bseq ?_ | (refine wOps_nil ?_; refine wN_reg ?_)
                      refine wN_mov (v := iv (j : Int)) rfl ?_
                      refine wN_add (a := (j : Int)) (b := 1) rfl rfl ⟨by omega, by omega⟩ ?_
                      refine wN_mov (v := iv ((j : Int) + 1)) rfl ?_
                      refine wN_end ?_
                      exact ⟨k2 - 1, j + 1, by omega, ⟨by omega, hk, hw3⟩, rfl, rfl, rfl, rfl, rfl, rfl, by rw [all_step hx, hstep]; rfl, rfl, trivial⟩
                    · refine wN_mov (v := .bool true) rfl ?_
                      refine wN_g rfl (wN_mov (v := .slice a3 L.length c3) rfl ?_)
                      refine wN_g rfl (wN_mov (v := iv (j : Int)) rfl ?_)
                      refine wN_g rfl (wN_idx (b := s3) (o := 0) (k := j) (j := (j : Int)) (by rw [← e3]; rfl) rfl rfl (by omega) ?_)
                      refine wN_g rfl (wN_addo (b := s3) (o := 0 + j * 6) rfl ?_)
                      refine wN_g rfl (wN_addo (b := s3) (o := 0 + j * 6 + 4) rfl ?_)
                      refine wN_g rfl (wN_ld (b := s3) (o := 0 + j * 6 + 5) (v := iv x.w2) rfl r3 (vsc_at (j := 5) hx rfl) ?_)
                      refine wN_g rfl (wN_mov (v := iv m) rfl ?_)
                      refine wN_g rfl (wN_b_leq (a := x.w2) (b := m) rfl rfl ?_)
                      intro t19 g19; cases t19
                      · have g19 : ¬ (x.w2 ≤ m) := of_decide_eq_false g19
                        refine wN_pur (v := .bool false) rfl rfl ?_
                        have hstep : ((((visL L q).take j).all (fun v => decide (v.w2 ≤ m))) && (fun v : Vs => decide (v.w2 ≤ m)) x) = false := by rw [hall, Bool.true_and]; exact decide_eq_false (by omega)
                        refine wN_mov (v := .bool false) rfl ?_
                        refine wN_end ?_
                        first | refine wN_reg ?_ | refine wN_blk ?_ | refine wN_bseq ?_ | (refine wOps_nil ?_; refine wN_reg ?_)
                        refine wN_mov (v := iv (j : Int)) rfl ?_
                        refine wN_add (a := (j : Int)) (b := 1) rfl rfl ⟨by omega, by omega⟩ ?_
                        refine wN_mov (v := iv ((j : Int) + 1)) rfl ?_
                        refine wN_end ?_
                        exact ⟨k2 - 1, j + 1, by omega, ⟨by omega, hk, hw3⟩, rfl, rfl, rfl, rfl, rfl, rfl, by rw [all_step hx, hstep]; rfl, rfl, trivial⟩
                      · have g19 : x.w2 ≤ m := of_decide_eq_true g19
                        refine wN_pur (v := .bool true) rfl rfl ?_
                        have hstep : ((((visL L q).take j).all (fun v => decide (v.w2 ≤ m))) && (fun v : Vs => decide (v.w2 ≤ m)) x) = true := by rw [hall, Bool.true_and]; exact decide_eq_true (by omega)
                        refine wN_mov (v := .bool true) rfl ?_
                        refine wN_end ?_
                        first | refine wN_reg ?_ | refine wN_blk ?_ | refine wN_bseq ?_ | (refine wOps_nil ?_; refine wN_reg ?_)
                        refine wN_mov (v := iv (j : Int)) rfl ?_
                        refine wN_add (a := (j : Int)) (b := 1) rfl rfl ⟨by omega, by omega⟩ ?_
                        refine wN_mov (v := iv ((j : Int) + 1)) rfl ?_
                        refine wN_end ?_
                        exact ⟨k2 - 1, j + 1, by omega, ⟨by omega, hk, hw3⟩, rfl, rfl, rfl, rfl, rfl, rfl, by rw [all_step hx, hstep]; rfl, rfl, trivial⟩
                  · have q18 : ¬ ((j : Int) < (L.length : Int)) := of_decide_eq_false q18
                    have ej : j = N := by omega
                    have hlw : ((((visL L q).take j).all (fun v => decide (v.w2 ≤ m))) = true) ↔ lw (visL L q) ≤ m := by rw [ej, List.take_of_length_le (by omega)]; exact (lw_le hm.1 (visL L q)).symm
                    first | (refine wN_exit ?_; show wC _ _ _ _ _ _ _ _ _) | skip
                    refine wN_seq ?_
                    refine wN_mov (v := .bool (((visL L q).take j).all (fun v => decide (v.w2 ≤ m)))) rfl ?_
                    cases hall : (((visL L q).take j).all (fun v => decide (v.w2 ≤ m)))
                    · have hlq : ¬ lw (visL L q) ≤ m := fun z => by have := hlw.2 z; rw [hall] at this; cases this
                      refine wN_mov (v := iv ((by' L m).2)) rfl ?_
                      refine wN_b_eql (a := (by' L m).2) (b := 0) rfl rfl ?_
                      intro t20 g20; cases t20
                      · have g20 : ¬ (((by' L m).2) = 0) := by simpa using g20
                        refine wN_mov (v := .bool false) rfl ?_
                        refine wN_gs rfl ?_
                        refine wN_gs rfl ?_
                        refine wN_gs rfl ?_
                        refine wN_pur (v := .bool false) rfl rfl ?_
                        refine wN_pur (v := .bool false) rfl rfl ?_
                        refine wN_end ?_
                        refine condF ?_
                        first | refine wN_skip ?_ | skip
                        first | refine wN_reg ?_ | refine wN_blk ?_ | refine wN_bseq ?_ | (refine wOps_nil ?_; refine wN_reg ?_)
                        refine wN_mov (v := iv (q : Int)) rfl ?_
                        refine wN_add (a := (q : Int)) (b := 1) rfl rfl ⟨by omega, by omega⟩ ?_
                        refine wN_mov (v := iv ((q : Int) + 1)) rfl ?_
                        refine wN_end ?_
                        exact ⟨k - 1, q + 1, by omega, ⟨by omega, by omega, hk⟩, rfl, rfl, rfl, rfl, rfl, trivial⟩
                      · have g20 : ((by' L m).2) = 0 := by simpa using g20
                        refine wN_mov (v := .bool true) rfl ?_
                        refine wN_g rfl (wN_mov (v := iv (q : Int)) rfl ?_)
                        refine wN_g rfl (wN_mov (v := iv ((by' L m).1)) rfl ?_)
                        refine wN_g rfl (wN_b_geq (a := (q : Int)) (b := (by' L m).1) rfl rfl ?_)
                        intro t21 g21; cases t21
                        · have g21 : ¬ ((q : Int) ≥ ((by' L m).1)) := of_decide_eq_false g21
                          refine wN_pur (v := .bool false) rfl rfl ?_
                          refine wN_pur (v := .bool false) rfl rfl ?_
                          refine wN_end ?_
                          refine condF ?_
                          first | refine wN_skip ?_ | skip
                          first | refine wN_reg ?_ | refine wN_blk ?_ | refine wN_bseq ?_ | (refine wOps_nil ?_; refine wN_reg ?_)
                          refine wN_mov (v := iv (q : Int)) rfl ?_
                          refine wN_add (a := (q : Int)) (b := 1) rfl rfl ⟨by omega, by omega⟩ ?_
                          refine wN_mov (v := iv ((q : Int) + 1)) rfl ?_
                          refine wN_end ?_
                          exact ⟨k - 1, q + 1, by omega, ⟨by omega, by omega, hk⟩, rfl, rfl, rfl, rfl, rfl, trivial⟩
                        · have g21 : (q : Int) ≥ ((by' L m).1) := of_decide_eq_true g21
                          refine wN_pur (v := .bool true) rfl rfl ?_
                          exfalso
                          rcases hspec with ⟨a, ea, e1, e2, hk8⟩ | ⟨ea, hk8⟩
                          · have p1 : (by' L m).1 = (a : Int) := by rw [ea]
                            have p2 : (by' L m).2 = 0 := by rw [ea]
                            have z := hk8 q hq1; rw [decide_eq_true_eq] at z; omega
                          · have p1 : (by' L m).1 = 0 := by rw [ea]
                            have p2 : (by' L m).2 = 4 := by rw [ea]
                            have z := hk8 q hq1 (by omega); rw [decide_eq_false_iff_not] at z; omega
                    · have hlq : lw (visL L q) ≤ m := hlw.1 hall
                      refine wN_mov (v := iv ((by' L m).2)) rfl ?_
                      refine wN_b_eql (a := (by' L m).2) (b := 0) rfl rfl ?_
                      intro t22 g22; cases t22
                      · have g22 : ¬ (((by' L m).2) = 0) := by simpa using g22
                        refine wN_mov (v := .bool false) rfl ?_
                        refine wN_gs rfl ?_
                        refine wN_gs rfl ?_
                        refine wN_gs rfl ?_
                        refine wN_pur (v := .bool false) rfl rfl ?_
                        exfalso
                        rcases hspec with ⟨a, ea, e1, e2, hk8⟩ | ⟨ea, hk8⟩
                        · have p1 : (by' L m).1 = (a : Int) := by rw [ea]
                          have p2 : (by' L m).2 = 0 := by rw [ea]
                          have z := hk8 q hq1; rw [decide_eq_true_eq] at z; omega
                        · have p1 : (by' L m).1 = 0 := by rw [ea]
                          have p2 : (by' L m).2 = 4 := by rw [ea]
                          have z := hk8 q hq1 (by omega); rw [decide_eq_false_iff_not] at z; omega
                      · have g22 : ((by' L m).2) = 0 := by simpa using g22
                        refine wN_mov (v := .bool true) rfl ?_
                        refine wN_g rfl (wN_mov (v := iv (q : Int)) rfl ?_)
                        refine wN_g rfl (wN_mov (v := iv ((by' L m).1)) rfl ?_)
                        refine wN_g rfl (wN_b_geq (a := (q : Int)) (b := (by' L m).1) rfl rfl ?_)
                        intro t23 g23; cases t23
                        · have g23 : ¬ ((q : Int) ≥ ((by' L m).1)) := of_decide_eq_false g23
                          refine wN_pur (v := .bool false) rfl rfl ?_
                          exfalso
                          rcases hspec with ⟨a, ea, e1, e2, hk8⟩ | ⟨ea, hk8⟩
                          · have p1 : (by' L m).1 = (a : Int) := by rw [ea]
                            have p2 : (by' L m).2 = 0 := by rw [ea]
                            have z := hk8 q hq1; rw [decide_eq_true_eq] at z; omega
                          · have p1 : (by' L m).1 = 0 := by rw [ea]
                            have p2 : (by' L m).2 = 4 := by rw [ea]
                            have z := hk8 q hq1 (by omega); rw [decide_eq_false_iff_not] at z; omega
                        · have g23 : (q : Int) ≥ ((by' L m).1) := of_decide_eq_true g23
                          refine wN_pur (v := .bool true) rfl rfl ?_
                          refine wN_pur (v := .bool false) rfl rfl ?_
                          refine wN_end ?_
                          refine condF ?_
                          first | refine wN_skip ?_ | skip
                          first | refine wN_reg ?_ | refine wN_blk ?_ | refine wN_bseq ?_ | (refine wOps_nil ?_; refine wN_reg ?_)
                          refine wN_mov (v := iv (q : Int)) rfl ?_
                          refine wN_add (a := (q : Int)) (b := 1) rfl rfl ⟨by omega, by omega⟩ ?_
                          refine wN_mov (v := iv ((q : Int) + 1)) rfl ?_
                          refine wN_end ?_
                          exact ⟨k - 1, q + 1, by omega, ⟨by omega, by omega, hk⟩, rfl, rfl, rfl, rfl, rfl, trivial⟩
                · have q17 : ¬ ((q : Int) ≤ 8) := of_decide_eq_false q17
                  first | (refine wN_exit ?_; show wC _ _ _ _ _ _ _ _ _) | skip
                  refine wN_seq ?_
                  refine wN_mov (v := iv ((by' L m).2)) rfl ?_
                  refine wN_b_eql (a := (by' L m).2) (b := 0) rfl rfl ?_
                  intro t24 g24; cases t24
                  · have g24 : ¬ (((by' L m).2) = 0) := by simpa using g24
                    refine wN_mov (v := .bool false) rfl ?_
                    refine wN_g rfl (wN_mov (v := iv ((by' L m).2)) rfl ?_)
                    refine wN_g rfl (wN_b_eql (a := (by' L m).2) (b := 4) rfl rfl ?_)
                    intro t25 g25; cases t25
                    · have g25 : ¬ (((by' L m).2) = 4) := by simpa using g25
                      exfalso; rcases hspec with ⟨a, ea, _⟩ | ⟨ea, _⟩ <;> (have p1 := congrArg Prod.fst ea; have p2 := congrArg Prod.snd ea; simp only at p1 p2; omega)
                    · have g25 : ((by' L m).2) = 4 := by simpa using g25
                      refine wN_g rfl (wN_mov (v := .bool true) rfl ?_)
                      refine wN_g rfl (wN_mov (v := iv ((by' L m).1)) rfl ?_)
                      refine wN_g rfl (wN_b_eql (a := (by' L m).1) (b := 0) rfl rfl ?_)
                      intro t26 g26; cases t26
                      · have g26 : ¬ (((by' L m).1) = 0) := by simpa using g26
                        exfalso; rcases hspec with ⟨a, ea, _⟩ | ⟨ea, _⟩ <;> (have p1 := congrArg Prod.fst ea; have p2 := congrArg Prod.snd ea; simp only at p1 p2; omega)
                      · have g26 : ((by' L m).1) = 0 := by simpa using g26
                        refine wN_g rfl (wN_pur (v := .bool true) rfl rfl ?_)
                        refine wN_pur (v := .bool true) rfl rfl ?_
                        refine wN_mov (v := .bool true) rfl ?_
                        refine wN_g rfl (wN_callf (vs := []) rfl (callX_known hkn) ?_)
                        refine wN_pur (v := .bool true) rfl rfl ?_
                        refine wN_mov (v := .bool true) rfl ?_
                        refine wN_end ?_
                        exact And.intro trivial (Exists.intro _ (And.intro rfl rfl))
                  · have g24 : ((by' L m).2) = 0 := by simpa using g24
                    refine wN_mov (v := .bool true) rfl ?_
                    refine wN_gs rfl ?_
                    refine wN_gs rfl ?_
                    refine wN_gs rfl ?_
                    refine wN_gu rfl ?_
                    refine wN_gu rfl ?_
                    refine wN_gs rfl ?_
                    refine wN_pur (v := .bool true) rfl rfl ?_
                    refine wN_mov (v := .bool true) rfl ?_
                    refine wN_g rfl (wN_callf (vs := []) rfl (callX_known hkn) ?_)
                    refine wN_pur (v := .bool true) rfl rfl ?_
                    refine wN_mov (v := .bool true) rfl ?_
                    refine wN_end ?_
                    exact And.intro trivial (Exists.intro _ (And.intro rfl rfl))
              · have g16 : ((by' L m).2) = 2 := by simpa using g16
                refine wN_pur (v := .bool true) rfl rfl ?_
                refine wN_end ?_
                refine condT ?_
                refine wN_seq ?_
                refine wN_mov (v := iv ((by' L m).1)) rfl ?_
                have hz : (by' L m).1 = 0 := by
                  rcases by_cases' (L := L) (m := m) with e | e | ⟨_, _, e⟩
                  · simp [e]
                  · simp [e]
                  · exfalso; rcases bay_12 (L := L) (m := m) with z | z <;> rw [← e] at z <;> omega
                refine wN_eql (a := 0) (by rw [← hz]; rfl) rfl ?_
                refine wN_mov (v := .bool true) rfl ?_
                refine wN_g rfl (wN_callf (vs := []) rfl (callX_known hkn) ?_)
                refine wN_pur (v := .bool true) rfl rfl ?_
                refine wN_mov (v := .bool true) rfl ?_
                refine wN_end ?_
                exact And.intro trivial (Exists.intro _ (And.intro rfl rfl))
            · have g15 : ((by' L m).2) = 1 := by simpa using g15
              refine wN_mov (v := .bool true) rfl ?_
              refine wN_gs rfl ?_
              refine wN_gs rfl ?_
              refine wN_pur (v := .bool true) rfl rfl ?_
              refine wN_end ?_
              refine condT ?_
              refine wN_seq ?_
              refine wN_mov (v := iv ((by' L m).1)) rfl ?_
              have hz : (by' L m).1 = 0 := by
                rcases by_cases' (L := L) (m := m) with e | e | ⟨_, _, e⟩
                · simp [e]
                · simp [e]
                · exfalso; rcases bay_12 (L := L) (m := m) with z | z <;> rw [← e] at z <;> omega
              refine wN_eql (a := 0) (by rw [← hz]; rfl) rfl ?_
              refine wN_mov (v := .bool true) rfl ?_
              refine wN_g rfl (wN_callf (vs := []) rfl (callX_known hkn) ?_)
              refine wN_pur (v := .bool true) rfl rfl ?_
              refine wN_mov (v := .bool true) rfl ?_
              refine wN_end ?_
              exact And.intro trivial (Exists.intro _ (And.intro rfl rfl))
        · have g5 : (L.length : Int) ≠ (N : Int) := by simpa using g5
          exfalso; omega
      · have g4 : (L.length : Int) ≠ (N : Int) := by simpa using g4
        exfalso; omega
    · have q2 : ¬ ((qe L bays) = 0) := by simpa using q2
      first | refine wN_skip ?_ | skip
      refine wN_seq ?_
      refine wN_mov (v := iv ((by' L m).2)) rfl ?_
      refine wN_b_eql (a := (by' L m).2) (b := 1) rfl rfl ?_
      intro t27 g27; cases t27
      · have g27 : ¬ (((by' L m).2) = 1) := by simpa using g27
        refine wN_mov (v := .bool false) rfl ?_
        refine wN_g rfl (wN_mov (v := iv ((by' L m).2)) rfl ?_)
        refine wN_g rfl (wN_b_eql (a := (by' L m).2) (b := 2) rfl rfl ?_)
        intro t28 g28; cases t28
        · have g28 : ¬ (((by' L m).2) = 2) := by simpa using g28
          refine wN_pur (v := .bool false) rfl rfl ?_
          refine wN_end ?_
          refine condF ?_
          first | refine wN_skip ?_ | skip
          refine wN_seq ?_
          refine wN_mov (v := iv 1) rfl ?_
          refine wN_end ?_
          obtain ⟨hval, hm, hby⟩ : tksOk L = true ∧ (0 ≤ m ∧ m ≤ 1048576) ∧ by' L m = bayGo (fun n => decide (lw (visL L n) ≤ m)) 8 1 := by
            rcases by_cases' (L := L) (m := m) with e | e | e
            · exfalso; have p2 := congrArg Prod.snd e; simp only at p2; omega
            · exfalso; have p2 := congrArg Prod.snd e; simp only at p2; omega
            · exact e
          have hok := (tksOk_t hval).2
          have hspec := bay_spec (f := fun n => decide (lw (visL L n) ≤ m)) (fun k k2 h1 h2 h3 => decide_eq_true (lw_mono hok hm.1 h1 h2 (of_decide_eq_true h3))) 8 1 (Nat.le_refl _) (fun k h1 h2 => by omega)
          rw [← hby] at hspec
          refine loop_low (fn := Try.f6) E6_2 N6 L6x2 (fun q : Nat => [(0, .slice sa N cap), (2, iv m), (9, iv ((by' L m).1)), (10, iv ((by' L m).2)), (16, iv (q : Int))])
            (fun k q H' => q + k = 9 ∧ 1 ≤ q ∧ Keep H H' []) 8 1 ⟨by omega, by omega, hk⟩ ⟨rfl, rfl, rfl, rfl, rfl, trivial⟩ ?_
          rintro k q L2 ⟨hqk, hq1, hk⟩
          have mk0 := hk.1
          have hs := hk.sl0 hs0
          skip
          refine wN_seq ?_
          refine wN_mov (v := iv (q : Int)) rfl ?_
          refine wN_c_leq (a := (q : Int)) (b := 8) rfl rfl ?_
          refine wN_end ?_
          refine And.intro (fun q29 => ?_) (fun q29 => ?_)
          · have q29 : (q : Int) ≤ 8 := of_decide_eq_true q29
            have hq3 : qe L (q : Int) = 0 := qe_of hval (by omega) (by omega)
            have hQ3 := ql_of hq3
            first | refine wN_skip ?_ | skip
            refine wN_seq ?_
            refine wN_mov (v := .slice sa N cap) rfl ?_
            refine wN_mov (v := iv (q : Int)) rfl ?_
            obtain ⟨wH9, H9, fH9, a3, c3, rfl, kH9, hv3, _⟩ := queue11_ok (kn := kn) (lo := lo) (H := L2) (bays := (q : Int)) hs hl (hk.low hro) (by omega)
            rw [hq3, hQ3, visL_len] at fH9
            rw [hQ3, visL_len] at hv3
            refine wN_callf (vs := [.slice sa N cap, iv (q : Int)]) rfl (callX_args fH9) ?_
            have mH9 := kH9.1
            have hk := hk.trans kH9
            have hs := kH9.sl0 hs
            refine wN_mov (v := .tuple #[.slice a3 L.length c3, iv 0]) rfl ?_
            refine wN_pur (v := .slice a3 L.length c3) rfl (by kernel_rfl) ?_
            refine wN_pur (v := iv 0) rfl (by kernel_rfl) ?_
            refine wN_mov (v := .slice a3 L.length c3) rfl ?_
            refine wN_mov (v := iv 0) rfl ?_
            refine wN_end ?_
            refine wN_seq ?_
            refine wN_mov (v := iv 0) rfl ?_
            refine wN_c_neq (a := 0) (b := 0) rfl rfl ?_
            refine wN_end ?_
            refine condF ?_
            first | refine wN_skip ?_ | skip
            refine wN_seq ?_
            refine wN_mov (v := .bool true) rfl ?_
            refine wN_end ?_
            refine wN_seq ?_
            refine wN_mov (v := iv 0) rfl ?_
            refine wN_end ?_
            have lV : (visL L q).length = N := by rw [visL_len, hl]
            refine loop_low (fn := Try.f6) E6_3 N6 L6x3 (fun j : Nat => [(0, .slice sa N cap), (2, iv m), (9, iv ((by' L m).1)), (10, iv ((by' L m).2)), (16, iv (q : Int)), (17, .slice a3 L.length c3), (19, .bool (((visL L q).take j).all (fun v => decide (v.w2 ≤ m)))), (20, iv (j : Int))])
              (fun k j H' => j + k = N ∧ Keep H H' [] ∧ Sl H' a3 L.length c3 (vsc (visL L q))) N 0 ⟨by omega, hk, hv3⟩ ⟨rfl, rfl, rfl, rfl, rfl, rfl, rfl, rfl, trivial⟩ ?_
            rintro k2 j L3 ⟨hjk, hk, hv3⟩
            have mk0 := hk.1
            refine wN_seq ?_
            refine wN_mov (v := iv (j : Int)) rfl ?_
            refine wN_mov (v := .slice a3 L.length c3) rfl ?_
            refine wN_len (m := L.length) rfl ?_
            refine wN_c_lss (a := (j : Int)) (b := (L.length : Int)) rfl rfl ?_
            refine wN_end ?_
            refine And.intro (fun q30 => ?_) (fun q30 => ?_)
            · have q30 : (j : Int) < (L.length : Int) := of_decide_eq_true q30
              have hj : j < N := by omega
              obtain ⟨x, hx⟩ := get_some (l := visL L q) (i := j) (by omega)
              have hw3 := hv3
              rcases hv3 with ⟨_, h0, _⟩ | ⟨s3, e3, r3, _⟩
              · omega
              first | refine wN_skip ?_ | skip
              first | refine wN_reg ?_ | refine wN_blk ?_ | refine wN_bseq ?_ | (refine wOps_nil ?_; refine wN_reg ?_)
              refine wN_mov (v := .bool (((visL L q).take j).all (fun v => decide (v.w2 ≤ m)))) rfl ?_
              cases hall : (((visL L q).take j).all (fun v => decide (v.w2 ≤ m)))
              · refine wN_mov (v := .bool false) rfl ?_
                refine wN_gs rfl ?_
                refine wN_gs rfl ?_
                refine wN_gs rfl ?_
                refine wN_gs rfl ?_
                refine wN_gs rfl ?_
                refine wN_gs rfl ?_
                refine wN_gs rfl ?_
                refine wN_gs rfl ?_
                refine wN_pur (v := .bool false) rfl rfl ?_
                have hstep : ((((visL L q).take j).all (fun v => decide (v.w2 ≤ m))) && (fun v : Vs => decide (v.w2 ≤ m)) x) = false := by rw [hall]; rfl
                refine wN_mov (v := .bool false) rfl ?_
                refine wN_end ?_
                first | refine wN_reg ?_ | refine wN_blk ?_ | refine wN_bseq ?_ | (refine wOps_nil ?_; refine wN_reg ?_)
                refine wN_mov (v := iv (j : Int)) rfl ?_
                refine wN_add (a := (j : Int)) (b := 1) rfl rfl ⟨by omega, by omega⟩ ?_
                refine wN_mov (v := iv ((j : Int) + 1)) rfl ?_
                refine wN_end ?_
                exact ⟨k2 - 1, j + 1, by omega, ⟨by omega, hk, hw3⟩, rfl, rfl, rfl, rfl, rfl, rfl, by rw [all_step hx, hstep]; rfl, rfl, trivial⟩
              · refine wN_mov (v := .bool true) rfl ?_
                refine wN_g rfl (wN_mov (v := .slice a3 L.length c3) rfl ?_)
                refine wN_g rfl (wN_mov (v := iv (j : Int)) rfl ?_)
                refine wN_g rfl (wN_idx (b := s3) (o := 0) (k := j) (j := (j : Int)) (by rw [← e3]; rfl) rfl rfl (by omega) ?_)
                refine wN_g rfl (wN_addo (b := s3) (o := 0 + j * 6) rfl ?_)
                refine wN_g rfl (wN_addo (b := s3) (o := 0 + j * 6 + 4) rfl ?_)
                refine wN_g rfl (wN_ld (b := s3) (o := 0 + j * 6 + 5) (v := iv x.w2) rfl r3 (vsc_at (j := 5) hx rfl) ?_)
                refine wN_g rfl (wN_mov (v := iv m) rfl ?_)
                refine wN_g rfl (wN_b_leq (a := x.w2) (b := m) rfl rfl ?_)
                intro t31 g31; cases t31
                · have g31 : ¬ (x.w2 ≤ m) := of_decide_eq_false g31
                  refine wN_pur (v := .bool false) rfl rfl ?_
                  have hstep : ((((visL L q).take j).all (fun v => decide (v.w2 ≤ m))) && (fun v : Vs => decide (v.w2 ≤ m)) x) = false := by rw [hall, Bool.true_and]; exact decide_eq_false (by omega)
                  refine wN_mov (v := .bool false) rfl ?_
                  refine wN_end ?_
                  first | refine wN_reg ?_ | refine wN_blk ?_ | refine wN_bseq ?_ | (refine wOps_nil ?_; refine wN_reg ?_)
                  refine wN_mov (v := iv (j : Int)) rfl ?_
                  refine wN_add (a := (j : Int)) (b := 1) rfl rfl ⟨by omega, by omega⟩ ?_
                  refine wN_mov (v := iv ((j : Int) + 1)) rfl ?_
                  refine wN_end ?_
                  exact ⟨k2 - 1, j + 1, by omega, ⟨by omega, hk, hw3⟩, rfl, rfl, rfl, rfl, rfl, rfl, by rw [all_step hx, hstep]; rfl, rfl, trivial⟩
                · have g31 : x.w2 ≤ m := of_decide_eq_true g31
                  refine wN_pur (v := .bool true) rfl rfl ?_
                  have hstep : ((((visL L q).take j).all (fun v => decide (v.w2 ≤ m))) && (fun v : Vs => decide (v.w2 ≤ m)) x) = true := by rw [hall, Bool.true_and]; exact decide_eq_true (by omega)
                  refine wN_mov (v := .bool true) rfl ?_
                  refine wN_end ?_
                  first | refine wN_reg ?_ | refine wN_blk ?_ | refine wN_bseq ?_ | (refine wOps_nil ?_; refine wN_reg ?_)
                  refine wN_mov (v := iv (j : Int)) rfl ?_
                  refine wN_add (a := (j : Int)) (b := 1) rfl rfl ⟨by omega, by omega⟩ ?_
                  refine wN_mov (v := iv ((j : Int) + 1)) rfl ?_
                  refine wN_end ?_
                  exact ⟨k2 - 1, j + 1, by omega, ⟨by omega, hk, hw3⟩, rfl, rfl, rfl, rfl, rfl, rfl, by rw [all_step hx, hstep]; rfl, rfl, trivial⟩
            · have q30 : ¬ ((j : Int) < (L.length : Int)) := of_decide_eq_false q30
              have ej : j = N := by omega
              have hlw : ((((visL L q).take j).all (fun v => decide (v.w2 ≤ m))) = true) ↔ lw (visL L q) ≤ m := by rw [ej, List.take_of_length_le (by omega)]; exact (lw_le hm.1 (visL L q)).symm
              first | (refine wN_exit ?_; show wC _ _ _ _ _ _ _ _ _) | skip
              refine wN_seq ?_
              refine wN_mov (v := .bool (((visL L q).take j).all (fun v => decide (v.w2 ≤ m)))) rfl ?_
              cases hall : (((visL L q).take j).all (fun v => decide (v.w2 ≤ m)))
              · have hlq : ¬ lw (visL L q) ≤ m := fun z => by have := hlw.2 z; rw [hall] at this; cases this
                refine wN_mov (v := iv ((by' L m).2)) rfl ?_
                refine wN_b_eql (a := (by' L m).2) (b := 0) rfl rfl ?_
                intro t32 g32; cases t32
                · have g32 : ¬ (((by' L m).2) = 0) := by simpa using g32
                  refine wN_mov (v := .bool false) rfl ?_
                  refine wN_gs rfl ?_
                  refine wN_gs rfl ?_
                  refine wN_gs rfl ?_
                  refine wN_pur (v := .bool false) rfl rfl ?_
                  refine wN_pur (v := .bool false) rfl rfl ?_
                  refine wN_end ?_
                  refine condF ?_
                  first | refine wN_skip ?_ | skip
                  first | refine wN_reg ?_ | refine wN_blk ?_ | refine wN_bseq ?_ | (refine wOps_nil ?_; refine wN_reg ?_)
                  refine wN_mov (v := iv (q : Int)) rfl ?_
                  refine wN_add (a := (q : Int)) (b := 1) rfl rfl ⟨by omega, by omega⟩ ?_
                  refine wN_mov (v := iv ((q : Int) + 1)) rfl ?_
                  refine wN_end ?_
                  exact ⟨k - 1, q + 1, by omega, ⟨by omega, by omega, hk⟩, rfl, rfl, rfl, rfl, rfl, trivial⟩
                · have g32 : ((by' L m).2) = 0 := by simpa using g32
                  refine wN_mov (v := .bool true) rfl ?_
                  refine wN_g rfl (wN_mov (v := iv (q : Int)) rfl ?_)
                  refine wN_g rfl (wN_mov (v := iv ((by' L m).1)) rfl ?_)
                  refine wN_g rfl (wN_b_geq (a := (q : Int)) (b := (by' L m).1) rfl rfl ?_)
                  intro t33 g33; cases t33
                  · have g33 : ¬ ((q : Int) ≥ ((by' L m).1)) := of_decide_eq_false g33
                    refine wN_pur (v := .bool false) rfl rfl ?_
                    refine wN_pur (v := .bool false) rfl rfl ?_
                    refine wN_end ?_
                    refine condF ?_
                    first | refine wN_skip ?_ | skip
                    first | refine wN_reg ?_ | refine wN_blk ?_ | refine wN_bseq ?_ | (refine wOps_nil ?_; refine wN_reg ?_)
                    refine wN_mov (v := iv (q : Int)) rfl ?_
                    refine wN_add (a := (q : Int)) (b := 1) rfl rfl ⟨by omega, by omega⟩ ?_
                    refine wN_mov (v := iv ((q : Int) + 1)) rfl ?_
                    refine wN_end ?_
                    exact ⟨k - 1, q + 1, by omega, ⟨by omega, by omega, hk⟩, rfl, rfl, rfl, rfl, rfl, trivial⟩
                  · have g33 : (q : Int) ≥ ((by' L m).1) := of_decide_eq_true g33
                    refine wN_pur (v := .bool true) rfl rfl ?_
                    exfalso
                    rcases hspec with ⟨a, ea, e1, e2, hk8⟩ | ⟨ea, hk8⟩
                    · have p1 : (by' L m).1 = (a : Int) := by rw [ea]
                      have p2 : (by' L m).2 = 0 := by rw [ea]
                      have z := hk8 q hq1; rw [decide_eq_true_eq] at z; omega
                    · have p1 : (by' L m).1 = 0 := by rw [ea]
                      have p2 : (by' L m).2 = 4 := by rw [ea]
                      have z := hk8 q hq1 (by omega); rw [decide_eq_false_iff_not] at z; omega
              · have hlq : lw (visL L q) ≤ m := hlw.1 hall
                refine wN_mov (v := iv ((by' L m).2)) rfl ?_
                refine wN_b_eql (a := (by' L m).2) (b := 0) rfl rfl ?_
                intro t34 g34; cases t34
                · have g34 : ¬ (((by' L m).2) = 0) := by simpa using g34
                  refine wN_mov (v := .bool false) rfl ?_
                  refine wN_gs rfl ?_
                  refine wN_gs rfl ?_
                  refine wN_gs rfl ?_
                  refine wN_pur (v := .bool false) rfl rfl ?_
                  exfalso
                  rcases hspec with ⟨a, ea, e1, e2, hk8⟩ | ⟨ea, hk8⟩
                  · have p1 : (by' L m).1 = (a : Int) := by rw [ea]
                    have p2 : (by' L m).2 = 0 := by rw [ea]
                    have z := hk8 q hq1; rw [decide_eq_true_eq] at z; omega
                  · have p1 : (by' L m).1 = 0 := by rw [ea]
                    have p2 : (by' L m).2 = 4 := by rw [ea]
                    have z := hk8 q hq1 (by omega); rw [decide_eq_false_iff_not] at z; omega
                · have g34 : ((by' L m).2) = 0 := by simpa using g34
                  refine wN_mov (v := .bool true) rfl ?_
                  refine wN_g rfl (wN_mov (v := iv (q : Int)) rfl ?_)
                  refine wN_g rfl (wN_mov (v := iv ((by' L m).1)) rfl ?_)
                  refine wN_g rfl (wN_b_geq (a := (q : Int)) (b := (by' L m).1) rfl rfl ?_)
                  intro t35 g35; cases t35
                  · have g35 : ¬ ((q : Int) ≥ ((by' L m).1)) := of_decide_eq_false g35
                    refine wN_pur (v := .bool false) rfl rfl ?_
                    exfalso
                    rcases hspec with ⟨a, ea, e1, e2, hk8⟩ | ⟨ea, hk8⟩
                    · have p1 : (by' L m).1 = (a : Int) := by rw [ea]
                      have p2 : (by' L m).2 = 0 := by rw [ea]
                      have z := hk8 q hq1; rw [decide_eq_true_eq] at z; omega
                    · have p1 : (by' L m).1 = 0 := by rw [ea]
                      have p2 : (by' L m).2 = 4 := by rw [ea]
                      have z := hk8 q hq1 (by omega); rw [decide_eq_false_iff_not] at z; omega
                  · have g35 : (q : Int) ≥ ((by' L m).1) := of_decide_eq_true g35
                    refine wN_pur (v := .bool true) rfl rfl ?_
                    refine wN_pur (v := .bool false) rfl rfl ?_
                    refine wN_end ?_
                    refine condF ?_
                    first | refine wN_skip ?_ | skip
                    first | refine wN_reg ?_ | refine wN_blk ?_ | refine wN_bseq ?_ | (refine wOps_nil ?_; refine wN_reg ?_)
                    refine wN_mov (v := iv (q : Int)) rfl ?_
                    refine wN_add (a := (q : Int)) (b := 1) rfl rfl ⟨by omega, by omega⟩ ?_
                    refine wN_mov (v := iv ((q : Int) + 1)) rfl ?_
                    refine wN_end ?_
                    exact ⟨k - 1, q + 1, by omega, ⟨by omega, by omega, hk⟩, rfl, rfl, rfl, rfl, rfl, trivial⟩
          · have q29 : ¬ ((q : Int) ≤ 8) := of_decide_eq_false q29
            first | (refine wN_exit ?_; show wC _ _ _ _ _ _ _ _ _) | skip
            refine wN_seq ?_
            refine wN_mov (v := iv ((by' L m).2)) rfl ?_
            refine wN_b_eql (a := (by' L m).2) (b := 0) rfl rfl ?_
            intro t36 g36; cases t36
            · have g36 : ¬ (((by' L m).2) = 0) := by simpa using g36
              refine wN_mov (v := .bool false) rfl ?_
              refine wN_g rfl (wN_mov (v := iv ((by' L m).2)) rfl ?_)
              refine wN_g rfl (wN_b_eql (a := (by' L m).2) (b := 4) rfl rfl ?_)
              intro t37 g37; cases t37
              · have g37 : ¬ (((by' L m).2) = 4) := by simpa using g37
                exfalso; rcases hspec with ⟨a, ea, _⟩ | ⟨ea, _⟩ <;> (have p1 := congrArg Prod.fst ea; have p2 := congrArg Prod.snd ea; simp only at p1 p2; omega)
              · have g37 : ((by' L m).2) = 4 := by simpa using g37
                refine wN_g rfl (wN_mov (v := .bool true) rfl ?_)
                refine wN_g rfl (wN_mov (v := iv ((by' L m).1)) rfl ?_)
                refine wN_g rfl (wN_b_eql (a := (by' L m).1) (b := 0) rfl rfl ?_)
                intro t38 g38; cases t38
                · have g38 : ¬ (((by' L m).1) = 0) := by simpa using g38
                  exfalso; rcases hspec with ⟨a, ea, _⟩ | ⟨ea, _⟩ <;> (have p1 := congrArg Prod.fst ea; have p2 := congrArg Prod.snd ea; simp only at p1 p2; omega)
                · have g38 : ((by' L m).1) = 0 := by simpa using g38
                  refine wN_g rfl (wN_pur (v := .bool true) rfl rfl ?_)
                  refine wN_pur (v := .bool true) rfl rfl ?_
                  refine wN_mov (v := .bool true) rfl ?_
                  refine wN_g rfl (wN_callf (vs := []) rfl (callX_known hkn) ?_)
                  refine wN_pur (v := .bool true) rfl rfl ?_
                  refine wN_mov (v := .bool true) rfl ?_
                  refine wN_end ?_
                  exact And.intro trivial (Exists.intro _ (And.intro rfl rfl))
            · have g36 : ((by' L m).2) = 0 := by simpa using g36
              refine wN_mov (v := .bool true) rfl ?_
              refine wN_gs rfl ?_
              refine wN_gs rfl ?_
              refine wN_gs rfl ?_
              refine wN_gu rfl ?_
              refine wN_gu rfl ?_
              refine wN_gs rfl ?_
              refine wN_pur (v := .bool true) rfl rfl ?_
              refine wN_mov (v := .bool true) rfl ?_
              refine wN_g rfl (wN_callf (vs := []) rfl (callX_known hkn) ?_)
              refine wN_pur (v := .bool true) rfl rfl ?_
              refine wN_mov (v := .bool true) rfl ?_
              refine wN_end ?_
              exact And.intro trivial (Exists.intro _ (And.intro rfl rfl))
        · have g28 : ((by' L m).2) = 2 := by simpa using g28
          refine wN_pur (v := .bool true) rfl rfl ?_
          refine wN_end ?_
          refine condT ?_
          refine wN_seq ?_
          refine wN_mov (v := iv ((by' L m).1)) rfl ?_
          have hz : (by' L m).1 = 0 := by
            rcases by_cases' (L := L) (m := m) with e | e | ⟨_, _, e⟩
            · simp [e]
            · simp [e]
            · exfalso; rcases bay_12 (L := L) (m := m) with z | z <;> rw [← e] at z <;> omega
          refine wN_eql (a := 0) (by rw [← hz]; rfl) rfl ?_
          refine wN_mov (v := .bool true) rfl ?_
          refine wN_g rfl (wN_callf (vs := []) rfl (callX_known hkn) ?_)
          refine wN_pur (v := .bool true) rfl rfl ?_
          refine wN_mov (v := .bool true) rfl ?_
          refine wN_end ?_
          exact And.intro trivial (Exists.intro _ (And.intro rfl rfl))
      · have g27 : ((by' L m).2) = 1 := by simpa using g27
        refine wN_mov (v := .bool true) rfl ?_
        refine wN_gs rfl ?_
        refine wN_gs rfl ?_
        refine wN_pur (v := .bool true) rfl rfl ?_
        refine wN_end ?_
        refine condT ?_
        refine wN_seq ?_
        refine wN_mov (v := iv ((by' L m).1)) rfl ?_
        have hz : (by' L m).1 = 0 := by
          rcases by_cases' (L := L) (m := m) with e | e | ⟨_, _, e⟩
          · simp [e]
          · simp [e]
          · exfalso; rcases bay_12 (L := L) (m := m) with z | z <;> rw [← e] at z <;> omega
        refine wN_eql (a := 0) (by rw [← hz]; rfl) rfl ?_
        refine wN_mov (v := .bool true) rfl ?_
        refine wN_g rfl (wN_callf (vs := []) rfl (callX_known hkn) ?_)
        refine wN_pur (v := .bool true) rfl rfl ?_
        refine wN_mov (v := .bool true) rfl ?_
        refine wN_end ?_
        exact And.intro trivial (Exists.intro _ (And.intro rfl rfl))
end
end Go.Ax

namespace Go.Ax
open Go Go.RowKit Go.Proofs Go.ChangeShapes Go.WideShapes Go.Deep

/-- A type whose cells are whole numbers. -/
def IntT (P : Program) (t : TypeId) : Prop := ∀ (H : Type) (enc : TypeId × Value → H) (w : World) (base : Nat) (spare : Nat → Bool) (held : Bool) (fuel : Nat) (cs : List Value) (x : DataW H × List MemPlace),
  DataW.trod enc P w base spare held fuel t cs = some x → cs.length = P.cellsOf t ∧ ∀ j, j < cs.length → ∃ n, cs[j]? = some (.int .i64 n)
theorem IntT.int {P : Program} {t : TypeId} (ht : P.underlying t = some (.int .i64)) (hc : P.cellsOf t = 1) : IntT P t := by
  intro H enc w base spare held fuel cs x h
  obtain ⟨n, rfl, _⟩ := DataW.trod_int ht h
  refine ⟨by rw [hc]; rfl, fun j hj => ⟨n, ?_⟩⟩
  have : j = 0 := by simp at hj; omega
  subst this; rfl
theorem IntT.struct {P : Program} {t : TypeId} {fs : Array Field} (ht : P.underlying t = some (.struct fs)) (hf : ∀ f ∈ fs.toList, IntT P f.type)
    (hcov : ((List.range (P.cellsOf t)).all fun j => fs.toList.any fun f => decide (f.offset ≤ j) && decide (j < f.offset + P.cellsOf f.type)) = true) : IntT P t := by
  intro H enc w base spare held fuel cs x h
  obtain ⟨xs, n, _, _, hlen, hxl, hg⟩ := DataW.trod_struct ht h
  refine ⟨hlen, fun j hj => ?_⟩
  have h1 := List.all_eq_true.1 hcov j (List.mem_range.2 (by omega))
  obtain ⟨f, hfm, h2⟩ := List.any_eq_true.1 h1
  simp only [Bool.and_eq_true, decide_eq_true_eq] at h2
  obtain ⟨i, hi, hfi⟩ := List.getElem_of_mem hfm
  have hfs : fs[i]? = some f := by
    rw [← Array.getElem?_toList, List.getElem?_eq_getElem hi, hfi]
  have hi2 : i < xs.length := by simpa [hxl] using hi
  have h3 := hg i f hfs
  rw [List.getElem?_eq_getElem hi2] at h3
  obtain ⟨h4, h5⟩ := hf f hfm _ _ _ _ _ _ _ _ _ h3
  obtain ⟨m, hm⟩ := h5 (j - f.offset) (by omega)
  refine ⟨m, ?_⟩
  rw [List.getElem?_take] at hm
  split at hm
  · rw [List.getElem?_drop, show f.offset + (j - f.offset) = j by omega] at hm; exact hm
  · cases hm

/-- A slice of rows of whole numbers, as it is given. -/
structure Given {α : Type} (w : World) (v : Value) (f : α → List Value) (l : List α) (x : Imp) : Prop where
  ok : ∀ (i : Nat) u, x.cs[i]? = some u → w.cell? ⟨x.blk, x.off + i, none⟩ = some u ∧ flat1 u = true
  cs : x.cs = l.flatMap f
  v : (v = .slice none 0 0 ∧ l = []) ∨ ∃ cap, v = .slice (some ⟨x.blk, x.off, none⟩) l.length cap ∧ l.length ≤ cap
theorem flat_get {α : Type} {f : α → List Value} {k : Nat} (hk : 0 < k) : ∀ {l : List α} (_ : ∀ x ∈ l, (f x).length = k) (i : Nat) (u : Value), (l.flatMap f)[i]? = some u → ∃ x, l[i / k]? = some x ∧ (f x)[i % k]? = some u
  | [], _, i, u, h => by simp at h
  | y :: r, hl, i, u, h => by
    have hy := hl y (List.mem_cons_self ..)
    rw [List.flatMap_cons, List.getElem?_append] at h
    split at h
    · rename_i q
      rw [hy] at q
      refine ⟨y, ?_, ?_⟩
      · rw [Nat.div_eq_of_lt q]; rfl
      · rw [Nat.mod_eq_of_lt q]; exact h
    · rename_i q
      rw [hy] at q h
      obtain ⟨x, h1, h2⟩ := flat_get hk (fun x hx => hl x (List.mem_cons_of_mem _ hx)) _ u h
      refine ⟨x, ?_, ?_⟩
      · rw [Nat.div_eq_sub_div hk (by omega)]; exact h1
      · rw [Nat.mod_eq_sub_mod (by omega)]; exact h2
theorem slice_given {H : Type} {enc : TypeId × Value → H} {P : Program} {w : World} {base b0 : Nat} {r : Reach} {held : Bool} {α : Type} (f : α → List Value) (mk : (Nat → Int) → α) (k : Nat) {t e : TypeId} {fuel : Nat} {v : Value} {x : DataW H × List MemPlace}
    (ht : P.underlying t = some (.slice e)) (hI : IntT P e) (hc : P.cellsOf e = k) (hk : 0 < k) (hmk : ∀ N : Nat → Int, f (mk N) = (List.range k).map fun j => Value.int .i64 (N j))
    (hok : Cell.okWide P w r b0 t v) (h : DataW.trod enc P w base (fun _ => true) held fuel t [v] = some x) : ∃ (l : List α) (y : Imp), Given w v f l y := by
  rcases open_slice ht h with ⟨h0, _⟩ | ⟨a, len, cap, m, n, D, Pl, hcs, hb, hl, hm, hmm, hx, hi⟩
  · cases h0
    exact ⟨[], ⟨0, 0, []⟩, fun i u e => by simp at e, rfl, .inl ⟨rfl, rfl⟩⟩
  · cases hcs
    obtain ⟨blk, off, spot⟩ := a
    have hs : spot = none := by
      unfold Cell.okWide at hok
      rw [ht] at hok
      unfold Cell.ok at hok
      simp only [ht] at hok
      exact hok.2.2.2.1
    subst hs
    simp only [if_true] at hmm
    subst hmm
    have hcell : ∀ i, i < len → ∀ j, j < k → ∃ n, w.cell? ⟨blk, off + (i * k + j), none⟩ = some (.int .i64 n) := by
      intro i hil j hj
      obtain ⟨cs', h1, h2⟩ := hi i (by omega)
      obtain ⟨h3, h4⟩ := hI _ _ _ _ _ _ _ _ _ h2
      obtain ⟨_, h5, h6⟩ := World.cells?_some h1
      obtain ⟨n, hn⟩ := h4 j (by omega)
      refine ⟨n, ?_⟩
      have h7 := h6 j (by omega)
      rw [hn, hc, add_add] at h7
      have e : (⟨blk, off, none⟩ : Addr).add (i * k + j) = ⟨blk, off + (i * k + j), none⟩ := by
        unfold Addr.add
        by_cases q : i * k + j = 0
        · simp [q]
        · simp
      rw [e] at h7
      exact h7
    refine ⟨(List.range len).map fun i => mk fun j => match w.cell? ⟨blk, off + (i * k + j), none⟩ with | some (.int _ n) => n | _ => 0, ⟨blk, off, _⟩, ?_, rfl, .inr ⟨m, by simp, by simpa using hl⟩⟩
    intro i u hu
    obtain ⟨y, h1, h2⟩ := flat_get hk (fun y hy => by
      obtain ⟨i, _, rfl⟩ := List.mem_map.1 hy
      rw [hmk]; simp) i u hu
    have hlt : i / k < len := by
      have := get_lt h1
      simpa using this
    rw [List.getElem?_map, List.getElem?_range hlt] at h1
    simp only [Option.map_some, Option.some.injEq] at h1
    subst h1
    have hj : i % k < k := Nat.mod_lt _ hk
    rw [hmk, List.getElem?_map, List.getElem?_range hj] at h2
    simp only [Option.map_some, Option.some.injEq] at h2
    obtain ⟨n, hn⟩ := hcell _ hlt _ hj
    rw [hn] at h2
    subst h2
    rw [Nat.div_add_mod' ] at hn
    exact ⟨hn, rfl⟩
theorem Given.rel {α : Type} {w : World} {v : Value} {f : α → List Value} {l : List α} {x : Imp} (g : Given w v f l x) {r : Ren} {H : Hp} {b : Nat} (hr : r b = some ⟨x.blk, x.off, none⟩) (hb : b < H.next) (hc : cellsOf H b = some x.cs) (hro : H.t.get b = some (.ro x.cs)) :
    ∃ a cap, VR r (.slice a l.length cap) v ∧ Sl H a l.length cap (l.flatMap f) ∧ ∀ b, a = some ⟨b, 0, none⟩ → H.t.get b = some (.ro (l.flatMap f)) := by
  rcases g.v with ⟨rfl, rfl⟩ | ⟨cap, rfl, hl⟩
  · exact ⟨none, 0, .nilSlice, .inl ⟨.inl rfl, rfl, rfl, rfl⟩, fun b e => by cases e⟩
  · refine ⟨some ⟨b, 0, none⟩, cap, ?_, .inr ⟨b, rfl, ⟨hb, by rw [hc, g.cs]⟩, hl⟩, fun b' e => by cases e; rw [hro, g.cs]⟩
    have := VR.slice (o := 0) (n := l.length) (c := cap) hr rfl hl
    simpa using this
end Go.Ax

/-! Slices of rows of plain cells, as arguments. -/
namespace Go.Ax
open Go Go.RowKit Go.Proofs Go.ChangeShapes Go.WideShapes Go.Deep

theorem IntT.row {α : Type} {P : Program} {t : TypeId} {k : Nat} {f : α → List Value} {mk : (Nat → Int) → α} (h : IntT P t) (hc : P.cellsOf t = k) (hmk : ∀ N : Nat → Int, f (mk N) = (List.range k).map fun j => Value.int .i64 (N j))
    {H : Type} {enc : TypeId × Value → H} {w : World} {base : Nat} {spare : Nat → Bool} {held : Bool} (fuel : Nat) (cs : List Value) (x : DataW H × List MemPlace) (hx : DataW.trod enc P w base spare held fuel t cs = some x) : ∃ y : α, cs = f y ∧ True := by
  obtain ⟨h1, h2⟩ := h _ _ _ _ _ _ _ _ _ hx
  have : ∃ N : Nat → Int, ∀ j, j < cs.length → cs[j]? = some (.int .i64 (N j)) := by
    refine ⟨fun j => match cs[j]? with | some (.int _ n) => n | _ => 0, fun j hj => ?_⟩
    obtain ⟨n, hn⟩ := h2 j hj
    simp [hn]
  obtain ⟨N, hN⟩ := this
  refine ⟨mk N, ?_, trivial⟩
  rw [hmk]
  apply List.ext_getElem?
  intro j
  by_cases hj : j < k
  · rw [hN j (by omega), List.getElem?_map, List.getElem?_range hj]; rfl
  · rw [List.getElem?_eq_none (by omega), List.getElem?_eq_none (by simp; omega)]
end Go.Ax

/-! Arguments that point to what points: inner slices, rows of slices. -/
namespace Go.Ax
open Go Go.RowKit Go.Proofs Go.ChangeShapes Go.WideShapes Go.Deep

def renOf (imps : List Imp) : Ren := fun b => (imps[b]?).map fun x => ⟨x.blk, x.off, none⟩
theorem imports3 {P : Program} (imps outs : List Imp) (w : World) (h : ∀ x ∈ imps, ∀ (i : Nat) v, x.cs[i]? = some v → w.cell? ⟨x.blk, x.off + i, none⟩ = some v ∧ flat1 v = true)
    (hcs : ∀ x ∈ outs, ∀ (i : Nat) v, x.cs[i]? = some v → ∃ v', w.cell? ⟨x.blk, x.off + i, none⟩ = some v' ∧ VR (renOf imps) v v') :
    ∃ (r : Ren) (H : Hp), Rel P r w.heap.size H w ∧ H.next = (imps ++ outs).length ∧ (∀ b loc, r b = some loc → b < H.next) ∧ Ren.Le (renOf imps) r ∧ ∀ (b : Nat) x, (imps ++ outs)[b]? = some x → r b = some ⟨x.blk, x.off, none⟩ ∧ H.t.get b = some (.ro x.cs) := by
  have hall : ∀ x ∈ imps ++ outs, ∀ (i : Nat) v, x.cs[i]? = some v → ∃ v', w.cell? ⟨x.blk, x.off + i, none⟩ = some v' ∧ VR (renOf imps) v v' := by
    intro x hx i v hv
    rcases List.mem_append.1 hx with hx | hx
    · obtain ⟨h1, h2⟩ := h x hx i v hv
      exact ⟨v, h1, flat1_vr h2⟩
    · exact hcs x hx i v hv
  obtain ⟨t, ht⟩ := tr_of (fun b => ((imps ++ outs)[b]?).map fun x => .ro x.cs) (imps ++ outs).length
  have hle : Ren.Le (renOf imps) (fun b => ((imps ++ outs)[b]?).map fun x => ⟨x.blk, x.off, none⟩) := fun b loc e => by
    unfold renOf at e
    have hlt : b < imps.length := by
      rcases Nat.lt_or_ge b imps.length with q | q
      · exact q
      · rw [List.getElem?_eq_none q] at e; cases e
    show ((imps ++ outs)[b]?).map _ = _
    rw [List.getElem?_append_left hlt]; exact e
  have hr : ∀ (b : Nat) loc, ((imps ++ outs)[b]?).map (fun x => (⟨x.blk, x.off, none⟩ : Loc)) = some loc → ∃ x, (imps ++ outs)[b]? = some x ∧ b < (imps ++ outs).length ∧ loc = ⟨x.blk, x.off, none⟩ ∧ t.get b = some (.ro x.cs) := by
    intro b loc e
    cases hx : (imps ++ outs)[b]? with
    | none => rw [hx] at e; cases e
    | some x =>
      rw [hx] at e
      simp at e
      have hlt := get_lt hx
      exact ⟨x, rfl, hlt, e.symm, by rw [ht, if_pos hlt, hx]; rfl⟩
  have low : ∀ {g o : Nat} {v : Value}, w.cell? ⟨g, o, none⟩ = some v → g < w.heap.size := fun {g o v} hv => by
    unfold World.cell? at hv
    rcases Nat.lt_or_ge g w.heap.size with q | q
    · exact q
    · rw [Array.getElem?_eq_none q] at hv; cases hv
  refine ⟨fun b => ((imps ++ outs)[b]?).map fun x => ⟨x.blk, x.off, none⟩, { next := (imps ++ outs).length, t }, ⟨?_, ?_, ?_, Nat.le_refl _⟩, rfl, ?_, hle, ?_⟩
  · intro b loc e
    obtain ⟨x, hx, hlt, rfl, hg⟩ := hr b loc e
    refine ⟨hlt, ?_⟩
    show Dm _ _ _ (t.get b)
    rw [hg]
    cases hc : x.cs with
    | nil => exact .inl rfl
    | cons v l =>
      obtain ⟨v', h1, _⟩ := hall x (List.mem_of_getElem? hx) 0 v (by rw [hc]; rfl)
      exact .inr (low h1)
  · intro b loc o e eo
    obtain ⟨x, hx, hlt, rfl, hg⟩ := hr b loc e
    rw [hg] at eo; cases eo
    refine ⟨rfl, fun i v ev => ?_⟩
    obtain ⟨v', h1, h2⟩ := hall x (List.mem_of_getElem? hx) i v ev
    unfold World.cell? at h1
    simp only at h1
    split at h1
    · rename_i C e' f hC
      exact ⟨C, e', f, v', hC, by simpa using h1, h2.mono hle⟩
    · cases h1
  · intro b b' loc loc' e e' _ hl _
    obtain ⟨x, hx, hlt, rfl, hg⟩ := hr b loc e
    obtain ⟨o, h1, h2, h3⟩ := hl
    have : t.get b = some o := h1
    rw [hg] at this; cases this
    cases h3
  · intro b loc e
    obtain ⟨x, hx, hlt, rfl, hg⟩ := hr b loc e
    exact hlt
  · intro b x hx
    have hlt := get_lt hx
    refine ⟨by simp only [hx, Option.map_some], ?_⟩
    show t.get b = _
    rw [ht, if_pos hlt, hx]; rfl

/-- An inner slice, as it is given: an empty one may have any address. -/
structure GivI {α : Type} (w : World) (v : Value) (f : α → List Value) (l : List α) (x : Imp) : Prop where
  ok : ∀ (i : Nat) u, x.cs[i]? = some u → w.cell? ⟨x.blk, x.off + i, none⟩ = some u ∧ flat1 u = true
  cs : x.cs = l.flatMap f
  v : ((v = .slice none 0 0 ∨ ∃ a', v = .slice (some a') 0 0) ∧ l = []) ∨ ∃ cap, v = .slice (some ⟨x.blk, x.off, none⟩) l.length cap ∧ l.length ≤ cap
theorem GivI.rel {α : Type} {w : World} {v : Value} {f : α → List Value} {l : List α} {x : Imp} (g : GivI w v f l x) {r : Ren} {b : Nat} (hr : r b = some ⟨x.blk, x.off, none⟩) :
    ∃ a cap, VR r (.slice a l.length cap) v ∧ (∀ y, a = some ⟨y, 0, none⟩ → y = b) ∧ ∀ H : Hp, b < H.next → H.t.get b = some (.ro x.cs) → Sl H a l.length cap (l.flatMap f) := by
  rcases g.v with ⟨rfl | ⟨a', rfl⟩, rfl⟩ | ⟨cap, rfl, hl⟩
  · exact ⟨none, 0, .nilSlice, fun y e => by (cases e), fun H _ _ => .inl ⟨.inl rfl, rfl, rfl, rfl⟩⟩
  · exact ⟨some ⟨0, 0, some 0⟩, 0, .weird, fun y e => by (cases e), fun H _ _ => .inl ⟨.inr rfl, rfl, rfl, rfl⟩⟩
  · refine ⟨some ⟨b, 0, none⟩, cap, ?_, fun y e => by (cases e; rfl), fun H hb hc => .inr ⟨b, rfl, ⟨hb, by unfold cellsOf; rw [hc, g.cs]⟩, hl⟩⟩
    have := VR.slice (o := 0) (n := l.length) (c := cap) hr rfl hl
    simpa using this
structure RV where
  rv : Value
  l : List Int
  x : Imp
def RV.f (r : RV) : List Value := [r.rv]
def RV.Q (w : World) (r : RV) : Prop := GivI w r.rv (fun n : Int => [iv n]) r.l r.x
end Go.Ax

/-! Trucks, slips and berries as arguments. -/
namespace Go.Ax
open Go Go.RowKit Go.Proofs Go.ChangeShapes Go.WideShapes Go.Deep

theorem imports_flat {P : Program} (pre : List Imp) {w : World} (h : ∀ x ∈ pre, ∀ (i : Nat) v, x.cs[i]? = some v → w.cell? ⟨x.blk, x.off + i, none⟩ = some v ∧ flat1 v = true) :
    ∃ (r : Ren) (H : Hp), Rel P r w.heap.size H w ∧ (∀ b loc, r b = some loc → b < H.next) ∧ (∀ (b : Nat) x, pre[b]? = some x → b < H.next ∧ r b = some ⟨x.blk, x.off, none⟩ ∧ H.t.get b = some (.ro x.cs)) := by
  obtain ⟨r, H, h1, h2, h3, h4, h5⟩ := imports3 (P := P) pre [] w h (fun x hx => by simp at hx)
  refine ⟨r, H, h1, h3, fun b x hx => ?_⟩
  have := get_lt hx
  obtain ⟨a, c⟩ := h5 b x (by simpa using hx)
  exact ⟨by rw [h2]; simpa using this, a, c⟩
end Go.Ax


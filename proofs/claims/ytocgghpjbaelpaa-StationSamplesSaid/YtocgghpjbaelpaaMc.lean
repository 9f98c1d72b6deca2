import Derived.Test.YtocgghpjbaelpaaMb
import Derived.Test.YtocgghpjbaelpaaAxW9
import Derived.Test.YtocgghpjbaelpaaChecked
import Derived.Test.YtocgghpjbaelpaaRows
import Derived.Test.YtocgghpjbaelpaaAxO
import Derived.Deep.Slices
import Derived.Deep.Fields
import Derived.ChangeSame
set_option linter.all false
/-
  Station: berries: firstTries, bouncing, Bounce (written by program).
-/
namespace Go.Ax
open Go Go.RowKit Go.Proofs

noncomputable abbrev asg35 : Code := at_ Try.f35 [1, 0, 1, 1, 0, 1, 0, 0]
noncomputable abbrev body35 : Code := at_ Try.f35 [1, 0, 1, 1, 0, 1, 0, 1]
abbrev S35 (bk : Nat) : Rg := [(4, pt bk), (7, pt (bk + 1))]
def kmin (m : Int) (n : Nat) : Nat := (min m (n : Int)).toNat
/-- what lies where behind i berries -/
structure J35 (H0 : Hp) (sa : Option Addr) (n cap : Nat) (rs : List Rw) (b m : Int) (bk rb tb l : Nat) (i : Nat) (H' : Hp) : Prop where
  kp : Keep H0 H' []
  hr : Rws H' H0.next sa n cap rs
  cb : Rd H' bk [iv b]
  cn : Cl H' (bk + 1) [iv (cntB (rs.take i) b m)]
  cr : Rd H' rb [.slice sa n cap]
  ct : Rd H' tb [iv m]
  lp : Lp Try.prog H' l .ready none 28 (S35 bk) [14] asg35 body35 (l - 1)
  dfr : H'.t.get (l - 1) = some (.dfr (some []))
  ll : l < H'.next
section
variable {kn : FuncId → Option Bool} {lo : Nat} {H : Hp}

/-- firstTries -/
theorem first55_ok {sa : Option Addr} {n cap : Nat} {m : Int} (hlo : lo ≤ H.next) : ∃ H', FnX Try.prog kn lo 55 [.slice sa n cap, iv m] H (.func (.func 64) #[] #[pt H.next, pt (H.next + 1)]) H' ∧ Keep H H' [] ∧ H'.next = H.next + 2 ∧ Rd H' H.next [.slice sa n cap] ∧ Rd H' (H.next + 1) [iv m] := by
  have key := fnX_low (kn := kn) (lo := lo) (H := H) (args := [.slice sa n cap, iv m]) (Q := fun w H' => w = .func (.func 64) #[] #[pt H.next, pt (H.next + 1)] ∧ Keep H H' [] ∧ H'.next = H.next + 2 ∧ Rd H' H.next [.slice sa n cap] ∧ Rd H' (H.next + 1) [iv m]) Try.func55 B55 N55 Z55 L55 (by simp) ?_
  · obtain ⟨w, H', h, rfl, q⟩ := key; exact ⟨H', h, q⟩
  refine wN_seq ?_
  refine wN_box (v := .slice sa n cap) rfl ?_
  intro H1 k1 n1 c1
  have c1 : Cl H1 H.next [.slice sa n cap] := c1
  refine wN_box (v := iv m) rfl ?_
  intro H2 k2 n2 c2
  have c2 : Cl H2 H1.next [iv m] := c2
  rw [n1] at c2 ⊢
  refine wN_mov (v := .nilFunc) rfl ?_
  refine wN_end ?_
  refine wN_seq ?_
  refine wN_pur (v := .func (.func 64) #[] #[pt H.next, pt (H.next + 1)]) rfl (by kernel_rfl) ?_
  refine wN_mov (v := .func (.func 64) #[] #[pt H.next, pt (H.next + 1)]) rfl ?_
  refine wN_end ?_
  exact And.intro trivial (Exists.intro _ (And.intro rfl ⟨rfl, k1.trans k2, by omega, (k2.cl c1 (by simp)).rd, c2.rd⟩))
set_option maxRecDepth 100000 in
/-- firstTries's iterator -/
theorem iter64_ok {sa : Option Addr} {n cap f rb tb l : Nat} {rs : List Rw} {m : Int} (hm0 : 0 ≤ m) {J : Nat → Hp → Prop} (hJ : J 0 H) (hJe : ∀ i H1, J i H1 → Rd H1 rb [.slice sa n cap] ∧ Rd H1 tb [iv m] ∧ Rws H1 f sa n cap rs)
    (hn : n ≤ 1000000) (step : ∀ i x H1, i < n → rs[i]? = some x → J i H1 → ∃ H', CallsX Try.prog kn lo (.fn (.yield l) #[]) [.slice x.ra (kmin m x.n) x.cap] H1 (.bool true) H' ∧ J (i + 1) H') :
    ∃ H', FnX Try.prog kn lo 64 [.func (.yield l) #[] #[], pt rb, pt tb] H unit H' ∧ J n H' := by
  have key := fnX_low (kn := kn) (lo := lo) (H := H) (args := [.func (.yield l) #[] #[], pt rb, pt tb]) (Q := fun w H' => w = unit ∧ J n H') Try.func64 B64 N64 Z64 L64 (by simp) ?_
  · obtain ⟨w, H', h, rfl, q⟩ := key; exact ⟨H', h, q⟩
  obtain ⟨hcr, hct, hr⟩ := hJe _ _ hJ
  refine wN_seq ?_
  refine wN_ld (b := rb) (o := 0) (v := .slice sa n cap) rfl hcr rfl ?_
  refine wN_len (m := n) rfl ?_
  refine wN_mov (v := iv 0) rfl ?_
  refine wN_end ?_
  refine loop_low (fn := Try.f64) E64_1 N64 L64x1 (fun i : Nat => [(0, .func (.yield l) #[] #[]), (1, pt rb), (2, pt tb), (6, .slice sa n cap), (7, iv (n : Int)), (8, iv (i : Int))])
    (fun k i H' => i + k = n ∧ J i H') n 0 ⟨by omega, hJ⟩ ⟨rfl, rfl, rfl, rfl, rfl, rfl, trivial⟩ ?_
  rintro k i L1 ⟨hik, hj⟩
  obtain ⟨hcr, hct, hr⟩ := hJe _ _ hj
  refine wN_seq ?_
  refine wN_c_lss (a := (i : Int)) (b := (n : Int)) rfl rfl ?_
  refine wN_end ?_
  refine And.intro (fun q1 => ?_) (fun q1 => ?_)
  · have q1 : (i : Int) < (n : Int) := of_decide_eq_true q1
    have hi : i < n := by omega
    obtain ⟨sb, so, cs, x, hx, esb, rsb, lsf, lcap, hat, hmem⟩ := hr.opn hi
    have hrx := hr.ri x hmem
    first | refine wN_skip ?_ | skip
    refine wN_seq ?_
    refine wN_idx (b := sb) (o := so) (k := i) (j := (i : Int)) (by rw [← esb]; rfl) rfl rfl hi ?_
    refine wN_ld (b := sb) (o := so + i * 1) (v := .slice x.ra x.n x.cap) rfl rsb hat ?_
    refine wN_mov (v := .slice x.ra x.n x.cap) rfl ?_
    refine wN_end ?_
    refine wN_seq ?_
    refine wN_mov (v := .func (.yield l) #[] #[]) rfl ?_
    refine wN_mov (v := .slice x.ra x.n x.cap) rfl ?_
    refine wN_ld (b := tb) (o := 0) (v := iv m) rfl hct rfl ?_
    refine wN_mov (v := .slice x.ra x.n x.cap) rfl ?_
    refine wN_len (m := x.n) rfl ?_
    refine wN_mm (a := m) (b := (x.n : Int)) rfl rfl ?_
    have hkm : (kmin m x.n : Int) = min m (x.n : Int) := by unfold kmin; omega
    have hkl : kmin m x.n ≤ x.n := by omega
    obtain ⟨kd, hop, hkd⟩ := heap_upto (lo := lo) hrx.1 (fun b e => (hrx.2.2 b e).2) hkl
    refine wN_memh (k := kd) rfl (by kernel_rfl) (hop _ _ _ _ _ _ _ rfl (by rw [hkm]; rfl)) hkd ?_
    obtain ⟨H2, f2, hj2⟩ := step i x _ hi hx hj
    refine wN_callf (vs := [.slice x.ra (kmin m x.n) x.cap]) rfl f2 ?_
    refine wN_pur (v := .bool false) rfl rfl ?_
    refine wN_end ?_
    refine condF ?_
    first | refine wN_skip ?_ | skip
    first | refine wN_reg ?_ | refine wN_blk ?_ | refine wN_bseq ?_ | (refine wOps_nil ?_; refine wN_reg ?_)
    refine wN_add (a := (i : Int)) (b := 1) rfl rfl ⟨by omega, by omega⟩ ?_
    refine wN_mov (v := iv ((i : Int) + 1)) rfl ?_
    refine wN_end ?_
    exact ⟨k - 1, i + 1, by omega, ⟨by omega, hj2⟩, rfl, rfl, rfl, rfl, rfl, rfl, trivial⟩
  · have q1 : ¬ ((i : Int) < (n : Int)) := of_decide_eq_false q1
    have e : i = n := by omega
    exact And.intro trivial (Exists.intro _ (And.intro rfl ⟨rfl, by rw [← e]; exact hj⟩))
theorem bnc_take {l : List Int} {b m : Int} {n : Nat} (hl : l.length = n) (hm : 0 ≤ m) : bnc l b m = (l.take (kmin m n)).any fun h => decide (b ≤ h) := by
  unfold bnc kmin
  rcases Int.lt_or_le m n with q | q
  · rw [Int.min_eq_left (by omega)]
  · rw [Int.min_eq_right q, List.take_of_length_le (by omega), List.take_of_length_le (by simp; omega)]
set_option maxRecDepth 100000 in
theorem round35 {H0 : Hp} {sa : Option Addr} {n cap bk rb tb l i : Nat} {rs : List Rw} {x : Rw} {b m : Int} (hm0 : 0 ≤ m) (hi : i < n) (hn : n ≤ 1000000) (hx : rs[i]? = some x) (hxm : x.n ≤ 1000000) (hlo : lo ≤ H0.next) (hbk : H0.next ≤ bk) (hbl : bk + 1 < rb) (hrt : rb < tb) (htl : tb + 1 < l) (j : J35 H0 sa n cap rs b m bk rb tb l i H) :
    ∃ H', CallsX Try.prog kn lo (.fn (.yield l) #[]) [.slice x.ra (kmin m x.n) x.cap] H (.bool true) H' ∧ J35 H0 sa n cap rs b m bk rb tb l (i + 1) H' := by
  have L1 : low Try.prog 28 asg35 = some R35x1 := N35 ▸ L35x1
  have L2 : low Try.prog 28 body35 = some R35x2 := N35 ▸ L35x2
  have ll := j.ll
  have hmem := List.mem_of_getElem? hx
  have hrl := j.hr.rl
  have key := yield_ok (kn := kn) (P := Try.prog) (lo := lo) (S1 := (14, .slice x.ra (kmin m x.n) x.cap) :: S35 bk) (args := [.slice x.ra (kmin m x.n) x.cap]) (Q := fun t H' => t = true ∧ J35 H0 sa n cap rs b m bk rb tb l (i + 1) H') j.lp (by omega) (by rfl) rfl (wC_sound true _ L1 ?_)
  · obtain ⟨t, H', h1, h2, h3⟩ := key; subst h2; exact ⟨H', h1, h3⟩
  refine wN_reg ?_
  refine wN_mov (v := .slice x.ra (kmin m x.n) x.cap) rfl ?_
  refine wN_end ?_
  refine And.intro trivial (And.intro j.lp ?_)
  intro H4 s4
  have k4 := s4.keep
  have lp4 := s4.lp j.lp
  have hn4 : H4.next = H.next := s4.1
  have nl : ∀ y, y ≠ l → y ∉ [l] := fun y hy => by simpa using hy
  have nw : ∀ y ∈ [l], H0.next ≤ y := fun y hy => by simp at hy; omega
  have hr4 := j.hr.keep k4 nw
  have cb4 := k4.rd j.cb (nl _ (by omega))
  have cn4 := k4.cl j.cn (nl _ (by omega))
  have cr4 := k4.rd j.cr (nl _ (by omega))
  have ct4 := k4.rd j.ct (nl _ (by omega))
  have df4 : H4.t.get (l - 1) = some (.dfr (some [])) := by rw [k4.2 _ (by omega) (nl _ (by omega))]; exact j.dfr
  have kp4 : Keep H0 H4 [] := j.kp.new k4 (fun y hy => .inr (nw y hy))
  have hrx := hr4.ri x hmem
  have hct := cntB_take_in rs b m i
  have hkl : kmin m x.n ≤ x.n := by unfold kmin; omega
  have hlx := hrx.2.1
  -- what is behind, whatever the berry did
  have fin : ∀ H5, Keep H4 H5 [bk + 1] → Cl H5 (bk + 1) [iv (cntB (rs.take (i + 1)) b m)] → Lp Try.prog H5 l .busy none 28 (S35 bk) [14] asg35 body35 (l - 1) ∧ ∀ H6, SetLp H5 l .ready none H6 → true = true ∧ J35 H0 sa n cap rs b m bk rb tb l (i + 1) H6 := by
    intro H5 k5 c5
    have m5 := k5.1
    have lp5 := lp4.keep k5 (by omega) (by simp; omega)
    refine ⟨lp5, fun H6 s6 => ⟨rfl, ?_⟩⟩
    have k6 := s6.keep
    have hn6 : H6.next = H5.next := s6.1
    have nb : ∀ y, y ≠ bk + 1 → y ∉ [bk + 1] := fun y hy => by simpa using hy
    exact ⟨(kp4.new k5 (fun y hy => .inr (by simp at hy; omega))).new k6 (fun y hy => .inr (nw y hy)), (hr4.keep k5 (fun y hy => by simp at hy; omega)).keep k6 nw, k6.rd (k5.rd cb4 (nb _ (by omega))) (nl _ (by omega)), k6.cl c5 (nl _ (by omega)),
      k6.rd (k5.rd cr4 (nb _ (by omega))) (nl _ (by omega)), k6.rd (k5.rd ct4 (nb _ (by omega))) (nl _ (by omega)), s6.lp lp5, by rw [k6.2 _ (by omega) (nl _ (by omega)), k5.2 _ (by omega) (nb _ (by omega))]; exact df4, by omega⟩
  refine wC_sound true _ L2 ?_
  refine wN_seq ?_
  refine wN_mov (v := .slice x.ra (kmin m x.n) x.cap) rfl ?_
  refine wN_len (m := kmin m x.n) rfl ?_
  refine wN_mov (v := iv 0) rfl ?_
  refine wN_end ?_
  refine loop_low (fn := Try.f35) E35_3 N35 L35x3 (fun q : Nat => [(4, pt bk), (7, pt (bk + 1)), (15, .slice x.ra (kmin m x.n) x.cap), (16, iv (kmin m x.n : Int)), (17, iv (q : Int))])
    (fun k q H' => q + k = kmin m x.n ∧ H' = H4 ∧ (x.l.take q).any (fun h => decide (b ≤ h)) = false) (kmin m x.n) 0 ⟨by omega, rfl, rfl⟩ ⟨rfl, rfl, rfl, rfl, rfl, trivial⟩ ?_
  rintro k q L1 ⟨hqk, rfl, hall⟩
  refine wN_seq ?_
  refine wN_c_lss (a := (q : Int)) (b := (kmin m x.n : Int)) rfl rfl ?_
  refine wN_end ?_
  refine And.intro (fun q1 => ?_) (fun q1 => ?_)
  · have q1 : (q : Int) < (kmin m x.n : Int) := of_decide_eq_true q1
    have hq : q < kmin m x.n := by omega
    obtain ⟨z, hz⟩ := get_some (l := x.l) (i := q) (by omega)
    have hs := hrx.1
    rcases hs with ⟨_, h0, _⟩ | ⟨xb, exb, rxb, _⟩
    · omega
    first | refine wN_skip ?_ | skip
    refine wN_seq ?_
    refine wN_idx (b := xb) (o := 0) (k := q) (j := (q : Int)) (by rw [← exb]; rfl) rfl rfl hq ?_
    refine wN_ld (b := xb) (o := 0 + q * 1) (v := iv z) rfl rxb (ints_at hz) ?_
    refine wN_mov (v := iv z) rfl ?_
    refine wN_end ?_
    refine wN_seq ?_
    refine wN_mov (v := iv z) rfl ?_
    refine wN_ld (b := bk) (o := 0) (v := iv b) rfl cb4 rfl ?_
    refine wN_c_geq (a := z) (b := b) rfl rfl ?_
    refine wN_end ?_
    refine And.intro (fun q2 => ?_) (fun q2 => ?_)
    · have q2 : z ≥ b := of_decide_eq_true q2
      refine wN_seq ?_
      refine wN_ld (b := bk + 1) (o := 0) (v := iv (cntB (rs.take i) b m)) rfl cn4.rd rfl ?_
      refine wN_add (a := cntB (rs.take i) b m) (b := 1) rfl rfl ⟨by omega, by omega⟩ ?_
      refine wN_st (b := bk + 1) (o := 0) (v := iv (cntB (rs.take i) b m + 1)) rfl rfl cn4 (by omega) rfl rfl (by simp) ?_
      intro H5 k5 n5 c5
      have hb : bnc x.l b m = true := by rw [bnc_take hlx hm0]; exact any_hit hz hq (decide_eq_true (by omega))
      have c5 : Cl H5 (bk + 1) [iv (cntB (rs.take (i + 1)) b m)] := by rw [cntB_step hx, hb]; exact c5
      refine wN_end ?_
      obtain ⟨f1, f2⟩ := fin H5 k5 c5
      exact And.intro f1 f2
    · have q2 : ¬ z ≥ b := of_decide_eq_false q2
      first | refine wN_skip ?_ | skip
      first | refine wN_reg ?_ | refine wN_blk ?_ | (refine wOps_nil ?_; refine wN_reg ?_)
      refine wN_add (a := (q : Int)) (b := 1) rfl rfl ⟨by omega, by omega⟩ ?_
      refine wN_mov (v := iv ((q : Int) + 1)) rfl ?_
      refine wN_end ?_
      exact ⟨k - 1, q + 1, by omega, ⟨by omega, rfl, by rw [any_step hz, hall]; exact decide_eq_false (by omega)⟩, rfl, rfl, rfl, rfl, rfl, trivial⟩
  · have q1 : ¬ ((q : Int) < (kmin m x.n : Int)) := of_decide_eq_false q1
    have e : q = kmin m x.n := by omega
    have hb : bnc x.l b m = false := by rw [bnc_take hlx hm0, ← e]; exact hall
    obtain ⟨f1, f2⟩ := fin L1 (Keep.refl _ _) (by rw [cntB_step hx, hb]; simpa using cn4)
    exact And.intro f1 f2
set_option maxRecDepth 100000 in
/-- bouncing -/
theorem bounce35_ok {sa : Option Addr} {n cap : Nat} {rs : List Rw} {b m : Int} (hm0 : 0 ≤ m) (hr : Rws H H.next sa n cap rs) (hm : ∀ r ∈ rs, r.n ≤ 1000000) (hn : n ≤ 1000000) (hlo : lo ≤ H.next) :
    ∃ H', FnX Try.prog kn lo 35 [.slice sa n cap, iv b, iv m] H (iv (cntB rs b m)) H' ∧ Keep H H' [] := by
  have key := fnX_lowR (kn := kn) (lo := lo) (H := H) (args := [.slice sa n cap, iv b, iv m]) (Q := fun w H' => w = iv (cntB rs b m) ∧ Keep H H' []) Try.func35 B35 N35 Z35 L35 (by simp) ?_
  · obtain ⟨w, H', h, rfl, q⟩ := key; exact ⟨H', h, q⟩
  intro y hy
  refine TriR.lowR hy ?_
  refine wN_reg ?_
  refine wN_box (v := iv b) rfl ?_
  intro H1 k1 n1 c1
  have c1 : Cl H1 H.next [iv b] := c1
  refine wN_mov (v := iv 0) rfl ?_
  refine wN_end ?_
  intro y hy
  refine TriR.lowS hy ?_
  intro y hy
  refine TriR.lowR hy ?_
  refine wN_reg ?_
  refine wN_alc ?_
  intro H2 k2 n2 c2
  refine wN_st (b := H1.next) (o := 0) (v := iv 0) rfl rfl c2 (by omega) rfl rfl (by simp) ?_
  intro H3 k3 n3 c3
  have c3 : Cl H3 H1.next [iv 0] := c3
  refine wN_end ?_
  intro y hy
  refine TriR.lowR hy ?_
  refine wN_skip ?_
  intro y hy
  refine TriR.lowL hy ?_
  intro z hz
  refine TriR.lowR hz ?_
  refine wN_reg ?_
  refine wN_mov (v := .slice sa n cap) rfl ?_
  refine wN_mov (v := iv m) rfl ?_
  obtain ⟨H4, f4, k4, n4, r4, t4⟩ := first55_ok (kn := kn) (lo := lo) (H := H3) (sa := sa) (n := n) (cap := cap) (m := m) (by omega)
  refine wN_callf (vs := [.slice sa n cap, iv m]) rfl (callX_args f4) ?_
  refine wN_end ?_
  intro y hy
  refine TriR.lowB hy ?_
  rw [E35_1]
  refine TriR.range rfl ?_
  intro H5 k5 n5 hdf hlp
  have e1 : H1.next = H.next + 1 := by omega
  have e3 : H3.next = H.next + 2 := by omega
  have e4 : H4.next = H.next + 4 := by omega
  have hlp : Lp Try.prog H5 (H4.next + 1) .ready none 28 [(4, pt H.next), (7, pt H1.next)] [14] asg35 body35 H4.next := hlp.weak ⟨rfl, rfl, trivial⟩
  rw [e1, e4] at hlp
  rw [e4] at hdf n5
  rw [e3] at r4 t4
  have k25 : Keep H2 H5 [H1.next] := (k3.trans (k4.mono (by simp))).trans (k5.mono (by simp))
  have k15 : Keep H1 H5 [] := k2.new k25 (fun y hy => .inr (by simp at hy; omega))
  have k05 : Keep H H5 [] := k1.trans k15
  have k35 : Keep H3 H5 [] := k4.trans k5
  have j0 : J35 H sa n cap rs b m H.next (H.next + 2) (H.next + 2 + 1) (H.next + 4 + 1) 0 H5 := ⟨k05, hr.keep k05 (by simp), (k15.cl c1 (by simp)).rd, by have := k35.cl c3 (by simp); rw [e1] at this; exact this, k5.rd r4 (by simp), k5.rd t4 (by simp), hlp, hdf, by omega⟩
  obtain ⟨H6, f6, j6⟩ := iter64_ok (kn := kn) (lo := lo) (H := H5) (l := H.next + 4 + 1) (J := J35 H sa n cap rs b m H.next (H.next + 2) (H.next + 2 + 1) (H.next + 4 + 1)) hm0 j0 (fun i H1' j => ⟨j.cr, j.ct, j.hr⟩) hn
    (fun i x H1' hi hx j => round35 hm0 hi hn hx (hm x (List.mem_of_getElem? hx)) hlo (Nat.le_refl _) (by omega) (by omega) (by omega) j)
  refine Exists.intro _ (Exists.intro H6 (And.intro (callX_func rfl (by rw [e4, e3]; simpa using f6)) ?_))
  have lp6 : Lp Try.prog H6 (H4.next + 1) .ready none 28 (S35 H.next) [14] asg35 body35 H4.next := by rw [e4]; exact j6.lp
  refine ⟨.ready, none, _, lp6, by simp, ?_⟩
  intro H7 s7
  have k7 := s7.keep
  have hn7 : H7.next = H6.next := s7.1
  rw [e4] at k7
  have ll := j6.ll
  have nl : ∀ y, y ≠ H.next + 4 + 1 → y ∉ [H.next + 4 + 1] := fun y hy => by simpa using hy
  have d7 : H7.t.get H4.next = some (.dfr (some [])) := by rw [e4, k7.2 _ (by omega) (nl _ (by omega))]; exact j6.dfr
  have c7 := k7.cl j6.cn (nl _ (by omega))
  rw [List.take_of_length_le (by have := hr.rl; omega), ← e1] at c7
  have kp7 : Keep H H7 [] := j6.kp.new k7 (fun y hy => .inr (by simp at hy; omega))
  refine wN_seq ?_
  refine wN_ld (b := H1.next) (o := 0) (v := iv (cntB rs b m)) rfl c7.rd rfl ?_
  refine wN_mov (v := iv (cntB rs b m)) rfl ?_
  refine wN_end ?_
  refine And.intro trivial (Or.inr ⟨H4.next, rfl, by omega, d7, fun H8 hn8 k8 => ?_⟩)
  exact ⟨_, rfl, rfl, kp7.new k8 (fun y hy => .inr (by simp at hy; omega))⟩
theorem Rws.upTo {H : Hp} {f f' : Nat} {sa : Option Addr} {n cap : Nat} {rs : List Rw} (h : Rws H f sa n cap rs) (hf : f ≤ f') : Rws H f' sa n cap rs where
  r := h.r.imp id fun ⟨b, o, cs, e, r, hb, q⟩ => ⟨b, o, cs, e, r, by omega, q⟩
  rl := h.rl
  ri := fun r hq => by
    obtain ⟨h1, h2, h3⟩ := h.ri r hq
    exact ⟨h1, h2, fun x e => ⟨by have := (h3 x e).1; omega, (h3 x e).2⟩⟩
/-- Bounce -/
theorem bounce19_ok {sa : Option Addr} {n cap f : Nat} {rs : List Rw} {b m : Int} (hr : Rws H f sa n cap rs) (hf : f ≤ H.next) (hm : ∀ r ∈ rs, r.n ≤ 1000000) (hn : n ≤ 1000000) (hlo : lo ≤ H.next) :
    ∃ H', FnX Try.prog kn lo 19 [.slice sa n cap, iv b, iv m] H (.tuple #[iv (boN rs b m), iv (boE rs b m)]) H' ∧ Keep H H' [] := by
  have key := fnX_low (kn := kn) (lo := lo) (H := H) (args := [.slice sa n cap, iv b, iv m]) (Q := fun w H' => w = (.tuple #[iv (boN rs b m), iv (boE rs b m)]) ∧ Keep H H' []) Try.func19 B19 N19 Z19 L19 (by simp) ?_
  · obtain ⟨w, H', h, rfl, q⟩ := key; exact ⟨H', h, q⟩
  have hk := Keep.refl H []
  refine wN_seq ?_
  refine wN_mov (v := iv 0) rfl ?_
  refine wN_mov (v := iv 0) rfl ?_
  refine wN_end ?_
  refine wN_seq ?_
  refine wN_mov (v := .slice sa n cap) rfl ?_
  refine wN_callB rfl (valid34_ok hr hm) ?_
  intro tH1 H1 hH1 kH1
  have mH1 := kH1.1
  have hk := hk.trans kH1
  have hr := hr.keep kH1 (by simp)
  cases tH1
  · have hvd : rwsOk rs = false := hH1
    refine wN_pur (v := .bool true) rfl rfl ?_
    refine wN_end ?_
    refine condT ?_
    refine wN_seq ?_
    refine wN_mov (v := iv 0) rfl ?_
    refine wN_mov (v := iv 1) rfl ?_
    refine wN_end ?_
    have e1 : boE rs b m = 1 := by unfold boE; rw [hvd]; rfl
    have e2 : boN rs b m = 0 := by unfold boN; rw [e1]; rfl
    exact And.intro trivial (Exists.intro _ (And.intro rfl ⟨by rw [e1, e2]; rfl, hk⟩))
  · have hvd : rwsOk rs = true := hH1
    refine wN_pur (v := .bool false) rfl rfl ?_
    refine wN_end ?_
    refine condF ?_
    first | refine wN_skip ?_ | skip
    refine wN_seq ?_
    refine wN_mov (v := iv b) rfl ?_
    refine wN_callB rfl (isw_ok) ?_
    intro tH2 H2 hH2 kH2
    have mH2 := kH2.1
    have hk := hk.trans kH2
    have hr := hr.keep kH2 (by simp)
    cases tH2
    · have fhH2 := isw_f hH2
      refine wN_pur (v := .bool true) rfl rfl ?_
      refine wN_mov (v := .bool true) rfl ?_
      refine wN_gs rfl ?_
      refine wN_gs rfl ?_
      refine wN_gs rfl ?_
      refine wN_pur (v := .bool true) rfl rfl ?_
      refine wN_end ?_
      refine condT ?_
      refine wN_seq ?_
      refine wN_mov (v := iv 0) rfl ?_
      refine wN_mov (v := iv 2) rfl ?_
      refine wN_end ?_
      have e1 : boE rs b m = 2 := by unfold boE; rw [if_pos hvd, if_neg (by simp only [isw, Bool.and_eq_true, Bool.and_eq_false_iff, Bool.or_eq_true, Bool.or_eq_false_iff, Bool.not_eq_true', Bool.not_eq_false', decide_eq_true_eq, decide_eq_false_iff_not]; omega)]
      have e2 : boN rs b m = 0 := by unfold boN; rw [e1]; rfl
      exact And.intro trivial (Exists.intro _ (And.intro rfl ⟨by rw [e1, e2]; rfl, hk⟩))
    · have fhH2 := isw_t hH2
      refine wN_pur (v := .bool false) rfl rfl ?_
      refine wN_mov (v := .bool false) rfl ?_
      refine wN_g rfl (wN_mov (v := iv m) rfl ?_)
      refine wN_g rfl (wN_callB rfl (isw_ok) ?_)
      intro tH3 H3 hH3 kH3
      have mH3 := kH3.1
      have hk := hk.trans kH3
      have hr := hr.keep kH3 (by simp)
      cases tH3
      · have fhH3 := isw_f hH3
        refine wN_g rfl (wN_pur (v := .bool true) rfl rfl ?_)
        refine wN_pur (v := .bool true) rfl rfl ?_
        refine wN_end ?_
        refine condT ?_
        refine wN_seq ?_
        refine wN_mov (v := iv 0) rfl ?_
        refine wN_mov (v := iv 2) rfl ?_
        refine wN_end ?_
        have e1 : boE rs b m = 2 := by unfold boE; rw [if_pos hvd, if_neg (by simp only [isw, Bool.and_eq_true, Bool.and_eq_false_iff, Bool.or_eq_true, Bool.or_eq_false_iff, Bool.not_eq_true', Bool.not_eq_false', decide_eq_true_eq, decide_eq_false_iff_not]; omega)]
        have e2 : boN rs b m = 0 := by unfold boN; rw [e1]; rfl
        exact And.intro trivial (Exists.intro _ (And.intro rfl ⟨by rw [e1, e2]; rfl, hk⟩))
      · have fhH3 := isw_t hH3
        refine wN_g rfl (wN_pur (v := .bool false) rfl rfl ?_)
        refine wN_pur (v := .bool false) rfl rfl ?_
        refine wN_end ?_
        refine condF ?_
        first | refine wN_skip ?_ | skip
        refine wN_seq ?_
        refine wN_mov (v := .slice sa n cap) rfl ?_
        refine wN_mov (v := iv b) rfl ?_
        refine wN_mov (v := iv m) rfl ?_
        obtain ⟨H4, fH4, kH4⟩ := bounce35_ok (kn := kn) (lo := lo) (H := H3) (b := b) (m := m) (by omega) (hr.upTo (by omega)) hm hn (by omega)
        refine wN_callf (vs := [.slice sa n cap, iv b, iv m]) rfl (callX_args fH4) ?_
        have mH4 := kH4.1
        have hk := hk.trans kH4
        have hr := hr.keep kH4 (by simp)
        refine wN_mov (v := iv (cntB rs b m)) rfl ?_
        refine wN_mov (v := iv 0) rfl ?_
        refine wN_end ?_
        have e1 : boE rs b m = 0 := by unfold boE; rw [if_pos hvd, if_pos (by simp only [isw, Bool.and_eq_true, Bool.and_eq_false_iff, Bool.or_eq_true, Bool.or_eq_false_iff, Bool.not_eq_true', Bool.not_eq_false', decide_eq_true_eq, decide_eq_false_iff_not]; omega)]
        have e2 : boN rs b m = cntB rs b m := by unfold boN; rw [e1]; rfl
        exact And.intro trivial (Exists.intro _ (And.intro rfl ⟨by rw [e1, e2]; rfl, hk⟩))
end
end Go.Ax

/-! What 'low' makes of functions of station (written by program). -/
namespace Go.Ax
open Go Go.RowKit Go.Proofs
theorem N8 : Try.f8.ntmps = 135 := by kernel_rfl
theorem Z8 : Try.f8.results.toList = ((List.toArray [(.tmp 10)]) : Array ResultVar).toList := by kernel_rfl
theorem B8 : Try.f8.body = some (at_ Try.f8 []) := by kernel_rfl
noncomputable def R8 : RC := (.seq (.reg [⟨(some 5), none, (.box 34 (.tmp 0))⟩, ⟨(some 10), none, (.mov (.const (.bool false)))⟩])
  (.seq (.seq (.reg [⟨(some 19), none, (.addo (.tmp 5) 5)⟩, ⟨(some 20), none, (.ld (.tmp 19) 1)⟩, ⟨(some 21), none, (.len (.tmp 20))⟩, ⟨(some 22), none, (.cmpb .eql (.tmp 21) (.const (.int .i64 0)))⟩, ⟨(some 23), none, (.mov (.tmp 22))⟩, ⟨(some 24), (some (23, false)), (.addo (.tmp 5) 5)⟩, ⟨(some 25), (some (23, false)), (.ld (.tmp 24) 1)⟩, ⟨(some 26), (some (23, false)), (.len (.tmp 25))⟩, ⟨(some 27), (some (23, false)), (.cmpb .gtr (.tmp 26) (.const (.int .i64 16)))⟩, ⟨(some 28), none, (.pur ⟨(some 28), (.pick (.tmp 23) (.const (.bool true)) (.tmp 27)), 4, "", (List.toArray []), none⟩)⟩])
  (.cond (.tmp 28) (.seq (.reg [⟨(some 29), none, (.call ⟨(.value (.func 10)), (List.toArray []), (List.toArray [])⟩ true)⟩, ⟨(some 10), none, (.mov (.tmp 29))⟩])
  .ret)
  .skip))
  (.seq (.reg [⟨(some 31), none, (.lda (.tmp 5) 6)⟩, ⟨(some 32), none, (.call ⟨(.value (.func 17)), (List.toArray [(.tmp 31)]), (List.toArray [34])⟩ true)⟩, ⟨(some 30), none, (.mov (.tmp 32))⟩, ⟨(some 33), none, (.pur ⟨(some 33), (.extract (.tmp 30) 0), 38, "", (List.toArray []), none⟩)⟩, ⟨(some 34), none, (.pur ⟨(some 34), (.extract (.tmp 30) 1), 25, "", (List.toArray []), none⟩)⟩, ⟨(some 11), none, (.alc 38 [(.int .i64 0), (.int .i64 0), (.int .i64 0), (.int .i64 0), (.int .i64 0), (.int .i64 0)])⟩, ⟨none, none, (.sta (.tmp 11) (.tmp 33) 6)⟩, ⟨(some 12), none, (.mov (.tmp 34))⟩])
  (.seq (.seq (.reg [⟨(some 35), none, (.mov (.tmp 12))⟩, ⟨(some 36), none, (.cmp .neq (.tmp 35) (.const (.int .i64 0)))⟩])
  (.cond (.tmp 36) (.seq (.reg [⟨(some 37), none, (.lda (.tmp 11) 6)⟩, ⟨(some 38), none, (.pur ⟨(some 38), (.build 38 (List.toArray [])), 38, "", (List.toArray []), none⟩)⟩, ⟨(some 39), none, (.pur ⟨(some 39), (.binOp .eql 38 (.tmp 37) (.tmp 38) 38), 4, "", (List.toArray []), none⟩)⟩, ⟨(some 40), none, (.mov (.tmp 39))⟩, ⟨(some 41), (some (40, true)), (.call ⟨(.value (.func 10)), (List.toArray []), (List.toArray [])⟩ true)⟩, ⟨(some 42), none, (.pur ⟨(some 42), (.pick (.tmp 40) (.tmp 41) (.const (.bool false))), 4, "", (List.toArray []), none⟩)⟩, ⟨(some 10), none, (.mov (.tmp 42))⟩])
  .ret)
  .skip))
  (.seq (.reg [⟨(some 43), none, (.mov (.tmp 2))⟩, ⟨(some 44), none, (.pur ⟨(some 44), (.convert 5 3 (.tmp 43)), 3, "", (List.toArray []), none⟩)⟩, ⟨(some 45), none, (.mov (.tmp 3))⟩, ⟨(some 46), none, (.pur ⟨(some 46), (.convert 5 3 (.tmp 45)), 3, "", (List.toArray []), none⟩)⟩, ⟨(some 47), none, (.mov (.tmp 4))⟩, ⟨(some 48), none, (.pur ⟨(some 48), (.convert 5 3 (.tmp 47)), 3, "", (List.toArray []), none⟩)⟩, ⟨(some 49), none, (.addo (.tmp 5) 3)⟩, ⟨(some 50), none, (.ld (.tmp 49) 1)⟩, ⟨(some 51), none, (.addo (.tmp 5) 4)⟩, ⟨(some 52), none, (.ld (.tmp 51) 1)⟩, ⟨(some 53), none, (.pur ⟨(some 53), (.build 34 (List.toArray [(0, (.tmp 44)), (1, (.tmp 46)), (2, (.tmp 48)), (3, (.tmp 50)), (4, (.tmp 52))])), 34, "", (List.toArray []), none⟩)⟩, ⟨(some 13), none, (.alc 34 [(.int .i64 0), (.int .i64 0), (.int .i64 0), (.int .i64 0), (.int .i64 0), (.slice none 0 0)])⟩, ⟨none, none, (.sta (.tmp 13) (.tmp 53) 6)⟩])
  (.seq (.seq (.reg [⟨(some 14), none, (.mov (.const (.int .i64 0)))⟩])
  (.block 0 (.other (at_ Try.f8 [1, 1, 1, 1, 1, 0, 1, 0]))))
  (.seq (.reg [⟨(some 121), none, (.lda (.tmp 13) 6)⟩, ⟨(some 122), none, (.call ⟨(.value (.func 17)), (List.toArray [(.tmp 121)]), (List.toArray [34])⟩ true)⟩, ⟨(some 120), none, (.mov (.tmp 122))⟩, ⟨(some 123), none, (.pur ⟨(some 123), (.extract (.tmp 120) 0), 38, "", (List.toArray []), none⟩)⟩, ⟨(some 124), none, (.pur ⟨(some 124), (.extract (.tmp 120) 1), 25, "", (List.toArray []), none⟩)⟩, ⟨(some 17), none, (.alc 38 [(.int .i64 0), (.int .i64 0), (.int .i64 0), (.int .i64 0), (.int .i64 0), (.int .i64 0)])⟩, ⟨none, none, (.sta (.tmp 17) (.tmp 123) 6)⟩, ⟨(some 18), none, (.mov (.tmp 124))⟩])
  (.seq (.reg [⟨(some 125), none, (.lda (.tmp 17) 6)⟩, ⟨(some 126), none, (.lda (.tmp 11) 6)⟩, ⟨(some 127), none, (.pur ⟨(some 127), (.binOp .eql 38 (.tmp 125) (.tmp 126) 38), 4, "", (List.toArray []), none⟩)⟩, ⟨(some 128), none, (.mov (.tmp 127))⟩, ⟨(some 129), (some (128, true)), (.mov (.tmp 18))⟩, ⟨(some 130), (some (128, true)), (.cmpb .eql (.tmp 129) (.const (.int .i64 0)))⟩, ⟨(some 131), none, (.pur ⟨(some 131), (.pick (.tmp 128) (.tmp 130) (.const (.bool false))), 4, "", (List.toArray []), none⟩)⟩, ⟨(some 132), none, (.mov (.tmp 131))⟩, ⟨(some 133), (some (132, true)), (.call ⟨(.value (.func 10)), (List.toArray []), (List.toArray [])⟩ true)⟩, ⟨(some 134), none, (.pur ⟨(some 134), (.pick (.tmp 132) (.tmp 133) (.const (.bool false))), 4, "", (List.toArray []), none⟩)⟩, ⟨(some 10), none, (.mov (.tmp 134))⟩])
  .ret))))))))
theorem L8 : low Try.prog Try.f8.ntmps (at_ Try.f8 []) = some R8 := by kernel_rfl
theorem E8_1 : at_ Try.f8 [1, 1, 1, 1, 1, 0, 1, 0] = .loop (at_ Try.f8 [1, 1, 1, 1, 1, 0, 1, 0, 0]) := by kernel_rfl
noncomputable def R8x1 : RC := (.seq (.seq (.reg [⟨(some 54), none, (.mov (.tmp 14))⟩, ⟨(some 55), none, (.addo (.tmp 5) 5)⟩, ⟨(some 56), none, (.ld (.tmp 55) 1)⟩, ⟨(some 57), none, (.len (.tmp 56))⟩, ⟨(some 58), none, (.cmp .lss (.tmp 54) (.tmp 57))⟩])
  (.cond (.tmp 58) .skip
  (.exit 0)))
  (.seq (.block 1 (.seq (.dreg [⟨(some 61), none, (.addo (.tmp 5) 5)⟩, ⟨(some 62), none, (.ld (.tmp 61) 1)⟩, ⟨(some 63), none, (.mov (.tmp 14))⟩, ⟨(some 64), none, (.mov (.tmp 1))⟩, ⟨(some 65), none, (.pur ⟨(some 65), (.convert 5 3 (.tmp 64)), 3, "", (List.toArray []), none⟩)⟩, ⟨(some 66), none, (.ari .add (.tmp 63) (.tmp 65))⟩, ⟨(some 67), none, (.addo (.tmp 5) 5)⟩, ⟨(some 68), none, (.ld (.tmp 67) 1)⟩, ⟨(some 69), none, (.len (.tmp 68))⟩, ⟨(some 70), none, (.ari .rem (.tmp 66) (.tmp 69))⟩, ⟨(some 71), none, (.idx (.tmp 62) (.tmp 70) 5)⟩, ⟨(some 72), none, (.lda (.tmp 71) 5)⟩, ⟨(some 15), none, (.alc 58 [(.int .i64 0), (.int .i64 0), (.int .i64 0), (.int .i64 0), (.int .i64 0)])⟩, ⟨none, none, (.sta (.tmp 15) (.tmp 72) 5)⟩] [8191, 0, 2047, 1023, 508, 192, 64, 0, 28, 8, 0, 0, 1, 0])
  (.seq (.seq (.reg [⟨(some 73), none, (.mov (.tmp 14))⟩, ⟨(some 74), none, (.cmpb .eql (.tmp 73) (.const (.int .i64 0)))⟩, ⟨(some 75), none, (.mov (.tmp 74))⟩, ⟨(some 76), (some (75, true)), (.addo (.tmp 15) 0)⟩, ⟨(some 77), (some (75, true)), (.ld (.tmp 76) 1)⟩, ⟨(some 78), (some (75, true)), (.ari .rem (.tmp 77) (.const (.int .i64 2)))⟩, ⟨(some 79), (some (75, true)), (.cmpb .eql (.tmp 78) (.const (.int .i64 0)))⟩, ⟨(some 80), none, (.pur ⟨(some 80), (.pick (.tmp 75) (.tmp 79) (.const (.bool false))), 4, "", (List.toArray []), none⟩)⟩, ⟨(some 81), none, (.mov (.tmp 80))⟩, ⟨(some 82), (some (81, true)), (.addo (.tmp 15) 1)⟩, ⟨(some 83), (some (81, true)), (.ld (.tmp 82) 1)⟩, ⟨(some 84), (some (81, true)), (.ari .rem (.tmp 83) (.const (.int .i64 2)))⟩, ⟨(some 85), (some (81, true)), (.cmpb .eql (.tmp 84) (.const (.int .i64 0)))⟩, ⟨(some 86), none, (.pur ⟨(some 86), (.pick (.tmp 81) (.tmp 85) (.const (.bool false))), 4, "", (List.toArray []), none⟩)⟩, ⟨(some 87), none, (.mov (.tmp 86))⟩, ⟨(some 88), (some (87, true)), (.addo (.tmp 15) 2)⟩, ⟨(some 89), (some (87, true)), (.ld (.tmp 88) 1)⟩, ⟨(some 90), (some (87, true)), (.ari .rem (.tmp 89) (.const (.int .i64 2)))⟩, ⟨(some 91), (some (87, true)), (.cmpb .eql (.tmp 90) (.const (.int .i64 0)))⟩, ⟨(some 92), none, (.pur ⟨(some 92), (.pick (.tmp 87) (.tmp 91) (.const (.bool false))), 4, "", (List.toArray []), none⟩)⟩])
  (.cond (.tmp 92) (.seq (.reg [⟨(some 93), none, (.addo (.tmp 15) 0)⟩, ⟨(some 94), none, (.ld (.tmp 93) 1)⟩, ⟨(some 95), none, (.ari .quo (.tmp 94) (.const (.int .i64 2)))⟩, ⟨(some 96), none, (.addo (.tmp 15) 1)⟩, ⟨(some 97), none, (.ld (.tmp 96) 1)⟩, ⟨(some 98), none, (.ari .quo (.tmp 97) (.const (.int .i64 2)))⟩, ⟨(some 99), none, (.addo (.tmp 15) 2)⟩, ⟨(some 100), none, (.ld (.tmp 99) 1)⟩, ⟨(some 101), none, (.ari .quo (.tmp 100) (.const (.int .i64 2)))⟩, ⟨(some 102), none, (.addo (.tmp 15) 3)⟩, ⟨(some 103), none, (.ld (.tmp 102) 1)⟩, ⟨(some 104), none, (.addo (.tmp 15) 4)⟩, ⟨(some 105), none, (.ld (.tmp 104) 1)⟩, ⟨(some 106), none, (.pur ⟨(some 106), (.build 58 (List.toArray [(0, (.tmp 95)), (1, (.tmp 98)), (2, (.tmp 101)), (3, (.tmp 103)), (4, (.tmp 105))])), 58, "", (List.toArray []), none⟩)⟩, ⟨(some 16), none, (.alc 58 [(.int .i64 0), (.int .i64 0), (.int .i64 0), (.int .i64 0), (.int .i64 0)])⟩, ⟨none, none, (.sta (.tmp 16) (.tmp 106) 5)⟩])
  (.seq (.reg [⟨(some 107), none, (.addo (.tmp 13) 5)⟩, ⟨(some 108), none, (.ld (.tmp 107) 1)⟩, ⟨(some 109), none, (.lda (.tmp 16) 5)⟩, ⟨(some 110), none, (.lda (.tmp 16) 5)⟩, ⟨(some 111), none, (.mem ⟨(some 111), (.buildSlice 32 2 (List.toArray [(0, (.tmp 109)), (1, (.tmp 110))])), 32, "", (List.toArray []), none⟩)⟩, ⟨(some 112), none, (.mem ⟨(some 112), (.call ⟨(.builtin .append), (List.toArray [(.tmp 108), (.tmp 111)]), (List.toArray [32, 32])⟩), 32, "", (List.toArray []), none⟩)⟩, ⟨(some 113), none, (.addo (.tmp 13) 5)⟩, ⟨none, none, (.st (.tmp 113) (.tmp 112))⟩])
  (.exit 1)))
  .skip))
  (.reg [⟨(some 114), none, (.addo (.tmp 13) 5)⟩, ⟨(some 115), none, (.ld (.tmp 114) 1)⟩, ⟨(some 116), none, (.lda (.tmp 15) 5)⟩, ⟨(some 117), none, (.mem ⟨(some 117), (.buildSlice 32 1 (List.toArray [(0, (.tmp 116))])), 32, "", (List.toArray []), none⟩)⟩, ⟨(some 118), none, (.mem ⟨(some 118), (.call ⟨(.builtin .append), (List.toArray [(.tmp 115), (.tmp 117)]), (List.toArray [32, 32])⟩), 32, "", (List.toArray []), none⟩)⟩, ⟨(some 119), none, (.addo (.tmp 13) 5)⟩, ⟨none, none, (.st (.tmp 119) (.tmp 118))⟩]))))
  (.reg [⟨(some 59), none, (.mov (.tmp 14))⟩, ⟨(some 60), none, (.ari .add (.tmp 59) (.const (.int .i64 1)))⟩, ⟨(some 14), none, (.mov (.tmp 60))⟩])))
theorem L8x1 : low Try.prog Try.f8.ntmps (at_ Try.f8 [1, 1, 1, 1, 1, 0, 1, 0, 0]) = some R8x1 := by kernel_rfl
theorem N10 : Try.f10.ntmps = 78 := by kernel_rfl
theorem Z10 : Try.f10.results.toList = ((List.toArray [(.tmp 0)]) : Array ResultVar).toList := by kernel_rfl
theorem B10 : Try.f10.body = some (at_ Try.f10 []) := by kernel_rfl
noncomputable def R10 : RC := (.seq (.reg [⟨(some 0), none, (.mov (.const (.bool false)))⟩])
  (.seq (.reg [⟨(some 12), none, (.call ⟨(.value (.func 25)), (List.toArray []), (List.toArray [])⟩ true)⟩, ⟨(some 11), none, (.mov (.tmp 12))⟩, ⟨(some 13), none, (.pur ⟨(some 13), (.extract (.tmp 11) 0), 22, "", (List.toArray []), none⟩)⟩, ⟨(some 14), none, (.pur ⟨(some 14), (.extract (.tmp 11) 1), 34, "", (List.toArray []), none⟩)⟩, ⟨(some 2), none, (.alc 34 [(.int .i64 0), (.int .i64 0), (.int .i64 0), (.int .i64 0), (.int .i64 0), (.slice none 0 0)])⟩, ⟨(some 1), none, (.mov (.tmp 13))⟩, ⟨none, none, (.sta (.tmp 2) (.tmp 14) 6)⟩])
  (.seq (.reg [⟨(some 16), none, (.mov (.tmp 1))⟩, ⟨(some 17), none, (.call ⟨(.value (.func 11)), (List.toArray [(.tmp 16), (.const (.int .i64 2))]), (List.toArray [22, 3])⟩ true)⟩, ⟨(some 15), none, (.mov (.tmp 17))⟩, ⟨(some 18), none, (.pur ⟨(some 18), (.extract (.tmp 15) 0), 24, "", (List.toArray []), none⟩)⟩, ⟨(some 19), none, (.pur ⟨(some 19), (.extract (.tmp 15) 1), 25, "", (List.toArray []), none⟩)⟩, ⟨(some 3), none, (.mov (.tmp 18))⟩, ⟨(some 4), none, (.mov (.tmp 19))⟩])
  (.seq (.reg [⟨(some 21), none, (.mov (.tmp 1))⟩, ⟨(some 22), none, (.call ⟨(.value (.func 13)), (List.toArray [(.tmp 21), (.const (.int .i64 20))]), (List.toArray [22, 3])⟩ true)⟩, ⟨(some 20), none, (.mov (.tmp 22))⟩, ⟨(some 23), none, (.pur ⟨(some 23), (.extract (.tmp 20) 0), 3, "", (List.toArray []), none⟩)⟩, ⟨(some 24), none, (.pur ⟨(some 24), (.extract (.tmp 20) 1), 25, "", (List.toArray []), none⟩)⟩, ⟨(some 5), none, (.mov (.tmp 23))⟩, ⟨(some 6), none, (.mov (.tmp 24))⟩])
  (.seq (.reg [⟨(some 26), none, (.lda (.tmp 2) 6)⟩, ⟨(some 27), none, (.call ⟨(.value (.func 17)), (List.toArray [(.tmp 26)]), (List.toArray [34])⟩ true)⟩, ⟨(some 25), none, (.mov (.tmp 27))⟩, ⟨(some 28), none, (.pur ⟨(some 28), (.extract (.tmp 25) 0), 38, "", (List.toArray []), none⟩)⟩, ⟨(some 29), none, (.pur ⟨(some 29), (.extract (.tmp 25) 1), 25, "", (List.toArray []), none⟩)⟩, ⟨(some 7), none, (.alc 38 [(.int .i64 0), (.int .i64 0), (.int .i64 0), (.int .i64 0), (.int .i64 0), (.int .i64 0)])⟩, ⟨none, none, (.sta (.tmp 7) (.tmp 28) 6)⟩, ⟨(some 8), none, (.mov (.tmp 29))⟩])
  (.seq (.reg [⟨(some 31), none, (.mem ⟨(some 31), (.buildSlice 45 2 (List.toArray [(0, (.const (.int .i64 30))), (1, (.const (.int .i64 100)))])), 45, "", (List.toArray []), none⟩)⟩, ⟨(some 32), none, (.mem ⟨(some 32), (.buildSlice 45 4 (List.toArray [(0, (.const (.int .i64 90))), (1, (.const (.int .i64 90))), (2, (.const (.int .i64 90))), (3, (.const (.int .i64 120)))])), 45, "", (List.toArray []), none⟩)⟩, ⟨(some 33), none, (.mem ⟨(some 33), (.buildSlice 45 1 (List.toArray [(0, (.const (.int .i64 20)))])), 45, "", (List.toArray []), none⟩)⟩, ⟨(some 34), none, (.mem ⟨(some 34), (.buildSlice 35 3 (List.toArray [(0, (.tmp 31)), (1, (.tmp 32)), (2, (.tmp 33))])), 35, "", (List.toArray []), none⟩)⟩, ⟨(some 35), none, (.call ⟨(.value (.func 19)), (List.toArray [(.tmp 34), (.const (.int .i64 100)), (.const (.int .i64 3))]), (List.toArray [35, 3, 3])⟩ true)⟩, ⟨(some 30), none, (.mov (.tmp 35))⟩, ⟨(some 36), none, (.pur ⟨(some 36), (.extract (.tmp 30) 0), 3, "", (List.toArray []), none⟩)⟩, ⟨(some 37), none, (.pur ⟨(some 37), (.extract (.tmp 30) 1), 25, "", (List.toArray []), none⟩)⟩, ⟨(some 9), none, (.mov (.tmp 36))⟩, ⟨(some 10), none, (.mov (.tmp 37))⟩])
  (.seq (.seq (.reg [⟨(some 38), none, (.mov (.tmp 3))⟩, ⟨(some 39), none, (.len (.tmp 38))⟩, ⟨(some 40), none, (.cmpb .neq (.tmp 39) (.const (.int .i64 3)))⟩, ⟨(some 41), none, (.mov (.tmp 40))⟩, ⟨(some 42), (some (41, false)), (.mov (.tmp 3))⟩, ⟨(some 43), (some (41, false)), (.idx (.tmp 42) (.const (.int .i64 2)) 6)⟩, ⟨(some 44), (some (41, false)), (.lda (.tmp 43) 6)⟩, ⟨(some 45), (some (41, false)), (.pur ⟨(some 45), (.build 47 (List.toArray [(0, (.const (.int .i64 112))), (1, (.const (.int .i64 120)))])), 47, "", (List.toArray []), none⟩)⟩, ⟨(some 46), (some (41, false)), (.pur ⟨(some 46), (.build 47 (List.toArray [(0, (.const (.int .i64 127))), (1, (.const (.int .i64 160)))])), 47, "", (List.toArray []), none⟩)⟩, ⟨(some 47), (some (41, false)), (.pur ⟨(some 47), (.build 47 (List.toArray [(1, (.const (.int .i64 8)))])), 47, "", (List.toArray []), none⟩)⟩, ⟨(some 48), (some (41, false)), (.pur ⟨(some 48), (.build 52 (List.toArray [(0, (.tmp 45)), (1, (.tmp 46)), (2, (.tmp 47))])), 52, "", (List.toArray []), none⟩)⟩, ⟨(some 49), (some (41, false)), (.pur ⟨(some 49), (.binOp .neq 52 (.tmp 44) (.tmp 48) 52), 4, "", (List.toArray []), none⟩)⟩, ⟨(some 50), none, (.pur ⟨(some 50), (.pick (.tmp 41) (.const (.bool true)) (.tmp 49)), 4, "", (List.toArray []), none⟩)⟩, ⟨(some 51), none, (.mov (.tmp 50))⟩, ⟨(some 52), (some (51, false)), (.mov (.tmp 4))⟩, ⟨(some 53), (some (51, false)), (.cmpb .neq (.tmp 52) (.const (.int .i64 0)))⟩, ⟨(some 54), none, (.pur ⟨(some 54), (.pick (.tmp 51) (.const (.bool true)) (.tmp 53)), 4, "", (List.toArray []), none⟩)⟩, ⟨(some 55), none, (.mov (.tmp 54))⟩, ⟨(some 56), (some (55, false)), (.mov (.tmp 5))⟩, ⟨(some 57), (some (55, false)), (.cmpb .neq (.tmp 56) (.const (.int .i64 2)))⟩, ⟨(some 58), none, (.pur ⟨(some 58), (.pick (.tmp 55) (.const (.bool true)) (.tmp 57)), 4, "", (List.toArray []), none⟩)⟩, ⟨(some 59), none, (.mov (.tmp 58))⟩, ⟨(some 60), (some (59, false)), (.mov (.tmp 6))⟩, ⟨(some 61), (some (59, false)), (.cmpb .neq (.tmp 60) (.const (.int .i64 0)))⟩, ⟨(some 62), none, (.pur ⟨(some 62), (.pick (.tmp 59) (.const (.bool true)) (.tmp 61)), 4, "", (List.toArray []), none⟩)⟩])
  (.cond (.tmp 62) (.seq (.reg [⟨(some 0), none, (.mov (.const (.bool false)))⟩])
  .ret)
  .skip))
  (.seq (.reg [⟨(some 63), none, (.lda (.tmp 7) 6)⟩, ⟨(some 64), none, (.pur ⟨(some 64), (.build 38 (List.toArray [(0, (.const (.int .i64 7000))), (1, (.const (.int .i64 6580))), (2, (.const (.int .i64 233))), (3, (.const (.int .i64 187))), (4, (.const (.int .i64 329000))), (5, (.const (.int .i64 3948000)))])), 38, "", (List.toArray []), none⟩)⟩, ⟨(some 65), none, (.pur ⟨(some 65), (.binOp .eql 38 (.tmp 63) (.tmp 64) 38), 4, "", (List.toArray []), none⟩)⟩, ⟨(some 66), none, (.mov (.tmp 65))⟩, ⟨(some 67), (some (66, true)), (.mov (.tmp 8))⟩, ⟨(some 68), (some (66, true)), (.cmpb .eql (.tmp 67) (.const (.int .i64 0)))⟩, ⟨(some 69), none, (.pur ⟨(some 69), (.pick (.tmp 66) (.tmp 68) (.const (.bool false))), 4, "", (List.toArray []), none⟩)⟩, ⟨(some 70), none, (.mov (.tmp 69))⟩, ⟨(some 71), (some (70, true)), (.mov (.tmp 9))⟩, ⟨(some 72), (some (70, true)), (.cmpb .eql (.tmp 71) (.const (.int .i64 1)))⟩, ⟨(some 73), none, (.pur ⟨(some 73), (.pick (.tmp 70) (.tmp 72) (.const (.bool false))), 4, "", (List.toArray []), none⟩)⟩, ⟨(some 74), none, (.mov (.tmp 73))⟩, ⟨(some 75), (some (74, true)), (.mov (.tmp 10))⟩, ⟨(some 76), (some (74, true)), (.cmpb .eql (.tmp 75) (.const (.int .i64 0)))⟩, ⟨(some 77), none, (.pur ⟨(some 77), (.pick (.tmp 74) (.tmp 76) (.const (.bool false))), 4, "", (List.toArray []), none⟩)⟩, ⟨(some 0), none, (.mov (.tmp 77))⟩])
  .ret))))))))
theorem L10 : low Try.prog Try.f10.ntmps (at_ Try.f10 []) = some R10 := by kernel_rfl
theorem N25 : Try.f25.ntmps = 18 := by kernel_rfl
theorem Z25 : Try.f25.results.toList = ((List.toArray [(.tmp 0), (.cell 1 34)]) : Array ResultVar).toList := by kernel_rfl
theorem B25 : Try.f25.body = some (at_ Try.f25 []) := by kernel_rfl
noncomputable def R25 : RC := (.seq (.reg [⟨(some 0), none, (.mov (.const (.slice none 0 0)))⟩, ⟨(some 1), none, (.alc 34 [(.int .i64 0), (.int .i64 0), (.int .i64 0), (.int .i64 0), (.int .i64 0), (.slice none 0 0)])⟩])
  (.seq (.reg [⟨(some 3), none, (.pur ⟨(some 3), (.build 47 (List.toArray [(0, (.const (.int .i64 100))), (1, (.const (.int .i64 110)))])), 47, "", (List.toArray []), none⟩)⟩, ⟨(some 4), none, (.pur ⟨(some 4), (.build 47 (List.toArray [(0, (.const (.int .i64 20))), (1, (.const (.int .i64 30)))])), 47, "", (List.toArray []), none⟩)⟩, ⟨(some 5), none, (.pur ⟨(some 5), (.build 49 (List.toArray [(0, (.tmp 3)), (1, (.tmp 4))])), 49, "", (List.toArray []), none⟩)⟩, ⟨(some 6), none, (.pur ⟨(some 6), (.build 47 (List.toArray [(0, (.const (.int .i64 90))), (1, (.const (.int .i64 105)))])), 47, "", (List.toArray []), none⟩)⟩, ⟨(some 7), none, (.pur ⟨(some 7), (.build 47 (List.toArray [(0, (.const (.int .i64 10))), (1, (.const (.int .i64 10)))])), 47, "", (List.toArray []), none⟩)⟩, ⟨(some 8), none, (.pur ⟨(some 8), (.build 49 (List.toArray [(0, (.tmp 6)), (1, (.tmp 7))])), 49, "", (List.toArray []), none⟩)⟩, ⟨(some 9), none, (.pur ⟨(some 9), (.build 47 (List.toArray [(0, (.const (.int .i64 112))), (1, (.const (.int .i64 112)))])), 47, "", (List.toArray []), none⟩)⟩, ⟨(some 10), none, (.pur ⟨(some 10), (.build 47 (List.toArray [(0, (.const (.int .i64 15))), (1, (.const (.int .i64 40)))])), 47, "", (List.toArray []), none⟩)⟩, ⟨(some 11), none, (.pur ⟨(some 11), (.build 49 (List.toArray [(0, (.tmp 9)), (1, (.tmp 10))])), 49, "", (List.toArray []), none⟩)⟩, ⟨(some 12), none, (.mem ⟨(some 12), (.buildSlice 22 3 (List.toArray [(0, (.tmp 5)), (1, (.tmp 8)), (2, (.tmp 11))])), 22, "", (List.toArray []), none⟩)⟩, ⟨(some 2), none, (.mov (.tmp 12))⟩])
  (.seq (.reg [⟨(some 13), none, (.mov (.tmp 2))⟩, ⟨(some 14), none, (.pur ⟨(some 14), (.build 58 (List.toArray [(0, (.const (.int .i64 100))), (1, (.const (.int .i64 5))), (2, (.const (.int .i64 3))), (3, (.const (.int .i64 40))), (4, (.const (.int .i64 700)))])), 58, "", (List.toArray []), none⟩)⟩, ⟨(some 15), none, (.pur ⟨(some 15), (.build 58 (List.toArray [(0, (.const (.int .i64 50))), (2, (.const (.int .i64 1))), (3, (.const (.int .i64 70))), (4, (.const (.int .i64 400)))])), 58, "", (List.toArray []), none⟩)⟩, ⟨(some 16), none, (.mem ⟨(some 16), (.buildSlice 32 2 (List.toArray [(0, (.tmp 14)), (1, (.tmp 15))])), 32, "", (List.toArray []), none⟩)⟩, ⟨(some 17), none, (.pur ⟨(some 17), (.build 34 (List.toArray [(3, (.const (.int .i64 10000))), (4, (.const (.int .i64 3000))), (5, (.tmp 16))])), 34, "", (List.toArray []), none⟩)⟩, ⟨(some 0), none, (.mov (.tmp 13))⟩, ⟨none, none, (.sta (.tmp 1) (.tmp 17) 6)⟩])
  .ret)))
theorem L25 : low Try.prog Try.f25.ntmps (at_ Try.f25 []) = some R25 := by kernel_rfl
end Go.Ax

/-
  Station: sample, and awake: true in every world (written by program).
-/
namespace Go.Ax
open Go Go.RowKit Go.Proofs

theorem i34s : ∃ i, Try.prog.info? 34 = some i ∧ i.size = 6 := by
  have h : (Try.prog.info? 34).map (fun i => i.size) = some 6 := by kernel_rfl
  cases e : Try.prog.info? 34 with
  | none => rw [e] at h; cases h
  | some i => rw [e] at h; simp at h; exact ⟨i, rfl, h⟩
theorem a34 : isAggB Try.prog 34 = some true := by kernel_rfl
theorem res_tc {P : Program} {S : Rg} {H : Hp} {a b x n : Nat} {t : TypeId} {cs : List Value} {v : Value} (hb : lk S b = some v) (ha : lk S a = some (.pointer (some ⟨x, 0, none⟩))) (h1 : isAggB P t = some true) (hi : ∃ i, P.info? t = some i ∧ i.size = n) (hl : cs.length = n) (h : Cl H x cs) : resS P S H [.tmp b, .cell a t] = some [v, .agg cs.toArray] := by
  simp only [resS, ha, hb, load_agg h1 hi h.rd hl]
def L0 : List Tk := [⟨100, 110, 20, 30⟩, ⟨90, 105, 10, 10⟩, ⟨112, 112, 15, 40⟩]
def M0 : List Sm := [⟨100, 5, 3, 40, 700⟩, ⟨50, 0, 1, 70, 400⟩]
def s0 (b : Nat) : Sp := ⟨0, 0, 0, 10000, 3000, some ⟨b, 0, none⟩, 2, 2, M0⟩
def rs0 (a b c : Nat) : List Rw := [⟨some ⟨a, 0, none⟩, 2, 2, [30, 100]⟩, ⟨some ⟨b, 0, none⟩, 4, 4, [90, 90, 90, 120]⟩, ⟨some ⟨c, 0, none⟩, 1, 1, [20]⟩]
theorem q0 : qe L0 2 = 0 := by kernel_rfl
theorem q1 : ql L0 2 = visL L0 2 := by kernel_rfl
theorem q2 : (visL L0 2)[2]? = some ⟨112, 120, 127, 160, 0, 8⟩ := by kernel_rfl
theorem q3 : by' L0 20 = (2, 0) := by kernel_rfl
theorem q4 (b : Nat) : (s0 b).load = ⟨7000, 6580, 233, 187, 329000, 3948000⟩ := by kernel_rfl
theorem q5 (b : Nat) : (s0 b).we = 0 := by kernel_rfl
theorem q6 (a b c : Nat) : boN (rs0 a b c) 100 3 = 1 := by kernel_rfl
theorem q7 (a b c : Nat) : boE (rs0 a b c) 100 3 = 0 := by kernel_rfl
section
variable {kn : FuncId → Option Bool} {lo : Nat} {H : Hp}
/-- sample -/
theorem sample25_ok (hlo : lo ≤ H.next) : ∃ w H', FnX Try.prog kn lo 25 [] H w H' ∧ ∃ b1 b2, w = .tuple #[slv b1 3 3, .agg (s0 b2).v.toArray] ∧ Keep H H' [] ∧ H.next ≤ b1 ∧ H.next ≤ b2 ∧ Sc H' b1 (tkc L0) ∧ Sc H' b2 (smc M0) := by
  have key := fnX_low (kn := kn) (lo := lo) (H := H) (args := []) (Q := fun w H' => ∃ b1 b2, w = .tuple #[slv b1 3 3, .agg (s0 b2).v.toArray] ∧ Keep H H' [] ∧ H.next ≤ b1 ∧ H.next ≤ b2 ∧ Sc H' b1 (tkc L0) ∧ Sc H' b2 (smc M0)) Try.func25 B25 N25 Z25 L25 (by simp) ?_
  · exact key
  have hk := Keep.refl H []
  refine wN_seq ?_
  refine wN_mov (v := .slice none 0 0) rfl ?_
  refine wN_alc ?_
  intro H1 kH1 nH1 c1
  have c1 : Cl H1 H.next [iv 0, iv 0, iv 0, iv 0, iv 0, .slice none 0 0] := c1
  have mH1 := kH1.1
  have hk := hk.trans kH1
  refine wN_end ?_
  refine wN_seq ?_
  refine wN_pur (v := .agg #[iv 100, iv 110]) rfl (by kernel_rfl) ?_
  refine wN_pur (v := .agg #[iv 20, iv 30]) rfl (by kernel_rfl) ?_
  refine wN_pur (v := .agg #[iv 100, iv 110, iv 20, iv 30]) rfl (by kernel_rfl) ?_
  refine wN_pur (v := .agg #[iv 90, iv 105]) rfl (by kernel_rfl) ?_
  refine wN_pur (v := .agg #[iv 10, iv 10]) rfl (by kernel_rfl) ?_
  refine wN_pur (v := .agg #[iv 90, iv 105, iv 10, iv 10]) rfl (by kernel_rfl) ?_
  refine wN_pur (v := .agg #[iv 112, iv 112]) rfl (by kernel_rfl) ?_
  refine wN_pur (v := .agg #[iv 15, iv 40]) rfl (by kernel_rfl) ?_
  refine wN_pur (v := .agg #[iv 112, iv 112, iv 15, iv 40]) rfl (by kernel_rfl) ?_
  obtain ⟨H2, hgH2⟩ : ∃ H2, H1.new (.cells [iv 100, iv 110, iv 20, iv 30, iv 90, iv 105, iv 10, iv 10, iv 112, iv 112, iv 15, iv 40] 49 false) = H2 := ⟨_, rfl⟩
  refine wN_memh (v := .slice (some ⟨H1.next, 0, none⟩) 3 3) (H' := H2) (k := .heavy) rfl (by kernel_rfl) (by rw [← hgH2]; kernel_rfl) (fun b e => by cases e) ?_
  obtain ⟨kH2, nH2, _⟩ := new_facts hgH2
  have t1 := new_sc hgH2
  have mH2 := kH2.1
  have hk := hk.trans kH2
  have c1 := kH2.cl c1 (by simp)
  obtain ⟨bt1, hbt1⟩ : ∃ q, q = H1.next := ⟨_, rfl⟩
  rw [← hbt1] at t1 ⊢
  refine wN_mov (v := .slice (some ⟨bt1, 0, none⟩) 3 3) rfl ?_
  refine wN_end ?_
  refine wN_seq ?_
  refine wN_mov (v := .slice (some ⟨bt1, 0, none⟩) 3 3) rfl ?_
  refine wN_pur (v := .agg #[iv 100, iv 5, iv 3, iv 40, iv 700]) rfl (by kernel_rfl) ?_
  refine wN_pur (v := .agg #[iv 50, iv 0, iv 1, iv 70, iv 400]) rfl (by kernel_rfl) ?_
  obtain ⟨H3, hgH3⟩ : ∃ H3, H2.new (.cells [iv 100, iv 5, iv 3, iv 40, iv 700, iv 50, iv 0, iv 1, iv 70, iv 400] 58 false) = H3 := ⟨_, rfl⟩
  refine wN_memh (v := .slice (some ⟨H2.next, 0, none⟩) 2 2) (H' := H3) (k := .heavy) rfl (by kernel_rfl) (by rw [← hgH3]; kernel_rfl) (fun b e => by cases e) ?_
  obtain ⟨kH3, nH3, _⟩ := new_facts hgH3
  have t2 := new_sc hgH3
  have mH3 := kH3.1
  have hk := hk.trans kH3
  have c1 := kH3.cl c1 (by simp)
  have t1 := kH3.sc t1 (by simp)
  obtain ⟨bt2, hbt2⟩ : ∃ q, q = H2.next := ⟨_, rfl⟩
  rw [← hbt2] at t2 ⊢
  refine wN_pur (v := .agg #[iv 0, iv 0, iv 0, iv 10000, iv 3000, .slice (some ⟨bt2, 0, none⟩) 2 2]) rfl (by kernel_rfl) ?_
  refine wN_mov (v := .slice (some ⟨bt1, 0, none⟩) 3 3) rfl ?_
  refine wN_sta (b := H.next) (o := 0) rfl rfl c1 (by omega) rfl rfl (by simp) ?_
  intro H4 kH4 nH4 sH4
  have mH4 := kH4.1
  have hk := hk.new kH4 (fun b hb => by simp at hb ⊢; omega)
  have t1 := kH4.sc t1 (by first | (simp; done) | (simp; omega))
  have t2 := kH4.sc t2 (by first | (simp; done) | (simp; omega))
  have c1 : Cl H4 H.next [iv 0, iv 0, iv 0, iv 10000, iv 3000, .slice (some ⟨bt2, 0, none⟩) 2 2] := sH4
  refine wN_end ?_
  exact And.intro trivial (Exists.intro _ (And.intro (res_tc rfl rfl a34 i34s rfl c1) ⟨bt1, bt2, rfl, hk, by omega, by omega, t1, t2⟩))
set_option maxRecDepth 100000 in
/-- awake -/
theorem awake10_ok (hro : RoLow lo H) (hlo : lo ≤ H.next) : ∃ H', FnX Try.prog (fun _ => none) lo 10 [] H (.bool true) H' ∧ Keep H H' [] := by
  have key := fnX_low (kn := fun _ => none) (lo := lo) (H := H) (args := []) (Q := fun w H' => w = .bool true ∧ Keep H H' []) Try.func10 B10 N10 Z10 L10 (by simp) ?_
  · obtain ⟨w, H', h, rfl, q⟩ := key; exact ⟨H', h, q⟩
  have hk := Keep.refl H []
  refine wN_seq ?_
  refine wN_mov (v := .bool false) rfl ?_
  refine wN_end ?_
  refine wN_seq ?_
  obtain ⟨wH1, H1, fH1, b1, b2, rfl, kH1, l1, l2, t1, t2⟩ := sample25_ok (kn := fun _ => none) (lo := lo) (H := H) (by omega)
  refine wN_callf (vs := []) rfl (callX_func (by rfl) (by simpa using fH1)) ?_
  have mH1 := kH1.1
  have hk := hk.trans kH1
  have lt1 := t1.lt
  have lt2 := t2.lt
  refine wN_mov (v := .tuple #[.slice (some ⟨b1, 0, none⟩) 3 3, .agg (s0 b2).v.toArray]) rfl ?_
  refine wN_pur (v := .slice (some ⟨b1, 0, none⟩) 3 3) rfl (by kernel_rfl) ?_
  refine wN_pur (v := .agg (s0 b2).v.toArray) rfl (by kernel_rfl) ?_
  refine wN_alc ?_
  intro H2 kH2 nH2 c2
  have c2 : Cl H2 H1.next [iv 0, iv 0, iv 0, iv 0, iv 0, .slice none 0 0] := c2
  have mH2 := kH2.1
  have hk := hk.trans kH2
  have t1 := kH2.sc t1 (by simp)
  have t2 := kH2.sc t2 (by simp)
  refine wN_mov (v := .slice (some ⟨b1, 0, none⟩) 3 3) rfl ?_
  refine wN_sta (b := H1.next) (o := 0) rfl rfl c2 (by omega) rfl rfl (by simp) ?_
  intro H3 kH3 nH3 sH3
  have mH3 := kH3.1
  have hk := hk.new kH3 (fun b hb => by simp at hb ⊢; omega)
  have t1 := kH3.sc t1 (by first | (simp; done) | (simp; omega))
  have t2 := kH3.sc t2 (by first | (simp; done) | (simp; omega))
  have c2 : Cl H3 H1.next [iv 0, iv 0, iv 0, iv 10000, iv 3000, .slice (some ⟨b2, 0, none⟩) 2 2] := sH3
  refine wN_end ?_
  refine wN_seq ?_
  refine wN_mov (v := .slice (some ⟨b1, 0, none⟩) 3 3) rfl ?_
  obtain ⟨wH4, H4, fH4, a, c, rfl, kH4, hv, _⟩ := queue11_ok (kn := fun _ => none) (lo := lo) (H := H3) (bays := 2) (t1.cl.sl (Nat.le_refl 3)) rfl (hk.low hro) (by omega)
  rw [q0, q1, visL_len] at fH4
  rw [q1, visL_len] at hv
  have fH4 : FnX Try.prog (fun _ => none) lo 11 [slv b1 3 3, iv 2] H3 (.tuple #[.slice a 3 c, iv 0]) H4 := fH4
  have hv : Sl H4 a 3 c (vsc (visL L0 2)) := hv
  refine wN_callf (vs := [slv b1 3 3, iv 2]) rfl (callX_args fH4) ?_
  have mH4 := kH4.1
  have hk := hk.trans kH4
  have t1 := kH4.sc t1 (by simp)
  have t2 := kH4.sc t2 (by simp)
  have c2 := kH4.cl c2 (by simp)
  have fv := hv.old
  refine wN_mov (v := .tuple #[.slice a 3 c, iv 0]) rfl ?_
  refine wN_pur (v := .slice a 3 c) rfl (by kernel_rfl) ?_
  refine wN_pur (v := iv 0) rfl (by kernel_rfl) ?_
  refine wN_mov (v := .slice a 3 c) rfl ?_
  refine wN_mov (v := iv 0) rfl ?_
  refine wN_end ?_
  refine wN_seq ?_
  refine wN_mov (v := .slice (some ⟨b1, 0, none⟩) 3 3) rfl ?_
  obtain ⟨H5, fH5, kH5⟩ := bays13_ok (kn := fun _ => none) (lo := lo) (H := H4) (m := 20) (t1.cl.sl (Nat.le_refl 3)) rfl (hk.low hro) (by omega)
  rw [q3] at fH5
  refine wN_callf (vs := [slv b1 3 3, iv 20]) rfl (callX_args fH5) ?_
  have mH5 := kH5.1
  have hk := hk.trans kH5
  have t1 := kH5.sc t1 (by simp)
  have t2 := kH5.sc t2 (by simp)
  have c2 := kH5.cl c2 (by simp)
  have hv := kH5.sl0 hv
  refine wN_mov (v := .tuple #[iv 2, iv 0]) rfl ?_
  refine wN_pur (v := iv 2) rfl (by kernel_rfl) ?_
  refine wN_pur (v := iv 0) rfl (by kernel_rfl) ?_
  refine wN_mov (v := iv 2) rfl ?_
  refine wN_mov (v := iv 0) rfl ?_
  refine wN_end ?_
  refine wN_seq ?_
  refine wN_lda (b := H1.next) (o := 0) rfl c2.rd (show row 6 _ _ = some [iv 0, iv 0, iv 0, iv 10000, iv 3000, .slice (some ⟨b2, 0, none⟩) 2 2] from rfl) ?_
  obtain ⟨H6, fH6, kH6⟩ := weigh17_ok (kn := fun _ => none) (lo := lo) (H := H5) (s := s0 b2) (t2.cl.sl (Nat.le_refl 2)) rfl (by omega)
  rw [q4, q5] at fH6
  refine wN_callf (vs := [.agg (s0 b2).v.toArray]) rfl (callX_args fH6) ?_
  have mH6 := kH6.1
  have hk := hk.trans kH6
  have t1 := kH6.sc t1 (by simp)
  have t2 := kH6.sc t2 (by simp)
  have c2 := kH6.cl c2 (by simp)
  have hv := kH6.sl0 hv
  refine wN_mov (v := .tuple #[.agg #[iv 7000, iv 6580, iv 233, iv 187, iv 329000, iv 3948000], iv 0]) rfl ?_
  refine wN_pur (v := .agg #[iv 7000, iv 6580, iv 233, iv 187, iv 329000, iv 3948000]) rfl (by kernel_rfl) ?_
  refine wN_pur (v := iv 0) rfl (by kernel_rfl) ?_
  refine wN_alc ?_
  intro H7 kH7 nH7 c7
  have c7 : Cl H7 H6.next [iv 0, iv 0, iv 0, iv 0, iv 0, iv 0] := c7
  have mH7 := kH7.1
  have hk := hk.trans kH7
  have t1 := kH7.sc t1 (by simp)
  have t2 := kH7.sc t2 (by simp)
  have c2 := kH7.cl c2 (by simp)
  have hv := kH7.sl0 hv
  refine wN_sta (b := H6.next) (o := 0) rfl rfl c7 (by omega) rfl rfl (by simp) ?_
  intro H8 kH8 nH8 sH8
  have mH8 := kH8.1
  have hk := hk.new kH8 (fun b hb => by simp at hb ⊢; omega)
  have t1 := kH8.sc t1 (by first | (simp; done) | (simp; omega))
  have t2 := kH8.sc t2 (by first | (simp; done) | (simp; omega))
  have c2 := kH8.cl c2 (by first | (simp; done) | (simp; omega))
  have hv := kH8.sl hv (fun b e => by have := fv b e; first | (simp; done) | (simp; omega))
  have c7 : Cl H8 H6.next [iv 7000, iv 6580, iv 233, iv 187, iv 329000, iv 3948000] := sH8
  refine wN_mov (v := iv 0) rfl ?_
  refine wN_end ?_
  refine wN_seq ?_
  obtain ⟨H9, hgH9⟩ : ∃ H9, H8.new (.cells [iv 30, iv 100] 3 false) = H9 := ⟨_, rfl⟩
  refine wN_memh (v := .slice (some ⟨H8.next, 0, none⟩) 2 2) (H' := H9) (k := .heavy) rfl (by kernel_rfl) (by rw [← hgH9]; kernel_rfl) (fun b e => by cases e) ?_
  obtain ⟨kH9, nH9, _⟩ := new_facts hgH9
  have r1 := new_sc hgH9
  have mH9 := kH9.1
  have hk := hk.trans kH9
  have t1 := kH9.sc t1 (by simp)
  have t2 := kH9.sc t2 (by simp)
  have c2 := kH9.cl c2 (by simp)
  have hv := kH9.sl0 hv
  have c7 := kH9.cl c7 (by simp)
  obtain ⟨br1, hbr1⟩ : ∃ q, q = H8.next := ⟨_, rfl⟩
  rw [← hbr1] at r1 ⊢
  obtain ⟨H10, hgH10⟩ : ∃ H10, H9.new (.cells [iv 90, iv 90, iv 90, iv 120] 3 false) = H10 := ⟨_, rfl⟩
  refine wN_memh (v := .slice (some ⟨H9.next, 0, none⟩) 4 4) (H' := H10) (k := .heavy) rfl (by kernel_rfl) (by rw [← hgH10]; kernel_rfl) (fun b e => by cases e) ?_
  obtain ⟨kH10, nH10, _⟩ := new_facts hgH10
  have r2 := new_sc hgH10
  have mH10 := kH10.1
  have hk := hk.trans kH10
  have t1 := kH10.sc t1 (by simp)
  have t2 := kH10.sc t2 (by simp)
  have c2 := kH10.cl c2 (by simp)
  have hv := kH10.sl0 hv
  have c7 := kH10.cl c7 (by simp)
  have r1 := kH10.sc r1 (by simp)
  obtain ⟨br2, hbr2⟩ : ∃ q, q = H9.next := ⟨_, rfl⟩
  rw [← hbr2] at r2 ⊢
  obtain ⟨H11, hgH11⟩ : ∃ H11, H10.new (.cells [iv 20] 3 false) = H11 := ⟨_, rfl⟩
  refine wN_memh (v := .slice (some ⟨H10.next, 0, none⟩) 1 1) (H' := H11) (k := .heavy) rfl (by kernel_rfl) (by rw [← hgH11]; kernel_rfl) (fun b e => by cases e) ?_
  obtain ⟨kH11, nH11, _⟩ := new_facts hgH11
  have r3 := new_sc hgH11
  have mH11 := kH11.1
  have hk := hk.trans kH11
  have t1 := kH11.sc t1 (by simp)
  have t2 := kH11.sc t2 (by simp)
  have c2 := kH11.cl c2 (by simp)
  have hv := kH11.sl0 hv
  have c7 := kH11.cl c7 (by simp)
  have r1 := kH11.sc r1 (by simp)
  have r2 := kH11.sc r2 (by simp)
  obtain ⟨br3, hbr3⟩ : ∃ q, q = H10.next := ⟨_, rfl⟩
  rw [← hbr3] at r3 ⊢
  obtain ⟨H12, hgH12⟩ : ∃ H12, H11.new (.cells [.slice (some ⟨br1, 0, none⟩) 2 2, .slice (some ⟨br2, 0, none⟩) 4 4, .slice (some ⟨br3, 0, none⟩) 1 1] 45 false) = H12 := ⟨_, rfl⟩
  refine wN_memh (v := .slice (some ⟨H11.next, 0, none⟩) 3 3) (H' := H12) (k := .heavy) rfl (by kernel_rfl) (by rw [← hgH12]; kernel_rfl) (fun b e => by cases e) ?_
  obtain ⟨kH12, nH12, _⟩ := new_facts hgH12
  have r0 := new_sc hgH12
  have mH12 := kH12.1
  have hk := hk.trans kH12
  have t1 := kH12.sc t1 (by simp)
  have t2 := kH12.sc t2 (by simp)
  have c2 := kH12.cl c2 (by simp)
  have hv := kH12.sl0 hv
  have c7 := kH12.cl c7 (by simp)
  have r1 := kH12.sc r1 (by simp)
  have r2 := kH12.sc r2 (by simp)
  have r3 := kH12.sc r3 (by simp)
  obtain ⟨br0, hbr0⟩ : ∃ q, q = H11.next := ⟨_, rfl⟩
  rw [← hbr0] at r0 ⊢
  have lr1 := r1.lt
  have lr2 := r2.lt
  have lr3 := r3.lt
  have lr0 := r0.lt
  have hR : Rws H12 H12.next (some ⟨br0, 0, none⟩) 3 3 (rs0 br1 br2 br3) := by
    refine ⟨.inr ⟨br0, 0, _, rfl, r0.cl.rd, lr0, Nat.le_refl _, fun i r hr => ?_⟩, rfl, fun r hr => ?_⟩
    · match i, hr with
      | 0, hr => cases hr; rfl
      | 1, hr => cases hr; rfl
      | 2, hr => cases hr; rfl
      | _ + 3, hr => cases hr
    · simp only [rs0, List.mem_cons, List.not_mem_nil, or_false] at hr
      rcases hr with rfl | rfl | rfl
      · exact ⟨r1.cl.sl (Nat.le_refl _), rfl, fun x e => by cases e; exact ⟨lr1, r1.fx⟩⟩
      · exact ⟨r2.cl.sl (Nat.le_refl _), rfl, fun x e => by cases e; exact ⟨lr2, r2.fx⟩⟩
      · exact ⟨r3.cl.sl (Nat.le_refl _), rfl, fun x e => by cases e; exact ⟨lr3, r3.fx⟩⟩
  obtain ⟨H13, fH13, kH13⟩ := bounce19_ok (kn := fun _ => none) (lo := lo) (H := H12) (b := 100) (m := 3) hR (Nat.le_refl _) (fun r hr => by simp only [rs0, List.mem_cons, List.not_mem_nil, or_false] at hr; rcases hr with rfl | rfl | rfl <;> (simp only; omega)) (by decide) (by omega)
  rw [q6, q7] at fH13
  refine wN_callf (vs := [slv br0 3 3, iv 100, iv 3]) rfl (callX_args fH13) ?_
  have mH13 := kH13.1
  have hk := hk.trans kH13
  have t1 := kH13.sc t1 (by simp)
  have t2 := kH13.sc t2 (by simp)
  have c2 := kH13.cl c2 (by simp)
  have hv := kH13.sl0 hv
  have c7 := kH13.cl c7 (by simp)
  have r1 := kH13.sc r1 (by simp)
  have r2 := kH13.sc r2 (by simp)
  have r3 := kH13.sc r3 (by simp)
  have r0 := kH13.sc r0 (by simp)
  refine wN_mov (v := .tuple #[iv 1, iv 0]) rfl ?_
  refine wN_pur (v := iv 1) rfl (by kernel_rfl) ?_
  refine wN_pur (v := iv 0) rfl (by kernel_rfl) ?_
  refine wN_mov (v := iv 1) rfl ?_
  refine wN_mov (v := iv 0) rfl ?_
  refine wN_end ?_
  refine wN_seq ?_
  refine wN_mov (v := .slice a 3 c) rfl ?_
  refine wN_len (m := 3) rfl ?_
  refine wN_b_neq (a := 3) (b := 3) rfl rfl ?_
  intro t1 g1; obtain rfl : t1 = false := by rw [← g1]; rfl
  refine wN_mov (v := .bool false) rfl ?_
  refine wN_g rfl (wN_mov (v := .slice a 3 c) rfl ?_)
  rcases hv with ⟨_, h0, _⟩ | ⟨sv, esv, rv, _⟩
  · omega
  refine wN_g rfl (wN_idx (b := sv) (o := 0) (k := 2) (j := 2) (by rw [← esv]; rfl) rfl rfl (by decide) ?_)
  refine wN_g rfl (wN_lda (b := sv) (o := 0 + 2 * 6) rfl rv (vsc_row q2) ?_)
  refine wN_g rfl (wN_pur (v := .agg #[iv 112, iv 120]) rfl (by kernel_rfl) ?_)
  refine wN_g rfl (wN_pur (v := .agg #[iv 127, iv 160]) rfl (by kernel_rfl) ?_)
  refine wN_g rfl (wN_pur (v := .agg #[iv 0, iv 8]) rfl (by kernel_rfl) ?_)
  refine wN_g rfl (wN_pur (v := .agg #[iv 112, iv 120, iv 127, iv 160, iv 0, iv 8]) rfl (by kernel_rfl) ?_)
  refine wN_g rfl (wN_pur (v := .bool false) rfl (neq_visit rfl rfl) ?_)
  refine wN_pur (v := .bool false) rfl rfl ?_
  refine wN_mov (v := .bool false) rfl ?_
  refine wN_g rfl (wN_mov (v := iv 0) rfl ?_)
  refine wN_g rfl (wN_b_neq (a := 0) (b := 0) rfl rfl ?_)
  intro t2 g2; obtain rfl : t2 = false := by rw [← g2]; rfl
  refine wN_pur (v := .bool false) rfl rfl ?_
  refine wN_mov (v := .bool false) rfl ?_
  refine wN_g rfl (wN_mov (v := iv 2) rfl ?_)
  refine wN_g rfl (wN_b_neq (a := 2) (b := 2) rfl rfl ?_)
  intro t3 g3; obtain rfl : t3 = false := by rw [← g3]; rfl
  refine wN_pur (v := .bool false) rfl rfl ?_
  refine wN_mov (v := .bool false) rfl ?_
  refine wN_g rfl (wN_mov (v := iv 0) rfl ?_)
  refine wN_g rfl (wN_b_neq (a := 0) (b := 0) rfl rfl ?_)
  intro t4 g4; obtain rfl : t4 = false := by rw [← g4]; rfl
  refine wN_pur (v := .bool false) rfl rfl ?_
  refine wN_end ?_
  refine condF ?_
  first | refine wN_skip ?_ | skip
  refine wN_seq ?_
  refine wN_lda (b := H6.next) (o := 0) rfl c7.rd (show row 6 _ _ = some [iv 7000, iv 6580, iv 233, iv 187, iv 329000, iv 3948000] from rfl) ?_
  refine wN_pur (v := .agg #[iv 7000, iv 6580, iv 233, iv 187, iv 329000, iv 3948000]) rfl (by kernel_rfl) ?_
  refine wN_pur (v := .bool true) rfl (eql_load rfl rfl) ?_
  refine wN_mov (v := .bool true) rfl ?_
  refine wN_g rfl (wN_mov (v := iv 0) rfl ?_)
  refine wN_g rfl (wN_b_eql (a := 0) (b := 0) rfl rfl ?_)
  intro t5 g5; obtain rfl : t5 = true := by rw [← g5]; rfl
  refine wN_pur (v := .bool true) rfl rfl ?_
  refine wN_mov (v := .bool true) rfl ?_
  refine wN_g rfl (wN_mov (v := iv 1) rfl ?_)
  refine wN_g rfl (wN_b_eql (a := 1) (b := 1) rfl rfl ?_)
  intro t6 g6; obtain rfl : t6 = true := by rw [← g6]; rfl
  refine wN_pur (v := .bool true) rfl rfl ?_
  refine wN_mov (v := .bool true) rfl ?_
  refine wN_g rfl (wN_mov (v := iv 0) rfl ?_)
  refine wN_g rfl (wN_b_eql (a := 0) (b := 0) rfl rfl ?_)
  intro t7 g7; obtain rfl : t7 = true := by rw [← g7]; rfl
  refine wN_pur (v := .bool true) rfl rfl ?_
  refine wN_mov (v := .bool true) rfl ?_
  refine wN_end ?_
  exact And.intro trivial (Exists.intro _ (And.intro rfl ⟨rfl, hk⟩))
end
end Go.Ax

/-
  Proved here: 'alive', the closed part that every law of station ends in, returns true in every world and leaves what lay below as it was. Conditions: none.
  It has no arguments; it is walked (the K texts) by the evaluator of calls, whose soundness against the machine is 'Go.Ax.open_call'.
-/
namespace Go.Ax
open Go Go.RowKit
theorem known_one {P : Program} {g : FuncId} {t : Bool} (hb : ((P.funcs[g]?).bind (fun fn => fn.body)).isSome = true) (hc : ∀ w, Calls P g #[] w fun e w' => e = .returned (.bool t) ∧ Below w.heap.size w w') :
    Known P fun f => bif Nat.beq f g then some t else none := by
  intro f b h
  obtain ⟨hf, h1⟩ := bif_some h
  clear h
  have hf := Nat.eq_of_beq_eq_true hf
  subst hf
  cases h1
  refine ⟨?_, hc⟩
  cases hx : P.funcs[f]? with
  | none => rw [hx] at hb; cases hb
  | some fn =>
    rw [hx] at hb
    cases hy : fn.body with
    | none => rw [Option.bind_some, hy] at hb; cases hb
    | some c => exact ⟨fn, c, rfl, hy⟩
end Go.Ax
namespace Go.Proofs.Ytocgghpjbaelpaa.alive
open Go.RowKit

theorem mixed : Try.prog.follows .mixedOrders = true := by kernel_rfl
theorem plainNames : (Try.prog.funcs.toList.all fun fn => !(fn.name == "runtime.NumGoroutine")) = true := by kernel_rfl
theorem noCount : Go.Ax.NoCount Try.prog := fun f fn h => by
  have h2 := List.all_eq_true.1 plainNames fn (by
    have := Array.mem_of_getElem? h
    simpa using this)
  simpa using h2

theorem call (w : World) : Calls Try.prog 10 #[] w fun e w' => e = .returned (.bool true) ∧ Below w.heap.size w w' := by
  obtain ⟨r, H, hrel, hr⟩ : ∃ (r : Go.Ax.Ren) (H : Go.Ax.Hp), Go.Ax.Rel Try.prog r w.heap.size H w ∧ ∀ b loc, r b = some loc → b < H.next := by
    obtain ⟨r, H, h1, h2, h3⟩ := Go.Ax.imports (P := Try.prog) [] w (fun x hx => by simp at hx)
    exact ⟨r, H, by first | exact h1 | exact h2, by first | exact h2 | exact h3 | exact h3.1⟩
  obtain ⟨H', hf, _⟩ := Go.Ax.awake10_ok (lo := H.next) (H := H) (fun b cs hb _ => hb) (Nat.le_refl _)
  exact Go.Ax.open_call mixed noCount (Go.Ax.Known.nothing _) hrel hr .nil hf

theorem known : Go.Ax.Known Try.prog fun f => bif Nat.beq f 10 then some true else none := Go.Ax.known_one (by kernel_rfl) call
end Go.Proofs.Ytocgghpjbaelpaa.alive

/-
  Station: the laws StationQueues and StationWeighs, whatever the input (written by program).
-/
namespace Go.Ax
open Go Go.RowKit Go.Proofs

section
variable {kn : FuncId → Option Bool} {lo : Nat} {H : Hp}
end
end Go.Ax

/-
  Station: loads that are split, samples that are turned (written by program).
-/
namespace Go.Ax
open Go Go.RowKit

abbrev Sp.g (s : Sp) (x : Int) : Sp := ⟨s.gr, s.bed, s.day, x, s.tare, s.sa, s.sn, s.scap, s.ss⟩
theorem Sp.load_ok {s : Sp} (h : s.ok = true) : s.load = ⟨s.net, s.good, s.trash, s.rot, s.col, s.firm⟩ := by unfold Sp.load; rw [if_pos h]
theorem Sp.load_no {s : Sp} (h : s.ok = false) : s.load = Ld.z := by unfold Sp.load; rw [if_neg (by rw [h]; decide)]
theorem Sp.we_ok {s : Sp} (h : s.ok = true) : s.we = 0 := by unfold Sp.we; rw [if_pos h]
theorem Sp.we_no {s : Sp} (h : s.ok = false) : s.we = 1 := by unfold Sp.we; rw [if_neg (by rw [h]; decide)]
theorem div_add_ge {a b c : Int} (hc : 0 < c) : (a + b) / c ≤ a / c + b / c + 1 := by
  have h1 := Int.lt_ediv_add_one_mul_self a hc
  have h2 := Int.lt_ediv_add_one_mul_self b hc
  have h3 : (a + b) / c < a / c + b / c + 2 := by
    refine (Int.ediv_lt_iff_lt_mul hc).2 ?_
    have e : (a / c + b / c + 2) * c = (a / c + 1) * c + (b / c + 1) * c := by rw [← Int.add_mul]; congr 1; omega
    rw [e]; omega
  omega
theorem Sp.ends {s : Sp} (nb : s.Nb) {q : Sm → Int} {l h X : Int} (hX : X = sm (fun x => x.w * q x) s.ss) (hl : ∀ y ∈ s.ss, l ≤ q y) (hh : ∀ y ∈ s.ss, q y ≤ h) : s.good * l ≤ s.good * X / s.W ∧ s.good * X / s.W ≤ s.good * h := by
  have w := nb.w; have g := nb.good
  have e1 : l * s.W ≤ X := by
    rw [hX, Int.mul_comm]
    show sm fW s.ss * l ≤ _
    rw [← sm_mul]
    exact sm_le fun y hy => Int.mul_le_mul_of_nonneg_left (hl y hy) (fW_in (nb.ok y hy)).1
  have e2 : X ≤ h * s.W := by
    rw [hX, Int.mul_comm h]
    show _ ≤ sm fW s.ss * h
    rw [← sm_mul]
    exact sm_le fun y hy => Int.mul_le_mul_of_nonneg_left (hh y hy) (fW_in (nb.ok y hy)).1
  constructor
  · refine (Int.le_ediv_iff_mul_le (by omega)).2 ?_
    rw [Int.mul_assoc]
    exact Int.mul_le_mul_of_nonneg_left e1 g.1
  · have : s.good * X ≤ s.good * h * s.W := by rw [Int.mul_assoc]; exact Int.mul_le_mul_of_nonneg_left e2 g.1
    have q := Int.ediv_le_ediv (c := s.W) (by omega) this
    rw [Int.mul_ediv_cancel _ (by omega)] at q
    exact q
theorem Sp.split {s : Sp} (nb : s.Nb) {n : Int} (h0 : 0 ≤ n) (h1 : n ≤ s.net) : (s.g (s.tare + n)).net = n ∧ (s.g (s.tare + s.net - n)).net = s.net - n ∧
    (s.g (s.tare + n)).good + (s.g (s.tare + s.net - n)).good ≤ s.good ∧ s.good ≤ (s.g (s.tare + n)).good + (s.g (s.tare + s.net - n)).good + 1 ∧
    (s.g (s.tare + n)).col + (s.g (s.tare + s.net - n)).col ≤ s.col ∧ (s.g (s.tare + n)).firm + (s.g (s.tare + s.net - n)).firm ≤ s.firm := by
  have w := nb.w
  have n1 : (s.g (s.tare + n)).net = n := by show s.tare + n - s.tare = n; omega
  have n2 : (s.g (s.tare + s.net - n)).net = s.net - n := by show s.tare + s.net - n - s.tare = s.net - n; omega
  have g1 : (s.g (s.tare + n)).good = n * (s.W - s.T - s.R) / s.W := by show (s.g (s.tare + n)).net * (s.W - s.T - s.R) / s.W = _; rw [n1]
  have g2 : (s.g (s.tare + s.net - n)).good = (s.net - n) * (s.W - s.T - s.R) / s.W := by show (s.g (s.tare + s.net - n)).net * (s.W - s.T - s.R) / s.W = _; rw [n2]
  have e : n * (s.W - s.T - s.R) + (s.net - n) * (s.W - s.T - s.R) = s.net * (s.W - s.T - s.R) := by rw [← Int.add_mul]; congr 1; omega
  have a1 := div_add_le (a := n * (s.W - s.T - s.R)) (b := (s.net - n) * (s.W - s.T - s.R)) (c := s.W) (by omega)
  have a2 := div_add_ge (a := n * (s.W - s.T - s.R)) (b := (s.net - n) * (s.W - s.T - s.R)) (c := s.W) (by omega)
  rw [e, ← g1, ← g2] at a1 a2
  have a1 : (s.g (s.tare + n)).good + (s.g (s.tare + s.net - n)).good ≤ s.good := a1
  have a2 : s.good ≤ (s.g (s.tare + n)).good + (s.g (s.tare + s.net - n)).good + 1 := a2
  have key : ∀ X : Int, 0 ≤ X → (s.g (s.tare + n)).good * X / s.W + (s.g (s.tare + s.net - n)).good * X / s.W ≤ s.good * X / s.W := fun X hX => by
    refine Int.le_trans (div_add_le (by omega)) (Int.ediv_le_ediv (by omega) ?_)
    rw [← Int.add_mul]
    exact Int.mul_le_mul_of_nonneg_right a1 hX
  exact ⟨n1, n2, a1, a2, key s.C nb.c.1, key s.F nb.f.1⟩
end Go.Ax

/-
  Station: the law StationSplit, whatever the input (written by program).
-/
namespace Go.Ax
open Go Go.RowKit Go.Proofs

theorem sl_rd {H : Hp} {sa : Option Addr} {n cap sb : Nat} {cs : List Value} (h : Sl H sa n cap cs) (e : sa = some ⟨sb, 0, none⟩) (hn : 0 < n) : Rd H sb cs := by
  rcases h with ⟨_, h0, _⟩ | ⟨sb2, e2, r2, _⟩
  · omega
  · obtain rfl : sb = sb2 := by rw [e] at e2; cases e2; rfl
    exact r2
section
variable {kn : FuncId → Option Bool} {lo : Nat} {H : Hp}
end
end Go.Ax

/-
  Station: samples that are turned, and halved (written by program).
-/
namespace Go.Ax
open Go Go.RowKit

def rotL (l : List Sm) (t : Nat) : List Sm := l.drop (t % l.length) ++ l.take (t % l.length)
theorem rot_len {l : List Sm} {t : Nat} : (rotL l t).length = l.length := by
  unfold rotL; rw [List.length_append, List.length_drop, List.length_take]
  rcases Nat.eq_zero_or_pos l.length with h | h
  · omega
  · have := Nat.mod_lt t h; omega
theorem rot_get {l : List Sm} {t i : Nat} (hi : i < l.length) : (rotL l t)[i]? = l[(i + t) % l.length]? := by
  have h := Nat.mod_lt t (show 0 < l.length by omega)
  have e : (i + t) % l.length = (i + t % l.length) % l.length := by rw [Nat.add_mod_mod]
  unfold rotL
  rw [e]
  generalize t % l.length = q at *
  rw [List.getElem?_append, List.length_drop]
  split
  · rw [List.getElem?_drop, Nat.mod_eq_of_lt (by omega), Nat.add_comm]
  · rw [List.getElem?_take, if_pos (by omega), Nat.mod_eq_sub_mod (by omega), Nat.mod_eq_of_lt (by omega)]
    congr 1; omega
theorem rot_sm {p : Sm → Int} {l : List Sm} {t : Nat} : sm p (rotL l t) = sm p l := by
  unfold rotL
  rw [sm_app]
  have e := congrArg (sm p) (List.take_append_drop (t % l.length) l)
  rw [sm_app] at e
  omega
theorem rot_mem {l : List Sm} {t : Nat} {x : Sm} (h : x ∈ rotL l t) : x ∈ l := by
  unfold rotL at h
  rcases List.mem_append.1 h with h | h
  · exact List.mem_of_mem_drop h
  · exact List.mem_of_mem_take h
def hfS (x : Sm) : Sm := ⟨x.w / 2, x.t / 2, x.r / 2, x.c, x.m⟩
def evS2 (x : Sm) : Prop := x.w % 2 = 0 ∧ x.t % 2 = 0 ∧ x.r % 2 = 0
instance (x : Sm) : Decidable (evS2 x) := by unfold evS2; infer_instance
def tw (x : Sm) : List Sm := if evS2 x then [hfS x, hfS x] else [x]
def oth : List Sm → List Sm
  | [] => []
  | x :: l => tw x ++ l
theorem tw_len {x : Sm} : 1 ≤ (tw x).length ∧ (tw x).length ≤ 2 := by unfold tw; split <;> simp
theorem oth_len {r : List Sm} : (oth r).length ≤ r.length + 1 ∧ r.length ≤ (oth r).length := by
  cases r with
  | nil => simp [oth]
  | cons x l => have := tw_len (x := x); unfold oth; rw [List.length_append, List.length_cons]; omega
theorem oth_zero {r : List Sm} : oth (r.take 0) = [] := by rw [List.take_zero]; rfl
theorem oth_one {r : List Sm} {x : Sm} (h : r[0]? = some x) : oth (r.take 1) = tw x := by
  cases r with
  | nil => cases h
  | cons y l => cases h; show tw x ++ [] = _; rw [List.append_nil]
theorem oth_step {r : List Sm} {i : Nat} {x : Sm} (h : r[i]? = some x) (hi : 0 < i ∨ ¬ evS2 x) : oth (r.take (i + 1)) = oth (r.take i) ++ [x] := by
  rcases Nat.eq_zero_or_pos i with q | q
  · subst q
    rw [oth_one h, oth_zero]; unfold tw
    rw [if_neg (by rcases hi with hi | hi; exact absurd hi (by omega); exact hi)]; rfl
  · rw [List.take_add_one, h]
    cases r with
    | nil => cases h
    | cons y l =>
      obtain ⟨j, rfl⟩ : ∃ j, i = j + 1 := ⟨i - 1, by omega⟩
      rw [List.take_succ_cons]
      show tw y ++ (l.take j ++ [x]) = (tw y ++ l.take j) ++ [x]
      rw [List.append_assoc]
theorem oth_sm {p : Sm → Int} (hp : ∀ x, evS2 x → p (hfS x) + p (hfS x) = p x) {r : List Sm} : sm p (oth r) = sm p r := by
  cases r with
  | nil => rfl
  | cons x l =>
    show sm p (tw x ++ l) = _
    rw [sm_app, sm_cons]
    unfold tw
    split
    · next h => rw [sm_cons, sm_cons, sm_nil]; have := hp x h; omega
    · rw [sm_cons, sm_nil]; omega
theorem hf_ok {x : Sm} (h : x.ok = true) (e : evS2 x) : (hfS x).ok = true := by
  have q := Sm.ok_t h
  obtain ⟨e1, e2, e3⟩ := e
  have b1 : inB (x.w / 2) 1 1048576 = true := by simp [inB]; omega
  have b2 : isw (x.t / 2) (x.w / 2) = true := by simp [isw]; omega
  have b3 : isw (x.r / 2) (x.w / 2 - x.t / 2) = true := by simp [isw]; omega
  have b4 : isw x.c 255 = true := by simp [isw]; omega
  have b5 : isw x.m 1000 = true := by simp [isw]; omega
  unfold Sm.ok hfS
  simp only [b1, b2, b3, b4, b5, Bool.and_self]
theorem oth_ok {r : List Sm} (h : ∀ x ∈ r, x.ok = true) : ∀ x ∈ oth r, x.ok = true := by
  cases r with
  | nil => intro x hx; cases hx
  | cons y l =>
    intro x hx
    rcases List.mem_append.1 hx with hx | hx
    · unfold tw at hx
      split at hx
      · next q => simp at hx; subst hx; exact hf_ok (h y (by simp)) q
      · simp at hx; subst hx; exact h x (by simp)
    · exact h x (by simp [hx])
theorem p_hf {x : Sm} (e : evS2 x) : fW (hfS x) + fW (hfS x) = fW x ∧ fT (hfS x) + fT (hfS x) = fT x ∧ fR (hfS x) + fR (hfS x) = fR x ∧ fC (hfS x) + fC (hfS x) = fC x ∧ fF (hfS x) + fF (hfS x) = fF x := by
  obtain ⟨e1, e2, e3⟩ := e
  have k : x.w / 2 + x.w / 2 = x.w := by omega
  refine ⟨by unfold fW hfS; simp only; omega, by unfold fT hfS; simp only; omega, by unfold fR hfS; simp only; omega, ?_, ?_⟩
  · show x.w / 2 * x.c + x.w / 2 * x.c = x.w * x.c
    rw [← Int.add_mul, k]
  · show x.w / 2 * x.m + x.w / 2 * x.m = x.w * x.m
    rw [← Int.add_mul, k]
abbrev Sp.o (s : Sp) (g b d : Int) (t : Nat) (sa : Option Addr) (sn cap : Nat) : Sp := ⟨g, b, d, s.gross, s.tare, sa, sn, cap, oth (rotL s.ss t)⟩
theorem Sp.o_same {s : Sp} (hok : s.ok = true) (hl : s.ss.length = s.sn) (hn : s.sn ≤ 16) {g b d : Int} (hg : 0 ≤ g ∧ g ≤ 255) (hb : 0 ≤ b ∧ b ≤ 255) (hd : 0 ≤ d ∧ d ≤ 255) {t : Nat} {sa : Option Addr} {sn cap : Nat} (hsn : (oth (rotL s.ss t)).length = sn) :
    (s.o g b d t sa sn cap).load = s.load ∧ (s.o g b d t sa sn cap).we = 0 := by
  have nb := Sp.nb hl hok
  have l1 := rot_len (l := s.ss) (t := t)
  have l2 := oth_len (r := rotL s.ss t)
  have n1 := nb.n
  have ok2 : (s.o g b d t sa sn cap).ok = true := by
    have h := hok
    simp only [Sp.ok, Bool.and_eq_true, List.all_eq_true] at h ⊢
    obtain ⟨⟨⟨⟨⟨⟨q1, q2⟩, q3⟩, q4⟩, q5⟩, q6⟩, q7⟩ := h
    exact ⟨⟨⟨⟨⟨⟨by simp [isw]; omega, by simp [isw]; omega⟩, by simp [isw]; omega⟩, q4⟩, q5⟩, by simp only [inB, Bool.and_eq_true, decide_eq_true_eq]; omega⟩, oth_ok fun x hx => q7 x (rot_mem hx)⟩
  have eW : (s.o g b d t sa sn cap).W = s.W := (oth_sm fun x h => (p_hf h).1).trans rot_sm
  have eT : (s.o g b d t sa sn cap).T = s.T := (oth_sm fun x h => (p_hf h).2.1).trans rot_sm
  have eR : (s.o g b d t sa sn cap).R = s.R := (oth_sm fun x h => (p_hf h).2.2.1).trans rot_sm
  have eC : (s.o g b d t sa sn cap).C = s.C := (oth_sm fun x h => (p_hf h).2.2.2.1).trans rot_sm
  have eF : (s.o g b d t sa sn cap).F = s.F := (oth_sm fun x h => (p_hf h).2.2.2.2).trans rot_sm
  have en : (s.o g b d t sa sn cap).net = s.net := rfl
  have eg : (s.o g b d t sa sn cap).good = s.good := by unfold Sp.good; rw [en, eW, eT, eR]
  have et : (s.o g b d t sa sn cap).trash = s.trash := by unfold Sp.trash; rw [en, eW, eT]
  have er : (s.o g b d t sa sn cap).rot = s.rot := by unfold Sp.rot; rw [en, eg, et]
  have ec : (s.o g b d t sa sn cap).col = s.col := by unfold Sp.col; rw [eg, eC, eW]
  have ef : (s.o g b d t sa sn cap).firm = s.firm := by unfold Sp.firm; rw [eg, eF, eW]
  exact ⟨by rw [Sp.load_ok hok, Sp.load_ok ok2, en, eg, et, er, ec, ef], Sp.we_ok ok2⟩
end Go.Ax

/-
  Station: the law StationSamples, whatever the input (written by program).
-/
namespace Go.Ax
open Go Go.RowKit Go.Proofs

theorem conv_5 (x : Int) (h1 : 0 ≤ x) (h2 : x ≤ 255) {S : Rg} {n : Nat} {o : Operand} {d : Option Nat} (hx : evS S o = some (.int .u8 x)) : pureOp Try.prog (frS n S) ⟨d, .convert 5 3 o, 3, "", #[], none⟩ = some (iv x) := by
  have e : ∀ y : Int, prun Try.prog (Go.convert 5 3 (.int .u8 y)) = some (.int .i64 (IntKind.i64.wrap y)) := fun y => by kernel_rfl
  unfold pureOp
  simp only [ev_frS, hx, flat, flat1, cond_true, e, wrap_i64 (x := x) ⟨(by omega), (by omega)⟩]
theorem se32 : sliceElem Try.prog 32 = some (58, 5) := by kernel_rfl
theorem z58 : zeroOf Try.prog 58 = some (.agg #[iv 0, iv 0, iv 0, iv 0, iv 0]) := by kernel_rfl
theorem u32 : Try.prog.underlying 32 = some (.slice 58) := by kernel_rfl
theorem heap_build2s {lo n : Nat} {S : Rg} {H : Hp} {d : Option Tmp} {ty : TypeId} {p : String} {x y : Operand} {a b : Sm} (hx : evS S x = some (.agg a.f.toArray)) (hy : evS S y = some (.agg b.f.toArray)) :
    heapOp Try.prog lo (frS n S) H ⟨d, .buildSlice 32 2 #[(0, x), (1, y)], ty, p, #[], none⟩ = some (.val (.slice (some ⟨H.next, 0, none⟩) 2 2) (H.new (.cells (a.f ++ b.f) 58 false)), .heavy) := by
  unfold heapOp
  simp only [partsOf, ev_frS, hx, hy, se32, z58]
  rfl
theorem heap_append_nil2 {lo : Nat} {H : Hp} {a : Option Addr} {cap2 f : Nat} {news : List Value} (hs : Sl H a 2 cap2 news) (hl : news.length = 2 * 5) (hlo : lo ≤ H.next) (hf : f ≤ H.next) :
    ∃ H1, (∀ (n : Nat) (S : Rg) (d : Option Tmp) (x y : Operand) (ty : TypeId) (p : String), evS S x = some (.slice none 0 0) → evS S y = some (.slice a 2 cap2) → heapOp Try.prog lo (frS n S) H ⟨d, .call ⟨.builtin .append, #[x, y], #[32, 32]⟩, ty, p, #[], none⟩ = some (.val (.slice (some ⟨H.next, 0, none⟩) 2 2) H1, .heavy)) ∧
      Acc lo f 58 H1 (.slice (some ⟨H.next, 0, none⟩) 2 2) 2 news ∧ KeepB f H H1 := by
  refine ⟨H.new (.cells news 58 true), ?_, ?_, KeepB.of (new_facts rfl).1 hf⟩
  · intro n S d x y ty p hx hy
    unfold heapOp
    simp only [evs, ev_frS, hx, hy, builtinV, List.getElem?_toArray, List.getElem?_cons_zero, List.getElem?_cons_succ, se32, u32, src_of hs hl, appendV]
    rfl
  · refine .inr ⟨H.next, rfl, by omega, hf, hlo, Nat.lt_succ_self _, ?_⟩
    show (H.t.set H.next _).get H.next = _
    rw [Tr.get_set, if_pos rfl]
theorem Acc.zero {lo f : Nat} {e : TypeId} {H : Hp} {v : Value} {n : Nat} {cs : List Value} (h : Acc lo f e H v n cs) (hn : n = 0) : v = .slice none 0 0 := by
  rcases h with ⟨_, _, h⟩ | ⟨_, _, h, _⟩
  · exact h
  · omega
theorem smc_app (l m : List Sm) : smc (l ++ m) = smc l ++ smc m := by unfold smc; rw [List.flatMap_append]
section
variable {kn : FuncId → Option Bool} {lo : Nat} {H : Hp}
set_option maxRecDepth 100000 in
set_option maxHeartbeats 4000000 in
/-- StationSamples -/
theorem law_samples (hkn : kn 10 = some true) {s : Sp} {g b d : Int} {t : Nat} (hs0 : Sl H s.sa s.sn s.scap (smc s.ss)) (hl : s.ss.length = s.sn) (ht0 : t ≤ 255) (hg0 : 0 ≤ g ∧ g ≤ 255) (hb0 : 0 ≤ b ∧ b ≤ 255) (hd0 : 0 ≤ d ∧ d ≤ 255) (hro : RoLow lo H) (hlo : lo ≤ H.next) : ∃ H', FnX Try.prog kn lo 8 [.agg s.v.toArray, .int .u8 (t : Int), .int .u8 g, .int .u8 b, .int .u8 d] H (.bool true) H' := by
  have key := fnX_low (kn := kn) (lo := lo) (H := H) (args := [.agg s.v.toArray, .int .u8 (t : Int), .int .u8 g, .int .u8 b, .int .u8 d]) (Q := fun w H' => w = .bool true) Try.func8 B8 N8 Z8 L8 (by simp) ?_
  · obtain ⟨w, H', h, rfl⟩ := key; exact ⟨H', h⟩
  have hk := Keep.refl H []
  have hs := hs0
  have fs : ∀ b, s.sa = some ⟨b, 0, none⟩ → b < H.next := hs.old
  refine wN_seq ?_
  refine wN_box (v := .agg s.v.toArray) rfl ?_
  intro H1 kH1 nH1 c1
  have c1 : Cl H1 H.next [iv s.gr, iv s.bed, iv s.day, iv s.gross, iv s.tare, .slice s.sa s.sn s.scap] := c1
  have mH1 := kH1.1
  have hk := hk.trans kH1
  have hs := kH1.sl0 hs
  refine wN_mov (v := .bool false) rfl ?_
  refine wN_end ?_
  refine wN_seq ?_
  refine wN_addo (b := H.next) (o := 0) rfl ?_
  refine wN_ld (b := H.next) (o := 5) (v := .slice s.sa s.sn s.scap) rfl c1.rd rfl ?_
  refine wN_len (m := s.sn) rfl ?_
  refine wN_b_eql (a := (s.sn : Int)) (b := 0) rfl rfl ?_
  intro t1 g1; cases t1
  · have g1 : ¬ ((s.sn : Int) = 0) := by simpa using g1
    refine wN_mov (v := .bool false) rfl ?_
    refine wN_g rfl (wN_addo (b := H.next) (o := 0) rfl ?_)
    refine wN_g rfl (wN_ld (b := H.next) (o := 5) (v := .slice s.sa s.sn s.scap) rfl c1.rd rfl ?_)
    refine wN_g rfl (wN_len (m := s.sn) rfl ?_)
    refine wN_g rfl (wN_b_gtr (a := (s.sn : Int)) (b := 16) rfl rfl ?_)
    intro t2 g2; cases t2
    · have g2 : ¬ ((s.sn : Int) > 16) := of_decide_eq_false g2
      refine wN_pur (v := .bool false) rfl rfl ?_
      refine wN_end ?_
      refine condF ?_
      first | refine wN_skip ?_ | skip
      refine wN_seq ?_
      refine wN_lda (b := H.next) (o := 0) rfl c1.rd (show row 6 _ _ = some [iv s.gr, iv s.bed, iv s.day, iv s.gross, iv s.tare, .slice s.sa s.sn s.scap] from rfl) ?_
      obtain ⟨H2, fH2, kH2⟩ := weigh17_ok (kn := kn) (lo := lo) (H := H1) (s := s) hs hl (by omega)
      have mH2 := kH2.1
      have hk := hk.trans kH2
      have hs := kH2.sl0 hs
      have c1 := kH2.cl c1 (by simp)
      cases hok : s.ok
      · rw [Sp.load_no hok, Sp.we_no hok] at fH2
        refine wN_callf (vs := [.agg s.v.toArray]) (v := .tuple #[.agg #[iv 0, iv 0, iv 0, iv 0, iv 0, iv 0], iv 1]) rfl (callX_args fH2) ?_
        refine wN_mov (v := .tuple #[.agg #[iv 0, iv 0, iv 0, iv 0, iv 0, iv 0], iv 1]) rfl ?_
        refine wN_pur (v := .agg #[iv 0, iv 0, iv 0, iv 0, iv 0, iv 0]) rfl (by kernel_rfl) ?_
        refine wN_pur (v := iv 1) rfl (by kernel_rfl) ?_
        refine wN_alc ?_
        intro H3 kH3 nH3 c3
        have c3 : Cl H3 H2.next [iv 0, iv 0, iv 0, iv 0, iv 0, iv 0] := c3
        have mH3 := kH3.1
        have hk := hk.trans kH3
        have hs := kH3.sl0 hs
        have c1 := kH3.cl c1 (by simp)
        refine wN_sta (b := H2.next) (o := 0) rfl rfl c3 (by omega) rfl rfl (by simp) ?_
        intro H4 kH4 nH4 sH4
        have mH4 := kH4.1
        have hk := hk.new kH4 (fun b hb => by simp at hb ⊢; omega)
        have hs := kH4.sl hs (fun b e => by have := fs b e; first | (simp; done) | (simp; omega))
        have c1 := kH4.cl c1 (by first | (simp; done) | (simp; omega))
        have c3 : Cl H4 H2.next [iv 0, iv 0, iv 0, iv 0, iv 0, iv 0] := sH4
        refine wN_mov (v := iv 1) rfl ?_
        refine wN_end ?_
        refine wN_seq ?_
        refine wN_mov (v := iv 1) rfl ?_
        refine wN_c_neq (a := 1) (b := 0) rfl rfl ?_
        refine wN_end ?_
        refine condT ?_
        refine wN_seq ?_
        refine wN_lda (b := H2.next) (o := 0) rfl c3.rd (show row 6 _ _ = some [iv 0, iv 0, iv 0, iv 0, iv 0, iv 0] from rfl) ?_
        refine wN_pur (v := .agg #[iv 0, iv 0, iv 0, iv 0, iv 0, iv 0]) rfl (by kernel_rfl) ?_
        refine wN_pur (v := .bool true) rfl (eql_load rfl rfl) ?_
        refine wN_mov (v := .bool true) rfl ?_
        refine wN_g rfl (wN_callf (vs := []) rfl (callX_known hkn) ?_)
        refine wN_pur (v := .bool true) rfl rfl ?_
        refine wN_mov (v := .bool true) rfl ?_
        refine wN_end ?_
        exact And.intro trivial (Exists.intro _ (And.intro rfl rfl))
      · have eld := Sp.load_ok hok
        rw [eld, Sp.we_ok hok] at fH2
        have nb := Sp.nb hl hok
        obtain ⟨nok, nn, nw, nt, nr, ntr, nc, nf, ngr, nta, nnet, np1, np2, ngood, ntrash, ngt, np3, np4⟩ := id nb
        refine wN_callf (vs := [.agg s.v.toArray]) (v := .tuple #[.agg #[iv s.net, iv s.good, iv s.trash, iv s.rot, iv s.col, iv s.firm], iv 0]) rfl (callX_args fH2) ?_
        refine wN_mov (v := .tuple #[.agg #[iv s.net, iv s.good, iv s.trash, iv s.rot, iv s.col, iv s.firm], iv 0]) rfl ?_
        refine wN_pur (v := .agg #[iv s.net, iv s.good, iv s.trash, iv s.rot, iv s.col, iv s.firm]) rfl (by kernel_rfl) ?_
        refine wN_pur (v := iv 0) rfl (by kernel_rfl) ?_
        refine wN_alc ?_
        intro H5 kH5 nH5 c5
        have c5 : Cl H5 H2.next [iv 0, iv 0, iv 0, iv 0, iv 0, iv 0] := c5
        have mH5 := kH5.1
        have hk := hk.trans kH5
        have hs := kH5.sl0 hs
        have c1 := kH5.cl c1 (by simp)
        refine wN_sta (b := H2.next) (o := 0) rfl rfl c5 (by omega) rfl rfl (by simp) ?_
        intro H6 kH6 nH6 sH6
        have mH6 := kH6.1
        have hk := hk.new kH6 (fun b hb => by simp at hb ⊢; omega)
        have hs := kH6.sl hs (fun b e => by have := fs b e; first | (simp; done) | (simp; omega))
        have c1 := kH6.cl c1 (by first | (simp; done) | (simp; omega))
        have c5 : Cl H6 H2.next [iv s.net, iv s.good, iv s.trash, iv s.rot, iv s.col, iv s.firm] := sH6
        refine wN_mov (v := iv 0) rfl ?_
        refine wN_end ?_
        refine wN_seq ?_
        refine wN_mov (v := iv 0) rfl ?_
        refine wN_c_neq (a := 0) (b := 0) rfl rfl ?_
        refine wN_end ?_
        refine condF ?_
        first | refine wN_skip ?_ | skip
        refine wN_seq ?_
        refine wN_mov (v := .int .u8 g) rfl ?_
        refine wN_pur (v := iv g) rfl (conv_5 g hg0.1 hg0.2 rfl) ?_
        refine wN_mov (v := .int .u8 b) rfl ?_
        refine wN_pur (v := iv b) rfl (conv_5 b hb0.1 hb0.2 rfl) ?_
        refine wN_mov (v := .int .u8 d) rfl ?_
        refine wN_pur (v := iv d) rfl (conv_5 d hd0.1 hd0.2 rfl) ?_
        refine wN_addo (b := H.next) (o := 0) rfl ?_
        refine wN_ld (b := H.next) (o := 3) (v := iv s.gross) rfl c1.rd rfl ?_
        refine wN_addo (b := H.next) (o := 0) rfl ?_
        refine wN_ld (b := H.next) (o := 4) (v := iv s.tare) rfl c1.rd rfl ?_
        refine wN_pur (v := .agg #[iv g, iv b, iv d, iv s.gross, iv s.tare, .slice none 0 0]) rfl (by kernel_rfl) ?_
        refine wN_alc ?_
        intro H7 kH7 nH7 c7
        have c7 : Cl H7 H6.next [iv 0, iv 0, iv 0, iv 0, iv 0, .slice none 0 0] := c7
        have mH7 := kH7.1
        have hk := hk.trans kH7
        have hs := kH7.sl0 hs
        have c1 := kH7.cl c1 (by simp)
        have c5 := kH7.cl c5 (by simp)
        refine wN_sta (b := H6.next) (o := 0) rfl rfl c7 (by omega) rfl rfl (by simp) ?_
        intro H8 kH8 nH8 sH8
        have mH8 := kH8.1
        have hk := hk.new kH8 (fun b hb => by simp at hb ⊢; omega)
        have hs := kH8.sl hs (fun b e => by have := fs b e; first | (simp; done) | (simp; omega))
        have c1 := kH8.cl c1 (by first | (simp; done) | (simp; omega))
        have c5 := kH8.cl c5 (by first | (simp; done) | (simp; omega))
        have c7 : Cl H8 H6.next [iv g, iv b, iv d, iv s.gross, iv s.tare, .slice none 0 0] := sH8
        refine wN_end ?_
        refine wN_seq ?_
        refine wN_mov (v := iv 0) rfl ?_
        refine wN_end ?_
        obtain ⟨sb, esb⟩ : ∃ sb, s.sa = some ⟨sb, 0, none⟩ := by
          rcases hs0 with ⟨_, h0, _⟩ | ⟨sb, e2, _, _⟩
          · omega
          · exact ⟨sb, e2⟩
        have rsb0 : Rd H sb (smc s.ss) := sl_rd hs0 esb (by omega)
        have fsb : sb < H.next := fs sb esb
        obtain ⟨ff, hff⟩ : ∃ ff, ff = H8.next := ⟨_, rfl⟩
        have l13 := c7.rd.lt
        have l11 := c5.rd.lt
        have l5 := c1.rd.lt
        refine loop_low (fn := Try.f8) E8_1 N8 L8x1 (fun i : Nat => [(1, .int .u8 (t : Int)), (5, pt H.next), (11, pt H2.next), (13, pt H6.next), (14, iv (i : Int))])
          (fun k i H' => i + k = s.sn ∧ Keep H H' [] ∧ Cl H' H.next [iv s.gr, iv s.bed, iv s.day, iv s.gross, iv s.tare, .slice s.sa s.sn s.scap] ∧ Cl H' H2.next [iv s.net, iv s.good, iv s.trash, iv s.rot, iv s.col, iv s.firm] ∧ ff ≤ H'.next ∧ ∃ wv, Cl H' H6.next [iv g, iv b, iv d, iv s.gross, iv s.tare, wv] ∧ Acc lo ff 58 H' wv (oth ((rotL s.ss t).take i)).length (smc (oth ((rotL s.ss t).take i)))) s.sn 0 ⟨by omega, hk, c1, c5, by omega, _, c7, by rw [oth_zero]; exact .inl ⟨rfl, rfl, rfl⟩⟩ ⟨rfl, rfl, rfl, rfl, rfl, trivial⟩ ?_
        rintro k i L1 ⟨hik, hk, c5, cL, hfl, wv, c13, hacc⟩
        have mk0 := hk.1
        have kacc := Keep.refl L1 []
        have rsb : Rd L1 sb (smc s.ss) := hk.rd rsb0 (by simp)
        refine wN_seq ?_
        refine wN_mov (v := iv (i : Int)) rfl ?_
        refine wN_addo (b := H.next) (o := 0) rfl ?_
        refine wN_ld (b := H.next) (o := 5) (v := .slice (some ⟨sb, 0, none⟩) s.sn s.scap) rfl c5.rd (show _ = some (Value.slice (some ⟨sb, 0, none⟩) s.sn s.scap) from by rw [← esb]; rfl) ?_
        refine wN_len (m := s.sn) rfl ?_
        refine wN_c_lss (a := (i : Int)) (b := (s.sn : Int)) rfl rfl ?_
        refine wN_end ?_
        refine And.intro (fun q3 => ?_) (fun q3 => ?_)
        · have q3 : (i : Int) < (s.sn : Int) := of_decide_eq_true q3
          have hi : i < s.sn := by omega
          have hri := rot_get (l := s.ss) (t := t) (i := i) (by omega)
          obtain ⟨x, hx⟩ := get_some (l := s.ss) (i := (i + t) % s.ss.length) (Nat.mod_lt _ (by omega))
          rw [hx] at hri
          rw [hl] at hx
          have hj : (i + t) % s.sn < s.sn := Nat.mod_lt _ (by omega)
          have xo := Sm.ok_t (nok x (List.mem_of_getElem? hx))
          have hol := oth_len (r := (rotL s.ss t).take i)
          have hrl := rot_len (l := s.ss) (t := t)
          rw [List.length_take] at hol
          first | refine wN_skip ?_ | skip
          refine wD_seq ?_
          refine wD_addo (b := H.next) (o := 0) rfl ?_
          refine wD_ld (b := H.next) (o := 5) (v := .slice (some ⟨sb, 0, none⟩) s.sn s.scap) rfl c5.rd (show _ = some (Value.slice (some ⟨sb, 0, none⟩) s.sn s.scap) from by rw [← esb]; rfl) ?_
          refine wD_mov (v := iv (i : Int)) rfl ?_
          refine wD_mov (v := .int .u8 (t : Int)) rfl ?_
          refine wD_pur (v := iv (t : Int)) rfl (conv_5 (t : Int) (by omega) (by omega) rfl) ?_
          refine wD_add (a := (i : Int)) (b := (t : Int)) rfl rfl ⟨by omega, by omega⟩ ?_
          refine wD_addo (b := H.next) (o := 0) rfl ?_
          refine wD_ld (b := H.next) (o := 5) (v := .slice (some ⟨sb, 0, none⟩) s.sn s.scap) rfl c5.rd (show _ = some (Value.slice (some ⟨sb, 0, none⟩) s.sn s.scap) from by rw [← esb]; rfl) ?_
          refine wD_len (m := s.sn) rfl ?_
          refine wD_rem (a := (i : Int) + (t : Int)) (b := (s.sn : Int)) rfl rfl (by omega) (by omega) ⟨by omega, by omega⟩ ⟨by omega, by omega⟩ ?_
          refine wD_idx (b := sb) (o := 0) (k := (i + t) % s.sn) (j := ((i : Int) + (t : Int)) % (s.sn : Int)) rfl rfl rfl hj ?_
          refine wD_lda (b := sb) (o := 0 + ((i + t) % s.sn) * 5) rfl rsb (smc_row hx) ?_
          refine wD_alc ?_
          intro H9 kH9 nH9 c9
          have c9 : Cl H9 L1.next [iv 0, iv 0, iv 0, iv 0, iv 0] := c9
          have mH9 := kH9.1
          have hk := hk.trans kH9
          have kacc := kacc.trans kH9
          have rsb := kH9.rd rsb (by simp)
          have c5 := kH9.cl c5 (by simp)
          have cL := kH9.cl cL (by simp)
          have c13 := kH9.cl c13 (by simp)
          refine wD_sta (b := L1.next) (o := 0) rfl rfl c9 (by omega) rfl rfl (by simp) ?_
          intro H10 kH10 nH10 sH10
          have mH10 := kH10.1
          have hk := hk.new kH10 (fun b hb => by simp at hb ⊢; omega)
          have kacc := kacc.new kH10 (fun b hb => by simp at hb ⊢; omega)
          have rsb := kH10.rd rsb (by first | (simp; done) | (simp; omega))
          have c5 := kH10.cl c5 (by first | (simp; done) | (simp; omega))
          have cL := kH10.cl cL (by first | (simp; done) | (simp; omega))
          have c13 := kH10.cl c13 (by first | (simp; done) | (simp; omega))
          have c9 : Cl H10 L1.next [iv x.w, iv x.t, iv x.r, iv x.c, iv x.m] := sH10
          refine wD_end (by repeat' first | exact True.intro | exact (fun h => h) | refine And.intro ?_ ?_ | (intro h; have h : (_ : Nat) = _ := h; omega)) ?_
          refine wN_seq ?_
          refine wN_mov (v := iv (i : Int)) rfl ?_
          refine wN_b_eql (a := (i : Int)) (b := 0) rfl rfl ?_
          intro t4 g4; cases t4
          · have g4 : ¬ ((i : Int) = 0) := by simpa using g4
            refine wN_mov (v := .bool false) rfl ?_
            refine wN_gs rfl ?_
            refine wN_gs rfl ?_
            refine wN_gs rfl ?_
            refine wN_gs rfl ?_
            refine wN_pur (v := .bool false) rfl rfl ?_
            refine wN_mov (v := .bool false) rfl ?_
            refine wN_gs rfl ?_
            refine wN_gs rfl ?_
            refine wN_gs rfl ?_
            refine wN_gs rfl ?_
            refine wN_pur (v := .bool false) rfl rfl ?_
            refine wN_mov (v := .bool false) rfl ?_
            refine wN_gs rfl ?_
            refine wN_gs rfl ?_
            refine wN_gs rfl ?_
            refine wN_gs rfl ?_
            refine wN_pur (v := .bool false) rfl rfl ?_
            refine wN_end ?_
            refine condF ?_
            have hdi : 0 < i ∨ ¬ evS2 x := by
              by_cases q : 0 < i
              · exact .inl q
              · exact .inr fun z => by obtain ⟨z1, z2, z3⟩ := z; omega
            have hstep : oth ((rotL s.ss t).take (i + 1)) = (oth ((rotL s.ss t).take i)) ++ [x] := oth_step hri hdi
            first | refine wN_skip ?_ | skip
            first | refine wN_reg ?_ | refine wN_blk ?_ | refine wN_bseq ?_ | (refine wOps_nil ?_; refine wN_reg ?_)
            refine wN_addo (b := H6.next) (o := 0) rfl ?_
            refine wN_ld (b := H6.next) (o := 5) (v := wv) rfl c13.rd rfl ?_
            refine wN_lda (b := L1.next) (o := 0) rfl c9.rd (show row 5 _ _ = some [iv x.w, iv x.t, iv x.r, iv x.c, iv x.m] from rfl) ?_
            obtain ⟨H11, hH11⟩ : ∃ H11, H10.new (.cells [iv x.w, iv x.t, iv x.r, iv x.c, iv x.m] 58 false) = H11 := ⟨_, rfl⟩
            refine wN_memh (H' := H11) (k := .heavy) rfl (by kernel_rfl) ((heap_build1 (v := .agg #[iv x.w, iv x.t, iv x.r, iv x.c, iv x.m]) se32 z58 rfl rfl rfl (by decide)).trans (by rw [← hH11]; rfl)) (fun b e => by cases e) ?_
            obtain ⟨kH11, nH11, c11⟩ := new_facts hH11; clear hH11
            have c11 : Cl H11 H10.next [iv x.w, iv x.t, iv x.r, iv x.c, iv x.m] := c11
            have mH11 := kH11.1
            have hk := hk.trans kH11
            have kacc := kacc.trans kH11
            have rsb := kH11.rd rsb (by simp)
            have c5 := kH11.cl c5 (by simp)
            have cL := kH11.cl cL (by simp)
            have c13 := kH11.cl c13 (by simp)
            have c9 := kH11.cl c9 (by simp)
            obtain ⟨H12, kdH12, eH12, dH12, hacc2, kbH12⟩ := heap_append_below (P := Try.prog) (lo := lo) (k := (oth ((rotL s.ss t).take i)).length) (t1 := 32) se32 u32 (c11.sl (Nat.le_refl 1)) rfl (by decide) rfl (smc_len _) (by omega) (hacc.keep kacc) (by omega) (by omega)
            refine wN_memh (k := kdH12) rfl (by cases wv <;> kernel_rfl) (eH12 _ _ _ _ _ _ _ rfl rfl) (reg_ok dH12 _) ?_
            have hk := kbH12.keep hk (by omega)
            have c5 := kbH12.cl c5 (by omega)
            have cL := kbH12.cl cL (by omega)
            have c13 := kbH12.cl c13 (by omega)
            have mH12 := kbH12.1
            refine wN_addo (b := H6.next) (o := 0) rfl ?_
            refine wN_st (b := H6.next) (o := 5) rfl rfl c13 (by omega) rfl rfl (by simp) ?_
            intro H13 kH13 nH13 sH13
            have mH13 := kH13.1
            have hk := hk.new kH13 (fun b hb => by simp at hb ⊢; omega)
            have c5 := kH13.cl c5 (by first | (simp; done) | (simp; omega))
            have cL := kH13.cl cL (by first | (simp; done) | (simp; omega))
            have hacc2 := hacc2.keepW kH13 (by omega)
            have c13 : Cl H13 H6.next [iv g, iv b, iv d, iv s.gross, iv s.tare, .slice (some ⟨H11.next, 0, none⟩) ((oth ((rotL s.ss t).take i)).length + 1) ((oth ((rotL s.ss t).take i)).length + 1)] := sH13
            refine wN_end ?_
            first | refine wN_reg ?_ | refine wN_blk ?_ | refine wN_bseq ?_ | (refine wOps_nil ?_; refine wN_reg ?_)
            refine wN_mov (v := iv (i : Int)) rfl ?_
            refine wN_add (a := (i : Int)) (b := 1) rfl rfl ⟨by omega, by omega⟩ ?_
            refine wN_mov (v := iv ((i : Int) + 1)) rfl ?_
            refine wN_end ?_
            exact ⟨k - 1, i + 1, by omega, ⟨by omega, hk, c5, cL, by omega, _, c13, by rw [hstep, List.length_append, smc_app]; exact hacc2⟩, rfl, rfl, rfl, rfl, rfl, trivial⟩
          · have g4 : (i : Int) = 0 := by simpa using g4
            refine wN_mov (v := .bool true) rfl ?_
            refine wN_g rfl (wN_addo (b := L1.next) (o := 0) rfl ?_)
            refine wN_g rfl (wN_ld (b := L1.next) (o := 0) (v := iv x.w) rfl c9.rd rfl ?_)
            refine wN_g rfl (wN_rem (a := x.w) (b := 2) rfl rfl (by omega) (by omega) ⟨by omega, by omega⟩ ⟨by omega, by omega⟩ ?_)
            refine wN_g rfl (wN_b_eql (a := x.w % 2) (b := 0) rfl rfl ?_)
            intro t5 g5; cases t5
            · have g5 : ¬ ((x.w % 2) = 0) := by simpa using g5
              refine wN_pur (v := .bool false) rfl rfl ?_
              refine wN_mov (v := .bool false) rfl ?_
              refine wN_gs rfl ?_
              refine wN_gs rfl ?_
              refine wN_gs rfl ?_
              refine wN_gs rfl ?_
              refine wN_pur (v := .bool false) rfl rfl ?_
              refine wN_mov (v := .bool false) rfl ?_
              refine wN_gs rfl ?_
              refine wN_gs rfl ?_
              refine wN_gs rfl ?_
              refine wN_gs rfl ?_
              refine wN_pur (v := .bool false) rfl rfl ?_
              refine wN_end ?_
              refine condF ?_
              have hdi : 0 < i ∨ ¬ evS2 x := by
                by_cases q : 0 < i
                · exact .inl q
                · exact .inr fun z => by obtain ⟨z1, z2, z3⟩ := z; omega
              have hstep : oth ((rotL s.ss t).take (i + 1)) = (oth ((rotL s.ss t).take i)) ++ [x] := oth_step hri hdi
              first | refine wN_skip ?_ | skip
              first | refine wN_reg ?_ | refine wN_blk ?_ | refine wN_bseq ?_ | (refine wOps_nil ?_; refine wN_reg ?_)
              refine wN_addo (b := H6.next) (o := 0) rfl ?_
              refine wN_ld (b := H6.next) (o := 5) (v := wv) rfl c13.rd rfl ?_
              refine wN_lda (b := L1.next) (o := 0) rfl c9.rd (show row 5 _ _ = some [iv x.w, iv x.t, iv x.r, iv x.c, iv x.m] from rfl) ?_
              obtain ⟨H14, hH14⟩ : ∃ H14, H10.new (.cells [iv x.w, iv x.t, iv x.r, iv x.c, iv x.m] 58 false) = H14 := ⟨_, rfl⟩
              refine wN_memh (H' := H14) (k := .heavy) rfl (by kernel_rfl) ((heap_build1 (v := .agg #[iv x.w, iv x.t, iv x.r, iv x.c, iv x.m]) se32 z58 rfl rfl rfl (by decide)).trans (by rw [← hH14]; rfl)) (fun b e => by cases e) ?_
              obtain ⟨kH14, nH14, c14⟩ := new_facts hH14; clear hH14
              have c14 : Cl H14 H10.next [iv x.w, iv x.t, iv x.r, iv x.c, iv x.m] := c14
              have mH14 := kH14.1
              have hk := hk.trans kH14
              have kacc := kacc.trans kH14
              have rsb := kH14.rd rsb (by simp)
              have c5 := kH14.cl c5 (by simp)
              have cL := kH14.cl cL (by simp)
              have c13 := kH14.cl c13 (by simp)
              have c9 := kH14.cl c9 (by simp)
              obtain ⟨H15, kdH15, eH15, dH15, hacc2, kbH15⟩ := heap_append_below (P := Try.prog) (lo := lo) (k := (oth ((rotL s.ss t).take i)).length) (t1 := 32) se32 u32 (c14.sl (Nat.le_refl 1)) rfl (by decide) rfl (smc_len _) (by omega) (hacc.keep kacc) (by omega) (by omega)
              refine wN_memh (k := kdH15) rfl (by cases wv <;> kernel_rfl) (eH15 _ _ _ _ _ _ _ rfl rfl) (reg_ok dH15 _) ?_
              have hk := kbH15.keep hk (by omega)
              have c5 := kbH15.cl c5 (by omega)
              have cL := kbH15.cl cL (by omega)
              have c13 := kbH15.cl c13 (by omega)
              have mH15 := kbH15.1
              refine wN_addo (b := H6.next) (o := 0) rfl ?_
              refine wN_st (b := H6.next) (o := 5) rfl rfl c13 (by omega) rfl rfl (by simp) ?_
              intro H16 kH16 nH16 sH16
              have mH16 := kH16.1
              have hk := hk.new kH16 (fun b hb => by simp at hb ⊢; omega)
              have c5 := kH16.cl c5 (by first | (simp; done) | (simp; omega))
              have cL := kH16.cl cL (by first | (simp; done) | (simp; omega))
              have hacc2 := hacc2.keepW kH16 (by omega)
              have c13 : Cl H16 H6.next [iv g, iv b, iv d, iv s.gross, iv s.tare, .slice (some ⟨H14.next, 0, none⟩) ((oth ((rotL s.ss t).take i)).length + 1) ((oth ((rotL s.ss t).take i)).length + 1)] := sH16
              refine wN_end ?_
              first | refine wN_reg ?_ | refine wN_blk ?_ | refine wN_bseq ?_ | (refine wOps_nil ?_; refine wN_reg ?_)
              refine wN_mov (v := iv (i : Int)) rfl ?_
              refine wN_add (a := (i : Int)) (b := 1) rfl rfl ⟨by omega, by omega⟩ ?_
              refine wN_mov (v := iv ((i : Int) + 1)) rfl ?_
              refine wN_end ?_
              exact ⟨k - 1, i + 1, by omega, ⟨by omega, hk, c5, cL, by omega, _, c13, by rw [hstep, List.length_append, smc_app]; exact hacc2⟩, rfl, rfl, rfl, rfl, rfl, trivial⟩
            · have g5 : (x.w % 2) = 0 := by simpa using g5
              refine wN_pur (v := .bool true) rfl rfl ?_
              refine wN_mov (v := .bool true) rfl ?_
              refine wN_g rfl (wN_addo (b := L1.next) (o := 0) rfl ?_)
              refine wN_g rfl (wN_ld (b := L1.next) (o := 1) (v := iv x.t) rfl c9.rd rfl ?_)
              refine wN_g rfl (wN_rem (a := x.t) (b := 2) rfl rfl (by omega) (by omega) ⟨by omega, by omega⟩ ⟨by omega, by omega⟩ ?_)
              refine wN_g rfl (wN_b_eql (a := x.t % 2) (b := 0) rfl rfl ?_)
              intro t6 g6; cases t6
              · have g6 : ¬ ((x.t % 2) = 0) := by simpa using g6
                refine wN_pur (v := .bool false) rfl rfl ?_
                refine wN_mov (v := .bool false) rfl ?_
                refine wN_gs rfl ?_
                refine wN_gs rfl ?_
                refine wN_gs rfl ?_
                refine wN_gs rfl ?_
                refine wN_pur (v := .bool false) rfl rfl ?_
                refine wN_end ?_
                refine condF ?_
                have hdi : 0 < i ∨ ¬ evS2 x := by
                  by_cases q : 0 < i
                  · exact .inl q
                  · exact .inr fun z => by obtain ⟨z1, z2, z3⟩ := z; omega
                have hstep : oth ((rotL s.ss t).take (i + 1)) = (oth ((rotL s.ss t).take i)) ++ [x] := oth_step hri hdi
                first | refine wN_skip ?_ | skip
                first | refine wN_reg ?_ | refine wN_blk ?_ | refine wN_bseq ?_ | (refine wOps_nil ?_; refine wN_reg ?_)
                refine wN_addo (b := H6.next) (o := 0) rfl ?_
                refine wN_ld (b := H6.next) (o := 5) (v := wv) rfl c13.rd rfl ?_
                refine wN_lda (b := L1.next) (o := 0) rfl c9.rd (show row 5 _ _ = some [iv x.w, iv x.t, iv x.r, iv x.c, iv x.m] from rfl) ?_
                obtain ⟨H17, hH17⟩ : ∃ H17, H10.new (.cells [iv x.w, iv x.t, iv x.r, iv x.c, iv x.m] 58 false) = H17 := ⟨_, rfl⟩
                refine wN_memh (H' := H17) (k := .heavy) rfl (by kernel_rfl) ((heap_build1 (v := .agg #[iv x.w, iv x.t, iv x.r, iv x.c, iv x.m]) se32 z58 rfl rfl rfl (by decide)).trans (by rw [← hH17]; rfl)) (fun b e => by cases e) ?_
                obtain ⟨kH17, nH17, c17⟩ := new_facts hH17; clear hH17
                have c17 : Cl H17 H10.next [iv x.w, iv x.t, iv x.r, iv x.c, iv x.m] := c17
                have mH17 := kH17.1
                have hk := hk.trans kH17
                have kacc := kacc.trans kH17
                have rsb := kH17.rd rsb (by simp)
                have c5 := kH17.cl c5 (by simp)
                have cL := kH17.cl cL (by simp)
                have c13 := kH17.cl c13 (by simp)
                have c9 := kH17.cl c9 (by simp)
                obtain ⟨H18, kdH18, eH18, dH18, hacc2, kbH18⟩ := heap_append_below (P := Try.prog) (lo := lo) (k := (oth ((rotL s.ss t).take i)).length) (t1 := 32) se32 u32 (c17.sl (Nat.le_refl 1)) rfl (by decide) rfl (smc_len _) (by omega) (hacc.keep kacc) (by omega) (by omega)
                refine wN_memh (k := kdH18) rfl (by cases wv <;> kernel_rfl) (eH18 _ _ _ _ _ _ _ rfl rfl) (reg_ok dH18 _) ?_
                have hk := kbH18.keep hk (by omega)
                have c5 := kbH18.cl c5 (by omega)
                have cL := kbH18.cl cL (by omega)
                have c13 := kbH18.cl c13 (by omega)
                have mH18 := kbH18.1
                refine wN_addo (b := H6.next) (o := 0) rfl ?_
                refine wN_st (b := H6.next) (o := 5) rfl rfl c13 (by omega) rfl rfl (by simp) ?_
                intro H19 kH19 nH19 sH19
                have mH19 := kH19.1
                have hk := hk.new kH19 (fun b hb => by simp at hb ⊢; omega)
                have c5 := kH19.cl c5 (by first | (simp; done) | (simp; omega))
                have cL := kH19.cl cL (by first | (simp; done) | (simp; omega))
                have hacc2 := hacc2.keepW kH19 (by omega)
                have c13 : Cl H19 H6.next [iv g, iv b, iv d, iv s.gross, iv s.tare, .slice (some ⟨H17.next, 0, none⟩) ((oth ((rotL s.ss t).take i)).length + 1) ((oth ((rotL s.ss t).take i)).length + 1)] := sH19
                refine wN_end ?_
                first | refine wN_reg ?_ | refine wN_blk ?_ | refine wN_bseq ?_ | (refine wOps_nil ?_; refine wN_reg ?_)
                refine wN_mov (v := iv (i : Int)) rfl ?_
                refine wN_add (a := (i : Int)) (b := 1) rfl rfl ⟨by omega, by omega⟩ ?_
                refine wN_mov (v := iv ((i : Int) + 1)) rfl ?_
                refine wN_end ?_
                exact ⟨k - 1, i + 1, by omega, ⟨by omega, hk, c5, cL, by omega, _, c13, by rw [hstep, List.length_append, smc_app]; exact hacc2⟩, rfl, rfl, rfl, rfl, rfl, trivial⟩
              · have g6 : (x.t % 2) = 0 := by simpa using g6
                refine wN_pur (v := .bool true) rfl rfl ?_
                refine wN_mov (v := .bool true) rfl ?_
                refine wN_g rfl (wN_addo (b := L1.next) (o := 0) rfl ?_)
                refine wN_g rfl (wN_ld (b := L1.next) (o := 2) (v := iv x.r) rfl c9.rd rfl ?_)
                refine wN_g rfl (wN_rem (a := x.r) (b := 2) rfl rfl (by omega) (by omega) ⟨by omega, by omega⟩ ⟨by omega, by omega⟩ ?_)
                refine wN_g rfl (wN_b_eql (a := x.r % 2) (b := 0) rfl rfl ?_)
                intro t7 g7; cases t7
                · have g7 : ¬ ((x.r % 2) = 0) := by simpa using g7
                  refine wN_pur (v := .bool false) rfl rfl ?_
                  refine wN_end ?_
                  refine condF ?_
                  have hdi : 0 < i ∨ ¬ evS2 x := by
                    by_cases q : 0 < i
                    · exact .inl q
                    · exact .inr fun z => by obtain ⟨z1, z2, z3⟩ := z; omega
                  have hstep : oth ((rotL s.ss t).take (i + 1)) = (oth ((rotL s.ss t).take i)) ++ [x] := oth_step hri hdi
                  first | refine wN_skip ?_ | skip
                  first | refine wN_reg ?_ | refine wN_blk ?_ | refine wN_bseq ?_ | (refine wOps_nil ?_; refine wN_reg ?_)
                  refine wN_addo (b := H6.next) (o := 0) rfl ?_
                  refine wN_ld (b := H6.next) (o := 5) (v := wv) rfl c13.rd rfl ?_
                  refine wN_lda (b := L1.next) (o := 0) rfl c9.rd (show row 5 _ _ = some [iv x.w, iv x.t, iv x.r, iv x.c, iv x.m] from rfl) ?_
                  obtain ⟨H20, hH20⟩ : ∃ H20, H10.new (.cells [iv x.w, iv x.t, iv x.r, iv x.c, iv x.m] 58 false) = H20 := ⟨_, rfl⟩
                  refine wN_memh (H' := H20) (k := .heavy) rfl (by kernel_rfl) ((heap_build1 (v := .agg #[iv x.w, iv x.t, iv x.r, iv x.c, iv x.m]) se32 z58 rfl rfl rfl (by decide)).trans (by rw [← hH20]; rfl)) (fun b e => by cases e) ?_
                  obtain ⟨kH20, nH20, c20⟩ := new_facts hH20; clear hH20
                  have c20 : Cl H20 H10.next [iv x.w, iv x.t, iv x.r, iv x.c, iv x.m] := c20
                  have mH20 := kH20.1
                  have hk := hk.trans kH20
                  have kacc := kacc.trans kH20
                  have rsb := kH20.rd rsb (by simp)
                  have c5 := kH20.cl c5 (by simp)
                  have cL := kH20.cl cL (by simp)
                  have c13 := kH20.cl c13 (by simp)
                  have c9 := kH20.cl c9 (by simp)
                  obtain ⟨H21, kdH21, eH21, dH21, hacc2, kbH21⟩ := heap_append_below (P := Try.prog) (lo := lo) (k := (oth ((rotL s.ss t).take i)).length) (t1 := 32) se32 u32 (c20.sl (Nat.le_refl 1)) rfl (by decide) rfl (smc_len _) (by omega) (hacc.keep kacc) (by omega) (by omega)
                  refine wN_memh (k := kdH21) rfl (by cases wv <;> kernel_rfl) (eH21 _ _ _ _ _ _ _ rfl rfl) (reg_ok dH21 _) ?_
                  have hk := kbH21.keep hk (by omega)
                  have c5 := kbH21.cl c5 (by omega)
                  have cL := kbH21.cl cL (by omega)
                  have c13 := kbH21.cl c13 (by omega)
                  have mH21 := kbH21.1
                  refine wN_addo (b := H6.next) (o := 0) rfl ?_
                  refine wN_st (b := H6.next) (o := 5) rfl rfl c13 (by omega) rfl rfl (by simp) ?_
                  intro H22 kH22 nH22 sH22
                  have mH22 := kH22.1
                  have hk := hk.new kH22 (fun b hb => by simp at hb ⊢; omega)
                  have c5 := kH22.cl c5 (by first | (simp; done) | (simp; omega))
                  have cL := kH22.cl cL (by first | (simp; done) | (simp; omega))
                  have hacc2 := hacc2.keepW kH22 (by omega)
                  have c13 : Cl H22 H6.next [iv g, iv b, iv d, iv s.gross, iv s.tare, .slice (some ⟨H20.next, 0, none⟩) ((oth ((rotL s.ss t).take i)).length + 1) ((oth ((rotL s.ss t).take i)).length + 1)] := sH22
                  refine wN_end ?_
                  first | refine wN_reg ?_ | refine wN_blk ?_ | refine wN_bseq ?_ | (refine wOps_nil ?_; refine wN_reg ?_)
                  refine wN_mov (v := iv (i : Int)) rfl ?_
                  refine wN_add (a := (i : Int)) (b := 1) rfl rfl ⟨by omega, by omega⟩ ?_
                  refine wN_mov (v := iv ((i : Int) + 1)) rfl ?_
                  refine wN_end ?_
                  exact ⟨k - 1, i + 1, by omega, ⟨by omega, hk, c5, cL, by omega, _, c13, by rw [hstep, List.length_append, smc_app]; exact hacc2⟩, rfl, rfl, rfl, rfl, rfl, trivial⟩
                · have g7 : (x.r % 2) = 0 := by simpa using g7
                  refine wN_pur (v := .bool true) rfl rfl ?_
                  refine wN_end ?_
                  refine condT ?_
                  have ei : i = 0 := by omega
                  have hev : evS2 x := ⟨by omega, by omega, by omega⟩
                  have hstep : oth ((rotL s.ss t).take (i + 1)) = [hfS x, hfS x] := by rw [ei, oth_one (by rw [← ei]; exact hri)]; unfold tw; rw [if_pos hev]
                  obtain rfl := hacc.zero (by rw [ei, oth_zero]; rfl)
                  refine wN_seq ?_
                  refine wN_addo (b := L1.next) (o := 0) rfl ?_
                  refine wN_ld (b := L1.next) (o := 0) (v := iv x.w) rfl c9.rd rfl ?_
                  refine wN_quo (a := x.w) (b := 2) rfl rfl (by omega) (by omega) ⟨by omega, by omega⟩ ?_
                  refine wN_addo (b := L1.next) (o := 0) rfl ?_
                  refine wN_ld (b := L1.next) (o := 1) (v := iv x.t) rfl c9.rd rfl ?_
                  refine wN_quo (a := x.t) (b := 2) rfl rfl (by omega) (by omega) ⟨by omega, by omega⟩ ?_
                  refine wN_addo (b := L1.next) (o := 0) rfl ?_
                  refine wN_ld (b := L1.next) (o := 2) (v := iv x.r) rfl c9.rd rfl ?_
                  refine wN_quo (a := x.r) (b := 2) rfl rfl (by omega) (by omega) ⟨by omega, by omega⟩ ?_
                  refine wN_addo (b := L1.next) (o := 0) rfl ?_
                  refine wN_ld (b := L1.next) (o := 3) (v := iv x.c) rfl c9.rd rfl ?_
                  refine wN_addo (b := L1.next) (o := 0) rfl ?_
                  refine wN_ld (b := L1.next) (o := 4) (v := iv x.m) rfl c9.rd rfl ?_
                  refine wN_pur (v := .agg #[iv (x.w / 2), iv (x.t / 2), iv (x.r / 2), iv x.c, iv x.m]) rfl (by kernel_rfl) ?_
                  refine wN_alc ?_
                  intro H23 kH23 nH23 c23
                  have c23 : Cl H23 H10.next [iv 0, iv 0, iv 0, iv 0, iv 0] := c23
                  have mH23 := kH23.1
                  have hk := hk.trans kH23
                  have kacc := kacc.trans kH23
                  have rsb := kH23.rd rsb (by simp)
                  have c5 := kH23.cl c5 (by simp)
                  have cL := kH23.cl cL (by simp)
                  have c13 := kH23.cl c13 (by simp)
                  have c9 := kH23.cl c9 (by simp)
                  refine wN_sta (b := H10.next) (o := 0) rfl rfl c23 (by omega) rfl rfl (by simp) ?_
                  intro H24 kH24 nH24 sH24
                  have mH24 := kH24.1
                  have hk := hk.new kH24 (fun b hb => by simp at hb ⊢; omega)
                  have kacc := kacc.new kH24 (fun b hb => by simp at hb ⊢; omega)
                  have rsb := kH24.rd rsb (by first | (simp; done) | (simp; omega))
                  have c5 := kH24.cl c5 (by first | (simp; done) | (simp; omega))
                  have cL := kH24.cl cL (by first | (simp; done) | (simp; omega))
                  have c13 := kH24.cl c13 (by first | (simp; done) | (simp; omega))
                  have c9 := kH24.cl c9 (by first | (simp; done) | (simp; omega))
                  have c23 : Cl H24 H10.next [iv (x.w / 2), iv (x.t / 2), iv (x.r / 2), iv x.c, iv x.m] := sH24
                  refine wN_end ?_
                  refine wN_seq ?_
                  refine wN_addo (b := H6.next) (o := 0) rfl ?_
                  refine wN_ld (b := H6.next) (o := 5) (v := .slice none 0 0) rfl c13.rd rfl ?_
                  refine wN_lda (b := H10.next) (o := 0) rfl c23.rd (show row 5 _ _ = some [iv (x.w / 2), iv (x.t / 2), iv (x.r / 2), iv x.c, iv x.m] from rfl) ?_
                  refine wN_lda (b := H10.next) (o := 0) rfl c23.rd (show row 5 _ _ = some [iv (x.w / 2), iv (x.t / 2), iv (x.r / 2), iv x.c, iv x.m] from rfl) ?_
                  obtain ⟨H25, hH25⟩ : ∃ H25, H24.new (.cells ((hfS x).f ++ (hfS x).f) 58 false) = H25 := ⟨_, rfl⟩
                  refine wN_memh (H' := H25) (k := .heavy) rfl (by kernel_rfl) ((heap_build2s (a := hfS x) (b := hfS x) rfl rfl).trans (by rw [← hH25])) (fun b e => by cases e) ?_
                  obtain ⟨kH25, nH25, c25⟩ := new_facts hH25; clear hH25
                  have mH25 := kH25.1
                  have hk := hk.trans kH25
                  have kacc := kacc.trans kH25
                  have rsb := kH25.rd rsb (by simp)
                  have c5 := kH25.cl c5 (by simp)
                  have cL := kH25.cl cL (by simp)
                  have c13 := kH25.cl c13 (by simp)
                  have c9 := kH25.cl c9 (by simp)
                  have c23 := kH25.cl c23 (by simp)
                  obtain ⟨H26, eH26, hacc2, kbH26⟩ := heap_append_nil2 (lo := lo) (f := ff) (c25.sl (Nat.le_refl 2)) rfl (by omega) (by omega)
                  refine wN_memh (k := .heavy) rfl (by kernel_rfl) (eH26 _ _ _ _ _ _ _ rfl rfl) (fun b e => by cases e) ?_
                  have hk := kbH26.keep hk (by omega)
                  have c5 := kbH26.cl c5 (by omega)
                  have cL := kbH26.cl cL (by omega)
                  have c13 := kbH26.cl c13 (by omega)
                  have mH26 := kbH26.1
                  refine wN_addo (b := H6.next) (o := 0) rfl ?_
                  refine wN_st (b := H6.next) (o := 5) rfl rfl c13 (by omega) rfl rfl (by simp) ?_
                  intro H27 kH27 nH27 sH27
                  have mH27 := kH27.1
                  have hk := hk.new kH27 (fun b hb => by simp at hb ⊢; omega)
                  have c5 := kH27.cl c5 (by first | (simp; done) | (simp; omega))
                  have cL := kH27.cl cL (by first | (simp; done) | (simp; omega))
                  have hacc2 := hacc2.keepW kH27 (by omega)
                  have c13 : Cl H27 H6.next [iv g, iv b, iv d, iv s.gross, iv s.tare, .slice (some ⟨H25.next, 0, none⟩) 2 2] := sH27
                  refine wN_end ?_
                  first | (refine wN_exit ?_; show wC _ _ _ _ _ _ _ _ _) | skip
                  first | refine wN_reg ?_ | refine wN_blk ?_ | refine wN_bseq ?_ | (refine wOps_nil ?_; refine wN_reg ?_)
                  refine wN_mov (v := iv (i : Int)) rfl ?_
                  refine wN_add (a := (i : Int)) (b := 1) rfl rfl ⟨by omega, by omega⟩ ?_
                  refine wN_mov (v := iv ((i : Int) + 1)) rfl ?_
                  refine wN_end ?_
                  exact ⟨k - 1, i + 1, by omega, ⟨by omega, hk, c5, cL, by omega, _, c13, by rw [hstep]; exact hacc2⟩, rfl, rfl, rfl, rfl, rfl, trivial⟩
        · have q3 : ¬ ((i : Int) < (s.sn : Int)) := of_decide_eq_false q3
          have ei : i = s.sn := by omega
          have hrl := rot_len (l := s.ss) (t := t)
          rw [List.take_of_length_le (by omega)] at hacc
          obtain ⟨oa, oc, rfl, ho, _⟩ := hacc.sl
          obtain ⟨om, hon⟩ : ∃ om, (oth (rotL s.ss t)).length = om := ⟨_, rfl⟩
          rw [hon] at ho c13
          have fo := ho.old
          first | (refine wN_exit ?_; show wC _ _ _ _ _ _ _ _ _) | skip
          refine wN_seq ?_
          refine wN_lda (b := H6.next) (o := 0) rfl c13.rd (show row 6 _ _ = some [iv g, iv b, iv d, iv s.gross, iv s.tare, .slice oa om oc] from rfl) ?_
          obtain ⟨H28, fH28, kH28⟩ := weigh17_ok (kn := kn) (lo := lo) (H := L1) (s := s.o g b d t oa om oc) ho hon (by omega)
          obtain ⟨el1, el2⟩ := Sp.o_same hok hl (by omega) hg0 hb0 hd0 (t := t) (sa := oa) (sn := om) (cap := oc) hon
          rw [el1, el2, eld] at fH28
          refine wN_callf (vs := [.agg (s.o g b d t oa om oc).v.toArray]) (v := .tuple #[.agg #[iv s.net, iv s.good, iv s.trash, iv s.rot, iv s.col, iv s.firm], iv 0]) rfl (callX_args fH28) ?_
          have mH28 := kH28.1
          have hk := hk.trans kH28
          have kacc := kacc.trans kH28
          have rsb := kH28.rd rsb (by simp)
          have c5 := kH28.cl c5 (by simp)
          have cL := kH28.cl cL (by simp)
          have c13 := kH28.cl c13 (by simp)
          have ho := kH28.sl0 ho
          refine wN_mov (v := .tuple #[.agg #[iv s.net, iv s.good, iv s.trash, iv s.rot, iv s.col, iv s.firm], iv 0]) rfl ?_
          refine wN_pur (v := .agg #[iv s.net, iv s.good, iv s.trash, iv s.rot, iv s.col, iv s.firm]) rfl (by kernel_rfl) ?_
          refine wN_pur (v := iv 0) rfl (by kernel_rfl) ?_
          refine wN_alc ?_
          intro H29 kH29 nH29 c29
          have c29 : Cl H29 H28.next [iv 0, iv 0, iv 0, iv 0, iv 0, iv 0] := c29
          have mH29 := kH29.1
          have hk := hk.trans kH29
          have kacc := kacc.trans kH29
          have rsb := kH29.rd rsb (by simp)
          have c5 := kH29.cl c5 (by simp)
          have cL := kH29.cl cL (by simp)
          have c13 := kH29.cl c13 (by simp)
          have ho := kH29.sl0 ho
          refine wN_sta (b := H28.next) (o := 0) rfl rfl c29 (by omega) rfl rfl (by simp) ?_
          intro H30 kH30 nH30 sH30
          have mH30 := kH30.1
          have hk := hk.new kH30 (fun b hb => by simp at hb ⊢; omega)
          have kacc := kacc.new kH30 (fun b hb => by simp at hb ⊢; omega)
          have rsb := kH30.rd rsb (by first | (simp; done) | (simp; omega))
          have c5 := kH30.cl c5 (by first | (simp; done) | (simp; omega))
          have cL := kH30.cl cL (by first | (simp; done) | (simp; omega))
          have c13 := kH30.cl c13 (by first | (simp; done) | (simp; omega))
          have ho := kH30.sl ho (fun b e => by have := fo b e; first | (simp; done) | (simp; omega))
          have c29 : Cl H30 H28.next [iv s.net, iv s.good, iv s.trash, iv s.rot, iv s.col, iv s.firm] := sH30
          refine wN_mov (v := iv 0) rfl ?_
          refine wN_end ?_
          refine wN_seq ?_
          refine wN_lda (b := H28.next) (o := 0) rfl c29.rd (show row 6 _ _ = some [iv s.net, iv s.good, iv s.trash, iv s.rot, iv s.col, iv s.firm] from rfl) ?_
          refine wN_lda (b := H2.next) (o := 0) rfl cL.rd (show row 6 _ _ = some [iv s.net, iv s.good, iv s.trash, iv s.rot, iv s.col, iv s.firm] from rfl) ?_
          refine wN_pur (v := .bool true) rfl (eql_load rfl rfl) ?_
          refine wN_mov (v := .bool true) rfl ?_
          refine wN_g rfl (wN_mov (v := iv 0) rfl ?_)
          refine wN_g rfl (wN_b_eql (a := 0) (b := 0) rfl rfl ?_)
          intro t8 g8; obtain rfl : t8 = true := by rw [← g8]; rfl
          refine wN_pur (v := .bool true) rfl rfl ?_
          refine wN_mov (v := .bool true) rfl ?_
          refine wN_g rfl (wN_callf (vs := []) rfl (callX_known hkn) ?_)
          refine wN_pur (v := .bool true) rfl rfl ?_
          refine wN_mov (v := .bool true) rfl ?_
          refine wN_end ?_
          exact And.intro trivial (Exists.intro _ (And.intro rfl rfl))
    · have g2 : (s.sn : Int) > 16 := of_decide_eq_true g2
      refine wN_pur (v := .bool true) rfl rfl ?_
      refine wN_end ?_
      refine condT ?_
      refine wN_seq ?_
      refine wN_callf (vs := []) rfl (callX_known hkn) ?_
      refine wN_mov (v := .bool true) rfl ?_
      refine wN_end ?_
      exact And.intro trivial (Exists.intro _ (And.intro rfl rfl))
  · have g1 : (s.sn : Int) = 0 := by simpa using g1
    refine wN_mov (v := .bool true) rfl ?_
    refine wN_gs rfl ?_
    refine wN_gs rfl ?_
    refine wN_gs rfl ?_
    refine wN_gs rfl ?_
    refine wN_pur (v := .bool true) rfl rfl ?_
    refine wN_end ?_
    refine condT ?_
    refine wN_seq ?_
    refine wN_callf (vs := []) rfl (callX_known hkn) ?_
    refine wN_mov (v := .bool true) rfl ?_
    refine wN_end ?_
    exact And.intro trivial (Exists.intro _ (And.intro rfl rfl))
theorem law_samplesI (hkn : kn 10 = some true) {s : Sp} {g b d y : Int} (hs0 : Sl H s.sa s.sn s.scap (smc s.ss)) (hl : s.ss.length = s.sn) (hy : 0 ≤ y ∧ y ≤ 255) (hg0 : 0 ≤ g ∧ g ≤ 255) (hb0 : 0 ≤ b ∧ b ≤ 255) (hd0 : 0 ≤ d ∧ d ≤ 255) (hro : RoLow lo H) (hlo : lo ≤ H.next) :
    ∃ H', FnX Try.prog kn lo 8 [.agg s.v.toArray, .int .u8 y, .int .u8 g, .int .u8 b, .int .u8 d] H (.bool true) H' := by
  obtain ⟨t, rfl⟩ : ∃ t : Nat, y = (t : Int) := ⟨y.toNat, by omega⟩
  exact law_samples hkn hs0 hl (by omega) hg0 hb0 hd0 hro hlo
end
end Go.Ax

namespace Go.Ax
open Go Go.RowKit Go.Proofs Go.ChangeShapes Go.WideShapes Go.Deep

/-- A type whose cells are whole numbers. -/
def IntT (P : Program) (t : TypeId) : Prop := ∀ (H : Type) (enc : TypeId × Value → H) (w : World) (base : Nat) (spare : Nat → Bool) (held : Bool) (fuel : Nat) (cs : List Value) (x : DataW H × List MemPlace),
  DataW.trod enc P w base spare held fuel t cs = some x → cs.length = P.cellsOf t ∧ ∀ j, j < cs.length → ∃ n, cs[j]? = some (.int .i64 n)
theorem IntT.int {P : Program} {t : TypeId} (ht : P.underlying t = some (.int .i64)) (hc : P.cellsOf t = 1) : IntT P t := by
  intro H enc w base spare held fuel cs x h
  obtain ⟨n, rfl, _⟩ := DataW.trod_int ht h
  refine ⟨by rw [hc]; rfl, fun j hj => ⟨n, ?_⟩⟩
  have : j = 0 := by simp at hj; omega
  subst this; rfl
theorem IntT.struct {P : Program} {t : TypeId} {fs : Array Field} (ht : P.underlying t = some (.struct fs)) (hf : ∀ f ∈ fs.toList, IntT P f.type)
    (hcov : ((List.range (P.cellsOf t)).all fun j => fs.toList.any fun f => decide (f.offset ≤ j) && decide (j < f.offset + P.cellsOf f.type)) = true) : IntT P t := by
  intro H enc w base spare held fuel cs x h
  obtain ⟨xs, n, _, _, hlen, hxl, hg⟩ := DataW.trod_struct ht h
  refine ⟨hlen, fun j hj => ?_⟩
  have h1 := List.all_eq_true.1 hcov j (List.mem_range.2 (by omega))
  obtain ⟨f, hfm, h2⟩ := List.any_eq_true.1 h1
  simp only [Bool.and_eq_true, decide_eq_true_eq] at h2
  obtain ⟨i, hi, hfi⟩ := List.getElem_of_mem hfm
  have hfs : fs[i]? = some f := by
    rw [← Array.getElem?_toList, List.getElem?_eq_getElem hi, hfi]
  have hi2 : i < xs.length := by simpa [hxl] using hi
  have h3 := hg i f hfs
  rw [List.getElem?_eq_getElem hi2] at h3
  obtain ⟨h4, h5⟩ := hf f hfm _ _ _ _ _ _ _ _ _ h3
  obtain ⟨m, hm⟩ := h5 (j - f.offset) (by omega)
  refine ⟨m, ?_⟩
  rw [List.getElem?_take] at hm
  split at hm
  · rw [List.getElem?_drop, show f.offset + (j - f.offset) = j by omega] at hm; exact hm
  · cases hm

/-- A slice of rows of whole numbers, as it is given. -/
structure Given {α : Type} (w : World) (v : Value) (f : α → List Value) (l : List α) (x : Imp) : Prop where
  ok : ∀ (i : Nat) u, x.cs[i]? = some u → w.cell? ⟨x.blk, x.off + i, none⟩ = some u ∧ flat1 u = true
  cs : x.cs = l.flatMap f
  v : (v = .slice none 0 0 ∧ l = []) ∨ ∃ cap, v = .slice (some ⟨x.blk, x.off, none⟩) l.length cap ∧ l.length ≤ cap
theorem flat_get {α : Type} {f : α → List Value} {k : Nat} (hk : 0 < k) : ∀ {l : List α} (_ : ∀ x ∈ l, (f x).length = k) (i : Nat) (u : Value), (l.flatMap f)[i]? = some u → ∃ x, l[i / k]? = some x ∧ (f x)[i % k]? = some u
  | [], _, i, u, h => by simp at h
  | y :: r, hl, i, u, h => by
    have hy := hl y (List.mem_cons_self ..)
    rw [List.flatMap_cons, List.getElem?_append] at h
    split at h
    · rename_i q
      rw [hy] at q
      refine ⟨y, ?_, ?_⟩
      · rw [Nat.div_eq_of_lt q]; rfl
      · rw [Nat.mod_eq_of_lt q]; exact h
    · rename_i q
      rw [hy] at q h
      obtain ⟨x, h1, h2⟩ := flat_get hk (fun x hx => hl x (List.mem_cons_of_mem _ hx)) _ u h
      refine ⟨x, ?_, ?_⟩
      · rw [Nat.div_eq_sub_div hk (by omega)]; exact h1
      · rw [Nat.mod_eq_sub_mod (by omega)]; exact h2
theorem Given.rel {α : Type} {w : World} {v : Value} {f : α → List Value} {l : List α} {x : Imp} (g : Given w v f l x) {r : Ren} {H : Hp} {b : Nat} (hr : r b = some ⟨x.blk, x.off, none⟩) (hb : b < H.next) (hc : cellsOf H b = some x.cs) (hro : H.t.get b = some (.ro x.cs)) :
    ∃ a cap, VR r (.slice a l.length cap) v ∧ Sl H a l.length cap (l.flatMap f) ∧ ∀ b, a = some ⟨b, 0, none⟩ → H.t.get b = some (.ro (l.flatMap f)) := by
  rcases g.v with ⟨rfl, rfl⟩ | ⟨cap, rfl, hl⟩
  · exact ⟨none, 0, .nilSlice, .inl ⟨.inl rfl, rfl, rfl, rfl⟩, fun b e => by cases e⟩
  · refine ⟨some ⟨b, 0, none⟩, cap, ?_, .inr ⟨b, rfl, ⟨hb, by rw [hc, g.cs]⟩, hl⟩, fun b' e => by cases e; rw [hro, g.cs]⟩
    have := VR.slice (o := 0) (n := l.length) (c := cap) hr rfl hl
    simpa using this
end Go.Ax

/-! Slices of rows of plain cells, as arguments. -/
namespace Go.Ax
open Go Go.RowKit Go.Proofs Go.ChangeShapes Go.WideShapes Go.Deep

theorem IntT.row {α : Type} {P : Program} {t : TypeId} {k : Nat} {f : α → List Value} {mk : (Nat → Int) → α} (h : IntT P t) (hc : P.cellsOf t = k) (hmk : ∀ N : Nat → Int, f (mk N) = (List.range k).map fun j => Value.int .i64 (N j))
    {H : Type} {enc : TypeId × Value → H} {w : World} {base : Nat} {spare : Nat → Bool} {held : Bool} (fuel : Nat) (cs : List Value) (x : DataW H × List MemPlace) (hx : DataW.trod enc P w base spare held fuel t cs = some x) : ∃ y : α, cs = f y ∧ True := by
  obtain ⟨h1, h2⟩ := h _ _ _ _ _ _ _ _ _ hx
  have : ∃ N : Nat → Int, ∀ j, j < cs.length → cs[j]? = some (.int .i64 (N j)) := by
    refine ⟨fun j => match cs[j]? with | some (.int _ n) => n | _ => 0, fun j hj => ?_⟩
    obtain ⟨n, hn⟩ := h2 j hj
    simp [hn]
  obtain ⟨N, hN⟩ := this
  refine ⟨mk N, ?_, trivial⟩
  rw [hmk]
  apply List.ext_getElem?
  intro j
  by_cases hj : j < k
  · rw [hN j (by omega), List.getElem?_map, List.getElem?_range hj]; rfl
  · rw [List.getElem?_eq_none (by omega), List.getElem?_eq_none (by simp; omega)]
theorem spot_of {w : World} {a : Addr} {v : Value} (h : w.cell? a = some v) : a.spot = none := by
  unfold World.cell? at h
  split at h
  · cases hs : a.spot with
    | none => rfl
    | some x => rw [hs] at h; simp at h
  · cases h
theorem add_zero' (a : Addr) : a.add 0 = a := by unfold Addr.add; simp
theorem add_plain (b o n : Nat) : (⟨b, o, none⟩ : Addr).add n = ⟨b, o + n, none⟩ := by
  unfold Addr.add
  by_cases q : n = 0
  · simp [q]
  · simp [q]
/-- A slice of rows, as it is read; Q: what else is known of a row. -/
theorem rows_read {H : Type} {enc : TypeId × Value → H} {P : Program} {w : World} {base : Nat} {held : Bool} {α : Type} {f : α → List Value} {Q : α → Prop} {k : Nat} {t e : TypeId} {fuel : Nat} {v : Value} {x : DataW H × List MemPlace}
    (ht : P.underlying t = some (.slice e)) (hR : ∀ (fuel : Nat) (cs : List Value) (x : DataW H × List MemPlace), DataW.trod enc P w base (fun _ => true) held fuel e cs = some x → ∃ y : α, cs = f y ∧ Q y) (hc : P.cellsOf e = k) (hk : 0 < k) (hfk : ∀ y, (f y).length = k)
    (h : DataW.trod enc P w base (fun _ => true) held fuel t [v] = some x) : ∃ (l : List α), l.length ≤ maxLen ∧ (∀ y ∈ l, Q y) ∧
      (((v = .slice none 0 0 ∨ ∃ a', v = .slice (some a') 0 0) ∧ l = []) ∨ ∃ blk off cap, v = .slice (some ⟨blk, off, none⟩) l.length cap ∧ l.length ≤ cap ∧ ∀ (i : Nat) u, (l.flatMap f)[i]? = some u → w.cell? ⟨blk, off + i, none⟩ = some u) := by
  rcases open_slice ht h with ⟨h0, _⟩ | ⟨a, len, cap, m, n, D, Pl, hcs, hb, hl, hm, hmm, hx, hi⟩
  · cases h0
    exact ⟨[], by simp, fun y hy => by simp at hy, .inl ⟨.inl rfl, rfl⟩⟩
  cases hcs
  simp only [if_true] at hmm
  subst hmm
  rcases Nat.eq_zero_or_pos m with h0 | h0
  · subst h0
    have : len = 0 := by omega
    subst this
    exact ⟨[], by simp, fun y hy => by simp at hy, .inl ⟨.inr ⟨_, rfl⟩, rfl⟩⟩
  obtain ⟨blk, off, spot⟩ := a
  have hs : spot = none := by
    obtain ⟨cs', h1, h2⟩ := hi 0 h0
    obtain ⟨y, hy, _⟩ := hR _ _ _ h2
    obtain ⟨_, h5, h6⟩ := World.cells?_some h1
    have h7 := h6 0 (by omega)
    rw [Nat.zero_mul, add_zero', add_zero'] at h7
    have h8 : cs'[0]? = some (cs'[0]'(by omega)) := List.getElem?_eq_getElem _
    rw [h8] at h7
    exact spot_of h7
  subst hs
  have hrow : ∀ i, i < len → ∃ y : α, Q y ∧ ∀ j, j < k → ∃ u, (f y)[j]? = some u ∧ w.cell? ⟨blk, off + (i * k + j), none⟩ = some u := by
    intro i hil
    obtain ⟨cs', h1, h2⟩ := hi i (by omega)
    obtain ⟨y, rfl, hq⟩ := hR _ _ _ h2
    obtain ⟨_, h5, h6⟩ := World.cells?_some h1
    refine ⟨y, hq, fun j hj => ?_⟩
    have h7 := h6 j (by omega)
    have h8 : (f y)[j]? = some ((f y)[j]'(by rw [hfk]; exact hj)) := List.getElem?_eq_getElem _
    rw [h8, hc, add_plain, add_plain, Nat.add_assoc] at h7
    exact ⟨_, h8, h7⟩
  have key : ∀ n, n ≤ len → ∃ l : List α, l.length = n ∧ (∀ y ∈ l, Q y) ∧ ∀ (i : Nat) y, l[i]? = some y → ∀ j, j < k → ∃ u, (f y)[j]? = some u ∧ w.cell? ⟨blk, off + (i * k + j), none⟩ = some u := by
    intro n
    induction n with
    | zero => intro _; exact ⟨[], rfl, fun y hy => by simp at hy, fun i y e => by simp at e⟩
    | succ n ih =>
      intro hn
      obtain ⟨l, h1, hq, h2⟩ := ih (by omega)
      obtain ⟨y, hyq, hy⟩ := hrow n (by omega)
      refine ⟨l ++ [y], by simp [h1], fun z hz => ?_, fun i z e => ?_⟩
      · simp only [List.mem_append, List.mem_singleton] at hz
        rcases hz with hz | rfl
        · exact hq z hz
        · exact hyq
      rw [List.getElem?_append] at e
      split at e
      · exact h2 i z e
      · rename_i q
        have : i = n := by have := get_lt e; simp at this; omega
        subst this
        rw [h1, Nat.sub_self] at e
        simp at e; subst e
        exact hy
  obtain ⟨l, hl1, hq, hl2⟩ := key len (Nat.le_refl _)
  refine ⟨l, by omega, hq, .inr ⟨blk, off, m, by rw [hl1], by omega, fun i u hu => ?_⟩⟩
  obtain ⟨y, h1, h2⟩ := flat_get hk (fun y _ => hfk y) i u hu
  have hj : i % k < k := Nat.mod_lt _ hk
  obtain ⟨u', e1, e2⟩ := hl2 _ y h1 _ hj
  rw [h2] at e1; cases e1
  rw [Nat.div_add_mod'] at e2
  exact e2
end Go.Ax

/-! Arguments that point to what points: inner slices, rows of slices. -/
namespace Go.Ax
open Go Go.RowKit Go.Proofs Go.ChangeShapes Go.WideShapes Go.Deep

def renOf (imps : List Imp) : Ren := fun b => (imps[b]?).map fun x => ⟨x.blk, x.off, none⟩
theorem imports3 {P : Program} (imps outs : List Imp) (w : World) (h : ∀ x ∈ imps, ∀ (i : Nat) v, x.cs[i]? = some v → w.cell? ⟨x.blk, x.off + i, none⟩ = some v ∧ flat1 v = true)
    (hcs : ∀ x ∈ outs, ∀ (i : Nat) v, x.cs[i]? = some v → ∃ v', w.cell? ⟨x.blk, x.off + i, none⟩ = some v' ∧ VR (renOf imps) v v') :
    ∃ (r : Ren) (H : Hp), Rel P r w.heap.size H w ∧ H.next = (imps ++ outs).length ∧ (∀ b loc, r b = some loc → b < H.next) ∧ Ren.Le (renOf imps) r ∧ ∀ (b : Nat) x, (imps ++ outs)[b]? = some x → r b = some ⟨x.blk, x.off, none⟩ ∧ H.t.get b = some (.ro x.cs) := by
  have hall : ∀ x ∈ imps ++ outs, ∀ (i : Nat) v, x.cs[i]? = some v → ∃ v', w.cell? ⟨x.blk, x.off + i, none⟩ = some v' ∧ VR (renOf imps) v v' := by
    intro x hx i v hv
    rcases List.mem_append.1 hx with hx | hx
    · obtain ⟨h1, h2⟩ := h x hx i v hv
      exact ⟨v, h1, flat1_vr h2⟩
    · exact hcs x hx i v hv
  obtain ⟨t, ht⟩ := tr_of (fun b => ((imps ++ outs)[b]?).map fun x => .ro x.cs) (imps ++ outs).length
  have hle : Ren.Le (renOf imps) (fun b => ((imps ++ outs)[b]?).map fun x => ⟨x.blk, x.off, none⟩) := fun b loc e => by
    unfold renOf at e
    have hlt : b < imps.length := by
      rcases Nat.lt_or_ge b imps.length with q | q
      · exact q
      · rw [List.getElem?_eq_none q] at e; cases e
    show ((imps ++ outs)[b]?).map _ = _
    rw [List.getElem?_append_left hlt]; exact e
  have hr : ∀ (b : Nat) loc, ((imps ++ outs)[b]?).map (fun x => (⟨x.blk, x.off, none⟩ : Loc)) = some loc → ∃ x, (imps ++ outs)[b]? = some x ∧ b < (imps ++ outs).length ∧ loc = ⟨x.blk, x.off, none⟩ ∧ t.get b = some (.ro x.cs) := by
    intro b loc e
    cases hx : (imps ++ outs)[b]? with
    | none => rw [hx] at e; cases e
    | some x =>
      rw [hx] at e
      simp at e
      have hlt := get_lt hx
      exact ⟨x, rfl, hlt, e.symm, by rw [ht, if_pos hlt, hx]; rfl⟩
  have low : ∀ {g o : Nat} {v : Value}, w.cell? ⟨g, o, none⟩ = some v → g < w.heap.size := fun {g o v} hv => by
    unfold World.cell? at hv
    rcases Nat.lt_or_ge g w.heap.size with q | q
    · exact q
    · rw [Array.getElem?_eq_none q] at hv; cases hv
  refine ⟨fun b => ((imps ++ outs)[b]?).map fun x => ⟨x.blk, x.off, none⟩, { next := (imps ++ outs).length, t }, ⟨?_, ?_, ?_, Nat.le_refl _⟩, rfl, ?_, hle, ?_⟩
  · intro b loc e
    obtain ⟨x, hx, hlt, rfl, hg⟩ := hr b loc e
    refine ⟨hlt, ?_⟩
    show Dm _ _ _ (t.get b)
    rw [hg]
    cases hc : x.cs with
    | nil => exact .inl rfl
    | cons v l =>
      obtain ⟨v', h1, _⟩ := hall x (List.mem_of_getElem? hx) 0 v (by rw [hc]; rfl)
      exact .inr (low h1)
  · intro b loc o e eo
    obtain ⟨x, hx, hlt, rfl, hg⟩ := hr b loc e
    rw [hg] at eo; cases eo
    refine ⟨rfl, fun i v ev => ?_⟩
    obtain ⟨v', h1, h2⟩ := hall x (List.mem_of_getElem? hx) i v ev
    unfold World.cell? at h1
    simp only at h1
    split at h1
    · rename_i C e' f hC
      exact ⟨C, e', f, v', hC, by simpa using h1, h2.mono hle⟩
    · cases h1
  · intro b b' loc loc' e e' _ hl _
    obtain ⟨x, hx, hlt, rfl, hg⟩ := hr b loc e
    obtain ⟨o, h1, h2, h3⟩ := hl
    have : t.get b = some o := h1
    rw [hg] at this; cases this
    cases h3
  · intro b loc e
    obtain ⟨x, hx, hlt, rfl, hg⟩ := hr b loc e
    exact hlt
  · intro b x hx
    have hlt := get_lt hx
    refine ⟨by simp only [hx, Option.map_some], ?_⟩
    show t.get b = _
    rw [ht, if_pos hlt, hx]; rfl

/-- An inner slice, as it is given: an empty one may have any address. -/
structure GivI {α : Type} (w : World) (v : Value) (f : α → List Value) (l : List α) (x : Imp) : Prop where
  ok : ∀ (i : Nat) u, x.cs[i]? = some u → w.cell? ⟨x.blk, x.off + i, none⟩ = some u ∧ flat1 u = true
  cs : x.cs = l.flatMap f
  v : ((v = .slice none 0 0 ∨ ∃ a', v = .slice (some a') 0 0) ∧ l = []) ∨ ∃ cap, v = .slice (some ⟨x.blk, x.off, none⟩) l.length cap ∧ l.length ≤ cap
theorem givI_of {H : Type} {enc : TypeId × Value → H} {P : Program} {w : World} {base : Nat} {held : Bool} {α : Type} {f : α → List Value} {Q : α → Prop} {k : Nat} {t e : TypeId} {fuel : Nat} {v : Value} {x : DataW H × List MemPlace}
    (ht : P.underlying t = some (.slice e)) (hR : ∀ (fuel : Nat) (cs : List Value) (x : DataW H × List MemPlace), DataW.trod enc P w base (fun _ => true) held fuel e cs = some x → ∃ y : α, cs = f y ∧ Q y) (hc : P.cellsOf e = k) (hk : 0 < k) (hfk : ∀ y, (f y).length = k) (hflat : ∀ y u, u ∈ f y → flat1 u = true)
    (h : DataW.trod enc P w base (fun _ => true) held fuel t [v] = some x) : ∃ (l : List α) (y : Imp), GivI w v f l y := by
  obtain ⟨l, h1, h2, ⟨h3, rfl⟩ | ⟨blk, off, cap, h3, h4, h5⟩⟩ := rows_read ht hR hc hk hfk h
  · exact ⟨[], ⟨0, 0, []⟩, ⟨fun i u e => by simp at e, rfl, .inl ⟨h3, rfl⟩⟩⟩
  · refine ⟨l, ⟨blk, off, l.flatMap f⟩, ⟨fun i u hu => ⟨h5 i u hu, ?_⟩, rfl, .inr ⟨cap, h3, h4⟩⟩⟩
    obtain ⟨y, hy, hu'⟩ := List.mem_flatMap.1 (List.mem_of_getElem? hu)
    exact hflat y u hu'
theorem GivI.rel {α : Type} {w : World} {v : Value} {f : α → List Value} {l : List α} {x : Imp} (g : GivI w v f l x) {r : Ren} {b : Nat} (hr : r b = some ⟨x.blk, x.off, none⟩) :
    ∃ a cap, VR r (.slice a l.length cap) v ∧ (∀ y, a = some ⟨y, 0, none⟩ → y = b) ∧ ∀ H : Hp, b < H.next → H.t.get b = some (.ro x.cs) → Sl H a l.length cap (l.flatMap f) := by
  rcases g.v with ⟨rfl | ⟨a', rfl⟩, rfl⟩ | ⟨cap, rfl, hl⟩
  · exact ⟨none, 0, .nilSlice, fun y e => by (cases e), fun H _ _ => .inl ⟨.inl rfl, rfl, rfl, rfl⟩⟩
  · exact ⟨some ⟨0, 0, some 0⟩, 0, .weird, fun y e => by (cases e), fun H _ _ => .inl ⟨.inr rfl, rfl, rfl, rfl⟩⟩
  · refine ⟨some ⟨b, 0, none⟩, cap, ?_, fun y e => by (cases e; rfl), fun H hb hc => .inr ⟨b, rfl, ⟨hb, by unfold cellsOf; rw [hc, g.cs]⟩, hl⟩⟩
    have := VR.slice (o := 0) (n := l.length) (c := cap) hr rfl hl
    simpa using this
structure RV where
  rv : Value
  l : List Int
  x : Imp
def RV.f (r : RV) : List Value := [r.rv]
def RV.Q (w : World) (r : RV) : Prop := GivI w r.rv (fun n : Int => [iv n]) r.l r.x
end Go.Ax

/-! Trucks, slips and berries as arguments. -/
namespace Go.Ax
open Go Go.RowKit Go.Proofs Go.ChangeShapes Go.WideShapes Go.Deep

theorem imports_flat {P : Program} (pre : List Imp) {w : World} (h : ∀ x ∈ pre, ∀ (i : Nat) v, x.cs[i]? = some v → w.cell? ⟨x.blk, x.off + i, none⟩ = some v ∧ flat1 v = true) :
    ∃ (r : Ren) (H : Hp), Rel P r w.heap.size H w ∧ (∀ b loc, r b = some loc → b < H.next) ∧ (∀ (b : Nat) x, pre[b]? = some x → b < H.next ∧ r b = some ⟨x.blk, x.off, none⟩ ∧ H.t.get b = some (.ro x.cs)) := by
  obtain ⟨r, H, h1, h2, h3, h4, h5⟩ := imports3 (P := P) pre [] w h (fun x hx => by simp at hx)
  refine ⟨r, H, h1, h3, fun b x hx => ?_⟩
  have := get_lt hx
  obtain ⟨a, c⟩ := h5 b x (by simpa using hx)
  exact ⟨by rw [h2]; simpa using this, a, c⟩
end Go.Ax


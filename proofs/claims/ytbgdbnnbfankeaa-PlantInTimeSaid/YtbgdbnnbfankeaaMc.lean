import Derived.Test.YtbgdbnnbfankeaaMb
import Derived.Test.YtbgdbnnbfankeaaChecked
import Derived.Test.YtbgdbnnbfankeaaAxO
import Derived.Deep.Slices
import Derived.Deep.Fields
import Derived.ChangeSame
set_option linter.all false
/-
  Plant: Frozen, Late, the law PlantInTime (written by program).
-/
namespace Go.Ax
open Go Go.RowKit Go.Proofs

/-- the error of Frozen -/
def frzE (us : List Fz) (R : Int) : Int := if chkF us = 0 then (if 1 ≤ R ∧ R ≤ 17592186044416 then 0 else 2) else chkF us
theorem chkF_0 {us : List Fz} (h : chkF us = 0) : us.length ≤ 16 ∧ us.all Fz.ok = true := by
  unfold chkF at h
  split at h
  · cases h
  · rename_i q
    refine ⟨by omega, ?_⟩
    split at h
    · assumption
    · cases h
theorem frzE_0 {us : List Fz} {R : Int} (h : frzE us R = 0) : us.length ≤ 16 ∧ us.all Fz.ok = true ∧ 1 ≤ R ∧ R ≤ 17592186044416 := by
  unfold frzE at h
  split at h
  · rename_i q
    split at h
    · exact ⟨(chkF_0 q).1, (chkF_0 q).2, by assumption⟩
    · cases h
  · rename_i q; exact absurd h q
theorem fzc_rowF {us : List Fz} {i : Nat} (h : i < us.length) : row 3 (fzc us) (0 + i * 3) = some [iv (rdF us i), iv (duF us i), iv (msF us i)] := by
  obtain ⟨x, hx⟩ := get_some h
  obtain ⟨a, b, c⟩ := Fz.at hx
  rw [a, b, c]; exact fzc_row hx
theorem fzc_atF {us : List Fz} {i j : Nat} {v : Value} (h : i < us.length) (hj : [iv (rdF us i), iv (duF us i), iv (msF us i)][j]? = some v) : (fzc us)[0 + i * 3 + j]? = some v := row_get (fzc_rowF h) hj
theorem lateU_succ (us : List Fz) (R : Int) (k : Nat) : lateU us R (k + 1) = (lateU us R k || decide (duF us k < DN us R k)) := any_succ _ k
theorem mJ_succ (us : List Fz) (R : Int) (i k : Nat) : mJ us R i (k + 1) = (mJ us R i k || decide (R * max 0 (duF us k - rdF us i) < BT us i k us.length)) := any_succ _ k
theorem mI_succ (us : List Fz) (R : Int) (k : Nat) : mI us R (k + 1) = (mI us R k || mJ us R k us.length) := any_succ _ k
theorem BT_yes {us : List Fz} {i j k : Nat} (h : rdF us i ≤ rdF us k ∧ duF us k ≤ duF us j) : BT us i j (k + 1) = BT us i j k + msF us k := by
  show BT us i j k + (if rdF us i ≤ rdF us k ∧ duF us k ≤ duF us j then msF us k else 0) = _
  rw [if_pos h]
theorem BT_no {us : List Fz} {i j k : Nat} (h : ¬ (rdF us i ≤ rdF us k ∧ duF us k ≤ duF us j)) : BT us i j (k + 1) = BT us i j k := by
  show BT us i j k + (if rdF us i ≤ rdF us k ∧ duF us k ≤ duF us j then msF us k else 0) = _
  rw [if_neg h]; omega
theorem mul_room {us : List Fz} (h : FzOk us) {R : Int} (hR : 0 ≤ R ∧ R ≤ 17592186044416) {i j : Nat} (hi : i < us.length) (hj : j < us.length) : InR (R * max 0 (duF us j - rdF us i)) := by
  have a := h.a i hi; have b := (h.d j hj).2
  have c : R * max 0 (duF us j - rdF us i) ≤ R * 500 := Int.mul_le_mul_of_nonneg_left (by omega) hR.1
  have d : 0 ≤ R * max 0 (duF us j - rdF us i) := Int.mul_nonneg hR.1 (by omega)
  exact ⟨by omega, by omega⟩
theorem eqlB {n : Nat} {S : Rg} {d : Option Tmp} {x y : Operand} {p : String} {ty : TypeId} {b : Bool} (hx : evS S x = some (.bool b)) (hy : evS S y = some (.bool b)) : pureOp Try.prog (frS n S) ⟨d, .binOp .eql 4 x y 4, ty, p, #[], none⟩ = some (.bool true) := by
  unfold pureOp
  simp only [ev_frS, hx, hy]
  cases b <;> kernel_rfl
section
variable {kn : FuncId → Option Bool} {lo : Nat} {H : Hp}
/-- Frozen, where it answers -/
theorem frozen28_ok {sa : Option Addr} {n cap : Nat} {us : List Fz} {R : Int} (hs : Sl H sa n cap (fzc us)) (hl : us.length = n) (hn2 : n ≤ 1000000) (hlo : lo ≤ H.next) (h0 : frzE us R = 0) : ∃ b H', FnX Try.prog kn lo 28 [.slice sa n cap, iv R] H (.tuple #[slv b n n, iv 0]) H' ∧ Keep H H' [] ∧ H.next ≤ b ∧ Cl H' b (nf (DN us R) n) := by
  have key := fnX_low (kn := kn) (lo := lo) (H := H) (args := [.slice sa n cap, iv R]) (Q := fun w H' => ∃ b, w = .tuple #[slv b n n, iv 0] ∧ Keep H H' [] ∧ H.next ≤ b ∧ Cl H' b (nf (DN us R) n)) Try.func28 B28 N28 Z28 L28 (by simp) ?_
  · obtain ⟨w, H', h, a, rfl, q⟩ := key; exact ⟨a, H', h, q⟩
  have hk := Keep.refl H []
  obtain ⟨h1, h2, h3, h4⟩ := frzE_0 h0
  have hc : chkF us = 0 := by unfold chkF; rw [if_neg (by omega), h2]; rfl
  refine wN_seq ?_
  refine wN_mov (v := .slice none 0 0) rfl ?_
  refine wN_mov (v := iv 0) rfl ?_
  refine wN_end ?_
  refine wN_seq ?_
  refine wN_mov (v := .slice sa n cap) rfl ?_
  obtain ⟨H1, fH1, kH1⟩ := check57_ok (kn := kn) (lo := lo) (H := H) hs hl hn2 (by omega)
  refine wN_callf (vs := [.slice sa n cap]) rfl (callX_args fH1) ?_
  have mH1 := kH1.1
  have hk := hk.trans kH1
  have hs := kH1.sl0 hs
  refine wN_mov (v := iv (chkF us)) rfl ?_
  refine wN_end ?_
  refine wN_seq ?_
  refine wN_mov (v := iv (chkF us)) rfl ?_
  refine wN_c_neq (a := (chkF us)) (b := 0) rfl rfl ?_
  refine wN_end ?_
  refine And.intro (fun q1 => ?_) (fun q1 => ?_)
  · have q1 : (chkF us) ≠ 0 := by simpa using q1
    exfalso; omega
  · have q1 : ¬ ((chkF us) ≠ 0) := by simpa using q1
    first | refine wN_skip ?_ | skip
    refine wN_seq ?_
    refine wN_mov (v := iv R) rfl ?_
    refine wN_b_lss (a := R) (b := 1) rfl rfl ?_
    intro t2 g2; cases t2
    · have g2 : ¬ (R < 1) := of_decide_eq_false g2
      refine wN_mov (v := .bool false) rfl ?_
      refine wN_g rfl (wN_mov (v := iv R) rfl ?_)
      refine wN_g rfl (wN_b_gtr (a := R) (b := 17592186044416) rfl rfl ?_)
      intro t3 g3; cases t3
      · have g3 : ¬ (R > 17592186044416) := of_decide_eq_false g3
        refine wN_pur (v := .bool false) rfl rfl ?_
        refine wN_end ?_
        refine condF ?_
        first | refine wN_skip ?_ | skip
        refine wN_seq ?_
        refine wN_mov (v := .slice sa n cap) rfl ?_
        refine wN_mov (v := iv R) rfl ?_
        obtain ⟨b, H2, fH2, kH2, hb, cb⟩ := frozen_ok (kn := kn) (lo := lo) (H := H1) (R := R) hs hl (by omega) (L := LS us) (by unfold LS; rw [hl]) h2 ⟨h3, h4⟩ (by omega)
        refine wN_callf (vs := [.slice sa n cap, iv R]) rfl (callX_args fH2) ?_
        have mH2 := kH2.1
        have hk := hk.trans kH2
        have hs := kH2.sl0 hs
        refine wN_mov (v := .slice (some ⟨b, 0, none⟩) n n) rfl ?_
        refine wN_mov (v := iv 0) rfl ?_
        refine wN_end ?_
        exact And.intro trivial (Exists.intro _ (And.intro rfl ⟨_, rfl, hk, by omega, by unfold DN; rw [hl]; exact cb⟩))
      · have g3 : R > 17592186044416 := of_decide_eq_true g3
        exfalso; omega
    · have g2 : R < 1 := of_decide_eq_true g2
      exfalso; omega
/-- Frozen, where it does not -/
theorem frozen28_no {sa : Option Addr} {n cap : Nat} {us : List Fz} {R : Int} (hs : Sl H sa n cap (fzc us)) (hl : us.length = n) (hn2 : n ≤ 1000000) (hlo : lo ≤ H.next) (h0 : frzE us R ≠ 0) : ∃ H', FnX Try.prog kn lo 28 [.slice sa n cap, iv R] H (.tuple #[.slice none 0 0, iv (frzE us R)]) H' ∧ Keep H H' [] := by
  have key := fnX_low (kn := kn) (lo := lo) (H := H) (args := [.slice sa n cap, iv R]) (Q := fun w H' => w = .tuple #[.slice none 0 0, iv (frzE us R)] ∧ Keep H H' []) Try.func28 B28 N28 Z28 L28 (by simp) ?_
  · obtain ⟨w, H', h, rfl, q⟩ := key; exact ⟨H', h, q⟩
  have hk := Keep.refl H []
  refine wN_seq ?_
  refine wN_mov (v := .slice none 0 0) rfl ?_
  refine wN_mov (v := iv 0) rfl ?_
  refine wN_end ?_
  refine wN_seq ?_
  refine wN_mov (v := .slice sa n cap) rfl ?_
  obtain ⟨H1, fH1, kH1⟩ := check57_ok (kn := kn) (lo := lo) (H := H) hs hl hn2 (by omega)
  refine wN_callf (vs := [.slice sa n cap]) rfl (callX_args fH1) ?_
  have mH1 := kH1.1
  have hk := hk.trans kH1
  have hs := kH1.sl0 hs
  refine wN_mov (v := iv (chkF us)) rfl ?_
  refine wN_end ?_
  refine wN_seq ?_
  refine wN_mov (v := iv (chkF us)) rfl ?_
  refine wN_c_neq (a := (chkF us)) (b := 0) rfl rfl ?_
  refine wN_end ?_
  refine And.intro (fun q1 => ?_) (fun q1 => ?_)
  · have q1 : (chkF us) ≠ 0 := by simpa using q1
    refine wN_seq ?_
    refine wN_mov (v := iv (chkF us)) rfl ?_
    refine wN_mov (v := .slice none 0 0) rfl ?_
    refine wN_mov (v := iv (chkF us)) rfl ?_
    refine wN_end ?_
    exact And.intro trivial (Exists.intro _ (And.intro rfl ⟨by unfold frzE; first | (rw [if_neg (by omega)]; rfl) | (rw [if_pos (by omega), if_neg (by omega)]; rfl), hk⟩))
  · have q1 : ¬ ((chkF us) ≠ 0) := by simpa using q1
    first | refine wN_skip ?_ | skip
    refine wN_seq ?_
    refine wN_mov (v := iv R) rfl ?_
    refine wN_b_lss (a := R) (b := 1) rfl rfl ?_
    intro t2 g2; cases t2
    · have g2 : ¬ (R < 1) := of_decide_eq_false g2
      refine wN_mov (v := .bool false) rfl ?_
      refine wN_g rfl (wN_mov (v := iv R) rfl ?_)
      refine wN_g rfl (wN_b_gtr (a := R) (b := 17592186044416) rfl rfl ?_)
      intro t3 g3; cases t3
      · have g3 : ¬ (R > 17592186044416) := of_decide_eq_false g3
        exfalso; exact h0 (by unfold frzE; rw [if_pos (by omega), if_pos (by omega)])
      · have g3 : R > 17592186044416 := of_decide_eq_true g3
        refine wN_pur (v := .bool true) rfl rfl ?_
        refine wN_end ?_
        refine condT ?_
        refine wN_seq ?_
        refine wN_mov (v := .slice none 0 0) rfl ?_
        refine wN_mov (v := iv 2) rfl ?_
        refine wN_end ?_
        exact And.intro trivial (Exists.intro _ (And.intro rfl ⟨by unfold frzE; first | (rw [if_neg (by omega)]; rfl) | (rw [if_pos (by omega), if_neg (by omega)]; rfl), hk⟩))
    · have g2 : R < 1 := of_decide_eq_true g2
      refine wN_mov (v := .bool true) rfl ?_
      refine wN_gs rfl ?_
      refine wN_gs rfl ?_
      refine wN_pur (v := .bool true) rfl rfl ?_
      refine wN_end ?_
      refine condT ?_
      refine wN_seq ?_
      refine wN_mov (v := .slice none 0 0) rfl ?_
      refine wN_mov (v := iv 2) rfl ?_
      refine wN_end ?_
      exact And.intro trivial (Exists.intro _ (And.intro rfl ⟨by unfold frzE; first | (rw [if_neg (by omega)]; rfl) | (rw [if_pos (by omega), if_neg (by omega)]; rfl), hk⟩))
set_option maxRecDepth 100000 in
set_option maxHeartbeats 4000000 in
/-- PlantInTime -/
theorem law_intime (hkn : kn 16 = some true) {sa : Option Addr} {n cap : Nat} {us : List Fz} {R : Int} (hs : Sl H sa n cap (fzc us)) (hl : us.length = n) (hro : RoLow lo H) (hlo : lo ≤ H.next) : ∃ H', FnX Try.prog kn lo 12 [.slice sa n cap, iv R] H (.bool true) H' := by
  have key := fnX_low (kn := kn) (lo := lo) (H := H) (args := [.slice sa n cap, iv R]) (Q := fun w H' => w = .bool true) Try.func12 B12 N12 Z12 L12 (by simp) ?_
  · obtain ⟨w, H', h, rfl⟩ := key; exact ⟨H', h⟩
  have hk := Keep.refl H []
  have fs := hs.old
  refine wN_seq ?_
  refine wN_mov (v := .bool false) rfl ?_
  refine wN_end ?_
  refine wN_seq ?_
  refine wN_mov (v := .slice sa n cap) rfl ?_
  refine wN_len (m := n) rfl ?_
  refine wN_c_gtr (a := (n : Int)) (b := 16) rfl rfl ?_
  refine wN_end ?_
  refine And.intro (fun q1 => ?_) (fun q1 => ?_)
  · have q1 : (n : Int) > 16 := of_decide_eq_true q1
    refine wN_seq ?_
    refine wN_callf (vs := []) rfl (callX_known hkn) ?_
    refine wN_mov (v := .bool true) rfl ?_
    refine wN_end ?_
    exact And.intro trivial (Exists.intro _ (And.intro rfl rfl))
  · have q1 : ¬ ((n : Int) > 16) := of_decide_eq_false q1
    first | refine wN_skip ?_ | skip
    refine wN_seq ?_
    refine wN_mov (v := .slice sa n cap) rfl ?_
    refine wN_mov (v := iv R) rfl ?_
    by_cases zD : frzE us R = 0
    · obtain ⟨bD, H1, fH1, kH1, lbD, cD⟩ := frozen28_ok (kn := kn) (lo := lo) (H := H) (R := R) hs hl (by omega) (by omega) zD
      refine wN_callf (vs := [.slice sa n cap, iv R]) rfl (callX_args fH1) ?_
      have mH1 := kH1.1
      have hk := hk.trans kH1
      have hs := kH1.sl0 hs
      have ltD := cD.lt
      refine wN_mov (v := .tuple #[.slice (some ⟨bD, 0, none⟩) n n, iv 0]) rfl ?_
      refine wN_pur (v := .slice (some ⟨bD, 0, none⟩) n n) rfl (by kernel_rfl) ?_
      refine wN_pur (v := iv 0) rfl (by kernel_rfl) ?_
      refine wN_mov (v := .slice (some ⟨bD, 0, none⟩) n n) rfl ?_
      refine wN_mov (v := iv 0) rfl ?_
      refine wN_end ?_
      refine wN_seq ?_
      refine wN_mov (v := iv 0) rfl ?_
      refine wN_c_neq (a := 0) (b := 0) rfl rfl ?_
      refine wN_end ?_
      refine condF ?_
      first | refine wN_skip ?_ | skip
      refine wN_seq ?_
      refine wN_mov (v := .slice (some ⟨bD, 0, none⟩) n n) rfl ?_
      refine wN_len (m := n) rfl ?_
      refine wN_mov (v := .slice sa n cap) rfl ?_
      refine wN_len (m := n) rfl ?_
      refine wN_c_neq (a := (n : Int)) (b := (n : Int)) rfl rfl ?_
      refine wN_end ?_
      refine And.intro (fun q2 => ?_) (fun q2 => ?_)
      · have q2 : (n : Int) ≠ (n : Int) := by simpa using q2
        exfalso; omega
      · have q2 : ¬ ((n : Int) ≠ (n : Int)) := by simpa using q2
        first | refine wN_skip ?_ | skip
        refine wN_seq ?_
        refine wN_mov (v := .bool false) rfl ?_
        refine wN_end ?_
        refine wN_seq ?_
        refine wN_mov (v := .slice (some ⟨bD, 0, none⟩) n n) rfl ?_
        refine wN_len (m := n) rfl ?_
        refine wN_mov (v := iv 0) rfl ?_
        refine wN_end ?_
        obtain ⟨h1, h2, h3, h4⟩ := frzE_0 zD
        have hF := FzOk.of h2
        refine loop_low (fn := Try.f12) E12_1 N12 L12x1 (fun i : Nat => [(0, .slice sa n cap), (1, iv R), (5, .slice (some ⟨bD, 0, none⟩) n n), (7, .bool (lateU us R i)), (41, .slice (some ⟨bD, 0, none⟩) n n), (42, iv (n : Int)), (43, iv (i : Int))])
          (fun d i H' => i + d = n ∧ Keep H H' [] ∧ Sl H' sa n cap (fzc us) ∧ Cl H' bD (nf (DN us R) n)) n 0 ⟨by omega, hk, hs, cD⟩ ⟨rfl, rfl, rfl, rfl, rfl, rfl, rfl, trivial⟩ ?_
        rintro d i L1 ⟨hid, hk, hs, cD⟩
        have mki := hk.1
        have fs := hs.old
        refine wN_seq ?_
        refine wN_c_lss (a := (i : Int)) (b := (n : Int)) rfl rfl ?_
        refine wN_end ?_
        refine And.intro (fun q3 => ?_) (fun q3 => ?_)
        · have q3 : (i : Int) < (n : Int) := of_decide_eq_true q3
          have hi : i < n := by omega
          obtain ⟨y1, y2, y3⟩ := hF.says (R := R) (by omega) (show i < us.length by omega)
          have hM := (hF.m i (by omega))
          rcases id hs with ⟨_, h0, _⟩ | ⟨sb, es, rs, _⟩
          · omega
          have lsb := rs.lt
          first | refine wN_skip ?_ | skip
          refine wN_seq ?_
          refine wN_mov (v := iv (i : Int)) rfl ?_
          refine wN_idx (b := bD) (o := 0) (k := i) (j := (i : Int)) rfl rfl rfl hi ?_
          refine wN_ld (b := bD) (o := 0 + i * 1) (v := iv (DN us R i)) rfl cD.rd (nf_at (f := DN us R) (by omega)) ?_
          refine wN_mov (v := iv (i : Int)) rfl ?_
          refine wN_mov (v := iv (DN us R i)) rfl ?_
          refine wN_end ?_
          refine wN_seq ?_
          refine wN_mov (v := iv (DN us R i)) rfl ?_
          refine wN_mov (v := .slice sa n cap) rfl ?_
          refine wN_mov (v := iv (i : Int)) rfl ?_
          refine wN_idx (b := sb) (o := 0) (k := i) (j := (i : Int)) (by rw [← es]; rfl) rfl rfl (by omega) ?_
          refine wN_addo (b := sb) (o := 0 + i * 3) rfl ?_
          refine wN_ld (b := sb) (o := 0 + i * 3) (v := iv (rdF us i)) rfl rs (by have q := fzc_atF (us := us) (i := i) (j := 0) (by omega) rfl; exact q) ?_
          refine wN_b_lss (a := (DN us R i)) (b := (rdF us i)) rfl rfl ?_
          intro t4 g4; cases t4
          · have g4 : ¬ ((DN us R i) < (rdF us i)) := of_decide_eq_false g4
            refine wN_mov (v := .bool false) rfl ?_
            refine wN_g rfl (wN_mov (v := .slice sa n cap) rfl ?_)
            refine wN_g rfl (wN_mov (v := iv (i : Int)) rfl ?_)
            refine wN_g rfl (wN_idx (b := sb) (o := 0) (k := i) (j := (i : Int)) (by rw [← es]; rfl) rfl rfl (by omega) ?_)
            refine wN_g rfl (wN_addo (b := sb) (o := 0 + i * 3) rfl ?_)
            refine wN_g rfl (wN_ld (b := sb) (o := 0 + i * 3 + 2) (v := iv (msF us i)) rfl rs (by have q := fzc_atF (us := us) (i := i) (j := 2) (by omega) rfl; exact q) ?_)
            refine wN_g rfl (wN_b_gtr (a := (msF us i)) (b := 0) rfl rfl ?_)
            intro t5 g5; cases t5
            · have g5 : ¬ ((msF us i) > 0) := of_decide_eq_false g5
              refine wN_g rfl (wN_mov (v := .bool false) rfl ?_)
              refine wN_gs rfl ?_
              refine wN_gs rfl ?_
              refine wN_gs rfl ?_
              refine wN_gs rfl ?_
              refine wN_gs rfl ?_
              refine wN_gs rfl ?_
              refine wN_gs rfl ?_
              refine wN_g rfl (wN_pur (v := .bool false) rfl rfl ?_)
              refine wN_pur (v := .bool false) rfl rfl ?_
              refine wN_mov (v := .bool false) rfl ?_
              refine wN_g rfl (wN_mov (v := iv (DN us R i)) rfl ?_)
              refine wN_g rfl (wN_b_gtr (a := (DN us R i)) (b := 501) rfl rfl ?_)
              intro t6 g6; cases t6
              · have g6 : ¬ ((DN us R i) > 501) := of_decide_eq_false g6
                refine wN_pur (v := .bool false) rfl rfl ?_
                refine wN_end ?_
                refine condF ?_
                first | refine wN_skip ?_ | skip
                first | refine wN_reg ?_ | refine wN_blk ?_ | refine wN_bseq ?_ | (refine wOps_nil ?_; refine wN_reg ?_)
                refine wN_mov (v := .bool (lateU us R i)) rfl ?_
                cases hb : lateU us R i
                · refine wN_mov (v := .bool false) rfl ?_
                  refine wN_g rfl (wN_mov (v := iv (DN us R i)) rfl ?_)
                  refine wN_g rfl (wN_mov (v := .slice sa n cap) rfl ?_)
                  refine wN_g rfl (wN_mov (v := iv (i : Int)) rfl ?_)
                  refine wN_g rfl (wN_idx (b := sb) (o := 0) (k := i) (j := (i : Int)) (by rw [← es]; rfl) rfl rfl (by omega) ?_)
                  refine wN_g rfl (wN_addo (b := sb) (o := 0 + i * 3) rfl ?_)
                  refine wN_g rfl (wN_ld (b := sb) (o := 0 + i * 3 + 1) (v := iv (duF us i)) rfl rs (by have q := fzc_atF (us := us) (i := i) (j := 1) (by omega) rfl; exact q) ?_)
                  refine wN_g rfl (wN_b_gtr (a := (DN us R i)) (b := (duF us i)) rfl rfl ?_)
                  intro t7 g7; cases t7
                  · have g7 : ¬ ((DN us R i) > (duF us i)) := of_decide_eq_false g7
                    refine wN_pur (v := .bool false) rfl rfl ?_
                    refine wN_mov (v := .bool false) rfl ?_
                    refine wN_end ?_
                    first | refine wN_reg ?_ | refine wN_blk ?_ | refine wN_bseq ?_ | (refine wOps_nil ?_; refine wN_reg ?_)
                    refine wN_add (a := (i : Int)) (b := 1) rfl rfl ⟨by omega, by omega⟩ ?_
                    refine wN_mov (v := iv ((i : Int) + 1)) rfl ?_
                    refine wN_end ?_
                    exact ⟨d - 1, i + 1, by omega, ⟨by omega, hk, hs, cD⟩, rfl, rfl, rfl, by rw [show lateU us R (i + 1) = false from by rw [lateU_succ, hb]; simp; omega]; rfl, rfl, rfl, rfl, trivial⟩
                  · have g7 : (DN us R i) > (duF us i) := of_decide_eq_true g7
                    refine wN_pur (v := .bool true) rfl rfl ?_
                    refine wN_mov (v := .bool true) rfl ?_
                    refine wN_end ?_
                    first | refine wN_reg ?_ | refine wN_blk ?_ | refine wN_bseq ?_ | (refine wOps_nil ?_; refine wN_reg ?_)
                    refine wN_add (a := (i : Int)) (b := 1) rfl rfl ⟨by omega, by omega⟩ ?_
                    refine wN_mov (v := iv ((i : Int) + 1)) rfl ?_
                    refine wN_end ?_
                    exact ⟨d - 1, i + 1, by omega, ⟨by omega, hk, hs, cD⟩, rfl, rfl, rfl, by rw [show lateU us R (i + 1) = true from by rw [lateU_succ, hb]; simp; omega]; rfl, rfl, rfl, rfl, trivial⟩
                · refine wN_mov (v := .bool true) rfl ?_
                  refine wN_gs rfl ?_
                  refine wN_gs rfl ?_
                  refine wN_gs rfl ?_
                  refine wN_gs rfl ?_
                  refine wN_gs rfl ?_
                  refine wN_gs rfl ?_
                  refine wN_gs rfl ?_
                  refine wN_pur (v := .bool true) rfl rfl ?_
                  refine wN_mov (v := .bool true) rfl ?_
                  refine wN_end ?_
                  first | refine wN_reg ?_ | refine wN_blk ?_ | refine wN_bseq ?_ | (refine wOps_nil ?_; refine wN_reg ?_)
                  refine wN_add (a := (i : Int)) (b := 1) rfl rfl ⟨by omega, by omega⟩ ?_
                  refine wN_mov (v := iv ((i : Int) + 1)) rfl ?_
                  refine wN_end ?_
                  exact ⟨d - 1, i + 1, by omega, ⟨by omega, hk, hs, cD⟩, rfl, rfl, rfl, by rw [show lateU us R (i + 1) = true from by rw [lateU_succ, hb]; rfl]; rfl, rfl, rfl, rfl, trivial⟩
              · have g6 : (DN us R i) > 501 := of_decide_eq_true g6
                exfalso; omega
            · have g5 : (msF us i) > 0 := of_decide_eq_true g5
              refine wN_g rfl (wN_mov (v := .bool true) rfl ?_)
              refine wN_g rfl (wN_mov (v := iv (DN us R i)) rfl ?_)
              refine wN_g rfl (wN_mov (v := .slice sa n cap) rfl ?_)
              refine wN_g rfl (wN_mov (v := iv (i : Int)) rfl ?_)
              refine wN_g rfl (wN_idx (b := sb) (o := 0) (k := i) (j := (i : Int)) (by rw [← es]; rfl) rfl rfl (by omega) ?_)
              refine wN_g rfl (wN_addo (b := sb) (o := 0 + i * 3) rfl ?_)
              refine wN_g rfl (wN_ld (b := sb) (o := 0 + i * 3) (v := iv (rdF us i)) rfl rs (by have q := fzc_atF (us := us) (i := i) (j := 0) (by omega) rfl; exact q) ?_)
              refine wN_g rfl (wN_b_leq (a := (DN us R i)) (b := (rdF us i)) rfl rfl ?_)
              intro t8 g8; cases t8
              · have g8 : ¬ ((DN us R i) ≤ (rdF us i)) := of_decide_eq_false g8
                refine wN_g rfl (wN_pur (v := .bool false) rfl rfl ?_)
                refine wN_pur (v := .bool false) rfl rfl ?_
                refine wN_mov (v := .bool false) rfl ?_
                refine wN_g rfl (wN_mov (v := iv (DN us R i)) rfl ?_)
                refine wN_g rfl (wN_b_gtr (a := (DN us R i)) (b := 501) rfl rfl ?_)
                intro t9 g9; cases t9
                · have g9 : ¬ ((DN us R i) > 501) := of_decide_eq_false g9
                  refine wN_pur (v := .bool false) rfl rfl ?_
                  refine wN_end ?_
                  refine condF ?_
                  first | refine wN_skip ?_ | skip
                  first | refine wN_reg ?_ | refine wN_blk ?_ | refine wN_bseq ?_ | (refine wOps_nil ?_; refine wN_reg ?_)
                  refine wN_mov (v := .bool (lateU us R i)) rfl ?_
                  cases hb : lateU us R i
                  · refine wN_mov (v := .bool false) rfl ?_
                    refine wN_g rfl (wN_mov (v := iv (DN us R i)) rfl ?_)
                    refine wN_g rfl (wN_mov (v := .slice sa n cap) rfl ?_)
                    refine wN_g rfl (wN_mov (v := iv (i : Int)) rfl ?_)
                    refine wN_g rfl (wN_idx (b := sb) (o := 0) (k := i) (j := (i : Int)) (by rw [← es]; rfl) rfl rfl (by omega) ?_)
                    refine wN_g rfl (wN_addo (b := sb) (o := 0 + i * 3) rfl ?_)
                    refine wN_g rfl (wN_ld (b := sb) (o := 0 + i * 3 + 1) (v := iv (duF us i)) rfl rs (by have q := fzc_atF (us := us) (i := i) (j := 1) (by omega) rfl; exact q) ?_)
                    refine wN_g rfl (wN_b_gtr (a := (DN us R i)) (b := (duF us i)) rfl rfl ?_)
                    intro t10 g10; cases t10
                    · have g10 : ¬ ((DN us R i) > (duF us i)) := of_decide_eq_false g10
                      refine wN_pur (v := .bool false) rfl rfl ?_
                      refine wN_mov (v := .bool false) rfl ?_
                      refine wN_end ?_
                      first | refine wN_reg ?_ | refine wN_blk ?_ | refine wN_bseq ?_ | (refine wOps_nil ?_; refine wN_reg ?_)
                      refine wN_add (a := (i : Int)) (b := 1) rfl rfl ⟨by omega, by omega⟩ ?_
                      refine wN_mov (v := iv ((i : Int) + 1)) rfl ?_
                      refine wN_end ?_
                      exact ⟨d - 1, i + 1, by omega, ⟨by omega, hk, hs, cD⟩, rfl, rfl, rfl, by rw [show lateU us R (i + 1) = false from by rw [lateU_succ, hb]; simp; omega]; rfl, rfl, rfl, rfl, trivial⟩
                    · have g10 : (DN us R i) > (duF us i) := of_decide_eq_true g10
                      refine wN_pur (v := .bool true) rfl rfl ?_
                      refine wN_mov (v := .bool true) rfl ?_
                      refine wN_end ?_
                      first | refine wN_reg ?_ | refine wN_blk ?_ | refine wN_bseq ?_ | (refine wOps_nil ?_; refine wN_reg ?_)
                      refine wN_add (a := (i : Int)) (b := 1) rfl rfl ⟨by omega, by omega⟩ ?_
                      refine wN_mov (v := iv ((i : Int) + 1)) rfl ?_
                      refine wN_end ?_
                      exact ⟨d - 1, i + 1, by omega, ⟨by omega, hk, hs, cD⟩, rfl, rfl, rfl, by rw [show lateU us R (i + 1) = true from by rw [lateU_succ, hb]; simp; omega]; rfl, rfl, rfl, rfl, trivial⟩
                  · refine wN_mov (v := .bool true) rfl ?_
                    refine wN_gs rfl ?_
                    refine wN_gs rfl ?_
                    refine wN_gs rfl ?_
                    refine wN_gs rfl ?_
                    refine wN_gs rfl ?_
                    refine wN_gs rfl ?_
                    refine wN_gs rfl ?_
                    refine wN_pur (v := .bool true) rfl rfl ?_
                    refine wN_mov (v := .bool true) rfl ?_
                    refine wN_end ?_
                    first | refine wN_reg ?_ | refine wN_blk ?_ | refine wN_bseq ?_ | (refine wOps_nil ?_; refine wN_reg ?_)
                    refine wN_add (a := (i : Int)) (b := 1) rfl rfl ⟨by omega, by omega⟩ ?_
                    refine wN_mov (v := iv ((i : Int) + 1)) rfl ?_
                    refine wN_end ?_
                    exact ⟨d - 1, i + 1, by omega, ⟨by omega, hk, hs, cD⟩, rfl, rfl, rfl, by rw [show lateU us R (i + 1) = true from by rw [lateU_succ, hb]; rfl]; rfl, rfl, rfl, rfl, trivial⟩
                · have g9 : (DN us R i) > 501 := of_decide_eq_true g9
                  exfalso; omega
              · have g8 : (DN us R i) ≤ (rdF us i) := of_decide_eq_true g8
                exfalso; omega
          · have g4 : (DN us R i) < (rdF us i) := of_decide_eq_true g4
            exfalso; omega
        · have q3 : ¬ ((i : Int) < (n : Int)) := of_decide_eq_false q3
          have e : n = i := by omega
          subst e
          first | (refine wN_exit ?_; show wC _ _ _ _ _ _ _ _ _) | skip
          refine wN_seq ?_
          refine wN_mov (v := .bool false) rfl ?_
          refine wN_end ?_
          refine wN_seq ?_
          refine wN_mov (v := .slice sa n cap) rfl ?_
          refine wN_len (m := n) rfl ?_
          refine wN_mov (v := iv 0) rfl ?_
          refine wN_end ?_
          refine loop_low (fn := Try.f12) E12_2 N12 L12x2 (fun i : Nat => [(0, .slice sa n cap), (1, iv R), (7, .bool (lateU us R n)), (10, .bool (mI us R i)), (87, .slice sa n cap), (88, iv (n : Int)), (89, iv (i : Int))])
            (fun d i H' => i + d = n ∧ Keep H H' [] ∧ Sl H' sa n cap (fzc us)) n 0 ⟨by omega, hk, hs⟩ ⟨rfl, rfl, rfl, rfl, rfl, rfl, rfl, trivial⟩ ?_
          rintro d i L2 ⟨hid, hk, hs⟩
          have mki := hk.1
          have fs := hs.old
          refine wN_seq ?_
          refine wN_c_lss (a := (i : Int)) (b := (n : Int)) rfl rfl ?_
          refine wN_end ?_
          refine And.intro (fun q11 => ?_) (fun q11 => ?_)
          · have q11 : (i : Int) < (n : Int) := of_decide_eq_true q11
            have hi : i < n := by omega
            rcases id hs with ⟨_, h0, _⟩ | ⟨sb, es, rs, _⟩
            · omega
            have lsb := rs.lt
            first | refine wN_skip ?_ | skip
            refine wN_seq ?_
            refine wN_idx (b := sb) (o := 0) (k := i) (j := (i : Int)) (by rw [← es]; rfl) rfl rfl (by omega) ?_
            refine wN_lda (b := sb) (o := 0 + i * 3) rfl rs (fzc_rowF (by omega)) ?_
            refine wN_alc ?_
            intro H2 kH2 nH2 c2
            have c2 : Cl H2 L2.next [iv 0, iv 0, iv 0] := c2
            have mH2 := kH2.1
            have hk := hk.trans kH2
            have hs := kH2.sl0 hs
            have rs := kH2.rd rs (by simp)
            refine wN_sta (b := L2.next) (o := 0) rfl rfl c2 (by omega) rfl rfl (by simp) ?_
            intro H3 kH3 nH3 sH3
            have mH3 := kH3.1
            have hk := hk.new kH3 (fun b hb => by simp at hb ⊢; omega)
            have hs := kH3.sl hs (fun b e => by have := fs b e; first | (simp; done) | (simp; omega))
            have rs := kH3.rd rs (by first | (simp; done) | (simp; omega))
            have c2 : Cl H3 L2.next [iv (rdF us i), iv (duF us i), iv (msF us i)] := sH3
            refine wN_end ?_
            refine wN_seq ?_
            refine wN_mov (v := .slice sa n cap) rfl ?_
            refine wN_len (m := n) rfl ?_
            refine wN_mov (v := iv 0) rfl ?_
            refine wN_end ?_
            refine loop_low (fn := Try.f12) E12_3 N12 L12x3 (fun j : Nat => [(0, .slice sa n cap), (1, iv R), (7, .bool (lateU us R n)), (10, .bool (mI us R i || mJ us R i j)), (12, pt L2.next), (87, .slice sa n cap), (88, iv (n : Int)), (89, iv (i : Int)), (93, .slice sa n cap), (94, iv (n : Int)), (95, iv (j : Int))])
              (fun e j H' => j + e = n ∧ Keep H H' [] ∧ H3.next ≤ H'.next ∧ Sl H' sa n cap (fzc us) ∧ Rd H' sb (fzc us) ∧ Cl H' L2.next [iv (rdF us i), iv (duF us i), iv (msF us i)]) n 0 ⟨by omega, hk, Nat.le_refl _, hs, rs, c2⟩ ⟨rfl, rfl, rfl, (by rw [show mJ us R i 0 = false from rfl, Bool.or_false]; rfl), rfl, rfl, rfl, rfl, rfl, rfl, rfl, trivial⟩ ?_
            rintro e j L3 ⟨hje, hk, hnx, hs, rs, c12⟩
            have mkj := hk.1
            have fs := hs.old
            refine wN_seq ?_
            refine wN_c_lss (a := (j : Int)) (b := (n : Int)) rfl rfl ?_
            refine wN_end ?_
            refine And.intro (fun q12 => ?_) (fun q12 => ?_)
            · have q12 : (j : Int) < (n : Int) := of_decide_eq_true q12
              have hj : j < n := by omega
              first | refine wN_skip ?_ | skip
              refine wN_seq ?_
              refine wN_idx (b := sb) (o := 0) (k := j) (j := (j : Int)) (by rw [← es]; rfl) rfl rfl (by omega) ?_
              refine wN_lda (b := sb) (o := 0 + j * 3) rfl rs (fzc_rowF (by omega)) ?_
              refine wN_alc ?_
              intro H4 kH4 nH4 c4
              have c4 : Cl H4 L3.next [iv 0, iv 0, iv 0] := c4
              have mH4 := kH4.1
              have hk := hk.trans kH4
              have hs := kH4.sl0 hs
              have rs := kH4.rd rs (by simp)
              have c12 := kH4.cl c12 (by simp)
              refine wN_sta (b := L3.next) (o := 0) rfl rfl c4 (by omega) rfl rfl (by simp) ?_
              intro H5 kH5 nH5 sH5
              have mH5 := kH5.1
              have hk := hk.new kH5 (fun b hb => by simp at hb ⊢; omega)
              have hs := kH5.sl hs (fun b e => by have := fs b e; first | (simp; done) | (simp; omega))
              have rs := kH5.rd rs (by first | (simp; done) | (simp; omega))
              have c12 := kH5.cl c12 (by first | (simp; done) | (simp; omega))
              have c4 : Cl H5 L3.next [iv (rdF us j), iv (duF us j), iv (msF us j)] := sH5
              refine wN_end ?_
              refine wN_seq ?_
              refine wN_mov (v := iv 0) rfl ?_
              refine wN_end ?_
              refine wN_seq ?_
              refine wN_mov (v := .slice sa n cap) rfl ?_
              refine wN_len (m := n) rfl ?_
              refine wN_mov (v := iv 0) rfl ?_
              refine wN_end ?_
              refine loop_low (fn := Try.f12) E12_4 N12 L12x4 (fun q : Nat => [(0, .slice sa n cap), (1, iv R), (7, .bool (lateU us R n)), (10, .bool (mI us R i || mJ us R i j)), (12, pt L2.next), (14, pt L3.next), (15, iv (BT us i j q)), (87, .slice sa n cap), (88, iv (n : Int)), (89, iv (i : Int)), (93, .slice sa n cap), (94, iv (n : Int)), (95, iv (j : Int)), (99, .slice sa n cap), (100, iv (n : Int)), (101, iv (q : Int))])
                (fun g q H' => q + g = n ∧ Keep H H' [] ∧ H5.next ≤ H'.next ∧ Sl H' sa n cap (fzc us) ∧ Rd H' sb (fzc us) ∧ Cl H' L2.next [iv (rdF us i), iv (duF us i), iv (msF us i)] ∧ Cl H' L3.next [iv (rdF us j), iv (duF us j), iv (msF us j)]) n 0 ⟨by omega, hk, Nat.le_refl _, hs, rs, c12, c4⟩ ⟨rfl, rfl, rfl, rfl, rfl, rfl, rfl, rfl, rfl, rfl, rfl, rfl, rfl, rfl, rfl, rfl, trivial⟩ ?_
              rintro g q L4 ⟨hqg, hk, hnx4, hs, rs, c12, c14⟩
              have mkq := hk.1
              have fs := hs.old
              obtain ⟨bt0, bt1⟩ := bt_in hF (by omega) i j q (by omega)
              refine wN_seq ?_
              refine wN_c_lss (a := (q : Int)) (b := (n : Int)) rfl rfl ?_
              refine wN_end ?_
              refine And.intro (fun q13 => ?_) (fun q13 => ?_)
              · have q13 : (q : Int) < (n : Int) := of_decide_eq_true q13
                have hq : q < n := by omega
                have hMq := hF.m q (by omega)
                first | refine wN_skip ?_ | skip
                refine wN_seq ?_
                refine wN_idx (b := sb) (o := 0) (k := q) (j := (q : Int)) (by rw [← es]; rfl) rfl rfl (by omega) ?_
                refine wN_lda (b := sb) (o := 0 + q * 3) rfl rs (fzc_rowF (by omega)) ?_
                refine wN_alc ?_
                intro H6 kH6 nH6 c6
                have c6 : Cl H6 L4.next [iv 0, iv 0, iv 0] := c6
                have mH6 := kH6.1
                have hk := hk.trans kH6
                have hs := kH6.sl0 hs
                have rs := kH6.rd rs (by simp)
                have c12 := kH6.cl c12 (by simp)
                have c14 := kH6.cl c14 (by simp)
                refine wN_sta (b := L4.next) (o := 0) rfl rfl c6 (by omega) rfl rfl (by simp) ?_
                intro H7 kH7 nH7 sH7
                have mH7 := kH7.1
                have hk := hk.new kH7 (fun b hb => by simp at hb ⊢; omega)
                have hs := kH7.sl hs (fun b e => by have := fs b e; first | (simp; done) | (simp; omega))
                have rs := kH7.rd rs (by first | (simp; done) | (simp; omega))
                have c12 := kH7.cl c12 (by first | (simp; done) | (simp; omega))
                have c14 := kH7.cl c14 (by first | (simp; done) | (simp; omega))
                have c6 : Cl H7 L4.next [iv (rdF us q), iv (duF us q), iv (msF us q)] := sH7
                refine wN_end ?_
                refine wN_seq ?_
                refine wN_addo (b := L4.next) (o := 0) rfl ?_
                refine wN_ld (b := L4.next) (o := 0) (v := iv (rdF us q)) rfl c6.rd rfl ?_
                refine wN_addo (b := L2.next) (o := 0) rfl ?_
                refine wN_ld (b := L2.next) (o := 0) (v := iv (rdF us i)) rfl c12.rd rfl ?_
                refine wN_b_geq (a := (rdF us q)) (b := (rdF us i)) rfl rfl ?_
                intro t14 g14; cases t14
                · have g14 : ¬ ((rdF us q) ≥ (rdF us i)) := of_decide_eq_false g14
                  refine wN_mov (v := .bool false) rfl ?_
                  refine wN_gs rfl ?_
                  refine wN_gs rfl ?_
                  refine wN_gs rfl ?_
                  refine wN_gs rfl ?_
                  refine wN_gs rfl ?_
                  refine wN_pur (v := .bool false) rfl rfl ?_
                  refine wN_end ?_
                  refine condF ?_
                  first | refine wN_skip ?_ | skip
                  first | refine wN_reg ?_ | refine wN_blk ?_ | refine wN_bseq ?_ | (refine wOps_nil ?_; refine wN_reg ?_)
                  refine wN_add (a := (q : Int)) (b := 1) rfl rfl ⟨by omega, by omega⟩ ?_
                  refine wN_mov (v := iv ((q : Int) + 1)) rfl ?_
                  refine wN_end ?_
                  exact ⟨g - 1, q + 1, by omega, ⟨by omega, hk, by omega, hs, rs, c12, c14⟩, rfl, rfl, rfl, rfl, rfl, rfl, by rw [BT_no (by omega)]; rfl, rfl, rfl, rfl, rfl, rfl, rfl, rfl, rfl, rfl, trivial⟩
                · have g14 : (rdF us q) ≥ (rdF us i) := of_decide_eq_true g14
                  refine wN_mov (v := .bool true) rfl ?_
                  refine wN_g rfl (wN_addo (b := L4.next) (o := 0) rfl ?_)
                  refine wN_g rfl (wN_ld (b := L4.next) (o := 1) (v := iv (duF us q)) rfl c6.rd rfl ?_)
                  refine wN_g rfl (wN_addo (b := L3.next) (o := 0) rfl ?_)
                  refine wN_g rfl (wN_ld (b := L3.next) (o := 1) (v := iv (duF us j)) rfl c14.rd rfl ?_)
                  refine wN_g rfl (wN_b_leq (a := (duF us q)) (b := (duF us j)) rfl rfl ?_)
                  intro t15 g15; cases t15
                  · have g15 : ¬ ((duF us q) ≤ (duF us j)) := of_decide_eq_false g15
                    refine wN_pur (v := .bool false) rfl rfl ?_
                    refine wN_end ?_
                    refine condF ?_
                    first | refine wN_skip ?_ | skip
                    first | refine wN_reg ?_ | refine wN_blk ?_ | refine wN_bseq ?_ | (refine wOps_nil ?_; refine wN_reg ?_)
                    refine wN_add (a := (q : Int)) (b := 1) rfl rfl ⟨by omega, by omega⟩ ?_
                    refine wN_mov (v := iv ((q : Int) + 1)) rfl ?_
                    refine wN_end ?_
                    exact ⟨g - 1, q + 1, by omega, ⟨by omega, hk, by omega, hs, rs, c12, c14⟩, rfl, rfl, rfl, rfl, rfl, rfl, by rw [BT_no (by omega)]; rfl, rfl, rfl, rfl, rfl, rfl, rfl, rfl, rfl, rfl, trivial⟩
                  · have g15 : (duF us q) ≤ (duF us j) := of_decide_eq_true g15
                    refine wN_pur (v := .bool true) rfl rfl ?_
                    refine wN_end ?_
                    refine condT ?_
                    first | refine wN_reg ?_ | refine wN_blk ?_ | refine wN_bseq ?_ | (refine wOps_nil ?_; refine wN_reg ?_)
                    refine wN_mov (v := iv (BT us i j q)) rfl ?_
                    refine wN_addo (b := L4.next) (o := 0) rfl ?_
                    refine wN_ld (b := L4.next) (o := 2) (v := iv (msF us q)) rfl c6.rd rfl ?_
                    refine wN_add (a := (BT us i j q)) (b := (msF us q)) rfl rfl ⟨by omega, by omega⟩ ?_
                    refine wN_mov (v := iv ((BT us i j q) + (msF us q))) rfl ?_
                    refine wN_end ?_
                    first | refine wN_reg ?_ | refine wN_blk ?_ | refine wN_bseq ?_ | (refine wOps_nil ?_; refine wN_reg ?_)
                    refine wN_add (a := (q : Int)) (b := 1) rfl rfl ⟨by omega, by omega⟩ ?_
                    refine wN_mov (v := iv ((q : Int) + 1)) rfl ?_
                    refine wN_end ?_
                    exact ⟨g - 1, q + 1, by omega, ⟨by omega, hk, by omega, hs, rs, c12, c14⟩, rfl, rfl, rfl, rfl, rfl, rfl, by rw [BT_yes (by omega)]; rfl, rfl, rfl, rfl, rfl, rfl, rfl, rfl, rfl, rfl, trivial⟩
              · have q13 : ¬ ((q : Int) < (n : Int)) := of_decide_eq_false q13
                have e : q = us.length := by omega
                subst e
                have a_i := hF.a i (by omega)
                have a_j := hF.a j (by omega)
                have d_i := hF.d i (by omega)
                have d_j := hF.d j (by omega)
                have hmr := mul_room hF (R := R) ⟨by omega, h4⟩ (show i < us.length by omega) (show j < us.length by omega)
                first | (refine wN_exit ?_; show wC _ _ _ _ _ _ _ _ _) | skip
                first | refine wN_reg ?_ | refine wN_blk ?_ | refine wN_bseq ?_ | (refine wOps_nil ?_; refine wN_reg ?_)
                refine wN_mov (v := .bool (mI us R i || mJ us R i j)) rfl ?_
                cases hb : mI us R i || mJ us R i j
                · refine wN_mov (v := .bool false) rfl ?_
                  refine wN_g rfl (wN_mov (v := iv (BT us i j us.length)) rfl ?_)
                  refine wN_g rfl (wN_mov (v := iv R) rfl ?_)
                  refine wN_g rfl (wN_addo (b := L3.next) (o := 0) rfl ?_)
                  refine wN_g rfl (wN_ld (b := L3.next) (o := 1) (v := iv (duF us j)) rfl c14.rd rfl ?_)
                  refine wN_g rfl (wN_addo (b := L2.next) (o := 0) rfl ?_)
                  refine wN_g rfl (wN_ld (b := L2.next) (o := 0) (v := iv (rdF us i)) rfl c12.rd rfl ?_)
                  refine wN_g rfl (wN_sub (a := (duF us j)) (b := (rdF us i)) rfl rfl ⟨by omega, by omega⟩ ?_)
                  refine wN_g rfl (wN_mm (a := 0) (b := (duF us j) - (rdF us i)) rfl rfl ?_)
                  refine wN_g rfl (wN_mul (a := R) (b := max 0 ((duF us j) - (rdF us i))) rfl rfl hmr ?_)
                  refine wN_g rfl (wN_b_gtr (a := (BT us i j us.length)) (b := R * (max 0 ((duF us j) - (rdF us i)))) rfl rfl ?_)
                  intro t16 g16; cases t16
                  · have g16 : ¬ ((BT us i j us.length) > (R * (max 0 ((duF us j) - (rdF us i))))) := of_decide_eq_false g16
                    refine wN_pur (v := .bool false) rfl rfl ?_
                    refine wN_mov (v := .bool false) rfl ?_
                    refine wN_end ?_
                    first | refine wN_reg ?_ | refine wN_blk ?_ | refine wN_bseq ?_ | (refine wOps_nil ?_; refine wN_reg ?_)
                    refine wN_add (a := (j : Int)) (b := 1) rfl rfl ⟨by omega, by omega⟩ ?_
                    refine wN_mov (v := iv ((j : Int) + 1)) rfl ?_
                    refine wN_end ?_
                    exact ⟨e - 1, j + 1, by omega, ⟨by omega, hk, by omega, hs, rs, c12⟩, rfl, rfl, rfl, by rw [show (mI us R i || mJ us R i (j + 1)) = false from by rw [mJ_succ, ← Bool.or_assoc, hb, Bool.false_or]; exact decide_eq_false (by omega)]; rfl, rfl, rfl, rfl, rfl, rfl, rfl, rfl, trivial⟩
                  · have g16 : (BT us i j us.length) > (R * (max 0 ((duF us j) - (rdF us i)))) := of_decide_eq_true g16
                    refine wN_pur (v := .bool true) rfl rfl ?_
                    refine wN_mov (v := .bool true) rfl ?_
                    refine wN_end ?_
                    first | refine wN_reg ?_ | refine wN_blk ?_ | refine wN_bseq ?_ | (refine wOps_nil ?_; refine wN_reg ?_)
                    refine wN_add (a := (j : Int)) (b := 1) rfl rfl ⟨by omega, by omega⟩ ?_
                    refine wN_mov (v := iv ((j : Int) + 1)) rfl ?_
                    refine wN_end ?_
                    exact ⟨e - 1, j + 1, by omega, ⟨by omega, hk, by omega, hs, rs, c12⟩, rfl, rfl, rfl, by rw [show (mI us R i || mJ us R i (j + 1)) = true from by rw [mJ_succ, ← Bool.or_assoc, hb, Bool.false_or]; exact decide_eq_true (by omega)]; rfl, rfl, rfl, rfl, rfl, rfl, rfl, rfl, trivial⟩
                · refine wN_mov (v := .bool true) rfl ?_
                  refine wN_gs rfl ?_
                  refine wN_gs rfl ?_
                  refine wN_gs rfl ?_
                  refine wN_gs rfl ?_
                  refine wN_gs rfl ?_
                  refine wN_gs rfl ?_
                  refine wN_gs rfl ?_
                  refine wN_gs rfl ?_
                  refine wN_gs rfl ?_
                  refine wN_gs rfl ?_
                  refine wN_pur (v := .bool true) rfl rfl ?_
                  refine wN_mov (v := .bool true) rfl ?_
                  refine wN_end ?_
                  first | refine wN_reg ?_ | refine wN_blk ?_ | refine wN_bseq ?_ | (refine wOps_nil ?_; refine wN_reg ?_)
                  refine wN_add (a := (j : Int)) (b := 1) rfl rfl ⟨by omega, by omega⟩ ?_
                  refine wN_mov (v := iv ((j : Int) + 1)) rfl ?_
                  refine wN_end ?_
                  exact ⟨e - 1, j + 1, by omega, ⟨by omega, hk, by omega, hs, rs, c12⟩, rfl, rfl, rfl, by rw [show (mI us R i || mJ us R i (j + 1)) = true from by rw [mJ_succ, ← Bool.or_assoc, hb]; rfl]; rfl, rfl, rfl, rfl, rfl, rfl, rfl, rfl, trivial⟩
            · have q12 : ¬ ((j : Int) < (n : Int)) := of_decide_eq_false q12
              have e : n = j := by omega
              subst e
              first | (refine wN_exit ?_; show wC _ _ _ _ _ _ _ _ _) | skip
              first | refine wN_reg ?_ | refine wN_blk ?_ | refine wN_bseq ?_ | (refine wOps_nil ?_; refine wN_reg ?_)
              refine wN_add (a := (i : Int)) (b := 1) rfl rfl ⟨by omega, by omega⟩ ?_
              refine wN_mov (v := iv ((i : Int) + 1)) rfl ?_
              refine wN_end ?_
              exact ⟨d - 1, i + 1, by omega, ⟨by omega, hk, hs⟩, rfl, rfl, rfl, by rw [mI_succ, hl]; rfl, rfl, rfl, rfl, trivial⟩
          · have q11 : ¬ ((i : Int) < (n : Int)) := of_decide_eq_false q11
            have e : n = i := by omega
            subst e
            have hE : mI us R n = lateU us R n := by have q := hF.late (R := R) (by omega); rw [hl] at q; exact q.symm
            first | (refine wN_exit ?_; show wC _ _ _ _ _ _ _ _ _) | skip
            refine wN_seq ?_
            refine wN_mov (v := .bool (lateU us R n)) rfl ?_
            refine wN_mov (v := .bool (mI us R n)) rfl ?_
            refine wN_pur (v := .bool true) rfl (eqlB (b := lateU us R n) rfl (by rw [← hE]; rfl)) ?_
            refine wN_mov (v := .bool true) rfl ?_
            refine wN_g rfl (wN_callf (vs := []) rfl (callX_known hkn) ?_)
            refine wN_pur (v := .bool true) rfl rfl ?_
            refine wN_mov (v := .bool true) rfl ?_
            refine wN_end ?_
            exact And.intro trivial (Exists.intro _ (And.intro rfl rfl))
    · obtain ⟨H1, fH1, kH1⟩ := frozen28_no (kn := kn) (lo := lo) (H := H) (R := R) hs hl (by omega) (by omega) zD
      refine wN_callf (vs := [.slice sa n cap, iv R]) rfl (callX_args fH1) ?_
      have mH1 := kH1.1
      have hk := hk.trans kH1
      have hs := kH1.sl0 hs
      refine wN_mov (v := .tuple #[.slice none 0 0, iv (frzE us R)]) rfl ?_
      refine wN_pur (v := .slice none 0 0) rfl (by kernel_rfl) ?_
      refine wN_pur (v := iv (frzE us R)) rfl (by kernel_rfl) ?_
      refine wN_mov (v := .slice none 0 0) rfl ?_
      refine wN_mov (v := iv (frzE us R)) rfl ?_
      refine wN_end ?_
      refine wN_seq ?_
      refine wN_mov (v := iv (frzE us R)) rfl ?_
      refine wN_c_neq (a := (frzE us R)) (b := 0) rfl rfl ?_
      refine wN_end ?_
      refine And.intro (fun q17 => ?_) (fun q17 => ?_)
      · have q17 : (frzE us R) ≠ 0 := by simpa using q17
        refine wN_seq ?_
        refine wN_mov (v := .slice none 0 0) rfl ?_
        refine wN_len (m := 0) rfl ?_
        refine wN_b_eql (a := 0) (b := 0) rfl rfl ?_
        intro t18 g18; obtain rfl : t18 = true := by rw [← g18]; rfl
        refine wN_mov (v := .bool true) rfl ?_
        refine wN_g rfl (wN_callf (vs := []) rfl (callX_known hkn) ?_)
        refine wN_pur (v := .bool true) rfl rfl ?_
        refine wN_mov (v := .bool true) rfl ?_
        refine wN_end ?_
        exact And.intro trivial (Exists.intro _ (And.intro rfl rfl))
      · have q17 : ¬ ((frzE us R) ≠ 0) := by simpa using q17
        exfalso; exact zD (by omega)
end
end Go.Ax

namespace Go.Ax
open Go Go.RowKit Go.Proofs Go.ChangeShapes Go.WideShapes Go.Deep

/-- A type whose cells are whole numbers. -/
def IntT (P : Program) (t : TypeId) : Prop := ∀ (H : Type) (enc : TypeId × Value → H) (w : World) (base : Nat) (spare : Nat → Bool) (held : Bool) (fuel : Nat) (cs : List Value) (x : DataW H × List MemPlace),
  DataW.trod enc P w base spare held fuel t cs = some x → cs.length = P.cellsOf t ∧ ∀ j, j < cs.length → ∃ n, cs[j]? = some (.int .i64 n)
theorem IntT.int {P : Program} {t : TypeId} (ht : P.underlying t = some (.int .i64)) (hc : P.cellsOf t = 1) : IntT P t := by
  intro H enc w base spare held fuel cs x h
  obtain ⟨n, rfl, _⟩ := DataW.trod_int ht h
  refine ⟨by rw [hc]; rfl, fun j hj => ⟨n, ?_⟩⟩
  have : j = 0 := by simp at hj; omega
  subst this; rfl
theorem IntT.struct {P : Program} {t : TypeId} {fs : Array Field} (ht : P.underlying t = some (.struct fs)) (hf : ∀ f ∈ fs.toList, IntT P f.type)
    (hcov : ((List.range (P.cellsOf t)).all fun j => fs.toList.any fun f => decide (f.offset ≤ j) && decide (j < f.offset + P.cellsOf f.type)) = true) : IntT P t := by
  intro H enc w base spare held fuel cs x h
  obtain ⟨xs, n, _, _, hlen, hxl, hg⟩ := DataW.trod_struct ht h
  refine ⟨hlen, fun j hj => ?_⟩
  have h1 := List.all_eq_true.1 hcov j (List.mem_range.2 (by omega))
  obtain ⟨f, hfm, h2⟩ := List.any_eq_true.1 h1
  simp only [Bool.and_eq_true, decide_eq_true_eq] at h2
  obtain ⟨i, hi, hfi⟩ := List.getElem_of_mem hfm
  have hfs : fs[i]? = some f := by
    rw [← Array.getElem?_toList, List.getElem?_eq_getElem hi, hfi]
  have hi2 : i < xs.length := by simpa [hxl] using hi
  have h3 := hg i f hfs
  rw [List.getElem?_eq_getElem hi2] at h3
  obtain ⟨h4, h5⟩ := hf f hfm _ _ _ _ _ _ _ _ _ h3
  obtain ⟨m, hm⟩ := h5 (j - f.offset) (by omega)
  refine ⟨m, ?_⟩
  rw [List.getElem?_take] at hm
  split at hm
  · rw [List.getElem?_drop, show f.offset + (j - f.offset) = j by omega] at hm; exact hm
  · cases hm

/-- A slice of rows of whole numbers, as it is given. -/
structure Given {α : Type} (w : World) (v : Value) (f : α → List Value) (l : List α) (x : Imp) : Prop where
  ok : ∀ (i : Nat) u, x.cs[i]? = some u → w.cell? ⟨x.blk, x.off + i, none⟩ = some u ∧ flat1 u = true
  cs : x.cs = l.flatMap f
  v : (v = .slice none 0 0 ∧ l = []) ∨ ∃ cap, v = .slice (some ⟨x.blk, x.off, none⟩) l.length cap ∧ l.length ≤ cap
theorem flat_get {α : Type} {f : α → List Value} {k : Nat} (hk : 0 < k) : ∀ {l : List α} (_ : ∀ x ∈ l, (f x).length = k) (i : Nat) (u : Value), (l.flatMap f)[i]? = some u → ∃ x, l[i / k]? = some x ∧ (f x)[i % k]? = some u
  | [], _, i, u, h => by simp at h
  | y :: r, hl, i, u, h => by
    have hy := hl y (List.mem_cons_self ..)
    rw [List.flatMap_cons, List.getElem?_append] at h
    split at h
    · rename_i q
      rw [hy] at q
      refine ⟨y, ?_, ?_⟩
      · rw [Nat.div_eq_of_lt q]; rfl
      · rw [Nat.mod_eq_of_lt q]; exact h
    · rename_i q
      rw [hy] at q h
      obtain ⟨x, h1, h2⟩ := flat_get hk (fun x hx => hl x (List.mem_cons_of_mem _ hx)) _ u h
      refine ⟨x, ?_, ?_⟩
      · rw [Nat.div_eq_sub_div hk (by omega)]; exact h1
      · rw [Nat.mod_eq_sub_mod (by omega)]; exact h2
theorem slice_given {H : Type} {enc : TypeId × Value → H} {P : Program} {w : World} {base b0 : Nat} {r : Reach} {held : Bool} {α : Type} (f : α → List Value) (mk : (Nat → Int) → α) (k : Nat) {t e : TypeId} {fuel : Nat} {v : Value} {x : DataW H × List MemPlace}
    (ht : P.underlying t = some (.slice e)) (hI : IntT P e) (hc : P.cellsOf e = k) (hk : 0 < k) (hmk : ∀ N : Nat → Int, f (mk N) = (List.range k).map fun j => Value.int .i64 (N j))
    (hok : Cell.okWide P w r b0 t v) (h : DataW.trod enc P w base (fun _ => true) held fuel t [v] = some x) : ∃ (l : List α) (y : Imp), Given w v f l y := by
  rcases open_slice ht h with ⟨h0, _⟩ | ⟨a, len, cap, m, n, D, Pl, hcs, hb, hl, hm, hmm, hx, hi⟩
  · cases h0
    exact ⟨[], ⟨0, 0, []⟩, fun i u e => by simp at e, rfl, .inl ⟨rfl, rfl⟩⟩
  · cases hcs
    obtain ⟨blk, off, spot⟩ := a
    have hs : spot = none := by
      unfold Cell.okWide at hok
      rw [ht] at hok
      unfold Cell.ok at hok
      simp only [ht] at hok
      exact hok.2.2.2.1
    subst hs
    simp only [if_true] at hmm
    subst hmm
    have hcell : ∀ i, i < len → ∀ j, j < k → ∃ n, w.cell? ⟨blk, off + (i * k + j), none⟩ = some (.int .i64 n) := by
      intro i hil j hj
      obtain ⟨cs', h1, h2⟩ := hi i (by omega)
      obtain ⟨h3, h4⟩ := hI _ _ _ _ _ _ _ _ _ h2
      obtain ⟨_, h5, h6⟩ := World.cells?_some h1
      obtain ⟨n, hn⟩ := h4 j (by omega)
      refine ⟨n, ?_⟩
      have h7 := h6 j (by omega)
      rw [hn, hc, add_add] at h7
      have e : (⟨blk, off, none⟩ : Addr).add (i * k + j) = ⟨blk, off + (i * k + j), none⟩ := by
        unfold Addr.add
        by_cases q : i * k + j = 0
        · simp [q]
        · simp
      rw [e] at h7
      exact h7
    refine ⟨(List.range len).map fun i => mk fun j => match w.cell? ⟨blk, off + (i * k + j), none⟩ with | some (.int _ n) => n | _ => 0, ⟨blk, off, _⟩, ?_, rfl, .inr ⟨m, by simp, by simpa using hl⟩⟩
    intro i u hu
    obtain ⟨y, h1, h2⟩ := flat_get hk (fun y hy => by
      obtain ⟨i, _, rfl⟩ := List.mem_map.1 hy
      rw [hmk]; simp) i u hu
    have hlt : i / k < len := by
      have := get_lt h1
      simpa using this
    rw [List.getElem?_map, List.getElem?_range hlt] at h1
    simp only [Option.map_some, Option.some.injEq] at h1
    subst h1
    have hj : i % k < k := Nat.mod_lt _ hk
    rw [hmk, List.getElem?_map, List.getElem?_range hj] at h2
    simp only [Option.map_some, Option.some.injEq] at h2
    obtain ⟨n, hn⟩ := hcell _ hlt _ hj
    rw [hn] at h2
    subst h2
    rw [Nat.div_add_mod' ] at hn
    exact ⟨hn, rfl⟩
theorem Given.rel {α : Type} {w : World} {v : Value} {f : α → List Value} {l : List α} {x : Imp} (g : Given w v f l x) {r : Ren} {H : Hp} {b : Nat} (hr : r b = some ⟨x.blk, x.off, none⟩) (hb : b < H.next) (hc : cellsOf H b = some x.cs) (hro : H.t.get b = some (.ro x.cs)) :
    ∃ a cap, VR r (.slice a l.length cap) v ∧ Sl H a l.length cap (l.flatMap f) ∧ ∀ b, a = some ⟨b, 0, none⟩ → H.t.get b = some (.ro (l.flatMap f)) := by
  rcases g.v with ⟨rfl, rfl⟩ | ⟨cap, rfl, hl⟩
  · exact ⟨none, 0, .nilSlice, .inl ⟨.inl rfl, rfl, rfl, rfl⟩, fun b e => by cases e⟩
  · refine ⟨some ⟨b, 0, none⟩, cap, ?_, .inr ⟨b, rfl, ⟨hb, by rw [hc, g.cs]⟩, hl⟩, fun b' e => by cases e; rw [hro, g.cs]⟩
    have := VR.slice (o := 0) (n := l.length) (c := cap) hr rfl hl
    simpa using this
end Go.Ax

/-! Slices of rows of plain cells, as arguments. -/
namespace Go.Ax
open Go Go.RowKit Go.Proofs Go.ChangeShapes Go.WideShapes Go.Deep

theorem IntT.row {α : Type} {P : Program} {t : TypeId} {k : Nat} {f : α → List Value} {mk : (Nat → Int) → α} (h : IntT P t) (hc : P.cellsOf t = k) (hmk : ∀ N : Nat → Int, f (mk N) = (List.range k).map fun j => Value.int .i64 (N j))
    {H : Type} {enc : TypeId × Value → H} {w : World} {base : Nat} {spare : Nat → Bool} {held : Bool} (fuel : Nat) (cs : List Value) (x : DataW H × List MemPlace) (hx : DataW.trod enc P w base spare held fuel t cs = some x) : ∃ y : α, cs = f y ∧ True := by
  obtain ⟨h1, h2⟩ := h _ _ _ _ _ _ _ _ _ hx
  have : ∃ N : Nat → Int, ∀ j, j < cs.length → cs[j]? = some (.int .i64 (N j)) := by
    refine ⟨fun j => match cs[j]? with | some (.int _ n) => n | _ => 0, fun j hj => ?_⟩
    obtain ⟨n, hn⟩ := h2 j hj
    simp [hn]
  obtain ⟨N, hN⟩ := this
  refine ⟨mk N, ?_, trivial⟩
  rw [hmk]
  apply List.ext_getElem?
  intro j
  by_cases hj : j < k
  · rw [hN j (by omega), List.getElem?_map, List.getElem?_range hj]; rfl
  · rw [List.getElem?_eq_none (by omega), List.getElem?_eq_none (by simp; omega)]
end Go.Ax

/-! Arguments that point to what points: inner slices, rows of slices. -/
namespace Go.Ax
open Go Go.RowKit Go.Proofs Go.ChangeShapes Go.WideShapes Go.Deep

def renOf (imps : List Imp) : Ren := fun b => (imps[b]?).map fun x => ⟨x.blk, x.off, none⟩
theorem imports3 {P : Program} (imps outs : List Imp) (w : World) (h : ∀ x ∈ imps, ∀ (i : Nat) v, x.cs[i]? = some v → w.cell? ⟨x.blk, x.off + i, none⟩ = some v ∧ flat1 v = true)
    (hcs : ∀ x ∈ outs, ∀ (i : Nat) v, x.cs[i]? = some v → ∃ v', w.cell? ⟨x.blk, x.off + i, none⟩ = some v' ∧ VR (renOf imps) v v') :
    ∃ (r : Ren) (H : Hp), Rel P r w.heap.size H w ∧ H.next = (imps ++ outs).length ∧ (∀ b loc, r b = some loc → b < H.next) ∧ Ren.Le (renOf imps) r ∧ ∀ (b : Nat) x, (imps ++ outs)[b]? = some x → r b = some ⟨x.blk, x.off, none⟩ ∧ H.t.get b = some (.ro x.cs) := by
  have hall : ∀ x ∈ imps ++ outs, ∀ (i : Nat) v, x.cs[i]? = some v → ∃ v', w.cell? ⟨x.blk, x.off + i, none⟩ = some v' ∧ VR (renOf imps) v v' := by
    intro x hx i v hv
    rcases List.mem_append.1 hx with hx | hx
    · obtain ⟨h1, h2⟩ := h x hx i v hv
      exact ⟨v, h1, flat1_vr h2⟩
    · exact hcs x hx i v hv
  obtain ⟨t, ht⟩ := tr_of (fun b => ((imps ++ outs)[b]?).map fun x => .ro x.cs) (imps ++ outs).length
  have hle : Ren.Le (renOf imps) (fun b => ((imps ++ outs)[b]?).map fun x => ⟨x.blk, x.off, none⟩) := fun b loc e => by
    unfold renOf at e
    have hlt : b < imps.length := by
      rcases Nat.lt_or_ge b imps.length with q | q
      · exact q
      · rw [List.getElem?_eq_none q] at e; cases e
    show ((imps ++ outs)[b]?).map _ = _
    rw [List.getElem?_append_left hlt]; exact e
  have hr : ∀ (b : Nat) loc, ((imps ++ outs)[b]?).map (fun x => (⟨x.blk, x.off, none⟩ : Loc)) = some loc → ∃ x, (imps ++ outs)[b]? = some x ∧ b < (imps ++ outs).length ∧ loc = ⟨x.blk, x.off, none⟩ ∧ t.get b = some (.ro x.cs) := by
    intro b loc e
    cases hx : (imps ++ outs)[b]? with
    | none => rw [hx] at e; cases e
    | some x =>
      rw [hx] at e
      simp at e
      have hlt := get_lt hx
      exact ⟨x, rfl, hlt, e.symm, by rw [ht, if_pos hlt, hx]; rfl⟩
  have low : ∀ {g o : Nat} {v : Value}, w.cell? ⟨g, o, none⟩ = some v → g < w.heap.size := fun {g o v} hv => by
    unfold World.cell? at hv
    rcases Nat.lt_or_ge g w.heap.size with q | q
    · exact q
    · rw [Array.getElem?_eq_none q] at hv; cases hv
  refine ⟨fun b => ((imps ++ outs)[b]?).map fun x => ⟨x.blk, x.off, none⟩, { next := (imps ++ outs).length, t }, ⟨?_, ?_, ?_, Nat.le_refl _⟩, rfl, ?_, hle, ?_⟩
  · intro b loc e
    obtain ⟨x, hx, hlt, rfl, hg⟩ := hr b loc e
    refine ⟨hlt, ?_⟩
    show Dm _ _ _ (t.get b)
    rw [hg]
    cases hc : x.cs with
    | nil => exact .inl rfl
    | cons v l =>
      obtain ⟨v', h1, _⟩ := hall x (List.mem_of_getElem? hx) 0 v (by rw [hc]; rfl)
      exact .inr (low h1)
  · intro b loc o e eo
    obtain ⟨x, hx, hlt, rfl, hg⟩ := hr b loc e
    rw [hg] at eo; cases eo
    refine ⟨rfl, fun i v ev => ?_⟩
    obtain ⟨v', h1, h2⟩ := hall x (List.mem_of_getElem? hx) i v ev
    unfold World.cell? at h1
    simp only at h1
    split at h1
    · rename_i C e' f hC
      exact ⟨C, e', f, v', hC, by simpa using h1, h2.mono hle⟩
    · cases h1
  · intro b b' loc loc' e e' _ hl _
    obtain ⟨x, hx, hlt, rfl, hg⟩ := hr b loc e
    obtain ⟨o, h1, h2, h3⟩ := hl
    have : t.get b = some o := h1
    rw [hg] at this; cases this
    cases h3
  · intro b loc e
    obtain ⟨x, hx, hlt, rfl, hg⟩ := hr b loc e
    exact hlt
  · intro b x hx
    have hlt := get_lt hx
    refine ⟨by simp only [hx, Option.map_some], ?_⟩
    show t.get b = _
    rw [ht, if_pos hlt, hx]; rfl

/-- An inner slice, as it is given: an empty one may have any address. -/
structure GivI {α : Type} (w : World) (v : Value) (f : α → List Value) (l : List α) (x : Imp) : Prop where
  ok : ∀ (i : Nat) u, x.cs[i]? = some u → w.cell? ⟨x.blk, x.off + i, none⟩ = some u ∧ flat1 u = true
  cs : x.cs = l.flatMap f
  v : ((v = .slice none 0 0 ∨ ∃ a', v = .slice (some a') 0 0) ∧ l = []) ∨ ∃ cap, v = .slice (some ⟨x.blk, x.off, none⟩) l.length cap ∧ l.length ≤ cap
theorem GivI.rel {α : Type} {w : World} {v : Value} {f : α → List Value} {l : List α} {x : Imp} (g : GivI w v f l x) {r : Ren} {b : Nat} (hr : r b = some ⟨x.blk, x.off, none⟩) :
    ∃ a cap, VR r (.slice a l.length cap) v ∧ (∀ y, a = some ⟨y, 0, none⟩ → y = b) ∧ ∀ H : Hp, b < H.next → H.t.get b = some (.ro x.cs) → Sl H a l.length cap (l.flatMap f) := by
  rcases g.v with ⟨rfl | ⟨a', rfl⟩, rfl⟩ | ⟨cap, rfl, hl⟩
  · exact ⟨none, 0, .nilSlice, fun y e => by (cases e), fun H _ _ => .inl ⟨.inl rfl, rfl, rfl, rfl⟩⟩
  · exact ⟨some ⟨0, 0, some 0⟩, 0, .weird, fun y e => by (cases e), fun H _ _ => .inl ⟨.inr rfl, rfl, rfl, rfl⟩⟩
  · refine ⟨some ⟨b, 0, none⟩, cap, ?_, fun y e => by (cases e; rfl), fun H hb hc => .inr ⟨b, rfl, ⟨hb, by unfold cellsOf; rw [hc, g.cs]⟩, hl⟩⟩
    have := VR.slice (o := 0) (n := l.length) (c := cap) hr rfl hl
    simpa using this
structure RV where
  rv : Value
  l : List Int
  x : Imp
def RV.f (r : RV) : List Value := [r.rv]
def RV.Q (w : World) (r : RV) : Prop := GivI w r.rv (fun n : Int => [iv n]) r.l r.x
end Go.Ax

/-! Machines and what is flat as arguments. -/
namespace Go.Ax
open Go Go.RowKit Go.Proofs Go.ChangeShapes Go.WideShapes Go.Deep

/-- A machine, as it is given. -/
structure MV where
  rv : Value
  l : List Ou
  x : Imp
def MV.f (r : MV) : List Value := [r.rv]
def MV.Q (w : World) (r : MV) : Prop := GivI w r.rv Ou.f r.l r.x
theorem imports_flat {P : Program} (pre : List Imp) {w : World} (h : ∀ x ∈ pre, ∀ (i : Nat) v, x.cs[i]? = some v → w.cell? ⟨x.blk, x.off + i, none⟩ = some v ∧ flat1 v = true) :
    ∃ (r : Ren) (H : Hp), Rel P r w.heap.size H w ∧ (∀ b loc, r b = some loc → b < H.next) ∧ (∀ (b : Nat) x, pre[b]? = some x → b < H.next ∧ r b = some ⟨x.blk, x.off, none⟩ ∧ H.t.get b = some (.ro x.cs)) := by
  obtain ⟨r, H, h1, h2, h3, h4, h5⟩ := imports3 (P := P) pre [] w h (fun x hx => by simp at hx)
  refine ⟨r, H, h1, h3, fun b x hx => ?_⟩
  have := get_lt hx
  obtain ⟨a, c⟩ := h5 b x (by simpa using hx)
  exact ⟨by rw [h2]; simpa using this, a, c⟩
end Go.Ax


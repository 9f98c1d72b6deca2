import Derived.Test.YtbgdbnnbfankeaaMb
import Derived.Test.YtbgdbnnbfankeaaChecked
import Derived.Test.YtbgdbnnbfankeaaAxO
import Derived.Deep.Slices
import Derived.Deep.Fields
import Derived.ChangeSame
set_option linter.all false
/-
  Plant: the law PlantKeeps (written by program).
-/
namespace Go.Ax
open Go Go.RowKit Go.Proofs

theorem rok_A {rs : List Mc} {s : Nat → Int} (h : rok rs s = true) : rok rs (strA s) = true := by
  unfold rok at h ⊢; rw [Bool.and_eq_true] at h ⊢; exact ⟨h.1, strA_in (by decide) h.2⟩
theorem rok_B {rs : List Mc} {s : Nat → Int} (h : rok rs s = true) : rok rs (strB s) = true := by
  unfold rok at h ⊢; rw [Bool.and_eq_true] at h ⊢; exact ⟨h.1, strB_in (by decide) h.2⟩
/-- the sum of the first i bins -/
def sumQ (C : Cs) (i : Nat) : Nat → Int := fun j => sm (fun r => C r j) i
section
variable {kn : FuncId → Option Bool} {lo : Nat} {H : Hp}
set_option maxRecDepth 100000 in
set_option maxHeartbeats 4000000 in
/-- PlantKeeps -/
theorem law_keeps (hkn : kn 16 = some true) {s : Nat → Int} {sa : Option Addr} {n cap f : Nat} {rs : List Mc} (hr : Mcs H f sa n cap rs) (hf : f ≤ H.next) (hro : RoLow lo H) (hlo : lo ≤ H.next) : ∃ H', FnX Try.prog kn lo 7 [.slice sa n cap, .agg (qc s).toArray] H (.bool true) H' := by
  have key := fnX_low (kn := kn) (lo := lo) (H := H) (args := [.slice sa n cap, .agg (qc s).toArray]) (Q := fun w H' => w = .bool true) Try.func7 B7 N7 Z7 L7 (by simp) ?_
  · obtain ⟨w, H', h, rfl⟩ := key; exact ⟨H', h⟩
  have hk := Keep.refl H []
  refine wN_seq ?_
  refine wN_box (v := .agg (qc s).toArray) rfl ?_
  intro H1 kH1 nH1 c1
  have c1 : Cl H1 H.next [iv (s 0), iv (s 1), iv (s 2), iv (s 3)] := c1
  have mH1 := kH1.1
  have hk := hk.trans kH1
  have hr := hr.keep kH1 (by simp)
  refine wN_mov (v := .bool false) rfl ?_
  refine wN_end ?_
  refine wN_seq ?_
  refine wN_mov (v := .slice sa n cap) rfl ?_
  refine wN_callB rfl (great_ok hr) ?_
  intro tH2 H2 hH2 kH2
  have mH2 := kH2.1
  have hk := hk.trans kH2
  have hr := hr.keep kH2 (by simp)
  have c1 := kH2.cl c1 (by simp)
  cases tH2
  · obtain ⟨hm, hn16, hm8⟩ := grtB_f hr.rl hH2
    have hn2 : n ≤ 1000000 := by omega
    refine wN_end ?_
    refine condF ?_
    first | refine wN_skip ?_ | skip
    refine wN_seq ?_
    refine wN_mov (v := .slice sa n cap) rfl ?_
    refine wN_lda (b := H.next) (o := 0) rfl c1.rd (show row 4 _ _ = some [iv (s 0), iv (s 1), iv (s 2), iv (s 3)] from rfl) ?_
    cases hok : rok rs s
    · obtain ⟨H3, fH3, kH3⟩ := run17_no (kn := kn) (lo := lo) (H := H2) (s := s) hr hm hn2 (by omega) (by omega) hok
      refine wN_callf (vs := [.slice sa n cap, .agg (qc s).toArray]) rfl (callX_args fH3) ?_
      have mH3 := kH3.1
      have hk := hk.trans kH3
      have hr := hr.keep kH3 (by simp)
      have c1 := kH3.cl c1 (by simp)
      refine wN_mov (v := .tuple #[.slice none 0 0, iv 1]) rfl ?_
      refine wN_pur (v := .slice none 0 0) rfl (by kernel_rfl) ?_
      refine wN_pur (v := iv 1) rfl (by kernel_rfl) ?_
      refine wN_mov (v := .slice none 0 0) rfl ?_
      refine wN_mov (v := iv 1) rfl ?_
      refine wN_end ?_
      refine wN_seq ?_
      refine wN_mov (v := iv 1) rfl ?_
      refine wN_c_neq (a := 1) (b := 0) rfl rfl ?_
      refine wN_end ?_
      refine condT ?_
      refine wN_seq ?_
      refine wN_mov (v := .slice none 0 0) rfl ?_
      refine wN_len (m := 0) rfl ?_
      refine wN_b_eql (a := 0) (b := 0) rfl rfl ?_
      intro t1 g1; obtain rfl : t1 = true := by rw [← g1]; rfl
      refine wN_mov (v := .bool true) rfl ?_
      refine wN_g rfl (wN_mov (v := iv 1) rfl ?_)
      refine wN_g rfl (wN_b_eql (a := 1) (b := 1) rfl rfl ?_)
      intro t2 g2; obtain rfl : t2 = true := by rw [← g2]; rfl
      refine wN_pur (v := .bool true) rfl rfl ?_
      refine wN_mov (v := .bool true) rfl ?_
      refine wN_g rfl (wN_callf (vs := []) rfl (callX_known hkn) ?_)
      refine wN_pur (v := .bool true) rfl rfl ?_
      refine wN_mov (v := .bool true) rfl ?_
      refine wN_end ?_
      exact And.intro trivial (Exists.intro _ (And.intro rfl rfl))
    · obtain ⟨aL, H3, fH3, kH3, laL, sL⟩ := run17_ok (kn := kn) (lo := lo) (H := H2) (s := s) hr hm hn2 (by omega) (by omega) hok
      refine wN_callf (vs := [.slice sa n cap, .agg (qc s).toArray]) rfl (callX_args fH3) ?_
      have mH3 := kH3.1
      have hk := hk.trans kH3
      have hr := hr.keep kH3 (by simp)
      have c1 := kH3.cl c1 (by simp)
      have lt0L := sL.lt
      refine wN_mov (v := .tuple #[.slice (some ⟨aL, 0, none⟩) 16 16, iv 0]) rfl ?_
      refine wN_pur (v := .slice (some ⟨aL, 0, none⟩) 16 16) rfl (by kernel_rfl) ?_
      refine wN_pur (v := iv 0) rfl (by kernel_rfl) ?_
      refine wN_mov (v := .slice (some ⟨aL, 0, none⟩) 16 16) rfl ?_
      refine wN_mov (v := iv 0) rfl ?_
      refine wN_end ?_
      refine wN_seq ?_
      refine wN_mov (v := iv 0) rfl ?_
      refine wN_c_neq (a := 0) (b := 0) rfl rfl ?_
      refine wN_end ?_
      refine condF ?_
      first | refine wN_skip ?_ | skip
      refine wN_seq ?_
      refine wN_mov (v := .slice (some ⟨aL, 0, none⟩) 16 16) rfl ?_
      refine wN_len (m := 16) rfl ?_
      refine wN_c_neq (a := 16) (b := 16) rfl rfl ?_
      refine wN_end ?_
      refine condF ?_
      first | refine wN_skip ?_ | skip
      refine wN_seq ?_
      refine wN_mov (v := .slice sa n cap) rfl ?_
      refine wN_addo (b := H.next) (o := 0) rfl ?_
      refine wN_ld (b := H.next) (o := 0) (v := iv (s 0)) rfl c1.rd rfl ?_
      refine wN_addo (b := H.next) (o := 0) rfl ?_
      refine wN_ld (b := H.next) (o := 2) (v := iv (s 2)) rfl c1.rd rfl ?_
      refine wN_pur (v := .agg #[iv (s 0), iv 0, iv (s 2), iv 0]) rfl (by kernel_rfl) ?_
      obtain ⟨aA, H4, fH4, kH4, laA, sA⟩ := run17_ok (kn := kn) (lo := lo) (H := H3) (s := strA s) hr hm hn2 (by omega) (by omega) (rok_A hok)
      refine wN_callf (vs := [.slice sa n cap, .agg (qc (strA s)).toArray]) rfl (callX_args fH4) ?_
      have mH4 := kH4.1
      have hk := hk.trans kH4
      have hr := hr.keep kH4 (by simp)
      have c1 := kH4.cl c1 (by simp)
      have sL := kH4.sc sL (by simp)
      have lt0A := sA.lt
      refine wN_mov (v := .tuple #[.slice (some ⟨aA, 0, none⟩) 16 16, iv 0]) rfl ?_
      refine wN_pur (v := .slice (some ⟨aA, 0, none⟩) 16 16) rfl (by kernel_rfl) ?_
      refine wN_pur (v := iv 0) rfl (by kernel_rfl) ?_
      refine wN_mov (v := .slice (some ⟨aA, 0, none⟩) 16 16) rfl ?_
      refine wN_mov (v := iv 0) rfl ?_
      refine wN_end ?_
      refine wN_seq ?_
      refine wN_mov (v := .slice sa n cap) rfl ?_
      refine wN_addo (b := H.next) (o := 0) rfl ?_
      refine wN_ld (b := H.next) (o := 1) (v := iv (s 1)) rfl c1.rd rfl ?_
      refine wN_addo (b := H.next) (o := 0) rfl ?_
      refine wN_ld (b := H.next) (o := 3) (v := iv (s 3)) rfl c1.rd rfl ?_
      refine wN_pur (v := .agg #[iv 0, iv (s 1), iv 0, iv (s 3)]) rfl (by kernel_rfl) ?_
      obtain ⟨aB, H5, fH5, kH5, laB, sB⟩ := run17_ok (kn := kn) (lo := lo) (H := H4) (s := strB s) hr hm hn2 (by omega) (by omega) (rok_B hok)
      refine wN_callf (vs := [.slice sa n cap, .agg (qc (strB s)).toArray]) rfl (callX_args fH5) ?_
      have mH5 := kH5.1
      have hk := hk.trans kH5
      have hr := hr.keep kH5 (by simp)
      have c1 := kH5.cl c1 (by simp)
      have sL := kH5.sc sL (by simp)
      have sA := kH5.sc sA (by simp)
      have lt0B := sB.lt
      refine wN_mov (v := .tuple #[.slice (some ⟨aB, 0, none⟩) 16 16, iv 0]) rfl ?_
      refine wN_pur (v := .slice (some ⟨aB, 0, none⟩) 16 16) rfl (by kernel_rfl) ?_
      refine wN_pur (v := iv 0) rfl (by kernel_rfl) ?_
      refine wN_mov (v := .slice (some ⟨aB, 0, none⟩) 16 16) rfl ?_
      refine wN_mov (v := iv 0) rfl ?_
      refine wN_end ?_
      refine wN_seq ?_
      refine wN_mov (v := iv 0) rfl ?_
      refine wN_b_neq (a := 0) (b := 0) rfl rfl ?_
      intro t3 g3; obtain rfl : t3 = false := by rw [← g3]; rfl
      refine wN_mov (v := .bool false) rfl ?_
      refine wN_g rfl (wN_mov (v := iv 0) rfl ?_)
      refine wN_g rfl (wN_b_neq (a := 0) (b := 0) rfl rfl ?_)
      intro t4 g4; obtain rfl : t4 = false := by rw [← g4]; rfl
      refine wN_pur (v := .bool false) rfl rfl ?_
      refine wN_mov (v := .bool false) rfl ?_
      refine wN_g rfl (wN_mov (v := .slice (some ⟨aA, 0, none⟩) 16 16) rfl ?_)
      refine wN_g rfl (wN_len (m := 16) rfl ?_)
      refine wN_g rfl (wN_mov (v := .slice (some ⟨aL, 0, none⟩) 16 16) rfl ?_)
      refine wN_g rfl (wN_len (m := 16) rfl ?_)
      refine wN_g rfl (wN_b_neq (a := 16) (b := 16) rfl rfl ?_)
      intro t5 g5; obtain rfl : t5 = false := by rw [← g5]; rfl
      refine wN_pur (v := .bool false) rfl rfl ?_
      refine wN_mov (v := .bool false) rfl ?_
      refine wN_g rfl (wN_mov (v := .slice (some ⟨aB, 0, none⟩) 16 16) rfl ?_)
      refine wN_g rfl (wN_len (m := 16) rfl ?_)
      refine wN_g rfl (wN_mov (v := .slice (some ⟨aL, 0, none⟩) 16 16) rfl ?_)
      refine wN_g rfl (wN_len (m := 16) rfl ?_)
      refine wN_g rfl (wN_b_neq (a := 16) (b := 16) rfl rfl ?_)
      intro t6 g6; obtain rfl : t6 = false := by rw [← g6]; rfl
      refine wN_pur (v := .bool false) rfl rfl ?_
      refine wN_end ?_
      refine condF ?_
      first | refine wN_skip ?_ | skip
      refine wN_seq ?_
      refine wN_alc ?_
      intro H6 kH6 nH6 c6
      have c6 : Cl H6 H5.next [iv 0, iv 0, iv 0, iv 0] := c6
      have mH6 := kH6.1
      have hk := hk.trans kH6
      have hr := hr.keep kH6 (by simp)
      have c1 := kH6.cl c1 (by simp)
      have sL := kH6.sc sL (by simp)
      have sA := kH6.sc sA (by simp)
      have sB := kH6.sc sB (by simp)
      refine wN_end ?_
      refine wN_seq ?_
      refine wN_mov (v := .slice (some ⟨aL, 0, none⟩) 16 16) rfl ?_
      refine wN_len (m := 16) rfl ?_
      refine wN_mov (v := iv 0) rfl ?_
      refine wN_end ?_
      obtain ⟨hp, hS⟩ := rok_t hok
      have hN := fun r => fun j => fun hj : j < 4 => rn_nn (j := j) hp (fun j hj => (hS j hj).1) r hj
      have hT := fun j => fun hj : j < 4 => rn_sum (j := j) hp (fun j hj => (hS j hj).1) hj
      refine loop_low (fn := Try.f7) E7_1 N7 L7x1 (fun i : Nat => [(3, pt H.next), (7, .slice (some ⟨aA, 0, none⟩) 16 16), (9, .slice (some ⟨aB, 0, none⟩) 16 16), (11, pt H5.next), (78, .slice (some ⟨aL, 0, none⟩) 16 16), (79, iv 16), (80, iv (i : Int))])
        (fun d i H' => i + d = 16 ∧ Keep H H' [] ∧ H6.next ≤ H'.next ∧ Sc H' aL (cc (rnA (mss rs) s) 16) ∧ Sc H' aA (cc (rnA (mss rs) (strA s)) 16) ∧ Sc H' aB (cc (rnA (mss rs) (strB s)) 16) ∧ Cl H' H.next (qc s) ∧ Cl H' H5.next (qc (sumQ (rnA (mss rs) s) i))) 16 0 ⟨by omega, hk, Nat.le_refl _, sL, sA, sB, c1, c6⟩ ⟨rfl, rfl, rfl, rfl, rfl, rfl, rfl, trivial⟩ ?_
      rintro d i L1 ⟨hid, hk, hnx, sL, sA, sB, c3, c11⟩
      have mki := hk.1
      have ltL := sL.lt
      have ltA := sA.lt
      have ltB := sB.lt
      refine wN_seq ?_
      refine wN_c_lss (a := (i : Int)) (b := 16) rfl rfl ?_
      refine wN_end ?_
      refine And.intro (fun q7 => ?_) (fun q7 => ?_)
      · have q7 : (i : Int) < 16 := of_decide_eq_true q7
        have hi : i < 16 := by omega
        have g0 := hN i 0 (by decide)
        have t0 : sumQ (rnA (mss rs) s) (i + 1) 0 ≤ s 0 := by rw [← hT 0 (by decide)]; have q := sm_head_le (f := fun r => rnA (mss rs) s r 0) (n := i + 1) (16 - (i + 1)) (fun r _ => hN r 0 (by decide)); rw [show i + 1 + (16 - (i + 1)) = 16 by omega] at q; exact q
        have u0 : 0 ≤ sumQ (rnA (mss rs) s) i 0 := sm_nn (fun r _ => hN r 0 (by decide))
        have e0 : sumQ (rnA (mss rs) s) (i + 1) 0 = sumQ (rnA (mss rs) s) i 0 + (rnA (mss rs) s) i 0 := rfl
        have v0 := (hS 0 (by decide)).2
        have w0 : (rnA (mss rs) (strA s)) i 0 = (rnA (mss rs) s) i 0 := rn_one (by rfl) _ _
        have g1 := hN i 1 (by decide)
        have t1 : sumQ (rnA (mss rs) s) (i + 1) 1 ≤ s 1 := by rw [← hT 1 (by decide)]; have q := sm_head_le (f := fun r => rnA (mss rs) s r 1) (n := i + 1) (16 - (i + 1)) (fun r _ => hN r 1 (by decide)); rw [show i + 1 + (16 - (i + 1)) = 16 by omega] at q; exact q
        have u1 : 0 ≤ sumQ (rnA (mss rs) s) i 1 := sm_nn (fun r _ => hN r 1 (by decide))
        have e1 : sumQ (rnA (mss rs) s) (i + 1) 1 = sumQ (rnA (mss rs) s) i 1 + (rnA (mss rs) s) i 1 := rfl
        have v1 := (hS 1 (by decide)).2
        have w1 : (rnA (mss rs) (strB s)) i 1 = (rnA (mss rs) s) i 1 := rn_one (by rfl) _ _
        have g2 := hN i 2 (by decide)
        have t2 : sumQ (rnA (mss rs) s) (i + 1) 2 ≤ s 2 := by rw [← hT 2 (by decide)]; have q := sm_head_le (f := fun r => rnA (mss rs) s r 2) (n := i + 1) (16 - (i + 1)) (fun r _ => hN r 2 (by decide)); rw [show i + 1 + (16 - (i + 1)) = 16 by omega] at q; exact q
        have u2 : 0 ≤ sumQ (rnA (mss rs) s) i 2 := sm_nn (fun r _ => hN r 2 (by decide))
        have e2 : sumQ (rnA (mss rs) s) (i + 1) 2 = sumQ (rnA (mss rs) s) i 2 + (rnA (mss rs) s) i 2 := rfl
        have v2 := (hS 2 (by decide)).2
        have w2 : (rnA (mss rs) (strA s)) i 2 = (rnA (mss rs) s) i 2 := rn_one (by rfl) _ _
        have g3 := hN i 3 (by decide)
        have t3 : sumQ (rnA (mss rs) s) (i + 1) 3 ≤ s 3 := by rw [← hT 3 (by decide)]; have q := sm_head_le (f := fun r => rnA (mss rs) s r 3) (n := i + 1) (16 - (i + 1)) (fun r _ => hN r 3 (by decide)); rw [show i + 1 + (16 - (i + 1)) = 16 by omega] at q; exact q
        have u3 : 0 ≤ sumQ (rnA (mss rs) s) i 3 := sm_nn (fun r _ => hN r 3 (by decide))
        have e3 : sumQ (rnA (mss rs) s) (i + 1) 3 = sumQ (rnA (mss rs) s) i 3 + (rnA (mss rs) s) i 3 := rfl
        have v3 := (hS 3 (by decide)).2
        have w3 : (rnA (mss rs) (strB s)) i 3 = (rnA (mss rs) s) i 3 := rn_one (by rfl) _ _
        first | refine wN_skip ?_ | skip
        refine wN_seq ?_
        refine wN_mov (v := iv (i : Int)) rfl ?_
        refine wN_idx (b := aL) (o := 0) (k := i) (j := (i : Int)) rfl rfl rfl hi ?_
        refine wN_lda (b := aL) (o := 0 + i * 4) rfl sL.cl.rd (cc_row hi) ?_
        refine wN_alc ?_
        intro H7 kH7 nH7 c7
        have c7 : Cl H7 L1.next [iv 0, iv 0, iv 0, iv 0] := c7
        have mH7 := kH7.1
        have hk := hk.trans kH7
        have sL := kH7.sc sL (by simp)
        have sA := kH7.sc sA (by simp)
        have sB := kH7.sc sB (by simp)
        have c3 := kH7.cl c3 (by simp)
        have c11 := kH7.cl c11 (by simp)
        refine wN_mov (v := iv (i : Int)) rfl ?_
        refine wN_sta (b := L1.next) (o := 0) rfl rfl c7 (by omega) rfl rfl (by simp) ?_
        intro H8 kH8 nH8 sH8
        have mH8 := kH8.1
        have hk := hk.new kH8 (fun b hb => by simp at hb ⊢; omega)
        have sL := kH8.sc sL (by first | (simp; done) | (simp; omega))
        have sA := kH8.sc sA (by first | (simp; done) | (simp; omega))
        have sB := kH8.sc sB (by first | (simp; done) | (simp; omega))
        have c3 := kH8.cl c3 (by first | (simp; done) | (simp; omega))
        have c11 := kH8.cl c11 (by first | (simp; done) | (simp; omega))
        have c7 : Cl H8 L1.next [iv (((rnA (mss rs) s) i) 0), iv (((rnA (mss rs) s) i) 1), iv (((rnA (mss rs) s) i) 2), iv (((rnA (mss rs) s) i) 3)] := sH8
        refine wN_end ?_
        refine wN_seq ?_
        refine wN_addo (b := L1.next) (o := 0) rfl ?_
        refine wN_ld (b := L1.next) (o := 0) (v := iv (((rnA (mss rs) s) i) 0)) rfl c7.rd rfl ?_
        refine wN_addo (b := L1.next) (o := 0) rfl ?_
        refine wN_ld (b := L1.next) (o := 1) (v := iv (((rnA (mss rs) s) i) 1)) rfl c7.rd rfl ?_
        refine wN_addo (b := L1.next) (o := 0) rfl ?_
        refine wN_ld (b := L1.next) (o := 2) (v := iv (((rnA (mss rs) s) i) 2)) rfl c7.rd rfl ?_
        refine wN_addo (b := L1.next) (o := 0) rfl ?_
        refine wN_ld (b := L1.next) (o := 3) (v := iv (((rnA (mss rs) s) i) 3)) rfl c7.rd rfl ?_
        refine wN_pur (v := iv (min (min (min ((rnA (mss rs) s) i 0) ((rnA (mss rs) s) i 1)) ((rnA (mss rs) s) i 2)) ((rnA (mss rs) s) i 3))) rfl (min4 rfl rfl rfl rfl) ?_
        refine wN_c_lss (a := (min (min (min ((rnA (mss rs) s) i 0) ((rnA (mss rs) s) i 1)) ((rnA (mss rs) s) i 2)) ((rnA (mss rs) s) i 3))) (b := 0) rfl rfl ?_
        refine wN_end ?_
        refine And.intro (fun q8 => ?_) (fun q8 => ?_)
        · have q8 : (min (min (min ((rnA (mss rs) s) i 0) ((rnA (mss rs) s) i 1)) ((rnA (mss rs) s) i 2)) ((rnA (mss rs) s) i 3)) < 0 := of_decide_eq_true q8
          exfalso; omega
        · have q8 : ¬ ((min (min (min ((rnA (mss rs) s) i 0) ((rnA (mss rs) s) i 1)) ((rnA (mss rs) s) i 2)) ((rnA (mss rs) s) i 3)) < 0) := of_decide_eq_false q8
          first | refine wN_skip ?_ | skip
          refine wN_seq ?_
          refine wN_addo (b := H5.next) (o := 0) rfl ?_
          refine wN_ld (b := H5.next) (o := 0) (v := iv ((sumQ (rnA (mss rs) s) i) 0)) rfl c11.rd rfl ?_
          refine wN_addo (b := L1.next) (o := 0) rfl ?_
          refine wN_ld (b := L1.next) (o := 0) (v := iv (((rnA (mss rs) s) i) 0)) rfl c7.rd rfl ?_
          refine wN_add (a := ((sumQ (rnA (mss rs) s) i) 0)) (b := (((rnA (mss rs) s) i) 0)) rfl rfl ⟨by omega, by omega⟩ ?_
          refine wN_addo (b := H5.next) (o := 0) rfl ?_
          refine wN_ld (b := H5.next) (o := 1) (v := iv ((sumQ (rnA (mss rs) s) i) 1)) rfl c11.rd rfl ?_
          refine wN_addo (b := L1.next) (o := 0) rfl ?_
          refine wN_ld (b := L1.next) (o := 1) (v := iv (((rnA (mss rs) s) i) 1)) rfl c7.rd rfl ?_
          refine wN_add (a := ((sumQ (rnA (mss rs) s) i) 1)) (b := (((rnA (mss rs) s) i) 1)) rfl rfl ⟨by omega, by omega⟩ ?_
          refine wN_addo (b := H5.next) (o := 0) rfl ?_
          refine wN_ld (b := H5.next) (o := 2) (v := iv ((sumQ (rnA (mss rs) s) i) 2)) rfl c11.rd rfl ?_
          refine wN_addo (b := L1.next) (o := 0) rfl ?_
          refine wN_ld (b := L1.next) (o := 2) (v := iv (((rnA (mss rs) s) i) 2)) rfl c7.rd rfl ?_
          refine wN_add (a := ((sumQ (rnA (mss rs) s) i) 2)) (b := (((rnA (mss rs) s) i) 2)) rfl rfl ⟨by omega, by omega⟩ ?_
          refine wN_addo (b := H5.next) (o := 0) rfl ?_
          refine wN_ld (b := H5.next) (o := 3) (v := iv ((sumQ (rnA (mss rs) s) i) 3)) rfl c11.rd rfl ?_
          refine wN_addo (b := L1.next) (o := 0) rfl ?_
          refine wN_ld (b := L1.next) (o := 3) (v := iv (((rnA (mss rs) s) i) 3)) rfl c7.rd rfl ?_
          refine wN_add (a := ((sumQ (rnA (mss rs) s) i) 3)) (b := (((rnA (mss rs) s) i) 3)) rfl rfl ⟨by omega, by omega⟩ ?_
          refine wN_pur (v := .agg #[iv (((sumQ (rnA (mss rs) s) i) 0) + (((rnA (mss rs) s) i) 0)), iv (((sumQ (rnA (mss rs) s) i) 1) + (((rnA (mss rs) s) i) 1)), iv (((sumQ (rnA (mss rs) s) i) 2) + (((rnA (mss rs) s) i) 2)), iv (((sumQ (rnA (mss rs) s) i) 3) + (((rnA (mss rs) s) i) 3))]) rfl (by kernel_rfl) ?_
          refine wN_sta (b := H5.next) (o := 0) (v := .agg #[iv (((sumQ (rnA (mss rs) s) i) 0) + (((rnA (mss rs) s) i) 0)), iv (((sumQ (rnA (mss rs) s) i) 1) + (((rnA (mss rs) s) i) 1)), iv (((sumQ (rnA (mss rs) s) i) 2) + (((rnA (mss rs) s) i) 2)), iv (((sumQ (rnA (mss rs) s) i) 3) + (((rnA (mss rs) s) i) 3))]) rfl rfl c11 (by omega) rfl rfl (by simp) ?_
          intro H9 kH9 nH9 sH9
          have mH9 := kH9.1
          have hk := hk.new kH9 (fun b hb => by simp at hb ⊢; omega)
          have sL := kH9.sc sL (by first | (simp; done) | (simp; omega))
          have sA := kH9.sc sA (by first | (simp; done) | (simp; omega))
          have sB := kH9.sc sB (by first | (simp; done) | (simp; omega))
          have c3 := kH9.cl c3 (by first | (simp; done) | (simp; omega))
          have c7 := kH9.cl c7 (by first | (simp; done) | (simp; omega))
          have c11 : Cl H9 H5.next (qc (sumQ (rnA (mss rs) s) (i + 1))) := sH9
          refine wN_end ?_
          refine wD_seq ?_
          refine wD_lda (b := L1.next) (o := 0) rfl c7.rd (show row 4 _ _ = some [iv (((rnA (mss rs) s) i) 0), iv (((rnA (mss rs) s) i) 1), iv (((rnA (mss rs) s) i) 2), iv (((rnA (mss rs) s) i) 3)] from rfl) ?_
          refine wD_mov (v := .slice (some ⟨aA, 0, none⟩) 16 16) rfl ?_
          refine wD_mov (v := iv (i : Int)) rfl ?_
          refine wD_idx (b := aA) (o := 0) (k := i) (j := (i : Int)) rfl rfl rfl hi ?_
          refine wD_addo (b := aA) (o := 0 + i * 4) rfl ?_
          refine wD_ld (b := aA) (o := 0 + i * 4 + 0) (v := iv ((rnA (mss rs) s) i 0)) rfl sA.cl.rd (by rw [← w0]; exact cc_at hi rfl) ?_
          refine wD_mov (v := .slice (some ⟨aB, 0, none⟩) 16 16) rfl ?_
          refine wD_mov (v := iv (i : Int)) rfl ?_
          refine wD_idx (b := aB) (o := 0) (k := i) (j := (i : Int)) rfl rfl rfl hi ?_
          refine wD_addo (b := aB) (o := 0 + i * 4) rfl ?_
          refine wD_ld (b := aB) (o := 0 + i * 4 + 1) (v := iv ((rnA (mss rs) s) i 1)) rfl sB.cl.rd (by rw [← w1]; exact cc_at hi rfl) ?_
          refine wD_mov (v := .slice (some ⟨aA, 0, none⟩) 16 16) rfl ?_
          refine wD_mov (v := iv (i : Int)) rfl ?_
          refine wD_idx (b := aA) (o := 0) (k := i) (j := (i : Int)) rfl rfl rfl hi ?_
          refine wD_addo (b := aA) (o := 0 + i * 4) rfl ?_
          refine wD_ld (b := aA) (o := 0 + i * 4 + 2) (v := iv ((rnA (mss rs) s) i 2)) rfl sA.cl.rd (by rw [← w2]; exact cc_at hi rfl) ?_
          refine wD_mov (v := .slice (some ⟨aB, 0, none⟩) 16 16) rfl ?_
          refine wD_mov (v := iv (i : Int)) rfl ?_
          refine wD_idx (b := aB) (o := 0) (k := i) (j := (i : Int)) rfl rfl rfl hi ?_
          refine wD_addo (b := aB) (o := 0 + i * 4) rfl ?_
          refine wD_ld (b := aB) (o := 0 + i * 4 + 3) (v := iv ((rnA (mss rs) s) i 3)) rfl sB.cl.rd (by rw [← w3]; exact cc_at hi rfl) ?_
          refine wD_pur (v := .agg #[iv ((rnA (mss rs) s) i 0), iv ((rnA (mss rs) s) i 1), iv ((rnA (mss rs) s) i 2), iv ((rnA (mss rs) s) i 3)]) rfl (by kernel_rfl) ?_
          refine wD_pur (v := .bool false) rfl (neq24 rfl rfl) ?_
          refine wD_end (by repeat' first | exact True.intro | exact (fun h => h) | refine And.intro ?_ ?_ | (intro h; have h : (_ : Nat) = _ := h; omega)) ?_
          refine condF ?_
          first | refine wN_skip ?_ | skip
          first | refine wN_reg ?_ | refine wN_blk ?_ | refine wN_bseq ?_ | (refine wOps_nil ?_; refine wN_reg ?_)
          refine wN_add (a := (i : Int)) (b := 1) rfl rfl ⟨by omega, by omega⟩ ?_
          refine wN_mov (v := iv ((i : Int) + 1)) rfl ?_
          refine wN_end ?_
          exact ⟨d - 1, i + 1, by omega, ⟨by omega, hk, by omega, sL, sA, sB, c3, c11⟩, rfl, rfl, rfl, rfl, rfl, rfl, rfl, trivial⟩
      · have q7 : ¬ ((i : Int) < 16) := of_decide_eq_false q7
        have e : i = 16 := by omega
        subst e
        have c11 : Cl L1 H5.next (qc s) := by
          have q : qc (sumQ (rnA (mss rs) s) 16) = qc s := by
            show [iv _, iv _, iv _, iv _] = _
            rw [show sumQ (rnA (mss rs) s) 16 0 = s 0 from hT 0 (by decide), show sumQ (rnA (mss rs) s) 16 1 = s 1 from hT 1 (by decide), show sumQ (rnA (mss rs) s) 16 2 = s 2 from hT 2 (by decide), show sumQ (rnA (mss rs) s) 16 3 = s 3 from hT 3 (by decide)]
          rw [← q]; exact c11
        first | (refine wN_exit ?_; show wC _ _ _ _ _ _ _ _ _) | skip
        refine wN_seq ?_
        refine wN_lda (b := H5.next) (o := 0) rfl c11.rd (show row 4 (qc s) 0 = some (qc s) from rfl) ?_
        refine wN_lda (b := H.next) (o := 0) rfl c3.rd (show row 4 (qc s) 0 = some (qc s) from rfl) ?_
        refine wN_pur (v := .bool true) rfl (eql24 rfl rfl) ?_
        refine wN_mov (v := .bool true) rfl ?_
        refine wN_g rfl (wN_callf (vs := []) rfl (callX_known hkn) ?_)
        refine wN_pur (v := .bool true) rfl rfl ?_
        refine wN_mov (v := .bool true) rfl ?_
        refine wN_end ?_
        exact And.intro trivial (Exists.intro _ (And.intro rfl rfl))
  · refine wN_end ?_
    refine condT ?_
    refine wN_seq ?_
    refine wN_callf (vs := []) rfl (callX_known hkn) ?_
    refine wN_mov (v := .bool true) rfl ?_
    refine wN_end ?_
    exact And.intro trivial (Exists.intro _ (And.intro rfl rfl))
end
end Go.Ax

namespace Go.Ax
open Go Go.RowKit Go.Proofs Go.ChangeShapes Go.WideShapes Go.Deep

/-- A type whose cells are whole numbers. -/
def IntT (P : Program) (t : TypeId) : Prop := ∀ (H : Type) (enc : TypeId × Value → H) (w : World) (base : Nat) (spare : Nat → Bool) (held : Bool) (fuel : Nat) (cs : List Value) (x : DataW H × List MemPlace),
  DataW.trod enc P w base spare held fuel t cs = some x → cs.length = P.cellsOf t ∧ ∀ j, j < cs.length → ∃ n, cs[j]? = some (.int .i64 n)
theorem IntT.int {P : Program} {t : TypeId} (ht : P.underlying t = some (.int .i64)) (hc : P.cellsOf t = 1) : IntT P t := by
  intro H enc w base spare held fuel cs x h
  obtain ⟨n, rfl, _⟩ := DataW.trod_int ht h
  refine ⟨by rw [hc]; rfl, fun j hj => ⟨n, ?_⟩⟩
  have : j = 0 := by simp at hj; omega
  subst this; rfl
theorem IntT.struct {P : Program} {t : TypeId} {fs : Array Field} (ht : P.underlying t = some (.struct fs)) (hf : ∀ f ∈ fs.toList, IntT P f.type)
    (hcov : ((List.range (P.cellsOf t)).all fun j => fs.toList.any fun f => decide (f.offset ≤ j) && decide (j < f.offset + P.cellsOf f.type)) = true) : IntT P t := by
  intro H enc w base spare held fuel cs x h
  obtain ⟨xs, n, _, _, hlen, hxl, hg⟩ := DataW.trod_struct ht h
  refine ⟨hlen, fun j hj => ?_⟩
  have h1 := List.all_eq_true.1 hcov j (List.mem_range.2 (by omega))
  obtain ⟨f, hfm, h2⟩ := List.any_eq_true.1 h1
  simp only [Bool.and_eq_true, decide_eq_true_eq] at h2
  obtain ⟨i, hi, hfi⟩ := List.getElem_of_mem hfm
  have hfs : fs[i]? = some f := by
    rw [← Array.getElem?_toList, List.getElem?_eq_getElem hi, hfi]
  have hi2 : i < xs.length := by simpa [hxl] using hi
  have h3 := hg i f hfs
  rw [List.getElem?_eq_getElem hi2] at h3
  obtain ⟨h4, h5⟩ := hf f hfm _ _ _ _ _ _ _ _ _ h3
  obtain ⟨m, hm⟩ := h5 (j - f.offset) (by omega)
  refine ⟨m, ?_⟩
  rw [List.getElem?_take] at hm
  split at hm
  · rw [List.getElem?_drop, show f.offset + (j - f.offset) = j by omega] at hm; exact hm
  · cases hm

/-- A slice of rows of whole numbers, as it is given. -/
structure Given {α : Type} (w : World) (v : Value) (f : α → List Value) (l : List α) (x : Imp) : Prop where
  ok : ∀ (i : Nat) u, x.cs[i]? = some u → w.cell? ⟨x.blk, x.off + i, none⟩ = some u ∧ flat1 u = true
  cs : x.cs = l.flatMap f
  v : (v = .slice none 0 0 ∧ l = []) ∨ ∃ cap, v = .slice (some ⟨x.blk, x.off, none⟩) l.length cap ∧ l.length ≤ cap
theorem flat_get {α : Type} {f : α → List Value} {k : Nat} (hk : 0 < k) : ∀ {l : List α} (_ : ∀ x ∈ l, (f x).length = k) (i : Nat) (u : Value), (l.flatMap f)[i]? = some u → ∃ x, l[i / k]? = some x ∧ (f x)[i % k]? = some u
  | [], _, i, u, h => by simp at h
  | y :: r, hl, i, u, h => by
    have hy := hl y (List.mem_cons_self ..)
    rw [List.flatMap_cons, List.getElem?_append] at h
    split at h
    · rename_i q
      rw [hy] at q
      refine ⟨y, ?_, ?_⟩
      · rw [Nat.div_eq_of_lt q]; rfl
      · rw [Nat.mod_eq_of_lt q]; exact h
    · rename_i q
      rw [hy] at q h
      obtain ⟨x, h1, h2⟩ := flat_get hk (fun x hx => hl x (List.mem_cons_of_mem _ hx)) _ u h
      refine ⟨x, ?_, ?_⟩
      · rw [Nat.div_eq_sub_div hk (by omega)]; exact h1
      · rw [Nat.mod_eq_sub_mod (by omega)]; exact h2
theorem Given.rel {α : Type} {w : World} {v : Value} {f : α → List Value} {l : List α} {x : Imp} (g : Given w v f l x) {r : Ren} {H : Hp} {b : Nat} (hr : r b = some ⟨x.blk, x.off, none⟩) (hb : b < H.next) (hc : cellsOf H b = some x.cs) (hro : H.t.get b = some (.ro x.cs)) :
    ∃ a cap, VR r (.slice a l.length cap) v ∧ Sl H a l.length cap (l.flatMap f) ∧ ∀ b, a = some ⟨b, 0, none⟩ → H.t.get b = some (.ro (l.flatMap f)) := by
  rcases g.v with ⟨rfl, rfl⟩ | ⟨cap, rfl, hl⟩
  · exact ⟨none, 0, .nilSlice, .inl ⟨.inl rfl, rfl, rfl, rfl⟩, fun b e => by cases e⟩
  · refine ⟨some ⟨b, 0, none⟩, cap, ?_, .inr ⟨b, rfl, ⟨hb, by rw [hc, g.cs]⟩, hl⟩, fun b' e => by cases e; rw [hro, g.cs]⟩
    have := VR.slice (o := 0) (n := l.length) (c := cap) hr rfl hl
    simpa using this
end Go.Ax

/-! Slices of rows of plain cells, as arguments. -/
namespace Go.Ax
open Go Go.RowKit Go.Proofs Go.ChangeShapes Go.WideShapes Go.Deep

theorem IntT.row {α : Type} {P : Program} {t : TypeId} {k : Nat} {f : α → List Value} {mk : (Nat → Int) → α} (h : IntT P t) (hc : P.cellsOf t = k) (hmk : ∀ N : Nat → Int, f (mk N) = (List.range k).map fun j => Value.int .i64 (N j))
    {H : Type} {enc : TypeId × Value → H} {w : World} {base : Nat} {spare : Nat → Bool} {held : Bool} (fuel : Nat) (cs : List Value) (x : DataW H × List MemPlace) (hx : DataW.trod enc P w base spare held fuel t cs = some x) : ∃ y : α, cs = f y ∧ True := by
  obtain ⟨h1, h2⟩ := h _ _ _ _ _ _ _ _ _ hx
  have : ∃ N : Nat → Int, ∀ j, j < cs.length → cs[j]? = some (.int .i64 (N j)) := by
    refine ⟨fun j => match cs[j]? with | some (.int _ n) => n | _ => 0, fun j hj => ?_⟩
    obtain ⟨n, hn⟩ := h2 j hj
    simp [hn]
  obtain ⟨N, hN⟩ := this
  refine ⟨mk N, ?_, trivial⟩
  rw [hmk]
  apply List.ext_getElem?
  intro j
  by_cases hj : j < k
  · rw [hN j (by omega), List.getElem?_map, List.getElem?_range hj]; rfl
  · rw [List.getElem?_eq_none (by omega), List.getElem?_eq_none (by simp; omega)]
theorem spot_of {w : World} {a : Addr} {v : Value} (h : w.cell? a = some v) : a.spot = none := by
  unfold World.cell? at h
  split at h
  · cases hs : a.spot with
    | none => rfl
    | some x => rw [hs] at h; simp at h
  · cases h
theorem add_zero' (a : Addr) : a.add 0 = a := by unfold Addr.add; simp
theorem add_plain (b o n : Nat) : (⟨b, o, none⟩ : Addr).add n = ⟨b, o + n, none⟩ := by
  unfold Addr.add
  by_cases q : n = 0
  · simp [q]
  · simp [q]
/-- A slice of rows, as it is read; Q: what else is known of a row. -/
theorem rows_read {H : Type} {enc : TypeId × Value → H} {P : Program} {w : World} {base : Nat} {held : Bool} {α : Type} {f : α → List Value} {Q : α → Prop} {k : Nat} {t e : TypeId} {fuel : Nat} {v : Value} {x : DataW H × List MemPlace}
    (ht : P.underlying t = some (.slice e)) (hR : ∀ (fuel : Nat) (cs : List Value) (x : DataW H × List MemPlace), DataW.trod enc P w base (fun _ => true) held fuel e cs = some x → ∃ y : α, cs = f y ∧ Q y) (hc : P.cellsOf e = k) (hk : 0 < k) (hfk : ∀ y, (f y).length = k)
    (h : DataW.trod enc P w base (fun _ => true) held fuel t [v] = some x) : ∃ (l : List α), l.length ≤ maxLen ∧ (∀ y ∈ l, Q y) ∧
      (((v = .slice none 0 0 ∨ ∃ a', v = .slice (some a') 0 0) ∧ l = []) ∨ ∃ blk off cap, v = .slice (some ⟨blk, off, none⟩) l.length cap ∧ l.length ≤ cap ∧ ∀ (i : Nat) u, (l.flatMap f)[i]? = some u → w.cell? ⟨blk, off + i, none⟩ = some u) := by
  rcases open_slice ht h with ⟨h0, _⟩ | ⟨a, len, cap, m, n, D, Pl, hcs, hb, hl, hm, hmm, hx, hi⟩
  · cases h0
    exact ⟨[], by simp, fun y hy => by simp at hy, .inl ⟨.inl rfl, rfl⟩⟩
  cases hcs
  simp only [if_true] at hmm
  subst hmm
  rcases Nat.eq_zero_or_pos m with h0 | h0
  · subst h0
    have : len = 0 := by omega
    subst this
    exact ⟨[], by simp, fun y hy => by simp at hy, .inl ⟨.inr ⟨_, rfl⟩, rfl⟩⟩
  obtain ⟨blk, off, spot⟩ := a
  have hs : spot = none := by
    obtain ⟨cs', h1, h2⟩ := hi 0 h0
    obtain ⟨y, hy, _⟩ := hR _ _ _ h2
    obtain ⟨_, h5, h6⟩ := World.cells?_some h1
    have h7 := h6 0 (by omega)
    rw [Nat.zero_mul, add_zero', add_zero'] at h7
    have h8 : cs'[0]? = some (cs'[0]'(by omega)) := List.getElem?_eq_getElem _
    rw [h8] at h7
    exact spot_of h7
  subst hs
  have hrow : ∀ i, i < len → ∃ y : α, Q y ∧ ∀ j, j < k → ∃ u, (f y)[j]? = some u ∧ w.cell? ⟨blk, off + (i * k + j), none⟩ = some u := by
    intro i hil
    obtain ⟨cs', h1, h2⟩ := hi i (by omega)
    obtain ⟨y, rfl, hq⟩ := hR _ _ _ h2
    obtain ⟨_, h5, h6⟩ := World.cells?_some h1
    refine ⟨y, hq, fun j hj => ?_⟩
    have h7 := h6 j (by omega)
    have h8 : (f y)[j]? = some ((f y)[j]'(by rw [hfk]; exact hj)) := List.getElem?_eq_getElem _
    rw [h8, hc, add_plain, add_plain, Nat.add_assoc] at h7
    exact ⟨_, h8, h7⟩
  have key : ∀ n, n ≤ len → ∃ l : List α, l.length = n ∧ (∀ y ∈ l, Q y) ∧ ∀ (i : Nat) y, l[i]? = some y → ∀ j, j < k → ∃ u, (f y)[j]? = some u ∧ w.cell? ⟨blk, off + (i * k + j), none⟩ = some u := by
    intro n
    induction n with
    | zero => intro _; exact ⟨[], rfl, fun y hy => by simp at hy, fun i y e => by simp at e⟩
    | succ n ih =>
      intro hn
      obtain ⟨l, h1, hq, h2⟩ := ih (by omega)
      obtain ⟨y, hyq, hy⟩ := hrow n (by omega)
      refine ⟨l ++ [y], by simp [h1], fun z hz => ?_, fun i z e => ?_⟩
      · simp only [List.mem_append, List.mem_singleton] at hz
        rcases hz with hz | rfl
        · exact hq z hz
        · exact hyq
      rw [List.getElem?_append] at e
      split at e
      · exact h2 i z e
      · rename_i q
        have : i = n := by have := get_lt e; simp at this; omega
        subst this
        rw [h1, Nat.sub_self] at e
        simp at e; subst e
        exact hy
  obtain ⟨l, hl1, hq, hl2⟩ := key len (Nat.le_refl _)
  refine ⟨l, by omega, hq, .inr ⟨blk, off, m, by rw [hl1], by omega, fun i u hu => ?_⟩⟩
  obtain ⟨y, h1, h2⟩ := flat_get hk (fun y _ => hfk y) i u hu
  have hj : i % k < k := Nat.mod_lt _ hk
  obtain ⟨u', e1, e2⟩ := hl2 _ y h1 _ hj
  rw [h2] at e1; cases e1
  rw [Nat.div_add_mod'] at e2
  exact e2
end Go.Ax

/-! Arguments that point to what points: inner slices, rows of slices. -/
namespace Go.Ax
open Go Go.RowKit Go.Proofs Go.ChangeShapes Go.WideShapes Go.Deep

def renOf (imps : List Imp) : Ren := fun b => (imps[b]?).map fun x => ⟨x.blk, x.off, none⟩
theorem imports3 {P : Program} (imps outs : List Imp) (w : World) (h : ∀ x ∈ imps, ∀ (i : Nat) v, x.cs[i]? = some v → w.cell? ⟨x.blk, x.off + i, none⟩ = some v ∧ flat1 v = true)
    (hcs : ∀ x ∈ outs, ∀ (i : Nat) v, x.cs[i]? = some v → ∃ v', w.cell? ⟨x.blk, x.off + i, none⟩ = some v' ∧ VR (renOf imps) v v') :
    ∃ (r : Ren) (H : Hp), Rel P r w.heap.size H w ∧ H.next = (imps ++ outs).length ∧ (∀ b loc, r b = some loc → b < H.next) ∧ Ren.Le (renOf imps) r ∧ ∀ (b : Nat) x, (imps ++ outs)[b]? = some x → r b = some ⟨x.blk, x.off, none⟩ ∧ H.t.get b = some (.ro x.cs) := by
  have hall : ∀ x ∈ imps ++ outs, ∀ (i : Nat) v, x.cs[i]? = some v → ∃ v', w.cell? ⟨x.blk, x.off + i, none⟩ = some v' ∧ VR (renOf imps) v v' := by
    intro x hx i v hv
    rcases List.mem_append.1 hx with hx | hx
    · obtain ⟨h1, h2⟩ := h x hx i v hv
      exact ⟨v, h1, flat1_vr h2⟩
    · exact hcs x hx i v hv
  obtain ⟨t, ht⟩ := tr_of (fun b => ((imps ++ outs)[b]?).map fun x => .ro x.cs) (imps ++ outs).length
  have hle : Ren.Le (renOf imps) (fun b => ((imps ++ outs)[b]?).map fun x => ⟨x.blk, x.off, none⟩) := fun b loc e => by
    unfold renOf at e
    have hlt : b < imps.length := by
      rcases Nat.lt_or_ge b imps.length with q | q
      · exact q
      · rw [List.getElem?_eq_none q] at e; cases e
    show ((imps ++ outs)[b]?).map _ = _
    rw [List.getElem?_append_left hlt]; exact e
  have hr : ∀ (b : Nat) loc, ((imps ++ outs)[b]?).map (fun x => (⟨x.blk, x.off, none⟩ : Loc)) = some loc → ∃ x, (imps ++ outs)[b]? = some x ∧ b < (imps ++ outs).length ∧ loc = ⟨x.blk, x.off, none⟩ ∧ t.get b = some (.ro x.cs) := by
    intro b loc e
    cases hx : (imps ++ outs)[b]? with
    | none => rw [hx] at e; cases e
    | some x =>
      rw [hx] at e
      simp at e
      have hlt := get_lt hx
      exact ⟨x, rfl, hlt, e.symm, by rw [ht, if_pos hlt, hx]; rfl⟩
  have low : ∀ {g o : Nat} {v : Value}, w.cell? ⟨g, o, none⟩ = some v → g < w.heap.size := fun {g o v} hv => by
    unfold World.cell? at hv
    rcases Nat.lt_or_ge g w.heap.size with q | q
    · exact q
    · rw [Array.getElem?_eq_none q] at hv; cases hv
  refine ⟨fun b => ((imps ++ outs)[b]?).map fun x => ⟨x.blk, x.off, none⟩, { next := (imps ++ outs).length, t }, ⟨?_, ?_, ?_, Nat.le_refl _⟩, rfl, ?_, hle, ?_⟩
  · intro b loc e
    obtain ⟨x, hx, hlt, rfl, hg⟩ := hr b loc e
    refine ⟨hlt, ?_⟩
    show Dm _ _ _ (t.get b)
    rw [hg]
    cases hc : x.cs with
    | nil => exact .inl rfl
    | cons v l =>
      obtain ⟨v', h1, _⟩ := hall x (List.mem_of_getElem? hx) 0 v (by rw [hc]; rfl)
      exact .inr (low h1)
  · intro b loc o e eo
    obtain ⟨x, hx, hlt, rfl, hg⟩ := hr b loc e
    rw [hg] at eo; cases eo
    refine ⟨rfl, fun i v ev => ?_⟩
    obtain ⟨v', h1, h2⟩ := hall x (List.mem_of_getElem? hx) i v ev
    unfold World.cell? at h1
    simp only at h1
    split at h1
    · rename_i C e' f hC
      exact ⟨C, e', f, v', hC, by simpa using h1, h2.mono hle⟩
    · cases h1
  · intro b b' loc loc' e e' _ hl _
    obtain ⟨x, hx, hlt, rfl, hg⟩ := hr b loc e
    obtain ⟨o, h1, h2, h3⟩ := hl
    have : t.get b = some o := h1
    rw [hg] at this; cases this
    cases h3
  · intro b loc e
    obtain ⟨x, hx, hlt, rfl, hg⟩ := hr b loc e
    exact hlt
  · intro b x hx
    have hlt := get_lt hx
    refine ⟨by simp only [hx, Option.map_some], ?_⟩
    show t.get b = _
    rw [ht, if_pos hlt, hx]; rfl

/-- An inner slice, as it is given: an empty one may have any address. -/
structure GivI {α : Type} (w : World) (v : Value) (f : α → List Value) (l : List α) (x : Imp) : Prop where
  ok : ∀ (i : Nat) u, x.cs[i]? = some u → w.cell? ⟨x.blk, x.off + i, none⟩ = some u ∧ flat1 u = true
  cs : x.cs = l.flatMap f
  v : ((v = .slice none 0 0 ∨ ∃ a', v = .slice (some a') 0 0) ∧ l = []) ∨ ∃ cap, v = .slice (some ⟨x.blk, x.off, none⟩) l.length cap ∧ l.length ≤ cap
theorem givI_of {H : Type} {enc : TypeId × Value → H} {P : Program} {w : World} {base : Nat} {held : Bool} {α : Type} {f : α → List Value} {Q : α → Prop} {k : Nat} {t e : TypeId} {fuel : Nat} {v : Value} {x : DataW H × List MemPlace}
    (ht : P.underlying t = some (.slice e)) (hR : ∀ (fuel : Nat) (cs : List Value) (x : DataW H × List MemPlace), DataW.trod enc P w base (fun _ => true) held fuel e cs = some x → ∃ y : α, cs = f y ∧ Q y) (hc : P.cellsOf e = k) (hk : 0 < k) (hfk : ∀ y, (f y).length = k) (hflat : ∀ y u, u ∈ f y → flat1 u = true)
    (h : DataW.trod enc P w base (fun _ => true) held fuel t [v] = some x) : ∃ (l : List α) (y : Imp), GivI w v f l y := by
  obtain ⟨l, h1, h2, ⟨h3, rfl⟩ | ⟨blk, off, cap, h3, h4, h5⟩⟩ := rows_read ht hR hc hk hfk h
  · exact ⟨[], ⟨0, 0, []⟩, ⟨fun i u e => by simp at e, rfl, .inl ⟨h3, rfl⟩⟩⟩
  · refine ⟨l, ⟨blk, off, l.flatMap f⟩, ⟨fun i u hu => ⟨h5 i u hu, ?_⟩, rfl, .inr ⟨cap, h3, h4⟩⟩⟩
    obtain ⟨y, hy, hu'⟩ := List.mem_flatMap.1 (List.mem_of_getElem? hu)
    exact hflat y u hu'
theorem GivI.rel {α : Type} {w : World} {v : Value} {f : α → List Value} {l : List α} {x : Imp} (g : GivI w v f l x) {r : Ren} {b : Nat} (hr : r b = some ⟨x.blk, x.off, none⟩) :
    ∃ a cap, VR r (.slice a l.length cap) v ∧ (∀ y, a = some ⟨y, 0, none⟩ → y = b) ∧ ∀ H : Hp, b < H.next → H.t.get b = some (.ro x.cs) → Sl H a l.length cap (l.flatMap f) := by
  rcases g.v with ⟨rfl | ⟨a', rfl⟩, rfl⟩ | ⟨cap, rfl, hl⟩
  · exact ⟨none, 0, .nilSlice, fun y e => by (cases e), fun H _ _ => .inl ⟨.inl rfl, rfl, rfl, rfl⟩⟩
  · exact ⟨some ⟨0, 0, some 0⟩, 0, .weird, fun y e => by (cases e), fun H _ _ => .inl ⟨.inr rfl, rfl, rfl, rfl⟩⟩
  · refine ⟨some ⟨b, 0, none⟩, cap, ?_, fun y e => by (cases e; rfl), fun H hb hc => .inr ⟨b, rfl, ⟨hb, by unfold cellsOf; rw [hc, g.cs]⟩, hl⟩⟩
    have := VR.slice (o := 0) (n := l.length) (c := cap) hr rfl hl
    simpa using this
/-- A list of rows that point elsewhere, as it is given. -/
structure GivO {α : Type} (w : World) (v : Value) (f : α → List Value) (l : List α) (x : Imp) : Prop where
  cs : ∀ (i : Nat) u, (l.flatMap f)[i]? = some u → w.cell? ⟨x.blk, x.off + i, none⟩ = some u
  v : ((v = .slice none 0 0 ∨ ∃ a', v = .slice (some a') 0 0) ∧ l = []) ∨ ∃ cap, v = .slice (some ⟨x.blk, x.off, none⟩) l.length cap ∧ l.length ≤ cap
theorem givO_of {w : World} {α : Type} {f : α → List Value} {Q : α → Prop} {v : Value} {l : List α} (h : ((v = .slice none 0 0 ∨ ∃ a', v = .slice (some a') 0 0) ∧ l = []) ∨ ∃ blk off cap, v = .slice (some ⟨blk, off, none⟩) l.length cap ∧ l.length ≤ cap ∧ ∀ (i : Nat) u, (l.flatMap f)[i]? = some u → w.cell? ⟨blk, off + i, none⟩ = some u) : ∃ x : Imp, GivO w v f l x := by
  rcases h with ⟨h1, rfl⟩ | ⟨blk, off, cap, h1, h2, h3⟩
  · exact ⟨⟨0, 0, []⟩, fun i u e => by simp at e, .inl ⟨h1, rfl⟩⟩
  · exact ⟨⟨blk, off, []⟩, h3, .inr ⟨cap, h1, h2⟩⟩
structure RV where
  rv : Value
  l : List Int
  x : Imp
def RV.f (r : RV) : List Value := [r.rv]
def RV.Q (w : World) (r : RV) : Prop := GivI w r.rv (fun n : Int => [iv n]) r.l r.x
end Go.Ax

/-! Machines and what is flat as arguments. -/
namespace Go.Ax
open Go Go.RowKit Go.Proofs Go.ChangeShapes Go.WideShapes Go.Deep

/-- A machine, as it is given. -/
structure MV where
  rv : Value
  l : List Ou
  x : Imp
def MV.f (r : MV) : List Value := [r.rv]
def MV.Q (w : World) (r : MV) : Prop := GivI w r.rv Ou.f r.l r.x
theorem rows_abs {w : World} {imps : List Imp} : ∀ (L : List MV) (pre post : List Imp), imps = pre ++ L.map MV.x ++ post → (∀ b ∈ L, b.Q w) → ∃ bs : List Mc, bs.length = L.length ∧ LR (renOf imps) (mcc bs) (L.flatMap MV.f) ∧
    ∀ (H : Hp) (f : Nat), imps.length ≤ f → (∀ (b : Nat) x, imps[b]? = some x → b < H.next ∧ H.t.get b = some (.ro x.cs)) → ∀ b ∈ bs, Sl H b.ra b.n b.cap (ouc b.l) ∧ b.l.length = b.n ∧ ∀ x, b.ra = some ⟨x, 0, none⟩ → x < f ∧ Fy H x (ouc b.l)
  | [], _, _, _, _ => ⟨[], rfl, .nil, fun _ _ _ _ b hb => by simp at hb⟩
  | b :: L, pre, post, he, hq => by
    obtain ⟨bs, e1, e2, e3⟩ := rows_abs (imps := imps) L (pre ++ [b.x]) post (by rw [he]; simp) (fun x hx => hq x (List.mem_cons_of_mem _ hx))
    have q := hq b (List.mem_cons_self ..)
    have i1 : imps[pre.length]? = some b.x := by rw [he]; simp
    obtain ⟨a1, c1, r1, y1, l1⟩ := GivI.rel q (r := renOf imps) (b := pre.length) (by unfold renOf; rw [i1]; rfl)
    refine ⟨⟨a1, b.l.length, c1, b.l⟩ :: bs, by simp [e1], ?_, fun H f hf hH x hx => ?_⟩
    · show LR (renOf imps) (.slice a1 b.l.length c1 :: mcc bs) (b.rv :: L.flatMap MV.f)
      exact .cons r1 e2
    · simp only [List.mem_cons] at hx
      rcases hx with rfl | hx
      · obtain ⟨b1, d1⟩ := hH _ _ i1
        exact ⟨l1 H b1 d1, rfl, fun x e => by
          have e2 := y1 x e; have := get_lt i1; subst e2
          exact ⟨by omega, b1, .inl (by rw [d1, q.cs]; rfl)⟩⟩
      · exact e3 H f hf hH x hx
/-- Some plain lists, and a list of rows. -/
theorem imports_rows {P : Program} (pre : List Imp) {w : World} {s2 : Value} {L2 : List MV} {x2 : Imp} (g2 : GivO w s2 MV.f L2 x2) (q2 : ∀ b ∈ L2, b.Q w) (h : ∀ x ∈ pre, ∀ (i : Nat) v, x.cs[i]? = some v → w.cell? ⟨x.blk, x.off + i, none⟩ = some v ∧ flat1 v = true) :
    ∃ (r : Ren) (H : Hp) (ra : Option Addr) (rn rcap : Nat) (rs : List Mc), Rel P r w.heap.size H w ∧ (∀ b loc, r b = some loc → b < H.next) ∧ (∀ (b : Nat) x, pre[b]? = some x → b < H.next ∧ r b = some ⟨x.blk, x.off, none⟩ ∧ H.t.get b = some (.ro x.cs)) ∧ Mcs H H.next ra rn rcap rs ∧
      VR r (.slice ra rn rcap) s2 ∧ (rn = 0 ∨ ∃ x, ra = some ⟨x, 0, none⟩ ∧ x < H.next ∧ H.t.get x = some (.ro (mcc rs))) := by
  obtain ⟨rs, r1, r2, r3⟩ := rows_abs (w := w) (imps := pre ++ L2.map MV.x) L2 pre [] (by simp) q2
  obtain ⟨imps, himps⟩ : ∃ imps, imps = pre ++ L2.map MV.x := ⟨_, rfl⟩
  rw [← himps] at r2 r3
  have himp : ∀ x ∈ imps, ∀ (i : Nat) v, x.cs[i]? = some v → w.cell? ⟨x.blk, x.off + i, none⟩ = some v ∧ flat1 v = true := by
    intro x hx
    rw [himps] at hx
    simp only [List.mem_append, List.mem_map] at hx
    rcases hx with hx | ⟨y, hy, rfl⟩
    · exact h x hx
    · exact (q2 y hy).ok
  obtain ⟨r, H, h1, h2, h3, h4, h5⟩ := imports3 (P := P) imps [⟨x2.blk, x2.off, mcc rs⟩] w himp (by
    intro x hx i u hu
    simp only [List.mem_cons, List.not_mem_nil, or_false] at hx
    subst hx
    have hlt := get_lt hu
    have hlt2 : i < (L2.flatMap MV.f).length := by rw [← r2.1]; exact hlt
    have hu2 := List.getElem?_eq_getElem hlt2
    exact ⟨_, g2.cs i _ hu2, r2.2 i u _ hu hu2⟩)
  have hnx : H.next = imps.length + 1 := by rw [h2]; simp
  have hg5 : ∀ (b : Nat) x, imps[b]? = some x → r b = some ⟨x.blk, x.off, none⟩ ∧ H.t.get b = some (.ro x.cs) := fun b x hx => h5 b x (by rw [List.getElem?_append_left (get_lt hx)]; exact hx)
  have hH : ∀ (b : Nat) x, imps[b]? = some x → b < H.next ∧ H.t.get b = some (.ro x.cs) := fun b x hx => ⟨by have := get_lt hx; omega, (hg5 b x hx).2⟩
  obtain ⟨o1, p1⟩ := h5 imps.length ⟨x2.blk, x2.off, mcc rs⟩ (by simp)
  refine ⟨r, H, ?_⟩
  have hlen : L2.length = rs.length := r1.symm
  have rows := r3 H H.next (by omega) hH
  have pres : ∀ (b : Nat) x, pre[b]? = some x → b < H.next ∧ r b = some ⟨x.blk, x.off, none⟩ ∧ H.t.get b = some (.ro x.cs) := fun b x hx => by
    have hx2 : imps[b]? = some x := by rw [himps, List.getElem?_append_left (get_lt hx)]; exact hx
    exact ⟨(hH b x hx2).1, hg5 b x hx2⟩
  rcases g2.v with ⟨rfl | ⟨a', rfl⟩, e⟩ | ⟨cap, rfl, hl⟩
  · have e2 : rs = [] := List.eq_nil_of_length_eq_zero (by rw [r1, e]; rfl)
    subst e2
    exact ⟨none, 0, 0, [], h1, h3, pres, ⟨.inl ⟨.inl rfl, rfl, rfl⟩, rfl, fun r hr => by simp at hr⟩, .nilSlice, .inl rfl⟩
  · have e2 : rs = [] := List.eq_nil_of_length_eq_zero (by rw [r1, e]; rfl)
    subst e2
    exact ⟨some ⟨0, 0, some 0⟩, 0, 0, [], h1, h3, pres, ⟨.inl ⟨.inr rfl, rfl, rfl⟩, rfl, fun r hr => by simp at hr⟩, .weird, .inl rfl⟩
  · have hb : imps.length < H.next := by omega
    refine ⟨some ⟨imps.length, 0, none⟩, rs.length, cap, rs, h1, h3, pres, ⟨.inr ⟨imps.length, 0, mcc rs, rfl, ⟨hb, by unfold cellsOf; rw [p1]⟩, hb, by omega, fun i r hr => by have := mcc_row hr; simpa using this⟩, rfl, rows⟩, ?_, .inr ⟨_, rfl, hb, p1⟩⟩
    have := VR.slice (o := 0) (n := L2.length) (c := cap) o1 rfl hl
    rw [hlen] at this
    simpa [hlen] using this
end Go.Ax


import Derived.Test.YtbgdbnnbfankeaaMb
import Derived.Test.YtbgdbnnbfankeaaChecked
import Derived.Test.YtbgdbnnbfankeaaAxO
import Derived.Deep.Slices
import Derived.Deep.Fields
import Derived.ChangeSame
set_option linter.all false
/-
  Plant: Rate, Late, Freezes, the law PlantFaster (written by program).
-/
namespace Go.Ax
open Go Go.RowKit Go.Proofs

theorem lrJ_yes {us : List Fz} {i j : Nat} {r : Int} (h : rdF us i < duF us j) : lrJ us i r (j + 1) = max (lrJ us i r j) (brt us i j) := by
  show (if _ then _ else _) = _; rw [if_pos h]
theorem lrJ_no {us : List Fz} {i j : Nat} {r : Int} (h : ¬ rdF us i < duF us j) : lrJ us i r (j + 1) = lrJ us i r j := by
  show (if _ then _ else _) = _; rw [if_neg h]
/-- the error of Rate -/
def ratE (us : List Fz) : Int := if chkF us = 0 then (if noT us us.length then 4 else 0) else chkF us
def ratV (us : List Fz) : Int := if ratE us = 0 then lrI us us.length else 0
theorem noT_succ (us : List Fz) (k : Nat) : noT us (k + 1) = (noT us k || decide (0 < msF us k ∧ rdF us k = duF us k)) := any_succ _ k
theorem noT_hit {us : List Fz} {i n : Nat} (hi : i < n) (h : 0 < msF us i ∧ rdF us i = duF us i) : noT us n = true := List.any_eq_true.2 ⟨i, List.mem_range.2 hi, decide_eq_true h⟩
/-- is one of them above? -/
def lateG (us : List Fz) (f : Nat → Int) (k : Nat) : Bool := (List.range k).any fun x => decide (duF us x < f x)
theorem lateG_succ (us : List Fz) (f : Nat → Int) (k : Nat) : lateG us f (k + 1) = (lateG us f k || decide (duF us k < f k)) := any_succ _ k
theorem lateG_hit {us : List Fz} {f : Nat → Int} {i n : Nat} (hi : i < n) (h : duF us i < f i) : lateG us f n = true := List.any_eq_true.2 ⟨i, List.mem_range.2 hi, decide_eq_true h⟩
section
variable {kn : FuncId → Option Bool} {lo : Nat} {H : Hp}
/-- the document's Freezes -/
theorem freezes_ok {sa : Option Addr} {n cap : Nat} {us : List Fz} (hs : Sl H sa n cap (fzc us)) (hl : us.length = n) (hn2 : n ≤ 1000000) (hlo : lo ≤ H.next) : ∃ H', FnX Try.prog kn lo 39 [.slice sa n cap] H (.bool (us.all Fz.ok)) H' ∧ Keep H H' [] := by
  have key := fnX_low (kn := kn) (lo := lo) (H := H) (args := [.slice sa n cap]) (Q := fun w H' => w = .bool (us.all Fz.ok) ∧ Keep H H' []) Try.func39 B39 N39 Z39 L39 (by simp) ?_
  · obtain ⟨w, H', h, rfl, q⟩ := key; exact ⟨H', h, q⟩
  have hk := Keep.refl H []
  have fs := hs.old
  refine wN_seq ?_
  refine wN_mov (v := .bool false) rfl ?_
  refine wN_end ?_
  refine wN_seq ?_
  refine wN_mov (v := iv 0) rfl ?_
  refine wN_end ?_
  refine loop_low (fn := Try.f39) E39_1 N39 L39x1 (fun i : Nat => [(0, .slice sa n cap), (3, iv (i : Int))])
    (fun k i H' => i + k = n ∧ Keep H H' [] ∧ Sl H' sa n cap (fzc us) ∧ (us.take i).all Fz.ok = true) n 0 ⟨by omega, hk, hs, rfl⟩ ⟨rfl, rfl, trivial⟩ ?_
  rintro k i L1 ⟨hik, hk, hs, hall⟩
  have mki := hk.1
  have fs := hs.old
  refine wN_seq ?_
  refine wN_mov (v := iv (i : Int)) rfl ?_
  refine wN_mov (v := .slice sa n cap) rfl ?_
  refine wN_len (m := n) rfl ?_
  refine wN_c_lss (a := (i : Int)) (b := (n : Int)) rfl rfl ?_
  refine wN_end ?_
  refine And.intro (fun q1 => ?_) (fun q1 => ?_)
  · have q1 : (i : Int) < (n : Int) := of_decide_eq_true q1
    have hi : i < n := by omega
    obtain ⟨x, hx⟩ := get_some (l := us) (i := i) (by omega)
    rcases id hs with ⟨_, h0, _⟩ | ⟨sb, es, rs, _⟩
    · omega
    have lsb := rs.lt
    first | refine wN_skip ?_ | skip
    refine wN_seq ?_
    refine wN_mov (v := .slice sa n cap) rfl ?_
    refine wN_mov (v := iv (i : Int)) rfl ?_
    refine wN_idx (b := sb) (o := 0) (k := i) (j := (i : Int)) (by rw [← es]; rfl) rfl rfl (by omega) ?_
    refine wN_lda (b := sb) (o := 0 + i * 3) rfl rs (fzc_row hx) ?_
    refine wN_alc ?_
    intro H1 kH1 nH1 c1
    have c1 : Cl H1 L1.next [iv 0, iv 0, iv 0] := c1
    have mH1 := kH1.1
    have hk := hk.trans kH1
    have hs := kH1.sl0 hs
    have rs := kH1.rd rs (by simp)
    refine wN_sta (b := L1.next) (o := 0) rfl rfl c1 (by omega) rfl rfl (by simp) ?_
    intro H2 kH2 nH2 sH2
    have mH2 := kH2.1
    have hk := hk.new kH2 (fun b hb => by simp at hb ⊢; omega)
    have hs := kH2.sl hs (fun b e => by have := fs b e; first | (simp; done) | (simp; omega))
    have rs := kH2.rd rs (by first | (simp; done) | (simp; omega))
    have c1 : Cl H2 L1.next [iv x.rd, iv x.du, iv x.ms] := sH2
    refine wN_end ?_
    refine wN_seq ?_
    refine wN_addo (b := L1.next) (o := 0) rfl ?_
    refine wN_ld (b := L1.next) (o := 0) (v := iv x.rd) rfl c1.rd rfl ?_
    refine wN_callB rfl (in50_ok) ?_
    intro tH3 H3 hH3 kH3
    have mH3 := kH3.1
    have hk := hk.trans kH3
    have hs := kH3.sl0 hs
    have rs := kH3.rd rs (by simp)
    have c1 := kH3.cl c1 (by simp)
    cases tH3
    · have fhH3 := inB_f hH3
      refine wN_pur (v := .bool true) rfl rfl ?_
      refine wN_mov (v := .bool true) rfl ?_
      refine wN_gs rfl ?_
      refine wN_gs rfl ?_
      refine wN_gs rfl ?_
      refine wN_gs rfl ?_
      refine wN_gs rfl ?_
      refine wN_gs rfl ?_
      refine wN_pur (v := .bool true) rfl rfl ?_
      refine wN_mov (v := .bool true) rfl ?_
      refine wN_gs rfl ?_
      refine wN_gs rfl ?_
      refine wN_gs rfl ?_
      refine wN_gs rfl ?_
      refine wN_pur (v := .bool true) rfl rfl ?_
      refine wN_end ?_
      refine condT ?_
      have hok : x.ok = false := Bool.eq_false_iff.2 (fun h => by have := Fz.ok_t h; omega)
      refine wN_seq ?_
      refine wN_mov (v := .bool false) rfl ?_
      refine wN_end ?_
      exact And.intro trivial (Exists.intro _ (And.intro rfl ⟨congrArg Value.bool (show false = us.all Fz.ok from (by symm; rw [all_fail hx hok])), hk⟩))
    · have fhH3 := inB_t hH3
      refine wN_pur (v := .bool false) rfl rfl ?_
      refine wN_mov (v := .bool false) rfl ?_
      refine wN_g rfl (wN_addo (b := L1.next) (o := 0) rfl ?_)
      refine wN_g rfl (wN_ld (b := L1.next) (o := 1) (v := iv x.du) rfl c1.rd rfl ?_)
      refine wN_g rfl (wN_addo (b := L1.next) (o := 0) rfl ?_)
      refine wN_g rfl (wN_ld (b := L1.next) (o := 0) (v := iv x.rd) rfl c1.rd rfl ?_)
      refine wN_g rfl (wN_callB rfl (in50_ok) ?_)
      intro tH4 H4 hH4 kH4
      have mH4 := kH4.1
      have hk := hk.trans kH4
      have hs := kH4.sl0 hs
      have rs := kH4.rd rs (by simp)
      have c1 := kH4.cl c1 (by simp)
      cases tH4
      · have fhH4 := inB_f hH4
        refine wN_g rfl (wN_pur (v := .bool true) rfl rfl ?_)
        refine wN_pur (v := .bool true) rfl rfl ?_
        refine wN_mov (v := .bool true) rfl ?_
        refine wN_gs rfl ?_
        refine wN_gs rfl ?_
        refine wN_gs rfl ?_
        refine wN_gs rfl ?_
        refine wN_pur (v := .bool true) rfl rfl ?_
        refine wN_end ?_
        refine condT ?_
        have hok : x.ok = false := Bool.eq_false_iff.2 (fun h => by have := Fz.ok_t h; omega)
        refine wN_seq ?_
        refine wN_mov (v := .bool false) rfl ?_
        refine wN_end ?_
        exact And.intro trivial (Exists.intro _ (And.intro rfl ⟨congrArg Value.bool (show false = us.all Fz.ok from (by symm; rw [all_fail hx hok])), hk⟩))
      · have fhH4 := inB_t hH4
        refine wN_g rfl (wN_pur (v := .bool false) rfl rfl ?_)
        refine wN_pur (v := .bool false) rfl rfl ?_
        refine wN_mov (v := .bool false) rfl ?_
        refine wN_g rfl (wN_addo (b := L1.next) (o := 0) rfl ?_)
        refine wN_g rfl (wN_ld (b := L1.next) (o := 2) (v := iv x.ms) rfl c1.rd rfl ?_)
        refine wN_g rfl (wN_callB rfl (in50_ok) ?_)
        intro tH5 H5 hH5 kH5
        have mH5 := kH5.1
        have hk := hk.trans kH5
        have hs := kH5.sl0 hs
        have rs := kH5.rd rs (by simp)
        have c1 := kH5.cl c1 (by simp)
        cases tH5
        · have fhH5 := inB_f hH5
          refine wN_g rfl (wN_pur (v := .bool true) rfl rfl ?_)
          refine wN_pur (v := .bool true) rfl rfl ?_
          refine wN_end ?_
          refine condT ?_
          have hok : x.ok = false := Bool.eq_false_iff.2 (fun h => by have := Fz.ok_t h; omega)
          refine wN_seq ?_
          refine wN_mov (v := .bool false) rfl ?_
          refine wN_end ?_
          exact And.intro trivial (Exists.intro _ (And.intro rfl ⟨congrArg Value.bool (show false = us.all Fz.ok from (by symm; rw [all_fail hx hok])), hk⟩))
        · have fhH5 := inB_t hH5
          refine wN_g rfl (wN_pur (v := .bool false) rfl rfl ?_)
          refine wN_pur (v := .bool false) rfl rfl ?_
          refine wN_end ?_
          refine condF ?_
          have hok : x.ok = true := by unfold Fz.ok; rw [isw_i (by omega), isw_i (by omega), isw_i (by omega)]; rfl
          first | refine wN_skip ?_ | skip
          first | refine wN_reg ?_ | refine wN_blk ?_ | refine wN_bseq ?_ | (refine wOps_nil ?_; refine wN_reg ?_)
          refine wN_mov (v := iv (i : Int)) rfl ?_
          refine wN_add (a := (i : Int)) (b := 1) rfl rfl ⟨by omega, by omega⟩ ?_
          refine wN_mov (v := iv ((i : Int) + 1)) rfl ?_
          refine wN_end ?_
          exact ⟨k - 1, i + 1, by omega, ⟨by omega, hk, hs, by rw [all_step hx, hall, Bool.true_and]; exact hok⟩, rfl, rfl, trivial⟩
  · have q1 : ¬ ((i : Int) < (n : Int)) := of_decide_eq_false q1
    refine wN_seq ?_
    refine wN_mov (v := .bool true) rfl ?_
    refine wN_end ?_
    exact And.intro trivial (Exists.intro _ (And.intro rfl ⟨congrArg Value.bool (show true = us.all Fz.ok from (by symm; rw [List.take_of_length_le (by omega)] at hall; exact hall)), hk⟩))
/-- the document's Late -/
theorem late_ok {a2 : Option Addr} {c2 : Nat} {g : Nat → Int} {sa : Option Addr} {n cap : Nat} {us : List Fz} (hs : Sl H sa n cap (fzc us)) (hl : us.length = n) (hn2 : n ≤ 1000000) (h2 : Sl H a2 n c2 (nf g n)) : ∃ H', FnX Try.prog kn lo 40 [.slice sa n cap, .slice a2 n c2] H (.bool (lateG us g n)) H' ∧ Keep H H' [] := by
  have key := fnX_low (kn := kn) (lo := lo) (H := H) (args := [.slice sa n cap, .slice a2 n c2]) (Q := fun w H' => w = .bool (lateG us g n) ∧ Keep H H' []) Try.func40 B40 N40 Z40 L40 (by simp) ?_
  · obtain ⟨w, H', h, rfl, q⟩ := key; exact ⟨H', h, q⟩
  have hk := Keep.refl H []
  refine wN_seq ?_
  refine wN_mov (v := .bool false) rfl ?_
  refine wN_end ?_
  refine wN_seq ?_
  refine wN_mov (v := iv 0) rfl ?_
  refine wN_end ?_
  refine loop_low (fn := Try.f40) E40_1 N40 L40x1 (fun i : Nat => [(0, .slice sa n cap), (1, .slice a2 n c2), (5, iv (i : Int))])
    (fun k i H' => i + k = n ∧ Keep H H' [] ∧ Sl H' sa n cap (fzc us) ∧ Sl H' a2 n c2 (nf g n) ∧ lateG us g i = false) n 0 ⟨by omega, hk, hs, h2, rfl⟩ ⟨rfl, rfl, rfl, trivial⟩ ?_
  rintro k i L1 ⟨hik, hk, hs, h2, hall⟩
  refine wN_seq ?_
  refine wN_mov (v := iv (i : Int)) rfl ?_
  refine wN_mov (v := .slice sa n cap) rfl ?_
  refine wN_len (m := n) rfl ?_
  refine wN_c_lss (a := (i : Int)) (b := (n : Int)) rfl rfl ?_
  refine wN_end ?_
  refine And.intro (fun q1 => ?_) (fun q1 => ?_)
  · have q1 : (i : Int) < (n : Int) := of_decide_eq_true q1
    have hi : i < n := by omega
    rcases id hs with ⟨_, h0, _⟩ | ⟨sb, es, rs, _⟩
    · omega
    have lsb := rs.lt
    rcases id h2 with ⟨_, h0, _⟩ | ⟨db, e2, r2, _⟩
    · omega
    first | refine wN_skip ?_ | skip
    refine wD_seq ?_
    refine wD_mov (v := .slice a2 n c2) rfl ?_
    refine wD_mov (v := iv (i : Int)) rfl ?_
    refine wD_idx (b := db) (o := 0) (k := i) (j := (i : Int)) (by rw [← e2]; rfl) rfl rfl hi ?_
    refine wD_ld (b := db) (o := 0 + i * 1) (v := iv (g i)) rfl r2 (nf_at (f := g) hi) ?_
    refine wD_mov (v := .slice sa n cap) rfl ?_
    refine wD_mov (v := iv (i : Int)) rfl ?_
    refine wD_idx (b := sb) (o := 0) (k := i) (j := (i : Int)) (by rw [← es]; rfl) rfl rfl (by omega) ?_
    refine wD_addo (b := sb) (o := 0 + i * 3) rfl ?_
    refine wD_ld (b := sb) (o := 0 + i * 3 + 1) (v := iv (duF us i)) rfl rs (by have q := fzc_atF (us := us) (i := i) (j := 1) (by omega) rfl; exact q) ?_
    refine wD_c_gtr (a := (g i)) (b := (duF us i)) rfl rfl ?_
    refine wD_end (by repeat' first | exact True.intro | exact (fun h => h) | refine And.intro ?_ ?_ | (intro h; have h : (_ : Nat) = _ := h; omega)) ?_
    refine And.intro (fun q2 => ?_) (fun q2 => ?_)
    · have q2 : (g i) > (duF us i) := of_decide_eq_true q2
      refine wN_seq ?_
      refine wN_mov (v := .bool true) rfl ?_
      refine wN_end ?_
      exact And.intro trivial (Exists.intro _ (And.intro rfl ⟨congrArg Value.bool (show true = lateG us g n from (by symm; exact lateG_hit hi (by omega))), hk⟩))
    · have q2 : ¬ ((g i) > (duF us i)) := of_decide_eq_false q2
      first | refine wN_skip ?_ | skip
      first | refine wN_reg ?_ | refine wN_blk ?_ | refine wN_bseq ?_ | (refine wOps_nil ?_; refine wN_reg ?_)
      refine wN_mov (v := iv (i : Int)) rfl ?_
      refine wN_add (a := (i : Int)) (b := 1) rfl rfl ⟨by omega, by omega⟩ ?_
      refine wN_mov (v := iv ((i : Int) + 1)) rfl ?_
      refine wN_end ?_
      exact ⟨k - 1, i + 1, by omega, ⟨by omega, hk, hs, h2, by rw [lateG_succ, hall, Bool.false_or]; exact decide_eq_false (by omega)⟩, rfl, rfl, rfl, trivial⟩
  · have q1 : ¬ ((i : Int) < (n : Int)) := of_decide_eq_false q1
    first | (refine wN_exit ?_; show wC _ _ _ _ _ _ _ _ _) | skip
    refine wN_seq ?_
    refine wN_mov (v := .bool false) rfl ?_
    refine wN_end ?_
    exact And.intro trivial (Exists.intro _ (And.intro rfl ⟨congrArg Value.bool (show false = lateG us g n from (by symm; have e : i = n := (by omega); rw [← e]; exact hall)), hk⟩))
theorem clos87_ok {us : List Fz} {i : Nat} (hlo : lo ≤ H.next) : ∃ H', FnX Try.prog kn lo 87 [.agg #[iv (rdF us i), iv (duF us i), iv (msF us i)]] H (.bool (decide (0 < msF us i ∧ rdF us i = duF us i))) H' ∧ Keep H H' [] := by
  have key := fnX_low (kn := kn) (lo := lo) (H := H) (args := [.agg #[iv (rdF us i), iv (duF us i), iv (msF us i)]]) (Q := fun w H' => w = .bool (decide (0 < msF us i ∧ rdF us i = duF us i)) ∧ Keep H H' []) Try.func87 B87 N87 Z87 L87 (by simp) ?_
  · obtain ⟨w, H', h, rfl, q⟩ := key; exact ⟨H', h, q⟩
  have hk := Keep.refl H []
  refine wN_seq ?_
  refine wN_box (v := .agg #[iv (rdF us i), iv (duF us i), iv (msF us i)]) rfl ?_
  intro H1 kH1 nH1 c1
  have c1 : Cl H1 H.next [iv (rdF us i), iv (duF us i), iv (msF us i)] := c1
  have mH1 := kH1.1
  have hk := hk.trans kH1
  refine wN_mov (v := .bool false) rfl ?_
  refine wN_end ?_
  refine wN_seq ?_
  refine wN_addo (b := H.next) (o := 0) rfl ?_
  refine wN_ld (b := H.next) (o := 2) (v := iv (msF us i)) rfl c1.rd rfl ?_
  refine wN_b_gtr (a := (msF us i)) (b := 0) rfl rfl ?_
  intro t1 g1; cases t1
  · have g1 : ¬ ((msF us i) > 0) := of_decide_eq_false g1
    refine wN_mov (v := .bool false) rfl ?_
    refine wN_gs rfl ?_
    refine wN_gs rfl ?_
    refine wN_gs rfl ?_
    refine wN_gs rfl ?_
    refine wN_gs rfl ?_
    refine wN_pur (v := .bool false) rfl rfl ?_
    refine wN_mov (v := .bool false) rfl ?_
    refine wN_end ?_
    exact And.intro trivial (Exists.intro _ (And.intro rfl ⟨congrArg Value.bool (show false = decide (0 < msF us i ∧ rdF us i = duF us i) from (by symm; first | (exact decide_eq_true (by omega)) | (exact decide_eq_false (by omega)))), hk⟩))
  · have g1 : (msF us i) > 0 := of_decide_eq_true g1
    refine wN_mov (v := .bool true) rfl ?_
    refine wN_g rfl (wN_addo (b := H.next) (o := 0) rfl ?_)
    refine wN_g rfl (wN_ld (b := H.next) (o := 0) (v := iv (rdF us i)) rfl c1.rd rfl ?_)
    refine wN_g rfl (wN_addo (b := H.next) (o := 0) rfl ?_)
    refine wN_g rfl (wN_ld (b := H.next) (o := 1) (v := iv (duF us i)) rfl c1.rd rfl ?_)
    refine wN_g rfl (wN_b_eql (a := (rdF us i)) (b := (duF us i)) rfl rfl ?_)
    intro t2 g2; cases t2
    · have g2 : ¬ ((rdF us i) = (duF us i)) := by simpa using g2
      refine wN_pur (v := .bool false) rfl rfl ?_
      refine wN_mov (v := .bool false) rfl ?_
      refine wN_end ?_
      exact And.intro trivial (Exists.intro _ (And.intro rfl ⟨congrArg Value.bool (show false = decide (0 < msF us i ∧ rdF us i = duF us i) from (by symm; first | (exact decide_eq_true (by omega)) | (exact decide_eq_false (by omega)))), hk⟩))
    · have g2 : (rdF us i) = (duF us i) := by simpa using g2
      refine wN_pur (v := .bool true) rfl rfl ?_
      refine wN_mov (v := .bool true) rfl ?_
      refine wN_end ?_
      exact And.intro trivial (Exists.intro _ (And.intro rfl ⟨congrArg Value.bool (show true = decide (0 < msF us i ∧ rdF us i = duF us i) from (by symm; first | (exact decide_eq_true (by omega)) | (exact decide_eq_false (by omega)))), hk⟩))
theorem index106_ok {sa : Option Addr} {n cap : Nat} {us : List Fz} (hs : Sl H sa n cap (fzc us)) (hl : us.length = n) (hn2 : n ≤ 1000000) (hlo : lo ≤ H.next) : ∃ j H', FnX Try.prog kn lo 106 [.slice sa n cap, .func (.func 87) #[] #[]] H (iv j) H' ∧ decide (j ≥ 0) = noT us n ∧ Keep H H' [] := by
  have key := fnX_low (kn := kn) (lo := lo) (H := H) (args := [.slice sa n cap, .func (.func 87) #[] #[]]) (Q := fun w H' => ∃ j, w = iv j ∧ decide (j ≥ 0) = noT us n ∧ Keep H H' []) Try.func106 B106 N106 Z106 L106 (by simp) ?_
  · obtain ⟨v, H', h, j, rfl, q⟩ := key; exact ⟨j, H', h, q⟩
  have hk := Keep.refl H []
  refine wN_seq ?_
  refine wN_mov (v := iv 0) rfl ?_
  refine wN_end ?_
  refine wN_seq ?_
  refine wN_mov (v := .slice sa n cap) rfl ?_
  refine wN_len (m := n) rfl ?_
  refine wN_mov (v := iv 0) rfl ?_
  refine wN_end ?_
  refine loop_low (fn := Try.f106) E106_1 N106 L106x1 (fun i : Nat => [(0, .slice sa n cap), (1, .func (.func 87) #[] #[]), (7, iv (n : Int)), (8, iv (i : Int))])
    (fun k i H' => i + k = n ∧ Keep H H' [] ∧ Sl H' sa n cap (fzc us) ∧ noT us i = false) n 0 ⟨by omega, hk, hs, rfl⟩ ⟨rfl, rfl, rfl, rfl, trivial⟩ ?_
  rintro k i L1 ⟨hik, hk, hs, hall⟩
  have mki := hk.1
  refine wN_seq ?_
  refine wN_c_lss (a := (i : Int)) (b := (n : Int)) rfl rfl ?_
  refine wN_end ?_
  refine And.intro (fun q1 => ?_) (fun q1 => ?_)
  · have q1 : (i : Int) < (n : Int) := of_decide_eq_true q1
    have hi : i < n := by omega
    rcases id hs with ⟨_, h0, _⟩ | ⟨sb, es, rs, _⟩
    · omega
    have lsb := rs.lt
    first | refine wN_skip ?_ | skip
    refine wN_seq ?_
    refine wN_mov (v := iv (i : Int)) rfl ?_
    refine wN_mov (v := iv (i : Int)) rfl ?_
    refine wN_end ?_
    refine wN_seq ?_
    refine wN_mov (v := .func (.func 87) #[] #[]) rfl ?_
    refine wN_mov (v := .slice sa n cap) rfl ?_
    refine wN_mov (v := iv (i : Int)) rfl ?_
    refine wN_idx (b := sb) (o := 0) (k := i) (j := (i : Int)) (by rw [← es]; rfl) rfl rfl (by omega) ?_
    refine wN_lda (b := sb) (o := 0 + i * 3) rfl rs (fzc_rowF (by omega)) ?_
    obtain ⟨H1, fH1, kH1⟩ := clos87_ok (kn := kn) (lo := lo) (H := L1) (us := us) (i := i) (by omega)
    have mH1 := kH1.1
    have hk := hk.trans kH1
    have hs := kH1.sl0 hs
    have rs := kH1.rd rs (by simp)
    cases hb : decide (0 < msF us i ∧ rdF us i = duF us i)
    · rw [hb] at fH1
      refine wN_callf (vs := [.agg #[iv (rdF us i), iv (duF us i), iv (msF us i)]]) rfl (callX_func rfl (by simpa using fH1)) ?_
      refine wN_end ?_
      refine condF ?_
      first | refine wN_skip ?_ | skip
      first | refine wN_reg ?_ | refine wN_blk ?_ | refine wN_bseq ?_ | (refine wOps_nil ?_; refine wN_reg ?_)
      refine wN_add (a := (i : Int)) (b := 1) rfl rfl ⟨by omega, by omega⟩ ?_
      refine wN_mov (v := iv ((i : Int) + 1)) rfl ?_
      refine wN_end ?_
      exact ⟨k - 1, i + 1, by omega, ⟨by omega, hk, hs, by rw [noT_succ, hall, Bool.false_or]; exact hb⟩, rfl, rfl, rfl, rfl, trivial⟩
    · rw [hb] at fH1
      refine wN_callf (vs := [.agg #[iv (rdF us i), iv (duF us i), iv (msF us i)]]) rfl (callX_func rfl (by simpa using fH1)) ?_
      refine wN_end ?_
      refine condT ?_
      refine wN_seq ?_
      refine wN_mov (v := iv (i : Int)) rfl ?_
      refine wN_mov (v := iv (i : Int)) rfl ?_
      refine wN_end ?_
      exact And.intro trivial (Exists.intro _ (And.intro rfl ⟨_, rfl, by rw [noT_hit hi (of_decide_eq_true hb)]; exact decide_eq_true (by omega), hk⟩))
  · have q1 : ¬ ((i : Int) < (n : Int)) := of_decide_eq_false q1
    refine wN_seq ?_
    refine wN_mov (v := iv (-1)) rfl ?_
    refine wN_end ?_
    exact And.intro trivial (Exists.intro _ (And.intro rfl ⟨-1, rfl, by have e : i = n := (by omega); rw [← e, hall]; rfl, hk⟩))
theorem contains86_ok {sa : Option Addr} {n cap : Nat} {us : List Fz} (hs : Sl H sa n cap (fzc us)) (hl : us.length = n) (hn2 : n ≤ 1000000) (hlo : lo ≤ H.next) : ∃ H', FnX Try.prog kn lo 86 [.slice sa n cap, .func (.func 87) #[] #[]] H (.bool (noT us n)) H' ∧ Keep H H' [] := by
  have key := fnX_low (kn := kn) (lo := lo) (H := H) (args := [.slice sa n cap, .func (.func 87) #[] #[]]) (Q := fun w H' => w = .bool (noT us n) ∧ Keep H H' []) Try.func86 B86 N86 Z86 L86 (by simp) ?_
  · obtain ⟨w, H', h, rfl, q⟩ := key; exact ⟨H', h, q⟩
  have hk := Keep.refl H []
  refine wN_seq ?_
  refine wN_mov (v := .bool false) rfl ?_
  refine wN_end ?_
  refine wN_seq ?_
  refine wN_mov (v := .slice sa n cap) rfl ?_
  refine wN_mov (v := .func (.func 87) #[] #[]) rfl ?_
  obtain ⟨j, H1, fH1, hj, kH1⟩ := index106_ok (kn := kn) (lo := lo) (H := H) hs hl hn2 (by omega)
  refine wN_callf (vs := [.slice sa n cap, .func (.func 87) #[] #[]]) rfl (callX_args fH1) ?_
  have mH1 := kH1.1
  have hk := hk.trans kH1
  have hs := kH1.sl0 hs
  refine wN_c_geq (a := j) (b := 0) rfl rfl ?_
  refine wN_mov (v := .bool (decide (j ≥ 0))) rfl ?_
  refine wN_end ?_
  exact And.intro trivial (Exists.intro _ (And.intro rfl ⟨congrArg Value.bool hj, hk⟩))
/-- hasNoTime -/
theorem notime_ok {sa : Option Addr} {n cap : Nat} {us : List Fz} (hs : Sl H sa n cap (fzc us)) (hl : us.length = n) (hn2 : n ≤ 1000000) (hlo : lo ≤ H.next) : ∃ H', FnX Try.prog kn lo 60 [.slice sa n cap] H (.bool (noT us n)) H' ∧ Keep H H' [] := by
  have key := fnX_low (kn := kn) (lo := lo) (H := H) (args := [.slice sa n cap]) (Q := fun w H' => w = .bool (noT us n) ∧ Keep H H' []) Try.func60 B60 N60 Z60 L60 (by simp) ?_
  · obtain ⟨w, H', h, rfl, q⟩ := key; exact ⟨H', h, q⟩
  have hk := Keep.refl H []
  refine wN_seq ?_
  refine wN_mov (v := .bool false) rfl ?_
  refine wN_end ?_
  refine wN_seq ?_
  refine wN_mov (v := .slice sa n cap) rfl ?_
  obtain ⟨H1, fH1, kH1⟩ := contains86_ok (kn := kn) (lo := lo) (H := H) hs hl hn2 (by omega)
  refine wN_callf (vs := [.slice sa n cap, .func (.func 87) #[] #[]]) rfl (callX_args fH1) ?_
  have mH1 := kH1.1
  have hk := hk.trans kH1
  have hs := kH1.sl0 hs
  refine wN_mov (v := .bool (noT us n)) rfl ?_
  refine wN_end ?_
  exact And.intro trivial (Exists.intro _ (And.intro rfl ⟨rfl, hk⟩))
theorem divup_ok {a b : Int} (ha : 0 ≤ a ∧ a ≤ 17592186044416) (hb : 1 ≤ b ∧ b ≤ 500) : ∃ H', FnX Try.prog kn lo 88 [iv a, iv b] H (iv ((a + b - 1) / b)) H' ∧ Keep H H' [] := by
  have key := fnX_low (kn := kn) (lo := lo) (H := H) (args := [iv a, iv b]) (Q := fun w H' => w = iv ((a + b - 1) / b) ∧ Keep H H' []) Try.func88 B88 N88 Z88 L88 (by simp) ?_
  · obtain ⟨w, H', h, rfl, q⟩ := key; exact ⟨H', h, q⟩
  have hk := Keep.refl H []
  refine wN_seq ?_
  refine wN_mov (v := iv 0) rfl ?_
  refine wN_end ?_
  refine wN_seq ?_
  refine wN_mov (v := iv a) rfl ?_
  refine wN_mov (v := iv b) rfl ?_
  refine wN_add (a := a) (b := b) rfl rfl ⟨by omega, by omega⟩ ?_
  refine wN_sub (a := a + b) (b := 1) rfl rfl ⟨by omega, by omega⟩ ?_
  refine wN_mov (v := iv b) rfl ?_
  refine wN_quo (a := (a + b) - 1) (b := b) rfl rfl (by omega) (by omega) ⟨by omega, by omega⟩ ?_
  refine wN_mov (v := iv (((a + b) - 1) / b)) rfl ?_
  refine wN_end ?_
  exact And.intro trivial (Exists.intro _ (And.intro rfl ⟨rfl, hk⟩))
/-- between -/
theorem between_ok {i j : Nat} {sa : Option Addr} {n cap : Nat} {us : List Fz} (hs : Sl H sa n cap (fzc us)) (hl : us.length = n) (hn2 : n ≤ 1000000) (hn : n ≤ 16) (hF : FzOk us) (hlo : lo ≤ H.next) : ∃ H', FnX Try.prog kn lo 89 [.slice sa n cap, iv (rdF us i), iv (duF us j)] H (iv (BT us i j n)) H' ∧ Keep H H' [] := by
  have key := fnX_low (kn := kn) (lo := lo) (H := H) (args := [.slice sa n cap, iv (rdF us i), iv (duF us j)]) (Q := fun w H' => w = iv (BT us i j n) ∧ Keep H H' []) Try.func89 B89 N89 Z89 L89 (by simp) ?_
  · obtain ⟨w, H', h, rfl, q⟩ := key; exact ⟨H', h, q⟩
  have hk := Keep.refl H []
  have fs := hs.old
  refine wN_seq ?_
  refine wN_mov (v := iv 0) rfl ?_
  refine wN_end ?_
  refine wN_seq ?_
  refine wN_mov (v := iv 0) rfl ?_
  refine wN_end ?_
  refine wN_seq ?_
  refine wN_mov (v := .slice sa n cap) rfl ?_
  refine wN_len (m := n) rfl ?_
  refine wN_mov (v := iv 0) rfl ?_
  refine wN_end ?_
  refine loop_low (fn := Try.f89) E89_1 N89 L89x1 (fun q : Nat => [(1, iv (rdF us i)), (2, iv (duF us j)), (7, iv (BT us i j q)), (10, .slice sa n cap), (11, iv (n : Int)), (12, iv (q : Int))])
    (fun g q H' => q + g = n ∧ Keep H H' [] ∧ Sl H' sa n cap (fzc us)) n 0 ⟨by omega, hk, hs⟩ ⟨rfl, rfl, rfl, rfl, rfl, rfl, trivial⟩ ?_
  rintro g q L1 ⟨hqg, hk, hs⟩
  have mki := hk.1
  have fs := hs.old
  obtain ⟨bt0, bt1⟩ := bt_in hF (by omega) i j q (by omega)
  refine wN_seq ?_
  refine wN_c_lss (a := (q : Int)) (b := (n : Int)) rfl rfl ?_
  refine wN_end ?_
  refine And.intro (fun q1 => ?_) (fun q1 => ?_)
  · have q1 : (q : Int) < (n : Int) := of_decide_eq_true q1
    have hq : q < n := by omega
    have hMq := hF.m q (by omega)
    rcases id hs with ⟨_, h0, _⟩ | ⟨sb, es, rs, _⟩
    · omega
    have lsb := rs.lt
    first | refine wN_skip ?_ | skip
    refine wN_seq ?_
    refine wN_idx (b := sb) (o := 0) (k := q) (j := (q : Int)) (by rw [← es]; rfl) rfl rfl (by omega) ?_
    refine wN_lda (b := sb) (o := 0 + q * 3) rfl rs (fzc_rowF (by omega)) ?_
    refine wN_alc ?_
    intro H1 kH1 nH1 c1
    have c1 : Cl H1 L1.next [iv 0, iv 0, iv 0] := c1
    have mH1 := kH1.1
    have hk := hk.trans kH1
    have hs := kH1.sl0 hs
    have rs := kH1.rd rs (by simp)
    refine wN_sta (b := L1.next) (o := 0) rfl rfl c1 (by omega) rfl rfl (by simp) ?_
    intro H2 kH2 nH2 sH2
    have mH2 := kH2.1
    have hk := hk.new kH2 (fun b hb => by simp at hb ⊢; omega)
    have hs := kH2.sl hs (fun b e => by have := fs b e; first | (simp; done) | (simp; omega))
    have rs := kH2.rd rs (by first | (simp; done) | (simp; omega))
    have c1 : Cl H2 L1.next [iv (rdF us q), iv (duF us q), iv (msF us q)] := sH2
    refine wN_end ?_
    refine wN_seq ?_
    refine wN_addo (b := L1.next) (o := 0) rfl ?_
    refine wN_ld (b := L1.next) (o := 0) (v := iv (rdF us q)) rfl c1.rd rfl ?_
    refine wN_mov (v := iv (rdF us i)) rfl ?_
    refine wN_b_geq (a := (rdF us q)) (b := (rdF us i)) rfl rfl ?_
    intro t2 g2; cases t2
    · have g2 : ¬ ((rdF us q) ≥ (rdF us i)) := of_decide_eq_false g2
      refine wN_mov (v := .bool false) rfl ?_
      refine wN_gs rfl ?_
      refine wN_gs rfl ?_
      refine wN_gs rfl ?_
      refine wN_gs rfl ?_
      refine wN_pur (v := .bool false) rfl rfl ?_
      refine wN_end ?_
      refine condF ?_
      first | refine wN_skip ?_ | skip
      first | refine wN_reg ?_ | refine wN_blk ?_ | refine wN_bseq ?_ | (refine wOps_nil ?_; refine wN_reg ?_)
      refine wN_add (a := (q : Int)) (b := 1) rfl rfl ⟨by omega, by omega⟩ ?_
      refine wN_mov (v := iv ((q : Int) + 1)) rfl ?_
      refine wN_end ?_
      exact ⟨g - 1, q + 1, by omega, ⟨by omega, hk, hs⟩, rfl, rfl, by rw [BT_no (by omega)]; rfl, rfl, rfl, rfl, trivial⟩
    · have g2 : (rdF us q) ≥ (rdF us i) := of_decide_eq_true g2
      refine wN_mov (v := .bool true) rfl ?_
      refine wN_g rfl (wN_addo (b := L1.next) (o := 0) rfl ?_)
      refine wN_g rfl (wN_ld (b := L1.next) (o := 1) (v := iv (duF us q)) rfl c1.rd rfl ?_)
      refine wN_g rfl (wN_mov (v := iv (duF us j)) rfl ?_)
      refine wN_g rfl (wN_b_leq (a := (duF us q)) (b := (duF us j)) rfl rfl ?_)
      intro t3 g3; cases t3
      · have g3 : ¬ ((duF us q) ≤ (duF us j)) := of_decide_eq_false g3
        refine wN_pur (v := .bool false) rfl rfl ?_
        refine wN_end ?_
        refine condF ?_
        first | refine wN_skip ?_ | skip
        first | refine wN_reg ?_ | refine wN_blk ?_ | refine wN_bseq ?_ | (refine wOps_nil ?_; refine wN_reg ?_)
        refine wN_add (a := (q : Int)) (b := 1) rfl rfl ⟨by omega, by omega⟩ ?_
        refine wN_mov (v := iv ((q : Int) + 1)) rfl ?_
        refine wN_end ?_
        exact ⟨g - 1, q + 1, by omega, ⟨by omega, hk, hs⟩, rfl, rfl, by rw [BT_no (by omega)]; rfl, rfl, rfl, rfl, trivial⟩
      · have g3 : (duF us q) ≤ (duF us j) := of_decide_eq_true g3
        refine wN_pur (v := .bool true) rfl rfl ?_
        refine wN_end ?_
        refine condT ?_
        first | refine wN_reg ?_ | refine wN_blk ?_ | refine wN_bseq ?_ | (refine wOps_nil ?_; refine wN_reg ?_)
        refine wN_mov (v := iv (BT us i j q)) rfl ?_
        refine wN_addo (b := L1.next) (o := 0) rfl ?_
        refine wN_ld (b := L1.next) (o := 2) (v := iv (msF us q)) rfl c1.rd rfl ?_
        refine wN_add (a := (BT us i j q)) (b := (msF us q)) rfl rfl ⟨by omega, by omega⟩ ?_
        refine wN_mov (v := iv ((BT us i j q) + (msF us q))) rfl ?_
        refine wN_end ?_
        first | refine wN_reg ?_ | refine wN_blk ?_ | refine wN_bseq ?_ | (refine wOps_nil ?_; refine wN_reg ?_)
        refine wN_add (a := (q : Int)) (b := 1) rfl rfl ⟨by omega, by omega⟩ ?_
        refine wN_mov (v := iv ((q : Int) + 1)) rfl ?_
        refine wN_end ?_
        exact ⟨g - 1, q + 1, by omega, ⟨by omega, hk, hs⟩, rfl, rfl, by rw [BT_yes (by omega)]; rfl, rfl, rfl, rfl, trivial⟩
  · have q1 : ¬ ((q : Int) < (n : Int)) := of_decide_eq_false q1
    refine wN_seq ?_
    refine wN_mov (v := iv (BT us i j q)) rfl ?_
    refine wN_mov (v := iv (BT us i j q)) rfl ?_
    refine wN_end ?_
    have e : q = n := by omega
    exact And.intro trivial (Exists.intro _ (And.intro rfl ⟨by rw [e]; rfl, hk⟩))
/-- leastRate -/
theorem least_ok {sa : Option Addr} {n cap : Nat} {us : List Fz} (hs : Sl H sa n cap (fzc us)) (hl : us.length = n) (hn2 : n ≤ 1000000) (hn : n ≤ 16) (hF : FzOk us) (hlo : lo ≤ H.next) : ∃ H', FnX Try.prog kn lo 61 [.slice sa n cap] H (iv (lrI us n)) H' ∧ Keep H H' [] := by
  have key := fnX_low (kn := kn) (lo := lo) (H := H) (args := [.slice sa n cap]) (Q := fun w H' => w = iv (lrI us n) ∧ Keep H H' []) Try.func61 B61 N61 Z61 L61 (by simp) ?_
  · obtain ⟨w, H', h, rfl, q⟩ := key; exact ⟨H', h, q⟩
  have hk := Keep.refl H []
  have fs := hs.old
  refine wN_seq ?_
  refine wN_mov (v := iv 0) rfl ?_
  refine wN_end ?_
  refine wN_seq ?_
  refine wN_mov (v := iv 1) rfl ?_
  refine wN_end ?_
  refine wN_seq ?_
  refine wN_mov (v := .slice sa n cap) rfl ?_
  refine wN_len (m := n) rfl ?_
  refine wN_mov (v := iv 0) rfl ?_
  refine wN_end ?_
  refine loop_low (fn := Try.f61) E61_1 N61 L61x1 (fun i : Nat => [(0, .slice sa n cap), (3, iv (lrI us i)), (10, .slice sa n cap), (11, iv (n : Int)), (12, iv (i : Int))])
    (fun d i H' => i + d = n ∧ Keep H H' [] ∧ Sl H' sa n cap (fzc us)) n 0 ⟨by omega, hk, hs⟩ ⟨rfl, rfl, rfl, rfl, rfl, trivial⟩ ?_
  rintro d i L1 ⟨hid, hk, hs⟩
  have mki := hk.1
  have fs := hs.old
  refine wN_seq ?_
  refine wN_c_lss (a := (i : Int)) (b := (n : Int)) rfl rfl ?_
  refine wN_end ?_
  refine And.intro (fun q1 => ?_) (fun q1 => ?_)
  · have q1 : (i : Int) < (n : Int) := of_decide_eq_true q1
    have hi : i < n := by omega
    rcases id hs with ⟨_, h0, _⟩ | ⟨sb, es, rs, _⟩
    · omega
    have lsb := rs.lt
    first | refine wN_skip ?_ | skip
    refine wN_seq ?_
    refine wN_idx (b := sb) (o := 0) (k := i) (j := (i : Int)) (by rw [← es]; rfl) rfl rfl (by omega) ?_
    refine wN_lda (b := sb) (o := 0 + i * 3) rfl rs (fzc_rowF (by omega)) ?_
    refine wN_alc ?_
    intro H1 kH1 nH1 c1
    have c1 : Cl H1 L1.next [iv 0, iv 0, iv 0] := c1
    have mH1 := kH1.1
    have hk := hk.trans kH1
    have hs := kH1.sl0 hs
    have rs := kH1.rd rs (by simp)
    refine wN_sta (b := L1.next) (o := 0) rfl rfl c1 (by omega) rfl rfl (by simp) ?_
    intro H2 kH2 nH2 sH2
    have mH2 := kH2.1
    have hk := hk.new kH2 (fun b hb => by simp at hb ⊢; omega)
    have hs := kH2.sl hs (fun b e => by have := fs b e; first | (simp; done) | (simp; omega))
    have rs := kH2.rd rs (by first | (simp; done) | (simp; omega))
    have c1 : Cl H2 L1.next [iv (rdF us i), iv (duF us i), iv (msF us i)] := sH2
    refine wN_end ?_
    refine wN_seq ?_
    refine wN_mov (v := .slice sa n cap) rfl ?_
    refine wN_len (m := n) rfl ?_
    refine wN_mov (v := iv 0) rfl ?_
    refine wN_end ?_
    refine loop_low (fn := Try.f61) E61_2 N61 L61x2 (fun j : Nat => [(0, .slice sa n cap), (3, iv (lrJ us i (lrI us i) j)), (5, pt L1.next), (10, .slice sa n cap), (11, iv (n : Int)), (12, iv (i : Int)), (16, .slice sa n cap), (17, iv (n : Int)), (18, iv (j : Int))])
      (fun e j H' => j + e = n ∧ Keep H H' [] ∧ H2.next ≤ H'.next ∧ Sl H' sa n cap (fzc us) ∧ Rd H' sb (fzc us) ∧ Cl H' L1.next [iv (rdF us i), iv (duF us i), iv (msF us i)]) n 0 ⟨by omega, hk, Nat.le_refl _, hs, rs, c1⟩ ⟨rfl, rfl, rfl, rfl, rfl, rfl, rfl, rfl, rfl, trivial⟩ ?_
    rintro e j L2 ⟨hje, hk, hnx, hs, rs, c5⟩
    have mkj := hk.1
    have fs := hs.old
    refine wN_seq ?_
    refine wN_c_lss (a := (j : Int)) (b := (n : Int)) rfl rfl ?_
    refine wN_end ?_
    refine And.intro (fun q2 => ?_) (fun q2 => ?_)
    · have q2 : (j : Int) < (n : Int) := of_decide_eq_true q2
      have hj : j < n := by omega
      have a_i := hF.a i (by omega)
      have a_j := hF.a j (by omega)
      have d_i := hF.d i (by omega)
      have d_j := hF.d j (by omega)
      obtain ⟨bt0, bt1⟩ := bt_in hF (by omega) i j n (by omega)
      first | refine wN_skip ?_ | skip
      refine wN_seq ?_
      refine wN_idx (b := sb) (o := 0) (k := j) (j := (j : Int)) (by rw [← es]; rfl) rfl rfl (by omega) ?_
      refine wN_lda (b := sb) (o := 0 + j * 3) rfl rs (fzc_rowF (by omega)) ?_
      refine wN_alc ?_
      intro H3 kH3 nH3 c3
      have c3 : Cl H3 L2.next [iv 0, iv 0, iv 0] := c3
      have mH3 := kH3.1
      have hk := hk.trans kH3
      have hs := kH3.sl0 hs
      have rs := kH3.rd rs (by simp)
      have c5 := kH3.cl c5 (by simp)
      refine wN_sta (b := L2.next) (o := 0) rfl rfl c3 (by omega) rfl rfl (by simp) ?_
      intro H4 kH4 nH4 sH4
      have mH4 := kH4.1
      have hk := hk.new kH4 (fun b hb => by simp at hb ⊢; omega)
      have hs := kH4.sl hs (fun b e => by have := fs b e; first | (simp; done) | (simp; omega))
      have rs := kH4.rd rs (by first | (simp; done) | (simp; omega))
      have c5 := kH4.cl c5 (by first | (simp; done) | (simp; omega))
      have c3 : Cl H4 L2.next [iv (rdF us j), iv (duF us j), iv (msF us j)] := sH4
      refine wN_end ?_
      refine wD_seq ?_
      refine wD_addo (b := L1.next) (o := 0) rfl ?_
      refine wD_ld (b := L1.next) (o := 0) (v := iv (rdF us i)) rfl c5.rd rfl ?_
      refine wD_addo (b := L2.next) (o := 0) rfl ?_
      refine wD_ld (b := L2.next) (o := 1) (v := iv (duF us j)) rfl c3.rd rfl ?_
      refine wD_mov (v := iv (rdF us i)) rfl ?_
      refine wD_mov (v := iv (duF us j)) rfl ?_
      refine wD_end (by repeat' first | exact True.intro | exact (fun h => h) | refine And.intro ?_ ?_ | (intro h; have h : (_ : Nat) = _ := h; omega)) ?_
      refine wN_seq ?_
      refine wN_mov (v := iv (rdF us i)) rfl ?_
      refine wN_mov (v := iv (duF us j)) rfl ?_
      refine wN_c_lss (a := (rdF us i)) (b := (duF us j)) rfl rfl ?_
      refine wN_end ?_
      refine And.intro (fun q3 => ?_) (fun q3 => ?_)
      · have q3 : (rdF us i) < (duF us j) := of_decide_eq_true q3
        first | refine wN_reg ?_ | refine wN_blk ?_ | refine wN_bseq ?_ | (refine wOps_nil ?_; refine wN_reg ?_)
        refine wN_mov (v := iv (lrJ us i (lrI us i) j)) rfl ?_
        refine wN_mov (v := .slice sa n cap) rfl ?_
        refine wN_mov (v := iv (rdF us i)) rfl ?_
        refine wN_mov (v := iv (duF us j)) rfl ?_
        obtain ⟨H5, fH5, kH5⟩ := between_ok (kn := kn) (lo := lo) (H := H4) (i := i) (j := j) hs hl hn2 (by omega) hF (by omega)
        refine wN_callf (vs := [.slice sa n cap, iv (rdF us i), iv (duF us j)]) rfl (callX_args fH5) ?_
        have mH5 := kH5.1
        have hk := hk.trans kH5
        have hs := kH5.sl0 hs
        have rs := kH5.rd rs (by simp)
        have c5 := kH5.cl c5 (by simp)
        have c3 := kH5.cl c3 (by simp)
        refine wN_mov (v := iv (duF us j)) rfl ?_
        refine wN_mov (v := iv (rdF us i)) rfl ?_
        refine wN_sub (a := (duF us j)) (b := (rdF us i)) rfl rfl ⟨by omega, by omega⟩ ?_
        have ebr : brt us i j = (BT us i j n + (duF us j - rdF us i) - 1) / (duF us j - rdF us i) := by unfold brt; rw [hl]
        obtain ⟨H6, fH6, kH6⟩ := divup_ok (kn := kn) (lo := lo) (H := H5) (a := BT us i j n) (b := duF us j - rdF us i) (by omega) (by omega)
        rw [← ebr] at fH6
        refine wN_callf (vs := [iv (BT us i j n), iv (duF us j - rdF us i)]) rfl (callX_args fH6) ?_
        have mH6 := kH6.1
        have hk := hk.trans kH6
        have hs := kH6.sl0 hs
        have rs := kH6.rd rs (by simp)
        have c5 := kH6.cl c5 (by simp)
        have c3 := kH6.cl c3 (by simp)
        refine wN_mm (a := (lrJ us i (lrI us i) j)) (b := (brt us i j)) rfl rfl ?_
        refine wN_mov (v := iv (max (lrJ us i (lrI us i) j) (brt us i j))) rfl ?_
        refine wN_end ?_
        first | refine wN_reg ?_ | refine wN_blk ?_ | refine wN_bseq ?_ | (refine wOps_nil ?_; refine wN_reg ?_)
        refine wN_add (a := (j : Int)) (b := 1) rfl rfl ⟨by omega, by omega⟩ ?_
        refine wN_mov (v := iv ((j : Int) + 1)) rfl ?_
        refine wN_end ?_
        exact ⟨e - 1, j + 1, by omega, ⟨by omega, hk, by omega, hs, rs, c5⟩, rfl, by rw [lrJ_yes (by omega)]; rfl, rfl, rfl, rfl, rfl, rfl, rfl, rfl, trivial⟩
      · have q3 : ¬ ((rdF us i) < (duF us j)) := of_decide_eq_false q3
        first | refine wN_skip ?_ | skip
        first | refine wN_reg ?_ | refine wN_blk ?_ | refine wN_bseq ?_ | (refine wOps_nil ?_; refine wN_reg ?_)
        refine wN_add (a := (j : Int)) (b := 1) rfl rfl ⟨by omega, by omega⟩ ?_
        refine wN_mov (v := iv ((j : Int) + 1)) rfl ?_
        refine wN_end ?_
        exact ⟨e - 1, j + 1, by omega, ⟨by omega, hk, by omega, hs, rs, c5⟩, rfl, by rw [lrJ_no (by omega)]; rfl, rfl, rfl, rfl, rfl, rfl, rfl, rfl, trivial⟩
    · have q2 : ¬ ((j : Int) < (n : Int)) := of_decide_eq_false q2
      have e : n = j := by omega
      subst e
      first | (refine wN_exit ?_; show wC _ _ _ _ _ _ _ _ _) | skip
      first | refine wN_reg ?_ | refine wN_blk ?_ | refine wN_bseq ?_ | (refine wOps_nil ?_; refine wN_reg ?_)
      refine wN_add (a := (i : Int)) (b := 1) rfl rfl ⟨by omega, by omega⟩ ?_
      refine wN_mov (v := iv ((i : Int) + 1)) rfl ?_
      refine wN_end ?_
      exact ⟨d - 1, i + 1, by omega, ⟨by omega, hk, hs⟩, rfl, by rw [show lrI us (i + 1) = lrJ us i (lrI us i) n from by rw [← hl]; rfl]; rfl, rfl, rfl, rfl, trivial⟩
  · have q1 : ¬ ((i : Int) < (n : Int)) := of_decide_eq_false q1
    first | (refine wN_exit ?_; show wC _ _ _ _ _ _ _ _ _) | skip
    refine wN_seq ?_
    refine wN_mov (v := iv (lrI us i)) rfl ?_
    refine wN_mov (v := iv (lrI us i)) rfl ?_
    refine wN_end ?_
    have e : i = n := by omega
    exact And.intro trivial (Exists.intro _ (And.intro rfl ⟨by rw [e]; rfl, hk⟩))
/-- Rate -/
theorem rate30_ok {sa : Option Addr} {n cap : Nat} {us : List Fz} (hs : Sl H sa n cap (fzc us)) (hl : us.length = n) (hn2 : n ≤ 1000000) (hlo : lo ≤ H.next) : ∃ H', FnX Try.prog kn lo 30 [.slice sa n cap] H (.tuple #[iv (ratV us), iv (ratE us)]) H' ∧ Keep H H' [] := by
  have key := fnX_low (kn := kn) (lo := lo) (H := H) (args := [.slice sa n cap]) (Q := fun w H' => w = .tuple #[iv (ratV us), iv (ratE us)] ∧ Keep H H' []) Try.func30 B30 N30 Z30 L30 (by simp) ?_
  · obtain ⟨w, H', h, rfl, q⟩ := key; exact ⟨H', h, q⟩
  have hk := Keep.refl H []
  refine wN_seq ?_
  refine wN_mov (v := iv 0) rfl ?_
  refine wN_mov (v := iv 0) rfl ?_
  refine wN_end ?_
  refine wN_seq ?_
  refine wN_mov (v := .slice sa n cap) rfl ?_
  obtain ⟨H1, fH1, kH1⟩ := check57_ok (kn := kn) (lo := lo) (H := H) hs hl hn2 (by omega)
  refine wN_callf (vs := [.slice sa n cap]) rfl (callX_args fH1) ?_
  have mH1 := kH1.1
  have hk := hk.trans kH1
  have hs := kH1.sl0 hs
  refine wN_mov (v := iv (chkF us)) rfl ?_
  refine wN_end ?_
  refine wN_seq ?_
  refine wN_mov (v := iv (chkF us)) rfl ?_
  refine wN_c_neq (a := (chkF us)) (b := 0) rfl rfl ?_
  refine wN_end ?_
  refine And.intro (fun q1 => ?_) (fun q1 => ?_)
  · have q1 : (chkF us) ≠ 0 := by simpa using q1
    refine wN_seq ?_
    refine wN_mov (v := iv (chkF us)) rfl ?_
    refine wN_mov (v := iv 0) rfl ?_
    refine wN_mov (v := iv (chkF us)) rfl ?_
    refine wN_end ?_
    exact And.intro trivial (Exists.intro _ (And.intro rfl ⟨by
      have e : ratE us = chkF us := by unfold ratE; rw [if_neg (by omega)]
      rw [show ratV us = 0 from by unfold ratV; rw [e, if_neg (by omega)], e]; rfl, hk⟩))
  · have q1 : ¬ ((chkF us) ≠ 0) := by simpa using q1
    have hc : chkF us = 0 := by omega
    obtain ⟨h1, h2⟩ := chkF_0 hc
    have hF := FzOk.of h2
    first | refine wN_skip ?_ | skip
    refine wN_seq ?_
    refine wN_mov (v := .slice sa n cap) rfl ?_
    refine wN_callB rfl (notime_ok hs hl hn2 (by omega)) ?_
    intro tH2 H2 hH2 kH2
    have mH2 := kH2.1
    have hk := hk.trans kH2
    have hs := kH2.sl0 hs
    cases tH2
    · have hz : noT us n = false := hH2
      refine wN_end ?_
      refine condF ?_
      first | refine wN_skip ?_ | skip
      refine wN_seq ?_
      refine wN_mov (v := .slice sa n cap) rfl ?_
      obtain ⟨H3, fH3, kH3⟩ := least_ok (kn := kn) (lo := lo) (H := H2) hs hl hn2 (by omega) hF (by omega)
      refine wN_callf (vs := [.slice sa n cap]) rfl (callX_args fH3) ?_
      have mH3 := kH3.1
      have hk := hk.trans kH3
      have hs := kH3.sl0 hs
      refine wN_mov (v := iv (lrI us n)) rfl ?_
      refine wN_mov (v := iv 0) rfl ?_
      refine wN_end ?_
      exact And.intro trivial (Exists.intro _ (And.intro rfl ⟨by
        have e : ratE us = 0 := by unfold ratE; rw [if_pos hc, hl, hz]; rfl
        rw [show ratV us = lrI us n from by unfold ratV; rw [e, if_pos rfl, hl], e]; rfl, hk⟩))
    · have hz : noT us n = true := hH2
      refine wN_end ?_
      refine condT ?_
      refine wN_seq ?_
      refine wN_mov (v := iv 0) rfl ?_
      refine wN_mov (v := iv 4) rfl ?_
      refine wN_end ?_
      exact And.intro trivial (Exists.intro _ (And.intro rfl ⟨by
        have e : ratE us = 4 := by unfold ratE; rw [if_pos hc, hl, hz]; rfl
        rw [show ratV us = 0 from by unfold ratV; rw [e, if_neg (by omega)], e]; rfl, hk⟩))
end
end Go.Ax

/-
  Plant: the document's way to freeze: the next lot, again and again (written by program).
-/
namespace Go.Ax
open Go Go.RowKit

/-- the lot that is taken next, of the first k -/
def nx (us : List Fz) (g : Nat → Int) (h : Int) : Nat → Int
  | 0 => -1
  | k + 1 => if (rdF us k ≤ h ∧ 0 < g k) ∧ (nx us g h k < 0 ∨ duF us k < duF us (nx us g h k).toNat) then (k : Int) else nx us g h k
theorem nx_yes {us : List Fz} {g : Nat → Int} {h : Int} {k : Nat} (q : (rdF us k ≤ h ∧ 0 < g k) ∧ (nx us g h k < 0 ∨ duF us k < duF us (nx us g h k).toNat)) : nx us g h (k + 1) = (k : Int) := by
  show (if _ then _ else _) = _; rw [if_pos q]
theorem nx_no {us : List Fz} {g : Nat → Int} {h : Int} {k : Nat} (q : ¬ ((rdF us k ≤ h ∧ 0 < g k) ∧ (nx us g h k < 0 ∨ duF us k < duF us (nx us g h k).toNat))) : nx us g h (k + 1) = nx us g h k := by
  show (if _ then _ else _) = _; rw [if_neg q]
theorem nx_in {us : List Fz} {g : Nat → Int} {h : Int} : ∀ k, -1 ≤ nx us g h k ∧ nx us g h k < k
  | 0 => by show -1 ≤ (-1 : Int) ∧ (-1 : Int) < ((0 : Nat) : Int); omega
  | k + 1 => by
    have := nx_in (us := us) (g := g) (h := h) k
    by_cases q : (rdF us k ≤ h ∧ 0 < g k) ∧ (nx us g h k < 0 ∨ duF us k < duF us (nx us g h k).toNat)
    · rw [nx_yes q]; omega
    · rw [nx_no q]; omega
theorem nx_says {us : List Fz} {g : Nat → Int} {h : Int} : ∀ k, (nx us g h k < 0 → ∀ y, y < k → ¬ (rdF us y ≤ h ∧ 0 < g y)) ∧ (0 ≤ nx us g h k → (rdF us (nx us g h k).toNat ≤ h ∧ 0 < g (nx us g h k).toNat) ∧ ∀ y, y < k → (rdF us y ≤ h ∧ 0 < g y) → y ≠ (nx us g h k).toNat → ltL (duF us) (nx us g h k).toNat y)
  | 0 => ⟨fun _ y hy => absurd hy (by omega), fun q => absurd q (by show ¬ (0 : Int) ≤ -1; omega)⟩
  | k + 1 => by
    obtain ⟨a, b⟩ := nx_says (us := us) (g := g) (h := h) k
    have c := nx_in (us := us) (g := g) (h := h) k
    by_cases q : (rdF us k ≤ h ∧ 0 < g k) ∧ (nx us g h k < 0 ∨ duF us k < duF us (nx us g h k).toNat)
    · rw [nx_yes q]
      refine ⟨fun z => absurd z (by omega), fun _ => ⟨q.1, fun y hy hw hne => ?_⟩⟩
      have hne : y ≠ k := hne
      show ltL (duF us) k y
      rcases Int.lt_or_le (nx us g h k) 0 with z | z
      · exact absurd hw (a z y (by omega))
      · have hd : duF us k < duF us (nx us g h k).toNat := q.2.elim (fun w => absurd w (by omega)) id
        by_cases e : y = (nx us g h k).toNat
        · rw [e]; exact .inl hd
        · exact ltL_trans (.inl hd) ((b z).2 y (by omega) hw e)
    · rw [nx_no q]
      constructor
      · intro z y hy
        by_cases e : y = k
        · subst e; exact fun w => q ⟨w, .inl z⟩
        · exact a z y (by omega)
      · intro z
        obtain ⟨b1, b2⟩ := b z
        refine ⟨b1, fun y hy hw hne => ?_⟩
        by_cases e : y = k
        · subst e
          have : ¬ duF us y < duF us (nx us g h y).toNat := fun w => q ⟨hw, .inr w⟩
          unfold ltL; omega
        · exact b2 y (by omega) hw hne
section
variable {L : Nat → Nat} {rd left dn : Nat → Int} {h R : Int} {n k : Nat}
/-- those that wait not are passed -/
theorem hst_run (nn : ∀ x, x < n → 0 ≤ (hst L rd h R left k).1 (L x)) (hm : 0 ≤ (hst L rd h R left k).2) : ∀ d, k + d ≤ n → (∀ q, k ≤ q → q < k + d → ¬ (rd (L q) ≤ h ∧ 0 < (hst L rd h R left k).1 (L q))) → hst L rd h R left (k + d) = hst L rd h R left k ∧ dst L rd h R left dn (k + d) = dst L rd h R left dn k
  | 0, _, _ => ⟨rfl, rfl⟩
  | d + 1, hd, hi => by
    obtain ⟨e1, e2⟩ := hst_run nn hm d (by omega) (fun q a b => hi q a (by omega))
    have i1 : ¬ (rd (L (k + d)) ≤ h ∧ 0 < (hst L rd h R left (k + d)).1 (L (k + d))) := by rw [e1]; exact hi (k + d) (by omega) (by omega)
    have i2 : 0 ≤ (hst L rd h R left (k + d)).1 (L (k + d)) := by rw [e1]; exact nn (k + d) (by omega)
    have i3 : 0 ≤ (hst L rd h R left (k + d)).2 := by rw [e1]; exact hm
    exact ⟨(hst_idle i1 i2 i3).trans e1, (dst_idle i1 i2 i3).trans e2⟩
end
/-- the next lot is the first in the order that waits -/
theorem nx_place {us : List Fz} {g : Nat → Int} {h : Int} {n k : Nat} {L : Nat → Nat} (hO : OO (duF us) n n L) (h0 : ∀ q, q < k → ¬ (rdF us (L q) ≤ h ∧ 0 < g (L q))) (hz : 0 ≤ nx us g h n) : ∃ p, k ≤ p ∧ p < n ∧ L p = (nx us g h n).toNat ∧ ∀ q, q < p → ¬ (rdF us (L q) ≤ h ∧ 0 < g (L q)) := by
  have a := nx_in (us := us) (g := g) (h := h) n
  obtain ⟨b1, b2⟩ := (nx_says (us := us) (g := g) (h := h) n).2 hz
  obtain ⟨p, hp, e⟩ := hO.sur (x := (nx us g h n).toNat) (by omega)
  have key : ∀ q, q < p → ¬ (rdF us (L q) ≤ h ∧ 0 < g (L q)) := fun q hq w => by
    have ne : L q ≠ (nx us g h n).toNat := fun z => by have := hO.inj q p (by omega) hp (z.trans e.symm); omega
    have c := b2 (L q) (hO.lt q (by omega)) w ne
    have d := hO.so q p hq hp
    rw [e] at d
    unfold ltL at c d; omega
  refine ⟨p, ?_, hp, e, key⟩
  refine Classical.byContradiction fun q => ?_
  exact h0 p (by omega) (by rw [e]; exact b1)
theorem slz {H : Hp} {a : Option Addr} {n c bl : Nat} {cs : List Value} (h1 : 0 < n → a = some ⟨bl, 0, none⟩ ∧ c = n) (h0 : n = 0 → a = none ∧ c = 0) (hn : n = 0 → cs = []) (hc : 0 < n → Cl H bl cs) : Sl H a n c cs := by
  by_cases e : n = 0
  · exact .inl ⟨.inl (h0 e).1, e, (h0 e).2, hn e⟩
  · obtain ⟨q1, q2⟩ := h1 (by omega)
    exact .inr ⟨bl, q1, (hc (by omega)).rd, by omega⟩
theorem acl_nil2 {lo f : Nat} {H : Hp} {a b : Nat → Int} : AcL lo f 3 H [(.slice none 0 0, 0, nf a 0), (.slice none 0 0, 0, nf b 0)] := by
  refine ⟨fun x hx => ?_, ?_⟩
  · simp only [List.mem_cons, List.not_mem_nil, or_false] at hx
    rcases hx with rfl | rfl <;> exact .inl ⟨rfl, rfl, rfl⟩
  · refine List.Pairwise.cons (fun y hy => ?_) (List.Pairwise.cons (fun y hy => by simp at hy) .nil)
    simp only [List.mem_cons, List.not_mem_nil, or_false] at hy
    subst hy; intro b c h1; cases h1
/-- two lists that append has made -/
theorem acl_two {lo f n : Nat} {H : Hp} {v1 v2 : Value} {a b : Nat → Int} (h : AcL lo f 3 H [(v1, n, nf a n), (v2, n, nf b n)]) : ∃ a1 c1 a2 c2 bl bo, v1 = .slice a1 n c1 ∧ v2 = .slice a2 n c2 ∧ (0 < n → a1 = some ⟨bl, 0, none⟩ ∧ c1 = n) ∧ (n = 0 → a1 = none ∧ c1 = 0) ∧ (0 < n → a2 = some ⟨bo, 0, none⟩ ∧ c2 = n) ∧ (n = 0 → a2 = none ∧ c2 = 0) ∧
    (0 < n → Cl H bl (nf a n)) ∧ (0 < n → Cl H bo (nf b n)) ∧ (0 < n → bl ≠ bo ∧ f ≤ bl ∧ f ≤ bo ∧ lo ≤ bl ∧ lo ≤ bo ∧ bl < H.next ∧ bo < H.next) := by
  obtain ⟨h1, h2⟩ := h
  have k1 := h1 _ (List.mem_cons_self ..)
  have k2 := h1 _ (List.mem_cons_of_mem _ (List.mem_cons_self ..))
  have k3 := (List.pairwise_cons.1 h2).1 _ (List.mem_cons_self ..)
  simp only at k1 k2 k3
  rcases k1 with ⟨e1, _, rfl⟩ | ⟨b1, rfl, p1, p2, p3, p4, p5⟩
  · rcases k2 with ⟨_, _, rfl⟩ | ⟨b2, rfl, q1, _⟩
    · exact ⟨none, 0, none, 0, 0, 0, by rw [e1], by rw [e1], fun z => absurd z (by omega), fun _ => ⟨rfl, rfl⟩, fun z => absurd z (by omega), fun _ => ⟨rfl, rfl⟩, fun z => absurd z (by omega), fun z => absurd z (by omega), fun z => absurd z (by omega)⟩
    · omega
  · rcases k2 with ⟨e2, _, rfl⟩ | ⟨b2, rfl, q1, q2, q3, q4, q5⟩
    · omega
    · exact ⟨_, n, _, n, b1, b2, rfl, rfl, fun _ => ⟨rfl, rfl⟩, fun z => absurd z (by omega), fun _ => ⟨rfl, rfl⟩, fun z => absurd z (by omega), fun _ => ⟨p4, _, _, p5⟩, fun _ => ⟨q4, _, _, q5⟩, fun _ => ⟨k3 b1 b2 rfl rfl, p2, q2, p3, q3, p4, q4⟩⟩
end Go.Ax

/-
  Plant: the document's Frozen and Rate, the law PlantFreezes (written by program).
-/
namespace Go.Ax
open Go Go.RowKit Go.Proofs

section
variable {kn : FuncId → Option Bool} {lo : Nat} {H : Hp}
/-- the document's next -/
theorem next_ok {a1 : Option Addr} {c1 : Nat} {g : Nat → Int} {h : Int} {sa : Option Addr} {n cap : Nat} {us : List Fz} (hs : Sl H sa n cap (fzc us)) (hl : us.length = n) (hn2 : n ≤ 1000000) (h1 : Sl H a1 n c1 (nf g n)) : ∃ H', FnX Try.prog kn lo 85 [.slice sa n cap, .slice a1 n c1, iv h] H (iv (nx us g h n)) H' ∧ Keep H H' [] := by
  have key := fnX_low (kn := kn) (lo := lo) (H := H) (args := [.slice sa n cap, .slice a1 n c1, iv h]) (Q := fun w H' => w = iv (nx us g h n) ∧ Keep H H' []) Try.func85 B85 N85 Z85 L85 (by simp) ?_
  · obtain ⟨w, H', h, rfl, q⟩ := key; exact ⟨H', h, q⟩
  have hk := Keep.refl H []
  refine wN_seq ?_
  refine wN_mov (v := iv 0) rfl ?_
  refine wN_end ?_
  refine wN_seq ?_
  refine wN_mov (v := iv (-1)) rfl ?_
  refine wN_end ?_
  refine wN_seq ?_
  refine wN_mov (v := iv 0) rfl ?_
  refine wN_end ?_
  refine loop_low (fn := Try.f85) E85_1 N85 L85x1 (fun k : Nat => [(0, .slice sa n cap), (1, .slice a1 n c1), (2, iv h), (7, iv (nx us g h k)), (8, iv (k : Int))])
    (fun d k H' => k + d = n ∧ Keep H H' [] ∧ Sl H' sa n cap (fzc us) ∧ Sl H' a1 n c1 (nf g n)) n 0 ⟨by omega, hk, hs, h1⟩ ⟨rfl, rfl, rfl, rfl, rfl, trivial⟩ ?_
  rintro d k L1 ⟨hkd, hk, hs, h1⟩
  refine wN_seq ?_
  refine wN_mov (v := iv (k : Int)) rfl ?_
  refine wN_mov (v := .slice sa n cap) rfl ?_
  refine wN_len (m := n) rfl ?_
  refine wN_c_lss (a := (k : Int)) (b := (n : Int)) rfl rfl ?_
  refine wN_end ?_
  refine And.intro (fun q1 => ?_) (fun q1 => ?_)
  · have q1 : (k : Int) < (n : Int) := of_decide_eq_true q1
    have hk2 : k < n := by omega
    rcases id hs with ⟨_, h0, _⟩ | ⟨sb, es, rs, _⟩
    · omega
    have lsb := rs.lt
    rcases id h1 with ⟨_, h0, _⟩ | ⟨db, e2, r2, _⟩
    · omega
    have hnx := nx_in (us := us) (g := g) (h := h) k
    first | refine wN_skip ?_ | skip
    refine wD_seq ?_
    refine wD_mov (v := .slice sa n cap) rfl ?_
    refine wD_mov (v := iv (k : Int)) rfl ?_
    refine wD_idx (b := sb) (o := 0) (k := k) (j := (k : Int)) (by rw [← es]; rfl) rfl rfl (by omega) ?_
    refine wD_addo (b := sb) (o := 0 + k * 3) rfl ?_
    refine wD_ld (b := sb) (o := 0 + k * 3) (v := iv (rdF us k)) rfl rs (by have q := fzc_atF (us := us) (i := k) (j := 0) (by omega) rfl; exact q) ?_
    refine wD_mov (v := iv h) rfl ?_
    refine wD_b_leq (a := (rdF us k)) (b := h) rfl rfl ?_
    intro t2 g2; cases t2
    · have g2 : ¬ ((rdF us k) ≤ h) := of_decide_eq_false g2
      refine wD_mov (v := .bool false) rfl ?_
      refine wD_gs rfl ?_
      refine wD_gs rfl ?_
      refine wD_gs rfl ?_
      refine wD_gs rfl ?_
      refine wD_gs rfl ?_
      refine wD_pur (v := .bool false) rfl rfl ?_
      refine wD_mov (v := .bool false) rfl ?_
      refine wD_gs rfl ?_
      refine wD_gs rfl ?_
      refine wD_gs rfl ?_
      refine wD_gu rfl ?_
      refine wD_gu rfl ?_
      refine wD_gu rfl ?_
      refine wD_gu rfl ?_
      refine wD_gu rfl ?_
      refine wD_gu rfl ?_
      refine wD_gu rfl ?_
      refine wD_gu rfl ?_
      refine wD_gu rfl ?_
      refine wD_gu rfl ?_
      refine wD_gu rfl ?_
      refine wD_gs rfl ?_
      refine wD_pur (v := .bool false) rfl rfl ?_
      refine wD_end (by repeat' first | exact True.intro | exact (fun h => h) | refine And.intro ?_ ?_ | (intro h; have h : (_ : Nat) = _ := h; omega)) ?_
      refine condF ?_
      first | refine wN_skip ?_ | skip
      first | refine wN_reg ?_ | refine wN_blk ?_ | refine wN_bseq ?_ | (refine wOps_nil ?_; refine wN_reg ?_)
      refine wN_mov (v := iv (k : Int)) rfl ?_
      refine wN_add (a := (k : Int)) (b := 1) rfl rfl ⟨by omega, by omega⟩ ?_
      refine wN_mov (v := iv ((k : Int) + 1)) rfl ?_
      refine wN_end ?_
      exact ⟨d - 1, k + 1, by omega, ⟨by omega, hk, hs, h1⟩, rfl, rfl, rfl, by rw [nx_no (by omega)]; rfl, rfl, trivial⟩
    · have g2 : (rdF us k) ≤ h := of_decide_eq_true g2
      refine wD_mov (v := .bool true) rfl ?_
      refine wD_g rfl (wD_mov (v := .slice a1 n c1) rfl ?_)
      refine wD_g rfl (wD_mov (v := iv (k : Int)) rfl ?_)
      refine wD_g rfl (wD_idx (b := db) (o := 0) (k := k) (j := (k : Int)) (by rw [← e2]; rfl) rfl rfl hk2 ?_)
      refine wD_g rfl (wD_ld (b := db) (o := 0 + k * 1) (v := iv (g k)) rfl r2 (nf_at (f := g) hk2) ?_)
      refine wD_g rfl (wD_b_gtr (a := (g k)) (b := 0) rfl rfl ?_)
      intro t3 g3; cases t3
      · have g3 : ¬ ((g k) > 0) := of_decide_eq_false g3
        refine wD_pur (v := .bool false) rfl rfl ?_
        refine wD_mov (v := .bool false) rfl ?_
        refine wD_gs rfl ?_
        refine wD_gs rfl ?_
        refine wD_gs rfl ?_
        refine wD_gu rfl ?_
        refine wD_gu rfl ?_
        refine wD_gu rfl ?_
        refine wD_gu rfl ?_
        refine wD_gu rfl ?_
        refine wD_gu rfl ?_
        refine wD_gu rfl ?_
        refine wD_gu rfl ?_
        refine wD_gu rfl ?_
        refine wD_gu rfl ?_
        refine wD_gu rfl ?_
        refine wD_gs rfl ?_
        refine wD_pur (v := .bool false) rfl rfl ?_
        refine wD_end (by repeat' first | exact True.intro | exact (fun h => h) | refine And.intro ?_ ?_ | (intro h; have h : (_ : Nat) = _ := h; omega)) ?_
        refine condF ?_
        first | refine wN_skip ?_ | skip
        first | refine wN_reg ?_ | refine wN_blk ?_ | refine wN_bseq ?_ | (refine wOps_nil ?_; refine wN_reg ?_)
        refine wN_mov (v := iv (k : Int)) rfl ?_
        refine wN_add (a := (k : Int)) (b := 1) rfl rfl ⟨by omega, by omega⟩ ?_
        refine wN_mov (v := iv ((k : Int) + 1)) rfl ?_
        refine wN_end ?_
        exact ⟨d - 1, k + 1, by omega, ⟨by omega, hk, hs, h1⟩, rfl, rfl, rfl, by rw [nx_no (by omega)]; rfl, rfl, trivial⟩
      · have g3 : (g k) > 0 := of_decide_eq_true g3
        refine wD_pur (v := .bool true) rfl rfl ?_
        refine wD_mov (v := .bool true) rfl ?_
        refine wD_g rfl (wD_mov (v := iv (nx us g h k)) rfl ?_)
        refine wD_g rfl (wD_b_lss (a := (nx us g h k)) (b := 0) rfl rfl ?_)
        intro t4 g4; cases t4
        · have g4 : ¬ ((nx us g h k) < 0) := of_decide_eq_false g4
          refine wD_g rfl (wD_mov (v := .bool false) rfl ?_)
          refine wD_g rfl (wD_mov (v := .slice sa n cap) rfl ?_)
          refine wD_g rfl (wD_mov (v := iv (k : Int)) rfl ?_)
          refine wD_g rfl (wD_idx (b := sb) (o := 0) (k := k) (j := (k : Int)) (by rw [← es]; rfl) rfl rfl (by omega) ?_)
          refine wD_g rfl (wD_addo (b := sb) (o := 0 + k * 3) rfl ?_)
          refine wD_g rfl (wD_ld (b := sb) (o := 0 + k * 3 + 1) (v := iv (duF us k)) rfl rs (by have q := fzc_atF (us := us) (i := k) (j := 1) (by omega) rfl; exact q) ?_)
          refine wD_g rfl (wD_mov (v := .slice sa n cap) rfl ?_)
          refine wD_g rfl (wD_mov (v := iv (nx us g h k)) rfl ?_)
          refine wD_g rfl (wD_idx (b := sb) (o := 0) (k := (nx us g h k).toNat) (j := (nx us g h k)) (by rw [← es]; rfl) rfl (by omega) (by omega) ?_)
          refine wD_g rfl (wD_addo (b := sb) (o := 0 + ((nx us g h k).toNat) * 3) rfl ?_)
          refine wD_g rfl (wD_ld (b := sb) (o := 0 + ((nx us g h k).toNat) * 3 + 1) (v := iv (duF us (nx us g h k).toNat)) rfl rs (by have q := fzc_atF (us := us) (i := (nx us g h k).toNat) (j := 1) (by omega) rfl; exact q) ?_)
          refine wD_g rfl (wD_b_lss (a := (duF us k)) (b := (duF us (nx us g h k).toNat)) rfl rfl ?_)
          intro t5 g5; cases t5
          · have g5 : ¬ ((duF us k) < (duF us (nx us g h k).toNat)) := of_decide_eq_false g5
            refine wD_g rfl (wD_pur (v := .bool false) rfl rfl ?_)
            refine wD_pur (v := .bool false) rfl rfl ?_
            refine wD_end (by repeat' first | exact True.intro | exact (fun h => h) | refine And.intro ?_ ?_ | (intro h; have h : (_ : Nat) = _ := h; omega)) ?_
            refine condF ?_
            first | refine wN_skip ?_ | skip
            first | refine wN_reg ?_ | refine wN_blk ?_ | refine wN_bseq ?_ | (refine wOps_nil ?_; refine wN_reg ?_)
            refine wN_mov (v := iv (k : Int)) rfl ?_
            refine wN_add (a := (k : Int)) (b := 1) rfl rfl ⟨by omega, by omega⟩ ?_
            refine wN_mov (v := iv ((k : Int) + 1)) rfl ?_
            refine wN_end ?_
            exact ⟨d - 1, k + 1, by omega, ⟨by omega, hk, hs, h1⟩, rfl, rfl, rfl, by rw [nx_no (by omega)]; rfl, rfl, trivial⟩
          · have g5 : (duF us k) < (duF us (nx us g h k).toNat) := of_decide_eq_true g5
            refine wD_g rfl (wD_pur (v := .bool true) rfl rfl ?_)
            refine wD_pur (v := .bool true) rfl rfl ?_
            refine wD_end (by repeat' first | exact True.intro | exact (fun h => h) | refine And.intro ?_ ?_ | (intro h; have h : (_ : Nat) = _ := h; omega)) ?_
            refine condT ?_
            first | refine wN_reg ?_ | refine wN_blk ?_ | refine wN_bseq ?_ | (refine wOps_nil ?_; refine wN_reg ?_)
            refine wN_mov (v := iv (k : Int)) rfl ?_
            refine wN_mov (v := iv (k : Int)) rfl ?_
            refine wN_end ?_
            first | refine wN_reg ?_ | refine wN_blk ?_ | refine wN_bseq ?_ | (refine wOps_nil ?_; refine wN_reg ?_)
            refine wN_mov (v := iv (k : Int)) rfl ?_
            refine wN_add (a := (k : Int)) (b := 1) rfl rfl ⟨by omega, by omega⟩ ?_
            refine wN_mov (v := iv ((k : Int) + 1)) rfl ?_
            refine wN_end ?_
            exact ⟨d - 1, k + 1, by omega, ⟨by omega, hk, hs, h1⟩, rfl, rfl, rfl, by rw [nx_yes (by omega)]; rfl, rfl, trivial⟩
        · have g4 : (nx us g h k) < 0 := of_decide_eq_true g4
          refine wD_g rfl (wD_mov (v := .bool true) rfl ?_)
          refine wD_gs rfl ?_
          refine wD_gs rfl ?_
          refine wD_gs rfl ?_
          refine wD_gs rfl ?_
          refine wD_gs rfl ?_
          refine wD_gs rfl ?_
          refine wD_gs rfl ?_
          refine wD_gs rfl ?_
          refine wD_gs rfl ?_
          refine wD_gs rfl ?_
          refine wD_gs rfl ?_
          refine wD_g rfl (wD_pur (v := .bool true) rfl rfl ?_)
          refine wD_pur (v := .bool true) rfl rfl ?_
          refine wD_end (by repeat' first | exact True.intro | exact (fun h => h) | refine And.intro ?_ ?_ | (intro h; have h : (_ : Nat) = _ := h; omega)) ?_
          refine condT ?_
          first | refine wN_reg ?_ | refine wN_blk ?_ | refine wN_bseq ?_ | (refine wOps_nil ?_; refine wN_reg ?_)
          refine wN_mov (v := iv (k : Int)) rfl ?_
          refine wN_mov (v := iv (k : Int)) rfl ?_
          refine wN_end ?_
          first | refine wN_reg ?_ | refine wN_blk ?_ | refine wN_bseq ?_ | (refine wOps_nil ?_; refine wN_reg ?_)
          refine wN_mov (v := iv (k : Int)) rfl ?_
          refine wN_add (a := (k : Int)) (b := 1) rfl rfl ⟨by omega, by omega⟩ ?_
          refine wN_mov (v := iv ((k : Int) + 1)) rfl ?_
          refine wN_end ?_
          exact ⟨d - 1, k + 1, by omega, ⟨by omega, hk, hs, h1⟩, rfl, rfl, rfl, by rw [nx_yes (by omega)]; rfl, rfl, trivial⟩
  · have q1 : ¬ ((k : Int) < (n : Int)) := of_decide_eq_false q1
    first | (refine wN_exit ?_; show wC _ _ _ _ _ _ _ _ _) | skip
    refine wN_seq ?_
    refine wN_mov (v := iv (nx us g h k)) rfl ?_
    refine wN_mov (v := iv (nx us g h k)) rfl ?_
    refine wN_end ?_
    have e : k = n := by omega
    exact And.intro trivial (Exists.intro _ (And.intro rfl ⟨by rw [e]; rfl, hk⟩))
set_option maxHeartbeats 2000000 in
/-- the document's frozen -/
theorem reffrozen_ok {sa : Option Addr} {n cap : Nat} {us : List Fz} {R : Int} {L : Nat → Nat} (hs : Sl H sa n cap (fzc us)) (hl : us.length = n) (hn : n ≤ 16) (hL : L = LS us) (hok : us.all Fz.ok = true) (hR : 1 ≤ R ∧ R ≤ 17592186044416) (hlo : lo ≤ H.next) : ∃ a c H', FnX Try.prog kn lo 59 [.slice sa n cap, iv R] H (.slice a n c) H' ∧ Keep H H' [] ∧ Sl H' a n c (nf (dnA L (rdF us) R (msF us) n 500) n) := by
  have key := fnX_low (kn := kn) (lo := lo) (H := H) (args := [.slice sa n cap, iv R]) (Q := fun w H' => ∃ a c, w = .slice a n c ∧ Keep H H' [] ∧ Sl H' a n c (nf (dnA L (rdF us) R (msF us) n 500) n)) Try.func59 B59 N59 Z59 L59 (by simp) ?_
  · obtain ⟨w, H', h, a, c, rfl, q⟩ := key; exact ⟨a, c, H', h, q⟩
  have hk := Keep.refl H []
  have fs := hs.old
  have hO : OO (duF us) n n L := by rw [hL, ← hl]; exact LS_ok us
  have hM : ∀ x, x < n → 0 ≤ msF us x ∧ msF us x ≤ 1099511627776 := fun x hx => (all_at hok (by omega)).2.2
  have hms : ∀ x, x < n → 0 ≤ msF us x := fun x hx => (hM x hx).1
  refine wN_seq ?_
  refine wN_mov (v := .slice none 0 0) rfl ?_
  refine wN_end ?_
  refine wN_seq ?_
  refine wN_mov (v := .slice none 0 0) rfl ?_
  refine wN_mov (v := .slice none 0 0) rfl ?_
  refine wN_end ?_
  refine wN_seq ?_
  refine wN_mov (v := iv 0) rfl ?_
  refine wN_end ?_
  refine loop_low (fn := Try.f59) E59_1 N59 L59x1 (fun x : Nat × Value × Value => [(0, .slice sa n cap), (1, iv R), (5, x.2.1), (6, x.2.2), (7, iv (x.1 : Int))])
    (fun d x H' => x.1 + d = n ∧ Keep H H' [] ∧ Sl H' sa n cap (fzc us) ∧ AcL lo H.next 3 H' [(x.2.1, x.1, nf (msF us) x.1), (x.2.2, x.1, nf (dn0 (rdF us) (msF us)) x.1)] ∧ H.next ≤ H'.next) n (0, .slice none 0 0, .slice none 0 0) ⟨by simp, hk, hs, acl_nil2, Nat.le_refl _⟩ ⟨rfl, rfl, rfl, rfl, rfl, trivial⟩ ?_
  rintro d ⟨i, v1, v2⟩ L1 ⟨hid, hk, hs, hacl, hfL⟩
  simp only at hid hacl hfL ⊢
  have mki := hk.1
  have fs0 : ∀ b, sa = some ⟨b, 0, none⟩ → b < H.next := fs
  refine wN_seq ?_
  refine wN_mov (v := iv (i : Int)) rfl ?_
  refine wN_mov (v := .slice sa n cap) rfl ?_
  refine wN_len (m := n) rfl ?_
  refine wN_c_lss (a := (i : Int)) (b := (n : Int)) rfl rfl ?_
  refine wN_end ?_
  refine And.intro (fun q1 => ?_) (fun q1 => ?_)
  · have q1 : (i : Int) < (n : Int) := of_decide_eq_true q1
    have hi : i < n := by omega
    rcases id hs with ⟨_, h0, _⟩ | ⟨sb, es, rs, _⟩
    · omega
    have lsb := fs0 sb es
    first | refine wN_skip ?_ | skip
    refine wN_seq ?_
    refine wN_mov (v := v1) rfl ?_
    refine wN_mov (v := .slice sa n cap) rfl ?_
    refine wN_mov (v := iv (i : Int)) rfl ?_
    refine wN_idx (b := sb) (o := 0) (k := i) (j := (i : Int)) (by rw [← es]; rfl) rfl rfl (by omega) ?_
    refine wN_addo (b := sb) (o := 0 + i * 3) rfl ?_
    refine wN_ld (b := sb) (o := 0 + i * 3 + 2) (v := iv (msF us i)) rfl rs (by have q := fzc_atF (us := us) (i := i) (j := 2) (by omega) rfl; exact q) ?_
    obtain ⟨H1, hH1⟩ : ∃ H1, L1.new (.cells [iv (msF us i)] 3 false) = H1 := ⟨_, rfl⟩
    refine wN_memh (H' := H1) (k := .heavy) rfl (by kernel_rfl) ((heap_build1 (v := iv (msF us i)) se42 z3 rfl rfl rfl (by decide)).trans (by rw [← hH1]; rfl)) (fun b e => by cases e) ?_
    obtain ⟨kH1, nH1, c1⟩ := new_facts hH1; clear hH1
    have c1 : Cl H1 L1.next [iv (msF us i)] := c1
    have mH1 := kH1.1
    have hk := hk.trans kH1
    have hacl := hacl.keep kH1
    have hs := kH1.sl0 hs
    have rs := kH1.rd rs (by simp)
    obtain ⟨H2, kdH2, eH2, dH2, aH2, kbH2⟩ := AcL.app (P := Try.prog) (lo := lo) (k := i) (t1 := 42) [] [(v2, i, nf (dn0 (rdF us) (msF us)) i)] se42 u42 (c1.sl (Nat.le_refl 1)) rfl (by decide) rfl (by rw [nf_len, Nat.mul_one]) (by omega) hacl (by omega) (by omega)
    refine wN_memh (k := kdH2) rfl (by cases v1 <;> kernel_rfl) (eH2 _ _ _ _ _ _ _ rfl rfl) (reg_ok dH2 _) ?_
    have hk := kbH2.keep hk (by omega)
    have hs := kbH2.sl hs (fun b e => by have := fs b e; omega)
    have rs := kbH2.rd rs (by omega)
    have mH2 := kbH2.1
    have hacl := aH2
    refine wN_mov (v := .slice (some ⟨H1.next, 0, none⟩) (i + 1) (i + 1)) rfl ?_
    refine wN_end ?_
    refine wN_seq ?_
    refine wN_mov (v := .slice sa n cap) rfl ?_
    refine wN_mov (v := iv (i : Int)) rfl ?_
    refine wN_idx (b := sb) (o := 0) (k := i) (j := (i : Int)) (by rw [← es]; rfl) rfl rfl (by omega) ?_
    refine wN_addo (b := sb) (o := 0 + i * 3) rfl ?_
    refine wN_ld (b := sb) (o := 0 + i * 3 + 2) (v := iv (msF us i)) rfl rs (by have q := fzc_atF (us := us) (i := i) (j := 2) (by omega) rfl; exact q) ?_
    refine wN_c_eql (a := (msF us i)) (b := 0) rfl rfl ?_
    refine wN_end ?_
    refine And.intro (fun q2 => ?_) (fun q2 => ?_)
    · have q2 : (msF us i) = 0 := by simpa using q2
      first | refine wN_reg ?_ | refine wN_blk ?_ | refine wN_bseq ?_ | (refine wOps_nil ?_; refine wN_reg ?_)
      refine wN_mov (v := v2) rfl ?_
      refine wN_mov (v := .slice sa n cap) rfl ?_
      refine wN_mov (v := iv (i : Int)) rfl ?_
      refine wN_idx (b := sb) (o := 0) (k := i) (j := (i : Int)) (by rw [← es]; rfl) rfl rfl (by omega) ?_
      refine wN_addo (b := sb) (o := 0 + i * 3) rfl ?_
      refine wN_ld (b := sb) (o := 0 + i * 3) (v := iv ((dn0 (rdF us) (msF us)) i)) rfl rs (by rw [show (dn0 (rdF us) (msF us)) i = rdF us i from by unfold dn0; rw [if_pos (by omega)]]; have q := fzc_atF (us := us) (i := i) (j := 0) (by omega) rfl; exact q) ?_
      obtain ⟨H3, hH3⟩ : ∃ H3, H2.new (.cells [iv ((dn0 (rdF us) (msF us)) i)] 3 false) = H3 := ⟨_, rfl⟩
      refine wN_memh (H' := H3) (k := .heavy) rfl (by kernel_rfl) ((heap_build1 (v := iv ((dn0 (rdF us) (msF us)) i)) se42 z3 rfl rfl rfl (by decide)).trans (by rw [← hH3]; rfl)) (fun b e => by cases e) ?_
      obtain ⟨kH3, nH3, c3⟩ := new_facts hH3; clear hH3
      have c3 : Cl H3 H2.next [iv ((dn0 (rdF us) (msF us)) i)] := c3
      have mH3 := kH3.1
      have hk := hk.trans kH3
      have hacl := hacl.keep kH3
      have hs := kH3.sl0 hs
      have rs := kH3.rd rs (by simp)
      obtain ⟨H4, kdH4, eH4, dH4, aH4, kbH4⟩ := AcL.app (P := Try.prog) (lo := lo) (k := i) (t1 := 42) [((.slice (some ⟨H1.next, 0, none⟩) (i + 1) (i + 1)), i + 1, nf (msF us) i ++ [iv (msF us i)])] [] se42 u42 (c3.sl (Nat.le_refl 1)) rfl (by decide) rfl (by rw [nf_len, Nat.mul_one]) (by omega) hacl (by omega) (by omega)
      refine wN_memh (k := kdH4) rfl (by cases v2 <;> kernel_rfl) (eH4 _ _ _ _ _ _ _ rfl rfl) (reg_ok dH4 _) ?_
      have hk := kbH4.keep hk (by omega)
      have hs := kbH4.sl hs (fun b e => by have := fs b e; omega)
      have rs := kbH4.rd rs (by omega)
      have mH4 := kbH4.1
      have hacl := aH4
      refine wN_mov (v := .slice (some ⟨H3.next, 0, none⟩) (i + 1) (i + 1)) rfl ?_
      refine wN_end ?_
      first | refine wN_reg ?_ | refine wN_blk ?_ | refine wN_bseq ?_ | (refine wOps_nil ?_; refine wN_reg ?_)
      refine wN_mov (v := iv (i : Int)) rfl ?_
      refine wN_add (a := (i : Int)) (b := 1) rfl rfl ⟨by omega, by omega⟩ ?_
      refine wN_mov (v := iv ((i : Int) + 1)) rfl ?_
      refine wN_end ?_
      exact ⟨d - 1, (i + 1, (.slice (some ⟨H1.next, 0, none⟩) (i + 1) (i + 1)), (.slice (some ⟨H3.next, 0, none⟩) (i + 1) (i + 1))), by omega, ⟨by simp only; omega, hk, hs, by simp only; rw [nf_succ, nf_succ]; exact hacl, by omega⟩, rfl, rfl, rfl, rfl, rfl, trivial⟩
    · have q2 : ¬ ((msF us i) = 0) := by simpa using q2
      first | refine wN_reg ?_ | refine wN_blk ?_ | refine wN_bseq ?_ | (refine wOps_nil ?_; refine wN_reg ?_)
      refine wN_mov (v := v2) rfl ?_
      have ed0 : (dn0 (rdF us) (msF us)) i = 501 := by unfold dn0; rw [if_neg (by omega)]
      obtain ⟨H5, hH5⟩ : ∃ H5, H2.new (.cells [iv 501] 3 false) = H5 := ⟨_, rfl⟩
      refine wN_memh (H' := H5) (k := .heavy) rfl (by kernel_rfl) ((heap_build1 (v := iv 501) se42 z3 rfl rfl rfl (by decide)).trans (by rw [← hH5]; rfl)) (fun b e => by cases e) ?_
      obtain ⟨kH5, nH5, c5⟩ := new_facts hH5; clear hH5
      have c5 : Cl H5 H2.next [iv 501] := c5
      have mH5 := kH5.1
      have hk := hk.trans kH5
      have hacl := hacl.keep kH5
      have hs := kH5.sl0 hs
      have rs := kH5.rd rs (by simp)
      have c5 : Cl H5 H2.next [iv ((dn0 (rdF us) (msF us)) i)] := by rw [ed0]; exact c5
      obtain ⟨H6, kdH6, eH6, dH6, aH6, kbH6⟩ := AcL.app (P := Try.prog) (lo := lo) (k := i) (t1 := 42) [((.slice (some ⟨H1.next, 0, none⟩) (i + 1) (i + 1)), i + 1, nf (msF us) i ++ [iv (msF us i)])] [] se42 u42 (c5.sl (Nat.le_refl 1)) rfl (by decide) rfl (by rw [nf_len, Nat.mul_one]) (by omega) hacl (by omega) (by omega)
      refine wN_memh (k := kdH6) rfl (by cases v2 <;> kernel_rfl) (eH6 _ _ _ _ _ _ _ rfl rfl) (reg_ok dH6 _) ?_
      have hk := kbH6.keep hk (by omega)
      have hs := kbH6.sl hs (fun b e => by have := fs b e; omega)
      have rs := kbH6.rd rs (by omega)
      have mH6 := kbH6.1
      have hacl := aH6
      refine wN_mov (v := .slice (some ⟨H5.next, 0, none⟩) (i + 1) (i + 1)) rfl ?_
      refine wN_end ?_
      first | refine wN_reg ?_ | refine wN_blk ?_ | refine wN_bseq ?_ | (refine wOps_nil ?_; refine wN_reg ?_)
      refine wN_mov (v := iv (i : Int)) rfl ?_
      refine wN_add (a := (i : Int)) (b := 1) rfl rfl ⟨by omega, by omega⟩ ?_
      refine wN_mov (v := iv ((i : Int) + 1)) rfl ?_
      refine wN_end ?_
      exact ⟨d - 1, (i + 1, (.slice (some ⟨H1.next, 0, none⟩) (i + 1) (i + 1)), (.slice (some ⟨H5.next, 0, none⟩) (i + 1) (i + 1))), by omega, ⟨by simp only; omega, hk, hs, by simp only; rw [nf_succ, nf_succ]; exact hacl, by omega⟩, rfl, rfl, rfl, rfl, rfl, trivial⟩
  · have q1 : ¬ ((i : Int) < (n : Int)) := of_decide_eq_false q1
    have e : n = i := by omega
    subst e
    obtain ⟨a1, c1, a2, c2, bl, bo, rfl, rfl, p1, p2, p3, p4, hcl, hco, hbl⟩ := acl_two hacl
    clear hacl
    have mfl := hfL
    have hcl : 0 < n → Cl L1 bl (nf (lfA L (rdF us) R (msF us) n 0) n) := hcl
    have hco : 0 < n → Cl L1 bo (nf (dnA L (rdF us) R (msF us) n 0) n) := hco
    first | (refine wN_exit ?_; show wC _ _ _ _ _ _ _ _ _) | skip
    refine wN_seq ?_
    refine wN_mov (v := iv 0) rfl ?_
    refine wN_end ?_
    refine loop_low (fn := Try.f59) E59_2 N59 L59x2 (fun t : Nat => [(0, .slice sa n cap), (1, iv R), (5, .slice a1 n c1), (6, .slice a2 n c2), (8, iv (t : Int))])
      (fun d t H' => t + d = 500 ∧ Keep H H' [] ∧ L1.next ≤ H'.next ∧ Sl H' sa n cap (fzc us) ∧ (0 < n → Cl H' bl (nf (lfA L (rdF us) R (msF us) n t) n)) ∧ (0 < n → Cl H' bo (nf (dnA L (rdF us) R (msF us) n t) n))) 500 0 ⟨by omega, hk, Nat.le_refl _, hs, hcl, hco⟩ ⟨rfl, rfl, rfl, rfl, rfl, trivial⟩ ?_
    rintro d t L2 ⟨htd, hk, hnx2, hs, hcl, hco⟩
    have mkt := hk.1
    refine wN_seq ?_
    refine wN_mov (v := iv (t : Int)) rfl ?_
    refine wN_c_lss (a := (t : Int)) (b := 500) rfl rfl ?_
    refine wN_end ?_
    refine And.intro (fun q3 => ?_) (fun q3 => ?_)
    · have q3 : (t : Int) < 500 := of_decide_eq_true q3
      first | refine wN_skip ?_ | skip
      refine wN_seq ?_
      refine wN_mov (v := iv R) rfl ?_
      refine wN_mov (v := iv R) rfl ?_
      refine wN_end ?_
      refine loop_low (fn := Try.f59) E59_3 N59 L59x3 (fun k : Nat => [(0, .slice sa n cap), (1, iv R), (5, .slice a1 n c1), (6, .slice a2 n c2), (8, iv (t : Int)), (9, iv ((hst L (rdF us) (t : Int) R (lfA L (rdF us) R (msF us) n t) k).2))])
        (fun e k H' => k + e = n ∧ Keep H H' [] ∧ L2.next ≤ H'.next ∧ Sl H' sa n cap (fzc us) ∧ (0 < n → Cl H' bl (nf (hst L (rdF us) (t : Int) R (lfA L (rdF us) R (msF us) n t) k).1 n)) ∧ (0 < n → Cl H' bo (nf (dst L (rdF us) (t : Int) R (lfA L (rdF us) R (msF us) n t) (dnA L (rdF us) R (msF us) n t) k) n))) n 0 ⟨by omega, hk, Nat.le_refl _, hs, hcl, hco⟩ ⟨rfl, rfl, rfl, rfl, rfl, rfl, trivial⟩ ?_
      rintro e k L3 ⟨hke, hk, hnx3, hs, hcl, hco⟩
      have mkk := hk.1
      obtain ⟨hin, hr0, hrR⟩ := hst_in (rd := rdF us) (R := R) (t := t) hO hms (by omega) (show k ≤ n by omega)
      refine wN_seq ?_
      refine wN_mov (v := iv ((hst L (rdF us) (t : Int) R (lfA L (rdF us) R (msF us) n t) k).2)) rfl ?_
      refine wN_c_gtr (a := ((hst L (rdF us) (t : Int) R (lfA L (rdF us) R (msF us) n t) k).2)) (b := 0) rfl rfl ?_
      refine wN_end ?_
      refine And.intro (fun q4 => ?_) (fun q4 => ?_)
      · have q4 : ((hst L (rdF us) (t : Int) R (lfA L (rdF us) R (msF us) n t) k).2) > 0 := of_decide_eq_true q4
        first | refine wN_skip ?_ | skip
        refine wN_seq ?_
        refine wN_mov (v := .slice sa n cap) rfl ?_
        refine wN_mov (v := .slice a1 n c1) rfl ?_
        refine wN_mov (v := iv (t : Int)) rfl ?_
        have hsl := slz p1 p2 (fun z => by rw [z]; rfl) hcl
        obtain ⟨H7, fH7, kH7⟩ := next_ok (kn := kn) (lo := lo) (H := L3) (g := (hst L (rdF us) (t : Int) R (lfA L (rdF us) R (msF us) n t) k).1) (h := (t : Int)) hs hl (by omega) hsl
        refine wN_callf (vs := [.slice sa n cap, .slice a1 n c1, iv (t : Int)]) rfl (callX_args fH7) ?_
        have mH7 := kH7.1
        have hk := hk.trans kH7
        have hs := kH7.sl0 hs
        have hcl := fun z => kH7.cl (hcl z) (by simp)
        have hco := fun z => kH7.cl (hco z) (by simp)
        have h00 : ∀ q, q < k → ¬ (rdF us (L q) ≤ (t : Int) ∧ 0 < (hst L (rdF us) (t : Int) R (lfA L (rdF us) R (msF us) n t) k).1 (L q)) := by
          obtain ⟨_, _, _, _, _, a6⟩ := hst_all (rd := rdF us) (h := (t : Int)) (R := R) (left := (lfA L (rdF us) R (msF us) n t)) hO.inj (fun p hp => (lfA_nn hO hms (by omega) t p hp).1) (by omega) k (by omega)
          rcases a6 with z | z
          · exact absurd z (by omega)
          · exact fun q hq w => by have := z q hq w.1; omega
        refine wN_mov (v := iv (nx us (hst L (rdF us) (t : Int) R (lfA L (rdF us) R (msF us) n t) k).1 (t : Int) n)) rfl ?_
        refine wN_end ?_
        refine wN_seq ?_
        refine wN_mov (v := iv (nx us (hst L (rdF us) (t : Int) R (lfA L (rdF us) R (msF us) n t) k).1 (t : Int) n)) rfl ?_
        refine wN_c_lss (a := (nx us (hst L (rdF us) (t : Int) R (lfA L (rdF us) R (msF us) n t) k).1 (t : Int) n)) (b := 0) rfl rfl ?_
        refine wN_end ?_
        refine And.intro (fun q5 => ?_) (fun q5 => ?_)
        · have q5 : (nx us (hst L (rdF us) (t : Int) R (lfA L (rdF us) R (msF us) n t) k).1 (t : Int) n) < 0 := of_decide_eq_true q5
          obtain ⟨hn1, _⟩ := nx_says (us := us) (g := (hst L (rdF us) (t : Int) R (lfA L (rdF us) R (msF us) n t) k).1) (h := (t : Int)) n
          obtain ⟨r1, r2⟩ := hst_run (dn := (dnA L (rdF us) R (msF us) n t)) (h := (t : Int)) (R := R) (left := (lfA L (rdF us) R (msF us) n t)) (k := k) (n := n) (L := L) (rd := rdF us) (fun x hx => (hin x hx).1) hr0 (n - k) (by omega) (fun q _ hq => hn1 (by omega) (L q) (hO.lt q (by omega)))
          rw [show k + (n - k) = n by omega] at r1 r2
          have hco2 : 0 < n → Cl H7 bo (nf (dnA L (rdF us) R (msF us) n (t + 1)) n) := fun z => by
            have q : (dnA L (rdF us) R (msF us) n (t + 1)) = (dst L (rdF us) (t : Int) R (lfA L (rdF us) R (msF us) n t) (dnA L (rdF us) R (msF us) n t) k) := r2
            rw [q]; exact hco z
          have hcl2 : 0 < n → Cl H7 bl (nf (lfA L (rdF us) R (msF us) n (t + 1)) n) := fun z => by
            have q : (lfA L (rdF us) R (msF us) n (t + 1)) = (hst L (rdF us) (t : Int) R (lfA L (rdF us) R (msF us) n t) k).1 := by show (hst L (rdF us) (t : Int) R (lfA L (rdF us) R (msF us) n t) n).1 = _; rw [r1]
            rw [q]; exact hcl z
          first | (refine wN_exit ?_; show wC _ _ _ _ _ _ _ _ _) | skip
          first | refine wN_reg ?_ | refine wN_blk ?_ | refine wN_bseq ?_ | (refine wOps_nil ?_; refine wN_reg ?_)
          refine wN_mov (v := iv (t : Int)) rfl ?_
          refine wN_add (a := (t : Int)) (b := 1) rfl rfl ⟨by omega, by omega⟩ ?_
          refine wN_mov (v := iv ((t : Int) + 1)) rfl ?_
          refine wN_end ?_
          exact ⟨d - 1, t + 1, by omega, ⟨by omega, hk, by omega, hs, hcl2, hco2⟩, rfl, rfl, rfl, rfl, rfl, trivial⟩
        · have q5 : ¬ ((nx us (hst L (rdF us) (t : Int) R (lfA L (rdF us) R (msF us) n t) k).1 (t : Int) n) < 0) := of_decide_eq_false q5
          obtain ⟨p, hp1, hp2, hp3, hp4⟩ := nx_place (us := us) (g := (hst L (rdF us) (t : Int) R (lfA L (rdF us) R (msF us) n t) k).1) (h := (t : Int)) hO h00 (by omega)
          have hnin := nx_in (us := us) (g := (hst L (rdF us) (t : Int) R (lfA L (rdF us) R (msF us) n t) k).1) (h := (t : Int)) n
          have hjn : (nx us (hst L (rdF us) (t : Int) R (lfA L (rdF us) R (msF us) n t) k).1 (t : Int) n) = (L p : Int) := by omega
          have hLp := hO.lt p hp2
          have h0n : 0 < n := by omega
          obtain ⟨r1, r2⟩ := hst_run (dn := (dnA L (rdF us) R (msF us) n t)) (h := (t : Int)) (R := R) (left := (lfA L (rdF us) R (msF us) n t)) (k := k) (n := n) (L := L) (rd := rdF us) (fun x hx => (hin x hx).1) hr0 (p - k) (by omega) (fun q _ hq => hp4 q (by omega))
          rw [show k + (p - k) = p by omega] at r1 r2
          have hwt := (nx_says (us := us) (g := (hst L (rdF us) (t : Int) R (lfA L (rdF us) R (msF us) n t) k).1) (h := (t : Int)) n).2 (by omega)
          rw [← hp3] at hwt
          have hin1 := hin p hp2
          have hMp := hM (L p) hLp
          have hbz := hbl h0n
          obtain ⟨ea1, ec1⟩ := p1 h0n
          obtain ⟨ea2, ec2⟩ := p3 h0n
          have hws := hst_wait (L := L) (rd := rdF us) (h := (t : Int)) (R := R) (left := (lfA L (rdF us) R (msF us) n t)) (k := p) hwt.1.1
          rw [r1] at hws
          have cl0 := hcl h0n
          have co0 := hco h0n
          first | refine wN_skip ?_ | skip
          refine wN_seq ?_
          refine wN_mov (v := iv ((hst L (rdF us) (t : Int) R (lfA L (rdF us) R (msF us) n t) k).2)) rfl ?_
          refine wN_mov (v := .slice a1 n c1) rfl ?_
          refine wN_mov (v := iv (nx us (hst L (rdF us) (t : Int) R (lfA L (rdF us) R (msF us) n t) k).1 (t : Int) n)) rfl ?_
          refine wN_idx (b := bl) (o := 0) (k := L p) (j := (nx us (hst L (rdF us) (t : Int) R (lfA L (rdF us) R (msF us) n t) k).1 (t : Int) n)) (by rw [ea1]; rfl) rfl hjn hLp ?_
          refine wN_ld (b := bl) (o := 0 + (L p) * 1) (v := iv ((hst L (rdF us) (t : Int) R (lfA L (rdF us) R (msF us) n t) k).1 (L p))) rfl cl0.rd (nf_at (f := (hst L (rdF us) (t : Int) R (lfA L (rdF us) R (msF us) n t) k).1) hLp) ?_
          refine wN_mm (a := ((hst L (rdF us) (t : Int) R (lfA L (rdF us) R (msF us) n t) k).2)) (b := ((hst L (rdF us) (t : Int) R (lfA L (rdF us) R (msF us) n t) k).1 (L p))) rfl rfl ?_
          refine wN_mov (v := iv (min ((hst L (rdF us) (t : Int) R (lfA L (rdF us) R (msF us) n t) k).2) ((hst L (rdF us) (t : Int) R (lfA L (rdF us) R (msF us) n t) k).1 (L p)))) rfl ?_
          refine wN_end ?_
          refine wN_seq ?_
          refine wN_mov (v := .slice a1 n c1) rfl ?_
          refine wN_mov (v := iv (nx us (hst L (rdF us) (t : Int) R (lfA L (rdF us) R (msF us) n t) k).1 (t : Int) n)) rfl ?_
          refine wN_mov (v := .slice a1 n c1) rfl ?_
          refine wN_mov (v := iv (nx us (hst L (rdF us) (t : Int) R (lfA L (rdF us) R (msF us) n t) k).1 (t : Int) n)) rfl ?_
          refine wN_idx (b := bl) (o := 0) (k := L p) (j := (nx us (hst L (rdF us) (t : Int) R (lfA L (rdF us) R (msF us) n t) k).1 (t : Int) n)) (by rw [ea1]; rfl) rfl hjn hLp ?_
          refine wN_ld (b := bl) (o := 0 + (L p) * 1) (v := iv ((hst L (rdF us) (t : Int) R (lfA L (rdF us) R (msF us) n t) k).1 (L p))) rfl cl0.rd (nf_at (f := (hst L (rdF us) (t : Int) R (lfA L (rdF us) R (msF us) n t) k).1) hLp) ?_
          refine wN_mov (v := iv (min ((hst L (rdF us) (t : Int) R (lfA L (rdF us) R (msF us) n t) k).2) ((hst L (rdF us) (t : Int) R (lfA L (rdF us) R (msF us) n t) k).1 (L p)))) rfl ?_
          refine wN_sub (a := ((hst L (rdF us) (t : Int) R (lfA L (rdF us) R (msF us) n t) k).1 (L p))) (b := min ((hst L (rdF us) (t : Int) R (lfA L (rdF us) R (msF us) n t) k).2) ((hst L (rdF us) (t : Int) R (lfA L (rdF us) R (msF us) n t) k).1 (L p))) rfl rfl ⟨by omega, by omega⟩ ?_
          refine wN_idx (b := bl) (o := 0) (k := L p) (j := (nx us (hst L (rdF us) (t : Int) R (lfA L (rdF us) R (msF us) n t) k).1 (t : Int) n)) (by rw [ea1]; rfl) rfl hjn hLp ?_
          refine wN_st (b := bl) (o := 0 + L p * 1) (v := iv (((hst L (rdF us) (t : Int) R (lfA L (rdF us) R (msF us) n t) k).1 (L p)) - (min ((hst L (rdF us) (t : Int) R (lfA L (rdF us) R (msF us) n t) k).2) ((hst L (rdF us) (t : Int) R (lfA L (rdF us) R (msF us) n t) k).1 (L p))))) rfl rfl cl0 (by omega) rfl rfl (by rw [nf_len]; omega) ?_
          intro H8 kH8 nH8 sH8
          have mH8 := kH8.1
          have hk := hk.new kH8 (fun b hb => by simp at hb ⊢; omega)
          have hs := kH8.sl hs (fun b e => by have := fs b e; first | (simp; done) | (simp; omega))
          have co0 := kH8.cl co0 (by first | (simp; done) | (simp; omega))
          have cl0 := sH8
          rw [nf_set hLp] at cl0
          have cl0 : Cl H8 bl (nf (hst L (rdF us) (t : Int) R (lfA L (rdF us) R (msF us) n t) (p + 1)).1 n) := by rw [hws]; exact cl0
          have hroom : (hst L (rdF us) (t : Int) R (lfA L (rdF us) R (msF us) n t) (p + 1)).2 = (hst L (rdF us) (t : Int) R (lfA L (rdF us) R (msF us) n t) k).2 - min (hst L (rdF us) (t : Int) R (lfA L (rdF us) R (msF us) n t) k).2 ((hst L (rdF us) (t : Int) R (lfA L (rdF us) R (msF us) n t) k).1 (L p)) := by rw [hws]
          refine wN_end ?_
          refine wN_seq ?_
          refine wN_mov (v := iv ((hst L (rdF us) (t : Int) R (lfA L (rdF us) R (msF us) n t) k).2)) rfl ?_
          refine wN_mov (v := iv (min ((hst L (rdF us) (t : Int) R (lfA L (rdF us) R (msF us) n t) k).2) ((hst L (rdF us) (t : Int) R (lfA L (rdF us) R (msF us) n t) k).1 (L p)))) rfl ?_
          refine wN_sub (a := ((hst L (rdF us) (t : Int) R (lfA L (rdF us) R (msF us) n t) k).2)) (b := min ((hst L (rdF us) (t : Int) R (lfA L (rdF us) R (msF us) n t) k).2) ((hst L (rdF us) (t : Int) R (lfA L (rdF us) R (msF us) n t) k).1 (L p))) rfl rfl ⟨by omega, by omega⟩ ?_
          refine wN_mov (v := iv (((hst L (rdF us) (t : Int) R (lfA L (rdF us) R (msF us) n t) k).2) - (min ((hst L (rdF us) (t : Int) R (lfA L (rdF us) R (msF us) n t) k).2) ((hst L (rdF us) (t : Int) R (lfA L (rdF us) R (msF us) n t) k).1 (L p))))) rfl ?_
          refine wN_end ?_
          refine wN_seq ?_
          refine wN_mov (v := .slice a1 n c1) rfl ?_
          refine wN_mov (v := iv (nx us (hst L (rdF us) (t : Int) R (lfA L (rdF us) R (msF us) n t) k).1 (t : Int) n)) rfl ?_
          refine wN_idx (b := bl) (o := 0) (k := L p) (j := (nx us (hst L (rdF us) (t : Int) R (lfA L (rdF us) R (msF us) n t) k).1 (t : Int) n)) (by rw [ea1]; rfl) rfl hjn hLp ?_
          refine wN_ld (b := bl) (o := 0 + (L p) * 1) (v := iv ((hst L (rdF us) (t : Int) R (lfA L (rdF us) R (msF us) n t) (p + 1)).1 (L p))) rfl cl0.rd (nf_at (f := (hst L (rdF us) (t : Int) R (lfA L (rdF us) R (msF us) n t) (p + 1)).1) hLp) ?_
          refine wN_c_eql (a := ((hst L (rdF us) (t : Int) R (lfA L (rdF us) R (msF us) n t) (p + 1)).1 (L p))) (b := 0) rfl rfl ?_
          refine wN_end ?_
          refine And.intro (fun q6 => ?_) (fun q6 => ?_)
          · have q6 : ((hst L (rdF us) (t : Int) R (lfA L (rdF us) R (msF us) n t) (p + 1)).1 (L p)) = 0 := by simpa using q6
            first | refine wN_reg ?_ | refine wN_blk ?_ | refine wN_bseq ?_ | (refine wOps_nil ?_; refine wN_reg ?_)
            refine wN_mov (v := .slice a2 n c2) rfl ?_
            refine wN_mov (v := iv (nx us (hst L (rdF us) (t : Int) R (lfA L (rdF us) R (msF us) n t) k).1 (t : Int) n)) rfl ?_
            refine wN_mov (v := iv (t : Int)) rfl ?_
            refine wN_add (a := (t : Int)) (b := 1) rfl rfl ⟨by omega, by omega⟩ ?_
            refine wN_idx (b := bo) (o := 0) (k := L p) (j := (nx us (hst L (rdF us) (t : Int) R (lfA L (rdF us) R (msF us) n t) k).1 (t : Int) n)) (by rw [ea2]; rfl) rfl hjn hLp ?_
            refine wN_st (b := bo) (o := 0 + L p * 1) (v := iv ((t : Int) + 1)) rfl rfl co0 (by omega) rfl rfl (by rw [nf_len]; omega) ?_
            intro H9 kH9 nH9 sH9
            have mH9 := kH9.1
            have hk := hk.new kH9 (fun b hb => by simp at hb ⊢; omega)
            have hs := kH9.sl hs (fun b e => by have := fs b e; first | (simp; done) | (simp; omega))
            have cl0 := kH9.cl cl0 (by first | (simp; done) | (simp; omega))
            have co0 := sH9
            rw [nf_set hLp] at co0
            have hco3 : 0 < n → Cl H9 bo (nf (dst L (rdF us) (t : Int) R (lfA L (rdF us) R (msF us) n t) (dnA L (rdF us) R (msF us) n t) (p + 1)) n) := fun _ => by rw [dst_go (by rw [r1]; exact hwt.1.2) (by omega), r2]; exact co0
            have hcl3 : 0 < n → Cl H9 bl (nf (hst L (rdF us) (t : Int) R (lfA L (rdF us) R (msF us) n t) (p + 1)).1 n) := fun _ => cl0
            refine wN_end ?_
            exact ⟨n - (p + 1), p + 1, by omega, ⟨by omega, hk, by omega, hs, hcl3, hco3⟩, rfl, rfl, rfl, rfl, rfl, by rw [hroom]; rfl, trivial⟩
          · have q6 : ¬ (((hst L (rdF us) (t : Int) R (lfA L (rdF us) R (msF us) n t) (p + 1)).1 (L p)) = 0) := by simpa using q6
            have hco3 : 0 < n → Cl H8 bo (nf (dst L (rdF us) (t : Int) R (lfA L (rdF us) R (msF us) n t) (dnA L (rdF us) R (msF us) n t) (p + 1)) n) := fun _ => by rw [dst_no (by omega), r2]; exact co0
            have hcl3 : 0 < n → Cl H8 bl (nf (hst L (rdF us) (t : Int) R (lfA L (rdF us) R (msF us) n t) (p + 1)).1 n) := fun _ => cl0
            first | refine wN_skip ?_ | skip
            exact ⟨n - (p + 1), p + 1, by omega, ⟨by omega, hk, by omega, hs, hcl3, hco3⟩, rfl, rfl, rfl, rfl, rfl, by rw [hroom]; rfl, trivial⟩
      · have q4 : ¬ (((hst L (rdF us) (t : Int) R (lfA L (rdF us) R (msF us) n t) k).2) > 0) := of_decide_eq_false q4
        obtain ⟨hq1, hq2⟩ := hour_stop (rd := rdF us) (R := R) (t := t) hO hms (by omega) (show k ≤ n by omega) (by omega)
        have hco2 : 0 < n → Cl L3 bo (nf (dnA L (rdF us) R (msF us) n (t + 1)) n) := fun z => by
          have q : (dnA L (rdF us) R (msF us) n (t + 1)) = (dst L (rdF us) (t : Int) R (lfA L (rdF us) R (msF us) n t) (dnA L (rdF us) R (msF us) n t) k) := hq2 _
          rw [q]; exact hco z
        have hcl2 : 0 < n → Cl L3 bl (nf (lfA L (rdF us) R (msF us) n (t + 1)) n) := fun z => by rw [hq1]; exact hcl z
        first | (refine wN_exit ?_; show wC _ _ _ _ _ _ _ _ _) | skip
        first | refine wN_reg ?_ | refine wN_blk ?_ | refine wN_bseq ?_ | (refine wOps_nil ?_; refine wN_reg ?_)
        refine wN_mov (v := iv (t : Int)) rfl ?_
        refine wN_add (a := (t : Int)) (b := 1) rfl rfl ⟨by omega, by omega⟩ ?_
        refine wN_mov (v := iv ((t : Int) + 1)) rfl ?_
        refine wN_end ?_
        exact ⟨d - 1, t + 1, by omega, ⟨by omega, hk, by omega, hs, hcl2, hco2⟩, rfl, rfl, rfl, rfl, rfl, trivial⟩
    · have q3 : ¬ ((t : Int) < 500) := of_decide_eq_false q3
      first | (refine wN_exit ?_; show wC _ _ _ _ _ _ _ _ _) | skip
      refine wN_seq ?_
      refine wN_mov (v := .slice a2 n c2) rfl ?_
      refine wN_mov (v := .slice a2 n c2) rfl ?_
      refine wN_end ?_
      have et : t = 500 := by omega
      subst et
      exact And.intro trivial (Exists.intro _ (And.intro rfl ⟨_, _, rfl, hk, slz p3 p4 (fun z => by rw [z]; rfl) hco⟩))
theorem ref29_ok {sa : Option Addr} {n cap : Nat} {us : List Fz} {R : Int} (hs : Sl H sa n cap (fzc us)) (hl : us.length = n) (hn2 : n ≤ 1000000) (hlo : lo ≤ H.next) (h0 : frzE us R = 0) : ∃ a c H', FnX Try.prog kn lo 29 [.slice sa n cap, iv R] H (.tuple #[.slice a n c, iv 0]) H' ∧ Keep H H' [] ∧ Sl H' a n c (nf (DN us R) n) := by
  have key := fnX_low (kn := kn) (lo := lo) (H := H) (args := [.slice sa n cap, iv R]) (Q := fun w H' => ∃ a c, w = .tuple #[.slice a n c, iv 0] ∧ Keep H H' [] ∧ Sl H' a n c (nf (DN us R) n)) Try.func29 B29 N29 Z29 L29 (by simp) ?_
  · obtain ⟨w, H', h, a, c, rfl, q⟩ := key; exact ⟨a, c, H', h, q⟩
  have hk := Keep.refl H []
  obtain ⟨h1, h2, h3, h4⟩ := frzE_0 h0
  refine wN_seq ?_
  refine wN_mov (v := .slice none 0 0) rfl ?_
  refine wN_mov (v := iv 0) rfl ?_
  refine wN_end ?_
  refine wN_seq ?_
  refine wN_mov (v := .slice sa n cap) rfl ?_
  refine wN_len (m := n) rfl ?_
  refine wN_c_gtr (a := (n : Int)) (b := 16) rfl rfl ?_
  refine wN_end ?_
  refine And.intro (fun q1 => ?_) (fun q1 => ?_)
  · have q1 : (n : Int) > 16 := of_decide_eq_true q1
    exfalso; omega
  · have q1 : ¬ ((n : Int) > 16) := of_decide_eq_false q1
    first | refine wN_skip ?_ | skip
    refine wN_seq ?_
    refine wN_mov (v := .slice sa n cap) rfl ?_
    obtain ⟨H1, fH1, kH1⟩ := freezes_ok (kn := kn) (lo := lo) (H := H) hs hl hn2 (by omega)
    rw [h2] at fH1
    refine wN_callf (vs := [.slice sa n cap]) rfl (callX_args fH1) ?_
    have mH1 := kH1.1
    have hk := hk.trans kH1
    have hs := kH1.sl0 hs
    refine wN_pur (v := .bool false) rfl rfl ?_
    refine wN_end ?_
    refine condF ?_
    first | refine wN_skip ?_ | skip
    refine wN_seq ?_
    refine wN_mov (v := iv R) rfl ?_
    obtain ⟨H2, fH2, kH2⟩ := in50_ok (kn := kn) (lo := lo) (H := H1) (n := R) (a := 1) (m := 17592186044416)
    rw [show inB R 1 17592186044416 = true from by unfold inB; rw [decide_eq_true (by omega), decide_eq_true (by omega)]; rfl] at fH2
    refine wN_callf (vs := [iv R, iv 1, iv 17592186044416]) rfl (callX_args fH2) ?_
    have mH2 := kH2.1
    have hk := hk.trans kH2
    have hs := kH2.sl0 hs
    refine wN_pur (v := .bool false) rfl rfl ?_
    refine wN_end ?_
    refine condF ?_
    first | refine wN_skip ?_ | skip
    refine wN_seq ?_
    refine wN_mov (v := .slice sa n cap) rfl ?_
    refine wN_mov (v := iv R) rfl ?_
    obtain ⟨ra, rc, H3, fH3, kH3, rsl⟩ := reffrozen_ok (kn := kn) (lo := lo) (H := H2) (R := R) (L := LS us) hs hl (by omega) rfl h2 ⟨h3, h4⟩ (by omega)
    refine wN_callf (vs := [.slice sa n cap, iv R]) rfl (callX_args fH3) ?_
    have mH3 := kH3.1
    have hk := hk.trans kH3
    have hs := kH3.sl0 hs
    refine wN_mov (v := .slice ra n rc) rfl ?_
    refine wN_mov (v := iv 0) rfl ?_
    refine wN_end ?_
    exact And.intro trivial (Exists.intro _ (And.intro rfl ⟨_, _, rfl, hk, by unfold DN; rw [hl]; exact rsl⟩))
theorem ref29_no {sa : Option Addr} {n cap : Nat} {us : List Fz} {R : Int} (hs : Sl H sa n cap (fzc us)) (hl : us.length = n) (hn2 : n ≤ 1000000) (hlo : lo ≤ H.next) (h0 : frzE us R ≠ 0) : ∃ H', FnX Try.prog kn lo 29 [.slice sa n cap, iv R] H (.tuple #[.slice none 0 0, iv (frzE us R)]) H' ∧ Keep H H' [] := by
  have key := fnX_low (kn := kn) (lo := lo) (H := H) (args := [.slice sa n cap, iv R]) (Q := fun w H' => w = .tuple #[.slice none 0 0, iv (frzE us R)] ∧ Keep H H' []) Try.func29 B29 N29 Z29 L29 (by simp) ?_
  · obtain ⟨w, H', h, rfl, q⟩ := key; exact ⟨H', h, q⟩
  have hk := Keep.refl H []
  refine wN_seq ?_
  refine wN_mov (v := .slice none 0 0) rfl ?_
  refine wN_mov (v := iv 0) rfl ?_
  refine wN_end ?_
  refine wN_seq ?_
  refine wN_mov (v := .slice sa n cap) rfl ?_
  refine wN_len (m := n) rfl ?_
  refine wN_c_gtr (a := (n : Int)) (b := 16) rfl rfl ?_
  refine wN_end ?_
  refine And.intro (fun q1 => ?_) (fun q1 => ?_)
  · have q1 : (n : Int) > 16 := of_decide_eq_true q1
    refine wN_seq ?_
    refine wN_mov (v := .slice none 0 0) rfl ?_
    refine wN_mov (v := iv 3) rfl ?_
    refine wN_end ?_
    exact And.intro trivial (Exists.intro _ (And.intro rfl ⟨by unfold frzE chkF; first | (rw [if_neg (by rw [if_pos (by omega)]; decide), if_pos (by omega)]; rfl) | (rw [if_neg (by rw [if_neg (by omega), hal]; decide), if_neg (by omega), hal]; rfl) | (rw [if_pos (by rw [if_neg (by omega), hal]; rfl), if_neg (by omega)]; rfl), hk⟩))
  · have q1 : ¬ ((n : Int) > 16) := of_decide_eq_false q1
    first | refine wN_skip ?_ | skip
    refine wN_seq ?_
    refine wN_mov (v := .slice sa n cap) rfl ?_
    refine wN_callB rfl (freezes_ok hs hl hn2 (by omega)) ?_
    intro tH1 H1 hH1 kH1
    have mH1 := kH1.1
    have hk := hk.trans kH1
    have hs := kH1.sl0 hs
    cases tH1
    · have hal : us.all Fz.ok = false := hH1
      refine wN_pur (v := .bool true) rfl rfl ?_
      refine wN_end ?_
      refine condT ?_
      refine wN_seq ?_
      refine wN_mov (v := .slice none 0 0) rfl ?_
      refine wN_mov (v := iv 1) rfl ?_
      refine wN_end ?_
      exact And.intro trivial (Exists.intro _ (And.intro rfl ⟨by unfold frzE chkF; first | (rw [if_neg (by rw [if_pos (by omega)]; decide), if_pos (by omega)]; rfl) | (rw [if_neg (by rw [if_neg (by omega), hal]; decide), if_neg (by omega), hal]; rfl) | (rw [if_pos (by rw [if_neg (by omega), hal]; rfl), if_neg (by omega)]; rfl), hk⟩))
    · have hal : us.all Fz.ok = true := hH1
      refine wN_pur (v := .bool false) rfl rfl ?_
      refine wN_end ?_
      refine condF ?_
      first | refine wN_skip ?_ | skip
      refine wN_seq ?_
      refine wN_mov (v := iv R) rfl ?_
      refine wN_callB rfl (in50_ok) ?_
      intro tH2 H2 hH2 kH2
      have mH2 := kH2.1
      have hk := hk.trans kH2
      have hs := kH2.sl0 hs
      cases tH2
      · have fhH2 := inB_f hH2
        refine wN_pur (v := .bool true) rfl rfl ?_
        refine wN_end ?_
        refine condT ?_
        refine wN_seq ?_
        refine wN_mov (v := .slice none 0 0) rfl ?_
        refine wN_mov (v := iv 2) rfl ?_
        refine wN_end ?_
        exact And.intro trivial (Exists.intro _ (And.intro rfl ⟨by unfold frzE chkF; first | (rw [if_neg (by rw [if_pos (by omega)]; decide), if_pos (by omega)]; rfl) | (rw [if_neg (by rw [if_neg (by omega), hal]; decide), if_neg (by omega), hal]; rfl) | (rw [if_pos (by rw [if_neg (by omega), hal]; rfl), if_neg (by omega)]; rfl), hk⟩))
      · have fhH2 := inB_t hH2
        refine wN_pur (v := .bool false) rfl rfl ?_
        refine wN_end ?_
        refine condF ?_
        first | refine wN_skip ?_ | skip
        refine wN_seq ?_
        refine wN_mov (v := .slice sa n cap) rfl ?_
        refine wN_mov (v := iv R) rfl ?_
        exfalso; exact h0 (by unfold frzE chkF; rw [if_pos (by rw [if_neg (by omega), hal]; rfl), if_pos (by omega)])
end
end Go.Ax

/-
  Plant: the document's Rate, Ints, the law PlantFreezes (written by program).
-/
namespace Go.Ax
open Go Go.RowKit Go.Proofs

theorem late_eq {us : List Fz} {n : Nat} {R : Int} (hl : us.length = n) : lateG us (DN us R) n = lateU us R us.length := by rw [hl]; rfl
section
variable {kn : FuncId → Option Bool} {lo : Nat} {H : Hp}
/-- the document's Ints, of the same -/
theorem ints27_ok {g : Nat → Int} {a1 a2 : Option Addr} {n c1 c2 m : Nat} (h1 : Sl H a1 n c1 (nf g m)) (h2 : Sl H a2 n c2 (nf g m)) (hnm : n ≤ m) (hn2 : n ≤ 1000000) : ∃ H', FnX Try.prog kn lo 27 [.slice a1 n c1, .slice a2 n c2] H (.bool true) H' ∧ Keep H H' [] := by
  have key := fnX_low (kn := kn) (lo := lo) (H := H) (args := [.slice a1 n c1, .slice a2 n c2]) (Q := fun w H' => w = .bool true ∧ Keep H H' []) Try.func27 B27 N27 Z27 L27 (by simp) ?_
  · obtain ⟨w, H', h, rfl, q⟩ := key; exact ⟨H', h, q⟩
  have hk := Keep.refl H []
  refine wN_seq ?_
  refine wN_mov (v := .bool false) rfl ?_
  refine wN_end ?_
  refine wN_seq ?_
  refine wN_mov (v := .slice a1 n c1) rfl ?_
  refine wN_len (m := n) rfl ?_
  refine wN_mov (v := .slice a2 n c2) rfl ?_
  refine wN_len (m := n) rfl ?_
  refine wN_c_neq (a := (n : Int)) (b := (n : Int)) rfl rfl ?_
  refine wN_end ?_
  refine And.intro (fun q1 => ?_) (fun q1 => ?_)
  · have q1 : (n : Int) ≠ (n : Int) := by simpa using q1
    exfalso; omega
  · have q1 : ¬ ((n : Int) ≠ (n : Int)) := by simpa using q1
    first | refine wN_skip ?_ | skip
    refine wN_seq ?_
    refine wN_mov (v := iv 0) rfl ?_
    refine wN_end ?_
    refine loop_low (fn := Try.f27) E27_1 N27 L27x1 (fun i : Nat => [(0, .slice a1 n c1), (1, .slice a2 n c2), (5, iv (i : Int))])
      (fun k i H' => i + k = n ∧ Keep H H' [] ∧ Sl H' a1 n c1 (nf g m) ∧ Sl H' a2 n c2 (nf g m)) n 0 ⟨by omega, hk, h1, h2⟩ ⟨rfl, rfl, rfl, trivial⟩ ?_
    rintro k i L1 ⟨hik, hk, h1, h2⟩
    refine wN_seq ?_
    refine wN_mov (v := iv (i : Int)) rfl ?_
    refine wN_mov (v := .slice a1 n c1) rfl ?_
    refine wN_len (m := n) rfl ?_
    refine wN_c_lss (a := (i : Int)) (b := (n : Int)) rfl rfl ?_
    refine wN_end ?_
    refine And.intro (fun q2 => ?_) (fun q2 => ?_)
    · have q2 : (i : Int) < (n : Int) := of_decide_eq_true q2
      have hi : i < n := by omega
      rcases id h1 with ⟨_, h0, _⟩ | ⟨b1, e1, r1, _⟩
      · omega
      rcases id h2 with ⟨_, h0, _⟩ | ⟨b2, e2, r2, _⟩
      · omega
      first | refine wN_skip ?_ | skip
      refine wD_seq ?_
      refine wD_mov (v := .slice a1 n c1) rfl ?_
      refine wD_mov (v := iv (i : Int)) rfl ?_
      refine wD_idx (b := b1) (o := 0) (k := i) (j := (i : Int)) (by rw [← e1]; rfl) rfl rfl hi ?_
      refine wD_ld (b := b1) (o := 0 + i * 1) (v := iv (g i)) rfl r1 (nf_at (f := g) (by omega)) ?_
      refine wD_mov (v := .slice a2 n c2) rfl ?_
      refine wD_mov (v := iv (i : Int)) rfl ?_
      refine wD_idx (b := b2) (o := 0) (k := i) (j := (i : Int)) (by rw [← e2]; rfl) rfl rfl hi ?_
      refine wD_ld (b := b2) (o := 0 + i * 1) (v := iv (g i)) rfl r2 (nf_at (f := g) (by omega)) ?_
      refine wD_c_neq (a := g i) (b := g i) rfl rfl ?_
      rw [show (g i != g i) = false by simp]
      refine wD_end (by repeat' first | exact True.intro | exact (fun h => h) | refine And.intro ?_ ?_ | (intro h; have h : (_ : Nat) = _ := h; omega)) ?_
      refine condF ?_
      first | refine wN_skip ?_ | skip
      first | refine wN_reg ?_ | refine wN_blk ?_ | refine wN_bseq ?_ | (refine wOps_nil ?_; refine wN_reg ?_)
      refine wN_mov (v := iv (i : Int)) rfl ?_
      refine wN_add (a := (i : Int)) (b := 1) rfl rfl ⟨by omega, by omega⟩ ?_
      refine wN_mov (v := iv ((i : Int) + 1)) rfl ?_
      refine wN_end ?_
      exact ⟨k - 1, i + 1, by omega, ⟨by omega, hk, h1, h2⟩, rfl, rfl, rfl, trivial⟩
    · have q2 : ¬ ((i : Int) < (n : Int)) := of_decide_eq_false q2
      first | (refine wN_exit ?_; show wC _ _ _ _ _ _ _ _ _) | skip
      refine wN_seq ?_
      refine wN_mov (v := .bool true) rfl ?_
      refine wN_end ?_
      exact And.intro trivial (Exists.intro _ (And.intro rfl ⟨rfl, hk⟩))
set_option maxRecDepth 100000 in
/-- the document's Rate -/
theorem refrate_ok {sa : Option Addr} {n cap : Nat} {us : List Fz} (hs : Sl H sa n cap (fzc us)) (hl : us.length = n) (hn2 : n ≤ 1000000) (hlo : lo ≤ H.next) : ∃ H', FnX Try.prog kn lo 31 [.slice sa n cap] H (.tuple #[iv (ratV us), iv (ratE us)]) H' ∧ Keep H H' [] := by
  have key := fnX_low (kn := kn) (lo := lo) (H := H) (args := [.slice sa n cap]) (Q := fun w H' => w = .tuple #[iv (ratV us), iv (ratE us)] ∧ Keep H H' []) Try.func31 B31 N31 Z31 L31 (by simp) ?_
  · obtain ⟨w, H', h, rfl, q⟩ := key; exact ⟨H', h, q⟩
  have hk := Keep.refl H []
  refine wN_seq ?_
  refine wN_mov (v := iv 0) rfl ?_
  refine wN_mov (v := iv 0) rfl ?_
  refine wN_end ?_
  refine wN_seq ?_
  refine wN_mov (v := .slice sa n cap) rfl ?_
  refine wN_len (m := n) rfl ?_
  refine wN_c_gtr (a := (n : Int)) (b := 16) rfl rfl ?_
  refine wN_end ?_
  refine And.intro (fun q1 => ?_) (fun q1 => ?_)
  · have q1 : (n : Int) > 16 := of_decide_eq_true q1
    refine wN_seq ?_
    refine wN_mov (v := iv 0) rfl ?_
    refine wN_mov (v := iv 3) rfl ?_
    refine wN_end ?_
    exact And.intro trivial (Exists.intro _ (And.intro rfl ⟨by
      have e : ratE us = 3 := by unfold ratE chkF; rw [if_neg (by rw [if_pos (by omega)]; decide), if_pos (by omega)]
      rw [show ratV us = 0 from by unfold ratV; rw [e, if_neg (by omega)], e]; rfl, hk⟩))
  · have q1 : ¬ ((n : Int) > 16) := of_decide_eq_false q1
    first | refine wN_skip ?_ | skip
    refine wN_seq ?_
    refine wN_mov (v := .slice sa n cap) rfl ?_
    refine wN_callB rfl (freezes_ok hs hl hn2 (by omega)) ?_
    intro tH1 H1 hH1 kH1
    have mH1 := kH1.1
    have hk := hk.trans kH1
    have hs := kH1.sl0 hs
    cases tH1
    · have hal : us.all Fz.ok = false := hH1
      refine wN_pur (v := .bool true) rfl rfl ?_
      refine wN_end ?_
      refine condT ?_
      refine wN_seq ?_
      refine wN_mov (v := iv 0) rfl ?_
      refine wN_mov (v := iv 1) rfl ?_
      refine wN_end ?_
      exact And.intro trivial (Exists.intro _ (And.intro rfl ⟨by
        have e : ratE us = 1 := by unfold ratE chkF; rw [if_neg (by rw [if_neg (by omega), hal]; decide), if_neg (by omega), hal]; rfl
        rw [show ratV us = 0 from by unfold ratV; rw [e, if_neg (by omega)], e]; rfl, hk⟩))
    · have hal : us.all Fz.ok = true := hH1
      refine wN_pur (v := .bool false) rfl rfl ?_
      refine wN_end ?_
      refine condF ?_
      first | refine wN_skip ?_ | skip
      refine wN_seq ?_
      refine wN_mov (v := iv 1) rfl ?_
      refine wN_mov (v := iv 17592186044416) rfl ?_
      refine wN_end ?_
      refine wN_seq ?_
      refine wN_mov (v := .slice sa n cap) rfl ?_
      refine wN_mov (v := .slice sa n cap) rfl ?_
      refine wN_mov (v := iv 17592186044416) rfl ?_
      obtain ⟨raH2, rcH2, H2, fH2, kH2, rsH2⟩ := reffrozen_ok (kn := kn) (lo := lo) (H := H1) (R := 17592186044416) (L := LS us) hs hl (by omega) rfl hal ⟨by omega, by omega⟩ (by omega)
      have rsH2 : Sl H2 raH2 n rcH2 (nf (DN us 17592186044416) n) := by unfold DN; rw [hl]; exact rsH2
      refine wN_callf (vs := [.slice sa n cap, iv 17592186044416]) rfl (callX_args fH2) ?_
      have mH2 := kH2.1
      have hk := hk.trans kH2
      have hs := kH2.sl0 hs
      obtain ⟨H3, fH3, kH3⟩ := late_ok (kn := kn) (lo := lo) (H := H2) (g := DN us 17592186044416) hs hl (by omega) rsH2
      rw [late_eq hl] at fH3
      have mH3 := kH3.1
      have hk := hk.trans kH3
      have hs := kH3.sl0 hs
      have rsH2 := kH3.sl0 rsH2
      have hF := FzOk.of hal
      have hmost := hF.most (by omega)
      cases hz : noT us us.length
      · rw [hF.rate hz (by decide), decide_eq_false (by omega)] at fH3
        refine wN_callf (vs := [.slice sa n cap, .slice raH2 n rcH2]) rfl (callX_args fH3) ?_
        refine wN_end ?_
        refine condF ?_
        first | refine wN_skip ?_ | skip
        have hone := lr_one us us.length
        refine loop_low (fn := Try.f31) E31_1 N31 L31x1 (fun x : Int × Int => [(0, .slice sa n cap), (4, iv x.1), (5, iv x.2)])
          (fun d x H' => d = (x.2 - x.1).toNat ∧ 1 ≤ x.1 ∧ x.1 ≤ lrI us us.length ∧ lrI us us.length ≤ x.2 ∧ x.2 ≤ 17592186044416 ∧ Keep H H' [] ∧ Sl H' sa n cap (fzc us)) 17592186044415 (1, 17592186044416) ⟨by decide, by decide, hone, hmost, by decide, hk, hs⟩ ⟨rfl, rfl, rfl, trivial⟩ ?_
        rintro d ⟨low, high⟩ L1 ⟨hxd, hx1, hx2, hx3, hx4, hk, hs⟩
        simp only at hx1 hx2 hx3 hx4 hxd ⊢
        have mki := hk.1
        refine wN_seq ?_
        refine wN_mov (v := iv low) rfl ?_
        refine wN_mov (v := iv high) rfl ?_
        refine wN_c_lss (a := low) (b := high) rfl rfl ?_
        refine wN_end ?_
        refine And.intro (fun q2 => ?_) (fun q2 => ?_)
        · have q2 : low < high := of_decide_eq_true q2
          first | refine wN_skip ?_ | skip
          refine wN_seq ?_
          refine wN_mov (v := iv low) rfl ?_
          refine wN_mov (v := iv high) rfl ?_
          refine wN_add (a := low) (b := high) rfl rfl ⟨by omega, by omega⟩ ?_
          refine wN_quo (a := low + high) (b := 2) rfl rfl (by omega) (by omega) ⟨by omega, by omega⟩ ?_
          refine wN_mov (v := iv ((low + high) / 2)) rfl ?_
          refine wN_end ?_
          refine wN_seq ?_
          refine wN_mov (v := .slice sa n cap) rfl ?_
          refine wN_mov (v := .slice sa n cap) rfl ?_
          refine wN_mov (v := iv ((low + high) / 2)) rfl ?_
          obtain ⟨raH4, rcH4, H4, fH4, kH4, rsH4⟩ := reffrozen_ok (kn := kn) (lo := lo) (H := L1) (R := (low + high) / 2) (L := LS us) hs hl (by omega) rfl hal ⟨by omega, by omega⟩ (by omega)
          have rsH4 : Sl H4 raH4 n rcH4 (nf (DN us ((low + high) / 2)) n) := by unfold DN; rw [hl]; exact rsH4
          refine wN_callf (vs := [.slice sa n cap, iv ((low + high) / 2)]) rfl (callX_args fH4) ?_
          have mH4 := kH4.1
          have hk := hk.trans kH4
          have hs := kH4.sl0 hs
          obtain ⟨H5, fH5, kH5⟩ := late_ok (kn := kn) (lo := lo) (H := H4) (g := DN us ((low + high) / 2)) hs hl (by omega) rsH4
          rw [late_eq hl] at fH5
          have mH5 := kH5.1
          have hk := hk.trans kH5
          have hs := kH5.sl0 hs
          have rsH4 := kH5.sl0 rsH4
          rw [hF.rate hz (by omega)] at fH5
          cases hb : decide ((low + high) / 2 < lrI us us.length)
          · rw [hb] at fH5
            refine wN_callf (vs := [.slice sa n cap, .slice raH4 n rcH4]) rfl (callX_args fH5) ?_
            have hb := of_decide_eq_false hb
            refine wN_end ?_
            refine condF ?_
            first | refine wN_reg ?_ | refine wN_blk ?_ | refine wN_bseq ?_ | (refine wOps_nil ?_; refine wN_reg ?_)
            refine wN_mov (v := iv ((low + high) / 2)) rfl ?_
            refine wN_mov (v := iv ((low + high) / 2)) rfl ?_
            refine wN_end ?_
            exact ⟨((low + high) / 2 - low).toNat, (low, (low + high) / 2), by omega, ⟨rfl, by simp only; omega, by simp only; omega, by simp only; omega, by simp only; omega, hk, hs⟩, rfl, rfl, rfl, trivial⟩
          · rw [hb] at fH5
            refine wN_callf (vs := [.slice sa n cap, .slice raH4 n rcH4]) rfl (callX_args fH5) ?_
            have hb := of_decide_eq_true hb
            refine wN_end ?_
            refine condT ?_
            first | refine wN_reg ?_ | refine wN_blk ?_ | refine wN_bseq ?_ | (refine wOps_nil ?_; refine wN_reg ?_)
            refine wN_mov (v := iv ((low + high) / 2)) rfl ?_
            refine wN_add (a := (low + high) / 2) (b := 1) rfl rfl ⟨by omega, by omega⟩ ?_
            refine wN_mov (v := iv (((low + high) / 2) + 1)) rfl ?_
            refine wN_end ?_
            exact ⟨(high - (((low + high) / 2) + 1)).toNat, (((low + high) / 2) + 1, high), by omega, ⟨rfl, by simp only; omega, by simp only; omega, by simp only; omega, by simp only; omega, hk, hs⟩, rfl, rfl, rfl, trivial⟩
        · have q2 : ¬ (low < high) := of_decide_eq_false q2
          first | (refine wN_exit ?_; show wC _ _ _ _ _ _ _ _ _) | skip
          refine wN_seq ?_
          refine wN_mov (v := iv low) rfl ?_
          refine wN_mov (v := iv low) rfl ?_
          refine wN_mov (v := iv 0) rfl ?_
          refine wN_end ?_
          exact And.intro trivial (Exists.intro _ (And.intro rfl ⟨by
            have e : ratE us = 0 := by unfold ratE chkF; rw [if_pos (by rw [if_neg (by omega), hal]; rfl), hz]; rfl
            rw [show ratV us = low from by unfold ratV; rw [e, if_pos rfl]; omega, e]; rfl, hk⟩))
      · rw [hF.never hz (by decide)] at fH3
        refine wN_callf (vs := [.slice sa n cap, .slice raH2 n rcH2]) rfl (callX_args fH3) ?_
        refine wN_end ?_
        refine condT ?_
        refine wN_seq ?_
        refine wN_mov (v := iv 0) rfl ?_
        refine wN_mov (v := iv 4) rfl ?_
        refine wN_end ?_
        exact And.intro trivial (Exists.intro _ (And.intro rfl ⟨by
          have e : ratE us = 4 := by unfold ratE chkF; rw [if_pos (by rw [if_neg (by omega), hal]; rfl), hz]; rfl
          rw [show ratV us = 0 from by unfold ratV; rw [e, if_neg (by omega)], e]; rfl, hk⟩))
set_option maxRecDepth 100000 in
set_option maxHeartbeats 4000000 in
/-- PlantFreezes -/
theorem law_freezes (hkn : kn 16 = some true) {sa : Option Addr} {n cap : Nat} {us : List Fz} {R : Int} (hs : Sl H sa n cap (fzc us)) (hl : us.length = n) (hro : RoLow lo H) (hlo : lo ≤ H.next) : ∃ H', FnX Try.prog kn lo 5 [.slice sa n cap, iv R] H (.bool true) H' := by
  have key := fnX_low (kn := kn) (lo := lo) (H := H) (args := [.slice sa n cap, iv R]) (Q := fun w H' => w = .bool true) Try.func5 B5 N5 Z5 L5 (by simp) ?_
  · obtain ⟨w, H', h, rfl⟩ := key; exact ⟨H', h⟩
  have hk := Keep.refl H []
  have fs := hs.old
  refine wN_seq ?_
  refine wN_mov (v := .bool false) rfl ?_
  refine wN_end ?_
  refine wN_seq ?_
  refine wN_mov (v := .slice sa n cap) rfl ?_
  refine wN_len (m := n) rfl ?_
  refine wN_c_gtr (a := (n : Int)) (b := 20) rfl rfl ?_
  refine wN_end ?_
  refine And.intro (fun q1 => ?_) (fun q1 => ?_)
  · have q1 : (n : Int) > 20 := of_decide_eq_true q1
    refine wN_seq ?_
    refine wN_callf (vs := []) rfl (callX_known hkn) ?_
    refine wN_mov (v := .bool true) rfl ?_
    refine wN_end ?_
    exact And.intro trivial (Exists.intro _ (And.intro rfl rfl))
  · have q1 : ¬ ((n : Int) > 20) := of_decide_eq_false q1
    first | refine wN_skip ?_ | skip
    refine wN_seq ?_
    refine wN_mov (v := .slice sa n cap) rfl ?_
    refine wN_mov (v := iv R) rfl ?_
    by_cases zA : frzE us R = 0
    · obtain ⟨bA, H1, fH1, kH1, lbA, cA⟩ := frozen28_ok (kn := kn) (lo := lo) (H := H) (R := R) hs hl (by omega) (by omega) zA
      refine wN_callf (vs := [.slice sa n cap, iv R]) rfl (callX_args fH1) ?_
      have mH1 := kH1.1
      have hk := hk.trans kH1
      have hs := kH1.sl0 hs
      have ltA := cA.lt
      refine wN_mov (v := .tuple #[.slice (some ⟨bA, 0, none⟩) n n, iv 0]) rfl ?_
      refine wN_pur (v := .slice (some ⟨bA, 0, none⟩) n n) rfl (by kernel_rfl) ?_
      refine wN_pur (v := iv 0) rfl (by kernel_rfl) ?_
      refine wN_mov (v := .slice (some ⟨bA, 0, none⟩) n n) rfl ?_
      refine wN_mov (v := iv 0) rfl ?_
      refine wN_end ?_
      refine wN_seq ?_
      refine wN_mov (v := .slice sa n cap) rfl ?_
      refine wN_mov (v := iv R) rfl ?_
      obtain ⟨ra, rc, H2, fH2, kH2, rsl⟩ := ref29_ok (kn := kn) (lo := lo) (H := H1) (R := R) hs hl (by omega) (by omega) zA
      refine wN_callf (vs := [.slice sa n cap, iv R]) rfl (callX_args fH2) ?_
      have mH2 := kH2.1
      have hk := hk.trans kH2
      have hs := kH2.sl0 hs
      have cA := kH2.cl cA (by simp)
      refine wN_mov (v := .tuple #[.slice ra n rc, iv 0]) rfl ?_
      refine wN_pur (v := .slice ra n rc) rfl (by kernel_rfl) ?_
      refine wN_pur (v := iv 0) rfl (by kernel_rfl) ?_
      refine wN_mov (v := .slice ra n rc) rfl ?_
      refine wN_mov (v := iv 0) rfl ?_
      refine wN_end ?_
      refine wN_seq ?_
      refine wN_mov (v := .slice sa n cap) rfl ?_
      obtain ⟨H3, fH3, kH3⟩ := rate30_ok (kn := kn) (lo := lo) (H := H2) hs hl (by omega) (by omega)
      refine wN_callf (vs := [.slice sa n cap]) rfl (callX_args fH3) ?_
      have mH3 := kH3.1
      have hk := hk.trans kH3
      have hs := kH3.sl0 hs
      have cA := kH3.cl cA (by simp)
      have rsl := kH3.sl0 rsl
      refine wN_mov (v := .tuple #[iv (ratV us), iv (ratE us)]) rfl ?_
      refine wN_pur (v := iv (ratV us)) rfl (by kernel_rfl) ?_
      refine wN_pur (v := iv (ratE us)) rfl (by kernel_rfl) ?_
      refine wN_mov (v := iv (ratV us)) rfl ?_
      refine wN_mov (v := iv (ratE us)) rfl ?_
      refine wN_end ?_
      refine wN_seq ?_
      refine wN_mov (v := .slice sa n cap) rfl ?_
      obtain ⟨H4, fH4, kH4⟩ := refrate_ok (kn := kn) (lo := lo) (H := H3) hs hl (by omega) (by omega)
      refine wN_callf (vs := [.slice sa n cap]) rfl (callX_args fH4) ?_
      have mH4 := kH4.1
      have hk := hk.trans kH4
      have hs := kH4.sl0 hs
      have cA := kH4.cl cA (by simp)
      have rsl := kH4.sl0 rsl
      refine wN_mov (v := .tuple #[iv (ratV us), iv (ratE us)]) rfl ?_
      refine wN_pur (v := iv (ratV us)) rfl (by kernel_rfl) ?_
      refine wN_pur (v := iv (ratE us)) rfl (by kernel_rfl) ?_
      refine wN_mov (v := iv (ratV us)) rfl ?_
      refine wN_mov (v := iv (ratE us)) rfl ?_
      refine wN_end ?_
      refine wN_seq ?_
      refine wN_mov (v := .slice (some ⟨bA, 0, none⟩) n n) rfl ?_
      refine wN_mov (v := .slice ra n rc) rfl ?_
      obtain ⟨H5, fH5, kH5⟩ := ints27_ok (kn := kn) (lo := lo) (H := H4) (g := DN us R) (m := n) (cA.sl (Nat.le_refl n)) rsl (Nat.le_refl _) (by omega)
      refine wN_callf (vs := [slv bA n n, .slice ra n rc]) rfl (callX_args fH5) ?_
      have mH5 := kH5.1
      have hk := hk.trans kH5
      have hs := kH5.sl0 hs
      have cA := kH5.cl cA (by simp)
      have rsl := kH5.sl0 rsl
      refine wN_mov (v := .bool true) rfl ?_
      refine wN_g rfl (wN_mov (v := iv 0) rfl ?_)
      refine wN_g rfl (wN_mov (v := iv 0) rfl ?_)
      refine wN_g rfl (wN_eql (a := 0) rfl rfl ?_)
      refine wN_pur (v := .bool true) rfl rfl ?_
      refine wN_mov (v := .bool true) rfl ?_
      refine wN_g rfl (wN_mov (v := iv (ratV us)) rfl ?_)
      refine wN_g rfl (wN_mov (v := iv (ratV us)) rfl ?_)
      refine wN_g rfl (wN_eql (a := ratV us) rfl rfl ?_)
      refine wN_pur (v := .bool true) rfl rfl ?_
      refine wN_mov (v := .bool true) rfl ?_
      refine wN_g rfl (wN_mov (v := iv (ratE us)) rfl ?_)
      refine wN_g rfl (wN_mov (v := iv (ratE us)) rfl ?_)
      refine wN_g rfl (wN_eql (a := ratE us) rfl rfl ?_)
      refine wN_pur (v := .bool true) rfl rfl ?_
      refine wN_mov (v := .bool true) rfl ?_
      refine wN_g rfl (wN_callf (vs := []) rfl (callX_known hkn) ?_)
      refine wN_pur (v := .bool true) rfl rfl ?_
      refine wN_mov (v := .bool true) rfl ?_
      refine wN_end ?_
      exact And.intro trivial (Exists.intro _ (And.intro rfl rfl))
    · obtain ⟨H1, fH1, kH1⟩ := frozen28_no (kn := kn) (lo := lo) (H := H) (R := R) hs hl (by omega) (by omega) zA
      refine wN_callf (vs := [.slice sa n cap, iv R]) rfl (callX_args fH1) ?_
      have mH1 := kH1.1
      have hk := hk.trans kH1
      have hs := kH1.sl0 hs
      refine wN_mov (v := .tuple #[.slice none 0 0, iv (frzE us R)]) rfl ?_
      refine wN_pur (v := .slice none 0 0) rfl (by kernel_rfl) ?_
      refine wN_pur (v := iv (frzE us R)) rfl (by kernel_rfl) ?_
      refine wN_mov (v := .slice none 0 0) rfl ?_
      refine wN_mov (v := iv (frzE us R)) rfl ?_
      refine wN_end ?_
      refine wN_seq ?_
      refine wN_mov (v := .slice sa n cap) rfl ?_
      refine wN_mov (v := iv R) rfl ?_
      obtain ⟨H6, fH6, kH6⟩ := ref29_no (kn := kn) (lo := lo) (H := H1) (R := R) hs hl (by omega) (by omega) zA
      refine wN_callf (vs := [.slice sa n cap, iv R]) rfl (callX_args fH6) ?_
      have mH6 := kH6.1
      have hk := hk.trans kH6
      have hs := kH6.sl0 hs
      refine wN_mov (v := .tuple #[.slice none 0 0, iv (frzE us R)]) rfl ?_
      refine wN_pur (v := .slice none 0 0) rfl (by kernel_rfl) ?_
      refine wN_pur (v := iv (frzE us R)) rfl (by kernel_rfl) ?_
      refine wN_mov (v := .slice none 0 0) rfl ?_
      refine wN_mov (v := iv (frzE us R)) rfl ?_
      refine wN_end ?_
      refine wN_seq ?_
      refine wN_mov (v := .slice sa n cap) rfl ?_
      obtain ⟨H7, fH7, kH7⟩ := rate30_ok (kn := kn) (lo := lo) (H := H6) hs hl (by omega) (by omega)
      refine wN_callf (vs := [.slice sa n cap]) rfl (callX_args fH7) ?_
      have mH7 := kH7.1
      have hk := hk.trans kH7
      have hs := kH7.sl0 hs
      refine wN_mov (v := .tuple #[iv (ratV us), iv (ratE us)]) rfl ?_
      refine wN_pur (v := iv (ratV us)) rfl (by kernel_rfl) ?_
      refine wN_pur (v := iv (ratE us)) rfl (by kernel_rfl) ?_
      refine wN_mov (v := iv (ratV us)) rfl ?_
      refine wN_mov (v := iv (ratE us)) rfl ?_
      refine wN_end ?_
      refine wN_seq ?_
      refine wN_mov (v := .slice sa n cap) rfl ?_
      obtain ⟨H8, fH8, kH8⟩ := refrate_ok (kn := kn) (lo := lo) (H := H7) hs hl (by omega) (by omega)
      refine wN_callf (vs := [.slice sa n cap]) rfl (callX_args fH8) ?_
      have mH8 := kH8.1
      have hk := hk.trans kH8
      have hs := kH8.sl0 hs
      refine wN_mov (v := .tuple #[iv (ratV us), iv (ratE us)]) rfl ?_
      refine wN_pur (v := iv (ratV us)) rfl (by kernel_rfl) ?_
      refine wN_pur (v := iv (ratE us)) rfl (by kernel_rfl) ?_
      refine wN_mov (v := iv (ratV us)) rfl ?_
      refine wN_mov (v := iv (ratE us)) rfl ?_
      refine wN_end ?_
      refine wN_seq ?_
      refine wN_mov (v := .slice none 0 0) rfl ?_
      refine wN_mov (v := .slice none 0 0) rfl ?_
      obtain ⟨H9, fH9, kH9⟩ := ints27_ok (kn := kn) (lo := lo) (H := H8) (g := fun _ => 0) (n := 0) (c1 := 0) (c2 := 0) (m := 0) (a1 := none) (a2 := none) (.inl ⟨.inl rfl, rfl, rfl, rfl⟩) (.inl ⟨.inl rfl, rfl, rfl, rfl⟩) (Nat.le_refl _) (by omega)
      refine wN_callf (vs := [.slice none 0 0, .slice none 0 0]) rfl (callX_args fH9) ?_
      have mH9 := kH9.1
      have hk := hk.trans kH9
      have hs := kH9.sl0 hs
      refine wN_mov (v := .bool true) rfl ?_
      refine wN_g rfl (wN_mov (v := iv (frzE us R)) rfl ?_)
      refine wN_g rfl (wN_mov (v := iv (frzE us R)) rfl ?_)
      refine wN_g rfl (wN_eql (a := frzE us R) rfl rfl ?_)
      refine wN_pur (v := .bool true) rfl rfl ?_
      refine wN_mov (v := .bool true) rfl ?_
      refine wN_g rfl (wN_mov (v := iv (ratV us)) rfl ?_)
      refine wN_g rfl (wN_mov (v := iv (ratV us)) rfl ?_)
      refine wN_g rfl (wN_eql (a := ratV us) rfl rfl ?_)
      refine wN_pur (v := .bool true) rfl rfl ?_
      refine wN_mov (v := .bool true) rfl ?_
      refine wN_g rfl (wN_mov (v := iv (ratE us)) rfl ?_)
      refine wN_g rfl (wN_mov (v := iv (ratE us)) rfl ?_)
      refine wN_g rfl (wN_eql (a := ratE us) rfl rfl ?_)
      refine wN_pur (v := .bool true) rfl rfl ?_
      refine wN_mov (v := .bool true) rfl ?_
      refine wN_g rfl (wN_callf (vs := []) rfl (callX_known hkn) ?_)
      refine wN_pur (v := .bool true) rfl rfl ?_
      refine wN_mov (v := .bool true) rfl ?_
      refine wN_end ?_
      exact And.intro trivial (Exists.intro _ (And.intro rfl rfl))
end
end Go.Ax

namespace Go.Ax
open Go Go.RowKit Go.Proofs Go.ChangeShapes Go.WideShapes Go.Deep

/-- A type whose cells are whole numbers. -/
def IntT (P : Program) (t : TypeId) : Prop := ∀ (H : Type) (enc : TypeId × Value → H) (w : World) (base : Nat) (spare : Nat → Bool) (held : Bool) (fuel : Nat) (cs : List Value) (x : DataW H × List MemPlace),
  DataW.trod enc P w base spare held fuel t cs = some x → cs.length = P.cellsOf t ∧ ∀ j, j < cs.length → ∃ n, cs[j]? = some (.int .i64 n)
theorem IntT.int {P : Program} {t : TypeId} (ht : P.underlying t = some (.int .i64)) (hc : P.cellsOf t = 1) : IntT P t := by
  intro H enc w base spare held fuel cs x h
  obtain ⟨n, rfl, _⟩ := DataW.trod_int ht h
  refine ⟨by rw [hc]; rfl, fun j hj => ⟨n, ?_⟩⟩
  have : j = 0 := by simp at hj; omega
  subst this; rfl
theorem IntT.struct {P : Program} {t : TypeId} {fs : Array Field} (ht : P.underlying t = some (.struct fs)) (hf : ∀ f ∈ fs.toList, IntT P f.type)
    (hcov : ((List.range (P.cellsOf t)).all fun j => fs.toList.any fun f => decide (f.offset ≤ j) && decide (j < f.offset + P.cellsOf f.type)) = true) : IntT P t := by
  intro H enc w base spare held fuel cs x h
  obtain ⟨xs, n, _, _, hlen, hxl, hg⟩ := DataW.trod_struct ht h
  refine ⟨hlen, fun j hj => ?_⟩
  have h1 := List.all_eq_true.1 hcov j (List.mem_range.2 (by omega))
  obtain ⟨f, hfm, h2⟩ := List.any_eq_true.1 h1
  simp only [Bool.and_eq_true, decide_eq_true_eq] at h2
  obtain ⟨i, hi, hfi⟩ := List.getElem_of_mem hfm
  have hfs : fs[i]? = some f := by
    rw [← Array.getElem?_toList, List.getElem?_eq_getElem hi, hfi]
  have hi2 : i < xs.length := by simpa [hxl] using hi
  have h3 := hg i f hfs
  rw [List.getElem?_eq_getElem hi2] at h3
  obtain ⟨h4, h5⟩ := hf f hfm _ _ _ _ _ _ _ _ _ h3
  obtain ⟨m, hm⟩ := h5 (j - f.offset) (by omega)
  refine ⟨m, ?_⟩
  rw [List.getElem?_take] at hm
  split at hm
  · rw [List.getElem?_drop, show f.offset + (j - f.offset) = j by omega] at hm; exact hm
  · cases hm

/-- A slice of rows of whole numbers, as it is given. -/
structure Given {α : Type} (w : World) (v : Value) (f : α → List Value) (l : List α) (x : Imp) : Prop where
  ok : ∀ (i : Nat) u, x.cs[i]? = some u → w.cell? ⟨x.blk, x.off + i, none⟩ = some u ∧ flat1 u = true
  cs : x.cs = l.flatMap f
  v : (v = .slice none 0 0 ∧ l = []) ∨ ∃ cap, v = .slice (some ⟨x.blk, x.off, none⟩) l.length cap ∧ l.length ≤ cap
theorem flat_get {α : Type} {f : α → List Value} {k : Nat} (hk : 0 < k) : ∀ {l : List α} (_ : ∀ x ∈ l, (f x).length = k) (i : Nat) (u : Value), (l.flatMap f)[i]? = some u → ∃ x, l[i / k]? = some x ∧ (f x)[i % k]? = some u
  | [], _, i, u, h => by simp at h
  | y :: r, hl, i, u, h => by
    have hy := hl y (List.mem_cons_self ..)
    rw [List.flatMap_cons, List.getElem?_append] at h
    split at h
    · rename_i q
      rw [hy] at q
      refine ⟨y, ?_, ?_⟩
      · rw [Nat.div_eq_of_lt q]; rfl
      · rw [Nat.mod_eq_of_lt q]; exact h
    · rename_i q
      rw [hy] at q h
      obtain ⟨x, h1, h2⟩ := flat_get hk (fun x hx => hl x (List.mem_cons_of_mem _ hx)) _ u h
      refine ⟨x, ?_, ?_⟩
      · rw [Nat.div_eq_sub_div hk (by omega)]; exact h1
      · rw [Nat.mod_eq_sub_mod (by omega)]; exact h2
theorem slice_given {H : Type} {enc : TypeId × Value → H} {P : Program} {w : World} {base b0 : Nat} {r : Reach} {held : Bool} {α : Type} (f : α → List Value) (mk : (Nat → Int) → α) (k : Nat) {t e : TypeId} {fuel : Nat} {v : Value} {x : DataW H × List MemPlace}
    (ht : P.underlying t = some (.slice e)) (hI : IntT P e) (hc : P.cellsOf e = k) (hk : 0 < k) (hmk : ∀ N : Nat → Int, f (mk N) = (List.range k).map fun j => Value.int .i64 (N j))
    (hok : Cell.okWide P w r b0 t v) (h : DataW.trod enc P w base (fun _ => true) held fuel t [v] = some x) : ∃ (l : List α) (y : Imp), Given w v f l y := by
  rcases open_slice ht h with ⟨h0, _⟩ | ⟨a, len, cap, m, n, D, Pl, hcs, hb, hl, hm, hmm, hx, hi⟩
  · cases h0
    exact ⟨[], ⟨0, 0, []⟩, fun i u e => by simp at e, rfl, .inl ⟨rfl, rfl⟩⟩
  · cases hcs
    obtain ⟨blk, off, spot⟩ := a
    have hs : spot = none := by
      unfold Cell.okWide at hok
      rw [ht] at hok
      unfold Cell.ok at hok
      simp only [ht] at hok
      exact hok.2.2.2.1
    subst hs
    simp only [if_true] at hmm
    subst hmm
    have hcell : ∀ i, i < len → ∀ j, j < k → ∃ n, w.cell? ⟨blk, off + (i * k + j), none⟩ = some (.int .i64 n) := by
      intro i hil j hj
      obtain ⟨cs', h1, h2⟩ := hi i (by omega)
      obtain ⟨h3, h4⟩ := hI _ _ _ _ _ _ _ _ _ h2
      obtain ⟨_, h5, h6⟩ := World.cells?_some h1
      obtain ⟨n, hn⟩ := h4 j (by omega)
      refine ⟨n, ?_⟩
      have h7 := h6 j (by omega)
      rw [hn, hc, add_add] at h7
      have e : (⟨blk, off, none⟩ : Addr).add (i * k + j) = ⟨blk, off + (i * k + j), none⟩ := by
        unfold Addr.add
        by_cases q : i * k + j = 0
        · simp [q]
        · simp
      rw [e] at h7
      exact h7
    refine ⟨(List.range len).map fun i => mk fun j => match w.cell? ⟨blk, off + (i * k + j), none⟩ with | some (.int _ n) => n | _ => 0, ⟨blk, off, _⟩, ?_, rfl, .inr ⟨m, by simp, by simpa using hl⟩⟩
    intro i u hu
    obtain ⟨y, h1, h2⟩ := flat_get hk (fun y hy => by
      obtain ⟨i, _, rfl⟩ := List.mem_map.1 hy
      rw [hmk]; simp) i u hu
    have hlt : i / k < len := by
      have := get_lt h1
      simpa using this
    rw [List.getElem?_map, List.getElem?_range hlt] at h1
    simp only [Option.map_some, Option.some.injEq] at h1
    subst h1
    have hj : i % k < k := Nat.mod_lt _ hk
    rw [hmk, List.getElem?_map, List.getElem?_range hj] at h2
    simp only [Option.map_some, Option.some.injEq] at h2
    obtain ⟨n, hn⟩ := hcell _ hlt _ hj
    rw [hn] at h2
    subst h2
    rw [Nat.div_add_mod' ] at hn
    exact ⟨hn, rfl⟩
theorem Given.rel {α : Type} {w : World} {v : Value} {f : α → List Value} {l : List α} {x : Imp} (g : Given w v f l x) {r : Ren} {H : Hp} {b : Nat} (hr : r b = some ⟨x.blk, x.off, none⟩) (hb : b < H.next) (hc : cellsOf H b = some x.cs) (hro : H.t.get b = some (.ro x.cs)) :
    ∃ a cap, VR r (.slice a l.length cap) v ∧ Sl H a l.length cap (l.flatMap f) ∧ ∀ b, a = some ⟨b, 0, none⟩ → H.t.get b = some (.ro (l.flatMap f)) := by
  rcases g.v with ⟨rfl, rfl⟩ | ⟨cap, rfl, hl⟩
  · exact ⟨none, 0, .nilSlice, .inl ⟨.inl rfl, rfl, rfl, rfl⟩, fun b e => by cases e⟩
  · refine ⟨some ⟨b, 0, none⟩, cap, ?_, .inr ⟨b, rfl, ⟨hb, by rw [hc, g.cs]⟩, hl⟩, fun b' e => by cases e; rw [hro, g.cs]⟩
    have := VR.slice (o := 0) (n := l.length) (c := cap) hr rfl hl
    simpa using this
end Go.Ax

/-! Slices of rows of plain cells, as arguments. -/
namespace Go.Ax
open Go Go.RowKit Go.Proofs Go.ChangeShapes Go.WideShapes Go.Deep

theorem IntT.row {α : Type} {P : Program} {t : TypeId} {k : Nat} {f : α → List Value} {mk : (Nat → Int) → α} (h : IntT P t) (hc : P.cellsOf t = k) (hmk : ∀ N : Nat → Int, f (mk N) = (List.range k).map fun j => Value.int .i64 (N j))
    {H : Type} {enc : TypeId × Value → H} {w : World} {base : Nat} {spare : Nat → Bool} {held : Bool} (fuel : Nat) (cs : List Value) (x : DataW H × List MemPlace) (hx : DataW.trod enc P w base spare held fuel t cs = some x) : ∃ y : α, cs = f y ∧ True := by
  obtain ⟨h1, h2⟩ := h _ _ _ _ _ _ _ _ _ hx
  have : ∃ N : Nat → Int, ∀ j, j < cs.length → cs[j]? = some (.int .i64 (N j)) := by
    refine ⟨fun j => match cs[j]? with | some (.int _ n) => n | _ => 0, fun j hj => ?_⟩
    obtain ⟨n, hn⟩ := h2 j hj
    simp [hn]
  obtain ⟨N, hN⟩ := this
  refine ⟨mk N, ?_, trivial⟩
  rw [hmk]
  apply List.ext_getElem?
  intro j
  by_cases hj : j < k
  · rw [hN j (by omega), List.getElem?_map, List.getElem?_range hj]; rfl
  · rw [List.getElem?_eq_none (by omega), List.getElem?_eq_none (by simp; omega)]
end Go.Ax

/-! Arguments that point to what points: inner slices, rows of slices. -/
namespace Go.Ax
open Go Go.RowKit Go.Proofs Go.ChangeShapes Go.WideShapes Go.Deep

def renOf (imps : List Imp) : Ren := fun b => (imps[b]?).map fun x => ⟨x.blk, x.off, none⟩
theorem imports3 {P : Program} (imps outs : List Imp) (w : World) (h : ∀ x ∈ imps, ∀ (i : Nat) v, x.cs[i]? = some v → w.cell? ⟨x.blk, x.off + i, none⟩ = some v ∧ flat1 v = true)
    (hcs : ∀ x ∈ outs, ∀ (i : Nat) v, x.cs[i]? = some v → ∃ v', w.cell? ⟨x.blk, x.off + i, none⟩ = some v' ∧ VR (renOf imps) v v') :
    ∃ (r : Ren) (H : Hp), Rel P r w.heap.size H w ∧ H.next = (imps ++ outs).length ∧ (∀ b loc, r b = some loc → b < H.next) ∧ Ren.Le (renOf imps) r ∧ ∀ (b : Nat) x, (imps ++ outs)[b]? = some x → r b = some ⟨x.blk, x.off, none⟩ ∧ H.t.get b = some (.ro x.cs) := by
  have hall : ∀ x ∈ imps ++ outs, ∀ (i : Nat) v, x.cs[i]? = some v → ∃ v', w.cell? ⟨x.blk, x.off + i, none⟩ = some v' ∧ VR (renOf imps) v v' := by
    intro x hx i v hv
    rcases List.mem_append.1 hx with hx | hx
    · obtain ⟨h1, h2⟩ := h x hx i v hv
      exact ⟨v, h1, flat1_vr h2⟩
    · exact hcs x hx i v hv
  obtain ⟨t, ht⟩ := tr_of (fun b => ((imps ++ outs)[b]?).map fun x => .ro x.cs) (imps ++ outs).length
  have hle : Ren.Le (renOf imps) (fun b => ((imps ++ outs)[b]?).map fun x => ⟨x.blk, x.off, none⟩) := fun b loc e => by
    unfold renOf at e
    have hlt : b < imps.length := by
      rcases Nat.lt_or_ge b imps.length with q | q
      · exact q
      · rw [List.getElem?_eq_none q] at e; cases e
    show ((imps ++ outs)[b]?).map _ = _
    rw [List.getElem?_append_left hlt]; exact e
  have hr : ∀ (b : Nat) loc, ((imps ++ outs)[b]?).map (fun x => (⟨x.blk, x.off, none⟩ : Loc)) = some loc → ∃ x, (imps ++ outs)[b]? = some x ∧ b < (imps ++ outs).length ∧ loc = ⟨x.blk, x.off, none⟩ ∧ t.get b = some (.ro x.cs) := by
    intro b loc e
    cases hx : (imps ++ outs)[b]? with
    | none => rw [hx] at e; cases e
    | some x =>
      rw [hx] at e
      simp at e
      have hlt := get_lt hx
      exact ⟨x, rfl, hlt, e.symm, by rw [ht, if_pos hlt, hx]; rfl⟩
  have low : ∀ {g o : Nat} {v : Value}, w.cell? ⟨g, o, none⟩ = some v → g < w.heap.size := fun {g o v} hv => by
    unfold World.cell? at hv
    rcases Nat.lt_or_ge g w.heap.size with q | q
    · exact q
    · rw [Array.getElem?_eq_none q] at hv; cases hv
  refine ⟨fun b => ((imps ++ outs)[b]?).map fun x => ⟨x.blk, x.off, none⟩, { next := (imps ++ outs).length, t }, ⟨?_, ?_, ?_, Nat.le_refl _⟩, rfl, ?_, hle, ?_⟩
  · intro b loc e
    obtain ⟨x, hx, hlt, rfl, hg⟩ := hr b loc e
    refine ⟨hlt, ?_⟩
    show Dm _ _ _ (t.get b)
    rw [hg]
    cases hc : x.cs with
    | nil => exact .inl rfl
    | cons v l =>
      obtain ⟨v', h1, _⟩ := hall x (List.mem_of_getElem? hx) 0 v (by rw [hc]; rfl)
      exact .inr (low h1)
  · intro b loc o e eo
    obtain ⟨x, hx, hlt, rfl, hg⟩ := hr b loc e
    rw [hg] at eo; cases eo
    refine ⟨rfl, fun i v ev => ?_⟩
    obtain ⟨v', h1, h2⟩ := hall x (List.mem_of_getElem? hx) i v ev
    unfold World.cell? at h1
    simp only at h1
    split at h1
    · rename_i C e' f hC
      exact ⟨C, e', f, v', hC, by simpa using h1, h2.mono hle⟩
    · cases h1
  · intro b b' loc loc' e e' _ hl _
    obtain ⟨x, hx, hlt, rfl, hg⟩ := hr b loc e
    obtain ⟨o, h1, h2, h3⟩ := hl
    have : t.get b = some o := h1
    rw [hg] at this; cases this
    cases h3
  · intro b loc e
    obtain ⟨x, hx, hlt, rfl, hg⟩ := hr b loc e
    exact hlt
  · intro b x hx
    have hlt := get_lt hx
    refine ⟨by simp only [hx, Option.map_some], ?_⟩
    show t.get b = _
    rw [ht, if_pos hlt, hx]; rfl

/-- An inner slice, as it is given: an empty one may have any address. -/
structure GivI {α : Type} (w : World) (v : Value) (f : α → List Value) (l : List α) (x : Imp) : Prop where
  ok : ∀ (i : Nat) u, x.cs[i]? = some u → w.cell? ⟨x.blk, x.off + i, none⟩ = some u ∧ flat1 u = true
  cs : x.cs = l.flatMap f
  v : ((v = .slice none 0 0 ∨ ∃ a', v = .slice (some a') 0 0) ∧ l = []) ∨ ∃ cap, v = .slice (some ⟨x.blk, x.off, none⟩) l.length cap ∧ l.length ≤ cap
theorem GivI.rel {α : Type} {w : World} {v : Value} {f : α → List Value} {l : List α} {x : Imp} (g : GivI w v f l x) {r : Ren} {b : Nat} (hr : r b = some ⟨x.blk, x.off, none⟩) :
    ∃ a cap, VR r (.slice a l.length cap) v ∧ (∀ y, a = some ⟨y, 0, none⟩ → y = b) ∧ ∀ H : Hp, b < H.next → H.t.get b = some (.ro x.cs) → Sl H a l.length cap (l.flatMap f) := by
  rcases g.v with ⟨rfl | ⟨a', rfl⟩, rfl⟩ | ⟨cap, rfl, hl⟩
  · exact ⟨none, 0, .nilSlice, fun y e => by (cases e), fun H _ _ => .inl ⟨.inl rfl, rfl, rfl, rfl⟩⟩
  · exact ⟨some ⟨0, 0, some 0⟩, 0, .weird, fun y e => by (cases e), fun H _ _ => .inl ⟨.inr rfl, rfl, rfl, rfl⟩⟩
  · refine ⟨some ⟨b, 0, none⟩, cap, ?_, fun y e => by (cases e; rfl), fun H hb hc => .inr ⟨b, rfl, ⟨hb, by unfold cellsOf; rw [hc, g.cs]⟩, hl⟩⟩
    have := VR.slice (o := 0) (n := l.length) (c := cap) hr rfl hl
    simpa using this
structure RV where
  rv : Value
  l : List Int
  x : Imp
def RV.f (r : RV) : List Value := [r.rv]
def RV.Q (w : World) (r : RV) : Prop := GivI w r.rv (fun n : Int => [iv n]) r.l r.x
end Go.Ax

/-! Machines and what is flat as arguments. -/
namespace Go.Ax
open Go Go.RowKit Go.Proofs Go.ChangeShapes Go.WideShapes Go.Deep

/-- A machine, as it is given. -/
structure MV where
  rv : Value
  l : List Ou
  x : Imp
def MV.f (r : MV) : List Value := [r.rv]
def MV.Q (w : World) (r : MV) : Prop := GivI w r.rv Ou.f r.l r.x
theorem imports_flat {P : Program} (pre : List Imp) {w : World} (h : ∀ x ∈ pre, ∀ (i : Nat) v, x.cs[i]? = some v → w.cell? ⟨x.blk, x.off + i, none⟩ = some v ∧ flat1 v = true) :
    ∃ (r : Ren) (H : Hp), Rel P r w.heap.size H w ∧ (∀ b loc, r b = some loc → b < H.next) ∧ (∀ (b : Nat) x, pre[b]? = some x → b < H.next ∧ r b = some ⟨x.blk, x.off, none⟩ ∧ H.t.get b = some (.ro x.cs)) := by
  obtain ⟨r, H, h1, h2, h3, h4, h5⟩ := imports3 (P := P) pre [] w h (fun x hx => by simp at hx)
  refine ⟨r, H, h1, h3, fun b x hx => ?_⟩
  have := get_lt hx
  obtain ⟨a, c⟩ := h5 b x (by simpa using hx)
  exact ⟨by rw [h2]; simpa using this, a, c⟩
end Go.Ax


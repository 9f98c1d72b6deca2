import Derived.Test.YtbgdbnnbfankeaaMb
import Derived.Test.YtbgdbnnbfankeaaChecked
import Derived.Test.YtbgdbnnbfankeaaAxO
import Derived.Deep.Slices
import Derived.Deep.Fields
import Derived.ChangeSame
set_option linter.all false
/-
  Plant: Rate, Late, Freezes, the law PlantFaster (written by program).
-/
namespace Go.Ax
open Go Go.RowKit Go.Proofs

theorem conv_77 (x : Int) (h1 : 0 ≤ x) (h2 : x ≤ 4294967295) {S : Rg} {n : Nat} {o : Operand} {d : Option Nat} (hx : evS S o = some (.int .u32 x)) : pureOp Try.prog (frS n S) ⟨d, .convert 77 3 o, 3, "", #[], none⟩ = some (iv x) := by
  have e : ∀ y : Int, prun Try.prog (Go.convert 77 3 (.int .u32 y)) = some (.int .i64 (IntKind.i64.wrap y)) := fun y => by kernel_rfl
  unfold pureOp
  simp only [ev_frS, hx, flat, flat1, cond_true, e, wrap_i64 (x := x) ⟨(by omega), (by omega)⟩]
theorem lrJ_yes {us : List Fz} {i j : Nat} {r : Int} (h : rdF us i < duF us j) : lrJ us i r (j + 1) = max (lrJ us i r j) (brt us i j) := by
  show (if _ then _ else _) = _; rw [if_pos h]
theorem lrJ_no {us : List Fz} {i j : Nat} {r : Int} (h : ¬ rdF us i < duF us j) : lrJ us i r (j + 1) = lrJ us i r j := by
  show (if _ then _ else _) = _; rw [if_neg h]
/-- the error of Rate -/
def ratE (us : List Fz) : Int := if chkF us = 0 then (if noT us us.length then 4 else 0) else chkF us
theorem ratE_0 {us : List Fz} (h : ratE us = 0) : us.length ≤ 16 ∧ us.all Fz.ok = true ∧ noT us us.length = false := by
  unfold ratE at h
  split at h
  · rename_i q
    refine ⟨(chkF_0 q).1, (chkF_0 q).2, ?_⟩
    cases e : noT us us.length with
    | false => rfl
    | true => rw [e] at h; cases h
  · rename_i q; exact absurd h q
theorem ratE_n {us : List Fz} (h : ratE us ≠ 0) : ratE us = 1 ∨ ratE us = 3 ∨ (ratE us = 4 ∧ us.all Fz.ok = true) := by
  unfold ratE at *
  split
  · rename_i q
    rw [if_pos q] at h
    cases e : noT us us.length with
    | false => rw [e] at h; exact absurd rfl h
    | true => exact .inr (.inr ⟨rfl, (chkF_0 q).2⟩)
  · rename_i q
    rcases chkF_n (us := us) with a | a | a
    · exact absurd a q
    · exact .inl a
    · exact .inr (.inl a)
def ratV (us : List Fz) : Int := if ratE us = 0 then lrI us us.length else 0
theorem frzE_of {us : List Fz} {R : Int} (hn : us.length ≤ 16) (h : us.all Fz.ok = true) (hR : 1 ≤ R ∧ R ≤ 17592186044416) : frzE us R = 0 := by
  have hc : chkF us = 0 := by unfold chkF; rw [if_neg (by omega), h]; rfl
  unfold frzE; rw [if_pos hc, if_pos hR]
theorem noT_succ (us : List Fz) (k : Nat) : noT us (k + 1) = (noT us k || decide (0 < msF us k ∧ rdF us k = duF us k)) := any_succ _ k
theorem noT_hit {us : List Fz} {i n : Nat} (hi : i < n) (h : 0 < msF us i ∧ rdF us i = duF us i) : noT us n = true := List.any_eq_true.2 ⟨i, List.mem_range.2 hi, decide_eq_true h⟩
/-- is one of them above? -/
def lateG (us : List Fz) (f : Nat → Int) (k : Nat) : Bool := (List.range k).any fun x => decide (duF us x < f x)
theorem lateG_succ (us : List Fz) (f : Nat → Int) (k : Nat) : lateG us f (k + 1) = (lateG us f k || decide (duF us k < f k)) := any_succ _ k
theorem lateG_hit {us : List Fz} {f : Nat → Int} {i n : Nat} (hi : i < n) (h : duF us i < f i) : lateG us f n = true := List.any_eq_true.2 ⟨i, List.mem_range.2 hi, decide_eq_true h⟩
theorem lr_in {us : List Fz} (h : FzOk us) (hn : us.length ≤ 16) : ∀ k, lrI us k ≤ 17592186044416 := fun k => by
  refine Classical.byContradiction fun q => ?_
  rcases (lrI_lt (us := us) (R := 17592186044416) k).1 (by omega) with c | ⟨i, j, hi, hj, c, d⟩
  · omega
  · have := bt_in h hn i j us.length (Nat.le_refl _)
    have : 17592186044416 * 1 ≤ 17592186044416 * (duF us j - rdF us i) := Int.mul_le_mul_of_nonneg_left (by omega) (by decide)
    omega
section
variable {kn : FuncId → Option Bool} {lo : Nat} {H : Hp}
/-- the document's Freezes -/
theorem freezes_ok {sa : Option Addr} {n cap : Nat} {us : List Fz} (hs : Sl H sa n cap (fzc us)) (hl : us.length = n) (hn2 : n ≤ 1000000) (hlo : lo ≤ H.next) : ∃ H', FnX Try.prog kn lo 39 [.slice sa n cap] H (.bool (us.all Fz.ok)) H' ∧ Keep H H' [] := by
  have key := fnX_low (kn := kn) (lo := lo) (H := H) (args := [.slice sa n cap]) (Q := fun w H' => w = .bool (us.all Fz.ok) ∧ Keep H H' []) Try.func39 B39 N39 Z39 L39 (by simp) ?_
  · obtain ⟨w, H', h, rfl, q⟩ := key; exact ⟨H', h, q⟩
  have hk := Keep.refl H []
  have fs := hs.old
  refine wN_seq ?_
  refine wN_mov (v := .bool false) rfl ?_
  refine wN_end ?_
  refine wN_seq ?_
  refine wN_mov (v := iv 0) rfl ?_
  refine wN_end ?_
  refine loop_low (fn := Try.f39) E39_1 N39 L39x1 (fun i : Nat => [(0, .slice sa n cap), (3, iv (i : Int))])
    (fun k i H' => i + k = n ∧ Keep H H' [] ∧ Sl H' sa n cap (fzc us) ∧ (us.take i).all Fz.ok = true) n 0 ⟨by omega, hk, hs, rfl⟩ ⟨rfl, rfl, trivial⟩ ?_
  rintro k i L1 ⟨hik, hk, hs, hall⟩
  have mki := hk.1
  have fs := hs.old
  refine wN_seq ?_
  refine wN_mov (v := iv (i : Int)) rfl ?_
  refine wN_mov (v := .slice sa n cap) rfl ?_
  refine wN_len (m := n) rfl ?_
  refine wN_c_lss (a := (i : Int)) (b := (n : Int)) rfl rfl ?_
  refine wN_end ?_
  refine And.intro (fun q1 => ?_) (fun q1 => ?_)
  · have q1 : (i : Int) < (n : Int) := of_decide_eq_true q1
    have hi : i < n := by omega
    obtain ⟨x, hx⟩ := get_some (l := us) (i := i) (by omega)
    rcases id hs with ⟨_, h0, _⟩ | ⟨sb, es, rs, _⟩
    · omega
    have lsb := rs.lt
    first | refine wN_skip ?_ | skip
    refine wN_seq ?_
    refine wN_mov (v := .slice sa n cap) rfl ?_
    refine wN_mov (v := iv (i : Int)) rfl ?_
    refine wN_idx (b := sb) (o := 0) (k := i) (j := (i : Int)) (by rw [← es]; rfl) rfl rfl (by omega) ?_
    refine wN_lda (b := sb) (o := 0 + i * 3) rfl rs (fzc_row hx) ?_
    refine wN_alc ?_
    intro H1 kH1 nH1 c1
    have c1 : Cl H1 L1.next [iv 0, iv 0, iv 0] := c1
    have mH1 := kH1.1
    have hk := hk.trans kH1
    have hs := kH1.sl0 hs
    have rs := kH1.rd rs (by simp)
    refine wN_sta (b := L1.next) (o := 0) rfl rfl c1 (by omega) rfl rfl (by simp) ?_
    intro H2 kH2 nH2 sH2
    have mH2 := kH2.1
    have hk := hk.new kH2 (fun b hb => by simp at hb ⊢; omega)
    have hs := kH2.sl hs (fun b e => by have := fs b e; first | (simp; done) | (simp; omega))
    have rs := kH2.rd rs (by first | (simp; done) | (simp; omega))
    have c1 : Cl H2 L1.next [iv x.rd, iv x.du, iv x.ms] := sH2
    refine wN_end ?_
    refine wN_seq ?_
    refine wN_addo (b := L1.next) (o := 0) rfl ?_
    refine wN_ld (b := L1.next) (o := 0) (v := iv x.rd) rfl c1.rd rfl ?_
    refine wN_callB rfl (in50_ok) ?_
    intro tH3 H3 hH3 kH3
    have mH3 := kH3.1
    have hk := hk.trans kH3
    have hs := kH3.sl0 hs
    have rs := kH3.rd rs (by simp)
    have c1 := kH3.cl c1 (by simp)
    cases tH3
    · have fhH3 := inB_f hH3
      refine wN_pur (v := .bool true) rfl rfl ?_
      refine wN_mov (v := .bool true) rfl ?_
      refine wN_gs rfl ?_
      refine wN_gs rfl ?_
      refine wN_gs rfl ?_
      refine wN_gs rfl ?_
      refine wN_gs rfl ?_
      refine wN_gs rfl ?_
      refine wN_pur (v := .bool true) rfl rfl ?_
      refine wN_mov (v := .bool true) rfl ?_
      refine wN_gs rfl ?_
      refine wN_gs rfl ?_
      refine wN_gs rfl ?_
      refine wN_gs rfl ?_
      refine wN_pur (v := .bool true) rfl rfl ?_
      refine wN_end ?_
      refine condT ?_
      have hok : x.ok = false := Bool.eq_false_iff.2 (fun h => by have := Fz.ok_t h; omega)
      refine wN_seq ?_
      refine wN_mov (v := .bool false) rfl ?_
      refine wN_end ?_
      exact And.intro trivial (Exists.intro _ (And.intro rfl ⟨congrArg Value.bool (show false = us.all Fz.ok from (by symm; rw [all_fail hx hok])), hk⟩))
    · have fhH3 := inB_t hH3
      refine wN_pur (v := .bool false) rfl rfl ?_
      refine wN_mov (v := .bool false) rfl ?_
      refine wN_g rfl (wN_addo (b := L1.next) (o := 0) rfl ?_)
      refine wN_g rfl (wN_ld (b := L1.next) (o := 1) (v := iv x.du) rfl c1.rd rfl ?_)
      refine wN_g rfl (wN_addo (b := L1.next) (o := 0) rfl ?_)
      refine wN_g rfl (wN_ld (b := L1.next) (o := 0) (v := iv x.rd) rfl c1.rd rfl ?_)
      refine wN_g rfl (wN_callB rfl (in50_ok) ?_)
      intro tH4 H4 hH4 kH4
      have mH4 := kH4.1
      have hk := hk.trans kH4
      have hs := kH4.sl0 hs
      have rs := kH4.rd rs (by simp)
      have c1 := kH4.cl c1 (by simp)
      cases tH4
      · have fhH4 := inB_f hH4
        refine wN_g rfl (wN_pur (v := .bool true) rfl rfl ?_)
        refine wN_pur (v := .bool true) rfl rfl ?_
        refine wN_mov (v := .bool true) rfl ?_
        refine wN_gs rfl ?_
        refine wN_gs rfl ?_
        refine wN_gs rfl ?_
        refine wN_gs rfl ?_
        refine wN_pur (v := .bool true) rfl rfl ?_
        refine wN_end ?_
        refine condT ?_
        have hok : x.ok = false := Bool.eq_false_iff.2 (fun h => by have := Fz.ok_t h; omega)
        refine wN_seq ?_
        refine wN_mov (v := .bool false) rfl ?_
        refine wN_end ?_
        exact And.intro trivial (Exists.intro _ (And.intro rfl ⟨congrArg Value.bool (show false = us.all Fz.ok from (by symm; rw [all_fail hx hok])), hk⟩))
      · have fhH4 := inB_t hH4
        refine wN_g rfl (wN_pur (v := .bool false) rfl rfl ?_)
        refine wN_pur (v := .bool false) rfl rfl ?_
        refine wN_mov (v := .bool false) rfl ?_
        refine wN_g rfl (wN_addo (b := L1.next) (o := 0) rfl ?_)
        refine wN_g rfl (wN_ld (b := L1.next) (o := 2) (v := iv x.ms) rfl c1.rd rfl ?_)
        refine wN_g rfl (wN_callB rfl (in50_ok) ?_)
        intro tH5 H5 hH5 kH5
        have mH5 := kH5.1
        have hk := hk.trans kH5
        have hs := kH5.sl0 hs
        have rs := kH5.rd rs (by simp)
        have c1 := kH5.cl c1 (by simp)
        cases tH5
        · have fhH5 := inB_f hH5
          refine wN_g rfl (wN_pur (v := .bool true) rfl rfl ?_)
          refine wN_pur (v := .bool true) rfl rfl ?_
          refine wN_end ?_
          refine condT ?_
          have hok : x.ok = false := Bool.eq_false_iff.2 (fun h => by have := Fz.ok_t h; omega)
          refine wN_seq ?_
          refine wN_mov (v := .bool false) rfl ?_
          refine wN_end ?_
          exact And.intro trivial (Exists.intro _ (And.intro rfl ⟨congrArg Value.bool (show false = us.all Fz.ok from (by symm; rw [all_fail hx hok])), hk⟩))
        · have fhH5 := inB_t hH5
          refine wN_g rfl (wN_pur (v := .bool false) rfl rfl ?_)
          refine wN_pur (v := .bool false) rfl rfl ?_
          refine wN_end ?_
          refine condF ?_
          have hok : x.ok = true := by unfold Fz.ok; rw [isw_i (by omega), isw_i (by omega), isw_i (by omega)]; rfl
          first | refine wN_skip ?_ | skip
          first | refine wN_reg ?_ | refine wN_blk ?_ | refine wN_bseq ?_ | (refine wOps_nil ?_; refine wN_reg ?_)
          refine wN_mov (v := iv (i : Int)) rfl ?_
          refine wN_add (a := (i : Int)) (b := 1) rfl rfl ⟨by omega, by omega⟩ ?_
          refine wN_mov (v := iv ((i : Int) + 1)) rfl ?_
          refine wN_end ?_
          exact ⟨k - 1, i + 1, by omega, ⟨by omega, hk, hs, by rw [all_step hx, hall, Bool.true_and]; exact hok⟩, rfl, rfl, trivial⟩
  · have q1 : ¬ ((i : Int) < (n : Int)) := of_decide_eq_false q1
    refine wN_seq ?_
    refine wN_mov (v := .bool true) rfl ?_
    refine wN_end ?_
    exact And.intro trivial (Exists.intro _ (And.intro rfl ⟨congrArg Value.bool (show true = us.all Fz.ok from (by symm; rw [List.take_of_length_le (by omega)] at hall; exact hall)), hk⟩))
/-- the document's Late -/
theorem late_ok {a2 : Option Addr} {c2 : Nat} {g : Nat → Int} {sa : Option Addr} {n cap : Nat} {us : List Fz} (hs : Sl H sa n cap (fzc us)) (hl : us.length = n) (hn2 : n ≤ 1000000) (h2 : Sl H a2 n c2 (nf g n)) : ∃ H', FnX Try.prog kn lo 40 [.slice sa n cap, .slice a2 n c2] H (.bool (lateG us g n)) H' ∧ Keep H H' [] := by
  have key := fnX_low (kn := kn) (lo := lo) (H := H) (args := [.slice sa n cap, .slice a2 n c2]) (Q := fun w H' => w = .bool (lateG us g n) ∧ Keep H H' []) Try.func40 B40 N40 Z40 L40 (by simp) ?_
  · obtain ⟨w, H', h, rfl, q⟩ := key; exact ⟨H', h, q⟩
  have hk := Keep.refl H []
  refine wN_seq ?_
  refine wN_mov (v := .bool false) rfl ?_
  refine wN_end ?_
  refine wN_seq ?_
  refine wN_mov (v := iv 0) rfl ?_
  refine wN_end ?_
  refine loop_low (fn := Try.f40) E40_1 N40 L40x1 (fun i : Nat => [(0, .slice sa n cap), (1, .slice a2 n c2), (5, iv (i : Int))])
    (fun k i H' => i + k = n ∧ Keep H H' [] ∧ Sl H' sa n cap (fzc us) ∧ Sl H' a2 n c2 (nf g n) ∧ lateG us g i = false) n 0 ⟨by omega, hk, hs, h2, rfl⟩ ⟨rfl, rfl, rfl, trivial⟩ ?_
  rintro k i L1 ⟨hik, hk, hs, h2, hall⟩
  refine wN_seq ?_
  refine wN_mov (v := iv (i : Int)) rfl ?_
  refine wN_mov (v := .slice sa n cap) rfl ?_
  refine wN_len (m := n) rfl ?_
  refine wN_c_lss (a := (i : Int)) (b := (n : Int)) rfl rfl ?_
  refine wN_end ?_
  refine And.intro (fun q1 => ?_) (fun q1 => ?_)
  · have q1 : (i : Int) < (n : Int) := of_decide_eq_true q1
    have hi : i < n := by omega
    rcases id hs with ⟨_, h0, _⟩ | ⟨sb, es, rs, _⟩
    · omega
    have lsb := rs.lt
    rcases id h2 with ⟨_, h0, _⟩ | ⟨db, e2, r2, _⟩
    · omega
    first | refine wN_skip ?_ | skip
    refine wD_seq ?_
    refine wD_mov (v := .slice a2 n c2) rfl ?_
    refine wD_mov (v := iv (i : Int)) rfl ?_
    refine wD_idx (b := db) (o := 0) (k := i) (j := (i : Int)) (by rw [← e2]; rfl) rfl rfl hi ?_
    refine wD_ld (b := db) (o := 0 + i * 1) (v := iv (g i)) rfl r2 (nf_at (f := g) hi) ?_
    refine wD_mov (v := .slice sa n cap) rfl ?_
    refine wD_mov (v := iv (i : Int)) rfl ?_
    refine wD_idx (b := sb) (o := 0) (k := i) (j := (i : Int)) (by rw [← es]; rfl) rfl rfl (by omega) ?_
    refine wD_addo (b := sb) (o := 0 + i * 3) rfl ?_
    refine wD_ld (b := sb) (o := 0 + i * 3 + 1) (v := iv (duF us i)) rfl rs (by have q := fzc_atF (us := us) (i := i) (j := 1) (by omega) rfl; exact q) ?_
    refine wD_c_gtr (a := (g i)) (b := (duF us i)) rfl rfl ?_
    refine wD_end (by repeat' first | exact True.intro | exact (fun h => h) | refine And.intro ?_ ?_ | (intro h; have h : (_ : Nat) = _ := h; omega)) ?_
    refine And.intro (fun q2 => ?_) (fun q2 => ?_)
    · have q2 : (g i) > (duF us i) := of_decide_eq_true q2
      refine wN_seq ?_
      refine wN_mov (v := .bool true) rfl ?_
      refine wN_end ?_
      exact And.intro trivial (Exists.intro _ (And.intro rfl ⟨congrArg Value.bool (show true = lateG us g n from (by symm; exact lateG_hit hi (by omega))), hk⟩))
    · have q2 : ¬ ((g i) > (duF us i)) := of_decide_eq_false q2
      first | refine wN_skip ?_ | skip
      first | refine wN_reg ?_ | refine wN_blk ?_ | refine wN_bseq ?_ | (refine wOps_nil ?_; refine wN_reg ?_)
      refine wN_mov (v := iv (i : Int)) rfl ?_
      refine wN_add (a := (i : Int)) (b := 1) rfl rfl ⟨by omega, by omega⟩ ?_
      refine wN_mov (v := iv ((i : Int) + 1)) rfl ?_
      refine wN_end ?_
      exact ⟨k - 1, i + 1, by omega, ⟨by omega, hk, hs, h2, by rw [lateG_succ, hall, Bool.false_or]; exact decide_eq_false (by omega)⟩, rfl, rfl, rfl, trivial⟩
  · have q1 : ¬ ((i : Int) < (n : Int)) := of_decide_eq_false q1
    first | (refine wN_exit ?_; show wC _ _ _ _ _ _ _ _ _) | skip
    refine wN_seq ?_
    refine wN_mov (v := .bool false) rfl ?_
    refine wN_end ?_
    exact And.intro trivial (Exists.intro _ (And.intro rfl ⟨congrArg Value.bool (show false = lateG us g n from (by symm; have e : i = n := (by omega); rw [← e]; exact hall)), hk⟩))
theorem clos87_ok {us : List Fz} {i : Nat} (hlo : lo ≤ H.next) : ∃ H', FnX Try.prog kn lo 87 [.agg #[iv (rdF us i), iv (duF us i), iv (msF us i)]] H (.bool (decide (0 < msF us i ∧ rdF us i = duF us i))) H' ∧ Keep H H' [] := by
  have key := fnX_low (kn := kn) (lo := lo) (H := H) (args := [.agg #[iv (rdF us i), iv (duF us i), iv (msF us i)]]) (Q := fun w H' => w = .bool (decide (0 < msF us i ∧ rdF us i = duF us i)) ∧ Keep H H' []) Try.func87 B87 N87 Z87 L87 (by simp) ?_
  · obtain ⟨w, H', h, rfl, q⟩ := key; exact ⟨H', h, q⟩
  have hk := Keep.refl H []
  refine wN_seq ?_
  refine wN_box (v := .agg #[iv (rdF us i), iv (duF us i), iv (msF us i)]) rfl ?_
  intro H1 kH1 nH1 c1
  have c1 : Cl H1 H.next [iv (rdF us i), iv (duF us i), iv (msF us i)] := c1
  have mH1 := kH1.1
  have hk := hk.trans kH1
  refine wN_mov (v := .bool false) rfl ?_
  refine wN_end ?_
  refine wN_seq ?_
  refine wN_addo (b := H.next) (o := 0) rfl ?_
  refine wN_ld (b := H.next) (o := 2) (v := iv (msF us i)) rfl c1.rd rfl ?_
  refine wN_b_gtr (a := (msF us i)) (b := 0) rfl rfl ?_
  intro t1 g1; cases t1
  · have g1 : ¬ ((msF us i) > 0) := of_decide_eq_false g1
    refine wN_mov (v := .bool false) rfl ?_
    refine wN_gs rfl ?_
    refine wN_gs rfl ?_
    refine wN_gs rfl ?_
    refine wN_gs rfl ?_
    refine wN_gs rfl ?_
    refine wN_pur (v := .bool false) rfl rfl ?_
    refine wN_mov (v := .bool false) rfl ?_
    refine wN_end ?_
    exact And.intro trivial (Exists.intro _ (And.intro rfl ⟨congrArg Value.bool (show false = decide (0 < msF us i ∧ rdF us i = duF us i) from (by symm; first | (exact decide_eq_true (by omega)) | (exact decide_eq_false (by omega)))), hk⟩))
  · have g1 : (msF us i) > 0 := of_decide_eq_true g1
    refine wN_mov (v := .bool true) rfl ?_
    refine wN_g rfl (wN_addo (b := H.next) (o := 0) rfl ?_)
    refine wN_g rfl (wN_ld (b := H.next) (o := 0) (v := iv (rdF us i)) rfl c1.rd rfl ?_)
    refine wN_g rfl (wN_addo (b := H.next) (o := 0) rfl ?_)
    refine wN_g rfl (wN_ld (b := H.next) (o := 1) (v := iv (duF us i)) rfl c1.rd rfl ?_)
    refine wN_g rfl (wN_b_eql (a := (rdF us i)) (b := (duF us i)) rfl rfl ?_)
    intro t2 g2; cases t2
    · have g2 : ¬ ((rdF us i) = (duF us i)) := by simpa using g2
      refine wN_pur (v := .bool false) rfl rfl ?_
      refine wN_mov (v := .bool false) rfl ?_
      refine wN_end ?_
      exact And.intro trivial (Exists.intro _ (And.intro rfl ⟨congrArg Value.bool (show false = decide (0 < msF us i ∧ rdF us i = duF us i) from (by symm; first | (exact decide_eq_true (by omega)) | (exact decide_eq_false (by omega)))), hk⟩))
    · have g2 : (rdF us i) = (duF us i) := by simpa using g2
      refine wN_pur (v := .bool true) rfl rfl ?_
      refine wN_mov (v := .bool true) rfl ?_
      refine wN_end ?_
      exact And.intro trivial (Exists.intro _ (And.intro rfl ⟨congrArg Value.bool (show true = decide (0 < msF us i ∧ rdF us i = duF us i) from (by symm; first | (exact decide_eq_true (by omega)) | (exact decide_eq_false (by omega)))), hk⟩))
theorem index106_ok {sa : Option Addr} {n cap : Nat} {us : List Fz} (hs : Sl H sa n cap (fzc us)) (hl : us.length = n) (hn2 : n ≤ 1000000) (hlo : lo ≤ H.next) : ∃ j H', FnX Try.prog kn lo 106 [.slice sa n cap, .func (.func 87) #[] #[]] H (iv j) H' ∧ decide (j ≥ 0) = noT us n ∧ Keep H H' [] := by
  have key := fnX_low (kn := kn) (lo := lo) (H := H) (args := [.slice sa n cap, .func (.func 87) #[] #[]]) (Q := fun w H' => ∃ j, w = iv j ∧ decide (j ≥ 0) = noT us n ∧ Keep H H' []) Try.func106 B106 N106 Z106 L106 (by simp) ?_
  · obtain ⟨v, H', h, j, rfl, q⟩ := key; exact ⟨j, H', h, q⟩
  have hk := Keep.refl H []
  refine wN_seq ?_
  refine wN_mov (v := iv 0) rfl ?_
  refine wN_end ?_
  refine wN_seq ?_
  refine wN_mov (v := .slice sa n cap) rfl ?_
  refine wN_len (m := n) rfl ?_
  refine wN_mov (v := iv 0) rfl ?_
  refine wN_end ?_
  refine loop_low (fn := Try.f106) E106_1 N106 L106x1 (fun i : Nat => [(0, .slice sa n cap), (1, .func (.func 87) #[] #[]), (7, iv (n : Int)), (8, iv (i : Int))])
    (fun k i H' => i + k = n ∧ Keep H H' [] ∧ Sl H' sa n cap (fzc us) ∧ noT us i = false) n 0 ⟨by omega, hk, hs, rfl⟩ ⟨rfl, rfl, rfl, rfl, trivial⟩ ?_
  rintro k i L1 ⟨hik, hk, hs, hall⟩
  have mki := hk.1
  refine wN_seq ?_
  refine wN_c_lss (a := (i : Int)) (b := (n : Int)) rfl rfl ?_
  refine wN_end ?_
  refine And.intro (fun q1 => ?_) (fun q1 => ?_)
  · have q1 : (i : Int) < (n : Int) := of_decide_eq_true q1
    have hi : i < n := by omega
    rcases id hs with ⟨_, h0, _⟩ | ⟨sb, es, rs, _⟩
    · omega
    have lsb := rs.lt
    first | refine wN_skip ?_ | skip
    refine wN_seq ?_
    refine wN_mov (v := iv (i : Int)) rfl ?_
    refine wN_mov (v := iv (i : Int)) rfl ?_
    refine wN_end ?_
    refine wN_seq ?_
    refine wN_mov (v := .func (.func 87) #[] #[]) rfl ?_
    refine wN_mov (v := .slice sa n cap) rfl ?_
    refine wN_mov (v := iv (i : Int)) rfl ?_
    refine wN_idx (b := sb) (o := 0) (k := i) (j := (i : Int)) (by rw [← es]; rfl) rfl rfl (by omega) ?_
    refine wN_lda (b := sb) (o := 0 + i * 3) rfl rs (fzc_rowF (by omega)) ?_
    obtain ⟨H1, fH1, kH1⟩ := clos87_ok (kn := kn) (lo := lo) (H := L1) (us := us) (i := i) (by omega)
    have mH1 := kH1.1
    have hk := hk.trans kH1
    have hs := kH1.sl0 hs
    have rs := kH1.rd rs (by simp)
    cases hb : decide (0 < msF us i ∧ rdF us i = duF us i)
    · rw [hb] at fH1
      refine wN_callf (vs := [.agg #[iv (rdF us i), iv (duF us i), iv (msF us i)]]) rfl (callX_func rfl (by simpa using fH1)) ?_
      refine wN_end ?_
      refine condF ?_
      first | refine wN_skip ?_ | skip
      first | refine wN_reg ?_ | refine wN_blk ?_ | refine wN_bseq ?_ | (refine wOps_nil ?_; refine wN_reg ?_)
      refine wN_add (a := (i : Int)) (b := 1) rfl rfl ⟨by omega, by omega⟩ ?_
      refine wN_mov (v := iv ((i : Int) + 1)) rfl ?_
      refine wN_end ?_
      exact ⟨k - 1, i + 1, by omega, ⟨by omega, hk, hs, by rw [noT_succ, hall, Bool.false_or]; exact hb⟩, rfl, rfl, rfl, rfl, trivial⟩
    · rw [hb] at fH1
      refine wN_callf (vs := [.agg #[iv (rdF us i), iv (duF us i), iv (msF us i)]]) rfl (callX_func rfl (by simpa using fH1)) ?_
      refine wN_end ?_
      refine condT ?_
      refine wN_seq ?_
      refine wN_mov (v := iv (i : Int)) rfl ?_
      refine wN_mov (v := iv (i : Int)) rfl ?_
      refine wN_end ?_
      exact And.intro trivial (Exists.intro _ (And.intro rfl ⟨_, rfl, by rw [noT_hit hi (of_decide_eq_true hb)]; exact decide_eq_true (by omega), hk⟩))
  · have q1 : ¬ ((i : Int) < (n : Int)) := of_decide_eq_false q1
    refine wN_seq ?_
    refine wN_mov (v := iv (-1)) rfl ?_
    refine wN_end ?_
    exact And.intro trivial (Exists.intro _ (And.intro rfl ⟨-1, rfl, by have e : i = n := (by omega); rw [← e, hall]; rfl, hk⟩))
theorem contains86_ok {sa : Option Addr} {n cap : Nat} {us : List Fz} (hs : Sl H sa n cap (fzc us)) (hl : us.length = n) (hn2 : n ≤ 1000000) (hlo : lo ≤ H.next) : ∃ H', FnX Try.prog kn lo 86 [.slice sa n cap, .func (.func 87) #[] #[]] H (.bool (noT us n)) H' ∧ Keep H H' [] := by
  have key := fnX_low (kn := kn) (lo := lo) (H := H) (args := [.slice sa n cap, .func (.func 87) #[] #[]]) (Q := fun w H' => w = .bool (noT us n) ∧ Keep H H' []) Try.func86 B86 N86 Z86 L86 (by simp) ?_
  · obtain ⟨w, H', h, rfl, q⟩ := key; exact ⟨H', h, q⟩
  have hk := Keep.refl H []
  refine wN_seq ?_
  refine wN_mov (v := .bool false) rfl ?_
  refine wN_end ?_
  refine wN_seq ?_
  refine wN_mov (v := .slice sa n cap) rfl ?_
  refine wN_mov (v := .func (.func 87) #[] #[]) rfl ?_
  obtain ⟨j, H1, fH1, hj, kH1⟩ := index106_ok (kn := kn) (lo := lo) (H := H) hs hl hn2 (by omega)
  refine wN_callf (vs := [.slice sa n cap, .func (.func 87) #[] #[]]) rfl (callX_args fH1) ?_
  have mH1 := kH1.1
  have hk := hk.trans kH1
  have hs := kH1.sl0 hs
  refine wN_c_geq (a := j) (b := 0) rfl rfl ?_
  refine wN_mov (v := .bool (decide (j ≥ 0))) rfl ?_
  refine wN_end ?_
  exact And.intro trivial (Exists.intro _ (And.intro rfl ⟨congrArg Value.bool hj, hk⟩))
/-- hasNoTime -/
theorem notime_ok {sa : Option Addr} {n cap : Nat} {us : List Fz} (hs : Sl H sa n cap (fzc us)) (hl : us.length = n) (hn2 : n ≤ 1000000) (hlo : lo ≤ H.next) : ∃ H', FnX Try.prog kn lo 60 [.slice sa n cap] H (.bool (noT us n)) H' ∧ Keep H H' [] := by
  have key := fnX_low (kn := kn) (lo := lo) (H := H) (args := [.slice sa n cap]) (Q := fun w H' => w = .bool (noT us n) ∧ Keep H H' []) Try.func60 B60 N60 Z60 L60 (by simp) ?_
  · obtain ⟨w, H', h, rfl, q⟩ := key; exact ⟨H', h, q⟩
  have hk := Keep.refl H []
  refine wN_seq ?_
  refine wN_mov (v := .bool false) rfl ?_
  refine wN_end ?_
  refine wN_seq ?_
  refine wN_mov (v := .slice sa n cap) rfl ?_
  obtain ⟨H1, fH1, kH1⟩ := contains86_ok (kn := kn) (lo := lo) (H := H) hs hl hn2 (by omega)
  refine wN_callf (vs := [.slice sa n cap, .func (.func 87) #[] #[]]) rfl (callX_args fH1) ?_
  have mH1 := kH1.1
  have hk := hk.trans kH1
  have hs := kH1.sl0 hs
  refine wN_mov (v := .bool (noT us n)) rfl ?_
  refine wN_end ?_
  exact And.intro trivial (Exists.intro _ (And.intro rfl ⟨rfl, hk⟩))
theorem divup_ok {a b : Int} (ha : 0 ≤ a ∧ a ≤ 17592186044416) (hb : 1 ≤ b ∧ b ≤ 500) : ∃ H', FnX Try.prog kn lo 88 [iv a, iv b] H (iv ((a + b - 1) / b)) H' ∧ Keep H H' [] := by
  have key := fnX_low (kn := kn) (lo := lo) (H := H) (args := [iv a, iv b]) (Q := fun w H' => w = iv ((a + b - 1) / b) ∧ Keep H H' []) Try.func88 B88 N88 Z88 L88 (by simp) ?_
  · obtain ⟨w, H', h, rfl, q⟩ := key; exact ⟨H', h, q⟩
  have hk := Keep.refl H []
  refine wN_seq ?_
  refine wN_mov (v := iv 0) rfl ?_
  refine wN_end ?_
  refine wN_seq ?_
  refine wN_mov (v := iv a) rfl ?_
  refine wN_mov (v := iv b) rfl ?_
  refine wN_add (a := a) (b := b) rfl rfl ⟨by omega, by omega⟩ ?_
  refine wN_sub (a := a + b) (b := 1) rfl rfl ⟨by omega, by omega⟩ ?_
  refine wN_mov (v := iv b) rfl ?_
  refine wN_quo (a := (a + b) - 1) (b := b) rfl rfl (by omega) (by omega) ⟨by omega, by omega⟩ ?_
  refine wN_mov (v := iv (((a + b) - 1) / b)) rfl ?_
  refine wN_end ?_
  exact And.intro trivial (Exists.intro _ (And.intro rfl ⟨rfl, hk⟩))
/-- between -/
theorem between_ok {i j : Nat} {sa : Option Addr} {n cap : Nat} {us : List Fz} (hs : Sl H sa n cap (fzc us)) (hl : us.length = n) (hn2 : n ≤ 1000000) (hn : n ≤ 16) (hF : FzOk us) (hlo : lo ≤ H.next) : ∃ H', FnX Try.prog kn lo 89 [.slice sa n cap, iv (rdF us i), iv (duF us j)] H (iv (BT us i j n)) H' ∧ Keep H H' [] := by
  have key := fnX_low (kn := kn) (lo := lo) (H := H) (args := [.slice sa n cap, iv (rdF us i), iv (duF us j)]) (Q := fun w H' => w = iv (BT us i j n) ∧ Keep H H' []) Try.func89 B89 N89 Z89 L89 (by simp) ?_
  · obtain ⟨w, H', h, rfl, q⟩ := key; exact ⟨H', h, q⟩
  have hk := Keep.refl H []
  have fs := hs.old
  refine wN_seq ?_
  refine wN_mov (v := iv 0) rfl ?_
  refine wN_end ?_
  refine wN_seq ?_
  refine wN_mov (v := iv 0) rfl ?_
  refine wN_end ?_
  refine wN_seq ?_
  refine wN_mov (v := .slice sa n cap) rfl ?_
  refine wN_len (m := n) rfl ?_
  refine wN_mov (v := iv 0) rfl ?_
  refine wN_end ?_
  refine loop_low (fn := Try.f89) E89_1 N89 L89x1 (fun q : Nat => [(1, iv (rdF us i)), (2, iv (duF us j)), (7, iv (BT us i j q)), (10, .slice sa n cap), (11, iv (n : Int)), (12, iv (q : Int))])
    (fun g q H' => q + g = n ∧ Keep H H' [] ∧ Sl H' sa n cap (fzc us)) n 0 ⟨by omega, hk, hs⟩ ⟨rfl, rfl, rfl, rfl, rfl, rfl, trivial⟩ ?_
  rintro g q L1 ⟨hqg, hk, hs⟩
  have mki := hk.1
  have fs := hs.old
  obtain ⟨bt0, bt1⟩ := bt_in hF (by omega) i j q (by omega)
  refine wN_seq ?_
  refine wN_c_lss (a := (q : Int)) (b := (n : Int)) rfl rfl ?_
  refine wN_end ?_
  refine And.intro (fun q1 => ?_) (fun q1 => ?_)
  · have q1 : (q : Int) < (n : Int) := of_decide_eq_true q1
    have hq : q < n := by omega
    have hMq := hF.m q (by omega)
    rcases id hs with ⟨_, h0, _⟩ | ⟨sb, es, rs, _⟩
    · omega
    have lsb := rs.lt
    first | refine wN_skip ?_ | skip
    refine wN_seq ?_
    refine wN_idx (b := sb) (o := 0) (k := q) (j := (q : Int)) (by rw [← es]; rfl) rfl rfl (by omega) ?_
    refine wN_lda (b := sb) (o := 0 + q * 3) rfl rs (fzc_rowF (by omega)) ?_
    refine wN_alc ?_
    intro H1 kH1 nH1 c1
    have c1 : Cl H1 L1.next [iv 0, iv 0, iv 0] := c1
    have mH1 := kH1.1
    have hk := hk.trans kH1
    have hs := kH1.sl0 hs
    have rs := kH1.rd rs (by simp)
    refine wN_sta (b := L1.next) (o := 0) rfl rfl c1 (by omega) rfl rfl (by simp) ?_
    intro H2 kH2 nH2 sH2
    have mH2 := kH2.1
    have hk := hk.new kH2 (fun b hb => by simp at hb ⊢; omega)
    have hs := kH2.sl hs (fun b e => by have := fs b e; first | (simp; done) | (simp; omega))
    have rs := kH2.rd rs (by first | (simp; done) | (simp; omega))
    have c1 : Cl H2 L1.next [iv (rdF us q), iv (duF us q), iv (msF us q)] := sH2
    refine wN_end ?_
    refine wN_seq ?_
    refine wN_addo (b := L1.next) (o := 0) rfl ?_
    refine wN_ld (b := L1.next) (o := 0) (v := iv (rdF us q)) rfl c1.rd rfl ?_
    refine wN_mov (v := iv (rdF us i)) rfl ?_
    refine wN_b_geq (a := (rdF us q)) (b := (rdF us i)) rfl rfl ?_
    intro t2 g2; cases t2
    · have g2 : ¬ ((rdF us q) ≥ (rdF us i)) := of_decide_eq_false g2
      refine wN_mov (v := .bool false) rfl ?_
      refine wN_gs rfl ?_
      refine wN_gs rfl ?_
      refine wN_gs rfl ?_
      refine wN_gs rfl ?_
      refine wN_pur (v := .bool false) rfl rfl ?_
      refine wN_end ?_
      refine condF ?_
      first | refine wN_skip ?_ | skip
      first | refine wN_reg ?_ | refine wN_blk ?_ | refine wN_bseq ?_ | (refine wOps_nil ?_; refine wN_reg ?_)
      refine wN_add (a := (q : Int)) (b := 1) rfl rfl ⟨by omega, by omega⟩ ?_
      refine wN_mov (v := iv ((q : Int) + 1)) rfl ?_
      refine wN_end ?_
      exact ⟨g - 1, q + 1, by omega, ⟨by omega, hk, hs⟩, rfl, rfl, by rw [BT_no (by omega)]; rfl, rfl, rfl, rfl, trivial⟩
    · have g2 : (rdF us q) ≥ (rdF us i) := of_decide_eq_true g2
      refine wN_mov (v := .bool true) rfl ?_
      refine wN_g rfl (wN_addo (b := L1.next) (o := 0) rfl ?_)
      refine wN_g rfl (wN_ld (b := L1.next) (o := 1) (v := iv (duF us q)) rfl c1.rd rfl ?_)
      refine wN_g rfl (wN_mov (v := iv (duF us j)) rfl ?_)
      refine wN_g rfl (wN_b_leq (a := (duF us q)) (b := (duF us j)) rfl rfl ?_)
      intro t3 g3; cases t3
      · have g3 : ¬ ((duF us q) ≤ (duF us j)) := of_decide_eq_false g3
        refine wN_pur (v := .bool false) rfl rfl ?_
        refine wN_end ?_
        refine condF ?_
        first | refine wN_skip ?_ | skip
        first | refine wN_reg ?_ | refine wN_blk ?_ | refine wN_bseq ?_ | (refine wOps_nil ?_; refine wN_reg ?_)
        refine wN_add (a := (q : Int)) (b := 1) rfl rfl ⟨by omega, by omega⟩ ?_
        refine wN_mov (v := iv ((q : Int) + 1)) rfl ?_
        refine wN_end ?_
        exact ⟨g - 1, q + 1, by omega, ⟨by omega, hk, hs⟩, rfl, rfl, by rw [BT_no (by omega)]; rfl, rfl, rfl, rfl, trivial⟩
      · have g3 : (duF us q) ≤ (duF us j) := of_decide_eq_true g3
        refine wN_pur (v := .bool true) rfl rfl ?_
        refine wN_end ?_
        refine condT ?_
        first | refine wN_reg ?_ | refine wN_blk ?_ | refine wN_bseq ?_ | (refine wOps_nil ?_; refine wN_reg ?_)
        refine wN_mov (v := iv (BT us i j q)) rfl ?_
        refine wN_addo (b := L1.next) (o := 0) rfl ?_
        refine wN_ld (b := L1.next) (o := 2) (v := iv (msF us q)) rfl c1.rd rfl ?_
        refine wN_add (a := (BT us i j q)) (b := (msF us q)) rfl rfl ⟨by omega, by omega⟩ ?_
        refine wN_mov (v := iv ((BT us i j q) + (msF us q))) rfl ?_
        refine wN_end ?_
        first | refine wN_reg ?_ | refine wN_blk ?_ | refine wN_bseq ?_ | (refine wOps_nil ?_; refine wN_reg ?_)
        refine wN_add (a := (q : Int)) (b := 1) rfl rfl ⟨by omega, by omega⟩ ?_
        refine wN_mov (v := iv ((q : Int) + 1)) rfl ?_
        refine wN_end ?_
        exact ⟨g - 1, q + 1, by omega, ⟨by omega, hk, hs⟩, rfl, rfl, by rw [BT_yes (by omega)]; rfl, rfl, rfl, rfl, trivial⟩
  · have q1 : ¬ ((q : Int) < (n : Int)) := of_decide_eq_false q1
    refine wN_seq ?_
    refine wN_mov (v := iv (BT us i j q)) rfl ?_
    refine wN_mov (v := iv (BT us i j q)) rfl ?_
    refine wN_end ?_
    have e : q = n := by omega
    exact And.intro trivial (Exists.intro _ (And.intro rfl ⟨by rw [e]; rfl, hk⟩))
/-- leastRate -/
theorem least_ok {sa : Option Addr} {n cap : Nat} {us : List Fz} (hs : Sl H sa n cap (fzc us)) (hl : us.length = n) (hn2 : n ≤ 1000000) (hn : n ≤ 16) (hF : FzOk us) (hlo : lo ≤ H.next) : ∃ H', FnX Try.prog kn lo 61 [.slice sa n cap] H (iv (lrI us n)) H' ∧ Keep H H' [] := by
  have key := fnX_low (kn := kn) (lo := lo) (H := H) (args := [.slice sa n cap]) (Q := fun w H' => w = iv (lrI us n) ∧ Keep H H' []) Try.func61 B61 N61 Z61 L61 (by simp) ?_
  · obtain ⟨w, H', h, rfl, q⟩ := key; exact ⟨H', h, q⟩
  have hk := Keep.refl H []
  have fs := hs.old
  refine wN_seq ?_
  refine wN_mov (v := iv 0) rfl ?_
  refine wN_end ?_
  refine wN_seq ?_
  refine wN_mov (v := iv 1) rfl ?_
  refine wN_end ?_
  refine wN_seq ?_
  refine wN_mov (v := .slice sa n cap) rfl ?_
  refine wN_len (m := n) rfl ?_
  refine wN_mov (v := iv 0) rfl ?_
  refine wN_end ?_
  refine loop_low (fn := Try.f61) E61_1 N61 L61x1 (fun i : Nat => [(0, .slice sa n cap), (3, iv (lrI us i)), (10, .slice sa n cap), (11, iv (n : Int)), (12, iv (i : Int))])
    (fun d i H' => i + d = n ∧ Keep H H' [] ∧ Sl H' sa n cap (fzc us)) n 0 ⟨by omega, hk, hs⟩ ⟨rfl, rfl, rfl, rfl, rfl, trivial⟩ ?_
  rintro d i L1 ⟨hid, hk, hs⟩
  have mki := hk.1
  have fs := hs.old
  refine wN_seq ?_
  refine wN_c_lss (a := (i : Int)) (b := (n : Int)) rfl rfl ?_
  refine wN_end ?_
  refine And.intro (fun q1 => ?_) (fun q1 => ?_)
  · have q1 : (i : Int) < (n : Int) := of_decide_eq_true q1
    have hi : i < n := by omega
    rcases id hs with ⟨_, h0, _⟩ | ⟨sb, es, rs, _⟩
    · omega
    have lsb := rs.lt
    first | refine wN_skip ?_ | skip
    refine wN_seq ?_
    refine wN_idx (b := sb) (o := 0) (k := i) (j := (i : Int)) (by rw [← es]; rfl) rfl rfl (by omega) ?_
    refine wN_lda (b := sb) (o := 0 + i * 3) rfl rs (fzc_rowF (by omega)) ?_
    refine wN_alc ?_
    intro H1 kH1 nH1 c1
    have c1 : Cl H1 L1.next [iv 0, iv 0, iv 0] := c1
    have mH1 := kH1.1
    have hk := hk.trans kH1
    have hs := kH1.sl0 hs
    have rs := kH1.rd rs (by simp)
    refine wN_sta (b := L1.next) (o := 0) rfl rfl c1 (by omega) rfl rfl (by simp) ?_
    intro H2 kH2 nH2 sH2
    have mH2 := kH2.1
    have hk := hk.new kH2 (fun b hb => by simp at hb ⊢; omega)
    have hs := kH2.sl hs (fun b e => by have := fs b e; first | (simp; done) | (simp; omega))
    have rs := kH2.rd rs (by first | (simp; done) | (simp; omega))
    have c1 : Cl H2 L1.next [iv (rdF us i), iv (duF us i), iv (msF us i)] := sH2
    refine wN_end ?_
    refine wN_seq ?_
    refine wN_mov (v := .slice sa n cap) rfl ?_
    refine wN_len (m := n) rfl ?_
    refine wN_mov (v := iv 0) rfl ?_
    refine wN_end ?_
    refine loop_low (fn := Try.f61) E61_2 N61 L61x2 (fun j : Nat => [(0, .slice sa n cap), (3, iv (lrJ us i (lrI us i) j)), (5, pt L1.next), (10, .slice sa n cap), (11, iv (n : Int)), (12, iv (i : Int)), (16, .slice sa n cap), (17, iv (n : Int)), (18, iv (j : Int))])
      (fun e j H' => j + e = n ∧ Keep H H' [] ∧ H2.next ≤ H'.next ∧ Sl H' sa n cap (fzc us) ∧ Rd H' sb (fzc us) ∧ Cl H' L1.next [iv (rdF us i), iv (duF us i), iv (msF us i)]) n 0 ⟨by omega, hk, Nat.le_refl _, hs, rs, c1⟩ ⟨rfl, rfl, rfl, rfl, rfl, rfl, rfl, rfl, rfl, trivial⟩ ?_
    rintro e j L2 ⟨hje, hk, hnx, hs, rs, c5⟩
    have mkj := hk.1
    have fs := hs.old
    refine wN_seq ?_
    refine wN_c_lss (a := (j : Int)) (b := (n : Int)) rfl rfl ?_
    refine wN_end ?_
    refine And.intro (fun q2 => ?_) (fun q2 => ?_)
    · have q2 : (j : Int) < (n : Int) := of_decide_eq_true q2
      have hj : j < n := by omega
      have a_i := hF.a i (by omega)
      have a_j := hF.a j (by omega)
      have d_i := hF.d i (by omega)
      have d_j := hF.d j (by omega)
      obtain ⟨bt0, bt1⟩ := bt_in hF (by omega) i j n (by omega)
      first | refine wN_skip ?_ | skip
      refine wN_seq ?_
      refine wN_idx (b := sb) (o := 0) (k := j) (j := (j : Int)) (by rw [← es]; rfl) rfl rfl (by omega) ?_
      refine wN_lda (b := sb) (o := 0 + j * 3) rfl rs (fzc_rowF (by omega)) ?_
      refine wN_alc ?_
      intro H3 kH3 nH3 c3
      have c3 : Cl H3 L2.next [iv 0, iv 0, iv 0] := c3
      have mH3 := kH3.1
      have hk := hk.trans kH3
      have hs := kH3.sl0 hs
      have rs := kH3.rd rs (by simp)
      have c5 := kH3.cl c5 (by simp)
      refine wN_sta (b := L2.next) (o := 0) rfl rfl c3 (by omega) rfl rfl (by simp) ?_
      intro H4 kH4 nH4 sH4
      have mH4 := kH4.1
      have hk := hk.new kH4 (fun b hb => by simp at hb ⊢; omega)
      have hs := kH4.sl hs (fun b e => by have := fs b e; first | (simp; done) | (simp; omega))
      have rs := kH4.rd rs (by first | (simp; done) | (simp; omega))
      have c5 := kH4.cl c5 (by first | (simp; done) | (simp; omega))
      have c3 : Cl H4 L2.next [iv (rdF us j), iv (duF us j), iv (msF us j)] := sH4
      refine wN_end ?_
      refine wD_seq ?_
      refine wD_addo (b := L1.next) (o := 0) rfl ?_
      refine wD_ld (b := L1.next) (o := 0) (v := iv (rdF us i)) rfl c5.rd rfl ?_
      refine wD_addo (b := L2.next) (o := 0) rfl ?_
      refine wD_ld (b := L2.next) (o := 1) (v := iv (duF us j)) rfl c3.rd rfl ?_
      refine wD_mov (v := iv (rdF us i)) rfl ?_
      refine wD_mov (v := iv (duF us j)) rfl ?_
      refine wD_end (by repeat' first | exact True.intro | exact (fun h => h) | refine And.intro ?_ ?_ | (intro h; have h : (_ : Nat) = _ := h; omega)) ?_
      refine wN_seq ?_
      refine wN_mov (v := iv (rdF us i)) rfl ?_
      refine wN_mov (v := iv (duF us j)) rfl ?_
      refine wN_c_lss (a := (rdF us i)) (b := (duF us j)) rfl rfl ?_
      refine wN_end ?_
      refine And.intro (fun q3 => ?_) (fun q3 => ?_)
      · have q3 : (rdF us i) < (duF us j) := of_decide_eq_true q3
        first | refine wN_reg ?_ | refine wN_blk ?_ | refine wN_bseq ?_ | (refine wOps_nil ?_; refine wN_reg ?_)
        refine wN_mov (v := iv (lrJ us i (lrI us i) j)) rfl ?_
        refine wN_mov (v := .slice sa n cap) rfl ?_
        refine wN_mov (v := iv (rdF us i)) rfl ?_
        refine wN_mov (v := iv (duF us j)) rfl ?_
        obtain ⟨H5, fH5, kH5⟩ := between_ok (kn := kn) (lo := lo) (H := H4) (i := i) (j := j) hs hl hn2 (by omega) hF (by omega)
        refine wN_callf (vs := [.slice sa n cap, iv (rdF us i), iv (duF us j)]) rfl (callX_args fH5) ?_
        have mH5 := kH5.1
        have hk := hk.trans kH5
        have hs := kH5.sl0 hs
        have rs := kH5.rd rs (by simp)
        have c5 := kH5.cl c5 (by simp)
        have c3 := kH5.cl c3 (by simp)
        refine wN_mov (v := iv (duF us j)) rfl ?_
        refine wN_mov (v := iv (rdF us i)) rfl ?_
        refine wN_sub (a := (duF us j)) (b := (rdF us i)) rfl rfl ⟨by omega, by omega⟩ ?_
        have ebr : brt us i j = (BT us i j n + (duF us j - rdF us i) - 1) / (duF us j - rdF us i) := by unfold brt; rw [hl]
        obtain ⟨H6, fH6, kH6⟩ := divup_ok (kn := kn) (lo := lo) (H := H5) (a := BT us i j n) (b := duF us j - rdF us i) (by omega) (by omega)
        rw [← ebr] at fH6
        refine wN_callf (vs := [iv (BT us i j n), iv (duF us j - rdF us i)]) rfl (callX_args fH6) ?_
        have mH6 := kH6.1
        have hk := hk.trans kH6
        have hs := kH6.sl0 hs
        have rs := kH6.rd rs (by simp)
        have c5 := kH6.cl c5 (by simp)
        have c3 := kH6.cl c3 (by simp)
        refine wN_mm (a := (lrJ us i (lrI us i) j)) (b := (brt us i j)) rfl rfl ?_
        refine wN_mov (v := iv (max (lrJ us i (lrI us i) j) (brt us i j))) rfl ?_
        refine wN_end ?_
        first | refine wN_reg ?_ | refine wN_blk ?_ | refine wN_bseq ?_ | (refine wOps_nil ?_; refine wN_reg ?_)
        refine wN_add (a := (j : Int)) (b := 1) rfl rfl ⟨by omega, by omega⟩ ?_
        refine wN_mov (v := iv ((j : Int) + 1)) rfl ?_
        refine wN_end ?_
        exact ⟨e - 1, j + 1, by omega, ⟨by omega, hk, by omega, hs, rs, c5⟩, rfl, by rw [lrJ_yes (by omega)]; rfl, rfl, rfl, rfl, rfl, rfl, rfl, rfl, trivial⟩
      · have q3 : ¬ ((rdF us i) < (duF us j)) := of_decide_eq_false q3
        first | refine wN_skip ?_ | skip
        first | refine wN_reg ?_ | refine wN_blk ?_ | refine wN_bseq ?_ | (refine wOps_nil ?_; refine wN_reg ?_)
        refine wN_add (a := (j : Int)) (b := 1) rfl rfl ⟨by omega, by omega⟩ ?_
        refine wN_mov (v := iv ((j : Int) + 1)) rfl ?_
        refine wN_end ?_
        exact ⟨e - 1, j + 1, by omega, ⟨by omega, hk, by omega, hs, rs, c5⟩, rfl, by rw [lrJ_no (by omega)]; rfl, rfl, rfl, rfl, rfl, rfl, rfl, rfl, trivial⟩
    · have q2 : ¬ ((j : Int) < (n : Int)) := of_decide_eq_false q2
      have e : n = j := by omega
      subst e
      first | (refine wN_exit ?_; show wC _ _ _ _ _ _ _ _ _) | skip
      first | refine wN_reg ?_ | refine wN_blk ?_ | refine wN_bseq ?_ | (refine wOps_nil ?_; refine wN_reg ?_)
      refine wN_add (a := (i : Int)) (b := 1) rfl rfl ⟨by omega, by omega⟩ ?_
      refine wN_mov (v := iv ((i : Int) + 1)) rfl ?_
      refine wN_end ?_
      exact ⟨d - 1, i + 1, by omega, ⟨by omega, hk, hs⟩, rfl, by rw [show lrI us (i + 1) = lrJ us i (lrI us i) n from by rw [← hl]; rfl]; rfl, rfl, rfl, rfl, trivial⟩
  · have q1 : ¬ ((i : Int) < (n : Int)) := of_decide_eq_false q1
    first | (refine wN_exit ?_; show wC _ _ _ _ _ _ _ _ _) | skip
    refine wN_seq ?_
    refine wN_mov (v := iv (lrI us i)) rfl ?_
    refine wN_mov (v := iv (lrI us i)) rfl ?_
    refine wN_end ?_
    have e : i = n := by omega
    exact And.intro trivial (Exists.intro _ (And.intro rfl ⟨by rw [e]; rfl, hk⟩))
/-- Rate -/
theorem rate30_ok {sa : Option Addr} {n cap : Nat} {us : List Fz} (hs : Sl H sa n cap (fzc us)) (hl : us.length = n) (hn2 : n ≤ 1000000) (hlo : lo ≤ H.next) : ∃ H', FnX Try.prog kn lo 30 [.slice sa n cap] H (.tuple #[iv (ratV us), iv (ratE us)]) H' ∧ Keep H H' [] := by
  have key := fnX_low (kn := kn) (lo := lo) (H := H) (args := [.slice sa n cap]) (Q := fun w H' => w = .tuple #[iv (ratV us), iv (ratE us)] ∧ Keep H H' []) Try.func30 B30 N30 Z30 L30 (by simp) ?_
  · obtain ⟨w, H', h, rfl, q⟩ := key; exact ⟨H', h, q⟩
  have hk := Keep.refl H []
  refine wN_seq ?_
  refine wN_mov (v := iv 0) rfl ?_
  refine wN_mov (v := iv 0) rfl ?_
  refine wN_end ?_
  refine wN_seq ?_
  refine wN_mov (v := .slice sa n cap) rfl ?_
  obtain ⟨H1, fH1, kH1⟩ := check57_ok (kn := kn) (lo := lo) (H := H) hs hl hn2 (by omega)
  refine wN_callf (vs := [.slice sa n cap]) rfl (callX_args fH1) ?_
  have mH1 := kH1.1
  have hk := hk.trans kH1
  have hs := kH1.sl0 hs
  refine wN_mov (v := iv (chkF us)) rfl ?_
  refine wN_end ?_
  refine wN_seq ?_
  refine wN_mov (v := iv (chkF us)) rfl ?_
  refine wN_c_neq (a := (chkF us)) (b := 0) rfl rfl ?_
  refine wN_end ?_
  refine And.intro (fun q1 => ?_) (fun q1 => ?_)
  · have q1 : (chkF us) ≠ 0 := by simpa using q1
    refine wN_seq ?_
    refine wN_mov (v := iv (chkF us)) rfl ?_
    refine wN_mov (v := iv 0) rfl ?_
    refine wN_mov (v := iv (chkF us)) rfl ?_
    refine wN_end ?_
    exact And.intro trivial (Exists.intro _ (And.intro rfl ⟨by
      have e : ratE us = chkF us := by unfold ratE; rw [if_neg (by omega)]
      rw [show ratV us = 0 from by unfold ratV; rw [e, if_neg (by omega)], e]; rfl, hk⟩))
  · have q1 : ¬ ((chkF us) ≠ 0) := by simpa using q1
    have hc : chkF us = 0 := by omega
    obtain ⟨h1, h2⟩ := chkF_0 hc
    have hF := FzOk.of h2
    first | refine wN_skip ?_ | skip
    refine wN_seq ?_
    refine wN_mov (v := .slice sa n cap) rfl ?_
    refine wN_callB rfl (notime_ok hs hl hn2 (by omega)) ?_
    intro tH2 H2 hH2 kH2
    have mH2 := kH2.1
    have hk := hk.trans kH2
    have hs := kH2.sl0 hs
    cases tH2
    · have hz : noT us n = false := hH2
      refine wN_end ?_
      refine condF ?_
      first | refine wN_skip ?_ | skip
      refine wN_seq ?_
      refine wN_mov (v := .slice sa n cap) rfl ?_
      obtain ⟨H3, fH3, kH3⟩ := least_ok (kn := kn) (lo := lo) (H := H2) hs hl hn2 (by omega) hF (by omega)
      refine wN_callf (vs := [.slice sa n cap]) rfl (callX_args fH3) ?_
      have mH3 := kH3.1
      have hk := hk.trans kH3
      have hs := kH3.sl0 hs
      refine wN_mov (v := iv (lrI us n)) rfl ?_
      refine wN_mov (v := iv 0) rfl ?_
      refine wN_end ?_
      exact And.intro trivial (Exists.intro _ (And.intro rfl ⟨by
        have e : ratE us = 0 := by unfold ratE; rw [if_pos hc, hl, hz]; rfl
        rw [show ratV us = lrI us n from by unfold ratV; rw [e, if_pos rfl, hl], e]; rfl, hk⟩))
    · have hz : noT us n = true := hH2
      refine wN_end ?_
      refine condT ?_
      refine wN_seq ?_
      refine wN_mov (v := iv 0) rfl ?_
      refine wN_mov (v := iv 4) rfl ?_
      refine wN_end ?_
      exact And.intro trivial (Exists.intro _ (And.intro rfl ⟨by
        have e : ratE us = 4 := by unfold ratE; rw [if_pos hc, hl, hz]; rfl
        rw [show ratV us = 0 from by unfold ratV; rw [e, if_neg (by omega)], e]; rfl, hk⟩))
set_option maxRecDepth 100000 in
set_option maxHeartbeats 4000000 in
/-- PlantFaster -/
theorem law_faster (hkn : kn 16 = some true) {sa : Option Addr} {n cap : Nat} {us : List Fz} {R m : Int} (hm : 0 ≤ m ∧ m ≤ 4294967295) (hRr : InR R) (hs : Sl H sa n cap (fzc us)) (hl : us.length = n) (hro : RoLow lo H) (hlo : lo ≤ H.next) : ∃ H', FnX Try.prog kn lo 13 [.slice sa n cap, iv R, .int .u32 m] H (.bool true) H' := by
  have key := fnX_lv (P := Try.prog) (kn := kn) (lo := lo) (H := H) (args := [.slice sa n cap, iv R, .int .u32 m]) (Q := fun w H' => w = .bool true) Try.func13 B13 N13 Z13 V13 (by simp) ?_
  · obtain ⟨w, H', h, rfl⟩ := key; exact ⟨H', h⟩
  have hk := Keep.refl H []
  have fs := hs.old
  obtain ⟨hR1, hR2⟩ := hRr
  refine wN_seq ?_
  refine wN_mov (v := .bool false) rfl ?_
  refine wN_end ?_
  refine wN_seq ?_
  refine wN_mov (v := .slice sa n cap) rfl ?_
  refine wN_len (m := n) rfl ?_
  refine wN_c_gtr (a := (n : Int)) (b := 16) rfl rfl ?_
  refine wN_end ?_
  refine And.intro (fun q1 => ?_) (fun q1 => ?_)
  · have q1 : (n : Int) > 16 := of_decide_eq_true q1
    refine wN_seq ?_
    refine wN_callf (vs := []) rfl (callX_known hkn) ?_
    refine wN_mov (v := .bool true) rfl ?_
    refine wN_end ?_
    exact And.intro trivial (Exists.intro _ (And.intro rfl rfl))
  · have q1 : ¬ ((n : Int) > 16) := of_decide_eq_false q1
    first | refine wN_skip ?_ | skip
    refine wN_seq ?_
    refine wN_mov (v := .slice sa n cap) rfl ?_
    refine wN_mov (v := iv R) rfl ?_
    by_cases zA : frzE us R = 0
    · obtain ⟨bA, H1, fH1, kH1, lbA, cA⟩ := frozen28_ok (kn := kn) (lo := lo) (H := H) (R := R) hs hl (by omega) (by omega) zA
      refine wN_callf (vs := [.slice sa n cap, iv R]) rfl (callX_args fH1) ?_
      have mH1 := kH1.1
      have hk := hk.trans kH1
      have hs := kH1.sl0 hs
      have ltA := cA.lt
      refine wN_mov (v := .tuple #[.slice (some ⟨bA, 0, none⟩) n n, iv 0]) rfl ?_
      refine wN_pur (v := .slice (some ⟨bA, 0, none⟩) n n) rfl (by kernel_rfl) ?_
      refine wN_pur (v := iv 0) rfl (by kernel_rfl) ?_
      refine wN_mov (v := .slice (some ⟨bA, 0, none⟩) n n) rfl ?_
      refine wN_mov (v := iv 0) rfl ?_
      refine wN_end ?_
      refine tri_regV D13p P13p ?_
      refine wN_mov (v := .slice sa n cap) rfl ?_
      refine wN_mov (v := iv R) rfl ?_
      refine wN_mm (a := R) (b := 0) rfl rfl ?_
      refine wN_mov (v := .int .u32 m) rfl ?_
      refine wN_pur (v := iv m) rfl (conv_77 m hm.1 hm.2 rfl) ?_
      obtain ⟨ww, hww⟩ : ∃ ww, ww = IntKind.i64.wrap (max R 0 + m) := ⟨_, rfl⟩
      refine wN_pur (v := iv ww) rfl (by rw [hww]; exact pure_add rfl rfl) ?_
      refine wN_mm (a := 17592186044416) (b := ww) rfl rfl ?_
      obtain ⟨h1, h2, h3, h4⟩ := frzE_0 zA
      have hF := FzOk.of h2
      have hw2 : ww = max R 0 + m := by rw [hww]; exact wrap_i64 ⟨by omega, by omega⟩
      have zB : frzE us (min 17592186044416 ww) = 0 := frzE_of h1 h2 (by omega)
      obtain ⟨bB, H2, fH2, kH2, lbB, cB⟩ := frozen28_ok (kn := kn) (lo := lo) (H := H1) (R := (min 17592186044416 ww)) hs hl (by omega) (by omega) zB
      refine wN_callf (vs := [.slice sa n cap, iv (min 17592186044416 ww)]) rfl (callX_args fH2) ?_
      have mH2 := kH2.1
      have hk := hk.trans kH2
      have hs := kH2.sl0 hs
      have cA := kH2.cl cA (by simp)
      have ltB := cB.lt
      refine wN_mov (v := .tuple #[.slice (some ⟨bB, 0, none⟩) n n, iv 0]) rfl ?_
      refine wN_pur (v := .slice (some ⟨bB, 0, none⟩) n n) rfl (by kernel_rfl) ?_
      refine wN_pur (v := iv 0) rfl (by kernel_rfl) ?_
      refine wN_mov (v := .slice (some ⟨bB, 0, none⟩) n n) rfl ?_
      refine wN_mov (v := iv 0) rfl ?_
      refine wN_end ?_
      refine wN_seq ?_
      refine wN_mov (v := iv 0) rfl ?_
      refine wN_c_eql (a := 0) (b := 0) rfl rfl ?_
      refine wN_end ?_
      refine condT ?_
      refine wN_seq ?_
      refine wN_mov (v := iv 0) rfl ?_
      refine wN_b_neq (a := 0) (b := 0) rfl rfl ?_
      intro t2 g2; obtain rfl : t2 = false := by rw [← g2]; rfl
      refine wN_mov (v := .bool false) rfl ?_
      refine wN_g rfl (wN_mov (v := .slice (some ⟨bA, 0, none⟩) n n) rfl ?_)
      refine wN_g rfl (wN_len (m := n) rfl ?_)
      refine wN_g rfl (wN_mov (v := .slice sa n cap) rfl ?_)
      refine wN_g rfl (wN_len (m := n) rfl ?_)
      refine wN_g rfl (wN_b_neq (a := (n : Int)) (b := (n : Int)) rfl rfl ?_)
      intro t3 g3; cases t3
      · have g3 : ¬ ((n : Int) ≠ (n : Int)) := by simpa using g3
        refine wN_pur (v := .bool false) rfl rfl ?_
        refine wN_mov (v := .bool false) rfl ?_
        refine wN_g rfl (wN_mov (v := .slice (some ⟨bB, 0, none⟩) n n) rfl ?_)
        refine wN_g rfl (wN_len (m := n) rfl ?_)
        refine wN_g rfl (wN_mov (v := .slice sa n cap) rfl ?_)
        refine wN_g rfl (wN_len (m := n) rfl ?_)
        refine wN_g rfl (wN_b_neq (a := (n : Int)) (b := (n : Int)) rfl rfl ?_)
        intro t4 g4; cases t4
        · have g4 : ¬ ((n : Int) ≠ (n : Int)) := by simpa using g4
          refine wN_pur (v := .bool false) rfl rfl ?_
          refine wN_end ?_
          refine condF ?_
          first | refine wN_skip ?_ | skip
          refine wN_seq ?_
          refine wN_mov (v := .slice (some ⟨bA, 0, none⟩) n n) rfl ?_
          refine wN_len (m := n) rfl ?_
          refine wN_mov (v := iv 0) rfl ?_
          refine wN_end ?_
          refine loop_low (fn := Try.f13) E13_1 N13 L13x1 (fun i : Nat => [(0, .slice sa n cap), (7, .slice (some ⟨bA, 0, none⟩) n n), (9, .slice (some ⟨bB, 0, none⟩) n n), (54, iv (n : Int)), (55, iv (i : Int))])
            (fun d i H' => i + d = n ∧ Keep H H' [] ∧ Sl H' sa n cap (fzc us) ∧ Cl H' bA (nf (DN us R) n) ∧ Cl H' bB (nf (DN us (min 17592186044416 ww)) n)) n 0 ⟨by omega, hk, hs, cA, cB⟩ ⟨rfl, rfl, rfl, rfl, rfl, trivial⟩ ?_
          rintro d i L1 ⟨hid, hk, hs, cA, cB⟩
          have mki := hk.1
          have fs := hs.old
          refine wN_seq ?_
          refine wN_c_lss (a := (i : Int)) (b := (n : Int)) rfl rfl ?_
          refine wN_end ?_
          refine And.intro (fun q5 => ?_) (fun q5 => ?_)
          · have q5 : (i : Int) < (n : Int) := of_decide_eq_true q5
            have hi : i < n := by omega
            have hfa := hF.faster (R := R) (R' := (min 17592186044416 ww)) (by omega) (by omega) (show i < us.length by omega)
            first | refine wN_skip ?_ | skip
            refine wN_seq ?_
            refine wN_mov (v := iv (i : Int)) rfl ?_
            refine wN_mov (v := iv (i : Int)) rfl ?_
            refine wN_end ?_
            refine wD_seq ?_
            refine wD_mov (v := .slice (some ⟨bB, 0, none⟩) n n) rfl ?_
            refine wD_mov (v := iv (i : Int)) rfl ?_
            refine wD_idx (b := bB) (o := 0) (k := i) (j := (i : Int)) rfl rfl rfl hi ?_
            refine wD_ld (b := bB) (o := 0 + i * 1) (v := iv (DN us (min 17592186044416 ww) i)) rfl cB.rd (nf_at (f := DN us (min 17592186044416 ww)) (by omega)) ?_
            refine wD_mov (v := .slice (some ⟨bA, 0, none⟩) n n) rfl ?_
            refine wD_mov (v := iv (i : Int)) rfl ?_
            refine wD_idx (b := bA) (o := 0) (k := i) (j := (i : Int)) rfl rfl rfl hi ?_
            refine wD_ld (b := bA) (o := 0 + i * 1) (v := iv (DN us R i)) rfl cA.rd (nf_at (f := DN us R) (by omega)) ?_
            refine wD_c_gtr (a := (DN us (min 17592186044416 ww) i)) (b := (DN us R i)) rfl rfl ?_
            refine wD_end (by repeat' first | exact True.intro | exact (fun h => h) | refine And.intro ?_ ?_ | (intro h; have h : (_ : Nat) = _ := h; omega)) ?_
            refine And.intro (fun q6 => ?_) (fun q6 => ?_)
            · have q6 : (DN us (min 17592186044416 ww) i) > (DN us R i) := of_decide_eq_true q6
              exfalso; omega
            · have q6 : ¬ ((DN us (min 17592186044416 ww) i) > (DN us R i)) := of_decide_eq_false q6
              first | refine wN_skip ?_ | skip
              first | refine wN_reg ?_ | refine wN_blk ?_ | refine wN_bseq ?_ | (refine wOps_nil ?_; refine wN_reg ?_)
              refine wN_add (a := (i : Int)) (b := 1) rfl rfl ⟨by omega, by omega⟩ ?_
              refine wN_mov (v := iv ((i : Int) + 1)) rfl ?_
              refine wN_end ?_
              exact ⟨d - 1, i + 1, by omega, ⟨by omega, hk, hs, cA, cB⟩, rfl, rfl, rfl, rfl, rfl, trivial⟩
          · have q5 : ¬ ((i : Int) < (n : Int)) := of_decide_eq_false q5
            first | (refine wN_exit ?_; show wC _ _ _ _ _ _ _ _ _) | skip
            refine wN_seq ?_
            refine wN_mov (v := .slice sa n cap) rfl ?_
            obtain ⟨H3, fH3, kH3⟩ := rate30_ok (kn := kn) (lo := lo) (H := L1) hs hl (by omega) (by omega)
            have mH3 := kH3.1
            have hk := hk.trans kH3
            have hs := kH3.sl0 hs
            have cA := kH3.cl cA (by simp)
            have cB := kH3.cl cB (by simp)
            by_cases zR : ratE us = 0
            · obtain ⟨r1, r2, r3⟩ := ratE_0 zR
              rw [show ratV us = lrI us n from by unfold ratV; rw [if_pos zR, hl], zR] at fH3
              have hF := FzOk.of r2
              have hN1 := lr_one us n
              have hN2 := lr_in hF r1 n
              refine wN_callf (vs := [.slice sa n cap]) rfl (callX_args fH3) ?_
              refine wN_mov (v := .tuple #[iv (lrI us n), iv 0]) rfl ?_
              refine wN_pur (v := iv (lrI us n)) rfl (by kernel_rfl) ?_
              refine wN_pur (v := iv 0) rfl (by kernel_rfl) ?_
              refine wN_mov (v := iv (lrI us n)) rfl ?_
              refine wN_mov (v := iv 0) rfl ?_
              refine wN_end ?_
              refine wN_seq ?_
              refine wN_mov (v := iv 0) rfl ?_
              refine wN_c_neq (a := 0) (b := 0) rfl rfl ?_
              refine wN_end ?_
              refine condF ?_
              first | refine wN_skip ?_ | skip
              refine wN_seq ?_
              refine wN_mov (v := iv (lrI us n)) rfl ?_
              refine wN_b_lss (a := (lrI us n)) (b := 1) rfl rfl ?_
              intro t7 g7; cases t7
              · have g7 : ¬ ((lrI us n) < 1) := of_decide_eq_false g7
                refine wN_mov (v := .bool false) rfl ?_
                refine wN_g rfl (wN_mov (v := iv (lrI us n)) rfl ?_)
                refine wN_g rfl (wN_b_gtr (a := (lrI us n)) (b := 17592186044416) rfl rfl ?_)
                intro t8 g8; cases t8
                · have g8 : ¬ ((lrI us n) > 17592186044416) := of_decide_eq_false g8
                  refine wN_pur (v := .bool false) rfl rfl ?_
                  refine wN_end ?_
                  refine condF ?_
                  first | refine wN_skip ?_ | skip
                  refine wN_seq ?_
                  refine wN_mov (v := .slice sa n cap) rfl ?_
                  refine wN_mov (v := iv (lrI us n)) rfl ?_
                  have zC : frzE us (lrI us n) = 0 := frzE_of r1 r2 ⟨hN1, hN2⟩
                  obtain ⟨bC, H4, fH4, kH4, lbC, cC⟩ := frozen28_ok (kn := kn) (lo := lo) (H := H3) (R := (lrI us n)) hs hl (by omega) (by omega) zC
                  refine wN_callf (vs := [.slice sa n cap, iv (lrI us n)]) rfl (callX_args fH4) ?_
                  have mH4 := kH4.1
                  have hk := hk.trans kH4
                  have hs := kH4.sl0 hs
                  have cA := kH4.cl cA (by simp)
                  have cB := kH4.cl cB (by simp)
                  have ltC := cC.lt
                  refine wN_mov (v := .tuple #[.slice (some ⟨bC, 0, none⟩) n n, iv 0]) rfl ?_
                  refine wN_pur (v := .slice (some ⟨bC, 0, none⟩) n n) rfl (by kernel_rfl) ?_
                  refine wN_pur (v := iv 0) rfl (by kernel_rfl) ?_
                  refine wN_mov (v := .slice (some ⟨bC, 0, none⟩) n n) rfl ?_
                  refine wN_mov (v := iv 0) rfl ?_
                  refine wN_end ?_
                  refine wN_seq ?_
                  refine wN_mov (v := iv 0) rfl ?_
                  refine wN_b_neq (a := 0) (b := 0) rfl rfl ?_
                  intro t9 g9; obtain rfl : t9 = false := by rw [← g9]; rfl
                  refine wN_mov (v := .bool false) rfl ?_
                  refine wN_g rfl (wN_mov (v := .slice (some ⟨bC, 0, none⟩) n n) rfl ?_)
                  refine wN_g rfl (wN_len (m := n) rfl ?_)
                  refine wN_g rfl (wN_mov (v := .slice sa n cap) rfl ?_)
                  refine wN_g rfl (wN_len (m := n) rfl ?_)
                  refine wN_g rfl (wN_b_neq (a := (n : Int)) (b := (n : Int)) rfl rfl ?_)
                  intro t10 g10; cases t10
                  · have g10 : ¬ ((n : Int) ≠ (n : Int)) := by simpa using g10
                    refine wN_pur (v := .bool false) rfl rfl ?_
                    refine wN_mov (v := .bool false) rfl ?_
                    refine wN_g rfl (wN_mov (v := .slice sa n cap) rfl ?_)
                    refine wN_g rfl (wN_mov (v := .slice (some ⟨bC, 0, none⟩) n n) rfl ?_)
                    obtain ⟨H5, fH5, kH5⟩ := late_ok (kn := kn) (lo := lo) (H := H4) (g := DN us (lrI us n)) hs hl (by omega) (cC.sl (Nat.le_refl n))
                    rw [show lateG us (DN us (lrI us n)) n = false from by
                      have q := hF.rate r3 (R := lrI us n) (by omega)
                      have e : lateG us (DN us (lrI us n)) n = lateU us (lrI us n) us.length := by rw [hl]; rfl
                      rw [e, q, hl]; exact decide_eq_false (by omega)] at fH5
                    refine wN_g rfl (wN_callf (vs := [.slice sa n cap, slv bC n n]) rfl (callX_args fH5) ?_)
                    have mH5 := kH5.1
                    have hk := hk.trans kH5
                    have hs := kH5.sl0 hs
                    have cA := kH5.cl cA (by simp)
                    have cB := kH5.cl cB (by simp)
                    have cC := kH5.cl cC (by simp)
                    refine wN_pur (v := .bool false) rfl rfl ?_
                    refine wN_end ?_
                    refine condF ?_
                    first | refine wN_skip ?_ | skip
                    refine wN_seq ?_
                    refine wN_mov (v := iv (lrI us n)) rfl ?_
                    refine wN_c_eql (a := (lrI us n)) (b := 1) rfl rfl ?_
                    refine wN_end ?_
                    refine And.intro (fun q11 => ?_) (fun q11 => ?_)
                    · have q11 : (lrI us n) = 1 := by simpa using q11
                      refine wN_seq ?_
                      refine wN_callf (vs := []) rfl (callX_known hkn) ?_
                      refine wN_mov (v := .bool true) rfl ?_
                      refine wN_end ?_
                      exact And.intro trivial (Exists.intro _ (And.intro rfl rfl))
                    · have q11 : ¬ ((lrI us n) = 1) := by simpa using q11
                      first | refine wN_skip ?_ | skip
                      refine wN_seq ?_
                      refine wN_mov (v := .slice sa n cap) rfl ?_
                      refine wN_mov (v := iv (lrI us n)) rfl ?_
                      refine wN_sub (a := (lrI us n)) (b := 1) rfl rfl ⟨by omega, by omega⟩ ?_
                      have zE : frzE us (lrI us n - 1) = 0 := frzE_of r1 r2 (by omega)
                      obtain ⟨bE, H6, fH6, kH6, lbE, cE⟩ := frozen28_ok (kn := kn) (lo := lo) (H := H5) (R := (lrI us n - 1)) hs hl (by omega) (by omega) zE
                      refine wN_callf (vs := [.slice sa n cap, iv (lrI us n - 1)]) rfl (callX_args fH6) ?_
                      have mH6 := kH6.1
                      have hk := hk.trans kH6
                      have hs := kH6.sl0 hs
                      have cA := kH6.cl cA (by simp)
                      have cB := kH6.cl cB (by simp)
                      have cC := kH6.cl cC (by simp)
                      have ltE := cE.lt
                      refine wN_mov (v := .tuple #[.slice (some ⟨bE, 0, none⟩) n n, iv 0]) rfl ?_
                      refine wN_pur (v := .slice (some ⟨bE, 0, none⟩) n n) rfl (by kernel_rfl) ?_
                      refine wN_pur (v := iv 0) rfl (by kernel_rfl) ?_
                      refine wN_mov (v := .slice (some ⟨bE, 0, none⟩) n n) rfl ?_
                      refine wN_mov (v := iv 0) rfl ?_
                      refine wN_end ?_
                      refine wN_seq ?_
                      refine wN_mov (v := iv 0) rfl ?_
                      refine wN_b_eql (a := 0) (b := 0) rfl rfl ?_
                      intro t12 g12; obtain rfl : t12 = true := by rw [← g12]; rfl
                      refine wN_mov (v := .bool true) rfl ?_
                      refine wN_g rfl (wN_mov (v := .slice (some ⟨bE, 0, none⟩) n n) rfl ?_)
                      refine wN_g rfl (wN_len (m := n) rfl ?_)
                      refine wN_g rfl (wN_mov (v := .slice sa n cap) rfl ?_)
                      refine wN_g rfl (wN_len (m := n) rfl ?_)
                      refine wN_g rfl (wN_b_eql (a := (n : Int)) (b := (n : Int)) rfl rfl ?_)
                      intro t13 g13; cases t13
                      · have g13 : ¬ ((n : Int) = (n : Int)) := by simpa using g13
                        exfalso; omega
                      · have g13 : (n : Int) = (n : Int) := by simpa using g13
                        refine wN_pur (v := .bool true) rfl rfl ?_
                        refine wN_mov (v := .bool true) rfl ?_
                        refine wN_g rfl (wN_mov (v := .slice sa n cap) rfl ?_)
                        refine wN_g rfl (wN_mov (v := .slice (some ⟨bE, 0, none⟩) n n) rfl ?_)
                        obtain ⟨H7, fH7, kH7⟩ := late_ok (kn := kn) (lo := lo) (H := H6) (g := DN us (lrI us n - 1)) hs hl (by omega) (cE.sl (Nat.le_refl n))
                        rw [show lateG us (DN us (lrI us n - 1)) n = true from by
                          have q := hF.rate r3 (R := lrI us n - 1) (by omega)
                          have e : lateG us (DN us (lrI us n - 1)) n = lateU us (lrI us n - 1) us.length := by rw [hl]; rfl
                          rw [e, q, hl]; exact decide_eq_true (by omega)] at fH7
                        refine wN_g rfl (wN_callf (vs := [.slice sa n cap, slv bE n n]) rfl (callX_args fH7) ?_)
                        have mH7 := kH7.1
                        have hk := hk.trans kH7
                        have hs := kH7.sl0 hs
                        have cA := kH7.cl cA (by simp)
                        have cB := kH7.cl cB (by simp)
                        have cC := kH7.cl cC (by simp)
                        have cE := kH7.cl cE (by simp)
                        refine wN_pur (v := .bool true) rfl rfl ?_
                        refine wN_mov (v := .bool true) rfl ?_
                        refine wN_g rfl (wN_callf (vs := []) rfl (callX_known hkn) ?_)
                        refine wN_pur (v := .bool true) rfl rfl ?_
                        refine wN_mov (v := .bool true) rfl ?_
                        refine wN_end ?_
                        exact And.intro trivial (Exists.intro _ (And.intro rfl rfl))
                  · have g10 : (n : Int) ≠ (n : Int) := by simpa using g10
                    exfalso; omega
                · have g8 : (lrI us n) > 17592186044416 := of_decide_eq_true g8
                  exfalso; omega
              · have g7 : (lrI us n) < 1 := of_decide_eq_true g7
                exfalso; omega
            · rw [show ratV us = 0 from by unfold ratV; rw [if_neg zR]] at fH3
              refine wN_callf (vs := [.slice sa n cap]) rfl (callX_args fH3) ?_
              have hrn := ratE_n zR
              refine wN_mov (v := .tuple #[iv 0, iv (ratE us)]) rfl ?_
              refine wN_pur (v := iv 0) rfl (by kernel_rfl) ?_
              refine wN_pur (v := iv (ratE us)) rfl (by kernel_rfl) ?_
              refine wN_mov (v := iv 0) rfl ?_
              refine wN_mov (v := iv (ratE us)) rfl ?_
              refine wN_end ?_
              refine wN_seq ?_
              refine wN_mov (v := iv (ratE us)) rfl ?_
              refine wN_c_neq (a := (ratE us)) (b := 0) rfl rfl ?_
              refine wN_end ?_
              refine And.intro (fun q14 => ?_) (fun q14 => ?_)
              · have q14 : (ratE us) ≠ 0 := by simpa using q14
                refine wN_seq ?_
                refine wN_mov (v := iv 0) rfl ?_
                refine wN_b_eql (a := 0) (b := 0) rfl rfl ?_
                intro t15 g15; obtain rfl : t15 = true := by rw [← g15]; rfl
                refine wN_mov (v := .bool true) rfl ?_
                refine wN_g rfl (wN_mov (v := iv (ratE us)) rfl ?_)
                refine wN_g rfl (wN_b_neq (a := (ratE us)) (b := 4) rfl rfl ?_)
                intro t16 g16; cases t16
                · have g16 : ¬ ((ratE us) ≠ 4) := by simpa using g16
                  refine wN_g rfl (wN_mov (v := .bool false) rfl ?_)
                  refine wN_g rfl (wN_mov (v := .slice sa n cap) rfl ?_)
                  obtain ⟨H8, fH8, kH8⟩ := freezes_ok (kn := kn) (lo := lo) (H := H3) hs hl (by omega) (by omega)
                  rw [show us.all Fz.ok = true from by rcases hrn with q | q | ⟨_, q⟩ <;> first | exact q | (exfalso; omega)] at fH8
                  refine wN_g rfl (wN_callf (vs := [.slice sa n cap]) rfl (callX_args fH8) ?_)
                  have mH8 := kH8.1
                  have hk := hk.trans kH8
                  have hs := kH8.sl0 hs
                  have cA := kH8.cl cA (by simp)
                  have cB := kH8.cl cB (by simp)
                  refine wN_g rfl (wN_pur (v := .bool true) rfl rfl ?_)
                  refine wN_pur (v := .bool true) rfl rfl ?_
                  refine wN_mov (v := .bool true) rfl ?_
                  refine wN_g rfl (wN_callf (vs := []) rfl (callX_known hkn) ?_)
                  refine wN_pur (v := .bool true) rfl rfl ?_
                  refine wN_mov (v := .bool true) rfl ?_
                  refine wN_end ?_
                  exact And.intro trivial (Exists.intro _ (And.intro rfl rfl))
                · have g16 : (ratE us) ≠ 4 := by simpa using g16
                  refine wN_g rfl (wN_mov (v := .bool true) rfl ?_)
                  refine wN_gs rfl ?_
                  refine wN_gs rfl ?_
                  refine wN_g rfl (wN_pur (v := .bool true) rfl rfl ?_)
                  refine wN_pur (v := .bool true) rfl rfl ?_
                  refine wN_mov (v := .bool true) rfl ?_
                  refine wN_g rfl (wN_callf (vs := []) rfl (callX_known hkn) ?_)
                  refine wN_pur (v := .bool true) rfl rfl ?_
                  refine wN_mov (v := .bool true) rfl ?_
                  refine wN_end ?_
                  exact And.intro trivial (Exists.intro _ (And.intro rfl rfl))
              · have q14 : ¬ ((ratE us) ≠ 0) := by simpa using q14
                exfalso; exact zR (by omega)
        · have g4 : (n : Int) ≠ (n : Int) := by simpa using g4
          exfalso; omega
      · have g3 : (n : Int) ≠ (n : Int) := by simpa using g3
        exfalso; omega
    · obtain ⟨H1, fH1, kH1⟩ := frozen28_no (kn := kn) (lo := lo) (H := H) (R := R) hs hl (by omega) (by omega) zA
      refine wN_callf (vs := [.slice sa n cap, iv R]) rfl (callX_args fH1) ?_
      have mH1 := kH1.1
      have hk := hk.trans kH1
      have hs := kH1.sl0 hs
      refine wN_mov (v := .tuple #[.slice none 0 0, iv (frzE us R)]) rfl ?_
      refine wN_pur (v := .slice none 0 0) rfl (by kernel_rfl) ?_
      refine wN_pur (v := iv (frzE us R)) rfl (by kernel_rfl) ?_
      refine wN_mov (v := .slice none 0 0) rfl ?_
      refine wN_mov (v := iv (frzE us R)) rfl ?_
      refine wN_end ?_
      refine tri_regV D13p P13p ?_
      refine wN_mov (v := .slice sa n cap) rfl ?_
      refine wN_mov (v := iv R) rfl ?_
      refine wN_mm (a := R) (b := 0) rfl rfl ?_
      refine wN_mov (v := .int .u32 m) rfl ?_
      refine wN_pur (v := iv m) rfl (conv_77 m hm.1 hm.2 rfl) ?_
      obtain ⟨ww, hww⟩ : ∃ ww, ww = IntKind.i64.wrap (max R 0 + m) := ⟨_, rfl⟩
      refine wN_pur (v := iv ww) rfl (by rw [hww]; exact pure_add rfl rfl) ?_
      refine wN_mm (a := 17592186044416) (b := ww) rfl rfl ?_
      by_cases zB : frzE us (min 17592186044416 ww) = 0
      · obtain ⟨bB, H9, fH9, kH9, lbB, cB⟩ := frozen28_ok (kn := kn) (lo := lo) (H := H1) (R := (min 17592186044416 ww)) hs hl (by omega) (by omega) zB
        refine wN_callf (vs := [.slice sa n cap, iv (min 17592186044416 ww)]) rfl (callX_args fH9) ?_
        have mH9 := kH9.1
        have hk := hk.trans kH9
        have hs := kH9.sl0 hs
        have ltB := cB.lt
        refine wN_mov (v := .tuple #[.slice (some ⟨bB, 0, none⟩) n n, iv 0]) rfl ?_
        refine wN_pur (v := .slice (some ⟨bB, 0, none⟩) n n) rfl (by kernel_rfl) ?_
        refine wN_pur (v := iv 0) rfl (by kernel_rfl) ?_
        refine wN_mov (v := .slice (some ⟨bB, 0, none⟩) n n) rfl ?_
        refine wN_mov (v := iv 0) rfl ?_
        refine wN_end ?_
        refine wN_seq ?_
        refine wN_mov (v := iv (frzE us R)) rfl ?_
        refine wN_c_eql (a := (frzE us R)) (b := 0) rfl rfl ?_
        refine wN_end ?_
        refine And.intro (fun q17 => ?_) (fun q17 => ?_)
        · have q17 : (frzE us R) = 0 := by simpa using q17
          exfalso; exact zA (by omega)
        · have q17 : ¬ ((frzE us R) = 0) := by simpa using q17
          first | refine wN_skip ?_ | skip
          refine wN_seq ?_
          refine wN_mov (v := .slice sa n cap) rfl ?_
          obtain ⟨H10, fH10, kH10⟩ := rate30_ok (kn := kn) (lo := lo) (H := H9) hs hl (by omega) (by omega)
          have mH10 := kH10.1
          have hk := hk.trans kH10
          have hs := kH10.sl0 hs
          have cB := kH10.cl cB (by simp)
          by_cases zR : ratE us = 0
          · obtain ⟨r1, r2, r3⟩ := ratE_0 zR
            rw [show ratV us = lrI us n from by unfold ratV; rw [if_pos zR, hl], zR] at fH10
            have hF := FzOk.of r2
            have hN1 := lr_one us n
            have hN2 := lr_in hF r1 n
            refine wN_callf (vs := [.slice sa n cap]) rfl (callX_args fH10) ?_
            refine wN_mov (v := .tuple #[iv (lrI us n), iv 0]) rfl ?_
            refine wN_pur (v := iv (lrI us n)) rfl (by kernel_rfl) ?_
            refine wN_pur (v := iv 0) rfl (by kernel_rfl) ?_
            refine wN_mov (v := iv (lrI us n)) rfl ?_
            refine wN_mov (v := iv 0) rfl ?_
            refine wN_end ?_
            refine wN_seq ?_
            refine wN_mov (v := iv 0) rfl ?_
            refine wN_c_neq (a := 0) (b := 0) rfl rfl ?_
            refine wN_end ?_
            refine condF ?_
            first | refine wN_skip ?_ | skip
            refine wN_seq ?_
            refine wN_mov (v := iv (lrI us n)) rfl ?_
            refine wN_b_lss (a := (lrI us n)) (b := 1) rfl rfl ?_
            intro t18 g18; cases t18
            · have g18 : ¬ ((lrI us n) < 1) := of_decide_eq_false g18
              refine wN_mov (v := .bool false) rfl ?_
              refine wN_g rfl (wN_mov (v := iv (lrI us n)) rfl ?_)
              refine wN_g rfl (wN_b_gtr (a := (lrI us n)) (b := 17592186044416) rfl rfl ?_)
              intro t19 g19; cases t19
              · have g19 : ¬ ((lrI us n) > 17592186044416) := of_decide_eq_false g19
                refine wN_pur (v := .bool false) rfl rfl ?_
                refine wN_end ?_
                refine condF ?_
                first | refine wN_skip ?_ | skip
                refine wN_seq ?_
                refine wN_mov (v := .slice sa n cap) rfl ?_
                refine wN_mov (v := iv (lrI us n)) rfl ?_
                have zC : frzE us (lrI us n) = 0 := frzE_of r1 r2 ⟨hN1, hN2⟩
                obtain ⟨bC, H11, fH11, kH11, lbC, cC⟩ := frozen28_ok (kn := kn) (lo := lo) (H := H10) (R := (lrI us n)) hs hl (by omega) (by omega) zC
                refine wN_callf (vs := [.slice sa n cap, iv (lrI us n)]) rfl (callX_args fH11) ?_
                have mH11 := kH11.1
                have hk := hk.trans kH11
                have hs := kH11.sl0 hs
                have cB := kH11.cl cB (by simp)
                have ltC := cC.lt
                refine wN_mov (v := .tuple #[.slice (some ⟨bC, 0, none⟩) n n, iv 0]) rfl ?_
                refine wN_pur (v := .slice (some ⟨bC, 0, none⟩) n n) rfl (by kernel_rfl) ?_
                refine wN_pur (v := iv 0) rfl (by kernel_rfl) ?_
                refine wN_mov (v := .slice (some ⟨bC, 0, none⟩) n n) rfl ?_
                refine wN_mov (v := iv 0) rfl ?_
                refine wN_end ?_
                refine wN_seq ?_
                refine wN_mov (v := iv 0) rfl ?_
                refine wN_b_neq (a := 0) (b := 0) rfl rfl ?_
                intro t20 g20; obtain rfl : t20 = false := by rw [← g20]; rfl
                refine wN_mov (v := .bool false) rfl ?_
                refine wN_g rfl (wN_mov (v := .slice (some ⟨bC, 0, none⟩) n n) rfl ?_)
                refine wN_g rfl (wN_len (m := n) rfl ?_)
                refine wN_g rfl (wN_mov (v := .slice sa n cap) rfl ?_)
                refine wN_g rfl (wN_len (m := n) rfl ?_)
                refine wN_g rfl (wN_b_neq (a := (n : Int)) (b := (n : Int)) rfl rfl ?_)
                intro t21 g21; cases t21
                · have g21 : ¬ ((n : Int) ≠ (n : Int)) := by simpa using g21
                  refine wN_pur (v := .bool false) rfl rfl ?_
                  refine wN_mov (v := .bool false) rfl ?_
                  refine wN_g rfl (wN_mov (v := .slice sa n cap) rfl ?_)
                  refine wN_g rfl (wN_mov (v := .slice (some ⟨bC, 0, none⟩) n n) rfl ?_)
                  obtain ⟨H12, fH12, kH12⟩ := late_ok (kn := kn) (lo := lo) (H := H11) (g := DN us (lrI us n)) hs hl (by omega) (cC.sl (Nat.le_refl n))
                  rw [show lateG us (DN us (lrI us n)) n = false from by
                    have q := hF.rate r3 (R := lrI us n) (by omega)
                    have e : lateG us (DN us (lrI us n)) n = lateU us (lrI us n) us.length := by rw [hl]; rfl
                    rw [e, q, hl]; exact decide_eq_false (by omega)] at fH12
                  refine wN_g rfl (wN_callf (vs := [.slice sa n cap, slv bC n n]) rfl (callX_args fH12) ?_)
                  have mH12 := kH12.1
                  have hk := hk.trans kH12
                  have hs := kH12.sl0 hs
                  have cB := kH12.cl cB (by simp)
                  have cC := kH12.cl cC (by simp)
                  refine wN_pur (v := .bool false) rfl rfl ?_
                  refine wN_end ?_
                  refine condF ?_
                  first | refine wN_skip ?_ | skip
                  refine wN_seq ?_
                  refine wN_mov (v := iv (lrI us n)) rfl ?_
                  refine wN_c_eql (a := (lrI us n)) (b := 1) rfl rfl ?_
                  refine wN_end ?_
                  refine And.intro (fun q22 => ?_) (fun q22 => ?_)
                  · have q22 : (lrI us n) = 1 := by simpa using q22
                    refine wN_seq ?_
                    refine wN_callf (vs := []) rfl (callX_known hkn) ?_
                    refine wN_mov (v := .bool true) rfl ?_
                    refine wN_end ?_
                    exact And.intro trivial (Exists.intro _ (And.intro rfl rfl))
                  · have q22 : ¬ ((lrI us n) = 1) := by simpa using q22
                    first | refine wN_skip ?_ | skip
                    refine wN_seq ?_
                    refine wN_mov (v := .slice sa n cap) rfl ?_
                    refine wN_mov (v := iv (lrI us n)) rfl ?_
                    refine wN_sub (a := (lrI us n)) (b := 1) rfl rfl ⟨by omega, by omega⟩ ?_
                    have zE : frzE us (lrI us n - 1) = 0 := frzE_of r1 r2 (by omega)
                    obtain ⟨bE, H13, fH13, kH13, lbE, cE⟩ := frozen28_ok (kn := kn) (lo := lo) (H := H12) (R := (lrI us n - 1)) hs hl (by omega) (by omega) zE
                    refine wN_callf (vs := [.slice sa n cap, iv (lrI us n - 1)]) rfl (callX_args fH13) ?_
                    have mH13 := kH13.1
                    have hk := hk.trans kH13
                    have hs := kH13.sl0 hs
                    have cB := kH13.cl cB (by simp)
                    have cC := kH13.cl cC (by simp)
                    have ltE := cE.lt
                    refine wN_mov (v := .tuple #[.slice (some ⟨bE, 0, none⟩) n n, iv 0]) rfl ?_
                    refine wN_pur (v := .slice (some ⟨bE, 0, none⟩) n n) rfl (by kernel_rfl) ?_
                    refine wN_pur (v := iv 0) rfl (by kernel_rfl) ?_
                    refine wN_mov (v := .slice (some ⟨bE, 0, none⟩) n n) rfl ?_
                    refine wN_mov (v := iv 0) rfl ?_
                    refine wN_end ?_
                    refine wN_seq ?_
                    refine wN_mov (v := iv 0) rfl ?_
                    refine wN_b_eql (a := 0) (b := 0) rfl rfl ?_
                    intro t23 g23; obtain rfl : t23 = true := by rw [← g23]; rfl
                    refine wN_mov (v := .bool true) rfl ?_
                    refine wN_g rfl (wN_mov (v := .slice (some ⟨bE, 0, none⟩) n n) rfl ?_)
                    refine wN_g rfl (wN_len (m := n) rfl ?_)
                    refine wN_g rfl (wN_mov (v := .slice sa n cap) rfl ?_)
                    refine wN_g rfl (wN_len (m := n) rfl ?_)
                    refine wN_g rfl (wN_b_eql (a := (n : Int)) (b := (n : Int)) rfl rfl ?_)
                    intro t24 g24; cases t24
                    · have g24 : ¬ ((n : Int) = (n : Int)) := by simpa using g24
                      exfalso; omega
                    · have g24 : (n : Int) = (n : Int) := by simpa using g24
                      refine wN_pur (v := .bool true) rfl rfl ?_
                      refine wN_mov (v := .bool true) rfl ?_
                      refine wN_g rfl (wN_mov (v := .slice sa n cap) rfl ?_)
                      refine wN_g rfl (wN_mov (v := .slice (some ⟨bE, 0, none⟩) n n) rfl ?_)
                      obtain ⟨H14, fH14, kH14⟩ := late_ok (kn := kn) (lo := lo) (H := H13) (g := DN us (lrI us n - 1)) hs hl (by omega) (cE.sl (Nat.le_refl n))
                      rw [show lateG us (DN us (lrI us n - 1)) n = true from by
                        have q := hF.rate r3 (R := lrI us n - 1) (by omega)
                        have e : lateG us (DN us (lrI us n - 1)) n = lateU us (lrI us n - 1) us.length := by rw [hl]; rfl
                        rw [e, q, hl]; exact decide_eq_true (by omega)] at fH14
                      refine wN_g rfl (wN_callf (vs := [.slice sa n cap, slv bE n n]) rfl (callX_args fH14) ?_)
                      have mH14 := kH14.1
                      have hk := hk.trans kH14
                      have hs := kH14.sl0 hs
                      have cB := kH14.cl cB (by simp)
                      have cC := kH14.cl cC (by simp)
                      have cE := kH14.cl cE (by simp)
                      refine wN_pur (v := .bool true) rfl rfl ?_
                      refine wN_mov (v := .bool true) rfl ?_
                      refine wN_g rfl (wN_callf (vs := []) rfl (callX_known hkn) ?_)
                      refine wN_pur (v := .bool true) rfl rfl ?_
                      refine wN_mov (v := .bool true) rfl ?_
                      refine wN_end ?_
                      exact And.intro trivial (Exists.intro _ (And.intro rfl rfl))
                · have g21 : (n : Int) ≠ (n : Int) := by simpa using g21
                  exfalso; omega
              · have g19 : (lrI us n) > 17592186044416 := of_decide_eq_true g19
                exfalso; omega
            · have g18 : (lrI us n) < 1 := of_decide_eq_true g18
              exfalso; omega
          · rw [show ratV us = 0 from by unfold ratV; rw [if_neg zR]] at fH10
            refine wN_callf (vs := [.slice sa n cap]) rfl (callX_args fH10) ?_
            have hrn := ratE_n zR
            refine wN_mov (v := .tuple #[iv 0, iv (ratE us)]) rfl ?_
            refine wN_pur (v := iv 0) rfl (by kernel_rfl) ?_
            refine wN_pur (v := iv (ratE us)) rfl (by kernel_rfl) ?_
            refine wN_mov (v := iv 0) rfl ?_
            refine wN_mov (v := iv (ratE us)) rfl ?_
            refine wN_end ?_
            refine wN_seq ?_
            refine wN_mov (v := iv (ratE us)) rfl ?_
            refine wN_c_neq (a := (ratE us)) (b := 0) rfl rfl ?_
            refine wN_end ?_
            refine And.intro (fun q25 => ?_) (fun q25 => ?_)
            · have q25 : (ratE us) ≠ 0 := by simpa using q25
              refine wN_seq ?_
              refine wN_mov (v := iv 0) rfl ?_
              refine wN_b_eql (a := 0) (b := 0) rfl rfl ?_
              intro t26 g26; obtain rfl : t26 = true := by rw [← g26]; rfl
              refine wN_mov (v := .bool true) rfl ?_
              refine wN_g rfl (wN_mov (v := iv (ratE us)) rfl ?_)
              refine wN_g rfl (wN_b_neq (a := (ratE us)) (b := 4) rfl rfl ?_)
              intro t27 g27; cases t27
              · have g27 : ¬ ((ratE us) ≠ 4) := by simpa using g27
                refine wN_g rfl (wN_mov (v := .bool false) rfl ?_)
                refine wN_g rfl (wN_mov (v := .slice sa n cap) rfl ?_)
                obtain ⟨H15, fH15, kH15⟩ := freezes_ok (kn := kn) (lo := lo) (H := H10) hs hl (by omega) (by omega)
                rw [show us.all Fz.ok = true from by rcases hrn with q | q | ⟨_, q⟩ <;> first | exact q | (exfalso; omega)] at fH15
                refine wN_g rfl (wN_callf (vs := [.slice sa n cap]) rfl (callX_args fH15) ?_)
                have mH15 := kH15.1
                have hk := hk.trans kH15
                have hs := kH15.sl0 hs
                have cB := kH15.cl cB (by simp)
                refine wN_g rfl (wN_pur (v := .bool true) rfl rfl ?_)
                refine wN_pur (v := .bool true) rfl rfl ?_
                refine wN_mov (v := .bool true) rfl ?_
                refine wN_g rfl (wN_callf (vs := []) rfl (callX_known hkn) ?_)
                refine wN_pur (v := .bool true) rfl rfl ?_
                refine wN_mov (v := .bool true) rfl ?_
                refine wN_end ?_
                exact And.intro trivial (Exists.intro _ (And.intro rfl rfl))
              · have g27 : (ratE us) ≠ 4 := by simpa using g27
                refine wN_g rfl (wN_mov (v := .bool true) rfl ?_)
                refine wN_gs rfl ?_
                refine wN_gs rfl ?_
                refine wN_g rfl (wN_pur (v := .bool true) rfl rfl ?_)
                refine wN_pur (v := .bool true) rfl rfl ?_
                refine wN_mov (v := .bool true) rfl ?_
                refine wN_g rfl (wN_callf (vs := []) rfl (callX_known hkn) ?_)
                refine wN_pur (v := .bool true) rfl rfl ?_
                refine wN_mov (v := .bool true) rfl ?_
                refine wN_end ?_
                exact And.intro trivial (Exists.intro _ (And.intro rfl rfl))
            · have q25 : ¬ ((ratE us) ≠ 0) := by simpa using q25
              exfalso; exact zR (by omega)
      · obtain ⟨H9, fH9, kH9⟩ := frozen28_no (kn := kn) (lo := lo) (H := H1) (R := (min 17592186044416 ww)) hs hl (by omega) (by omega) zB
        refine wN_callf (vs := [.slice sa n cap, iv (min 17592186044416 ww)]) rfl (callX_args fH9) ?_
        have mH9 := kH9.1
        have hk := hk.trans kH9
        have hs := kH9.sl0 hs
        refine wN_mov (v := .tuple #[.slice none 0 0, iv (frzE us (min 17592186044416 ww))]) rfl ?_
        refine wN_pur (v := .slice none 0 0) rfl (by kernel_rfl) ?_
        refine wN_pur (v := iv (frzE us (min 17592186044416 ww))) rfl (by kernel_rfl) ?_
        refine wN_mov (v := .slice none 0 0) rfl ?_
        refine wN_mov (v := iv (frzE us (min 17592186044416 ww))) rfl ?_
        refine wN_end ?_
        refine wN_seq ?_
        refine wN_mov (v := iv (frzE us R)) rfl ?_
        refine wN_c_eql (a := (frzE us R)) (b := 0) rfl rfl ?_
        refine wN_end ?_
        refine And.intro (fun q28 => ?_) (fun q28 => ?_)
        · have q28 : (frzE us R) = 0 := by simpa using q28
          exfalso; exact zA (by omega)
        · have q28 : ¬ ((frzE us R) = 0) := by simpa using q28
          first | refine wN_skip ?_ | skip
          refine wN_seq ?_
          refine wN_mov (v := .slice sa n cap) rfl ?_
          obtain ⟨H16, fH16, kH16⟩ := rate30_ok (kn := kn) (lo := lo) (H := H9) hs hl (by omega) (by omega)
          have mH16 := kH16.1
          have hk := hk.trans kH16
          have hs := kH16.sl0 hs
          by_cases zR : ratE us = 0
          · obtain ⟨r1, r2, r3⟩ := ratE_0 zR
            rw [show ratV us = lrI us n from by unfold ratV; rw [if_pos zR, hl], zR] at fH16
            have hF := FzOk.of r2
            have hN1 := lr_one us n
            have hN2 := lr_in hF r1 n
            refine wN_callf (vs := [.slice sa n cap]) rfl (callX_args fH16) ?_
            refine wN_mov (v := .tuple #[iv (lrI us n), iv 0]) rfl ?_
            refine wN_pur (v := iv (lrI us n)) rfl (by kernel_rfl) ?_
            refine wN_pur (v := iv 0) rfl (by kernel_rfl) ?_
            refine wN_mov (v := iv (lrI us n)) rfl ?_
            refine wN_mov (v := iv 0) rfl ?_
            refine wN_end ?_
            refine wN_seq ?_
            refine wN_mov (v := iv 0) rfl ?_
            refine wN_c_neq (a := 0) (b := 0) rfl rfl ?_
            refine wN_end ?_
            refine condF ?_
            first | refine wN_skip ?_ | skip
            refine wN_seq ?_
            refine wN_mov (v := iv (lrI us n)) rfl ?_
            refine wN_b_lss (a := (lrI us n)) (b := 1) rfl rfl ?_
            intro t29 g29; cases t29
            · have g29 : ¬ ((lrI us n) < 1) := of_decide_eq_false g29
              refine wN_mov (v := .bool false) rfl ?_
              refine wN_g rfl (wN_mov (v := iv (lrI us n)) rfl ?_)
              refine wN_g rfl (wN_b_gtr (a := (lrI us n)) (b := 17592186044416) rfl rfl ?_)
              intro t30 g30; cases t30
              · have g30 : ¬ ((lrI us n) > 17592186044416) := of_decide_eq_false g30
                refine wN_pur (v := .bool false) rfl rfl ?_
                refine wN_end ?_
                refine condF ?_
                first | refine wN_skip ?_ | skip
                refine wN_seq ?_
                refine wN_mov (v := .slice sa n cap) rfl ?_
                refine wN_mov (v := iv (lrI us n)) rfl ?_
                have zC : frzE us (lrI us n) = 0 := frzE_of r1 r2 ⟨hN1, hN2⟩
                obtain ⟨bC, H17, fH17, kH17, lbC, cC⟩ := frozen28_ok (kn := kn) (lo := lo) (H := H16) (R := (lrI us n)) hs hl (by omega) (by omega) zC
                refine wN_callf (vs := [.slice sa n cap, iv (lrI us n)]) rfl (callX_args fH17) ?_
                have mH17 := kH17.1
                have hk := hk.trans kH17
                have hs := kH17.sl0 hs
                have ltC := cC.lt
                refine wN_mov (v := .tuple #[.slice (some ⟨bC, 0, none⟩) n n, iv 0]) rfl ?_
                refine wN_pur (v := .slice (some ⟨bC, 0, none⟩) n n) rfl (by kernel_rfl) ?_
                refine wN_pur (v := iv 0) rfl (by kernel_rfl) ?_
                refine wN_mov (v := .slice (some ⟨bC, 0, none⟩) n n) rfl ?_
                refine wN_mov (v := iv 0) rfl ?_
                refine wN_end ?_
                refine wN_seq ?_
                refine wN_mov (v := iv 0) rfl ?_
                refine wN_b_neq (a := 0) (b := 0) rfl rfl ?_
                intro t31 g31; obtain rfl : t31 = false := by rw [← g31]; rfl
                refine wN_mov (v := .bool false) rfl ?_
                refine wN_g rfl (wN_mov (v := .slice (some ⟨bC, 0, none⟩) n n) rfl ?_)
                refine wN_g rfl (wN_len (m := n) rfl ?_)
                refine wN_g rfl (wN_mov (v := .slice sa n cap) rfl ?_)
                refine wN_g rfl (wN_len (m := n) rfl ?_)
                refine wN_g rfl (wN_b_neq (a := (n : Int)) (b := (n : Int)) rfl rfl ?_)
                intro t32 g32; cases t32
                · have g32 : ¬ ((n : Int) ≠ (n : Int)) := by simpa using g32
                  refine wN_pur (v := .bool false) rfl rfl ?_
                  refine wN_mov (v := .bool false) rfl ?_
                  refine wN_g rfl (wN_mov (v := .slice sa n cap) rfl ?_)
                  refine wN_g rfl (wN_mov (v := .slice (some ⟨bC, 0, none⟩) n n) rfl ?_)
                  obtain ⟨H18, fH18, kH18⟩ := late_ok (kn := kn) (lo := lo) (H := H17) (g := DN us (lrI us n)) hs hl (by omega) (cC.sl (Nat.le_refl n))
                  rw [show lateG us (DN us (lrI us n)) n = false from by
                    have q := hF.rate r3 (R := lrI us n) (by omega)
                    have e : lateG us (DN us (lrI us n)) n = lateU us (lrI us n) us.length := by rw [hl]; rfl
                    rw [e, q, hl]; exact decide_eq_false (by omega)] at fH18
                  refine wN_g rfl (wN_callf (vs := [.slice sa n cap, slv bC n n]) rfl (callX_args fH18) ?_)
                  have mH18 := kH18.1
                  have hk := hk.trans kH18
                  have hs := kH18.sl0 hs
                  have cC := kH18.cl cC (by simp)
                  refine wN_pur (v := .bool false) rfl rfl ?_
                  refine wN_end ?_
                  refine condF ?_
                  first | refine wN_skip ?_ | skip
                  refine wN_seq ?_
                  refine wN_mov (v := iv (lrI us n)) rfl ?_
                  refine wN_c_eql (a := (lrI us n)) (b := 1) rfl rfl ?_
                  refine wN_end ?_
                  refine And.intro (fun q33 => ?_) (fun q33 => ?_)
                  · have q33 : (lrI us n) = 1 := by simpa using q33
                    refine wN_seq ?_
                    refine wN_callf (vs := []) rfl (callX_known hkn) ?_
                    refine wN_mov (v := .bool true) rfl ?_
                    refine wN_end ?_
                    exact And.intro trivial (Exists.intro _ (And.intro rfl rfl))
                  · have q33 : ¬ ((lrI us n) = 1) := by simpa using q33
                    first | refine wN_skip ?_ | skip
                    refine wN_seq ?_
                    refine wN_mov (v := .slice sa n cap) rfl ?_
                    refine wN_mov (v := iv (lrI us n)) rfl ?_
                    refine wN_sub (a := (lrI us n)) (b := 1) rfl rfl ⟨by omega, by omega⟩ ?_
                    have zE : frzE us (lrI us n - 1) = 0 := frzE_of r1 r2 (by omega)
                    obtain ⟨bE, H19, fH19, kH19, lbE, cE⟩ := frozen28_ok (kn := kn) (lo := lo) (H := H18) (R := (lrI us n - 1)) hs hl (by omega) (by omega) zE
                    refine wN_callf (vs := [.slice sa n cap, iv (lrI us n - 1)]) rfl (callX_args fH19) ?_
                    have mH19 := kH19.1
                    have hk := hk.trans kH19
                    have hs := kH19.sl0 hs
                    have cC := kH19.cl cC (by simp)
                    have ltE := cE.lt
                    refine wN_mov (v := .tuple #[.slice (some ⟨bE, 0, none⟩) n n, iv 0]) rfl ?_
                    refine wN_pur (v := .slice (some ⟨bE, 0, none⟩) n n) rfl (by kernel_rfl) ?_
                    refine wN_pur (v := iv 0) rfl (by kernel_rfl) ?_
                    refine wN_mov (v := .slice (some ⟨bE, 0, none⟩) n n) rfl ?_
                    refine wN_mov (v := iv 0) rfl ?_
                    refine wN_end ?_
                    refine wN_seq ?_
                    refine wN_mov (v := iv 0) rfl ?_
                    refine wN_b_eql (a := 0) (b := 0) rfl rfl ?_
                    intro t34 g34; obtain rfl : t34 = true := by rw [← g34]; rfl
                    refine wN_mov (v := .bool true) rfl ?_
                    refine wN_g rfl (wN_mov (v := .slice (some ⟨bE, 0, none⟩) n n) rfl ?_)
                    refine wN_g rfl (wN_len (m := n) rfl ?_)
                    refine wN_g rfl (wN_mov (v := .slice sa n cap) rfl ?_)
                    refine wN_g rfl (wN_len (m := n) rfl ?_)
                    refine wN_g rfl (wN_b_eql (a := (n : Int)) (b := (n : Int)) rfl rfl ?_)
                    intro t35 g35; cases t35
                    · have g35 : ¬ ((n : Int) = (n : Int)) := by simpa using g35
                      exfalso; omega
                    · have g35 : (n : Int) = (n : Int) := by simpa using g35
                      refine wN_pur (v := .bool true) rfl rfl ?_
                      refine wN_mov (v := .bool true) rfl ?_
                      refine wN_g rfl (wN_mov (v := .slice sa n cap) rfl ?_)
                      refine wN_g rfl (wN_mov (v := .slice (some ⟨bE, 0, none⟩) n n) rfl ?_)
                      obtain ⟨H20, fH20, kH20⟩ := late_ok (kn := kn) (lo := lo) (H := H19) (g := DN us (lrI us n - 1)) hs hl (by omega) (cE.sl (Nat.le_refl n))
                      rw [show lateG us (DN us (lrI us n - 1)) n = true from by
                        have q := hF.rate r3 (R := lrI us n - 1) (by omega)
                        have e : lateG us (DN us (lrI us n - 1)) n = lateU us (lrI us n - 1) us.length := by rw [hl]; rfl
                        rw [e, q, hl]; exact decide_eq_true (by omega)] at fH20
                      refine wN_g rfl (wN_callf (vs := [.slice sa n cap, slv bE n n]) rfl (callX_args fH20) ?_)
                      have mH20 := kH20.1
                      have hk := hk.trans kH20
                      have hs := kH20.sl0 hs
                      have cC := kH20.cl cC (by simp)
                      have cE := kH20.cl cE (by simp)
                      refine wN_pur (v := .bool true) rfl rfl ?_
                      refine wN_mov (v := .bool true) rfl ?_
                      refine wN_g rfl (wN_callf (vs := []) rfl (callX_known hkn) ?_)
                      refine wN_pur (v := .bool true) rfl rfl ?_
                      refine wN_mov (v := .bool true) rfl ?_
                      refine wN_end ?_
                      exact And.intro trivial (Exists.intro _ (And.intro rfl rfl))
                · have g32 : (n : Int) ≠ (n : Int) := by simpa using g32
                  exfalso; omega
              · have g30 : (lrI us n) > 17592186044416 := of_decide_eq_true g30
                exfalso; omega
            · have g29 : (lrI us n) < 1 := of_decide_eq_true g29
              exfalso; omega
          · rw [show ratV us = 0 from by unfold ratV; rw [if_neg zR]] at fH16
            refine wN_callf (vs := [.slice sa n cap]) rfl (callX_args fH16) ?_
            have hrn := ratE_n zR
            refine wN_mov (v := .tuple #[iv 0, iv (ratE us)]) rfl ?_
            refine wN_pur (v := iv 0) rfl (by kernel_rfl) ?_
            refine wN_pur (v := iv (ratE us)) rfl (by kernel_rfl) ?_
            refine wN_mov (v := iv 0) rfl ?_
            refine wN_mov (v := iv (ratE us)) rfl ?_
            refine wN_end ?_
            refine wN_seq ?_
            refine wN_mov (v := iv (ratE us)) rfl ?_
            refine wN_c_neq (a := (ratE us)) (b := 0) rfl rfl ?_
            refine wN_end ?_
            refine And.intro (fun q36 => ?_) (fun q36 => ?_)
            · have q36 : (ratE us) ≠ 0 := by simpa using q36
              refine wN_seq ?_
              refine wN_mov (v := iv 0) rfl ?_
              refine wN_b_eql (a := 0) (b := 0) rfl rfl ?_
              intro t37 g37; obtain rfl : t37 = true := by rw [← g37]; rfl
              refine wN_mov (v := .bool true) rfl ?_
              refine wN_g rfl (wN_mov (v := iv (ratE us)) rfl ?_)
              refine wN_g rfl (wN_b_neq (a := (ratE us)) (b := 4) rfl rfl ?_)
              intro t38 g38; cases t38
              · have g38 : ¬ ((ratE us) ≠ 4) := by simpa using g38
                refine wN_g rfl (wN_mov (v := .bool false) rfl ?_)
                refine wN_g rfl (wN_mov (v := .slice sa n cap) rfl ?_)
                obtain ⟨H21, fH21, kH21⟩ := freezes_ok (kn := kn) (lo := lo) (H := H16) hs hl (by omega) (by omega)
                rw [show us.all Fz.ok = true from by rcases hrn with q | q | ⟨_, q⟩ <;> first | exact q | (exfalso; omega)] at fH21
                refine wN_g rfl (wN_callf (vs := [.slice sa n cap]) rfl (callX_args fH21) ?_)
                have mH21 := kH21.1
                have hk := hk.trans kH21
                have hs := kH21.sl0 hs
                refine wN_g rfl (wN_pur (v := .bool true) rfl rfl ?_)
                refine wN_pur (v := .bool true) rfl rfl ?_
                refine wN_mov (v := .bool true) rfl ?_
                refine wN_g rfl (wN_callf (vs := []) rfl (callX_known hkn) ?_)
                refine wN_pur (v := .bool true) rfl rfl ?_
                refine wN_mov (v := .bool true) rfl ?_
                refine wN_end ?_
                exact And.intro trivial (Exists.intro _ (And.intro rfl rfl))
              · have g38 : (ratE us) ≠ 4 := by simpa using g38
                refine wN_g rfl (wN_mov (v := .bool true) rfl ?_)
                refine wN_gs rfl ?_
                refine wN_gs rfl ?_
                refine wN_g rfl (wN_pur (v := .bool true) rfl rfl ?_)
                refine wN_pur (v := .bool true) rfl rfl ?_
                refine wN_mov (v := .bool true) rfl ?_
                refine wN_g rfl (wN_callf (vs := []) rfl (callX_known hkn) ?_)
                refine wN_pur (v := .bool true) rfl rfl ?_
                refine wN_mov (v := .bool true) rfl ?_
                refine wN_end ?_
                exact And.intro trivial (Exists.intro _ (And.intro rfl rfl))
            · have q36 : ¬ ((ratE us) ≠ 0) := by simpa using q36
              exfalso; exact zR (by omega)
end
end Go.Ax

namespace Go.Ax
open Go Go.RowKit Go.Proofs Go.ChangeShapes Go.WideShapes Go.Deep

/-- A type whose cells are whole numbers. -/
def IntT (P : Program) (t : TypeId) : Prop := ∀ (H : Type) (enc : TypeId × Value → H) (w : World) (base : Nat) (spare : Nat → Bool) (held : Bool) (fuel : Nat) (cs : List Value) (x : DataW H × List MemPlace),
  DataW.trod enc P w base spare held fuel t cs = some x → cs.length = P.cellsOf t ∧ ∀ j, j < cs.length → ∃ n, cs[j]? = some (.int .i64 n)
theorem IntT.int {P : Program} {t : TypeId} (ht : P.underlying t = some (.int .i64)) (hc : P.cellsOf t = 1) : IntT P t := by
  intro H enc w base spare held fuel cs x h
  obtain ⟨n, rfl, _⟩ := DataW.trod_int ht h
  refine ⟨by rw [hc]; rfl, fun j hj => ⟨n, ?_⟩⟩
  have : j = 0 := by simp at hj; omega
  subst this; rfl
theorem IntT.struct {P : Program} {t : TypeId} {fs : Array Field} (ht : P.underlying t = some (.struct fs)) (hf : ∀ f ∈ fs.toList, IntT P f.type)
    (hcov : ((List.range (P.cellsOf t)).all fun j => fs.toList.any fun f => decide (f.offset ≤ j) && decide (j < f.offset + P.cellsOf f.type)) = true) : IntT P t := by
  intro H enc w base spare held fuel cs x h
  obtain ⟨xs, n, _, _, hlen, hxl, hg⟩ := DataW.trod_struct ht h
  refine ⟨hlen, fun j hj => ?_⟩
  have h1 := List.all_eq_true.1 hcov j (List.mem_range.2 (by omega))
  obtain ⟨f, hfm, h2⟩ := List.any_eq_true.1 h1
  simp only [Bool.and_eq_true, decide_eq_true_eq] at h2
  obtain ⟨i, hi, hfi⟩ := List.getElem_of_mem hfm
  have hfs : fs[i]? = some f := by
    rw [← Array.getElem?_toList, List.getElem?_eq_getElem hi, hfi]
  have hi2 : i < xs.length := by simpa [hxl] using hi
  have h3 := hg i f hfs
  rw [List.getElem?_eq_getElem hi2] at h3
  obtain ⟨h4, h5⟩ := hf f hfm _ _ _ _ _ _ _ _ _ h3
  obtain ⟨m, hm⟩ := h5 (j - f.offset) (by omega)
  refine ⟨m, ?_⟩
  rw [List.getElem?_take] at hm
  split at hm
  · rw [List.getElem?_drop, show f.offset + (j - f.offset) = j by omega] at hm; exact hm
  · cases hm

/-- A slice of rows of whole numbers, as it is given. -/
structure Given {α : Type} (w : World) (v : Value) (f : α → List Value) (l : List α) (x : Imp) : Prop where
  ok : ∀ (i : Nat) u, x.cs[i]? = some u → w.cell? ⟨x.blk, x.off + i, none⟩ = some u ∧ flat1 u = true
  cs : x.cs = l.flatMap f
  v : (v = .slice none 0 0 ∧ l = []) ∨ ∃ cap, v = .slice (some ⟨x.blk, x.off, none⟩) l.length cap ∧ l.length ≤ cap
theorem flat_get {α : Type} {f : α → List Value} {k : Nat} (hk : 0 < k) : ∀ {l : List α} (_ : ∀ x ∈ l, (f x).length = k) (i : Nat) (u : Value), (l.flatMap f)[i]? = some u → ∃ x, l[i / k]? = some x ∧ (f x)[i % k]? = some u
  | [], _, i, u, h => by simp at h
  | y :: r, hl, i, u, h => by
    have hy := hl y (List.mem_cons_self ..)
    rw [List.flatMap_cons, List.getElem?_append] at h
    split at h
    · rename_i q
      rw [hy] at q
      refine ⟨y, ?_, ?_⟩
      · rw [Nat.div_eq_of_lt q]; rfl
      · rw [Nat.mod_eq_of_lt q]; exact h
    · rename_i q
      rw [hy] at q h
      obtain ⟨x, h1, h2⟩ := flat_get hk (fun x hx => hl x (List.mem_cons_of_mem _ hx)) _ u h
      refine ⟨x, ?_, ?_⟩
      · rw [Nat.div_eq_sub_div hk (by omega)]; exact h1
      · rw [Nat.mod_eq_sub_mod (by omega)]; exact h2
theorem slice_given {H : Type} {enc : TypeId × Value → H} {P : Program} {w : World} {base b0 : Nat} {r : Reach} {held : Bool} {α : Type} (f : α → List Value) (mk : (Nat → Int) → α) (k : Nat) {t e : TypeId} {fuel : Nat} {v : Value} {x : DataW H × List MemPlace}
    (ht : P.underlying t = some (.slice e)) (hI : IntT P e) (hc : P.cellsOf e = k) (hk : 0 < k) (hmk : ∀ N : Nat → Int, f (mk N) = (List.range k).map fun j => Value.int .i64 (N j))
    (hok : Cell.okWide P w r b0 t v) (h : DataW.trod enc P w base (fun _ => true) held fuel t [v] = some x) : ∃ (l : List α) (y : Imp), Given w v f l y := by
  rcases open_slice ht h with ⟨h0, _⟩ | ⟨a, len, cap, m, n, D, Pl, hcs, hb, hl, hm, hmm, hx, hi⟩
  · cases h0
    exact ⟨[], ⟨0, 0, []⟩, fun i u e => by simp at e, rfl, .inl ⟨rfl, rfl⟩⟩
  · cases hcs
    obtain ⟨blk, off, spot⟩ := a
    have hs : spot = none := by
      unfold Cell.okWide at hok
      rw [ht] at hok
      unfold Cell.ok at hok
      simp only [ht] at hok
      exact hok.2.2.2.1
    subst hs
    simp only [if_true] at hmm
    subst hmm
    have hcell : ∀ i, i < len → ∀ j, j < k → ∃ n, w.cell? ⟨blk, off + (i * k + j), none⟩ = some (.int .i64 n) := by
      intro i hil j hj
      obtain ⟨cs', h1, h2⟩ := hi i (by omega)
      obtain ⟨h3, h4⟩ := hI _ _ _ _ _ _ _ _ _ h2
      obtain ⟨_, h5, h6⟩ := World.cells?_some h1
      obtain ⟨n, hn⟩ := h4 j (by omega)
      refine ⟨n, ?_⟩
      have h7 := h6 j (by omega)
      rw [hn, hc, add_add] at h7
      have e : (⟨blk, off, none⟩ : Addr).add (i * k + j) = ⟨blk, off + (i * k + j), none⟩ := by
        unfold Addr.add
        by_cases q : i * k + j = 0
        · simp [q]
        · simp
      rw [e] at h7
      exact h7
    refine ⟨(List.range len).map fun i => mk fun j => match w.cell? ⟨blk, off + (i * k + j), none⟩ with | some (.int _ n) => n | _ => 0, ⟨blk, off, _⟩, ?_, rfl, .inr ⟨m, by simp, by simpa using hl⟩⟩
    intro i u hu
    obtain ⟨y, h1, h2⟩ := flat_get hk (fun y hy => by
      obtain ⟨i, _, rfl⟩ := List.mem_map.1 hy
      rw [hmk]; simp) i u hu
    have hlt : i / k < len := by
      have := get_lt h1
      simpa using this
    rw [List.getElem?_map, List.getElem?_range hlt] at h1
    simp only [Option.map_some, Option.some.injEq] at h1
    subst h1
    have hj : i % k < k := Nat.mod_lt _ hk
    rw [hmk, List.getElem?_map, List.getElem?_range hj] at h2
    simp only [Option.map_some, Option.some.injEq] at h2
    obtain ⟨n, hn⟩ := hcell _ hlt _ hj
    rw [hn] at h2
    subst h2
    rw [Nat.div_add_mod' ] at hn
    exact ⟨hn, rfl⟩
theorem Given.rel {α : Type} {w : World} {v : Value} {f : α → List Value} {l : List α} {x : Imp} (g : Given w v f l x) {r : Ren} {H : Hp} {b : Nat} (hr : r b = some ⟨x.blk, x.off, none⟩) (hb : b < H.next) (hc : cellsOf H b = some x.cs) (hro : H.t.get b = some (.ro x.cs)) :
    ∃ a cap, VR r (.slice a l.length cap) v ∧ Sl H a l.length cap (l.flatMap f) ∧ ∀ b, a = some ⟨b, 0, none⟩ → H.t.get b = some (.ro (l.flatMap f)) := by
  rcases g.v with ⟨rfl, rfl⟩ | ⟨cap, rfl, hl⟩
  · exact ⟨none, 0, .nilSlice, .inl ⟨.inl rfl, rfl, rfl, rfl⟩, fun b e => by cases e⟩
  · refine ⟨some ⟨b, 0, none⟩, cap, ?_, .inr ⟨b, rfl, ⟨hb, by rw [hc, g.cs]⟩, hl⟩, fun b' e => by cases e; rw [hro, g.cs]⟩
    have := VR.slice (o := 0) (n := l.length) (c := cap) hr rfl hl
    simpa using this
end Go.Ax

/-! Slices of rows of plain cells, as arguments. -/
namespace Go.Ax
open Go Go.RowKit Go.Proofs Go.ChangeShapes Go.WideShapes Go.Deep

theorem IntT.row {α : Type} {P : Program} {t : TypeId} {k : Nat} {f : α → List Value} {mk : (Nat → Int) → α} (h : IntT P t) (hc : P.cellsOf t = k) (hmk : ∀ N : Nat → Int, f (mk N) = (List.range k).map fun j => Value.int .i64 (N j))
    {H : Type} {enc : TypeId × Value → H} {w : World} {base : Nat} {spare : Nat → Bool} {held : Bool} (fuel : Nat) (cs : List Value) (x : DataW H × List MemPlace) (hx : DataW.trod enc P w base spare held fuel t cs = some x) : ∃ y : α, cs = f y ∧ True := by
  obtain ⟨h1, h2⟩ := h _ _ _ _ _ _ _ _ _ hx
  have : ∃ N : Nat → Int, ∀ j, j < cs.length → cs[j]? = some (.int .i64 (N j)) := by
    refine ⟨fun j => match cs[j]? with | some (.int _ n) => n | _ => 0, fun j hj => ?_⟩
    obtain ⟨n, hn⟩ := h2 j hj
    simp [hn]
  obtain ⟨N, hN⟩ := this
  refine ⟨mk N, ?_, trivial⟩
  rw [hmk]
  apply List.ext_getElem?
  intro j
  by_cases hj : j < k
  · rw [hN j (by omega), List.getElem?_map, List.getElem?_range hj]; rfl
  · rw [List.getElem?_eq_none (by omega), List.getElem?_eq_none (by simp; omega)]
end Go.Ax

/-! Arguments that point to what points: inner slices, rows of slices. -/
namespace Go.Ax
open Go Go.RowKit Go.Proofs Go.ChangeShapes Go.WideShapes Go.Deep

def renOf (imps : List Imp) : Ren := fun b => (imps[b]?).map fun x => ⟨x.blk, x.off, none⟩
theorem imports3 {P : Program} (imps outs : List Imp) (w : World) (h : ∀ x ∈ imps, ∀ (i : Nat) v, x.cs[i]? = some v → w.cell? ⟨x.blk, x.off + i, none⟩ = some v ∧ flat1 v = true)
    (hcs : ∀ x ∈ outs, ∀ (i : Nat) v, x.cs[i]? = some v → ∃ v', w.cell? ⟨x.blk, x.off + i, none⟩ = some v' ∧ VR (renOf imps) v v') :
    ∃ (r : Ren) (H : Hp), Rel P r w.heap.size H w ∧ H.next = (imps ++ outs).length ∧ (∀ b loc, r b = some loc → b < H.next) ∧ Ren.Le (renOf imps) r ∧ ∀ (b : Nat) x, (imps ++ outs)[b]? = some x → r b = some ⟨x.blk, x.off, none⟩ ∧ H.t.get b = some (.ro x.cs) := by
  have hall : ∀ x ∈ imps ++ outs, ∀ (i : Nat) v, x.cs[i]? = some v → ∃ v', w.cell? ⟨x.blk, x.off + i, none⟩ = some v' ∧ VR (renOf imps) v v' := by
    intro x hx i v hv
    rcases List.mem_append.1 hx with hx | hx
    · obtain ⟨h1, h2⟩ := h x hx i v hv
      exact ⟨v, h1, flat1_vr h2⟩
    · exact hcs x hx i v hv
  obtain ⟨t, ht⟩ := tr_of (fun b => ((imps ++ outs)[b]?).map fun x => .ro x.cs) (imps ++ outs).length
  have hle : Ren.Le (renOf imps) (fun b => ((imps ++ outs)[b]?).map fun x => ⟨x.blk, x.off, none⟩) := fun b loc e => by
    unfold renOf at e
    have hlt : b < imps.length := by
      rcases Nat.lt_or_ge b imps.length with q | q
      · exact q
      · rw [List.getElem?_eq_none q] at e; cases e
    show ((imps ++ outs)[b]?).map _ = _
    rw [List.getElem?_append_left hlt]; exact e
  have hr : ∀ (b : Nat) loc, ((imps ++ outs)[b]?).map (fun x => (⟨x.blk, x.off, none⟩ : Loc)) = some loc → ∃ x, (imps ++ outs)[b]? = some x ∧ b < (imps ++ outs).length ∧ loc = ⟨x.blk, x.off, none⟩ ∧ t.get b = some (.ro x.cs) := by
    intro b loc e
    cases hx : (imps ++ outs)[b]? with
    | none => rw [hx] at e; cases e
    | some x =>
      rw [hx] at e
      simp at e
      have hlt := get_lt hx
      exact ⟨x, rfl, hlt, e.symm, by rw [ht, if_pos hlt, hx]; rfl⟩
  have low : ∀ {g o : Nat} {v : Value}, w.cell? ⟨g, o, none⟩ = some v → g < w.heap.size := fun {g o v} hv => by
    unfold World.cell? at hv
    rcases Nat.lt_or_ge g w.heap.size with q | q
    · exact q
    · rw [Array.getElem?_eq_none q] at hv; cases hv
  refine ⟨fun b => ((imps ++ outs)[b]?).map fun x => ⟨x.blk, x.off, none⟩, { next := (imps ++ outs).length, t }, ⟨?_, ?_, ?_, Nat.le_refl _⟩, rfl, ?_, hle, ?_⟩
  · intro b loc e
    obtain ⟨x, hx, hlt, rfl, hg⟩ := hr b loc e
    refine ⟨hlt, ?_⟩
    show Dm _ _ _ (t.get b)
    rw [hg]
    cases hc : x.cs with
    | nil => exact .inl rfl
    | cons v l =>
      obtain ⟨v', h1, _⟩ := hall x (List.mem_of_getElem? hx) 0 v (by rw [hc]; rfl)
      exact .inr (low h1)
  · intro b loc o e eo
    obtain ⟨x, hx, hlt, rfl, hg⟩ := hr b loc e
    rw [hg] at eo; cases eo
    refine ⟨rfl, fun i v ev => ?_⟩
    obtain ⟨v', h1, h2⟩ := hall x (List.mem_of_getElem? hx) i v ev
    unfold World.cell? at h1
    simp only at h1
    split at h1
    · rename_i C e' f hC
      exact ⟨C, e', f, v', hC, by simpa using h1, h2.mono hle⟩
    · cases h1
  · intro b b' loc loc' e e' _ hl _
    obtain ⟨x, hx, hlt, rfl, hg⟩ := hr b loc e
    obtain ⟨o, h1, h2, h3⟩ := hl
    have : t.get b = some o := h1
    rw [hg] at this; cases this
    cases h3
  · intro b loc e
    obtain ⟨x, hx, hlt, rfl, hg⟩ := hr b loc e
    exact hlt
  · intro b x hx
    have hlt := get_lt hx
    refine ⟨by simp only [hx, Option.map_some], ?_⟩
    show t.get b = _
    rw [ht, if_pos hlt, hx]; rfl

/-- An inner slice, as it is given: an empty one may have any address. -/
structure GivI {α : Type} (w : World) (v : Value) (f : α → List Value) (l : List α) (x : Imp) : Prop where
  ok : ∀ (i : Nat) u, x.cs[i]? = some u → w.cell? ⟨x.blk, x.off + i, none⟩ = some u ∧ flat1 u = true
  cs : x.cs = l.flatMap f
  v : ((v = .slice none 0 0 ∨ ∃ a', v = .slice (some a') 0 0) ∧ l = []) ∨ ∃ cap, v = .slice (some ⟨x.blk, x.off, none⟩) l.length cap ∧ l.length ≤ cap
theorem GivI.rel {α : Type} {w : World} {v : Value} {f : α → List Value} {l : List α} {x : Imp} (g : GivI w v f l x) {r : Ren} {b : Nat} (hr : r b = some ⟨x.blk, x.off, none⟩) :
    ∃ a cap, VR r (.slice a l.length cap) v ∧ (∀ y, a = some ⟨y, 0, none⟩ → y = b) ∧ ∀ H : Hp, b < H.next → H.t.get b = some (.ro x.cs) → Sl H a l.length cap (l.flatMap f) := by
  rcases g.v with ⟨rfl | ⟨a', rfl⟩, rfl⟩ | ⟨cap, rfl, hl⟩
  · exact ⟨none, 0, .nilSlice, fun y e => by (cases e), fun H _ _ => .inl ⟨.inl rfl, rfl, rfl, rfl⟩⟩
  · exact ⟨some ⟨0, 0, some 0⟩, 0, .weird, fun y e => by (cases e), fun H _ _ => .inl ⟨.inr rfl, rfl, rfl, rfl⟩⟩
  · refine ⟨some ⟨b, 0, none⟩, cap, ?_, fun y e => by (cases e; rfl), fun H hb hc => .inr ⟨b, rfl, ⟨hb, by unfold cellsOf; rw [hc, g.cs]⟩, hl⟩⟩
    have := VR.slice (o := 0) (n := l.length) (c := cap) hr rfl hl
    simpa using this
structure RV where
  rv : Value
  l : List Int
  x : Imp
def RV.f (r : RV) : List Value := [r.rv]
def RV.Q (w : World) (r : RV) : Prop := GivI w r.rv (fun n : Int => [iv n]) r.l r.x
end Go.Ax

/-! Machines and what is flat as arguments. -/
namespace Go.Ax
open Go Go.RowKit Go.Proofs Go.ChangeShapes Go.WideShapes Go.Deep

/-- A machine, as it is given. -/
structure MV where
  rv : Value
  l : List Ou
  x : Imp
def MV.f (r : MV) : List Value := [r.rv]
def MV.Q (w : World) (r : MV) : Prop := GivI w r.rv Ou.f r.l r.x
theorem imports_flat {P : Program} (pre : List Imp) {w : World} (h : ∀ x ∈ pre, ∀ (i : Nat) v, x.cs[i]? = some v → w.cell? ⟨x.blk, x.off + i, none⟩ = some v ∧ flat1 v = true) :
    ∃ (r : Ren) (H : Hp), Rel P r w.heap.size H w ∧ (∀ b loc, r b = some loc → b < H.next) ∧ (∀ (b : Nat) x, pre[b]? = some x → b < H.next ∧ r b = some ⟨x.blk, x.off, none⟩ ∧ H.t.get b = some (.ro x.cs)) := by
  obtain ⟨r, H, h1, h2, h3, h4, h5⟩ := imports3 (P := P) pre [] w h (fun x hx => by simp at hx)
  refine ⟨r, H, h1, h3, fun b x hx => ?_⟩
  have := get_lt hx
  obtain ⟨a, c⟩ := h5 b x (by simpa using hx)
  exact ⟨by rw [h2]; simpa using this, a, c⟩
end Go.Ax


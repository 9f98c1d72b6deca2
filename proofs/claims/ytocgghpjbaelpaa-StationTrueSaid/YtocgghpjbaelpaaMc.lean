import Derived.Test.YtocgghpjbaelpaaMb
import Derived.Test.YtocgghpjbaelpaaAxW9
import Derived.Test.YtocgghpjbaelpaaChecked
import Derived.Test.YtocgghpjbaelpaaRows
import Derived.Test.YtocgghpjbaelpaaAxO
import Derived.Deep.Slices
import Derived.Deep.Fields
import Derived.ChangeSame
set_option linter.all false
/-
  Station: Weigh, and the document's (written by program).
-/
namespace Go.Ax
open Go Go.RowKit Go.Proofs

/-- a function that tells a number of a sample -/
def NumF (g : FuncId) (p : Sm → Int) : Prop := ∀ (kn : FuncId → Option Bool) (lo : Nat) (H : Hp) (x : Sm), x.ok = true → ∃ H', FnX Try.prog kn lo g [.agg x.f.toArray] H (iv (p x)) H' ∧ Keep H H' []
theorem num48 : NumF 48 fW := by
  intro kn lo H x hx
  have key := fnX_low (kn := kn) (lo := lo) (H := H) (args := [.agg x.f.toArray]) (Q := fun w H' => w = iv (fW x) ∧ Keep H H' []) Try.func48 B48 N48 Z48 L48 (by simp) ?_
  · obtain ⟨w, H', h, rfl, q⟩ := key; exact ⟨H', h, q⟩
  have hk := Keep.refl H []
  refine wN_seq ?_
  refine wN_box (v := .agg x.f.toArray) rfl ?_
  intro H1 kH1 nH1 c1
  have c1 : Cl H1 H.next [iv x.w, iv x.t, iv x.r, iv x.c, iv x.m] := c1
  have mH1 := kH1.1
  have hk := hk.trans kH1
  refine wN_mov (v := iv 0) rfl ?_
  refine wN_end ?_
  refine wN_seq ?_
  refine wN_addo (b := H.next) (o := 0) rfl ?_
  refine wN_ld (b := H.next) (o := 0) (v := iv x.w) rfl c1.rd rfl ?_
  refine wN_mov (v := iv x.w) rfl ?_
  refine wN_end ?_
  exact And.intro trivial (Exists.intro _ (And.intro rfl ⟨rfl, hk⟩))
theorem num49 : NumF 49 fT := by
  intro kn lo H x hx
  have key := fnX_low (kn := kn) (lo := lo) (H := H) (args := [.agg x.f.toArray]) (Q := fun w H' => w = iv (fT x) ∧ Keep H H' []) Try.func49 B49 N49 Z49 L49 (by simp) ?_
  · obtain ⟨w, H', h, rfl, q⟩ := key; exact ⟨H', h, q⟩
  have hk := Keep.refl H []
  refine wN_seq ?_
  refine wN_box (v := .agg x.f.toArray) rfl ?_
  intro H1 kH1 nH1 c1
  have c1 : Cl H1 H.next [iv x.w, iv x.t, iv x.r, iv x.c, iv x.m] := c1
  have mH1 := kH1.1
  have hk := hk.trans kH1
  refine wN_mov (v := iv 0) rfl ?_
  refine wN_end ?_
  refine wN_seq ?_
  refine wN_addo (b := H.next) (o := 0) rfl ?_
  refine wN_ld (b := H.next) (o := 1) (v := iv x.t) rfl c1.rd rfl ?_
  refine wN_mov (v := iv x.t) rfl ?_
  refine wN_end ?_
  exact And.intro trivial (Exists.intro _ (And.intro rfl ⟨rfl, hk⟩))
theorem num50 : NumF 50 fR := by
  intro kn lo H x hx
  have key := fnX_low (kn := kn) (lo := lo) (H := H) (args := [.agg x.f.toArray]) (Q := fun w H' => w = iv (fR x) ∧ Keep H H' []) Try.func50 B50 N50 Z50 L50 (by simp) ?_
  · obtain ⟨w, H', h, rfl, q⟩ := key; exact ⟨H', h, q⟩
  have hk := Keep.refl H []
  refine wN_seq ?_
  refine wN_box (v := .agg x.f.toArray) rfl ?_
  intro H1 kH1 nH1 c1
  have c1 : Cl H1 H.next [iv x.w, iv x.t, iv x.r, iv x.c, iv x.m] := c1
  have mH1 := kH1.1
  have hk := hk.trans kH1
  refine wN_mov (v := iv 0) rfl ?_
  refine wN_end ?_
  refine wN_seq ?_
  refine wN_addo (b := H.next) (o := 0) rfl ?_
  refine wN_ld (b := H.next) (o := 2) (v := iv x.r) rfl c1.rd rfl ?_
  refine wN_mov (v := iv x.r) rfl ?_
  refine wN_end ?_
  exact And.intro trivial (Exists.intro _ (And.intro rfl ⟨rfl, hk⟩))
theorem num51 : NumF 51 fC := by
  intro kn lo H x hx
  have key := fnX_low (kn := kn) (lo := lo) (H := H) (args := [.agg x.f.toArray]) (Q := fun w H' => w = iv (fC x) ∧ Keep H H' []) Try.func51 B51 N51 Z51 L51 (by simp) ?_
  · obtain ⟨w, H', h, rfl, q⟩ := key; exact ⟨H', h, q⟩
  have hk := Keep.refl H []
  have hb := fC_in hx
  unfold fC at hb
  refine wN_seq ?_
  refine wN_box (v := .agg x.f.toArray) rfl ?_
  intro H1 kH1 nH1 c1
  have c1 : Cl H1 H.next [iv x.w, iv x.t, iv x.r, iv x.c, iv x.m] := c1
  have mH1 := kH1.1
  have hk := hk.trans kH1
  refine wN_mov (v := iv 0) rfl ?_
  refine wN_end ?_
  refine wN_seq ?_
  refine wN_addo (b := H.next) (o := 0) rfl ?_
  refine wN_ld (b := H.next) (o := 0) (v := iv x.w) rfl c1.rd rfl ?_
  refine wN_addo (b := H.next) (o := 0) rfl ?_
  refine wN_ld (b := H.next) (o := 3) (v := iv x.c) rfl c1.rd rfl ?_
  refine wN_mul (a := x.w) (b := x.c) rfl rfl ⟨by omega, by omega⟩ ?_
  refine wN_mov (v := iv (x.w * x.c)) rfl ?_
  refine wN_end ?_
  exact And.intro trivial (Exists.intro _ (And.intro rfl ⟨rfl, hk⟩))
theorem num52 : NumF 52 fF := by
  intro kn lo H x hx
  have key := fnX_low (kn := kn) (lo := lo) (H := H) (args := [.agg x.f.toArray]) (Q := fun w H' => w = iv (fF x) ∧ Keep H H' []) Try.func52 B52 N52 Z52 L52 (by simp) ?_
  · obtain ⟨w, H', h, rfl, q⟩ := key; exact ⟨H', h, q⟩
  have hk := Keep.refl H []
  have hb := fF_in hx
  unfold fF at hb
  refine wN_seq ?_
  refine wN_box (v := .agg x.f.toArray) rfl ?_
  intro H1 kH1 nH1 c1
  have c1 : Cl H1 H.next [iv x.w, iv x.t, iv x.r, iv x.c, iv x.m] := c1
  have mH1 := kH1.1
  have hk := hk.trans kH1
  refine wN_mov (v := iv 0) rfl ?_
  refine wN_end ?_
  refine wN_seq ?_
  refine wN_addo (b := H.next) (o := 0) rfl ?_
  refine wN_ld (b := H.next) (o := 0) (v := iv x.w) rfl c1.rd rfl ?_
  refine wN_addo (b := H.next) (o := 0) rfl ?_
  refine wN_ld (b := H.next) (o := 4) (v := iv x.m) rfl c1.rd rfl ?_
  refine wN_mul (a := x.w) (b := x.m) rfl rfl ⟨by omega, by omega⟩ ?_
  refine wN_mov (v := iv (x.w * x.m)) rfl ?_
  refine wN_end ?_
  exact And.intro trivial (Exists.intro _ (And.intro rfl ⟨rfl, hk⟩))
section
variable {kn : FuncId → Option Bool} {lo : Nat} {H : Hp}
/-- sum -/
theorem sum47_ok {g : FuncId} {p : Sm → Int} {B : Int} (hg : NumF g p) {sa : Option Addr} {n cap : Nat} {us : List Sm} (hs0 : Sl H sa n cap (smc us)) (hl : us.length = n) (hn : n ≤ 32) (hok : ∀ x ∈ us, x.ok = true) (hp : ∀ x ∈ us, 0 ≤ p x ∧ p x ≤ B) (hB : 0 ≤ B ∧ B ≤ 2000000000) (hlo : lo ≤ H.next) :
    ∃ H', FnX Try.prog kn lo 47 [.slice sa n cap, .func (.func g) #[] #[]] H (iv (sm p us)) H' ∧ Keep H H' [] := by
  have key := fnX_low (kn := kn) (lo := lo) (H := H) (args := [.slice sa n cap, .func (.func g) #[] #[]]) (Q := fun w H' => w = iv (sm p us) ∧ Keep H H' []) Try.func47 B47 N47 Z47 L47 (by simp) ?_
  · obtain ⟨w, H', h, rfl, q⟩ := key; exact ⟨H', h, q⟩
  have hk := Keep.refl H []
  have hs := hs0
  have hnB : us.length * B ≤ 32 * B := Int.mul_le_mul_of_nonneg_right (by omega) hB.1
  refine wN_seq ?_
  refine wN_mov (v := iv 0) rfl ?_
  refine wN_end ?_
  refine wN_seq ?_
  refine wN_mov (v := iv 0) rfl ?_
  refine wN_end ?_
  refine wN_seq ?_
  refine wN_mov (v := .slice sa n cap) rfl ?_
  refine wN_len (m := n) rfl ?_
  refine wN_mov (v := iv 0) rfl ?_
  refine wN_end ?_
  refine loop_low (fn := Try.f47) E47_1 N47 L47x1 (fun i : Nat => [(1, .func (.func g) #[] #[]), (5, iv (sm p (us.take i))), (8, .slice sa n cap), (9, iv (n : Int)), (10, iv (i : Int))])
    (fun k i H' => i + k = n ∧ Keep H H' []) n 0 ⟨by omega, Keep.refl _ _⟩ ⟨rfl, rfl, rfl, rfl, rfl, trivial⟩ ?_
  rintro k i L1 ⟨hik, hk⟩
  have hs := hk.sl0 hs0
  have mk0 := hk.1
  refine wN_seq ?_
  refine wN_c_lss (a := (i : Int)) (b := (n : Int)) rfl rfl ?_
  refine wN_end ?_
  refine And.intro (fun q1 => ?_) (fun q1 => ?_)
  · have q1 : (i : Int) < (n : Int) := of_decide_eq_true q1
    have hi : i < n := by omega
    obtain ⟨x, hx⟩ := get_some (l := us) (i := i) (by omega)
    rcases hs with ⟨_, h0, _⟩ | ⟨sb, rfl, rsb, _⟩
    · omega
    have lsb := rsb.lt
    have xo := hok x (List.mem_of_getElem? hx)
    have b1 := sm_take_in hp (by omega) i
    have b2 := hp x (List.mem_of_getElem? hx)
    first | refine wN_skip ?_ | skip
    refine wN_seq ?_
    refine wN_idx (b := sb) (o := 0) (k := i) (j := (i : Int)) rfl rfl rfl hi ?_
    refine wN_lda (b := sb) (o := 0 + i * 5) rfl rsb (smc_row hx) ?_
    refine wN_alc ?_
    intro H1 kH1 nH1 c1
    have c1 : Cl H1 L1.next [iv 0, iv 0, iv 0, iv 0, iv 0] := c1
    have mH1 := kH1.1
    have hk := hk.trans kH1
    have rsb := kH1.rd rsb (by simp)
    refine wN_sta (b := L1.next) (o := 0) rfl rfl c1 (by omega) rfl rfl (by simp) ?_
    intro H2 kH2 nH2 sH2
    have mH2 := kH2.1
    have hk := hk.new kH2 (fun b hb => by simp at hb ⊢; omega)
    have rsb := kH2.rd rsb (by first | (simp; done) | (simp; omega))
    have c1 : Cl H2 L1.next [iv x.w, iv x.t, iv x.r, iv x.c, iv x.m] := sH2
    refine wN_end ?_
    first | refine wN_reg ?_ | refine wN_blk ?_ | refine wN_bseq ?_ | (refine wOps_nil ?_; refine wN_reg ?_)
    refine wN_mov (v := iv (sm p (us.take i))) rfl ?_
    refine wN_mov (v := .func (.func g) #[] #[]) rfl ?_
    refine wN_lda (b := L1.next) (o := 0) rfl c1.rd (show row 5 _ _ = some [iv x.w, iv x.t, iv x.r, iv x.c, iv x.m] from rfl) ?_
    obtain ⟨H3, fH3, kH3⟩ := hg kn lo H2 x xo
    refine wN_callf (vs := [.agg x.f.toArray]) rfl (callX_func rfl (by simpa using fH3)) ?_
    have mH3 := kH3.1
    have hk := hk.trans kH3
    have rsb := kH3.rd rsb (by simp)
    have c1 := kH3.cl c1 (by simp)
    refine wN_add (a := (sm p (us.take i))) (b := (p x)) rfl rfl ⟨by omega, by omega⟩ ?_
    refine wN_mov (v := iv ((sm p (us.take i)) + (p x))) rfl ?_
    refine wN_end ?_
    first | refine wN_reg ?_ | refine wN_blk ?_ | refine wN_bseq ?_ | (refine wOps_nil ?_; refine wN_reg ?_)
    refine wN_add (a := (i : Int)) (b := 1) rfl rfl ⟨by omega, by omega⟩ ?_
    refine wN_mov (v := iv ((i : Int) + 1)) rfl ?_
    refine wN_end ?_
    exact ⟨k - 1, i + 1, by omega, ⟨by omega, hk⟩, rfl, by rw [sm_step hx]; rfl, rfl, rfl, rfl, trivial⟩
  · have q1 : ¬ ((i : Int) < (n : Int)) := of_decide_eq_false q1
    refine wN_seq ?_
    refine wN_mov (v := iv (sm p (us.take i))) rfl ?_
    refine wN_mov (v := iv (sm p (us.take i))) rfl ?_
    refine wN_end ?_
    exact And.intro trivial (Exists.intro _ (And.intro rfl ⟨by rw [List.take_of_length_le (by omega)]; rfl, hk⟩))
/-- loadOf -/
theorem load33_ok {s : Sp} (nb : s.Nb) (hs : Sl H s.sa s.sn s.scap (smc s.ss)) (hl : s.ss.length = s.sn) (hlo : lo ≤ H.next) : ∃ H', FnX Try.prog kn lo 33 [.agg s.v.toArray] H (.agg #[iv s.net, iv s.good, iv s.trash, iv s.rot, iv s.col, iv s.firm]) H' ∧ Keep H H' [] := by
  have key := fnX_low (kn := kn) (lo := lo) (H := H) (args := [.agg s.v.toArray]) (Q := fun w H' => w = .agg #[iv s.net, iv s.good, iv s.trash, iv s.rot, iv s.col, iv s.firm] ∧ Keep H H' []) Try.func33 B33 N33 Z33 L33 (by simp) ?_
  · obtain ⟨w, H', h, rfl, q⟩ := key; exact ⟨H', h, q⟩
  have hk := Keep.refl H []
  have fs : ∀ b, s.sa = some ⟨b, 0, none⟩ → b < H.next := hs.old
  obtain ⟨nok, nn, nw, nt, nr, ntr, nc, nf, ngr, nta, nnet, np1, np2, ngood, ntrash, ngt, np3, np4⟩ := id nb
  refine wN_seq ?_
  refine wN_box (v := .agg s.v.toArray) rfl ?_
  intro H1 kH1 nH1 c1
  have c1 : Cl H1 H.next [iv s.gr, iv s.bed, iv s.day, iv s.gross, iv s.tare, .slice s.sa s.sn s.scap] := c1
  have mH1 := kH1.1
  have hk := hk.trans kH1
  have hs := kH1.sl0 hs
  refine wN_alc ?_
  intro H2 kH2 nH2 c2
  have c2 : Cl H2 H1.next [iv 0, iv 0, iv 0, iv 0, iv 0, iv 0] := c2
  have mH2 := kH2.1
  have hk := hk.trans kH2
  have hs := kH2.sl0 hs
  have c1 := kH2.cl c1 (by simp)
  refine wN_end ?_
  refine wN_seq ?_
  refine wN_addo (b := H.next) (o := 0) rfl ?_
  refine wN_ld (b := H.next) (o := 5) (v := .slice s.sa s.sn s.scap) rfl c1.rd rfl ?_
  obtain ⟨H3, fH3, kH3⟩ := sum47_ok (kn := kn) (lo := lo) (H := H2) (B := 1048576) num48 hs hl (by omega) nb.ok (fun x hx => fW_in (nb.ok x hx)) (by omega) (by omega)
  refine wN_callf (vs := [.slice s.sa s.sn s.scap, .func (.func 48) #[] #[]]) rfl (callX_args fH3) ?_
  have mH3 := kH3.1
  have hk := hk.trans kH3
  have hs := kH3.sl0 hs
  have c1 := kH3.cl c1 (by simp)
  have c2 := kH3.cl c2 (by simp)
  refine wN_mov (v := iv s.W) rfl ?_
  refine wN_end ?_
  refine wN_seq ?_
  refine wN_addo (b := H.next) (o := 0) rfl ?_
  refine wN_ld (b := H.next) (o := 5) (v := .slice s.sa s.sn s.scap) rfl c1.rd rfl ?_
  obtain ⟨H4, fH4, kH4⟩ := sum47_ok (kn := kn) (lo := lo) (H := H3) (B := 1048576) num49 hs hl (by omega) nb.ok (fun x hx => fT_in (nb.ok x hx)) (by omega) (by omega)
  refine wN_callf (vs := [.slice s.sa s.sn s.scap, .func (.func 49) #[] #[]]) rfl (callX_args fH4) ?_
  have mH4 := kH4.1
  have hk := hk.trans kH4
  have hs := kH4.sl0 hs
  have c1 := kH4.cl c1 (by simp)
  have c2 := kH4.cl c2 (by simp)
  refine wN_mov (v := iv s.T) rfl ?_
  refine wN_end ?_
  refine wN_seq ?_
  refine wN_addo (b := H.next) (o := 0) rfl ?_
  refine wN_ld (b := H.next) (o := 5) (v := .slice s.sa s.sn s.scap) rfl c1.rd rfl ?_
  obtain ⟨H5, fH5, kH5⟩ := sum47_ok (kn := kn) (lo := lo) (H := H4) (B := 1048576) num50 hs hl (by omega) nb.ok (fun x hx => fR_in (nb.ok x hx)) (by omega) (by omega)
  refine wN_callf (vs := [.slice s.sa s.sn s.scap, .func (.func 50) #[] #[]]) rfl (callX_args fH5) ?_
  have mH5 := kH5.1
  have hk := hk.trans kH5
  have hs := kH5.sl0 hs
  have c1 := kH5.cl c1 (by simp)
  have c2 := kH5.cl c2 (by simp)
  refine wN_mov (v := iv s.R) rfl ?_
  refine wN_end ?_
  refine wN_seq ?_
  refine wN_addo (b := H.next) (o := 0) rfl ?_
  refine wN_ld (b := H.next) (o := 5) (v := .slice s.sa s.sn s.scap) rfl c1.rd rfl ?_
  obtain ⟨H6, fH6, kH6⟩ := sum47_ok (kn := kn) (lo := lo) (H := H5) (B := 267386880) num51 hs hl (by omega) nb.ok (fun x hx => fC_in (nb.ok x hx)) (by omega) (by omega)
  refine wN_callf (vs := [.slice s.sa s.sn s.scap, .func (.func 51) #[] #[]]) rfl (callX_args fH6) ?_
  have mH6 := kH6.1
  have hk := hk.trans kH6
  have hs := kH6.sl0 hs
  have c1 := kH6.cl c1 (by simp)
  have c2 := kH6.cl c2 (by simp)
  refine wN_mov (v := iv s.C) rfl ?_
  refine wN_end ?_
  refine wN_seq ?_
  refine wN_addo (b := H.next) (o := 0) rfl ?_
  refine wN_ld (b := H.next) (o := 5) (v := .slice s.sa s.sn s.scap) rfl c1.rd rfl ?_
  obtain ⟨H7, fH7, kH7⟩ := sum47_ok (kn := kn) (lo := lo) (H := H6) (B := 1048576000) num52 hs hl (by omega) nb.ok (fun x hx => fF_in (nb.ok x hx)) (by omega) (by omega)
  refine wN_callf (vs := [.slice s.sa s.sn s.scap, .func (.func 52) #[] #[]]) rfl (callX_args fH7) ?_
  have mH7 := kH7.1
  have hk := hk.trans kH7
  have hs := kH7.sl0 hs
  have c1 := kH7.cl c1 (by simp)
  have c2 := kH7.cl c2 (by simp)
  refine wN_mov (v := iv s.F) rfl ?_
  refine wN_end ?_
  refine wN_seq ?_
  refine wN_addo (b := H.next) (o := 0) rfl ?_
  refine wN_ld (b := H.next) (o := 3) (v := iv s.gross) rfl c1.rd rfl ?_
  refine wN_addo (b := H.next) (o := 0) rfl ?_
  refine wN_ld (b := H.next) (o := 4) (v := iv s.tare) rfl c1.rd rfl ?_
  refine wN_sub (a := s.gross) (b := s.tare) rfl rfl ⟨by omega, by omega⟩ ?_
  refine wN_pur (v := .agg #[iv s.net, iv 0, iv 0, iv 0, iv 0, iv 0]) rfl (by kernel_rfl) ?_
  refine wN_alc ?_
  intro H8 kH8 nH8 c8
  have c8 : Cl H8 H7.next [iv 0, iv 0, iv 0, iv 0, iv 0, iv 0] := c8
  have mH8 := kH8.1
  have hk := hk.trans kH8
  have hs := kH8.sl0 hs
  have c1 := kH8.cl c1 (by simp)
  have c2 := kH8.cl c2 (by simp)
  refine wN_sta (b := H7.next) (o := 0) rfl rfl c8 (by omega) rfl rfl (by simp) ?_
  intro H9 kH9 nH9 sH9
  have mH9 := kH9.1
  have hk := hk.new kH9 (fun b hb => by simp at hb ⊢; omega)
  have hs := kH9.sl hs (fun b e => by have := fs b e; first | (simp; done) | (simp; omega))
  have c1 := kH9.cl c1 (by first | (simp; done) | (simp; omega))
  have c2 := kH9.cl c2 (by first | (simp; done) | (simp; omega))
  have c8 : Cl H9 H7.next [iv s.net, iv 0, iv 0, iv 0, iv 0, iv 0] := sH9
  refine wN_end ?_
  refine wN_seq ?_
  refine wN_addo (b := H7.next) (o := 0) rfl ?_
  refine wN_ld (b := H7.next) (o := 0) (v := iv s.net) rfl c8.rd rfl ?_
  refine wN_mov (v := iv s.W) rfl ?_
  refine wN_mov (v := iv s.T) rfl ?_
  refine wN_sub (a := s.W) (b := s.T) rfl rfl ⟨by omega, by omega⟩ ?_
  refine wN_mov (v := iv s.R) rfl ?_
  refine wN_sub (a := (s.W - s.T)) (b := s.R) rfl rfl ⟨by omega, by omega⟩ ?_
  refine wN_mul (a := s.net) (b := (s.W - s.T - s.R)) rfl rfl ⟨by omega, by omega⟩ ?_
  refine wN_mov (v := iv s.W) rfl ?_
  refine wN_quo (a := (s.net * (s.W - s.T - s.R))) (b := s.W) rfl rfl (by omega) (by omega) ⟨by omega, by omega⟩ ?_
  refine wN_addo (b := H7.next) (o := 0) rfl ?_
  refine wN_st (b := H7.next) (o := 1) rfl rfl c8 (by omega) rfl rfl (by simp) ?_
  intro H10 kH10 nH10 sH10
  have mH10 := kH10.1
  have hk := hk.new kH10 (fun b hb => by simp at hb ⊢; omega)
  have hs := kH10.sl hs (fun b e => by have := fs b e; first | (simp; done) | (simp; omega))
  have c1 := kH10.cl c1 (by first | (simp; done) | (simp; omega))
  have c2 := kH10.cl c2 (by first | (simp; done) | (simp; omega))
  have c8 : Cl H10 H7.next [iv s.net, iv s.good, iv 0, iv 0, iv 0, iv 0] := sH10
  refine wN_end ?_
  refine wN_seq ?_
  refine wN_addo (b := H7.next) (o := 0) rfl ?_
  refine wN_ld (b := H7.next) (o := 0) (v := iv s.net) rfl c8.rd rfl ?_
  refine wN_mov (v := iv s.T) rfl ?_
  refine wN_mul (a := s.net) (b := s.T) rfl rfl ⟨by omega, by omega⟩ ?_
  refine wN_mov (v := iv s.W) rfl ?_
  refine wN_quo (a := (s.net * s.T)) (b := s.W) rfl rfl (by omega) (by omega) ⟨by omega, by omega⟩ ?_
  refine wN_addo (b := H7.next) (o := 0) rfl ?_
  refine wN_st (b := H7.next) (o := 2) rfl rfl c8 (by omega) rfl rfl (by simp) ?_
  intro H11 kH11 nH11 sH11
  have mH11 := kH11.1
  have hk := hk.new kH11 (fun b hb => by simp at hb ⊢; omega)
  have hs := kH11.sl hs (fun b e => by have := fs b e; first | (simp; done) | (simp; omega))
  have c1 := kH11.cl c1 (by first | (simp; done) | (simp; omega))
  have c2 := kH11.cl c2 (by first | (simp; done) | (simp; omega))
  have c8 : Cl H11 H7.next [iv s.net, iv s.good, iv s.trash, iv 0, iv 0, iv 0] := sH11
  refine wN_end ?_
  refine wN_seq ?_
  refine wN_addo (b := H7.next) (o := 0) rfl ?_
  refine wN_ld (b := H7.next) (o := 0) (v := iv s.net) rfl c8.rd rfl ?_
  refine wN_addo (b := H7.next) (o := 0) rfl ?_
  refine wN_ld (b := H7.next) (o := 1) (v := iv s.good) rfl c8.rd rfl ?_
  refine wN_sub (a := s.net) (b := s.good) rfl rfl ⟨by omega, by omega⟩ ?_
  refine wN_addo (b := H7.next) (o := 0) rfl ?_
  refine wN_ld (b := H7.next) (o := 2) (v := iv s.trash) rfl c8.rd rfl ?_
  refine wN_sub (a := (s.net - s.good)) (b := s.trash) rfl rfl ⟨by omega, by omega⟩ ?_
  refine wN_addo (b := H7.next) (o := 0) rfl ?_
  refine wN_st (b := H7.next) (o := 3) rfl rfl c8 (by omega) rfl rfl (by simp) ?_
  intro H12 kH12 nH12 sH12
  have mH12 := kH12.1
  have hk := hk.new kH12 (fun b hb => by simp at hb ⊢; omega)
  have hs := kH12.sl hs (fun b e => by have := fs b e; first | (simp; done) | (simp; omega))
  have c1 := kH12.cl c1 (by first | (simp; done) | (simp; omega))
  have c2 := kH12.cl c2 (by first | (simp; done) | (simp; omega))
  have c8 : Cl H12 H7.next [iv s.net, iv s.good, iv s.trash, iv s.rot, iv 0, iv 0] := sH12
  refine wN_end ?_
  refine wN_seq ?_
  refine wN_addo (b := H7.next) (o := 0) rfl ?_
  refine wN_ld (b := H7.next) (o := 1) (v := iv s.good) rfl c8.rd rfl ?_
  refine wN_mov (v := iv s.C) rfl ?_
  refine wN_mul (a := s.good) (b := s.C) rfl rfl ⟨by omega, by omega⟩ ?_
  refine wN_mov (v := iv s.W) rfl ?_
  refine wN_quo (a := (s.good * s.C)) (b := s.W) rfl rfl (by omega) (by omega) ⟨by omega, by omega⟩ ?_
  refine wN_addo (b := H7.next) (o := 0) rfl ?_
  refine wN_st (b := H7.next) (o := 4) rfl rfl c8 (by omega) rfl rfl (by simp) ?_
  intro H13 kH13 nH13 sH13
  have mH13 := kH13.1
  have hk := hk.new kH13 (fun b hb => by simp at hb ⊢; omega)
  have hs := kH13.sl hs (fun b e => by have := fs b e; first | (simp; done) | (simp; omega))
  have c1 := kH13.cl c1 (by first | (simp; done) | (simp; omega))
  have c2 := kH13.cl c2 (by first | (simp; done) | (simp; omega))
  have c8 : Cl H13 H7.next [iv s.net, iv s.good, iv s.trash, iv s.rot, iv s.col, iv 0] := sH13
  refine wN_end ?_
  refine wN_seq ?_
  refine wN_addo (b := H7.next) (o := 0) rfl ?_
  refine wN_ld (b := H7.next) (o := 1) (v := iv s.good) rfl c8.rd rfl ?_
  refine wN_mov (v := iv s.F) rfl ?_
  refine wN_mul (a := s.good) (b := s.F) rfl rfl ⟨by omega, by omega⟩ ?_
  refine wN_mov (v := iv s.W) rfl ?_
  refine wN_quo (a := (s.good * s.F)) (b := s.W) rfl rfl (by omega) (by omega) ⟨by omega, by omega⟩ ?_
  refine wN_addo (b := H7.next) (o := 0) rfl ?_
  refine wN_st (b := H7.next) (o := 5) rfl rfl c8 (by omega) rfl rfl (by simp) ?_
  intro H14 kH14 nH14 sH14
  have mH14 := kH14.1
  have hk := hk.new kH14 (fun b hb => by simp at hb ⊢; omega)
  have hs := kH14.sl hs (fun b e => by have := fs b e; first | (simp; done) | (simp; omega))
  have c1 := kH14.cl c1 (by first | (simp; done) | (simp; omega))
  have c2 := kH14.cl c2 (by first | (simp; done) | (simp; omega))
  have c8 : Cl H14 H7.next [iv s.net, iv s.good, iv s.trash, iv s.rot, iv s.col, iv s.firm] := sH14
  refine wN_end ?_
  refine wN_seq ?_
  refine wN_lda (b := H7.next) (o := 0) rfl c8.rd (show row 6 _ _ = some [iv s.net, iv s.good, iv s.trash, iv s.rot, iv s.col, iv s.firm] from rfl) ?_
  refine wN_sta (b := H1.next) (o := 0) rfl rfl c2 (by omega) rfl rfl (by simp) ?_
  intro H15 kH15 nH15 sH15
  have mH15 := kH15.1
  have hk := hk.new kH15 (fun b hb => by simp at hb ⊢; omega)
  have hs := kH15.sl hs (fun b e => by have := fs b e; first | (simp; done) | (simp; omega))
  have c1 := kH15.cl c1 (by first | (simp; done) | (simp; omega))
  have c8 := kH15.cl c8 (by first | (simp; done) | (simp; omega))
  have c2 : Cl H15 H1.next [iv s.net, iv s.good, iv s.trash, iv s.rot, iv s.col, iv s.firm] := sH15
  refine wN_end ?_
  exact And.intro trivial (Exists.intro _ (And.intro (res_cell rfl a38 i38s rfl c2) ⟨rfl, hk⟩))
/-- Weigh -/
theorem weigh17_ok {s : Sp} (hs : Sl H s.sa s.sn s.scap (smc s.ss)) (hl : s.ss.length = s.sn) (hlo : lo ≤ H.next) : ∃ H', FnX Try.prog kn lo 17 [.agg s.v.toArray] H (.tuple #[.agg s.load.v.toArray, iv s.we]) H' ∧ Keep H H' [] := by
  have key := fnX_low (kn := kn) (lo := lo) (H := H) (args := [.agg s.v.toArray]) (Q := fun w H' => w = .tuple #[.agg s.load.v.toArray, iv s.we] ∧ Keep H H' []) Try.func17 B17 N17 Z17 L17 (by simp) ?_
  · obtain ⟨w, H', h, rfl, q⟩ := key; exact ⟨H', h, q⟩
  have hk := Keep.refl H []
  have fs : ∀ b, s.sa = some ⟨b, 0, none⟩ → b < H.next := hs.old
  refine wN_seq ?_
  refine wN_box (v := .agg s.v.toArray) rfl ?_
  intro H1 kH1 nH1 c1
  have c1 : Cl H1 H.next [iv s.gr, iv s.bed, iv s.day, iv s.gross, iv s.tare, .slice s.sa s.sn s.scap] := c1
  have mH1 := kH1.1
  have hk := hk.trans kH1
  have hs := kH1.sl0 hs
  refine wN_alc ?_
  intro H2 kH2 nH2 c2
  have c2 : Cl H2 H1.next [iv 0, iv 0, iv 0, iv 0, iv 0, iv 0] := c2
  have mH2 := kH2.1
  have hk := hk.trans kH2
  have hs := kH2.sl0 hs
  have c1 := kH2.cl c1 (by simp)
  refine wN_mov (v := iv 0) rfl ?_
  refine wN_end ?_
  refine wN_seq ?_
  refine wN_lda (b := H.next) (o := 0) rfl c1.rd (show row 6 _ _ = some [iv s.gr, iv s.bed, iv s.day, iv s.gross, iv s.tare, .slice s.sa s.sn s.scap] from rfl) ?_
  refine wN_callB rfl (valid32_ok hs hl) ?_
  intro tH3 H3 hH3 kH3
  have mH3 := kH3.1
  have hk := hk.trans kH3
  have hs := kH3.sl0 hs
  have c1 := kH3.cl c1 (by simp)
  have c2 := kH3.cl c2 (by simp)
  cases tH3
  · have hok : s.ok = false := hH3
    refine wN_pur (v := .bool true) rfl rfl ?_
    refine wN_end ?_
    refine condT ?_
    refine wN_seq ?_
    refine wN_pur (v := .agg #[iv 0, iv 0, iv 0, iv 0, iv 0, iv 0]) rfl (by kernel_rfl) ?_
    refine wN_sta (b := H1.next) (o := 0) rfl rfl c2 (by omega) rfl rfl (by simp) ?_
    intro H4 kH4 nH4 sH4
    have mH4 := kH4.1
    have hk := hk.new kH4 (fun b hb => by simp at hb ⊢; omega)
    have hs := kH4.sl hs (fun b e => by have := fs b e; first | (simp; done) | (simp; omega))
    have c1 := kH4.cl c1 (by first | (simp; done) | (simp; omega))
    have c2 : Cl H4 H1.next [iv 0, iv 0, iv 0, iv 0, iv 0, iv 0] := sH4
    refine wN_mov (v := iv 1) rfl ?_
    refine wN_end ?_
    have e1 : s.load = Ld.z := by unfold Sp.load; rw [if_neg (by rw [hok]; decide)]
    have e2 : s.we = 1 := by unfold Sp.we; rw [if_neg (by rw [hok]; decide)]
    exact And.intro trivial (Exists.intro _ (And.intro (res_ct rfl a38 i38s rfl c2 rfl) ⟨by rw [e1, e2]; rfl, hk⟩))
  · have hok : s.ok = true := hH3
    refine wN_pur (v := .bool false) rfl rfl ?_
    refine wN_end ?_
    refine condF ?_
    first | refine wN_skip ?_ | skip
    refine wN_seq ?_
    refine wN_lda (b := H.next) (o := 0) rfl c1.rd (show row 6 _ _ = some [iv s.gr, iv s.bed, iv s.day, iv s.gross, iv s.tare, .slice s.sa s.sn s.scap] from rfl) ?_
    obtain ⟨H5, fH5, kH5⟩ := load33_ok (kn := kn) (lo := lo) (H := H3) (Sp.nb hl hok) hs hl (by omega)
    refine wN_callf (vs := [.agg s.v.toArray]) rfl (callX_args fH5) ?_
    have mH5 := kH5.1
    have hk := hk.trans kH5
    have hs := kH5.sl0 hs
    have c1 := kH5.cl c1 (by simp)
    have c2 := kH5.cl c2 (by simp)
    refine wN_sta (b := H1.next) (o := 0) rfl rfl c2 (by omega) rfl rfl (by simp) ?_
    intro H6 kH6 nH6 sH6
    have mH6 := kH6.1
    have hk := hk.new kH6 (fun b hb => by simp at hb ⊢; omega)
    have hs := kH6.sl hs (fun b e => by have := fs b e; first | (simp; done) | (simp; omega))
    have c1 := kH6.cl c1 (by first | (simp; done) | (simp; omega))
    have c2 : Cl H6 H1.next [iv s.net, iv s.good, iv s.trash, iv s.rot, iv s.col, iv s.firm] := sH6
    refine wN_mov (v := iv 0) rfl ?_
    refine wN_end ?_
    have e1 : s.load = ⟨s.net, s.good, s.trash, s.rot, s.col, s.firm⟩ := by unfold Sp.load; rw [if_pos hok]
    have e2 : s.we = 0 := by unfold Sp.we; rw [if_pos hok]
    exact And.intro trivial (Exists.intro _ (And.intro (res_ct rfl a38 i38s rfl c2 rfl) ⟨by rw [e1, e2]; rfl, hk⟩))
end
end Go.Ax

/-
  Station: berries: validBerries, many, firstTries, Bounce (written by program).
-/
namespace Go.Ax
open Go Go.RowKit Go.Proofs

theorem u45' : Try.prog.underlying 45 = some (.slice 3) := by kernel_rfl
theorem in3s : ∃ i, Try.prog.info? 3 = some i ∧ i.size = 1 := by
  have h : (Try.prog.info? 3).map (fun i => Nat.beq i.size 1) = some true := by kernel_rfl
  cases e : Try.prog.info? 3 with
  | none => rw [e] at h; cases h
  | some i => rw [e] at h; exact ⟨i, rfl, by simpa using h⟩
/-- the first k elements -/
theorem heap_upto {lo : Nat} {H : Hp} {a : Option Addr} {n cap k : Nat} {cs : List Value} (hs : Sl H a n cap cs) (hf : ∀ b, a = some ⟨b, 0, none⟩ → Fx H b cs) (hk : k ≤ n) :
    ∃ kd, (∀ (m : Nat) (S : Rg) (d : Option Tmp) (x y : Operand) (ty : TypeId) (p : String), evS S x = some (.slice a n cap) → evS S y = some (iv (k : Int)) → heapOp Try.prog lo (frS m S) H ⟨d, .slice 45 x none (some y) none, ty, p, #[], none⟩ = some (.val (.slice a k cap) H, kd)) ∧ ∀ b, kd = .read b → b < H.next := by
  obtain ⟨i, hi, hs1⟩ := in3s
  have hb : ∀ (m : Nat) (S : Rg) (y : Operand) (q : Nat), evS S y = some (iv (k : Int)) → boundOf (frS m S) q (some y) = some k := fun m S y q hy => by unfold boundOf; simp only [ev_frS, hy]
  have hb0 : ∀ (m : Nat) (S : Rg), boundOf (frS m S) 0 none = some 0 := fun _ _ => rfl
  rcases hs with ⟨rfl | rfl, rfl, rfl, rfl⟩ | ⟨b, rfl, hr, hc⟩
  · obtain rfl : k = 0 := by omega
    refine ⟨.pure, fun m S d x y ty p hx hy => ?_, fun b e => by cases e⟩
    unfold heapOp
    simp only [ev_frS, hx, u45', hi, hb m S y _ hy, hb0, Nat.beq_refl, Bool.and_self, cond_true]
  · obtain rfl : k = 0 := by omega
    refine ⟨.pure, fun m S d x y ty p hx hy => ?_, fun b e => by cases e⟩
    unfold heapOp
    simp only [ev_frS, hx, u45', hi, hb m S y _ hy, hb0, Nat.beq_refl, Bool.and_self, cond_true]
  · refine ⟨.read b, fun m S d x y ty p hx hy => ?_, fun b' e => by cases e; exact hr.lt⟩
    have had : ∀ c, (bif c then (⟨b, 0, none⟩ : Addr) else (⟨b, 0, none⟩ : Addr).add (0 * i.size)) = ⟨b, 0, none⟩ := fun c => by cases c <;> simp [Addr.add]
    obtain ⟨_, h2 | ⟨e, h2⟩ | h2⟩ := hf b rfl
    · unfold heapOp
      simp only [ev_frS, hx, u45', hi, hb m S y _ hy, hb0, h2, Nat.ble_eq_true_of_le (show k ≤ cap by omega), Nat.ble_eq_true_of_le (Nat.zero_le k), Bool.and_self, cond_true, had, Nat.sub_zero]
    · unfold heapOp
      simp only [ev_frS, hx, u45', hi, hb m S y _ hy, hb0, h2, Nat.ble_eq_true_of_le (show k ≤ cap by omega), Nat.ble_eq_true_of_le (Nat.zero_le k), Bool.and_self, cond_true, had, Nat.sub_zero]
    · unfold heapOp
      simp only [ev_frS, hx, u45', hi, hb m S y _ hy, hb0, h2, hs1, Nat.beq_refl, Nat.ble_eq_true_of_le hk, Nat.ble_eq_true_of_le (Nat.zero_le k), show Nat.beq 1 0 = false from rfl, Bool.not_false, Bool.or_true, Bool.and_self, cond_true, Nat.sub_zero]
      rfl
/-- how many berries bounce -/
def cntB (rs : List Rw) (b m : Int) : Int := rs.foldl (fun n r => if bnc r.l b m then n + 1 else n) 0
theorem cntB_from (rs : List Rw) (b m x : Int) : rs.foldl (fun n r => if bnc r.l b m then n + 1 else n) x = x + cntB rs b m := by
  induction rs generalizing x with
  | nil => show x = x + 0; omega
  | cons r l ih => unfold cntB; rw [List.foldl_cons, List.foldl_cons, ih, ih]; split <;> omega
theorem cntB_step {rs : List Rw} {b m : Int} {i : Nat} {r : Rw} (h : rs[i]? = some r) : cntB (rs.take (i + 1)) b m = cntB (rs.take i) b m + (if bnc r.l b m then 1 else 0) := by
  unfold cntB; rw [foldl_step h]; split <;> omega
theorem cntB_in (rs : List Rw) (b m : Int) : 0 ≤ cntB rs b m ∧ cntB rs b m ≤ rs.length := by
  induction rs with
  | nil => simp [cntB]
  | cons r l ih =>
    unfold cntB; rw [List.foldl_cons, cntB_from, List.length_cons]
    split <;> omega
theorem cntB_take_in (rs : List Rw) (b m : Int) (i : Nat) : 0 ≤ cntB (rs.take i) b m ∧ cntB (rs.take i) b m ≤ rs.length := by
  have := cntB_in (rs.take i) b m
  rw [List.length_take] at this; omega
def boE (rs : List Rw) (b m : Int) : Int := if rwsOk rs then (if isw b 4096 && isw m 7 then 0 else 2) else 1
def boN (rs : List Rw) (b m : Int) : Int := if boE rs b m = 0 then cntB rs b m else 0
section
variable {kn : FuncId → Option Bool} {lo : Nat} {H : Hp}
theorem index61_ok {sa : Option Addr} {n cap f : Nat} {us : List Rw} (hr : Rws H f sa n cap us) (hm : ∀ r ∈ us, r.n ≤ 1000000) (hn2 : n ≤ 1000000) :
    ∃ j H', FnX Try.prog kn lo 61 [.slice sa n cap, .func (.func 54) #[] #[]] H (iv j) H' ∧ decide (j ≥ 0) = !(us.all Rw.ok) ∧ Keep H H' [] := by
  have key := fnX_low (kn := kn) (lo := lo) (H := H) (args := [.slice sa n cap, .func (.func 54) #[] #[]]) (Q := fun w H' => ∃ j, w = iv j ∧ decide (j ≥ 0) = !(us.all Rw.ok) ∧ Keep H H' []) Try.func61 B61 N61 Z61 L61 (by simp) ?_
  · obtain ⟨v, H', h, j, rfl, q⟩ := key; exact ⟨j, H', h, q⟩
  have hk := Keep.refl H []
  refine wN_seq ?_
  refine wN_mov (v := iv 0) rfl ?_
  refine wN_end ?_
  refine wN_seq ?_
  refine wN_mov (v := .slice sa n cap) rfl ?_
  refine wN_len (m := n) rfl ?_
  refine wN_mov (v := iv 0) rfl ?_
  refine wN_end ?_
  refine loop_low (fn := Try.f61) E61_1 N61 L61x1 (fun i : Nat => [(0, .slice sa n cap), (1, .func (.func 54) #[] #[]), (7, iv (n : Int)), (8, iv (i : Int))])
    (fun k i H' => i + k = n ∧ Keep H H' [] ∧ Rws H' f sa n cap us ∧ (us.take i).all Rw.ok = true) n 0 ⟨by omega, Keep.refl _ _, hr, rfl⟩ ⟨rfl, rfl, rfl, rfl, trivial⟩ ?_
  rintro k i L1 ⟨hik, hk, hr, hall⟩
  refine wN_seq ?_
  refine wN_c_lss (a := (i : Int)) (b := (n : Int)) rfl rfl ?_
  refine wN_end ?_
  refine And.intro (fun q1 => ?_) (fun q1 => ?_)
  · have q1 : (i : Int) < (n : Int) := of_decide_eq_true q1
    have hi : i < n := by omega
    obtain ⟨sb, so, cs, x, hx, esb, rsb, lsf, lcap, hat, hmem⟩ := hr.opn hi
    have hst := all_step (f := Rw.ok) hx
    have hrx := hr.ri x hmem
    first | refine wN_skip ?_ | skip
    refine wN_seq ?_
    refine wN_mov (v := iv (i : Int)) rfl ?_
    refine wN_mov (v := iv (i : Int)) rfl ?_
    refine wN_end ?_
    refine wN_seq ?_
    refine wN_mov (v := .func (.func 54) #[] #[]) rfl ?_
    refine wN_mov (v := .slice sa n cap) rfl ?_
    refine wN_mov (v := iv (i : Int)) rfl ?_
    refine wN_idx (b := sb) (o := so) (k := i) (j := (i : Int)) (by rw [← esb]; rfl) rfl rfl hi ?_
    refine wN_ld (b := sb) (o := so + i * 1) (v := .slice x.ra x.n x.cap) rfl rsb hat ?_
    obtain ⟨H1, fH1, kH1⟩ := bad54_ok (kn := kn) (lo := lo) (H := L1) (r := x) hrx.1 hrx.2.1 (hm x hmem)
    refine wN_callf (vs := [.slice x.ra x.n x.cap]) rfl (callX_func rfl (by simpa using fH1)) ?_
    have mH1 := kH1.1
    have hk := hk.trans kH1
    have hr := hr.keep kH1 (by simp)
    have rsb := kH1.rd rsb (by simp)
    cases hb : Rw.ok x
    · refine wN_end ?_
      refine condT ?_
      refine wN_seq ?_
      refine wN_mov (v := iv (i : Int)) rfl ?_
      refine wN_mov (v := iv (i : Int)) rfl ?_
      refine wN_end ?_
      exact And.intro trivial (Exists.intro _ (And.intro rfl ⟨_, rfl, by rw [all_fail hx hb]; simp, hk⟩))
    · refine wN_end ?_
      refine condF ?_
      first | refine wN_skip ?_ | skip
      first | refine wN_reg ?_ | refine wN_blk ?_ | refine wN_bseq ?_ | (refine wOps_nil ?_; refine wN_reg ?_)
      refine wN_add (a := (i : Int)) (b := 1) rfl rfl ⟨by omega, by omega⟩ ?_
      refine wN_mov (v := iv ((i : Int) + 1)) rfl ?_
      refine wN_end ?_
      exact ⟨k - 1, i + 1, by omega, ⟨by omega, hk, hr, by rw [hst, hall, hb]; rfl⟩, rfl, rfl, rfl, rfl, trivial⟩
  · have q1 : ¬ ((i : Int) < (n : Int)) := of_decide_eq_false q1
    refine wN_seq ?_
    refine wN_mov (v := iv (-1)) rfl ?_
    refine wN_end ?_
    exact And.intro trivial (Exists.intro _ (And.intro rfl ⟨-1, rfl, by rw [List.take_of_length_le (by have := hr.rl; omega)] at hall; rw [hall]; rfl, hk⟩))
theorem badRws_ok {sa : Option Addr} {n cap f : Nat} {us : List Rw} (hr : Rws H f sa n cap us) (hm : ∀ r ∈ us, r.n ≤ 1000000) (hn2 : n ≤ 1000000) :
    ∃ H', FnX Try.prog kn lo 53 [.slice sa n cap, .func (.func 54) #[] #[]] H (.bool (!(us.all Rw.ok))) H' ∧ Keep H H' [] := by
  have key := fnX_low (kn := kn) (lo := lo) (H := H) (args := [.slice sa n cap, .func (.func 54) #[] #[]]) (Q := fun w H' => w = .bool (!(us.all Rw.ok)) ∧ Keep H H' []) Try.func53 B53 N53 Z53 L53 (by simp) ?_
  · obtain ⟨w, H', h, rfl, q⟩ := key; exact ⟨H', h, q⟩
  obtain ⟨j, H3, h3, hj, k3⟩ := index61_ok (kn := kn) (lo := lo) hr hm hn2
  refine Exists.intro _ (Exists.intro _ (And.intro (callX_args h3) ?_))
  exact And.intro trivial (Exists.intro _ (And.intro rfl ⟨by rw [← hj]; rfl, k3⟩))
/-- validBerries -/
theorem valid34_ok {sa : Option Addr} {n cap f : Nat} {rs : List Rw} (hr : Rws H f sa n cap rs) (hm : ∀ r ∈ rs, r.n ≤ 1000000) : ∃ H', FnX Try.prog kn lo 34 [.slice sa n cap] H (.bool (rwsOk rs)) H' ∧ Keep H H' [] := by
  have key := fnX_low (kn := kn) (lo := lo) (H := H) (args := [.slice sa n cap]) (Q := fun w H' => w = .bool (rwsOk rs) ∧ Keep H H' []) Try.func34 B34 N34 Z34 L34 (by simp) ?_
  · obtain ⟨w, H', h, rfl, q⟩ := key; exact ⟨H', h, q⟩
  have hk := Keep.refl H []
  refine wN_seq ?_
  refine wN_mov (v := .bool false) rfl ?_
  refine wN_end ?_
  refine wN_seq ?_
  refine wN_mov (v := .slice sa n cap) rfl ?_
  refine wN_len (m := n) rfl ?_
  refine wN_b_leq (a := (n : Int)) (b := 256) rfl rfl ?_
  intro t1 g1; cases t1
  · have g1 : ¬ ((n : Int) ≤ 256) := of_decide_eq_false g1
    refine wN_mov (v := .bool false) rfl ?_
    refine wN_gs rfl ?_
    refine wN_gs rfl ?_
    refine wN_gs rfl ?_
    refine wN_pur (v := .bool false) rfl rfl ?_
    refine wN_mov (v := .bool false) rfl ?_
    refine wN_end ?_
    exact And.intro trivial (Exists.intro _ (And.intro rfl ⟨congrArg Value.bool (show false = (rwsOk rs) from (by symm; first | (simp [rwsOk, hr.rl, hall]; done) | (simp [rwsOk, hr.rl, hall] <;> omega) | (simp [rwsOk, hr.rl]; done) | (simp [rwsOk, hr.rl] <;> omega))), hk⟩))
  · have g1 : (n : Int) ≤ 256 := of_decide_eq_true g1
    refine wN_mov (v := .bool true) rfl ?_
    refine wN_g rfl (wN_mov (v := .slice sa n cap) rfl ?_)
    refine wN_g rfl (wN_callB rfl (badRws_ok hr hm (by omega)) ?_)
    intro tH1 H1 hH1 kH1
    have mH1 := kH1.1
    have hk := hk.trans kH1
    have hr := hr.keep kH1 (by simp)
    cases tH1
    · have hall : rs.all Rw.ok = true := by simpa using hH1
      refine wN_g rfl (wN_pur (v := .bool true) rfl rfl ?_)
      refine wN_pur (v := .bool true) rfl rfl ?_
      refine wN_mov (v := .bool true) rfl ?_
      refine wN_end ?_
      exact And.intro trivial (Exists.intro _ (And.intro rfl ⟨congrArg Value.bool (show true = (rwsOk rs) from (by symm; first | (simp [rwsOk, hr.rl, hall]; done) | (simp [rwsOk, hr.rl, hall] <;> omega) | (simp [rwsOk, hr.rl]; done) | (simp [rwsOk, hr.rl] <;> omega))), hk⟩))
    · have hall : rs.all Rw.ok = false := by simpa using hH1
      refine wN_g rfl (wN_pur (v := .bool false) rfl rfl ?_)
      refine wN_pur (v := .bool false) rfl rfl ?_
      refine wN_mov (v := .bool false) rfl ?_
      refine wN_end ?_
      exact And.intro trivial (Exists.intro _ (And.intro rfl ⟨congrArg Value.bool (show false = (rwsOk rs) from (by symm; first | (simp [rwsOk, hr.rl, hall]; done) | (simp [rwsOk, hr.rl, hall] <;> omega) | (simp [rwsOk, hr.rl]; done) | (simp [rwsOk, hr.rl] <;> omega))), hk⟩))
end
end Go.Ax

/-
  Station: berries: firstTries, bouncing, Bounce (written by program).
-/
namespace Go.Ax
open Go Go.RowKit Go.Proofs

noncomputable abbrev asg35 : Code := at_ Try.f35 [1, 0, 1, 1, 0, 1, 0, 0]
noncomputable abbrev body35 : Code := at_ Try.f35 [1, 0, 1, 1, 0, 1, 0, 1]
abbrev S35 (bk : Nat) : Rg := [(4, pt bk), (7, pt (bk + 1))]
def kmin (m : Int) (n : Nat) : Nat := (min m (n : Int)).toNat
/-- what lies where behind i berries -/
structure J35 (H0 : Hp) (sa : Option Addr) (n cap : Nat) (rs : List Rw) (b m : Int) (bk rb tb l : Nat) (i : Nat) (H' : Hp) : Prop where
  kp : Keep H0 H' []
  hr : Rws H' H0.next sa n cap rs
  cb : Rd H' bk [iv b]
  cn : Cl H' (bk + 1) [iv (cntB (rs.take i) b m)]
  cr : Rd H' rb [.slice sa n cap]
  ct : Rd H' tb [iv m]
  lp : Lp Try.prog H' l .ready none 28 (S35 bk) [14] asg35 body35 (l - 1)
  dfr : H'.t.get (l - 1) = some (.dfr (some []))
  ll : l < H'.next
section
variable {kn : FuncId → Option Bool} {lo : Nat} {H : Hp}

/-- firstTries -/
theorem first55_ok {sa : Option Addr} {n cap : Nat} {m : Int} (hlo : lo ≤ H.next) : ∃ H', FnX Try.prog kn lo 55 [.slice sa n cap, iv m] H (.func (.func 64) #[] #[pt H.next, pt (H.next + 1)]) H' ∧ Keep H H' [] ∧ H'.next = H.next + 2 ∧ Rd H' H.next [.slice sa n cap] ∧ Rd H' (H.next + 1) [iv m] := by
  have key := fnX_low (kn := kn) (lo := lo) (H := H) (args := [.slice sa n cap, iv m]) (Q := fun w H' => w = .func (.func 64) #[] #[pt H.next, pt (H.next + 1)] ∧ Keep H H' [] ∧ H'.next = H.next + 2 ∧ Rd H' H.next [.slice sa n cap] ∧ Rd H' (H.next + 1) [iv m]) Try.func55 B55 N55 Z55 L55 (by simp) ?_
  · obtain ⟨w, H', h, rfl, q⟩ := key; exact ⟨H', h, q⟩
  refine wN_seq ?_
  refine wN_box (v := .slice sa n cap) rfl ?_
  intro H1 k1 n1 c1
  have c1 : Cl H1 H.next [.slice sa n cap] := c1
  refine wN_box (v := iv m) rfl ?_
  intro H2 k2 n2 c2
  have c2 : Cl H2 H1.next [iv m] := c2
  rw [n1] at c2 ⊢
  refine wN_mov (v := .nilFunc) rfl ?_
  refine wN_end ?_
  refine wN_seq ?_
  refine wN_pur (v := .func (.func 64) #[] #[pt H.next, pt (H.next + 1)]) rfl (by kernel_rfl) ?_
  refine wN_mov (v := .func (.func 64) #[] #[pt H.next, pt (H.next + 1)]) rfl ?_
  refine wN_end ?_
  exact And.intro trivial (Exists.intro _ (And.intro rfl ⟨rfl, k1.trans k2, by omega, (k2.cl c1 (by simp)).rd, c2.rd⟩))
set_option maxRecDepth 100000 in
/-- firstTries's iterator -/
theorem iter64_ok {sa : Option Addr} {n cap f rb tb l : Nat} {rs : List Rw} {m : Int} (hm0 : 0 ≤ m) {J : Nat → Hp → Prop} (hJ : J 0 H) (hJe : ∀ i H1, J i H1 → Rd H1 rb [.slice sa n cap] ∧ Rd H1 tb [iv m] ∧ Rws H1 f sa n cap rs)
    (hn : n ≤ 1000000) (step : ∀ i x H1, i < n → rs[i]? = some x → J i H1 → ∃ H', CallsX Try.prog kn lo (.fn (.yield l) #[]) [.slice x.ra (kmin m x.n) x.cap] H1 (.bool true) H' ∧ J (i + 1) H') :
    ∃ H', FnX Try.prog kn lo 64 [.func (.yield l) #[] #[], pt rb, pt tb] H unit H' ∧ J n H' := by
  have key := fnX_low (kn := kn) (lo := lo) (H := H) (args := [.func (.yield l) #[] #[], pt rb, pt tb]) (Q := fun w H' => w = unit ∧ J n H') Try.func64 B64 N64 Z64 L64 (by simp) ?_
  · obtain ⟨w, H', h, rfl, q⟩ := key; exact ⟨H', h, q⟩
  obtain ⟨hcr, hct, hr⟩ := hJe _ _ hJ
  refine wN_seq ?_
  refine wN_ld (b := rb) (o := 0) (v := .slice sa n cap) rfl hcr rfl ?_
  refine wN_len (m := n) rfl ?_
  refine wN_mov (v := iv 0) rfl ?_
  refine wN_end ?_
  refine loop_low (fn := Try.f64) E64_1 N64 L64x1 (fun i : Nat => [(0, .func (.yield l) #[] #[]), (1, pt rb), (2, pt tb), (6, .slice sa n cap), (7, iv (n : Int)), (8, iv (i : Int))])
    (fun k i H' => i + k = n ∧ J i H') n 0 ⟨by omega, hJ⟩ ⟨rfl, rfl, rfl, rfl, rfl, rfl, trivial⟩ ?_
  rintro k i L1 ⟨hik, hj⟩
  obtain ⟨hcr, hct, hr⟩ := hJe _ _ hj
  refine wN_seq ?_
  refine wN_c_lss (a := (i : Int)) (b := (n : Int)) rfl rfl ?_
  refine wN_end ?_
  refine And.intro (fun q1 => ?_) (fun q1 => ?_)
  · have q1 : (i : Int) < (n : Int) := of_decide_eq_true q1
    have hi : i < n := by omega
    obtain ⟨sb, so, cs, x, hx, esb, rsb, lsf, lcap, hat, hmem⟩ := hr.opn hi
    have hrx := hr.ri x hmem
    first | refine wN_skip ?_ | skip
    refine wN_seq ?_
    refine wN_idx (b := sb) (o := so) (k := i) (j := (i : Int)) (by rw [← esb]; rfl) rfl rfl hi ?_
    refine wN_ld (b := sb) (o := so + i * 1) (v := .slice x.ra x.n x.cap) rfl rsb hat ?_
    refine wN_mov (v := .slice x.ra x.n x.cap) rfl ?_
    refine wN_end ?_
    refine wN_seq ?_
    refine wN_mov (v := .func (.yield l) #[] #[]) rfl ?_
    refine wN_mov (v := .slice x.ra x.n x.cap) rfl ?_
    refine wN_ld (b := tb) (o := 0) (v := iv m) rfl hct rfl ?_
    refine wN_mov (v := .slice x.ra x.n x.cap) rfl ?_
    refine wN_len (m := x.n) rfl ?_
    refine wN_mm (a := m) (b := (x.n : Int)) rfl rfl ?_
    have hkm : (kmin m x.n : Int) = min m (x.n : Int) := by unfold kmin; omega
    have hkl : kmin m x.n ≤ x.n := by omega
    obtain ⟨kd, hop, hkd⟩ := heap_upto (lo := lo) hrx.1 (fun b e => (hrx.2.2 b e).2) hkl
    refine wN_memh (k := kd) rfl (by kernel_rfl) (hop _ _ _ _ _ _ _ rfl (by rw [hkm]; rfl)) hkd ?_
    obtain ⟨H2, f2, hj2⟩ := step i x _ hi hx hj
    refine wN_callf (vs := [.slice x.ra (kmin m x.n) x.cap]) rfl f2 ?_
    refine wN_pur (v := .bool false) rfl rfl ?_
    refine wN_end ?_
    refine condF ?_
    first | refine wN_skip ?_ | skip
    first | refine wN_reg ?_ | refine wN_blk ?_ | refine wN_bseq ?_ | (refine wOps_nil ?_; refine wN_reg ?_)
    refine wN_add (a := (i : Int)) (b := 1) rfl rfl ⟨by omega, by omega⟩ ?_
    refine wN_mov (v := iv ((i : Int) + 1)) rfl ?_
    refine wN_end ?_
    exact ⟨k - 1, i + 1, by omega, ⟨by omega, hj2⟩, rfl, rfl, rfl, rfl, rfl, rfl, trivial⟩
  · have q1 : ¬ ((i : Int) < (n : Int)) := of_decide_eq_false q1
    have e : i = n := by omega
    exact And.intro trivial (Exists.intro _ (And.intro rfl ⟨rfl, by rw [← e]; exact hj⟩))
theorem bnc_take {l : List Int} {b m : Int} {n : Nat} (hl : l.length = n) (hm : 0 ≤ m) : bnc l b m = (l.take (kmin m n)).any fun h => decide (b ≤ h) := by
  unfold bnc kmin
  rcases Int.lt_or_le m n with q | q
  · rw [Int.min_eq_left (by omega)]
  · rw [Int.min_eq_right q, List.take_of_length_le (by omega), List.take_of_length_le (by simp; omega)]
set_option maxRecDepth 100000 in
theorem round35 {H0 : Hp} {sa : Option Addr} {n cap bk rb tb l i : Nat} {rs : List Rw} {x : Rw} {b m : Int} (hm0 : 0 ≤ m) (hi : i < n) (hn : n ≤ 1000000) (hx : rs[i]? = some x) (hxm : x.n ≤ 1000000) (hlo : lo ≤ H0.next) (hbk : H0.next ≤ bk) (hbl : bk + 1 < rb) (hrt : rb < tb) (htl : tb + 1 < l) (j : J35 H0 sa n cap rs b m bk rb tb l i H) :
    ∃ H', CallsX Try.prog kn lo (.fn (.yield l) #[]) [.slice x.ra (kmin m x.n) x.cap] H (.bool true) H' ∧ J35 H0 sa n cap rs b m bk rb tb l (i + 1) H' := by
  have L1 : low Try.prog 28 asg35 = some R35x1 := N35 ▸ L35x1
  have L2 : low Try.prog 28 body35 = some R35x2 := N35 ▸ L35x2
  have ll := j.ll
  have hmem := List.mem_of_getElem? hx
  have hrl := j.hr.rl
  have key := yield_ok (kn := kn) (P := Try.prog) (lo := lo) (S1 := (14, .slice x.ra (kmin m x.n) x.cap) :: S35 bk) (args := [.slice x.ra (kmin m x.n) x.cap]) (Q := fun t H' => t = true ∧ J35 H0 sa n cap rs b m bk rb tb l (i + 1) H') j.lp (by omega) (by rfl) rfl (wC_sound true _ L1 ?_)
  · obtain ⟨t, H', h1, h2, h3⟩ := key; subst h2; exact ⟨H', h1, h3⟩
  refine wN_reg ?_
  refine wN_mov (v := .slice x.ra (kmin m x.n) x.cap) rfl ?_
  refine wN_end ?_
  refine And.intro trivial (And.intro j.lp ?_)
  intro H4 s4
  have k4 := s4.keep
  have lp4 := s4.lp j.lp
  have hn4 : H4.next = H.next := s4.1
  have nl : ∀ y, y ≠ l → y ∉ [l] := fun y hy => by simpa using hy
  have nw : ∀ y ∈ [l], H0.next ≤ y := fun y hy => by simp at hy; omega
  have hr4 := j.hr.keep k4 nw
  have cb4 := k4.rd j.cb (nl _ (by omega))
  have cn4 := k4.cl j.cn (nl _ (by omega))
  have cr4 := k4.rd j.cr (nl _ (by omega))
  have ct4 := k4.rd j.ct (nl _ (by omega))
  have df4 : H4.t.get (l - 1) = some (.dfr (some [])) := by rw [k4.2 _ (by omega) (nl _ (by omega))]; exact j.dfr
  have kp4 : Keep H0 H4 [] := j.kp.new k4 (fun y hy => .inr (nw y hy))
  have hrx := hr4.ri x hmem
  have hct := cntB_take_in rs b m i
  have hkl : kmin m x.n ≤ x.n := by unfold kmin; omega
  have hlx := hrx.2.1
  -- what is behind, whatever the berry did
  have fin : ∀ H5, Keep H4 H5 [bk + 1] → Cl H5 (bk + 1) [iv (cntB (rs.take (i + 1)) b m)] → Lp Try.prog H5 l .busy none 28 (S35 bk) [14] asg35 body35 (l - 1) ∧ ∀ H6, SetLp H5 l .ready none H6 → true = true ∧ J35 H0 sa n cap rs b m bk rb tb l (i + 1) H6 := by
    intro H5 k5 c5
    have m5 := k5.1
    have lp5 := lp4.keep k5 (by omega) (by simp; omega)
    refine ⟨lp5, fun H6 s6 => ⟨rfl, ?_⟩⟩
    have k6 := s6.keep
    have hn6 : H6.next = H5.next := s6.1
    have nb : ∀ y, y ≠ bk + 1 → y ∉ [bk + 1] := fun y hy => by simpa using hy
    exact ⟨(kp4.new k5 (fun y hy => .inr (by simp at hy; omega))).new k6 (fun y hy => .inr (nw y hy)), (hr4.keep k5 (fun y hy => by simp at hy; omega)).keep k6 nw, k6.rd (k5.rd cb4 (nb _ (by omega))) (nl _ (by omega)), k6.cl c5 (nl _ (by omega)),
      k6.rd (k5.rd cr4 (nb _ (by omega))) (nl _ (by omega)), k6.rd (k5.rd ct4 (nb _ (by omega))) (nl _ (by omega)), s6.lp lp5, by rw [k6.2 _ (by omega) (nl _ (by omega)), k5.2 _ (by omega) (nb _ (by omega))]; exact df4, by omega⟩
  refine wC_sound true _ L2 ?_
  refine wN_seq ?_
  refine wN_mov (v := .slice x.ra (kmin m x.n) x.cap) rfl ?_
  refine wN_len (m := kmin m x.n) rfl ?_
  refine wN_mov (v := iv 0) rfl ?_
  refine wN_end ?_
  refine loop_low (fn := Try.f35) E35_3 N35 L35x3 (fun q : Nat => [(4, pt bk), (7, pt (bk + 1)), (15, .slice x.ra (kmin m x.n) x.cap), (16, iv (kmin m x.n : Int)), (17, iv (q : Int))])
    (fun k q H' => q + k = kmin m x.n ∧ H' = H4 ∧ (x.l.take q).any (fun h => decide (b ≤ h)) = false) (kmin m x.n) 0 ⟨by omega, rfl, rfl⟩ ⟨rfl, rfl, rfl, rfl, rfl, trivial⟩ ?_
  rintro k q L1 ⟨hqk, rfl, hall⟩
  refine wN_seq ?_
  refine wN_c_lss (a := (q : Int)) (b := (kmin m x.n : Int)) rfl rfl ?_
  refine wN_end ?_
  refine And.intro (fun q1 => ?_) (fun q1 => ?_)
  · have q1 : (q : Int) < (kmin m x.n : Int) := of_decide_eq_true q1
    have hq : q < kmin m x.n := by omega
    obtain ⟨z, hz⟩ := get_some (l := x.l) (i := q) (by omega)
    have hs := hrx.1
    rcases hs with ⟨_, h0, _⟩ | ⟨xb, exb, rxb, _⟩
    · omega
    first | refine wN_skip ?_ | skip
    refine wN_seq ?_
    refine wN_idx (b := xb) (o := 0) (k := q) (j := (q : Int)) (by rw [← exb]; rfl) rfl rfl hq ?_
    refine wN_ld (b := xb) (o := 0 + q * 1) (v := iv z) rfl rxb (ints_at hz) ?_
    refine wN_mov (v := iv z) rfl ?_
    refine wN_end ?_
    refine wN_seq ?_
    refine wN_mov (v := iv z) rfl ?_
    refine wN_ld (b := bk) (o := 0) (v := iv b) rfl cb4 rfl ?_
    refine wN_c_geq (a := z) (b := b) rfl rfl ?_
    refine wN_end ?_
    refine And.intro (fun q2 => ?_) (fun q2 => ?_)
    · have q2 : z ≥ b := of_decide_eq_true q2
      refine wN_seq ?_
      refine wN_ld (b := bk + 1) (o := 0) (v := iv (cntB (rs.take i) b m)) rfl cn4.rd rfl ?_
      refine wN_add (a := cntB (rs.take i) b m) (b := 1) rfl rfl ⟨by omega, by omega⟩ ?_
      refine wN_st (b := bk + 1) (o := 0) (v := iv (cntB (rs.take i) b m + 1)) rfl rfl cn4 (by omega) rfl rfl (by simp) ?_
      intro H5 k5 n5 c5
      have hb : bnc x.l b m = true := by rw [bnc_take hlx hm0]; exact any_hit hz hq (decide_eq_true (by omega))
      have c5 : Cl H5 (bk + 1) [iv (cntB (rs.take (i + 1)) b m)] := by rw [cntB_step hx, hb]; exact c5
      refine wN_end ?_
      obtain ⟨f1, f2⟩ := fin H5 k5 c5
      exact And.intro f1 f2
    · have q2 : ¬ z ≥ b := of_decide_eq_false q2
      first | refine wN_skip ?_ | skip
      first | refine wN_reg ?_ | refine wN_blk ?_ | (refine wOps_nil ?_; refine wN_reg ?_)
      refine wN_add (a := (q : Int)) (b := 1) rfl rfl ⟨by omega, by omega⟩ ?_
      refine wN_mov (v := iv ((q : Int) + 1)) rfl ?_
      refine wN_end ?_
      exact ⟨k - 1, q + 1, by omega, ⟨by omega, rfl, by rw [any_step hz, hall]; exact decide_eq_false (by omega)⟩, rfl, rfl, rfl, rfl, rfl, trivial⟩
  · have q1 : ¬ ((q : Int) < (kmin m x.n : Int)) := of_decide_eq_false q1
    have e : q = kmin m x.n := by omega
    have hb : bnc x.l b m = false := by rw [bnc_take hlx hm0, ← e]; exact hall
    obtain ⟨f1, f2⟩ := fin L1 (Keep.refl _ _) (by rw [cntB_step hx, hb]; simpa using cn4)
    exact And.intro f1 f2
set_option maxRecDepth 100000 in
/-- bouncing -/
theorem bounce35_ok {sa : Option Addr} {n cap : Nat} {rs : List Rw} {b m : Int} (hm0 : 0 ≤ m) (hr : Rws H H.next sa n cap rs) (hm : ∀ r ∈ rs, r.n ≤ 1000000) (hn : n ≤ 1000000) (hlo : lo ≤ H.next) :
    ∃ H', FnX Try.prog kn lo 35 [.slice sa n cap, iv b, iv m] H (iv (cntB rs b m)) H' ∧ Keep H H' [] := by
  have key := fnX_lowR (kn := kn) (lo := lo) (H := H) (args := [.slice sa n cap, iv b, iv m]) (Q := fun w H' => w = iv (cntB rs b m) ∧ Keep H H' []) Try.func35 B35 N35 Z35 L35 (by simp) ?_
  · obtain ⟨w, H', h, rfl, q⟩ := key; exact ⟨H', h, q⟩
  intro y hy
  refine TriR.lowR hy ?_
  refine wN_reg ?_
  refine wN_box (v := iv b) rfl ?_
  intro H1 k1 n1 c1
  have c1 : Cl H1 H.next [iv b] := c1
  refine wN_mov (v := iv 0) rfl ?_
  refine wN_end ?_
  intro y hy
  refine TriR.lowS hy ?_
  intro y hy
  refine TriR.lowR hy ?_
  refine wN_reg ?_
  refine wN_alc ?_
  intro H2 k2 n2 c2
  refine wN_st (b := H1.next) (o := 0) (v := iv 0) rfl rfl c2 (by omega) rfl rfl (by simp) ?_
  intro H3 k3 n3 c3
  have c3 : Cl H3 H1.next [iv 0] := c3
  refine wN_end ?_
  intro y hy
  refine TriR.lowR hy ?_
  refine wN_skip ?_
  intro y hy
  refine TriR.lowL hy ?_
  intro z hz
  refine TriR.lowR hz ?_
  refine wN_reg ?_
  refine wN_mov (v := .slice sa n cap) rfl ?_
  refine wN_mov (v := iv m) rfl ?_
  obtain ⟨H4, f4, k4, n4, r4, t4⟩ := first55_ok (kn := kn) (lo := lo) (H := H3) (sa := sa) (n := n) (cap := cap) (m := m) (by omega)
  refine wN_callf (vs := [.slice sa n cap, iv m]) rfl (callX_args f4) ?_
  refine wN_end ?_
  intro y hy
  refine TriR.lowB hy ?_
  rw [E35_1]
  refine TriR.range rfl ?_
  intro H5 k5 n5 hdf hlp
  have e1 : H1.next = H.next + 1 := by omega
  have e3 : H3.next = H.next + 2 := by omega
  have e4 : H4.next = H.next + 4 := by omega
  have hlp : Lp Try.prog H5 (H4.next + 1) .ready none 28 [(4, pt H.next), (7, pt H1.next)] [14] asg35 body35 H4.next := hlp.weak ⟨rfl, rfl, trivial⟩
  rw [e1, e4] at hlp
  rw [e4] at hdf n5
  rw [e3] at r4 t4
  have k25 : Keep H2 H5 [H1.next] := (k3.trans (k4.mono (by simp))).trans (k5.mono (by simp))
  have k15 : Keep H1 H5 [] := k2.new k25 (fun y hy => .inr (by simp at hy; omega))
  have k05 : Keep H H5 [] := k1.trans k15
  have k35 : Keep H3 H5 [] := k4.trans k5
  have j0 : J35 H sa n cap rs b m H.next (H.next + 2) (H.next + 2 + 1) (H.next + 4 + 1) 0 H5 := ⟨k05, hr.keep k05 (by simp), (k15.cl c1 (by simp)).rd, by have := k35.cl c3 (by simp); rw [e1] at this; exact this, k5.rd r4 (by simp), k5.rd t4 (by simp), hlp, hdf, by omega⟩
  obtain ⟨H6, f6, j6⟩ := iter64_ok (kn := kn) (lo := lo) (H := H5) (l := H.next + 4 + 1) (J := J35 H sa n cap rs b m H.next (H.next + 2) (H.next + 2 + 1) (H.next + 4 + 1)) hm0 j0 (fun i H1' j => ⟨j.cr, j.ct, j.hr⟩) hn
    (fun i x H1' hi hx j => round35 hm0 hi hn hx (hm x (List.mem_of_getElem? hx)) hlo (Nat.le_refl _) (by omega) (by omega) (by omega) j)
  refine Exists.intro _ (Exists.intro H6 (And.intro (callX_func rfl (by rw [e4, e3]; simpa using f6)) ?_))
  have lp6 : Lp Try.prog H6 (H4.next + 1) .ready none 28 (S35 H.next) [14] asg35 body35 H4.next := by rw [e4]; exact j6.lp
  refine ⟨.ready, none, _, lp6, by simp, ?_⟩
  intro H7 s7
  have k7 := s7.keep
  have hn7 : H7.next = H6.next := s7.1
  rw [e4] at k7
  have ll := j6.ll
  have nl : ∀ y, y ≠ H.next + 4 + 1 → y ∉ [H.next + 4 + 1] := fun y hy => by simpa using hy
  have d7 : H7.t.get H4.next = some (.dfr (some [])) := by rw [e4, k7.2 _ (by omega) (nl _ (by omega))]; exact j6.dfr
  have c7 := k7.cl j6.cn (nl _ (by omega))
  rw [List.take_of_length_le (by have := hr.rl; omega), ← e1] at c7
  have kp7 : Keep H H7 [] := j6.kp.new k7 (fun y hy => .inr (by simp at hy; omega))
  refine wN_seq ?_
  refine wN_ld (b := H1.next) (o := 0) (v := iv (cntB rs b m)) rfl c7.rd rfl ?_
  refine wN_mov (v := iv (cntB rs b m)) rfl ?_
  refine wN_end ?_
  refine And.intro trivial (Or.inr ⟨H4.next, rfl, by omega, d7, fun H8 hn8 k8 => ?_⟩)
  exact ⟨_, rfl, rfl, kp7.new k8 (fun y hy => .inr (by simp at hy; omega))⟩
theorem Rws.upTo {H : Hp} {f f' : Nat} {sa : Option Addr} {n cap : Nat} {rs : List Rw} (h : Rws H f sa n cap rs) (hf : f ≤ f') : Rws H f' sa n cap rs where
  r := h.r.imp id fun ⟨b, o, cs, e, r, hb, q⟩ => ⟨b, o, cs, e, r, by omega, q⟩
  rl := h.rl
  ri := fun r hq => by
    obtain ⟨h1, h2, h3⟩ := h.ri r hq
    exact ⟨h1, h2, fun x e => ⟨by have := (h3 x e).1; omega, (h3 x e).2⟩⟩
/-- Bounce -/
theorem bounce19_ok {sa : Option Addr} {n cap f : Nat} {rs : List Rw} {b m : Int} (hr : Rws H f sa n cap rs) (hf : f ≤ H.next) (hm : ∀ r ∈ rs, r.n ≤ 1000000) (hn : n ≤ 1000000) (hlo : lo ≤ H.next) :
    ∃ H', FnX Try.prog kn lo 19 [.slice sa n cap, iv b, iv m] H (.tuple #[iv (boN rs b m), iv (boE rs b m)]) H' ∧ Keep H H' [] := by
  have key := fnX_low (kn := kn) (lo := lo) (H := H) (args := [.slice sa n cap, iv b, iv m]) (Q := fun w H' => w = (.tuple #[iv (boN rs b m), iv (boE rs b m)]) ∧ Keep H H' []) Try.func19 B19 N19 Z19 L19 (by simp) ?_
  · obtain ⟨w, H', h, rfl, q⟩ := key; exact ⟨H', h, q⟩
  have hk := Keep.refl H []
  refine wN_seq ?_
  refine wN_mov (v := iv 0) rfl ?_
  refine wN_mov (v := iv 0) rfl ?_
  refine wN_end ?_
  refine wN_seq ?_
  refine wN_mov (v := .slice sa n cap) rfl ?_
  refine wN_callB rfl (valid34_ok hr hm) ?_
  intro tH1 H1 hH1 kH1
  have mH1 := kH1.1
  have hk := hk.trans kH1
  have hr := hr.keep kH1 (by simp)
  cases tH1
  · have hvd : rwsOk rs = false := hH1
    refine wN_pur (v := .bool true) rfl rfl ?_
    refine wN_end ?_
    refine condT ?_
    refine wN_seq ?_
    refine wN_mov (v := iv 0) rfl ?_
    refine wN_mov (v := iv 1) rfl ?_
    refine wN_end ?_
    have e1 : boE rs b m = 1 := by unfold boE; rw [hvd]; rfl
    have e2 : boN rs b m = 0 := by unfold boN; rw [e1]; rfl
    exact And.intro trivial (Exists.intro _ (And.intro rfl ⟨by rw [e1, e2]; rfl, hk⟩))
  · have hvd : rwsOk rs = true := hH1
    refine wN_pur (v := .bool false) rfl rfl ?_
    refine wN_end ?_
    refine condF ?_
    first | refine wN_skip ?_ | skip
    refine wN_seq ?_
    refine wN_mov (v := iv b) rfl ?_
    refine wN_callB rfl (isw_ok) ?_
    intro tH2 H2 hH2 kH2
    have mH2 := kH2.1
    have hk := hk.trans kH2
    have hr := hr.keep kH2 (by simp)
    cases tH2
    · have fhH2 := isw_f hH2
      refine wN_pur (v := .bool true) rfl rfl ?_
      refine wN_mov (v := .bool true) rfl ?_
      refine wN_gs rfl ?_
      refine wN_gs rfl ?_
      refine wN_gs rfl ?_
      refine wN_pur (v := .bool true) rfl rfl ?_
      refine wN_end ?_
      refine condT ?_
      refine wN_seq ?_
      refine wN_mov (v := iv 0) rfl ?_
      refine wN_mov (v := iv 2) rfl ?_
      refine wN_end ?_
      have e1 : boE rs b m = 2 := by unfold boE; rw [if_pos hvd, if_neg (by simp only [isw, Bool.and_eq_true, Bool.and_eq_false_iff, Bool.or_eq_true, Bool.or_eq_false_iff, Bool.not_eq_true', Bool.not_eq_false', decide_eq_true_eq, decide_eq_false_iff_not]; omega)]
      have e2 : boN rs b m = 0 := by unfold boN; rw [e1]; rfl
      exact And.intro trivial (Exists.intro _ (And.intro rfl ⟨by rw [e1, e2]; rfl, hk⟩))
    · have fhH2 := isw_t hH2
      refine wN_pur (v := .bool false) rfl rfl ?_
      refine wN_mov (v := .bool false) rfl ?_
      refine wN_g rfl (wN_mov (v := iv m) rfl ?_)
      refine wN_g rfl (wN_callB rfl (isw_ok) ?_)
      intro tH3 H3 hH3 kH3
      have mH3 := kH3.1
      have hk := hk.trans kH3
      have hr := hr.keep kH3 (by simp)
      cases tH3
      · have fhH3 := isw_f hH3
        refine wN_g rfl (wN_pur (v := .bool true) rfl rfl ?_)
        refine wN_pur (v := .bool true) rfl rfl ?_
        refine wN_end ?_
        refine condT ?_
        refine wN_seq ?_
        refine wN_mov (v := iv 0) rfl ?_
        refine wN_mov (v := iv 2) rfl ?_
        refine wN_end ?_
        have e1 : boE rs b m = 2 := by unfold boE; rw [if_pos hvd, if_neg (by simp only [isw, Bool.and_eq_true, Bool.and_eq_false_iff, Bool.or_eq_true, Bool.or_eq_false_iff, Bool.not_eq_true', Bool.not_eq_false', decide_eq_true_eq, decide_eq_false_iff_not]; omega)]
        have e2 : boN rs b m = 0 := by unfold boN; rw [e1]; rfl
        exact And.intro trivial (Exists.intro _ (And.intro rfl ⟨by rw [e1, e2]; rfl, hk⟩))
      · have fhH3 := isw_t hH3
        refine wN_g rfl (wN_pur (v := .bool false) rfl rfl ?_)
        refine wN_pur (v := .bool false) rfl rfl ?_
        refine wN_end ?_
        refine condF ?_
        first | refine wN_skip ?_ | skip
        refine wN_seq ?_
        refine wN_mov (v := .slice sa n cap) rfl ?_
        refine wN_mov (v := iv b) rfl ?_
        refine wN_mov (v := iv m) rfl ?_
        obtain ⟨H4, fH4, kH4⟩ := bounce35_ok (kn := kn) (lo := lo) (H := H3) (b := b) (m := m) (by omega) (hr.upTo (by omega)) hm hn (by omega)
        refine wN_callf (vs := [.slice sa n cap, iv b, iv m]) rfl (callX_args fH4) ?_
        have mH4 := kH4.1
        have hk := hk.trans kH4
        have hr := hr.keep kH4 (by simp)
        refine wN_mov (v := iv (cntB rs b m)) rfl ?_
        refine wN_mov (v := iv 0) rfl ?_
        refine wN_end ?_
        have e1 : boE rs b m = 0 := by unfold boE; rw [if_pos hvd, if_pos (by simp only [isw, Bool.and_eq_true, Bool.and_eq_false_iff, Bool.or_eq_true, Bool.or_eq_false_iff, Bool.not_eq_true', Bool.not_eq_false', decide_eq_true_eq, decide_eq_false_iff_not]; omega)]
        have e2 : boN rs b m = cntB rs b m := by unfold boN; rw [e1]; rfl
        exact And.intro trivial (Exists.intro _ (And.intro rfl ⟨by rw [e1, e2]; rfl, hk⟩))
end
end Go.Ax

/-! What 'low' makes of functions of station (written by program). -/
namespace Go.Ax
open Go Go.RowKit Go.Proofs
noncomputable def R3 : RC := (.seq (.reg [⟨(some 6), none, (.mov (.const (.bool false)))⟩])
  (.seq (.seq (.reg [⟨(some 15), none, (.mov (.tmp 0))⟩, ⟨(some 16), none, (.len (.tmp 15))⟩, ⟨(some 17), none, (.cmp .gtr (.tmp 16) (.const (.int .i64 70)))⟩])
  (.cond (.tmp 17) (.seq (.reg [⟨(some 18), none, (.call ⟨(.value (.func 10)), (List.toArray []), (List.toArray [])⟩ true)⟩, ⟨(some 6), none, (.mov (.tmp 18))⟩])
  .ret)
  .skip))
  (.seq (.reg [⟨(some 20), none, (.mov (.tmp 0))⟩, ⟨(some 21), none, (.mov (.tmp 1))⟩, ⟨(some 22), none, (.call ⟨(.value (.func 11)), (List.toArray [(.tmp 20), (.tmp 21)]), (List.toArray [22, 3])⟩ true)⟩, ⟨(some 19), none, (.mov (.tmp 22))⟩, ⟨(some 23), none, (.pur ⟨(some 23), (.extract (.tmp 19) 0), 24, "", (List.toArray []), none⟩)⟩, ⟨(some 24), none, (.pur ⟨(some 24), (.extract (.tmp 19) 1), 25, "", (List.toArray []), none⟩)⟩, ⟨(some 7), none, (.mov (.tmp 23))⟩, ⟨(some 8), none, (.mov (.tmp 24))⟩])
  (.seq (.reg [⟨(some 26), none, (.mov (.tmp 0))⟩, ⟨(some 27), none, (.mov (.tmp 1))⟩, ⟨(some 28), none, (.call ⟨(.value (.func 12)), (List.toArray [(.tmp 26), (.tmp 27)]), (List.toArray [22, 3])⟩ true)⟩, ⟨(some 25), none, (.mov (.tmp 28))⟩, ⟨(some 29), none, (.pur ⟨(some 29), (.extract (.tmp 25) 0), 24, "", (List.toArray []), none⟩)⟩, ⟨(some 30), none, (.pur ⟨(some 30), (.extract (.tmp 25) 1), 25, "", (List.toArray []), none⟩)⟩, ⟨(some 9), none, (.mov (.tmp 29))⟩, ⟨(some 10), none, (.mov (.tmp 30))⟩])
  (.seq (.reg [⟨(some 32), none, (.mov (.tmp 0))⟩, ⟨(some 33), none, (.mov (.tmp 2))⟩, ⟨(some 34), none, (.call ⟨(.value (.func 13)), (List.toArray [(.tmp 32), (.tmp 33)]), (List.toArray [22, 3])⟩ true)⟩, ⟨(some 31), none, (.mov (.tmp 34))⟩, ⟨(some 35), none, (.pur ⟨(some 35), (.extract (.tmp 31) 0), 3, "", (List.toArray []), none⟩)⟩, ⟨(some 36), none, (.pur ⟨(some 36), (.extract (.tmp 31) 1), 25, "", (List.toArray []), none⟩)⟩, ⟨(some 11), none, (.mov (.tmp 35))⟩, ⟨(some 12), none, (.mov (.tmp 36))⟩])
  (.seq (.reg [⟨(some 38), none, (.mov (.tmp 0))⟩, ⟨(some 39), none, (.mov (.tmp 2))⟩, ⟨(some 40), none, (.call ⟨(.value (.func 14)), (List.toArray [(.tmp 38), (.tmp 39)]), (List.toArray [22, 3])⟩ true)⟩, ⟨(some 37), none, (.mov (.tmp 40))⟩, ⟨(some 41), none, (.pur ⟨(some 41), (.extract (.tmp 37) 0), 3, "", (List.toArray []), none⟩)⟩, ⟨(some 42), none, (.pur ⟨(some 42), (.extract (.tmp 37) 1), 25, "", (List.toArray []), none⟩)⟩, ⟨(some 13), none, (.mov (.tmp 41))⟩, ⟨(some 14), none, (.mov (.tmp 42))⟩])
  (.seq (.reg [⟨(some 43), none, (.mov (.tmp 7))⟩, ⟨(some 44), none, (.mov (.tmp 9))⟩, ⟨(some 45), none, (.call ⟨(.value (.func 15)), (List.toArray [(.tmp 43), (.tmp 44)]), (List.toArray [24, 24])⟩ true)⟩, ⟨(some 46), none, (.mov (.tmp 45))⟩, ⟨(some 47), (some (46, true)), (.mov (.tmp 8))⟩, ⟨(some 48), (some (46, true)), (.mov (.tmp 10))⟩, ⟨(some 49), (some (46, true)), (.cmpb .eql (.tmp 47) (.tmp 48))⟩, ⟨(some 50), none, (.pur ⟨(some 50), (.pick (.tmp 46) (.tmp 49) (.const (.bool false))), 4, "", (List.toArray []), none⟩)⟩, ⟨(some 51), none, (.mov (.tmp 50))⟩, ⟨(some 52), (some (51, true)), (.mov (.tmp 11))⟩, ⟨(some 53), (some (51, true)), (.mov (.tmp 13))⟩, ⟨(some 54), (some (51, true)), (.cmpb .eql (.tmp 52) (.tmp 53))⟩, ⟨(some 55), none, (.pur ⟨(some 55), (.pick (.tmp 51) (.tmp 54) (.const (.bool false))), 4, "", (List.toArray []), none⟩)⟩, ⟨(some 56), none, (.mov (.tmp 55))⟩, ⟨(some 57), (some (56, true)), (.mov (.tmp 12))⟩, ⟨(some 58), (some (56, true)), (.mov (.tmp 14))⟩, ⟨(some 59), (some (56, true)), (.cmpb .eql (.tmp 57) (.tmp 58))⟩, ⟨(some 60), none, (.pur ⟨(some 60), (.pick (.tmp 56) (.tmp 59) (.const (.bool false))), 4, "", (List.toArray []), none⟩)⟩, ⟨(some 61), none, (.mov (.tmp 60))⟩, ⟨(some 62), (some (61, true)), (.call ⟨(.value (.func 10)), (List.toArray []), (List.toArray [])⟩ true)⟩, ⟨(some 63), none, (.pur ⟨(some 63), (.pick (.tmp 61) (.tmp 62) (.const (.bool false))), 4, "", (List.toArray []), none⟩)⟩, ⟨(some 6), none, (.mov (.tmp 63))⟩])
  .ret)))))))
theorem L3 : low Try.prog Try.f3.ntmps (at_ Try.f3 []) = some R3 := by kernel_rfl
noncomputable def R4 : RC := (.seq (.reg [⟨(some 4), none, (.box 34 (.tmp 0))⟩, ⟨(some 8), none, (.mov (.const (.bool false)))⟩])
  (.seq (.seq (.reg [⟨(some 17), none, (.addo (.tmp 4) 5)⟩, ⟨(some 18), none, (.ld (.tmp 17) 1)⟩, ⟨(some 19), none, (.len (.tmp 18))⟩, ⟨(some 20), none, (.cmpb .gtr (.tmp 19) (.const (.int .i64 40)))⟩, ⟨(some 21), none, (.mov (.tmp 20))⟩, ⟨(some 22), (some (21, false)), (.mov (.tmp 1))⟩, ⟨(some 23), (some (21, false)), (.call ⟨(.value (.func 16)), (List.toArray [(.tmp 22)]), (List.toArray [35])⟩ true)⟩, ⟨(some 24), none, (.pur ⟨(some 24), (.pick (.tmp 21) (.const (.bool true)) (.tmp 23)), 4, "", (List.toArray []), none⟩)⟩])
  (.cond (.tmp 24) (.seq (.reg [⟨(some 25), none, (.call ⟨(.value (.func 10)), (List.toArray []), (List.toArray [])⟩ true)⟩, ⟨(some 8), none, (.mov (.tmp 25))⟩])
  .ret)
  .skip))
  (.seq (.reg [⟨(some 27), none, (.lda (.tmp 4) 6)⟩, ⟨(some 28), none, (.call ⟨(.value (.func 17)), (List.toArray [(.tmp 27)]), (List.toArray [34])⟩ true)⟩, ⟨(some 26), none, (.mov (.tmp 28))⟩, ⟨(some 29), none, (.pur ⟨(some 29), (.extract (.tmp 26) 0), 38, "", (List.toArray []), none⟩)⟩, ⟨(some 30), none, (.pur ⟨(some 30), (.extract (.tmp 26) 1), 25, "", (List.toArray []), none⟩)⟩, ⟨(some 9), none, (.alc 38 [(.int .i64 0), (.int .i64 0), (.int .i64 0), (.int .i64 0), (.int .i64 0), (.int .i64 0)])⟩, ⟨none, none, (.sta (.tmp 9) (.tmp 29) 6)⟩, ⟨(some 10), none, (.mov (.tmp 30))⟩])
  (.seq (.reg [⟨(some 32), none, (.lda (.tmp 4) 6)⟩, ⟨(some 33), none, (.call ⟨(.value (.func 18)), (List.toArray [(.tmp 32)]), (List.toArray [34])⟩ true)⟩, ⟨(some 31), none, (.mov (.tmp 33))⟩, ⟨(some 34), none, (.pur ⟨(some 34), (.extract (.tmp 31) 0), 38, "", (List.toArray []), none⟩)⟩, ⟨(some 35), none, (.pur ⟨(some 35), (.extract (.tmp 31) 1), 25, "", (List.toArray []), none⟩)⟩, ⟨(some 11), none, (.alc 38 [(.int .i64 0), (.int .i64 0), (.int .i64 0), (.int .i64 0), (.int .i64 0), (.int .i64 0)])⟩, ⟨none, none, (.sta (.tmp 11) (.tmp 34) 6)⟩, ⟨(some 12), none, (.mov (.tmp 35))⟩])
  (.seq (.reg [⟨(some 37), none, (.mov (.tmp 1))⟩, ⟨(some 38), none, (.mov (.tmp 2))⟩, ⟨(some 39), none, (.mov (.tmp 3))⟩, ⟨(some 40), none, (.call ⟨(.value (.func 19)), (List.toArray [(.tmp 37), (.tmp 38), (.tmp 39)]), (List.toArray [35, 3, 3])⟩ true)⟩, ⟨(some 36), none, (.mov (.tmp 40))⟩, ⟨(some 41), none, (.pur ⟨(some 41), (.extract (.tmp 36) 0), 3, "", (List.toArray []), none⟩)⟩, ⟨(some 42), none, (.pur ⟨(some 42), (.extract (.tmp 36) 1), 25, "", (List.toArray []), none⟩)⟩, ⟨(some 13), none, (.mov (.tmp 41))⟩, ⟨(some 14), none, (.mov (.tmp 42))⟩])
  (.seq (.reg [⟨(some 44), none, (.mov (.tmp 1))⟩, ⟨(some 45), none, (.mov (.tmp 2))⟩, ⟨(some 46), none, (.mov (.tmp 3))⟩, ⟨(some 47), none, (.call ⟨(.value (.func 20)), (List.toArray [(.tmp 44), (.tmp 45), (.tmp 46)]), (List.toArray [35, 3, 3])⟩ true)⟩, ⟨(some 43), none, (.mov (.tmp 47))⟩, ⟨(some 48), none, (.pur ⟨(some 48), (.extract (.tmp 43) 0), 3, "", (List.toArray []), none⟩)⟩, ⟨(some 49), none, (.pur ⟨(some 49), (.extract (.tmp 43) 1), 25, "", (List.toArray []), none⟩)⟩, ⟨(some 15), none, (.mov (.tmp 48))⟩, ⟨(some 16), none, (.mov (.tmp 49))⟩])
  (.seq (.reg [⟨(some 50), none, (.lda (.tmp 9) 6)⟩, ⟨(some 51), none, (.lda (.tmp 11) 6)⟩, ⟨(some 52), none, (.pur ⟨(some 52), (.binOp .eql 38 (.tmp 50) (.tmp 51) 38), 4, "", (List.toArray []), none⟩)⟩, ⟨(some 53), none, (.mov (.tmp 52))⟩, ⟨(some 54), (some (53, true)), (.mov (.tmp 10))⟩, ⟨(some 55), (some (53, true)), (.mov (.tmp 12))⟩, ⟨(some 56), (some (53, true)), (.cmpb .eql (.tmp 54) (.tmp 55))⟩, ⟨(some 57), none, (.pur ⟨(some 57), (.pick (.tmp 53) (.tmp 56) (.const (.bool false))), 4, "", (List.toArray []), none⟩)⟩, ⟨(some 58), none, (.mov (.tmp 57))⟩, ⟨(some 59), (some (58, true)), (.mov (.tmp 13))⟩, ⟨(some 60), (some (58, true)), (.mov (.tmp 15))⟩, ⟨(some 61), (some (58, true)), (.cmpb .eql (.tmp 59) (.tmp 60))⟩, ⟨(some 62), none, (.pur ⟨(some 62), (.pick (.tmp 58) (.tmp 61) (.const (.bool false))), 4, "", (List.toArray []), none⟩)⟩, ⟨(some 63), none, (.mov (.tmp 62))⟩, ⟨(some 64), (some (63, true)), (.mov (.tmp 14))⟩, ⟨(some 65), (some (63, true)), (.mov (.tmp 16))⟩, ⟨(some 66), (some (63, true)), (.cmpb .eql (.tmp 64) (.tmp 65))⟩, ⟨(some 67), none, (.pur ⟨(some 67), (.pick (.tmp 63) (.tmp 66) (.const (.bool false))), 4, "", (List.toArray []), none⟩)⟩, ⟨(some 68), none, (.mov (.tmp 67))⟩, ⟨(some 69), (some (68, true)), (.call ⟨(.value (.func 10)), (List.toArray []), (List.toArray [])⟩ true)⟩, ⟨(some 70), none, (.pur ⟨(some 70), (.pick (.tmp 68) (.tmp 69) (.const (.bool false))), 4, "", (List.toArray []), none⟩)⟩, ⟨(some 8), none, (.mov (.tmp 70))⟩])
  .ret)))))))
theorem L4 : low Try.prog Try.f4.ntmps (at_ Try.f4 []) = some R4 := by kernel_rfl
theorem N5 : Try.f5.ntmps = 246 := by kernel_rfl
theorem Z5 : Try.f5.results.toList = ((List.toArray [(.tmp 6)]) : Array ResultVar).toList := by kernel_rfl
theorem B5 : Try.f5.body = some (at_ Try.f5 []) := by kernel_rfl
noncomputable def R5 : RC := (.seq (.reg [⟨(some 6), none, (.mov (.const (.bool false)))⟩])
  (.seq (.seq (.reg [⟨(some 18), none, (.mov (.tmp 0))⟩, ⟨(some 19), none, (.len (.tmp 18))⟩, ⟨(some 20), none, (.cmpb .gtr (.tmp 19) (.const (.int .i64 20)))⟩, ⟨(some 21), none, (.mov (.tmp 20))⟩, ⟨(some 22), (some (21, false)), (.mov (.tmp 2))⟩, ⟨(some 23), (some (21, false)), (.len (.tmp 22))⟩, ⟨(some 24), (some (21, false)), (.cmpb .eql (.tmp 23) (.const (.int .i64 0)))⟩, ⟨(some 25), none, (.pur ⟨(some 25), (.pick (.tmp 21) (.const (.bool true)) (.tmp 24)), 4, "", (List.toArray []), none⟩)⟩])
  (.cond (.tmp 25) (.seq (.reg [⟨(some 26), none, (.call ⟨(.value (.func 10)), (List.toArray []), (List.toArray [])⟩ true)⟩, ⟨(some 6), none, (.mov (.tmp 26))⟩])
  .ret)
  .skip))
  (.seq (.reg [⟨(some 28), none, (.mov (.tmp 0))⟩, ⟨(some 29), none, (.mov (.tmp 1))⟩, ⟨(some 30), none, (.call ⟨(.value (.func 11)), (List.toArray [(.tmp 28), (.tmp 29)]), (List.toArray [22, 3])⟩ true)⟩, ⟨(some 27), none, (.mov (.tmp 30))⟩, ⟨(some 31), none, (.pur ⟨(some 31), (.extract (.tmp 27) 0), 24, "", (List.toArray []), none⟩)⟩, ⟨(some 32), none, (.pur ⟨(some 32), (.extract (.tmp 27) 1), 25, "", (List.toArray []), none⟩)⟩, ⟨(some 7), none, (.mov (.tmp 31))⟩, ⟨(some 8), none, (.mov (.tmp 32))⟩])
  (.seq (.seq (.reg [⟨(some 33), none, (.mov (.tmp 8))⟩, ⟨(some 34), none, (.cmp .neq (.tmp 33) (.const (.int .i64 0)))⟩])
  (.cond (.tmp 34) (.seq (.reg [⟨(some 35), none, (.mov (.tmp 7))⟩, ⟨(some 36), none, (.len (.tmp 35))⟩, ⟨(some 37), none, (.cmpb .eql (.tmp 36) (.const (.int .i64 0)))⟩, ⟨(some 38), none, (.mov (.tmp 37))⟩, ⟨(some 39), (some (38, true)), (.mov (.tmp 8))⟩, ⟨(some 40), (some (38, true)), (.cmpb .eql (.tmp 39) (.const (.int .i64 1)))⟩, ⟨(some 41), (some (38, true)), (.mov (.tmp 40))⟩, ⟨(some 42), (some (41, false)), (.mov (.tmp 8))⟩, ⟨(some 43), (some (41, false)), (.cmpb .eql (.tmp 42) (.const (.int .i64 2)))⟩, ⟨(some 44), (some (38, true)), (.pur ⟨(some 44), (.pick (.tmp 41) (.const (.bool true)) (.tmp 43)), 4, "", (List.toArray []), none⟩)⟩, ⟨(some 45), none, (.pur ⟨(some 45), (.pick (.tmp 38) (.tmp 44) (.const (.bool false))), 4, "", (List.toArray []), none⟩)⟩, ⟨(some 46), none, (.mov (.tmp 45))⟩, ⟨(some 47), (some (46, true)), (.call ⟨(.value (.func 10)), (List.toArray []), (List.toArray [])⟩ true)⟩, ⟨(some 48), none, (.pur ⟨(some 48), (.pick (.tmp 46) (.tmp 47) (.const (.bool false))), 4, "", (List.toArray []), none⟩)⟩, ⟨(some 6), none, (.mov (.tmp 48))⟩])
  .ret)
  .skip))
  (.seq (.seq (.reg [⟨(some 49), none, (.mov (.tmp 0))⟩, ⟨(some 50), none, (.call ⟨(.value (.func 21)), (List.toArray [(.tmp 49)]), (List.toArray [22])⟩ true)⟩, ⟨(some 51), none, (.pur ⟨(some 51), (.unOp .not 4 (.tmp 50)), 4, "", (List.toArray []), none⟩)⟩, ⟨(some 52), none, (.mov (.tmp 51))⟩, ⟨(some 53), (some (52, false)), (.mov (.tmp 1))⟩, ⟨(some 54), (some (52, false)), (.cmpb .lss (.tmp 53) (.const (.int .i64 1)))⟩, ⟨(some 55), none, (.pur ⟨(some 55), (.pick (.tmp 52) (.const (.bool true)) (.tmp 54)), 4, "", (List.toArray []), none⟩)⟩, ⟨(some 56), none, (.mov (.tmp 55))⟩, ⟨(some 57), (some (56, false)), (.mov (.tmp 1))⟩, ⟨(some 58), (some (56, false)), (.cmpb .gtr (.tmp 57) (.const (.int .i64 8)))⟩, ⟨(some 59), none, (.pur ⟨(some 59), (.pick (.tmp 56) (.const (.bool true)) (.tmp 58)), 4, "", (List.toArray []), none⟩)⟩, ⟨(some 60), none, (.mov (.tmp 59))⟩, ⟨(some 61), (some (60, false)), (.mov (.tmp 7))⟩, ⟨(some 62), (some (60, false)), (.len (.tmp 61))⟩, ⟨(some 63), (some (60, false)), (.mov (.tmp 0))⟩, ⟨(some 64), (some (60, false)), (.len (.tmp 63))⟩, ⟨(some 65), (some (60, false)), (.cmpb .neq (.tmp 62) (.tmp 64))⟩, ⟨(some 66), none, (.pur ⟨(some 66), (.pick (.tmp 60) (.const (.bool true)) (.tmp 65)), 4, "", (List.toArray []), none⟩)⟩])
  (.cond (.tmp 66) (.seq (.reg [⟨(some 6), none, (.mov (.const (.bool false)))⟩])
  .ret)
  .skip))
  (.seq (.dreg [⟨(some 67), none, (.mov (.tmp 0))⟩, ⟨(some 68), none, (.len (.tmp 67))⟩, ⟨(some 69), none, (.mem ⟨(some 69), (.makeSlice 45 (.tmp 68) (.tmp 68)), 45, "", (List.toArray []), none⟩)⟩, ⟨(some 70), none, (.mov (.tmp 0))⟩, ⟨(some 71), none, (.len (.tmp 70))⟩, ⟨(some 72), none, (.mem ⟨(some 72), (.makeSlice 45 (.tmp 71) (.tmp 71)), 45, "", (List.toArray []), none⟩)⟩, ⟨(some 9), none, (.mov (.tmp 69))⟩, ⟨(some 10), none, (.mov (.tmp 72))⟩] [127, 7, 24, 8, 0, 3, 1, 0])
  (.seq (.seq (.reg [⟨(some 11), none, (.mov (.const (.int .i64 0)))⟩])
  (.block 0 (.other (at_ Try.f5 [1, 1, 1, 1, 1, 1, 0, 1, 0]))))
  (.seq (.reg [⟨(some 12), none, (.mov (.const (.slice none 0 0)))⟩])
  (.seq (.reg [⟨(some 13), none, (.mov (.const (.int .i64 0)))⟩])
  (.seq (.seq (.reg [⟨(some 14), none, (.mov (.const (.int .i64 0)))⟩])
  (.block 2 (.other (at_ Try.f5 [1, 1, 1, 1, 1, 1, 1, 1, 1, 0, 1, 0]))))
  (.seq (.reg [⟨(some 245), none, (.call ⟨(.value (.func 10)), (List.toArray []), (List.toArray [])⟩ true)⟩, ⟨(some 6), none, (.mov (.tmp 245))⟩])
  .ret)))))))))))
theorem L5 : low Try.prog Try.f5.ntmps (at_ Try.f5 []) = some R5 := by kernel_rfl
theorem E5_1 : at_ Try.f5 [1, 1, 1, 1, 1, 1, 0, 1, 0] = .loop (at_ Try.f5 [1, 1, 1, 1, 1, 1, 0, 1, 0, 0]) := by kernel_rfl
noncomputable def R5x1 : RC := (.seq (.seq (.reg [⟨(some 73), none, (.mov (.tmp 11))⟩, ⟨(some 74), none, (.mov (.tmp 0))⟩, ⟨(some 75), none, (.len (.tmp 74))⟩, ⟨(some 76), none, (.cmp .lss (.tmp 73) (.tmp 75))⟩])
  (.cond (.tmp 76) .skip
  (.exit 0)))
  (.seq (.block 1 (.seq (.dreg [⟨(some 79), none, (.mov (.tmp 9))⟩, ⟨(some 80), none, (.mov (.tmp 11))⟩, ⟨(some 81), none, (.mov (.tmp 0))⟩, ⟨(some 82), none, (.mov (.tmp 11))⟩, ⟨(some 83), none, (.idx (.tmp 81) (.tmp 82) 4)⟩, ⟨(some 84), none, (.addo (.tmp 83) 0)⟩, ⟨(some 85), none, (.addo (.tmp 84) 0)⟩, ⟨(some 86), none, (.ld (.tmp 85) 1)⟩, ⟨(some 87), none, (.mov (.tmp 2))⟩, ⟨(some 88), none, (.mov (.tmp 11))⟩, ⟨(some 89), none, (.mov (.tmp 2))⟩, ⟨(some 90), none, (.len (.tmp 89))⟩, ⟨(some 91), none, (.ari .rem (.tmp 88) (.tmp 90))⟩, ⟨(some 92), none, (.idx (.tmp 87) (.tmp 91) 1)⟩, ⟨(some 93), none, (.ld (.tmp 92) 1)⟩, ⟨(some 94), none, (.pur ⟨(some 94), (.convert 50 3 (.tmp 93)), 3, "", (List.toArray []), none⟩)⟩, ⟨(some 95), none, (.mov (.tmp 0))⟩, ⟨(some 96), none, (.mov (.tmp 11))⟩, ⟨(some 97), none, (.idx (.tmp 95) (.tmp 96) 4)⟩, ⟨(some 98), none, (.addo (.tmp 97) 0)⟩, ⟨(some 99), none, (.addo (.tmp 98) 1)⟩, ⟨(some 100), none, (.ld (.tmp 99) 1)⟩, ⟨(some 101), none, (.mov (.tmp 0))⟩, ⟨(some 102), none, (.mov (.tmp 11))⟩, ⟨(some 103), none, (.idx (.tmp 101) (.tmp 102) 4)⟩, ⟨(some 104), none, (.addo (.tmp 103) 0)⟩, ⟨(some 105), none, (.addo (.tmp 104) 0)⟩, ⟨(some 106), none, (.ld (.tmp 105) 1)⟩, ⟨(some 107), none, (.ari .sub (.tmp 100) (.tmp 106))⟩, ⟨(some 108), none, (.ari .add (.tmp 107) (.const (.int .i64 1)))⟩, ⟨(some 109), none, (.ari .rem (.tmp 94) (.tmp 108))⟩, ⟨(some 110), none, (.ari .add (.tmp 86) (.tmp 109))⟩, ⟨(some 111), none, (.idx (.tmp 79) (.tmp 80) 1)⟩, ⟨none, none, (.st (.tmp 111) (.tmp 110))⟩] [8589934591, 4294967295, 2147483644, 1073741568, 536805376, 268369920, 130023424, 62914560, 29360128, 12582912, 0, 0, 2031616, 983040, 458752, 196608, 0, 0, 32512, 16128, 7936, 3584, 1024, 0, 0, 0, 124, 60, 28, 12, 0, 0, 0, 0])
  (.seq (.dreg [⟨(some 112), none, (.mov (.tmp 10))⟩, ⟨(some 113), none, (.mov (.tmp 11))⟩, ⟨(some 114), none, (.mov (.tmp 0))⟩, ⟨(some 115), none, (.mov (.tmp 11))⟩, ⟨(some 116), none, (.idx (.tmp 114) (.tmp 115) 4)⟩, ⟨(some 117), none, (.addo (.tmp 116) 2)⟩, ⟨(some 118), none, (.addo (.tmp 117) 0)⟩, ⟨(some 119), none, (.ld (.tmp 118) 1)⟩, ⟨(some 120), none, (.mov (.tmp 2))⟩, ⟨(some 121), none, (.mov (.tmp 11))⟩, ⟨(some 122), none, (.ari .add (.tmp 121) (.const (.int .i64 1)))⟩, ⟨(some 123), none, (.mov (.tmp 2))⟩, ⟨(some 124), none, (.len (.tmp 123))⟩, ⟨(some 125), none, (.ari .rem (.tmp 122) (.tmp 124))⟩, ⟨(some 126), none, (.idx (.tmp 120) (.tmp 125) 1)⟩, ⟨(some 127), none, (.ld (.tmp 126) 1)⟩, ⟨(some 128), none, (.pur ⟨(some 128), (.convert 50 3 (.tmp 127)), 3, "", (List.toArray []), none⟩)⟩, ⟨(some 129), none, (.mov (.tmp 0))⟩, ⟨(some 130), none, (.mov (.tmp 11))⟩, ⟨(some 131), none, (.idx (.tmp 129) (.tmp 130) 4)⟩, ⟨(some 132), none, (.addo (.tmp 131) 2)⟩, ⟨(some 133), none, (.addo (.tmp 132) 1)⟩, ⟨(some 134), none, (.ld (.tmp 133) 1)⟩, ⟨(some 135), none, (.mov (.tmp 0))⟩, ⟨(some 136), none, (.mov (.tmp 11))⟩, ⟨(some 137), none, (.idx (.tmp 135) (.tmp 136) 4)⟩, ⟨(some 138), none, (.addo (.tmp 137) 2)⟩, ⟨(some 139), none, (.addo (.tmp 138) 0)⟩, ⟨(some 140), none, (.ld (.tmp 139) 1)⟩, ⟨(some 141), none, (.ari .sub (.tmp 134) (.tmp 140))⟩, ⟨(some 142), none, (.ari .add (.tmp 141) (.const (.int .i64 1)))⟩, ⟨(some 143), none, (.ari .rem (.tmp 128) (.tmp 142))⟩, ⟨(some 144), none, (.ari .add (.tmp 119) (.tmp 143))⟩, ⟨(some 145), none, (.idx (.tmp 112) (.tmp 113) 1)⟩, ⟨none, none, (.st (.tmp 145) (.tmp 144))⟩] [17179869183, 8589934591, 4294967292, 2147483392, 1073610752, 536739840, 260046848, 125829120, 58720256, 25165824, 0, 0, 4063232, 1966080, 917504, 393216, 0, 0, 65280, 32512, 16128, 7680, 2048, 0, 512, 0, 0, 124, 60, 28, 12, 0, 0, 0, 0])
  (.seq (.reg [⟨(some 146), none, (.mov (.tmp 9))⟩, ⟨(some 147), none, (.mov (.tmp 11))⟩, ⟨(some 148), none, (.idx (.tmp 146) (.tmp 147) 1)⟩, ⟨(some 149), none, (.ld (.tmp 148) 1)⟩, ⟨(some 150), none, (.cmp .gtr (.tmp 149) (.const (.int .i64 3000)))⟩])
  (.cond (.tmp 150) (.seq (.reg [⟨(some 151), none, (.call ⟨(.value (.func 10)), (List.toArray []), (List.toArray [])⟩ true)⟩, ⟨(some 6), none, (.mov (.tmp 151))⟩])
  .ret)
  .skip)))))
  (.reg [⟨(some 77), none, (.mov (.tmp 11))⟩, ⟨(some 78), none, (.ari .add (.tmp 77) (.const (.int .i64 1)))⟩, ⟨(some 11), none, (.mov (.tmp 78))⟩])))
theorem L5x1 : low Try.prog Try.f5.ntmps (at_ Try.f5 [1, 1, 1, 1, 1, 1, 0, 1, 0, 0]) = some R5x1 := by kernel_rfl
theorem E5_2 : at_ Try.f5 [1, 1, 1, 1, 1, 1, 1, 1, 1, 0, 1, 0] = .loop (at_ Try.f5 [1, 1, 1, 1, 1, 1, 1, 1, 1, 0, 1, 0, 0]) := by kernel_rfl
noncomputable def R5x2 : RC := (.seq (.seq (.reg [⟨(some 152), none, (.mov (.tmp 13))⟩, ⟨(some 153), none, (.mov (.tmp 0))⟩, ⟨(some 154), none, (.len (.tmp 153))⟩, ⟨(some 155), none, (.cmp .lss (.tmp 152) (.tmp 154))⟩])
  (.cond (.tmp 155) .skip
  (.exit 2)))
  (.seq (.block 3 (.seq (.reg [⟨(some 15), none, (.mov (.const (.slice none 0 0)))⟩])
  (.seq (.seq (.reg [⟨(some 16), none, (.mov (.const (.int .i64 0)))⟩])
  (.block 4 (.other (at_ Try.f5 [1, 1, 1, 1, 1, 1, 1, 1, 1, 0, 1, 0, 0, 1, 0, 0, 1, 0, 1, 0]))))
  (.seq (.reg [⟨(some 177), none, (.mov (.tmp 15))⟩, ⟨(some 12), none, (.mov (.tmp 177))⟩])
  (.block 6 (.other (at_ Try.f5 [1, 1, 1, 1, 1, 1, 1, 1, 1, 0, 1, 0, 0, 1, 0, 0, 1, 1, 1, 0])))))))
  (.reg [⟨(some 156), none, (.mov (.tmp 14))⟩, ⟨(some 157), none, (.ari .add (.tmp 156) (.const (.int .i64 1)))⟩, ⟨(some 14), none, (.mov (.tmp 157))⟩])))
theorem L5x2 : low Try.prog Try.f5.ntmps (at_ Try.f5 [1, 1, 1, 1, 1, 1, 1, 1, 1, 0, 1, 0, 0]) = some R5x2 := by kernel_rfl
theorem E5_3 : at_ Try.f5 [1, 1, 1, 1, 1, 1, 1, 1, 1, 0, 1, 0, 0, 1, 0, 0, 1, 0, 1, 0] = .loop (at_ Try.f5 [1, 1, 1, 1, 1, 1, 1, 1, 1, 0, 1, 0, 0, 1, 0, 0, 1, 0, 1, 0, 0]) := by kernel_rfl
noncomputable def R5x3 : RC := (.seq (.seq (.reg [⟨(some 158), none, (.mov (.tmp 16))⟩, ⟨(some 159), none, (.mov (.tmp 12))⟩, ⟨(some 160), none, (.len (.tmp 159))⟩, ⟨(some 161), none, (.cmp .lss (.tmp 158) (.tmp 160))⟩])
  (.cond (.tmp 161) .skip
  (.exit 4)))
  (.seq (.block 5 (.seq (.reg [⟨(some 164), none, (.mov (.tmp 12))⟩, ⟨(some 165), none, (.mov (.tmp 16))⟩, ⟨(some 166), none, (.idx (.tmp 164) (.tmp 165) 1)⟩, ⟨(some 167), none, (.ld (.tmp 166) 1)⟩, ⟨(some 168), none, (.mov (.tmp 14))⟩, ⟨(some 169), none, (.cmp .gtr (.tmp 167) (.tmp 168))⟩])
  (.cond (.tmp 169) (.reg [⟨(some 170), none, (.mov (.tmp 15))⟩, ⟨(some 171), none, (.mov (.tmp 12))⟩, ⟨(some 172), none, (.mov (.tmp 16))⟩, ⟨(some 173), none, (.idx (.tmp 171) (.tmp 172) 1)⟩, ⟨(some 174), none, (.ld (.tmp 173) 1)⟩, ⟨(some 175), none, (.mem ⟨(some 175), (.buildSlice 45 1 (List.toArray [(0, (.tmp 174))])), 45, "", (List.toArray []), none⟩)⟩, ⟨(some 176), none, (.mem ⟨(some 176), (.call ⟨(.builtin .append), (List.toArray [(.tmp 170), (.tmp 175)]), (List.toArray [45, 45])⟩), 45, "", (List.toArray []), none⟩)⟩, ⟨(some 15), none, (.mov (.tmp 176))⟩])
  .skip)))
  (.reg [⟨(some 162), none, (.mov (.tmp 16))⟩, ⟨(some 163), none, (.ari .add (.tmp 162) (.const (.int .i64 1)))⟩, ⟨(some 16), none, (.mov (.tmp 163))⟩])))
theorem L5x3 : low Try.prog Try.f5.ntmps (at_ Try.f5 [1, 1, 1, 1, 1, 1, 1, 1, 1, 0, 1, 0, 0, 1, 0, 0, 1, 0, 1, 0, 0]) = some R5x3 := by kernel_rfl
theorem E5_4 : at_ Try.f5 [1, 1, 1, 1, 1, 1, 1, 1, 1, 0, 1, 0, 0, 1, 0, 0, 1, 1, 1, 0] = .loop (at_ Try.f5 [1, 1, 1, 1, 1, 1, 1, 1, 1, 0, 1, 0, 0, 1, 0, 0, 1, 1, 1, 0, 0]) := by kernel_rfl
noncomputable def R5x4 : RC := (.seq (.seq (.reg [⟨(some 178), none, (.mov (.tmp 13))⟩, ⟨(some 179), none, (.mov (.tmp 0))⟩, ⟨(some 180), none, (.len (.tmp 179))⟩, ⟨(some 181), none, (.cmpb .lss (.tmp 178) (.tmp 180))⟩, ⟨(some 182), none, (.mov (.tmp 181))⟩, ⟨(some 183), (some (182, true)), (.mov (.tmp 9))⟩, ⟨(some 184), (some (182, true)), (.mov (.tmp 13))⟩, ⟨(some 185), (some (182, true)), (.idx (.tmp 183) (.tmp 184) 1)⟩, ⟨(some 186), (some (182, true)), (.ld (.tmp 185) 1)⟩, ⟨(some 187), (some (182, true)), (.mov (.tmp 14))⟩, ⟨(some 188), (some (182, true)), (.cmpb .leq (.tmp 186) (.tmp 187))⟩, ⟨(some 189), none, (.pur ⟨(some 189), (.pick (.tmp 182) (.tmp 188) (.const (.bool false))), 4, "", (List.toArray []), none⟩)⟩, ⟨(some 190), none, (.mov (.tmp 189))⟩, ⟨(some 191), (some (190, true)), (.mov (.tmp 12))⟩, ⟨(some 192), (some (190, true)), (.len (.tmp 191))⟩, ⟨(some 193), (some (190, true)), (.mov (.tmp 1))⟩, ⟨(some 194), (some (190, true)), (.cmpb .lss (.tmp 192) (.tmp 193))⟩, ⟨(some 195), none, (.pur ⟨(some 195), (.pick (.tmp 190) (.tmp 194) (.const (.bool false))), 4, "", (List.toArray []), none⟩)⟩])
  (.cond (.tmp 195) .skip
  (.exit 6)))
  (.block 7 (.seq (.reg [⟨(some 196), none, (.mov (.tmp 7))⟩, ⟨(some 197), none, (.mov (.tmp 13))⟩, ⟨(some 198), none, (.idx (.tmp 196) (.tmp 197) 6)⟩, ⟨(some 199), none, (.lda (.tmp 198) 6)⟩, ⟨(some 17), none, (.alc 52 [(.int .i64 0), (.int .i64 0), (.int .i64 0), (.int .i64 0), (.int .i64 0), (.int .i64 0)])⟩, ⟨none, none, (.sta (.tmp 17) (.tmp 199) 6)⟩])
  (.seq (.seq (.dreg [⟨(some 200), none, (.addo (.tmp 17) 0)⟩, ⟨(some 201), none, (.lda (.tmp 200) 2)⟩, ⟨(some 202), none, (.mov (.tmp 14))⟩, ⟨(some 203), none, (.call ⟨(.value (.func 22)), (List.toArray [(.tmp 201), (.tmp 202)]), (List.toArray [47, 3])⟩ true)⟩, ⟨(some 204), none, (.pur ⟨(some 204), (.unOp .not 4 (.tmp 203)), 4, "", (List.toArray []), none⟩)⟩, ⟨(some 205), none, (.mov (.tmp 204))⟩, ⟨(some 206), (some (205, false)), (.addo (.tmp 17) 2)⟩, ⟨(some 207), (some (205, false)), (.lda (.tmp 206) 2)⟩, ⟨(some 208), (some (205, false)), (.mov (.tmp 14))⟩, ⟨(some 209), (some (205, false)), (.mov (.tmp 10))⟩, ⟨(some 210), (some (205, false)), (.mov (.tmp 13))⟩, ⟨(some 211), (some (205, false)), (.idx (.tmp 209) (.tmp 210) 1)⟩, ⟨(some 212), (some (205, false)), (.ld (.tmp 211) 1)⟩, ⟨(some 213), (some (205, false)), (.ari .add (.tmp 208) (.tmp 212))⟩, ⟨(some 214), (some (205, false)), (.call ⟨(.value (.func 22)), (List.toArray [(.tmp 207), (.tmp 213)]), (List.toArray [47, 3])⟩ true)⟩, ⟨(some 215), (some (205, false)), (.pur ⟨(some 215), (.unOp .not 4 (.tmp 214)), 4, "", (List.toArray []), none⟩)⟩, ⟨(some 216), none, (.pur ⟨(some 216), (.pick (.tmp 205) (.const (.bool true)) (.tmp 215)), 4, "", (List.toArray []), none⟩)⟩, ⟨(some 217), none, (.mov (.tmp 216))⟩, ⟨(some 218), (some (217, false)), (.addo (.tmp 17) 4)⟩, ⟨(some 219), (some (217, false)), (.lda (.tmp 218) 2)⟩, ⟨(some 220), (some (217, false)), (.mov (.tmp 14))⟩, ⟨(some 221), (some (217, false)), (.mov (.tmp 9))⟩, ⟨(some 222), (some (217, false)), (.mov (.tmp 13))⟩, ⟨(some 223), (some (217, false)), (.idx (.tmp 221) (.tmp 222) 1)⟩, ⟨(some 224), (some (217, false)), (.ld (.tmp 223) 1)⟩, ⟨(some 225), (some (217, false)), (.ari .sub (.tmp 220) (.tmp 224))⟩, ⟨(some 226), (some (217, false)), (.call ⟨(.value (.func 22)), (List.toArray [(.tmp 219), (.tmp 225)]), (List.toArray [47, 3])⟩ true)⟩, ⟨(some 227), (some (217, false)), (.pur ⟨(some 227), (.unOp .not 4 (.tmp 226)), 4, "", (List.toArray []), none⟩)⟩, ⟨(some 228), none, (.pur ⟨(some 228), (.pick (.tmp 217) (.const (.bool true)) (.tmp 227)), 4, "", (List.toArray []), none⟩)⟩] [268435455, 134217727, 67108863, 32767999, 14942207, 6553599, 262143, 262143, 262143, 524287, 262143, 131071, 65535, 32767, 16383, 7999, 3647, 1599, 63, 63, 63, 127, 63, 31, 15, 7, 0, 1, 0])
  (.cond (.tmp 228) (.seq (.reg [⟨(some 6), none, (.mov (.const (.bool false)))⟩])
  .ret)
  .skip))
  (.seq (.seq (.reg [⟨(some 229), none, (.mov (.tmp 10))⟩, ⟨(some 230), none, (.mov (.tmp 13))⟩, ⟨(some 231), none, (.idx (.tmp 229) (.tmp 230) 1)⟩, ⟨(some 232), none, (.ld (.tmp 231) 1)⟩, ⟨(some 233), none, (.cmp .gtr (.tmp 232) (.const (.int .i64 0)))⟩])
  (.cond (.tmp 233) (.reg [⟨(some 234), none, (.mov (.tmp 12))⟩, ⟨(some 235), none, (.mov (.tmp 14))⟩, ⟨(some 236), none, (.mov (.tmp 10))⟩, ⟨(some 237), none, (.mov (.tmp 13))⟩, ⟨(some 238), none, (.idx (.tmp 236) (.tmp 237) 1)⟩, ⟨(some 239), none, (.ld (.tmp 238) 1)⟩, ⟨(some 240), none, (.ari .add (.tmp 235) (.tmp 239))⟩, ⟨(some 241), none, (.mem ⟨(some 241), (.buildSlice 45 1 (List.toArray [(0, (.tmp 240))])), 45, "", (List.toArray []), none⟩)⟩, ⟨(some 242), none, (.mem ⟨(some 242), (.call ⟨(.builtin .append), (List.toArray [(.tmp 234), (.tmp 241)]), (List.toArray [45, 45])⟩), 45, "", (List.toArray []), none⟩)⟩, ⟨(some 12), none, (.mov (.tmp 242))⟩])
  .skip))
  (.reg [⟨(some 243), none, (.mov (.tmp 13))⟩, ⟨(some 244), none, (.ari .add (.tmp 243) (.const (.int .i64 1)))⟩, ⟨(some 13), none, (.mov (.tmp 244))⟩]))))))
theorem L5x4 : low Try.prog Try.f5.ntmps (at_ Try.f5 [1, 1, 1, 1, 1, 1, 1, 1, 1, 0, 1, 0, 0, 1, 0, 0, 1, 1, 1, 0, 0]) = some R5x4 := by kernel_rfl
theorem N10 : Try.f10.ntmps = 78 := by kernel_rfl
theorem Z10 : Try.f10.results.toList = ((List.toArray [(.tmp 0)]) : Array ResultVar).toList := by kernel_rfl
theorem B10 : Try.f10.body = some (at_ Try.f10 []) := by kernel_rfl
noncomputable def R10 : RC := (.seq (.reg [⟨(some 0), none, (.mov (.const (.bool false)))⟩])
  (.seq (.reg [⟨(some 12), none, (.call ⟨(.value (.func 25)), (List.toArray []), (List.toArray [])⟩ true)⟩, ⟨(some 11), none, (.mov (.tmp 12))⟩, ⟨(some 13), none, (.pur ⟨(some 13), (.extract (.tmp 11) 0), 22, "", (List.toArray []), none⟩)⟩, ⟨(some 14), none, (.pur ⟨(some 14), (.extract (.tmp 11) 1), 34, "", (List.toArray []), none⟩)⟩, ⟨(some 2), none, (.alc 34 [(.int .i64 0), (.int .i64 0), (.int .i64 0), (.int .i64 0), (.int .i64 0), (.slice none 0 0)])⟩, ⟨(some 1), none, (.mov (.tmp 13))⟩, ⟨none, none, (.sta (.tmp 2) (.tmp 14) 6)⟩])
  (.seq (.reg [⟨(some 16), none, (.mov (.tmp 1))⟩, ⟨(some 17), none, (.call ⟨(.value (.func 11)), (List.toArray [(.tmp 16), (.const (.int .i64 2))]), (List.toArray [22, 3])⟩ true)⟩, ⟨(some 15), none, (.mov (.tmp 17))⟩, ⟨(some 18), none, (.pur ⟨(some 18), (.extract (.tmp 15) 0), 24, "", (List.toArray []), none⟩)⟩, ⟨(some 19), none, (.pur ⟨(some 19), (.extract (.tmp 15) 1), 25, "", (List.toArray []), none⟩)⟩, ⟨(some 3), none, (.mov (.tmp 18))⟩, ⟨(some 4), none, (.mov (.tmp 19))⟩])
  (.seq (.reg [⟨(some 21), none, (.mov (.tmp 1))⟩, ⟨(some 22), none, (.call ⟨(.value (.func 13)), (List.toArray [(.tmp 21), (.const (.int .i64 20))]), (List.toArray [22, 3])⟩ true)⟩, ⟨(some 20), none, (.mov (.tmp 22))⟩, ⟨(some 23), none, (.pur ⟨(some 23), (.extract (.tmp 20) 0), 3, "", (List.toArray []), none⟩)⟩, ⟨(some 24), none, (.pur ⟨(some 24), (.extract (.tmp 20) 1), 25, "", (List.toArray []), none⟩)⟩, ⟨(some 5), none, (.mov (.tmp 23))⟩, ⟨(some 6), none, (.mov (.tmp 24))⟩])
  (.seq (.reg [⟨(some 26), none, (.lda (.tmp 2) 6)⟩, ⟨(some 27), none, (.call ⟨(.value (.func 17)), (List.toArray [(.tmp 26)]), (List.toArray [34])⟩ true)⟩, ⟨(some 25), none, (.mov (.tmp 27))⟩, ⟨(some 28), none, (.pur ⟨(some 28), (.extract (.tmp 25) 0), 38, "", (List.toArray []), none⟩)⟩, ⟨(some 29), none, (.pur ⟨(some 29), (.extract (.tmp 25) 1), 25, "", (List.toArray []), none⟩)⟩, ⟨(some 7), none, (.alc 38 [(.int .i64 0), (.int .i64 0), (.int .i64 0), (.int .i64 0), (.int .i64 0), (.int .i64 0)])⟩, ⟨none, none, (.sta (.tmp 7) (.tmp 28) 6)⟩, ⟨(some 8), none, (.mov (.tmp 29))⟩])
  (.seq (.reg [⟨(some 31), none, (.mem ⟨(some 31), (.buildSlice 45 2 (List.toArray [(0, (.const (.int .i64 30))), (1, (.const (.int .i64 100)))])), 45, "", (List.toArray []), none⟩)⟩, ⟨(some 32), none, (.mem ⟨(some 32), (.buildSlice 45 4 (List.toArray [(0, (.const (.int .i64 90))), (1, (.const (.int .i64 90))), (2, (.const (.int .i64 90))), (3, (.const (.int .i64 120)))])), 45, "", (List.toArray []), none⟩)⟩, ⟨(some 33), none, (.mem ⟨(some 33), (.buildSlice 45 1 (List.toArray [(0, (.const (.int .i64 20)))])), 45, "", (List.toArray []), none⟩)⟩, ⟨(some 34), none, (.mem ⟨(some 34), (.buildSlice 35 3 (List.toArray [(0, (.tmp 31)), (1, (.tmp 32)), (2, (.tmp 33))])), 35, "", (List.toArray []), none⟩)⟩, ⟨(some 35), none, (.call ⟨(.value (.func 19)), (List.toArray [(.tmp 34), (.const (.int .i64 100)), (.const (.int .i64 3))]), (List.toArray [35, 3, 3])⟩ true)⟩, ⟨(some 30), none, (.mov (.tmp 35))⟩, ⟨(some 36), none, (.pur ⟨(some 36), (.extract (.tmp 30) 0), 3, "", (List.toArray []), none⟩)⟩, ⟨(some 37), none, (.pur ⟨(some 37), (.extract (.tmp 30) 1), 25, "", (List.toArray []), none⟩)⟩, ⟨(some 9), none, (.mov (.tmp 36))⟩, ⟨(some 10), none, (.mov (.tmp 37))⟩])
  (.seq (.seq (.reg [⟨(some 38), none, (.mov (.tmp 3))⟩, ⟨(some 39), none, (.len (.tmp 38))⟩, ⟨(some 40), none, (.cmpb .neq (.tmp 39) (.const (.int .i64 3)))⟩, ⟨(some 41), none, (.mov (.tmp 40))⟩, ⟨(some 42), (some (41, false)), (.mov (.tmp 3))⟩, ⟨(some 43), (some (41, false)), (.idx (.tmp 42) (.const (.int .i64 2)) 6)⟩, ⟨(some 44), (some (41, false)), (.lda (.tmp 43) 6)⟩, ⟨(some 45), (some (41, false)), (.pur ⟨(some 45), (.build 47 (List.toArray [(0, (.const (.int .i64 112))), (1, (.const (.int .i64 120)))])), 47, "", (List.toArray []), none⟩)⟩, ⟨(some 46), (some (41, false)), (.pur ⟨(some 46), (.build 47 (List.toArray [(0, (.const (.int .i64 127))), (1, (.const (.int .i64 160)))])), 47, "", (List.toArray []), none⟩)⟩, ⟨(some 47), (some (41, false)), (.pur ⟨(some 47), (.build 47 (List.toArray [(1, (.const (.int .i64 8)))])), 47, "", (List.toArray []), none⟩)⟩, ⟨(some 48), (some (41, false)), (.pur ⟨(some 48), (.build 52 (List.toArray [(0, (.tmp 45)), (1, (.tmp 46)), (2, (.tmp 47))])), 52, "", (List.toArray []), none⟩)⟩, ⟨(some 49), (some (41, false)), (.pur ⟨(some 49), (.binOp .neq 52 (.tmp 44) (.tmp 48) 52), 4, "", (List.toArray []), none⟩)⟩, ⟨(some 50), none, (.pur ⟨(some 50), (.pick (.tmp 41) (.const (.bool true)) (.tmp 49)), 4, "", (List.toArray []), none⟩)⟩, ⟨(some 51), none, (.mov (.tmp 50))⟩, ⟨(some 52), (some (51, false)), (.mov (.tmp 4))⟩, ⟨(some 53), (some (51, false)), (.cmpb .neq (.tmp 52) (.const (.int .i64 0)))⟩, ⟨(some 54), none, (.pur ⟨(some 54), (.pick (.tmp 51) (.const (.bool true)) (.tmp 53)), 4, "", (List.toArray []), none⟩)⟩, ⟨(some 55), none, (.mov (.tmp 54))⟩, ⟨(some 56), (some (55, false)), (.mov (.tmp 5))⟩, ⟨(some 57), (some (55, false)), (.cmpb .neq (.tmp 56) (.const (.int .i64 2)))⟩, ⟨(some 58), none, (.pur ⟨(some 58), (.pick (.tmp 55) (.const (.bool true)) (.tmp 57)), 4, "", (List.toArray []), none⟩)⟩, ⟨(some 59), none, (.mov (.tmp 58))⟩, ⟨(some 60), (some (59, false)), (.mov (.tmp 6))⟩, ⟨(some 61), (some (59, false)), (.cmpb .neq (.tmp 60) (.const (.int .i64 0)))⟩, ⟨(some 62), none, (.pur ⟨(some 62), (.pick (.tmp 59) (.const (.bool true)) (.tmp 61)), 4, "", (List.toArray []), none⟩)⟩])
  (.cond (.tmp 62) (.seq (.reg [⟨(some 0), none, (.mov (.const (.bool false)))⟩])
  .ret)
  .skip))
  (.seq (.reg [⟨(some 63), none, (.lda (.tmp 7) 6)⟩, ⟨(some 64), none, (.pur ⟨(some 64), (.build 38 (List.toArray [(0, (.const (.int .i64 7000))), (1, (.const (.int .i64 6580))), (2, (.const (.int .i64 233))), (3, (.const (.int .i64 187))), (4, (.const (.int .i64 329000))), (5, (.const (.int .i64 3948000)))])), 38, "", (List.toArray []), none⟩)⟩, ⟨(some 65), none, (.pur ⟨(some 65), (.binOp .eql 38 (.tmp 63) (.tmp 64) 38), 4, "", (List.toArray []), none⟩)⟩, ⟨(some 66), none, (.mov (.tmp 65))⟩, ⟨(some 67), (some (66, true)), (.mov (.tmp 8))⟩, ⟨(some 68), (some (66, true)), (.cmpb .eql (.tmp 67) (.const (.int .i64 0)))⟩, ⟨(some 69), none, (.pur ⟨(some 69), (.pick (.tmp 66) (.tmp 68) (.const (.bool false))), 4, "", (List.toArray []), none⟩)⟩, ⟨(some 70), none, (.mov (.tmp 69))⟩, ⟨(some 71), (some (70, true)), (.mov (.tmp 9))⟩, ⟨(some 72), (some (70, true)), (.cmpb .eql (.tmp 71) (.const (.int .i64 1)))⟩, ⟨(some 73), none, (.pur ⟨(some 73), (.pick (.tmp 70) (.tmp 72) (.const (.bool false))), 4, "", (List.toArray []), none⟩)⟩, ⟨(some 74), none, (.mov (.tmp 73))⟩, ⟨(some 75), (some (74, true)), (.mov (.tmp 10))⟩, ⟨(some 76), (some (74, true)), (.cmpb .eql (.tmp 75) (.const (.int .i64 0)))⟩, ⟨(some 77), none, (.pur ⟨(some 77), (.pick (.tmp 74) (.tmp 76) (.const (.bool false))), 4, "", (List.toArray []), none⟩)⟩, ⟨(some 0), none, (.mov (.tmp 77))⟩])
  .ret))))))))
theorem L10 : low Try.prog Try.f10.ntmps (at_ Try.f10 []) = some R10 := by kernel_rfl
theorem N25 : Try.f25.ntmps = 18 := by kernel_rfl
theorem Z25 : Try.f25.results.toList = ((List.toArray [(.tmp 0), (.cell 1 34)]) : Array ResultVar).toList := by kernel_rfl
theorem B25 : Try.f25.body = some (at_ Try.f25 []) := by kernel_rfl
noncomputable def R25 : RC := (.seq (.reg [⟨(some 0), none, (.mov (.const (.slice none 0 0)))⟩, ⟨(some 1), none, (.alc 34 [(.int .i64 0), (.int .i64 0), (.int .i64 0), (.int .i64 0), (.int .i64 0), (.slice none 0 0)])⟩])
  (.seq (.reg [⟨(some 3), none, (.pur ⟨(some 3), (.build 47 (List.toArray [(0, (.const (.int .i64 100))), (1, (.const (.int .i64 110)))])), 47, "", (List.toArray []), none⟩)⟩, ⟨(some 4), none, (.pur ⟨(some 4), (.build 47 (List.toArray [(0, (.const (.int .i64 20))), (1, (.const (.int .i64 30)))])), 47, "", (List.toArray []), none⟩)⟩, ⟨(some 5), none, (.pur ⟨(some 5), (.build 49 (List.toArray [(0, (.tmp 3)), (1, (.tmp 4))])), 49, "", (List.toArray []), none⟩)⟩, ⟨(some 6), none, (.pur ⟨(some 6), (.build 47 (List.toArray [(0, (.const (.int .i64 90))), (1, (.const (.int .i64 105)))])), 47, "", (List.toArray []), none⟩)⟩, ⟨(some 7), none, (.pur ⟨(some 7), (.build 47 (List.toArray [(0, (.const (.int .i64 10))), (1, (.const (.int .i64 10)))])), 47, "", (List.toArray []), none⟩)⟩, ⟨(some 8), none, (.pur ⟨(some 8), (.build 49 (List.toArray [(0, (.tmp 6)), (1, (.tmp 7))])), 49, "", (List.toArray []), none⟩)⟩, ⟨(some 9), none, (.pur ⟨(some 9), (.build 47 (List.toArray [(0, (.const (.int .i64 112))), (1, (.const (.int .i64 112)))])), 47, "", (List.toArray []), none⟩)⟩, ⟨(some 10), none, (.pur ⟨(some 10), (.build 47 (List.toArray [(0, (.const (.int .i64 15))), (1, (.const (.int .i64 40)))])), 47, "", (List.toArray []), none⟩)⟩, ⟨(some 11), none, (.pur ⟨(some 11), (.build 49 (List.toArray [(0, (.tmp 9)), (1, (.tmp 10))])), 49, "", (List.toArray []), none⟩)⟩, ⟨(some 12), none, (.mem ⟨(some 12), (.buildSlice 22 3 (List.toArray [(0, (.tmp 5)), (1, (.tmp 8)), (2, (.tmp 11))])), 22, "", (List.toArray []), none⟩)⟩, ⟨(some 2), none, (.mov (.tmp 12))⟩])
  (.seq (.reg [⟨(some 13), none, (.mov (.tmp 2))⟩, ⟨(some 14), none, (.pur ⟨(some 14), (.build 58 (List.toArray [(0, (.const (.int .i64 100))), (1, (.const (.int .i64 5))), (2, (.const (.int .i64 3))), (3, (.const (.int .i64 40))), (4, (.const (.int .i64 700)))])), 58, "", (List.toArray []), none⟩)⟩, ⟨(some 15), none, (.pur ⟨(some 15), (.build 58 (List.toArray [(0, (.const (.int .i64 50))), (2, (.const (.int .i64 1))), (3, (.const (.int .i64 70))), (4, (.const (.int .i64 400)))])), 58, "", (List.toArray []), none⟩)⟩, ⟨(some 16), none, (.mem ⟨(some 16), (.buildSlice 32 2 (List.toArray [(0, (.tmp 14)), (1, (.tmp 15))])), 32, "", (List.toArray []), none⟩)⟩, ⟨(some 17), none, (.pur ⟨(some 17), (.build 34 (List.toArray [(3, (.const (.int .i64 10000))), (4, (.const (.int .i64 3000))), (5, (.tmp 16))])), 34, "", (List.toArray []), none⟩)⟩, ⟨(some 0), none, (.mov (.tmp 13))⟩, ⟨none, none, (.sta (.tmp 1) (.tmp 17) 6)⟩])
  .ret)))
theorem L25 : low Try.prog Try.f25.ntmps (at_ Try.f25 []) = some R25 := by kernel_rfl
end Go.Ax

/-
  Station: sample, and awake: true in every world (written by program).
-/
namespace Go.Ax
open Go Go.RowKit Go.Proofs

theorem i34s : ∃ i, Try.prog.info? 34 = some i ∧ i.size = 6 := by
  have h : (Try.prog.info? 34).map (fun i => i.size) = some 6 := by kernel_rfl
  cases e : Try.prog.info? 34 with
  | none => rw [e] at h; cases h
  | some i => rw [e] at h; simp at h; exact ⟨i, rfl, h⟩
theorem a34 : isAggB Try.prog 34 = some true := by kernel_rfl
theorem res_tc {P : Program} {S : Rg} {H : Hp} {a b x n : Nat} {t : TypeId} {cs : List Value} {v : Value} (hb : lk S b = some v) (ha : lk S a = some (.pointer (some ⟨x, 0, none⟩))) (h1 : isAggB P t = some true) (hi : ∃ i, P.info? t = some i ∧ i.size = n) (hl : cs.length = n) (h : Cl H x cs) : resS P S H [.tmp b, .cell a t] = some [v, .agg cs.toArray] := by
  simp only [resS, ha, hb, load_agg h1 hi h.rd hl]
def L0 : List Tk := [⟨100, 110, 20, 30⟩, ⟨90, 105, 10, 10⟩, ⟨112, 112, 15, 40⟩]
def M0 : List Sm := [⟨100, 5, 3, 40, 700⟩, ⟨50, 0, 1, 70, 400⟩]
def s0 (b : Nat) : Sp := ⟨0, 0, 0, 10000, 3000, some ⟨b, 0, none⟩, 2, 2, M0⟩
def rs0 (a b c : Nat) : List Rw := [⟨some ⟨a, 0, none⟩, 2, 2, [30, 100]⟩, ⟨some ⟨b, 0, none⟩, 4, 4, [90, 90, 90, 120]⟩, ⟨some ⟨c, 0, none⟩, 1, 1, [20]⟩]
theorem q0 : qe L0 2 = 0 := by kernel_rfl
theorem q1 : ql L0 2 = visL L0 2 := by kernel_rfl
theorem q2 : (visL L0 2)[2]? = some ⟨112, 120, 127, 160, 0, 8⟩ := by kernel_rfl
theorem q3 : by' L0 20 = (2, 0) := by kernel_rfl
theorem q4 (b : Nat) : (s0 b).load = ⟨7000, 6580, 233, 187, 329000, 3948000⟩ := by kernel_rfl
theorem q5 (b : Nat) : (s0 b).we = 0 := by kernel_rfl
theorem q6 (a b c : Nat) : boN (rs0 a b c) 100 3 = 1 := by kernel_rfl
theorem q7 (a b c : Nat) : boE (rs0 a b c) 100 3 = 0 := by kernel_rfl
section
variable {kn : FuncId → Option Bool} {lo : Nat} {H : Hp}
/-- sample -/
theorem sample25_ok (hlo : lo ≤ H.next) : ∃ w H', FnX Try.prog kn lo 25 [] H w H' ∧ ∃ b1 b2, w = .tuple #[slv b1 3 3, .agg (s0 b2).v.toArray] ∧ Keep H H' [] ∧ H.next ≤ b1 ∧ H.next ≤ b2 ∧ Sc H' b1 (tkc L0) ∧ Sc H' b2 (smc M0) := by
  have key := fnX_low (kn := kn) (lo := lo) (H := H) (args := []) (Q := fun w H' => ∃ b1 b2, w = .tuple #[slv b1 3 3, .agg (s0 b2).v.toArray] ∧ Keep H H' [] ∧ H.next ≤ b1 ∧ H.next ≤ b2 ∧ Sc H' b1 (tkc L0) ∧ Sc H' b2 (smc M0)) Try.func25 B25 N25 Z25 L25 (by simp) ?_
  · exact key
  have hk := Keep.refl H []
  refine wN_seq ?_
  refine wN_mov (v := .slice none 0 0) rfl ?_
  refine wN_alc ?_
  intro H1 kH1 nH1 c1
  have c1 : Cl H1 H.next [iv 0, iv 0, iv 0, iv 0, iv 0, .slice none 0 0] := c1
  have mH1 := kH1.1
  have hk := hk.trans kH1
  refine wN_end ?_
  refine wN_seq ?_
  refine wN_pur (v := .agg #[iv 100, iv 110]) rfl (by kernel_rfl) ?_
  refine wN_pur (v := .agg #[iv 20, iv 30]) rfl (by kernel_rfl) ?_
  refine wN_pur (v := .agg #[iv 100, iv 110, iv 20, iv 30]) rfl (by kernel_rfl) ?_
  refine wN_pur (v := .agg #[iv 90, iv 105]) rfl (by kernel_rfl) ?_
  refine wN_pur (v := .agg #[iv 10, iv 10]) rfl (by kernel_rfl) ?_
  refine wN_pur (v := .agg #[iv 90, iv 105, iv 10, iv 10]) rfl (by kernel_rfl) ?_
  refine wN_pur (v := .agg #[iv 112, iv 112]) rfl (by kernel_rfl) ?_
  refine wN_pur (v := .agg #[iv 15, iv 40]) rfl (by kernel_rfl) ?_
  refine wN_pur (v := .agg #[iv 112, iv 112, iv 15, iv 40]) rfl (by kernel_rfl) ?_
  obtain ⟨H2, hgH2⟩ : ∃ H2, H1.new (.cells [iv 100, iv 110, iv 20, iv 30, iv 90, iv 105, iv 10, iv 10, iv 112, iv 112, iv 15, iv 40] 49 false) = H2 := ⟨_, rfl⟩
  refine wN_memh (v := .slice (some ⟨H1.next, 0, none⟩) 3 3) (H' := H2) (k := .heavy) rfl (by kernel_rfl) (by rw [← hgH2]; kernel_rfl) (fun b e => by cases e) ?_
  obtain ⟨kH2, nH2, _⟩ := new_facts hgH2
  have t1 := new_sc hgH2
  have mH2 := kH2.1
  have hk := hk.trans kH2
  have c1 := kH2.cl c1 (by simp)
  obtain ⟨bt1, hbt1⟩ : ∃ q, q = H1.next := ⟨_, rfl⟩
  rw [← hbt1] at t1 ⊢
  refine wN_mov (v := .slice (some ⟨bt1, 0, none⟩) 3 3) rfl ?_
  refine wN_end ?_
  refine wN_seq ?_
  refine wN_mov (v := .slice (some ⟨bt1, 0, none⟩) 3 3) rfl ?_
  refine wN_pur (v := .agg #[iv 100, iv 5, iv 3, iv 40, iv 700]) rfl (by kernel_rfl) ?_
  refine wN_pur (v := .agg #[iv 50, iv 0, iv 1, iv 70, iv 400]) rfl (by kernel_rfl) ?_
  obtain ⟨H3, hgH3⟩ : ∃ H3, H2.new (.cells [iv 100, iv 5, iv 3, iv 40, iv 700, iv 50, iv 0, iv 1, iv 70, iv 400] 58 false) = H3 := ⟨_, rfl⟩
  refine wN_memh (v := .slice (some ⟨H2.next, 0, none⟩) 2 2) (H' := H3) (k := .heavy) rfl (by kernel_rfl) (by rw [← hgH3]; kernel_rfl) (fun b e => by cases e) ?_
  obtain ⟨kH3, nH3, _⟩ := new_facts hgH3
  have t2 := new_sc hgH3
  have mH3 := kH3.1
  have hk := hk.trans kH3
  have c1 := kH3.cl c1 (by simp)
  have t1 := kH3.sc t1 (by simp)
  obtain ⟨bt2, hbt2⟩ : ∃ q, q = H2.next := ⟨_, rfl⟩
  rw [← hbt2] at t2 ⊢
  refine wN_pur (v := .agg #[iv 0, iv 0, iv 0, iv 10000, iv 3000, .slice (some ⟨bt2, 0, none⟩) 2 2]) rfl (by kernel_rfl) ?_
  refine wN_mov (v := .slice (some ⟨bt1, 0, none⟩) 3 3) rfl ?_
  refine wN_sta (b := H.next) (o := 0) rfl rfl c1 (by omega) rfl rfl (by simp) ?_
  intro H4 kH4 nH4 sH4
  have mH4 := kH4.1
  have hk := hk.new kH4 (fun b hb => by simp at hb ⊢; omega)
  have t1 := kH4.sc t1 (by first | (simp; done) | (simp; omega))
  have t2 := kH4.sc t2 (by first | (simp; done) | (simp; omega))
  have c1 : Cl H4 H.next [iv 0, iv 0, iv 0, iv 10000, iv 3000, .slice (some ⟨bt2, 0, none⟩) 2 2] := sH4
  refine wN_end ?_
  exact And.intro trivial (Exists.intro _ (And.intro (res_tc rfl rfl a34 i34s rfl c1) ⟨bt1, bt2, rfl, hk, by omega, by omega, t1, t2⟩))
set_option maxRecDepth 100000 in
/-- awake -/
theorem awake10_ok (hro : RoLow lo H) (hlo : lo ≤ H.next) : ∃ H', FnX Try.prog (fun _ => none) lo 10 [] H (.bool true) H' ∧ Keep H H' [] := by
  have key := fnX_low (kn := fun _ => none) (lo := lo) (H := H) (args := []) (Q := fun w H' => w = .bool true ∧ Keep H H' []) Try.func10 B10 N10 Z10 L10 (by simp) ?_
  · obtain ⟨w, H', h, rfl, q⟩ := key; exact ⟨H', h, q⟩
  have hk := Keep.refl H []
  refine wN_seq ?_
  refine wN_mov (v := .bool false) rfl ?_
  refine wN_end ?_
  refine wN_seq ?_
  obtain ⟨wH1, H1, fH1, b1, b2, rfl, kH1, l1, l2, t1, t2⟩ := sample25_ok (kn := fun _ => none) (lo := lo) (H := H) (by omega)
  refine wN_callf (vs := []) rfl (callX_func (by rfl) (by simpa using fH1)) ?_
  have mH1 := kH1.1
  have hk := hk.trans kH1
  have lt1 := t1.lt
  have lt2 := t2.lt
  refine wN_mov (v := .tuple #[.slice (some ⟨b1, 0, none⟩) 3 3, .agg (s0 b2).v.toArray]) rfl ?_
  refine wN_pur (v := .slice (some ⟨b1, 0, none⟩) 3 3) rfl (by kernel_rfl) ?_
  refine wN_pur (v := .agg (s0 b2).v.toArray) rfl (by kernel_rfl) ?_
  refine wN_alc ?_
  intro H2 kH2 nH2 c2
  have c2 : Cl H2 H1.next [iv 0, iv 0, iv 0, iv 0, iv 0, .slice none 0 0] := c2
  have mH2 := kH2.1
  have hk := hk.trans kH2
  have t1 := kH2.sc t1 (by simp)
  have t2 := kH2.sc t2 (by simp)
  refine wN_mov (v := .slice (some ⟨b1, 0, none⟩) 3 3) rfl ?_
  refine wN_sta (b := H1.next) (o := 0) rfl rfl c2 (by omega) rfl rfl (by simp) ?_
  intro H3 kH3 nH3 sH3
  have mH3 := kH3.1
  have hk := hk.new kH3 (fun b hb => by simp at hb ⊢; omega)
  have t1 := kH3.sc t1 (by first | (simp; done) | (simp; omega))
  have t2 := kH3.sc t2 (by first | (simp; done) | (simp; omega))
  have c2 : Cl H3 H1.next [iv 0, iv 0, iv 0, iv 10000, iv 3000, .slice (some ⟨b2, 0, none⟩) 2 2] := sH3
  refine wN_end ?_
  refine wN_seq ?_
  refine wN_mov (v := .slice (some ⟨b1, 0, none⟩) 3 3) rfl ?_
  obtain ⟨wH4, H4, fH4, a, c, rfl, kH4, hv, _⟩ := queue11_ok (kn := fun _ => none) (lo := lo) (H := H3) (bays := 2) (t1.cl.sl (Nat.le_refl 3)) rfl (hk.low hro) (by omega)
  rw [q0, q1, visL_len] at fH4
  rw [q1, visL_len] at hv
  have fH4 : FnX Try.prog (fun _ => none) lo 11 [slv b1 3 3, iv 2] H3 (.tuple #[.slice a 3 c, iv 0]) H4 := fH4
  have hv : Sl H4 a 3 c (vsc (visL L0 2)) := hv
  refine wN_callf (vs := [slv b1 3 3, iv 2]) rfl (callX_args fH4) ?_
  have mH4 := kH4.1
  have hk := hk.trans kH4
  have t1 := kH4.sc t1 (by simp)
  have t2 := kH4.sc t2 (by simp)
  have c2 := kH4.cl c2 (by simp)
  have fv := hv.old
  refine wN_mov (v := .tuple #[.slice a 3 c, iv 0]) rfl ?_
  refine wN_pur (v := .slice a 3 c) rfl (by kernel_rfl) ?_
  refine wN_pur (v := iv 0) rfl (by kernel_rfl) ?_
  refine wN_mov (v := .slice a 3 c) rfl ?_
  refine wN_mov (v := iv 0) rfl ?_
  refine wN_end ?_
  refine wN_seq ?_
  refine wN_mov (v := .slice (some ⟨b1, 0, none⟩) 3 3) rfl ?_
  obtain ⟨H5, fH5, kH5⟩ := bays13_ok (kn := fun _ => none) (lo := lo) (H := H4) (m := 20) (t1.cl.sl (Nat.le_refl 3)) rfl (hk.low hro) (by omega)
  rw [q3] at fH5
  refine wN_callf (vs := [slv b1 3 3, iv 20]) rfl (callX_args fH5) ?_
  have mH5 := kH5.1
  have hk := hk.trans kH5
  have t1 := kH5.sc t1 (by simp)
  have t2 := kH5.sc t2 (by simp)
  have c2 := kH5.cl c2 (by simp)
  have hv := kH5.sl0 hv
  refine wN_mov (v := .tuple #[iv 2, iv 0]) rfl ?_
  refine wN_pur (v := iv 2) rfl (by kernel_rfl) ?_
  refine wN_pur (v := iv 0) rfl (by kernel_rfl) ?_
  refine wN_mov (v := iv 2) rfl ?_
  refine wN_mov (v := iv 0) rfl ?_
  refine wN_end ?_
  refine wN_seq ?_
  refine wN_lda (b := H1.next) (o := 0) rfl c2.rd (show row 6 _ _ = some [iv 0, iv 0, iv 0, iv 10000, iv 3000, .slice (some ⟨b2, 0, none⟩) 2 2] from rfl) ?_
  obtain ⟨H6, fH6, kH6⟩ := weigh17_ok (kn := fun _ => none) (lo := lo) (H := H5) (s := s0 b2) (t2.cl.sl (Nat.le_refl 2)) rfl (by omega)
  rw [q4, q5] at fH6
  refine wN_callf (vs := [.agg (s0 b2).v.toArray]) rfl (callX_args fH6) ?_
  have mH6 := kH6.1
  have hk := hk.trans kH6
  have t1 := kH6.sc t1 (by simp)
  have t2 := kH6.sc t2 (by simp)
  have c2 := kH6.cl c2 (by simp)
  have hv := kH6.sl0 hv
  refine wN_mov (v := .tuple #[.agg #[iv 7000, iv 6580, iv 233, iv 187, iv 329000, iv 3948000], iv 0]) rfl ?_
  refine wN_pur (v := .agg #[iv 7000, iv 6580, iv 233, iv 187, iv 329000, iv 3948000]) rfl (by kernel_rfl) ?_
  refine wN_pur (v := iv 0) rfl (by kernel_rfl) ?_
  refine wN_alc ?_
  intro H7 kH7 nH7 c7
  have c7 : Cl H7 H6.next [iv 0, iv 0, iv 0, iv 0, iv 0, iv 0] := c7
  have mH7 := kH7.1
  have hk := hk.trans kH7
  have t1 := kH7.sc t1 (by simp)
  have t2 := kH7.sc t2 (by simp)
  have c2 := kH7.cl c2 (by simp)
  have hv := kH7.sl0 hv
  refine wN_sta (b := H6.next) (o := 0) rfl rfl c7 (by omega) rfl rfl (by simp) ?_
  intro H8 kH8 nH8 sH8
  have mH8 := kH8.1
  have hk := hk.new kH8 (fun b hb => by simp at hb ⊢; omega)
  have t1 := kH8.sc t1 (by first | (simp; done) | (simp; omega))
  have t2 := kH8.sc t2 (by first | (simp; done) | (simp; omega))
  have c2 := kH8.cl c2 (by first | (simp; done) | (simp; omega))
  have hv := kH8.sl hv (fun b e => by have := fv b e; first | (simp; done) | (simp; omega))
  have c7 : Cl H8 H6.next [iv 7000, iv 6580, iv 233, iv 187, iv 329000, iv 3948000] := sH8
  refine wN_mov (v := iv 0) rfl ?_
  refine wN_end ?_
  refine wN_seq ?_
  obtain ⟨H9, hgH9⟩ : ∃ H9, H8.new (.cells [iv 30, iv 100] 3 false) = H9 := ⟨_, rfl⟩
  refine wN_memh (v := .slice (some ⟨H8.next, 0, none⟩) 2 2) (H' := H9) (k := .heavy) rfl (by kernel_rfl) (by rw [← hgH9]; kernel_rfl) (fun b e => by cases e) ?_
  obtain ⟨kH9, nH9, _⟩ := new_facts hgH9
  have r1 := new_sc hgH9
  have mH9 := kH9.1
  have hk := hk.trans kH9
  have t1 := kH9.sc t1 (by simp)
  have t2 := kH9.sc t2 (by simp)
  have c2 := kH9.cl c2 (by simp)
  have hv := kH9.sl0 hv
  have c7 := kH9.cl c7 (by simp)
  obtain ⟨br1, hbr1⟩ : ∃ q, q = H8.next := ⟨_, rfl⟩
  rw [← hbr1] at r1 ⊢
  obtain ⟨H10, hgH10⟩ : ∃ H10, H9.new (.cells [iv 90, iv 90, iv 90, iv 120] 3 false) = H10 := ⟨_, rfl⟩
  refine wN_memh (v := .slice (some ⟨H9.next, 0, none⟩) 4 4) (H' := H10) (k := .heavy) rfl (by kernel_rfl) (by rw [← hgH10]; kernel_rfl) (fun b e => by cases e) ?_
  obtain ⟨kH10, nH10, _⟩ := new_facts hgH10
  have r2 := new_sc hgH10
  have mH10 := kH10.1
  have hk := hk.trans kH10
  have t1 := kH10.sc t1 (by simp)
  have t2 := kH10.sc t2 (by simp)
  have c2 := kH10.cl c2 (by simp)
  have hv := kH10.sl0 hv
  have c7 := kH10.cl c7 (by simp)
  have r1 := kH10.sc r1 (by simp)
  obtain ⟨br2, hbr2⟩ : ∃ q, q = H9.next := ⟨_, rfl⟩
  rw [← hbr2] at r2 ⊢
  obtain ⟨H11, hgH11⟩ : ∃ H11, H10.new (.cells [iv 20] 3 false) = H11 := ⟨_, rfl⟩
  refine wN_memh (v := .slice (some ⟨H10.next, 0, none⟩) 1 1) (H' := H11) (k := .heavy) rfl (by kernel_rfl) (by rw [← hgH11]; kernel_rfl) (fun b e => by cases e) ?_
  obtain ⟨kH11, nH11, _⟩ := new_facts hgH11
  have r3 := new_sc hgH11
  have mH11 := kH11.1
  have hk := hk.trans kH11
  have t1 := kH11.sc t1 (by simp)
  have t2 := kH11.sc t2 (by simp)
  have c2 := kH11.cl c2 (by simp)
  have hv := kH11.sl0 hv
  have c7 := kH11.cl c7 (by simp)
  have r1 := kH11.sc r1 (by simp)
  have r2 := kH11.sc r2 (by simp)
  obtain ⟨br3, hbr3⟩ : ∃ q, q = H10.next := ⟨_, rfl⟩
  rw [← hbr3] at r3 ⊢
  obtain ⟨H12, hgH12⟩ : ∃ H12, H11.new (.cells [.slice (some ⟨br1, 0, none⟩) 2 2, .slice (some ⟨br2, 0, none⟩) 4 4, .slice (some ⟨br3, 0, none⟩) 1 1] 45 false) = H12 := ⟨_, rfl⟩
  refine wN_memh (v := .slice (some ⟨H11.next, 0, none⟩) 3 3) (H' := H12) (k := .heavy) rfl (by kernel_rfl) (by rw [← hgH12]; kernel_rfl) (fun b e => by cases e) ?_
  obtain ⟨kH12, nH12, _⟩ := new_facts hgH12
  have r0 := new_sc hgH12
  have mH12 := kH12.1
  have hk := hk.trans kH12
  have t1 := kH12.sc t1 (by simp)
  have t2 := kH12.sc t2 (by simp)
  have c2 := kH12.cl c2 (by simp)
  have hv := kH12.sl0 hv
  have c7 := kH12.cl c7 (by simp)
  have r1 := kH12.sc r1 (by simp)
  have r2 := kH12.sc r2 (by simp)
  have r3 := kH12.sc r3 (by simp)
  obtain ⟨br0, hbr0⟩ : ∃ q, q = H11.next := ⟨_, rfl⟩
  rw [← hbr0] at r0 ⊢
  have lr1 := r1.lt
  have lr2 := r2.lt
  have lr3 := r3.lt
  have lr0 := r0.lt
  have hR : Rws H12 H12.next (some ⟨br0, 0, none⟩) 3 3 (rs0 br1 br2 br3) := by
    refine ⟨.inr ⟨br0, 0, _, rfl, r0.cl.rd, lr0, Nat.le_refl _, fun i r hr => ?_⟩, rfl, fun r hr => ?_⟩
    · match i, hr with
      | 0, hr => cases hr; rfl
      | 1, hr => cases hr; rfl
      | 2, hr => cases hr; rfl
      | _ + 3, hr => cases hr
    · simp only [rs0, List.mem_cons, List.not_mem_nil, or_false] at hr
      rcases hr with rfl | rfl | rfl
      · exact ⟨r1.cl.sl (Nat.le_refl _), rfl, fun x e => by cases e; exact ⟨lr1, r1.fx⟩⟩
      · exact ⟨r2.cl.sl (Nat.le_refl _), rfl, fun x e => by cases e; exact ⟨lr2, r2.fx⟩⟩
      · exact ⟨r3.cl.sl (Nat.le_refl _), rfl, fun x e => by cases e; exact ⟨lr3, r3.fx⟩⟩
  obtain ⟨H13, fH13, kH13⟩ := bounce19_ok (kn := fun _ => none) (lo := lo) (H := H12) (b := 100) (m := 3) hR (Nat.le_refl _) (fun r hr => by simp only [rs0, List.mem_cons, List.not_mem_nil, or_false] at hr; rcases hr with rfl | rfl | rfl <;> (simp only; omega)) (by decide) (by omega)
  rw [q6, q7] at fH13
  refine wN_callf (vs := [slv br0 3 3, iv 100, iv 3]) rfl (callX_args fH13) ?_
  have mH13 := kH13.1
  have hk := hk.trans kH13
  have t1 := kH13.sc t1 (by simp)
  have t2 := kH13.sc t2 (by simp)
  have c2 := kH13.cl c2 (by simp)
  have hv := kH13.sl0 hv
  have c7 := kH13.cl c7 (by simp)
  have r1 := kH13.sc r1 (by simp)
  have r2 := kH13.sc r2 (by simp)
  have r3 := kH13.sc r3 (by simp)
  have r0 := kH13.sc r0 (by simp)
  refine wN_mov (v := .tuple #[iv 1, iv 0]) rfl ?_
  refine wN_pur (v := iv 1) rfl (by kernel_rfl) ?_
  refine wN_pur (v := iv 0) rfl (by kernel_rfl) ?_
  refine wN_mov (v := iv 1) rfl ?_
  refine wN_mov (v := iv 0) rfl ?_
  refine wN_end ?_
  refine wN_seq ?_
  refine wN_mov (v := .slice a 3 c) rfl ?_
  refine wN_len (m := 3) rfl ?_
  refine wN_b_neq (a := 3) (b := 3) rfl rfl ?_
  intro t1 g1; obtain rfl : t1 = false := by rw [← g1]; rfl
  refine wN_mov (v := .bool false) rfl ?_
  refine wN_g rfl (wN_mov (v := .slice a 3 c) rfl ?_)
  rcases hv with ⟨_, h0, _⟩ | ⟨sv, esv, rv, _⟩
  · omega
  refine wN_g rfl (wN_idx (b := sv) (o := 0) (k := 2) (j := 2) (by rw [← esv]; rfl) rfl rfl (by decide) ?_)
  refine wN_g rfl (wN_lda (b := sv) (o := 0 + 2 * 6) rfl rv (vsc_row q2) ?_)
  refine wN_g rfl (wN_pur (v := .agg #[iv 112, iv 120]) rfl (by kernel_rfl) ?_)
  refine wN_g rfl (wN_pur (v := .agg #[iv 127, iv 160]) rfl (by kernel_rfl) ?_)
  refine wN_g rfl (wN_pur (v := .agg #[iv 0, iv 8]) rfl (by kernel_rfl) ?_)
  refine wN_g rfl (wN_pur (v := .agg #[iv 112, iv 120, iv 127, iv 160, iv 0, iv 8]) rfl (by kernel_rfl) ?_)
  refine wN_g rfl (wN_pur (v := .bool false) rfl (neq_visit rfl rfl) ?_)
  refine wN_pur (v := .bool false) rfl rfl ?_
  refine wN_mov (v := .bool false) rfl ?_
  refine wN_g rfl (wN_mov (v := iv 0) rfl ?_)
  refine wN_g rfl (wN_b_neq (a := 0) (b := 0) rfl rfl ?_)
  intro t2 g2; obtain rfl : t2 = false := by rw [← g2]; rfl
  refine wN_pur (v := .bool false) rfl rfl ?_
  refine wN_mov (v := .bool false) rfl ?_
  refine wN_g rfl (wN_mov (v := iv 2) rfl ?_)
  refine wN_g rfl (wN_b_neq (a := 2) (b := 2) rfl rfl ?_)
  intro t3 g3; obtain rfl : t3 = false := by rw [← g3]; rfl
  refine wN_pur (v := .bool false) rfl rfl ?_
  refine wN_mov (v := .bool false) rfl ?_
  refine wN_g rfl (wN_mov (v := iv 0) rfl ?_)
  refine wN_g rfl (wN_b_neq (a := 0) (b := 0) rfl rfl ?_)
  intro t4 g4; obtain rfl : t4 = false := by rw [← g4]; rfl
  refine wN_pur (v := .bool false) rfl rfl ?_
  refine wN_end ?_
  refine condF ?_
  first | refine wN_skip ?_ | skip
  refine wN_seq ?_
  refine wN_lda (b := H6.next) (o := 0) rfl c7.rd (show row 6 _ _ = some [iv 7000, iv 6580, iv 233, iv 187, iv 329000, iv 3948000] from rfl) ?_
  refine wN_pur (v := .agg #[iv 7000, iv 6580, iv 233, iv 187, iv 329000, iv 3948000]) rfl (by kernel_rfl) ?_
  refine wN_pur (v := .bool true) rfl (eql_load rfl rfl) ?_
  refine wN_mov (v := .bool true) rfl ?_
  refine wN_g rfl (wN_mov (v := iv 0) rfl ?_)
  refine wN_g rfl (wN_b_eql (a := 0) (b := 0) rfl rfl ?_)
  intro t5 g5; obtain rfl : t5 = true := by rw [← g5]; rfl
  refine wN_pur (v := .bool true) rfl rfl ?_
  refine wN_mov (v := .bool true) rfl ?_
  refine wN_g rfl (wN_mov (v := iv 1) rfl ?_)
  refine wN_g rfl (wN_b_eql (a := 1) (b := 1) rfl rfl ?_)
  intro t6 g6; obtain rfl : t6 = true := by rw [← g6]; rfl
  refine wN_pur (v := .bool true) rfl rfl ?_
  refine wN_mov (v := .bool true) rfl ?_
  refine wN_g rfl (wN_mov (v := iv 0) rfl ?_)
  refine wN_g rfl (wN_b_eql (a := 0) (b := 0) rfl rfl ?_)
  intro t7 g7; obtain rfl : t7 = true := by rw [← g7]; rfl
  refine wN_pur (v := .bool true) rfl rfl ?_
  refine wN_mov (v := .bool true) rfl ?_
  refine wN_end ?_
  exact And.intro trivial (Exists.intro _ (And.intro rfl ⟨rfl, hk⟩))
end
end Go.Ax

/-
  Proved here: 'alive', the closed part that every law of station ends in, returns true in every world and leaves what lay below as it was. Conditions: none.
  It has no arguments; it is walked (the K texts) by the evaluator of calls, whose soundness against the machine is 'Go.Ax.open_call'.
-/
namespace Go.Ax
open Go Go.RowKit
theorem known_one {P : Program} {g : FuncId} {t : Bool} (hb : ((P.funcs[g]?).bind (fun fn => fn.body)).isSome = true) (hc : ∀ w, Calls P g #[] w fun e w' => e = .returned (.bool t) ∧ Below w.heap.size w w') :
    Known P fun f => bif Nat.beq f g then some t else none := by
  intro f b h
  obtain ⟨hf, h1⟩ := bif_some h
  clear h
  have hf := Nat.eq_of_beq_eq_true hf
  subst hf
  cases h1
  refine ⟨?_, hc⟩
  cases hx : P.funcs[f]? with
  | none => rw [hx] at hb; cases hb
  | some fn =>
    rw [hx] at hb
    cases hy : fn.body with
    | none => rw [Option.bind_some, hy] at hb; cases hb
    | some c => exact ⟨fn, c, rfl, hy⟩
end Go.Ax
namespace Go.Proofs.Ytocgghpjbaelpaa.alive
open Go.RowKit

theorem mixed : Try.prog.follows .mixedOrders = true := by kernel_rfl
theorem plainNames : (Try.prog.funcs.toList.all fun fn => !(fn.name == "runtime.NumGoroutine")) = true := by kernel_rfl
theorem noCount : Go.Ax.NoCount Try.prog := fun f fn h => by
  have h2 := List.all_eq_true.1 plainNames fn (by
    have := Array.mem_of_getElem? h
    simpa using this)
  simpa using h2

theorem call (w : World) : Calls Try.prog 10 #[] w fun e w' => e = .returned (.bool true) ∧ Below w.heap.size w w' := by
  obtain ⟨r, H, hrel, hr⟩ : ∃ (r : Go.Ax.Ren) (H : Go.Ax.Hp), Go.Ax.Rel Try.prog r w.heap.size H w ∧ ∀ b loc, r b = some loc → b < H.next := by
    obtain ⟨r, H, h1, h2, h3⟩ := Go.Ax.imports (P := Try.prog) [] w (fun x hx => by simp at hx)
    exact ⟨r, H, by first | exact h1 | exact h2, by first | exact h2 | exact h3 | exact h3.1⟩
  obtain ⟨H', hf, _⟩ := Go.Ax.awake10_ok (lo := H.next) (H := H) (fun b cs hb _ => hb) (Nat.le_refl _)
  exact Go.Ax.open_call mixed noCount (Go.Ax.Known.nothing _) hrel hr .nil hf

theorem known : Go.Ax.Known Try.prog fun f => bif Nat.beq f 10 then some true else none := Go.Ax.known_one (by kernel_rfl) call
end Go.Proofs.Ytocgghpjbaelpaa.alive

/-
  Station: the laws StationQueues and StationWeighs, whatever the input (written by program).
-/
namespace Go.Ax
open Go Go.RowKit Go.Proofs

section
variable {kn : FuncId → Option Bool} {lo : Nat} {H : Hp}
end
end Go.Ax

/-
  Station: loads that are split, samples that are turned (written by program).
-/
namespace Go.Ax
open Go Go.RowKit

abbrev Sp.g (s : Sp) (x : Int) : Sp := ⟨s.gr, s.bed, s.day, x, s.tare, s.sa, s.sn, s.scap, s.ss⟩
theorem div_add_ge {a b c : Int} (hc : 0 < c) : (a + b) / c ≤ a / c + b / c + 1 := by
  have h1 := Int.lt_ediv_add_one_mul_self a hc
  have h2 := Int.lt_ediv_add_one_mul_self b hc
  have h3 : (a + b) / c < a / c + b / c + 2 := by
    refine (Int.ediv_lt_iff_lt_mul hc).2 ?_
    have e : (a / c + b / c + 2) * c = (a / c + 1) * c + (b / c + 1) * c := by rw [← Int.add_mul]; congr 1; omega
    rw [e]; omega
  omega
theorem Sp.ends {s : Sp} (nb : s.Nb) {q : Sm → Int} {l h X : Int} (hX : X = sm (fun x => x.w * q x) s.ss) (hl : ∀ y ∈ s.ss, l ≤ q y) (hh : ∀ y ∈ s.ss, q y ≤ h) : s.good * l ≤ s.good * X / s.W ∧ s.good * X / s.W ≤ s.good * h := by
  have w := nb.w; have g := nb.good
  have e1 : l * s.W ≤ X := by
    rw [hX, Int.mul_comm]
    show sm fW s.ss * l ≤ _
    rw [← sm_mul]
    exact sm_le fun y hy => Int.mul_le_mul_of_nonneg_left (hl y hy) (fW_in (nb.ok y hy)).1
  have e2 : X ≤ h * s.W := by
    rw [hX, Int.mul_comm h]
    show _ ≤ sm fW s.ss * h
    rw [← sm_mul]
    exact sm_le fun y hy => Int.mul_le_mul_of_nonneg_left (hh y hy) (fW_in (nb.ok y hy)).1
  constructor
  · refine (Int.le_ediv_iff_mul_le (by omega)).2 ?_
    rw [Int.mul_assoc]
    exact Int.mul_le_mul_of_nonneg_left e1 g.1
  · have : s.good * X ≤ s.good * h * s.W := by rw [Int.mul_assoc]; exact Int.mul_le_mul_of_nonneg_left e2 g.1
    have q := Int.ediv_le_ediv (c := s.W) (by omega) this
    rw [Int.mul_ediv_cancel _ (by omega)] at q
    exact q
theorem Sp.split {s : Sp} (nb : s.Nb) {n : Int} (h0 : 0 ≤ n) (h1 : n ≤ s.net) : (s.g (s.tare + n)).net = n ∧ (s.g (s.tare + s.net - n)).net = s.net - n ∧
    (s.g (s.tare + n)).good + (s.g (s.tare + s.net - n)).good ≤ s.good ∧ s.good ≤ (s.g (s.tare + n)).good + (s.g (s.tare + s.net - n)).good + 1 ∧
    (s.g (s.tare + n)).col + (s.g (s.tare + s.net - n)).col ≤ s.col ∧ (s.g (s.tare + n)).firm + (s.g (s.tare + s.net - n)).firm ≤ s.firm := by
  have w := nb.w
  have n1 : (s.g (s.tare + n)).net = n := by show s.tare + n - s.tare = n; omega
  have n2 : (s.g (s.tare + s.net - n)).net = s.net - n := by show s.tare + s.net - n - s.tare = s.net - n; omega
  have g1 : (s.g (s.tare + n)).good = n * (s.W - s.T - s.R) / s.W := by show (s.g (s.tare + n)).net * (s.W - s.T - s.R) / s.W = _; rw [n1]
  have g2 : (s.g (s.tare + s.net - n)).good = (s.net - n) * (s.W - s.T - s.R) / s.W := by show (s.g (s.tare + s.net - n)).net * (s.W - s.T - s.R) / s.W = _; rw [n2]
  have e : n * (s.W - s.T - s.R) + (s.net - n) * (s.W - s.T - s.R) = s.net * (s.W - s.T - s.R) := by rw [← Int.add_mul]; congr 1; omega
  have a1 := div_add_le (a := n * (s.W - s.T - s.R)) (b := (s.net - n) * (s.W - s.T - s.R)) (c := s.W) (by omega)
  have a2 := div_add_ge (a := n * (s.W - s.T - s.R)) (b := (s.net - n) * (s.W - s.T - s.R)) (c := s.W) (by omega)
  rw [e, ← g1, ← g2] at a1 a2
  have a1 : (s.g (s.tare + n)).good + (s.g (s.tare + s.net - n)).good ≤ s.good := a1
  have a2 : s.good ≤ (s.g (s.tare + n)).good + (s.g (s.tare + s.net - n)).good + 1 := a2
  have key : ∀ X : Int, 0 ≤ X → (s.g (s.tare + n)).good * X / s.W + (s.g (s.tare + s.net - n)).good * X / s.W ≤ s.good * X / s.W := fun X hX => by
    refine Int.le_trans (div_add_le (by omega)) (Int.ediv_le_ediv (by omega) ?_)
    rw [← Int.add_mul]
    exact Int.mul_le_mul_of_nonneg_right a1 hX
  exact ⟨n1, n2, a1, a2, key s.C nb.c.1, key s.F nb.f.1⟩
end Go.Ax

/-
  Station: the law StationSplit, whatever the input (written by program).
-/
namespace Go.Ax
open Go Go.RowKit Go.Proofs

section
variable {kn : FuncId → Option Bool} {lo : Nat} {H : Hp}
end
end Go.Ax

/-
  Station: samples that are turned, and halved (written by program).
-/
namespace Go.Ax
open Go Go.RowKit

def rotL (l : List Sm) (t : Nat) : List Sm := l.drop (t % l.length) ++ l.take (t % l.length)
def hfS (x : Sm) : Sm := ⟨x.w / 2, x.t / 2, x.r / 2, x.c, x.m⟩
def evS2 (x : Sm) : Prop := x.w % 2 = 0 ∧ x.t % 2 = 0 ∧ x.r % 2 = 0
instance (x : Sm) : Decidable (evS2 x) := by unfold evS2; infer_instance
def tw (x : Sm) : List Sm := if evS2 x then [hfS x, hfS x] else [x]
def oth : List Sm → List Sm
  | [] => []
  | x :: l => tw x ++ l
abbrev Sp.o (s : Sp) (g b d : Int) (t : Nat) (sa : Option Addr) (sn cap : Nat) : Sp := ⟨g, b, d, s.gross, s.tare, sa, sn, cap, oth (rotL s.ss t)⟩
end Go.Ax

/-
  Station: the law StationSamples, whatever the input (written by program).
-/
namespace Go.Ax
open Go Go.RowKit Go.Proofs

theorem Acc.zero {lo f : Nat} {e : TypeId} {H : Hp} {v : Value} {n : Nat} {cs : List Value} (h : Acc lo f e H v n cs) (hn : n = 0) : v = .slice none 0 0 := by
  rcases h with ⟨_, _, h⟩ | ⟨_, _, h, _⟩
  · exact h
  · omega
section
variable {kn : FuncId → Option Bool} {lo : Nat} {H : Hp}
end
end Go.Ax

/-
  Station: the law StationBoards, whatever the input (written by program).
-/
namespace Go.Ax
open Go Go.RowKit Go.Proofs

section
variable {kn : FuncId → Option Bool} {lo : Nat} {H : Hp}
end
end Go.Ax

/-
  Station: queues: more bays, true times (written by program).
-/
namespace Go.Ax
open Go Go.RowKit

theorem pF_lo_hi {L : List Tk} (h : ∀ t ∈ L, t.ok = true) (i : Nat) : (pF L Prod.fst i).1 ≤ (pF L Prod.snd i).1 ∧ (pF L Prod.fst i).2 ≤ (pF L Prod.snd i).2 ∧ 0 ≤ (pF L Prod.fst i).2 := by
  have q : (0 ≤ (L.getD i Tk.z).a1 ∧ (L.getD i Tk.z).a1 ≤ (L.getD i Tk.z).a2 ∧ (L.getD i Tk.z).a2 ≤ 1048576) ∧ 0 ≤ (L.getD i Tk.z).w1 ∧ (L.getD i Tk.z).w1 ≤ (L.getD i Tk.z).w2 ∧ (L.getD i Tk.z).w2 ≤ 1440 := by
    rcases Nat.lt_or_ge i L.length with q | q
    · exact Tk.ok_t (h _ (List.mem_of_getElem? (getX Tk.z q)))
    · rw [List.getD_eq_getElem?_getD, List.getElem?_eq_none q]; decide
  unfold pF; simp only; omega
namespace Yd
theorem Dom.bn {n n' : Nat} {y y' : Yd} (h : Dom n n' y y') (hn : 0 < n) {a a' : Int} (ha : a' ≤ a) : y'.bn n' a' ≤ y.bn n a := by
  have := h.rd hn
  unfold Yd.bn; omega
end Yd
theorem qe_0 {L : List Tk} {n : Int} (h : qe L n = 0) : tksOk L = true ∧ 1 ≤ n ∧ n ≤ 8 := by
  unfold qe at h
  split at h
  · split at h
    · rename_i h1 h2; exact ⟨h1, inB_t h2⟩
    · cases h
  · cases h
theorem ql_of {L : List Tk} {n : Nat} (h : qe L (n : Int) = 0) : ql L (n : Int) = visL L n := by
  unfold ql; rw [if_pos h]; rfl
end Go.Ax

/-
  Station: queues, minute by minute (written by program).
-/
namespace Go.Ax
open Go Go.RowKit

namespace Yd
def gt (l : List Int) (t : Int) : Nat := l.countP fun x => decide (t < x)
/-- those in a bay, and the bays that are free: all bays -/
def Sim (n : Nat) (p : Nat → Int × Int) (i : Nat) (now : Int) (busy : List Int) : Prop := ∀ t, now ≤ t → gt busy t + cnt (at' n p i).fr t n = n
theorem cnt_all {f : Nat → Int} {t : Int} : ∀ {n : Nat}, (∀ i, i < n → f i ≤ t) → cnt f t n = n
  | 0, _ => rfl
  | n + 1, h => by
    have ih := cnt_all (f := f) (t := t) (n := n) (fun i hi => h i (by omega))
    have := h n (by omega)
    unfold cnt; rw [if_pos this, ih]
theorem sim_zero (n : Nat) (p : Nat → Int × Int) : Sim n p 0 0 [] := fun t ht => by
  rw [show gt [] t = 0 from rfl, Nat.zero_add]
  exact cnt_all fun i _ => ht
theorem Sim.next {n : Nat} {p : Nat → Int × Int} {i : Nat} {now : Int} {l : List Int} (h : Sim n p i now l) : Sim n p i (now + 1) l := fun t ht => h t (by omega)
theorem Sim.filter {n : Nat} {p : Nat → Int × Int} {i : Nat} {now : Int} {l : List Int} (h : Sim n p i now l) : Sim n p i now (l.filter fun x => decide (now < x)) := fun t ht => by
  have e : gt (l.filter fun x => decide (now < x)) t = gt l t := by
    unfold gt
    rw [List.countP_filter]
    refine List.countP_congr fun x _ => ?_
    simp only [Bool.and_eq_true, decide_eq_true_eq]
    omega
  rw [e]; exact h t ht
theorem gt_all {l : List Int} {now : Int} (h : ∀ x ∈ l, now < x) : gt l now = l.length := by
  unfold gt
  exact List.countP_eq_length.2 fun x hx => decide_eq_true (h x hx)
theorem Sim.free {n : Nat} {p : Nat → Int × Int} {i : Nat} {now : Int} {l : List Int} (h : Sim n p i now l) (hl : ∀ x ∈ l, now < x) (hn : l.length < n) : (at' n p i).fr (nb (at' n p i).fr n) ≤ now := by
  have q := h now (Int.le_refl _)
  rw [gt_all hl] at q
  obtain ⟨j, hj, hj2⟩ := cnt_pos (f := (at' n p i).fr) (t := now) (n := n) (by omega)
  have := nb_le (at' n p i).fr hj
  omega
theorem Sim.full {n : Nat} {p : Nat → Int × Int} {i : Nat} {now : Int} {l : List Int} (h : Sim n p i now l) (hl : ∀ x ∈ l, now < x) (h0 : 0 < n) (hn : ¬ l.length < n) : now + 1 ≤ (at' n p i).fr (nb (at' n p i).fr n) := by
  have q := h now (Int.le_refl _)
  rw [gt_all hl] at q
  have z : cnt (at' n p i).fr now n = 0 := by omega
  have l' := nb_lt (at' n p i).fr h0
  rcases Int.lt_or_le now ((at' n p i).fr (nb (at' n p i).fr n)) with c | c
  · omega
  · have := pos_cnt (f := (at' n p i).fr) (t := now) l' c
    omega
theorem bgn_eq (n : Nat) (p : Nat → Int × Int) (i : Nat) : bgn n p i = max (max (at' n p i).bg ((at' n p i).fr (nb (at' n p i).fr n))) (p i).1 := rfl
theorem Sim.now {n : Nat} {p : Nat → Int × Int} {i : Nat} {now : Int} {l : List Int} (h : Sim n p i now l) (hl : ∀ x ∈ l, now < x) (hn : l.length < n) (hb : (at' n p i).bg ≤ now) (ha : (p i).1 ≤ now) (hlow : now ≤ bgn n p i) : bgn n p i = now := by
  have := h.free hl hn
  have e := bgn_eq n p i
  omega
theorem Sim.late {n : Nat} {p : Nat → Int × Int} {i : Nat} {now : Int} {l : List Int} (h : Sim n p i now l) (hl : ∀ x ∈ l, now < x) (h0 : 0 < n) (hx : ¬ ((p i).1 ≤ now) ∨ ¬ l.length < n) : now + 1 ≤ bgn n p i := by
  have e := bgn_eq n p i
  rcases hx with hx | hx
  · omega
  · have := h.full hl h0 hx; omega
theorem Sim.go {n : Nat} {p : Nat → Int × Int} {i : Nat} {now : Int} {l : List Int} (h : Sim n p i now l) (hl : ∀ x ∈ l, now < x) (h0 : 0 < n) (hn : l.length < n) (hb : bgn n p i = now) (hw : 0 ≤ (p i).2) :
    Sim n p (i + 1) now (if 0 < (p i).2 then l ++ [now + (p i).2] else l) := fun t ht => by
  have f := h.free hl hn
  have q := h t ht
  have u := cnt_upd (f := (at' n p i).fr) (t := t) (x := now + (p i).2) (m := nb (at' n p i).fr n) (n := n)
  have l' := nb_lt (at' n p i).fr h0
  rw [if_pos ⟨l', by omega⟩] at u
  have e : (at' n p (i + 1)).fr = upd (at' n p i).fr (nb (at' n p i).fr n) (now + (p i).2) := by rw [← hb]; rfl
  rw [e]
  simp only [l', true_and] at u
  by_cases c : 0 < (p i).2
  · rw [if_pos c]
    have g : gt (l ++ [now + (p i).2]) t = gt l t + if t < now + (p i).2 then 1 else 0 := by
      unfold gt; rw [List.countP_append, List.countP_singleton]; simp
    rw [g]
    split at u <;> split <;> omega
  · rw [if_neg c]
    rw [if_pos (by omega)] at u
    omega
theorem go_bg (n : Nat) (p : Nat → Int × Int) (i : Nat) {now : Int} (hb : bgn n p i = now) : (at' n p (i + 1)).bg = now ∧ now ≤ bgn n p (i + 1) := by
  have e := bg_at n p i
  have q := bgn_eq n p (i + 1)
  omega
theorem go_mem {n : Nat} {p : Nat → Int × Int} {i : Nat} {now : Int} {l : List Int} (hl : ∀ x ∈ l, now < x) : ∀ x ∈ (if 0 < (p i).2 then l ++ [now + (p i).2] else l), now < x := by
  intro x hx
  split at hx
  · next c => simp at hx; rcases hx with hx | hx
              · exact hl x hx
              · omega
  · exact hl x hx
end Yd
theorem sim_visit {L : List Tk} {n : Nat} (h0 : 0 < n) {p : Nat → Int × Int} (hp : ∀ j, ((pF L Prod.fst j).1 ≤ (p j).1 ∧ (p j).1 ≤ (pF L Prod.snd j).1) ∧ (pF L Prod.fst j).2 ≤ (p j).2 ∧ (p j).2 ≤ (pF L Prod.snd j).2 ∧ 0 ≤ (pF L Prod.fst j).2) (i : Nat) :
    inB (Yd.bgn n p i) (visit L n i).b1 (visit L n i).b2 = true ∧ inB (Yd.bgn n p i + (p i).2) (visit L n i).e1 (visit L n i).e2 = true ∧ inB (Yd.bgn n p i - (p i).1) (visit L n i).w1 (visit L n i).w2 = true := by
  have d1 := Yd.dom_at (n := n) (n' := n) (p := p) (p' := pF L Prod.fst) h0 (Nat.le_refl _) (i := i) (fun j _ => ⟨(hp j).1.1, (hp j).2.1, (hp j).2.2.2⟩)
  have d2 := Yd.dom_at (n := n) (n' := n) (p := pF L Prod.snd) (p' := p) h0 (Nat.le_refl _) (i := i) (fun j _ => ⟨(hp j).1.2, (hp j).2.2.1, by have := hp j; omega⟩)
  have r1 := d1.rd h0
  have r2 := d2.rd h0
  have q := hp i
  have e0 : Yd.bgn n p i = max ((Yd.at' n p i).rd n) (p i).1 := rfl
  have e1 : (visit L n i).b1 = max ((Yd.at' n (pF L Prod.fst) i).rd n) (pF L Prod.fst i).1 := rfl
  have e2 : (visit L n i).b2 = max ((Yd.at' n (pF L Prod.snd) i).rd n) (pF L Prod.snd i).1 := rfl
  have e3 : (visit L n i).e1 = (visit L n i).b1 + (pF L Prod.fst i).2 := rfl
  have e4 : (visit L n i).e2 = (visit L n i).b2 + (pF L Prod.snd i).2 := rfl
  have e5 : (visit L n i).w1 = max 0 ((Yd.at' n (pF L Prod.fst) i).rd n - (pF L Prod.snd i).1) := rfl
  have e6 : (visit L n i).w2 = max 0 ((Yd.at' n (pF L Prod.snd) i).rd n - (pF L Prod.fst i).1) := rfl
  simp only [inB, Bool.and_eq_true, decide_eq_true_eq]
  omega
/-- what is true by remainders -/
def tru (lo hi : Int) (b : Nat) : Int := lo + (b : Int) % (hi - lo + 1)
theorem tru_in {lo hi : Int} (h : lo ≤ hi) (b : Nat) : lo ≤ tru lo hi b ∧ tru lo hi b ≤ hi := by
  have h1 := Int.emod_nonneg (b : Int) (b := hi - lo + 1) (by omega)
  have h2 := Int.emod_lt_of_pos (b : Int) (b := hi - lo + 1) (by omega)
  unfold tru; omega
def pT (L : List Tk) (B : List Nat) (j : Nat) : Int × Int :=
  (tru (L.getD j Tk.z).a1 (L.getD j Tk.z).a2 (B.getD (j % B.length) 0), tru (L.getD j Tk.z).w1 (L.getD j Tk.z).w2 (B.getD ((j + 1) % B.length) 0))
theorem pT_in {L : List Tk} (h : ∀ t ∈ L, t.ok = true) (B : List Nat) (j : Nat) : ((pF L Prod.fst j).1 ≤ (pT L B j).1 ∧ (pT L B j).1 ≤ (pF L Prod.snd j).1) ∧ (pF L Prod.fst j).2 ≤ (pT L B j).2 ∧ (pT L B j).2 ≤ (pF L Prod.snd j).2 ∧ 0 ≤ (pF L Prod.fst j).2 := by
  have q := pF_lo_hi h j
  have q1 : (L.getD j Tk.z).a1 ≤ (L.getD j Tk.z).a2 := q.1
  have q2 : (L.getD j Tk.z).w1 ≤ (L.getD j Tk.z).w2 := q.2.1
  have t1 := tru_in q1 (B.getD (j % B.length) 0)
  have t2 := tru_in q2 (B.getD ((j + 1) % B.length) 0)
  exact ⟨t1, t2.1, t2.2, q.2.2⟩
end Go.Ax

/-
  Station: the law StationTrue, whatever the input (written by program).
-/
namespace Go.Ax
open Go Go.RowKit Go.Proofs

theorem conv_50 (x : Int) (h1 : 0 ≤ x) (h2 : x ≤ 65535) {S : Rg} {n : Nat} {o : Operand} {d : Option Nat} (hx : evS S o = some (.int .u16 x)) : pureOp Try.prog (frS n S) ⟨d, .convert 50 3 o, 3, "", #[], none⟩ = some (iv x) := by
  have e : ∀ y : Int, prun Try.prog (Go.convert 50 3 (.int .u16 y)) = some (.int .i64 (IntKind.i64.wrap y)) := fun y => by kernel_rfl
  unfold pureOp
  simp only [ev_frS, hx, flat, flat1, cond_true, e, wrap_i64 (x := x) ⟨(by omega), (by omega)⟩]
def u16c (l : List Nat) : List Value := l.flatMap (fun n : Nat => [Value.int .u16 (n : Int)])
theorem u16_at {l : List Nat} {i : Nat} {y : Nat} (h : l[i]? = some y) : (u16c l)[0 + i * 1]? = some (.int .u16 (y : Int)) := row_get (i := 0 + i * 1) (j := 0) (row_flat (f := fun n : Nat => [Value.int .u16 (n : Int)]) (size := 1) (fun _ _ => rfl) h) rfl
def pre (f : Nat → Int) (i : Nat) : Nat → Int := fun j => if j < i then f j else 0
theorem pre_zero (f : Nat → Int) : (fun _ => 0) = pre f 0 := by funext j; simp [pre]
theorem pre_succ (f : Nat → Int) (i : Nat) : upd (pre f i) i (f i) = pre f (i + 1) := by
  funext j
  unfold upd pre
  by_cases e : j = i
  · subst e; simp
  · rw [if_neg e]
    by_cases q : j < i
    · rw [if_pos q, if_pos (by omega)]
    · rw [if_neg q, if_neg (by omega)]
theorem nm_pre (f : Nat → Int) (n : Nat) : nm (pre f n) n = nm f n := by
  unfold nm
  refine List.map_congr_left fun j hj => ?_
  have := List.mem_range.1 hj
  unfold pre; rw [if_pos this]
theorem pre_get {f : Nat → Int} {i k n : Nat} (hk : k < i) (hn : k < n) : (ints (nm (pre f i) n))[0 + k * 1]? = some (iv (f k)) := by
  rw [ints_at (nm_get hn)]
  unfold pre; rw [if_pos hk]
abbrev A1 (L : List Tk) (B : List Nat) : Nat → Int := fun j => (pT L B j).1
abbrev A2 (L : List Tk) (B : List Nat) : Nat → Int := fun j => (pT L B j).2
theorem bgn_in {L : List Tk} {B : List Nat} {n N : Nat} (hok : ∀ t ∈ L, t.ok = true) (hall : ∀ j, j < N → (pT L B j).1 ≤ 3000) (hN : N ≤ 20) {i : Nat} (hi : i < N) : 0 ≤ Yd.bgn n (pT L B) i ∧ Yd.bgn n (pT L B) i ≤ 31800 := by
  have key : ∀ j, j < i → (0 ≤ (pT L B j).1 ∧ (pT L B j).1 ≤ 3000) ∧ 0 ≤ (pT L B j).2 ∧ (pT L B j).2 ≤ 1440 := fun j hj => by
    have a := pT_in hok B j
    have b := ok_in hok (.inl rfl : Prod.fst = Prod.fst ∨ Prod.fst = Prod.snd) j
    have c := ok_in hok (.inr rfl : Prod.snd = Prod.fst ∨ Prod.snd = Prod.snd) j
    have d := hall j (by omega)
    omega
  have q := Yd.in_at (n := n) (p := pT L B) (A := 3000) (W := 1440) (i := i) (by decide) (by decide) key
  have a := pT_in hok B i
  have b := ok_in hok (.inl rfl : Prod.fst = Prod.fst ∨ Prod.fst = Prod.snd) i
  have r := q.bn n (a := (pT L B i).1) (A := 3000) (by omega) (hall i hi) (by omega)
  have r : 0 ≤ Yd.bgn n (pT L B) i ∧ Yd.bgn n (pT L B) i ≤ 3000 + (i : Int) * 1440 := r
  omega
def flt (t : Int) (l : List Int) : List Int := l.filter fun x => decide (t < x)
theorem flt_pos {t : Int} {l : List Int} {j : Nat} {z : Int} (h : l[j]? = some z) (q : t < z) : flt t (l.take (j + 1)) = flt t (l.take j) ++ [z] := by
  unfold flt; rw [List.take_add_one, h, List.filter_append]; simp [q]
theorem flt_neg {t : Int} {l : List Int} {j : Nat} {z : Int} (h : l[j]? = some z) (q : ¬ t < z) : flt t (l.take (j + 1)) = flt t (l.take j) := by
  unfold flt; rw [List.take_add_one, h, List.filter_append]; simp [q]
theorem flt_len {t : Int} {l : List Int} {j : Nat} : (flt t (l.take j)).length ≤ l.length := by
  unfold flt
  refine Nat.le_trans (List.length_filter_le _ _) ?_
  rw [List.length_take]; omega
theorem flt_mem {t : Int} {l : List Int} : ∀ x ∈ flt t l, t < x := fun x hx => by
  unfold flt at hx; simp at hx; exact hx.2
theorem ints_app (l m : List Int) : ints (l ++ m) = ints l ++ ints m := by simp [ints]
theorem Acc.mono {lo f f' : Nat} {e : TypeId} {H : Hp} {v : Value} {n : Nat} {cs : List Value} (h : Acc lo f e H v n cs) (hf : f' ≤ f) : Acc lo f' e H v n cs :=
  h.imp id fun ⟨b, e1, h0, hf1, hl, hn, hg⟩ => ⟨b, e1, h0, Nat.le_trans hf hf1, hl, hn, hg⟩
theorem all_next {f : Nat → Int} {i : Nat} {c : Int} (h : ∀ j, j < i → f j ≤ c) (h2 : f i ≤ c) : ∀ j, j < i + 1 → f j ≤ c := fun j hj => by
  rcases Nat.lt_or_ge j i with q | q
  · exact h j q
  · obtain rfl : j = i := by omega
    exact h2
theorem qe_cases (L : List Tk) (n : Int) : qe L n = 0 ∨ (qe L n = 1 ∧ (ql L n).length = 0) ∨ (qe L n = 2 ∧ (ql L n).length = 0) := by
  unfold ql qe
  split
  · split
    · exact .inl rfl
    · exact .inr (.inr ⟨rfl, rfl⟩)
  · exact .inr (.inl ⟨rfl, rfl⟩)
section
variable {kn : FuncId → Option Bool} {lo : Nat} {H : Hp}
set_option maxRecDepth 100000 in
set_option maxHeartbeats 4000000 in
/-- StationTrue -/
theorem law_true (hkn : kn 10 = some true) {sa sb : Option Addr} {N cap cb : Nat} {L : List Tk} {B : List Nat} {bays : Int} (hs : Sl H sa N cap (tkc L)) (hl : L.length = N) (hB : Sl H sb B.length cb (u16c B)) (hBl : B.length ≤ 9223372036854775807) (hBs : ∀ y ∈ B, y ≤ 65535) (hro : RoLow lo H) (hlo : lo ≤ H.next) : ∃ H', FnX Try.prog kn lo 5 [.slice sa N cap, iv bays, .slice sb B.length cb] H (.bool true) H' := by
  have key := fnX_low (kn := kn) (lo := lo) (H := H) (args := [.slice sa N cap, iv bays, .slice sb B.length cb]) (Q := fun w H' => w = .bool true) Try.func5 B5 N5 Z5 L5 (by simp) ?_
  · obtain ⟨w, H', h, rfl⟩ := key; exact ⟨H', h⟩
  have hk := Keep.refl H []
  refine wN_seq ?_
  refine wN_mov (v := .bool false) rfl ?_
  refine wN_end ?_
  refine wN_seq ?_
  refine wN_mov (v := .slice sa N cap) rfl ?_
  refine wN_len (m := N) rfl ?_
  refine wN_b_gtr (a := (N : Int)) (b := 20) rfl rfl ?_
  intro t1 g1; cases t1
  · have g1 : ¬ ((N : Int) > 20) := of_decide_eq_false g1
    refine wN_mov (v := .bool false) rfl ?_
    refine wN_g rfl (wN_mov (v := .slice sb B.length cb) rfl ?_)
    refine wN_g rfl (wN_len (m := B.length) rfl ?_)
    refine wN_g rfl (wN_b_eql (a := (B.length : Int)) (b := 0) rfl rfl ?_)
    intro t2 g2; cases t2
    · have g2 : ¬ ((B.length : Int) = 0) := by simpa using g2
      refine wN_pur (v := .bool false) rfl rfl ?_
      refine wN_end ?_
      refine condF ?_
      first | refine wN_skip ?_ | skip
      refine wN_seq ?_
      refine wN_mov (v := .slice sa N cap) rfl ?_
      refine wN_mov (v := iv bays) rfl ?_
      obtain ⟨wH1, H1, fH1, a1, c1, rfl, kH1, hv1, _⟩ := queue11_ok (kn := kn) (lo := lo) (H := H) (bays := bays) hs hl (hk.low hro) (by omega)
      refine wN_callf (vs := [.slice sa N cap, iv bays]) rfl (callX_args fH1) ?_
      have mH1 := kH1.1
      have hk := hk.trans kH1
      have hs := kH1.sl0 hs
      have hB := kH1.sl0 hB
      refine wN_mov (v := .tuple #[.slice a1 ((ql L bays).length) c1, iv (qe L bays)]) rfl ?_
      refine wN_pur (v := .slice a1 ((ql L bays).length) c1) rfl (by kernel_rfl) ?_
      refine wN_pur (v := iv (qe L bays)) rfl (by kernel_rfl) ?_
      refine wN_mov (v := .slice a1 ((ql L bays).length) c1) rfl ?_
      refine wN_mov (v := iv (qe L bays)) rfl ?_
      refine wN_end ?_
      refine wN_seq ?_
      refine wN_mov (v := iv (qe L bays)) rfl ?_
      refine wN_c_neq (a := (qe L bays)) (b := 0) rfl rfl ?_
      refine wN_end ?_
      refine And.intro (fun q3 => ?_) (fun q3 => ?_)
      · have q3 : (qe L bays) ≠ 0 := by simpa using q3
        refine wN_seq ?_
        refine wN_mov (v := .slice a1 ((ql L bays).length) c1) rfl ?_
        refine wN_len (m := (ql L bays).length) rfl ?_
        refine wN_b_eql (a := ((ql L bays).length : Int)) (b := 0) rfl rfl ?_
        intro t4 g4; cases t4
        · have g4 : ¬ (((ql L bays).length : Int) = 0) := by simpa using g4
          exfalso; have hqc := qe_cases L bays; omega
        · have g4 : ((ql L bays).length : Int) = 0 := by simpa using g4
          refine wN_mov (v := .bool true) rfl ?_
          refine wN_g rfl (wN_mov (v := iv (qe L bays)) rfl ?_)
          refine wN_g rfl (wN_b_eql (a := (qe L bays)) (b := 1) rfl rfl ?_)
          intro t5 g5; cases t5
          · have g5 : ¬ ((qe L bays) = 1) := by simpa using g5
            refine wN_g rfl (wN_mov (v := .bool false) rfl ?_)
            refine wN_g rfl (wN_mov (v := iv (qe L bays)) rfl ?_)
            refine wN_g rfl (wN_b_eql (a := (qe L bays)) (b := 2) rfl rfl ?_)
            intro t6 g6; cases t6
            · have g6 : ¬ ((qe L bays) = 2) := by simpa using g6
              exfalso; have hqc := qe_cases L bays; omega
            · have g6 : (qe L bays) = 2 := by simpa using g6
              refine wN_g rfl (wN_pur (v := .bool true) rfl rfl ?_)
              refine wN_pur (v := .bool true) rfl rfl ?_
              refine wN_mov (v := .bool true) rfl ?_
              refine wN_g rfl (wN_callf (vs := []) rfl (callX_known hkn) ?_)
              refine wN_pur (v := .bool true) rfl rfl ?_
              refine wN_mov (v := .bool true) rfl ?_
              refine wN_end ?_
              exact And.intro trivial (Exists.intro _ (And.intro rfl rfl))
          · have g5 : (qe L bays) = 1 := by simpa using g5
            refine wN_g rfl (wN_mov (v := .bool true) rfl ?_)
            refine wN_gs rfl ?_
            refine wN_gs rfl ?_
            refine wN_g rfl (wN_pur (v := .bool true) rfl rfl ?_)
            refine wN_pur (v := .bool true) rfl rfl ?_
            refine wN_mov (v := .bool true) rfl ?_
            refine wN_g rfl (wN_callf (vs := []) rfl (callX_known hkn) ?_)
            refine wN_pur (v := .bool true) rfl rfl ?_
            refine wN_mov (v := .bool true) rfl ?_
            refine wN_end ?_
            exact And.intro trivial (Exists.intro _ (And.intro rfl rfl))
      · have q3 : ¬ ((qe L bays) ≠ 0) := by simpa using q3
        have hq0 : qe L bays = 0 := by omega
        obtain ⟨hval, hb1, hb2⟩ := qe_0 hq0
        obtain ⟨n, rfl⟩ : ∃ n : Nat, bays = (n : Int) := ⟨bays.toNat, by omega⟩
        have hok := (tksOk_t hval).2
        rw [ql_of hq0, visL_len] at hv1
        rw [ql_of hq0, visL_len]
        have hn0 : 0 < n := by omega
        first | refine wN_skip ?_ | skip
        refine wN_seq ?_
        refine wN_mov (v := .slice sa N cap) rfl ?_
        refine wN_callB rfl (ref21_ok hs hl (by omega)) ?_
        intro tH2 H2 hH2 kH2
        have mH2 := kH2.1
        have hk := hk.trans kH2
        have hs := kH2.sl0 hs
        have hB := kH2.sl0 hB
        have hv1 := kH2.sl0 hv1
        cases tH2
        · exfalso; rw [hval] at hH2; cases hH2
        · refine wN_pur (v := .bool false) rfl rfl ?_
          refine wN_mov (v := .bool false) rfl ?_
          refine wN_g rfl (wN_mov (v := iv (n : Int)) rfl ?_)
          refine wN_g rfl (wN_b_lss (a := (n : Int)) (b := 1) rfl rfl ?_)
          intro t7 g7; cases t7
          · have g7 : ¬ ((n : Int) < 1) := of_decide_eq_false g7
            refine wN_pur (v := .bool false) rfl rfl ?_
            refine wN_mov (v := .bool false) rfl ?_
            refine wN_g rfl (wN_mov (v := iv (n : Int)) rfl ?_)
            refine wN_g rfl (wN_b_gtr (a := (n : Int)) (b := 8) rfl rfl ?_)
            intro t8 g8; cases t8
            · have g8 : ¬ ((n : Int) > 8) := of_decide_eq_false g8
              refine wN_pur (v := .bool false) rfl rfl ?_
              refine wN_mov (v := .bool false) rfl ?_
              refine wN_g rfl (wN_mov (v := .slice a1 L.length c1) rfl ?_)
              refine wN_g rfl (wN_len (m := L.length) rfl ?_)
              refine wN_g rfl (wN_mov (v := .slice sa N cap) rfl ?_)
              refine wN_g rfl (wN_len (m := N) rfl ?_)
              refine wN_g rfl (wN_b_neq (a := (L.length : Int)) (b := (N : Int)) rfl rfl ?_)
              intro t9 g9; cases t9
              · have g9 : ¬ ((L.length : Int) ≠ (N : Int)) := by simpa using g9
                refine wN_pur (v := .bool false) rfl rfl ?_
                refine wN_end ?_
                refine condF ?_
                have hkq := Keep.refl H2 []
                have hvq := hv1
                have hsq := hs
                have hBq := hB
                have fv1 := hv1.old
                have fsq := hs.old
                have fBq := hB.old
                obtain ⟨i3, hi3, hb3⟩ := in3b
                first | refine wN_skip ?_ | skip
                refine wD_seq ?_
                refine wD_mov (v := .slice sa N cap) rfl ?_
                refine wD_len (m := N) rfl ?_
                have eMH3 := fun (q : Nat) (S : Rg) (d : Option Tmp) (x y : Operand) (ty : TypeId) (p : String) => heap_makeInts (P := Try.prog) (lo := lo) (n := q) (S := S) (H := H2) (d := d) (x := x) (y := y) (ty := ty) (p := p) (m := N) se45 z3 hi3 hb3
                refine wD_memh (k := .heavy) rfl (by kernel_rfl) (eMH3 _ _ _ _ _ _ _ rfl rfl (by omega)) (fun x e => by cases e) ?_
                generalize hgH3 : H2.new _ = H3
                obtain ⟨kH3, nH3, _⟩ := new_facts hgH3
                have hfa := (new_sc hgH3).cl
                have mH3 := kH3.1
                have hk := hk.trans kH3
                have hs := kH3.sl0 hs
                have hB := kH3.sl0 hB
                have hv1 := kH3.sl0 hv1
                have hkq := hkq.trans kH3
                obtain ⟨ab, hab⟩ : ∃ ab, ab = H2.next := ⟨_, rfl⟩
                rw [← hab] at hfa ⊢
                rw [nm_rep] at hfa
                refine wD_mov (v := .slice sa N cap) rfl ?_
                refine wD_len (m := N) rfl ?_
                have eMH4 := fun (q : Nat) (S : Rg) (d : Option Tmp) (x y : Operand) (ty : TypeId) (p : String) => heap_makeInts (P := Try.prog) (lo := lo) (n := q) (S := S) (H := H3) (d := d) (x := x) (y := y) (ty := ty) (p := p) (m := N) se45 z3 hi3 hb3
                refine wD_memh (k := .heavy) rfl (by kernel_rfl) (eMH4 _ _ _ _ _ _ _ rfl rfl (by omega)) (fun x e => by cases e) ?_
                generalize hgH4 : H3.new _ = H4
                obtain ⟨kH4, nH4, _⟩ := new_facts hgH4
                have hfw := (new_sc hgH4).cl
                have mH4 := kH4.1
                have hk := hk.trans kH4
                have hs := kH4.sl0 hs
                have hB := kH4.sl0 hB
                have hv1 := kH4.sl0 hv1
                have hkq := hkq.trans kH4
                have hfa := kH4.cl hfa (by simp)
                obtain ⟨wb, hwb⟩ : ∃ wb, wb = H3.next := ⟨_, rfl⟩
                rw [← hwb] at hfw ⊢
                rw [nm_rep] at hfw
                refine wD_mov (v := .slice (some ⟨ab, 0, none⟩) N N) rfl ?_
                refine wD_mov (v := .slice (some ⟨wb, 0, none⟩) N N) rfl ?_
                refine wD_end (by repeat' first | exact True.intro | exact (fun h => h) | refine And.intro ?_ ?_ | (intro h; have h : (_ : Nat) = _ := h; omega)) ?_
                refine wN_seq ?_
                refine wN_mov (v := iv 0) rfl ?_
                refine wN_end ?_
                rw [pre_zero (A1 L B)] at hfa
                rw [pre_zero (A2 L B)] at hfw
                refine loop_low (fn := Try.f5) E5_1 N5 L5x1 (fun i : Nat => [(0, .slice sa N cap), (1, iv (n : Int)), (2, .slice sb B.length cb), (7, .slice a1 L.length c1), (9, .slice (some ⟨ab, 0, none⟩) N N), (10, .slice (some ⟨wb, 0, none⟩) N N), (11, iv (i : Int))])
                  (fun k i H' => i + k = N ∧ Keep H2 H' [] ∧ Cl H' ab (ints (nm (pre (A1 L B) i) N)) ∧ Cl H' wb (ints (nm (pre (A2 L B) i) N)) ∧ ∀ j, j < i → (pT L B j).1 ≤ 3000) N 0 ⟨by omega, hkq, hfa, hfw, fun j hj => by omega⟩ ⟨rfl, rfl, rfl, rfl, rfl, rfl, rfl, trivial⟩ ?_
                rintro k i L1 ⟨hik, hkq, hfa, hfw, hall⟩
                have mk0 := hkq.1
                have hs := hkq.sl0 hsq
                have hB := hkq.sl0 hBq
                have hv1 := hkq.sl0 hvq
                have lfa := hfa.rd.lt
                have lfw := hfw.rd.lt
                refine wN_seq ?_
                refine wN_mov (v := iv (i : Int)) rfl ?_
                refine wN_mov (v := .slice sa N cap) rfl ?_
                refine wN_len (m := N) rfl ?_
                refine wN_c_lss (a := (i : Int)) (b := (N : Int)) rfl rfl ?_
                refine wN_end ?_
                refine And.intro (fun q10 => ?_) (fun q10 => ?_)
                · have q10 : (i : Int) < (N : Int) := of_decide_eq_true q10
                  have hi : i < N := by omega
                  obtain ⟨x, hx⟩ := get_some (l := L) (i := i) (by omega)
                  have hgx : L.getD i Tk.z = x := by rw [List.getD_eq_getElem?_getD, hx]; rfl
                  have xo := Tk.ok_t (hok x (List.mem_of_getElem? hx))
                  have hm1 : i % B.length < B.length := Nat.mod_lt _ (by omega)
                  have hm2 : (i + 1) % B.length < B.length := Nat.mod_lt _ (by omega)
                  have hy1 := getX (l := B) (i := i % B.length) 0 hm1
                  have hy2 := getX (l := B) (i := (i + 1) % B.length) 0 hm2
                  have hz1 := hBs _ (List.mem_of_getElem? hy1)
                  have hz2 := hBs _ (List.mem_of_getElem? hy2)
                  obtain ⟨Y1, eY1⟩ : ∃ y, B.getD (i % B.length) 0 = y := ⟨_, rfl⟩
                  obtain ⟨Y2, eY2⟩ : ∃ y, B.getD ((i + 1) % B.length) 0 = y := ⟨_, rfl⟩
                  rw [eY1] at hy1 hz1
                  rw [eY2] at hy2 hz2
                  have tb1 := tru_in (lo := x.a1) (hi := x.a2) (by omega) Y1
                  have tb2 := tru_in (lo := x.w1) (hi := x.w2) (by omega) Y2
                  unfold tru at tb1 tb2
                  have ev1 : x.a1 + (Y1 : Int) % (x.a2 - x.a1 + 1) = (pT L B i).1 := by rw [← eY1, ← hgx]; rfl
                  have ev2 : x.w1 + (Y2 : Int) % (x.w2 - x.w1 + 1) = (pT L B i).2 := by rw [← eY2, ← hgx]; rfl
                  rcases id hs with ⟨_, h0, _⟩ | ⟨sxa, esa, rsa, _⟩
                  · omega
                  rcases id hB with ⟨_, h0, _⟩ | ⟨sxb, esb, rsb, _⟩
                  · omega
                  have lsa := fsq sxa esa
                  have lsb := fBq sxb esb
                  first | refine wN_skip ?_ | skip
                  refine wD_seq ?_
                  refine wD_mov (v := .slice (some ⟨ab, 0, none⟩) N N) rfl ?_
                  refine wD_mov (v := iv (i : Int)) rfl ?_
                  refine wD_mov (v := .slice sa N cap) rfl ?_
                  refine wD_mov (v := iv (i : Int)) rfl ?_
                  refine wD_idx (b := sxa) (o := 0) (k := i) (j := (i : Int)) (by rw [← esa]; rfl) rfl rfl (by omega) ?_
                  refine wD_addo (b := sxa) (o := 0 + i * 4) rfl ?_
                  refine wD_addo (b := sxa) (o := 0 + i * 4) rfl ?_
                  refine wD_ld (b := sxa) (o := 0 + i * 4) (v := iv x.a1) rfl rsa (tkc_at (j := 0) hx rfl) ?_
                  refine wD_mov (v := .slice sb B.length cb) rfl ?_
                  refine wD_mov (v := iv (i : Int)) rfl ?_
                  refine wD_mov (v := .slice sb B.length cb) rfl ?_
                  refine wD_len (m := B.length) rfl ?_
                  refine wD_rem (a := (i : Int)) (b := (B.length : Int)) rfl rfl (by omega) (by omega) ⟨by omega, by omega⟩ ⟨by omega, by omega⟩ ?_
                  refine wD_idx (b := sxb) (o := 0) (k := i % B.length) (j := (i : Int) % (B.length : Int)) (by rw [← esb]; rfl) rfl rfl hm1 ?_
                  refine wD_ld (b := sxb) (o := 0 + (i % B.length) * 1) (v := .int .u16 (Y1 : Int)) rfl rsb (u16_at hy1) ?_
                  refine wD_pur (v := iv (Y1 : Int)) rfl (conv_50 (Y1 : Int) (by omega) (by omega) rfl) ?_
                  refine wD_mov (v := .slice sa N cap) rfl ?_
                  refine wD_mov (v := iv (i : Int)) rfl ?_
                  refine wD_idx (b := sxa) (o := 0) (k := i) (j := (i : Int)) (by rw [← esa]; rfl) rfl rfl (by omega) ?_
                  refine wD_addo (b := sxa) (o := 0 + i * 4) rfl ?_
                  refine wD_addo (b := sxa) (o := 0 + i * 4) rfl ?_
                  refine wD_ld (b := sxa) (o := 0 + i * 4 + 1) (v := iv x.a2) rfl rsa (tkc_at (j := 1) hx rfl) ?_
                  refine wD_mov (v := .slice sa N cap) rfl ?_
                  refine wD_mov (v := iv (i : Int)) rfl ?_
                  refine wD_idx (b := sxa) (o := 0) (k := i) (j := (i : Int)) (by rw [← esa]; rfl) rfl rfl (by omega) ?_
                  refine wD_addo (b := sxa) (o := 0 + i * 4) rfl ?_
                  refine wD_addo (b := sxa) (o := 0 + i * 4) rfl ?_
                  refine wD_ld (b := sxa) (o := 0 + i * 4) (v := iv x.a1) rfl rsa (tkc_at (j := 0) hx rfl) ?_
                  refine wD_sub (a := x.a2) (b := x.a1) rfl rfl ⟨by omega, by omega⟩ ?_
                  refine wD_add (a := x.a2 - x.a1) (b := 1) rfl rfl ⟨by omega, by omega⟩ ?_
                  refine wD_rem (a := (Y1 : Int)) (b := (x.a2 - x.a1) + 1) rfl rfl (by omega) (by omega) ⟨by omega, by omega⟩ ⟨by omega, by omega⟩ ?_
                  refine wD_add (a := x.a1) (b := (Y1 : Int) % ((x.a2 - x.a1) + 1)) rfl rfl ⟨by omega, by omega⟩ ?_
                  refine wD_idx (b := ab) (o := 0) (k := i) (j := (i : Int)) rfl rfl rfl hi ?_
                  refine wD_st (b := ab) (o := 0 + i * 1) (v := iv (x.a1 + ((Y1 : Int) % ((x.a2 - x.a1) + 1)))) rfl rfl hfa (by omega) rfl rfl (by rw [ints_len, nm_len]; omega) ?_
                  intro H5 kH5 nH5 sH5
                  have mH5 := kH5.1
                  have hkq := hkq.new kH5 (fun b hb => by simp at hb ⊢; omega)
                  have hfw := kH5.cl hfw (by first | (simp; done) | (simp; omega))
                  have hs := kH5.sl hs (fun b e => by have := fsq b e; first | (simp; done) | (simp; omega))
                  have hB := kH5.sl hB (fun b e => by have := fBq b e; first | (simp; done) | (simp; omega))
                  have hv1 := kH5.sl hv1 (fun b e => by have := fv1 b e; first | (simp; done) | (simp; omega))
                  have rsa := kH5.rd rsa (by first | (simp; done) | (simp; omega))
                  have rsb := kH5.rd rsb (by first | (simp; done) | (simp; omega))
                  have hfa : Cl H5 ab (ints (nm (pre (A1 L B) (i + 1)) N)) := by rw [nm_set hi, ev1, show upd (pre (A1 L B) i) i (pT L B i).1 = (pre (A1 L B) (i + 1)) from pre_succ _ _] at sH5; exact sH5
                  refine wD_end (by repeat' first | exact True.intro | exact (fun h => h) | refine And.intro ?_ ?_ | (intro h; have h : (_ : Nat) = _ := h; omega)) ?_
                  refine wD_seq ?_
                  refine wD_mov (v := .slice (some ⟨wb, 0, none⟩) N N) rfl ?_
                  refine wD_mov (v := iv (i : Int)) rfl ?_
                  refine wD_mov (v := .slice sa N cap) rfl ?_
                  refine wD_mov (v := iv (i : Int)) rfl ?_
                  refine wD_idx (b := sxa) (o := 0) (k := i) (j := (i : Int)) (by rw [← esa]; rfl) rfl rfl (by omega) ?_
                  refine wD_addo (b := sxa) (o := 0 + i * 4) rfl ?_
                  refine wD_addo (b := sxa) (o := 0 + i * 4 + 2) rfl ?_
                  refine wD_ld (b := sxa) (o := 0 + i * 4 + 2) (v := iv x.w1) rfl rsa (tkc_at (j := 2) hx rfl) ?_
                  refine wD_mov (v := .slice sb B.length cb) rfl ?_
                  refine wD_mov (v := iv (i : Int)) rfl ?_
                  refine wD_add (a := (i : Int)) (b := 1) rfl rfl ⟨by omega, by omega⟩ ?_
                  refine wD_mov (v := .slice sb B.length cb) rfl ?_
                  refine wD_len (m := B.length) rfl ?_
                  refine wD_rem (a := ((i : Int) + 1)) (b := (B.length : Int)) rfl rfl (by omega) (by omega) ⟨by omega, by omega⟩ ⟨by omega, by omega⟩ ?_
                  refine wD_idx (b := sxb) (o := 0) (k := (i + 1) % B.length) (j := ((i : Int) + 1) % (B.length : Int)) (by rw [← esb]; rfl) rfl rfl hm2 ?_
                  refine wD_ld (b := sxb) (o := 0 + ((i + 1) % B.length) * 1) (v := .int .u16 (Y2 : Int)) rfl rsb (u16_at hy2) ?_
                  refine wD_pur (v := iv (Y2 : Int)) rfl (conv_50 (Y2 : Int) (by omega) (by omega) rfl) ?_
                  refine wD_mov (v := .slice sa N cap) rfl ?_
                  refine wD_mov (v := iv (i : Int)) rfl ?_
                  refine wD_idx (b := sxa) (o := 0) (k := i) (j := (i : Int)) (by rw [← esa]; rfl) rfl rfl (by omega) ?_
                  refine wD_addo (b := sxa) (o := 0 + i * 4) rfl ?_
                  refine wD_addo (b := sxa) (o := 0 + i * 4 + 2) rfl ?_
                  refine wD_ld (b := sxa) (o := 0 + i * 4 + 3) (v := iv x.w2) rfl rsa (tkc_at (j := 3) hx rfl) ?_
                  refine wD_mov (v := .slice sa N cap) rfl ?_
                  refine wD_mov (v := iv (i : Int)) rfl ?_
                  refine wD_idx (b := sxa) (o := 0) (k := i) (j := (i : Int)) (by rw [← esa]; rfl) rfl rfl (by omega) ?_
                  refine wD_addo (b := sxa) (o := 0 + i * 4) rfl ?_
                  refine wD_addo (b := sxa) (o := 0 + i * 4 + 2) rfl ?_
                  refine wD_ld (b := sxa) (o := 0 + i * 4 + 2) (v := iv x.w1) rfl rsa (tkc_at (j := 2) hx rfl) ?_
                  refine wD_sub (a := x.w2) (b := x.w1) rfl rfl ⟨by omega, by omega⟩ ?_
                  refine wD_add (a := x.w2 - x.w1) (b := 1) rfl rfl ⟨by omega, by omega⟩ ?_
                  refine wD_rem (a := (Y2 : Int)) (b := (x.w2 - x.w1) + 1) rfl rfl (by omega) (by omega) ⟨by omega, by omega⟩ ⟨by omega, by omega⟩ ?_
                  refine wD_add (a := x.w1) (b := (Y2 : Int) % ((x.w2 - x.w1) + 1)) rfl rfl ⟨by omega, by omega⟩ ?_
                  refine wD_idx (b := wb) (o := 0) (k := i) (j := (i : Int)) rfl rfl rfl hi ?_
                  refine wD_st (b := wb) (o := 0 + i * 1) (v := iv (x.w1 + ((Y2 : Int) % ((x.w2 - x.w1) + 1)))) rfl rfl hfw (by omega) rfl rfl (by rw [ints_len, nm_len]; omega) ?_
                  intro H6 kH6 nH6 sH6
                  have mH6 := kH6.1
                  have hkq := hkq.new kH6 (fun b hb => by simp at hb ⊢; omega)
                  have hs := kH6.sl hs (fun b e => by have := fsq b e; first | (simp; done) | (simp; omega))
                  have hB := kH6.sl hB (fun b e => by have := fBq b e; first | (simp; done) | (simp; omega))
                  have hv1 := kH6.sl hv1 (fun b e => by have := fv1 b e; first | (simp; done) | (simp; omega))
                  have rsa := kH6.rd rsa (by first | (simp; done) | (simp; omega))
                  have rsb := kH6.rd rsb (by first | (simp; done) | (simp; omega))
                  have hfa := kH6.cl hfa (by first | (simp; done) | (simp; omega))
                  have hfw : Cl H6 wb (ints (nm (pre (A2 L B) (i + 1)) N)) := by rw [nm_set hi, ev2, show upd (pre (A2 L B) i) i (pT L B i).2 = (pre (A2 L B) (i + 1)) from pre_succ _ _] at sH6; exact sH6
                  refine wD_end (by repeat' first | exact True.intro | exact (fun h => h) | refine And.intro ?_ ?_ | (intro h; have h : (_ : Nat) = _ := h; omega)) ?_
                  refine wN_seq ?_
                  refine wN_mov (v := .slice (some ⟨ab, 0, none⟩) N N) rfl ?_
                  refine wN_mov (v := iv (i : Int)) rfl ?_
                  refine wN_idx (b := ab) (o := 0) (k := i) (j := (i : Int)) rfl rfl rfl hi ?_
                  refine wN_ld (b := ab) (o := 0 + i * 1) (v := iv (pT L B i).1) rfl hfa.rd (pre_get (f := A1 L B) (Nat.lt_succ_self i) hi) ?_
                  refine wN_c_gtr (a := ((pT L B i).1)) (b := 3000) rfl rfl ?_
                  refine wN_end ?_
                  refine And.intro (fun q11 => ?_) (fun q11 => ?_)
                  · have q11 : ((pT L B i).1) > 3000 := of_decide_eq_true q11
                    refine wN_seq ?_
                    refine wN_callf (vs := []) rfl (callX_known hkn) ?_
                    refine wN_mov (v := .bool true) rfl ?_
                    refine wN_end ?_
                    exact And.intro trivial (Exists.intro _ (And.intro rfl rfl))
                  · have q11 : ¬ (((pT L B i).1) > 3000) := of_decide_eq_false q11
                    first | refine wN_skip ?_ | skip
                    first | refine wN_reg ?_ | refine wN_blk ?_ | refine wN_bseq ?_ | (refine wOps_nil ?_; refine wN_reg ?_)
                    refine wN_mov (v := iv (i : Int)) rfl ?_
                    refine wN_add (a := (i : Int)) (b := 1) rfl rfl ⟨by omega, by omega⟩ ?_
                    refine wN_mov (v := iv ((i : Int) + 1)) rfl ?_
                    refine wN_end ?_
                    exact ⟨k - 1, i + 1, by omega, ⟨by omega, hkq, hfa, hfw, all_next hall (by omega)⟩, rfl, rfl, rfl, rfl, rfl, rfl, rfl, trivial⟩
                · have q10 : ¬ ((i : Int) < (N : Int)) := of_decide_eq_false q10
                  have ei : i = N := by omega
                  rw [ei, nm_pre] at hfa hfw
                  rw [ei] at hall
                  have hfa0 := hfa
                  have hfw0 := hfw
                  have hv0 := hv1
                  have lv0 : ∀ b, a1 = some ⟨b, 0, none⟩ → b < L1.next := hv1.old
                  first | (refine wN_exit ?_; show wC _ _ _ _ _ _ _ _ _) | skip
                  refine wN_seq ?_
                  refine wN_mov (v := .slice none 0 0) rfl ?_
                  refine wN_end ?_
                  refine wN_seq ?_
                  refine wN_mov (v := iv 0) rfl ?_
                  refine wN_end ?_
                  refine wN_seq ?_
                  refine wN_mov (v := iv 0) rfl ?_
                  refine wN_end ?_
                  refine loop_low (fn := Try.f5) E5_2 N5 L5x2 (fun x : Nat × Nat × Value => [(0, .slice sa N cap), (1, iv (n : Int)), (7, .slice a1 L.length c1), (9, .slice (some ⟨ab, 0, none⟩) N N), (10, .slice (some ⟨wb, 0, none⟩) N N), (12, x.2.2), (13, iv (x.1 : Int)), (14, iv (x.2.1 : Int))])
                    (fun k x H' => x.2.1 + k = 40000 ∧ x.1 ≤ N ∧ Keep L1 H' [] ∧ (Yd.at' n (pT L B) x.1).bg ≤ (x.2.1 : Int) ∧ (x.1 < N → (x.2.1 : Int) ≤ Yd.bgn n (pT L B) x.1) ∧ ∃ l, Acc lo L1.next 3 H' x.2.2 l.length (ints l) ∧ Yd.Sim n (pT L B) x.1 (x.2.1 : Int) l ∧ l.length ≤ n) 40000 (0, 0, .slice none 0 0) ⟨by simp, by simp, Keep.refl _ _, Int.le_refl _, fun z => (bgn_in hok hall (by omega) z).1, [], .inl ⟨rfl, rfl, rfl⟩, Yd.sim_zero _ _, by simp⟩ ⟨rfl, rfl, rfl, rfl, rfl, rfl, rfl, rfl, trivial⟩ ?_
                  rintro k ⟨i, now, bv⟩ L2 ⟨hnk, hiN, hko, hbg, hlow, l, hacc, hsim, hln⟩
                  simp only at hnk hiN hko hbg hlow hacc hsim ⊢
                  have mk2 := hko.1
                  refine wN_seq ?_
                  refine wN_mov (v := iv (i : Int)) rfl ?_
                  refine wN_mov (v := .slice sa N cap) rfl ?_
                  refine wN_len (m := N) rfl ?_
                  refine wN_c_lss (a := (i : Int)) (b := (N : Int)) rfl rfl ?_
                  refine wN_end ?_
                  refine And.intro (fun q12 => ?_) (fun q12 => ?_)
                  · have q12 : (i : Int) < (N : Int) := of_decide_eq_true q12
                    have hi : i < N := by omega
                    have hbi := bgn_in (n := n) hok hall (by omega) hi
                    have hlo2 := hlow hi
                    obtain ⟨ba, bc, ebv, hbs0, hbf⟩ := hacc.sl
                    subst ebv
                    have fbs := hbs0.old
                    first | refine wN_skip ?_ | skip
                    refine wN_seq ?_
                    refine wN_mov (v := .slice none 0 0) rfl ?_
                    refine wN_end ?_
                    refine wN_seq ?_
                    refine wN_mov (v := iv 0) rfl ?_
                    refine wN_end ?_
                    refine loop_low (fn := Try.f5) E5_3 N5 L5x3 (fun y : Nat × Value => [(0, .slice sa N cap), (1, iv (n : Int)), (7, .slice a1 L.length c1), (9, .slice (some ⟨ab, 0, none⟩) N N), (10, .slice (some ⟨wb, 0, none⟩) N N), (12, .slice ba l.length bc), (13, iv (i : Int)), (14, iv (now : Int)), (15, y.2), (16, iv (y.1 : Int))])
                      (fun k y H' => y.1 + k = l.length ∧ Keep L2 H' [] ∧ L2.next ≤ H'.next ∧ Acc lo L2.next 3 H' y.2 (flt (now : Int) (l.take y.1)).length (ints (flt (now : Int) (l.take y.1)))) l.length (0, .slice none 0 0) ⟨by simp, Keep.refl _ _, Nat.le_refl _, .inl ⟨rfl, rfl, rfl⟩⟩ ⟨rfl, rfl, rfl, rfl, rfl, rfl, rfl, rfl, rfl, rfl, trivial⟩ ?_
                    rintro k2 ⟨j, sv⟩ L3 ⟨hjk, hk3, hfl3, hacc3⟩
                    simp only at hjk hacc3 ⊢
                    have mk3 := hk3.1
                    have hbs := hk3.sl0 hbs0
                    have kacc := Keep.refl L3 []
                    refine wN_seq ?_
                    refine wN_mov (v := iv (j : Int)) rfl ?_
                    refine wN_mov (v := .slice ba l.length bc) rfl ?_
                    refine wN_len (m := l.length) rfl ?_
                    refine wN_c_lss (a := (j : Int)) (b := (l.length : Int)) rfl rfl ?_
                    refine wN_end ?_
                    refine And.intro (fun q13 => ?_) (fun q13 => ?_)
                    · have q13 : (j : Int) < (l.length : Int) := of_decide_eq_true q13
                      have hj : j < l.length := by omega
                      obtain ⟨z, hz⟩ := get_some (l := l) (i := j) hj
                      rcases id hbs with ⟨_, h0, _⟩ | ⟨bb, ebb, rbb, _⟩
                      · omega
                      have lbb := fbs bb ebb
                      have hfle := flt_len (t := (now : Int)) (l := l) (j := j)
                      first | refine wN_skip ?_ | skip
                      refine wN_seq ?_
                      refine wN_mov (v := .slice ba l.length bc) rfl ?_
                      refine wN_mov (v := iv (j : Int)) rfl ?_
                      refine wN_idx (b := bb) (o := 0) (k := j) (j := (j : Int)) (by rw [← ebb]; rfl) rfl rfl hj ?_
                      refine wN_ld (b := bb) (o := 0 + j * 1) (v := iv z) rfl rbb (ints_at hz) ?_
                      refine wN_mov (v := iv (now : Int)) rfl ?_
                      refine wN_c_gtr (a := z) (b := (now : Int)) rfl rfl ?_
                      refine wN_end ?_
                      refine And.intro (fun q14 => ?_) (fun q14 => ?_)
                      · have q14 : z > (now : Int) := of_decide_eq_true q14
                        have hzt : (now : Int) < z := by omega
                        first | refine wN_reg ?_ | refine wN_blk ?_ | refine wN_bseq ?_ | (refine wOps_nil ?_; refine wN_reg ?_)
                        refine wN_mov (v := sv) rfl ?_
                        refine wN_mov (v := .slice ba l.length bc) rfl ?_
                        refine wN_mov (v := iv (j : Int)) rfl ?_
                        refine wN_idx (b := bb) (o := 0) (k := j) (j := (j : Int)) (by rw [← ebb]; rfl) rfl rfl hj ?_
                        refine wN_ld (b := bb) (o := 0 + j * 1) (v := iv z) rfl rbb (ints_at hz) ?_
                        obtain ⟨H7, hH7⟩ : ∃ H7, L3.new (.cells [iv z] 3 false) = H7 := ⟨_, rfl⟩
                        refine wN_memh (H' := H7) (k := .heavy) rfl (by kernel_rfl) ((heap_build1 (v := iv z) se45 z3 rfl rfl rfl (by decide)).trans (by rw [← hH7]; rfl)) (fun b e => by cases e) ?_
                        obtain ⟨kH7, nH7, c7⟩ := new_facts hH7; clear hH7
                        have c7 : Cl H7 L3.next [iv z] := c7
                        have mH7 := kH7.1
                        have hk3 := hk3.trans kH7
                        have hbs := kH7.sl0 hbs
                        have kacc := kacc.trans kH7
                        have rbb := kH7.rd rbb (by simp)
                        obtain ⟨H8, kdH8, eH8, dH8, hacc4, kbH8⟩ := heap_append_below (P := Try.prog) (lo := lo) (k := (flt (now : Int) (l.take j)).length) (t1 := 45) se45 u45 (c7.sl (Nat.le_refl 1)) rfl (by decide) rfl (by rw [ints_len, Nat.mul_one]) (by omega) (hacc3.keep kacc) (by omega) (by omega)
                        refine wN_memh (k := kdH8) rfl (by cases sv <;> kernel_rfl) (eH8 _ _ _ _ _ _ _ rfl rfl) (reg_ok dH8 _) ?_
                        have hk3 := kbH8.keep hk3 (by omega)
                        have mH8 := kbH8.1
                        refine wN_mov (v := .slice (some ⟨H7.next, 0, none⟩) ((flt (now : Int) (l.take j)).length + 1) ((flt (now : Int) (l.take j)).length + 1)) rfl ?_
                        refine wN_end ?_
                        first | refine wN_reg ?_ | refine wN_blk ?_ | refine wN_bseq ?_ | (refine wOps_nil ?_; refine wN_reg ?_)
                        refine wN_mov (v := iv (j : Int)) rfl ?_
                        refine wN_add (a := (j : Int)) (b := 1) rfl rfl ⟨by omega, by omega⟩ ?_
                        refine wN_mov (v := iv ((j : Int) + 1)) rfl ?_
                        refine wN_end ?_
                        exact ⟨k2 - 1, (j + 1, .slice (some ⟨H7.next, 0, none⟩) ((flt (now : Int) (l.take j)).length + 1) ((flt (now : Int) (l.take j)).length + 1)), by omega, ⟨by simp only; omega, hk3, by omega, by simp only; rw [flt_pos hz hzt, List.length_append, ints_app]; exact hacc4⟩, rfl, rfl, rfl, rfl, rfl, rfl, rfl, rfl, rfl, rfl, trivial⟩
                      · have q14 : ¬ (z > (now : Int)) := of_decide_eq_false q14
                        have hzt : ¬ (now : Int) < z := by omega
                        first | refine wN_skip ?_ | skip
                        first | refine wN_reg ?_ | refine wN_blk ?_ | refine wN_bseq ?_ | (refine wOps_nil ?_; refine wN_reg ?_)
                        refine wN_mov (v := iv (j : Int)) rfl ?_
                        refine wN_add (a := (j : Int)) (b := 1) rfl rfl ⟨by omega, by omega⟩ ?_
                        refine wN_mov (v := iv ((j : Int) + 1)) rfl ?_
                        refine wN_end ?_
                        exact ⟨k2 - 1, (j + 1, sv), by omega, ⟨by simp only; omega, hk3, hfl3, by simp only; rw [flt_neg hz hzt]; exact hacc3⟩, rfl, rfl, rfl, rfl, rfl, rfl, rfl, rfl, rfl, rfl, trivial⟩
                    · have q13 : ¬ ((j : Int) < (l.length : Int)) := of_decide_eq_false q13
                      have ej : j = l.length := by omega
                      rw [ej, List.take_of_length_le (Nat.le_refl _)] at hacc3
                      have hacc4 : Acc lo L1.next 3 L3 sv (flt (now : Int) l).length (ints (flt (now : Int) l)) := hacc3.mono mk2
                      have hko := hko.trans hk3
                      have hsim : Yd.Sim n (pT L B) i (now : Int) (flt (now : Int) l) := hsim.filter
                      have hgt : ∀ x ∈ (flt (now : Int) l), (now : Int) < x := flt_mem
                      have hln : (flt (now : Int) l).length ≤ n := by have := hsim _ (Int.le_refl _); rw [Yd.gt_all hgt] at this; omega
                      first | (refine wN_exit ?_; show wC _ _ _ _ _ _ _ _ _) | skip
                      refine wN_seq ?_
                      refine wN_mov (v := sv) rfl ?_
                      refine wN_mov (v := sv) rfl ?_
                      refine wN_end ?_
                      refine loop_low (fn := Try.f5) E5_4 N5 L5x4 (fun y : Nat × Value => [(0, .slice sa N cap), (1, iv (n : Int)), (7, .slice a1 L.length c1), (9, .slice (some ⟨ab, 0, none⟩) N N), (10, .slice (some ⟨wb, 0, none⟩) N N), (12, y.2), (13, iv (y.1 : Int)), (14, iv (now : Int))])
                        (fun k y H' => y.1 + k = N ∧ Keep L1 H' [] ∧ (Yd.at' n (pT L B) y.1).bg ≤ (now : Int) ∧ (y.1 < N → (now : Int) ≤ Yd.bgn n (pT L B) y.1) ∧ ∃ l, Acc lo L1.next 3 H' y.2 l.length (ints l) ∧ Yd.Sim n (pT L B) y.1 (now : Int) l ∧ (∀ x ∈ l, (now : Int) < x) ∧ l.length ≤ n) (N - i) (i, sv) ⟨by simp only; omega, hko, hbg, hlow, _, hacc4, hsim, hgt, hln⟩ ⟨rfl, rfl, rfl, rfl, rfl, rfl, rfl, rfl, trivial⟩ ?_
                      rintro k3 ⟨i2, bv2⟩ L4 ⟨hik2, hko, hbg, hlow, l2, hacc, hsim, hgt, hln⟩
                      simp only at hik2 hbg hlow hacc hsim ⊢
                      have mk4 := hko.1
                      obtain ⟨ba2, bc2, ebv, _, _⟩ := hacc.sl
                      subst ebv
                      have kacc := Keep.refl L4 []
                      have hfa := hko.cl hfa0 (by simp)
                      have hfw := hko.cl hfw0 (by simp)
                      have hv1 := hko.sl0 hv0
                      have lfa := hfa0.rd.lt
                      have lfw := hfw0.rd.lt
                      refine wN_seq ?_
                      refine wN_mov (v := iv (i2 : Int)) rfl ?_
                      refine wN_mov (v := .slice sa N cap) rfl ?_
                      refine wN_len (m := N) rfl ?_
                      refine wN_b_lss (a := (i2 : Int)) (b := (N : Int)) rfl rfl ?_
                      intro t15 g15; cases t15
                      · have g15 : ¬ ((i2 : Int) < (N : Int)) := of_decide_eq_false g15
                        have hlate : i2 < N → (now : Int) + 1 ≤ Yd.bgn n (pT L B) i2 := fun z => by omega
                        refine wN_mov (v := .bool false) rfl ?_
                        refine wN_gs rfl ?_
                        refine wN_gs rfl ?_
                        refine wN_gs rfl ?_
                        refine wN_gs rfl ?_
                        refine wN_gs rfl ?_
                        refine wN_gs rfl ?_
                        refine wN_pur (v := .bool false) rfl rfl ?_
                        refine wN_mov (v := .bool false) rfl ?_
                        refine wN_gs rfl ?_
                        refine wN_gs rfl ?_
                        refine wN_gs rfl ?_
                        refine wN_gs rfl ?_
                        refine wN_pur (v := .bool false) rfl rfl ?_
                        refine wN_end ?_
                        refine condF ?_
                        first | (refine wN_exit ?_; show wC _ _ _ _ _ _ _ _ _) | skip
                        first | refine wN_reg ?_ | refine wN_blk ?_ | refine wN_bseq ?_ | (refine wOps_nil ?_; refine wN_reg ?_)
                        refine wN_mov (v := iv (now : Int)) rfl ?_
                        refine wN_add (a := (now : Int)) (b := 1) rfl rfl ⟨by omega, by omega⟩ ?_
                        refine wN_mov (v := iv ((now : Int) + 1)) rfl ?_
                        refine wN_end ?_
                        exact ⟨k - 1, (i2, now + 1, .slice ba2 l2.length bc2), by omega, ⟨by simp only; omega, by simp only; omega, hko, by simp only; omega, fun z => hlate z, l2, hacc, hsim.next, hln⟩, rfl, rfl, rfl, rfl, rfl, rfl, rfl, rfl, trivial⟩
                      · have g15 : (i2 : Int) < (N : Int) := of_decide_eq_true g15
                        have hi2 : i2 < N := by omega
                        refine wN_mov (v := .bool true) rfl ?_
                        refine wN_g rfl (wN_mov (v := .slice (some ⟨ab, 0, none⟩) N N) rfl ?_)
                        refine wN_g rfl (wN_mov (v := iv (i2 : Int)) rfl ?_)
                        refine wN_g rfl (wN_idx (b := ab) (o := 0) (k := i2) (j := (i2 : Int)) rfl rfl rfl hi2 ?_)
                        refine wN_g rfl (wN_ld (b := ab) (o := 0 + i2 * 1) (v := iv ((pT L B i2).1)) rfl hfa.rd (ints_at (nm_get hi2)) ?_)
                        refine wN_g rfl (wN_mov (v := iv (now : Int)) rfl ?_)
                        refine wN_g rfl (wN_b_leq (a := (pT L B i2).1) (b := (now : Int)) rfl rfl ?_)
                        intro t16 g16; cases t16
                        · have g16 : ¬ (((pT L B i2).1) ≤ (now : Int)) := of_decide_eq_false g16
                          have hlate : i2 < N → (now : Int) + 1 ≤ Yd.bgn n (pT L B) i2 := fun z => hsim.late hgt hn0 (.inl (by omega))
                          refine wN_pur (v := .bool false) rfl rfl ?_
                          refine wN_mov (v := .bool false) rfl ?_
                          refine wN_gs rfl ?_
                          refine wN_gs rfl ?_
                          refine wN_gs rfl ?_
                          refine wN_gs rfl ?_
                          refine wN_pur (v := .bool false) rfl rfl ?_
                          refine wN_end ?_
                          refine condF ?_
                          first | (refine wN_exit ?_; show wC _ _ _ _ _ _ _ _ _) | skip
                          first | refine wN_reg ?_ | refine wN_blk ?_ | refine wN_bseq ?_ | (refine wOps_nil ?_; refine wN_reg ?_)
                          refine wN_mov (v := iv (now : Int)) rfl ?_
                          refine wN_add (a := (now : Int)) (b := 1) rfl rfl ⟨by omega, by omega⟩ ?_
                          refine wN_mov (v := iv ((now : Int) + 1)) rfl ?_
                          refine wN_end ?_
                          exact ⟨k - 1, (i2, now + 1, .slice ba2 l2.length bc2), by omega, ⟨by simp only; omega, by simp only; omega, hko, by simp only; omega, fun z => hlate z, l2, hacc, hsim.next, hln⟩, rfl, rfl, rfl, rfl, rfl, rfl, rfl, rfl, trivial⟩
                        · have g16 : ((pT L B i2).1) ≤ (now : Int) := of_decide_eq_true g16
                          refine wN_pur (v := .bool true) rfl rfl ?_
                          refine wN_mov (v := .bool true) rfl ?_
                          refine wN_g rfl (wN_mov (v := .slice ba2 l2.length bc2) rfl ?_)
                          refine wN_g rfl (wN_len (m := l2.length) rfl ?_)
                          refine wN_g rfl (wN_mov (v := iv (n : Int)) rfl ?_)
                          refine wN_g rfl (wN_b_lss (a := (l2.length : Int)) (b := (n : Int)) rfl rfl ?_)
                          intro t17 g17; cases t17
                          · have g17 : ¬ ((l2.length : Int) < (n : Int)) := of_decide_eq_false g17
                            have hlate : i2 < N → (now : Int) + 1 ≤ Yd.bgn n (pT L B) i2 := fun z => hsim.late hgt hn0 (.inr (by omega))
                            refine wN_pur (v := .bool false) rfl rfl ?_
                            refine wN_end ?_
                            refine condF ?_
                            first | (refine wN_exit ?_; show wC _ _ _ _ _ _ _ _ _) | skip
                            first | refine wN_reg ?_ | refine wN_blk ?_ | refine wN_bseq ?_ | (refine wOps_nil ?_; refine wN_reg ?_)
                            refine wN_mov (v := iv (now : Int)) rfl ?_
                            refine wN_add (a := (now : Int)) (b := 1) rfl rfl ⟨by omega, by omega⟩ ?_
                            refine wN_mov (v := iv ((now : Int) + 1)) rfl ?_
                            refine wN_end ?_
                            exact ⟨k - 1, (i2, now + 1, .slice ba2 l2.length bc2), by omega, ⟨by simp only; omega, by simp only; omega, hko, by simp only; omega, fun z => hlate z, l2, hacc, hsim.next, hln⟩, rfl, rfl, rfl, rfl, rfl, rfl, rfl, rfl, trivial⟩
                          · have g17 : (l2.length : Int) < (n : Int) := of_decide_eq_true g17
                            refine wN_pur (v := .bool true) rfl rfl ?_
                            refine wN_end ?_
                            refine condT ?_
                            have hnow : Yd.bgn n (pT L B) i2 = (now : Int) := hsim.now hgt (by omega) hbg (by omega) (hlow hi2)
                            obtain ⟨v1, v2, v3⟩ := sim_visit (n := n) hn0 (pT_in hok B) i2
                            rw [hnow] at v1 v2 v3
                            have pin := pT_in hok B i2
                            have oin := ok_in hok (.inr rfl : Prod.snd = Prod.fst ∨ Prod.snd = Prod.snd) i2
                            have oin1 := ok_in hok (.inl rfl : Prod.fst = Prod.fst ∨ Prod.fst = Prod.snd) i2
                            have hbi2 := bgn_in (n := n) hok hall (by omega) hi2
                            have hgo := hsim.go hgt hn0 (by omega) hnow (by omega)
                            have hgm := Yd.go_mem (n := n) (p := pT L B) (i := i2) hgt
                            obtain ⟨gb1, gb2⟩ := Yd.go_bg n (pT L B) i2 hnow
                            rcases id hv1 with ⟨_, h0, _⟩ | ⟨sv1, ev1, rv1, _⟩
                            · omega
                            have lv1 := lv0 sv1 ev1
                            first | refine wN_skip ?_ | skip
                            refine wN_seq ?_
                            refine wN_mov (v := .slice a1 L.length c1) rfl ?_
                            refine wN_mov (v := iv (i2 : Int)) rfl ?_
                            refine wN_idx (b := sv1) (o := 0) (k := i2) (j := (i2 : Int)) (by rw [← ev1]; rfl) rfl rfl (by omega) ?_
                            refine wN_lda (b := sv1) (o := 0 + i2 * 6) rfl rv1 (vsc_row (visL_get (by omega))) ?_
                            refine wN_alc ?_
                            intro H9 kH9 nH9 c9
                            have c9 : Cl H9 L4.next [iv 0, iv 0, iv 0, iv 0, iv 0, iv 0] := c9
                            have mH9 := kH9.1
                            have hko := hko.trans kH9
                            have kacc := kacc.trans kH9
                            have hfa := kH9.cl hfa (by simp)
                            have hfw := kH9.cl hfw (by simp)
                            have hv1 := kH9.sl0 hv1
                            have rv1 := kH9.rd rv1 (by simp)
                            refine wN_sta (b := L4.next) (o := 0) rfl rfl c9 (by omega) rfl rfl (by simp) ?_
                            intro H10 kH10 nH10 sH10
                            have mH10 := kH10.1
                            have hko := hko.new kH10 (fun b hb => by simp at hb ⊢; omega)
                            have kacc := kacc.new kH10 (fun b hb => by simp at hb ⊢; omega)
                            have hfa := kH10.cl hfa (by first | (simp; done) | (simp; omega))
                            have hfw := kH10.cl hfw (by first | (simp; done) | (simp; omega))
                            have hv1 := kH10.sl hv1 (fun b e => by have := lv0 b e; first | (simp; done) | (simp; omega))
                            have rv1 := kH10.rd rv1 (by first | (simp; done) | (simp; omega))
                            have c9 : Cl H10 L4.next [iv ((visit L n i2).b1), iv ((visit L n i2).b2), iv ((visit L n i2).e1), iv ((visit L n i2).e2), iv ((visit L n i2).w1), iv ((visit L n i2).w2)] := sH10
                            refine wN_end ?_
                            refine wD_seq ?_
                            refine wD_addo (b := L4.next) (o := 0) rfl ?_
                            refine wD_lda (b := L4.next) (o := 0) rfl c9.rd (show row 2 _ _ = some [iv ((visit L n i2).b1), iv ((visit L n i2).b2)] from rfl) ?_
                            refine wD_mov (v := iv (now : Int)) rfl ?_
                            obtain ⟨H11, fH11, kH11⟩ := has_ok (kn := kn) (lo := lo) (H := H10) (a := (visit L n i2).b1) (b := (visit L n i2).b2) (m := (now : Int))
                            rw [v1] at fH11
                            refine wD_callf (vs := [spv ((visit L n i2).b1) ((visit L n i2).b2), iv (now : Int)]) rfl (callX_args fH11) ?_
                            have mH11 := kH11.1
                            have hko := hko.trans kH11
                            have kacc := kacc.trans kH11
                            have hfa := kH11.cl hfa (by simp)
                            have hfw := kH11.cl hfw (by simp)
                            have hv1 := kH11.sl0 hv1
                            have rv1 := kH11.rd rv1 (by simp)
                            have c9 := kH11.cl c9 (by simp)
                            refine wD_pur (v := .bool false) rfl rfl ?_
                            refine wD_mov (v := .bool false) rfl ?_
                            refine wD_g rfl (wD_addo (b := L4.next) (o := 0) rfl ?_)
                            refine wD_g rfl (wD_lda (b := L4.next) (o := 2) rfl c9.rd (show row 2 _ _ = some [iv ((visit L n i2).e1), iv ((visit L n i2).e2)] from rfl) ?_)
                            refine wD_g rfl (wD_mov (v := iv (now : Int)) rfl ?_)
                            refine wD_g rfl (wD_mov (v := .slice (some ⟨wb, 0, none⟩) N N) rfl ?_)
                            refine wD_g rfl (wD_mov (v := iv (i2 : Int)) rfl ?_)
                            refine wD_g rfl (wD_idx (b := wb) (o := 0) (k := i2) (j := (i2 : Int)) rfl rfl rfl hi2 ?_)
                            refine wD_g rfl (wD_ld (b := wb) (o := 0 + i2 * 1) (v := iv ((pT L B i2).2)) rfl hfw.rd (ints_at (nm_get hi2)) ?_)
                            refine wD_g rfl (wD_add (a := (now : Int)) (b := (pT L B i2).2) rfl rfl ⟨by omega, by omega⟩ ?_)
                            obtain ⟨H12, fH12, kH12⟩ := has_ok (kn := kn) (lo := lo) (H := H11) (a := (visit L n i2).e1) (b := (visit L n i2).e2) (m := (now : Int) + ((pT L B i2).2))
                            rw [v2] at fH12
                            refine wD_g rfl (wD_callf (vs := [spv ((visit L n i2).e1) ((visit L n i2).e2), iv ((now : Int) + ((pT L B i2).2))]) rfl (callX_args fH12) ?_)
                            have mH12 := kH12.1
                            have hko := hko.trans kH12
                            have kacc := kacc.trans kH12
                            have hfa := kH12.cl hfa (by simp)
                            have hfw := kH12.cl hfw (by simp)
                            have hv1 := kH12.sl0 hv1
                            have rv1 := kH12.rd rv1 (by simp)
                            have c9 := kH12.cl c9 (by simp)
                            refine wD_g rfl (wD_pur (v := .bool false) rfl rfl ?_)
                            refine wD_pur (v := .bool false) rfl rfl ?_
                            refine wD_mov (v := .bool false) rfl ?_
                            refine wD_g rfl (wD_addo (b := L4.next) (o := 0) rfl ?_)
                            refine wD_g rfl (wD_lda (b := L4.next) (o := 4) rfl c9.rd (show row 2 _ _ = some [iv ((visit L n i2).w1), iv ((visit L n i2).w2)] from rfl) ?_)
                            refine wD_g rfl (wD_mov (v := iv (now : Int)) rfl ?_)
                            refine wD_g rfl (wD_mov (v := .slice (some ⟨ab, 0, none⟩) N N) rfl ?_)
                            refine wD_g rfl (wD_mov (v := iv (i2 : Int)) rfl ?_)
                            refine wD_g rfl (wD_idx (b := ab) (o := 0) (k := i2) (j := (i2 : Int)) rfl rfl rfl hi2 ?_)
                            refine wD_g rfl (wD_ld (b := ab) (o := 0 + i2 * 1) (v := iv ((pT L B i2).1)) rfl hfa.rd (ints_at (nm_get hi2)) ?_)
                            refine wD_g rfl (wD_sub (a := (now : Int)) (b := (pT L B i2).1) rfl rfl ⟨by omega, by omega⟩ ?_)
                            obtain ⟨H13, fH13, kH13⟩ := has_ok (kn := kn) (lo := lo) (H := H12) (a := (visit L n i2).w1) (b := (visit L n i2).w2) (m := (now : Int) - ((pT L B i2).1))
                            rw [v3] at fH13
                            refine wD_g rfl (wD_callf (vs := [spv ((visit L n i2).w1) ((visit L n i2).w2), iv ((now : Int) - ((pT L B i2).1))]) rfl (callX_args fH13) ?_)
                            have mH13 := kH13.1
                            have hko := hko.trans kH13
                            have kacc := kacc.trans kH13
                            have hfa := kH13.cl hfa (by simp)
                            have hfw := kH13.cl hfw (by simp)
                            have hv1 := kH13.sl0 hv1
                            have rv1 := kH13.rd rv1 (by simp)
                            have c9 := kH13.cl c9 (by simp)
                            refine wD_g rfl (wD_pur (v := .bool false) rfl rfl ?_)
                            refine wD_pur (v := .bool false) rfl rfl ?_
                            refine wD_end (by repeat' first | exact True.intro | exact (fun h => h) | refine And.intro ?_ ?_ | (intro h; have h : (_ : Nat) = _ := h; omega)) ?_
                            refine condF ?_
                            first | refine wN_skip ?_ | skip
                            refine wN_seq ?_
                            refine wN_mov (v := .slice (some ⟨wb, 0, none⟩) N N) rfl ?_
                            refine wN_mov (v := iv (i2 : Int)) rfl ?_
                            refine wN_idx (b := wb) (o := 0) (k := i2) (j := (i2 : Int)) rfl rfl rfl hi2 ?_
                            refine wN_ld (b := wb) (o := 0 + i2 * 1) (v := iv ((pT L B i2).2)) rfl hfw.rd (ints_at (nm_get hi2)) ?_
                            refine wN_c_gtr (a := (pT L B i2).2) (b := 0) rfl rfl ?_
                            refine wN_end ?_
                            refine And.intro (fun q18 => ?_) (fun q18 => ?_)
                            · have q18 : ((pT L B i2).2) > 0 := of_decide_eq_true q18
                              rw [if_pos (show 0 < (pT L B i2).2 from q18)] at hgo hgm
                              refine wN_seq ?_
                              refine wN_mov (v := .slice ba2 l2.length bc2) rfl ?_
                              refine wN_mov (v := iv (now : Int)) rfl ?_
                              refine wN_mov (v := .slice (some ⟨wb, 0, none⟩) N N) rfl ?_
                              refine wN_mov (v := iv (i2 : Int)) rfl ?_
                              refine wN_idx (b := wb) (o := 0) (k := i2) (j := (i2 : Int)) rfl rfl rfl hi2 ?_
                              refine wN_ld (b := wb) (o := 0 + i2 * 1) (v := iv ((pT L B i2).2)) rfl hfw.rd (ints_at (nm_get hi2)) ?_
                              refine wN_add (a := (now : Int)) (b := (pT L B i2).2) rfl rfl ⟨by omega, by omega⟩ ?_
                              obtain ⟨H14, hH14⟩ : ∃ H14, H13.new (.cells [iv ((now : Int) + ((pT L B i2).2))] 3 false) = H14 := ⟨_, rfl⟩
                              refine wN_memh (H' := H14) (k := .heavy) rfl (by kernel_rfl) ((heap_build1 (v := iv ((now : Int) + ((pT L B i2).2))) se45 z3 rfl rfl rfl (by decide)).trans (by rw [← hH14]; rfl)) (fun b e => by cases e) ?_
                              obtain ⟨kH14, nH14, c14⟩ := new_facts hH14; clear hH14
                              have c14 : Cl H14 H13.next [iv ((now : Int) + ((pT L B i2).2))] := c14
                              have mH14 := kH14.1
                              have hko := hko.trans kH14
                              have kacc := kacc.trans kH14
                              have hfa := kH14.cl hfa (by simp)
                              have hfw := kH14.cl hfw (by simp)
                              have hv1 := kH14.sl0 hv1
                              have rv1 := kH14.rd rv1 (by simp)
                              have c9 := kH14.cl c9 (by simp)
                              obtain ⟨H15, kdH15, eH15, dH15, hacc2, kbH15⟩ := heap_append_below (P := Try.prog) (lo := lo) (k := l2.length) (t1 := 45) se45 u45 (c14.sl (Nat.le_refl 1)) rfl (by decide) rfl (by rw [ints_len, Nat.mul_one]) (by omega) (hacc.keep kacc) (by omega) (by omega)
                              refine wN_memh (k := kdH15) rfl (by kernel_rfl) (eH15 _ _ _ _ _ _ _ rfl rfl) (reg_ok dH15 _) ?_
                              have hko := kbH15.keep hko (by omega)
                              have mH15 := kbH15.1
                              refine wN_mov (v := .slice (some ⟨H14.next, 0, none⟩) (l2.length + 1) (l2.length + 1)) rfl ?_
                              refine wN_end ?_
                              first | refine wN_reg ?_ | refine wN_blk ?_ | refine wN_bseq ?_ | (refine wOps_nil ?_; refine wN_reg ?_)
                              refine wN_mov (v := iv (i2 : Int)) rfl ?_
                              refine wN_add (a := (i2 : Int)) (b := 1) rfl rfl ⟨by omega, by omega⟩ ?_
                              refine wN_mov (v := iv ((i2 : Int) + 1)) rfl ?_
                              refine wN_end ?_
                              exact ⟨k3 - 1, (i2 + 1, .slice (some ⟨H14.next, 0, none⟩) (l2.length + 1) (l2.length + 1)), by omega, ⟨by simp only; omega, hko, by simp only; omega, fun _ => gb2, l2 ++ [(now : Int) + (pT L B i2).2], by rw [List.length_append, ints_app]; exact hacc2, hgo, hgm, by rw [List.length_append]; simp; omega⟩, rfl, rfl, rfl, rfl, rfl, rfl, rfl, rfl, trivial⟩
                            · have q18 : ¬ (((pT L B i2).2) > 0) := of_decide_eq_false q18
                              rw [if_neg (show ¬ 0 < (pT L B i2).2 from q18)] at hgo hgm
                              first | refine wN_skip ?_ | skip
                              first | refine wN_reg ?_ | refine wN_blk ?_ | refine wN_bseq ?_ | (refine wOps_nil ?_; refine wN_reg ?_)
                              refine wN_mov (v := iv (i2 : Int)) rfl ?_
                              refine wN_add (a := (i2 : Int)) (b := 1) rfl rfl ⟨by omega, by omega⟩ ?_
                              refine wN_mov (v := iv ((i2 : Int) + 1)) rfl ?_
                              refine wN_end ?_
                              exact ⟨k3 - 1, (i2 + 1, .slice ba2 l2.length bc2), by omega, ⟨by simp only; omega, hko, by simp only; omega, fun _ => gb2, l2, hacc.keep kacc, hgo, hgm, hln⟩, rfl, rfl, rfl, rfl, rfl, rfl, rfl, rfl, trivial⟩
                  · have q12 : ¬ ((i : Int) < (N : Int)) := of_decide_eq_false q12
                    first | (refine wN_exit ?_; show wC _ _ _ _ _ _ _ _ _) | skip
                    refine wN_seq ?_
                    refine wN_callf (vs := []) rfl (callX_known hkn) ?_
                    refine wN_mov (v := .bool true) rfl ?_
                    refine wN_end ?_
                    exact And.intro trivial (Exists.intro _ (And.intro rfl rfl))
              · have g9 : (L.length : Int) ≠ (N : Int) := by simpa using g9
                exfalso; omega
            · have g8 : (n : Int) > 8 := of_decide_eq_true g8
              exfalso; omega
          · have g7 : (n : Int) < 1 := of_decide_eq_true g7
            exfalso; omega
    · have g2 : (B.length : Int) = 0 := by simpa using g2
      refine wN_pur (v := .bool true) rfl rfl ?_
      refine wN_end ?_
      refine condT ?_
      refine wN_seq ?_
      refine wN_callf (vs := []) rfl (callX_known hkn) ?_
      refine wN_mov (v := .bool true) rfl ?_
      refine wN_end ?_
      exact And.intro trivial (Exists.intro _ (And.intro rfl rfl))
  · have g1 : (N : Int) > 20 := of_decide_eq_true g1
    refine wN_mov (v := .bool true) rfl ?_
    refine wN_gs rfl ?_
    refine wN_gs rfl ?_
    refine wN_gs rfl ?_
    refine wN_pur (v := .bool true) rfl rfl ?_
    refine wN_end ?_
    refine condT ?_
    refine wN_seq ?_
    refine wN_callf (vs := []) rfl (callX_known hkn) ?_
    refine wN_mov (v := .bool true) rfl ?_
    refine wN_end ?_
    exact And.intro trivial (Exists.intro _ (And.intro rfl rfl))
end
end Go.Ax

namespace Go.Ax
open Go Go.RowKit Go.Proofs Go.ChangeShapes Go.WideShapes Go.Deep

/-- A type whose cells are whole numbers. -/
def IntT (P : Program) (t : TypeId) : Prop := ∀ (H : Type) (enc : TypeId × Value → H) (w : World) (base : Nat) (spare : Nat → Bool) (held : Bool) (fuel : Nat) (cs : List Value) (x : DataW H × List MemPlace),
  DataW.trod enc P w base spare held fuel t cs = some x → cs.length = P.cellsOf t ∧ ∀ j, j < cs.length → ∃ n, cs[j]? = some (.int .i64 n)
theorem IntT.int {P : Program} {t : TypeId} (ht : P.underlying t = some (.int .i64)) (hc : P.cellsOf t = 1) : IntT P t := by
  intro H enc w base spare held fuel cs x h
  obtain ⟨n, rfl, _⟩ := DataW.trod_int ht h
  refine ⟨by rw [hc]; rfl, fun j hj => ⟨n, ?_⟩⟩
  have : j = 0 := by simp at hj; omega
  subst this; rfl
theorem IntT.struct {P : Program} {t : TypeId} {fs : Array Field} (ht : P.underlying t = some (.struct fs)) (hf : ∀ f ∈ fs.toList, IntT P f.type)
    (hcov : ((List.range (P.cellsOf t)).all fun j => fs.toList.any fun f => decide (f.offset ≤ j) && decide (j < f.offset + P.cellsOf f.type)) = true) : IntT P t := by
  intro H enc w base spare held fuel cs x h
  obtain ⟨xs, n, _, _, hlen, hxl, hg⟩ := DataW.trod_struct ht h
  refine ⟨hlen, fun j hj => ?_⟩
  have h1 := List.all_eq_true.1 hcov j (List.mem_range.2 (by omega))
  obtain ⟨f, hfm, h2⟩ := List.any_eq_true.1 h1
  simp only [Bool.and_eq_true, decide_eq_true_eq] at h2
  obtain ⟨i, hi, hfi⟩ := List.getElem_of_mem hfm
  have hfs : fs[i]? = some f := by
    rw [← Array.getElem?_toList, List.getElem?_eq_getElem hi, hfi]
  have hi2 : i < xs.length := by simpa [hxl] using hi
  have h3 := hg i f hfs
  rw [List.getElem?_eq_getElem hi2] at h3
  obtain ⟨h4, h5⟩ := hf f hfm _ _ _ _ _ _ _ _ _ h3
  obtain ⟨m, hm⟩ := h5 (j - f.offset) (by omega)
  refine ⟨m, ?_⟩
  rw [List.getElem?_take] at hm
  split at hm
  · rw [List.getElem?_drop, show f.offset + (j - f.offset) = j by omega] at hm; exact hm
  · cases hm

/-- A slice of rows of whole numbers, as it is given. -/
structure Given {α : Type} (w : World) (v : Value) (f : α → List Value) (l : List α) (x : Imp) : Prop where
  ok : ∀ (i : Nat) u, x.cs[i]? = some u → w.cell? ⟨x.blk, x.off + i, none⟩ = some u ∧ flat1 u = true
  cs : x.cs = l.flatMap f
  v : (v = .slice none 0 0 ∧ l = []) ∨ ∃ cap, v = .slice (some ⟨x.blk, x.off, none⟩) l.length cap ∧ l.length ≤ cap
theorem flat_get {α : Type} {f : α → List Value} {k : Nat} (hk : 0 < k) : ∀ {l : List α} (_ : ∀ x ∈ l, (f x).length = k) (i : Nat) (u : Value), (l.flatMap f)[i]? = some u → ∃ x, l[i / k]? = some x ∧ (f x)[i % k]? = some u
  | [], _, i, u, h => by simp at h
  | y :: r, hl, i, u, h => by
    have hy := hl y (List.mem_cons_self ..)
    rw [List.flatMap_cons, List.getElem?_append] at h
    split at h
    · rename_i q
      rw [hy] at q
      refine ⟨y, ?_, ?_⟩
      · rw [Nat.div_eq_of_lt q]; rfl
      · rw [Nat.mod_eq_of_lt q]; exact h
    · rename_i q
      rw [hy] at q h
      obtain ⟨x, h1, h2⟩ := flat_get hk (fun x hx => hl x (List.mem_cons_of_mem _ hx)) _ u h
      refine ⟨x, ?_, ?_⟩
      · rw [Nat.div_eq_sub_div hk (by omega)]; exact h1
      · rw [Nat.mod_eq_sub_mod (by omega)]; exact h2
theorem slice_given {H : Type} {enc : TypeId × Value → H} {P : Program} {w : World} {base b0 : Nat} {r : Reach} {held : Bool} {α : Type} (f : α → List Value) (mk : (Nat → Int) → α) (k : Nat) {t e : TypeId} {fuel : Nat} {v : Value} {x : DataW H × List MemPlace}
    (ht : P.underlying t = some (.slice e)) (hI : IntT P e) (hc : P.cellsOf e = k) (hk : 0 < k) (hmk : ∀ N : Nat → Int, f (mk N) = (List.range k).map fun j => Value.int .i64 (N j))
    (hok : Cell.okWide P w r b0 t v) (h : DataW.trod enc P w base (fun _ => true) held fuel t [v] = some x) : ∃ (l : List α) (y : Imp), Given w v f l y := by
  rcases open_slice ht h with ⟨h0, _⟩ | ⟨a, len, cap, m, n, D, Pl, hcs, hb, hl, hm, hmm, hx, hi⟩
  · cases h0
    exact ⟨[], ⟨0, 0, []⟩, fun i u e => by simp at e, rfl, .inl ⟨rfl, rfl⟩⟩
  · cases hcs
    obtain ⟨blk, off, spot⟩ := a
    have hs : spot = none := by
      unfold Cell.okWide at hok
      rw [ht] at hok
      unfold Cell.ok at hok
      simp only [ht] at hok
      exact hok.2.2.2.1
    subst hs
    simp only [if_true] at hmm
    subst hmm
    have hcell : ∀ i, i < len → ∀ j, j < k → ∃ n, w.cell? ⟨blk, off + (i * k + j), none⟩ = some (.int .i64 n) := by
      intro i hil j hj
      obtain ⟨cs', h1, h2⟩ := hi i (by omega)
      obtain ⟨h3, h4⟩ := hI _ _ _ _ _ _ _ _ _ h2
      obtain ⟨_, h5, h6⟩ := World.cells?_some h1
      obtain ⟨n, hn⟩ := h4 j (by omega)
      refine ⟨n, ?_⟩
      have h7 := h6 j (by omega)
      rw [hn, hc, add_add] at h7
      have e : (⟨blk, off, none⟩ : Addr).add (i * k + j) = ⟨blk, off + (i * k + j), none⟩ := by
        unfold Addr.add
        by_cases q : i * k + j = 0
        · simp [q]
        · simp
      rw [e] at h7
      exact h7
    refine ⟨(List.range len).map fun i => mk fun j => match w.cell? ⟨blk, off + (i * k + j), none⟩ with | some (.int _ n) => n | _ => 0, ⟨blk, off, _⟩, ?_, rfl, .inr ⟨m, by simp, by simpa using hl⟩⟩
    intro i u hu
    obtain ⟨y, h1, h2⟩ := flat_get hk (fun y hy => by
      obtain ⟨i, _, rfl⟩ := List.mem_map.1 hy
      rw [hmk]; simp) i u hu
    have hlt : i / k < len := by
      have := get_lt h1
      simpa using this
    rw [List.getElem?_map, List.getElem?_range hlt] at h1
    simp only [Option.map_some, Option.some.injEq] at h1
    subst h1
    have hj : i % k < k := Nat.mod_lt _ hk
    rw [hmk, List.getElem?_map, List.getElem?_range hj] at h2
    simp only [Option.map_some, Option.some.injEq] at h2
    obtain ⟨n, hn⟩ := hcell _ hlt _ hj
    rw [hn] at h2
    subst h2
    rw [Nat.div_add_mod' ] at hn
    exact ⟨hn, rfl⟩
theorem Given.rel {α : Type} {w : World} {v : Value} {f : α → List Value} {l : List α} {x : Imp} (g : Given w v f l x) {r : Ren} {H : Hp} {b : Nat} (hr : r b = some ⟨x.blk, x.off, none⟩) (hb : b < H.next) (hc : cellsOf H b = some x.cs) (hro : H.t.get b = some (.ro x.cs)) :
    ∃ a cap, VR r (.slice a l.length cap) v ∧ Sl H a l.length cap (l.flatMap f) ∧ ∀ b, a = some ⟨b, 0, none⟩ → H.t.get b = some (.ro (l.flatMap f)) := by
  rcases g.v with ⟨rfl, rfl⟩ | ⟨cap, rfl, hl⟩
  · exact ⟨none, 0, .nilSlice, .inl ⟨.inl rfl, rfl, rfl, rfl⟩, fun b e => by cases e⟩
  · refine ⟨some ⟨b, 0, none⟩, cap, ?_, .inr ⟨b, rfl, ⟨hb, by rw [hc, g.cs]⟩, hl⟩, fun b' e => by cases e; rw [hro, g.cs]⟩
    have := VR.slice (o := 0) (n := l.length) (c := cap) hr rfl hl
    simpa using this
end Go.Ax

/-! Slices of rows of plain cells, as arguments. -/
namespace Go.Ax
open Go Go.RowKit Go.Proofs Go.ChangeShapes Go.WideShapes Go.Deep

theorem IntT.row {α : Type} {P : Program} {t : TypeId} {k : Nat} {f : α → List Value} {mk : (Nat → Int) → α} (h : IntT P t) (hc : P.cellsOf t = k) (hmk : ∀ N : Nat → Int, f (mk N) = (List.range k).map fun j => Value.int .i64 (N j))
    {H : Type} {enc : TypeId × Value → H} {w : World} {base : Nat} {spare : Nat → Bool} {held : Bool} (fuel : Nat) (cs : List Value) (x : DataW H × List MemPlace) (hx : DataW.trod enc P w base spare held fuel t cs = some x) : ∃ y : α, cs = f y ∧ True := by
  obtain ⟨h1, h2⟩ := h _ _ _ _ _ _ _ _ _ hx
  have : ∃ N : Nat → Int, ∀ j, j < cs.length → cs[j]? = some (.int .i64 (N j)) := by
    refine ⟨fun j => match cs[j]? with | some (.int _ n) => n | _ => 0, fun j hj => ?_⟩
    obtain ⟨n, hn⟩ := h2 j hj
    simp [hn]
  obtain ⟨N, hN⟩ := this
  refine ⟨mk N, ?_, trivial⟩
  rw [hmk]
  apply List.ext_getElem?
  intro j
  by_cases hj : j < k
  · rw [hN j (by omega), List.getElem?_map, List.getElem?_range hj]; rfl
  · rw [List.getElem?_eq_none (by omega), List.getElem?_eq_none (by simp; omega)]
theorem spot_of {w : World} {a : Addr} {v : Value} (h : w.cell? a = some v) : a.spot = none := by
  unfold World.cell? at h
  split at h
  · cases hs : a.spot with
    | none => rfl
    | some x => rw [hs] at h; simp at h
  · cases h
theorem add_zero' (a : Addr) : a.add 0 = a := by unfold Addr.add; simp
theorem add_plain (b o n : Nat) : (⟨b, o, none⟩ : Addr).add n = ⟨b, o + n, none⟩ := by
  unfold Addr.add
  by_cases q : n = 0
  · simp [q]
  · simp [q]
/-- A slice of rows, as it is read; Q: what else is known of a row. -/
theorem rows_read {H : Type} {enc : TypeId × Value → H} {P : Program} {w : World} {base : Nat} {held : Bool} {α : Type} {f : α → List Value} {Q : α → Prop} {k : Nat} {t e : TypeId} {fuel : Nat} {v : Value} {x : DataW H × List MemPlace}
    (ht : P.underlying t = some (.slice e)) (hR : ∀ (fuel : Nat) (cs : List Value) (x : DataW H × List MemPlace), DataW.trod enc P w base (fun _ => true) held fuel e cs = some x → ∃ y : α, cs = f y ∧ Q y) (hc : P.cellsOf e = k) (hk : 0 < k) (hfk : ∀ y, (f y).length = k)
    (h : DataW.trod enc P w base (fun _ => true) held fuel t [v] = some x) : ∃ (l : List α), l.length ≤ maxLen ∧ (∀ y ∈ l, Q y) ∧
      (((v = .slice none 0 0 ∨ ∃ a', v = .slice (some a') 0 0) ∧ l = []) ∨ ∃ blk off cap, v = .slice (some ⟨blk, off, none⟩) l.length cap ∧ l.length ≤ cap ∧ ∀ (i : Nat) u, (l.flatMap f)[i]? = some u → w.cell? ⟨blk, off + i, none⟩ = some u) := by
  rcases open_slice ht h with ⟨h0, _⟩ | ⟨a, len, cap, m, n, D, Pl, hcs, hb, hl, hm, hmm, hx, hi⟩
  · cases h0
    exact ⟨[], by simp, fun y hy => by simp at hy, .inl ⟨.inl rfl, rfl⟩⟩
  cases hcs
  simp only [if_true] at hmm
  subst hmm
  rcases Nat.eq_zero_or_pos m with h0 | h0
  · subst h0
    have : len = 0 := by omega
    subst this
    exact ⟨[], by simp, fun y hy => by simp at hy, .inl ⟨.inr ⟨_, rfl⟩, rfl⟩⟩
  obtain ⟨blk, off, spot⟩ := a
  have hs : spot = none := by
    obtain ⟨cs', h1, h2⟩ := hi 0 h0
    obtain ⟨y, hy, _⟩ := hR _ _ _ h2
    obtain ⟨_, h5, h6⟩ := World.cells?_some h1
    have h7 := h6 0 (by omega)
    rw [Nat.zero_mul, add_zero', add_zero'] at h7
    have h8 : cs'[0]? = some (cs'[0]'(by omega)) := List.getElem?_eq_getElem _
    rw [h8] at h7
    exact spot_of h7
  subst hs
  have hrow : ∀ i, i < len → ∃ y : α, Q y ∧ ∀ j, j < k → ∃ u, (f y)[j]? = some u ∧ w.cell? ⟨blk, off + (i * k + j), none⟩ = some u := by
    intro i hil
    obtain ⟨cs', h1, h2⟩ := hi i (by omega)
    obtain ⟨y, rfl, hq⟩ := hR _ _ _ h2
    obtain ⟨_, h5, h6⟩ := World.cells?_some h1
    refine ⟨y, hq, fun j hj => ?_⟩
    have h7 := h6 j (by omega)
    have h8 : (f y)[j]? = some ((f y)[j]'(by rw [hfk]; exact hj)) := List.getElem?_eq_getElem _
    rw [h8, hc, add_plain, add_plain, Nat.add_assoc] at h7
    exact ⟨_, h8, h7⟩
  have key : ∀ n, n ≤ len → ∃ l : List α, l.length = n ∧ (∀ y ∈ l, Q y) ∧ ∀ (i : Nat) y, l[i]? = some y → ∀ j, j < k → ∃ u, (f y)[j]? = some u ∧ w.cell? ⟨blk, off + (i * k + j), none⟩ = some u := by
    intro n
    induction n with
    | zero => intro _; exact ⟨[], rfl, fun y hy => by simp at hy, fun i y e => by simp at e⟩
    | succ n ih =>
      intro hn
      obtain ⟨l, h1, hq, h2⟩ := ih (by omega)
      obtain ⟨y, hyq, hy⟩ := hrow n (by omega)
      refine ⟨l ++ [y], by simp [h1], fun z hz => ?_, fun i z e => ?_⟩
      · simp only [List.mem_append, List.mem_singleton] at hz
        rcases hz with hz | rfl
        · exact hq z hz
        · exact hyq
      rw [List.getElem?_append] at e
      split at e
      · exact h2 i z e
      · rename_i q
        have : i = n := by have := get_lt e; simp at this; omega
        subst this
        rw [h1, Nat.sub_self] at e
        simp at e; subst e
        exact hy
  obtain ⟨l, hl1, hq, hl2⟩ := key len (Nat.le_refl _)
  refine ⟨l, by omega, hq, .inr ⟨blk, off, m, by rw [hl1], by omega, fun i u hu => ?_⟩⟩
  obtain ⟨y, h1, h2⟩ := flat_get hk (fun y _ => hfk y) i u hu
  have hj : i % k < k := Nat.mod_lt _ hk
  obtain ⟨u', e1, e2⟩ := hl2 _ y h1 _ hj
  rw [h2] at e1; cases e1
  rw [Nat.div_add_mod'] at e2
  exact e2
/-- Rows of plain cells. -/
theorem rows_givenG {H : Type} {enc : TypeId × Value → H} {P : Program} {w : World} {base b0 : Nat} {r : Reach} {held : Bool} {α : Type} {f : α → List Value} {Q : α → Prop} {k : Nat} {t e : TypeId} {fuel : Nat} {v : Value} {x : DataW H × List MemPlace}
    (ht : P.underlying t = some (.slice e)) (hR : ∀ (fuel : Nat) (cs : List Value) (x : DataW H × List MemPlace), DataW.trod enc P w base (fun _ => true) held fuel e cs = some x → ∃ y : α, cs = f y ∧ Q y) (hc : P.cellsOf e = k) (hk : 0 < k) (hfk : ∀ y, (f y).length = k) (hflat : ∀ y u, u ∈ f y → flat1 u = true)
    (hok : Cell.okWide P w r b0 t v) (h : DataW.trod enc P w base (fun _ => true) held fuel t [v] = some x) : ∃ (l : List α) (y : Imp), Given w v f l y ∧ l.length ≤ maxLen ∧ ∀ y ∈ l, Q y := by
  obtain ⟨l, h1, h2, ⟨h3, rfl⟩ | ⟨blk, off, cap, h3, h4, h5⟩⟩ := rows_read ht hR hc hk hfk h
  · rcases h3 with h3 | ⟨⟨blk, off, spot⟩, rfl⟩
    · exact ⟨[], ⟨0, 0, []⟩, ⟨fun i u e => by simp at e, rfl, .inl ⟨h3, rfl⟩⟩, h1, h2⟩
    · have hs : spot = none := by
        unfold Cell.okWide at hok
        rw [ht] at hok
        unfold Cell.ok at hok
        simp only [ht] at hok
        exact hok.2.2.2.1
      subst hs
      exact ⟨[], ⟨blk, off, []⟩, ⟨fun i u e => by simp at e, rfl, .inr ⟨0, rfl, Nat.le_refl 0⟩⟩, h1, h2⟩
  · refine ⟨l, ⟨blk, off, l.flatMap f⟩, ⟨fun i u hu => ⟨h5 i u hu, ?_⟩, rfl, .inr ⟨cap, h3, h4⟩⟩, h1, h2⟩
    obtain ⟨y, hy, hu'⟩ := List.mem_flatMap.1 (List.mem_of_getElem? hu)
    exact hflat y u hu'
theorem maxLen_le : maxLen ≤ 9223372036854775807 := by decide

end Go.Ax

/-! Arguments that point to what points: inner slices, rows of slices. -/
namespace Go.Ax
open Go Go.RowKit Go.Proofs Go.ChangeShapes Go.WideShapes Go.Deep

def renOf (imps : List Imp) : Ren := fun b => (imps[b]?).map fun x => ⟨x.blk, x.off, none⟩
theorem imports3 {P : Program} (imps outs : List Imp) (w : World) (h : ∀ x ∈ imps, ∀ (i : Nat) v, x.cs[i]? = some v → w.cell? ⟨x.blk, x.off + i, none⟩ = some v ∧ flat1 v = true)
    (hcs : ∀ x ∈ outs, ∀ (i : Nat) v, x.cs[i]? = some v → ∃ v', w.cell? ⟨x.blk, x.off + i, none⟩ = some v' ∧ VR (renOf imps) v v') :
    ∃ (r : Ren) (H : Hp), Rel P r w.heap.size H w ∧ H.next = (imps ++ outs).length ∧ (∀ b loc, r b = some loc → b < H.next) ∧ Ren.Le (renOf imps) r ∧ ∀ (b : Nat) x, (imps ++ outs)[b]? = some x → r b = some ⟨x.blk, x.off, none⟩ ∧ H.t.get b = some (.ro x.cs) := by
  have hall : ∀ x ∈ imps ++ outs, ∀ (i : Nat) v, x.cs[i]? = some v → ∃ v', w.cell? ⟨x.blk, x.off + i, none⟩ = some v' ∧ VR (renOf imps) v v' := by
    intro x hx i v hv
    rcases List.mem_append.1 hx with hx | hx
    · obtain ⟨h1, h2⟩ := h x hx i v hv
      exact ⟨v, h1, flat1_vr h2⟩
    · exact hcs x hx i v hv
  obtain ⟨t, ht⟩ := tr_of (fun b => ((imps ++ outs)[b]?).map fun x => .ro x.cs) (imps ++ outs).length
  have hle : Ren.Le (renOf imps) (fun b => ((imps ++ outs)[b]?).map fun x => ⟨x.blk, x.off, none⟩) := fun b loc e => by
    unfold renOf at e
    have hlt : b < imps.length := by
      rcases Nat.lt_or_ge b imps.length with q | q
      · exact q
      · rw [List.getElem?_eq_none q] at e; cases e
    show ((imps ++ outs)[b]?).map _ = _
    rw [List.getElem?_append_left hlt]; exact e
  have hr : ∀ (b : Nat) loc, ((imps ++ outs)[b]?).map (fun x => (⟨x.blk, x.off, none⟩ : Loc)) = some loc → ∃ x, (imps ++ outs)[b]? = some x ∧ b < (imps ++ outs).length ∧ loc = ⟨x.blk, x.off, none⟩ ∧ t.get b = some (.ro x.cs) := by
    intro b loc e
    cases hx : (imps ++ outs)[b]? with
    | none => rw [hx] at e; cases e
    | some x =>
      rw [hx] at e
      simp at e
      have hlt := get_lt hx
      exact ⟨x, rfl, hlt, e.symm, by rw [ht, if_pos hlt, hx]; rfl⟩
  have low : ∀ {g o : Nat} {v : Value}, w.cell? ⟨g, o, none⟩ = some v → g < w.heap.size := fun {g o v} hv => by
    unfold World.cell? at hv
    rcases Nat.lt_or_ge g w.heap.size with q | q
    · exact q
    · rw [Array.getElem?_eq_none q] at hv; cases hv
  refine ⟨fun b => ((imps ++ outs)[b]?).map fun x => ⟨x.blk, x.off, none⟩, { next := (imps ++ outs).length, t }, ⟨?_, ?_, ?_, Nat.le_refl _⟩, rfl, ?_, hle, ?_⟩
  · intro b loc e
    obtain ⟨x, hx, hlt, rfl, hg⟩ := hr b loc e
    refine ⟨hlt, ?_⟩
    show Dm _ _ _ (t.get b)
    rw [hg]
    cases hc : x.cs with
    | nil => exact .inl rfl
    | cons v l =>
      obtain ⟨v', h1, _⟩ := hall x (List.mem_of_getElem? hx) 0 v (by rw [hc]; rfl)
      exact .inr (low h1)
  · intro b loc o e eo
    obtain ⟨x, hx, hlt, rfl, hg⟩ := hr b loc e
    rw [hg] at eo; cases eo
    refine ⟨rfl, fun i v ev => ?_⟩
    obtain ⟨v', h1, h2⟩ := hall x (List.mem_of_getElem? hx) i v ev
    unfold World.cell? at h1
    simp only at h1
    split at h1
    · rename_i C e' f hC
      exact ⟨C, e', f, v', hC, by simpa using h1, h2.mono hle⟩
    · cases h1
  · intro b b' loc loc' e e' _ hl _
    obtain ⟨x, hx, hlt, rfl, hg⟩ := hr b loc e
    obtain ⟨o, h1, h2, h3⟩ := hl
    have : t.get b = some o := h1
    rw [hg] at this; cases this
    cases h3
  · intro b loc e
    obtain ⟨x, hx, hlt, rfl, hg⟩ := hr b loc e
    exact hlt
  · intro b x hx
    have hlt := get_lt hx
    refine ⟨by simp only [hx, Option.map_some], ?_⟩
    show t.get b = _
    rw [ht, if_pos hlt, hx]; rfl

/-- An inner slice, as it is given: an empty one may have any address. -/
structure GivI {α : Type} (w : World) (v : Value) (f : α → List Value) (l : List α) (x : Imp) : Prop where
  ok : ∀ (i : Nat) u, x.cs[i]? = some u → w.cell? ⟨x.blk, x.off + i, none⟩ = some u ∧ flat1 u = true
  cs : x.cs = l.flatMap f
  v : ((v = .slice none 0 0 ∨ ∃ a', v = .slice (some a') 0 0) ∧ l = []) ∨ ∃ cap, v = .slice (some ⟨x.blk, x.off, none⟩) l.length cap ∧ l.length ≤ cap
theorem GivI.rel {α : Type} {w : World} {v : Value} {f : α → List Value} {l : List α} {x : Imp} (g : GivI w v f l x) {r : Ren} {b : Nat} (hr : r b = some ⟨x.blk, x.off, none⟩) :
    ∃ a cap, VR r (.slice a l.length cap) v ∧ (∀ y, a = some ⟨y, 0, none⟩ → y = b) ∧ ∀ H : Hp, b < H.next → H.t.get b = some (.ro x.cs) → Sl H a l.length cap (l.flatMap f) := by
  rcases g.v with ⟨rfl | ⟨a', rfl⟩, rfl⟩ | ⟨cap, rfl, hl⟩
  · exact ⟨none, 0, .nilSlice, fun y e => by (cases e), fun H _ _ => .inl ⟨.inl rfl, rfl, rfl, rfl⟩⟩
  · exact ⟨some ⟨0, 0, some 0⟩, 0, .weird, fun y e => by (cases e), fun H _ _ => .inl ⟨.inr rfl, rfl, rfl, rfl⟩⟩
  · refine ⟨some ⟨b, 0, none⟩, cap, ?_, fun y e => by (cases e; rfl), fun H hb hc => .inr ⟨b, rfl, ⟨hb, by unfold cellsOf; rw [hc, g.cs]⟩, hl⟩⟩
    have := VR.slice (o := 0) (n := l.length) (c := cap) hr rfl hl
    simpa using this
structure RV where
  rv : Value
  l : List Int
  x : Imp
def RV.f (r : RV) : List Value := [r.rv]
def RV.Q (w : World) (r : RV) : Prop := GivI w r.rv (fun n : Int => [iv n]) r.l r.x
end Go.Ax

/-! Trucks, slips and berries as arguments. -/
namespace Go.Ax
open Go Go.RowKit Go.Proofs Go.ChangeShapes Go.WideShapes Go.Deep

theorem imports_flat {P : Program} (pre : List Imp) {w : World} (h : ∀ x ∈ pre, ∀ (i : Nat) v, x.cs[i]? = some v → w.cell? ⟨x.blk, x.off + i, none⟩ = some v ∧ flat1 v = true) :
    ∃ (r : Ren) (H : Hp), Rel P r w.heap.size H w ∧ (∀ b loc, r b = some loc → b < H.next) ∧ (∀ (b : Nat) x, pre[b]? = some x → b < H.next ∧ r b = some ⟨x.blk, x.off, none⟩ ∧ H.t.get b = some (.ro x.cs)) := by
  obtain ⟨r, H, h1, h2, h3, h4, h5⟩ := imports3 (P := P) pre [] w h (fun x hx => by simp at hx)
  refine ⟨r, H, h1, h3, fun b x hx => ?_⟩
  have := get_lt hx
  obtain ⟨a, c⟩ := h5 b x (by simpa using hx)
  exact ⟨by rw [h2]; simpa using this, a, c⟩
end Go.Ax


import Derived.Test.YtabiecloimmjdaaMe
import Derived.Test.YtabiecloimmjdaaRows
import Derived.Test.YtabiecloimmjdaaChecked
import Derived.Deep.Slices
import Derived.Deep.Fields
import Derived.ChangeSame
set_option linter.all false
/-
  Pool: Settle (18) (written by program).
-/
namespace Go.Ax
open Go Go.RowKit Go.Proofs

noncomputable section
/-- What Settle says: who is paid, what is kept, the error. -/
def stL (us : List Pr) (adv : Int) (ds : List Dl) (rev : Int) : List Int := if (vT us adv && vD ds && inB rev 0 1073741824) = true then grl ds else []
def stK (us : List Pr) (adv : Int) (ds : List Dl) (rev : Int) : Int := if (vT us adv && vD ds && inB rev 0 1073741824) = true then rev - sumK (fun g => shr rev (hwS us ds g ds.length) (tW us ds ds.length)) (grl ds) else 0
def stE (us : List Pr) (adv : Int) (ds : List Dl) (rev : Int) : Int := if (vT us adv && vD ds) = true then (if inB rev 0 1073741824 = true then 0 else 2) else 1
theorem pmc_row {us : List Pr} {adv : Int} {ds : List Dl} {rev : Int} {l : List Int} {i : Nat} (h : i < l.length) : row 4 (pmc us adv ds rev l) (0 + i * 4) = some [iv (l.getD i 0), iv (hwS us ds (l.getD i 0) ds.length), iv (haS us adv ds (l.getD i 0) ds.length), iv (shr rev (hwS us ds (l.getD i 0) ds.length) (tW us ds ds.length))] :=
  row_flat (f := fun g => [iv g, iv (hwS us ds g ds.length), iv (haS us adv ds g ds.length), iv (shr rev (hwS us ds g ds.length) (tW us ds ds.length))]) (fun _ _ => rfl) (getD_at h)
theorem grl_len {us : List Pr} {adv : Int} {ds : List Dl} (hd : ds.any badD = false) {L : ML Int} {c : Nat} (h : Grs us adv ds ds.length L c) : (grl ds).length ≤ ds.length := by
  have hn : (grl ds).Nodup := grl_sorted.imp (fun h => by omega)
  have := nodup_len (L := L.map (·.1)) hn fun x hx => by rw [h.key]; exact (grl_mem hd).1 hx
  rw [List.length_map] at this
  have := h.len
  omega
section
variable {kn : Kn} {lo : Nat} {H : Hp}
set_option maxRecDepth 100000 in
set_option maxHeartbeats 1000000 in
/-- Settle -/
theorem Settle_ok (s : Snd Try.prog kn) {us : List Pr} {sa : Option Addr} {n cap : Nat} {adv : Int} (hs : Sl H sa n cap (prc us)) (hl : us.length = n) (hn : n ≤ 1000000) {ds : List Dl} {la : Option Addr} {m capl : Nat} (hd : Sl H la m capl (dlc ds)) (hm : ds.length = m) (hmn : m ≤ 12) (hlo : lo ≤ H.next) {rev : Int} :
    FnM Try.prog lo 18 [.agg #[.slice sa n cap, iv adv], .slice la m capl, iv rev] H fun v H' => ∃ pv, v = .tuple #[pv, iv (stK us adv ds rev), iv (stE us adv ds rev)] ∧ Acc lo H.next 50 H' pv (stL us adv ds rev).length (plc us adv ds rev (stL us adv ds rev)) ∧ Keep H H' [] := by
  refine fnM_low s Try.func18 B18 N18 Z18 L18 (by simp) ?_
  have hk := Keep.refl H []
  have fs := hs.old
  have fd := hd.old
  refine wM_seq ?_
  refine wM_box (v := .agg #[.slice sa n cap, iv adv]) rfl ?_
  intro H1 kH1 nH1 c1
  have c1 : Cl H1 H.next [.slice sa n cap, iv adv] := c1
  have mH1 := kH1.1
  have hk := hk.trans kH1
  have hs := kH1.sl0 hs
  have hd := kH1.sl0 hd
  refine wM_mov (v := .slice none 0 0) rfl ?_
  refine wM_mov (v := iv 0) rfl ?_
  refine wM_mov (v := iv 0) rfl ?_
  refine wM_end ?_
  refine wM_seq ?_
  refine wM_lda (b := H.next) (o := 0) rfl c1.rd (show row 2 _ _ = some [.slice sa n cap, iv adv] from rfl) ?_
  refine wM_callB s rfl (vT_ok hs hl hn (by omega)) ?_
  intro tH2 H2 hH2 kH2
  have mH2 := kH2.1
  have hk := hk.trans kH2
  have hs := kH2.sl0 hs
  have hd := kH2.sl0 hd
  have c1 := kH2.cl c1 (by simp)
  cases tH2
  · have vhH2 : vT us adv = false := hH2
    have qvT := vhH2
    refine wM_pur (v := .bool true) rfl rfl ?_
    refine wM_mov (v := .bool true) rfl ?_
    refine wM_gs rfl ?_
    refine wM_gs rfl ?_
    refine wM_gs rfl ?_
    refine wM_pur (v := .bool true) rfl rfl ?_
    refine wM_end ?_
    refine condT ?_
    refine wM_seq ?_
    refine wM_mov (v := .slice none 0 0) rfl ?_
    refine wM_mov (v := iv 0) rfl ?_
    refine wM_mov (v := iv 1) rfl ?_
    refine wM_end ?_
    exact And.intro trivial (Exists.intro _ (And.intro rfl ⟨.slice none 0 0, by unfold stK stE; rw [if_neg (by first | (rw [qvT]; simp; done) | (rw [qvD]; simp; done) | (rw [qrv]; simp; done))]; rw [if_neg (by first | (rw [qvT]; simp; done) | (rw [qvD]; simp; done) | (rw [qrv]; simp; done))]; rfl, by unfold stL; rw [if_neg (by first | (rw [qvT]; simp; done) | (rw [qvD]; simp; done) | (rw [qrv]; simp; done))]; exact .inl ⟨rfl, rfl, rfl⟩, hk⟩))
  · have vhH2 : vT us adv = true := hH2
    obtain ⟨h0x, h8, hu, ha1, ha2⟩ := vT_t vhH2
    have h0 : 0 < n := by omega
    have qvT := vhH2
    refine wM_pur (v := .bool false) rfl rfl ?_
    refine wM_mov (v := .bool false) rfl ?_
    refine wM_g rfl (wM_mov (v := .slice la m capl) rfl ?_)
    refine wM_g rfl (wM_callB s rfl (vD_ok hd hm (by omega) (by omega)) ?_)
    intro tH3 H3 hH3 kH3
    have mH3 := kH3.1
    have hk := hk.trans kH3
    have hs := kH3.sl0 hs
    have hd := kH3.sl0 hd
    have c1 := kH3.cl c1 (by simp)
    cases tH3
    · have vhH3 : vD ds = false := hH3
      have qvD := vhH3
      refine wM_g rfl (wM_pur (v := .bool true) rfl rfl ?_)
      refine wM_pur (v := .bool true) rfl rfl ?_
      refine wM_end ?_
      refine condT ?_
      refine wM_seq ?_
      refine wM_mov (v := .slice none 0 0) rfl ?_
      refine wM_mov (v := iv 0) rfl ?_
      refine wM_mov (v := iv 1) rfl ?_
      refine wM_end ?_
      exact And.intro trivial (Exists.intro _ (And.intro rfl ⟨.slice none 0 0, by unfold stK stE; rw [if_neg (by first | (rw [qvT]; simp; done) | (rw [qvD]; simp; done) | (rw [qrv]; simp; done))]; rw [if_neg (by first | (rw [qvT]; simp; done) | (rw [qvD]; simp; done) | (rw [qrv]; simp; done))]; rfl, by unfold stL; rw [if_neg (by first | (rw [qvT]; simp; done) | (rw [qvD]; simp; done) | (rw [qrv]; simp; done))]; exact .inl ⟨rfl, rfl, rfl⟩, hk⟩))
    · have vhH3 : vD ds = true := hH3
      obtain ⟨hm8, hdv⟩ := vD_t vhH3
      have qvD := vhH3
      refine wM_g rfl (wM_pur (v := .bool false) rfl rfl ?_)
      refine wM_pur (v := .bool false) rfl rfl ?_
      refine wM_end ?_
      refine condF ?_
      first | refine wM_skip ?_ | skip
      refine wM_seq ?_
      refine wM_mov (v := iv rev) rfl ?_
      refine wM_callB s rfl (in32_ok) ?_
      intro tH4 H4 hH4 kH4
      have mH4 := kH4.1
      have hk := hk.trans kH4
      have hs := kH4.sl0 hs
      have hd := kH4.sl0 hd
      have c1 := kH4.cl c1 (by simp)
      cases tH4
      · have qrv : inB rev 0 1073741824 = false := hH4
        have hrv := inB_f qrv
        refine wM_pur (v := .bool true) rfl rfl ?_
        refine wM_end ?_
        refine condT ?_
        refine wM_seq ?_
        refine wM_mov (v := .slice none 0 0) rfl ?_
        refine wM_mov (v := iv 0) rfl ?_
        refine wM_mov (v := iv 2) rfl ?_
        refine wM_end ?_
        exact And.intro trivial (Exists.intro _ (And.intro rfl ⟨.slice none 0 0, by unfold stK stE; rw [if_neg (by first | (rw [qvT]; simp; done) | (rw [qvD]; simp; done) | (rw [qrv]; simp; done))]; rw [if_pos (by rw [qvT, qvD]; rfl), if_neg (by rw [qrv]; simp)]; rfl, by unfold stL; rw [if_neg (by first | (rw [qvT]; simp; done) | (rw [qvD]; simp; done) | (rw [qrv]; simp; done))]; exact .inl ⟨rfl, rfl, rfl⟩, hk⟩))
      · have qrv : inB rev 0 1073741824 = true := hH4
        have hrv := inB_t qrv
        refine wM_pur (v := .bool false) rfl rfl ?_
        refine wM_end ?_
        refine condF ?_
        first | refine wM_skip ?_ | skip
        refine wM_seq ?_
        refine wM_mov (v := iv rev) rfl ?_
        refine wM_mov (v := iv rev) rfl ?_
        refine wM_end ?_
        refine wM_seq ?_
        refine wM_lda (b := H.next) (o := 0) rfl c1.rd (show row 2 _ _ = some [.slice sa n cap, iv adv] from rfl) ?_
        refine wM_mov (v := .slice la m capl) rfl ?_
        obtain ⟨gb, L, gc, H5, fH5, hgb, hmp, hG, kH5⟩ := gather_ok (kn := kn) (lo := lo) (H := H4) (adv := adv) hs hl hn hu h0 ha1 ha2 hd hm (by omega) hdv (by omega)
        refine wM_callf s (vs := [.agg #[.slice sa n cap, iv adv], .slice la m capl]) rfl (callX_args fH5) ?_
        have mH5 := kH5.1
        have hk := hk.trans kH5
        have hs := kH5.sl0 hs
        have hd := kH5.sl0 hd
        have c1 := kH5.cl c1 (by simp)
        rw [← hm] at hG
        have lgb := hmp.1
        refine wM_mov (v := iv rev) rfl ?_
        refine wM_call (t := .fn (.func 39) #[]) rfl (callM_args s.hN (payments_ok (H := H5) s hu (by omega) ha1 ha2 (by omega) hdv (by omega) hmp hG hrv.1 hrv.2)) ?_
        rintro pv H6 ⟨kH6, hpa⟩
        have mH6 := kH6.1
        have hk := hk.trans kH6
        have hs := kH6.sl0 hs
        have hd := kH6.sl0 hd
        have c1 := kH6.cl c1 (by simp)
        have hmp := kH6.mpa hmp (by simp)
        obtain ⟨pa, pcap, rfl, hpy, _⟩ := hpa.sl
        have fy := hpy.old
        have hgl := grl_len hdv hG
        obtain ⟨N, eN⟩ : ∃ N, N = (grl ds).length := ⟨_, rfl⟩
        rw [← eN] at hpy hgl ⊢
        refine wM_len (m := N) rfl ?_
        refine wM_mov (v := iv 0) rfl ?_
        refine wM_end ?_
        refine loopM_low s (fn := Try.f18) E18_1 N18 L18x1 (fun x : Nat × Value => [(6, x.2), (7, iv (rev - sumK (fun g => shr rev (hwS us ds g ds.length) (tW us ds ds.length)) ((grl ds).take x.1))), (27, .slice pa N pcap), (28, iv (N : Int)), (29, iv (x.1 : Int))])
          (fun k x H' => x.1 + k = N ∧ Keep H H' [] ∧ H6.next ≤ H'.next ∧ Sl H' pa N pcap (pmc us adv ds rev (grl ds)) ∧ Acc lo H6.next 50 H' x.2 x.1 (plc us adv ds rev ((grl ds).take x.1))) N (0, .slice none 0 0) ⟨by simp, hk, Nat.le_refl _, hpy, .inl ⟨rfl, rfl, rfl⟩⟩ ⟨rfl, (by show some (iv _) = some (iv _); simp [sumK]), rfl, rfl, rfl, trivial⟩ ?_
        rintro k ⟨i, wv⟩ L1 ⟨hik, hk, hnx, hpy, hacc⟩
        simp only [] at hik hacc
        have mk := hk.1
        have kacc := Keep.refl L1 []
        have hbk := bkv_in hacc
        refine wM_seq ?_
        refine wM_c_lss (a := (i : Int)) (b := (N : Int)) rfl rfl ?_
        refine wM_end ?_
        refine And.intro (fun q1 => ?_) (fun q1 => ?_)
        · have q1 : (i : Int) < (N : Int) := of_decide_eq_true q1
          have hi : i < N := by omega
          rcases id hpy with ⟨_, h0s, _⟩ | ⟨sb, es, rs, _⟩
          · omega
          have ls := rs.1
          have lsb2 := fy sb es
          have hwb := hwS_in (g := ((grl ds).getD i 0)) hu (by omega) hdv ds.length (Nat.le_refl _)
          have hab := haS_in (g := ((grl ds).getD i 0)) hu (by omega) ha1 ha2 hdv ds.length (Nat.le_refl _)
          have hsb := shr_in hrv.1 hrv.2 hwb.1 (hw_le_tW hu (by omega) hdv ((grl ds).getD i 0) ds.length (Nat.le_refl _))
          have hsum := sumK_in (f := (fun g => shr rev (hwS us ds g ds.length) (tW us ds ds.length))) (M := 1073741824) (l := (grl ds).take i) fun g _ => by have a := hwS_in (g := g) hu (by omega) hdv ds.length (Nat.le_refl _); have b := shr_in hrv.1 hrv.2 a.1 (hw_le_tW hu (by omega) hdv g ds.length (Nat.le_refl _)); exact ⟨b.1, by show shr rev (hwS us ds g ds.length) (tW us ds ds.length) ≤ 1073741824; omega⟩
          rw [List.length_take] at hsum
          first | refine wM_skip ?_ | skip
          refine wM_seq ?_
          refine wM_idx (b := sb) (o := 0) (k := i) (j := (i : Int)) (by rw [← es]; rfl) rfl rfl hi ?_
          refine wM_lda (b := sb) (o := 0 + i * 4) rfl rs (pmc_row (by omega)) ?_
          refine wM_alc ?_
          intro H7 kH7 nH7 c7
          have c7 : Cl H7 L1.next [iv 0, iv 0, iv 0, iv 0] := c7
          have mH7 := kH7.1
          have hk := hk.trans kH7
          have kacc := kacc.trans kH7
          have hpy := kH7.sl0 hpy
          have rs := kH7.rd rs (by simp)
          refine wM_sta (b := L1.next) (o := 0) rfl rfl c7 (by omega) rfl rfl (by simp) ?_
          intro H8 kH8 nH8 sH8
          have mH8 := kH8.1
          have hk := hk.new kH8 (fun b hb => by simp at hb ⊢; omega)
          have kacc := kacc.new kH8 (fun b hb => by simp at hb ⊢; omega)
          have hpy := kH8.sl hpy (fun b e => by have := fy b e; first | (simp; done) | (simp; omega))
          have rs := kH8.rd rs (by first | (simp; done) | (simp; omega))
          have c7 : Cl H8 L1.next [iv ((grl ds).getD i 0), iv (hwS us ds ((grl ds).getD i 0) ds.length), iv (haS us adv ds ((grl ds).getD i 0) ds.length), iv (shr rev (hwS us ds ((grl ds).getD i 0) ds.length) (tW us ds ds.length))] := sH8
          refine wM_end ?_
          refine wM_seq ?_
          refine wM_mov (v := wv) rfl ?_
          refine wM_lda (b := L1.next) (o := 0) rfl c7.rd (show row 4 _ _ = some [iv ((grl ds).getD i 0), iv (hwS us ds ((grl ds).getD i 0) ds.length), iv (haS us adv ds ((grl ds).getD i 0) ds.length), iv (shr rev (hwS us ds ((grl ds).getD i 0) ds.length) (tW us ds ds.length))] from rfl) ?_
          obtain ⟨H9, fH9, kH9⟩ := told_ok (kn := kn) (lo := lo) (H := H8) (g := ((grl ds).getD i 0)) (x := (hwS us ds ((grl ds).getD i 0) ds.length)) (y := (haS us adv ds ((grl ds).getD i 0) ds.length)) (sh := (shr rev (hwS us ds ((grl ds).getD i 0) ds.length) (tW us ds ds.length))) (by omega) (by omega) (by omega) (by omega) (by omega)
          refine wM_callf s rfl (callX_args fH9) ?_
          have mH9 := kH9.1
          have hk := hk.trans kH9
          have kacc := kacc.trans kH9
          have hpy := kH9.sl0 hpy
          have rs := kH9.rd rs (by simp)
          have c7 := kH9.cl c7 (by simp)
          obtain ⟨H10, hH10⟩ : ∃ H10, H9.new (.cells [iv ((grl ds).getD i 0), iv (hwS us ds ((grl ds).getD i 0) ds.length), iv (haS us adv ds ((grl ds).getD i 0) ds.length), iv (shr rev (hwS us ds ((grl ds).getD i 0) ds.length) (tW us ds ds.length)), iv ((shr rev (hwS us ds ((grl ds).getD i 0) ds.length) (tW us ds ds.length)) - (haS us adv ds ((grl ds).getD i 0) ds.length))] 50 false) = H10 := ⟨_, rfl⟩
          refine wM_memh (H' := H10) (k := .heavy) rfl (by kernel_rfl) ((heap_build1 (v := .agg #[iv ((grl ds).getD i 0), iv (hwS us ds ((grl ds).getD i 0) ds.length), iv (haS us adv ds ((grl ds).getD i 0) ds.length), iv (shr rev (hwS us ds ((grl ds).getD i 0) ds.length) (tW us ds ds.length)), iv ((shr rev (hwS us ds ((grl ds).getD i 0) ds.length) (tW us ds ds.length)) - (haS us adv ds ((grl ds).getD i 0) ds.length))]) se37 zo50 rfl rfl rfl (by decide)).trans (by rw [← hH10]; rfl)) (fun b e => by cases e) ?_
          obtain ⟨kH10, nH10, c10⟩ := new_facts hH10; clear hH10
          have c10 : Cl H10 H9.next [iv ((grl ds).getD i 0), iv (hwS us ds ((grl ds).getD i 0) ds.length), iv (haS us adv ds ((grl ds).getD i 0) ds.length), iv (shr rev (hwS us ds ((grl ds).getD i 0) ds.length) (tW us ds ds.length)), iv ((shr rev (hwS us ds ((grl ds).getD i 0) ds.length) (tW us ds ds.length)) - (haS us adv ds ((grl ds).getD i 0) ds.length))] := c10
          have mH10 := kH10.1
          have hk := hk.trans kH10
          have kacc := kacc.trans kH10
          have hpy := kH10.sl0 hpy
          have rs := kH10.rd rs (by simp)
          have c7 := kH10.cl c7 (by simp)
          obtain ⟨H11, kdH11, eH11, dH11, aH11, kbH11⟩ := heap_append_out (P := Try.prog) (lo := lo) (k := i) (t1 := 37) se37 un37 (c10.sl (Nat.le_refl 1)) rfl (by decide) rfl (by rw [plc_len, List.length_take]; omega) (by omega) (hacc.keep kacc) (by omega) (by omega)
          refine wM_memh (k := kdH11) rfl (by cases wv <;> kernel_rfl) (eH11 _ _ _ _ _ _ _ rfl rfl) (reg_ok dH11 _) ?_
          have hk := hk.new kbH11 (fun b hb => .inr (by have := hbk _ hb; omega))
          have hpy := kbH11.sl hpy (fun b e hx => by have := fy b e; have := hbk _ hx; omega)
          have c7 := kbH11.cl c7 (fun hx => by have := hbk _ hx; omega)
          have mH11 := kbH11.1
          refine wM_mov (v := .slice (some ⟨H10.next, 0, none⟩) (i + 1) (i + 1)) rfl ?_
          refine wM_end ?_
          first | refine wM_reg ?_ | refine wM_blk ?_ | refine wM_bseq ?_ | (refine wOps_nil ?_; refine wM_reg ?_)
          refine wM_mov (v := iv (rev - sumK (fun g => shr rev (hwS us ds g ds.length) (tW us ds ds.length)) ((grl ds).take i))) rfl ?_
          refine wM_addo (b := L1.next) (o := 0) rfl ?_
          refine wM_ld (b := L1.next) (o := 3) (v := iv (shr rev (hwS us ds ((grl ds).getD i 0) ds.length) (tW us ds ds.length))) rfl c7.rd rfl ?_
          refine wM_sub (a := (rev - sumK (fun g => shr rev (hwS us ds g ds.length) (tW us ds ds.length)) ((grl ds).take i))) (b := (shr rev (hwS us ds ((grl ds).getD i 0) ds.length) (tW us ds ds.length))) rfl rfl ⟨by omega, by omega⟩ ?_
          refine wM_mov (v := iv ((rev - sumK (fun g => shr rev (hwS us ds g ds.length) (tW us ds ds.length)) ((grl ds).take i)) - (shr rev (hwS us ds ((grl ds).getD i 0) ds.length) (tW us ds ds.length)))) rfl ?_
          refine wM_end ?_
          first | refine wM_reg ?_ | refine wM_blk ?_ | refine wM_bseq ?_ | (refine wOps_nil ?_; refine wM_reg ?_)
          refine wM_add (a := (i : Int)) (b := 1) rfl rfl ⟨by omega, by omega⟩ ?_
          refine wM_mov (v := iv ((i : Int) + 1)) rfl ?_
          refine wM_end ?_
          have hacc2 : Acc lo H6.next 50 H11 (.slice (some ⟨H10.next, 0, none⟩) (i + 1) (i + 1)) (i + 1) (plc us adv ds rev ((grl ds).take (i + 1))) := by rw [take_app (by omega)]; unfold plc; rw [List.flatMap_append]; exact aH11
          exact ⟨k - 1, (i + 1, .slice (some ⟨H10.next, 0, none⟩) (i + 1) (i + 1)), by omega, ⟨by simp only []; omega, hk, by omega, hpy, hacc2⟩, rfl, (by show some (iv _) = some (iv _); rw [take_app (by omega), sumK_app]; simp only [sumK]; congr 2; omega), rfl, rfl, rfl, trivial⟩
        · have q1 : ¬ ((i : Int) < (N : Int)) := of_decide_eq_false q1
          first | (refine wM_exit ?_; show wCM _ _ _ _ _ _ _ _ _) | skip
          refine wM_seq ?_
          refine wM_mov (v := wv) rfl ?_
          refine wM_mov (v := iv (rev - sumK (fun g => shr rev (hwS us ds g ds.length) (tW us ds ds.length)) ((grl ds).take i))) rfl ?_
          refine wM_mov (v := wv) rfl ?_
          refine wM_mov (v := iv (rev - sumK (fun g => shr rev (hwS us ds g ds.length) (tW us ds ds.length)) ((grl ds).take i))) rfl ?_
          refine wM_mov (v := iv 0) rfl ?_
          refine wM_end ?_
          obtain rfl : i = N := by omega
          have htk : (grl ds).take i = grl ds := List.take_of_length_le (by omega)
          rw [htk] at hacc ⊢
          have hcond : (vT us adv && vD ds && inB rev 0 1073741824) = true := by rw [qvT, qvD, qrv]; rfl
          exact And.intro trivial (Exists.intro _ (And.intro rfl ⟨wv, by unfold stK stE; rw [if_pos hcond, if_pos (by rw [qvT, qvD]; rfl), if_pos qrv]; rfl, by unfold stL; rw [if_pos hcond, ← eN]; exact hacc.low (by omega), hk⟩))
end
end
end Go.Ax

/-
  Pool: Break (20) (written by program).
-/
namespace Go.Ax
open Go Go.RowKit Go.Proofs

noncomputable section
/-- Is the share enough with this revenue? -/
def bkP (us : List Pr) (ds : List Dl) (gr wanted : Int) (k : Nat) : Bool := decide (shr k (hwS us ds gr ds.length) (tW us ds ds.length) ≥ wanted)
theorem shr_mono {a b w all : Int} (h : a ≤ b) (hw : 0 ≤ w) (hall : 0 ≤ all) : shr a w all ≤ shr b w all := by
  unfold shr
  split
  · exact Int.le_refl _
  · exact Int.ediv_le_ediv (by omega) (Int.mul_le_mul_of_nonneg_right h hw)
theorem bkP_mono {us : List Pr} {ds : List Dl} (hu : us.any badP = false) (h0 : 0 < us.length) (hd : ds.any badD = false) {gr wanted : Int} {j k : Nat} (h : j ≤ k) (hj : bkP us ds gr wanted j = true) : bkP us ds gr wanted k = true := by
  unfold bkP at hj ⊢
  have a := of_decide_eq_true hj
  have b := shr_mono (a := (j : Int)) (b := (k : Int)) (w := hwS us ds gr ds.length) (all := tW us ds ds.length) (by omega) (hwS_in hu h0 hd _ (Nat.le_refl _)).1 (tW_in hu h0 hd _ (Nat.le_refl _)).1
  exact decide_eq_true (by omega)
def NB : Nat := 1073741825
/-- What Break says. -/
def BkS (us : List Pr) (adv : Int) (ds : List Dl) (gr wanted x e : Int) : Prop :=
  if (vT us adv && vD ds) = true then (if gr ∈ grl ds then (if inB wanted 0 1073741824 = true then ∃ m : Nat, Lst (bkP us ds gr wanted) NB m ∧ (x, e) = pick2 NB m else (x, e) = (0, 2)) else (x, e) = (0, 4)) else (x, e) = (0, 1)
theorem BkS.uniq {us : List Pr} {adv : Int} {ds : List Dl} {gr wanted x e x' e' : Int} (h : BkS us adv ds gr wanted x e) (h' : BkS us adv ds gr wanted x' e') : x = x' ∧ e = e' := by
  unfold BkS at h h'
  split at h
  · rename_i q
    rw [if_pos q] at h'
    simp only [Bool.and_eq_true] at q
    have v := vT_t q.1
    have w := vD_t q.2
    split at h
    · rename_i q1
      rw [if_pos q1] at h'
      split at h
      · rename_i q2
        rw [if_pos q2] at h'
        obtain ⟨m, h1, h2⟩ := h
        obtain ⟨m', h3, h4⟩ := h'
        have := h1.uniq (fun j k a _ b => bkP_mono v.2.2.1 (by omega) w.2 a b) h3
        subst this
        rw [← h4] at h2
        exact Prod.mk.inj h2
      · rename_i q2
        rw [if_neg q2] at h'
        rw [← h'] at h
        exact Prod.mk.inj h
    · rename_i q1
      rw [if_neg q1] at h'
      rw [← h'] at h
      exact Prod.mk.inj h
  · rename_i q
    rw [if_neg q] at h'
    rw [← h'] at h
    exact Prod.mk.inj h
section
variable {kn : Kn} {lo : Nat} {H : Hp}
set_option maxRecDepth 100000 in
theorem brk45_ok {us : List Pr} {adv : Int} {ds : List Dl} (hu : us.any badP = false) (h0 : 0 < us.length) (ha1 : 0 ≤ adv) (ha2 : adv ≤ 1000) (hm2 : ds.length ≤ 128) (hdv : ds.any badD = false) (hlo : lo ≤ H.next) {gb gc : Nat} {L : ML Int} (hmp : Mpa iv H gb L gc) {gr wanted : Int} (hget : getA gr L = some (hvV us adv ds gr)) {b1 b2 b3 b4 k : Nat} (r1 : Rd H b1 [.map (some gb)]) (r2 : Rd H b2 [iv gr]) (r3 : Rd H b3 [iv (tW us ds ds.length)]) (r4 : Rd H b4 [iv wanted]) (hkn : k < NB) :
    ∃ H', FnX Try.prog kn lo 45 [iv (k : Int), .pointer (some ⟨b1, 0, none⟩), .pointer (some ⟨b2, 0, none⟩), .pointer (some ⟨b3, 0, none⟩), .pointer (some ⟨b4, 0, none⟩)] H (.bool (bkP us ds gr wanted k)) H' ∧ Keep H H' [] := by
  have key := fnX_low (kn := kn) (lo := lo) (H := H) (args := [iv (k : Int), .pointer (some ⟨b1, 0, none⟩), .pointer (some ⟨b2, 0, none⟩), .pointer (some ⟨b3, 0, none⟩), .pointer (some ⟨b4, 0, none⟩)]) (Q := fun w H' => w = .bool (bkP us ds gr wanted k) ∧ Keep H H' []) Try.func45 B45 N45 Z45 L45 (by simp) ?_
  · obtain ⟨w, H', h, rfl, q⟩ := key; exact ⟨H', h, q⟩
  have hk := Keep.refl H []
  unfold NB at hkn
  have l1 := r1.1; have l2 := r2.1; have l3 := r3.1; have l4 := r4.1; have lg := hmp.1
  have hwb := hwS_in (g := gr) hu h0 hdv ds.length (Nat.le_refl _)
  have htb := tW_in hu h0 hdv ds.length (Nat.le_refl _)
  refine wN_seq ?_
  refine wN_mov (v := .bool false) rfl ?_
  refine wN_end ?_
  refine wD_seq ?_
  refine wD_mov (v := iv (k : Int)) rfl ?_
  refine wD_ld (b := b1) (o := 0) (v := .map (some gb)) rfl r1 rfl ?_
  refine wD_ld (b := b2) (o := 0) (v := iv gr) rfl r2 rfl ?_
  refine wD_memh (v := hvV us adv ds gr) (H' := H) (k := .read gb) (defd2 rfl rfl) rfl ((heap_look key3 und67 zero70 rfl rfl hmp false (by rw [hget]; rfl)).trans (by rw [hget]; rfl)) (fun q e => by cases e; exact hmp.1) ?_
  refine wD_pur (v := iv (hwS us ds gr ds.length)) rfl (by kernel_rfl) ?_
  refine wD_ld (b := b3) (o := 0) (v := iv (tW us ds ds.length)) rfl r3 rfl ?_
  obtain ⟨H1, fH1, kH1⟩ := share_ok (kn := kn) (lo := H.next) (H := H) (rev := (k : Int)) (x := hwS us ds gr ds.length) (all := tW us ds ds.length) (by omega) (by omega) (by omega) (by omega) (by omega) (by omega)
  refine wD_callh rfl rfl (callX_args fH1) ?_
  have mH1 := kH1.1
  have hk := hk.trans kH1
  have hmp := kH1.mpa hmp (by simp)
  have r1 := kH1.rd r1 (by simp)
  have r2 := kH1.rd r2 (by simp)
  have r3 := kH1.rd r3 (by simp)
  have r4 := kH1.rd r4 (by simp)
  refine wD_ld (b := b4) (o := 0) (v := iv wanted) rfl r4 rfl ?_
  refine wD_c_geq (a := (shr (k : Int) (hwS us ds gr ds.length) (tW us ds ds.length))) (b := wanted) rfl rfl ?_
  refine wD_mov (v := .bool (decide ((shr (k : Int) (hwS us ds gr ds.length) (tW us ds ds.length)) ≥ wanted))) rfl ?_
  refine wD_end (by repeat' first | exact True.intro | exact (fun h => h) | refine And.intro ?_ ?_ | (intro h; have h : (_ : Nat) = _ := h; omega)) ?_
  exact And.intro trivial (Exists.intro _ (And.intro rfl ⟨rfl, hk⟩))
set_option maxRecDepth 100000 in
set_option maxHeartbeats 1000000 in
/-- Break -/
theorem Break_ok (s : Snd Try.prog kn) {us : List Pr} {sa : Option Addr} {n cap : Nat} {adv : Int} (hs : Sl H sa n cap (prc us)) (hl : us.length = n) (hn : n ≤ 1000000) {ds : List Dl} {la : Option Addr} {m capl : Nat} (hd : Sl H la m capl (dlc ds)) (hm : ds.length = m) (hmn : m ≤ 1000000) (hlo : lo ≤ H.next) {gr wanted : Int} :
    FnM Try.prog lo 20 [.agg #[.slice sa n cap, iv adv], .slice la m capl, iv gr, iv wanted] H fun v H' => ∃ x e, v = .tuple #[iv x, iv e] ∧ BkS us adv ds gr wanted x e ∧ Keep H H' [] := by
  refine fnM_low s Try.func20 B20 N20 Z20 L20 (by simp) ?_
  have hk := Keep.refl H []
  have fs := hs.old
  have fd := hd.old
  refine wM_seq ?_
  refine wM_box (v := .agg #[.slice sa n cap, iv adv]) rfl ?_
  intro H1 kH1 nH1 c1
  have c1 : Cl H1 H.next [.slice sa n cap, iv adv] := c1
  have mH1 := kH1.1
  have hk := hk.trans kH1
  have hs := kH1.sl0 hs
  have hd := kH1.sl0 hd
  refine wM_box (v := iv gr) rfl ?_
  intro H2 kH2 nH2 c2
  have c2 : Cl H2 H1.next [iv gr] := c2
  have mH2 := kH2.1
  have hk := hk.trans kH2
  have hs := kH2.sl0 hs
  have hd := kH2.sl0 hd
  have c1 := kH2.cl c1 (by simp)
  refine wM_box (v := iv wanted) rfl ?_
  intro H3 kH3 nH3 c3
  have c3 : Cl H3 H2.next [iv wanted] := c3
  have mH3 := kH3.1
  have hk := hk.trans kH3
  have hs := kH3.sl0 hs
  have hd := kH3.sl0 hd
  have c1 := kH3.cl c1 (by simp)
  have c2 := kH3.cl c2 (by simp)
  refine wM_mov (v := iv 0) rfl ?_
  refine wM_mov (v := iv 0) rfl ?_
  refine wM_end ?_
  refine wM_seq ?_
  refine wM_lda (b := H.next) (o := 0) rfl c1.rd (show row 2 _ _ = some [.slice sa n cap, iv adv] from rfl) ?_
  refine wM_callB s rfl (vT_ok hs hl hn (by omega)) ?_
  intro tH4 H4 hH4 kH4
  have mH4 := kH4.1
  have hk := hk.trans kH4
  have hs := kH4.sl0 hs
  have hd := kH4.sl0 hd
  have c1 := kH4.cl c1 (by simp)
  have c2 := kH4.cl c2 (by simp)
  have c3 := kH4.cl c3 (by simp)
  cases tH4
  · have vhH4 : vT us adv = false := hH4
    have qvT := vhH4
    refine wM_pur (v := .bool true) rfl rfl ?_
    refine wM_mov (v := .bool true) rfl ?_
    refine wM_gs rfl ?_
    refine wM_gs rfl ?_
    refine wM_gs rfl ?_
    refine wM_pur (v := .bool true) rfl rfl ?_
    refine wM_end ?_
    refine condT ?_
    refine wM_seq ?_
    refine wM_mov (v := iv 0) rfl ?_
    refine wM_mov (v := iv 1) rfl ?_
    refine wM_end ?_
    exact And.intro trivial (Exists.intro _ (And.intro rfl ⟨0, 1, rfl, by unfold BkS; rw [if_neg (by first | (rw [qvT]; simp; done) | (rw [qvD]; simp; done))], hk⟩))
  · have vhH4 : vT us adv = true := hH4
    obtain ⟨h0x, h8, hu, ha1, ha2⟩ := vT_t vhH4
    have h0 : 0 < n := by omega
    have qvT := vhH4
    refine wM_pur (v := .bool false) rfl rfl ?_
    refine wM_mov (v := .bool false) rfl ?_
    refine wM_g rfl (wM_mov (v := .slice la m capl) rfl ?_)
    refine wM_g rfl (wM_callB s rfl (vD_ok hd hm hmn (by omega)) ?_)
    intro tH5 H5 hH5 kH5
    have mH5 := kH5.1
    have hk := hk.trans kH5
    have hs := kH5.sl0 hs
    have hd := kH5.sl0 hd
    have c1 := kH5.cl c1 (by simp)
    have c2 := kH5.cl c2 (by simp)
    have c3 := kH5.cl c3 (by simp)
    cases tH5
    · have vhH5 : vD ds = false := hH5
      have qvD := vhH5
      refine wM_g rfl (wM_pur (v := .bool true) rfl rfl ?_)
      refine wM_pur (v := .bool true) rfl rfl ?_
      refine wM_end ?_
      refine condT ?_
      refine wM_seq ?_
      refine wM_mov (v := iv 0) rfl ?_
      refine wM_mov (v := iv 1) rfl ?_
      refine wM_end ?_
      exact And.intro trivial (Exists.intro _ (And.intro rfl ⟨0, 1, rfl, by unfold BkS; rw [if_neg (by first | (rw [qvT]; simp; done) | (rw [qvD]; simp; done))], hk⟩))
    · have vhH5 : vD ds = true := hH5
      obtain ⟨hm8, hdv⟩ := vD_t vhH5
      have qvD := vhH5
      refine wM_g rfl (wM_pur (v := .bool false) rfl rfl ?_)
      refine wM_pur (v := .bool false) rfl rfl ?_
      refine wM_end ?_
      refine condF ?_
      first | refine wM_skip ?_ | skip
      refine wM_seq ?_
      refine wM_lda (b := H.next) (o := 0) rfl c1.rd (show row 2 _ _ = some [.slice sa n cap, iv adv] from rfl) ?_
      refine wM_mov (v := .slice la m capl) rfl ?_
      obtain ⟨gb, L, gc, H6, fH6, hgb, hmp, hG, kH6⟩ := gather_ok (kn := kn) (lo := lo) (H := H5) (adv := adv) hs hl hn hu h0 ha1 ha2 hd hm (by omega) hdv (by omega)
      refine wM_callf s (vs := [.agg #[.slice sa n cap, iv adv], .slice la m capl]) rfl (callX_args fH6) ?_
      have mH6 := kH6.1
      have hk := hk.trans kH6
      have hs := kH6.sl0 hs
      have hd := kH6.sl0 hd
      have c1 := kH6.cl c1 (by simp)
      have c2 := kH6.cl c2 (by simp)
      have c3 := kH6.cl c3 (by simp)
      rw [← hm] at hG
      have lgb := hmp.1
      have hGk : ∀ g, g ∈ L.map (·.1) ↔ g ∈ grl ds := fun g => by rw [hG.key, grl_mem hdv]
      refine wM_alc ?_
      intro H7 kH7 nH7 c7
      have c7 : Cl H7 H6.next [(.map none)] := c7
      have mH7 := kH7.1
      have hk := hk.trans kH7
      have hs := kH7.sl0 hs
      have hd := kH7.sl0 hd
      have c1 := kH7.cl c1 (by simp)
      have c2 := kH7.cl c2 (by simp)
      have c3 := kH7.cl c3 (by simp)
      have hmp := kH7.mpa hmp (by simp)
      refine wM_st (b := H6.next) (o := 0) rfl rfl c7 (by omega) rfl rfl (by simp) ?_
      intro H8 kH8 nH8 sH8
      have mH8 := kH8.1
      have hk := hk.new kH8 (fun b hb => by simp at hb ⊢; omega)
      have hs := kH8.sl hs (fun b e => by have := fs b e; first | (simp; done) | (simp; omega))
      have hd := kH8.sl hd (fun b e => by have := fd b e; first | (simp; done) | (simp; omega))
      have c1 := kH8.cl c1 (by first | (simp; done) | (simp; omega))
      have c2 := kH8.cl c2 (by first | (simp; done) | (simp; omega))
      have c3 := kH8.cl c3 (by first | (simp; done) | (simp; omega))
      have hmp := kH8.mpa hmp (by simp; omega)
      have c7 : Cl H8 H6.next [.map (some gb)] := sH8
      refine wM_end ?_
      refine wM_seq ?_
      refine wM_ld (b := H6.next) (o := 0) (v := .map (some gb)) rfl c7.rd rfl ?_
      refine wM_ld (b := H1.next) (o := 0) (v := iv gr) rfl c2.rd rfl ?_
      by_cases hgr : gr ∈ grl ds
      · have hget := hG.get ((hGk gr).2 hgr)
        refine wM_memh (v := .tuple #[hvV us adv ds gr, .bool true]) (H' := H8) (k := .read gb) (defd2 rfl rfl) rfl ((heap_look key3 und67 zero70 rfl rfl hmp true (by rw [hget]; rfl)).trans (by rw [hget]; rfl)) (fun q e => by cases e; exact hmp.1) ?_
        refine wM_mov (v := .tuple #[hvV us adv ds gr, .bool true]) rfl ?_
        refine wM_pur (v := hvV us adv ds gr) rfl (by kernel_rfl) ?_
        refine wM_pur (v := .bool true) rfl (by kernel_rfl) ?_
        refine wM_alc ?_
        intro H9 kH9 nH9 c9
        have c9 : Cl H9 H8.next [iv 0, iv 0, iv 0] := c9
        have mH9 := kH9.1
        have hk := hk.trans kH9
        have hs := kH9.sl0 hs
        have hd := kH9.sl0 hd
        have c1 := kH9.cl c1 (by simp)
        have c2 := kH9.cl c2 (by simp)
        have c3 := kH9.cl c3 (by simp)
        have hmp := kH9.mpa hmp (by simp)
        have c7 := kH9.cl c7 (by simp)
        refine wM_sta (b := H8.next) (o := 0) rfl rfl c9 (by omega) rfl rfl (by simp) ?_
        intro H10 kH10 nH10 sH10
        have mH10 := kH10.1
        have hk := hk.new kH10 (fun b hb => by simp at hb ⊢; omega)
        have hs := kH10.sl hs (fun b e => by have := fs b e; first | (simp; done) | (simp; omega))
        have hd := kH10.sl hd (fun b e => by have := fd b e; first | (simp; done) | (simp; omega))
        have c1 := kH10.cl c1 (by first | (simp; done) | (simp; omega))
        have c2 := kH10.cl c2 (by first | (simp; done) | (simp; omega))
        have c3 := kH10.cl c3 (by first | (simp; done) | (simp; omega))
        have hmp := kH10.mpa hmp (by simp; omega)
        have c7 := kH10.cl c7 (by first | (simp; done) | (simp; omega))
        have c9 : Cl H10 H8.next [iv gr, iv (hwS us ds gr ds.length), iv (haS us adv ds gr ds.length)] := sH10
        refine wM_mov (v := .bool true) rfl ?_
        refine wM_end ?_
        refine wM_seq ?_
        refine wM_mov (v := .bool true) rfl ?_
        refine wM_pur (v := .bool false) rfl rfl ?_
        refine wM_end ?_
        refine condF ?_
        first | refine wM_skip ?_ | skip
        refine wM_seq ?_
        refine wM_ld (b := H2.next) (o := 0) (v := iv wanted) rfl c3.rd rfl ?_
        refine wM_callB s rfl (in32_ok) ?_
        intro tH11 H11 hH11 kH11
        have mH11 := kH11.1
        have hk := hk.trans kH11
        have hs := kH11.sl0 hs
        have hd := kH11.sl0 hd
        have c1 := kH11.cl c1 (by simp)
        have c2 := kH11.cl c2 (by simp)
        have c3 := kH11.cl c3 (by simp)
        have hmp := kH11.mpa hmp (by simp)
        have c7 := kH11.cl c7 (by simp)
        have c9 := kH11.cl c9 (by simp)
        cases tH11
        · have qwn : inB wanted 0 1073741824 = false := hH11
          have hwn := inB_f qwn
          refine wM_pur (v := .bool true) rfl rfl ?_
          refine wM_end ?_
          refine condT ?_
          refine wM_seq ?_
          refine wM_mov (v := iv 0) rfl ?_
          refine wM_mov (v := iv 2) rfl ?_
          refine wM_end ?_
          exact And.intro trivial (Exists.intro _ (And.intro rfl ⟨0, 2, rfl, by unfold BkS; rw [if_pos (by rw [qvT, qvD]; rfl), if_pos hgr, if_neg (by rw [qwn]; simp)], hk⟩))
        · have qwn : inB wanted 0 1073741824 = true := hH11
          have hwn := inB_t qwn
          refine wM_pur (v := .bool false) rfl rfl ?_
          refine wM_end ?_
          refine condF ?_
          first | refine wM_skip ?_ | skip
          refine wM_seq ?_
          refine wM_ld (b := H6.next) (o := 0) (v := .map (some gb)) rfl c7.rd rfl ?_
          refine wM_call (t := .fn (.func 44) #[]) rfl (callM_args s.hN (total_ok (H := H11) s hu (by omega) ha1 ha2 (by omega) hdv (by omega) hmp hG)) ?_
          rintro _ H12 ⟨rfl, kH12⟩
          have mH12 := kH12.1
          have hk := hk.trans kH12
          have hs := kH12.sl0 hs
          have hd := kH12.sl0 hd
          have c1 := kH12.cl c1 (by simp)
          have c2 := kH12.cl c2 (by simp)
          have c3 := kH12.cl c3 (by simp)
          have hmp := kH12.mpa hmp (by simp)
          have c7 := kH12.cl c7 (by simp)
          have c9 := kH12.cl c9 (by simp)
          refine wM_alc ?_
          intro H13 kH13 nH13 c13
          have c13 : Cl H13 H12.next [iv 0] := c13
          have mH13 := kH13.1
          have hk := hk.trans kH13
          have hs := kH13.sl0 hs
          have hd := kH13.sl0 hd
          have c1 := kH13.cl c1 (by simp)
          have c2 := kH13.cl c2 (by simp)
          have c3 := kH13.cl c3 (by simp)
          have hmp := kH13.mpa hmp (by simp)
          have c7 := kH13.cl c7 (by simp)
          have c9 := kH13.cl c9 (by simp)
          refine wM_st (b := H12.next) (o := 0) rfl rfl c13 (by omega) rfl rfl (by simp) ?_
          intro H14 kH14 nH14 sH14
          have mH14 := kH14.1
          have hk := hk.new kH14 (fun b hb => by simp at hb ⊢; omega)
          have hs := kH14.sl hs (fun b e => by have := fs b e; first | (simp; done) | (simp; omega))
          have hd := kH14.sl hd (fun b e => by have := fd b e; first | (simp; done) | (simp; omega))
          have c1 := kH14.cl c1 (by first | (simp; done) | (simp; omega))
          have c2 := kH14.cl c2 (by first | (simp; done) | (simp; omega))
          have c3 := kH14.cl c3 (by first | (simp; done) | (simp; omega))
          have hmp := kH14.mpa hmp (by simp; omega)
          have c7 := kH14.cl c7 (by first | (simp; done) | (simp; omega))
          have c9 := kH14.cl c9 (by first | (simp; done) | (simp; omega))
          have c13 : Cl H14 H12.next [iv (tW us ds ds.length)] := sH14
          refine wM_end ?_
          refine wM_seq ?_
          refine wM_pur (v := .func (.func 45) #[] #[pt H6.next, pt H1.next, pt H12.next, pt H2.next]) rfl (by kernel_rfl) ?_
          obtain ⟨m, H15, fH15, hmm, kH15⟩ := enough_ok (kn := kn) (lo := lo) (H := H14) (N := 1073741824) (F := 45) (caps := #[.pointer (some ⟨H6.next, 0, none⟩), .pointer (some ⟨H1.next, 0, none⟩), .pointer (some ⟨H12.next, 0, none⟩), .pointer (some ⟨H2.next, 0, none⟩)]) (bkP us ds gr wanted) (by omega) (fun kk HH kH hkk => by
            obtain ⟨H9, f9, k9⟩ := brk45_ok (kn := kn) (lo := lo) (H := HH) (adv := adv) hu (by omega) ha1 ha2 (by omega) hdv (by have := kH.1; omega) (kH.mpa hmp (by simp)) hget (wanted := wanted) (k := kk) (kH.rd c7.rd (by simp)) (kH.rd c2.rd (by simp)) (kH.rd c13.rd (by simp)) (kH.rd c3.rd (by simp)) hkk
            exact ⟨H9, callX_func rfl (by simpa using f9), k9⟩)
          refine wM_callf s (vs := [iv 1073741824, .func (.func 45) #[] #[pt H6.next, pt H1.next, pt H12.next, pt H2.next]]) rfl (callX_args fH15) ?_
          have mH15 := kH15.1
          have hk := hk.trans kH15
          have hs := kH15.sl0 hs
          have hd := kH15.sl0 hd
          have c1 := kH15.cl c1 (by simp)
          have c2 := kH15.cl c2 (by simp)
          have c3 := kH15.cl c3 (by simp)
          have hmp := kH15.mpa hmp (by simp)
          have c7 := kH15.cl c7 (by simp)
          have c9 := kH15.cl c9 (by simp)
          have c13 := kH15.cl c13 (by simp)
          refine wM_pur (v := iv ((pick2 NB m).1)) rfl (by kernel_rfl) ?_
          refine wM_pur (v := iv ((pick2 NB m).2)) rfl (by kernel_rfl) ?_
          refine wM_mov (v := iv ((pick2 NB m).1)) rfl ?_
          refine wM_mov (v := iv ((pick2 NB m).2)) rfl ?_
          refine wM_end ?_
          exact And.intro trivial (Exists.intro _ (And.intro rfl ⟨(pick2 NB m).1, (pick2 NB m).2, rfl, by unfold BkS; rw [if_pos (by rw [qvT, qvD]; rfl), if_pos hgr, if_pos qwn]; exact ⟨m, hmm, rfl⟩, hk⟩))
      · have hget : getA gr L = none := by
          cases hq : getA gr L with
          | none => rfl
          | some v => exact absurd ((hGk gr).1 (get_key.1 (by rw [hq]; rfl))) hgr
        refine wM_memh (v := .tuple #[.agg #[iv 0, iv 0, iv 0], .bool false]) (H' := H8) (k := .read gb) (defd2 rfl rfl) rfl ((heap_look key3 und67 zero70 rfl rfl hmp true (by rw [hget]; rfl)).trans (by rw [hget]; rfl)) (fun q e => by cases e; exact hmp.1) ?_
        refine wM_mov (v := .tuple #[.agg #[iv 0, iv 0, iv 0], .bool false]) rfl ?_
        refine wM_pur (v := .agg #[iv 0, iv 0, iv 0]) rfl (by kernel_rfl) ?_
        refine wM_pur (v := .bool false) rfl (by kernel_rfl) ?_
        refine wM_alc ?_
        intro H16 kH16 nH16 c16
        have c16 : Cl H16 H8.next [iv 0, iv 0, iv 0] := c16
        have mH16 := kH16.1
        have hk := hk.trans kH16
        have hs := kH16.sl0 hs
        have hd := kH16.sl0 hd
        have c1 := kH16.cl c1 (by simp)
        have c2 := kH16.cl c2 (by simp)
        have c3 := kH16.cl c3 (by simp)
        have hmp := kH16.mpa hmp (by simp)
        have c7 := kH16.cl c7 (by simp)
        refine wM_sta (b := H8.next) (o := 0) rfl rfl c16 (by omega) rfl rfl (by simp) ?_
        intro H17 kH17 nH17 sH17
        have mH17 := kH17.1
        have hk := hk.new kH17 (fun b hb => by simp at hb ⊢; omega)
        have hs := kH17.sl hs (fun b e => by have := fs b e; first | (simp; done) | (simp; omega))
        have hd := kH17.sl hd (fun b e => by have := fd b e; first | (simp; done) | (simp; omega))
        have c1 := kH17.cl c1 (by first | (simp; done) | (simp; omega))
        have c2 := kH17.cl c2 (by first | (simp; done) | (simp; omega))
        have c3 := kH17.cl c3 (by first | (simp; done) | (simp; omega))
        have hmp := kH17.mpa hmp (by simp; omega)
        have c7 := kH17.cl c7 (by first | (simp; done) | (simp; omega))
        have c16 : Cl H17 H8.next [iv 0, iv 0, iv 0] := sH17
        refine wM_mov (v := .bool false) rfl ?_
        refine wM_end ?_
        refine wM_seq ?_
        refine wM_mov (v := .bool false) rfl ?_
        refine wM_pur (v := .bool true) rfl rfl ?_
        refine wM_end ?_
        refine condT ?_
        refine wM_seq ?_
        refine wM_mov (v := iv 0) rfl ?_
        refine wM_mov (v := iv 4) rfl ?_
        refine wM_end ?_
        exact And.intro trivial (Exists.intro _ (And.intro rfl ⟨0, 4, rfl, by unfold BkS; rw [if_pos (by rw [qvT, qvD]; rfl), if_neg hgr], hk⟩))
end
end
end Go.Ax

/-
  Pool: the document's Advances, Settle, Break (written by program).
-/
namespace Go.Ax
open Go Go.RowKit Go.Proofs

noncomputable section
section
variable {kn : Kn} {lo : Nat} {H : Hp}
end
end
end Go.Ax

/-
  Pool: the document's Settle, Break; lists of payments compared (written by program).
-/
namespace Go.Ax
open Go Go.RowKit Go.Proofs

noncomputable section
theorem eq_struct {P : Program} {d : Nat} {t : TypeId} {xs ys : Array Value} {fs : Array Field} (hu : prun P (underlying t) = some (.struct fs)) (hp : P.stoodInHeld t = false) (g : Field → Bool)
    (hf : ∀ f ∈ fs.toList, f.name ≠ "_" ∧ ∃ u v, prun P (part f.type xs f.offset) = some u ∧ prun P (part f.type ys f.offset) = some v ∧ prun P (Op.equalIn d f.type u v) = some (g f)) :
    prun P (Op.equalIn (d + 1) t (.agg xs) (.agg ys)) = some (fs.toList.all g) := by
  simp only [Op.equalIn, pr_bind, hu, Option.bind_some, show prun P program = some P from rfl, hp, Bool.false_eq_true, if_false]
  rw [← Array.forIn_toList]
  generalize fs.toList = l at hf
  induction l with
  | nil => rfl
  | cons f l ih =>
    obtain ⟨hn, u, v, h1, h2, h3⟩ := hf f (by simp)
    have ih := ih (fun g hg => hf g (by simp [hg]))
    simp only [List.forIn_cons, pr_bind, pr_ite]
    rw [if_pos hn]
    cases hg : g f with
    | true =>
      simp only [h1, h2, h3, hg, Option.bind_some, Bool.not_true, Bool.false_eq_true, if_false, pr_pure, List.all_cons, Bool.true_and]
      exact ih
    | false =>
      simp only [h1, h2, h3, hg, Option.bind_some, Bool.not_false, if_true, pr_pure, List.all_cons, Bool.false_and]
theorem eq_int {d : Nat} {x y : Int} : prun Try.prog (Op.equalIn (d + 1) 3 (iv x) (iv y)) = some (decide (x = y)) := by
  have h : prun Try.prog (Op.equalIn (d + 1) 3 (iv x) (iv y)) = some (x == y) := by kernel_rfl
  rw [h]
  by_cases e : x = y <;> simp [e]
def fldsIn (P : Program) (t : TypeId) : Array Field :=
  match P.underlying t with
  | some (.struct fs) => fs
  | _ => #[]
theorem all_map {β γ : Type} (l : List β) (f : β → γ) (g : γ → Bool) : l.all (fun x => g (f x)) = (l.map f).all g := by
  induction l with
  | nil => rfl
  | cons a l ih => simp [ih]
theorem und50 : Try.prog.underlying 50 = some (.struct (fldsIn Try.prog 50)) := by kernel_rfl
theorem fs50 : (fldsIn Try.prog 50).toList.map (fun f => (f.type, f.offset, f.name == "_")) = [(3, 0, false), (3, 1, false), (3, 2, false), (3, 3, false), (3, 4, false)] := by kernel_rfl
theorem st50 : Program.stoodInHeld Try.prog 50 = false := by kernel_rfl
set_option maxRecDepth 100000 in
theorem eq50 {d : Nat} (a b c e f : Int) : prun Try.prog (Op.equalIn (d + 2) 50 (.agg #[iv a, iv b, iv c, iv e, iv f]) (.agg #[iv a, iv b, iv c, iv e, iv f])) = some true := by
  have h := eq_struct (d := d + 1) (xs := #[iv a, iv b, iv c, iv e, iv f]) (ys := #[iv a, iv b, iv c, iv e, iv f]) (pr_under und50) st50 (fun _ => true) (by
      intro q hq
      have h : (q.type, q.offset, q.name == "_") ∈ [(3, 0, false), (3, 1, false), (3, 2, false), (3, 3, false), (3, 4, false)] := by rw [← fs50]; exact List.mem_map.mpr ⟨q, hq, rfl⟩
      simp only [List.mem_cons, List.not_mem_nil, or_false, Prod.mk.injEq] at h
      have one : ∀ x : Int, prun Try.prog (Op.equalIn (d + 1) 3 (iv x) (iv x)) = some true := fun x => by rw [eq_int]; simp
      rcases h with ⟨h1, h2, h3⟩ | ⟨h1, h2, h3⟩ | ⟨h1, h2, h3⟩ | ⟨h1, h2, h3⟩ | ⟨h1, h2, h3⟩ <;> (refine ⟨by intro e; rw [e] at h3; simp at h3, ?_⟩; rw [h1, h2])
      · exact ⟨iv a, iv a, by kernel_rfl, by kernel_rfl, one a⟩
      · exact ⟨iv b, iv b, by kernel_rfl, by kernel_rfl, one b⟩
      · exact ⟨iv c, iv c, by kernel_rfl, by kernel_rfl, one c⟩
      · exact ⟨iv e, iv e, by kernel_rfl, by kernel_rfl, one e⟩
      · exact ⟨iv f, iv f, by kernel_rfl, by kernel_rfl, one f⟩)
  rw [show d + 2 = d + 1 + 1 from rfl, h]
  simp
set_option maxRecDepth 100000 in
theorem neq50 {n : Nat} {S : Rg} {d : Option Tmp} {x y : Operand} {p : String} {ty : TypeId} {a b c e f : Int} (hx : evS S x = some (.agg #[iv a, iv b, iv c, iv e, iv f])) (hy : evS S y = some (.agg #[iv a, iv b, iv c, iv e, iv f])) : pureOp Try.prog (frS n S) ⟨d, .binOp .neq 50 x y 50, ty, p, #[], none⟩ = some (.bool false) := by
  have key : prun Try.prog (do eqGuard .neq 50 x y (.agg #[iv a, iv b, iv c, iv e, iv f]) (.agg #[iv a, iv b, iv c, iv e, iv f]); binOp .neq 50 (.agg #[iv a, iv b, iv c, iv e, iv f]) (.agg #[iv a, iv b, iv c, iv e, iv f])) = some (.bool false) := by
    rw [pr_bind, show prun Try.prog (eqGuard .neq 50 x y (.agg #[iv a, iv b, iv c, iv e, iv f]) (.agg #[iv a, iv b, iv c, iv e, iv f])) = some () from by kernel_rfl, Option.bind_some]
    show prun Try.prog (do pure (Value.bool (!(← Op.equalIn (9998 + 2) 50 (.agg #[iv a, iv b, iv c, iv e, iv f]) (.agg #[iv a, iv b, iv c, iv e, iv f]))))) = _
    rw [pr_bind, eq50]; rfl
  unfold pureOp
  simp only [ev_frS, hx, hy, show flat (.agg #[iv a, iv b, iv c, iv e, iv f]) = true from rfl, Bool.and_self, cond_true, key]
  rfl
section
variable {kn : Kn} {lo : Nat} {H : Hp}
end
end
end Go.Ax

/-
  Pool: lists of payments compared (22), found (25); many (10); the examples (27, 11) (written by program).
-/
namespace Go.Ax
open Go Go.RowKit Go.Proofs

noncomputable section
def manyB (n m : Nat) : Bool := decide ((n : Int) > 12) || decide ((m : Int) > 132)
def us0 : List Pr := [⟨30000, 500⟩, ⟨90000, 0⟩]
def ds0 : List Dl := [⟨3, 1000000, 50000000⟩, ⟨8, 500000, 75000000⟩, ⟨3, 200000, 4000000⟩]
theorem res_cv {P : Program} {S : Rg} {H : Hp} {a b x n : Nat} {t : TypeId} {cs : List Value} {v : Value} (ha : lk S a = some (.pointer (some ⟨x, 0, none⟩))) (hb : lk S b = some v) (h1 : isAggB P t = some true) (hi : ∃ i, P.info? t = some i ∧ i.size = n) (hl : cs.length = n) (h : Cl H x cs) : resS P S H [.cell a t, .tmp b] = some [.agg cs.toArray, v] := by
  simp only [resS, ha, hb, load_agg h1 hi h.rd hl]
section
variable {kn : Kn} {lo : Nat} {H : Hp}
theorem many_ok {sa la : Option Addr} {n cap m capl : Nat} {adv : Int} : ∃ H', FnX Try.prog kn lo 10 [.agg #[.slice sa n cap, iv adv], .slice la m capl] H (.bool (manyB n m)) H' ∧ Keep H H' [] := by
  have key := fnX_low (kn := kn) (lo := lo) (H := H) (args := [.agg #[.slice sa n cap, iv adv], .slice la m capl]) (Q := fun w H' => w = .bool (manyB n m) ∧ Keep H H' []) Try.func10 B10 N10 Z10 L10 (by simp) ?_
  · obtain ⟨w, H', h, rfl, q⟩ := key; exact ⟨H', h, q⟩
  have hk := Keep.refl H []
  refine wN_seq ?_
  refine wN_box (v := .agg #[.slice sa n cap, iv adv]) rfl ?_
  intro H1 kH1 nH1 c1
  have c1 : Cl H1 H.next [.slice sa n cap, iv adv] := c1
  have mH1 := kH1.1
  have hk := hk.trans kH1
  refine wN_mov (v := .bool false) rfl ?_
  refine wN_end ?_
  refine wN_seq ?_
  refine wN_addo (b := H.next) (o := 0) rfl ?_
  refine wN_ld (b := H.next) (o := 0) (v := .slice sa n cap) rfl c1.rd rfl ?_
  refine wN_len (m := n) rfl ?_
  refine wN_b_gtr (a := (n : Int)) (b := 12) rfl rfl ?_
  intro t1 g1; cases t1
  · have g1 : ¬ ((n : Int) > 12) := of_decide_eq_false g1
    refine wN_mov (v := .bool false) rfl ?_
    refine wN_g rfl (wN_mov (v := .slice la m capl) rfl ?_)
    refine wN_g rfl (wN_len (m := m) rfl ?_)
    refine wN_g rfl (wN_b_gtr (a := (m : Int)) (b := 132) rfl rfl ?_)
    intro t2 g2; cases t2
    · have g2 : ¬ ((m : Int) > 132) := of_decide_eq_false g2
      refine wN_pur (v := .bool false) rfl rfl ?_
      refine wN_mov (v := .bool false) rfl ?_
      refine wN_end ?_
      exact And.intro trivial (Exists.intro _ (And.intro rfl ⟨congrArg Value.bool (show false = manyB n m from by symm; unfold manyB; simp <;> omega), hk⟩))
    · have g2 : (m : Int) > 132 := of_decide_eq_true g2
      refine wN_pur (v := .bool true) rfl rfl ?_
      refine wN_mov (v := .bool true) rfl ?_
      refine wN_end ?_
      exact And.intro trivial (Exists.intro _ (And.intro rfl ⟨congrArg Value.bool (show true = manyB n m from by symm; unfold manyB; simp <;> omega), hk⟩))
  · have g1 : (n : Int) > 12 := of_decide_eq_true g1
    refine wN_mov (v := .bool true) rfl ?_
    refine wN_gs rfl ?_
    refine wN_gs rfl ?_
    refine wN_gs rfl ?_
    refine wN_pur (v := .bool true) rfl rfl ?_
    refine wN_mov (v := .bool true) rfl ?_
    refine wN_end ?_
    exact And.intro trivial (Exists.intro _ (And.intro rfl ⟨congrArg Value.bool (show true = manyB n m from by symm; unfold manyB; simp <;> omega), hk⟩))
set_option maxRecDepth 100000 in
theorem sample_ok (hlo : lo ≤ H.next) : ∃ sa cap la capl H', FnX Try.prog kn lo 27 [] H (.tuple #[.agg #[.slice sa 2 cap, iv 400], .slice la 3 capl]) H' ∧ Sl H' sa 2 cap (prc us0) ∧ Sl H' la 3 capl (dlc ds0) ∧ Keep H H' [] := by
  have key := fnX_low (kn := kn) (lo := lo) (H := H) (args := []) (Q := fun w H' => ∃ sa cap la capl, w = .tuple #[.agg #[.slice sa 2 cap, iv 400], .slice la 3 capl] ∧ Sl H' sa 2 cap (prc us0) ∧ Sl H' la 3 capl (dlc ds0) ∧ Keep H H' []) Try.func27 B27 N27 Z27 L27 (by simp) ?_
  · obtain ⟨w, H', h, sa, cap, la, capl, rfl, r⟩ := key; exact ⟨sa, cap, la, capl, H', h, r⟩
  have hk := Keep.refl H []
  refine wN_seq ?_
  refine wN_alc ?_
  intro H1 kH1 nH1 c1
  have c1 : Cl H1 H.next [.slice none 0 0, iv 0] := c1
  have mH1 := kH1.1
  have hk := hk.trans kH1
  refine wN_mov (v := .slice none 0 0) rfl ?_
  refine wN_end ?_
  refine wN_seq ?_
  refine wN_pur (v := .agg #[iv 30000, iv 500]) rfl (by kernel_rfl) ?_
  refine wN_pur (v := .agg #[iv 90000, iv 0]) rfl (by kernel_rfl) ?_
  obtain ⟨H2, hH2⟩ : ∃ H2, H1.new (.cells [iv 30000, iv 500, iv 90000, iv 0] 47 false) = H2 := ⟨_, rfl⟩
  refine wN_memh (v := .slice (some ⟨H1.next, 0, none⟩) 2 2) (H' := H2) (k := .heavy) rfl (by kernel_rfl) (Eq.trans (by kernel_rfl : _ = some (Rs.val (.slice (some ⟨H1.next, 0, none⟩) 2 2) (H1.new (.cells [iv 30000, iv 500, iv 90000, iv 0] 47 false)), Kd.heavy)) (by rw [hH2])) (fun b e => by cases e) ?_
  obtain ⟨kH2, nH2, cU⟩ := new_facts hH2; clear hH2
  have mH2 := kH2.1
  have hk := hk.trans kH2
  have c1 := kH2.cl c1 (by simp)
  refine wN_pur (v := .agg #[.slice (some ⟨H1.next, 0, none⟩) 2 2, iv 400]) rfl (by kernel_rfl) ?_
  refine wN_alc ?_
  intro H3 kH3 nH3 c3
  have c3 : Cl H3 H2.next [.slice none 0 0, iv 0] := c3
  have mH3 := kH3.1
  have hk := hk.trans kH3
  have c1 := kH3.cl c1 (by simp)
  have cU := kH3.cl cU (by simp)
  refine wN_sta (b := H2.next) (o := 0) rfl rfl c3 (by omega) rfl rfl (by simp) ?_
  intro H4 kH4 nH4 sH4
  have mH4 := kH4.1
  have hk := hk.new kH4 (fun b hb => by simp at hb ⊢; omega)
  have c1 := kH4.cl c1 (by first | (simp; done) | (simp; omega))
  have cU := kH4.cl cU (by first | (simp; done) | (simp; omega))
  have c3 : Cl H4 H2.next [.slice (some ⟨H1.next, 0, none⟩) 2 2, iv 400] := sH4
  refine wN_end ?_
  refine wN_seq ?_
  refine wN_lda (b := H2.next) (o := 0) rfl c3.rd (show row 2 _ _ = some [.slice (some ⟨H1.next, 0, none⟩) 2 2, iv 400] from rfl) ?_
  refine wN_pur (v := .agg #[iv 3, iv 1000000, iv 50000000]) rfl (by kernel_rfl) ?_
  refine wN_pur (v := .agg #[iv 8, iv 500000, iv 75000000]) rfl (by kernel_rfl) ?_
  refine wN_pur (v := .agg #[iv 3, iv 200000, iv 4000000]) rfl (by kernel_rfl) ?_
  obtain ⟨H5, hH5⟩ : ∃ H5, H4.new (.cells [iv 3, iv 1000000, iv 50000000, iv 8, iv 500000, iv 75000000, iv 3, iv 200000, iv 4000000] 26 false) = H5 := ⟨_, rfl⟩
  refine wN_memh (v := .slice (some ⟨H4.next, 0, none⟩) 3 3) (H' := H5) (k := .heavy) rfl (by kernel_rfl) (Eq.trans (by kernel_rfl : _ = some (Rs.val (.slice (some ⟨H4.next, 0, none⟩) 3 3) (H4.new (.cells [iv 3, iv 1000000, iv 50000000, iv 8, iv 500000, iv 75000000, iv 3, iv 200000, iv 4000000] 26 false)), Kd.heavy)) (by rw [hH5])) (fun b e => by cases e) ?_
  obtain ⟨kH5, nH5, cD⟩ := new_facts hH5; clear hH5
  have mH5 := kH5.1
  have hk := hk.trans kH5
  have c1 := kH5.cl c1 (by simp)
  have cU := kH5.cl cU (by simp)
  have c3 := kH5.cl c3 (by simp)
  refine wN_sta (b := H.next) (o := 0) rfl rfl c1 (by omega) rfl rfl (by simp) ?_
  intro H6 kH6 nH6 sH6
  have mH6 := kH6.1
  have hk := hk.new kH6 (fun b hb => by simp at hb ⊢; omega)
  have cU := kH6.cl cU (by first | (simp; done) | (simp; omega))
  have c3 := kH6.cl c3 (by first | (simp; done) | (simp; omega))
  have cD := kH6.cl cD (by first | (simp; done) | (simp; omega))
  have c1 : Cl H6 H.next [.slice (some ⟨H1.next, 0, none⟩) 2 2, iv 400] := sH6
  refine wN_mov (v := .slice (some ⟨H4.next, 0, none⟩) 3 3) rfl ?_
  refine wN_end ?_
  exact And.intro trivial (Exists.intro _ (And.intro (res_cv rfl rfl a24 i24s rfl c1) ⟨_, 2, _, 3, rfl, .inr ⟨_, rfl, cU.rd, Nat.le_refl _⟩, .inr ⟨_, rfl, cD.rd, Nat.le_refl _⟩, hk⟩))
end
end
end Go.Ax

/-
  Pool: the examples of the document hold (11) (written by program).
-/
namespace Go.Ax
open Go Go.RowKit Go.Proofs

noncomputable section
theorem aw1 : wtV us0 400 (ds0.getD 1 Dl.z) = 45000 ∧ wtI us0 400 (ds0.getD 1 Dl.z) = 1 ∧ wtE us0 400 (ds0.getD 1 Dl.z) = 0 := ⟨by kernel_rfl, by kernel_rfl, by kernel_rfl⟩
theorem aw2 : avV us0 400 ds0 = 43200 ∧ avE us0 400 ds0 = 0 := ⟨by kernel_rfl, by kernel_rfl⟩
theorem aw3 : stK us0 400 ds0 100000 = 1 ∧ stE us0 400 ds0 100000 = 0 ∧ stL us0 400 ds0 100000 = [3, 8] := ⟨by kernel_rfl, by kernel_rfl, by kernel_rfl⟩
theorem aw3r : row 5 (plc us0 400 ds0 100000 [3, 8]) (0 + 0 * 5) = some [iv 3, iv 63000, iv 25200, iv 58333, iv 33133] := by kernel_rfl
theorem ds0_ok : ds0.any badD = false := by kernel_rfl
theorem aw4 : BkS us0 400 ds0 8 50000 120000 0 := by
  unfold BkS
  rw [if_pos (by kernel_rfl), if_pos (show (8 : Int) ∈ grl ds0 from (grl_mem ds0_ok).2 ⟨1, by decide, rfl⟩), if_pos (by kernel_rfl)]
  exact ⟨120000, ⟨by unfold NB; omega, .inr (by kernel_rfl), .inr (by kernel_rfl)⟩, by kernel_rfl⟩
theorem aw5 : RdS us0 400 (ds0.getD 0 Dl.z) 60000 60000000 0 := by
  unfold RdS
  rw [if_pos (by kernel_rfl), if_pos (by kernel_rfl)]
  have e : ((ds0.getD 0 Dl.z).g * 255 + 1).toNat = 255000001 := by kernel_rfl
  exact ⟨60000000, ⟨by rw [e]; omega, .inr (by kernel_rfl), .inr (by kernel_rfl)⟩, by kernel_rfl⟩
abbrev kn0 : Kn := ⟨fun _ => none, fun _ _ _ _ => none⟩
section
variable {lo : Nat} {H : Hp}
set_option maxRecDepth 100000 in
set_option maxHeartbeats 2000000 in
/-- The examples of the document hold, whatever is drawn. -/
theorem awake_C (s : Snd Try.prog kn0) (hlo : lo ≤ H.next) : FnC Try.prog lo 11 [] H fun v _ => v = .bool true := by
  refine fnC_low s Try.func11 B11 N11 Z11 L11 (by simp) ?_
  have hk := Keep.refl H []
  refine wM_seq ?_
  refine wM_mov (v := .bool false) rfl ?_
  refine wM_end ?_
  refine wM_seq ?_
  obtain ⟨sa, cap, la, capl, H1, fH1, hs, hd, kH1⟩ := sample_ok (kn := kn0) (lo := lo) (H := H) (by omega)
  refine wM_callf s (vs := []) rfl (callX_func rfl (by simpa using fH1)) ?_
  have mH1 := kH1.1
  have hk := hk.trans kH1
  rcases id hd with ⟨_, h03, _⟩ | ⟨tb, et, rt, _⟩
  · omega
  have fs := hs.old; have fd := hd.old; have lt := rt.1
  refine wM_mov (v := .tuple #[.agg #[.slice sa 2 cap, iv 400], .slice la 3 capl]) rfl ?_
  refine wM_pur (v := .agg #[.slice sa 2 cap, iv 400]) rfl (by kernel_rfl) ?_
  refine wM_pur (v := .slice la 3 capl) rfl (by kernel_rfl) ?_
  refine wM_alc ?_
  intro H2 kH2 nH2 c2
  have c2 : Cl H2 H1.next [.slice none 0 0, iv 0] := c2
  have mH2 := kH2.1
  have hk := hk.trans kH2
  have hs := kH2.sl0 hs
  have hd := kH2.sl0 hd
  have rt := kH2.rd rt (by simp)
  refine wM_sta (b := H1.next) (o := 0) rfl rfl c2 (by omega) rfl rfl (by simp) ?_
  intro H3 kH3 nH3 sH3
  have mH3 := kH3.1
  have hk := hk.new kH3 (fun b hb => by simp at hb ⊢; omega)
  have hs := kH3.sl hs (fun b e => by have := fs b e; first | (simp; done) | (simp; omega))
  have hd := kH3.sl hd (fun b e => by have := fd b e; first | (simp; done) | (simp; omega))
  have rt := kH3.rd rt (by first | (simp; done) | (simp; omega))
  have c2 : Cl H3 H1.next [.slice sa 2 cap, iv 400] := sH3
  refine wM_mov (v := .slice la 3 capl) rfl ?_
  refine wM_end ?_
  refine wM_dseq ?_
  refine wD_lda (b := H1.next) (o := 0) rfl c2.rd (show row 2 _ _ = some [.slice sa 2 cap, iv 400] from rfl) ?_
  refine wD_mov (v := .slice la 3 capl) rfl ?_
  refine wD_idx (b := tb) (o := 0) (k := 1) (j := 1) (by rw [← et]; rfl) rfl rfl (by omega) ?_
  refine wD_lda (b := tb) (o := 0 + 1 * 3) rfl rt (dlc_rowF (ds := ds0) (i := 1) (by decide)) ?_
  obtain ⟨H4, fH4, kH4⟩ := Worth_ok (kn := kn0) (lo := lo) (H := H3) (adv := 400) hs rfl (by omega) (by omega) (d := ds0.getD 1 Dl.z)
  rw [aw1.1, aw1.2.1, aw1.2.2] at fH4
  refine wD_callf (vs := [.agg #[.slice sa 2 cap, iv 400], .agg (Dl.f (ds0.getD 1 Dl.z)).toArray]) rfl (callX_args fH4) ?_
  have mH4 := kH4.1
  have hk := hk.trans kH4
  have hs := kH4.sl0 hs
  have hd := kH4.sl0 hd
  have rt := kH4.rd rt (by simp)
  have c2 := kH4.cl c2 (by simp)
  refine wD_mov (v := .tuple #[iv 45000, iv 1, iv 0]) rfl ?_
  refine wD_pur (v := iv 45000) rfl (by kernel_rfl) ?_
  refine wD_pur (v := iv 1) rfl (by kernel_rfl) ?_
  refine wD_pur (v := iv 0) rfl (by kernel_rfl) ?_
  refine wD_mov (v := iv 45000) rfl ?_
  refine wD_mov (v := iv 1) rfl ?_
  refine wD_mov (v := iv 0) rfl ?_
  refine wD_end (by repeat' first | exact True.intro | exact (fun h => h) | refine And.intro ?_ ?_ | (intro h; have h : (_ : Nat) = _ := h; omega)) ?_
  refine wM_seq ?_
  refine wM_lda (b := H1.next) (o := 0) rfl c2.rd (show row 2 _ _ = some [.slice sa 2 cap, iv 400] from rfl) ?_
  refine wM_mov (v := .slice la 3 capl) rfl ?_
  refine wM_call (t := .fn (.func 16) #[]) rfl (callM_args s.hN (Advances_ok (H := H4) s (adv := 400) hs rfl (by omega) hd rfl (by omega) (by omega))) ?_
  rintro _ H5 ⟨rfl, kH5⟩
  rw [aw2.1, aw2.2]
  have mH5 := kH5.1
  have hk := hk.trans kH5
  have hs := kH5.sl0 hs
  have hd := kH5.sl0 hd
  have rt := kH5.rd rt (by simp)
  have c2 := kH5.cl c2 (by simp)
  refine wM_mov (v := .tuple #[iv 43200, iv 0]) rfl ?_
  refine wM_pur (v := iv 43200) rfl (by kernel_rfl) ?_
  refine wM_pur (v := iv 0) rfl (by kernel_rfl) ?_
  refine wM_mov (v := iv 43200) rfl ?_
  refine wM_mov (v := iv 0) rfl ?_
  refine wM_end ?_
  refine wM_seq ?_
  refine wM_lda (b := H1.next) (o := 0) rfl c2.rd (show row 2 _ _ = some [.slice sa 2 cap, iv 400] from rfl) ?_
  refine wM_mov (v := .slice la 3 capl) rfl ?_
  refine wM_call (t := .fn (.func 18) #[]) rfl (callM_args s.hN (Settle_ok (H := H5) s (adv := 400) hs rfl (by omega) hd rfl (by omega) (by omega) (rev := 100000))) ?_
  rintro _ H6 ⟨pv, rfl, hpa, kH6⟩
  rw [aw3.2.2] at hpa
  rw [aw3.1, aw3.2.1]
  have mH6 := kH6.1
  have hk := hk.trans kH6
  have hs := kH6.sl0 hs
  have hd := kH6.sl0 hd
  have rt := kH6.rd rt (by simp)
  have c2 := kH6.cl c2 (by simp)
  obtain ⟨pa, pcap, rfl, hpy, _⟩ := hpa.sl
  rcases id hpy with ⟨_, h02, _⟩ | ⟨pb, ep, rp, _⟩
  · exact absurd h02 (by decide)
  have lp := rp.1
  refine wM_mov (v := .tuple #[.slice pa 2 pcap, iv 1, iv 0]) rfl ?_
  refine wM_pur (v := .slice pa 2 pcap) rfl (by kernel_rfl) ?_
  refine wM_pur (v := iv 1) rfl (by kernel_rfl) ?_
  refine wM_pur (v := iv 0) rfl (by kernel_rfl) ?_
  refine wM_mov (v := .slice pa 2 pcap) rfl ?_
  refine wM_mov (v := iv 1) rfl ?_
  refine wM_mov (v := iv 0) rfl ?_
  refine wM_end ?_
  refine wM_seq ?_
  refine wM_lda (b := H1.next) (o := 0) rfl c2.rd (show row 2 _ _ = some [.slice sa 2 cap, iv 400] from rfl) ?_
  refine wM_mov (v := .slice la 3 capl) rfl ?_
  refine wM_call (t := .fn (.func 20) #[]) rfl (callM_args s.hN (Break_ok (H := H6) s (adv := 400) hs rfl (by omega) hd rfl (by omega) (by omega) (gr := 8) (wanted := 50000))) ?_
  rintro _ H7 ⟨xb, eb, rfl, hb, kH7⟩
  obtain ⟨rfl, rfl⟩ := hb.uniq aw4
  have mH7 := kH7.1
  have hk := hk.trans kH7
  have hs := kH7.sl0 hs
  have hd := kH7.sl0 hd
  have rt := kH7.rd rt (by simp)
  have c2 := kH7.cl c2 (by simp)
  have rp := kH7.rd rp (by simp)
  refine wM_mov (v := .tuple #[iv 120000, iv 0]) rfl ?_
  refine wM_pur (v := iv 120000) rfl (by kernel_rfl) ?_
  refine wM_pur (v := iv 0) rfl (by kernel_rfl) ?_
  refine wM_mov (v := iv 120000) rfl ?_
  refine wM_mov (v := iv 0) rfl ?_
  refine wM_end ?_
  refine wM_dseq ?_
  refine wD_lda (b := H1.next) (o := 0) rfl c2.rd (show row 2 _ _ = some [.slice sa 2 cap, iv 400] from rfl) ?_
  refine wD_mov (v := .slice la 3 capl) rfl ?_
  refine wD_idx (b := tb) (o := 0) (k := 0) (j := 0) (by rw [← et]; rfl) rfl rfl (by omega) ?_
  refine wD_lda (b := tb) (o := 0 + 0 * 3) rfl rt (dlc_rowF (ds := ds0) (i := 0) (by decide)) ?_
  obtain ⟨xr, er, H8, fH8, hr, kH8⟩ := Redder_ok (kn := kn0) (lo := lo) (H := H7) (adv := 400) hs rfl (by omega) (by omega) (d := ds0.getD 0 Dl.z) (wanted := 60000)
  obtain ⟨rfl, rfl⟩ := hr.uniq aw5
  refine wD_callf (vs := [.agg #[.slice sa 2 cap, iv 400], .agg (Dl.f (ds0.getD 0 Dl.z)).toArray, iv 60000]) rfl (callX_args fH8) ?_
  have mH8 := kH8.1
  have hk := hk.trans kH8
  have hs := kH8.sl0 hs
  have hd := kH8.sl0 hd
  have rt := kH8.rd rt (by simp)
  have c2 := kH8.cl c2 (by simp)
  have rp := kH8.rd rp (by simp)
  refine wD_mov (v := .tuple #[iv 60000000, iv 0]) rfl ?_
  refine wD_pur (v := iv 60000000) rfl (by kernel_rfl) ?_
  refine wD_pur (v := iv 0) rfl (by kernel_rfl) ?_
  refine wD_mov (v := iv 60000000) rfl ?_
  refine wD_mov (v := iv 0) rfl ?_
  refine wD_end (by repeat' first | exact True.intro | exact (fun h => h) | refine And.intro ?_ ?_ | (intro h; have h : (_ : Nat) = _ := h; omega)) ?_
  refine wM_seq ?_
  refine wM_mov (v := iv 45000) rfl ?_
  refine wM_b_neq (a := 45000) (b := 45000) rfl rfl ?_
  intro t1 g1; obtain rfl : t1 = false := by rw [← g1]; rfl
  refine wM_mov (v := .bool false) rfl ?_
  refine wM_g rfl (wM_mov (v := iv 1) rfl ?_)
  refine wM_g rfl (wM_b_neq (a := 1) (b := 1) rfl rfl ?_)
  intro t2 g2; obtain rfl : t2 = false := by rw [← g2]; rfl
  refine wM_pur (v := .bool false) rfl rfl ?_
  refine wM_mov (v := .bool false) rfl ?_
  refine wM_g rfl (wM_mov (v := iv 0) rfl ?_)
  refine wM_g rfl (wM_b_neq (a := 0) (b := 0) rfl rfl ?_)
  intro t3 g3; obtain rfl : t3 = false := by rw [← g3]; rfl
  refine wM_pur (v := .bool false) rfl rfl ?_
  refine wM_mov (v := .bool false) rfl ?_
  refine wM_g rfl (wM_mov (v := iv 43200) rfl ?_)
  refine wM_g rfl (wM_b_neq (a := 43200) (b := 43200) rfl rfl ?_)
  intro t4 g4; obtain rfl : t4 = false := by rw [← g4]; rfl
  refine wM_pur (v := .bool false) rfl rfl ?_
  refine wM_mov (v := .bool false) rfl ?_
  refine wM_g rfl (wM_mov (v := iv 0) rfl ?_)
  refine wM_g rfl (wM_b_neq (a := 0) (b := 0) rfl rfl ?_)
  intro t5 g5; obtain rfl : t5 = false := by rw [← g5]; rfl
  refine wM_pur (v := .bool false) rfl rfl ?_
  refine wM_mov (v := .bool false) rfl ?_
  refine wM_g rfl (wM_mov (v := .slice pa 2 pcap) rfl ?_)
  refine wM_g rfl (wM_len (m := 2) rfl ?_)
  refine wM_g rfl (wM_b_neq (a := 2) (b := 2) rfl rfl ?_)
  intro t6 g6; obtain rfl : t6 = false := by rw [← g6]; rfl
  refine wM_pur (v := .bool false) rfl rfl ?_
  refine wM_mov (v := .bool false) rfl ?_
  refine wM_g rfl (wM_mov (v := .slice pa 2 pcap) rfl ?_)
  refine wM_g rfl (wM_idx (b := pb) (o := 0) (k := 0) (j := 0) (by rw [← ep]; rfl) rfl rfl (by omega) ?_)
  refine wM_g rfl (wM_lda (b := pb) (o := 0 + 0 * 5) rfl rp aw3r ?_)
  refine wM_g rfl (wM_pur (v := .agg #[iv 3, iv 63000, iv 25200, iv 58333, iv 33133]) rfl (by kernel_rfl) ?_)
  refine wM_g rfl (wM_pur (v := .bool false) rfl (neq50 (a := 3) (b := 63000) (c := 25200) (e := 58333) (f := 33133) rfl rfl) ?_)
  refine wM_pur (v := .bool false) rfl rfl ?_
  refine wM_mov (v := .bool false) rfl ?_
  refine wM_g rfl (wM_mov (v := iv 1) rfl ?_)
  refine wM_g rfl (wM_b_neq (a := 1) (b := 1) rfl rfl ?_)
  intro t7 g7; obtain rfl : t7 = false := by rw [← g7]; rfl
  refine wM_pur (v := .bool false) rfl rfl ?_
  refine wM_mov (v := .bool false) rfl ?_
  refine wM_g rfl (wM_mov (v := iv 0) rfl ?_)
  refine wM_g rfl (wM_b_neq (a := 0) (b := 0) rfl rfl ?_)
  intro t8 g8; obtain rfl : t8 = false := by rw [← g8]; rfl
  refine wM_pur (v := .bool false) rfl rfl ?_
  refine wM_end ?_
  refine condF ?_
  first | refine wM_skip ?_ | skip
  refine wM_seq ?_
  refine wM_mov (v := iv 120000) rfl ?_
  refine wM_b_eql (a := 120000) (b := 120000) rfl rfl ?_
  intro t9 g9; obtain rfl : t9 = true := by rw [← g9]; rfl
  refine wM_mov (v := .bool true) rfl ?_
  refine wM_g rfl (wM_mov (v := iv 0) rfl ?_)
  refine wM_g rfl (wM_b_eql (a := 0) (b := 0) rfl rfl ?_)
  intro t10 g10; obtain rfl : t10 = true := by rw [← g10]; rfl
  refine wM_pur (v := .bool true) rfl rfl ?_
  refine wM_mov (v := .bool true) rfl ?_
  refine wM_g rfl (wM_mov (v := iv 60000000) rfl ?_)
  refine wM_g rfl (wM_b_eql (a := 60000000) (b := 60000000) rfl rfl ?_)
  intro t11 g11; obtain rfl : t11 = true := by rw [← g11]; rfl
  refine wM_pur (v := .bool true) rfl rfl ?_
  refine wM_mov (v := .bool true) rfl ?_
  refine wM_g rfl (wM_mov (v := iv 0) rfl ?_)
  refine wM_g rfl (wM_b_eql (a := 0) (b := 0) rfl rfl ?_)
  intro t12 g12; obtain rfl : t12 = true := by rw [← g12]; rfl
  refine wM_pur (v := .bool true) rfl rfl ?_
  refine wM_mov (v := .bool true) rfl ?_
  refine wM_end ?_
  exact And.intro trivial (Exists.intro _ (And.intro rfl rfl))
end
end
end Go.Ax

/-
  Proved here: 'awake', the closed part that every law of pool ends in, returns true in every world, whatever is drawn, and leaves what lay below as it was. Conditions: none.
  It has no arguments; it is worked out by the contracts of the functions that it calls (Q16).
-/
namespace Go.Ax
open Go Go.RowKit
theorem known_one {P : Program} {g : FuncId} {t : Bool} (hb : ((P.funcs[g]?).bind (fun fn => fn.body)).isSome = true) (hc : ∀ w, Calls P g #[] w fun e w' => e = .returned (.bool t) ∧ Below w.heap.size w w') :
    Known P ⟨fun f => bif Nat.beq f g then some t else none, fun _ _ _ _ => none⟩ := by
  refine ⟨?_, fun f lo args H v H' _ h => by cases h⟩
  intro f b h
  obtain ⟨hf, h1⟩ := bif_some h
  clear h
  have hf := Nat.eq_of_beq_eq_true hf
  subst hf
  cases h1
  refine ⟨?_, hc⟩
  cases hx : P.funcs[f]? with
  | none => rw [hx] at hb; cases hb
  | some fn =>
    rw [hx] at hb
    cases hy : fn.body with
    | none => rw [Option.bind_some, hy] at hb; cases hb
    | some c => exact ⟨fn, c, rfl, hy⟩
theorem known_nothing {P : Program} : Known P ⟨fun _ => none, fun _ _ _ _ => none⟩ := ⟨KnownB.nothing P, fun f lo args H v H' _ h => by cases h⟩
end Go.Ax
namespace Go.Proofs.Ytabiecloimmjdaa.alive
open Go.RowKit
theorem mixed : Try.prog.follows .mixedOrders = true := by kernel_rfl
theorem plainNames : (Try.prog.funcs.toList.all fun fn => !(fn.name == "runtime.NumGoroutine")) = true := by kernel_rfl
theorem noCount : Go.Ax.NoCount Try.prog := fun f fn h => by
  have h2 := List.all_eq_true.1 plainNames fn (by
    have := Array.mem_of_getElem? h
    simpa using this)
  simpa using h2
theorem call (w : World) : Calls Try.prog 11 #[] w fun e w' => e = .returned (.bool true) ∧ Below w.heap.size w w' :=
  Go.Ax.closed_callC (Go.Ax.awake_C ⟨mixed, noCount, Go.Ax.known_nothing⟩ (Nat.zero_le _)) w
theorem known : Go.Ax.Known Try.prog ⟨fun f => bif Nat.beq f 11 then some true else none, fun _ _ _ _ => none⟩ := Go.Ax.known_one (by kernel_rfl) call
end Go.Proofs.Ytabiecloimmjdaa.alive

/-! Remainders of uint64 and uint32. -/
namespace Go.Ax
open Go Go.RowKit Go.Proofs
set_option maxRecDepth 100000 in
theorem c_i43 {k : Nat} {S : Rg} {d : Option Tmp} {ty : TypeId} {p : String} {x : Operand} {j : Int} (h : 0 ≤ j) (h2 : j ≤ 9223372036854775807) (hx : evS S x = some (iv j)) : pureOp Try.prog (frS k S) ⟨d, .convert 3 43 x, ty, p, #[], none⟩ = some (.int .u64 j) := by
  have e : ∀ z : Int, prun Try.prog (Go.convert 3 43 (.int .i64 z)) = some (.int .u64 (IntKind.u64.wrap z)) := fun z => by kernel_rfl
  unfold pureOp
  simp only [ev_frS, hx, e, wrap_u64 (x := j) ⟨by omega, by omega⟩]
  rfl
set_option maxRecDepth 100000 in
theorem c_43i {k : Nat} {S : Rg} {d : Option Tmp} {ty : TypeId} {p : String} {x : Operand} {j : Int} (h : 0 ≤ j) (h2 : j ≤ 9223372036854775807) (hx : evS S x = some (.int .u64 j)) : pureOp Try.prog (frS k S) ⟨d, .convert 43 3 x, ty, p, #[], none⟩ = some (iv j) := by
  have e : ∀ z : Int, prun Try.prog (Go.convert 43 3 (.int .u64 z)) = some (.int .i64 (IntKind.i64.wrap z)) := fun z => by kernel_rfl
  unfold pureOp
  simp only [ev_frS, hx, e, wrap_i64 (x := j) ⟨by omega, by omega⟩]
  rfl
theorem up_rem {P : Program} {t : TypeId} {x y : Operand} {a b : Int} (ha : 0 ≤ a) (hb : 0 < b) : prun P (do eqGuard .rem t x y (.int .u64 a) (.int .u64 b); binOp .rem t (.int .u64 a) (.int .u64 b)) = some (.int .u64 (a % b)) := by
  show prun P (Op.intDiv .rem .u64 a b) = _
  unfold Op.intDiv
  rw [if_neg (by omega)]
  simp only [Int.tmod_eq_emod_of_nonneg ha]
  rfl
theorem v_rem {n : Nat} {S : Rg} {x y : Operand} {o : Option Tmp} {t t2 ty : TypeId} {p : String} {a b : Int} (ha : 0 ≤ a) (hb : 0 < b) (hx : evS S x = some (.int .u64 a)) (hy : evS S y = some (.int .u64 b)) : pureOp Try.prog (frS n S) ⟨o, .binOp .rem t x y t2, ty, p, #[], none⟩ = some (.int .u64 (a % b)) := by
  unfold pureOp
  simp only [ev_frS, hx, hy, flat, flat1, Bool.and_self, cond_true, up_rem ha hb]
end Go.Ax

/-
  Pool: the law PoolSplit, whatever the input (written by program).
-/
namespace Go.Ax
open Go Go.RowKit Go.Proofs

theorem bad_of {r g c : Int} (h1 : 0 ≤ r) (h2 : r ≤ 1023) (h3 : 0 ≤ g) (h4 : g ≤ 134217728) (h5 : 0 ≤ c) (h6 : c ≤ g * 255) : badD ⟨r, g, c⟩ = false := by
  simp [badD, inB, h1, h2, h3, h4, h5, h6]
theorem wt_in {us : List Pr} {adv r g c : Int} (hv : vT us adv = true) (hb : badD ⟨r, g, c⟩ = false) : wtE us adv ⟨r, g, c⟩ = 0 ∧ 0 ≤ wtV us adv ⟨r, g, c⟩ ∧ wtV us adv ⟨r, g, c⟩ ≤ 35115653 := by
  have v := vT_t hv
  have b := wW_in v.2.2.1 (by omega) (okD_of hb)
  unfold wtV wtE; rw [hv, hb]; exact ⟨rfl, b⟩
theorem wt_cases (us : List Pr) (adv : Int) (d : Dl) : (wtV us adv d = 0 ∧ wtI us adv d = 0 ∧ wtE us adv d = 1) ∨ (vT us adv = true ∧ badD d = false ∧ wtV us adv d = wW us d ∧ wtI us adv d = wI us d ∧ wtE us adv d = 0) := by
  unfold wtV wtI wtE
  by_cases h : (vT us adv && !badD d) = true
  · rw [if_pos h, if_pos h, if_pos h]
    simp only [Bool.and_eq_true, Bool.not_eq_true'] at h
    exact .inr ⟨h.1, h.2, rfl, rfl, rfl⟩
  · rw [if_neg h, if_neg h, if_neg h]; exact .inl ⟨rfl, rfl, rfl⟩
theorem wN_split {us : List Pr} {a b d : Dl} (h0 : 0 < us.length) (hg : d.g = a.g + b.g) (hc : d.c = a.c + b.c) : wN us a + wN us b ≤ wN us d := by
  have hk : lsI us d us.length < us.length := lsI_lt h0
  have h1 : wN us a ≤ num (us.getD (lsI us d us.length) Pr.z) a := lsI_le hk
  have h2 : wN us b ≤ num (us.getD (lsI us d us.length) Pr.z) b := lsI_le hk
  have h3 : num (us.getD (lsI us d us.length) Pr.z) a + num (us.getD (lsI us d us.length) Pr.z) b = wN us d := by
    show _ = num _ d
    unfold num
    rw [hg, hc, Int.add_mul, Int.add_mul]
    omega
  omega
theorem wW_split {us : List Pr} {a b d : Dl} (h0 : 0 < us.length) (hg : d.g = a.g + b.g) (hc : d.c = a.c + b.c) : wW us a + wW us b ≤ wW us d := by
  have := wN_split h0 hg hc
  unfold wW
  omega
theorem wt_split {us : List Pr} {adv r g c r' g' c' : Int} {d : Dl} (hv : vT us adv = true) (h1 : badD ⟨r, g, c⟩ = false) (h2 : badD ⟨r', g', c'⟩ = false) (hg : d.g = g + g') (hc : d.c = c + c') : wtV us adv ⟨r, g, c⟩ + wtV us adv ⟨r', g', c'⟩ ≤ wW us d := by
  have v := vT_t hv
  unfold wtV
  rw [hv, h1, h2]
  exact wW_split (by omega) hg hc
theorem wt_mono {us : List Pr} {adv r g c : Int} {d : Dl} (hv : vT us adv = true) (hd : badD d = false) (h1 : badD ⟨r, g, c⟩ = false) (hg : d.g ≤ g) (hc : d.c ≤ c) : wW us d ≤ wtV us adv ⟨r, g, c⟩ := by
  have v := vT_t hv
  have w := badD_t hd
  unfold wtV
  rw [hv, h1]
  exact wW_mono v.2.2.1 (by omega) w.2.2.1 w.2.2.2.2.1 hg hc
theorem rem_in (a : Int) {b : Int} (h : 0 < b) : 0 ≤ a % b ∧ a % b < b := ⟨Int.emod_nonneg _ (by omega), Int.emod_lt_of_pos _ h⟩
noncomputable section
section
variable {kn : Kn} {lo : Nat} {H : Hp}
set_option maxRecDepth 100000 in
set_option maxHeartbeats 4000000 in
/-- PoolSplit -/
theorem law_split (hkn : kn.b 11 = some true) {us : List Pr} {sa : Option Addr} {n cap : Nat} {adv : Int} (hs : Sl H sa n cap (prc us)) (hl : us.length = n) {d : Dl} {part red more : Int} (hp : 0 ≤ part ∧ part ≤ 18446744073709551615) (hr : 0 ≤ red ∧ red ≤ 18446744073709551615) (hm : 0 ≤ more ∧ more ≤ 18446744073709551615) (hlo : lo ≤ H.next) : ∃ H', FnX Try.prog kn lo 5 [.agg #[.slice sa n cap, iv adv], .agg (Dl.f d).toArray, .int .u64 part, .int .u64 red, .int .u64 more] H (.bool true) H' := by
  have key := fnX_low (kn := kn) (lo := lo) (H := H) (args := [.agg #[.slice sa n cap, iv adv], .agg (Dl.f d).toArray, .int .u64 part, .int .u64 red, .int .u64 more]) (Q := fun w H' => w = .bool true) Try.func5 B5 N5 Z5 L5 (by simp) ?_
  · obtain ⟨w, H', h, rfl⟩ := key; exact ⟨H', h⟩
  have hk := Keep.refl H []
  have fs := hs.old
  refine wN_seq ?_
  refine wN_box (v := .agg #[.slice sa n cap, iv adv]) rfl ?_
  intro H1 kH1 nH1 c1
  have c1 : Cl H1 H.next [.slice sa n cap, iv adv] := c1
  have mH1 := kH1.1
  have hk := hk.trans kH1
  have hs := kH1.sl0 hs
  refine wN_box (v := .agg (Dl.f d).toArray) rfl ?_
  intro H2 kH2 nH2 c2
  have c2 : Cl H2 H1.next [iv d.r, iv d.g, iv d.c] := c2
  have mH2 := kH2.1
  have hk := hk.trans kH2
  have hs := kH2.sl0 hs
  have c1 := kH2.cl c1 (by simp)
  refine wN_mov (v := .bool false) rfl ?_
  refine wN_end ?_
  refine wN_seq ?_
  refine wN_lda (b := H.next) (o := 0) rfl c1.rd (show row 2 _ _ = some [.slice sa n cap, iv adv] from rfl) ?_
  refine wN_callB rfl (many_ok (sa := sa) (n := n) (cap := cap) (adv := adv) (la := none) (m := 0) (capl := 0)) ?_
  intro tH3 H3 hH3 kH3
  have mH3 := kH3.1
  have hk := hk.trans kH3
  have hs := kH3.sl0 hs
  have c1 := kH3.cl c1 (by simp)
  have c2 := kH3.cl c2 (by simp)
  cases tH3
  · have hmany : n ≤ 12 ∧ 0 ≤ 132 := by have q : manyB n 0 = false := hH3; unfold manyB at q; simp at q; omega
    have hn : n ≤ 1000000 := by omega
    refine wN_end ?_
    refine condF ?_
    first | refine wN_skip ?_ | skip
    refine wN_seq ?_
    refine wN_lda (b := H.next) (o := 0) rfl c1.rd (show row 2 _ _ = some [.slice sa n cap, iv adv] from rfl) ?_
    refine wN_lda (b := H1.next) (o := 0) rfl c2.rd (show row 3 _ _ = some [iv d.r, iv d.g, iv d.c] from rfl) ?_
    obtain ⟨H4, fH4, kH4⟩ := Worth_ok (kn := kn) (lo := lo) (H := H3) (adv := adv) hs hl hn (by omega) (d := d)
    rcases wt_cases us adv d with ⟨e1, e2, e3⟩ | ⟨hv, hb, e1, e2, e3⟩
    · rw [e1, e2, e3] at fH4
      refine wN_callf (vs := [.agg #[.slice sa n cap, iv adv], .agg (Dl.f d).toArray]) rfl (callX_args fH4) ?_
      have mH4 := kH4.1
      have hk := hk.trans kH4
      have hs := kH4.sl0 hs
      have c1 := kH4.cl c1 (by simp)
      have c2 := kH4.cl c2 (by simp)
      refine wN_mov (v := .tuple #[iv 0, iv 0, iv 1]) rfl ?_
      refine wN_pur (v := iv 0) rfl (by kernel_rfl) ?_
      refine wN_pur (v := iv 0) rfl (by kernel_rfl) ?_
      refine wN_pur (v := iv 1) rfl (by kernel_rfl) ?_
      refine wN_mov (v := iv 0) rfl ?_
      refine wN_mov (v := iv 0) rfl ?_
      refine wN_mov (v := iv 1) rfl ?_
      refine wN_end ?_
      refine wN_seq ?_
      refine wN_mov (v := iv 1) rfl ?_
      refine wN_c_neq (a := 1) (b := 0) rfl rfl ?_
      refine wN_end ?_
      refine condT ?_
      refine wN_seq ?_
      refine wN_mov (v := iv 0) rfl ?_
      refine wN_b_eql (a := 0) (b := 0) rfl rfl ?_
      intro t1 g1; obtain rfl : t1 = true := by rw [← g1]; rfl
      refine wN_mov (v := .bool true) rfl ?_
      refine wN_g rfl (wN_mov (v := iv 0) rfl ?_)
      refine wN_g rfl (wN_b_eql (a := 0) (b := 0) rfl rfl ?_)
      intro t2 g2; obtain rfl : t2 = true := by rw [← g2]; rfl
      refine wN_pur (v := .bool true) rfl rfl ?_
      refine wN_mov (v := .bool true) rfl ?_
      refine wN_g rfl (wN_mov (v := iv 1) rfl ?_)
      refine wN_g rfl (wN_b_eql (a := 1) (b := 1) rfl rfl ?_)
      intro t3 g3; obtain rfl : t3 = true := by rw [← g3]; rfl
      refine wN_pur (v := .bool true) rfl rfl ?_
      refine wN_mov (v := .bool true) rfl ?_
      refine wN_g rfl (wN_callf (vs := []) rfl (callX_known hkn) ?_)
      refine wN_pur (v := .bool true) rfl rfl ?_
      refine wN_mov (v := .bool true) rfl ?_
      refine wN_end ?_
      exact And.intro trivial (Exists.intro _ (And.intro rfl rfl))
    · rw [e1, e2, e3] at fH4
      refine wN_callf (vs := [.agg #[.slice sa n cap, iv adv], .agg (Dl.f d).toArray]) rfl (callX_args fH4) ?_
      have mH4 := kH4.1
      have hk := hk.trans kH4
      have hs := kH4.sl0 hs
      have c1 := kH4.cl c1 (by simp)
      have c2 := kH4.cl c2 (by simp)
      have hbd := badD_t hb
      have hvt := vT_t hv
      have hwi : wI us d = (lsI us d us.length : Int) := rfl
      have hli : lsI us d us.length < us.length := lsI_lt (by omega)
      have hww := wW_in (us := us) (d := d) hvt.2.2.1 (by omega) (okD_of hb)
      refine wN_mov (v := .tuple #[iv (wW us d), iv (wI us d), iv 0]) rfl ?_
      refine wN_pur (v := iv (wW us d)) rfl (by kernel_rfl) ?_
      refine wN_pur (v := iv (wI us d)) rfl (by kernel_rfl) ?_
      refine wN_pur (v := iv 0) rfl (by kernel_rfl) ?_
      refine wN_mov (v := iv (wW us d)) rfl ?_
      refine wN_mov (v := iv (wI us d)) rfl ?_
      refine wN_mov (v := iv 0) rfl ?_
      refine wN_end ?_
      refine wN_seq ?_
      refine wN_mov (v := iv 0) rfl ?_
      refine wN_c_neq (a := 0) (b := 0) rfl rfl ?_
      refine wN_end ?_
      refine condF ?_
      first | refine wN_skip ?_ | skip
      refine wN_seq ?_
      refine wN_lda (b := H.next) (o := 0) rfl c1.rd (show row 2 _ _ = some [.slice sa n cap, iv adv] from rfl) ?_
      obtain ⟨H5, fH5, kH5⟩ := refT_ok (kn := kn) (lo := lo) (H := H4) (adv := adv) hs hl hn (by omega)
      rw [hv] at fH5
      refine wN_callf (vs := [.agg #[.slice sa n cap, iv adv]]) rfl (callX_args fH5) ?_
      have mH5 := kH5.1
      have hk := hk.trans kH5
      have hs := kH5.sl0 hs
      have c1 := kH5.cl c1 (by simp)
      have c2 := kH5.cl c2 (by simp)
      refine wN_pur (v := .bool false) rfl rfl ?_
      refine wN_mov (v := .bool false) rfl ?_
      refine wN_g rfl (wN_lda (b := H1.next) (o := 0) rfl c2.rd (show row 3 _ _ = some [iv d.r, iv d.g, iv d.c] from rfl) ?_)
      obtain ⟨H6, fH6, kH6⟩ := refD_ok (kn := kn) (lo := lo) (H := H5) (d := d) (by omega)
      rw [hb] at fH6
      refine wN_g rfl (wN_callf (vs := [.agg (Dl.f d).toArray]) rfl (callX_args fH6) ?_)
      have mH6 := kH6.1
      have hk := hk.trans kH6
      have hs := kH6.sl0 hs
      have c1 := kH6.cl c1 (by simp)
      have c2 := kH6.cl c2 (by simp)
      refine wN_g rfl (wN_pur (v := .bool false) rfl rfl ?_)
      refine wN_pur (v := .bool false) rfl rfl ?_
      refine wN_mov (v := .bool false) rfl ?_
      refine wN_g rfl (wN_mov (v := iv (wI us d)) rfl ?_)
      refine wN_g rfl (wN_b_lss (a := (wI us d)) (b := 0) rfl rfl ?_)
      intro t4 g4; cases t4
      · have g4 : ¬ ((wI us d) < 0) := of_decide_eq_false g4
        refine wN_pur (v := .bool false) rfl rfl ?_
        refine wN_mov (v := .bool false) rfl ?_
        refine wN_g rfl (wN_mov (v := iv (wI us d)) rfl ?_)
        refine wN_g rfl (wN_addo (b := H.next) (o := 0) rfl ?_)
        refine wN_g rfl (wN_ld (b := H.next) (o := 0) (v := .slice sa n cap) rfl c1.rd rfl ?_)
        refine wN_g rfl (wN_len (m := n) rfl ?_)
        refine wN_g rfl (wN_b_geq (a := (wI us d)) (b := (n : Int)) rfl rfl ?_)
        intro t5 g5; cases t5
        · have g5 : ¬ ((wI us d) ≥ (n : Int)) := of_decide_eq_false g5
          refine wN_pur (v := .bool false) rfl rfl ?_
          refine wN_end ?_
          refine condF ?_
          first | refine wN_skip ?_ | skip
          refine wN_seq ?_
          refine wN_mov (v := .int .u64 part) rfl ?_
          refine wN_addo (b := H1.next) (o := 0) rfl ?_
          refine wN_ld (b := H1.next) (o := 1) (v := iv d.g) rfl c2.rd rfl ?_
          refine wN_add (a := d.g) (b := 1) rfl rfl ⟨by omega, by omega⟩ ?_
          obtain ⟨g, hg⟩ : ∃ g, part % (d.g + 1) = g := ⟨_, rfl⟩
          have bg := rem_in (part) (b := d.g + 1) (by omega)
          rw [hg] at bg
          refine wN_pur (v := .int .u64 (d.g + 1)) rfl (c_i43 (by omega) (by omega) rfl) ?_
          refine wN_pur (v := .int .u64 g) rfl ((v_rem (a := part) (b := d.g + 1) (by omega) (by omega) rfl rfl).trans (by rw [hg])) ?_
          refine wN_pur (v := iv g) rfl (c_43i (by omega) (by omega) rfl) ?_
          refine wN_mov (v := iv g) rfl ?_
          refine wN_end ?_
          refine wD_seq ?_
          refine wD_addo (b := H1.next) (o := 0) rfl ?_
          refine wD_ld (b := H1.next) (o := 2) (v := iv d.c) rfl c2.rd rfl ?_
          refine wD_addo (b := H1.next) (o := 0) rfl ?_
          refine wD_ld (b := H1.next) (o := 1) (v := iv d.g) rfl c2.rd rfl ?_
          refine wD_mov (v := iv g) rfl ?_
          refine wD_sub (a := d.g) (b := g) rfl rfl ⟨by omega, by omega⟩ ?_
          refine wD_mul (a := d.g - g) (b := 255) rfl rfl ⟨by omega, by omega⟩ ?_
          refine wD_sub (a := d.c) (b := (d.g - g) * 255) rfl rfl ⟨by omega, by omega⟩ ?_
          refine wD_mm (a := 0) (b := d.c - ((d.g - g) * 255)) rfl rfl ?_
          refine wD_addo (b := H1.next) (o := 0) rfl ?_
          refine wD_ld (b := H1.next) (o := 2) (v := iv d.c) rfl c2.rd rfl ?_
          refine wD_mov (v := iv g) rfl ?_
          refine wD_mul (a := g) (b := 255) rfl rfl ⟨by omega, by omega⟩ ?_
          refine wD_mm (a := d.c) (b := g * 255) rfl rfl ?_
          refine wD_mov (v := iv (max 0 (d.c - ((d.g - g) * 255)))) rfl ?_
          refine wD_mov (v := iv (min d.c (g * 255))) rfl ?_
          refine wD_end (by repeat' first | exact True.intro | exact (fun h => h) | refine And.intro ?_ ?_ | (intro h; have h : (_ : Nat) = _ := h; omega)) ?_
          refine wN_seq ?_
          refine wN_mov (v := iv (max 0 (d.c - ((d.g - g) * 255)))) rfl ?_
          refine wN_mov (v := .int .u64 red) rfl ?_
          refine wN_mov (v := iv (min d.c (g * 255))) rfl ?_
          refine wN_mov (v := iv (max 0 (d.c - ((d.g - g) * 255)))) rfl ?_
          refine wN_sub (a := min d.c (g * 255)) (b := max 0 (d.c - ((d.g - g) * 255))) rfl rfl ⟨by omega, by omega⟩ ?_
          refine wN_add (a := (min d.c (g * 255)) - (max 0 (d.c - ((d.g - g) * 255)))) (b := 1) rfl rfl ⟨by omega, by omega⟩ ?_
          obtain ⟨r, hr⟩ : ∃ r, red % (min d.c (g * 255) - max 0 (d.c - (d.g - g) * 255) + 1) = r := ⟨_, rfl⟩
          have br := rem_in (red) (b := min d.c (g * 255) - max 0 (d.c - (d.g - g) * 255) + 1) (by omega)
          rw [hr] at br
          refine wN_pur (v := .int .u64 (min d.c (g * 255) - max 0 (d.c - (d.g - g) * 255) + 1)) rfl (c_i43 (by omega) (by omega) rfl) ?_
          refine wN_pur (v := .int .u64 r) rfl ((v_rem (a := red) (b := min d.c (g * 255) - max 0 (d.c - (d.g - g) * 255) + 1) (by omega) (by omega) rfl rfl).trans (by rw [hr])) ?_
          refine wN_pur (v := iv r) rfl (c_43i (by omega) (by omega) rfl) ?_
          refine wN_add (a := max 0 (d.c - ((d.g - g) * 255))) (b := r) rfl rfl ⟨by omega, by omega⟩ ?_
          refine wN_mov (v := iv ((max 0 (d.c - ((d.g - g) * 255))) + r)) rfl ?_
          refine wN_end ?_
          refine wN_seq ?_
          refine wN_lda (b := H.next) (o := 0) rfl c1.rd (show row 2 _ _ = some [.slice sa n cap, iv adv] from rfl) ?_
          refine wN_addo (b := H1.next) (o := 0) rfl ?_
          refine wN_ld (b := H1.next) (o := 0) (v := iv d.r) rfl c2.rd rfl ?_
          refine wN_mov (v := iv g) rfl ?_
          refine wN_mov (v := iv ((max 0 (d.c - ((d.g - g) * 255))) + r)) rfl ?_
          refine wN_pur (v := .agg #[iv d.r, iv g, iv ((max 0 (d.c - ((d.g - g) * 255))) + r)]) rfl (by kernel_rfl) ?_
          obtain ⟨H7, fH7, kH7⟩ := Worth_ok (kn := kn) (lo := lo) (H := H6) (adv := adv) hs hl hn (by omega) (d := ⟨d.r, g, (max 0 (d.c - ((d.g - g) * 255))) + r⟩)
          refine wN_callf (vs := [.agg #[.slice sa n cap, iv adv], .agg (Dl.f (⟨d.r, g, (max 0 (d.c - ((d.g - g) * 255))) + r⟩)).toArray]) rfl (callX_args fH7) ?_
          have mH7 := kH7.1
          have hk := hk.trans kH7
          have hs := kH7.sl0 hs
          have c1 := kH7.cl c1 (by simp)
          have c2 := kH7.cl c2 (by simp)
          have bda : badD ⟨d.r, g, (max 0 (d.c - ((d.g - g) * 255))) + r⟩ = false := bad_of (by omega) (by omega) (by omega) (by omega) (by omega) (by omega)
          have wta := wt_in hv bda
          refine wN_mov (v := .tuple #[iv (wtV us adv (⟨d.r, g, (max 0 (d.c - ((d.g - g) * 255))) + r⟩)), iv (wtI us adv (⟨d.r, g, (max 0 (d.c - ((d.g - g) * 255))) + r⟩)), iv (wtE us adv (⟨d.r, g, (max 0 (d.c - ((d.g - g) * 255))) + r⟩))]) rfl ?_
          refine wN_pur (v := iv (wtV us adv (⟨d.r, g, (max 0 (d.c - ((d.g - g) * 255))) + r⟩))) rfl (by kernel_rfl) ?_
          refine wN_pur (v := iv (wtI us adv (⟨d.r, g, (max 0 (d.c - ((d.g - g) * 255))) + r⟩))) rfl (by kernel_rfl) ?_
          refine wN_pur (v := iv (wtE us adv (⟨d.r, g, (max 0 (d.c - ((d.g - g) * 255))) + r⟩))) rfl (by kernel_rfl) ?_
          refine wN_mov (v := iv (wtV us adv (⟨d.r, g, (max 0 (d.c - ((d.g - g) * 255))) + r⟩))) rfl ?_
          refine wN_mov (v := iv (wtI us adv (⟨d.r, g, (max 0 (d.c - ((d.g - g) * 255))) + r⟩))) rfl ?_
          refine wN_mov (v := iv (wtE us adv (⟨d.r, g, (max 0 (d.c - ((d.g - g) * 255))) + r⟩))) rfl ?_
          refine wN_end ?_
          refine wN_seq ?_
          refine wN_lda (b := H.next) (o := 0) rfl c1.rd (show row 2 _ _ = some [.slice sa n cap, iv adv] from rfl) ?_
          refine wN_addo (b := H1.next) (o := 0) rfl ?_
          refine wN_ld (b := H1.next) (o := 0) (v := iv d.r) rfl c2.rd rfl ?_
          refine wN_addo (b := H1.next) (o := 0) rfl ?_
          refine wN_ld (b := H1.next) (o := 1) (v := iv d.g) rfl c2.rd rfl ?_
          refine wN_mov (v := iv g) rfl ?_
          refine wN_sub (a := d.g) (b := g) rfl rfl ⟨by omega, by omega⟩ ?_
          refine wN_addo (b := H1.next) (o := 0) rfl ?_
          refine wN_ld (b := H1.next) (o := 2) (v := iv d.c) rfl c2.rd rfl ?_
          refine wN_mov (v := iv ((max 0 (d.c - ((d.g - g) * 255))) + r)) rfl ?_
          refine wN_sub (a := d.c) (b := (max 0 (d.c - ((d.g - g) * 255))) + r) rfl rfl ⟨by omega, by omega⟩ ?_
          refine wN_pur (v := .agg #[iv d.r, iv (d.g - g), iv (d.c - ((max 0 (d.c - ((d.g - g) * 255))) + r))]) rfl (by kernel_rfl) ?_
          obtain ⟨H8, fH8, kH8⟩ := Worth_ok (kn := kn) (lo := lo) (H := H7) (adv := adv) hs hl hn (by omega) (d := ⟨d.r, d.g - g, d.c - ((max 0 (d.c - ((d.g - g) * 255))) + r)⟩)
          refine wN_callf (vs := [.agg #[.slice sa n cap, iv adv], .agg (Dl.f (⟨d.r, d.g - g, d.c - ((max 0 (d.c - ((d.g - g) * 255))) + r)⟩)).toArray]) rfl (callX_args fH8) ?_
          have mH8 := kH8.1
          have hk := hk.trans kH8
          have hs := kH8.sl0 hs
          have c1 := kH8.cl c1 (by simp)
          have c2 := kH8.cl c2 (by simp)
          have bdb : badD ⟨d.r, d.g - g, d.c - ((max 0 (d.c - ((d.g - g) * 255))) + r)⟩ = false := bad_of (by omega) (by omega) (by omega) (by omega) (by omega) (by omega)
          have wtb := wt_in hv bdb
          have hsum := wt_split (d := d) hv bda bdb (by omega) (by omega)
          refine wN_mov (v := .tuple #[iv (wtV us adv (⟨d.r, d.g - g, d.c - ((max 0 (d.c - ((d.g - g) * 255))) + r)⟩)), iv (wtI us adv (⟨d.r, d.g - g, d.c - ((max 0 (d.c - ((d.g - g) * 255))) + r)⟩)), iv (wtE us adv (⟨d.r, d.g - g, d.c - ((max 0 (d.c - ((d.g - g) * 255))) + r)⟩))]) rfl ?_
          refine wN_pur (v := iv (wtV us adv (⟨d.r, d.g - g, d.c - ((max 0 (d.c - ((d.g - g) * 255))) + r)⟩))) rfl (by kernel_rfl) ?_
          refine wN_pur (v := iv (wtI us adv (⟨d.r, d.g - g, d.c - ((max 0 (d.c - ((d.g - g) * 255))) + r)⟩))) rfl (by kernel_rfl) ?_
          refine wN_pur (v := iv (wtE us adv (⟨d.r, d.g - g, d.c - ((max 0 (d.c - ((d.g - g) * 255))) + r)⟩))) rfl (by kernel_rfl) ?_
          refine wN_mov (v := iv (wtV us adv (⟨d.r, d.g - g, d.c - ((max 0 (d.c - ((d.g - g) * 255))) + r)⟩))) rfl ?_
          refine wN_mov (v := iv (wtI us adv (⟨d.r, d.g - g, d.c - ((max 0 (d.c - ((d.g - g) * 255))) + r)⟩))) rfl ?_
          refine wN_mov (v := iv (wtE us adv (⟨d.r, d.g - g, d.c - ((max 0 (d.c - ((d.g - g) * 255))) + r)⟩))) rfl ?_
          refine wN_end ?_
          refine wN_seq ?_
          refine wN_mov (v := iv (wtE us adv (⟨d.r, g, (max 0 (d.c - ((d.g - g) * 255))) + r⟩))) rfl ?_
          refine wN_b_neq (a := (wtE us adv (⟨d.r, g, (max 0 (d.c - ((d.g - g) * 255))) + r⟩))) (b := 0) rfl rfl ?_
          intro t6 g6; cases t6
          · have g6 : ¬ ((wtE us adv (⟨d.r, g, (max 0 (d.c - ((d.g - g) * 255))) + r⟩)) ≠ 0) := by simpa using g6
            refine wN_mov (v := .bool false) rfl ?_
            refine wN_g rfl (wN_mov (v := iv (wtE us adv (⟨d.r, d.g - g, d.c - ((max 0 (d.c - ((d.g - g) * 255))) + r)⟩))) rfl ?_)
            refine wN_g rfl (wN_b_neq (a := (wtE us adv (⟨d.r, d.g - g, d.c - ((max 0 (d.c - ((d.g - g) * 255))) + r)⟩))) (b := 0) rfl rfl ?_)
            intro t7 g7; cases t7
            · have g7 : ¬ ((wtE us adv (⟨d.r, d.g - g, d.c - ((max 0 (d.c - ((d.g - g) * 255))) + r)⟩)) ≠ 0) := by simpa using g7
              refine wN_pur (v := .bool false) rfl rfl ?_
              refine wN_mov (v := .bool false) rfl ?_
              refine wN_g rfl (wN_mov (v := iv (wtV us adv (⟨d.r, g, (max 0 (d.c - ((d.g - g) * 255))) + r⟩))) rfl ?_)
              refine wN_g rfl (wN_b_lss (a := (wtV us adv (⟨d.r, g, (max 0 (d.c - ((d.g - g) * 255))) + r⟩))) (b := 0) rfl rfl ?_)
              intro t8 g8; cases t8
              · have g8 : ¬ ((wtV us adv (⟨d.r, g, (max 0 (d.c - ((d.g - g) * 255))) + r⟩)) < 0) := of_decide_eq_false g8
                refine wN_pur (v := .bool false) rfl rfl ?_
                refine wN_mov (v := .bool false) rfl ?_
                refine wN_g rfl (wN_mov (v := iv (wtV us adv (⟨d.r, d.g - g, d.c - ((max 0 (d.c - ((d.g - g) * 255))) + r)⟩))) rfl ?_)
                refine wN_g rfl (wN_b_lss (a := (wtV us adv (⟨d.r, d.g - g, d.c - ((max 0 (d.c - ((d.g - g) * 255))) + r)⟩))) (b := 0) rfl rfl ?_)
                intro t9 g9; cases t9
                · have g9 : ¬ ((wtV us adv (⟨d.r, d.g - g, d.c - ((max 0 (d.c - ((d.g - g) * 255))) + r)⟩)) < 0) := of_decide_eq_false g9
                  refine wN_pur (v := .bool false) rfl rfl ?_
                  refine wN_mov (v := .bool false) rfl ?_
                  refine wN_g rfl (wN_mov (v := iv (wtV us adv (⟨d.r, g, (max 0 (d.c - ((d.g - g) * 255))) + r⟩))) rfl ?_)
                  refine wN_g rfl (wN_mov (v := iv (wtV us adv (⟨d.r, d.g - g, d.c - ((max 0 (d.c - ((d.g - g) * 255))) + r)⟩))) rfl ?_)
                  refine wN_g rfl (wN_add (a := (wtV us adv (⟨d.r, g, (max 0 (d.c - ((d.g - g) * 255))) + r⟩))) (b := (wtV us adv (⟨d.r, d.g - g, d.c - ((max 0 (d.c - ((d.g - g) * 255))) + r)⟩))) rfl rfl ⟨by omega, by omega⟩ ?_)
                  refine wN_g rfl (wN_mov (v := iv (wW us d)) rfl ?_)
                  refine wN_g rfl (wN_b_gtr (a := (wtV us adv (⟨d.r, g, (max 0 (d.c - ((d.g - g) * 255))) + r⟩)) + (wtV us adv (⟨d.r, d.g - g, d.c - ((max 0 (d.c - ((d.g - g) * 255))) + r)⟩))) (b := (wW us d)) rfl rfl ?_)
                  intro t10 g10; cases t10
                  · have g10 : ¬ (((wtV us adv (⟨d.r, g, (max 0 (d.c - ((d.g - g) * 255))) + r⟩)) + (wtV us adv (⟨d.r, d.g - g, d.c - ((max 0 (d.c - ((d.g - g) * 255))) + r)⟩))) > (wW us d)) := of_decide_eq_false g10
                    refine wN_pur (v := .bool false) rfl rfl ?_
                    refine wN_end ?_
                    refine condF ?_
                    first | refine wN_skip ?_ | skip
                    refine wN_seq ?_
                    refine wN_mov (v := iv 0) rfl ?_
                    refine wN_end ?_
                    refine loop_low (fn := Try.f5) E5_1 N5 L5x1 (fun i : Nat => [(4, .int .u64 more), (5, pt H.next), (6, pt H1.next), (11, iv (wW us d)), (12, iv (wI us d)), (24, iv (i : Int))])
                      (fun k i H' => i + k = n ∧ Keep H H' [] ∧ H2.next ≤ H'.next ∧ Sl H' sa n cap (prc us) ∧ Cl H' H.next [.slice sa n cap, iv adv] ∧ Cl H' H1.next [iv d.r, iv d.g, iv d.c]) n 0 ⟨by omega, hk, by omega, hs, c1, c2⟩ ⟨rfl, rfl, rfl, rfl, rfl, rfl, trivial⟩ ?_
                    rintro k i L1 ⟨hik, hk, hnx, hs, c1, c2⟩
                    have mk := hk.1
                    refine wN_seq ?_
                    refine wN_mov (v := iv (i : Int)) rfl ?_
                    refine wN_addo (b := H.next) (o := 0) rfl ?_
                    refine wN_ld (b := H.next) (o := 0) (v := .slice sa n cap) rfl c1.rd rfl ?_
                    refine wN_len (m := n) rfl ?_
                    refine wN_c_lss (a := (i : Int)) (b := (n : Int)) rfl rfl ?_
                    refine wN_end ?_
                    refine And.intro (fun q11 => ?_) (fun q11 => ?_)
                    · have q11 : (i : Int) < (n : Int) := of_decide_eq_true q11
                      have hi : i < n := by omega
                      have fs := hs.old
                      rcases id hs with ⟨_, h0s, _⟩ | ⟨sb, es, rs, _⟩
                      · omega
                      have ls := rs.1
                      have hnp := num_b (p := (us.getD i Pr.z)) (any_at hvt.2.2.1 (by omega)) (okD_of hb)
                      have hnq := num_b (p := (us.getD (lsI us d us.length) Pr.z)) (any_at hvt.2.2.1 (by omega)) (okD_of hb)
                      have hle : d.g * (us.getD (lsI us d us.length) Pr.z).g + d.c * (us.getD (lsI us d us.length) Pr.z).c ≤ d.g * (us.getD i Pr.z).g + d.c * (us.getD i Pr.z).c := lsI_le (us := us) (d := d) (k := us.length) (j := i) (by omega)
                      have hfi : i < lsI us d us.length → d.g * (us.getD (lsI us d us.length) Pr.z).g + d.c * (us.getD (lsI us d us.length) Pr.z).c < d.g * (us.getD i Pr.z).g + d.c * (us.getD i Pr.z).c := fun h => lsI_first (us := us) (d := d) (k := us.length) h
                      have hwd : (i : Int) = wI us d → (d.g * (us.getD i Pr.z).g + d.c * (us.getD i Pr.z).c) / 1000000 = wW us d := by
                        intro e
                        have e2 : i = lsI us d us.length := by omega
                        rw [e2]; rfl
                      first | refine wN_skip ?_ | skip
                      refine wD_seq ?_
                      refine wD_addo (b := H1.next) (o := 0) rfl ?_
                      refine wD_ld (b := H1.next) (o := 1) (v := iv d.g) rfl c2.rd rfl ?_
                      refine wD_addo (b := H.next) (o := 0) rfl ?_
                      refine wD_ld (b := H.next) (o := 0) (v := .slice sa n cap) rfl c1.rd rfl ?_
                      refine wD_mov (v := iv (i : Int)) rfl ?_
                      refine wD_idx (b := sb) (o := 0) (k := i) (j := (i : Int)) (by rw [← es]; rfl) rfl rfl (by omega) ?_
                      refine wD_addo (b := sb) (o := 0 + i * 2) rfl ?_
                      refine wD_ld (b := sb) (o := 0 + i * 2) (v := iv ((us.getD i Pr.z).g)) rfl rs (prc_atF (us := us) (i := i) (j := 0) (by omega) rfl) ?_
                      refine wD_mul (a := d.g) (b := (us.getD i Pr.z).g) rfl rfl ⟨by omega, by omega⟩ ?_
                      refine wD_addo (b := H1.next) (o := 0) rfl ?_
                      refine wD_ld (b := H1.next) (o := 2) (v := iv d.c) rfl c2.rd rfl ?_
                      refine wD_addo (b := H.next) (o := 0) rfl ?_
                      refine wD_ld (b := H.next) (o := 0) (v := .slice sa n cap) rfl c1.rd rfl ?_
                      refine wD_mov (v := iv (i : Int)) rfl ?_
                      refine wD_idx (b := sb) (o := 0) (k := i) (j := (i : Int)) (by rw [← es]; rfl) rfl rfl (by omega) ?_
                      refine wD_addo (b := sb) (o := 0 + i * 2) rfl ?_
                      refine wD_ld (b := sb) (o := 0 + i * 2 + 1) (v := iv ((us.getD i Pr.z).c)) rfl rs (prc_atF (us := us) (i := i) (j := 1) (by omega) rfl) ?_
                      refine wD_mul (a := d.c) (b := (us.getD i Pr.z).c) rfl rfl ⟨by omega, by omega⟩ ?_
                      refine wD_add (a := d.g * ((us.getD i Pr.z).g)) (b := d.c * ((us.getD i Pr.z).c)) rfl rfl ⟨by omega, by omega⟩ ?_
                      refine wD_mov (v := iv ((d.g * ((us.getD i Pr.z).g)) + (d.c * ((us.getD i Pr.z).c)))) rfl ?_
                      refine wD_end (by repeat' first | exact True.intro | exact (fun h => h) | refine And.intro ?_ ?_ | (intro h; have h : (_ : Nat) = _ := h; omega)) ?_
                      refine wD_seq ?_
                      refine wD_addo (b := H1.next) (o := 0) rfl ?_
                      refine wD_ld (b := H1.next) (o := 1) (v := iv d.g) rfl c2.rd rfl ?_
                      refine wD_addo (b := H.next) (o := 0) rfl ?_
                      refine wD_ld (b := H.next) (o := 0) (v := .slice sa n cap) rfl c1.rd rfl ?_
                      refine wD_mov (v := iv (wI us d)) rfl ?_
                      refine wD_idx (b := sb) (o := 0) (k := (lsI us d us.length)) (j := (wI us d)) (by rw [← es]; rfl) rfl rfl (by omega) ?_
                      refine wD_addo (b := sb) (o := 0 + (lsI us d us.length) * 2) rfl ?_
                      refine wD_ld (b := sb) (o := 0 + (lsI us d us.length) * 2) (v := iv ((us.getD (lsI us d us.length) Pr.z).g)) rfl rs (prc_atF (us := us) (i := (lsI us d us.length)) (j := 0) (by omega) rfl) ?_
                      refine wD_mul (a := d.g) (b := (us.getD (lsI us d us.length) Pr.z).g) rfl rfl ⟨by omega, by omega⟩ ?_
                      refine wD_addo (b := H1.next) (o := 0) rfl ?_
                      refine wD_ld (b := H1.next) (o := 2) (v := iv d.c) rfl c2.rd rfl ?_
                      refine wD_addo (b := H.next) (o := 0) rfl ?_
                      refine wD_ld (b := H.next) (o := 0) (v := .slice sa n cap) rfl c1.rd rfl ?_
                      refine wD_mov (v := iv (wI us d)) rfl ?_
                      refine wD_idx (b := sb) (o := 0) (k := (lsI us d us.length)) (j := (wI us d)) (by rw [← es]; rfl) rfl rfl (by omega) ?_
                      refine wD_addo (b := sb) (o := 0 + (lsI us d us.length) * 2) rfl ?_
                      refine wD_ld (b := sb) (o := 0 + (lsI us d us.length) * 2 + 1) (v := iv ((us.getD (lsI us d us.length) Pr.z).c)) rfl rs (prc_atF (us := us) (i := (lsI us d us.length)) (j := 1) (by omega) rfl) ?_
                      refine wD_mul (a := d.c) (b := (us.getD (lsI us d us.length) Pr.z).c) rfl rfl ⟨by omega, by omega⟩ ?_
                      refine wD_add (a := d.g * ((us.getD (lsI us d us.length) Pr.z).g)) (b := d.c * ((us.getD (lsI us d us.length) Pr.z).c)) rfl rfl ⟨by omega, by omega⟩ ?_
                      refine wD_mov (v := iv ((d.g * ((us.getD (lsI us d us.length) Pr.z).g)) + (d.c * ((us.getD (lsI us d us.length) Pr.z).c)))) rfl ?_
                      refine wD_end (by repeat' first | exact True.intro | exact (fun h => h) | refine And.intro ?_ ?_ | (intro h; have h : (_ : Nat) = _ := h; omega)) ?_
                      refine wN_seq ?_
                      refine wN_mov (v := iv ((d.g * ((us.getD i Pr.z).g)) + (d.c * ((us.getD i Pr.z).c)))) rfl ?_
                      refine wN_mov (v := iv ((d.g * ((us.getD (lsI us d us.length) Pr.z).g)) + (d.c * ((us.getD (lsI us d us.length) Pr.z).c)))) rfl ?_
                      refine wN_b_lss (a := (d.g * ((us.getD i Pr.z).g)) + (d.c * ((us.getD i Pr.z).c))) (b := (d.g * ((us.getD (lsI us d us.length) Pr.z).g)) + (d.c * ((us.getD (lsI us d us.length) Pr.z).c))) rfl rfl ?_
                      intro t12 g12; cases t12
                      · have g12 : ¬ (((d.g * ((us.getD i Pr.z).g)) + (d.c * ((us.getD i Pr.z).c))) < ((d.g * ((us.getD (lsI us d us.length) Pr.z).g)) + (d.c * ((us.getD (lsI us d us.length) Pr.z).c)))) := of_decide_eq_false g12
                        refine wN_mov (v := .bool false) rfl ?_
                        refine wN_g rfl (wN_mov (v := iv ((d.g * ((us.getD i Pr.z).g)) + (d.c * ((us.getD i Pr.z).c)))) rfl ?_)
                        refine wN_g rfl (wN_mov (v := iv ((d.g * ((us.getD (lsI us d us.length) Pr.z).g)) + (d.c * ((us.getD (lsI us d us.length) Pr.z).c)))) rfl ?_)
                        refine wN_g rfl (wN_b_eql (a := (d.g * ((us.getD i Pr.z).g)) + (d.c * ((us.getD i Pr.z).c))) (b := (d.g * ((us.getD (lsI us d us.length) Pr.z).g)) + (d.c * ((us.getD (lsI us d us.length) Pr.z).c))) rfl rfl ?_)
                        intro t13 g13; cases t13
                        · have g13 : ¬ (((d.g * ((us.getD i Pr.z).g)) + (d.c * ((us.getD i Pr.z).c))) = ((d.g * ((us.getD (lsI us d us.length) Pr.z).g)) + (d.c * ((us.getD (lsI us d us.length) Pr.z).c)))) := by simpa using g13
                          refine wN_g rfl (wN_mov (v := .bool false) rfl ?_)
                          refine wN_gs rfl ?_
                          refine wN_gs rfl ?_
                          refine wN_gs rfl ?_
                          refine wN_g rfl (wN_pur (v := .bool false) rfl rfl ?_)
                          refine wN_pur (v := .bool false) rfl rfl ?_
                          refine wN_mov (v := .bool false) rfl ?_
                          refine wN_g rfl (wN_mov (v := iv (i : Int)) rfl ?_)
                          refine wN_g rfl (wN_mov (v := iv (wI us d)) rfl ?_)
                          refine wN_g rfl (wN_b_eql (a := (i : Int)) (b := (wI us d)) rfl rfl ?_)
                          intro t14 g14; cases t14
                          · have g14 : ¬ ((i : Int) = (wI us d)) := by simpa using g14
                            refine wN_g rfl (wN_mov (v := .bool false) rfl ?_)
                            refine wN_gs rfl ?_
                            refine wN_gs rfl ?_
                            refine wN_gs rfl ?_
                            refine wN_gs rfl ?_
                            refine wN_g rfl (wN_pur (v := .bool false) rfl rfl ?_)
                            refine wN_pur (v := .bool false) rfl rfl ?_
                            refine wN_end ?_
                            refine condF ?_
                            first | refine wN_skip ?_ | skip
                            first | refine wN_reg ?_ | refine wN_blk ?_ | refine wN_bseq ?_ | (refine wOps_nil ?_; refine wN_reg ?_)
                            refine wN_mov (v := iv (i : Int)) rfl ?_
                            refine wN_add (a := (i : Int)) (b := 1) rfl rfl ⟨by omega, by omega⟩ ?_
                            refine wN_mov (v := iv ((i : Int) + 1)) rfl ?_
                            refine wN_end ?_
                            exact ⟨k - 1, i + 1, by omega, ⟨by omega, hk, by omega, hs, c1, c2⟩, rfl, rfl, rfl, rfl, rfl, rfl, trivial⟩
                          · have g14 : (i : Int) = (wI us d) := by simpa using g14
                            refine wN_g rfl (wN_mov (v := .bool true) rfl ?_)
                            refine wN_g rfl (wN_mov (v := iv ((d.g * ((us.getD i Pr.z).g)) + (d.c * ((us.getD i Pr.z).c)))) rfl ?_)
                            refine wN_g rfl (wN_quo (a := (d.g * ((us.getD i Pr.z).g)) + (d.c * ((us.getD i Pr.z).c))) (b := 1000000) rfl rfl (by omega) (by omega) ⟨by omega, by omega⟩ ?_)
                            refine wN_g rfl (wN_mov (v := iv (wW us d)) rfl ?_)
                            refine wN_g rfl (wN_b_neq (a := ((d.g * ((us.getD i Pr.z).g)) + (d.c * ((us.getD i Pr.z).c))) / 1000000) (b := (wW us d)) rfl rfl ?_)
                            intro t15 g15; cases t15
                            · have g15 : ¬ ((((d.g * ((us.getD i Pr.z).g)) + (d.c * ((us.getD i Pr.z).c))) / 1000000) ≠ (wW us d)) := by simpa using g15
                              refine wN_g rfl (wN_pur (v := .bool false) rfl rfl ?_)
                              refine wN_pur (v := .bool false) rfl rfl ?_
                              refine wN_end ?_
                              refine condF ?_
                              first | refine wN_skip ?_ | skip
                              first | refine wN_reg ?_ | refine wN_blk ?_ | refine wN_bseq ?_ | (refine wOps_nil ?_; refine wN_reg ?_)
                              refine wN_mov (v := iv (i : Int)) rfl ?_
                              refine wN_add (a := (i : Int)) (b := 1) rfl rfl ⟨by omega, by omega⟩ ?_
                              refine wN_mov (v := iv ((i : Int) + 1)) rfl ?_
                              refine wN_end ?_
                              exact ⟨k - 1, i + 1, by omega, ⟨by omega, hk, by omega, hs, c1, c2⟩, rfl, rfl, rfl, rfl, rfl, rfl, trivial⟩
                            · have g15 : (((d.g * ((us.getD i Pr.z).g)) + (d.c * ((us.getD i Pr.z).c))) / 1000000) ≠ (wW us d) := by simpa using g15
                              omega
                        · have g13 : ((d.g * ((us.getD i Pr.z).g)) + (d.c * ((us.getD i Pr.z).c))) = ((d.g * ((us.getD (lsI us d us.length) Pr.z).g)) + (d.c * ((us.getD (lsI us d us.length) Pr.z).c))) := by simpa using g13
                          refine wN_g rfl (wN_mov (v := .bool true) rfl ?_)
                          refine wN_g rfl (wN_mov (v := iv (i : Int)) rfl ?_)
                          refine wN_g rfl (wN_mov (v := iv (wI us d)) rfl ?_)
                          refine wN_g rfl (wN_b_lss (a := (i : Int)) (b := (wI us d)) rfl rfl ?_)
                          intro t16 g16; cases t16
                          · have g16 : ¬ ((i : Int) < (wI us d)) := of_decide_eq_false g16
                            refine wN_g rfl (wN_pur (v := .bool false) rfl rfl ?_)
                            refine wN_pur (v := .bool false) rfl rfl ?_
                            refine wN_mov (v := .bool false) rfl ?_
                            refine wN_g rfl (wN_mov (v := iv (i : Int)) rfl ?_)
                            refine wN_g rfl (wN_mov (v := iv (wI us d)) rfl ?_)
                            refine wN_g rfl (wN_b_eql (a := (i : Int)) (b := (wI us d)) rfl rfl ?_)
                            intro t17 g17; cases t17
                            · have g17 : ¬ ((i : Int) = (wI us d)) := by simpa using g17
                              refine wN_g rfl (wN_mov (v := .bool false) rfl ?_)
                              refine wN_gs rfl ?_
                              refine wN_gs rfl ?_
                              refine wN_gs rfl ?_
                              refine wN_gs rfl ?_
                              refine wN_g rfl (wN_pur (v := .bool false) rfl rfl ?_)
                              refine wN_pur (v := .bool false) rfl rfl ?_
                              refine wN_end ?_
                              refine condF ?_
                              first | refine wN_skip ?_ | skip
                              first | refine wN_reg ?_ | refine wN_blk ?_ | refine wN_bseq ?_ | (refine wOps_nil ?_; refine wN_reg ?_)
                              refine wN_mov (v := iv (i : Int)) rfl ?_
                              refine wN_add (a := (i : Int)) (b := 1) rfl rfl ⟨by omega, by omega⟩ ?_
                              refine wN_mov (v := iv ((i : Int) + 1)) rfl ?_
                              refine wN_end ?_
                              exact ⟨k - 1, i + 1, by omega, ⟨by omega, hk, by omega, hs, c1, c2⟩, rfl, rfl, rfl, rfl, rfl, rfl, trivial⟩
                            · have g17 : (i : Int) = (wI us d) := by simpa using g17
                              refine wN_g rfl (wN_mov (v := .bool true) rfl ?_)
                              refine wN_g rfl (wN_mov (v := iv ((d.g * ((us.getD i Pr.z).g)) + (d.c * ((us.getD i Pr.z).c)))) rfl ?_)
                              refine wN_g rfl (wN_quo (a := (d.g * ((us.getD i Pr.z).g)) + (d.c * ((us.getD i Pr.z).c))) (b := 1000000) rfl rfl (by omega) (by omega) ⟨by omega, by omega⟩ ?_)
                              refine wN_g rfl (wN_mov (v := iv (wW us d)) rfl ?_)
                              refine wN_g rfl (wN_b_neq (a := ((d.g * ((us.getD i Pr.z).g)) + (d.c * ((us.getD i Pr.z).c))) / 1000000) (b := (wW us d)) rfl rfl ?_)
                              intro t18 g18; cases t18
                              · have g18 : ¬ ((((d.g * ((us.getD i Pr.z).g)) + (d.c * ((us.getD i Pr.z).c))) / 1000000) ≠ (wW us d)) := by simpa using g18
                                refine wN_g rfl (wN_pur (v := .bool false) rfl rfl ?_)
                                refine wN_pur (v := .bool false) rfl rfl ?_
                                refine wN_end ?_
                                refine condF ?_
                                first | refine wN_skip ?_ | skip
                                first | refine wN_reg ?_ | refine wN_blk ?_ | refine wN_bseq ?_ | (refine wOps_nil ?_; refine wN_reg ?_)
                                refine wN_mov (v := iv (i : Int)) rfl ?_
                                refine wN_add (a := (i : Int)) (b := 1) rfl rfl ⟨by omega, by omega⟩ ?_
                                refine wN_mov (v := iv ((i : Int) + 1)) rfl ?_
                                refine wN_end ?_
                                exact ⟨k - 1, i + 1, by omega, ⟨by omega, hk, by omega, hs, c1, c2⟩, rfl, rfl, rfl, rfl, rfl, rfl, trivial⟩
                              · have g18 : (((d.g * ((us.getD i Pr.z).g)) + (d.c * ((us.getD i Pr.z).c))) / 1000000) ≠ (wW us d) := by simpa using g18
                                omega
                          · have g16 : (i : Int) < (wI us d) := of_decide_eq_true g16
                            omega
                      · have g12 : ((d.g * ((us.getD i Pr.z).g)) + (d.c * ((us.getD i Pr.z).c))) < ((d.g * ((us.getD (lsI us d us.length) Pr.z).g)) + (d.c * ((us.getD (lsI us d us.length) Pr.z).c))) := of_decide_eq_true g12
                        omega
                    · have q11 : ¬ ((i : Int) < (n : Int)) := of_decide_eq_false q11
                      first | (refine wN_exit ?_; show wC _ _ _ _ _ _ _ _ _) | skip
                      refine wN_seq ?_
                      refine wN_mov (v := .int .u64 more) rfl ?_
                      refine wN_addo (b := H1.next) (o := 0) rfl ?_
                      refine wN_ld (b := H1.next) (o := 1) (v := iv d.g) rfl c2.rd rfl ?_
                      refine wN_sub (a := 134217728) (b := d.g) rfl rfl ⟨by omega, by omega⟩ ?_
                      refine wN_add (a := 134217728 - d.g) (b := 1) rfl rfl ⟨by omega, by omega⟩ ?_
                      obtain ⟨x, hx⟩ : ∃ x, more % (134217728 - d.g + 1) = x := ⟨_, rfl⟩
                      have bx := rem_in (more) (b := 134217728 - d.g + 1) (by omega)
                      rw [hx] at bx
                      refine wN_pur (v := .int .u64 (134217728 - d.g + 1)) rfl (c_i43 (by omega) (by omega) rfl) ?_
                      refine wN_pur (v := .int .u64 x) rfl ((v_rem (a := more) (b := 134217728 - d.g + 1) (by omega) (by omega) rfl rfl).trans (by rw [hx])) ?_
                      refine wN_pur (v := iv x) rfl (c_43i (by omega) (by omega) rfl) ?_
                      refine wN_mov (v := iv x) rfl ?_
                      refine wN_end ?_
                      refine wN_seq ?_
                      refine wN_lda (b := H.next) (o := 0) rfl c1.rd (show row 2 _ _ = some [.slice sa n cap, iv adv] from rfl) ?_
                      refine wN_addo (b := H1.next) (o := 0) rfl ?_
                      refine wN_ld (b := H1.next) (o := 1) (v := iv d.g) rfl c2.rd rfl ?_
                      refine wN_mov (v := iv x) rfl ?_
                      refine wN_add (a := d.g) (b := x) rfl rfl ⟨by omega, by omega⟩ ?_
                      refine wN_addo (b := H1.next) (o := 0) rfl ?_
                      refine wN_ld (b := H1.next) (o := 2) (v := iv d.c) rfl c2.rd rfl ?_
                      refine wN_pur (v := .agg #[iv 0, iv (d.g + x), iv d.c]) rfl (by kernel_rfl) ?_
                      obtain ⟨H9, fH9, kH9⟩ := Worth_ok (kn := kn) (lo := lo) (H := L1) (adv := adv) hs hl hn (by omega) (d := ⟨0, d.g + x, d.c⟩)
                      refine wN_callf (vs := [.agg #[.slice sa n cap, iv adv], .agg (Dl.f (⟨0, d.g + x, d.c⟩)).toArray]) rfl (callX_args fH9) ?_
                      have mH9 := kH9.1
                      have hk := hk.trans kH9
                      have hs := kH9.sl0 hs
                      have c1 := kH9.cl c1 (by simp)
                      have c2 := kH9.cl c2 (by simp)
                      have bdu : badD ⟨0, d.g + x, d.c⟩ = false := bad_of (by omega) (by omega) (by omega) (by omega) (by omega) (by omega)
                      have wtu := wt_in hv bdu
                      have mou := wt_mono (d := d) hv hb bdu (by omega) (by omega)
                      refine wN_mov (v := .tuple #[iv (wtV us adv (⟨0, d.g + x, d.c⟩)), iv (wtI us adv (⟨0, d.g + x, d.c⟩)), iv (wtE us adv (⟨0, d.g + x, d.c⟩))]) rfl ?_
                      refine wN_pur (v := iv (wtV us adv (⟨0, d.g + x, d.c⟩))) rfl (by kernel_rfl) ?_
                      refine wN_pur (v := iv (wtI us adv (⟨0, d.g + x, d.c⟩))) rfl (by kernel_rfl) ?_
                      refine wN_pur (v := iv (wtE us adv (⟨0, d.g + x, d.c⟩))) rfl (by kernel_rfl) ?_
                      refine wN_mov (v := iv (wtV us adv (⟨0, d.g + x, d.c⟩))) rfl ?_
                      refine wN_mov (v := iv (wtI us adv (⟨0, d.g + x, d.c⟩))) rfl ?_
                      refine wN_mov (v := iv (wtE us adv (⟨0, d.g + x, d.c⟩))) rfl ?_
                      refine wN_end ?_
                      refine wD_seq ?_
                      refine wD_lda (b := H.next) (o := 0) rfl c1.rd (show row 2 _ _ = some [.slice sa n cap, iv adv] from rfl) ?_
                      refine wD_addo (b := H1.next) (o := 0) rfl ?_
                      refine wD_ld (b := H1.next) (o := 1) (v := iv d.g) rfl c2.rd rfl ?_
                      refine wD_addo (b := H1.next) (o := 0) rfl ?_
                      refine wD_ld (b := H1.next) (o := 2) (v := iv d.c) rfl c2.rd rfl ?_
                      refine wD_mov (v := .int .u64 more) rfl ?_
                      refine wD_addo (b := H1.next) (o := 0) rfl ?_
                      refine wD_ld (b := H1.next) (o := 1) (v := iv d.g) rfl c2.rd rfl ?_
                      refine wD_mul (a := d.g) (b := 255) rfl rfl ⟨by omega, by omega⟩ ?_
                      refine wD_addo (b := H1.next) (o := 0) rfl ?_
                      refine wD_ld (b := H1.next) (o := 2) (v := iv d.c) rfl c2.rd rfl ?_
                      refine wD_sub (a := d.g * 255) (b := d.c) rfl rfl ⟨by omega, by omega⟩ ?_
                      refine wD_add (a := (d.g * 255) - d.c) (b := 1) rfl rfl ⟨by omega, by omega⟩ ?_
                      obtain ⟨z, hz⟩ : ∃ z, more % (d.g * 255 - d.c + 1) = z := ⟨_, rfl⟩
                      have bz := rem_in (more) (b := d.g * 255 - d.c + 1) (by omega)
                      rw [hz] at bz
                      refine wD_pur (v := .int .u64 (d.g * 255 - d.c + 1)) rfl (c_i43 (by omega) (by omega) rfl) ?_
                      refine wD_pur (v := .int .u64 z) rfl ((v_rem (a := more) (b := d.g * 255 - d.c + 1) (by omega) (by omega) rfl rfl).trans (by rw [hz])) ?_
                      refine wD_pur (v := iv z) rfl (c_43i (by omega) (by omega) rfl) ?_
                      refine wD_add (a := d.c) (b := z) rfl rfl ⟨by omega, by omega⟩ ?_
                      refine wD_pur (v := .agg #[iv 0, iv d.g, iv (d.c + z)]) rfl (by kernel_rfl) ?_
                      obtain ⟨H10, fH10, kH10⟩ := Worth_ok (kn := kn) (lo := lo) (H := H9) (adv := adv) hs hl hn (by omega) (d := ⟨0, d.g, d.c + z⟩)
                      refine wD_callf (vs := [.agg #[.slice sa n cap, iv adv], .agg (Dl.f (⟨0, d.g, d.c + z⟩)).toArray]) rfl (callX_args fH10) ?_
                      have mH10 := kH10.1
                      have hk := hk.trans kH10
                      have hs := kH10.sl0 hs
                      have c1 := kH10.cl c1 (by simp)
                      have c2 := kH10.cl c2 (by simp)
                      have bdv : badD ⟨0, d.g, d.c + z⟩ = false := bad_of (by omega) (by omega) (by omega) (by omega) (by omega) (by omega)
                      have wtv := wt_in hv bdv
                      have mov := wt_mono (d := d) hv hb bdv (by omega) (by omega)
                      refine wD_mov (v := .tuple #[iv (wtV us adv (⟨0, d.g, d.c + z⟩)), iv (wtI us adv (⟨0, d.g, d.c + z⟩)), iv (wtE us adv (⟨0, d.g, d.c + z⟩))]) rfl ?_
                      refine wD_pur (v := iv (wtV us adv (⟨0, d.g, d.c + z⟩))) rfl (by kernel_rfl) ?_
                      refine wD_pur (v := iv (wtI us adv (⟨0, d.g, d.c + z⟩))) rfl (by kernel_rfl) ?_
                      refine wD_pur (v := iv (wtE us adv (⟨0, d.g, d.c + z⟩))) rfl (by kernel_rfl) ?_
                      refine wD_mov (v := iv (wtV us adv (⟨0, d.g, d.c + z⟩))) rfl ?_
                      refine wD_mov (v := iv (wtI us adv (⟨0, d.g, d.c + z⟩))) rfl ?_
                      refine wD_mov (v := iv (wtE us adv (⟨0, d.g, d.c + z⟩))) rfl ?_
                      refine wD_end (by repeat' first | exact True.intro | exact (fun h => h) | refine And.intro ?_ ?_ | (intro h; have h : (_ : Nat) = _ := h; omega)) ?_
                      refine wN_seq ?_
                      refine wN_mov (v := iv (wtE us adv (⟨0, d.g + x, d.c⟩))) rfl ?_
                      refine wN_b_eql (a := (wtE us adv (⟨0, d.g + x, d.c⟩))) (b := 0) rfl rfl ?_
                      intro t19 g19; cases t19
                      · have g19 : ¬ ((wtE us adv (⟨0, d.g + x, d.c⟩)) = 0) := by simpa using g19
                        omega
                      · have g19 : (wtE us adv (⟨0, d.g + x, d.c⟩)) = 0 := by simpa using g19
                        refine wN_mov (v := .bool true) rfl ?_
                        refine wN_g rfl (wN_mov (v := iv (wtE us adv (⟨0, d.g, d.c + z⟩))) rfl ?_)
                        refine wN_g rfl (wN_b_eql (a := (wtE us adv (⟨0, d.g, d.c + z⟩))) (b := 0) rfl rfl ?_)
                        intro t20 g20; cases t20
                        · have g20 : ¬ ((wtE us adv (⟨0, d.g, d.c + z⟩)) = 0) := by simpa using g20
                          omega
                        · have g20 : (wtE us adv (⟨0, d.g, d.c + z⟩)) = 0 := by simpa using g20
                          refine wN_pur (v := .bool true) rfl rfl ?_
                          refine wN_mov (v := .bool true) rfl ?_
                          refine wN_g rfl (wN_mov (v := iv (wtV us adv (⟨0, d.g + x, d.c⟩))) rfl ?_)
                          refine wN_g rfl (wN_mov (v := iv (wW us d)) rfl ?_)
                          refine wN_g rfl (wN_b_geq (a := (wtV us adv (⟨0, d.g + x, d.c⟩))) (b := (wW us d)) rfl rfl ?_)
                          intro t21 g21; cases t21
                          · have g21 : ¬ ((wtV us adv (⟨0, d.g + x, d.c⟩)) ≥ (wW us d)) := of_decide_eq_false g21
                            omega
                          · have g21 : (wtV us adv (⟨0, d.g + x, d.c⟩)) ≥ (wW us d) := of_decide_eq_true g21
                            refine wN_pur (v := .bool true) rfl rfl ?_
                            refine wN_mov (v := .bool true) rfl ?_
                            refine wN_g rfl (wN_mov (v := iv (wtV us adv (⟨0, d.g, d.c + z⟩))) rfl ?_)
                            refine wN_g rfl (wN_mov (v := iv (wW us d)) rfl ?_)
                            refine wN_g rfl (wN_b_geq (a := (wtV us adv (⟨0, d.g, d.c + z⟩))) (b := (wW us d)) rfl rfl ?_)
                            intro t22 g22; cases t22
                            · have g22 : ¬ ((wtV us adv (⟨0, d.g, d.c + z⟩)) ≥ (wW us d)) := of_decide_eq_false g22
                              omega
                            · have g22 : (wtV us adv (⟨0, d.g, d.c + z⟩)) ≥ (wW us d) := of_decide_eq_true g22
                              refine wN_pur (v := .bool true) rfl rfl ?_
                              refine wN_mov (v := .bool true) rfl ?_
                              refine wN_g rfl (wN_callf (vs := []) rfl (callX_known hkn) ?_)
                              refine wN_pur (v := .bool true) rfl rfl ?_
                              refine wN_mov (v := .bool true) rfl ?_
                              refine wN_end ?_
                              exact And.intro trivial (Exists.intro _ (And.intro rfl rfl))
                  · have g10 : ((wtV us adv (⟨d.r, g, (max 0 (d.c - ((d.g - g) * 255))) + r⟩)) + (wtV us adv (⟨d.r, d.g - g, d.c - ((max 0 (d.c - ((d.g - g) * 255))) + r)⟩))) > (wW us d) := of_decide_eq_true g10
                    omega
                · have g9 : (wtV us adv (⟨d.r, d.g - g, d.c - ((max 0 (d.c - ((d.g - g) * 255))) + r)⟩)) < 0 := of_decide_eq_true g9
                  omega
              · have g8 : (wtV us adv (⟨d.r, g, (max 0 (d.c - ((d.g - g) * 255))) + r⟩)) < 0 := of_decide_eq_true g8
                omega
            · have g7 : (wtE us adv (⟨d.r, d.g - g, d.c - ((max 0 (d.c - ((d.g - g) * 255))) + r)⟩)) ≠ 0 := by simpa using g7
              omega
          · have g6 : (wtE us adv (⟨d.r, g, (max 0 (d.c - ((d.g - g) * 255))) + r⟩)) ≠ 0 := by simpa using g6
            omega
        · have g5 : (wI us d) ≥ (n : Int) := of_decide_eq_true g5
          omega
      · have g4 : (wI us d) < 0 := of_decide_eq_true g4
        omega
  · refine wN_end ?_
    refine condT ?_
    refine wN_seq ?_
    refine wN_callf (vs := []) rfl (callX_known hkn) ?_
    refine wN_mov (v := .bool true) rfl ?_
    refine wN_end ?_
    exact And.intro trivial (Exists.intro _ (And.intro rfl rfl))
end
end
end Go.Ax

namespace Go.Ax
open Go Go.RowKit Go.Proofs Go.ChangeShapes Go.WideShapes Go.Deep

/-- A type whose cells are whole numbers. -/
def IntT (P : Program) (t : TypeId) : Prop := ∀ (H : Type) (enc : TypeId × Value → H) (w : World) (base : Nat) (spare : Nat → Bool) (held : Bool) (fuel : Nat) (cs : List Value) (x : DataW H × List MemPlace),
  DataW.trod enc P w base spare held fuel t cs = some x → cs.length = P.cellsOf t ∧ ∀ j, j < cs.length → ∃ n, cs[j]? = some (.int .i64 n)
theorem IntT.int {P : Program} {t : TypeId} (ht : P.underlying t = some (.int .i64)) (hc : P.cellsOf t = 1) : IntT P t := by
  intro H enc w base spare held fuel cs x h
  obtain ⟨n, rfl, _⟩ := DataW.trod_int ht h
  refine ⟨by rw [hc]; rfl, fun j hj => ⟨n, ?_⟩⟩
  have : j = 0 := by simp at hj; omega
  subst this; rfl
theorem IntT.struct {P : Program} {t : TypeId} {fs : Array Field} (ht : P.underlying t = some (.struct fs)) (hf : ∀ f ∈ fs.toList, IntT P f.type)
    (hcov : ((List.range (P.cellsOf t)).all fun j => fs.toList.any fun f => decide (f.offset ≤ j) && decide (j < f.offset + P.cellsOf f.type)) = true) : IntT P t := by
  intro H enc w base spare held fuel cs x h
  obtain ⟨xs, n, _, _, hlen, hxl, hg⟩ := DataW.trod_struct ht h
  refine ⟨hlen, fun j hj => ?_⟩
  have h1 := List.all_eq_true.1 hcov j (List.mem_range.2 (by omega))
  obtain ⟨f, hfm, h2⟩ := List.any_eq_true.1 h1
  simp only [Bool.and_eq_true, decide_eq_true_eq] at h2
  obtain ⟨i, hi, hfi⟩ := List.getElem_of_mem hfm
  have hfs : fs[i]? = some f := by
    rw [← Array.getElem?_toList, List.getElem?_eq_getElem hi, hfi]
  have hi2 : i < xs.length := by simpa [hxl] using hi
  have h3 := hg i f hfs
  rw [List.getElem?_eq_getElem hi2] at h3
  obtain ⟨h4, h5⟩ := hf f hfm _ _ _ _ _ _ _ _ _ h3
  obtain ⟨m, hm⟩ := h5 (j - f.offset) (by omega)
  refine ⟨m, ?_⟩
  rw [List.getElem?_take] at hm
  split at hm
  · rw [List.getElem?_drop, show f.offset + (j - f.offset) = j by omega] at hm; exact hm
  · cases hm

/-- A slice of rows of whole numbers, as it is given. -/
structure Given {α : Type} (w : World) (v : Value) (f : α → List Value) (l : List α) (x : Imp) : Prop where
  ok : ∀ (i : Nat) u, x.cs[i]? = some u → w.cell? ⟨x.blk, x.off + i, none⟩ = some u ∧ flat1 u = true
  cs : x.cs = l.flatMap f
  v : (v = .slice none 0 0 ∧ l = []) ∨ ∃ cap, v = .slice (some ⟨x.blk, x.off, none⟩) l.length cap ∧ l.length ≤ cap
theorem flat_get {α : Type} {f : α → List Value} {k : Nat} (hk : 0 < k) : ∀ {l : List α} (_ : ∀ x ∈ l, (f x).length = k) (i : Nat) (u : Value), (l.flatMap f)[i]? = some u → ∃ x, l[i / k]? = some x ∧ (f x)[i % k]? = some u
  | [], _, i, u, h => by simp at h
  | y :: r, hl, i, u, h => by
    have hy := hl y (List.mem_cons_self ..)
    rw [List.flatMap_cons, List.getElem?_append] at h
    split at h
    · rename_i q
      rw [hy] at q
      refine ⟨y, ?_, ?_⟩
      · rw [Nat.div_eq_of_lt q]; rfl
      · rw [Nat.mod_eq_of_lt q]; exact h
    · rename_i q
      rw [hy] at q h
      obtain ⟨x, h1, h2⟩ := flat_get hk (fun x hx => hl x (List.mem_cons_of_mem _ hx)) _ u h
      refine ⟨x, ?_, ?_⟩
      · rw [Nat.div_eq_sub_div hk (by omega)]; exact h1
      · rw [Nat.mod_eq_sub_mod (by omega)]; exact h2
theorem slice_given {H : Type} {enc : TypeId × Value → H} {P : Program} {w : World} {base b0 : Nat} {r : Reach} {held : Bool} {α : Type} (f : α → List Value) (mk : (Nat → Int) → α) (k : Nat) {t e : TypeId} {fuel : Nat} {v : Value} {x : DataW H × List MemPlace}
    (ht : P.underlying t = some (.slice e)) (hI : IntT P e) (hc : P.cellsOf e = k) (hk : 0 < k) (hmk : ∀ N : Nat → Int, f (mk N) = (List.range k).map fun j => Value.int .i64 (N j))
    (hok : Cell.okWide P w r b0 t v) (h : DataW.trod enc P w base (fun _ => true) held fuel t [v] = some x) : ∃ (l : List α) (y : Imp), Given w v f l y := by
  rcases open_slice ht h with ⟨h0, _⟩ | ⟨a, len, cap, m, n, D, Pl, hcs, hb, hl, hm, hmm, hx, hi⟩
  · cases h0
    exact ⟨[], ⟨0, 0, []⟩, fun i u e => by simp at e, rfl, .inl ⟨rfl, rfl⟩⟩
  · cases hcs
    obtain ⟨blk, off, spot⟩ := a
    have hs : spot = none := by
      unfold Cell.okWide at hok
      rw [ht] at hok
      unfold Cell.ok at hok
      simp only [ht] at hok
      exact hok.2.2.2.1
    subst hs
    simp only [if_true] at hmm
    subst hmm
    have hcell : ∀ i, i < len → ∀ j, j < k → ∃ n, w.cell? ⟨blk, off + (i * k + j), none⟩ = some (.int .i64 n) := by
      intro i hil j hj
      obtain ⟨cs', h1, h2⟩ := hi i (by omega)
      obtain ⟨h3, h4⟩ := hI _ _ _ _ _ _ _ _ _ h2
      obtain ⟨_, h5, h6⟩ := World.cells?_some h1
      obtain ⟨n, hn⟩ := h4 j (by omega)
      refine ⟨n, ?_⟩
      have h7 := h6 j (by omega)
      rw [hn, hc, add_add] at h7
      have e : (⟨blk, off, none⟩ : Addr).add (i * k + j) = ⟨blk, off + (i * k + j), none⟩ := by
        unfold Addr.add
        by_cases q : i * k + j = 0
        · simp [q]
        · simp
      rw [e] at h7
      exact h7
    refine ⟨(List.range len).map fun i => mk fun j => match w.cell? ⟨blk, off + (i * k + j), none⟩ with | some (.int _ n) => n | _ => 0, ⟨blk, off, _⟩, ?_, rfl, .inr ⟨m, by simp, by simpa using hl⟩⟩
    intro i u hu
    obtain ⟨y, h1, h2⟩ := flat_get hk (fun y hy => by
      obtain ⟨i, _, rfl⟩ := List.mem_map.1 hy
      rw [hmk]; simp) i u hu
    have hlt : i / k < len := by
      have := get_lt h1
      simpa using this
    rw [List.getElem?_map, List.getElem?_range hlt] at h1
    simp only [Option.map_some, Option.some.injEq] at h1
    subst h1
    have hj : i % k < k := Nat.mod_lt _ hk
    rw [hmk, List.getElem?_map, List.getElem?_range hj] at h2
    simp only [Option.map_some, Option.some.injEq] at h2
    obtain ⟨n, hn⟩ := hcell _ hlt _ hj
    rw [hn] at h2
    subst h2
    rw [Nat.div_add_mod' ] at hn
    exact ⟨hn, rfl⟩
theorem Given.rel {α : Type} {w : World} {v : Value} {f : α → List Value} {l : List α} {x : Imp} (g : Given w v f l x) {r : Ren} {H : Hp} {b : Nat} (hr : r b = some ⟨x.blk, x.off, none⟩) (hb : b < H.next) (hc : cellsOf H b = some x.cs) (hro : H.t.get b = some (.ro x.cs)) :
    ∃ a cap, VR r (.slice a l.length cap) v ∧ Sl H a l.length cap (l.flatMap f) ∧ ∀ b, a = some ⟨b, 0, none⟩ → H.t.get b = some (.ro (l.flatMap f)) := by
  rcases g.v with ⟨rfl, rfl⟩ | ⟨cap, rfl, hl⟩
  · exact ⟨none, 0, .nilSlice, .inl ⟨.inl rfl, rfl, rfl, rfl⟩, fun b e => by cases e⟩
  · refine ⟨some ⟨b, 0, none⟩, cap, ?_, .inr ⟨b, rfl, ⟨hb, by rw [hc, g.cs]⟩, hl⟩, fun b' e => by cases e; rw [hro, g.cs]⟩
    have := VR.slice (o := 0) (n := l.length) (c := cap) hr rfl hl
    simpa using this
end Go.Ax

/-! Slices of rows of plain cells, as arguments. -/
namespace Go.Ax
open Go Go.RowKit Go.Proofs Go.ChangeShapes Go.WideShapes Go.Deep

theorem IntT.row {α : Type} {P : Program} {t : TypeId} {k : Nat} {f : α → List Value} {mk : (Nat → Int) → α} (h : IntT P t) (hc : P.cellsOf t = k) (hmk : ∀ N : Nat → Int, f (mk N) = (List.range k).map fun j => Value.int .i64 (N j))
    {H : Type} {enc : TypeId × Value → H} {w : World} {base : Nat} {spare : Nat → Bool} {held : Bool} (fuel : Nat) (cs : List Value) (x : DataW H × List MemPlace) (hx : DataW.trod enc P w base spare held fuel t cs = some x) : ∃ y : α, cs = f y ∧ True := by
  obtain ⟨h1, h2⟩ := h _ _ _ _ _ _ _ _ _ hx
  have : ∃ N : Nat → Int, ∀ j, j < cs.length → cs[j]? = some (.int .i64 (N j)) := by
    refine ⟨fun j => match cs[j]? with | some (.int _ n) => n | _ => 0, fun j hj => ?_⟩
    obtain ⟨n, hn⟩ := h2 j hj
    simp [hn]
  obtain ⟨N, hN⟩ := this
  refine ⟨mk N, ?_, trivial⟩
  rw [hmk]
  apply List.ext_getElem?
  intro j
  by_cases hj : j < k
  · rw [hN j (by omega), List.getElem?_map, List.getElem?_range hj]; rfl
  · rw [List.getElem?_eq_none (by omega), List.getElem?_eq_none (by simp; omega)]
end Go.Ax

/-! Arguments that point to what points: inner slices, rows of slices. -/
namespace Go.Ax
open Go Go.RowKit Go.Proofs Go.ChangeShapes Go.WideShapes Go.Deep

def renOf (imps : List Imp) : Ren := fun b => (imps[b]?).map fun x => ⟨x.blk, x.off, none⟩
theorem imports3 {P : Program} (imps outs : List Imp) (w : World) (h : ∀ x ∈ imps, ∀ (i : Nat) v, x.cs[i]? = some v → w.cell? ⟨x.blk, x.off + i, none⟩ = some v ∧ flat1 v = true)
    (hcs : ∀ x ∈ outs, ∀ (i : Nat) v, x.cs[i]? = some v → ∃ v', w.cell? ⟨x.blk, x.off + i, none⟩ = some v' ∧ VR (renOf imps) v v') :
    ∃ (r : Ren) (H : Hp), Rel P r w.heap.size H w ∧ H.next = (imps ++ outs).length ∧ (∀ b loc, r b = some loc → b < H.next) ∧ Ren.Le (renOf imps) r ∧ ∀ (b : Nat) x, (imps ++ outs)[b]? = some x → r b = some ⟨x.blk, x.off, none⟩ ∧ H.t.get b = some (.ro x.cs) := by
  have hall : ∀ x ∈ imps ++ outs, ∀ (i : Nat) v, x.cs[i]? = some v → ∃ v', w.cell? ⟨x.blk, x.off + i, none⟩ = some v' ∧ VR (renOf imps) v v' := by
    intro x hx i v hv
    rcases List.mem_append.1 hx with hx | hx
    · obtain ⟨h1, h2⟩ := h x hx i v hv
      exact ⟨v, h1, flat1_vr h2⟩
    · exact hcs x hx i v hv
  obtain ⟨t, ht⟩ := tr_of (fun b => ((imps ++ outs)[b]?).map fun x => .ro x.cs) (imps ++ outs).length
  have hle : Ren.Le (renOf imps) (fun b => ((imps ++ outs)[b]?).map fun x => ⟨x.blk, x.off, none⟩) := fun b loc e => by
    unfold renOf at e
    have hlt : b < imps.length := by
      rcases Nat.lt_or_ge b imps.length with q | q
      · exact q
      · rw [List.getElem?_eq_none q] at e; cases e
    show ((imps ++ outs)[b]?).map _ = _
    rw [List.getElem?_append_left hlt]; exact e
  have hr : ∀ (b : Nat) loc, ((imps ++ outs)[b]?).map (fun x => (⟨x.blk, x.off, none⟩ : Loc)) = some loc → ∃ x, (imps ++ outs)[b]? = some x ∧ b < (imps ++ outs).length ∧ loc = ⟨x.blk, x.off, none⟩ ∧ t.get b = some (.ro x.cs) := by
    intro b loc e
    cases hx : (imps ++ outs)[b]? with
    | none => rw [hx] at e; cases e
    | some x =>
      rw [hx] at e
      simp at e
      have hlt := get_lt hx
      exact ⟨x, rfl, hlt, e.symm, by rw [ht, if_pos hlt, hx]; rfl⟩
  have low : ∀ {g o : Nat} {v : Value}, w.cell? ⟨g, o, none⟩ = some v → g < w.heap.size := fun {g o v} hv => by
    unfold World.cell? at hv
    rcases Nat.lt_or_ge g w.heap.size with q | q
    · exact q
    · rw [Array.getElem?_eq_none q] at hv; cases hv
  refine ⟨fun b => ((imps ++ outs)[b]?).map fun x => ⟨x.blk, x.off, none⟩, { next := (imps ++ outs).length, t }, ⟨?_, ?_, ?_, Nat.le_refl _⟩, rfl, ?_, hle, ?_⟩
  · intro b loc e
    obtain ⟨x, hx, hlt, rfl, hg⟩ := hr b loc e
    refine ⟨hlt, ?_⟩
    show Dm _ _ _ (t.get b)
    rw [hg]
    cases hc : x.cs with
    | nil => exact .inl rfl
    | cons v l =>
      obtain ⟨v', h1, _⟩ := hall x (List.mem_of_getElem? hx) 0 v (by rw [hc]; rfl)
      exact .inr (low h1)
  · intro b loc o e eo
    obtain ⟨x, hx, hlt, rfl, hg⟩ := hr b loc e
    rw [hg] at eo; cases eo
    refine ⟨rfl, fun i v ev => ?_⟩
    obtain ⟨v', h1, h2⟩ := hall x (List.mem_of_getElem? hx) i v ev
    unfold World.cell? at h1
    simp only at h1
    split at h1
    · rename_i C e' f hC
      exact ⟨C, e', f, v', hC, by simpa using h1, h2.mono hle⟩
    · cases h1
  · intro b b' loc loc' e e' _ hl _
    obtain ⟨x, hx, hlt, rfl, hg⟩ := hr b loc e
    obtain ⟨o, h1, h2, h3⟩ := hl
    have : t.get b = some o := h1
    rw [hg] at this; cases this
    cases h3
  · intro b loc e
    obtain ⟨x, hx, hlt, rfl, hg⟩ := hr b loc e
    exact hlt
  · intro b x hx
    have hlt := get_lt hx
    refine ⟨by simp only [hx, Option.map_some], ?_⟩
    show t.get b = _
    rw [ht, if_pos hlt, hx]; rfl

/-- An inner slice, as it is given: an empty one may have any address. -/
structure GivI {α : Type} (w : World) (v : Value) (f : α → List Value) (l : List α) (x : Imp) : Prop where
  ok : ∀ (i : Nat) u, x.cs[i]? = some u → w.cell? ⟨x.blk, x.off + i, none⟩ = some u ∧ flat1 u = true
  cs : x.cs = l.flatMap f
  v : ((v = .slice none 0 0 ∨ ∃ a', v = .slice (some a') 0 0) ∧ l = []) ∨ ∃ cap, v = .slice (some ⟨x.blk, x.off, none⟩) l.length cap ∧ l.length ≤ cap
theorem GivI.rel {α : Type} {w : World} {v : Value} {f : α → List Value} {l : List α} {x : Imp} (g : GivI w v f l x) {r : Ren} {b : Nat} (hr : r b = some ⟨x.blk, x.off, none⟩) :
    ∃ a cap, VR r (.slice a l.length cap) v ∧ (∀ y, a = some ⟨y, 0, none⟩ → y = b) ∧ ∀ H : Hp, b < H.next → H.t.get b = some (.ro x.cs) → Sl H a l.length cap (l.flatMap f) := by
  rcases g.v with ⟨rfl | ⟨a', rfl⟩, rfl⟩ | ⟨cap, rfl, hl⟩
  · exact ⟨none, 0, .nilSlice, fun y e => by (cases e), fun H _ _ => .inl ⟨.inl rfl, rfl, rfl, rfl⟩⟩
  · exact ⟨some ⟨0, 0, some 0⟩, 0, .weird, fun y e => by (cases e), fun H _ _ => .inl ⟨.inr rfl, rfl, rfl, rfl⟩⟩
  · refine ⟨some ⟨b, 0, none⟩, cap, ?_, fun y e => by (cases e; rfl), fun H hb hc => .inr ⟨b, rfl, ⟨hb, by unfold cellsOf; rw [hc, g.cs]⟩, hl⟩⟩
    have := VR.slice (o := 0) (n := l.length) (c := cap) hr rfl hl
    simpa using this
structure RV where
  rv : Value
  l : List Int
  x : Imp
def RV.f (r : RV) : List Value := [r.rv]
def RV.Q (w : World) (r : RV) : Prop := GivI w r.rv (fun n : Int => [iv n]) r.l r.x
end Go.Ax

/-! What is flat as arguments. -/
namespace Go.Ax
open Go Go.RowKit Go.Proofs Go.ChangeShapes Go.WideShapes Go.Deep

theorem imports_flat {P : Program} (pre : List Imp) {w : World} (h : ∀ x ∈ pre, ∀ (i : Nat) v, x.cs[i]? = some v → w.cell? ⟨x.blk, x.off + i, none⟩ = some v ∧ flat1 v = true) :
    ∃ (r : Ren) (H : Hp), Rel P r w.heap.size H w ∧ (∀ b loc, r b = some loc → b < H.next) ∧ (∀ (b : Nat) x, pre[b]? = some x → b < H.next ∧ r b = some ⟨x.blk, x.off, none⟩ ∧ H.t.get b = some (.ro x.cs)) := by
  obtain ⟨r, H, h1, h2, h3, h4, h5⟩ := imports3 (P := P) pre [] w h (fun x hx => by simp at hx)
  refine ⟨r, H, h1, h3, fun b x hx => ?_⟩
  have := get_lt hx
  obtain ⟨a, c⟩ := h5 b x (by simpa using hx)
  exact ⟨by rw [h2]; simpa using this, a, c⟩
end Go.Ax


import Derived.Test.YtabiecloimmjdaaMe
import Derived.Test.YtabiecloimmjdaaRows
import Derived.Test.YtabiecloimmjdaaChecked
import Derived.Deep.Slices
import Derived.Deep.Fields
import Derived.ChangeSame
set_option linter.all false
/-
  Pool: lists of payments compared (22), found (25); many (10); the examples (27, 11) (written by program).
-/
namespace Go.Ax
open Go Go.RowKit Go.Proofs

noncomputable section
def manyB (n m : Nat) : Bool := decide ((n : Int) > 12) || decide ((m : Int) > 132)
def us0 : List Pr := [⟨30000, 500⟩, ⟨90000, 0⟩]
def ds0 : List Dl := [⟨3, 1000000, 50000000⟩, ⟨8, 500000, 75000000⟩, ⟨3, 200000, 4000000⟩]
theorem res_cv {P : Program} {S : Rg} {H : Hp} {a b x n : Nat} {t : TypeId} {cs : List Value} {v : Value} (ha : lk S a = some (.pointer (some ⟨x, 0, none⟩))) (hb : lk S b = some v) (h1 : isAggB P t = some true) (hi : ∃ i, P.info? t = some i ∧ i.size = n) (hl : cs.length = n) (h : Cl H x cs) : resS P S H [.cell a t, .tmp b] = some [.agg cs.toArray, v] := by
  simp only [resS, ha, hb, load_agg h1 hi h.rd hl]
section
variable {kn : Kn} {lo : Nat} {H : Hp}
theorem many_ok {sa la : Option Addr} {n cap m capl : Nat} {adv : Int} : ∃ H', FnX Try.prog kn lo 10 [.agg #[.slice sa n cap, iv adv], .slice la m capl] H (.bool (manyB n m)) H' ∧ Keep H H' [] := by
  have key := fnX_low (kn := kn) (lo := lo) (H := H) (args := [.agg #[.slice sa n cap, iv adv], .slice la m capl]) (Q := fun w H' => w = .bool (manyB n m) ∧ Keep H H' []) Try.func10 B10 N10 Z10 L10 (by simp) ?_
  · obtain ⟨w, H', h, rfl, q⟩ := key; exact ⟨H', h, q⟩
  have hk := Keep.refl H []
  refine wN_seq ?_
  refine wN_box (v := .agg #[.slice sa n cap, iv adv]) rfl ?_
  intro H1 kH1 nH1 c1
  have c1 : Cl H1 H.next [.slice sa n cap, iv adv] := c1
  have mH1 := kH1.1
  have hk := hk.trans kH1
  refine wN_mov (v := .bool false) rfl ?_
  refine wN_end ?_
  refine wN_seq ?_
  refine wN_addo (b := H.next) (o := 0) rfl ?_
  refine wN_ld (b := H.next) (o := 0) (v := .slice sa n cap) rfl c1.rd rfl ?_
  refine wN_len (m := n) rfl ?_
  refine wN_b_gtr (a := (n : Int)) (b := 12) rfl rfl ?_
  intro t1 g1; cases t1
  · have g1 : ¬ ((n : Int) > 12) := of_decide_eq_false g1
    refine wN_mov (v := .bool false) rfl ?_
    refine wN_g rfl (wN_mov (v := .slice la m capl) rfl ?_)
    refine wN_g rfl (wN_len (m := m) rfl ?_)
    refine wN_g rfl (wN_b_gtr (a := (m : Int)) (b := 132) rfl rfl ?_)
    intro t2 g2; cases t2
    · have g2 : ¬ ((m : Int) > 132) := of_decide_eq_false g2
      refine wN_pur (v := .bool false) rfl rfl ?_
      refine wN_mov (v := .bool false) rfl ?_
      refine wN_end ?_
      exact And.intro trivial (Exists.intro _ (And.intro rfl ⟨congrArg Value.bool (show false = manyB n m from by symm; unfold manyB; simp <;> omega), hk⟩))
    · have g2 : (m : Int) > 132 := of_decide_eq_true g2
      refine wN_pur (v := .bool true) rfl rfl ?_
      refine wN_mov (v := .bool true) rfl ?_
      refine wN_end ?_
      exact And.intro trivial (Exists.intro _ (And.intro rfl ⟨congrArg Value.bool (show true = manyB n m from by symm; unfold manyB; simp <;> omega), hk⟩))
  · have g1 : (n : Int) > 12 := of_decide_eq_true g1
    refine wN_mov (v := .bool true) rfl ?_
    refine wN_gs rfl ?_
    refine wN_gs rfl ?_
    refine wN_gs rfl ?_
    refine wN_pur (v := .bool true) rfl rfl ?_
    refine wN_mov (v := .bool true) rfl ?_
    refine wN_end ?_
    exact And.intro trivial (Exists.intro _ (And.intro rfl ⟨congrArg Value.bool (show true = manyB n m from by symm; unfold manyB; simp <;> omega), hk⟩))
set_option maxRecDepth 100000 in
theorem sample_ok (hlo : lo ≤ H.next) : ∃ sa cap la capl H', FnX Try.prog kn lo 27 [] H (.tuple #[.agg #[.slice sa 2 cap, iv 400], .slice la 3 capl]) H' ∧ Sl H' sa 2 cap (prc us0) ∧ Sl H' la 3 capl (dlc ds0) ∧ Keep H H' [] := by
  have key := fnX_low (kn := kn) (lo := lo) (H := H) (args := []) (Q := fun w H' => ∃ sa cap la capl, w = .tuple #[.agg #[.slice sa 2 cap, iv 400], .slice la 3 capl] ∧ Sl H' sa 2 cap (prc us0) ∧ Sl H' la 3 capl (dlc ds0) ∧ Keep H H' []) Try.func27 B27 N27 Z27 L27 (by simp) ?_
  · obtain ⟨w, H', h, sa, cap, la, capl, rfl, r⟩ := key; exact ⟨sa, cap, la, capl, H', h, r⟩
  have hk := Keep.refl H []
  refine wN_seq ?_
  refine wN_alc ?_
  intro H1 kH1 nH1 c1
  have c1 : Cl H1 H.next [.slice none 0 0, iv 0] := c1
  have mH1 := kH1.1
  have hk := hk.trans kH1
  refine wN_mov (v := .slice none 0 0) rfl ?_
  refine wN_end ?_
  refine wN_seq ?_
  refine wN_pur (v := .agg #[iv 30000, iv 500]) rfl (by kernel_rfl) ?_
  refine wN_pur (v := .agg #[iv 90000, iv 0]) rfl (by kernel_rfl) ?_
  obtain ⟨H2, hH2⟩ : ∃ H2, H1.new (.cells [iv 30000, iv 500, iv 90000, iv 0] 47 false) = H2 := ⟨_, rfl⟩
  refine wN_memh (v := .slice (some ⟨H1.next, 0, none⟩) 2 2) (H' := H2) (k := .heavy) rfl (by kernel_rfl) (Eq.trans (by kernel_rfl : _ = some (Rs.val (.slice (some ⟨H1.next, 0, none⟩) 2 2) (H1.new (.cells [iv 30000, iv 500, iv 90000, iv 0] 47 false)), Kd.heavy)) (by rw [hH2])) (fun b e => by cases e) ?_
  obtain ⟨kH2, nH2, cU⟩ := new_facts hH2; clear hH2
  have mH2 := kH2.1
  have hk := hk.trans kH2
  have c1 := kH2.cl c1 (by simp)
  refine wN_pur (v := .agg #[.slice (some ⟨H1.next, 0, none⟩) 2 2, iv 400]) rfl (by kernel_rfl) ?_
  refine wN_alc ?_
  intro H3 kH3 nH3 c3
  have c3 : Cl H3 H2.next [.slice none 0 0, iv 0] := c3
  have mH3 := kH3.1
  have hk := hk.trans kH3
  have c1 := kH3.cl c1 (by simp)
  have cU := kH3.cl cU (by simp)
  refine wN_sta (b := H2.next) (o := 0) rfl rfl c3 (by omega) rfl rfl (by simp) ?_
  intro H4 kH4 nH4 sH4
  have mH4 := kH4.1
  have hk := hk.new kH4 (fun b hb => by simp at hb ⊢; omega)
  have c1 := kH4.cl c1 (by first | (simp; done) | (simp; omega))
  have cU := kH4.cl cU (by first | (simp; done) | (simp; omega))
  have c3 : Cl H4 H2.next [.slice (some ⟨H1.next, 0, none⟩) 2 2, iv 400] := sH4
  refine wN_end ?_
  refine wN_seq ?_
  refine wN_lda (b := H2.next) (o := 0) rfl c3.rd (show row 2 _ _ = some [.slice (some ⟨H1.next, 0, none⟩) 2 2, iv 400] from rfl) ?_
  refine wN_pur (v := .agg #[iv 3, iv 1000000, iv 50000000]) rfl (by kernel_rfl) ?_
  refine wN_pur (v := .agg #[iv 8, iv 500000, iv 75000000]) rfl (by kernel_rfl) ?_
  refine wN_pur (v := .agg #[iv 3, iv 200000, iv 4000000]) rfl (by kernel_rfl) ?_
  obtain ⟨H5, hH5⟩ : ∃ H5, H4.new (.cells [iv 3, iv 1000000, iv 50000000, iv 8, iv 500000, iv 75000000, iv 3, iv 200000, iv 4000000] 26 false) = H5 := ⟨_, rfl⟩
  refine wN_memh (v := .slice (some ⟨H4.next, 0, none⟩) 3 3) (H' := H5) (k := .heavy) rfl (by kernel_rfl) (Eq.trans (by kernel_rfl : _ = some (Rs.val (.slice (some ⟨H4.next, 0, none⟩) 3 3) (H4.new (.cells [iv 3, iv 1000000, iv 50000000, iv 8, iv 500000, iv 75000000, iv 3, iv 200000, iv 4000000] 26 false)), Kd.heavy)) (by rw [hH5])) (fun b e => by cases e) ?_
  obtain ⟨kH5, nH5, cD⟩ := new_facts hH5; clear hH5
  have mH5 := kH5.1
  have hk := hk.trans kH5
  have c1 := kH5.cl c1 (by simp)
  have cU := kH5.cl cU (by simp)
  have c3 := kH5.cl c3 (by simp)
  refine wN_sta (b := H.next) (o := 0) rfl rfl c1 (by omega) rfl rfl (by simp) ?_
  intro H6 kH6 nH6 sH6
  have mH6 := kH6.1
  have hk := hk.new kH6 (fun b hb => by simp at hb ⊢; omega)
  have cU := kH6.cl cU (by first | (simp; done) | (simp; omega))
  have c3 := kH6.cl c3 (by first | (simp; done) | (simp; omega))
  have cD := kH6.cl cD (by first | (simp; done) | (simp; omega))
  have c1 : Cl H6 H.next [.slice (some ⟨H1.next, 0, none⟩) 2 2, iv 400] := sH6
  refine wN_mov (v := .slice (some ⟨H4.next, 0, none⟩) 3 3) rfl ?_
  refine wN_end ?_
  exact And.intro trivial (Exists.intro _ (And.intro (res_cv rfl rfl a24 i24s rfl c1) ⟨_, 2, _, 3, rfl, .inr ⟨_, rfl, cU.rd, Nat.le_refl _⟩, .inr ⟨_, rfl, cD.rd, Nat.le_refl _⟩, hk⟩))
end
end
end Go.Ax

/-
  Pool: the examples of the document hold (11) (written by program).
-/
namespace Go.Ax
open Go Go.RowKit Go.Proofs

noncomputable section
theorem aw1 : wtV us0 400 (ds0.getD 1 Dl.z) = 45000 ∧ wtI us0 400 (ds0.getD 1 Dl.z) = 1 ∧ wtE us0 400 (ds0.getD 1 Dl.z) = 0 := ⟨by kernel_rfl, by kernel_rfl, by kernel_rfl⟩
theorem aw2 : avV us0 400 ds0 = 43200 ∧ avE us0 400 ds0 = 0 := ⟨by kernel_rfl, by kernel_rfl⟩
theorem aw3 : stK us0 400 ds0 100000 = 1 ∧ stE us0 400 ds0 100000 = 0 ∧ stL us0 400 ds0 100000 = [3, 8] := ⟨by kernel_rfl, by kernel_rfl, by kernel_rfl⟩
theorem aw3r : row 5 (plc us0 400 ds0 100000 [3, 8]) (0 + 0 * 5) = some [iv 3, iv 63000, iv 25200, iv 58333, iv 33133] := by kernel_rfl
theorem ds0_ok : ds0.any badD = false := by kernel_rfl
theorem aw4 : BkS us0 400 ds0 8 50000 120000 0 := by
  unfold BkS
  rw [if_pos (by kernel_rfl), if_pos (show (8 : Int) ∈ grl ds0 from (grl_mem ds0_ok).2 ⟨1, by decide, rfl⟩), if_pos (by kernel_rfl)]
  exact ⟨120000, ⟨by unfold NB; omega, .inr (by kernel_rfl), .inr (by kernel_rfl)⟩, by kernel_rfl⟩
theorem aw5 : RdS us0 400 (ds0.getD 0 Dl.z) 60000 60000000 0 := by
  unfold RdS
  rw [if_pos (by kernel_rfl), if_pos (by kernel_rfl)]
  have e : ((ds0.getD 0 Dl.z).g * 255 + 1).toNat = 255000001 := by kernel_rfl
  exact ⟨60000000, ⟨by rw [e]; omega, .inr (by kernel_rfl), .inr (by kernel_rfl)⟩, by kernel_rfl⟩
abbrev kn0 : Kn := ⟨fun _ => none, fun _ _ _ _ => none⟩
section
variable {lo : Nat} {H : Hp}
set_option maxRecDepth 100000 in
set_option maxHeartbeats 2000000 in
/-- The examples of the document hold, whatever is drawn. -/
theorem awake_C (s : Snd Try.prog kn0) (hlo : lo ≤ H.next) : FnC Try.prog lo 11 [] H fun v _ => v = .bool true := by
  refine fnC_low s Try.func11 B11 N11 Z11 L11 (by simp) ?_
  have hk := Keep.refl H []
  refine wM_seq ?_
  refine wM_mov (v := .bool false) rfl ?_
  refine wM_end ?_
  refine wM_seq ?_
  obtain ⟨sa, cap, la, capl, H1, fH1, hs, hd, kH1⟩ := sample_ok (kn := kn0) (lo := lo) (H := H) (by omega)
  refine wM_callf s (vs := []) rfl (callX_func rfl (by simpa using fH1)) ?_
  have mH1 := kH1.1
  have hk := hk.trans kH1
  rcases id hd with ⟨_, h03, _⟩ | ⟨tb, et, rt, _⟩
  · omega
  have fs := hs.old; have fd := hd.old; have lt := rt.1
  refine wM_mov (v := .tuple #[.agg #[.slice sa 2 cap, iv 400], .slice la 3 capl]) rfl ?_
  refine wM_pur (v := .agg #[.slice sa 2 cap, iv 400]) rfl (by kernel_rfl) ?_
  refine wM_pur (v := .slice la 3 capl) rfl (by kernel_rfl) ?_
  refine wM_alc ?_
  intro H2 kH2 nH2 c2
  have c2 : Cl H2 H1.next [.slice none 0 0, iv 0] := c2
  have mH2 := kH2.1
  have hk := hk.trans kH2
  have hs := kH2.sl0 hs
  have hd := kH2.sl0 hd
  have rt := kH2.rd rt (by simp)
  refine wM_sta (b := H1.next) (o := 0) rfl rfl c2 (by omega) rfl rfl (by simp) ?_
  intro H3 kH3 nH3 sH3
  have mH3 := kH3.1
  have hk := hk.new kH3 (fun b hb => by simp at hb ⊢; omega)
  have hs := kH3.sl hs (fun b e => by have := fs b e; first | (simp; done) | (simp; omega))
  have hd := kH3.sl hd (fun b e => by have := fd b e; first | (simp; done) | (simp; omega))
  have rt := kH3.rd rt (by first | (simp; done) | (simp; omega))
  have c2 : Cl H3 H1.next [.slice sa 2 cap, iv 400] := sH3
  refine wM_mov (v := .slice la 3 capl) rfl ?_
  refine wM_end ?_
  refine wM_dseq ?_
  refine wD_lda (b := H1.next) (o := 0) rfl c2.rd (show row 2 _ _ = some [.slice sa 2 cap, iv 400] from rfl) ?_
  refine wD_mov (v := .slice la 3 capl) rfl ?_
  refine wD_idx (b := tb) (o := 0) (k := 1) (j := 1) (by rw [← et]; rfl) rfl rfl (by omega) ?_
  refine wD_lda (b := tb) (o := 0 + 1 * 3) rfl rt (dlc_rowF (ds := ds0) (i := 1) (by decide)) ?_
  obtain ⟨H4, fH4, kH4⟩ := Worth_ok (kn := kn0) (lo := lo) (H := H3) (adv := 400) hs rfl (by omega) (by omega) (d := ds0.getD 1 Dl.z)
  rw [aw1.1, aw1.2.1, aw1.2.2] at fH4
  refine wD_callf (vs := [.agg #[.slice sa 2 cap, iv 400], .agg (Dl.f (ds0.getD 1 Dl.z)).toArray]) rfl (callX_args fH4) ?_
  have mH4 := kH4.1
  have hk := hk.trans kH4
  have hs := kH4.sl0 hs
  have hd := kH4.sl0 hd
  have rt := kH4.rd rt (by simp)
  have c2 := kH4.cl c2 (by simp)
  refine wD_mov (v := .tuple #[iv 45000, iv 1, iv 0]) rfl ?_
  refine wD_pur (v := iv 45000) rfl (by kernel_rfl) ?_
  refine wD_pur (v := iv 1) rfl (by kernel_rfl) ?_
  refine wD_pur (v := iv 0) rfl (by kernel_rfl) ?_
  refine wD_mov (v := iv 45000) rfl ?_
  refine wD_mov (v := iv 1) rfl ?_
  refine wD_mov (v := iv 0) rfl ?_
  refine wD_end (by repeat' first | exact True.intro | exact (fun h => h) | refine And.intro ?_ ?_ | (intro h; have h : (_ : Nat) = _ := h; omega)) ?_
  refine wM_seq ?_
  refine wM_lda (b := H1.next) (o := 0) rfl c2.rd (show row 2 _ _ = some [.slice sa 2 cap, iv 400] from rfl) ?_
  refine wM_mov (v := .slice la 3 capl) rfl ?_
  refine wM_call (t := .fn (.func 16) #[]) rfl (callM_args s.hN (Advances_ok (H := H4) s (adv := 400) hs rfl (by omega) hd rfl (by omega) (by omega))) ?_
  rintro _ H5 ⟨rfl, kH5⟩
  rw [aw2.1, aw2.2]
  have mH5 := kH5.1
  have hk := hk.trans kH5
  have hs := kH5.sl0 hs
  have hd := kH5.sl0 hd
  have rt := kH5.rd rt (by simp)
  have c2 := kH5.cl c2 (by simp)
  refine wM_mov (v := .tuple #[iv 43200, iv 0]) rfl ?_
  refine wM_pur (v := iv 43200) rfl (by kernel_rfl) ?_
  refine wM_pur (v := iv 0) rfl (by kernel_rfl) ?_
  refine wM_mov (v := iv 43200) rfl ?_
  refine wM_mov (v := iv 0) rfl ?_
  refine wM_end ?_
  refine wM_seq ?_
  refine wM_lda (b := H1.next) (o := 0) rfl c2.rd (show row 2 _ _ = some [.slice sa 2 cap, iv 400] from rfl) ?_
  refine wM_mov (v := .slice la 3 capl) rfl ?_
  refine wM_call (t := .fn (.func 18) #[]) rfl (callM_args s.hN (Settle_ok (H := H5) s (adv := 400) hs rfl (by omega) hd rfl (by omega) (by omega) (rev := 100000))) ?_
  rintro _ H6 ⟨pv, rfl, hpa, kH6⟩
  rw [aw3.2.2] at hpa
  rw [aw3.1, aw3.2.1]
  have mH6 := kH6.1
  have hk := hk.trans kH6
  have hs := kH6.sl0 hs
  have hd := kH6.sl0 hd
  have rt := kH6.rd rt (by simp)
  have c2 := kH6.cl c2 (by simp)
  obtain ⟨pa, pcap, rfl, hpy, _⟩ := hpa.sl
  rcases id hpy with ⟨_, h02, _⟩ | ⟨pb, ep, rp, _⟩
  · exact absurd h02 (by decide)
  have lp := rp.1
  refine wM_mov (v := .tuple #[.slice pa 2 pcap, iv 1, iv 0]) rfl ?_
  refine wM_pur (v := .slice pa 2 pcap) rfl (by kernel_rfl) ?_
  refine wM_pur (v := iv 1) rfl (by kernel_rfl) ?_
  refine wM_pur (v := iv 0) rfl (by kernel_rfl) ?_
  refine wM_mov (v := .slice pa 2 pcap) rfl ?_
  refine wM_mov (v := iv 1) rfl ?_
  refine wM_mov (v := iv 0) rfl ?_
  refine wM_end ?_
  refine wM_seq ?_
  refine wM_lda (b := H1.next) (o := 0) rfl c2.rd (show row 2 _ _ = some [.slice sa 2 cap, iv 400] from rfl) ?_
  refine wM_mov (v := .slice la 3 capl) rfl ?_
  refine wM_call (t := .fn (.func 20) #[]) rfl (callM_args s.hN (Break_ok (H := H6) s (adv := 400) hs rfl (by omega) hd rfl (by omega) (by omega) (gr := 8) (wanted := 50000))) ?_
  rintro _ H7 ⟨xb, eb, rfl, hb, kH7⟩
  obtain ⟨rfl, rfl⟩ := hb.uniq aw4
  have mH7 := kH7.1
  have hk := hk.trans kH7
  have hs := kH7.sl0 hs
  have hd := kH7.sl0 hd
  have rt := kH7.rd rt (by simp)
  have c2 := kH7.cl c2 (by simp)
  have rp := kH7.rd rp (by simp)
  refine wM_mov (v := .tuple #[iv 120000, iv 0]) rfl ?_
  refine wM_pur (v := iv 120000) rfl (by kernel_rfl) ?_
  refine wM_pur (v := iv 0) rfl (by kernel_rfl) ?_
  refine wM_mov (v := iv 120000) rfl ?_
  refine wM_mov (v := iv 0) rfl ?_
  refine wM_end ?_
  refine wM_dseq ?_
  refine wD_lda (b := H1.next) (o := 0) rfl c2.rd (show row 2 _ _ = some [.slice sa 2 cap, iv 400] from rfl) ?_
  refine wD_mov (v := .slice la 3 capl) rfl ?_
  refine wD_idx (b := tb) (o := 0) (k := 0) (j := 0) (by rw [← et]; rfl) rfl rfl (by omega) ?_
  refine wD_lda (b := tb) (o := 0 + 0 * 3) rfl rt (dlc_rowF (ds := ds0) (i := 0) (by decide)) ?_
  obtain ⟨xr, er, H8, fH8, hr, kH8⟩ := Redder_ok (kn := kn0) (lo := lo) (H := H7) (adv := 400) hs rfl (by omega) (by omega) (d := ds0.getD 0 Dl.z) (wanted := 60000)
  obtain ⟨rfl, rfl⟩ := hr.uniq aw5
  refine wD_callf (vs := [.agg #[.slice sa 2 cap, iv 400], .agg (Dl.f (ds0.getD 0 Dl.z)).toArray, iv 60000]) rfl (callX_args fH8) ?_
  have mH8 := kH8.1
  have hk := hk.trans kH8
  have hs := kH8.sl0 hs
  have hd := kH8.sl0 hd
  have rt := kH8.rd rt (by simp)
  have c2 := kH8.cl c2 (by simp)
  have rp := kH8.rd rp (by simp)
  refine wD_mov (v := .tuple #[iv 60000000, iv 0]) rfl ?_
  refine wD_pur (v := iv 60000000) rfl (by kernel_rfl) ?_
  refine wD_pur (v := iv 0) rfl (by kernel_rfl) ?_
  refine wD_mov (v := iv 60000000) rfl ?_
  refine wD_mov (v := iv 0) rfl ?_
  refine wD_end (by repeat' first | exact True.intro | exact (fun h => h) | refine And.intro ?_ ?_ | (intro h; have h : (_ : Nat) = _ := h; omega)) ?_
  refine wM_seq ?_
  refine wM_mov (v := iv 45000) rfl ?_
  refine wM_b_neq (a := 45000) (b := 45000) rfl rfl ?_
  intro t1 g1; obtain rfl : t1 = false := by rw [← g1]; rfl
  refine wM_mov (v := .bool false) rfl ?_
  refine wM_g rfl (wM_mov (v := iv 1) rfl ?_)
  refine wM_g rfl (wM_b_neq (a := 1) (b := 1) rfl rfl ?_)
  intro t2 g2; obtain rfl : t2 = false := by rw [← g2]; rfl
  refine wM_pur (v := .bool false) rfl rfl ?_
  refine wM_mov (v := .bool false) rfl ?_
  refine wM_g rfl (wM_mov (v := iv 0) rfl ?_)
  refine wM_g rfl (wM_b_neq (a := 0) (b := 0) rfl rfl ?_)
  intro t3 g3; obtain rfl : t3 = false := by rw [← g3]; rfl
  refine wM_pur (v := .bool false) rfl rfl ?_
  refine wM_mov (v := .bool false) rfl ?_
  refine wM_g rfl (wM_mov (v := iv 43200) rfl ?_)
  refine wM_g rfl (wM_b_neq (a := 43200) (b := 43200) rfl rfl ?_)
  intro t4 g4; obtain rfl : t4 = false := by rw [← g4]; rfl
  refine wM_pur (v := .bool false) rfl rfl ?_
  refine wM_mov (v := .bool false) rfl ?_
  refine wM_g rfl (wM_mov (v := iv 0) rfl ?_)
  refine wM_g rfl (wM_b_neq (a := 0) (b := 0) rfl rfl ?_)
  intro t5 g5; obtain rfl : t5 = false := by rw [← g5]; rfl
  refine wM_pur (v := .bool false) rfl rfl ?_
  refine wM_mov (v := .bool false) rfl ?_
  refine wM_g rfl (wM_mov (v := .slice pa 2 pcap) rfl ?_)
  refine wM_g rfl (wM_len (m := 2) rfl ?_)
  refine wM_g rfl (wM_b_neq (a := 2) (b := 2) rfl rfl ?_)
  intro t6 g6; obtain rfl : t6 = false := by rw [← g6]; rfl
  refine wM_pur (v := .bool false) rfl rfl ?_
  refine wM_mov (v := .bool false) rfl ?_
  refine wM_g rfl (wM_mov (v := .slice pa 2 pcap) rfl ?_)
  refine wM_g rfl (wM_idx (b := pb) (o := 0) (k := 0) (j := 0) (by rw [← ep]; rfl) rfl rfl (by omega) ?_)
  refine wM_g rfl (wM_lda (b := pb) (o := 0 + 0 * 5) rfl rp aw3r ?_)
  refine wM_g rfl (wM_pur (v := .agg #[iv 3, iv 63000, iv 25200, iv 58333, iv 33133]) rfl (by kernel_rfl) ?_)
  refine wM_g rfl (wM_pur (v := .bool false) rfl (neq50 (a := 3) (b := 63000) (c := 25200) (e := 58333) (f := 33133) rfl rfl) ?_)
  refine wM_pur (v := .bool false) rfl rfl ?_
  refine wM_mov (v := .bool false) rfl ?_
  refine wM_g rfl (wM_mov (v := iv 1) rfl ?_)
  refine wM_g rfl (wM_b_neq (a := 1) (b := 1) rfl rfl ?_)
  intro t7 g7; obtain rfl : t7 = false := by rw [← g7]; rfl
  refine wM_pur (v := .bool false) rfl rfl ?_
  refine wM_mov (v := .bool false) rfl ?_
  refine wM_g rfl (wM_mov (v := iv 0) rfl ?_)
  refine wM_g rfl (wM_b_neq (a := 0) (b := 0) rfl rfl ?_)
  intro t8 g8; obtain rfl : t8 = false := by rw [← g8]; rfl
  refine wM_pur (v := .bool false) rfl rfl ?_
  refine wM_end ?_
  refine condF ?_
  first | refine wM_skip ?_ | skip
  refine wM_seq ?_
  refine wM_mov (v := iv 120000) rfl ?_
  refine wM_b_eql (a := 120000) (b := 120000) rfl rfl ?_
  intro t9 g9; obtain rfl : t9 = true := by rw [← g9]; rfl
  refine wM_mov (v := .bool true) rfl ?_
  refine wM_g rfl (wM_mov (v := iv 0) rfl ?_)
  refine wM_g rfl (wM_b_eql (a := 0) (b := 0) rfl rfl ?_)
  intro t10 g10; obtain rfl : t10 = true := by rw [← g10]; rfl
  refine wM_pur (v := .bool true) rfl rfl ?_
  refine wM_mov (v := .bool true) rfl ?_
  refine wM_g rfl (wM_mov (v := iv 60000000) rfl ?_)
  refine wM_g rfl (wM_b_eql (a := 60000000) (b := 60000000) rfl rfl ?_)
  intro t11 g11; obtain rfl : t11 = true := by rw [← g11]; rfl
  refine wM_pur (v := .bool true) rfl rfl ?_
  refine wM_mov (v := .bool true) rfl ?_
  refine wM_g rfl (wM_mov (v := iv 0) rfl ?_)
  refine wM_g rfl (wM_b_eql (a := 0) (b := 0) rfl rfl ?_)
  intro t12 g12; obtain rfl : t12 = true := by rw [← g12]; rfl
  refine wM_pur (v := .bool true) rfl rfl ?_
  refine wM_mov (v := .bool true) rfl ?_
  refine wM_end ?_
  exact And.intro trivial (Exists.intro _ (And.intro rfl rfl))
end
end
end Go.Ax

/-
  Proved here: 'awake', the closed part that every law of pool ends in, returns true in every world, whatever is drawn, and leaves what lay below as it was. Conditions: none.
  It has no arguments; it is worked out by the contracts of the functions that it calls (Q16).
-/
namespace Go.Ax
open Go Go.RowKit
theorem known_one {P : Program} {g : FuncId} {t : Bool} (hb : ((P.funcs[g]?).bind (fun fn => fn.body)).isSome = true) (hc : ∀ w, Calls P g #[] w fun e w' => e = .returned (.bool t) ∧ Below w.heap.size w w') :
    Known P ⟨fun f => bif Nat.beq f g then some t else none, fun _ _ _ _ => none⟩ := by
  refine ⟨?_, fun f lo args H v H' _ h => by cases h⟩
  intro f b h
  obtain ⟨hf, h1⟩ := bif_some h
  clear h
  have hf := Nat.eq_of_beq_eq_true hf
  subst hf
  cases h1
  refine ⟨?_, hc⟩
  cases hx : P.funcs[f]? with
  | none => rw [hx] at hb; cases hb
  | some fn =>
    rw [hx] at hb
    cases hy : fn.body with
    | none => rw [Option.bind_some, hy] at hb; cases hb
    | some c => exact ⟨fn, c, rfl, hy⟩
theorem known_nothing {P : Program} : Known P ⟨fun _ => none, fun _ _ _ _ => none⟩ := ⟨KnownB.nothing P, fun f lo args H v H' _ h => by cases h⟩
end Go.Ax
namespace Go.Proofs.Ytabiecloimmjdaa.alive
open Go.RowKit
theorem mixed : Try.prog.follows .mixedOrders = true := by kernel_rfl
theorem plainNames : (Try.prog.funcs.toList.all fun fn => !(fn.name == "runtime.NumGoroutine")) = true := by kernel_rfl
theorem noCount : Go.Ax.NoCount Try.prog := fun f fn h => by
  have h2 := List.all_eq_true.1 plainNames fn (by
    have := Array.mem_of_getElem? h
    simpa using this)
  simpa using h2
theorem call (w : World) : Calls Try.prog 11 #[] w fun e w' => e = .returned (.bool true) ∧ Below w.heap.size w w' :=
  Go.Ax.closed_callC (Go.Ax.awake_C ⟨mixed, noCount, Go.Ax.known_nothing⟩ (Nat.zero_le _)) w
theorem known : Go.Ax.Known Try.prog ⟨fun f => bif Nat.beq f 11 then some true else none, fun _ _ _ _ => none⟩ := Go.Ax.known_one (by kernel_rfl) call
end Go.Proofs.Ytabiecloimmjdaa.alive

/-
  Pool: the law PoolRed, whatever the input (written by program).
-/
namespace Go.Ax
open Go Go.RowKit Go.Proofs

theorem bad_of {r g c : Int} (h1 : 0 ≤ r) (h2 : r ≤ 1023) (h3 : 0 ≤ g) (h4 : g ≤ 134217728) (h5 : 0 ≤ c) (h6 : c ≤ g * 255) : badD ⟨r, g, c⟩ = false := by
  simp [badD, inB, h1, h2, h3, h4, h5, h6]
theorem wt_of {us : List Pr} {adv r g c : Int} (hv : vT us adv = true) (hb : badD ⟨r, g, c⟩ = false) : wtV us adv ⟨r, g, c⟩ = wW us ⟨0, g, c⟩ ∧ wtE us adv ⟨r, g, c⟩ = 0 := by
  unfold wtV wtE; rw [hv, hb]; exact ⟨wW_r, rfl⟩
theorem red_cases {us : List Pr} {adv : Int} {d : Dl} {wanted x e : Int} (h : RdS us adv d wanted x e) : (x = 0 ∧ e = 1) ∨ (x = 0 ∧ e = 2) ∨ (x = 0 ∧ e = 10 ∧ vT us adv = true ∧ badD d = false ∧ wW us ⟨0, d.g, d.g * 255⟩ < wanted) ∨
    (e = 0 ∧ vT us adv = true ∧ badD d = false ∧ 0 ≤ x ∧ x ≤ d.g * 255 ∧ wanted ≤ wW us ⟨0, d.g, x⟩ ∧ (x ≠ 0 → wW us ⟨0, d.g, x - 1⟩ < wanted)) := by
  unfold RdS at h
  split at h
  · rename_i q
    simp only [Bool.and_eq_true, Bool.not_eq_true'] at q
    have w := badD_t q.2
    split at h
    · obtain ⟨m, ⟨h1, h3, h2⟩, h4⟩ := h
      unfold pick2 at h4
      have e1 : (((d.g * 255 + 1).toNat : Nat) : Int) = d.g * 255 + 1 := by omega
      split at h4
      · rename_i hm
        obtain ⟨rfl, rfl⟩ := Prod.mk.inj h4
        rcases h3 with h3 | h3
        · omega
        · simp only [rdP, decide_eq_false_iff_not] at h3
          have e2 : ((m - 1 : Nat) : Int) = d.g * 255 := by omega
          rw [e2] at h3
          exact .inr (.inr (.inl ⟨rfl, rfl, q.1, q.2, by omega⟩))
      · rename_i hm
        obtain ⟨rfl, rfl⟩ := Prod.mk.inj h4
        refine .inr (.inr (.inr ⟨rfl, q.1, q.2, by omega, by omega, ?_, fun hx => ?_⟩))
        · rcases h2 with h2 | h2
          · exact absurd h2 hm
          · simpa [rdP] using h2
        · rcases h3 with h3 | h3
          · omega
          · simp only [rdP, decide_eq_false_iff_not] at h3
            have e2 : ((m - 1 : Nat) : Int) = (m : Int) - 1 := by omega
            rw [e2] at h3
            omega
    · obtain ⟨rfl, rfl⟩ := Prod.mk.inj h; exact .inr (.inl ⟨rfl, rfl⟩)
  · obtain ⟨rfl, rfl⟩ := Prod.mk.inj h; exact .inl ⟨rfl, rfl⟩
noncomputable section
section
variable {kn : Kn} {lo : Nat} {H : Hp}
set_option maxRecDepth 100000 in
set_option maxHeartbeats 4000000 in
/-- PoolRed -/
theorem law_red (hkn : kn.b 11 = some true) {us : List Pr} {sa : Option Addr} {n cap : Nat} {adv : Int} (hs : Sl H sa n cap (prc us)) (hl : us.length = n) {d : Dl} {wanted : Int} (hlo : lo ≤ H.next) : ∃ H', FnX Try.prog kn lo 9 [.agg #[.slice sa n cap, iv adv], .agg (Dl.f d).toArray, iv wanted] H (.bool true) H' := by
  have key := fnX_low (kn := kn) (lo := lo) (H := H) (args := [.agg #[.slice sa n cap, iv adv], .agg (Dl.f d).toArray, iv wanted]) (Q := fun w H' => w = .bool true) Try.func9 B9 N9 Z9 L9 (by simp) ?_
  · obtain ⟨w, H', h, rfl⟩ := key; exact ⟨H', h⟩
  have hk := Keep.refl H []
  have fs := hs.old
  refine wN_seq ?_
  refine wN_box (v := .agg #[.slice sa n cap, iv adv]) rfl ?_
  intro H1 kH1 nH1 c1
  have c1 : Cl H1 H.next [.slice sa n cap, iv adv] := c1
  have mH1 := kH1.1
  have hk := hk.trans kH1
  have hs := kH1.sl0 hs
  refine wN_box (v := .agg (Dl.f d).toArray) rfl ?_
  intro H2 kH2 nH2 c2
  have c2 : Cl H2 H1.next [iv d.r, iv d.g, iv d.c] := c2
  have mH2 := kH2.1
  have hk := hk.trans kH2
  have hs := kH2.sl0 hs
  have c1 := kH2.cl c1 (by simp)
  refine wN_mov (v := .bool false) rfl ?_
  refine wN_end ?_
  refine wN_seq ?_
  refine wN_lda (b := H.next) (o := 0) rfl c1.rd (show row 2 _ _ = some [.slice sa n cap, iv adv] from rfl) ?_
  refine wN_callB rfl (many_ok (sa := sa) (n := n) (cap := cap) (adv := adv) (la := none) (m := 0) (capl := 0)) ?_
  intro tH3 H3 hH3 kH3
  have mH3 := kH3.1
  have hk := hk.trans kH3
  have hs := kH3.sl0 hs
  have c1 := kH3.cl c1 (by simp)
  have c2 := kH3.cl c2 (by simp)
  cases tH3
  · have hmany : n ≤ 12 ∧ 0 ≤ 132 := by have q : manyB n 0 = false := hH3; unfold manyB at q; simp at q; omega
    have hn : n ≤ 1000000 := by omega
    refine wN_end ?_
    refine condF ?_
    first | refine wN_skip ?_ | skip
    refine wN_seq ?_
    refine wN_lda (b := H.next) (o := 0) rfl c1.rd (show row 2 _ _ = some [.slice sa n cap, iv adv] from rfl) ?_
    refine wN_lda (b := H1.next) (o := 0) rfl c2.rd (show row 3 _ _ = some [iv d.r, iv d.g, iv d.c] from rfl) ?_
    refine wN_mov (v := iv wanted) rfl ?_
    obtain ⟨x1, e1, H4, fH4, h1, kH4⟩ := Redder_ok (kn := kn) (lo := lo) (H := H3) (adv := adv) hs hl hn (by omega) (d := d) (wanted := wanted)
    rcases red_cases h1 with ⟨rfl, rfl⟩ | ⟨rfl, rfl⟩ | ⟨rfl, rfl, hv, hb, hw⟩ | ⟨rfl, hv, hb, hx0, hx1, hw, hw2⟩
    · refine wN_callf (vs := [.agg #[.slice sa n cap, iv adv], .agg (Dl.f d).toArray, iv wanted]) rfl (callX_args fH4) ?_
      have mH4 := kH4.1
      have hk := hk.trans kH4
      have hs := kH4.sl0 hs
      have c1 := kH4.cl c1 (by simp)
      have c2 := kH4.cl c2 (by simp)
      refine wN_mov (v := .tuple #[iv 0, iv 1]) rfl ?_
      refine wN_pur (v := iv 0) rfl (by kernel_rfl) ?_
      refine wN_pur (v := iv 1) rfl (by kernel_rfl) ?_
      refine wN_mov (v := iv 0) rfl ?_
      refine wN_mov (v := iv 1) rfl ?_
      refine wN_end ?_
      refine wN_seq ?_
      refine wN_mov (v := iv 1) rfl ?_
      refine wN_b_eql (a := 1) (b := 1) rfl rfl ?_
      intro t1 g1; obtain rfl : t1 = true := by rw [← g1]; rfl
      refine wN_mov (v := .bool true) rfl ?_
      refine wN_gs rfl ?_
      refine wN_gs rfl ?_
      refine wN_pur (v := .bool true) rfl rfl ?_
      refine wN_end ?_
      refine condT ?_
      refine wN_seq ?_
      refine wN_mov (v := iv 0) rfl ?_
      refine wN_b_eql (a := 0) (b := 0) rfl rfl ?_
      intro t2 g2; obtain rfl : t2 = true := by rw [← g2]; rfl
      refine wN_mov (v := .bool true) rfl ?_
      refine wN_g rfl (wN_callf (vs := []) rfl (callX_known hkn) ?_)
      refine wN_pur (v := .bool true) rfl rfl ?_
      refine wN_mov (v := .bool true) rfl ?_
      refine wN_end ?_
      exact And.intro trivial (Exists.intro _ (And.intro rfl rfl))
    · refine wN_callf (vs := [.agg #[.slice sa n cap, iv adv], .agg (Dl.f d).toArray, iv wanted]) rfl (callX_args fH4) ?_
      have mH4 := kH4.1
      have hk := hk.trans kH4
      have hs := kH4.sl0 hs
      have c1 := kH4.cl c1 (by simp)
      have c2 := kH4.cl c2 (by simp)
      refine wN_mov (v := .tuple #[iv 0, iv 2]) rfl ?_
      refine wN_pur (v := iv 0) rfl (by kernel_rfl) ?_
      refine wN_pur (v := iv 2) rfl (by kernel_rfl) ?_
      refine wN_mov (v := iv 0) rfl ?_
      refine wN_mov (v := iv 2) rfl ?_
      refine wN_end ?_
      refine wN_seq ?_
      refine wN_mov (v := iv 2) rfl ?_
      refine wN_b_eql (a := 2) (b := 1) rfl rfl ?_
      intro t3 g3; obtain rfl : t3 = false := by rw [← g3]; rfl
      refine wN_mov (v := .bool false) rfl ?_
      refine wN_g rfl (wN_mov (v := iv 2) rfl ?_)
      refine wN_g rfl (wN_b_eql (a := 2) (b := 2) rfl rfl ?_)
      intro t4 g4; obtain rfl : t4 = true := by rw [← g4]; rfl
      refine wN_pur (v := .bool true) rfl rfl ?_
      refine wN_end ?_
      refine condT ?_
      refine wN_seq ?_
      refine wN_mov (v := iv 0) rfl ?_
      refine wN_b_eql (a := 0) (b := 0) rfl rfl ?_
      intro t5 g5; obtain rfl : t5 = true := by rw [← g5]; rfl
      refine wN_mov (v := .bool true) rfl ?_
      refine wN_g rfl (wN_callf (vs := []) rfl (callX_known hkn) ?_)
      refine wN_pur (v := .bool true) rfl rfl ?_
      refine wN_mov (v := .bool true) rfl ?_
      refine wN_end ?_
      exact And.intro trivial (Exists.intro _ (And.intro rfl rfl))
    · refine wN_callf (vs := [.agg #[.slice sa n cap, iv adv], .agg (Dl.f d).toArray, iv wanted]) rfl (callX_args fH4) ?_
      have mH4 := kH4.1
      have hk := hk.trans kH4
      have hs := kH4.sl0 hs
      have c1 := kH4.cl c1 (by simp)
      have c2 := kH4.cl c2 (by simp)
      have hbd := badD_t hb
      refine wN_mov (v := .tuple #[iv 0, iv 10]) rfl ?_
      refine wN_pur (v := iv 0) rfl (by kernel_rfl) ?_
      refine wN_pur (v := iv 10) rfl (by kernel_rfl) ?_
      refine wN_mov (v := iv 0) rfl ?_
      refine wN_mov (v := iv 10) rfl ?_
      refine wN_end ?_
      refine wN_seq ?_
      refine wN_mov (v := iv 10) rfl ?_
      refine wN_b_eql (a := 10) (b := 1) rfl rfl ?_
      intro t6 g6; obtain rfl : t6 = false := by rw [← g6]; rfl
      refine wN_mov (v := .bool false) rfl ?_
      refine wN_g rfl (wN_mov (v := iv 10) rfl ?_)
      refine wN_g rfl (wN_b_eql (a := 10) (b := 2) rfl rfl ?_)
      intro t7 g7; obtain rfl : t7 = false := by rw [← g7]; rfl
      refine wN_pur (v := .bool false) rfl rfl ?_
      refine wN_end ?_
      refine condF ?_
      first | refine wN_skip ?_ | skip
      refine wN_seq ?_
      refine wN_mov (v := iv 10) rfl ?_
      refine wN_b_neq (a := 10) (b := 0) rfl rfl ?_
      intro t8 g8; obtain rfl : t8 = true := by rw [← g8]; rfl
      refine wN_mov (v := .bool true) rfl ?_
      refine wN_g rfl (wN_mov (v := iv 10) rfl ?_)
      refine wN_g rfl (wN_b_neq (a := 10) (b := 10) rfl rfl ?_)
      intro t9 g9; obtain rfl : t9 = false := by rw [← g9]; rfl
      refine wN_pur (v := .bool false) rfl rfl ?_
      refine wN_mov (v := .bool false) rfl ?_
      refine wN_g rfl (wN_lda (b := H1.next) (o := 0) rfl c2.rd (show row 3 _ _ = some [iv d.r, iv d.g, iv d.c] from rfl) ?_)
      obtain ⟨H5, fH5, kH5⟩ := refD_ok (kn := kn) (lo := lo) (H := H4) (d := d) (by omega)
      rw [hb] at fH5
      refine wN_g rfl (wN_callf (vs := [.agg (Dl.f d).toArray]) rfl (callX_args fH5) ?_)
      have mH5 := kH5.1
      have hk := hk.trans kH5
      have hs := kH5.sl0 hs
      have c1 := kH5.cl c1 (by simp)
      have c2 := kH5.cl c2 (by simp)
      refine wN_g rfl (wN_pur (v := .bool false) rfl rfl ?_)
      refine wN_pur (v := .bool false) rfl rfl ?_
      refine wN_mov (v := .bool false) rfl ?_
      refine wN_g rfl (wN_mov (v := iv 0) rfl ?_)
      refine wN_g rfl (wN_b_lss (a := 0) (b := 0) rfl rfl ?_)
      intro t10 g10; obtain rfl : t10 = false := by rw [← g10]; rfl
      refine wN_pur (v := .bool false) rfl rfl ?_
      refine wN_mov (v := .bool false) rfl ?_
      refine wN_g rfl (wN_mov (v := iv 0) rfl ?_)
      refine wN_g rfl (wN_addo (b := H1.next) (o := 0) rfl ?_)
      refine wN_g rfl (wN_ld (b := H1.next) (o := 1) (v := iv d.g) rfl c2.rd rfl ?_)
      refine wN_g rfl (wN_mul (a := d.g) (b := 255) rfl rfl ⟨by omega, by omega⟩ ?_)
      refine wN_g rfl (wN_b_gtr (a := 0) (b := d.g * 255) rfl rfl ?_)
      intro t11 g11; cases t11
      · have g11 : ¬ (0 > (d.g * 255)) := of_decide_eq_false g11
        refine wN_pur (v := .bool false) rfl rfl ?_
        refine wN_mov (v := .bool false) rfl ?_
        refine wN_g rfl (wN_mov (v := iv 10) rfl ?_)
        refine wN_g rfl (wN_b_neq (a := 10) (b := 0) rfl rfl ?_)
        intro t12 g12; obtain rfl : t12 = true := by rw [← g12]; rfl
        refine wN_g rfl (wN_mov (v := .bool true) rfl ?_)
        refine wN_g rfl (wN_mov (v := iv 0) rfl ?_)
        refine wN_g rfl (wN_b_neq (a := 0) (b := 0) rfl rfl ?_)
        intro t13 g13; obtain rfl : t13 = false := by rw [← g13]; rfl
        refine wN_g rfl (wN_pur (v := .bool false) rfl rfl ?_)
        refine wN_pur (v := .bool false) rfl rfl ?_
        refine wN_end ?_
        refine condF ?_
        first | refine wN_skip ?_ | skip
        refine wN_seq ?_
        refine wN_mov (v := iv 0) rfl ?_
        refine wN_mov (v := iv 0) rfl ?_
        refine wN_end ?_
        refine wN_seq ?_
        refine wN_mov (v := iv 10) rfl ?_
        refine wN_c_neq (a := 10) (b := 0) rfl rfl ?_
        refine wN_end ?_
        refine condT ?_
        refine wN_seq ?_
        refine wN_addo (b := H1.next) (o := 0) rfl ?_
        refine wN_ld (b := H1.next) (o := 1) (v := iv d.g) rfl c2.rd rfl ?_
        refine wN_mul (a := d.g) (b := 255) rfl rfl ⟨by omega, by omega⟩ ?_
        refine wN_mov (v := iv (d.g * 255)) rfl ?_
        refine wN_end ?_
        refine wN_seq ?_
        refine wN_lda (b := H.next) (o := 0) rfl c1.rd (show row 2 _ _ = some [.slice sa n cap, iv adv] from rfl) ?_
        refine wN_addo (b := H1.next) (o := 0) rfl ?_
        refine wN_ld (b := H1.next) (o := 0) (v := iv d.r) rfl c2.rd rfl ?_
        refine wN_addo (b := H1.next) (o := 0) rfl ?_
        refine wN_ld (b := H1.next) (o := 1) (v := iv d.g) rfl c2.rd rfl ?_
        refine wN_mov (v := iv (d.g * 255)) rfl ?_
        refine wN_pur (v := .agg #[iv d.r, iv d.g, iv (d.g * 255)]) rfl (by kernel_rfl) ?_
        obtain ⟨H6, fH6, kH6⟩ := Worth_ok (kn := kn) (lo := lo) (H := H5) (adv := adv) hs hl hn (by omega) (d := ⟨d.r, d.g, d.g * 255⟩)
        refine wN_callf (vs := [.agg #[.slice sa n cap, iv adv], .agg (Dl.f (⟨d.r, d.g, d.g * 255⟩)).toArray]) rfl (callX_args fH6) ?_
        have mH6 := kH6.1
        have hk := hk.trans kH6
        have hs := kH6.sl0 hs
        have c1 := kH6.cl c1 (by simp)
        have c2 := kH6.cl c2 (by simp)
        have wt6 := wt_of hv (bad_of (r := d.r) (g := d.g) (c := d.g * 255) (by omega) (by omega) (by omega) (by omega) (by omega) (by omega))
        refine wN_mov (v := .tuple #[iv (wtV us adv (⟨d.r, d.g, d.g * 255⟩)), iv (wtI us adv (⟨d.r, d.g, d.g * 255⟩)), iv (wtE us adv (⟨d.r, d.g, d.g * 255⟩))]) rfl ?_
        refine wN_pur (v := iv (wtV us adv (⟨d.r, d.g, d.g * 255⟩))) rfl (by kernel_rfl) ?_
        refine wN_pur (v := iv (wtI us adv (⟨d.r, d.g, d.g * 255⟩))) rfl (by kernel_rfl) ?_
        refine wN_pur (v := iv (wtE us adv (⟨d.r, d.g, d.g * 255⟩))) rfl (by kernel_rfl) ?_
        refine wN_mov (v := iv (wtV us adv (⟨d.r, d.g, d.g * 255⟩))) rfl ?_
        refine wN_mov (v := iv (wtI us adv (⟨d.r, d.g, d.g * 255⟩))) rfl ?_
        refine wN_mov (v := iv (wtE us adv (⟨d.r, d.g, d.g * 255⟩))) rfl ?_
        refine wN_end ?_
        refine wN_seq ?_
        refine wN_mov (v := iv (wtE us adv (⟨d.r, d.g, d.g * 255⟩))) rfl ?_
        refine wN_b_neq (a := (wtE us adv (⟨d.r, d.g, d.g * 255⟩))) (b := 0) rfl rfl ?_
        intro t14 g14; cases t14
        · have g14 : ¬ ((wtE us adv (⟨d.r, d.g, d.g * 255⟩)) ≠ 0) := by simpa using g14
          refine wN_mov (v := .bool false) rfl ?_
          refine wN_g rfl (wN_mov (v := iv (wtV us adv (⟨d.r, d.g, d.g * 255⟩))) rfl ?_)
          refine wN_g rfl (wN_mov (v := iv wanted) rfl ?_)
          refine wN_g rfl (wN_b_geq (a := (wtV us adv (⟨d.r, d.g, d.g * 255⟩))) (b := wanted) rfl rfl ?_)
          intro t15 g15; cases t15
          · have g15 : ¬ ((wtV us adv (⟨d.r, d.g, d.g * 255⟩)) ≥ wanted) := of_decide_eq_false g15
            refine wN_g rfl (wN_mov (v := iv 10) rfl ?_)
            refine wN_g rfl (wN_b_eql (a := 10) (b := 0) rfl rfl ?_)
            intro t16 g16; obtain rfl : t16 = false := by rw [← g16]; rfl
            refine wN_g rfl (wN_pur (v := .bool false) rfl (by kernel_rfl) ?_)
            refine wN_pur (v := .bool false) rfl rfl ?_
            refine wN_end ?_
            refine condF ?_
            first | refine wN_skip ?_ | skip
            refine wN_seq ?_
            refine wN_mov (v := iv 10) rfl ?_
            refine wN_b_neq (a := 10) (b := 0) rfl rfl ?_
            intro t17 g17; obtain rfl : t17 = true := by rw [← g17]; rfl
            refine wN_mov (v := .bool true) rfl ?_
            refine wN_gs rfl ?_
            refine wN_gs rfl ?_
            refine wN_pur (v := .bool true) rfl rfl ?_
            refine wN_end ?_
            refine condT ?_
            refine wN_seq ?_
            refine wN_callf (vs := []) rfl (callX_known hkn) ?_
            refine wN_mov (v := .bool true) rfl ?_
            refine wN_end ?_
            exact And.intro trivial (Exists.intro _ (And.intro rfl rfl))
          · have g15 : (wtV us adv (⟨d.r, d.g, d.g * 255⟩)) ≥ wanted := of_decide_eq_true g15
            omega
        · have g14 : (wtE us adv (⟨d.r, d.g, d.g * 255⟩)) ≠ 0 := by simpa using g14
          omega
      · have g11 : 0 > (d.g * 255) := of_decide_eq_true g11
        omega
    · refine wN_callf (vs := [.agg #[.slice sa n cap, iv adv], .agg (Dl.f d).toArray, iv wanted]) rfl (callX_args fH4) ?_
      have mH4 := kH4.1
      have hk := hk.trans kH4
      have hs := kH4.sl0 hs
      have c1 := kH4.cl c1 (by simp)
      have c2 := kH4.cl c2 (by simp)
      have hbd := badD_t hb
      refine wN_mov (v := .tuple #[iv x1, iv 0]) rfl ?_
      refine wN_pur (v := iv x1) rfl (by kernel_rfl) ?_
      refine wN_pur (v := iv 0) rfl (by kernel_rfl) ?_
      refine wN_mov (v := iv x1) rfl ?_
      refine wN_mov (v := iv 0) rfl ?_
      refine wN_end ?_
      refine wN_seq ?_
      refine wN_mov (v := iv 0) rfl ?_
      refine wN_b_eql (a := 0) (b := 1) rfl rfl ?_
      intro t18 g18; obtain rfl : t18 = false := by rw [← g18]; rfl
      refine wN_mov (v := .bool false) rfl ?_
      refine wN_g rfl (wN_mov (v := iv 0) rfl ?_)
      refine wN_g rfl (wN_b_eql (a := 0) (b := 2) rfl rfl ?_)
      intro t19 g19; obtain rfl : t19 = false := by rw [← g19]; rfl
      refine wN_pur (v := .bool false) rfl rfl ?_
      refine wN_end ?_
      refine condF ?_
      first | refine wN_skip ?_ | skip
      refine wN_seq ?_
      refine wN_mov (v := iv 0) rfl ?_
      refine wN_b_neq (a := 0) (b := 0) rfl rfl ?_
      intro t20 g20; obtain rfl : t20 = false := by rw [← g20]; rfl
      refine wN_mov (v := .bool false) rfl ?_
      refine wN_gs rfl ?_
      refine wN_gs rfl ?_
      refine wN_pur (v := .bool false) rfl rfl ?_
      refine wN_mov (v := .bool false) rfl ?_
      refine wN_g rfl (wN_lda (b := H1.next) (o := 0) rfl c2.rd (show row 3 _ _ = some [iv d.r, iv d.g, iv d.c] from rfl) ?_)
      obtain ⟨H7, fH7, kH7⟩ := refD_ok (kn := kn) (lo := lo) (H := H4) (d := d) (by omega)
      rw [hb] at fH7
      refine wN_g rfl (wN_callf (vs := [.agg (Dl.f d).toArray]) rfl (callX_args fH7) ?_)
      have mH7 := kH7.1
      have hk := hk.trans kH7
      have hs := kH7.sl0 hs
      have c1 := kH7.cl c1 (by simp)
      have c2 := kH7.cl c2 (by simp)
      refine wN_g rfl (wN_pur (v := .bool false) rfl rfl ?_)
      refine wN_pur (v := .bool false) rfl rfl ?_
      refine wN_mov (v := .bool false) rfl ?_
      refine wN_g rfl (wN_mov (v := iv x1) rfl ?_)
      refine wN_g rfl (wN_b_lss (a := x1) (b := 0) rfl rfl ?_)
      intro t21 g21; cases t21
      · have g21 : ¬ (x1 < 0) := of_decide_eq_false g21
        refine wN_pur (v := .bool false) rfl rfl ?_
        refine wN_mov (v := .bool false) rfl ?_
        refine wN_g rfl (wN_mov (v := iv x1) rfl ?_)
        refine wN_g rfl (wN_addo (b := H1.next) (o := 0) rfl ?_)
        refine wN_g rfl (wN_ld (b := H1.next) (o := 1) (v := iv d.g) rfl c2.rd rfl ?_)
        refine wN_g rfl (wN_mul (a := d.g) (b := 255) rfl rfl ⟨by omega, by omega⟩ ?_)
        refine wN_g rfl (wN_b_gtr (a := x1) (b := d.g * 255) rfl rfl ?_)
        intro t22 g22; cases t22
        · have g22 : ¬ (x1 > (d.g * 255)) := of_decide_eq_false g22
          refine wN_pur (v := .bool false) rfl rfl ?_
          refine wN_mov (v := .bool false) rfl ?_
          refine wN_g rfl (wN_mov (v := iv 0) rfl ?_)
          refine wN_g rfl (wN_b_neq (a := 0) (b := 0) rfl rfl ?_)
          intro t23 g23; obtain rfl : t23 = false := by rw [← g23]; rfl
          refine wN_g rfl (wN_mov (v := .bool false) rfl ?_)
          refine wN_gs rfl ?_
          refine wN_gs rfl ?_
          refine wN_g rfl (wN_pur (v := .bool false) rfl rfl ?_)
          refine wN_pur (v := .bool false) rfl rfl ?_
          refine wN_end ?_
          refine condF ?_
          first | refine wN_skip ?_ | skip
          refine wN_seq ?_
          refine wN_mov (v := iv x1) rfl ?_
          refine wN_mov (v := iv x1) rfl ?_
          refine wN_end ?_
          refine wN_seq ?_
          refine wN_mov (v := iv 0) rfl ?_
          refine wN_c_neq (a := 0) (b := 0) rfl rfl ?_
          refine wN_end ?_
          refine condF ?_
          first | refine wN_skip ?_ | skip
          refine wN_seq ?_
          refine wN_lda (b := H.next) (o := 0) rfl c1.rd (show row 2 _ _ = some [.slice sa n cap, iv adv] from rfl) ?_
          refine wN_addo (b := H1.next) (o := 0) rfl ?_
          refine wN_ld (b := H1.next) (o := 0) (v := iv d.r) rfl c2.rd rfl ?_
          refine wN_addo (b := H1.next) (o := 0) rfl ?_
          refine wN_ld (b := H1.next) (o := 1) (v := iv d.g) rfl c2.rd rfl ?_
          refine wN_mov (v := iv x1) rfl ?_
          refine wN_pur (v := .agg #[iv d.r, iv d.g, iv x1]) rfl (by kernel_rfl) ?_
          obtain ⟨H8, fH8, kH8⟩ := Worth_ok (kn := kn) (lo := lo) (H := H7) (adv := adv) hs hl hn (by omega) (d := ⟨d.r, d.g, x1⟩)
          refine wN_callf (vs := [.agg #[.slice sa n cap, iv adv], .agg (Dl.f (⟨d.r, d.g, x1⟩)).toArray]) rfl (callX_args fH8) ?_
          have mH8 := kH8.1
          have hk := hk.trans kH8
          have hs := kH8.sl0 hs
          have c1 := kH8.cl c1 (by simp)
          have c2 := kH8.cl c2 (by simp)
          have wt8 := wt_of hv (bad_of (r := d.r) (g := d.g) (c := x1) (by omega) (by omega) (by omega) (by omega) (by omega) (by omega))
          refine wN_mov (v := .tuple #[iv (wtV us adv (⟨d.r, d.g, x1⟩)), iv (wtI us adv (⟨d.r, d.g, x1⟩)), iv (wtE us adv (⟨d.r, d.g, x1⟩))]) rfl ?_
          refine wN_pur (v := iv (wtV us adv (⟨d.r, d.g, x1⟩))) rfl (by kernel_rfl) ?_
          refine wN_pur (v := iv (wtI us adv (⟨d.r, d.g, x1⟩))) rfl (by kernel_rfl) ?_
          refine wN_pur (v := iv (wtE us adv (⟨d.r, d.g, x1⟩))) rfl (by kernel_rfl) ?_
          refine wN_mov (v := iv (wtV us adv (⟨d.r, d.g, x1⟩))) rfl ?_
          refine wN_mov (v := iv (wtI us adv (⟨d.r, d.g, x1⟩))) rfl ?_
          refine wN_mov (v := iv (wtE us adv (⟨d.r, d.g, x1⟩))) rfl ?_
          refine wN_end ?_
          refine wN_seq ?_
          refine wN_mov (v := iv (wtE us adv (⟨d.r, d.g, x1⟩))) rfl ?_
          refine wN_b_neq (a := (wtE us adv (⟨d.r, d.g, x1⟩))) (b := 0) rfl rfl ?_
          intro t24 g24; cases t24
          · have g24 : ¬ ((wtE us adv (⟨d.r, d.g, x1⟩)) ≠ 0) := by simpa using g24
            refine wN_mov (v := .bool false) rfl ?_
            refine wN_g rfl (wN_mov (v := iv (wtV us adv (⟨d.r, d.g, x1⟩))) rfl ?_)
            refine wN_g rfl (wN_mov (v := iv wanted) rfl ?_)
            refine wN_g rfl (wN_b_geq (a := (wtV us adv (⟨d.r, d.g, x1⟩))) (b := wanted) rfl rfl ?_)
            intro t25 g25; cases t25
            · have g25 : ¬ ((wtV us adv (⟨d.r, d.g, x1⟩)) ≥ wanted) := of_decide_eq_false g25
              omega
            · have g25 : (wtV us adv (⟨d.r, d.g, x1⟩)) ≥ wanted := of_decide_eq_true g25
              refine wN_g rfl (wN_mov (v := iv 0) rfl ?_)
              refine wN_g rfl (wN_b_eql (a := 0) (b := 0) rfl rfl ?_)
              intro t26 g26; obtain rfl : t26 = true := by rw [← g26]; rfl
              refine wN_g rfl (wN_pur (v := .bool false) rfl (by kernel_rfl) ?_)
              refine wN_pur (v := .bool false) rfl rfl ?_
              refine wN_end ?_
              refine condF ?_
              first | refine wN_skip ?_ | skip
              refine wN_seq ?_
              refine wN_mov (v := iv 0) rfl ?_
              refine wN_b_neq (a := 0) (b := 0) rfl rfl ?_
              intro t27 g27; obtain rfl : t27 = false := by rw [← g27]; rfl
              refine wN_mov (v := .bool false) rfl ?_
              refine wN_g rfl (wN_mov (v := iv x1) rfl ?_)
              refine wN_g rfl (wN_b_eql (a := x1) (b := 0) rfl rfl ?_)
              intro t28 g28; cases t28
              · have g28 : ¬ (x1 = 0) := by simpa using g28
                refine wN_pur (v := .bool false) rfl rfl ?_
                refine wN_end ?_
                refine condF ?_
                first | refine wN_skip ?_ | skip
                refine wN_seq ?_
                refine wN_lda (b := H.next) (o := 0) rfl c1.rd (show row 2 _ _ = some [.slice sa n cap, iv adv] from rfl) ?_
                refine wN_addo (b := H1.next) (o := 0) rfl ?_
                refine wN_ld (b := H1.next) (o := 1) (v := iv d.g) rfl c2.rd rfl ?_
                refine wN_mov (v := iv x1) rfl ?_
                refine wN_sub (a := x1) (b := 1) rfl rfl ⟨by omega, by omega⟩ ?_
                refine wN_pur (v := .agg #[iv 0, iv d.g, iv (x1 - 1)]) rfl (by kernel_rfl) ?_
                obtain ⟨H9, fH9, kH9⟩ := Worth_ok (kn := kn) (lo := lo) (H := H8) (adv := adv) hs hl hn (by omega) (d := ⟨0, d.g, x1 - 1⟩)
                refine wN_callf (vs := [.agg #[.slice sa n cap, iv adv], .agg (Dl.f (⟨0, d.g, x1 - 1⟩)).toArray]) rfl (callX_args fH9) ?_
                have mH9 := kH9.1
                have hk := hk.trans kH9
                have hs := kH9.sl0 hs
                have c1 := kH9.cl c1 (by simp)
                have c2 := kH9.cl c2 (by simp)
                have wt9 := wt_of hv (bad_of (r := 0) (g := d.g) (c := x1 - 1) (by omega) (by omega) (by omega) (by omega) (by omega) (by omega))
                have hw3 := hw2 (by omega)
                refine wN_mov (v := .tuple #[iv (wtV us adv (⟨0, d.g, x1 - 1⟩)), iv (wtI us adv (⟨0, d.g, x1 - 1⟩)), iv (wtE us adv (⟨0, d.g, x1 - 1⟩))]) rfl ?_
                refine wN_pur (v := iv (wtV us adv (⟨0, d.g, x1 - 1⟩))) rfl (by kernel_rfl) ?_
                refine wN_pur (v := iv (wtI us adv (⟨0, d.g, x1 - 1⟩))) rfl (by kernel_rfl) ?_
                refine wN_pur (v := iv (wtE us adv (⟨0, d.g, x1 - 1⟩))) rfl (by kernel_rfl) ?_
                refine wN_mov (v := iv (wtV us adv (⟨0, d.g, x1 - 1⟩))) rfl ?_
                refine wN_mov (v := iv (wtE us adv (⟨0, d.g, x1 - 1⟩))) rfl ?_
                refine wN_end ?_
                refine wN_seq ?_
                refine wN_mov (v := iv (wtE us adv (⟨0, d.g, x1 - 1⟩))) rfl ?_
                refine wN_b_eql (a := (wtE us adv (⟨0, d.g, x1 - 1⟩))) (b := 0) rfl rfl ?_
                intro t29 g29; cases t29
                · have g29 : ¬ ((wtE us adv (⟨0, d.g, x1 - 1⟩)) = 0) := by simpa using g29
                  omega
                · have g29 : (wtE us adv (⟨0, d.g, x1 - 1⟩)) = 0 := by simpa using g29
                  refine wN_mov (v := .bool true) rfl ?_
                  refine wN_g rfl (wN_mov (v := iv (wtV us adv (⟨0, d.g, x1 - 1⟩))) rfl ?_)
                  refine wN_g rfl (wN_mov (v := iv wanted) rfl ?_)
                  refine wN_g rfl (wN_b_lss (a := (wtV us adv (⟨0, d.g, x1 - 1⟩))) (b := wanted) rfl rfl ?_)
                  intro t30 g30; cases t30
                  · have g30 : ¬ ((wtV us adv (⟨0, d.g, x1 - 1⟩)) < wanted) := of_decide_eq_false g30
                    omega
                  · have g30 : (wtV us adv (⟨0, d.g, x1 - 1⟩)) < wanted := of_decide_eq_true g30
                    refine wN_pur (v := .bool true) rfl rfl ?_
                    refine wN_mov (v := .bool true) rfl ?_
                    refine wN_g rfl (wN_callf (vs := []) rfl (callX_known hkn) ?_)
                    refine wN_pur (v := .bool true) rfl rfl ?_
                    refine wN_mov (v := .bool true) rfl ?_
                    refine wN_end ?_
                    exact And.intro trivial (Exists.intro _ (And.intro rfl rfl))
              · have g28 : x1 = 0 := by simpa using g28
                refine wN_pur (v := .bool true) rfl rfl ?_
                refine wN_end ?_
                refine condT ?_
                refine wN_seq ?_
                refine wN_callf (vs := []) rfl (callX_known hkn) ?_
                refine wN_mov (v := .bool true) rfl ?_
                refine wN_end ?_
                exact And.intro trivial (Exists.intro _ (And.intro rfl rfl))
          · have g24 : (wtE us adv (⟨d.r, d.g, x1⟩)) ≠ 0 := by simpa using g24
            omega
        · have g22 : x1 > (d.g * 255) := of_decide_eq_true g22
          omega
      · have g21 : x1 < 0 := of_decide_eq_true g21
        omega
  · refine wN_end ?_
    refine condT ?_
    refine wN_seq ?_
    refine wN_callf (vs := []) rfl (callX_known hkn) ?_
    refine wN_mov (v := .bool true) rfl ?_
    refine wN_end ?_
    exact And.intro trivial (Exists.intro _ (And.intro rfl rfl))
end
end
end Go.Ax

namespace Go.Ax
open Go Go.RowKit Go.Proofs Go.ChangeShapes Go.WideShapes Go.Deep

/-- A type whose cells are whole numbers. -/
def IntT (P : Program) (t : TypeId) : Prop := ∀ (H : Type) (enc : TypeId × Value → H) (w : World) (base : Nat) (spare : Nat → Bool) (held : Bool) (fuel : Nat) (cs : List Value) (x : DataW H × List MemPlace),
  DataW.trod enc P w base spare held fuel t cs = some x → cs.length = P.cellsOf t ∧ ∀ j, j < cs.length → ∃ n, cs[j]? = some (.int .i64 n)
theorem IntT.int {P : Program} {t : TypeId} (ht : P.underlying t = some (.int .i64)) (hc : P.cellsOf t = 1) : IntT P t := by
  intro H enc w base spare held fuel cs x h
  obtain ⟨n, rfl, _⟩ := DataW.trod_int ht h
  refine ⟨by rw [hc]; rfl, fun j hj => ⟨n, ?_⟩⟩
  have : j = 0 := by simp at hj; omega
  subst this; rfl
theorem IntT.struct {P : Program} {t : TypeId} {fs : Array Field} (ht : P.underlying t = some (.struct fs)) (hf : ∀ f ∈ fs.toList, IntT P f.type)
    (hcov : ((List.range (P.cellsOf t)).all fun j => fs.toList.any fun f => decide (f.offset ≤ j) && decide (j < f.offset + P.cellsOf f.type)) = true) : IntT P t := by
  intro H enc w base spare held fuel cs x h
  obtain ⟨xs, n, _, _, hlen, hxl, hg⟩ := DataW.trod_struct ht h
  refine ⟨hlen, fun j hj => ?_⟩
  have h1 := List.all_eq_true.1 hcov j (List.mem_range.2 (by omega))
  obtain ⟨f, hfm, h2⟩ := List.any_eq_true.1 h1
  simp only [Bool.and_eq_true, decide_eq_true_eq] at h2
  obtain ⟨i, hi, hfi⟩ := List.getElem_of_mem hfm
  have hfs : fs[i]? = some f := by
    rw [← Array.getElem?_toList, List.getElem?_eq_getElem hi, hfi]
  have hi2 : i < xs.length := by simpa [hxl] using hi
  have h3 := hg i f hfs
  rw [List.getElem?_eq_getElem hi2] at h3
  obtain ⟨h4, h5⟩ := hf f hfm _ _ _ _ _ _ _ _ _ h3
  obtain ⟨m, hm⟩ := h5 (j - f.offset) (by omega)
  refine ⟨m, ?_⟩
  rw [List.getElem?_take] at hm
  split at hm
  · rw [List.getElem?_drop, show f.offset + (j - f.offset) = j by omega] at hm; exact hm
  · cases hm

/-- A slice of rows of whole numbers, as it is given. -/
structure Given {α : Type} (w : World) (v : Value) (f : α → List Value) (l : List α) (x : Imp) : Prop where
  ok : ∀ (i : Nat) u, x.cs[i]? = some u → w.cell? ⟨x.blk, x.off + i, none⟩ = some u ∧ flat1 u = true
  cs : x.cs = l.flatMap f
  v : (v = .slice none 0 0 ∧ l = []) ∨ ∃ cap, v = .slice (some ⟨x.blk, x.off, none⟩) l.length cap ∧ l.length ≤ cap
theorem flat_get {α : Type} {f : α → List Value} {k : Nat} (hk : 0 < k) : ∀ {l : List α} (_ : ∀ x ∈ l, (f x).length = k) (i : Nat) (u : Value), (l.flatMap f)[i]? = some u → ∃ x, l[i / k]? = some x ∧ (f x)[i % k]? = some u
  | [], _, i, u, h => by simp at h
  | y :: r, hl, i, u, h => by
    have hy := hl y (List.mem_cons_self ..)
    rw [List.flatMap_cons, List.getElem?_append] at h
    split at h
    · rename_i q
      rw [hy] at q
      refine ⟨y, ?_, ?_⟩
      · rw [Nat.div_eq_of_lt q]; rfl
      · rw [Nat.mod_eq_of_lt q]; exact h
    · rename_i q
      rw [hy] at q h
      obtain ⟨x, h1, h2⟩ := flat_get hk (fun x hx => hl x (List.mem_cons_of_mem _ hx)) _ u h
      refine ⟨x, ?_, ?_⟩
      · rw [Nat.div_eq_sub_div hk (by omega)]; exact h1
      · rw [Nat.mod_eq_sub_mod (by omega)]; exact h2
theorem slice_given {H : Type} {enc : TypeId × Value → H} {P : Program} {w : World} {base b0 : Nat} {r : Reach} {held : Bool} {α : Type} (f : α → List Value) (mk : (Nat → Int) → α) (k : Nat) {t e : TypeId} {fuel : Nat} {v : Value} {x : DataW H × List MemPlace}
    (ht : P.underlying t = some (.slice e)) (hI : IntT P e) (hc : P.cellsOf e = k) (hk : 0 < k) (hmk : ∀ N : Nat → Int, f (mk N) = (List.range k).map fun j => Value.int .i64 (N j))
    (hok : Cell.okWide P w r b0 t v) (h : DataW.trod enc P w base (fun _ => true) held fuel t [v] = some x) : ∃ (l : List α) (y : Imp), Given w v f l y := by
  rcases open_slice ht h with ⟨h0, _⟩ | ⟨a, len, cap, m, n, D, Pl, hcs, hb, hl, hm, hmm, hx, hi⟩
  · cases h0
    exact ⟨[], ⟨0, 0, []⟩, fun i u e => by simp at e, rfl, .inl ⟨rfl, rfl⟩⟩
  · cases hcs
    obtain ⟨blk, off, spot⟩ := a
    have hs : spot = none := by
      unfold Cell.okWide at hok
      rw [ht] at hok
      unfold Cell.ok at hok
      simp only [ht] at hok
      exact hok.2.2.2.1
    subst hs
    simp only [if_true] at hmm
    subst hmm
    have hcell : ∀ i, i < len → ∀ j, j < k → ∃ n, w.cell? ⟨blk, off + (i * k + j), none⟩ = some (.int .i64 n) := by
      intro i hil j hj
      obtain ⟨cs', h1, h2⟩ := hi i (by omega)
      obtain ⟨h3, h4⟩ := hI _ _ _ _ _ _ _ _ _ h2
      obtain ⟨_, h5, h6⟩ := World.cells?_some h1
      obtain ⟨n, hn⟩ := h4 j (by omega)
      refine ⟨n, ?_⟩
      have h7 := h6 j (by omega)
      rw [hn, hc, add_add] at h7
      have e : (⟨blk, off, none⟩ : Addr).add (i * k + j) = ⟨blk, off + (i * k + j), none⟩ := by
        unfold Addr.add
        by_cases q : i * k + j = 0
        · simp [q]
        · simp
      rw [e] at h7
      exact h7
    refine ⟨(List.range len).map fun i => mk fun j => match w.cell? ⟨blk, off + (i * k + j), none⟩ with | some (.int _ n) => n | _ => 0, ⟨blk, off, _⟩, ?_, rfl, .inr ⟨m, by simp, by simpa using hl⟩⟩
    intro i u hu
    obtain ⟨y, h1, h2⟩ := flat_get hk (fun y hy => by
      obtain ⟨i, _, rfl⟩ := List.mem_map.1 hy
      rw [hmk]; simp) i u hu
    have hlt : i / k < len := by
      have := get_lt h1
      simpa using this
    rw [List.getElem?_map, List.getElem?_range hlt] at h1
    simp only [Option.map_some, Option.some.injEq] at h1
    subst h1
    have hj : i % k < k := Nat.mod_lt _ hk
    rw [hmk, List.getElem?_map, List.getElem?_range hj] at h2
    simp only [Option.map_some, Option.some.injEq] at h2
    obtain ⟨n, hn⟩ := hcell _ hlt _ hj
    rw [hn] at h2
    subst h2
    rw [Nat.div_add_mod' ] at hn
    exact ⟨hn, rfl⟩
theorem Given.rel {α : Type} {w : World} {v : Value} {f : α → List Value} {l : List α} {x : Imp} (g : Given w v f l x) {r : Ren} {H : Hp} {b : Nat} (hr : r b = some ⟨x.blk, x.off, none⟩) (hb : b < H.next) (hc : cellsOf H b = some x.cs) (hro : H.t.get b = some (.ro x.cs)) :
    ∃ a cap, VR r (.slice a l.length cap) v ∧ Sl H a l.length cap (l.flatMap f) ∧ ∀ b, a = some ⟨b, 0, none⟩ → H.t.get b = some (.ro (l.flatMap f)) := by
  rcases g.v with ⟨rfl, rfl⟩ | ⟨cap, rfl, hl⟩
  · exact ⟨none, 0, .nilSlice, .inl ⟨.inl rfl, rfl, rfl, rfl⟩, fun b e => by cases e⟩
  · refine ⟨some ⟨b, 0, none⟩, cap, ?_, .inr ⟨b, rfl, ⟨hb, by rw [hc, g.cs]⟩, hl⟩, fun b' e => by cases e; rw [hro, g.cs]⟩
    have := VR.slice (o := 0) (n := l.length) (c := cap) hr rfl hl
    simpa using this
end Go.Ax

/-! Slices of rows of plain cells, as arguments. -/
namespace Go.Ax
open Go Go.RowKit Go.Proofs Go.ChangeShapes Go.WideShapes Go.Deep

theorem IntT.row {α : Type} {P : Program} {t : TypeId} {k : Nat} {f : α → List Value} {mk : (Nat → Int) → α} (h : IntT P t) (hc : P.cellsOf t = k) (hmk : ∀ N : Nat → Int, f (mk N) = (List.range k).map fun j => Value.int .i64 (N j))
    {H : Type} {enc : TypeId × Value → H} {w : World} {base : Nat} {spare : Nat → Bool} {held : Bool} (fuel : Nat) (cs : List Value) (x : DataW H × List MemPlace) (hx : DataW.trod enc P w base spare held fuel t cs = some x) : ∃ y : α, cs = f y ∧ True := by
  obtain ⟨h1, h2⟩ := h _ _ _ _ _ _ _ _ _ hx
  have : ∃ N : Nat → Int, ∀ j, j < cs.length → cs[j]? = some (.int .i64 (N j)) := by
    refine ⟨fun j => match cs[j]? with | some (.int _ n) => n | _ => 0, fun j hj => ?_⟩
    obtain ⟨n, hn⟩ := h2 j hj
    simp [hn]
  obtain ⟨N, hN⟩ := this
  refine ⟨mk N, ?_, trivial⟩
  rw [hmk]
  apply List.ext_getElem?
  intro j
  by_cases hj : j < k
  · rw [hN j (by omega), List.getElem?_map, List.getElem?_range hj]; rfl
  · rw [List.getElem?_eq_none (by omega), List.getElem?_eq_none (by simp; omega)]
end Go.Ax

/-! Arguments that point to what points: inner slices, rows of slices. -/
namespace Go.Ax
open Go Go.RowKit Go.Proofs Go.ChangeShapes Go.WideShapes Go.Deep

def renOf (imps : List Imp) : Ren := fun b => (imps[b]?).map fun x => ⟨x.blk, x.off, none⟩
theorem imports3 {P : Program} (imps outs : List Imp) (w : World) (h : ∀ x ∈ imps, ∀ (i : Nat) v, x.cs[i]? = some v → w.cell? ⟨x.blk, x.off + i, none⟩ = some v ∧ flat1 v = true)
    (hcs : ∀ x ∈ outs, ∀ (i : Nat) v, x.cs[i]? = some v → ∃ v', w.cell? ⟨x.blk, x.off + i, none⟩ = some v' ∧ VR (renOf imps) v v') :
    ∃ (r : Ren) (H : Hp), Rel P r w.heap.size H w ∧ H.next = (imps ++ outs).length ∧ (∀ b loc, r b = some loc → b < H.next) ∧ Ren.Le (renOf imps) r ∧ ∀ (b : Nat) x, (imps ++ outs)[b]? = some x → r b = some ⟨x.blk, x.off, none⟩ ∧ H.t.get b = some (.ro x.cs) := by
  have hall : ∀ x ∈ imps ++ outs, ∀ (i : Nat) v, x.cs[i]? = some v → ∃ v', w.cell? ⟨x.blk, x.off + i, none⟩ = some v' ∧ VR (renOf imps) v v' := by
    intro x hx i v hv
    rcases List.mem_append.1 hx with hx | hx
    · obtain ⟨h1, h2⟩ := h x hx i v hv
      exact ⟨v, h1, flat1_vr h2⟩
    · exact hcs x hx i v hv
  obtain ⟨t, ht⟩ := tr_of (fun b => ((imps ++ outs)[b]?).map fun x => .ro x.cs) (imps ++ outs).length
  have hle : Ren.Le (renOf imps) (fun b => ((imps ++ outs)[b]?).map fun x => ⟨x.blk, x.off, none⟩) := fun b loc e => by
    unfold renOf at e
    have hlt : b < imps.length := by
      rcases Nat.lt_or_ge b imps.length with q | q
      · exact q
      · rw [List.getElem?_eq_none q] at e; cases e
    show ((imps ++ outs)[b]?).map _ = _
    rw [List.getElem?_append_left hlt]; exact e
  have hr : ∀ (b : Nat) loc, ((imps ++ outs)[b]?).map (fun x => (⟨x.blk, x.off, none⟩ : Loc)) = some loc → ∃ x, (imps ++ outs)[b]? = some x ∧ b < (imps ++ outs).length ∧ loc = ⟨x.blk, x.off, none⟩ ∧ t.get b = some (.ro x.cs) := by
    intro b loc e
    cases hx : (imps ++ outs)[b]? with
    | none => rw [hx] at e; cases e
    | some x =>
      rw [hx] at e
      simp at e
      have hlt := get_lt hx
      exact ⟨x, rfl, hlt, e.symm, by rw [ht, if_pos hlt, hx]; rfl⟩
  have low : ∀ {g o : Nat} {v : Value}, w.cell? ⟨g, o, none⟩ = some v → g < w.heap.size := fun {g o v} hv => by
    unfold World.cell? at hv
    rcases Nat.lt_or_ge g w.heap.size with q | q
    · exact q
    · rw [Array.getElem?_eq_none q] at hv; cases hv
  refine ⟨fun b => ((imps ++ outs)[b]?).map fun x => ⟨x.blk, x.off, none⟩, { next := (imps ++ outs).length, t }, ⟨?_, ?_, ?_, Nat.le_refl _⟩, rfl, ?_, hle, ?_⟩
  · intro b loc e
    obtain ⟨x, hx, hlt, rfl, hg⟩ := hr b loc e
    refine ⟨hlt, ?_⟩
    show Dm _ _ _ (t.get b)
    rw [hg]
    cases hc : x.cs with
    | nil => exact .inl rfl
    | cons v l =>
      obtain ⟨v', h1, _⟩ := hall x (List.mem_of_getElem? hx) 0 v (by rw [hc]; rfl)
      exact .inr (low h1)
  · intro b loc o e eo
    obtain ⟨x, hx, hlt, rfl, hg⟩ := hr b loc e
    rw [hg] at eo; cases eo
    refine ⟨rfl, fun i v ev => ?_⟩
    obtain ⟨v', h1, h2⟩ := hall x (List.mem_of_getElem? hx) i v ev
    unfold World.cell? at h1
    simp only at h1
    split at h1
    · rename_i C e' f hC
      exact ⟨C, e', f, v', hC, by simpa using h1, h2.mono hle⟩
    · cases h1
  · intro b b' loc loc' e e' _ hl _
    obtain ⟨x, hx, hlt, rfl, hg⟩ := hr b loc e
    obtain ⟨o, h1, h2, h3⟩ := hl
    have : t.get b = some o := h1
    rw [hg] at this; cases this
    cases h3
  · intro b loc e
    obtain ⟨x, hx, hlt, rfl, hg⟩ := hr b loc e
    exact hlt
  · intro b x hx
    have hlt := get_lt hx
    refine ⟨by simp only [hx, Option.map_some], ?_⟩
    show t.get b = _
    rw [ht, if_pos hlt, hx]; rfl

/-- An inner slice, as it is given: an empty one may have any address. -/
structure GivI {α : Type} (w : World) (v : Value) (f : α → List Value) (l : List α) (x : Imp) : Prop where
  ok : ∀ (i : Nat) u, x.cs[i]? = some u → w.cell? ⟨x.blk, x.off + i, none⟩ = some u ∧ flat1 u = true
  cs : x.cs = l.flatMap f
  v : ((v = .slice none 0 0 ∨ ∃ a', v = .slice (some a') 0 0) ∧ l = []) ∨ ∃ cap, v = .slice (some ⟨x.blk, x.off, none⟩) l.length cap ∧ l.length ≤ cap
theorem GivI.rel {α : Type} {w : World} {v : Value} {f : α → List Value} {l : List α} {x : Imp} (g : GivI w v f l x) {r : Ren} {b : Nat} (hr : r b = some ⟨x.blk, x.off, none⟩) :
    ∃ a cap, VR r (.slice a l.length cap) v ∧ (∀ y, a = some ⟨y, 0, none⟩ → y = b) ∧ ∀ H : Hp, b < H.next → H.t.get b = some (.ro x.cs) → Sl H a l.length cap (l.flatMap f) := by
  rcases g.v with ⟨rfl | ⟨a', rfl⟩, rfl⟩ | ⟨cap, rfl, hl⟩
  · exact ⟨none, 0, .nilSlice, fun y e => by (cases e), fun H _ _ => .inl ⟨.inl rfl, rfl, rfl, rfl⟩⟩
  · exact ⟨some ⟨0, 0, some 0⟩, 0, .weird, fun y e => by (cases e), fun H _ _ => .inl ⟨.inr rfl, rfl, rfl, rfl⟩⟩
  · refine ⟨some ⟨b, 0, none⟩, cap, ?_, fun y e => by (cases e; rfl), fun H hb hc => .inr ⟨b, rfl, ⟨hb, by unfold cellsOf; rw [hc, g.cs]⟩, hl⟩⟩
    have := VR.slice (o := 0) (n := l.length) (c := cap) hr rfl hl
    simpa using this
structure RV where
  rv : Value
  l : List Int
  x : Imp
def RV.f (r : RV) : List Value := [r.rv]
def RV.Q (w : World) (r : RV) : Prop := GivI w r.rv (fun n : Int => [iv n]) r.l r.x
end Go.Ax

/-! What is flat as arguments. -/
namespace Go.Ax
open Go Go.RowKit Go.Proofs Go.ChangeShapes Go.WideShapes Go.Deep

theorem imports_flat {P : Program} (pre : List Imp) {w : World} (h : ∀ x ∈ pre, ∀ (i : Nat) v, x.cs[i]? = some v → w.cell? ⟨x.blk, x.off + i, none⟩ = some v ∧ flat1 v = true) :
    ∃ (r : Ren) (H : Hp), Rel P r w.heap.size H w ∧ (∀ b loc, r b = some loc → b < H.next) ∧ (∀ (b : Nat) x, pre[b]? = some x → b < H.next ∧ r b = some ⟨x.blk, x.off, none⟩ ∧ H.t.get b = some (.ro x.cs)) := by
  obtain ⟨r, H, h1, h2, h3, h4, h5⟩ := imports3 (P := P) pre [] w h (fun x hx => by simp at hx)
  refine ⟨r, H, h1, h3, fun b x hx => ?_⟩
  have := get_lt hx
  obtain ⟨a, c⟩ := h5 b x (by simpa using hx)
  exact ⟨by rw [h2]; simpa using this, a, c⟩
end Go.Ax


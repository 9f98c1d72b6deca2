import Derived.Test.YtabiecloimmjdaaMf
import Derived.Test.YtabiecloimmjdaaRows
import Derived.Test.YtabiecloimmjdaaChecked
import Derived.Deep.Slices
import Derived.Deep.Fields
import Derived.ChangeSame
set_option linter.all false
/-
 Pool: the examples of the document hold (11) (written by program).
-/
namespace Go.Ax
open Go Go.RowKit Go.Proofs

noncomputable section
theorem aw1 : wtV us0 400 (ds0.getD 1 Dl.z) = 45000 ∧ wtI us0 400 (ds0.getD 1 Dl.z) = 1 ∧ wtE us0 400 (ds0.getD 1 Dl.z) = 0 := ⟨by kernel_rfl, by kernel_rfl, by kernel_rfl⟩
theorem aw2 : avV us0 400 ds0 = 43200 ∧ avE us0 400 ds0 = 0 := ⟨by kernel_rfl, by kernel_rfl⟩
theorem aw3 : stK us0 400 ds0 100000 = 1 ∧ stE us0 400 ds0 100000 = 0 ∧ stL us0 400 ds0 100000 = [3, 8] := ⟨by kernel_rfl, by kernel_rfl, by kernel_rfl⟩
theorem aw3r : row 5 (plc us0 400 ds0 100000 [3, 8]) (0 + 0 * 5) = some [iv 3, iv 63000, iv 25200, iv 58333, iv 33133] := by kernel_rfl
theorem ds0_ok : ds0.any badD = false := by kernel_rfl
theorem aw4 : BkS us0 400 ds0 8 50000 120000 0 := by
 unfold BkS
 rw [if_pos (by kernel_rfl), if_pos (show (8 : Int) ∈ grl ds0 from (grl_mem ds0_ok).2 ⟨1, by decide, rfl⟩), if_pos (by kernel_rfl)]
 exact ⟨120000, ⟨by unfold NB; omega, .inr (by kernel_rfl), .inr (by kernel_rfl)⟩, by kernel_rfl⟩
theorem aw5 : RdS us0 400 (ds0.getD 0 Dl.z) 60000 60000000 0 := by
 unfold RdS
 rw [if_pos (by kernel_rfl), if_pos (by kernel_rfl)]
 have e : ((ds0.getD 0 Dl.z).g * 255 + 1).toNat = 255000001 := by kernel_rfl
 exact ⟨60000000, ⟨by rw [e]; omega, .inr (by kernel_rfl), .inr (by kernel_rfl)⟩, by kernel_rfl⟩
abbrev kn0 : Kn := ⟨fun _ => none, fun _ _ _ _ => none⟩
section
variable {lo : Nat} {H : Hp}
set_option maxRecDepth 100000 in
set_option maxHeartbeats 2000000 in
theorem awake_C (s : Snd Try.prog kn0) (hlo : lo ≤ H.next) : FnC Try.prog lo 11 [] H fun v _ => v = .bool true := by
 refine fnC_low s Try.func11 B11 N11 Z11 L11 (by simp) ?_
 have hk := Keep.refl H []
 refine wM_seq <| wM_mov (v := .bool false) rfl <| wM_end <| wM_seq ?_
 obtain ⟨sa, cap, la, capl, H1, fH1, hs, hd, kH1⟩ := sample_ok (kn := kn0) (lo := lo) (H := H) (by omega)
 refine wM_callf s (vs := []) rfl (callX_func rfl (by simpa using fH1)) ?_
 have mH1 := kH1.1
 have hk := hk.trans kH1
 rcases id hd with ⟨_, h03, _⟩ | ⟨tb, et, rt, _⟩
 ·omega
 have fs := hs.old; have fd := hd.old; have lt := rt.1
 refine wM_mov (v := .tuple #[.agg #[.slice sa 2 cap, iv 400], .slice la 3 capl]) rfl <| wM_pur (v := .agg #[.slice sa 2 cap, iv 400]) rfl (by kernel_rfl) <| wM_pur (v := .slice la 3 capl) rfl (by kernel_rfl) <| wM_alc ?_
 intro H2 kH2 nH2 c2
 have c2 : Cl H2 H1.next [.slice none 0 0, iv 0] := c2
 have mH2 := kH2.1
 have hk := hk.trans kH2
 have hs := kH2.sl0 hs
 have hd := kH2.sl0 hd
 have rt := kH2.rd rt (by simp)
 refine wM_sta (b := H1.next) (o := 0) rfl rfl c2 (by omega) rfl rfl (by simp) ?_
 intro H3 kH3 nH3 sH3
 have mH3 := kH3.1
 have hk := hk.new kH3 (fun b hb => by simp at hb ⊢; omega)
 have hs := kH3.sl hs (fun b e => by have := fs b e; first | (simp; done) | (simp; omega))
 have hd := kH3.sl hd (fun b e => by have := fd b e; first | (simp; done) | (simp; omega))
 have rt := kH3.rd rt (by first | (simp; done) | (simp; omega))
 have c2 : Cl H3 H1.next [.slice sa 2 cap, iv 400] := sH3
 refine wM_mov (v := .slice la 3 capl) rfl <| wM_end <| wM_dseq <| wD_lda (b := H1.next) (o := 0) rfl c2.rd (show row 2 _ _ = some [.slice sa 2 cap, iv 400] from rfl) <| wD_mov (v := .slice la 3 capl) rfl <| wD_idx (b := tb) (o := 0) (k := 1) (j := 1) (by rw [← et]; rfl) rfl rfl (by omega) <| wD_lda (b := tb) (o := 0 + 1 * 3) rfl rt (dlc_rowF (ds := ds0) (i := 1) (by decide)) ?_
 obtain ⟨H4, fH4, kH4⟩ := Worth_ok (kn := kn0) (lo := lo) (H := H3) (adv := 400) hs rfl (by omega) (by omega) (d := ds0.getD 1 Dl.z)
 rw [aw1.1, aw1.2.1, aw1.2.2] at fH4
 refine wD_callf (vs := [.agg #[.slice sa 2 cap, iv 400], .agg (Dl.f (ds0.getD 1 Dl.z)).toArray]) rfl (callX_args fH4) ?_
 have mH4 := kH4.1
 have hk := hk.trans kH4
 have hs := kH4.sl0 hs
 have hd := kH4.sl0 hd
 have rt := kH4.rd rt (by simp)
 have c2 := kH4.cl c2 (by simp)
 refine wD_mov (v := .tuple #[iv 45000, iv 1, iv 0]) rfl <| wD_pur (v := iv 45000) rfl (by kernel_rfl) <| wD_pur (v := iv 1) rfl (by kernel_rfl) <| wD_pur (v := iv 0) rfl (by kernel_rfl) <| wD_mov (v := iv 45000) rfl <| wD_mov (v := iv 1) rfl <| wD_mov (v := iv 0) rfl ?_
 refine wD_end (by repeat' first | exact True.intro | exact (fun h => h) | refine And.intro ?_ ?_ | (intro h; have h : (_ : Nat) = _ := h; omega)) ?_
 refine wM_seq <| wM_lda (b := H1.next) (o := 0) rfl c2.rd (show row 2 _ _ = some [.slice sa 2 cap, iv 400] from rfl) <| wM_mov (v := .slice la 3 capl) rfl <| wM_call (t := .fn (.func 16) #[]) rfl (callM_args s.hN (Advances_ok (H := H4) s (adv := 400) hs rfl (by omega) hd rfl (by omega) (by omega))) ?_
 rintro _ H5 ⟨rfl, kH5⟩
 rw [aw2.1, aw2.2]
 have mH5 := kH5.1
 have hk := hk.trans kH5
 have hs := kH5.sl0 hs
 have hd := kH5.sl0 hd
 have rt := kH5.rd rt (by simp)
 have c2 := kH5.cl c2 (by simp)
 refine wM_mov (v := .tuple #[iv 43200, iv 0]) rfl <| wM_pur (v := iv 43200) rfl (by kernel_rfl) <| wM_pur (v := iv 0) rfl (by kernel_rfl) <| wM_mov (v := iv 43200) rfl <| wM_mov (v := iv 0) rfl <| wM_end <| wM_seq <| wM_lda (b := H1.next) (o := 0) rfl c2.rd (show row 2 _ _ = some [.slice sa 2 cap, iv 400] from rfl) <| wM_mov (v := .slice la 3 capl) rfl <| wM_call (t := .fn (.func 18) #[]) rfl (callM_args s.hN (Settle_ok (H := H5) s (adv := 400) hs rfl (by omega) hd rfl (by omega) (by omega) (rev := 100000))) ?_
 rintro _ H6 ⟨pv, rfl, hpa, kH6⟩
 rw [aw3.2.2] at hpa
 rw [aw3.1, aw3.2.1]
 have mH6 := kH6.1
 have hk := hk.trans kH6
 have hs := kH6.sl0 hs
 have hd := kH6.sl0 hd
 have rt := kH6.rd rt (by simp)
 have c2 := kH6.cl c2 (by simp)
 obtain ⟨pa, pcap, rfl, hpy, _⟩ := hpa.sl
 rcases id hpy with ⟨_, h02, _⟩ | ⟨pb, ep, rp, _⟩
 ·exact absurd h02 (by decide)
 have lp := rp.1
 refine wM_mov (v := .tuple #[.slice pa 2 pcap, iv 1, iv 0]) rfl <| wM_pur (v := .slice pa 2 pcap) rfl (by kernel_rfl) <| wM_pur (v := iv 1) rfl (by kernel_rfl) <| wM_pur (v := iv 0) rfl (by kernel_rfl) <| wM_mov (v := .slice pa 2 pcap) rfl <| wM_mov (v := iv 1) rfl <| wM_mov (v := iv 0) rfl <| wM_end <| wM_seq <| wM_lda (b := H1.next) (o := 0) rfl c2.rd (show row 2 _ _ = some [.slice sa 2 cap, iv 400] from rfl) <| wM_mov (v := .slice la 3 capl) rfl <| wM_call (t := .fn (.func 20) #[]) rfl (callM_args s.hN (Break_ok (H := H6) s (adv := 400) hs rfl (by omega) hd rfl (by omega) (by omega) (gr := 8) (wanted := 50000))) ?_
 rintro _ H7 ⟨xb, eb, rfl, hb, kH7⟩
 obtain ⟨rfl, rfl⟩ := hb.uniq aw4
 have mH7 := kH7.1
 have hk := hk.trans kH7
 have hs := kH7.sl0 hs
 have hd := kH7.sl0 hd
 have rt := kH7.rd rt (by simp)
 have c2 := kH7.cl c2 (by simp)
 have rp := kH7.rd rp (by simp)
 refine wM_mov (v := .tuple #[iv 120000, iv 0]) rfl <| wM_pur (v := iv 120000) rfl (by kernel_rfl) <| wM_pur (v := iv 0) rfl (by kernel_rfl) <| wM_mov (v := iv 120000) rfl <| wM_mov (v := iv 0) rfl <| wM_end <| wM_dseq <| wD_lda (b := H1.next) (o := 0) rfl c2.rd (show row 2 _ _ = some [.slice sa 2 cap, iv 400] from rfl) <| wD_mov (v := .slice la 3 capl) rfl <| wD_idx (b := tb) (o := 0) (k := 0) (j := 0) (by rw [← et]; rfl) rfl rfl (by omega) <| wD_lda (b := tb) (o := 0 + 0 * 3) rfl rt (dlc_rowF (ds := ds0) (i := 0) (by decide)) ?_
 obtain ⟨xr, er, H8, fH8, hr, kH8⟩ := Redder_ok (kn := kn0) (lo := lo) (H := H7) (adv := 400) hs rfl (by omega) (by omega) (d := ds0.getD 0 Dl.z) (wanted := 60000)
 obtain ⟨rfl, rfl⟩ := hr.uniq aw5
 refine wD_callf (vs := [.agg #[.slice sa 2 cap, iv 400], .agg (Dl.f (ds0.getD 0 Dl.z)).toArray, iv 60000]) rfl (callX_args fH8) ?_
 have mH8 := kH8.1
 have hk := hk.trans kH8
 have hs := kH8.sl0 hs
 have hd := kH8.sl0 hd
 have rt := kH8.rd rt (by simp)
 have c2 := kH8.cl c2 (by simp)
 have rp := kH8.rd rp (by simp)
 refine wD_mov (v := .tuple #[iv 60000000, iv 0]) rfl <| wD_pur (v := iv 60000000) rfl (by kernel_rfl) <| wD_pur (v := iv 0) rfl (by kernel_rfl) <| wD_mov (v := iv 60000000) rfl <| wD_mov (v := iv 0) rfl ?_
 refine wD_end (by repeat' first | exact True.intro | exact (fun h => h) | refine And.intro ?_ ?_ | (intro h; have h : (_ : Nat) = _ := h; omega)) ?_
 refine wM_seq <| wM_mov (v := iv 45000) rfl <| wM_b_neq (a := 45000) (b := 45000) rfl rfl ?_
 intro t1 g1; obtain rfl : t1 = false := by rw [← g1]; rfl
 refine wM_mov (v := .bool false) rfl ?_
 refine wM_g rfl (wM_mov (v := iv 1) rfl ?_)
 refine wM_g rfl (wM_b_neq (a := 1) (b := 1) rfl rfl ?_)
 intro t2 g2; obtain rfl : t2 = false := by rw [← g2]; rfl
 refine wM_pur (v := .bool false) rfl rfl <| wM_mov (v := .bool false) rfl ?_
 refine wM_g rfl (wM_mov (v := iv 0) rfl ?_)
 refine wM_g rfl (wM_b_neq (a := 0) (b := 0) rfl rfl ?_)
 intro t3 g3; obtain rfl : t3 = false := by rw [← g3]; rfl
 refine wM_pur (v := .bool false) rfl rfl <| wM_mov (v := .bool false) rfl ?_
 refine wM_g rfl (wM_mov (v := iv 43200) rfl ?_)
 refine wM_g rfl (wM_b_neq (a := 43200) (b := 43200) rfl rfl ?_)
 intro t4 g4; obtain rfl : t4 = false := by rw [← g4]; rfl
 refine wM_pur (v := .bool false) rfl rfl <| wM_mov (v := .bool false) rfl ?_
 refine wM_g rfl (wM_mov (v := iv 0) rfl ?_)
 refine wM_g rfl (wM_b_neq (a := 0) (b := 0) rfl rfl ?_)
 intro t5 g5; obtain rfl : t5 = false := by rw [← g5]; rfl
 refine wM_pur (v := .bool false) rfl rfl <| wM_mov (v := .bool false) rfl ?_
 refine wM_g rfl (wM_mov (v := .slice pa 2 pcap) rfl ?_)
 refine wM_g rfl (wM_len (m := 2) rfl ?_)
 refine wM_g rfl (wM_b_neq (a := 2) (b := 2) rfl rfl ?_)
 intro t6 g6; obtain rfl : t6 = false := by rw [← g6]; rfl
 refine wM_pur (v := .bool false) rfl rfl <| wM_mov (v := .bool false) rfl ?_
 refine wM_g rfl (wM_mov (v := .slice pa 2 pcap) rfl ?_)
 refine wM_g rfl (wM_idx (b := pb) (o := 0) (k := 0) (j := 0) (by rw [← ep]; rfl) rfl rfl (by omega) ?_)
 refine wM_g rfl (wM_lda (b := pb) (o := 0 + 0 * 5) rfl rp aw3r ?_)
 refine wM_g rfl (wM_pur (v := .agg #[iv 3, iv 63000, iv 25200, iv 58333, iv 33133]) rfl (by kernel_rfl) ?_)
 refine wM_g rfl (wM_pur (v := .bool false) rfl (neq50 (a := 3) (b := 63000) (c := 25200) (e := 58333) (f := 33133) rfl rfl) ?_)
 refine wM_pur (v := .bool false) rfl rfl <| wM_mov (v := .bool false) rfl ?_
 refine wM_g rfl (wM_mov (v := iv 1) rfl ?_)
 refine wM_g rfl (wM_b_neq (a := 1) (b := 1) rfl rfl ?_)
 intro t7 g7; obtain rfl : t7 = false := by rw [← g7]; rfl
 refine wM_pur (v := .bool false) rfl rfl <| wM_mov (v := .bool false) rfl ?_
 refine wM_g rfl (wM_mov (v := iv 0) rfl ?_)
 refine wM_g rfl (wM_b_neq (a := 0) (b := 0) rfl rfl ?_)
 intro t8 g8; obtain rfl : t8 = false := by rw [← g8]; rfl
 refine wM_pur (v := .bool false) rfl rfl <| wM_end <| condF ?_
 first | refine wM_skip ?_ | skip
 refine wM_seq <| wM_mov (v := iv 120000) rfl <| wM_b_eql (a := 120000) (b := 120000) rfl rfl ?_
 intro t9 g9; obtain rfl : t9 = true := by rw [← g9]; rfl
 refine wM_mov (v := .bool true) rfl ?_
 refine wM_g rfl (wM_mov (v := iv 0) rfl ?_)
 refine wM_g rfl (wM_b_eql (a := 0) (b := 0) rfl rfl ?_)
 intro t10 g10; obtain rfl : t10 = true := by rw [← g10]; rfl
 refine wM_pur (v := .bool true) rfl rfl <| wM_mov (v := .bool true) rfl ?_
 refine wM_g rfl (wM_mov (v := iv 60000000) rfl ?_)
 refine wM_g rfl (wM_b_eql (a := 60000000) (b := 60000000) rfl rfl ?_)
 intro t11 g11; obtain rfl : t11 = true := by rw [← g11]; rfl
 refine wM_pur (v := .bool true) rfl rfl <| wM_mov (v := .bool true) rfl ?_
 refine wM_g rfl (wM_mov (v := iv 0) rfl ?_)
 refine wM_g rfl (wM_b_eql (a := 0) (b := 0) rfl rfl ?_)
 intro t12 g12; obtain rfl : t12 = true := by rw [← g12]; rfl
 refine wM_pur (v := .bool true) rfl rfl <| wM_mov (v := .bool true) rfl <| wM_end ?_
 exact And.intro trivial (Exists.intro _ (And.intro rfl rfl))
end
end
end Go.Ax

/-
 Proved here: 'awake', the closed part that every law of pool ends in, returns true in every world, whatever is drawn, and leaves what lay below as it was. Conditions: none.
 It has no arguments; it is worked out by the contracts of the functions that it calls (Q16).
-/
namespace Go.Ax
open Go Go.RowKit
theorem known_one {P : Program} {g : FuncId} {t : Bool} (hb : ((P.funcs[g]?).bind (fun fn => fn.body)).isSome = true) (hc : ∀ w, Calls P g #[] w fun e w' => e = .returned (.bool t) ∧ Below w.heap.size w w') :
  Known P ⟨fun f => bif Nat.beq f g then some t else none, fun _ _ _ _ => none⟩ := by
 refine ⟨?_, fun f lo args H v H' _ h => by cases h⟩
 intro f b h
 obtain ⟨hf, h1⟩ := bif_some h
 clear h
 have hf := Nat.eq_of_beq_eq_true hf
 subst hf
 cases h1
 refine ⟨?_, hc⟩
 cases hx : P.funcs[f]? with
 | none => rw [hx] at hb; cases hb
 | some fn =>
  rw [hx] at hb
  cases hy : fn.body with
  | none => rw [Option.bind_some, hy] at hb; cases hb
  | some c => exact ⟨fn, c, rfl, hy⟩
theorem known_nothing {P : Program} : Known P ⟨fun _ => none, fun _ _ _ _ => none⟩ := ⟨KnownB.nothing P, fun f lo args H v H' _ h => by cases h⟩
end Go.Ax
namespace Go.Proofs.Ytabiecloimmjdaa.alive
open Go.RowKit
theorem mixed : Try.prog.follows .mixedOrders = true := by kernel_rfl
theorem plainNames : (Try.prog.funcs.toList.all fun fn => !(fn.name == "runtime.NumGoroutine")) = true := by kernel_rfl
theorem noCount : Go.Ax.NoCount Try.prog := fun f fn h => by
 have h2 := List.all_eq_true.1 plainNames fn (by
  have := Array.mem_of_getElem? h
  simpa using this)
 simpa using h2
theorem call (w : World) : Calls Try.prog 11 #[] w fun e w' => e = .returned (.bool true) ∧ Below w.heap.size w w' :=
 Go.Ax.closed_callC (Go.Ax.awake_C ⟨mixed, noCount, Go.Ax.known_nothing⟩ (Nat.zero_le _)) w
theorem known : Go.Ax.Known Try.prog ⟨fun f => bif Nat.beq f 11 then some true else none, fun _ _ _ _ => none⟩ := Go.Ax.known_one (by kernel_rfl) call
theorem snd : Go.Ax.Snd Try.prog ⟨fun f => bif Nat.beq f 11 then some true else none, fun _ _ _ _ => none⟩ := ⟨mixed, noCount, known⟩
end Go.Proofs.Ytabiecloimmjdaa.alive

/-
 Pool: the maths of cents: shares to the cent, and another order (written by program).
-/
namespace Go.Ax
open Go Go.RowKit Go.Proofs

theorem stL_len {us : List Pr} {adv : Int} {ds : List Dl} {rev : Int} : (stL us adv ds rev).length ≤ 1024 := by
 unfold stL
 split
 ·unfold grl
  refine Nat.le_trans (List.length_filter_le _ _) ?_
  simp
 ·simp
theorem stL_ok {us : List Pr} {adv : Int} {ds : List Dl} {rev : Int} (hv : vT us adv = true) (hd : vD ds = true) (h0 : 0 ≤ rev) (h1 : rev ≤ 1073741824) : stL us adv ds rev = grl ds ∧ stE us adv ds rev = 0 ∧ stK us adv ds rev = rev - sumK (fun g => shr rev (hwS us ds g ds.length) (tW us ds ds.length)) (grl ds) := by
 have h : inB rev 0 1073741824 = true := by simp [inB, h0, h1]
 unfold stL stE stK
 rw [hv, hd, h]; exact ⟨rfl, rfl, rfl⟩
theorem settle_cases (us : List Pr) (adv : Int) (ds : List Dl) (rev : Int) : (stL us adv ds rev = [] ∧ stK us adv ds rev = 0 ∧ stE us adv ds rev = 1 ∧ avE us adv ds = 1) ∨ (stL us adv ds rev = [] ∧ stK us adv ds rev = 0 ∧ stE us adv ds rev = 2 ∧ avE us adv ds = 0) ∨
  (vT us adv = true ∧ vD ds = true ∧ 0 ≤ rev ∧ rev ≤ 1073741824 ∧ stE us adv ds rev = 0 ∧ avE us adv ds = 0 ∧ avV us adv ds = tA us adv ds ds.length) := by
 unfold stL stK stE avE avV
 by_cases h : (vT us adv && vD ds) = true
 ·rw [h]
  by_cases h2 : inB rev 0 1073741824 = true
  ·rw [h2]
   simp only [Bool.and_eq_true] at h
   have := inB_t h2
   exact .inr (.inr ⟨h.1, h.2, this.1, this.2, rfl, rfl, rfl⟩)
  ·rw [Bool.not_eq_true] at h2
   rw [h2]; exact .inr (.inl ⟨rfl, rfl, rfl, rfl⟩)
 ·rw [Bool.not_eq_true] at h
  rw [h]; exact .inl ⟨rfl, rfl, rfl, rfl⟩
def pS (f : Int → Int) (l : List Int) (i : Nat) : Int := sumK f (l.take i)
theorem pS_s {f : Int → Int} {l : List Int} {i : Nat} (h : i < l.length) : pS f l (i + 1) = pS f l i + f (l.getD i 0) := by
 unfold pS; rw [take_app h, sumK_app]; simp [sumK]
theorem pS_all {f : Int → Int} {l : List Int} : pS f l l.length = sumK f l := by unfold pS; rw [List.take_length]
theorem sumK_le {f g : Int → Int} : ∀ {l : List Int}, (∀ k ∈ l, f k ≤ g k) → sumK f l ≤ sumK g l
 | [], _ => Int.le_refl _
 | k :: l, h => by
  have a := h k (List.mem_cons_self ..)
  have b := sumK_le (l := l) fun x hx => h x (List.mem_cons_of_mem _ hx)
  simp only [sumK]; omega
theorem sumK_mul {f : Int → Int} {c : Int} : ∀ l : List Int, sumK (fun k => c * f k) l = c * sumK f l
 | [] => by simp [sumK]
 | k :: l => by simp only [sumK, sumK_mul l, Int.mul_add]
theorem sumK_mem {f : Int → Int} : ∀ {l : List Int}, (∀ k ∈ l, 0 ≤ f k) → sumK f l = 0 → ∀ k ∈ l, f k = 0
 | [], _, _, k, hk => by cases hk
 | x :: l, h, e, k, hk => by
  have a := h x (List.mem_cons_self ..)
  have hl : ∀ y ∈ l, 0 ≤ f y := fun y hy => h y (List.mem_cons_of_mem _ hy)
  have b : 0 ≤ sumK f l := by
   have := sumK_le (f := fun _ => 0) (g := f) (l := l) hl
   rw [sumK_zero (f := fun _ => (0 : Int)) (fun _ _ => rfl)] at this; exact this
  simp only [sumK] at e
  rcases List.mem_cons.1 hk with rfl | hk
  ·omega
  ·exact sumK_mem hl (by omega) k hk
def rcF (w : Int → Int) (g : Int) : Int := if 0 < w g then 1 else 0
theorem cents {w : Int → Int} {L : List Int} {rev all : Int} (h0 : 0 ≤ rev) (hw : ∀ g ∈ L, 0 ≤ w g) (hall : sumK w L = all) :
  0 ≤ rev - sumK (fun g => shr rev (w g) all) L ∧ (0 < sumK (rcF w) L → rev - sumK (fun g => shr rev (w g) all) L < sumK (rcF w) L) ∧ (sumK (rcF w) L = 0 → sumK (fun g => shr rev (w g) all) L = 0) := by
 have ha : 0 ≤ all := by
  rw [← hall]
  have := sumK_le (f := fun _ => 0) (g := w) (l := L) hw
  rw [sumK_zero (f := fun _ => (0 : Int)) (fun _ _ => rfl)] at this; exact this
 by_cases hz : all = 0
 ·have hs : sumK (fun g => shr rev (w g) all) L = 0 := sumK_zero fun k _ => by unfold shr; rw [if_pos hz]
  have hr : sumK (rcF w) L = 0 := sumK_zero fun k hk => by
   have := sumK_mem hw (by omega) k hk
   unfold rcF; rw [if_neg (by omega)]
  rw [hs, hr]; omega
 ·have hp : 0 < all := by omega
  have e1 : sumK (fun g => all * shr rev (w g) all) L ≤ sumK (fun g => rev * w g) L := sumK_le fun k hk => by
   show all * shr rev (w k) all ≤ rev * w k
   unfold shr; rw [if_neg hz]; exact Int.mul_ediv_self_le hz
  have e2 : sumK (fun g => rev * w g) L ≤ sumK (fun g => all * shr rev (w g) all + (all - 1) * rcF w g) L := sumK_le fun k hk => by
   show rev * w k ≤ all * shr rev (w k) all + (all - 1) * rcF w k
   unfold shr rcF; rw [if_neg hz]
   split
   ·have := Int.emod_add_mul_ediv (rev * w k) all
    have := Int.emod_lt_of_pos (rev * w k) hp
    omega
   ·have : w k = 0 := by have := hw k hk; omega
    rw [this]; simp
  have e3 := sumK_add (f := fun g => all * shr rev (w g) all) (g := fun g => (all - 1) * rcF w g) (h := fun g => all * shr rev (w g) all + (all - 1) * rcF w g) (fun _ => rfl) L
  rw [sumK_mul] at e1 e2
  rw [e3, sumK_mul, sumK_mul] at e2
  rw [sumK_mul] at e1
  rw [hall] at e1 e2
  generalize sumK (fun g => shr rev (w g) all) L = S at e1 e2 ⊢
  have hR : 0 ≤ sumK (rcF w) L := by
   have := sumK_le (f := fun _ => 0) (g := rcF w) (l := L) fun k _ => by unfold rcF; split <;> omega
   rw [sumK_zero (f := fun _ => (0 : Int)) (fun _ _ => rfl)] at this; exact this
  have hRz : sumK (rcF w) L ≠ 0 := by
   intro e
   refine hz ?_
   rw [← hall]
   refine sumK_zero fun k hk => ?_
   have h1 := sumK_mem (f := rcF w) (l := L) (fun k _ => by unfold rcF; split <;> omega) e k hk
   have h2 := hw k hk
   unfold rcF at h1
   split at h1 <;> omega
  generalize sumK (rcF w) L = R at e2 hR hRz ⊢
  have k1 : S ≤ rev := by
   rw [Int.mul_comm rev all] at e1
   exact Int.le_of_mul_le_mul_left e1 hp
  refine ⟨by omega, fun _ => ?_, fun e => absurd e hRz⟩
  refine Int.lt_of_mul_lt_mul_left (a := all) ?_ ha
  rw [Int.sub_mul, Int.one_mul, Int.mul_comm rev all] at e2
  rw [Int.mul_sub]
  omega
theorem nodup_grl {ds : List Dl} : (grl ds).Nodup := grl_sorted.imp fun h => by omega
theorem mem_grl {ds : List Dl} (hd : ds.any badD = false) {j : Nat} (hj : j < ds.length) : (ds.getD j Dl.z).r ∈ grl ds := (grl_mem hd).2 ⟨j, hj, rfl⟩
def sumL (f : Dl → Int) : List Dl → Int
 | [] => 0
 | d :: l => f d + sumL f l
theorem sumL_perm {f : Dl → Int} {a b : List Dl} (h : a.Perm b) : sumL f a = sumL f b := by
 induction h with
 | nil => rfl
 | cons x _ ih => simp only [sumL, ih]
 | swap x y l => simp only [sumL]; omega
 | trans _ _ h1 h2 => exact h1.trans h2
theorem sumL_app {f : Dl → Int} : ∀ (a b : List Dl), sumL f (a ++ b) = sumL f a + sumL f b
 | [], b => by simp [sumL]
 | x :: a, b => by simp only [List.cons_append, sumL, sumL_app a b]; omega
theorem takeD {ds : List Dl} {i : Nat} (h : i < ds.length) : ds.take (i + 1) = ds.take i ++ [ds.getD i Dl.z] := by
 rw [List.take_add_one, List.getElem?_eq_getElem h, List.getD_eq_getElem?_getD, List.getElem?_eq_getElem h]; rfl
theorem hwS_D {us : List Pr} {ds : List Dl} {g : Int} : ∀ k, k ≤ ds.length → hwS us ds g k = sumL (fun d => if d.r = g then wW us d else 0) (ds.take k)
 | 0, _ => by simp [hwS, sumL]
 | k + 1, h => by rw [takeD (by omega), sumL_app, ← hwS_D k (by omega)]; simp [hwS, sumL]
theorem haS_D {us : List Pr} {adv : Int} {ds : List Dl} {g : Int} : ∀ k, k ≤ ds.length → haS us adv ds g k = sumL (fun d => if d.r = g then wA us adv d else 0) (ds.take k)
 | 0, _ => by simp [haS, sumL]
 | k + 1, h => by rw [takeD (by omega), sumL_app, ← haS_D k (by omega)]; simp [haS, sumL]
theorem tW_D {us : List Pr} {ds : List Dl} : ∀ k, k ≤ ds.length → tW us ds k = sumL (wW us) (ds.take k)
 | 0, _ => by simp [tW, sumL]
 | k + 1, h => by rw [takeD (by omega), sumL_app, ← tW_D k (by omega)]; simp [tW, sumL]
theorem any_perm {α : Type} {p : α → Bool} {a b : List α} (h : a.Perm b) : a.any p = b.any p := by
 rw [Bool.eq_iff_iff]; simp only [List.any_eq_true]
 exact ⟨fun ⟨x, hx, q⟩ => ⟨x, h.mem_iff.1 hx, q⟩, fun ⟨x, hx, q⟩ => ⟨x, h.mem_iff.2 hx, q⟩⟩
theorem grl_perm {a b : List Dl} (h : a.Perm b) : grl a = grl b := by
 unfold grl
 congr 1
 funext g
 exact any_perm h
theorem vD_perm {a b : List Dl} (h : a.Perm b) : vD a = vD b := by unfold vD; rw [h.length_eq, any_perm h]
theorem hwS_perm {us : List Pr} {a b : List Dl} {g : Int} (h : a.Perm b) : hwS us a g a.length = hwS us b g b.length := by
 rw [hwS_D _ (Nat.le_refl _), hwS_D _ (Nat.le_refl _), List.take_length, List.take_length]; exact sumL_perm h
theorem haS_perm {us : List Pr} {adv : Int} {a b : List Dl} {g : Int} (h : a.Perm b) : haS us adv a g a.length = haS us adv b g b.length := by
 rw [haS_D _ (Nat.le_refl _), haS_D _ (Nat.le_refl _), List.take_length, List.take_length]; exact sumL_perm h
theorem tW_perm {us : List Pr} {a b : List Dl} (h : a.Perm b) : tW us a a.length = tW us b b.length := by
 rw [tW_D _ (Nat.le_refl _), tW_D _ (Nat.le_refl _), List.take_length, List.take_length]; exact sumL_perm h
theorem plc_perm {us : List Pr} {adv : Int} {a b : List Dl} {rev : Int} (h : a.Perm b) : plc us adv a rev = plc us adv b rev := by
 funext l
 unfold plc
 simp only [hwS_perm h, haS_perm h, tW_perm h]
theorem st_perm {us : List Pr} {adv : Int} {a b : List Dl} {rev : Int} (h : a.Perm b) : stL us adv a rev = stL us adv b rev ∧ stK us adv a rev = stK us adv b rev ∧ stE us adv a rev = stE us adv b rev := by
 unfold stL stK stE
 rw [vD_perm h, grl_perm h]
 simp only [hwS_perm h, tW_perm h]
 first | done | exact ⟨trivial, trivial, trivial⟩ | exact ⟨rfl, rfl, rfl⟩
def rotD (ds : List Dl) (t : Nat) : List Dl := (List.range ds.length).map fun i => ds.getD ((i + t) % ds.length) Dl.z
theorem rotD_len {ds : List Dl} {t : Nat} : (rotD ds t).length = ds.length := by simp [rotD]
theorem rotD_at {ds : List Dl} {t i : Nat} (h : i < ds.length) : (rotD ds t).getD i Dl.z = ds.getD ((i + t) % ds.length) Dl.z := by
 rw [List.getD_eq_getElem?_getD, List.getElem?_eq_getElem (by rw [rotD_len]; exact h)]
 simp [rotD]
theorem rotD_eq {ds : List Dl} {t : Nat} (h0 : 0 < ds.length) : rotD ds t = ds.drop (t % ds.length) ++ ds.take (t % ds.length) := by
 have ht : t % ds.length < ds.length := Nat.mod_lt _ h0
 apply List.ext_getElem
 ·rw [rotD_len]; simp; omega
 ·intro i h1 h2
  have hi : i < ds.length := by rwa [rotD_len] at h1
  have e : (rotD ds t)[i] = ds.getD ((i + t) % ds.length) Dl.z := by simp [rotD]
  rw [e, List.getElem_append]
  have em : (i + t) % ds.length = (i + t % ds.length) % ds.length := by rw [Nat.add_mod_mod]
  split
  ·rename_i h3
   simp only [List.length_drop] at h3
   rw [em, Nat.mod_eq_of_lt (by omega), List.getD_eq_getElem?_getD, List.getElem?_eq_getElem (by omega)]
   simp [Nat.add_comm]
  ·rename_i h3
   simp only [List.length_drop] at h3
   rw [em, Nat.mod_eq_sub_mod (by omega), Nat.mod_eq_of_lt (by omega), List.getD_eq_getElem?_getD, List.getElem?_eq_getElem (by omega)]
   simp only [List.getElem_take, List.length_drop, Option.getD_some]
   congr 1
   omega
theorem rotD_perm {ds : List Dl} {t : Nat} : (rotD ds t).Perm ds := by
 by_cases h0 : 0 < ds.length
 ·rw [rotD_eq h0]
  exact List.perm_append_comm.trans (by rw [List.take_append_drop])
 ·have : ds = [] := List.eq_nil_of_length_eq_zero (by omega)
  subst this; simp [rotD]
end Go.Ax

/-
 Pool: the law PoolCents, whatever the input (written by program).
-/
namespace Go.Ax
open Go Go.RowKit Go.Proofs

theorem se35 : sliceElem Try.prog 35 = some (26, 3) := by kernel_rfl
theorem un35 : Try.prog.underlying 35 = some (.slice 26) := by kernel_rfl
theorem zo26 : zeroOf Try.prog 26 = some (.agg #[iv 0, iv 0, iv 0]) := by kernel_rfl
theorem dlc_len : ∀ l : List Dl, (dlc l).length = l.length * 3
 | [] => rfl
 | d :: l => by
  have := dlc_len l
  simp only [dlc, List.flatMap_cons, List.length_append] at this ⊢
  rw [this]; simp only [Dl.f, List.length_cons, List.length_nil]; omega
theorem wt_ok {us : List Pr} {adv : Int} {d : Dl} (hv : vT us adv = true) (hb : badD d = false) : wtV us adv d = wW us d ∧ wtE us adv d = 0 := by
 unfold wtV wtE; rw [hv, hb]; exact ⟨rfl, rfl⟩
theorem pS_q {f : Int → Int} {l : List Int} {i : Nat} {v : Int} (h : i < l.length) (e : f (l.getD i 0) = v) : pS f l (i + 1) = pS f l i + v := by rw [pS_s h, e]
theorem pS_in {f : Int → Int} {l : List Int} {i : Nat} {M : Int} (h : ∀ g ∈ l, 0 ≤ f g ∧ f g ≤ M) (hM : 0 ≤ M) : 0 ≤ pS f l i ∧ pS f l i ≤ M * l.length := by
 have q := sumK_in (f := f) (M := M) (l := l.take i) fun g hg => h g (List.mem_of_mem_take hg)
 refine ⟨q.1, Int.le_trans q.2 (Int.mul_le_mul_of_nonneg_left ?_ hM)⟩
 rw [List.length_take]; omega
theorem sorted_at {l : List Int} (h : l.Pairwise (· < ·)) {i j : Nat} (hij : i < j) (hj : j < l.length) : l.getD i 0 < l.getD j 0 := by
 have := List.pairwise_iff_getElem.1 h i j (by omega) hj hij
 rw [List.getD_eq_getElem?_getD, List.getElem?_eq_getElem (by omega), List.getD_eq_getElem?_getD, List.getElem?_eq_getElem hj]; exact this
noncomputable section
section
variable {kn : Kn} {lo : Nat} {H : Hp}
set_option maxRecDepth 100000 in
set_option maxHeartbeats 4000000 in
theorem law_cents (s : Snd Try.prog kn) (hkn : kn.b 11 = some true) {us : List Pr} {sa : Option Addr} {n cap : Nat} {adv : Int} (hs : Sl H sa n cap (prc us)) (hl : us.length = n) {ds : List Dl} {la : Option Addr} {m capl : Nat} (hd : Sl H la m capl (dlc ds)) (hm : ds.length = m) {rev turn : Int} (ht : 0 ≤ turn ∧ turn ≤ 255) (hlo : lo ≤ H.next) : FnC Try.prog lo 6 [.agg #[.slice sa n cap, iv adv], .slice la m capl, iv rev, .int .u8 turn] H fun v _ => v = .bool true := by
 refine fnC_low s Try.func6 B6 N6 Z6 L6 (by simp) ?_
 have hk := Keep.refl H []
 have fs := hs.old
 have fd := hd.old
 refine wM_seq <| wM_box (v := .agg #[.slice sa n cap, iv adv]) rfl ?_
 intro H1 kH1 nH1 c1
 have c1 : Cl H1 H.next [.slice sa n cap, iv adv] := c1
 have mH1 := kH1.1
 have hk := hk.trans kH1
 have hs := kH1.sl0 hs
 have hd := kH1.sl0 hd
 refine wM_mov (v := .bool false) rfl <| wM_end <| wM_seq <| wM_lda (b := H.next) (o := 0) rfl c1.rd (show row 2 _ _ = some [.slice sa n cap, iv adv] from rfl) <| wM_mov (v := .slice la m capl) rfl <| wM_callB s rfl (many_ok (sa := sa) (n := n) (cap := cap) (adv := adv) (la := la) (m := m) (capl := capl)) ?_
 intro tH2 H2 hH2 kH2
 have mH2 := kH2.1
 have hk := hk.trans kH2
 have hs := kH2.sl0 hs
 have hd := kH2.sl0 hd
 have c1 := kH2.cl c1 (by simp)
 cases tH2
 ·have hmany : n ≤ 12 ∧ m ≤ 132 := by have q : manyB n m = false := hH2; unfold manyB at q; simp at q; omega
  have hn : n ≤ 1000000 := by omega
  refine wM_end <| condF ?_
  first | refine wM_skip ?_ | skip
  refine wM_seq <| wM_lda (b := H.next) (o := 0) rfl c1.rd (show row 2 _ _ = some [.slice sa n cap, iv adv] from rfl) <| wM_mov (v := .slice la m capl) rfl <| wM_mov (v := iv rev) rfl ?_
  rcases settle_cases us adv ds rev with ⟨eL, eK, eE, eA⟩ | ⟨eL, eK, eE, eA⟩ | ⟨hv, hvd, hr0, hr1, eE, eA, eV⟩
  ·refine wM_call (t := .fn (.func 18) #[]) rfl (callM_args s.hN (Settle_ok (H := H2) s (adv := adv) hs hl hn hd hm (by omega) (by omega) (rev := rev))) ?_
   rintro _ H3 ⟨pvp, rfl, hap, kH3⟩
   have mH3 := kH3.1
   have hk := hk.trans kH3
   have hs := kH3.sl0 hs
   have hd := kH3.sl0 hd
   have c1 := kH3.cl c1 (by simp)
   obtain ⟨pap, capp, rfl, hpp, _⟩ := hap.sl
   have fpp := hpp.old
   rw [eK, eE]
   have hL0 : (stL us adv ds rev).length = 0 := by rw [eL]; rfl
   refine wM_mov (v := .tuple #[.slice pap ((stL us adv ds rev).length) capp, iv 0, iv 1]) rfl <| wM_pur (v := .slice pap ((stL us adv ds rev).length) capp) rfl (by kernel_rfl) <| wM_pur (v := iv 0) rfl (by kernel_rfl) <| wM_pur (v := iv 1) rfl (by kernel_rfl) <| wM_mov (v := .slice pap ((stL us adv ds rev).length) capp) rfl <| wM_mov (v := iv 0) rfl <| wM_mov (v := iv 1) rfl <| wM_end <| wM_seq <| wM_lda (b := H.next) (o := 0) rfl c1.rd (show row 2 _ _ = some [.slice sa n cap, iv adv] from rfl) <| wM_mov (v := .slice la m capl) rfl <| wM_call (t := .fn (.func 16) #[]) rfl (callM_args s.hN (Advances_ok (H := H3) s (adv := adv) hs hl hn hd hm (by omega) (by omega))) ?_
   rintro _ H4 ⟨rfl, kH4⟩
   have mH4 := kH4.1
   have hk := hk.trans kH4
   have hs := kH4.sl0 hs
   have hd := kH4.sl0 hd
   have c1 := kH4.cl c1 (by simp)
   have hpp := kH4.sl0 hpp
   rw [eA]
   refine wM_mov (v := .tuple #[iv (avV us adv ds), iv 1]) rfl <| wM_pur (v := iv (avV us adv ds)) rfl (by kernel_rfl) <| wM_pur (v := iv 1) rfl (by kernel_rfl) <| wM_mov (v := iv (avV us adv ds)) rfl <| wM_mov (v := iv 1) rfl <| wM_end <| wM_seq <| wM_mov (v := iv 1) rfl <| wM_c_neq (a := 1) (b := 0) rfl rfl <| wM_end <| condT <| wM_seq ?_
   refine wM_mov (v := .slice pap ((stL us adv ds rev).length) capp) rfl <| wM_len (m := (stL us adv ds rev).length) rfl <| wM_b_eql (a := ((stL us adv ds rev).length : Int)) (b := 0) rfl rfl ?_
   intro t1 g1; cases t1
   ·have g1 : ¬ (((stL us adv ds rev).length : Int) = 0) := by simpa using g1
    omega
   ·have g1 : ((stL us adv ds rev).length : Int) = 0 := by simpa using g1
    refine wM_mov (v := .bool true) rfl ?_
    refine wM_g rfl (wM_mov (v := iv 0) rfl ?_)
    refine wM_g rfl (wM_b_eql (a := 0) (b := 0) rfl rfl ?_)
    intro t2 g2; obtain rfl : t2 = true := by rw [← g2]; rfl
    refine wM_pur (v := .bool true) rfl rfl <| wM_mov (v := .bool true) rfl ?_
    refine wM_g rfl (wM_mov (v := iv 1) rfl ?_)
    refine wM_g rfl (wM_b_eql (a := 1) (b := 1) rfl rfl ?_)
    intro t3 g3; obtain rfl : t3 = true := by rw [← g3]; rfl
    refine wM_g rfl (wM_mov (v := .bool true) rfl ?_)
    refine wM_g rfl (wM_mov (v := iv 1) rfl ?_)
    refine wM_g rfl (wM_mov (v := iv 1) rfl ?_)
    refine wM_g rfl (wM_b_eql (a := 1) (b := 1) rfl rfl ?_)
    intro t4 g4; obtain rfl : t4 = true := by rw [← g4]; rfl
    refine wM_g rfl (wM_pur (v := .bool true) rfl rfl ?_)
    refine wM_g rfl (wM_mov (v := .bool true) rfl ?_)
    refine wM_gs rfl <| wM_gs rfl <| wM_gs rfl <| wM_gu rfl <| wM_gu rfl <| wM_gs rfl ?_
    refine wM_g rfl (wM_pur (v := .bool true) rfl rfl ?_)
    refine wM_pur (v := .bool true) rfl rfl <| wM_mov (v := .bool true) rfl ?_
    refine wM_g rfl (wM_callf s (vs := []) rfl (callX_known hkn) ?_)
    refine wM_pur (v := .bool true) rfl rfl <| wM_mov (v := .bool true) rfl <| wM_end ?_
    exact And.intro trivial (Exists.intro _ (And.intro rfl rfl))
  ·refine wM_call (t := .fn (.func 18) #[]) rfl (callM_args s.hN (Settle_ok (H := H2) s (adv := adv) hs hl hn hd hm (by omega) (by omega) (rev := rev))) ?_
   rintro _ H3 ⟨pvp, rfl, hap, kH3⟩
   have mH3 := kH3.1
   have hk := hk.trans kH3
   have hs := kH3.sl0 hs
   have hd := kH3.sl0 hd
   have c1 := kH3.cl c1 (by simp)
   obtain ⟨pap, capp, rfl, hpp, _⟩ := hap.sl
   have fpp := hpp.old
   rw [eK, eE]
   have hL0 : (stL us adv ds rev).length = 0 := by rw [eL]; rfl
   refine wM_mov (v := .tuple #[.slice pap ((stL us adv ds rev).length) capp, iv 0, iv 2]) rfl <| wM_pur (v := .slice pap ((stL us adv ds rev).length) capp) rfl (by kernel_rfl) <| wM_pur (v := iv 0) rfl (by kernel_rfl) <| wM_pur (v := iv 2) rfl (by kernel_rfl) <| wM_mov (v := .slice pap ((stL us adv ds rev).length) capp) rfl <| wM_mov (v := iv 0) rfl <| wM_mov (v := iv 2) rfl <| wM_end <| wM_seq <| wM_lda (b := H.next) (o := 0) rfl c1.rd (show row 2 _ _ = some [.slice sa n cap, iv adv] from rfl) <| wM_mov (v := .slice la m capl) rfl <| wM_call (t := .fn (.func 16) #[]) rfl (callM_args s.hN (Advances_ok (H := H3) s (adv := adv) hs hl hn hd hm (by omega) (by omega))) ?_
   rintro _ H5 ⟨rfl, kH5⟩
   have mH5 := kH5.1
   have hk := hk.trans kH5
   have hs := kH5.sl0 hs
   have hd := kH5.sl0 hd
   have c1 := kH5.cl c1 (by simp)
   have hpp := kH5.sl0 hpp
   rw [eA]
   refine wM_mov (v := .tuple #[iv (avV us adv ds), iv 0]) rfl <| wM_pur (v := iv (avV us adv ds)) rfl (by kernel_rfl) <| wM_pur (v := iv 0) rfl (by kernel_rfl) <| wM_mov (v := iv (avV us adv ds)) rfl <| wM_mov (v := iv 0) rfl <| wM_end <| wM_seq <| wM_mov (v := iv 2) rfl <| wM_c_neq (a := 2) (b := 0) rfl rfl <| wM_end <| condT <| wM_seq ?_
   refine wM_mov (v := .slice pap ((stL us adv ds rev).length) capp) rfl <| wM_len (m := (stL us adv ds rev).length) rfl <| wM_b_eql (a := ((stL us adv ds rev).length : Int)) (b := 0) rfl rfl ?_
   intro t5 g5; cases t5
   ·have g5 : ¬ (((stL us adv ds rev).length : Int) = 0) := by simpa using g5
    omega
   ·have g5 : ((stL us adv ds rev).length : Int) = 0 := by simpa using g5
    refine wM_mov (v := .bool true) rfl ?_
    refine wM_g rfl (wM_mov (v := iv 0) rfl ?_)
    refine wM_g rfl (wM_b_eql (a := 0) (b := 0) rfl rfl ?_)
    intro t6 g6; obtain rfl : t6 = true := by rw [← g6]; rfl
    refine wM_pur (v := .bool true) rfl rfl <| wM_mov (v := .bool true) rfl ?_
    refine wM_g rfl (wM_mov (v := iv 2) rfl ?_)
    refine wM_g rfl (wM_b_eql (a := 2) (b := 1) rfl rfl ?_)
    intro t7 g7; obtain rfl : t7 = false := by rw [← g7]; rfl
    refine wM_g rfl (wM_mov (v := .bool false) rfl ?_)
    refine wM_gs rfl <| wM_gs rfl <| wM_gs rfl ?_
    refine wM_g rfl (wM_pur (v := .bool false) rfl rfl ?_)
    refine wM_g rfl (wM_mov (v := .bool false) rfl ?_)
    refine wM_g rfl (wM_mov (v := iv 2) rfl ?_)
    refine wM_g rfl (wM_b_eql (a := 2) (b := 2) rfl rfl ?_)
    intro t8 g8; obtain rfl : t8 = true := by rw [← g8]; rfl
    refine wM_g rfl (wM_mov (v := .bool true) rfl ?_)
    refine wM_g rfl (wM_mov (v := iv 0) rfl ?_)
    refine wM_g rfl (wM_b_eql (a := 0) (b := 0) rfl rfl ?_)
    intro t9 g9; obtain rfl : t9 = true := by rw [← g9]; rfl
    refine wM_g rfl (wM_pur (v := .bool true) rfl rfl ?_)
    refine wM_g rfl (wM_pur (v := .bool true) rfl rfl ?_)
    refine wM_pur (v := .bool true) rfl rfl <| wM_mov (v := .bool true) rfl ?_
    refine wM_g rfl (wM_callf s (vs := []) rfl (callX_known hkn) ?_)
    refine wM_pur (v := .bool true) rfl rfl <| wM_mov (v := .bool true) rfl <| wM_end ?_
    exact And.intro trivial (Exists.intro _ (And.intro rfl rfl))
  ·refine wM_call (t := .fn (.func 18) #[]) rfl (callM_args s.hN (Settle_ok (H := H2) s (adv := adv) hs hl hn hd hm (by omega) (by omega) (rev := rev))) ?_
   rintro _ H3 ⟨pvp, rfl, hap, kH3⟩
   have mH3 := kH3.1
   have hk := hk.trans kH3
   have hs := kH3.sl0 hs
   have hd := kH3.sl0 hd
   have c1 := kH3.cl c1 (by simp)
   obtain ⟨pap, capp, rfl, hpp, _⟩ := hap.sl
   have fpp := hpp.old
   obtain ⟨hLg, _, hK⟩ := stL_ok hv hvd hr0 hr1
   obtain ⟨L, hL⟩ : ∃ L, stL us adv ds rev = L := ⟨_, rfl⟩
   rw [hL] at hpp hLg ⊢
   rw [← hLg] at hK
   rw [eE]
   have hLs : L.Pairwise (· < ·) := by rw [hLg]; exact grl_sorted
   have hLl : L.length ≤ 1024 := by rw [← hL]; exact stL_len
   have hvt := vT_t hv
   have hdv := (vD_t hvd).2
   have hm2 := (vD_t hvd).1
   have hW := fun g => hwS_in (us := us) (ds := ds) (g := g) hvt.2.2.1 (by omega) hdv ds.length (Nat.le_refl _)
   have hA := fun g => haS_in (us := us) (adv := adv) (ds := ds) (g := g) hvt.2.2.1 (by omega) hvt.2.2.2.1 hvt.2.2.2.2 hdv ds.length (Nat.le_refl _)
   have hSh := fun g => shr_in hr0 hr1 (hW g).1 (hw_le_tW hvt.2.2.1 (by omega) hdv g ds.length (Nat.le_refl _))
   have F1 : sumK (fun g => hwS us ds g ds.length) L = (tW us ds ds.length) := by rw [hLg]; exact sum_hw nodup_grl ds.length (fun j hj => mem_grl hdv hj)
   have F2 : sumK (fun g => haS us adv ds g ds.length) L = tA us adv ds ds.length := by rw [hLg]; exact sum_ha nodup_grl ds.length (fun j hj => mem_grl hdv hj)
   have q := cents (w := (fun g => hwS us ds g ds.length)) (L := L) hr0 (fun g _ => (hW g).1) F1
   have F4 : 0 ≤ rev - sumK (fun g => shr rev (hwS us ds g ds.length) (tW us ds ds.length)) L := q.1
   have F5 : 0 < sumK (rcF (fun g => hwS us ds g ds.length)) L → rev - sumK (fun g => shr rev (hwS us ds g ds.length) (tW us ds ds.length)) L < sumK (rcF (fun g => hwS us ds g ds.length)) L := q.2.1
   have F6 : sumK (rcF (fun g => hwS us ds g ds.length)) L = 0 → sumK (fun g => shr rev (hwS us ds g ds.length) (tW us ds ds.length)) L = 0 := q.2.2
   clear q
   refine wM_mov (v := .tuple #[.slice pap L.length capp, iv (stK us adv ds rev), iv 0]) rfl <| wM_pur (v := .slice pap L.length capp) rfl (by kernel_rfl) <| wM_pur (v := iv (stK us adv ds rev)) rfl (by kernel_rfl) <| wM_pur (v := iv 0) rfl (by kernel_rfl) <| wM_mov (v := .slice pap L.length capp) rfl <| wM_mov (v := iv (stK us adv ds rev)) rfl <| wM_mov (v := iv 0) rfl <| wM_end <| wM_seq <| wM_lda (b := H.next) (o := 0) rfl c1.rd (show row 2 _ _ = some [.slice sa n cap, iv adv] from rfl) <| wM_mov (v := .slice la m capl) rfl <| wM_call (t := .fn (.func 16) #[]) rfl (callM_args s.hN (Advances_ok (H := H3) s (adv := adv) hs hl hn hd hm (by omega) (by omega))) ?_
   rintro _ H6 ⟨rfl, kH6⟩
   have mH6 := kH6.1
   have hk := hk.trans kH6
   have hs := kH6.sl0 hs
   have hd := kH6.sl0 hd
   have c1 := kH6.cl c1 (by simp)
   have hpp := kH6.sl0 hpp
   rw [eA]
   rw [eV]
   refine wM_mov (v := .tuple #[iv (tA us adv ds ds.length), iv 0]) rfl <| wM_pur (v := iv (tA us adv ds ds.length)) rfl (by kernel_rfl) <| wM_pur (v := iv 0) rfl (by kernel_rfl) <| wM_mov (v := iv (tA us adv ds ds.length)) rfl <| wM_mov (v := iv 0) rfl <| wM_end <| wM_seq <| wM_mov (v := iv 0) rfl <| wM_c_neq (a := 0) (b := 0) rfl rfl <| wM_end <| condF ?_
   first | refine wM_skip ?_ | skip
   refine wM_seq <| wM_mov (v := iv 0) rfl <| wM_b_neq (a := 0) (b := 0) rfl rfl ?_
   intro t10 g10; obtain rfl : t10 = false := by rw [← g10]; rfl
   refine wM_mov (v := .bool false) rfl ?_
   refine wM_g rfl (wM_mov (v := iv rev) rfl ?_)
   refine wM_g rfl (wM_b_lss (a := rev) (b := 0) rfl rfl ?_)
   intro t11 g11; cases t11
   ·have g11 : ¬ (rev < 0) := of_decide_eq_false g11
    refine wM_pur (v := .bool false) rfl rfl <| wM_end <| condF ?_
    first | refine wM_skip ?_ | skip
    refine wM_seq <| wM_mov (v := iv 0) rfl <| wM_mov (v := iv 0) rfl <| wM_mov (v := iv 0) rfl <| wM_mov (v := iv 0) rfl <| wM_end <| wM_seq <| wM_mov (v := iv 0) rfl <| wM_end ?_
    refine loopM_low s (fn := Try.f6) E6_1 N6 L6x1 (fun i : Nat => [(1, .slice la m capl), (2, iv rev), (3, .int .u8 turn), (4, pt H.next), (9, .slice pap L.length capp), (10, iv (stK us adv ds rev)), (12, iv (tA us adv ds ds.length)), (14, iv (pS (fun g => shr rev (hwS us ds g ds.length) (tW us ds ds.length)) L i)), (15, iv (pS (fun g => haS us adv ds g ds.length) L i)), (16, iv (pS (rcF (fun g => hwS us ds g ds.length)) L i)), (17, iv (pS (fun g => hwS us ds g ds.length) L i)), (18, iv (i : Int))])
     (fun k i H' => i + k = L.length ∧ Keep H H' [] ∧ H6.next ≤ H'.next ∧ Sl H' sa n cap (prc us) ∧ Sl H' la m capl (dlc ds) ∧ Sl H' pap L.length capp (plc us adv ds rev L) ∧ Cl H' H.next [.slice sa n cap, iv adv]) L.length 0 ⟨by omega, hk, Nat.le_refl _, hs, hd, hpp, c1⟩ ⟨rfl, rfl, rfl, rfl, rfl, rfl, rfl, rfl, rfl, rfl, rfl, rfl, trivial⟩ ?_
    rintro k i L1 ⟨hik, hk, hnx, hs, hd, hpp, c1⟩
    have mk := hk.1
    refine wM_seq <| wM_mov (v := iv (i : Int)) rfl <| wM_mov (v := .slice pap L.length capp) rfl <| wM_len (m := L.length) rfl <| wM_c_lss (a := (i : Int)) (b := (L.length : Int)) rfl rfl <| wM_end ?_
    refine And.intro (fun q12 => ?_) (fun q12 => ?_)
    ·have q12 : (i : Int) < (L.length : Int) := of_decide_eq_true q12
     have hi : i < L.length := by omega
     rcases id hpp with ⟨_, h0s, _⟩ | ⟨sb, es, rs, _⟩
     ·omega
     have ls := rs.1
     have lsb2 := fpp sb es
     have b1 := hW (L.getD i 0)
     have b2 := hA (L.getD i 0)
     have b3 := hSh (L.getD i 0)
     have p1 := pS_in (f := (fun g => shr rev (hwS us ds g ds.length) (tW us ds ds.length))) (M := 1073741824) (l := L) (i := i) (fun g _ => ⟨(hSh g).1, Int.le_trans (hSh g).2 hr1⟩) (by omega)
     have p2 := pS_in (f := (fun g => haS us adv ds g ds.length)) (M := 4494803584) (l := L) (i := i) (fun g _ => ⟨(hA g).1, Int.le_trans (hA g).2 (by omega)⟩) (by omega)
     have p3 := pS_in (f := (fun g => hwS us ds g ds.length)) (M := 4494803584) (l := L) (i := i) (fun g _ => ⟨(hW g).1, Int.le_trans (hW g).2 (by omega)⟩) (by omega)
     have p4 := pS_in (f := (rcF (fun g => hwS us ds g ds.length))) (M := 1) (l := L) (i := i) (fun g _ => by unfold rcF; split <;> omega) (by omega)
     have hsr : 0 < i → L.getD (i - 1) 0 < L.getD i 0 := fun h => sorted_at hLs (by omega) hi
     first | refine wM_skip ?_ | skip
     refine wM_seq <| wM_mov (v := .slice pap L.length capp) rfl <| wM_mov (v := iv (i : Int)) rfl <| wM_idx (b := sb) (o := 0) (k := i) (j := (i : Int)) (by rw [← es]; rfl) rfl rfl hi <| wM_lda (b := sb) (o := 0 + i * 5) rfl rs (plc_row (by omega)) <| wM_alc ?_
     intro H7 kH7 nH7 c7
     have c7 : Cl H7 L1.next [iv 0, iv 0, iv 0, iv 0, iv 0] := c7
     have mH7 := kH7.1
     have hk := hk.trans kH7
     have hs := kH7.sl0 hs
     have hd := kH7.sl0 hd
     have hpp := kH7.sl0 hpp
     have c1 := kH7.cl c1 (by simp)
     have rs := kH7.rd rs (by simp)
     refine wM_sta (b := L1.next) (o := 0) rfl rfl c7 (by omega) rfl rfl (by simp) ?_
     intro H8 kH8 nH8 sH8
     have mH8 := kH8.1
     have hk := hk.new kH8 (fun b hb => by simp at hb ⊢; omega)
     have hs := kH8.sl hs (fun b e => by have := fs b e; first | (simp; done) | (simp; omega))
     have hd := kH8.sl hd (fun b e => by have := fd b e; first | (simp; done) | (simp; omega))
     have hpp := kH8.sl hpp (fun b e => by have := fpp b e; first | (simp; done) | (simp; omega))
     have c1 := kH8.cl c1 (by first | (simp; done) | (simp; omega))
     have rs := kH8.rd rs (by first | (simp; done) | (simp; omega))
     have c7 : Cl H8 L1.next [iv (L.getD i 0), iv (hwS us ds (L.getD i 0) ds.length), iv (haS us adv ds (L.getD i 0) ds.length), iv (shr rev (hwS us ds (L.getD i 0) ds.length) (tW us ds ds.length)), iv (shr rev (hwS us ds (L.getD i 0) ds.length) (tW us ds ds.length) - haS us adv ds (L.getD i 0) ds.length)] := sH8
     refine wM_end <| wM_dseq <| wD_addo (b := L1.next) (o := 0) rfl <| wD_ld (b := L1.next) (o := 1) (v := iv (hwS us ds (L.getD i 0) ds.length)) rfl c7.rd rfl <| wD_b_lss (a := (hwS us ds (L.getD i 0) ds.length)) (b := 0) rfl rfl ?_
     intro t13 g13; cases t13
     ·have g13 : ¬ ((hwS us ds (L.getD i 0) ds.length) < 0) := of_decide_eq_false g13
      refine wD_mov (v := .bool false) rfl ?_
      refine wD_g rfl (wD_addo (b := L1.next) (o := 0) rfl ?_)
      refine wD_g rfl (wD_ld (b := L1.next) (o := 3) (v := iv (shr rev (hwS us ds (L.getD i 0) ds.length) (tW us ds ds.length))) rfl c7.rd rfl ?_)
      refine wD_g rfl (wD_b_lss (a := (shr rev (hwS us ds (L.getD i 0) ds.length) (tW us ds ds.length))) (b := 0) rfl rfl ?_)
      intro t14 g14; cases t14
      ·have g14 : ¬ ((shr rev (hwS us ds (L.getD i 0) ds.length) (tW us ds ds.length)) < 0) := of_decide_eq_false g14
       refine wD_pur (v := .bool false) rfl rfl <| wD_mov (v := .bool false) rfl ?_
       refine wD_g rfl (wD_addo (b := L1.next) (o := 0) rfl ?_)
       refine wD_g rfl (wD_ld (b := L1.next) (o := 4) (v := iv (shr rev (hwS us ds (L.getD i 0) ds.length) (tW us ds ds.length) - haS us adv ds (L.getD i 0) ds.length)) rfl c7.rd rfl ?_)
       refine wD_g rfl (wD_addo (b := L1.next) (o := 0) rfl ?_)
       refine wD_g rfl (wD_ld (b := L1.next) (o := 3) (v := iv (shr rev (hwS us ds (L.getD i 0) ds.length) (tW us ds ds.length))) rfl c7.rd rfl ?_)
       refine wD_g rfl (wD_addo (b := L1.next) (o := 0) rfl ?_)
       refine wD_g rfl (wD_ld (b := L1.next) (o := 2) (v := iv (haS us adv ds (L.getD i 0) ds.length)) rfl c7.rd rfl ?_)
       refine wD_g rfl (wD_sub (a := (shr rev (hwS us ds (L.getD i 0) ds.length) (tW us ds ds.length))) (b := (haS us adv ds (L.getD i 0) ds.length)) rfl rfl ⟨by omega, by omega⟩ ?_)
       refine wD_g rfl (wD_b_neq (a := (shr rev (hwS us ds (L.getD i 0) ds.length) (tW us ds ds.length) - haS us adv ds (L.getD i 0) ds.length)) (b := (shr rev (hwS us ds (L.getD i 0) ds.length) (tW us ds ds.length)) - (haS us adv ds (L.getD i 0) ds.length)) rfl rfl ?_)
       intro t15 g15; cases t15
       ·have g15 : ¬ ((shr rev (hwS us ds (L.getD i 0) ds.length) (tW us ds ds.length) - haS us adv ds (L.getD i 0) ds.length) ≠ ((shr rev (hwS us ds (L.getD i 0) ds.length) (tW us ds ds.length)) - (haS us adv ds (L.getD i 0) ds.length))) := by simpa using g15
        refine wD_pur (v := .bool false) rfl rfl <| wD_mov (v := .bool false) rfl ?_
        refine wD_g rfl (wD_mov (v := iv (i : Int)) rfl ?_)
        refine wD_g rfl (wD_b_gtr (a := (i : Int)) (b := 0) rfl rfl ?_)
        intro t16 g16; cases t16
        ·have g16 : ¬ ((i : Int) > 0) := of_decide_eq_false g16
         refine wD_g rfl (wD_mov (v := .bool false) rfl ?_)
         refine wD_gs rfl <| wD_gs rfl <| wD_gs rfl <| wD_gs rfl <| wD_gs rfl <| wD_gs rfl <| wD_gs rfl <| wD_gs rfl <| wD_gs rfl ?_
         refine wD_g rfl (wD_pur (v := .bool false) rfl rfl ?_)
         refine wD_pur (v := .bool false) rfl rfl ?_
         refine wD_end (by repeat' first | exact True.intro | exact (fun h => h) | refine And.intro ?_ ?_ | (intro h; have h : (_ : Nat) = _ := h; omega)) ?_
         refine condF ?_
         first | refine wM_skip ?_ | skip
         refine wM_seq <| wM_addo (b := L1.next) (o := 0) rfl <| wM_ld (b := L1.next) (o := 1) (v := iv (hwS us ds (L.getD i 0) ds.length)) rfl c7.rd rfl <| wM_c_gtr (a := (hwS us ds (L.getD i 0) ds.length)) (b := 0) rfl rfl <| wM_end ?_
         refine And.intro (fun q17 => ?_) (fun q17 => ?_)
         ·have q17 : (hwS us ds (L.getD i 0) ds.length) > 0 := of_decide_eq_true q17
          have hrc : (rcF (fun g => hwS us ds g ds.length)) (L.getD i 0) = 1 := by unfold rcF; exact if_pos (by omega)
          refine wM_seq <| wM_mov (v := iv (pS (rcF (fun g => hwS us ds g ds.length)) L i)) rfl <| wM_add (a := (pS (rcF (fun g => hwS us ds g ds.length)) L i)) (b := 1) rfl rfl ⟨by omega, by omega⟩ <| wM_mov (v := iv ((pS (rcF (fun g => hwS us ds g ds.length)) L i) + 1)) rfl <| wM_end <| wM_seq <| wM_mov (v := iv (pS (fun g => shr rev (hwS us ds g ds.length) (tW us ds ds.length)) L i)) rfl <| wM_addo (b := L1.next) (o := 0) rfl <| wM_ld (b := L1.next) (o := 3) (v := iv (shr rev (hwS us ds (L.getD i 0) ds.length) (tW us ds ds.length))) rfl c7.rd rfl <| wM_add (a := (pS (fun g => shr rev (hwS us ds g ds.length) (tW us ds ds.length)) L i)) (b := (shr rev (hwS us ds (L.getD i 0) ds.length) (tW us ds ds.length))) rfl rfl ⟨by omega, by omega⟩ <| wM_mov (v := iv ((pS (fun g => shr rev (hwS us ds g ds.length) (tW us ds ds.length)) L i) + (shr rev (hwS us ds (L.getD i 0) ds.length) (tW us ds ds.length)))) rfl <| wM_end ?_
          refine wM_seq <| wM_mov (v := iv (pS (fun g => haS us adv ds g ds.length) L i)) rfl <| wM_addo (b := L1.next) (o := 0) rfl <| wM_ld (b := L1.next) (o := 2) (v := iv (haS us adv ds (L.getD i 0) ds.length)) rfl c7.rd rfl <| wM_add (a := (pS (fun g => haS us adv ds g ds.length) L i)) (b := (haS us adv ds (L.getD i 0) ds.length)) rfl rfl ⟨by omega, by omega⟩ <| wM_mov (v := iv ((pS (fun g => haS us adv ds g ds.length) L i) + (haS us adv ds (L.getD i 0) ds.length))) rfl <| wM_end ?_
          first | refine wM_reg ?_ | refine wM_blk ?_ | refine wM_bseq ?_ | (refine wOps_nil ?_; refine wM_reg ?_)
          refine wM_mov (v := iv (pS (fun g => hwS us ds g ds.length) L i)) rfl <| wM_addo (b := L1.next) (o := 0) rfl <| wM_ld (b := L1.next) (o := 1) (v := iv (hwS us ds (L.getD i 0) ds.length)) rfl c7.rd rfl <| wM_add (a := (pS (fun g => hwS us ds g ds.length) L i)) (b := (hwS us ds (L.getD i 0) ds.length)) rfl rfl ⟨by omega, by omega⟩ <| wM_mov (v := iv ((pS (fun g => hwS us ds g ds.length) L i) + (hwS us ds (L.getD i 0) ds.length))) rfl <| wM_end ?_
          first | refine wM_reg ?_ | refine wM_blk ?_ | refine wM_bseq ?_ | (refine wOps_nil ?_; refine wM_reg ?_)
          refine wM_mov (v := iv (i : Int)) rfl <| wM_add (a := (i : Int)) (b := 1) rfl rfl ⟨by omega, by omega⟩ <| wM_mov (v := iv ((i : Int) + 1)) rfl <| wM_end ?_
          exact ⟨k - 1, i + 1, by omega, ⟨by omega, hk, by omega, hs, hd, hpp, c1⟩, rfl, rfl, rfl, rfl, rfl, rfl, rfl, ivq (pS_q (by omega) rfl).symm, ivq (pS_q (by omega) rfl).symm, ivq (pS_q (by omega) hrc).symm, ivq (pS_q (by omega) rfl).symm, rfl, trivial⟩
         ·have q17 : ¬ ((hwS us ds (L.getD i 0) ds.length) > 0) := of_decide_eq_false q17
          have hrc : (rcF (fun g => hwS us ds g ds.length)) (L.getD i 0) = 0 := by unfold rcF; exact if_neg (by omega)
          first | refine wM_skip ?_ | skip
          refine wM_seq <| wM_mov (v := iv (pS (fun g => shr rev (hwS us ds g ds.length) (tW us ds ds.length)) L i)) rfl <| wM_addo (b := L1.next) (o := 0) rfl <| wM_ld (b := L1.next) (o := 3) (v := iv (shr rev (hwS us ds (L.getD i 0) ds.length) (tW us ds ds.length))) rfl c7.rd rfl <| wM_add (a := (pS (fun g => shr rev (hwS us ds g ds.length) (tW us ds ds.length)) L i)) (b := (shr rev (hwS us ds (L.getD i 0) ds.length) (tW us ds ds.length))) rfl rfl ⟨by omega, by omega⟩ <| wM_mov (v := iv ((pS (fun g => shr rev (hwS us ds g ds.length) (tW us ds ds.length)) L i) + (shr rev (hwS us ds (L.getD i 0) ds.length) (tW us ds ds.length)))) rfl <| wM_end <| wM_seq <| wM_mov (v := iv (pS (fun g => haS us adv ds g ds.length) L i)) rfl <| wM_addo (b := L1.next) (o := 0) rfl <| wM_ld (b := L1.next) (o := 2) (v := iv (haS us adv ds (L.getD i 0) ds.length)) rfl c7.rd rfl <| wM_add (a := (pS (fun g => haS us adv ds g ds.length) L i)) (b := (haS us adv ds (L.getD i 0) ds.length)) rfl rfl ⟨by omega, by omega⟩ ?_
          refine wM_mov (v := iv ((pS (fun g => haS us adv ds g ds.length) L i) + (haS us adv ds (L.getD i 0) ds.length))) rfl <| wM_end ?_
          first | refine wM_reg ?_ | refine wM_blk ?_ | refine wM_bseq ?_ | (refine wOps_nil ?_; refine wM_reg ?_)
          refine wM_mov (v := iv (pS (fun g => hwS us ds g ds.length) L i)) rfl <| wM_addo (b := L1.next) (o := 0) rfl <| wM_ld (b := L1.next) (o := 1) (v := iv (hwS us ds (L.getD i 0) ds.length)) rfl c7.rd rfl <| wM_add (a := (pS (fun g => hwS us ds g ds.length) L i)) (b := (hwS us ds (L.getD i 0) ds.length)) rfl rfl ⟨by omega, by omega⟩ <| wM_mov (v := iv ((pS (fun g => hwS us ds g ds.length) L i) + (hwS us ds (L.getD i 0) ds.length))) rfl <| wM_end ?_
          first | refine wM_reg ?_ | refine wM_blk ?_ | refine wM_bseq ?_ | (refine wOps_nil ?_; refine wM_reg ?_)
          refine wM_mov (v := iv (i : Int)) rfl <| wM_add (a := (i : Int)) (b := 1) rfl rfl ⟨by omega, by omega⟩ <| wM_mov (v := iv ((i : Int) + 1)) rfl <| wM_end ?_
          exact ⟨k - 1, i + 1, by omega, ⟨by omega, hk, by omega, hs, hd, hpp, c1⟩, rfl, rfl, rfl, rfl, rfl, rfl, rfl, ivq (pS_q (by omega) rfl).symm, ivq (pS_q (by omega) rfl).symm, ivq (by rw [pS_q (by omega) hrc]; omega), ivq (pS_q (by omega) rfl).symm, rfl, trivial⟩
        ·have g16 : (i : Int) > 0 := of_decide_eq_true g16
         refine wD_g rfl (wD_mov (v := .bool true) rfl ?_)
         refine wD_g rfl (wD_addo (b := L1.next) (o := 0) rfl ?_)
         refine wD_g rfl (wD_ld (b := L1.next) (o := 0) (v := iv (L.getD i 0)) rfl c7.rd rfl ?_)
         refine wD_g rfl (wD_mov (v := .slice pap L.length capp) rfl ?_)
         refine wD_g rfl (wD_mov (v := iv (i : Int)) rfl ?_)
         refine wD_g rfl (wD_sub (a := (i : Int)) (b := 1) rfl rfl ⟨by omega, by omega⟩ ?_)
         refine wD_g rfl (wD_idx (b := sb) (o := 0) (k := (i - 1)) (j := ((i : Int) - 1)) (by rw [← es]; rfl) rfl (by omega) (by omega) ?_)
         refine wD_g rfl (wD_addo (b := sb) (o := 0 + (i - 1) * 5) rfl ?_)
         refine wD_g rfl (wD_ld (b := sb) (o := 0 + (i - 1) * 5) (v := iv (L.getD (i - 1) 0)) rfl rs (row_get (j := 0) (plc_row (l := L) (i := (i - 1)) (by omega)) rfl) ?_)
         refine wD_g rfl (wD_b_leq (a := (L.getD i 0)) (b := (L.getD (i - 1) 0)) rfl rfl ?_)
         intro t18 g18; cases t18
         ·have g18 : ¬ ((L.getD i 0) ≤ (L.getD (i - 1) 0)) := of_decide_eq_false g18
          refine wD_g rfl (wD_pur (v := .bool false) rfl rfl ?_)
          refine wD_pur (v := .bool false) rfl rfl ?_
          refine wD_end (by repeat' first | exact True.intro | exact (fun h => h) | refine And.intro ?_ ?_ | (intro h; have h : (_ : Nat) = _ := h; omega)) ?_
          refine condF ?_
          first | refine wM_skip ?_ | skip
          refine wM_seq <| wM_addo (b := L1.next) (o := 0) rfl <| wM_ld (b := L1.next) (o := 1) (v := iv (hwS us ds (L.getD i 0) ds.length)) rfl c7.rd rfl <| wM_c_gtr (a := (hwS us ds (L.getD i 0) ds.length)) (b := 0) rfl rfl <| wM_end ?_
          refine And.intro (fun q19 => ?_) (fun q19 => ?_)
          ·have q19 : (hwS us ds (L.getD i 0) ds.length) > 0 := of_decide_eq_true q19
           have hrc : (rcF (fun g => hwS us ds g ds.length)) (L.getD i 0) = 1 := by unfold rcF; exact if_pos (by omega)
           refine wM_seq <| wM_mov (v := iv (pS (rcF (fun g => hwS us ds g ds.length)) L i)) rfl <| wM_add (a := (pS (rcF (fun g => hwS us ds g ds.length)) L i)) (b := 1) rfl rfl ⟨by omega, by omega⟩ <| wM_mov (v := iv ((pS (rcF (fun g => hwS us ds g ds.length)) L i) + 1)) rfl <| wM_end <| wM_seq <| wM_mov (v := iv (pS (fun g => shr rev (hwS us ds g ds.length) (tW us ds ds.length)) L i)) rfl <| wM_addo (b := L1.next) (o := 0) rfl <| wM_ld (b := L1.next) (o := 3) (v := iv (shr rev (hwS us ds (L.getD i 0) ds.length) (tW us ds ds.length))) rfl c7.rd rfl <| wM_add (a := (pS (fun g => shr rev (hwS us ds g ds.length) (tW us ds ds.length)) L i)) (b := (shr rev (hwS us ds (L.getD i 0) ds.length) (tW us ds ds.length))) rfl rfl ⟨by omega, by omega⟩ <| wM_mov (v := iv ((pS (fun g => shr rev (hwS us ds g ds.length) (tW us ds ds.length)) L i) + (shr rev (hwS us ds (L.getD i 0) ds.length) (tW us ds ds.length)))) rfl <| wM_end ?_
           refine wM_seq <| wM_mov (v := iv (pS (fun g => haS us adv ds g ds.length) L i)) rfl <| wM_addo (b := L1.next) (o := 0) rfl <| wM_ld (b := L1.next) (o := 2) (v := iv (haS us adv ds (L.getD i 0) ds.length)) rfl c7.rd rfl <| wM_add (a := (pS (fun g => haS us adv ds g ds.length) L i)) (b := (haS us adv ds (L.getD i 0) ds.length)) rfl rfl ⟨by omega, by omega⟩ <| wM_mov (v := iv ((pS (fun g => haS us adv ds g ds.length) L i) + (haS us adv ds (L.getD i 0) ds.length))) rfl <| wM_end ?_
           first | refine wM_reg ?_ | refine wM_blk ?_ | refine wM_bseq ?_ | (refine wOps_nil ?_; refine wM_reg ?_)
           refine wM_mov (v := iv (pS (fun g => hwS us ds g ds.length) L i)) rfl <| wM_addo (b := L1.next) (o := 0) rfl <| wM_ld (b := L1.next) (o := 1) (v := iv (hwS us ds (L.getD i 0) ds.length)) rfl c7.rd rfl <| wM_add (a := (pS (fun g => hwS us ds g ds.length) L i)) (b := (hwS us ds (L.getD i 0) ds.length)) rfl rfl ⟨by omega, by omega⟩ <| wM_mov (v := iv ((pS (fun g => hwS us ds g ds.length) L i) + (hwS us ds (L.getD i 0) ds.length))) rfl <| wM_end ?_
           first | refine wM_reg ?_ | refine wM_blk ?_ | refine wM_bseq ?_ | (refine wOps_nil ?_; refine wM_reg ?_)
           refine wM_mov (v := iv (i : Int)) rfl <| wM_add (a := (i : Int)) (b := 1) rfl rfl ⟨by omega, by omega⟩ <| wM_mov (v := iv ((i : Int) + 1)) rfl <| wM_end ?_
           exact ⟨k - 1, i + 1, by omega, ⟨by omega, hk, by omega, hs, hd, hpp, c1⟩, rfl, rfl, rfl, rfl, rfl, rfl, rfl, ivq (pS_q (by omega) rfl).symm, ivq (pS_q (by omega) rfl).symm, ivq (pS_q (by omega) hrc).symm, ivq (pS_q (by omega) rfl).symm, rfl, trivial⟩
          ·have q19 : ¬ ((hwS us ds (L.getD i 0) ds.length) > 0) := of_decide_eq_false q19
           have hrc : (rcF (fun g => hwS us ds g ds.length)) (L.getD i 0) = 0 := by unfold rcF; exact if_neg (by omega)
           first | refine wM_skip ?_ | skip
           refine wM_seq <| wM_mov (v := iv (pS (fun g => shr rev (hwS us ds g ds.length) (tW us ds ds.length)) L i)) rfl <| wM_addo (b := L1.next) (o := 0) rfl <| wM_ld (b := L1.next) (o := 3) (v := iv (shr rev (hwS us ds (L.getD i 0) ds.length) (tW us ds ds.length))) rfl c7.rd rfl <| wM_add (a := (pS (fun g => shr rev (hwS us ds g ds.length) (tW us ds ds.length)) L i)) (b := (shr rev (hwS us ds (L.getD i 0) ds.length) (tW us ds ds.length))) rfl rfl ⟨by omega, by omega⟩ <| wM_mov (v := iv ((pS (fun g => shr rev (hwS us ds g ds.length) (tW us ds ds.length)) L i) + (shr rev (hwS us ds (L.getD i 0) ds.length) (tW us ds ds.length)))) rfl <| wM_end <| wM_seq <| wM_mov (v := iv (pS (fun g => haS us adv ds g ds.length) L i)) rfl <| wM_addo (b := L1.next) (o := 0) rfl <| wM_ld (b := L1.next) (o := 2) (v := iv (haS us adv ds (L.getD i 0) ds.length)) rfl c7.rd rfl <| wM_add (a := (pS (fun g => haS us adv ds g ds.length) L i)) (b := (haS us adv ds (L.getD i 0) ds.length)) rfl rfl ⟨by omega, by omega⟩ ?_
           refine wM_mov (v := iv ((pS (fun g => haS us adv ds g ds.length) L i) + (haS us adv ds (L.getD i 0) ds.length))) rfl <| wM_end ?_
           first | refine wM_reg ?_ | refine wM_blk ?_ | refine wM_bseq ?_ | (refine wOps_nil ?_; refine wM_reg ?_)
           refine wM_mov (v := iv (pS (fun g => hwS us ds g ds.length) L i)) rfl <| wM_addo (b := L1.next) (o := 0) rfl <| wM_ld (b := L1.next) (o := 1) (v := iv (hwS us ds (L.getD i 0) ds.length)) rfl c7.rd rfl <| wM_add (a := (pS (fun g => hwS us ds g ds.length) L i)) (b := (hwS us ds (L.getD i 0) ds.length)) rfl rfl ⟨by omega, by omega⟩ <| wM_mov (v := iv ((pS (fun g => hwS us ds g ds.length) L i) + (hwS us ds (L.getD i 0) ds.length))) rfl <| wM_end ?_
           first | refine wM_reg ?_ | refine wM_blk ?_ | refine wM_bseq ?_ | (refine wOps_nil ?_; refine wM_reg ?_)
           refine wM_mov (v := iv (i : Int)) rfl <| wM_add (a := (i : Int)) (b := 1) rfl rfl ⟨by omega, by omega⟩ <| wM_mov (v := iv ((i : Int) + 1)) rfl <| wM_end ?_
           exact ⟨k - 1, i + 1, by omega, ⟨by omega, hk, by omega, hs, hd, hpp, c1⟩, rfl, rfl, rfl, rfl, rfl, rfl, rfl, ivq (pS_q (by omega) rfl).symm, ivq (pS_q (by omega) rfl).symm, ivq (by rw [pS_q (by omega) hrc]; omega), ivq (pS_q (by omega) rfl).symm, rfl, trivial⟩
         ·have g18 : (L.getD i 0) ≤ (L.getD (i - 1) 0) := of_decide_eq_true g18
          omega
       ·have g15 : (shr rev (hwS us ds (L.getD i 0) ds.length) (tW us ds ds.length) - haS us adv ds (L.getD i 0) ds.length) ≠ ((shr rev (hwS us ds (L.getD i 0) ds.length) (tW us ds ds.length)) - (haS us adv ds (L.getD i 0) ds.length)) := by simpa using g15
        omega
      ·have g14 : (shr rev (hwS us ds (L.getD i 0) ds.length) (tW us ds ds.length)) < 0 := of_decide_eq_true g14
       omega
     ·have g13 : (hwS us ds (L.getD i 0) ds.length) < 0 := of_decide_eq_true g13
      omega
    ·have q12 : ¬ ((i : Int) < (L.length : Int)) := of_decide_eq_false q12
     have e : L.length = i := by omega
     subst e
     first | (refine wM_exit ?_; show wCM _ _ _ _ _ _ _ _ _) | skip
     refine wM_seq <| wM_mov (v := iv 0) rfl <| wM_end <| wM_seq <| wM_mov (v := iv 0) rfl <| wM_end ?_
     refine loopM_low s (fn := Try.f6) E6_2 N6 L6x2 (fun i : Nat => [(1, .slice la m capl), (2, iv rev), (3, .int .u8 turn), (4, pt H.next), (9, .slice pap L.length capp), (10, iv (stK us adv ds rev)), (12, iv (tA us adv ds ds.length)), (14, iv (pS (fun g => shr rev (hwS us ds g ds.length) (tW us ds ds.length)) L L.length)), (15, iv (pS (fun g => haS us adv ds g ds.length) L L.length)), (16, iv (pS (rcF (fun g => hwS us ds g ds.length)) L L.length)), (17, iv (pS (fun g => hwS us ds g ds.length) L L.length)), (20, iv (tW us ds i)), (21, iv (i : Int))])
      (fun k i H' => i + k = m ∧ Keep H H' [] ∧ L1.next ≤ H'.next ∧ Sl H' sa n cap (prc us) ∧ Sl H' la m capl (dlc ds) ∧ Sl H' pap L.length capp (plc us adv ds rev L) ∧ Cl H' H.next [.slice sa n cap, iv adv]) m 0 ⟨by omega, hk, Nat.le_refl _, hs, hd, hpp, c1⟩ ⟨rfl, rfl, rfl, rfl, rfl, rfl, rfl, rfl, rfl, rfl, rfl, rfl, rfl, trivial⟩ ?_
     rintro k i L2 ⟨hik2, hk, hnx2, hs, hd, hpp, c1⟩
     have mk := hk.1
     refine wM_seq <| wM_mov (v := iv (i : Int)) rfl <| wM_mov (v := .slice la m capl) rfl <| wM_len (m := m) rfl <| wM_c_lss (a := (i : Int)) (b := (m : Int)) rfl rfl <| wM_end ?_
     refine And.intro (fun q20 => ?_) (fun q20 => ?_)
     ·have q20 : (i : Int) < (m : Int) := of_decide_eq_true q20
      have hi : i < m := by omega
      have hid : i < ds.length := by omega
      rcases id hd with ⟨_, h0t, _⟩ | ⟨tb, et, rt, _⟩
      ·omega
      have lt := rt.1
      have ltb2 := fd tb et
      have hbd : badD (ds.getD i Dl.z) = false := any_at hdv hid
      have hww := wW_in hvt.2.2.1 (by omega) (okD_of hbd)
      have htw := tW_in (us := us) (ds := ds) hvt.2.2.1 (by omega) hdv i (by omega)
      have hgi : (ds.getD i Dl.z).r ∈ L := by rw [hLg]; exact mem_grl hdv hid
      first | refine wM_skip ?_ | skip
      refine wM_dseq <| wD_lda (b := H.next) (o := 0) rfl c1.rd (show row 2 _ _ = some [.slice sa n cap, iv adv] from rfl) <| wD_mov (v := .slice la m capl) rfl <| wD_mov (v := iv (i : Int)) rfl <| wD_idx (b := tb) (o := 0) (k := i) (j := (i : Int)) (by rw [← et]; rfl) rfl rfl (by omega) <| wD_lda (b := tb) (o := 0 + i * 3) rfl rt (dlc_rowF (by omega)) ?_
      obtain ⟨H9, fH9, kH9⟩ := Worth_ok (kn := kn) (lo := lo) (H := L2) (adv := adv) hs hl hn (by omega) (d := (ds.getD i Dl.z))
      rw [(wt_ok hv hbd).1, (wt_ok hv hbd).2] at fH9
      refine wD_callf (vs := [.agg #[.slice sa n cap, iv adv], .agg (Dl.f (ds.getD i Dl.z)).toArray]) rfl (callX_args fH9) ?_
      have mH9 := kH9.1
      have hk := hk.trans kH9
      have hs := kH9.sl0 hs
      have hd := kH9.sl0 hd
      have hpp := kH9.sl0 hpp
      have c1 := kH9.cl c1 (by simp)
      have rt := kH9.rd rt (by simp)
      refine wD_mov (v := .tuple #[iv (wW us (ds.getD i Dl.z)), iv (wtI us adv (ds.getD i Dl.z)), iv 0]) rfl <| wD_pur (v := iv (wW us (ds.getD i Dl.z))) rfl (by kernel_rfl) <| wD_pur (v := iv (wtI us adv (ds.getD i Dl.z))) rfl (by kernel_rfl) <| wD_pur (v := iv 0) rfl (by kernel_rfl) <| wD_mov (v := iv (wW us (ds.getD i Dl.z))) rfl <| wD_mov (v := iv (wtI us adv (ds.getD i Dl.z))) rfl <| wD_mov (v := iv 0) rfl ?_
      refine wD_end (by repeat' first | exact True.intro | exact (fun h => h) | refine And.intro ?_ ?_ | (intro h; have h : (_ : Nat) = _ := h; omega)) ?_
      refine wM_seq <| wM_mov (v := .slice pap L.length capp) rfl <| wM_mov (v := .slice la m capl) rfl <| wM_mov (v := iv (i : Int)) rfl <| wM_idx (b := tb) (o := 0) (k := i) (j := (i : Int)) (by rw [← et]; rfl) rfl rfl (by omega) <| wM_addo (b := tb) (o := 0 + i * 3) rfl <| wM_ld (b := tb) (o := 0 + i * 3) (v := iv ((ds.getD i Dl.z).r)) rfl rt (dlc_atF (ds := ds) (i := i) (j := 0) (by omega) rfl) ?_
      obtain ⟨H10, fH10, kH10⟩ := find_ok (kn := kn) (lo := lo) (H := H9) (g := (ds.getD i Dl.z).r) hpp (by omega) (by omega)
      rw [if_pos hgi, decide_eq_true hgi] at fH10
      refine wM_callf s (vs := [.slice pap L.length capp, iv ((ds.getD i Dl.z).r)]) rfl (callX_args fH10) ?_
      have mH10 := kH10.1
      have hk := hk.trans kH10
      have hs := kH10.sl0 hs
      have hd := kH10.sl0 hd
      have hpp := kH10.sl0 hpp
      have c1 := kH10.cl c1 (by simp)
      have rt := kH10.rd rt (by simp)
      refine wM_mov (v := .tuple #[payV us adv ds rev (ds.getD i Dl.z).r, .bool true]) rfl <| wM_pur (v := payV us adv ds rev (ds.getD i Dl.z).r) rfl (by kernel_rfl) <| wM_pur (v := .bool true) rfl (by kernel_rfl) <| wM_alc ?_
      intro H11 kH11 nH11 c11
      have c11 : Cl H11 H10.next [iv 0, iv 0, iv 0, iv 0, iv 0] := c11
      have mH11 := kH11.1
      have hk := hk.trans kH11
      have hs := kH11.sl0 hs
      have hd := kH11.sl0 hd
      have hpp := kH11.sl0 hpp
      have c1 := kH11.cl c1 (by simp)
      have rt := kH11.rd rt (by simp)
      refine wM_sta (b := H10.next) (o := 0) rfl rfl c11 (by omega) rfl rfl (by simp) ?_
      intro H12 kH12 nH12 sH12
      have mH12 := kH12.1
      have hk := hk.new kH12 (fun b hb => by simp at hb ⊢; omega)
      have hs := kH12.sl hs (fun b e => by have := fs b e; first | (simp; done) | (simp; omega))
      have hd := kH12.sl hd (fun b e => by have := fd b e; first | (simp; done) | (simp; omega))
      have hpp := kH12.sl hpp (fun b e => by have := fpp b e; first | (simp; done) | (simp; omega))
      have c1 := kH12.cl c1 (by first | (simp; done) | (simp; omega))
      have rt := kH12.rd rt (by first | (simp; done) | (simp; omega))
      have c11 : Cl H12 H10.next [iv ((ds.getD i Dl.z).r), iv (hwS us ds (ds.getD i Dl.z).r ds.length), iv (haS us adv ds (ds.getD i Dl.z).r ds.length), iv (shr rev (hwS us ds (ds.getD i Dl.z).r ds.length) (tW us ds ds.length)), iv (shr rev (hwS us ds (ds.getD i Dl.z).r ds.length) (tW us ds ds.length) - haS us adv ds (ds.getD i Dl.z).r ds.length)] := sH12
      refine wM_mov (v := .bool true) rfl <| wM_end <| wM_seq <| wM_mov (v := iv 0) rfl <| wM_b_neq (a := 0) (b := 0) rfl rfl ?_
      intro t21 g21; obtain rfl : t21 = false := by rw [← g21]; rfl
      refine wM_mov (v := .bool false) rfl ?_
      refine wM_g rfl (wM_mov (v := .bool true) rfl ?_)
      refine wM_g rfl (wM_pur (v := .bool false) rfl rfl ?_)
      refine wM_pur (v := .bool false) rfl rfl <| wM_end <| condF ?_
      first | refine wM_skip ?_ | skip
      first | refine wM_reg ?_ | refine wM_blk ?_ | refine wM_bseq ?_ | (refine wOps_nil ?_; refine wM_reg ?_)
      refine wM_mov (v := iv (tW us ds i)) rfl <| wM_mov (v := iv (wW us (ds.getD i Dl.z))) rfl <| wM_add (a := (tW us ds i)) (b := (wW us (ds.getD i Dl.z))) rfl rfl ⟨by omega, by omega⟩ <| wM_mov (v := iv ((tW us ds i) + (wW us (ds.getD i Dl.z)))) rfl <| wM_end ?_
      first | refine wM_reg ?_ | refine wM_blk ?_ | refine wM_bseq ?_ | (refine wOps_nil ?_; refine wM_reg ?_)
      refine wM_mov (v := iv (i : Int)) rfl <| wM_add (a := (i : Int)) (b := 1) rfl rfl ⟨by omega, by omega⟩ <| wM_mov (v := iv ((i : Int) + 1)) rfl <| wM_end ?_
      exact ⟨k - 1, i + 1, by omega, ⟨by omega, hk, by omega, hs, hd, hpp, c1⟩, rfl, rfl, rfl, rfl, rfl, rfl, rfl, rfl, rfl, rfl, rfl, rfl, rfl, trivial⟩
     ·have q20 : ¬ ((i : Int) < (m : Int)) := of_decide_eq_false q20
      have e : m = i := by omega
      subst e
      subst hm
      have := pS_all (f := (fun g => shr rev (hwS us ds g ds.length) (tW us ds ds.length))) (l := L)
      have := pS_all (f := (fun g => haS us adv ds g ds.length)) (l := L)
      have := pS_all (f := (rcF (fun g => hwS us ds g ds.length))) (l := L)
      have := pS_all (f := (fun g => hwS us ds g ds.length)) (l := L)
      first | (refine wM_exit ?_; show wCM _ _ _ _ _ _ _ _ _) | skip
      refine wM_seq <| wM_mov (v := iv (tW us ds ds.length)) rfl <| wM_mov (v := iv (pS (fun g => hwS us ds g ds.length) L L.length)) rfl <| wM_b_neq (a := (tW us ds ds.length)) (b := (pS (fun g => hwS us ds g ds.length) L L.length)) rfl rfl ?_
      intro t22 g22; cases t22
      ·have g22 : ¬ ((tW us ds ds.length) ≠ (pS (fun g => hwS us ds g ds.length) L L.length)) := by simpa using g22
       refine wM_mov (v := .bool false) rfl ?_
       refine wM_g rfl (wM_mov (v := iv (pS (fun g => haS us adv ds g ds.length) L L.length)) rfl ?_)
       refine wM_g rfl (wM_mov (v := iv (tA us adv ds ds.length)) rfl ?_)
       refine wM_g rfl (wM_b_neq (a := (pS (fun g => haS us adv ds g ds.length) L L.length)) (b := (tA us adv ds ds.length)) rfl rfl ?_)
       intro t23 g23; cases t23
       ·have g23 : ¬ ((pS (fun g => haS us adv ds g ds.length) L L.length) ≠ (tA us adv ds ds.length)) := by simpa using g23
        refine wM_pur (v := .bool false) rfl rfl <| wM_mov (v := .bool false) rfl ?_
        refine wM_g rfl (wM_mov (v := iv (pS (fun g => shr rev (hwS us ds g ds.length) (tW us ds ds.length)) L L.length)) rfl ?_)
        refine wM_g rfl (wM_mov (v := iv (stK us adv ds rev)) rfl ?_)
        refine wM_g rfl (wM_add (a := (pS (fun g => shr rev (hwS us ds g ds.length) (tW us ds ds.length)) L L.length)) (b := (stK us adv ds rev)) rfl rfl ⟨by omega, by omega⟩ ?_)
        refine wM_g rfl (wM_mov (v := iv rev) rfl ?_)
        refine wM_g rfl (wM_b_neq (a := (pS (fun g => shr rev (hwS us ds g ds.length) (tW us ds ds.length)) L L.length) + (stK us adv ds rev)) (b := rev) rfl rfl ?_)
        intro t24 g24; cases t24
        ·have g24 : ¬ (((pS (fun g => shr rev (hwS us ds g ds.length) (tW us ds ds.length)) L L.length) + (stK us adv ds rev)) ≠ rev) := by simpa using g24
         refine wM_pur (v := .bool false) rfl rfl <| wM_mov (v := .bool false) rfl ?_
         refine wM_g rfl (wM_mov (v := iv (stK us adv ds rev)) rfl ?_)
         refine wM_g rfl (wM_b_lss (a := (stK us adv ds rev)) (b := 0) rfl rfl ?_)
         intro t25 g25; cases t25
         ·have g25 : ¬ ((stK us adv ds rev) < 0) := of_decide_eq_false g25
          refine wM_pur (v := .bool false) rfl rfl <| wM_mov (v := .bool false) rfl ?_
          refine wM_g rfl (wM_mov (v := iv (pS (rcF (fun g => hwS us ds g ds.length)) L L.length)) rfl ?_)
          refine wM_g rfl (wM_b_gtr (a := (pS (rcF (fun g => hwS us ds g ds.length)) L L.length)) (b := 0) rfl rfl ?_)
          intro t26 g26; cases t26
          ·have g26 : ¬ ((pS (rcF (fun g => hwS us ds g ds.length)) L L.length) > 0) := of_decide_eq_false g26
           refine wM_g rfl (wM_mov (v := .bool false) rfl ?_)
           refine wM_gs rfl <| wM_gs rfl <| wM_gs rfl ?_
           refine wM_g rfl (wM_pur (v := .bool false) rfl rfl ?_)
           refine wM_pur (v := .bool false) rfl rfl <| wM_mov (v := .bool false) rfl ?_
           refine wM_g rfl (wM_mov (v := iv (pS (rcF (fun g => hwS us ds g ds.length)) L L.length)) rfl ?_)
           refine wM_g rfl (wM_b_eql (a := (pS (rcF (fun g => hwS us ds g ds.length)) L L.length)) (b := 0) rfl rfl ?_)
           intro t27 g27; cases t27
           ·have g27 : ¬ ((pS (rcF (fun g => hwS us ds g ds.length)) L L.length) = 0) := by simpa using g27
            refine wM_g rfl (wM_mov (v := .bool false) rfl ?_)
            refine wM_gs rfl <| wM_gs rfl <| wM_gs rfl ?_
            refine wM_g rfl (wM_pur (v := .bool false) rfl rfl ?_)
            refine wM_pur (v := .bool false) rfl rfl <| wM_end <| condF ?_
            first | refine wM_skip ?_ | skip
            refine wM_seq <| wM_mov (v := .slice none 0 0) rfl <| wM_end <| wM_seq <| wM_mov (v := iv 0) rfl <| wM_end ?_
            refine loopM_low s (fn := Try.f6) E6_3 N6 L6x3 (fun x : Nat × Value => [(1, .slice la ds.length capl), (2, iv rev), (3, .int .u8 turn), (4, pt H.next), (9, .slice pap L.length capp), (10, iv (stK us adv ds rev)), (27, x.2), (28, iv (x.1 : Int))])
             (fun k x H' => x.1 + k = ds.length ∧ Keep H H' [] ∧ L2.next ≤ H'.next ∧ Sl H' sa n cap (prc us) ∧ Sl H' la ds.length capl (dlc ds) ∧ Sl H' pap L.length capp (plc us adv ds rev L) ∧ Cl H' H.next [.slice sa n cap, iv adv] ∧ Acc lo L2.next 26 H' x.2 x.1 (dlc ((rotD ds turn.toNat).take x.1))) ds.length (0, .slice none 0 0) ⟨by simp, hk, Nat.le_refl _, hs, hd, hpp, c1, .inl ⟨rfl, rfl, rfl⟩⟩ ⟨rfl, rfl, rfl, rfl, rfl, rfl, rfl, rfl, trivial⟩ ?_
            rintro k ⟨i, wv⟩ L3 ⟨hik3, hk, hnx3, hs, hd, hpp, c1, hacc⟩
            simp only [] at hik3 hacc
            have mk := hk.1
            have kacc := Keep.refl L3 []
            have hbk := bkv_in hacc
            refine wM_seq <| wM_mov (v := iv (i : Int)) rfl <| wM_mov (v := .slice la ds.length capl) rfl <| wM_len (m := ds.length) rfl <| wM_c_lss (a := (i : Int)) (b := (ds.length : Int)) rfl rfl <| wM_end ?_
            refine And.intro (fun q28 => ?_) (fun q28 => ?_)
            ·have q28 : (i : Int) < (ds.length : Int) := of_decide_eq_true q28
             have hi : i < ds.length := by omega
             rcases id hd with ⟨_, h0t, _⟩ | ⟨tb, et, rt, _⟩
             ·omega
             have lt := rt.1
             have ltb2 := fd tb et
             have hKl : ((i + turn.toNat) % ds.length) < ds.length := Nat.mod_lt _ (by omega)
             first | refine wM_skip ?_ | skip
             first | refine wM_reg ?_ | refine wM_blk ?_ | refine wM_bseq ?_ | (refine wOps_nil ?_; refine wM_reg ?_)
             refine wM_mov (v := wv) rfl <| wM_mov (v := .slice la ds.length capl) rfl <| wM_mov (v := iv (i : Int)) rfl <| wM_mov (v := .int .u8 turn) rfl <| wM_pur (v := iv (turn.toNat : Int)) rfl (c_8i (n := turn.toNat) (by omega) rfl (by omega)) <| wM_add (a := (i : Int)) (b := (turn.toNat : Int)) rfl rfl ⟨by omega, by omega⟩ <| wM_mov (v := .slice la ds.length capl) rfl <| wM_len (m := ds.length) rfl <| wM_rem (a := (i : Int) + (turn.toNat : Int)) (b := (ds.length : Int)) rfl rfl (by omega) (by omega) ⟨by omega, by omega⟩ ⟨by omega, by omega⟩ <| wM_idx (b := tb) (o := 0) (k := ((i + turn.toNat) % ds.length)) (j := ((i : Int) + (turn.toNat : Int)) % (ds.length : Int)) (by rw [← et]; rfl) rfl (by simp) hKl <| wM_lda (b := tb) (o := 0 + ((i + turn.toNat) % ds.length) * 3) rfl rt (dlc_rowF hKl) ?_
             obtain ⟨H13, hH13⟩ : ∃ H13, L3.new (.cells [iv ((ds.getD ((i + turn.toNat) % ds.length) Dl.z).r), iv ((ds.getD ((i + turn.toNat) % ds.length) Dl.z).g), iv ((ds.getD ((i + turn.toNat) % ds.length) Dl.z).c)] 26 false) = H13 := ⟨_, rfl⟩
             refine wM_memh (H' := H13) (k := .heavy) rfl (by kernel_rfl) ((heap_build1 (v := .agg #[iv ((ds.getD ((i + turn.toNat) % ds.length) Dl.z).r), iv ((ds.getD ((i + turn.toNat) % ds.length) Dl.z).g), iv ((ds.getD ((i + turn.toNat) % ds.length) Dl.z).c)]) se35 zo26 rfl rfl rfl (by decide)).trans (by rw [← hH13]; rfl)) (fun b e => by cases e) ?_
             obtain ⟨kH13, nH13, c13⟩ := new_facts hH13; clear hH13
             have c13 : Cl H13 L3.next [iv ((ds.getD ((i + turn.toNat) % ds.length) Dl.z).r), iv ((ds.getD ((i + turn.toNat) % ds.length) Dl.z).g), iv ((ds.getD ((i + turn.toNat) % ds.length) Dl.z).c)] := c13
             have mH13 := kH13.1
             have hk := hk.trans kH13
             have hs := kH13.sl0 hs
             have hd := kH13.sl0 hd
             have hpp := kH13.sl0 hpp
             have c1 := kH13.cl c1 (by simp)
             have kacc := kacc.trans kH13
             have rt := kH13.rd rt (by simp)
             obtain ⟨H14, kdH14, eH14, dH14, aH14, kbH14⟩ := heap_append_out (P := Try.prog) (lo := lo) (k := i) (t1 := 35) se35 un35 (c13.sl (Nat.le_refl 1)) rfl (by decide) rfl (by rw [dlc_len, List.length_take, rotD_len]; omega) (by omega) (hacc.keep kacc) (by omega) (by omega)
             refine wM_memh (k := kdH14) rfl (by cases wv <;> kernel_rfl) (eH14 _ _ _ _ _ _ _ rfl rfl) (reg_ok dH14 _) ?_
             have hk := hk.new kbH14 (fun b hb => .inr (by have := hbk _ hb; omega))
             have hs := kbH14.sl hs (fun b e hx => by have := fs b e; have := hbk _ hx; omega)
             have hd := kbH14.sl hd (fun b e hx => by have := fd b e; have := hbk _ hx; omega)
             have hpp := kbH14.sl hpp (fun b e hx => by have := fpp b e; have := hbk _ hx; omega)
             have c1 := kbH14.cl c1 (fun hx => by have := hbk _ hx; omega)
             have mH14 := kbH14.1
             refine wM_mov (v := .slice (some ⟨H13.next, 0, none⟩) (i + 1) (i + 1)) rfl <| wM_end ?_
             first | refine wM_reg ?_ | refine wM_blk ?_ | refine wM_bseq ?_ | (refine wOps_nil ?_; refine wM_reg ?_)
             refine wM_mov (v := iv (i : Int)) rfl <| wM_add (a := (i : Int)) (b := 1) rfl rfl ⟨by omega, by omega⟩ <| wM_mov (v := iv ((i : Int) + 1)) rfl <| wM_end ?_
             have hacc2 : Acc lo L2.next 26 H14 (.slice (some ⟨H13.next, 0, none⟩) (i + 1) (i + 1)) (i + 1) (dlc ((rotD ds turn.toNat).take (i + 1))) := by rw [takeD (by rw [rotD_len]; omega), rotD_at (by omega)]; unfold dlc; rw [List.flatMap_append]; exact aH14
             exact ⟨k - 1, (i + 1, .slice (some ⟨H13.next, 0, none⟩) (i + 1) (i + 1)), by omega, ⟨by simp only []; omega, hk, by omega, hs, hd, hpp, c1, hacc2⟩, rfl, rfl, rfl, rfl, rfl, rfl, rfl, rfl, trivial⟩
            ·have q28 : ¬ ((i : Int) < (ds.length : Int)) := of_decide_eq_false q28
             have e : ds.length = i := by omega
             subst e
             have htk : (rotD ds turn.toNat).take ds.length = (rotD ds turn.toNat) := List.take_of_length_le (by rw [rotD_len]; omega)
             rw [htk] at hacc
             obtain ⟨oa, ocap, rfl, hox, _⟩ := hacc.sl
             have fox := hox.old
             first | (refine wM_exit ?_; show wCM _ _ _ _ _ _ _ _ _) | skip
             refine wM_seq <| wM_lda (b := H.next) (o := 0) rfl c1.rd (show row 2 _ _ = some [.slice sa n cap, iv adv] from rfl) <| wM_mov (v := .slice oa ds.length ocap) rfl <| wM_mov (v := iv rev) rfl <| wM_call (t := .fn (.func 18) #[]) rfl (callM_args s.hN (Settle_ok (H := L3) s (adv := adv) hs hl hn hox rotD_len (by omega) (by omega) (rev := rev))) ?_
             rintro _ H15 ⟨pvq, rfl, haq, kH15⟩
             have mH15 := kH15.1
             have hk := hk.trans kH15
             have hs := kH15.sl0 hs
             have hd := kH15.sl0 hd
             have hpp := kH15.sl0 hpp
             have c1 := kH15.cl c1 (by simp)
             have hox := kH15.sl0 hox
             obtain ⟨paq, capq, rfl, hpq, _⟩ := haq.sl
             have fpq := hpq.old
             obtain ⟨y1, y2, y3⟩ := st_perm (us := us) (adv := adv) (rev := rev) (rotD_perm (ds := ds) (t := turn.toNat))
             rw [y1, hL] at hpq ⊢
             rw [plc_perm rotD_perm] at hpq
             rw [y2, y3, eE]
             refine wM_mov (v := .tuple #[.slice paq L.length capq, iv (stK us adv ds rev), iv 0]) rfl <| wM_pur (v := .slice paq L.length capq) rfl (by kernel_rfl) <| wM_pur (v := iv (stK us adv ds rev)) rfl (by kernel_rfl) <| wM_pur (v := iv 0) rfl (by kernel_rfl) <| wM_mov (v := .slice paq L.length capq) rfl <| wM_mov (v := iv (stK us adv ds rev)) rfl <| wM_mov (v := iv 0) rfl <| wM_end <| wM_seq <| wM_mov (v := iv 0) rfl <| wM_b_eql (a := 0) (b := 0) rfl rfl ?_
             intro t29 g29; obtain rfl : t29 = true := by rw [← g29]; rfl
             refine wM_mov (v := .bool true) rfl ?_
             refine wM_g rfl (wM_mov (v := iv (stK us adv ds rev)) rfl ?_)
             refine wM_g rfl (wM_mov (v := iv (stK us adv ds rev)) rfl ?_)
             refine wM_g rfl (wM_eql (a := stK us adv ds rev) rfl rfl ?_)
             refine wM_pur (v := .bool true) rfl rfl <| wM_mov (v := .bool true) rfl ?_
             refine wM_g rfl (wM_mov (v := .slice pap L.length capp) rfl ?_)
             refine wM_g rfl (wM_mov (v := .slice paq L.length capq) rfl ?_)
             obtain ⟨H16, fH16, kH16⟩ := pays_ok (kn := kn) (lo := lo) (H := H15) hpp hpq (by omega) (by omega)
             refine wM_g rfl (wM_callf s (vs := [.slice pap L.length capp, .slice paq L.length capq]) rfl (callX_args fH16) ?_)
             have mH16 := kH16.1
             have hk := hk.trans kH16
             have hs := kH16.sl0 hs
             have hd := kH16.sl0 hd
             have hpp := kH16.sl0 hpp
             have c1 := kH16.cl c1 (by simp)
             have hox := kH16.sl0 hox
             have hpq := kH16.sl0 hpq
             refine wM_pur (v := .bool true) rfl rfl <| wM_mov (v := .bool true) rfl ?_
             refine wM_g rfl (wM_callf s (vs := []) rfl (callX_known hkn) ?_)
             refine wM_pur (v := .bool true) rfl rfl <| wM_mov (v := .bool true) rfl <| wM_end ?_
             exact And.intro trivial (Exists.intro _ (And.intro rfl rfl))
           ·have g27 : (pS (rcF (fun g => hwS us ds g ds.length)) L L.length) = 0 := by simpa using g27
            refine wM_g rfl (wM_mov (v := .bool true) rfl ?_)
            refine wM_g rfl (wM_mov (v := iv (stK us adv ds rev)) rfl ?_)
            refine wM_g rfl (wM_mov (v := iv rev) rfl ?_)
            refine wM_g rfl (wM_b_neq (a := (stK us adv ds rev)) (b := rev) rfl rfl ?_)
            intro t30 g30; cases t30
            ·have g30 : ¬ ((stK us adv ds rev) ≠ rev) := by simpa using g30
             refine wM_g rfl (wM_pur (v := .bool false) rfl rfl ?_)
             refine wM_pur (v := .bool false) rfl rfl <| wM_end <| condF ?_
             first | refine wM_skip ?_ | skip
             refine wM_seq <| wM_mov (v := .slice none 0 0) rfl <| wM_end <| wM_seq <| wM_mov (v := iv 0) rfl <| wM_end ?_
             refine loopM_low s (fn := Try.f6) E6_3 N6 L6x3 (fun x : Nat × Value => [(1, .slice la ds.length capl), (2, iv rev), (3, .int .u8 turn), (4, pt H.next), (9, .slice pap L.length capp), (10, iv (stK us adv ds rev)), (27, x.2), (28, iv (x.1 : Int))])
              (fun k x H' => x.1 + k = ds.length ∧ Keep H H' [] ∧ L2.next ≤ H'.next ∧ Sl H' sa n cap (prc us) ∧ Sl H' la ds.length capl (dlc ds) ∧ Sl H' pap L.length capp (plc us adv ds rev L) ∧ Cl H' H.next [.slice sa n cap, iv adv] ∧ Acc lo L2.next 26 H' x.2 x.1 (dlc ((rotD ds turn.toNat).take x.1))) ds.length (0, .slice none 0 0) ⟨by simp, hk, Nat.le_refl _, hs, hd, hpp, c1, .inl ⟨rfl, rfl, rfl⟩⟩ ⟨rfl, rfl, rfl, rfl, rfl, rfl, rfl, rfl, trivial⟩ ?_
             rintro k ⟨i, wv⟩ L3 ⟨hik3, hk, hnx3, hs, hd, hpp, c1, hacc⟩
             simp only [] at hik3 hacc
             have mk := hk.1
             have kacc := Keep.refl L3 []
             have hbk := bkv_in hacc
             refine wM_seq <| wM_mov (v := iv (i : Int)) rfl <| wM_mov (v := .slice la ds.length capl) rfl <| wM_len (m := ds.length) rfl <| wM_c_lss (a := (i : Int)) (b := (ds.length : Int)) rfl rfl <| wM_end ?_
             refine And.intro (fun q31 => ?_) (fun q31 => ?_)
             ·have q31 : (i : Int) < (ds.length : Int) := of_decide_eq_true q31
              have hi : i < ds.length := by omega
              rcases id hd with ⟨_, h0t, _⟩ | ⟨tb, et, rt, _⟩
              ·omega
              have lt := rt.1
              have ltb2 := fd tb et
              have hKl : ((i + turn.toNat) % ds.length) < ds.length := Nat.mod_lt _ (by omega)
              first | refine wM_skip ?_ | skip
              first | refine wM_reg ?_ | refine wM_blk ?_ | refine wM_bseq ?_ | (refine wOps_nil ?_; refine wM_reg ?_)
              refine wM_mov (v := wv) rfl <| wM_mov (v := .slice la ds.length capl) rfl <| wM_mov (v := iv (i : Int)) rfl <| wM_mov (v := .int .u8 turn) rfl <| wM_pur (v := iv (turn.toNat : Int)) rfl (c_8i (n := turn.toNat) (by omega) rfl (by omega)) <| wM_add (a := (i : Int)) (b := (turn.toNat : Int)) rfl rfl ⟨by omega, by omega⟩ <| wM_mov (v := .slice la ds.length capl) rfl <| wM_len (m := ds.length) rfl <| wM_rem (a := (i : Int) + (turn.toNat : Int)) (b := (ds.length : Int)) rfl rfl (by omega) (by omega) ⟨by omega, by omega⟩ ⟨by omega, by omega⟩ <| wM_idx (b := tb) (o := 0) (k := ((i + turn.toNat) % ds.length)) (j := ((i : Int) + (turn.toNat : Int)) % (ds.length : Int)) (by rw [← et]; rfl) rfl (by simp) hKl <| wM_lda (b := tb) (o := 0 + ((i + turn.toNat) % ds.length) * 3) rfl rt (dlc_rowF hKl) ?_
              obtain ⟨H17, hH17⟩ : ∃ H17, L3.new (.cells [iv ((ds.getD ((i + turn.toNat) % ds.length) Dl.z).r), iv ((ds.getD ((i + turn.toNat) % ds.length) Dl.z).g), iv ((ds.getD ((i + turn.toNat) % ds.length) Dl.z).c)] 26 false) = H17 := ⟨_, rfl⟩
              refine wM_memh (H' := H17) (k := .heavy) rfl (by kernel_rfl) ((heap_build1 (v := .agg #[iv ((ds.getD ((i + turn.toNat) % ds.length) Dl.z).r), iv ((ds.getD ((i + turn.toNat) % ds.length) Dl.z).g), iv ((ds.getD ((i + turn.toNat) % ds.length) Dl.z).c)]) se35 zo26 rfl rfl rfl (by decide)).trans (by rw [← hH17]; rfl)) (fun b e => by cases e) ?_
              obtain ⟨kH17, nH17, c17⟩ := new_facts hH17; clear hH17
              have c17 : Cl H17 L3.next [iv ((ds.getD ((i + turn.toNat) % ds.length) Dl.z).r), iv ((ds.getD ((i + turn.toNat) % ds.length) Dl.z).g), iv ((ds.getD ((i + turn.toNat) % ds.length) Dl.z).c)] := c17
              have mH17 := kH17.1
              have hk := hk.trans kH17
              have hs := kH17.sl0 hs
              have hd := kH17.sl0 hd
              have hpp := kH17.sl0 hpp
              have c1 := kH17.cl c1 (by simp)
              have kacc := kacc.trans kH17
              have rt := kH17.rd rt (by simp)
              obtain ⟨H18, kdH18, eH18, dH18, aH18, kbH18⟩ := heap_append_out (P := Try.prog) (lo := lo) (k := i) (t1 := 35) se35 un35 (c17.sl (Nat.le_refl 1)) rfl (by decide) rfl (by rw [dlc_len, List.length_take, rotD_len]; omega) (by omega) (hacc.keep kacc) (by omega) (by omega)
              refine wM_memh (k := kdH18) rfl (by cases wv <;> kernel_rfl) (eH18 _ _ _ _ _ _ _ rfl rfl) (reg_ok dH18 _) ?_
              have hk := hk.new kbH18 (fun b hb => .inr (by have := hbk _ hb; omega))
              have hs := kbH18.sl hs (fun b e hx => by have := fs b e; have := hbk _ hx; omega)
              have hd := kbH18.sl hd (fun b e hx => by have := fd b e; have := hbk _ hx; omega)
              have hpp := kbH18.sl hpp (fun b e hx => by have := fpp b e; have := hbk _ hx; omega)
              have c1 := kbH18.cl c1 (fun hx => by have := hbk _ hx; omega)
              have mH18 := kbH18.1
              refine wM_mov (v := .slice (some ⟨H17.next, 0, none⟩) (i + 1) (i + 1)) rfl <| wM_end ?_
              first | refine wM_reg ?_ | refine wM_blk ?_ | refine wM_bseq ?_ | (refine wOps_nil ?_; refine wM_reg ?_)
              refine wM_mov (v := iv (i : Int)) rfl <| wM_add (a := (i : Int)) (b := 1) rfl rfl ⟨by omega, by omega⟩ <| wM_mov (v := iv ((i : Int) + 1)) rfl <| wM_end ?_
              have hacc2 : Acc lo L2.next 26 H18 (.slice (some ⟨H17.next, 0, none⟩) (i + 1) (i + 1)) (i + 1) (dlc ((rotD ds turn.toNat).take (i + 1))) := by rw [takeD (by rw [rotD_len]; omega), rotD_at (by omega)]; unfold dlc; rw [List.flatMap_append]; exact aH18
              exact ⟨k - 1, (i + 1, .slice (some ⟨H17.next, 0, none⟩) (i + 1) (i + 1)), by omega, ⟨by simp only []; omega, hk, by omega, hs, hd, hpp, c1, hacc2⟩, rfl, rfl, rfl, rfl, rfl, rfl, rfl, rfl, trivial⟩
             ·have q31 : ¬ ((i : Int) < (ds.length : Int)) := of_decide_eq_false q31
              have e : ds.length = i := by omega
              subst e
              have htk : (rotD ds turn.toNat).take ds.length = (rotD ds turn.toNat) := List.take_of_length_le (by rw [rotD_len]; omega)
              rw [htk] at hacc
              obtain ⟨oa, ocap, rfl, hox, _⟩ := hacc.sl
              have fox := hox.old
              first | (refine wM_exit ?_; show wCM _ _ _ _ _ _ _ _ _) | skip
              refine wM_seq <| wM_lda (b := H.next) (o := 0) rfl c1.rd (show row 2 _ _ = some [.slice sa n cap, iv adv] from rfl) <| wM_mov (v := .slice oa ds.length ocap) rfl <| wM_mov (v := iv rev) rfl <| wM_call (t := .fn (.func 18) #[]) rfl (callM_args s.hN (Settle_ok (H := L3) s (adv := adv) hs hl hn hox rotD_len (by omega) (by omega) (rev := rev))) ?_
              rintro _ H19 ⟨pvq, rfl, haq, kH19⟩
              have mH19 := kH19.1
              have hk := hk.trans kH19
              have hs := kH19.sl0 hs
              have hd := kH19.sl0 hd
              have hpp := kH19.sl0 hpp
              have c1 := kH19.cl c1 (by simp)
              have hox := kH19.sl0 hox
              obtain ⟨paq, capq, rfl, hpq, _⟩ := haq.sl
              have fpq := hpq.old
              obtain ⟨y1, y2, y3⟩ := st_perm (us := us) (adv := adv) (rev := rev) (rotD_perm (ds := ds) (t := turn.toNat))
              rw [y1, hL] at hpq ⊢
              rw [plc_perm rotD_perm] at hpq
              rw [y2, y3, eE]
              refine wM_mov (v := .tuple #[.slice paq L.length capq, iv (stK us adv ds rev), iv 0]) rfl <| wM_pur (v := .slice paq L.length capq) rfl (by kernel_rfl) <| wM_pur (v := iv (stK us adv ds rev)) rfl (by kernel_rfl) <| wM_pur (v := iv 0) rfl (by kernel_rfl) <| wM_mov (v := .slice paq L.length capq) rfl <| wM_mov (v := iv (stK us adv ds rev)) rfl <| wM_mov (v := iv 0) rfl <| wM_end <| wM_seq <| wM_mov (v := iv 0) rfl <| wM_b_eql (a := 0) (b := 0) rfl rfl ?_
              intro t32 g32; obtain rfl : t32 = true := by rw [← g32]; rfl
              refine wM_mov (v := .bool true) rfl ?_
              refine wM_g rfl (wM_mov (v := iv (stK us adv ds rev)) rfl ?_)
              refine wM_g rfl (wM_mov (v := iv (stK us adv ds rev)) rfl ?_)
              refine wM_g rfl (wM_eql (a := stK us adv ds rev) rfl rfl ?_)
              refine wM_pur (v := .bool true) rfl rfl <| wM_mov (v := .bool true) rfl ?_
              refine wM_g rfl (wM_mov (v := .slice pap L.length capp) rfl ?_)
              refine wM_g rfl (wM_mov (v := .slice paq L.length capq) rfl ?_)
              obtain ⟨H20, fH20, kH20⟩ := pays_ok (kn := kn) (lo := lo) (H := H19) hpp hpq (by omega) (by omega)
              refine wM_g rfl (wM_callf s (vs := [.slice pap L.length capp, .slice paq L.length capq]) rfl (callX_args fH20) ?_)
              have mH20 := kH20.1
              have hk := hk.trans kH20
              have hs := kH20.sl0 hs
              have hd := kH20.sl0 hd
              have hpp := kH20.sl0 hpp
              have c1 := kH20.cl c1 (by simp)
              have hox := kH20.sl0 hox
              have hpq := kH20.sl0 hpq
              refine wM_pur (v := .bool true) rfl rfl <| wM_mov (v := .bool true) rfl ?_
              refine wM_g rfl (wM_callf s (vs := []) rfl (callX_known hkn) ?_)
              refine wM_pur (v := .bool true) rfl rfl <| wM_mov (v := .bool true) rfl <| wM_end ?_
              exact And.intro trivial (Exists.intro _ (And.intro rfl rfl))
            ·have g30 : (stK us adv ds rev) ≠ rev := by simpa using g30
             omega
          ·have g26 : (pS (rcF (fun g => hwS us ds g ds.length)) L L.length) > 0 := of_decide_eq_true g26
           refine wM_g rfl (wM_mov (v := .bool true) rfl ?_)
           refine wM_g rfl (wM_mov (v := iv (stK us adv ds rev)) rfl ?_)
           refine wM_g rfl (wM_mov (v := iv (pS (rcF (fun g => hwS us ds g ds.length)) L L.length)) rfl ?_)
           refine wM_g rfl (wM_b_geq (a := (stK us adv ds rev)) (b := (pS (rcF (fun g => hwS us ds g ds.length)) L L.length)) rfl rfl ?_)
           intro t33 g33; cases t33
           ·have g33 : ¬ ((stK us adv ds rev) ≥ (pS (rcF (fun g => hwS us ds g ds.length)) L L.length)) := of_decide_eq_false g33
            refine wM_g rfl (wM_pur (v := .bool false) rfl rfl ?_)
            refine wM_pur (v := .bool false) rfl rfl <| wM_mov (v := .bool false) rfl ?_
            refine wM_g rfl (wM_mov (v := iv (pS (rcF (fun g => hwS us ds g ds.length)) L L.length)) rfl ?_)
            refine wM_g rfl (wM_b_eql (a := (pS (rcF (fun g => hwS us ds g ds.length)) L L.length)) (b := 0) rfl rfl ?_)
            intro t34 g34; cases t34
            ·have g34 : ¬ ((pS (rcF (fun g => hwS us ds g ds.length)) L L.length) = 0) := by simpa using g34
             refine wM_g rfl (wM_mov (v := .bool false) rfl ?_)
             refine wM_gs rfl <| wM_gs rfl <| wM_gs rfl ?_
             refine wM_g rfl (wM_pur (v := .bool false) rfl rfl ?_)
             refine wM_pur (v := .bool false) rfl rfl <| wM_end <| condF ?_
             first | refine wM_skip ?_ | skip
             refine wM_seq <| wM_mov (v := .slice none 0 0) rfl <| wM_end <| wM_seq <| wM_mov (v := iv 0) rfl <| wM_end ?_
             refine loopM_low s (fn := Try.f6) E6_3 N6 L6x3 (fun x : Nat × Value => [(1, .slice la ds.length capl), (2, iv rev), (3, .int .u8 turn), (4, pt H.next), (9, .slice pap L.length capp), (10, iv (stK us adv ds rev)), (27, x.2), (28, iv (x.1 : Int))])
              (fun k x H' => x.1 + k = ds.length ∧ Keep H H' [] ∧ L2.next ≤ H'.next ∧ Sl H' sa n cap (prc us) ∧ Sl H' la ds.length capl (dlc ds) ∧ Sl H' pap L.length capp (plc us adv ds rev L) ∧ Cl H' H.next [.slice sa n cap, iv adv] ∧ Acc lo L2.next 26 H' x.2 x.1 (dlc ((rotD ds turn.toNat).take x.1))) ds.length (0, .slice none 0 0) ⟨by simp, hk, Nat.le_refl _, hs, hd, hpp, c1, .inl ⟨rfl, rfl, rfl⟩⟩ ⟨rfl, rfl, rfl, rfl, rfl, rfl, rfl, rfl, trivial⟩ ?_
             rintro k ⟨i, wv⟩ L3 ⟨hik3, hk, hnx3, hs, hd, hpp, c1, hacc⟩
             simp only [] at hik3 hacc
             have mk := hk.1
             have kacc := Keep.refl L3 []
             have hbk := bkv_in hacc
             refine wM_seq <| wM_mov (v := iv (i : Int)) rfl <| wM_mov (v := .slice la ds.length capl) rfl <| wM_len (m := ds.length) rfl <| wM_c_lss (a := (i : Int)) (b := (ds.length : Int)) rfl rfl <| wM_end ?_
             refine And.intro (fun q35 => ?_) (fun q35 => ?_)
             ·have q35 : (i : Int) < (ds.length : Int) := of_decide_eq_true q35
              have hi : i < ds.length := by omega
              rcases id hd with ⟨_, h0t, _⟩ | ⟨tb, et, rt, _⟩
              ·omega
              have lt := rt.1
              have ltb2 := fd tb et
              have hKl : ((i + turn.toNat) % ds.length) < ds.length := Nat.mod_lt _ (by omega)
              first | refine wM_skip ?_ | skip
              first | refine wM_reg ?_ | refine wM_blk ?_ | refine wM_bseq ?_ | (refine wOps_nil ?_; refine wM_reg ?_)
              refine wM_mov (v := wv) rfl <| wM_mov (v := .slice la ds.length capl) rfl <| wM_mov (v := iv (i : Int)) rfl <| wM_mov (v := .int .u8 turn) rfl <| wM_pur (v := iv (turn.toNat : Int)) rfl (c_8i (n := turn.toNat) (by omega) rfl (by omega)) <| wM_add (a := (i : Int)) (b := (turn.toNat : Int)) rfl rfl ⟨by omega, by omega⟩ <| wM_mov (v := .slice la ds.length capl) rfl <| wM_len (m := ds.length) rfl <| wM_rem (a := (i : Int) + (turn.toNat : Int)) (b := (ds.length : Int)) rfl rfl (by omega) (by omega) ⟨by omega, by omega⟩ ⟨by omega, by omega⟩ <| wM_idx (b := tb) (o := 0) (k := ((i + turn.toNat) % ds.length)) (j := ((i : Int) + (turn.toNat : Int)) % (ds.length : Int)) (by rw [← et]; rfl) rfl (by simp) hKl <| wM_lda (b := tb) (o := 0 + ((i + turn.toNat) % ds.length) * 3) rfl rt (dlc_rowF hKl) ?_
              obtain ⟨H21, hH21⟩ : ∃ H21, L3.new (.cells [iv ((ds.getD ((i + turn.toNat) % ds.length) Dl.z).r), iv ((ds.getD ((i + turn.toNat) % ds.length) Dl.z).g), iv ((ds.getD ((i + turn.toNat) % ds.length) Dl.z).c)] 26 false) = H21 := ⟨_, rfl⟩
              refine wM_memh (H' := H21) (k := .heavy) rfl (by kernel_rfl) ((heap_build1 (v := .agg #[iv ((ds.getD ((i + turn.toNat) % ds.length) Dl.z).r), iv ((ds.getD ((i + turn.toNat) % ds.length) Dl.z).g), iv ((ds.getD ((i + turn.toNat) % ds.length) Dl.z).c)]) se35 zo26 rfl rfl rfl (by decide)).trans (by rw [← hH21]; rfl)) (fun b e => by cases e) ?_
              obtain ⟨kH21, nH21, c21⟩ := new_facts hH21; clear hH21
              have c21 : Cl H21 L3.next [iv ((ds.getD ((i + turn.toNat) % ds.length) Dl.z).r), iv ((ds.getD ((i + turn.toNat) % ds.length) Dl.z).g), iv ((ds.getD ((i + turn.toNat) % ds.length) Dl.z).c)] := c21
              have mH21 := kH21.1
              have hk := hk.trans kH21
              have hs := kH21.sl0 hs
              have hd := kH21.sl0 hd
              have hpp := kH21.sl0 hpp
              have c1 := kH21.cl c1 (by simp)
              have kacc := kacc.trans kH21
              have rt := kH21.rd rt (by simp)
              obtain ⟨H22, kdH22, eH22, dH22, aH22, kbH22⟩ := heap_append_out (P := Try.prog) (lo := lo) (k := i) (t1 := 35) se35 un35 (c21.sl (Nat.le_refl 1)) rfl (by decide) rfl (by rw [dlc_len, List.length_take, rotD_len]; omega) (by omega) (hacc.keep kacc) (by omega) (by omega)
              refine wM_memh (k := kdH22) rfl (by cases wv <;> kernel_rfl) (eH22 _ _ _ _ _ _ _ rfl rfl) (reg_ok dH22 _) ?_
              have hk := hk.new kbH22 (fun b hb => .inr (by have := hbk _ hb; omega))
              have hs := kbH22.sl hs (fun b e hx => by have := fs b e; have := hbk _ hx; omega)
              have hd := kbH22.sl hd (fun b e hx => by have := fd b e; have := hbk _ hx; omega)
              have hpp := kbH22.sl hpp (fun b e hx => by have := fpp b e; have := hbk _ hx; omega)
              have c1 := kbH22.cl c1 (fun hx => by have := hbk _ hx; omega)
              have mH22 := kbH22.1
              refine wM_mov (v := .slice (some ⟨H21.next, 0, none⟩) (i + 1) (i + 1)) rfl <| wM_end ?_
              first | refine wM_reg ?_ | refine wM_blk ?_ | refine wM_bseq ?_ | (refine wOps_nil ?_; refine wM_reg ?_)
              refine wM_mov (v := iv (i : Int)) rfl <| wM_add (a := (i : Int)) (b := 1) rfl rfl ⟨by omega, by omega⟩ <| wM_mov (v := iv ((i : Int) + 1)) rfl <| wM_end ?_
              have hacc2 : Acc lo L2.next 26 H22 (.slice (some ⟨H21.next, 0, none⟩) (i + 1) (i + 1)) (i + 1) (dlc ((rotD ds turn.toNat).take (i + 1))) := by rw [takeD (by rw [rotD_len]; omega), rotD_at (by omega)]; unfold dlc; rw [List.flatMap_append]; exact aH22
              exact ⟨k - 1, (i + 1, .slice (some ⟨H21.next, 0, none⟩) (i + 1) (i + 1)), by omega, ⟨by simp only []; omega, hk, by omega, hs, hd, hpp, c1, hacc2⟩, rfl, rfl, rfl, rfl, rfl, rfl, rfl, rfl, trivial⟩
             ·have q35 : ¬ ((i : Int) < (ds.length : Int)) := of_decide_eq_false q35
              have e : ds.length = i := by omega
              subst e
              have htk : (rotD ds turn.toNat).take ds.length = (rotD ds turn.toNat) := List.take_of_length_le (by rw [rotD_len]; omega)
              rw [htk] at hacc
              obtain ⟨oa, ocap, rfl, hox, _⟩ := hacc.sl
              have fox := hox.old
              first | (refine wM_exit ?_; show wCM _ _ _ _ _ _ _ _ _) | skip
              refine wM_seq <| wM_lda (b := H.next) (o := 0) rfl c1.rd (show row 2 _ _ = some [.slice sa n cap, iv adv] from rfl) <| wM_mov (v := .slice oa ds.length ocap) rfl <| wM_mov (v := iv rev) rfl <| wM_call (t := .fn (.func 18) #[]) rfl (callM_args s.hN (Settle_ok (H := L3) s (adv := adv) hs hl hn hox rotD_len (by omega) (by omega) (rev := rev))) ?_
              rintro _ H23 ⟨pvq, rfl, haq, kH23⟩
              have mH23 := kH23.1
              have hk := hk.trans kH23
              have hs := kH23.sl0 hs
              have hd := kH23.sl0 hd
              have hpp := kH23.sl0 hpp
              have c1 := kH23.cl c1 (by simp)
              have hox := kH23.sl0 hox
              obtain ⟨paq, capq, rfl, hpq, _⟩ := haq.sl
              have fpq := hpq.old
              obtain ⟨y1, y2, y3⟩ := st_perm (us := us) (adv := adv) (rev := rev) (rotD_perm (ds := ds) (t := turn.toNat))
              rw [y1, hL] at hpq ⊢
              rw [plc_perm rotD_perm] at hpq
              rw [y2, y3, eE]
              refine wM_mov (v := .tuple #[.slice paq L.length capq, iv (stK us adv ds rev), iv 0]) rfl <| wM_pur (v := .slice paq L.length capq) rfl (by kernel_rfl) <| wM_pur (v := iv (stK us adv ds rev)) rfl (by kernel_rfl) <| wM_pur (v := iv 0) rfl (by kernel_rfl) <| wM_mov (v := .slice paq L.length capq) rfl <| wM_mov (v := iv (stK us adv ds rev)) rfl <| wM_mov (v := iv 0) rfl <| wM_end <| wM_seq <| wM_mov (v := iv 0) rfl <| wM_b_eql (a := 0) (b := 0) rfl rfl ?_
              intro t36 g36; obtain rfl : t36 = true := by rw [← g36]; rfl
              refine wM_mov (v := .bool true) rfl ?_
              refine wM_g rfl (wM_mov (v := iv (stK us adv ds rev)) rfl ?_)
              refine wM_g rfl (wM_mov (v := iv (stK us adv ds rev)) rfl ?_)
              refine wM_g rfl (wM_eql (a := stK us adv ds rev) rfl rfl ?_)
              refine wM_pur (v := .bool true) rfl rfl <| wM_mov (v := .bool true) rfl ?_
              refine wM_g rfl (wM_mov (v := .slice pap L.length capp) rfl ?_)
              refine wM_g rfl (wM_mov (v := .slice paq L.length capq) rfl ?_)
              obtain ⟨H24, fH24, kH24⟩ := pays_ok (kn := kn) (lo := lo) (H := H23) hpp hpq (by omega) (by omega)
              refine wM_g rfl (wM_callf s (vs := [.slice pap L.length capp, .slice paq L.length capq]) rfl (callX_args fH24) ?_)
              have mH24 := kH24.1
              have hk := hk.trans kH24
              have hs := kH24.sl0 hs
              have hd := kH24.sl0 hd
              have hpp := kH24.sl0 hpp
              have c1 := kH24.cl c1 (by simp)
              have hox := kH24.sl0 hox
              have hpq := kH24.sl0 hpq
              refine wM_pur (v := .bool true) rfl rfl <| wM_mov (v := .bool true) rfl ?_
              refine wM_g rfl (wM_callf s (vs := []) rfl (callX_known hkn) ?_)
              refine wM_pur (v := .bool true) rfl rfl <| wM_mov (v := .bool true) rfl <| wM_end ?_
              exact And.intro trivial (Exists.intro _ (And.intro rfl rfl))
            ·have g34 : (pS (rcF (fun g => hwS us ds g ds.length)) L L.length) = 0 := by simpa using g34
             refine wM_g rfl (wM_mov (v := .bool true) rfl ?_)
             refine wM_g rfl (wM_mov (v := iv (stK us adv ds rev)) rfl ?_)
             refine wM_g rfl (wM_mov (v := iv rev) rfl ?_)
             refine wM_g rfl (wM_b_neq (a := (stK us adv ds rev)) (b := rev) rfl rfl ?_)
             intro t37 g37; cases t37
             ·have g37 : ¬ ((stK us adv ds rev) ≠ rev) := by simpa using g37
              refine wM_g rfl (wM_pur (v := .bool false) rfl rfl ?_)
              refine wM_pur (v := .bool false) rfl rfl <| wM_end <| condF ?_
              first | refine wM_skip ?_ | skip
              refine wM_seq <| wM_mov (v := .slice none 0 0) rfl <| wM_end <| wM_seq <| wM_mov (v := iv 0) rfl <| wM_end ?_
              refine loopM_low s (fn := Try.f6) E6_3 N6 L6x3 (fun x : Nat × Value => [(1, .slice la ds.length capl), (2, iv rev), (3, .int .u8 turn), (4, pt H.next), (9, .slice pap L.length capp), (10, iv (stK us adv ds rev)), (27, x.2), (28, iv (x.1 : Int))])
               (fun k x H' => x.1 + k = ds.length ∧ Keep H H' [] ∧ L2.next ≤ H'.next ∧ Sl H' sa n cap (prc us) ∧ Sl H' la ds.length capl (dlc ds) ∧ Sl H' pap L.length capp (plc us adv ds rev L) ∧ Cl H' H.next [.slice sa n cap, iv adv] ∧ Acc lo L2.next 26 H' x.2 x.1 (dlc ((rotD ds turn.toNat).take x.1))) ds.length (0, .slice none 0 0) ⟨by simp, hk, Nat.le_refl _, hs, hd, hpp, c1, .inl ⟨rfl, rfl, rfl⟩⟩ ⟨rfl, rfl, rfl, rfl, rfl, rfl, rfl, rfl, trivial⟩ ?_
              rintro k ⟨i, wv⟩ L3 ⟨hik3, hk, hnx3, hs, hd, hpp, c1, hacc⟩
              simp only [] at hik3 hacc
              have mk := hk.1
              have kacc := Keep.refl L3 []
              have hbk := bkv_in hacc
              refine wM_seq <| wM_mov (v := iv (i : Int)) rfl <| wM_mov (v := .slice la ds.length capl) rfl <| wM_len (m := ds.length) rfl <| wM_c_lss (a := (i : Int)) (b := (ds.length : Int)) rfl rfl <| wM_end ?_
              refine And.intro (fun q38 => ?_) (fun q38 => ?_)
              ·have q38 : (i : Int) < (ds.length : Int) := of_decide_eq_true q38
               have hi : i < ds.length := by omega
               rcases id hd with ⟨_, h0t, _⟩ | ⟨tb, et, rt, _⟩
               ·omega
               have lt := rt.1
               have ltb2 := fd tb et
               have hKl : ((i + turn.toNat) % ds.length) < ds.length := Nat.mod_lt _ (by omega)
               first | refine wM_skip ?_ | skip
               first | refine wM_reg ?_ | refine wM_blk ?_ | refine wM_bseq ?_ | (refine wOps_nil ?_; refine wM_reg ?_)
               refine wM_mov (v := wv) rfl <| wM_mov (v := .slice la ds.length capl) rfl <| wM_mov (v := iv (i : Int)) rfl <| wM_mov (v := .int .u8 turn) rfl <| wM_pur (v := iv (turn.toNat : Int)) rfl (c_8i (n := turn.toNat) (by omega) rfl (by omega)) <| wM_add (a := (i : Int)) (b := (turn.toNat : Int)) rfl rfl ⟨by omega, by omega⟩ <| wM_mov (v := .slice la ds.length capl) rfl <| wM_len (m := ds.length) rfl <| wM_rem (a := (i : Int) + (turn.toNat : Int)) (b := (ds.length : Int)) rfl rfl (by omega) (by omega) ⟨by omega, by omega⟩ ⟨by omega, by omega⟩ <| wM_idx (b := tb) (o := 0) (k := ((i + turn.toNat) % ds.length)) (j := ((i : Int) + (turn.toNat : Int)) % (ds.length : Int)) (by rw [← et]; rfl) rfl (by simp) hKl <| wM_lda (b := tb) (o := 0 + ((i + turn.toNat) % ds.length) * 3) rfl rt (dlc_rowF hKl) ?_
               obtain ⟨H25, hH25⟩ : ∃ H25, L3.new (.cells [iv ((ds.getD ((i + turn.toNat) % ds.length) Dl.z).r), iv ((ds.getD ((i + turn.toNat) % ds.length) Dl.z).g), iv ((ds.getD ((i + turn.toNat) % ds.length) Dl.z).c)] 26 false) = H25 := ⟨_, rfl⟩
               refine wM_memh (H' := H25) (k := .heavy) rfl (by kernel_rfl) ((heap_build1 (v := .agg #[iv ((ds.getD ((i + turn.toNat) % ds.length) Dl.z).r), iv ((ds.getD ((i + turn.toNat) % ds.length) Dl.z).g), iv ((ds.getD ((i + turn.toNat) % ds.length) Dl.z).c)]) se35 zo26 rfl rfl rfl (by decide)).trans (by rw [← hH25]; rfl)) (fun b e => by cases e) ?_
               obtain ⟨kH25, nH25, c25⟩ := new_facts hH25; clear hH25
               have c25 : Cl H25 L3.next [iv ((ds.getD ((i + turn.toNat) % ds.length) Dl.z).r), iv ((ds.getD ((i + turn.toNat) % ds.length) Dl.z).g), iv ((ds.getD ((i + turn.toNat) % ds.length) Dl.z).c)] := c25
               have mH25 := kH25.1
               have hk := hk.trans kH25
               have hs := kH25.sl0 hs
               have hd := kH25.sl0 hd
               have hpp := kH25.sl0 hpp
               have c1 := kH25.cl c1 (by simp)
               have kacc := kacc.trans kH25
               have rt := kH25.rd rt (by simp)
               obtain ⟨H26, kdH26, eH26, dH26, aH26, kbH26⟩ := heap_append_out (P := Try.prog) (lo := lo) (k := i) (t1 := 35) se35 un35 (c25.sl (Nat.le_refl 1)) rfl (by decide) rfl (by rw [dlc_len, List.length_take, rotD_len]; omega) (by omega) (hacc.keep kacc) (by omega) (by omega)
               refine wM_memh (k := kdH26) rfl (by cases wv <;> kernel_rfl) (eH26 _ _ _ _ _ _ _ rfl rfl) (reg_ok dH26 _) ?_
               have hk := hk.new kbH26 (fun b hb => .inr (by have := hbk _ hb; omega))
               have hs := kbH26.sl hs (fun b e hx => by have := fs b e; have := hbk _ hx; omega)
               have hd := kbH26.sl hd (fun b e hx => by have := fd b e; have := hbk _ hx; omega)
               have hpp := kbH26.sl hpp (fun b e hx => by have := fpp b e; have := hbk _ hx; omega)
               have c1 := kbH26.cl c1 (fun hx => by have := hbk _ hx; omega)
               have mH26 := kbH26.1
               refine wM_mov (v := .slice (some ⟨H25.next, 0, none⟩) (i + 1) (i + 1)) rfl <| wM_end ?_
               first | refine wM_reg ?_ | refine wM_blk ?_ | refine wM_bseq ?_ | (refine wOps_nil ?_; refine wM_reg ?_)
               refine wM_mov (v := iv (i : Int)) rfl <| wM_add (a := (i : Int)) (b := 1) rfl rfl ⟨by omega, by omega⟩ <| wM_mov (v := iv ((i : Int) + 1)) rfl <| wM_end ?_
               have hacc2 : Acc lo L2.next 26 H26 (.slice (some ⟨H25.next, 0, none⟩) (i + 1) (i + 1)) (i + 1) (dlc ((rotD ds turn.toNat).take (i + 1))) := by rw [takeD (by rw [rotD_len]; omega), rotD_at (by omega)]; unfold dlc; rw [List.flatMap_append]; exact aH26
               exact ⟨k - 1, (i + 1, .slice (some ⟨H25.next, 0, none⟩) (i + 1) (i + 1)), by omega, ⟨by simp only []; omega, hk, by omega, hs, hd, hpp, c1, hacc2⟩, rfl, rfl, rfl, rfl, rfl, rfl, rfl, rfl, trivial⟩
              ·have q38 : ¬ ((i : Int) < (ds.length : Int)) := of_decide_eq_false q38
               have e : ds.length = i := by omega
               subst e
               have htk : (rotD ds turn.toNat).take ds.length = (rotD ds turn.toNat) := List.take_of_length_le (by rw [rotD_len]; omega)
               rw [htk] at hacc
               obtain ⟨oa, ocap, rfl, hox, _⟩ := hacc.sl
               have fox := hox.old
               first | (refine wM_exit ?_; show wCM _ _ _ _ _ _ _ _ _) | skip
               refine wM_seq <| wM_lda (b := H.next) (o := 0) rfl c1.rd (show row 2 _ _ = some [.slice sa n cap, iv adv] from rfl) <| wM_mov (v := .slice oa ds.length ocap) rfl <| wM_mov (v := iv rev) rfl <| wM_call (t := .fn (.func 18) #[]) rfl (callM_args s.hN (Settle_ok (H := L3) s (adv := adv) hs hl hn hox rotD_len (by omega) (by omega) (rev := rev))) ?_
               rintro _ H27 ⟨pvq, rfl, haq, kH27⟩
               have mH27 := kH27.1
               have hk := hk.trans kH27
               have hs := kH27.sl0 hs
               have hd := kH27.sl0 hd
               have hpp := kH27.sl0 hpp
               have c1 := kH27.cl c1 (by simp)
               have hox := kH27.sl0 hox
               obtain ⟨paq, capq, rfl, hpq, _⟩ := haq.sl
               have fpq := hpq.old
               obtain ⟨y1, y2, y3⟩ := st_perm (us := us) (adv := adv) (rev := rev) (rotD_perm (ds := ds) (t := turn.toNat))
               rw [y1, hL] at hpq ⊢
               rw [plc_perm rotD_perm] at hpq
               rw [y2, y3, eE]
               refine wM_mov (v := .tuple #[.slice paq L.length capq, iv (stK us adv ds rev), iv 0]) rfl <| wM_pur (v := .slice paq L.length capq) rfl (by kernel_rfl) <| wM_pur (v := iv (stK us adv ds rev)) rfl (by kernel_rfl) <| wM_pur (v := iv 0) rfl (by kernel_rfl) <| wM_mov (v := .slice paq L.length capq) rfl <| wM_mov (v := iv (stK us adv ds rev)) rfl <| wM_mov (v := iv 0) rfl <| wM_end <| wM_seq <| wM_mov (v := iv 0) rfl <| wM_b_eql (a := 0) (b := 0) rfl rfl ?_
               intro t39 g39; obtain rfl : t39 = true := by rw [← g39]; rfl
               refine wM_mov (v := .bool true) rfl ?_
               refine wM_g rfl (wM_mov (v := iv (stK us adv ds rev)) rfl ?_)
               refine wM_g rfl (wM_mov (v := iv (stK us adv ds rev)) rfl ?_)
               refine wM_g rfl (wM_eql (a := stK us adv ds rev) rfl rfl ?_)
               refine wM_pur (v := .bool true) rfl rfl <| wM_mov (v := .bool true) rfl ?_
               refine wM_g rfl (wM_mov (v := .slice pap L.length capp) rfl ?_)
               refine wM_g rfl (wM_mov (v := .slice paq L.length capq) rfl ?_)
               obtain ⟨H28, fH28, kH28⟩ := pays_ok (kn := kn) (lo := lo) (H := H27) hpp hpq (by omega) (by omega)
               refine wM_g rfl (wM_callf s (vs := [.slice pap L.length capp, .slice paq L.length capq]) rfl (callX_args fH28) ?_)
               have mH28 := kH28.1
               have hk := hk.trans kH28
               have hs := kH28.sl0 hs
               have hd := kH28.sl0 hd
               have hpp := kH28.sl0 hpp
               have c1 := kH28.cl c1 (by simp)
               have hox := kH28.sl0 hox
               have hpq := kH28.sl0 hpq
               refine wM_pur (v := .bool true) rfl rfl <| wM_mov (v := .bool true) rfl ?_
               refine wM_g rfl (wM_callf s (vs := []) rfl (callX_known hkn) ?_)
               refine wM_pur (v := .bool true) rfl rfl <| wM_mov (v := .bool true) rfl <| wM_end ?_
               exact And.intro trivial (Exists.intro _ (And.intro rfl rfl))
             ·have g37 : (stK us adv ds rev) ≠ rev := by simpa using g37
              omega
           ·have g33 : (stK us adv ds rev) ≥ (pS (rcF (fun g => hwS us ds g ds.length)) L L.length) := of_decide_eq_true g33
            omega
         ·have g25 : (stK us adv ds rev) < 0 := of_decide_eq_true g25
          omega
        ·have g24 : ((pS (fun g => shr rev (hwS us ds g ds.length) (tW us ds ds.length)) L L.length) + (stK us adv ds rev)) ≠ rev := by simpa using g24
         omega
       ·have g23 : (pS (fun g => haS us adv ds g ds.length) L L.length) ≠ (tA us adv ds ds.length) := by simpa using g23
        omega
      ·have g22 : (tW us ds ds.length) ≠ (pS (fun g => hwS us ds g ds.length) L L.length) := by simpa using g22
       omega
   ·have g11 : rev < 0 := of_decide_eq_true g11
    omega
 ·refine wM_end <| condT <| wM_seq <| wM_callf s (vs := []) rfl (callX_known hkn) <| wM_mov (v := .bool true) rfl <| wM_end ?_
  exact And.intro trivial (Exists.intro _ (And.intro rfl rfl))
end
end
end Go.Ax

namespace Go.Ax
open Go Go.RowKit Go.Proofs Go.ChangeShapes Go.WideShapes Go.Deep

def IntT (P : Program) (t : TypeId) : Prop := ∀ (H : Type) (enc : TypeId × Value → H) (w : World) (base : Nat) (spare : Nat → Bool) (held : Bool) (fuel : Nat) (cs : List Value) (x : DataW H × List MemPlace),
 DataW.trod enc P w base spare held fuel t cs = some x → cs.length = P.cellsOf t ∧ ∀ j, j < cs.length → ∃ n, cs[j]? = some (.int .i64 n)
theorem IntT.int {P : Program} {t : TypeId} (ht : P.underlying t = some (.int .i64)) (hc : P.cellsOf t = 1) : IntT P t := by
 intro H enc w base spare held fuel cs x h
 obtain ⟨n, rfl, _⟩ := DataW.trod_int ht h
 refine ⟨by rw [hc]; rfl, fun j hj => ⟨n, ?_⟩⟩
 have : j = 0 := by simp at hj; omega
 subst this; rfl
theorem IntT.struct {P : Program} {t : TypeId} {fs : Array Field} (ht : P.underlying t = some (.struct fs)) (hf : ∀ f ∈ fs.toList, IntT P f.type)
  (hcov : ((List.range (P.cellsOf t)).all fun j => fs.toList.any fun f => decide (f.offset ≤ j) && decide (j < f.offset + P.cellsOf f.type)) = true) : IntT P t := by
 intro H enc w base spare held fuel cs x h
 obtain ⟨xs, n, _, _, hlen, hxl, hg⟩ := DataW.trod_struct ht h
 refine ⟨hlen, fun j hj => ?_⟩
 have h1 := List.all_eq_true.1 hcov j (List.mem_range.2 (by omega))
 obtain ⟨f, hfm, h2⟩ := List.any_eq_true.1 h1
 simp only [Bool.and_eq_true, decide_eq_true_eq] at h2
 obtain ⟨i, hi, hfi⟩ := List.getElem_of_mem hfm
 have hfs : fs[i]? = some f := by
  rw [← Array.getElem?_toList, List.getElem?_eq_getElem hi, hfi]
 have hi2 : i < xs.length := by simpa [hxl] using hi
 have h3 := hg i f hfs
 rw [List.getElem?_eq_getElem hi2] at h3
 obtain ⟨h4, h5⟩ := hf f hfm _ _ _ _ _ _ _ _ _ h3
 obtain ⟨m, hm⟩ := h5 (j - f.offset) (by omega)
 refine ⟨m, ?_⟩
 rw [List.getElem?_take] at hm
 split at hm
 ·rw [List.getElem?_drop, show f.offset + (j - f.offset) = j by omega] at hm; exact hm
 ·cases hm

structure Given {α : Type} (w : World) (v : Value) (f : α → List Value) (l : List α) (x : Imp) : Prop where
 ok : ∀ (i : Nat) u, x.cs[i]? = some u → w.cell? ⟨x.blk, x.off + i, none⟩ = some u ∧ flat1 u = true
 cs : x.cs = l.flatMap f
 v : (v = .slice none 0 0 ∧ l = []) ∨ ∃ cap, v = .slice (some ⟨x.blk, x.off, none⟩) l.length cap ∧ l.length ≤ cap
theorem flat_get {α : Type} {f : α → List Value} {k : Nat} (hk : 0 < k) : ∀ {l : List α} (_ : ∀ x ∈ l, (f x).length = k) (i : Nat) (u : Value), (l.flatMap f)[i]? = some u → ∃ x, l[i / k]? = some x ∧ (f x)[i % k]? = some u
 | [], _, i, u, h => by simp at h
 | y :: r, hl, i, u, h => by
  have hy := hl y (List.mem_cons_self ..)
  rw [List.flatMap_cons, List.getElem?_append] at h
  split at h
  ·rename_i q
   rw [hy] at q
   refine ⟨y, ?_, ?_⟩
   ·rw [Nat.div_eq_of_lt q]; rfl
   ·rw [Nat.mod_eq_of_lt q]; exact h
  ·rename_i q
   rw [hy] at q h
   obtain ⟨x, h1, h2⟩ := flat_get hk (fun x hx => hl x (List.mem_cons_of_mem _ hx)) _ u h
   refine ⟨x, ?_, ?_⟩
   ·rw [Nat.div_eq_sub_div hk (by omega)]; exact h1
   ·rw [Nat.mod_eq_sub_mod (by omega)]; exact h2
theorem slice_given {H : Type} {enc : TypeId × Value → H} {P : Program} {w : World} {base b0 : Nat} {r : Reach} {held : Bool} {α : Type} (f : α → List Value) (mk : (Nat → Int) → α) (k : Nat) {t e : TypeId} {fuel : Nat} {v : Value} {x : DataW H × List MemPlace}
  (ht : P.underlying t = some (.slice e)) (hI : IntT P e) (hc : P.cellsOf e = k) (hk : 0 < k) (hmk : ∀ N : Nat → Int, f (mk N) = (List.range k).map fun j => Value.int .i64 (N j))
  (hok : Cell.okWide P w r b0 t v) (h : DataW.trod enc P w base (fun _ => true) held fuel t [v] = some x) : ∃ (l : List α) (y : Imp), Given w v f l y := by
 rcases open_slice ht h with ⟨h0, _⟩ | ⟨a, len, cap, m, n, D, Pl, hcs, hb, hl, hm, hmm, hx, hi⟩
 ·cases h0
  exact ⟨[], ⟨0, 0, []⟩, fun i u e => by simp at e, rfl, .inl ⟨rfl, rfl⟩⟩
 ·cases hcs
  obtain ⟨blk, off, spot⟩ := a
  have hs : spot = none := by
   unfold Cell.okWide at hok
   rw [ht] at hok
   unfold Cell.ok at hok
   simp only [ht] at hok
   exact hok.2.2.2.1
  subst hs
  simp only [if_true] at hmm
  subst hmm
  have hcell : ∀ i, i < len → ∀ j, j < k → ∃ n, w.cell? ⟨blk, off + (i * k + j), none⟩ = some (.int .i64 n) := by
   intro i hil j hj
   obtain ⟨cs', h1, h2⟩ := hi i (by omega)
   obtain ⟨h3, h4⟩ := hI _ _ _ _ _ _ _ _ _ h2
   obtain ⟨_, h5, h6⟩ := World.cells?_some h1
   obtain ⟨n, hn⟩ := h4 j (by omega)
   refine ⟨n, ?_⟩
   have h7 := h6 j (by omega)
   rw [hn, hc, add_add] at h7
   have e : (⟨blk, off, none⟩ : Addr).add (i * k + j) = ⟨blk, off + (i * k + j), none⟩ := by
    unfold Addr.add
    by_cases q : i * k + j = 0
    ·simp [q]
    ·simp
   rw [e] at h7
   exact h7
  refine ⟨(List.range len).map fun i => mk fun j => match w.cell? ⟨blk, off + (i * k + j), none⟩ with | some (.int _ n) => n | _ => 0, ⟨blk, off, _⟩, ?_, rfl, .inr ⟨m, by simp, by simpa using hl⟩⟩
  intro i u hu
  obtain ⟨y, h1, h2⟩ := flat_get hk (fun y hy => by
   obtain ⟨i, _, rfl⟩ := List.mem_map.1 hy
   rw [hmk]; simp) i u hu
  have hlt : i / k < len := by
   have := get_lt h1
   simpa using this
  rw [List.getElem?_map, List.getElem?_range hlt] at h1
  simp only [Option.map_some, Option.some.injEq] at h1
  subst h1
  have hj : i % k < k := Nat.mod_lt _ hk
  rw [hmk, List.getElem?_map, List.getElem?_range hj] at h2
  simp only [Option.map_some, Option.some.injEq] at h2
  obtain ⟨n, hn⟩ := hcell _ hlt _ hj
  rw [hn] at h2
  subst h2
  rw [Nat.div_add_mod' ] at hn
  exact ⟨hn, rfl⟩
theorem Given.rel {α : Type} {w : World} {v : Value} {f : α → List Value} {l : List α} {x : Imp} (g : Given w v f l x) {r : Ren} {H : Hp} {b : Nat} (hr : r b = some ⟨x.blk, x.off, none⟩) (hb : b < H.next) (hc : cellsOf H b = some x.cs) (hro : H.t.get b = some (.ro x.cs)) :
  ∃ a cap, VR r (.slice a l.length cap) v ∧ Sl H a l.length cap (l.flatMap f) ∧ ∀ b, a = some ⟨b, 0, none⟩ → H.t.get b = some (.ro (l.flatMap f)) := by
 rcases g.v with ⟨rfl, rfl⟩ | ⟨cap, rfl, hl⟩
 ·exact ⟨none, 0, .nilSlice, .inl ⟨.inl rfl, rfl, rfl, rfl⟩, fun b e => by cases e⟩
 ·refine ⟨some ⟨b, 0, none⟩, cap, ?_, .inr ⟨b, rfl, ⟨hb, by rw [hc, g.cs]⟩, hl⟩, fun b' e => by cases e; rw [hro, g.cs]⟩
  have := VR.slice (o := 0) (n := l.length) (c := cap) hr rfl hl
  simpa using this
end Go.Ax

/-! Slices of rows of plain cells, as arguments. -/
namespace Go.Ax
open Go Go.RowKit Go.Proofs Go.ChangeShapes Go.WideShapes Go.Deep

theorem IntT.row {α : Type} {P : Program} {t : TypeId} {k : Nat} {f : α → List Value} {mk : (Nat → Int) → α} (h : IntT P t) (hc : P.cellsOf t = k) (hmk : ∀ N : Nat → Int, f (mk N) = (List.range k).map fun j => Value.int .i64 (N j))
  {H : Type} {enc : TypeId × Value → H} {w : World} {base : Nat} {spare : Nat → Bool} {held : Bool} (fuel : Nat) (cs : List Value) (x : DataW H × List MemPlace) (hx : DataW.trod enc P w base spare held fuel t cs = some x) : ∃ y : α, cs = f y ∧ True := by
 obtain ⟨h1, h2⟩ := h _ _ _ _ _ _ _ _ _ hx
 have : ∃ N : Nat → Int, ∀ j, j < cs.length → cs[j]? = some (.int .i64 (N j)) := by
  refine ⟨fun j => match cs[j]? with | some (.int _ n) => n | _ => 0, fun j hj => ?_⟩
  obtain ⟨n, hn⟩ := h2 j hj
  simp [hn]
 obtain ⟨N, hN⟩ := this
 refine ⟨mk N, ?_, trivial⟩
 rw [hmk]
 apply List.ext_getElem?
 intro j
 by_cases hj : j < k
 ·rw [hN j (by omega), List.getElem?_map, List.getElem?_range hj]; rfl
 ·rw [List.getElem?_eq_none (by omega), List.getElem?_eq_none (by simp; omega)]
end Go.Ax

/-! Arguments that point to what points: inner slices, rows of slices. -/
namespace Go.Ax
open Go Go.RowKit Go.Proofs Go.ChangeShapes Go.WideShapes Go.Deep

def renOf (imps : List Imp) : Ren := fun b => (imps[b]?).map fun x => ⟨x.blk, x.off, none⟩
theorem imports3 {P : Program} (imps outs : List Imp) (w : World) (h : ∀ x ∈ imps, ∀ (i : Nat) v, x.cs[i]? = some v → w.cell? ⟨x.blk, x.off + i, none⟩ = some v ∧ flat1 v = true)
  (hcs : ∀ x ∈ outs, ∀ (i : Nat) v, x.cs[i]? = some v → ∃ v', w.cell? ⟨x.blk, x.off + i, none⟩ = some v' ∧ VR (renOf imps) v v') :
  ∃ (r : Ren) (H : Hp), Rel P r w.heap.size H w ∧ H.next = (imps ++ outs).length ∧ (∀ b loc, r b = some loc → b < H.next) ∧ Ren.Le (renOf imps) r ∧ ∀ (b : Nat) x, (imps ++ outs)[b]? = some x → r b = some ⟨x.blk, x.off, none⟩ ∧ H.t.get b = some (.ro x.cs) := by
 have hall : ∀ x ∈ imps ++ outs, ∀ (i : Nat) v, x.cs[i]? = some v → ∃ v', w.cell? ⟨x.blk, x.off + i, none⟩ = some v' ∧ VR (renOf imps) v v' := by
  intro x hx i v hv
  rcases List.mem_append.1 hx with hx | hx
  ·obtain ⟨h1, h2⟩ := h x hx i v hv
   exact ⟨v, h1, flat1_vr h2⟩
  ·exact hcs x hx i v hv
 obtain ⟨t, ht⟩ := tr_of (fun b => ((imps ++ outs)[b]?).map fun x => .ro x.cs) (imps ++ outs).length
 have hle : Ren.Le (renOf imps) (fun b => ((imps ++ outs)[b]?).map fun x => ⟨x.blk, x.off, none⟩) := fun b loc e => by
  unfold renOf at e
  have hlt : b < imps.length := by
   rcases Nat.lt_or_ge b imps.length with q | q
   ·exact q
   ·rw [List.getElem?_eq_none q] at e; cases e
  show ((imps ++ outs)[b]?).map _ = _
  rw [List.getElem?_append_left hlt]; exact e
 have hr : ∀ (b : Nat) loc, ((imps ++ outs)[b]?).map (fun x => (⟨x.blk, x.off, none⟩ : Loc)) = some loc → ∃ x, (imps ++ outs)[b]? = some x ∧ b < (imps ++ outs).length ∧ loc = ⟨x.blk, x.off, none⟩ ∧ t.get b = some (.ro x.cs) := by
  intro b loc e
  cases hx : (imps ++ outs)[b]? with
  | none => rw [hx] at e; cases e
  | some x =>
   rw [hx] at e
   simp at e
   have hlt := get_lt hx
   exact ⟨x, rfl, hlt, e.symm, by rw [ht, if_pos hlt, hx]; rfl⟩
 have low : ∀ {g o : Nat} {v : Value}, w.cell? ⟨g, o, none⟩ = some v → g < w.heap.size := fun {g o v} hv => by
  unfold World.cell? at hv
  rcases Nat.lt_or_ge g w.heap.size with q | q
  ·exact q
  ·rw [Array.getElem?_eq_none q] at hv; cases hv
 refine ⟨fun b => ((imps ++ outs)[b]?).map fun x => ⟨x.blk, x.off, none⟩, { next := (imps ++ outs).length, t }, ⟨?_, ?_, ?_, Nat.le_refl _⟩, rfl, ?_, hle, ?_⟩
 ·intro b loc e
  obtain ⟨x, hx, hlt, rfl, hg⟩ := hr b loc e
  refine ⟨hlt, ?_⟩
  show Dm _ _ _ (t.get b)
  rw [hg]
  cases hc : x.cs with
  | nil => exact .inl rfl
  | cons v l =>
   obtain ⟨v', h1, _⟩ := hall x (List.mem_of_getElem? hx) 0 v (by rw [hc]; rfl)
   exact .inr (low h1)
 ·intro b loc o e eo
  obtain ⟨x, hx, hlt, rfl, hg⟩ := hr b loc e
  rw [hg] at eo; cases eo
  refine ⟨rfl, fun i v ev => ?_⟩
  obtain ⟨v', h1, h2⟩ := hall x (List.mem_of_getElem? hx) i v ev
  unfold World.cell? at h1
  simp only at h1
  split at h1
  ·rename_i C e' f hC
   exact ⟨C, e', f, v', hC, by simpa using h1, h2.mono hle⟩
  ·cases h1
 ·intro b b' loc loc' e e' _ hl _
  obtain ⟨x, hx, hlt, rfl, hg⟩ := hr b loc e
  obtain ⟨o, h1, h2, h3⟩ := hl
  have : t.get b = some o := h1
  rw [hg] at this; cases this
  cases h3
 ·intro b loc e
  obtain ⟨x, hx, hlt, rfl, hg⟩ := hr b loc e
  exact hlt
 ·intro b x hx
  have hlt := get_lt hx
  refine ⟨by simp only [hx, Option.map_some], ?_⟩
  show t.get b = _
  rw [ht, if_pos hlt, hx]; rfl

structure GivI {α : Type} (w : World) (v : Value) (f : α → List Value) (l : List α) (x : Imp) : Prop where
 ok : ∀ (i : Nat) u, x.cs[i]? = some u → w.cell? ⟨x.blk, x.off + i, none⟩ = some u ∧ flat1 u = true
 cs : x.cs = l.flatMap f
 v : ((v = .slice none 0 0 ∨ ∃ a', v = .slice (some a') 0 0) ∧ l = []) ∨ ∃ cap, v = .slice (some ⟨x.blk, x.off, none⟩) l.length cap ∧ l.length ≤ cap
theorem GivI.rel {α : Type} {w : World} {v : Value} {f : α → List Value} {l : List α} {x : Imp} (g : GivI w v f l x) {r : Ren} {b : Nat} (hr : r b = some ⟨x.blk, x.off, none⟩) :
  ∃ a cap, VR r (.slice a l.length cap) v ∧ (∀ y, a = some ⟨y, 0, none⟩ → y = b) ∧ ∀ H : Hp, b < H.next → H.t.get b = some (.ro x.cs) → Sl H a l.length cap (l.flatMap f) := by
 rcases g.v with ⟨rfl | ⟨a', rfl⟩, rfl⟩ | ⟨cap, rfl, hl⟩
 ·exact ⟨none, 0, .nilSlice, fun y e => by (cases e), fun H _ _ => .inl ⟨.inl rfl, rfl, rfl, rfl⟩⟩
 ·exact ⟨some ⟨0, 0, some 0⟩, 0, .weird, fun y e => by (cases e), fun H _ _ => .inl ⟨.inr rfl, rfl, rfl, rfl⟩⟩
 ·refine ⟨some ⟨b, 0, none⟩, cap, ?_, fun y e => by (cases e; rfl), fun H hb hc => .inr ⟨b, rfl, ⟨hb, by unfold cellsOf; rw [hc, g.cs]⟩, hl⟩⟩
  have := VR.slice (o := 0) (n := l.length) (c := cap) hr rfl hl
  simpa using this
structure RV where
 rv : Value
 l : List Int
 x : Imp
def RV.f (r : RV) : List Value := [r.rv]
def RV.Q (w : World) (r : RV) : Prop := GivI w r.rv (fun n : Int => [iv n]) r.l r.x
end Go.Ax

/-! What is flat as arguments. -/
namespace Go.Ax
open Go Go.RowKit Go.Proofs Go.ChangeShapes Go.WideShapes Go.Deep

theorem imports_flat {P : Program} (pre : List Imp) {w : World} (h : ∀ x ∈ pre, ∀ (i : Nat) v, x.cs[i]? = some v → w.cell? ⟨x.blk, x.off + i, none⟩ = some v ∧ flat1 v = true) :
  ∃ (r : Ren) (H : Hp), Rel P r w.heap.size H w ∧ (∀ b loc, r b = some loc → b < H.next) ∧ (∀ (b : Nat) x, pre[b]? = some x → b < H.next ∧ r b = some ⟨x.blk, x.off, none⟩ ∧ H.t.get b = some (.ro x.cs)) := by
 obtain ⟨r, H, h1, h2, h3, h4, h5⟩ := imports3 (P := P) pre [] w h (fun x hx => by simp at hx)
 refine ⟨r, H, h1, h3, fun b x hx => ?_⟩
 have := get_lt hx
 obtain ⟨a, c⟩ := h5 b x (by simpa using hx)
 exact ⟨by rw [h2]; simpa using this, a, c⟩
end Go.Ax


import Derived.Test.YtabiecloimmjdaaMf
import Derived.Test.YtabiecloimmjdaaRows
import Derived.Test.YtabiecloimmjdaaChecked
import Derived.Deep.Slices
import Derived.Deep.Fields
import Derived.ChangeSame
set_option linter.all false
/-
 Pool: the examples of the document hold (11) (written by program).
-/
namespace Go.Ax
open Go Go.RowKit Go.Proofs

noncomputable section
theorem aw1 : wtV us0 400 (ds0.getD 1 Dl.z) = 45000 ∧ wtI us0 400 (ds0.getD 1 Dl.z) = 1 ∧ wtE us0 400 (ds0.getD 1 Dl.z) = 0 := ⟨by kernel_rfl, by kernel_rfl, by kernel_rfl⟩
theorem aw2 : avV us0 400 ds0 = 43200 ∧ avE us0 400 ds0 = 0 := ⟨by kernel_rfl, by kernel_rfl⟩
theorem aw3 : stK us0 400 ds0 100000 = 1 ∧ stE us0 400 ds0 100000 = 0 ∧ stL us0 400 ds0 100000 = [3, 8] := ⟨by kernel_rfl, by kernel_rfl, by kernel_rfl⟩
theorem aw3r : row 5 (plc us0 400 ds0 100000 [3, 8]) (0 + 0 * 5) = some [iv 3, iv 63000, iv 25200, iv 58333, iv 33133] := by kernel_rfl
theorem ds0_ok : ds0.any badD = false := by kernel_rfl
theorem aw4 : BkS us0 400 ds0 8 50000 120000 0 := by
 unfold BkS
 rw [if_pos (by kernel_rfl), if_pos (show (8 : Int) ∈ grl ds0 from (grl_mem ds0_ok).2 ⟨1, by decide, rfl⟩), if_pos (by kernel_rfl)]
 exact ⟨120000, ⟨by unfold NB; omega, .inr (by kernel_rfl), .inr (by kernel_rfl)⟩, by kernel_rfl⟩
theorem aw5 : RdS us0 400 (ds0.getD 0 Dl.z) 60000 60000000 0 := by
 unfold RdS
 rw [if_pos (by kernel_rfl), if_pos (by kernel_rfl)]
 have e : ((ds0.getD 0 Dl.z).g * 255 + 1).toNat = 255000001 := by kernel_rfl
 exact ⟨60000000, ⟨by rw [e]; omega, .inr (by kernel_rfl), .inr (by kernel_rfl)⟩, by kernel_rfl⟩
abbrev kn0 : Kn := ⟨fun _ => none, fun _ _ _ _ => none⟩
section
variable {lo : Nat} {H : Hp}
set_option maxRecDepth 100000 in
set_option maxHeartbeats 2000000 in
theorem awake_C (s : Snd Try.prog kn0) (hlo : lo ≤ H.next) : FnC Try.prog lo 11 [] H fun v _ => v = .bool true := by
 refine fnC_low s Try.func11 B11 N11 Z11 L11 (by simp) ?_
 have hk := Keep.refl H []
 refine wM_seq <| wM_mov (v := .bool false) rfl <| wM_end <| wM_seq ?_
 obtain ⟨sa, cap, la, capl, H1, fH1, hs, hd, kH1⟩ := sample_ok (kn := kn0) (lo := lo) (H := H) (by omega)
 refine wM_callf s (vs := []) rfl (callX_func rfl (by simpa using fH1)) ?_
 have mH1 := kH1.1
 have hk := hk.trans kH1
 rcases id hd with ⟨_, h03, _⟩ | ⟨tb, et, rt, _⟩
 ·omega
 have fs := hs.old; have fd := hd.old; have lt := rt.1
 refine wM_mov (v := .tuple #[.agg #[.slice sa 2 cap, iv 400], .slice la 3 capl]) rfl <| wM_pur (v := .agg #[.slice sa 2 cap, iv 400]) rfl (by kernel_rfl) <| wM_pur (v := .slice la 3 capl) rfl (by kernel_rfl) <| wM_alc ?_
 intro H2 kH2 nH2 c2
 have c2 : Cl H2 H1.next [.slice none 0 0, iv 0] := c2
 have mH2 := kH2.1
 have hk := hk.trans kH2
 have hs := kH2.sl0 hs
 have hd := kH2.sl0 hd
 have rt := kH2.rd rt (by simp)
 refine wM_sta (b := H1.next) (o := 0) rfl rfl c2 (by omega) rfl rfl (by simp) ?_
 intro H3 kH3 nH3 sH3
 have mH3 := kH3.1
 have hk := hk.new kH3 (fun b hb => by simp at hb ⊢; omega)
 have hs := kH3.sl hs (fun b e => by have := fs b e; first | (simp; done) | (simp; omega))
 have hd := kH3.sl hd (fun b e => by have := fd b e; first | (simp; done) | (simp; omega))
 have rt := kH3.rd rt (by first | (simp; done) | (simp; omega))
 have c2 : Cl H3 H1.next [.slice sa 2 cap, iv 400] := sH3
 refine wM_mov (v := .slice la 3 capl) rfl <| wM_end <| wM_dseq <| wD_lda (b := H1.next) (o := 0) rfl c2.rd (show row 2 _ _ = some [.slice sa 2 cap, iv 400] from rfl) <| wD_mov (v := .slice la 3 capl) rfl <| wD_idx (b := tb) (o := 0) (k := 1) (j := 1) (by rw [← et]; rfl) rfl rfl (by omega) <| wD_lda (b := tb) (o := 0 + 1 * 3) rfl rt (dlc_rowF (ds := ds0) (i := 1) (by decide)) ?_
 obtain ⟨H4, fH4, kH4⟩ := Worth_ok (kn := kn0) (lo := lo) (H := H3) (adv := 400) hs rfl (by omega) (by omega) (d := ds0.getD 1 Dl.z)
 rw [aw1.1, aw1.2.1, aw1.2.2] at fH4
 refine wD_callf (vs := [.agg #[.slice sa 2 cap, iv 400], .agg (Dl.f (ds0.getD 1 Dl.z)).toArray]) rfl (callX_args fH4) ?_
 have mH4 := kH4.1
 have hk := hk.trans kH4
 have hs := kH4.sl0 hs
 have hd := kH4.sl0 hd
 have rt := kH4.rd rt (by simp)
 have c2 := kH4.cl c2 (by simp)
 refine wD_mov (v := .tuple #[iv 45000, iv 1, iv 0]) rfl <| wD_pur (v := iv 45000) rfl (by kernel_rfl) <| wD_pur (v := iv 1) rfl (by kernel_rfl) <| wD_pur (v := iv 0) rfl (by kernel_rfl) <| wD_mov (v := iv 45000) rfl <| wD_mov (v := iv 1) rfl <| wD_mov (v := iv 0) rfl ?_
 refine wD_end (by repeat' first | exact True.intro | exact (fun h => h) | refine And.intro ?_ ?_ | (intro h; have h : (_ : Nat) = _ := h; omega)) ?_
 refine wM_seq <| wM_lda (b := H1.next) (o := 0) rfl c2.rd (show row 2 _ _ = some [.slice sa 2 cap, iv 400] from rfl) <| wM_mov (v := .slice la 3 capl) rfl <| wM_call (t := .fn (.func 16) #[]) rfl (callM_args s.hN (Advances_ok (H := H4) s (adv := 400) hs rfl (by omega) hd rfl (by omega) (by omega))) ?_
 rintro _ H5 ⟨rfl, kH5⟩
 rw [aw2.1, aw2.2]
 have mH5 := kH5.1
 have hk := hk.trans kH5
 have hs := kH5.sl0 hs
 have hd := kH5.sl0 hd
 have rt := kH5.rd rt (by simp)
 have c2 := kH5.cl c2 (by simp)
 refine wM_mov (v := .tuple #[iv 43200, iv 0]) rfl <| wM_pur (v := iv 43200) rfl (by kernel_rfl) <| wM_pur (v := iv 0) rfl (by kernel_rfl) <| wM_mov (v := iv 43200) rfl <| wM_mov (v := iv 0) rfl <| wM_end <| wM_seq <| wM_lda (b := H1.next) (o := 0) rfl c2.rd (show row 2 _ _ = some [.slice sa 2 cap, iv 400] from rfl) <| wM_mov (v := .slice la 3 capl) rfl <| wM_call (t := .fn (.func 18) #[]) rfl (callM_args s.hN (Settle_ok (H := H5) s (adv := 400) hs rfl (by omega) hd rfl (by omega) (by omega) (rev := 100000))) ?_
 rintro _ H6 ⟨pv, rfl, hpa, kH6⟩
 rw [aw3.2.2] at hpa
 rw [aw3.1, aw3.2.1]
 have mH6 := kH6.1
 have hk := hk.trans kH6
 have hs := kH6.sl0 hs
 have hd := kH6.sl0 hd
 have rt := kH6.rd rt (by simp)
 have c2 := kH6.cl c2 (by simp)
 obtain ⟨pa, pcap, rfl, hpy, _⟩ := hpa.sl
 rcases id hpy with ⟨_, h02, _⟩ | ⟨pb, ep, rp, _⟩
 ·exact absurd h02 (by decide)
 have lp := rp.1
 refine wM_mov (v := .tuple #[.slice pa 2 pcap, iv 1, iv 0]) rfl <| wM_pur (v := .slice pa 2 pcap) rfl (by kernel_rfl) <| wM_pur (v := iv 1) rfl (by kernel_rfl) <| wM_pur (v := iv 0) rfl (by kernel_rfl) <| wM_mov (v := .slice pa 2 pcap) rfl <| wM_mov (v := iv 1) rfl <| wM_mov (v := iv 0) rfl <| wM_end <| wM_seq <| wM_lda (b := H1.next) (o := 0) rfl c2.rd (show row 2 _ _ = some [.slice sa 2 cap, iv 400] from rfl) <| wM_mov (v := .slice la 3 capl) rfl <| wM_call (t := .fn (.func 20) #[]) rfl (callM_args s.hN (Break_ok (H := H6) s (adv := 400) hs rfl (by omega) hd rfl (by omega) (by omega) (gr := 8) (wanted := 50000))) ?_
 rintro _ H7 ⟨xb, eb, rfl, hb, kH7⟩
 obtain ⟨rfl, rfl⟩ := hb.uniq aw4
 have mH7 := kH7.1
 have hk := hk.trans kH7
 have hs := kH7.sl0 hs
 have hd := kH7.sl0 hd
 have rt := kH7.rd rt (by simp)
 have c2 := kH7.cl c2 (by simp)
 have rp := kH7.rd rp (by simp)
 refine wM_mov (v := .tuple #[iv 120000, iv 0]) rfl <| wM_pur (v := iv 120000) rfl (by kernel_rfl) <| wM_pur (v := iv 0) rfl (by kernel_rfl) <| wM_mov (v := iv 120000) rfl <| wM_mov (v := iv 0) rfl <| wM_end <| wM_dseq <| wD_lda (b := H1.next) (o := 0) rfl c2.rd (show row 2 _ _ = some [.slice sa 2 cap, iv 400] from rfl) <| wD_mov (v := .slice la 3 capl) rfl <| wD_idx (b := tb) (o := 0) (k := 0) (j := 0) (by rw [← et]; rfl) rfl rfl (by omega) <| wD_lda (b := tb) (o := 0 + 0 * 3) rfl rt (dlc_rowF (ds := ds0) (i := 0) (by decide)) ?_
 obtain ⟨xr, er, H8, fH8, hr, kH8⟩ := Redder_ok (kn := kn0) (lo := lo) (H := H7) (adv := 400) hs rfl (by omega) (by omega) (d := ds0.getD 0 Dl.z) (wanted := 60000)
 obtain ⟨rfl, rfl⟩ := hr.uniq aw5
 refine wD_callf (vs := [.agg #[.slice sa 2 cap, iv 400], .agg (Dl.f (ds0.getD 0 Dl.z)).toArray, iv 60000]) rfl (callX_args fH8) ?_
 have mH8 := kH8.1
 have hk := hk.trans kH8
 have hs := kH8.sl0 hs
 have hd := kH8.sl0 hd
 have rt := kH8.rd rt (by simp)
 have c2 := kH8.cl c2 (by simp)
 have rp := kH8.rd rp (by simp)
 refine wD_mov (v := .tuple #[iv 60000000, iv 0]) rfl <| wD_pur (v := iv 60000000) rfl (by kernel_rfl) <| wD_pur (v := iv 0) rfl (by kernel_rfl) <| wD_mov (v := iv 60000000) rfl <| wD_mov (v := iv 0) rfl ?_
 refine wD_end (by repeat' first | exact True.intro | exact (fun h => h) | refine And.intro ?_ ?_ | (intro h; have h : (_ : Nat) = _ := h; omega)) ?_
 refine wM_seq <| wM_mov (v := iv 45000) rfl <| wM_b_neq (a := 45000) (b := 45000) rfl rfl ?_
 intro t1 g1; obtain rfl : t1 = false := by rw [← g1]; rfl
 refine wM_mov (v := .bool false) rfl ?_
 refine wM_g rfl (wM_mov (v := iv 1) rfl ?_)
 refine wM_g rfl (wM_b_neq (a := 1) (b := 1) rfl rfl ?_)
 intro t2 g2; obtain rfl : t2 = false := by rw [← g2]; rfl
 refine wM_pur (v := .bool false) rfl rfl <| wM_mov (v := .bool false) rfl ?_
 refine wM_g rfl (wM_mov (v := iv 0) rfl ?_)
 refine wM_g rfl (wM_b_neq (a := 0) (b := 0) rfl rfl ?_)
 intro t3 g3; obtain rfl : t3 = false := by rw [← g3]; rfl
 refine wM_pur (v := .bool false) rfl rfl <| wM_mov (v := .bool false) rfl ?_
 refine wM_g rfl (wM_mov (v := iv 43200) rfl ?_)
 refine wM_g rfl (wM_b_neq (a := 43200) (b := 43200) rfl rfl ?_)
 intro t4 g4; obtain rfl : t4 = false := by rw [← g4]; rfl
 refine wM_pur (v := .bool false) rfl rfl <| wM_mov (v := .bool false) rfl ?_
 refine wM_g rfl (wM_mov (v := iv 0) rfl ?_)
 refine wM_g rfl (wM_b_neq (a := 0) (b := 0) rfl rfl ?_)
 intro t5 g5; obtain rfl : t5 = false := by rw [← g5]; rfl
 refine wM_pur (v := .bool false) rfl rfl <| wM_mov (v := .bool false) rfl ?_
 refine wM_g rfl (wM_mov (v := .slice pa 2 pcap) rfl ?_)
 refine wM_g rfl (wM_len (m := 2) rfl ?_)
 refine wM_g rfl (wM_b_neq (a := 2) (b := 2) rfl rfl ?_)
 intro t6 g6; obtain rfl : t6 = false := by rw [← g6]; rfl
 refine wM_pur (v := .bool false) rfl rfl <| wM_mov (v := .bool false) rfl ?_
 refine wM_g rfl (wM_mov (v := .slice pa 2 pcap) rfl ?_)
 refine wM_g rfl (wM_idx (b := pb) (o := 0) (k := 0) (j := 0) (by rw [← ep]; rfl) rfl rfl (by omega) ?_)
 refine wM_g rfl (wM_lda (b := pb) (o := 0 + 0 * 5) rfl rp aw3r ?_)
 refine wM_g rfl (wM_pur (v := .agg #[iv 3, iv 63000, iv 25200, iv 58333, iv 33133]) rfl (by kernel_rfl) ?_)
 refine wM_g rfl (wM_pur (v := .bool false) rfl (neq50 (a := 3) (b := 63000) (c := 25200) (e := 58333) (f := 33133) rfl rfl) ?_)
 refine wM_pur (v := .bool false) rfl rfl <| wM_mov (v := .bool false) rfl ?_
 refine wM_g rfl (wM_mov (v := iv 1) rfl ?_)
 refine wM_g rfl (wM_b_neq (a := 1) (b := 1) rfl rfl ?_)
 intro t7 g7; obtain rfl : t7 = false := by rw [← g7]; rfl
 refine wM_pur (v := .bool false) rfl rfl <| wM_mov (v := .bool false) rfl ?_
 refine wM_g rfl (wM_mov (v := iv 0) rfl ?_)
 refine wM_g rfl (wM_b_neq (a := 0) (b := 0) rfl rfl ?_)
 intro t8 g8; obtain rfl : t8 = false := by rw [← g8]; rfl
 refine wM_pur (v := .bool false) rfl rfl <| wM_end <| condF ?_
 first | refine wM_skip ?_ | skip
 refine wM_seq <| wM_mov (v := iv 120000) rfl <| wM_b_eql (a := 120000) (b := 120000) rfl rfl ?_
 intro t9 g9; obtain rfl : t9 = true := by rw [← g9]; rfl
 refine wM_mov (v := .bool true) rfl ?_
 refine wM_g rfl (wM_mov (v := iv 0) rfl ?_)
 refine wM_g rfl (wM_b_eql (a := 0) (b := 0) rfl rfl ?_)
 intro t10 g10; obtain rfl : t10 = true := by rw [← g10]; rfl
 refine wM_pur (v := .bool true) rfl rfl <| wM_mov (v := .bool true) rfl ?_
 refine wM_g rfl (wM_mov (v := iv 60000000) rfl ?_)
 refine wM_g rfl (wM_b_eql (a := 60000000) (b := 60000000) rfl rfl ?_)
 intro t11 g11; obtain rfl : t11 = true := by rw [← g11]; rfl
 refine wM_pur (v := .bool true) rfl rfl <| wM_mov (v := .bool true) rfl ?_
 refine wM_g rfl (wM_mov (v := iv 0) rfl ?_)
 refine wM_g rfl (wM_b_eql (a := 0) (b := 0) rfl rfl ?_)
 intro t12 g12; obtain rfl : t12 = true := by rw [← g12]; rfl
 refine wM_pur (v := .bool true) rfl rfl <| wM_mov (v := .bool true) rfl <| wM_end ?_
 exact And.intro trivial (Exists.intro _ (And.intro rfl rfl))
end
end
end Go.Ax

/-
 Proved here: 'awake', the closed part that every law of pool ends in, returns true in every world, whatever is drawn, and leaves what lay below as it was. Conditions: none.
 It has no arguments; it is worked out by the contracts of the functions that it calls (Q16).
-/
namespace Go.Ax
open Go Go.RowKit
theorem known_one {P : Program} {g : FuncId} {t : Bool} (hb : ((P.funcs[g]?).bind (fun fn => fn.body)).isSome = true) (hc : ∀ w, Calls P g #[] w fun e w' => e = .returned (.bool t) ∧ Below w.heap.size w w') :
  Known P ⟨fun f => bif Nat.beq f g then some t else none, fun _ _ _ _ => none⟩ := by
 refine ⟨?_, fun f lo args H v H' _ h => by cases h⟩
 intro f b h
 obtain ⟨hf, h1⟩ := bif_some h
 clear h
 have hf := Nat.eq_of_beq_eq_true hf
 subst hf
 cases h1
 refine ⟨?_, hc⟩
 cases hx : P.funcs[f]? with
 | none => rw [hx] at hb; cases hb
 | some fn =>
  rw [hx] at hb
  cases hy : fn.body with
  | none => rw [Option.bind_some, hy] at hb; cases hb
  | some c => exact ⟨fn, c, rfl, hy⟩
theorem known_nothing {P : Program} : Known P ⟨fun _ => none, fun _ _ _ _ => none⟩ := ⟨KnownB.nothing P, fun f lo args H v H' _ h => by cases h⟩
end Go.Ax
namespace Go.Proofs.Ytabiecloimmjdaa.alive
open Go.RowKit
theorem mixed : Try.prog.follows .mixedOrders = true := by kernel_rfl
theorem plainNames : (Try.prog.funcs.toList.all fun fn => !(fn.name == "runtime.NumGoroutine")) = true := by kernel_rfl
theorem noCount : Go.Ax.NoCount Try.prog := fun f fn h => by
 have h2 := List.all_eq_true.1 plainNames fn (by
  have := Array.mem_of_getElem? h
  simpa using this)
 simpa using h2
theorem call (w : World) : Calls Try.prog 11 #[] w fun e w' => e = .returned (.bool true) ∧ Below w.heap.size w w' :=
 Go.Ax.closed_callC (Go.Ax.awake_C ⟨mixed, noCount, Go.Ax.known_nothing⟩ (Nat.zero_le _)) w
theorem known : Go.Ax.Known Try.prog ⟨fun f => bif Nat.beq f 11 then some true else none, fun _ _ _ _ => none⟩ := Go.Ax.known_one (by kernel_rfl) call
theorem snd : Go.Ax.Snd Try.prog ⟨fun f => bif Nat.beq f 11 then some true else none, fun _ _ _ _ => none⟩ := ⟨mixed, noCount, known⟩
end Go.Proofs.Ytabiecloimmjdaa.alive

/-
 Pool: the maths of cents: shares to the cent, and another order (written by program).
-/
namespace Go.Ax
open Go Go.RowKit Go.Proofs

theorem stL_len {us : List Pr} {adv : Int} {ds : List Dl} {rev : Int} : (stL us adv ds rev).length ≤ 1024 := by
 unfold stL
 split
 ·unfold grl
  refine Nat.le_trans (List.length_filter_le _ _) ?_
  simp
 ·simp
theorem stL_ok {us : List Pr} {adv : Int} {ds : List Dl} {rev : Int} (hv : vT us adv = true) (hd : vD ds = true) (h0 : 0 ≤ rev) (h1 : rev ≤ 1073741824) : stL us adv ds rev = grl ds ∧ stE us adv ds rev = 0 ∧ stK us adv ds rev = rev - sumK (fun g => shr rev (hwS us ds g ds.length) (tW us ds ds.length)) (grl ds) := by
 have h : inB rev 0 1073741824 = true := by simp [inB, h0, h1]
 unfold stL stE stK
 rw [hv, hd, h]; exact ⟨rfl, rfl, rfl⟩
theorem settle_cases (us : List Pr) (adv : Int) (ds : List Dl) (rev : Int) : (stL us adv ds rev = [] ∧ stK us adv ds rev = 0 ∧ stE us adv ds rev = 1 ∧ avE us adv ds = 1) ∨ (stL us adv ds rev = [] ∧ stK us adv ds rev = 0 ∧ stE us adv ds rev = 2 ∧ avE us adv ds = 0) ∨
  (vT us adv = true ∧ vD ds = true ∧ 0 ≤ rev ∧ rev ≤ 1073741824 ∧ stE us adv ds rev = 0 ∧ avE us adv ds = 0 ∧ avV us adv ds = tA us adv ds ds.length) := by
 unfold stL stK stE avE avV
 by_cases h : (vT us adv && vD ds) = true
 ·rw [h]
  by_cases h2 : inB rev 0 1073741824 = true
  ·rw [h2]
   simp only [Bool.and_eq_true] at h
   have := inB_t h2
   exact .inr (.inr ⟨h.1, h.2, this.1, this.2, rfl, rfl, rfl⟩)
  ·rw [Bool.not_eq_true] at h2
   rw [h2]; exact .inr (.inl ⟨rfl, rfl, rfl, rfl⟩)
 ·rw [Bool.not_eq_true] at h
  rw [h]; exact .inl ⟨rfl, rfl, rfl, rfl⟩
def sumL (f : Dl → Int) : List Dl → Int
 | [] => 0
 | d :: l => f d + sumL f l
theorem sumL_app {f : Dl → Int} : ∀ (a b : List Dl), sumL f (a ++ b) = sumL f a + sumL f b
 | [], b => by simp [sumL]
 | x :: a, b => by simp only [List.cons_append, sumL, sumL_app a b]; omega
theorem takeD {ds : List Dl} {i : Nat} (h : i < ds.length) : ds.take (i + 1) = ds.take i ++ [ds.getD i Dl.z] := by
 rw [List.take_add_one, List.getElem?_eq_getElem h, List.getD_eq_getElem?_getD, List.getElem?_eq_getElem h]; rfl
theorem hwS_D {us : List Pr} {ds : List Dl} {g : Int} : ∀ k, k ≤ ds.length → hwS us ds g k = sumL (fun d => if d.r = g then wW us d else 0) (ds.take k)
 | 0, _ => by simp [hwS, sumL]
 | k + 1, h => by rw [takeD (by omega), sumL_app, ← hwS_D k (by omega)]; simp [hwS, sumL]
theorem tW_D {us : List Pr} {ds : List Dl} : ∀ k, k ≤ ds.length → tW us ds k = sumL (wW us) (ds.take k)
 | 0, _ => by simp [tW, sumL]
 | k + 1, h => by rw [takeD (by omega), sumL_app, ← tW_D k (by omega)]; simp [tW, sumL]
end Go.Ax

/-! Remainders of uint64 and uint32. -/
namespace Go.Ax
open Go Go.RowKit Go.Proofs
set_option maxRecDepth 100000 in
theorem c_i43 {k : Nat} {S : Rg} {d : Option Tmp} {ty : TypeId} {p : String} {x : Operand} {j : Int} (h : 0 ≤ j) (h2 : j ≤ 9223372036854775807) (hx : evS S x = some (iv j)) : pureOp Try.prog (frS k S) ⟨d, .convert 3 43 x, ty, p, #[], none⟩ = some (.int .u64 j) := by
 have e : ∀ z : Int, prun Try.prog (Go.convert 3 43 (.int .i64 z)) = some (.int .u64 (IntKind.u64.wrap z)) := fun z => by kernel_rfl
 unfold pureOp
 simp only [ev_frS, hx, e, wrap_u64 (x := j) ⟨by omega, by omega⟩]
 rfl
set_option maxRecDepth 100000 in
theorem c_43i {k : Nat} {S : Rg} {d : Option Tmp} {ty : TypeId} {p : String} {x : Operand} {j : Int} (h : 0 ≤ j) (h2 : j ≤ 9223372036854775807) (hx : evS S x = some (.int .u64 j)) : pureOp Try.prog (frS k S) ⟨d, .convert 43 3 x, ty, p, #[], none⟩ = some (iv j) := by
 have e : ∀ z : Int, prun Try.prog (Go.convert 43 3 (.int .u64 z)) = some (.int .i64 (IntKind.i64.wrap z)) := fun z => by kernel_rfl
 unfold pureOp
 simp only [ev_frS, hx, e, wrap_i64 (x := j) ⟨by omega, by omega⟩]
 rfl
theorem up_rem {P : Program} {t : TypeId} {x y : Operand} {a b : Int} (ha : 0 ≤ a) (hb : 0 < b) : prun P (do eqGuard .rem t x y (.int .u64 a) (.int .u64 b); binOp .rem t (.int .u64 a) (.int .u64 b)) = some (.int .u64 (a % b)) := by
 show prun P (Op.intDiv .rem .u64 a b) = _
 unfold Op.intDiv
 rw [if_neg (by omega)]
 simp only [Int.tmod_eq_emod_of_nonneg ha]
 rfl
theorem v_rem {n : Nat} {S : Rg} {x y : Operand} {o : Option Tmp} {t t2 ty : TypeId} {p : String} {a b : Int} (ha : 0 ≤ a) (hb : 0 < b) (hx : evS S x = some (.int .u64 a)) (hy : evS S y = some (.int .u64 b)) : pureOp Try.prog (frS n S) ⟨o, .binOp .rem t x y t2, ty, p, #[], none⟩ = some (.int .u64 (a % b)) := by
 unfold pureOp
 simp only [ev_frS, hx, hy, flat, flat1, Bool.and_self, cond_true, up_rem ha hb]
end Go.Ax

/-
 Pool: the maths of one that splits (written by program).
-/
namespace Go.Ax
open Go Go.RowKit Go.Proofs

theorem bad_of {r g c : Int} (h1 : 0 ≤ r) (h2 : r ≤ 1023) (h3 : 0 ≤ g) (h4 : g ≤ 134217728) (h5 : 0 ≤ c) (h6 : c ≤ g * 255) : badD ⟨r, g, c⟩ = false := by
 simp [badD, inB, h1, h2, h3, h4, h5, h6]
theorem wN_split {us : List Pr} {a b d : Dl} (h0 : 0 < us.length) (hg : d.g = a.g + b.g) (hc : d.c = a.c + b.c) : wN us a + wN us b ≤ wN us d := by
 have hk : lsI us d us.length < us.length := lsI_lt h0
 have h1 : wN us a ≤ num (us.getD (lsI us d us.length) Pr.z) a := lsI_le hk
 have h2 : wN us b ≤ num (us.getD (lsI us d us.length) Pr.z) b := lsI_le hk
 have h3 : num (us.getD (lsI us d us.length) Pr.z) a + num (us.getD (lsI us d us.length) Pr.z) b = wN us d := by
  show _ = num _ d
  unfold num
  rw [hg, hc, Int.add_mul, Int.add_mul]
  omega
 omega
theorem wW_split {us : List Pr} {a b d : Dl} (h0 : 0 < us.length) (hg : d.g = a.g + b.g) (hc : d.c = a.c + b.c) : wW us a + wW us b ≤ wW us d := by
 have := wN_split h0 hg hc
 unfold wW
 omega
theorem rem_in (a : Int) {b : Int} (h : 0 < b) : 0 ≤ a % b ∧ a % b < b := ⟨Int.emod_nonneg _ (by omega), Int.emod_lt_of_pos _ h⟩
theorem sumL_set {f : Dl → Int} {x : Dl} : ∀ {l : List Dl} {K : Nat}, K < l.length → sumL f (l.set K x) = sumL f l - f (l.getD K Dl.z) + f x
 | [], _, h => absurd h (Nat.not_lt_zero _)
 | y :: l, 0, _ => by simp [sumL]; omega
 | y :: l, K + 1, h => by
  have ih := sumL_set (f := f) (x := x) (l := l) (K := K) (by simpa using h)
  have e : (y :: l).getD (K + 1) Dl.z = l.getD K Dl.z := by simp [List.getD_eq_getElem?_getD]
  rw [e]; simp only [List.set_cons_succ, sumL, ih]; omega
theorem shr_split {rev w all x : Int} (h0 : 0 ≤ rev) (hx : 0 ≤ x) (hw : x ≤ w) (hall : w ≤ all) : shr rev (w - x) (all - x) ≤ shr rev w all := by
 unfold shr
 by_cases h1 : all - x = 0
 ·rw [if_pos h1]
  split
  ·exact Int.le_refl _
  ·exact Int.ediv_nonneg (Int.mul_nonneg h0 (by omega)) (by omega)
 ·rw [if_neg h1, if_neg (by omega)]
  have ha : 0 < all := by omega
  have hb : 0 < all - x := by omega
  rw [Int.le_ediv_iff_mul_le ha]
  have q1 : (rev * (w - x)) / (all - x) * (all - x) ≤ rev * (w - x) := Int.ediv_mul_le _ (by omega)
  have q0 : 0 ≤ (rev * (w - x)) / (all - x) := Int.ediv_nonneg (Int.mul_nonneg h0 (by omega)) (by omega)
  generalize (rev * (w - x)) / (all - x) = q at q1 q0 ⊢
  have q2 : q ≤ rev := by
   have h5 : rev * (w - x) ≤ rev * (all - x) := Int.mul_le_mul_of_nonneg_left (by omega) h0
   exact Int.le_of_mul_le_mul_right (Int.le_trans q1 h5) hb
  have q3 : q * x ≤ rev * x := Int.mul_le_mul_of_nonneg_right q2 hx
  rw [Int.mul_sub] at q1
  rw [Int.mul_sub] at q1
  omega
theorem shr_anti {rev w all all' : Int} (h0 : 0 ≤ rev) (hw : 0 ≤ w) (h1 : w ≤ all') (h2 : all' ≤ all) : shr rev w all ≤ shr rev w all' := by
 unfold shr
 by_cases e1 : all = 0
 ·rw [if_pos e1, if_pos (by omega)]; exact Int.le_refl _
 ·rw [if_neg e1]
  by_cases e2 : all' = 0
  ·rw [if_pos e2]
   have : w = 0 := by omega
   rw [this, Int.mul_zero, Int.zero_ediv]; exact Int.le_refl _
  ·rw [if_neg e2, Int.le_ediv_iff_mul_le (by omega)]
   have q1 : (rev * w) / all * all ≤ rev * w := Int.ediv_mul_le _ e1
   have q0 : 0 ≤ (rev * w) / all := Int.ediv_nonneg (Int.mul_nonneg h0 hw) (by omega)
   exact Int.le_trans (Int.mul_le_mul_of_nonneg_left h2 q0) q1
theorem sp_any {ds : List Dl} {K : Nat} {d1 d2 : Dl} {p : Dl → Bool} (hK : K < ds.length) (h1 : p d1 = p (ds.getD K Dl.z)) (h2 : p d2 = p (ds.getD K Dl.z)) : (ds.set K d1 ++ [d2]).any p = ds.any p := by
 have hmem : ds.getD K Dl.z ∈ ds := by rw [List.getD_eq_getElem?_getD, List.getElem?_eq_getElem hK]; exact List.getElem_mem _
 rw [Bool.eq_iff_iff]; simp only [List.any_eq_true, List.mem_append, List.mem_singleton]
 constructor
 ·rintro ⟨x, hx | rfl, hp⟩
  ·rcases List.mem_or_eq_of_mem_set hx with h | rfl
   ·exact ⟨x, h, hp⟩
   ·exact ⟨_, hmem, by rw [← h1]; exact hp⟩
  ·exact ⟨_, hmem, by rw [← h2]; exact hp⟩
 ·rintro ⟨x, hx, hp⟩
  obtain ⟨j, hj, rfl⟩ := List.mem_iff_getElem.1 hx
  by_cases e : K = j
  ·subst e
   refine ⟨d2, .inr rfl, ?_⟩
   rw [h2, List.getD_eq_getElem?_getD, List.getElem?_eq_getElem hK]; exact hp
  ·exact ⟨ds[j], .inl (List.mem_iff_getElem.2 ⟨j, by rw [List.length_set]; exact hj, List.getElem_set_ne e _⟩), hp⟩
theorem sp_all {us : List Pr} {adv : Int} {ds dn : List Dl} {K : Nat} {d : Dl} {g c : Int} (hv : vT us adv = true) (hd : ds.any badD = false) (hm : ds.length ≤ 60) (hK : K < ds.length) (hdk : ds.getD K Dl.z = d) (h1 : badD ⟨d.r, g, c⟩ = false) (h2 : badD ⟨d.r, d.g - g, d.c - c⟩ = false) (hdn : ds.set K ⟨d.r, g, c⟩ ++ [⟨d.r, d.g - g, d.c - c⟩] = dn) :
  dn.length = ds.length + 1 ∧ vD dn = true ∧ grl dn = grl ds ∧ ∀ rev : Int, 0 ≤ rev → ∀ G : Int,
   (G = d.r → hwS us dn G dn.length ≤ hwS us ds G ds.length ∧ shr rev (hwS us dn G dn.length) (tW us dn dn.length) ≤ shr rev (hwS us ds G ds.length) (tW us ds ds.length)) ∧
   (G ≠ d.r → hwS us dn G dn.length = hwS us ds G ds.length ∧ shr rev (hwS us ds G ds.length) (tW us ds ds.length) ≤ shr rev (hwS us dn G dn.length) (tW us dn dn.length)) := by
 have v := vT_t hv
 have hbd : badD d = false := by rw [← hdk]; exact any_at hd hK
 have len : dn.length = ds.length + 1 := by rw [← hdn]; simp
 have bad : dn.any badD = false := by rw [← hdn, sp_any hK (by rw [h1, hdk, hbd]) (by rw [h2, hdk, hbd])]; exact hd
 have gr : grl dn = grl ds := by
  unfold grl
  congr 1
  funext G
  rw [← hdn]; exact sp_any hK (by rw [hdk]) (by rw [hdk])
 have hx : wW us ⟨d.r, g, c⟩ + wW us ⟨d.r, d.g - g, d.c - c⟩ ≤ wW us d := wW_split (by omega) (by show d.g = g + (d.g - g); omega) (by show d.c = c + (d.c - c); omega)
 have sum : ∀ f : Dl → Int, sumL f dn = sumL f ds - f d + f ⟨d.r, g, c⟩ + f ⟨d.r, d.g - g, d.c - c⟩ := fun f => by
  rw [← hdn, sumL_app, sumL_set hK, hdk]; simp [sumL]
 have et : tW us dn dn.length = tW us ds ds.length - (wW us d - wW us ⟨d.r, g, c⟩ - wW us ⟨d.r, d.g - g, d.c - c⟩) := by
  rw [tW_D _ (Nat.le_refl _), tW_D _ (Nat.le_refl _), List.take_length, List.take_length, sum]; omega
 have ew : ∀ G, hwS us dn G dn.length = hwS us ds G ds.length - (if d.r = G then wW us d - wW us ⟨d.r, g, c⟩ - wW us ⟨d.r, d.g - g, d.c - c⟩ else 0) := fun G => by
  rw [hwS_D _ (Nat.le_refl _), hwS_D _ (Nat.le_refl _), List.take_length, List.take_length, sum]
  by_cases e : d.r = G
  ·simp only [e, if_true]; omega
  ·simp only [if_neg e]; omega
 refine ⟨len, by unfold vD; rw [bad]; simp; omega, gr, fun rev h0 G => ⟨fun hG => ?_, fun hG => ?_⟩⟩
 ·have b0 := (hwS_in (us := us) (ds := dn) (g := G) v.2.2.1 (by omega) bad dn.length (Nat.le_refl _)).1
  have b1 := hw_le_tW (us := us) (ds := ds) v.2.2.1 (by omega) hd G ds.length (Nat.le_refl _)
  have e := ew G
  rw [if_pos hG.symm] at e
  refine ⟨by omega, ?_⟩
  rw [e, et]
  exact shr_split h0 (by omega) (by omega) b1
 ·have b0 := (hwS_in (us := us) (ds := ds) (g := G) v.2.2.1 (by omega) hd ds.length (Nat.le_refl _)).1
  have b1 := hw_le_tW (us := us) (ds := dn) v.2.2.1 (by omega) bad G dn.length (Nat.le_refl _)
  have e := ew G
  rw [if_neg (fun h => hG h.symm), Int.sub_zero] at e
  refine ⟨e, ?_⟩
  rw [e] at b1 ⊢
  exact shr_anti h0 b0 b1 (by omega)
theorem get_up {P : Program} {kn : Kn} {lo n : Nat} {r : List RO} {S : Rg} {H : Hp} {K : Rg → Hp → Prop} {d : Option Nat} {x y : Operand} {b o m : Nat} {cs : List Value} {v : Value} {e : TypeId} {l : Bool} (hx : evS S x = some (.pointer (some ⟨b, o, none⟩))) (hy : evS S y = some v) (g : H.t.get b = some (.cells cs e l)) (hb : b < H.next) (hl : lo ≤ b) (hm : v.cells.toList.length = m) (h1 : v.cells.toList.all one = true) (ho : o + m ≤ cs.length)
  (h : ∀ H1, Keep H H1 [b] → H1.next = H.next → H1.t.get b = some (.cells (putRow cs o v.cells.toList) e l) → wOpsM P kn lo n r (putS S d undef) H1 K) : wOpsM P kn lo n (⟨d, none, .sta x y m⟩ :: r) S H K := by
 simp only [wOpsM, wROM, wRIM, wRI, hx, hy]
 exact ⟨cs, e, l, g, hl, hm, h1, ho, fun H1 hH1 => by
  obtain ⟨a, b', _⟩ := up_facts (⟨hb, e, l, g⟩ : Cl H b cs) hH1
  exact h H1 a b' (by subst hH1; show (H.t.set b _).get b = _; rw [Tr.get_set, if_pos rfl])⟩
set_option maxRecDepth 100000 in
theorem c_54i {k : Nat} {S : Rg} {d : Option Tmp} {ty : TypeId} {p : String} {x : Operand} {j : Int} (h : 0 ≤ j) (h2 : j ≤ 4294967295) (hx : evS S x = some (.int .u32 j)) : pureOp Try.prog (frS k S) ⟨d, .convert 54 3 x, ty, p, #[], none⟩ = some (iv j) := by
 have e : ∀ z : Int, prun Try.prog (Go.convert 54 3 (.int .u32 z)) = some (.int .i64 (IntKind.i64.wrap z)) := fun z => by kernel_rfl
 unfold pureOp
 simp only [ev_frS, hx, e, wrap_i64 (x := j) ⟨by omega, by omega⟩]
 rfl
end Go.Ax

/-
 Pool: the law PoolSplitter, whatever the input (written by program).
-/
namespace Go.Ax
open Go Go.RowKit Go.Proofs

theorem se35 : sliceElem Try.prog 35 = some (26, 3) := by kernel_rfl
theorem un35 : Try.prog.underlying 35 = some (.slice 26) := by kernel_rfl
theorem zo26 : zeroOf Try.prog 26 = some (.agg #[iv 0, iv 0, iv 0]) := by kernel_rfl
theorem dlc_len : ∀ l : List Dl, (dlc l).length = l.length * 3
 | [] => rfl
 | d :: l => by
  have := dlc_len l
  simp only [dlc, List.flatMap_cons, List.length_append] at this ⊢
  rw [this]; simp only [Dl.f, List.length_cons, List.length_nil]; omega
noncomputable section
section
variable {kn : Kn} {lo : Nat} {H : Hp}
set_option maxRecDepth 100000 in
set_option maxHeartbeats 4000000 in
theorem law_splitter (s : Snd Try.prog kn) (hkn : kn.b 11 = some true) {us : List Pr} {sa : Option Addr} {n cap : Nat} {adv : Int} (hs : Sl H sa n cap (prc us)) (hl : us.length = n) {ds : List Dl} {la : Option Addr} {m capl : Nat} (hd : Sl H la m capl (dlc ds)) (hm : ds.length = m) {rev which part red more : Int} (hwh : 0 ≤ which ∧ which ≤ 255) (hpt : 0 ≤ part ∧ part ≤ 18446744073709551615) (hrd : 0 ≤ red ∧ red ≤ 18446744073709551615) (hmr : 0 ≤ more ∧ more ≤ 4294967295) (hlo : lo ≤ H.next) : FnC Try.prog lo 7 [.agg #[.slice sa n cap, iv adv], .slice la m capl, iv rev, .int .u8 which, .int .u64 part, .int .u64 red, .int .u32 more] H fun v _ => v = .bool true := by
 refine fnC_low s Try.func7 B7 N7 Z7 L7 (by simp) ?_
 have hk := Keep.refl H []
 have fs := hs.old
 have fd := hd.old
 refine wM_seq <| wM_box (v := .agg #[.slice sa n cap, iv adv]) rfl ?_
 intro H1 kH1 nH1 c1
 have c1 : Cl H1 H.next [.slice sa n cap, iv adv] := c1
 have mH1 := kH1.1
 have hk := hk.trans kH1
 have hs := kH1.sl0 hs
 have hd := kH1.sl0 hd
 refine wM_mov (v := .bool false) rfl <| wM_end <| wM_seq <| wM_lda (b := H.next) (o := 0) rfl c1.rd (show row 2 _ _ = some [.slice sa n cap, iv adv] from rfl) <| wM_callB s rfl (many_ok (sa := sa) (n := n) (cap := cap) (adv := adv) (la := none) (m := 0) (capl := 0)) ?_
 intro tH2 H2 hH2 kH2
 have mH2 := kH2.1
 have hk := hk.trans kH2
 have hs := kH2.sl0 hs
 have hd := kH2.sl0 hd
 have c1 := kH2.cl c1 (by simp)
 cases tH2
 ·have hmany : n ≤ 12 ∧ 0 ≤ 132 := by have q : manyB n 0 = false := hH2; unfold manyB at q; simp at q; omega
  have hn : n ≤ 1000000 := by omega
  refine wM_mov (v := .bool false) rfl ?_
  refine wM_g rfl (wM_mov (v := .slice la m capl) rfl ?_)
  refine wM_g rfl (wM_len (m := m) rfl ?_)
  refine wM_g rfl (wM_b_eql (a := (m : Int)) (b := 0) rfl rfl ?_)
  intro t1 g1; cases t1
  ·have g1 : ¬ ((m : Int) = 0) := by simpa using g1
   refine wM_pur (v := .bool false) rfl rfl <| wM_mov (v := .bool false) rfl ?_
   refine wM_g rfl (wM_mov (v := .slice la m capl) rfl ?_)
   refine wM_g rfl (wM_len (m := m) rfl ?_)
   refine wM_g rfl (wM_b_gtr (a := (m : Int)) (b := 60) rfl rfl ?_)
   intro t2 g2; cases t2
   ·have g2 : ¬ ((m : Int) > 60) := of_decide_eq_false g2
    refine wM_pur (v := .bool false) rfl rfl <| wM_end <| condF ?_
    first | refine wM_skip ?_ | skip
    refine wM_seq <| wM_lda (b := H.next) (o := 0) rfl c1.rd (show row 2 _ _ = some [.slice sa n cap, iv adv] from rfl) <| wM_mov (v := .slice la m capl) rfl <| wM_mov (v := iv rev) rfl ?_
    rcases settle_cases us adv ds rev with ⟨eL, eK, eE, eA⟩ | ⟨eL, eK, eE, eA⟩ | ⟨hv, hvd, hr0, hr1, eE, eA, eV⟩
    ·refine wM_call (t := .fn (.func 18) #[]) rfl (callM_args s.hN (Settle_ok (H := H2) s (adv := adv) hs hl hn hd hm (by omega) (by omega) (rev := rev))) ?_
     rintro _ H3 ⟨pvp, rfl, hap, kH3⟩
     have mH3 := kH3.1
     have hk := hk.trans kH3
     have hs := kH3.sl0 hs
     have hd := kH3.sl0 hd
     have c1 := kH3.cl c1 (by simp)
     obtain ⟨pap, capp, rfl, hpp, _⟩ := hap.sl
     have fpp := hpp.old
     rw [eK, eE]
     have hL0 : (stL us adv ds rev).length = 0 := by rw [eL]; rfl
     refine wM_mov (v := .tuple #[.slice pap ((stL us adv ds rev).length) capp, iv 0, iv 1]) rfl <| wM_pur (v := .slice pap ((stL us adv ds rev).length) capp) rfl (by kernel_rfl) <| wM_pur (v := iv 0) rfl (by kernel_rfl) <| wM_pur (v := iv 1) rfl (by kernel_rfl) <| wM_mov (v := .slice pap ((stL us adv ds rev).length) capp) rfl <| wM_mov (v := iv 0) rfl <| wM_mov (v := iv 1) rfl <| wM_end <| wM_seq <| wM_mov (v := iv 1) rfl <| wM_c_neq (a := 1) (b := 0) rfl rfl <| wM_end ?_
     refine condT <| wM_seq <| wM_mov (v := .slice pap ((stL us adv ds rev).length) capp) rfl <| wM_len (m := (stL us adv ds rev).length) rfl <| wM_b_eql (a := ((stL us adv ds rev).length : Int)) (b := 0) rfl rfl ?_
     intro t3 g3; cases t3
     ·have g3 : ¬ (((stL us adv ds rev).length : Int) = 0) := by simpa using g3
      omega
     ·have g3 : ((stL us adv ds rev).length : Int) = 0 := by simpa using g3
      refine wM_mov (v := .bool true) rfl ?_
      refine wM_g rfl (wM_callf s (vs := []) rfl (callX_known hkn) ?_)
      refine wM_pur (v := .bool true) rfl rfl <| wM_mov (v := .bool true) rfl <| wM_end ?_
      exact And.intro trivial (Exists.intro _ (And.intro rfl rfl))
    ·refine wM_call (t := .fn (.func 18) #[]) rfl (callM_args s.hN (Settle_ok (H := H2) s (adv := adv) hs hl hn hd hm (by omega) (by omega) (rev := rev))) ?_
     rintro _ H3 ⟨pvp, rfl, hap, kH3⟩
     have mH3 := kH3.1
     have hk := hk.trans kH3
     have hs := kH3.sl0 hs
     have hd := kH3.sl0 hd
     have c1 := kH3.cl c1 (by simp)
     obtain ⟨pap, capp, rfl, hpp, _⟩ := hap.sl
     have fpp := hpp.old
     rw [eK, eE]
     have hL0 : (stL us adv ds rev).length = 0 := by rw [eL]; rfl
     refine wM_mov (v := .tuple #[.slice pap ((stL us adv ds rev).length) capp, iv 0, iv 2]) rfl <| wM_pur (v := .slice pap ((stL us adv ds rev).length) capp) rfl (by kernel_rfl) <| wM_pur (v := iv 0) rfl (by kernel_rfl) <| wM_pur (v := iv 2) rfl (by kernel_rfl) <| wM_mov (v := .slice pap ((stL us adv ds rev).length) capp) rfl <| wM_mov (v := iv 0) rfl <| wM_mov (v := iv 2) rfl <| wM_end <| wM_seq <| wM_mov (v := iv 2) rfl <| wM_c_neq (a := 2) (b := 0) rfl rfl <| wM_end ?_
     refine condT <| wM_seq <| wM_mov (v := .slice pap ((stL us adv ds rev).length) capp) rfl <| wM_len (m := (stL us adv ds rev).length) rfl <| wM_b_eql (a := ((stL us adv ds rev).length : Int)) (b := 0) rfl rfl ?_
     intro t4 g4; cases t4
     ·have g4 : ¬ (((stL us adv ds rev).length : Int) = 0) := by simpa using g4
      omega
     ·have g4 : ((stL us adv ds rev).length : Int) = 0 := by simpa using g4
      refine wM_mov (v := .bool true) rfl ?_
      refine wM_g rfl (wM_callf s (vs := []) rfl (callX_known hkn) ?_)
      refine wM_pur (v := .bool true) rfl rfl <| wM_mov (v := .bool true) rfl <| wM_end ?_
      exact And.intro trivial (Exists.intro _ (And.intro rfl rfl))
    ·refine wM_call (t := .fn (.func 18) #[]) rfl (callM_args s.hN (Settle_ok (H := H2) s (adv := adv) hs hl hn hd hm (by omega) (by omega) (rev := rev))) ?_
     rintro _ H3 ⟨pvp, rfl, hap, kH3⟩
     have mH3 := kH3.1
     have hk := hk.trans kH3
     have hs := kH3.sl0 hs
     have hd := kH3.sl0 hd
     have c1 := kH3.cl c1 (by simp)
     obtain ⟨pap, capp, rfl, hpp, _⟩ := hap.sl
     have fpp := hpp.old
     obtain ⟨hLg, _, _⟩ := stL_ok hv hvd hr0 hr1
     obtain ⟨L, hL⟩ : ∃ L, stL us adv ds rev = L := ⟨_, rfl⟩
     rw [hL] at hpp hLg ⊢
     rw [eE]
     have hLl : L.length ≤ 1024 := by rw [← hL]; exact stL_len
     have hvt := vT_t hv
     have hdv := (vD_t hvd).2
     have hm2 := (vD_t hvd).1
     refine wM_mov (v := .tuple #[.slice pap L.length capp, iv (stK us adv ds rev), iv 0]) rfl <| wM_pur (v := .slice pap L.length capp) rfl (by kernel_rfl) <| wM_pur (v := iv (stK us adv ds rev)) rfl (by kernel_rfl) <| wM_pur (v := iv 0) rfl (by kernel_rfl) <| wM_mov (v := .slice pap L.length capp) rfl <| wM_mov (v := iv (stK us adv ds rev)) rfl <| wM_mov (v := iv 0) rfl <| wM_end <| wM_seq <| wM_mov (v := iv 0) rfl <| wM_c_neq (a := 0) (b := 0) rfl rfl <| wM_end ?_
     refine condF ?_
     first | refine wM_skip ?_ | skip
     refine wM_seq <| wM_mov (v := .slice la m capl) rfl ?_
     obtain ⟨H4, fH4, kH4⟩ := refvD_ok (kn := kn) (lo := lo) (H := H3) hd hm (by omega) (by omega)
     rw [hvd] at fH4
     refine wM_callf s (vs := [.slice la m capl]) rfl (callX_args fH4) ?_
     have mH4 := kH4.1
     have hk := hk.trans kH4
     have hs := kH4.sl0 hs
     have hd := kH4.sl0 hd
     have c1 := kH4.cl c1 (by simp)
     have hpp := kH4.sl0 hpp
     refine wM_pur (v := .bool false) rfl rfl <| wM_mov (v := .bool false) rfl ?_
     refine wM_g rfl (wM_mov (v := iv rev) rfl ?_)
     refine wM_g rfl (wM_b_lss (a := rev) (b := 0) rfl rfl ?_)
     intro t5 g5; cases t5
     ·have g5 : ¬ (rev < 0) := of_decide_eq_false g5
      refine wM_pur (v := .bool false) rfl rfl <| wM_mov (v := .bool false) rfl ?_
      refine wM_g rfl (wM_mov (v := iv rev) rfl ?_)
      refine wM_g rfl (wM_b_gtr (a := rev) (b := 1073741824) rfl rfl ?_)
      intro t6 g6; cases t6
      ·have g6 : ¬ (rev > 1073741824) := of_decide_eq_false g6
       refine wM_pur (v := .bool false) rfl rfl <| wM_end <| condF ?_
       first | refine wM_skip ?_ | skip
       refine wM_seq <| wM_mov (v := .int .u8 which) rfl <| wM_pur (v := iv (which.toNat : Int)) rfl (c_8i (n := which.toNat) (by omega) rfl (by omega)) <| wM_mov (v := .slice la m capl) rfl <| wM_len (m := m) rfl ?_
       obtain ⟨K, hK⟩ : ∃ K, which.toNat % m = K := ⟨_, rfl⟩
       have hKm : K < m := by rw [← hK]; exact Nat.mod_lt _ (by omega)
       have hKe : (which.toNat : Int) % (m : Int) = (K : Int) := by rw [← hK]; simp
       refine wM_rem (a := (which.toNat : Int)) (b := (m : Int)) rfl rfl (by omega) (by omega) ⟨by omega, by omega⟩ ⟨by omega, by omega⟩ ?_
       rw [hKe]
       refine wM_mov (v := iv (K : Int)) rfl <| wM_end <| wM_seq <| wM_mov (v := .slice la m capl) rfl <| wM_mov (v := iv (K : Int)) rfl ?_
       rcases id hd with ⟨_, h0t, _⟩ | ⟨tb, et, rt, _⟩
       ·omega
       have lt := rt.1
       have ltb2 := fd tb et
       obtain ⟨d, hdk⟩ : ∃ d, ds.getD K Dl.z = d := ⟨_, rfl⟩
       have hbd0 : badD d = false := by rw [← hdk]; exact any_at hdv (by omega)
       have hbd := badD_t hbd0
       refine wM_idx (b := tb) (o := 0) (k := K) (j := (K : Int)) (by rw [← et]; rfl) rfl rfl hKm <| wM_lda (b := tb) (o := 0 + K * 3) rfl rt ((dlc_rowF (ds := ds) (i := K) (by omega)).trans (by rw [hdk])) <| wM_alc ?_
       intro H5 kH5 nH5 c5
       have c5 : Cl H5 H4.next [iv 0, iv 0, iv 0] := c5
       have mH5 := kH5.1
       have hk := hk.trans kH5
       have hs := kH5.sl0 hs
       have hd := kH5.sl0 hd
       have c1 := kH5.cl c1 (by simp)
       have hpp := kH5.sl0 hpp
       refine wM_sta (b := H4.next) (o := 0) rfl rfl c5 (by omega) rfl rfl (by simp) ?_
       intro H6 kH6 nH6 sH6
       have mH6 := kH6.1
       have hk := hk.new kH6 (fun b hb => by simp at hb ⊢; omega)
       have hs := kH6.sl hs (fun b e => by have := fs b e; first | (simp; done) | (simp; omega))
       have hd := kH6.sl hd (fun b e => by have := fd b e; first | (simp; done) | (simp; omega))
       have c1 := kH6.cl c1 (by first | (simp; done) | (simp; omega))
       have hpp := kH6.sl hpp (fun b e => by have := fpp b e; first | (simp; done) | (simp; omega))
       have c5 : Cl H6 H4.next [iv d.r, iv d.g, iv d.c] := sH6
       refine wM_end <| wM_seq <| wM_mov (v := .int .u64 part) rfl <| wM_addo (b := H4.next) (o := 0) rfl <| wM_ld (b := H4.next) (o := 1) (v := iv d.g) rfl c5.rd rfl <| wM_add (a := d.g) (b := 1) rfl rfl ⟨by omega, by omega⟩ ?_
       obtain ⟨g, hg⟩ : ∃ g, part % (d.g + 1) = g := ⟨_, rfl⟩
       have bg := rem_in (part) (b := d.g + 1) (by omega)
       rw [hg] at bg
       refine wM_pur (v := .int .u64 (d.g + 1)) rfl (c_i43 (by omega) (by omega) rfl) <| wM_pur (v := .int .u64 g) rfl ((v_rem (a := part) (b := d.g + 1) (by omega) (by omega) rfl rfl).trans (by rw [hg])) <| wM_pur (v := iv g) rfl (c_43i (by omega) (by omega) rfl) <| wM_mov (v := iv g) rfl <| wM_end <| wM_dseq <| wD_addo (b := H4.next) (o := 0) rfl <| wD_ld (b := H4.next) (o := 2) (v := iv d.c) rfl c5.rd rfl <| wD_addo (b := H4.next) (o := 0) rfl <| wD_ld (b := H4.next) (o := 1) (v := iv d.g) rfl c5.rd rfl <| wD_mov (v := iv g) rfl <| wD_sub (a := d.g) (b := g) rfl rfl ⟨by omega, by omega⟩ ?_
       refine wD_mul (a := d.g - g) (b := 255) rfl rfl ⟨by omega, by omega⟩ <| wD_sub (a := d.c) (b := (d.g - g) * 255) rfl rfl ⟨by omega, by omega⟩ <| wD_mm (a := 0) (b := d.c - ((d.g - g) * 255)) rfl rfl <| wD_addo (b := H4.next) (o := 0) rfl <| wD_ld (b := H4.next) (o := 2) (v := iv d.c) rfl c5.rd rfl <| wD_mov (v := iv g) rfl <| wD_mul (a := g) (b := 255) rfl rfl ⟨by omega, by omega⟩ <| wD_mm (a := d.c) (b := g * 255) rfl rfl <| wD_mov (v := iv (max 0 (d.c - ((d.g - g) * 255)))) rfl <| wD_mov (v := iv (min d.c (g * 255))) rfl ?_
       refine wD_end (by repeat' first | exact True.intro | exact (fun h => h) | refine And.intro ?_ ?_ | (intro h; have h : (_ : Nat) = _ := h; omega)) ?_
       refine wM_seq <| wM_mov (v := iv (max 0 (d.c - ((d.g - g) * 255)))) rfl <| wM_mov (v := .int .u64 red) rfl <| wM_mov (v := iv (min d.c (g * 255))) rfl <| wM_mov (v := iv (max 0 (d.c - ((d.g - g) * 255)))) rfl <| wM_sub (a := min d.c (g * 255)) (b := max 0 (d.c - ((d.g - g) * 255))) rfl rfl ⟨by omega, by omega⟩ <| wM_add (a := (min d.c (g * 255)) - (max 0 (d.c - ((d.g - g) * 255)))) (b := 1) rfl rfl ⟨by omega, by omega⟩ ?_
       obtain ⟨r, hr⟩ : ∃ r, red % (min d.c (g * 255) - max 0 (d.c - (d.g - g) * 255) + 1) = r := ⟨_, rfl⟩
       have br := rem_in (red) (b := min d.c (g * 255) - max 0 (d.c - (d.g - g) * 255) + 1) (by omega)
       rw [hr] at br
       refine wM_pur (v := .int .u64 (min d.c (g * 255) - max 0 (d.c - (d.g - g) * 255) + 1)) rfl (c_i43 (by omega) (by omega) rfl) <| wM_pur (v := .int .u64 r) rfl ((v_rem (a := red) (b := min d.c (g * 255) - max 0 (d.c - (d.g - g) * 255) + 1) (by omega) (by omega) rfl rfl).trans (by rw [hr])) <| wM_pur (v := iv r) rfl (c_43i (by omega) (by omega) rfl) ?_
       obtain ⟨c, hcE⟩ : ∃ c, max 0 (d.c - (d.g - g) * 255) + r = c := ⟨_, rfl⟩
       refine wM_add (a := max 0 (d.c - (d.g - g) * 255)) (b := r) rfl rfl ⟨by omega, by omega⟩ ?_
       rw [hcE]
       have bd1 : badD ⟨d.r, g, c⟩ = false := bad_of (by omega) (by omega) (by omega) (by omega) (by omega) (by omega)
       have bd2 : badD ⟨d.r, d.g - g, d.c - c⟩ = false := bad_of (by omega) (by omega) (by omega) (by omega) (by omega) (by omega)
       obtain ⟨dn, hdn⟩ : ∃ dn, ds.set K ⟨d.r, g, c⟩ ++ [⟨d.r, d.g - g, d.c - c⟩] = dn := ⟨_, rfl⟩
       obtain ⟨hn1, hnv, hng, hN⟩ := sp_all (us := us) (adv := adv) hv hdv (by omega) (by omega) hdk bd1 bd2 hdn
       refine wM_mov (v := iv c) rfl <| wM_end <| wM_seq ?_
       obtain ⟨H7, hH7⟩ : ∃ H7, H6.new (.cells [] 26 false) = H7 := ⟨_, rfl⟩
       refine wM_memh (H' := H7) (k := .heavy) rfl (by kernel_rfl) ((heap_build0 se35 zo26).trans (by rw [hH7])) (fun b e => by cases e) ?_
       obtain ⟨kH7, nH7, cH7⟩ := new_facts hH7
       have gH7 := new_get hH7
       have mH7 := kH7.1
       have hk := hk.trans kH7
       have hs := kH7.sl0 hs
       have hd := kH7.sl0 hd
       have c1 := kH7.cl c1 (by simp)
       have hpp := kH7.sl0 hpp
       have c5 := kH7.cl c5 (by simp)
       refine wM_mov (v := .slice la m capl) rfl ?_
       obtain ⟨vH8, H8, kdH8, eH8, dH8, acH8, kH8⟩ := heap_append_first (P := Try.prog) (lo := lo) (H := H7) (f := H6.next) (t0 := 35) (t1 := 35) (e := 26) (b0 := H6.next) se35 un35 hd (by rw [dlc_len, hm]) (by omega) (by decide) gH7 (by omega) (by omega) (by omega) (by omega)
       rcases acH8 with ⟨q0, _⟩ | ⟨ob, rfl, _, hrf, hrl, hrn, hrg⟩
       ·omega
       refine wM_memh (k := kdH8) rfl (by kernel_rfl) (eH8 _ _ _ _ _ _ _ rfl rfl) (fun b q => by rcases dH8 with z | z <;> rw [z] at q <;> cases q) ?_
       have mH8 := kH8.1
       have hk := hk.trans kH8
       have hs := kH8.sl0 hs
       have hd := kH8.sl0 hd
       have c1 := kH8.cl c1 (by simp)
       have hpp := kH8.sl0 hpp
       have c5 := kH8.cl c5 (by simp)
       refine wM_mov (v := .slice (some ⟨ob, 0, none⟩) m m) rfl <| wM_end <| wM_seq <| wM_mov (v := .slice (some ⟨ob, 0, none⟩) m m) rfl <| wM_mov (v := iv (K : Int)) rfl <| wM_addo (b := H4.next) (o := 0) rfl <| wM_ld (b := H4.next) (o := 0) (v := iv d.r) rfl c5.rd rfl <| wM_mov (v := iv g) rfl <| wM_mov (v := iv c) rfl <| wM_pur (v := .agg #[iv d.r, iv g, iv c]) rfl (by kernel_rfl) <| wM_idx (b := ob) (o := 0) (k := K) (j := (K : Int)) rfl rfl rfl hKm ?_
       refine get_up (b := ob) (o := 0 + K * 3) (v := .agg #[iv d.r, iv g, iv c]) rfl rfl hrg (by omega) hrl rfl rfl (by rw [dlc_len]; omega) ?_
       intro H9 kH9 nH9 sH9
       have mH9 := kH9.1
       have hk := hk.new kH9 (fun b hb => by simp at hb ⊢; omega)
       have hs := kH9.sl hs (fun b e => by have := fs b e; first | (simp; done) | (simp; omega))
       have hd := kH9.sl hd (fun b e => by have := fd b e; first | (simp; done) | (simp; omega))
       have c1 := kH9.cl c1 (by first | (simp; done) | (simp; omega))
       have hpp := kH9.sl hpp (fun b e => by have := fpp b e; first | (simp; done) | (simp; omega))
       have c5 := kH9.cl c5 (by first | (simp; done) | (simp; omega))
       have q := flat_put (f := Dl.f) (size := 3) (l := ds) (fun _ => rfl) (i := K) (by omega) (⟨d.r, g, c⟩ : Dl)
       have hacc : Acc lo H6.next 26 H9 (.slice (some ⟨ob, 0, none⟩) m m) m (dlc (ds.set K ⟨d.r, g, c⟩)) := .inr ⟨ob, rfl, by omega, hrf, hrl, by omega, by unfold dlc; rw [← q]; exact sH9⟩
       have kacc := Keep.refl H9 []
       have hbk := bkv_in hacc
       refine wM_end <| wM_seq <| wM_mov (v := .slice (some ⟨ob, 0, none⟩) m m) rfl <| wM_addo (b := H4.next) (o := 0) rfl <| wM_ld (b := H4.next) (o := 0) (v := iv d.r) rfl c5.rd rfl <| wM_addo (b := H4.next) (o := 0) rfl <| wM_ld (b := H4.next) (o := 1) (v := iv d.g) rfl c5.rd rfl <| wM_mov (v := iv g) rfl <| wM_sub (a := d.g) (b := g) rfl rfl ⟨by omega, by omega⟩ <| wM_addo (b := H4.next) (o := 0) rfl <| wM_ld (b := H4.next) (o := 2) (v := iv d.c) rfl c5.rd rfl <| wM_mov (v := iv c) rfl ?_
       refine wM_sub (a := d.c) (b := c) rfl rfl ⟨by omega, by omega⟩ <| wM_pur (v := .agg #[iv d.r, iv (d.g - g), iv (d.c - c)]) rfl (by kernel_rfl) ?_
       obtain ⟨H10, hH10⟩ : ∃ H10, H9.new (.cells [iv d.r, iv (d.g - g), iv (d.c - c)] 26 false) = H10 := ⟨_, rfl⟩
       refine wM_memh (H' := H10) (k := .heavy) rfl (by kernel_rfl) ((heap_build1 (v := .agg #[iv d.r, iv (d.g - g), iv (d.c - c)]) se35 zo26 rfl rfl rfl (by decide)).trans (by rw [← hH10]; rfl)) (fun b e => by cases e) ?_
       obtain ⟨kH10, nH10, c10⟩ := new_facts hH10; clear hH10
       have c10 : Cl H10 H9.next [iv d.r, iv (d.g - g), iv (d.c - c)] := c10
       have mH10 := kH10.1
       have hk := hk.trans kH10
       have hs := kH10.sl0 hs
       have hd := kH10.sl0 hd
       have c1 := kH10.cl c1 (by simp)
       have hpp := kH10.sl0 hpp
       have c5 := kH10.cl c5 (by simp)
       have kacc := kacc.trans kH10
       obtain ⟨H11, kdH11, eH11, dH11, aH11, kbH11⟩ := heap_append_out (P := Try.prog) (lo := lo) (k := m) (t1 := 35) se35 un35 (c10.sl (Nat.le_refl 1)) rfl (by decide) rfl (by rw [dlc_len, List.length_set, hm]) (by omega) (hacc.keep kacc) (by omega) (by omega)
       refine wM_memh (k := kdH11) rfl (by cases (True.intro : True) <;> kernel_rfl) (eH11 _ _ _ _ _ _ _ rfl rfl) (reg_ok dH11 _) ?_
       have hk := hk.new kbH11 (fun b hb => .inr (by have := hbk _ hb; omega))
       have hs := kbH11.sl hs (fun b e hx => by have := fs b e; have := hbk _ hx; omega)
       have hd := kbH11.sl hd (fun b e hx => by have := fd b e; have := hbk _ hx; omega)
       have c1 := kbH11.cl c1 (fun hx => by have := hbk _ hx; omega)
       have hpp := kbH11.sl hpp (fun b e hx => by have := fpp b e; have := hbk _ hx; omega)
       have c5 := kbH11.cl c5 (fun hx => by have := hbk _ hx; omega)
       have mH11 := kbH11.1
       have hacc2 : Acc lo H6.next 26 H11 (.slice (some ⟨H10.next, 0, none⟩) (m + 1) (m + 1)) (m + 1) (dlc dn) := by rw [← hdn]; unfold dlc; rw [List.flatMap_append]; exact aH11
       have hox : Sl H11 (some ⟨H10.next, 0, none⟩) (m + 1) (m + 1) (dlc dn) := by obtain ⟨a', c', e', q, _⟩ := hacc2.sl; cases e'; exact q
       have fox := hox.old
       rw [hm] at hn1
       refine wM_mov (v := .slice (some ⟨H10.next, 0, none⟩) (m + 1) (m + 1)) rfl <| wM_end <| wM_seq <| wM_lda (b := H.next) (o := 0) rfl c1.rd (show row 2 _ _ = some [.slice sa n cap, iv adv] from rfl) <| wM_mov (v := .slice (some ⟨H10.next, 0, none⟩) (m + 1) (m + 1)) rfl <| wM_mov (v := iv rev) rfl <| wM_call (t := .fn (.func 18) #[]) rfl (callM_args s.hN (Settle_ok (H := H11) s (adv := adv) hs hl hn hox hn1 (by omega) (by omega) (rev := rev))) ?_
       rintro _ H12 ⟨pvq, rfl, haq, kH12⟩
       have mH12 := kH12.1
       have hk := hk.trans kH12
       have hs := kH12.sl0 hs
       have hd := kH12.sl0 hd
       have c1 := kH12.cl c1 (by simp)
       have hpp := kH12.sl0 hpp
       have c5 := kH12.cl c5 (by simp)
       have hox := kH12.sl0 hox
       obtain ⟨paq, capq, rfl, hpq, _⟩ := haq.sl
       have fpq := hpq.old
       obtain ⟨hLq, hEq, _⟩ := stL_ok (us := us) (adv := adv) (ds := dn) (rev := rev) hv hnv hr0 hr1
       rw [hng, ← hLg] at hLq
       rw [hLq] at hpq ⊢
       rw [hEq]
       refine wM_mov (v := .tuple #[.slice paq L.length capq, iv (stK us adv dn rev), iv 0]) rfl <| wM_pur (v := .slice paq L.length capq) rfl (by kernel_rfl) <| wM_pur (v := iv (stK us adv dn rev)) rfl (by kernel_rfl) <| wM_pur (v := iv 0) rfl (by kernel_rfl) <| wM_mov (v := .slice paq L.length capq) rfl <| wM_mov (v := iv (stK us adv dn rev)) rfl <| wM_mov (v := iv 0) rfl <| wM_end <| wM_seq <| wM_lda (b := H.next) (o := 0) rfl c1.rd (show row 2 _ _ = some [.slice sa n cap, iv adv] from rfl) <| wM_mov (v := .slice la m capl) rfl <| wM_mov (v := iv rev) rfl ?_
       refine wM_mov (v := .int .u32 more) rfl <| wM_pur (v := iv more) rfl (c_54i (by omega) (by omega) rfl) <| wM_add (a := rev) (b := more) rfl rfl ⟨by omega, by omega⟩ ?_
       obtain ⟨R2, hR2⟩ : ∃ R2, min 1073741824 (rev + more) = R2 := ⟨_, rfl⟩
       refine wM_mm (a := 1073741824) (b := rev + more) rfl rfl ?_
       rw [hR2]
       refine wM_call (t := .fn (.func 18) #[]) rfl (callM_args s.hN (Settle_ok (H := H12) s (adv := adv) hs hl hn hd hm (by omega) (by omega) (rev := R2))) ?_
       rintro _ H13 ⟨pvr, rfl, har, kH13⟩
       have mH13 := kH13.1
       have hk := hk.trans kH13
       have hs := kH13.sl0 hs
       have hd := kH13.sl0 hd
       have c1 := kH13.cl c1 (by simp)
       have hpp := kH13.sl0 hpp
       have c5 := kH13.cl c5 (by simp)
       have hox := kH13.sl0 hox
       have hpq := kH13.sl0 hpq
       obtain ⟨par, capr, rfl, hpr, _⟩ := har.sl
       have fpr := hpr.old
       obtain ⟨hLr, hEr, _⟩ := stL_ok (us := us) (adv := adv) (ds := ds) (rev := R2) hv hvd (by omega) (by omega)
       rw [← hLg] at hLr
       rw [hLr] at hpr ⊢
       rw [hEr]
       refine wM_mov (v := .tuple #[.slice par L.length capr, iv (stK us adv ds R2), iv 0]) rfl <| wM_pur (v := .slice par L.length capr) rfl (by kernel_rfl) <| wM_pur (v := iv (stK us adv ds R2)) rfl (by kernel_rfl) <| wM_pur (v := iv 0) rfl (by kernel_rfl) <| wM_mov (v := .slice par L.length capr) rfl <| wM_mov (v := iv (stK us adv ds R2)) rfl <| wM_mov (v := iv 0) rfl <| wM_end <| wM_seq <| wM_mov (v := iv 0) rfl <| wM_b_neq (a := 0) (b := 0) rfl rfl ?_
       intro t7 g7; obtain rfl : t7 = false := by rw [← g7]; rfl
       refine wM_mov (v := .bool false) rfl ?_
       refine wM_g rfl (wM_mov (v := iv 0) rfl ?_)
       refine wM_g rfl (wM_b_neq (a := 0) (b := 0) rfl rfl ?_)
       intro t8 g8; obtain rfl : t8 = false := by rw [← g8]; rfl
       refine wM_pur (v := .bool false) rfl rfl <| wM_mov (v := .bool false) rfl ?_
       refine wM_g rfl (wM_mov (v := .slice paq L.length capq) rfl ?_)
       refine wM_g rfl (wM_len (m := L.length) rfl ?_)
       refine wM_g rfl (wM_mov (v := .slice pap L.length capp) rfl ?_)
       refine wM_g rfl (wM_len (m := L.length) rfl ?_)
       refine wM_g rfl (wM_b_neq (a := (L.length : Int)) (b := (L.length : Int)) rfl rfl ?_)
       intro t9 g9; cases t9
       ·have g9 : ¬ ((L.length : Int) ≠ (L.length : Int)) := by simpa using g9
        refine wM_pur (v := .bool false) rfl rfl <| wM_mov (v := .bool false) rfl ?_
        refine wM_g rfl (wM_mov (v := .slice par L.length capr) rfl ?_)
        refine wM_g rfl (wM_len (m := L.length) rfl ?_)
        refine wM_g rfl (wM_mov (v := .slice pap L.length capp) rfl ?_)
        refine wM_g rfl (wM_len (m := L.length) rfl ?_)
        refine wM_g rfl (wM_b_neq (a := (L.length : Int)) (b := (L.length : Int)) rfl rfl ?_)
        intro t10 g10; cases t10
        ·have g10 : ¬ ((L.length : Int) ≠ (L.length : Int)) := by simpa using g10
         refine wM_pur (v := .bool false) rfl rfl <| wM_end <| condF ?_
         first | refine wM_skip ?_ | skip
         refine wM_seq <| wM_mov (v := iv 0) rfl <| wM_end ?_
         refine loopM_low s (fn := Try.f7) E7_1 N7 L7x1 (fun i : Nat => [(15, .slice pap L.length capp), (19, pt H4.next), (25, .slice paq L.length capq), (28, .slice par L.length capr), (31, iv (i : Int))])
          (fun k i H' => i + k = L.length ∧ Keep H H' [] ∧ H13.next ≤ H'.next ∧ Sl H' pap L.length capp (plc us adv ds rev L) ∧ Sl H' paq L.length capq (plc us adv dn rev L) ∧ Sl H' par L.length capr (plc us adv ds R2 L) ∧ Cl H' (H4.next) [iv d.r, iv d.g, iv d.c]) L.length 0 ⟨by omega, hk, Nat.le_refl _, hpp, hpq, hpr, c5⟩ ⟨rfl, rfl, rfl, rfl, rfl, trivial⟩ ?_
         rintro k i L1 ⟨hik, hk, hnx, hpp, hpq, hpr, cD⟩
         have mk := hk.1
         refine wM_seq <| wM_mov (v := iv (i : Int)) rfl <| wM_mov (v := .slice pap L.length capp) rfl <| wM_len (m := L.length) rfl <| wM_c_lss (a := (i : Int)) (b := (L.length : Int)) rfl rfl <| wM_end ?_
         refine And.intro (fun q11 => ?_) (fun q11 => ?_)
         ·have q11 : (i : Int) < (L.length : Int) := of_decide_eq_true q11
          have hi : i < L.length := by omega
          rcases id hpp with ⟨_, h0s, _⟩ | ⟨sb, es, rs, _⟩
          ·omega
          have ls := rs.1
          rcases id hpq with ⟨_, h0u, _⟩ | ⟨ub, eu, ru, _⟩
          ·omega
          have lu := ru.1
          rcases id hpr with ⟨_, h0v, _⟩ | ⟨vb, ev, rv, _⟩
          ·omega
          have lv := rv.1
          obtain ⟨x1, x2⟩ := hN rev hr0 (L.getD i 0)
          have x3 : shr rev (hwS us ds (L.getD i 0) ds.length) (tW us ds ds.length) ≤ shr R2 (hwS us ds (L.getD i 0) ds.length) (tW us ds ds.length) := shr_mono (by omega) (hwS_in hvt.2.2.1 (by omega) hdv ds.length (Nat.le_refl _)).1 (tW_in hvt.2.2.1 (by omega) hdv ds.length (Nat.le_refl _)).1
          first | refine wM_skip ?_ | skip
          refine wM_dseq <| wD_mov (v := .slice paq L.length capq) rfl <| wD_mov (v := iv (i : Int)) rfl <| wD_idx (b := ub) (o := 0) (k := i) (j := (i : Int)) (by rw [← eu]; rfl) rfl rfl hi <| wD_addo (b := ub) (o := 0 + i * 5) rfl <| wD_ld (b := ub) (o := 0 + i * 5) (v := iv (L.getD i 0)) rfl ru (row_get (j := 0) (plc_row (l := L) (i := i) (by omega)) rfl) <| wD_mov (v := .slice pap L.length capp) rfl <| wD_mov (v := iv (i : Int)) rfl <| wD_idx (b := sb) (o := 0) (k := i) (j := (i : Int)) (by rw [← es]; rfl) rfl rfl hi <| wD_addo (b := sb) (o := 0 + i * 5) rfl <| wD_ld (b := sb) (o := 0 + i * 5) (v := iv (L.getD i 0)) rfl rs (row_get (j := 0) (plc_row (l := L) (i := i) (by omega)) rfl) <| wD_b_neq (a := (L.getD i 0)) (b := (L.getD i 0)) rfl rfl ?_
          intro t12 g12; cases t12
          ·have g12 : ¬ ((L.getD i 0) ≠ (L.getD i 0)) := by simpa using g12
           refine wD_mov (v := .bool false) rfl ?_
           refine wD_g rfl (wD_mov (v := .slice par L.length capr) rfl ?_)
           refine wD_g rfl (wD_mov (v := iv (i : Int)) rfl ?_)
           refine wD_g rfl (wD_idx (b := vb) (o := 0) (k := i) (j := (i : Int)) (by rw [← ev]; rfl) rfl rfl hi ?_)
           refine wD_g rfl (wD_addo (b := vb) (o := 0 + i * 5) rfl ?_)
           refine wD_g rfl (wD_ld (b := vb) (o := 0 + i * 5) (v := iv (L.getD i 0)) rfl rv (row_get (j := 0) (plc_row (l := L) (i := i) (by omega)) rfl) ?_)
           refine wD_g rfl (wD_mov (v := .slice pap L.length capp) rfl ?_)
           refine wD_g rfl (wD_mov (v := iv (i : Int)) rfl ?_)
           refine wD_g rfl (wD_idx (b := sb) (o := 0) (k := i) (j := (i : Int)) (by rw [← es]; rfl) rfl rfl hi ?_)
           refine wD_g rfl (wD_addo (b := sb) (o := 0 + i * 5) rfl ?_)
           refine wD_g rfl (wD_ld (b := sb) (o := 0 + i * 5) (v := iv (L.getD i 0)) rfl rs (row_get (j := 0) (plc_row (l := L) (i := i) (by omega)) rfl) ?_)
           refine wD_g rfl (wD_b_neq (a := (L.getD i 0)) (b := (L.getD i 0)) rfl rfl ?_)
           intro t13 g13; cases t13
           ·have g13 : ¬ ((L.getD i 0) ≠ (L.getD i 0)) := by simpa using g13
            refine wD_pur (v := .bool false) rfl rfl <| wD_mov (v := .bool false) rfl ?_
            refine wD_g rfl (wD_mov (v := .slice par L.length capr) rfl ?_)
            refine wD_g rfl (wD_mov (v := iv (i : Int)) rfl ?_)
            refine wD_g rfl (wD_idx (b := vb) (o := 0) (k := i) (j := (i : Int)) (by rw [← ev]; rfl) rfl rfl hi ?_)
            refine wD_g rfl (wD_addo (b := vb) (o := 0 + i * 5) rfl ?_)
            refine wD_g rfl (wD_ld (b := vb) (o := 0 + i * 5 + 3) (v := iv (shr R2 (hwS us ds (L.getD i 0) ds.length) (tW us ds ds.length))) rfl rv (row_get (j := 3) (plc_row (l := L) (i := i) (by omega)) rfl) ?_)
            refine wD_g rfl (wD_mov (v := .slice pap L.length capp) rfl ?_)
            refine wD_g rfl (wD_mov (v := iv (i : Int)) rfl ?_)
            refine wD_g rfl (wD_idx (b := sb) (o := 0) (k := i) (j := (i : Int)) (by rw [← es]; rfl) rfl rfl hi ?_)
            refine wD_g rfl (wD_addo (b := sb) (o := 0 + i * 5) rfl ?_)
            refine wD_g rfl (wD_ld (b := sb) (o := 0 + i * 5 + 3) (v := iv (shr rev (hwS us ds (L.getD i 0) ds.length) (tW us ds ds.length))) rfl rs (row_get (j := 3) (plc_row (l := L) (i := i) (by omega)) rfl) ?_)
            refine wD_g rfl (wD_b_lss (a := (shr R2 (hwS us ds (L.getD i 0) ds.length) (tW us ds ds.length))) (b := (shr rev (hwS us ds (L.getD i 0) ds.length) (tW us ds ds.length))) rfl rfl ?_)
            intro t14 g14; cases t14
            ·have g14 : ¬ ((shr R2 (hwS us ds (L.getD i 0) ds.length) (tW us ds ds.length)) < (shr rev (hwS us ds (L.getD i 0) ds.length) (tW us ds ds.length))) := of_decide_eq_false g14
             refine wD_pur (v := .bool false) rfl rfl ?_
             refine wD_end (by repeat' first | exact True.intro | exact (fun h => h) | refine And.intro ?_ ?_ | (intro h; have h : (_ : Nat) = _ := h; omega)) ?_
             refine condF ?_
             first | refine wM_skip ?_ | skip
             refine wM_dseq <| wD_mov (v := .slice pap L.length capp) rfl <| wD_mov (v := iv (i : Int)) rfl <| wD_idx (b := sb) (o := 0) (k := i) (j := (i : Int)) (by rw [← es]; rfl) rfl rfl hi <| wD_addo (b := sb) (o := 0 + i * 5) rfl <| wD_ld (b := sb) (o := 0 + i * 5) (v := iv (L.getD i 0)) rfl rs (row_get (j := 0) (plc_row (l := L) (i := i) (by omega)) rfl) <| wD_addo (b := H4.next) (o := 0) rfl <| wD_ld (b := H4.next) (o := 0) (v := iv d.r) rfl cD.rd rfl <| wD_b_eql (a := (L.getD i 0)) (b := d.r) rfl rfl ?_
             intro t15 g15; cases t15
             ·have g15 : ¬ ((L.getD i 0) = d.r) := by simpa using g15
              refine wD_mov (v := .bool false) rfl <| wD_gs rfl <| wD_gs rfl <| wD_gs rfl <| wD_gs rfl <| wD_gs rfl <| wD_gs rfl <| wD_gs rfl <| wD_gs rfl <| wD_gs rfl <| wD_gs rfl <| wD_gs rfl ?_
              refine wD_gs rfl <| wD_gu rfl <| wD_gu rfl <| wD_gu rfl <| wD_gu rfl <| wD_gu rfl <| wD_gu rfl <| wD_gu rfl <| wD_gu rfl <| wD_gu rfl <| wD_gu rfl <| wD_gu rfl ?_
              refine wD_gs rfl <| wD_pur (v := .bool false) rfl rfl <| wD_mov (v := .bool false) rfl ?_
              refine wD_g rfl (wD_mov (v := .slice pap L.length capp) rfl ?_)
              refine wD_g rfl (wD_mov (v := iv (i : Int)) rfl ?_)
              refine wD_g rfl (wD_idx (b := sb) (o := 0) (k := i) (j := (i : Int)) (by rw [← es]; rfl) rfl rfl hi ?_)
              refine wD_g rfl (wD_addo (b := sb) (o := 0 + i * 5) rfl ?_)
              refine wD_g rfl (wD_ld (b := sb) (o := 0 + i * 5) (v := iv (L.getD i 0)) rfl rs (row_get (j := 0) (plc_row (l := L) (i := i) (by omega)) rfl) ?_)
              refine wD_g rfl (wD_addo (b := H4.next) (o := 0) rfl ?_)
              refine wD_g rfl (wD_ld (b := H4.next) (o := 0) (v := iv d.r) rfl cD.rd rfl ?_)
              refine wD_g rfl (wD_b_neq (a := (L.getD i 0)) (b := d.r) rfl rfl ?_)
              intro t16 g16; cases t16
              ·have g16 : ¬ ((L.getD i 0) ≠ d.r) := by simpa using g16
               omega
              ·have g16 : (L.getD i 0) ≠ d.r := by simpa using g16
               refine wD_g rfl (wD_mov (v := .bool true) rfl ?_)
               refine wD_g rfl (wD_mov (v := .slice paq L.length capq) rfl ?_)
               refine wD_g rfl (wD_mov (v := iv (i : Int)) rfl ?_)
               refine wD_g rfl (wD_idx (b := ub) (o := 0) (k := i) (j := (i : Int)) (by rw [← eu]; rfl) rfl rfl hi ?_)
               refine wD_g rfl (wD_addo (b := ub) (o := 0 + i * 5) rfl ?_)
               refine wD_g rfl (wD_ld (b := ub) (o := 0 + i * 5 + 1) (v := iv (hwS us dn (L.getD i 0) dn.length)) rfl ru (row_get (j := 1) (plc_row (l := L) (i := i) (by omega)) rfl) ?_)
               refine wD_g rfl (wD_mov (v := .slice pap L.length capp) rfl ?_)
               refine wD_g rfl (wD_mov (v := iv (i : Int)) rfl ?_)
               refine wD_g rfl (wD_idx (b := sb) (o := 0) (k := i) (j := (i : Int)) (by rw [← es]; rfl) rfl rfl hi ?_)
               refine wD_g rfl (wD_addo (b := sb) (o := 0 + i * 5) rfl ?_)
               refine wD_g rfl (wD_ld (b := sb) (o := 0 + i * 5 + 1) (v := iv (hwS us ds (L.getD i 0) ds.length)) rfl rs (row_get (j := 1) (plc_row (l := L) (i := i) (by omega)) rfl) ?_)
               refine wD_g rfl (wD_b_neq (a := (hwS us dn (L.getD i 0) dn.length)) (b := (hwS us ds (L.getD i 0) ds.length)) rfl rfl ?_)
               intro t17 g17; cases t17
               ·have g17 : ¬ ((hwS us dn (L.getD i 0) dn.length) ≠ (hwS us ds (L.getD i 0) ds.length)) := by simpa using g17
                refine wD_g rfl (wD_mov (v := .bool false) rfl ?_)
                refine wD_g rfl (wD_mov (v := .slice paq L.length capq) rfl ?_)
                refine wD_g rfl (wD_mov (v := iv (i : Int)) rfl ?_)
                refine wD_g rfl (wD_idx (b := ub) (o := 0) (k := i) (j := (i : Int)) (by rw [← eu]; rfl) rfl rfl hi ?_)
                refine wD_g rfl (wD_addo (b := ub) (o := 0 + i * 5) rfl ?_)
                refine wD_g rfl (wD_ld (b := ub) (o := 0 + i * 5 + 3) (v := iv (shr rev (hwS us dn (L.getD i 0) dn.length) (tW us dn dn.length))) rfl ru (row_get (j := 3) (plc_row (l := L) (i := i) (by omega)) rfl) ?_)
                refine wD_g rfl (wD_mov (v := .slice pap L.length capp) rfl ?_)
                refine wD_g rfl (wD_mov (v := iv (i : Int)) rfl ?_)
                refine wD_g rfl (wD_idx (b := sb) (o := 0) (k := i) (j := (i : Int)) (by rw [← es]; rfl) rfl rfl hi ?_)
                refine wD_g rfl (wD_addo (b := sb) (o := 0 + i * 5) rfl ?_)
                refine wD_g rfl (wD_ld (b := sb) (o := 0 + i * 5 + 3) (v := iv (shr rev (hwS us ds (L.getD i 0) ds.length) (tW us ds ds.length))) rfl rs (row_get (j := 3) (plc_row (l := L) (i := i) (by omega)) rfl) ?_)
                refine wD_g rfl (wD_b_lss (a := (shr rev (hwS us dn (L.getD i 0) dn.length) (tW us dn dn.length))) (b := (shr rev (hwS us ds (L.getD i 0) ds.length) (tW us ds ds.length))) rfl rfl ?_)
                intro t18 g18; cases t18
                ·have g18 : ¬ ((shr rev (hwS us dn (L.getD i 0) dn.length) (tW us dn dn.length)) < (shr rev (hwS us ds (L.getD i 0) ds.length) (tW us ds ds.length))) := of_decide_eq_false g18
                 refine wD_g rfl (wD_pur (v := .bool false) rfl rfl ?_)
                 refine wD_g rfl (wD_pur (v := .bool false) rfl rfl ?_)
                 refine wD_pur (v := .bool false) rfl rfl ?_
                 refine wD_end (by repeat' first | exact True.intro | exact (fun h => h) | refine And.intro ?_ ?_ | (intro h; have h : (_ : Nat) = _ := h; omega)) ?_
                 refine condF ?_
                 first | refine wM_skip ?_ | skip
                 first | refine wM_reg ?_ | refine wM_blk ?_ | refine wM_bseq ?_ | (refine wOps_nil ?_; refine wM_reg ?_)
                 refine wM_mov (v := iv (i : Int)) rfl <| wM_add (a := (i : Int)) (b := 1) rfl rfl ⟨by omega, by omega⟩ <| wM_mov (v := iv ((i : Int) + 1)) rfl <| wM_end ?_
                 exact ⟨k - 1, i + 1, by omega, ⟨by omega, hk, by omega, hpp, hpq, hpr, cD⟩, rfl, rfl, rfl, rfl, rfl, trivial⟩
                ·have g18 : (shr rev (hwS us dn (L.getD i 0) dn.length) (tW us dn dn.length)) < (shr rev (hwS us ds (L.getD i 0) ds.length) (tW us ds ds.length)) := of_decide_eq_true g18
                 omega
               ·have g17 : (hwS us dn (L.getD i 0) dn.length) ≠ (hwS us ds (L.getD i 0) ds.length) := by simpa using g17
                omega
             ·have g15 : (L.getD i 0) = d.r := by simpa using g15
              refine wD_mov (v := .bool true) rfl ?_
              refine wD_g rfl (wD_mov (v := .slice paq L.length capq) rfl ?_)
              refine wD_g rfl (wD_mov (v := iv (i : Int)) rfl ?_)
              refine wD_g rfl (wD_idx (b := ub) (o := 0) (k := i) (j := (i : Int)) (by rw [← eu]; rfl) rfl rfl hi ?_)
              refine wD_g rfl (wD_addo (b := ub) (o := 0 + i * 5) rfl ?_)
              refine wD_g rfl (wD_ld (b := ub) (o := 0 + i * 5 + 1) (v := iv (hwS us dn (L.getD i 0) dn.length)) rfl ru (row_get (j := 1) (plc_row (l := L) (i := i) (by omega)) rfl) ?_)
              refine wD_g rfl (wD_mov (v := .slice pap L.length capp) rfl ?_)
              refine wD_g rfl (wD_mov (v := iv (i : Int)) rfl ?_)
              refine wD_g rfl (wD_idx (b := sb) (o := 0) (k := i) (j := (i : Int)) (by rw [← es]; rfl) rfl rfl hi ?_)
              refine wD_g rfl (wD_addo (b := sb) (o := 0 + i * 5) rfl ?_)
              refine wD_g rfl (wD_ld (b := sb) (o := 0 + i * 5 + 1) (v := iv (hwS us ds (L.getD i 0) ds.length)) rfl rs (row_get (j := 1) (plc_row (l := L) (i := i) (by omega)) rfl) ?_)
              refine wD_g rfl (wD_b_gtr (a := (hwS us dn (L.getD i 0) dn.length)) (b := (hwS us ds (L.getD i 0) ds.length)) rfl rfl ?_)
              intro t19 g19; cases t19
              ·have g19 : ¬ ((hwS us dn (L.getD i 0) dn.length) > (hwS us ds (L.getD i 0) ds.length)) := of_decide_eq_false g19
               refine wD_g rfl (wD_mov (v := .bool false) rfl ?_)
               refine wD_g rfl (wD_mov (v := .slice paq L.length capq) rfl ?_)
               refine wD_g rfl (wD_mov (v := iv (i : Int)) rfl ?_)
               refine wD_g rfl (wD_idx (b := ub) (o := 0) (k := i) (j := (i : Int)) (by rw [← eu]; rfl) rfl rfl hi ?_)
               refine wD_g rfl (wD_addo (b := ub) (o := 0 + i * 5) rfl ?_)
               refine wD_g rfl (wD_ld (b := ub) (o := 0 + i * 5 + 3) (v := iv (shr rev (hwS us dn (L.getD i 0) dn.length) (tW us dn dn.length))) rfl ru (row_get (j := 3) (plc_row (l := L) (i := i) (by omega)) rfl) ?_)
               refine wD_g rfl (wD_mov (v := .slice pap L.length capp) rfl ?_)
               refine wD_g rfl (wD_mov (v := iv (i : Int)) rfl ?_)
               refine wD_g rfl (wD_idx (b := sb) (o := 0) (k := i) (j := (i : Int)) (by rw [← es]; rfl) rfl rfl hi ?_)
               refine wD_g rfl (wD_addo (b := sb) (o := 0 + i * 5) rfl ?_)
               refine wD_g rfl (wD_ld (b := sb) (o := 0 + i * 5 + 3) (v := iv (shr rev (hwS us ds (L.getD i 0) ds.length) (tW us ds ds.length))) rfl rs (row_get (j := 3) (plc_row (l := L) (i := i) (by omega)) rfl) ?_)
               refine wD_g rfl (wD_b_gtr (a := (shr rev (hwS us dn (L.getD i 0) dn.length) (tW us dn dn.length))) (b := (shr rev (hwS us ds (L.getD i 0) ds.length) (tW us ds ds.length))) rfl rfl ?_)
               intro t20 g20; cases t20
               ·have g20 : ¬ ((shr rev (hwS us dn (L.getD i 0) dn.length) (tW us dn dn.length)) > (shr rev (hwS us ds (L.getD i 0) ds.length) (tW us ds ds.length))) := of_decide_eq_false g20
                refine wD_g rfl (wD_pur (v := .bool false) rfl rfl ?_)
                refine wD_pur (v := .bool false) rfl rfl <| wD_mov (v := .bool false) rfl ?_
                refine wD_g rfl (wD_mov (v := .slice pap L.length capp) rfl ?_)
                refine wD_g rfl (wD_mov (v := iv (i : Int)) rfl ?_)
                refine wD_g rfl (wD_idx (b := sb) (o := 0) (k := i) (j := (i : Int)) (by rw [← es]; rfl) rfl rfl hi ?_)
                refine wD_g rfl (wD_addo (b := sb) (o := 0 + i * 5) rfl ?_)
                refine wD_g rfl (wD_ld (b := sb) (o := 0 + i * 5) (v := iv (L.getD i 0)) rfl rs (row_get (j := 0) (plc_row (l := L) (i := i) (by omega)) rfl) ?_)
                refine wD_g rfl (wD_addo (b := H4.next) (o := 0) rfl ?_)
                refine wD_g rfl (wD_ld (b := H4.next) (o := 0) (v := iv d.r) rfl cD.rd rfl ?_)
                refine wD_g rfl (wD_b_neq (a := (L.getD i 0)) (b := d.r) rfl rfl ?_)
                intro t21 g21; cases t21
                ·have g21 : ¬ ((L.getD i 0) ≠ d.r) := by simpa using g21
                 refine wD_g rfl (wD_mov (v := .bool false) rfl ?_)
                 refine wD_gs rfl <| wD_gs rfl <| wD_gs rfl <| wD_gs rfl <| wD_gs rfl <| wD_gs rfl <| wD_gs rfl <| wD_gs rfl <| wD_gs rfl <| wD_gs rfl <| wD_gs rfl <| wD_gs rfl ?_
                 refine wD_gu rfl <| wD_gu rfl <| wD_gu rfl <| wD_gu rfl <| wD_gu rfl <| wD_gu rfl <| wD_gu rfl <| wD_gu rfl <| wD_gu rfl <| wD_gu rfl <| wD_gu rfl <| wD_gs rfl ?_
                 refine wD_g rfl (wD_pur (v := .bool false) rfl rfl ?_)
                 refine wD_pur (v := .bool false) rfl rfl ?_
                 refine wD_end (by repeat' first | exact True.intro | exact (fun h => h) | refine And.intro ?_ ?_ | (intro h; have h : (_ : Nat) = _ := h; omega)) ?_
                 refine condF ?_
                 first | refine wM_skip ?_ | skip
                 first | refine wM_reg ?_ | refine wM_blk ?_ | refine wM_bseq ?_ | (refine wOps_nil ?_; refine wM_reg ?_)
                 refine wM_mov (v := iv (i : Int)) rfl <| wM_add (a := (i : Int)) (b := 1) rfl rfl ⟨by omega, by omega⟩ <| wM_mov (v := iv ((i : Int) + 1)) rfl <| wM_end ?_
                 exact ⟨k - 1, i + 1, by omega, ⟨by omega, hk, by omega, hpp, hpq, hpr, cD⟩, rfl, rfl, rfl, rfl, rfl, trivial⟩
                ·have g21 : (L.getD i 0) ≠ d.r := by simpa using g21
                 omega
               ·have g20 : (shr rev (hwS us dn (L.getD i 0) dn.length) (tW us dn dn.length)) > (shr rev (hwS us ds (L.getD i 0) ds.length) (tW us ds ds.length)) := of_decide_eq_true g20
                omega
              ·have g19 : (hwS us dn (L.getD i 0) dn.length) > (hwS us ds (L.getD i 0) ds.length) := of_decide_eq_true g19
               omega
            ·have g14 : (shr R2 (hwS us ds (L.getD i 0) ds.length) (tW us ds ds.length)) < (shr rev (hwS us ds (L.getD i 0) ds.length) (tW us ds ds.length)) := of_decide_eq_true g14
             omega
           ·have g13 : (L.getD i 0) ≠ (L.getD i 0) := by simpa using g13
            omega
          ·have g12 : (L.getD i 0) ≠ (L.getD i 0) := by simpa using g12
           omega
         ·have q11 : ¬ ((i : Int) < (L.length : Int)) := of_decide_eq_false q11
          first | (refine wM_exit ?_; show wCM _ _ _ _ _ _ _ _ _) | skip
          refine wM_seq <| wM_callf s (vs := []) rfl (callX_known hkn) <| wM_mov (v := .bool true) rfl <| wM_end ?_
          exact And.intro trivial (Exists.intro _ (And.intro rfl rfl))
        ·have g10 : (L.length : Int) ≠ (L.length : Int) := by simpa using g10
         omega
       ·have g9 : (L.length : Int) ≠ (L.length : Int) := by simpa using g9
        omega
      ·have g6 : rev > 1073741824 := of_decide_eq_true g6
       omega
     ·have g5 : rev < 0 := of_decide_eq_true g5
      omega
   ·have g2 : (m : Int) > 60 := of_decide_eq_true g2
    refine wM_pur (v := .bool true) rfl rfl <| wM_end <| condT <| wM_seq <| wM_callf s (vs := []) rfl (callX_known hkn) <| wM_mov (v := .bool true) rfl <| wM_end ?_
    exact And.intro trivial (Exists.intro _ (And.intro rfl rfl))
  ·have g1 : (m : Int) = 0 := by simpa using g1
   refine wM_pur (v := .bool true) rfl rfl <| wM_mov (v := .bool true) rfl <| wM_gs rfl <| wM_gs rfl <| wM_gs rfl <| wM_pur (v := .bool true) rfl rfl <| wM_end <| condT <| wM_seq <| wM_callf s (vs := []) rfl (callX_known hkn) <| wM_mov (v := .bool true) rfl <| wM_end ?_
   exact And.intro trivial (Exists.intro _ (And.intro rfl rfl))
 ·refine wM_mov (v := .bool true) rfl <| wM_gs rfl <| wM_gs rfl <| wM_gs rfl <| wM_pur (v := .bool true) rfl rfl <| wM_mov (v := .bool true) rfl <| wM_gs rfl <| wM_gs rfl <| wM_gs rfl <| wM_pur (v := .bool true) rfl rfl <| wM_end <| condT ?_
  refine wM_seq <| wM_callf s (vs := []) rfl (callX_known hkn) <| wM_mov (v := .bool true) rfl <| wM_end ?_
  exact And.intro trivial (Exists.intro _ (And.intro rfl rfl))
end
end
end Go.Ax

namespace Go.Ax
open Go Go.RowKit Go.Proofs Go.ChangeShapes Go.WideShapes Go.Deep

def IntT (P : Program) (t : TypeId) : Prop := ∀ (H : Type) (enc : TypeId × Value → H) (w : World) (base : Nat) (spare : Nat → Bool) (held : Bool) (fuel : Nat) (cs : List Value) (x : DataW H × List MemPlace),
 DataW.trod enc P w base spare held fuel t cs = some x → cs.length = P.cellsOf t ∧ ∀ j, j < cs.length → ∃ n, cs[j]? = some (.int .i64 n)
theorem IntT.int {P : Program} {t : TypeId} (ht : P.underlying t = some (.int .i64)) (hc : P.cellsOf t = 1) : IntT P t := by
 intro H enc w base spare held fuel cs x h
 obtain ⟨n, rfl, _⟩ := DataW.trod_int ht h
 refine ⟨by rw [hc]; rfl, fun j hj => ⟨n, ?_⟩⟩
 have : j = 0 := by simp at hj; omega
 subst this; rfl
theorem IntT.struct {P : Program} {t : TypeId} {fs : Array Field} (ht : P.underlying t = some (.struct fs)) (hf : ∀ f ∈ fs.toList, IntT P f.type)
  (hcov : ((List.range (P.cellsOf t)).all fun j => fs.toList.any fun f => decide (f.offset ≤ j) && decide (j < f.offset + P.cellsOf f.type)) = true) : IntT P t := by
 intro H enc w base spare held fuel cs x h
 obtain ⟨xs, n, _, _, hlen, hxl, hg⟩ := DataW.trod_struct ht h
 refine ⟨hlen, fun j hj => ?_⟩
 have h1 := List.all_eq_true.1 hcov j (List.mem_range.2 (by omega))
 obtain ⟨f, hfm, h2⟩ := List.any_eq_true.1 h1
 simp only [Bool.and_eq_true, decide_eq_true_eq] at h2
 obtain ⟨i, hi, hfi⟩ := List.getElem_of_mem hfm
 have hfs : fs[i]? = some f := by
  rw [← Array.getElem?_toList, List.getElem?_eq_getElem hi, hfi]
 have hi2 : i < xs.length := by simpa [hxl] using hi
 have h3 := hg i f hfs
 rw [List.getElem?_eq_getElem hi2] at h3
 obtain ⟨h4, h5⟩ := hf f hfm _ _ _ _ _ _ _ _ _ h3
 obtain ⟨m, hm⟩ := h5 (j - f.offset) (by omega)
 refine ⟨m, ?_⟩
 rw [List.getElem?_take] at hm
 split at hm
 ·rw [List.getElem?_drop, show f.offset + (j - f.offset) = j by omega] at hm; exact hm
 ·cases hm

structure Given {α : Type} (w : World) (v : Value) (f : α → List Value) (l : List α) (x : Imp) : Prop where
 ok : ∀ (i : Nat) u, x.cs[i]? = some u → w.cell? ⟨x.blk, x.off + i, none⟩ = some u ∧ flat1 u = true
 cs : x.cs = l.flatMap f
 v : (v = .slice none 0 0 ∧ l = []) ∨ ∃ cap, v = .slice (some ⟨x.blk, x.off, none⟩) l.length cap ∧ l.length ≤ cap
theorem flat_get {α : Type} {f : α → List Value} {k : Nat} (hk : 0 < k) : ∀ {l : List α} (_ : ∀ x ∈ l, (f x).length = k) (i : Nat) (u : Value), (l.flatMap f)[i]? = some u → ∃ x, l[i / k]? = some x ∧ (f x)[i % k]? = some u
 | [], _, i, u, h => by simp at h
 | y :: r, hl, i, u, h => by
  have hy := hl y (List.mem_cons_self ..)
  rw [List.flatMap_cons, List.getElem?_append] at h
  split at h
  ·rename_i q
   rw [hy] at q
   refine ⟨y, ?_, ?_⟩
   ·rw [Nat.div_eq_of_lt q]; rfl
   ·rw [Nat.mod_eq_of_lt q]; exact h
  ·rename_i q
   rw [hy] at q h
   obtain ⟨x, h1, h2⟩ := flat_get hk (fun x hx => hl x (List.mem_cons_of_mem _ hx)) _ u h
   refine ⟨x, ?_, ?_⟩
   ·rw [Nat.div_eq_sub_div hk (by omega)]; exact h1
   ·rw [Nat.mod_eq_sub_mod (by omega)]; exact h2
theorem slice_given {H : Type} {enc : TypeId × Value → H} {P : Program} {w : World} {base b0 : Nat} {r : Reach} {held : Bool} {α : Type} (f : α → List Value) (mk : (Nat → Int) → α) (k : Nat) {t e : TypeId} {fuel : Nat} {v : Value} {x : DataW H × List MemPlace}
  (ht : P.underlying t = some (.slice e)) (hI : IntT P e) (hc : P.cellsOf e = k) (hk : 0 < k) (hmk : ∀ N : Nat → Int, f (mk N) = (List.range k).map fun j => Value.int .i64 (N j))
  (hok : Cell.okWide P w r b0 t v) (h : DataW.trod enc P w base (fun _ => true) held fuel t [v] = some x) : ∃ (l : List α) (y : Imp), Given w v f l y := by
 rcases open_slice ht h with ⟨h0, _⟩ | ⟨a, len, cap, m, n, D, Pl, hcs, hb, hl, hm, hmm, hx, hi⟩
 ·cases h0
  exact ⟨[], ⟨0, 0, []⟩, fun i u e => by simp at e, rfl, .inl ⟨rfl, rfl⟩⟩
 ·cases hcs
  obtain ⟨blk, off, spot⟩ := a
  have hs : spot = none := by
   unfold Cell.okWide at hok
   rw [ht] at hok
   unfold Cell.ok at hok
   simp only [ht] at hok
   exact hok.2.2.2.1
  subst hs
  simp only [if_true] at hmm
  subst hmm
  have hcell : ∀ i, i < len → ∀ j, j < k → ∃ n, w.cell? ⟨blk, off + (i * k + j), none⟩ = some (.int .i64 n) := by
   intro i hil j hj
   obtain ⟨cs', h1, h2⟩ := hi i (by omega)
   obtain ⟨h3, h4⟩ := hI _ _ _ _ _ _ _ _ _ h2
   obtain ⟨_, h5, h6⟩ := World.cells?_some h1
   obtain ⟨n, hn⟩ := h4 j (by omega)
   refine ⟨n, ?_⟩
   have h7 := h6 j (by omega)
   rw [hn, hc, add_add] at h7
   have e : (⟨blk, off, none⟩ : Addr).add (i * k + j) = ⟨blk, off + (i * k + j), none⟩ := by
    unfold Addr.add
    by_cases q : i * k + j = 0
    ·simp [q]
    ·simp
   rw [e] at h7
   exact h7
  refine ⟨(List.range len).map fun i => mk fun j => match w.cell? ⟨blk, off + (i * k + j), none⟩ with | some (.int _ n) => n | _ => 0, ⟨blk, off, _⟩, ?_, rfl, .inr ⟨m, by simp, by simpa using hl⟩⟩
  intro i u hu
  obtain ⟨y, h1, h2⟩ := flat_get hk (fun y hy => by
   obtain ⟨i, _, rfl⟩ := List.mem_map.1 hy
   rw [hmk]; simp) i u hu
  have hlt : i / k < len := by
   have := get_lt h1
   simpa using this
  rw [List.getElem?_map, List.getElem?_range hlt] at h1
  simp only [Option.map_some, Option.some.injEq] at h1
  subst h1
  have hj : i % k < k := Nat.mod_lt _ hk
  rw [hmk, List.getElem?_map, List.getElem?_range hj] at h2
  simp only [Option.map_some, Option.some.injEq] at h2
  obtain ⟨n, hn⟩ := hcell _ hlt _ hj
  rw [hn] at h2
  subst h2
  rw [Nat.div_add_mod' ] at hn
  exact ⟨hn, rfl⟩
theorem Given.rel {α : Type} {w : World} {v : Value} {f : α → List Value} {l : List α} {x : Imp} (g : Given w v f l x) {r : Ren} {H : Hp} {b : Nat} (hr : r b = some ⟨x.blk, x.off, none⟩) (hb : b < H.next) (hc : cellsOf H b = some x.cs) (hro : H.t.get b = some (.ro x.cs)) :
  ∃ a cap, VR r (.slice a l.length cap) v ∧ Sl H a l.length cap (l.flatMap f) ∧ ∀ b, a = some ⟨b, 0, none⟩ → H.t.get b = some (.ro (l.flatMap f)) := by
 rcases g.v with ⟨rfl, rfl⟩ | ⟨cap, rfl, hl⟩
 ·exact ⟨none, 0, .nilSlice, .inl ⟨.inl rfl, rfl, rfl, rfl⟩, fun b e => by cases e⟩
 ·refine ⟨some ⟨b, 0, none⟩, cap, ?_, .inr ⟨b, rfl, ⟨hb, by rw [hc, g.cs]⟩, hl⟩, fun b' e => by cases e; rw [hro, g.cs]⟩
  have := VR.slice (o := 0) (n := l.length) (c := cap) hr rfl hl
  simpa using this
end Go.Ax

/-! Slices of rows of plain cells, as arguments. -/
namespace Go.Ax
open Go Go.RowKit Go.Proofs Go.ChangeShapes Go.WideShapes Go.Deep

theorem IntT.row {α : Type} {P : Program} {t : TypeId} {k : Nat} {f : α → List Value} {mk : (Nat → Int) → α} (h : IntT P t) (hc : P.cellsOf t = k) (hmk : ∀ N : Nat → Int, f (mk N) = (List.range k).map fun j => Value.int .i64 (N j))
  {H : Type} {enc : TypeId × Value → H} {w : World} {base : Nat} {spare : Nat → Bool} {held : Bool} (fuel : Nat) (cs : List Value) (x : DataW H × List MemPlace) (hx : DataW.trod enc P w base spare held fuel t cs = some x) : ∃ y : α, cs = f y ∧ True := by
 obtain ⟨h1, h2⟩ := h _ _ _ _ _ _ _ _ _ hx
 have : ∃ N : Nat → Int, ∀ j, j < cs.length → cs[j]? = some (.int .i64 (N j)) := by
  refine ⟨fun j => match cs[j]? with | some (.int _ n) => n | _ => 0, fun j hj => ?_⟩
  obtain ⟨n, hn⟩ := h2 j hj
  simp [hn]
 obtain ⟨N, hN⟩ := this
 refine ⟨mk N, ?_, trivial⟩
 rw [hmk]
 apply List.ext_getElem?
 intro j
 by_cases hj : j < k
 ·rw [hN j (by omega), List.getElem?_map, List.getElem?_range hj]; rfl
 ·rw [List.getElem?_eq_none (by omega), List.getElem?_eq_none (by simp; omega)]
end Go.Ax

/-! Arguments that point to what points: inner slices, rows of slices. -/
namespace Go.Ax
open Go Go.RowKit Go.Proofs Go.ChangeShapes Go.WideShapes Go.Deep

def renOf (imps : List Imp) : Ren := fun b => (imps[b]?).map fun x => ⟨x.blk, x.off, none⟩
theorem imports3 {P : Program} (imps outs : List Imp) (w : World) (h : ∀ x ∈ imps, ∀ (i : Nat) v, x.cs[i]? = some v → w.cell? ⟨x.blk, x.off + i, none⟩ = some v ∧ flat1 v = true)
  (hcs : ∀ x ∈ outs, ∀ (i : Nat) v, x.cs[i]? = some v → ∃ v', w.cell? ⟨x.blk, x.off + i, none⟩ = some v' ∧ VR (renOf imps) v v') :
  ∃ (r : Ren) (H : Hp), Rel P r w.heap.size H w ∧ H.next = (imps ++ outs).length ∧ (∀ b loc, r b = some loc → b < H.next) ∧ Ren.Le (renOf imps) r ∧ ∀ (b : Nat) x, (imps ++ outs)[b]? = some x → r b = some ⟨x.blk, x.off, none⟩ ∧ H.t.get b = some (.ro x.cs) := by
 have hall : ∀ x ∈ imps ++ outs, ∀ (i : Nat) v, x.cs[i]? = some v → ∃ v', w.cell? ⟨x.blk, x.off + i, none⟩ = some v' ∧ VR (renOf imps) v v' := by
  intro x hx i v hv
  rcases List.mem_append.1 hx with hx | hx
  ·obtain ⟨h1, h2⟩ := h x hx i v hv
   exact ⟨v, h1, flat1_vr h2⟩
  ·exact hcs x hx i v hv
 obtain ⟨t, ht⟩ := tr_of (fun b => ((imps ++ outs)[b]?).map fun x => .ro x.cs) (imps ++ outs).length
 have hle : Ren.Le (renOf imps) (fun b => ((imps ++ outs)[b]?).map fun x => ⟨x.blk, x.off, none⟩) := fun b loc e => by
  unfold renOf at e
  have hlt : b < imps.length := by
   rcases Nat.lt_or_ge b imps.length with q | q
   ·exact q
   ·rw [List.getElem?_eq_none q] at e; cases e
  show ((imps ++ outs)[b]?).map _ = _
  rw [List.getElem?_append_left hlt]; exact e
 have hr : ∀ (b : Nat) loc, ((imps ++ outs)[b]?).map (fun x => (⟨x.blk, x.off, none⟩ : Loc)) = some loc → ∃ x, (imps ++ outs)[b]? = some x ∧ b < (imps ++ outs).length ∧ loc = ⟨x.blk, x.off, none⟩ ∧ t.get b = some (.ro x.cs) := by
  intro b loc e
  cases hx : (imps ++ outs)[b]? with
  | none => rw [hx] at e; cases e
  | some x =>
   rw [hx] at e
   simp at e
   have hlt := get_lt hx
   exact ⟨x, rfl, hlt, e.symm, by rw [ht, if_pos hlt, hx]; rfl⟩
 have low : ∀ {g o : Nat} {v : Value}, w.cell? ⟨g, o, none⟩ = some v → g < w.heap.size := fun {g o v} hv => by
  unfold World.cell? at hv
  rcases Nat.lt_or_ge g w.heap.size with q | q
  ·exact q
  ·rw [Array.getElem?_eq_none q] at hv; cases hv
 refine ⟨fun b => ((imps ++ outs)[b]?).map fun x => ⟨x.blk, x.off, none⟩, { next := (imps ++ outs).length, t }, ⟨?_, ?_, ?_, Nat.le_refl _⟩, rfl, ?_, hle, ?_⟩
 ·intro b loc e
  obtain ⟨x, hx, hlt, rfl, hg⟩ := hr b loc e
  refine ⟨hlt, ?_⟩
  show Dm _ _ _ (t.get b)
  rw [hg]
  cases hc : x.cs with
  | nil => exact .inl rfl
  | cons v l =>
   obtain ⟨v', h1, _⟩ := hall x (List.mem_of_getElem? hx) 0 v (by rw [hc]; rfl)
   exact .inr (low h1)
 ·intro b loc o e eo
  obtain ⟨x, hx, hlt, rfl, hg⟩ := hr b loc e
  rw [hg] at eo; cases eo
  refine ⟨rfl, fun i v ev => ?_⟩
  obtain ⟨v', h1, h2⟩ := hall x (List.mem_of_getElem? hx) i v ev
  unfold World.cell? at h1
  simp only at h1
  split at h1
  ·rename_i C e' f hC
   exact ⟨C, e', f, v', hC, by simpa using h1, h2.mono hle⟩
  ·cases h1
 ·intro b b' loc loc' e e' _ hl _
  obtain ⟨x, hx, hlt, rfl, hg⟩ := hr b loc e
  obtain ⟨o, h1, h2, h3⟩ := hl
  have : t.get b = some o := h1
  rw [hg] at this; cases this
  cases h3
 ·intro b loc e
  obtain ⟨x, hx, hlt, rfl, hg⟩ := hr b loc e
  exact hlt
 ·intro b x hx
  have hlt := get_lt hx
  refine ⟨by simp only [hx, Option.map_some], ?_⟩
  show t.get b = _
  rw [ht, if_pos hlt, hx]; rfl

structure GivI {α : Type} (w : World) (v : Value) (f : α → List Value) (l : List α) (x : Imp) : Prop where
 ok : ∀ (i : Nat) u, x.cs[i]? = some u → w.cell? ⟨x.blk, x.off + i, none⟩ = some u ∧ flat1 u = true
 cs : x.cs = l.flatMap f
 v : ((v = .slice none 0 0 ∨ ∃ a', v = .slice (some a') 0 0) ∧ l = []) ∨ ∃ cap, v = .slice (some ⟨x.blk, x.off, none⟩) l.length cap ∧ l.length ≤ cap
theorem GivI.rel {α : Type} {w : World} {v : Value} {f : α → List Value} {l : List α} {x : Imp} (g : GivI w v f l x) {r : Ren} {b : Nat} (hr : r b = some ⟨x.blk, x.off, none⟩) :
  ∃ a cap, VR r (.slice a l.length cap) v ∧ (∀ y, a = some ⟨y, 0, none⟩ → y = b) ∧ ∀ H : Hp, b < H.next → H.t.get b = some (.ro x.cs) → Sl H a l.length cap (l.flatMap f) := by
 rcases g.v with ⟨rfl | ⟨a', rfl⟩, rfl⟩ | ⟨cap, rfl, hl⟩
 ·exact ⟨none, 0, .nilSlice, fun y e => by (cases e), fun H _ _ => .inl ⟨.inl rfl, rfl, rfl, rfl⟩⟩
 ·exact ⟨some ⟨0, 0, some 0⟩, 0, .weird, fun y e => by (cases e), fun H _ _ => .inl ⟨.inr rfl, rfl, rfl, rfl⟩⟩
 ·refine ⟨some ⟨b, 0, none⟩, cap, ?_, fun y e => by (cases e; rfl), fun H hb hc => .inr ⟨b, rfl, ⟨hb, by unfold cellsOf; rw [hc, g.cs]⟩, hl⟩⟩
  have := VR.slice (o := 0) (n := l.length) (c := cap) hr rfl hl
  simpa using this
structure RV where
 rv : Value
 l : List Int
 x : Imp
def RV.f (r : RV) : List Value := [r.rv]
def RV.Q (w : World) (r : RV) : Prop := GivI w r.rv (fun n : Int => [iv n]) r.l r.x
end Go.Ax

/-! What is flat as arguments. -/
namespace Go.Ax
open Go Go.RowKit Go.Proofs Go.ChangeShapes Go.WideShapes Go.Deep

theorem imports_flat {P : Program} (pre : List Imp) {w : World} (h : ∀ x ∈ pre, ∀ (i : Nat) v, x.cs[i]? = some v → w.cell? ⟨x.blk, x.off + i, none⟩ = some v ∧ flat1 v = true) :
  ∃ (r : Ren) (H : Hp), Rel P r w.heap.size H w ∧ (∀ b loc, r b = some loc → b < H.next) ∧ (∀ (b : Nat) x, pre[b]? = some x → b < H.next ∧ r b = some ⟨x.blk, x.off, none⟩ ∧ H.t.get b = some (.ro x.cs)) := by
 obtain ⟨r, H, h1, h2, h3, h4, h5⟩ := imports3 (P := P) pre [] w h (fun x hx => by simp at hx)
 refine ⟨r, H, h1, h3, fun b x hx => ?_⟩
 have := get_lt hx
 obtain ⟨a, c⟩ := h5 b x (by simpa using hx)
 exact ⟨by rw [h2]; simpa using this, a, c⟩
end Go.Ax


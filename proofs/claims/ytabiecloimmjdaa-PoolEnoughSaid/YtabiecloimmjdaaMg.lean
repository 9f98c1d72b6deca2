import Derived.Test.YtabiecloimmjdaaMf
import Derived.Test.YtabiecloimmjdaaRows
import Derived.Test.YtabiecloimmjdaaChecked
import Derived.Deep.Slices
import Derived.Deep.Fields
import Derived.ChangeSame
set_option linter.all false
/-
 Proved here: 'awake', the closed part that every law of pool ends in, returns true in every world, whatever is drawn, and leaves what lay below as it was. Conditions: none.
 It has no arguments; it is worked out by the contracts of the functions that it calls (Q16).
-/
namespace Go.Ax
open Go Go.RowKit
theorem known_one {P : Program} {g : FuncId} {t : Bool} (hb : ((P.funcs[g]?).bind (fun fn => fn.body)).isSome = true) (hc : ∀ w, Calls P g #[] w fun e w' => e = .returned (.bool t) ∧ Below w.heap.size w w') :
  Known P ⟨fun f => bif Nat.beq f g then some t else none, fun _ _ _ _ => none⟩ := by
 refine ⟨?_, fun f lo args H v H' _ h => by cases h⟩
 intro f b h
 obtain ⟨hf, h1⟩ := bif_some h
 clear h
 have hf := Nat.eq_of_beq_eq_true hf
 subst hf
 cases h1
 refine ⟨?_, hc⟩
 cases hx : P.funcs[f]? with
 | none => rw [hx] at hb; cases hb
 | some fn =>
  rw [hx] at hb
  cases hy : fn.body with
  | none => rw [Option.bind_some, hy] at hb; cases hb
  | some c => exact ⟨fn, c, rfl, hy⟩
theorem known_nothing {P : Program} : Known P ⟨fun _ => none, fun _ _ _ _ => none⟩ := ⟨KnownB.nothing P, fun f lo args H v H' _ h => by cases h⟩
end Go.Ax
namespace Go.Proofs.Ytabiecloimmjdaa.alive
open Go.RowKit
theorem mixed : Try.prog.follows .mixedOrders = true := by kernel_rfl
theorem plainNames : (Try.prog.funcs.toList.all fun fn => !(fn.name == "runtime.NumGoroutine")) = true := by kernel_rfl
theorem noCount : Go.Ax.NoCount Try.prog := fun f fn h => by
 have h2 := List.all_eq_true.1 plainNames fn (by
  have := Array.mem_of_getElem? h
  simpa using this)
 simpa using h2
theorem call (w : World) : Calls Try.prog 11 #[] w fun e w' => e = .returned (.bool true) ∧ Below w.heap.size w w' :=
 Go.Ax.closed_callC (Go.Ax.awake_C ⟨mixed, noCount, Go.Ax.known_nothing⟩ (Nat.zero_le _)) w
theorem known : Go.Ax.Known Try.prog ⟨fun f => bif Nat.beq f 11 then some true else none, fun _ _ _ _ => none⟩ := Go.Ax.known_one (by kernel_rfl) call
theorem snd : Go.Ax.Snd Try.prog ⟨fun f => bif Nat.beq f 11 then some true else none, fun _ _ _ _ => none⟩ := ⟨mixed, noCount, known⟩
end Go.Proofs.Ytabiecloimmjdaa.alive

/-
 Pool: the law PoolEnough, whatever the input (written by program).
-/
namespace Go.Ax
open Go Go.RowKit Go.Proofs

theorem stL_len {us : List Pr} {adv : Int} {ds : List Dl} {rev : Int} : (stL us adv ds rev).length ≤ 1024 := by
 unfold stL
 split
 ·unfold grl
  refine Nat.le_trans (List.length_filter_le _ _) ?_
  simp
 ·simp
theorem stL_ok {us : List Pr} {adv : Int} {ds : List Dl} {rev : Int} (hv : vT us adv = true) (hd : vD ds = true) (h0 : 0 ≤ rev) (h1 : rev ≤ 1073741824) : stL us adv ds rev = grl ds ∧ stE us adv ds rev = 0 := by
 have h : inB rev 0 1073741824 = true := by simp [inB, h0, h1]
 unfold stL stE
 rw [hv, hd, h]; exact ⟨rfl, rfl⟩
theorem enough_cases {us : List Pr} {adv : Int} {ds : List Dl} {gr wanted x e : Int} (h : BkS us adv ds gr wanted x e) : (x = 0 ∧ e = 1) ∨ (x = 0 ∧ e = 4) ∨ (x = 0 ∧ e = 2) ∨
  (x = 0 ∧ e = 10 ∧ vT us adv = true ∧ vD ds = true ∧ gr ∈ grl ds ∧ 0 ≤ wanted ∧ shr 1073741824 (hwS us ds gr ds.length) (tW us ds ds.length) < wanted) ∨
  (e = 0 ∧ vT us adv = true ∧ vD ds = true ∧ gr ∈ grl ds ∧ 0 ≤ wanted ∧ 0 ≤ x ∧ x ≤ 1073741824 ∧ wanted ≤ shr x (hwS us ds gr ds.length) (tW us ds ds.length) ∧ (x ≠ 0 → shr (x - 1) (hwS us ds gr ds.length) (tW us ds ds.length) < wanted)) := by
 unfold BkS at h
 split at h
 ·rename_i q
  simp only [Bool.and_eq_true] at q
  split at h
  ·rename_i hg
   split at h
   ·rename_i hw
    have hw0 := (inB_t hw).1
    obtain ⟨m, ⟨h1, h3, h2⟩, h4⟩ := h
    unfold pick2 at h4
    have hNB : NB = 1073741825 := rfl
    split at h4
    ·rename_i hm
     obtain ⟨rfl, rfl⟩ := Prod.mk.inj h4
     rcases h3 with h3 | h3
     ·omega
     ·simp only [bkP, decide_eq_false_iff_not] at h3
      have e2 : ((m - 1 : Nat) : Int) = 1073741824 := by omega
      rw [e2] at h3
      exact .inr (.inr (.inr (.inl ⟨rfl, rfl, q.1, q.2, hg, hw0, by omega⟩)))
    ·rename_i hm
     obtain ⟨rfl, rfl⟩ := Prod.mk.inj h4
     refine .inr (.inr (.inr (.inr ⟨rfl, q.1, q.2, hg, hw0, by omega, by omega, ?_, fun hx => ?_⟩)))
     ·rcases h2 with h2 | h2
      ·exact absurd h2 hm
      ·simpa [bkP] using h2
     ·rcases h3 with h3 | h3
      ·omega
      ·simp only [bkP, decide_eq_false_iff_not] at h3
       have e2 : ((m - 1 : Nat) : Int) = (m : Int) - 1 := by omega
       rw [e2] at h3
       omega
   ·obtain ⟨rfl, rfl⟩ := Prod.mk.inj h; exact .inr (.inr (.inl ⟨rfl, rfl⟩))
  ·obtain ⟨rfl, rfl⟩ := Prod.mk.inj h; exact .inr (.inl ⟨rfl, rfl⟩)
 ·obtain ⟨rfl, rfl⟩ := Prod.mk.inj h; exact .inl ⟨rfl, rfl⟩
noncomputable section
section
variable {kn : Kn} {lo : Nat} {H : Hp}
set_option maxRecDepth 100000 in
set_option maxHeartbeats 4000000 in
theorem law_enough (s : Snd Try.prog kn) (hkn : kn.b 11 = some true) {us : List Pr} {sa : Option Addr} {n cap : Nat} {adv : Int} (hs : Sl H sa n cap (prc us)) (hl : us.length = n) {ds : List Dl} {la : Option Addr} {m capl : Nat} (hd : Sl H la m capl (dlc ds)) (hm : ds.length = m) {gr wanted : Int} (hlo : lo ≤ H.next) : FnC Try.prog lo 8 [.agg #[.slice sa n cap, iv adv], .slice la m capl, iv gr, iv wanted] H fun v _ => v = .bool true := by
 refine fnC_low s Try.func8 B8 N8 Z8 L8 (by simp) ?_
 have hk := Keep.refl H []
 have fs := hs.old
 have fd := hd.old
 refine wM_seq <| wM_box (v := .agg #[.slice sa n cap, iv adv]) rfl ?_
 intro H1 kH1 nH1 c1
 have c1 : Cl H1 H.next [.slice sa n cap, iv adv] := c1
 have mH1 := kH1.1
 have hk := hk.trans kH1
 have hs := kH1.sl0 hs
 have hd := kH1.sl0 hd
 refine wM_mov (v := .bool false) rfl <| wM_end <| wM_seq <| wM_lda (b := H.next) (o := 0) rfl c1.rd (show row 2 _ _ = some [.slice sa n cap, iv adv] from rfl) <| wM_mov (v := .slice la m capl) rfl <| wM_callB s rfl (many_ok (sa := sa) (n := n) (cap := cap) (adv := adv) (la := la) (m := m) (capl := capl)) ?_
 intro tH2 H2 hH2 kH2
 have mH2 := kH2.1
 have hk := hk.trans kH2
 have hs := kH2.sl0 hs
 have hd := kH2.sl0 hd
 have c1 := kH2.cl c1 (by simp)
 cases tH2
 ·have hmany : n ≤ 12 ∧ m ≤ 132 := by have q : manyB n m = false := hH2; unfold manyB at q; simp at q; omega
  have hn : n ≤ 1000000 := by omega
  refine wM_end <| condF ?_
  first | refine wM_skip ?_ | skip
  refine wM_seq <| wM_lda (b := H.next) (o := 0) rfl c1.rd (show row 2 _ _ = some [.slice sa n cap, iv adv] from rfl) <| wM_mov (v := .slice la m capl) rfl <| wM_mov (v := iv gr) rfl <| wM_mov (v := iv wanted) rfl <| wM_call (t := .fn (.func 20) #[]) rfl (callM_args s.hN (Break_ok (H := H2) s (adv := adv) hs hl hn hd hm (by omega) (by omega) (gr := gr) (wanted := wanted))) ?_
  rintro _ H3 ⟨x1, e1, rfl, h1, kH3⟩
  have mH3 := kH3.1
  have hk := hk.trans kH3
  have hs := kH3.sl0 hs
  have hd := kH3.sl0 hd
  have c1 := kH3.cl c1 (by simp)
  rcases enough_cases h1 with ⟨rfl, rfl⟩ | ⟨rfl, rfl⟩ | ⟨rfl, rfl⟩ | ⟨rfl, rfl, hv, hvd, hg, hw0, hlt⟩ | ⟨rfl, hv, hvd, hg, hw0, hx0, hx1, hge, hlt⟩
  ·refine wM_mov (v := .tuple #[iv 0, iv 1]) rfl <| wM_pur (v := iv 0) rfl (by kernel_rfl) <| wM_pur (v := iv 1) rfl (by kernel_rfl) <| wM_mov (v := iv 0) rfl <| wM_mov (v := iv 1) rfl <| wM_end <| wM_seq <| wM_mov (v := iv 1) rfl <| wM_b_eql (a := 1) (b := 1) rfl rfl ?_
   intro t1 g1; obtain rfl : t1 = true := by rw [← g1]; rfl
   refine wM_mov (v := .bool true) rfl <| wM_gs rfl <| wM_gs rfl <| wM_pur (v := .bool true) rfl rfl <| wM_mov (v := .bool true) rfl <| wM_gs rfl <| wM_gs rfl <| wM_pur (v := .bool true) rfl rfl <| wM_end <| condT <| wM_seq <| wM_mov (v := iv 0) rfl ?_
   refine wM_b_eql (a := 0) (b := 0) rfl rfl ?_
   intro t2 g2; obtain rfl : t2 = true := by rw [← g2]; rfl
   refine wM_mov (v := .bool true) rfl ?_
   refine wM_g rfl (wM_callf s (vs := []) rfl (callX_known hkn) ?_)
   refine wM_pur (v := .bool true) rfl rfl <| wM_mov (v := .bool true) rfl <| wM_end ?_
   exact And.intro trivial (Exists.intro _ (And.intro rfl rfl))
  ·refine wM_mov (v := .tuple #[iv 0, iv 4]) rfl <| wM_pur (v := iv 0) rfl (by kernel_rfl) <| wM_pur (v := iv 4) rfl (by kernel_rfl) <| wM_mov (v := iv 0) rfl <| wM_mov (v := iv 4) rfl <| wM_end <| wM_seq <| wM_mov (v := iv 4) rfl <| wM_b_eql (a := 4) (b := 1) rfl rfl ?_
   intro t3 g3; obtain rfl : t3 = false := by rw [← g3]; rfl
   refine wM_mov (v := .bool false) rfl ?_
   refine wM_g rfl (wM_mov (v := iv 4) rfl ?_)
   refine wM_g rfl (wM_b_eql (a := 4) (b := 2) rfl rfl ?_)
   intro t4 g4; obtain rfl : t4 = false := by rw [← g4]; rfl
   refine wM_pur (v := .bool false) rfl rfl <| wM_mov (v := .bool false) rfl ?_
   refine wM_g rfl (wM_mov (v := iv 4) rfl ?_)
   refine wM_g rfl (wM_b_eql (a := 4) (b := 4) rfl rfl ?_)
   intro t5 g5; obtain rfl : t5 = true := by rw [← g5]; rfl
   refine wM_pur (v := .bool true) rfl rfl <| wM_end <| condT <| wM_seq <| wM_mov (v := iv 0) rfl <| wM_b_eql (a := 0) (b := 0) rfl rfl ?_
   intro t6 g6; obtain rfl : t6 = true := by rw [← g6]; rfl
   refine wM_mov (v := .bool true) rfl ?_
   refine wM_g rfl (wM_callf s (vs := []) rfl (callX_known hkn) ?_)
   refine wM_pur (v := .bool true) rfl rfl <| wM_mov (v := .bool true) rfl <| wM_end ?_
   exact And.intro trivial (Exists.intro _ (And.intro rfl rfl))
  ·refine wM_mov (v := .tuple #[iv 0, iv 2]) rfl <| wM_pur (v := iv 0) rfl (by kernel_rfl) <| wM_pur (v := iv 2) rfl (by kernel_rfl) <| wM_mov (v := iv 0) rfl <| wM_mov (v := iv 2) rfl <| wM_end <| wM_seq <| wM_mov (v := iv 2) rfl <| wM_b_eql (a := 2) (b := 1) rfl rfl ?_
   intro t7 g7; obtain rfl : t7 = false := by rw [← g7]; rfl
   refine wM_mov (v := .bool false) rfl ?_
   refine wM_g rfl (wM_mov (v := iv 2) rfl ?_)
   refine wM_g rfl (wM_b_eql (a := 2) (b := 2) rfl rfl ?_)
   intro t8 g8; obtain rfl : t8 = true := by rw [← g8]; rfl
   refine wM_pur (v := .bool true) rfl rfl <| wM_mov (v := .bool true) rfl <| wM_gs rfl <| wM_gs rfl <| wM_pur (v := .bool true) rfl rfl <| wM_end <| condT <| wM_seq <| wM_mov (v := iv 0) rfl <| wM_b_eql (a := 0) (b := 0) rfl rfl ?_
   intro t9 g9; obtain rfl : t9 = true := by rw [← g9]; rfl
   refine wM_mov (v := .bool true) rfl ?_
   refine wM_g rfl (wM_callf s (vs := []) rfl (callX_known hkn) ?_)
   refine wM_pur (v := .bool true) rfl rfl <| wM_mov (v := .bool true) rfl <| wM_end ?_
   exact And.intro trivial (Exists.intro _ (And.intro rfl rfl))
  ·refine wM_mov (v := .tuple #[iv 0, iv 10]) rfl <| wM_pur (v := iv 0) rfl (by kernel_rfl) <| wM_pur (v := iv 10) rfl (by kernel_rfl) <| wM_mov (v := iv 0) rfl <| wM_mov (v := iv 10) rfl <| wM_end <| wM_seq <| wM_mov (v := iv 10) rfl <| wM_b_eql (a := 10) (b := 1) rfl rfl ?_
   intro t10 g10; obtain rfl : t10 = false := by rw [← g10]; rfl
   refine wM_mov (v := .bool false) rfl ?_
   refine wM_g rfl (wM_mov (v := iv 10) rfl ?_)
   refine wM_g rfl (wM_b_eql (a := 10) (b := 2) rfl rfl ?_)
   intro t11 g11; obtain rfl : t11 = false := by rw [← g11]; rfl
   refine wM_pur (v := .bool false) rfl rfl <| wM_mov (v := .bool false) rfl ?_
   refine wM_g rfl (wM_mov (v := iv 10) rfl ?_)
   refine wM_g rfl (wM_b_eql (a := 10) (b := 4) rfl rfl ?_)
   intro t12 g12; obtain rfl : t12 = false := by rw [← g12]; rfl
   refine wM_pur (v := .bool false) rfl rfl <| wM_end <| condF ?_
   first | refine wM_skip ?_ | skip
   refine wM_seq <| wM_mov (v := iv 10) rfl <| wM_b_neq (a := 10) (b := 0) rfl rfl ?_
   intro t13 g13; obtain rfl : t13 = true := by rw [← g13]; rfl
   refine wM_mov (v := .bool true) rfl ?_
   refine wM_g rfl (wM_mov (v := iv 10) rfl ?_)
   refine wM_g rfl (wM_b_neq (a := 10) (b := 10) rfl rfl ?_)
   intro t14 g14; obtain rfl : t14 = false := by rw [← g14]; rfl
   refine wM_pur (v := .bool false) rfl rfl <| wM_mov (v := .bool false) rfl ?_
   refine wM_g rfl (wM_mov (v := iv wanted) rfl ?_)
   refine wM_g rfl (wM_b_lss (a := wanted) (b := 0) rfl rfl ?_)
   intro t15 g15; cases t15
   ·have g15 : ¬ (wanted < 0) := of_decide_eq_false g15
    refine wM_pur (v := .bool false) rfl rfl <| wM_mov (v := .bool false) rfl ?_
    refine wM_g rfl (wM_mov (v := iv 0) rfl ?_)
    refine wM_g rfl (wM_b_lss (a := 0) (b := 0) rfl rfl ?_)
    intro t16 g16; obtain rfl : t16 = false := by rw [← g16]; rfl
    refine wM_pur (v := .bool false) rfl rfl <| wM_mov (v := .bool false) rfl ?_
    refine wM_g rfl (wM_mov (v := iv 0) rfl ?_)
    refine wM_g rfl (wM_b_gtr (a := 0) (b := 1073741824) rfl rfl ?_)
    intro t17 g17; obtain rfl : t17 = false := by rw [← g17]; rfl
    refine wM_pur (v := .bool false) rfl rfl <| wM_mov (v := .bool false) rfl ?_
    refine wM_g rfl (wM_mov (v := iv 10) rfl ?_)
    refine wM_g rfl (wM_b_neq (a := 10) (b := 0) rfl rfl ?_)
    intro t18 g18; obtain rfl : t18 = true := by rw [← g18]; rfl
    refine wM_g rfl (wM_mov (v := .bool true) rfl ?_)
    refine wM_g rfl (wM_mov (v := iv 0) rfl ?_)
    refine wM_g rfl (wM_b_neq (a := 0) (b := 0) rfl rfl ?_)
    intro t19 g19; obtain rfl : t19 = false := by rw [← g19]; rfl
    refine wM_g rfl (wM_pur (v := .bool false) rfl rfl ?_)
    refine wM_pur (v := .bool false) rfl rfl <| wM_end <| condF ?_
    first | refine wM_skip ?_ | skip
    refine wM_seq <| wM_mov (v := iv 0) rfl <| wM_mov (v := iv 0) rfl <| wM_end <| wM_seq <| wM_mov (v := iv 10) rfl <| wM_c_neq (a := 10) (b := 0) rfl rfl <| wM_end <| condT <| wM_seq <| wM_mov (v := iv 1073741824) rfl <| wM_end ?_
    refine wM_seq <| wM_lda (b := H.next) (o := 0) rfl c1.rd (show row 2 _ _ = some [.slice sa n cap, iv adv] from rfl) <| wM_mov (v := .slice la m capl) rfl <| wM_mov (v := iv 1073741824) rfl <| wM_call (t := .fn (.func 18) #[]) rfl (callM_args s.hN (Settle_ok (H := H3) s (adv := adv) hs hl hn hd hm (by omega) (by omega) (rev := 1073741824))) ?_
    rintro _ H4 ⟨pva, rfl, haa, kH4⟩
    have mH4 := kH4.1
    have hk := hk.trans kH4
    have hs := kH4.sl0 hs
    have hd := kH4.sl0 hd
    have c1 := kH4.cl c1 (by simp)
    obtain ⟨paa, capa, rfl, hpa, _⟩ := haa.sl
    have fpa := hpa.old
    obtain ⟨hla, hea⟩ := stL_ok (us := us) (adv := adv) (ds := ds) (rev := 1073741824) hv hvd (by omega) (by omega)
    have hga : gr ∈ stL us adv ds 1073741824 := by rw [hla]; exact hg
    refine wM_mov (v := .tuple #[.slice paa ((stL us adv ds 1073741824).length) capa, iv (stK us adv ds 1073741824), iv (stE us adv ds 1073741824)]) rfl <| wM_pur (v := .slice paa ((stL us adv ds 1073741824).length) capa) rfl (by kernel_rfl) <| wM_pur (v := iv (stK us adv ds 1073741824)) rfl (by kernel_rfl) <| wM_pur (v := iv (stE us adv ds 1073741824)) rfl (by kernel_rfl) <| wM_mov (v := .slice paa ((stL us adv ds 1073741824).length) capa) rfl <| wM_mov (v := iv (stK us adv ds 1073741824)) rfl <| wM_mov (v := iv (stE us adv ds 1073741824)) rfl <| wM_end <| wM_seq <| wM_mov (v := .slice paa ((stL us adv ds 1073741824).length) capa) rfl <| wM_mov (v := iv gr) rfl ?_
    obtain ⟨H5, fH5, kH5⟩ := find_ok (kn := kn) (lo := lo) (H := H4) (g := gr) hpa (Nat.le_trans stL_len (by omega)) (by omega)
    rw [if_pos hga, decide_eq_true hga] at fH5
    refine wM_callf s (vs := [.slice paa ((stL us adv ds 1073741824).length) capa, iv gr]) rfl (callX_args fH5) ?_
    have mH5 := kH5.1
    have hk := hk.trans kH5
    have hs := kH5.sl0 hs
    have hd := kH5.sl0 hd
    have c1 := kH5.cl c1 (by simp)
    have hpa := kH5.sl0 hpa
    refine wM_mov (v := .tuple #[payV us adv ds 1073741824 gr, .bool true]) rfl <| wM_pur (v := payV us adv ds 1073741824 gr) rfl (by kernel_rfl) <| wM_pur (v := .bool true) rfl (by kernel_rfl) <| wM_alc ?_
    intro H6 kH6 nH6 c6
    have c6 : Cl H6 H5.next [iv 0, iv 0, iv 0, iv 0, iv 0] := c6
    have mH6 := kH6.1
    have hk := hk.trans kH6
    have hs := kH6.sl0 hs
    have hd := kH6.sl0 hd
    have c1 := kH6.cl c1 (by simp)
    refine wM_sta (b := H5.next) (o := 0) rfl rfl c6 (by omega) rfl rfl (by simp) ?_
    intro H7 kH7 nH7 sH7
    have mH7 := kH7.1
    have hk := hk.new kH7 (fun b hb => by simp at hb ⊢; omega)
    have hs := kH7.sl hs (fun b e => by have := fs b e; first | (simp; done) | (simp; omega))
    have hd := kH7.sl hd (fun b e => by have := fd b e; first | (simp; done) | (simp; omega))
    have c1 := kH7.cl c1 (by first | (simp; done) | (simp; omega))
    have c6 : Cl H7 H5.next [iv gr, iv (hwS us ds gr ds.length), iv (haS us adv ds gr ds.length), iv (shr 1073741824 (hwS us ds gr ds.length) (tW us ds ds.length)), iv ((shr 1073741824 (hwS us ds gr ds.length) (tW us ds ds.length)) - (haS us adv ds gr ds.length))] := sH7
    refine wM_mov (v := .bool true) rfl <| wM_end <| wM_seq <| wM_mov (v := iv (stE us adv ds 1073741824)) rfl <| wM_b_neq (a := (stE us adv ds 1073741824)) (b := 0) rfl rfl ?_
    intro t20 g20; cases t20
    ·have g20 : ¬ ((stE us adv ds 1073741824) ≠ 0) := by simpa using g20
     refine wM_mov (v := .bool false) rfl ?_
     refine wM_g rfl (wM_mov (v := .bool true) rfl ?_)
     refine wM_g rfl (wM_pur (v := .bool false) rfl rfl ?_)
     refine wM_pur (v := .bool false) rfl rfl <| wM_mov (v := .bool false) rfl ?_
     refine wM_g rfl (wM_addo (b := H5.next) (o := 0) rfl ?_)
     refine wM_g rfl (wM_ld (b := H5.next) (o := 3) (v := iv (shr 1073741824 (hwS us ds gr ds.length) (tW us ds ds.length))) rfl c6.rd rfl ?_)
     refine wM_g rfl (wM_mov (v := iv wanted) rfl ?_)
     refine wM_g rfl (wM_b_geq (a := (shr 1073741824 (hwS us ds gr ds.length) (tW us ds ds.length))) (b := wanted) rfl rfl ?_)
     intro t21 g21; cases t21
     ·have g21 : ¬ ((shr 1073741824 (hwS us ds gr ds.length) (tW us ds ds.length)) ≥ wanted) := of_decide_eq_false g21
      refine wM_g rfl (wM_mov (v := iv 10) rfl ?_)
      refine wM_g rfl (wM_b_eql (a := 10) (b := 0) rfl rfl ?_)
      intro t22 g22; obtain rfl : t22 = false := by rw [← g22]; rfl
      refine wM_g rfl (wM_pur (v := .bool false) rfl (by kernel_rfl) ?_)
      refine wM_pur (v := .bool false) rfl rfl <| wM_end <| condF ?_
      first | refine wM_skip ?_ | skip
      refine wM_seq <| wM_mov (v := iv 10) rfl <| wM_b_neq (a := 10) (b := 0) rfl rfl ?_
      intro t23 g23; obtain rfl : t23 = true := by rw [← g23]; rfl
      refine wM_mov (v := .bool true) rfl <| wM_gs rfl <| wM_gs rfl <| wM_pur (v := .bool true) rfl rfl <| wM_end <| condT <| wM_seq <| wM_callf s (vs := []) rfl (callX_known hkn) <| wM_mov (v := .bool true) rfl <| wM_end ?_
      exact And.intro trivial (Exists.intro _ (And.intro rfl rfl))
     ·have g21 : (shr 1073741824 (hwS us ds gr ds.length) (tW us ds ds.length)) ≥ wanted := of_decide_eq_true g21
      omega
    ·have g20 : (stE us adv ds 1073741824) ≠ 0 := by simpa using g20
     omega
   ·have g15 : wanted < 0 := of_decide_eq_true g15
    omega
  ·refine wM_mov (v := .tuple #[iv x1, iv 0]) rfl <| wM_pur (v := iv x1) rfl (by kernel_rfl) <| wM_pur (v := iv 0) rfl (by kernel_rfl) <| wM_mov (v := iv x1) rfl <| wM_mov (v := iv 0) rfl <| wM_end <| wM_seq <| wM_mov (v := iv 0) rfl <| wM_b_eql (a := 0) (b := 1) rfl rfl ?_
   intro t24 g24; obtain rfl : t24 = false := by rw [← g24]; rfl
   refine wM_mov (v := .bool false) rfl ?_
   refine wM_g rfl (wM_mov (v := iv 0) rfl ?_)
   refine wM_g rfl (wM_b_eql (a := 0) (b := 2) rfl rfl ?_)
   intro t25 g25; obtain rfl : t25 = false := by rw [← g25]; rfl
   refine wM_pur (v := .bool false) rfl rfl <| wM_mov (v := .bool false) rfl ?_
   refine wM_g rfl (wM_mov (v := iv 0) rfl ?_)
   refine wM_g rfl (wM_b_eql (a := 0) (b := 4) rfl rfl ?_)
   intro t26 g26; obtain rfl : t26 = false := by rw [← g26]; rfl
   refine wM_pur (v := .bool false) rfl rfl <| wM_end <| condF ?_
   first | refine wM_skip ?_ | skip
   refine wM_seq <| wM_mov (v := iv 0) rfl <| wM_b_neq (a := 0) (b := 0) rfl rfl ?_
   intro t27 g27; obtain rfl : t27 = false := by rw [← g27]; rfl
   refine wM_mov (v := .bool false) rfl <| wM_gs rfl <| wM_gs rfl <| wM_pur (v := .bool false) rfl rfl <| wM_mov (v := .bool false) rfl ?_
   refine wM_g rfl (wM_mov (v := iv wanted) rfl ?_)
   refine wM_g rfl (wM_b_lss (a := wanted) (b := 0) rfl rfl ?_)
   intro t28 g28; cases t28
   ·have g28 : ¬ (wanted < 0) := of_decide_eq_false g28
    refine wM_pur (v := .bool false) rfl rfl <| wM_mov (v := .bool false) rfl ?_
    refine wM_g rfl (wM_mov (v := iv x1) rfl ?_)
    refine wM_g rfl (wM_b_lss (a := x1) (b := 0) rfl rfl ?_)
    intro t29 g29; cases t29
    ·have g29 : ¬ (x1 < 0) := of_decide_eq_false g29
     refine wM_pur (v := .bool false) rfl rfl <| wM_mov (v := .bool false) rfl ?_
     refine wM_g rfl (wM_mov (v := iv x1) rfl ?_)
     refine wM_g rfl (wM_b_gtr (a := x1) (b := 1073741824) rfl rfl ?_)
     intro t30 g30; cases t30
     ·have g30 : ¬ (x1 > 1073741824) := of_decide_eq_false g30
      refine wM_pur (v := .bool false) rfl rfl <| wM_mov (v := .bool false) rfl ?_
      refine wM_g rfl (wM_mov (v := iv 0) rfl ?_)
      refine wM_g rfl (wM_b_neq (a := 0) (b := 0) rfl rfl ?_)
      intro t31 g31; obtain rfl : t31 = false := by rw [← g31]; rfl
      refine wM_g rfl (wM_mov (v := .bool false) rfl ?_)
      refine wM_gs rfl <| wM_gs rfl ?_
      refine wM_g rfl (wM_pur (v := .bool false) rfl rfl ?_)
      refine wM_pur (v := .bool false) rfl rfl <| wM_end <| condF ?_
      first | refine wM_skip ?_ | skip
      refine wM_seq <| wM_mov (v := iv x1) rfl <| wM_mov (v := iv x1) rfl <| wM_end <| wM_seq <| wM_mov (v := iv 0) rfl <| wM_c_neq (a := 0) (b := 0) rfl rfl <| wM_end <| condF ?_
      first | refine wM_skip ?_ | skip
      refine wM_seq <| wM_lda (b := H.next) (o := 0) rfl c1.rd (show row 2 _ _ = some [.slice sa n cap, iv adv] from rfl) <| wM_mov (v := .slice la m capl) rfl <| wM_mov (v := iv x1) rfl <| wM_call (t := .fn (.func 18) #[]) rfl (callM_args s.hN (Settle_ok (H := H3) s (adv := adv) hs hl hn hd hm (by omega) (by omega) (rev := x1))) ?_
      rintro _ H8 ⟨pva, rfl, haa, kH8⟩
      have mH8 := kH8.1
      have hk := hk.trans kH8
      have hs := kH8.sl0 hs
      have hd := kH8.sl0 hd
      have c1 := kH8.cl c1 (by simp)
      obtain ⟨paa, capa, rfl, hpa, _⟩ := haa.sl
      have fpa := hpa.old
      obtain ⟨hla, hea⟩ := stL_ok (us := us) (adv := adv) (ds := ds) (rev := x1) hv hvd (by omega) (by omega)
      have hga : gr ∈ stL us adv ds x1 := by rw [hla]; exact hg
      refine wM_mov (v := .tuple #[.slice paa ((stL us adv ds x1).length) capa, iv (stK us adv ds x1), iv (stE us adv ds x1)]) rfl <| wM_pur (v := .slice paa ((stL us adv ds x1).length) capa) rfl (by kernel_rfl) <| wM_pur (v := iv (stK us adv ds x1)) rfl (by kernel_rfl) <| wM_pur (v := iv (stE us adv ds x1)) rfl (by kernel_rfl) <| wM_mov (v := .slice paa ((stL us adv ds x1).length) capa) rfl <| wM_mov (v := iv (stK us adv ds x1)) rfl <| wM_mov (v := iv (stE us adv ds x1)) rfl <| wM_end <| wM_seq <| wM_mov (v := .slice paa ((stL us adv ds x1).length) capa) rfl <| wM_mov (v := iv gr) rfl ?_
      obtain ⟨H9, fH9, kH9⟩ := find_ok (kn := kn) (lo := lo) (H := H8) (g := gr) hpa (Nat.le_trans stL_len (by omega)) (by omega)
      rw [if_pos hga, decide_eq_true hga] at fH9
      refine wM_callf s (vs := [.slice paa ((stL us adv ds x1).length) capa, iv gr]) rfl (callX_args fH9) ?_
      have mH9 := kH9.1
      have hk := hk.trans kH9
      have hs := kH9.sl0 hs
      have hd := kH9.sl0 hd
      have c1 := kH9.cl c1 (by simp)
      have hpa := kH9.sl0 hpa
      refine wM_mov (v := .tuple #[payV us adv ds x1 gr, .bool true]) rfl <| wM_pur (v := payV us adv ds x1 gr) rfl (by kernel_rfl) <| wM_pur (v := .bool true) rfl (by kernel_rfl) <| wM_alc ?_
      intro H10 kH10 nH10 c10
      have c10 : Cl H10 H9.next [iv 0, iv 0, iv 0, iv 0, iv 0] := c10
      have mH10 := kH10.1
      have hk := hk.trans kH10
      have hs := kH10.sl0 hs
      have hd := kH10.sl0 hd
      have c1 := kH10.cl c1 (by simp)
      refine wM_sta (b := H9.next) (o := 0) rfl rfl c10 (by omega) rfl rfl (by simp) ?_
      intro H11 kH11 nH11 sH11
      have mH11 := kH11.1
      have hk := hk.new kH11 (fun b hb => by simp at hb ⊢; omega)
      have hs := kH11.sl hs (fun b e => by have := fs b e; first | (simp; done) | (simp; omega))
      have hd := kH11.sl hd (fun b e => by have := fd b e; first | (simp; done) | (simp; omega))
      have c1 := kH11.cl c1 (by first | (simp; done) | (simp; omega))
      have c10 : Cl H11 H9.next [iv gr, iv (hwS us ds gr ds.length), iv (haS us adv ds gr ds.length), iv (shr x1 (hwS us ds gr ds.length) (tW us ds ds.length)), iv ((shr x1 (hwS us ds gr ds.length) (tW us ds ds.length)) - (haS us adv ds gr ds.length))] := sH11
      refine wM_mov (v := .bool true) rfl <| wM_end <| wM_seq <| wM_mov (v := iv (stE us adv ds x1)) rfl <| wM_b_neq (a := (stE us adv ds x1)) (b := 0) rfl rfl ?_
      intro t32 g32; cases t32
      ·have g32 : ¬ ((stE us adv ds x1) ≠ 0) := by simpa using g32
       refine wM_mov (v := .bool false) rfl ?_
       refine wM_g rfl (wM_mov (v := .bool true) rfl ?_)
       refine wM_g rfl (wM_pur (v := .bool false) rfl rfl ?_)
       refine wM_pur (v := .bool false) rfl rfl <| wM_mov (v := .bool false) rfl ?_
       refine wM_g rfl (wM_addo (b := H9.next) (o := 0) rfl ?_)
       refine wM_g rfl (wM_ld (b := H9.next) (o := 3) (v := iv (shr x1 (hwS us ds gr ds.length) (tW us ds ds.length))) rfl c10.rd rfl ?_)
       refine wM_g rfl (wM_mov (v := iv wanted) rfl ?_)
       refine wM_g rfl (wM_b_geq (a := (shr x1 (hwS us ds gr ds.length) (tW us ds ds.length))) (b := wanted) rfl rfl ?_)
       intro t33 g33; cases t33
       ·have g33 : ¬ ((shr x1 (hwS us ds gr ds.length) (tW us ds ds.length)) ≥ wanted) := of_decide_eq_false g33
        omega
       ·have g33 : (shr x1 (hwS us ds gr ds.length) (tW us ds ds.length)) ≥ wanted := of_decide_eq_true g33
        refine wM_g rfl (wM_mov (v := iv 0) rfl ?_)
        refine wM_g rfl (wM_b_eql (a := 0) (b := 0) rfl rfl ?_)
        intro t34 g34; obtain rfl : t34 = true := by rw [← g34]; rfl
        refine wM_g rfl (wM_pur (v := .bool false) rfl (by kernel_rfl) ?_)
        refine wM_pur (v := .bool false) rfl rfl <| wM_end <| condF ?_
        first | refine wM_skip ?_ | skip
        refine wM_seq <| wM_mov (v := iv 0) rfl <| wM_b_neq (a := 0) (b := 0) rfl rfl ?_
        intro t35 g35; obtain rfl : t35 = false := by rw [← g35]; rfl
        refine wM_mov (v := .bool false) rfl ?_
        refine wM_g rfl (wM_mov (v := iv x1) rfl ?_)
        refine wM_g rfl (wM_b_eql (a := x1) (b := 0) rfl rfl ?_)
        intro t36 g36; cases t36
        ·have g36 : ¬ (x1 = 0) := by simpa using g36
         refine wM_pur (v := .bool false) rfl rfl <| wM_end <| condF ?_
         first | refine wM_skip ?_ | skip
         refine wM_seq <| wM_lda (b := H.next) (o := 0) rfl c1.rd (show row 2 _ _ = some [.slice sa n cap, iv adv] from rfl) <| wM_mov (v := .slice la m capl) rfl <| wM_mov (v := iv x1) rfl <| wM_sub (a := x1) (b := 1) rfl rfl ⟨by omega, by omega⟩ <| wM_call (t := .fn (.func 18) #[]) rfl (callM_args s.hN (Settle_ok (H := H11) s (adv := adv) hs hl hn hd hm (by omega) (by omega) (rev := x1 - 1))) ?_
         rintro _ H12 ⟨pvb, rfl, hab, kH12⟩
         have mH12 := kH12.1
         have hk := hk.trans kH12
         have hs := kH12.sl0 hs
         have hd := kH12.sl0 hd
         have c1 := kH12.cl c1 (by simp)
         have c10 := kH12.cl c10 (by simp)
         obtain ⟨pab, capb, rfl, hpb, _⟩ := hab.sl
         have fpb := hpb.old
         obtain ⟨hlb, heb⟩ := stL_ok (us := us) (adv := adv) (ds := ds) (rev := (x1 - 1)) hv hvd (by omega) (by omega)
         have hgb : gr ∈ stL us adv ds (x1 - 1) := by rw [hlb]; exact hg
         have hlt2 := hlt (by omega)
         refine wM_mov (v := .tuple #[.slice pab ((stL us adv ds (x1 - 1)).length) capb, iv (stK us adv ds (x1 - 1)), iv (stE us adv ds (x1 - 1))]) rfl <| wM_pur (v := .slice pab ((stL us adv ds (x1 - 1)).length) capb) rfl (by kernel_rfl) <| wM_pur (v := iv (stK us adv ds (x1 - 1))) rfl (by kernel_rfl) <| wM_pur (v := iv (stE us adv ds (x1 - 1))) rfl (by kernel_rfl) <| wM_mov (v := .slice pab ((stL us adv ds (x1 - 1)).length) capb) rfl <| wM_mov (v := iv (stE us adv ds (x1 - 1))) rfl <| wM_end <| wM_seq <| wM_mov (v := .slice pab ((stL us adv ds (x1 - 1)).length) capb) rfl <| wM_mov (v := iv gr) rfl ?_
         obtain ⟨H13, fH13, kH13⟩ := find_ok (kn := kn) (lo := lo) (H := H12) (g := gr) hpb (Nat.le_trans stL_len (by omega)) (by omega)
         rw [if_pos hgb, decide_eq_true hgb] at fH13
         refine wM_callf s (vs := [.slice pab ((stL us adv ds (x1 - 1)).length) capb, iv gr]) rfl (callX_args fH13) ?_
         have mH13 := kH13.1
         have hk := hk.trans kH13
         have hs := kH13.sl0 hs
         have hd := kH13.sl0 hd
         have c1 := kH13.cl c1 (by simp)
         have c10 := kH13.cl c10 (by simp)
         have hpb := kH13.sl0 hpb
         refine wM_mov (v := .tuple #[payV us adv ds (x1 - 1) gr, .bool true]) rfl <| wM_pur (v := payV us adv ds (x1 - 1) gr) rfl (by kernel_rfl) <| wM_pur (v := .bool true) rfl (by kernel_rfl) <| wM_sta (b := H9.next) (o := 0) rfl rfl c10 (by omega) rfl rfl (by simp) ?_
         intro H14 kH14 nH14 sH14
         have mH14 := kH14.1
         have hk := hk.new kH14 (fun b hb => by simp at hb ⊢; omega)
         have hs := kH14.sl hs (fun b e => by have := fs b e; first | (simp; done) | (simp; omega))
         have hd := kH14.sl hd (fun b e => by have := fd b e; first | (simp; done) | (simp; omega))
         have c1 := kH14.cl c1 (by first | (simp; done) | (simp; omega))
         have c10 : Cl H14 H9.next [iv gr, iv (hwS us ds gr ds.length), iv (haS us adv ds gr ds.length), iv (shr (x1 - 1) (hwS us ds gr ds.length) (tW us ds ds.length)), iv ((shr (x1 - 1) (hwS us ds gr ds.length) (tW us ds ds.length)) - (haS us adv ds gr ds.length))] := sH14
         refine wM_mov (v := .bool true) rfl <| wM_end <| wM_seq <| wM_mov (v := iv (stE us adv ds (x1 - 1))) rfl <| wM_b_eql (a := (stE us adv ds (x1 - 1))) (b := 0) rfl rfl ?_
         intro t37 g37; cases t37
         ·have g37 : ¬ ((stE us adv ds (x1 - 1)) = 0) := by simpa using g37
          omega
         ·have g37 : (stE us adv ds (x1 - 1)) = 0 := by simpa using g37
          refine wM_mov (v := .bool true) rfl ?_
          refine wM_g rfl (wM_mov (v := .bool true) rfl ?_)
          refine wM_pur (v := .bool true) rfl rfl <| wM_mov (v := .bool true) rfl ?_
          refine wM_g rfl (wM_addo (b := H9.next) (o := 0) rfl ?_)
          refine wM_g rfl (wM_ld (b := H9.next) (o := 3) (v := iv (shr (x1 - 1) (hwS us ds gr ds.length) (tW us ds ds.length))) rfl c10.rd rfl ?_)
          refine wM_g rfl (wM_mov (v := iv wanted) rfl ?_)
          refine wM_g rfl (wM_b_lss (a := (shr (x1 - 1) (hwS us ds gr ds.length) (tW us ds ds.length))) (b := wanted) rfl rfl ?_)
          intro t38 g38; cases t38
          ·have g38 : ¬ ((shr (x1 - 1) (hwS us ds gr ds.length) (tW us ds ds.length)) < wanted) := of_decide_eq_false g38
           omega
          ·have g38 : (shr (x1 - 1) (hwS us ds gr ds.length) (tW us ds ds.length)) < wanted := of_decide_eq_true g38
           refine wM_pur (v := .bool true) rfl rfl <| wM_mov (v := .bool true) rfl ?_
           refine wM_g rfl (wM_callf s (vs := []) rfl (callX_known hkn) ?_)
           refine wM_pur (v := .bool true) rfl rfl <| wM_mov (v := .bool true) rfl <| wM_end ?_
           exact And.intro trivial (Exists.intro _ (And.intro rfl rfl))
        ·have g36 : x1 = 0 := by simpa using g36
         refine wM_pur (v := .bool true) rfl rfl <| wM_end <| condT <| wM_seq <| wM_callf s (vs := []) rfl (callX_known hkn) <| wM_mov (v := .bool true) rfl <| wM_end ?_
         exact And.intro trivial (Exists.intro _ (And.intro rfl rfl))
      ·have g32 : (stE us adv ds x1) ≠ 0 := by simpa using g32
       omega
     ·have g30 : x1 > 1073741824 := of_decide_eq_true g30
      omega
    ·have g29 : x1 < 0 := of_decide_eq_true g29
     omega
   ·have g28 : wanted < 0 := of_decide_eq_true g28
    omega
 ·refine wM_end <| condT <| wM_seq <| wM_callf s (vs := []) rfl (callX_known hkn) <| wM_mov (v := .bool true) rfl <| wM_end ?_
  exact And.intro trivial (Exists.intro _ (And.intro rfl rfl))
end
end
end Go.Ax

namespace Go.Ax
open Go Go.RowKit Go.Proofs Go.ChangeShapes Go.WideShapes Go.Deep

def IntT (P : Program) (t : TypeId) : Prop := ∀ (H : Type) (enc : TypeId × Value → H) (w : World) (base : Nat) (spare : Nat → Bool) (held : Bool) (fuel : Nat) (cs : List Value) (x : DataW H × List MemPlace),
 DataW.trod enc P w base spare held fuel t cs = some x → cs.length = P.cellsOf t ∧ ∀ j, j < cs.length → ∃ n, cs[j]? = some (.int .i64 n)
theorem IntT.int {P : Program} {t : TypeId} (ht : P.underlying t = some (.int .i64)) (hc : P.cellsOf t = 1) : IntT P t := by
 intro H enc w base spare held fuel cs x h
 obtain ⟨n, rfl, _⟩ := DataW.trod_int ht h
 refine ⟨by rw [hc]; rfl, fun j hj => ⟨n, ?_⟩⟩
 have : j = 0 := by simp at hj; omega
 subst this; rfl
theorem IntT.struct {P : Program} {t : TypeId} {fs : Array Field} (ht : P.underlying t = some (.struct fs)) (hf : ∀ f ∈ fs.toList, IntT P f.type)
  (hcov : ((List.range (P.cellsOf t)).all fun j => fs.toList.any fun f => decide (f.offset ≤ j) && decide (j < f.offset + P.cellsOf f.type)) = true) : IntT P t := by
 intro H enc w base spare held fuel cs x h
 obtain ⟨xs, n, _, _, hlen, hxl, hg⟩ := DataW.trod_struct ht h
 refine ⟨hlen, fun j hj => ?_⟩
 have h1 := List.all_eq_true.1 hcov j (List.mem_range.2 (by omega))
 obtain ⟨f, hfm, h2⟩ := List.any_eq_true.1 h1
 simp only [Bool.and_eq_true, decide_eq_true_eq] at h2
 obtain ⟨i, hi, hfi⟩ := List.getElem_of_mem hfm
 have hfs : fs[i]? = some f := by
  rw [← Array.getElem?_toList, List.getElem?_eq_getElem hi, hfi]
 have hi2 : i < xs.length := by simpa [hxl] using hi
 have h3 := hg i f hfs
 rw [List.getElem?_eq_getElem hi2] at h3
 obtain ⟨h4, h5⟩ := hf f hfm _ _ _ _ _ _ _ _ _ h3
 obtain ⟨m, hm⟩ := h5 (j - f.offset) (by omega)
 refine ⟨m, ?_⟩
 rw [List.getElem?_take] at hm
 split at hm
 ·rw [List.getElem?_drop, show f.offset + (j - f.offset) = j by omega] at hm; exact hm
 ·cases hm

structure Given {α : Type} (w : World) (v : Value) (f : α → List Value) (l : List α) (x : Imp) : Prop where
 ok : ∀ (i : Nat) u, x.cs[i]? = some u → w.cell? ⟨x.blk, x.off + i, none⟩ = some u ∧ flat1 u = true
 cs : x.cs = l.flatMap f
 v : (v = .slice none 0 0 ∧ l = []) ∨ ∃ cap, v = .slice (some ⟨x.blk, x.off, none⟩) l.length cap ∧ l.length ≤ cap
theorem flat_get {α : Type} {f : α → List Value} {k : Nat} (hk : 0 < k) : ∀ {l : List α} (_ : ∀ x ∈ l, (f x).length = k) (i : Nat) (u : Value), (l.flatMap f)[i]? = some u → ∃ x, l[i / k]? = some x ∧ (f x)[i % k]? = some u
 | [], _, i, u, h => by simp at h
 | y :: r, hl, i, u, h => by
  have hy := hl y (List.mem_cons_self ..)
  rw [List.flatMap_cons, List.getElem?_append] at h
  split at h
  ·rename_i q
   rw [hy] at q
   refine ⟨y, ?_, ?_⟩
   ·rw [Nat.div_eq_of_lt q]; rfl
   ·rw [Nat.mod_eq_of_lt q]; exact h
  ·rename_i q
   rw [hy] at q h
   obtain ⟨x, h1, h2⟩ := flat_get hk (fun x hx => hl x (List.mem_cons_of_mem _ hx)) _ u h
   refine ⟨x, ?_, ?_⟩
   ·rw [Nat.div_eq_sub_div hk (by omega)]; exact h1
   ·rw [Nat.mod_eq_sub_mod (by omega)]; exact h2
theorem slice_given {H : Type} {enc : TypeId × Value → H} {P : Program} {w : World} {base b0 : Nat} {r : Reach} {held : Bool} {α : Type} (f : α → List Value) (mk : (Nat → Int) → α) (k : Nat) {t e : TypeId} {fuel : Nat} {v : Value} {x : DataW H × List MemPlace}
  (ht : P.underlying t = some (.slice e)) (hI : IntT P e) (hc : P.cellsOf e = k) (hk : 0 < k) (hmk : ∀ N : Nat → Int, f (mk N) = (List.range k).map fun j => Value.int .i64 (N j))
  (hok : Cell.okWide P w r b0 t v) (h : DataW.trod enc P w base (fun _ => true) held fuel t [v] = some x) : ∃ (l : List α) (y : Imp), Given w v f l y := by
 rcases open_slice ht h with ⟨h0, _⟩ | ⟨a, len, cap, m, n, D, Pl, hcs, hb, hl, hm, hmm, hx, hi⟩
 ·cases h0
  exact ⟨[], ⟨0, 0, []⟩, fun i u e => by simp at e, rfl, .inl ⟨rfl, rfl⟩⟩
 ·cases hcs
  obtain ⟨blk, off, spot⟩ := a
  have hs : spot = none := by
   unfold Cell.okWide at hok
   rw [ht] at hok
   unfold Cell.ok at hok
   simp only [ht] at hok
   exact hok.2.2.2.1
  subst hs
  simp only [if_true] at hmm
  subst hmm
  have hcell : ∀ i, i < len → ∀ j, j < k → ∃ n, w.cell? ⟨blk, off + (i * k + j), none⟩ = some (.int .i64 n) := by
   intro i hil j hj
   obtain ⟨cs', h1, h2⟩ := hi i (by omega)
   obtain ⟨h3, h4⟩ := hI _ _ _ _ _ _ _ _ _ h2
   obtain ⟨_, h5, h6⟩ := World.cells?_some h1
   obtain ⟨n, hn⟩ := h4 j (by omega)
   refine ⟨n, ?_⟩
   have h7 := h6 j (by omega)
   rw [hn, hc, add_add] at h7
   have e : (⟨blk, off, none⟩ : Addr).add (i * k + j) = ⟨blk, off + (i * k + j), none⟩ := by
    unfold Addr.add
    by_cases q : i * k + j = 0
    ·simp [q]
    ·simp
   rw [e] at h7
   exact h7
  refine ⟨(List.range len).map fun i => mk fun j => match w.cell? ⟨blk, off + (i * k + j), none⟩ with | some (.int _ n) => n | _ => 0, ⟨blk, off, _⟩, ?_, rfl, .inr ⟨m, by simp, by simpa using hl⟩⟩
  intro i u hu
  obtain ⟨y, h1, h2⟩ := flat_get hk (fun y hy => by
   obtain ⟨i, _, rfl⟩ := List.mem_map.1 hy
   rw [hmk]; simp) i u hu
  have hlt : i / k < len := by
   have := get_lt h1
   simpa using this
  rw [List.getElem?_map, List.getElem?_range hlt] at h1
  simp only [Option.map_some, Option.some.injEq] at h1
  subst h1
  have hj : i % k < k := Nat.mod_lt _ hk
  rw [hmk, List.getElem?_map, List.getElem?_range hj] at h2
  simp only [Option.map_some, Option.some.injEq] at h2
  obtain ⟨n, hn⟩ := hcell _ hlt _ hj
  rw [hn] at h2
  subst h2
  rw [Nat.div_add_mod' ] at hn
  exact ⟨hn, rfl⟩
theorem Given.rel {α : Type} {w : World} {v : Value} {f : α → List Value} {l : List α} {x : Imp} (g : Given w v f l x) {r : Ren} {H : Hp} {b : Nat} (hr : r b = some ⟨x.blk, x.off, none⟩) (hb : b < H.next) (hc : cellsOf H b = some x.cs) (hro : H.t.get b = some (.ro x.cs)) :
  ∃ a cap, VR r (.slice a l.length cap) v ∧ Sl H a l.length cap (l.flatMap f) ∧ ∀ b, a = some ⟨b, 0, none⟩ → H.t.get b = some (.ro (l.flatMap f)) := by
 rcases g.v with ⟨rfl, rfl⟩ | ⟨cap, rfl, hl⟩
 ·exact ⟨none, 0, .nilSlice, .inl ⟨.inl rfl, rfl, rfl, rfl⟩, fun b e => by cases e⟩
 ·refine ⟨some ⟨b, 0, none⟩, cap, ?_, .inr ⟨b, rfl, ⟨hb, by rw [hc, g.cs]⟩, hl⟩, fun b' e => by cases e; rw [hro, g.cs]⟩
  have := VR.slice (o := 0) (n := l.length) (c := cap) hr rfl hl
  simpa using this
end Go.Ax

/-! Slices of rows of plain cells, as arguments. -/
namespace Go.Ax
open Go Go.RowKit Go.Proofs Go.ChangeShapes Go.WideShapes Go.Deep

theorem IntT.row {α : Type} {P : Program} {t : TypeId} {k : Nat} {f : α → List Value} {mk : (Nat → Int) → α} (h : IntT P t) (hc : P.cellsOf t = k) (hmk : ∀ N : Nat → Int, f (mk N) = (List.range k).map fun j => Value.int .i64 (N j))
  {H : Type} {enc : TypeId × Value → H} {w : World} {base : Nat} {spare : Nat → Bool} {held : Bool} (fuel : Nat) (cs : List Value) (x : DataW H × List MemPlace) (hx : DataW.trod enc P w base spare held fuel t cs = some x) : ∃ y : α, cs = f y ∧ True := by
 obtain ⟨h1, h2⟩ := h _ _ _ _ _ _ _ _ _ hx
 have : ∃ N : Nat → Int, ∀ j, j < cs.length → cs[j]? = some (.int .i64 (N j)) := by
  refine ⟨fun j => match cs[j]? with | some (.int _ n) => n | _ => 0, fun j hj => ?_⟩
  obtain ⟨n, hn⟩ := h2 j hj
  simp [hn]
 obtain ⟨N, hN⟩ := this
 refine ⟨mk N, ?_, trivial⟩
 rw [hmk]
 apply List.ext_getElem?
 intro j
 by_cases hj : j < k
 ·rw [hN j (by omega), List.getElem?_map, List.getElem?_range hj]; rfl
 ·rw [List.getElem?_eq_none (by omega), List.getElem?_eq_none (by simp; omega)]
end Go.Ax

/-! Arguments that point to what points: inner slices, rows of slices. -/
namespace Go.Ax
open Go Go.RowKit Go.Proofs Go.ChangeShapes Go.WideShapes Go.Deep

def renOf (imps : List Imp) : Ren := fun b => (imps[b]?).map fun x => ⟨x.blk, x.off, none⟩
theorem imports3 {P : Program} (imps outs : List Imp) (w : World) (h : ∀ x ∈ imps, ∀ (i : Nat) v, x.cs[i]? = some v → w.cell? ⟨x.blk, x.off + i, none⟩ = some v ∧ flat1 v = true)
  (hcs : ∀ x ∈ outs, ∀ (i : Nat) v, x.cs[i]? = some v → ∃ v', w.cell? ⟨x.blk, x.off + i, none⟩ = some v' ∧ VR (renOf imps) v v') :
  ∃ (r : Ren) (H : Hp), Rel P r w.heap.size H w ∧ H.next = (imps ++ outs).length ∧ (∀ b loc, r b = some loc → b < H.next) ∧ Ren.Le (renOf imps) r ∧ ∀ (b : Nat) x, (imps ++ outs)[b]? = some x → r b = some ⟨x.blk, x.off, none⟩ ∧ H.t.get b = some (.ro x.cs) := by
 have hall : ∀ x ∈ imps ++ outs, ∀ (i : Nat) v, x.cs[i]? = some v → ∃ v', w.cell? ⟨x.blk, x.off + i, none⟩ = some v' ∧ VR (renOf imps) v v' := by
  intro x hx i v hv
  rcases List.mem_append.1 hx with hx | hx
  ·obtain ⟨h1, h2⟩ := h x hx i v hv
   exact ⟨v, h1, flat1_vr h2⟩
  ·exact hcs x hx i v hv
 obtain ⟨t, ht⟩ := tr_of (fun b => ((imps ++ outs)[b]?).map fun x => .ro x.cs) (imps ++ outs).length
 have hle : Ren.Le (renOf imps) (fun b => ((imps ++ outs)[b]?).map fun x => ⟨x.blk, x.off, none⟩) := fun b loc e => by
  unfold renOf at e
  have hlt : b < imps.length := by
   rcases Nat.lt_or_ge b imps.length with q | q
   ·exact q
   ·rw [List.getElem?_eq_none q] at e; cases e
  show ((imps ++ outs)[b]?).map _ = _
  rw [List.getElem?_append_left hlt]; exact e
 have hr : ∀ (b : Nat) loc, ((imps ++ outs)[b]?).map (fun x => (⟨x.blk, x.off, none⟩ : Loc)) = some loc → ∃ x, (imps ++ outs)[b]? = some x ∧ b < (imps ++ outs).length ∧ loc = ⟨x.blk, x.off, none⟩ ∧ t.get b = some (.ro x.cs) := by
  intro b loc e
  cases hx : (imps ++ outs)[b]? with
  | none => rw [hx] at e; cases e
  | some x =>
   rw [hx] at e
   simp at e
   have hlt := get_lt hx
   exact ⟨x, rfl, hlt, e.symm, by rw [ht, if_pos hlt, hx]; rfl⟩
 have low : ∀ {g o : Nat} {v : Value}, w.cell? ⟨g, o, none⟩ = some v → g < w.heap.size := fun {g o v} hv => by
  unfold World.cell? at hv
  rcases Nat.lt_or_ge g w.heap.size with q | q
  ·exact q
  ·rw [Array.getElem?_eq_none q] at hv; cases hv
 refine ⟨fun b => ((imps ++ outs)[b]?).map fun x => ⟨x.blk, x.off, none⟩, { next := (imps ++ outs).length, t }, ⟨?_, ?_, ?_, Nat.le_refl _⟩, rfl, ?_, hle, ?_⟩
 ·intro b loc e
  obtain ⟨x, hx, hlt, rfl, hg⟩ := hr b loc e
  refine ⟨hlt, ?_⟩
  show Dm _ _ _ (t.get b)
  rw [hg]
  cases hc : x.cs with
  | nil => exact .inl rfl
  | cons v l =>
   obtain ⟨v', h1, _⟩ := hall x (List.mem_of_getElem? hx) 0 v (by rw [hc]; rfl)
   exact .inr (low h1)
 ·intro b loc o e eo
  obtain ⟨x, hx, hlt, rfl, hg⟩ := hr b loc e
  rw [hg] at eo; cases eo
  refine ⟨rfl, fun i v ev => ?_⟩
  obtain ⟨v', h1, h2⟩ := hall x (List.mem_of_getElem? hx) i v ev
  unfold World.cell? at h1
  simp only at h1
  split at h1
  ·rename_i C e' f hC
   exact ⟨C, e', f, v', hC, by simpa using h1, h2.mono hle⟩
  ·cases h1
 ·intro b b' loc loc' e e' _ hl _
  obtain ⟨x, hx, hlt, rfl, hg⟩ := hr b loc e
  obtain ⟨o, h1, h2, h3⟩ := hl
  have : t.get b = some o := h1
  rw [hg] at this; cases this
  cases h3
 ·intro b loc e
  obtain ⟨x, hx, hlt, rfl, hg⟩ := hr b loc e
  exact hlt
 ·intro b x hx
  have hlt := get_lt hx
  refine ⟨by simp only [hx, Option.map_some], ?_⟩
  show t.get b = _
  rw [ht, if_pos hlt, hx]; rfl

structure GivI {α : Type} (w : World) (v : Value) (f : α → List Value) (l : List α) (x : Imp) : Prop where
 ok : ∀ (i : Nat) u, x.cs[i]? = some u → w.cell? ⟨x.blk, x.off + i, none⟩ = some u ∧ flat1 u = true
 cs : x.cs = l.flatMap f
 v : ((v = .slice none 0 0 ∨ ∃ a', v = .slice (some a') 0 0) ∧ l = []) ∨ ∃ cap, v = .slice (some ⟨x.blk, x.off, none⟩) l.length cap ∧ l.length ≤ cap
theorem GivI.rel {α : Type} {w : World} {v : Value} {f : α → List Value} {l : List α} {x : Imp} (g : GivI w v f l x) {r : Ren} {b : Nat} (hr : r b = some ⟨x.blk, x.off, none⟩) :
  ∃ a cap, VR r (.slice a l.length cap) v ∧ (∀ y, a = some ⟨y, 0, none⟩ → y = b) ∧ ∀ H : Hp, b < H.next → H.t.get b = some (.ro x.cs) → Sl H a l.length cap (l.flatMap f) := by
 rcases g.v with ⟨rfl | ⟨a', rfl⟩, rfl⟩ | ⟨cap, rfl, hl⟩
 ·exact ⟨none, 0, .nilSlice, fun y e => by (cases e), fun H _ _ => .inl ⟨.inl rfl, rfl, rfl, rfl⟩⟩
 ·exact ⟨some ⟨0, 0, some 0⟩, 0, .weird, fun y e => by (cases e), fun H _ _ => .inl ⟨.inr rfl, rfl, rfl, rfl⟩⟩
 ·refine ⟨some ⟨b, 0, none⟩, cap, ?_, fun y e => by (cases e; rfl), fun H hb hc => .inr ⟨b, rfl, ⟨hb, by unfold cellsOf; rw [hc, g.cs]⟩, hl⟩⟩
  have := VR.slice (o := 0) (n := l.length) (c := cap) hr rfl hl
  simpa using this
structure RV where
 rv : Value
 l : List Int
 x : Imp
def RV.f (r : RV) : List Value := [r.rv]
def RV.Q (w : World) (r : RV) : Prop := GivI w r.rv (fun n : Int => [iv n]) r.l r.x
end Go.Ax

/-! What is flat as arguments. -/
namespace Go.Ax
open Go Go.RowKit Go.Proofs Go.ChangeShapes Go.WideShapes Go.Deep

theorem imports_flat {P : Program} (pre : List Imp) {w : World} (h : ∀ x ∈ pre, ∀ (i : Nat) v, x.cs[i]? = some v → w.cell? ⟨x.blk, x.off + i, none⟩ = some v ∧ flat1 v = true) :
  ∃ (r : Ren) (H : Hp), Rel P r w.heap.size H w ∧ (∀ b loc, r b = some loc → b < H.next) ∧ (∀ (b : Nat) x, pre[b]? = some x → b < H.next ∧ r b = some ⟨x.blk, x.off, none⟩ ∧ H.t.get b = some (.ro x.cs)) := by
 obtain ⟨r, H, h1, h2, h3, h4, h5⟩ := imports3 (P := P) pre [] w h (fun x hx => by simp at hx)
 refine ⟨r, H, h1, h3, fun b x hx => ?_⟩
 have := get_lt hx
 obtain ⟨a, c⟩ := h5 b x (by simpa using hx)
 exact ⟨by rw [h2]; simpa using this, a, c⟩
end Go.Ax


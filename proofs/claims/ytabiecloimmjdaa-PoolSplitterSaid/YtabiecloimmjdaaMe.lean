import Derived.Test.YtabiecloimmjdaaMd
set_option linter.all false
/-
 Pool: sorting: turning round, parting (written by program).
-/
namespace Go.Ax
open Go Go.RowKit Go.Proofs

noncomputable section
structure Pt (a b i j : Nat) (g : Nat → Int) : Prop where
 lt : ∀ x, a < x → x < i → g x < g a
 ge : ∀ x, j < x → x < b → g a ≤ g x
 ai : a < i
 ij : i ≤ j + 1
 jb : j < b
theorem Pt.up {a b i j : Nat} {g : Nat → Int} (p : Pt a b i j g) (h : i ≤ j) (q : g i < g a) : Pt a b (i + 1) j g :=
 ⟨fun x h1 h2 => by rcases Nat.lt_or_ge x i with c | c; exact p.lt x h1 c; (have : x = i := by omega); rw [this]; exact q, p.ge, by have := p.ai; omega, by omega, p.jb⟩
theorem Pt.down {a b i j : Nat} {g : Nat → Int} (p : Pt a b i j g) (h : i ≤ j) (q : ¬ g j < g a) : Pt a b i (j - 1) g := by
 have h0 := p.ai
 have h1 := p.jb
 refine ⟨p.lt, fun x h1 h2 => ?_, h0, by omega, by omega⟩
 rcases Nat.lt_or_ge j x with c | c
 ·exact p.ge x c h2
 ·have : x = j := by omega
  rw [this]; omega
theorem Pt.swap {a b i j : Nat} {g : Nat → Int} (p : Pt a b i j g) (h : i ≤ j) (q1 : ¬ g i < g a) (q2 : g j < g a) : Pt a b (i + 1) (j - 1) (swp g i j) := by
 have h0 := p.ai
 have h1 := p.jb
 have hij : i ≠ j := by rintro rfl; exact q1 q2
 refine ⟨fun x k1 k2 => ?_, fun x k1 k2 => ?_, by omega, by omega, by omega⟩
 ·rw [swp_n (k := a) (by omega) (by omega)]
  rcases Nat.lt_or_ge x i with c | c
  ·rw [swp_n (by omega) (by omega)]; exact p.lt x k1 c
  ·have : x = i := by omega
   rw [this, swp_l]; exact q2
 ·rw [swp_n (k := a) (by omega) (by omega)]
  rcases Nat.lt_or_ge j x with c | c
  ·rw [swp_n (by omega) (by omega)]; exact p.ge x c k2
  ·have : x = j := by omega
   rw [this, swp_r]; omega
theorem Pt.fin {a b i j : Nat} {g : Nat → Int} (p : Pt a b i j g) (h : j < i) : Par_ (fun x : Int => x) a b j (swp g j a) ∧ a ≤ j := by
 have h0 := p.ai
 have h1 := p.ij
 have h2 := p.jb
 refine ⟨⟨fun x k1 k2 => ?_, fun x k1 k2 => ?_⟩, by omega⟩
 ·show swp g j a x ≤ swp g j a j
  rw [swp_l]
  by_cases c : x = a
  ·subst c; rw [swp_r]; exact Int.le_of_lt (p.lt j (by omega) (by omega))
  ·rw [swp_n (by omega) c]; exact Int.le_of_lt (p.lt x (by omega) (by omega))
 ·show swp g j a j ≤ swp g j a x
  rw [swp_l, swp_n (by omega) (by omega)]
  exact p.ge x k1 k2
theorem Pt.init {a b : Nat} {g : Nat → Int} (h : a < b) : Pt a b (a + 1) (b - 1) g := ⟨fun x h1 h2 => by omega, fun x h1 h2 => by omega, by omega, by omega, by omega⟩
structure Pq (a b i j : Nat) (g : Nat → Int) : Prop where
 le : ∀ x, a < x → x < i → g x ≤ g a
 gt : ∀ x, j < x → x < b → g a < g x
 ai : a < i
 ij : i ≤ j + 1
 jb : j < b
theorem Pq.up {a b i j : Nat} {g : Nat → Int} (p : Pq a b i j g) (h : i ≤ j) (q : ¬ g a < g i) : Pq a b (i + 1) j g :=
 ⟨fun x h1 h2 => by rcases Nat.lt_or_ge x i with c | c; exact p.le x h1 c; (have : x = i := by omega); rw [this]; omega, p.gt, by have := p.ai; omega, by omega, p.jb⟩
theorem Pq.down {a b i j : Nat} {g : Nat → Int} (p : Pq a b i j g) (h : i ≤ j) (q : g a < g j) : Pq a b i (j - 1) g := by
 have h0 := p.ai
 have h1 := p.jb
 refine ⟨p.le, fun x h1 h2 => ?_, h0, by omega, by omega⟩
 rcases Nat.lt_or_ge j x with c | c
 ·exact p.gt x c h2
 ·have : x = j := by omega
  rw [this]; exact q
theorem Pq.swap {a b i j : Nat} {g : Nat → Int} (p : Pq a b i j g) (h : i ≤ j) (q1 : g a < g i) (q2 : ¬ g a < g j) : Pq a b (i + 1) (j - 1) (swp g i j) := by
 have h0 := p.ai
 have h1 := p.jb
 have hij : i ≠ j := by rintro rfl; exact q2 q1
 refine ⟨fun x k1 k2 => ?_, fun x k1 k2 => ?_, by omega, by omega, by omega⟩
 ·rw [swp_n (k := a) (by omega) (by omega)]
  rcases Nat.lt_or_ge x i with c | c
  ·rw [swp_n (by omega) (by omega)]; exact p.le x k1 c
  ·have : x = i := by omega
   rw [this, swp_l]; omega
 ·rw [swp_n (k := a) (by omega) (by omega)]
  rcases Nat.lt_or_ge j x with c | c
  ·rw [swp_n (by omega) (by omega)]; exact p.gt x c k2
  ·have : x = j := by omega
   rw [this, swp_r]; exact q1
theorem Pq.init {a b : Nat} {g : Nat → Int} (h : a < b) : Pq a b (a + 1) (b - 1) g := ⟨fun x h1 h2 => by omega, fun x h1 h2 => by omega, by omega, by omega, by omega⟩
section
variable {kn : Kn} {lo : Nat} {H : Hp}
theorem rev_ok (hlo : lo ≤ H.next) {bd cap n : Nat} {g : Nat → Int} (hlb : lo ≤ bd) (hn : n ≤ 1000000) (hc : Cl H bd (cF n g)) {a b : Nat} (hab : a < b) (hb : b ≤ n) : ∃ H' g', FnX Try.prog kn lo 71 [.slice (some ⟨bd, 0, none⟩) n cap, iv (a : Int), iv (b : Int)] H (.tuple #[]) H' ∧ PRm a b g g' ∧ Keep H H' [bd] ∧ Cl H' bd (cF n g') := by
 have key := fnX_low (kn := kn) (lo := lo) (H := H) (args := [.slice (some ⟨bd, 0, none⟩) n cap, iv (a : Int), iv (b : Int)]) (Q := fun w H' => w = .tuple #[] ∧ ∃ g' : Nat → Int, PRm a b g g' ∧ Keep H H' [bd] ∧ Cl H' bd (cF n g')) Try.func71 B71 N71 Z71 L71 (by simp) ?_
 ·obtain ⟨w, H', h, rfl, g', r⟩ := key; exact ⟨H', g', h, r⟩
 have hk := Keep.refl H [bd]
 refine wN_seq <| wN_mov (v := iv (a : Int)) rfl <| wN_mov (v := iv (a : Int)) rfl <| wN_end <| wN_seq <| wN_mov (v := iv (b : Int)) rfl <| wN_sub (a := (b : Int)) (b := 1) rfl rfl ⟨by omega, by omega⟩ <| wN_mov (v := iv ((b : Int) - 1)) rfl <| wN_end ?_
 refine loop_low (fn := Try.f71) E71_1 N71 L71x1 (fun x : Nat × Nat => [(0, .slice (some ⟨bd, 0, none⟩) n cap), (1, iv (a : Int)), (2, iv (b : Int)), (6, iv (x.1 : Int)), (7, iv (x.2 : Int))])
  (fun k x H' => k = x.2 + 1 - x.1 ∧ a ≤ x.1 ∧ x.1 ≤ x.2 + 1 ∧ x.2 < b ∧ Keep H H' [bd] ∧ ∃ g' : Nat → Int, PRm a b g g' ∧ Cl H' bd (cF n g')) _ (a, b - 1) ⟨rfl, by simp, by simp; omega, by simp; omega, hk, g, PRm.refl _ _ _, hc⟩ ⟨rfl, rfl, rfl, rfl, ivq (by simp; omega), trivial⟩ ?_
 rintro k ⟨i, j⟩ L1 ⟨rfl, ha, hij, hj, hk, g1, hp, hc⟩
 simp only [] at ha hij hj
 refine wN_seq <| wN_mov (v := iv (i : Int)) rfl <| wN_mov (v := iv (j : Int)) rfl <| wN_c_lss (a := (i : Int)) (b := (j : Int)) rfl rfl <| wN_end ?_
 refine And.intro (fun q1 => ?_) (fun q1 => ?_)
 ·have q1 : (i : Int) < (j : Int) := of_decide_eq_true q1
  first | refine wN_skip ?_ | skip
  refine wD_seq <| wD_mov (v := .slice (some ⟨bd, 0, none⟩) n cap) rfl <| wD_mov (v := iv (i : Int)) rfl <| wD_mov (v := .slice (some ⟨bd, 0, none⟩) n cap) rfl <| wD_mov (v := iv (j : Int)) rfl <| wD_mov (v := .slice (some ⟨bd, 0, none⟩) n cap) rfl <| wD_mov (v := iv (j : Int)) rfl <| wD_idx (b := bd) (o := 0) (k := j) (j := (j : Int)) rfl rfl (by omega) (by omega) <| wD_ld (b := bd) (o := 0 + j * 1) (v := iv (g1 j)) rfl hc.rd (cF_at (by omega)) <| wD_mov (v := .slice (some ⟨bd, 0, none⟩) n cap) rfl <| wD_mov (v := iv (i : Int)) rfl <| wD_idx (b := bd) (o := 0) (k := i) (j := (i : Int)) rfl rfl (by omega) (by omega) ?_
  refine wD_ld (b := bd) (o := 0 + i * 1) (v := iv (g1 i)) rfl hc.rd (cF_at (by omega)) <| wD_idx (b := bd) (o := 0) (k := i) (j := (i : Int)) rfl rfl (by omega) (by omega) <| wD_st (b := bd) (o := 0 + i * 1) rfl rfl hc hlb rfl rfl (by rw [cF_len]; omega) ?_
  intro H1 kH1 nH1 sH1
  have mH1 := kH1.1
  have hk := hk.trans kH1
  rw [cF_set (by omega)] at sH1
  have hc := sH1
  refine wD_idx (b := bd) (o := 0) (k := j) (j := (j : Int)) rfl rfl (by omega) (by omega) <| wD_st (b := bd) (o := 0 + j * 1) rfl rfl hc hlb rfl rfl (by rw [cF_len]; omega) ?_
  intro H2 kH2 nH2 sH2
  have mH2 := kH2.1
  have hk := hk.trans kH2
  rw [cF_set (by omega)] at sH2
  have hc := sH2
  have hc : Cl H2 bd (cF n (swp g1 i j)) := hc
  refine wD_end (by repeat' first | exact True.intro | exact (fun h => h) | refine And.intro ?_ ?_ | (intro h; have h : (_ : Nat) = _ := h; omega)) ?_
  refine wN_seq <| wN_mov (v := iv (i : Int)) rfl <| wN_add (a := (i : Int)) (b := 1) rfl rfl ⟨by omega, by omega⟩ <| wN_mov (v := iv ((i : Int) + 1)) rfl <| wN_end ?_
  first | refine wN_reg ?_ | refine wN_blk ?_ | refine wN_bseq ?_ | (refine wOps_nil ?_; refine wN_reg ?_)
  refine wN_mov (v := iv (j : Int)) rfl <| wN_sub (a := (j : Int)) (b := 1) rfl rfl ⟨by omega, by omega⟩ <| wN_mov (v := iv ((j : Int) - 1)) rfl <| wN_end ?_
  exact ⟨_, (i + 1, j - 1), by omega, ⟨rfl, by omega, by omega, by omega, hk, (swp g1 i j), hp.trans (PRm.swap (by omega) (by omega) (by omega) (by omega)), hc⟩, rfl, rfl, rfl, ivq (by omega), ivq (by omega), trivial⟩
 ·have q1 : ¬ ((i : Int) < (j : Int)) := of_decide_eq_false q1
  exact And.intro trivial (Exists.intro _ (And.intro rfl ⟨rfl, g1, hp, hk, hc⟩))
end
noncomputable def R74v : RC := (.seq (.reg [oN 8 0])
 (.seq (.dreg [oM 11 0, oM 12 1, oM 13 0, oM 14 3, oM 15 0, oM 16 3, oI 17 15 16 1, oL 18 17 1, oM 19 0, oM 20 1, oI 21 19 20 1, oL 22 21 1, oI 23 11 12 1, ⟨none, none, (.st (.tmp 23) (.tmp 18))⟩, oI 24 13 14 1, ⟨none, none, (.st (.tmp 24) (.tmp 22))⟩] [32767, 16383, 8179, 4083, 1792, 768, 0, 0, 112, 48, 0, 0, 0, 0, 0, 0])
 (.seq (.reg [oM 25 1, oR 26 .add 25 1, oM 27 2, oR 28 .sub 27 1, oM 9 26, oM 10 28])
 (.seq (.block 0 (.other (at_ Try.f74 [1, 1, 1, 0, 0])))
 (.other (at_ Try.f74 [1, 1, 1, 1]))))))
theorem V74 : LV Try.prog 84 (at_ Try.f74 []) R74v := by
 have e : at_ Try.f74 [] = (.seq (at_ Try.f74 [0]) (.seq (at_ Try.f74 [1, 0]) (.seq (at_ Try.f74 [1, 1, 0]) (.seq (at_ Try.f74 [1, 1, 1, 0]) (at_ Try.f74 [1, 1, 1, 1]))))) := by kernel_rfl
 rw [e]
 exact (.seq (.low (by kernel_rfl)) (.seq (.low (by kernel_rfl)) (.seq (.low (by kernel_rfl)) (.seq (.low (by kernel_rfl)) (.other _)))))
noncomputable def R74x1v : RC := (.block 1 (.seq (.block 2 (.other (at_ Try.f74 [1, 1, 1, 0, 0, 0, 0, 0, 0])))
 (.other (at_ Try.f74 [1, 1, 1, 0, 0, 0, 0, 1]))))
theorem V74x1 : LV Try.prog 84 (at_ Try.f74 [1, 1, 1, 0, 0, 0]) R74x1v := by
 have e : at_ Try.f74 [1, 1, 1, 0, 0, 0] = (.block 1 (.seq (at_ Try.f74 [1, 1, 1, 0, 0, 0, 0, 0]) (at_ Try.f74 [1, 1, 1, 0, 0, 0, 0, 1]))) := by kernel_rfl
 rw [e]
 exact (.block 1 (.seq (.low (by kernel_rfl)) (.other _)))
noncomputable def R74Cv : RC := (.seq (.block 4 (.other (at_ Try.f74 [1, 1, 1, 0, 0, 0, 0, 1, 0, 0])))
 (.other (at_ Try.f74 [1, 1, 1, 0, 0, 0, 0, 1, 1])))
theorem V74C : LV Try.prog 84 (at_ Try.f74 [1, 1, 1, 0, 0, 0, 0, 1]) R74Cv := by
 have e : at_ Try.f74 [1, 1, 1, 0, 0, 0, 0, 1] = (.seq (at_ Try.f74 [1, 1, 1, 0, 0, 0, 0, 1, 0]) (at_ Try.f74 [1, 1, 1, 0, 0, 0, 0, 1, 1])) := by kernel_rfl
 rw [e]
 exact (.seq (.low (by kernel_rfl)) (.other _))
noncomputable def R74F : RC := (.seq (.reg [oM 83 9, oM 8 83])
 .ret)
theorem L74F : low Try.prog 84 (at_ Try.f74 [1, 1, 1, 1]) = some R74F := by kernel_rfl
noncomputable def R74D : RC := (.seq (.seq (.reg [oM 62 9, oM 63 10, ⟨some 64, none, (.cmp .gtr (.tmp 62) (.tmp 63))⟩])
 (.cond (.tmp 64) (.exit 0)
 .skip))
 (.seq (.dreg [oM 65 0, oM 66 9, oM 67 0, oM 68 10, oM 69 0, oM 70 10, oI 71 69 70 1, oL 72 71 1, oM 73 0, oM 74 9, oI 75 73 74 1, oL 76 75 1, oI 77 65 66 1, ⟨none, none, (.st (.tmp 77) (.tmp 72))⟩, oI 78 67 68 1, ⟨none, none, (.st (.tmp 78) (.tmp 76))⟩] [32767, 16383, 8179, 4083, 1792, 768, 0, 0, 112, 48, 0, 0, 0, 0, 0, 0])
 (.seq (.reg [oM 79 9, oR 80 .add 79 1, oM 9 80])
 (.reg [oM 81 10, oR 82 .sub 81 1, oM 10 82]))))
theorem L74D : low Try.prog 84 (at_ Try.f74 [1, 1, 1, 0, 0, 0, 0, 1, 1]) = some R74D := by kernel_rfl
section
variable {kn : Kn} {lo : Nat} {H : Hp}
set_option maxRecDepth 100000 in
set_option maxHeartbeats 2000000 in
theorem peq_F {bd cap n a b : Nat} {g0 g : Nat → Int} {gp : Int} {H0 : Hp} (hlb : lo ≤ bd) (hn : n ≤ 1000000) (hb : b ≤ n) {i j : Nat} (hp : PRm a b g0 g) (hk : Keep H0 H [bd]) (hc : Cl H bd (cF n g)) (pt : Pq a b i j g) (hga : g a = gp) (hji : j < i) {S : Rg} (hS : Subs [(0, .slice (some ⟨bd, 0, none⟩) n cap), (1, iv (a : Int)), (9, iv ((i : Nat) : Int)), (10, iv ((j : Nat) : Int))] S) {K : Exit → Rg → Hp → Prop} (hK : ∀ H' S' (m : Nat) (g' : Nat → Int), a < m → m ≤ b → PRm a b g0 g' → (∀ x, a ≤ x → x < m → g' x ≤ g' a) → Keep H0 H' [bd] → Cl H' bd (cF n g') → g' a = gp → lk S' 8 = some (iv (m : Int)) → K .ret S' H') : Tri Try.prog kn lo 84 false (at_ Try.f74 [1, 1, 1, 1]) S H K := by
 have qai := pt.ai; have qij := pt.ij; have qjb := pt.jb
 refine tri_piece L74F hS ?_
 refine wN_seq <| wN_mov (v := iv (i : Int)) rfl <| wN_mov (v := iv (i : Int)) rfl <| wN_end ?_
 exact hK _ _ i g (by omega) (by omega) hp (fun x h1 h2 => by rcases Nat.lt_or_ge a x with c | c; exact pt.le x c h2; rw [show x = a by omega]; exact Int.le_refl _) hk hc hga rfl
set_option maxRecDepth 100000 in
set_option maxHeartbeats 2000000 in
theorem peq_D {bd cap n a b : Nat} {g0 g : Nat → Int} {gp : Int} {H0 : Hp} (hlb : lo ≤ bd) (hn : n ≤ 1000000) (hb : b ≤ n) {i j : Nat} (hp : PRm a b g0 g) (hk : Keep H0 H [bd]) (hc : Cl H bd (cF n g)) (pt : Pq a b i j g) (hga : g a = gp) (u1 : i ≤ j → ¬ (¬ (g a < g i))) (u2 : i ≤ j → ¬ (g a < g j)) {S : Rg} (hS : Subs [(0, .slice (some ⟨bd, 0, none⟩) n cap), (1, iv (a : Int)), (9, iv ((i : Nat) : Int)), (10, iv ((j : Nat) : Int))] S) {K : Exit → Rg → Hp → Prop} {k : Nat} (hN : ∀ H' S' (i' j' : Nat) (g' : Nat → Int), j' + 1 - i' < k → Pq a b i' j' g' → Keep H0 H' [bd] → PRm a b g0 g' → Cl H' bd (cF n g') → g' a = gp → Subs [(0, .slice (some ⟨bd, 0, none⟩) n cap), (1, iv (a : Int)), (9, iv ((i' : Nat) : Int)), (10, iv ((j' : Nat) : Int))] S' → K .normal S' H') (hX : ∀ H' S' (i' j' : Nat) (g' : Nat → Int), j' < i' → Pq a b i' j' g' → Keep H0 H' [bd] → PRm a b g0 g' → Cl H' bd (cF n g') → g' a = gp → Subs [(0, .slice (some ⟨bd, 0, none⟩) n cap), (1, iv (a : Int)), (9, iv ((i' : Nat) : Int)), (10, iv ((j' : Nat) : Int))] S' → K (.exit 0) S' H') (hm : j + 1 - i ≤ k) : Tri Try.prog kn lo 84 false (at_ Try.f74 [1, 1, 1, 0, 0, 0, 0, 1, 1]) S H K := by
 have qai := pt.ai; have qij := pt.ij; have qjb := pt.jb
 refine tri_piece L74D hS ?_
 refine wN_seq <| wN_mov (v := iv (i : Int)) rfl <| wN_mov (v := iv (j : Int)) rfl <| wN_c_gtr (a := (i : Int)) (b := (j : Int)) rfl rfl <| wN_end ?_
 refine And.intro (fun q1 => ?_) (fun q1 => ?_)
 ·have q1 : (i : Int) > (j : Int) := of_decide_eq_true q1
  have qai := pt.ai; have qij := pt.ij; have qjb := pt.jb
  first | (refine wN_exit ?_; show wC _ _ _ _ _ _ _ _ _) | skip
  exact hX _ _ (i) (j) _ (by omega) pt hk hp hc hga (by exact ⟨rfl, rfl, ivq (by omega), ivq (by omega), trivial⟩)
 ·have q1 : ¬ ((i : Int) > (j : Int)) := of_decide_eq_false q1
  have qai := pt.ai; have qij := pt.ij; have qjb := pt.jb
  first | refine wN_skip ?_ | skip
  refine wD_seq <| wD_mov (v := .slice (some ⟨bd, 0, none⟩) n cap) rfl <| wD_mov (v := iv (i : Int)) rfl <| wD_mov (v := .slice (some ⟨bd, 0, none⟩) n cap) rfl <| wD_mov (v := iv (j : Int)) rfl <| wD_mov (v := .slice (some ⟨bd, 0, none⟩) n cap) rfl <| wD_mov (v := iv (j : Int)) rfl <| wD_idx (b := bd) (o := 0) (k := j) (j := (j : Int)) rfl rfl (by omega) (by omega) <| wD_ld (b := bd) (o := 0 + j * 1) (v := iv (g j)) rfl hc.rd (cF_at (by omega)) <| wD_mov (v := .slice (some ⟨bd, 0, none⟩) n cap) rfl <| wD_mov (v := iv (i : Int)) rfl <| wD_idx (b := bd) (o := 0) (k := i) (j := (i : Int)) rfl rfl (by omega) (by omega) ?_
  refine wD_ld (b := bd) (o := 0 + i * 1) (v := iv (g i)) rfl hc.rd (cF_at (by omega)) <| wD_idx (b := bd) (o := 0) (k := i) (j := (i : Int)) rfl rfl (by omega) (by omega) <| wD_st (b := bd) (o := 0 + i * 1) rfl rfl hc hlb rfl rfl (by rw [cF_len]; omega) ?_
  intro H1 kH1 nH1 sH1
  have mH1 := kH1.1
  have hk := hk.trans kH1
  rw [cF_set (by omega)] at sH1
  have hc := sH1
  refine wD_idx (b := bd) (o := 0) (k := j) (j := (j : Int)) rfl rfl (by omega) (by omega) <| wD_st (b := bd) (o := 0 + j * 1) rfl rfl hc hlb rfl rfl (by rw [cF_len]; omega) ?_
  intro H2 kH2 nH2 sH2
  have mH2 := kH2.1
  have hk := hk.trans kH2
  rw [cF_set (by omega)] at sH2
  have hc := sH2
  have hc : Cl H2 bd (cF n (swp g i j)) := hc
  refine wD_end (by repeat' first | exact True.intro | exact (fun h => h) | refine And.intro ?_ ?_ | (intro h; have h : (_ : Nat) = _ := h; omega)) ?_
  refine wN_seq <| wN_mov (v := iv (i : Int)) rfl <| wN_add (a := (i : Int)) (b := 1) rfl rfl ⟨by omega, by omega⟩ <| wN_mov (v := iv ((i : Int) + 1)) rfl <| wN_end ?_
  first | refine wN_reg ?_ | refine wN_blk ?_ | refine wN_bseq ?_ | (refine wOps_nil ?_; refine wN_reg ?_)
  refine wN_mov (v := iv (j : Int)) rfl <| wN_sub (a := (j : Int)) (b := 1) rfl rfl ⟨by omega, by omega⟩ <| wN_mov (v := iv ((j : Int) - 1)) rfl <| wN_end ?_
  exact hN _ _ (i + 1) (j - 1) _ (by omega) (pt.swap (by omega) (by omega) (by omega)) hk (hp.trans (PRm.swap (by omega) (by omega) (by omega) (by omega))) hc (by rw [swp_n (by omega) (by omega)]; exact hga) (by exact ⟨rfl, rfl, ivq (by omega), ivq (by omega), trivial⟩)
set_option maxRecDepth 100000 in
set_option maxHeartbeats 2000000 in
theorem peq_C {bd cap n a b : Nat} {g0 g : Nat → Int} {gp : Int} {H0 : Hp} (hlb : lo ≤ bd) (hn : n ≤ 1000000) (hb : b ≤ n) {i j : Nat} (hp : PRm a b g0 g) (hk : Keep H0 H [bd]) (hc : Cl H bd (cF n g)) (pt : Pq a b i j g) (hga : g a = gp) (u1 : i ≤ j → ¬ (¬ (g a < g i))) {S : Rg} (hS : Subs [(0, .slice (some ⟨bd, 0, none⟩) n cap), (1, iv (a : Int)), (9, iv ((i : Nat) : Int)), (10, iv ((j : Nat) : Int))] S) {K : Exit → Rg → Hp → Prop} {k : Nat} (hN : ∀ H' S' (i' j' : Nat) (g' : Nat → Int), j' + 1 - i' < k → Pq a b i' j' g' → Keep H0 H' [bd] → PRm a b g0 g' → Cl H' bd (cF n g') → g' a = gp → Subs [(0, .slice (some ⟨bd, 0, none⟩) n cap), (1, iv (a : Int)), (9, iv ((i' : Nat) : Int)), (10, iv ((j' : Nat) : Int))] S' → K .normal S' H') (hX : ∀ H' S' (i' j' : Nat) (g' : Nat → Int), j' < i' → Pq a b i' j' g' → Keep H0 H' [bd] → PRm a b g0 g' → Cl H' bd (cF n g') → g' a = gp → Subs [(0, .slice (some ⟨bd, 0, none⟩) n cap), (1, iv (a : Int)), (9, iv ((i' : Nat) : Int)), (10, iv ((j' : Nat) : Int))] S' → K (.exit 0) S' H') (hm : j + 1 - i ≤ k) : Tri Try.prog kn lo 84 false (at_ Try.f74 [1, 1, 1, 0, 0, 0, 0, 1]) S H K := by
 have qai := pt.ai; have qij := pt.ij; have qjb := pt.jb
 refine tri_lv V74C hS ?_
 have qai := pt.ai; have qij := pt.ij; have qjb := pt.jb
 refine loop_low (fn := Try.f74) E74_3 N74 L74x3 (fun uL2 : Nat => [(0, .slice (some ⟨bd, 0, none⟩) n cap), (1, iv (a : Int)), (9, iv (i : Int)), (10, iv (uL2 : Int))])
  (fun k uL2 H' => k = uL2 + 1 - i ∧ uL2 ≤ j ∧ Pq a b i uL2 g ∧ Keep H0 H' [bd] ∧ Cl H' bd (cF n g)) _ j ⟨rfl, Nat.le_refl _, pt, hk, hc⟩ ⟨rfl, rfl, rfl, ivq (by omega), trivial⟩ ?_
 rintro k uL2 L2 ⟨rfl, zuL2, pt, hk, hc⟩
 have qai := pt.ai; have qij := pt.ij; have qjb := pt.jb
 refine wD_seq <| wD_mov (v := iv (i : Int)) rfl <| wD_mov (v := iv (uL2 : Int)) rfl <| wD_b_leq (a := (i : Int)) (b := (uL2 : Int)) rfl rfl ?_
 intro t1 g1; cases t1
 ·have g1 : ¬ ((i : Int) ≤ (uL2 : Int)) := of_decide_eq_false g1
  refine wD_mov (v := .bool false) rfl <| wD_gs rfl <| wD_gs rfl <| wD_gs rfl <| wD_gs rfl <| wD_gs rfl <| wD_gs rfl <| wD_gs rfl <| wD_gs rfl <| wD_gs rfl <| wD_pur (v := .bool false) rfl rfl ?_
  refine wD_end (by repeat' first | exact True.intro | exact (fun h => h) | refine And.intro ?_ ?_ | (intro h; have h : (_ : Nat) = _ := h; omega)) ?_
  refine condF ?_
  have u2 : i ≤ uL2 → ¬ (g a < g uL2) := fun hh => by omega
  first | (refine wN_exit ?_; show wC _ _ _ _ _ _ _ _ _) | skip
  exact peq_D hlb hn hb (i := i) (j := uL2) hp hk hc pt hga (fun _ => u1 (by omega)) u2 (by exact ⟨rfl, rfl, ivq (by omega), ivq (by omega), trivial⟩) hN hX (by omega)
 ·have g1 : (i : Int) ≤ (uL2 : Int) := of_decide_eq_true g1
  refine wD_mov (v := .bool true) rfl ?_
  refine wD_g rfl (wD_mov (v := .slice (some ⟨bd, 0, none⟩) n cap) rfl ?_)
  refine wD_g rfl (wD_mov (v := iv (a : Int)) rfl ?_)
  refine wD_g rfl (wD_idx (b := bd) (o := 0) (k := a) (j := (a : Int)) rfl rfl (by omega) (by omega) ?_)
  refine wD_g rfl (wD_ld (b := bd) (o := 0 + a * 1) (v := iv (g a)) rfl hc.rd (cF_at (by omega)) ?_)
  refine wD_g rfl (wD_mov (v := .slice (some ⟨bd, 0, none⟩) n cap) rfl ?_)
  refine wD_g rfl (wD_mov (v := iv (uL2 : Int)) rfl ?_)
  refine wD_g rfl (wD_idx (b := bd) (o := 0) (k := uL2) (j := (uL2 : Int)) rfl rfl (by omega) (by omega) ?_)
  refine wD_g rfl (wD_ld (b := bd) (o := 0 + uL2 * 1) (v := iv (g uL2)) rfl hc.rd (cF_at (by omega)) ?_)
  obtain ⟨H1, fH1, kH1⟩ := less_ok (kn := kn) (lo := lo) (H := L2) (g a) (g uL2)
  refine wD_g rfl (wD_callf (vs := [iv (g a), iv (g uL2)]) rfl (callX_args fH1) ?_)
  have mH1 := kH1.1
  have hc := kH1.cl hc (by simp)
  have hk := hk.trans (kH1.mono (by simp))
  refine wD_pur (v := .bool (decide (g a < g uL2))) rfl rfl ?_
  refine wD_end (by repeat' first | exact True.intro | exact (fun h => h) | refine And.intro ?_ ?_ | (intro h; have h : (_ : Nat) = _ := h; omega)) ?_
  refine And.intro (fun q2 => ?_) (fun q2 => ?_)
  ·have q2 : g a < g uL2 := of_decide_eq_true q2
   first | refine wN_skip ?_ | skip
   first | refine wN_reg ?_ | refine wN_blk ?_ | refine wN_bseq ?_ | (refine wOps_nil ?_; refine wN_reg ?_)
   refine wN_mov (v := iv (uL2 : Int)) rfl <| wN_sub (a := (uL2 : Int)) (b := 1) rfl rfl ⟨by omega, by omega⟩ <| wN_mov (v := iv ((uL2 : Int) - 1)) rfl <| wN_end ?_
   exact ⟨_, uL2 - 1, by omega, ⟨rfl, by omega, pt.down (by omega) (by omega), hk, hc⟩, rfl, rfl, rfl, ivq (by omega), trivial⟩
  ·have q2 : ¬ (g a < g uL2) := of_decide_eq_false q2
   have u2 : i ≤ uL2 → ¬ (g a < g uL2) := fun hh => by omega
   first | (refine wN_exit ?_; show wC _ _ _ _ _ _ _ _ _) | skip
   exact peq_D hlb hn hb (i := i) (j := uL2) hp hk hc pt hga (fun _ => u1 (by omega)) u2 (by exact ⟨rfl, rfl, ivq (by omega), ivq (by omega), trivial⟩) hN hX (by omega)
set_option maxRecDepth 100000 in
set_option maxHeartbeats 4000000 in
theorem parteq_ok (hlo : lo ≤ H.next) {bd cap n : Nat} {g : Nat → Int} (hlb : lo ≤ bd) (hn : n ≤ 1000000) (hc : Cl H bd (cF n g)) {a b p : Nat} (hap : a ≤ p) (hpb : p < b) (hb : b ≤ n) : ∃ H' m g', FnX Try.prog kn lo 74 [.slice (some ⟨bd, 0, none⟩) n cap, iv (a : Int), iv (b : Int), iv (p : Int)] H (iv ((m : Nat) : Int)) H' ∧ a < m ∧ m ≤ b ∧ PRm a b g g' ∧ (∀ x, a ≤ x → x < m → g' x ≤ g p) ∧ Keep H H' [bd] ∧ Cl H' bd (cF n g') := by
 have key := fnX_lv (kn := kn) (lo := lo) (H := H) (args := [.slice (some ⟨bd, 0, none⟩) n cap, iv (a : Int), iv (b : Int), iv (p : Int)]) (Q := fun w H' => ∃ (m : Nat) (g' : Nat → Int), w = iv (m : Int) ∧ a < m ∧ m ≤ b ∧ PRm a b g g' ∧ (∀ x, a ≤ x → x < m → g' x ≤ g' a) ∧ Keep H H' [bd] ∧ Cl H' bd (cF n g') ∧ g' a = g p) Try.func74 B74 N74 Z74 V74 (by simp) ?_
 ·obtain ⟨w, H', h, m, g', rfl, h1, h2, h3, h4, h5, h6, h7⟩ := key; exact ⟨H', m, g', h, h1, h2, h3, fun x a1 a2 => by rw [← h7]; exact h4 x a1 a2, h5, h6⟩
 have hk := Keep.refl H [bd]
 refine wN_seq <| wN_mov (v := iv 0) rfl <| wN_end <| wD_seq <| wD_mov (v := .slice (some ⟨bd, 0, none⟩) n cap) rfl <| wD_mov (v := iv (a : Int)) rfl <| wD_mov (v := .slice (some ⟨bd, 0, none⟩) n cap) rfl <| wD_mov (v := iv (p : Int)) rfl <| wD_mov (v := .slice (some ⟨bd, 0, none⟩) n cap) rfl <| wD_mov (v := iv (p : Int)) rfl <| wD_idx (b := bd) (o := 0) (k := p) (j := (p : Int)) rfl rfl (by omega) (by omega) <| wD_ld (b := bd) (o := 0 + p * 1) (v := iv (g p)) rfl hc.rd (cF_at (by omega)) ?_
 refine wD_mov (v := .slice (some ⟨bd, 0, none⟩) n cap) rfl <| wD_mov (v := iv (a : Int)) rfl <| wD_idx (b := bd) (o := 0) (k := a) (j := (a : Int)) rfl rfl (by omega) (by omega) <| wD_ld (b := bd) (o := 0 + a * 1) (v := iv (g a)) rfl hc.rd (cF_at (by omega)) <| wD_idx (b := bd) (o := 0) (k := a) (j := (a : Int)) rfl rfl (by omega) (by omega) <| wD_st (b := bd) (o := 0 + a * 1) rfl rfl hc hlb rfl rfl (by rw [cF_len]; omega) ?_
 intro H1 kH1 nH1 sH1
 have mH1 := kH1.1
 have hk := hk.trans kH1
 rw [cF_set (by omega)] at sH1
 have hc := sH1
 refine wD_idx (b := bd) (o := 0) (k := p) (j := (p : Int)) rfl rfl (by omega) (by omega) <| wD_st (b := bd) (o := 0 + p * 1) rfl rfl hc hlb rfl rfl (by rw [cF_len]; omega) ?_
 intro H2 kH2 nH2 sH2
 have mH2 := kH2.1
 have hk := hk.trans kH2
 rw [cF_set (by omega)] at sH2
 have hc := sH2
 have hc : Cl H2 bd (cF n (swp g a p)) := hc
 refine wD_end (by repeat' first | exact True.intro | exact (fun h => h) | refine And.intro ?_ ?_ | (intro h; have h : (_ : Nat) = _ := h; omega)) ?_
 refine wN_seq <| wN_mov (v := iv (a : Int)) rfl <| wN_add (a := (a : Int)) (b := 1) rfl rfl ⟨by omega, by omega⟩ <| wN_mov (v := iv (b : Int)) rfl <| wN_sub (a := (b : Int)) (b := 1) rfl rfl ⟨by omega, by omega⟩ <| wN_mov (v := iv ((a : Int) + 1)) rfl <| wN_mov (v := iv ((b : Int) - 1)) rfl <| wN_end ?_
 refine loop_lv E74_1 V74x1 (fun x : Nat × Nat => [(0, .slice (some ⟨bd, 0, none⟩) n cap), (1, iv (a : Int)), (9, iv (x.1 : Int)), (10, iv (x.2 : Int))])
  (fun k x H' => k = x.2 + 1 - x.1 ∧ ∃ g' : Nat → Int, Pq a b x.1 x.2 g' ∧ Keep H H' [bd] ∧ PRm a b g g' ∧ Cl H' bd (cF n g') ∧ g' a = g p) _ (a + 1, b - 1) ⟨rfl, (swp g a p), Pq.init (by omega), hk, PRm.swap (by omega) (by omega) (by omega) (by omega), hc, swp_l⟩ ⟨rfl, rfl, ivq (by simp only []; omega), ivq (by simp only []; omega), trivial⟩ ?_
 clear hk hc
 rintro k ⟨i, j⟩ L1 ⟨rfl, g3, pt, hk, hp, hc, hga⟩
 have qai := pt.ai; have qij := pt.ij; have qjb := pt.jb; simp only [] at qai qij qjb
 have qai := pt.ai; have qij := pt.ij; have qjb := pt.jb
 refine loop_low (fn := Try.f74) E74_2 N74 L74x2 (fun uL3 : Nat => [(0, .slice (some ⟨bd, 0, none⟩) n cap), (1, iv (a : Int)), (10, iv (j : Int)), (9, iv (uL3 : Int))])
  (fun k uL3 H' => k = j + 1 - uL3 ∧ i ≤ uL3 ∧ Pq a b uL3 j g3 ∧ Keep H H' [bd] ∧ Cl H' bd (cF n g3)) _ i ⟨rfl, Nat.le_refl _, pt, hk, hc⟩ ⟨rfl, rfl, rfl, ivq (by omega), trivial⟩ ?_
 rintro k uL3 L3 ⟨rfl, zuL3, pt, hk, hc⟩
 have qai := pt.ai; have qij := pt.ij; have qjb := pt.jb
 refine wD_seq <| wD_mov (v := iv (uL3 : Int)) rfl <| wD_mov (v := iv (j : Int)) rfl <| wD_b_leq (a := (uL3 : Int)) (b := (j : Int)) rfl rfl ?_
 intro t1 g1; cases t1
 ·have g1 : ¬ ((uL3 : Int) ≤ (j : Int)) := of_decide_eq_false g1
  refine wD_mov (v := .bool false) rfl <| wD_gs rfl <| wD_gs rfl <| wD_gs rfl <| wD_gs rfl <| wD_gs rfl <| wD_gs rfl <| wD_gs rfl <| wD_gs rfl <| wD_gs rfl <| wD_gs rfl <| wD_pur (v := .bool false) rfl rfl ?_
  refine wD_end (by repeat' first | exact True.intro | exact (fun h => h) | refine And.intro ?_ ?_ | (intro h; have h : (_ : Nat) = _ := h; omega)) ?_
  refine condF ?_
  have u1 : uL3 ≤ j → ¬ (¬ (g3 a < g3 uL3)) := fun hh => by omega
  first | (refine wN_exit ?_; show wC _ _ _ _ _ _ _ _ _) | skip
  refine peq_C hlb hn hb (i := uL3) (j := j) (g0 := g) (gp := g p) (H0 := H) (k := (i, j).2 + 1 - (i, j).1) hp hk hc pt hga u1 (by exact ⟨rfl, rfl, ivq (by omega), ivq (by omega), trivial⟩) ?_ ?_ (by simp only []; omega)
  ·intro H' S' i' j' g' h1 h2 h3 h4 h5 h6 h7
   have hz : ∃ k' x, k' < (i, j).2 + 1 - (i, j).1 ∧ ((fun (k : Nat) (x : Nat × Nat) (H' : Hp) => k = x.2 + 1 - x.1 ∧ ∃ g' : Nat → Int, Pq a b x.1 x.2 g' ∧ Keep H H' [bd] ∧ PRm a b g g' ∧ Cl H' bd (cF n g') ∧ g' a = g p) k' x H') ∧ Subs ((fun x : Nat × Nat => [(0, .slice (some ⟨bd, 0, none⟩) n cap), (1, iv (a : Int)), (9, iv (x.1 : Int)), (10, iv (x.2 : Int))]) x) S' := ⟨_, (i', j'), h1, ⟨rfl, g', h2, h3, h4, h5, h6⟩, h7⟩
   exact hz
  ·intro H' S' i' j' g' h1 h2 h3 h4 h5 h6 h7
   exact peq_F hlb hn hb h4 h3 h5 h2 h6 h1 h7 (fun H' S' m g' q1 q2 q3 q4 q5 q6 q7 q8 => And.intro trivial (Exists.intro _ (And.intro (res_t1 q8) ⟨m, g', rfl, q1, q2, q3, q4, q5, q6, q7⟩)))
 ·have g1 : (uL3 : Int) ≤ (j : Int) := of_decide_eq_true g1
  refine wD_mov (v := .bool true) rfl ?_
  refine wD_g rfl (wD_mov (v := .slice (some ⟨bd, 0, none⟩) n cap) rfl ?_)
  refine wD_g rfl (wD_mov (v := iv (a : Int)) rfl ?_)
  refine wD_g rfl (wD_idx (b := bd) (o := 0) (k := a) (j := (a : Int)) rfl rfl (by omega) (by omega) ?_)
  refine wD_g rfl (wD_ld (b := bd) (o := 0 + a * 1) (v := iv (g3 a)) rfl hc.rd (cF_at (by omega)) ?_)
  refine wD_g rfl (wD_mov (v := .slice (some ⟨bd, 0, none⟩) n cap) rfl ?_)
  refine wD_g rfl (wD_mov (v := iv (uL3 : Int)) rfl ?_)
  refine wD_g rfl (wD_idx (b := bd) (o := 0) (k := uL3) (j := (uL3 : Int)) rfl rfl (by omega) (by omega) ?_)
  refine wD_g rfl (wD_ld (b := bd) (o := 0 + uL3 * 1) (v := iv (g3 uL3)) rfl hc.rd (cF_at (by omega)) ?_)
  obtain ⟨H3, fH3, kH3⟩ := less_ok (kn := kn) (lo := lo) (H := L3) (g3 a) (g3 uL3)
  refine wD_g rfl (wD_callf (vs := [iv (g3 a), iv (g3 uL3)]) rfl (callX_args fH3) ?_)
  have mH3 := kH3.1
  have hc := kH3.cl hc (by simp)
  have hk := hk.trans (kH3.mono (by simp))
  refine wD_g rfl (wD_pur (v := .bool (!(decide (g3 a < g3 uL3)))) rfl rfl ?_)
  refine wD_pur (v := .bool (!(decide (g3 a < g3 uL3)))) rfl rfl ?_
  refine wD_end (by repeat' first | exact True.intro | exact (fun h => h) | refine And.intro ?_ ?_ | (intro h; have h : (_ : Nat) = _ := h; omega)) ?_
  refine And.intro (fun q2 => ?_) (fun q2 => ?_)
  ·have q2 : ¬ (g3 a < g3 uL3) := by simpa using q2
   first | refine wN_skip ?_ | skip
   first | refine wN_reg ?_ | refine wN_blk ?_ | refine wN_bseq ?_ | (refine wOps_nil ?_; refine wN_reg ?_)
   refine wN_mov (v := iv (uL3 : Int)) rfl <| wN_add (a := (uL3 : Int)) (b := 1) rfl rfl ⟨by omega, by omega⟩ <| wN_mov (v := iv ((uL3 : Int) + 1)) rfl <| wN_end ?_
   exact ⟨_, uL3 + 1, by omega, ⟨rfl, by omega, pt.up (by omega) (by omega), hk, hc⟩, rfl, rfl, rfl, ivq (by omega), trivial⟩
  ·have q2 : ¬ (¬ (g3 a < g3 uL3)) := by simpa using q2
   have u1 : uL3 ≤ j → ¬ (¬ (g3 a < g3 uL3)) := fun hh => by omega
   first | (refine wN_exit ?_; show wC _ _ _ _ _ _ _ _ _) | skip
   refine peq_C hlb hn hb (i := uL3) (j := j) (g0 := g) (gp := g p) (H0 := H) (k := (i, j).2 + 1 - (i, j).1) hp hk hc pt hga u1 (by exact ⟨rfl, rfl, ivq (by omega), ivq (by omega), trivial⟩) ?_ ?_ (by simp only []; omega)
   ·intro H' S' i' j' g' h1 h2 h3 h4 h5 h6 h7
    have hz : ∃ k' x, k' < (i, j).2 + 1 - (i, j).1 ∧ ((fun (k : Nat) (x : Nat × Nat) (H' : Hp) => k = x.2 + 1 - x.1 ∧ ∃ g' : Nat → Int, Pq a b x.1 x.2 g' ∧ Keep H H' [bd] ∧ PRm a b g g' ∧ Cl H' bd (cF n g') ∧ g' a = g p) k' x H') ∧ Subs ((fun x : Nat × Nat => [(0, .slice (some ⟨bd, 0, none⟩) n cap), (1, iv (a : Int)), (9, iv (x.1 : Int)), (10, iv (x.2 : Int))]) x) S' := ⟨_, (i', j'), h1, ⟨rfl, g', h2, h3, h4, h5, h6⟩, h7⟩
    exact hz
   ·intro H' S' i' j' g' h1 h2 h3 h4 h5 h6 h7
    exact peq_F hlb hn hb h4 h3 h5 h2 h6 h1 h7 (fun H' S' m g' q1 q2 q3 q4 q5 q6 q7 q8 => And.intro trivial (Exists.intro _ (And.intro (res_t1 q8) ⟨m, g', rfl, q1, q2, q3, q4, q5, q6, q7⟩)))
end
end
noncomputable section
noncomputable def R75v : RC := (.seq (.reg [oN 8 0, oF 9])
 (.seq (.dreg [oM 12 0, oM 13 1, oM 14 0, oM 15 3, oM 16 0, oM 17 3, oI 18 16 17 1, oL 19 18 1, oM 20 0, oM 21 1, oI 22 20 21 1, oL 23 22 1, oI 24 12 13 1, ⟨none, none, (.st (.tmp 24) (.tmp 19))⟩, oI 25 14 15 1, ⟨none, none, (.st (.tmp 25) (.tmp 23))⟩] [32767, 16383, 8179, 4083, 1792, 768, 0, 0, 112, 48, 0, 0, 0, 0, 0, 0])
 (.seq (.reg [oM 26 1, oR 27 .add 26 1, oM 28 2, oR 29 .sub 28 1, oM 10 27, oM 11 29])
 (.seq (.block 0 (.other (at_ Try.f75 [1, 1, 1, 0, 0])))
 (.other (at_ Try.f75 [1, 1, 1, 1]))))))
theorem V75 : LV Try.prog 168 (at_ Try.f75 []) R75v := by
 have e : at_ Try.f75 [] = (.seq (at_ Try.f75 [0]) (.seq (at_ Try.f75 [1, 0]) (.seq (at_ Try.f75 [1, 1, 0]) (.seq (at_ Try.f75 [1, 1, 1, 0]) (at_ Try.f75 [1, 1, 1, 1]))))) := by kernel_rfl
 rw [e]
 exact (.seq (.low (by kernel_rfl)) (.seq (.low (by kernel_rfl)) (.seq (.low (by kernel_rfl)) (.seq (.low (by kernel_rfl)) (.other _)))))
noncomputable def R75Av : RC := (.seq (.block 2 (.other (at_ Try.f75 [1, 1, 1, 1, 0, 0])))
 (.other (at_ Try.f75 [1, 1, 1, 1, 1])))
theorem V75A : LV Try.prog 168 (at_ Try.f75 [1, 1, 1, 1]) R75Av := by
 have e : at_ Try.f75 [1, 1, 1, 1] = (.seq (at_ Try.f75 [1, 1, 1, 1, 0]) (at_ Try.f75 [1, 1, 1, 1, 1])) := by kernel_rfl
 rw [e]
 exact (.seq (.low (by kernel_rfl)) (.other _))
noncomputable def R75F : RC := (.seq (.dreg [oM 153 0, oM 154 11, oM 155 0, oM 156 1, oM 157 0, oM 158 1, oI 159 157 158 1, oL 160 159 1, oM 161 0, oM 162 11, oI 163 161 162 1, oL 164 163 1, oI 165 153 154 1, ⟨none, none, (.st (.tmp 165) (.tmp 160))⟩, oI 166 155 156 1, ⟨none, none, (.st (.tmp 166) (.tmp 164))⟩] [32767, 16383, 8179, 4083, 1792, 768, 0, 0, 112, 48, 0, 0, 0, 0, 0, 0])
 (.seq (.reg [oM 167 11, oM 8 167, oF 9])
 .ret))
theorem L75F : low Try.prog 168 (at_ Try.f75 [1, 1, 1, 1, 1, 1, 1, 1, 1, 1]) = some R75F := by kernel_rfl
noncomputable def R75Bv : RC := (.seq (.seq (.reg [oM 63 10, oM 64 11, ⟨some 65, none, (.cmp .gtr (.tmp 63) (.tmp 64))⟩])
 (.cond (.tmp 65) (.seq (.dreg [oM 66 0, oM 67 11, oM 68 0, oM 69 1, oM 70 0, oM 71 1, oI 72 70 71 1, oL 73 72 1, oM 74 0, oM 75 11, oI 76 74 75 1, oL 77 76 1, oI 78 66 67 1, ⟨none, none, (.st (.tmp 78) (.tmp 73))⟩, oI 79 68 69 1, ⟨none, none, (.st (.tmp 79) (.tmp 77))⟩] [32767, 16383, 8179, 4083, 1792, 768, 0, 0, 112, 48, 0, 0, 0, 0, 0, 0])
 (.seq (.reg [oM 80 11, oM 8 80, ⟨some 9, none, (.mov (.const (.bool true)))⟩])
 .ret))
 .skip))
 (.seq (.dreg [oM 81 0, oM 82 10, oM 83 0, oM 84 11, oM 85 0, oM 86 11, oI 87 85 86 1, oL 88 87 1, oM 89 0, oM 90 10, oI 91 89 90 1, oL 92 91 1, oI 93 81 82 1, ⟨none, none, (.st (.tmp 93) (.tmp 88))⟩, oI 94 83 84 1, ⟨none, none, (.st (.tmp 94) (.tmp 92))⟩] [32767, 16383, 8179, 4083, 1792, 768, 0, 0, 112, 48, 0, 0, 0, 0, 0, 0])
 (.seq (.reg [oM 95 10, oR 96 .add 95 1, oM 10 96])
 (.seq (.reg [oM 97 11, oR 98 .sub 97 1, oM 11 98])
 (.seq (.block 4 (.other (at_ Try.f75 [1, 1, 1, 1, 1, 1, 1, 1, 1, 0, 0])))
 (.other (at_ Try.f75 [1, 1, 1, 1, 1, 1, 1, 1, 1, 1])))))))
theorem V75B : LV Try.prog 168 (at_ Try.f75 [1, 1, 1, 1, 1]) R75Bv := by
 have e : at_ Try.f75 [1, 1, 1, 1, 1] = (.seq (at_ Try.f75 [1, 1, 1, 1, 1, 0]) (.seq (at_ Try.f75 [1, 1, 1, 1, 1, 1, 0]) (.seq (at_ Try.f75 [1, 1, 1, 1, 1, 1, 1, 0]) (.seq (at_ Try.f75 [1, 1, 1, 1, 1, 1, 1, 1, 0]) (.seq (at_ Try.f75 [1, 1, 1, 1, 1, 1, 1, 1, 1, 0]) (at_ Try.f75 [1, 1, 1, 1, 1, 1, 1, 1, 1, 1])))))) := by kernel_rfl
 rw [e]
 exact (.seq (.low (by kernel_rfl)) (.seq (.low (by kernel_rfl)) (.seq (.low (by kernel_rfl)) (.seq (.low (by kernel_rfl)) (.seq (.low (by kernel_rfl)) (.other _))))))
noncomputable def R75x3v : RC := (.block 5 (.seq (.block 6 (.other (at_ Try.f75 [1, 1, 1, 1, 1, 1, 1, 1, 1, 0, 0, 0, 0, 0, 0])))
 (.other (at_ Try.f75 [1, 1, 1, 1, 1, 1, 1, 1, 1, 0, 0, 0, 0, 1]))))
theorem V75x3 : LV Try.prog 168 (at_ Try.f75 [1, 1, 1, 1, 1, 1, 1, 1, 1, 0, 0, 0]) R75x3v := by
 have e : at_ Try.f75 [1, 1, 1, 1, 1, 1, 1, 1, 1, 0, 0, 0] = (.block 5 (.seq (at_ Try.f75 [1, 1, 1, 1, 1, 1, 1, 1, 1, 0, 0, 0, 0, 0]) (at_ Try.f75 [1, 1, 1, 1, 1, 1, 1, 1, 1, 0, 0, 0, 0, 1]))) := by kernel_rfl
 rw [e]
 exact (.block 5 (.seq (.low (by kernel_rfl)) (.other _)))
noncomputable def R75D : RC := (.seq (.seq (.reg [oM 132 10, oM 133 11, ⟨some 134, none, (.cmp .gtr (.tmp 132) (.tmp 133))⟩])
 (.cond (.tmp 134) (.exit 4)
 .skip))
 (.seq (.dreg [oM 135 0, oM 136 10, oM 137 0, oM 138 11, oM 139 0, oM 140 11, oI 141 139 140 1, oL 142 141 1, oM 143 0, oM 144 10, oI 145 143 144 1, oL 146 145 1, oI 147 135 136 1, ⟨none, none, (.st (.tmp 147) (.tmp 142))⟩, oI 148 137 138 1, ⟨none, none, (.st (.tmp 148) (.tmp 146))⟩] [32767, 16383, 8179, 4083, 1792, 768, 0, 0, 112, 48, 0, 0, 0, 0, 0, 0])
 (.seq (.reg [oM 149 10, oR 150 .add 149 1, oM 10 150])
 (.reg [oM 151 11, oR 152 .sub 151 1, oM 11 152]))))
theorem L75D : low Try.prog 168 (at_ Try.f75 [1, 1, 1, 1, 1, 1, 1, 1, 1, 0, 0, 0, 0, 1, 1]) = some R75D := by kernel_rfl
noncomputable def R75Cv : RC := (.seq (.block 8 (.other (at_ Try.f75 [1, 1, 1, 1, 1, 1, 1, 1, 1, 0, 0, 0, 0, 1, 0, 0])))
 (.other (at_ Try.f75 [1, 1, 1, 1, 1, 1, 1, 1, 1, 0, 0, 0, 0, 1, 1])))
theorem V75C : LV Try.prog 168 (at_ Try.f75 [1, 1, 1, 1, 1, 1, 1, 1, 1, 0, 0, 0, 0, 1]) R75Cv := by
 have e : at_ Try.f75 [1, 1, 1, 1, 1, 1, 1, 1, 1, 0, 0, 0, 0, 1] = (.seq (at_ Try.f75 [1, 1, 1, 1, 1, 1, 1, 1, 1, 0, 0, 0, 0, 1, 0]) (at_ Try.f75 [1, 1, 1, 1, 1, 1, 1, 1, 1, 0, 0, 0, 0, 1, 1])) := by kernel_rfl
 rw [e]
 exact (.seq (.low (by kernel_rfl)) (.other _))
section
variable {kn : Kn} {lo : Nat} {H : Hp}
set_option maxRecDepth 100000 in
set_option maxHeartbeats 2000000 in
theorem part_F {bd cap n a b : Nat} {g0 g : Nat → Int} {H0 : Hp} (hlb : lo ≤ bd) (hn : n ≤ 1000000) (hb : b ≤ n) {i j : Nat} (hp : PRm a b g0 g) (hk : Keep H0 H [bd]) (hc : Cl H bd (cF n g)) (pt : Pt a b i j g) (hji : j < i) {S : Rg} (hS : Subs [(0, .slice (some ⟨bd, 0, none⟩) n cap), (1, iv (a : Int)), (10, iv ((i : Nat) : Int)), (11, iv ((j : Nat) : Int))] S) {K : Exit → Rg → Hp → Prop} (hK : ∀ H' S' (m : Nat) (t : Bool) (g' : Nat → Int), a ≤ m → m < b → PRm a b g0 g' → Par_ (fun x : Int => x) a b m g' → Keep H0 H' [bd] → Cl H' bd (cF n g') → lk S' 8 = some (iv (m : Int)) → lk S' 9 = some (.bool t) → K .ret S' H') : Tri Try.prog kn lo 168 false (at_ Try.f75 [1, 1, 1, 1, 1, 1, 1, 1, 1, 1]) S H K := by
 have qai := pt.ai; have qij := pt.ij; have qjb := pt.jb
 refine tri_piece L75F hS ?_
 refine wD_seq <| wD_mov (v := .slice (some ⟨bd, 0, none⟩) n cap) rfl <| wD_mov (v := iv (j : Int)) rfl <| wD_mov (v := .slice (some ⟨bd, 0, none⟩) n cap) rfl <| wD_mov (v := iv (a : Int)) rfl <| wD_mov (v := .slice (some ⟨bd, 0, none⟩) n cap) rfl <| wD_mov (v := iv (a : Int)) rfl <| wD_idx (b := bd) (o := 0) (k := a) (j := (a : Int)) rfl rfl (by omega) (by omega) <| wD_ld (b := bd) (o := 0 + a * 1) (v := iv (g a)) rfl hc.rd (cF_at (by omega)) <| wD_mov (v := .slice (some ⟨bd, 0, none⟩) n cap) rfl <| wD_mov (v := iv (j : Int)) rfl <| wD_idx (b := bd) (o := 0) (k := j) (j := (j : Int)) rfl rfl (by omega) (by omega) ?_
 refine wD_ld (b := bd) (o := 0 + j * 1) (v := iv (g j)) rfl hc.rd (cF_at (by omega)) <| wD_idx (b := bd) (o := 0) (k := j) (j := (j : Int)) rfl rfl (by omega) (by omega) <| wD_st (b := bd) (o := 0 + j * 1) rfl rfl hc hlb rfl rfl (by rw [cF_len]; omega) ?_
 intro H1 kH1 nH1 sH1
 have mH1 := kH1.1
 have hk := hk.trans kH1
 rw [cF_set (by omega)] at sH1
 have hc := sH1
 refine wD_idx (b := bd) (o := 0) (k := a) (j := (a : Int)) rfl rfl (by omega) (by omega) <| wD_st (b := bd) (o := 0 + a * 1) rfl rfl hc hlb rfl rfl (by rw [cF_len]; omega) ?_
 intro H2 kH2 nH2 sH2
 have mH2 := kH2.1
 have hk := hk.trans kH2
 rw [cF_set (by omega)] at sH2
 have hc := sH2
 have hc : Cl H2 bd (cF n (swp g j a)) := hc
 refine wD_end (by repeat' first | exact True.intro | exact (fun h => h) | refine And.intro ?_ ?_ | (intro h; have h : (_ : Nat) = _ := h; omega)) ?_
 refine wN_seq <| wN_mov (v := iv (j : Int)) rfl <| wN_mov (v := iv (j : Int)) rfl <| wN_mov (v := .bool false) rfl <| wN_end ?_
 obtain ⟨hpa, haj⟩ := pt.fin (by omega)
 exact hK _ _ (j) false _ haj (by omega) (hp.trans (PRm.swap (by omega) (by omega) (by omega) (by omega))) hpa hk hc rfl rfl
set_option maxRecDepth 100000 in
set_option maxHeartbeats 2000000 in
theorem part_D {bd cap n a b : Nat} {g0 g : Nat → Int} {H0 : Hp} (hlb : lo ≤ bd) (hn : n ≤ 1000000) (hb : b ≤ n) {i j : Nat} (hp : PRm a b g0 g) (hk : Keep H0 H [bd]) (hc : Cl H bd (cF n g)) (pt : Pt a b i j g) (u1 : i ≤ j → ¬ (g i < g a)) (u2 : i ≤ j → ¬ (¬ (g j < g a))) {S : Rg} (hS : Subs [(0, .slice (some ⟨bd, 0, none⟩) n cap), (1, iv (a : Int)), (10, iv ((i : Nat) : Int)), (11, iv ((j : Nat) : Int))] S) {K : Exit → Rg → Hp → Prop} {k : Nat} (hN : ∀ H' S' (i' j' : Nat) (g' : Nat → Int), j' + 1 - i' < k → Pt a b i' j' g' → Keep H0 H' [bd] → PRm a b g0 g' → Cl H' bd (cF n g') → Subs [(0, .slice (some ⟨bd, 0, none⟩) n cap), (1, iv (a : Int)), (10, iv ((i' : Nat) : Int)), (11, iv ((j' : Nat) : Int))] S' → K .normal S' H') (hX : ∀ H' S' (i' j' : Nat) (g' : Nat → Int), j' < i' → Pt a b i' j' g' → Keep H0 H' [bd] → PRm a b g0 g' → Cl H' bd (cF n g') → Subs [(0, .slice (some ⟨bd, 0, none⟩) n cap), (1, iv (a : Int)), (10, iv ((i' : Nat) : Int)), (11, iv ((j' : Nat) : Int))] S' → K (.exit 4) S' H') (hm : j + 1 - i ≤ k) : Tri Try.prog kn lo 168 false (at_ Try.f75 [1, 1, 1, 1, 1, 1, 1, 1, 1, 0, 0, 0, 0, 1, 1]) S H K := by
 have qai := pt.ai; have qij := pt.ij; have qjb := pt.jb
 refine tri_piece L75D hS ?_
 refine wN_seq <| wN_mov (v := iv (i : Int)) rfl <| wN_mov (v := iv (j : Int)) rfl <| wN_c_gtr (a := (i : Int)) (b := (j : Int)) rfl rfl <| wN_end ?_
 refine And.intro (fun q1 => ?_) (fun q1 => ?_)
 ·have q1 : (i : Int) > (j : Int) := of_decide_eq_true q1
  have qai := pt.ai; have qij := pt.ij; have qjb := pt.jb
  first | (refine wN_exit ?_; show wC _ _ _ _ _ _ _ _ _) | skip
  exact hX _ _ (i) (j) _ (by omega) pt hk hp hc (by exact ⟨rfl, rfl, ivq (by omega), ivq (by omega), trivial⟩)
 ·have q1 : ¬ ((i : Int) > (j : Int)) := of_decide_eq_false q1
  have qai := pt.ai; have qij := pt.ij; have qjb := pt.jb
  first | refine wN_skip ?_ | skip
  refine wD_seq <| wD_mov (v := .slice (some ⟨bd, 0, none⟩) n cap) rfl <| wD_mov (v := iv (i : Int)) rfl <| wD_mov (v := .slice (some ⟨bd, 0, none⟩) n cap) rfl <| wD_mov (v := iv (j : Int)) rfl <| wD_mov (v := .slice (some ⟨bd, 0, none⟩) n cap) rfl <| wD_mov (v := iv (j : Int)) rfl <| wD_idx (b := bd) (o := 0) (k := j) (j := (j : Int)) rfl rfl (by omega) (by omega) <| wD_ld (b := bd) (o := 0 + j * 1) (v := iv (g j)) rfl hc.rd (cF_at (by omega)) <| wD_mov (v := .slice (some ⟨bd, 0, none⟩) n cap) rfl <| wD_mov (v := iv (i : Int)) rfl <| wD_idx (b := bd) (o := 0) (k := i) (j := (i : Int)) rfl rfl (by omega) (by omega) ?_
  refine wD_ld (b := bd) (o := 0 + i * 1) (v := iv (g i)) rfl hc.rd (cF_at (by omega)) <| wD_idx (b := bd) (o := 0) (k := i) (j := (i : Int)) rfl rfl (by omega) (by omega) <| wD_st (b := bd) (o := 0 + i * 1) rfl rfl hc hlb rfl rfl (by rw [cF_len]; omega) ?_
  intro H1 kH1 nH1 sH1
  have mH1 := kH1.1
  have hk := hk.trans kH1
  rw [cF_set (by omega)] at sH1
  have hc := sH1
  refine wD_idx (b := bd) (o := 0) (k := j) (j := (j : Int)) rfl rfl (by omega) (by omega) <| wD_st (b := bd) (o := 0 + j * 1) rfl rfl hc hlb rfl rfl (by rw [cF_len]; omega) ?_
  intro H2 kH2 nH2 sH2
  have mH2 := kH2.1
  have hk := hk.trans kH2
  rw [cF_set (by omega)] at sH2
  have hc := sH2
  have hc : Cl H2 bd (cF n (swp g i j)) := hc
  refine wD_end (by repeat' first | exact True.intro | exact (fun h => h) | refine And.intro ?_ ?_ | (intro h; have h : (_ : Nat) = _ := h; omega)) ?_
  refine wN_seq <| wN_mov (v := iv (i : Int)) rfl <| wN_add (a := (i : Int)) (b := 1) rfl rfl ⟨by omega, by omega⟩ <| wN_mov (v := iv ((i : Int) + 1)) rfl <| wN_end ?_
  first | refine wN_reg ?_ | refine wN_blk ?_ | refine wN_bseq ?_ | (refine wOps_nil ?_; refine wN_reg ?_)
  refine wN_mov (v := iv (j : Int)) rfl <| wN_sub (a := (j : Int)) (b := 1) rfl rfl ⟨by omega, by omega⟩ <| wN_mov (v := iv ((j : Int) - 1)) rfl <| wN_end ?_
  exact hN _ _ (i + 1) (j - 1) _ (by omega) (pt.swap (by omega) (by omega) (by omega)) hk (hp.trans (PRm.swap (by omega) (by omega) (by omega) (by omega))) hc (by exact ⟨rfl, rfl, ivq (by omega), ivq (by omega), trivial⟩)
set_option maxRecDepth 100000 in
set_option maxHeartbeats 2000000 in
theorem part_C {bd cap n a b : Nat} {g0 g : Nat → Int} {H0 : Hp} (hlb : lo ≤ bd) (hn : n ≤ 1000000) (hb : b ≤ n) {i j : Nat} (hp : PRm a b g0 g) (hk : Keep H0 H [bd]) (hc : Cl H bd (cF n g)) (pt : Pt a b i j g) (u1 : i ≤ j → ¬ (g i < g a)) {S : Rg} (hS : Subs [(0, .slice (some ⟨bd, 0, none⟩) n cap), (1, iv (a : Int)), (10, iv ((i : Nat) : Int)), (11, iv ((j : Nat) : Int))] S) {K : Exit → Rg → Hp → Prop} {k : Nat} (hN : ∀ H' S' (i' j' : Nat) (g' : Nat → Int), j' + 1 - i' < k → Pt a b i' j' g' → Keep H0 H' [bd] → PRm a b g0 g' → Cl H' bd (cF n g') → Subs [(0, .slice (some ⟨bd, 0, none⟩) n cap), (1, iv (a : Int)), (10, iv ((i' : Nat) : Int)), (11, iv ((j' : Nat) : Int))] S' → K .normal S' H') (hX : ∀ H' S' (i' j' : Nat) (g' : Nat → Int), j' < i' → Pt a b i' j' g' → Keep H0 H' [bd] → PRm a b g0 g' → Cl H' bd (cF n g') → Subs [(0, .slice (some ⟨bd, 0, none⟩) n cap), (1, iv (a : Int)), (10, iv ((i' : Nat) : Int)), (11, iv ((j' : Nat) : Int))] S' → K (.exit 4) S' H') (hm : j + 1 - i ≤ k) : Tri Try.prog kn lo 168 false (at_ Try.f75 [1, 1, 1, 1, 1, 1, 1, 1, 1, 0, 0, 0, 0, 1]) S H K := by
 have qai := pt.ai; have qij := pt.ij; have qjb := pt.jb
 refine tri_lv V75C hS ?_
 have qai := pt.ai; have qij := pt.ij; have qjb := pt.jb
 refine loop_low (fn := Try.f75) E75_5 N75 L75x5 (fun uL4 : Nat => [(0, .slice (some ⟨bd, 0, none⟩) n cap), (1, iv (a : Int)), (10, iv (i : Int)), (11, iv (uL4 : Int))])
  (fun k uL4 H' => k = uL4 + 1 - i ∧ uL4 ≤ j ∧ Pt a b i uL4 g ∧ Keep H0 H' [bd] ∧ Cl H' bd (cF n g)) _ j ⟨rfl, Nat.le_refl _, pt, hk, hc⟩ ⟨rfl, rfl, rfl, ivq (by omega), trivial⟩ ?_
 rintro k uL4 L4 ⟨rfl, zuL4, pt, hk, hc⟩
 have qai := pt.ai; have qij := pt.ij; have qjb := pt.jb
 refine wD_seq <| wD_mov (v := iv (i : Int)) rfl <| wD_mov (v := iv (uL4 : Int)) rfl <| wD_b_leq (a := (i : Int)) (b := (uL4 : Int)) rfl rfl ?_
 intro t1 g1; cases t1
 ·have g1 : ¬ ((i : Int) ≤ (uL4 : Int)) := of_decide_eq_false g1
  refine wD_mov (v := .bool false) rfl <| wD_gs rfl <| wD_gs rfl <| wD_gs rfl <| wD_gs rfl <| wD_gs rfl <| wD_gs rfl <| wD_gs rfl <| wD_gs rfl <| wD_gs rfl <| wD_gs rfl <| wD_pur (v := .bool false) rfl rfl ?_
  refine wD_end (by repeat' first | exact True.intro | exact (fun h => h) | refine And.intro ?_ ?_ | (intro h; have h : (_ : Nat) = _ := h; omega)) ?_
  refine condF ?_
  have u2 : i ≤ uL4 → ¬ (¬ (g uL4 < g a)) := fun hh => by omega
  first | (refine wN_exit ?_; show wC _ _ _ _ _ _ _ _ _) | skip
  exact part_D hlb hn hb (i := i) (j := uL4) hp hk hc pt (fun _ => u1 (by omega)) u2 (by exact ⟨rfl, rfl, ivq (by omega), ivq (by omega), trivial⟩) hN hX (by omega)
 ·have g1 : (i : Int) ≤ (uL4 : Int) := of_decide_eq_true g1
  refine wD_mov (v := .bool true) rfl ?_
  refine wD_g rfl (wD_mov (v := .slice (some ⟨bd, 0, none⟩) n cap) rfl ?_)
  refine wD_g rfl (wD_mov (v := iv (uL4 : Int)) rfl ?_)
  refine wD_g rfl (wD_idx (b := bd) (o := 0) (k := uL4) (j := (uL4 : Int)) rfl rfl (by omega) (by omega) ?_)
  refine wD_g rfl (wD_ld (b := bd) (o := 0 + uL4 * 1) (v := iv (g uL4)) rfl hc.rd (cF_at (by omega)) ?_)
  refine wD_g rfl (wD_mov (v := .slice (some ⟨bd, 0, none⟩) n cap) rfl ?_)
  refine wD_g rfl (wD_mov (v := iv (a : Int)) rfl ?_)
  refine wD_g rfl (wD_idx (b := bd) (o := 0) (k := a) (j := (a : Int)) rfl rfl (by omega) (by omega) ?_)
  refine wD_g rfl (wD_ld (b := bd) (o := 0 + a * 1) (v := iv (g a)) rfl hc.rd (cF_at (by omega)) ?_)
  obtain ⟨H1, fH1, kH1⟩ := less_ok (kn := kn) (lo := lo) (H := L4) (g uL4) (g a)
  refine wD_g rfl (wD_callf (vs := [iv (g uL4), iv (g a)]) rfl (callX_args fH1) ?_)
  have mH1 := kH1.1
  have hc := kH1.cl hc (by simp)
  have hk := hk.trans (kH1.mono (by simp))
  refine wD_g rfl (wD_pur (v := .bool (!(decide (g uL4 < g a)))) rfl rfl ?_)
  refine wD_pur (v := .bool (!(decide (g uL4 < g a)))) rfl rfl ?_
  refine wD_end (by repeat' first | exact True.intro | exact (fun h => h) | refine And.intro ?_ ?_ | (intro h; have h : (_ : Nat) = _ := h; omega)) ?_
  refine And.intro (fun q2 => ?_) (fun q2 => ?_)
  ·have q2 : ¬ (g uL4 < g a) := by simpa using q2
   first | refine wN_skip ?_ | skip
   first | refine wN_reg ?_ | refine wN_blk ?_ | refine wN_bseq ?_ | (refine wOps_nil ?_; refine wN_reg ?_)
   refine wN_mov (v := iv (uL4 : Int)) rfl <| wN_sub (a := (uL4 : Int)) (b := 1) rfl rfl ⟨by omega, by omega⟩ <| wN_mov (v := iv ((uL4 : Int) - 1)) rfl <| wN_end ?_
   exact ⟨_, uL4 - 1, by omega, ⟨rfl, by omega, pt.down (by omega) (by omega), hk, hc⟩, rfl, rfl, rfl, ivq (by omega), trivial⟩
  ·have q2 : ¬ (¬ (g uL4 < g a)) := by simpa using q2
   have u2 : i ≤ uL4 → ¬ (¬ (g uL4 < g a)) := fun hh => by omega
   first | (refine wN_exit ?_; show wC _ _ _ _ _ _ _ _ _) | skip
   exact part_D hlb hn hb (i := i) (j := uL4) hp hk hc pt (fun _ => u1 (by omega)) u2 (by exact ⟨rfl, rfl, ivq (by omega), ivq (by omega), trivial⟩) hN hX (by omega)
set_option maxRecDepth 100000 in
set_option maxHeartbeats 2000000 in
theorem part_B {bd cap n a b : Nat} {g0 g : Nat → Int} {H0 : Hp} (hlb : lo ≤ bd) (hn : n ≤ 1000000) (hb : b ≤ n) {i j : Nat} (hp : PRm a b g0 g) (hk : Keep H0 H [bd]) (hc : Cl H bd (cF n g)) (pt : Pt a b i j g) (u1 : i ≤ j → ¬ (g i < g a)) (u2 : i ≤ j → ¬ (¬ (g j < g a))) {S : Rg} (hS : Subs [(0, .slice (some ⟨bd, 0, none⟩) n cap), (1, iv (a : Int)), (10, iv ((i : Nat) : Int)), (11, iv ((j : Nat) : Int))] S) {K : Exit → Rg → Hp → Prop} (hK : ∀ H' S' (m : Nat) (t : Bool) (g' : Nat → Int), a ≤ m → m < b → PRm a b g0 g' → Par_ (fun x : Int => x) a b m g' → Keep H0 H' [bd] → Cl H' bd (cF n g') → lk S' 8 = some (iv (m : Int)) → lk S' 9 = some (.bool t) → K .ret S' H') : Tri Try.prog kn lo 168 false (at_ Try.f75 [1, 1, 1, 1, 1]) S H K := by
 have qai := pt.ai; have qij := pt.ij; have qjb := pt.jb
 refine tri_lv V75B hS ?_
 refine wN_seq <| wN_mov (v := iv (i : Int)) rfl <| wN_mov (v := iv (j : Int)) rfl <| wN_c_gtr (a := (i : Int)) (b := (j : Int)) rfl rfl <| wN_end ?_
 refine And.intro (fun q1 => ?_) (fun q1 => ?_)
 ·have q1 : (i : Int) > (j : Int) := of_decide_eq_true q1
  have qai := pt.ai; have qij := pt.ij; have qjb := pt.jb
  refine wD_seq <| wD_mov (v := .slice (some ⟨bd, 0, none⟩) n cap) rfl <| wD_mov (v := iv (j : Int)) rfl <| wD_mov (v := .slice (some ⟨bd, 0, none⟩) n cap) rfl <| wD_mov (v := iv (a : Int)) rfl <| wD_mov (v := .slice (some ⟨bd, 0, none⟩) n cap) rfl <| wD_mov (v := iv (a : Int)) rfl <| wD_idx (b := bd) (o := 0) (k := a) (j := (a : Int)) rfl rfl (by omega) (by omega) <| wD_ld (b := bd) (o := 0 + a * 1) (v := iv (g a)) rfl hc.rd (cF_at (by omega)) <| wD_mov (v := .slice (some ⟨bd, 0, none⟩) n cap) rfl <| wD_mov (v := iv (j : Int)) rfl <| wD_idx (b := bd) (o := 0) (k := j) (j := (j : Int)) rfl rfl (by omega) (by omega) ?_
  refine wD_ld (b := bd) (o := 0 + j * 1) (v := iv (g j)) rfl hc.rd (cF_at (by omega)) <| wD_idx (b := bd) (o := 0) (k := j) (j := (j : Int)) rfl rfl (by omega) (by omega) <| wD_st (b := bd) (o := 0 + j * 1) rfl rfl hc hlb rfl rfl (by rw [cF_len]; omega) ?_
  intro H1 kH1 nH1 sH1
  have mH1 := kH1.1
  have hk := hk.trans kH1
  rw [cF_set (by omega)] at sH1
  have hc := sH1
  refine wD_idx (b := bd) (o := 0) (k := a) (j := (a : Int)) rfl rfl (by omega) (by omega) <| wD_st (b := bd) (o := 0 + a * 1) rfl rfl hc hlb rfl rfl (by rw [cF_len]; omega) ?_
  intro H2 kH2 nH2 sH2
  have mH2 := kH2.1
  have hk := hk.trans kH2
  rw [cF_set (by omega)] at sH2
  have hc := sH2
  have hc : Cl H2 bd (cF n (swp g j a)) := hc
  refine wD_end (by repeat' first | exact True.intro | exact (fun h => h) | refine And.intro ?_ ?_ | (intro h; have h : (_ : Nat) = _ := h; omega)) ?_
  refine wN_seq <| wN_mov (v := iv (j : Int)) rfl <| wN_mov (v := iv (j : Int)) rfl <| wN_mov (v := .bool true) rfl <| wN_end ?_
  obtain ⟨hpa, haj⟩ := pt.fin (by omega)
  exact hK _ _ (j) true _ haj (by omega) (hp.trans (PRm.swap (by omega) (by omega) (by omega) (by omega))) hpa hk hc rfl rfl
 ·have q1 : ¬ ((i : Int) > (j : Int)) := of_decide_eq_false q1
  have qai := pt.ai; have qij := pt.ij; have qjb := pt.jb
  first | refine wN_skip ?_ | skip
  refine wD_seq <| wD_mov (v := .slice (some ⟨bd, 0, none⟩) n cap) rfl <| wD_mov (v := iv (i : Int)) rfl <| wD_mov (v := .slice (some ⟨bd, 0, none⟩) n cap) rfl <| wD_mov (v := iv (j : Int)) rfl <| wD_mov (v := .slice (some ⟨bd, 0, none⟩) n cap) rfl <| wD_mov (v := iv (j : Int)) rfl <| wD_idx (b := bd) (o := 0) (k := j) (j := (j : Int)) rfl rfl (by omega) (by omega) <| wD_ld (b := bd) (o := 0 + j * 1) (v := iv (g j)) rfl hc.rd (cF_at (by omega)) <| wD_mov (v := .slice (some ⟨bd, 0, none⟩) n cap) rfl <| wD_mov (v := iv (i : Int)) rfl <| wD_idx (b := bd) (o := 0) (k := i) (j := (i : Int)) rfl rfl (by omega) (by omega) ?_
  refine wD_ld (b := bd) (o := 0 + i * 1) (v := iv (g i)) rfl hc.rd (cF_at (by omega)) <| wD_idx (b := bd) (o := 0) (k := i) (j := (i : Int)) rfl rfl (by omega) (by omega) <| wD_st (b := bd) (o := 0 + i * 1) rfl rfl hc hlb rfl rfl (by rw [cF_len]; omega) ?_
  intro H3 kH3 nH3 sH3
  have mH3 := kH3.1
  have hk := hk.trans kH3
  rw [cF_set (by omega)] at sH3
  have hc := sH3
  refine wD_idx (b := bd) (o := 0) (k := j) (j := (j : Int)) rfl rfl (by omega) (by omega) <| wD_st (b := bd) (o := 0 + j * 1) rfl rfl hc hlb rfl rfl (by rw [cF_len]; omega) ?_
  intro H4 kH4 nH4 sH4
  have mH4 := kH4.1
  have hk := hk.trans kH4
  rw [cF_set (by omega)] at sH4
  have hc := sH4
  have hc : Cl H4 bd (cF n (swp g i j)) := hc
  refine wD_end (by repeat' first | exact True.intro | exact (fun h => h) | refine And.intro ?_ ?_ | (intro h; have h : (_ : Nat) = _ := h; omega)) ?_
  refine wN_seq <| wN_mov (v := iv (i : Int)) rfl <| wN_add (a := (i : Int)) (b := 1) rfl rfl ⟨by omega, by omega⟩ <| wN_mov (v := iv ((i : Int) + 1)) rfl <| wN_end <| wN_seq <| wN_mov (v := iv (j : Int)) rfl <| wN_sub (a := (j : Int)) (b := 1) rfl rfl ⟨by omega, by omega⟩ <| wN_mov (v := iv ((j : Int) - 1)) rfl <| wN_end ?_
  refine loop_lv E75_3 V75x3 (fun x : Nat × Nat => [(0, .slice (some ⟨bd, 0, none⟩) n cap), (1, iv (a : Int)), (10, iv (x.1 : Int)), (11, iv (x.2 : Int))])
   (fun k x H' => k = x.2 + 1 - x.1 ∧ ∃ g' : Nat → Int, Pt a b x.1 x.2 g' ∧ Keep H0 H' [bd] ∧ PRm a b g0 g' ∧ Cl H' bd (cF n g')) _ (i + 1, j - 1) ⟨rfl, (swp g i j), pt.swap (by omega) (by omega) (by omega), hk, hp.trans (PRm.swap (by omega) (by omega) (by omega) (by omega)), hc⟩ ⟨rfl, rfl, ivq (by simp only []; omega), ivq (by simp only []; omega), trivial⟩ ?_
  clear pt hk hp hc
  rintro k ⟨i, j⟩ L1 ⟨rfl, g3, pt, hk, hp, hc⟩
  have qai := pt.ai; have qij := pt.ij; have qjb := pt.jb; simp only [] at qai qij qjb
  have qai := pt.ai; have qij := pt.ij; have qjb := pt.jb
  refine loop_low (fn := Try.f75) E75_4 N75 L75x4 (fun uL5 : Nat => [(0, .slice (some ⟨bd, 0, none⟩) n cap), (1, iv (a : Int)), (11, iv (j : Int)), (10, iv (uL5 : Int))])
   (fun k uL5 H' => k = j + 1 - uL5 ∧ i ≤ uL5 ∧ Pt a b uL5 j g3 ∧ Keep H0 H' [bd] ∧ Cl H' bd (cF n g3)) _ i ⟨rfl, Nat.le_refl _, pt, hk, hc⟩ ⟨rfl, rfl, rfl, ivq (by omega), trivial⟩ ?_
  rintro k uL5 L5 ⟨rfl, zuL5, pt, hk, hc⟩
  have qai := pt.ai; have qij := pt.ij; have qjb := pt.jb
  refine wD_seq <| wD_mov (v := iv (uL5 : Int)) rfl <| wD_mov (v := iv (j : Int)) rfl <| wD_b_leq (a := (uL5 : Int)) (b := (j : Int)) rfl rfl ?_
  intro t2 g2; cases t2
  ·have g2 : ¬ ((uL5 : Int) ≤ (j : Int)) := of_decide_eq_false g2
   refine wD_mov (v := .bool false) rfl <| wD_gs rfl <| wD_gs rfl <| wD_gs rfl <| wD_gs rfl <| wD_gs rfl <| wD_gs rfl <| wD_gs rfl <| wD_gs rfl <| wD_gs rfl <| wD_pur (v := .bool false) rfl rfl ?_
   refine wD_end (by repeat' first | exact True.intro | exact (fun h => h) | refine And.intro ?_ ?_ | (intro h; have h : (_ : Nat) = _ := h; omega)) ?_
   refine condF ?_
   have u1 : uL5 ≤ j → ¬ (g3 uL5 < g3 a) := fun hh => by omega
   first | (refine wN_exit ?_; show wC _ _ _ _ _ _ _ _ _) | skip
   refine part_C hlb hn hb (i := uL5) (j := j) (g0 := g0) (H0 := H0) (k := (i, j).2 + 1 - (i, j).1) hp hk hc pt u1 (by exact ⟨rfl, rfl, ivq (by omega), ivq (by omega), trivial⟩) ?_ ?_ (by simp only []; omega)
   ·intro H' S' i' j' g' h1 h2 h3 h4 h5 h6
    have hz : ∃ k' x, k' < (i, j).2 + 1 - (i, j).1 ∧ ((fun (k : Nat) (x : Nat × Nat) (H' : Hp) => k = x.2 + 1 - x.1 ∧ ∃ g' : Nat → Int, Pt a b x.1 x.2 g' ∧ Keep H0 H' [bd] ∧ PRm a b g0 g' ∧ Cl H' bd (cF n g')) k' x H') ∧ Subs ((fun x : Nat × Nat => [(0, .slice (some ⟨bd, 0, none⟩) n cap), (1, iv (a : Int)), (10, iv (x.1 : Int)), (11, iv (x.2 : Int))]) x) S' := ⟨_, (i', j'), h1, ⟨rfl, g', h2, h3, h4, h5⟩, h6⟩
    exact hz
   ·intro H' S' i' j' g' h1 h2 h3 h4 h5 h6
    exact part_F hlb hn hb h4 h3 h5 h2 h1 h6 hK
  ·have g2 : (uL5 : Int) ≤ (j : Int) := of_decide_eq_true g2
   refine wD_mov (v := .bool true) rfl ?_
   refine wD_g rfl (wD_mov (v := .slice (some ⟨bd, 0, none⟩) n cap) rfl ?_)
   refine wD_g rfl (wD_mov (v := iv (uL5 : Int)) rfl ?_)
   refine wD_g rfl (wD_idx (b := bd) (o := 0) (k := uL5) (j := (uL5 : Int)) rfl rfl (by omega) (by omega) ?_)
   refine wD_g rfl (wD_ld (b := bd) (o := 0 + uL5 * 1) (v := iv (g3 uL5)) rfl hc.rd (cF_at (by omega)) ?_)
   refine wD_g rfl (wD_mov (v := .slice (some ⟨bd, 0, none⟩) n cap) rfl ?_)
   refine wD_g rfl (wD_mov (v := iv (a : Int)) rfl ?_)
   refine wD_g rfl (wD_idx (b := bd) (o := 0) (k := a) (j := (a : Int)) rfl rfl (by omega) (by omega) ?_)
   refine wD_g rfl (wD_ld (b := bd) (o := 0 + a * 1) (v := iv (g3 a)) rfl hc.rd (cF_at (by omega)) ?_)
   obtain ⟨H5, fH5, kH5⟩ := less_ok (kn := kn) (lo := lo) (H := L5) (g3 uL5) (g3 a)
   refine wD_g rfl (wD_callf (vs := [iv (g3 uL5), iv (g3 a)]) rfl (callX_args fH5) ?_)
   have mH5 := kH5.1
   have hc := kH5.cl hc (by simp)
   have hk := hk.trans (kH5.mono (by simp))
   refine wD_pur (v := .bool (decide (g3 uL5 < g3 a))) rfl rfl ?_
   refine wD_end (by repeat' first | exact True.intro | exact (fun h => h) | refine And.intro ?_ ?_ | (intro h; have h : (_ : Nat) = _ := h; omega)) ?_
   refine And.intro (fun q3 => ?_) (fun q3 => ?_)
   ·have q3 : g3 uL5 < g3 a := of_decide_eq_true q3
    first | refine wN_skip ?_ | skip
    first | refine wN_reg ?_ | refine wN_blk ?_ | refine wN_bseq ?_ | (refine wOps_nil ?_; refine wN_reg ?_)
    refine wN_mov (v := iv (uL5 : Int)) rfl <| wN_add (a := (uL5 : Int)) (b := 1) rfl rfl ⟨by omega, by omega⟩ <| wN_mov (v := iv ((uL5 : Int) + 1)) rfl <| wN_end ?_
    exact ⟨_, uL5 + 1, by omega, ⟨rfl, by omega, pt.up (by omega) (by omega), hk, hc⟩, rfl, rfl, rfl, ivq (by omega), trivial⟩
   ·have q3 : ¬ (g3 uL5 < g3 a) := of_decide_eq_false q3
    have u1 : uL5 ≤ j → ¬ (g3 uL5 < g3 a) := fun hh => by omega
    first | (refine wN_exit ?_; show wC _ _ _ _ _ _ _ _ _) | skip
    refine part_C hlb hn hb (i := uL5) (j := j) (g0 := g0) (H0 := H0) (k := (i, j).2 + 1 - (i, j).1) hp hk hc pt u1 (by exact ⟨rfl, rfl, ivq (by omega), ivq (by omega), trivial⟩) ?_ ?_ (by simp only []; omega)
    ·intro H' S' i' j' g' h1 h2 h3 h4 h5 h6
     have hz : ∃ k' x, k' < (i, j).2 + 1 - (i, j).1 ∧ ((fun (k : Nat) (x : Nat × Nat) (H' : Hp) => k = x.2 + 1 - x.1 ∧ ∃ g' : Nat → Int, Pt a b x.1 x.2 g' ∧ Keep H0 H' [bd] ∧ PRm a b g0 g' ∧ Cl H' bd (cF n g')) k' x H') ∧ Subs ((fun x : Nat × Nat => [(0, .slice (some ⟨bd, 0, none⟩) n cap), (1, iv (a : Int)), (10, iv (x.1 : Int)), (11, iv (x.2 : Int))]) x) S' := ⟨_, (i', j'), h1, ⟨rfl, g', h2, h3, h4, h5⟩, h6⟩
     exact hz
    ·intro H' S' i' j' g' h1 h2 h3 h4 h5 h6
     exact part_F hlb hn hb h4 h3 h5 h2 h1 h6 hK
set_option maxRecDepth 100000 in
set_option maxHeartbeats 2000000 in
theorem part_A {bd cap n a b : Nat} {g0 g : Nat → Int} {H0 : Hp} (hlb : lo ≤ bd) (hn : n ≤ 1000000) (hb : b ≤ n) {i j : Nat} (hp : PRm a b g0 g) (hk : Keep H0 H [bd]) (hc : Cl H bd (cF n g)) (pt : Pt a b i j g) (u1 : i ≤ j → ¬ (g i < g a)) {S : Rg} (hS : Subs [(0, .slice (some ⟨bd, 0, none⟩) n cap), (1, iv (a : Int)), (10, iv ((i : Nat) : Int)), (11, iv ((j : Nat) : Int))] S) {K : Exit → Rg → Hp → Prop} (hK : ∀ H' S' (m : Nat) (t : Bool) (g' : Nat → Int), a ≤ m → m < b → PRm a b g0 g' → Par_ (fun x : Int => x) a b m g' → Keep H0 H' [bd] → Cl H' bd (cF n g') → lk S' 8 = some (iv (m : Int)) → lk S' 9 = some (.bool t) → K .ret S' H') : Tri Try.prog kn lo 168 false (at_ Try.f75 [1, 1, 1, 1]) S H K := by
 have qai := pt.ai; have qij := pt.ij; have qjb := pt.jb
 refine tri_lv V75A hS ?_
 have qai := pt.ai; have qij := pt.ij; have qjb := pt.jb
 refine loop_low (fn := Try.f75) E75_2 N75 L75x2 (fun uL6 : Nat => [(0, .slice (some ⟨bd, 0, none⟩) n cap), (1, iv (a : Int)), (10, iv (i : Int)), (11, iv (uL6 : Int))])
  (fun k uL6 H' => k = uL6 + 1 - i ∧ uL6 ≤ j ∧ Pt a b i uL6 g ∧ Keep H0 H' [bd] ∧ Cl H' bd (cF n g)) _ j ⟨rfl, Nat.le_refl _, pt, hk, hc⟩ ⟨rfl, rfl, rfl, ivq (by omega), trivial⟩ ?_
 rintro k uL6 L6 ⟨rfl, zuL6, pt, hk, hc⟩
 have qai := pt.ai; have qij := pt.ij; have qjb := pt.jb
 refine wD_seq <| wD_mov (v := iv (i : Int)) rfl <| wD_mov (v := iv (uL6 : Int)) rfl <| wD_b_leq (a := (i : Int)) (b := (uL6 : Int)) rfl rfl ?_
 intro t1 g1; cases t1
 ·have g1 : ¬ ((i : Int) ≤ (uL6 : Int)) := of_decide_eq_false g1
  refine wD_mov (v := .bool false) rfl <| wD_gs rfl <| wD_gs rfl <| wD_gs rfl <| wD_gs rfl <| wD_gs rfl <| wD_gs rfl <| wD_gs rfl <| wD_gs rfl <| wD_gs rfl <| wD_gs rfl <| wD_pur (v := .bool false) rfl rfl ?_
  refine wD_end (by repeat' first | exact True.intro | exact (fun h => h) | refine And.intro ?_ ?_ | (intro h; have h : (_ : Nat) = _ := h; omega)) ?_
  refine condF ?_
  have u2 : i ≤ uL6 → ¬ (¬ (g uL6 < g a)) := fun hh => by omega
  first | (refine wN_exit ?_; show wC _ _ _ _ _ _ _ _ _) | skip
  exact part_B hlb hn hb (i := i) (j := uL6) hp hk hc pt (fun _ => u1 (by omega)) u2 (by exact ⟨rfl, rfl, ivq (by omega), ivq (by omega), trivial⟩) hK
 ·have g1 : (i : Int) ≤ (uL6 : Int) := of_decide_eq_true g1
  refine wD_mov (v := .bool true) rfl ?_
  refine wD_g rfl (wD_mov (v := .slice (some ⟨bd, 0, none⟩) n cap) rfl ?_)
  refine wD_g rfl (wD_mov (v := iv (uL6 : Int)) rfl ?_)
  refine wD_g rfl (wD_idx (b := bd) (o := 0) (k := uL6) (j := (uL6 : Int)) rfl rfl (by omega) (by omega) ?_)
  refine wD_g rfl (wD_ld (b := bd) (o := 0 + uL6 * 1) (v := iv (g uL6)) rfl hc.rd (cF_at (by omega)) ?_)
  refine wD_g rfl (wD_mov (v := .slice (some ⟨bd, 0, none⟩) n cap) rfl ?_)
  refine wD_g rfl (wD_mov (v := iv (a : Int)) rfl ?_)
  refine wD_g rfl (wD_idx (b := bd) (o := 0) (k := a) (j := (a : Int)) rfl rfl (by omega) (by omega) ?_)
  refine wD_g rfl (wD_ld (b := bd) (o := 0 + a * 1) (v := iv (g a)) rfl hc.rd (cF_at (by omega)) ?_)
  obtain ⟨H1, fH1, kH1⟩ := less_ok (kn := kn) (lo := lo) (H := L6) (g uL6) (g a)
  refine wD_g rfl (wD_callf (vs := [iv (g uL6), iv (g a)]) rfl (callX_args fH1) ?_)
  have mH1 := kH1.1
  have hc := kH1.cl hc (by simp)
  have hk := hk.trans (kH1.mono (by simp))
  refine wD_g rfl (wD_pur (v := .bool (!(decide (g uL6 < g a)))) rfl rfl ?_)
  refine wD_pur (v := .bool (!(decide (g uL6 < g a)))) rfl rfl ?_
  refine wD_end (by repeat' first | exact True.intro | exact (fun h => h) | refine And.intro ?_ ?_ | (intro h; have h : (_ : Nat) = _ := h; omega)) ?_
  refine And.intro (fun q2 => ?_) (fun q2 => ?_)
  ·have q2 : ¬ (g uL6 < g a) := by simpa using q2
   first | refine wN_skip ?_ | skip
   first | refine wN_reg ?_ | refine wN_blk ?_ | refine wN_bseq ?_ | (refine wOps_nil ?_; refine wN_reg ?_)
   refine wN_mov (v := iv (uL6 : Int)) rfl <| wN_sub (a := (uL6 : Int)) (b := 1) rfl rfl ⟨by omega, by omega⟩ <| wN_mov (v := iv ((uL6 : Int) - 1)) rfl <| wN_end ?_
   exact ⟨_, uL6 - 1, by omega, ⟨rfl, by omega, pt.down (by omega) (by omega), hk, hc⟩, rfl, rfl, rfl, ivq (by omega), trivial⟩
  ·have q2 : ¬ (¬ (g uL6 < g a)) := by simpa using q2
   have u2 : i ≤ uL6 → ¬ (¬ (g uL6 < g a)) := fun hh => by omega
   first | (refine wN_exit ?_; show wC _ _ _ _ _ _ _ _ _) | skip
   exact part_B hlb hn hb (i := i) (j := uL6) hp hk hc pt (fun _ => u1 (by omega)) u2 (by exact ⟨rfl, rfl, ivq (by omega), ivq (by omega), trivial⟩) hK
set_option maxRecDepth 100000 in
set_option maxHeartbeats 2000000 in
theorem part_ok (hlo : lo ≤ H.next) {bd cap n : Nat} {g : Nat → Int} (hlb : lo ≤ bd) (hn : n ≤ 1000000) (hc : Cl H bd (cF n g)) {a b p : Nat} (hap : a ≤ p) (hpb : p < b) (hb : b ≤ n) : ∃ H' m t g', FnX Try.prog kn lo 75 [.slice (some ⟨bd, 0, none⟩) n cap, iv (a : Int), iv (b : Int), iv (p : Int)] H (.tuple #[iv ((m : Nat) : Int), .bool t]) H' ∧ a ≤ m ∧ m < b ∧ PRm a b g g' ∧ Par_ (fun x : Int => x) a b m g' ∧ Keep H H' [bd] ∧ Cl H' bd (cF n g') := by
 have key := fnX_lv (kn := kn) (lo := lo) (H := H) (args := [.slice (some ⟨bd, 0, none⟩) n cap, iv (a : Int), iv (b : Int), iv (p : Int)]) (Q := fun w H' => ∃ (m : Nat) (t : Bool) (g' : Nat → Int), w = .tuple #[iv (m : Int), .bool t] ∧ a ≤ m ∧ m < b ∧ PRm a b g g' ∧ Par_ (fun x : Int => x) a b m g' ∧ Keep H H' [bd] ∧ Cl H' bd (cF n g')) Try.func75 B75 N75 Z75 V75 (by simp) ?_
 ·obtain ⟨w, H', h, m, t, g', rfl, r⟩ := key; exact ⟨H', m, t, g', h, r⟩
 have hk := Keep.refl H [bd]
 refine wN_seq <| wN_mov (v := iv 0) rfl <| wN_mov (v := .bool false) rfl <| wN_end <| wD_seq <| wD_mov (v := .slice (some ⟨bd, 0, none⟩) n cap) rfl <| wD_mov (v := iv (a : Int)) rfl <| wD_mov (v := .slice (some ⟨bd, 0, none⟩) n cap) rfl <| wD_mov (v := iv (p : Int)) rfl <| wD_mov (v := .slice (some ⟨bd, 0, none⟩) n cap) rfl <| wD_mov (v := iv (p : Int)) rfl <| wD_idx (b := bd) (o := 0) (k := p) (j := (p : Int)) rfl rfl (by omega) (by omega) ?_
 refine wD_ld (b := bd) (o := 0 + p * 1) (v := iv (g p)) rfl hc.rd (cF_at (by omega)) <| wD_mov (v := .slice (some ⟨bd, 0, none⟩) n cap) rfl <| wD_mov (v := iv (a : Int)) rfl <| wD_idx (b := bd) (o := 0) (k := a) (j := (a : Int)) rfl rfl (by omega) (by omega) <| wD_ld (b := bd) (o := 0 + a * 1) (v := iv (g a)) rfl hc.rd (cF_at (by omega)) <| wD_idx (b := bd) (o := 0) (k := a) (j := (a : Int)) rfl rfl (by omega) (by omega) <| wD_st (b := bd) (o := 0 + a * 1) rfl rfl hc hlb rfl rfl (by rw [cF_len]; omega) ?_
 intro H1 kH1 nH1 sH1
 have mH1 := kH1.1
 have hk := hk.trans kH1
 rw [cF_set (by omega)] at sH1
 have hc := sH1
 refine wD_idx (b := bd) (o := 0) (k := p) (j := (p : Int)) rfl rfl (by omega) (by omega) <| wD_st (b := bd) (o := 0 + p * 1) rfl rfl hc hlb rfl rfl (by rw [cF_len]; omega) ?_
 intro H2 kH2 nH2 sH2
 have mH2 := kH2.1
 have hk := hk.trans kH2
 rw [cF_set (by omega)] at sH2
 have hc := sH2
 have hc : Cl H2 bd (cF n (swp g a p)) := hc
 refine wD_end (by repeat' first | exact True.intro | exact (fun h => h) | refine And.intro ?_ ?_ | (intro h; have h : (_ : Nat) = _ := h; omega)) ?_
 refine wN_seq <| wN_mov (v := iv (a : Int)) rfl <| wN_add (a := (a : Int)) (b := 1) rfl rfl ⟨by omega, by omega⟩ <| wN_mov (v := iv (b : Int)) rfl <| wN_sub (a := (b : Int)) (b := 1) rfl rfl ⟨by omega, by omega⟩ <| wN_mov (v := iv ((a : Int) + 1)) rfl <| wN_mov (v := iv ((b : Int) - 1)) rfl <| wN_end ?_
 have hp : PRm a b g (swp g a p) := PRm.swap (by omega) (by omega) (by omega) (by omega)
 have pt : Pt a b (a + 1) (b - 1) (swp g a p) := Pt.init (by omega)
 have qai := pt.ai; have qij := pt.ij; have qjb := pt.jb
 refine loop_low (fn := Try.f75) E75_1 N75 L75x1 (fun uL7 : Nat => [(0, .slice (some ⟨bd, 0, none⟩) n cap), (1, iv (a : Int)), (11, iv ((b : Int) - 1)), (10, iv (uL7 : Int))])
  (fun k uL7 H' => k = (b - 1) + 1 - uL7 ∧ (a + 1) ≤ uL7 ∧ Pt a b uL7 (b - 1) (swp g a p) ∧ Keep H H' [bd] ∧ Cl H' bd (cF n (swp g a p))) _ (a + 1) ⟨rfl, Nat.le_refl _, pt, hk, hc⟩ ⟨rfl, rfl, rfl, ivq (by omega), trivial⟩ ?_
 rintro k uL7 L7 ⟨rfl, zuL7, pt, hk, hc⟩
 have qai := pt.ai; have qij := pt.ij; have qjb := pt.jb
 refine wD_seq <| wD_mov (v := iv (uL7 : Int)) rfl <| wD_mov (v := iv ((b : Int) - 1)) rfl <| wD_b_leq (a := (uL7 : Int)) (b := (b : Int) - 1) rfl rfl ?_
 intro t1 g1; cases t1
 ·have g1 : ¬ ((uL7 : Int) ≤ ((b : Int) - 1)) := of_decide_eq_false g1
  refine wD_mov (v := .bool false) rfl <| wD_gs rfl <| wD_gs rfl <| wD_gs rfl <| wD_gs rfl <| wD_gs rfl <| wD_gs rfl <| wD_gs rfl <| wD_gs rfl <| wD_gs rfl <| wD_pur (v := .bool false) rfl rfl ?_
  refine wD_end (by repeat' first | exact True.intro | exact (fun h => h) | refine And.intro ?_ ?_ | (intro h; have h : (_ : Nat) = _ := h; omega)) ?_
  refine condF ?_
  have u1 : uL7 ≤ (b - 1) → ¬ ((swp g a p) uL7 < (swp g a p) a) := fun hh => by omega
  first | (refine wN_exit ?_; show wC _ _ _ _ _ _ _ _ _) | skip
  exact part_A hlb hn hb (i := uL7) (j := (b - 1)) (g0 := g) (H0 := H) hp hk hc pt u1 (by exact ⟨rfl, rfl, ivq (by omega), ivq (by omega), trivial⟩) (fun H' S' m t g' h1 h2 h3 h4 h5 h6 h8 h9 => And.intro trivial (Exists.intro _ (And.intro (res_tt h8 h9) ⟨m, t, g', rfl, h1, h2, h3, h4, h5, h6⟩)))
 ·have g1 : (uL7 : Int) ≤ ((b : Int) - 1) := of_decide_eq_true g1
  refine wD_mov (v := .bool true) rfl ?_
  refine wD_g rfl (wD_mov (v := .slice (some ⟨bd, 0, none⟩) n cap) rfl ?_)
  refine wD_g rfl (wD_mov (v := iv (uL7 : Int)) rfl ?_)
  refine wD_g rfl (wD_idx (b := bd) (o := 0) (k := uL7) (j := (uL7 : Int)) rfl rfl (by omega) (by omega) ?_)
  refine wD_g rfl (wD_ld (b := bd) (o := 0 + uL7 * 1) (v := iv ((swp g a p) uL7)) rfl hc.rd (cF_at (by omega)) ?_)
  refine wD_g rfl (wD_mov (v := .slice (some ⟨bd, 0, none⟩) n cap) rfl ?_)
  refine wD_g rfl (wD_mov (v := iv (a : Int)) rfl ?_)
  refine wD_g rfl (wD_idx (b := bd) (o := 0) (k := a) (j := (a : Int)) rfl rfl (by omega) (by omega) ?_)
  refine wD_g rfl (wD_ld (b := bd) (o := 0 + a * 1) (v := iv ((swp g a p) a)) rfl hc.rd (cF_at (by omega)) ?_)
  obtain ⟨H3, fH3, kH3⟩ := less_ok (kn := kn) (lo := lo) (H := L7) ((swp g a p) uL7) ((swp g a p) a)
  refine wD_g rfl (wD_callf (vs := [iv ((swp g a p) uL7), iv ((swp g a p) a)]) rfl (callX_args fH3) ?_)
  have mH3 := kH3.1
  have hc := kH3.cl hc (by simp)
  have hk := hk.trans (kH3.mono (by simp))
  refine wD_pur (v := .bool (decide ((swp g a p) uL7 < (swp g a p) a))) rfl rfl ?_
  refine wD_end (by repeat' first | exact True.intro | exact (fun h => h) | refine And.intro ?_ ?_ | (intro h; have h : (_ : Nat) = _ := h; omega)) ?_
  refine And.intro (fun q2 => ?_) (fun q2 => ?_)
  ·have q2 : (swp g a p) uL7 < (swp g a p) a := of_decide_eq_true q2
   first | refine wN_skip ?_ | skip
   first | refine wN_reg ?_ | refine wN_blk ?_ | refine wN_bseq ?_ | (refine wOps_nil ?_; refine wN_reg ?_)
   refine wN_mov (v := iv (uL7 : Int)) rfl <| wN_add (a := (uL7 : Int)) (b := 1) rfl rfl ⟨by omega, by omega⟩ <| wN_mov (v := iv ((uL7 : Int) + 1)) rfl <| wN_end ?_
   exact ⟨_, uL7 + 1, by omega, ⟨rfl, by omega, pt.up (by omega) (by omega), hk, hc⟩, rfl, rfl, rfl, ivq (by omega), trivial⟩
  ·have q2 : ¬ ((swp g a p) uL7 < (swp g a p) a) := of_decide_eq_false q2
   have u1 : uL7 ≤ (b - 1) → ¬ ((swp g a p) uL7 < (swp g a p) a) := fun hh => by omega
   first | (refine wN_exit ?_; show wC _ _ _ _ _ _ _ _ _) | skip
   exact part_A hlb hn hb (i := uL7) (j := (b - 1)) (g0 := g) (H0 := H) hp hk hc pt u1 (by exact ⟨rfl, rfl, ivq (by omega), ivq (by omega), trivial⟩) (fun H' S' m t g' h1 h2 h3 h4 h5 h6 h8 h9 => And.intro trivial (Exists.intro _ (And.intro (res_tt h8 h9) ⟨m, t, g', rfl, h1, h2, h3, h4, h5, h6⟩)))
end
end
end Go.Ax

/-
 Pool: sorting: heaps (written by program).
-/
namespace Go.Ax
open Go Go.RowKit Go.Proofs

noncomputable section
theorem heap_pop {f hi i : Nat} {g : Nat → Int} (hs : ∀ p q, p ≤ q → q < hi → i + 1 ≤ q → g (f + p) ≤ g (f + q)) (hh : Hp_ (fun x : Int => x) f 0 (i + 1) g) (_hi : i < hi) :
  Hea (fun x : Int => x) f 0 i 0 (swp g f (f + i)) ∧ ∀ g', PRm (f + 0) (f + i) (swp g f (f + i)) g' → ∀ p q, p ≤ q → q < hi → i ≤ q → g' (f + p) ≤ g' (f + q) := by
 have top : ∀ p, p ≤ i → g (f + p) ≤ g f := fun p hp => by
  have := hh.top p (by omega)
  simpa using this
 constructor
 ·intro k c h1 h2 h3 h4
  show swp g f (f + i) (f + c) ≤ swp g f (f + i) (f + k)
  rw [swp_n (by omega) (by omega), swp_n (by omega) (by omega)]
  exact hh k c h1 h2 (by omega)
 ·intro g' hp
  have key : ∀ p q, p ≤ q → q < hi → i ≤ q → swp g f (f + i) (f + p) ≤ swp g f (f + i) (f + q) := by
   intro p q h1 h2 h3
   by_cases e : q = i
   ·subst e
    rw [swp_r]
    by_cases e2 : p = q
    ·subst e2; rw [swp_r]; exact Int.le_refl _
    ·by_cases e3 : p = 0
     ·subst e3; rw [Nat.add_zero, swp_l]; exact top q (Nat.le_refl _)
     ·rw [swp_n (by omega) (by omega)]; exact top p (by omega)
   ·rw [swp_n (k := f + q) (by omega) (by omega)]
    by_cases e2 : p = i
    ·subst e2; rw [swp_r]; have := hs 0 q (by omega) h2 (by omega); simpa using this
    ·by_cases e3 : p = 0
     ·subst e3; rw [Nat.add_zero, swp_l]; exact hs i q h3 h2 (by omega)
     ·rw [swp_n (by omega) (by omega)]; exact hs p q h1 h2 (by omega)
  intro p q h1 h2 h3
  rw [hp.out (f + q) (.inr (by omega))]
  by_cases e : i ≤ p
  ·rw [hp.out (f + p) (.inr (by omega))]; exact key p q h1 h2 h3
  ·obtain ⟨k, k1, k2, e2⟩ := hp.mem (i := f + p) (by omega) (by omega)
   rw [e2, show k = f + (k - f) by omega]
   exact key (k - f) q (by omega) h2 h3
section
variable {kn : Kn} {lo : Nat} {H : Hp}
theorem sift_ok (hlo : lo ≤ H.next) {bd cap n : Nat} {g : Nat → Int} (hlb : lo ≤ bd) (hn : n ≤ 1000000) (hc : Cl H bd (cF n g)) {l hi f : Nat} (hfn : f + hi ≤ n) (hln : l ≤ n) (hea : Hea (fun x : Int => x) f l hi l g) : ∃ H' g', FnX Try.prog kn lo 78 [.slice (some ⟨bd, 0, none⟩) n cap, iv (l : Int), iv (hi : Int), iv (f : Int)] H (.tuple #[]) H' ∧ Hp_ (fun x : Int => x) f l hi g' ∧ PRm (f + l) (f + hi) g g' ∧ Keep H H' [bd] ∧ Cl H' bd (cF n g') := by
 have key := fnX_low (kn := kn) (lo := lo) (H := H) (args := [.slice (some ⟨bd, 0, none⟩) n cap, iv (l : Int), iv (hi : Int), iv (f : Int)]) (Q := fun w H' => w = .tuple #[] ∧ ∃ g' : Nat → Int, Hp_ (fun x : Int => x) f l hi g' ∧ PRm (f + l) (f + hi) g g' ∧ Keep H H' [bd] ∧ Cl H' bd (cF n g')) Try.func78 B78 N78 Z78 L78 (by simp) ?_
 ·obtain ⟨w, H', h, rfl, g', r⟩ := key; exact ⟨H', g', h, r⟩
 have hk := Keep.refl H [bd]
 refine wN_seq <| wN_mov (v := iv (l : Int)) rfl <| wN_mov (v := iv (l : Int)) rfl <| wN_end ?_
 refine loop_low (fn := Try.f78) E78_1 N78 L78x1 (fun root : Nat => [(0, .slice (some ⟨bd, 0, none⟩) n cap), (2, iv (hi : Int)), (3, iv (f : Int)), (8, iv (root : Int))])
  (fun k root H' => k = hi - root ∧ l ≤ root ∧ root ≤ n ∧ ∃ g' : Nat → Int, Hea (fun x : Int => x) f l hi root g' ∧ Gra (fun x : Int => x) f l hi root g' ∧ PRm (f + l) (f + hi) g g' ∧ Keep H H' [bd] ∧ Cl H' bd (cF n g')) _ l ⟨rfl, Nat.le_refl _, hln, g, hea, fun i c h1 h2 => by omega, PRm.refl _ _ _, hk, hc⟩ ⟨rfl, rfl, rfl, rfl, trivial⟩ ?_
 rintro k root L1 ⟨rfl, hl, hrn, g1, he, hgr, hp, hk, hc⟩
 refine wN_seq <| wN_mov (v := iv (root : Int)) rfl <| wN_mul (a := 2) (b := (root : Int)) rfl rfl ⟨by omega, by omega⟩ <| wN_add (a := 2 * (root : Int)) (b := 1) rfl rfl ⟨by omega, by omega⟩ <| wN_mov (v := iv ((2 * (root : Int)) + 1)) rfl <| wN_end <| wN_seq <| wN_mov (v := iv ((2 * (root : Int)) + 1)) rfl <| wN_mov (v := iv (hi : Int)) rfl <| wN_c_geq (a := (2 * (root : Int)) + 1) (b := (hi : Int)) rfl rfl <| wN_end ?_
 refine And.intro (fun q1 => ?_) (fun q1 => ?_)
 ·have q1 : ((2 * (root : Int)) + 1) ≥ (hi : Int) := of_decide_eq_true q1
  exact And.intro trivial (Exists.intro _ (And.intro rfl ⟨rfl, g1, he.full (fun c hc hh => by show g1 (f + c) ≤ g1 (f + root); rcases hc with rfl | rfl <;> omega), hp, hk, hc⟩))
 ·have q1 : ¬ (((2 * (root : Int)) + 1) ≥ (hi : Int)) := of_decide_eq_false q1
  first | refine wN_skip ?_ | skip
  refine wD_seq <| wD_mov (v := iv ((2 * (root : Int)) + 1)) rfl <| wD_add (a := (2 * (root : Int)) + 1) (b := 1) rfl rfl ⟨by omega, by omega⟩ <| wD_mov (v := iv (hi : Int)) rfl <| wD_b_lss (a := ((2 * (root : Int)) + 1) + 1) (b := (hi : Int)) rfl rfl ?_
  intro t2 g2; cases t2
  ·have g2 : ¬ ((((2 * (root : Int)) + 1) + 1) < (hi : Int)) := of_decide_eq_false g2
   refine wD_mov (v := .bool false) rfl <| wD_gs rfl <| wD_gs rfl <| wD_gs rfl <| wD_gs rfl <| wD_gs rfl <| wD_gs rfl <| wD_gs rfl <| wD_gs rfl <| wD_gs rfl <| wD_gs rfl <| wD_gs rfl ?_
   refine wD_gs rfl <| wD_gs rfl <| wD_gs rfl <| wD_pur (v := .bool false) rfl rfl ?_
   refine wD_end (by repeat' first | exact True.intro | exact (fun h => h) | refine And.intro ?_ ?_ | (intro h; have h : (_ : Nat) = _ := h; omega)) ?_
   refine condF ?_
   first | refine wN_skip ?_ | skip
   refine wD_seq <| wD_mov (v := .slice (some ⟨bd, 0, none⟩) n cap) rfl <| wD_mov (v := iv (f : Int)) rfl <| wD_mov (v := iv (root : Int)) rfl <| wD_add (a := (f : Int)) (b := (root : Int)) rfl rfl ⟨by omega, by omega⟩ <| wD_idx (b := bd) (o := 0) (k := f + root) (j := (f : Int) + (root : Int)) rfl rfl (by omega) (by omega) <| wD_ld (b := bd) (o := 0 + (f + root) * 1) (v := iv (g1 (f + root))) rfl hc.rd (cF_at (by omega)) <| wD_mov (v := .slice (some ⟨bd, 0, none⟩) n cap) rfl <| wD_mov (v := iv (f : Int)) rfl <| wD_mov (v := iv ((2 * (root : Int)) + 1)) rfl <| wD_add (a := (f : Int)) (b := (2 * (root : Int)) + 1) rfl rfl ⟨by omega, by omega⟩ <| wD_idx (b := bd) (o := 0) (k := f + (2 * root + 1)) (j := (f : Int) + ((2 * (root : Int)) + 1)) rfl rfl (by omega) (by omega) ?_
   refine wD_ld (b := bd) (o := 0 + (f + (2 * root + 1)) * 1) (v := iv (g1 (f + (2 * root + 1)))) rfl hc.rd (cF_at (by omega)) ?_
   obtain ⟨H1, fH1, kH1⟩ := less_ok (kn := kn) (lo := lo) (H := L1) (g1 (f + root)) (g1 (f + (2 * root + 1)))
   refine wD_callf (vs := [iv (g1 (f + root)), iv (g1 (f + (2 * root + 1)))]) rfl (callX_args fH1) ?_
   have mH1 := kH1.1
   have hc := kH1.cl hc (by simp)
   have hk := hk.trans (kH1.mono (by simp))
   refine wD_pur (v := .bool (!(decide (g1 (f + root) < g1 (f + (2 * root + 1)))))) rfl rfl ?_
   refine wD_end (by repeat' first | exact True.intro | exact (fun h => h) | refine And.intro ?_ ?_ | (intro h; have h : (_ : Nat) = _ := h; omega)) ?_
   refine And.intro (fun q3 => ?_) (fun q3 => ?_)
   ·have q3 : ¬ (g1 (f + root) < g1 (f + (2 * root + 1))) := by simpa using q3
    exact And.intro trivial (Exists.intro _ (And.intro rfl ⟨rfl, g1, he.full (fun c hc hh => by show g1 (f + c) ≤ g1 (f + root); rcases hc with rfl | rfl <;> omega), hp, hk, hc⟩))
   ·have q3 : ¬ (¬ (g1 (f + root) < g1 (f + (2 * root + 1)))) := by simpa using q3
    first | refine wN_skip ?_ | skip
    refine wD_seq <| wD_mov (v := .slice (some ⟨bd, 0, none⟩) n cap) rfl <| wD_mov (v := iv (f : Int)) rfl <| wD_mov (v := iv (root : Int)) rfl <| wD_add (a := (f : Int)) (b := (root : Int)) rfl rfl ⟨by omega, by omega⟩ <| wD_mov (v := .slice (some ⟨bd, 0, none⟩) n cap) rfl <| wD_mov (v := iv (f : Int)) rfl <| wD_mov (v := iv ((2 * (root : Int)) + 1)) rfl <| wD_add (a := (f : Int)) (b := (2 * (root : Int)) + 1) rfl rfl ⟨by omega, by omega⟩ <| wD_mov (v := .slice (some ⟨bd, 0, none⟩) n cap) rfl <| wD_mov (v := iv (f : Int)) rfl <| wD_mov (v := iv ((2 * (root : Int)) + 1)) rfl ?_
    refine wD_add (a := (f : Int)) (b := (2 * (root : Int)) + 1) rfl rfl ⟨by omega, by omega⟩ <| wD_idx (b := bd) (o := 0) (k := f + (2 * root + 1)) (j := (f : Int) + ((2 * (root : Int)) + 1)) rfl rfl (by omega) (by omega) <| wD_ld (b := bd) (o := 0 + (f + (2 * root + 1)) * 1) (v := iv (g1 (f + (2 * root + 1)))) rfl hc.rd (cF_at (by omega)) <| wD_mov (v := .slice (some ⟨bd, 0, none⟩) n cap) rfl <| wD_mov (v := iv (f : Int)) rfl <| wD_mov (v := iv (root : Int)) rfl <| wD_add (a := (f : Int)) (b := (root : Int)) rfl rfl ⟨by omega, by omega⟩ <| wD_idx (b := bd) (o := 0) (k := f + root) (j := (f : Int) + (root : Int)) rfl rfl (by omega) (by omega) <| wD_ld (b := bd) (o := 0 + (f + root) * 1) (v := iv (g1 (f + root))) rfl hc.rd (cF_at (by omega)) <| wD_idx (b := bd) (o := 0) (k := f + root) (j := (f : Int) + (root : Int)) rfl rfl (by omega) (by omega) <| wD_st (b := bd) (o := 0 + (f + root) * 1) rfl rfl hc hlb rfl rfl (by rw [cF_len]; omega) ?_
    intro H2 kH2 nH2 sH2
    have mH2 := kH2.1
    have hk := hk.trans kH2
    rw [cF_set (by omega)] at sH2
    have hc := sH2
    refine wD_idx (b := bd) (o := 0) (k := f + (2 * root + 1)) (j := (f : Int) + ((2 * (root : Int)) + 1)) rfl rfl (by omega) (by omega) <| wD_st (b := bd) (o := 0 + (f + (2 * root + 1)) * 1) rfl rfl hc hlb rfl rfl (by rw [cF_len]; omega) ?_
    intro H3 kH3 nH3 sH3
    have mH3 := kH3.1
    have hk := hk.trans kH3
    rw [cF_set (by omega)] at sH3
    have hc := sH3
    have hc : Cl H3 bd (cF n (swp g1 (f + root) (f + (2 * root + 1)))) := hc
    refine wD_end (by repeat' first | exact True.intro | exact (fun h => h) | refine And.intro ?_ ?_ | (intro h; have h : (_ : Nat) = _ := h; omega)) ?_
    first | refine wN_reg ?_ | refine wN_blk ?_ | refine wN_bseq ?_ | (refine wOps_nil ?_; refine wN_reg ?_)
    refine wN_mov (v := iv ((2 * (root : Int)) + 1)) rfl <| wN_mov (v := iv ((2 * (root : Int)) + 1)) rfl <| wN_end ?_
    have hst := he.step hgr hl (c := 2 * root + 1) (by omega) (by omega) (fun c hc hh => by show g1 (f + c) ≤ g1 (f + (2 * root + 1)); rcases hc with rfl | rfl <;> omega) (by show g1 (f + root) ≤ g1 (f + (2 * root + 1)); omega)
    exact ⟨_, 2 * root + 1, by omega, ⟨rfl, by omega, by omega, _, hst.1, hst.2, hp.trans (PRm.swap (by omega) (by omega) (by omega) (by omega)), hk, hc⟩, rfl, rfl, rfl, ivq (by omega), trivial⟩
  ·have g2 : (((2 * (root : Int)) + 1) + 1) < (hi : Int) := of_decide_eq_true g2
   refine wD_mov (v := .bool true) rfl ?_
   refine wD_g rfl (wD_mov (v := .slice (some ⟨bd, 0, none⟩) n cap) rfl ?_)
   refine wD_g rfl (wD_mov (v := iv (f : Int)) rfl ?_)
   refine wD_g rfl (wD_mov (v := iv ((2 * (root : Int)) + 1)) rfl ?_)
   refine wD_g rfl (wD_add (a := (f : Int)) (b := (2 * (root : Int)) + 1) rfl rfl ⟨by omega, by omega⟩ ?_)
   refine wD_g rfl (wD_idx (b := bd) (o := 0) (k := f + (2 * root + 1)) (j := (f : Int) + ((2 * (root : Int)) + 1)) rfl rfl (by omega) (by omega) ?_)
   refine wD_g rfl (wD_ld (b := bd) (o := 0 + (f + (2 * root + 1)) * 1) (v := iv (g1 (f + (2 * root + 1)))) rfl hc.rd (cF_at (by omega)) ?_)
   refine wD_g rfl (wD_mov (v := .slice (some ⟨bd, 0, none⟩) n cap) rfl ?_)
   refine wD_g rfl (wD_mov (v := iv (f : Int)) rfl ?_)
   refine wD_g rfl (wD_mov (v := iv ((2 * (root : Int)) + 1)) rfl ?_)
   refine wD_g rfl (wD_add (a := (f : Int)) (b := (2 * (root : Int)) + 1) rfl rfl ⟨by omega, by omega⟩ ?_)
   refine wD_g rfl (wD_add (a := (f : Int) + ((2 * (root : Int)) + 1)) (b := 1) rfl rfl ⟨by omega, by omega⟩ ?_)
   refine wD_g rfl (wD_idx (b := bd) (o := 0) (k := f + (2 * root + 2)) (j := ((f : Int) + ((2 * (root : Int)) + 1)) + 1) rfl rfl (by omega) (by omega) ?_)
   refine wD_g rfl (wD_ld (b := bd) (o := 0 + (f + (2 * root + 2)) * 1) (v := iv (g1 (f + (2 * root + 2)))) rfl hc.rd (cF_at (by omega)) ?_)
   obtain ⟨H4, fH4, kH4⟩ := less_ok (kn := kn) (lo := lo) (H := L1) (g1 (f + (2 * root + 1))) (g1 (f + (2 * root + 2)))
   refine wD_g rfl (wD_callf (vs := [iv (g1 (f + (2 * root + 1))), iv (g1 (f + (2 * root + 2)))]) rfl (callX_args fH4) ?_)
   have mH4 := kH4.1
   have hc := kH4.cl hc (by simp)
   have hk := hk.trans (kH4.mono (by simp))
   refine wD_pur (v := .bool (decide (g1 (f + (2 * root + 1)) < g1 (f + (2 * root + 2))))) rfl rfl ?_
   refine wD_end (by repeat' first | exact True.intro | exact (fun h => h) | refine And.intro ?_ ?_ | (intro h; have h : (_ : Nat) = _ := h; omega)) ?_
   refine And.intro (fun q4 => ?_) (fun q4 => ?_)
   ·have q4 : g1 (f + (2 * root + 1)) < g1 (f + (2 * root + 2)) := of_decide_eq_true q4
    refine wN_seq <| wN_mov (v := iv ((2 * (root : Int)) + 1)) rfl <| wN_add (a := (2 * (root : Int)) + 1) (b := 1) rfl rfl ⟨by omega, by omega⟩ <| wN_mov (v := iv (((2 * (root : Int)) + 1) + 1)) rfl <| wN_end <| wD_seq <| wD_mov (v := .slice (some ⟨bd, 0, none⟩) n cap) rfl <| wD_mov (v := iv (f : Int)) rfl <| wD_mov (v := iv (root : Int)) rfl <| wD_add (a := (f : Int)) (b := (root : Int)) rfl rfl ⟨by omega, by omega⟩ <| wD_idx (b := bd) (o := 0) (k := f + root) (j := (f : Int) + (root : Int)) rfl rfl (by omega) (by omega) <| wD_ld (b := bd) (o := 0 + (f + root) * 1) (v := iv (g1 (f + root))) rfl hc.rd (cF_at (by omega)) ?_
    refine wD_mov (v := .slice (some ⟨bd, 0, none⟩) n cap) rfl <| wD_mov (v := iv (f : Int)) rfl <| wD_mov (v := iv (((2 * (root : Int)) + 1) + 1)) rfl <| wD_add (a := (f : Int)) (b := ((2 * (root : Int)) + 1) + 1) rfl rfl ⟨by omega, by omega⟩ <| wD_idx (b := bd) (o := 0) (k := f + (2 * root + 2)) (j := (f : Int) + (((2 * (root : Int)) + 1) + 1)) rfl rfl (by omega) (by omega) <| wD_ld (b := bd) (o := 0 + (f + (2 * root + 2)) * 1) (v := iv (g1 (f + (2 * root + 2)))) rfl hc.rd (cF_at (by omega)) ?_
    obtain ⟨H5, fH5, kH5⟩ := less_ok (kn := kn) (lo := lo) (H := H4) (g1 (f + root)) (g1 (f + (2 * root + 2)))
    refine wD_callf (vs := [iv (g1 (f + root)), iv (g1 (f + (2 * root + 2)))]) rfl (callX_args fH5) ?_
    have mH5 := kH5.1
    have hc := kH5.cl hc (by simp)
    have hk := hk.trans (kH5.mono (by simp))
    refine wD_pur (v := .bool (!(decide (g1 (f + root) < g1 (f + (2 * root + 2)))))) rfl rfl ?_
    refine wD_end (by repeat' first | exact True.intro | exact (fun h => h) | refine And.intro ?_ ?_ | (intro h; have h : (_ : Nat) = _ := h; omega)) ?_
    refine And.intro (fun q5 => ?_) (fun q5 => ?_)
    ·have q5 : ¬ (g1 (f + root) < g1 (f + (2 * root + 2))) := by simpa using q5
     exact And.intro trivial (Exists.intro _ (And.intro rfl ⟨rfl, g1, he.full (fun c hc hh => by show g1 (f + c) ≤ g1 (f + root); rcases hc with rfl | rfl <;> omega), hp, hk, hc⟩))
    ·have q5 : ¬ (¬ (g1 (f + root) < g1 (f + (2 * root + 2)))) := by simpa using q5
     first | refine wN_skip ?_ | skip
     refine wD_seq <| wD_mov (v := .slice (some ⟨bd, 0, none⟩) n cap) rfl <| wD_mov (v := iv (f : Int)) rfl <| wD_mov (v := iv (root : Int)) rfl <| wD_add (a := (f : Int)) (b := (root : Int)) rfl rfl ⟨by omega, by omega⟩ <| wD_mov (v := .slice (some ⟨bd, 0, none⟩) n cap) rfl <| wD_mov (v := iv (f : Int)) rfl <| wD_mov (v := iv (((2 * (root : Int)) + 1) + 1)) rfl <| wD_add (a := (f : Int)) (b := ((2 * (root : Int)) + 1) + 1) rfl rfl ⟨by omega, by omega⟩ <| wD_mov (v := .slice (some ⟨bd, 0, none⟩) n cap) rfl <| wD_mov (v := iv (f : Int)) rfl <| wD_mov (v := iv (((2 * (root : Int)) + 1) + 1)) rfl ?_
     refine wD_add (a := (f : Int)) (b := ((2 * (root : Int)) + 1) + 1) rfl rfl ⟨by omega, by omega⟩ <| wD_idx (b := bd) (o := 0) (k := f + (2 * root + 2)) (j := (f : Int) + (((2 * (root : Int)) + 1) + 1)) rfl rfl (by omega) (by omega) <| wD_ld (b := bd) (o := 0 + (f + (2 * root + 2)) * 1) (v := iv (g1 (f + (2 * root + 2)))) rfl hc.rd (cF_at (by omega)) <| wD_mov (v := .slice (some ⟨bd, 0, none⟩) n cap) rfl <| wD_mov (v := iv (f : Int)) rfl <| wD_mov (v := iv (root : Int)) rfl <| wD_add (a := (f : Int)) (b := (root : Int)) rfl rfl ⟨by omega, by omega⟩ <| wD_idx (b := bd) (o := 0) (k := f + root) (j := (f : Int) + (root : Int)) rfl rfl (by omega) (by omega) <| wD_ld (b := bd) (o := 0 + (f + root) * 1) (v := iv (g1 (f + root))) rfl hc.rd (cF_at (by omega)) <| wD_idx (b := bd) (o := 0) (k := f + root) (j := (f : Int) + (root : Int)) rfl rfl (by omega) (by omega) <| wD_st (b := bd) (o := 0 + (f + root) * 1) rfl rfl hc hlb rfl rfl (by rw [cF_len]; omega) ?_
     intro H6 kH6 nH6 sH6
     have mH6 := kH6.1
     have hk := hk.trans kH6
     rw [cF_set (by omega)] at sH6
     have hc := sH6
     refine wD_idx (b := bd) (o := 0) (k := f + (2 * root + 2)) (j := (f : Int) + (((2 * (root : Int)) + 1) + 1)) rfl rfl (by omega) (by omega) <| wD_st (b := bd) (o := 0 + (f + (2 * root + 2)) * 1) rfl rfl hc hlb rfl rfl (by rw [cF_len]; omega) ?_
     intro H7 kH7 nH7 sH7
     have mH7 := kH7.1
     have hk := hk.trans kH7
     rw [cF_set (by omega)] at sH7
     have hc := sH7
     have hc : Cl H7 bd (cF n (swp g1 (f + root) (f + (2 * root + 2)))) := hc
     refine wD_end (by repeat' first | exact True.intro | exact (fun h => h) | refine And.intro ?_ ?_ | (intro h; have h : (_ : Nat) = _ := h; omega)) ?_
     first | refine wN_reg ?_ | refine wN_blk ?_ | refine wN_bseq ?_ | (refine wOps_nil ?_; refine wN_reg ?_)
     refine wN_mov (v := iv (((2 * (root : Int)) + 1) + 1)) rfl <| wN_mov (v := iv (((2 * (root : Int)) + 1) + 1)) rfl <| wN_end ?_
     have hst := he.step hgr hl (c := 2 * root + 2) (by omega) (by omega) (fun c hc hh => by show g1 (f + c) ≤ g1 (f + (2 * root + 2)); rcases hc with rfl | rfl <;> omega) (by show g1 (f + root) ≤ g1 (f + (2 * root + 2)); omega)
     exact ⟨_, 2 * root + 2, by omega, ⟨rfl, by omega, by omega, _, hst.1, hst.2, hp.trans (PRm.swap (by omega) (by omega) (by omega) (by omega)), hk, hc⟩, rfl, rfl, rfl, ivq (by omega), trivial⟩
   ·have q4 : ¬ (g1 (f + (2 * root + 1)) < g1 (f + (2 * root + 2))) := of_decide_eq_false q4
    first | refine wN_skip ?_ | skip
    refine wD_seq <| wD_mov (v := .slice (some ⟨bd, 0, none⟩) n cap) rfl <| wD_mov (v := iv (f : Int)) rfl <| wD_mov (v := iv (root : Int)) rfl <| wD_add (a := (f : Int)) (b := (root : Int)) rfl rfl ⟨by omega, by omega⟩ <| wD_idx (b := bd) (o := 0) (k := f + root) (j := (f : Int) + (root : Int)) rfl rfl (by omega) (by omega) <| wD_ld (b := bd) (o := 0 + (f + root) * 1) (v := iv (g1 (f + root))) rfl hc.rd (cF_at (by omega)) <| wD_mov (v := .slice (some ⟨bd, 0, none⟩) n cap) rfl <| wD_mov (v := iv (f : Int)) rfl <| wD_mov (v := iv ((2 * (root : Int)) + 1)) rfl <| wD_add (a := (f : Int)) (b := (2 * (root : Int)) + 1) rfl rfl ⟨by omega, by omega⟩ <| wD_idx (b := bd) (o := 0) (k := f + (2 * root + 1)) (j := (f : Int) + ((2 * (root : Int)) + 1)) rfl rfl (by omega) (by omega) ?_
    refine wD_ld (b := bd) (o := 0 + (f + (2 * root + 1)) * 1) (v := iv (g1 (f + (2 * root + 1)))) rfl hc.rd (cF_at (by omega)) ?_
    obtain ⟨H8, fH8, kH8⟩ := less_ok (kn := kn) (lo := lo) (H := H4) (g1 (f + root)) (g1 (f + (2 * root + 1)))
    refine wD_callf (vs := [iv (g1 (f + root)), iv (g1 (f + (2 * root + 1)))]) rfl (callX_args fH8) ?_
    have mH8 := kH8.1
    have hc := kH8.cl hc (by simp)
    have hk := hk.trans (kH8.mono (by simp))
    refine wD_pur (v := .bool (!(decide (g1 (f + root) < g1 (f + (2 * root + 1)))))) rfl rfl ?_
    refine wD_end (by repeat' first | exact True.intro | exact (fun h => h) | refine And.intro ?_ ?_ | (intro h; have h : (_ : Nat) = _ := h; omega)) ?_
    refine And.intro (fun q6 => ?_) (fun q6 => ?_)
    ·have q6 : ¬ (g1 (f + root) < g1 (f + (2 * root + 1))) := by simpa using q6
     exact And.intro trivial (Exists.intro _ (And.intro rfl ⟨rfl, g1, he.full (fun c hc hh => by show g1 (f + c) ≤ g1 (f + root); rcases hc with rfl | rfl <;> omega), hp, hk, hc⟩))
    ·have q6 : ¬ (¬ (g1 (f + root) < g1 (f + (2 * root + 1)))) := by simpa using q6
     first | refine wN_skip ?_ | skip
     refine wD_seq <| wD_mov (v := .slice (some ⟨bd, 0, none⟩) n cap) rfl <| wD_mov (v := iv (f : Int)) rfl <| wD_mov (v := iv (root : Int)) rfl <| wD_add (a := (f : Int)) (b := (root : Int)) rfl rfl ⟨by omega, by omega⟩ <| wD_mov (v := .slice (some ⟨bd, 0, none⟩) n cap) rfl <| wD_mov (v := iv (f : Int)) rfl <| wD_mov (v := iv ((2 * (root : Int)) + 1)) rfl <| wD_add (a := (f : Int)) (b := (2 * (root : Int)) + 1) rfl rfl ⟨by omega, by omega⟩ <| wD_mov (v := .slice (some ⟨bd, 0, none⟩) n cap) rfl <| wD_mov (v := iv (f : Int)) rfl <| wD_mov (v := iv ((2 * (root : Int)) + 1)) rfl ?_
     refine wD_add (a := (f : Int)) (b := (2 * (root : Int)) + 1) rfl rfl ⟨by omega, by omega⟩ <| wD_idx (b := bd) (o := 0) (k := f + (2 * root + 1)) (j := (f : Int) + ((2 * (root : Int)) + 1)) rfl rfl (by omega) (by omega) <| wD_ld (b := bd) (o := 0 + (f + (2 * root + 1)) * 1) (v := iv (g1 (f + (2 * root + 1)))) rfl hc.rd (cF_at (by omega)) <| wD_mov (v := .slice (some ⟨bd, 0, none⟩) n cap) rfl <| wD_mov (v := iv (f : Int)) rfl <| wD_mov (v := iv (root : Int)) rfl <| wD_add (a := (f : Int)) (b := (root : Int)) rfl rfl ⟨by omega, by omega⟩ <| wD_idx (b := bd) (o := 0) (k := f + root) (j := (f : Int) + (root : Int)) rfl rfl (by omega) (by omega) <| wD_ld (b := bd) (o := 0 + (f + root) * 1) (v := iv (g1 (f + root))) rfl hc.rd (cF_at (by omega)) <| wD_idx (b := bd) (o := 0) (k := f + root) (j := (f : Int) + (root : Int)) rfl rfl (by omega) (by omega) <| wD_st (b := bd) (o := 0 + (f + root) * 1) rfl rfl hc hlb rfl rfl (by rw [cF_len]; omega) ?_
     intro H9 kH9 nH9 sH9
     have mH9 := kH9.1
     have hk := hk.trans kH9
     rw [cF_set (by omega)] at sH9
     have hc := sH9
     refine wD_idx (b := bd) (o := 0) (k := f + (2 * root + 1)) (j := (f : Int) + ((2 * (root : Int)) + 1)) rfl rfl (by omega) (by omega) <| wD_st (b := bd) (o := 0 + (f + (2 * root + 1)) * 1) rfl rfl hc hlb rfl rfl (by rw [cF_len]; omega) ?_
     intro H10 kH10 nH10 sH10
     have mH10 := kH10.1
     have hk := hk.trans kH10
     rw [cF_set (by omega)] at sH10
     have hc := sH10
     have hc : Cl H10 bd (cF n (swp g1 (f + root) (f + (2 * root + 1)))) := hc
     refine wD_end (by repeat' first | exact True.intro | exact (fun h => h) | refine And.intro ?_ ?_ | (intro h; have h : (_ : Nat) = _ := h; omega)) ?_
     first | refine wN_reg ?_ | refine wN_blk ?_ | refine wN_bseq ?_ | (refine wOps_nil ?_; refine wN_reg ?_)
     refine wN_mov (v := iv ((2 * (root : Int)) + 1)) rfl <| wN_mov (v := iv ((2 * (root : Int)) + 1)) rfl <| wN_end ?_
     have hst := he.step hgr hl (c := 2 * root + 1) (by omega) (by omega) (fun c hc hh => by show g1 (f + c) ≤ g1 (f + (2 * root + 1)); rcases hc with rfl | rfl <;> omega) (by show g1 (f + root) ≤ g1 (f + (2 * root + 1)); omega)
     exact ⟨_, 2 * root + 1, by omega, ⟨rfl, by omega, by omega, _, hst.1, hst.2, hp.trans (PRm.swap (by omega) (by omega) (by omega) (by omega)), hk, hc⟩, rfl, rfl, rfl, ivq (by omega), trivial⟩
theorem heap_ok (hlo : lo ≤ H.next) {bd cap n : Nat} {g : Nat → Int} (hlb : lo ≤ bd) (hn : n ≤ 1000000) (hc : Cl H bd (cF n g)) {a b : Nat} (hab : a < b) (hb : b ≤ n) : ∃ H' g', FnX Try.prog kn lo 68 [.slice (some ⟨bd, 0, none⟩) n cap, iv (a : Int), iv (b : Int)] H (.tuple #[]) H' ∧ PRm a b g g' ∧ Sor (fun x : Int => x) a b g' ∧ Keep H H' [bd] ∧ Cl H' bd (cF n g') := by
 have key := fnX_low (kn := kn) (lo := lo) (H := H) (args := [.slice (some ⟨bd, 0, none⟩) n cap, iv (a : Int), iv (b : Int)]) (Q := fun w H' => w = .tuple #[] ∧ ∃ g' : Nat → Int, PRm a b g g' ∧ Sor (fun x : Int => x) a b g' ∧ Keep H H' [bd] ∧ Cl H' bd (cF n g')) Try.func68 B68 N68 Z68 L68 (by simp) ?_
 ·obtain ⟨w, H', h, rfl, g', r⟩ := key; exact ⟨H', g', h, r⟩
 have hk := Keep.refl H [bd]
 refine wN_seq <| wN_mov (v := iv (a : Int)) rfl <| wN_mov (v := iv (a : Int)) rfl <| wN_end <| wN_seq <| wN_mov (v := iv 0) rfl <| wN_end <| wN_seq <| wN_mov (v := iv (b : Int)) rfl <| wN_mov (v := iv (a : Int)) rfl <| wN_sub (a := (b : Int)) (b := (a : Int)) rfl rfl ⟨by omega, by omega⟩ <| wN_mov (v := iv ((b : Int) - (a : Int))) rfl ?_
 refine wN_end <| wN_seq <| wN_mov (v := iv ((b : Int) - (a : Int))) rfl <| wN_sub (a := (b : Int) - (a : Int)) (b := 1) rfl rfl ⟨by omega, by omega⟩ <| wN_quo (a := ((b : Int) - (a : Int)) - 1) (b := 2) rfl rfl (by omega) (by omega) ⟨by omega, by omega⟩ <| wN_mov (v := iv ((((b : Int) - (a : Int)) - 1) / 2)) rfl <| wN_end ?_
 refine loop_low (fn := Try.f68) E68_1 N68 L68x1 (fun t : Nat => [(0, .slice (some ⟨bd, 0, none⟩) n cap), (1, iv (a : Int)), (2, iv (b : Int)), (6, iv (a : Int)), (7, iv 0), (8, iv ((b : Int) - (a : Int))), (9, iv ((t : Int) - 1))])
  (fun k t H' => k = t + 1 ∧ t ≤ b - a ∧ ∃ g' : Nat → Int, Hp_ (fun x : Int => x) a t (b - a) g' ∧ PRm a b g g' ∧ Keep H H' [bd] ∧ Cl H' bd (cF n g')) _ ((b - a - 1) / 2 + 1) ⟨rfl, by omega, g, fun i c h1 h2 h3 => by omega, PRm.refl _ _ _, hk, hc⟩ ⟨rfl, rfl, rfl, rfl, rfl, rfl, ivq (by omega), trivial⟩ ?_
 rintro k t L1 ⟨rfl, ht, g1, hh, hp, hk, hc⟩
 refine wN_seq <| wN_mov (v := iv ((t : Int) - 1)) rfl <| wN_c_geq (a := (t : Int) - 1) (b := 0) rfl rfl <| wN_end ?_
 refine And.intro (fun q1 => ?_) (fun q1 => ?_)
 ·have q1 : ((t : Int) - 1) ≥ 0 := of_decide_eq_true q1
  have ht0 : 0 < t := by omega
  have hea : Hea (fun x : Int => x) a (t - 1) (b - a) (t - 1) g1 := fun i c h1 h2 h3 h4 => hh i c (by omega) h2 h3
  first | refine wN_skip ?_ | skip
  first | refine wN_reg ?_ | refine wN_blk ?_ | refine wN_bseq ?_ | (refine wOps_nil ?_; refine wN_reg ?_)
  refine wN_mov (v := .slice (some ⟨bd, 0, none⟩) n cap) rfl <| wN_mov (v := iv ((t : Int) - 1)) rfl <| wN_mov (v := iv ((b : Int) - (a : Int))) rfl <| wN_mov (v := iv (a : Int)) rfl ?_
  obtain ⟨H1, gH1, fH1, hH1, pH1, kH1, cH1⟩ := sift_ok (kn := kn) (by have := hk.1; omega) hlb hn (cap := cap) hc (l := t - 1) (hi := b - a) (f := a) (by omega) (by omega) hea
  refine wN_callf (vs := [.slice (some ⟨bd, 0, none⟩) n cap, iv ((t : Int) - 1), iv ((b : Int) - (a : Int)), iv (a : Int)]) rfl (by have q := callX_args fH1; rw [show ((t - 1 : Nat) : Int) = (t : Int) - 1 by omega] at q; rw [show ((b - a : Nat) : Int) = (b : Int) - (a : Int) by omega] at q; exact q) ?_
  have mH1 := kH1.1
  have hk := hk.trans kH1
  have hc := cH1
  refine wN_end ?_
  first | refine wN_reg ?_ | refine wN_blk ?_ | refine wN_bseq ?_ | (refine wOps_nil ?_; refine wN_reg ?_)
  refine wN_mov (v := iv ((t : Int) - 1)) rfl <| wN_sub (a := (t : Int) - 1) (b := 1) rfl rfl ⟨by omega, by omega⟩ <| wN_mov (v := iv (((t : Int) - 1) - 1)) rfl <| wN_end ?_
  exact ⟨_, t - 1, by omega, ⟨rfl, by omega, _, hH1, hp.trans (pH1.mono (by omega) (by omega) (by omega)), hk, hc⟩, rfl, rfl, rfl, rfl, rfl, rfl, ivq (by omega), trivial⟩
 ·have q1 : ¬ (((t : Int) - 1) ≥ 0) := of_decide_eq_false q1
  have ht0 : t = 0 := by omega
  subst ht0
  refine wN_seq <| wN_mov (v := iv ((b : Int) - (a : Int))) rfl <| wN_sub (a := (b : Int) - (a : Int)) (b := 1) rfl rfl ⟨by omega, by omega⟩ <| wN_mov (v := iv (((b : Int) - (a : Int)) - 1)) rfl <| wN_end ?_
  refine loop_low (fn := Try.f68) E68_2 N68 L68x2 (fun u : Nat => [(0, .slice (some ⟨bd, 0, none⟩) n cap), (1, iv (a : Int)), (2, iv (b : Int)), (6, iv (a : Int)), (7, iv 0), (10, iv ((u : Int) - 1))])
   (fun k u H' => k = u + 1 ∧ u ≤ b - a ∧ ∃ g' : Nat → Int, Hp_ (fun x : Int => x) a 0 u g' ∧ (∀ p q, p ≤ q → q < b - a → u ≤ q → g' (a + p) ≤ g' (a + q)) ∧ PRm a b g g' ∧ Keep H H' [bd] ∧ Cl H' bd (cF n g')) _ (b - a) ⟨rfl, Nat.le_refl _, g1, hh, fun p q h1 h2 h3 => by omega, hp, hk, hc⟩ ⟨rfl, rfl, rfl, rfl, rfl, ivq (by omega), trivial⟩ ?_
  rintro k u L2 ⟨rfl, hu, g2, hh, hs, hp, hk, hc⟩
  refine wN_seq <| wN_mov (v := iv ((u : Int) - 1)) rfl <| wN_c_geq (a := (u : Int) - 1) (b := 0) rfl rfl <| wN_end ?_
  refine And.intro (fun q2 => ?_) (fun q2 => ?_)
  ·have q2 : ((u : Int) - 1) ≥ 0 := of_decide_eq_true q2
   have hu0 : 0 < u := by omega
   obtain ⟨hea, so2⟩ := heap_pop (f := a) (hi := b - a) (i := u - 1) (fun p q h1 h2 h3 => hs p q h1 h2 (by omega)) (by rw [show u - 1 + 1 = u by omega]; exact hh) (by omega)
   first | refine wN_skip ?_ | skip
   refine wD_seq <| wD_mov (v := .slice (some ⟨bd, 0, none⟩) n cap) rfl <| wD_mov (v := iv (a : Int)) rfl <| wD_mov (v := .slice (some ⟨bd, 0, none⟩) n cap) rfl <| wD_mov (v := iv (a : Int)) rfl <| wD_mov (v := iv ((u : Int) - 1)) rfl <| wD_add (a := (a : Int)) (b := (u : Int) - 1) rfl rfl ⟨by omega, by omega⟩ <| wD_mov (v := .slice (some ⟨bd, 0, none⟩) n cap) rfl <| wD_mov (v := iv (a : Int)) rfl <| wD_mov (v := iv ((u : Int) - 1)) rfl <| wD_add (a := (a : Int)) (b := (u : Int) - 1) rfl rfl ⟨by omega, by omega⟩ <| wD_idx (b := bd) (o := 0) (k := a + (u - 1)) (j := (a : Int) + ((u : Int) - 1)) rfl rfl (by omega) (by omega) ?_
   refine wD_ld (b := bd) (o := 0 + (a + (u - 1)) * 1) (v := iv (g2 (a + (u - 1)))) rfl hc.rd (cF_at (by omega)) <| wD_mov (v := .slice (some ⟨bd, 0, none⟩) n cap) rfl <| wD_mov (v := iv (a : Int)) rfl <| wD_idx (b := bd) (o := 0) (k := a) (j := (a : Int)) rfl rfl (by omega) (by omega) <| wD_ld (b := bd) (o := 0 + a * 1) (v := iv (g2 a)) rfl hc.rd (cF_at (by omega)) <| wD_idx (b := bd) (o := 0) (k := a) (j := (a : Int)) rfl rfl (by omega) (by omega) <| wD_st (b := bd) (o := 0 + a * 1) rfl rfl hc hlb rfl rfl (by rw [cF_len]; omega) ?_
   intro H2 kH2 nH2 sH2
   have mH2 := kH2.1
   have hk := hk.trans kH2
   rw [cF_set (by omega)] at sH2
   have hc := sH2
   refine wD_idx (b := bd) (o := 0) (k := a + (u - 1)) (j := (a : Int) + ((u : Int) - 1)) rfl rfl (by omega) (by omega) <| wD_st (b := bd) (o := 0 + (a + (u - 1)) * 1) rfl rfl hc hlb rfl rfl (by rw [cF_len]; omega) ?_
   intro H3 kH3 nH3 sH3
   have mH3 := kH3.1
   have hk := hk.trans kH3
   rw [cF_set (by omega)] at sH3
   have hc := sH3
   have hc : Cl H3 bd (cF n (swp g2 a (a + (u - 1)))) := hc
   refine wD_end (by repeat' first | exact True.intro | exact (fun h => h) | refine And.intro ?_ ?_ | (intro h; have h : (_ : Nat) = _ := h; omega)) ?_
   first | refine wN_reg ?_ | refine wN_blk ?_ | refine wN_bseq ?_ | (refine wOps_nil ?_; refine wN_reg ?_)
   refine wN_mov (v := .slice (some ⟨bd, 0, none⟩) n cap) rfl <| wN_mov (v := iv 0) rfl <| wN_mov (v := iv ((u : Int) - 1)) rfl <| wN_mov (v := iv (a : Int)) rfl ?_
   obtain ⟨H4, gH4, fH4, hH4, pH4, kH4, cH4⟩ := sift_ok (kn := kn) (by have := hk.1; omega) hlb hn (cap := cap) hc (l := 0) (hi := u - 1) (f := a) (by omega) (by omega) hea
   refine wN_callf (vs := [.slice (some ⟨bd, 0, none⟩) n cap, iv 0, iv ((u : Int) - 1), iv (a : Int)]) rfl (by have q := callX_args fH4; rw [show ((u - 1 : Nat) : Int) = (u : Int) - 1 by omega] at q; exact q) ?_
   have mH4 := kH4.1
   have hk := hk.trans kH4
   have hc := cH4
   refine wN_end ?_
   first | refine wN_reg ?_ | refine wN_blk ?_ | refine wN_bseq ?_ | (refine wOps_nil ?_; refine wN_reg ?_)
   refine wN_mov (v := iv ((u : Int) - 1)) rfl <| wN_sub (a := (u : Int) - 1) (b := 1) rfl rfl ⟨by omega, by omega⟩ <| wN_mov (v := iv (((u : Int) - 1) - 1)) rfl <| wN_end ?_
   exact ⟨_, u - 1, by omega, ⟨rfl, by omega, _, hH4, so2 _ pH4, (hp.trans (PRm.swap (by omega) (by omega) (by omega) (by omega))).trans (pH4.mono (by omega) (by omega) (by omega)), hk, hc⟩, rfl, rfl, rfl, rfl, rfl, ivq (by omega), trivial⟩
  ·have q2 : ¬ (((u : Int) - 1) ≥ 0) := of_decide_eq_false q2
   exact And.intro trivial (Exists.intro _ (And.intro rfl ⟨rfl, g2, hp, fun i j h1 h2 h3 => by have := hs (i - a) (j - a) (by omega) (by omega) (by omega); rw [show a + (i - a) = i by omega, show a + (j - a) = j by omega] at this; exact this, hk, hc⟩))
end
end
end Go.Ax

/-
 Pool: sorting: bits, patterns broken (written by program).
-/
namespace Go.Ax
open Go Go.RowKit Go.Proofs

noncomputable section
theorem wrap_u64 {x : Int} (h : 0 ≤ x ∧ x ≤ 18446744073709551615) : IntKind.u64.wrap x = x := by
 unfold IntKind.wrap IntKind.bits IntKind.signed
 simp
 omega
theorem wrapN {m : Nat} : IntKind.u64.wrap (m : Int) = ((m % 18446744073709551616 : Nat) : Int) := by
 unfold IntKind.wrap IntKind.bits IntKind.signed
 simp
theorem up_shr {P : Program} {t : TypeId} {x y : Operand} {m d : Nat} (h : d < 64) : prun P (do eqGuard .shr t x y (.int .u64 (m : Int)) (.int .u64 (d : Int)); binOp .shr t (.int .u64 (m : Int)) (.int .u64 (d : Int))) = some (.int .u64 ((m / 2 ^ d : Nat) : Int)) := by
 show prun P (Op.shift .shr .u64 (m : Int) .u64 (d : Int)) = _
 unfold Op.shift
 rw [if_neg (by omega)]
 show some (Value.int .u64 ((m : Int).fdiv (2 ^ min d 64))) = _
 rw [Nat.min_eq_left (by omega), Int.fdiv_eq_ediv_of_nonneg _ (by exact Int.le_of_lt (Int.pow_pos (by decide)))]
 congr 2
theorem up_shl {P : Program} {t : TypeId} {x y : Operand} {m d : Nat} (h : d < 64) : prun P (do eqGuard .shl t x y (.int .u64 (m : Int)) (.int .u64 (d : Int)); binOp .shl t (.int .u64 (m : Int)) (.int .u64 (d : Int))) = some (.int .u64 ((m * 2 ^ d % 18446744073709551616 : Nat) : Int)) := by
 show prun P (Op.shift .shl .u64 (m : Int) .u64 (d : Int)) = _
 unfold Op.shift
 rw [if_neg (by omega)]
 show some (Value.int .u64 (IntKind.u64.wrap ((m : Int) * 2 ^ min d 64))) = _
 rw [Nat.min_eq_left (by omega)]
 have e : (m : Int) * 2 ^ d = ((m * 2 ^ d : Nat) : Int) := by rw [Int.natCast_mul, Int.natCast_pow]; rfl
 rw [e, wrapN]
theorem up_shli {P : Program} {t : TypeId} {x y : Operand} {m d : Nat} (h : d < 64) : prun P (do eqGuard .shl t x y (.int .u64 (m : Int)) (.int .i64 (d : Int)); binOp .shl t (.int .u64 (m : Int)) (.int .i64 (d : Int))) = some (.int .u64 ((m * 2 ^ d % 18446744073709551616 : Nat) : Int)) := by
 show prun P (Op.shift .shl .u64 (m : Int) .i64 (d : Int)) = _
 unfold Op.shift
 rw [if_neg (by omega)]
 show some (Value.int .u64 (IntKind.u64.wrap ((m : Int) * 2 ^ min d 64))) = _
 rw [Nat.min_eq_left (by omega)]
 have e : (m : Int) * 2 ^ d = ((m * 2 ^ d : Nat) : Int) := by rw [Int.natCast_mul, Int.natCast_pow]; rfl
 rw [e, wrapN]
theorem up_and {P : Program} {t : TypeId} {x y : Operand} {m n : Nat} (hm : m < 18446744073709551616) (hn : n < 18446744073709551616) : prun P (do eqGuard .and t x y (.int .u64 (m : Int)) (.int .u64 (n : Int)); binOp .and t (.int .u64 (m : Int)) (.int .u64 (n : Int))) = some (.int .u64 ((m &&& n : Nat) : Int)) := by
 show some (Value.int .u64 (IntKind.u64.wrap ((BitVec.ofInt 64 (m : Int) &&& BitVec.ofInt 64 (n : Int)).toNat : Int))) = _
 have hb : m &&& n < 18446744073709551616 := Nat.lt_of_le_of_lt Nat.and_le_left hm
 have e : (BitVec.ofInt 64 (m : Int) &&& BitVec.ofInt 64 (n : Int)).toNat = m &&& n := by
  have h1 : BitVec.ofInt 64 (m : Int) = BitVec.ofNat 64 m := by simp
  have h2 : BitVec.ofInt 64 (n : Int) = BitVec.ofNat 64 n := by simp
  rw [h1, h2, BitVec.toNat_and]
  simp only [BitVec.toNat_ofNat]
  rw [Nat.mod_eq_of_lt hm, Nat.mod_eq_of_lt hn]
 rw [e, wrap_u64 ⟨by omega, by omega⟩]
theorem up_xor {P : Program} {t : TypeId} {x y : Operand} {m n : Nat} (hm : m < 18446744073709551616) (hn : n < 18446744073709551616) : prun P (do eqGuard .xor t x y (.int .u64 (m : Int)) (.int .u64 (n : Int)); binOp .xor t (.int .u64 (m : Int)) (.int .u64 (n : Int))) = some (.int .u64 ((m ^^^ n : Nat) : Int)) := by
 show some (Value.int .u64 (IntKind.u64.wrap ((BitVec.ofInt 64 (m : Int) ^^^ BitVec.ofInt 64 (n : Int)).toNat : Int))) = _
 have hb : m ^^^ n < 2 ^ 64 := Nat.xor_lt_two_pow (by omega) (by omega)
 have e : (BitVec.ofInt 64 (m : Int) ^^^ BitVec.ofInt 64 (n : Int)).toNat = m ^^^ n := by
  have h1 : BitVec.ofInt 64 (m : Int) = BitVec.ofNat 64 m := by simp
  have h2 : BitVec.ofInt 64 (n : Int) = BitVec.ofNat 64 n := by simp
  rw [h1, h2, BitVec.toNat_xor]
  simp only [BitVec.toNat_ofNat]
  rw [Nat.mod_eq_of_lt (by omega), Nat.mod_eq_of_lt (by omega)]
 rw [e, wrap_u64 ⟨by omega, by omega⟩]
theorem up_sub1 {P : Program} {t : TypeId} {x y : Operand} {m : Nat} (h1 : 1 ≤ m) (hm : m < 18446744073709551616) : prun P (do eqGuard .sub t x y (.int .u64 (m : Int)) (.int .u64 1); binOp .sub t (.int .u64 (m : Int)) (.int .u64 1)) = some (.int .u64 ((m - 1 : Nat) : Int)) := by
 show some (Value.int .u64 (IntKind.u64.wrap ((m : Int) - 1))) = _
 rw [show (m : Int) - 1 = ((m - 1 : Nat) : Int) by omega, wrap_u64 ⟨by omega, by omega⟩]
section
variable {n : Nat} {S : Rg} {x y : Operand} {o : Option Tmp} {t t2 ty : TypeId} {p : String}
theorem v_shr {m d : Nat} (h : d < 64) (hx : evS S x = some (.int .u64 (m : Int))) (hy : evS S y = some (.int .u64 (d : Int))) : pureOp Try.prog (frS n S) ⟨o, .binOp .shr t x y t2, ty, p, #[], none⟩ = some (.int .u64 ((m / 2 ^ d : Nat) : Int)) := by
 unfold pureOp
 simp only [ev_frS, hx, hy, flat, flat1, Bool.and_self, cond_true, up_shr h]
theorem v_shl {m d : Nat} (h : d < 64) (hx : evS S x = some (.int .u64 (m : Int))) (hy : evS S y = some (.int .u64 (d : Int))) : pureOp Try.prog (frS n S) ⟨o, .binOp .shl t x y t2, ty, p, #[], none⟩ = some (.int .u64 ((m * 2 ^ d % 18446744073709551616 : Nat) : Int)) := by
 unfold pureOp
 simp only [ev_frS, hx, hy, flat, flat1, Bool.and_self, cond_true, up_shl h]
theorem v_shli {m d : Nat} (h : d < 64) (hx : evS S x = some (.int .u64 (m : Int))) {j : Int} (hy : evS S y = some (iv j)) (hj : j = (d : Int)) : pureOp Try.prog (frS n S) ⟨o, .binOp .shl t x y t2, ty, p, #[], none⟩ = some (.int .u64 ((m * 2 ^ d % 18446744073709551616 : Nat) : Int)) := by
 subst hj
 unfold pureOp
 simp only [ev_frS, hx, hy, flat, flat1, Bool.and_self, cond_true, up_shli h]
theorem v_and {m k : Nat} (hm : m < 18446744073709551616) (hk : k < 18446744073709551616) (hx : evS S x = some (.int .u64 (m : Int))) (hy : evS S y = some (.int .u64 (k : Int))) : pureOp Try.prog (frS n S) ⟨o, .binOp .and t x y t2, ty, p, #[], none⟩ = some (.int .u64 ((m &&& k : Nat) : Int)) := by
 unfold pureOp
 simp only [ev_frS, hx, hy, flat, flat1, Bool.and_self, cond_true, up_and hm hk]
theorem v_xor {m k : Nat} (hm : m < 18446744073709551616) (hk : k < 18446744073709551616) (hx : evS S x = some (.int .u64 (m : Int))) (hy : evS S y = some (.int .u64 (k : Int))) : pureOp Try.prog (frS n S) ⟨o, .binOp .xor t x y t2, ty, p, #[], none⟩ = some (.int .u64 ((m ^^^ k : Nat) : Int)) := by
 unfold pureOp
 simp only [ev_frS, hx, hy, flat, flat1, Bool.and_self, cond_true, up_xor hm hk]
theorem v_sub1 {m : Nat} (h1 : 1 ≤ m) (hm : m < 18446744073709551616) (hx : evS S x = some (.int .u64 (m : Int))) : pureOp Try.prog (frS n S) ⟨o, .binOp .sub t x (.const (.int .u64 1)) t2, ty, p, #[], none⟩ = some (.int .u64 ((m - 1 : Nat) : Int)) := by
 have hy : evS S (.const (.int .u64 1)) = some (.int .u64 1) := rfl
 unfold pureOp
 simp only [ev_frS, hx, hy, flat, flat1, Bool.and_self, cond_true, up_sub1 h1 hm]
theorem v_geq {m : Nat} {b : Int} (hx : evS S x = some (.int .u64 (m : Int))) : pureOp Try.prog (frS n S) ⟨o, .binOp .geq t x (.const (.int .u64 b)) t2, ty, p, #[], none⟩ = some (.bool (decide ((m : Int) ≥ b))) := by
 have key : prun Try.prog (do eqGuard .geq t x (.const (.int .u64 b)) (.int .u64 m) (.int .u64 b); binOp .geq t (.int .u64 m) (.int .u64 b)) = some (.bool (decide ((m : Int) ≥ b))) := rfl
 unfold pureOp
 simp only [ev_frS, hx, show evS S (.const (.int .u64 b)) = some (.int .u64 b) from rfl, show flat (.int .u64 (m : Int)) = true from rfl, show flat (.int .u64 b) = true from rfl, Bool.and_self, cond_true, key]
 rfl
end
set_option maxRecDepth 100000 in
theorem c_iu {k : Nat} {S : Rg} {d : Option Tmp} {ty : TypeId} {p : String} {x : Operand} {n : Nat} {j : Int} (h : n < 18446744073709551616) (hx : evS S x = some (iv j)) (hj : j = (n : Int)) : pureOp Try.prog (frS k S) ⟨d, .convert 3 96 x, ty, p, #[], none⟩ = some (.int .u64 (n : Int)) := by
 subst hj
 have e : ∀ z : Int, prun Try.prog (Go.convert 3 96 (.int .i64 z)) = some (.int .u64 (IntKind.u64.wrap z)) := fun z => by kernel_rfl
 unfold pureOp
 simp only [ev_frS, hx, e, wrap_u64 (x := (n : Int)) ⟨by omega, by omega⟩]
 rfl
set_option maxRecDepth 100000 in
theorem c_ix {k : Nat} {S : Rg} {d : Option Tmp} {ty : TypeId} {p : String} {x : Operand} {n : Nat} {j : Int} (h : n < 18446744073709551616) (hx : evS S x = some (iv j)) (hj : j = (n : Int)) : pureOp Try.prog (frS k S) ⟨d, .convert 3 116 x, ty, p, #[], none⟩ = some (.int .u64 (n : Int)) := by
 subst hj
 have e : ∀ z : Int, prun Try.prog (Go.convert 3 116 (.int .i64 z)) = some (.int .u64 (IntKind.u64.wrap z)) := fun z => by kernel_rfl
 unfold pureOp
 simp only [ev_frS, hx, e, wrap_u64 (x := (n : Int)) ⟨by omega, by omega⟩]
 rfl
set_option maxRecDepth 100000 in
theorem c_ui {k : Nat} {S : Rg} {d : Option Tmp} {ty : TypeId} {p : String} {x : Operand} {n : Nat} {j : Int} (h : n < 9223372036854775808) (hx : evS S x = some (.int .u64 j)) (hj : j = (n : Int)) : pureOp Try.prog (frS k S) ⟨d, .convert 96 3 x, ty, p, #[], none⟩ = some (iv (n : Int)) := by
 subst hj
 have e : ∀ z : Int, prun Try.prog (Go.convert 96 3 (.int .u64 z)) = some (.int .i64 (IntKind.i64.wrap z)) := fun z => by kernel_rfl
 unfold pureOp
 simp only [ev_frS, hx, e, wrap_i64 (x := (n : Int)) ⟨by omega, by omega⟩]
 rfl
set_option maxRecDepth 100000 in
theorem c_8i {k : Nat} {S : Rg} {d : Option Tmp} {ty : TypeId} {p : String} {x : Operand} {n : Nat} {j : Int} (h : n < 256) (hx : evS S x = some (.int .u8 j)) (hj : j = (n : Int)) : pureOp Try.prog (frS k S) ⟨d, .convert 5 3 x, ty, p, #[], none⟩ = some (iv (n : Int)) := by
 subst hj
 have e : ∀ z : Int, prun Try.prog (Go.convert 5 3 (.int .u8 z)) = some (.int .i64 (IntKind.i64.wrap z)) := fun z => by kernel_rfl
 unfold pureOp
 simp only [ev_frS, hx, e, wrap_i64 (x := (n : Int)) ⟨by omega, by omega⟩]
 rfl
theorem wrap8_all : (List.range 256).all (fun n => IntKind.u8.wrap (n : Nat) == ((n : Nat) : Int)) = true := by kernel_rfl
theorem wrap_u8' {n : Nat} (h : n < 256) : IntKind.u8.wrap (n : Int) = n := by
 have := List.all_eq_true.1 wrap8_all n (by simp; omega)
 simpa using this
set_option maxRecDepth 100000 in
theorem c_u8 {k : Nat} {S : Rg} {d : Option Tmp} {ty : TypeId} {p : String} {x : Operand} {n : Nat} {j : Int} (h : n < 256) (hx : evS S x = some (.int .u64 j)) (hj : j = (n : Int)) : pureOp Try.prog (frS k S) ⟨d, .convert 43 5 x, ty, p, #[], none⟩ = some (.int .u8 (n : Int)) := by
 subst hj
 have e : ∀ z : Int, prun Try.prog (Go.convert 43 5 (.int .u64 z)) = some (.int .u8 (IntKind.u8.wrap z)) := fun z => by kernel_rfl
 unfold pureOp
 simp only [ev_frS, hx, e, wrap_u8' h]
 rfl
def tb (n : Nat) : Nat := if n = 0 then 0 else Nat.log2 n + 1
def tabS : Value := match R77 with
 | .seq _ (.seq _ (.seq _ (.seq _ (.seq (.reg [_, _, _, ⟨_, _, .pur ⟨_, .index _ (.const v) _, _, _, _, _⟩⟩, _, _, _]) _)))) => v
 | _ => undef
theorem tb_all : (List.range 256).all (fun n => match pureOp Try.prog (frS 25 [(21, .int .u8 (n : Nat))]) ⟨some 22, .index 9 (.const tabS) (.tmp 21), 5, "", #[], none⟩ with | some (.int .u8 x) => x == ((tb n : Nat) : Int) | _ => false) = true := by kernel_rfl
theorem tb2_all : (List.range 256).all (fun n => decide (tb n ≤ 8 ∧ (n = 0 ∨ 2 ^ tb n ≤ 2 * n))) = true := by kernel_rfl
theorem tb_le {n : Nat} (h : n < 256) : tb n ≤ 8 ∧ (n = 0 ∨ 2 ^ tb n ≤ 2 * n) := of_decide_eq_true (List.all_eq_true.1 tb2_all n (by simp; omega))
set_option maxRecDepth 100000 in
theorem tb_idx {k : Nat} {S : Rg} {x : Operand} {n : Nat} (h : n < 256) (hx : evS S x = some (.int .u8 n)) : pureOp Try.prog (frS k S) ⟨some 22, .index 9 (.const tabS) x, 5, "", #[], none⟩ = some (.int .u8 (tb n : Int)) := by
 have := List.all_eq_true.1 tb_all n (by simp; omega)
 split at this <;> first | (cases this; done) | skip
 rename_i y hy
 have e : y = ((tb n : Nat) : Int) := by simpa using this
 rw [← e, ← hy]
 unfold pureOp
 simp only [ev_frS, hx]
 rfl
def bl64 (n : Nat) : Nat := if 256 ≤ n then 8 + tb (n / 256) else tb n
theorem bl64_le {n : Nat} (h : n < 65536) : bl64 n ≤ 16 ∧ 1 ≤ 2 ^ bl64 n ∧ (n = 0 ∨ 2 ^ bl64 n ≤ 2 * n) := by
 unfold bl64
 split
 ·have h1 := tb_le (n := n / 256) (by omega)
  refine ⟨by omega, Nat.pos_of_ne_zero (by simp), .inr ?_⟩
  rw [Nat.pow_add]
  have : 2 ^ tb (n / 256) ≤ 2 * (n / 256) := by rcases h1.2 with e | e; omega; exact e
  omega
 ·have h1 := tb_le (n := n) (by omega)
  exact ⟨by omega, Nat.pos_of_ne_zero (by simp), h1.2⟩
section
variable {kn : Kn} {lo : Nat} {H : Hp}
theorem wC_lseq {P : Program} {n : Nat} {rd : Bool} {x y : RC} {S : Rg} {K : Exit → Rg → Hp → Prop} (h : wC P kn lo n rd x S H fun e S' H' => match e with | .normal => wC P kn lo n rd y S' H' K | e => K e S' H') : wC P kn lo n rd (.seq x y) S H K := h
theorem wC_cond {P : Program} {n : Nat} {rd : Bool} {o : Operand} {x y : RC} {t : Bool} {S : Rg} {K : Exit → Rg → Hp → Prop} (ho : evS S o = some (.bool t)) (h1 : t = true → wC P kn lo n rd x S H K) (h2 : t = false → wC P kn lo n rd y S H K) : wC P kn lo n rd (.cond o x y) S H K := by
 simp only [wC, ho]; exact ⟨h1, h2⟩
theorem wC_block {P : Program} {n : Nat} {rd : Bool} {id : Nat} {b : RC} {S : Rg} {K : Exit → Rg → Hp → Prop} (h : wC P kn lo n rd b S H fun e S' H' => match e with | .exit j => (bif Nat.beq j id then K .normal S' H' else K (.exit j) S' H') | e => K e S' H') : wC P kn lo n rd (.block id b) S H K := h
theorem wC_other {P : Program} {n : Nat} {rd : Bool} {c : Code} {S : Rg} {K : Exit → Rg → Hp → Prop} (h : Tri P kn lo n rd c S H K) : wC P kn lo n rd (.other c) S H K := h
set_option maxRecDepth 100000 in
theorem len64_ok {n : Nat} (h : n < 65536) : ∃ H', FnX Try.prog kn lo 77 [.int .u64 n] H (iv (bl64 n : Int)) H' ∧ Keep H H' [] := by
 have key := fnX_low (kn := kn) (lo := lo) (H := H) (args := [.int .u64 n]) (Q := fun w H' => w = iv (bl64 n : Int) ∧ Keep H H' []) Try.func77 B77 N77 Z77 L77 (by simp) ?_
 ·obtain ⟨w, H', h, rfl, q⟩ := key; exact ⟨H', h, q⟩
 refine wN_seq (wN_mov rfl (wN_end ?_))
 refine wC_lseq (wN_seq (wN_mov rfl (wN_pur (v := .bool false) rfl ((v_geq (m := n) rfl).trans (by rw [decide_eq_false (by omega)])) (wN_end (wC_cond (t := false) rfl (fun h => by cases h) fun _ => wN_skip ?_)))))
 refine wC_lseq (wN_seq (wN_mov rfl (wN_pur (v := .bool false) rfl ((v_geq (m := n) rfl).trans (by rw [decide_eq_false (by omega)])) (wN_end (wC_cond (t := false) rfl (fun h => by cases h) fun _ => wN_skip ?_)))))
 refine wC_lseq (wN_seq (wN_mov rfl (wN_pur (v := .bool (decide ((n : Int) ≥ 256))) rfl (v_geq (m := n) rfl) (wN_end (wC_cond (t := decide ((n : Int) ≥ 256)) rfl (fun hq => ?_) (fun hq => ?_))))))
 ·have hq := of_decide_eq_true hq
  refine wN_seq (wN_mov rfl (wN_pur (v := .int .u64 ((n / 256 : Nat) : Int)) rfl (v_shr (m := n) (d := 8) (by decide) rfl rfl) (wN_mov rfl (wN_end ?_))))
  refine wN_reg (wN_mov rfl (wN_add (a := 0) (b := 8) rfl rfl ⟨by omega, by omega⟩ (wN_mov rfl (wN_end ?_))))
  refine wN_seq (wN_mov rfl (wN_mov rfl (wN_pur (v := .int .u8 ((n / 256 : Nat) : Int)) rfl (c_u8 (n := n / 256) (j := ((n / 256 : Nat) : Int)) (by omega) rfl rfl) ?_)))
  refine wN_pur (v := .int .u8 ((tb (n / 256) : Nat) : Int)) rfl (tb_idx (n := n / 256) (by omega) rfl) ?_
  have ht := tb_le (n := n / 256) (by omega)
  refine wN_pur (v := iv ((tb (n / 256) : Nat) : Int)) rfl (c_8i (n := tb (n / 256)) (j := ((tb (n / 256) : Nat) : Int)) (by omega) rfl rfl) (wN_add (a := 0 + 8) (b := ((tb (n / 256) : Nat) : Int)) rfl rfl ⟨by omega, by omega⟩ (wN_mov rfl (wN_end ?_)))
  exact ⟨True.intro, [iv ((0 + 8) + ((tb (n / 256) : Nat) : Int))], rfl, by unfold bl64; rw [if_pos (by omega)]; exact congrArg iv (by omega), Keep.refl _ _⟩
 ·have hq := of_decide_eq_false hq
  refine wN_skip ?_
  refine wN_seq (wN_mov rfl (wN_mov rfl (wN_pur (v := .int .u8 ((n : Nat) : Int)) rfl (c_u8 (n := n) (j := (n : Int)) (by omega) rfl rfl) ?_)))
  refine wN_pur (v := .int .u8 ((tb n : Nat) : Int)) rfl (tb_idx (n := n) (by omega) rfl) ?_
  have ht := tb_le (n := n) (by omega)
  refine wN_pur (v := iv ((tb n : Nat) : Int)) rfl (c_8i (n := tb n) (j := ((tb n : Nat) : Int)) (by omega) rfl rfl) (wN_add (a := 0) (b := ((tb n : Nat) : Int)) rfl rfl ⟨by omega, by omega⟩ (wN_mov rfl (wN_end ?_)))
  exact ⟨True.intro, [iv (0 + ((tb n : Nat) : Int))], rfl, by unfold bl64; rw [if_neg (by omega)]; exact congrArg iv (by omega), Keep.refl _ _⟩
theorem len_ok {n : Nat} (h : n < 65536) : ∃ H', FnX Try.prog kn lo 66 [.int .u64 n] H (iv (bl64 n : Int)) H' ∧ Keep H H' [] := by
 have key := fnX_low (kn := kn) (lo := lo) (H := H) (args := [.int .u64 n]) (Q := fun w H' => w = iv (bl64 n : Int) ∧ Keep H H' []) Try.func66 B66 N66 Z66 L66 (by simp) ?_
 ·obtain ⟨w, H', h, rfl, q⟩ := key; exact ⟨H', h, q⟩
 obtain ⟨H1, h1, k1⟩ := len64_ok (kn := kn) (lo := lo) (H := H) h
 refine wN_seq (wN_mov rfl (wN_end (wC_lseq (wC_cond (t := false) rfl (fun h => by cases h) fun _ => wN_skip ?_))))
 refine wN_seq (wN_mov rfl (wN_callf rfl (callX_args h1) (wN_mov rfl (wN_end ?_))))
 exact ⟨True.intro, [iv (bl64 n : Int)], rfl, rfl, k1⟩
theorem pow2_ok {n : Nat} (h : n < 65536) : ∃ H', FnX Try.prog kn lo 79 [iv (n : Int)] H (.int .u64 ((2 ^ bl64 n : Nat) : Int)) H' ∧ Keep H H' [] := by
 have key := fnX_low (kn := kn) (lo := lo) (H := H) (args := [iv (n : Int)]) (Q := fun w H' => w = .int .u64 ((2 ^ bl64 n : Nat) : Int) ∧ Keep H H' []) Try.func79 B79 N79 Z79 L79 (by simp) ?_
 ·obtain ⟨w, H', h, rfl, q⟩ := key; exact ⟨H', h, q⟩
 obtain ⟨H1, h1, k1⟩ := len_ok (kn := kn) (lo := lo) (H := H) h
 have hb := bl64_le h
 have hm : 1 * 2 ^ bl64 n % 18446744073709551616 = 2 ^ bl64 n := by
  rw [Nat.one_mul]
  refine Nat.mod_eq_of_lt (Nat.lt_of_le_of_lt (Nat.pow_le_pow_right (by decide) hb.1) (by decide))
 refine wN_seq (wN_mov rfl (wN_end ?_))
 refine wN_seq (wN_mov rfl (wN_pur (v := .int .u64 (n : Int)) rfl (c_iu (n := n) (j := (n : Int)) (by omega) rfl rfl) (wN_callf rfl (callX_args h1) ?_)))
 refine wN_pur (v := .int .u64 ((2 ^ bl64 n : Nat) : Int)) rfl ((v_shli (m := 1) (d := bl64 n) (j := (bl64 n : Int)) (by omega) rfl rfl rfl).trans (by rw [hm])) (wN_mov rfl (wN_end ?_))
 exact ⟨True.intro, [.int .u64 ((2 ^ bl64 n : Nat) : Int)], rfl, rfl, k1⟩
theorem xor_lt {m n : Nat} (hm : m < 18446744073709551616) (hn : n < 18446744073709551616) : m ^^^ n < 18446744073709551616 := Nat.xor_lt_two_pow (n := 64) hm hn
theorem xnext_ok {sb m : Nat} (hsb : lo ≤ sb) (hm : m < 18446744073709551616) (hs : Cl H sb [.int .u64 (m : Int)]) : ∃ H' m', FnX Try.prog kn lo 80 [.pointer (some ⟨sb, 0, none⟩)] H (.int .u64 ((m' : Nat) : Int)) H' ∧ m' < 18446744073709551616 ∧ Keep H H' [sb] ∧ Cl H' sb [.int .u64 (m' : Int)] := by
 have key := fnX_low (kn := kn) (lo := lo) (H := H) (args := [.pointer (some ⟨sb, 0, none⟩)]) (Q := fun w H' => ∃ m' : Nat, w = .int .u64 (m' : Int) ∧ m' < 18446744073709551616 ∧ Keep H H' [sb] ∧ Cl H' sb [.int .u64 (m' : Int)]) Try.func80 B80 N80 Z80 L80 (by simp) ?_
 ·obtain ⟨w, H', h, m', rfl, q⟩ := key; exact ⟨H', m', h, q⟩
 refine wN_seq (wN_mov rfl (wN_end ?_))
 obtain ⟨m1, e1⟩ : ∃ m1, m1 = m ^^^ (m * 2 ^ 13 % 18446744073709551616) := ⟨_, rfl⟩
 have l1 : m1 < 18446744073709551616 := by rw [e1]; exact xor_lt hm (Nat.mod_lt _ (by decide))
 refine wD_seq (wD_mov rfl (wD_nilc rfl (wD_ld (v := .int .u64 (m : Int)) rfl hs.rd rfl (wD_mov rfl (wD_nilc rfl (wD_ld (v := .int .u64 (m : Int)) rfl hs.rd rfl ?_))))))
 refine wD_pur (v := .int .u64 ((m * 2 ^ 13 % 18446744073709551616 : Nat) : Int)) rfl (v_shl (m := m) (d := 13) (by decide) rfl rfl) <| wD_pur (v := .int .u64 (m1 : Int)) rfl ((v_xor (m := m) (k := m * 2 ^ 13 % 18446744073709551616) hm (Nat.mod_lt _ (by decide)) rfl rfl).trans (by rw [e1])) ?_
 refine wD_nilc rfl (wD_st rfl rfl hs hsb rfl rfl (by simp) fun H1 k1 n1 c1 => wD_end (by repeat' first | exact True.intro | exact (fun h => h) | refine And.intro ?_ ?_ | (intro h; have h : (_ : Nat) = _ := h; omega)) ?_)
 have c1 : Cl H1 sb [.int .u64 (m1 : Int)] := c1
 obtain ⟨m2, e2⟩ : ∃ m2, m2 = m1 ^^^ (m1 / 2 ^ 7) := ⟨_, rfl⟩
 have q2 : m1 / 2 ^ 7 < 18446744073709551616 := Nat.lt_of_le_of_lt (Nat.div_le_self _ _) l1
 have l2 : m2 < 18446744073709551616 := by rw [e2]; exact xor_lt l1 q2
 refine wD_seq (wD_mov rfl (wD_nilc rfl (wD_ld (v := .int .u64 (m1 : Int)) rfl c1.rd rfl (wD_mov rfl (wD_nilc rfl (wD_ld (v := .int .u64 (m1 : Int)) rfl c1.rd rfl ?_))))))
 refine wD_pur (v := .int .u64 ((m1 / 2 ^ 7 : Nat) : Int)) rfl (v_shr (m := m1) (d := 7) (by decide) rfl rfl) <| wD_pur (v := .int .u64 (m2 : Int)) rfl ((v_xor (m := m1) (k := m1 / 2 ^ 7) l1 q2 rfl rfl).trans (by rw [e2])) ?_
 refine wD_nilc rfl (wD_st rfl rfl c1 hsb rfl rfl (by simp) fun H2 k2 n2 c2 => wD_end (by repeat' first | exact True.intro | exact (fun h => h) | refine And.intro ?_ ?_ | (intro h; have h : (_ : Nat) = _ := h; omega)) ?_)
 have c2 : Cl H2 sb [.int .u64 (m2 : Int)] := c2
 obtain ⟨m3, e3⟩ : ∃ m3, m3 = m2 ^^^ (m2 * 2 ^ 17 % 18446744073709551616) := ⟨_, rfl⟩
 have l3 : m3 < 18446744073709551616 := by rw [e3]; exact xor_lt l2 (Nat.mod_lt _ (by decide))
 refine wD_seq (wD_mov rfl (wD_nilc rfl (wD_ld (v := .int .u64 (m2 : Int)) rfl c2.rd rfl (wD_mov rfl (wD_nilc rfl (wD_ld (v := .int .u64 (m2 : Int)) rfl c2.rd rfl ?_))))))
 refine wD_pur (v := .int .u64 ((m2 * 2 ^ 17 % 18446744073709551616 : Nat) : Int)) rfl (v_shl (m := m2) (d := 17) (by decide) rfl rfl) <| wD_pur (v := .int .u64 (m3 : Int)) rfl ((v_xor (m := m2) (k := m2 * 2 ^ 17 % 18446744073709551616) l2 (Nat.mod_lt _ (by decide)) rfl rfl).trans (by rw [e3])) ?_
 refine wD_nilc rfl (wD_st rfl rfl c2 hsb rfl rfl (by simp) fun H3 k3 n3 c3 => wD_end (by repeat' first | exact True.intro | exact (fun h => h) | refine And.intro ?_ ?_ | (intro h; have h : (_ : Nat) = _ := h; omega)) ?_)
 have c3 : Cl H3 sb [.int .u64 (m3 : Int)] := c3
 refine wN_seq (wN_mov rfl (wN_nilc rfl (wN_ld (v := .int .u64 (m3 : Int)) rfl c3.rd rfl (wN_mov rfl (wN_end ?_)))))
 exact ⟨True.intro, [.int .u64 (m3 : Int)], rfl, m3, rfl, l3, (k1.trans k2).trans k3, c3⟩
theorem Keep.new1 {H H' : Hp} {bd sb : Nat} (h : Keep H H' [bd, sb]) (hs : H.next ≤ sb) : Keep H H' [bd] :=
 ⟨h.1, fun b hb hn => h.2 b hb (by simp at hn ⊢; omega), h.3⟩
set_option maxRecDepth 100000 in
set_option maxHeartbeats 1000000 in
theorem brk_ok (hlo : lo ≤ H.next) {bd cap n : Nat} {g : Nat → Int} (hlb : lo ≤ bd) (hn : n ≤ 1000000) (hc : Cl H bd (cF n g)) {a b : Nat} (hab : a ≤ b) (hb : b ≤ n) (hl : b - a < 65536) : ∃ H' g', FnX Try.prog kn lo 69 [.slice (some ⟨bd, 0, none⟩) n cap, iv (a : Int), iv (b : Int)] H (.tuple #[]) H' ∧ PRm a b g g' ∧ Keep H H' [bd] ∧ Cl H' bd (cF n g') := by
 have key := fnX_low (kn := kn) (lo := lo) (H := H) (args := [.slice (some ⟨bd, 0, none⟩) n cap, iv (a : Int), iv (b : Int)]) (Q := fun w H' => w = .tuple #[] ∧ ∃ g' : Nat → Int, PRm a b g g' ∧ Keep H H' [bd] ∧ Cl H' bd (cF n g')) Try.func69 B69 N69 Z69 L69 (by simp) ?_
 ·obtain ⟨w, H', h, rfl, g', r⟩ := key; exact ⟨H', g', h, r⟩
 have hk := Keep.refl H [bd]
 have hbl := hc.1
 refine wN_seq <| wN_mov (v := iv (b : Int)) rfl <| wN_mov (v := iv (a : Int)) rfl <| wN_sub (a := (b : Int)) (b := (a : Int)) rfl rfl ⟨by omega, by omega⟩ <| wN_mov (v := iv ((b : Int) - (a : Int))) rfl <| wN_end <| wN_seq <| wN_mov (v := iv ((b : Int) - (a : Int))) rfl <| wN_c_geq (a := (b : Int) - (a : Int)) (b := 8) rfl rfl <| wN_end ?_
 refine And.intro (fun q1 => ?_) (fun q1 => ?_)
 ·have q1 : ((b : Int) - (a : Int)) ≥ 8 := of_decide_eq_true q1
  refine wN_seq <| wN_mov (v := iv ((b : Int) - (a : Int))) rfl <| wN_pur (v := .int .u64 ((b - a : Nat) : Int)) rfl (c_ix (n := b - a) (j := (b : Int) - (a : Int)) (by omega) rfl (by omega)) <| wN_alc ?_
  intro H1 kH1 nH1 c1
  have c1 : Cl H1 H.next [.int .u64 0] := c1
  have mH1 := kH1.1
  have hc := kH1.cl hc (by simp)
  have hk := hk.trans (kH1.mono (by simp))
  refine wN_st (b := H.next) (o := 0) rfl rfl c1 (by omega) rfl rfl (by simp) ?_
  intro H2 kH2 nH2 sH2
  have mH2 := kH2.1
  have hc := kH2.cl hc (by first | (simp; done) | (simp; omega))
  have hk := hk.new kH2 (fun b hb => by simp at hb ⊢; omega)
  have c1 : Cl H2 H.next [.int .u64 ((b - a : Nat) : Int)] := sH2
  refine wN_end <| wN_seq <| wN_mov (v := iv ((b : Int) - (a : Int))) rfl ?_
  obtain ⟨H3, fH3, kH3⟩ := pow2_ok (kn := kn) (lo := lo) (H := H2) (n := b - a) (by omega)
  refine wN_callf (vs := [iv ((b : Int) - (a : Int))]) rfl (by have q := callX_args fH3; rw [show ((b - a : Nat) : Int) = (b : Int) - (a : Int) by omega] at q; exact q) ?_
  have mH3 := kH3.1
  have hc := kH3.cl hc (by simp)
  have hk := hk.trans (kH3.mono (by simp))
  have c1 := kH3.cl c1 (by simp)
  refine wN_mov (v := .int .u64 ((2 ^ bl64 (b - a) : Nat) : Int)) rfl <| wN_end <| wN_seq <| wN_mov (v := iv (a : Int)) rfl <| wN_mov (v := iv ((b : Int) - (a : Int))) rfl <| wN_quo (a := (b : Int) - (a : Int)) (b := 4) rfl rfl (by omega) (by omega) ⟨by omega, by omega⟩ <| wN_mul (a := ((b : Int) - (a : Int)) / 4) (b := 2) rfl rfl ⟨by omega, by omega⟩ <| wN_add (a := (a : Int)) (b := (((b : Int) - (a : Int)) / 4) * 2) rfl rfl ⟨by omega, by omega⟩ <| wN_sub (a := (a : Int) + ((((b : Int) - (a : Int)) / 4) * 2)) (b := 1) rfl rfl ⟨by omega, by omega⟩ <| wN_mov (v := iv (((a : Int) + ((((b : Int) - (a : Int)) / 4) * 2)) - 1)) rfl <| wN_end ?_
  have hb2 := bl64_le (n := b - a) (by omega)
  obtain ⟨M, eM⟩ : ∃ M, M = 2 ^ bl64 (b - a) := ⟨_, rfl⟩
  rw [← eM] at hb2
  obtain ⟨sb, esb⟩ : ∃ sb, sb = H.next := ⟨_, rfl⟩
  have hne : sb ≠ bd := by omega
  have hlsb : lo ≤ sb := by omega
  have hsb2 := c1
  rw [← esb] at hsb2
  have hkx := hk.mono (l' := [bd, sb]) (by simp)
  skip
  refine loop_low (fn := Try.f69) E69_1 N69 L69x1 (fun t : Nat => [(0, .slice (some ⟨bd, 0, none⟩) n cap), (1, iv (a : Int)), (2, iv (b : Int)), (6, iv ((b : Int) - (a : Int))), (7, pt sb), (8, .int .u64 ((2 ^ bl64 (b - a) : Nat) : Int)), (9, iv (t : Int))])
   (fun k t H' => k = a + (b - a) / 4 * 2 + 2 - t ∧ a + (b - a) / 4 * 2 ≤ t + 1 ∧ t ≤ a + (b - a) / 4 * 2 + 2 ∧ ∃ (g' : Nat → Int) (m : Nat), PRm a b g g' ∧ m < 18446744073709551616 ∧ Keep H H' [bd, sb] ∧ Cl H' sb [.int .u64 (m : Int)] ∧ Cl H' bd (cF n g')) _ (a + (b - a) / 4 * 2 - 1) ⟨rfl, by omega, by omega, g, b - a, PRm.refl _ _ _, by omega, hkx, hsb2, hc⟩ ⟨rfl, rfl, rfl, rfl, by rw [esb]; rfl, rfl, ivq (by omega), trivial⟩ ?_
  rintro k t L1 ⟨rfl, ht1, ht2, g1, m, hp, hm, hk, hs, hc⟩
  refine wN_seq <| wN_mov (v := iv (t : Int)) rfl <| wN_mov (v := iv (a : Int)) rfl <| wN_mov (v := iv ((b : Int) - (a : Int))) rfl <| wN_quo (a := (b : Int) - (a : Int)) (b := 4) rfl rfl (by omega) (by omega) ⟨by omega, by omega⟩ <| wN_mul (a := ((b : Int) - (a : Int)) / 4) (b := 2) rfl rfl ⟨by omega, by omega⟩ <| wN_add (a := (a : Int)) (b := (((b : Int) - (a : Int)) / 4) * 2) rfl rfl ⟨by omega, by omega⟩ <| wN_add (a := (a : Int) + ((((b : Int) - (a : Int)) / 4) * 2)) (b := 1) rfl rfl ⟨by omega, by omega⟩ <| wN_c_leq (a := (t : Int)) (b := ((a : Int) + ((((b : Int) - (a : Int)) / 4) * 2)) + 1) rfl rfl <| wN_end ?_
  refine And.intro (fun q2 => ?_) (fun q2 => ?_)
  ·have q2 : (t : Int) ≤ (((a : Int) + ((((b : Int) - (a : Int)) / 4) * 2)) + 1) := of_decide_eq_true q2
   first | refine wN_skip ?_ | skip
   refine wN_seq ?_
   obtain ⟨H4, mH4x, fH4, hm2, kH4, sH4⟩ := xnext_ok (kn := kn) (lo := lo) (H := L1) hlsb hm hs
   refine wN_callf rfl (callX_args fH4) ?_
   have mH4 := kH4.1
   have hk := hk.trans (kH4.mono (by simp))
   have hc := kH4.cl hc (by simp; omega)
   have hs := sH4
   refine wN_mov (v := .int .u64 ((2 ^ bl64 (b - a) : Nat) : Int)) rfl <| wN_pur (v := .int .u64 ((2 ^ bl64 (b - a) - 1 : Nat) : Int)) rfl (v_sub1 (m := 2 ^ bl64 (b - a)) (by omega) (by omega) rfl) <| wN_pur (v := .int .u64 ((mH4x &&& (2 ^ bl64 (b - a) - 1) : Nat) : Int)) rfl (v_and (m := mH4x) (k := 2 ^ bl64 (b - a) - 1) hm2 (by omega) rfl rfl) ?_
   have hor : mH4x &&& (2 ^ bl64 (b - a) - 1) ≤ 2 ^ bl64 (b - a) - 1 := Nat.and_le_right
   obtain ⟨z, ez⟩ : ∃ z, z = mH4x &&& (2 ^ bl64 (b - a) - 1) := ⟨_, rfl⟩
   rw [← ez] at hor
   refine wN_pur (v := iv (z : Int)) rfl ((c_ui (n := mH4x &&& (2 ^ bl64 (b - a) - 1)) (j := ((mH4x &&& (2 ^ bl64 (b - a) - 1) : Nat) : Int)) (by omega) rfl rfl).trans (by rw [ez])) <| wN_mov (v := iv (z : Int)) rfl <| wN_end <| wN_seq <| wN_mov (v := iv (z : Int)) rfl <| wN_mov (v := iv ((b : Int) - (a : Int))) rfl <| wN_c_geq (a := (z : Int)) (b := (b : Int) - (a : Int)) rfl rfl <| wN_end ?_
   refine And.intro (fun q3 => ?_) (fun q3 => ?_)
   ·have q3 : (z : Int) ≥ ((b : Int) - (a : Int)) := of_decide_eq_true q3
    refine wN_seq <| wN_mov (v := iv (z : Int)) rfl <| wN_mov (v := iv ((b : Int) - (a : Int))) rfl <| wN_sub (a := (z : Int)) (b := (b : Int) - (a : Int)) rfl rfl ⟨by omega, by omega⟩ <| wN_mov (v := iv ((z : Int) - ((b : Int) - (a : Int)))) rfl <| wN_end ?_
    first | refine wD_dreg ?_ | refine wB_dreg ?_ | refine wB_seq ?_ | (refine wOps_nil ?_; refine wD_dreg ?_)
    refine wD_mov (v := .slice (some ⟨bd, 0, none⟩) n cap) rfl <| wD_mov (v := iv (t : Int)) rfl <| wD_mov (v := .slice (some ⟨bd, 0, none⟩) n cap) rfl <| wD_mov (v := iv (a : Int)) rfl <| wD_mov (v := iv ((z : Int) - ((b : Int) - (a : Int)))) rfl <| wD_add (a := (a : Int)) (b := (z : Int) - ((b : Int) - (a : Int))) rfl rfl ⟨by omega, by omega⟩ <| wD_mov (v := .slice (some ⟨bd, 0, none⟩) n cap) rfl <| wD_mov (v := iv (a : Int)) rfl <| wD_mov (v := iv ((z : Int) - ((b : Int) - (a : Int)))) rfl <| wD_add (a := (a : Int)) (b := (z : Int) - ((b : Int) - (a : Int))) rfl rfl ⟨by omega, by omega⟩ <| wD_idx (b := bd) (o := 0) (k := a + (z - (b - a))) (j := (a : Int) + ((z : Int) - ((b : Int) - (a : Int)))) rfl rfl (by omega) (by omega) <| wD_ld (b := bd) (o := 0 + (a + (z - (b - a))) * 1) (v := iv (g1 (a + (z - (b - a))))) rfl hc.rd (cF_at (by omega)) ?_
    refine wD_mov (v := .slice (some ⟨bd, 0, none⟩) n cap) rfl <| wD_mov (v := iv (t : Int)) rfl <| wD_idx (b := bd) (o := 0) (k := t) (j := (t : Int)) rfl rfl (by omega) (by omega) <| wD_ld (b := bd) (o := 0 + t * 1) (v := iv (g1 t)) rfl hc.rd (cF_at (by omega)) <| wD_idx (b := bd) (o := 0) (k := t) (j := (t : Int)) rfl rfl (by omega) (by omega) <| wD_st (b := bd) (o := 0 + t * 1) rfl rfl hc hlb rfl rfl (by rw [cF_len]; omega) ?_
    intro H5 kH5 nH5 sH5
    have mH5 := kH5.1
    have hk := hk.trans (kH5.mono (by simp))
    have hs := kH5.cl hs (by simp; omega)
    rw [cF_set (by omega)] at sH5
    have hc := sH5
    refine wD_idx (b := bd) (o := 0) (k := a + (z - (b - a))) (j := (a : Int) + ((z : Int) - ((b : Int) - (a : Int)))) rfl rfl (by omega) (by omega) <| wD_st (b := bd) (o := 0 + (a + (z - (b - a))) * 1) rfl rfl hc hlb rfl rfl (by rw [cF_len]; omega) ?_
    intro H6 kH6 nH6 sH6
    have mH6 := kH6.1
    have hk := hk.trans (kH6.mono (by simp))
    have hs := kH6.cl hs (by simp; omega)
    rw [cF_set (by omega)] at sH6
    have hc := sH6
    have hc : Cl H6 bd (cF n (swp g1 t (a + (z - (b - a))))) := hc
    refine wD_end (by repeat' first | exact True.intro | exact (fun h => h) | refine And.intro ?_ ?_ | (intro h; have h : (_ : Nat) = _ := h; omega)) ?_
    first | refine wN_reg ?_ | refine wN_blk ?_ | refine wN_bseq ?_ | (refine wOps_nil ?_; refine wN_reg ?_)
    refine wN_mov (v := iv (t : Int)) rfl <| wN_add (a := (t : Int)) (b := 1) rfl rfl ⟨by omega, by omega⟩ <| wN_mov (v := iv ((t : Int) + 1)) rfl <| wN_end ?_
    exact ⟨_, t + 1, by omega, ⟨rfl, by omega, by omega, _, _, hp.trans (PRm.swap (by omega) (by omega) (by omega) (by omega)), hm2, hk, hs, hc⟩, rfl, rfl, rfl, rfl, rfl, rfl, ivq (by omega), trivial⟩
   ·have q3 : ¬ ((z : Int) ≥ ((b : Int) - (a : Int))) := of_decide_eq_false q3
    first | refine wN_skip ?_ | skip
    first | refine wD_dreg ?_ | refine wB_dreg ?_ | refine wB_seq ?_ | (refine wOps_nil ?_; refine wD_dreg ?_)
    refine wD_mov (v := .slice (some ⟨bd, 0, none⟩) n cap) rfl <| wD_mov (v := iv (t : Int)) rfl <| wD_mov (v := .slice (some ⟨bd, 0, none⟩) n cap) rfl <| wD_mov (v := iv (a : Int)) rfl <| wD_mov (v := iv (z : Int)) rfl <| wD_add (a := (a : Int)) (b := (z : Int)) rfl rfl ⟨by omega, by omega⟩ <| wD_mov (v := .slice (some ⟨bd, 0, none⟩) n cap) rfl <| wD_mov (v := iv (a : Int)) rfl <| wD_mov (v := iv (z : Int)) rfl <| wD_add (a := (a : Int)) (b := (z : Int)) rfl rfl ⟨by omega, by omega⟩ <| wD_idx (b := bd) (o := 0) (k := a + z) (j := (a : Int) + (z : Int)) rfl rfl (by omega) (by omega) <| wD_ld (b := bd) (o := 0 + (a + z) * 1) (v := iv (g1 (a + z))) rfl hc.rd (cF_at (by omega)) ?_
    refine wD_mov (v := .slice (some ⟨bd, 0, none⟩) n cap) rfl <| wD_mov (v := iv (t : Int)) rfl <| wD_idx (b := bd) (o := 0) (k := t) (j := (t : Int)) rfl rfl (by omega) (by omega) <| wD_ld (b := bd) (o := 0 + t * 1) (v := iv (g1 t)) rfl hc.rd (cF_at (by omega)) <| wD_idx (b := bd) (o := 0) (k := t) (j := (t : Int)) rfl rfl (by omega) (by omega) <| wD_st (b := bd) (o := 0 + t * 1) rfl rfl hc hlb rfl rfl (by rw [cF_len]; omega) ?_
    intro H7 kH7 nH7 sH7
    have mH7 := kH7.1
    have hk := hk.trans (kH7.mono (by simp))
    have hs := kH7.cl hs (by simp; omega)
    rw [cF_set (by omega)] at sH7
    have hc := sH7
    refine wD_idx (b := bd) (o := 0) (k := a + z) (j := (a : Int) + (z : Int)) rfl rfl (by omega) (by omega) <| wD_st (b := bd) (o := 0 + (a + z) * 1) rfl rfl hc hlb rfl rfl (by rw [cF_len]; omega) ?_
    intro H8 kH8 nH8 sH8
    have mH8 := kH8.1
    have hk := hk.trans (kH8.mono (by simp))
    have hs := kH8.cl hs (by simp; omega)
    rw [cF_set (by omega)] at sH8
    have hc := sH8
    have hc : Cl H8 bd (cF n (swp g1 t (a + z))) := hc
    refine wD_end (by repeat' first | exact True.intro | exact (fun h => h) | refine And.intro ?_ ?_ | (intro h; have h : (_ : Nat) = _ := h; omega)) ?_
    first | refine wN_reg ?_ | refine wN_blk ?_ | refine wN_bseq ?_ | (refine wOps_nil ?_; refine wN_reg ?_)
    refine wN_mov (v := iv (t : Int)) rfl <| wN_add (a := (t : Int)) (b := 1) rfl rfl ⟨by omega, by omega⟩ <| wN_mov (v := iv ((t : Int) + 1)) rfl <| wN_end ?_
    exact ⟨_, t + 1, by omega, ⟨rfl, by omega, by omega, _, _, hp.trans (PRm.swap (by omega) (by omega) (by omega) (by omega)), hm2, hk, hs, hc⟩, rfl, rfl, rfl, rfl, rfl, rfl, ivq (by omega), trivial⟩
  ·have q2 : ¬ ((t : Int) ≤ (((a : Int) + ((((b : Int) - (a : Int)) / 4) * 2)) + 1)) := of_decide_eq_false q2
   exact And.intro trivial (Exists.intro _ (And.intro rfl ⟨rfl, _, hp, hk.new1 (by omega), hc⟩))
 ·have q1 : ¬ (((b : Int) - (a : Int)) ≥ 8) := of_decide_eq_false q1
  first | refine wN_skip ?_ | skip
  exact And.intro trivial (Exists.intro _ (And.intro rfl ⟨rfl, _, PRm.refl _ _ _, hk, hc⟩))
end
end
end Go.Ax

/-
 Pool: sorting: insertion sort, and in part (written by program).
-/
namespace Go.Ax
open Go Go.RowKit Go.Proofs

noncomputable section
structure Insr (a i j : Nat) (g : Nat → Int) : Prop where
 so : ∀ p q, a ≤ p → p ≤ q → q ≤ i → p ≠ j → q ≠ j → g p ≤ g q
 lt : ∀ q, j < q → q ≤ i → g j ≤ g q
 aj : a ≤ j
 ji : j ≤ i
theorem Insr.init {a i : Nat} {g : Nat → Int} (h : Sor (fun x : Int => x) a i g) (ha : a ≤ i) : Insr a i i g := ⟨fun p q h1 h2 h3 h4 h5 => h p q h1 h2 (by omega), fun q h1 h2 => by omega, ha, Nat.le_refl _⟩
theorem Insr.step {a i j : Nat} {g : Nat → Int} (h : Insr a i j g) (hj : a < j) (hl : g j < g (j - 1)) : Insr a i (j - 1) (swp g j (j - 1)) := by
 have h0 := h.aj
 have h1 := h.ji
 have hlt := h.lt
 have hso := h.so
 refine ⟨fun p q a1 a2 a3 a4 a5 => ?_, fun q a1 a2 => ?_, by omega, by omega⟩
 ·by_cases e1 : p = j
  ·subst e1
   rw [swp_l]
   by_cases e2 : q = p
   ·subst e2; rw [swp_l]; exact Int.le_refl _
   ·rw [swp_n (by omega) (by omega)]; exact hso (p - 1) q (by omega) (by omega) a3 (by omega) (by omega)
  ·by_cases e2 : q = j
   ·subst e2
    rw [swp_l, swp_n (by omega) (by omega)]; exact hso p (q - 1) a1 (by omega) (by omega) (by omega) (by omega)
   ·rw [swp_n (by omega) (by omega), swp_n (by omega) (by omega)]; exact hso p q a1 a2 a3 e1 e2
 ·rw [swp_r]
  by_cases e2 : q = j
  ·subst e2; rw [swp_l]; omega
  ·rw [swp_n (by omega) (by omega)]; exact hlt q (by omega) a2
theorem Insr.done {a i j : Nat} {g : Nat → Int} (h : Insr a i j g) (hd : a < j → ¬ g j < g (j - 1)) : Sor (fun x : Int => x) a (i + 1) g := by
 have h0 := h.aj
 have h1 := h.ji
 have hlt := h.lt
 have hso := h.so
 intro p q a1 a2 a3
 show g p ≤ g q
 by_cases e1 : p = j
 ·subst e1
  by_cases e2 : q = p
  ·subst e2; exact Int.le_refl _
  ·exact hlt q (by omega) (by omega)
 ·by_cases e2 : q = j
  ·subst e2
   have c1 := hd (by omega)
   have c2 : g p ≤ g (q - 1) := hso p (q - 1) a1 (by omega) (by omega) e1 (by omega)
   omega
  ·exact hso p q a1 a2 (by omega) e1 e2
theorem Sor.one {a : Nat} {g : Nat → Int} : Sor (fun x : Int => x) a (a + 1) g := fun p q h1 h2 h3 => by rw [show p = q by omega]; exact Int.le_refl _
theorem Sor.next {a i : Nat} {g : Nat → Int} (h : Sor (fun x : Int => x) a i g) (hi : a < i) (hl : ¬ g i < g (i - 1)) : Sor (fun x : Int => x) a (i + 1) g := (Insr.init h (by omega)).done fun _ => hl
theorem Sor.swap {a i j k : Nat} {g : Nat → Int} (h : Sor (fun x : Int => x) a i g) (hj : i ≤ j) (hk : i ≤ k) : Sor (fun x : Int => x) a i (swp g j k) := fun p q h1 h2 h3 => by
 show swp g j k p ≤ swp g j k q
 rw [swp_n (by omega) (by omega), swp_n (by omega) (by omega)]; exact h p q h1 h2 h3
theorem Sor.swap1 {a i : Nat} {g : Nat → Int} (h : Sor (fun x : Int => x) a i g) (hi : a < i) : Insr a (i - 1) (i - 1) (swp g i (i - 1)) := by
 refine ⟨fun p q a1 a2 a3 a4 a5 => ?_, fun q a1 a2 => by omega, by omega, Nat.le_refl _⟩
 rw [swp_n (by omega) (by omega), swp_n (by omega) (by omega)]; exact h p q a1 a2 (by omega)
section
variable {kn : Kn} {lo : Nat} {H : Hp}
theorem insF_ok (hlo : lo ≤ H.next) {bd cap n : Nat} {g : Nat → Int} (hlb : lo ≤ bd) (hn : n ≤ 1000000) (hc : Cl H bd (cF n g)) {a b : Nat} (hab : a ≤ b) (hb : b ≤ n) : ∃ H' g', FnX Try.prog kn lo 67 [.slice (some ⟨bd, 0, none⟩) n cap, iv (a : Int), iv (b : Int)] H (.tuple #[]) H' ∧ PRm a b g g' ∧ Sor (fun x : Int => x) a b g' ∧ Keep H H' [bd] ∧ Cl H' bd (cF n g') := by
 have key := fnX_low (kn := kn) (lo := lo) (H := H) (args := [.slice (some ⟨bd, 0, none⟩) n cap, iv (a : Int), iv (b : Int)]) (Q := fun w H' => w = .tuple #[] ∧ ∃ g' : Nat → Int, PRm a b g g' ∧ Sor (fun x : Int => x) a b g' ∧ Keep H H' [bd] ∧ Cl H' bd (cF n g')) Try.func67 B67 N67 Z67 L67 (by simp) ?_
 ·obtain ⟨w, H', h, rfl, g', r⟩ := key; exact ⟨H', g', h, r⟩
 have hk := Keep.refl H [bd]
 refine wN_seq <| wN_mov (v := iv (a : Int)) rfl <| wN_add (a := (a : Int)) (b := 1) rfl rfl ⟨by omega, by omega⟩ <| wN_mov (v := iv ((a : Int) + 1)) rfl <| wN_end ?_
 refine loop_low (fn := Try.f67) E67_1 N67 L67x1 (fun i : Nat => [(0, .slice (some ⟨bd, 0, none⟩) n cap), (1, iv (a : Int)), (2, iv (b : Int)), (6, iv (i : Int))])
  (fun k i H' => k = b + 1 - i ∧ a + 1 ≤ i ∧ (i ≤ b ∨ i = a + 1) ∧ ∃ g' : Nat → Int, PRm a b g g' ∧ Sor (fun x : Int => x) a i g' ∧ Keep H H' [bd] ∧ Cl H' bd (cF n g')) _ (a + 1) ⟨rfl, Nat.le_refl _, .inr rfl, g, PRm.refl _ _ _, Sor.one, hk, hc⟩ ⟨rfl, rfl, rfl, ivq (by omega), trivial⟩ ?_
 rintro k i L1 ⟨rfl, hi1, hi2, gx1, hp, hs, hk, hc⟩
 refine wN_seq <| wN_mov (v := iv (i : Int)) rfl <| wN_mov (v := iv (b : Int)) rfl <| wN_c_lss (a := (i : Int)) (b := (b : Int)) rfl rfl <| wN_end ?_
 refine And.intro (fun q1 => ?_) (fun q1 => ?_)
 ·have q1 : (i : Int) < (b : Int) := of_decide_eq_true q1
  first | refine wN_skip ?_ | skip
  refine wN_seq <| wN_mov (v := iv (i : Int)) rfl <| wN_mov (v := iv (i : Int)) rfl <| wN_end ?_
  have hib : i < b := by omega
  refine loop_low (fn := Try.f67) E67_2 N67 L67x2 (fun j : Nat => [(0, .slice (some ⟨bd, 0, none⟩) n cap), (1, iv (a : Int)), (2, iv (b : Int)), (6, iv (i : Int)), (7, iv (j : Int))])
   (fun k j H' => k = j + 1 ∧ ∃ g' : Nat → Int, PRm a b g g' ∧ Insr a i j g' ∧ Keep H H' [bd] ∧ Cl H' bd (cF n g')) _ i ⟨rfl, gx1, hp, Insr.init hs (by omega), hk, hc⟩ ⟨rfl, rfl, rfl, rfl, rfl, trivial⟩ ?_
  rintro k j L2 ⟨rfl, gx2, hp, hin, hk, hc⟩
  have qaj := hin.aj; have qji := hin.ji
  refine wD_seq <| wD_mov (v := iv (j : Int)) rfl <| wD_mov (v := iv (a : Int)) rfl <| wD_b_gtr (a := (j : Int)) (b := (a : Int)) rfl rfl ?_
  intro t2 g2; cases t2
  ·have g2 : ¬ ((j : Int) > (a : Int)) := of_decide_eq_false g2
   refine wD_mov (v := .bool false) rfl <| wD_gs rfl <| wD_gs rfl <| wD_gs rfl <| wD_gs rfl <| wD_gs rfl <| wD_gs rfl <| wD_gs rfl <| wD_gs rfl <| wD_gs rfl <| wD_gs rfl <| wD_pur (v := .bool false) rfl rfl ?_
   refine wD_end (by repeat' first | exact True.intro | exact (fun h => h) | refine And.intro ?_ ?_ | (intro h; have h : (_ : Nat) = _ := h; omega)) ?_
   refine condF ?_
   first | (refine wN_exit ?_; show wC _ _ _ _ _ _ _ _ _) | skip
   first | refine wN_reg ?_ | refine wN_blk ?_ | refine wN_bseq ?_ | (refine wOps_nil ?_; refine wN_reg ?_)
   refine wN_mov (v := iv (i : Int)) rfl <| wN_add (a := (i : Int)) (b := 1) rfl rfl ⟨by omega, by omega⟩ <| wN_mov (v := iv ((i : Int) + 1)) rfl <| wN_end ?_
   exact ⟨_, i + 1, by omega, ⟨rfl, by omega, by omega, gx2, hp, hin.done (fun h => by omega), hk, hc⟩, rfl, rfl, rfl, ivq (by omega), trivial⟩
  ·have g2 : (j : Int) > (a : Int) := of_decide_eq_true g2
   refine wD_mov (v := .bool true) rfl ?_
   refine wD_g rfl (wD_mov (v := .slice (some ⟨bd, 0, none⟩) n cap) rfl ?_)
   refine wD_g rfl (wD_mov (v := iv (j : Int)) rfl ?_)
   refine wD_g rfl (wD_idx (b := bd) (o := 0) (k := j) (j := (j : Int)) rfl rfl (by omega) (by omega) ?_)
   refine wD_g rfl (wD_ld (b := bd) (o := 0 + j * 1) (v := iv (gx2 j)) rfl hc.rd (cF_at (by omega)) ?_)
   refine wD_g rfl (wD_mov (v := .slice (some ⟨bd, 0, none⟩) n cap) rfl ?_)
   refine wD_g rfl (wD_mov (v := iv (j : Int)) rfl ?_)
   refine wD_g rfl (wD_sub (a := (j : Int)) (b := 1) rfl rfl ⟨by omega, by omega⟩ ?_)
   refine wD_g rfl (wD_idx (b := bd) (o := 0) (k := j - 1) (j := (j : Int) - 1) rfl rfl (by omega) (by omega) ?_)
   refine wD_g rfl (wD_ld (b := bd) (o := 0 + (j - 1) * 1) (v := iv (gx2 (j - 1))) rfl hc.rd (cF_at (by omega)) ?_)
   obtain ⟨H1, fH1, kH1⟩ := less_ok (kn := kn) (lo := lo) (H := L2) (gx2 j) (gx2 (j - 1))
   refine wD_g rfl (wD_callf (vs := [iv (gx2 j), iv (gx2 (j - 1))]) rfl (callX_args fH1) ?_)
   have mH1 := kH1.1
   have hc := kH1.cl hc (by simp)
   have hk := hk.trans (kH1.mono (by simp))
   refine wD_pur (v := .bool (decide (gx2 j < gx2 (j - 1)))) rfl rfl ?_
   refine wD_end (by repeat' first | exact True.intro | exact (fun h => h) | refine And.intro ?_ ?_ | (intro h; have h : (_ : Nat) = _ := h; omega)) ?_
   refine And.intro (fun q3 => ?_) (fun q3 => ?_)
   ·have q3 : gx2 j < gx2 (j - 1) := of_decide_eq_true q3
    first | refine wN_skip ?_ | skip
    first | refine wD_dreg ?_ | refine wB_dreg ?_ | refine wB_seq ?_ | (refine wOps_nil ?_; refine wD_dreg ?_)
    refine wD_mov (v := .slice (some ⟨bd, 0, none⟩) n cap) rfl <| wD_mov (v := iv (j : Int)) rfl <| wD_mov (v := .slice (some ⟨bd, 0, none⟩) n cap) rfl <| wD_mov (v := iv (j : Int)) rfl <| wD_sub (a := (j : Int)) (b := 1) rfl rfl ⟨by omega, by omega⟩ <| wD_mov (v := .slice (some ⟨bd, 0, none⟩) n cap) rfl <| wD_mov (v := iv (j : Int)) rfl <| wD_sub (a := (j : Int)) (b := 1) rfl rfl ⟨by omega, by omega⟩ <| wD_idx (b := bd) (o := 0) (k := j - 1) (j := (j : Int) - 1) rfl rfl (by omega) (by omega) <| wD_ld (b := bd) (o := 0 + (j - 1) * 1) (v := iv (gx2 (j - 1))) rfl hc.rd (cF_at (by omega)) <| wD_mov (v := .slice (some ⟨bd, 0, none⟩) n cap) rfl <| wD_mov (v := iv (j : Int)) rfl ?_
    refine wD_idx (b := bd) (o := 0) (k := j) (j := (j : Int)) rfl rfl (by omega) (by omega) <| wD_ld (b := bd) (o := 0 + j * 1) (v := iv (gx2 j)) rfl hc.rd (cF_at (by omega)) <| wD_idx (b := bd) (o := 0) (k := j) (j := (j : Int)) rfl rfl (by omega) (by omega) <| wD_st (b := bd) (o := 0 + j * 1) rfl rfl hc hlb rfl rfl (by rw [cF_len]; omega) ?_
    intro H2 kH2 nH2 sH2
    have mH2 := kH2.1
    have hk := hk.trans kH2
    rw [cF_set (by omega)] at sH2
    have hc := sH2
    refine wD_idx (b := bd) (o := 0) (k := j - 1) (j := (j : Int) - 1) rfl rfl (by omega) (by omega) <| wD_st (b := bd) (o := 0 + (j - 1) * 1) rfl rfl hc hlb rfl rfl (by rw [cF_len]; omega) ?_
    intro H3 kH3 nH3 sH3
    have mH3 := kH3.1
    have hk := hk.trans kH3
    rw [cF_set (by omega)] at sH3
    have hc := sH3
    have hc : Cl H3 bd (cF n (swp gx2 j (j - 1))) := hc
    refine wD_end (by repeat' first | exact True.intro | exact (fun h => h) | refine And.intro ?_ ?_ | (intro h; have h : (_ : Nat) = _ := h; omega)) ?_
    first | refine wN_reg ?_ | refine wN_blk ?_ | refine wN_bseq ?_ | (refine wOps_nil ?_; refine wN_reg ?_)
    refine wN_mov (v := iv (j : Int)) rfl <| wN_sub (a := (j : Int)) (b := 1) rfl rfl ⟨by omega, by omega⟩ <| wN_mov (v := iv ((j : Int) - 1)) rfl <| wN_end ?_
    exact ⟨_, j - 1, by omega, ⟨rfl, _, hp.trans (PRm.swap (by omega) (by omega) (by omega) (by omega)), hin.step (by omega) (by omega), hk, hc⟩, rfl, rfl, rfl, rfl, ivq (by omega), trivial⟩
   ·have q3 : ¬ (gx2 j < gx2 (j - 1)) := of_decide_eq_false q3
    first | (refine wN_exit ?_; show wC _ _ _ _ _ _ _ _ _) | skip
    first | refine wN_reg ?_ | refine wN_blk ?_ | refine wN_bseq ?_ | (refine wOps_nil ?_; refine wN_reg ?_)
    refine wN_mov (v := iv (i : Int)) rfl <| wN_add (a := (i : Int)) (b := 1) rfl rfl ⟨by omega, by omega⟩ <| wN_mov (v := iv ((i : Int) + 1)) rfl <| wN_end ?_
    exact ⟨_, i + 1, by omega, ⟨rfl, by omega, by omega, gx2, hp, hin.done (fun h => by omega), hk, hc⟩, rfl, rfl, rfl, ivq (by omega), trivial⟩
 ·have q1 : ¬ ((i : Int) < (b : Int)) := of_decide_eq_false q1
  first | (refine wN_exit ?_; show wC _ _ _ _ _ _ _ _ _) | skip
  exact And.intro trivial (Exists.intro _ (And.intro rfl ⟨rfl, gx1, hp, fun p q h1 h2 h3 => hs p q h1 h2 (by omega), hk, hc⟩))
end
noncomputable def R72x1v : RC := (.seq (.seq (.reg [oM 13 8, oQ 14 .lss 13 5])
 (.cond (.tmp 14) .skip
 (.exit 0)))
 (.seq (.block 1 (.seq (.block 2 (.other (at_ Try.f72 [1, 1, 0, 1, 0, 0, 1, 0, 0, 0, 0])))
 (.other (at_ Try.f72 [1, 1, 0, 1, 0, 0, 1, 0, 0, 1]))))
 (.other (at_ Try.f72 [1, 1, 0, 1, 0, 0, 1, 1]))))
theorem V72x1 : LV Try.prog 133 (at_ Try.f72 [1, 1, 0, 1, 0, 0]) R72x1v := by
 have e : at_ Try.f72 [1, 1, 0, 1, 0, 0] = (.seq (at_ Try.f72 [1, 1, 0, 1, 0, 0, 0]) (.seq (.block 1 (.seq (at_ Try.f72 [1, 1, 0, 1, 0, 0, 1, 0, 0, 0]) (at_ Try.f72 [1, 1, 0, 1, 0, 0, 1, 0, 0, 1]))) (at_ Try.f72 [1, 1, 0, 1, 0, 0, 1, 1]))) := by kernel_rfl
 rw [e]
 exact (.seq (.low (by kernel_rfl)) (.seq (.block 1 (.seq (.low (by kernel_rfl)) (.other _))) (.other _)))
noncomputable def R72Pv : RC := (.seq (.seq (.reg [oM 35 7, oM 36 2, ⟨some 37, none, (.cmp .eql (.tmp 35) (.tmp 36))⟩])
 (.cond (.tmp 37) (.seq (.reg [⟨some 6, none, (.mov (.const (.bool true)))⟩])
 .ret)
 .skip))
 (.seq (.seq (.reg [oM 38 2, oM 39 1, oS 40 .sub 38 39, oQ 41 .lss 40 50])
 (.cond (.tmp 41) (.seq (.reg [oF 6])
 .ret)
 .skip))
 (.seq (.dreg [oM 42 0, oM 43 7, oM 44 0, oM 45 7, oR 46 .sub 45 1, oM 47 0, oM 48 7, oR 49 .sub 48 1, oI 50 47 49 1, oL 51 50 1, oM 52 0, oM 53 7, oI 54 52 53 1, oL 55 54 1, oI 56 42 43 1, ⟨none, none, (.st (.tmp 56) (.tmp 51))⟩, oI 57 44 46 1, ⟨none, none, (.st (.tmp 57) (.tmp 55))⟩] [131071, 65535, 32739, 16355, 7168, 3072, 0, 0, 480, 224, 64, 0, 0, 8, 0, 0, 0, 0])
 (.seq (.seq (.reg [oM 58 7, oM 59 1, oS 60 .sub 58 59, oQ 61 .geq 60 2])
 (.cond (.tmp 61) (.seq (.reg [oM 62 7, oR 63 .sub 62 1, oM 9 63])
 (.block 4 (.other (at_ Try.f72 [1, 1, 0, 1, 0, 0, 1, 0, 0, 1, 1, 1, 1, 0, 1, 0, 1, 0]))))
 .skip))
 (.other (at_ Try.f72 [1, 1, 0, 1, 0, 0, 1, 0, 0, 1, 1, 1, 1, 1]))))))
theorem V72P : LV Try.prog 133 (at_ Try.f72 [1, 1, 0, 1, 0, 0, 1, 0, 0, 1]) R72Pv := by
 have e : at_ Try.f72 [1, 1, 0, 1, 0, 0, 1, 0, 0, 1] = (.seq (at_ Try.f72 [1, 1, 0, 1, 0, 0, 1, 0, 0, 1, 0]) (.seq (at_ Try.f72 [1, 1, 0, 1, 0, 0, 1, 0, 0, 1, 1, 0]) (.seq (at_ Try.f72 [1, 1, 0, 1, 0, 0, 1, 0, 0, 1, 1, 1, 0]) (.seq (at_ Try.f72 [1, 1, 0, 1, 0, 0, 1, 0, 0, 1, 1, 1, 1, 0]) (at_ Try.f72 [1, 1, 0, 1, 0, 0, 1, 0, 0, 1, 1, 1, 1, 1]))))) := by kernel_rfl
 rw [e]
 exact (.seq (.low (by kernel_rfl)) (.seq (.low (by kernel_rfl)) (.seq (.low (by kernel_rfl)) (.seq (.low (by kernel_rfl)) (.other _)))))
noncomputable def R72J : RC := (.reg [oM 15 8, oR 16 .add 15 1, oM 8 16])
theorem L72J : low Try.prog 133 (at_ Try.f72 [1, 1, 0, 1, 0, 0, 1, 1]) = some R72J := by kernel_rfl
noncomputable def R72Q : RC := (.seq (.reg [oM 95 2, oM 96 7, oS 97 .sub 95 96, oQ 98 .geq 97 2])
 (.cond (.tmp 98) (.seq (.reg [oM 99 7, oR 100 .add 99 1, oM 10 100])
 (.block 6 (.other (at_ Try.f72 [1, 1, 0, 1, 0, 0, 1, 0, 0, 1, 1, 1, 1, 1, 1, 0, 1, 0]))))
 .skip))
theorem L72Q : low Try.prog 133 (at_ Try.f72 [1, 1, 0, 1, 0, 0, 1, 0, 0, 1, 1, 1, 1, 1]) = some R72Q := by kernel_rfl
section
variable {kn : Kn} {lo : Nat} {H : Hp}
set_option maxRecDepth 100000 in
set_option maxHeartbeats 2000000 in
theorem pin_Q {bd cap n a b : Nat} {g0 gx1 : Nat → Int} {H0 : Hp} (hlb : lo ≤ bd) (hn : n ≤ 1000000) (hb : b ≤ n) {i j : Nat} (hi1 : a + 1 ≤ i) (hi2 : i ≤ b) (hp : PRm a b g0 gx1) (hk : Keep H0 H [bd]) (hc : Cl H bd (cF n gx1)) (hs : Sor (fun x : Int => x) a i gx1) (hib : i < b) {S : Rg} (hS : Subs [(0, .slice (some ⟨bd, 0, none⟩) n cap), (1, iv (a : Int)), (2, iv (b : Int)), (7, iv (i : Int)), (8, iv (j : Int))] S) {K : Exit → Rg → Hp → Prop} (hN : ∀ H' S' (g' : Nat → Int), PRm a b g0 g' → Sor (fun x : Int => x) a i g' → Keep H0 H' [bd] → Cl H' bd (cF n g') → Subs [(0, .slice (some ⟨bd, 0, none⟩) n cap), (1, iv (a : Int)), (2, iv (b : Int)), (7, iv (i : Int)), (8, iv (j : Int))] S' → K .normal S' H') : Tri Try.prog kn lo 133 false (at_ Try.f72 [1, 1, 0, 1, 0, 0, 1, 0, 0, 1, 1, 1, 1, 1]) S H K := by
 refine tri_piece L72Q hS ?_
 refine wN_seq <| wN_mov (v := iv (b : Int)) rfl <| wN_mov (v := iv (i : Int)) rfl <| wN_sub (a := (b : Int)) (b := (i : Int)) rfl rfl ⟨by omega, by omega⟩ <| wN_c_geq (a := (b : Int) - (i : Int)) (b := 2) rfl rfl <| wN_end ?_
 refine And.intro (fun q1 => ?_) (fun q1 => ?_)
 ·have q1 : ((b : Int) - (i : Int)) ≥ 2 := of_decide_eq_true q1
  refine wN_seq <| wN_mov (v := iv (i : Int)) rfl <| wN_add (a := (i : Int)) (b := 1) rfl rfl ⟨by omega, by omega⟩ <| wN_mov (v := iv ((i : Int) + 1)) rfl <| wN_end ?_
  refine loop_low (fn := Try.f72) E72_4 N72 L72x4 (fun jL1 : Nat => [(0, .slice (some ⟨bd, 0, none⟩) n cap), (1, iv (a : Int)), (2, iv (b : Int)), (7, iv (i : Int)), (8, iv (j : Int)), (10, iv (jL1 : Int))])
   (fun k jL1 H' => k = b - jL1 ∧ i + 1 ≤ jL1 ∧ jL1 ≤ b ∧ ∃ g' : Nat → Int, PRm a b g0 g' ∧ Sor (fun x : Int => x) a i g' ∧ Keep H0 H' [bd] ∧ Cl H' bd (cF n g')) _ (i + 1) ⟨rfl, Nat.le_refl _, by omega, gx1, hp, hs, hk, hc⟩ ⟨rfl, rfl, rfl, rfl, rfl, ivq (by omega), trivial⟩ ?_
  rintro k jL1 L1 ⟨rfl, hjv, hjb, gL1, hp, hs, hk, hc⟩
  refine wN_seq <| wN_mov (v := iv (jL1 : Int)) rfl <| wN_mov (v := iv (b : Int)) rfl <| wN_c_lss (a := (jL1 : Int)) (b := (b : Int)) rfl rfl <| wN_end ?_
  refine And.intro (fun q2 => ?_) (fun q2 => ?_)
  ·have q2 : (jL1 : Int) < (b : Int) := of_decide_eq_true q2
   first | refine wN_skip ?_ | skip
   refine wD_seq <| wD_mov (v := .slice (some ⟨bd, 0, none⟩) n cap) rfl <| wD_mov (v := iv (jL1 : Int)) rfl <| wD_idx (b := bd) (o := 0) (k := jL1) (j := (jL1 : Int)) rfl rfl (by omega) (by omega) <| wD_ld (b := bd) (o := 0 + jL1 * 1) (v := iv (gL1 jL1)) rfl hc.rd (cF_at (by omega)) <| wD_mov (v := .slice (some ⟨bd, 0, none⟩) n cap) rfl <| wD_mov (v := iv (jL1 : Int)) rfl <| wD_sub (a := (jL1 : Int)) (b := 1) rfl rfl ⟨by omega, by omega⟩ <| wD_idx (b := bd) (o := 0) (k := jL1 - 1) (j := (jL1 : Int) - 1) rfl rfl (by omega) (by omega) <| wD_ld (b := bd) (o := 0 + (jL1 - 1) * 1) (v := iv (gL1 (jL1 - 1))) rfl hc.rd (cF_at (by omega)) ?_
   obtain ⟨H1, fH1, kH1⟩ := less_ok (kn := kn) (lo := lo) (H := L1) (gL1 jL1) (gL1 (jL1 - 1))
   refine wD_callf (vs := [iv (gL1 jL1), iv (gL1 (jL1 - 1))]) rfl (callX_args fH1) ?_
   have mH1 := kH1.1
   have hc := kH1.cl hc (by simp)
   have hk := hk.trans (kH1.mono (by simp))
   refine wD_pur (v := .bool (!(decide (gL1 jL1 < gL1 (jL1 - 1))))) rfl rfl ?_
   refine wD_end (by repeat' first | exact True.intro | exact (fun h => h) | refine And.intro ?_ ?_ | (intro h; have h : (_ : Nat) = _ := h; omega)) ?_
   refine And.intro (fun q3 => ?_) (fun q3 => ?_)
   ·have q3 : ¬ (gL1 jL1 < gL1 (jL1 - 1)) := by simpa using q3
    first | (refine wN_exit ?_; show wC _ _ _ _ _ _ _ _ _) | skip
    exact hN _ _ _ hp hs hk hc ⟨rfl, rfl, rfl, rfl, rfl, trivial⟩
   ·have q3 : ¬ (¬ (gL1 jL1 < gL1 (jL1 - 1))) := by simpa using q3
    first | refine wN_skip ?_ | skip
    first | refine wD_dreg ?_ | refine wB_dreg ?_ | refine wB_seq ?_ | (refine wOps_nil ?_; refine wD_dreg ?_)
    refine wD_mov (v := .slice (some ⟨bd, 0, none⟩) n cap) rfl <| wD_mov (v := iv (jL1 : Int)) rfl <| wD_mov (v := .slice (some ⟨bd, 0, none⟩) n cap) rfl <| wD_mov (v := iv (jL1 : Int)) rfl <| wD_sub (a := (jL1 : Int)) (b := 1) rfl rfl ⟨by omega, by omega⟩ <| wD_mov (v := .slice (some ⟨bd, 0, none⟩) n cap) rfl <| wD_mov (v := iv (jL1 : Int)) rfl <| wD_sub (a := (jL1 : Int)) (b := 1) rfl rfl ⟨by omega, by omega⟩ <| wD_idx (b := bd) (o := 0) (k := jL1 - 1) (j := (jL1 : Int) - 1) rfl rfl (by omega) (by omega) <| wD_ld (b := bd) (o := 0 + (jL1 - 1) * 1) (v := iv (gL1 (jL1 - 1))) rfl hc.rd (cF_at (by omega)) <| wD_mov (v := .slice (some ⟨bd, 0, none⟩) n cap) rfl <| wD_mov (v := iv (jL1 : Int)) rfl ?_
    refine wD_idx (b := bd) (o := 0) (k := jL1) (j := (jL1 : Int)) rfl rfl (by omega) (by omega) <| wD_ld (b := bd) (o := 0 + jL1 * 1) (v := iv (gL1 jL1)) rfl hc.rd (cF_at (by omega)) <| wD_idx (b := bd) (o := 0) (k := jL1) (j := (jL1 : Int)) rfl rfl (by omega) (by omega) <| wD_st (b := bd) (o := 0 + jL1 * 1) rfl rfl hc hlb rfl rfl (by rw [cF_len]; omega) ?_
    intro H2 kH2 nH2 sH2
    have mH2 := kH2.1
    have hk := hk.trans kH2
    rw [cF_set (by omega)] at sH2
    have hc := sH2
    refine wD_idx (b := bd) (o := 0) (k := jL1 - 1) (j := (jL1 : Int) - 1) rfl rfl (by omega) (by omega) <| wD_st (b := bd) (o := 0 + (jL1 - 1) * 1) rfl rfl hc hlb rfl rfl (by rw [cF_len]; omega) ?_
    intro H3 kH3 nH3 sH3
    have mH3 := kH3.1
    have hk := hk.trans kH3
    rw [cF_set (by omega)] at sH3
    have hc := sH3
    have hc : Cl H3 bd (cF n (swp gL1 jL1 (jL1 - 1))) := hc
    refine wD_end (by repeat' first | exact True.intro | exact (fun h => h) | refine And.intro ?_ ?_ | (intro h; have h : (_ : Nat) = _ := h; omega)) ?_
    first | refine wN_reg ?_ | refine wN_blk ?_ | refine wN_bseq ?_ | (refine wOps_nil ?_; refine wN_reg ?_)
    refine wN_mov (v := iv (jL1 : Int)) rfl <| wN_add (a := (jL1 : Int)) (b := 1) rfl rfl ⟨by omega, by omega⟩ <| wN_mov (v := iv ((jL1 : Int) + 1)) rfl <| wN_end ?_
    exact ⟨_, jL1 + 1, by omega, ⟨rfl, by omega, by omega, _, hp.trans (PRm.swap (by omega) (by omega) (by omega) (by omega)), hs.swap (by omega) (by omega), hk, hc⟩, rfl, rfl, rfl, rfl, rfl, ivq (by omega), trivial⟩
  ·have q2 : ¬ ((jL1 : Int) < (b : Int)) := of_decide_eq_false q2
   first | (refine wN_exit ?_; show wC _ _ _ _ _ _ _ _ _) | skip
   exact hN _ _ _ hp hs hk hc ⟨rfl, rfl, rfl, rfl, rfl, trivial⟩
 ·have q1 : ¬ (((b : Int) - (i : Int)) ≥ 2) := of_decide_eq_false q1
  first | refine wN_skip ?_ | skip
  exact hN _ _ _ hp hs hk hc ⟨rfl, rfl, rfl, rfl, rfl, trivial⟩
set_option maxRecDepth 100000 in
set_option maxHeartbeats 2000000 in
theorem pin_P {bd cap n a b : Nat} {g0 gx1 : Nat → Int} {H0 : Hp} (hlb : lo ≤ bd) (hn : n ≤ 1000000) (hb : b ≤ n) {i j : Nat} (hi1 : a + 1 ≤ i) (hi2 : i ≤ b) (hp : PRm a b g0 gx1) (hk : Keep H0 H [bd]) (hc : Cl H bd (cF n gx1)) (hs : Sor (fun x : Int => x) a i gx1) (hlow : Low (fun x : Int => x) a b g0) {S : Rg} (hS : Subs [(0, .slice (some ⟨bd, 0, none⟩) n cap), (1, iv (a : Int)), (2, iv (b : Int)), (7, iv (i : Int)), (8, iv (j : Int))] S) {K : Exit → Rg → Hp → Prop} (hN : ∀ H' S' (g' : Nat → Int), PRm a b g0 g' → Sor (fun x : Int => x) a i g' → Keep H0 H' [bd] → Cl H' bd (cF n g') → Subs [(0, .slice (some ⟨bd, 0, none⟩) n cap), (1, iv (a : Int)), (2, iv (b : Int)), (7, iv (i : Int)), (8, iv (j : Int))] S' → K .normal S' H') (hK : ∀ H' S' (t : Bool) (g' : Nat → Int), PRm a b g0 g' → (t = true → Sor (fun x : Int => x) a b g') → Keep H0 H' [bd] → Cl H' bd (cF n g') → lk S' 6 = some (.bool t) → K .ret S' H') : Tri Try.prog kn lo 133 false (at_ Try.f72 [1, 1, 0, 1, 0, 0, 1, 0, 0, 1]) S H K := by
 refine tri_lv V72P hS ?_
 refine wN_seq <| wN_mov (v := iv (i : Int)) rfl <| wN_mov (v := iv (b : Int)) rfl <| wN_c_eql (a := (i : Int)) (b := (b : Int)) rfl rfl <| wN_end ?_
 refine And.intro (fun q1 => ?_) (fun q1 => ?_)
 ·have q1 : (i : Int) = (b : Int) := by simpa using q1
  refine wN_seq <| wN_mov (v := .bool true) rfl <| wN_end ?_
  exact hK _ _ true _ hp (fun _ p q h1 h2 h3 => hs p q h1 h2 (by omega)) hk hc rfl
 ·have q1 : ¬ ((i : Int) = (b : Int)) := by simpa using q1
  first | refine wN_skip ?_ | skip
  refine wN_seq <| wN_mov (v := iv (b : Int)) rfl <| wN_mov (v := iv (a : Int)) rfl <| wN_sub (a := (b : Int)) (b := (a : Int)) rfl rfl ⟨by omega, by omega⟩ <| wN_c_lss (a := (b : Int) - (a : Int)) (b := 50) rfl rfl <| wN_end ?_
  refine And.intro (fun q2 => ?_) (fun q2 => ?_)
  ·have q2 : ((b : Int) - (a : Int)) < 50 := of_decide_eq_true q2
   refine wN_seq <| wN_mov (v := .bool false) rfl <| wN_end ?_
   exact hK _ _ false _ hp (fun h => (by cases h)) hk hc rfl
  ·have q2 : ¬ (((b : Int) - (a : Int)) < 50) := of_decide_eq_false q2
   first | refine wN_skip ?_ | skip
   refine wD_seq <| wD_mov (v := .slice (some ⟨bd, 0, none⟩) n cap) rfl <| wD_mov (v := iv (i : Int)) rfl <| wD_mov (v := .slice (some ⟨bd, 0, none⟩) n cap) rfl <| wD_mov (v := iv (i : Int)) rfl <| wD_sub (a := (i : Int)) (b := 1) rfl rfl ⟨by omega, by omega⟩ <| wD_mov (v := .slice (some ⟨bd, 0, none⟩) n cap) rfl <| wD_mov (v := iv (i : Int)) rfl <| wD_sub (a := (i : Int)) (b := 1) rfl rfl ⟨by omega, by omega⟩ <| wD_idx (b := bd) (o := 0) (k := i - 1) (j := (i : Int) - 1) rfl rfl (by omega) (by omega) <| wD_ld (b := bd) (o := 0 + (i - 1) * 1) (v := iv (gx1 (i - 1))) rfl hc.rd (cF_at (by omega)) <| wD_mov (v := .slice (some ⟨bd, 0, none⟩) n cap) rfl ?_
   refine wD_mov (v := iv (i : Int)) rfl <| wD_idx (b := bd) (o := 0) (k := i) (j := (i : Int)) rfl rfl (by omega) (by omega) <| wD_ld (b := bd) (o := 0 + i * 1) (v := iv (gx1 i)) rfl hc.rd (cF_at (by omega)) <| wD_idx (b := bd) (o := 0) (k := i) (j := (i : Int)) rfl rfl (by omega) (by omega) <| wD_st (b := bd) (o := 0 + i * 1) rfl rfl hc hlb rfl rfl (by rw [cF_len]; omega) ?_
   intro H1 kH1 nH1 sH1
   have mH1 := kH1.1
   have hk := hk.trans kH1
   rw [cF_set (by omega)] at sH1
   have hc := sH1
   refine wD_idx (b := bd) (o := 0) (k := i - 1) (j := (i : Int) - 1) rfl rfl (by omega) (by omega) <| wD_st (b := bd) (o := 0 + (i - 1) * 1) rfl rfl hc hlb rfl rfl (by rw [cF_len]; omega) ?_
   intro H2 kH2 nH2 sH2
   have mH2 := kH2.1
   have hk := hk.trans kH2
   rw [cF_set (by omega)] at sH2
   have hc := sH2
   have hc : Cl H2 bd (cF n (swp gx1 i (i - 1))) := hc
   refine wD_end (by repeat' first | exact True.intro | exact (fun h => h) | refine And.intro ?_ ?_ | (intro h; have h : (_ : Nat) = _ := h; omega)) ?_
   refine wN_seq <| wN_mov (v := iv (i : Int)) rfl <| wN_mov (v := iv (a : Int)) rfl <| wN_sub (a := (i : Int)) (b := (a : Int)) rfl rfl ⟨by omega, by omega⟩ <| wN_c_geq (a := (i : Int) - (a : Int)) (b := 2) rfl rfl <| wN_end ?_
   refine And.intro (fun q3 => ?_) (fun q3 => ?_)
   ·have q3 : ((i : Int) - (a : Int)) ≥ 2 := of_decide_eq_true q3
    have hin := hs.swap1 (by omega)
    have hp := hp.trans (PRm.swap (g := gx1) (i := i) (j := i - 1) (by omega) (by omega) (by omega) (by omega))
    refine wN_seq <| wN_mov (v := iv (i : Int)) rfl <| wN_sub (a := (i : Int)) (b := 1) rfl rfl ⟨by omega, by omega⟩ <| wN_mov (v := iv ((i : Int) - 1)) rfl <| wN_end ?_
    refine loop_low (fn := Try.f72) E72_3 N72 L72x3 (fun jL2 : Nat => [(0, .slice (some ⟨bd, 0, none⟩) n cap), (1, iv (a : Int)), (2, iv (b : Int)), (7, iv (i : Int)), (8, iv (j : Int)), (9, iv (jL2 : Int))])
     (fun k jL2 H' => k = jL2 + 1 ∧ ∃ g' : Nat → Int, PRm a b g0 g' ∧ Insr a (i - 1) jL2 g' ∧ Keep H0 H' [bd] ∧ Cl H' bd (cF n g')) _ (i - 1) ⟨rfl, (swp gx1 i (i - 1)), hp, hin, hk, hc⟩ ⟨rfl, rfl, rfl, rfl, rfl, ivq (by omega), trivial⟩ ?_
    rintro k jL2 L2 ⟨rfl, gL2, hp, hin, hk, hc⟩
    have qaj := hin.aj; have qji := hin.ji
    refine wN_seq <| wN_mov (v := iv (jL2 : Int)) rfl <| wN_c_geq (a := (jL2 : Int)) (b := 1) rfl rfl <| wN_end ?_
    refine And.intro (fun q4 => ?_) (fun q4 => ?_)
    ·have q4 : (jL2 : Int) ≥ 1 := of_decide_eq_true q4
     have hlo2 : Low (fun x : Int => x) a b gL2 := hlow.perm hp
     have hlo3 : jL2 = a → ¬ gL2 jL2 < gL2 (jL2 - 1) := fun e => by have := hlo2 jL2 (by omega) (by omega) (by omega); rw [← e] at this; have : gL2 (jL2 - 1) ≤ gL2 jL2 := this; omega
     first | refine wN_skip ?_ | skip
     refine wD_seq <| wD_mov (v := .slice (some ⟨bd, 0, none⟩) n cap) rfl <| wD_mov (v := iv (jL2 : Int)) rfl <| wD_idx (b := bd) (o := 0) (k := jL2) (j := (jL2 : Int)) rfl rfl (by omega) (by omega) <| wD_ld (b := bd) (o := 0 + jL2 * 1) (v := iv (gL2 jL2)) rfl hc.rd (cF_at (by omega)) <| wD_mov (v := .slice (some ⟨bd, 0, none⟩) n cap) rfl <| wD_mov (v := iv (jL2 : Int)) rfl <| wD_sub (a := (jL2 : Int)) (b := 1) rfl rfl ⟨by omega, by omega⟩ <| wD_idx (b := bd) (o := 0) (k := jL2 - 1) (j := (jL2 : Int) - 1) rfl rfl (by omega) (by omega) <| wD_ld (b := bd) (o := 0 + (jL2 - 1) * 1) (v := iv (gL2 (jL2 - 1))) rfl hc.rd (cF_at (by omega)) ?_
     obtain ⟨H3, fH3, kH3⟩ := less_ok (kn := kn) (lo := lo) (H := L2) (gL2 jL2) (gL2 (jL2 - 1))
     refine wD_callf (vs := [iv (gL2 jL2), iv (gL2 (jL2 - 1))]) rfl (callX_args fH3) ?_
     have mH3 := kH3.1
     have hc := kH3.cl hc (by simp)
     have hk := hk.trans (kH3.mono (by simp))
     refine wD_pur (v := .bool (!(decide (gL2 jL2 < gL2 (jL2 - 1))))) rfl rfl ?_
     refine wD_end (by repeat' first | exact True.intro | exact (fun h => h) | refine And.intro ?_ ?_ | (intro h; have h : (_ : Nat) = _ := h; omega)) ?_
     refine And.intro (fun q5 => ?_) (fun q5 => ?_)
     ·have q5 : ¬ (gL2 jL2 < gL2 (jL2 - 1)) := by simpa using q5
      have hs : Sor (fun x : Int => x) a i gL2 := by have q := hin.done (fun h => by omega); rw [show i - 1 + 1 = i by omega] at q; exact q
      first | (refine wN_exit ?_; show wC _ _ _ _ _ _ _ _ _) | skip
      exact pin_Q hlb hn hb hi1 hi2 hp hk hc hs (by omega) ⟨rfl, rfl, rfl, rfl, rfl, trivial⟩ hN
     ·have q5 : ¬ (¬ (gL2 jL2 < gL2 (jL2 - 1))) := by simpa using q5
      first | refine wN_skip ?_ | skip
      first | refine wD_dreg ?_ | refine wB_dreg ?_ | refine wB_seq ?_ | (refine wOps_nil ?_; refine wD_dreg ?_)
      refine wD_mov (v := .slice (some ⟨bd, 0, none⟩) n cap) rfl <| wD_mov (v := iv (jL2 : Int)) rfl <| wD_mov (v := .slice (some ⟨bd, 0, none⟩) n cap) rfl <| wD_mov (v := iv (jL2 : Int)) rfl <| wD_sub (a := (jL2 : Int)) (b := 1) rfl rfl ⟨by omega, by omega⟩ <| wD_mov (v := .slice (some ⟨bd, 0, none⟩) n cap) rfl <| wD_mov (v := iv (jL2 : Int)) rfl <| wD_sub (a := (jL2 : Int)) (b := 1) rfl rfl ⟨by omega, by omega⟩ <| wD_idx (b := bd) (o := 0) (k := jL2 - 1) (j := (jL2 : Int) - 1) rfl rfl (by omega) (by omega) <| wD_ld (b := bd) (o := 0 + (jL2 - 1) * 1) (v := iv (gL2 (jL2 - 1))) rfl hc.rd (cF_at (by omega)) <| wD_mov (v := .slice (some ⟨bd, 0, none⟩) n cap) rfl <| wD_mov (v := iv (jL2 : Int)) rfl ?_
      refine wD_idx (b := bd) (o := 0) (k := jL2) (j := (jL2 : Int)) rfl rfl (by omega) (by omega) <| wD_ld (b := bd) (o := 0 + jL2 * 1) (v := iv (gL2 jL2)) rfl hc.rd (cF_at (by omega)) <| wD_idx (b := bd) (o := 0) (k := jL2) (j := (jL2 : Int)) rfl rfl (by omega) (by omega) <| wD_st (b := bd) (o := 0 + jL2 * 1) rfl rfl hc hlb rfl rfl (by rw [cF_len]; omega) ?_
      intro H4 kH4 nH4 sH4
      have mH4 := kH4.1
      have hk := hk.trans kH4
      rw [cF_set (by omega)] at sH4
      have hc := sH4
      refine wD_idx (b := bd) (o := 0) (k := jL2 - 1) (j := (jL2 : Int) - 1) rfl rfl (by omega) (by omega) <| wD_st (b := bd) (o := 0 + (jL2 - 1) * 1) rfl rfl hc hlb rfl rfl (by rw [cF_len]; omega) ?_
      intro H5 kH5 nH5 sH5
      have mH5 := kH5.1
      have hk := hk.trans kH5
      rw [cF_set (by omega)] at sH5
      have hc := sH5
      have hc : Cl H5 bd (cF n (swp gL2 jL2 (jL2 - 1))) := hc
      refine wD_end (by repeat' first | exact True.intro | exact (fun h => h) | refine And.intro ?_ ?_ | (intro h; have h : (_ : Nat) = _ := h; omega)) ?_
      first | refine wN_reg ?_ | refine wN_blk ?_ | refine wN_bseq ?_ | (refine wOps_nil ?_; refine wN_reg ?_)
      refine wN_mov (v := iv (jL2 : Int)) rfl <| wN_sub (a := (jL2 : Int)) (b := 1) rfl rfl ⟨by omega, by omega⟩ <| wN_mov (v := iv ((jL2 : Int) - 1)) rfl <| wN_end ?_
      exact ⟨_, jL2 - 1, by omega, ⟨rfl, _, hp.trans (PRm.swap (by omega) (by omega) (by omega) (by omega)), hin.step (by omega) (by omega), hk, hc⟩, rfl, rfl, rfl, rfl, rfl, ivq (by omega), trivial⟩
    ·have q4 : ¬ ((jL2 : Int) ≥ 1) := of_decide_eq_false q4
     have hs : Sor (fun x : Int => x) a i gL2 := by have q := hin.done (fun h => by omega); rw [show i - 1 + 1 = i by omega] at q; exact q
     first | (refine wN_exit ?_; show wC _ _ _ _ _ _ _ _ _) | skip
     exact pin_Q hlb hn hb hi1 hi2 hp hk hc hs (by omega) ⟨rfl, rfl, rfl, rfl, rfl, trivial⟩ hN
   ·have q3 : ¬ (((i : Int) - (a : Int)) ≥ 2) := of_decide_eq_false q3
    have hin := hs.swap1 (by omega)
    have hp := hp.trans (PRm.swap (g := gx1) (i := i) (j := i - 1) (by omega) (by omega) (by omega) (by omega))
    have hs : Sor (fun x : Int => x) a i (swp gx1 i (i - 1)) := by rw [show i = a + 1 by omega]; exact Sor.one
    first | refine wN_skip ?_ | skip
    exact pin_Q hlb hn hb hi1 hi2 hp hk hc hs (by omega) ⟨rfl, rfl, rfl, rfl, rfl, trivial⟩ hN
set_option maxRecDepth 100000 in
set_option maxHeartbeats 4000000 in
theorem partial_ok (hlo : lo ≤ H.next) {bd cap n : Nat} {g : Nat → Int} (hlb : lo ≤ bd) (hn : n ≤ 1000000) (hc : Cl H bd (cF n g)) {a b : Nat} (hab : a < b) (hb : b ≤ n) (hlow : Low (fun x : Int => x) a b g) : ∃ H' t g', FnX Try.prog kn lo 72 [.slice (some ⟨bd, 0, none⟩) n cap, iv (a : Int), iv (b : Int)] H (.bool t) H' ∧ PRm a b g g' ∧ (t = true → Sor (fun x : Int => x) a b g') ∧ Keep H H' [bd] ∧ Cl H' bd (cF n g') := by
 have key := fnX_low (kn := kn) (lo := lo) (H := H) (args := [.slice (some ⟨bd, 0, none⟩) n cap, iv (a : Int), iv (b : Int)]) (Q := fun w H' => ∃ t, w = .bool t ∧ ∃ g' : Nat → Int, PRm a b g g' ∧ (t = true → Sor (fun x : Int => x) a b g') ∧ Keep H H' [bd] ∧ Cl H' bd (cF n g')) Try.func72 B72 N72 Z72 L72 (by simp) ?_
 ·obtain ⟨w, H', h, t, rfl, g', r⟩ := key; exact ⟨H', t, g', h, r⟩
 have hk := Keep.refl H [bd]
 refine wN_seq <| wN_mov (v := .bool false) rfl <| wN_end <| wN_seq <| wN_mov (v := iv (a : Int)) rfl <| wN_add (a := (a : Int)) (b := 1) rfl rfl ⟨by omega, by omega⟩ <| wN_mov (v := iv ((a : Int) + 1)) rfl <| wN_end <| wN_seq <| wN_mov (v := iv 0) rfl <| wN_end ?_
 refine loop_lv E72_1 V72x1 (fun x : Nat × Nat => [(0, .slice (some ⟨bd, 0, none⟩) n cap), (1, iv (a : Int)), (2, iv (b : Int)), (7, iv (x.1 : Int)), (8, iv (x.2 : Int))])
  (fun k x H' => k = 5 - x.2 ∧ a + 1 ≤ x.1 ∧ x.1 ≤ b ∧ x.2 ≤ 5 ∧ ∃ g' : Nat → Int, PRm a b g g' ∧ Sor (fun x : Int => x) a x.1 g' ∧ Keep H H' [bd] ∧ Cl H' bd (cF n g')) _ (a + 1, 0) ⟨rfl, Nat.le_refl _, by simp only []; omega, by simp only []; omega, g, PRm.refl _ _ _, Sor.one, hk, hc⟩ ⟨rfl, rfl, rfl, ivq (by simp only []; omega), rfl, trivial⟩ ?_
 clear hk hc
 rintro k ⟨i, j⟩ L1 ⟨rfl, hi1, hi2, hj, gx1, hp, hs, hk, hc⟩
 simp only [] at hi1 hi2 hj hs
 refine wN_seq <| wN_mov (v := iv (j : Int)) rfl <| wN_c_lss (a := (j : Int)) (b := 5) rfl rfl <| wN_end ?_
 refine And.intro (fun q1 => ?_) (fun q1 => ?_)
 ·have q1 : (j : Int) < 5 := of_decide_eq_true q1
  first | refine wN_skip ?_ | skip
  refine loop_low (fn := Try.f72) E72_2 N72 L72x2 (fun iL3 : Nat => [(0, .slice (some ⟨bd, 0, none⟩) n cap), (1, iv (a : Int)), (2, iv (b : Int)), (8, iv (j : Int)), (7, iv (iL3 : Int))])
   (fun k iL3 H' => k = b - iL3 ∧ a + 1 ≤ iL3 ∧ iL3 ≤ b ∧ Sor (fun x : Int => x) a iL3 gx1 ∧ Keep H H' [bd] ∧ Cl H' bd (cF n gx1)) _ i ⟨rfl, hi1, hi2, hs, hk, hc⟩ ⟨rfl, rfl, rfl, rfl, rfl, trivial⟩ ?_
  rintro k iL3 L3 ⟨rfl, hi1, hi2, hs, hk, hc⟩
  refine wD_seq <| wD_mov (v := iv (iL3 : Int)) rfl <| wD_mov (v := iv (b : Int)) rfl <| wD_b_lss (a := (iL3 : Int)) (b := (b : Int)) rfl rfl ?_
  intro t2 g2; cases t2
  ·have g2 : ¬ ((iL3 : Int) < (b : Int)) := of_decide_eq_false g2
   refine wD_mov (v := .bool false) rfl <| wD_gs rfl <| wD_gs rfl <| wD_gs rfl <| wD_gs rfl <| wD_gs rfl <| wD_gs rfl <| wD_gs rfl <| wD_gs rfl <| wD_gs rfl <| wD_gs rfl <| wD_gs rfl ?_
   refine wD_pur (v := .bool false) rfl rfl ?_
   refine wD_end (by repeat' first | exact True.intro | exact (fun h => h) | refine And.intro ?_ ?_ | (intro h; have h : (_ : Nat) = _ := h; omega)) ?_
   refine condF ?_
   first | (refine wN_exit ?_; show wC _ _ _ _ _ _ _ _ _) | skip
   refine pin_P hlb hn hb (i := iL3) (j := j) (g0 := g) (H0 := H) hi1 hi2 hp hk hc hs hlow ⟨rfl, rfl, rfl, rfl, rfl, trivial⟩ ?_ (fun H' S' t g' h1 h2 h3 h4 h5 => And.intro trivial (Exists.intro _ (And.intro (res_t1 h5) ⟨t, rfl, g', h1, h2, h3, h4⟩)))
   intro H' S' g' h1 h2 h3 h4 h5
   refine tri_piece L72J h5 ?_
   refine wN_reg <| wN_mov (v := iv (j : Int)) rfl <| wN_add (a := (j : Int)) (b := 1) rfl rfl ⟨by omega, by omega⟩ <| wN_mov (v := iv ((j : Int) + 1)) rfl <| wN_end ?_
   exact ⟨_, (iL3, j + 1), by simp only []; omega, ⟨rfl, by omega, by omega, by omega, g', h1, h2, h3, h4⟩, rfl, rfl, rfl, ivq (by omega), ivq (by omega), trivial⟩
  ·have g2 : (iL3 : Int) < (b : Int) := of_decide_eq_true g2
   refine wD_mov (v := .bool true) rfl ?_
   refine wD_g rfl (wD_mov (v := .slice (some ⟨bd, 0, none⟩) n cap) rfl ?_)
   refine wD_g rfl (wD_mov (v := iv (iL3 : Int)) rfl ?_)
   refine wD_g rfl (wD_idx (b := bd) (o := 0) (k := iL3) (j := (iL3 : Int)) rfl rfl (by omega) (by omega) ?_)
   refine wD_g rfl (wD_ld (b := bd) (o := 0 + iL3 * 1) (v := iv (gx1 iL3)) rfl hc.rd (cF_at (by omega)) ?_)
   refine wD_g rfl (wD_mov (v := .slice (some ⟨bd, 0, none⟩) n cap) rfl ?_)
   refine wD_g rfl (wD_mov (v := iv (iL3 : Int)) rfl ?_)
   refine wD_g rfl (wD_sub (a := (iL3 : Int)) (b := 1) rfl rfl ⟨by omega, by omega⟩ ?_)
   refine wD_g rfl (wD_idx (b := bd) (o := 0) (k := iL3 - 1) (j := (iL3 : Int) - 1) rfl rfl (by omega) (by omega) ?_)
   refine wD_g rfl (wD_ld (b := bd) (o := 0 + (iL3 - 1) * 1) (v := iv (gx1 (iL3 - 1))) rfl hc.rd (cF_at (by omega)) ?_)
   obtain ⟨H1, fH1, kH1⟩ := less_ok (kn := kn) (lo := lo) (H := L3) (gx1 iL3) (gx1 (iL3 - 1))
   refine wD_g rfl (wD_callf (vs := [iv (gx1 iL3), iv (gx1 (iL3 - 1))]) rfl (callX_args fH1) ?_)
   have mH1 := kH1.1
   have hc := kH1.cl hc (by simp)
   have hk := hk.trans (kH1.mono (by simp))
   refine wD_g rfl (wD_pur (v := .bool (!(decide (gx1 iL3 < gx1 (iL3 - 1))))) rfl rfl ?_)
   refine wD_pur (v := .bool (!(decide (gx1 iL3 < gx1 (iL3 - 1))))) rfl rfl ?_
   refine wD_end (by repeat' first | exact True.intro | exact (fun h => h) | refine And.intro ?_ ?_ | (intro h; have h : (_ : Nat) = _ := h; omega)) ?_
   refine And.intro (fun q3 => ?_) (fun q3 => ?_)
   ·have q3 : ¬ (gx1 iL3 < gx1 (iL3 - 1)) := by simpa using q3
    first | refine wN_skip ?_ | skip
    first | refine wN_reg ?_ | refine wN_blk ?_ | refine wN_bseq ?_ | (refine wOps_nil ?_; refine wN_reg ?_)
    refine wN_mov (v := iv (iL3 : Int)) rfl <| wN_add (a := (iL3 : Int)) (b := 1) rfl rfl ⟨by omega, by omega⟩ <| wN_mov (v := iv ((iL3 : Int) + 1)) rfl <| wN_end ?_
    exact ⟨_, iL3 + 1, by omega, ⟨rfl, by omega, by omega, hs.next (by omega) (by omega), hk, hc⟩, rfl, rfl, rfl, rfl, ivq (by omega), trivial⟩
   ·have q3 : ¬ (¬ (gx1 iL3 < gx1 (iL3 - 1))) := by simpa using q3
    first | (refine wN_exit ?_; show wC _ _ _ _ _ _ _ _ _) | skip
    refine pin_P hlb hn hb (i := iL3) (j := j) (g0 := g) (H0 := H) hi1 hi2 hp hk hc hs hlow ⟨rfl, rfl, rfl, rfl, rfl, trivial⟩ ?_ (fun H' S' t g' h1 h2 h3 h4 h5 => And.intro trivial (Exists.intro _ (And.intro (res_t1 h5) ⟨t, rfl, g', h1, h2, h3, h4⟩)))
    intro H' S' g' h1 h2 h3 h4 h5
    refine tri_piece L72J h5 ?_
    refine wN_reg <| wN_mov (v := iv (j : Int)) rfl <| wN_add (a := (j : Int)) (b := 1) rfl rfl ⟨by omega, by omega⟩ <| wN_mov (v := iv ((j : Int) + 1)) rfl <| wN_end ?_
    exact ⟨_, (iL3, j + 1), by simp only []; omega, ⟨rfl, by omega, by omega, by omega, g', h1, h2, h3, h4⟩, rfl, rfl, rfl, ivq (by omega), ivq (by omega), trivial⟩
 ·have q1 : ¬ ((j : Int) < 5) := of_decide_eq_false q1
  first | (refine wN_exit ?_; show wC _ _ _ _ _ _ _ _ _) | skip
  exact And.intro trivial (Exists.intro _ (And.intro rfl ⟨false, rfl, gx1, hp, fun h => (by cases h), hk, hc⟩))
end
end
end Go.Ax

/-
 Pool: sorting: pdqsort (written by program).
-/
namespace Go.Ax
open Go Go.RowKit Go.Proofs

noncomputable section
noncomputable def R65x1v : RC := (.block 1 (.seq (.reg [oM 19 2, oM 20 1, oS 21 .sub 19 20, oM 10 21])
 (.seq (.seq (.reg [oM 22 10, oQ 23 .leq 22 12])
 (.cond (.tmp 23) (.seq (.reg [oM 24 0, oM 25 1, oM 26 2, oC 27 67 #[(.tmp 24), (.tmp 25), (.tmp 26)] #[90, 3, 3]])
 .ret)
 .skip))
 (.seq (.seq (.reg [oM 28 3, oQ 29 .eql 28 0])
 (.cond (.tmp 29) (.seq (.reg [oM 30 0, oM 31 1, oM 32 2, oC 33 68 #[(.tmp 30), (.tmp 31), (.tmp 32)] #[90, 3, 3]])
 .ret)
 .skip))
 (.seq (.seq (.reg [oM 34 8, oU 35 34])
 (.cond (.tmp 35) (.seq (.reg [oM 36 0, oM 37 1, oM 38 2, oC 39 69 #[(.tmp 36), (.tmp 37), (.tmp 38)] #[90, 3, 3]])
 (.reg [oM 40 3, oR 41 .sub 40 1, oM 3 41]))
 .skip))
 (.seq (.reg [oM 43 0, oM 44 1, oM 45 2, oC 46 70 #[(.tmp 43), (.tmp 44), (.tmp 45)] #[90, 3, 3], oM 42 46, oE 47 42 0 3, oE 48 42 1 107, oM 11 47, oM 12 48])
 (.seq (.seq (.reg [oM 49 12, oQ 50 .eql 49 2])
 (.cond (.tmp 50) (.seq (.reg [oM 51 0, oM 52 1, oM 53 2, oC 54 71 #[(.tmp 51), (.tmp 52), (.tmp 53)] #[90, 3, 3]])
 (.seq (.reg [oM 55 2, oR 56 .sub 55 1, oM 57 11, oM 58 1, oS 59 .sub 57 58, oS 60 .sub 56 59, oM 11 60])
 (.reg [oN 12 1])))
 .skip))
 (.other (at_ Try.f65 [1, 1, 0, 0, 0, 1, 1, 1, 1, 1, 1])))))))))
theorem V65x1 : LV Try.prog 134 (at_ Try.f65 [1, 1, 0, 0]) R65x1v := by
 have e : at_ Try.f65 [1, 1, 0, 0] = (.block 1 (.seq (at_ Try.f65 [1, 1, 0, 0, 0, 0]) (.seq (at_ Try.f65 [1, 1, 0, 0, 0, 1, 0]) (.seq (at_ Try.f65 [1, 1, 0, 0, 0, 1, 1, 0]) (.seq (at_ Try.f65 [1, 1, 0, 0, 0, 1, 1, 1, 0]) (.seq (at_ Try.f65 [1, 1, 0, 0, 0, 1, 1, 1, 1, 0]) (.seq (at_ Try.f65 [1, 1, 0, 0, 0, 1, 1, 1, 1, 1, 0]) (at_ Try.f65 [1, 1, 0, 0, 0, 1, 1, 1, 1, 1, 1])))))))) := by kernel_rfl
 rw [e]
 exact (.block 1 (.seq (.low (by kernel_rfl)) (.seq (.low (by kernel_rfl)) (.seq (.low (by kernel_rfl)) (.seq (.low (by kernel_rfl)) (.seq (.low (by kernel_rfl)) (.seq (.low (by kernel_rfl)) (.other _))))))))
noncomputable def R65t73 : RC := (.seq (.seq (.dreg [oM 73 1, oB 74 .gtr 73 0, oM 75 74, oG 76 75 true 0, oG 77 75 true 1, ⟨some 78, (some (75, true)), (.ari .sub (.tmp 77) (.const (.int .i64 1)))⟩, oIg 79 75 true 76 78 1, oLg 80 75 true 79 1, oG 81 75 true 0, oG 82 75 true 11, oIg 83 75 true 81 82 1, oLg 84 75 true 83 1, oH 85 75 true 73 #[(.tmp 80), (.tmp 84)] #[3, 3], oV 86 75 true 85, oA 87 75 86] [16383, 8191, 4095, 1799, 775, 7, 7, 127, 63, 23, 7, 7, 3, 1, 0])
 (.cond (.tmp 87) (.seq (.reg [oM 88 0, oM 89 1, oM 90 2, oM 91 11, oC 92 74 #[(.tmp 88), (.tmp 89), (.tmp 90), (.tmp 91)] #[90, 3, 3, 3], oM 13 92])
 (.seq (.reg [oM 93 13, oM 1 93])
 (.exit 1)))
 .skip))
 (.seq (.reg [oM 95 0, oM 96 1, oM 97 2, oM 98 11, oC 99 75 #[(.tmp 95), (.tmp 96), (.tmp 97), (.tmp 98)] #[90, 3, 3, 3], oM 94 99, oE 100 94 0 3, oE 101 94 1 4, oM 14 100, oM 15 101])
 (.seq (.reg [oM 102 15, oM 9 102])
 (.seq (.reg [oM 103 14, oM 104 1, oS 105 .sub 103 104, oM 106 2, oM 107 14, oS 108 .sub 106 107, oM 16 105, oM 17 108])
 (.seq (.reg [oM 109 10, oR 110 .quo 109 8, oM 18 110])
 (.seq (.reg [oM 111 16, oM 112 17, ⟨some 113, none, (.cmp .lss (.tmp 111) (.tmp 112))⟩])
 (.cond (.tmp 113) (.seq (.reg [oM 114 16, oM 115 18, ⟨some 116, none, (.cmp .geq (.tmp 114) (.tmp 115))⟩, oM 8 116])
 (.seq (.reg [oM 117 0, oM 118 1, oM 119 14, oM 120 3, oC 121 65 #[(.tmp 117), (.tmp 118), (.tmp 119), (.tmp 120)] #[90, 3, 3, 3]])
 (.reg [oM 122 14, oR 123 .add 122 1, oM 1 123])))
 (.seq (.reg [oM 124 17, oM 125 18, ⟨some 126, none, (.cmp .geq (.tmp 124) (.tmp 125))⟩, oM 8 126])
 (.seq (.reg [oM 127 0, oM 128 14, oR 129 .add 128 1, oM 130 2, oM 131 3, oC 132 65 #[(.tmp 127), (.tmp 129), (.tmp 130), (.tmp 131)] #[90, 3, 3, 3]])
 (.reg [oM 133 14, oM 2 133]))))))))))
theorem L65t73 : low Try.prog 134 (at_ Try.f65 [1, 1, 0, 0, 0, 1, 1, 1, 1, 1, 1, 1]) = some R65t73 := by kernel_rfl
noncomputable def R65t61v : RC := (.seq (.seq (.reg [oM 61 8, oM 62 61, oG 63 62 true 9, oA 64 62 63, oM 65 64, oG 66 65 true 12, oBg 67 65 true .eql 66 1, oA 68 65 67])
 (.cond (.tmp 68) (.seq (.reg [oM 69 0, oM 70 1, oM 71 2, oC 72 72 #[(.tmp 69), (.tmp 70), (.tmp 71)] #[90, 3, 3]])
 (.cond (.tmp 72) .ret
 .skip))
 .skip))
 (.other (at_ Try.f65 [1, 1, 0, 0, 0, 1, 1, 1, 1, 1, 1, 1])))
theorem V65t61 : LV Try.prog 134 (at_ Try.f65 [1, 1, 0, 0, 0, 1, 1, 1, 1, 1, 1]) R65t61v := by
 have e : at_ Try.f65 [1, 1, 0, 0, 0, 1, 1, 1, 1, 1, 1] = (.seq (at_ Try.f65 [1, 1, 0, 0, 0, 1, 1, 1, 1, 1, 1, 0]) (at_ Try.f65 [1, 1, 0, 0, 0, 1, 1, 1, 1, 1, 1, 1])) := by kernel_rfl
 rw [e]
 exact (.seq (.low (by kernel_rfl)) (.other _))
structure PdI (A B a b : Nat) (g0 g : Nat → Int) : Prop where
 hA : A ≤ a
 hab : a ≤ b
 hB : b ≤ B
 pr : PRm A B g0 g
 od : Ord (fun x : Int => x) A B a b g
theorem PdI.init {A B : Nat} {g : Nat → Int} (h : A ≤ B) : PdI A B A B g g := ⟨Nat.le_refl _, h, Nat.le_refl _, PRm.refl _ _ _, fun i j h1 h2 h3 h4 => by omega⟩
theorem PdI.perm {A B a b : Nat} {g0 g g' : Nat → Int} (h : PdI A B a b g0 g) (p : PRm a b g g') : PdI A B a b g0 g' := ⟨h.hA, h.hab, h.hB, h.pr.trans (p.mono h.hA h.hab h.hB), h.od.perm p h.hA h.hB⟩
theorem PdI.low {A B a b : Nat} {g0 g : Nat → Int} (h : PdI A B a b g0 g) (h0 : Low (fun x : Int => x) A B g0) : Low (fun x : Int => x) a b g := h.od.low (h0.perm h.pr) h.hA h.hB
theorem PdI.done {A B a b : Nat} {g0 g : Nat → Int} (h : PdI A B a b g0 g) (hs : Sor (fun x : Int => x) a b g) : PRm A B g0 g ∧ Sor (fun x : Int => x) A B g := ⟨h.pr, h.od.all hs⟩
theorem PdI.left {A B a b m : Nat} {g0 g g' : Nat → Int} (h : PdI A B a b g0 g) (pa : Par_ (fun x : Int => x) a b m g) (ha : a ≤ m) (hb : m < b) (p : PRm a m g g') (hs : Sor (fun x : Int => x) a m g') : PdI A B (m + 1) b g0 g' := by
 have h1 := h.perm (p.mono (Nat.le_refl _) ha (by omega))
 exact ⟨by have := h.hA; omega, by omega, h.hB, h1.pr, h1.od.right (pa.perm_l p ha hb) h.hA h.hB ha hb hs⟩
theorem PdI.right {A B a b m : Nat} {g0 g g' : Nat → Int} (h : PdI A B a b g0 g) (pa : Par_ (fun x : Int => x) a b m g) (ha : a ≤ m) (hb : m < b) (p : PRm (m + 1) b g g') (hs : Sor (fun x : Int => x) (m + 1) b g') : PdI A B a m g0 g' := by
 have h1 := h.perm (p.mono (by omega) (by omega) (Nat.le_refl _))
 exact ⟨h.hA, ha, by have := h.hB; omega, h1.pr, h1.od.left (pa.perm_r p ha hb) h.hA h.hB ha hb hs⟩
theorem PdI.eq {A B a b m p : Nat} {g0 g g' : Nat → Int} (h : PdI A B a b g0 g) (h0 : Low (fun x : Int => x) A B g0) (ha : a < m) (hb : m ≤ b) (hp : PRm a b g g') (h1 : 0 < a) (h2 : ¬ g (a - 1) < g p) (h3 : ∀ x, a ≤ x → x < m → g' x ≤ g p) : PdI A B m b g0 g' := by
 have q := h.perm hp
 refine ⟨by have := h.hA; omega, hb, h.hB, q.pr, q.od.equal h.hA h.hB hb fun i i1 i2 j j1 j2 => ?_⟩
 have l : g' (a - 1) ≤ g' j := q.low h0 j h1 j1 j2
 rw [hp.out (a - 1) (.inl (by omega))] at l
 have := h3 i i1 i2
 show g' i ≤ g' j
 omega
section
variable {kn : Kn} {lo : Nat} {H : Hp}
set_option maxRecDepth 100000 in
set_option maxHeartbeats 2000000 in
theorem t73_ok {bd cap n M A B a b p l : Nat} {g0 g : Nat → Int} {wb wp : Bool} {H0 : Hp} (hlb : lo ≤ bd) (hn2 : n < 65536) (ih : ∀ (H : Hp) (A B : Nat) (g : Nat → Int) (l : Nat), lo ≤ H.next → A ≤ B → B ≤ n → B - A < M → l ≤ 64 → Cl H bd (cF n g) → Low (fun x : Int => x) A B g → ∃ H' g', FnX Try.prog kn lo 65 [.slice (some ⟨bd, 0, none⟩) n cap, iv (A : Int), iv (B : Int), iv (l : Int)] H (.tuple #[]) H' ∧ PRm A B g g' ∧ Sor (fun x : Int => x) A B g' ∧ Keep H H' [bd] ∧ Cl H' bd (cF n g')) (hM : b - a ≤ M) (hBn : B ≤ n) (hl : l ≤ 64) (h0 : Low (fun x : Int => x) A B g0) (hI : PdI A B a b g0 g) (h12 : 12 < b - a) (hap : a ≤ p) (hpb : p < b) (hlo : lo ≤ H.next) (hk : Keep H0 H [bd]) (hc : Cl H bd (cF n g)) {S : Rg} (hS : Subs [(0, .slice (some ⟨bd, 0, none⟩) n cap), (1, iv (a : Int)), (2, iv (b : Int)), (3, iv (l : Int)), (8, .bool wb), (9, .bool wp), (10, iv ((b : Int) - (a : Int))), (11, iv (p : Int))] S) {K : Exit → Rg → Hp → Prop} (hK : ∀ e H' S' (a' b' l' : Nat) (wb' wp' : Bool) (g' : Nat → Int), (e = .normal ∨ e = .exit 1) → b' - a' < b - a → l' ≤ 64 → PdI A B a' b' g0 g' → Keep H0 H' [bd] → Cl H' bd (cF n g') → Subs [(0, .slice (some ⟨bd, 0, none⟩) n cap), (1, iv (a' : Int)), (2, iv (b' : Int)), (3, iv (l' : Int)), (8, .bool wb'), (9, .bool wp')] S' → K e S' H') : Tri Try.prog kn lo 134 false (at_ Try.f65 [1, 1, 0, 0, 0, 1, 1, 1, 1, 1, 1, 1]) S H K := by
 have hA := hI.hA; have hab := hI.hab; have hB := hI.hB; have hn : n ≤ 1000000 := by omega
 refine tri_piece L65t73 hS ?_
 refine wD_seq <| wD_mov (v := iv (a : Int)) rfl <| wD_b_gtr (a := (a : Int)) (b := 0) rfl rfl ?_
 intro t1 g1; cases t1
 ·have g1 : ¬ ((a : Int) > 0) := of_decide_eq_false g1
  refine wD_mov (v := .bool false) rfl <| wD_gs rfl <| wD_gs rfl <| wD_gs rfl <| wD_gs rfl <| wD_gs rfl <| wD_gs rfl <| wD_gs rfl <| wD_gs rfl <| wD_gs rfl <| wD_gs rfl <| wD_gs rfl ?_
  refine wD_pur (v := .bool false) rfl rfl ?_
  refine wD_end (by repeat' first | exact True.intro | exact (fun h => h) | refine And.intro ?_ ?_ | (intro h; have h : (_ : Nat) = _ := h; omega)) ?_
  refine condF ?_
  first | refine wN_skip ?_ | skip
  refine wN_seq <| wN_mov (v := .slice (some ⟨bd, 0, none⟩) n cap) rfl <| wN_mov (v := iv (a : Int)) rfl <| wN_mov (v := iv (b : Int)) rfl <| wN_mov (v := iv (p : Int)) rfl ?_
  obtain ⟨H1, m, tH1, gH1, fH1, hm1, hm2, pH1, hpa, kH1, cH1⟩ := part_ok (kn := kn) (lo := lo) (H := H) (by have := hk.1; omega) hlb hn (cap := cap) hc (a := a) (b := b) (p := p) hap hpb (by omega)
  refine wN_callf (vs := [.slice (some ⟨bd, 0, none⟩) n cap, iv (a : Int), iv (b : Int), iv (p : Int)]) rfl (callX_args fH1) ?_
  have mH1 := kH1.1
  have hk := hk.trans kH1
  have hc := cH1
  have hI := hI.perm pH1
  refine wN_mov (v := .tuple #[iv (m : Int), .bool tH1]) rfl <| wN_pur (v := iv (m : Int)) rfl (by kernel_rfl) <| wN_pur (v := .bool tH1) rfl (by kernel_rfl) <| wN_mov (v := iv (m : Int)) rfl <| wN_mov (v := .bool tH1) rfl <| wN_end <| wN_seq <| wN_mov (v := .bool tH1) rfl <| wN_mov (v := .bool tH1) rfl <| wN_end <| wN_seq <| wN_mov (v := iv (m : Int)) rfl ?_
  refine wN_mov (v := iv (a : Int)) rfl <| wN_sub (a := (m : Int)) (b := (a : Int)) rfl rfl ⟨by omega, by omega⟩ <| wN_mov (v := iv (b : Int)) rfl <| wN_mov (v := iv (m : Int)) rfl <| wN_sub (a := (b : Int)) (b := (m : Int)) rfl rfl ⟨by omega, by omega⟩ <| wN_mov (v := iv ((m : Int) - (a : Int))) rfl <| wN_mov (v := iv ((b : Int) - (m : Int))) rfl <| wN_end <| wN_seq <| wN_mov (v := iv ((b : Int) - (a : Int))) rfl <| wN_quo (a := (b : Int) - (a : Int)) (b := 8) rfl rfl (by omega) (by omega) ⟨by omega, by omega⟩ <| wN_mov (v := iv (((b : Int) - (a : Int)) / 8)) rfl ?_
  refine wN_end <| wN_seq <| wN_mov (v := iv ((m : Int) - (a : Int))) rfl <| wN_mov (v := iv ((b : Int) - (m : Int))) rfl <| wN_c_lss (a := (m : Int) - (a : Int)) (b := (b : Int) - (m : Int)) rfl rfl <| wN_end ?_
  refine And.intro (fun q2 => ?_) (fun q2 => ?_)
  ·have q2 : ((m : Int) - (a : Int)) < ((b : Int) - (m : Int)) := of_decide_eq_true q2
   refine wN_seq <| wN_mov (v := iv ((m : Int) - (a : Int))) rfl <| wN_mov (v := iv (((b : Int) - (a : Int)) / 8)) rfl <| wN_c_geq (a := (m : Int) - (a : Int)) (b := ((b : Int) - (a : Int)) / 8) rfl rfl <| wN_mov (v := .bool (decide (((m : Int) - (a : Int)) ≥ (((b : Int) - (a : Int)) / 8)))) rfl <| wN_end <| wN_seq <| wN_mov (v := .slice (some ⟨bd, 0, none⟩) n cap) rfl <| wN_mov (v := iv (a : Int)) rfl <| wN_mov (v := iv (m : Int)) rfl <| wN_mov (v := iv (l : Int)) rfl ?_
   have hlw : Low (fun x : Int => x) a m gH1 := fun i i0 i1 i2 => hI.low h0 i i0 i1 (by omega)
   obtain ⟨H2, gH2, fH2, pH2, sH2, kH2, cH2⟩ := ih H1 (a) (m) gH1 l (by have := hk.1; omega) (by omega) (by omega) (by omega) hl hc hlw
   refine wN_callf (vs := [.slice (some ⟨bd, 0, none⟩) n cap, iv (a : Int), iv (m : Int), iv (l : Int)]) rfl (callX_args fH2) ?_
   have mH2 := kH2.1
   have hk := hk.trans kH2
   have hc := cH2
   have hI := hI.left hpa hm1 hm2 pH2 sH2
   refine wN_end ?_
   first | refine wN_reg ?_ | refine wN_blk ?_ | refine wN_bseq ?_ | (refine wOps_nil ?_; refine wN_reg ?_)
   refine wN_mov (v := iv (m : Int)) rfl <| wN_add (a := (m : Int)) (b := 1) rfl rfl ⟨by omega, by omega⟩ <| wN_mov (v := iv ((m : Int) + 1)) rfl <| wN_end ?_
   exact hK .normal _ _ (m + 1) (b) l _ _ gH2 (.inl rfl) (by omega) hl hI hk hc ⟨rfl, ivq (by omega), ivq (by omega), rfl, rfl, rfl, trivial⟩
  ·have q2 : ¬ (((m : Int) - (a : Int)) < ((b : Int) - (m : Int))) := of_decide_eq_false q2
   refine wN_seq <| wN_mov (v := iv ((b : Int) - (m : Int))) rfl <| wN_mov (v := iv (((b : Int) - (a : Int)) / 8)) rfl <| wN_c_geq (a := (b : Int) - (m : Int)) (b := ((b : Int) - (a : Int)) / 8) rfl rfl <| wN_mov (v := .bool (decide (((b : Int) - (m : Int)) ≥ (((b : Int) - (a : Int)) / 8)))) rfl <| wN_end <| wN_seq <| wN_mov (v := .slice (some ⟨bd, 0, none⟩) n cap) rfl <| wN_mov (v := iv (m : Int)) rfl <| wN_add (a := (m : Int)) (b := 1) rfl rfl ⟨by omega, by omega⟩ <| wN_mov (v := iv (b : Int)) rfl <| wN_mov (v := iv (l : Int)) rfl ?_
   have hlw : Low (fun x : Int => x) (m + 1) b gH1 := fun i i0 i1 i2 => hpa.2 i (by omega) i2
   obtain ⟨H3, gH3, fH3, pH3, sH3, kH3, cH3⟩ := ih H1 (m + 1) (b) gH1 l (by have := hk.1; omega) (by omega) (by omega) (by omega) hl hc hlw
   refine wN_callf (vs := [.slice (some ⟨bd, 0, none⟩) n cap, iv ((m : Int) + 1), iv (b : Int), iv (l : Int)]) rfl (by have q := callX_args fH3; rw [show ((m + 1 : Nat) : Int) = (m : Int) + 1 by omega] at q; exact q) ?_
   have mH3 := kH3.1
   have hk := hk.trans kH3
   have hc := cH3
   have hI := hI.right hpa hm1 hm2 pH3 sH3
   refine wN_end ?_
   first | refine wN_reg ?_ | refine wN_blk ?_ | refine wN_bseq ?_ | (refine wOps_nil ?_; refine wN_reg ?_)
   refine wN_mov (v := iv (m : Int)) rfl <| wN_mov (v := iv (m : Int)) rfl <| wN_end ?_
   exact hK .normal _ _ (a) (m) l _ _ gH3 (.inl rfl) (by omega) hl hI hk hc ⟨rfl, ivq (by omega), ivq (by omega), rfl, rfl, rfl, trivial⟩
 ·have g1 : (a : Int) > 0 := of_decide_eq_true g1
  refine wD_mov (v := .bool true) rfl ?_
  refine wD_g rfl (wD_mov (v := .slice (some ⟨bd, 0, none⟩) n cap) rfl ?_)
  refine wD_g rfl (wD_mov (v := iv (a : Int)) rfl ?_)
  refine wD_g rfl (wD_sub (a := (a : Int)) (b := 1) rfl rfl ⟨by omega, by omega⟩ ?_)
  refine wD_g rfl (wD_idx (b := bd) (o := 0) (k := a - 1) (j := (a : Int) - 1) rfl rfl (by omega) (by omega) ?_)
  refine wD_g rfl (wD_ld (b := bd) (o := 0 + (a - 1) * 1) (v := iv (g (a - 1))) rfl hc.rd (cF_at (by omega)) ?_)
  refine wD_g rfl (wD_mov (v := .slice (some ⟨bd, 0, none⟩) n cap) rfl ?_)
  refine wD_g rfl (wD_mov (v := iv (p : Int)) rfl ?_)
  refine wD_g rfl (wD_idx (b := bd) (o := 0) (k := p) (j := (p : Int)) rfl rfl (by omega) (by omega) ?_)
  refine wD_g rfl (wD_ld (b := bd) (o := 0 + p * 1) (v := iv (g p)) rfl hc.rd (cF_at (by omega)) ?_)
  obtain ⟨H4, fH4, kH4⟩ := less_ok (kn := kn) (lo := lo) (H := H) (g (a - 1)) (g p)
  refine wD_g rfl (wD_callf (vs := [iv (g (a - 1)), iv (g p)]) rfl (callX_args fH4) ?_)
  have mH4 := kH4.1
  have hc := kH4.cl hc (by simp)
  have hk := hk.trans (kH4.mono (by simp))
  refine wD_g rfl (wD_pur (v := .bool (!(decide (g (a - 1) < g p)))) rfl rfl ?_)
  refine wD_pur (v := .bool (!(decide (g (a - 1) < g p)))) rfl rfl ?_
  refine wD_end (by repeat' first | exact True.intro | exact (fun h => h) | refine And.intro ?_ ?_ | (intro h; have h : (_ : Nat) = _ := h; omega)) ?_
  refine And.intro (fun q3 => ?_) (fun q3 => ?_)
  ·have q3 : ¬ (g (a - 1) < g p) := by simpa using q3
   refine wN_seq <| wN_mov (v := .slice (some ⟨bd, 0, none⟩) n cap) rfl <| wN_mov (v := iv (a : Int)) rfl <| wN_mov (v := iv (b : Int)) rfl <| wN_mov (v := iv (p : Int)) rfl ?_
   obtain ⟨H5, xH5, gH5, fH5, aH5, bH5, pH5, qH5, kH5, cH5⟩ := parteq_ok (kn := kn) (lo := lo) (H := H4) (by have := hk.1; omega) hlb hn (cap := cap) hc (a := a) (b := b) (p := p) hap hpb (by omega)
   refine wN_callf (vs := [.slice (some ⟨bd, 0, none⟩) n cap, iv (a : Int), iv (b : Int), iv (p : Int)]) rfl (callX_args fH5) ?_
   have mH5 := kH5.1
   have hk := hk.trans kH5
   have hc := cH5
   have hI := hI.eq h0 (by omega) (by omega) pH5 (by omega) (by omega) qH5
   refine wN_mov (v := iv (xH5 : Int)) rfl <| wN_end <| wN_seq <| wN_mov (v := iv (xH5 : Int)) rfl <| wN_mov (v := iv (xH5 : Int)) rfl <| wN_end ?_
   first | (refine wN_exit ?_; show wC _ _ _ _ _ _ _ _ _) | skip
   exact hK (.exit 1) _ _ (xH5) (b) l _ _ gH5 (.inr rfl) (by omega) hl hI hk hc ⟨rfl, ivq (by omega), ivq (by omega), rfl, rfl, rfl, trivial⟩
  ·have q3 : ¬ (¬ (g (a - 1) < g p)) := by simpa using q3
   first | refine wN_skip ?_ | skip
   refine wN_seq <| wN_mov (v := .slice (some ⟨bd, 0, none⟩) n cap) rfl <| wN_mov (v := iv (a : Int)) rfl <| wN_mov (v := iv (b : Int)) rfl <| wN_mov (v := iv (p : Int)) rfl ?_
   obtain ⟨H6, m, tH6, gH6, fH6, hm1, hm2, pH6, hpa, kH6, cH6⟩ := part_ok (kn := kn) (lo := lo) (H := H4) (by have := hk.1; omega) hlb hn (cap := cap) hc (a := a) (b := b) (p := p) hap hpb (by omega)
   refine wN_callf (vs := [.slice (some ⟨bd, 0, none⟩) n cap, iv (a : Int), iv (b : Int), iv (p : Int)]) rfl (callX_args fH6) ?_
   have mH6 := kH6.1
   have hk := hk.trans kH6
   have hc := cH6
   have hI := hI.perm pH6
   refine wN_mov (v := .tuple #[iv (m : Int), .bool tH6]) rfl <| wN_pur (v := iv (m : Int)) rfl (by kernel_rfl) <| wN_pur (v := .bool tH6) rfl (by kernel_rfl) <| wN_mov (v := iv (m : Int)) rfl <| wN_mov (v := .bool tH6) rfl <| wN_end <| wN_seq <| wN_mov (v := .bool tH6) rfl <| wN_mov (v := .bool tH6) rfl <| wN_end <| wN_seq <| wN_mov (v := iv (m : Int)) rfl ?_
   refine wN_mov (v := iv (a : Int)) rfl <| wN_sub (a := (m : Int)) (b := (a : Int)) rfl rfl ⟨by omega, by omega⟩ <| wN_mov (v := iv (b : Int)) rfl <| wN_mov (v := iv (m : Int)) rfl <| wN_sub (a := (b : Int)) (b := (m : Int)) rfl rfl ⟨by omega, by omega⟩ <| wN_mov (v := iv ((m : Int) - (a : Int))) rfl <| wN_mov (v := iv ((b : Int) - (m : Int))) rfl <| wN_end <| wN_seq <| wN_mov (v := iv ((b : Int) - (a : Int))) rfl <| wN_quo (a := (b : Int) - (a : Int)) (b := 8) rfl rfl (by omega) (by omega) ⟨by omega, by omega⟩ <| wN_mov (v := iv (((b : Int) - (a : Int)) / 8)) rfl ?_
   refine wN_end <| wN_seq <| wN_mov (v := iv ((m : Int) - (a : Int))) rfl <| wN_mov (v := iv ((b : Int) - (m : Int))) rfl <| wN_c_lss (a := (m : Int) - (a : Int)) (b := (b : Int) - (m : Int)) rfl rfl <| wN_end ?_
   refine And.intro (fun q4 => ?_) (fun q4 => ?_)
   ·have q4 : ((m : Int) - (a : Int)) < ((b : Int) - (m : Int)) := of_decide_eq_true q4
    refine wN_seq <| wN_mov (v := iv ((m : Int) - (a : Int))) rfl <| wN_mov (v := iv (((b : Int) - (a : Int)) / 8)) rfl <| wN_c_geq (a := (m : Int) - (a : Int)) (b := ((b : Int) - (a : Int)) / 8) rfl rfl <| wN_mov (v := .bool (decide (((m : Int) - (a : Int)) ≥ (((b : Int) - (a : Int)) / 8)))) rfl <| wN_end <| wN_seq <| wN_mov (v := .slice (some ⟨bd, 0, none⟩) n cap) rfl <| wN_mov (v := iv (a : Int)) rfl <| wN_mov (v := iv (m : Int)) rfl <| wN_mov (v := iv (l : Int)) rfl ?_
    have hlw : Low (fun x : Int => x) a m gH6 := fun i i0 i1 i2 => hI.low h0 i i0 i1 (by omega)
    obtain ⟨H7, gH7, fH7, pH7, sH7, kH7, cH7⟩ := ih H6 (a) (m) gH6 l (by have := hk.1; omega) (by omega) (by omega) (by omega) hl hc hlw
    refine wN_callf (vs := [.slice (some ⟨bd, 0, none⟩) n cap, iv (a : Int), iv (m : Int), iv (l : Int)]) rfl (callX_args fH7) ?_
    have mH7 := kH7.1
    have hk := hk.trans kH7
    have hc := cH7
    have hI := hI.left hpa hm1 hm2 pH7 sH7
    refine wN_end ?_
    first | refine wN_reg ?_ | refine wN_blk ?_ | refine wN_bseq ?_ | (refine wOps_nil ?_; refine wN_reg ?_)
    refine wN_mov (v := iv (m : Int)) rfl <| wN_add (a := (m : Int)) (b := 1) rfl rfl ⟨by omega, by omega⟩ <| wN_mov (v := iv ((m : Int) + 1)) rfl <| wN_end ?_
    exact hK .normal _ _ (m + 1) (b) l _ _ gH7 (.inl rfl) (by omega) hl hI hk hc ⟨rfl, ivq (by omega), ivq (by omega), rfl, rfl, rfl, trivial⟩
   ·have q4 : ¬ (((m : Int) - (a : Int)) < ((b : Int) - (m : Int))) := of_decide_eq_false q4
    refine wN_seq <| wN_mov (v := iv ((b : Int) - (m : Int))) rfl <| wN_mov (v := iv (((b : Int) - (a : Int)) / 8)) rfl <| wN_c_geq (a := (b : Int) - (m : Int)) (b := ((b : Int) - (a : Int)) / 8) rfl rfl <| wN_mov (v := .bool (decide (((b : Int) - (m : Int)) ≥ (((b : Int) - (a : Int)) / 8)))) rfl <| wN_end <| wN_seq <| wN_mov (v := .slice (some ⟨bd, 0, none⟩) n cap) rfl <| wN_mov (v := iv (m : Int)) rfl <| wN_add (a := (m : Int)) (b := 1) rfl rfl ⟨by omega, by omega⟩ <| wN_mov (v := iv (b : Int)) rfl <| wN_mov (v := iv (l : Int)) rfl ?_
    have hlw : Low (fun x : Int => x) (m + 1) b gH6 := fun i i0 i1 i2 => hpa.2 i (by omega) i2
    obtain ⟨H8, gH8, fH8, pH8, sH8, kH8, cH8⟩ := ih H6 (m + 1) (b) gH6 l (by have := hk.1; omega) (by omega) (by omega) (by omega) hl hc hlw
    refine wN_callf (vs := [.slice (some ⟨bd, 0, none⟩) n cap, iv ((m : Int) + 1), iv (b : Int), iv (l : Int)]) rfl (by have q := callX_args fH8; rw [show ((m + 1 : Nat) : Int) = (m : Int) + 1 by omega] at q; exact q) ?_
    have mH8 := kH8.1
    have hk := hk.trans kH8
    have hc := cH8
    have hI := hI.right hpa hm1 hm2 pH8 sH8
    refine wN_end ?_
    first | refine wN_reg ?_ | refine wN_blk ?_ | refine wN_bseq ?_ | (refine wOps_nil ?_; refine wN_reg ?_)
    refine wN_mov (v := iv (m : Int)) rfl <| wN_mov (v := iv (m : Int)) rfl <| wN_end ?_
    exact hK .normal _ _ (a) (m) l _ _ gH8 (.inl rfl) (by omega) hl hI hk hc ⟨rfl, ivq (by omega), ivq (by omega), rfl, rfl, rfl, trivial⟩
set_option maxRecDepth 100000 in
set_option maxHeartbeats 2000000 in
theorem t61_ok {bd cap n M A B a b p l : Nat} {g0 g : Nat → Int} {wb wp : Bool} {H0 : Hp} (hlb : lo ≤ bd) (hn2 : n < 65536) (ih : ∀ (H : Hp) (A B : Nat) (g : Nat → Int) (l : Nat), lo ≤ H.next → A ≤ B → B ≤ n → B - A < M → l ≤ 64 → Cl H bd (cF n g) → Low (fun x : Int => x) A B g → ∃ H' g', FnX Try.prog kn lo 65 [.slice (some ⟨bd, 0, none⟩) n cap, iv (A : Int), iv (B : Int), iv (l : Int)] H (.tuple #[]) H' ∧ PRm A B g g' ∧ Sor (fun x : Int => x) A B g' ∧ Keep H H' [bd] ∧ Cl H' bd (cF n g')) (hM : b - a ≤ M) (hBn : B ≤ n) (hl : l ≤ 64) (h0 : Low (fun x : Int => x) A B g0) (hI : PdI A B a b g0 g) (h12 : 12 < b - a) (hap : a ≤ p) (hpb : p < b) (hlo : lo ≤ H.next) (hk : Keep H0 H [bd]) (hc : Cl H bd (cF n g)) {c : Int} {S : Rg} (hS : Subs [(0, .slice (some ⟨bd, 0, none⟩) n cap), (1, iv (a : Int)), (2, iv (b : Int)), (3, iv (l : Int)), (8, .bool wb), (9, .bool wp), (10, iv ((b : Int) - (a : Int))), (11, iv (p : Int)), (12, iv c)] S) {K : Exit → Rg → Hp → Prop} (hK : ∀ e H' S' (a' b' l' : Nat) (wb' wp' : Bool) (g' : Nat → Int), (e = .normal ∨ e = .exit 1) → b' - a' < b - a → l' ≤ 64 → PdI A B a' b' g0 g' → Keep H0 H' [bd] → Cl H' bd (cF n g') → Subs [(0, .slice (some ⟨bd, 0, none⟩) n cap), (1, iv (a' : Int)), (2, iv (b' : Int)), (3, iv (l' : Int)), (8, .bool wb'), (9, .bool wp')] S' → K e S' H') (hret : ∀ H' S' (g' : Nat → Int), PRm A B g0 g' → Sor (fun x : Int => x) A B g' → Keep H0 H' [bd] → Cl H' bd (cF n g') → K .ret S' H') : Tri Try.prog kn lo 134 false (at_ Try.f65 [1, 1, 0, 0, 0, 1, 1, 1, 1, 1, 1]) S H K := by
 have hA := hI.hA; have hab := hI.hab; have hB := hI.hB; have hn : n ≤ 1000000 := by omega
 refine tri_lv V65t61 hS ?_
 refine wN_seq ?_
 cases wb
 ·refine wN_mov (v := .bool false) rfl <| wN_mov (v := .bool false) rfl <| wN_gs rfl <| wN_pur (v := .bool false) rfl rfl <| wN_mov (v := .bool false) rfl <| wN_gs rfl <| wN_gs rfl <| wN_pur (v := .bool false) rfl rfl <| wN_end <| condF ?_
  first | refine wN_skip ?_ | skip
  exact t73_ok hlb hn2 ih hM hBn hl h0 hI h12 hap hpb (by have := hk.1; omega) hk hc ⟨rfl, rfl, rfl, rfl, rfl, rfl, rfl, rfl, trivial⟩ hK
 ·refine wN_mov (v := .bool true) rfl <| wN_mov (v := .bool true) rfl ?_
  cases wp
  ·refine wN_g rfl (wN_mov (v := .bool false) rfl ?_)
   refine wN_pur (v := .bool false) rfl rfl <| wN_mov (v := .bool false) rfl <| wN_gs rfl <| wN_gs rfl <| wN_pur (v := .bool false) rfl rfl <| wN_end <| condF ?_
   first | refine wN_skip ?_ | skip
   exact t73_ok hlb hn2 ih hM hBn hl h0 hI h12 hap hpb (by have := hk.1; omega) hk hc ⟨rfl, rfl, rfl, rfl, rfl, rfl, rfl, rfl, trivial⟩ hK
  ·refine wN_g rfl (wN_mov (v := .bool true) rfl ?_)
   refine wN_pur (v := .bool true) rfl rfl <| wN_mov (v := .bool true) rfl ?_
   refine wN_g rfl (wN_mov (v := iv c) rfl ?_)
   refine wN_g rfl (wN_b_eql (a := c) (b := 1) rfl rfl ?_)
   intro t1 g1; cases t1
   ·have g1 : ¬ (c = 1) := by simpa using g1
    refine wN_pur (v := .bool false) rfl rfl <| wN_end <| condF ?_
    first | refine wN_skip ?_ | skip
    exact t73_ok hlb hn2 ih hM hBn hl h0 hI h12 hap hpb (by have := hk.1; omega) hk hc ⟨rfl, rfl, rfl, rfl, rfl, rfl, rfl, rfl, trivial⟩ hK
   ·have g1 : c = 1 := by simpa using g1
    refine wN_pur (v := .bool true) rfl rfl <| wN_end <| condT <| wN_seq <| wN_mov (v := .slice (some ⟨bd, 0, none⟩) n cap) rfl <| wN_mov (v := iv (a : Int)) rfl <| wN_mov (v := iv (b : Int)) rfl ?_
    obtain ⟨H1, tH1, gH1, fH1, pH1, sH1, kH1, cH1⟩ := partial_ok (kn := kn) (lo := lo) (H := H) (by have := hk.1; omega) hlb hn (cap := cap) hc (a := a) (b := b) (by omega) (by omega) (hI.low h0)
    refine wN_callf (vs := [.slice (some ⟨bd, 0, none⟩) n cap, iv (a : Int), iv (b : Int)]) rfl (callX_args fH1) ?_
    have mH1 := kH1.1
    have hk := hk.trans kH1
    have hc := cH1
    have hI := hI.perm pH1
    refine wN_end ?_
    refine And.intro (fun q2 => ?_) (fun q2 => ?_)
    ·exact hret _ _ _ (hI.done (sH1 (by assumption))).1 (hI.done (sH1 (by assumption))).2 hk hc
    ·first | refine wN_skip ?_ | skip
     exact t73_ok hlb hn2 ih hM hBn hl h0 hI h12 hap hpb (by have := hk.1; omega) hk hc ⟨rfl, rfl, rfl, rfl, rfl, rfl, rfl, rfl, trivial⟩ hK
set_option maxRecDepth 100000 in
set_option maxHeartbeats 2000000 in
theorem pdq_step (hlo : lo ≤ H.next) {bd cap n M A B L : Nat} {g0 : Nat → Int} (hlb : lo ≤ bd) (hn2 : n < 65536) (ih : ∀ (H : Hp) (A B : Nat) (g : Nat → Int) (l : Nat), lo ≤ H.next → A ≤ B → B ≤ n → B - A < M → l ≤ 64 → Cl H bd (cF n g) → Low (fun x : Int => x) A B g → ∃ H' g', FnX Try.prog kn lo 65 [.slice (some ⟨bd, 0, none⟩) n cap, iv (A : Int), iv (B : Int), iv (l : Int)] H (.tuple #[]) H' ∧ PRm A B g g' ∧ Sor (fun x : Int => x) A B g' ∧ Keep H H' [bd] ∧ Cl H' bd (cF n g')) (hM : B - A ≤ M) (hAB : A ≤ B) (hBn : B ≤ n) (hl : L ≤ 64) (hc : Cl H bd (cF n g0)) (h0 : Low (fun x : Int => x) A B g0) :
  ∃ H' g', FnX Try.prog kn lo 65 [.slice (some ⟨bd, 0, none⟩) n cap, iv (A : Int), iv (B : Int), iv (L : Int)] H (.tuple #[]) H' ∧ PRm A B g0 g' ∧ Sor (fun x : Int => x) A B g' ∧ Keep H H' [bd] ∧ Cl H' bd (cF n g') := by
 have key := fnX_low (kn := kn) (lo := lo) (H := H) (args := [.slice (some ⟨bd, 0, none⟩) n cap, iv (A : Int), iv (B : Int), iv (L : Int)]) (Q := fun w H' => w = .tuple #[] ∧ ∃ g' : Nat → Int, PRm A B g0 g' ∧ Sor (fun x : Int => x) A B g' ∧ Keep H H' [bd] ∧ Cl H' bd (cF n g')) Try.func65 B65 N65 Z65 L65 (by simp) ?_
 ·obtain ⟨w, H', h, rfl, g', r⟩ := key; exact ⟨H', g', h, r⟩
 have hk := Keep.refl H [bd]
 have hM0 := hM
 refine wN_seq <| wN_mov (v := .bool true) rfl <| wN_end <| wN_seq <| wN_mov (v := .bool true) rfl <| wN_end ?_
 refine loop_lv E65_1 V65x1 (fun x : Nat × Nat × Nat × Bool × Bool => [(0, .slice (some ⟨bd, 0, none⟩) n cap), (1, iv (x.1 : Int)), (2, iv (x.2.1 : Int)), (3, iv (x.2.2.1 : Int)), (8, .bool x.2.2.2.1), (9, .bool x.2.2.2.2)])
  (fun k x H' => k = x.2.1 - x.1 ∧ x.2.2.1 ≤ 64 ∧ x.2.1 - x.1 ≤ B - A ∧ ∃ g : Nat → Int, PdI A B x.1 x.2.1 g0 g ∧ Keep H H' [bd] ∧ Cl H' bd (cF n g)) _ (A, B, L, true, true) ⟨rfl, hl, Nat.le_refl _, g0, PdI.init hAB, hk, hc⟩ ⟨rfl, rfl, rfl, rfl, rfl, rfl, trivial⟩ ?_
 rintro k ⟨a, b, l, wb, wp⟩ L1 ⟨rfl, hl, hM, g, hI, hk, hc⟩
 simp only [] at hl hM hI
 have hA := hI.hA; have hab := hI.hab; have hB := hI.hB; have hn : n ≤ 1000000 := by omega
 refine wN_seq <| wN_mov (v := iv (b : Int)) rfl <| wN_mov (v := iv (a : Int)) rfl <| wN_sub (a := (b : Int)) (b := (a : Int)) rfl rfl ⟨by omega, by omega⟩ <| wN_mov (v := iv ((b : Int) - (a : Int))) rfl <| wN_end <| wN_seq <| wN_mov (v := iv ((b : Int) - (a : Int))) rfl <| wN_c_leq (a := (b : Int) - (a : Int)) (b := 12) rfl rfl <| wN_end ?_
 refine And.intro (fun q1 => ?_) (fun q1 => ?_)
 ·have q1 : ((b : Int) - (a : Int)) ≤ 12 := of_decide_eq_true q1
  refine wN_seq <| wN_mov (v := .slice (some ⟨bd, 0, none⟩) n cap) rfl <| wN_mov (v := iv (a : Int)) rfl <| wN_mov (v := iv (b : Int)) rfl ?_
  obtain ⟨H1, gH1, fH1, pH1, sH1, kH1, cH1⟩ := insF_ok (kn := kn) (lo := lo) (H := L1) (by have := hk.1; omega) hlb hn (cap := cap) hc (a := a) (b := b) (by omega) (by omega)
  refine wN_callf (vs := [.slice (some ⟨bd, 0, none⟩) n cap, iv (a : Int), iv (b : Int)]) rfl (callX_args fH1) ?_
  have mH1 := kH1.1
  have hk := hk.trans kH1
  have hc := cH1
  have hI := hI.perm pH1
  have hz := hI.done sH1
  refine wN_end ?_
  exact And.intro trivial (Exists.intro _ (And.intro rfl ⟨rfl, _, hz.1, hz.2, hk, hc⟩))
 ·have q1 : ¬ (((b : Int) - (a : Int)) ≤ 12) := of_decide_eq_false q1
  first | refine wN_skip ?_ | skip
  refine wN_seq <| wN_mov (v := iv (l : Int)) rfl <| wN_c_eql (a := (l : Int)) (b := 0) rfl rfl <| wN_end ?_
  refine And.intro (fun q2 => ?_) (fun q2 => ?_)
  ·have q2 : (l : Int) = 0 := by simpa using q2
   refine wN_seq <| wN_mov (v := .slice (some ⟨bd, 0, none⟩) n cap) rfl <| wN_mov (v := iv (a : Int)) rfl <| wN_mov (v := iv (b : Int)) rfl ?_
   obtain ⟨H2, gH2, fH2, pH2, sH2, kH2, cH2⟩ := heap_ok (kn := kn) (lo := lo) (H := L1) (by have := hk.1; omega) hlb hn (cap := cap) hc (a := a) (b := b) (by omega) (by omega)
   refine wN_callf (vs := [.slice (some ⟨bd, 0, none⟩) n cap, iv (a : Int), iv (b : Int)]) rfl (callX_args fH2) ?_
   have mH2 := kH2.1
   have hk := hk.trans kH2
   have hc := cH2
   have hI := hI.perm pH2
   have hz := hI.done sH2
   refine wN_end ?_
   exact And.intro trivial (Exists.intro _ (And.intro rfl ⟨rfl, _, hz.1, hz.2, hk, hc⟩))
  ·have q2 : ¬ ((l : Int) = 0) := by simpa using q2
   first | refine wN_skip ?_ | skip
   refine wN_seq <| wN_mov (v := .bool wb) rfl <| wN_pur (v := .bool (!wb)) rfl rfl <| wN_end ?_
   refine And.intro (fun q3 => ?_) (fun q3 => ?_)
   ·refine wN_seq <| wN_mov (v := .slice (some ⟨bd, 0, none⟩) n cap) rfl <| wN_mov (v := iv (a : Int)) rfl <| wN_mov (v := iv (b : Int)) rfl ?_
    obtain ⟨H3, gH3, fH3, pH3, kH3, cH3⟩ := brk_ok (kn := kn) (lo := lo) (H := L1) (by have := hk.1; omega) hlb hn (cap := cap) hc (a := a) (b := b) (by omega) (by omega) (by omega)
    refine wN_callf (vs := [.slice (some ⟨bd, 0, none⟩) n cap, iv (a : Int), iv (b : Int)]) rfl (callX_args fH3) ?_
    have mH3 := kH3.1
    have hk := hk.trans kH3
    have hc := cH3
    have hI := hI.perm pH3
    refine wN_end <| wN_seq <| wN_mov (v := iv (l : Int)) rfl <| wN_sub (a := (l : Int)) (b := 1) rfl rfl ⟨by omega, by omega⟩ <| wN_mov (v := iv ((l : Int) - 1)) rfl <| wN_end <| wN_seq <| wN_mov (v := .slice (some ⟨bd, 0, none⟩) n cap) rfl <| wN_mov (v := iv (a : Int)) rfl <| wN_mov (v := iv (b : Int)) rfl ?_
    obtain ⟨H4, pH4, cH4, fH4, hap, hpb, hc0, hc1, kH4⟩ := choose_ok (kn := kn) (lo := lo) (H := H3) (by have := hk.1; omega) hlb hn (cap := cap) hc (a := a) (b := b) (by omega) (by omega)
    refine wN_callf (vs := [.slice (some ⟨bd, 0, none⟩) n cap, iv (a : Int), iv (b : Int)]) rfl (callX_args fH4) ?_
    have mH4 := kH4.1
    have hk := hk.trans (kH4.mono (by simp))
    have hc := kH4.cl hc (by simp)
    refine wN_mov (v := .tuple #[iv (pH4 : Int), iv cH4]) rfl <| wN_pur (v := iv (pH4 : Int)) rfl (by kernel_rfl) <| wN_pur (v := iv cH4) rfl (by kernel_rfl) <| wN_mov (v := iv (pH4 : Int)) rfl <| wN_mov (v := iv cH4) rfl <| wN_end <| wN_seq <| wN_mov (v := iv cH4) rfl <| wN_c_eql (a := cH4) (b := 2) rfl rfl <| wN_end ?_
    refine And.intro (fun q4 => ?_) (fun q4 => ?_)
    ·have q4 : cH4 = 2 := by simpa using q4
     refine wN_seq <| wN_mov (v := .slice (some ⟨bd, 0, none⟩) n cap) rfl <| wN_mov (v := iv (a : Int)) rfl <| wN_mov (v := iv (b : Int)) rfl ?_
     obtain ⟨H5, gH5, fH5, pH5, kH5, cH5⟩ := rev_ok (kn := kn) (lo := lo) (H := H4) (by have := hk.1; omega) hlb hn (cap := cap) hc (a := a) (b := b) (by omega) (by omega)
     refine wN_callf (vs := [.slice (some ⟨bd, 0, none⟩) n cap, iv (a : Int), iv (b : Int)]) rfl (callX_args fH5) ?_
     have mH5 := kH5.1
     have hk := hk.trans kH5
     have hc := cH5
     have hI := hI.perm pH5
     refine wN_end <| wN_seq <| wN_mov (v := iv (b : Int)) rfl <| wN_sub (a := (b : Int)) (b := 1) rfl rfl ⟨by omega, by omega⟩ <| wN_mov (v := iv (pH4 : Int)) rfl <| wN_mov (v := iv (a : Int)) rfl <| wN_sub (a := (pH4 : Int)) (b := (a : Int)) rfl rfl ⟨by omega, by omega⟩ <| wN_sub (a := (b : Int) - 1) (b := (pH4 : Int) - (a : Int)) rfl rfl ⟨by omega, by omega⟩ <| wN_mov (v := iv (((b : Int) - 1) - ((pH4 : Int) - (a : Int)))) rfl <| wN_end <| wN_seq <| wN_mov (v := iv 1) rfl ?_
     refine wN_end ?_
     refine t61_ok (p := (b - 1) - (pH4 - a)) (l := l - 1) (wb := wb) (wp := wp) (c := 1) hlb hn2 ih (by omega) hBn (by omega) h0 hI (by omega) (by omega) (by omega) (by have := hk.1; omega) hk hc (by exact ⟨rfl, rfl, rfl, ivq (by first | omega | (simp only [] <;> omega)), rfl, rfl, rfl, ivq (by first | omega | (simp only [] <;> omega)), rfl, trivial⟩) ?_ ?_
     ·intro e H' S' a' b' l' wb' wp' g' he hd hl' hI' hk' hc' hS'
      have hz : ∃ k' x, k' < b - a ∧ (k' = x.2.1 - x.1 ∧ x.2.2.1 ≤ 64 ∧ x.2.1 - x.1 ≤ B - A ∧ ∃ g : Nat → Int, PdI A B x.1 x.2.1 g0 g ∧ Keep H H' [bd] ∧ Cl H' bd (cF n g)) ∧ Subs ((fun x : Nat × Nat × Nat × Bool × Bool => [(0, .slice (some ⟨bd, 0, none⟩) n cap), (1, iv (x.1 : Int)), (2, iv (x.2.1 : Int)), (3, iv (x.2.2.1 : Int)), (8, Value.bool x.2.2.2.1), (9, .bool x.2.2.2.2)]) x) S' := ⟨_, (a', b', l', wb', wp'), hd, ⟨rfl, hl', by simp only []; omega, g', hI', hk', hc'⟩, hS'⟩
      rcases he with rfl | rfl
      ·exact hz
      ·exact hz
     ·intro H' S' g' hp' hs' hk' hc'
      exact And.intro trivial (Exists.intro _ (And.intro rfl ⟨rfl, g', hp', hs', hk', hc'⟩))
    ·have q4 : ¬ (cH4 = 2) := by simpa using q4
     first | refine wN_skip ?_ | skip
     refine t61_ok (p := pH4) (l := l - 1) (wb := wb) (wp := wp) (c := cH4) hlb hn2 ih (by omega) hBn (by omega) h0 hI (by omega) (by omega) (by omega) (by have := hk.1; omega) hk hc (by exact ⟨rfl, rfl, rfl, ivq (by first | omega | (simp only [] <;> omega)), rfl, rfl, rfl, ivq (by first | omega | (simp only [] <;> omega)), rfl, trivial⟩) ?_ ?_
     ·intro e H' S' a' b' l' wb' wp' g' he hd hl' hI' hk' hc' hS'
      have hz : ∃ k' x, k' < b - a ∧ (k' = x.2.1 - x.1 ∧ x.2.2.1 ≤ 64 ∧ x.2.1 - x.1 ≤ B - A ∧ ∃ g : Nat → Int, PdI A B x.1 x.2.1 g0 g ∧ Keep H H' [bd] ∧ Cl H' bd (cF n g)) ∧ Subs ((fun x : Nat × Nat × Nat × Bool × Bool => [(0, .slice (some ⟨bd, 0, none⟩) n cap), (1, iv (x.1 : Int)), (2, iv (x.2.1 : Int)), (3, iv (x.2.2.1 : Int)), (8, Value.bool x.2.2.2.1), (9, .bool x.2.2.2.2)]) x) S' := ⟨_, (a', b', l', wb', wp'), hd, ⟨rfl, hl', by simp only []; omega, g', hI', hk', hc'⟩, hS'⟩
      rcases he with rfl | rfl
      ·exact hz
      ·exact hz
     ·intro H' S' g' hp' hs' hk' hc'
      exact And.intro trivial (Exists.intro _ (And.intro rfl ⟨rfl, g', hp', hs', hk', hc'⟩))
   ·first | refine wN_skip ?_ | skip
    refine wN_seq <| wN_mov (v := .slice (some ⟨bd, 0, none⟩) n cap) rfl <| wN_mov (v := iv (a : Int)) rfl <| wN_mov (v := iv (b : Int)) rfl ?_
    obtain ⟨H6, pH6, cH6, fH6, hap, hpb, hc0, hc1, kH6⟩ := choose_ok (kn := kn) (lo := lo) (H := L1) (by have := hk.1; omega) hlb hn (cap := cap) hc (a := a) (b := b) (by omega) (by omega)
    refine wN_callf (vs := [.slice (some ⟨bd, 0, none⟩) n cap, iv (a : Int), iv (b : Int)]) rfl (callX_args fH6) ?_
    have mH6 := kH6.1
    have hk := hk.trans (kH6.mono (by simp))
    have hc := kH6.cl hc (by simp)
    refine wN_mov (v := .tuple #[iv (pH6 : Int), iv cH6]) rfl <| wN_pur (v := iv (pH6 : Int)) rfl (by kernel_rfl) <| wN_pur (v := iv cH6) rfl (by kernel_rfl) <| wN_mov (v := iv (pH6 : Int)) rfl <| wN_mov (v := iv cH6) rfl <| wN_end <| wN_seq <| wN_mov (v := iv cH6) rfl <| wN_c_eql (a := cH6) (b := 2) rfl rfl <| wN_end ?_
    refine And.intro (fun q5 => ?_) (fun q5 => ?_)
    ·have q5 : cH6 = 2 := by simpa using q5
     refine wN_seq <| wN_mov (v := .slice (some ⟨bd, 0, none⟩) n cap) rfl <| wN_mov (v := iv (a : Int)) rfl <| wN_mov (v := iv (b : Int)) rfl ?_
     obtain ⟨H7, gH7, fH7, pH7, kH7, cH7⟩ := rev_ok (kn := kn) (lo := lo) (H := H6) (by have := hk.1; omega) hlb hn (cap := cap) hc (a := a) (b := b) (by omega) (by omega)
     refine wN_callf (vs := [.slice (some ⟨bd, 0, none⟩) n cap, iv (a : Int), iv (b : Int)]) rfl (callX_args fH7) ?_
     have mH7 := kH7.1
     have hk := hk.trans kH7
     have hc := cH7
     have hI := hI.perm pH7
     refine wN_end <| wN_seq <| wN_mov (v := iv (b : Int)) rfl <| wN_sub (a := (b : Int)) (b := 1) rfl rfl ⟨by omega, by omega⟩ <| wN_mov (v := iv (pH6 : Int)) rfl <| wN_mov (v := iv (a : Int)) rfl <| wN_sub (a := (pH6 : Int)) (b := (a : Int)) rfl rfl ⟨by omega, by omega⟩ <| wN_sub (a := (b : Int) - 1) (b := (pH6 : Int) - (a : Int)) rfl rfl ⟨by omega, by omega⟩ <| wN_mov (v := iv (((b : Int) - 1) - ((pH6 : Int) - (a : Int)))) rfl <| wN_end <| wN_seq <| wN_mov (v := iv 1) rfl ?_
     refine wN_end ?_
     refine t61_ok (p := (b - 1) - (pH6 - a)) (l := l) (wb := wb) (wp := wp) (c := 1) hlb hn2 ih (by omega) hBn (by omega) h0 hI (by omega) (by omega) (by omega) (by have := hk.1; omega) hk hc (by exact ⟨rfl, rfl, rfl, ivq (by first | omega | (simp only [] <;> omega)), rfl, rfl, rfl, ivq (by first | omega | (simp only [] <;> omega)), rfl, trivial⟩) ?_ ?_
     ·intro e H' S' a' b' l' wb' wp' g' he hd hl' hI' hk' hc' hS'
      have hz : ∃ k' x, k' < b - a ∧ (k' = x.2.1 - x.1 ∧ x.2.2.1 ≤ 64 ∧ x.2.1 - x.1 ≤ B - A ∧ ∃ g : Nat → Int, PdI A B x.1 x.2.1 g0 g ∧ Keep H H' [bd] ∧ Cl H' bd (cF n g)) ∧ Subs ((fun x : Nat × Nat × Nat × Bool × Bool => [(0, .slice (some ⟨bd, 0, none⟩) n cap), (1, iv (x.1 : Int)), (2, iv (x.2.1 : Int)), (3, iv (x.2.2.1 : Int)), (8, Value.bool x.2.2.2.1), (9, .bool x.2.2.2.2)]) x) S' := ⟨_, (a', b', l', wb', wp'), hd, ⟨rfl, hl', by simp only []; omega, g', hI', hk', hc'⟩, hS'⟩
      rcases he with rfl | rfl
      ·exact hz
      ·exact hz
     ·intro H' S' g' hp' hs' hk' hc'
      exact And.intro trivial (Exists.intro _ (And.intro rfl ⟨rfl, g', hp', hs', hk', hc'⟩))
    ·have q5 : ¬ (cH6 = 2) := by simpa using q5
     first | refine wN_skip ?_ | skip
     refine t61_ok (p := pH6) (l := l) (wb := wb) (wp := wp) (c := cH6) hlb hn2 ih (by omega) hBn (by omega) h0 hI (by omega) (by omega) (by omega) (by have := hk.1; omega) hk hc (by exact ⟨rfl, rfl, rfl, ivq (by first | omega | (simp only [] <;> omega)), rfl, rfl, rfl, ivq (by first | omega | (simp only [] <;> omega)), rfl, trivial⟩) ?_ ?_
     ·intro e H' S' a' b' l' wb' wp' g' he hd hl' hI' hk' hc' hS'
      have hz : ∃ k' x, k' < b - a ∧ (k' = x.2.1 - x.1 ∧ x.2.2.1 ≤ 64 ∧ x.2.1 - x.1 ≤ B - A ∧ ∃ g : Nat → Int, PdI A B x.1 x.2.1 g0 g ∧ Keep H H' [bd] ∧ Cl H' bd (cF n g)) ∧ Subs ((fun x : Nat × Nat × Nat × Bool × Bool => [(0, .slice (some ⟨bd, 0, none⟩) n cap), (1, iv (x.1 : Int)), (2, iv (x.2.1 : Int)), (3, iv (x.2.2.1 : Int)), (8, Value.bool x.2.2.2.1), (9, .bool x.2.2.2.2)]) x) S' := ⟨_, (a', b', l', wb', wp'), hd, ⟨rfl, hl', by simp only []; omega, g', hI', hk', hc'⟩, hS'⟩
      rcases he with rfl | rfl
      ·exact hz
      ·exact hz
     ·intro H' S' g' hp' hs' hk' hc'
      exact And.intro trivial (Exists.intro _ (And.intro rfl ⟨rfl, g', hp', hs', hk', hc'⟩))
theorem pdq_ok {bd cap n : Nat} (hlb : lo ≤ bd) (hn2 : n < 65536) : ∀ (M : Nat) (H : Hp) (A B : Nat) (g : Nat → Int) (l : Nat), lo ≤ H.next → A ≤ B → B ≤ n → B - A < M → l ≤ 64 → Cl H bd (cF n g) → Low (fun x : Int => x) A B g → ∃ H' g', FnX Try.prog kn lo 65 [.slice (some ⟨bd, 0, none⟩) n cap, iv (A : Int), iv (B : Int), iv (l : Int)] H (.tuple #[]) H' ∧ PRm A B g g' ∧ Sor (fun x : Int => x) A B g' ∧ Keep H H' [bd] ∧ Cl H' bd (cF n g')
 | 0, _, _, _, _, _, _, _, _, h, _, _, _ => absurd h (Nat.not_lt_zero _)
 | M + 1, _, _, _, _, _, hlo, hAB, hBn, hM, hl, hc, h0 => pdq_step hlo hlb hn2 (pdq_ok hlb hn2 M) (Nat.le_of_lt_succ hM) hAB hBn hl hc h0
end
end
end Go.Ax


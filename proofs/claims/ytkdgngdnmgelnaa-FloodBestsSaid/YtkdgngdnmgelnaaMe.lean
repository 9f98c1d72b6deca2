import Derived.Test.YtkdgngdnmgelnaaMd
import Derived.Test.YtkdgngdnmgelnaaChecked
import Derived.Test.YtkdgngdnmgelnaaAxO
import Derived.Deep.Slices
import Derived.Deep.Fields
import Derived.ChangeSame
set_option linter.all false
/-
 Flood: the document's best order and least water (48) (written by program).
-/
namespace Go.Ax
open Go Go.RowKit Go.Proofs
def lexs (n : Nat) : List (List Nat) → Bool
 | [] => true
 | a :: r => r.all (fun b => decide (0 < lexC (zi b) (zi a))) && lexs n r
set_option maxRecDepth 1000000 in
theorem lexs_ok {n : Nat} (h1 : 1 ≤ n) (h5 : n ≤ 5) : lexs n (perms n) = true := by
 rcases (by omega : n = 1 ∨ n = 2 ∨ n = 3 ∨ n = 4 ∨ n = 5) with rfl | rfl | rfl | rfl | rfl <;> kernel_rfl
theorem perms_len5 {n : Nat} (h5 : n ≤ 5) : (perms n).length ≤ 120 := by
 rcases (by omega : n = 0 ∨ n = 1 ∨ n = 2 ∨ n = 3 ∨ n = 4 ∨ n = 5) with rfl | rfl | rfl | rfl | rfl | rfl <;> decide +kernel
theorem lexs_at : ∀ {n : Nat} {l : List (List Nat)}, lexs n l = true → ∀ {i j : Nat} {a b : List Nat}, i < j → l[i]? = some a → l[j]? = some b → 0 < lexC (zi b) (zi a)
 | n, [], _, i, j, a, b, _, hi, _ => by simp at hi
 | n, x :: r, h, 0, j + 1, a, b, _, hi, hj => by
  unfold lexs at h
  rw [Bool.and_eq_true, List.all_eq_true] at h
  have hi : x = a := by simpa using hi
  subst hi
  have := h.1 b (List.mem_of_getElem? (by simpa using hj))
  simpa using this
 | n, x :: r, h, i + 1, j + 1, a, b, hij, hi, hj => by
  unfold lexs at h
  rw [Bool.and_eq_true] at h
  exact lexs_at h.2 (show i < j by omega) (by simpa using hi) (by simpa using hj)
theorem bst_no {g : Fh} {p : List Nat → Bool} {cf : List Nat → List Nat → Int} {L : List (List Nat)} {i : Nat} {o : List Nat} (h : L[i]? = some o) (hc : g.can o (g.bn - 1) = false) : g.bst p cf none (L.take (i + 1)) = g.bst p cf none (L.take i) := by
 unfold Fh.bst
 rw [List.take_add_one, h, List.filter_append]
 show ((L.take i).filter _ ++ List.filter _ [o]).foldl _ none = _
 rw [List.filter_cons_of_neg (by simp [hc])]; simp
theorem bst_yes {g : Fh} {p : List Nat → Bool} {cf : List Nat → List Nat → Int} {L : List (List Nat)} {i : Nat} {o : List Nat} (h : L[i]? = some o) (hc : g.can o (g.bn - 1) = true) : g.bst p cf none (L.take (i + 1)) = pick p cf (g.bst p cf none (L.take i)) o := by
 unfold Fh.bst
 rw [List.take_add_one, h, List.filter_append]
 show ((L.take i).filter _ ++ List.filter _ [o]).foldl _ none = _
 rw [List.filter_cons_of_pos (by simpa using hc), List.foldl_append]; rfl
def lsv (g : Fh) (i : Nat) : Int := match g.bst (fun _ => true) g.cw none ((perms g.bn).take i) with | none => -1 | some o => (g.sl o).t2
theorem lex2 {a b c d : Int} {r s : List Int} : lexC (a :: b :: r) (c :: d :: s) < 0 ↔ a < c ∨ (a = c ∧ (b < d ∨ (b = d ∧ lexC r s < 0))) := by
 have e : ∀ (x y : Int) (u v : List Int), lexC (x :: u) (y :: v) < 0 ↔ x < y ∨ (x = y ∧ lexC u v < 0) := fun x y u v => by
  show (if sg x y ≠ 0 then sg x y else lexC u v) < 0 ↔ _
  unfold sg
  by_cases h1 : x < y
  ·rw [if_pos h1]; simp [h1]
  ·rw [if_neg h1]
   by_cases h2 : x > y
   ·rw [if_pos h2, if_pos (by decide)]
    constructor
    ·intro q; omega
    ·rintro (q | ⟨q, _⟩) <;> omega
   ·rw [if_neg h2, if_neg (by decide)]
    have : x = y := by omega
    subst this; simp
 rw [e, e]
theorem cp_less {g : Fh} {o b : List Nat} (h : 0 < lexC (zi o) (zi b)) : g.cp o b < 0 ↔ (g.sl o).d2 < (g.sl b).d2 ∨ ((g.sl o).d2 = (g.sl b).d2 ∧ (g.sl o).t2 < (g.sl b).t2) := by
 rw [cp_key]
 show lexC ((g.sl o).d2 :: (g.sl o).t2 :: zi o) ((g.sl b).d2 :: (g.sl b).t2 :: zi b) < 0 ↔ _
 rw [lex2]
 constructor
 ·rintro (q | ⟨q, q2 | ⟨_, q3⟩⟩)
  ·exact .inl q
  ·exact .inr ⟨q, q2⟩
  ·omega
 ·rintro (q | ⟨q, q2⟩)
  ·exact .inl q
  ·exact .inr ⟨q, .inl q2⟩
theorem t2_nn {g : Fh} {f : Nat} {H : Hp} (v : g.Vd) (a : g.At f H) {o : List Nat} (ho : o ∈ perms g.bn) (hc : g.can o (g.bn - 1) = true) : 0 ≤ (g.sl o).t2 ∧ (g.sl o).t2 ≤ 490000000000 ∧ IsOrd (zi o) g.bn := by
 obtain ⟨h1, h2, h3⟩ := perms_mem.1 ho
 have hi := zi_ord h1 h2 h3
 have vn := v.n
 have q := Fh.st_in v a hi (g.bn - 1) (by omega) (by rw [no_zi]; exact hc)
 rw [no_zi] at q
 have := q.t2
 exact ⟨this.1, by show (g.st o (g.bn - 1)).t2 ≤ _; omega, hi⟩
theorem lsv_no {g : Fh} {i : Nat} {o : List Nat} (h : (perms g.bn)[i]? = some o) (hc : g.can o (g.bn - 1) = false) : lsv g (i + 1) = lsv g i := by
 unfold lsv; rw [bst_no h hc]
theorem lsv_yes {g : Fh} {f : Nat} {H : Hp} (v : g.Vd) (a : g.At f H) {i : Nat} {o : List Nat} (h : (perms g.bn)[i]? = some o) (hc : g.can o (g.bn - 1) = true) : lsv g (i + 1) = if lsv g i < 0 ∨ (g.sl o).t2 < lsv g i then (g.sl o).t2 else lsv g i := by
 unfold lsv
 rw [bst_yes h hc]
 cases e : g.bst (fun _ => true) g.cw none ((perms g.bn).take i) with
 | none =>
  show (g.sl o).t2 = _
  rw [if_pos (.inl (show (-1 : Int) < 0 by decide))]
 | some b =>
  obtain ⟨hb, hcb, _⟩ := Fh.bst_in (c := b) e
  have := t2_nn v a (List.mem_of_mem_take hb) hcb
  have key : g.cw o b < 0 ↔ (g.sl o).t2 < (g.sl b).t2 ∨ ((g.sl o).t2 = (g.sl b).t2 ∧ g.cp o b < 0) := by
   rw [cw_key, cp_key]
   show lexC ((g.sl o).t2 :: (g.sl o).d2 :: ((g.sl o).t2 :: zi o)) ((g.sl b).t2 :: (g.sl b).d2 :: ((g.sl b).t2 :: zi b)) < 0 ↔ _ ∨ (_ ∧ lexC ((g.sl o).d2 :: (g.sl o).t2 :: zi o) ((g.sl b).d2 :: (g.sl b).t2 :: zi b) < 0)
   rw [lex2, lex2]
   constructor
   ·rintro (q | ⟨q, q2 | ⟨q2, q3⟩⟩)
    ·exact .inl q
    ·exact .inr ⟨q, .inl q2⟩
    ·refine .inr ⟨q, .inr ⟨q2, ?_⟩⟩
     have : lexC ((g.sl o).t2 :: zi o) ((g.sl b).t2 :: zi b) < 0 := q3
     show _ < _ ∨ _
     rw [show lexC ((g.sl o).t2 :: zi o) ((g.sl b).t2 :: zi b) = lexC (zi o) (zi b) by show (if sg _ _ ≠ 0 then sg _ _ else _) = _; rw [q, sg_self]; simp] at this
     exact .inr ⟨q, this⟩
   ·rintro (q | ⟨q, q2 | ⟨q2, q3⟩⟩)
    ·exact .inl q
    ·exact .inr ⟨q, .inl q2⟩
    ·refine .inr ⟨q, .inr ⟨q2, ?_⟩⟩
     rcases q3 with q3 | ⟨_, q3⟩
     ·omega
     ·show lexC ((g.sl o).t2 :: zi o) ((g.sl b).t2 :: zi b) < 0
      show (if sg _ _ ≠ 0 then sg _ _ else _) < 0
      rw [q, sg_self]; simpa using q3
  show (match (bif true && decide (g.cw o b < 0) then some o else some b) with | none => -1 | some o => (g.sl o).t2) = if (g.sl b).t2 < 0 ∨ (g.sl o).t2 < (g.sl b).t2 then (g.sl o).t2 else (g.sl b).t2
  by_cases q : g.cw o b < 0
  ·rw [decide_eq_true q]
   show (g.sl o).t2 = _
   rcases key.1 q with z | ⟨z, _⟩
   ·rw [if_pos (.inr z)]
   ·rw [if_neg (by omega), z]
  ·rw [decide_eq_false q]
   show (g.sl b).t2 = _
   rw [if_neg (fun z => q (key.2 (.inl (by omega))))]
def FO (g : Fh) (cs : List Value) (i : Nat) (fv : Value) (en tk : Int) : Prop := match g.bst g.ens g.cp none ((perms g.bn).take i) with
 | none => fv = .slice none 0 0
 | some o => ∃ j xb, j < i ∧ (perms g.bn)[j]? = some o ∧ cs[j]? = some (slv xb g.bn g.bn) ∧ fv = slv xb g.bn g.bn ∧ en = (g.sl o).d2 ∧ tk = (g.sl o).t2
theorem FO.no {g : Fh} {cs : List Value} {i : Nat} {fv : Value} {en tk : Int} (h : FO g cs i fv en tk) {o : List Nat} (ho : (perms g.bn)[i]? = some o) (hc : g.can o (g.bn - 1) = false) : FO g cs (i + 1) fv en tk := by
 unfold FO at h ⊢; rw [bst_no ho hc]
 cases e : g.bst g.ens g.cp none ((perms g.bn).take i) with
 | none => rw [e] at h; exact h
 | some b => rw [e] at h; obtain ⟨j, xb, h1, h2⟩ := h; exact ⟨j, xb, by omega, h2⟩
theorem FO.at {g : Fh} {cs : List Value} {i : Nat} {fv : Value} {en tk : Int} (h : FO g cs i fv en tk) : (g.bst g.ens g.cp none ((perms g.bn).take i) = none ∧ fv = .slice none 0 0) ∨ ∃ b j xb, g.bst g.ens g.cp none ((perms g.bn).take i) = some b ∧ j < i ∧ (perms g.bn)[j]? = some b ∧ cs[j]? = some (slv xb g.bn g.bn) ∧ fv = slv xb g.bn g.bn ∧ en = (g.sl b).d2 ∧ tk = (g.sl b).t2 := by
 unfold FO at h
 cases e : g.bst g.ens g.cp none ((perms g.bn).take i) with
 | none => rw [e] at h; exact .inl ⟨rfl, h⟩
 | some b => rw [e] at h; obtain ⟨j, xb, h1⟩ := h; exact .inr ⟨b, j, xb, rfl, h1⟩
theorem FO.take {g : Fh} {cs : List Value} {i xb : Nat} {o : List Nat} (ho : (perms g.bn)[i]? = some o) (hc : g.can o (g.bn - 1) = true) (hx : cs[i]? = some (slv xb g.bn g.bn)) (he : pick g.ens g.cp (g.bst g.ens g.cp none ((perms g.bn).take i)) o = some o) : FO g cs (i + 1) (slv xb g.bn g.bn) (g.sl o).d2 (g.sl o).t2 := by
 unfold FO; rw [bst_yes ho hc, he]
 exact ⟨i, xb, by omega, ho, hx, rfl, rfl, rfl⟩
theorem FO.pass {g : Fh} {cs : List Value} {i : Nat} {fv : Value} {en tk : Int} (h : FO g cs i fv en tk) {o : List Nat} (ho : (perms g.bn)[i]? = some o) (hc : g.can o (g.bn - 1) = true) (he : pick g.ens g.cp (g.bst g.ens g.cp none ((perms g.bn).take i)) o = g.bst g.ens g.cp none ((perms g.bn).take i)) : FO g cs (i + 1) fv en tk := by
 unfold FO at h ⊢; rw [bst_yes ho hc, he]
 cases e : g.bst g.ens g.cp none ((perms g.bn).take i) with
 | none => rw [e] at h; exact h
 | some b => rw [e] at h; obtain ⟨j, xb, h1, h2⟩ := h; exact ⟨j, xb, by omega, h2⟩
def BR (g : Fh) (w : Value) (H : Hp) : Prop := ∃ fv, w = .tuple #[fv, iv (lsv g (perms g.bn).length)] ∧ ((g.fst = none ∧ fv = .slice none 0 0) ∨ ∃ o xb, g.fst = some o ∧ fv = slv xb g.bn g.bn ∧ Cl H xb (ints (zi o)))
section
variable {kn : FuncId → Option Bool} {lo : Nat} {H : Hp}
set_option maxRecDepth 100000 in
set_option maxHeartbeats 4000000 in
theorem best48_ok {g : Fh} {f : Nat} (hat : g.At f H) (v : g.Vd) (h5 : g.bn ≤ 5) (hlo : lo ≤ H.next) : ∃ w H', FnX Try.prog kn lo 48 [.agg g.v.toArray] H w H' ∧ Keep H H' [] ∧ BR g w H' := by
 refine fnX_low (kn := kn) (lo := lo) (H := H) (args := [.agg g.v.toArray]) (Q := fun w H' => Keep H H' [] ∧ BR g w H') Try.func48 B48 N48 Z48 L48 (by simp) ?_
 have hfl := hat.le
 have vn := v.n
 have hk := Keep.refl H []
 refine wN_seq ?_
 refine wN_box (v := .agg g.v.toArray) rfl ?_
 intro H1 kH1 nH1 c1
 have c1 : Cl H1 H.next [.slice g.ba g.bn g.bcap, .slice g.ra g.rn g.rcap, iv g.inlet, iv g.reserve, iv g.winds] := c1
 have mH1 := kH1.1
 have hk := hk.trans kH1
 have hat := hat.keep kH1 (by simp)
 refine wN_mov (v := .slice none 0 0) rfl ?_
 refine wN_mov (v := iv 0) rfl ?_
 refine wN_end ?_
 refine wN_seq ?_
 refine wN_mov (v := .slice none 0 0) rfl ?_
 refine wN_end ?_
 refine wN_seq ?_
 refine wN_mov (v := iv (-1)) rfl ?_
 refine wN_mov (v := iv 0) rfl ?_
 refine wN_mov (v := iv 0) rfl ?_
 refine wN_end ?_
 refine wN_seq ?_
 refine wN_addo (b := H.next) (o := 0) rfl ?_
 refine wN_ld (b := H.next) (o := 0) (v := .slice g.ba g.bn g.bcap) rfl c1.rd rfl ?_
 refine wN_len (m := g.bn) rfl ?_
 obtain ⟨av, H2, fH2, oH2, kH2⟩ := ods_ok (kn := kn) (lo := lo) (n := g.bn) (f := H1.next) (by omega) g.bn [] [] (H := H1) (v := .slice none 0 0) (ba := none) (bcap := 0) (by simp) (.inl ⟨rfl, rfl, rfl, rfl⟩) ⟨[], .inl ⟨rfl, rfl, rfl⟩, rfl, fun i x h => by simp at h⟩ (by have := perms_len5 h5; simp only [List.length_nil]; show 0 + (perms g.bn).length ≤ 1000000; omega) (by omega) (Nat.le_refl _)
 have oH2 : Out lo H1.next g.bn H2 av (perms g.bn) := oH2
 have qH2 := kH2.keep (Keep.refl H1 []) (Nat.le_refl _)
 refine wN_callf (vs := [iv (g.bn : Int), .slice none 0 0, .slice none 0 0]) rfl (callX_args fH2) ?_
 have mH2 := qH2.1
 have hk := hk.trans qH2
 have hat := hat.keep qH2 (by simp)
 have c1 := qH2.cl c1 (by simp)
 have hp0 : 0 < (perms g.bn).length := by obtain ⟨r, e, _⟩ := perms_first vn.1 vn.2; rw [e]; simp
 have hp120 := perms_len5 h5
 obtain ⟨cs, hac, hcl, hrow⟩ := oH2
 obtain ⟨ab, rfl, hrab⟩ : ∃ ab, av = slv ab (perms g.bn).length (perms g.bn).length ∧ Cl H2 ab cs := by
  rcases hac with ⟨_, q, _⟩ | ⟨ab, rfl, _, _, _, q1, q2⟩
  ·omega
  ·exact ⟨ab, rfl, q1, _, _, q2⟩
 have hrow : ∀ (i : Nat) (x : List Nat), (perms g.bn)[i]? = some x → ∃ xb, cs[i]? = some (slv xb g.bn g.bn) ∧ Cl H2 xb (ints (zi x)) := by
  intro i x hx
  obtain ⟨a, cap, e, q | ⟨xb, rfl, rfl, q1, q2⟩⟩ := hrow i x hx
  ·omega
  ·exact ⟨xb, e, q1, _, _, q2⟩
 have lab := hrab.lt
 refine wN_mov (v := .slice (some ⟨ab, 0, none⟩) ((perms g.bn).length) ((perms g.bn).length)) rfl ?_
 refine wN_end ?_
 refine wN_seq ?_
 refine wN_mov (v := iv 0) rfl ?_
 refine wN_end ?_
 have hrabL := hrab
 have hrowL := hrow
 have hatL := hat
 have hkL := hk
 have c1L := c1
 have l1L := c1L.lt
 refine loop_low (fn := Try.f48) E48_1 N48 L48x1 (fun z : Nat × Value × Int × Int => [(1, pt H.next), (4, z.2.1), (5, iv (lsv g z.1)), (6, iv z.2.2.1), (7, iv z.2.2.2), (8, .slice (some ⟨ab, 0, none⟩) ((perms g.bn).length) ((perms g.bn).length)), (9, iv (z.1 : Int))])
  (fun k z H' => z.1 + k = (perms g.bn).length ∧ Keep H2 H' [] ∧ FO g cs z.1 z.2.1 z.2.2.1 z.2.2.2) (perms g.bn).length (0, Value.slice none 0 0, 0, 0) ⟨by omega, Keep.refl _ _, rfl⟩ ⟨rfl, rfl, rfl, rfl, rfl, rfl, rfl, trivial⟩ ?_
 rintro k ⟨i, fv, en, tk⟩ L1 ⟨hik, kL, hFO⟩
 simp only at hik hFO ⊢
 have hrab := kL.cl hrabL (by simp)
 have hk := hkL.trans kL
 have hat := hatL.keep kL (by simp)
 have c1 := kL.cl c1L (by simp)
 have mkL := kL.1
 refine wN_seq ?_
 refine wN_mov (v := iv (i : Int)) rfl ?_
 refine wN_mov (v := .slice (some ⟨ab, 0, none⟩) ((perms g.bn).length) ((perms g.bn).length)) rfl ?_
 refine wN_len (m := (perms g.bn).length) rfl ?_
 refine wN_c_lss (a := (i : Int)) (b := ((perms g.bn).length : Int)) rfl rfl ?_
 refine wN_end ?_
 refine And.intro (fun q1 => ?_) (fun q1 => ?_)
 ·have q1 : (i : Int) < ((perms g.bn).length : Int) := of_decide_eq_true q1
  obtain ⟨o, ho⟩ := get_some (l := perms g.bn) (i := i) (by omega)
  have hom := List.mem_of_getElem? ho
  obtain ⟨ho1, ho2, ho3⟩ := perms_mem.1 hom
  have hiso := zi_ord ho1 ho2 ho3
  obtain ⟨xb, hxe, hxc0⟩ := hrowL i o ho
  have hxc := kL.cl hxc0 (by simp)
  have lxb := hxc.lt
  have hlex : ∀ {j : Nat} {b : List Nat}, j < i → (perms g.bn)[j]? = some b → 0 < lexC (zi o) (zi b) := fun hj hb => lexs_at (lexs_ok vn.1 h5) hj hb ho
  first | refine wN_skip ?_ | skip
  refine wD_seq ?_
  refine wD_lda (b := H.next) (o := 0) rfl c1.rd (show row 5 _ _ = some [.slice g.ba g.bn g.bcap, .slice g.ra g.rn g.rcap, iv g.inlet, iv g.reserve, iv g.winds] from rfl) ?_
  refine wD_mov (v := .slice (some ⟨ab, 0, none⟩) ((perms g.bn).length) ((perms g.bn).length)) rfl ?_
  refine wD_mov (v := iv (i : Int)) rfl ?_
  refine wD_idx (b := ab) (o := 0) (k := i) (j := (i : Int)) rfl rfl rfl (by omega) ?_
  refine wD_ld (b := ab) (o := 0 + i * 1) (v := .slice (some ⟨xb, 0, none⟩) g.bn g.bn) rfl hrab.rd (by rw [show 0 + i * 1 = i by omega]; exact hxe) ?_
  obtain ⟨wH3, H3, fH3, kH3, hT⟩ := times_ok (kn := kn) (lo := L1.next) (H := L1) (cap := g.bn) hat v hiso (no_zi o).symm hxc.rd (Nat.le_refl _)
  have mH3 := kH3.1
  have kL := kL.trans kH3
  have hrab := kH3.cl hrab (by simp)
  have hat := hat.keep kH3 (by simp)
  have c1 := kH3.cl c1 (by simp)
  have hxc := kH3.cl hxc (by simp)
  rcases hT with ⟨hcan, la, lc, rfl, hTl, hTn⟩ | ⟨hcan, rfl⟩
  ·have hls := lsv_yes v hat ho hcan
   have ht2 := t2_nn v hat hom hcan
   have fl1 := hTl.old
   refine wD_callh (vs := [.agg g.v.toArray, slv xb g.bn g.bn]) rfl rfl (callX_args fH3) ?_
   refine wD_mov (v := .tuple #[.slice la g.bn lc, .agg (g.sl o).u.toArray, .bool true]) rfl ?_
   refine wD_pur (v := .slice la g.bn lc) rfl (by kernel_rfl) ?_
   refine wD_pur (v := .agg (g.sl o).u.toArray) rfl (by kernel_rfl) ?_
   refine wD_pur (v := .bool true) rfl (by kernel_rfl) ?_
   refine wD_alc ?_
   intro H4 kH4 nH4 c4
   have c4 : Cl H4 H3.next [iv 0, iv 0, iv 0, iv 0, iv 0, iv 0, iv 0, iv 0] := c4
   have mH4 := kH4.1
   have kL := kL.trans kH4
   have hrab := kH4.cl hrab (by simp)
   have hat := hat.keep kH4 (by simp)
   have c1 := kH4.cl c1 (by simp)
   have hxc := kH4.cl hxc (by simp)
   have hTl := kH4.sl0 hTl
   refine wD_mov (v := .slice la g.bn lc) rfl ?_
   refine wD_sta (b := H3.next) (o := 0) rfl rfl c4 (by omega) rfl rfl (by simp) ?_
   intro H5 kH5 nH5 sH5
   have mH5 := kH5.1
   have kL := kL.new kH5 (fun b hb => by simp at hb ⊢; omega)
   have hrab := kH5.cl hrab (by simp <;> omega)
   have hat := hat.keep kH5 (fun x hx => by first | (simp at hx; done) | (simp at hx; omega))
   have c1 := kH5.cl c1 (by simp <;> omega)
   have hxc := kH5.cl hxc (by simp <;> omega)
   have hTl := kH5.sl hTl (fun b e => by have := fl1 b e; first | (simp; done) | (simp; omega))
   have c4 : Cl H5 H3.next [iv ((g.sl o).t1), iv ((g.sl o).t2), iv ((g.sl o).l1), iv ((g.sl o).l2), iv ((g.sl o).s1), iv ((g.sl o).s2), iv ((g.sl o).r1), iv ((g.sl o).r2)] := sH5
   refine wD_mov (v := .bool true) rfl ?_
   refine wD_end (by repeat' first | exact True.intro | exact (fun h => h) | refine And.intro ?_ ?_ | (intro h; have h : (_ : Nat) = _ := h; omega)) ?_
   refine wN_seq ?_
   refine wN_mov (v := .bool true) rfl ?_
   refine wN_pur (v := .bool false) rfl rfl ?_
   refine wN_end ?_
   refine condF ?_
   first | refine wN_skip ?_ | skip
   refine wN_seq ?_
   refine wN_mov (v := iv (lsv g i)) rfl ?_
   refine wN_b_lss (a := (lsv g i)) (b := 0) rfl rfl ?_
   intro t2 g2; cases t2
   ·have g2 : ¬ ((lsv g i) < 0) := of_decide_eq_false g2
    refine wN_mov (v := .bool false) rfl ?_
    refine wN_g rfl (wN_addo (b := H3.next) (o := 0) rfl ?_)
    refine wN_g rfl (wN_addo (b := H3.next) (o := 0) rfl ?_)
    refine wN_g rfl (wN_ld (b := H3.next) (o := 1) (v := iv ((g.sl o).t2)) rfl c4.rd rfl ?_)
    refine wN_g rfl (wN_mov (v := iv (lsv g i)) rfl ?_)
    refine wN_g rfl (wN_b_lss (a := (g.sl o).t2) (b := (lsv g i)) rfl rfl ?_)
    intro t3 g3; cases t3
    ·have g3 : ¬ (((g.sl o).t2) < (lsv g i)) := of_decide_eq_false g3
     refine wN_pur (v := .bool false) rfl rfl ?_
     refine wN_end ?_
     refine condF ?_
     first | refine wN_skip ?_ | skip
     refine wN_seq ?_
     refine wN_mov (v := .slice la g.bn lc) rfl ?_
     refine wN_mov (v := .slice la g.bn lc) rfl ?_
     refine wN_len (m := g.bn) rfl ?_
     refine wN_sub (a := (g.bn : Int)) (b := 1) rfl rfl ⟨by omega, by omega⟩ ?_
     rcases id hTl with ⟨_, h0, _⟩ | ⟨xl, el, rl, _⟩
     ·omega
     have ll := rl.lt
     refine wN_idx (b := xl) (o := 0) (k := g.bn - 1) (j := (g.bn : Int) - 1) (by rw [← el]; rfl) rfl (by omega) (by omega) ?_
     refine wN_addo (b := xl) (o := 0 + (g.bn - 1) * 5) rfl ?_
     refine wN_addo (b := xl) (o := 0 + (g.bn - 1) * 5 + 3) rfl ?_
     refine wN_ld (b := xl) (o := 0 + (g.bn - 1) * 5 + 4) (v := iv ((g.sl o).d2)) rfl rl (flc_at' (j := 4) (Fh.fs_at (by omega)) rfl) ?_
     refine wN_mov (v := iv ((g.sl o).d2)) rfl ?_
     refine wN_end ?_
     refine wN_seq ?_
     refine wN_addo (b := H3.next) (o := 0) rfl ?_
     refine wN_addo (b := H3.next) (o := 0) rfl ?_
     refine wN_ld (b := H3.next) (o := 1) (v := iv ((g.sl o).t2)) rfl c4.rd rfl ?_
     refine wN_addo (b := H.next) (o := 0) rfl ?_
     refine wN_ld (b := H.next) (o := 3) (v := iv g.reserve) rfl c1.rd rfl ?_
     refine wN_b_leq (a := (g.sl o).t2) (b := g.reserve) rfl rfl ?_
     intro t4 g4; cases t4
     ·have g4 : ¬ (((g.sl o).t2) ≤ g.reserve) := of_decide_eq_false g4
      refine wN_mov (v := .bool false) rfl ?_
      refine wN_gs rfl ?_
      refine wN_gs rfl ?_
      refine wN_gs rfl ?_
      refine wN_gu rfl ?_
      refine wN_gu rfl ?_
      refine wN_gu rfl ?_
      refine wN_gs rfl ?_
      refine wN_gs rfl ?_
      refine wN_gu rfl ?_
      refine wN_gu rfl ?_
      refine wN_gu rfl ?_
      refine wN_gu rfl ?_
      refine wN_gu rfl ?_
      refine wN_gu rfl ?_
      refine wN_gu rfl ?_
      refine wN_gu rfl ?_
      refine wN_gu rfl ?_
      refine wN_gu rfl ?_
      refine wN_gs rfl ?_
      refine wN_pur (v := .bool false) rfl rfl ?_
      refine wN_end ?_
      refine condF ?_
      have hen : g.ens o = false := by unfold Fh.ens; exact decide_eq_false (by omega)
      have hpk : pick g.ens g.cp (g.bst g.ens g.cp none ((perms g.bn).take i)) o = g.bst g.ens g.cp none ((perms g.bn).take i) := by unfold pick; rw [hen]; cases g.bst g.ens g.cp none ((perms g.bn).take i) <;> rfl
      first | refine wN_skip ?_ | skip
      first | refine wN_reg ?_ | refine wN_blk ?_ | refine wN_bseq ?_ | (refine wOps_nil ?_; refine wN_reg ?_)
      refine wN_mov (v := iv (i : Int)) rfl ?_
      refine wN_add (a := (i : Int)) (b := 1) rfl rfl ⟨by omega, by omega⟩ ?_
      refine wN_mov (v := iv ((i : Int) + 1)) rfl ?_
      refine wN_end ?_
      have els : lsv g (i + 1) = (lsv g i) := by rw [hls, if_neg (by omega)]
      exact ⟨k - 1, (i + 1, fv, en, tk), by omega, ⟨by simp only; omega, kL, hFO.pass ho hcan hpk⟩, rfl, rfl, (by rw [els]; rfl), rfl, rfl, rfl, rfl, trivial⟩
     ·have g4 : ((g.sl o).t2) ≤ g.reserve := of_decide_eq_true g4
      refine wN_mov (v := .bool true) rfl ?_
      rcases hFO.at with ⟨eF, rfl⟩ | ⟨b, j, fb, eF, hj, hjb, hjc, rfl, rfl, rfl⟩
      ·refine wN_g rfl (wN_mov (v := .slice none 0 0) rfl ?_)
       refine wN_g rfl (wN_pur (v := .bool true) rfl (by kernel_rfl) ?_)
       refine wN_g rfl (wN_mov (v := .bool true) rfl ?_)
       refine wN_gs rfl ?_
       refine wN_gs rfl ?_
       refine wN_gs rfl ?_
       refine wN_g rfl (wN_pur (v := .bool true) rfl rfl ?_)
       refine wN_g rfl (wN_mov (v := .bool true) rfl ?_)
       refine wN_gs rfl ?_
       refine wN_gs rfl ?_
       refine wN_gs rfl ?_
       refine wN_gs rfl ?_
       refine wN_gu rfl ?_
       refine wN_gu rfl ?_
       refine wN_gu rfl ?_
       refine wN_gu rfl ?_
       refine wN_gu rfl ?_
       refine wN_gs rfl ?_
       refine wN_g rfl (wN_pur (v := .bool true) rfl rfl ?_)
       refine wN_pur (v := .bool true) rfl rfl ?_
       refine wN_end ?_
       refine condT ?_
       have hen : g.ens o = true := by unfold Fh.ens; exact decide_eq_true (by omega)
       have hpk : pick g.ens g.cp (g.bst g.ens g.cp none ((perms g.bn).take i)) o = some o := by
        rw [eF]; unfold pick; rw [hen]; rfl
       refine wN_seq ?_
       refine wN_mov (v := .slice (some ⟨ab, 0, none⟩) ((perms g.bn).length) ((perms g.bn).length)) rfl ?_
       refine wN_mov (v := iv (i : Int)) rfl ?_
       refine wN_idx (b := ab) (o := 0) (k := i) (j := (i : Int)) rfl rfl rfl (by omega) ?_
       refine wN_ld (b := ab) (o := 0 + i * 1) (v := .slice (some ⟨xb, 0, none⟩) g.bn g.bn) rfl hrab.rd (by rw [show 0 + i * 1 = i by omega]; exact hxe) ?_
       refine wN_mov (v := .slice (some ⟨xb, 0, none⟩) g.bn g.bn) rfl ?_
       refine wN_end ?_
       refine wN_seq ?_
       refine wN_mov (v := iv ((g.sl o).d2)) rfl ?_
       refine wN_mov (v := iv ((g.sl o).d2)) rfl ?_
       refine wN_end ?_
       first | refine wN_reg ?_ | refine wN_blk ?_ | refine wN_bseq ?_ | (refine wOps_nil ?_; refine wN_reg ?_)
       refine wN_addo (b := H3.next) (o := 0) rfl ?_
       refine wN_addo (b := H3.next) (o := 0) rfl ?_
       refine wN_ld (b := H3.next) (o := 1) (v := iv ((g.sl o).t2)) rfl c4.rd rfl ?_
       refine wN_mov (v := iv ((g.sl o).t2)) rfl ?_
       refine wN_end ?_
       first | refine wN_reg ?_ | refine wN_blk ?_ | refine wN_bseq ?_ | (refine wOps_nil ?_; refine wN_reg ?_)
       refine wN_mov (v := iv (i : Int)) rfl ?_
       refine wN_add (a := (i : Int)) (b := 1) rfl rfl ⟨by omega, by omega⟩ ?_
       refine wN_mov (v := iv ((i : Int) + 1)) rfl ?_
       refine wN_end ?_
       have els : lsv g (i + 1) = (lsv g i) := by rw [hls, if_neg (by omega)]
       exact ⟨k - 1, (i + 1, .slice (some ⟨xb, 0, none⟩) g.bn g.bn, (g.sl o).d2, (g.sl o).t2), by omega, ⟨by simp only; omega, kL, FO.take ho hcan hxe hpk⟩, rfl, rfl, (by rw [els]; rfl), rfl, rfl, rfl, rfl, trivial⟩
      ·have hlx := hlex hj hjb
       have hcp := cp_less (g := g) hlx
       refine wN_g rfl (wN_mov (v := slv fb g.bn g.bn) rfl ?_)
       refine wN_g rfl (wN_pur (v := .bool false) rfl (by kernel_rfl) ?_)
       refine wN_g rfl (wN_mov (v := .bool false) rfl ?_)
       refine wN_g rfl (wN_mov (v := iv ((g.sl o).d2)) rfl ?_)
       refine wN_g rfl (wN_mov (v := iv ((g.sl b).d2)) rfl ?_)
       refine wN_g rfl (wN_b_lss (a := (g.sl o).d2) (b := (g.sl b).d2) rfl rfl ?_)
       intro t5 g5; cases t5
       ·have g5 : ¬ (((g.sl o).d2) < ((g.sl b).d2)) := of_decide_eq_false g5
        refine wN_g rfl (wN_pur (v := .bool false) rfl rfl ?_)
        refine wN_g rfl (wN_mov (v := .bool false) rfl ?_)
        refine wN_g rfl (wN_mov (v := iv ((g.sl o).d2)) rfl ?_)
        refine wN_g rfl (wN_mov (v := iv ((g.sl b).d2)) rfl ?_)
        refine wN_g rfl (wN_b_eql (a := (g.sl o).d2) (b := (g.sl b).d2) rfl rfl ?_)
        intro t6 g6; cases t6
        ·have g6 : ¬ (((g.sl o).d2) = ((g.sl b).d2)) := by simpa using g6
         refine wN_g rfl (wN_mov (v := .bool false) rfl ?_)
         refine wN_gs rfl ?_
         refine wN_gs rfl ?_
         refine wN_gs rfl ?_
         refine wN_gs rfl ?_
         refine wN_gs rfl ?_
         refine wN_g rfl (wN_pur (v := .bool false) rfl rfl ?_)
         refine wN_g rfl (wN_pur (v := .bool false) rfl rfl ?_)
         refine wN_pur (v := .bool false) rfl rfl ?_
         refine wN_end ?_
         refine condF ?_
         have hen : g.ens o = true := by unfold Fh.ens; exact decide_eq_true (by omega)
         have hpk : pick g.ens g.cp (g.bst g.ens g.cp none ((perms g.bn).take i)) o = g.bst g.ens g.cp none ((perms g.bn).take i) := by
          rw [eF]; unfold pick; rw [hen]; simp only [decide_eq_false (fun q => by have := hcp.1 q; omega : ¬ g.cp o b < 0)]; rfl
         first | refine wN_skip ?_ | skip
         first | refine wN_reg ?_ | refine wN_blk ?_ | refine wN_bseq ?_ | (refine wOps_nil ?_; refine wN_reg ?_)
         refine wN_mov (v := iv (i : Int)) rfl ?_
         refine wN_add (a := (i : Int)) (b := 1) rfl rfl ⟨by omega, by omega⟩ ?_
         refine wN_mov (v := iv ((i : Int) + 1)) rfl ?_
         refine wN_end ?_
         have els : lsv g (i + 1) = (lsv g i) := by rw [hls, if_neg (by omega)]
         exact ⟨k - 1, (i + 1, .slice (some ⟨fb, 0, none⟩) g.bn g.bn, (g.sl b).d2, (g.sl b).t2), by omega, ⟨by simp only; omega, kL, hFO.pass ho hcan hpk⟩, rfl, rfl, (by rw [els]; rfl), rfl, rfl, rfl, rfl, trivial⟩
        ·have g6 : ((g.sl o).d2) = ((g.sl b).d2) := by simpa using g6
         refine wN_g rfl (wN_mov (v := .bool true) rfl ?_)
         refine wN_g rfl (wN_addo (b := H3.next) (o := 0) rfl ?_)
         refine wN_g rfl (wN_addo (b := H3.next) (o := 0) rfl ?_)
         refine wN_g rfl (wN_ld (b := H3.next) (o := 1) (v := iv ((g.sl o).t2)) rfl c4.rd rfl ?_)
         refine wN_g rfl (wN_mov (v := iv ((g.sl b).t2)) rfl ?_)
         refine wN_g rfl (wN_b_lss (a := (g.sl o).t2) (b := (g.sl b).t2) rfl rfl ?_)
         intro t7 g7; cases t7
         ·have g7 : ¬ (((g.sl o).t2) < ((g.sl b).t2)) := of_decide_eq_false g7
          refine wN_g rfl (wN_pur (v := .bool false) rfl rfl ?_)
          refine wN_g rfl (wN_pur (v := .bool false) rfl rfl ?_)
          refine wN_pur (v := .bool false) rfl rfl ?_
          refine wN_end ?_
          refine condF ?_
          have hen : g.ens o = true := by unfold Fh.ens; exact decide_eq_true (by omega)
          have hpk : pick g.ens g.cp (g.bst g.ens g.cp none ((perms g.bn).take i)) o = g.bst g.ens g.cp none ((perms g.bn).take i) := by
           rw [eF]; unfold pick; rw [hen]; simp only [decide_eq_false (fun q => by have := hcp.1 q; omega : ¬ g.cp o b < 0)]; rfl
          first | refine wN_skip ?_ | skip
          first | refine wN_reg ?_ | refine wN_blk ?_ | refine wN_bseq ?_ | (refine wOps_nil ?_; refine wN_reg ?_)
          refine wN_mov (v := iv (i : Int)) rfl ?_
          refine wN_add (a := (i : Int)) (b := 1) rfl rfl ⟨by omega, by omega⟩ ?_
          refine wN_mov (v := iv ((i : Int) + 1)) rfl ?_
          refine wN_end ?_
          have els : lsv g (i + 1) = (lsv g i) := by rw [hls, if_neg (by omega)]
          exact ⟨k - 1, (i + 1, .slice (some ⟨fb, 0, none⟩) g.bn g.bn, (g.sl b).d2, (g.sl b).t2), by omega, ⟨by simp only; omega, kL, hFO.pass ho hcan hpk⟩, rfl, rfl, (by rw [els]; rfl), rfl, rfl, rfl, rfl, trivial⟩
         ·have g7 : ((g.sl o).t2) < ((g.sl b).t2) := of_decide_eq_true g7
          refine wN_g rfl (wN_pur (v := .bool true) rfl rfl ?_)
          refine wN_g rfl (wN_pur (v := .bool true) rfl rfl ?_)
          refine wN_pur (v := .bool true) rfl rfl ?_
          refine wN_end ?_
          refine condT ?_
          have hen : g.ens o = true := by unfold Fh.ens; exact decide_eq_true (by omega)
          have hpk : pick g.ens g.cp (g.bst g.ens g.cp none ((perms g.bn).take i)) o = some o := by
           rw [eF]; unfold pick; rw [hen]; simp only [decide_eq_true (hcp.2 (by omega))]; rfl
          refine wN_seq ?_
          refine wN_mov (v := .slice (some ⟨ab, 0, none⟩) ((perms g.bn).length) ((perms g.bn).length)) rfl ?_
          refine wN_mov (v := iv (i : Int)) rfl ?_
          refine wN_idx (b := ab) (o := 0) (k := i) (j := (i : Int)) rfl rfl rfl (by omega) ?_
          refine wN_ld (b := ab) (o := 0 + i * 1) (v := .slice (some ⟨xb, 0, none⟩) g.bn g.bn) rfl hrab.rd (by rw [show 0 + i * 1 = i by omega]; exact hxe) ?_
          refine wN_mov (v := .slice (some ⟨xb, 0, none⟩) g.bn g.bn) rfl ?_
          refine wN_end ?_
          refine wN_seq ?_
          refine wN_mov (v := iv ((g.sl o).d2)) rfl ?_
          refine wN_mov (v := iv ((g.sl o).d2)) rfl ?_
          refine wN_end ?_
          first | refine wN_reg ?_ | refine wN_blk ?_ | refine wN_bseq ?_ | (refine wOps_nil ?_; refine wN_reg ?_)
          refine wN_addo (b := H3.next) (o := 0) rfl ?_
          refine wN_addo (b := H3.next) (o := 0) rfl ?_
          refine wN_ld (b := H3.next) (o := 1) (v := iv ((g.sl o).t2)) rfl c4.rd rfl ?_
          refine wN_mov (v := iv ((g.sl o).t2)) rfl ?_
          refine wN_end ?_
          first | refine wN_reg ?_ | refine wN_blk ?_ | refine wN_bseq ?_ | (refine wOps_nil ?_; refine wN_reg ?_)
          refine wN_mov (v := iv (i : Int)) rfl ?_
          refine wN_add (a := (i : Int)) (b := 1) rfl rfl ⟨by omega, by omega⟩ ?_
          refine wN_mov (v := iv ((i : Int) + 1)) rfl ?_
          refine wN_end ?_
          have els : lsv g (i + 1) = (lsv g i) := by rw [hls, if_neg (by omega)]
          exact ⟨k - 1, (i + 1, .slice (some ⟨xb, 0, none⟩) g.bn g.bn, (g.sl o).d2, (g.sl o).t2), by omega, ⟨by simp only; omega, kL, FO.take ho hcan hxe hpk⟩, rfl, rfl, (by rw [els]; rfl), rfl, rfl, rfl, rfl, trivial⟩
       ·have g5 : ((g.sl o).d2) < ((g.sl b).d2) := of_decide_eq_true g5
        refine wN_g rfl (wN_pur (v := .bool true) rfl rfl ?_)
        refine wN_g rfl (wN_mov (v := .bool true) rfl ?_)
        refine wN_gs rfl ?_
        refine wN_gs rfl ?_
        refine wN_gs rfl ?_
        refine wN_gs rfl ?_
        refine wN_gu rfl ?_
        refine wN_gu rfl ?_
        refine wN_gu rfl ?_
        refine wN_gu rfl ?_
        refine wN_gu rfl ?_
        refine wN_gs rfl ?_
        refine wN_g rfl (wN_pur (v := .bool true) rfl rfl ?_)
        refine wN_pur (v := .bool true) rfl rfl ?_
        refine wN_end ?_
        refine condT ?_
        have hen : g.ens o = true := by unfold Fh.ens; exact decide_eq_true (by omega)
        have hpk : pick g.ens g.cp (g.bst g.ens g.cp none ((perms g.bn).take i)) o = some o := by
         rw [eF]; unfold pick; rw [hen]; simp only [decide_eq_true (hcp.2 (by omega))]; rfl
        refine wN_seq ?_
        refine wN_mov (v := .slice (some ⟨ab, 0, none⟩) ((perms g.bn).length) ((perms g.bn).length)) rfl ?_
        refine wN_mov (v := iv (i : Int)) rfl ?_
        refine wN_idx (b := ab) (o := 0) (k := i) (j := (i : Int)) rfl rfl rfl (by omega) ?_
        refine wN_ld (b := ab) (o := 0 + i * 1) (v := .slice (some ⟨xb, 0, none⟩) g.bn g.bn) rfl hrab.rd (by rw [show 0 + i * 1 = i by omega]; exact hxe) ?_
        refine wN_mov (v := .slice (some ⟨xb, 0, none⟩) g.bn g.bn) rfl ?_
        refine wN_end ?_
        refine wN_seq ?_
        refine wN_mov (v := iv ((g.sl o).d2)) rfl ?_
        refine wN_mov (v := iv ((g.sl o).d2)) rfl ?_
        refine wN_end ?_
        first | refine wN_reg ?_ | refine wN_blk ?_ | refine wN_bseq ?_ | (refine wOps_nil ?_; refine wN_reg ?_)
        refine wN_addo (b := H3.next) (o := 0) rfl ?_
        refine wN_addo (b := H3.next) (o := 0) rfl ?_
        refine wN_ld (b := H3.next) (o := 1) (v := iv ((g.sl o).t2)) rfl c4.rd rfl ?_
        refine wN_mov (v := iv ((g.sl o).t2)) rfl ?_
        refine wN_end ?_
        first | refine wN_reg ?_ | refine wN_blk ?_ | refine wN_bseq ?_ | (refine wOps_nil ?_; refine wN_reg ?_)
        refine wN_mov (v := iv (i : Int)) rfl ?_
        refine wN_add (a := (i : Int)) (b := 1) rfl rfl ⟨by omega, by omega⟩ ?_
        refine wN_mov (v := iv ((i : Int) + 1)) rfl ?_
        refine wN_end ?_
        have els : lsv g (i + 1) = (lsv g i) := by rw [hls, if_neg (by omega)]
        exact ⟨k - 1, (i + 1, .slice (some ⟨xb, 0, none⟩) g.bn g.bn, (g.sl o).d2, (g.sl o).t2), by omega, ⟨by simp only; omega, kL, FO.take ho hcan hxe hpk⟩, rfl, rfl, (by rw [els]; rfl), rfl, rfl, rfl, rfl, trivial⟩
    ·have g3 : ((g.sl o).t2) < (lsv g i) := of_decide_eq_true g3
     refine wN_pur (v := .bool true) rfl rfl ?_
     refine wN_end ?_
     refine condT ?_
     refine wN_seq ?_
     refine wN_addo (b := H3.next) (o := 0) rfl ?_
     refine wN_addo (b := H3.next) (o := 0) rfl ?_
     refine wN_ld (b := H3.next) (o := 1) (v := iv ((g.sl o).t2)) rfl c4.rd rfl ?_
     refine wN_mov (v := iv ((g.sl o).t2)) rfl ?_
     refine wN_end ?_
     refine wN_seq ?_
     refine wN_mov (v := .slice la g.bn lc) rfl ?_
     refine wN_mov (v := .slice la g.bn lc) rfl ?_
     refine wN_len (m := g.bn) rfl ?_
     refine wN_sub (a := (g.bn : Int)) (b := 1) rfl rfl ⟨by omega, by omega⟩ ?_
     rcases id hTl with ⟨_, h0, _⟩ | ⟨xl, el, rl, _⟩
     ·omega
     have ll := rl.lt
     refine wN_idx (b := xl) (o := 0) (k := g.bn - 1) (j := (g.bn : Int) - 1) (by rw [← el]; rfl) rfl (by omega) (by omega) ?_
     refine wN_addo (b := xl) (o := 0 + (g.bn - 1) * 5) rfl ?_
     refine wN_addo (b := xl) (o := 0 + (g.bn - 1) * 5 + 3) rfl ?_
     refine wN_ld (b := xl) (o := 0 + (g.bn - 1) * 5 + 4) (v := iv ((g.sl o).d2)) rfl rl (flc_at' (j := 4) (Fh.fs_at (by omega)) rfl) ?_
     refine wN_mov (v := iv ((g.sl o).d2)) rfl ?_
     refine wN_end ?_
     refine wN_seq ?_
     refine wN_addo (b := H3.next) (o := 0) rfl ?_
     refine wN_addo (b := H3.next) (o := 0) rfl ?_
     refine wN_ld (b := H3.next) (o := 1) (v := iv ((g.sl o).t2)) rfl c4.rd rfl ?_
     refine wN_addo (b := H.next) (o := 0) rfl ?_
     refine wN_ld (b := H.next) (o := 3) (v := iv g.reserve) rfl c1.rd rfl ?_
     refine wN_b_leq (a := (g.sl o).t2) (b := g.reserve) rfl rfl ?_
     intro t8 g8; cases t8
     ·have g8 : ¬ (((g.sl o).t2) ≤ g.reserve) := of_decide_eq_false g8
      refine wN_mov (v := .bool false) rfl ?_
      refine wN_gs rfl ?_
      refine wN_gs rfl ?_
      refine wN_gs rfl ?_
      refine wN_gu rfl ?_
      refine wN_gu rfl ?_
      refine wN_gu rfl ?_
      refine wN_gs rfl ?_
      refine wN_gs rfl ?_
      refine wN_gu rfl ?_
      refine wN_gu rfl ?_
      refine wN_gu rfl ?_
      refine wN_gu rfl ?_
      refine wN_gu rfl ?_
      refine wN_gu rfl ?_
      refine wN_gu rfl ?_
      refine wN_gu rfl ?_
      refine wN_gu rfl ?_
      refine wN_gu rfl ?_
      refine wN_gs rfl ?_
      refine wN_pur (v := .bool false) rfl rfl ?_
      refine wN_end ?_
      refine condF ?_
      have hen : g.ens o = false := by unfold Fh.ens; exact decide_eq_false (by omega)
      have hpk : pick g.ens g.cp (g.bst g.ens g.cp none ((perms g.bn).take i)) o = g.bst g.ens g.cp none ((perms g.bn).take i) := by unfold pick; rw [hen]; cases g.bst g.ens g.cp none ((perms g.bn).take i) <;> rfl
      first | refine wN_skip ?_ | skip
      first | refine wN_reg ?_ | refine wN_blk ?_ | refine wN_bseq ?_ | (refine wOps_nil ?_; refine wN_reg ?_)
      refine wN_mov (v := iv (i : Int)) rfl ?_
      refine wN_add (a := (i : Int)) (b := 1) rfl rfl ⟨by omega, by omega⟩ ?_
      refine wN_mov (v := iv ((i : Int) + 1)) rfl ?_
      refine wN_end ?_
      have els : lsv g (i + 1) = (g.sl o).t2 := by rw [hls, if_pos (by omega)]
      exact ⟨k - 1, (i + 1, fv, en, tk), by omega, ⟨by simp only; omega, kL, hFO.pass ho hcan hpk⟩, rfl, rfl, (by rw [els]; rfl), rfl, rfl, rfl, rfl, trivial⟩
     ·have g8 : ((g.sl o).t2) ≤ g.reserve := of_decide_eq_true g8
      refine wN_mov (v := .bool true) rfl ?_
      rcases hFO.at with ⟨eF, rfl⟩ | ⟨b, j, fb, eF, hj, hjb, hjc, rfl, rfl, rfl⟩
      ·refine wN_g rfl (wN_mov (v := .slice none 0 0) rfl ?_)
       refine wN_g rfl (wN_pur (v := .bool true) rfl (by kernel_rfl) ?_)
       refine wN_g rfl (wN_mov (v := .bool true) rfl ?_)
       refine wN_gs rfl ?_
       refine wN_gs rfl ?_
       refine wN_gs rfl ?_
       refine wN_g rfl (wN_pur (v := .bool true) rfl rfl ?_)
       refine wN_g rfl (wN_mov (v := .bool true) rfl ?_)
       refine wN_gs rfl ?_
       refine wN_gs rfl ?_
       refine wN_gs rfl ?_
       refine wN_gs rfl ?_
       refine wN_gu rfl ?_
       refine wN_gu rfl ?_
       refine wN_gu rfl ?_
       refine wN_gu rfl ?_
       refine wN_gu rfl ?_
       refine wN_gs rfl ?_
       refine wN_g rfl (wN_pur (v := .bool true) rfl rfl ?_)
       refine wN_pur (v := .bool true) rfl rfl ?_
       refine wN_end ?_
       refine condT ?_
       have hen : g.ens o = true := by unfold Fh.ens; exact decide_eq_true (by omega)
       have hpk : pick g.ens g.cp (g.bst g.ens g.cp none ((perms g.bn).take i)) o = some o := by
        rw [eF]; unfold pick; rw [hen]; rfl
       refine wN_seq ?_
       refine wN_mov (v := .slice (some ⟨ab, 0, none⟩) ((perms g.bn).length) ((perms g.bn).length)) rfl ?_
       refine wN_mov (v := iv (i : Int)) rfl ?_
       refine wN_idx (b := ab) (o := 0) (k := i) (j := (i : Int)) rfl rfl rfl (by omega) ?_
       refine wN_ld (b := ab) (o := 0 + i * 1) (v := .slice (some ⟨xb, 0, none⟩) g.bn g.bn) rfl hrab.rd (by rw [show 0 + i * 1 = i by omega]; exact hxe) ?_
       refine wN_mov (v := .slice (some ⟨xb, 0, none⟩) g.bn g.bn) rfl ?_
       refine wN_end ?_
       refine wN_seq ?_
       refine wN_mov (v := iv ((g.sl o).d2)) rfl ?_
       refine wN_mov (v := iv ((g.sl o).d2)) rfl ?_
       refine wN_end ?_
       first | refine wN_reg ?_ | refine wN_blk ?_ | refine wN_bseq ?_ | (refine wOps_nil ?_; refine wN_reg ?_)
       refine wN_addo (b := H3.next) (o := 0) rfl ?_
       refine wN_addo (b := H3.next) (o := 0) rfl ?_
       refine wN_ld (b := H3.next) (o := 1) (v := iv ((g.sl o).t2)) rfl c4.rd rfl ?_
       refine wN_mov (v := iv ((g.sl o).t2)) rfl ?_
       refine wN_end ?_
       first | refine wN_reg ?_ | refine wN_blk ?_ | refine wN_bseq ?_ | (refine wOps_nil ?_; refine wN_reg ?_)
       refine wN_mov (v := iv (i : Int)) rfl ?_
       refine wN_add (a := (i : Int)) (b := 1) rfl rfl ⟨by omega, by omega⟩ ?_
       refine wN_mov (v := iv ((i : Int) + 1)) rfl ?_
       refine wN_end ?_
       have els : lsv g (i + 1) = (g.sl o).t2 := by rw [hls, if_pos (by omega)]
       exact ⟨k - 1, (i + 1, .slice (some ⟨xb, 0, none⟩) g.bn g.bn, (g.sl o).d2, (g.sl o).t2), by omega, ⟨by simp only; omega, kL, FO.take ho hcan hxe hpk⟩, rfl, rfl, (by rw [els]; rfl), rfl, rfl, rfl, rfl, trivial⟩
      ·have hlx := hlex hj hjb
       have hcp := cp_less (g := g) hlx
       refine wN_g rfl (wN_mov (v := slv fb g.bn g.bn) rfl ?_)
       refine wN_g rfl (wN_pur (v := .bool false) rfl (by kernel_rfl) ?_)
       refine wN_g rfl (wN_mov (v := .bool false) rfl ?_)
       refine wN_g rfl (wN_mov (v := iv ((g.sl o).d2)) rfl ?_)
       refine wN_g rfl (wN_mov (v := iv ((g.sl b).d2)) rfl ?_)
       refine wN_g rfl (wN_b_lss (a := (g.sl o).d2) (b := (g.sl b).d2) rfl rfl ?_)
       intro t9 g9; cases t9
       ·have g9 : ¬ (((g.sl o).d2) < ((g.sl b).d2)) := of_decide_eq_false g9
        refine wN_g rfl (wN_pur (v := .bool false) rfl rfl ?_)
        refine wN_g rfl (wN_mov (v := .bool false) rfl ?_)
        refine wN_g rfl (wN_mov (v := iv ((g.sl o).d2)) rfl ?_)
        refine wN_g rfl (wN_mov (v := iv ((g.sl b).d2)) rfl ?_)
        refine wN_g rfl (wN_b_eql (a := (g.sl o).d2) (b := (g.sl b).d2) rfl rfl ?_)
        intro t10 g10; cases t10
        ·have g10 : ¬ (((g.sl o).d2) = ((g.sl b).d2)) := by simpa using g10
         refine wN_g rfl (wN_mov (v := .bool false) rfl ?_)
         refine wN_gs rfl ?_
         refine wN_gs rfl ?_
         refine wN_gs rfl ?_
         refine wN_gs rfl ?_
         refine wN_gs rfl ?_
         refine wN_g rfl (wN_pur (v := .bool false) rfl rfl ?_)
         refine wN_g rfl (wN_pur (v := .bool false) rfl rfl ?_)
         refine wN_pur (v := .bool false) rfl rfl ?_
         refine wN_end ?_
         refine condF ?_
         have hen : g.ens o = true := by unfold Fh.ens; exact decide_eq_true (by omega)
         have hpk : pick g.ens g.cp (g.bst g.ens g.cp none ((perms g.bn).take i)) o = g.bst g.ens g.cp none ((perms g.bn).take i) := by
          rw [eF]; unfold pick; rw [hen]; simp only [decide_eq_false (fun q => by have := hcp.1 q; omega : ¬ g.cp o b < 0)]; rfl
         first | refine wN_skip ?_ | skip
         first | refine wN_reg ?_ | refine wN_blk ?_ | refine wN_bseq ?_ | (refine wOps_nil ?_; refine wN_reg ?_)
         refine wN_mov (v := iv (i : Int)) rfl ?_
         refine wN_add (a := (i : Int)) (b := 1) rfl rfl ⟨by omega, by omega⟩ ?_
         refine wN_mov (v := iv ((i : Int) + 1)) rfl ?_
         refine wN_end ?_
         have els : lsv g (i + 1) = (g.sl o).t2 := by rw [hls, if_pos (by omega)]
         exact ⟨k - 1, (i + 1, .slice (some ⟨fb, 0, none⟩) g.bn g.bn, (g.sl b).d2, (g.sl b).t2), by omega, ⟨by simp only; omega, kL, hFO.pass ho hcan hpk⟩, rfl, rfl, (by rw [els]; rfl), rfl, rfl, rfl, rfl, trivial⟩
        ·have g10 : ((g.sl o).d2) = ((g.sl b).d2) := by simpa using g10
         refine wN_g rfl (wN_mov (v := .bool true) rfl ?_)
         refine wN_g rfl (wN_addo (b := H3.next) (o := 0) rfl ?_)
         refine wN_g rfl (wN_addo (b := H3.next) (o := 0) rfl ?_)
         refine wN_g rfl (wN_ld (b := H3.next) (o := 1) (v := iv ((g.sl o).t2)) rfl c4.rd rfl ?_)
         refine wN_g rfl (wN_mov (v := iv ((g.sl b).t2)) rfl ?_)
         refine wN_g rfl (wN_b_lss (a := (g.sl o).t2) (b := (g.sl b).t2) rfl rfl ?_)
         intro t11 g11; cases t11
         ·have g11 : ¬ (((g.sl o).t2) < ((g.sl b).t2)) := of_decide_eq_false g11
          refine wN_g rfl (wN_pur (v := .bool false) rfl rfl ?_)
          refine wN_g rfl (wN_pur (v := .bool false) rfl rfl ?_)
          refine wN_pur (v := .bool false) rfl rfl ?_
          refine wN_end ?_
          refine condF ?_
          have hen : g.ens o = true := by unfold Fh.ens; exact decide_eq_true (by omega)
          have hpk : pick g.ens g.cp (g.bst g.ens g.cp none ((perms g.bn).take i)) o = g.bst g.ens g.cp none ((perms g.bn).take i) := by
           rw [eF]; unfold pick; rw [hen]; simp only [decide_eq_false (fun q => by have := hcp.1 q; omega : ¬ g.cp o b < 0)]; rfl
          first | refine wN_skip ?_ | skip
          first | refine wN_reg ?_ | refine wN_blk ?_ | refine wN_bseq ?_ | (refine wOps_nil ?_; refine wN_reg ?_)
          refine wN_mov (v := iv (i : Int)) rfl ?_
          refine wN_add (a := (i : Int)) (b := 1) rfl rfl ⟨by omega, by omega⟩ ?_
          refine wN_mov (v := iv ((i : Int) + 1)) rfl ?_
          refine wN_end ?_
          have els : lsv g (i + 1) = (g.sl o).t2 := by rw [hls, if_pos (by omega)]
          exact ⟨k - 1, (i + 1, .slice (some ⟨fb, 0, none⟩) g.bn g.bn, (g.sl b).d2, (g.sl b).t2), by omega, ⟨by simp only; omega, kL, hFO.pass ho hcan hpk⟩, rfl, rfl, (by rw [els]; rfl), rfl, rfl, rfl, rfl, trivial⟩
         ·have g11 : ((g.sl o).t2) < ((g.sl b).t2) := of_decide_eq_true g11
          refine wN_g rfl (wN_pur (v := .bool true) rfl rfl ?_)
          refine wN_g rfl (wN_pur (v := .bool true) rfl rfl ?_)
          refine wN_pur (v := .bool true) rfl rfl ?_
          refine wN_end ?_
          refine condT ?_
          have hen : g.ens o = true := by unfold Fh.ens; exact decide_eq_true (by omega)
          have hpk : pick g.ens g.cp (g.bst g.ens g.cp none ((perms g.bn).take i)) o = some o := by
           rw [eF]; unfold pick; rw [hen]; simp only [decide_eq_true (hcp.2 (by omega))]; rfl
          refine wN_seq ?_
          refine wN_mov (v := .slice (some ⟨ab, 0, none⟩) ((perms g.bn).length) ((perms g.bn).length)) rfl ?_
          refine wN_mov (v := iv (i : Int)) rfl ?_
          refine wN_idx (b := ab) (o := 0) (k := i) (j := (i : Int)) rfl rfl rfl (by omega) ?_
          refine wN_ld (b := ab) (o := 0 + i * 1) (v := .slice (some ⟨xb, 0, none⟩) g.bn g.bn) rfl hrab.rd (by rw [show 0 + i * 1 = i by omega]; exact hxe) ?_
          refine wN_mov (v := .slice (some ⟨xb, 0, none⟩) g.bn g.bn) rfl ?_
          refine wN_end ?_
          refine wN_seq ?_
          refine wN_mov (v := iv ((g.sl o).d2)) rfl ?_
          refine wN_mov (v := iv ((g.sl o).d2)) rfl ?_
          refine wN_end ?_
          first | refine wN_reg ?_ | refine wN_blk ?_ | refine wN_bseq ?_ | (refine wOps_nil ?_; refine wN_reg ?_)
          refine wN_addo (b := H3.next) (o := 0) rfl ?_
          refine wN_addo (b := H3.next) (o := 0) rfl ?_
          refine wN_ld (b := H3.next) (o := 1) (v := iv ((g.sl o).t2)) rfl c4.rd rfl ?_
          refine wN_mov (v := iv ((g.sl o).t2)) rfl ?_
          refine wN_end ?_
          first | refine wN_reg ?_ | refine wN_blk ?_ | refine wN_bseq ?_ | (refine wOps_nil ?_; refine wN_reg ?_)
          refine wN_mov (v := iv (i : Int)) rfl ?_
          refine wN_add (a := (i : Int)) (b := 1) rfl rfl ⟨by omega, by omega⟩ ?_
          refine wN_mov (v := iv ((i : Int) + 1)) rfl ?_
          refine wN_end ?_
          have els : lsv g (i + 1) = (g.sl o).t2 := by rw [hls, if_pos (by omega)]
          exact ⟨k - 1, (i + 1, .slice (some ⟨xb, 0, none⟩) g.bn g.bn, (g.sl o).d2, (g.sl o).t2), by omega, ⟨by simp only; omega, kL, FO.take ho hcan hxe hpk⟩, rfl, rfl, (by rw [els]; rfl), rfl, rfl, rfl, rfl, trivial⟩
       ·have g9 : ((g.sl o).d2) < ((g.sl b).d2) := of_decide_eq_true g9
        refine wN_g rfl (wN_pur (v := .bool true) rfl rfl ?_)
        refine wN_g rfl (wN_mov (v := .bool true) rfl ?_)
        refine wN_gs rfl ?_
        refine wN_gs rfl ?_
        refine wN_gs rfl ?_
        refine wN_gs rfl ?_
        refine wN_gu rfl ?_
        refine wN_gu rfl ?_
        refine wN_gu rfl ?_
        refine wN_gu rfl ?_
        refine wN_gu rfl ?_
        refine wN_gs rfl ?_
        refine wN_g rfl (wN_pur (v := .bool true) rfl rfl ?_)
        refine wN_pur (v := .bool true) rfl rfl ?_
        refine wN_end ?_
        refine condT ?_
        have hen : g.ens o = true := by unfold Fh.ens; exact decide_eq_true (by omega)
        have hpk : pick g.ens g.cp (g.bst g.ens g.cp none ((perms g.bn).take i)) o = some o := by
         rw [eF]; unfold pick; rw [hen]; simp only [decide_eq_true (hcp.2 (by omega))]; rfl
        refine wN_seq ?_
        refine wN_mov (v := .slice (some ⟨ab, 0, none⟩) ((perms g.bn).length) ((perms g.bn).length)) rfl ?_
        refine wN_mov (v := iv (i : Int)) rfl ?_
        refine wN_idx (b := ab) (o := 0) (k := i) (j := (i : Int)) rfl rfl rfl (by omega) ?_
        refine wN_ld (b := ab) (o := 0 + i * 1) (v := .slice (some ⟨xb, 0, none⟩) g.bn g.bn) rfl hrab.rd (by rw [show 0 + i * 1 = i by omega]; exact hxe) ?_
        refine wN_mov (v := .slice (some ⟨xb, 0, none⟩) g.bn g.bn) rfl ?_
        refine wN_end ?_
        refine wN_seq ?_
        refine wN_mov (v := iv ((g.sl o).d2)) rfl ?_
        refine wN_mov (v := iv ((g.sl o).d2)) rfl ?_
        refine wN_end ?_
        first | refine wN_reg ?_ | refine wN_blk ?_ | refine wN_bseq ?_ | (refine wOps_nil ?_; refine wN_reg ?_)
        refine wN_addo (b := H3.next) (o := 0) rfl ?_
        refine wN_addo (b := H3.next) (o := 0) rfl ?_
        refine wN_ld (b := H3.next) (o := 1) (v := iv ((g.sl o).t2)) rfl c4.rd rfl ?_
        refine wN_mov (v := iv ((g.sl o).t2)) rfl ?_
        refine wN_end ?_
        first | refine wN_reg ?_ | refine wN_blk ?_ | refine wN_bseq ?_ | (refine wOps_nil ?_; refine wN_reg ?_)
        refine wN_mov (v := iv (i : Int)) rfl ?_
        refine wN_add (a := (i : Int)) (b := 1) rfl rfl ⟨by omega, by omega⟩ ?_
        refine wN_mov (v := iv ((i : Int) + 1)) rfl ?_
        refine wN_end ?_
        have els : lsv g (i + 1) = (g.sl o).t2 := by rw [hls, if_pos (by omega)]
        exact ⟨k - 1, (i + 1, .slice (some ⟨xb, 0, none⟩) g.bn g.bn, (g.sl o).d2, (g.sl o).t2), by omega, ⟨by simp only; omega, kL, FO.take ho hcan hxe hpk⟩, rfl, rfl, (by rw [els]; rfl), rfl, rfl, rfl, rfl, trivial⟩
   ·have g2 : (lsv g i) < 0 := of_decide_eq_true g2
    refine wN_mov (v := .bool true) rfl ?_
    refine wN_gs rfl ?_
    refine wN_gs rfl ?_
    refine wN_gs rfl ?_
    refine wN_gs rfl ?_
    refine wN_gs rfl ?_
    refine wN_pur (v := .bool true) rfl rfl ?_
    refine wN_end ?_
    refine condT ?_
    refine wN_seq ?_
    refine wN_addo (b := H3.next) (o := 0) rfl ?_
    refine wN_addo (b := H3.next) (o := 0) rfl ?_
    refine wN_ld (b := H3.next) (o := 1) (v := iv ((g.sl o).t2)) rfl c4.rd rfl ?_
    refine wN_mov (v := iv ((g.sl o).t2)) rfl ?_
    refine wN_end ?_
    refine wN_seq ?_
    refine wN_mov (v := .slice la g.bn lc) rfl ?_
    refine wN_mov (v := .slice la g.bn lc) rfl ?_
    refine wN_len (m := g.bn) rfl ?_
    refine wN_sub (a := (g.bn : Int)) (b := 1) rfl rfl ⟨by omega, by omega⟩ ?_
    rcases id hTl with ⟨_, h0, _⟩ | ⟨xl, el, rl, _⟩
    ·omega
    have ll := rl.lt
    refine wN_idx (b := xl) (o := 0) (k := g.bn - 1) (j := (g.bn : Int) - 1) (by rw [← el]; rfl) rfl (by omega) (by omega) ?_
    refine wN_addo (b := xl) (o := 0 + (g.bn - 1) * 5) rfl ?_
    refine wN_addo (b := xl) (o := 0 + (g.bn - 1) * 5 + 3) rfl ?_
    refine wN_ld (b := xl) (o := 0 + (g.bn - 1) * 5 + 4) (v := iv ((g.sl o).d2)) rfl rl (flc_at' (j := 4) (Fh.fs_at (by omega)) rfl) ?_
    refine wN_mov (v := iv ((g.sl o).d2)) rfl ?_
    refine wN_end ?_
    refine wN_seq ?_
    refine wN_addo (b := H3.next) (o := 0) rfl ?_
    refine wN_addo (b := H3.next) (o := 0) rfl ?_
    refine wN_ld (b := H3.next) (o := 1) (v := iv ((g.sl o).t2)) rfl c4.rd rfl ?_
    refine wN_addo (b := H.next) (o := 0) rfl ?_
    refine wN_ld (b := H.next) (o := 3) (v := iv g.reserve) rfl c1.rd rfl ?_
    refine wN_b_leq (a := (g.sl o).t2) (b := g.reserve) rfl rfl ?_
    intro t12 g12; cases t12
    ·have g12 : ¬ (((g.sl o).t2) ≤ g.reserve) := of_decide_eq_false g12
     refine wN_mov (v := .bool false) rfl ?_
     refine wN_gs rfl ?_
     refine wN_gs rfl ?_
     refine wN_gs rfl ?_
     refine wN_gu rfl ?_
     refine wN_gu rfl ?_
     refine wN_gu rfl ?_
     refine wN_gs rfl ?_
     refine wN_gs rfl ?_
     refine wN_gu rfl ?_
     refine wN_gu rfl ?_
     refine wN_gu rfl ?_
     refine wN_gu rfl ?_
     refine wN_gu rfl ?_
     refine wN_gu rfl ?_
     refine wN_gu rfl ?_
     refine wN_gu rfl ?_
     refine wN_gu rfl ?_
     refine wN_gu rfl ?_
     refine wN_gs rfl ?_
     refine wN_pur (v := .bool false) rfl rfl ?_
     refine wN_end ?_
     refine condF ?_
     have hen : g.ens o = false := by unfold Fh.ens; exact decide_eq_false (by omega)
     have hpk : pick g.ens g.cp (g.bst g.ens g.cp none ((perms g.bn).take i)) o = g.bst g.ens g.cp none ((perms g.bn).take i) := by unfold pick; rw [hen]; cases g.bst g.ens g.cp none ((perms g.bn).take i) <;> rfl
     first | refine wN_skip ?_ | skip
     first | refine wN_reg ?_ | refine wN_blk ?_ | refine wN_bseq ?_ | (refine wOps_nil ?_; refine wN_reg ?_)
     refine wN_mov (v := iv (i : Int)) rfl ?_
     refine wN_add (a := (i : Int)) (b := 1) rfl rfl ⟨by omega, by omega⟩ ?_
     refine wN_mov (v := iv ((i : Int) + 1)) rfl ?_
     refine wN_end ?_
     have els : lsv g (i + 1) = (g.sl o).t2 := by rw [hls, if_pos (by omega)]
     exact ⟨k - 1, (i + 1, fv, en, tk), by omega, ⟨by simp only; omega, kL, hFO.pass ho hcan hpk⟩, rfl, rfl, (by rw [els]; rfl), rfl, rfl, rfl, rfl, trivial⟩
    ·have g12 : ((g.sl o).t2) ≤ g.reserve := of_decide_eq_true g12
     refine wN_mov (v := .bool true) rfl ?_
     rcases hFO.at with ⟨eF, rfl⟩ | ⟨b, j, fb, eF, hj, hjb, hjc, rfl, rfl, rfl⟩
     ·refine wN_g rfl (wN_mov (v := .slice none 0 0) rfl ?_)
      refine wN_g rfl (wN_pur (v := .bool true) rfl (by kernel_rfl) ?_)
      refine wN_g rfl (wN_mov (v := .bool true) rfl ?_)
      refine wN_gs rfl ?_
      refine wN_gs rfl ?_
      refine wN_gs rfl ?_
      refine wN_g rfl (wN_pur (v := .bool true) rfl rfl ?_)
      refine wN_g rfl (wN_mov (v := .bool true) rfl ?_)
      refine wN_gs rfl ?_
      refine wN_gs rfl ?_
      refine wN_gs rfl ?_
      refine wN_gs rfl ?_
      refine wN_gu rfl ?_
      refine wN_gu rfl ?_
      refine wN_gu rfl ?_
      refine wN_gu rfl ?_
      refine wN_gu rfl ?_
      refine wN_gs rfl ?_
      refine wN_g rfl (wN_pur (v := .bool true) rfl rfl ?_)
      refine wN_pur (v := .bool true) rfl rfl ?_
      refine wN_end ?_
      refine condT ?_
      have hen : g.ens o = true := by unfold Fh.ens; exact decide_eq_true (by omega)
      have hpk : pick g.ens g.cp (g.bst g.ens g.cp none ((perms g.bn).take i)) o = some o := by
       rw [eF]; unfold pick; rw [hen]; rfl
      refine wN_seq ?_
      refine wN_mov (v := .slice (some ⟨ab, 0, none⟩) ((perms g.bn).length) ((perms g.bn).length)) rfl ?_
      refine wN_mov (v := iv (i : Int)) rfl ?_
      refine wN_idx (b := ab) (o := 0) (k := i) (j := (i : Int)) rfl rfl rfl (by omega) ?_
      refine wN_ld (b := ab) (o := 0 + i * 1) (v := .slice (some ⟨xb, 0, none⟩) g.bn g.bn) rfl hrab.rd (by rw [show 0 + i * 1 = i by omega]; exact hxe) ?_
      refine wN_mov (v := .slice (some ⟨xb, 0, none⟩) g.bn g.bn) rfl ?_
      refine wN_end ?_
      refine wN_seq ?_
      refine wN_mov (v := iv ((g.sl o).d2)) rfl ?_
      refine wN_mov (v := iv ((g.sl o).d2)) rfl ?_
      refine wN_end ?_
      first | refine wN_reg ?_ | refine wN_blk ?_ | refine wN_bseq ?_ | (refine wOps_nil ?_; refine wN_reg ?_)
      refine wN_addo (b := H3.next) (o := 0) rfl ?_
      refine wN_addo (b := H3.next) (o := 0) rfl ?_
      refine wN_ld (b := H3.next) (o := 1) (v := iv ((g.sl o).t2)) rfl c4.rd rfl ?_
      refine wN_mov (v := iv ((g.sl o).t2)) rfl ?_
      refine wN_end ?_
      first | refine wN_reg ?_ | refine wN_blk ?_ | refine wN_bseq ?_ | (refine wOps_nil ?_; refine wN_reg ?_)
      refine wN_mov (v := iv (i : Int)) rfl ?_
      refine wN_add (a := (i : Int)) (b := 1) rfl rfl ⟨by omega, by omega⟩ ?_
      refine wN_mov (v := iv ((i : Int) + 1)) rfl ?_
      refine wN_end ?_
      have els : lsv g (i + 1) = (g.sl o).t2 := by rw [hls, if_pos (by omega)]
      exact ⟨k - 1, (i + 1, .slice (some ⟨xb, 0, none⟩) g.bn g.bn, (g.sl o).d2, (g.sl o).t2), by omega, ⟨by simp only; omega, kL, FO.take ho hcan hxe hpk⟩, rfl, rfl, (by rw [els]; rfl), rfl, rfl, rfl, rfl, trivial⟩
     ·have hlx := hlex hj hjb
      have hcp := cp_less (g := g) hlx
      refine wN_g rfl (wN_mov (v := slv fb g.bn g.bn) rfl ?_)
      refine wN_g rfl (wN_pur (v := .bool false) rfl (by kernel_rfl) ?_)
      refine wN_g rfl (wN_mov (v := .bool false) rfl ?_)
      refine wN_g rfl (wN_mov (v := iv ((g.sl o).d2)) rfl ?_)
      refine wN_g rfl (wN_mov (v := iv ((g.sl b).d2)) rfl ?_)
      refine wN_g rfl (wN_b_lss (a := (g.sl o).d2) (b := (g.sl b).d2) rfl rfl ?_)
      intro t13 g13; cases t13
      ·have g13 : ¬ (((g.sl o).d2) < ((g.sl b).d2)) := of_decide_eq_false g13
       refine wN_g rfl (wN_pur (v := .bool false) rfl rfl ?_)
       refine wN_g rfl (wN_mov (v := .bool false) rfl ?_)
       refine wN_g rfl (wN_mov (v := iv ((g.sl o).d2)) rfl ?_)
       refine wN_g rfl (wN_mov (v := iv ((g.sl b).d2)) rfl ?_)
       refine wN_g rfl (wN_b_eql (a := (g.sl o).d2) (b := (g.sl b).d2) rfl rfl ?_)
       intro t14 g14; cases t14
       ·have g14 : ¬ (((g.sl o).d2) = ((g.sl b).d2)) := by simpa using g14
        refine wN_g rfl (wN_mov (v := .bool false) rfl ?_)
        refine wN_gs rfl ?_
        refine wN_gs rfl ?_
        refine wN_gs rfl ?_
        refine wN_gs rfl ?_
        refine wN_gs rfl ?_
        refine wN_g rfl (wN_pur (v := .bool false) rfl rfl ?_)
        refine wN_g rfl (wN_pur (v := .bool false) rfl rfl ?_)
        refine wN_pur (v := .bool false) rfl rfl ?_
        refine wN_end ?_
        refine condF ?_
        have hen : g.ens o = true := by unfold Fh.ens; exact decide_eq_true (by omega)
        have hpk : pick g.ens g.cp (g.bst g.ens g.cp none ((perms g.bn).take i)) o = g.bst g.ens g.cp none ((perms g.bn).take i) := by
         rw [eF]; unfold pick; rw [hen]; simp only [decide_eq_false (fun q => by have := hcp.1 q; omega : ¬ g.cp o b < 0)]; rfl
        first | refine wN_skip ?_ | skip
        first | refine wN_reg ?_ | refine wN_blk ?_ | refine wN_bseq ?_ | (refine wOps_nil ?_; refine wN_reg ?_)
        refine wN_mov (v := iv (i : Int)) rfl ?_
        refine wN_add (a := (i : Int)) (b := 1) rfl rfl ⟨by omega, by omega⟩ ?_
        refine wN_mov (v := iv ((i : Int) + 1)) rfl ?_
        refine wN_end ?_
        have els : lsv g (i + 1) = (g.sl o).t2 := by rw [hls, if_pos (by omega)]
        exact ⟨k - 1, (i + 1, .slice (some ⟨fb, 0, none⟩) g.bn g.bn, (g.sl b).d2, (g.sl b).t2), by omega, ⟨by simp only; omega, kL, hFO.pass ho hcan hpk⟩, rfl, rfl, (by rw [els]; rfl), rfl, rfl, rfl, rfl, trivial⟩
       ·have g14 : ((g.sl o).d2) = ((g.sl b).d2) := by simpa using g14
        refine wN_g rfl (wN_mov (v := .bool true) rfl ?_)
        refine wN_g rfl (wN_addo (b := H3.next) (o := 0) rfl ?_)
        refine wN_g rfl (wN_addo (b := H3.next) (o := 0) rfl ?_)
        refine wN_g rfl (wN_ld (b := H3.next) (o := 1) (v := iv ((g.sl o).t2)) rfl c4.rd rfl ?_)
        refine wN_g rfl (wN_mov (v := iv ((g.sl b).t2)) rfl ?_)
        refine wN_g rfl (wN_b_lss (a := (g.sl o).t2) (b := (g.sl b).t2) rfl rfl ?_)
        intro t15 g15; cases t15
        ·have g15 : ¬ (((g.sl o).t2) < ((g.sl b).t2)) := of_decide_eq_false g15
         refine wN_g rfl (wN_pur (v := .bool false) rfl rfl ?_)
         refine wN_g rfl (wN_pur (v := .bool false) rfl rfl ?_)
         refine wN_pur (v := .bool false) rfl rfl ?_
         refine wN_end ?_
         refine condF ?_
         have hen : g.ens o = true := by unfold Fh.ens; exact decide_eq_true (by omega)
         have hpk : pick g.ens g.cp (g.bst g.ens g.cp none ((perms g.bn).take i)) o = g.bst g.ens g.cp none ((perms g.bn).take i) := by
          rw [eF]; unfold pick; rw [hen]; simp only [decide_eq_false (fun q => by have := hcp.1 q; omega : ¬ g.cp o b < 0)]; rfl
         first | refine wN_skip ?_ | skip
         first | refine wN_reg ?_ | refine wN_blk ?_ | refine wN_bseq ?_ | (refine wOps_nil ?_; refine wN_reg ?_)
         refine wN_mov (v := iv (i : Int)) rfl ?_
         refine wN_add (a := (i : Int)) (b := 1) rfl rfl ⟨by omega, by omega⟩ ?_
         refine wN_mov (v := iv ((i : Int) + 1)) rfl ?_
         refine wN_end ?_
         have els : lsv g (i + 1) = (g.sl o).t2 := by rw [hls, if_pos (by omega)]
         exact ⟨k - 1, (i + 1, .slice (some ⟨fb, 0, none⟩) g.bn g.bn, (g.sl b).d2, (g.sl b).t2), by omega, ⟨by simp only; omega, kL, hFO.pass ho hcan hpk⟩, rfl, rfl, (by rw [els]; rfl), rfl, rfl, rfl, rfl, trivial⟩
        ·have g15 : ((g.sl o).t2) < ((g.sl b).t2) := of_decide_eq_true g15
         refine wN_g rfl (wN_pur (v := .bool true) rfl rfl ?_)
         refine wN_g rfl (wN_pur (v := .bool true) rfl rfl ?_)
         refine wN_pur (v := .bool true) rfl rfl ?_
         refine wN_end ?_
         refine condT ?_
         have hen : g.ens o = true := by unfold Fh.ens; exact decide_eq_true (by omega)
         have hpk : pick g.ens g.cp (g.bst g.ens g.cp none ((perms g.bn).take i)) o = some o := by
          rw [eF]; unfold pick; rw [hen]; simp only [decide_eq_true (hcp.2 (by omega))]; rfl
         refine wN_seq ?_
         refine wN_mov (v := .slice (some ⟨ab, 0, none⟩) ((perms g.bn).length) ((perms g.bn).length)) rfl ?_
         refine wN_mov (v := iv (i : Int)) rfl ?_
         refine wN_idx (b := ab) (o := 0) (k := i) (j := (i : Int)) rfl rfl rfl (by omega) ?_
         refine wN_ld (b := ab) (o := 0 + i * 1) (v := .slice (some ⟨xb, 0, none⟩) g.bn g.bn) rfl hrab.rd (by rw [show 0 + i * 1 = i by omega]; exact hxe) ?_
         refine wN_mov (v := .slice (some ⟨xb, 0, none⟩) g.bn g.bn) rfl ?_
         refine wN_end ?_
         refine wN_seq ?_
         refine wN_mov (v := iv ((g.sl o).d2)) rfl ?_
         refine wN_mov (v := iv ((g.sl o).d2)) rfl ?_
         refine wN_end ?_
         first | refine wN_reg ?_ | refine wN_blk ?_ | refine wN_bseq ?_ | (refine wOps_nil ?_; refine wN_reg ?_)
         refine wN_addo (b := H3.next) (o := 0) rfl ?_
         refine wN_addo (b := H3.next) (o := 0) rfl ?_
         refine wN_ld (b := H3.next) (o := 1) (v := iv ((g.sl o).t2)) rfl c4.rd rfl ?_
         refine wN_mov (v := iv ((g.sl o).t2)) rfl ?_
         refine wN_end ?_
         first | refine wN_reg ?_ | refine wN_blk ?_ | refine wN_bseq ?_ | (refine wOps_nil ?_; refine wN_reg ?_)
         refine wN_mov (v := iv (i : Int)) rfl ?_
         refine wN_add (a := (i : Int)) (b := 1) rfl rfl ⟨by omega, by omega⟩ ?_
         refine wN_mov (v := iv ((i : Int) + 1)) rfl ?_
         refine wN_end ?_
         have els : lsv g (i + 1) = (g.sl o).t2 := by rw [hls, if_pos (by omega)]
         exact ⟨k - 1, (i + 1, .slice (some ⟨xb, 0, none⟩) g.bn g.bn, (g.sl o).d2, (g.sl o).t2), by omega, ⟨by simp only; omega, kL, FO.take ho hcan hxe hpk⟩, rfl, rfl, (by rw [els]; rfl), rfl, rfl, rfl, rfl, trivial⟩
      ·have g13 : ((g.sl o).d2) < ((g.sl b).d2) := of_decide_eq_true g13
       refine wN_g rfl (wN_pur (v := .bool true) rfl rfl ?_)
       refine wN_g rfl (wN_mov (v := .bool true) rfl ?_)
       refine wN_gs rfl ?_
       refine wN_gs rfl ?_
       refine wN_gs rfl ?_
       refine wN_gs rfl ?_
       refine wN_gu rfl ?_
       refine wN_gu rfl ?_
       refine wN_gu rfl ?_
       refine wN_gu rfl ?_
       refine wN_gu rfl ?_
       refine wN_gs rfl ?_
       refine wN_g rfl (wN_pur (v := .bool true) rfl rfl ?_)
       refine wN_pur (v := .bool true) rfl rfl ?_
       refine wN_end ?_
       refine condT ?_
       have hen : g.ens o = true := by unfold Fh.ens; exact decide_eq_true (by omega)
       have hpk : pick g.ens g.cp (g.bst g.ens g.cp none ((perms g.bn).take i)) o = some o := by
        rw [eF]; unfold pick; rw [hen]; simp only [decide_eq_true (hcp.2 (by omega))]; rfl
       refine wN_seq ?_
       refine wN_mov (v := .slice (some ⟨ab, 0, none⟩) ((perms g.bn).length) ((perms g.bn).length)) rfl ?_
       refine wN_mov (v := iv (i : Int)) rfl ?_
       refine wN_idx (b := ab) (o := 0) (k := i) (j := (i : Int)) rfl rfl rfl (by omega) ?_
       refine wN_ld (b := ab) (o := 0 + i * 1) (v := .slice (some ⟨xb, 0, none⟩) g.bn g.bn) rfl hrab.rd (by rw [show 0 + i * 1 = i by omega]; exact hxe) ?_
       refine wN_mov (v := .slice (some ⟨xb, 0, none⟩) g.bn g.bn) rfl ?_
       refine wN_end ?_
       refine wN_seq ?_
       refine wN_mov (v := iv ((g.sl o).d2)) rfl ?_
       refine wN_mov (v := iv ((g.sl o).d2)) rfl ?_
       refine wN_end ?_
       first | refine wN_reg ?_ | refine wN_blk ?_ | refine wN_bseq ?_ | (refine wOps_nil ?_; refine wN_reg ?_)
       refine wN_addo (b := H3.next) (o := 0) rfl ?_
       refine wN_addo (b := H3.next) (o := 0) rfl ?_
       refine wN_ld (b := H3.next) (o := 1) (v := iv ((g.sl o).t2)) rfl c4.rd rfl ?_
       refine wN_mov (v := iv ((g.sl o).t2)) rfl ?_
       refine wN_end ?_
       first | refine wN_reg ?_ | refine wN_blk ?_ | refine wN_bseq ?_ | (refine wOps_nil ?_; refine wN_reg ?_)
       refine wN_mov (v := iv (i : Int)) rfl ?_
       refine wN_add (a := (i : Int)) (b := 1) rfl rfl ⟨by omega, by omega⟩ ?_
       refine wN_mov (v := iv ((i : Int) + 1)) rfl ?_
       refine wN_end ?_
       have els : lsv g (i + 1) = (g.sl o).t2 := by rw [hls, if_pos (by omega)]
       exact ⟨k - 1, (i + 1, .slice (some ⟨xb, 0, none⟩) g.bn g.bn, (g.sl o).d2, (g.sl o).t2), by omega, ⟨by simp only; omega, kL, FO.take ho hcan hxe hpk⟩, rfl, rfl, (by rw [els]; rfl), rfl, rfl, rfl, rfl, trivial⟩
  ·refine wD_callh (vs := [.agg g.v.toArray, slv xb g.bn g.bn]) rfl rfl (callX_args fH3) ?_
   refine wD_mov (v := .tuple #[.slice none 0 0, .agg Fs.z.u.toArray, .bool false]) rfl ?_
   refine wD_pur (v := .slice none 0 0) rfl (by kernel_rfl) ?_
   refine wD_pur (v := .agg Fs.z.u.toArray) rfl (by kernel_rfl) ?_
   refine wD_pur (v := .bool false) rfl (by kernel_rfl) ?_
   refine wD_alc ?_
   intro H6 kH6 nH6 c6
   have c6 : Cl H6 H3.next [iv 0, iv 0, iv 0, iv 0, iv 0, iv 0, iv 0, iv 0] := c6
   have mH6 := kH6.1
   have kL := kL.trans kH6
   have hrab := kH6.cl hrab (by simp)
   have hat := hat.keep kH6 (by simp)
   have c1 := kH6.cl c1 (by simp)
   have hxc := kH6.cl hxc (by simp)
   refine wD_mov (v := .slice none 0 0) rfl ?_
   refine wD_sta (b := H3.next) (o := 0) rfl rfl c6 (by omega) rfl rfl (by simp) ?_
   intro H7 kH7 nH7 sH7
   have mH7 := kH7.1
   have kL := kL.new kH7 (fun b hb => by simp at hb ⊢; omega)
   have hrab := kH7.cl hrab (by simp <;> omega)
   have hat := hat.keep kH7 (fun x hx => by first | (simp at hx; done) | (simp at hx; omega))
   have c1 := kH7.cl c1 (by simp <;> omega)
   have hxc := kH7.cl hxc (by simp <;> omega)
   have c6 : Cl H7 H3.next [iv Fs.z.t1, iv Fs.z.t2, iv Fs.z.l1, iv Fs.z.l2, iv Fs.z.s1, iv Fs.z.s2, iv Fs.z.r1, iv Fs.z.r2] := sH7
   refine wD_mov (v := .bool false) rfl ?_
   refine wD_end (by repeat' first | exact True.intro | exact (fun h => h) | refine And.intro ?_ ?_ | (intro h; have h : (_ : Nat) = _ := h; omega)) ?_
   refine wN_seq ?_
   refine wN_mov (v := .bool false) rfl ?_
   refine wN_pur (v := .bool true) rfl rfl ?_
   refine wN_end ?_
   refine condT ?_
   first | (refine wN_exit ?_; show wC _ _ _ _ _ _ _ _ _) | skip
   first | refine wN_reg ?_ | refine wN_blk ?_ | refine wN_bseq ?_ | (refine wOps_nil ?_; refine wN_reg ?_)
   refine wN_mov (v := iv (i : Int)) rfl ?_
   refine wN_add (a := (i : Int)) (b := 1) rfl rfl ⟨by omega, by omega⟩ ?_
   refine wN_mov (v := iv ((i : Int) + 1)) rfl ?_
   refine wN_end ?_
   have els : lsv g (i + 1) = (lsv g i) := lsv_no ho hcan
   exact ⟨k - 1, (i + 1, fv, en, tk), by omega, ⟨by simp only; omega, kL, hFO.no ho hcan⟩, rfl, rfl, (by rw [els]; rfl), rfl, rfl, rfl, rfl, trivial⟩
 ·have q1 : ¬ ((i : Int) < ((perms g.bn).length : Int)) := of_decide_eq_false q1
  have ei : i = (perms g.bn).length := by omega
  subst ei
  have hFO2 := hFO.at
  rw [List.take_length] at hFO2
  first | (refine wN_exit ?_; show wC _ _ _ _ _ _ _ _ _) | skip
  refine wN_seq ?_
  refine wN_mov (v := fv) rfl ?_
  refine wN_mov (v := iv (lsv g (perms g.bn).length)) rfl ?_
  refine wN_mov (v := fv) rfl ?_
  refine wN_mov (v := iv (lsv g (perms g.bn).length)) rfl ?_
  refine wN_end ?_
  refine And.intro trivial (Exists.intro _ (And.intro rfl ⟨hk, fv, rfl, ?_⟩))
  rcases hFO2 with ⟨eF, rfl⟩ | ⟨b, j, fb, eF, hj, hjb, hjc, rfl, _, _⟩
  ·exact .inl ⟨eF, rfl⟩
  ·obtain ⟨xb, e, q⟩ := hrowL j b hjb
   rw [hjc] at e; cases e
   exact .inr ⟨b, fb, eF, rfl, kL.cl q (by simp)⟩
end
end Go.Ax
/-
 Flood: the law FloodBests, whatever the input (written by program).
-/
namespace Go.Ax
open Go Go.RowKit Go.Proofs
theorem lsv_all (g : Fh) : lsv g (perms g.bn).length = match g.lst with | none => -1 | some o => (g.sl o).t2 := by
 unfold lsv; rw [List.take_length]; rfl
theorem ens_lst {g : Fh} {o c : List Nat} (h : g.lst = some o) (hf : g.fst = some c) : g.ens o = true := by
 obtain ⟨h1, h2, h3⟩ := Fh.bst_in (c := c) hf
 unfold Fh.ens at h3 ⊢
 have h3 : (g.sl c).t2 ≤ g.reserve := by simpa using h3
 refine decide_eq_true ?_
 rcases Fh.lst_min h h1 h2 with rfl | q
 ·exact h3
 ·rw [cw_key] at q
  have q : lexC ((g.sl o).t2 :: (g.sl o).d2 :: ((g.sl o).t2 :: zi o)) ((g.sl c).t2 :: (g.sl c).d2 :: ((g.sl c).t2 :: zi c)) < 0 := q
  rw [lex2] at q
  rcases q with q | ⟨q, _⟩ <;> omega
def RB2 (g : Fh) (w : Value) (H : Hp) : Prop := (g.be ≠ 0 ∧ w = .tuple #[.slice none 0 0, iv g.be]) ∨ (g.be = 0 ∧ ∃ sb o, w = .tuple #[slv sb g.bn g.bn, iv 0] ∧ g.fst = some o ∧ Cl H sb (ints (zi o)))
def RL2 (g : Fh) (w : Value) (H : Hp) : Prop := (g.le ≠ 0 ∧ w = .tuple #[iv 0, .slice none 0 0, iv g.le]) ∨ (g.le = 0 ∧ ∃ sb o, w = .tuple #[iv (g.sl o).t2, slv sb g.bn g.bn, iv 0] ∧ g.lst = some o ∧ Cl H sb (ints (zi o)))
section
variable {kn : FuncId → Option Bool} {lo : Nat} {H : Hp}
set_option maxHeartbeats 1000000 in
theorem refBest_ok {g : Fh} {f : Nat} (hat : g.At f H) (h5 : g.ok = true → g.bn ≤ 5) (hlo : lo ≤ H.next) : ∃ w H', FnX Try.prog kn lo 22 [.agg g.v.toArray] H w H' ∧ Keep H H' [] ∧ RB2 g w H' := by
 refine fnX_low (kn := kn) (lo := lo) (H := H) (args := [.agg g.v.toArray]) (Q := fun w H' => Keep H H' [] ∧ RB2 g w H') Try.func22 B22 N22 Z22 L22 (by simp) ?_
 have hfl := hat.le
 have hk := Keep.refl H []
 refine wN_seq ?_
 refine wN_box (v := .agg g.v.toArray) rfl ?_
 intro H1 kH1 nH1 c1
 have c1 : Cl H1 H.next [.slice g.ba g.bn g.bcap, .slice g.ra g.rn g.rcap, iv g.inlet, iv g.reserve, iv g.winds] := c1
 have mH1 := kH1.1
 have hk := hk.trans kH1
 have hat := hat.keep kH1 (by simp)
 refine wN_mov (v := .slice none 0 0) rfl ?_
 refine wN_mov (v := iv 0) rfl ?_
 refine wN_end ?_
 refine wN_seq ?_
 refine wN_lda (b := H.next) (o := 0) rfl c1.rd (show row 5 _ _ = some [.slice g.ba g.bn g.bcap, .slice g.ra g.rn g.rcap, iv g.inlet, iv g.reserve, iv g.winds] from rfl) ?_
 obtain ⟨H2, fH2, kH2⟩ := Harvest_ok (kn := kn) (lo := lo) (H := H1) hat (by omega)
 have mH2 := kH2.1
 have hk := hk.trans kH2
 have hat := hat.keep kH2 (by simp)
 have c1 := kH2.cl c1 (by simp)
 cases hok : g.ok
 ·rw [hok] at fH2
  refine wN_callf (vs := [.agg g.v.toArray]) rfl (callX_args fH2) ?_
  refine wN_pur (v := .bool true) rfl rfl ?_
  refine wN_end ?_
  refine condT ?_
  refine wN_seq ?_
  refine wN_mov (v := .slice none 0 0) rfl ?_
  refine wN_mov (v := iv 1) rfl ?_
  refine wN_end ?_
  exact And.intro trivial (Exists.intro _ (And.intro rfl ⟨hk, .inl ⟨by rw [Fh.be1 hok]; decide, by rw [Fh.be1 hok]; rfl⟩⟩))
 ·rw [hok] at fH2
  have v := Fh.vd hok hat
  have vn := v.n
  have h5 := h5 hok
  refine wN_callf (vs := [.agg g.v.toArray]) rfl (callX_args fH2) ?_
  refine wN_pur (v := .bool false) rfl rfl ?_
  refine wN_end ?_
  refine condF ?_
  first | refine wN_skip ?_ | skip
  refine wN_seq ?_
  refine wN_lda (b := H.next) (o := 0) rfl c1.rd (show row 5 _ _ = some [.slice g.ba g.bn g.bcap, .slice g.ra g.rn g.rcap, iv g.inlet, iv g.reserve, iv g.winds] from rfl) ?_
  obtain ⟨_, H3, fH3, kH3, fv, rfl, hB⟩ := best48_ok (kn := kn) (lo := lo) (H := H2) hat v h5 (by omega)
  have mH3 := kH3.1
  have hk := hk.trans kH3
  have hat := hat.keep kH3 (by simp)
  have c1 := kH3.cl c1 (by simp)
  rw [lsv_all] at fH3
  rcases hcL : g.lst with _ | oL
  ·rw [hcL] at fH3
   refine wN_callf (vs := [.agg g.v.toArray]) (v := .tuple #[fv, iv (-1)]) rfl (callX_args fH3) ?_
   refine wN_mov (v := .tuple #[fv, iv (-1)]) rfl ?_
   refine wN_pur (v := fv) rfl (by kernel_rfl) ?_
   refine wN_pur (v := iv (-1)) rfl (by kernel_rfl) ?_
   refine wN_mov (v := fv) rfl ?_
   refine wN_mov (v := iv (-1)) rfl ?_
   refine wN_end ?_
   refine wN_seq ?_
   refine wN_mov (v := iv (-1)) rfl ?_
   refine wN_c_lss (a := (-1)) (b := 0) rfl rfl ?_
   refine wN_end ?_
   refine condT ?_
   refine wN_seq ?_
   refine wN_mov (v := .slice none 0 0) rfl ?_
   refine wN_mov (v := iv 4) rfl ?_
   refine wN_end ?_
   exact And.intro trivial (Exists.intro _ (And.intro rfl ⟨hk, .inl ⟨by rw [Fh.be4 hok hcL]; decide, by rw [Fh.be4 hok hcL]; rfl⟩⟩))
  ·rw [hcL] at fH3
   obtain ⟨hL1, hL2, _⟩ := Fh.bst_in (c := oL) hcL
   have ht2 := t2_nn v hat hL1 hL2
   refine wN_callf (vs := [.agg g.v.toArray]) (v := .tuple #[fv, iv (g.sl oL).t2]) rfl (callX_args fH3) ?_
   refine wN_mov (v := .tuple #[fv, iv ((g.sl oL).t2)]) rfl ?_
   refine wN_pur (v := fv) rfl (by kernel_rfl) ?_
   refine wN_pur (v := iv ((g.sl oL).t2)) rfl (by kernel_rfl) ?_
   refine wN_mov (v := fv) rfl ?_
   refine wN_mov (v := iv ((g.sl oL).t2)) rfl ?_
   refine wN_end ?_
   refine wN_seq ?_
   refine wN_mov (v := iv ((g.sl oL).t2)) rfl ?_
   refine wN_c_lss (a := (g.sl oL).t2) (b := 0) rfl rfl ?_
   refine wN_end ?_
   refine And.intro (fun q1 => ?_) (fun q1 => ?_)
   ·have q1 : ((g.sl oL).t2) < 0 := of_decide_eq_true q1
    refine wN_seq ?_
    refine wN_mov (v := .slice none 0 0) rfl ?_
    refine wN_mov (v := iv 4) rfl ?_
    refine wN_end ?_
    exfalso; omega
   ·have q1 : ¬ (((g.sl oL).t2) < 0) := of_decide_eq_false q1
    first | refine wN_skip ?_ | skip
    refine wN_seq ?_
    rcases hB with ⟨hF, rfl⟩ | ⟨oF, xb, hF, rfl, hxc⟩
    ·refine wN_mov (v := .slice none 0 0) rfl ?_
     refine wN_pur (v := .bool true) rfl (by kernel_rfl) ?_
     refine wN_end ?_
     refine condT ?_
     refine wN_seq ?_
     refine wN_mov (v := .slice none 0 0) rfl ?_
     refine wN_mov (v := iv 10) rfl ?_
     refine wN_end ?_
     have hen : g.ens oL = false := by
      cases q : g.ens oL with
      | false => rfl
      | true => obtain ⟨c, e⟩ := Fh.fst_some hcL q; rw [e] at hF; cases hF
     exact And.intro trivial (Exists.intro _ (And.intro rfl ⟨hk, .inl ⟨by rw [Fh.be10 hok hcL hen]; decide, by rw [Fh.be10 hok hcL hen]; rfl⟩⟩))
    ·refine wN_mov (v := slv xb g.bn g.bn) rfl ?_
     refine wN_pur (v := .bool false) rfl (by kernel_rfl) ?_
     refine wN_end ?_
     refine condF ?_
     first | refine wN_skip ?_ | skip
     refine wN_seq ?_
     refine wN_mov (v := .slice (some ⟨xb, 0, none⟩) g.bn g.bn) rfl ?_
     refine wN_mov (v := .slice (some ⟨xb, 0, none⟩) g.bn g.bn) rfl ?_
     refine wN_mov (v := iv 0) rfl ?_
     refine wN_end ?_
     exact And.intro trivial (Exists.intro _ (And.intro rfl ⟨hk, .inr ⟨Fh.be0 hok hcL (ens_lst hcL hF), _, _, rfl, hF, hxc⟩⟩))
set_option maxHeartbeats 1000000 in
theorem refLeast_ok {g : Fh} {f : Nat} (hat : g.At f H) (h5 : g.ok = true → g.bn ≤ 5) (hlo : lo ≤ H.next) : ∃ w H', FnX Try.prog kn lo 24 [.agg g.v.toArray] H w H' ∧ Keep H H' [] ∧ RL2 g w H' := by
 refine fnX_low (kn := kn) (lo := lo) (H := H) (args := [.agg g.v.toArray]) (Q := fun w H' => Keep H H' [] ∧ RL2 g w H') Try.func24 B24 N24 Z24 L24 (by simp) ?_
 have hfl := hat.le
 have hk := Keep.refl H []
 refine wN_seq ?_
 refine wN_box (v := .agg g.v.toArray) rfl ?_
 intro H1 kH1 nH1 c1
 have c1 : Cl H1 H.next [.slice g.ba g.bn g.bcap, .slice g.ra g.rn g.rcap, iv g.inlet, iv g.reserve, iv g.winds] := c1
 have mH1 := kH1.1
 have hk := hk.trans kH1
 have hat := hat.keep kH1 (by simp)
 refine wN_mov (v := iv 0) rfl ?_
 refine wN_mov (v := .slice none 0 0) rfl ?_
 refine wN_mov (v := iv 0) rfl ?_
 refine wN_end ?_
 refine wN_seq ?_
 refine wN_lda (b := H.next) (o := 0) rfl c1.rd (show row 5 _ _ = some [.slice g.ba g.bn g.bcap, .slice g.ra g.rn g.rcap, iv g.inlet, iv g.reserve, iv g.winds] from rfl) ?_
 obtain ⟨H2, fH2, kH2⟩ := Harvest_ok (kn := kn) (lo := lo) (H := H1) hat (by omega)
 have mH2 := kH2.1
 have hk := hk.trans kH2
 have hat := hat.keep kH2 (by simp)
 have c1 := kH2.cl c1 (by simp)
 cases hok : g.ok
 ·rw [hok] at fH2
  refine wN_callf (vs := [.agg g.v.toArray]) rfl (callX_args fH2) ?_
  refine wN_pur (v := .bool true) rfl rfl ?_
  refine wN_end ?_
  refine condT ?_
  refine wN_seq ?_
  refine wN_mov (v := iv 0) rfl ?_
  refine wN_mov (v := .slice none 0 0) rfl ?_
  refine wN_mov (v := iv 1) rfl ?_
  refine wN_end ?_
  exact And.intro trivial (Exists.intro _ (And.intro rfl ⟨hk, .inl ⟨by rw [Fh.le1 hok]; decide, by rw [Fh.le1 hok]; rfl⟩⟩))
 ·rw [hok] at fH2
  have v := Fh.vd hok hat
  have vn := v.n
  have h5 := h5 hok
  refine wN_callf (vs := [.agg g.v.toArray]) rfl (callX_args fH2) ?_
  refine wN_pur (v := .bool false) rfl rfl ?_
  refine wN_end ?_
  refine condF ?_
  first | refine wN_skip ?_ | skip
  refine wN_seq ?_
  refine wN_lda (b := H.next) (o := 0) rfl c1.rd (show row 5 _ _ = some [.slice g.ba g.bn g.bcap, .slice g.ra g.rn g.rcap, iv g.inlet, iv g.reserve, iv g.winds] from rfl) ?_
  obtain ⟨_, H3, fH3, kH3, fv, rfl, hB⟩ := best48_ok (kn := kn) (lo := lo) (H := H2) hat v h5 (by omega)
  have mH3 := kH3.1
  have hk := hk.trans kH3
  have hat := hat.keep kH3 (by simp)
  have c1 := kH3.cl c1 (by simp)
  rw [lsv_all] at fH3
  rcases hcL : g.lst with _ | oL
  ·rw [hcL] at fH3
   refine wN_callf (vs := [.agg g.v.toArray]) (v := .tuple #[fv, iv (-1)]) rfl (callX_args fH3) ?_
   refine wN_mov (v := .tuple #[fv, iv (-1)]) rfl ?_
   refine wN_pur (v := fv) rfl (by kernel_rfl) ?_
   refine wN_pur (v := iv (-1)) rfl (by kernel_rfl) ?_
   refine wN_mov (v := fv) rfl ?_
   refine wN_mov (v := iv (-1)) rfl ?_
   refine wN_end ?_
   refine wN_seq ?_
   refine wN_mov (v := iv (-1)) rfl ?_
   refine wN_c_lss (a := (-1)) (b := 0) rfl rfl ?_
   refine wN_end ?_
   refine condT ?_
   refine wN_seq ?_
   refine wN_mov (v := iv 0) rfl ?_
   refine wN_mov (v := .slice none 0 0) rfl ?_
   refine wN_mov (v := iv 4) rfl ?_
   refine wN_end ?_
   exact And.intro trivial (Exists.intro _ (And.intro rfl ⟨hk, .inl ⟨by rw [Fh.le4 hok hcL]; decide, by rw [Fh.le4 hok hcL]; rfl⟩⟩))
  ·rw [hcL] at fH3
   obtain ⟨hL1, hL2, _⟩ := Fh.bst_in (c := oL) hcL
   have ht2 := t2_nn v hat hL1 hL2
   refine wN_callf (vs := [.agg g.v.toArray]) (v := .tuple #[fv, iv (g.sl oL).t2]) rfl (callX_args fH3) ?_
   refine wN_mov (v := .tuple #[fv, iv ((g.sl oL).t2)]) rfl ?_
   refine wN_pur (v := fv) rfl (by kernel_rfl) ?_
   refine wN_pur (v := iv ((g.sl oL).t2)) rfl (by kernel_rfl) ?_
   refine wN_mov (v := fv) rfl ?_
   refine wN_mov (v := iv ((g.sl oL).t2)) rfl ?_
   refine wN_end ?_
   refine wN_seq ?_
   refine wN_mov (v := iv ((g.sl oL).t2)) rfl ?_
   refine wN_c_lss (a := (g.sl oL).t2) (b := 0) rfl rfl ?_
   refine wN_end ?_
   refine And.intro (fun q1 => ?_) (fun q1 => ?_)
   ·have q1 : ((g.sl oL).t2) < 0 := of_decide_eq_true q1
    refine wN_seq ?_
    refine wN_mov (v := iv 0) rfl ?_
    refine wN_mov (v := .slice none 0 0) rfl ?_
    refine wN_mov (v := iv 4) rfl ?_
    refine wN_end ?_
    exfalso; omega
   ·have q1 : ¬ (((g.sl oL).t2) < 0) := of_decide_eq_false q1
    first | refine wN_skip ?_ | skip
    refine wN_seq ?_
    refine wN_mov (v := iv ((g.sl oL).t2)) rfl ?_
    refine wN_addo (b := H.next) (o := 0) rfl ?_
    refine wN_st (b := H.next) (o := 3) rfl rfl c1 (by omega) rfl rfl (by simp) ?_
    intro H4 kH4 nH4 sH4
    have mH4 := kH4.1
    have hk := hk.new kH4 (fun b hb => by simp at hb ⊢; omega)
    have hat := hat.keep kH4 (fun x hx => by first | (simp at hx; done) | (simp at hx; omega))
    have c1 : Cl H4 H.next [.slice g.ba g.bn g.bcap, .slice g.ra g.rn g.rcap, iv g.inlet, iv ((g.sl oL).t2), iv g.winds] := sH4
    refine wN_end ?_
    refine wN_seq ?_
    refine wN_lda (b := H.next) (o := 0) rfl c1.rd (show row 5 _ _ = some [.slice g.ba g.bn g.bcap, .slice g.ra g.rn g.rcap, iv g.inlet, iv ((g.sl oL).t2), iv g.winds] from rfl) ?_
    have hat2 := hat.wr (g.sl oL).t2
    have hok2 : (g.wr (g.sl oL).t2).ok = true := Fh.ok_wr hok ht2.1 (by omega)
    obtain ⟨_, H5, fH5, kH5, fv2, rfl, hB2⟩ := best48_ok (kn := kn) (lo := lo) (H := H4) (g := (g.wr (g.sl oL).t2)) hat2 (Fh.vd hok2 hat2) h5 (by omega)
    have mH5 := kH5.1
    have hk := hk.trans kH5
    have hat := hat.keep kH5 (by simp)
    have c1 := kH5.cl c1 (by simp)
    obtain ⟨xb, rfl, hxc⟩ : ∃ xb, fv2 = slv xb g.bn g.bn ∧ Cl H5 xb (ints (zi oL)) := by
     rcases hB2 with ⟨q, _⟩ | ⟨o2, xb, q, e, c⟩
     ·rw [Fh.fst_wr hcL] at q; cases q
     ·rw [Fh.fst_wr hcL] at q; cases q; exact ⟨xb, e, c⟩
    refine wN_callf (vs := [.agg (g.wr (g.sl oL).t2).v.toArray]) rfl (callX_args fH5) ?_
    refine wN_mov (v := .tuple #[.slice (some ⟨xb, 0, none⟩) g.bn g.bn, iv (lsv (g.wr (g.sl oL).t2) (perms (g.wr (g.sl oL).t2).bn).length)]) rfl ?_
    refine wN_pur (v := .slice (some ⟨xb, 0, none⟩) g.bn g.bn) rfl (by kernel_rfl) ?_
    refine wN_pur (v := iv (lsv (g.wr (g.sl oL).t2) (perms (g.wr (g.sl oL).t2).bn).length)) rfl (by kernel_rfl) ?_
    refine wN_mov (v := .slice (some ⟨xb, 0, none⟩) g.bn g.bn) rfl ?_
    refine wN_mov (v := iv (lsv (g.wr (g.sl oL).t2) (perms (g.wr (g.sl oL).t2).bn).length)) rfl ?_
    refine wN_end ?_
    refine wN_seq ?_
    refine wN_mov (v := iv ((g.sl oL).t2)) rfl ?_
    refine wN_mov (v := .slice (some ⟨xb, 0, none⟩) g.bn g.bn) rfl ?_
    refine wN_mov (v := iv ((g.sl oL).t2)) rfl ?_
    refine wN_mov (v := .slice (some ⟨xb, 0, none⟩) g.bn g.bn) rfl ?_
    refine wN_mov (v := iv 0) rfl ?_
    refine wN_end ?_
    exact And.intro trivial (Exists.intro _ (And.intro rfl ⟨hk, .inr ⟨Fh.le0 hok hcL, _, _, rfl, hcL, hxc⟩⟩))
set_option maxRecDepth 100000 in
set_option maxHeartbeats 4000000 in
theorem law_bests (hkn : kn 13 = some true) {g : Fh} {f : Nat} (hat : g.At f H) (hlo : lo ≤ H.next) : ∃ H', FnX Try.prog kn lo 4 [.agg g.v.toArray] H (.bool true) H' := by
 have key := fnX_low (kn := kn) (lo := lo) (H := H) (args := [.agg g.v.toArray]) (Q := fun w H' => w = .bool true) Try.func4 B4 N4 Z4 L4 (by simp) ?_
 ·obtain ⟨w, H', h, rfl⟩ := key; exact ⟨H', h⟩
 have hfl := hat.le
 refine wN_seq ?_
 refine wN_box (v := .agg g.v.toArray) rfl ?_
 intro H1 kH1 nH1 c1
 have c1 : Cl H1 H.next [.slice g.ba g.bn g.bcap, .slice g.ra g.rn g.rcap, iv g.inlet, iv g.reserve, iv g.winds] := c1
 have mH1 := kH1.1
 have hat := hat.keep kH1 (by simp)
 refine wN_mov (v := .bool false) rfl ?_
 refine wN_end ?_
 refine wN_seq ?_
 refine wN_lda (b := H.next) (o := 0) rfl c1.rd (show row 5 _ _ = some [.slice g.ba g.bn g.bcap, .slice g.ra g.rn g.rcap, iv g.inlet, iv g.reserve, iv g.winds] from rfl) ?_
 obtain ⟨_, H2, fH2, tg, rfl, kH2, hgr⟩ := great_ok (kn := kn) (lo := lo) (H := H1) (q := 5) hat (by omega)
 refine wN_callf (vs := [.agg g.v.toArray, iv 5]) rfl (callX_args fH2) ?_
 have mH2 := kH2.1
 have hat := hat.keep kH2 (by simp)
 have c1 := kH2.cl c1 (by simp)
 cases tg
 ·have hgr := hgr rfl
  have h5 : g.ok = true → g.bn ≤ 5 := fun q => hgr.2.2 (Fh.vd q hat).n.2
  refine wN_end ?_
  refine condF ?_
  first | refine wN_skip ?_ | skip
  refine wN_seq ?_
  refine wN_lda (b := H.next) (o := 0) rfl c1.rd (show row 5 _ _ = some [.slice g.ba g.bn g.bcap, .slice g.ra g.rn g.rcap, iv g.inlet, iv g.reserve, iv g.winds] from rfl) ?_
  obtain ⟨wH3, H3, fH3, kH3, hb⟩ := Best_ok (kn := kn) (lo := lo) (H := H2) hat (by omega)
  have mH3 := kH3.1
  have hat := hat.keep kH3 (by simp)
  have c1 := kH3.cl c1 (by simp)
  rcases hb with ⟨hbe, rfl⟩ | ⟨hbe, hok, s1, o1, rfl, hf1, hord1⟩
  ·refine wN_callf (vs := [.agg g.v.toArray]) rfl (callX_args fH3) ?_
   refine wN_mov (v := .tuple #[.slice none 0 0, iv g.be]) rfl ?_
   refine wN_pur (v := .slice none 0 0) rfl (by kernel_rfl) ?_
   refine wN_pur (v := iv g.be) rfl (by kernel_rfl) ?_
   refine wN_mov (v := .slice none 0 0) rfl ?_
   refine wN_mov (v := iv g.be) rfl ?_
   refine wN_end ?_
   refine wN_seq ?_
   refine wN_lda (b := H.next) (o := 0) rfl c1.rd (show row 5 _ _ = some [.slice g.ba g.bn g.bcap, .slice g.ra g.rn g.rcap, iv g.inlet, iv g.reserve, iv g.winds] from rfl) ?_
   obtain ⟨wH4, H4, fH4, kH4, hb⟩ := refBest_ok (kn := kn) (lo := lo) (H := H3) hat h5 (by omega)
   have mH4 := kH4.1
   have hat := hat.keep kH4 (by simp)
   have c1 := kH4.cl c1 (by simp)
   obtain ⟨_, rfl⟩ := hb.resolve_right (fun q => hbe q.1)
   refine wN_callf (vs := [.agg g.v.toArray]) rfl (callX_args fH4) ?_
   refine wN_mov (v := .tuple #[.slice none 0 0, iv g.be]) rfl ?_
   refine wN_pur (v := .slice none 0 0) rfl (by kernel_rfl) ?_
   refine wN_pur (v := iv g.be) rfl (by kernel_rfl) ?_
   refine wN_mov (v := .slice none 0 0) rfl ?_
   refine wN_mov (v := iv g.be) rfl ?_
   refine wN_end ?_
   refine wN_seq ?_
   refine wN_lda (b := H.next) (o := 0) rfl c1.rd (show row 5 _ _ = some [.slice g.ba g.bn g.bcap, .slice g.ra g.rn g.rcap, iv g.inlet, iv g.reserve, iv g.winds] from rfl) ?_
   obtain ⟨wH5, H5, fH5, kH5, hb⟩ := Least_ok (kn := kn) (lo := lo) (H := H4) hat (by omega)
   have mH5 := kH5.1
   have hat := hat.keep kH5 (by simp)
   have c1 := kH5.cl c1 (by simp)
   rcases hb with ⟨hle, rfl⟩ | ⟨hle, hok3, s3, o3, rfl, hf3, hord3⟩
   ·refine wN_callf (vs := [.agg g.v.toArray]) rfl (callX_args fH5) ?_
    refine wN_mov (v := .tuple #[iv 0, .slice none 0 0, iv g.le]) rfl ?_
    refine wN_pur (v := iv 0) rfl (by kernel_rfl) ?_
    refine wN_pur (v := .slice none 0 0) rfl (by kernel_rfl) ?_
    refine wN_pur (v := iv g.le) rfl (by kernel_rfl) ?_
    refine wN_mov (v := iv 0) rfl ?_
    refine wN_mov (v := .slice none 0 0) rfl ?_
    refine wN_mov (v := iv g.le) rfl ?_
    refine wN_end ?_
    refine wN_seq ?_
    refine wN_lda (b := H.next) (o := 0) rfl c1.rd (show row 5 _ _ = some [.slice g.ba g.bn g.bcap, .slice g.ra g.rn g.rcap, iv g.inlet, iv g.reserve, iv g.winds] from rfl) ?_
    obtain ⟨wH6, H6, fH6, kH6, hb⟩ := refLeast_ok (kn := kn) (lo := lo) (H := H5) hat h5 (by omega)
    have mH6 := kH6.1
    have hat := hat.keep kH6 (by simp)
    have c1 := kH6.cl c1 (by simp)
    obtain ⟨_, rfl⟩ := hb.resolve_right (fun q => hle q.1)
    refine wN_callf (vs := [.agg g.v.toArray]) rfl (callX_args fH6) ?_
    refine wN_mov (v := .tuple #[iv 0, .slice none 0 0, iv g.le]) rfl ?_
    refine wN_pur (v := iv 0) rfl (by kernel_rfl) ?_
    refine wN_pur (v := .slice none 0 0) rfl (by kernel_rfl) ?_
    refine wN_pur (v := iv g.le) rfl (by kernel_rfl) ?_
    refine wN_mov (v := iv 0) rfl ?_
    refine wN_mov (v := .slice none 0 0) rfl ?_
    refine wN_mov (v := iv g.le) rfl ?_
    refine wN_end ?_
    refine wN_seq ?_
    refine wN_mov (v := .slice none 0 0) rfl ?_
    refine wN_mov (v := .slice none 0 0) rfl ?_
    obtain ⟨H7, fH7, kH7⟩ := Ints_ok (kn := kn) (lo := lo) (H := H6) (us := []) (sa := none) (sb := none) (cap := 0) (cap2 := 0) (.inl ⟨.inl rfl, rfl, rfl, rfl⟩) (.inl ⟨.inl rfl, rfl, rfl, rfl⟩) rfl (by decide)
    refine wN_callf (vs := [.slice none 0 0, .slice none 0 0]) rfl (callX_args fH7) ?_
    have mH7 := kH7.1
    have hat := hat.keep kH7 (by simp)
    have c1 := kH7.cl c1 (by simp)
    refine wN_mov (v := .bool true) rfl ?_
    refine wN_g rfl (wN_mov (v := iv g.be) rfl ?_)
    refine wN_g rfl (wN_mov (v := iv g.be) rfl ?_)
    refine wN_g rfl (wN_b_eql (a := g.be) (b := g.be) rfl rfl ?_)
    intro t1 g1; obtain rfl : t1 = true := by rw [← g1]; simp
    refine wN_pur (v := .bool true) rfl rfl ?_
    refine wN_mov (v := .bool true) rfl ?_
    refine wN_g rfl (wN_mov (v := iv 0) rfl ?_)
    refine wN_g rfl (wN_mov (v := iv 0) rfl ?_)
    refine wN_g rfl (wN_b_eql (a := 0) (b := 0) rfl rfl ?_)
    intro t2 g2; obtain rfl : t2 = true := by rw [← g2]; simp
    refine wN_pur (v := .bool true) rfl rfl ?_
    refine wN_mov (v := .bool true) rfl ?_
    refine wN_g rfl (wN_mov (v := .slice none 0 0) rfl ?_)
    refine wN_g rfl (wN_mov (v := .slice none 0 0) rfl ?_)
    obtain ⟨H8, fH8, kH8⟩ := Ints_ok (kn := kn) (lo := lo) (H := H7) (us := []) (sa := none) (sb := none) (cap := 0) (cap2 := 0) (.inl ⟨.inl rfl, rfl, rfl, rfl⟩) (.inl ⟨.inl rfl, rfl, rfl, rfl⟩) rfl (by decide)
    refine wN_g rfl (wN_callf (vs := [.slice none 0 0, .slice none 0 0]) rfl (callX_args fH8) ?_)
    have mH8 := kH8.1
    have hat := hat.keep kH8 (by simp)
    have c1 := kH8.cl c1 (by simp)
    refine wN_pur (v := .bool true) rfl rfl ?_
    refine wN_mov (v := .bool true) rfl ?_
    refine wN_g rfl (wN_mov (v := iv g.le) rfl ?_)
    refine wN_g rfl (wN_mov (v := iv g.le) rfl ?_)
    refine wN_g rfl (wN_b_eql (a := g.le) (b := g.le) rfl rfl ?_)
    intro t3 g3; obtain rfl : t3 = true := by rw [← g3]; simp
    refine wN_pur (v := .bool true) rfl rfl ?_
    refine wN_mov (v := .bool true) rfl ?_
    refine wN_g rfl (wN_callf (vs := []) rfl (callX_known hkn) ?_)
    refine wN_pur (v := .bool true) rfl rfl ?_
    refine wN_mov (v := .bool true) rfl ?_
    refine wN_end ?_
    exact And.intro trivial (Exists.intro _ (And.intro rfl rfl))
   ·have hc3 := hord3.2.1.cl
    have hl3 := hord3.2.2.1
    have vn3 := (Fh.vd hok3 hat).n
    refine wN_callf (vs := [.agg g.v.toArray]) rfl (callX_args fH5) ?_
    refine wN_mov (v := .tuple #[iv ((g.sl o3).t2), .slice (some ⟨s3, 0, none⟩) g.bn g.bn, iv 0]) rfl ?_
    refine wN_pur (v := iv ((g.sl o3).t2)) rfl (by kernel_rfl) ?_
    refine wN_pur (v := .slice (some ⟨s3, 0, none⟩) g.bn g.bn) rfl (by kernel_rfl) ?_
    refine wN_pur (v := iv 0) rfl (by kernel_rfl) ?_
    refine wN_mov (v := iv ((g.sl o3).t2)) rfl ?_
    refine wN_mov (v := .slice (some ⟨s3, 0, none⟩) g.bn g.bn) rfl ?_
    refine wN_mov (v := iv 0) rfl ?_
    refine wN_end ?_
    refine wN_seq ?_
    refine wN_lda (b := H.next) (o := 0) rfl c1.rd (show row 5 _ _ = some [.slice g.ba g.bn g.bcap, .slice g.ra g.rn g.rcap, iv g.inlet, iv g.reserve, iv g.winds] from rfl) ?_
    obtain ⟨wH9, H9, fH9, kH9, hb⟩ := refLeast_ok (kn := kn) (lo := lo) (H := H5) hat h5 (by omega)
    have mH9 := kH9.1
    have hat := hat.keep kH9 (by simp)
    have c1 := kH9.cl c1 (by simp)
    have hc3 := kH9.cl hc3 (by simp)
    obtain ⟨_, s4, o4, rfl, hf4, hc4⟩ := hb.resolve_left (fun q => q.1 hle)
    obtain rfl : o3 = o4 := by rw [hf3] at hf4; cases hf4; rfl
    refine wN_callf (vs := [.agg g.v.toArray]) rfl (callX_args fH9) ?_
    refine wN_mov (v := .tuple #[iv ((g.sl o3).t2), .slice (some ⟨s4, 0, none⟩) g.bn g.bn, iv 0]) rfl ?_
    refine wN_pur (v := iv ((g.sl o3).t2)) rfl (by kernel_rfl) ?_
    refine wN_pur (v := .slice (some ⟨s4, 0, none⟩) g.bn g.bn) rfl (by kernel_rfl) ?_
    refine wN_pur (v := iv 0) rfl (by kernel_rfl) ?_
    refine wN_mov (v := iv ((g.sl o3).t2)) rfl ?_
    refine wN_mov (v := .slice (some ⟨s4, 0, none⟩) g.bn g.bn) rfl ?_
    refine wN_mov (v := iv 0) rfl ?_
    refine wN_end ?_
    refine wN_seq ?_
    refine wN_mov (v := .slice none 0 0) rfl ?_
    refine wN_mov (v := .slice none 0 0) rfl ?_
    obtain ⟨H10, fH10, kH10⟩ := Ints_ok (kn := kn) (lo := lo) (H := H9) (us := []) (sa := none) (sb := none) (cap := 0) (cap2 := 0) (.inl ⟨.inl rfl, rfl, rfl, rfl⟩) (.inl ⟨.inl rfl, rfl, rfl, rfl⟩) rfl (by decide)
    refine wN_callf (vs := [.slice none 0 0, .slice none 0 0]) rfl (callX_args fH10) ?_
    have mH10 := kH10.1
    have hat := hat.keep kH10 (by simp)
    have c1 := kH10.cl c1 (by simp)
    have hc3 := kH10.cl hc3 (by simp)
    have hc4 := kH10.cl hc4 (by simp)
    refine wN_mov (v := .bool true) rfl ?_
    refine wN_g rfl (wN_mov (v := iv g.be) rfl ?_)
    refine wN_g rfl (wN_mov (v := iv g.be) rfl ?_)
    refine wN_g rfl (wN_b_eql (a := g.be) (b := g.be) rfl rfl ?_)
    intro t4 g4; obtain rfl : t4 = true := by rw [← g4]; simp
    refine wN_pur (v := .bool true) rfl rfl ?_
    refine wN_mov (v := .bool true) rfl ?_
    refine wN_g rfl (wN_mov (v := iv ((g.sl o3).t2)) rfl ?_)
    refine wN_g rfl (wN_mov (v := iv ((g.sl o3).t2)) rfl ?_)
    refine wN_g rfl (wN_b_eql (a := (g.sl o3).t2) (b := (g.sl o3).t2) rfl rfl ?_)
    intro t5 g5; obtain rfl : t5 = true := by rw [← g5]; simp
    refine wN_pur (v := .bool true) rfl rfl ?_
    refine wN_mov (v := .bool true) rfl ?_
    refine wN_g rfl (wN_mov (v := .slice (some ⟨s3, 0, none⟩) g.bn g.bn) rfl ?_)
    refine wN_g rfl (wN_mov (v := .slice (some ⟨s4, 0, none⟩) g.bn g.bn) rfl ?_)
    obtain ⟨H11, fH11, kH11⟩ := Ints_ok (kn := kn) (lo := lo) (H := H10) (us := zi o3) (m := g.bn) (hc3.sl (Nat.le_refl _)) (hc4.sl (Nat.le_refl _)) (by rw [zi_len]; exact hl3) (by omega)
    refine wN_g rfl (wN_callf (vs := [slv s3 g.bn g.bn, slv s4 g.bn g.bn]) rfl (callX_args fH11) ?_)
    have mH11 := kH11.1
    have hat := hat.keep kH11 (by simp)
    have c1 := kH11.cl c1 (by simp)
    have hc3 := kH11.cl hc3 (by simp)
    have hc4 := kH11.cl hc4 (by simp)
    refine wN_pur (v := .bool true) rfl rfl ?_
    refine wN_mov (v := .bool true) rfl ?_
    refine wN_g rfl (wN_mov (v := iv 0) rfl ?_)
    refine wN_g rfl (wN_mov (v := iv 0) rfl ?_)
    refine wN_g rfl (wN_b_eql (a := 0) (b := 0) rfl rfl ?_)
    intro t6 g6; obtain rfl : t6 = true := by rw [← g6]; simp
    refine wN_pur (v := .bool true) rfl rfl ?_
    refine wN_mov (v := .bool true) rfl ?_
    refine wN_g rfl (wN_callf (vs := []) rfl (callX_known hkn) ?_)
    refine wN_pur (v := .bool true) rfl rfl ?_
    refine wN_mov (v := .bool true) rfl ?_
    refine wN_end ?_
    exact And.intro trivial (Exists.intro _ (And.intro rfl rfl))
  ·have hc1 := hord1.2.1.cl
   have hl1 := hord1.2.2.1
   refine wN_callf (vs := [.agg g.v.toArray]) rfl (callX_args fH3) ?_
   refine wN_mov (v := .tuple #[.slice (some ⟨s1, 0, none⟩) g.bn g.bn, iv 0]) rfl ?_
   refine wN_pur (v := .slice (some ⟨s1, 0, none⟩) g.bn g.bn) rfl (by kernel_rfl) ?_
   refine wN_pur (v := iv 0) rfl (by kernel_rfl) ?_
   refine wN_mov (v := .slice (some ⟨s1, 0, none⟩) g.bn g.bn) rfl ?_
   refine wN_mov (v := iv 0) rfl ?_
   refine wN_end ?_
   refine wN_seq ?_
   refine wN_lda (b := H.next) (o := 0) rfl c1.rd (show row 5 _ _ = some [.slice g.ba g.bn g.bcap, .slice g.ra g.rn g.rcap, iv g.inlet, iv g.reserve, iv g.winds] from rfl) ?_
   obtain ⟨wH12, H12, fH12, kH12, hb⟩ := refBest_ok (kn := kn) (lo := lo) (H := H3) hat h5 (by omega)
   have mH12 := kH12.1
   have hat := hat.keep kH12 (by simp)
   have c1 := kH12.cl c1 (by simp)
   have hc1 := kH12.cl hc1 (by simp)
   obtain ⟨_, s2, o2, rfl, hf2, hc2⟩ := hb.resolve_left (fun q => q.1 hbe)
   obtain rfl : o1 = o2 := by rw [hf1] at hf2; cases hf2; rfl
   refine wN_callf (vs := [.agg g.v.toArray]) rfl (callX_args fH12) ?_
   refine wN_mov (v := .tuple #[.slice (some ⟨s2, 0, none⟩) g.bn g.bn, iv 0]) rfl ?_
   refine wN_pur (v := .slice (some ⟨s2, 0, none⟩) g.bn g.bn) rfl (by kernel_rfl) ?_
   refine wN_pur (v := iv 0) rfl (by kernel_rfl) ?_
   refine wN_mov (v := .slice (some ⟨s2, 0, none⟩) g.bn g.bn) rfl ?_
   refine wN_mov (v := iv 0) rfl ?_
   refine wN_end ?_
   refine wN_seq ?_
   refine wN_lda (b := H.next) (o := 0) rfl c1.rd (show row 5 _ _ = some [.slice g.ba g.bn g.bcap, .slice g.ra g.rn g.rcap, iv g.inlet, iv g.reserve, iv g.winds] from rfl) ?_
   obtain ⟨wH13, H13, fH13, kH13, hb⟩ := Least_ok (kn := kn) (lo := lo) (H := H12) hat (by omega)
   have mH13 := kH13.1
   have hat := hat.keep kH13 (by simp)
   have c1 := kH13.cl c1 (by simp)
   have hc1 := kH13.cl hc1 (by simp)
   have hc2 := kH13.cl hc2 (by simp)
   rcases hb with ⟨hle, rfl⟩ | ⟨hle, hok3, s3, o3, rfl, hf3, hord3⟩
   ·refine wN_callf (vs := [.agg g.v.toArray]) rfl (callX_args fH13) ?_
    refine wN_mov (v := .tuple #[iv 0, .slice none 0 0, iv g.le]) rfl ?_
    refine wN_pur (v := iv 0) rfl (by kernel_rfl) ?_
    refine wN_pur (v := .slice none 0 0) rfl (by kernel_rfl) ?_
    refine wN_pur (v := iv g.le) rfl (by kernel_rfl) ?_
    refine wN_mov (v := iv 0) rfl ?_
    refine wN_mov (v := .slice none 0 0) rfl ?_
    refine wN_mov (v := iv g.le) rfl ?_
    refine wN_end ?_
    refine wN_seq ?_
    refine wN_lda (b := H.next) (o := 0) rfl c1.rd (show row 5 _ _ = some [.slice g.ba g.bn g.bcap, .slice g.ra g.rn g.rcap, iv g.inlet, iv g.reserve, iv g.winds] from rfl) ?_
    obtain ⟨wH14, H14, fH14, kH14, hb⟩ := refLeast_ok (kn := kn) (lo := lo) (H := H13) hat h5 (by omega)
    have mH14 := kH14.1
    have hat := hat.keep kH14 (by simp)
    have c1 := kH14.cl c1 (by simp)
    have hc1 := kH14.cl hc1 (by simp)
    have hc2 := kH14.cl hc2 (by simp)
    obtain ⟨_, rfl⟩ := hb.resolve_right (fun q => hle q.1)
    refine wN_callf (vs := [.agg g.v.toArray]) rfl (callX_args fH14) ?_
    refine wN_mov (v := .tuple #[iv 0, .slice none 0 0, iv g.le]) rfl ?_
    refine wN_pur (v := iv 0) rfl (by kernel_rfl) ?_
    refine wN_pur (v := .slice none 0 0) rfl (by kernel_rfl) ?_
    refine wN_pur (v := iv g.le) rfl (by kernel_rfl) ?_
    refine wN_mov (v := iv 0) rfl ?_
    refine wN_mov (v := .slice none 0 0) rfl ?_
    refine wN_mov (v := iv g.le) rfl ?_
    refine wN_end ?_
    refine wN_seq ?_
    refine wN_mov (v := .slice (some ⟨s1, 0, none⟩) g.bn g.bn) rfl ?_
    refine wN_mov (v := .slice (some ⟨s2, 0, none⟩) g.bn g.bn) rfl ?_
    obtain ⟨H15, fH15, kH15⟩ := Ints_ok (kn := kn) (lo := lo) (H := H14) (us := zi o1) (m := g.bn) (hc1.sl (Nat.le_refl _)) (hc2.sl (Nat.le_refl _)) (by rw [zi_len]; exact hl1) (by omega)
    refine wN_callf (vs := [slv s1 g.bn g.bn, slv s2 g.bn g.bn]) rfl (callX_args fH15) ?_
    have mH15 := kH15.1
    have hat := hat.keep kH15 (by simp)
    have c1 := kH15.cl c1 (by simp)
    have hc1 := kH15.cl hc1 (by simp)
    have hc2 := kH15.cl hc2 (by simp)
    refine wN_mov (v := .bool true) rfl ?_
    refine wN_g rfl (wN_mov (v := iv 0) rfl ?_)
    refine wN_g rfl (wN_mov (v := iv 0) rfl ?_)
    refine wN_g rfl (wN_b_eql (a := 0) (b := 0) rfl rfl ?_)
    intro t7 g7; obtain rfl : t7 = true := by rw [← g7]; simp
    refine wN_pur (v := .bool true) rfl rfl ?_
    refine wN_mov (v := .bool true) rfl ?_
    refine wN_g rfl (wN_mov (v := iv 0) rfl ?_)
    refine wN_g rfl (wN_mov (v := iv 0) rfl ?_)
    refine wN_g rfl (wN_b_eql (a := 0) (b := 0) rfl rfl ?_)
    intro t8 g8; obtain rfl : t8 = true := by rw [← g8]; simp
    refine wN_pur (v := .bool true) rfl rfl ?_
    refine wN_mov (v := .bool true) rfl ?_
    refine wN_g rfl (wN_mov (v := .slice none 0 0) rfl ?_)
    refine wN_g rfl (wN_mov (v := .slice none 0 0) rfl ?_)
    obtain ⟨H16, fH16, kH16⟩ := Ints_ok (kn := kn) (lo := lo) (H := H15) (us := []) (sa := none) (sb := none) (cap := 0) (cap2 := 0) (.inl ⟨.inl rfl, rfl, rfl, rfl⟩) (.inl ⟨.inl rfl, rfl, rfl, rfl⟩) rfl (by decide)
    refine wN_g rfl (wN_callf (vs := [.slice none 0 0, .slice none 0 0]) rfl (callX_args fH16) ?_)
    have mH16 := kH16.1
    have hat := hat.keep kH16 (by simp)
    have c1 := kH16.cl c1 (by simp)
    have hc1 := kH16.cl hc1 (by simp)
    have hc2 := kH16.cl hc2 (by simp)
    refine wN_pur (v := .bool true) rfl rfl ?_
    refine wN_mov (v := .bool true) rfl ?_
    refine wN_g rfl (wN_mov (v := iv g.le) rfl ?_)
    refine wN_g rfl (wN_mov (v := iv g.le) rfl ?_)
    refine wN_g rfl (wN_b_eql (a := g.le) (b := g.le) rfl rfl ?_)
    intro t9 g9; obtain rfl : t9 = true := by rw [← g9]; simp
    refine wN_pur (v := .bool true) rfl rfl ?_
    refine wN_mov (v := .bool true) rfl ?_
    refine wN_g rfl (wN_callf (vs := []) rfl (callX_known hkn) ?_)
    refine wN_pur (v := .bool true) rfl rfl ?_
    refine wN_mov (v := .bool true) rfl ?_
    refine wN_end ?_
    exact And.intro trivial (Exists.intro _ (And.intro rfl rfl))
   ·have hc3 := hord3.2.1.cl
    have hl3 := hord3.2.2.1
    have vn3 := (Fh.vd hok3 hat).n
    refine wN_callf (vs := [.agg g.v.toArray]) rfl (callX_args fH13) ?_
    refine wN_mov (v := .tuple #[iv ((g.sl o3).t2), .slice (some ⟨s3, 0, none⟩) g.bn g.bn, iv 0]) rfl ?_
    refine wN_pur (v := iv ((g.sl o3).t2)) rfl (by kernel_rfl) ?_
    refine wN_pur (v := .slice (some ⟨s3, 0, none⟩) g.bn g.bn) rfl (by kernel_rfl) ?_
    refine wN_pur (v := iv 0) rfl (by kernel_rfl) ?_
    refine wN_mov (v := iv ((g.sl o3).t2)) rfl ?_
    refine wN_mov (v := .slice (some ⟨s3, 0, none⟩) g.bn g.bn) rfl ?_
    refine wN_mov (v := iv 0) rfl ?_
    refine wN_end ?_
    refine wN_seq ?_
    refine wN_lda (b := H.next) (o := 0) rfl c1.rd (show row 5 _ _ = some [.slice g.ba g.bn g.bcap, .slice g.ra g.rn g.rcap, iv g.inlet, iv g.reserve, iv g.winds] from rfl) ?_
    obtain ⟨wH17, H17, fH17, kH17, hb⟩ := refLeast_ok (kn := kn) (lo := lo) (H := H13) hat h5 (by omega)
    have mH17 := kH17.1
    have hat := hat.keep kH17 (by simp)
    have c1 := kH17.cl c1 (by simp)
    have hc1 := kH17.cl hc1 (by simp)
    have hc2 := kH17.cl hc2 (by simp)
    have hc3 := kH17.cl hc3 (by simp)
    obtain ⟨_, s4, o4, rfl, hf4, hc4⟩ := hb.resolve_left (fun q => q.1 hle)
    obtain rfl : o3 = o4 := by rw [hf3] at hf4; cases hf4; rfl
    refine wN_callf (vs := [.agg g.v.toArray]) rfl (callX_args fH17) ?_
    refine wN_mov (v := .tuple #[iv ((g.sl o3).t2), .slice (some ⟨s4, 0, none⟩) g.bn g.bn, iv 0]) rfl ?_
    refine wN_pur (v := iv ((g.sl o3).t2)) rfl (by kernel_rfl) ?_
    refine wN_pur (v := .slice (some ⟨s4, 0, none⟩) g.bn g.bn) rfl (by kernel_rfl) ?_
    refine wN_pur (v := iv 0) rfl (by kernel_rfl) ?_
    refine wN_mov (v := iv ((g.sl o3).t2)) rfl ?_
    refine wN_mov (v := .slice (some ⟨s4, 0, none⟩) g.bn g.bn) rfl ?_
    refine wN_mov (v := iv 0) rfl ?_
    refine wN_end ?_
    refine wN_seq ?_
    refine wN_mov (v := .slice (some ⟨s1, 0, none⟩) g.bn g.bn) rfl ?_
    refine wN_mov (v := .slice (some ⟨s2, 0, none⟩) g.bn g.bn) rfl ?_
    obtain ⟨H18, fH18, kH18⟩ := Ints_ok (kn := kn) (lo := lo) (H := H17) (us := zi o1) (m := g.bn) (hc1.sl (Nat.le_refl _)) (hc2.sl (Nat.le_refl _)) (by rw [zi_len]; exact hl1) (by omega)
    refine wN_callf (vs := [slv s1 g.bn g.bn, slv s2 g.bn g.bn]) rfl (callX_args fH18) ?_
    have mH18 := kH18.1
    have hat := hat.keep kH18 (by simp)
    have c1 := kH18.cl c1 (by simp)
    have hc1 := kH18.cl hc1 (by simp)
    have hc2 := kH18.cl hc2 (by simp)
    have hc3 := kH18.cl hc3 (by simp)
    have hc4 := kH18.cl hc4 (by simp)
    refine wN_mov (v := .bool true) rfl ?_
    refine wN_g rfl (wN_mov (v := iv 0) rfl ?_)
    refine wN_g rfl (wN_mov (v := iv 0) rfl ?_)
    refine wN_g rfl (wN_b_eql (a := 0) (b := 0) rfl rfl ?_)
    intro t10 g10; obtain rfl : t10 = true := by rw [← g10]; simp
    refine wN_pur (v := .bool true) rfl rfl ?_
    refine wN_mov (v := .bool true) rfl ?_
    refine wN_g rfl (wN_mov (v := iv ((g.sl o3).t2)) rfl ?_)
    refine wN_g rfl (wN_mov (v := iv ((g.sl o3).t2)) rfl ?_)
    refine wN_g rfl (wN_b_eql (a := (g.sl o3).t2) (b := (g.sl o3).t2) rfl rfl ?_)
    intro t11 g11; obtain rfl : t11 = true := by rw [← g11]; simp
    refine wN_pur (v := .bool true) rfl rfl ?_
    refine wN_mov (v := .bool true) rfl ?_
    refine wN_g rfl (wN_mov (v := .slice (some ⟨s3, 0, none⟩) g.bn g.bn) rfl ?_)
    refine wN_g rfl (wN_mov (v := .slice (some ⟨s4, 0, none⟩) g.bn g.bn) rfl ?_)
    obtain ⟨H19, fH19, kH19⟩ := Ints_ok (kn := kn) (lo := lo) (H := H18) (us := zi o3) (m := g.bn) (hc3.sl (Nat.le_refl _)) (hc4.sl (Nat.le_refl _)) (by rw [zi_len]; exact hl3) (by omega)
    refine wN_g rfl (wN_callf (vs := [slv s3 g.bn g.bn, slv s4 g.bn g.bn]) rfl (callX_args fH19) ?_)
    have mH19 := kH19.1
    have hat := hat.keep kH19 (by simp)
    have c1 := kH19.cl c1 (by simp)
    have hc1 := kH19.cl hc1 (by simp)
    have hc2 := kH19.cl hc2 (by simp)
    have hc3 := kH19.cl hc3 (by simp)
    have hc4 := kH19.cl hc4 (by simp)
    refine wN_pur (v := .bool true) rfl rfl ?_
    refine wN_mov (v := .bool true) rfl ?_
    refine wN_g rfl (wN_mov (v := iv 0) rfl ?_)
    refine wN_g rfl (wN_mov (v := iv 0) rfl ?_)
    refine wN_g rfl (wN_b_eql (a := 0) (b := 0) rfl rfl ?_)
    intro t12 g12; obtain rfl : t12 = true := by rw [← g12]; simp
    refine wN_pur (v := .bool true) rfl rfl ?_
    refine wN_mov (v := .bool true) rfl ?_
    refine wN_g rfl (wN_callf (vs := []) rfl (callX_known hkn) ?_)
    refine wN_pur (v := .bool true) rfl rfl ?_
    refine wN_mov (v := .bool true) rfl ?_
    refine wN_end ?_
    exact And.intro trivial (Exists.intro _ (And.intro rfl rfl))
 ·refine wN_end ?_
  refine condT ?_
  refine wN_seq ?_
  refine wN_callf (vs := []) rfl (callX_known hkn) ?_
  refine wN_mov (v := .bool true) rfl ?_
  refine wN_end ?_
  exact And.intro trivial (Exists.intro _ (And.intro rfl rfl))
end
end Go.Ax
namespace Go.Ax
open Go Go.RowKit Go.Proofs Go.ChangeShapes Go.WideShapes Go.Deep
def IntT (P : Program) (t : TypeId) : Prop := ∀ (H : Type) (enc : TypeId × Value → H) (w : World) (base : Nat) (spare : Nat → Bool) (held : Bool) (fuel : Nat) (cs : List Value) (x : DataW H × List MemPlace),
 DataW.trod enc P w base spare held fuel t cs = some x → cs.length = P.cellsOf t ∧ ∀ j, j < cs.length → ∃ n, cs[j]? = some (.int .i64 n)
theorem IntT.int {P : Program} {t : TypeId} (ht : P.underlying t = some (.int .i64)) (hc : P.cellsOf t = 1) : IntT P t := by
 intro H enc w base spare held fuel cs x h
 obtain ⟨n, rfl, _⟩ := DataW.trod_int ht h
 refine ⟨by rw [hc]; rfl, fun j hj => ⟨n, ?_⟩⟩
 have : j = 0 := by simp at hj; omega
 subst this; rfl
theorem IntT.struct {P : Program} {t : TypeId} {fs : Array Field} (ht : P.underlying t = some (.struct fs)) (hf : ∀ f ∈ fs.toList, IntT P f.type)
  (hcov : ((List.range (P.cellsOf t)).all fun j => fs.toList.any fun f => decide (f.offset ≤ j) && decide (j < f.offset + P.cellsOf f.type)) = true) : IntT P t := by
 intro H enc w base spare held fuel cs x h
 obtain ⟨xs, n, _, _, hlen, hxl, hg⟩ := DataW.trod_struct ht h
 refine ⟨hlen, fun j hj => ?_⟩
 have h1 := List.all_eq_true.1 hcov j (List.mem_range.2 (by omega))
 obtain ⟨f, hfm, h2⟩ := List.any_eq_true.1 h1
 simp only [Bool.and_eq_true, decide_eq_true_eq] at h2
 obtain ⟨i, hi, hfi⟩ := List.getElem_of_mem hfm
 have hfs : fs[i]? = some f := by
  rw [← Array.getElem?_toList, List.getElem?_eq_getElem hi, hfi]
 have hi2 : i < xs.length := by simpa [hxl] using hi
 have h3 := hg i f hfs
 rw [List.getElem?_eq_getElem hi2] at h3
 obtain ⟨h4, h5⟩ := hf f hfm _ _ _ _ _ _ _ _ _ h3
 obtain ⟨m, hm⟩ := h5 (j - f.offset) (by omega)
 refine ⟨m, ?_⟩
 rw [List.getElem?_take] at hm
 split at hm
 ·rw [List.getElem?_drop, show f.offset + (j - f.offset) = j by omega] at hm; exact hm
 ·cases hm
structure Given {α : Type} (w : World) (v : Value) (f : α → List Value) (l : List α) (x : Imp) : Prop where
 ok : ∀ (i : Nat) u, x.cs[i]? = some u → w.cell? ⟨x.blk, x.off + i, none⟩ = some u ∧ flat1 u = true
 cs : x.cs = l.flatMap f
 v : (v = .slice none 0 0 ∧ l = []) ∨ ∃ cap, v = .slice (some ⟨x.blk, x.off, none⟩) l.length cap ∧ l.length ≤ cap
theorem flat_get {α : Type} {f : α → List Value} {k : Nat} (hk : 0 < k) : ∀ {l : List α} (_ : ∀ x ∈ l, (f x).length = k) (i : Nat) (u : Value), (l.flatMap f)[i]? = some u → ∃ x, l[i / k]? = some x ∧ (f x)[i % k]? = some u
 | [], _, i, u, h => by simp at h
 | y :: r, hl, i, u, h => by
  have hy := hl y (List.mem_cons_self ..)
  rw [List.flatMap_cons, List.getElem?_append] at h
  split at h
  ·rename_i q
   rw [hy] at q
   refine ⟨y, ?_, ?_⟩
   ·rw [Nat.div_eq_of_lt q]; rfl
   ·rw [Nat.mod_eq_of_lt q]; exact h
  ·rename_i q
   rw [hy] at q h
   obtain ⟨x, h1, h2⟩ := flat_get hk (fun x hx => hl x (List.mem_cons_of_mem _ hx)) _ u h
   refine ⟨x, ?_, ?_⟩
   ·rw [Nat.div_eq_sub_div hk (by omega)]; exact h1
   ·rw [Nat.mod_eq_sub_mod (by omega)]; exact h2
theorem Given.rel {α : Type} {w : World} {v : Value} {f : α → List Value} {l : List α} {x : Imp} (g : Given w v f l x) {r : Ren} {H : Hp} {b : Nat} (hr : r b = some ⟨x.blk, x.off, none⟩) (hb : b < H.next) (hc : cellsOf H b = some x.cs) (hro : H.t.get b = some (.ro x.cs)) :
  ∃ a cap, VR r (.slice a l.length cap) v ∧ Sl H a l.length cap (l.flatMap f) ∧ ∀ b, a = some ⟨b, 0, none⟩ → H.t.get b = some (.ro (l.flatMap f)) := by
 rcases g.v with ⟨rfl, rfl⟩ | ⟨cap, rfl, hl⟩
 ·exact ⟨none, 0, .nilSlice, .inl ⟨.inl rfl, rfl, rfl, rfl⟩, fun b e => by cases e⟩
 ·refine ⟨some ⟨b, 0, none⟩, cap, ?_, .inr ⟨b, rfl, ⟨hb, by rw [hc, g.cs]⟩, hl⟩, fun b' e => by cases e; rw [hro, g.cs]⟩
  have := VR.slice (o := 0) (n := l.length) (c := cap) hr rfl hl
  simpa using this
theorem flat_ints (us : List Int) : us.flatMap (fun x => [iv x]) = ints us := by
 induction us with
 | nil => rfl
 | cons u us ih => rw [List.flatMap_cons, ih]; rfl
end Go.Ax
/-! Slices of rows of plain cells, as arguments. -/
namespace Go.Ax
open Go Go.RowKit Go.Proofs Go.ChangeShapes Go.WideShapes Go.Deep
theorem IntT.row {α : Type} {P : Program} {t : TypeId} {k : Nat} {f : α → List Value} {mk : (Nat → Int) → α} (h : IntT P t) (hc : P.cellsOf t = k) (hmk : ∀ N : Nat → Int, f (mk N) = (List.range k).map fun j => Value.int .i64 (N j))
  {H : Type} {enc : TypeId × Value → H} {w : World} {base : Nat} {spare : Nat → Bool} {held : Bool} (fuel : Nat) (cs : List Value) (x : DataW H × List MemPlace) (hx : DataW.trod enc P w base spare held fuel t cs = some x) : ∃ y : α, cs = f y ∧ True := by
 obtain ⟨h1, h2⟩ := h _ _ _ _ _ _ _ _ _ hx
 have : ∃ N : Nat → Int, ∀ j, j < cs.length → cs[j]? = some (.int .i64 (N j)) := by
  refine ⟨fun j => match cs[j]? with | some (.int _ n) => n | _ => 0, fun j hj => ?_⟩
  obtain ⟨n, hn⟩ := h2 j hj
  simp [hn]
 obtain ⟨N, hN⟩ := this
 refine ⟨mk N, ?_, trivial⟩
 rw [hmk]
 apply List.ext_getElem?
 intro j
 by_cases hj : j < k
 ·rw [hN j (by omega), List.getElem?_map, List.getElem?_range hj]; rfl
 ·rw [List.getElem?_eq_none (by omega), List.getElem?_eq_none (by simp; omega)]
theorem spot_of {w : World} {a : Addr} {v : Value} (h : w.cell? a = some v) : a.spot = none := by
 unfold World.cell? at h
 split at h
 ·cases hs : a.spot with
  | none => rfl
  | some x => rw [hs] at h; simp at h
 ·cases h
theorem add_zero' (a : Addr) : a.add 0 = a := by unfold Addr.add; simp
theorem add_plain (b o n : Nat) : (⟨b, o, none⟩ : Addr).add n = ⟨b, o + n, none⟩ := by
 unfold Addr.add
 by_cases q : n = 0
 ·simp [q]
 ·simp [q]
theorem rows_read {H : Type} {enc : TypeId × Value → H} {P : Program} {w : World} {base : Nat} {held : Bool} {α : Type} {f : α → List Value} {Q : α → Prop} {k : Nat} {t e : TypeId} {fuel : Nat} {v : Value} {x : DataW H × List MemPlace}
  (ht : P.underlying t = some (.slice e)) (hR : ∀ (fuel : Nat) (cs : List Value) (x : DataW H × List MemPlace), DataW.trod enc P w base (fun _ => true) held fuel e cs = some x → ∃ y : α, cs = f y ∧ Q y) (hc : P.cellsOf e = k) (hk : 0 < k) (hfk : ∀ y, (f y).length = k)
  (h : DataW.trod enc P w base (fun _ => true) held fuel t [v] = some x) : ∃ (l : List α), l.length ≤ maxLen ∧ (∀ y ∈ l, Q y) ∧
   (((v = .slice none 0 0 ∨ ∃ a', v = .slice (some a') 0 0) ∧ l = []) ∨ ∃ blk off cap, v = .slice (some ⟨blk, off, none⟩) l.length cap ∧ l.length ≤ cap ∧ ∀ (i : Nat) u, (l.flatMap f)[i]? = some u → w.cell? ⟨blk, off + i, none⟩ = some u) := by
 rcases open_slice ht h with ⟨h0, _⟩ | ⟨a, len, cap, m, n, D, Pl, hcs, hb, hl, hm, hmm, hx, hi⟩
 ·cases h0
  exact ⟨[], by simp, fun y hy => by simp at hy, .inl ⟨.inl rfl, rfl⟩⟩
 cases hcs
 simp only [if_true] at hmm
 subst hmm
 rcases Nat.eq_zero_or_pos m with h0 | h0
 ·subst h0
  have : len = 0 := by omega
  subst this
  exact ⟨[], by simp, fun y hy => by simp at hy, .inl ⟨.inr ⟨_, rfl⟩, rfl⟩⟩
 obtain ⟨blk, off, spot⟩ := a
 have hs : spot = none := by
  obtain ⟨cs', h1, h2⟩ := hi 0 h0
  obtain ⟨y, hy, _⟩ := hR _ _ _ h2
  obtain ⟨_, h5, h6⟩ := World.cells?_some h1
  have h7 := h6 0 (by omega)
  rw [Nat.zero_mul, add_zero', add_zero'] at h7
  have h8 : cs'[0]? = some (cs'[0]'(by omega)) := List.getElem?_eq_getElem _
  rw [h8] at h7
  exact spot_of h7
 subst hs
 have hrow : ∀ i, i < len → ∃ y : α, Q y ∧ ∀ j, j < k → ∃ u, (f y)[j]? = some u ∧ w.cell? ⟨blk, off + (i * k + j), none⟩ = some u := by
  intro i hil
  obtain ⟨cs', h1, h2⟩ := hi i (by omega)
  obtain ⟨y, rfl, hq⟩ := hR _ _ _ h2
  obtain ⟨_, h5, h6⟩ := World.cells?_some h1
  refine ⟨y, hq, fun j hj => ?_⟩
  have h7 := h6 j (by omega)
  have h8 : (f y)[j]? = some ((f y)[j]'(by rw [hfk]; exact hj)) := List.getElem?_eq_getElem _
  rw [h8, hc, add_plain, add_plain, Nat.add_assoc] at h7
  exact ⟨_, h8, h7⟩
 have key : ∀ n, n ≤ len → ∃ l : List α, l.length = n ∧ (∀ y ∈ l, Q y) ∧ ∀ (i : Nat) y, l[i]? = some y → ∀ j, j < k → ∃ u, (f y)[j]? = some u ∧ w.cell? ⟨blk, off + (i * k + j), none⟩ = some u := by
  intro n
  induction n with
  | zero => intro _; exact ⟨[], rfl, fun y hy => by simp at hy, fun i y e => by simp at e⟩
  | succ n ih =>
   intro hn
   obtain ⟨l, h1, hq, h2⟩ := ih (by omega)
   obtain ⟨y, hyq, hy⟩ := hrow n (by omega)
   refine ⟨l ++ [y], by simp [h1], fun z hz => ?_, fun i z e => ?_⟩
   ·simp only [List.mem_append, List.mem_singleton] at hz
    rcases hz with hz | rfl
    ·exact hq z hz
    ·exact hyq
   rw [List.getElem?_append] at e
   split at e
   ·exact h2 i z e
   ·rename_i q
    have : i = n := by have := get_lt e; simp at this; omega
    subst this
    rw [h1, Nat.sub_self] at e
    simp at e; subst e
    exact hy
 obtain ⟨l, hl1, hq, hl2⟩ := key len (Nat.le_refl _)
 refine ⟨l, by omega, hq, .inr ⟨blk, off, m, by rw [hl1], by omega, fun i u hu => ?_⟩⟩
 obtain ⟨y, h1, h2⟩ := flat_get hk (fun y _ => hfk y) i u hu
 have hj : i % k < k := Nat.mod_lt _ hk
 obtain ⟨u', e1, e2⟩ := hl2 _ y h1 _ hj
 rw [h2] at e1; cases e1
 rw [Nat.div_add_mod'] at e2
 exact e2
end Go.Ax
/-! A harvest as an argument: its beds and its rates, and what they hold. -/
namespace Go.Ax
open Go Go.RowKit Go.Proofs Go.ChangeShapes Go.WideShapes Go.Deep
def renOf (imps : List Imp) : Ren := fun b => (imps[b]?).map fun x => ⟨x.blk, x.off, none⟩
theorem imports3 {P : Program} (imps outs : List Imp) (w : World) (h : ∀ x ∈ imps, ∀ (i : Nat) v, x.cs[i]? = some v → w.cell? ⟨x.blk, x.off + i, none⟩ = some v ∧ flat1 v = true)
  (hcs : ∀ x ∈ outs, ∀ (i : Nat) v, x.cs[i]? = some v → ∃ v', w.cell? ⟨x.blk, x.off + i, none⟩ = some v' ∧ VR (renOf imps) v v') :
  ∃ (r : Ren) (H : Hp), Rel P r w.heap.size H w ∧ H.next = (imps ++ outs).length ∧ (∀ b loc, r b = some loc → b < H.next) ∧ Ren.Le (renOf imps) r ∧ ∀ (b : Nat) x, (imps ++ outs)[b]? = some x → r b = some ⟨x.blk, x.off, none⟩ ∧ H.t.get b = some (.ro x.cs) := by
 have hall : ∀ x ∈ imps ++ outs, ∀ (i : Nat) v, x.cs[i]? = some v → ∃ v', w.cell? ⟨x.blk, x.off + i, none⟩ = some v' ∧ VR (renOf imps) v v' := by
  intro x hx i v hv
  rcases List.mem_append.1 hx with hx | hx
  ·obtain ⟨h1, h2⟩ := h x hx i v hv
   exact ⟨v, h1, flat1_vr h2⟩
  ·exact hcs x hx i v hv
 obtain ⟨t, ht⟩ := tr_of (fun b => ((imps ++ outs)[b]?).map fun x => .ro x.cs) (imps ++ outs).length
 have hle : Ren.Le (renOf imps) (fun b => ((imps ++ outs)[b]?).map fun x => ⟨x.blk, x.off, none⟩) := fun b loc e => by
  unfold renOf at e
  have hlt : b < imps.length := by
   rcases Nat.lt_or_ge b imps.length with q | q
   ·exact q
   ·rw [List.getElem?_eq_none q] at e; cases e
  show ((imps ++ outs)[b]?).map _ = _
  rw [List.getElem?_append_left hlt]; exact e
 have hr : ∀ (b : Nat) loc, ((imps ++ outs)[b]?).map (fun x => (⟨x.blk, x.off, none⟩ : Loc)) = some loc → ∃ x, (imps ++ outs)[b]? = some x ∧ b < (imps ++ outs).length ∧ loc = ⟨x.blk, x.off, none⟩ ∧ t.get b = some (.ro x.cs) := by
  intro b loc e
  cases hx : (imps ++ outs)[b]? with
  | none => rw [hx] at e; cases e
  | some x =>
   rw [hx] at e
   simp at e
   have hlt := get_lt hx
   exact ⟨x, rfl, hlt, e.symm, by rw [ht, if_pos hlt, hx]; rfl⟩
 have low : ∀ {g o : Nat} {v : Value}, w.cell? ⟨g, o, none⟩ = some v → g < w.heap.size := fun {g o v} hv => by
  unfold World.cell? at hv
  rcases Nat.lt_or_ge g w.heap.size with q | q
  ·exact q
  ·rw [Array.getElem?_eq_none q] at hv; cases hv
 refine ⟨fun b => ((imps ++ outs)[b]?).map fun x => ⟨x.blk, x.off, none⟩, { next := (imps ++ outs).length, t }, ⟨?_, ?_, ?_, Nat.le_refl _⟩, rfl, ?_, hle, ?_⟩
 ·intro b loc e
  obtain ⟨x, hx, hlt, rfl, hg⟩ := hr b loc e
  refine ⟨hlt, ?_⟩
  show Dm _ _ _ (t.get b)
  rw [hg]
  cases hc : x.cs with
  | nil => exact .inl rfl
  | cons v l =>
   obtain ⟨v', h1, _⟩ := hall x (List.mem_of_getElem? hx) 0 v (by rw [hc]; rfl)
   exact .inr (low h1)
 ·intro b loc o e eo
  obtain ⟨x, hx, hlt, rfl, hg⟩ := hr b loc e
  rw [hg] at eo; cases eo
  refine ⟨rfl, fun i v ev => ?_⟩
  obtain ⟨v', h1, h2⟩ := hall x (List.mem_of_getElem? hx) i v ev
  unfold World.cell? at h1
  simp only at h1
  split at h1
  ·rename_i C e' f hC
   exact ⟨C, e', f, v', hC, by simpa using h1, h2.mono hle⟩
  ·cases h1
 ·intro b b' loc loc' e e' _ hl _
  obtain ⟨x, hx, hlt, rfl, hg⟩ := hr b loc e
  obtain ⟨o, h1, h2, h3⟩ := hl
  have : t.get b = some o := h1
  rw [hg] at this; cases this
  cases h3
 ·intro b loc e
  obtain ⟨x, hx, hlt, rfl, hg⟩ := hr b loc e
  exact hlt
 ·intro b x hx
  have hlt := get_lt hx
  refine ⟨by simp only [hx, Option.map_some], ?_⟩
  show t.get b = _
  rw [ht, if_pos hlt, hx]; rfl
structure GivI {α : Type} (w : World) (v : Value) (f : α → List Value) (l : List α) (x : Imp) : Prop where
 ok : ∀ (i : Nat) u, x.cs[i]? = some u → w.cell? ⟨x.blk, x.off + i, none⟩ = some u ∧ flat1 u = true
 cs : x.cs = l.flatMap f
 v : ((v = .slice none 0 0 ∨ ∃ a', v = .slice (some a') 0 0) ∧ l = []) ∨ ∃ cap, v = .slice (some ⟨x.blk, x.off, none⟩) l.length cap ∧ l.length ≤ cap
theorem givI_of {H : Type} {enc : TypeId × Value → H} {P : Program} {w : World} {base : Nat} {held : Bool} {α : Type} {f : α → List Value} {Q : α → Prop} {k : Nat} {t e : TypeId} {fuel : Nat} {v : Value} {x : DataW H × List MemPlace}
  (ht : P.underlying t = some (.slice e)) (hR : ∀ (fuel : Nat) (cs : List Value) (x : DataW H × List MemPlace), DataW.trod enc P w base (fun _ => true) held fuel e cs = some x → ∃ y : α, cs = f y ∧ Q y) (hc : P.cellsOf e = k) (hk : 0 < k) (hfk : ∀ y, (f y).length = k) (hflat : ∀ y u, u ∈ f y → flat1 u = true)
  (h : DataW.trod enc P w base (fun _ => true) held fuel t [v] = some x) : ∃ (l : List α) (y : Imp), GivI w v f l y := by
 obtain ⟨l, h1, h2, ⟨h3, rfl⟩ | ⟨blk, off, cap, h3, h4, h5⟩⟩ := rows_read ht hR hc hk hfk h
 ·exact ⟨[], ⟨0, 0, []⟩, ⟨fun i u e => by simp at e, rfl, .inl ⟨h3, rfl⟩⟩⟩
 ·refine ⟨l, ⟨blk, off, l.flatMap f⟩, ⟨fun i u hu => ⟨h5 i u hu, ?_⟩, rfl, .inr ⟨cap, h3, h4⟩⟩⟩
  obtain ⟨y, hy, hu'⟩ := List.mem_flatMap.1 (List.mem_of_getElem? hu)
  exact hflat y u hu'
theorem GivI.rel {α : Type} {w : World} {v : Value} {f : α → List Value} {l : List α} {x : Imp} (g : GivI w v f l x) {r : Ren} {b : Nat} (hr : r b = some ⟨x.blk, x.off, none⟩) :
  ∃ a cap, VR r (.slice a l.length cap) v ∧ (∀ y, a = some ⟨y, 0, none⟩ → y = b) ∧ ∀ H : Hp, b < H.next → H.t.get b = some (.ro x.cs) → Sl H a l.length cap (l.flatMap f) := by
 rcases g.v with ⟨rfl | ⟨a', rfl⟩, rfl⟩ | ⟨cap, rfl, hl⟩
 ·exact ⟨none, 0, .nilSlice, fun y e => by (cases e), fun H _ _ => .inl ⟨.inl rfl, rfl, rfl, rfl⟩⟩
 ·exact ⟨some ⟨0, 0, some 0⟩, 0, .weird, fun y e => by (cases e), fun H _ _ => .inl ⟨.inr rfl, rfl, rfl, rfl⟩⟩
 ·refine ⟨some ⟨b, 0, none⟩, cap, ?_, fun y e => by (cases e; rfl), fun H hb hc => .inr ⟨b, rfl, ⟨hb, by unfold cellsOf; rw [hc, g.cs]⟩, hl⟩⟩
  have := VR.slice (o := 0) (n := l.length) (c := cap) hr rfl hl
  simpa using this
structure BV where
 need : Int
 l1 : Int
 l2 : Int
 wv : Value
 ws : List (Int × Int)
 x : Imp
def BV.f (b : BV) : List Value := [iv b.need, iv b.l1, iv b.l2, b.wv]
def BV.Q (w : World) (b : BV) : Prop := GivI w b.wv (fun s : Int × Int => [iv s.1, iv s.2]) b.ws b.x
structure RV where
 rv : Value
 l : List Int
 x : Imp
def RV.f (r : RV) : List Value := [r.rv]
def RV.Q (w : World) (r : RV) : Prop := GivI w r.rv (fun n : Int => [iv n]) r.l r.x
theorem bogs_abs {w : World} {imps : List Imp} : ∀ (L : List BV) (pre post : List Imp), imps = pre ++ L.map BV.x ++ post → (∀ b ∈ L, b.Q w) → ∃ bs : List Bg, bs.length = L.length ∧ LR (renOf imps) (bgc bs) (L.flatMap BV.f) ∧
  ∀ (H : Hp) (f : Nat), imps.length ≤ f → (∀ (b : Nat) x, imps[b]? = some x → b < H.next ∧ H.t.get b = some (.ro x.cs)) → ∀ b ∈ bs, Sl H b.wa b.wn b.wcap (spc b.ws) ∧ b.ws.length = b.wn ∧ ∀ x, b.wa = some ⟨x, 0, none⟩ → x < f
 | [], _, _, _, _ => ⟨[], rfl, .nil, fun _ _ _ _ b hb => by simp at hb⟩
 | b :: L, pre, post, he, hq => by
  obtain ⟨bs, e1, e2, e3⟩ := bogs_abs (imps := imps) L (pre ++ [b.x]) post (by rw [he]; simp) (fun x hx => hq x (List.mem_cons_of_mem _ hx))
  have q := hq b (List.mem_cons_self ..)
  have i1 : imps[pre.length]? = some b.x := by rw [he]; simp
  obtain ⟨a1, c1, r1, y1, l1⟩ := GivI.rel q (r := renOf imps) (b := pre.length) (by unfold renOf; rw [i1]; rfl)
  refine ⟨⟨b.need, b.l1, b.l2, a1, b.ws.length, c1, b.ws⟩ :: bs, by simp [e1], ?_, fun H f hf hH x hx => ?_⟩
  ·show LR (renOf imps) (iv b.need :: iv b.l1 :: iv b.l2 :: .slice a1 b.ws.length c1 :: bgc bs) (iv b.need :: iv b.l1 :: iv b.l2 :: b.wv :: L.flatMap BV.f)
   exact .cons (.int _ _) (.cons (.int _ _) (.cons (.int _ _) (.cons r1 e2)))
  ·simp only [List.mem_cons] at hx
   rcases hx with rfl | hx
   ·obtain ⟨b1, d1⟩ := hH _ _ i1
    exact ⟨l1 H b1 d1, rfl, fun x e => by have := y1 x e; have := get_lt i1; omega⟩
   ·exact e3 H f hf hH x hx
theorem rates_abs {w : World} {imps : List Imp} : ∀ (L : List RV) (pre post : List Imp), imps = pre ++ L.map RV.x ++ post → (∀ b ∈ L, b.Q w) → ∃ bs : List Rw, bs.length = L.length ∧ LR (renOf imps) (rwc bs) (L.flatMap RV.f) ∧
  ∀ (H : Hp) (f : Nat), imps.length ≤ f → (∀ (b : Nat) x, imps[b]? = some x → b < H.next ∧ H.t.get b = some (.ro x.cs)) → ∀ b ∈ bs, Sl H b.ra b.n b.cap (ints b.l) ∧ b.l.length = b.n ∧ ∀ x, b.ra = some ⟨x, 0, none⟩ → x < f
 | [], _, _, _, _ => ⟨[], rfl, .nil, fun _ _ _ _ b hb => by simp at hb⟩
 | b :: L, pre, post, he, hq => by
  obtain ⟨bs, e1, e2, e3⟩ := rates_abs (imps := imps) L (pre ++ [b.x]) post (by rw [he]; simp) (fun x hx => hq x (List.mem_cons_of_mem _ hx))
  have q := hq b (List.mem_cons_self ..)
  have i1 : imps[pre.length]? = some b.x := by rw [he]; simp
  obtain ⟨a1, c1, r1, y1, l1⟩ := GivI.rel q (r := renOf imps) (b := pre.length) (by unfold renOf; rw [i1]; rfl)
  refine ⟨⟨a1, b.l.length, c1, b.l⟩ :: bs, by simp [e1], ?_, fun H f hf hH x hx => ?_⟩
  ·show LR (renOf imps) (.slice a1 b.l.length c1 :: rwc bs) (b.rv :: L.flatMap RV.f)
   exact .cons r1 e2
  ·simp only [List.mem_cons] at hx
   rcases hx with rfl | hx
   ·obtain ⟨b1, d1⟩ := hH _ _ i1
    exact ⟨by rw [← flat_ints]; exact l1 H b1 d1, rfl, fun x e => by have := y1 x e; have := get_lt i1; omega⟩
   ·exact e3 H f hf hH x hx
structure GivO {α : Type} (w : World) (v : Value) (f : α → List Value) (l : List α) (x : Imp) : Prop where
 cs : ∀ (i : Nat) u, (l.flatMap f)[i]? = some u → w.cell? ⟨x.blk, x.off + i, none⟩ = some u
 v : ((v = .slice none 0 0 ∨ ∃ a', v = .slice (some a') 0 0) ∧ l = []) ∨ ∃ cap, v = .slice (some ⟨x.blk, x.off, none⟩) l.length cap ∧ l.length ≤ cap
theorem givO_rel {α : Type} {w : World} {v : Value} {f : α → List Value} {l : List α} {x : Imp} (g : GivO w v f l x) {r : Ren} {H : Hp} {b n : Nat} {cs : List Value} (hr : r b = some ⟨x.blk, x.off, none⟩) (hb : b < H.next) (hg : H.t.get b = some (.ro cs)) (hn : n = l.length) (h0 : l = [] → cs = []) :
  ∃ a cap, VR r (.slice a n cap) v ∧ Sl H a n cap cs := by
 subst hn
 rcases g.v with ⟨rfl | ⟨a', rfl⟩, rfl⟩ | ⟨cap, rfl, hl⟩
 ·exact ⟨none, 0, .nilSlice, .inl ⟨.inl rfl, rfl, rfl, h0 rfl⟩⟩
 ·exact ⟨some ⟨0, 0, some 0⟩, 0, .weird, .inl ⟨.inr rfl, rfl, rfl, h0 rfl⟩⟩
 ·refine ⟨some ⟨b, 0, none⟩, cap, ?_, .inr ⟨b, rfl, ⟨hb, by unfold cellsOf; rw [hg]⟩, hl⟩⟩
  have := VR.slice (o := 0) (n := l.length) (c := cap) hr rfl hl
  simpa using this
structure HG (w : World) (s1 s2 : Value) (L1 : List BV) (L2 : List RV) (x1 x2 : Imp) : Prop where
 g1 : GivO w s1 BV.f L1 x1
 g2 : GivO w s2 RV.f L2 x2
 q1 : ∀ b ∈ L1, b.Q w
 q2 : ∀ b ∈ L2, b.Q w
theorem imports_harvest {P : Program} (pre : List Imp) {w : World} {s1 s2 : Value} {L1 : List BV} {L2 : List RV} {x1 x2 : Imp} (hg : HG w s1 s2 L1 L2 x1 x2) (inlet reserve winds : Int) (h : ∀ x ∈ pre, ∀ (i : Nat) v, x.cs[i]? = some v → w.cell? ⟨x.blk, x.off + i, none⟩ = some v ∧ flat1 v = true) :
  ∃ (r : Ren) (H : Hp) (g : Fh), Rel P r w.heap.size H w ∧ (∀ b loc, r b = some loc → b < H.next) ∧ (∀ (b : Nat) x, pre[b]? = some x → b < H.next ∧ r b = some ⟨x.blk, x.off, none⟩ ∧ H.t.get b = some (.ro x.cs)) ∧ g.At H.next H ∧ g.inlet = inlet ∧ g.reserve = reserve ∧ g.winds = winds ∧
   VR r (.slice g.ba g.bn g.bcap) s1 ∧ VR r (.slice g.ra g.rn g.rcap) s2 := by
 obtain ⟨bs, b1, b2, b3⟩ := bogs_abs (w := w) (imps := pre ++ L1.map BV.x ++ L2.map RV.x) L1 pre (L2.map RV.x) rfl hg.q1
 obtain ⟨rs, r1, r2, r3⟩ := rates_abs (w := w) (imps := pre ++ L1.map BV.x ++ L2.map RV.x) L2 (pre ++ L1.map BV.x) [] (by simp) hg.q2
 obtain ⟨imps, himps⟩ : ∃ imps, imps = pre ++ L1.map BV.x ++ L2.map RV.x := ⟨_, rfl⟩
 rw [← himps] at b2 b3 r2 r3
 have himp : ∀ x ∈ imps, ∀ (i : Nat) v, x.cs[i]? = some v → w.cell? ⟨x.blk, x.off + i, none⟩ = some v ∧ flat1 v = true := by
  intro x hx
  rw [himps] at hx
  simp only [List.mem_append, List.mem_map] at hx
  rcases hx with (hx | ⟨y, hy, rfl⟩) | ⟨y, hy, rfl⟩
  ·exact h x hx
  ·exact (hg.q1 y hy).ok
  ·exact (hg.q2 y hy).ok
 have side : ∀ {α : Type} {v : Value} {f : α → List Value} {l : List α} {x : Imp} {cs : List Value}, GivO w v f l x → LR (renOf imps) cs (l.flatMap f) → ∀ (i : Nat) u, cs[i]? = some u → ∃ v', w.cell? ⟨x.blk, x.off + i, none⟩ = some v' ∧ VR (renOf imps) u v' := by
  intro α v f l x cs gv hl i u hu
  have hlt := get_lt hu
  have hlt2 : i < (l.flatMap f).length := by rw [← hl.1]; exact hlt
  have hu2 := List.getElem?_eq_getElem hlt2
  exact ⟨_, gv.cs i _ hu2, hl.2 i u _ hu hu2⟩
 obtain ⟨r, H, h1, h2, h3, h4, h5⟩ := imports3 (P := P) imps [⟨x1.blk, x1.off, bgc bs⟩, ⟨x2.blk, x2.off, rwc rs⟩] w himp (by
  intro x hx i u hu
  simp only [List.mem_cons, List.not_mem_nil, or_false] at hx
  rcases hx with rfl | rfl
  ·exact side hg.g1 b2 i u hu
  ·exact side hg.g2 r2 i u hu)
 have hnx : H.next = imps.length + 2 := by rw [h2]; simp
 have hg5 : ∀ (b : Nat) x, imps[b]? = some x → r b = some ⟨x.blk, x.off, none⟩ ∧ H.t.get b = some (.ro x.cs) := fun b x hx => h5 b x (by rw [List.getElem?_append_left (get_lt hx)]; exact hx)
 have hH : ∀ (b : Nat) x, imps[b]? = some x → b < H.next ∧ H.t.get b = some (.ro x.cs) := fun b x hx => ⟨by have := get_lt hx; omega, (hg5 b x hx).2⟩
 obtain ⟨o1, p1⟩ := h5 imps.length ⟨x1.blk, x1.off, bgc bs⟩ (by simp)
 obtain ⟨o2, p2⟩ := h5 (imps.length + 1) ⟨x2.blk, x2.off, rwc rs⟩ (by simp)
 obtain ⟨a1, c1, v1, s1'⟩ := givO_rel hg.g1 o1 (by omega) p1 b1 (fun e => by have : bs = [] := List.eq_nil_of_length_eq_zero (by rw [b1, e]; rfl); rw [this]; rfl)
 obtain ⟨a2, c2, v2, s2'⟩ := givO_rel hg.g2 o2 (by omega) p2 r1 (fun e => by have : rs = [] := List.eq_nil_of_length_eq_zero (by rw [r1, e]; rfl); rw [this]; rfl)
 refine ⟨r, H, ⟨a1, bs.length, c1, bs, a2, rs.length, c2, rs, inlet, reserve, winds⟩, h1, h3, fun b x hx => ?_, ?_, rfl, rfl, rfl, v1, v2⟩
 ·have hx2 : imps[b]? = some x := by rw [himps, List.append_assoc, List.getElem?_append_left (get_lt hx)]; exact hx
  exact ⟨(hH b x hx2).1, hg5 b x hx2⟩
 ·exact ⟨Nat.le_refl _, s1', s2', rfl, rfl, fun x e => s1'.old x e, fun x e => s2'.old x e, b3 H H.next (by omega) hH, r3 H H.next (by omega) hH⟩
end Go.Ax

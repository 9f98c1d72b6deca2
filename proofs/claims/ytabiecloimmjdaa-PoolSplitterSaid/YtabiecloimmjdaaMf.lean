import Derived.Test.YtabiecloimmjdaaMe
set_option linter.all false
/-
 Pool: what is valid (written by program).
-/
namespace Go.Ax
open Go Go.RowKit Go.Proofs

theorem i24s : ∃ i, Try.prog.info? 24 = some i ∧ i.size = 2 := by
 have h : (Try.prog.info? 24).map (fun i => i.size) = some 2 := by kernel_rfl
 cases e : Try.prog.info? 24 with
 | none => rw [e] at h; cases h
 | some i => rw [e] at h; simp at h; exact ⟨i, rfl, h⟩
theorem a24 : isAggB Try.prog 24 = some true := by kernel_rfl
theorem i50s : ∃ i, Try.prog.info? 50 = some i ∧ i.size = 5 := by
 have h : (Try.prog.info? 50).map (fun i => i.size) = some 5 := by kernel_rfl
 cases e : Try.prog.info? 50 with
 | none => rw [e] at h; cases h
 | some i => rw [e] at h; simp at h; exact ⟨i, rfl, h⟩
theorem a50 : isAggB Try.prog 50 = some true := by kernel_rfl
theorem i70s : ∃ i, Try.prog.info? 70 = some i ∧ i.size = 3 := by
 have h : (Try.prog.info? 70).map (fun i => i.size) = some 3 := by kernel_rfl
 cases e : Try.prog.info? 70 with
 | none => rw [e] at h; cases h
 | some i => rw [e] at h; simp at h; exact ⟨i, rfl, h⟩
theorem a70 : isAggB Try.prog 70 = some true := by kernel_rfl
theorem res_cell {P : Program} {S : Rg} {H : Hp} {a x n : Nat} {t : TypeId} {cs : List Value} (ha : lk S a = some (.pointer (some ⟨x, 0, none⟩))) (h1 : isAggB P t = some true) (hi : ∃ i, P.info? t = some i ∧ i.size = n) (hl : cs.length = n) (h : Cl H x cs) : resS P S H [.cell a t] = some [.agg cs.toArray] := by
 simp only [resS, ha, load_agg h1 hi h.rd hl]
def inB (n a b : Int) : Bool := decide (a ≤ n) && decide (n ≤ b)
theorem inB_t {n a b : Int} (h : inB n a b = true) : a ≤ n ∧ n ≤ b := by simpa [inB] using h
theorem inB_f {n a b : Int} (h : inB n a b = false) : ¬ (a ≤ n ∧ n ≤ b) := by
 intro q; simp [inB] at h; omega
structure Pr where
 g : Int
 c : Int
def Pr.z : Pr := ⟨0, 0⟩
def Pr.f (p : Pr) : List Value := [iv p.g, iv p.c]
def prc (l : List Pr) : List Value := l.flatMap Pr.f
structure Dl where
 r : Int
 g : Int
 c : Int
def Dl.z : Dl := ⟨0, 0, 0⟩
def Dl.f (d : Dl) : List Value := [iv d.r, iv d.g, iv d.c]
def dlc (l : List Dl) : List Value := l.flatMap Dl.f
theorem getD_at {α : Type} {l : List α} {i : Nat} {z : α} (h : i < l.length) : l[i]? = some (l.getD i z) := by
 rw [List.getD_eq_getElem?_getD, List.getElem?_eq_getElem h]; rfl
theorem prc_rowF {us : List Pr} {i : Nat} (h : i < us.length) : row 2 (prc us) (0 + i * 2) = some (us.getD i Pr.z).f := row_flat (f := Pr.f) (fun _ _ => rfl) (getD_at h)
theorem dlc_rowF {ds : List Dl} {i : Nat} (h : i < ds.length) : row 3 (dlc ds) (0 + i * 3) = some (ds.getD i Dl.z).f := row_flat (f := Dl.f) (fun _ _ => rfl) (getD_at h)
def badP (p : Pr) : Bool := !inB p.g 0 131072 || !inB p.c 0 512
def badD (d : Dl) : Bool := !inB d.r 0 1023 || !inB d.g 0 134217728 || !inB d.c 0 (d.g * 255)
def vT (us : List Pr) (adv : Int) : Bool := decide (1 ≤ us.length) && decide (us.length ≤ 8) && !us.any badP && inB adv 0 1000
def vD (ds : List Dl) : Bool := decide (ds.length ≤ 128) && !ds.any badD
theorem any_false {α : Type} {l : List α} {p : α → Bool} {z : α} (h : ∀ j, j < l.length → p (l.getD j z) = false) : l.any p = false := by
 rw [List.any_eq_false]
 intro x hx
 obtain ⟨i, hi, e⟩ := List.mem_iff_getElem.1 hx
 have := h i hi
 rw [List.getD_eq_getElem?_getD, List.getElem?_eq_getElem hi] at this
 simp at this
 rw [← e, this]; simp
theorem any_true {α : Type} {l : List α} {p : α → Bool} {z : α} {j : Nat} (hj : j < l.length) (h : p (l.getD j z) = true) : l.any p = true := by
 rw [List.any_eq_true]
 rw [List.getD_eq_getElem?_getD, List.getElem?_eq_getElem hj] at h
 exact ⟨_, List.getElem_mem hj, h⟩
theorem any_at {α : Type} {l : List α} {p : α → Bool} {z : α} (h : l.any p = false) {j : Nat} (hj : j < l.length) : p (l.getD j z) = false := by
 rw [List.any_eq_false] at h
 have := h _ (List.getElem_mem hj)
 rw [List.getD_eq_getElem?_getD, List.getElem?_eq_getElem hj]
 simpa using this
theorem badP_t {p : Pr} (h : badP p = false) : 0 ≤ p.g ∧ p.g ≤ 131072 ∧ 0 ≤ p.c ∧ p.c ≤ 512 := by
 simp only [badP, Bool.or_eq_false_iff, Bool.not_eq_false'] at h
 have a := inB_t h.1
 have b := inB_t h.2
 omega
theorem badD_t {d : Dl} (h : badD d = false) : 0 ≤ d.r ∧ d.r ≤ 1023 ∧ 0 ≤ d.g ∧ d.g ≤ 134217728 ∧ 0 ≤ d.c ∧ d.c ≤ d.g * 255 := by
 simp only [badD, Bool.or_eq_false_iff, Bool.not_eq_false'] at h
 have a := inB_t h.1.1
 have b := inB_t h.1.2
 have c := inB_t h.2
 omega
theorem vT_t {us : List Pr} {adv : Int} (h : vT us adv = true) : 1 ≤ us.length ∧ us.length ≤ 8 ∧ us.any badP = false ∧ 0 ≤ adv ∧ adv ≤ 1000 := by
 simp only [vT, Bool.and_eq_true, decide_eq_true_eq, Bool.not_eq_true'] at h
 have a := inB_t h.2
 exact ⟨h.1.1.1, h.1.1.2, h.1.2, a.1, a.2⟩
theorem vD_t {ds : List Dl} (h : vD ds = true) : ds.length ≤ 128 ∧ ds.any badD = false := by
 simp only [vD, Bool.and_eq_true, decide_eq_true_eq, Bool.not_eq_true'] at h
 exact h
section
variable {kn : Kn} {lo : Nat} {H : Hp}
theorem in32_ok {n m : Int} : ∃ H', FnX Try.prog kn lo 32 [iv n, iv m] H (.bool (inB n 0 m)) H' ∧ Keep H H' [] := by
 have key := fnX_low (kn := kn) (lo := lo) (H := H) (args := [iv n, iv m]) (Q := fun w H' => w = .bool (inB n 0 m) ∧ Keep H H' []) Try.func32 B32 N32 Z32 L32 (by simp) ?_
 ·obtain ⟨w, H', h, rfl, q⟩ := key; exact ⟨H', h, q⟩
 repeat' first
  | (intro t ht; cases t)
  | exact And.intro trivial (Exists.intro _ (And.intro rfl ⟨by simp_all [retV, inB] <;> (intros; omega), Keep.refl _ _⟩))
  | refine And.intro rfl (Exists.intro _ (And.intro rfl ?_))
theorem in35_ok {n a m : Int} : ∃ H', FnX Try.prog kn lo 35 [iv n, iv a, iv m] H (.bool (inB n a m)) H' ∧ Keep H H' [] := by
 have key := fnX_low (kn := kn) (lo := lo) (H := H) (args := [iv n, iv a, iv m]) (Q := fun w H' => w = .bool (inB n a m) ∧ Keep H H' []) Try.func35 B35 N35 Z35 L35 (by simp) ?_
 ·obtain ⟨w, H', h, rfl, q⟩ := key; exact ⟨H', h, q⟩
 repeat' first
  | (intro t ht; cases t)
  | exact And.intro trivial (Exists.intro _ (And.intro rfl ⟨by simp_all [retV, inB] <;> (intros; omega), Keep.refl _ _⟩))
  | refine And.intro rfl (Exists.intro _ (And.intro rfl ?_))
theorem badP_ok {p : Pr} (hlo : lo ≤ H.next) : ∃ H', FnX Try.prog kn lo 48 [.agg (Pr.f p).toArray] H (.bool (badP p)) H' ∧ Keep H H' [] := by
 have key := fnX_low (kn := kn) (lo := lo) (H := H) (args := [.agg (Pr.f p).toArray]) (Q := fun w H' => w = .bool (badP p) ∧ Keep H H' []) Try.func48 B48 N48 Z48 L48 (by simp) ?_
 ·obtain ⟨w, H', h, rfl, q⟩ := key; exact ⟨H', h, q⟩
 have hk := Keep.refl H []
 refine wN_seq <| wN_box (v := .agg (Pr.f p).toArray) rfl ?_
 intro H1 kH1 nH1 c1
 have c1 : Cl H1 H.next [iv p.g, iv p.c] := c1
 have mH1 := kH1.1
 have hk := hk.trans kH1
 refine wN_mov (v := .bool false) rfl <| wN_end <| wN_seq <| wN_addo (b := H.next) (o := 0) rfl <| wN_ld (b := H.next) (o := 0) (v := iv p.g) rfl c1.rd rfl <| wN_callB rfl (in32_ok) ?_
 intro tH2 H2 hH2 kH2
 have mH2 := kH2.1
 have hk := hk.trans kH2
 have c1 := kH2.cl c1 (by simp)
 cases tH2
 ·have thH2 : inB p.g 0 131072 = false := hH2
  have uhH2 := inB_f thH2
  refine wN_pur (v := .bool true) rfl rfl <| wN_mov (v := .bool true) rfl <| wN_gs rfl <| wN_gs rfl <| wN_gs rfl <| wN_gs rfl <| wN_pur (v := .bool true) rfl rfl <| wN_mov (v := .bool true) rfl <| wN_end ?_
  exact And.intro trivial (Exists.intro _ (And.intro rfl ⟨congrArg Value.bool (show true = (badP p) from (by symm; simp only [badP, *]; try rfl)), hk⟩))
 ·have thH2 : inB p.g 0 131072 = true := hH2
  have uhH2 := inB_t thH2
  refine wN_pur (v := .bool false) rfl rfl <| wN_mov (v := .bool false) rfl ?_
  refine wN_g rfl (wN_addo (b := H.next) (o := 0) rfl ?_)
  refine wN_g rfl (wN_ld (b := H.next) (o := 1) (v := iv p.c) rfl c1.rd rfl ?_)
  refine wN_g rfl (wN_callB rfl (in32_ok) ?_)
  intro tH3 H3 hH3 kH3
  have mH3 := kH3.1
  have hk := hk.trans kH3
  have c1 := kH3.cl c1 (by simp)
  cases tH3
  ·have thH3 : inB p.c 0 512 = false := hH3
   have uhH3 := inB_f thH3
   refine wN_g rfl (wN_pur (v := .bool true) rfl rfl ?_)
   refine wN_pur (v := .bool true) rfl rfl <| wN_mov (v := .bool true) rfl <| wN_end ?_
   exact And.intro trivial (Exists.intro _ (And.intro rfl ⟨congrArg Value.bool (show true = (badP p) from (by symm; simp only [badP, *]; try rfl)), hk⟩))
  ·have thH3 : inB p.c 0 512 = true := hH3
   have uhH3 := inB_t thH3
   refine wN_g rfl (wN_pur (v := .bool false) rfl rfl ?_)
   refine wN_pur (v := .bool false) rfl rfl <| wN_mov (v := .bool false) rfl <| wN_end ?_
   exact And.intro trivial (Exists.intro _ (And.intro rfl ⟨congrArg Value.bool (show false = (badP p) from (by symm; simp only [badP, *]; try rfl)), hk⟩))
theorem badD_ok {d : Dl} (hlo : lo ≤ H.next) : ∃ H', FnX Try.prog kn lo 29 [.agg (Dl.f d).toArray] H (.bool (badD d)) H' ∧ Keep H H' [] := by
 have key := fnX_low (kn := kn) (lo := lo) (H := H) (args := [.agg (Dl.f d).toArray]) (Q := fun w H' => w = .bool (badD d) ∧ Keep H H' []) Try.func29 B29 N29 Z29 L29 (by simp) ?_
 ·obtain ⟨w, H', h, rfl, q⟩ := key; exact ⟨H', h, q⟩
 have hk := Keep.refl H []
 refine wN_seq <| wN_box (v := .agg (Dl.f d).toArray) rfl ?_
 intro H1 kH1 nH1 c1
 have c1 : Cl H1 H.next [iv d.r, iv d.g, iv d.c] := c1
 have mH1 := kH1.1
 have hk := hk.trans kH1
 refine wN_mov (v := .bool false) rfl <| wN_end <| wN_seq <| wN_addo (b := H.next) (o := 0) rfl <| wN_ld (b := H.next) (o := 0) (v := iv d.r) rfl c1.rd rfl <| wN_callB rfl (in32_ok) ?_
 intro tH2 H2 hH2 kH2
 have mH2 := kH2.1
 have hk := hk.trans kH2
 have c1 := kH2.cl c1 (by simp)
 cases tH2
 ·have thH2 : inB d.r 0 1023 = false := hH2
  have uhH2 := inB_f thH2
  refine wN_pur (v := .bool true) rfl rfl <| wN_mov (v := .bool true) rfl <| wN_gs rfl <| wN_gs rfl <| wN_gs rfl <| wN_gs rfl <| wN_pur (v := .bool true) rfl rfl <| wN_mov (v := .bool true) rfl <| wN_gs rfl <| wN_gs rfl <| wN_gs rfl <| wN_gs rfl ?_
  refine wN_gs rfl <| wN_gs rfl <| wN_gs rfl <| wN_pur (v := .bool true) rfl rfl <| wN_mov (v := .bool true) rfl <| wN_end ?_
  exact And.intro trivial (Exists.intro _ (And.intro rfl ⟨congrArg Value.bool (show true = (badD d) from (by symm; simp only [badD, *]; try rfl)), hk⟩))
 ·have thH2 : inB d.r 0 1023 = true := hH2
  have uhH2 := inB_t thH2
  refine wN_pur (v := .bool false) rfl rfl <| wN_mov (v := .bool false) rfl ?_
  refine wN_g rfl (wN_addo (b := H.next) (o := 0) rfl ?_)
  refine wN_g rfl (wN_ld (b := H.next) (o := 1) (v := iv d.g) rfl c1.rd rfl ?_)
  refine wN_g rfl (wN_callB rfl (in32_ok) ?_)
  intro tH3 H3 hH3 kH3
  have mH3 := kH3.1
  have hk := hk.trans kH3
  have c1 := kH3.cl c1 (by simp)
  cases tH3
  ·have thH3 : inB d.g 0 134217728 = false := hH3
   have uhH3 := inB_f thH3
   refine wN_g rfl (wN_pur (v := .bool true) rfl rfl ?_)
   refine wN_pur (v := .bool true) rfl rfl <| wN_mov (v := .bool true) rfl <| wN_gs rfl <| wN_gs rfl <| wN_gs rfl <| wN_gs rfl <| wN_gs rfl <| wN_gs rfl <| wN_gs rfl <| wN_pur (v := .bool true) rfl rfl <| wN_mov (v := .bool true) rfl <| wN_end ?_
   exact And.intro trivial (Exists.intro _ (And.intro rfl ⟨congrArg Value.bool (show true = (badD d) from (by symm; simp only [badD, *]; try rfl)), hk⟩))
  ·have thH3 : inB d.g 0 134217728 = true := hH3
   have uhH3 := inB_t thH3
   refine wN_g rfl (wN_pur (v := .bool false) rfl rfl ?_)
   refine wN_pur (v := .bool false) rfl rfl <| wN_mov (v := .bool false) rfl ?_
   refine wN_g rfl (wN_addo (b := H.next) (o := 0) rfl ?_)
   refine wN_g rfl (wN_ld (b := H.next) (o := 2) (v := iv d.c) rfl c1.rd rfl ?_)
   refine wN_g rfl (wN_addo (b := H.next) (o := 0) rfl ?_)
   refine wN_g rfl (wN_ld (b := H.next) (o := 1) (v := iv d.g) rfl c1.rd rfl ?_)
   refine wN_g rfl (wN_mul (a := d.g) (b := 255) rfl rfl ⟨by omega, by omega⟩ ?_)
   refine wN_g rfl (wN_callB rfl (in32_ok) ?_)
   intro tH4 H4 hH4 kH4
   have mH4 := kH4.1
   have hk := hk.trans kH4
   have c1 := kH4.cl c1 (by simp)
   cases tH4
   ·have thH4 : inB d.c 0 (d.g * 255) = false := hH4
    have uhH4 := inB_f thH4
    refine wN_g rfl (wN_pur (v := .bool true) rfl rfl ?_)
    refine wN_pur (v := .bool true) rfl rfl <| wN_mov (v := .bool true) rfl <| wN_end ?_
    exact And.intro trivial (Exists.intro _ (And.intro rfl ⟨congrArg Value.bool (show true = (badD d) from (by symm; simp only [badD, *]; try rfl)), hk⟩))
   ·have thH4 : inB d.c 0 (d.g * 255) = true := hH4
    have uhH4 := inB_t thH4
    refine wN_g rfl (wN_pur (v := .bool false) rfl rfl ?_)
    refine wN_pur (v := .bool false) rfl rfl <| wN_mov (v := .bool false) rfl <| wN_end ?_
    exact And.intro trivial (Exists.intro _ (And.intro rfl ⟨congrArg Value.bool (show false = (badD d) from (by symm; simp only [badD, *]; try rfl)), hk⟩))
theorem refD_ok {d : Dl} (hlo : lo ≤ H.next) : ∃ H', FnX Try.prog kn lo 24 [.agg (Dl.f d).toArray] H (.bool (!badD d)) H' ∧ Keep H H' [] := by
 have key := fnX_low (kn := kn) (lo := lo) (H := H) (args := [.agg (Dl.f d).toArray]) (Q := fun w H' => w = .bool (!badD d) ∧ Keep H H' []) Try.func24 B24 N24 Z24 L24 (by simp) ?_
 ·obtain ⟨w, H', h, rfl, q⟩ := key; exact ⟨H', h, q⟩
 have hk := Keep.refl H []
 refine wN_seq <| wN_box (v := .agg (Dl.f d).toArray) rfl ?_
 intro H1 kH1 nH1 c1
 have c1 : Cl H1 H.next [iv d.r, iv d.g, iv d.c] := c1
 have mH1 := kH1.1
 have hk := hk.trans kH1
 refine wN_mov (v := .bool false) rfl <| wN_end <| wN_seq <| wN_addo (b := H.next) (o := 0) rfl <| wN_ld (b := H.next) (o := 0) (v := iv d.r) rfl c1.rd rfl <| wN_callB rfl (in35_ok) ?_
 intro tH2 H2 hH2 kH2
 have mH2 := kH2.1
 have hk := hk.trans kH2
 have c1 := kH2.cl c1 (by simp)
 cases tH2
 ·have thH2 : inB d.r 0 1023 = false := hH2
  have uhH2 := inB_f thH2
  refine wN_mov (v := .bool false) rfl <| wN_gs rfl <| wN_gs rfl <| wN_gs rfl <| wN_pur (v := .bool false) rfl rfl <| wN_mov (v := .bool false) rfl <| wN_gs rfl <| wN_gs rfl <| wN_gs rfl <| wN_gs rfl <| wN_gs rfl <| wN_gs rfl ?_
  refine wN_pur (v := .bool false) rfl rfl <| wN_mov (v := .bool false) rfl <| wN_end ?_
  exact And.intro trivial (Exists.intro _ (And.intro rfl ⟨congrArg Value.bool (show false = (!badD d) from (by symm; simp only [badD, *]; try rfl)), hk⟩))
 ·have thH2 : inB d.r 0 1023 = true := hH2
  have uhH2 := inB_t thH2
  refine wN_mov (v := .bool true) rfl ?_
  refine wN_g rfl (wN_addo (b := H.next) (o := 0) rfl ?_)
  refine wN_g rfl (wN_ld (b := H.next) (o := 1) (v := iv d.g) rfl c1.rd rfl ?_)
  refine wN_g rfl (wN_callB rfl (in35_ok) ?_)
  intro tH3 H3 hH3 kH3
  have mH3 := kH3.1
  have hk := hk.trans kH3
  have c1 := kH3.cl c1 (by simp)
  cases tH3
  ·have thH3 : inB d.g 0 134217728 = false := hH3
   have uhH3 := inB_f thH3
   refine wN_pur (v := .bool false) rfl rfl <| wN_mov (v := .bool false) rfl <| wN_gs rfl <| wN_gs rfl <| wN_gs rfl <| wN_gs rfl <| wN_gs rfl <| wN_gs rfl <| wN_pur (v := .bool false) rfl rfl <| wN_mov (v := .bool false) rfl <| wN_end ?_
   exact And.intro trivial (Exists.intro _ (And.intro rfl ⟨congrArg Value.bool (show false = (!badD d) from (by symm; simp only [badD, *]; try rfl)), hk⟩))
  ·have thH3 : inB d.g 0 134217728 = true := hH3
   have uhH3 := inB_t thH3
   refine wN_pur (v := .bool true) rfl rfl <| wN_mov (v := .bool true) rfl ?_
   refine wN_g rfl (wN_addo (b := H.next) (o := 0) rfl ?_)
   refine wN_g rfl (wN_ld (b := H.next) (o := 2) (v := iv d.c) rfl c1.rd rfl ?_)
   refine wN_g rfl (wN_addo (b := H.next) (o := 0) rfl ?_)
   refine wN_g rfl (wN_ld (b := H.next) (o := 1) (v := iv d.g) rfl c1.rd rfl ?_)
   refine wN_g rfl (wN_mul (a := d.g) (b := 255) rfl rfl ⟨by omega, by omega⟩ ?_)
   refine wN_g rfl (wN_callB rfl (in35_ok) ?_)
   intro tH4 H4 hH4 kH4
   have mH4 := kH4.1
   have hk := hk.trans kH4
   have c1 := kH4.cl c1 (by simp)
   cases tH4
   ·have thH4 : inB d.c 0 (d.g * 255) = false := hH4
    have uhH4 := inB_f thH4
    refine wN_pur (v := .bool false) rfl rfl <| wN_mov (v := .bool false) rfl <| wN_end ?_
    exact And.intro trivial (Exists.intro _ (And.intro rfl ⟨congrArg Value.bool (show false = (!badD d) from (by symm; simp only [badD, *]; try rfl)), hk⟩))
   ·have thH4 : inB d.c 0 (d.g * 255) = true := hH4
    have uhH4 := inB_t thH4
    refine wN_pur (v := .bool true) rfl rfl <| wN_mov (v := .bool true) rfl <| wN_end ?_
    exact And.intro trivial (Exists.intro _ (And.intro rfl ⟨congrArg Value.bool (show true = (!badD d) from (by symm; simp only [badD, *]; try rfl)), hk⟩))
theorem idxP_ok {us : List Pr} {sa : Option Addr} {n cap : Nat} (hs : Sl H sa n cap (prc us)) (hl : us.length = n) (hn : n ≤ 1000000) (hlo : lo ≤ H.next) : ∃ x H', FnX Try.prog kn lo 56 [.slice sa n cap, .func (.func 48) #[] #[]] H (iv x) H' ∧ decide (x ≥ 0) = us.any badP ∧ Keep H H' [] := by
 have key := fnX_low (kn := kn) (lo := lo) (H := H) (args := [.slice sa n cap, .func (.func 48) #[] #[]]) (Q := fun w H' => ∃ x, w = iv x ∧ decide (x ≥ 0) = us.any badP ∧ Keep H H' []) Try.func56 B56 N56 Z56 L56 (by simp) ?_
 ·obtain ⟨w, H', h, x, rfl, r⟩ := key; exact ⟨x, H', h, r⟩
 have hk := Keep.refl H []
 have fs := hs.old
 refine wN_seq <| wN_mov (v := iv 0) rfl <| wN_end <| wN_seq <| wN_mov (v := .slice sa n cap) rfl <| wN_len (m := n) rfl <| wN_mov (v := iv 0) rfl <| wN_end ?_
 refine loop_low (fn := Try.f56) E56_1 N56 L56x1 (fun i : Nat => [(0, .slice sa n cap), (1, .func (.func 48) #[] #[]), (7, iv (n : Int)), (8, iv (i : Int))])
  (fun k i H' => i + k = n ∧ Keep H H' [] ∧ Sl H' sa n cap (prc us) ∧ ∀ j, j < i → badP (us.getD j Pr.z) = false) n 0 ⟨by omega, hk, hs, fun j h => absurd h (by omega)⟩ ⟨rfl, rfl, rfl, rfl, trivial⟩ ?_
 rintro k i L1 ⟨hik, hk, hs, hall⟩
 have mk := hk.1
 refine wN_seq <| wN_c_lss (a := (i : Int)) (b := (n : Int)) rfl rfl <| wN_end ?_
 refine And.intro (fun q1 => ?_) (fun q1 => ?_)
 ·have q1 : (i : Int) < (n : Int) := of_decide_eq_true q1
  have hi : i < n := by omega
  have fs := hs.old
  rcases id hs with ⟨_, h0s, _⟩ | ⟨sb, es, rs, _⟩
  ·omega
  have ls := rs.1
  first | refine wN_skip ?_ | skip
  refine wN_seq <| wN_mov (v := iv (i : Int)) rfl <| wN_mov (v := iv (i : Int)) rfl <| wN_end <| wN_seq <| wN_mov (v := .func (.func 48) #[] #[]) rfl <| wN_mov (v := .slice sa n cap) rfl <| wN_mov (v := iv (i : Int)) rfl <| wN_idx (b := sb) (o := 0) (k := i) (j := (i : Int)) (by rw [← es]; rfl) rfl rfl hi <| wN_lda (b := sb) (o := 0 + i * 2) rfl rs (prc_rowF (by omega)) <| wN_callB rfl (badP_ok (by omega)) ?_
  intro tH1 H1 hH1 kH1
  have mH1 := kH1.1
  have hk := hk.trans kH1
  have hs := kH1.sl0 hs
  have rs := kH1.rd rs (by simp)
  cases tH1
  ·have hb : badP (us.getD i Pr.z) = false := hH1
   refine wN_end <| condF ?_
   first | refine wN_skip ?_ | skip
   first | refine wN_reg ?_ | refine wN_blk ?_ | refine wN_bseq ?_ | (refine wOps_nil ?_; refine wN_reg ?_)
   refine wN_add (a := (i : Int)) (b := 1) rfl rfl ⟨by omega, by omega⟩ <| wN_mov (v := iv ((i : Int) + 1)) rfl <| wN_end ?_
   exact ⟨k - 1, i + 1, by omega, ⟨by omega, hk, hs, fun j hj => by rcases Nat.lt_or_ge j i with c | c; exact hall j c; rw [show j = i by omega]; exact hb⟩, rfl, rfl, rfl, rfl, trivial⟩
  ·have hb : badP (us.getD i Pr.z) = true := hH1
   refine wN_end <| condT <| wN_seq <| wN_mov (v := iv (i : Int)) rfl <| wN_mov (v := iv (i : Int)) rfl <| wN_end ?_
   exact And.intro trivial (Exists.intro _ (And.intro rfl ⟨(i : Int), rfl, by rw [any_true (z := Pr.z) (j := i) (by omega) hb]; exact decide_eq_true (by omega), hk⟩))
 ·have q1 : ¬ ((i : Int) < (n : Int)) := of_decide_eq_false q1
  refine wN_seq <| wN_mov (v := iv (-1)) rfl <| wN_end ?_
  exact And.intro trivial (Exists.intro _ (And.intro rfl ⟨-1, rfl, by rw [any_false (z := Pr.z) (fun j hj => hall j (by omega))]; rfl, hk⟩))
theorem idxD_ok {ds : List Dl} {sa : Option Addr} {n cap : Nat} (hs : Sl H sa n cap (dlc ds)) (hl : ds.length = n) (hn : n ≤ 1000000) (hlo : lo ≤ H.next) : ∃ x H', FnX Try.prog kn lo 57 [.slice sa n cap, .func (.func 29) #[] #[]] H (iv x) H' ∧ decide (x ≥ 0) = ds.any badD ∧ Keep H H' [] := by
 have key := fnX_low (kn := kn) (lo := lo) (H := H) (args := [.slice sa n cap, .func (.func 29) #[] #[]]) (Q := fun w H' => ∃ x, w = iv x ∧ decide (x ≥ 0) = ds.any badD ∧ Keep H H' []) Try.func57 B57 N57 Z57 L57 (by simp) ?_
 ·obtain ⟨w, H', h, x, rfl, r⟩ := key; exact ⟨x, H', h, r⟩
 have hk := Keep.refl H []
 have fs := hs.old
 refine wN_seq <| wN_mov (v := iv 0) rfl <| wN_end <| wN_seq <| wN_mov (v := .slice sa n cap) rfl <| wN_len (m := n) rfl <| wN_mov (v := iv 0) rfl <| wN_end ?_
 refine loop_low (fn := Try.f57) E57_1 N57 L57x1 (fun i : Nat => [(0, .slice sa n cap), (1, .func (.func 29) #[] #[]), (7, iv (n : Int)), (8, iv (i : Int))])
  (fun k i H' => i + k = n ∧ Keep H H' [] ∧ Sl H' sa n cap (dlc ds) ∧ ∀ j, j < i → badD (ds.getD j Dl.z) = false) n 0 ⟨by omega, hk, hs, fun j h => absurd h (by omega)⟩ ⟨rfl, rfl, rfl, rfl, trivial⟩ ?_
 rintro k i L1 ⟨hik, hk, hs, hall⟩
 have mk := hk.1
 refine wN_seq <| wN_c_lss (a := (i : Int)) (b := (n : Int)) rfl rfl <| wN_end ?_
 refine And.intro (fun q1 => ?_) (fun q1 => ?_)
 ·have q1 : (i : Int) < (n : Int) := of_decide_eq_true q1
  have hi : i < n := by omega
  have fs := hs.old
  rcases id hs with ⟨_, h0s, _⟩ | ⟨sb, es, rs, _⟩
  ·omega
  have ls := rs.1
  first | refine wN_skip ?_ | skip
  refine wN_seq <| wN_mov (v := iv (i : Int)) rfl <| wN_mov (v := iv (i : Int)) rfl <| wN_end <| wN_seq <| wN_mov (v := .func (.func 29) #[] #[]) rfl <| wN_mov (v := .slice sa n cap) rfl <| wN_mov (v := iv (i : Int)) rfl <| wN_idx (b := sb) (o := 0) (k := i) (j := (i : Int)) (by rw [← es]; rfl) rfl rfl hi <| wN_lda (b := sb) (o := 0 + i * 3) rfl rs (dlc_rowF (by omega)) <| wN_callB rfl (badD_ok (by omega)) ?_
  intro tH1 H1 hH1 kH1
  have mH1 := kH1.1
  have hk := hk.trans kH1
  have hs := kH1.sl0 hs
  have rs := kH1.rd rs (by simp)
  cases tH1
  ·have hb : badD (ds.getD i Dl.z) = false := hH1
   refine wN_end <| condF ?_
   first | refine wN_skip ?_ | skip
   first | refine wN_reg ?_ | refine wN_blk ?_ | refine wN_bseq ?_ | (refine wOps_nil ?_; refine wN_reg ?_)
   refine wN_add (a := (i : Int)) (b := 1) rfl rfl ⟨by omega, by omega⟩ <| wN_mov (v := iv ((i : Int) + 1)) rfl <| wN_end ?_
   exact ⟨k - 1, i + 1, by omega, ⟨by omega, hk, hs, fun j hj => by rcases Nat.lt_or_ge j i with c | c; exact hall j c; rw [show j = i by omega]; exact hb⟩, rfl, rfl, rfl, rfl, trivial⟩
  ·have hb : badD (ds.getD i Dl.z) = true := hH1
   refine wN_end <| condT <| wN_seq <| wN_mov (v := iv (i : Int)) rfl <| wN_mov (v := iv (i : Int)) rfl <| wN_end ?_
   exact And.intro trivial (Exists.intro _ (And.intro rfl ⟨(i : Int), rfl, by rw [any_true (z := Dl.z) (j := i) (by omega) hb]; exact decide_eq_true (by omega), hk⟩))
 ·have q1 : ¬ ((i : Int) < (n : Int)) := of_decide_eq_false q1
  refine wN_seq <| wN_mov (v := iv (-1)) rfl <| wN_end ?_
  exact And.intro trivial (Exists.intro _ (And.intro rfl ⟨-1, rfl, by rw [any_false (z := Dl.z) (fun j hj => hall j (by omega))]; rfl, hk⟩))
theorem conP_ok {us : List Pr} {sa : Option Addr} {n cap : Nat} (hs : Sl H sa n cap (prc us)) (hl : us.length = n) (hn : n ≤ 1000000) (hlo : lo ≤ H.next) : ∃ H', FnX Try.prog kn lo 47 [.slice sa n cap, .func (.func 48) #[] #[]] H (.bool (us.any badP)) H' ∧ Keep H H' [] := by
 have key := fnX_low (kn := kn) (lo := lo) (H := H) (args := [.slice sa n cap, .func (.func 48) #[] #[]]) (Q := fun w H' => w = .bool (us.any badP) ∧ Keep H H' []) Try.func47 B47 N47 Z47 L47 (by simp) ?_
 ·obtain ⟨w, H', h, rfl, q⟩ := key; exact ⟨H', h, q⟩
 have hk := Keep.refl H []
 refine wN_seq <| wN_mov (v := .bool false) rfl <| wN_end <| wN_seq <| wN_mov (v := .slice sa n cap) rfl <| wN_mov (v := .func (.func 48) #[] #[]) rfl ?_
 obtain ⟨x, H1, fH1, hx, kH1⟩ := idxP_ok (kn := kn) (lo := lo) (H := H) hs hl hn (by omega)
 refine wN_callf (vs := [.slice sa n cap, .func (.func 48) #[] #[]]) rfl (callX_args fH1) ?_
 have mH1 := kH1.1
 have hk := hk.trans kH1
 refine wN_c_geq (a := x) (b := 0) rfl rfl <| wN_mov (v := .bool (decide (x ≥ 0))) rfl <| wN_end ?_
 exact And.intro trivial (Exists.intro _ (And.intro rfl ⟨congrArg Value.bool hx, hk⟩))
theorem conD_ok {ds : List Dl} {sa : Option Addr} {n cap : Nat} (hs : Sl H sa n cap (dlc ds)) (hl : ds.length = n) (hn : n ≤ 1000000) (hlo : lo ≤ H.next) : ∃ H', FnX Try.prog kn lo 52 [.slice sa n cap, .func (.func 29) #[] #[]] H (.bool (ds.any badD)) H' ∧ Keep H H' [] := by
 have key := fnX_low (kn := kn) (lo := lo) (H := H) (args := [.slice sa n cap, .func (.func 29) #[] #[]]) (Q := fun w H' => w = .bool (ds.any badD) ∧ Keep H H' []) Try.func52 B52 N52 Z52 L52 (by simp) ?_
 ·obtain ⟨w, H', h, rfl, q⟩ := key; exact ⟨H', h, q⟩
 have hk := Keep.refl H []
 refine wN_seq <| wN_mov (v := .bool false) rfl <| wN_end <| wN_seq <| wN_mov (v := .slice sa n cap) rfl <| wN_mov (v := .func (.func 29) #[] #[]) rfl ?_
 obtain ⟨x, H1, fH1, hx, kH1⟩ := idxD_ok (kn := kn) (lo := lo) (H := H) hs hl hn (by omega)
 refine wN_callf (vs := [.slice sa n cap, .func (.func 29) #[] #[]]) rfl (callX_args fH1) ?_
 have mH1 := kH1.1
 have hk := hk.trans kH1
 refine wN_c_geq (a := x) (b := 0) rfl rfl <| wN_mov (v := .bool (decide (x ≥ 0))) rfl <| wN_end ?_
 exact And.intro trivial (Exists.intro _ (And.intro rfl ⟨congrArg Value.bool hx, hk⟩))
theorem vT_ok {us : List Pr} {sa : Option Addr} {n cap : Nat} {adv : Int} (hs : Sl H sa n cap (prc us)) (hl : us.length = n) (hn : n ≤ 1000000) (hlo : lo ≤ H.next) : ∃ H', FnX Try.prog kn lo 28 [.agg #[.slice sa n cap, iv adv]] H (.bool (vT us adv)) H' ∧ Keep H H' [] := by
 have key := fnX_low (kn := kn) (lo := lo) (H := H) (args := [.agg #[.slice sa n cap, iv adv]]) (Q := fun w H' => w = .bool (vT us adv) ∧ Keep H H' []) Try.func28 B28 N28 Z28 L28 (by simp) ?_
 ·obtain ⟨w, H', h, rfl, q⟩ := key; exact ⟨H', h, q⟩
 have fs := hs.old
 have hk := Keep.refl H []
 refine wN_seq <| wN_box (v := .agg #[.slice sa n cap, iv adv]) rfl ?_
 intro H1 kH1 nH1 c1
 have c1 : Cl H1 H.next [.slice sa n cap, iv adv] := c1
 have mH1 := kH1.1
 have hk := hk.trans kH1
 have hs := kH1.sl0 hs
 refine wN_mov (v := .bool false) rfl <| wN_end <| wN_seq <| wN_addo (b := H.next) (o := 0) rfl <| wN_ld (b := H.next) (o := 0) (v := .slice sa n cap) rfl c1.rd rfl <| wN_len (m := n) rfl <| wN_mov (v := iv (n : Int)) rfl <| wN_end <| wN_seq <| wN_mov (v := iv (n : Int)) rfl <| wN_b_geq (a := (n : Int)) (b := 1) rfl rfl ?_
 intro t1 g1; cases t1
 ·have g1 : ¬ ((n : Int) ≥ 1) := of_decide_eq_false g1
  refine wN_mov (v := .bool false) rfl <| wN_gs rfl <| wN_gs rfl <| wN_pur (v := .bool false) rfl rfl <| wN_mov (v := .bool false) rfl <| wN_gs rfl <| wN_gs rfl <| wN_gs rfl <| wN_gs rfl <| wN_pur (v := .bool false) rfl rfl <| wN_mov (v := .bool false) rfl <| wN_gs rfl ?_
  refine wN_gs rfl <| wN_gs rfl <| wN_pur (v := .bool false) rfl rfl <| wN_mov (v := .bool false) rfl <| wN_end ?_
  exact And.intro trivial (Exists.intro _ (And.intro rfl ⟨congrArg Value.bool (show false = (vT us adv) from (by symm; unfold vT; rw [hl]; generalize us.any badP = qq at *; simp_all <;> omega)), hk⟩))
 ·have g1 : (n : Int) ≥ 1 := of_decide_eq_true g1
  refine wN_mov (v := .bool true) rfl ?_
  refine wN_g rfl (wN_mov (v := iv (n : Int)) rfl ?_)
  refine wN_g rfl (wN_b_leq (a := (n : Int)) (b := 8) rfl rfl ?_)
  intro t2 g2; cases t2
  ·have g2 : ¬ ((n : Int) ≤ 8) := of_decide_eq_false g2
   refine wN_pur (v := .bool false) rfl rfl <| wN_mov (v := .bool false) rfl <| wN_gs rfl <| wN_gs rfl <| wN_gs rfl <| wN_gs rfl <| wN_pur (v := .bool false) rfl rfl <| wN_mov (v := .bool false) rfl <| wN_gs rfl <| wN_gs rfl <| wN_gs rfl <| wN_pur (v := .bool false) rfl rfl ?_
   refine wN_mov (v := .bool false) rfl <| wN_end ?_
   exact And.intro trivial (Exists.intro _ (And.intro rfl ⟨congrArg Value.bool (show false = (vT us adv) from (by symm; unfold vT; rw [hl]; generalize us.any badP = qq at *; simp_all <;> omega)), hk⟩))
  ·have g2 : (n : Int) ≤ 8 := of_decide_eq_true g2
   refine wN_pur (v := .bool true) rfl rfl <| wN_mov (v := .bool true) rfl ?_
   refine wN_g rfl (wN_addo (b := H.next) (o := 0) rfl ?_)
   refine wN_g rfl (wN_ld (b := H.next) (o := 0) (v := .slice sa n cap) rfl c1.rd rfl ?_)
   refine wN_g rfl (wN_callB rfl (conP_ok hs hl hn (by omega)) ?_)
   intro tH2 H2 hH2 kH2
   have mH2 := kH2.1
   have hk := hk.trans kH2
   have hs := kH2.sl0 hs
   have c1 := kH2.cl c1 (by simp)
   cases tH2
   ·have hany : us.any badP = false := hH2
    refine wN_g rfl (wN_pur (v := .bool true) rfl rfl ?_)
    refine wN_pur (v := .bool true) rfl rfl <| wN_mov (v := .bool true) rfl ?_
    refine wN_g rfl (wN_addo (b := H.next) (o := 0) rfl ?_)
    refine wN_g rfl (wN_ld (b := H.next) (o := 1) (v := iv adv) rfl c1.rd rfl ?_)
    refine wN_g rfl (wN_callB rfl (in32_ok) ?_)
    intro tH3 H3 hH3 kH3
    have mH3 := kH3.1
    have hk := hk.trans kH3
    have hs := kH3.sl0 hs
    have c1 := kH3.cl c1 (by simp)
    cases tH3
    ·have thH3 : inB adv 0 1000 = false := hH3
     have uhH3 := inB_f thH3
     refine wN_pur (v := .bool false) rfl rfl <| wN_mov (v := .bool false) rfl <| wN_end ?_
     exact And.intro trivial (Exists.intro _ (And.intro rfl ⟨congrArg Value.bool (show false = (vT us adv) from (by symm; unfold vT; rw [hl]; generalize us.any badP = qq at *; simp_all <;> omega)), hk⟩))
    ·have thH3 : inB adv 0 1000 = true := hH3
     have uhH3 := inB_t thH3
     refine wN_pur (v := .bool true) rfl rfl <| wN_mov (v := .bool true) rfl <| wN_end ?_
     exact And.intro trivial (Exists.intro _ (And.intro rfl ⟨congrArg Value.bool (show true = (vT us adv) from (by symm; unfold vT; rw [hl]; generalize us.any badP = qq at *; simp_all <;> omega)), hk⟩))
   ·have hany : us.any badP = true := hH2
    refine wN_g rfl (wN_pur (v := .bool false) rfl rfl ?_)
    refine wN_pur (v := .bool false) rfl rfl <| wN_mov (v := .bool false) rfl <| wN_gs rfl <| wN_gs rfl <| wN_gs rfl <| wN_pur (v := .bool false) rfl rfl <| wN_mov (v := .bool false) rfl <| wN_end ?_
    exact And.intro trivial (Exists.intro _ (And.intro rfl ⟨congrArg Value.bool (show false = (vT us adv) from (by symm; unfold vT; rw [hl]; generalize us.any badP = qq at *; simp_all <;> omega)), hk⟩))
theorem vD_ok {ds : List Dl} {la : Option Addr} {m capl : Nat} (hd : Sl H la m capl (dlc ds)) (hm : ds.length = m) (hmn : m ≤ 1000000) (hlo : lo ≤ H.next) : ∃ H', FnX Try.prog kn lo 36 [.slice la m capl] H (.bool (vD ds)) H' ∧ Keep H H' [] := by
 have key := fnX_low (kn := kn) (lo := lo) (H := H) (args := [.slice la m capl]) (Q := fun w H' => w = .bool (vD ds) ∧ Keep H H' []) Try.func36 B36 N36 Z36 L36 (by simp) ?_
 ·obtain ⟨w, H', h, rfl, q⟩ := key; exact ⟨H', h, q⟩
 have fs := hd.old
 have hk := Keep.refl H []
 refine wN_seq <| wN_mov (v := .bool false) rfl <| wN_end <| wN_seq <| wN_mov (v := .slice la m capl) rfl <| wN_len (m := m) rfl <| wN_b_leq (a := (m : Int)) (b := 128) rfl rfl ?_
 intro t1 g1; cases t1
 ·have g1 : ¬ ((m : Int) ≤ 128) := of_decide_eq_false g1
  refine wN_mov (v := .bool false) rfl <| wN_gs rfl <| wN_gs rfl <| wN_gs rfl <| wN_pur (v := .bool false) rfl rfl <| wN_mov (v := .bool false) rfl <| wN_end ?_
  exact And.intro trivial (Exists.intro _ (And.intro rfl ⟨congrArg Value.bool (show false = (vD ds) from (by symm; unfold vD; rw [hm]; generalize ds.any badD = qq at *; simp_all <;> omega)), hk⟩))
 ·have g1 : (m : Int) ≤ 128 := of_decide_eq_true g1
  refine wN_mov (v := .bool true) rfl ?_
  refine wN_g rfl (wN_mov (v := .slice la m capl) rfl ?_)
  refine wN_g rfl (wN_callB rfl (conD_ok hd hm hmn (by omega)) ?_)
  intro tH1 H1 hH1 kH1
  have mH1 := kH1.1
  have hk := hk.trans kH1
  have hd := kH1.sl0 hd
  cases tH1
  ·have hany : ds.any badD = false := hH1
   refine wN_g rfl (wN_pur (v := .bool true) rfl rfl ?_)
   refine wN_pur (v := .bool true) rfl rfl <| wN_mov (v := .bool true) rfl <| wN_end ?_
   exact And.intro trivial (Exists.intro _ (And.intro rfl ⟨congrArg Value.bool (show true = (vD ds) from (by symm; unfold vD; rw [hm]; generalize ds.any badD = qq at *; simp_all <;> omega)), hk⟩))
  ·have hany : ds.any badD = true := hH1
   refine wN_g rfl (wN_pur (v := .bool false) rfl rfl ?_)
   refine wN_pur (v := .bool false) rfl rfl <| wN_mov (v := .bool false) rfl <| wN_end ?_
   exact And.intro trivial (Exists.intro _ (And.intro rfl ⟨congrArg Value.bool (show false = (vD ds) from (by symm; unfold vD; rw [hm]; generalize ds.any badD = qq at *; simp_all <;> omega)), hk⟩))
end
end Go.Ax

/-
 Pool: what a delivery is worth (written by program).
-/
namespace Go.Ax
open Go Go.RowKit Go.Proofs

def num (p : Pr) (d : Dl) : Int := d.g * p.g + d.c * p.c
def okD (d : Dl) : Prop := 0 ≤ d.g ∧ d.g ≤ 134217728 ∧ 0 ≤ d.c ∧ d.c ≤ d.g * 255
theorem okD_of {d : Dl} (h : badD d = false) : okD d := by have := badD_t h; exact ⟨this.2.2.1, this.2.2.2.1, this.2.2.2.2.1, this.2.2.2.2.2⟩
theorem mulb {a b A B : Int} (h1 : 0 ≤ a) (h2 : a ≤ A) (h3 : 0 ≤ b) (h4 : b ≤ B) : 0 ≤ a * b ∧ a * b ≤ A * B :=
 ⟨Int.mul_nonneg h1 h3, Int.le_trans (Int.mul_le_mul_of_nonneg_left h4 h1) (Int.mul_le_mul_of_nonneg_right h2 (Int.le_trans h3 h4))⟩
theorem num_b {p : Pr} {d : Dl} (h : badP p = false) (hd : okD d) : 0 ≤ d.g * p.g ∧ d.g * p.g ≤ 17592186044416 ∧ 0 ≤ d.c * p.c ∧ d.c * p.c ≤ 17523466567680 := by
 obtain ⟨p1, p2, p3, p4⟩ := badP_t h
 obtain ⟨d1, d2, d3, d4⟩ := hd
 have a := mulb d1 d2 p1 p2
 have b := mulb (A := 34225520640) (B := 512) d3 (by omega) p3 p4
 omega
theorem num_in {p : Pr} {d : Dl} (h : badP p = false) (hd : okD d) : 0 ≤ num p d ∧ num p d ≤ 35115652612096 := by
 have := num_b h hd
 unfold num; omega
def lsI (us : List Pr) (d : Dl) : Nat → Nat
 | 0 => 0
 | k + 1 => if num (us.getD k Pr.z) d < num (us.getD (lsI us d k) Pr.z) d then k else lsI us d k
theorem lsI_lt {us : List Pr} {d : Dl} : ∀ {k : Nat}, 0 < k → lsI us d k < k
 | k + 1, _ => by
  unfold lsI
  split
  ·omega
  ·rcases Nat.eq_zero_or_pos k with e | e
   ·subst e; show 0 < 1; omega
   ·have := lsI_lt (us := us) (d := d) e; omega
theorem lsI_le {us : List Pr} {d : Dl} : ∀ {k j : Nat}, j < k → num (us.getD (lsI us d k) Pr.z) d ≤ num (us.getD j Pr.z) d
 | k + 1, j, h => by
  unfold lsI
  split
  ·rename_i q
   rcases Nat.lt_or_ge j k with c | c
   ·have := lsI_le (us := us) (d := d) c; omega
   ·rw [show j = k by omega]; exact Int.le_refl _
  ·rename_i q
   rcases Nat.lt_or_ge j k with c | c
   ·exact lsI_le c
   ·rw [show j = k by omega]; omega
def wN (us : List Pr) (d : Dl) : Int := num (us.getD (lsI us d us.length) Pr.z) d
def wW (us : List Pr) (d : Dl) : Int := wN us d / 1000000
def wI (us : List Pr) (d : Dl) : Int := lsI us d us.length
theorem wN_in {us : List Pr} {d : Dl} (hu : us.any badP = false) (h0 : 0 < us.length) (hd : okD d) : 0 ≤ wN us d ∧ wN us d ≤ 35115652612096 := num_in (any_at hu (lsI_lt h0)) hd
theorem wW_in {us : List Pr} {d : Dl} (hu : us.any badP = false) (h0 : 0 < us.length) (hd : okD d) : 0 ≤ wW us d ∧ wW us d ≤ 35115653 := by
 have := wN_in hu h0 hd
 unfold wW; omega
section
variable {kn : Kn} {lo : Nat} {H : Hp}
theorem num_ok {p : Pr} {d : Dl} {cb : Nat} (hb : Rd H cb (Dl.f d)) (hp : badP p = false) (hd : okD d) (hlo : lo ≤ H.next) : ∃ H', FnX Try.prog kn lo 50 [.agg (Pr.f p).toArray, .pointer (some ⟨cb, 0, none⟩)] H (iv (num p d)) H' ∧ Keep H H' [] := by
 have key := fnX_low (kn := kn) (lo := lo) (H := H) (args := [.agg (Pr.f p).toArray, .pointer (some ⟨cb, 0, none⟩)]) (Q := fun w H' => w = iv (num p d) ∧ Keep H H' []) Try.func50 B50 N50 Z50 L50 (by simp) ?_
 ·obtain ⟨w, H', h, rfl, q⟩ := key; exact ⟨H', h, q⟩
 have hk := Keep.refl H []
 have hnb := num_b hp hd
 have hlb := hb.1
 refine wN_seq <| wN_box (v := .agg (Pr.f p).toArray) rfl ?_
 intro H1 kH1 nH1 c1
 have c1 : Cl H1 H.next [iv p.g, iv p.c] := c1
 have mH1 := kH1.1
 have hk := hk.trans kH1
 have hb := kH1.rd hb (by simp)
 refine wN_mov (v := iv 0) rfl <| wN_end <| wN_seq <| wN_addo (b := cb) (o := 0) rfl <| wN_ld (b := cb) (o := 1) (v := iv d.g) rfl hb rfl <| wN_addo (b := H.next) (o := 0) rfl <| wN_ld (b := H.next) (o := 0) (v := iv p.g) rfl c1.rd rfl <| wN_mul (a := d.g) (b := p.g) rfl rfl ⟨by omega, by omega⟩ <| wN_addo (b := cb) (o := 0) rfl <| wN_ld (b := cb) (o := 2) (v := iv d.c) rfl hb rfl <| wN_addo (b := H.next) (o := 0) rfl <| wN_ld (b := H.next) (o := 1) (v := iv p.c) rfl c1.rd rfl ?_
 refine wN_mul (a := d.c) (b := p.c) rfl rfl ⟨by omega, by omega⟩ <| wN_add (a := d.g * p.g) (b := d.c * p.c) rfl rfl ⟨by omega, by omega⟩ <| wN_mov (v := iv ((d.g * p.g) + (d.c * p.c))) rfl <| wN_end ?_
 exact And.intro trivial (Exists.intro _ (And.intro rfl ⟨rfl, hk⟩))
set_option maxRecDepth 100000 in
theorem least_ok {us : List Pr} {sa : Option Addr} {n cap : Nat} (hs : Sl H sa n cap (prc us)) (hl : us.length = n) (hn : n ≤ 1000000) (hlo : lo ≤ H.next) (hu : us.any badP = false) (h0 : 0 < n) {d : Dl} {cb : Nat} (hb : Rd H cb (Dl.f d)) (hd : okD d) : ∃ H', FnX Try.prog kn lo 49 [.slice sa n cap, .func (.func 50) #[] #[.pointer (some ⟨cb, 0, none⟩)]] H (.tuple #[iv (lsI us d n : Int), iv (num (us.getD (lsI us d n) Pr.z) d)]) H' ∧ Keep H H' [] := by
 have key := fnX_low (kn := kn) (lo := lo) (H := H) (args := [.slice sa n cap, .func (.func 50) #[] #[.pointer (some ⟨cb, 0, none⟩)]]) (Q := fun w H' => w = .tuple #[iv (lsI us d n : Int), iv (num (us.getD (lsI us d n) Pr.z) d)] ∧ Keep H H' []) Try.func49 B49 N49 Z49 L49 (by simp) ?_
 ·obtain ⟨w, H', h, rfl, q⟩ := key; exact ⟨H', h, q⟩
 have hk := Keep.refl H []
 have fs := hs.old
 rcases id hs with ⟨_, q0, _⟩ | ⟨sb, es, rs, _⟩
 ·omega
 have lsb := rs.1
 have lcb := hb.1
 refine wN_seq <| wN_mov (v := iv 0) rfl <| wN_mov (v := iv 0) rfl <| wN_end <| wN_seq <| wN_mov (v := .func (.func 50) #[] #[.pointer (some ⟨cb, 0, none⟩)]) rfl <| wN_mov (v := .slice sa n cap) rfl <| wN_idx (b := sb) (o := 0) (k := 0) (j := 0) (by rw [← es]; rfl) rfl rfl (by omega) <| wN_lda (b := sb) (o := 0 + 0 * 2) rfl rs (prc_rowF (by omega)) ?_
 obtain ⟨H1, fH1, kH1⟩ := num_ok (kn := kn) (lo := lo) (H := H) (p := (us.getD 0 Pr.z)) hb (any_at hu (by omega)) hd (by omega)
 refine wN_callf (vs := [.agg (Pr.f (us.getD 0 Pr.z)).toArray]) rfl (callX_func rfl (by simpa using fH1)) ?_
 have mH1 := kH1.1
 have hk := hk.trans kH1
 have hs := kH1.sl0 hs
 have hb := kH1.rd hb (by simp)
 have rs := kH1.rd rs (by simp)
 refine wN_mov (v := iv (num (us.getD 0 Pr.z) d)) rfl <| wN_end <| wN_seq <| wN_mov (v := .slice sa n cap) rfl <| wN_len (m := n) rfl <| wN_mov (v := iv 0) rfl <| wN_end ?_
 refine loop_low (fn := Try.f49) E49_1 N49 L49x1 (fun i : Nat => [(0, .slice sa n cap), (1, .func (.func 50) #[] #[.pointer (some ⟨cb, 0, none⟩)]), (4, iv (lsI us d i : Int)), (5, iv (num (us.getD (lsI us d i) Pr.z) d)), (14, .slice sa n cap), (15, iv (n : Int)), (16, iv (i : Int))])
  (fun k i H' => i + k = n ∧ Keep H H' [] ∧ Sl H' sa n cap (prc us) ∧ Rd H' cb (Dl.f d) ∧ Rd H' sb (prc us)) n 0 ⟨by omega, hk, hs, hb, rs⟩ ⟨rfl, rfl, rfl, rfl, rfl, rfl, rfl, trivial⟩ ?_
 rintro k i L1 ⟨hik, hk, hs, hb, rs⟩
 have mk := hk.1
 refine wN_seq <| wN_c_lss (a := (i : Int)) (b := (n : Int)) rfl rfl <| wN_end ?_
 refine And.intro (fun q1 => ?_) (fun q1 => ?_)
 ·have q1 : (i : Int) < (n : Int) := of_decide_eq_true q1
  first | refine wN_skip ?_ | skip
  refine wN_seq <| wN_mov (v := iv (i : Int)) rfl <| wN_idx (b := sb) (o := 0) (k := i) (j := (i : Int)) (by rw [← es]; rfl) rfl rfl (by omega) <| wN_lda (b := sb) (o := 0 + i * 2) rfl rs (prc_rowF (by omega)) <| wN_alc ?_
  intro H2 kH2 nH2 c2
  have c2 : Cl H2 L1.next [iv 0, iv 0] := c2
  have mH2 := kH2.1
  have hk := hk.trans kH2
  have hs := kH2.sl0 hs
  have hb := kH2.rd hb (by simp)
  have rs := kH2.rd rs (by simp)
  refine wN_mov (v := iv (i : Int)) rfl <| wN_sta (b := L1.next) (o := 0) rfl rfl c2 (by omega) rfl rfl (by simp) ?_
  intro H3 kH3 nH3 sH3
  have mH3 := kH3.1
  have hk := hk.new kH3 (fun b hb => by simp at hb ⊢; omega)
  have hs := kH3.sl hs (fun b e => by have := fs b e; first | (simp; done) | (simp; omega))
  have hb := kH3.rd hb (by first | (simp; done) | (simp; omega))
  have rs := kH3.rd rs (by first | (simp; done) | (simp; omega))
  have c2 : Cl H3 L1.next [iv ((us.getD i Pr.z).g), iv ((us.getD i Pr.z).c)] := sH3
  refine wN_end <| wN_seq <| wN_mov (v := .func (.func 50) #[] #[.pointer (some ⟨cb, 0, none⟩)]) rfl <| wN_lda (b := L1.next) (o := 0) rfl c2.rd (show row 2 _ _ = some [iv ((us.getD i Pr.z).g), iv ((us.getD i Pr.z).c)] from rfl) ?_
  obtain ⟨H4, fH4, kH4⟩ := num_ok (kn := kn) (lo := lo) (H := H3) (p := (us.getD i Pr.z)) hb (any_at hu (by omega)) hd (by omega)
  refine wN_callf (vs := [.agg (Pr.f (us.getD i Pr.z)).toArray]) rfl (callX_func rfl (by simpa using fH4)) ?_
  have mH4 := kH4.1
  have hk := hk.trans kH4
  have hs := kH4.sl0 hs
  have hb := kH4.rd hb (by simp)
  have rs := kH4.rd rs (by simp)
  have c2 := kH4.cl c2 (by simp)
  refine wN_mov (v := iv (num (us.getD i Pr.z) d)) rfl <| wN_end <| wN_seq <| wN_mov (v := iv (num (us.getD i Pr.z) d)) rfl <| wN_mov (v := iv (num (us.getD (lsI us d i) Pr.z) d)) rfl <| wN_c_lss (a := (num (us.getD i Pr.z) d)) (b := (num (us.getD (lsI us d i) Pr.z) d)) rfl rfl <| wN_end ?_
  refine And.intro (fun q2 => ?_) (fun q2 => ?_)
  ·have q2 : (num (us.getD i Pr.z) d) < (num (us.getD (lsI us d i) Pr.z) d) := of_decide_eq_true q2
   first | refine wN_reg ?_ | refine wN_blk ?_ | refine wN_bseq ?_ | (refine wOps_nil ?_; refine wN_reg ?_)
   refine wN_mov (v := iv (i : Int)) rfl <| wN_mov (v := iv (num (us.getD i Pr.z) d)) rfl <| wN_mov (v := iv (i : Int)) rfl <| wN_mov (v := iv (num (us.getD i Pr.z) d)) rfl <| wN_end ?_
   first | refine wN_reg ?_ | refine wN_blk ?_ | refine wN_bseq ?_ | (refine wOps_nil ?_; refine wN_reg ?_)
   refine wN_add (a := (i : Int)) (b := 1) rfl rfl ⟨by omega, by omega⟩ <| wN_mov (v := iv ((i : Int) + 1)) rfl <| wN_end ?_
   have hstep : lsI us d (i + 1) = i := by show (if _ then _ else _) = _; rw [if_pos (by assumption)]
   exact ⟨k - 1, i + 1, by omega, ⟨by omega, hk, hs, hb, rs⟩, rfl, rfl, (by show some _ = some _; rw [hstep]), (by show some _ = some _; rw [hstep]), rfl, rfl, rfl, trivial⟩
  ·have q2 : ¬ ((num (us.getD i Pr.z) d) < (num (us.getD (lsI us d i) Pr.z) d)) := of_decide_eq_false q2
   first | refine wN_skip ?_ | skip
   first | refine wN_reg ?_ | refine wN_blk ?_ | refine wN_bseq ?_ | (refine wOps_nil ?_; refine wN_reg ?_)
   refine wN_add (a := (i : Int)) (b := 1) rfl rfl ⟨by omega, by omega⟩ <| wN_mov (v := iv ((i : Int) + 1)) rfl <| wN_end ?_
   have hstep : lsI us d (i + 1) = lsI us d i := by show (if _ then _ else _) = _; rw [if_neg (by assumption)]
   exact ⟨k - 1, i + 1, by omega, ⟨by omega, hk, hs, hb, rs⟩, rfl, rfl, (by show some _ = some _; rw [hstep]), (by show some _ = some _; rw [hstep]), rfl, rfl, rfl, trivial⟩
 ·have q1 : ¬ ((i : Int) < (n : Int)) := of_decide_eq_false q1
  refine wN_seq <| wN_mov (v := iv (lsI us d i : Int)) rfl <| wN_mov (v := iv (num (us.getD (lsI us d i) Pr.z) d)) rfl <| wN_mov (v := iv (lsI us d i : Int)) rfl <| wN_mov (v := iv (num (us.getD (lsI us d i) Pr.z) d)) rfl <| wN_end ?_
  have e : i = n := by omega
  exact And.intro trivial (Exists.intro _ (And.intro rfl ⟨by rw [e]; rfl, hk⟩))
theorem worth_ok {us : List Pr} {sa : Option Addr} {n cap : Nat} {adv : Int} (hs : Sl H sa n cap (prc us)) (hl : us.length = n) (hn : n ≤ 1000000) (hlo : lo ≤ H.next) (hu : us.any badP = false) (h0 : 0 < n) {d : Dl} (hd : okD d) : ∃ H', FnX Try.prog kn lo 30 [.agg #[.slice sa n cap, iv adv], .agg (Dl.f d).toArray] H (.tuple #[iv (wW us d), iv (wI us d)]) H' ∧ Keep H H' [] := by
 have key := fnX_low (kn := kn) (lo := lo) (H := H) (args := [.agg #[.slice sa n cap, iv adv], .agg (Dl.f d).toArray]) (Q := fun w H' => w = .tuple #[iv (wW us d), iv (wI us d)] ∧ Keep H H' []) Try.func30 B30 N30 Z30 L30 (by simp) ?_
 ·obtain ⟨w, H', h, rfl, q⟩ := key; exact ⟨H', h, q⟩
 have hk := Keep.refl H []
 have fs := hs.old
 have hnb := wN_in hu (by omega) hd
 unfold wN at hnb
 rw [hl] at hnb
 refine wN_seq <| wN_box (v := .agg #[.slice sa n cap, iv adv]) rfl ?_
 intro H1 kH1 nH1 c1
 have c1 : Cl H1 H.next [.slice sa n cap, iv adv] := c1
 have mH1 := kH1.1
 have hk := hk.trans kH1
 have hs := kH1.sl0 hs
 refine wN_box (v := .agg (Dl.f d).toArray) rfl ?_
 intro H2 kH2 nH2 c2
 have c2 : Cl H2 H1.next [iv d.r, iv d.g, iv d.c] := c2
 have mH2 := kH2.1
 have hk := hk.trans kH2
 have hs := kH2.sl0 hs
 have c1 := kH2.cl c1 (by simp)
 refine wN_mov (v := iv 0) rfl <| wN_mov (v := iv 0) rfl <| wN_end <| wN_seq <| wN_addo (b := H.next) (o := 0) rfl <| wN_ld (b := H.next) (o := 0) (v := .slice sa n cap) rfl c1.rd rfl <| wN_pur (v := .func (.func 50) #[] #[pt H1.next]) rfl (by kernel_rfl) ?_
 obtain ⟨H3, fH3, kH3⟩ := least_ok (kn := kn) (lo := lo) (H := H2) hs hl hn (by omega) hu h0 (d := d) (cb := H1.next) c2.rd hd
 refine wN_callf rfl (callX_args fH3) ?_
 have mH3 := kH3.1
 have hk := hk.trans kH3
 have hs := kH3.sl0 hs
 have c1 := kH3.cl c1 (by simp)
 have c2 := kH3.cl c2 (by simp)
 refine wN_mov (v := .tuple #[iv (lsI us d n : Int), iv (num (us.getD (lsI us d n) Pr.z) d)]) rfl <| wN_pur (v := iv (lsI us d n : Int)) rfl (by kernel_rfl) <| wN_pur (v := iv (num (us.getD (lsI us d n) Pr.z) d)) rfl (by kernel_rfl) <| wN_mov (v := iv (lsI us d n : Int)) rfl <| wN_mov (v := iv (num (us.getD (lsI us d n) Pr.z) d)) rfl <| wN_end <| wN_seq <| wN_mov (v := iv (num (us.getD (lsI us d n) Pr.z) d)) rfl <| wN_quo (a := (num (us.getD (lsI us d n) Pr.z) d)) (b := 1000000) rfl rfl (by omega) (by omega) ⟨by omega, by omega⟩ <| wN_mov (v := iv (lsI us d n : Int)) rfl <| wN_mov (v := iv ((num (us.getD (lsI us d n) Pr.z) d) / 1000000)) rfl <| wN_mov (v := iv (lsI us d n : Int)) rfl ?_
 refine wN_end ?_
 exact And.intro trivial (Exists.intro _ (And.intro rfl ⟨by unfold wW wN wI; rw [hl]; rfl, hk⟩))
end
end Go.Ax

/-
 Pool: how red a delivery has to be; Worth (written by program).
-/
namespace Go.Ax
open Go Go.RowKit Go.Proofs

structure Lst (p : Nat → Bool) (N m : Nat) : Prop where
 le : m ≤ N
 lo : m = 0 ∨ p (m - 1) = false
 hi : m = N ∨ p m = true
theorem Lst.uniq {p : Nat → Bool} {N m m' : Nat} (hp : ∀ j k, j ≤ k → k < N → p j = true → p k = true) (h : Lst p N m) (h' : Lst p N m') : m = m' := by
 have key : ∀ {m m' : Nat}, Lst p N m → Lst p N m' → ¬ m < m' := by
  intro m m' h h' q
  have h1 := h'.le
  rcases h.hi with e | e
  ·omega
  ·rcases h'.lo with e2 | e2
   ·omega
   ·have := hp m (m' - 1) (by omega) (by omega) e
    rw [this] at e2; cases e2
 have a := key h h'
 have b := key h' h
 omega
theorem lsI_r {us : List Pr} {r g c : Int} : ∀ k, lsI us ⟨r, g, c⟩ k = lsI us ⟨0, g, c⟩ k
 | 0 => rfl
 | k + 1 => by
  show (if _ then _ else _) = (if _ then _ else _)
  rw [lsI_r k]; rfl
theorem wW_r {us : List Pr} {r g c : Int} : wW us ⟨r, g, c⟩ = wW us ⟨0, g, c⟩ := by
 unfold wW wN; rw [lsI_r]; rfl
theorem wN_mono {us : List Pr} {d d' : Dl} (hu : us.any badP = false) (h0 : 0 < us.length) (hg0 : 0 ≤ d.g) (hc0 : 0 ≤ d.c) (hg : d.g ≤ d'.g) (hc : d.c ≤ d'.c) : wN us d ≤ wN us d' := by
 have h1 := lsI_lt (us := us) (d := d') h0
 have h2 : wN us d ≤ num (us.getD (lsI us d' us.length) Pr.z) d := lsI_le h1
 obtain ⟨p1, p2, p3, p4⟩ := badP_t (any_at (z := Pr.z) hu h1)
 have a := Int.mul_le_mul_of_nonneg_right hg p1
 have b := Int.mul_le_mul_of_nonneg_right hc p3
 unfold wN at h2 ⊢
 unfold num at h2 ⊢
 omega
theorem wW_mono {us : List Pr} {d d' : Dl} (hu : us.any badP = false) (h0 : 0 < us.length) (hg0 : 0 ≤ d.g) (hc0 : 0 ≤ d.c) (hg : d.g ≤ d'.g) (hc : d.c ≤ d'.c) : wW us d ≤ wW us d' := by
 have := wN_mono hu h0 hg0 hc0 hg hc
 unfold wW; omega
def rdP (us : List Pr) (g wanted : Int) (k : Nat) : Bool := decide (wW us ⟨0, g, k⟩ ≥ wanted)
theorem rdP_mono {us : List Pr} {g wanted : Int} (hu : us.any badP = false) (h0 : 0 < us.length) (hg0 : 0 ≤ g) {j k : Nat} (h : j ≤ k) (hj : rdP us g wanted j = true) : rdP us g wanted k = true := by
 unfold rdP at hj ⊢
 have a := of_decide_eq_true hj
 have b := wW_mono (us := us) (d := ⟨0, g, j⟩) (d' := ⟨0, g, k⟩) hu h0 hg0 (by show (0 : Int) ≤ (j : Int); omega) (Int.le_refl _) (by show (j : Int) ≤ (k : Int); omega)
 exact decide_eq_true (by omega)
def pick2 (N m : Nat) : Int × Int := if m = N then (0, 10) else (m, 0)
def RdS (us : List Pr) (adv : Int) (d : Dl) (wanted x e : Int) : Prop :=
 if (vT us adv && !badD d) = true then (if inB wanted 0 1073741824 = true then ∃ m : Nat, Lst (rdP us d.g wanted) (d.g * 255 + 1).toNat m ∧ (x, e) = pick2 (d.g * 255 + 1).toNat m else (x, e) = (0, 2)) else (x, e) = (0, 1)
theorem RdS.uniq {us : List Pr} {adv : Int} {d : Dl} {wanted x e x' e' : Int} (h : RdS us adv d wanted x e) (h' : RdS us adv d wanted x' e') : x = x' ∧ e = e' := by
 unfold RdS at h h'
 split at h
 ·rename_i q
  rw [if_pos q] at h'
  simp only [Bool.and_eq_true, Bool.not_eq_true'] at q
  have v := vT_t q.1
  have w := badD_t q.2
  split at h
  ·rename_i q2
   rw [if_pos q2] at h'
   obtain ⟨m, h1, h2⟩ := h
   obtain ⟨m', h3, h4⟩ := h'
   have := h1.uniq (fun j k a _ b => rdP_mono v.2.2.1 (by omega) w.2.2.1 a b) h3
   subst this
   rw [← h4] at h2
   exact Prod.mk.inj h2
  ·rename_i q2
   rw [if_neg q2] at h'
   rw [← h'] at h
   exact Prod.mk.inj h
 ·rename_i q
  rw [if_neg q] at h'
  rw [← h'] at h
  exact Prod.mk.inj h
noncomputable section
section
variable {kn : Kn} {lo : Nat} {H : Hp}
theorem search_ok {n : Nat} {F : FuncId} {caps : Array Value} (p : Nat → Bool) (hn : n ≤ 1099511627776) (hf : ∀ k H1, Keep H H1 [] → k < n → ∃ H2, CallsX Try.prog kn lo (.fn (.func F) caps) [iv (k : Int)] H1 (.bool (p k)) H2 ∧ Keep H1 H2 []) :
  ∃ (m : Nat) (H' : Hp), FnX Try.prog kn lo 51 [iv n, .func (.func F) #[] caps] H (iv m) H' ∧ Keep H H' [] ∧ Lst p n m := by
 have key := fnX_low (kn := kn) (lo := lo) (H := H) (args := [iv n, .func (.func F) #[] caps]) (Q := fun v H' => ∃ m : Nat, v = iv m ∧ Keep H H' [] ∧ Lst p n m) Try.func51 B51 N51 Z51 L51 (by simp) ?_
 ·obtain ⟨v, H', h, m, rfl, q⟩ := key; exact ⟨m, H', h, q⟩
 refine wN_seq (wN_mov rfl (wN_end (wN_seq (wN_mov rfl (wN_mov rfl (wN_mov rfl (wN_end (wC_lseq (wC_block (wC_other ?_)))))))))) 
 refine loop_low (fn := Try.f51) E51_1 N51 L51x1 (fun a : Nat × Nat => [(1, .func (.func F) #[] caps), (5, iv (a.1 : Int)), (6, iv (a.2 : Int))])
  (fun k a H1 => k = a.2 - a.1 ∧ a.1 ≤ a.2 ∧ a.2 ≤ n ∧ (a.1 = 0 ∨ p (a.1 - 1) = false) ∧ (a.2 = n ∨ p a.2 = true) ∧ Keep H H1 []) (n - 0) (0, n) ⟨rfl, Nat.zero_le _, Nat.le_refl _, .inl rfl, .inl rfl, Keep.refl _ _⟩ ⟨rfl, rfl, rfl, trivial⟩ ?_
 rintro k ⟨i, j⟩ H1 ⟨rfl, hij, hjn, hi, hj, hk⟩
 simp only at hij hjn hi hj
 refine wC_lseq (wN_seq (wN_mov rfl (wN_mov rfl (wN_c_lss (a := (i : Int)) (b := (j : Int)) rfl rfl (wN_end (wC_cond (t := decide ((i : Int) < (j : Int))) rfl (fun hlt => ?_) (fun hge => ?_)))))))
 ·have hlt := of_decide_eq_true hlt
  refine wN_skip (wC_block (wN_seq (wN_mov rfl (wN_mov rfl (wN_add (a := (i : Int)) (b := (j : Int)) rfl rfl ⟨by omega, by omega⟩ ?_)))))
  refine wN_pur (v := .int .u64 ((i + j : Nat) : Int)) rfl (c_iu (n := i + j) (j := (i : Int) + (j : Int)) (by omega) rfl (by omega)) <| wN_pur (v := .int .u64 (((i + j) / 2 : Nat) : Int)) rfl (v_shr (m := i + j) (d := 1) (by decide) rfl rfl) ?_
  have h1 : i ≤ (i + j) / 2 := by omega
  have h2 : (i + j) / 2 < j := by omega
  generalize (i + j) / 2 = h at h1 h2 ⊢
  refine wN_pur (v := iv (h : Int)) rfl (c_ui (n := h) (j := (h : Int)) (by omega) rfl rfl) (wN_mov rfl (wN_end ?_))
  obtain ⟨H2, f2, k2⟩ := hf h H1 hk (by omega)
  refine wC_lseq (wN_seq (wN_mov rfl (wN_mov rfl (wN_callf rfl f2 (wN_pur (v := .bool (!p h)) rfl (by kernel_rfl) (wN_end ?_)))))) 
  cases hg : p h with
  | false =>
   refine wC_cond (t := true) rfl (fun _ => ?_) (fun e => by cases e)
   refine wN_reg (wN_mov rfl (wN_add (a := (h : Int)) (b := 1) rfl rfl ⟨by omega, by omega⟩ (wN_mov rfl (wN_end ?_))))
   exact ⟨j - (h + 1), (h + 1, j), by simp only; omega, ⟨rfl, by simp only; omega, hjn, .inr hg, hj, hk.trans k2⟩, rfl, ivq (by simp only []; omega), rfl, trivial⟩
  | true =>
   refine wC_cond (t := false) rfl (fun e => by cases e) (fun _ => ?_)
   refine wN_reg (wN_mov rfl (wN_mov rfl (wN_end ?_)))
   exact ⟨h - i, (i, h), by simp only; omega, ⟨rfl, h1, by simp only; omega, hi, .inr hg, hk.trans k2⟩, rfl, rfl, rfl, trivial⟩
 ·have hge := of_decide_eq_false hge
  have hij : i = j := by omega
  subst hij
  refine wN_exit (wN_seq (wN_mov rfl (wN_mov rfl (wN_end ?_))))
  exact And.intro trivial (Exists.intro _ (And.intro rfl ⟨i, rfl, hk, hjn, hi, hj⟩))
theorem enough_ok {N : Nat} {F : FuncId} {caps : Array Value} (p : Nat → Bool) (hn : N < 1099511627776) (hf : ∀ k H1, Keep H H1 [] → k < N + 1 → ∃ H2, CallsX Try.prog kn lo (.fn (.func F) caps) [iv (k : Int)] H1 (.bool (p k)) H2 ∧ Keep H1 H2 []) :
  ∃ (m : Nat) (H' : Hp), FnX Try.prog kn lo 33 [iv N, .func (.func F) #[] caps] H (.tuple #[iv (pick2 (N + 1) m).1, iv (pick2 (N + 1) m).2]) H' ∧ Lst p (N + 1) m ∧ Keep H H' [] := by
 have key := fnX_low (kn := kn) (lo := lo) (H := H) (args := [iv N, .func (.func F) #[] caps]) (Q := fun w H' => ∃ m : Nat, w = .tuple #[iv (pick2 (N + 1) m).1, iv (pick2 (N + 1) m).2] ∧ Lst p (N + 1) m ∧ Keep H H' []) Try.func33 B33 N33 Z33 L33 (by simp) ?_
 ·obtain ⟨w, H', h, m, rfl, r⟩ := key; exact ⟨m, H', h, r⟩
 have hk := Keep.refl H []
 refine wN_seq <| wN_mov (v := iv 0) rfl <| wN_mov (v := iv 0) rfl <| wN_end <| wN_seq <| wN_mov (v := iv (N : Int)) rfl <| wN_add (a := (N : Int)) (b := 1) rfl rfl ⟨by omega, by omega⟩ <| wN_mov (v := .func (.func F) #[] caps) rfl ?_
 obtain ⟨m, H1, fH1, kH1, hm⟩ := search_ok (kn := kn) (lo := lo) (H := H) (n := N + 1) p (by omega) hf
 refine wN_callf (vs := [iv ((N : Int) + 1), .func (.func F) #[] caps]) rfl (callX_args fH1) ?_
 have mH1 := kH1.1
 have hk := hk.trans kH1
 refine wN_mov (v := iv (m : Int)) rfl <| wN_end <| wN_seq <| wN_mov (v := iv (m : Int)) rfl <| wN_mov (v := iv (N : Int)) rfl <| wN_c_gtr (a := (m : Int)) (b := (N : Int)) rfl rfl <| wN_end ?_
 refine And.intro (fun q1 => ?_) (fun q1 => ?_)
 ·have q1 : (m : Int) > (N : Int) := of_decide_eq_true q1
  refine wN_seq <| wN_mov (v := iv 0) rfl <| wN_mov (v := iv 10) rfl <| wN_end ?_
  exact And.intro trivial (Exists.intro _ (And.intro rfl ⟨m, by unfold pick2; rw [if_pos (by have := hm.le; omega)]; rfl, hm, hk⟩))
 ·have q1 : ¬ ((m : Int) > (N : Int)) := of_decide_eq_false q1
  first | refine wN_skip ?_ | skip
  refine wN_seq <| wN_mov (v := iv (m : Int)) rfl <| wN_mov (v := iv (m : Int)) rfl <| wN_mov (v := iv 0) rfl <| wN_end ?_
  exact And.intro trivial (Exists.intro _ (And.intro rfl ⟨m, by unfold pick2; rw [if_neg (by omega)]; rfl, hm, hk⟩))
theorem red34_ok {us : List Pr} {sa : Option Addr} {n cap : Nat} {adv : Int} (hs : Sl H sa n cap (prc us)) (hl : us.length = n) (hn : n ≤ 1000000) (hlo : lo ≤ H.next) (hu : us.any badP = false) (h0 : 0 < n) {d : Dl} (hd : okD d) {db tb wb k : Nat} {wanted : Int} (hdb : Rd H db [iv d.r, iv d.g, iv d.c]) (htb : Rd H tb [.slice sa n cap, iv adv]) (hwb : Rd H wb [iv wanted]) (hkg : (k : Int) ≤ d.g * 255) : ∃ H', FnX Try.prog kn lo 34 [iv (k : Int), .pointer (some ⟨db, 0, none⟩), .pointer (some ⟨tb, 0, none⟩), .pointer (some ⟨wb, 0, none⟩)] H (.bool (rdP us d.g wanted k)) H' ∧ Keep H H' [] := by
 have key := fnX_low (kn := kn) (lo := lo) (H := H) (args := [iv (k : Int), .pointer (some ⟨db, 0, none⟩), .pointer (some ⟨tb, 0, none⟩), .pointer (some ⟨wb, 0, none⟩)]) (Q := fun w H' => w = .bool (rdP us d.g wanted k) ∧ Keep H H' []) Try.func34 B34 N34 Z34 L34 (by simp) ?_
 ·obtain ⟨w, H', h, rfl, q⟩ := key; exact ⟨H', h, q⟩
 have hk := Keep.refl H []
 have fs := hs.old
 have ldb := hdb.1
 have ltb := htb.1
 have lwb := hwb.1
 refine wN_seq <| wN_mov (v := .bool false) rfl <| wN_end <| wN_seq <| wN_lda (b := db) (o := 0) rfl hdb (show row 3 _ _ = some [iv d.r, iv d.g, iv d.c] from rfl) <| wN_alc ?_
 intro H1 kH1 nH1 c1
 have c1 : Cl H1 H.next [iv 0, iv 0, iv 0] := c1
 have mH1 := kH1.1
 have hk := hk.trans kH1
 have hs := kH1.sl0 hs
 have hdb := kH1.rd hdb (by simp)
 have htb := kH1.rd htb (by simp)
 have hwb := kH1.rd hwb (by simp)
 refine wN_sta (b := H.next) (o := 0) rfl rfl c1 (by omega) rfl rfl (by simp) ?_
 intro H2 kH2 nH2 sH2
 have mH2 := kH2.1
 have hk := hk.new kH2 (fun b hb => by simp at hb ⊢; omega)
 have hs := kH2.sl hs (fun b e => by have := fs b e; first | (simp; done) | (simp; omega))
 have hdb := kH2.rd hdb (by first | (simp; done) | (simp; omega))
 have htb := kH2.rd htb (by first | (simp; done) | (simp; omega))
 have hwb := kH2.rd hwb (by first | (simp; done) | (simp; omega))
 have c1 : Cl H2 H.next [iv d.r, iv d.g, iv d.c] := sH2
 refine wN_end <| wN_seq <| wN_mov (v := iv (k : Int)) rfl <| wN_addo (b := H.next) (o := 0) rfl <| wN_st (b := H.next) (o := 2) rfl rfl c1 (by omega) rfl rfl (by simp) ?_
 intro H3 kH3 nH3 sH3
 have mH3 := kH3.1
 have hk := hk.new kH3 (fun b hb => by simp at hb ⊢; omega)
 have hs := kH3.sl hs (fun b e => by have := fs b e; first | (simp; done) | (simp; omega))
 have hdb := kH3.rd hdb (by first | (simp; done) | (simp; omega))
 have htb := kH3.rd htb (by first | (simp; done) | (simp; omega))
 have hwb := kH3.rd hwb (by first | (simp; done) | (simp; omega))
 have c1 : Cl H3 H.next [iv d.r, iv d.g, iv (k : Int)] := sH3
 refine wN_end <| wN_seq <| wN_lda (b := tb) (o := 0) rfl htb (show row 2 _ _ = some [.slice sa n cap, iv adv] from rfl) <| wN_lda (b := H.next) (o := 0) rfl c1.rd (show row 3 _ _ = some [iv d.r, iv d.g, iv (k : Int)] from rfl) ?_
 obtain ⟨H4, fH4, kH4⟩ := worth_ok (kn := kn) (lo := lo) (H := H3) (adv := adv) hs hl hn (by omega) hu h0 (d := ⟨d.r, d.g, (k : Int)⟩) ⟨hd.1, hd.2.1, (by show (0 : Int) ≤ (k : Int); omega), hkg⟩
 refine wN_callf (vs := [.agg #[.slice sa n cap, iv adv], .agg #[iv d.r, iv d.g, iv (k : Int)]]) rfl (callX_args fH4) ?_
 have mH4 := kH4.1
 have hk := hk.trans kH4
 have hs := kH4.sl0 hs
 have hdb := kH4.rd hdb (by simp)
 have htb := kH4.rd htb (by simp)
 have hwb := kH4.rd hwb (by simp)
 have c1 := kH4.cl c1 (by simp)
 refine wN_mov (v := .tuple #[iv (wW us ⟨d.r, d.g, (k : Int)⟩), iv (wI us ⟨d.r, d.g, (k : Int)⟩)]) rfl <| wN_pur (v := iv (wW us ⟨d.r, d.g, (k : Int)⟩)) rfl (by kernel_rfl) <| wN_pur (v := iv (wI us ⟨d.r, d.g, (k : Int)⟩)) rfl (by kernel_rfl) <| wN_mov (v := iv (wW us ⟨d.r, d.g, (k : Int)⟩)) rfl <| wN_mov (v := iv (wI us ⟨d.r, d.g, (k : Int)⟩)) rfl <| wN_end <| wN_seq <| wN_mov (v := iv (wW us ⟨d.r, d.g, (k : Int)⟩)) rfl <| wN_ld (b := wb) (o := 0) (v := iv wanted) rfl hwb rfl <| wN_c_geq (a := (wW us ⟨d.r, d.g, (k : Int)⟩)) (b := wanted) rfl rfl <| wN_mov (v := .bool (decide ((wW us ⟨d.r, d.g, (k : Int)⟩) ≥ wanted))) rfl <| wN_end ?_
 exact And.intro trivial (Exists.intro _ (And.intro rfl ⟨by unfold rdP; rw [← wW_r (r := d.r)]; rfl, hk⟩))
end
end
end Go.Ax

/-
 Pool: Worth, Redder, as the program and as the document have them (written by program).
-/
namespace Go.Ax
open Go Go.RowKit Go.Proofs

noncomputable section
def wtV (us : List Pr) (adv : Int) (d : Dl) : Int := if (vT us adv && !badD d) = true then wW us d else 0
def wtI (us : List Pr) (adv : Int) (d : Dl) : Int := if (vT us adv && !badD d) = true then wI us d else 0
def wtE (us : List Pr) (adv : Int) (d : Dl) : Int := if (vT us adv && !badD d) = true then 0 else 1
section
variable {kn : Kn} {lo : Nat} {H : Hp}
theorem Worth_ok {us : List Pr} {sa : Option Addr} {n cap : Nat} {adv : Int} (hs : Sl H sa n cap (prc us)) (hl : us.length = n) (hn : n ≤ 1000000) (hlo : lo ≤ H.next) {d : Dl} : ∃ H', FnX Try.prog kn lo 12 [.agg #[.slice sa n cap, iv adv], .agg (Dl.f d).toArray] H (.tuple #[iv (wtV us adv d), iv (wtI us adv d), iv (wtE us adv d)]) H' ∧ Keep H H' [] := by
 have key := fnX_low (kn := kn) (lo := lo) (H := H) (args := [.agg #[.slice sa n cap, iv adv], .agg (Dl.f d).toArray]) (Q := fun w H' => w = .tuple #[iv (wtV us adv d), iv (wtI us adv d), iv (wtE us adv d)] ∧ Keep H H' []) Try.func12 B12 N12 Z12 L12 (by simp) ?_
 ·obtain ⟨w, H', h, rfl, q⟩ := key; exact ⟨H', h, q⟩
 have hk := Keep.refl H []
 have fs := hs.old
 refine wN_seq <| wN_box (v := .agg #[.slice sa n cap, iv adv]) rfl ?_
 intro H1 kH1 nH1 c1
 have c1 : Cl H1 H.next [.slice sa n cap, iv adv] := c1
 have mH1 := kH1.1
 have hk := hk.trans kH1
 have hs := kH1.sl0 hs
 refine wN_box (v := .agg (Dl.f d).toArray) rfl ?_
 intro H2 kH2 nH2 c2
 have c2 : Cl H2 H1.next [iv d.r, iv d.g, iv d.c] := c2
 have mH2 := kH2.1
 have hk := hk.trans kH2
 have hs := kH2.sl0 hs
 have c1 := kH2.cl c1 (by simp)
 refine wN_mov (v := iv 0) rfl <| wN_mov (v := iv 0) rfl <| wN_mov (v := iv 0) rfl <| wN_end <| wN_seq <| wN_lda (b := H.next) (o := 0) rfl c1.rd (show row 2 _ _ = some [.slice sa n cap, iv adv] from rfl) <| wN_callB rfl (vT_ok hs hl hn (by omega)) ?_
 intro tH3 H3 hH3 kH3
 have mH3 := kH3.1
 have hk := hk.trans kH3
 have hs := kH3.sl0 hs
 have c1 := kH3.cl c1 (by simp)
 have c2 := kH3.cl c2 (by simp)
 cases tH3
 ·have vhH3 : vT us adv = false := hH3
  have qvT := vhH3
  refine wN_pur (v := .bool true) rfl rfl <| wN_mov (v := .bool true) rfl <| wN_gs rfl <| wN_gs rfl <| wN_pur (v := .bool true) rfl rfl <| wN_end <| condT <| wN_seq <| wN_mov (v := iv 0) rfl <| wN_mov (v := iv 0) rfl <| wN_mov (v := iv 1) rfl <| wN_end ?_
  exact And.intro trivial (Exists.intro _ (And.intro rfl ⟨by unfold wtV wtI wtE; first | (rw [qvT]; rfl) | (rw [qba]; simp; rfl) | (simp only [qvT, qba]; rfl), hk⟩))
 ·have vhH3 : vT us adv = true := hH3
  obtain ⟨h0x, h8, hu, ha1, ha2⟩ := vT_t vhH3
  have h0 : 0 < n := by omega
  have qvT := vhH3
  refine wN_pur (v := .bool false) rfl rfl <| wN_mov (v := .bool false) rfl ?_
  refine wN_g rfl (wN_lda (b := H1.next) (o := 0) rfl c2.rd (show row 3 _ _ = some [iv d.r, iv d.g, iv d.c] from rfl) ?_)
  refine wN_g rfl (wN_callB rfl (badD_ok (by omega)) ?_)
  intro tH4 H4 hH4 kH4
  have mH4 := kH4.1
  have hk := hk.trans kH4
  have hs := kH4.sl0 hs
  have c1 := kH4.cl c1 (by simp)
  have c2 := kH4.cl c2 (by simp)
  cases tH4
  ·have vhH4 : badD d = false := hH4
   have hd := okD_of vhH4
   have hd0 := hd
   have qba := vhH4
   refine wN_pur (v := .bool false) rfl rfl <| wN_end <| condF ?_
   first | refine wN_skip ?_ | skip
   refine wN_seq <| wN_lda (b := H.next) (o := 0) rfl c1.rd (show row 2 _ _ = some [.slice sa n cap, iv adv] from rfl) <| wN_lda (b := H1.next) (o := 0) rfl c2.rd (show row 3 _ _ = some [iv d.r, iv d.g, iv d.c] from rfl) ?_
   obtain ⟨H5, fH5, kH5⟩ := worth_ok (kn := kn) (lo := lo) (H := H4) (adv := adv) hs hl hn (by omega) hu h0 (d := d) hd
   refine wN_callf (vs := [.agg #[.slice sa n cap, iv adv], .agg #[iv d.r, iv d.g, iv d.c]]) rfl (callX_args fH5) ?_
   have mH5 := kH5.1
   have hk := hk.trans kH5
   have hs := kH5.sl0 hs
   have c1 := kH5.cl c1 (by simp)
   have c2 := kH5.cl c2 (by simp)
   refine wN_mov (v := .tuple #[iv (wW us d), iv (wI us d)]) rfl <| wN_pur (v := iv (wW us d)) rfl (by kernel_rfl) <| wN_pur (v := iv (wI us d)) rfl (by kernel_rfl) <| wN_mov (v := iv (wW us d)) rfl <| wN_mov (v := iv (wI us d)) rfl <| wN_end <| wN_seq <| wN_mov (v := iv (wW us d)) rfl <| wN_mov (v := iv (wI us d)) rfl <| wN_mov (v := iv (wW us d)) rfl <| wN_mov (v := iv (wI us d)) rfl <| wN_mov (v := iv 0) rfl ?_
   refine wN_end ?_
   exact And.intro trivial (Exists.intro _ (And.intro rfl ⟨by unfold wtV wtI wtE; rw [qvT, qba]; rfl, hk⟩))
  ·have vhH4 : badD d = true := hH4
   have qba := vhH4
   refine wN_pur (v := .bool true) rfl rfl <| wN_end <| condT <| wN_seq <| wN_mov (v := iv 0) rfl <| wN_mov (v := iv 0) rfl <| wN_mov (v := iv 1) rfl <| wN_end ?_
   exact And.intro trivial (Exists.intro _ (And.intro rfl ⟨by unfold wtV wtI wtE; first | (rw [qvT]; rfl) | (rw [qba]; simp; rfl) | (simp only [qvT, qba]; rfl), hk⟩))
set_option maxRecDepth 100000 in
theorem Redder_ok {us : List Pr} {sa : Option Addr} {n cap : Nat} {adv : Int} (hs : Sl H sa n cap (prc us)) (hl : us.length = n) (hn : n ≤ 1000000) (hlo : lo ≤ H.next) {d : Dl} {wanted : Int} : ∃ x e H', FnX Try.prog kn lo 14 [.agg #[.slice sa n cap, iv adv], .agg (Dl.f d).toArray, iv wanted] H (.tuple #[iv x, iv e]) H' ∧ RdS us adv d wanted x e ∧ Keep H H' [] := by
 have key := fnX_low (kn := kn) (lo := lo) (H := H) (args := [.agg #[.slice sa n cap, iv adv], .agg (Dl.f d).toArray, iv wanted]) (Q := fun w H' => ∃ x e, w = .tuple #[iv x, iv e] ∧ RdS us adv d wanted x e ∧ Keep H H' []) Try.func14 B14 N14 Z14 L14 (by simp) ?_
 ·obtain ⟨w, H', h, x, e, rfl, r⟩ := key; exact ⟨x, e, H', h, r⟩
 have hk := Keep.refl H []
 have fs := hs.old
 refine wN_seq <| wN_box (v := .agg #[.slice sa n cap, iv adv]) rfl ?_
 intro H1 kH1 nH1 c1
 have c1 : Cl H1 H.next [.slice sa n cap, iv adv] := c1
 have mH1 := kH1.1
 have hk := hk.trans kH1
 have hs := kH1.sl0 hs
 refine wN_box (v := .agg (Dl.f d).toArray) rfl ?_
 intro H2 kH2 nH2 c2
 have c2 : Cl H2 H1.next [iv d.r, iv d.g, iv d.c] := c2
 have mH2 := kH2.1
 have hk := hk.trans kH2
 have hs := kH2.sl0 hs
 have c1 := kH2.cl c1 (by simp)
 refine wN_box (v := iv wanted) rfl ?_
 intro H3 kH3 nH3 c3
 have c3 : Cl H3 H2.next [iv wanted] := c3
 have mH3 := kH3.1
 have hk := hk.trans kH3
 have hs := kH3.sl0 hs
 have c1 := kH3.cl c1 (by simp)
 have c2 := kH3.cl c2 (by simp)
 refine wN_mov (v := iv 0) rfl <| wN_mov (v := iv 0) rfl <| wN_end <| wN_seq <| wN_lda (b := H.next) (o := 0) rfl c1.rd (show row 2 _ _ = some [.slice sa n cap, iv adv] from rfl) <| wN_callB rfl (vT_ok hs hl hn (by omega)) ?_
 intro tH4 H4 hH4 kH4
 have mH4 := kH4.1
 have hk := hk.trans kH4
 have hs := kH4.sl0 hs
 have c1 := kH4.cl c1 (by simp)
 have c2 := kH4.cl c2 (by simp)
 have c3 := kH4.cl c3 (by simp)
 cases tH4
 ·have vhH4 : vT us adv = false := hH4
  have qvT := vhH4
  refine wN_pur (v := .bool true) rfl rfl <| wN_mov (v := .bool true) rfl <| wN_gs rfl <| wN_gs rfl <| wN_pur (v := .bool true) rfl rfl <| wN_end <| condT <| wN_seq <| wN_mov (v := iv 0) rfl <| wN_mov (v := iv 1) rfl <| wN_end ?_
  exact And.intro trivial (Exists.intro _ (And.intro rfl ⟨0, 1, rfl, by unfold RdS; rw [if_neg (by first | (rw [qvT]; simp; done) | (rw [qba]; simp; done))], hk⟩))
 ·have vhH4 : vT us adv = true := hH4
  obtain ⟨h0x, h8, hu, ha1, ha2⟩ := vT_t vhH4
  have h0 : 0 < n := by omega
  have qvT := vhH4
  refine wN_pur (v := .bool false) rfl rfl <| wN_mov (v := .bool false) rfl ?_
  refine wN_g rfl (wN_lda (b := H1.next) (o := 0) rfl c2.rd (show row 3 _ _ = some [iv d.r, iv d.g, iv d.c] from rfl) ?_)
  refine wN_g rfl (wN_callB rfl (badD_ok (by omega)) ?_)
  intro tH5 H5 hH5 kH5
  have mH5 := kH5.1
  have hk := hk.trans kH5
  have hs := kH5.sl0 hs
  have c1 := kH5.cl c1 (by simp)
  have c2 := kH5.cl c2 (by simp)
  have c3 := kH5.cl c3 (by simp)
  cases tH5
  ·have vhH5 : badD d = false := hH5
   have hd := okD_of vhH5
   have hd0 := hd
   have qba := vhH5
   refine wN_pur (v := .bool false) rfl rfl <| wN_end <| condF ?_
   first | refine wN_skip ?_ | skip
   refine wN_seq <| wN_ld (b := H2.next) (o := 0) (v := iv wanted) rfl c3.rd rfl <| wN_callB rfl (in32_ok) ?_
   intro tH6 H6 hH6 kH6
   have mH6 := kH6.1
   have hk := hk.trans kH6
   have hs := kH6.sl0 hs
   have c1 := kH6.cl c1 (by simp)
   have c2 := kH6.cl c2 (by simp)
   have c3 := kH6.cl c3 (by simp)
   cases tH6
   ·have qwa : inB wanted 0 1073741824 = false := hH6
    have hwr := inB_f qwa
    refine wN_pur (v := .bool true) rfl rfl <| wN_end <| condT <| wN_seq <| wN_mov (v := iv 0) rfl <| wN_mov (v := iv 2) rfl <| wN_end ?_
    exact And.intro trivial (Exists.intro _ (And.intro rfl ⟨0, 2, rfl, by unfold RdS; rw [if_pos (by rw [qvT, qba]; rfl), if_neg (by rw [qwa]; simp)], hk⟩))
   ·have qwa : inB wanted 0 1073741824 = true := hH6
    have hwr := inB_t qwa
    refine wN_pur (v := .bool false) rfl rfl <| wN_end <| condF ?_
    first | refine wN_skip ?_ | skip
    refine wN_seq <| wN_addo (b := H1.next) (o := 0) rfl <| wN_ld (b := H1.next) (o := 1) (v := iv d.g) rfl c2.rd rfl <| wN_mul (a := d.g) (b := 255) rfl rfl ⟨by have := hd0.1; have := hd0.2.1; omega, by have := hd0.1; have := hd0.2.1; omega⟩ <| wN_pur (v := .func (.func 34) #[] #[pt H1.next, pt H.next, pt H2.next]) rfl (by kernel_rfl) ?_
    obtain ⟨hg1, hg2, hg3, hg4⟩ := hd0
    obtain ⟨m, H7, fH7, hm, kH7⟩ := enough_ok (kn := kn) (lo := lo) (H := H6) (N := (d.g * 255).toNat) (F := 34) (caps := #[.pointer (some ⟨H1.next, 0, none⟩), .pointer (some ⟨H.next, 0, none⟩), .pointer (some ⟨H2.next, 0, none⟩)]) (rdP us d.g wanted) (by omega) (fun kk HH kH hkk => by
     obtain ⟨H9, f9, k9⟩ := red34_ok (kn := kn) (lo := lo) (H := HH) (adv := adv) (kH.sl0 hs) hl hn (by have := kH.1; omega) hu h0 hd (k := kk) (wanted := wanted) (kH.rd c2.rd (by simp)) (kH.rd c1.rd (by simp)) (kH.rd c3.rd (by simp)) (by omega)
     exact ⟨H9, callX_func rfl (by simpa using f9), k9⟩)
    refine wN_callf (vs := [iv (d.g * 255), .func (.func 34) #[] #[pt H1.next, pt H.next, pt H2.next]]) rfl (by have q := callX_args fH7; rw [show (((d.g * 255).toNat : Nat) : Int) = d.g * 255 by omega] at q; exact q) ?_
    have mH7 := kH7.1
    have hk := hk.trans kH7
    have hs := kH7.sl0 hs
    have c1 := kH7.cl c1 (by simp)
    have c2 := kH7.cl c2 (by simp)
    have c3 := kH7.cl c3 (by simp)
    refine wN_pur (v := iv ((pick2 ((d.g * 255).toNat + 1) m).1)) rfl (by kernel_rfl) <| wN_pur (v := iv ((pick2 ((d.g * 255).toNat + 1) m).2)) rfl (by kernel_rfl) <| wN_mov (v := iv ((pick2 ((d.g * 255).toNat + 1) m).1)) rfl <| wN_mov (v := iv ((pick2 ((d.g * 255).toNat + 1) m).2)) rfl <| wN_end ?_
    exact And.intro trivial (Exists.intro _ (And.intro rfl ⟨_, _, rfl, by unfold RdS; rw [if_pos (by rw [qvT, qba]; rfl), if_pos qwa]; exact ⟨m, by rw [show (d.g * 255 + 1).toNat = (d.g * 255).toNat + 1 by omega]; exact ⟨hm, rfl⟩⟩, hk⟩))
  ·have vhH5 : badD d = true := hH5
   have qba := vhH5
   refine wN_pur (v := .bool true) rfl rfl <| wN_end <| condT <| wN_seq <| wN_mov (v := iv 0) rfl <| wN_mov (v := iv 1) rfl <| wN_end ?_
   exact And.intro trivial (Exists.intro _ (And.intro rfl ⟨0, 1, rfl, by unfold RdS; rw [if_neg (by first | (rw [qvT]; simp; done) | (rw [qba]; simp; done))], hk⟩))
end
end
end Go.Ax

/-
 Pool: what a grower delivered (53), with its iterator (63) (written by program).
-/
namespace Go.Ax
open Go Go.RowKit Go.Proofs

def wA (us : List Pr) (adv : Int) (d : Dl) : Int := wW us d * adv / 1000
theorem wA_in {us : List Pr} {adv : Int} {d : Dl} (hu : us.any badP = false) (h0 : 0 < us.length) (ha1 : 0 ≤ adv) (ha2 : adv ≤ 1000) (hd : okD d) : 0 ≤ wW us d * adv ∧ wW us d * adv ≤ 35115653000 ∧ 0 ≤ wA us adv d ∧ wA us adv d ≤ 35115653 := by
 have h := wW_in hu h0 hd
 have := mulb h.1 h.2 ha1 ha2
 unfold wA; omega
def hwS (us : List Pr) (ds : List Dl) (g : Int) : Nat → Int
 | 0 => 0
 | k + 1 => hwS us ds g k + (if (ds.getD k Dl.z).r = g then wW us (ds.getD k Dl.z) else 0)
def haS (us : List Pr) (adv : Int) (ds : List Dl) (g : Int) : Nat → Int
 | 0 => 0
 | k + 1 => haS us adv ds g k + (if (ds.getD k Dl.z).r = g then wA us adv (ds.getD k Dl.z) else 0)
theorem hwS_in {us : List Pr} {ds : List Dl} {g : Int} (hu : us.any badP = false) (h0 : 0 < us.length) (hd : ds.any badD = false) : ∀ k, k ≤ ds.length → 0 ≤ hwS us ds g k ∧ hwS us ds g k ≤ 35115653 * k
 | 0, _ => by show (0 : Int) ≤ 0 ∧ (0 : Int) ≤ 35115653 * ((0 : Nat) : Int); omega
 | k + 1, h => by
  have ih := hwS_in (g := g) hu h0 hd k (by omega)
  have w := wW_in hu h0 (okD_of (any_at (z := Dl.z) hd (show k < ds.length by omega)))
  show 0 ≤ hwS us ds g k + _ ∧ hwS us ds g k + _ ≤ 35115653 * ((k + 1 : Nat) : Int)
  split <;> omega
theorem haS_in {us : List Pr} {adv : Int} {ds : List Dl} {g : Int} (hu : us.any badP = false) (h0 : 0 < us.length) (ha1 : 0 ≤ adv) (ha2 : adv ≤ 1000) (hd : ds.any badD = false) : ∀ k, k ≤ ds.length → 0 ≤ haS us adv ds g k ∧ haS us adv ds g k ≤ 35115653 * k
 | 0, _ => by show (0 : Int) ≤ 0 ∧ (0 : Int) ≤ 35115653 * ((0 : Nat) : Int); omega
 | k + 1, h => by
  have ih := haS_in (g := g) hu h0 ha1 ha2 hd k (by omega)
  have w := wA_in hu h0 ha1 ha2 (okD_of (any_at (z := Dl.z) hd (show k < ds.length by omega)))
  show 0 ≤ haS us adv ds g k + _ ∧ haS us adv ds g k + _ ≤ 35115653 * ((k + 1 : Nat) : Int)
  split <;> omega
noncomputable section
section
variable {kn : Kn} {lo : Nat} {H : Hp}
theorem adv_ok {sa : Option Addr} {n cap : Nat} {adv x : Int} (h1 : 0 ≤ x * adv) (h2 : x * adv ≤ 35115653000) (hlo : lo ≤ H.next) : ∃ H', FnX Try.prog kn lo 59 [.agg #[.slice sa n cap, iv adv], iv x] H (iv (x * adv / 1000)) H' ∧ Keep H H' [] := by
 have key := fnX_low (kn := kn) (lo := lo) (H := H) (args := [.agg #[.slice sa n cap, iv adv], iv x]) (Q := fun w H' => w = iv (x * adv / 1000) ∧ Keep H H' []) Try.func59 B59 N59 Z59 L59 (by simp) ?_
 ·obtain ⟨w, H', h, rfl, q⟩ := key; exact ⟨H', h, q⟩
 have hk := Keep.refl H []
 refine wN_seq <| wN_box (v := .agg #[.slice sa n cap, iv adv]) rfl ?_
 intro H1 kH1 nH1 c1
 have c1 : Cl H1 H.next [.slice sa n cap, iv adv] := c1
 have mH1 := kH1.1
 have hk := hk.trans kH1
 refine wN_mov (v := iv 0) rfl <| wN_end <| wN_seq <| wN_mov (v := iv x) rfl <| wN_addo (b := H.next) (o := 0) rfl <| wN_ld (b := H.next) (o := 1) (v := iv adv) rfl c1.rd rfl <| wN_mul (a := x) (b := adv) rfl rfl ⟨by omega, by omega⟩ <| wN_quo (a := x * adv) (b := 1000) rfl rfl (by omega) (by omega) ⟨by omega, by omega⟩ <| wN_mov (v := iv ((x * adv) / 1000)) rfl <| wN_end ?_
 exact And.intro trivial (Exists.intro _ (And.intro rfl ⟨rfl, hk⟩))
theorem dels_ok {la : Option Addr} {m capl : Nat} {g : Int} (hlo : lo ≤ H.next) : ∃ H', FnX Try.prog kn lo 58 [.slice la m capl, iv g] H (.func (.func 63) #[] #[pt H.next, pt (H.next + 1)]) H' ∧ Rd H' H.next [.slice la m capl] ∧ Rd H' (H.next + 1) [iv g] ∧ H'.next = H.next + 2 ∧ Keep H H' [] := by
 have key := fnX_low (kn := kn) (lo := lo) (H := H) (args := [.slice la m capl, iv g]) (Q := fun w H' => w = (.func (.func 63) #[] #[pt H.next, pt (H.next + 1)]) ∧ Rd H' H.next [.slice la m capl] ∧ Rd H' (H.next + 1) [iv g] ∧ H'.next = H.next + 2 ∧ Keep H H' []) Try.func58 B58 N58 Z58 L58 (by simp) ?_
 ·obtain ⟨w, H', h, rfl, q⟩ := key; exact ⟨H', h, q⟩
 refine wN_seq (wN_box (v := .slice la m capl) rfl fun H1 k1 n1 c1 => wN_box (v := iv g) rfl fun H2 k2 n2 c2 => wN_mov rfl (wN_end ?_))
 rw [n1] at c2
 refine wN_seq (wN_pur (v := .func (.func 63) #[] #[pt H.next, pt H1.next]) rfl (by kernel_rfl) (wN_mov rfl (wN_end ?_)))
 exact ⟨True.intro, [.func (.func 63) #[] #[pt H.next, pt H1.next]], rfl, by rw [n1]; rfl, (k2.cl c1 (by simp)).rd, c2.rd, by omega, k1.trans k2⟩
set_option maxRecDepth 100000 in
theorem iter63_ok {J : Nat → Hp → Prop} {base : Nat} {Wy : List Nat} {l bL bG m capl : Nat} {la : Option Addr} {ds : List Dl} {g : Int} (hm : ds.length = m) (hm2 : m ≤ 1000000) (hlb : lo ≤ base) (hW : ∀ x ∈ Wy, x < base) (jm : ∀ k H1 H2 W, J k H1 → Keep H1 H2 W → (∀ x ∈ W, base ≤ x) → J k H2)
  (je : ∀ k H1, J k H1 → Rd H1 bL [.slice la m capl] ∧ Rd H1 bG [iv g] ∧ Sl H1 la m capl (dlc ds))
  (step : ∀ k H1, k < m → (ds.getD k Dl.z).r = g → J k H1 → base ≤ H1.next → ∃ H2, CallsX Try.prog kn lo (.fn (.yield l) #[]) [.agg (Dl.f (ds.getD k Dl.z)).toArray] H1 (.bool true) H2 ∧ J (k + 1) H2 ∧ Keep H1 H2 Wy)
  (skip : ∀ k H1, k < m → (ds.getD k Dl.z).r ≠ g → J k H1 → J (k + 1) H1) (hbn : base ≤ H.next) (hJ : J 0 H) :
  ∃ H', FnX Try.prog kn lo 63 [.func (.yield l) #[] #[], pt bL, pt bG] H unit H' ∧ J m H' := by
 have key := fnX_low (kn := kn) (lo := lo) (H := H) (args := [.func (.yield l) #[] #[], pt bL, pt bG]) (Q := fun w H' => w = unit ∧ J m H') Try.func63 B63 N63 Z63 L63 (by simp) ?_
 ·obtain ⟨w, H', h, rfl, q⟩ := key; exact ⟨H', h, q⟩
 obtain ⟨rL, rG, hd⟩ := je _ _ hJ
 have fs := hd.old
 refine wN_seq <| wN_ld (b := bL) (o := 0) (v := .slice la m capl) rfl rL rfl <| wN_len (m := m) rfl <| wN_mov (v := iv 0) rfl <| wN_end ?_
 refine loop_low (fn := Try.f63) E63_1 N63 L63x1 (fun i : Nat => [(0, .func (.yield l) #[] #[]), (1, pt bL), (2, pt bG), (6, .slice la m capl), (7, iv (m : Int)), (8, iv (i : Int))])
  (fun k i H' => i + k = m ∧ J i H' ∧ base ≤ H'.next) m 0 ⟨by omega, hJ, hbn⟩ ⟨rfl, rfl, rfl, rfl, rfl, rfl, trivial⟩ ?_
 rintro k i L1 ⟨hik, hJ, hbn⟩
 obtain ⟨rL, rG, hd⟩ := je _ _ hJ
 have fs := hd.old; have lL := rL.lt; have lG := rG.lt
 refine wN_seq <| wN_c_lss (a := (i : Int)) (b := (m : Int)) rfl rfl <| wN_end ?_
 refine And.intro (fun q1 => ?_) (fun q1 => ?_)
 ·have q1 : (i : Int) < (m : Int) := of_decide_eq_true q1
  have hi : i < m := by omega
  rcases id hd with ⟨_, h0s, _⟩ | ⟨sb, es, rs, _⟩
  ·omega
  have ls := rs.1
  first | refine wN_skip ?_ | skip
  refine wN_seq <| wN_idx (b := sb) (o := 0) (k := i) (j := (i : Int)) (by rw [← es]; rfl) rfl rfl hi <| wN_lda (b := sb) (o := 0 + i * 3) rfl rs (dlc_rowF (by omega)) <| wN_alc ?_
  intro H1 kH1 nH1 c1
  have c1 : Cl H1 L1.next [iv 0, iv 0, iv 0] := c1
  have mH1 := kH1.1
  have hJ := jm _ _ _ _ hJ kH1 (fun x hx => by first | (simp at hx; done) | (simp at hx; omega))
  have rL := kH1.rd rL (by simp)
  have rG := kH1.rd rG (by simp)
  have hd := kH1.sl0 hd
  have rs := kH1.rd rs (by simp)
  refine wN_sta (b := L1.next) (o := 0) rfl rfl c1 (by omega) rfl rfl (by simp) ?_
  intro H2 kH2 nH2 sH2
  have mH2 := kH2.1
  have hJ := jm _ _ _ _ hJ kH2 (fun x hx => by first | (simp at hx; done) | (simp at hx; omega))
  have rL := kH2.rd rL (by first | (simp; done) | (simp; omega))
  have rG := kH2.rd rG (by first | (simp; done) | (simp; omega))
  have hd := kH2.sl hd (fun b e => by have := fs b e; first | (simp; done) | (simp; omega))
  have rs := kH2.rd rs (by first | (simp; done) | (simp; omega))
  have c1 : Cl H2 L1.next [iv ((ds.getD i Dl.z).r), iv ((ds.getD i Dl.z).g), iv ((ds.getD i Dl.z).c)] := sH2
  refine wN_end <| wN_seq <| wN_addo (b := L1.next) (o := 0) rfl <| wN_ld (b := L1.next) (o := 0) (v := iv ((ds.getD i Dl.z).r)) rfl c1.rd rfl <| wN_ld (b := bG) (o := 0) (v := iv g) rfl rG rfl <| wN_b_eql (a := (ds.getD i Dl.z).r) (b := g) rfl rfl ?_
  intro t2 g2; cases t2
  ·have g2 : ¬ (((ds.getD i Dl.z).r) = g) := by simpa using g2
   refine wN_mov (v := .bool false) rfl <| wN_gs rfl <| wN_gs rfl <| wN_gs rfl <| wN_gs rfl <| wN_pur (v := .bool false) rfl rfl <| wN_end <| condF ?_
   have hJ := skip i _ hi (by omega) hJ
   first | refine wN_skip ?_ | skip
   first | refine wN_reg ?_ | refine wN_blk ?_ | refine wN_bseq ?_ | (refine wOps_nil ?_; refine wN_reg ?_)
   refine wN_add (a := (i : Int)) (b := 1) rfl rfl ⟨by omega, by omega⟩ <| wN_mov (v := iv ((i : Int) + 1)) rfl <| wN_end ?_
   exact ⟨k - 1, i + 1, by omega, ⟨by omega, hJ, by omega⟩, rfl, rfl, rfl, rfl, rfl, rfl, trivial⟩
  ·have g2 : ((ds.getD i Dl.z).r) = g := by simpa using g2
   refine wN_mov (v := .bool true) rfl ?_
   refine wN_g rfl (wN_mov (v := .func (.yield l) #[] #[]) rfl ?_)
   refine wN_g rfl (wN_lda (b := L1.next) (o := 0) rfl c1.rd (show row 3 _ _ = some [iv ((ds.getD i Dl.z).r), iv ((ds.getD i Dl.z).g), iv ((ds.getD i Dl.z).c)] from rfl) ?_)
   obtain ⟨H3, fH3, hJ, kH3⟩ := step i H2 hi (by omega) hJ (by omega)
   refine wN_g rfl (wN_callf (vs := [.agg (Dl.f (ds.getD i Dl.z)).toArray]) rfl fH3 ?_)
   have mH3 := kH3.1
   refine wN_g rfl (wN_pur (v := .bool false) rfl rfl ?_)
   refine wN_pur (v := .bool false) rfl rfl <| wN_end <| condF ?_
   first | refine wN_skip ?_ | skip
   first | refine wN_reg ?_ | refine wN_blk ?_ | refine wN_bseq ?_ | (refine wOps_nil ?_; refine wN_reg ?_)
   refine wN_add (a := (i : Int)) (b := 1) rfl rfl ⟨by omega, by omega⟩ <| wN_mov (v := iv ((i : Int) + 1)) rfl <| wN_end ?_
   exact ⟨k - 1, i + 1, by omega, ⟨by omega, hJ, by omega⟩, rfl, rfl, rfl, rfl, rfl, rfl, trivial⟩
 ·have q1 : ¬ ((i : Int) < (m : Int)) := of_decide_eq_false q1
  first | (refine wN_exit ?_; show wC _ _ _ _ _ _ _ _ _) | skip
  have e : i = m := by omega
  exact And.intro trivial (Exists.intro _ (And.intro rfl ⟨rfl, by rw [← e]; exact hJ⟩))
abbrev asg53 : Code := at_ Try.f53 [1, 1, 0, 1, 0, 0]
abbrev body53 : Code := at_ Try.f53 [1, 1, 0, 1, 0, 1]
abbrev S53 (h : Nat) : Rg := [(3, pt h), (7, pt (h + 2))]
structure J53 (us : List Pr) (adv : Int) (ds : List Dl) (g : Int) (sa la : Option Addr) (n cap m capl : Nat) (H0 : Hp) (k : Nat) (H' : Hp) : Prop where
 acc : Cl H' (H0.next + 2) [iv g, iv (hwS us ds g k), iv (haS us adv ds g k)]
 rT : Cl H' H0.next [.slice sa n cap, iv adv]
 r6 : Cl H' (H0.next + 1) [iv 0, iv 0, iv 0]
 rL : Rd H' (H0.next + 3) [.slice la m capl]
 rG : Rd H' (H0.next + 4) [iv g]
 lp : Lp Try.prog H' (H0.next + 6) .ready none 36 (S53 H0.next) [16] asg53 body53 (H0.next + 5)
 dfr : H'.t.get (H0.next + 5) = some (.dfr (some []))
 ll : H0.next + 7 ≤ H'.next
 kp : Keep H0 H' []
section
variable {us : List Pr} {adv : Int} {ds : List Dl} {g : Int} {sa la : Option Addr} {n cap m capl : Nat} {H0 : Hp}
theorem J53.keep {k : Nat} {H1 H2 : Hp} (j : J53 us adv ds g sa la n cap m capl H0 k H1) {W : List Nat} (kk : Keep H1 H2 W) (hW : ∀ b ∈ W, H0.next + 7 ≤ b) : J53 us adv ds g sa la n cap m capl H0 k H2 := by
 have nw : ∀ x, x < H0.next + 7 → x ∉ W := fun x hx q => by have := hW x q; omega
 have ll := j.ll
 exact ⟨kk.cl j.acc (nw _ (by omega)), kk.cl j.rT (nw _ (by omega)), kk.cl j.r6 (nw _ (by omega)), kk.rd j.rL (nw _ (by omega)), kk.rd j.rG (nw _ (by omega)), j.lp.keep kk (by omega) (nw _ (by omega)), by rw [kk.2 _ (by omega) (nw _ (by omega))]; exact j.dfr, Nat.le_trans j.ll kk.1, j.kp.new kk (fun b q => .inr (by have := hW b q; omega))⟩
set_option maxRecDepth 100000 in
theorem round53 (hs : Sl H0 sa n cap (prc us)) (hl : us.length = n) (hn : n ≤ 1000000) (hu : us.any badP = false) (h0 : 0 < n) (ha1 : 0 ≤ adv) (ha2 : adv ≤ 1000) (hm : ds.length = m) (hm2 : m ≤ 128) (hdv : ds.any badD = false) (hlo : lo ≤ H0.next) {k : Nat} (hkm : k < m) (hr : (ds.getD k Dl.z).r = g) (j : J53 us adv ds g sa la n cap m capl H0 k H) (hnx : H0.next + 7 ≤ H.next) :
  ∃ H', CallsX Try.prog kn lo (.fn (.yield (H0.next + 6)) #[]) [.agg (Dl.f (ds.getD k Dl.z)).toArray] H (.bool true) H' ∧ J53 us adv ds g sa la n cap m capl H0 (k + 1) H' ∧ Keep H H' [H0.next + 2, H0.next + 6] := by
 have L1 : low Try.prog 36 asg53 = some R53x1 := N53 ▸ L53x1
 have L2 : low Try.prog 36 body53 = some R53x2 := N53 ▸ L53x2
 have key := yield_ok (kn := kn) (P := Try.prog) (lo := lo) (S1 := (16, .agg (Dl.f (ds.getD k Dl.z)).toArray) :: S53 H0.next) (args := [.agg (Dl.f (ds.getD k Dl.z)).toArray]) (Q := fun t H' => t = true ∧ J53 us adv ds g sa la n cap m capl H0 (k + 1) H' ∧ Keep H H' [H0.next + 2, H0.next + 6]) j.lp (by omega) (by rfl) rfl (wC_sound true _ L1 ?_)
 ·obtain ⟨t, H', h, rfl, q⟩ := key; exact ⟨H', h, q⟩
 have ll := j.ll
 have hdx := okD_of (any_at (z := Dl.z) hdv (show k < ds.length by omega))
 have hwx := wW_in hu (by omega) hdx
 have hax := wA_in hu (by omega) ha1 ha2 hdx
 have hws := hwS_in (g := g) hu (by omega) hdv k (by omega)
 have has := haS_in (g := g) hu (by omega) ha1 ha2 hdv k (by omega)
 unfold wA at hax
 refine wN_reg <| wN_alc ?_
 intro H1 k1 n1 c1
 refine wN_sta (b := H.next) (o := 0) (v := .agg (Dl.f (ds.getD k Dl.z)).toArray) rfl rfl c1 (by omega) rfl rfl (by simp) ?_
 intro H2 k2 n2 c2
 have c2 : Cl H2 H.next (Dl.f (ds.getD k Dl.z)) := c2
 refine wN_end ?_
 have k02 : Keep H H2 [] := k1.new k2 (fun b hb => by simp at hb; omega)
 have m2 := k02.1
 have fs0 := hs.old
 refine And.intro trivial (And.intro (j.lp.keep k02 (by omega) (by simp)) ?_)
 intro H3 s3
 have k3 := s3.keep
 have hn3 : H3.next = H2.next := s3.1
 have lp3 := s3.lp (j.lp.keep k02 (by omega) (by simp))
 have nl : ∀ x, x ≠ H0.next + 6 → x ∉ [H0.next + 6] := fun x hx => by simpa using hx
 have k03 : Keep H H3 [H0.next + 6] := (k02.mono (by simp)).trans k3
 have c8 := k3.cl c2 (nl _ (by omega))
 have c7 := k03.cl j.acc (nl _ (by omega))
 have ct := k03.cl j.rT (nl _ (by omega))
 have kp3 := j.kp.new k03 (fun b q => .inr (by simp at q; omega))
 have hs := kp3.sl0 hs
 have fs := hs.old
 have fin : ∀ H4, Keep H3 H4 [H0.next + 2] → Cl H4 (H0.next + 2) [iv g, iv (hwS us ds g k + wW us (ds.getD k Dl.z)), iv (haS us adv ds g k + wW us (ds.getD k Dl.z) * adv / 1000)] →
   Lp Try.prog H4 (H0.next + 6) .busy none 36 (S53 H0.next) [16] asg53 body53 (H0.next + 5) ∧ ∀ H5, SetLp H4 (H0.next + 6) .ready none H5 → (true = true ∧ J53 us adv ds g sa la n cap m capl H0 (k + 1) H5 ∧ Keep H H5 [H0.next + 2, H0.next + 6]) := by
  intro H4 k4 d2
  have m4 := k4.1
  have lp4 := lp3.keep k4 (by omega) (by simp)
  refine ⟨lp4, fun H5 s5 => ?_⟩
  have k5 := s5.keep
  have hn5 : H5.next = H4.next := s5.1
  have k05 : Keep H H5 [H0.next + 2, H0.next + 6] := ((k03.mono (by simp)).trans (k4.mono (by simp))).trans (k5.mono (by simp))
  have n3 : ∀ x, x ≠ H0.next + 2 → x ≠ H0.next + 6 → x ∉ [H0.next + 2, H0.next + 6] := fun x h1 h2 => by simp; omega
  have ew : hwS us ds g (k + 1) = hwS us ds g k + wW us (ds.getD k Dl.z) := by show hwS us ds g k + _ = _; rw [if_pos hr]
  have ea : haS us adv ds g (k + 1) = haS us adv ds g k + wW us (ds.getD k Dl.z) * adv / 1000 := by show haS us adv ds g k + _ = _; rw [if_pos hr]; rfl
  exact ⟨rfl, ⟨by rw [ew, ea]; exact k5.cl d2 (nl _ (by omega)), k05.cl j.rT (n3 _ (by omega) (by omega)), k05.cl j.r6 (n3 _ (by omega) (by omega)), k05.rd j.rL (n3 _ (by omega) (by omega)), k05.rd j.rG (n3 _ (by omega) (by omega)), s5.lp lp4, by rw [k05.2 _ (by omega) (n3 _ (by omega) (by omega))]; exact j.dfr, by omega, j.kp.new k05 (fun b q => .inr (by simp at q; omega))⟩, k05⟩
 have hk := Keep.refl H3 [H0.next + 2]
 refine wC_sound true _ L2 ?_
 refine wN_seq <| wN_lda (b := H0.next) (o := 0) rfl ct.rd (show row 2 _ _ = some [.slice sa n cap, iv adv] from rfl) <| wN_lda (b := H.next) (o := 0) rfl c8.rd (show row 3 _ _ = some [iv ((ds.getD k Dl.z).r), iv ((ds.getD k Dl.z).g), iv ((ds.getD k Dl.z).c)] from rfl) ?_
 obtain ⟨H1, fH1, kH1⟩ := worth_ok (kn := kn) (lo := lo) (H := H3) (adv := adv) hs hl hn (by omega) hu h0 (d := (ds.getD k Dl.z)) hdx
 refine wN_callf (vs := [.agg #[.slice sa n cap, iv adv], .agg (Dl.f (ds.getD k Dl.z)).toArray]) rfl (callX_args fH1) ?_
 have mH1 := kH1.1
 have hk := hk.new kH1 (fun b hb => .inl (by first | (simp at hb; done) | (simp at hb; simp [hb])))
 have c7 := kH1.cl c7 (by simp)
 have ct := kH1.cl ct (by simp)
 have c8 := kH1.cl c8 (by simp)
 have hs := kH1.sl0 hs
 refine wN_mov (v := .tuple #[iv (wW us (ds.getD k Dl.z)), iv (wI us (ds.getD k Dl.z))]) rfl <| wN_pur (v := iv (wW us (ds.getD k Dl.z))) rfl (by kernel_rfl) <| wN_pur (v := iv (wI us (ds.getD k Dl.z))) rfl (by kernel_rfl) <| wN_mov (v := iv (wW us (ds.getD k Dl.z))) rfl <| wN_mov (v := iv (wI us (ds.getD k Dl.z))) rfl <| wN_end <| wN_seq <| wN_addo (b := (H0.next + 2)) (o := 0) rfl <| wN_ld (b := (H0.next + 2)) (o := 1) (v := iv (hwS us ds g k)) rfl c7.rd rfl <| wN_mov (v := iv (wW us (ds.getD k Dl.z))) rfl <| wN_add (a := (hwS us ds g k)) (b := (wW us (ds.getD k Dl.z))) rfl rfl ⟨by omega, by omega⟩ <| wN_addo (b := (H0.next + 2)) (o := 0) rfl ?_
 refine wN_st (b := (H0.next + 2)) (o := 1) rfl rfl c7 (by omega) rfl rfl (by simp) ?_
 intro H2 kH2 nH2 sH2
 have mH2 := kH2.1
 have hk := hk.new kH2 (fun b hb => .inl (by first | (simp at hb; done) | (simp at hb; simp [hb])))
 have ct := kH2.cl ct (by first | (simp; done) | (simp; omega))
 have c8 := kH2.cl c8 (by first | (simp; done) | (simp; omega))
 have hs := kH2.sl hs (fun b e => by have := fs0 b e; first | (simp; done) | (simp; omega))
 have c7 : Cl H2 (H0.next + 2) [iv g, iv ((hwS us ds g k) + (wW us (ds.getD k Dl.z))), iv (haS us adv ds g k)] := sH2
 refine wN_end ?_
 first | refine wD_dreg ?_ | refine wB_dreg ?_ | refine wB_seq ?_ | (refine wOps_nil ?_; refine wD_dreg ?_)
 refine wD_addo (b := (H0.next + 2)) (o := 0) rfl <| wD_ld (b := (H0.next + 2)) (o := 2) (v := iv (haS us adv ds g k)) rfl c7.rd rfl <| wD_lda (b := H0.next) (o := 0) rfl ct.rd (show row 2 _ _ = some [.slice sa n cap, iv adv] from rfl) <| wD_mov (v := iv (wW us (ds.getD k Dl.z))) rfl ?_
 obtain ⟨H3, fH3, kH3⟩ := adv_ok (kn := kn) (lo := H2.next) (H := H2) (sa := sa) (n := n) (cap := cap) (adv := adv) (x := wW us (ds.getD k Dl.z)) hax.1 hax.2.1 (Nat.le_refl _)
 refine wD_callh (vs := [.agg #[.slice sa n cap, iv adv], iv (wW us (ds.getD k Dl.z))]) rfl rfl (callX_args fH3) ?_
 have mH3 := kH3.1
 have hk := hk.new kH3 (fun b hb => .inl (by first | (simp at hb; done) | (simp at hb; simp [hb])))
 have ct := kH3.cl ct (by simp)
 have c8 := kH3.cl c8 (by simp)
 have hs := kH3.sl0 hs
 have c7 := kH3.cl c7 (by simp)
 refine wD_add (a := (haS us adv ds g k)) (b := (wW us (ds.getD k Dl.z) * adv / 1000)) rfl rfl ⟨by omega, by omega⟩ <| wD_addo (b := (H0.next + 2)) (o := 0) rfl <| wD_st (b := (H0.next + 2)) (o := 2) rfl rfl c7 (by omega) rfl rfl (by simp) ?_
 intro H4 kH4 nH4 sH4
 have mH4 := kH4.1
 have hk := hk.new kH4 (fun b hb => .inl (by first | (simp at hb; done) | (simp at hb; simp [hb])))
 have ct := kH4.cl ct (by first | (simp; done) | (simp; omega))
 have c8 := kH4.cl c8 (by first | (simp; done) | (simp; omega))
 have hs := kH4.sl hs (fun b e => by have := fs0 b e; first | (simp; done) | (simp; omega))
 have c7 : Cl H4 (H0.next + 2) [iv g, iv ((hwS us ds g k) + (wW us (ds.getD k Dl.z))), iv ((haS us adv ds g k) + (wW us (ds.getD k Dl.z) * adv / 1000))] := sH4
 refine wD_end (by repeat' first | exact True.intro | exact (fun h => h) | refine And.intro ?_ ?_ | (intro h; have h : (_ : Nat) = _ := h; omega)) ?_
 exact fin _ hk c7
end
set_option maxRecDepth 100000 in
theorem harvest_ok {us : List Pr} {adv : Int} {ds : List Dl} {g : Int} {sa la : Option Addr} {n cap m capl : Nat} (hs : Sl H sa n cap (prc us)) (hl : us.length = n) (hn : n ≤ 1000000) (hu : us.any badP = false) (h0 : 0 < n) (ha1 : 0 ≤ adv) (ha2 : adv ≤ 1000) (hm : ds.length = m) (hm2 : m ≤ 128) (hdv : ds.any badD = false) (hlo : lo ≤ H.next) (hd : Sl H la m capl (dlc ds)) :
  ∃ H', FnX Try.prog kn lo 53 [.agg #[.slice sa n cap, iv adv], .slice la m capl, iv g] H (.agg #[iv g, iv (hwS us ds g m), iv (haS us adv ds g m)]) H' ∧ Keep H H' [] := by
 have key := fnX_lowR (kn := kn) (lo := lo) (H := H) (args := [.agg #[.slice sa n cap, iv adv], .slice la m capl, iv g]) (Q := fun w H' => w = .agg #[iv g, iv (hwS us ds g m), iv (haS us adv ds g m)] ∧ Keep H H' []) Try.func53 B53 N53 Z53 L53 (by simp) ?_
 ·obtain ⟨w, H', h, rfl, q⟩ := key; exact ⟨H', h, q⟩
 intro y hy
 refine TriR.lowR hy ?_
 refine wN_reg <| wN_box (v := .agg #[.slice sa n cap, iv adv]) rfl ?_
 intro H1 k1 n1 c1
 have c1 : Cl H1 H.next [.slice sa n cap, iv adv] := c1
 refine wN_alc ?_
 intro H2 k2 n2 c2
 have c2 : Cl H2 H1.next [iv 0, iv 0, iv 0] := c2
 refine wN_end ?_
 intro y hy
 refine TriR.lowR hy ?_
 refine wN_reg <| wN_mov (v := iv g) rfl <| wN_pur (v := .agg #[iv g, iv 0, iv 0]) rfl (by kernel_rfl) <| wN_alc ?_
 intro H3 k3 n3 c3
 refine wN_sta (b := H2.next) (o := 0) (v := .agg #[iv g, iv 0, iv 0]) rfl rfl c3 (by omega) rfl rfl (by simp) ?_
 intro H4 k4 n4 c4
 have c4 : Cl H4 H2.next [iv g, iv 0, iv 0] := c4
 refine wN_end ?_
 have k04 : Keep H H4 [] := ((k1.trans k2).trans k3).new k4 (fun b hb => by simp at hb; omega)
 have c1 : Cl H4 H.next [.slice sa n cap, iv adv] := k4.cl (k3.cl (k2.cl c1 (by simp)) (by simp)) (by simp; omega)
 have c2 : Cl H4 H1.next [iv 0, iv 0, iv 0] := k4.cl (k3.cl c2 (by simp)) (by simp; omega)
 have e4 : H4.next = H.next + 3 := by omega
 intro y hy
 refine TriR.lowL hy ?_
 intro z hz
 refine TriR.lowR hz ?_
 refine wN_reg <| wN_mov (v := .slice la m capl) rfl <| wN_mov (v := iv g) rfl ?_
 obtain ⟨H5, f5, g1, g2, n5, k5⟩ := dels_ok (kn := kn) (lo := lo) (H := H4) (la := la) (m := m) (capl := capl) (g := g) (by omega)
 refine wN_callf (vs := [.slice la m capl, iv g]) rfl (callX_args f5) <| wN_end ?_
 intro y hy
 refine TriR.lowB hy ?_
 rw [E53_1]
 refine TriR.range rfl ?_
 intro H7 k7 n7 hdf hlp
 have e5 : H5.next = H.next + 5 := by omega
 have hlp : Lp Try.prog H7 (H5.next + 1) .ready none 36 [(3, pt H.next), (7, pt H2.next)] [16] asg53 body53 H5.next := hlp.weak ⟨rfl, rfl, trivial⟩
 rw [show H2.next = H.next + 2 by omega, e5] at hlp
 rw [e5] at hdf n7
 have k47 : Keep H4 H7 [] := k5.trans k7
 have k07 : Keep H H7 [] := k04.trans k47
 have d1 := k47.cl c1 (by simp)
 have d2 := k47.cl c2 (by simp)
 have d4 := k47.cl c4 (by simp)
 rw [show H1.next = H.next + 1 by omega] at d2
 rw [show H2.next = H.next + 2 by omega] at d4
 rw [e4] at g1 g2
 have j0 : J53 us adv ds g sa la n cap m capl H 0 H7 := ⟨d4, d1, d2, k7.rd g1 (by simp), k7.rd g2 (by simp), hlp, hdf, by omega, k07⟩
 obtain ⟨H8, f8, j8⟩ := iter63_ok (kn := kn) (lo := lo) (H := H7) (J := J53 us adv ds g sa la n cap m capl H) (base := H.next + 7) (Wy := [H.next + 2, H.next + 6]) (l := H.next + 6) (bL := H.next + 3) (bG := H.next + 4) (la := la) (m := m) (capl := capl) (ds := ds) (g := g) hm (by omega) (by omega) (fun x hx => by simp at hx; omega)
  (fun k H1 H2 W j kk hw => j.keep kk hw) (fun k H1 j => ⟨j.rL, j.rG, j.kp.sl0 hd⟩)
  (fun k H1 hkm hr j hb => round53 hs hl hn hu h0 ha1 ha2 hm hm2 hdv hlo hkm hr j hb)
  (fun k H1 hkm hr j => by
   have ew : hwS us ds g (k + 1) = hwS us ds g k := by show hwS us ds g k + _ = _; rw [if_neg hr, Int.add_zero]
   have ea : haS us adv ds g (k + 1) = haS us adv ds g k := by show haS us adv ds g k + _ = _; rw [if_neg hr, Int.add_zero]
   exact { j with acc := by rw [ew, ea]; exact j.acc }) (by omega) j0
 refine Exists.intro _ (Exists.intro H8 (And.intro (callX_func rfl (by rw [e4, e5]; simpa using f8)) ?_))
 have lp8 : Lp Try.prog H8 (H5.next + 1) .ready none 36 (S53 H.next) [16] asg53 body53 H5.next := by rw [e5]; exact j8.lp
 refine ⟨.ready, none, _, lp8, by simp, ?_⟩
 intro H9 s9
 have k9 := s9.keep
 have hn9 : H9.next = H8.next := s9.1
 rw [e5] at k9
 have ll := j8.ll
 have nl : ∀ x, x ≠ H.next + 6 → x ∉ [H.next + 5 + 1] := fun x hx => by simp; omega
 have d9 : H9.t.get H5.next = some (.dfr (some [])) := by rw [e5, k9.2 _ (by omega) (nl _ (by omega))]; exact j8.dfr
 have fd := k9.cl j8.acc (nl _ (by omega))
 have f6 := k9.cl j8.r6 (nl _ (by omega))
 have kp9 : Keep H H9 [] := j8.kp.new k9 (fun b q => .inr (by simp at q; omega))
 have e2 : H2.next = H.next + 2 := by omega
 have e3 : H1.next = H.next + 1 := by omega
 rw [← e2] at fd
 rw [← e3] at f6
 refine wN_seq <| wN_lda (b := H2.next) (o := 0) (q := [iv g, iv (hwS us ds g m), iv (haS us adv ds g m)]) rfl fd.rd rfl <| wN_sta (b := H1.next) (o := 0) (v := .agg #[iv g, iv (hwS us ds g m), iv (haS us adv ds g m)]) rfl rfl f6 (by omega) rfl rfl (by simp) ?_
 intro H10 k10 n10 c10
 have c10 : Cl H10 H1.next [iv g, iv (hwS us ds g m), iv (haS us adv ds g m)] := c10
 refine wN_end ?_
 have kpA : Keep H H10 [] := kp9.new k10 (fun b q => .inr (by simp at q; omega))
 refine And.intro trivial (Or.inr ⟨H5.next, rfl, by omega, by rw [k10.2 _ (by omega) (by simp; omega)]; exact d9, fun H12 hn12 hk12 => ?_⟩)
 exact ⟨_, res_cell (x := H1.next) rfl a70 i70s rfl (hk12.cl c10 (by simp; omega)), rfl, kpA.new hk12 (fun b q => .inr (by simp at q; omega))⟩
end
end
end Go.Ax

/-
 Pool: what all growers delivered, in a map (37) (written by program).
-/
namespace Go.Ax
open Go Go.RowKit Go.Proofs

noncomputable section
section
variable {P : Program} {kn : Kn} {lo n : Nat} {α : Type} [DecidableEq α] {enc : α → Value} {masks : List Nat} {ks : List Kd} {r : List RO} {S : Rg} {H : Hp} {K : Rg → Hp → Prop} {d : Option Nat}
theorem wD_msth {o : Oper} {H' : Hp} {b : Nat} (hd : defd S o.op.operands.toList = true) (hp : pureOp P (frS n S) o = none) (hh : heapOp P lo (frS n S) H o = some (.skip H', .store b))
  (h : wDraw P kn lo n masks r (.store b :: ks) (putS S d undef) H' K) : wDraw P kn lo n masks (⟨d, none, .mst o⟩ :: r) ks S H K := ⟨hd, hp, H', .store b, hh, h⟩
theorem heap_makeE (enc : α → Value) (tm : TypeId) : ∃ H', (∀ (S : Rg) (n : Nat) dd ty p, heapOp P lo (frS n S) H ⟨dd, .makeMap tm none, ty, p, #[], none⟩ = some (.val (.map (some H.next)) H', .heavy)) ∧ Keep H H' [] ∧ H'.next = H.next + 1 ∧ Mpa enc H' H.next ([] : ML α) 0 := by
 obtain ⟨k1, k2, k3⟩ := keep_new (H := H) (o := .mp #[] 0) (fun cs e => by cases e)
 exact ⟨_, fun S n dd ty p => rfl, k1, k2, by rw [k2]; omega, k3⟩
theorem heap_updE {tm tk te : TypeId} (k : KeyOk P tk enc) (hu : P.underlying tm = some (.map tk te)) {b c : Nat} {L : ML α} {a : α} {v : Value} (hm : Mpa enc H b L c) (hl : lo ≤ b) (hf : flat v = true) :
  ∃ H', (∀ (S : Rg) (n : Nat) x y w dd ty p, evS S x = some (.map (some b)) → evS S y = some (enc a) → evS S w = some v → heapOp P lo (frS n S) H ⟨dd, .mapUpdate tm x y w, ty, p, #[], none⟩ = some (.skip H', .store b)) ∧ Keep H H' [b] ∧ H'.next = H.next ∧ Mpa enc H' b (putA a v c L) (clkA a c L) := by
 obtain ⟨k1, k2⟩ := keep_put (H := H) (b := b) (o := .mp (mEs enc (putA a v c L)) (clkA a c L)) (fun cs e => by cases e)
 exact ⟨_, fun S n x y w dd ty p hx hy hw => heap_upd k hu hx hy hw hm hl hf, k1, rfl, hm.1, k2⟩
end
theorem und3 : Try.prog.underlying 3 = some (.int .i64) := by kernel_rfl
theorem key3 : KeyOk Try.prog 3 iv := keyInt und3
theorem und67 : Try.prog.underlying 67 = some (.map 3 70) := by kernel_rfl
theorem zero70 : prun Try.prog (zeroValue 70) = some (.agg #[iv 0, iv 0, iv 0]) := by kernel_rfl
def hvV (us : List Pr) (adv : Int) (ds : List Dl) (g : Int) : Value := .agg #[iv g, iv (hwS us ds g ds.length), iv (haS us adv ds g ds.length)]
structure Grs (us : List Pr) (adv : Int) (ds : List Dl) (i : Nat) (L : ML Int) (c : Nat) : Prop where
 wf : WfA L c
 val : ∀ x ∈ L, x.2.1 = hvV us adv ds x.1
 key : ∀ g, g ∈ L.map (·.1) ↔ ∃ j, j < i ∧ (ds.getD j Dl.z).r = g
 len : L.length ≤ i
theorem Grs.flat {us : List Pr} {adv : Int} {ds : List Dl} {i : Nat} {L : ML Int} {c : Nat} (h : Grs us adv ds i L c) : ∀ y ∈ L, flat y.2.1 = true := fun y hy => by rw [h.val y hy]; rfl
theorem get_key {L : ML Int} {a : Int} : (getA a L).isSome = true ↔ a ∈ L.map (·.1) := by
 cases hg : getA a L with
 | none =>
  have := get_none.1 hg
  simp only [Option.isSome_none, Bool.false_eq_true, false_iff, List.mem_map, not_exists, not_and]
  intro x hx e; exact this x hx e.symm
 | some v =>
  obtain ⟨b, hb⟩ := get_mem hg
  simp only [Option.isSome_some, true_iff, List.mem_map]
  exact ⟨_, hb, rfl⟩
theorem Grs.old {us : List Pr} {adv : Int} {ds : List Dl} {i : Nat} {L : ML Int} {c : Nat} (h : Grs us adv ds i L c) {v : Value} (hg : getA (ds.getD i Dl.z).r L = some v) : Grs us adv ds (i + 1) L c := by
 refine ⟨h.wf, h.val, fun g => ?_, by have := h.len; omega⟩
 rw [h.key]
 constructor
 ·rintro ⟨j, hj, e⟩; exact ⟨j, by omega, e⟩
 ·rintro ⟨j, hj, e⟩
  rcases Nat.lt_or_ge j i with q | q
  ·exact ⟨j, q, e⟩
  ·have hji : j = i := by omega
   subst hji
   have := get_key.1 (show (getA (ds.getD j Dl.z).r L).isSome = true by rw [hg]; rfl)
   rw [e, h.key] at this
   exact this
theorem Grs.new {us : List Pr} {adv : Int} {ds : List Dl} {i : Nat} {L : ML Int} {c : Nat} (h : Grs us adv ds i L c) (hg : getA (ds.getD i Dl.z).r L = none) : Grs us adv ds (i + 1) (putA (ds.getD i Dl.z).r (hvV us adv ds (ds.getD i Dl.z).r) c L) (clkA (ds.getD i Dl.z).r c L) := by
 have hput : putA (ds.getD i Dl.z).r (hvV us adv ds (ds.getD i Dl.z).r) c L = L ++ [((ds.getD i Dl.z).r, hvV us adv ds (ds.getD i Dl.z).r, c)] := by
  have hf : findA (ds.getD i Dl.z).r L 0 = none := by
   have := find_get (ds.getD i Dl.z).r L 0
   rw [hg] at this
   cases hq : findA (ds.getD i Dl.z).r L 0 with
   | none => rfl
   | some y => rw [hq] at this; cases this
  exact (find_no hf).2.2.2 _ _
 refine ⟨h.wf.put _ _, ?_, fun g => ?_, ?_⟩
 ·rw [hput]
  intro x hx
  rcases List.mem_append.1 hx with q | q
  ·exact h.val x q
  ·simp at q; rw [q]
 ·rw [put_keys, h.key]
  constructor
  ·rintro (e | ⟨j, hj, e⟩)
   ·exact ⟨i, by omega, e.symm⟩
   ·exact ⟨j, by omega, e⟩
  ·rintro ⟨j, hj, e⟩
   rcases Nat.lt_or_ge j i with q | q
   ·exact .inr ⟨j, q, e⟩
   ·have hji : j = i := by omega
    subst hji; exact .inl e.symm
 ·rw [hput]; simp; exact h.len
section
variable {kn : Kn} {lo : Nat} {H : Hp}
set_option maxRecDepth 100000 in
theorem gather_ok {us : List Pr} {adv : Int} {ds : List Dl} {sa la : Option Addr} {n cap m capl : Nat} (hs : Sl H sa n cap (prc us)) (hl : us.length = n) (hn : n ≤ 1000000) (hu : us.any badP = false) (h0 : 0 < n) (ha1 : 0 ≤ adv) (ha2 : adv ≤ 1000) (hd : Sl H la m capl (dlc ds)) (hm : ds.length = m) (hm2 : m ≤ 128) (hdv : ds.any badD = false) (hlo : lo ≤ H.next) : ∃ b L c H', FnX Try.prog kn lo 37 [.agg #[.slice sa n cap, iv adv], .slice la m capl] H (.map (some b)) H' ∧ H.next ≤ b ∧ Mpa iv H' b L c ∧ Grs us adv ds m L c ∧ Keep H H' [] := by
 have key := fnX_low (kn := kn) (lo := lo) (H := H) (args := [.agg #[.slice sa n cap, iv adv], .slice la m capl]) (Q := fun w H' => ∃ b L c, w = .map (some b) ∧ H.next ≤ b ∧ Mpa iv H' b L c ∧ Grs us adv ds m L c ∧ Keep H H' []) Try.func37 B37 N37 Z37 L37 (by simp) ?_
 ·obtain ⟨w, H', h, b, L, c, rfl, r⟩ := key; exact ⟨b, L, c, H', h, r⟩
 have hk := Keep.refl H []
 have fs := hs.old
 have fd := hd.old
 refine wN_seq <| wN_box (v := .agg #[.slice sa n cap, iv adv]) rfl ?_
 intro H1 kH1 nH1 c1
 have c1 : Cl H1 H.next [.slice sa n cap, iv adv] := c1
 have mH1 := kH1.1
 have hk := hk.trans kH1
 have hs := kH1.sl0 hs
 have hd := kH1.sl0 hd
 refine wN_mov (v := (.map none)) rfl <| wN_end <| wN_seq ?_
 obtain ⟨H2, fH2, kH2, nH2, hmp⟩ := heap_makeE (P := Try.prog) (lo := lo) (H := H1) iv 67
 refine wN_memh (v := .map (some H1.next)) (H' := H2) (k := .heavy) rfl rfl (fH2 _ _ _ _ _) (fun b e => by cases e) ?_
 have mH2 := kH2.1
 have hk := hk.trans kH2
 have hs := kH2.sl0 hs
 have hd := kH2.sl0 hd
 have c1 := kH2.cl c1 (by simp)
 refine wN_mov (v := .map (some H1.next)) rfl <| wN_end <| wN_seq <| wN_mov (v := .slice la m capl) rfl <| wN_len (m := m) rfl <| wN_mov (v := iv 0) rfl <| wN_end ?_
 refine loop_low (fn := Try.f37) E37_1 N37 L37x1 (fun i : Nat => [(1, .slice la m capl), (2, pt H.next), (5, .map (some H1.next)), (11, .slice la m capl), (12, iv (m : Int)), (13, iv (i : Int))])
  (fun k i H' => i + k = m ∧ Keep H H' [] ∧ H2.next ≤ H'.next ∧ Sl H' sa n cap (prc us) ∧ Sl H' la m capl (dlc ds) ∧ Cl H' H.next [.slice sa n cap, iv adv] ∧ ∃ L c, Mpa iv H' H1.next L c ∧ Grs us adv ds i L c) m 0 ⟨by omega, hk, Nat.le_refl _, hs, hd, c1, [], 0, hmp, ⟨WfA.nil, (fun x h => by cases h), (fun g => ⟨fun h => (by cases h), fun ⟨j, h, _⟩ => (by omega)⟩), Nat.le_refl _⟩⟩ ⟨rfl, rfl, rfl, rfl, rfl, rfl, trivial⟩ ?_
 rintro k i L1 ⟨hik, hk, hnx, hs, hd, ct, L, c, hmp, hG⟩
 have mk := hk.1
 refine wN_seq <| wN_c_lss (a := (i : Int)) (b := (m : Int)) rfl rfl <| wN_end ?_
 refine And.intro (fun q1 => ?_) (fun q1 => ?_)
 ·have q1 : (i : Int) < (m : Int) := of_decide_eq_true q1
  have hi : i < m := by omega
  rcases id hd with ⟨_, h0s, _⟩ | ⟨sb, es, rs, _⟩
  ·omega
  have ls := rs.1
  have lsb2 := fd sb es
  have hdx := okD_of (any_at (z := Dl.z) hdv (show i < ds.length by omega))
  first | refine wN_skip ?_ | skip
  refine wN_seq <| wN_idx (b := sb) (o := 0) (k := i) (j := (i : Int)) (by rw [← es]; rfl) rfl rfl hi <| wN_lda (b := sb) (o := 0 + i * 3) rfl rs (dlc_rowF (by omega)) <| wN_alc ?_
  intro H3 kH3 nH3 c3
  have c3 : Cl H3 L1.next [iv 0, iv 0, iv 0] := c3
  have mH3 := kH3.1
  have hk := hk.trans kH3
  have hs := kH3.sl0 hs
  have hd := kH3.sl0 hd
  have ct := kH3.cl ct (by simp)
  have hmp := kH3.mpa hmp (by simp)
  have rs := kH3.rd rs (by simp)
  refine wN_sta (b := L1.next) (o := 0) rfl rfl c3 (by omega) rfl rfl (by simp) ?_
  intro H4 kH4 nH4 sH4
  have mH4 := kH4.1
  have hk := hk.new kH4 (fun b hb => by simp at hb ⊢; omega)
  have hs := kH4.sl hs (fun b e => by have := fs b e; first | (simp; done) | (simp; omega))
  have hd := kH4.sl hd (fun b e => by have := fd b e; first | (simp; done) | (simp; omega))
  have ct := kH4.cl ct (by first | (simp; done) | (simp; omega))
  have hmp := kH4.mpa hmp (by simp; omega)
  have rs := kH4.rd rs (by first | (simp; done) | (simp; omega))
  have c3 : Cl H4 L1.next [iv ((ds.getD i Dl.z).r), iv ((ds.getD i Dl.z).g), iv ((ds.getD i Dl.z).c)] := sH4
  refine wN_end <| wN_seq <| wN_mov (v := .map (some H1.next)) rfl <| wN_addo (b := L1.next) (o := 0) rfl <| wN_ld (b := L1.next) (o := 0) (v := iv ((ds.getD i Dl.z).r)) rfl c3.rd rfl ?_
  cases hg : getA (ds.getD i Dl.z).r L
  ·refine wN_memh (v := .tuple #[.agg #[iv 0, iv 0, iv 0], .bool false]) (H' := H4) (k := .read H1.next) (defd2 rfl rfl) rfl ((heap_look key3 und67 zero70 rfl rfl hmp true (by rw [hg]; rfl)).trans (by rw [hg]; rfl)) (fun q e => by cases e; exact hmp.1) <| wN_mov (v := .tuple #[.agg #[iv 0, iv 0, iv 0], .bool false]) rfl <| wN_pur (v := .agg #[iv 0, iv 0, iv 0]) rfl (by kernel_rfl) <| wN_pur (v := .bool false) rfl (by kernel_rfl) <| wN_alc ?_
   intro H5 kH5 nH5 c5
   have c5 : Cl H5 H4.next [iv 0, iv 0, iv 0] := c5
   have mH5 := kH5.1
   have hk := hk.trans kH5
   have hs := kH5.sl0 hs
   have hd := kH5.sl0 hd
   have ct := kH5.cl ct (by simp)
   have hmp := kH5.mpa hmp (by simp)
   have rs := kH5.rd rs (by simp)
   have c3 := kH5.cl c3 (by simp)
   refine wN_sta (b := H4.next) (o := 0) rfl rfl c5 (by omega) rfl rfl (by simp) ?_
   intro H6 kH6 nH6 sH6
   have mH6 := kH6.1
   have hk := hk.new kH6 (fun b hb => by simp at hb ⊢; omega)
   have hs := kH6.sl hs (fun b e => by have := fs b e; first | (simp; done) | (simp; omega))
   have hd := kH6.sl hd (fun b e => by have := fd b e; first | (simp; done) | (simp; omega))
   have ct := kH6.cl ct (by first | (simp; done) | (simp; omega))
   have hmp := kH6.mpa hmp (by simp; omega)
   have rs := kH6.rd rs (by first | (simp; done) | (simp; omega))
   have c3 := kH6.cl c3 (by first | (simp; done) | (simp; omega))
   have c5 : Cl H6 H4.next [iv 0, iv 0, iv 0] := sH6
   refine wN_mov (v := .bool false) rfl <| wN_end <| wN_seq <| wN_mov (v := .bool false) rfl <| wN_pur (v := .bool true) rfl rfl <| wN_end <| condT ?_
   first | refine wD_dreg ?_ | (refine wOps_nil ?_; refine wD_dreg ?_)
   refine wD_mov (v := .map (some H1.next)) rfl <| wD_addo (b := L1.next) (o := 0) rfl <| wD_ld (b := L1.next) (o := 0) (v := iv ((ds.getD i Dl.z).r)) rfl c3.rd rfl <| wD_lda (b := H.next) (o := 0) rfl ct.rd (show row 2 _ _ = some [.slice sa n cap, iv adv] from rfl) <| wD_mov (v := .slice la m capl) rfl <| wD_addo (b := L1.next) (o := 0) rfl <| wD_ld (b := L1.next) (o := 0) (v := iv ((ds.getD i Dl.z).r)) rfl c3.rd rfl ?_
   obtain ⟨H7, fH7, kH7⟩ := harvest_ok (kn := kn) (lo := H6.next) (H := H6) (adv := adv) (g := (ds.getD i Dl.z).r) hs hl hn hu h0 ha1 ha2 hm hm2 hdv (Nat.le_refl _) hd
   rw [← hm] at fH7
   refine wD_callh (vs := [.agg #[.slice sa n cap, iv adv], .slice la ds.length capl, iv ((ds.getD i Dl.z).r)]) (by rw [hm]; rfl) rfl (callX_args fH7) ?_
   have mH7 := kH7.1
   have hk := hk.trans kH7
   have hs := kH7.sl0 hs
   have hd := kH7.sl0 hd
   have ct := kH7.cl ct (by simp)
   have hmp := kH7.mpa hmp (by simp)
   have rs := kH7.rd rs (by simp)
   have c3 := kH7.cl c3 (by simp)
   have c5 := kH7.cl c5 (by simp)
   obtain ⟨H8, fH8, kH8, nH8, mpH8⟩ := heap_updE (P := Try.prog) (lo := lo) (H := H7) key3 und67 (a := (ds.getD i Dl.z).r) (v := hvV us adv ds (ds.getD i Dl.z).r) hmp (by omega) rfl
   refine wD_msth (b := H1.next) (defd3 rfl rfl rfl) rfl (fH8 _ _ _ _ _ _ _ _ rfl rfl rfl) ?_
   have mH8 := kH8.1
   have hk := hk.new kH8 (fun b hb => by simp at hb ⊢; omega)
   have hs := kH8.sl hs (fun b e => by have := fs b e; first | (simp; done) | (simp; omega))
   have hd := kH8.sl hd (fun b e => by have := fd b e; first | (simp; done) | (simp; omega))
   have ct := kH8.cl ct (by first | (simp; done) | (simp; omega))
   have rs := kH8.rd rs (by first | (simp; done) | (simp; omega))
   have c3 := kH8.cl c3 (by first | (simp; done) | (simp; omega))
   have c5 := kH8.cl c5 (by first | (simp; done) | (simp; omega))
   have hmp := mpH8
   refine wD_end (by repeat' first | exact True.intro | exact (fun h => h) | refine And.intro ?_ ?_ | (intro h; have h : (_ : Nat) = _ := h; omega)) ?_
   first | refine wN_reg ?_ | refine wN_blk ?_ | refine wN_bseq ?_ | (refine wOps_nil ?_; refine wN_reg ?_)
   refine wN_add (a := (i : Int)) (b := 1) rfl rfl ⟨by omega, by omega⟩ <| wN_mov (v := iv ((i : Int) + 1)) rfl <| wN_end ?_
   exact ⟨k - 1, i + 1, by omega, ⟨by omega, hk, by omega, hs, hd, ct, _, _, hmp, hG.new hg⟩, rfl, rfl, rfl, rfl, rfl, rfl, trivial⟩
  ·rename_i vv
   obtain ⟨bb, hbb⟩ := get_mem hg
   obtain rfl : vv = hvV us adv ds (ds.getD i Dl.z).r := hG.val _ hbb
   refine wN_memh (v := .tuple #[hvV us adv ds (ds.getD i Dl.z).r, .bool true]) (H' := H4) (k := .read H1.next) (defd2 rfl rfl) rfl ((heap_look key3 und67 zero70 rfl rfl hmp true (by rw [hg]; rfl)).trans (by rw [hg]; rfl)) (fun q e => by cases e; exact hmp.1) <| wN_mov (v := .tuple #[hvV us adv ds (ds.getD i Dl.z).r, .bool true]) rfl <| wN_pur (v := hvV us adv ds (ds.getD i Dl.z).r) rfl (by kernel_rfl) <| wN_pur (v := .bool true) rfl (by kernel_rfl) <| wN_alc ?_
   intro H9 kH9 nH9 c9
   have c9 : Cl H9 H4.next [iv 0, iv 0, iv 0] := c9
   have mH9 := kH9.1
   have hk := hk.trans kH9
   have hs := kH9.sl0 hs
   have hd := kH9.sl0 hd
   have ct := kH9.cl ct (by simp)
   have hmp := kH9.mpa hmp (by simp)
   have rs := kH9.rd rs (by simp)
   have c3 := kH9.cl c3 (by simp)
   refine wN_sta (b := H4.next) (o := 0) rfl rfl c9 (by omega) rfl rfl (by simp) ?_
   intro H10 kH10 nH10 sH10
   have mH10 := kH10.1
   have hk := hk.new kH10 (fun b hb => by simp at hb ⊢; omega)
   have hs := kH10.sl hs (fun b e => by have := fs b e; first | (simp; done) | (simp; omega))
   have hd := kH10.sl hd (fun b e => by have := fd b e; first | (simp; done) | (simp; omega))
   have ct := kH10.cl ct (by first | (simp; done) | (simp; omega))
   have hmp := kH10.mpa hmp (by simp; omega)
   have rs := kH10.rd rs (by first | (simp; done) | (simp; omega))
   have c3 := kH10.cl c3 (by first | (simp; done) | (simp; omega))
   have c9 : Cl H10 H4.next [iv ((ds.getD i Dl.z).r), iv (hwS us ds (ds.getD i Dl.z).r ds.length), iv (haS us adv ds (ds.getD i Dl.z).r ds.length)] := sH10
   refine wN_mov (v := .bool true) rfl <| wN_end <| wN_seq <| wN_mov (v := .bool true) rfl <| wN_pur (v := .bool false) rfl rfl <| wN_end <| condF ?_
   first | refine wN_skip ?_ | skip
   first | refine wN_reg ?_ | refine wN_blk ?_ | refine wN_bseq ?_ | (refine wOps_nil ?_; refine wN_reg ?_)
   refine wN_add (a := (i : Int)) (b := 1) rfl rfl ⟨by omega, by omega⟩ <| wN_mov (v := iv ((i : Int) + 1)) rfl <| wN_end ?_
   exact ⟨k - 1, i + 1, by omega, ⟨by omega, hk, by omega, hs, hd, ct, _, _, hmp, hG.old hg⟩, rfl, rfl, rfl, rfl, rfl, rfl, trivial⟩
 ·have q1 : ¬ ((i : Int) < (m : Int)) := of_decide_eq_false q1
  first | (refine wN_exit ?_; show wC _ _ _ _ _ _ _ _ _) | skip
  refine wN_seq <| wN_mov (v := .map (some H1.next)) rfl <| wN_mov (v := .map (some H1.next)) rfl <| wN_end ?_
  have e : i = m := by omega
  exact And.intro trivial (Exists.intro _ (And.intro rfl ⟨H1.next, L, c, rfl, by omega, hmp, by rw [← e]; exact hG, hk⟩))
end
end
end Go.Ax

/-
 Pool: the keys of a map, sorted (62, 64, 60, 61, 54, 55) (written by program).
-/
namespace Go.Ax
open Go Go.RowKit Go.Proofs

noncomputable section
def cI (xs : List Int) : List Value := xs.map iv
section
variable {P : Program} {kn : Kn} {lo n : Nat}
theorem wM_lseq {rd : Bool} {x y : RC} {S : Rg} {H : Hp} {K : Exit → Rg → Hp → Prop} (h : wCM P kn lo n rd x S H fun e S' H' => match e with | .normal => wCM P kn lo n rd y S' H' K | e => K e S' H') : wCM P kn lo n rd (.seq x y) S H K := h
theorem wM_block {rd : Bool} {id : Nat} {b : RC} {S : Rg} {H : Hp} {K : Exit → Rg → Hp → Prop} (h : wCM P kn lo n rd b S H fun e S' H' => match e with | .exit j => (bif Nat.beq j id then K .normal S' H' else K (.exit j) S' H') | e => K e S' H') : wCM P kn lo n rd (.block id b) S H K := h
theorem wM_other {rd : Bool} {c : Code} {S : Rg} {H : Hp} {K : Exit → Rg → Hp → Prop} (h : TriM P lo n rd c S H K) : wCM P kn lo n rd (.other c) S H K := h
theorem KD.own {ops : List RO} {V : Nat → Value} {done : Nat → Bool} {S S' : Rg} (h : KD ops V done S S') (i : Nat) {d : Nat} {v : Value} (hi : (ops[i]?).map (·.dst) = some (some d)) (hd : done i = true) (hv : V i = v) : lk S' d = some v := by
 cases ho : ops[i]? with
 | none => rw [ho] at hi; cases hi
 | some o => rw [ho] at hi; rw [← hv]; exact h.1 i o d ho (by simpa using hi) hd
theorem KD.old {ops : List RO} {V : Nat → Value} {done : Nat → Bool} {S S' : Rg} (h : KD ops V done S S') {j : Nat} {v : Value} (hv : lk S j = some v) (hj : (ops.all fun o => !(o.dst == some j)) = true) : lk S' j = some v :=
 h.2 j v hv fun o ho e => by have := List.all_eq_true.1 hj o ho; rw [e] at this; simp at this
end
structure KeepF (f : Nat) (W : List Nat) (H H' : Hp) : Prop where
 le : H.next ≤ H'.next
 same : ∀ b, b < f → b ∉ W → H'.t.get b = H.t.get b
 rox : ∀ b cs, b < H'.next → H'.t.get b = some (.ro cs) → b < H.next ∧ H.t.get b = some (.ro cs)
theorem KeepF.trans {f : Nat} {W : List Nat} {H H1 H2 : Hp} (h : KeepF f W H H1) (k : KeepF f W H1 H2) : KeepF f W H H2 :=
 ⟨Nat.le_trans h.1 k.1, fun b hb hw => (k.2 b hb hw).trans (h.2 b hb hw), fun b cs hb hg => (k.3 b cs hb hg).elim fun x y => h.3 b cs x y⟩
theorem KeepF.low {f f' : Nat} {W : List Nat} {H H1 : Hp} (h : KeepF f W H H1) (hf : f' ≤ f) : KeepF f' W H H1 := ⟨h.1, fun b hb hw => h.2 b (Nat.lt_of_lt_of_le hb hf) hw, h.3⟩
theorem KeepF.of {f : Nat} {W l : List Nat} {H H1 : Hp} (h : Keep H H1 l) (hf : f ≤ H.next) (hl : ∀ b ∈ l, b ∈ W ∨ f ≤ b) : KeepF f W H H1 :=
 ⟨h.1, fun b hb hw => h.2 b (Nat.lt_of_lt_of_le hb hf) fun q => (hl b q).elim (fun x => hw x) (fun x => by omega), h.3⟩
theorem KeepF.mpa {α : Type} {enc : α → Value} {f : Nat} {W : List Nat} {H H1 : Hp} (k : KeepF f W H H1) {b : Nat} {L : ML α} {c : Nat} (h : Mpa enc H b L c) (hb : b < f) (hw : b ∉ W) : Mpa enc H1 b L c := ⟨Nat.lt_of_lt_of_le h.1 k.le, by rw [k.same b hb hw]; exact h.2⟩
theorem KeepF.ita {α : Type} {f : Nat} {W : List Nat} {H H1 : Hp} (k : KeepF f W H H1) {r m c : Nat} {D : ML α} (h : Ita H r m c D) (hb : r < f) (hw : r ∉ W) : Ita H1 r m c D := ⟨Nat.lt_of_lt_of_le h.1 k.le, by rw [k.same r hb hw]; exact h.2⟩
section
variable {kn : Kn} {lo : Nat} {H : Hp}
set_option maxRecDepth 100000 in
theorem keys_ok (s : Snd Try.prog kn) {W : List Nat} {Y : Nat → ML Int → Hp → Prop} (hlo : lo ≤ H.next) {bm m c l : Nat} {L : ML Int} (hbm : Rd H bm [.map (some m)]) (hm : Mpa iv H m L c) (hw : WfA L c) (hfl : ∀ y ∈ L, flat y.2.1 = true) (hW : ∀ b ∈ W, b < H.next ∧ b ≠ m)
  (h0 : ∀ H1, Keep H H1 [] → H1.next = H.next + 1 → Y (H.next + 1) [] H1)
  (hy : ∀ D x H1, H.next + 1 ≤ H1.next → D.length < L.length → x ∈ L → Y (H.next + 1) D H1 → CallM Try.prog lo (.fn (.yield l) #[]) [iv x.1] H1 fun v H2 => v = .bool true ∧ KeepF (H.next + 1) W H1 H2 ∧ Y (H.next + 1) (D ++ [x]) H2)
  (hyk : ∀ D H1 H2, Y (H.next + 1) D H1 → Keep H1 H2 [H.next] → H2.next = H1.next → Y (H.next + 1) D H2) :
  FnM Try.prog lo 62 [.func (.yield l) #[] #[], .pointer (some ⟨bm, 0, none⟩)] H fun v H' => v = .tuple #[] ∧ KeepF H.next W H H' ∧ ∃ D : ML Int, D.Perm L ∧ Y (H.next + 1) D H' := by
 have hnW : H.next ∉ W := fun q => by have := (hW _ q).1; omega
 have hmW : m ∉ W := fun q => (hW _ q).2 rfl
 refine fnM_low s Try.func62 B62 N62 Z62 L62 (by simp) ?_
 refine wM_seq (wM_ld rfl hbm rfl (wM_rng rfl hm fun H1 k1 n1 i1 => wM_end (wM_block (wM_other ?_))))
 refine loopM_low s E62_1 N62 L62x1 (fun _ : ML Int => [(0, .func (.yield l) #[] #[]), (5, .pointer (some ⟨H.next, 0, none⟩))])
  (fun k D H' => k = L.length - D.length ∧ D.Nodup ∧ (∀ y ∈ D, y ∈ L) ∧ KeepF H.next W H H' ∧ Ita H' H.next m c D ∧ Mpa iv H' m L c ∧ Y (H.next + 1) D H' ∧ H.next + 1 ≤ H'.next) _ [] ⟨rfl, List.nodup_nil, (fun y h => by cases h), KeepF.of k1 (Nat.le_refl _) (by simp), i1, k1.mpa0 hm, h0 H1 k1 n1, by omega⟩ ⟨rfl, rfl, True.intro⟩ ?_
 rintro k D H2 ⟨rfl, hn, hD, k2, i2, m2, y2, l2⟩
 have hne : m ≠ H.next := Nat.ne_of_lt hm.1
 refine wM_seq (wM_nxt rfl i2 m2 hw hD key3.fl hfl hlo (fun hall => ?_) (fun y hyL hny H3 k3 n3 i3 => ?_))
 ·refine wM_pur (v := .bool false) rfl (by kernel_rfl) (wM_end (wM_lseq (wM_cond (t := false) rfl (fun h => by cases h) fun _ => wM_exit ?_)))
  exact ⟨True.intro, [], rfl, rfl, k2, D, nodup_perm hn hw.nodup fun x => ⟨hD x, hall x⟩, y2⟩
 ·have hsub : ∀ x ∈ D ++ [y], x ∈ L := fun x hx => by
   rcases List.mem_append.1 hx with h | h
   ·exact hD x h
   ·simp at h; rw [h]; exact hyL
  have hnd : (D ++ [y]).Nodup := List.nodup_append.2 ⟨hn, by simp, fun a ha b hb e => hny (by simp at hb; rw [← hb, ← e]; exact ha)⟩
  have hlen : (D ++ [y]).length = D.length + 1 := by simp
  have hDL : D.length < L.length := by have := nodup_len hnd hsub; omega
  have m3 : Mpa iv H3 m L c := k3.mpa m2 (by simpa using hne)
  refine wM_pur (v := .bool true) rfl (by kernel_rfl) (wM_end (wM_lseq (wM_cond (t := true) rfl (fun _ => wM_skip ?_) fun h => by cases h)))
  refine wM_block (wM_seq (wM_ent rfl i3 m3 hw hyL key3.fl (hfl _ hyL) (wM_pur (v := iv y.1) rfl (by kernel_rfl) (wM_mov rfl (wM_end ?_)))))
  refine wM_seq (wM_mov rfl (wM_mov rfl (wM_call rfl (hy D y H3 (by omega) hDL hyL (hyk D H2 H3 y2 k3 n3)) ?_)))
  rintro v H4 ⟨rfl, k4, y4⟩
  refine wM_pur (v := .bool false) rfl (by kernel_rfl) (wM_end (wM_cond (t := false) rfl (fun h => by cases h) fun _ => wM_skip ?_))
  have k24 : KeepF H.next W H H4 := k2.trans ((KeepF.of k3 (by omega) (by simp)).trans (k4.low (by omega)))
  exact ⟨_, D ++ [y], by rw [hlen]; omega, ⟨rfl, hnd, hsub, k24, k4.ita i3 (by omega) hnW, k4.mpa m3 (by have := hm.1; omega) hmW, y4, by have := k4.le; omega⟩, rfl, rfl, True.intro⟩
theorem se33 : sliceElem Try.prog 90 = some (3, 1) := by kernel_rfl
theorem und33 : Try.prog.underlying 90 = some (.slice 3) := by kernel_rfl
theorem zo3 : zeroOf Try.prog 3 = some (iv 0) := by kernel_rfl
def ApY (lo b2 l rr : Nat) (asg body : Code) (S0 : Rg) (f : Nat) (D : ML Int) (H : Hp) : Prop :=
 Lp Try.prog H l .ready none 13 S0 [7] asg body rr ∧ l < f ∧ b2 < l ∧ f ≤ H.next ∧ H.t.get rr = some (.dfr (some [])) ∧ rr < l ∧ b2 ≠ rr ∧ ∃ v, Cl H b2 [v] ∧ one v = true ∧ v.cells.toList = [v] ∧ Acc lo f 3 H v D.length (D.map fun x => iv x.1)
theorem KeepB.lp {P : Program} {f : Nat} {H H1 : Hp} {l : Nat} {st : LoopState} {pe : Option Code} {n : Nat} {S : Rg} {ps : List Tmp} {asg body : Code} {r : Nat} (k : KeepB f H H1) (h : Lp P H l st pe n S ps asg body r) (hl : l < f) : Lp P H1 l st pe n S ps asg body r := by
 obtain ⟨fn, T, g, q⟩ := h
 exact ⟨fn, T, by rw [k.same _ hl]; exact g, q⟩
set_option maxRecDepth 100000 in
set_option maxHeartbeats 1000000 in
theorem appendSeq_ok (s : Snd Try.prog kn) (hlo : lo ≤ H.next) {bm m c : Nat} {L : ML Int} (hbm : Rd H bm [.map (some m)]) (hm : Mpa iv H m L c) (hw : WfA L c) (hfl : ∀ y ∈ L, flat y.2.1 = true) (hL : L.length ≤ 900) :
  FnM Try.prog lo 64 [.slice none 0 0, .func (.func 62) #[] #[.pointer (some ⟨bm, 0, none⟩)]] H fun v H' => Keep H H' [] ∧ ∃ D : ML Int, D.Perm L ∧ Acc lo H.next 3 H' v D.length (D.map fun x => iv x.1) := by
 refine fnM_lowR s Try.func64 B64 N64 Z64 L64 (by simp) ?_
 refine wMR_seq (wMR_reg (wM_box rfl fun H1 k1 n1 c1 => wM_mov rfl (wM_end ?_)))
 refine wMR_seq (wMR_seq (wMR_reg (wM_mov rfl (wM_end (wMR_block (wMR_other ?_))))))
 rw [E64_1]
 refine TriMR.range rfl fun H2 k2 n2 g2 l2 => ?_
 have hb2 : H.next < H1.next := by omega
 have c2 : Cl H2 H.next [.slice none 0 0] := k2.cl c1 (by simp)
 have hbm2 : Rd H2 bm [.map (some m)] := k2.rd (k1.rd hbm (by simp)) (by simp)
 have hm2 : Mpa iv H2 m L c := k2.mpa0 (k1.mpa0 hm)
 have k12 : Keep H H2 [] := k1.new k2 (by simp)
 generalize hasg : at_ Try.f64 [1, 0, 1, 0, 0] = asg at l2
 generalize hbody : at_ Try.f64 [1, 0, 1, 0, 1] = body at l2
 generalize hS0 : (putS (putS (putS (argS [Value.slice none 0 0, Value.func (Fn.func 62) #[] #[Value.pointer (some { block := bm, off := 0 })]] 0) (some 2) (Value.pointer (some { block := H.next, off := 0 }))) (some 4) (Value.slice none 0 0)) (some 6) (Value.func (Fn.func 62) #[] #[Value.pointer (some { block := bm, off := 0 })])) = S0 at l2
 have hf := keys_ok (kn := kn) (lo := lo) s (H := H2) (W := [H.next, H1.next + 1]) (Y := ApY lo H.next (H1.next + 1) H1.next asg body S0) (l := H1.next + 1) (by omega) hbm2 hm2 hw hfl (by
   intro b hb
   have := hm.1
   simp at hb
   rcases hb with rfl | rfl <;> omega) (fun H3 k3 n3 => ?_) (fun D x H3 hn hD hx hY => ?_) (fun D H3 H4 hY k4 n4 => ?_)
 ·refine ⟨_, callM_func s.hN (by simpa using hf), fun v H3 hQ => ?_⟩
  obtain ⟨_, k3, D, hD, l3, hlf, hbl, hfn, hdf, hrl, hbr, v3, c3, h1, h2, a3⟩ := hQ
  refine ⟨.ready, none, S0, l3, by simp, fun H4 hset => ?_⟩
  have k4 := hset.keep
  have c4 : Cl H4 H.next [v3] := k4.cl c3 (by simp; omega)
  subst hS0
  refine wMR_seq (wMR_reg (wM_ld rfl c4.rd rfl (wM_mov rfl (wM_end (wMR_ret ⟨True.intro, .inr ⟨H1.next, rfl, by omega, ?_, fun H5 n5 k5 => ⟨[v3], rfl, ?_, D, hD, ?_⟩⟩⟩)))))
  ·rw [k4.same H1.next (by omega) (by simp)]; exact hdf
  ·refine ⟨by have := k12.le; have := k3.le; have := k4.le; have := k5.le; omega, fun b hb _ => ?_, fun b cs hb hg => ?_⟩
   ·rw [k5.same b (by have := k12.le; have := k3.le; have := k4.le; omega) (by simp; omega), k4.same b (by have := k12.le; have := k3.le; omega) (by simp; omega), k3.same b (by have := k12.le; omega) (by simp; omega), k12.same b hb (by simp)]
   ·obtain ⟨q1, g1⟩ := k5.rox b cs hb hg
    obtain ⟨q2, g2⟩ := k4.rox b cs q1 g1
    obtain ⟨q3, g3⟩ := k3.rox b cs q2 g2
    exact k12.rox b cs q3 g3
  ·have a4 := a3.keepW k4 (by omega)
   have a5 := a4.keepW k5 (by omega)
   exact a5.imp id fun ⟨b, e1, e2, e3, e4⟩ => ⟨b, e1, e2, by have := k12.le; omega, e4⟩
 ·exact ⟨l2.keep k3 (by omega) (by simp), by omega, by omega, by omega, by rw [k3.same H1.next (by omega) (by simp)]; exact g2, by omega, by omega, _, k3.cl c2 (by simp), rfl, rfl, .inl ⟨rfl, rfl, rfl⟩⟩
 ·obtain ⟨l3, hlf, hbl, hfn, hdf, hrl, hbr, v3, c3, h1, h2', a3⟩ := hY
  have hmono := k12.le
  subst hasg hbody
  have hb : bindS [7] [iv x.1] S0 = some ((7, iv x.1) :: S0) := rfl
  refine (yieldM s.hm l3 (by omega) (by decide) hb (Q := fun b H' => b = true ∧ KeepF (H2.next + 1) [H.next, H1.next + 1] H3 H' ∧ ApY lo H.next (H1.next + 1) H1.next (at_ Try.f64 [1, 0, 1, 0, 0]) (at_ Try.f64 [1, 0, 1, 0, 1]) S0 (H2.next + 1) (D ++ [x]) H') ?_).mono fun v H' ⟨b, e, q1, q2, q3⟩ => ⟨by rw [e, q1], q2, q3⟩
  have hN : Try.f64.ntmps = 13 := N64
  refine wCM_sound (kn := kn) s _ (by rw [← hN]; exact L64x1) (wM_reg (wM_mov rfl (wM_end ⟨True.intro, l3, fun H4 hset => ?_⟩)))
  have k4 := hset.keep
  have n4 : H4.next = H3.next := hset.1
  have l4 := hset.lp l3
  have c4 : Cl H4 H.next [v3] := k4.cl c3 (by simp; omega)
  have a4 := a3.keepW k4 hlf
  subst hS0
  refine wCM_sound (kn := kn) s _ (by rw [← hN]; exact L64x2) (wM_blk (wM_ld rfl c4.rd rfl (wM_mov rfl ?_)))
  refine wM_memh rfl rfl (heap_build1 (v := iv x.1) se33 zo3 rfl rfl rfl (by decide)) (fun q e => by cases e) ?_
  obtain ⟨k5, n5, c5⟩ := new_facts (H := H4) (cs := [iv x.1]) (e := 3) (l := false) rfl
  have hlen : (D.map fun x => iv x.1).length = D.length * 1 := by simp
  obtain ⟨H6, kd, e6, d6, a6, kb6⟩ := heap_append_below (P := Try.prog) (lo := lo) (k := D.length) (t1 := 90) (f := H2.next + 1) se33 und33 (c5.sl (Nat.le_refl 1)) rfl (by decide) rfl hlen (by omega) (a4.keep k5) (by omega) (by omega)
  refine wM_memh (k := kd) rfl (by kernel_rfl) (e6 _ _ _ _ _ _ _ rfl rfl) (fun q e => by rcases d6 with rfl | ⟨b6, rfl, hb6⟩ <;> cases e) ?_
  have c6 : Cl H6 H.next [v3] := kb6.cl (k5.cl c4 (by simp)) (by omega)
  have l6 := kb6.lp (l4.keep k5 (by omega) (by simp)) (by omega)
  have m6 := kb6.le
  have kf6 : KeepF (H2.next + 1) [H.next, H1.next + 1] H3 H6 := ((KeepF.of k4 (by omega) (by simp)).trans (KeepF.of k5 (by omega) (by simp))).trans ⟨kb6.le, fun b hb _ => kb6.same b hb, kb6.rox⟩
  refine wM_st rfl rfl c6 hlo rfl rfl (by simp) fun H7 k7 n7 c7 => wM_end ⟨l6.keep k7 (by omega) (by simp; omega), fun H8 hset8 => ⟨rfl, ?_, ?_⟩⟩
  ·exact (kf6.trans (KeepF.of k7 (by omega) (by simp))).trans (KeepF.of hset8.keep (by omega) (by simp))
  ·have k8 := hset8.keep
   have n8 : H8.next = H7.next := hset8.1
   have kf8 := (kf6.trans (KeepF.of k7 (by omega) (by simp))).trans (KeepF.of (f := H2.next + 1) (W := [H.next, H1.next + 1]) k8 (by omega) (by simp))
   have a8 := (a6.keepW k7 (by omega)).keepW k8 (by omega)
   refine ⟨hset8.lp (l6.keep k7 (by omega) (by simp; omega)), hlf, hbl, by omega, by rw [kf8.same H1.next (by omega) (by simp; omega)]; exact hdf, hrl, hbr, _, k8.cl c7 (by simp; omega), rfl, rfl, ?_⟩
   simpa using a8
 ·obtain ⟨l3, hlf, hbl, hfn, hdf, hrl, hbr, v3, c3, h1, h2', a3⟩ := hY
  exact ⟨l3.keep k4 (by omega) (by simp; omega), hlf, hbl, by omega, by rw [k4.same H1.next (by omega) (by simp; omega)]; exact hdf, hrl, hbr, v3, k4.cl c3 (by simp; omega), h1, h2', a3.keepW k4 (by omega)⟩
theorem collect_ok (s : Snd Try.prog kn) (hlo : lo ≤ H.next) {bm m c : Nat} {L : ML Int} (hbm : Rd H bm [.map (some m)]) (hm : Mpa iv H m L c) (hw : WfA L c) (hfl : ∀ y ∈ L, flat y.2.1 = true) (hL : L.length ≤ 900) :
  FnM Try.prog lo 60 [.func (.func 62) #[] #[.pointer (some ⟨bm, 0, none⟩)]] H fun v H' => Keep H H' [] ∧ ∃ D : ML Int, D.Perm L ∧ Acc lo H.next 3 H' v D.length (D.map fun x => iv x.1) := by
 refine fnM_low s Try.func60 B60 N60 Z60 L60 (by simp) ?_
 refine wM_seq (wM_mov rfl (wM_end (wM_seq (wM_mov rfl (wM_call (t := .fn (.func 64) #[]) rfl (callM_args s.hN (appendSeq_ok s hlo hbm hm hw hfl hL)) fun v H1 hq => wM_mov rfl (wM_end (wM_ret ⟨True.intro, [v], rfl, hq⟩)))))))
theorem keysF_ok (m : Nat) : ∃ H', FnX Try.prog kn lo 55 [.map (some m)] H (.func (.func 62) #[] #[.pointer (some ⟨H.next, 0, none⟩)]) H' ∧ Keep H H' [] ∧ Rd H' H.next [.map (some m)] := by
 have key := fnX_low (kn := kn) (lo := lo) (H := H) (args := [.map (some m)]) (Q := fun w H' => w = .func (.func 62) #[] #[.pointer (some ⟨H.next, 0, none⟩)] ∧ Keep H H' [] ∧ Rd H' H.next [.map (some m)]) Try.func55 B55 N55 Z55 L55 (by simp) ?_
 ·obtain ⟨w, H', h, rfl, q⟩ := key; exact ⟨H', h, q⟩
 refine wN_seq (wN_box rfl fun H1 k1 n1 c1 => wN_mov rfl (wN_end ?_))
 refine wN_seq (wN_pur (v := .func (.func 62) #[] #[.pointer (some ⟨H.next, 0, none⟩)]) rfl (by kernel_rfl) (wN_mov rfl (wN_end ?_)))
 exact ⟨True.intro, [.func (.func 62) #[] #[.pointer (some ⟨H.next, 0, none⟩)]], rfl, rfl, k1, c1.rd⟩
theorem ins_nil : ∃ H', FnX Try.prog kn lo 67 [.slice none 0 0, iv 0, iv 0] H (.tuple #[]) H' ∧ Keep H H' [] := by
 have key := fnX_low (kn := kn) (lo := lo) (H := H) (args := [.slice none 0 0, iv 0, iv 0]) (Q := fun w H' => w = .tuple #[] ∧ Keep H H' []) Try.func67 B67 N67 Z67 L67 (by simp) ?_
 ·obtain ⟨w, H', h, rfl, q⟩ := key; exact ⟨H', h, q⟩
 refine wN_seq (wN_mov rfl (wN_add (a := 0) (b := 1) rfl rfl ⟨by omega, by omega⟩ (wN_mov rfl (wN_end (wC_block (wC_other ?_))))))
 refine loop_low E67_1 N67 L67x1 (fun _ : Unit => [(2, iv 0), (6, iv 1)]) (fun k _ H' => H' = H) 0 () rfl ⟨rfl, rfl, True.intro⟩ ?_
 rintro k _ H1 rfl
 refine wC_lseq (wN_seq (wN_mov rfl (wN_mov rfl (wN_c_lss (a := 1) (b := 0) rfl rfl (wN_end (wC_cond (t := false) rfl (fun h => by cases h) fun _ => wN_exit ?_))))))
 exact ⟨True.intro, [], rfl, rfl, Keep.refl _ _⟩
theorem pdq_nil {lim : Int} : ∃ H', FnX Try.prog kn lo 65 [.slice none 0 0, iv 0, iv 0, iv lim] H (.tuple #[]) H' ∧ Keep H H' [] := by
 have key := fnX_low (kn := kn) (lo := lo) (H := H) (args := [.slice none 0 0, iv 0, iv 0, iv lim]) (Q := fun w H' => w = .tuple #[] ∧ Keep H H' []) Try.func65 B65 N65 Z65 L65 (by simp) ?_
 ·obtain ⟨w, H', h, rfl, q⟩ := key; exact ⟨H', h, q⟩
 obtain ⟨H1, h1, k1⟩ := ins_nil (kn := kn) (lo := lo) (H := H)
 refine wN_seq (wN_mov rfl (wN_end (wN_seq (wN_mov rfl (wN_end (wC_block (wC_other ?_)))))))
 refine loop_low E65_1 N65 L65x1 (fun _ : Unit => [(0, .slice none 0 0), (1, iv 0), (2, iv 0)]) (fun k _ H' => H' = H) 0 () rfl ⟨rfl, rfl, rfl, True.intro⟩ ?_
 rintro k _ H2 rfl
 refine wC_block (wN_seq (wN_mov rfl (wN_mov rfl (wN_sub (a := 0) (b := 0) rfl rfl ⟨by omega, by omega⟩ (wN_mov rfl (wN_end ?_))))))
 refine wC_lseq (wN_seq (wN_mov rfl (wN_c_leq (a := 0 - 0) (b := 12) rfl rfl (wN_end ?_))))
 refine wC_cond (t := true) rfl (fun _ => ?_) (fun h => by cases h)
 refine wN_seq (wN_mov rfl (wN_mov rfl (wN_mov rfl (wN_callf rfl (callX_args h1) (wN_end ?_)))))
 exact ⟨True.intro, [], rfl, rfl, k1⟩
theorem cF_of (xs : List Int) : cF xs.length (fun i => xs.getD i 0) = xs.map iv := cF_cI

theorem sort_ok (hlo : lo ≤ H.next) {bd cap : Nat} {xs : List Int} (hlb : lo ≤ bd) (hn : xs.length < 65536) (hc : Cl H bd (cI xs)) :
  ∃ H', FnX Try.prog kn lo 61 [.slice (some ⟨bd, 0, none⟩) xs.length cap] H (.tuple #[]) H' ∧ Keep H H' [bd] ∧ ∃ ys, ys.Perm xs ∧ ys.Pairwise (· ≤ ·) ∧ Cl H' bd (cI ys) := by
 have key := fnX_low (kn := kn) (lo := lo) (H := H) (args := [.slice (some ⟨bd, 0, none⟩) xs.length cap]) (Q := fun w H' => w = .tuple #[] ∧ Keep H H' [bd] ∧ ∃ ys, ys.Perm xs ∧ ys.Pairwise (· ≤ ·) ∧ Cl H' bd (cI ys)) Try.func61 B61 N61 Z61 L61 (by simp) ?_
 ·obtain ⟨w, H', h, rfl, q⟩ := key; exact ⟨H', h, q⟩
 obtain ⟨H1, h1, k1⟩ := len_ok (kn := kn) (lo := lo) (H := H) (n := xs.length) hn
 have hbl := bl64_le hn
 have hc1 : Cl H1 bd (cF xs.length (fun i => xs.getD i 0)) := by rw [cF_of]; exact k1.cl hc (by simp)
 obtain ⟨H2, g2, h2, p2, s2, k2, c2⟩ := pdq_ok (kn := kn) (lo := lo) (bd := bd) (cap := cap) (n := xs.length) hlb hn (xs.length + 1) H1 0 xs.length (fun i => xs.getD i 0) (bl64 xs.length) (by have := k1.le; omega) (Nat.zero_le _) (Nat.le_refl _) (by omega) (by omega) hc1 (fun i h0 => by omega)
 refine wN_seq (wN_mov rfl (wN_len rfl (wN_mov rfl (wN_end ?_))))
 refine wN_reg (wN_mov rfl (wN_mov rfl (wN_mov rfl (wN_pur (v := .int .u64 xs.length) rfl (c_iu (n := xs.length) (j := (xs.length : Int)) (by omega) rfl rfl) (wN_callf rfl (callX_args h1) (wN_callf (vs := [.slice (some ⟨bd, 0, none⟩) xs.length cap, iv 0, iv (xs.length : Int), iv (bl64 xs.length : Int)]) rfl (callX_args h2) (wN_end ?_)))))))
 refine ⟨True.intro, [], rfl, rfl, (k1.mono (by simp)).trans k2, rg g2 0 xs.length, ?_, ?_, ?_⟩
 ·refine p2.perm.trans ?_
  have : (rg (fun i => xs.getD i 0) 0 xs.length) = xs := by
   have e := cF_rg (n := xs.length) (g := fun i => xs.getD i 0)
   rw [cF_of] at e
   exact (List.map_inj_right (f := iv) (fun a b h => by cases h; rfl)).1 e.symm
  rw [this]
 ·rw [List.pairwise_iff_getElem]
  intro i j hi hj hij
  simp only [rg_len] at hi hj
  have q := s2 i j (by omega) (by omega) (by omega)
  simpa [rg] using q
 ·show Cl H2 bd ((rg g2 0 xs.length).map iv)
  rw [← cF_rg]; exact c2
theorem sort_nil : ∃ H', FnX Try.prog kn lo 61 [.slice none 0 0] H (.tuple #[]) H' ∧ Keep H H' [] := by
 have key := fnX_low (kn := kn) (lo := lo) (H := H) (args := [.slice none 0 0]) (Q := fun w H' => w = .tuple #[] ∧ Keep H H' []) Try.func61 B61 N61 Z61 L61 (by simp) ?_
 ·obtain ⟨w, H', h, rfl, q⟩ := key; exact ⟨H', h, q⟩
 obtain ⟨H1, h1, k1⟩ := len_ok (kn := kn) (lo := lo) (H := H) (n := 0) (by omega)
 obtain ⟨H2, h2, k2⟩ := pdq_nil (kn := kn) (lo := lo) (H := H1) (lim := (bl64 0 : Int))
 refine wN_seq (wN_mov rfl (wN_len (m := 0) rfl (wN_mov rfl (wN_end ?_))))
 refine wN_reg (wN_mov rfl (wN_mov rfl (wN_mov rfl (wN_pur (v := .int .u64 ((0 : Nat) : Int)) rfl (c_iu (n := 0) (j := ((0 : Nat) : Int)) (by omega) rfl rfl) (wN_callf rfl (callX_args h1) (wN_callf (vs := [.slice none 0 0, iv 0, iv 0, iv (bl64 0 : Int)]) rfl (callX_args h2) (wN_end ?_)))))))
 exact ⟨True.intro, [], rfl, rfl, k1.trans k2⟩
theorem sorted_ok (s : Snd Try.prog kn) (hlo : lo ≤ H.next) {bm m c : Nat} {L : ML Int} (hbm : Rd H bm [.map (some m)]) (hm : Mpa iv H m L c) (hw : WfA L c) (hfl : ∀ y ∈ L, flat y.2.1 = true) (hL : L.length ≤ 900) :
  FnM Try.prog lo 54 [.func (.func 62) #[] #[.pointer (some ⟨bm, 0, none⟩)]] H fun v H' => Keep H H' [] ∧ ∃ a ys cap, v = .slice a ys.length cap ∧ Sl H' a ys.length cap (cI ys) ∧ ys.Pairwise (· ≤ ·) ∧ ys.Perm (L.map (·.1)) := by
 refine fnM_low s Try.func54 B54 N54 Z54 L54 (by simp) ?_
 refine wM_seq (wM_mov rfl (wM_end (wM_seq (wM_mov rfl (wM_call (t := .fn (.func 60) #[]) rfl (callM_args s.hN (collect_ok s hlo hbm hm hw hfl hL)) ?_)))))
 rintro v H1 ⟨k1, D, hD, ha⟩
 have hDl := hD.length_eq
 rcases ha with ⟨h0, h01, rfl⟩ | ⟨b, rfl, _, hb, hlb, hbn, hg⟩
 ·obtain ⟨H2, h2, k2⟩ := sort_nil (kn := kn) (lo := lo) (H := H1)
  have hL0 : L = [] := List.eq_nil_of_length_eq_zero (by omega)
  subst hL0
  refine wM_mov rfl (wM_end (wM_seq (wM_mov rfl (wM_callf s rfl (callX_args h2) (wM_end ?_)))))
  refine wM_seq (wM_mov rfl (wM_mov rfl (wM_end (wM_ret ⟨True.intro, [.slice none 0 0], rfl, k1.trans k2, none, [], 0, rfl, .inl ⟨.inl rfl, rfl, rfl, rfl⟩, List.Pairwise.nil, .refl _⟩))))
 have hc : Cl H1 b (cI (D.map (·.1))) := ⟨hbn, 3, true, by rw [hg]; simp [cI, Function.comp_def]⟩
 have hlen : (D.map (·.1)).length = D.length := by simp
 obtain ⟨H2, h2, k2, ys, hp, hs, hc2⟩ := sort_ok (kn := kn) (lo := lo) (H := H1) (cap := D.length) (by have := k1.le; omega) hlb (by rw [hlen]; omega) hc
 rw [hlen] at h2
 have hyl : ys.length = D.length := by rw [hp.length_eq, hlen]
 refine wM_mov rfl (wM_end (wM_seq (wM_mov rfl (wM_callf s rfl (callX_args h2) (wM_end ?_)))))
 refine wM_seq (wM_mov rfl (wM_mov rfl (wM_end (wM_ret ⟨True.intro, [.slice (some ⟨b, 0, none⟩) D.length D.length], rfl, k1.new k2 (fun x hx => .inr (by simp at hx; omega)), some ⟨b, 0, none⟩, ys, D.length, by rw [hyl]; rfl, .inr ⟨b, rfl, hc2.rd, by omega⟩, hs, ?_⟩))))
 exact hp.trans (hD.map _)
end
end
end Go.Ax

/-
 Pool: what all growers delivered together (44); Advances (16) (written by program).
-/
namespace Go.Ax
open Go Go.RowKit Go.Proofs

noncomputable section
section
variable {P : Program} {kn : Kn} {lo n : Nat} {r : List RO} {S : Rg} {H : Hp} {K : Rg → Hp → Prop} {d : Option Nat} {rd : Bool} {masks : List Nat}
theorem wM_dseq {ops : List RO} {c : RC} {K : Exit → Rg → Hp → Prop} (h : wDraw P kn lo n masks ops [] S H fun S' H' => wCM P kn lo n rd c S' H' K) : wCM P kn lo n rd (.seq (.dreg ops masks) c) S H K := .inl h
theorem wM_ddreg {ops : List RO} {K : Exit → Rg → Hp → Prop} (h : wDraw P kn lo n masks ops [] S H fun S' H' => K .normal S' H') : wCM P kn lo n rd (.dreg ops masks) S H K := .inl h
theorem wM_callB (s : Snd P kn) {c : Call} {f : FuncId} {v : Value} {args : List Value} {t0 : Bool} (ht : targetS S c = some (.fn (.func f) #[], v :: args)) (h : ∃ H', FnX P kn lo f (v :: args) H (.bool t0) H' ∧ Keep H H' [])
  (hk : ∀ t H', t0 = t → Keep H H' [] → wOpsM P kn lo n r (putS S d (.bool t)) H' K) (hs : specialF f = false := by rfl) : wOpsM P kn lo n (⟨d, none, .call c true⟩ :: r) S H K := by
 obtain ⟨H', hf, k⟩ := h
 exact wM_callf s ht (callX_args hf hs) (hk t0 H' rfl k)
end
def sumK (f : Int → Int) : List Int → Int
 | [] => 0
 | k :: l => f k + sumK f l
theorem sumK_app {f : Int → Int} : ∀ (a b : List Int), sumK f (a ++ b) = sumK f a + sumK f b
 | [], b => by simp [sumK]
 | k :: a, b => by simp only [List.cons_append, sumK, sumK_app a b]; omega
theorem sumK_add {f g h : Int → Int} (e : ∀ k, h k = f k + g k) : ∀ l, sumK h l = sumK f l + sumK g l
 | [] => rfl
 | k :: l => by simp only [sumK, sumK_add e l, e k]; omega
theorem sumK_zero {f : Int → Int} : ∀ {l : List Int}, (∀ k ∈ l, f k = 0) → sumK f l = 0
 | [], _ => rfl
 | k :: l, h => by simp only [sumK]; rw [h k (by simp), sumK_zero fun x hx => h x (by simp [hx])]; rfl
theorem sumK_one {a w : Int} : ∀ {l : List Int}, l.Nodup → a ∈ l → sumK (fun k => if a = k then w else 0) l = w
 | k :: l, hn, h => by
  rw [List.nodup_cons] at hn
  simp only [sumK]
  by_cases e : a = k
  ·rw [if_pos e, sumK_zero fun x hx => if_neg (fun q => hn.1 (by rw [← e, q]; exact hx))]; omega
  ·rw [if_neg e, sumK_one hn.2 ((List.mem_cons.1 h).resolve_left e)]; omega
theorem sumK_in {f : Int → Int} {M : Int} : ∀ {l : List Int}, (∀ k ∈ l, 0 ≤ f k ∧ f k ≤ M) → 0 ≤ sumK f l ∧ sumK f l ≤ M * l.length
 | [], _ => by simp [sumK]
 | k :: l, h => by
  have a := h k (by simp)
  have b := sumK_in (l := l) fun x hx => h x (by simp [hx])
  simp only [sumK, List.length_cons]
  rw [show M * ((l.length + 1 : Nat) : Int) = M * (l.length : Int) + M by rw [Int.natCast_add, Int.mul_add]; simp]
  omega
def tW (us : List Pr) (ds : List Dl) : Nat → Int
 | 0 => 0
 | k + 1 => tW us ds k + wW us (ds.getD k Dl.z)
def tA (us : List Pr) (adv : Int) (ds : List Dl) : Nat → Int
 | 0 => 0
 | k + 1 => tA us adv ds k + wA us adv (ds.getD k Dl.z)
theorem sum_hw {us : List Pr} {ds : List Dl} {ks : List Int} (hn : ks.Nodup) : ∀ i, (∀ j, j < i → (ds.getD j Dl.z).r ∈ ks) → sumK (fun g => hwS us ds g i) ks = tW us ds i
 | 0, _ => sumK_zero fun _ _ => rfl
 | i + 1, h => by
  have ih := sum_hw (us := us) hn i fun j hj => h j (by omega)
  rw [sumK_add (h := fun g => hwS us ds g (i + 1)) (f := fun g => hwS us ds g i) (g := fun g => if (ds.getD i Dl.z).r = g then wW us (ds.getD i Dl.z) else 0) (fun k => rfl), ih, sumK_one hn (h i (by omega))]
  rfl
theorem sum_ha {us : List Pr} {adv : Int} {ds : List Dl} {ks : List Int} (hn : ks.Nodup) : ∀ i, (∀ j, j < i → (ds.getD j Dl.z).r ∈ ks) → sumK (fun g => haS us adv ds g i) ks = tA us adv ds i
 | 0, _ => sumK_zero fun _ _ => rfl
 | i + 1, h => by
  have ih := sum_ha (us := us) (adv := adv) hn i fun j hj => h j (by omega)
  rw [sumK_add (h := fun g => haS us adv ds g (i + 1)) (f := fun g => haS us adv ds g i) (g := fun g => if (ds.getD i Dl.z).r = g then wA us adv (ds.getD i Dl.z) else 0) (fun k => rfl), ih, sumK_one hn (h i (by omega))]
  rfl
theorem tW_in {us : List Pr} {ds : List Dl} (hu : us.any badP = false) (h0 : 0 < us.length) (hd : ds.any badD = false) : ∀ k, k ≤ ds.length → 0 ≤ tW us ds k ∧ tW us ds k ≤ 35115653 * k
 | 0, _ => by show (0 : Int) ≤ 0 ∧ (0 : Int) ≤ 35115653 * ((0 : Nat) : Int); omega
 | k + 1, h => by
  have ih := tW_in hu h0 hd k (by omega)
  have w := wW_in hu h0 (okD_of (any_at (z := Dl.z) hd (show k < ds.length by omega)))
  show 0 ≤ tW us ds k + _ ∧ tW us ds k + _ ≤ 35115653 * ((k + 1 : Nat) : Int)
  omega
theorem Grs.in_keys {us : List Pr} {adv : Int} {ds : List Dl} {i : Nat} {L : ML Int} {c : Nat} (h : Grs us adv ds i L c) {ks : List Int} (hp : ks.Perm (L.map (·.1))) : ks.Nodup ∧ ∀ j, j < i → (ds.getD j Dl.z).r ∈ ks :=
 ⟨hp.nodup_iff.2 h.wf.keys, fun j hj => hp.mem_iff.2 ((h.key _).2 ⟨j, hj, rfl⟩)⟩
section
variable {kn : Kn} {lo : Nat} {H : Hp}
theorem sumD {us : List Pr} {adv : Int} {ds : List Dl} (hu : us.any badP = false) (h0 : 0 < us.length) (ha1 : 0 ≤ adv) (ha2 : adv ≤ 1000) (hm2 : ds.length ≤ 128) (hdv : ds.any badD = false) {L : ML Int} {c : Nat} (hG : Grs us adv ds ds.length L c) {D : ML Int} (hn : D.Nodup) (hD : ∀ y ∈ D, y ∈ L) :
  (0 ≤ sumK (fun g => hwS us ds g ds.length) (D.map (·.1)) ∧ sumK (fun g => hwS us ds g ds.length) (D.map (·.1)) ≤ 4494803584 * D.length) ∧ (0 ≤ sumK (fun g => haS us adv ds g ds.length) (D.map (·.1)) ∧ sumK (fun g => haS us adv ds g ds.length) (D.map (·.1)) ≤ 4494803584 * D.length) := by
 have a := sumK_in (f := fun g => hwS us ds g ds.length) (M := 4494803584) (l := D.map (·.1)) fun k _ => by have := hwS_in (g := k) hu h0 hdv ds.length (Nat.le_refl _); omega
 have b := sumK_in (f := fun g => haS us adv ds g ds.length) (M := 4494803584) (l := D.map (·.1)) fun k _ => by have := haS_in (g := k) hu h0 ha1 ha2 hdv ds.length (Nat.le_refl _); omega
 simp only [List.length_map] at a b
 exact ⟨a, b⟩
set_option maxRecDepth 100000 in
theorem total_ok (s : Snd Try.prog kn) {us : List Pr} {adv : Int} {ds : List Dl} (hu : us.any badP = false) (h0 : 0 < us.length) (ha1 : 0 ≤ adv) (ha2 : adv ≤ 1000) (hm2 : ds.length ≤ 128) (hdv : ds.any badD = false) (hlo : lo ≤ H.next) {b c : Nat} {L : ML Int} (hmp : Mpa iv H b L c) (hG : Grs us adv ds ds.length L c) :
  FnM Try.prog lo 44 [.map (some b)] H fun v H' => v = iv (tW us ds ds.length) ∧ Keep H H' [] := by
 refine fnM_low s Try.func44 B44 N44 Z44 L44 (by simp) ?_
 refine wM_seq (wM_mov rfl (wM_end (wM_seq (wM_mov rfl (wM_end ?_)))))
 refine wM_lseq ?_
 refine wM_seq (wM_mov rfl (wM_rng rfl hmp fun H1 k1 n1 i1 => wM_end (wM_block (wM_other ?_))))
 have hlen := hG.len
 refine loopM_low s E44_1 N44 L44x1 (fun D : ML Int => [(3, iv (sumK (fun g => hwS us ds g ds.length) (D.map (·.1)))), (7, .pointer (some ⟨H.next, 0, none⟩))])
  (fun k D H' => k = L.length - D.length ∧ D.Nodup ∧ (∀ y ∈ D, y ∈ L) ∧ Keep H H' [] ∧ H.next + 1 ≤ H'.next ∧ Ita H' H.next b c D ∧ Mpa iv H' b L c) _ [] ⟨rfl, List.nodup_nil, (fun y h => by cases h), k1, by omega, i1, k1.mpa0 hmp⟩ ⟨rfl, rfl, True.intro⟩ ?_
 rintro k D H2 ⟨rfl, hn, hD, k2, f2, i2, m2⟩
 have hne : b ≠ H.next := Nat.ne_of_lt hmp.1
 have hsD := sumD hu h0 ha1 ha2 hm2 hdv hG hn hD
 refine wM_seq (wM_nxt rfl i2 m2 hG.wf hD key3.fl hG.flat (by omega) (fun hall => ?_) (fun y hy hny H3 k3 n3 i3 => ?_))
 ·refine wM_pur (v := .bool false) rfl (by kernel_rfl) (wM_end (wM_lseq (wM_cond (t := false) rfl (fun h => by cases h) fun _ => wM_exit ?_)))
  refine wM_seq (wM_mov rfl (wM_mov rfl (wM_end (wM_ret ⟨True.intro, [iv (sumK (fun g => hwS us ds g ds.length) (D.map (·.1)))], rfl, ?_, k2⟩))))
  have hp : (D.map (·.1)).Perm (L.map (·.1)) := (nodup_perm hn hG.wf.nodup fun x => ⟨hD x, hall x⟩).map _
  obtain ⟨q1, q2⟩ := hG.in_keys hp
  show iv _ = iv _
  rw [sum_hw q1 _ q2]
 ·have hsub : ∀ x ∈ D ++ [y], x ∈ L := fun x hx => by
   rcases List.mem_append.1 hx with h | h
   ·exact hD x h
   ·simp at h; rw [h]; exact hy
  have hnd : (D ++ [y]).Nodup := List.nodup_append.2 ⟨hn, by simp, fun a ha b hb e => hny (by simp at hb; rw [← hb, ← e]; exact ha)⟩
  have hlen2 : (D ++ [y]).length = D.length + 1 := by simp
  have hDL := nodup_len hnd hsub
  have m3 : Mpa iv H3 b L c := k3.mpa m2 (by simpa using hne)
  have hw := hwS_in (g := y.1) hu h0 hdv ds.length (Nat.le_refl _)
  refine wM_pur (v := .bool true) rfl (by kernel_rfl) (wM_end (wM_lseq (wM_cond (t := true) rfl (fun _ => wM_skip ?_) fun h => by cases h)))
  have hfy : flat y.2.1 = true := hG.flat y hy
  refine wM_block (wM_seq (wM_ent rfl i3 m3 hG.wf hy key3.fl hfy ?_))
  rw [hG.val y hy]
  refine wM_pur (v := hvV us adv ds y.1) rfl (by kernel_rfl) (wM_alc fun H4 k4 n4 c4 => wM_sta (v := hvV us adv ds y.1) rfl rfl c4 (by omega) rfl rfl (by simp) fun H5 k5 n5 c5 => wM_end ?_)
  have k35 : Keep H3 H5 [] := k4.new k5 (fun b hb => .inr (by simp at hb; omega))
  have c5 : Cl H5 H3.next [iv y.1, iv (hwS us ds y.1 ds.length), iv (haS us adv ds y.1 ds.length)] := c5
  refine wM_reg (wM_mov rfl (wM_addo rfl (wM_ld (v := iv (hwS us ds y.1 ds.length)) rfl c5.rd rfl (wM_add (a := sumK (fun g => hwS us ds g ds.length) (D.map (·.1))) (b := hwS us ds y.1 ds.length) rfl rfl ⟨by omega, by omega⟩ (wM_mov rfl (wM_end ?_))))))
  refine ⟨_, D ++ [y], by rw [hlen2]; omega, ⟨rfl, hnd, hsub, (k2.new k3 (fun b hb => .inr (by simp at hb; omega))).trans k35, by have := k35.1; omega, k35.ita i3 (by simp), k35.mpa0 m3⟩, ?_, rfl, True.intro⟩
  show some (iv _) = some (iv _)
  rw [List.map_append, sumK_app]
  simp [sumK]
end
end
end Go.Ax

/-
 Pool: Advances (16) (written by program).
-/
namespace Go.Ax
open Go Go.RowKit Go.Proofs

noncomputable section
def avV (us : List Pr) (adv : Int) (ds : List Dl) : Int := if (vT us adv && vD ds) = true then tA us adv ds ds.length else 0
def avE (us : List Pr) (adv : Int) (ds : List Dl) : Int := if (vT us adv && vD ds) = true then 0 else 1
section
variable {kn : Kn} {lo : Nat} {H : Hp}
set_option maxRecDepth 100000 in
set_option maxHeartbeats 1000000 in
theorem Advances_ok (s : Snd Try.prog kn) {us : List Pr} {sa : Option Addr} {n cap : Nat} {adv : Int} (hs : Sl H sa n cap (prc us)) (hl : us.length = n) (hn : n ≤ 1000000) {ds : List Dl} {la : Option Addr} {m capl : Nat} (hd : Sl H la m capl (dlc ds)) (hm : ds.length = m) (hmn : m ≤ 1000000) (hlo : lo ≤ H.next) :
  FnM Try.prog lo 16 [.agg #[.slice sa n cap, iv adv], .slice la m capl] H fun v H' => v = .tuple #[iv (avV us adv ds), iv (avE us adv ds)] ∧ Keep H H' [] := by
 refine fnM_low s Try.func16 B16 N16 Z16 L16 (by simp) ?_
 have hk := Keep.refl H []
 have fs := hs.old
 have fd := hd.old
 refine wM_seq <| wM_box (v := .agg #[.slice sa n cap, iv adv]) rfl ?_
 intro H1 kH1 nH1 c1
 have c1 : Cl H1 H.next [.slice sa n cap, iv adv] := c1
 have mH1 := kH1.1
 have hk := hk.trans kH1
 have hs := kH1.sl0 hs
 have hd := kH1.sl0 hd
 refine wM_mov (v := iv 0) rfl <| wM_mov (v := iv 0) rfl <| wM_end <| wM_seq <| wM_lda (b := H.next) (o := 0) rfl c1.rd (show row 2 _ _ = some [.slice sa n cap, iv adv] from rfl) <| wM_callB s rfl (vT_ok hs hl hn (by omega)) ?_
 intro tH2 H2 hH2 kH2
 have mH2 := kH2.1
 have hk := hk.trans kH2
 have hs := kH2.sl0 hs
 have hd := kH2.sl0 hd
 have c1 := kH2.cl c1 (by simp)
 cases tH2
 ·have vhH2 : vT us adv = false := hH2
  have qvT := vhH2
  refine wM_pur (v := .bool true) rfl rfl <| wM_mov (v := .bool true) rfl <| wM_gs rfl <| wM_gs rfl <| wM_gs rfl <| wM_pur (v := .bool true) rfl rfl <| wM_end <| condT <| wM_seq <| wM_mov (v := iv 0) rfl <| wM_mov (v := iv 1) rfl <| wM_end ?_
  exact And.intro trivial (Exists.intro _ (And.intro rfl ⟨by unfold avV avE; first | (rw [qvT]; rfl) | (rw [qvD]; simp; rfl) | (simp only [qvT, qvD]; rfl), hk⟩))
 ·have vhH2 : vT us adv = true := hH2
  obtain ⟨h0x, h8, hu, ha1, ha2⟩ := vT_t vhH2
  have h0 : 0 < n := by omega
  have qvT := vhH2
  refine wM_pur (v := .bool false) rfl rfl <| wM_mov (v := .bool false) rfl ?_
  refine wM_g rfl (wM_mov (v := .slice la m capl) rfl ?_)
  refine wM_g rfl (wM_callB s rfl (vD_ok hd hm hmn (by omega)) ?_)
  intro tH3 H3 hH3 kH3
  have mH3 := kH3.1
  have hk := hk.trans kH3
  have hs := kH3.sl0 hs
  have hd := kH3.sl0 hd
  have c1 := kH3.cl c1 (by simp)
  cases tH3
  ·have vhH3 : vD ds = false := hH3
   have qvD := vhH3
   refine wM_g rfl (wM_pur (v := .bool true) rfl rfl ?_)
   refine wM_pur (v := .bool true) rfl rfl <| wM_end <| condT <| wM_seq <| wM_mov (v := iv 0) rfl <| wM_mov (v := iv 1) rfl <| wM_end ?_
   exact And.intro trivial (Exists.intro _ (And.intro rfl ⟨by unfold avV avE; first | (rw [qvT]; rfl) | (rw [qvD]; simp; rfl) | (simp only [qvT, qvD]; rfl), hk⟩))
  ·have vhH3 : vD ds = true := hH3
   obtain ⟨hm8, hdv⟩ := vD_t vhH3
   have qvD := vhH3
   refine wM_g rfl (wM_pur (v := .bool false) rfl rfl ?_)
   refine wM_pur (v := .bool false) rfl rfl <| wM_end <| condF ?_
   first | refine wM_skip ?_ | skip
   refine wM_seq <| wM_lda (b := H.next) (o := 0) rfl c1.rd (show row 2 _ _ = some [.slice sa n cap, iv adv] from rfl) <| wM_mov (v := .slice la m capl) rfl ?_
   obtain ⟨gb, L, gc, H4, fH4, hgb, hmp, hG, kH4⟩ := gather_ok (kn := kn) (lo := lo) (H := H3) (adv := adv) hs hl hn hu h0 ha1 ha2 hd hm (by omega) hdv (by omega)
   refine wM_callf s (vs := [.agg #[.slice sa n cap, iv adv], .slice la m capl]) rfl (callX_args fH4) ?_
   have mH4 := kH4.1
   have hk := hk.trans kH4
   have hs := kH4.sl0 hs
   have hd := kH4.sl0 hd
   have c1 := kH4.cl c1 (by simp)
   rw [← hm] at hG
   have lgb := hmp.1
   refine wM_rng rfl hmp ?_
   intro H5 kH5 nH5 iH5
   have mH5 := kH5.1
   have hk := hk.trans kH5
   have hs := kH5.sl0 hs
   have hd := kH5.sl0 hd
   have c1 := kH5.cl c1 (by simp)
   have hmp := kH5.mpa hmp (by simp)
   refine wM_end ?_
   have hlen := hG.len
   obtain ⟨it, eit⟩ : ∃ it, it = H4.next := ⟨_, rfl⟩
   have hit := iH5
   rw [← eit] at hit
   have hne : gb ≠ it := by omega
   have hoit : H.next ≤ it := by omega
   refine loopM_low s (fn := Try.f16) E16_1 N16 L16x1 (fun D : ML Int => [(4, iv (sumK (fun g => haS us adv ds g ds.length) (D.map (·.1)))), (19, .pointer (some ⟨it, 0, none⟩))])
    (fun k D H' => k = L.length - D.length ∧ D.Nodup ∧ (∀ y ∈ D, y ∈ L) ∧ Keep H H' [] ∧ it + 1 ≤ H'.next ∧ Ita H' it gb gc D ∧ Mpa iv H' gb L gc) _ [] ⟨rfl, List.nodup_nil, (fun y h => by cases h), hk, by omega, hit, hmp⟩ ⟨rfl, by rw [eit]; rfl, True.intro⟩ ?_
   rintro k D L1 ⟨rfl, hnd, hD, hk, f2, i2, m2⟩
   have hsD := sumD hu (by omega) ha1 ha2 (by omega) hdv hG hnd hD
   refine wM_seq (wM_nxt rfl i2 m2 hG.wf hD key3.fl hG.flat (by omega) (fun hall => ?_) (fun y hy hny H3 k3 n3 i3 => ?_))
   ·refine wM_pur (v := .bool false) rfl (by kernel_rfl) (wM_end (wM_lseq (wM_cond (t := false) rfl (fun h => by cases h) fun _ => wM_exit ?_)))
    show wCM _ _ _ _ _ _ _ _ _
    have hp : (D.map (·.1)).Perm (L.map (·.1)) := (nodup_perm hnd hG.wf.nodup fun x => ⟨hD x, hall x⟩).map _
    obtain ⟨q1, q2⟩ := hG.in_keys hp
    have hsum := sum_ha (us := us) (adv := adv) q1 _ q2
    refine wM_seq <| wM_mov (v := iv (sumK (fun g => haS us adv ds g ds.length) (D.map (·.1)))) rfl <| wM_mov (v := iv (sumK (fun g => haS us adv ds g ds.length) (D.map (·.1)))) rfl <| wM_mov (v := iv 0) rfl <| wM_end ?_
    exact And.intro trivial (Exists.intro _ (And.intro rfl ⟨by unfold avV avE; rw [qvT, qvD]; show Value.tuple #[iv _, iv 0] = _; rw [hsum]; rfl, hk⟩))
   ·have hsub : ∀ x ∈ D ++ [y], x ∈ L := fun x hx => by
     rcases List.mem_append.1 hx with h | h
     ·exact hD x h
     ·simp at h; rw [h]; exact hy
    have hnd2 : (D ++ [y]).Nodup := List.nodup_append.2 ⟨hnd, by simp, fun a ha b hb e => hny (by simp at hb; rw [← hb, ← e]; exact ha)⟩
    have hlen2 : (D ++ [y]).length = D.length + 1 := by simp
    have hDL := nodup_len hnd2 hsub
    have m3 : Mpa iv H3 gb L gc := k3.mpa m2 (by simpa using hne)
    have hw := haS_in (g := y.1) hu (by omega) ha1 ha2 hdv ds.length (Nat.le_refl _)
    refine wM_pur (v := .bool true) rfl (by kernel_rfl) (wM_end (wM_lseq (wM_cond (t := true) rfl (fun _ => wM_skip ?_) fun h => by cases h)))
    have hfy : flat y.2.1 = true := hG.flat y hy
    refine wM_block (wM_seq (wM_ent rfl i3 m3 hG.wf hy key3.fl hfy ?_))
    rw [hG.val y hy]
    refine wM_pur (v := hvV us adv ds y.1) rfl (by kernel_rfl) (wM_alc fun H4 k4 n4 c4 => wM_sta (v := hvV us adv ds y.1) rfl rfl c4 (by omega) rfl rfl (by simp) fun H5 k5 n5 c5 => wM_end ?_)
    have k35 : Keep H3 H5 [] := k4.new k5 (fun b hb => .inr (by simp at hb; omega))
    have c5 : Cl H5 H3.next [iv y.1, iv (hwS us ds y.1 ds.length), iv (haS us adv ds y.1 ds.length)] := c5
    refine wM_reg (wM_mov rfl (wM_addo rfl (wM_ld (v := iv (haS us adv ds y.1 ds.length)) rfl c5.rd rfl (wM_add (a := sumK (fun g => haS us adv ds g ds.length) (D.map (·.1))) (b := haS us adv ds y.1 ds.length) rfl rfl ⟨by omega, by omega⟩ (wM_mov rfl (wM_end ?_))))))
    refine ⟨_, D ++ [y], by rw [hlen2]; omega, ⟨rfl, hnd2, hsub, (hk.new k3 (fun b hb => .inr (by simp at hb; omega))).trans k35, by have := k35.1; omega, k35.ita i3 (by simp), k35.mpa0 m3⟩, ?_, rfl, True.intro⟩
    show some (iv _) = some (iv _)
    rw [List.map_append, sumK_app]
    simp [sumK]
end
end
end Go.Ax

/-! Steps of drawn regions where what is only read lies low (written by program, out of the others). -/
namespace Go.Ax
open Go Go.RowKit
section
variable {P : Program} {kn : Kn} {lo n : Nat} {masks : List Nat} {r : List RO} {ks : List Kd} {S : Rg} {H : Hp} {K : Rg → Hp → Prop} {d : Option Nat} {x y : Operand} {rd : Bool} {a b : Int}
end
end Go.Ax

/-! Lists that append makes side by side; blocks that do not move. -/
namespace Go.Ax
open Go Go.RowKit

def bkv : Value → Option Nat
 | .slice (some ⟨b, _, _⟩) _ _ => some b
 | _ => none
def Ap (v w : Value) : Prop := ∀ b c, bkv v = some b → bkv w = some c → b ≠ c
theorem Ap.symm {v w : Value} (h : Ap v w) : Ap w v := fun b c h1 h2 e => h c b h2 h1 e.symm
def AcL (lo f : Nat) (e : TypeId) (H : Hp) (l : List (Value × Nat × List Value)) : Prop := (∀ x ∈ l, Acc lo f e H x.1 x.2.1 x.2.2) ∧ l.Pairwise fun x y => Ap x.1 y.1
theorem AcL.keep {lo f : Nat} {e : TypeId} {H H1 : Hp} {l : List (Value × Nat × List Value)} (h : AcL lo f e H l) (k : Keep H H1 []) : AcL lo f e H1 l := ⟨fun x hx => (h.1 x hx).keep k, h.2⟩
theorem AcL.keepW {lo f : Nat} {e : TypeId} {H H1 : Hp} {l : List (Value × Nat × List Value)} (h : AcL lo f e H l) {x : Nat} (k : Keep H H1 [x]) (hx : x < f) : AcL lo f e H1 l := ⟨fun y hy => (h.1 y hy).keepW k hx, h.2⟩
def Sc (H : Hp) (b : Nat) (cs : List Value) : Prop := b < H.next ∧ ∃ e, H.t.get b = some (.cells cs e false)
theorem Sc.cl {H : Hp} {b : Nat} {cs : List Value} (h : Sc H b cs) : Cl H b cs := by
 obtain ⟨h1, e, h2⟩ := h; exact ⟨h1, e, false, h2⟩
theorem Sc.lt {H : Hp} {b : Nat} {cs : List Value} (h : Sc H b cs) : b < H.next := h.1
theorem Keep.sc {H H1 : Hp} {l : List Nat} (k : Keep H H1 l) {b : Nat} {cs : List Value} (h : Sc H b cs) (hl : b ∉ l) : Sc H1 b cs := by
 obtain ⟨h1, e, h2⟩ := h; exact ⟨Nat.lt_of_lt_of_le h1 k.1, e, by rw [k.2 b h1 hl]; exact h2⟩
theorem KeepB.sc {f : Nat} {H H1 : Hp} (k : KeepB f H H1) {b : Nat} {cs : List Value} (h : Sc H b cs) (hl : b < f) : Sc H1 b cs := by
 obtain ⟨h1, e, h2⟩ := h; exact ⟨Nat.lt_of_lt_of_le h1 k.1, e, by rw [k.2 b hl]; exact h2⟩
def Fx (H : Hp) (b : Nat) (cs : List Value) : Prop := b < H.next ∧ (H.t.get b = some (.ro cs) ∨ (∃ e, H.t.get b = some (.cells cs e false)) ∨ H.t.get b = some (.cells cs 3 true))
theorem Fx.rd {H : Hp} {b : Nat} {cs : List Value} (h : Fx H b cs) : Rd H b cs := by
 obtain ⟨h1, h2 | ⟨e, h2⟩ | h2⟩ := h <;> exact ⟨h1, by unfold cellsOf; rw [h2]⟩
theorem Fx.lt {H : Hp} {b : Nat} {cs : List Value} (h : Fx H b cs) : b < H.next := h.1
end Go.Ax

/-
 Pool: shares and payments (46, 40, 39) (written by program).
-/
namespace Go.Ax
open Go Go.RowKit Go.Proofs

noncomputable section
theorem se72 : sliceElem Try.prog 72 = some (75, 4) := by kernel_rfl
theorem un72 : Try.prog.underlying 72 = some (.slice 75) := by kernel_rfl
theorem zo75 : zeroOf Try.prog 75 = some (.agg #[iv 0, iv 0, iv 0, iv 0]) := by kernel_rfl
theorem se37 : sliceElem Try.prog 37 = some (50, 5) := by kernel_rfl
theorem un37 : Try.prog.underlying 37 = some (.slice 50) := by kernel_rfl
theorem zo50 : zeroOf Try.prog 50 = some (.agg #[iv 0, iv 0, iv 0, iv 0, iv 0]) := by kernel_rfl
theorem heap_append_out {P : Program} {lo : Nat} {H : Hp} {t0 t1 e ep : TypeId} {size k cap2 f : Nat} {a : Option Addr} {v : Value} {cs news : List Value} (he : sliceElem P t0 = some (e, size)) (ht : P.underlying t1 = some (.slice ep))
  (hs : Sl H a 1 cap2 news) (hl : news.length = 1 * size) (hz : 0 < size) (hone : news.all one = true) (hcl : cs.length = k * size) (hk : k < 1000) (ha : Acc lo f e H v k cs) (hlo : lo ≤ H.next) (hf : f ≤ H.next) :
  ∃ H1 kd, (∀ (n : Nat) (S : Rg) (d : Option Tmp) (x y : Operand) (ty : TypeId) (p : String), evS S x = some v → evS S y = some (.slice a 1 cap2) → heapOp P lo (frS n S) H ⟨d, .call ⟨.builtin .append, #[x, y], #[t0, t1]⟩, ty, p, #[], none⟩ = some (.val (.slice (some ⟨H.next, 0, none⟩) (k + 1) (k + 1)) H1, kd)) ∧ (kd = .heavy ∨ ∃ b, kd = .store b ∧ f ≤ b) ∧
   Acc lo f e H1 (.slice (some ⟨H.next, 0, none⟩) (k + 1) (k + 1)) (k + 1) (cs ++ news) ∧ Keep H H1 (bkv v).toList := by
 rcases ha with ⟨rfl, rfl, rfl⟩ | ⟨b, rfl, h0, hb, hlb, hn, hg⟩
 ·refine ⟨H.new (.cells news e true), .heavy, ?_, .inl rfl, ?_, (new_facts rfl).1.mono (by simp)⟩
  ·intro n S d x y ty p hx hy
   unfold heapOp
   simp only [evs, ev_frS, hx, hy, builtinV, List.getElem?_toArray, List.getElem?_cons_zero, List.getElem?_cons_succ, he, ht, src_of hs hl, appendV]
   rfl
  ·refine .inr ⟨H.next, rfl, by omega, hf, hlo, Nat.lt_succ_self _, ?_⟩
   show (H.t.set H.next _).get H.next = _
   rw [Tr.get_set, if_pos rfl]; rfl
 ·have h1 : Nat.ble (0 + (k + 1) * size) cs.length = false := by
   cases h : Nat.ble (0 + (k + 1) * size) cs.length with
   | false => rfl
   | true => have := Nat.le_of_ble_eq_true h; rw [hcl, Nat.succ_mul] at this; omega
  have h2 : Nat.beq (0 + k * size) cs.length = true := by rw [hcl, Nat.zero_add]; exact Nat.beq_refl _
  have h3 : Nat.ble (k + 1) 1048576 = true := Nat.ble_eq_true_of_le (by omega)
  have h4 : Nat.beq e e = true := Nat.beq_refl e
  refine ⟨({ H with t := H.t.set b .dead } : Hp).new (.cells (cs ++ news) e true), .store b, ?_, .inr ⟨b, rfl, hb⟩, ?_, ?_⟩
  ·intro n S d x y ty p hx hy
   unfold heapOp
   simp only [evs, ev_frS, hx, hy, builtinV, List.getElem?_toArray, List.getElem?_cons_zero, List.getElem?_cons_succ, he, ht, src_of hs hl, appendV, hg, h1, h2, h3, h4, hone, Nat.ble_eq_true_of_le hlb, Bool.and_self, cond_true, cond_false, List.drop_zero, show Nat.beq 1 0 = false from rfl]
  ·refine .inr ⟨H.next, rfl, by omega, hf, hlo, Nat.lt_succ_self _, ?_⟩
   show ((H.t.set b .dead).set H.next _).get H.next = _
   rw [Tr.get_set, if_pos rfl]
  ·refine ⟨Nat.le_succ _, fun c hc hn => ?_, fun c xs hc hx => ?_⟩
   ·have hne : c ≠ b := by simpa [bkv] using hn
    show ((H.t.set b .dead).set H.next _).get c = _
    rw [Tr.get_set, if_neg (by omega), Tr.get_set, if_neg hne]
   ·have hx : ((H.t.set b .dead).set H.next (.cells (cs ++ news) e true)).get c = some (.ro xs) := hx
    have hc : c < H.next + 1 := hc
    rw [Tr.get_set] at hx
    split at hx
    ·cases hx
    ·rw [Tr.get_set] at hx
     split at hx
     ·cases hx
     ·exact ⟨by omega, hx⟩
theorem bkv_in {lo f : Nat} {e : TypeId} {H : Hp} {v : Value} {n : Nat} {cs : List Value} (h : Acc lo f e H v n cs) : ∀ x ∈ (bkv v).toList, f ≤ x ∧ x < H.next := by
 intro x hx
 rcases h with ⟨_, _, rfl⟩ | ⟨b, rfl, _, h2, _, h3, _⟩
 ·simp [bkv] at hx
 ·simp [bkv] at hx; subst hx; exact ⟨h2, h3⟩
theorem KeepB.mpa {α : Type} [DecidableEq α] {enc : α → Value} {f : Nat} {H H1 : Hp} (k : KeepB f H H1) {b : Nat} {L : ML α} {c : Nat} (h : Mpa enc H b L c) (hb : b < f) : Mpa enc H1 b L c := ⟨Nat.lt_of_lt_of_le h.1 k.le, by rw [k.same b hb]; exact h.2⟩
def grl (ds : List Dl) : List Int := ((List.range 1024).map fun n : Nat => (n : Int)).filter fun g => ds.any fun d => d.r == g
theorem grl_sorted {ds : List Dl} : (grl ds).Pairwise (· < ·) := by
 unfold grl
 refine List.Pairwise.filter _ ?_
 rw [List.pairwise_map]
 exact List.Pairwise.imp (fun h => by omega) List.pairwise_lt_range
theorem grl_mem {ds : List Dl} (hd : ds.any badD = false) {g : Int} : g ∈ grl ds ↔ ∃ j, j < ds.length ∧ (ds.getD j Dl.z).r = g := by
 unfold grl
 rw [List.mem_filter]
 constructor
 ·rintro ⟨_, h⟩
  rw [List.any_eq_true] at h
  obtain ⟨d, hd, e⟩ := h
  obtain ⟨j, hj, ej⟩ := List.mem_iff_getElem.1 hd
  exact ⟨j, hj, by rw [List.getD_eq_getElem?_getD, List.getElem?_eq_getElem hj]; simp; rw [ej]; simpa using e⟩
 ·rintro ⟨j, hj, e⟩
  have v := badD_t (any_at (z := Dl.z) hd hj)
  rw [e] at v
  refine ⟨List.mem_map.2 ⟨g.toNat, by simp; omega, by omega⟩, ?_⟩
  rw [List.any_eq_true]
  refine ⟨ds.getD j Dl.z, ?_, by rw [e]; simp⟩
  rw [List.getD_eq_getElem?_getD, List.getElem?_eq_getElem hj]
  exact List.getElem_mem hj
theorem grl_of {us : List Pr} {adv : Int} {ds : List Dl} (hd : ds.any badD = false) {L : ML Int} {c : Nat} (h : Grs us adv ds ds.length L c) {ys : List Int} (hp : ys.Perm (L.map (·.1))) (hs : ys.Pairwise (· ≤ ·)) : ys = grl ds := by
 have hn : ys.Nodup := hp.nodup_iff.2 h.wf.keys
 have hg : (grl ds).Nodup := grl_sorted.imp (fun h => by omega)
 refine List.Perm.eq_of_pairwise (le := (· ≤ ·)) (fun a b _ _ h1 h2 => by omega) hs (grl_sorted.imp fun h => by omega) ?_
 exact nodup_perm hn hg fun x => by rw [hp.mem_iff, h.key, grl_mem hd]
theorem Grs.get {us : List Pr} {adv : Int} {ds : List Dl} {i : Nat} {L : ML Int} {c : Nat} (h : Grs us adv ds i L c) {g : Int} (hg : g ∈ L.map (·.1)) : getA g L = some (hvV us adv ds g) := by
 obtain ⟨x, hx, e⟩ := List.mem_map.1 hg
 have := mem_get h.wf x hx
 rw [h.val x hx, e] at this
 exact this
def shr (rev w all : Int) : Int := if all = 0 then 0 else rev * w / all
theorem shr_in {rev w all : Int} (h1 : 0 ≤ rev) (h2 : rev ≤ 1073741824) (h3 : 0 ≤ w) (h4 : w ≤ all) : 0 ≤ shr rev w all ∧ shr rev w all ≤ rev := by
 unfold shr
 split
 ·omega
 ·have a := Int.mul_nonneg h1 h3
  refine ⟨Int.ediv_nonneg a (by omega), ?_⟩
  refine Int.ediv_le_of_le_mul (by omega) ?_
  exact Int.mul_le_mul_of_nonneg_left h4 h1
def pmc (us : List Pr) (adv : Int) (ds : List Dl) (rev : Int) (l : List Int) : List Value := l.flatMap fun g => [iv g, iv (hwS us ds g ds.length), iv (haS us adv ds g ds.length), iv (shr rev (hwS us ds g ds.length) (tW us ds ds.length))]
def plc (us : List Pr) (adv : Int) (ds : List Dl) (rev : Int) (l : List Int) : List Value := l.flatMap fun g => [iv g, iv (hwS us ds g ds.length), iv (haS us adv ds g ds.length), iv (shr rev (hwS us ds g ds.length) (tW us ds ds.length)), iv (shr rev (hwS us ds g ds.length) (tW us ds ds.length) - haS us adv ds g ds.length)]
theorem pmc_len {us : List Pr} {adv : Int} {ds : List Dl} {rev : Int} : ∀ l : List Int, (pmc us adv ds rev l).length = l.length * 4
 | [] => rfl
 | g :: l => by have ih := pmc_len (us := us) (adv := adv) (ds := ds) (rev := rev) l; unfold pmc at ih ⊢; rw [List.flatMap_cons, List.length_append, ih, List.length_cons]; simp only [List.length_cons, List.length_nil]; omega
theorem plc_len {us : List Pr} {adv : Int} {ds : List Dl} {rev : Int} : ∀ l : List Int, (plc us adv ds rev l).length = l.length * 5
 | [] => rfl
 | g :: l => by have ih := plc_len (us := us) (adv := adv) (ds := ds) (rev := rev) l; unfold plc at ih ⊢; rw [List.flatMap_cons, List.length_append, ih, List.length_cons]; simp only [List.length_cons, List.length_nil]; omega
theorem take_app {l : List Int} {i : Nat} (h : i < l.length) : l.take (i + 1) = l.take i ++ [l.getD i 0] := by
 rw [List.take_add_one, List.getElem?_eq_getElem h, List.getD_eq_getElem?_getD, List.getElem?_eq_getElem h]; rfl
theorem cI_row {ys : List Int} {i : Nat} (h : i < ys.length) : (cI ys)[0 + i * 1]? = some (iv (ys.getD i 0)) := by
 rw [Nat.zero_add, Nat.mul_one]
 unfold cI
 rw [List.getElem?_map, List.getElem?_eq_getElem h, List.getD_eq_getElem?_getD, List.getElem?_eq_getElem h]; rfl
theorem hw_le_tW {us : List Pr} {ds : List Dl} (hu : us.any badP = false) (h0 : 0 < us.length) (hd : ds.any badD = false) (g : Int) : ∀ k, k ≤ ds.length → hwS us ds g k ≤ tW us ds k
 | 0, _ => Int.le_refl _
 | k + 1, h => by
  have ih := hw_le_tW hu h0 hd g k (by omega)
  have w := wW_in hu h0 (okD_of (any_at (z := Dl.z) hd (show k < ds.length by omega)))
  show hwS us ds g k + _ ≤ tW us ds k + _
  split <;> omega
section
variable {kn : Kn} {lo : Nat} {H : Hp}
theorem share_ok {rev x all : Int} (h1 : 0 ≤ rev) (h2 : rev ≤ 1073741824) (h3 : 0 ≤ x) (h4 : x ≤ 4494803584) (h5 : 0 ≤ all) (h6 : all ≤ 4494803584) : ∃ H', FnX Try.prog kn lo 46 [iv rev, iv x, iv all] H (iv (shr rev x all)) H' ∧ Keep H H' [] := by
 have key := fnX_low (kn := kn) (lo := lo) (H := H) (args := [iv rev, iv x, iv all]) (Q := fun w H' => w = iv (shr rev x all) ∧ Keep H H' []) Try.func46 B46 N46 Z46 L46 (by simp) ?_
 ·obtain ⟨w, H', h, rfl, q⟩ := key; exact ⟨H', h, q⟩
 have hk := Keep.refl H []
 have hb := mulb h1 h2 h3 h4
 refine wN_seq <| wN_mov (v := iv 0) rfl <| wN_end <| wN_seq <| wN_mov (v := iv all) rfl <| wN_c_eql (a := all) (b := 0) rfl rfl <| wN_end ?_
 refine And.intro (fun q1 => ?_) (fun q1 => ?_)
 ·have q1 : all = 0 := by simpa using q1
  refine wN_seq <| wN_mov (v := iv 0) rfl <| wN_end ?_
  exact And.intro trivial (Exists.intro _ (And.intro rfl ⟨by unfold shr; rw [if_pos (by omega)]; rfl, hk⟩))
 ·have q1 : ¬ (all = 0) := by simpa using q1
  first | refine wN_skip ?_ | skip
  refine wN_seq <| wN_mov (v := iv rev) rfl <| wN_mov (v := iv x) rfl <| wN_mul (a := rev) (b := x) rfl rfl ⟨by omega, by omega⟩ <| wN_mov (v := iv all) rfl <| wN_quo (a := rev * x) (b := all) rfl rfl (by omega) (by omega) ⟨by omega, by omega⟩ <| wN_mov (v := iv ((rev * x) / all)) rfl <| wN_end ?_
  exact And.intro trivial (Exists.intro _ (And.intro rfl ⟨by unfold shr; rw [if_neg (by omega)]; rfl, hk⟩))
theorem told_ok {g x y sh : Int} (h1 : 0 ≤ y) (h2 : y ≤ 4494803584) (h3 : 0 ≤ sh) (h4 : sh ≤ 1073741824) (hlo : lo ≤ H.next) : ∃ H', FnX Try.prog kn lo 40 [.agg #[iv g, iv x, iv y, iv sh]] H (.agg #[iv g, iv x, iv y, iv sh, iv (sh - y)]) H' ∧ Keep H H' [] := by
 have key := fnX_low (kn := kn) (lo := lo) (H := H) (args := [.agg #[iv g, iv x, iv y, iv sh]]) (Q := fun w H' => w = .agg #[iv g, iv x, iv y, iv sh, iv (sh - y)] ∧ Keep H H' []) Try.func40 B40 N40 Z40 L40 (by simp) ?_
 ·obtain ⟨w, H', h, rfl, q⟩ := key; exact ⟨H', h, q⟩
 have hk := Keep.refl H []
 refine wN_seq <| wN_box (v := .agg #[iv g, iv x, iv y, iv sh]) rfl ?_
 intro H1 kH1 nH1 c1
 have c1 : Cl H1 H.next [iv g, iv x, iv y, iv sh] := c1
 have mH1 := kH1.1
 have hk := hk.trans kH1
 refine wN_alc ?_
 intro H2 kH2 nH2 c2
 have c2 : Cl H2 H1.next [iv 0, iv 0, iv 0, iv 0, iv 0] := c2
 have mH2 := kH2.1
 have hk := hk.trans kH2
 have c1 := kH2.cl c1 (by simp)
 refine wN_end <| wN_seq <| wN_addo (b := H.next) (o := 0) rfl <| wN_addo (b := H.next) (o := 0) rfl <| wN_ld (b := H.next) (o := 0) (v := iv g) rfl c1.rd rfl <| wN_addo (b := H.next) (o := 0) rfl <| wN_addo (b := H.next) (o := 0) rfl <| wN_ld (b := H.next) (o := 1) (v := iv x) rfl c1.rd rfl <| wN_addo (b := H.next) (o := 0) rfl <| wN_addo (b := H.next) (o := 0) rfl <| wN_ld (b := H.next) (o := 2) (v := iv y) rfl c1.rd rfl <| wN_addo (b := H.next) (o := 0) rfl ?_
 refine wN_ld (b := H.next) (o := 3) (v := iv sh) rfl c1.rd rfl <| wN_addo (b := H.next) (o := 0) rfl <| wN_ld (b := H.next) (o := 3) (v := iv sh) rfl c1.rd rfl <| wN_addo (b := H.next) (o := 0) rfl <| wN_addo (b := H.next) (o := 0) rfl <| wN_ld (b := H.next) (o := 2) (v := iv y) rfl c1.rd rfl <| wN_sub (a := sh) (b := y) rfl rfl ⟨by omega, by omega⟩ <| wN_pur (v := .agg #[iv g, iv x, iv y, iv sh, iv (sh - y)]) rfl (by kernel_rfl) <| wN_sta (b := H1.next) (o := 0) rfl rfl c2 (by omega) rfl rfl (by simp) ?_
 intro H3 kH3 nH3 sH3
 have mH3 := kH3.1
 have hk := hk.new kH3 (fun b hb => by simp at hb ⊢; omega)
 have c1 := kH3.cl c1 (by first | (simp; done) | (simp; omega))
 have c2 : Cl H3 H1.next [iv g, iv x, iv y, iv sh, iv (sh - y)] := sH3
 refine wN_end ?_
 exact And.intro trivial (Exists.intro _ (And.intro (res_cell rfl a50 i50s rfl c2) ⟨rfl, hk⟩))
theorem Acc.low {lo f f' : Nat} {e : TypeId} {H : Hp} {v : Value} {n : Nat} {cs : List Value} (h : Acc lo f e H v n cs) (hf : f' ≤ f) : Acc lo f' e H v n cs :=
 h.imp id fun ⟨b, a1, a2, a3, a4, a5, a6⟩ => ⟨b, a1, a2, by omega, a4, a5, a6⟩
set_option maxRecDepth 100000 in
set_option maxHeartbeats 1000000 in
theorem payments_ok (s : Snd Try.prog kn) {us : List Pr} {adv : Int} {ds : List Dl} (hu : us.any badP = false) (h0 : 0 < us.length) (ha1 : 0 ≤ adv) (ha2 : adv ≤ 1000) (hm2 : ds.length ≤ 128) (hdv : ds.any badD = false) (hlo : lo ≤ H.next) {gb gc : Nat} {L : ML Int} (hmp : Mpa iv H gb L gc) (hG : Grs us adv ds ds.length L gc) {rev : Int} (hr1 : 0 ≤ rev) (hr2 : rev ≤ 1073741824) :
  FnM Try.prog lo 39 [.map (some gb), iv rev] H fun v H' => Keep H H' [] ∧ Acc lo H.next 75 H' v (grl ds).length (pmc us adv ds rev (grl ds)) := by
 refine fnM_low s Try.func39 B39 N39 Z39 L39 (by simp) ?_
 have hk := Keep.refl H []
 have lgb := hmp.1
 refine wM_seq <| wM_mov (v := .slice none 0 0) rfl <| wM_end <| wM_seq <| wM_mov (v := .map (some gb)) rfl <| wM_call (t := .fn (.func 44) #[]) rfl (callM_args s.hN (total_ok (H := H) s hu h0 ha1 ha2 hm2 hdv (by omega) hmp hG)) ?_
 rintro _ H1 ⟨rfl, kH1⟩
 have mH1 := kH1.1
 have hk := hk.trans kH1
 have hmp := kH1.mpa hmp (by simp)
 refine wM_mov (v := iv (tW us ds ds.length)) rfl <| wM_end <| wM_seq <| wM_mov (v := .slice none 0 0) rfl <| wM_end <| wM_seq <| wM_mov (v := .map (some gb)) rfl ?_
 obtain ⟨H2, fH2, kH2, kb⟩ := keysF_ok (kn := kn) (lo := lo) (H := H1) gb
 refine wM_callf s (vs := [.map (some gb)]) rfl (callX_args fH2) ?_
 have mH2 := kH2.1
 have hk := hk.trans kH2
 have hmp := kH2.mpa hmp (by simp)
 have lkb := kb.1
 refine wM_call (t := .fn (.func 54) #[]) rfl (callM_args s.hN (sorted_ok (H := H2) s (by omega) kb hmp hG.wf hG.flat (by have := hG.len; omega))) ?_
 rintro _ H3 ⟨kH3, ya, ys, ycap, rfl, hy, hsrt, hperm⟩
 have mH3 := kH3.1
 have hk := hk.trans kH3
 have hmp := kH3.mpa hmp (by simp)
 obtain rfl := grl_of hdv hG hperm hsrt
 have fy := hy.old
 have hgl := hperm.length_eq
 rw [List.length_map] at hgl
 have hGl := hG.len
 have lgb := hmp.1
 obtain ⟨N, eN⟩ : ∃ N, N = (grl ds).length := ⟨_, rfl⟩
 rw [← eN] at hy hgl ⊢
 refine wM_len (m := N) rfl <| wM_mov (v := iv 0) rfl <| wM_end ?_
 refine loopM_low s (fn := Try.f39) E39_1 N39 L39x1 (fun x : Nat × Value => [(0, .map (some gb)), (1, iv rev), (5, iv (tW us ds ds.length)), (6, x.2), (14, .slice ya N ycap), (15, iv (N : Int)), (16, iv (x.1 : Int))])
  (fun k x H' => x.1 + k = N ∧ Keep H H' [] ∧ H3.next ≤ H'.next ∧ Mpa iv H' gb L gc ∧ Sl H' ya N ycap (cI (grl ds)) ∧ Acc lo H3.next 75 H' x.2 x.1 (pmc us adv ds rev ((grl ds).take x.1))) N (0, .slice none 0 0) ⟨by simp, hk, Nat.le_refl _, hmp, hy, .inl ⟨rfl, rfl, rfl⟩⟩ ⟨rfl, rfl, rfl, rfl, rfl, rfl, rfl, trivial⟩ ?_
 rintro k ⟨i, wv⟩ L1 ⟨hik, hk, hnx, hmp, hy, hacc⟩
 have mk := hk.1
 have kacc := Keep.refl L1 []
 simp only [] at hik hacc
 refine wM_seq <| wM_c_lss (a := (i : Int)) (b := (N : Int)) rfl rfl <| wM_end ?_
 refine And.intro (fun q1 => ?_) (fun q1 => ?_)
 ·have q1 : (i : Int) < (N : Int) := of_decide_eq_true q1
  have hi : i < N := by omega
  rcases id hy with ⟨_, h0s, _⟩ | ⟨sb, es, rs, _⟩
  ·omega
  have ls := rs.1
  have lsb2 := fy sb es
  have hmem : ((grl ds).getD i 0) ∈ L.map (·.1) := by rw [← hperm.mem_iff, List.getD_eq_getElem?_getD, List.getElem?_eq_getElem (by omega)]; exact List.getElem_mem _
  have hget := hG.get hmem
  have hwb := hwS_in (g := ((grl ds).getD i 0)) hu h0 hdv ds.length (Nat.le_refl _)
  have hab := haS_in (g := ((grl ds).getD i 0)) hu h0 ha1 ha2 hdv ds.length (Nat.le_refl _)
  have htb := tW_in hu h0 hdv ds.length (Nat.le_refl _)
  first | refine wM_skip ?_ | skip
  refine wM_seq <| wM_idx (b := sb) (o := 0) (k := i) (j := (i : Int)) (by rw [← es]; rfl) rfl rfl hi <| wM_ld (b := sb) (o := 0 + i * 1) (v := iv ((grl ds).getD i 0)) rfl rs (cI_row (by omega)) <| wM_mov (v := iv ((grl ds).getD i 0)) rfl <| wM_end <| wM_seq <| wM_mov (v := .map (some gb)) rfl <| wM_mov (v := iv ((grl ds).getD i 0)) rfl <| wM_memh (v := hvV us adv ds ((grl ds).getD i 0)) (H' := L1) (k := .read gb) (defd2 rfl rfl) rfl ((heap_look key3 und67 zero70 rfl rfl hmp false (by rw [hget]; rfl)).trans (by rw [hget]; rfl)) (fun q e => by cases e; exact hmp.1) <| wM_alc ?_
  intro H4 kH4 nH4 c4
  have c4 : Cl H4 L1.next [iv 0, iv 0, iv 0] := c4
  have mH4 := kH4.1
  have hk := hk.trans kH4
  have kacc := kacc.trans kH4
  have hmp := kH4.mpa hmp (by simp)
  have hy := kH4.sl0 hy
  have rs := kH4.rd rs (by simp)
  refine wM_sta (b := L1.next) (o := 0) rfl rfl c4 (by omega) rfl rfl (by simp) ?_
  intro H5 kH5 nH5 sH5
  have mH5 := kH5.1
  have hk := hk.new kH5 (fun b hb => by simp at hb ⊢; omega)
  have kacc := kacc.new kH5 (fun b hb => by simp at hb ⊢; omega)
  have hmp := kH5.mpa hmp (by simp; omega)
  have hy := kH5.sl hy (fun b e => by have := fy b e; first | (simp; done) | (simp; omega))
  have rs := kH5.rd rs (by first | (simp; done) | (simp; omega))
  have c4 : Cl H5 L1.next [iv ((grl ds).getD i 0), iv (hwS us ds ((grl ds).getD i 0) ds.length), iv (haS us adv ds ((grl ds).getD i 0) ds.length)] := sH5
  refine wM_end ?_
  first | refine wM_ddreg ?_ | (refine wOps_nil ?_; refine wM_ddreg ?_)
  refine wD_mov (v := wv) rfl <| wD_lda (b := L1.next) (o := 0) rfl c4.rd (show row 3 _ _ = some [iv ((grl ds).getD i 0), iv (hwS us ds ((grl ds).getD i 0) ds.length), iv (haS us adv ds ((grl ds).getD i 0) ds.length)] from rfl) <| wD_mov (v := iv rev) rfl <| wD_addo (b := L1.next) (o := 0) rfl <| wD_ld (b := L1.next) (o := 1) (v := iv (hwS us ds ((grl ds).getD i 0) ds.length)) rfl c4.rd rfl <| wD_mov (v := iv (tW us ds ds.length)) rfl ?_
  obtain ⟨H6, fH6, kH6⟩ := share_ok (kn := kn) (lo := H5.next) (H := H5) (rev := rev) (x := hwS us ds ((grl ds).getD i 0) ds.length) (all := tW us ds ds.length) hr1 hr2 (by omega) (by omega) (by omega) (by omega)
  refine wD_callh rfl rfl (callX_args fH6) ?_
  have mH6 := kH6.1
  have hk := hk.trans kH6
  have kacc := kacc.trans kH6
  have hmp := kH6.mpa hmp (by simp)
  have hy := kH6.sl0 hy
  have rs := kH6.rd rs (by simp)
  have c4 := kH6.cl c4 (by simp)
  refine wD_pur (v := .agg #[iv ((grl ds).getD i 0), iv (hwS us ds ((grl ds).getD i 0) ds.length), iv (haS us adv ds ((grl ds).getD i 0) ds.length), iv (shr rev (hwS us ds ((grl ds).getD i 0) ds.length) (tW us ds ds.length))]) rfl (by kernel_rfl) ?_
  obtain ⟨H7, hH7⟩ : ∃ H7, H6.new (.cells [iv ((grl ds).getD i 0), iv (hwS us ds ((grl ds).getD i 0) ds.length), iv (haS us adv ds ((grl ds).getD i 0) ds.length), iv (shr rev (hwS us ds ((grl ds).getD i 0) ds.length) (tW us ds ds.length))] 75 false) = H7 := ⟨_, rfl⟩
  refine wD_memh (H' := H7) (k := .heavy) rfl (by kernel_rfl) ((heap_build1 (v := .agg #[iv ((grl ds).getD i 0), iv (hwS us ds ((grl ds).getD i 0) ds.length), iv (haS us adv ds ((grl ds).getD i 0) ds.length), iv (shr rev (hwS us ds ((grl ds).getD i 0) ds.length) (tW us ds ds.length))]) se72 zo75 rfl rfl rfl (by decide)).trans (by rw [← hH7]; rfl)) (fun b e => by cases e) ?_
  obtain ⟨kH7, nH7, c7⟩ := new_facts hH7; clear hH7
  have c7 : Cl H7 H6.next [iv ((grl ds).getD i 0), iv (hwS us ds ((grl ds).getD i 0) ds.length), iv (haS us adv ds ((grl ds).getD i 0) ds.length), iv (shr rev (hwS us ds ((grl ds).getD i 0) ds.length) (tW us ds ds.length))] := c7
  have mH7 := kH7.1
  have hk := hk.trans kH7
  have kacc := kacc.trans kH7
  have hmp := kH7.mpa hmp (by simp)
  have hy := kH7.sl0 hy
  have rs := kH7.rd rs (by simp)
  have c4 := kH7.cl c4 (by simp)
  obtain ⟨H8, kdH8, eH8, dH8, aH8, kbH8⟩ := heap_append_below (P := Try.prog) (lo := lo) (k := i) (t1 := 72) se72 un72 (c7.sl (Nat.le_refl 1)) rfl (by decide) rfl (by rw [pmc_len, List.length_take]; omega) (by omega) (hacc.keep kacc) (by omega) (by omega)
  refine wD_memh (k := kdH8) rfl (by cases wv <;> kernel_rfl) (eH8 _ _ _ _ _ _ _ rfl rfl) (reg_ok dH8 _) ?_
  have hk := kbH8.keep hk (by omega)
  have hmp := kbH8.mpa hmp (by omega)
  have hy := kbH8.sl hy (fun b e => by have := fy b e; omega)
  have mH8 := kbH8.1
  refine wD_mov (v := .slice (some ⟨H7.next, 0, none⟩) (i + 1) (i + 1)) rfl ?_
  refine wD_end (by rcases dH8 with rfl | ⟨bH8, rfl, hbH8⟩ <;> repeat' first | exact True.intro | exact (fun h => h) | refine And.intro ?_ ?_ | (intro h; have h : (_ : Nat) = _ := h; omega)) ?_
  first | refine wM_reg ?_ | refine wM_blk ?_ | refine wM_bseq ?_ | (refine wOps_nil ?_; refine wM_reg ?_)
  refine wM_add (a := (i : Int)) (b := 1) rfl rfl ⟨by omega, by omega⟩ <| wM_mov (v := iv ((i : Int) + 1)) rfl <| wM_end ?_
  have hacc2 : Acc lo H3.next 75 H8 (.slice (some ⟨H7.next, 0, none⟩) (i + 1) (i + 1)) (i + 1) (pmc us adv ds rev ((grl ds).take (i + 1))) := by rw [take_app (by omega)]; unfold pmc; rw [List.flatMap_append]; exact aH8
  exact ⟨k - 1, (i + 1, .slice (some ⟨H7.next, 0, none⟩) (i + 1) (i + 1)), by omega, ⟨by simp only []; omega, hk, by omega, hmp, hy, hacc2⟩, rfl, rfl, rfl, rfl, rfl, rfl, rfl, trivial⟩
 ·have q1 : ¬ ((i : Int) < (N : Int)) := of_decide_eq_false q1
  first | (refine wM_exit ?_; show wCM _ _ _ _ _ _ _ _ _) | skip
  refine wM_seq <| wM_mov (v := wv) rfl <| wM_mov (v := wv) rfl <| wM_end ?_
  obtain rfl : i = N := by omega
  rw [List.take_of_length_le (by omega)] at hacc
  exact And.intro trivial (Exists.intro _ (And.intro rfl ⟨hk, hacc.low (by omega)⟩))
end
end
end Go.Ax

/-
 Pool: Settle (18) (written by program).
-/
namespace Go.Ax
open Go Go.RowKit Go.Proofs

noncomputable section
def stL (us : List Pr) (adv : Int) (ds : List Dl) (rev : Int) : List Int := if (vT us adv && vD ds && inB rev 0 1073741824) = true then grl ds else []
def stK (us : List Pr) (adv : Int) (ds : List Dl) (rev : Int) : Int := if (vT us adv && vD ds && inB rev 0 1073741824) = true then rev - sumK (fun g => shr rev (hwS us ds g ds.length) (tW us ds ds.length)) (grl ds) else 0
def stE (us : List Pr) (adv : Int) (ds : List Dl) (rev : Int) : Int := if (vT us adv && vD ds) = true then (if inB rev 0 1073741824 = true then 0 else 2) else 1
theorem plc_row {us : List Pr} {adv : Int} {ds : List Dl} {rev : Int} {l : List Int} {i : Nat} (h : i < l.length) : row 5 (plc us adv ds rev l) (0 + i * 5) = some [iv (l.getD i 0), iv (hwS us ds (l.getD i 0) ds.length), iv (haS us adv ds (l.getD i 0) ds.length), iv (shr rev (hwS us ds (l.getD i 0) ds.length) (tW us ds ds.length)), iv (shr rev (hwS us ds (l.getD i 0) ds.length) (tW us ds ds.length) - haS us adv ds (l.getD i 0) ds.length)] :=
 row_flat (f := fun g => [iv g, iv (hwS us ds g ds.length), iv (haS us adv ds g ds.length), iv (shr rev (hwS us ds g ds.length) (tW us ds ds.length)), iv (shr rev (hwS us ds g ds.length) (tW us ds ds.length) - haS us adv ds g ds.length)]) (fun _ _ => rfl) (getD_at h)
theorem pmc_row {us : List Pr} {adv : Int} {ds : List Dl} {rev : Int} {l : List Int} {i : Nat} (h : i < l.length) : row 4 (pmc us adv ds rev l) (0 + i * 4) = some [iv (l.getD i 0), iv (hwS us ds (l.getD i 0) ds.length), iv (haS us adv ds (l.getD i 0) ds.length), iv (shr rev (hwS us ds (l.getD i 0) ds.length) (tW us ds ds.length))] :=
 row_flat (f := fun g => [iv g, iv (hwS us ds g ds.length), iv (haS us adv ds g ds.length), iv (shr rev (hwS us ds g ds.length) (tW us ds ds.length))]) (fun _ _ => rfl) (getD_at h)
theorem grl_len {us : List Pr} {adv : Int} {ds : List Dl} (hd : ds.any badD = false) {L : ML Int} {c : Nat} (h : Grs us adv ds ds.length L c) : (grl ds).length ≤ ds.length := by
 have hn : (grl ds).Nodup := grl_sorted.imp (fun h => by omega)
 have := nodup_len (L := L.map (·.1)) hn fun x hx => by rw [h.key]; exact (grl_mem hd).1 hx
 rw [List.length_map] at this
 have := h.len
 omega
section
variable {kn : Kn} {lo : Nat} {H : Hp}
set_option maxRecDepth 100000 in
set_option maxHeartbeats 1000000 in
theorem Settle_ok (s : Snd Try.prog kn) {us : List Pr} {sa : Option Addr} {n cap : Nat} {adv : Int} (hs : Sl H sa n cap (prc us)) (hl : us.length = n) (hn : n ≤ 1000000) {ds : List Dl} {la : Option Addr} {m capl : Nat} (hd : Sl H la m capl (dlc ds)) (hm : ds.length = m) (hmn : m ≤ 1000000) (hlo : lo ≤ H.next) {rev : Int} :
  FnM Try.prog lo 18 [.agg #[.slice sa n cap, iv adv], .slice la m capl, iv rev] H fun v H' => ∃ pv, v = .tuple #[pv, iv (stK us adv ds rev), iv (stE us adv ds rev)] ∧ Acc lo H.next 50 H' pv (stL us adv ds rev).length (plc us adv ds rev (stL us adv ds rev)) ∧ Keep H H' [] := by
 refine fnM_low s Try.func18 B18 N18 Z18 L18 (by simp) ?_
 have hk := Keep.refl H []
 have fs := hs.old
 have fd := hd.old
 refine wM_seq <| wM_box (v := .agg #[.slice sa n cap, iv adv]) rfl ?_
 intro H1 kH1 nH1 c1
 have c1 : Cl H1 H.next [.slice sa n cap, iv adv] := c1
 have mH1 := kH1.1
 have hk := hk.trans kH1
 have hs := kH1.sl0 hs
 have hd := kH1.sl0 hd
 refine wM_mov (v := .slice none 0 0) rfl <| wM_mov (v := iv 0) rfl <| wM_mov (v := iv 0) rfl <| wM_end <| wM_seq <| wM_lda (b := H.next) (o := 0) rfl c1.rd (show row 2 _ _ = some [.slice sa n cap, iv adv] from rfl) <| wM_callB s rfl (vT_ok hs hl hn (by omega)) ?_
 intro tH2 H2 hH2 kH2
 have mH2 := kH2.1
 have hk := hk.trans kH2
 have hs := kH2.sl0 hs
 have hd := kH2.sl0 hd
 have c1 := kH2.cl c1 (by simp)
 cases tH2
 ·have vhH2 : vT us adv = false := hH2
  have qvT := vhH2
  refine wM_pur (v := .bool true) rfl rfl <| wM_mov (v := .bool true) rfl <| wM_gs rfl <| wM_gs rfl <| wM_gs rfl <| wM_pur (v := .bool true) rfl rfl <| wM_end <| condT <| wM_seq <| wM_mov (v := .slice none 0 0) rfl <| wM_mov (v := iv 0) rfl <| wM_mov (v := iv 1) rfl ?_
  refine wM_end ?_
  exact And.intro trivial (Exists.intro _ (And.intro rfl ⟨.slice none 0 0, by unfold stK stE; rw [if_neg (by first | (rw [qvT]; simp; done) | (rw [qvD]; simp; done) | (rw [qrv]; simp; done))]; rw [if_neg (by first | (rw [qvT]; simp; done) | (rw [qvD]; simp; done) | (rw [qrv]; simp; done))]; rfl, by unfold stL; rw [if_neg (by first | (rw [qvT]; simp; done) | (rw [qvD]; simp; done) | (rw [qrv]; simp; done))]; exact .inl ⟨rfl, rfl, rfl⟩, hk⟩))
 ·have vhH2 : vT us adv = true := hH2
  obtain ⟨h0x, h8, hu, ha1, ha2⟩ := vT_t vhH2
  have h0 : 0 < n := by omega
  have qvT := vhH2
  refine wM_pur (v := .bool false) rfl rfl <| wM_mov (v := .bool false) rfl ?_
  refine wM_g rfl (wM_mov (v := .slice la m capl) rfl ?_)
  refine wM_g rfl (wM_callB s rfl (vD_ok hd hm hmn (by omega)) ?_)
  intro tH3 H3 hH3 kH3
  have mH3 := kH3.1
  have hk := hk.trans kH3
  have hs := kH3.sl0 hs
  have hd := kH3.sl0 hd
  have c1 := kH3.cl c1 (by simp)
  cases tH3
  ·have vhH3 : vD ds = false := hH3
   have qvD := vhH3
   refine wM_g rfl (wM_pur (v := .bool true) rfl rfl ?_)
   refine wM_pur (v := .bool true) rfl rfl <| wM_end <| condT <| wM_seq <| wM_mov (v := .slice none 0 0) rfl <| wM_mov (v := iv 0) rfl <| wM_mov (v := iv 1) rfl <| wM_end ?_
   exact And.intro trivial (Exists.intro _ (And.intro rfl ⟨.slice none 0 0, by unfold stK stE; rw [if_neg (by first | (rw [qvT]; simp; done) | (rw [qvD]; simp; done) | (rw [qrv]; simp; done))]; rw [if_neg (by first | (rw [qvT]; simp; done) | (rw [qvD]; simp; done) | (rw [qrv]; simp; done))]; rfl, by unfold stL; rw [if_neg (by first | (rw [qvT]; simp; done) | (rw [qvD]; simp; done) | (rw [qrv]; simp; done))]; exact .inl ⟨rfl, rfl, rfl⟩, hk⟩))
  ·have vhH3 : vD ds = true := hH3
   obtain ⟨hm8, hdv⟩ := vD_t vhH3
   have qvD := vhH3
   refine wM_g rfl (wM_pur (v := .bool false) rfl rfl ?_)
   refine wM_pur (v := .bool false) rfl rfl <| wM_end <| condF ?_
   first | refine wM_skip ?_ | skip
   refine wM_seq <| wM_mov (v := iv rev) rfl <| wM_callB s rfl (in32_ok) ?_
   intro tH4 H4 hH4 kH4
   have mH4 := kH4.1
   have hk := hk.trans kH4
   have hs := kH4.sl0 hs
   have hd := kH4.sl0 hd
   have c1 := kH4.cl c1 (by simp)
   cases tH4
   ·have qrv : inB rev 0 1073741824 = false := hH4
    have hrv := inB_f qrv
    refine wM_pur (v := .bool true) rfl rfl <| wM_end <| condT <| wM_seq <| wM_mov (v := .slice none 0 0) rfl <| wM_mov (v := iv 0) rfl <| wM_mov (v := iv 2) rfl <| wM_end ?_
    exact And.intro trivial (Exists.intro _ (And.intro rfl ⟨.slice none 0 0, by unfold stK stE; rw [if_neg (by first | (rw [qvT]; simp; done) | (rw [qvD]; simp; done) | (rw [qrv]; simp; done))]; rw [if_pos (by rw [qvT, qvD]; rfl), if_neg (by rw [qrv]; simp)]; rfl, by unfold stL; rw [if_neg (by first | (rw [qvT]; simp; done) | (rw [qvD]; simp; done) | (rw [qrv]; simp; done))]; exact .inl ⟨rfl, rfl, rfl⟩, hk⟩))
   ·have qrv : inB rev 0 1073741824 = true := hH4
    have hrv := inB_t qrv
    refine wM_pur (v := .bool false) rfl rfl <| wM_end <| condF ?_
    first | refine wM_skip ?_ | skip
    refine wM_seq <| wM_mov (v := iv rev) rfl <| wM_mov (v := iv rev) rfl <| wM_end <| wM_seq <| wM_lda (b := H.next) (o := 0) rfl c1.rd (show row 2 _ _ = some [.slice sa n cap, iv adv] from rfl) <| wM_mov (v := .slice la m capl) rfl ?_
    obtain ⟨gb, L, gc, H5, fH5, hgb, hmp, hG, kH5⟩ := gather_ok (kn := kn) (lo := lo) (H := H4) (adv := adv) hs hl hn hu h0 ha1 ha2 hd hm (by omega) hdv (by omega)
    refine wM_callf s (vs := [.agg #[.slice sa n cap, iv adv], .slice la m capl]) rfl (callX_args fH5) ?_
    have mH5 := kH5.1
    have hk := hk.trans kH5
    have hs := kH5.sl0 hs
    have hd := kH5.sl0 hd
    have c1 := kH5.cl c1 (by simp)
    rw [← hm] at hG
    have lgb := hmp.1
    refine wM_mov (v := iv rev) rfl <| wM_call (t := .fn (.func 39) #[]) rfl (callM_args s.hN (payments_ok (H := H5) s hu (by omega) ha1 ha2 (by omega) hdv (by omega) hmp hG hrv.1 hrv.2)) ?_
    rintro pv H6 ⟨kH6, hpa⟩
    have mH6 := kH6.1
    have hk := hk.trans kH6
    have hs := kH6.sl0 hs
    have hd := kH6.sl0 hd
    have c1 := kH6.cl c1 (by simp)
    have hmp := kH6.mpa hmp (by simp)
    obtain ⟨pa, pcap, rfl, hpy, _⟩ := hpa.sl
    have fy := hpy.old
    have hgl := grl_len hdv hG
    obtain ⟨N, eN⟩ : ∃ N, N = (grl ds).length := ⟨_, rfl⟩
    rw [← eN] at hpy hgl ⊢
    refine wM_len (m := N) rfl <| wM_mov (v := iv 0) rfl <| wM_end ?_
    refine loopM_low s (fn := Try.f18) E18_1 N18 L18x1 (fun x : Nat × Value => [(6, x.2), (7, iv (rev - sumK (fun g => shr rev (hwS us ds g ds.length) (tW us ds ds.length)) ((grl ds).take x.1))), (27, .slice pa N pcap), (28, iv (N : Int)), (29, iv (x.1 : Int))])
     (fun k x H' => x.1 + k = N ∧ Keep H H' [] ∧ H6.next ≤ H'.next ∧ Sl H' pa N pcap (pmc us adv ds rev (grl ds)) ∧ Acc lo H6.next 50 H' x.2 x.1 (plc us adv ds rev ((grl ds).take x.1))) N (0, .slice none 0 0) ⟨by simp, hk, Nat.le_refl _, hpy, .inl ⟨rfl, rfl, rfl⟩⟩ ⟨rfl, (by show some (iv _) = some (iv _); simp [sumK]), rfl, rfl, rfl, trivial⟩ ?_
    rintro k ⟨i, wv⟩ L1 ⟨hik, hk, hnx, hpy, hacc⟩
    simp only [] at hik hacc
    have mk := hk.1
    have kacc := Keep.refl L1 []
    have hbk := bkv_in hacc
    refine wM_seq <| wM_c_lss (a := (i : Int)) (b := (N : Int)) rfl rfl <| wM_end ?_
    refine And.intro (fun q1 => ?_) (fun q1 => ?_)
    ·have q1 : (i : Int) < (N : Int) := of_decide_eq_true q1
     have hi : i < N := by omega
     rcases id hpy with ⟨_, h0s, _⟩ | ⟨sb, es, rs, _⟩
     ·omega
     have ls := rs.1
     have lsb2 := fy sb es
     have hwb := hwS_in (g := ((grl ds).getD i 0)) hu (by omega) hdv ds.length (Nat.le_refl _)
     have hab := haS_in (g := ((grl ds).getD i 0)) hu (by omega) ha1 ha2 hdv ds.length (Nat.le_refl _)
     have hsb := shr_in hrv.1 hrv.2 hwb.1 (hw_le_tW hu (by omega) hdv ((grl ds).getD i 0) ds.length (Nat.le_refl _))
     have hsum := sumK_in (f := (fun g => shr rev (hwS us ds g ds.length) (tW us ds ds.length))) (M := 1073741824) (l := (grl ds).take i) fun g _ => by have a := hwS_in (g := g) hu (by omega) hdv ds.length (Nat.le_refl _); have b := shr_in hrv.1 hrv.2 a.1 (hw_le_tW hu (by omega) hdv g ds.length (Nat.le_refl _)); exact ⟨b.1, by show shr rev (hwS us ds g ds.length) (tW us ds ds.length) ≤ 1073741824; omega⟩
     rw [List.length_take] at hsum
     first | refine wM_skip ?_ | skip
     refine wM_seq <| wM_idx (b := sb) (o := 0) (k := i) (j := (i : Int)) (by rw [← es]; rfl) rfl rfl hi <| wM_lda (b := sb) (o := 0 + i * 4) rfl rs (pmc_row (by omega)) <| wM_alc ?_
     intro H7 kH7 nH7 c7
     have c7 : Cl H7 L1.next [iv 0, iv 0, iv 0, iv 0] := c7
     have mH7 := kH7.1
     have hk := hk.trans kH7
     have kacc := kacc.trans kH7
     have hpy := kH7.sl0 hpy
     have rs := kH7.rd rs (by simp)
     refine wM_sta (b := L1.next) (o := 0) rfl rfl c7 (by omega) rfl rfl (by simp) ?_
     intro H8 kH8 nH8 sH8
     have mH8 := kH8.1
     have hk := hk.new kH8 (fun b hb => by simp at hb ⊢; omega)
     have kacc := kacc.new kH8 (fun b hb => by simp at hb ⊢; omega)
     have hpy := kH8.sl hpy (fun b e => by have := fy b e; first | (simp; done) | (simp; omega))
     have rs := kH8.rd rs (by first | (simp; done) | (simp; omega))
     have c7 : Cl H8 L1.next [iv ((grl ds).getD i 0), iv (hwS us ds ((grl ds).getD i 0) ds.length), iv (haS us adv ds ((grl ds).getD i 0) ds.length), iv (shr rev (hwS us ds ((grl ds).getD i 0) ds.length) (tW us ds ds.length))] := sH8
     refine wM_end <| wM_seq <| wM_mov (v := wv) rfl <| wM_lda (b := L1.next) (o := 0) rfl c7.rd (show row 4 _ _ = some [iv ((grl ds).getD i 0), iv (hwS us ds ((grl ds).getD i 0) ds.length), iv (haS us adv ds ((grl ds).getD i 0) ds.length), iv (shr rev (hwS us ds ((grl ds).getD i 0) ds.length) (tW us ds ds.length))] from rfl) ?_
     obtain ⟨H9, fH9, kH9⟩ := told_ok (kn := kn) (lo := lo) (H := H8) (g := ((grl ds).getD i 0)) (x := (hwS us ds ((grl ds).getD i 0) ds.length)) (y := (haS us adv ds ((grl ds).getD i 0) ds.length)) (sh := (shr rev (hwS us ds ((grl ds).getD i 0) ds.length) (tW us ds ds.length))) (by omega) (by omega) (by omega) (by omega) (by omega)
     refine wM_callf s rfl (callX_args fH9) ?_
     have mH9 := kH9.1
     have hk := hk.trans kH9
     have kacc := kacc.trans kH9
     have hpy := kH9.sl0 hpy
     have rs := kH9.rd rs (by simp)
     have c7 := kH9.cl c7 (by simp)
     obtain ⟨H10, hH10⟩ : ∃ H10, H9.new (.cells [iv ((grl ds).getD i 0), iv (hwS us ds ((grl ds).getD i 0) ds.length), iv (haS us adv ds ((grl ds).getD i 0) ds.length), iv (shr rev (hwS us ds ((grl ds).getD i 0) ds.length) (tW us ds ds.length)), iv ((shr rev (hwS us ds ((grl ds).getD i 0) ds.length) (tW us ds ds.length)) - (haS us adv ds ((grl ds).getD i 0) ds.length))] 50 false) = H10 := ⟨_, rfl⟩
     refine wM_memh (H' := H10) (k := .heavy) rfl (by kernel_rfl) ((heap_build1 (v := .agg #[iv ((grl ds).getD i 0), iv (hwS us ds ((grl ds).getD i 0) ds.length), iv (haS us adv ds ((grl ds).getD i 0) ds.length), iv (shr rev (hwS us ds ((grl ds).getD i 0) ds.length) (tW us ds ds.length)), iv ((shr rev (hwS us ds ((grl ds).getD i 0) ds.length) (tW us ds ds.length)) - (haS us adv ds ((grl ds).getD i 0) ds.length))]) se37 zo50 rfl rfl rfl (by decide)).trans (by rw [← hH10]; rfl)) (fun b e => by cases e) ?_
     obtain ⟨kH10, nH10, c10⟩ := new_facts hH10; clear hH10
     have c10 : Cl H10 H9.next [iv ((grl ds).getD i 0), iv (hwS us ds ((grl ds).getD i 0) ds.length), iv (haS us adv ds ((grl ds).getD i 0) ds.length), iv (shr rev (hwS us ds ((grl ds).getD i 0) ds.length) (tW us ds ds.length)), iv ((shr rev (hwS us ds ((grl ds).getD i 0) ds.length) (tW us ds ds.length)) - (haS us adv ds ((grl ds).getD i 0) ds.length))] := c10
     have mH10 := kH10.1
     have hk := hk.trans kH10
     have kacc := kacc.trans kH10
     have hpy := kH10.sl0 hpy
     have rs := kH10.rd rs (by simp)
     have c7 := kH10.cl c7 (by simp)
     obtain ⟨H11, kdH11, eH11, dH11, aH11, kbH11⟩ := heap_append_out (P := Try.prog) (lo := lo) (k := i) (t1 := 37) se37 un37 (c10.sl (Nat.le_refl 1)) rfl (by decide) rfl (by rw [plc_len, List.length_take]; omega) (by omega) (hacc.keep kacc) (by omega) (by omega)
     refine wM_memh (k := kdH11) rfl (by cases wv <;> kernel_rfl) (eH11 _ _ _ _ _ _ _ rfl rfl) (reg_ok dH11 _) ?_
     have hk := hk.new kbH11 (fun b hb => .inr (by have := hbk _ hb; omega))
     have hpy := kbH11.sl hpy (fun b e hx => by have := fy b e; have := hbk _ hx; omega)
     have c7 := kbH11.cl c7 (fun hx => by have := hbk _ hx; omega)
     have mH11 := kbH11.1
     refine wM_mov (v := .slice (some ⟨H10.next, 0, none⟩) (i + 1) (i + 1)) rfl <| wM_end ?_
     first | refine wM_reg ?_ | refine wM_blk ?_ | refine wM_bseq ?_ | (refine wOps_nil ?_; refine wM_reg ?_)
     refine wM_mov (v := iv (rev - sumK (fun g => shr rev (hwS us ds g ds.length) (tW us ds ds.length)) ((grl ds).take i))) rfl <| wM_addo (b := L1.next) (o := 0) rfl <| wM_ld (b := L1.next) (o := 3) (v := iv (shr rev (hwS us ds ((grl ds).getD i 0) ds.length) (tW us ds ds.length))) rfl c7.rd rfl <| wM_sub (a := (rev - sumK (fun g => shr rev (hwS us ds g ds.length) (tW us ds ds.length)) ((grl ds).take i))) (b := (shr rev (hwS us ds ((grl ds).getD i 0) ds.length) (tW us ds ds.length))) rfl rfl ⟨by omega, by omega⟩ <| wM_mov (v := iv ((rev - sumK (fun g => shr rev (hwS us ds g ds.length) (tW us ds ds.length)) ((grl ds).take i)) - (shr rev (hwS us ds ((grl ds).getD i 0) ds.length) (tW us ds ds.length)))) rfl <| wM_end ?_
     first | refine wM_reg ?_ | refine wM_blk ?_ | refine wM_bseq ?_ | (refine wOps_nil ?_; refine wM_reg ?_)
     refine wM_add (a := (i : Int)) (b := 1) rfl rfl ⟨by omega, by omega⟩ <| wM_mov (v := iv ((i : Int) + 1)) rfl <| wM_end ?_
     have hacc2 : Acc lo H6.next 50 H11 (.slice (some ⟨H10.next, 0, none⟩) (i + 1) (i + 1)) (i + 1) (plc us adv ds rev ((grl ds).take (i + 1))) := by rw [take_app (by omega)]; unfold plc; rw [List.flatMap_append]; exact aH11
     exact ⟨k - 1, (i + 1, .slice (some ⟨H10.next, 0, none⟩) (i + 1) (i + 1)), by omega, ⟨by simp only []; omega, hk, by omega, hpy, hacc2⟩, rfl, (by show some (iv _) = some (iv _); rw [take_app (by omega), sumK_app]; simp only [sumK]; congr 2; omega), rfl, rfl, rfl, trivial⟩
    ·have q1 : ¬ ((i : Int) < (N : Int)) := of_decide_eq_false q1
     first | (refine wM_exit ?_; show wCM _ _ _ _ _ _ _ _ _) | skip
     refine wM_seq <| wM_mov (v := wv) rfl <| wM_mov (v := iv (rev - sumK (fun g => shr rev (hwS us ds g ds.length) (tW us ds ds.length)) ((grl ds).take i))) rfl <| wM_mov (v := wv) rfl <| wM_mov (v := iv (rev - sumK (fun g => shr rev (hwS us ds g ds.length) (tW us ds ds.length)) ((grl ds).take i))) rfl <| wM_mov (v := iv 0) rfl <| wM_end ?_
     obtain rfl : i = N := by omega
     have htk : (grl ds).take i = grl ds := List.take_of_length_le (by omega)
     rw [htk] at hacc ⊢
     have hcond : (vT us adv && vD ds && inB rev 0 1073741824) = true := by rw [qvT, qvD, qrv]; rfl
     exact And.intro trivial (Exists.intro _ (And.intro rfl ⟨wv, by unfold stK stE; rw [if_pos hcond, if_pos (by rw [qvT, qvD]; rfl), if_pos qrv]; rfl, by unfold stL; rw [if_pos hcond, ← eN]; exact hacc.low (by omega), hk⟩))
end
end
end Go.Ax

/-
 Pool: Break (20) (written by program).
-/
namespace Go.Ax
open Go Go.RowKit Go.Proofs

noncomputable section
def bkP (us : List Pr) (ds : List Dl) (gr wanted : Int) (k : Nat) : Bool := decide (shr k (hwS us ds gr ds.length) (tW us ds ds.length) ≥ wanted)
theorem shr_mono {a b w all : Int} (h : a ≤ b) (hw : 0 ≤ w) (hall : 0 ≤ all) : shr a w all ≤ shr b w all := by
 unfold shr
 split
 ·exact Int.le_refl _
 ·exact Int.ediv_le_ediv (by omega) (Int.mul_le_mul_of_nonneg_right h hw)
theorem bkP_mono {us : List Pr} {ds : List Dl} (hu : us.any badP = false) (h0 : 0 < us.length) (hd : ds.any badD = false) {gr wanted : Int} {j k : Nat} (h : j ≤ k) (hj : bkP us ds gr wanted j = true) : bkP us ds gr wanted k = true := by
 unfold bkP at hj ⊢
 have a := of_decide_eq_true hj
 have b := shr_mono (a := (j : Int)) (b := (k : Int)) (w := hwS us ds gr ds.length) (all := tW us ds ds.length) (by omega) (hwS_in hu h0 hd _ (Nat.le_refl _)).1 (tW_in hu h0 hd _ (Nat.le_refl _)).1
 exact decide_eq_true (by omega)
def NB : Nat := 1073741825
def BkS (us : List Pr) (adv : Int) (ds : List Dl) (gr wanted x e : Int) : Prop :=
 if (vT us adv && vD ds) = true then (if gr ∈ grl ds then (if inB wanted 0 1073741824 = true then ∃ m : Nat, Lst (bkP us ds gr wanted) NB m ∧ (x, e) = pick2 NB m else (x, e) = (0, 2)) else (x, e) = (0, 4)) else (x, e) = (0, 1)
theorem BkS.uniq {us : List Pr} {adv : Int} {ds : List Dl} {gr wanted x e x' e' : Int} (h : BkS us adv ds gr wanted x e) (h' : BkS us adv ds gr wanted x' e') : x = x' ∧ e = e' := by
 unfold BkS at h h'
 split at h
 ·rename_i q
  rw [if_pos q] at h'
  simp only [Bool.and_eq_true] at q
  have v := vT_t q.1
  have w := vD_t q.2
  split at h
  ·rename_i q1
   rw [if_pos q1] at h'
   split at h
   ·rename_i q2
    rw [if_pos q2] at h'
    obtain ⟨m, h1, h2⟩ := h
    obtain ⟨m', h3, h4⟩ := h'
    have := h1.uniq (fun j k a _ b => bkP_mono v.2.2.1 (by omega) w.2 a b) h3
    subst this
    rw [← h4] at h2
    exact Prod.mk.inj h2
   ·rename_i q2
    rw [if_neg q2] at h'
    rw [← h'] at h
    exact Prod.mk.inj h
  ·rename_i q1
   rw [if_neg q1] at h'
   rw [← h'] at h
   exact Prod.mk.inj h
 ·rename_i q
  rw [if_neg q] at h'
  rw [← h'] at h
  exact Prod.mk.inj h
section
variable {kn : Kn} {lo : Nat} {H : Hp}
set_option maxRecDepth 100000 in
theorem brk45_ok {us : List Pr} {adv : Int} {ds : List Dl} (hu : us.any badP = false) (h0 : 0 < us.length) (ha1 : 0 ≤ adv) (ha2 : adv ≤ 1000) (hm2 : ds.length ≤ 128) (hdv : ds.any badD = false) (hlo : lo ≤ H.next) {gb gc : Nat} {L : ML Int} (hmp : Mpa iv H gb L gc) {gr wanted : Int} (hget : getA gr L = some (hvV us adv ds gr)) {b1 b2 b3 b4 k : Nat} (r1 : Rd H b1 [.map (some gb)]) (r2 : Rd H b2 [iv gr]) (r3 : Rd H b3 [iv (tW us ds ds.length)]) (r4 : Rd H b4 [iv wanted]) (hkn : k < NB) :
  ∃ H', FnX Try.prog kn lo 45 [iv (k : Int), .pointer (some ⟨b1, 0, none⟩), .pointer (some ⟨b2, 0, none⟩), .pointer (some ⟨b3, 0, none⟩), .pointer (some ⟨b4, 0, none⟩)] H (.bool (bkP us ds gr wanted k)) H' ∧ Keep H H' [] := by
 have key := fnX_low (kn := kn) (lo := lo) (H := H) (args := [iv (k : Int), .pointer (some ⟨b1, 0, none⟩), .pointer (some ⟨b2, 0, none⟩), .pointer (some ⟨b3, 0, none⟩), .pointer (some ⟨b4, 0, none⟩)]) (Q := fun w H' => w = .bool (bkP us ds gr wanted k) ∧ Keep H H' []) Try.func45 B45 N45 Z45 L45 (by simp) ?_
 ·obtain ⟨w, H', h, rfl, q⟩ := key; exact ⟨H', h, q⟩
 have hk := Keep.refl H []
 unfold NB at hkn
 have l1 := r1.1; have l2 := r2.1; have l3 := r3.1; have l4 := r4.1; have lg := hmp.1
 have hwb := hwS_in (g := gr) hu h0 hdv ds.length (Nat.le_refl _)
 have htb := tW_in hu h0 hdv ds.length (Nat.le_refl _)
 refine wN_seq <| wN_mov (v := .bool false) rfl <| wN_end <| wD_seq <| wD_mov (v := iv (k : Int)) rfl <| wD_ld (b := b1) (o := 0) (v := .map (some gb)) rfl r1 rfl <| wD_ld (b := b2) (o := 0) (v := iv gr) rfl r2 rfl <| wD_memh (v := hvV us adv ds gr) (H' := H) (k := .read gb) (defd2 rfl rfl) rfl ((heap_look key3 und67 zero70 rfl rfl hmp false (by rw [hget]; rfl)).trans (by rw [hget]; rfl)) (fun q e => by cases e; exact hmp.1) <| wD_pur (v := iv (hwS us ds gr ds.length)) rfl (by kernel_rfl) <| wD_ld (b := b3) (o := 0) (v := iv (tW us ds ds.length)) rfl r3 rfl ?_
 obtain ⟨H1, fH1, kH1⟩ := share_ok (kn := kn) (lo := H.next) (H := H) (rev := (k : Int)) (x := hwS us ds gr ds.length) (all := tW us ds ds.length) (by omega) (by omega) (by omega) (by omega) (by omega) (by omega)
 refine wD_callh rfl rfl (callX_args fH1) ?_
 have mH1 := kH1.1
 have hk := hk.trans kH1
 have hmp := kH1.mpa hmp (by simp)
 have r1 := kH1.rd r1 (by simp)
 have r2 := kH1.rd r2 (by simp)
 have r3 := kH1.rd r3 (by simp)
 have r4 := kH1.rd r4 (by simp)
 refine wD_ld (b := b4) (o := 0) (v := iv wanted) rfl r4 rfl <| wD_c_geq (a := (shr (k : Int) (hwS us ds gr ds.length) (tW us ds ds.length))) (b := wanted) rfl rfl <| wD_mov (v := .bool (decide ((shr (k : Int) (hwS us ds gr ds.length) (tW us ds ds.length)) ≥ wanted))) rfl ?_
 refine wD_end (by repeat' first | exact True.intro | exact (fun h => h) | refine And.intro ?_ ?_ | (intro h; have h : (_ : Nat) = _ := h; omega)) ?_
 exact And.intro trivial (Exists.intro _ (And.intro rfl ⟨rfl, hk⟩))
set_option maxRecDepth 100000 in
set_option maxHeartbeats 1000000 in
theorem Break_ok (s : Snd Try.prog kn) {us : List Pr} {sa : Option Addr} {n cap : Nat} {adv : Int} (hs : Sl H sa n cap (prc us)) (hl : us.length = n) (hn : n ≤ 1000000) {ds : List Dl} {la : Option Addr} {m capl : Nat} (hd : Sl H la m capl (dlc ds)) (hm : ds.length = m) (hmn : m ≤ 1000000) (hlo : lo ≤ H.next) {gr wanted : Int} :
  FnM Try.prog lo 20 [.agg #[.slice sa n cap, iv adv], .slice la m capl, iv gr, iv wanted] H fun v H' => ∃ x e, v = .tuple #[iv x, iv e] ∧ BkS us adv ds gr wanted x e ∧ Keep H H' [] := by
 refine fnM_low s Try.func20 B20 N20 Z20 L20 (by simp) ?_
 have hk := Keep.refl H []
 have fs := hs.old
 have fd := hd.old
 refine wM_seq <| wM_box (v := .agg #[.slice sa n cap, iv adv]) rfl ?_
 intro H1 kH1 nH1 c1
 have c1 : Cl H1 H.next [.slice sa n cap, iv adv] := c1
 have mH1 := kH1.1
 have hk := hk.trans kH1
 have hs := kH1.sl0 hs
 have hd := kH1.sl0 hd
 refine wM_box (v := iv gr) rfl ?_
 intro H2 kH2 nH2 c2
 have c2 : Cl H2 H1.next [iv gr] := c2
 have mH2 := kH2.1
 have hk := hk.trans kH2
 have hs := kH2.sl0 hs
 have hd := kH2.sl0 hd
 have c1 := kH2.cl c1 (by simp)
 refine wM_box (v := iv wanted) rfl ?_
 intro H3 kH3 nH3 c3
 have c3 : Cl H3 H2.next [iv wanted] := c3
 have mH3 := kH3.1
 have hk := hk.trans kH3
 have hs := kH3.sl0 hs
 have hd := kH3.sl0 hd
 have c1 := kH3.cl c1 (by simp)
 have c2 := kH3.cl c2 (by simp)
 refine wM_mov (v := iv 0) rfl <| wM_mov (v := iv 0) rfl <| wM_end <| wM_seq <| wM_lda (b := H.next) (o := 0) rfl c1.rd (show row 2 _ _ = some [.slice sa n cap, iv adv] from rfl) <| wM_callB s rfl (vT_ok hs hl hn (by omega)) ?_
 intro tH4 H4 hH4 kH4
 have mH4 := kH4.1
 have hk := hk.trans kH4
 have hs := kH4.sl0 hs
 have hd := kH4.sl0 hd
 have c1 := kH4.cl c1 (by simp)
 have c2 := kH4.cl c2 (by simp)
 have c3 := kH4.cl c3 (by simp)
 cases tH4
 ·have vhH4 : vT us adv = false := hH4
  have qvT := vhH4
  refine wM_pur (v := .bool true) rfl rfl <| wM_mov (v := .bool true) rfl <| wM_gs rfl <| wM_gs rfl <| wM_gs rfl <| wM_pur (v := .bool true) rfl rfl <| wM_end <| condT <| wM_seq <| wM_mov (v := iv 0) rfl <| wM_mov (v := iv 1) rfl <| wM_end ?_
  exact And.intro trivial (Exists.intro _ (And.intro rfl ⟨0, 1, rfl, by unfold BkS; rw [if_neg (by first | (rw [qvT]; simp; done) | (rw [qvD]; simp; done))], hk⟩))
 ·have vhH4 : vT us adv = true := hH4
  obtain ⟨h0x, h8, hu, ha1, ha2⟩ := vT_t vhH4
  have h0 : 0 < n := by omega
  have qvT := vhH4
  refine wM_pur (v := .bool false) rfl rfl <| wM_mov (v := .bool false) rfl ?_
  refine wM_g rfl (wM_mov (v := .slice la m capl) rfl ?_)
  refine wM_g rfl (wM_callB s rfl (vD_ok hd hm hmn (by omega)) ?_)
  intro tH5 H5 hH5 kH5
  have mH5 := kH5.1
  have hk := hk.trans kH5
  have hs := kH5.sl0 hs
  have hd := kH5.sl0 hd
  have c1 := kH5.cl c1 (by simp)
  have c2 := kH5.cl c2 (by simp)
  have c3 := kH5.cl c3 (by simp)
  cases tH5
  ·have vhH5 : vD ds = false := hH5
   have qvD := vhH5
   refine wM_g rfl (wM_pur (v := .bool true) rfl rfl ?_)
   refine wM_pur (v := .bool true) rfl rfl <| wM_end <| condT <| wM_seq <| wM_mov (v := iv 0) rfl <| wM_mov (v := iv 1) rfl <| wM_end ?_
   exact And.intro trivial (Exists.intro _ (And.intro rfl ⟨0, 1, rfl, by unfold BkS; rw [if_neg (by first | (rw [qvT]; simp; done) | (rw [qvD]; simp; done))], hk⟩))
  ·have vhH5 : vD ds = true := hH5
   obtain ⟨hm8, hdv⟩ := vD_t vhH5
   have qvD := vhH5
   refine wM_g rfl (wM_pur (v := .bool false) rfl rfl ?_)
   refine wM_pur (v := .bool false) rfl rfl <| wM_end <| condF ?_
   first | refine wM_skip ?_ | skip
   refine wM_seq <| wM_lda (b := H.next) (o := 0) rfl c1.rd (show row 2 _ _ = some [.slice sa n cap, iv adv] from rfl) <| wM_mov (v := .slice la m capl) rfl ?_
   obtain ⟨gb, L, gc, H6, fH6, hgb, hmp, hG, kH6⟩ := gather_ok (kn := kn) (lo := lo) (H := H5) (adv := adv) hs hl hn hu h0 ha1 ha2 hd hm (by omega) hdv (by omega)
   refine wM_callf s (vs := [.agg #[.slice sa n cap, iv adv], .slice la m capl]) rfl (callX_args fH6) ?_
   have mH6 := kH6.1
   have hk := hk.trans kH6
   have hs := kH6.sl0 hs
   have hd := kH6.sl0 hd
   have c1 := kH6.cl c1 (by simp)
   have c2 := kH6.cl c2 (by simp)
   have c3 := kH6.cl c3 (by simp)
   rw [← hm] at hG
   have lgb := hmp.1
   have hGk : ∀ g, g ∈ L.map (·.1) ↔ g ∈ grl ds := fun g => by rw [hG.key, grl_mem hdv]
   refine wM_alc ?_
   intro H7 kH7 nH7 c7
   have c7 : Cl H7 H6.next [(.map none)] := c7
   have mH7 := kH7.1
   have hk := hk.trans kH7
   have hs := kH7.sl0 hs
   have hd := kH7.sl0 hd
   have c1 := kH7.cl c1 (by simp)
   have c2 := kH7.cl c2 (by simp)
   have c3 := kH7.cl c3 (by simp)
   have hmp := kH7.mpa hmp (by simp)
   refine wM_st (b := H6.next) (o := 0) rfl rfl c7 (by omega) rfl rfl (by simp) ?_
   intro H8 kH8 nH8 sH8
   have mH8 := kH8.1
   have hk := hk.new kH8 (fun b hb => by simp at hb ⊢; omega)
   have hs := kH8.sl hs (fun b e => by have := fs b e; first | (simp; done) | (simp; omega))
   have hd := kH8.sl hd (fun b e => by have := fd b e; first | (simp; done) | (simp; omega))
   have c1 := kH8.cl c1 (by first | (simp; done) | (simp; omega))
   have c2 := kH8.cl c2 (by first | (simp; done) | (simp; omega))
   have c3 := kH8.cl c3 (by first | (simp; done) | (simp; omega))
   have hmp := kH8.mpa hmp (by simp; omega)
   have c7 : Cl H8 H6.next [.map (some gb)] := sH8
   refine wM_end <| wM_seq <| wM_ld (b := H6.next) (o := 0) (v := .map (some gb)) rfl c7.rd rfl <| wM_ld (b := H1.next) (o := 0) (v := iv gr) rfl c2.rd rfl ?_
   by_cases hgr : gr ∈ grl ds
   ·have hget := hG.get ((hGk gr).2 hgr)
    refine wM_memh (v := .tuple #[hvV us adv ds gr, .bool true]) (H' := H8) (k := .read gb) (defd2 rfl rfl) rfl ((heap_look key3 und67 zero70 rfl rfl hmp true (by rw [hget]; rfl)).trans (by rw [hget]; rfl)) (fun q e => by cases e; exact hmp.1) <| wM_mov (v := .tuple #[hvV us adv ds gr, .bool true]) rfl <| wM_pur (v := hvV us adv ds gr) rfl (by kernel_rfl) <| wM_pur (v := .bool true) rfl (by kernel_rfl) <| wM_alc ?_
    intro H9 kH9 nH9 c9
    have c9 : Cl H9 H8.next [iv 0, iv 0, iv 0] := c9
    have mH9 := kH9.1
    have hk := hk.trans kH9
    have hs := kH9.sl0 hs
    have hd := kH9.sl0 hd
    have c1 := kH9.cl c1 (by simp)
    have c2 := kH9.cl c2 (by simp)
    have c3 := kH9.cl c3 (by simp)
    have hmp := kH9.mpa hmp (by simp)
    have c7 := kH9.cl c7 (by simp)
    refine wM_sta (b := H8.next) (o := 0) rfl rfl c9 (by omega) rfl rfl (by simp) ?_
    intro H10 kH10 nH10 sH10
    have mH10 := kH10.1
    have hk := hk.new kH10 (fun b hb => by simp at hb ⊢; omega)
    have hs := kH10.sl hs (fun b e => by have := fs b e; first | (simp; done) | (simp; omega))
    have hd := kH10.sl hd (fun b e => by have := fd b e; first | (simp; done) | (simp; omega))
    have c1 := kH10.cl c1 (by first | (simp; done) | (simp; omega))
    have c2 := kH10.cl c2 (by first | (simp; done) | (simp; omega))
    have c3 := kH10.cl c3 (by first | (simp; done) | (simp; omega))
    have hmp := kH10.mpa hmp (by simp; omega)
    have c7 := kH10.cl c7 (by first | (simp; done) | (simp; omega))
    have c9 : Cl H10 H8.next [iv gr, iv (hwS us ds gr ds.length), iv (haS us adv ds gr ds.length)] := sH10
    refine wM_mov (v := .bool true) rfl <| wM_end <| wM_seq <| wM_mov (v := .bool true) rfl <| wM_pur (v := .bool false) rfl rfl <| wM_end <| condF ?_
    first | refine wM_skip ?_ | skip
    refine wM_seq <| wM_ld (b := H2.next) (o := 0) (v := iv wanted) rfl c3.rd rfl <| wM_callB s rfl (in32_ok) ?_
    intro tH11 H11 hH11 kH11
    have mH11 := kH11.1
    have hk := hk.trans kH11
    have hs := kH11.sl0 hs
    have hd := kH11.sl0 hd
    have c1 := kH11.cl c1 (by simp)
    have c2 := kH11.cl c2 (by simp)
    have c3 := kH11.cl c3 (by simp)
    have hmp := kH11.mpa hmp (by simp)
    have c7 := kH11.cl c7 (by simp)
    have c9 := kH11.cl c9 (by simp)
    cases tH11
    ·have qwn : inB wanted 0 1073741824 = false := hH11
     have hwn := inB_f qwn
     refine wM_pur (v := .bool true) rfl rfl <| wM_end <| condT <| wM_seq <| wM_mov (v := iv 0) rfl <| wM_mov (v := iv 2) rfl <| wM_end ?_
     exact And.intro trivial (Exists.intro _ (And.intro rfl ⟨0, 2, rfl, by unfold BkS; rw [if_pos (by rw [qvT, qvD]; rfl), if_pos hgr, if_neg (by rw [qwn]; simp)], hk⟩))
    ·have qwn : inB wanted 0 1073741824 = true := hH11
     have hwn := inB_t qwn
     refine wM_pur (v := .bool false) rfl rfl <| wM_end <| condF ?_
     first | refine wM_skip ?_ | skip
     refine wM_seq <| wM_ld (b := H6.next) (o := 0) (v := .map (some gb)) rfl c7.rd rfl <| wM_call (t := .fn (.func 44) #[]) rfl (callM_args s.hN (total_ok (H := H11) s hu (by omega) ha1 ha2 (by omega) hdv (by omega) hmp hG)) ?_
     rintro _ H12 ⟨rfl, kH12⟩
     have mH12 := kH12.1
     have hk := hk.trans kH12
     have hs := kH12.sl0 hs
     have hd := kH12.sl0 hd
     have c1 := kH12.cl c1 (by simp)
     have c2 := kH12.cl c2 (by simp)
     have c3 := kH12.cl c3 (by simp)
     have hmp := kH12.mpa hmp (by simp)
     have c7 := kH12.cl c7 (by simp)
     have c9 := kH12.cl c9 (by simp)
     refine wM_alc ?_
     intro H13 kH13 nH13 c13
     have c13 : Cl H13 H12.next [iv 0] := c13
     have mH13 := kH13.1
     have hk := hk.trans kH13
     have hs := kH13.sl0 hs
     have hd := kH13.sl0 hd
     have c1 := kH13.cl c1 (by simp)
     have c2 := kH13.cl c2 (by simp)
     have c3 := kH13.cl c3 (by simp)
     have hmp := kH13.mpa hmp (by simp)
     have c7 := kH13.cl c7 (by simp)
     have c9 := kH13.cl c9 (by simp)
     refine wM_st (b := H12.next) (o := 0) rfl rfl c13 (by omega) rfl rfl (by simp) ?_
     intro H14 kH14 nH14 sH14
     have mH14 := kH14.1
     have hk := hk.new kH14 (fun b hb => by simp at hb ⊢; omega)
     have hs := kH14.sl hs (fun b e => by have := fs b e; first | (simp; done) | (simp; omega))
     have hd := kH14.sl hd (fun b e => by have := fd b e; first | (simp; done) | (simp; omega))
     have c1 := kH14.cl c1 (by first | (simp; done) | (simp; omega))
     have c2 := kH14.cl c2 (by first | (simp; done) | (simp; omega))
     have c3 := kH14.cl c3 (by first | (simp; done) | (simp; omega))
     have hmp := kH14.mpa hmp (by simp; omega)
     have c7 := kH14.cl c7 (by first | (simp; done) | (simp; omega))
     have c9 := kH14.cl c9 (by first | (simp; done) | (simp; omega))
     have c13 : Cl H14 H12.next [iv (tW us ds ds.length)] := sH14
     refine wM_end <| wM_seq <| wM_pur (v := .func (.func 45) #[] #[pt H6.next, pt H1.next, pt H12.next, pt H2.next]) rfl (by kernel_rfl) ?_
     obtain ⟨m, H15, fH15, hmm, kH15⟩ := enough_ok (kn := kn) (lo := lo) (H := H14) (N := 1073741824) (F := 45) (caps := #[.pointer (some ⟨H6.next, 0, none⟩), .pointer (some ⟨H1.next, 0, none⟩), .pointer (some ⟨H12.next, 0, none⟩), .pointer (some ⟨H2.next, 0, none⟩)]) (bkP us ds gr wanted) (by omega) (fun kk HH kH hkk => by
      obtain ⟨H9, f9, k9⟩ := brk45_ok (kn := kn) (lo := lo) (H := HH) (adv := adv) hu (by omega) ha1 ha2 (by omega) hdv (by have := kH.1; omega) (kH.mpa hmp (by simp)) hget (wanted := wanted) (k := kk) (kH.rd c7.rd (by simp)) (kH.rd c2.rd (by simp)) (kH.rd c13.rd (by simp)) (kH.rd c3.rd (by simp)) hkk
      exact ⟨H9, callX_func rfl (by simpa using f9), k9⟩)
     refine wM_callf s (vs := [iv 1073741824, .func (.func 45) #[] #[pt H6.next, pt H1.next, pt H12.next, pt H2.next]]) rfl (callX_args fH15) ?_
     have mH15 := kH15.1
     have hk := hk.trans kH15
     have hs := kH15.sl0 hs
     have hd := kH15.sl0 hd
     have c1 := kH15.cl c1 (by simp)
     have c2 := kH15.cl c2 (by simp)
     have c3 := kH15.cl c3 (by simp)
     have hmp := kH15.mpa hmp (by simp)
     have c7 := kH15.cl c7 (by simp)
     have c9 := kH15.cl c9 (by simp)
     have c13 := kH15.cl c13 (by simp)
     refine wM_pur (v := iv ((pick2 NB m).1)) rfl (by kernel_rfl) <| wM_pur (v := iv ((pick2 NB m).2)) rfl (by kernel_rfl) <| wM_mov (v := iv ((pick2 NB m).1)) rfl <| wM_mov (v := iv ((pick2 NB m).2)) rfl <| wM_end ?_
     exact And.intro trivial (Exists.intro _ (And.intro rfl ⟨(pick2 NB m).1, (pick2 NB m).2, rfl, by unfold BkS; rw [if_pos (by rw [qvT, qvD]; rfl), if_pos hgr, if_pos qwn]; exact ⟨m, hmm, rfl⟩, hk⟩))
   ·have hget : getA gr L = none := by
     cases hq : getA gr L with
     | none => rfl
     | some v => exact absurd ((hGk gr).1 (get_key.1 (by rw [hq]; rfl))) hgr
    refine wM_memh (v := .tuple #[.agg #[iv 0, iv 0, iv 0], .bool false]) (H' := H8) (k := .read gb) (defd2 rfl rfl) rfl ((heap_look key3 und67 zero70 rfl rfl hmp true (by rw [hget]; rfl)).trans (by rw [hget]; rfl)) (fun q e => by cases e; exact hmp.1) <| wM_mov (v := .tuple #[.agg #[iv 0, iv 0, iv 0], .bool false]) rfl <| wM_pur (v := .agg #[iv 0, iv 0, iv 0]) rfl (by kernel_rfl) <| wM_pur (v := .bool false) rfl (by kernel_rfl) <| wM_alc ?_
    intro H16 kH16 nH16 c16
    have c16 : Cl H16 H8.next [iv 0, iv 0, iv 0] := c16
    have mH16 := kH16.1
    have hk := hk.trans kH16
    have hs := kH16.sl0 hs
    have hd := kH16.sl0 hd
    have c1 := kH16.cl c1 (by simp)
    have c2 := kH16.cl c2 (by simp)
    have c3 := kH16.cl c3 (by simp)
    have hmp := kH16.mpa hmp (by simp)
    have c7 := kH16.cl c7 (by simp)
    refine wM_sta (b := H8.next) (o := 0) rfl rfl c16 (by omega) rfl rfl (by simp) ?_
    intro H17 kH17 nH17 sH17
    have mH17 := kH17.1
    have hk := hk.new kH17 (fun b hb => by simp at hb ⊢; omega)
    have hs := kH17.sl hs (fun b e => by have := fs b e; first | (simp; done) | (simp; omega))
    have hd := kH17.sl hd (fun b e => by have := fd b e; first | (simp; done) | (simp; omega))
    have c1 := kH17.cl c1 (by first | (simp; done) | (simp; omega))
    have c2 := kH17.cl c2 (by first | (simp; done) | (simp; omega))
    have c3 := kH17.cl c3 (by first | (simp; done) | (simp; omega))
    have hmp := kH17.mpa hmp (by simp; omega)
    have c7 := kH17.cl c7 (by first | (simp; done) | (simp; omega))
    have c16 : Cl H17 H8.next [iv 0, iv 0, iv 0] := sH17
    refine wM_mov (v := .bool false) rfl <| wM_end <| wM_seq <| wM_mov (v := .bool false) rfl <| wM_pur (v := .bool true) rfl rfl <| wM_end <| condT <| wM_seq <| wM_mov (v := iv 0) rfl <| wM_mov (v := iv 4) rfl <| wM_end ?_
    exact And.intro trivial (Exists.intro _ (And.intro rfl ⟨0, 4, rfl, by unfold BkS; rw [if_pos (by rw [qvT, qvD]; rfl), if_neg hgr], hk⟩))
end
end
end Go.Ax

/-
 Pool: the document's Advances, Settle, Break (written by program).
-/
namespace Go.Ax
open Go Go.RowKit Go.Proofs

noncomputable section
section
variable {kn : Kn} {lo : Nat} {H : Hp}
set_option maxRecDepth 100000 in
theorem refvD_ok {ds : List Dl} {la : Option Addr} {m capl : Nat} (hd : Sl H la m capl (dlc ds)) (hm : ds.length = m) (hmn : m ≤ 1000000) (hlo : lo ≤ H.next) : ∃ H', FnX Try.prog kn lo 26 [.slice la m capl] H (.bool (vD ds)) H' ∧ Keep H H' [] := by
 have key := fnX_low (kn := kn) (lo := lo) (H := H) (args := [.slice la m capl]) (Q := fun w H' => w = .bool (vD ds) ∧ Keep H H' []) Try.func26 B26 N26 Z26 L26 (by simp) ?_
 ·obtain ⟨w, H', h, rfl, q⟩ := key; exact ⟨H', h, q⟩
 have hk := Keep.refl H []
 have fd := hd.old
 refine wN_seq <| wN_mov (v := .bool false) rfl <| wN_end <| wN_seq <| wN_mov (v := iv 0) rfl <| wN_end ?_
 refine loop_low (fn := Try.f26) E26_1 N26 L26x1 (fun i : Nat => [(0, .slice la m capl), (3, iv (i : Int))])
  (fun k i H' => i + k = m ∧ i ≤ 129 ∧ Keep H H' [] ∧ Sl H' la m capl (dlc ds) ∧ ∀ j, j < i → badD (ds.getD j Dl.z) = false) m 0 ⟨by omega, by omega, hk, hd, fun j h => absurd h (by omega)⟩ ⟨rfl, rfl, trivial⟩ ?_
 rintro k i L1 ⟨hik, hi9, hk, hd, hall⟩
 have mk := hk.1
 refine wN_seq <| wN_mov (v := iv (i : Int)) rfl <| wN_mov (v := .slice la m capl) rfl <| wN_len (m := m) rfl <| wN_b_lss (a := (i : Int)) (b := (m : Int)) rfl rfl ?_
 intro t1 g1; cases t1
 ·have g1 : ¬ ((i : Int) < (m : Int)) := of_decide_eq_false g1
  refine wN_mov (v := .bool false) rfl <| wN_gs rfl <| wN_gs rfl <| wN_pur (v := .bool false) rfl rfl <| wN_end <| condF ?_
  first | (refine wN_exit ?_; show wC _ _ _ _ _ _ _ _ _) | skip
  refine wN_seq <| wN_mov (v := .slice la m capl) rfl <| wN_len (m := m) rfl <| wN_c_leq (a := (m : Int)) (b := 128) rfl rfl <| wN_mov (v := .bool (decide ((m : Int) ≤ 128))) rfl <| wN_end ?_
  refine And.intro trivial (Exists.intro _ (And.intro rfl ⟨congrArg Value.bool (show decide ((m : Int) ≤ 128) = vD ds from ?_), hk⟩))
  symm; unfold vD; rw [hm]
  by_cases q : m ≤ 128
  ·rw [any_false (z := Dl.z) (fun j hj => hall j (by omega)), decide_eq_true q, decide_eq_true (by omega)]; rfl
  ·rw [decide_eq_false q, decide_eq_false (by omega)]; rfl
 ·have g1 : (i : Int) < (m : Int) := of_decide_eq_true g1
  refine wN_mov (v := .bool true) rfl ?_
  refine wN_g rfl (wN_mov (v := iv (i : Int)) rfl ?_)
  refine wN_g rfl (wN_b_leq (a := (i : Int)) (b := 128) rfl rfl ?_)
  intro t2 g2; cases t2
  ·have g2 : ¬ ((i : Int) ≤ 128) := of_decide_eq_false g2
   refine wN_pur (v := .bool false) rfl rfl <| wN_end <| condF ?_
   first | (refine wN_exit ?_; show wC _ _ _ _ _ _ _ _ _) | skip
   refine wN_seq <| wN_mov (v := .slice la m capl) rfl <| wN_len (m := m) rfl <| wN_c_leq (a := (m : Int)) (b := 128) rfl rfl <| wN_mov (v := .bool (decide ((m : Int) ≤ 128))) rfl <| wN_end ?_
   refine And.intro trivial (Exists.intro _ (And.intro rfl ⟨congrArg Value.bool (show decide ((m : Int) ≤ 128) = vD ds from ?_), hk⟩))
   symm; unfold vD; rw [hm]
   by_cases q : m ≤ 128
   ·rw [any_false (z := Dl.z) (fun j hj => hall j (by omega)), decide_eq_true q, decide_eq_true (by omega)]; rfl
   ·rw [decide_eq_false q, decide_eq_false (by omega)]; rfl
  ·have g2 : (i : Int) ≤ 128 := of_decide_eq_true g2
   refine wN_pur (v := .bool true) rfl rfl <| wN_end <| condT ?_
   have hi : i < m := by omega
   rcases id hd with ⟨_, h0s, _⟩ | ⟨sb, es, rs, _⟩
   ·omega
   have ls := rs.1
   first | refine wN_skip ?_ | skip
   refine wN_seq <| wN_mov (v := .slice la m capl) rfl <| wN_mov (v := iv (i : Int)) rfl <| wN_idx (b := sb) (o := 0) (k := i) (j := (i : Int)) (by rw [← es]; rfl) rfl rfl hi <| wN_lda (b := sb) (o := 0 + i * 3) rfl rs (dlc_rowF (by omega)) <| wN_callB rfl (refD_ok (by omega)) ?_
   intro tH1 H1 hH1 kH1
   have mH1 := kH1.1
   have hk := hk.trans kH1
   have hd := kH1.sl0 hd
   have rs := kH1.rd rs (by simp)
   cases tH1
   ·have hb : badD (ds.getD i Dl.z) = true := by simpa using hH1
    refine wN_pur (v := .bool true) rfl rfl <| wN_end <| condT <| wN_seq <| wN_mov (v := .bool false) rfl <| wN_end ?_
    exact And.intro trivial (Exists.intro _ (And.intro rfl ⟨congrArg Value.bool (show false = vD ds from (by symm; unfold vD; rw [any_true (z := Dl.z) (j := i) (by omega) hb]; simp)), hk⟩))
   ·have hb : badD (ds.getD i Dl.z) = false := by simpa using hH1
    refine wN_pur (v := .bool false) rfl rfl <| wN_end <| condF ?_
    first | refine wN_skip ?_ | skip
    first | refine wN_reg ?_ | refine wN_blk ?_ | refine wN_bseq ?_ | (refine wOps_nil ?_; refine wN_reg ?_)
    refine wN_mov (v := iv (i : Int)) rfl <| wN_add (a := (i : Int)) (b := 1) rfl rfl ⟨by omega, by omega⟩ <| wN_mov (v := iv ((i : Int) + 1)) rfl <| wN_end ?_
    exact ⟨k - 1, i + 1, by omega, ⟨by omega, by omega, hk, hd, fun j hj => by rcases Nat.lt_or_ge j i with c | c; exact hall j c; rw [show j = i by omega]; exact hb⟩, rfl, rfl, trivial⟩
end
end
end Go.Ax

/-
 Pool: the document's Settle, Break; lists of payments compared (written by program).
-/
namespace Go.Ax
open Go Go.RowKit Go.Proofs

noncomputable section
theorem eq_struct {P : Program} {d : Nat} {t : TypeId} {xs ys : Array Value} {fs : Array Field} (hu : prun P (underlying t) = some (.struct fs)) (hp : P.stoodInHeld t = false) (g : Field → Bool)
  (hf : ∀ f ∈ fs.toList, f.name ≠ "_" ∧ ∃ u v, prun P (part f.type xs f.offset) = some u ∧ prun P (part f.type ys f.offset) = some v ∧ prun P (Op.equalIn d f.type u v) = some (g f)) :
  prun P (Op.equalIn (d + 1) t (.agg xs) (.agg ys)) = some (fs.toList.all g) := by
 simp only [Op.equalIn, pr_bind, hu, Option.bind_some, show prun P program = some P from rfl, hp, Bool.false_eq_true, if_false]
 rw [← Array.forIn_toList]
 generalize fs.toList = l at hf
 induction l with
 | nil => rfl
 | cons f l ih =>
  obtain ⟨hn, u, v, h1, h2, h3⟩ := hf f (by simp)
  have ih := ih (fun g hg => hf g (by simp [hg]))
  simp only [List.forIn_cons, pr_bind, pr_ite]
  rw [if_pos hn]
  cases hg : g f with
  | true =>
   simp only [h1, h2, h3, hg, Option.bind_some, Bool.not_true, Bool.false_eq_true, if_false, pr_pure, List.all_cons, Bool.true_and]
   exact ih
  | false =>
   simp only [h1, h2, h3, hg, Option.bind_some, Bool.not_false, if_true, pr_pure, List.all_cons, Bool.false_and]
theorem eq_int {d : Nat} {x y : Int} : prun Try.prog (Op.equalIn (d + 1) 3 (iv x) (iv y)) = some (decide (x = y)) := by
 have h : prun Try.prog (Op.equalIn (d + 1) 3 (iv x) (iv y)) = some (x == y) := by kernel_rfl
 rw [h]
 by_cases e : x = y <;> simp [e]
def fldsIn (P : Program) (t : TypeId) : Array Field :=
 match P.underlying t with
 | some (.struct fs) => fs
 | _ => #[]
theorem all_map {β γ : Type} (l : List β) (f : β → γ) (g : γ → Bool) : l.all (fun x => g (f x)) = (l.map f).all g := by
 induction l with
 | nil => rfl
 | cons a l ih => simp [ih]
theorem und50 : Try.prog.underlying 50 = some (.struct (fldsIn Try.prog 50)) := by kernel_rfl
theorem fs50 : (fldsIn Try.prog 50).toList.map (fun f => (f.type, f.offset, f.name == "_")) = [(3, 0, false), (3, 1, false), (3, 2, false), (3, 3, false), (3, 4, false)] := by kernel_rfl
theorem st50 : Program.stoodInHeld Try.prog 50 = false := by kernel_rfl
set_option maxRecDepth 100000 in
theorem eq50 {d : Nat} (a b c e f : Int) : prun Try.prog (Op.equalIn (d + 2) 50 (.agg #[iv a, iv b, iv c, iv e, iv f]) (.agg #[iv a, iv b, iv c, iv e, iv f])) = some true := by
 have h := eq_struct (d := d + 1) (xs := #[iv a, iv b, iv c, iv e, iv f]) (ys := #[iv a, iv b, iv c, iv e, iv f]) (pr_under und50) st50 (fun _ => true) (by
   intro q hq
   have h : (q.type, q.offset, q.name == "_") ∈ [(3, 0, false), (3, 1, false), (3, 2, false), (3, 3, false), (3, 4, false)] := by rw [← fs50]; exact List.mem_map.mpr ⟨q, hq, rfl⟩
   simp only [List.mem_cons, List.not_mem_nil, or_false, Prod.mk.injEq] at h
   have one : ∀ x : Int, prun Try.prog (Op.equalIn (d + 1) 3 (iv x) (iv x)) = some true := fun x => by rw [eq_int]; simp
   rcases h with ⟨h1, h2, h3⟩ | ⟨h1, h2, h3⟩ | ⟨h1, h2, h3⟩ | ⟨h1, h2, h3⟩ | ⟨h1, h2, h3⟩ <;> (refine ⟨by intro e; rw [e] at h3; simp at h3, ?_⟩; rw [h1, h2])
   ·exact ⟨iv a, iv a, by kernel_rfl, by kernel_rfl, one a⟩
   ·exact ⟨iv b, iv b, by kernel_rfl, by kernel_rfl, one b⟩
   ·exact ⟨iv c, iv c, by kernel_rfl, by kernel_rfl, one c⟩
   ·exact ⟨iv e, iv e, by kernel_rfl, by kernel_rfl, one e⟩
   ·exact ⟨iv f, iv f, by kernel_rfl, by kernel_rfl, one f⟩)
 rw [show d + 2 = d + 1 + 1 from rfl, h]
 simp
set_option maxRecDepth 100000 in
theorem neq50 {n : Nat} {S : Rg} {d : Option Tmp} {x y : Operand} {p : String} {ty : TypeId} {a b c e f : Int} (hx : evS S x = some (.agg #[iv a, iv b, iv c, iv e, iv f])) (hy : evS S y = some (.agg #[iv a, iv b, iv c, iv e, iv f])) : pureOp Try.prog (frS n S) ⟨d, .binOp .neq 50 x y 50, ty, p, #[], none⟩ = some (.bool false) := by
 have key : prun Try.prog (do eqGuard .neq 50 x y (.agg #[iv a, iv b, iv c, iv e, iv f]) (.agg #[iv a, iv b, iv c, iv e, iv f]); binOp .neq 50 (.agg #[iv a, iv b, iv c, iv e, iv f]) (.agg #[iv a, iv b, iv c, iv e, iv f])) = some (.bool false) := by
  rw [pr_bind, show prun Try.prog (eqGuard .neq 50 x y (.agg #[iv a, iv b, iv c, iv e, iv f]) (.agg #[iv a, iv b, iv c, iv e, iv f])) = some () from by kernel_rfl, Option.bind_some]
  show prun Try.prog (do pure (Value.bool (!(← Op.equalIn (9998 + 2) 50 (.agg #[iv a, iv b, iv c, iv e, iv f]) (.agg #[iv a, iv b, iv c, iv e, iv f]))))) = _
  rw [pr_bind, eq50]; rfl
 unfold pureOp
 simp only [ev_frS, hx, hy, show flat (.agg #[iv a, iv b, iv c, iv e, iv f]) = true from rfl, Bool.and_self, cond_true, key]
 rfl
section
variable {kn : Kn} {lo : Nat} {H : Hp}
end
end
end Go.Ax

/-
 Pool: lists of payments compared (22), found (25); many (10); the examples (27, 11) (written by program).
-/
namespace Go.Ax
open Go Go.RowKit Go.Proofs

noncomputable section
def manyB (n m : Nat) : Bool := decide ((n : Int) > 12) || decide ((m : Int) > 132)
def us0 : List Pr := [⟨30000, 500⟩, ⟨90000, 0⟩]
def ds0 : List Dl := [⟨3, 1000000, 50000000⟩, ⟨8, 500000, 75000000⟩, ⟨3, 200000, 4000000⟩]
theorem res_cv {P : Program} {S : Rg} {H : Hp} {a b x n : Nat} {t : TypeId} {cs : List Value} {v : Value} (ha : lk S a = some (.pointer (some ⟨x, 0, none⟩))) (hb : lk S b = some v) (h1 : isAggB P t = some true) (hi : ∃ i, P.info? t = some i ∧ i.size = n) (hl : cs.length = n) (h : Cl H x cs) : resS P S H [.cell a t, .tmp b] = some [.agg cs.toArray, v] := by
 simp only [resS, ha, hb, load_agg h1 hi h.rd hl]
section
variable {kn : Kn} {lo : Nat} {H : Hp}
theorem many_ok {sa la : Option Addr} {n cap m capl : Nat} {adv : Int} : ∃ H', FnX Try.prog kn lo 10 [.agg #[.slice sa n cap, iv adv], .slice la m capl] H (.bool (manyB n m)) H' ∧ Keep H H' [] := by
 have key := fnX_low (kn := kn) (lo := lo) (H := H) (args := [.agg #[.slice sa n cap, iv adv], .slice la m capl]) (Q := fun w H' => w = .bool (manyB n m) ∧ Keep H H' []) Try.func10 B10 N10 Z10 L10 (by simp) ?_
 ·obtain ⟨w, H', h, rfl, q⟩ := key; exact ⟨H', h, q⟩
 have hk := Keep.refl H []
 refine wN_seq <| wN_box (v := .agg #[.slice sa n cap, iv adv]) rfl ?_
 intro H1 kH1 nH1 c1
 have c1 : Cl H1 H.next [.slice sa n cap, iv adv] := c1
 have mH1 := kH1.1
 have hk := hk.trans kH1
 refine wN_mov (v := .bool false) rfl <| wN_end <| wN_seq <| wN_addo (b := H.next) (o := 0) rfl <| wN_ld (b := H.next) (o := 0) (v := .slice sa n cap) rfl c1.rd rfl <| wN_len (m := n) rfl <| wN_b_gtr (a := (n : Int)) (b := 12) rfl rfl ?_
 intro t1 g1; cases t1
 ·have g1 : ¬ ((n : Int) > 12) := of_decide_eq_false g1
  refine wN_mov (v := .bool false) rfl ?_
  refine wN_g rfl (wN_mov (v := .slice la m capl) rfl ?_)
  refine wN_g rfl (wN_len (m := m) rfl ?_)
  refine wN_g rfl (wN_b_gtr (a := (m : Int)) (b := 132) rfl rfl ?_)
  intro t2 g2; cases t2
  ·have g2 : ¬ ((m : Int) > 132) := of_decide_eq_false g2
   refine wN_pur (v := .bool false) rfl rfl <| wN_mov (v := .bool false) rfl <| wN_end ?_
   exact And.intro trivial (Exists.intro _ (And.intro rfl ⟨congrArg Value.bool (show false = manyB n m from by symm; unfold manyB; simp <;> omega), hk⟩))
  ·have g2 : (m : Int) > 132 := of_decide_eq_true g2
   refine wN_pur (v := .bool true) rfl rfl <| wN_mov (v := .bool true) rfl <| wN_end ?_
   exact And.intro trivial (Exists.intro _ (And.intro rfl ⟨congrArg Value.bool (show true = manyB n m from by symm; unfold manyB; simp <;> omega), hk⟩))
 ·have g1 : (n : Int) > 12 := of_decide_eq_true g1
  refine wN_mov (v := .bool true) rfl <| wN_gs rfl <| wN_gs rfl <| wN_gs rfl <| wN_pur (v := .bool true) rfl rfl <| wN_mov (v := .bool true) rfl <| wN_end ?_
  exact And.intro trivial (Exists.intro _ (And.intro rfl ⟨congrArg Value.bool (show true = manyB n m from by symm; unfold manyB; simp <;> omega), hk⟩))
set_option maxRecDepth 100000 in
theorem sample_ok (hlo : lo ≤ H.next) : ∃ sa cap la capl H', FnX Try.prog kn lo 27 [] H (.tuple #[.agg #[.slice sa 2 cap, iv 400], .slice la 3 capl]) H' ∧ Sl H' sa 2 cap (prc us0) ∧ Sl H' la 3 capl (dlc ds0) ∧ Keep H H' [] := by
 have key := fnX_low (kn := kn) (lo := lo) (H := H) (args := []) (Q := fun w H' => ∃ sa cap la capl, w = .tuple #[.agg #[.slice sa 2 cap, iv 400], .slice la 3 capl] ∧ Sl H' sa 2 cap (prc us0) ∧ Sl H' la 3 capl (dlc ds0) ∧ Keep H H' []) Try.func27 B27 N27 Z27 L27 (by simp) ?_
 ·obtain ⟨w, H', h, sa, cap, la, capl, rfl, r⟩ := key; exact ⟨sa, cap, la, capl, H', h, r⟩
 have hk := Keep.refl H []
 refine wN_seq <| wN_alc ?_
 intro H1 kH1 nH1 c1
 have c1 : Cl H1 H.next [.slice none 0 0, iv 0] := c1
 have mH1 := kH1.1
 have hk := hk.trans kH1
 refine wN_mov (v := .slice none 0 0) rfl <| wN_end <| wN_seq <| wN_pur (v := .agg #[iv 30000, iv 500]) rfl (by kernel_rfl) <| wN_pur (v := .agg #[iv 90000, iv 0]) rfl (by kernel_rfl) ?_
 obtain ⟨H2, hH2⟩ : ∃ H2, H1.new (.cells [iv 30000, iv 500, iv 90000, iv 0] 47 false) = H2 := ⟨_, rfl⟩
 refine wN_memh (v := .slice (some ⟨H1.next, 0, none⟩) 2 2) (H' := H2) (k := .heavy) rfl (by kernel_rfl) (Eq.trans (by kernel_rfl : _ = some (Rs.val (.slice (some ⟨H1.next, 0, none⟩) 2 2) (H1.new (.cells [iv 30000, iv 500, iv 90000, iv 0] 47 false)), Kd.heavy)) (by rw [hH2])) (fun b e => by cases e) ?_
 obtain ⟨kH2, nH2, cU⟩ := new_facts hH2; clear hH2
 have mH2 := kH2.1
 have hk := hk.trans kH2
 have c1 := kH2.cl c1 (by simp)
 refine wN_pur (v := .agg #[.slice (some ⟨H1.next, 0, none⟩) 2 2, iv 400]) rfl (by kernel_rfl) <| wN_alc ?_
 intro H3 kH3 nH3 c3
 have c3 : Cl H3 H2.next [.slice none 0 0, iv 0] := c3
 have mH3 := kH3.1
 have hk := hk.trans kH3
 have c1 := kH3.cl c1 (by simp)
 have cU := kH3.cl cU (by simp)
 refine wN_sta (b := H2.next) (o := 0) rfl rfl c3 (by omega) rfl rfl (by simp) ?_
 intro H4 kH4 nH4 sH4
 have mH4 := kH4.1
 have hk := hk.new kH4 (fun b hb => by simp at hb ⊢; omega)
 have c1 := kH4.cl c1 (by first | (simp; done) | (simp; omega))
 have cU := kH4.cl cU (by first | (simp; done) | (simp; omega))
 have c3 : Cl H4 H2.next [.slice (some ⟨H1.next, 0, none⟩) 2 2, iv 400] := sH4
 refine wN_end <| wN_seq <| wN_lda (b := H2.next) (o := 0) rfl c3.rd (show row 2 _ _ = some [.slice (some ⟨H1.next, 0, none⟩) 2 2, iv 400] from rfl) <| wN_pur (v := .agg #[iv 3, iv 1000000, iv 50000000]) rfl (by kernel_rfl) <| wN_pur (v := .agg #[iv 8, iv 500000, iv 75000000]) rfl (by kernel_rfl) <| wN_pur (v := .agg #[iv 3, iv 200000, iv 4000000]) rfl (by kernel_rfl) ?_
 obtain ⟨H5, hH5⟩ : ∃ H5, H4.new (.cells [iv 3, iv 1000000, iv 50000000, iv 8, iv 500000, iv 75000000, iv 3, iv 200000, iv 4000000] 26 false) = H5 := ⟨_, rfl⟩
 refine wN_memh (v := .slice (some ⟨H4.next, 0, none⟩) 3 3) (H' := H5) (k := .heavy) rfl (by kernel_rfl) (Eq.trans (by kernel_rfl : _ = some (Rs.val (.slice (some ⟨H4.next, 0, none⟩) 3 3) (H4.new (.cells [iv 3, iv 1000000, iv 50000000, iv 8, iv 500000, iv 75000000, iv 3, iv 200000, iv 4000000] 26 false)), Kd.heavy)) (by rw [hH5])) (fun b e => by cases e) ?_
 obtain ⟨kH5, nH5, cD⟩ := new_facts hH5; clear hH5
 have mH5 := kH5.1
 have hk := hk.trans kH5
 have c1 := kH5.cl c1 (by simp)
 have cU := kH5.cl cU (by simp)
 have c3 := kH5.cl c3 (by simp)
 refine wN_sta (b := H.next) (o := 0) rfl rfl c1 (by omega) rfl rfl (by simp) ?_
 intro H6 kH6 nH6 sH6
 have mH6 := kH6.1
 have hk := hk.new kH6 (fun b hb => by simp at hb ⊢; omega)
 have cU := kH6.cl cU (by first | (simp; done) | (simp; omega))
 have c3 := kH6.cl c3 (by first | (simp; done) | (simp; omega))
 have cD := kH6.cl cD (by first | (simp; done) | (simp; omega))
 have c1 : Cl H6 H.next [.slice (some ⟨H1.next, 0, none⟩) 2 2, iv 400] := sH6
 refine wN_mov (v := .slice (some ⟨H4.next, 0, none⟩) 3 3) rfl <| wN_end ?_
 exact And.intro trivial (Exists.intro _ (And.intro (res_cv rfl rfl a24 i24s rfl c1) ⟨_, 2, _, 3, rfl, .inr ⟨_, rfl, cU.rd, Nat.le_refl _⟩, .inr ⟨_, rfl, cD.rd, Nat.le_refl _⟩, hk⟩))
end
end
end Go.Ax


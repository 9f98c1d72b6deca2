import Derived.Test.YtocgghpjbaelpaaMb
import Derived.Test.YtocgghpjbaelpaaAxW9
import Derived.Test.YtocgghpjbaelpaaChecked
import Derived.Test.YtocgghpjbaelpaaRows
import Derived.Test.YtocgghpjbaelpaaAxO
import Derived.Deep.Slices
import Derived.Deep.Fields
import Derived.ChangeSame
set_option linter.all false
/-
  Station: the document's Queue, Bays, Visits (written by program).
-/
namespace Go.Ax
open Go Go.RowKit Go.Proofs

theorem prun_bind {P : Program} {α β : Type} (f : α → Sem β) : ∀ (x : Sem α), prun P (x >>= f) = (prun P x).bind fun a => prun P (f a) := by
  intro x
  induction x with
  | pure a => rfl
  | program k ih => exact ih P
  | _ => rfl
theorem prun_pure {α : Type} {P : Program} (a : α) : prun P (pure a : Sem α) = some a := rfl
theorem prun_ite {α : Type} {P : Program} {c : Prop} [Decidable c] (a b : Sem α) : prun P (if c then a else b) = if c then prun P a else prun P b := by split <;> rfl
theorem same_struct {P : Program} {d : Nat} {t : TypeId} {xs : Array Value} {fs : Array Field} (hu : prun P (underlying t) = some (.struct fs)) (hp : P.stoodInHeld t = false)
    (hf : ∀ f ∈ fs.toList, ∃ v, prun P (part f.type xs f.offset) = some v ∧ prun P (Op.equalIn d f.type v v) = some true) :
    prun P (Op.equalIn (d + 1) t (.agg xs) (.agg xs)) = some true := by
  simp only [Op.equalIn, prun_bind, hu, Option.bind_some, show prun P program = some P from rfl, hp, Bool.false_eq_true, if_false]
  rw [← Array.forIn_toList]
  generalize fs.toList = l at hf
  induction l with
  | nil => rfl
  | cons f l ih =>
    obtain ⟨v, h1, h2⟩ := hf f (by simp)
    have ih := ih (fun g hg => hf g (by simp [hg]))
    simp only [List.forIn_cons, prun_bind, prun_ite]
    split
    · simp only [h1, h2, Option.bind_some, Bool.not_true, Bool.false_eq_true, if_false, prun_pure]
      exact ih
    · simp only [prun_pure, Option.bind_some]
      exact ih
theorem same_int {d : Nat} {x : Int} : prun Try.prog (Op.equalIn (d + 1) 3 (iv x) (iv x)) = some true := by
  have h : prun Try.prog (Op.equalIn (d + 1) 3 (iv x) (iv x)) = some (x == x) := by kernel_rfl
  rw [h]; simp
def fldsIn (P : Program) (t : TypeId) : Array Field :=
  match P.underlying t with
  | some (.struct fs) => fs
  | _ => #[]
theorem un47 : prun Try.prog (underlying 47) = some (.struct (fldsIn Try.prog 47)) := by kernel_rfl
theorem fs47 : (fldsIn Try.prog 47).toList.map (fun f => (f.type, f.offset)) = [(3, 0), (3, 1)] := by kernel_rfl
theorem st47 : Program.stoodInHeld Try.prog 47 = false := by kernel_rfl
theorem un52 : prun Try.prog (underlying 52) = some (.struct (fldsIn Try.prog 52)) := by kernel_rfl
theorem fs52 : (fldsIn Try.prog 52).toList.map (fun f => (f.type, f.offset)) = [(47, 0), (47, 2), (47, 4)] := by kernel_rfl
theorem st52 : Program.stoodInHeld Try.prog 52 = false := by kernel_rfl
theorem un38 : prun Try.prog (underlying 38) = some (.struct (fldsIn Try.prog 38)) := by kernel_rfl
theorem fs38 : (fldsIn Try.prog 38).toList.map (fun f => (f.type, f.offset)) = [(3, 0), (3, 1), (3, 2), (3, 3), (3, 4), (3, 5)] := by kernel_rfl
theorem st38 : Program.stoodInHeld Try.prog 38 = false := by kernel_rfl
theorem same_span {d : Nat} {x0 x1 : Int} : prun Try.prog (Op.equalIn (d + 2) 47 (.agg #[iv x0, iv x1]) (.agg #[iv x0, iv x1])) = some true := by
  refine same_struct (xs := #[iv x0, iv x1]) un47 st47 ?_
  intro f hf
  have h : (f.type, f.offset) ∈ [(3, 0), (3, 1)] := by rw [← fs47]; exact List.mem_map.mpr ⟨f, hf, rfl⟩
  simp only [List.mem_cons, List.not_mem_nil, or_false, Prod.mk.injEq] at h
  rcases h with ⟨h1, h2⟩ | ⟨h1, h2⟩ <;> rw [h1, h2]
  · exact ⟨iv x0, by kernel_rfl, same_int⟩
  · exact ⟨iv x1, by kernel_rfl, same_int⟩
theorem same_visit {d : Nat} {x0 x1 x2 x3 x4 x5 : Int} : prun Try.prog (Op.equalIn (d + 3) 52 (.agg #[iv x0, iv x1, iv x2, iv x3, iv x4, iv x5]) (.agg #[iv x0, iv x1, iv x2, iv x3, iv x4, iv x5])) = some true := by
  refine same_struct (xs := #[iv x0, iv x1, iv x2, iv x3, iv x4, iv x5]) un52 st52 ?_
  intro f hf
  have h : (f.type, f.offset) ∈ [(47, 0), (47, 2), (47, 4)] := by rw [← fs52]; exact List.mem_map.mpr ⟨f, hf, rfl⟩
  simp only [List.mem_cons, List.not_mem_nil, or_false, Prod.mk.injEq] at h
  rcases h with ⟨h1, h2⟩ | ⟨h1, h2⟩ | ⟨h1, h2⟩ <;> rw [h1, h2]
  · exact ⟨spv x0 x1, by kernel_rfl, same_span⟩
  · exact ⟨spv x2 x3, by kernel_rfl, same_span⟩
  · exact ⟨spv x4 x5, by kernel_rfl, same_span⟩
theorem same_load {d : Nat} {x0 x1 x2 x3 x4 x5 : Int} : prun Try.prog (Op.equalIn (d + 2) 38 (.agg #[iv x0, iv x1, iv x2, iv x3, iv x4, iv x5]) (.agg #[iv x0, iv x1, iv x2, iv x3, iv x4, iv x5])) = some true := by
  refine same_struct (xs := #[iv x0, iv x1, iv x2, iv x3, iv x4, iv x5]) un38 st38 ?_
  intro f hf
  have h : (f.type, f.offset) ∈ [(3, 0), (3, 1), (3, 2), (3, 3), (3, 4), (3, 5)] := by rw [← fs38]; exact List.mem_map.mpr ⟨f, hf, rfl⟩
  simp only [List.mem_cons, List.not_mem_nil, or_false, Prod.mk.injEq] at h
  rcases h with ⟨h1, h2⟩ | ⟨h1, h2⟩ | ⟨h1, h2⟩ | ⟨h1, h2⟩ | ⟨h1, h2⟩ | ⟨h1, h2⟩ <;> rw [h1, h2]
  · exact ⟨iv x0, by kernel_rfl, same_int⟩
  · exact ⟨iv x1, by kernel_rfl, same_int⟩
  · exact ⟨iv x2, by kernel_rfl, same_int⟩
  · exact ⟨iv x3, by kernel_rfl, same_int⟩
  · exact ⟨iv x4, by kernel_rfl, same_int⟩
  · exact ⟨iv x5, by kernel_rfl, same_int⟩
theorem neq_visit {n : Nat} {S : Rg} {d : Option Tmp} {x y : Operand} {p : String} {ty : TypeId} {x0 x1 x2 x3 x4 x5 : Int} (hx : evS S x = some (.agg #[iv x0, iv x1, iv x2, iv x3, iv x4, iv x5])) (hy : evS S y = some (.agg #[iv x0, iv x1, iv x2, iv x3, iv x4, iv x5])) : pureOp Try.prog (frS n S) ⟨d, .binOp .neq 52 x y 52, ty, p, #[], none⟩ = some (.bool false) := by
  have key : prun Try.prog (do eqGuard .neq 52 x y (.agg #[iv x0, iv x1, iv x2, iv x3, iv x4, iv x5]) (.agg #[iv x0, iv x1, iv x2, iv x3, iv x4, iv x5]); binOp .neq 52 (.agg #[iv x0, iv x1, iv x2, iv x3, iv x4, iv x5]) (.agg #[iv x0, iv x1, iv x2, iv x3, iv x4, iv x5])) = some (.bool false) := by
    rw [prun_bind, show prun Try.prog (eqGuard .neq 52 x y (.agg #[iv x0, iv x1, iv x2, iv x3, iv x4, iv x5]) (.agg #[iv x0, iv x1, iv x2, iv x3, iv x4, iv x5])) = some () from by kernel_rfl, Option.bind_some]
    show prun Try.prog (do pure (Value.bool (!(← Op.equalIn (9997 + 3) 52 (.agg #[iv x0, iv x1, iv x2, iv x3, iv x4, iv x5]) (.agg #[iv x0, iv x1, iv x2, iv x3, iv x4, iv x5]))))) = _
    rw [prun_bind, same_visit]; rfl
  unfold pureOp
  simp only [ev_frS, hx, hy]
  rw [show (flat (.agg #[iv x0, iv x1, iv x2, iv x3, iv x4, iv x5]) && flat (.agg #[iv x0, iv x1, iv x2, iv x3, iv x4, iv x5])) = true from rfl, cond_true, key]
  rfl
theorem eql_load {n : Nat} {S : Rg} {d : Option Tmp} {x y : Operand} {p : String} {ty : TypeId} {x0 x1 x2 x3 x4 x5 : Int} (hx : evS S x = some (.agg #[iv x0, iv x1, iv x2, iv x3, iv x4, iv x5])) (hy : evS S y = some (.agg #[iv x0, iv x1, iv x2, iv x3, iv x4, iv x5])) : pureOp Try.prog (frS n S) ⟨d, .binOp .eql 38 x y 38, ty, p, #[], none⟩ = some (.bool true) := by
  have key : prun Try.prog (do eqGuard .eql 38 x y (.agg #[iv x0, iv x1, iv x2, iv x3, iv x4, iv x5]) (.agg #[iv x0, iv x1, iv x2, iv x3, iv x4, iv x5]); binOp .eql 38 (.agg #[iv x0, iv x1, iv x2, iv x3, iv x4, iv x5]) (.agg #[iv x0, iv x1, iv x2, iv x3, iv x4, iv x5])) = some (.bool true) := by
    rw [prun_bind, show prun Try.prog (eqGuard .eql 38 x y (.agg #[iv x0, iv x1, iv x2, iv x3, iv x4, iv x5]) (.agg #[iv x0, iv x1, iv x2, iv x3, iv x4, iv x5])) = some () from by kernel_rfl, Option.bind_some]
    show prun Try.prog (do pure (Value.bool ((← Op.equalIn (9998 + 2) 38 (.agg #[iv x0, iv x1, iv x2, iv x3, iv x4, iv x5]) (.agg #[iv x0, iv x1, iv x2, iv x3, iv x4, iv x5]))))) = _
    rw [prun_bind, same_load]; rfl
  unfold pureOp
  simp only [ev_frS, hx, hy]
  rw [show (flat (.agg #[iv x0, iv x1, iv x2, iv x3, iv x4, iv x5]) && flat (.agg #[iv x0, iv x1, iv x2, iv x3, iv x4, iv x5])) = true from rfl, cond_true, key]
  rfl
section
variable {kn : FuncId → Option Bool} {lo : Nat} {H : Hp}
end
end Go.Ax

/-
  Station: loads: sums over samples (written by program).
-/
namespace Go.Ax
open Go Go.RowKit

def sm (p : Sm → Int) (l : List Sm) : Int := l.foldl (fun a s => a + p s) 0
theorem sm_from (p : Sm → Int) (l : List Sm) (b : Int) : l.foldl (fun a s => a + p s) b = b + sm p l := by
  induction l generalizing b with
  | nil => simp [sm]
  | cons x l ih => unfold sm; rw [List.foldl_cons, List.foldl_cons, ih, ih]; omega
theorem sm_cons (p : Sm → Int) (x : Sm) (l : List Sm) : sm p (x :: l) = p x + sm p l := by
  show (x :: l).foldl _ 0 = _
  rw [List.foldl_cons, sm_from]; omega
theorem sm_nil (p : Sm → Int) : sm p [] = 0 := rfl
theorem sm_app (p : Sm → Int) (l m : List Sm) : sm p (l ++ m) = sm p l + sm p m := by
  induction l with
  | nil => rw [List.nil_append, sm_nil]; omega
  | cons x l ih => rw [List.cons_append, sm_cons, sm_cons, ih]; omega
theorem sm_step {p : Sm → Int} {l : List Sm} {i : Nat} {x : Sm} (h : l[i]? = some x) : sm p (l.take (i + 1)) = sm p (l.take i) + p x := by
  rw [List.take_add_one, h, sm_app]; simp [sm_cons, sm_nil]
theorem sm_in {p : Sm → Int} {B : Int} : ∀ {l : List Sm}, (∀ x ∈ l, 0 ≤ p x ∧ p x ≤ B) → 0 ≤ sm p l ∧ sm p l ≤ l.length * B
  | [], _ => by simp [sm_nil]
  | x :: l, h => by
    have ih := sm_in (p := p) (B := B) (l := l) (fun y hy => h y (List.mem_cons_of_mem _ hy))
    have := h x (by simp)
    rw [sm_cons, List.length_cons]
    have e : ((l.length + 1 : Nat) : Int) * B = l.length * B + B := by rw [Int.natCast_add, Int.add_mul]; simp
    omega
theorem sm_le {p q : Sm → Int} : ∀ {l : List Sm}, (∀ x ∈ l, p x ≤ q x) → sm p l ≤ sm q l
  | [], _ => by simp [sm_nil]
  | x :: l, h => by
    have ih := sm_le (p := p) (q := q) (l := l) (fun y hy => h y (List.mem_cons_of_mem _ hy))
    have := h x (by simp)
    rw [sm_cons, sm_cons]; omega
theorem sm_add (p q : Sm → Int) (l : List Sm) : sm (fun x => p x + q x) l = sm p l + sm q l := by
  induction l with
  | nil => rfl
  | cons x l ih => rw [sm_cons, sm_cons, sm_cons, ih]; omega
theorem sm_take_in {p : Sm → Int} {B : Int} {l : List Sm} (h : ∀ x ∈ l, 0 ≤ p x ∧ p x ≤ B) (hB : 0 ≤ B) (i : Nat) : 0 ≤ sm p (l.take i) ∧ sm p (l.take i) ≤ l.length * B := by
  have := sm_in (p := p) (B := B) (l := l.take i) (fun x hx => h x (List.mem_of_mem_take hx))
  refine ⟨this.1, Int.le_trans this.2 (Int.mul_le_mul_of_nonneg_right ?_ hB)⟩
  rw [List.length_take]; omega
theorem mul_rng {a b p q : Int} (ha : 0 ≤ a ∧ a ≤ p) (hb : 0 ≤ b ∧ b ≤ q) : 0 ≤ a * b ∧ a * b ≤ p * q :=
  ⟨Int.mul_nonneg ha.1 hb.1, Int.le_trans (Int.mul_le_mul_of_nonneg_right ha.2 hb.1) (Int.mul_le_mul_of_nonneg_left hb.2 (by omega))⟩
def fW (x : Sm) : Int := x.w
def fT (x : Sm) : Int := x.t
def fR (x : Sm) : Int := x.r
def fC (x : Sm) : Int := x.w * x.c
def fF (x : Sm) : Int := x.w * x.m
theorem fC_in {x : Sm} (h : x.ok = true) : 0 ≤ fC x ∧ fC x ≤ 267386880 := by
  have := Sm.ok_t h
  have := mul_rng (a := x.w) (b := x.c) (p := 1048576) (q := 255) (by omega) (by omega)
  unfold fC; omega
theorem fF_in {x : Sm} (h : x.ok = true) : 0 ≤ fF x ∧ fF x ≤ 1048576000 := by
  have := Sm.ok_t h
  have := mul_rng (a := x.w) (b := x.m) (p := 1048576) (q := 1000) (by omega) (by omega)
  unfold fF; omega
theorem fW_in {x : Sm} (h : x.ok = true) : 0 ≤ fW x ∧ fW x ≤ 1048576 := by have := Sm.ok_t h; unfold fW; omega
theorem fT_in {x : Sm} (h : x.ok = true) : 0 ≤ fT x ∧ fT x ≤ 1048576 := by have := Sm.ok_t h; unfold fT; omega
theorem fR_in {x : Sm} (h : x.ok = true) : 0 ≤ fR x ∧ fR x ≤ 1048576 := by have := Sm.ok_t h; unfold fR; omega
namespace Sp
def W (s : Sp) : Int := sm fW s.ss
def T (s : Sp) : Int := sm fT s.ss
def R (s : Sp) : Int := sm fR s.ss
def C (s : Sp) : Int := sm fC s.ss
def F (s : Sp) : Int := sm fF s.ss
def net (s : Sp) : Int := s.gross - s.tare
def good (s : Sp) : Int := s.net * (s.W - s.T - s.R) / s.W
def trash (s : Sp) : Int := s.net * s.T / s.W
def rot (s : Sp) : Int := s.net - s.good - s.trash
def col (s : Sp) : Int := s.good * s.C / s.W
def firm (s : Sp) : Int := s.good * s.F / s.W
end Sp
/-- A load. -/
structure Ld where
  n : Int
  g : Int
  t : Int
  r : Int
  c : Int
  f : Int
abbrev Ld.v (l : Ld) : List Value := [iv l.n, iv l.g, iv l.t, iv l.r, iv l.c, iv l.f]
def Ld.z : Ld := ⟨0, 0, 0, 0, 0, 0⟩
def Sp.load (s : Sp) : Ld := if s.ok then ⟨s.net, s.good, s.trash, s.rot, s.col, s.firm⟩ else Ld.z
def Sp.we (s : Sp) : Int := if s.ok then 0 else 1
/-- what is known of the numbers of a valid slip -/
structure Sp.Nb (s : Sp) : Prop where
  ok : ∀ x ∈ s.ss, x.ok = true
  n : 1 ≤ s.ss.length ∧ s.ss.length ≤ 32
  w : 1 ≤ s.W ∧ s.W ≤ 33554432
  t : 0 ≤ s.T ∧ s.T ≤ 33554432
  r : 0 ≤ s.R ∧ s.R ≤ 33554432
  tr : s.T + s.R ≤ s.W
  c : 0 ≤ s.C ∧ s.C ≤ 8556380160
  f : 0 ≤ s.F ∧ s.F ≤ 33554432000
  gr : 0 ≤ s.gross ∧ s.gross ≤ 134217728
  ta : 0 ≤ s.tare ∧ s.tare ≤ s.gross
  net : 0 ≤ s.net ∧ s.net ≤ 134217728
  p1 : 0 ≤ s.net * (s.W - s.T - s.R) ∧ s.net * (s.W - s.T - s.R) ≤ 4503599627370496
  p2 : 0 ≤ s.net * s.T ∧ s.net * s.T ≤ 4503599627370496
  good : 0 ≤ s.good ∧ s.good ≤ 134217728
  trash : 0 ≤ s.trash ∧ s.trash ≤ 134217728
  gt : s.good + s.trash ≤ s.net
  p3 : 0 ≤ s.good * s.C ∧ s.good * s.C ≤ 1148417904979476480
  p4 : 0 ≤ s.good * s.F ∧ s.good * s.F ≤ 4503599627370496000
theorem div_le_self_mul {a b c : Int} (hc : 0 < c) (ha : 0 ≤ a) (h : b ≤ c) : a * b / c ≤ a := by
  have h1 : a * b ≤ a * c := Int.mul_le_mul_of_nonneg_left h ha
  have h2 : a * b / c ≤ a * c / c := Int.ediv_le_ediv hc h1
  rw [Int.mul_ediv_cancel _ (by omega)] at h2
  exact h2
theorem div_add_le {a b c : Int} (hc : 0 < c) : a / c + b / c ≤ (a + b) / c := by
  refine (Int.le_ediv_iff_mul_le hc).2 ?_
  have h1 := Int.ediv_mul_le a (show c ≠ 0 by omega)
  have h2 := Int.ediv_mul_le b (show c ≠ 0 by omega)
  rw [Int.add_mul]; omega
theorem Sp.nb_of {s : Sp} (h1 : ∀ x ∈ s.ss, x.ok = true) (h2 : 1 ≤ s.ss.length ∧ s.ss.length ≤ 32) (h3 : 0 ≤ s.gross ∧ s.gross ≤ 134217728) (h4 : 0 ≤ s.tare ∧ s.tare ≤ s.gross) : s.Nb := by
  have bW : 0 ≤ s.W ∧ s.W ≤ s.ss.length * 1048576 := sm_in fun x hx => fW_in (h1 x hx)
  have bT : 0 ≤ s.T ∧ s.T ≤ s.ss.length * 1048576 := sm_in fun x hx => fT_in (h1 x hx)
  have bR : 0 ≤ s.R ∧ s.R ≤ s.ss.length * 1048576 := sm_in fun x hx => fR_in (h1 x hx)
  have bC : 0 ≤ s.C ∧ s.C ≤ s.ss.length * 267386880 := sm_in fun x hx => fC_in (h1 x hx)
  have bF : 0 ≤ s.F ∧ s.F ≤ s.ss.length * 1048576000 := sm_in fun x hx => fF_in (h1 x hx)
  have tr : s.T + s.R ≤ s.W := by
    unfold Sp.T Sp.R Sp.W
    rw [← sm_add]
    exact sm_le fun x hx => by have := Sm.ok_t (h1 x hx); unfold fT fR fW; omega
  have w1 : 1 ≤ s.W := by
    obtain ⟨_, _, _, _, _, _, _, _, ss⟩ := s
    cases ss with
    | nil => simp at h2
    | cons x l =>
      have q1 := Sm.ok_t (h1 x (by simp))
      have q2 : 0 ≤ sm fW l ∧ sm fW l ≤ l.length * 1048576 := sm_in fun y hy => fW_in (h1 y (List.mem_cons_of_mem _ hy))
      show 1 ≤ sm fW (x :: l)
      rw [sm_cons]; unfold fW at *; omega
  have net : 0 ≤ s.net ∧ s.net ≤ 134217728 := by unfold Sp.net; omega
  have p1 := mul_rng (a := s.net) (b := s.W - s.T - s.R) (p := 134217728) (q := 33554432) net (by omega)
  have p2 := mul_rng (a := s.net) (b := s.T) (p := 134217728) (q := 33554432) net (by omega)
  have g0 : 0 ≤ s.good := Int.ediv_nonneg p1.1 (by omega)
  have g1 : s.good ≤ s.net := div_le_self_mul (by omega) net.1 (by omega)
  have t0 : 0 ≤ s.trash := Int.ediv_nonneg p2.1 (by omega)
  have t1 : s.trash ≤ s.net := div_le_self_mul (by omega) net.1 (by omega)
  have gt : s.good + s.trash ≤ s.net := by
    have q := div_add_le (a := s.net * (s.W - s.T - s.R)) (b := s.net * s.T) (c := s.W) (by omega)
    have e : s.net * (s.W - s.T - s.R) + s.net * s.T = s.net * (s.W - s.R) := by rw [← Int.mul_add]; congr 1; omega
    rw [e] at q
    have q2 := div_le_self_mul (a := s.net) (b := s.W - s.R) (c := s.W) (by omega) net.1 (by omega)
    unfold Sp.good Sp.trash; omega
  have p3 := mul_rng (a := s.good) (b := s.C) (p := 134217728) (q := 8556380160) (by omega) (by omega)
  have p4 := mul_rng (a := s.good) (b := s.F) (p := 134217728) (q := 33554432000) (by omega) (by omega)
  exact ⟨h1, h2, by omega, by omega, by omega, tr, by omega, by omega, h3, h4, net, by omega, by omega, by omega, by omega, gt, by omega, by omega⟩
theorem Sp.nb {s : Sp} (hl : s.ss.length = s.sn) (h : s.ok = true) : s.Nb := by
  simp only [Sp.ok, Bool.and_eq_true, List.all_eq_true] at h
  obtain ⟨⟨⟨⟨⟨⟨h1, h2⟩, h3⟩, h4⟩, h5⟩, h6⟩, h7⟩ := h
  have h4 := isw_t h4; have h5 := isw_t h5; have h6 := inB_t h6
  exact Sp.nb_of h7 (by omega) h4 h5
end Go.Ax

/-
  Station: Weigh, and the document's (written by program).
-/
namespace Go.Ax
open Go Go.RowKit Go.Proofs

/-- a function that tells a number of a sample -/
def NumF (g : FuncId) (p : Sm → Int) : Prop := ∀ (kn : FuncId → Option Bool) (lo : Nat) (H : Hp) (x : Sm), x.ok = true → ∃ H', FnX Try.prog kn lo g [.agg x.f.toArray] H (iv (p x)) H' ∧ Keep H H' []
theorem num48 : NumF 48 fW := by
  intro kn lo H x hx
  have key := fnX_low (kn := kn) (lo := lo) (H := H) (args := [.agg x.f.toArray]) (Q := fun w H' => w = iv (fW x) ∧ Keep H H' []) Try.func48 B48 N48 Z48 L48 (by simp) ?_
  · obtain ⟨w, H', h, rfl, q⟩ := key; exact ⟨H', h, q⟩
  have hk := Keep.refl H []
  refine wN_seq ?_
  refine wN_box (v := .agg x.f.toArray) rfl ?_
  intro H1 kH1 nH1 c1
  have c1 : Cl H1 H.next [iv x.w, iv x.t, iv x.r, iv x.c, iv x.m] := c1
  have mH1 := kH1.1
  have hk := hk.trans kH1
  refine wN_mov (v := iv 0) rfl ?_
  refine wN_end ?_
  refine wN_seq ?_
  refine wN_addo (b := H.next) (o := 0) rfl ?_
  refine wN_ld (b := H.next) (o := 0) (v := iv x.w) rfl c1.rd rfl ?_
  refine wN_mov (v := iv x.w) rfl ?_
  refine wN_end ?_
  exact And.intro trivial (Exists.intro _ (And.intro rfl ⟨rfl, hk⟩))
theorem num49 : NumF 49 fT := by
  intro kn lo H x hx
  have key := fnX_low (kn := kn) (lo := lo) (H := H) (args := [.agg x.f.toArray]) (Q := fun w H' => w = iv (fT x) ∧ Keep H H' []) Try.func49 B49 N49 Z49 L49 (by simp) ?_
  · obtain ⟨w, H', h, rfl, q⟩ := key; exact ⟨H', h, q⟩
  have hk := Keep.refl H []
  refine wN_seq ?_
  refine wN_box (v := .agg x.f.toArray) rfl ?_
  intro H1 kH1 nH1 c1
  have c1 : Cl H1 H.next [iv x.w, iv x.t, iv x.r, iv x.c, iv x.m] := c1
  have mH1 := kH1.1
  have hk := hk.trans kH1
  refine wN_mov (v := iv 0) rfl ?_
  refine wN_end ?_
  refine wN_seq ?_
  refine wN_addo (b := H.next) (o := 0) rfl ?_
  refine wN_ld (b := H.next) (o := 1) (v := iv x.t) rfl c1.rd rfl ?_
  refine wN_mov (v := iv x.t) rfl ?_
  refine wN_end ?_
  exact And.intro trivial (Exists.intro _ (And.intro rfl ⟨rfl, hk⟩))
theorem num50 : NumF 50 fR := by
  intro kn lo H x hx
  have key := fnX_low (kn := kn) (lo := lo) (H := H) (args := [.agg x.f.toArray]) (Q := fun w H' => w = iv (fR x) ∧ Keep H H' []) Try.func50 B50 N50 Z50 L50 (by simp) ?_
  · obtain ⟨w, H', h, rfl, q⟩ := key; exact ⟨H', h, q⟩
  have hk := Keep.refl H []
  refine wN_seq ?_
  refine wN_box (v := .agg x.f.toArray) rfl ?_
  intro H1 kH1 nH1 c1
  have c1 : Cl H1 H.next [iv x.w, iv x.t, iv x.r, iv x.c, iv x.m] := c1
  have mH1 := kH1.1
  have hk := hk.trans kH1
  refine wN_mov (v := iv 0) rfl ?_
  refine wN_end ?_
  refine wN_seq ?_
  refine wN_addo (b := H.next) (o := 0) rfl ?_
  refine wN_ld (b := H.next) (o := 2) (v := iv x.r) rfl c1.rd rfl ?_
  refine wN_mov (v := iv x.r) rfl ?_
  refine wN_end ?_
  exact And.intro trivial (Exists.intro _ (And.intro rfl ⟨rfl, hk⟩))
theorem num51 : NumF 51 fC := by
  intro kn lo H x hx
  have key := fnX_low (kn := kn) (lo := lo) (H := H) (args := [.agg x.f.toArray]) (Q := fun w H' => w = iv (fC x) ∧ Keep H H' []) Try.func51 B51 N51 Z51 L51 (by simp) ?_
  · obtain ⟨w, H', h, rfl, q⟩ := key; exact ⟨H', h, q⟩
  have hk := Keep.refl H []
  have hb := fC_in hx
  unfold fC at hb
  refine wN_seq ?_
  refine wN_box (v := .agg x.f.toArray) rfl ?_
  intro H1 kH1 nH1 c1
  have c1 : Cl H1 H.next [iv x.w, iv x.t, iv x.r, iv x.c, iv x.m] := c1
  have mH1 := kH1.1
  have hk := hk.trans kH1
  refine wN_mov (v := iv 0) rfl ?_
  refine wN_end ?_
  refine wN_seq ?_
  refine wN_addo (b := H.next) (o := 0) rfl ?_
  refine wN_ld (b := H.next) (o := 0) (v := iv x.w) rfl c1.rd rfl ?_
  refine wN_addo (b := H.next) (o := 0) rfl ?_
  refine wN_ld (b := H.next) (o := 3) (v := iv x.c) rfl c1.rd rfl ?_
  refine wN_mul (a := x.w) (b := x.c) rfl rfl ⟨by omega, by omega⟩ ?_
  refine wN_mov (v := iv (x.w * x.c)) rfl ?_
  refine wN_end ?_
  exact And.intro trivial (Exists.intro _ (And.intro rfl ⟨rfl, hk⟩))
theorem num52 : NumF 52 fF := by
  intro kn lo H x hx
  have key := fnX_low (kn := kn) (lo := lo) (H := H) (args := [.agg x.f.toArray]) (Q := fun w H' => w = iv (fF x) ∧ Keep H H' []) Try.func52 B52 N52 Z52 L52 (by simp) ?_
  · obtain ⟨w, H', h, rfl, q⟩ := key; exact ⟨H', h, q⟩
  have hk := Keep.refl H []
  have hb := fF_in hx
  unfold fF at hb
  refine wN_seq ?_
  refine wN_box (v := .agg x.f.toArray) rfl ?_
  intro H1 kH1 nH1 c1
  have c1 : Cl H1 H.next [iv x.w, iv x.t, iv x.r, iv x.c, iv x.m] := c1
  have mH1 := kH1.1
  have hk := hk.trans kH1
  refine wN_mov (v := iv 0) rfl ?_
  refine wN_end ?_
  refine wN_seq ?_
  refine wN_addo (b := H.next) (o := 0) rfl ?_
  refine wN_ld (b := H.next) (o := 0) (v := iv x.w) rfl c1.rd rfl ?_
  refine wN_addo (b := H.next) (o := 0) rfl ?_
  refine wN_ld (b := H.next) (o := 4) (v := iv x.m) rfl c1.rd rfl ?_
  refine wN_mul (a := x.w) (b := x.m) rfl rfl ⟨by omega, by omega⟩ ?_
  refine wN_mov (v := iv (x.w * x.m)) rfl ?_
  refine wN_end ?_
  exact And.intro trivial (Exists.intro _ (And.intro rfl ⟨rfl, hk⟩))
section
variable {kn : FuncId → Option Bool} {lo : Nat} {H : Hp}
/-- sum -/
theorem sum47_ok {g : FuncId} {p : Sm → Int} {B : Int} (hg : NumF g p) {sa : Option Addr} {n cap : Nat} {us : List Sm} (hs0 : Sl H sa n cap (smc us)) (hl : us.length = n) (hn : n ≤ 32) (hok : ∀ x ∈ us, x.ok = true) (hp : ∀ x ∈ us, 0 ≤ p x ∧ p x ≤ B) (hB : 0 ≤ B ∧ B ≤ 2000000000) (hlo : lo ≤ H.next) :
    ∃ H', FnX Try.prog kn lo 47 [.slice sa n cap, .func (.func g) #[] #[]] H (iv (sm p us)) H' ∧ Keep H H' [] := by
  have key := fnX_low (kn := kn) (lo := lo) (H := H) (args := [.slice sa n cap, .func (.func g) #[] #[]]) (Q := fun w H' => w = iv (sm p us) ∧ Keep H H' []) Try.func47 B47 N47 Z47 L47 (by simp) ?_
  · obtain ⟨w, H', h, rfl, q⟩ := key; exact ⟨H', h, q⟩
  have hk := Keep.refl H []
  have hs := hs0
  have hnB : us.length * B ≤ 32 * B := Int.mul_le_mul_of_nonneg_right (by omega) hB.1
  refine wN_seq ?_
  refine wN_mov (v := iv 0) rfl ?_
  refine wN_end ?_
  refine wN_seq ?_
  refine wN_mov (v := iv 0) rfl ?_
  refine wN_end ?_
  refine wN_seq ?_
  refine wN_mov (v := .slice sa n cap) rfl ?_
  refine wN_len (m := n) rfl ?_
  refine wN_mov (v := iv 0) rfl ?_
  refine wN_end ?_
  refine loop_low (fn := Try.f47) E47_1 N47 L47x1 (fun i : Nat => [(1, .func (.func g) #[] #[]), (5, iv (sm p (us.take i))), (8, .slice sa n cap), (9, iv (n : Int)), (10, iv (i : Int))])
    (fun k i H' => i + k = n ∧ Keep H H' []) n 0 ⟨by omega, Keep.refl _ _⟩ ⟨rfl, rfl, rfl, rfl, rfl, trivial⟩ ?_
  rintro k i L1 ⟨hik, hk⟩
  have hs := hk.sl0 hs0
  have mk0 := hk.1
  refine wN_seq ?_
  refine wN_c_lss (a := (i : Int)) (b := (n : Int)) rfl rfl ?_
  refine wN_end ?_
  refine And.intro (fun q1 => ?_) (fun q1 => ?_)
  · have q1 : (i : Int) < (n : Int) := of_decide_eq_true q1
    have hi : i < n := by omega
    obtain ⟨x, hx⟩ := get_some (l := us) (i := i) (by omega)
    rcases hs with ⟨_, h0, _⟩ | ⟨sb, rfl, rsb, _⟩
    · omega
    have lsb := rsb.lt
    have xo := hok x (List.mem_of_getElem? hx)
    have b1 := sm_take_in hp (by omega) i
    have b2 := hp x (List.mem_of_getElem? hx)
    first | refine wN_skip ?_ | skip
    refine wN_seq ?_
    refine wN_idx (b := sb) (o := 0) (k := i) (j := (i : Int)) rfl rfl rfl hi ?_
    refine wN_lda (b := sb) (o := 0 + i * 5) rfl rsb (smc_row hx) ?_
    refine wN_alc ?_
    intro H1 kH1 nH1 c1
    have c1 : Cl H1 L1.next [iv 0, iv 0, iv 0, iv 0, iv 0] := c1
    have mH1 := kH1.1
    have hk := hk.trans kH1
    have rsb := kH1.rd rsb (by simp)
    refine wN_sta (b := L1.next) (o := 0) rfl rfl c1 (by omega) rfl rfl (by simp) ?_
    intro H2 kH2 nH2 sH2
    have mH2 := kH2.1
    have hk := hk.new kH2 (fun b hb => by simp at hb ⊢; omega)
    have rsb := kH2.rd rsb (by first | (simp; done) | (simp; omega))
    have c1 : Cl H2 L1.next [iv x.w, iv x.t, iv x.r, iv x.c, iv x.m] := sH2
    refine wN_end ?_
    first | refine wN_reg ?_ | refine wN_blk ?_ | refine wN_bseq ?_ | (refine wOps_nil ?_; refine wN_reg ?_)
    refine wN_mov (v := iv (sm p (us.take i))) rfl ?_
    refine wN_mov (v := .func (.func g) #[] #[]) rfl ?_
    refine wN_lda (b := L1.next) (o := 0) rfl c1.rd (show row 5 _ _ = some [iv x.w, iv x.t, iv x.r, iv x.c, iv x.m] from rfl) ?_
    obtain ⟨H3, fH3, kH3⟩ := hg kn lo H2 x xo
    refine wN_callf (vs := [.agg x.f.toArray]) rfl (callX_func rfl (by simpa using fH3)) ?_
    have mH3 := kH3.1
    have hk := hk.trans kH3
    have rsb := kH3.rd rsb (by simp)
    have c1 := kH3.cl c1 (by simp)
    refine wN_add (a := (sm p (us.take i))) (b := (p x)) rfl rfl ⟨by omega, by omega⟩ ?_
    refine wN_mov (v := iv ((sm p (us.take i)) + (p x))) rfl ?_
    refine wN_end ?_
    first | refine wN_reg ?_ | refine wN_blk ?_ | refine wN_bseq ?_ | (refine wOps_nil ?_; refine wN_reg ?_)
    refine wN_add (a := (i : Int)) (b := 1) rfl rfl ⟨by omega, by omega⟩ ?_
    refine wN_mov (v := iv ((i : Int) + 1)) rfl ?_
    refine wN_end ?_
    exact ⟨k - 1, i + 1, by omega, ⟨by omega, hk⟩, rfl, by rw [sm_step hx]; rfl, rfl, rfl, rfl, trivial⟩
  · have q1 : ¬ ((i : Int) < (n : Int)) := of_decide_eq_false q1
    refine wN_seq ?_
    refine wN_mov (v := iv (sm p (us.take i))) rfl ?_
    refine wN_mov (v := iv (sm p (us.take i))) rfl ?_
    refine wN_end ?_
    exact And.intro trivial (Exists.intro _ (And.intro rfl ⟨by rw [List.take_of_length_le (by omega)]; rfl, hk⟩))
/-- loadOf -/
theorem load33_ok {s : Sp} (nb : s.Nb) (hs : Sl H s.sa s.sn s.scap (smc s.ss)) (hl : s.ss.length = s.sn) (hlo : lo ≤ H.next) : ∃ H', FnX Try.prog kn lo 33 [.agg s.v.toArray] H (.agg #[iv s.net, iv s.good, iv s.trash, iv s.rot, iv s.col, iv s.firm]) H' ∧ Keep H H' [] := by
  have key := fnX_low (kn := kn) (lo := lo) (H := H) (args := [.agg s.v.toArray]) (Q := fun w H' => w = .agg #[iv s.net, iv s.good, iv s.trash, iv s.rot, iv s.col, iv s.firm] ∧ Keep H H' []) Try.func33 B33 N33 Z33 L33 (by simp) ?_
  · obtain ⟨w, H', h, rfl, q⟩ := key; exact ⟨H', h, q⟩
  have hk := Keep.refl H []
  have fs : ∀ b, s.sa = some ⟨b, 0, none⟩ → b < H.next := hs.old
  obtain ⟨nok, nn, nw, nt, nr, ntr, nc, nf, ngr, nta, nnet, np1, np2, ngood, ntrash, ngt, np3, np4⟩ := id nb
  refine wN_seq ?_
  refine wN_box (v := .agg s.v.toArray) rfl ?_
  intro H1 kH1 nH1 c1
  have c1 : Cl H1 H.next [iv s.gr, iv s.bed, iv s.day, iv s.gross, iv s.tare, .slice s.sa s.sn s.scap] := c1
  have mH1 := kH1.1
  have hk := hk.trans kH1
  have hs := kH1.sl0 hs
  refine wN_alc ?_
  intro H2 kH2 nH2 c2
  have c2 : Cl H2 H1.next [iv 0, iv 0, iv 0, iv 0, iv 0, iv 0] := c2
  have mH2 := kH2.1
  have hk := hk.trans kH2
  have hs := kH2.sl0 hs
  have c1 := kH2.cl c1 (by simp)
  refine wN_end ?_
  refine wN_seq ?_
  refine wN_addo (b := H.next) (o := 0) rfl ?_
  refine wN_ld (b := H.next) (o := 5) (v := .slice s.sa s.sn s.scap) rfl c1.rd rfl ?_
  obtain ⟨H3, fH3, kH3⟩ := sum47_ok (kn := kn) (lo := lo) (H := H2) (B := 1048576) num48 hs hl (by omega) nb.ok (fun x hx => fW_in (nb.ok x hx)) (by omega) (by omega)
  refine wN_callf (vs := [.slice s.sa s.sn s.scap, .func (.func 48) #[] #[]]) rfl (callX_args fH3) ?_
  have mH3 := kH3.1
  have hk := hk.trans kH3
  have hs := kH3.sl0 hs
  have c1 := kH3.cl c1 (by simp)
  have c2 := kH3.cl c2 (by simp)
  refine wN_mov (v := iv s.W) rfl ?_
  refine wN_end ?_
  refine wN_seq ?_
  refine wN_addo (b := H.next) (o := 0) rfl ?_
  refine wN_ld (b := H.next) (o := 5) (v := .slice s.sa s.sn s.scap) rfl c1.rd rfl ?_
  obtain ⟨H4, fH4, kH4⟩ := sum47_ok (kn := kn) (lo := lo) (H := H3) (B := 1048576) num49 hs hl (by omega) nb.ok (fun x hx => fT_in (nb.ok x hx)) (by omega) (by omega)
  refine wN_callf (vs := [.slice s.sa s.sn s.scap, .func (.func 49) #[] #[]]) rfl (callX_args fH4) ?_
  have mH4 := kH4.1
  have hk := hk.trans kH4
  have hs := kH4.sl0 hs
  have c1 := kH4.cl c1 (by simp)
  have c2 := kH4.cl c2 (by simp)
  refine wN_mov (v := iv s.T) rfl ?_
  refine wN_end ?_
  refine wN_seq ?_
  refine wN_addo (b := H.next) (o := 0) rfl ?_
  refine wN_ld (b := H.next) (o := 5) (v := .slice s.sa s.sn s.scap) rfl c1.rd rfl ?_
  obtain ⟨H5, fH5, kH5⟩ := sum47_ok (kn := kn) (lo := lo) (H := H4) (B := 1048576) num50 hs hl (by omega) nb.ok (fun x hx => fR_in (nb.ok x hx)) (by omega) (by omega)
  refine wN_callf (vs := [.slice s.sa s.sn s.scap, .func (.func 50) #[] #[]]) rfl (callX_args fH5) ?_
  have mH5 := kH5.1
  have hk := hk.trans kH5
  have hs := kH5.sl0 hs
  have c1 := kH5.cl c1 (by simp)
  have c2 := kH5.cl c2 (by simp)
  refine wN_mov (v := iv s.R) rfl ?_
  refine wN_end ?_
  refine wN_seq ?_
  refine wN_addo (b := H.next) (o := 0) rfl ?_
  refine wN_ld (b := H.next) (o := 5) (v := .slice s.sa s.sn s.scap) rfl c1.rd rfl ?_
  obtain ⟨H6, fH6, kH6⟩ := sum47_ok (kn := kn) (lo := lo) (H := H5) (B := 267386880) num51 hs hl (by omega) nb.ok (fun x hx => fC_in (nb.ok x hx)) (by omega) (by omega)
  refine wN_callf (vs := [.slice s.sa s.sn s.scap, .func (.func 51) #[] #[]]) rfl (callX_args fH6) ?_
  have mH6 := kH6.1
  have hk := hk.trans kH6
  have hs := kH6.sl0 hs
  have c1 := kH6.cl c1 (by simp)
  have c2 := kH6.cl c2 (by simp)
  refine wN_mov (v := iv s.C) rfl ?_
  refine wN_end ?_
  refine wN_seq ?_
  refine wN_addo (b := H.next) (o := 0) rfl ?_
  refine wN_ld (b := H.next) (o := 5) (v := .slice s.sa s.sn s.scap) rfl c1.rd rfl ?_
  obtain ⟨H7, fH7, kH7⟩ := sum47_ok (kn := kn) (lo := lo) (H := H6) (B := 1048576000) num52 hs hl (by omega) nb.ok (fun x hx => fF_in (nb.ok x hx)) (by omega) (by omega)
  refine wN_callf (vs := [.slice s.sa s.sn s.scap, .func (.func 52) #[] #[]]) rfl (callX_args fH7) ?_
  have mH7 := kH7.1
  have hk := hk.trans kH7
  have hs := kH7.sl0 hs
  have c1 := kH7.cl c1 (by simp)
  have c2 := kH7.cl c2 (by simp)
  refine wN_mov (v := iv s.F) rfl ?_
  refine wN_end ?_
  refine wN_seq ?_
  refine wN_addo (b := H.next) (o := 0) rfl ?_
  refine wN_ld (b := H.next) (o := 3) (v := iv s.gross) rfl c1.rd rfl ?_
  refine wN_addo (b := H.next) (o := 0) rfl ?_
  refine wN_ld (b := H.next) (o := 4) (v := iv s.tare) rfl c1.rd rfl ?_
  refine wN_sub (a := s.gross) (b := s.tare) rfl rfl ⟨by omega, by omega⟩ ?_
  refine wN_pur (v := .agg #[iv s.net, iv 0, iv 0, iv 0, iv 0, iv 0]) rfl (by kernel_rfl) ?_
  refine wN_alc ?_
  intro H8 kH8 nH8 c8
  have c8 : Cl H8 H7.next [iv 0, iv 0, iv 0, iv 0, iv 0, iv 0] := c8
  have mH8 := kH8.1
  have hk := hk.trans kH8
  have hs := kH8.sl0 hs
  have c1 := kH8.cl c1 (by simp)
  have c2 := kH8.cl c2 (by simp)
  refine wN_sta (b := H7.next) (o := 0) rfl rfl c8 (by omega) rfl rfl (by simp) ?_
  intro H9 kH9 nH9 sH9
  have mH9 := kH9.1
  have hk := hk.new kH9 (fun b hb => by simp at hb ⊢; omega)
  have hs := kH9.sl hs (fun b e => by have := fs b e; first | (simp; done) | (simp; omega))
  have c1 := kH9.cl c1 (by first | (simp; done) | (simp; omega))
  have c2 := kH9.cl c2 (by first | (simp; done) | (simp; omega))
  have c8 : Cl H9 H7.next [iv s.net, iv 0, iv 0, iv 0, iv 0, iv 0] := sH9
  refine wN_end ?_
  refine wN_seq ?_
  refine wN_addo (b := H7.next) (o := 0) rfl ?_
  refine wN_ld (b := H7.next) (o := 0) (v := iv s.net) rfl c8.rd rfl ?_
  refine wN_mov (v := iv s.W) rfl ?_
  refine wN_mov (v := iv s.T) rfl ?_
  refine wN_sub (a := s.W) (b := s.T) rfl rfl ⟨by omega, by omega⟩ ?_
  refine wN_mov (v := iv s.R) rfl ?_
  refine wN_sub (a := (s.W - s.T)) (b := s.R) rfl rfl ⟨by omega, by omega⟩ ?_
  refine wN_mul (a := s.net) (b := (s.W - s.T - s.R)) rfl rfl ⟨by omega, by omega⟩ ?_
  refine wN_mov (v := iv s.W) rfl ?_
  refine wN_quo (a := (s.net * (s.W - s.T - s.R))) (b := s.W) rfl rfl (by omega) (by omega) ⟨by omega, by omega⟩ ?_
  refine wN_addo (b := H7.next) (o := 0) rfl ?_
  refine wN_st (b := H7.next) (o := 1) rfl rfl c8 (by omega) rfl rfl (by simp) ?_
  intro H10 kH10 nH10 sH10
  have mH10 := kH10.1
  have hk := hk.new kH10 (fun b hb => by simp at hb ⊢; omega)
  have hs := kH10.sl hs (fun b e => by have := fs b e; first | (simp; done) | (simp; omega))
  have c1 := kH10.cl c1 (by first | (simp; done) | (simp; omega))
  have c2 := kH10.cl c2 (by first | (simp; done) | (simp; omega))
  have c8 : Cl H10 H7.next [iv s.net, iv s.good, iv 0, iv 0, iv 0, iv 0] := sH10
  refine wN_end ?_
  refine wN_seq ?_
  refine wN_addo (b := H7.next) (o := 0) rfl ?_
  refine wN_ld (b := H7.next) (o := 0) (v := iv s.net) rfl c8.rd rfl ?_
  refine wN_mov (v := iv s.T) rfl ?_
  refine wN_mul (a := s.net) (b := s.T) rfl rfl ⟨by omega, by omega⟩ ?_
  refine wN_mov (v := iv s.W) rfl ?_
  refine wN_quo (a := (s.net * s.T)) (b := s.W) rfl rfl (by omega) (by omega) ⟨by omega, by omega⟩ ?_
  refine wN_addo (b := H7.next) (o := 0) rfl ?_
  refine wN_st (b := H7.next) (o := 2) rfl rfl c8 (by omega) rfl rfl (by simp) ?_
  intro H11 kH11 nH11 sH11
  have mH11 := kH11.1
  have hk := hk.new kH11 (fun b hb => by simp at hb ⊢; omega)
  have hs := kH11.sl hs (fun b e => by have := fs b e; first | (simp; done) | (simp; omega))
  have c1 := kH11.cl c1 (by first | (simp; done) | (simp; omega))
  have c2 := kH11.cl c2 (by first | (simp; done) | (simp; omega))
  have c8 : Cl H11 H7.next [iv s.net, iv s.good, iv s.trash, iv 0, iv 0, iv 0] := sH11
  refine wN_end ?_
  refine wN_seq ?_
  refine wN_addo (b := H7.next) (o := 0) rfl ?_
  refine wN_ld (b := H7.next) (o := 0) (v := iv s.net) rfl c8.rd rfl ?_
  refine wN_addo (b := H7.next) (o := 0) rfl ?_
  refine wN_ld (b := H7.next) (o := 1) (v := iv s.good) rfl c8.rd rfl ?_
  refine wN_sub (a := s.net) (b := s.good) rfl rfl ⟨by omega, by omega⟩ ?_
  refine wN_addo (b := H7.next) (o := 0) rfl ?_
  refine wN_ld (b := H7.next) (o := 2) (v := iv s.trash) rfl c8.rd rfl ?_
  refine wN_sub (a := (s.net - s.good)) (b := s.trash) rfl rfl ⟨by omega, by omega⟩ ?_
  refine wN_addo (b := H7.next) (o := 0) rfl ?_
  refine wN_st (b := H7.next) (o := 3) rfl rfl c8 (by omega) rfl rfl (by simp) ?_
  intro H12 kH12 nH12 sH12
  have mH12 := kH12.1
  have hk := hk.new kH12 (fun b hb => by simp at hb ⊢; omega)
  have hs := kH12.sl hs (fun b e => by have := fs b e; first | (simp; done) | (simp; omega))
  have c1 := kH12.cl c1 (by first | (simp; done) | (simp; omega))
  have c2 := kH12.cl c2 (by first | (simp; done) | (simp; omega))
  have c8 : Cl H12 H7.next [iv s.net, iv s.good, iv s.trash, iv s.rot, iv 0, iv 0] := sH12
  refine wN_end ?_
  refine wN_seq ?_
  refine wN_addo (b := H7.next) (o := 0) rfl ?_
  refine wN_ld (b := H7.next) (o := 1) (v := iv s.good) rfl c8.rd rfl ?_
  refine wN_mov (v := iv s.C) rfl ?_
  refine wN_mul (a := s.good) (b := s.C) rfl rfl ⟨by omega, by omega⟩ ?_
  refine wN_mov (v := iv s.W) rfl ?_
  refine wN_quo (a := (s.good * s.C)) (b := s.W) rfl rfl (by omega) (by omega) ⟨by omega, by omega⟩ ?_
  refine wN_addo (b := H7.next) (o := 0) rfl ?_
  refine wN_st (b := H7.next) (o := 4) rfl rfl c8 (by omega) rfl rfl (by simp) ?_
  intro H13 kH13 nH13 sH13
  have mH13 := kH13.1
  have hk := hk.new kH13 (fun b hb => by simp at hb ⊢; omega)
  have hs := kH13.sl hs (fun b e => by have := fs b e; first | (simp; done) | (simp; omega))
  have c1 := kH13.cl c1 (by first | (simp; done) | (simp; omega))
  have c2 := kH13.cl c2 (by first | (simp; done) | (simp; omega))
  have c8 : Cl H13 H7.next [iv s.net, iv s.good, iv s.trash, iv s.rot, iv s.col, iv 0] := sH13
  refine wN_end ?_
  refine wN_seq ?_
  refine wN_addo (b := H7.next) (o := 0) rfl ?_
  refine wN_ld (b := H7.next) (o := 1) (v := iv s.good) rfl c8.rd rfl ?_
  refine wN_mov (v := iv s.F) rfl ?_
  refine wN_mul (a := s.good) (b := s.F) rfl rfl ⟨by omega, by omega⟩ ?_
  refine wN_mov (v := iv s.W) rfl ?_
  refine wN_quo (a := (s.good * s.F)) (b := s.W) rfl rfl (by omega) (by omega) ⟨by omega, by omega⟩ ?_
  refine wN_addo (b := H7.next) (o := 0) rfl ?_
  refine wN_st (b := H7.next) (o := 5) rfl rfl c8 (by omega) rfl rfl (by simp) ?_
  intro H14 kH14 nH14 sH14
  have mH14 := kH14.1
  have hk := hk.new kH14 (fun b hb => by simp at hb ⊢; omega)
  have hs := kH14.sl hs (fun b e => by have := fs b e; first | (simp; done) | (simp; omega))
  have c1 := kH14.cl c1 (by first | (simp; done) | (simp; omega))
  have c2 := kH14.cl c2 (by first | (simp; done) | (simp; omega))
  have c8 : Cl H14 H7.next [iv s.net, iv s.good, iv s.trash, iv s.rot, iv s.col, iv s.firm] := sH14
  refine wN_end ?_
  refine wN_seq ?_
  refine wN_lda (b := H7.next) (o := 0) rfl c8.rd (show row 6 _ _ = some [iv s.net, iv s.good, iv s.trash, iv s.rot, iv s.col, iv s.firm] from rfl) ?_
  refine wN_sta (b := H1.next) (o := 0) rfl rfl c2 (by omega) rfl rfl (by simp) ?_
  intro H15 kH15 nH15 sH15
  have mH15 := kH15.1
  have hk := hk.new kH15 (fun b hb => by simp at hb ⊢; omega)
  have hs := kH15.sl hs (fun b e => by have := fs b e; first | (simp; done) | (simp; omega))
  have c1 := kH15.cl c1 (by first | (simp; done) | (simp; omega))
  have c8 := kH15.cl c8 (by first | (simp; done) | (simp; omega))
  have c2 : Cl H15 H1.next [iv s.net, iv s.good, iv s.trash, iv s.rot, iv s.col, iv s.firm] := sH15
  refine wN_end ?_
  exact And.intro trivial (Exists.intro _ (And.intro (res_cell rfl a38 i38s rfl c2) ⟨rfl, hk⟩))
/-- Weigh -/
theorem weigh17_ok {s : Sp} (hs : Sl H s.sa s.sn s.scap (smc s.ss)) (hl : s.ss.length = s.sn) (hlo : lo ≤ H.next) : ∃ H', FnX Try.prog kn lo 17 [.agg s.v.toArray] H (.tuple #[.agg s.load.v.toArray, iv s.we]) H' ∧ Keep H H' [] := by
  have key := fnX_low (kn := kn) (lo := lo) (H := H) (args := [.agg s.v.toArray]) (Q := fun w H' => w = .tuple #[.agg s.load.v.toArray, iv s.we] ∧ Keep H H' []) Try.func17 B17 N17 Z17 L17 (by simp) ?_
  · obtain ⟨w, H', h, rfl, q⟩ := key; exact ⟨H', h, q⟩
  have hk := Keep.refl H []
  have fs : ∀ b, s.sa = some ⟨b, 0, none⟩ → b < H.next := hs.old
  refine wN_seq ?_
  refine wN_box (v := .agg s.v.toArray) rfl ?_
  intro H1 kH1 nH1 c1
  have c1 : Cl H1 H.next [iv s.gr, iv s.bed, iv s.day, iv s.gross, iv s.tare, .slice s.sa s.sn s.scap] := c1
  have mH1 := kH1.1
  have hk := hk.trans kH1
  have hs := kH1.sl0 hs
  refine wN_alc ?_
  intro H2 kH2 nH2 c2
  have c2 : Cl H2 H1.next [iv 0, iv 0, iv 0, iv 0, iv 0, iv 0] := c2
  have mH2 := kH2.1
  have hk := hk.trans kH2
  have hs := kH2.sl0 hs
  have c1 := kH2.cl c1 (by simp)
  refine wN_mov (v := iv 0) rfl ?_
  refine wN_end ?_
  refine wN_seq ?_
  refine wN_lda (b := H.next) (o := 0) rfl c1.rd (show row 6 _ _ = some [iv s.gr, iv s.bed, iv s.day, iv s.gross, iv s.tare, .slice s.sa s.sn s.scap] from rfl) ?_
  refine wN_callB rfl (valid32_ok hs hl) ?_
  intro tH3 H3 hH3 kH3
  have mH3 := kH3.1
  have hk := hk.trans kH3
  have hs := kH3.sl0 hs
  have c1 := kH3.cl c1 (by simp)
  have c2 := kH3.cl c2 (by simp)
  cases tH3
  · have hok : s.ok = false := hH3
    refine wN_pur (v := .bool true) rfl rfl ?_
    refine wN_end ?_
    refine condT ?_
    refine wN_seq ?_
    refine wN_pur (v := .agg #[iv 0, iv 0, iv 0, iv 0, iv 0, iv 0]) rfl (by kernel_rfl) ?_
    refine wN_sta (b := H1.next) (o := 0) rfl rfl c2 (by omega) rfl rfl (by simp) ?_
    intro H4 kH4 nH4 sH4
    have mH4 := kH4.1
    have hk := hk.new kH4 (fun b hb => by simp at hb ⊢; omega)
    have hs := kH4.sl hs (fun b e => by have := fs b e; first | (simp; done) | (simp; omega))
    have c1 := kH4.cl c1 (by first | (simp; done) | (simp; omega))
    have c2 : Cl H4 H1.next [iv 0, iv 0, iv 0, iv 0, iv 0, iv 0] := sH4
    refine wN_mov (v := iv 1) rfl ?_
    refine wN_end ?_
    have e1 : s.load = Ld.z := by unfold Sp.load; rw [if_neg (by rw [hok]; decide)]
    have e2 : s.we = 1 := by unfold Sp.we; rw [if_neg (by rw [hok]; decide)]
    exact And.intro trivial (Exists.intro _ (And.intro (res_ct rfl a38 i38s rfl c2 rfl) ⟨by rw [e1, e2]; rfl, hk⟩))
  · have hok : s.ok = true := hH3
    refine wN_pur (v := .bool false) rfl rfl ?_
    refine wN_end ?_
    refine condF ?_
    first | refine wN_skip ?_ | skip
    refine wN_seq ?_
    refine wN_lda (b := H.next) (o := 0) rfl c1.rd (show row 6 _ _ = some [iv s.gr, iv s.bed, iv s.day, iv s.gross, iv s.tare, .slice s.sa s.sn s.scap] from rfl) ?_
    obtain ⟨H5, fH5, kH5⟩ := load33_ok (kn := kn) (lo := lo) (H := H3) (Sp.nb hl hok) hs hl (by omega)
    refine wN_callf (vs := [.agg s.v.toArray]) rfl (callX_args fH5) ?_
    have mH5 := kH5.1
    have hk := hk.trans kH5
    have hs := kH5.sl0 hs
    have c1 := kH5.cl c1 (by simp)
    have c2 := kH5.cl c2 (by simp)
    refine wN_sta (b := H1.next) (o := 0) rfl rfl c2 (by omega) rfl rfl (by simp) ?_
    intro H6 kH6 nH6 sH6
    have mH6 := kH6.1
    have hk := hk.new kH6 (fun b hb => by simp at hb ⊢; omega)
    have hs := kH6.sl hs (fun b e => by have := fs b e; first | (simp; done) | (simp; omega))
    have c1 := kH6.cl c1 (by first | (simp; done) | (simp; omega))
    have c2 : Cl H6 H1.next [iv s.net, iv s.good, iv s.trash, iv s.rot, iv s.col, iv s.firm] := sH6
    refine wN_mov (v := iv 0) rfl ?_
    refine wN_end ?_
    have e1 : s.load = ⟨s.net, s.good, s.trash, s.rot, s.col, s.firm⟩ := by unfold Sp.load; rw [if_pos hok]
    have e2 : s.we = 0 := by unfold Sp.we; rw [if_pos hok]
    exact And.intro trivial (Exists.intro _ (And.intro (res_ct rfl a38 i38s rfl c2 rfl) ⟨by rw [e1, e2]; rfl, hk⟩))
set_option maxRecDepth 100000 in
/-- the document's Weigh -/
theorem ref18_ok {s : Sp} (hs : Sl H s.sa s.sn s.scap (smc s.ss)) (hl : s.ss.length = s.sn) (hn : s.sn ≤ 1000000) (hlo : lo ≤ H.next) : ∃ H', FnX Try.prog kn lo 18 [.agg s.v.toArray] H (.tuple #[.agg s.load.v.toArray, iv s.we]) H' ∧ Keep H H' [] := by
  have key := fnX_low (kn := kn) (lo := lo) (H := H) (args := [.agg s.v.toArray]) (Q := fun w H' => w = .tuple #[.agg s.load.v.toArray, iv s.we] ∧ Keep H H' []) Try.func18 B18 N18 Z18 L18 (by simp) ?_
  · obtain ⟨w, H', h, rfl, q⟩ := key; exact ⟨H', h, q⟩
  have hk := Keep.refl H []
  have fs : ∀ b, s.sa = some ⟨b, 0, none⟩ → b < H.next := hs.old
  refine wN_seq ?_
  refine wN_box (v := .agg s.v.toArray) rfl ?_
  intro H1 kH1 nH1 c1
  have c1 : Cl H1 H.next [iv s.gr, iv s.bed, iv s.day, iv s.gross, iv s.tare, .slice s.sa s.sn s.scap] := c1
  have mH1 := kH1.1
  have hk := hk.trans kH1
  have hs := kH1.sl0 hs
  refine wN_alc ?_
  intro H2 kH2 nH2 c2
  have c2 : Cl H2 H1.next [iv 0, iv 0, iv 0, iv 0, iv 0, iv 0] := c2
  have mH2 := kH2.1
  have hk := hk.trans kH2
  have hs := kH2.sl0 hs
  have c1 := kH2.cl c1 (by simp)
  refine wN_mov (v := iv 0) rfl ?_
  refine wN_end ?_
  refine wN_seq ?_
  refine wN_lda (b := H.next) (o := 0) rfl c1.rd (show row 6 _ _ = some [iv s.gr, iv s.bed, iv s.day, iv s.gross, iv s.tare, .slice s.sa s.sn s.scap] from rfl) ?_
  refine wN_callB rfl (ref23_ok hs hl hn) ?_
  intro tH3 H3 hH3 kH3
  have mH3 := kH3.1
  have hk := hk.trans kH3
  have hs := kH3.sl0 hs
  have c1 := kH3.cl c1 (by simp)
  have c2 := kH3.cl c2 (by simp)
  cases tH3
  · have hok : s.ok = false := hH3
    refine wN_pur (v := .bool true) rfl rfl ?_
    refine wN_end ?_
    refine condT ?_
    refine wN_seq ?_
    refine wN_pur (v := .agg #[iv 0, iv 0, iv 0, iv 0, iv 0, iv 0]) rfl (by kernel_rfl) ?_
    refine wN_sta (b := H1.next) (o := 0) rfl rfl c2 (by omega) rfl rfl (by simp) ?_
    intro H4 kH4 nH4 sH4
    have mH4 := kH4.1
    have hk := hk.new kH4 (fun b hb => by simp at hb ⊢; omega)
    have hs := kH4.sl hs (fun b e => by have := fs b e; first | (simp; done) | (simp; omega))
    have c1 := kH4.cl c1 (by first | (simp; done) | (simp; omega))
    have c2 : Cl H4 H1.next [iv 0, iv 0, iv 0, iv 0, iv 0, iv 0] := sH4
    refine wN_mov (v := iv 1) rfl ?_
    refine wN_end ?_
    have e1 : s.load = Ld.z := by unfold Sp.load; rw [if_neg (by rw [hok]; decide)]
    have e2 : s.we = 1 := by unfold Sp.we; rw [if_neg (by rw [hok]; decide)]
    exact And.intro trivial (Exists.intro _ (And.intro (res_ct rfl a38 i38s rfl c2 rfl) ⟨by rw [e1, e2]; rfl, hk⟩))
  · have hok : s.ok = true := hH3
    refine wN_pur (v := .bool false) rfl rfl ?_
    refine wN_end ?_
    refine condF ?_
    first | refine wN_skip ?_ | skip
    refine wN_seq ?_
    refine wN_mov (v := iv 0) rfl ?_
    refine wN_mov (v := iv 0) rfl ?_
    refine wN_mov (v := iv 0) rfl ?_
    refine wN_mov (v := iv 0) rfl ?_
    refine wN_mov (v := iv 0) rfl ?_
    refine wN_end ?_
    refine wN_seq ?_
    refine wN_mov (v := iv 0) rfl ?_
    refine wN_end ?_
    have nb := Sp.nb hl hok
    obtain ⟨nok, nn, nw, nt, nr, ntr, nc, nf, ngr, nta, nnet, np1, np2, ngood, ntrash, ngt, np3, np4⟩ := id nb
    refine loop_low (fn := Try.f18) E18_1 N18 L18x1 (fun i : Nat => [(1, pt H.next), (2, pt H1.next), (3, iv 0), (4, iv (sm fW (s.ss.take i))), (5, iv (sm fT (s.ss.take i))), (6, iv (sm fR (s.ss.take i))), (7, iv (sm fC (s.ss.take i))), (8, iv (sm fF (s.ss.take i))), (9, iv (i : Int))])
      (fun k i H' => i + k = s.sn ∧ Keep H3 H' [] ∧ Cl H' H.next s.v ∧ Cl H' H1.next [iv 0, iv 0, iv 0, iv 0, iv 0, iv 0]) s.sn 0 ⟨by omega, Keep.refl _ _, c1, c2⟩ ⟨rfl, rfl, rfl, rfl, rfl, rfl, rfl, rfl, rfl, trivial⟩ ?_
    rintro k i L1 ⟨hik, hki, c1, c2⟩
    have hk := hk.trans hki
    have hs := hki.sl0 hs
    have kb := hki
    have mki := hki.1
    refine wN_seq ?_
    refine wN_mov (v := iv (i : Int)) rfl ?_
    refine wN_addo (b := H.next) (o := 0) rfl ?_
    refine wN_ld (b := H.next) (o := 5) (v := .slice s.sa s.sn s.scap) rfl c1.rd rfl ?_
    refine wN_len (m := s.sn) rfl ?_
    refine wN_c_lss (a := (i : Int)) (b := (s.sn : Int)) rfl rfl ?_
    refine wN_end ?_
    refine And.intro (fun q1 => ?_) (fun q1 => ?_)
    · have q1 : (i : Int) < (s.sn : Int) := of_decide_eq_true q1
      have hi : i < s.sn := by omega
      obtain ⟨x, hx⟩ := get_some (l := s.ss) (i := i) (by omega)
      rcases hs with ⟨_, h0, _⟩ | ⟨sb, esb, rsb, _⟩
      · omega
      have lsb := rsb.lt
      have xo := nok x (List.mem_of_getElem? hx)
      have bfW := sm_take_in (p := fW) (B := 1048576) (fun y hy => fW_in (nok y hy)) (by decide) i
      have dfW := fW_in xo
      have bfT := sm_take_in (p := fT) (B := 1048576) (fun y hy => fT_in (nok y hy)) (by decide) i
      have dfT := fT_in xo
      have bfR := sm_take_in (p := fR) (B := 1048576) (fun y hy => fR_in (nok y hy)) (by decide) i
      have dfR := fR_in xo
      have bfC := sm_take_in (p := fC) (B := 267386880) (fun y hy => fC_in (nok y hy)) (by decide) i
      have dfC := fC_in xo
      have bfF := sm_take_in (p := fF) (B := 1048576000) (fun y hy => fF_in (nok y hy)) (by decide) i
      have dfF := fF_in xo
      first | refine wN_skip ?_ | skip
      refine wN_seq ?_
      refine wN_addo (b := H.next) (o := 0) rfl ?_
      refine wN_ld (b := H.next) (o := 5) (v := .slice (some ⟨sb, 0, none⟩) s.sn s.scap) rfl c1.rd (show _ = some (Value.slice (some ⟨sb, 0, none⟩) s.sn s.scap) from by rw [← esb]; rfl) ?_
      refine wN_mov (v := iv (i : Int)) rfl ?_
      refine wN_idx (b := sb) (o := 0) (k := i) (j := (i : Int)) rfl rfl rfl hi ?_
      refine wN_lda (b := sb) (o := 0 + i * 5) rfl rsb (smc_row hx) ?_
      refine wN_alc ?_
      intro H5 kH5 nH5 c5
      have c5 : Cl H5 L1.next [iv 0, iv 0, iv 0, iv 0, iv 0] := c5
      have mH5 := kH5.1
      have hk := hk.trans kH5
      have kb := kb.trans kH5
      have c1 := kH5.cl c1 (by simp)
      have c2 := kH5.cl c2 (by simp)
      have rsb := kH5.rd rsb (by simp)
      refine wN_sta (b := L1.next) (o := 0) rfl rfl c5 (by omega) rfl rfl (by simp) ?_
      intro H6 kH6 nH6 sH6
      have mH6 := kH6.1
      have hk := hk.new kH6 (fun b hb => by simp at hb ⊢; omega)
      have kb := kb.new kH6 (fun b hb => by simp at hb ⊢; omega)
      have c1 := kH6.cl c1 (by first | (simp; done) | (simp; omega))
      have c2 := kH6.cl c2 (by first | (simp; done) | (simp; omega))
      have rsb := kH6.rd rsb (by first | (simp; done) | (simp; omega))
      have c5 : Cl H6 L1.next [iv x.w, iv x.t, iv x.r, iv x.c, iv x.m] := sH6
      refine wN_end ?_
      refine wN_seq ?_
      refine wN_mov (v := iv (sm fW (s.ss.take i))) rfl ?_
      refine wN_addo (b := L1.next) (o := 0) rfl ?_
      refine wN_ld (b := L1.next) (o := 0) (v := iv x.w) rfl c5.rd rfl ?_
      refine wN_add (a := (sm fW (s.ss.take i))) (b := (fW x)) rfl rfl ⟨by omega, by omega⟩ ?_
      refine wN_mov (v := iv ((sm fW (s.ss.take i)) + fW x)) rfl ?_
      refine wN_end ?_
      refine wN_seq ?_
      refine wN_mov (v := iv (sm fT (s.ss.take i))) rfl ?_
      refine wN_addo (b := L1.next) (o := 0) rfl ?_
      refine wN_ld (b := L1.next) (o := 1) (v := iv x.t) rfl c5.rd rfl ?_
      refine wN_add (a := (sm fT (s.ss.take i))) (b := (fT x)) rfl rfl ⟨by omega, by omega⟩ ?_
      refine wN_mov (v := iv ((sm fT (s.ss.take i)) + fT x)) rfl ?_
      refine wN_end ?_
      refine wN_seq ?_
      refine wN_mov (v := iv (sm fR (s.ss.take i))) rfl ?_
      refine wN_addo (b := L1.next) (o := 0) rfl ?_
      refine wN_ld (b := L1.next) (o := 2) (v := iv x.r) rfl c5.rd rfl ?_
      refine wN_add (a := (sm fR (s.ss.take i))) (b := (fR x)) rfl rfl ⟨by omega, by omega⟩ ?_
      refine wN_mov (v := iv ((sm fR (s.ss.take i)) + fR x)) rfl ?_
      refine wN_end ?_
      refine wN_seq ?_
      refine wN_mov (v := iv (sm fC (s.ss.take i))) rfl ?_
      refine wN_addo (b := L1.next) (o := 0) rfl ?_
      refine wN_ld (b := L1.next) (o := 0) (v := iv x.w) rfl c5.rd rfl ?_
      refine wN_addo (b := L1.next) (o := 0) rfl ?_
      refine wN_ld (b := L1.next) (o := 3) (v := iv x.c) rfl c5.rd rfl ?_
      refine wN_mul (a := x.w) (b := x.c) rfl rfl ⟨by unfold fC at dfC; omega, by unfold fC at dfC; omega⟩ ?_
      refine wN_add (a := (sm fC (s.ss.take i))) (b := (fC x)) rfl rfl ⟨by omega, by omega⟩ ?_
      refine wN_mov (v := iv ((sm fC (s.ss.take i)) + fC x)) rfl ?_
      refine wN_end ?_
      first | refine wN_reg ?_ | refine wN_blk ?_ | refine wN_bseq ?_ | (refine wOps_nil ?_; refine wN_reg ?_)
      refine wN_mov (v := iv (sm fF (s.ss.take i))) rfl ?_
      refine wN_addo (b := L1.next) (o := 0) rfl ?_
      refine wN_ld (b := L1.next) (o := 0) (v := iv x.w) rfl c5.rd rfl ?_
      refine wN_addo (b := L1.next) (o := 0) rfl ?_
      refine wN_ld (b := L1.next) (o := 4) (v := iv x.m) rfl c5.rd rfl ?_
      refine wN_mul (a := x.w) (b := x.m) rfl rfl ⟨by unfold fF at dfF; omega, by unfold fF at dfF; omega⟩ ?_
      refine wN_add (a := (sm fF (s.ss.take i))) (b := (fF x)) rfl rfl ⟨by omega, by omega⟩ ?_
      refine wN_mov (v := iv ((sm fF (s.ss.take i)) + fF x)) rfl ?_
      refine wN_end ?_
      first | refine wN_reg ?_ | refine wN_blk ?_ | refine wN_bseq ?_ | (refine wOps_nil ?_; refine wN_reg ?_)
      refine wN_mov (v := iv (i : Int)) rfl ?_
      refine wN_add (a := (i : Int)) (b := 1) rfl rfl ⟨by omega, by omega⟩ ?_
      refine wN_mov (v := iv ((i : Int) + 1)) rfl ?_
      refine wN_end ?_
      exact ⟨k - 1, i + 1, by omega, ⟨by omega, kb, c1, c2⟩, rfl, rfl, rfl, by rw [sm_step hx]; rfl, by rw [sm_step hx]; rfl, by rw [sm_step hx]; rfl, by rw [sm_step hx]; rfl, by rw [sm_step hx]; rfl, rfl, trivial⟩
    · have q1 : ¬ ((i : Int) < (s.sn : Int)) := of_decide_eq_false q1
      have e : i = s.sn := by omega
      have eW : (sm fW (s.ss.take i)) = s.W := by rw [List.take_of_length_le (by omega)]; rfl
      have eT : (sm fT (s.ss.take i)) = s.T := by rw [List.take_of_length_le (by omega)]; rfl
      have eR : (sm fR (s.ss.take i)) = s.R := by rw [List.take_of_length_le (by omega)]; rfl
      have eC : (sm fC (s.ss.take i)) = s.C := by rw [List.take_of_length_le (by omega)]; rfl
      have eF : (sm fF (s.ss.take i)) = s.F := by rw [List.take_of_length_le (by omega)]; rfl
      simp only [eW, eT, eR, eC, eF]
      refine wN_seq ?_
      refine wN_addo (b := H.next) (o := 0) rfl ?_
      refine wN_ld (b := H.next) (o := 3) (v := iv s.gross) rfl c1.rd rfl ?_
      refine wN_addo (b := H.next) (o := 0) rfl ?_
      refine wN_ld (b := H.next) (o := 4) (v := iv s.tare) rfl c1.rd rfl ?_
      refine wN_sub (a := s.gross) (b := s.tare) rfl rfl ⟨by omega, by omega⟩ ?_
      refine wN_mov (v := iv s.net) rfl ?_
      refine wN_end ?_
      refine wN_seq ?_
      refine wN_mov (v := iv s.net) rfl ?_
      refine wN_mov (v := iv s.W) rfl ?_
      refine wN_mov (v := iv s.T) rfl ?_
      refine wN_sub (a := s.W) (b := s.T) rfl rfl ⟨by omega, by omega⟩ ?_
      refine wN_mov (v := iv s.R) rfl ?_
      refine wN_sub (a := (s.W - s.T)) (b := s.R) rfl rfl ⟨by omega, by omega⟩ ?_
      refine wN_mul (a := s.net) (b := (s.W - s.T - s.R)) rfl rfl ⟨by omega, by omega⟩ ?_
      refine wN_mov (v := iv s.W) rfl ?_
      refine wN_quo (a := (s.net * (s.W - s.T - s.R))) (b := s.W) rfl rfl (by omega) (by omega) ⟨by omega, by omega⟩ ?_
      refine wN_mov (v := iv s.good) rfl ?_
      refine wN_end ?_
      refine wN_seq ?_
      refine wN_mov (v := iv s.net) rfl ?_
      refine wN_mov (v := iv s.T) rfl ?_
      refine wN_mul (a := s.net) (b := s.T) rfl rfl ⟨by omega, by omega⟩ ?_
      refine wN_mov (v := iv s.W) rfl ?_
      refine wN_quo (a := (s.net * s.T)) (b := s.W) rfl rfl (by omega) (by omega) ⟨by omega, by omega⟩ ?_
      refine wN_mov (v := iv s.trash) rfl ?_
      refine wN_end ?_
      refine wD_seq ?_
      refine wD_mov (v := iv s.net) rfl ?_
      refine wD_mov (v := iv s.good) rfl ?_
      refine wD_mov (v := iv s.trash) rfl ?_
      refine wD_mov (v := iv s.net) rfl ?_
      refine wD_mov (v := iv s.good) rfl ?_
      refine wD_sub (a := s.net) (b := s.good) rfl rfl ⟨by omega, by omega⟩ ?_
      refine wD_mov (v := iv s.trash) rfl ?_
      refine wD_sub (a := (s.net - s.good)) (b := s.trash) rfl rfl ⟨by omega, by omega⟩ ?_
      refine wD_mov (v := iv s.good) rfl ?_
      refine wD_mov (v := iv s.C) rfl ?_
      refine wD_mul (a := s.good) (b := s.C) rfl rfl ⟨by omega, by omega⟩ ?_
      refine wD_mov (v := iv s.W) rfl ?_
      refine wD_quo (a := (s.good * s.C)) (b := s.W) rfl rfl (by omega) (by omega) ⟨by omega, by omega⟩ ?_
      refine wD_mov (v := iv s.good) rfl ?_
      refine wD_mov (v := iv s.F) rfl ?_
      refine wD_mul (a := s.good) (b := s.F) rfl rfl ⟨by omega, by omega⟩ ?_
      refine wD_mov (v := iv s.W) rfl ?_
      refine wD_quo (a := (s.good * s.F)) (b := s.W) rfl rfl (by omega) (by omega) ⟨by omega, by omega⟩ ?_
      refine wD_pur (v := .agg #[iv s.net, iv s.good, iv s.trash, iv s.rot, iv s.col, iv s.firm]) rfl (by kernel_rfl) ?_
      refine wD_sta (b := H1.next) (o := 0) rfl rfl c2 (by omega) rfl rfl (by simp) ?_
      intro H7 kH7 nH7 sH7
      have mH7 := kH7.1
      have hk := hk.new kH7 (fun b hb => by simp at hb ⊢; omega)
      have hs := kH7.sl hs (fun b e => by have := fs b e; first | (simp; done) | (simp; omega))
      have c1 := kH7.cl c1 (by first | (simp; done) | (simp; omega))
      have c2 : Cl H7 H1.next [iv s.net, iv s.good, iv s.trash, iv s.rot, iv s.col, iv s.firm] := sH7
      refine wD_mov (v := iv 0) rfl ?_
      refine wD_end (by repeat' first | exact True.intro | exact (fun h => h) | refine And.intro ?_ ?_ | (intro h; have h : (_ : Nat) = _ := h; omega)) ?_
      have e1 : s.load = ⟨s.net, s.good, s.trash, s.rot, s.col, s.firm⟩ := by unfold Sp.load; rw [if_pos hok]
      have e2 : s.we = 0 := by unfold Sp.we; rw [if_pos hok]
      exact And.intro trivial (Exists.intro _ (And.intro (res_ct rfl a38 i38s rfl c2 rfl) ⟨by rw [e1, e2]; rfl, hk⟩))
end
end Go.Ax

/-
  Station: berries: validBerries, many, firstTries, Bounce (written by program).
-/
namespace Go.Ax
open Go Go.RowKit Go.Proofs

theorem any_hit2 {α : Type} {f : α → Bool} {l : List α} {i : Nat} {x : α} (h : l[i]? = some x) (hx : f x = true) : l.any f = true := List.any_eq_true.2 ⟨x, List.mem_of_getElem? h, hx⟩
theorem u45' : Try.prog.underlying 45 = some (.slice 3) := by kernel_rfl
theorem in3s : ∃ i, Try.prog.info? 3 = some i ∧ i.size = 1 := by
  have h : (Try.prog.info? 3).map (fun i => Nat.beq i.size 1) = some true := by kernel_rfl
  cases e : Try.prog.info? 3 with
  | none => rw [e] at h; cases h
  | some i => rw [e] at h; exact ⟨i, rfl, by simpa using h⟩
/-- the first k elements -/
theorem heap_upto {lo : Nat} {H : Hp} {a : Option Addr} {n cap k : Nat} {cs : List Value} (hs : Sl H a n cap cs) (hf : ∀ b, a = some ⟨b, 0, none⟩ → Fx H b cs) (hk : k ≤ n) :
    ∃ kd, (∀ (m : Nat) (S : Rg) (d : Option Tmp) (x y : Operand) (ty : TypeId) (p : String), evS S x = some (.slice a n cap) → evS S y = some (iv (k : Int)) → heapOp Try.prog lo (frS m S) H ⟨d, .slice 45 x none (some y) none, ty, p, #[], none⟩ = some (.val (.slice a k cap) H, kd)) ∧ ∀ b, kd = .read b → b < H.next := by
  obtain ⟨i, hi, hs1⟩ := in3s
  have hb : ∀ (m : Nat) (S : Rg) (y : Operand) (q : Nat), evS S y = some (iv (k : Int)) → boundOf (frS m S) q (some y) = some k := fun m S y q hy => by unfold boundOf; simp only [ev_frS, hy]
  have hb0 : ∀ (m : Nat) (S : Rg), boundOf (frS m S) 0 none = some 0 := fun _ _ => rfl
  rcases hs with ⟨rfl | rfl, rfl, rfl, rfl⟩ | ⟨b, rfl, hr, hc⟩
  · obtain rfl : k = 0 := by omega
    refine ⟨.pure, fun m S d x y ty p hx hy => ?_, fun b e => by cases e⟩
    unfold heapOp
    simp only [ev_frS, hx, u45', hi, hb m S y _ hy, hb0, Nat.beq_refl, Bool.and_self, cond_true]
  · obtain rfl : k = 0 := by omega
    refine ⟨.pure, fun m S d x y ty p hx hy => ?_, fun b e => by cases e⟩
    unfold heapOp
    simp only [ev_frS, hx, u45', hi, hb m S y _ hy, hb0, Nat.beq_refl, Bool.and_self, cond_true]
  · refine ⟨.read b, fun m S d x y ty p hx hy => ?_, fun b' e => by cases e; exact hr.lt⟩
    have had : ∀ c, (bif c then (⟨b, 0, none⟩ : Addr) else (⟨b, 0, none⟩ : Addr).add (0 * i.size)) = ⟨b, 0, none⟩ := fun c => by cases c <;> simp [Addr.add]
    obtain ⟨_, h2 | ⟨e, h2⟩ | h2⟩ := hf b rfl
    · unfold heapOp
      simp only [ev_frS, hx, u45', hi, hb m S y _ hy, hb0, h2, Nat.ble_eq_true_of_le (show k ≤ cap by omega), Nat.ble_eq_true_of_le (Nat.zero_le k), Bool.and_self, cond_true, had, Nat.sub_zero]
    · unfold heapOp
      simp only [ev_frS, hx, u45', hi, hb m S y _ hy, hb0, h2, Nat.ble_eq_true_of_le (show k ≤ cap by omega), Nat.ble_eq_true_of_le (Nat.zero_le k), Bool.and_self, cond_true, had, Nat.sub_zero]
    · unfold heapOp
      simp only [ev_frS, hx, u45', hi, hb m S y _ hy, hb0, h2, hs1, Nat.beq_refl, Nat.ble_eq_true_of_le hk, Nat.ble_eq_true_of_le (Nat.zero_le k), show Nat.beq 1 0 = false from rfl, Bool.not_false, Bool.or_true, Bool.and_self, cond_true, Nat.sub_zero]
      rfl
/-- how many berries bounce -/
def cntB (rs : List Rw) (b m : Int) : Int := rs.foldl (fun n r => if bnc r.l b m then n + 1 else n) 0
theorem cntB_from (rs : List Rw) (b m x : Int) : rs.foldl (fun n r => if bnc r.l b m then n + 1 else n) x = x + cntB rs b m := by
  induction rs generalizing x with
  | nil => show x = x + 0; omega
  | cons r l ih => unfold cntB; rw [List.foldl_cons, List.foldl_cons, ih, ih]; split <;> omega
theorem cntB_step {rs : List Rw} {b m : Int} {i : Nat} {r : Rw} (h : rs[i]? = some r) : cntB (rs.take (i + 1)) b m = cntB (rs.take i) b m + (if bnc r.l b m then 1 else 0) := by
  unfold cntB; rw [foldl_step h]; split <;> omega
theorem cntB_in (rs : List Rw) (b m : Int) : 0 ≤ cntB rs b m ∧ cntB rs b m ≤ rs.length := by
  induction rs with
  | nil => simp [cntB]
  | cons r l ih =>
    unfold cntB; rw [List.foldl_cons, cntB_from, List.length_cons]
    split <;> omega
theorem cntB_take_in (rs : List Rw) (b m : Int) (i : Nat) : 0 ≤ cntB (rs.take i) b m ∧ cntB (rs.take i) b m ≤ rs.length := by
  have := cntB_in (rs.take i) b m
  rw [List.length_take] at this; omega
def boE (rs : List Rw) (b m : Int) : Int := if rwsOk rs then (if isw b 4096 && isw m 7 then 0 else 2) else 1
def boN (rs : List Rw) (b m : Int) : Int := if boE rs b m = 0 then cntB rs b m else 0
section
variable {kn : FuncId → Option Bool} {lo : Nat} {H : Hp}
theorem index61_ok {sa : Option Addr} {n cap f : Nat} {us : List Rw} (hr : Rws H f sa n cap us) (hm : ∀ r ∈ us, r.n ≤ 1000000) (hn2 : n ≤ 1000000) :
    ∃ j H', FnX Try.prog kn lo 61 [.slice sa n cap, .func (.func 54) #[] #[]] H (iv j) H' ∧ decide (j ≥ 0) = !(us.all Rw.ok) ∧ Keep H H' [] := by
  have key := fnX_low (kn := kn) (lo := lo) (H := H) (args := [.slice sa n cap, .func (.func 54) #[] #[]]) (Q := fun w H' => ∃ j, w = iv j ∧ decide (j ≥ 0) = !(us.all Rw.ok) ∧ Keep H H' []) Try.func61 B61 N61 Z61 L61 (by simp) ?_
  · obtain ⟨v, H', h, j, rfl, q⟩ := key; exact ⟨j, H', h, q⟩
  have hk := Keep.refl H []
  refine wN_seq ?_
  refine wN_mov (v := iv 0) rfl ?_
  refine wN_end ?_
  refine wN_seq ?_
  refine wN_mov (v := .slice sa n cap) rfl ?_
  refine wN_len (m := n) rfl ?_
  refine wN_mov (v := iv 0) rfl ?_
  refine wN_end ?_
  refine loop_low (fn := Try.f61) E61_1 N61 L61x1 (fun i : Nat => [(0, .slice sa n cap), (1, .func (.func 54) #[] #[]), (7, iv (n : Int)), (8, iv (i : Int))])
    (fun k i H' => i + k = n ∧ Keep H H' [] ∧ Rws H' f sa n cap us ∧ (us.take i).all Rw.ok = true) n 0 ⟨by omega, Keep.refl _ _, hr, rfl⟩ ⟨rfl, rfl, rfl, rfl, trivial⟩ ?_
  rintro k i L1 ⟨hik, hk, hr, hall⟩
  refine wN_seq ?_
  refine wN_c_lss (a := (i : Int)) (b := (n : Int)) rfl rfl ?_
  refine wN_end ?_
  refine And.intro (fun q1 => ?_) (fun q1 => ?_)
  · have q1 : (i : Int) < (n : Int) := of_decide_eq_true q1
    have hi : i < n := by omega
    obtain ⟨sb, so, cs, x, hx, esb, rsb, lsf, lcap, hat, hmem⟩ := hr.opn hi
    have hst := all_step (f := Rw.ok) hx
    have hrx := hr.ri x hmem
    first | refine wN_skip ?_ | skip
    refine wN_seq ?_
    refine wN_mov (v := iv (i : Int)) rfl ?_
    refine wN_mov (v := iv (i : Int)) rfl ?_
    refine wN_end ?_
    refine wN_seq ?_
    refine wN_mov (v := .func (.func 54) #[] #[]) rfl ?_
    refine wN_mov (v := .slice sa n cap) rfl ?_
    refine wN_mov (v := iv (i : Int)) rfl ?_
    refine wN_idx (b := sb) (o := so) (k := i) (j := (i : Int)) (by rw [← esb]; rfl) rfl rfl hi ?_
    refine wN_ld (b := sb) (o := so + i * 1) (v := .slice x.ra x.n x.cap) rfl rsb hat ?_
    obtain ⟨H1, fH1, kH1⟩ := bad54_ok (kn := kn) (lo := lo) (H := L1) (r := x) hrx.1 hrx.2.1 (hm x hmem)
    refine wN_callf (vs := [.slice x.ra x.n x.cap]) rfl (callX_func rfl (by simpa using fH1)) ?_
    have mH1 := kH1.1
    have hk := hk.trans kH1
    have hr := hr.keep kH1 (by simp)
    have rsb := kH1.rd rsb (by simp)
    cases hb : Rw.ok x
    · refine wN_end ?_
      refine condT ?_
      refine wN_seq ?_
      refine wN_mov (v := iv (i : Int)) rfl ?_
      refine wN_mov (v := iv (i : Int)) rfl ?_
      refine wN_end ?_
      exact And.intro trivial (Exists.intro _ (And.intro rfl ⟨_, rfl, by rw [all_fail hx hb]; simp, hk⟩))
    · refine wN_end ?_
      refine condF ?_
      first | refine wN_skip ?_ | skip
      first | refine wN_reg ?_ | refine wN_blk ?_ | refine wN_bseq ?_ | (refine wOps_nil ?_; refine wN_reg ?_)
      refine wN_add (a := (i : Int)) (b := 1) rfl rfl ⟨by omega, by omega⟩ ?_
      refine wN_mov (v := iv ((i : Int) + 1)) rfl ?_
      refine wN_end ?_
      exact ⟨k - 1, i + 1, by omega, ⟨by omega, hk, hr, by rw [hst, hall, hb]; rfl⟩, rfl, rfl, rfl, rfl, trivial⟩
  · have q1 : ¬ ((i : Int) < (n : Int)) := of_decide_eq_false q1
    refine wN_seq ?_
    refine wN_mov (v := iv (-1)) rfl ?_
    refine wN_end ?_
    exact And.intro trivial (Exists.intro _ (And.intro rfl ⟨-1, rfl, by rw [List.take_of_length_le (by have := hr.rl; omega)] at hall; rw [hall]; rfl, hk⟩))
theorem badRws_ok {sa : Option Addr} {n cap f : Nat} {us : List Rw} (hr : Rws H f sa n cap us) (hm : ∀ r ∈ us, r.n ≤ 1000000) (hn2 : n ≤ 1000000) :
    ∃ H', FnX Try.prog kn lo 53 [.slice sa n cap, .func (.func 54) #[] #[]] H (.bool (!(us.all Rw.ok))) H' ∧ Keep H H' [] := by
  have key := fnX_low (kn := kn) (lo := lo) (H := H) (args := [.slice sa n cap, .func (.func 54) #[] #[]]) (Q := fun w H' => w = .bool (!(us.all Rw.ok)) ∧ Keep H H' []) Try.func53 B53 N53 Z53 L53 (by simp) ?_
  · obtain ⟨w, H', h, rfl, q⟩ := key; exact ⟨H', h, q⟩
  obtain ⟨j, H3, h3, hj, k3⟩ := index61_ok (kn := kn) (lo := lo) hr hm hn2
  refine Exists.intro _ (Exists.intro _ (And.intro (callX_args h3) ?_))
  exact And.intro trivial (Exists.intro _ (And.intro rfl ⟨by rw [← hj]; rfl, k3⟩))
/-- validBerries -/
theorem valid34_ok {sa : Option Addr} {n cap f : Nat} {rs : List Rw} (hr : Rws H f sa n cap rs) (hm : ∀ r ∈ rs, r.n ≤ 1000000) : ∃ H', FnX Try.prog kn lo 34 [.slice sa n cap] H (.bool (rwsOk rs)) H' ∧ Keep H H' [] := by
  have key := fnX_low (kn := kn) (lo := lo) (H := H) (args := [.slice sa n cap]) (Q := fun w H' => w = .bool (rwsOk rs) ∧ Keep H H' []) Try.func34 B34 N34 Z34 L34 (by simp) ?_
  · obtain ⟨w, H', h, rfl, q⟩ := key; exact ⟨H', h, q⟩
  have hk := Keep.refl H []
  refine wN_seq ?_
  refine wN_mov (v := .bool false) rfl ?_
  refine wN_end ?_
  refine wN_seq ?_
  refine wN_mov (v := .slice sa n cap) rfl ?_
  refine wN_len (m := n) rfl ?_
  refine wN_b_leq (a := (n : Int)) (b := 256) rfl rfl ?_
  intro t1 g1; cases t1
  · have g1 : ¬ ((n : Int) ≤ 256) := of_decide_eq_false g1
    refine wN_mov (v := .bool false) rfl ?_
    refine wN_gs rfl ?_
    refine wN_gs rfl ?_
    refine wN_gs rfl ?_
    refine wN_pur (v := .bool false) rfl rfl ?_
    refine wN_mov (v := .bool false) rfl ?_
    refine wN_end ?_
    exact And.intro trivial (Exists.intro _ (And.intro rfl ⟨congrArg Value.bool (show false = (rwsOk rs) from (by symm; first | (simp [rwsOk, hr.rl, hall]; done) | (simp [rwsOk, hr.rl, hall] <;> omega) | (simp [rwsOk, hr.rl]; done) | (simp [rwsOk, hr.rl] <;> omega))), hk⟩))
  · have g1 : (n : Int) ≤ 256 := of_decide_eq_true g1
    refine wN_mov (v := .bool true) rfl ?_
    refine wN_g rfl (wN_mov (v := .slice sa n cap) rfl ?_)
    refine wN_g rfl (wN_callB rfl (badRws_ok hr hm (by omega)) ?_)
    intro tH1 H1 hH1 kH1
    have mH1 := kH1.1
    have hk := hk.trans kH1
    have hr := hr.keep kH1 (by simp)
    cases tH1
    · have hall : rs.all Rw.ok = true := by simpa using hH1
      refine wN_g rfl (wN_pur (v := .bool true) rfl rfl ?_)
      refine wN_pur (v := .bool true) rfl rfl ?_
      refine wN_mov (v := .bool true) rfl ?_
      refine wN_end ?_
      exact And.intro trivial (Exists.intro _ (And.intro rfl ⟨congrArg Value.bool (show true = (rwsOk rs) from (by symm; first | (simp [rwsOk, hr.rl, hall]; done) | (simp [rwsOk, hr.rl, hall] <;> omega) | (simp [rwsOk, hr.rl]; done) | (simp [rwsOk, hr.rl] <;> omega))), hk⟩))
    · have hall : rs.all Rw.ok = false := by simpa using hH1
      refine wN_g rfl (wN_pur (v := .bool false) rfl rfl ?_)
      refine wN_pur (v := .bool false) rfl rfl ?_
      refine wN_mov (v := .bool false) rfl ?_
      refine wN_end ?_
      exact And.intro trivial (Exists.intro _ (And.intro rfl ⟨congrArg Value.bool (show false = (rwsOk rs) from (by symm; first | (simp [rwsOk, hr.rl, hall]; done) | (simp [rwsOk, hr.rl, hall] <;> omega) | (simp [rwsOk, hr.rl]; done) | (simp [rwsOk, hr.rl] <;> omega))), hk⟩))
/-- many -/
theorem many_ok {sa : Option Addr} {n cap f : Nat} {rs : List Rw} (hr : Rws H f sa n cap rs) : ∃ H', FnX Try.prog kn lo 16 [.slice sa n cap] H (.bool (manyB rs)) H' ∧ Keep H H' [] := by
  have key := fnX_low (kn := kn) (lo := lo) (H := H) (args := [.slice sa n cap]) (Q := fun w H' => w = .bool (manyB rs) ∧ Keep H H' []) Try.func16 B16 N16 Z16 L16 (by simp) ?_
  · obtain ⟨w, H', h, rfl, q⟩ := key; exact ⟨H', h, q⟩
  have hk := Keep.refl H []
  refine wN_seq ?_
  refine wN_mov (v := .bool false) rfl ?_
  refine wN_end ?_
  refine wN_seq ?_
  refine wN_mov (v := .slice sa n cap) rfl ?_
  refine wN_len (m := n) rfl ?_
  refine wN_c_gtr (a := (n : Int)) (b := 260) rfl rfl ?_
  refine wN_end ?_
  refine And.intro (fun q1 => ?_) (fun q1 => ?_)
  · have q1 : (n : Int) > 260 := of_decide_eq_true q1
    refine wN_seq ?_
    refine wN_mov (v := .bool true) rfl ?_
    refine wN_end ?_
    exact And.intro trivial (Exists.intro _ (And.intro rfl ⟨congrArg Value.bool (show true = manyB rs from (by symm; have hrl := hr.rl; simp [manyB]; omega)), hk⟩))
  · have q1 : ¬ ((n : Int) > 260) := of_decide_eq_false q1
    first | refine wN_skip ?_ | skip
    refine wN_seq ?_
    refine wN_mov (v := iv 0) rfl ?_
    refine wN_end ?_
    refine loop_low (fn := Try.f16) E16_1 N16 L16x1 (fun i : Nat => [(0, .slice sa n cap), (3, iv (i : Int))])
      (fun k i H' => i + k = n ∧ Keep H H' [] ∧ Rws H' f sa n cap rs ∧ (rs.take i).any (fun r => decide (r.n > 10)) = false) n 0 ⟨by omega, Keep.refl _ _, hr, rfl⟩ ⟨rfl, rfl, trivial⟩ ?_
    rintro k i L1 ⟨hik, hk, hr, hall⟩
    refine wN_seq ?_
    refine wN_mov (v := iv (i : Int)) rfl ?_
    refine wN_mov (v := .slice sa n cap) rfl ?_
    refine wN_len (m := n) rfl ?_
    refine wN_c_lss (a := (i : Int)) (b := (n : Int)) rfl rfl ?_
    refine wN_end ?_
    refine And.intro (fun q2 => ?_) (fun q2 => ?_)
    · have q2 : (i : Int) < (n : Int) := of_decide_eq_true q2
      have hi : i < n := by omega
      obtain ⟨sb, so, cs, x, hx, esb, rsb, lsf, lcap, hat, hmem⟩ := hr.opn hi
      first | refine wN_skip ?_ | skip
      refine wN_seq ?_
      refine wN_mov (v := .slice sa n cap) rfl ?_
      refine wN_mov (v := iv (i : Int)) rfl ?_
      refine wN_idx (b := sb) (o := so) (k := i) (j := (i : Int)) (by rw [← esb]; rfl) rfl rfl hi ?_
      refine wN_ld (b := sb) (o := so + i * 1) (v := .slice x.ra x.n x.cap) rfl rsb hat ?_
      refine wN_len (m := x.n) rfl ?_
      refine wN_c_gtr (a := (x.n : Int)) (b := 10) rfl rfl ?_
      refine wN_end ?_
      refine And.intro (fun q3 => ?_) (fun q3 => ?_)
      · have q3 : (x.n : Int) > 10 := of_decide_eq_true q3
        have hok : (fun r : Rw => decide (r.n > 10)) x = true := decide_eq_true (by omega)
        refine wN_seq ?_
        refine wN_mov (v := .bool true) rfl ?_
        refine wN_end ?_
        exact And.intro trivial (Exists.intro _ (And.intro rfl ⟨congrArg Value.bool (show true = manyB rs from (by symm; unfold manyB; rw [Bool.or_eq_true]; right; exact any_hit2 hx hok)), hk⟩))
      · have q3 : ¬ ((x.n : Int) > 10) := of_decide_eq_false q3
        have hok : (fun r : Rw => decide (r.n > 10)) x = false := decide_eq_false (by omega)
        first | refine wN_skip ?_ | skip
        first | refine wN_reg ?_ | refine wN_blk ?_ | refine wN_bseq ?_ | (refine wOps_nil ?_; refine wN_reg ?_)
        refine wN_mov (v := iv (i : Int)) rfl ?_
        refine wN_add (a := (i : Int)) (b := 1) rfl rfl ⟨by omega, by omega⟩ ?_
        refine wN_mov (v := iv ((i : Int) + 1)) rfl ?_
        refine wN_end ?_
        exact ⟨k - 1, i + 1, by omega, ⟨by omega, hk, hr, by rw [any_step hx, hall]; exact hok⟩, rfl, rfl, trivial⟩
    · have q2 : ¬ ((i : Int) < (n : Int)) := of_decide_eq_false q2
      refine wN_seq ?_
      refine wN_mov (v := .bool false) rfl ?_
      refine wN_end ?_
      exact And.intro trivial (Exists.intro _ (And.intro rfl ⟨congrArg Value.bool (show false = manyB rs from (by symm; have hrl := hr.rl; rw [List.take_of_length_le (by omega)] at hall; unfold manyB; rw [hall, decide_eq_false (by omega)]; rfl)), hk⟩))
set_option maxRecDepth 100000 in
/-- the document's Bounce -/
theorem ref20_ok {sa : Option Addr} {n cap f : Nat} {rs : List Rw} {b m : Int} (hr : Rws H f sa n cap rs) (hm : ∀ r ∈ rs, r.n ≤ 1000000) (hn : n ≤ 1000000) (hlo : lo ≤ H.next) :
    ∃ H', FnX Try.prog kn lo 20 [.slice sa n cap, iv b, iv m] H (.tuple #[iv (boN rs b m), iv (boE rs b m)]) H' ∧ Keep H H' [] := by
  have key := fnX_low (kn := kn) (lo := lo) (H := H) (args := [.slice sa n cap, iv b, iv m]) (Q := fun w H' => w = (.tuple #[iv (boN rs b m), iv (boE rs b m)]) ∧ Keep H H' []) Try.func20 B20 N20 Z20 L20 (by simp) ?_
  · obtain ⟨w, H', h, rfl, q⟩ := key; exact ⟨H', h, q⟩
  have hk := Keep.refl H []
  refine wN_seq ?_
  refine wN_mov (v := iv 0) rfl ?_
  refine wN_mov (v := iv 0) rfl ?_
  refine wN_end ?_
  refine wN_seq ?_
  refine wN_mov (v := .slice sa n cap) rfl ?_
  refine wN_len (m := n) rfl ?_
  refine wN_c_gtr (a := (n : Int)) (b := 256) rfl rfl ?_
  refine wN_end ?_
  refine And.intro (fun q1 => ?_) (fun q1 => ?_)
  · have q1 : (n : Int) > 256 := of_decide_eq_true q1
    refine wN_seq ?_
    refine wN_mov (v := iv 0) rfl ?_
    refine wN_mov (v := iv 1) rfl ?_
    refine wN_end ?_
    have hq : rwsOk rs = false := by have := hr.rl; unfold rwsOk; rw [decide_eq_false (by omega)]; rfl
    have e1 : boE rs b m = 1 := by unfold boE; rw [hq]; rfl
    have e2 : boN rs b m = 0 := by unfold boN; rw [e1]; rfl
    exact And.intro trivial (Exists.intro _ (And.intro rfl ⟨by rw [e1, e2]; rfl, hk⟩))
  · have q1 : ¬ ((n : Int) > 256) := of_decide_eq_false q1
    first | refine wN_skip ?_ | skip
    refine wN_seq ?_
    refine wN_mov (v := iv 0) rfl ?_
    refine wN_end ?_
    refine loop_low (fn := Try.f20) E20_1 N20 L20x1 (fun i : Nat => [(0, .slice sa n cap), (1, iv b), (2, iv m), (8, iv (i : Int))])
      (fun k i H' => i + k = n ∧ Keep H H' [] ∧ Rws H' f sa n cap rs ∧ (rs.take i).all Rw.ok = true) n 0 ⟨by omega, hk, hr, rfl⟩ ⟨rfl, rfl, rfl, rfl, trivial⟩ ?_
    rintro k i L1 ⟨hik, hk, hr, hall⟩
    refine wN_seq ?_
    refine wN_mov (v := iv (i : Int)) rfl ?_
    refine wN_mov (v := .slice sa n cap) rfl ?_
    refine wN_len (m := n) rfl ?_
    refine wN_c_lss (a := (i : Int)) (b := (n : Int)) rfl rfl ?_
    refine wN_end ?_
    refine And.intro (fun q2 => ?_) (fun q2 => ?_)
    · have q2 : (i : Int) < (n : Int) := of_decide_eq_true q2
      have hi : i < n := by omega
      obtain ⟨sb, so, cs, x, hx, esb, rsb, lsf, lcap, hat, hmem⟩ := hr.opn hi
      have hxl := (hr.ri x hmem).2.1
      first | refine wN_skip ?_ | skip
      refine wN_seq ?_
      refine wN_mov (v := .slice sa n cap) rfl ?_
      refine wN_mov (v := iv (i : Int)) rfl ?_
      refine wN_idx (b := sb) (o := so) (k := i) (j := (i : Int)) (by rw [← esb]; rfl) rfl rfl hi ?_
      refine wN_ld (b := sb) (o := so + i * 1) (v := .slice x.ra x.n x.cap) rfl rsb hat ?_
      refine wN_len (m := x.n) rfl ?_
      refine wN_c_gtr (a := (x.n : Int)) (b := 7) rfl rfl ?_
      refine wN_end ?_
      refine And.intro (fun q3 => ?_) (fun q3 => ?_)
      · have q3 : (x.n : Int) > 7 := of_decide_eq_true q3
        have hok : x.ok = false := by unfold Rw.ok; rw [decide_eq_false (by omega)]; rfl
        refine wN_seq ?_
        refine wN_mov (v := iv 0) rfl ?_
        refine wN_mov (v := iv 1) rfl ?_
        refine wN_end ?_
        have hq : rwsOk rs = false := by unfold rwsOk; rw [all_fail hx hok]; simp
        have e1 : boE rs b m = 1 := by unfold boE; rw [hq]; rfl
        have e2 : boN rs b m = 0 := by unfold boN; rw [e1]; rfl
        exact And.intro trivial (Exists.intro _ (And.intro rfl ⟨by rw [e1, e2]; rfl, hk⟩))
      · have q3 : ¬ ((x.n : Int) > 7) := of_decide_eq_false q3
        first | refine wN_skip ?_ | skip
        refine wN_seq ?_
        refine wN_mov (v := iv 0) rfl ?_
        refine wN_end ?_
        refine loop_low (fn := Try.f20) E20_2 N20 L20x2 (fun j : Nat => [(0, .slice sa n cap), (1, iv b), (2, iv m), (8, iv (i : Int)), (9, iv (j : Int))])
          (fun k j H' => j + k = x.n ∧ Keep H H' [] ∧ Rws H' f sa n cap rs ∧ Rd H' sb cs ∧ (x.l.take j).all htOk = true) x.n 0 ⟨by omega, hk, hr, rsb, rfl⟩ ⟨rfl, rfl, rfl, rfl, rfl, trivial⟩ ?_
        rintro k2 j L2 ⟨hjk, hk, hr, rsb, hall2⟩
        refine wN_seq ?_
        refine wN_mov (v := iv (j : Int)) rfl ?_
        refine wN_mov (v := .slice sa n cap) rfl ?_
        refine wN_mov (v := iv (i : Int)) rfl ?_
        refine wN_idx (b := sb) (o := so) (k := i) (j := (i : Int)) (by rw [← esb]; rfl) rfl rfl hi ?_
        refine wN_ld (b := sb) (o := so + i * 1) (v := .slice x.ra x.n x.cap) rfl rsb hat ?_
        refine wN_len (m := x.n) rfl ?_
        refine wN_c_lss (a := (j : Int)) (b := (x.n : Int)) rfl rfl ?_
        refine wN_end ?_
        refine And.intro (fun q4 => ?_) (fun q4 => ?_)
        · have q4 : (j : Int) < (x.n : Int) := of_decide_eq_true q4
          have hj : j < x.n := by omega
          obtain ⟨y, hy⟩ := get_some (l := x.l) (i := j) (by omega)
          have hs := (hr.ri x hmem).1
          rcases hs with ⟨_, h0, _⟩ | ⟨xb, exb, rxb, _⟩
          · omega
          first | refine wN_skip ?_ | skip
          refine wN_seq ?_
          refine wN_mov (v := .slice sa n cap) rfl ?_
          refine wN_mov (v := iv (i : Int)) rfl ?_
          refine wN_idx (b := sb) (o := so) (k := i) (j := (i : Int)) (by rw [← esb]; rfl) rfl rfl hi ?_
          refine wN_ld (b := sb) (o := so + i * 1) (v := .slice x.ra x.n x.cap) rfl rsb hat ?_
          refine wN_mov (v := iv (j : Int)) rfl ?_
          refine wN_idx (b := xb) (o := 0) (k := j) (j := (j : Int)) (by rw [← exb]; rfl) rfl rfl hj ?_
          refine wN_ld (b := xb) (o := 0 + j * 1) (v := iv y) rfl rxb (ints_at hy) ?_
          refine wN_callB rfl (in28_ok) ?_
          intro tH1 H1 hH1 kH1
          have mH1 := kH1.1
          have hk := hk.trans kH1
          have hr := hr.keep kH1 (by simp)
          have rsb := kH1.rd rsb (by simp)
          have rxb := kH1.rd rxb (by simp)
          cases tH1
          · have fhH1 := inB_f hH1
            refine wN_pur (v := .bool true) rfl rfl ?_
            refine wN_end ?_
            refine condT ?_
            have hok : x.ok = false := by unfold Rw.ok; rw [all_fail hy (show htOk y = false by simp only [htOk, isw, Bool.and_eq_true, Bool.and_eq_false_iff, Bool.or_eq_true, Bool.or_eq_false_iff, Bool.not_eq_true', Bool.not_eq_false', decide_eq_true_eq, decide_eq_false_iff_not]; omega)]; simp
            refine wN_seq ?_
            refine wN_mov (v := iv 0) rfl ?_
            refine wN_mov (v := iv 1) rfl ?_
            refine wN_end ?_
            have hq : rwsOk rs = false := by unfold rwsOk; rw [all_fail hx hok]; simp
            have e1 : boE rs b m = 1 := by unfold boE; rw [hq]; rfl
            have e2 : boN rs b m = 0 := by unfold boN; rw [e1]; rfl
            exact And.intro trivial (Exists.intro _ (And.intro rfl ⟨by rw [e1, e2]; rfl, hk⟩))
          · have fhH1 := inB_t hH1
            refine wN_pur (v := .bool false) rfl rfl ?_
            refine wN_end ?_
            refine condF ?_
            have hok2 : htOk y = true := by simp only [htOk, isw, Bool.and_eq_true, Bool.and_eq_false_iff, Bool.or_eq_true, Bool.or_eq_false_iff, Bool.not_eq_true', Bool.not_eq_false', decide_eq_true_eq, decide_eq_false_iff_not]; omega
            first | refine wN_skip ?_ | skip
            first | refine wN_reg ?_ | refine wN_blk ?_ | refine wN_bseq ?_ | (refine wOps_nil ?_; refine wN_reg ?_)
            refine wN_mov (v := iv (j : Int)) rfl ?_
            refine wN_add (a := (j : Int)) (b := 1) rfl rfl ⟨by omega, by omega⟩ ?_
            refine wN_mov (v := iv ((j : Int) + 1)) rfl ?_
            refine wN_end ?_
            exact ⟨k2 - 1, j + 1, by omega, ⟨by omega, hk, hr, rsb, by rw [all_step hy, hall2, hok2]; rfl⟩, rfl, rfl, rfl, rfl, rfl, trivial⟩
        · have q4 : ¬ ((j : Int) < (x.n : Int)) := of_decide_eq_false q4
          have hok : x.ok = true := by rw [List.take_of_length_le (by omega)] at hall2; unfold Rw.ok; rw [hall2, decide_eq_true (by omega)]; rfl
          first | (refine wN_exit ?_; show wC _ _ _ _ _ _ _ _ _) | skip
          first | refine wN_reg ?_ | refine wN_blk ?_ | refine wN_bseq ?_ | (refine wOps_nil ?_; refine wN_reg ?_)
          refine wN_mov (v := iv (i : Int)) rfl ?_
          refine wN_add (a := (i : Int)) (b := 1) rfl rfl ⟨by omega, by omega⟩ ?_
          refine wN_mov (v := iv ((i : Int) + 1)) rfl ?_
          refine wN_end ?_
          exact ⟨k - 1, i + 1, by omega, ⟨by omega, hk, hr, by rw [all_step hx, hall, hok]; rfl⟩, rfl, rfl, rfl, rfl, trivial⟩
    · have q2 : ¬ ((i : Int) < (n : Int)) := of_decide_eq_false q2
      have hvd : rwsOk rs = true := by have := hr.rl; rw [List.take_of_length_le (by omega)] at hall; unfold rwsOk; rw [hall, decide_eq_true (by omega)]; rfl
      first | (refine wN_exit ?_; show wC _ _ _ _ _ _ _ _ _) | skip
      refine wN_seq ?_
      refine wN_mov (v := iv b) rfl ?_
      refine wN_callB rfl (in28_ok) ?_
      intro tH2 H2 hH2 kH2
      have mH2 := kH2.1
      have hk := hk.trans kH2
      have hr := hr.keep kH2 (by simp)
      cases tH2
      · have fhH2 := inB_f hH2
        refine wN_pur (v := .bool true) rfl rfl ?_
        refine wN_mov (v := .bool true) rfl ?_
        refine wN_gs rfl ?_
        refine wN_gs rfl ?_
        refine wN_gs rfl ?_
        refine wN_pur (v := .bool true) rfl rfl ?_
        refine wN_end ?_
        refine condT ?_
        refine wN_seq ?_
        refine wN_mov (v := iv 0) rfl ?_
        refine wN_mov (v := iv 2) rfl ?_
        refine wN_end ?_
        have e1 : boE rs b m = 2 := by unfold boE; rw [if_pos hvd, if_neg (by simp only [isw, Bool.and_eq_true, Bool.and_eq_false_iff, Bool.or_eq_true, Bool.or_eq_false_iff, Bool.not_eq_true', Bool.not_eq_false', decide_eq_true_eq, decide_eq_false_iff_not]; omega)]
        have e2 : boN rs b m = 0 := by unfold boN; rw [e1]; rfl
        exact And.intro trivial (Exists.intro _ (And.intro rfl ⟨by rw [e1, e2]; rfl, hk⟩))
      · have fhH2 := inB_t hH2
        refine wN_pur (v := .bool false) rfl rfl ?_
        refine wN_mov (v := .bool false) rfl ?_
        refine wN_g rfl (wN_mov (v := iv m) rfl ?_)
        refine wN_g rfl (wN_callB rfl (in28_ok) ?_)
        intro tH3 H3 hH3 kH3
        have mH3 := kH3.1
        have hk := hk.trans kH3
        have hr := hr.keep kH3 (by simp)
        cases tH3
        · have fhH3 := inB_f hH3
          refine wN_g rfl (wN_pur (v := .bool true) rfl rfl ?_)
          refine wN_pur (v := .bool true) rfl rfl ?_
          refine wN_end ?_
          refine condT ?_
          refine wN_seq ?_
          refine wN_mov (v := iv 0) rfl ?_
          refine wN_mov (v := iv 2) rfl ?_
          refine wN_end ?_
          have e1 : boE rs b m = 2 := by unfold boE; rw [if_pos hvd, if_neg (by simp only [isw, Bool.and_eq_true, Bool.and_eq_false_iff, Bool.or_eq_true, Bool.or_eq_false_iff, Bool.not_eq_true', Bool.not_eq_false', decide_eq_true_eq, decide_eq_false_iff_not]; omega)]
          have e2 : boN rs b m = 0 := by unfold boN; rw [e1]; rfl
          exact And.intro trivial (Exists.intro _ (And.intro rfl ⟨by rw [e1, e2]; rfl, hk⟩))
        · have fhH3 := inB_t hH3
          refine wN_g rfl (wN_pur (v := .bool false) rfl rfl ?_)
          refine wN_pur (v := .bool false) rfl rfl ?_
          refine wN_end ?_
          refine condF ?_
          first | refine wN_skip ?_ | skip
          refine wN_seq ?_
          refine wN_mov (v := iv 0) rfl ?_
          refine wN_end ?_
          refine wN_seq ?_
          refine wN_mov (v := iv 0) rfl ?_
          refine wN_end ?_
          refine loop_low (fn := Try.f20) E20_3 N20 L20x3 (fun i : Nat => [(0, .slice sa n cap), (1, iv b), (2, iv m), (10, iv (cntB (rs.take i) b m)), (11, iv (i : Int))])
            (fun k i H' => i + k = n ∧ Keep H H' [] ∧ Rws H' f sa n cap rs) n 0 ⟨by omega, hk, hr⟩ ⟨rfl, rfl, rfl, rfl, rfl, trivial⟩ ?_
          rintro k i L3 ⟨hik, hk, hr⟩
          have mk0 := hk.1
          have hrl := hr.rl
          have hct := cntB_take_in rs b m i
          refine wN_seq ?_
          refine wN_mov (v := iv (i : Int)) rfl ?_
          refine wN_mov (v := .slice sa n cap) rfl ?_
          refine wN_len (m := n) rfl ?_
          refine wN_c_lss (a := (i : Int)) (b := (n : Int)) rfl rfl ?_
          refine wN_end ?_
          refine And.intro (fun q5 => ?_) (fun q5 => ?_)
          · have q5 : (i : Int) < (n : Int) := of_decide_eq_true q5
            have hi : i < n := by omega
            obtain ⟨sb, so, cs, x, hx, esb, rsb, lsf, lcap, hat, hmem⟩ := hr.opn hi
            have hrx := hr.ri x hmem
            first | refine wN_skip ?_ | skip
            refine wN_seq ?_
            refine wN_mov (v := .slice sa n cap) rfl ?_
            refine wN_mov (v := iv (i : Int)) rfl ?_
            refine wN_idx (b := sb) (o := so) (k := i) (j := (i : Int)) (by rw [← esb]; rfl) rfl rfl hi ?_
            refine wN_ld (b := sb) (o := so + i * 1) (v := .slice x.ra x.n x.cap) rfl rsb hat ?_
            refine wN_mov (v := iv b) rfl ?_
            refine wN_mov (v := iv m) rfl ?_
            obtain ⟨H4, fH4, kH4⟩ := ref24_ok (kn := kn) (lo := lo) (H := L3) (b := b) (m := m) hrx.1 hrx.2.1 (hm x hmem)
            refine wN_callf (vs := [.slice x.ra x.n x.cap, iv b, iv m]) rfl (callX_args fH4) ?_
            have mH4 := kH4.1
            have hk := hk.trans kH4
            have hr := hr.keep kH4 (by simp)
            have rsb := kH4.rd rsb (by simp)
            cases hbn : bnc x.l b m
            · refine wN_end ?_
              refine condF ?_
              first | refine wN_skip ?_ | skip
              first | refine wN_reg ?_ | refine wN_blk ?_ | refine wN_bseq ?_ | (refine wOps_nil ?_; refine wN_reg ?_)
              refine wN_mov (v := iv (i : Int)) rfl ?_
              refine wN_add (a := (i : Int)) (b := 1) rfl rfl ⟨by omega, by omega⟩ ?_
              refine wN_mov (v := iv ((i : Int) + 1)) rfl ?_
              refine wN_end ?_
              exact ⟨k - 1, i + 1, by omega, ⟨by omega, hk, hr⟩, rfl, rfl, rfl, by rw [cntB_step hx, hbn]; simp; rfl, rfl, trivial⟩
            · refine wN_end ?_
              refine condT ?_
              first | refine wN_reg ?_ | refine wN_blk ?_ | refine wN_bseq ?_ | (refine wOps_nil ?_; refine wN_reg ?_)
              refine wN_mov (v := iv (cntB (rs.take i) b m)) rfl ?_
              refine wN_add (a := (cntB (rs.take i) b m)) (b := 1) rfl rfl ⟨by omega, by omega⟩ ?_
              refine wN_mov (v := iv ((cntB (rs.take i) b m) + 1)) rfl ?_
              refine wN_end ?_
              first | refine wN_reg ?_ | refine wN_blk ?_ | refine wN_bseq ?_ | (refine wOps_nil ?_; refine wN_reg ?_)
              refine wN_mov (v := iv (i : Int)) rfl ?_
              refine wN_add (a := (i : Int)) (b := 1) rfl rfl ⟨by omega, by omega⟩ ?_
              refine wN_mov (v := iv ((i : Int) + 1)) rfl ?_
              refine wN_end ?_
              exact ⟨k - 1, i + 1, by omega, ⟨by omega, hk, hr⟩, rfl, rfl, rfl, by rw [cntB_step hx, hbn]; simp; rfl, rfl, trivial⟩
          · have q5 : ¬ ((i : Int) < (n : Int)) := of_decide_eq_false q5
            first | (refine wN_exit ?_; show wC _ _ _ _ _ _ _ _ _) | skip
            refine wN_seq ?_
            refine wN_mov (v := iv (cntB (rs.take i) b m)) rfl ?_
            refine wN_mov (v := iv (cntB (rs.take i) b m)) rfl ?_
            refine wN_mov (v := iv 0) rfl ?_
            refine wN_end ?_
            have e1 : boE rs b m = 0 := by unfold boE; rw [if_pos hvd, if_pos (by simp only [isw, Bool.and_eq_true, Bool.and_eq_false_iff, Bool.or_eq_true, Bool.or_eq_false_iff, Bool.not_eq_true', Bool.not_eq_false', decide_eq_true_eq, decide_eq_false_iff_not]; omega)]
            have e2 : boN rs b m = cntB rs b m := by unfold boN; rw [e1]; rfl
            rw [List.take_of_length_le (by omega)]
            exact And.intro trivial (Exists.intro _ (And.intro rfl ⟨by rw [e1, e2]; rfl, hk⟩))
end
end Go.Ax

/-
  Station: berries: firstTries, bouncing, Bounce (written by program).
-/
namespace Go.Ax
open Go Go.RowKit Go.Proofs

noncomputable abbrev asg35 : Code := at_ Try.f35 [1, 0, 1, 1, 0, 1, 0, 0]
noncomputable abbrev body35 : Code := at_ Try.f35 [1, 0, 1, 1, 0, 1, 0, 1]
abbrev S35 (bk : Nat) : Rg := [(4, pt bk), (7, pt (bk + 1))]
def kmin (m : Int) (n : Nat) : Nat := (min m (n : Int)).toNat
/-- what lies where behind i berries -/
structure J35 (H0 : Hp) (sa : Option Addr) (n cap : Nat) (rs : List Rw) (b m : Int) (bk rb tb l : Nat) (i : Nat) (H' : Hp) : Prop where
  kp : Keep H0 H' []
  hr : Rws H' H0.next sa n cap rs
  cb : Rd H' bk [iv b]
  cn : Cl H' (bk + 1) [iv (cntB (rs.take i) b m)]
  cr : Rd H' rb [.slice sa n cap]
  ct : Rd H' tb [iv m]
  lp : Lp Try.prog H' l .ready none 28 (S35 bk) [14] asg35 body35 (l - 1)
  dfr : H'.t.get (l - 1) = some (.dfr (some []))
  ll : l < H'.next
section
variable {kn : FuncId → Option Bool} {lo : Nat} {H : Hp}

/-- firstTries -/
theorem first55_ok {sa : Option Addr} {n cap : Nat} {m : Int} (hlo : lo ≤ H.next) : ∃ H', FnX Try.prog kn lo 55 [.slice sa n cap, iv m] H (.func (.func 64) #[] #[pt H.next, pt (H.next + 1)]) H' ∧ Keep H H' [] ∧ H'.next = H.next + 2 ∧ Rd H' H.next [.slice sa n cap] ∧ Rd H' (H.next + 1) [iv m] := by
  have key := fnX_low (kn := kn) (lo := lo) (H := H) (args := [.slice sa n cap, iv m]) (Q := fun w H' => w = .func (.func 64) #[] #[pt H.next, pt (H.next + 1)] ∧ Keep H H' [] ∧ H'.next = H.next + 2 ∧ Rd H' H.next [.slice sa n cap] ∧ Rd H' (H.next + 1) [iv m]) Try.func55 B55 N55 Z55 L55 (by simp) ?_
  · obtain ⟨w, H', h, rfl, q⟩ := key; exact ⟨H', h, q⟩
  refine wN_seq ?_
  refine wN_box (v := .slice sa n cap) rfl ?_
  intro H1 k1 n1 c1
  have c1 : Cl H1 H.next [.slice sa n cap] := c1
  refine wN_box (v := iv m) rfl ?_
  intro H2 k2 n2 c2
  have c2 : Cl H2 H1.next [iv m] := c2
  rw [n1] at c2 ⊢
  refine wN_mov (v := .nilFunc) rfl ?_
  refine wN_end ?_
  refine wN_seq ?_
  refine wN_pur (v := .func (.func 64) #[] #[pt H.next, pt (H.next + 1)]) rfl (by kernel_rfl) ?_
  refine wN_mov (v := .func (.func 64) #[] #[pt H.next, pt (H.next + 1)]) rfl ?_
  refine wN_end ?_
  exact And.intro trivial (Exists.intro _ (And.intro rfl ⟨rfl, k1.trans k2, by omega, (k2.cl c1 (by simp)).rd, c2.rd⟩))
set_option maxRecDepth 100000 in
/-- firstTries's iterator -/
theorem iter64_ok {sa : Option Addr} {n cap f rb tb l : Nat} {rs : List Rw} {m : Int} (hm0 : 0 ≤ m) {J : Nat → Hp → Prop} (hJ : J 0 H) (hJe : ∀ i H1, J i H1 → Rd H1 rb [.slice sa n cap] ∧ Rd H1 tb [iv m] ∧ Rws H1 f sa n cap rs)
    (hn : n ≤ 1000000) (step : ∀ i x H1, i < n → rs[i]? = some x → J i H1 → ∃ H', CallsX Try.prog kn lo (.fn (.yield l) #[]) [.slice x.ra (kmin m x.n) x.cap] H1 (.bool true) H' ∧ J (i + 1) H') :
    ∃ H', FnX Try.prog kn lo 64 [.func (.yield l) #[] #[], pt rb, pt tb] H unit H' ∧ J n H' := by
  have key := fnX_low (kn := kn) (lo := lo) (H := H) (args := [.func (.yield l) #[] #[], pt rb, pt tb]) (Q := fun w H' => w = unit ∧ J n H') Try.func64 B64 N64 Z64 L64 (by simp) ?_
  · obtain ⟨w, H', h, rfl, q⟩ := key; exact ⟨H', h, q⟩
  obtain ⟨hcr, hct, hr⟩ := hJe _ _ hJ
  refine wN_seq ?_
  refine wN_ld (b := rb) (o := 0) (v := .slice sa n cap) rfl hcr rfl ?_
  refine wN_len (m := n) rfl ?_
  refine wN_mov (v := iv 0) rfl ?_
  refine wN_end ?_
  refine loop_low (fn := Try.f64) E64_1 N64 L64x1 (fun i : Nat => [(0, .func (.yield l) #[] #[]), (1, pt rb), (2, pt tb), (6, .slice sa n cap), (7, iv (n : Int)), (8, iv (i : Int))])
    (fun k i H' => i + k = n ∧ J i H') n 0 ⟨by omega, hJ⟩ ⟨rfl, rfl, rfl, rfl, rfl, rfl, trivial⟩ ?_
  rintro k i L1 ⟨hik, hj⟩
  obtain ⟨hcr, hct, hr⟩ := hJe _ _ hj
  refine wN_seq ?_
  refine wN_c_lss (a := (i : Int)) (b := (n : Int)) rfl rfl ?_
  refine wN_end ?_
  refine And.intro (fun q1 => ?_) (fun q1 => ?_)
  · have q1 : (i : Int) < (n : Int) := of_decide_eq_true q1
    have hi : i < n := by omega
    obtain ⟨sb, so, cs, x, hx, esb, rsb, lsf, lcap, hat, hmem⟩ := hr.opn hi
    have hrx := hr.ri x hmem
    first | refine wN_skip ?_ | skip
    refine wN_seq ?_
    refine wN_idx (b := sb) (o := so) (k := i) (j := (i : Int)) (by rw [← esb]; rfl) rfl rfl hi ?_
    refine wN_ld (b := sb) (o := so + i * 1) (v := .slice x.ra x.n x.cap) rfl rsb hat ?_
    refine wN_mov (v := .slice x.ra x.n x.cap) rfl ?_
    refine wN_end ?_
    refine wN_seq ?_
    refine wN_mov (v := .func (.yield l) #[] #[]) rfl ?_
    refine wN_mov (v := .slice x.ra x.n x.cap) rfl ?_
    refine wN_ld (b := tb) (o := 0) (v := iv m) rfl hct rfl ?_
    refine wN_mov (v := .slice x.ra x.n x.cap) rfl ?_
    refine wN_len (m := x.n) rfl ?_
    refine wN_mm (a := m) (b := (x.n : Int)) rfl rfl ?_
    have hkm : (kmin m x.n : Int) = min m (x.n : Int) := by unfold kmin; omega
    have hkl : kmin m x.n ≤ x.n := by omega
    obtain ⟨kd, hop, hkd⟩ := heap_upto (lo := lo) hrx.1 (fun b e => (hrx.2.2 b e).2) hkl
    refine wN_memh (k := kd) rfl (by kernel_rfl) (hop _ _ _ _ _ _ _ rfl (by rw [hkm]; rfl)) hkd ?_
    obtain ⟨H2, f2, hj2⟩ := step i x _ hi hx hj
    refine wN_callf (vs := [.slice x.ra (kmin m x.n) x.cap]) rfl f2 ?_
    refine wN_pur (v := .bool false) rfl rfl ?_
    refine wN_end ?_
    refine condF ?_
    first | refine wN_skip ?_ | skip
    first | refine wN_reg ?_ | refine wN_blk ?_ | refine wN_bseq ?_ | (refine wOps_nil ?_; refine wN_reg ?_)
    refine wN_add (a := (i : Int)) (b := 1) rfl rfl ⟨by omega, by omega⟩ ?_
    refine wN_mov (v := iv ((i : Int) + 1)) rfl ?_
    refine wN_end ?_
    exact ⟨k - 1, i + 1, by omega, ⟨by omega, hj2⟩, rfl, rfl, rfl, rfl, rfl, rfl, trivial⟩
  · have q1 : ¬ ((i : Int) < (n : Int)) := of_decide_eq_false q1
    have e : i = n := by omega
    exact And.intro trivial (Exists.intro _ (And.intro rfl ⟨rfl, by rw [← e]; exact hj⟩))
theorem bnc_take {l : List Int} {b m : Int} {n : Nat} (hl : l.length = n) (hm : 0 ≤ m) : bnc l b m = (l.take (kmin m n)).any fun h => decide (b ≤ h) := by
  unfold bnc kmin
  rcases Int.lt_or_le m n with q | q
  · rw [Int.min_eq_left (by omega)]
  · rw [Int.min_eq_right q, List.take_of_length_le (by omega), List.take_of_length_le (by simp; omega)]
set_option maxRecDepth 100000 in
theorem round35 {H0 : Hp} {sa : Option Addr} {n cap bk rb tb l i : Nat} {rs : List Rw} {x : Rw} {b m : Int} (hm0 : 0 ≤ m) (hi : i < n) (hn : n ≤ 1000000) (hx : rs[i]? = some x) (hxm : x.n ≤ 1000000) (hlo : lo ≤ H0.next) (hbk : H0.next ≤ bk) (hbl : bk + 1 < rb) (hrt : rb < tb) (htl : tb + 1 < l) (j : J35 H0 sa n cap rs b m bk rb tb l i H) :
    ∃ H', CallsX Try.prog kn lo (.fn (.yield l) #[]) [.slice x.ra (kmin m x.n) x.cap] H (.bool true) H' ∧ J35 H0 sa n cap rs b m bk rb tb l (i + 1) H' := by
  have L1 : low Try.prog 28 asg35 = some R35x1 := N35 ▸ L35x1
  have L2 : low Try.prog 28 body35 = some R35x2 := N35 ▸ L35x2
  have ll := j.ll
  have hmem := List.mem_of_getElem? hx
  have hrl := j.hr.rl
  have key := yield_ok (kn := kn) (P := Try.prog) (lo := lo) (S1 := (14, .slice x.ra (kmin m x.n) x.cap) :: S35 bk) (args := [.slice x.ra (kmin m x.n) x.cap]) (Q := fun t H' => t = true ∧ J35 H0 sa n cap rs b m bk rb tb l (i + 1) H') j.lp (by omega) (by rfl) rfl (wC_sound true _ L1 ?_)
  · obtain ⟨t, H', h1, h2, h3⟩ := key; subst h2; exact ⟨H', h1, h3⟩
  refine wN_reg ?_
  refine wN_mov (v := .slice x.ra (kmin m x.n) x.cap) rfl ?_
  refine wN_end ?_
  refine And.intro trivial (And.intro j.lp ?_)
  intro H4 s4
  have k4 := s4.keep
  have lp4 := s4.lp j.lp
  have hn4 : H4.next = H.next := s4.1
  have nl : ∀ y, y ≠ l → y ∉ [l] := fun y hy => by simpa using hy
  have nw : ∀ y ∈ [l], H0.next ≤ y := fun y hy => by simp at hy; omega
  have hr4 := j.hr.keep k4 nw
  have cb4 := k4.rd j.cb (nl _ (by omega))
  have cn4 := k4.cl j.cn (nl _ (by omega))
  have cr4 := k4.rd j.cr (nl _ (by omega))
  have ct4 := k4.rd j.ct (nl _ (by omega))
  have df4 : H4.t.get (l - 1) = some (.dfr (some [])) := by rw [k4.2 _ (by omega) (nl _ (by omega))]; exact j.dfr
  have kp4 : Keep H0 H4 [] := j.kp.new k4 (fun y hy => .inr (nw y hy))
  have hrx := hr4.ri x hmem
  have hct := cntB_take_in rs b m i
  have hkl : kmin m x.n ≤ x.n := by unfold kmin; omega
  have hlx := hrx.2.1
  -- what is behind, whatever the berry did
  have fin : ∀ H5, Keep H4 H5 [bk + 1] → Cl H5 (bk + 1) [iv (cntB (rs.take (i + 1)) b m)] → Lp Try.prog H5 l .busy none 28 (S35 bk) [14] asg35 body35 (l - 1) ∧ ∀ H6, SetLp H5 l .ready none H6 → true = true ∧ J35 H0 sa n cap rs b m bk rb tb l (i + 1) H6 := by
    intro H5 k5 c5
    have m5 := k5.1
    have lp5 := lp4.keep k5 (by omega) (by simp; omega)
    refine ⟨lp5, fun H6 s6 => ⟨rfl, ?_⟩⟩
    have k6 := s6.keep
    have hn6 : H6.next = H5.next := s6.1
    have nb : ∀ y, y ≠ bk + 1 → y ∉ [bk + 1] := fun y hy => by simpa using hy
    exact ⟨(kp4.new k5 (fun y hy => .inr (by simp at hy; omega))).new k6 (fun y hy => .inr (nw y hy)), (hr4.keep k5 (fun y hy => by simp at hy; omega)).keep k6 nw, k6.rd (k5.rd cb4 (nb _ (by omega))) (nl _ (by omega)), k6.cl c5 (nl _ (by omega)),
      k6.rd (k5.rd cr4 (nb _ (by omega))) (nl _ (by omega)), k6.rd (k5.rd ct4 (nb _ (by omega))) (nl _ (by omega)), s6.lp lp5, by rw [k6.2 _ (by omega) (nl _ (by omega)), k5.2 _ (by omega) (nb _ (by omega))]; exact df4, by omega⟩
  refine wC_sound true _ L2 ?_
  refine wN_seq ?_
  refine wN_mov (v := .slice x.ra (kmin m x.n) x.cap) rfl ?_
  refine wN_len (m := kmin m x.n) rfl ?_
  refine wN_mov (v := iv 0) rfl ?_
  refine wN_end ?_
  refine loop_low (fn := Try.f35) E35_3 N35 L35x3 (fun q : Nat => [(4, pt bk), (7, pt (bk + 1)), (15, .slice x.ra (kmin m x.n) x.cap), (16, iv (kmin m x.n : Int)), (17, iv (q : Int))])
    (fun k q H' => q + k = kmin m x.n ∧ H' = H4 ∧ (x.l.take q).any (fun h => decide (b ≤ h)) = false) (kmin m x.n) 0 ⟨by omega, rfl, rfl⟩ ⟨rfl, rfl, rfl, rfl, rfl, trivial⟩ ?_
  rintro k q L1 ⟨hqk, rfl, hall⟩
  refine wN_seq ?_
  refine wN_c_lss (a := (q : Int)) (b := (kmin m x.n : Int)) rfl rfl ?_
  refine wN_end ?_
  refine And.intro (fun q1 => ?_) (fun q1 => ?_)
  · have q1 : (q : Int) < (kmin m x.n : Int) := of_decide_eq_true q1
    have hq : q < kmin m x.n := by omega
    obtain ⟨z, hz⟩ := get_some (l := x.l) (i := q) (by omega)
    have hs := hrx.1
    rcases hs with ⟨_, h0, _⟩ | ⟨xb, exb, rxb, _⟩
    · omega
    first | refine wN_skip ?_ | skip
    refine wN_seq ?_
    refine wN_idx (b := xb) (o := 0) (k := q) (j := (q : Int)) (by rw [← exb]; rfl) rfl rfl hq ?_
    refine wN_ld (b := xb) (o := 0 + q * 1) (v := iv z) rfl rxb (ints_at hz) ?_
    refine wN_mov (v := iv z) rfl ?_
    refine wN_end ?_
    refine wN_seq ?_
    refine wN_mov (v := iv z) rfl ?_
    refine wN_ld (b := bk) (o := 0) (v := iv b) rfl cb4 rfl ?_
    refine wN_c_geq (a := z) (b := b) rfl rfl ?_
    refine wN_end ?_
    refine And.intro (fun q2 => ?_) (fun q2 => ?_)
    · have q2 : z ≥ b := of_decide_eq_true q2
      refine wN_seq ?_
      refine wN_ld (b := bk + 1) (o := 0) (v := iv (cntB (rs.take i) b m)) rfl cn4.rd rfl ?_
      refine wN_add (a := cntB (rs.take i) b m) (b := 1) rfl rfl ⟨by omega, by omega⟩ ?_
      refine wN_st (b := bk + 1) (o := 0) (v := iv (cntB (rs.take i) b m + 1)) rfl rfl cn4 (by omega) rfl rfl (by simp) ?_
      intro H5 k5 n5 c5
      have hb : bnc x.l b m = true := by rw [bnc_take hlx hm0]; exact any_hit hz hq (decide_eq_true (by omega))
      have c5 : Cl H5 (bk + 1) [iv (cntB (rs.take (i + 1)) b m)] := by rw [cntB_step hx, hb]; exact c5
      refine wN_end ?_
      obtain ⟨f1, f2⟩ := fin H5 k5 c5
      exact And.intro f1 f2
    · have q2 : ¬ z ≥ b := of_decide_eq_false q2
      first | refine wN_skip ?_ | skip
      first | refine wN_reg ?_ | refine wN_blk ?_ | (refine wOps_nil ?_; refine wN_reg ?_)
      refine wN_add (a := (q : Int)) (b := 1) rfl rfl ⟨by omega, by omega⟩ ?_
      refine wN_mov (v := iv ((q : Int) + 1)) rfl ?_
      refine wN_end ?_
      exact ⟨k - 1, q + 1, by omega, ⟨by omega, rfl, by rw [any_step hz, hall]; exact decide_eq_false (by omega)⟩, rfl, rfl, rfl, rfl, rfl, trivial⟩
  · have q1 : ¬ ((q : Int) < (kmin m x.n : Int)) := of_decide_eq_false q1
    have e : q = kmin m x.n := by omega
    have hb : bnc x.l b m = false := by rw [bnc_take hlx hm0, ← e]; exact hall
    obtain ⟨f1, f2⟩ := fin L1 (Keep.refl _ _) (by rw [cntB_step hx, hb]; simpa using cn4)
    exact And.intro f1 f2
set_option maxRecDepth 100000 in
/-- bouncing -/
theorem bounce35_ok {sa : Option Addr} {n cap : Nat} {rs : List Rw} {b m : Int} (hm0 : 0 ≤ m) (hr : Rws H H.next sa n cap rs) (hm : ∀ r ∈ rs, r.n ≤ 1000000) (hn : n ≤ 1000000) (hlo : lo ≤ H.next) :
    ∃ H', FnX Try.prog kn lo 35 [.slice sa n cap, iv b, iv m] H (iv (cntB rs b m)) H' ∧ Keep H H' [] := by
  have key := fnX_lowR (kn := kn) (lo := lo) (H := H) (args := [.slice sa n cap, iv b, iv m]) (Q := fun w H' => w = iv (cntB rs b m) ∧ Keep H H' []) Try.func35 B35 N35 Z35 L35 (by simp) ?_
  · obtain ⟨w, H', h, rfl, q⟩ := key; exact ⟨H', h, q⟩
  intro y hy
  refine TriR.lowR hy ?_
  refine wN_reg ?_
  refine wN_box (v := iv b) rfl ?_
  intro H1 k1 n1 c1
  have c1 : Cl H1 H.next [iv b] := c1
  refine wN_mov (v := iv 0) rfl ?_
  refine wN_end ?_
  intro y hy
  refine TriR.lowS hy ?_
  intro y hy
  refine TriR.lowR hy ?_
  refine wN_reg ?_
  refine wN_alc ?_
  intro H2 k2 n2 c2
  refine wN_st (b := H1.next) (o := 0) (v := iv 0) rfl rfl c2 (by omega) rfl rfl (by simp) ?_
  intro H3 k3 n3 c3
  have c3 : Cl H3 H1.next [iv 0] := c3
  refine wN_end ?_
  intro y hy
  refine TriR.lowR hy ?_
  refine wN_skip ?_
  intro y hy
  refine TriR.lowL hy ?_
  intro z hz
  refine TriR.lowR hz ?_
  refine wN_reg ?_
  refine wN_mov (v := .slice sa n cap) rfl ?_
  refine wN_mov (v := iv m) rfl ?_
  obtain ⟨H4, f4, k4, n4, r4, t4⟩ := first55_ok (kn := kn) (lo := lo) (H := H3) (sa := sa) (n := n) (cap := cap) (m := m) (by omega)
  refine wN_callf (vs := [.slice sa n cap, iv m]) rfl (callX_args f4) ?_
  refine wN_end ?_
  intro y hy
  refine TriR.lowB hy ?_
  rw [E35_1]
  refine TriR.range rfl ?_
  intro H5 k5 n5 hdf hlp
  have e1 : H1.next = H.next + 1 := by omega
  have e3 : H3.next = H.next + 2 := by omega
  have e4 : H4.next = H.next + 4 := by omega
  have hlp : Lp Try.prog H5 (H4.next + 1) .ready none 28 [(4, pt H.next), (7, pt H1.next)] [14] asg35 body35 H4.next := hlp.weak ⟨rfl, rfl, trivial⟩
  rw [e1, e4] at hlp
  rw [e4] at hdf n5
  rw [e3] at r4 t4
  have k25 : Keep H2 H5 [H1.next] := (k3.trans (k4.mono (by simp))).trans (k5.mono (by simp))
  have k15 : Keep H1 H5 [] := k2.new k25 (fun y hy => .inr (by simp at hy; omega))
  have k05 : Keep H H5 [] := k1.trans k15
  have k35 : Keep H3 H5 [] := k4.trans k5
  have j0 : J35 H sa n cap rs b m H.next (H.next + 2) (H.next + 2 + 1) (H.next + 4 + 1) 0 H5 := ⟨k05, hr.keep k05 (by simp), (k15.cl c1 (by simp)).rd, by have := k35.cl c3 (by simp); rw [e1] at this; exact this, k5.rd r4 (by simp), k5.rd t4 (by simp), hlp, hdf, by omega⟩
  obtain ⟨H6, f6, j6⟩ := iter64_ok (kn := kn) (lo := lo) (H := H5) (l := H.next + 4 + 1) (J := J35 H sa n cap rs b m H.next (H.next + 2) (H.next + 2 + 1) (H.next + 4 + 1)) hm0 j0 (fun i H1' j => ⟨j.cr, j.ct, j.hr⟩) hn
    (fun i x H1' hi hx j => round35 hm0 hi hn hx (hm x (List.mem_of_getElem? hx)) hlo (Nat.le_refl _) (by omega) (by omega) (by omega) j)
  refine Exists.intro _ (Exists.intro H6 (And.intro (callX_func rfl (by rw [e4, e3]; simpa using f6)) ?_))
  have lp6 : Lp Try.prog H6 (H4.next + 1) .ready none 28 (S35 H.next) [14] asg35 body35 H4.next := by rw [e4]; exact j6.lp
  refine ⟨.ready, none, _, lp6, by simp, ?_⟩
  intro H7 s7
  have k7 := s7.keep
  have hn7 : H7.next = H6.next := s7.1
  rw [e4] at k7
  have ll := j6.ll
  have nl : ∀ y, y ≠ H.next + 4 + 1 → y ∉ [H.next + 4 + 1] := fun y hy => by simpa using hy
  have d7 : H7.t.get H4.next = some (.dfr (some [])) := by rw [e4, k7.2 _ (by omega) (nl _ (by omega))]; exact j6.dfr
  have c7 := k7.cl j6.cn (nl _ (by omega))
  rw [List.take_of_length_le (by have := hr.rl; omega), ← e1] at c7
  have kp7 : Keep H H7 [] := j6.kp.new k7 (fun y hy => .inr (by simp at hy; omega))
  refine wN_seq ?_
  refine wN_ld (b := H1.next) (o := 0) (v := iv (cntB rs b m)) rfl c7.rd rfl ?_
  refine wN_mov (v := iv (cntB rs b m)) rfl ?_
  refine wN_end ?_
  refine And.intro trivial (Or.inr ⟨H4.next, rfl, by omega, d7, fun H8 hn8 k8 => ?_⟩)
  exact ⟨_, rfl, rfl, kp7.new k8 (fun y hy => .inr (by simp at hy; omega))⟩
theorem Rws.upTo {H : Hp} {f f' : Nat} {sa : Option Addr} {n cap : Nat} {rs : List Rw} (h : Rws H f sa n cap rs) (hf : f ≤ f') : Rws H f' sa n cap rs where
  r := h.r.imp id fun ⟨b, o, cs, e, r, hb, q⟩ => ⟨b, o, cs, e, r, by omega, q⟩
  rl := h.rl
  ri := fun r hq => by
    obtain ⟨h1, h2, h3⟩ := h.ri r hq
    exact ⟨h1, h2, fun x e => ⟨by have := (h3 x e).1; omega, (h3 x e).2⟩⟩
/-- Bounce -/
theorem bounce19_ok {sa : Option Addr} {n cap f : Nat} {rs : List Rw} {b m : Int} (hr : Rws H f sa n cap rs) (hf : f ≤ H.next) (hm : ∀ r ∈ rs, r.n ≤ 1000000) (hn : n ≤ 1000000) (hlo : lo ≤ H.next) :
    ∃ H', FnX Try.prog kn lo 19 [.slice sa n cap, iv b, iv m] H (.tuple #[iv (boN rs b m), iv (boE rs b m)]) H' ∧ Keep H H' [] := by
  have key := fnX_low (kn := kn) (lo := lo) (H := H) (args := [.slice sa n cap, iv b, iv m]) (Q := fun w H' => w = (.tuple #[iv (boN rs b m), iv (boE rs b m)]) ∧ Keep H H' []) Try.func19 B19 N19 Z19 L19 (by simp) ?_
  · obtain ⟨w, H', h, rfl, q⟩ := key; exact ⟨H', h, q⟩
  have hk := Keep.refl H []
  refine wN_seq ?_
  refine wN_mov (v := iv 0) rfl ?_
  refine wN_mov (v := iv 0) rfl ?_
  refine wN_end ?_
  refine wN_seq ?_
  refine wN_mov (v := .slice sa n cap) rfl ?_
  refine wN_callB rfl (valid34_ok hr hm) ?_
  intro tH1 H1 hH1 kH1
  have mH1 := kH1.1
  have hk := hk.trans kH1
  have hr := hr.keep kH1 (by simp)
  cases tH1
  · have hvd : rwsOk rs = false := hH1
    refine wN_pur (v := .bool true) rfl rfl ?_
    refine wN_end ?_
    refine condT ?_
    refine wN_seq ?_
    refine wN_mov (v := iv 0) rfl ?_
    refine wN_mov (v := iv 1) rfl ?_
    refine wN_end ?_
    have e1 : boE rs b m = 1 := by unfold boE; rw [hvd]; rfl
    have e2 : boN rs b m = 0 := by unfold boN; rw [e1]; rfl
    exact And.intro trivial (Exists.intro _ (And.intro rfl ⟨by rw [e1, e2]; rfl, hk⟩))
  · have hvd : rwsOk rs = true := hH1
    refine wN_pur (v := .bool false) rfl rfl ?_
    refine wN_end ?_
    refine condF ?_
    first | refine wN_skip ?_ | skip
    refine wN_seq ?_
    refine wN_mov (v := iv b) rfl ?_
    refine wN_callB rfl (isw_ok) ?_
    intro tH2 H2 hH2 kH2
    have mH2 := kH2.1
    have hk := hk.trans kH2
    have hr := hr.keep kH2 (by simp)
    cases tH2
    · have fhH2 := isw_f hH2
      refine wN_pur (v := .bool true) rfl rfl ?_
      refine wN_mov (v := .bool true) rfl ?_
      refine wN_gs rfl ?_
      refine wN_gs rfl ?_
      refine wN_gs rfl ?_
      refine wN_pur (v := .bool true) rfl rfl ?_
      refine wN_end ?_
      refine condT ?_
      refine wN_seq ?_
      refine wN_mov (v := iv 0) rfl ?_
      refine wN_mov (v := iv 2) rfl ?_
      refine wN_end ?_
      have e1 : boE rs b m = 2 := by unfold boE; rw [if_pos hvd, if_neg (by simp only [isw, Bool.and_eq_true, Bool.and_eq_false_iff, Bool.or_eq_true, Bool.or_eq_false_iff, Bool.not_eq_true', Bool.not_eq_false', decide_eq_true_eq, decide_eq_false_iff_not]; omega)]
      have e2 : boN rs b m = 0 := by unfold boN; rw [e1]; rfl
      exact And.intro trivial (Exists.intro _ (And.intro rfl ⟨by rw [e1, e2]; rfl, hk⟩))
    · have fhH2 := isw_t hH2
      refine wN_pur (v := .bool false) rfl rfl ?_
      refine wN_mov (v := .bool false) rfl ?_
      refine wN_g rfl (wN_mov (v := iv m) rfl ?_)
      refine wN_g rfl (wN_callB rfl (isw_ok) ?_)
      intro tH3 H3 hH3 kH3
      have mH3 := kH3.1
      have hk := hk.trans kH3
      have hr := hr.keep kH3 (by simp)
      cases tH3
      · have fhH3 := isw_f hH3
        refine wN_g rfl (wN_pur (v := .bool true) rfl rfl ?_)
        refine wN_pur (v := .bool true) rfl rfl ?_
        refine wN_end ?_
        refine condT ?_
        refine wN_seq ?_
        refine wN_mov (v := iv 0) rfl ?_
        refine wN_mov (v := iv 2) rfl ?_
        refine wN_end ?_
        have e1 : boE rs b m = 2 := by unfold boE; rw [if_pos hvd, if_neg (by simp only [isw, Bool.and_eq_true, Bool.and_eq_false_iff, Bool.or_eq_true, Bool.or_eq_false_iff, Bool.not_eq_true', Bool.not_eq_false', decide_eq_true_eq, decide_eq_false_iff_not]; omega)]
        have e2 : boN rs b m = 0 := by unfold boN; rw [e1]; rfl
        exact And.intro trivial (Exists.intro _ (And.intro rfl ⟨by rw [e1, e2]; rfl, hk⟩))
      · have fhH3 := isw_t hH3
        refine wN_g rfl (wN_pur (v := .bool false) rfl rfl ?_)
        refine wN_pur (v := .bool false) rfl rfl ?_
        refine wN_end ?_
        refine condF ?_
        first | refine wN_skip ?_ | skip
        refine wN_seq ?_
        refine wN_mov (v := .slice sa n cap) rfl ?_
        refine wN_mov (v := iv b) rfl ?_
        refine wN_mov (v := iv m) rfl ?_
        obtain ⟨H4, fH4, kH4⟩ := bounce35_ok (kn := kn) (lo := lo) (H := H3) (b := b) (m := m) (by omega) (hr.upTo (by omega)) hm hn (by omega)
        refine wN_callf (vs := [.slice sa n cap, iv b, iv m]) rfl (callX_args fH4) ?_
        have mH4 := kH4.1
        have hk := hk.trans kH4
        have hr := hr.keep kH4 (by simp)
        refine wN_mov (v := iv (cntB rs b m)) rfl ?_
        refine wN_mov (v := iv 0) rfl ?_
        refine wN_end ?_
        have e1 : boE rs b m = 0 := by unfold boE; rw [if_pos hvd, if_pos (by simp only [isw, Bool.and_eq_true, Bool.and_eq_false_iff, Bool.or_eq_true, Bool.or_eq_false_iff, Bool.not_eq_true', Bool.not_eq_false', decide_eq_true_eq, decide_eq_false_iff_not]; omega)]
        have e2 : boN rs b m = cntB rs b m := by unfold boN; rw [e1]; rfl
        exact And.intro trivial (Exists.intro _ (And.intro rfl ⟨by rw [e1, e2]; rfl, hk⟩))
end
end Go.Ax

/-! What 'low' makes of functions of station (written by program). -/
namespace Go.Ax
open Go Go.RowKit Go.Proofs
noncomputable def R3 : RC := (.seq (.reg [⟨(some 6), none, (.mov (.const (.bool false)))⟩])
  (.seq (.seq (.reg [⟨(some 15), none, (.mov (.tmp 0))⟩, ⟨(some 16), none, (.len (.tmp 15))⟩, ⟨(some 17), none, (.cmp .gtr (.tmp 16) (.const (.int .i64 70)))⟩])
  (.cond (.tmp 17) (.seq (.reg [⟨(some 18), none, (.call ⟨(.value (.func 10)), (List.toArray []), (List.toArray [])⟩ true)⟩, ⟨(some 6), none, (.mov (.tmp 18))⟩])
  .ret)
  .skip))
  (.seq (.reg [⟨(some 20), none, (.mov (.tmp 0))⟩, ⟨(some 21), none, (.mov (.tmp 1))⟩, ⟨(some 22), none, (.call ⟨(.value (.func 11)), (List.toArray [(.tmp 20), (.tmp 21)]), (List.toArray [22, 3])⟩ true)⟩, ⟨(some 19), none, (.mov (.tmp 22))⟩, ⟨(some 23), none, (.pur ⟨(some 23), (.extract (.tmp 19) 0), 24, "", (List.toArray []), none⟩)⟩, ⟨(some 24), none, (.pur ⟨(some 24), (.extract (.tmp 19) 1), 25, "", (List.toArray []), none⟩)⟩, ⟨(some 7), none, (.mov (.tmp 23))⟩, ⟨(some 8), none, (.mov (.tmp 24))⟩])
  (.seq (.reg [⟨(some 26), none, (.mov (.tmp 0))⟩, ⟨(some 27), none, (.mov (.tmp 1))⟩, ⟨(some 28), none, (.call ⟨(.value (.func 12)), (List.toArray [(.tmp 26), (.tmp 27)]), (List.toArray [22, 3])⟩ true)⟩, ⟨(some 25), none, (.mov (.tmp 28))⟩, ⟨(some 29), none, (.pur ⟨(some 29), (.extract (.tmp 25) 0), 24, "", (List.toArray []), none⟩)⟩, ⟨(some 30), none, (.pur ⟨(some 30), (.extract (.tmp 25) 1), 25, "", (List.toArray []), none⟩)⟩, ⟨(some 9), none, (.mov (.tmp 29))⟩, ⟨(some 10), none, (.mov (.tmp 30))⟩])
  (.seq (.reg [⟨(some 32), none, (.mov (.tmp 0))⟩, ⟨(some 33), none, (.mov (.tmp 2))⟩, ⟨(some 34), none, (.call ⟨(.value (.func 13)), (List.toArray [(.tmp 32), (.tmp 33)]), (List.toArray [22, 3])⟩ true)⟩, ⟨(some 31), none, (.mov (.tmp 34))⟩, ⟨(some 35), none, (.pur ⟨(some 35), (.extract (.tmp 31) 0), 3, "", (List.toArray []), none⟩)⟩, ⟨(some 36), none, (.pur ⟨(some 36), (.extract (.tmp 31) 1), 25, "", (List.toArray []), none⟩)⟩, ⟨(some 11), none, (.mov (.tmp 35))⟩, ⟨(some 12), none, (.mov (.tmp 36))⟩])
  (.seq (.reg [⟨(some 38), none, (.mov (.tmp 0))⟩, ⟨(some 39), none, (.mov (.tmp 2))⟩, ⟨(some 40), none, (.call ⟨(.value (.func 14)), (List.toArray [(.tmp 38), (.tmp 39)]), (List.toArray [22, 3])⟩ true)⟩, ⟨(some 37), none, (.mov (.tmp 40))⟩, ⟨(some 41), none, (.pur ⟨(some 41), (.extract (.tmp 37) 0), 3, "", (List.toArray []), none⟩)⟩, ⟨(some 42), none, (.pur ⟨(some 42), (.extract (.tmp 37) 1), 25, "", (List.toArray []), none⟩)⟩, ⟨(some 13), none, (.mov (.tmp 41))⟩, ⟨(some 14), none, (.mov (.tmp 42))⟩])
  (.seq (.reg [⟨(some 43), none, (.mov (.tmp 7))⟩, ⟨(some 44), none, (.mov (.tmp 9))⟩, ⟨(some 45), none, (.call ⟨(.value (.func 15)), (List.toArray [(.tmp 43), (.tmp 44)]), (List.toArray [24, 24])⟩ true)⟩, ⟨(some 46), none, (.mov (.tmp 45))⟩, ⟨(some 47), (some (46, true)), (.mov (.tmp 8))⟩, ⟨(some 48), (some (46, true)), (.mov (.tmp 10))⟩, ⟨(some 49), (some (46, true)), (.cmpb .eql (.tmp 47) (.tmp 48))⟩, ⟨(some 50), none, (.pur ⟨(some 50), (.pick (.tmp 46) (.tmp 49) (.const (.bool false))), 4, "", (List.toArray []), none⟩)⟩, ⟨(some 51), none, (.mov (.tmp 50))⟩, ⟨(some 52), (some (51, true)), (.mov (.tmp 11))⟩, ⟨(some 53), (some (51, true)), (.mov (.tmp 13))⟩, ⟨(some 54), (some (51, true)), (.cmpb .eql (.tmp 52) (.tmp 53))⟩, ⟨(some 55), none, (.pur ⟨(some 55), (.pick (.tmp 51) (.tmp 54) (.const (.bool false))), 4, "", (List.toArray []), none⟩)⟩, ⟨(some 56), none, (.mov (.tmp 55))⟩, ⟨(some 57), (some (56, true)), (.mov (.tmp 12))⟩, ⟨(some 58), (some (56, true)), (.mov (.tmp 14))⟩, ⟨(some 59), (some (56, true)), (.cmpb .eql (.tmp 57) (.tmp 58))⟩, ⟨(some 60), none, (.pur ⟨(some 60), (.pick (.tmp 56) (.tmp 59) (.const (.bool false))), 4, "", (List.toArray []), none⟩)⟩, ⟨(some 61), none, (.mov (.tmp 60))⟩, ⟨(some 62), (some (61, true)), (.call ⟨(.value (.func 10)), (List.toArray []), (List.toArray [])⟩ true)⟩, ⟨(some 63), none, (.pur ⟨(some 63), (.pick (.tmp 61) (.tmp 62) (.const (.bool false))), 4, "", (List.toArray []), none⟩)⟩, ⟨(some 6), none, (.mov (.tmp 63))⟩])
  .ret)))))))
theorem L3 : low Try.prog Try.f3.ntmps (at_ Try.f3 []) = some R3 := by kernel_rfl
theorem N4 : Try.f4.ntmps = 71 := by kernel_rfl
theorem Z4 : Try.f4.results.toList = ((List.toArray [(.tmp 8)]) : Array ResultVar).toList := by kernel_rfl
theorem B4 : Try.f4.body = some (at_ Try.f4 []) := by kernel_rfl
noncomputable def R4 : RC := (.seq (.reg [⟨(some 4), none, (.box 34 (.tmp 0))⟩, ⟨(some 8), none, (.mov (.const (.bool false)))⟩])
  (.seq (.seq (.reg [⟨(some 17), none, (.addo (.tmp 4) 5)⟩, ⟨(some 18), none, (.ld (.tmp 17) 1)⟩, ⟨(some 19), none, (.len (.tmp 18))⟩, ⟨(some 20), none, (.cmpb .gtr (.tmp 19) (.const (.int .i64 40)))⟩, ⟨(some 21), none, (.mov (.tmp 20))⟩, ⟨(some 22), (some (21, false)), (.mov (.tmp 1))⟩, ⟨(some 23), (some (21, false)), (.call ⟨(.value (.func 16)), (List.toArray [(.tmp 22)]), (List.toArray [35])⟩ true)⟩, ⟨(some 24), none, (.pur ⟨(some 24), (.pick (.tmp 21) (.const (.bool true)) (.tmp 23)), 4, "", (List.toArray []), none⟩)⟩])
  (.cond (.tmp 24) (.seq (.reg [⟨(some 25), none, (.call ⟨(.value (.func 10)), (List.toArray []), (List.toArray [])⟩ true)⟩, ⟨(some 8), none, (.mov (.tmp 25))⟩])
  .ret)
  .skip))
  (.seq (.reg [⟨(some 27), none, (.lda (.tmp 4) 6)⟩, ⟨(some 28), none, (.call ⟨(.value (.func 17)), (List.toArray [(.tmp 27)]), (List.toArray [34])⟩ true)⟩, ⟨(some 26), none, (.mov (.tmp 28))⟩, ⟨(some 29), none, (.pur ⟨(some 29), (.extract (.tmp 26) 0), 38, "", (List.toArray []), none⟩)⟩, ⟨(some 30), none, (.pur ⟨(some 30), (.extract (.tmp 26) 1), 25, "", (List.toArray []), none⟩)⟩, ⟨(some 9), none, (.alc 38 [(.int .i64 0), (.int .i64 0), (.int .i64 0), (.int .i64 0), (.int .i64 0), (.int .i64 0)])⟩, ⟨none, none, (.sta (.tmp 9) (.tmp 29) 6)⟩, ⟨(some 10), none, (.mov (.tmp 30))⟩])
  (.seq (.reg [⟨(some 32), none, (.lda (.tmp 4) 6)⟩, ⟨(some 33), none, (.call ⟨(.value (.func 18)), (List.toArray [(.tmp 32)]), (List.toArray [34])⟩ true)⟩, ⟨(some 31), none, (.mov (.tmp 33))⟩, ⟨(some 34), none, (.pur ⟨(some 34), (.extract (.tmp 31) 0), 38, "", (List.toArray []), none⟩)⟩, ⟨(some 35), none, (.pur ⟨(some 35), (.extract (.tmp 31) 1), 25, "", (List.toArray []), none⟩)⟩, ⟨(some 11), none, (.alc 38 [(.int .i64 0), (.int .i64 0), (.int .i64 0), (.int .i64 0), (.int .i64 0), (.int .i64 0)])⟩, ⟨none, none, (.sta (.tmp 11) (.tmp 34) 6)⟩, ⟨(some 12), none, (.mov (.tmp 35))⟩])
  (.seq (.reg [⟨(some 37), none, (.mov (.tmp 1))⟩, ⟨(some 38), none, (.mov (.tmp 2))⟩, ⟨(some 39), none, (.mov (.tmp 3))⟩, ⟨(some 40), none, (.call ⟨(.value (.func 19)), (List.toArray [(.tmp 37), (.tmp 38), (.tmp 39)]), (List.toArray [35, 3, 3])⟩ true)⟩, ⟨(some 36), none, (.mov (.tmp 40))⟩, ⟨(some 41), none, (.pur ⟨(some 41), (.extract (.tmp 36) 0), 3, "", (List.toArray []), none⟩)⟩, ⟨(some 42), none, (.pur ⟨(some 42), (.extract (.tmp 36) 1), 25, "", (List.toArray []), none⟩)⟩, ⟨(some 13), none, (.mov (.tmp 41))⟩, ⟨(some 14), none, (.mov (.tmp 42))⟩])
  (.seq (.reg [⟨(some 44), none, (.mov (.tmp 1))⟩, ⟨(some 45), none, (.mov (.tmp 2))⟩, ⟨(some 46), none, (.mov (.tmp 3))⟩, ⟨(some 47), none, (.call ⟨(.value (.func 20)), (List.toArray [(.tmp 44), (.tmp 45), (.tmp 46)]), (List.toArray [35, 3, 3])⟩ true)⟩, ⟨(some 43), none, (.mov (.tmp 47))⟩, ⟨(some 48), none, (.pur ⟨(some 48), (.extract (.tmp 43) 0), 3, "", (List.toArray []), none⟩)⟩, ⟨(some 49), none, (.pur ⟨(some 49), (.extract (.tmp 43) 1), 25, "", (List.toArray []), none⟩)⟩, ⟨(some 15), none, (.mov (.tmp 48))⟩, ⟨(some 16), none, (.mov (.tmp 49))⟩])
  (.seq (.reg [⟨(some 50), none, (.lda (.tmp 9) 6)⟩, ⟨(some 51), none, (.lda (.tmp 11) 6)⟩, ⟨(some 52), none, (.pur ⟨(some 52), (.binOp .eql 38 (.tmp 50) (.tmp 51) 38), 4, "", (List.toArray []), none⟩)⟩, ⟨(some 53), none, (.mov (.tmp 52))⟩, ⟨(some 54), (some (53, true)), (.mov (.tmp 10))⟩, ⟨(some 55), (some (53, true)), (.mov (.tmp 12))⟩, ⟨(some 56), (some (53, true)), (.cmpb .eql (.tmp 54) (.tmp 55))⟩, ⟨(some 57), none, (.pur ⟨(some 57), (.pick (.tmp 53) (.tmp 56) (.const (.bool false))), 4, "", (List.toArray []), none⟩)⟩, ⟨(some 58), none, (.mov (.tmp 57))⟩, ⟨(some 59), (some (58, true)), (.mov (.tmp 13))⟩, ⟨(some 60), (some (58, true)), (.mov (.tmp 15))⟩, ⟨(some 61), (some (58, true)), (.cmpb .eql (.tmp 59) (.tmp 60))⟩, ⟨(some 62), none, (.pur ⟨(some 62), (.pick (.tmp 58) (.tmp 61) (.const (.bool false))), 4, "", (List.toArray []), none⟩)⟩, ⟨(some 63), none, (.mov (.tmp 62))⟩, ⟨(some 64), (some (63, true)), (.mov (.tmp 14))⟩, ⟨(some 65), (some (63, true)), (.mov (.tmp 16))⟩, ⟨(some 66), (some (63, true)), (.cmpb .eql (.tmp 64) (.tmp 65))⟩, ⟨(some 67), none, (.pur ⟨(some 67), (.pick (.tmp 63) (.tmp 66) (.const (.bool false))), 4, "", (List.toArray []), none⟩)⟩, ⟨(some 68), none, (.mov (.tmp 67))⟩, ⟨(some 69), (some (68, true)), (.call ⟨(.value (.func 10)), (List.toArray []), (List.toArray [])⟩ true)⟩, ⟨(some 70), none, (.pur ⟨(some 70), (.pick (.tmp 68) (.tmp 69) (.const (.bool false))), 4, "", (List.toArray []), none⟩)⟩, ⟨(some 8), none, (.mov (.tmp 70))⟩])
  .ret)))))))
theorem L4 : low Try.prog Try.f4.ntmps (at_ Try.f4 []) = some R4 := by kernel_rfl
theorem N10 : Try.f10.ntmps = 78 := by kernel_rfl
theorem Z10 : Try.f10.results.toList = ((List.toArray [(.tmp 0)]) : Array ResultVar).toList := by kernel_rfl
theorem B10 : Try.f10.body = some (at_ Try.f10 []) := by kernel_rfl
noncomputable def R10 : RC := (.seq (.reg [⟨(some 0), none, (.mov (.const (.bool false)))⟩])
  (.seq (.reg [⟨(some 12), none, (.call ⟨(.value (.func 25)), (List.toArray []), (List.toArray [])⟩ true)⟩, ⟨(some 11), none, (.mov (.tmp 12))⟩, ⟨(some 13), none, (.pur ⟨(some 13), (.extract (.tmp 11) 0), 22, "", (List.toArray []), none⟩)⟩, ⟨(some 14), none, (.pur ⟨(some 14), (.extract (.tmp 11) 1), 34, "", (List.toArray []), none⟩)⟩, ⟨(some 2), none, (.alc 34 [(.int .i64 0), (.int .i64 0), (.int .i64 0), (.int .i64 0), (.int .i64 0), (.slice none 0 0)])⟩, ⟨(some 1), none, (.mov (.tmp 13))⟩, ⟨none, none, (.sta (.tmp 2) (.tmp 14) 6)⟩])
  (.seq (.reg [⟨(some 16), none, (.mov (.tmp 1))⟩, ⟨(some 17), none, (.call ⟨(.value (.func 11)), (List.toArray [(.tmp 16), (.const (.int .i64 2))]), (List.toArray [22, 3])⟩ true)⟩, ⟨(some 15), none, (.mov (.tmp 17))⟩, ⟨(some 18), none, (.pur ⟨(some 18), (.extract (.tmp 15) 0), 24, "", (List.toArray []), none⟩)⟩, ⟨(some 19), none, (.pur ⟨(some 19), (.extract (.tmp 15) 1), 25, "", (List.toArray []), none⟩)⟩, ⟨(some 3), none, (.mov (.tmp 18))⟩, ⟨(some 4), none, (.mov (.tmp 19))⟩])
  (.seq (.reg [⟨(some 21), none, (.mov (.tmp 1))⟩, ⟨(some 22), none, (.call ⟨(.value (.func 13)), (List.toArray [(.tmp 21), (.const (.int .i64 20))]), (List.toArray [22, 3])⟩ true)⟩, ⟨(some 20), none, (.mov (.tmp 22))⟩, ⟨(some 23), none, (.pur ⟨(some 23), (.extract (.tmp 20) 0), 3, "", (List.toArray []), none⟩)⟩, ⟨(some 24), none, (.pur ⟨(some 24), (.extract (.tmp 20) 1), 25, "", (List.toArray []), none⟩)⟩, ⟨(some 5), none, (.mov (.tmp 23))⟩, ⟨(some 6), none, (.mov (.tmp 24))⟩])
  (.seq (.reg [⟨(some 26), none, (.lda (.tmp 2) 6)⟩, ⟨(some 27), none, (.call ⟨(.value (.func 17)), (List.toArray [(.tmp 26)]), (List.toArray [34])⟩ true)⟩, ⟨(some 25), none, (.mov (.tmp 27))⟩, ⟨(some 28), none, (.pur ⟨(some 28), (.extract (.tmp 25) 0), 38, "", (List.toArray []), none⟩)⟩, ⟨(some 29), none, (.pur ⟨(some 29), (.extract (.tmp 25) 1), 25, "", (List.toArray []), none⟩)⟩, ⟨(some 7), none, (.alc 38 [(.int .i64 0), (.int .i64 0), (.int .i64 0), (.int .i64 0), (.int .i64 0), (.int .i64 0)])⟩, ⟨none, none, (.sta (.tmp 7) (.tmp 28) 6)⟩, ⟨(some 8), none, (.mov (.tmp 29))⟩])
  (.seq (.reg [⟨(some 31), none, (.mem ⟨(some 31), (.buildSlice 45 2 (List.toArray [(0, (.const (.int .i64 30))), (1, (.const (.int .i64 100)))])), 45, "", (List.toArray []), none⟩)⟩, ⟨(some 32), none, (.mem ⟨(some 32), (.buildSlice 45 4 (List.toArray [(0, (.const (.int .i64 90))), (1, (.const (.int .i64 90))), (2, (.const (.int .i64 90))), (3, (.const (.int .i64 120)))])), 45, "", (List.toArray []), none⟩)⟩, ⟨(some 33), none, (.mem ⟨(some 33), (.buildSlice 45 1 (List.toArray [(0, (.const (.int .i64 20)))])), 45, "", (List.toArray []), none⟩)⟩, ⟨(some 34), none, (.mem ⟨(some 34), (.buildSlice 35 3 (List.toArray [(0, (.tmp 31)), (1, (.tmp 32)), (2, (.tmp 33))])), 35, "", (List.toArray []), none⟩)⟩, ⟨(some 35), none, (.call ⟨(.value (.func 19)), (List.toArray [(.tmp 34), (.const (.int .i64 100)), (.const (.int .i64 3))]), (List.toArray [35, 3, 3])⟩ true)⟩, ⟨(some 30), none, (.mov (.tmp 35))⟩, ⟨(some 36), none, (.pur ⟨(some 36), (.extract (.tmp 30) 0), 3, "", (List.toArray []), none⟩)⟩, ⟨(some 37), none, (.pur ⟨(some 37), (.extract (.tmp 30) 1), 25, "", (List.toArray []), none⟩)⟩, ⟨(some 9), none, (.mov (.tmp 36))⟩, ⟨(some 10), none, (.mov (.tmp 37))⟩])
  (.seq (.seq (.reg [⟨(some 38), none, (.mov (.tmp 3))⟩, ⟨(some 39), none, (.len (.tmp 38))⟩, ⟨(some 40), none, (.cmpb .neq (.tmp 39) (.const (.int .i64 3)))⟩, ⟨(some 41), none, (.mov (.tmp 40))⟩, ⟨(some 42), (some (41, false)), (.mov (.tmp 3))⟩, ⟨(some 43), (some (41, false)), (.idx (.tmp 42) (.const (.int .i64 2)) 6)⟩, ⟨(some 44), (some (41, false)), (.lda (.tmp 43) 6)⟩, ⟨(some 45), (some (41, false)), (.pur ⟨(some 45), (.build 47 (List.toArray [(0, (.const (.int .i64 112))), (1, (.const (.int .i64 120)))])), 47, "", (List.toArray []), none⟩)⟩, ⟨(some 46), (some (41, false)), (.pur ⟨(some 46), (.build 47 (List.toArray [(0, (.const (.int .i64 127))), (1, (.const (.int .i64 160)))])), 47, "", (List.toArray []), none⟩)⟩, ⟨(some 47), (some (41, false)), (.pur ⟨(some 47), (.build 47 (List.toArray [(1, (.const (.int .i64 8)))])), 47, "", (List.toArray []), none⟩)⟩, ⟨(some 48), (some (41, false)), (.pur ⟨(some 48), (.build 52 (List.toArray [(0, (.tmp 45)), (1, (.tmp 46)), (2, (.tmp 47))])), 52, "", (List.toArray []), none⟩)⟩, ⟨(some 49), (some (41, false)), (.pur ⟨(some 49), (.binOp .neq 52 (.tmp 44) (.tmp 48) 52), 4, "", (List.toArray []), none⟩)⟩, ⟨(some 50), none, (.pur ⟨(some 50), (.pick (.tmp 41) (.const (.bool true)) (.tmp 49)), 4, "", (List.toArray []), none⟩)⟩, ⟨(some 51), none, (.mov (.tmp 50))⟩, ⟨(some 52), (some (51, false)), (.mov (.tmp 4))⟩, ⟨(some 53), (some (51, false)), (.cmpb .neq (.tmp 52) (.const (.int .i64 0)))⟩, ⟨(some 54), none, (.pur ⟨(some 54), (.pick (.tmp 51) (.const (.bool true)) (.tmp 53)), 4, "", (List.toArray []), none⟩)⟩, ⟨(some 55), none, (.mov (.tmp 54))⟩, ⟨(some 56), (some (55, false)), (.mov (.tmp 5))⟩, ⟨(some 57), (some (55, false)), (.cmpb .neq (.tmp 56) (.const (.int .i64 2)))⟩, ⟨(some 58), none, (.pur ⟨(some 58), (.pick (.tmp 55) (.const (.bool true)) (.tmp 57)), 4, "", (List.toArray []), none⟩)⟩, ⟨(some 59), none, (.mov (.tmp 58))⟩, ⟨(some 60), (some (59, false)), (.mov (.tmp 6))⟩, ⟨(some 61), (some (59, false)), (.cmpb .neq (.tmp 60) (.const (.int .i64 0)))⟩, ⟨(some 62), none, (.pur ⟨(some 62), (.pick (.tmp 59) (.const (.bool true)) (.tmp 61)), 4, "", (List.toArray []), none⟩)⟩])
  (.cond (.tmp 62) (.seq (.reg [⟨(some 0), none, (.mov (.const (.bool false)))⟩])
  .ret)
  .skip))
  (.seq (.reg [⟨(some 63), none, (.lda (.tmp 7) 6)⟩, ⟨(some 64), none, (.pur ⟨(some 64), (.build 38 (List.toArray [(0, (.const (.int .i64 7000))), (1, (.const (.int .i64 6580))), (2, (.const (.int .i64 233))), (3, (.const (.int .i64 187))), (4, (.const (.int .i64 329000))), (5, (.const (.int .i64 3948000)))])), 38, "", (List.toArray []), none⟩)⟩, ⟨(some 65), none, (.pur ⟨(some 65), (.binOp .eql 38 (.tmp 63) (.tmp 64) 38), 4, "", (List.toArray []), none⟩)⟩, ⟨(some 66), none, (.mov (.tmp 65))⟩, ⟨(some 67), (some (66, true)), (.mov (.tmp 8))⟩, ⟨(some 68), (some (66, true)), (.cmpb .eql (.tmp 67) (.const (.int .i64 0)))⟩, ⟨(some 69), none, (.pur ⟨(some 69), (.pick (.tmp 66) (.tmp 68) (.const (.bool false))), 4, "", (List.toArray []), none⟩)⟩, ⟨(some 70), none, (.mov (.tmp 69))⟩, ⟨(some 71), (some (70, true)), (.mov (.tmp 9))⟩, ⟨(some 72), (some (70, true)), (.cmpb .eql (.tmp 71) (.const (.int .i64 1)))⟩, ⟨(some 73), none, (.pur ⟨(some 73), (.pick (.tmp 70) (.tmp 72) (.const (.bool false))), 4, "", (List.toArray []), none⟩)⟩, ⟨(some 74), none, (.mov (.tmp 73))⟩, ⟨(some 75), (some (74, true)), (.mov (.tmp 10))⟩, ⟨(some 76), (some (74, true)), (.cmpb .eql (.tmp 75) (.const (.int .i64 0)))⟩, ⟨(some 77), none, (.pur ⟨(some 77), (.pick (.tmp 74) (.tmp 76) (.const (.bool false))), 4, "", (List.toArray []), none⟩)⟩, ⟨(some 0), none, (.mov (.tmp 77))⟩])
  .ret))))))))
theorem L10 : low Try.prog Try.f10.ntmps (at_ Try.f10 []) = some R10 := by kernel_rfl
theorem N25 : Try.f25.ntmps = 18 := by kernel_rfl
theorem Z25 : Try.f25.results.toList = ((List.toArray [(.tmp 0), (.cell 1 34)]) : Array ResultVar).toList := by kernel_rfl
theorem B25 : Try.f25.body = some (at_ Try.f25 []) := by kernel_rfl
noncomputable def R25 : RC := (.seq (.reg [⟨(some 0), none, (.mov (.const (.slice none 0 0)))⟩, ⟨(some 1), none, (.alc 34 [(.int .i64 0), (.int .i64 0), (.int .i64 0), (.int .i64 0), (.int .i64 0), (.slice none 0 0)])⟩])
  (.seq (.reg [⟨(some 3), none, (.pur ⟨(some 3), (.build 47 (List.toArray [(0, (.const (.int .i64 100))), (1, (.const (.int .i64 110)))])), 47, "", (List.toArray []), none⟩)⟩, ⟨(some 4), none, (.pur ⟨(some 4), (.build 47 (List.toArray [(0, (.const (.int .i64 20))), (1, (.const (.int .i64 30)))])), 47, "", (List.toArray []), none⟩)⟩, ⟨(some 5), none, (.pur ⟨(some 5), (.build 49 (List.toArray [(0, (.tmp 3)), (1, (.tmp 4))])), 49, "", (List.toArray []), none⟩)⟩, ⟨(some 6), none, (.pur ⟨(some 6), (.build 47 (List.toArray [(0, (.const (.int .i64 90))), (1, (.const (.int .i64 105)))])), 47, "", (List.toArray []), none⟩)⟩, ⟨(some 7), none, (.pur ⟨(some 7), (.build 47 (List.toArray [(0, (.const (.int .i64 10))), (1, (.const (.int .i64 10)))])), 47, "", (List.toArray []), none⟩)⟩, ⟨(some 8), none, (.pur ⟨(some 8), (.build 49 (List.toArray [(0, (.tmp 6)), (1, (.tmp 7))])), 49, "", (List.toArray []), none⟩)⟩, ⟨(some 9), none, (.pur ⟨(some 9), (.build 47 (List.toArray [(0, (.const (.int .i64 112))), (1, (.const (.int .i64 112)))])), 47, "", (List.toArray []), none⟩)⟩, ⟨(some 10), none, (.pur ⟨(some 10), (.build 47 (List.toArray [(0, (.const (.int .i64 15))), (1, (.const (.int .i64 40)))])), 47, "", (List.toArray []), none⟩)⟩, ⟨(some 11), none, (.pur ⟨(some 11), (.build 49 (List.toArray [(0, (.tmp 9)), (1, (.tmp 10))])), 49, "", (List.toArray []), none⟩)⟩, ⟨(some 12), none, (.mem ⟨(some 12), (.buildSlice 22 3 (List.toArray [(0, (.tmp 5)), (1, (.tmp 8)), (2, (.tmp 11))])), 22, "", (List.toArray []), none⟩)⟩, ⟨(some 2), none, (.mov (.tmp 12))⟩])
  (.seq (.reg [⟨(some 13), none, (.mov (.tmp 2))⟩, ⟨(some 14), none, (.pur ⟨(some 14), (.build 58 (List.toArray [(0, (.const (.int .i64 100))), (1, (.const (.int .i64 5))), (2, (.const (.int .i64 3))), (3, (.const (.int .i64 40))), (4, (.const (.int .i64 700)))])), 58, "", (List.toArray []), none⟩)⟩, ⟨(some 15), none, (.pur ⟨(some 15), (.build 58 (List.toArray [(0, (.const (.int .i64 50))), (2, (.const (.int .i64 1))), (3, (.const (.int .i64 70))), (4, (.const (.int .i64 400)))])), 58, "", (List.toArray []), none⟩)⟩, ⟨(some 16), none, (.mem ⟨(some 16), (.buildSlice 32 2 (List.toArray [(0, (.tmp 14)), (1, (.tmp 15))])), 32, "", (List.toArray []), none⟩)⟩, ⟨(some 17), none, (.pur ⟨(some 17), (.build 34 (List.toArray [(3, (.const (.int .i64 10000))), (4, (.const (.int .i64 3000))), (5, (.tmp 16))])), 34, "", (List.toArray []), none⟩)⟩, ⟨(some 0), none, (.mov (.tmp 13))⟩, ⟨none, none, (.sta (.tmp 1) (.tmp 17) 6)⟩])
  .ret)))
theorem L25 : low Try.prog Try.f25.ntmps (at_ Try.f25 []) = some R25 := by kernel_rfl
end Go.Ax

/-
  Station: sample, and awake: true in every world (written by program).
-/
namespace Go.Ax
open Go Go.RowKit Go.Proofs

theorem i34s : ∃ i, Try.prog.info? 34 = some i ∧ i.size = 6 := by
  have h : (Try.prog.info? 34).map (fun i => i.size) = some 6 := by kernel_rfl
  cases e : Try.prog.info? 34 with
  | none => rw [e] at h; cases h
  | some i => rw [e] at h; simp at h; exact ⟨i, rfl, h⟩
theorem a34 : isAggB Try.prog 34 = some true := by kernel_rfl
theorem res_tc {P : Program} {S : Rg} {H : Hp} {a b x n : Nat} {t : TypeId} {cs : List Value} {v : Value} (hb : lk S b = some v) (ha : lk S a = some (.pointer (some ⟨x, 0, none⟩))) (h1 : isAggB P t = some true) (hi : ∃ i, P.info? t = some i ∧ i.size = n) (hl : cs.length = n) (h : Cl H x cs) : resS P S H [.tmp b, .cell a t] = some [v, .agg cs.toArray] := by
  simp only [resS, ha, hb, load_agg h1 hi h.rd hl]
def L0 : List Tk := [⟨100, 110, 20, 30⟩, ⟨90, 105, 10, 10⟩, ⟨112, 112, 15, 40⟩]
def M0 : List Sm := [⟨100, 5, 3, 40, 700⟩, ⟨50, 0, 1, 70, 400⟩]
def s0 (b : Nat) : Sp := ⟨0, 0, 0, 10000, 3000, some ⟨b, 0, none⟩, 2, 2, M0⟩
def rs0 (a b c : Nat) : List Rw := [⟨some ⟨a, 0, none⟩, 2, 2, [30, 100]⟩, ⟨some ⟨b, 0, none⟩, 4, 4, [90, 90, 90, 120]⟩, ⟨some ⟨c, 0, none⟩, 1, 1, [20]⟩]
theorem q0 : qe L0 2 = 0 := by kernel_rfl
theorem q1 : ql L0 2 = visL L0 2 := by kernel_rfl
theorem q2 : (visL L0 2)[2]? = some ⟨112, 120, 127, 160, 0, 8⟩ := by kernel_rfl
theorem q3 : by' L0 20 = (2, 0) := by kernel_rfl
theorem q4 (b : Nat) : (s0 b).load = ⟨7000, 6580, 233, 187, 329000, 3948000⟩ := by kernel_rfl
theorem q5 (b : Nat) : (s0 b).we = 0 := by kernel_rfl
theorem q6 (a b c : Nat) : boN (rs0 a b c) 100 3 = 1 := by kernel_rfl
theorem q7 (a b c : Nat) : boE (rs0 a b c) 100 3 = 0 := by kernel_rfl
section
variable {kn : FuncId → Option Bool} {lo : Nat} {H : Hp}
/-- sample -/
theorem sample25_ok (hlo : lo ≤ H.next) : ∃ w H', FnX Try.prog kn lo 25 [] H w H' ∧ ∃ b1 b2, w = .tuple #[slv b1 3 3, .agg (s0 b2).v.toArray] ∧ Keep H H' [] ∧ H.next ≤ b1 ∧ H.next ≤ b2 ∧ Sc H' b1 (tkc L0) ∧ Sc H' b2 (smc M0) := by
  have key := fnX_low (kn := kn) (lo := lo) (H := H) (args := []) (Q := fun w H' => ∃ b1 b2, w = .tuple #[slv b1 3 3, .agg (s0 b2).v.toArray] ∧ Keep H H' [] ∧ H.next ≤ b1 ∧ H.next ≤ b2 ∧ Sc H' b1 (tkc L0) ∧ Sc H' b2 (smc M0)) Try.func25 B25 N25 Z25 L25 (by simp) ?_
  · exact key
  have hk := Keep.refl H []
  refine wN_seq ?_
  refine wN_mov (v := .slice none 0 0) rfl ?_
  refine wN_alc ?_
  intro H1 kH1 nH1 c1
  have c1 : Cl H1 H.next [iv 0, iv 0, iv 0, iv 0, iv 0, .slice none 0 0] := c1
  have mH1 := kH1.1
  have hk := hk.trans kH1
  refine wN_end ?_
  refine wN_seq ?_
  refine wN_pur (v := .agg #[iv 100, iv 110]) rfl (by kernel_rfl) ?_
  refine wN_pur (v := .agg #[iv 20, iv 30]) rfl (by kernel_rfl) ?_
  refine wN_pur (v := .agg #[iv 100, iv 110, iv 20, iv 30]) rfl (by kernel_rfl) ?_
  refine wN_pur (v := .agg #[iv 90, iv 105]) rfl (by kernel_rfl) ?_
  refine wN_pur (v := .agg #[iv 10, iv 10]) rfl (by kernel_rfl) ?_
  refine wN_pur (v := .agg #[iv 90, iv 105, iv 10, iv 10]) rfl (by kernel_rfl) ?_
  refine wN_pur (v := .agg #[iv 112, iv 112]) rfl (by kernel_rfl) ?_
  refine wN_pur (v := .agg #[iv 15, iv 40]) rfl (by kernel_rfl) ?_
  refine wN_pur (v := .agg #[iv 112, iv 112, iv 15, iv 40]) rfl (by kernel_rfl) ?_
  obtain ⟨H2, hgH2⟩ : ∃ H2, H1.new (.cells [iv 100, iv 110, iv 20, iv 30, iv 90, iv 105, iv 10, iv 10, iv 112, iv 112, iv 15, iv 40] 49 false) = H2 := ⟨_, rfl⟩
  refine wN_memh (v := .slice (some ⟨H1.next, 0, none⟩) 3 3) (H' := H2) (k := .heavy) rfl (by kernel_rfl) (by rw [← hgH2]; kernel_rfl) (fun b e => by cases e) ?_
  obtain ⟨kH2, nH2, _⟩ := new_facts hgH2
  have t1 := new_sc hgH2
  have mH2 := kH2.1
  have hk := hk.trans kH2
  have c1 := kH2.cl c1 (by simp)
  obtain ⟨bt1, hbt1⟩ : ∃ q, q = H1.next := ⟨_, rfl⟩
  rw [← hbt1] at t1 ⊢
  refine wN_mov (v := .slice (some ⟨bt1, 0, none⟩) 3 3) rfl ?_
  refine wN_end ?_
  refine wN_seq ?_
  refine wN_mov (v := .slice (some ⟨bt1, 0, none⟩) 3 3) rfl ?_
  refine wN_pur (v := .agg #[iv 100, iv 5, iv 3, iv 40, iv 700]) rfl (by kernel_rfl) ?_
  refine wN_pur (v := .agg #[iv 50, iv 0, iv 1, iv 70, iv 400]) rfl (by kernel_rfl) ?_
  obtain ⟨H3, hgH3⟩ : ∃ H3, H2.new (.cells [iv 100, iv 5, iv 3, iv 40, iv 700, iv 50, iv 0, iv 1, iv 70, iv 400] 58 false) = H3 := ⟨_, rfl⟩
  refine wN_memh (v := .slice (some ⟨H2.next, 0, none⟩) 2 2) (H' := H3) (k := .heavy) rfl (by kernel_rfl) (by rw [← hgH3]; kernel_rfl) (fun b e => by cases e) ?_
  obtain ⟨kH3, nH3, _⟩ := new_facts hgH3
  have t2 := new_sc hgH3
  have mH3 := kH3.1
  have hk := hk.trans kH3
  have c1 := kH3.cl c1 (by simp)
  have t1 := kH3.sc t1 (by simp)
  obtain ⟨bt2, hbt2⟩ : ∃ q, q = H2.next := ⟨_, rfl⟩
  rw [← hbt2] at t2 ⊢
  refine wN_pur (v := .agg #[iv 0, iv 0, iv 0, iv 10000, iv 3000, .slice (some ⟨bt2, 0, none⟩) 2 2]) rfl (by kernel_rfl) ?_
  refine wN_mov (v := .slice (some ⟨bt1, 0, none⟩) 3 3) rfl ?_
  refine wN_sta (b := H.next) (o := 0) rfl rfl c1 (by omega) rfl rfl (by simp) ?_
  intro H4 kH4 nH4 sH4
  have mH4 := kH4.1
  have hk := hk.new kH4 (fun b hb => by simp at hb ⊢; omega)
  have t1 := kH4.sc t1 (by first | (simp; done) | (simp; omega))
  have t2 := kH4.sc t2 (by first | (simp; done) | (simp; omega))
  have c1 : Cl H4 H.next [iv 0, iv 0, iv 0, iv 10000, iv 3000, .slice (some ⟨bt2, 0, none⟩) 2 2] := sH4
  refine wN_end ?_
  exact And.intro trivial (Exists.intro _ (And.intro (res_tc rfl rfl a34 i34s rfl c1) ⟨bt1, bt2, rfl, hk, by omega, by omega, t1, t2⟩))
set_option maxRecDepth 100000 in
/-- awake -/
theorem awake10_ok (hro : RoLow lo H) (hlo : lo ≤ H.next) : ∃ H', FnX Try.prog (fun _ => none) lo 10 [] H (.bool true) H' ∧ Keep H H' [] := by
  have key := fnX_low (kn := fun _ => none) (lo := lo) (H := H) (args := []) (Q := fun w H' => w = .bool true ∧ Keep H H' []) Try.func10 B10 N10 Z10 L10 (by simp) ?_
  · obtain ⟨w, H', h, rfl, q⟩ := key; exact ⟨H', h, q⟩
  have hk := Keep.refl H []
  refine wN_seq ?_
  refine wN_mov (v := .bool false) rfl ?_
  refine wN_end ?_
  refine wN_seq ?_
  obtain ⟨wH1, H1, fH1, b1, b2, rfl, kH1, l1, l2, t1, t2⟩ := sample25_ok (kn := fun _ => none) (lo := lo) (H := H) (by omega)
  refine wN_callf (vs := []) rfl (callX_func (by rfl) (by simpa using fH1)) ?_
  have mH1 := kH1.1
  have hk := hk.trans kH1
  have lt1 := t1.lt
  have lt2 := t2.lt
  refine wN_mov (v := .tuple #[.slice (some ⟨b1, 0, none⟩) 3 3, .agg (s0 b2).v.toArray]) rfl ?_
  refine wN_pur (v := .slice (some ⟨b1, 0, none⟩) 3 3) rfl (by kernel_rfl) ?_
  refine wN_pur (v := .agg (s0 b2).v.toArray) rfl (by kernel_rfl) ?_
  refine wN_alc ?_
  intro H2 kH2 nH2 c2
  have c2 : Cl H2 H1.next [iv 0, iv 0, iv 0, iv 0, iv 0, .slice none 0 0] := c2
  have mH2 := kH2.1
  have hk := hk.trans kH2
  have t1 := kH2.sc t1 (by simp)
  have t2 := kH2.sc t2 (by simp)
  refine wN_mov (v := .slice (some ⟨b1, 0, none⟩) 3 3) rfl ?_
  refine wN_sta (b := H1.next) (o := 0) rfl rfl c2 (by omega) rfl rfl (by simp) ?_
  intro H3 kH3 nH3 sH3
  have mH3 := kH3.1
  have hk := hk.new kH3 (fun b hb => by simp at hb ⊢; omega)
  have t1 := kH3.sc t1 (by first | (simp; done) | (simp; omega))
  have t2 := kH3.sc t2 (by first | (simp; done) | (simp; omega))
  have c2 : Cl H3 H1.next [iv 0, iv 0, iv 0, iv 10000, iv 3000, .slice (some ⟨b2, 0, none⟩) 2 2] := sH3
  refine wN_end ?_
  refine wN_seq ?_
  refine wN_mov (v := .slice (some ⟨b1, 0, none⟩) 3 3) rfl ?_
  obtain ⟨wH4, H4, fH4, a, c, rfl, kH4, hv, _⟩ := queue11_ok (kn := fun _ => none) (lo := lo) (H := H3) (bays := 2) (t1.cl.sl (Nat.le_refl 3)) rfl (hk.low hro) (by omega)
  rw [q0, q1, visL_len] at fH4
  rw [q1, visL_len] at hv
  have fH4 : FnX Try.prog (fun _ => none) lo 11 [slv b1 3 3, iv 2] H3 (.tuple #[.slice a 3 c, iv 0]) H4 := fH4
  have hv : Sl H4 a 3 c (vsc (visL L0 2)) := hv
  refine wN_callf (vs := [slv b1 3 3, iv 2]) rfl (callX_args fH4) ?_
  have mH4 := kH4.1
  have hk := hk.trans kH4
  have t1 := kH4.sc t1 (by simp)
  have t2 := kH4.sc t2 (by simp)
  have c2 := kH4.cl c2 (by simp)
  have fv := hv.old
  refine wN_mov (v := .tuple #[.slice a 3 c, iv 0]) rfl ?_
  refine wN_pur (v := .slice a 3 c) rfl (by kernel_rfl) ?_
  refine wN_pur (v := iv 0) rfl (by kernel_rfl) ?_
  refine wN_mov (v := .slice a 3 c) rfl ?_
  refine wN_mov (v := iv 0) rfl ?_
  refine wN_end ?_
  refine wN_seq ?_
  refine wN_mov (v := .slice (some ⟨b1, 0, none⟩) 3 3) rfl ?_
  obtain ⟨H5, fH5, kH5⟩ := bays13_ok (kn := fun _ => none) (lo := lo) (H := H4) (m := 20) (t1.cl.sl (Nat.le_refl 3)) rfl (hk.low hro) (by omega)
  rw [q3] at fH5
  refine wN_callf (vs := [slv b1 3 3, iv 20]) rfl (callX_args fH5) ?_
  have mH5 := kH5.1
  have hk := hk.trans kH5
  have t1 := kH5.sc t1 (by simp)
  have t2 := kH5.sc t2 (by simp)
  have c2 := kH5.cl c2 (by simp)
  have hv := kH5.sl0 hv
  refine wN_mov (v := .tuple #[iv 2, iv 0]) rfl ?_
  refine wN_pur (v := iv 2) rfl (by kernel_rfl) ?_
  refine wN_pur (v := iv 0) rfl (by kernel_rfl) ?_
  refine wN_mov (v := iv 2) rfl ?_
  refine wN_mov (v := iv 0) rfl ?_
  refine wN_end ?_
  refine wN_seq ?_
  refine wN_lda (b := H1.next) (o := 0) rfl c2.rd (show row 6 _ _ = some [iv 0, iv 0, iv 0, iv 10000, iv 3000, .slice (some ⟨b2, 0, none⟩) 2 2] from rfl) ?_
  obtain ⟨H6, fH6, kH6⟩ := weigh17_ok (kn := fun _ => none) (lo := lo) (H := H5) (s := s0 b2) (t2.cl.sl (Nat.le_refl 2)) rfl (by omega)
  rw [q4, q5] at fH6
  refine wN_callf (vs := [.agg (s0 b2).v.toArray]) rfl (callX_args fH6) ?_
  have mH6 := kH6.1
  have hk := hk.trans kH6
  have t1 := kH6.sc t1 (by simp)
  have t2 := kH6.sc t2 (by simp)
  have c2 := kH6.cl c2 (by simp)
  have hv := kH6.sl0 hv
  refine wN_mov (v := .tuple #[.agg #[iv 7000, iv 6580, iv 233, iv 187, iv 329000, iv 3948000], iv 0]) rfl ?_
  refine wN_pur (v := .agg #[iv 7000, iv 6580, iv 233, iv 187, iv 329000, iv 3948000]) rfl (by kernel_rfl) ?_
  refine wN_pur (v := iv 0) rfl (by kernel_rfl) ?_
  refine wN_alc ?_
  intro H7 kH7 nH7 c7
  have c7 : Cl H7 H6.next [iv 0, iv 0, iv 0, iv 0, iv 0, iv 0] := c7
  have mH7 := kH7.1
  have hk := hk.trans kH7
  have t1 := kH7.sc t1 (by simp)
  have t2 := kH7.sc t2 (by simp)
  have c2 := kH7.cl c2 (by simp)
  have hv := kH7.sl0 hv
  refine wN_sta (b := H6.next) (o := 0) rfl rfl c7 (by omega) rfl rfl (by simp) ?_
  intro H8 kH8 nH8 sH8
  have mH8 := kH8.1
  have hk := hk.new kH8 (fun b hb => by simp at hb ⊢; omega)
  have t1 := kH8.sc t1 (by first | (simp; done) | (simp; omega))
  have t2 := kH8.sc t2 (by first | (simp; done) | (simp; omega))
  have c2 := kH8.cl c2 (by first | (simp; done) | (simp; omega))
  have hv := kH8.sl hv (fun b e => by have := fv b e; first | (simp; done) | (simp; omega))
  have c7 : Cl H8 H6.next [iv 7000, iv 6580, iv 233, iv 187, iv 329000, iv 3948000] := sH8
  refine wN_mov (v := iv 0) rfl ?_
  refine wN_end ?_
  refine wN_seq ?_
  obtain ⟨H9, hgH9⟩ : ∃ H9, H8.new (.cells [iv 30, iv 100] 3 false) = H9 := ⟨_, rfl⟩
  refine wN_memh (v := .slice (some ⟨H8.next, 0, none⟩) 2 2) (H' := H9) (k := .heavy) rfl (by kernel_rfl) (by rw [← hgH9]; kernel_rfl) (fun b e => by cases e) ?_
  obtain ⟨kH9, nH9, _⟩ := new_facts hgH9
  have r1 := new_sc hgH9
  have mH9 := kH9.1
  have hk := hk.trans kH9
  have t1 := kH9.sc t1 (by simp)
  have t2 := kH9.sc t2 (by simp)
  have c2 := kH9.cl c2 (by simp)
  have hv := kH9.sl0 hv
  have c7 := kH9.cl c7 (by simp)
  obtain ⟨br1, hbr1⟩ : ∃ q, q = H8.next := ⟨_, rfl⟩
  rw [← hbr1] at r1 ⊢
  obtain ⟨H10, hgH10⟩ : ∃ H10, H9.new (.cells [iv 90, iv 90, iv 90, iv 120] 3 false) = H10 := ⟨_, rfl⟩
  refine wN_memh (v := .slice (some ⟨H9.next, 0, none⟩) 4 4) (H' := H10) (k := .heavy) rfl (by kernel_rfl) (by rw [← hgH10]; kernel_rfl) (fun b e => by cases e) ?_
  obtain ⟨kH10, nH10, _⟩ := new_facts hgH10
  have r2 := new_sc hgH10
  have mH10 := kH10.1
  have hk := hk.trans kH10
  have t1 := kH10.sc t1 (by simp)
  have t2 := kH10.sc t2 (by simp)
  have c2 := kH10.cl c2 (by simp)
  have hv := kH10.sl0 hv
  have c7 := kH10.cl c7 (by simp)
  have r1 := kH10.sc r1 (by simp)
  obtain ⟨br2, hbr2⟩ : ∃ q, q = H9.next := ⟨_, rfl⟩
  rw [← hbr2] at r2 ⊢
  obtain ⟨H11, hgH11⟩ : ∃ H11, H10.new (.cells [iv 20] 3 false) = H11 := ⟨_, rfl⟩
  refine wN_memh (v := .slice (some ⟨H10.next, 0, none⟩) 1 1) (H' := H11) (k := .heavy) rfl (by kernel_rfl) (by rw [← hgH11]; kernel_rfl) (fun b e => by cases e) ?_
  obtain ⟨kH11, nH11, _⟩ := new_facts hgH11
  have r3 := new_sc hgH11
  have mH11 := kH11.1
  have hk := hk.trans kH11
  have t1 := kH11.sc t1 (by simp)
  have t2 := kH11.sc t2 (by simp)
  have c2 := kH11.cl c2 (by simp)
  have hv := kH11.sl0 hv
  have c7 := kH11.cl c7 (by simp)
  have r1 := kH11.sc r1 (by simp)
  have r2 := kH11.sc r2 (by simp)
  obtain ⟨br3, hbr3⟩ : ∃ q, q = H10.next := ⟨_, rfl⟩
  rw [← hbr3] at r3 ⊢
  obtain ⟨H12, hgH12⟩ : ∃ H12, H11.new (.cells [.slice (some ⟨br1, 0, none⟩) 2 2, .slice (some ⟨br2, 0, none⟩) 4 4, .slice (some ⟨br3, 0, none⟩) 1 1] 45 false) = H12 := ⟨_, rfl⟩
  refine wN_memh (v := .slice (some ⟨H11.next, 0, none⟩) 3 3) (H' := H12) (k := .heavy) rfl (by kernel_rfl) (by rw [← hgH12]; kernel_rfl) (fun b e => by cases e) ?_
  obtain ⟨kH12, nH12, _⟩ := new_facts hgH12
  have r0 := new_sc hgH12
  have mH12 := kH12.1
  have hk := hk.trans kH12
  have t1 := kH12.sc t1 (by simp)
  have t2 := kH12.sc t2 (by simp)
  have c2 := kH12.cl c2 (by simp)
  have hv := kH12.sl0 hv
  have c7 := kH12.cl c7 (by simp)
  have r1 := kH12.sc r1 (by simp)
  have r2 := kH12.sc r2 (by simp)
  have r3 := kH12.sc r3 (by simp)
  obtain ⟨br0, hbr0⟩ : ∃ q, q = H11.next := ⟨_, rfl⟩
  rw [← hbr0] at r0 ⊢
  have lr1 := r1.lt
  have lr2 := r2.lt
  have lr3 := r3.lt
  have lr0 := r0.lt
  have hR : Rws H12 H12.next (some ⟨br0, 0, none⟩) 3 3 (rs0 br1 br2 br3) := by
    refine ⟨.inr ⟨br0, 0, _, rfl, r0.cl.rd, lr0, Nat.le_refl _, fun i r hr => ?_⟩, rfl, fun r hr => ?_⟩
    · match i, hr with
      | 0, hr => cases hr; rfl
      | 1, hr => cases hr; rfl
      | 2, hr => cases hr; rfl
      | _ + 3, hr => cases hr
    · simp only [rs0, List.mem_cons, List.not_mem_nil, or_false] at hr
      rcases hr with rfl | rfl | rfl
      · exact ⟨r1.cl.sl (Nat.le_refl _), rfl, fun x e => by cases e; exact ⟨lr1, r1.fx⟩⟩
      · exact ⟨r2.cl.sl (Nat.le_refl _), rfl, fun x e => by cases e; exact ⟨lr2, r2.fx⟩⟩
      · exact ⟨r3.cl.sl (Nat.le_refl _), rfl, fun x e => by cases e; exact ⟨lr3, r3.fx⟩⟩
  obtain ⟨H13, fH13, kH13⟩ := bounce19_ok (kn := fun _ => none) (lo := lo) (H := H12) (b := 100) (m := 3) hR (Nat.le_refl _) (fun r hr => by simp only [rs0, List.mem_cons, List.not_mem_nil, or_false] at hr; rcases hr with rfl | rfl | rfl <;> (simp only; omega)) (by decide) (by omega)
  rw [q6, q7] at fH13
  refine wN_callf (vs := [slv br0 3 3, iv 100, iv 3]) rfl (callX_args fH13) ?_
  have mH13 := kH13.1
  have hk := hk.trans kH13
  have t1 := kH13.sc t1 (by simp)
  have t2 := kH13.sc t2 (by simp)
  have c2 := kH13.cl c2 (by simp)
  have hv := kH13.sl0 hv
  have c7 := kH13.cl c7 (by simp)
  have r1 := kH13.sc r1 (by simp)
  have r2 := kH13.sc r2 (by simp)
  have r3 := kH13.sc r3 (by simp)
  have r0 := kH13.sc r0 (by simp)
  refine wN_mov (v := .tuple #[iv 1, iv 0]) rfl ?_
  refine wN_pur (v := iv 1) rfl (by kernel_rfl) ?_
  refine wN_pur (v := iv 0) rfl (by kernel_rfl) ?_
  refine wN_mov (v := iv 1) rfl ?_
  refine wN_mov (v := iv 0) rfl ?_
  refine wN_end ?_
  refine wN_seq ?_
  refine wN_mov (v := .slice a 3 c) rfl ?_
  refine wN_len (m := 3) rfl ?_
  refine wN_b_neq (a := 3) (b := 3) rfl rfl ?_
  intro t1 g1; obtain rfl : t1 = false := by rw [← g1]; rfl
  refine wN_mov (v := .bool false) rfl ?_
  refine wN_g rfl (wN_mov (v := .slice a 3 c) rfl ?_)
  rcases hv with ⟨_, h0, _⟩ | ⟨sv, esv, rv, _⟩
  · omega
  refine wN_g rfl (wN_idx (b := sv) (o := 0) (k := 2) (j := 2) (by rw [← esv]; rfl) rfl rfl (by decide) ?_)
  refine wN_g rfl (wN_lda (b := sv) (o := 0 + 2 * 6) rfl rv (vsc_row q2) ?_)
  refine wN_g rfl (wN_pur (v := .agg #[iv 112, iv 120]) rfl (by kernel_rfl) ?_)
  refine wN_g rfl (wN_pur (v := .agg #[iv 127, iv 160]) rfl (by kernel_rfl) ?_)
  refine wN_g rfl (wN_pur (v := .agg #[iv 0, iv 8]) rfl (by kernel_rfl) ?_)
  refine wN_g rfl (wN_pur (v := .agg #[iv 112, iv 120, iv 127, iv 160, iv 0, iv 8]) rfl (by kernel_rfl) ?_)
  refine wN_g rfl (wN_pur (v := .bool false) rfl (neq_visit rfl rfl) ?_)
  refine wN_pur (v := .bool false) rfl rfl ?_
  refine wN_mov (v := .bool false) rfl ?_
  refine wN_g rfl (wN_mov (v := iv 0) rfl ?_)
  refine wN_g rfl (wN_b_neq (a := 0) (b := 0) rfl rfl ?_)
  intro t2 g2; obtain rfl : t2 = false := by rw [← g2]; rfl
  refine wN_pur (v := .bool false) rfl rfl ?_
  refine wN_mov (v := .bool false) rfl ?_
  refine wN_g rfl (wN_mov (v := iv 2) rfl ?_)
  refine wN_g rfl (wN_b_neq (a := 2) (b := 2) rfl rfl ?_)
  intro t3 g3; obtain rfl : t3 = false := by rw [← g3]; rfl
  refine wN_pur (v := .bool false) rfl rfl ?_
  refine wN_mov (v := .bool false) rfl ?_
  refine wN_g rfl (wN_mov (v := iv 0) rfl ?_)
  refine wN_g rfl (wN_b_neq (a := 0) (b := 0) rfl rfl ?_)
  intro t4 g4; obtain rfl : t4 = false := by rw [← g4]; rfl
  refine wN_pur (v := .bool false) rfl rfl ?_
  refine wN_end ?_
  refine condF ?_
  first | refine wN_skip ?_ | skip
  refine wN_seq ?_
  refine wN_lda (b := H6.next) (o := 0) rfl c7.rd (show row 6 _ _ = some [iv 7000, iv 6580, iv 233, iv 187, iv 329000, iv 3948000] from rfl) ?_
  refine wN_pur (v := .agg #[iv 7000, iv 6580, iv 233, iv 187, iv 329000, iv 3948000]) rfl (by kernel_rfl) ?_
  refine wN_pur (v := .bool true) rfl (eql_load rfl rfl) ?_
  refine wN_mov (v := .bool true) rfl ?_
  refine wN_g rfl (wN_mov (v := iv 0) rfl ?_)
  refine wN_g rfl (wN_b_eql (a := 0) (b := 0) rfl rfl ?_)
  intro t5 g5; obtain rfl : t5 = true := by rw [← g5]; rfl
  refine wN_pur (v := .bool true) rfl rfl ?_
  refine wN_mov (v := .bool true) rfl ?_
  refine wN_g rfl (wN_mov (v := iv 1) rfl ?_)
  refine wN_g rfl (wN_b_eql (a := 1) (b := 1) rfl rfl ?_)
  intro t6 g6; obtain rfl : t6 = true := by rw [← g6]; rfl
  refine wN_pur (v := .bool true) rfl rfl ?_
  refine wN_mov (v := .bool true) rfl ?_
  refine wN_g rfl (wN_mov (v := iv 0) rfl ?_)
  refine wN_g rfl (wN_b_eql (a := 0) (b := 0) rfl rfl ?_)
  intro t7 g7; obtain rfl : t7 = true := by rw [← g7]; rfl
  refine wN_pur (v := .bool true) rfl rfl ?_
  refine wN_mov (v := .bool true) rfl ?_
  refine wN_end ?_
  exact And.intro trivial (Exists.intro _ (And.intro rfl ⟨rfl, hk⟩))
end
end Go.Ax

/-
  Proved here: 'alive', the closed part that every law of station ends in, returns true in every world and leaves what lay below as it was. Conditions: none.
  It has no arguments; it is walked (the K texts) by the evaluator of calls, whose soundness against the machine is 'Go.Ax.open_call'.
-/
namespace Go.Ax
open Go Go.RowKit
theorem known_one {P : Program} {g : FuncId} {t : Bool} (hb : ((P.funcs[g]?).bind (fun fn => fn.body)).isSome = true) (hc : ∀ w, Calls P g #[] w fun e w' => e = .returned (.bool t) ∧ Below w.heap.size w w') :
    Known P fun f => bif Nat.beq f g then some t else none := by
  intro f b h
  obtain ⟨hf, h1⟩ := bif_some h
  clear h
  have hf := Nat.eq_of_beq_eq_true hf
  subst hf
  cases h1
  refine ⟨?_, hc⟩
  cases hx : P.funcs[f]? with
  | none => rw [hx] at hb; cases hb
  | some fn =>
    rw [hx] at hb
    cases hy : fn.body with
    | none => rw [Option.bind_some, hy] at hb; cases hb
    | some c => exact ⟨fn, c, rfl, hy⟩
end Go.Ax
namespace Go.Proofs.Ytocgghpjbaelpaa.alive
open Go.RowKit

theorem mixed : Try.prog.follows .mixedOrders = true := by kernel_rfl
theorem plainNames : (Try.prog.funcs.toList.all fun fn => !(fn.name == "runtime.NumGoroutine")) = true := by kernel_rfl
theorem noCount : Go.Ax.NoCount Try.prog := fun f fn h => by
  have h2 := List.all_eq_true.1 plainNames fn (by
    have := Array.mem_of_getElem? h
    simpa using this)
  simpa using h2

theorem call (w : World) : Calls Try.prog 10 #[] w fun e w' => e = .returned (.bool true) ∧ Below w.heap.size w w' := by
  obtain ⟨r, H, hrel, hr⟩ : ∃ (r : Go.Ax.Ren) (H : Go.Ax.Hp), Go.Ax.Rel Try.prog r w.heap.size H w ∧ ∀ b loc, r b = some loc → b < H.next := by
    obtain ⟨r, H, h1, h2, h3⟩ := Go.Ax.imports (P := Try.prog) [] w (fun x hx => by simp at hx)
    exact ⟨r, H, by first | exact h1 | exact h2, by first | exact h2 | exact h3 | exact h3.1⟩
  obtain ⟨H', hf, _⟩ := Go.Ax.awake10_ok (lo := H.next) (H := H) (fun b cs hb _ => hb) (Nat.le_refl _)
  exact Go.Ax.open_call mixed noCount (Go.Ax.Known.nothing _) hrel hr .nil hf

theorem known : Go.Ax.Known Try.prog fun f => bif Nat.beq f 10 then some true else none := Go.Ax.known_one (by kernel_rfl) call
end Go.Proofs.Ytocgghpjbaelpaa.alive

/-
  Station: the laws StationQueues and StationWeighs, whatever the input (written by program).
-/
namespace Go.Ax
open Go Go.RowKit Go.Proofs

section
variable {kn : FuncId → Option Bool} {lo : Nat} {H : Hp}
theorem manyB_f {rs : List Rw} {n : Nat} (hl : rs.length = n) (h : manyB rs = false) : (∀ r ∈ rs, r.n ≤ 1000000) ∧ n ≤ 1000000 := by
  unfold manyB at h
  rw [Bool.or_eq_false_iff, decide_eq_false_iff_not, List.any_eq_false] at h
  refine ⟨fun r hr => ?_, by omega⟩
  have := h.2 r hr
  simp at this
  omega
set_option maxRecDepth 100000 in
set_option maxHeartbeats 4000000 in
/-- StationWeighs -/
theorem law_weighs (hkn : kn 10 = some true) {s : Sp} {ra : Option Addr} {rn rcap f : Nat} {rs : List Rw} {b m : Int} (hs : Sl H s.sa s.sn s.scap (smc s.ss)) (hl : s.ss.length = s.sn) (hr : Rws H f ra rn rcap rs) (hf : f ≤ H.next) (hro : RoLow lo H) (hlo : lo ≤ H.next) : ∃ H', FnX Try.prog kn lo 4 [.agg s.v.toArray, .slice ra rn rcap, iv b, iv m] H (.bool true) H' := by
  have key := fnX_low (kn := kn) (lo := lo) (H := H) (args := [.agg s.v.toArray, .slice ra rn rcap, iv b, iv m]) (Q := fun w H' => w = .bool true) Try.func4 B4 N4 Z4 L4 (by simp) ?_
  · obtain ⟨w, H', h, rfl⟩ := key; exact ⟨H', h⟩
  have hk := Keep.refl H []
  have fs : ∀ b, s.sa = some ⟨b, 0, none⟩ → b < H.next := hs.old
  refine wN_seq ?_
  refine wN_box (v := .agg s.v.toArray) rfl ?_
  intro H1 kH1 nH1 c1
  have c1 : Cl H1 H.next [iv s.gr, iv s.bed, iv s.day, iv s.gross, iv s.tare, .slice s.sa s.sn s.scap] := c1
  have mH1 := kH1.1
  have hk := hk.trans kH1
  have hs := kH1.sl0 hs
  have hr := hr.keep kH1 (by simp)
  refine wN_mov (v := .bool false) rfl ?_
  refine wN_end ?_
  refine wN_seq ?_
  refine wN_addo (b := H.next) (o := 0) rfl ?_
  refine wN_ld (b := H.next) (o := 5) (v := .slice s.sa s.sn s.scap) rfl c1.rd rfl ?_
  refine wN_len (m := s.sn) rfl ?_
  refine wN_b_gtr (a := (s.sn : Int)) (b := 40) rfl rfl ?_
  intro t1 g1; cases t1
  · have g1 : ¬ ((s.sn : Int) > 40) := of_decide_eq_false g1
    refine wN_mov (v := .bool false) rfl ?_
    refine wN_g rfl (wN_mov (v := .slice ra rn rcap) rfl ?_)
    refine wN_g rfl (wN_callB rfl (many_ok hr) ?_)
    intro tH2 H2 hH2 kH2
    have mH2 := kH2.1
    have hk := hk.trans kH2
    have hs := kH2.sl0 hs
    have hr := hr.keep kH2 (by simp)
    have c1 := kH2.cl c1 (by simp)
    cases tH2
    · obtain ⟨hm, hn⟩ := manyB_f hr.rl hH2
      refine wN_pur (v := .bool false) rfl rfl ?_
      refine wN_end ?_
      refine condF ?_
      first | refine wN_skip ?_ | skip
      refine wN_seq ?_
      refine wN_lda (b := H.next) (o := 0) rfl c1.rd (show row 6 _ _ = some [iv s.gr, iv s.bed, iv s.day, iv s.gross, iv s.tare, .slice s.sa s.sn s.scap] from rfl) ?_
      obtain ⟨H3, fH3, kH3⟩ := weigh17_ok (kn := kn) (lo := lo) (H := H2) (s := s) hs hl (by omega)
      refine wN_callf (vs := [.agg s.v.toArray]) rfl (callX_args fH3) ?_
      have mH3 := kH3.1
      have hk := hk.trans kH3
      have hs := kH3.sl0 hs
      have hr := hr.keep kH3 (by simp)
      have c1 := kH3.cl c1 (by simp)
      refine wN_mov (v := .tuple #[.agg s.load.v.toArray, iv s.we]) rfl ?_
      refine wN_pur (v := .agg s.load.v.toArray) rfl (by kernel_rfl) ?_
      refine wN_pur (v := iv s.we) rfl (by kernel_rfl) ?_
      refine wN_alc ?_
      intro H4 kH4 nH4 c4
      have c4 : Cl H4 H3.next [iv 0, iv 0, iv 0, iv 0, iv 0, iv 0] := c4
      have mH4 := kH4.1
      have hk := hk.trans kH4
      have hs := kH4.sl0 hs
      have hr := hr.keep kH4 (by simp)
      have c1 := kH4.cl c1 (by simp)
      refine wN_sta (b := H3.next) (o := 0) rfl rfl c4 (by omega) rfl rfl (by simp) ?_
      intro H5 kH5 nH5 sH5
      have mH5 := kH5.1
      have hk := hk.new kH5 (fun b hb => by simp at hb ⊢; omega)
      have hs := kH5.sl hs (fun b e => by have := fs b e; first | (simp; done) | (simp; omega))
      have hr := hr.keep kH5 (fun x hx => by simp at hx; omega)
      have c1 := kH5.cl c1 (by first | (simp; done) | (simp; omega))
      have c4 : Cl H5 H3.next [iv s.load.n, iv s.load.g, iv s.load.t, iv s.load.r, iv s.load.c, iv s.load.f] := sH5
      refine wN_mov (v := iv s.we) rfl ?_
      refine wN_end ?_
      refine wN_seq ?_
      refine wN_lda (b := H.next) (o := 0) rfl c1.rd (show row 6 _ _ = some [iv s.gr, iv s.bed, iv s.day, iv s.gross, iv s.tare, .slice s.sa s.sn s.scap] from rfl) ?_
      obtain ⟨H6, fH6, kH6⟩ := ref18_ok (kn := kn) (lo := lo) (H := H5) (s := s) hs hl (by omega) (by omega)
      refine wN_callf (vs := [.agg s.v.toArray]) rfl (callX_args fH6) ?_
      have mH6 := kH6.1
      have hk := hk.trans kH6
      have hs := kH6.sl0 hs
      have hr := hr.keep kH6 (by simp)
      have c1 := kH6.cl c1 (by simp)
      have c4 := kH6.cl c4 (by simp)
      refine wN_mov (v := .tuple #[.agg s.load.v.toArray, iv s.we]) rfl ?_
      refine wN_pur (v := .agg s.load.v.toArray) rfl (by kernel_rfl) ?_
      refine wN_pur (v := iv s.we) rfl (by kernel_rfl) ?_
      refine wN_alc ?_
      intro H7 kH7 nH7 c7
      have c7 : Cl H7 H6.next [iv 0, iv 0, iv 0, iv 0, iv 0, iv 0] := c7
      have mH7 := kH7.1
      have hk := hk.trans kH7
      have hs := kH7.sl0 hs
      have hr := hr.keep kH7 (by simp)
      have c1 := kH7.cl c1 (by simp)
      have c4 := kH7.cl c4 (by simp)
      refine wN_sta (b := H6.next) (o := 0) rfl rfl c7 (by omega) rfl rfl (by simp) ?_
      intro H8 kH8 nH8 sH8
      have mH8 := kH8.1
      have hk := hk.new kH8 (fun b hb => by simp at hb ⊢; omega)
      have hs := kH8.sl hs (fun b e => by have := fs b e; first | (simp; done) | (simp; omega))
      have hr := hr.keep kH8 (fun x hx => by simp at hx; omega)
      have c1 := kH8.cl c1 (by first | (simp; done) | (simp; omega))
      have c4 := kH8.cl c4 (by first | (simp; done) | (simp; omega))
      have c7 : Cl H8 H6.next [iv s.load.n, iv s.load.g, iv s.load.t, iv s.load.r, iv s.load.c, iv s.load.f] := sH8
      refine wN_mov (v := iv s.we) rfl ?_
      refine wN_end ?_
      refine wN_seq ?_
      refine wN_mov (v := .slice ra rn rcap) rfl ?_
      refine wN_mov (v := iv b) rfl ?_
      refine wN_mov (v := iv m) rfl ?_
      obtain ⟨H9, fH9, kH9⟩ := bounce19_ok (kn := kn) (lo := lo) (H := H8) (b := b) (m := m) hr (by omega) hm hn (by omega)
      refine wN_callf (vs := [.slice ra rn rcap, iv b, iv m]) rfl (callX_args fH9) ?_
      have mH9 := kH9.1
      have hk := hk.trans kH9
      have hs := kH9.sl0 hs
      have hr := hr.keep kH9 (by simp)
      have c1 := kH9.cl c1 (by simp)
      have c4 := kH9.cl c4 (by simp)
      have c7 := kH9.cl c7 (by simp)
      refine wN_mov (v := .tuple #[iv (boN rs b m), iv (boE rs b m)]) rfl ?_
      refine wN_pur (v := iv (boN rs b m)) rfl (by kernel_rfl) ?_
      refine wN_pur (v := iv (boE rs b m)) rfl (by kernel_rfl) ?_
      refine wN_mov (v := iv (boN rs b m)) rfl ?_
      refine wN_mov (v := iv (boE rs b m)) rfl ?_
      refine wN_end ?_
      refine wN_seq ?_
      refine wN_mov (v := .slice ra rn rcap) rfl ?_
      refine wN_mov (v := iv b) rfl ?_
      refine wN_mov (v := iv m) rfl ?_
      obtain ⟨H10, fH10, kH10⟩ := ref20_ok (kn := kn) (lo := lo) (H := H9) (b := b) (m := m) hr hm hn (by omega)
      refine wN_callf (vs := [.slice ra rn rcap, iv b, iv m]) rfl (callX_args fH10) ?_
      have mH10 := kH10.1
      have hk := hk.trans kH10
      have hs := kH10.sl0 hs
      have hr := hr.keep kH10 (by simp)
      have c1 := kH10.cl c1 (by simp)
      have c4 := kH10.cl c4 (by simp)
      have c7 := kH10.cl c7 (by simp)
      refine wN_mov (v := .tuple #[iv (boN rs b m), iv (boE rs b m)]) rfl ?_
      refine wN_pur (v := iv (boN rs b m)) rfl (by kernel_rfl) ?_
      refine wN_pur (v := iv (boE rs b m)) rfl (by kernel_rfl) ?_
      refine wN_mov (v := iv (boN rs b m)) rfl ?_
      refine wN_mov (v := iv (boE rs b m)) rfl ?_
      refine wN_end ?_
      refine wN_seq ?_
      refine wN_lda (b := H3.next) (o := 0) rfl c4.rd (show row 6 _ _ = some [iv s.load.n, iv s.load.g, iv s.load.t, iv s.load.r, iv s.load.c, iv s.load.f] from rfl) ?_
      refine wN_lda (b := H6.next) (o := 0) rfl c7.rd (show row 6 _ _ = some [iv s.load.n, iv s.load.g, iv s.load.t, iv s.load.r, iv s.load.c, iv s.load.f] from rfl) ?_
      refine wN_pur (v := .bool true) rfl (eql_load rfl rfl) ?_
      refine wN_mov (v := .bool true) rfl ?_
      refine wN_g rfl (wN_mov (v := iv s.we) rfl ?_)
      refine wN_g rfl (wN_mov (v := iv s.we) rfl ?_)
      refine wN_g rfl (wN_eql (a := s.we) rfl rfl ?_)
      refine wN_pur (v := .bool true) rfl rfl ?_
      refine wN_mov (v := .bool true) rfl ?_
      refine wN_g rfl (wN_mov (v := iv (boN rs b m)) rfl ?_)
      refine wN_g rfl (wN_mov (v := iv (boN rs b m)) rfl ?_)
      refine wN_g rfl (wN_eql (a := boN rs b m) rfl rfl ?_)
      refine wN_pur (v := .bool true) rfl rfl ?_
      refine wN_mov (v := .bool true) rfl ?_
      refine wN_g rfl (wN_mov (v := iv (boE rs b m)) rfl ?_)
      refine wN_g rfl (wN_mov (v := iv (boE rs b m)) rfl ?_)
      refine wN_g rfl (wN_eql (a := boE rs b m) rfl rfl ?_)
      refine wN_pur (v := .bool true) rfl rfl ?_
      refine wN_mov (v := .bool true) rfl ?_
      refine wN_g rfl (wN_callf (vs := []) rfl (callX_known hkn) ?_)
      refine wN_pur (v := .bool true) rfl rfl ?_
      refine wN_mov (v := .bool true) rfl ?_
      refine wN_end ?_
      exact And.intro trivial (Exists.intro _ (And.intro rfl rfl))
    · refine wN_pur (v := .bool true) rfl rfl ?_
      refine wN_end ?_
      refine condT ?_
      refine wN_seq ?_
      refine wN_callf (vs := []) rfl (callX_known hkn) ?_
      refine wN_mov (v := .bool true) rfl ?_
      refine wN_end ?_
      exact And.intro trivial (Exists.intro _ (And.intro rfl rfl))
  · have g1 : (s.sn : Int) > 40 := of_decide_eq_true g1
    refine wN_mov (v := .bool true) rfl ?_
    refine wN_gs rfl ?_
    refine wN_gs rfl ?_
    refine wN_pur (v := .bool true) rfl rfl ?_
    refine wN_end ?_
    refine condT ?_
    refine wN_seq ?_
    refine wN_callf (vs := []) rfl (callX_known hkn) ?_
    refine wN_mov (v := .bool true) rfl ?_
    refine wN_end ?_
    exact And.intro trivial (Exists.intro _ (And.intro rfl rfl))
end
end Go.Ax

namespace Go.Ax
open Go Go.RowKit Go.Proofs Go.ChangeShapes Go.WideShapes Go.Deep

/-- A type whose cells are whole numbers. -/
def IntT (P : Program) (t : TypeId) : Prop := ∀ (H : Type) (enc : TypeId × Value → H) (w : World) (base : Nat) (spare : Nat → Bool) (held : Bool) (fuel : Nat) (cs : List Value) (x : DataW H × List MemPlace),
  DataW.trod enc P w base spare held fuel t cs = some x → cs.length = P.cellsOf t ∧ ∀ j, j < cs.length → ∃ n, cs[j]? = some (.int .i64 n)
theorem IntT.int {P : Program} {t : TypeId} (ht : P.underlying t = some (.int .i64)) (hc : P.cellsOf t = 1) : IntT P t := by
  intro H enc w base spare held fuel cs x h
  obtain ⟨n, rfl, _⟩ := DataW.trod_int ht h
  refine ⟨by rw [hc]; rfl, fun j hj => ⟨n, ?_⟩⟩
  have : j = 0 := by simp at hj; omega
  subst this; rfl
theorem IntT.struct {P : Program} {t : TypeId} {fs : Array Field} (ht : P.underlying t = some (.struct fs)) (hf : ∀ f ∈ fs.toList, IntT P f.type)
    (hcov : ((List.range (P.cellsOf t)).all fun j => fs.toList.any fun f => decide (f.offset ≤ j) && decide (j < f.offset + P.cellsOf f.type)) = true) : IntT P t := by
  intro H enc w base spare held fuel cs x h
  obtain ⟨xs, n, _, _, hlen, hxl, hg⟩ := DataW.trod_struct ht h
  refine ⟨hlen, fun j hj => ?_⟩
  have h1 := List.all_eq_true.1 hcov j (List.mem_range.2 (by omega))
  obtain ⟨f, hfm, h2⟩ := List.any_eq_true.1 h1
  simp only [Bool.and_eq_true, decide_eq_true_eq] at h2
  obtain ⟨i, hi, hfi⟩ := List.getElem_of_mem hfm
  have hfs : fs[i]? = some f := by
    rw [← Array.getElem?_toList, List.getElem?_eq_getElem hi, hfi]
  have hi2 : i < xs.length := by simpa [hxl] using hi
  have h3 := hg i f hfs
  rw [List.getElem?_eq_getElem hi2] at h3
  obtain ⟨h4, h5⟩ := hf f hfm _ _ _ _ _ _ _ _ _ h3
  obtain ⟨m, hm⟩ := h5 (j - f.offset) (by omega)
  refine ⟨m, ?_⟩
  rw [List.getElem?_take] at hm
  split at hm
  · rw [List.getElem?_drop, show f.offset + (j - f.offset) = j by omega] at hm; exact hm
  · cases hm

/-- A slice of rows of whole numbers, as it is given. -/
structure Given {α : Type} (w : World) (v : Value) (f : α → List Value) (l : List α) (x : Imp) : Prop where
  ok : ∀ (i : Nat) u, x.cs[i]? = some u → w.cell? ⟨x.blk, x.off + i, none⟩ = some u ∧ flat1 u = true
  cs : x.cs = l.flatMap f
  v : (v = .slice none 0 0 ∧ l = []) ∨ ∃ cap, v = .slice (some ⟨x.blk, x.off, none⟩) l.length cap ∧ l.length ≤ cap
theorem flat_get {α : Type} {f : α → List Value} {k : Nat} (hk : 0 < k) : ∀ {l : List α} (_ : ∀ x ∈ l, (f x).length = k) (i : Nat) (u : Value), (l.flatMap f)[i]? = some u → ∃ x, l[i / k]? = some x ∧ (f x)[i % k]? = some u
  | [], _, i, u, h => by simp at h
  | y :: r, hl, i, u, h => by
    have hy := hl y (List.mem_cons_self ..)
    rw [List.flatMap_cons, List.getElem?_append] at h
    split at h
    · rename_i q
      rw [hy] at q
      refine ⟨y, ?_, ?_⟩
      · rw [Nat.div_eq_of_lt q]; rfl
      · rw [Nat.mod_eq_of_lt q]; exact h
    · rename_i q
      rw [hy] at q h
      obtain ⟨x, h1, h2⟩ := flat_get hk (fun x hx => hl x (List.mem_cons_of_mem _ hx)) _ u h
      refine ⟨x, ?_, ?_⟩
      · rw [Nat.div_eq_sub_div hk (by omega)]; exact h1
      · rw [Nat.mod_eq_sub_mod (by omega)]; exact h2
theorem Given.rel {α : Type} {w : World} {v : Value} {f : α → List Value} {l : List α} {x : Imp} (g : Given w v f l x) {r : Ren} {H : Hp} {b : Nat} (hr : r b = some ⟨x.blk, x.off, none⟩) (hb : b < H.next) (hc : cellsOf H b = some x.cs) (hro : H.t.get b = some (.ro x.cs)) :
    ∃ a cap, VR r (.slice a l.length cap) v ∧ Sl H a l.length cap (l.flatMap f) ∧ ∀ b, a = some ⟨b, 0, none⟩ → H.t.get b = some (.ro (l.flatMap f)) := by
  rcases g.v with ⟨rfl, rfl⟩ | ⟨cap, rfl, hl⟩
  · exact ⟨none, 0, .nilSlice, .inl ⟨.inl rfl, rfl, rfl, rfl⟩, fun b e => by cases e⟩
  · refine ⟨some ⟨b, 0, none⟩, cap, ?_, .inr ⟨b, rfl, ⟨hb, by rw [hc, g.cs]⟩, hl⟩, fun b' e => by cases e; rw [hro, g.cs]⟩
    have := VR.slice (o := 0) (n := l.length) (c := cap) hr rfl hl
    simpa using this
theorem flat_ints (us : List Int) : us.flatMap (fun x => [iv x]) = ints us := by
  induction us with
  | nil => rfl
  | cons u us ih => rw [List.flatMap_cons, ih]; rfl
end Go.Ax

/-! Slices of rows of plain cells, as arguments. -/
namespace Go.Ax
open Go Go.RowKit Go.Proofs Go.ChangeShapes Go.WideShapes Go.Deep

theorem IntT.row {α : Type} {P : Program} {t : TypeId} {k : Nat} {f : α → List Value} {mk : (Nat → Int) → α} (h : IntT P t) (hc : P.cellsOf t = k) (hmk : ∀ N : Nat → Int, f (mk N) = (List.range k).map fun j => Value.int .i64 (N j))
    {H : Type} {enc : TypeId × Value → H} {w : World} {base : Nat} {spare : Nat → Bool} {held : Bool} (fuel : Nat) (cs : List Value) (x : DataW H × List MemPlace) (hx : DataW.trod enc P w base spare held fuel t cs = some x) : ∃ y : α, cs = f y ∧ True := by
  obtain ⟨h1, h2⟩ := h _ _ _ _ _ _ _ _ _ hx
  have : ∃ N : Nat → Int, ∀ j, j < cs.length → cs[j]? = some (.int .i64 (N j)) := by
    refine ⟨fun j => match cs[j]? with | some (.int _ n) => n | _ => 0, fun j hj => ?_⟩
    obtain ⟨n, hn⟩ := h2 j hj
    simp [hn]
  obtain ⟨N, hN⟩ := this
  refine ⟨mk N, ?_, trivial⟩
  rw [hmk]
  apply List.ext_getElem?
  intro j
  by_cases hj : j < k
  · rw [hN j (by omega), List.getElem?_map, List.getElem?_range hj]; rfl
  · rw [List.getElem?_eq_none (by omega), List.getElem?_eq_none (by simp; omega)]
theorem spot_of {w : World} {a : Addr} {v : Value} (h : w.cell? a = some v) : a.spot = none := by
  unfold World.cell? at h
  split at h
  · cases hs : a.spot with
    | none => rfl
    | some x => rw [hs] at h; simp at h
  · cases h
theorem add_zero' (a : Addr) : a.add 0 = a := by unfold Addr.add; simp
theorem add_plain (b o n : Nat) : (⟨b, o, none⟩ : Addr).add n = ⟨b, o + n, none⟩ := by
  unfold Addr.add
  by_cases q : n = 0
  · simp [q]
  · simp [q]
/-- A slice of rows, as it is read; Q: what else is known of a row. -/
theorem rows_read {H : Type} {enc : TypeId × Value → H} {P : Program} {w : World} {base : Nat} {held : Bool} {α : Type} {f : α → List Value} {Q : α → Prop} {k : Nat} {t e : TypeId} {fuel : Nat} {v : Value} {x : DataW H × List MemPlace}
    (ht : P.underlying t = some (.slice e)) (hR : ∀ (fuel : Nat) (cs : List Value) (x : DataW H × List MemPlace), DataW.trod enc P w base (fun _ => true) held fuel e cs = some x → ∃ y : α, cs = f y ∧ Q y) (hc : P.cellsOf e = k) (hk : 0 < k) (hfk : ∀ y, (f y).length = k)
    (h : DataW.trod enc P w base (fun _ => true) held fuel t [v] = some x) : ∃ (l : List α), l.length ≤ maxLen ∧ (∀ y ∈ l, Q y) ∧
      (((v = .slice none 0 0 ∨ ∃ a', v = .slice (some a') 0 0) ∧ l = []) ∨ ∃ blk off cap, v = .slice (some ⟨blk, off, none⟩) l.length cap ∧ l.length ≤ cap ∧ ∀ (i : Nat) u, (l.flatMap f)[i]? = some u → w.cell? ⟨blk, off + i, none⟩ = some u) := by
  rcases open_slice ht h with ⟨h0, _⟩ | ⟨a, len, cap, m, n, D, Pl, hcs, hb, hl, hm, hmm, hx, hi⟩
  · cases h0
    exact ⟨[], by simp, fun y hy => by simp at hy, .inl ⟨.inl rfl, rfl⟩⟩
  cases hcs
  simp only [if_true] at hmm
  subst hmm
  rcases Nat.eq_zero_or_pos m with h0 | h0
  · subst h0
    have : len = 0 := by omega
    subst this
    exact ⟨[], by simp, fun y hy => by simp at hy, .inl ⟨.inr ⟨_, rfl⟩, rfl⟩⟩
  obtain ⟨blk, off, spot⟩ := a
  have hs : spot = none := by
    obtain ⟨cs', h1, h2⟩ := hi 0 h0
    obtain ⟨y, hy, _⟩ := hR _ _ _ h2
    obtain ⟨_, h5, h6⟩ := World.cells?_some h1
    have h7 := h6 0 (by omega)
    rw [Nat.zero_mul, add_zero', add_zero'] at h7
    have h8 : cs'[0]? = some (cs'[0]'(by omega)) := List.getElem?_eq_getElem _
    rw [h8] at h7
    exact spot_of h7
  subst hs
  have hrow : ∀ i, i < len → ∃ y : α, Q y ∧ ∀ j, j < k → ∃ u, (f y)[j]? = some u ∧ w.cell? ⟨blk, off + (i * k + j), none⟩ = some u := by
    intro i hil
    obtain ⟨cs', h1, h2⟩ := hi i (by omega)
    obtain ⟨y, rfl, hq⟩ := hR _ _ _ h2
    obtain ⟨_, h5, h6⟩ := World.cells?_some h1
    refine ⟨y, hq, fun j hj => ?_⟩
    have h7 := h6 j (by omega)
    have h8 : (f y)[j]? = some ((f y)[j]'(by rw [hfk]; exact hj)) := List.getElem?_eq_getElem _
    rw [h8, hc, add_plain, add_plain, Nat.add_assoc] at h7
    exact ⟨_, h8, h7⟩
  have key : ∀ n, n ≤ len → ∃ l : List α, l.length = n ∧ (∀ y ∈ l, Q y) ∧ ∀ (i : Nat) y, l[i]? = some y → ∀ j, j < k → ∃ u, (f y)[j]? = some u ∧ w.cell? ⟨blk, off + (i * k + j), none⟩ = some u := by
    intro n
    induction n with
    | zero => intro _; exact ⟨[], rfl, fun y hy => by simp at hy, fun i y e => by simp at e⟩
    | succ n ih =>
      intro hn
      obtain ⟨l, h1, hq, h2⟩ := ih (by omega)
      obtain ⟨y, hyq, hy⟩ := hrow n (by omega)
      refine ⟨l ++ [y], by simp [h1], fun z hz => ?_, fun i z e => ?_⟩
      · simp only [List.mem_append, List.mem_singleton] at hz
        rcases hz with hz | rfl
        · exact hq z hz
        · exact hyq
      rw [List.getElem?_append] at e
      split at e
      · exact h2 i z e
      · rename_i q
        have : i = n := by have := get_lt e; simp at this; omega
        subst this
        rw [h1, Nat.sub_self] at e
        simp at e; subst e
        exact hy
  obtain ⟨l, hl1, hq, hl2⟩ := key len (Nat.le_refl _)
  refine ⟨l, by omega, hq, .inr ⟨blk, off, m, by rw [hl1], by omega, fun i u hu => ?_⟩⟩
  obtain ⟨y, h1, h2⟩ := flat_get hk (fun y _ => hfk y) i u hu
  have hj : i % k < k := Nat.mod_lt _ hk
  obtain ⟨u', e1, e2⟩ := hl2 _ y h1 _ hj
  rw [h2] at e1; cases e1
  rw [Nat.div_add_mod'] at e2
  exact e2
end Go.Ax

/-! Arguments that point to what points: inner slices, rows of slices. -/
namespace Go.Ax
open Go Go.RowKit Go.Proofs Go.ChangeShapes Go.WideShapes Go.Deep

def renOf (imps : List Imp) : Ren := fun b => (imps[b]?).map fun x => ⟨x.blk, x.off, none⟩
theorem imports3 {P : Program} (imps outs : List Imp) (w : World) (h : ∀ x ∈ imps, ∀ (i : Nat) v, x.cs[i]? = some v → w.cell? ⟨x.blk, x.off + i, none⟩ = some v ∧ flat1 v = true)
    (hcs : ∀ x ∈ outs, ∀ (i : Nat) v, x.cs[i]? = some v → ∃ v', w.cell? ⟨x.blk, x.off + i, none⟩ = some v' ∧ VR (renOf imps) v v') :
    ∃ (r : Ren) (H : Hp), Rel P r w.heap.size H w ∧ H.next = (imps ++ outs).length ∧ (∀ b loc, r b = some loc → b < H.next) ∧ Ren.Le (renOf imps) r ∧ ∀ (b : Nat) x, (imps ++ outs)[b]? = some x → r b = some ⟨x.blk, x.off, none⟩ ∧ H.t.get b = some (.ro x.cs) := by
  have hall : ∀ x ∈ imps ++ outs, ∀ (i : Nat) v, x.cs[i]? = some v → ∃ v', w.cell? ⟨x.blk, x.off + i, none⟩ = some v' ∧ VR (renOf imps) v v' := by
    intro x hx i v hv
    rcases List.mem_append.1 hx with hx | hx
    · obtain ⟨h1, h2⟩ := h x hx i v hv
      exact ⟨v, h1, flat1_vr h2⟩
    · exact hcs x hx i v hv
  obtain ⟨t, ht⟩ := tr_of (fun b => ((imps ++ outs)[b]?).map fun x => .ro x.cs) (imps ++ outs).length
  have hle : Ren.Le (renOf imps) (fun b => ((imps ++ outs)[b]?).map fun x => ⟨x.blk, x.off, none⟩) := fun b loc e => by
    unfold renOf at e
    have hlt : b < imps.length := by
      rcases Nat.lt_or_ge b imps.length with q | q
      · exact q
      · rw [List.getElem?_eq_none q] at e; cases e
    show ((imps ++ outs)[b]?).map _ = _
    rw [List.getElem?_append_left hlt]; exact e
  have hr : ∀ (b : Nat) loc, ((imps ++ outs)[b]?).map (fun x => (⟨x.blk, x.off, none⟩ : Loc)) = some loc → ∃ x, (imps ++ outs)[b]? = some x ∧ b < (imps ++ outs).length ∧ loc = ⟨x.blk, x.off, none⟩ ∧ t.get b = some (.ro x.cs) := by
    intro b loc e
    cases hx : (imps ++ outs)[b]? with
    | none => rw [hx] at e; cases e
    | some x =>
      rw [hx] at e
      simp at e
      have hlt := get_lt hx
      exact ⟨x, rfl, hlt, e.symm, by rw [ht, if_pos hlt, hx]; rfl⟩
  have low : ∀ {g o : Nat} {v : Value}, w.cell? ⟨g, o, none⟩ = some v → g < w.heap.size := fun {g o v} hv => by
    unfold World.cell? at hv
    rcases Nat.lt_or_ge g w.heap.size with q | q
    · exact q
    · rw [Array.getElem?_eq_none q] at hv; cases hv
  refine ⟨fun b => ((imps ++ outs)[b]?).map fun x => ⟨x.blk, x.off, none⟩, { next := (imps ++ outs).length, t }, ⟨?_, ?_, ?_, Nat.le_refl _⟩, rfl, ?_, hle, ?_⟩
  · intro b loc e
    obtain ⟨x, hx, hlt, rfl, hg⟩ := hr b loc e
    refine ⟨hlt, ?_⟩
    show Dm _ _ _ (t.get b)
    rw [hg]
    cases hc : x.cs with
    | nil => exact .inl rfl
    | cons v l =>
      obtain ⟨v', h1, _⟩ := hall x (List.mem_of_getElem? hx) 0 v (by rw [hc]; rfl)
      exact .inr (low h1)
  · intro b loc o e eo
    obtain ⟨x, hx, hlt, rfl, hg⟩ := hr b loc e
    rw [hg] at eo; cases eo
    refine ⟨rfl, fun i v ev => ?_⟩
    obtain ⟨v', h1, h2⟩ := hall x (List.mem_of_getElem? hx) i v ev
    unfold World.cell? at h1
    simp only at h1
    split at h1
    · rename_i C e' f hC
      exact ⟨C, e', f, v', hC, by simpa using h1, h2.mono hle⟩
    · cases h1
  · intro b b' loc loc' e e' _ hl _
    obtain ⟨x, hx, hlt, rfl, hg⟩ := hr b loc e
    obtain ⟨o, h1, h2, h3⟩ := hl
    have : t.get b = some o := h1
    rw [hg] at this; cases this
    cases h3
  · intro b loc e
    obtain ⟨x, hx, hlt, rfl, hg⟩ := hr b loc e
    exact hlt
  · intro b x hx
    have hlt := get_lt hx
    refine ⟨by simp only [hx, Option.map_some], ?_⟩
    show t.get b = _
    rw [ht, if_pos hlt, hx]; rfl

/-- An inner slice, as it is given: an empty one may have any address. -/
structure GivI {α : Type} (w : World) (v : Value) (f : α → List Value) (l : List α) (x : Imp) : Prop where
  ok : ∀ (i : Nat) u, x.cs[i]? = some u → w.cell? ⟨x.blk, x.off + i, none⟩ = some u ∧ flat1 u = true
  cs : x.cs = l.flatMap f
  v : ((v = .slice none 0 0 ∨ ∃ a', v = .slice (some a') 0 0) ∧ l = []) ∨ ∃ cap, v = .slice (some ⟨x.blk, x.off, none⟩) l.length cap ∧ l.length ≤ cap
theorem givI_of {H : Type} {enc : TypeId × Value → H} {P : Program} {w : World} {base : Nat} {held : Bool} {α : Type} {f : α → List Value} {Q : α → Prop} {k : Nat} {t e : TypeId} {fuel : Nat} {v : Value} {x : DataW H × List MemPlace}
    (ht : P.underlying t = some (.slice e)) (hR : ∀ (fuel : Nat) (cs : List Value) (x : DataW H × List MemPlace), DataW.trod enc P w base (fun _ => true) held fuel e cs = some x → ∃ y : α, cs = f y ∧ Q y) (hc : P.cellsOf e = k) (hk : 0 < k) (hfk : ∀ y, (f y).length = k) (hflat : ∀ y u, u ∈ f y → flat1 u = true)
    (h : DataW.trod enc P w base (fun _ => true) held fuel t [v] = some x) : ∃ (l : List α) (y : Imp), GivI w v f l y := by
  obtain ⟨l, h1, h2, ⟨h3, rfl⟩ | ⟨blk, off, cap, h3, h4, h5⟩⟩ := rows_read ht hR hc hk hfk h
  · exact ⟨[], ⟨0, 0, []⟩, ⟨fun i u e => by simp at e, rfl, .inl ⟨h3, rfl⟩⟩⟩
  · refine ⟨l, ⟨blk, off, l.flatMap f⟩, ⟨fun i u hu => ⟨h5 i u hu, ?_⟩, rfl, .inr ⟨cap, h3, h4⟩⟩⟩
    obtain ⟨y, hy, hu'⟩ := List.mem_flatMap.1 (List.mem_of_getElem? hu)
    exact hflat y u hu'
theorem GivI.rel {α : Type} {w : World} {v : Value} {f : α → List Value} {l : List α} {x : Imp} (g : GivI w v f l x) {r : Ren} {b : Nat} (hr : r b = some ⟨x.blk, x.off, none⟩) :
    ∃ a cap, VR r (.slice a l.length cap) v ∧ (∀ y, a = some ⟨y, 0, none⟩ → y = b) ∧ ∀ H : Hp, b < H.next → H.t.get b = some (.ro x.cs) → Sl H a l.length cap (l.flatMap f) := by
  rcases g.v with ⟨rfl | ⟨a', rfl⟩, rfl⟩ | ⟨cap, rfl, hl⟩
  · exact ⟨none, 0, .nilSlice, fun y e => by (cases e), fun H _ _ => .inl ⟨.inl rfl, rfl, rfl, rfl⟩⟩
  · exact ⟨some ⟨0, 0, some 0⟩, 0, .weird, fun y e => by (cases e), fun H _ _ => .inl ⟨.inr rfl, rfl, rfl, rfl⟩⟩
  · refine ⟨some ⟨b, 0, none⟩, cap, ?_, fun y e => by (cases e; rfl), fun H hb hc => .inr ⟨b, rfl, ⟨hb, by unfold cellsOf; rw [hc, g.cs]⟩, hl⟩⟩
    have := VR.slice (o := 0) (n := l.length) (c := cap) hr rfl hl
    simpa using this
/-- A list of rows that point elsewhere, as it is given. -/
structure GivO {α : Type} (w : World) (v : Value) (f : α → List Value) (l : List α) (x : Imp) : Prop where
  cs : ∀ (i : Nat) u, (l.flatMap f)[i]? = some u → w.cell? ⟨x.blk, x.off + i, none⟩ = some u
  v : ((v = .slice none 0 0 ∨ ∃ a', v = .slice (some a') 0 0) ∧ l = []) ∨ ∃ cap, v = .slice (some ⟨x.blk, x.off, none⟩) l.length cap ∧ l.length ≤ cap
theorem givO_of {w : World} {α : Type} {f : α → List Value} {Q : α → Prop} {v : Value} {l : List α} (h : ((v = .slice none 0 0 ∨ ∃ a', v = .slice (some a') 0 0) ∧ l = []) ∨ ∃ blk off cap, v = .slice (some ⟨blk, off, none⟩) l.length cap ∧ l.length ≤ cap ∧ ∀ (i : Nat) u, (l.flatMap f)[i]? = some u → w.cell? ⟨blk, off + i, none⟩ = some u) : ∃ x : Imp, GivO w v f l x := by
  rcases h with ⟨h1, rfl⟩ | ⟨blk, off, cap, h1, h2, h3⟩
  · exact ⟨⟨0, 0, []⟩, fun i u e => by simp at e, .inl ⟨h1, rfl⟩⟩
  · exact ⟨⟨blk, off, []⟩, h3, .inr ⟨cap, h1, h2⟩⟩
structure RV where
  rv : Value
  l : List Int
  x : Imp
def RV.f (r : RV) : List Value := [r.rv]
def RV.Q (w : World) (r : RV) : Prop := GivI w r.rv (fun n : Int => [iv n]) r.l r.x
end Go.Ax

/-! Trucks, slips and berries as arguments. -/
namespace Go.Ax
open Go Go.RowKit Go.Proofs Go.ChangeShapes Go.WideShapes Go.Deep

theorem rows_abs {w : World} {imps : List Imp} : ∀ (L : List RV) (pre post : List Imp), imps = pre ++ L.map RV.x ++ post → (∀ b ∈ L, b.Q w) → ∃ bs : List Rw, bs.length = L.length ∧ LR (renOf imps) (rwc bs) (L.flatMap RV.f) ∧
    ∀ (H : Hp) (f : Nat), imps.length ≤ f → (∀ (b : Nat) x, imps[b]? = some x → b < H.next ∧ H.t.get b = some (.ro x.cs)) → ∀ b ∈ bs, Sl H b.ra b.n b.cap (ints b.l) ∧ b.l.length = b.n ∧ ∀ x, b.ra = some ⟨x, 0, none⟩ → x < f ∧ Fx H x (ints b.l)
  | [], _, _, _, _ => ⟨[], rfl, .nil, fun _ _ _ _ b hb => by simp at hb⟩
  | b :: L, pre, post, he, hq => by
    obtain ⟨bs, e1, e2, e3⟩ := rows_abs (imps := imps) L (pre ++ [b.x]) post (by rw [he]; simp) (fun x hx => hq x (List.mem_cons_of_mem _ hx))
    have q := hq b (List.mem_cons_self ..)
    have i1 : imps[pre.length]? = some b.x := by rw [he]; simp
    obtain ⟨a1, c1, r1, y1, l1⟩ := GivI.rel q (r := renOf imps) (b := pre.length) (by unfold renOf; rw [i1]; rfl)
    refine ⟨⟨a1, b.l.length, c1, b.l⟩ :: bs, by simp [e1], ?_, fun H f hf hH x hx => ?_⟩
    · show LR (renOf imps) (.slice a1 b.l.length c1 :: rwc bs) (b.rv :: L.flatMap RV.f)
      exact .cons r1 e2
    · simp only [List.mem_cons] at hx
      rcases hx with rfl | hx
      · obtain ⟨b1, d1⟩ := hH _ _ i1
        exact ⟨by rw [← flat_ints]; exact l1 H b1 d1, rfl, fun x e => by
          have e2 := y1 x e; have := get_lt i1; subst e2
          exact ⟨by omega, b1, .inl (by rw [d1, q.cs, ← flat_ints])⟩⟩
      · exact e3 H f hf hH x hx
/-- Some plain lists, and a list of rows. -/
theorem imports_rows {P : Program} (pre : List Imp) {w : World} {s2 : Value} {L2 : List RV} {x2 : Imp} (g2 : GivO w s2 RV.f L2 x2) (q2 : ∀ b ∈ L2, b.Q w) (h : ∀ x ∈ pre, ∀ (i : Nat) v, x.cs[i]? = some v → w.cell? ⟨x.blk, x.off + i, none⟩ = some v ∧ flat1 v = true) :
    ∃ (r : Ren) (H : Hp) (ra : Option Addr) (rn rcap : Nat) (rs : List Rw), Rel P r w.heap.size H w ∧ (∀ b loc, r b = some loc → b < H.next) ∧ (∀ (b : Nat) x, pre[b]? = some x → b < H.next ∧ r b = some ⟨x.blk, x.off, none⟩ ∧ H.t.get b = some (.ro x.cs)) ∧ Rws H H.next ra rn rcap rs ∧
      VR r (.slice ra rn rcap) s2 ∧ (rn = 0 ∨ ∃ x, ra = some ⟨x, 0, none⟩ ∧ x < H.next ∧ H.t.get x = some (.ro (rwc rs))) := by
  obtain ⟨rs, r1, r2, r3⟩ := rows_abs (w := w) (imps := pre ++ L2.map RV.x) L2 pre [] (by simp) q2
  obtain ⟨imps, himps⟩ : ∃ imps, imps = pre ++ L2.map RV.x := ⟨_, rfl⟩
  rw [← himps] at r2 r3
  have himp : ∀ x ∈ imps, ∀ (i : Nat) v, x.cs[i]? = some v → w.cell? ⟨x.blk, x.off + i, none⟩ = some v ∧ flat1 v = true := by
    intro x hx
    rw [himps] at hx
    simp only [List.mem_append, List.mem_map] at hx
    rcases hx with hx | ⟨y, hy, rfl⟩
    · exact h x hx
    · exact (q2 y hy).ok
  obtain ⟨r, H, h1, h2, h3, h4, h5⟩ := imports3 (P := P) imps [⟨x2.blk, x2.off, rwc rs⟩] w himp (by
    intro x hx i u hu
    simp only [List.mem_cons, List.not_mem_nil, or_false] at hx
    subst hx
    have hlt := get_lt hu
    have hlt2 : i < (L2.flatMap RV.f).length := by rw [← r2.1]; exact hlt
    have hu2 := List.getElem?_eq_getElem hlt2
    exact ⟨_, g2.cs i _ hu2, r2.2 i u _ hu hu2⟩)
  have hnx : H.next = imps.length + 1 := by rw [h2]; simp
  have hg5 : ∀ (b : Nat) x, imps[b]? = some x → r b = some ⟨x.blk, x.off, none⟩ ∧ H.t.get b = some (.ro x.cs) := fun b x hx => h5 b x (by rw [List.getElem?_append_left (get_lt hx)]; exact hx)
  have hH : ∀ (b : Nat) x, imps[b]? = some x → b < H.next ∧ H.t.get b = some (.ro x.cs) := fun b x hx => ⟨by have := get_lt hx; omega, (hg5 b x hx).2⟩
  obtain ⟨o1, p1⟩ := h5 imps.length ⟨x2.blk, x2.off, rwc rs⟩ (by simp)
  refine ⟨r, H, ?_⟩
  have hlen : L2.length = rs.length := r1.symm
  have rows := r3 H H.next (by omega) hH
  have pres : ∀ (b : Nat) x, pre[b]? = some x → b < H.next ∧ r b = some ⟨x.blk, x.off, none⟩ ∧ H.t.get b = some (.ro x.cs) := fun b x hx => by
    have hx2 : imps[b]? = some x := by rw [himps, List.getElem?_append_left (get_lt hx)]; exact hx
    exact ⟨(hH b x hx2).1, hg5 b x hx2⟩
  rcases g2.v with ⟨rfl | ⟨a', rfl⟩, e⟩ | ⟨cap, rfl, hl⟩
  · have e2 : rs = [] := List.eq_nil_of_length_eq_zero (by rw [r1, e]; rfl)
    subst e2
    exact ⟨none, 0, 0, [], h1, h3, pres, ⟨.inl ⟨.inl rfl, rfl, rfl⟩, rfl, fun r hr => by simp at hr⟩, .nilSlice, .inl rfl⟩
  · have e2 : rs = [] := List.eq_nil_of_length_eq_zero (by rw [r1, e]; rfl)
    subst e2
    exact ⟨some ⟨0, 0, some 0⟩, 0, 0, [], h1, h3, pres, ⟨.inl ⟨.inr rfl, rfl, rfl⟩, rfl, fun r hr => by simp at hr⟩, .weird, .inl rfl⟩
  · have hb : imps.length < H.next := by omega
    refine ⟨some ⟨imps.length, 0, none⟩, rs.length, cap, rs, h1, h3, pres, ⟨.inr ⟨imps.length, 0, rwc rs, rfl, ⟨hb, by unfold cellsOf; rw [p1]⟩, hb, by omega, fun i r hr => by have := rwc_row hr; simpa using this⟩, rfl, rows⟩, ?_, .inr ⟨_, rfl, hb, p1⟩⟩
    have := VR.slice (o := 0) (n := L2.length) (c := cap) o1 rfl hl
    rw [hlen] at this
    simpa [hlen] using this
end Go.Ax


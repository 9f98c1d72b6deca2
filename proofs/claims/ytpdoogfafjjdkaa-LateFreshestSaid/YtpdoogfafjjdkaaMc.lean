import Derived.Test.YtpdoogfafjjdkaaMb
import Derived.Test.YtpdoogfafjjdkaaAxW9
import Derived.Test.YtpdoogfafjjdkaaChecked
import Derived.Test.YtpdoogfafjjdkaaAxW10
import Derived.Test.YtpdoogfafjjdkaaAxO
import Derived.Deep.Slices
import Derived.Deep.Fields
import Derived.ChangeSame
set_option linter.all false
/-
  Late: the law LateTrue, whatever the input (written by program).
-/
namespace Go.Ax
open Go Go.RowKit Go.Proofs

theorem sure_zero {a s : Bool} (h : sureV a s = 0) : s = false := by cases a <;> cases s <;> simp [sureV] at h ⊢
theorem flB_of {g : Lt} {s d : Nat} (h : s + d ≤ g.wn) : flB g s d = true := by
  unfold flB inB
  simp only [Bool.and_eq_true, decide_eq_true_eq]
  omega
theorem Lt.Tl.c0 {g : Lt} {a b : Int} {us : List Int} {w : Value} (h : g.Tl a b us w) (hok : g.ok = false) : w = .tuple #[iv 0, iv 0, iv 1] := by
  rcases h with ⟨_, h⟩ | ⟨h, _⟩ | ⟨h, _⟩
  · exact h
  · rw [hok] at h; cases h
  · rw [hok] at h; cases h
theorem Lt.Tl.c1 {g : Lt} {a b : Int} {us : List Int} {w : Value} (h : g.Tl a b us w) (hok : g.ok = true) (hf : (flB g a b && setB a (a + b) us) = false) : w = .tuple #[iv 0, iv 0, iv 2] := by
  rcases h with ⟨h, _⟩ | ⟨_, _, h⟩ | ⟨_, s, d, rfl, rfl, h1, h2, _⟩
  · rw [hok] at h; cases h
  · exact h
  · rw [flB_of h1, h2] at hf; exact absurd hf (by decide)
theorem Lt.Tl.c2 {g : Lt} {s d : Nat} {us : List Int} {w : Value} (h : g.Tl s d us w) (hok : g.ok = true) (hsd : s + d ≤ g.wn) (hset : setB s (s + d) us = true) : w = .tuple #[iv (sureV (decide (g.wl s d ≥ g.kill)) (decide (g.wh s d ≥ g.kill))), iv (sureV (decide (g.sm s (Nat.testBit (dayMask us)) d > g.bear)) (decide (g.sl s (Nat.testBit (dayMask us)) d > g.bear))), iv 0] := by
  rcases h with ⟨h, _⟩ | ⟨_, h, _⟩ | ⟨_, s', d', e1, e2, _, _, h⟩
  · rw [hok] at h; cases h
  · rw [flB_of hsd, hset] at h; exact absurd h (by decide)
  · obtain rfl : s = s' := by omega
    obtain rfl : d = d' := by omega
    exact h
theorem Lt.Wm.any {g : Lt} {a b : Int} {w : Value} (h : g.Wm a b w) : ∃ p q e : Int, w = .tuple #[spv p q, iv e] := by
  rcases h with ⟨_, h⟩ | ⟨_, _, h⟩ | ⟨_, _, _, _, _, _, h⟩ <;> exact ⟨_, _, _, h⟩
theorem Lt.Wm.c2 {g : Lt} {s d : Nat} {w : Value} (h : g.Wm s d w) (hok : g.ok = true) (hsd : s + d ≤ g.wn) : w = .tuple #[spv (g.wl s d) (g.wh s d), iv 0] := by
  rcases h with ⟨h, _⟩ | ⟨_, h, _⟩ | ⟨_, s', d', e1, e2, _, h⟩
  · rw [hok] at h; cases h
  · rw [flB_of hsd] at h; cases h
  · obtain rfl : s = s' := by omega
    obtain rfl : d = d' := by omega
    exact h
section
variable {P : Program} {kn : FuncId → Option Bool} {lo n : Nat} {masks : List Nat} {r : List RO} {ks : List Kd} {S : Rg} {H : Hp} {K : Rg → Hp → Prop} {d : Option Nat} {x y : Operand} {a b : Int}
end
section
variable {kn : FuncId → Option Bool} {lo : Nat} {H : Hp}
end
end Go.Ax

/-! What 'low' makes of more functions of late (written by program). -/
namespace Go.Ax
open Go Go.RowKit Go.Proofs
end Go.Ax

/-
  Late: the document's functions: spans compared, what is used, sureness, the warmth (21, 67, 68, 40) (written by program).
-/
namespace Go.Ax
open Go Go.RowKit Go.Proofs

theorem prun_bind {P : Program} {α β : Type} (f : α → Sem β) : ∀ (x : Sem α), prun P (x >>= f) = match prun P x with | some a => prun P (f a) | none => none := by
  intro x
  induction x with
  | pure a => rfl
  | program k ih => exact ih P
  | _ => rfl
theorem prun_pure {P : Program} {α : Type} (a : α) : prun P (pure a) = some a := rfl
theorem prun_und : prun Try.prog (underlying 3) = some (.int .i64) := by kernel_rfl
theorem prun_eqi (d : Nat) (a b : Int) : prun Try.prog (Op.equalIn (d + 1) 3 (iv a) (iv b)) = some (a == b) := by
  rw [Op.equalIn]
  rw [prun_bind, prun_und]
  rfl
theorem md : Op.maxDepth = 9998 + 2 := by decide
section
variable {kn : FuncId → Option Bool} {lo : Nat} {H : Hp}
end
end Go.Ax

/-
  Late: the document's functions: the oxygen (43) (written by program).
-/
namespace Go.Ax
open Go Go.RowKit Go.Proofs

section
variable {kn : FuncId → Option Bool} {lo : Nat} {H : Hp}
end
end Go.Ax

/-
  Late: the document's Warmth, Oxygen and Tells (45, 16, 18, 20) (written by program).
-/
namespace Go.Ax
open Go Go.RowKit Go.Proofs

theorem Lt.Tl.any {g : Lt} {a b : Int} {us : List Int} {w : Value} (h : g.Tl a b us w) : ∃ x y e : Int, w = .tuple #[iv x, iv y, iv e] := by
  rcases h with ⟨_, h⟩ | ⟨_, _, h⟩ | ⟨_, _, _, _, _, _, _, h⟩ <;> exact ⟨_, _, _, h⟩
section
variable {kn : FuncId → Option Bool} {lo : Nat} {H : Hp}
end
end Go.Ax

/-
  Late: the law LateFloods, whatever the input (written by program).
-/
namespace Go.Ax
open Go Go.RowKit Go.Proofs

section
variable {kn : FuncId → Option Bool} {lo : Nat} {H : Hp}
end
end Go.Ax

/-! What 'low' makes of more functions of late (written by program). -/
namespace Go.Ax
open Go Go.RowKit Go.Proofs
end Go.Ax

/-
  Late: the longest course; Drowned, Bears (46, 22, 24) (written by program).
-/
namespace Go.Ax
open Go Go.RowKit Go.Proofs

theorem prun_und72 : prun Try.prog (underlying 72) = some (.struct #[⟨"days", 3, 0, false, "", "fenberry/late", 0⟩, ⟨"warmth", 24, 1, false, "", "fenberry/late", 8⟩, ⟨"least", 69, 3, false, "", "fenberry/late", 24⟩, ⟨"most", 70, 5, false, "", "fenberry/late", 40⟩]) := by kernel_rfl
theorem st72 : Try.prog.stoodInHeld 72 = false := by kernel_rfl
/-- a state, whether it is the one that a search returns that finds nothing -/
theorem prun_eq72 (d : Nat) {a : Int} {v1 v2 v3 v4 v5 v6 : Value} (h : a ≠ -1) : prun Try.prog (Op.equalIn (d + 2) 72 (.agg #[iv a, v1, v2, v3, v4, v5, v6]) (.agg noneS.toArray)) = some false := by
  rw [Op.equalIn]
  rw [prun_bind, prun_und72]
  simp only []
  rw [prun_bind]
  rw [show prun Try.prog program = some Try.prog from rfl]
  simp only [st72]
  simp only [Bool.false_eq_true, if_false, ↓reduceIte]
  rw [← Array.forIn_toList]
  simp only [List.forIn_cons, List.forIn_nil]
  rw [if_pos (by decide)]
  have e0 : prun Try.prog (part 3 #[iv a, v1, v2, v3, v4, v5, v6] 0) = some (iv a) := by kernel_rfl
  have e1 : prun Try.prog (part 3 noneS.toArray 0) = some (iv (-1)) := by kernel_rfl
  have e2 : (a == -1) = false := by simpa using h
  simp only [prun_bind, e0, e1, prun_eqi, e2, Bool.not_false, ↓reduceIte, prun_pure]
theorem pure_eq72 {n : Nat} {S : Rg} {d : Option Tmp} {x y : Operand} {p : String} {a : Int} {v1 v2 v3 v4 v5 v6 : Value} (hx : evS S x = some (.agg #[iv a, v1, v2, v3, v4, v5, v6])) (hy : evS S y = some (.agg noneS.toArray)) (hv : flat (.agg #[iv a, v1, v2, v3, v4, v5, v6]) = true) (h : a ≠ -1) :
    pureOp Try.prog (frS n S) ⟨d, .binOp .eql 72 x y 72, 4, p, #[], none⟩ = some (.bool false) := by
  have key : prun Try.prog (do eqGuard .eql 72 x y (.agg #[iv a, v1, v2, v3, v4, v5, v6]) (.agg noneS.toArray); binOp .eql 72 (.agg #[iv a, v1, v2, v3, v4, v5, v6]) (.agg noneS.toArray)) = some (.bool false) := by
    rw [prun_bind]
    have hg : prun Try.prog (eqGuard .eql 72 x y (.agg #[iv a, v1, v2, v3, v4, v5, v6]) (.agg noneS.toArray)) = some () := by kernel_rfl
    rw [hg]
    clear hg
    have hb : binOp .eql 72 (.agg #[iv a, v1, v2, v3, v4, v5, v6]) (.agg noneS.toArray) = (Op.equal 72 (.agg #[iv a, v1, v2, v3, v4, v5, v6]) (.agg noneS.toArray) >>= fun r => pure (.bool r)) := by kernel_rfl
    simp only [hb]
    rw [prun_bind]
    have heq : Op.equal 72 (.agg #[iv a, v1, v2, v3, v4, v5, v6]) (.agg noneS.toArray) = Op.equalIn (9998 + 2) 72 (.agg #[iv a, v1, v2, v3, v4, v5, v6]) (.agg noneS.toArray) := congrArg (fun n => Op.equalIn n 72 (.agg #[iv a, v1, v2, v3, v4, v5, v6]) (.agg noneS.toArray)) md
    rw [heq, prun_eq72 _ h]
    rfl
  unfold pureOp
  simp only [ev_frS, hx, hy]
  rw [show (flat (.agg #[iv a, v1, v2, v3, v4, v5, v6]) && flat (.agg noneS.toArray)) = true by rw [hv]; rfl, cond_true, key]
  rfl
theorem pure_eq72n {n : Nat} {S : Rg} {d : Option Tmp} {x y : Operand} {p : String} (hx : evS S x = some (.agg noneS.toArray)) (hy : evS S y = some (.agg noneS.toArray)) :
    pureOp Try.prog (frS n S) ⟨d, .binOp .eql 72 x y 72, 4, p, #[], none⟩ = some (.bool true) := by
  unfold pureOp
  simp only [ev_frS, hx, hy]
  kernel_rfl
/-- what longestCourse answers -/
def Lt.Lc (g : Lt) (a : Int) (w : Value) : Prop :=
  (g.ok = false ∧ w = .tuple #[.agg zeroC.toArray, iv 1]) ∨ (g.ok = true ∧ inB a 0 g.wn = false ∧ w = .tuple #[.agg zeroC.toArray, iv 2]) ∨
  (g.ok = true ∧ ∃ s d : Nat, a = s ∧ s + d = g.wn ∧ w = .tuple #[.agg (crs g s d 0).toArray, iv 0])
theorem Lt.Nc.lc {g : Lt} {a : Int} (hwn : g.wn ≤ 1000) {w : Value} (h : g.Nc a (IntKind.i64.wrap (g.wn - a)) [] w) : g.Lc a w := by
  rcases h with ⟨h1, rfl⟩ | ⟨h1, h2, rfl⟩ | ⟨h1, s, d, rfl, e, h3, _, rfl⟩
  · exact .inl ⟨h1, rfl⟩
  · refine .inr (.inl ⟨h1, ?_, rfl⟩)
    cases hb : inB a 0 g.wn with
    | false => rfl
    | true =>
      have hx := hb
      simp only [inB, Bool.and_eq_true, decide_eq_true_eq] at hx
      rw [wrap_i64 ⟨by omega, by omega⟩] at h2
      simp only [flB, hb, setB, Bool.and_true, Bool.true_and, inB, Bool.and_eq_false_iff, decide_eq_false_iff_not] at h2
      omega
  · have h4 : (s : Int) ≤ g.wn := by omega
    rw [wrap_i64 ⟨by omega, by omega⟩] at e
    exact .inr (.inr ⟨h1, s, d, rfl, by omega, rfl⟩)
/-- what Drowned answers -/
def Lt.Dr (g : Lt) (a : Int) (w : Value) : Prop :=
  (g.ok = false ∧ w = .tuple #[iv 0, iv 1]) ∨ (g.ok = true ∧ inB a 0 g.wn = false ∧ w = .tuple #[iv 0, iv 2]) ∨
  (g.ok = true ∧ ∃ s d : Nat, a = s ∧ s + d = g.wn ∧ ((∃ k, k ≤ d ∧ g.kill ≤ g.wl s k ∧ (∀ j, j < k → g.wl s j < g.kill) ∧ w = .tuple #[iv (k : Int), iv 0]) ∨ ((∀ j, j ≤ d → g.wl s j < g.kill) ∧ w = .tuple #[iv 0, iv 4])))
/-- what Bears answers -/
def Lt.Br (g : Lt) (a : Int) (w : Value) : Prop :=
  (g.ok = false ∧ w = .tuple #[iv 0, iv 1]) ∨ (g.ok = true ∧ inB a 0 g.wn = false ∧ w = .tuple #[iv 0, iv 2]) ∨
  (g.ok = true ∧ ∃ s d m : Nat, a = s ∧ s + d = g.wn ∧ m ≤ d ∧ (∀ j, j ≤ m → g.sl s (Nat.testBit 0) j ≤ g.bear) ∧ (m = d ∨ g.bear < g.sl s (Nat.testBit 0) (m + 1)) ∧ w = .tuple #[iv (m : Int), iv 0])
section
variable {kn : FuncId → Option Bool} {lo : Nat} {H : Hp}
end
end Go.Ax

/-
  Late: Best (26) (written by program).
-/
namespace Go.Ax
open Go Go.RowKit Go.Proofs

/-- a flood without fresh days in which both is sure -/
def Lt.fine (g : Lt) (s d : Nat) : Prop := g.kill ≤ g.wl s d ∧ g.sl s (Nat.testBit 0) d ≤ g.bear
theorem Lt.sl_le {g : Lt} {s : Nat} {F : Nat → Bool} : ∀ {j k : Nat}, j ≤ k → g.sl s F j ≤ g.sl s F k
  | j, 0, h => by have : j = 0 := by omega
                  subst this; exact Int.le_refl _
  | j, k + 1, h => by
    rcases Nat.lt_or_ge k j with q | q
    · have : j = k + 1 := by omega
      subst this; exact Int.le_refl _
    · have := Lt.sl_le (g := g) (s := s) (F := F) q
      rw [Lt.sl]; cases decide (g.lo s F (k + 1) < g.need) <;> simp only [cond_true, cond_false] <;> omega
theorem Lt.first {g : Lt} {s k : Nat} (h3 : ∀ j, j < k → g.wl s j < g.kill) {d : Nat} (h : g.fine s d) : k ≤ d := by
  rcases Nat.lt_or_ge d k with q | q
  · have := h3 d q; have := h.1; omega
  · exact q
abbrev Lt.bc (g : Lt) : Option (Nat × Nat) → List Value
  | none => noneS
  | some (a, b) => g.st a (Nat.testBit 0) b
/-- what Best answers -/
def Lt.Bs (g : Lt) (w : Value) : Prop :=
  (g.ok = false ∧ w = .tuple #[iv 0, iv 0, iv 1]) ∨ (g.ok = true ∧ (∀ s d, s + d ≤ g.wn → ¬ g.fine s d) ∧ w = .tuple #[iv 0, iv 0, iv 4]) ∨
  (g.ok = true ∧ ∃ a b : Nat, a + b ≤ g.wn ∧ g.fine a b ∧ (∀ s d, s + d ≤ g.wn → g.fine s d → b < d ∨ (b = d ∧ a ≤ s)) ∧ w = .tuple #[iv (a : Int), iv (b : Int), iv 0])
section
variable {kn : FuncId → Option Bool} {lo : Nat} {H : Hp}
end
end Go.Ax

/-! What 'low' makes of more functions of late (written by program). -/
namespace Go.Ax
open Go Go.RowKit Go.Proofs
end Go.Ax

/-
  Late: the law LateFewest, whatever the input (written by program).
-/
namespace Go.Ax
open Go Go.RowKit Go.Proofs

theorem Lt.sm_sl {g : Lt} (v : g.Vd) {s : Nat} {F : Nat → Bool} (k : Nat) (h : s + k ≤ g.wn) : g.sm s F k ≤ g.sl s F k := by
  have := Lt.tb_in (us := []) (F := F) v k h
  omega
theorem conv_8 (x : Int) (h2 : 0 ≤ x ∧ x ≤ 255) {S : Rg} {n : Nat} {o : Operand} {d : Option Nat} (hx : evS S o = some (.int .u8 x)) : pureOp Try.prog (frS n S) ⟨d, .convert 5 3 o, 3, "", #[], none⟩ = some (iv x) := by
  have e : ∀ y : Int, prun Try.prog (Go.convert 5 3 (.int .u8 y)) = some (.int .i64 (IntKind.i64.wrap y)) := fun y => by kernel_rfl
  unfold pureOp
  simp only [ev_frS, hx, e, wrap_i64 (x := x) ⟨by omega, by omega⟩]
  rfl
section
variable {kn : FuncId → Option Bool} {lo : Nat} {H : Hp}
end
end Go.Ax

/-
  Late: the document's Drowned, Bears, Best (23, 25, 27); the law LateBests, whatever the input (written by program).
-/
namespace Go.Ax
open Go Go.RowKit Go.Proofs

section
variable {kn : FuncId → Option Bool} {lo : Nat} {H : Hp}
end
theorem Lt.Dr.any {g : Lt} {a : Int} {w : Value} (h : g.Dr a w) : ∃ x e : Int, w = .tuple #[iv x, iv e] := by
  rcases h with ⟨_, h⟩ | ⟨_, _, h⟩ | ⟨_, _, _, _, _, ⟨_, _, _, _, h⟩ | ⟨_, h⟩⟩ <;> exact ⟨_, _, h⟩
theorem Lt.Br.any {g : Lt} {a : Int} {w : Value} (h : g.Br a w) : ∃ x e : Int, w = .tuple #[iv x, iv e] := by
  rcases h with ⟨_, h⟩ | ⟨_, _, h⟩ | ⟨_, _, _, _, _, _, _, _, _, h⟩ <;> exact ⟨_, _, h⟩
theorem Lt.Bs.any {g : Lt} {w : Value} (h : g.Bs w) : ∃ x y e : Int, w = .tuple #[iv x, iv y, iv e] := by
  rcases h with ⟨_, h⟩ | ⟨_, _, h⟩ | ⟨_, _, _, _, _, _, h⟩ <;> exact ⟨_, _, _, h⟩
section
variable {kn : FuncId → Option Bool} {lo : Nat} {H : Hp}
end
end Go.Ax

/-! What 'low' makes of more functions of late (written by program). -/
namespace Go.Ax
open Go Go.RowKit Go.Proofs
end Go.Ax

/-
  Late: for LateMore, LateEnds, LateOwns: more of everything, a fresh day, parts of lists (37, 36, 21, 17) (written by program).
-/
namespace Go.Ax
open Go Go.RowKit Go.Proofs

/-- A block that append has made. -/
def Lz (H : Hp) (b : Nat) (cs : List Value) : Prop := b < H.next ∧ H.t.get b = some (.cells cs 24 true)
theorem Keep.lz {H H1 : Hp} {l : List Nat} (h : Keep H H1 l) {b : Nat} {cs : List Value} (hc : Lz H b cs) (hl : b ∉ l) : Lz H1 b cs :=
  ⟨Nat.lt_of_lt_of_le hc.1 h.1, by rw [h.2 b hc.1 hl]; exact hc.2⟩
theorem KeepB.lz {f : Nat} {H H1 : Hp} {b : Nat} {cs : List Value} (h : KeepB f H H1) (hc : Lz H b cs) (hb : b < f) : Lz H1 b cs :=
  ⟨Nat.lt_of_lt_of_le hc.1 h.1, by rw [h.2 b hb]; exact hc.2⟩
theorem Lz.rd {H : Hp} {b : Nat} {cs : List Value} (h : Lz H b cs) : Rd H b cs := ⟨h.1, by unfold cellsOf; rw [h.2]⟩
theorem Lz.cl {H : Hp} {b : Nat} {cs : List Value} (h : Lz H b cs) : Cl H b cs := ⟨h.1, _, _, h.2⟩
theorem Acc.lz {lo f : Nat} {H : Hp} {v : Value} {n : Nat} {cs : List Value} (h : Acc lo f 24 H v n cs) (h0 : 0 < n) : ∃ b, v = .slice (some ⟨b, 0, none⟩) n n ∧ f ≤ b ∧ lo ≤ b ∧ Lz H b cs := by
  rcases h with ⟨h, _⟩ | ⟨b, e, _, hf, hl, hn, hg⟩
  · omega
  · exact ⟨b, e, hf, hl, hn, hg⟩
theorem Acc.nil {lo f : Nat} {e : TypeId} {H : Hp} {v : Value} {cs : List Value} (h : Acc lo f e H v 0 cs) : v = .slice none 0 0 := by
  rcases h with ⟨_, _, h⟩ | ⟨_, _, h, _⟩
  · exact h
  · omega
section
variable {kn : FuncId → Option Bool} {lo : Nat} {H : Hp}
end
end Go.Ax

/-
  Late: the law LateMore, whatever the input (written by program).
-/
namespace Go.Ax
open Go Go.RowKit Go.Proofs

def Lt.ty (g : Lt) (s d : Nat) : Int := sureV (decide (g.sm s (Nat.testBit 0) d > g.bear)) (decide (g.sl s (Nat.testBit 0) d > g.bear))
section
variable {kn : FuncId → Option Bool} {lo : Nat} {H : Hp}
end
end Go.Ax

/-
  Late: for LateEnds: several lists that append makes side by side; the cold and the hot forecast (written by program).
-/
namespace Go.Ax
open Go Go.RowKit Go.Proofs

def bkv : Value → Option Nat
  | .slice (some ⟨b, _, _⟩) _ _ => some b
  | _ => none
/-- not in the same block -/
def Ap (v w : Value) : Prop := ∀ b c, bkv v = some b → bkv w = some c → b ≠ c
theorem Ap.symm {v w : Value} (h : Ap v w) : Ap w v := fun b c h1 h2 e => h c b h2 h1 e.symm
/-- several lists that append makes, apart from each other -/
def AcL (lo f : Nat) (e : TypeId) (H : Hp) (l : List (Value × Nat × List Value)) : Prop := (∀ x ∈ l, Acc lo f e H x.1 x.2.1 x.2.2) ∧ l.Pairwise fun x y => Ap x.1 y.1
theorem AcL.keep {lo f : Nat} {e : TypeId} {H H1 : Hp} {l : List (Value × Nat × List Value)} (h : AcL lo f e H l) (k : Keep H H1 []) : AcL lo f e H1 l := ⟨fun x hx => (h.1 x hx).keep k, h.2⟩
def oneL (s : Int × Int) : Int × Int := (s.1, s.1)
def oneH (s : Int × Int) : Int × Int := (s.2, s.2)
abbrev Lt.hot (g : Lt) (a1 : Option Addr) (c1 : Nat) (a2 : Option Addr) (c2 : Nat) : Lt := ⟨a1, g.wn, c1, g.ws.map oneH, a2, g.wn, c2, g.as.map oneL, g.r2, g.r2, g.f1, g.f1, g.g1, g.g1, g.full, g.base, g.kill, g.need, g.bear⟩
section
variable {g : Lt} {s : Nat} {F : Nat → Bool} {a1 : Option Addr} {c1 : Nat} {a2 : Option Addr} {c2 : Nat}
end
end Go.Ax

/-
  Late: LateEnds: the regions of its loop (written by program).
-/
namespace Go.Ax
open Go Go.RowKit Go.Proofs

section
variable {kn : FuncId → Option Bool} {lo : Nat} {H : Hp}
end
end Go.Ax

/-
  Late: the law LateEnds, whatever the input (written by program).
-/
namespace Go.Ax
open Go Go.RowKit Go.Proofs

section
variable {kn : FuncId → Option Bool} {lo : Nat} {H : Hp}
end
end Go.Ax

/-! What 'low' makes of more functions of late (written by program). -/
namespace Go.Ax
open Go Go.RowKit Go.Proofs
end Go.Ax

/-
  Late: the law LateOwns, whatever the input (written by program).
-/
namespace Go.Ax
open Go Go.RowKit Go.Proofs

theorem AccB.rd {b0 lo f : Nat} {e : TypeId} {H : Hp} {v : Value} {n : Nat} {cs : List Value} (h : AccB b0 lo f e H v n cs) (hf : f ≤ b0) : ∃ b, v = .slice (some ⟨b, 0, none⟩) n n ∧ f ≤ b ∧ Rd H b cs := by
  rcases h with ⟨h1, h2, h3, h4, e0, h5⟩ | ⟨b, e1, h0, hb, hl, hn, hg⟩
  · exact ⟨b0, by rw [h3, h1], hf, h4, by unfold cellsOf; rw [h5, h2]⟩
  · exact ⟨b, e1, hb, hn, by unfold cellsOf; rw [hg]⟩
theorem Lt.Ox.c1 {g : Lt} {a b : Int} {us : List Int} {H H' : Hp} {w : Value} (h : g.Ox a b us H w H') (hok : g.ok = false) : w = .tuple #[.slice none 0 0, iv 1] := by
  rcases h with ⟨_, h⟩ | ⟨h, _⟩ | ⟨h, _⟩
  · exact h
  · rw [hok] at h; cases h
  · rw [hok] at h; cases h
theorem Lt.Ox.c2 {g : Lt} {a b : Int} {us : List Int} {H H' : Hp} {w : Value} (h : g.Ox a b us H w H') (hok : g.ok = true) (hf : (flB g a b && setB a (a + b) us) = false) : w = .tuple #[.slice none 0 0, iv 2] := by
  rcases h with ⟨h, _⟩ | ⟨_, _, h⟩ | ⟨_, s, d, rfl, rfl, h1, h2, _⟩
  · rw [hok] at h; cases h
  · exact h
  · rw [flB_of h1, h2] at hf; cases hf
section
variable {kn : FuncId → Option Bool} {lo : Nat} {H : Hp}
end
end Go.Ax

/-! What 'low' makes of more functions of late (written by program). -/
namespace Go.Ax
open Go Go.RowKit Go.Proofs
theorem N28 : Try.f28.ntmps = 35 := by kernel_rfl
theorem Z28 : Try.f28.results.toList = ((List.toArray [(.cell 6 27), (.cell 7 30)]) : Array ResultVar).toList := by kernel_rfl
theorem B28 : Try.f28.body = some (at_ Try.f28 []) := by kernel_rfl
noncomputable def R28 : RC := (.seq (.reg [⟨(some 3), none, (.box 26 (.tmp 0))⟩, ⟨(some 6), none, (.alc 27 [(.slice none 0 0)])⟩, ⟨(some 7), none, (.alc 30 [(.int .i64 0)])⟩])
  (.seq (.reg [⟨(some 12), none, (.lda (.tmp 3) 13)⟩, ⟨(some 13), none, (.mov (.tmp 1))⟩, ⟨(some 14), none, (.mov (.tmp 2))⟩, ⟨(some 15), none, (.call ⟨(.value (.func 38)), (List.toArray [(.tmp 12), (.tmp 13), (.tmp 14), (.const (.slice none 0 0))]), (List.toArray [26, 3, 3, 27])⟩ true)⟩, ⟨(some 11), none, (.mov (.tmp 15))⟩, ⟨(some 16), none, (.pur ⟨(some 16), (.extract (.tmp 11) 0), 65, "", (List.toArray []), none⟩)⟩, ⟨(some 17), none, (.pur ⟨(some 17), (.extract (.tmp 11) 1), 30, "", (List.toArray []), none⟩)⟩, ⟨(some 8), none, (.alc 65 [(.slice none 0 0), (.slice none 0 0), (.int .i64 0), (.int .i64 0), (.int .i64 0), (.int .i64 0), (.int .i64 0), (.int .i64 0), (.int .i64 0), (.int .i64 0), (.int .i64 0), (.int .i64 0), (.int .i64 0), (.int .i64 0), (.int .i64 0), (.int .u64 0)])⟩, ⟨none, none, (.sta (.tmp 8) (.tmp 16) 16)⟩, ⟨(some 9), none, (.mov (.tmp 17))⟩])
  (.seq (.seq (.reg [⟨(some 18), none, (.mov (.tmp 9))⟩, ⟨(some 19), none, (.cmp .neq (.tmp 18) (.const (.int .i64 0)))⟩])
  (.cond (.tmp 19) (.seq (.reg [⟨(some 20), none, (.mov (.tmp 9))⟩, ⟨none, none, (.st (.tmp 6) (.const (.slice none 0 0)))⟩, ⟨none, none, (.st (.tmp 7) (.tmp 20))⟩])
  .ret)
  .skip))
  (.seq (.seq (.reg [⟨(some 21), none, (.mov (.tmp 2))⟩, ⟨(some 22), none, (.cmp .gtr (.tmp 21) (.const (.int .i64 12)))⟩])
  (.cond (.tmp 22) (.seq (.reg [⟨none, none, (.st (.tmp 6) (.const (.slice none 0 0)))⟩, ⟨none, none, (.st (.tmp 7) (.const (.int .i64 2)))⟩])
  .ret)
  .skip))
  (.seq (.seq (.reg [⟨(some 23), none, (.addo (.tmp 8) 13)⟩, ⟨(some 24), none, (.lda (.tmp 23) 2)⟩, ⟨(some 25), none, (.call ⟨(.value (.func 53)), (List.toArray [(.tmp 24)]), (List.toArray [61])⟩ true)⟩])
  (.block 0 (.other (at_ Try.f28 [1, 1, 1, 1, 0, 1, 0]))))
  (.seq (.reg [⟨none, none, (.st (.tmp 6) (.const (.slice none 0 0)))⟩, ⟨none, none, (.st (.tmp 7) (.const (.int .i64 4)))⟩])
  .ret))))))
theorem L28 : low Try.prog Try.f28.ntmps (at_ Try.f28 []) = some R28 := by kernel_rfl
theorem E28_1 : at_ Try.f28 [1, 1, 1, 1, 0, 1, 0] = .rangeFunc (.tmp 25) ((List.toArray [26])) (at_ Try.f28 [1, 1, 1, 1, 0, 1, 0, 0]) (at_ Try.f28 [1, 1, 1, 1, 0, 1, 0, 1]) := by kernel_rfl
noncomputable def R28x1 : RC := (.reg [⟨(some 10), none, (.mov (.tmp 26))⟩])
theorem L28x1 : low Try.prog Try.f28.ntmps (at_ Try.f28 [1, 1, 1, 1, 0, 1, 0, 0]) = some R28x1 := by kernel_rfl
noncomputable def R28x2 : RC := (.block 1 (.seq (.reg [⟨(some 27), none, (.mov (.tmp 10))⟩, ⟨(some 28), none, (.addo (.tmp 8) 15)⟩, ⟨none, none, (.st (.tmp 28) (.tmp 27))⟩])
  (.seq (.reg [⟨(some 29), none, (.lda (.tmp 8) 16)⟩, ⟨(some 30), none, (.call ⟨(.value (.func 50)), (List.toArray [(.tmp 29)]), (List.toArray [65])⟩ true)⟩, ⟨(some 31), none, (.call ⟨(.value (.func 48)), (List.toArray []), (List.toArray [])⟩ true)⟩, ⟨(some 32), none, (.pur ⟨(some 32), (.binOp .eql 72 (.tmp 30) (.tmp 31) 72), 4, "", (List.toArray []), none⟩)⟩])
  (.cond (.tmp 32) (.seq (.reg [⟨(some 33), none, (.mov (.tmp 10))⟩, ⟨(some 34), none, (.call ⟨(.value (.func 54)), (List.toArray [(.tmp 33)]), (List.toArray [63])⟩ true)⟩, ⟨none, none, (.st (.tmp 6) (.tmp 34))⟩, ⟨none, none, (.st (.tmp 7) (.const (.int .i64 0)))⟩])
  .ret)
  .skip))))
theorem L28x2 : low Try.prog Try.f28.ntmps (at_ Try.f28 [1, 1, 1, 1, 0, 1, 0, 1]) = some R28x2 := by kernel_rfl
theorem N53 : Try.f53.ntmps = 4 := by kernel_rfl
theorem Z53 : Try.f53.results.toList = ((List.toArray [(.tmp 2)]) : Array ResultVar).toList := by kernel_rfl
theorem B53 : Try.f53.body = some (at_ Try.f53 []) := by kernel_rfl
noncomputable def R53 : RC := (.seq (.reg [⟨(some 1), none, (.box 61 (.tmp 0))⟩, ⟨(some 2), none, (.mov (.const .nilFunc))⟩])
  (.seq (.reg [⟨(some 3), none, (.pur ⟨(some 3), (.makeFunc (.func 74) (List.toArray []) (List.toArray [(.tmp 1)])), 86, "", (List.toArray []), none⟩)⟩, ⟨(some 2), none, (.mov (.tmp 3))⟩])
  .ret))
theorem L53 : low Try.prog Try.f53.ntmps (at_ Try.f53 []) = some R53 := by kernel_rfl
theorem N54 : Try.f54.ntmps = 19 := by kernel_rfl
theorem Z54 : Try.f54.results.toList = ((List.toArray [(.tmp 2)]) : Array ResultVar).toList := by kernel_rfl
theorem B54 : Try.f54.body = some (at_ Try.f54 []) := by kernel_rfl
noncomputable def R54 : RC := (.seq (.reg [⟨(some 2), none, (.mov (.const (.slice none 0 0)))⟩])
  (.seq (.reg [⟨(some 3), none, (.mov (.const (.slice none 0 0)))⟩])
  (.seq (.seq (.reg [⟨(some 5), none, (.mov (.tmp 0))⟩, ⟨(some 6), none, (.call ⟨(.value (.func 77)), (List.toArray [(.tmp 5)]), (List.toArray [62])⟩ true)⟩, ⟨(some 7), none, (.mov (.const (.int .i64 0)))⟩])
  (.block 0 (.other (at_ Try.f54 [1, 1, 0, 1, 0]))))
  (.seq (.reg [⟨(some 18), none, (.mov (.tmp 3))⟩, ⟨(some 2), none, (.mov (.tmp 18))⟩])
  .ret))))
theorem L54 : low Try.prog Try.f54.ntmps (at_ Try.f54 []) = some R54 := by kernel_rfl
theorem E54_1 : at_ Try.f54 [1, 1, 0, 1, 0] = .loop (at_ Try.f54 [1, 1, 0, 1, 0, 0]) := by kernel_rfl
noncomputable def R54x1 : RC := (.seq (.reg [⟨(some 8), none, (.cmp .lss (.tmp 7) (.tmp 6))⟩])
  (.seq (.cond (.tmp 8) .skip
  (.exit 0))
  (.seq (.block 1 (.seq (.reg [⟨(some 9), none, (.mov (.tmp 7))⟩, ⟨(some 4), none, (.mov (.tmp 9))⟩])
  (.seq (.reg [⟨(some 10), none, (.mov (.tmp 0))⟩, ⟨(some 11), none, (.mov (.tmp 4))⟩, ⟨(some 12), none, (.call ⟨(.value (.func 78)), (List.toArray [(.tmp 10), (.tmp 11)]), (List.toArray [63, 3])⟩ true)⟩])
  (.cond (.tmp 12) (.reg [⟨(some 13), none, (.mov (.tmp 3))⟩, ⟨(some 14), none, (.mov (.tmp 4))⟩, ⟨(some 15), none, (.mem ⟨(some 15), (.buildSlice 27 1 (List.toArray [(0, (.tmp 14))])), 27, "", (List.toArray []), none⟩)⟩, ⟨(some 16), none, (.mem ⟨(some 16), (.call ⟨(.builtin .append), (List.toArray [(.tmp 13), (.tmp 15)]), (List.toArray [27, 27])⟩), 27, "", (List.toArray []), none⟩)⟩, ⟨(some 3), none, (.mov (.tmp 16))⟩])
  .skip))))
  (.reg [⟨(some 17), none, (.ari .add (.tmp 7) (.const (.int .i64 1)))⟩, ⟨(some 7), none, (.mov (.tmp 17))⟩]))))
theorem L54x1 : low Try.prog Try.f54.ntmps (at_ Try.f54 [1, 1, 0, 1, 0, 0]) = some R54x1 := by kernel_rfl
theorem N74 : Try.f74.ntmps = 38 := by kernel_rfl
theorem Z74 : Try.f74.results.toList = ((List.toArray []) : Array ResultVar).toList := by kernel_rfl
theorem B74 : Try.f74.body = some (at_ Try.f74 []) := by kernel_rfl
noncomputable def R74 : RC := (.seq (.reg [⟨(some 7), none, (.addo (.tmp 1) 1)⟩, ⟨(some 8), none, (.ld (.tmp 7) 1)⟩, ⟨(some 9), none, (.pur ⟨(some 9), (.binOp .shl 3 (.const (.int .i64 1)) (.tmp 8) 3), 3, "", (List.toArray []), none⟩)⟩, ⟨(some 3), none, (.mov (.tmp 9))⟩])
  (.seq (.reg [⟨(some 10), none, (.addo (.tmp 1) 1)⟩, ⟨(some 11), none, (.ld (.tmp 10) 1)⟩, ⟨(some 12), none, (.ari .add (.tmp 11) (.const (.int .i64 1)))⟩, ⟨(some 13), none, (.mov (.const (.int .i64 0)))⟩])
  (.block 0 (.other (at_ Try.f74 [1, 1, 0])))))
theorem L74 : low Try.prog Try.f74.ntmps (at_ Try.f74 []) = some R74 := by kernel_rfl
theorem E74_1 : at_ Try.f74 [1, 1, 0] = .loop (at_ Try.f74 [1, 1, 0, 0]) := by kernel_rfl
noncomputable def R74x1 : RC := (.seq (.reg [⟨(some 14), none, (.cmp .lss (.tmp 13) (.tmp 12))⟩])
  (.seq (.cond (.tmp 14) .skip
  (.exit 0))
  (.seq (.block 1 (.seq (.reg [⟨(some 15), none, (.mov (.tmp 13))⟩, ⟨(some 4), none, (.mov (.tmp 15))⟩])
  (.seq (.reg [⟨(some 16), none, (.mov (.tmp 3))⟩, ⟨(some 17), none, (.mov (.const (.int .i64 0)))⟩])
  (.block 2 (.other (at_ Try.f74 [1, 1, 0, 0, 1, 1, 0, 0, 1, 1, 0]))))))
  (.reg [⟨(some 37), none, (.ari .add (.tmp 13) (.const (.int .i64 1)))⟩, ⟨(some 13), none, (.mov (.tmp 37))⟩]))))
theorem L74x1 : low Try.prog Try.f74.ntmps (at_ Try.f74 [1, 1, 0, 0]) = some R74x1 := by kernel_rfl
theorem E74_2 : at_ Try.f74 [1, 1, 0, 0, 1, 1, 0, 0, 1, 1, 0] = .loop (at_ Try.f74 [1, 1, 0, 0, 1, 1, 0, 0, 1, 1, 0, 0]) := by kernel_rfl
noncomputable def R74x2 : RC := (.seq (.reg [⟨(some 18), none, (.cmp .lss (.tmp 17) (.tmp 16))⟩])
  (.seq (.cond (.tmp 18) .skip
  (.exit 2))
  (.seq (.block 3 (.seq (.reg [⟨(some 19), none, (.mov (.tmp 17))⟩, ⟨(some 5), none, (.mov (.tmp 19))⟩])
  (.seq (.reg [⟨(some 20), none, (.lda (.tmp 1) 2)⟩, ⟨(some 21), none, (.mov (.tmp 3))⟩, ⟨(some 22), none, (.ari .sub (.tmp 21) (.const (.int .i64 1)))⟩, ⟨(some 23), none, (.mov (.tmp 5))⟩, ⟨(some 24), none, (.ari .sub (.tmp 22) (.tmp 23))⟩, ⟨(some 25), none, (.call ⟨(.value (.func 75)), (List.toArray [(.tmp 20), (.tmp 24)]), (List.toArray [61, 3])⟩ true)⟩, ⟨(some 6), none, (.mov (.tmp 25))⟩])
  (.seq (.reg [⟨(some 26), none, (.mov (.tmp 6))⟩, ⟨(some 27), none, (.call ⟨(.value (.func 76)), (List.toArray [(.tmp 26)]), (List.toArray [63])⟩ true)⟩, ⟨(some 28), none, (.mov (.tmp 4))⟩, ⟨(some 29), none, (.cmpb .eql (.tmp 27) (.tmp 28))⟩, ⟨(some 30), none, (.mov (.tmp 29))⟩, ⟨(some 31), (some (30, true)), (.mov (.tmp 0))⟩, ⟨(some 32), (some (30, true)), (.mov (.tmp 6))⟩, ⟨(some 33), (some (30, true)), (.call ⟨(.value (.tmp 31)), (List.toArray [(.tmp 32)]), (List.toArray [63])⟩ true)⟩, ⟨(some 34), (some (30, true)), (.pur ⟨(some 34), (.unOp .not 4 (.tmp 33)), 4, "", (List.toArray []), none⟩)⟩, ⟨(some 35), none, (.pur ⟨(some 35), (.pick (.tmp 30) (.tmp 34) (.const (.bool false))), 4, "", (List.toArray []), none⟩)⟩])
  (.cond (.tmp 35) .ret
  .skip)))))
  (.reg [⟨(some 36), none, (.ari .add (.tmp 17) (.const (.int .i64 1)))⟩, ⟨(some 17), none, (.mov (.tmp 36))⟩]))))
theorem L74x2 : low Try.prog Try.f74.ntmps (at_ Try.f74 [1, 1, 0, 0, 1, 1, 0, 0, 1, 1, 0, 0]) = some R74x2 := by kernel_rfl
theorem N75 : Try.f75.ntmps = 15 := by kernel_rfl
theorem Z75 : Try.f75.results.toList = ((List.toArray [(.tmp 4)]) : Array ResultVar).toList := by kernel_rfl
theorem B75 : Try.f75.body = some (at_ Try.f75 []) := by kernel_rfl
noncomputable def R75 : RC := (.seq (.reg [⟨(some 2), none, (.box 61 (.tmp 0))⟩, ⟨(some 4), none, (.mov (.const (.int .u64 0)))⟩])
  (.seq (.dreg [⟨(some 5), none, (.mov (.tmp 1))⟩, ⟨(some 6), none, (.pur ⟨(some 6), (.convert 3 62 (.tmp 5)), 62, "", (List.toArray []), none⟩)⟩, ⟨(some 7), none, (.call ⟨(.value (.func 83)), (List.toArray [(.tmp 6)]), (List.toArray [62])⟩ false)⟩, ⟨(some 8), none, (.addo (.tmp 2) 1)⟩, ⟨(some 9), none, (.ld (.tmp 8) 1)⟩, ⟨(some 10), none, (.ari .sub (.const (.int .i64 64)) (.tmp 9))⟩, ⟨(some 11), none, (.pur ⟨(some 11), (.binOp .shr 62 (.tmp 7) (.tmp 10) 3), 62, "", (List.toArray []), none⟩)⟩, ⟨(some 12), none, (.addo (.tmp 2) 0)⟩, ⟨(some 13), none, (.ld (.tmp 12) 1)⟩, ⟨(some 14), none, (.pur ⟨(some 14), (.binOp .shl 62 (.tmp 11) (.tmp 13) 3), 62, "", (List.toArray []), none⟩)⟩, ⟨(some 4), none, (.mov (.tmp 14))⟩] [1023, 511, 128, 0, 63, 24, 8, 0, 3, 1, 0])
  .ret))
theorem L75 : low Try.prog Try.f75.ntmps (at_ Try.f75 []) = some R75 := by kernel_rfl
theorem N76 : Try.f76.ntmps = 5 := by kernel_rfl
theorem Z76 : Try.f76.results.toList = ((List.toArray [(.tmp 2)]) : Array ResultVar).toList := by kernel_rfl
theorem B76 : Try.f76.body = some (at_ Try.f76 []) := by kernel_rfl
noncomputable def R76 : RC := (.seq (.reg [⟨(some 2), none, (.mov (.const (.int .i64 0)))⟩])
  (.seq (.reg [⟨(some 3), none, (.mov (.tmp 0))⟩, ⟨(some 4), none, (.call ⟨(.value (.func 84)), (List.toArray [(.tmp 3)]), (List.toArray [62])⟩ true)⟩, ⟨(some 2), none, (.mov (.tmp 4))⟩])
  .ret))
theorem L76 : low Try.prog Try.f76.ntmps (at_ Try.f76 []) = some R76 := by kernel_rfl
theorem N77 : Try.f77.ntmps = 25 := by kernel_rfl
theorem Z77 : Try.f77.results.toList = ((List.toArray [(.tmp 2)]) : Array ResultVar).toList := by kernel_rfl
theorem B77 : Try.f77.body = some (at_ Try.f77 []) := by kernel_rfl
noncomputable def R77 : RC := (.seq (.reg [⟨(some 2), none, (.mov (.const (.int .i64 0)))⟩])
  (.seq (.seq (.reg [⟨(some 3), none, (.mov (.tmp 0))⟩, ⟨(some 4), none, (.pur ⟨(some 4), (.binOp .geq 62 (.tmp 3) (.const (.int .u64 4294967296)) 62), 4, "", (List.toArray []), none⟩)⟩])
  (.cond (.tmp 4) (.seq (.reg [⟨(some 5), none, (.mov (.tmp 0))⟩, ⟨(some 6), none, (.pur ⟨(some 6), (.binOp .shr 62 (.tmp 5) (.const (.int .u64 32)) 119), 62, "", (List.toArray []), none⟩)⟩, ⟨(some 0), none, (.mov (.tmp 6))⟩])
  (.reg [⟨(some 2), none, (.mov (.const (.int .i64 32)))⟩]))
  .skip))
  (.seq (.seq (.reg [⟨(some 7), none, (.mov (.tmp 0))⟩, ⟨(some 8), none, (.pur ⟨(some 8), (.binOp .geq 62 (.tmp 7) (.const (.int .u64 65536)) 62), 4, "", (List.toArray []), none⟩)⟩])
  (.cond (.tmp 8) (.seq (.reg [⟨(some 9), none, (.mov (.tmp 0))⟩, ⟨(some 10), none, (.pur ⟨(some 10), (.binOp .shr 62 (.tmp 9) (.const (.int .u64 16)) 119), 62, "", (List.toArray []), none⟩)⟩, ⟨(some 0), none, (.mov (.tmp 10))⟩])
  (.reg [⟨(some 11), none, (.mov (.tmp 2))⟩, ⟨(some 12), none, (.ari .add (.tmp 11) (.const (.int .i64 16)))⟩, ⟨(some 2), none, (.mov (.tmp 12))⟩]))
  .skip))
  (.seq (.seq (.reg [⟨(some 13), none, (.mov (.tmp 0))⟩, ⟨(some 14), none, (.pur ⟨(some 14), (.binOp .geq 62 (.tmp 13) (.const (.int .u64 256)) 62), 4, "", (List.toArray []), none⟩)⟩])
  (.cond (.tmp 14) (.seq (.reg [⟨(some 15), none, (.mov (.tmp 0))⟩, ⟨(some 16), none, (.pur ⟨(some 16), (.binOp .shr 62 (.tmp 15) (.const (.int .u64 8)) 119), 62, "", (List.toArray []), none⟩)⟩, ⟨(some 0), none, (.mov (.tmp 16))⟩])
  (.reg [⟨(some 17), none, (.mov (.tmp 2))⟩, ⟨(some 18), none, (.ari .add (.tmp 17) (.const (.int .i64 8)))⟩, ⟨(some 2), none, (.mov (.tmp 18))⟩]))
  .skip))
  (.seq (.reg [⟨(some 19), none, (.mov (.tmp 2))⟩, ⟨(some 20), none, (.mov (.tmp 0))⟩, ⟨(some 21), none, (.pur ⟨(some 21), (.convert 62 5 (.tmp 20)), 5, "", (List.toArray []), none⟩)⟩, ⟨(some 22), none, (.pur ⟨(some 22), (.index 9 (.const (.string (.mk (List.toArray [0, 1, 2, 2, 3, 3, 3, 3, 4, 4, 4, 4, 4, 4, 4, 4, 5, 5, 5, 5, 5, 5, 5, 5, 5, 5, 5, 5, 5, 5, 5, 5, 6, 6, 6, 6, 6, 6, 6, 6, 6, 6, 6, 6, 6, 6, 6, 6, 6, 6, 6, 6, 6, 6, 6, 6, 6, 6, 6, 6, 6, 6, 6, 6, 7, 7, 7, 7, 7, 7, 7, 7, 7, 7, 7, 7, 7, 7, 7, 7, 7, 7, 7, 7, 7, 7, 7, 7, 7, 7, 7, 7, 7, 7, 7, 7, 7, 7, 7, 7, 7, 7, 7, 7, 7, 7, 7, 7, 7, 7, 7, 7, 7, 7, 7, 7, 7, 7, 7, 7, 7, 7, 7, 7, 7, 7, 7, 7, 8, 8, 8, 8, 8, 8, 8, 8, 8, 8, 8, 8, 8, 8, 8, 8, 8, 8, 8, 8, 8, 8, 8, 8, 8, 8, 8, 8, 8, 8, 8, 8, 8, 8, 8, 8, 8, 8, 8, 8, 8, 8, 8, 8, 8, 8, 8, 8, 8, 8, 8, 8, 8, 8, 8, 8, 8, 8, 8, 8, 8, 8, 8, 8, 8, 8, 8, 8, 8, 8, 8, 8, 8, 8, 8, 8, 8, 8, 8, 8, 8, 8, 8, 8, 8, 8, 8, 8, 8, 8, 8, 8, 8, 8, 8, 8, 8, 8, 8, 8, 8, 8, 8, 8, 8, 8, 8, 8, 8, 8, 8, 8, 8, 8, 8, 8, 8, 8, 8, 8, 8, 8, 8, 8, 8, 8, 8, 8])))) (.tmp 21)), 5, "", (List.toArray []), none⟩)⟩, ⟨(some 23), none, (.pur ⟨(some 23), (.convert 5 3 (.tmp 22)), 3, "", (List.toArray []), none⟩)⟩, ⟨(some 24), none, (.ari .add (.tmp 19) (.tmp 23))⟩, ⟨(some 2), none, (.mov (.tmp 24))⟩])
  .ret)))))
theorem L77 : low Try.prog Try.f77.ntmps (at_ Try.f77 []) = some R77 := by kernel_rfl
theorem N10 : Try.f10.ntmps = 139 := by kernel_rfl
theorem Z10 : Try.f10.results.toList = ((List.toArray [(.tmp 8)]) : Array ResultVar).toList := by kernel_rfl
theorem B10 : Try.f10.body = some (at_ Try.f10 []) := by kernel_rfl
noncomputable def R10 : RC := (.seq (.reg [⟨(some 4), none, (.box 26 (.tmp 0))⟩, ⟨(some 8), none, (.mov (.const (.bool false)))⟩])
  (.seq (.seq (.reg [⟨(some 20), none, (.lda (.tmp 4) 13)⟩, ⟨(some 21), none, (.call ⟨(.value (.func 13)), (List.toArray [(.tmp 20), (.const (.slice none 0 0))]), (List.toArray [26, 27])⟩ true)⟩])
  (.cond (.tmp 21) (.seq (.reg [⟨(some 22), none, (.call ⟨(.value (.func 14)), (List.toArray []), (List.toArray [])⟩ true)⟩, ⟨(some 8), none, (.mov (.tmp 22))⟩])
  .ret)
  .skip))
  (.seq (.reg [⟨(some 24), none, (.lda (.tmp 4) 13)⟩, ⟨(some 25), none, (.mov (.tmp 1))⟩, ⟨(some 26), none, (.mov (.tmp 2))⟩, ⟨(some 27), none, (.call ⟨(.value (.func 28)), (List.toArray [(.tmp 24), (.tmp 25), (.tmp 26)]), (List.toArray [26, 3, 3])⟩ true)⟩, ⟨(some 23), none, (.mov (.tmp 27))⟩, ⟨(some 28), none, (.pur ⟨(some 28), (.extract (.tmp 23) 0), 27, "", (List.toArray []), none⟩)⟩, ⟨(some 29), none, (.pur ⟨(some 29), (.extract (.tmp 23) 1), 30, "", (List.toArray []), none⟩)⟩, ⟨(some 9), none, (.mov (.tmp 28))⟩, ⟨(some 10), none, (.mov (.tmp 29))⟩])
  (.seq (.seq (.reg [⟨(some 30), none, (.mov (.tmp 10))⟩, ⟨(some 31), none, (.cmpb .neq (.tmp 30) (.const (.int .i64 0)))⟩, ⟨(some 32), none, (.mov (.tmp 31))⟩, ⟨(some 33), (some (32, true)), (.mov (.tmp 10))⟩, ⟨(some 34), (some (32, true)), (.cmpb .neq (.tmp 33) (.const (.int .i64 4)))⟩, ⟨(some 35), none, (.pur ⟨(some 35), (.pick (.tmp 32) (.tmp 34) (.const (.bool false))), 4, "", (List.toArray []), none⟩)⟩])
  (.cond (.tmp 35) (.seq (.reg [⟨(some 36), none, (.mov (.tmp 9))⟩, ⟨(some 37), none, (.len (.tmp 36))⟩, ⟨(some 38), none, (.cmpb .eql (.tmp 37) (.const (.int .i64 0)))⟩, ⟨(some 39), none, (.mov (.tmp 38))⟩, ⟨(some 40), (some (39, true)), (.call ⟨(.value (.func 14)), (List.toArray []), (List.toArray [])⟩ true)⟩, ⟨(some 41), none, (.pur ⟨(some 41), (.pick (.tmp 39) (.tmp 40) (.const (.bool false))), 4, "", (List.toArray []), none⟩)⟩, ⟨(some 8), none, (.mov (.tmp 41))⟩])
  .ret)
  .skip))
  (.seq (.reg [⟨(some 11), none, (.mov (.const (.slice none 0 0)))⟩])
  (.seq (.seq (.reg [⟨(some 42), none, (.mov (.tmp 2))⟩, ⟨(some 43), none, (.mov (.const (.int .i64 0)))⟩])
  (.block 0 (.other (at_ Try.f10 [1, 1, 1, 1, 1, 0, 1, 0]))))
  (.seq (.reg [⟨(some 59), none, (.lda (.tmp 4) 13)⟩, ⟨(some 60), none, (.mov (.tmp 1))⟩, ⟨(some 61), none, (.mov (.tmp 2))⟩, ⟨(some 62), none, (.mov (.tmp 11))⟩, ⟨(some 63), none, (.call ⟨(.value (.func 19)), (List.toArray [(.tmp 59), (.tmp 60), (.tmp 61), (.tmp 62)]), (List.toArray [26, 3, 3, 27])⟩ true)⟩, ⟨(some 58), none, (.mov (.tmp 63))⟩, ⟨(some 64), none, (.pur ⟨(some 64), (.extract (.tmp 58) 0), 3, "", (List.toArray []), none⟩)⟩, ⟨(some 65), none, (.pur ⟨(some 65), (.extract (.tmp 58) 1), 3, "", (List.toArray []), none⟩)⟩, ⟨(some 66), none, (.pur ⟨(some 66), (.extract (.tmp 58) 2), 30, "", (List.toArray []), none⟩)⟩, ⟨(some 13), none, (.mov (.tmp 64))⟩, ⟨(some 14), none, (.mov (.tmp 65))⟩, ⟨(some 15), none, (.mov (.tmp 66))⟩])
  (.seq (.seq (.reg [⟨(some 67), none, (.mov (.tmp 15))⟩, ⟨(some 68), none, (.cmp .neq (.tmp 67) (.const (.int .i64 0)))⟩])
  (.cond (.tmp 68) (.seq (.reg [⟨(some 8), none, (.mov (.const (.bool false)))⟩])
  .ret)
  .skip))
  (.seq (.seq (.reg [⟨(some 69), none, (.mov (.tmp 10))⟩, ⟨(some 70), none, (.cmp .neq (.tmp 69) (.const (.int .i64 0)))⟩])
  (.cond (.tmp 70) (.seq (.reg [⟨(some 71), none, (.mov (.tmp 9))⟩, ⟨(some 72), none, (.len (.tmp 71))⟩, ⟨(some 73), none, (.cmpb .eql (.tmp 72) (.const (.int .i64 0)))⟩, ⟨(some 74), none, (.mov (.tmp 73))⟩, ⟨(some 75), (some (74, true)), (.mov (.tmp 14))⟩, ⟨(some 76), (some (74, true)), (.cmpb .neq (.tmp 75) (.const (.int .i64 0)))⟩, ⟨(some 77), none, (.pur ⟨(some 77), (.pick (.tmp 74) (.tmp 76) (.const (.bool false))), 4, "", (List.toArray []), none⟩)⟩, ⟨(some 78), none, (.mov (.tmp 77))⟩, ⟨(some 79), (some (78, true)), (.call ⟨(.value (.func 14)), (List.toArray []), (List.toArray [])⟩ true)⟩, ⟨(some 80), none, (.pur ⟨(some 80), (.pick (.tmp 78) (.tmp 79) (.const (.bool false))), 4, "", (List.toArray []), none⟩)⟩, ⟨(some 8), none, (.mov (.tmp 80))⟩])
  .ret)
  .skip))
  (.seq (.reg [⟨(some 82), none, (.lda (.tmp 4) 13)⟩, ⟨(some 83), none, (.mov (.tmp 1))⟩, ⟨(some 84), none, (.mov (.tmp 2))⟩, ⟨(some 85), none, (.mov (.tmp 9))⟩, ⟨(some 86), none, (.call ⟨(.value (.func 19)), (List.toArray [(.tmp 82), (.tmp 83), (.tmp 84), (.tmp 85)]), (List.toArray [26, 3, 3, 27])⟩ true)⟩, ⟨(some 81), none, (.mov (.tmp 86))⟩, ⟨(some 87), none, (.pur ⟨(some 87), (.extract (.tmp 81) 0), 3, "", (List.toArray []), none⟩)⟩, ⟨(some 88), none, (.pur ⟨(some 88), (.extract (.tmp 81) 1), 3, "", (List.toArray []), none⟩)⟩, ⟨(some 89), none, (.pur ⟨(some 89), (.extract (.tmp 81) 2), 30, "", (List.toArray []), none⟩)⟩, ⟨(some 16), none, (.mov (.tmp 87))⟩, ⟨(some 17), none, (.mov (.tmp 88))⟩, ⟨(some 18), none, (.mov (.tmp 89))⟩])
  (.seq (.seq (.reg [⟨(some 90), none, (.mov (.tmp 18))⟩, ⟨(some 91), none, (.cmpb .neq (.tmp 90) (.const (.int .i64 0)))⟩, ⟨(some 92), none, (.mov (.tmp 91))⟩, ⟨(some 93), (some (92, false)), (.mov (.tmp 17))⟩, ⟨(some 94), (some (92, false)), (.cmpb .neq (.tmp 93) (.const (.int .i64 0)))⟩, ⟨(some 95), none, (.pur ⟨(some 95), (.pick (.tmp 92) (.const (.bool true)) (.tmp 94)), 4, "", (List.toArray []), none⟩)⟩])
  (.cond (.tmp 95) (.seq (.reg [⟨(some 8), none, (.mov (.const (.bool false)))⟩])
  .ret)
  .skip))
  (.seq (.seq (.reg [⟨(some 96), none, (.mov (.tmp 14))⟩, ⟨(some 97), none, (.cmpb .neq (.tmp 96) (.const (.int .i64 0)))⟩, ⟨(some 98), none, (.mov (.tmp 97))⟩, ⟨(some 99), (some (98, false)), (.mov (.tmp 11))⟩, ⟨(some 100), (some (98, false)), (.len (.tmp 99))⟩, ⟨(some 101), (some (98, false)), (.mov (.tmp 9))⟩, ⟨(some 102), (some (98, false)), (.len (.tmp 101))⟩, ⟨(some 103), (some (98, false)), (.cmpb .gtr (.tmp 100) (.tmp 102))⟩, ⟨(some 104), none, (.pur ⟨(some 104), (.pick (.tmp 98) (.const (.bool true)) (.tmp 103)), 4, "", (List.toArray []), none⟩)⟩])
  (.cond (.tmp 104) (.seq (.reg [⟨(some 105), none, (.call ⟨(.value (.func 14)), (List.toArray []), (List.toArray [])⟩ true)⟩, ⟨(some 8), none, (.mov (.tmp 105))⟩])
  .ret)
  .skip))
  (.seq (.seq (.reg [⟨(some 106), none, (.mov (.tmp 11))⟩, ⟨(some 107), none, (.len (.tmp 106))⟩, ⟨(some 108), none, (.mov (.tmp 9))⟩, ⟨(some 109), none, (.len (.tmp 108))⟩, ⟨(some 110), none, (.cmp .lss (.tmp 107) (.tmp 109))⟩])
  (.cond (.tmp 110) (.seq (.reg [⟨(some 8), none, (.mov (.const (.bool false)))⟩])
  .ret)
  .skip))
  (.seq (.seq (.reg [⟨(some 111), none, (.mov (.tmp 9))⟩, ⟨(some 112), none, (.len (.tmp 111))⟩, ⟨(some 113), none, (.mov (.const (.int .i64 0)))⟩])
  (.block 2 (.other (at_ Try.f10 [1, 1, 1, 1, 1, 1, 1, 1, 1, 1, 1, 1, 1, 0, 1, 0]))))
  (.seq (.reg [⟨(some 138), none, (.call ⟨(.value (.func 14)), (List.toArray []), (List.toArray [])⟩ true)⟩, ⟨(some 8), none, (.mov (.tmp 138))⟩])
  .ret)))))))))))))))
theorem L10 : low Try.prog Try.f10.ntmps (at_ Try.f10 []) = some R10 := by kernel_rfl
theorem E10_1 : at_ Try.f10 [1, 1, 1, 1, 1, 0, 1, 0] = .loop (at_ Try.f10 [1, 1, 1, 1, 1, 0, 1, 0, 0]) := by kernel_rfl
noncomputable def R10x1 : RC := (.seq (.reg [⟨(some 44), none, (.cmp .lss (.tmp 43) (.tmp 42))⟩])
  (.seq (.cond (.tmp 44) .skip
  (.exit 0))
  (.seq (.block 1 (.seq (.reg [⟨(some 45), none, (.mov (.tmp 43))⟩, ⟨(some 12), none, (.mov (.tmp 45))⟩])
  (.seq (.reg [⟨(some 46), none, (.mov (.tmp 3))⟩, ⟨(some 47), none, (.mov (.tmp 12))⟩, ⟨(some 48), none, (.pur ⟨(some 48), (.binOp .shr 56 (.tmp 46) (.tmp 47) 3), 56, "", (List.toArray []), none⟩)⟩, ⟨(some 49), none, (.pur ⟨(some 49), (.binOp .and 56 (.tmp 48) (.const (.int .u16 1)) 56), 56, "", (List.toArray []), none⟩)⟩, ⟨(some 50), none, (.pur ⟨(some 50), (.binOp .eql 56 (.tmp 49) (.const (.int .u16 1)) 56), 4, "", (List.toArray []), none⟩)⟩])
  (.cond (.tmp 50) (.reg [⟨(some 51), none, (.mov (.tmp 11))⟩, ⟨(some 52), none, (.mov (.tmp 1))⟩, ⟨(some 53), none, (.mov (.tmp 12))⟩, ⟨(some 54), none, (.ari .add (.tmp 52) (.tmp 53))⟩, ⟨(some 55), none, (.mem ⟨(some 55), (.buildSlice 27 1 (List.toArray [(0, (.tmp 54))])), 27, "", (List.toArray []), none⟩)⟩, ⟨(some 56), none, (.mem ⟨(some 56), (.call ⟨(.builtin .append), (List.toArray [(.tmp 51), (.tmp 55)]), (List.toArray [27, 27])⟩), 27, "", (List.toArray []), none⟩)⟩, ⟨(some 11), none, (.mov (.tmp 56))⟩])
  .skip))))
  (.reg [⟨(some 57), none, (.ari .add (.tmp 43) (.const (.int .i64 1)))⟩, ⟨(some 43), none, (.mov (.tmp 57))⟩]))))
theorem L10x1 : low Try.prog Try.f10.ntmps (at_ Try.f10 [1, 1, 1, 1, 1, 0, 1, 0, 0]) = some R10x1 := by kernel_rfl
theorem E10_2 : at_ Try.f10 [1, 1, 1, 1, 1, 1, 1, 1, 1, 1, 1, 1, 1, 0, 1, 0] = .loop (at_ Try.f10 [1, 1, 1, 1, 1, 1, 1, 1, 1, 1, 1, 1, 1, 0, 1, 0, 0]) := by kernel_rfl
noncomputable def R10x2 : RC := (.seq (.reg [⟨(some 114), none, (.cmp .lss (.tmp 113) (.tmp 112))⟩])
  (.seq (.cond (.tmp 114) .skip
  (.exit 2))
  (.seq (.block 3 (.seq (.reg [⟨(some 115), none, (.mov (.tmp 113))⟩, ⟨(some 19), none, (.mov (.tmp 115))⟩])
  (.seq (.dreg [⟨(some 116), none, (.mov (.tmp 9))⟩, ⟨(some 117), none, (.mov (.tmp 19))⟩, ⟨(some 118), none, (.idx (.tmp 116) (.tmp 117) 1)⟩, ⟨(some 119), none, (.ld (.tmp 118) 1)⟩, ⟨(some 120), none, (.mov (.tmp 11))⟩, ⟨(some 121), none, (.mov (.tmp 19))⟩, ⟨(some 122), none, (.idx (.tmp 120) (.tmp 121) 1)⟩, ⟨(some 123), none, (.ld (.tmp 122) 1)⟩, ⟨(some 124), none, (.cmp .neq (.tmp 119) (.tmp 123))⟩] [255, 112, 48, 0, 0, 7, 3, 0, 0])
  (.cond (.tmp 124) (.seq (.dreg [⟨(some 125), none, (.mov (.tmp 9))⟩, ⟨(some 126), none, (.mov (.tmp 19))⟩, ⟨(some 127), none, (.idx (.tmp 125) (.tmp 126) 1)⟩, ⟨(some 128), none, (.ld (.tmp 127) 1)⟩, ⟨(some 129), none, (.mov (.tmp 11))⟩, ⟨(some 130), none, (.mov (.tmp 19))⟩, ⟨(some 131), none, (.idx (.tmp 129) (.tmp 130) 1)⟩, ⟨(some 132), none, (.ld (.tmp 131) 1)⟩, ⟨(some 133), none, (.cmpb .lss (.tmp 128) (.tmp 132))⟩, ⟨(some 134), none, (.mov (.tmp 133))⟩, ⟨(some 135), (some (134, true)), (.call ⟨(.value (.func 14)), (List.toArray []), (List.toArray [])⟩ true)⟩, ⟨(some 136), none, (.pur ⟨(some 136), (.pick (.tmp 134) (.tmp 135) (.const (.bool false))), 4, "", (List.toArray []), none⟩)⟩, ⟨(some 8), none, (.mov (.tmp 136))⟩] [4095, 2047, 1023, 511, 255, 112, 48, 0, 0, 7, 3, 0, 0])
  .ret)
  .skip))))
  (.reg [⟨(some 137), none, (.ari .add (.tmp 113) (.const (.int .i64 1)))⟩, ⟨(some 113), none, (.mov (.tmp 137))⟩]))))
theorem L10x2 : low Try.prog Try.f10.ntmps (at_ Try.f10 [1, 1, 1, 1, 1, 1, 1, 1, 1, 1, 1, 1, 1, 0, 1, 0, 0]) = some R10x2 := by kernel_rfl
theorem N83 : Try.f83.ntmps = 26 := by kernel_rfl
theorem Z83 : Try.f83.results.toList = ((List.toArray [(.tmp 2)]) : Array ResultVar).toList := by kernel_rfl
theorem B83 : Try.f83.body = some (at_ Try.f83 []) := by kernel_rfl
noncomputable def R83 : RC := (.seq (.reg [⟨(some 2), none, (.mov (.const (.int .u64 0)))⟩])
  (.seq (.reg [⟨(some 3), none, (.mov (.tmp 0))⟩, ⟨(some 4), none, (.pur ⟨(some 4), (.binOp .shr 62 (.tmp 3) (.const (.int .u64 1)) 119), 62, "", (List.toArray []), none⟩)⟩, ⟨(some 5), none, (.pur ⟨(some 5), (.binOp .and 62 (.tmp 4) (.const (.int .u64 6148914691236517205)) 62), 62, "", (List.toArray []), none⟩)⟩, ⟨(some 6), none, (.mov (.tmp 0))⟩, ⟨(some 7), none, (.pur ⟨(some 7), (.binOp .and 62 (.tmp 6) (.const (.int .u64 6148914691236517205)) 62), 62, "", (List.toArray []), none⟩)⟩, ⟨(some 8), none, (.pur ⟨(some 8), (.binOp .shl 62 (.tmp 7) (.const (.int .u64 1)) 119), 62, "", (List.toArray []), none⟩)⟩, ⟨(some 9), none, (.pur ⟨(some 9), (.binOp .or 62 (.tmp 5) (.tmp 8) 62), 62, "", (List.toArray []), none⟩)⟩, ⟨(some 0), none, (.mov (.tmp 9))⟩])
  (.seq (.reg [⟨(some 10), none, (.mov (.tmp 0))⟩, ⟨(some 11), none, (.pur ⟨(some 11), (.binOp .shr 62 (.tmp 10) (.const (.int .u64 2)) 119), 62, "", (List.toArray []), none⟩)⟩, ⟨(some 12), none, (.pur ⟨(some 12), (.binOp .and 62 (.tmp 11) (.const (.int .u64 3689348814741910323)) 62), 62, "", (List.toArray []), none⟩)⟩, ⟨(some 13), none, (.mov (.tmp 0))⟩, ⟨(some 14), none, (.pur ⟨(some 14), (.binOp .and 62 (.tmp 13) (.const (.int .u64 3689348814741910323)) 62), 62, "", (List.toArray []), none⟩)⟩, ⟨(some 15), none, (.pur ⟨(some 15), (.binOp .shl 62 (.tmp 14) (.const (.int .u64 2)) 119), 62, "", (List.toArray []), none⟩)⟩, ⟨(some 16), none, (.pur ⟨(some 16), (.binOp .or 62 (.tmp 12) (.tmp 15) 62), 62, "", (List.toArray []), none⟩)⟩, ⟨(some 0), none, (.mov (.tmp 16))⟩])
  (.seq (.reg [⟨(some 17), none, (.mov (.tmp 0))⟩, ⟨(some 18), none, (.pur ⟨(some 18), (.binOp .shr 62 (.tmp 17) (.const (.int .u64 4)) 119), 62, "", (List.toArray []), none⟩)⟩, ⟨(some 19), none, (.pur ⟨(some 19), (.binOp .and 62 (.tmp 18) (.const (.int .u64 1085102592571150095)) 62), 62, "", (List.toArray []), none⟩)⟩, ⟨(some 20), none, (.mov (.tmp 0))⟩, ⟨(some 21), none, (.pur ⟨(some 21), (.binOp .and 62 (.tmp 20) (.const (.int .u64 1085102592571150095)) 62), 62, "", (List.toArray []), none⟩)⟩, ⟨(some 22), none, (.pur ⟨(some 22), (.binOp .shl 62 (.tmp 21) (.const (.int .u64 4)) 119), 62, "", (List.toArray []), none⟩)⟩, ⟨(some 23), none, (.pur ⟨(some 23), (.binOp .or 62 (.tmp 19) (.tmp 22) 62), 62, "", (List.toArray []), none⟩)⟩, ⟨(some 0), none, (.mov (.tmp 23))⟩])
  (.seq (.reg [⟨(some 24), none, (.mov (.tmp 0))⟩, ⟨(some 25), none, (.call ⟨(.value (.func 86)), (List.toArray [(.tmp 24)]), (List.toArray [62])⟩ true)⟩, ⟨(some 2), none, (.mov (.tmp 25))⟩])
  .ret)))))
theorem L83 : low Try.prog Try.f83.ntmps (at_ Try.f83 []) = some R83 := by kernel_rfl
theorem N84 : Try.f84.ntmps = 35 := by kernel_rfl
theorem Z84 : Try.f84.results.toList = ((List.toArray [(.tmp 2)]) : Array ResultVar).toList := by kernel_rfl
theorem B84 : Try.f84.body = some (at_ Try.f84 []) := by kernel_rfl
noncomputable def R84 : RC := (.seq (.reg [⟨(some 2), none, (.mov (.const (.int .i64 0)))⟩])
  (.seq (.reg [⟨(some 3), none, (.mov (.tmp 0))⟩, ⟨(some 4), none, (.pur ⟨(some 4), (.binOp .shr 62 (.tmp 3) (.const (.int .u64 1)) 119), 62, "", (List.toArray []), none⟩)⟩, ⟨(some 5), none, (.pur ⟨(some 5), (.binOp .and 62 (.tmp 4) (.const (.int .u64 6148914691236517205)) 62), 62, "", (List.toArray []), none⟩)⟩, ⟨(some 6), none, (.mov (.tmp 0))⟩, ⟨(some 7), none, (.pur ⟨(some 7), (.binOp .and 62 (.tmp 6) (.const (.int .u64 6148914691236517205)) 62), 62, "", (List.toArray []), none⟩)⟩, ⟨(some 8), none, (.pur ⟨(some 8), (.binOp .add 62 (.tmp 5) (.tmp 7) 62), 62, "", (List.toArray []), none⟩)⟩, ⟨(some 0), none, (.mov (.tmp 8))⟩])
  (.seq (.reg [⟨(some 9), none, (.mov (.tmp 0))⟩, ⟨(some 10), none, (.pur ⟨(some 10), (.binOp .shr 62 (.tmp 9) (.const (.int .u64 2)) 119), 62, "", (List.toArray []), none⟩)⟩, ⟨(some 11), none, (.pur ⟨(some 11), (.binOp .and 62 (.tmp 10) (.const (.int .u64 3689348814741910323)) 62), 62, "", (List.toArray []), none⟩)⟩, ⟨(some 12), none, (.mov (.tmp 0))⟩, ⟨(some 13), none, (.pur ⟨(some 13), (.binOp .and 62 (.tmp 12) (.const (.int .u64 3689348814741910323)) 62), 62, "", (List.toArray []), none⟩)⟩, ⟨(some 14), none, (.pur ⟨(some 14), (.binOp .add 62 (.tmp 11) (.tmp 13) 62), 62, "", (List.toArray []), none⟩)⟩, ⟨(some 0), none, (.mov (.tmp 14))⟩])
  (.seq (.reg [⟨(some 15), none, (.mov (.tmp 0))⟩, ⟨(some 16), none, (.pur ⟨(some 16), (.binOp .shr 62 (.tmp 15) (.const (.int .u64 4)) 119), 62, "", (List.toArray []), none⟩)⟩, ⟨(some 17), none, (.mov (.tmp 0))⟩, ⟨(some 18), none, (.pur ⟨(some 18), (.binOp .add 62 (.tmp 16) (.tmp 17) 62), 62, "", (List.toArray []), none⟩)⟩, ⟨(some 19), none, (.pur ⟨(some 19), (.binOp .and 62 (.tmp 18) (.const (.int .u64 1085102592571150095)) 62), 62, "", (List.toArray []), none⟩)⟩, ⟨(some 0), none, (.mov (.tmp 19))⟩])
  (.seq (.reg [⟨(some 20), none, (.mov (.tmp 0))⟩, ⟨(some 21), none, (.mov (.tmp 0))⟩, ⟨(some 22), none, (.pur ⟨(some 22), (.binOp .shr 62 (.tmp 21) (.const (.int .u64 8)) 119), 62, "", (List.toArray []), none⟩)⟩, ⟨(some 23), none, (.pur ⟨(some 23), (.binOp .add 62 (.tmp 20) (.tmp 22) 62), 62, "", (List.toArray []), none⟩)⟩, ⟨(some 0), none, (.mov (.tmp 23))⟩])
  (.seq (.reg [⟨(some 24), none, (.mov (.tmp 0))⟩, ⟨(some 25), none, (.mov (.tmp 0))⟩, ⟨(some 26), none, (.pur ⟨(some 26), (.binOp .shr 62 (.tmp 25) (.const (.int .u64 16)) 119), 62, "", (List.toArray []), none⟩)⟩, ⟨(some 27), none, (.pur ⟨(some 27), (.binOp .add 62 (.tmp 24) (.tmp 26) 62), 62, "", (List.toArray []), none⟩)⟩, ⟨(some 0), none, (.mov (.tmp 27))⟩])
  (.seq (.reg [⟨(some 28), none, (.mov (.tmp 0))⟩, ⟨(some 29), none, (.mov (.tmp 0))⟩, ⟨(some 30), none, (.pur ⟨(some 30), (.binOp .shr 62 (.tmp 29) (.const (.int .u64 32)) 119), 62, "", (List.toArray []), none⟩)⟩, ⟨(some 31), none, (.pur ⟨(some 31), (.binOp .add 62 (.tmp 28) (.tmp 30) 62), 62, "", (List.toArray []), none⟩)⟩, ⟨(some 0), none, (.mov (.tmp 31))⟩])
  (.seq (.reg [⟨(some 32), none, (.mov (.tmp 0))⟩, ⟨(some 33), none, (.pur ⟨(some 33), (.convert 62 3 (.tmp 32)), 3, "", (List.toArray []), none⟩)⟩, ⟨(some 34), none, (.pur ⟨(some 34), (.binOp .and 3 (.tmp 33) (.const (.int .i64 127)) 3), 3, "", (List.toArray []), none⟩)⟩, ⟨(some 2), none, (.mov (.tmp 34))⟩])
  .ret))))))))
theorem L84 : low Try.prog Try.f84.ntmps (at_ Try.f84 []) = some R84 := by kernel_rfl
theorem N86 : Try.f86.ntmps = 22 := by kernel_rfl
theorem Z86 : Try.f86.results.toList = ((List.toArray [(.tmp 2)]) : Array ResultVar).toList := by kernel_rfl
theorem B86 : Try.f86.body = some (at_ Try.f86 []) := by kernel_rfl
noncomputable def R86 : RC := (.seq (.reg [⟨(some 2), none, (.mov (.const (.int .u64 0)))⟩])
  (.seq (.reg [⟨(some 3), none, (.mov (.tmp 0))⟩, ⟨(some 4), none, (.pur ⟨(some 4), (.binOp .shr 62 (.tmp 3) (.const (.int .u64 8)) 119), 62, "", (List.toArray []), none⟩)⟩, ⟨(some 5), none, (.pur ⟨(some 5), (.binOp .and 62 (.tmp 4) (.const (.int .u64 71777214294589695)) 62), 62, "", (List.toArray []), none⟩)⟩, ⟨(some 6), none, (.mov (.tmp 0))⟩, ⟨(some 7), none, (.pur ⟨(some 7), (.binOp .and 62 (.tmp 6) (.const (.int .u64 71777214294589695)) 62), 62, "", (List.toArray []), none⟩)⟩, ⟨(some 8), none, (.pur ⟨(some 8), (.binOp .shl 62 (.tmp 7) (.const (.int .u64 8)) 119), 62, "", (List.toArray []), none⟩)⟩, ⟨(some 9), none, (.pur ⟨(some 9), (.binOp .or 62 (.tmp 5) (.tmp 8) 62), 62, "", (List.toArray []), none⟩)⟩, ⟨(some 0), none, (.mov (.tmp 9))⟩])
  (.seq (.reg [⟨(some 10), none, (.mov (.tmp 0))⟩, ⟨(some 11), none, (.pur ⟨(some 11), (.binOp .shr 62 (.tmp 10) (.const (.int .u64 16)) 119), 62, "", (List.toArray []), none⟩)⟩, ⟨(some 12), none, (.pur ⟨(some 12), (.binOp .and 62 (.tmp 11) (.const (.int .u64 281470681808895)) 62), 62, "", (List.toArray []), none⟩)⟩, ⟨(some 13), none, (.mov (.tmp 0))⟩, ⟨(some 14), none, (.pur ⟨(some 14), (.binOp .and 62 (.tmp 13) (.const (.int .u64 281470681808895)) 62), 62, "", (List.toArray []), none⟩)⟩, ⟨(some 15), none, (.pur ⟨(some 15), (.binOp .shl 62 (.tmp 14) (.const (.int .u64 16)) 119), 62, "", (List.toArray []), none⟩)⟩, ⟨(some 16), none, (.pur ⟨(some 16), (.binOp .or 62 (.tmp 12) (.tmp 15) 62), 62, "", (List.toArray []), none⟩)⟩, ⟨(some 0), none, (.mov (.tmp 16))⟩])
  (.seq (.reg [⟨(some 17), none, (.mov (.tmp 0))⟩, ⟨(some 18), none, (.pur ⟨(some 18), (.binOp .shr 62 (.tmp 17) (.const (.int .u64 32)) 119), 62, "", (List.toArray []), none⟩)⟩, ⟨(some 19), none, (.mov (.tmp 0))⟩, ⟨(some 20), none, (.pur ⟨(some 20), (.binOp .shl 62 (.tmp 19) (.const (.int .u64 32)) 119), 62, "", (List.toArray []), none⟩)⟩, ⟨(some 21), none, (.pur ⟨(some 21), (.binOp .or 62 (.tmp 18) (.tmp 20) 62), 62, "", (List.toArray []), none⟩)⟩, ⟨(some 2), none, (.mov (.tmp 21))⟩])
  .ret))))
theorem L86 : low Try.prog Try.f86.ntmps (at_ Try.f86 []) = some R86 := by kernel_rfl
end Go.Ax

/-
  Late: bits: reversed, counted (83, 84, 86) (written by program).
-/
namespace Go.Ax
open Go Go.RowKit Go.Proofs

theorem wrapN {m : Nat} : IntKind.u64.wrap (m : Int) = ((m % 18446744073709551616 : Nat) : Int) := by
  unfold IntKind.wrap IntKind.bits IntKind.signed
  simp
theorem up_shr {P : Program} {t : TypeId} {x y : Operand} {m d : Nat} (h : d < 64) : prun P (do eqGuard .shr t x y (.int .u64 (m : Int)) (.int .u64 (d : Int)); binOp .shr t (.int .u64 (m : Int)) (.int .u64 (d : Int))) = some (.int .u64 ((m / 2 ^ d : Nat) : Int)) := by
  show prun P (Op.shift .shr .u64 (m : Int) .u64 (d : Int)) = _
  unfold Op.shift
  rw [if_neg (by omega)]
  show some (Value.int .u64 ((m : Int).fdiv (2 ^ min d 64))) = _
  rw [Nat.min_eq_left (by omega), Int.fdiv_eq_ediv_of_nonneg _ (by exact Int.le_of_lt (Int.pow_pos (by decide)))]
  congr 2
theorem up_shl {P : Program} {t : TypeId} {x y : Operand} {m d : Nat} (h : d < 64) : prun P (do eqGuard .shl t x y (.int .u64 (m : Int)) (.int .u64 (d : Int)); binOp .shl t (.int .u64 (m : Int)) (.int .u64 (d : Int))) = some (.int .u64 ((m * 2 ^ d % 18446744073709551616 : Nat) : Int)) := by
  show prun P (Op.shift .shl .u64 (m : Int) .u64 (d : Int)) = _
  unfold Op.shift
  rw [if_neg (by omega)]
  show some (Value.int .u64 (IntKind.u64.wrap ((m : Int) * 2 ^ min d 64))) = _
  rw [Nat.min_eq_left (by omega)]
  have e : (m : Int) * 2 ^ d = ((m * 2 ^ d : Nat) : Int) := by rw [Int.natCast_mul, Int.natCast_pow]; rfl
  rw [e, wrapN]
theorem up_shli {P : Program} {t : TypeId} {x y : Operand} {m d : Nat} (h : d < 64) : prun P (do eqGuard .shl t x y (.int .u64 (m : Int)) (.int .i64 (d : Int)); binOp .shl t (.int .u64 (m : Int)) (.int .i64 (d : Int))) = some (.int .u64 ((m * 2 ^ d % 18446744073709551616 : Nat) : Int)) := by
  show prun P (Op.shift .shl .u64 (m : Int) .i64 (d : Int)) = _
  unfold Op.shift
  rw [if_neg (by omega)]
  show some (Value.int .u64 (IntKind.u64.wrap ((m : Int) * 2 ^ min d 64))) = _
  rw [Nat.min_eq_left (by omega)]
  have e : (m : Int) * 2 ^ d = ((m * 2 ^ d : Nat) : Int) := by rw [Int.natCast_mul, Int.natCast_pow]; rfl
  rw [e, wrapN]
theorem up_and {P : Program} {t : TypeId} {x y : Operand} {m n : Nat} (hm : m < 18446744073709551616) (hn : n < 18446744073709551616) : prun P (do eqGuard .and t x y (.int .u64 (m : Int)) (.int .u64 (n : Int)); binOp .and t (.int .u64 (m : Int)) (.int .u64 (n : Int))) = some (.int .u64 ((m &&& n : Nat) : Int)) := by
  show some (Value.int .u64 (IntKind.u64.wrap ((BitVec.ofInt 64 (m : Int) &&& BitVec.ofInt 64 (n : Int)).toNat : Int))) = _
  have hb : m &&& n < 18446744073709551616 := Nat.lt_of_le_of_lt Nat.and_le_left hm
  have e : (BitVec.ofInt 64 (m : Int) &&& BitVec.ofInt 64 (n : Int)).toNat = m &&& n := by
    have h1 : BitVec.ofInt 64 (m : Int) = BitVec.ofNat 64 m := by simp
    have h2 : BitVec.ofInt 64 (n : Int) = BitVec.ofNat 64 n := by simp
    rw [h1, h2, BitVec.toNat_and]
    simp only [BitVec.toNat_ofNat]
    rw [Nat.mod_eq_of_lt hm, Nat.mod_eq_of_lt hn]
  rw [e, wrap_u64 ⟨by omega, by omega⟩]
theorem up_add {P : Program} {t : TypeId} {x y : Operand} {m n : Nat} : prun P (do eqGuard .add t x y (.int .u64 (m : Int)) (.int .u64 (n : Int)); binOp .add t (.int .u64 (m : Int)) (.int .u64 (n : Int))) = some (.int .u64 (((m + n) % 18446744073709551616 : Nat) : Int)) := by
  show some (Value.int .u64 (IntKind.u64.wrap ((m : Int) + (n : Int)))) = _
  rw [show (m : Int) + (n : Int) = ((m + n : Nat) : Int) by omega, wrapN]
section
variable {n : Nat} {S : Rg} {x y : Operand} {o : Option Tmp}
theorem u_shr {m d : Nat} (h : d < 64) (hx : evS S x = some (.int .u64 (m : Int))) (hy : evS S y = some (.int .u64 (d : Int))) : pureOp Try.prog (frS n S) ⟨o, .binOp .shr 62 x y 119, 62, "", #[], none⟩ = some (.int .u64 ((m / 2 ^ d : Nat) : Int)) := by
  unfold pureOp
  simp only [ev_frS, hx, hy, flat, flat1, Bool.and_self, cond_true, up_shr h]
theorem u_shl {m d : Nat} (h : d < 64) (hx : evS S x = some (.int .u64 (m : Int))) (hy : evS S y = some (.int .u64 (d : Int))) : pureOp Try.prog (frS n S) ⟨o, .binOp .shl 62 x y 119, 62, "", #[], none⟩ = some (.int .u64 ((m * 2 ^ d % 18446744073709551616 : Nat) : Int)) := by
  unfold pureOp
  simp only [ev_frS, hx, hy, flat, flat1, Bool.and_self, cond_true, up_shl h]
theorem u_shli {m d : Nat} (h : d < 64) (hx : evS S x = some (.int .u64 (m : Int))) (hy : evS S y = some (iv (d : Int))) : pureOp Try.prog (frS n S) ⟨o, .binOp .shl 62 x y 3, 62, "", #[], none⟩ = some (.int .u64 ((m * 2 ^ d % 18446744073709551616 : Nat) : Int)) := by
  unfold pureOp
  simp only [ev_frS, hx, hy, flat, flat1, Bool.and_self, cond_true, up_shli h]
theorem u_and {m k : Nat} (hm : m < 18446744073709551616) (hk : k < 18446744073709551616) (hx : evS S x = some (.int .u64 (m : Int))) (hy : evS S y = some (.int .u64 (k : Int))) : pureOp Try.prog (frS n S) ⟨o, .binOp .and 62 x y 62, 62, "", #[], none⟩ = some (.int .u64 ((m &&& k : Nat) : Int)) := by
  unfold pureOp
  simp only [ev_frS, hx, hy, flat, flat1, Bool.and_self, cond_true, up_and hm hk]
theorem u_or {m k : Nat} (hm : m < 18446744073709551616) (hk : k < 18446744073709551616) (hx : evS S x = some (.int .u64 (m : Int))) (hy : evS S y = some (.int .u64 (k : Int))) : pureOp Try.prog (frS n S) ⟨o, .binOp .or 62 x y 62, 62, "", #[], none⟩ = some (.int .u64 ((m ||| k : Nat) : Int)) := by
  unfold pureOp
  simp only [ev_frS, hx, hy, flat, flat1, Bool.and_self, cond_true, pr_or hm hk]
theorem u_add {m k : Nat} (hx : evS S x = some (.int .u64 (m : Int))) (hy : evS S y = some (.int .u64 (k : Int))) : pureOp Try.prog (frS n S) ⟨o, .binOp .add 62 x y 62, 62, "", #[], none⟩ = some (.int .u64 (((m + k) % 18446744073709551616 : Nat) : Int)) := by
  unfold pureOp
  simp only [ev_frS, hx, hy, flat, flat1, Bool.and_self, cond_true, up_add]
theorem u_int {m : Nat} (hm : m < 9223372036854775808) (hx : evS S x = some (.int .u64 (m : Int))) : pureOp Try.prog (frS n S) ⟨o, .convert 62 3 x, 3, "", #[], none⟩ = some (iv (m : Int)) := by
  have e : ∀ z : Int, prun Try.prog (Go.convert 62 3 (.int .u64 z)) = some (.int .i64 (IntKind.i64.wrap z)) := fun z => by kernel_rfl
  unfold pureOp
  simp only [ev_frS, hx, e, wrap_i64 (x := (m : Int)) ⟨by omega, by omega⟩]
  rfl
theorem i_u64 {m : Nat} (hm : m < 18446744073709551616) {j : Int} (hx : evS S x = some (iv j)) (hj : j = (m : Int)) : pureOp Try.prog (frS n S) ⟨o, .convert 3 62 x, 62, "", #[], none⟩ = some (.int .u64 (m : Int)) := by
  subst hj
  have e : ∀ z : Int, prun Try.prog (Go.convert 3 62 (.int .i64 z)) = some (.int .u64 (IntKind.u64.wrap z)) := fun z => by kernel_rfl
  unfold pureOp
  simp only [ev_frS, hx, e, wrap_u64 (x := (m : Int)) ⟨by omega, by omega⟩]
  rfl
theorem i_and127 {m : Nat} (hm : m < 9223372036854775808) (hx : evS S x = some (iv (m : Int))) : pureOp Try.prog (frS n S) ⟨o, .binOp .and 3 x (.const (.int .i64 127)) 3, 3, "", #[], none⟩ = some (iv ((m % 128 : Nat) : Int)) := by
  have hy : evS S (.const (.int .i64 127)) = some (.int .i64 127) := rfl
  have e : prun Try.prog (do eqGuard .and 3 x (.const (.int .i64 127)) (.int .i64 (m : Int)) (.int .i64 127); binOp .and 3 (.int .i64 (m : Int)) (.int .i64 127)) = some (.int .i64 ((m % 128 : Nat) : Int)) := by
    show some (Value.int .i64 (IntKind.i64.wrap ((BitVec.ofInt 64 (m : Int) &&& BitVec.ofInt 64 127).toNat : Int))) = _
    have e : (BitVec.ofInt 64 (m : Int) &&& BitVec.ofInt 64 127).toNat = m % 128 := by
      have h1 : BitVec.ofInt 64 (m : Int) = BitVec.ofNat 64 m := by simp
      rw [h1, BitVec.toNat_and]
      have h2 : (BitVec.ofInt 64 127).toNat = 2 ^ 7 - 1 := by decide
      rw [h2, Nat.and_two_pow_sub_one_eq_mod]
      simp only [BitVec.toNat_ofNat]
      omega
    rw [e, wrap_i64 ⟨by omega, by omega⟩]
  unfold pureOp
  simp only [ev_frS, hx, hy, flat, flat1, Bool.and_self, cond_true, e]
end
def rvS (m k c : Nat) : Nat := (m / 2 ^ k &&& c) ||| ((m &&& c) * 2 ^ k % 18446744073709551616)
def rvB (b : Nat) : Nat := (b / 2 ^ 32) ||| (b * 2 ^ 32 % 18446744073709551616)
def rev64 (m : Nat) : Nat := rvB (rvS (rvS (rvS (rvS (rvS m 1 6148914691236517205) 2 3689348814741910323) 4 1085102592571150095) 8 71777214294589695) 16 281470681808895)
theorem rvS_lt {m k c : Nat} (hm : m < 18446744073709551616) : rvS m k c < 18446744073709551616 :=
  Nat.or_lt_two_pow (n := 64) (Nat.lt_of_le_of_lt Nat.and_le_left (Nat.lt_of_le_of_lt (Nat.div_le_self _ _) hm)) (Nat.mod_lt _ (by decide))
def psS (m k c : Nat) : Nat := ((m / 2 ^ k &&& c) + (m &&& c)) % 18446744073709551616
def ps3 (m : Nat) : Nat := (m / 2 ^ 4 + m) % 18446744073709551616 &&& 1085102592571150095
def psA (m k : Nat) : Nat := (m + m / 2 ^ k) % 18446744073709551616
def popX (m : Nat) : Nat := psA (psA (psA (ps3 (psS (psS m 1 6148914691236517205) 2 3689348814741910323)) 8) 16) 32
/-- the first d bits of a number, turned round -/
def revB : Nat → Nat → Nat
  | 0, _ => 0
  | d + 1, m => (m % 2) * 2 ^ d + revB d (m / 2)
/-- how many of the first d bits of a number are set -/
def cnt : Nat → Nat → Nat
  | 0, _ => 0
  | d + 1, m => m % 2 + cnt d (m / 2)
def chkR (d : Nat) : Nat → Bool
  | 0 => true
  | m + 1 => Nat.beq (rev64 m / 2 ^ (64 - d)) (revB d m) && chkR d m
def chkP (s : Nat) : Nat → Bool
  | 0 => true
  | m + 1 => Nat.ble (popX (m * 2 ^ s) + 1) 9223372036854775808 && Nat.beq (popX (m * 2 ^ s) % 128) (cnt 12 m) && chkP s m
theorem chkR_at {d : Nat} : ∀ {n m : Nat}, chkR d n = true → m < n → rev64 m / 2 ^ (64 - d) = revB d m
  | 0, m, _, h => absurd h (Nat.not_lt_zero m)
  | n + 1, m, hc, h => by
    simp only [chkR, Bool.and_eq_true] at hc
    rcases Nat.lt_or_ge m n with q | q
    · exact chkR_at hc.2 q
    · have : m = n := by omega
      subst this; exact Nat.eq_of_beq_eq_true hc.1
theorem chkP_at {s : Nat} : ∀ {n m : Nat}, chkP s n = true → m < n → popX (m * 2 ^ s) < 9223372036854775808 ∧ popX (m * 2 ^ s) % 128 = cnt 12 m
  | 0, m, _, h => absurd h (Nat.not_lt_zero m)
  | n + 1, m, hc, h => by
    simp only [chkP, Bool.and_eq_true] at hc
    rcases Nat.lt_or_ge m n with q | q
    · exact chkP_at hc.2 q
    · have : m = n := by omega
      subst this; exact ⟨Nat.le_of_ble_eq_true hc.1.1, Nat.eq_of_beq_eq_true hc.1.2⟩
theorem chkR0 : chkR 0 1 = true := by kernel_rfl
theorem chkR1 : chkR 1 2 = true := by kernel_rfl
theorem chkR2 : chkR 2 4 = true := by kernel_rfl
theorem chkR3 : chkR 3 8 = true := by kernel_rfl
theorem chkR4 : chkR 4 16 = true := by kernel_rfl
theorem chkR5 : chkR 5 32 = true := by kernel_rfl
theorem chkR6 : chkR 6 64 = true := by kernel_rfl
theorem chkR7 : chkR 7 128 = true := by kernel_rfl
theorem chkR8 : chkR 8 256 = true := by kernel_rfl
theorem chkR9 : chkR 9 512 = true := by kernel_rfl
theorem chkR10 : chkR 10 1024 = true := by kernel_rfl
theorem chkR11 : chkR 11 2048 = true := by kernel_rfl
theorem chkR12 : chkR 12 4096 = true := by kernel_rfl
theorem chkP0 : chkP 0 4096 = true := by kernel_rfl
theorem chkP1 : chkP 1 4096 = true := by kernel_rfl
theorem chkP2 : chkP 2 4096 = true := by kernel_rfl
theorem chkP3 : chkP 3 4096 = true := by kernel_rfl
theorem chkP4 : chkP 4 4096 = true := by kernel_rfl
theorem chkP5 : chkP 5 4096 = true := by kernel_rfl
theorem chkP6 : chkP 6 4096 = true := by kernel_rfl
theorem chkP7 : chkP 7 4096 = true := by kernel_rfl
theorem chkP8 : chkP 8 4096 = true := by kernel_rfl
theorem chkP9 : chkP 9 4096 = true := by kernel_rfl
theorem chkP10 : chkP 10 4096 = true := by kernel_rfl
theorem chkP11 : chkP 11 4096 = true := by kernel_rfl
theorem chkP12 : chkP 12 4096 = true := by kernel_rfl
theorem chkP13 : chkP 13 4096 = true := by kernel_rfl
theorem chkP14 : chkP 14 4096 = true := by kernel_rfl
theorem chkP15 : chkP 15 4096 = true := by kernel_rfl
theorem chkP16 : chkP 16 4096 = true := by kernel_rfl
theorem chkP17 : chkP 17 4096 = true := by kernel_rfl
theorem chkP18 : chkP 18 4096 = true := by kernel_rfl
theorem chkP19 : chkP 19 4096 = true := by kernel_rfl
theorem chkP20 : chkP 20 4096 = true := by kernel_rfl
theorem chkP21 : chkP 21 4096 = true := by kernel_rfl
theorem chkP22 : chkP 22 4096 = true := by kernel_rfl
theorem chkP23 : chkP 23 4096 = true := by kernel_rfl
theorem chkP24 : chkP 24 4096 = true := by kernel_rfl
theorem chkP25 : chkP 25 4096 = true := by kernel_rfl
theorem chkP26 : chkP 26 4096 = true := by kernel_rfl
theorem chkP27 : chkP 27 4096 = true := by kernel_rfl
theorem chkP28 : chkP 28 4096 = true := by kernel_rfl
theorem chkP29 : chkP 29 2048 = true := by kernel_rfl
theorem chkP30 : chkP 30 1024 = true := by kernel_rfl
theorem chkP31 : chkP 31 512 = true := by kernel_rfl
theorem chkP32 : chkP 32 256 = true := by kernel_rfl
theorem chkP33 : chkP 33 128 = true := by kernel_rfl
theorem chkP34 : chkP 34 64 = true := by kernel_rfl
theorem chkP35 : chkP 35 32 = true := by kernel_rfl
theorem chkP36 : chkP 36 16 = true := by kernel_rfl
theorem chkP37 : chkP 37 8 = true := by kernel_rfl
theorem chkP38 : chkP 38 4 = true := by kernel_rfl
theorem chkP39 : chkP 39 2 = true := by kernel_rfl
theorem chkP40 : chkP 40 1 = true := by kernel_rfl
theorem rev_at {d m : Nat} (hd : d ≤ 12) (h : m < 2 ^ d) : rev64 m / 2 ^ (64 - d) = revB d m := by
  match d, hd with
  | 0, _ => exact chkR_at chkR0 h
  | 1, _ => exact chkR_at chkR1 h
  | 2, _ => exact chkR_at chkR2 h
  | 3, _ => exact chkR_at chkR3 h
  | 4, _ => exact chkR_at chkR4 h
  | 5, _ => exact chkR_at chkR5 h
  | 6, _ => exact chkR_at chkR6 h
  | 7, _ => exact chkR_at chkR7 h
  | 8, _ => exact chkR_at chkR8 h
  | 9, _ => exact chkR_at chkR9 h
  | 10, _ => exact chkR_at chkR10 h
  | 11, _ => exact chkR_at chkR11 h
  | 12, _ => exact chkR_at chkR12 h
theorem pop_at {s d m : Nat} (hs : s + d ≤ 40) (hd : d ≤ 12) (h : m < 2 ^ d) : popX (m * 2 ^ s) < 9223372036854775808 ∧ popX (m * 2 ^ s) % 128 = cnt 12 m := by
  have hm : m < 2 ^ min 12 (40 - s) := Nat.lt_of_lt_of_le h (Nat.pow_le_pow_right (by decide) (by omega))
  match s, (show s ≤ 40 by omega) with
  | 0, _ => exact chkP_at chkP0 hm
  | 1, _ => exact chkP_at chkP1 hm
  | 2, _ => exact chkP_at chkP2 hm
  | 3, _ => exact chkP_at chkP3 hm
  | 4, _ => exact chkP_at chkP4 hm
  | 5, _ => exact chkP_at chkP5 hm
  | 6, _ => exact chkP_at chkP6 hm
  | 7, _ => exact chkP_at chkP7 hm
  | 8, _ => exact chkP_at chkP8 hm
  | 9, _ => exact chkP_at chkP9 hm
  | 10, _ => exact chkP_at chkP10 hm
  | 11, _ => exact chkP_at chkP11 hm
  | 12, _ => exact chkP_at chkP12 hm
  | 13, _ => exact chkP_at chkP13 hm
  | 14, _ => exact chkP_at chkP14 hm
  | 15, _ => exact chkP_at chkP15 hm
  | 16, _ => exact chkP_at chkP16 hm
  | 17, _ => exact chkP_at chkP17 hm
  | 18, _ => exact chkP_at chkP18 hm
  | 19, _ => exact chkP_at chkP19 hm
  | 20, _ => exact chkP_at chkP20 hm
  | 21, _ => exact chkP_at chkP21 hm
  | 22, _ => exact chkP_at chkP22 hm
  | 23, _ => exact chkP_at chkP23 hm
  | 24, _ => exact chkP_at chkP24 hm
  | 25, _ => exact chkP_at chkP25 hm
  | 26, _ => exact chkP_at chkP26 hm
  | 27, _ => exact chkP_at chkP27 hm
  | 28, _ => exact chkP_at chkP28 hm
  | 29, _ => exact chkP_at chkP29 hm
  | 30, _ => exact chkP_at chkP30 hm
  | 31, _ => exact chkP_at chkP31 hm
  | 32, _ => exact chkP_at chkP32 hm
  | 33, _ => exact chkP_at chkP33 hm
  | 34, _ => exact chkP_at chkP34 hm
  | 35, _ => exact chkP_at chkP35 hm
  | 36, _ => exact chkP_at chkP36 hm
  | 37, _ => exact chkP_at chkP37 hm
  | 38, _ => exact chkP_at chkP38 hm
  | 39, _ => exact chkP_at chkP39 hm
  | 40, _ => exact chkP_at chkP40 hm
  | s + 41, h => omega
section
variable {kn : FuncId → Option Bool} {lo : Nat} {H : Hp}
theorem rev86_ok {m : Nat} (hm : m < 18446744073709551616) : FnX Try.prog kn lo 86 [.int .u64 (m : Int)] H (.int .u64 ((rvB (rvS (rvS m 8 71777214294589695) 16 281470681808895) : Nat) : Int)) H := by
  have key := fnX_low (kn := kn) (lo := lo) (H := H) (args := [.int .u64 (m : Int)]) (Q := fun v H' => v = .int .u64 ((rvB (rvS (rvS m 8 71777214294589695) 16 281470681808895) : Nat) : Int) ∧ H' = H) Try.func86 B86 N86 Z86 L86 (by simp) ?_
  · obtain ⟨v, H', h, rfl, rfl⟩ := key; exact h
  refine And.intro rfl (Exists.intro _ (And.intro (u_shr (m := m) (d := 8) (by decide) rfl rfl) ?_))
  refine And.intro rfl (Exists.intro _ (And.intro (u_and (k := 71777214294589695) (Nat.lt_of_le_of_lt (Nat.div_le_self _ _) hm) (by decide) rfl rfl) ?_))
  refine And.intro rfl (Exists.intro _ (And.intro (u_and (m := m) (k := 71777214294589695) hm (by decide) rfl rfl) ?_))
  refine And.intro rfl (Exists.intro _ (And.intro (u_shl (d := 8) (by decide) rfl rfl) ?_))
  refine And.intro rfl (Exists.intro _ (And.intro (u_or (Nat.lt_of_le_of_lt Nat.and_le_left (Nat.lt_of_le_of_lt (Nat.div_le_self _ _) hm)) (Nat.mod_lt _ (by decide)) rfl rfl) ?_))
  obtain ⟨m1, em1⟩ : ∃ z, rvS m 8 71777214294589695 = z := ⟨_, rfl⟩
  have hm1 : m1 < 18446744073709551616 := em1 ▸ rvS_lt hm
  rw [show (m / 2 ^ 8 &&& 71777214294589695 ||| (m &&& 71777214294589695) * 2 ^ 8 % 18446744073709551616) = m1 from em1]
  refine And.intro rfl (Exists.intro _ (And.intro (u_shr (m := m1) (d := 16) (by decide) rfl rfl) ?_))
  refine And.intro rfl (Exists.intro _ (And.intro (u_and (k := 281470681808895) (Nat.lt_of_le_of_lt (Nat.div_le_self _ _) hm1) (by decide) rfl rfl) ?_))
  refine And.intro rfl (Exists.intro _ (And.intro (u_and (m := m1) (k := 281470681808895) hm1 (by decide) rfl rfl) ?_))
  refine And.intro rfl (Exists.intro _ (And.intro (u_shl (d := 16) (by decide) rfl rfl) ?_))
  refine And.intro rfl (Exists.intro _ (And.intro (u_or (Nat.lt_of_le_of_lt Nat.and_le_left (Nat.lt_of_le_of_lt (Nat.div_le_self _ _) hm1)) (Nat.mod_lt _ (by decide)) rfl rfl) ?_))
  obtain ⟨m2, em2⟩ : ∃ z, rvS m1 16 281470681808895 = z := ⟨_, rfl⟩
  have hm2 : m2 < 18446744073709551616 := em2 ▸ rvS_lt hm1
  rw [show (m1 / 2 ^ 16 &&& 281470681808895 ||| (m1 &&& 281470681808895) * 2 ^ 16 % 18446744073709551616) = m2 from em2]
  refine And.intro rfl (Exists.intro _ (And.intro (u_shr (m := m2) (d := 32) (by decide) rfl rfl) ?_))
  refine And.intro rfl (Exists.intro _ (And.intro (u_shl (m := m2) (d := 32) (by decide) rfl rfl) ?_))
  refine And.intro rfl (Exists.intro _ (And.intro (u_or (Nat.lt_of_le_of_lt (Nat.div_le_self _ _) hm2) (Nat.mod_lt _ (by decide)) rfl rfl) ?_))
  exact And.intro trivial (Exists.intro _ (And.intro rfl ⟨by subst em1; subst em2; rfl, rfl⟩))
theorem rev83_ok {m : Nat} (hm : m < 18446744073709551616) : FnX Try.prog kn lo 83 [.int .u64 (m : Int)] H (.int .u64 ((rev64 m : Nat) : Int)) H := by
  have key := fnX_low (kn := kn) (lo := lo) (H := H) (args := [.int .u64 (m : Int)]) (Q := fun v H' => v = .int .u64 ((rev64 m : Nat) : Int) ∧ H' = H) Try.func83 B83 N83 Z83 L83 (by simp) ?_
  · obtain ⟨v, H', h, rfl, rfl⟩ := key; exact h
  refine And.intro rfl (Exists.intro _ (And.intro (u_shr (m := m) (d := 1) (by decide) rfl rfl) ?_))
  refine And.intro rfl (Exists.intro _ (And.intro (u_and (k := 6148914691236517205) (Nat.lt_of_le_of_lt (Nat.div_le_self _ _) hm) (by decide) rfl rfl) ?_))
  refine And.intro rfl (Exists.intro _ (And.intro (u_and (m := m) (k := 6148914691236517205) hm (by decide) rfl rfl) ?_))
  refine And.intro rfl (Exists.intro _ (And.intro (u_shl (d := 1) (by decide) rfl rfl) ?_))
  refine And.intro rfl (Exists.intro _ (And.intro (u_or (Nat.lt_of_le_of_lt Nat.and_le_left (Nat.lt_of_le_of_lt (Nat.div_le_self _ _) hm)) (Nat.mod_lt _ (by decide)) rfl rfl) ?_))
  obtain ⟨m1, em1⟩ : ∃ z, rvS m 1 6148914691236517205 = z := ⟨_, rfl⟩
  have hm1 : m1 < 18446744073709551616 := em1 ▸ rvS_lt hm
  rw [show (m / 2 ^ 1 &&& 6148914691236517205 ||| (m &&& 6148914691236517205) * 2 ^ 1 % 18446744073709551616) = m1 from em1]
  refine And.intro rfl (Exists.intro _ (And.intro (u_shr (m := m1) (d := 2) (by decide) rfl rfl) ?_))
  refine And.intro rfl (Exists.intro _ (And.intro (u_and (k := 3689348814741910323) (Nat.lt_of_le_of_lt (Nat.div_le_self _ _) hm1) (by decide) rfl rfl) ?_))
  refine And.intro rfl (Exists.intro _ (And.intro (u_and (m := m1) (k := 3689348814741910323) hm1 (by decide) rfl rfl) ?_))
  refine And.intro rfl (Exists.intro _ (And.intro (u_shl (d := 2) (by decide) rfl rfl) ?_))
  refine And.intro rfl (Exists.intro _ (And.intro (u_or (Nat.lt_of_le_of_lt Nat.and_le_left (Nat.lt_of_le_of_lt (Nat.div_le_self _ _) hm1)) (Nat.mod_lt _ (by decide)) rfl rfl) ?_))
  obtain ⟨m2, em2⟩ : ∃ z, rvS m1 2 3689348814741910323 = z := ⟨_, rfl⟩
  have hm2 : m2 < 18446744073709551616 := em2 ▸ rvS_lt hm1
  rw [show (m1 / 2 ^ 2 &&& 3689348814741910323 ||| (m1 &&& 3689348814741910323) * 2 ^ 2 % 18446744073709551616) = m2 from em2]
  refine And.intro rfl (Exists.intro _ (And.intro (u_shr (m := m2) (d := 4) (by decide) rfl rfl) ?_))
  refine And.intro rfl (Exists.intro _ (And.intro (u_and (k := 1085102592571150095) (Nat.lt_of_le_of_lt (Nat.div_le_self _ _) hm2) (by decide) rfl rfl) ?_))
  refine And.intro rfl (Exists.intro _ (And.intro (u_and (m := m2) (k := 1085102592571150095) hm2 (by decide) rfl rfl) ?_))
  refine And.intro rfl (Exists.intro _ (And.intro (u_shl (d := 4) (by decide) rfl rfl) ?_))
  refine And.intro rfl (Exists.intro _ (And.intro (u_or (Nat.lt_of_le_of_lt Nat.and_le_left (Nat.lt_of_le_of_lt (Nat.div_le_self _ _) hm2)) (Nat.mod_lt _ (by decide)) rfl rfl) ?_))
  obtain ⟨m3, em3⟩ : ∃ z, rvS m2 4 1085102592571150095 = z := ⟨_, rfl⟩
  have hm3 : m3 < 18446744073709551616 := em3 ▸ rvS_lt hm2
  rw [show (m2 / 2 ^ 4 &&& 1085102592571150095 ||| (m2 &&& 1085102592571150095) * 2 ^ 4 % 18446744073709551616) = m3 from em3]
  refine Exists.intro _ (Exists.intro _ (And.intro (callX_args (rev86_ok hm3)) ?_))
  exact And.intro trivial (Exists.intro _ (And.intro rfl ⟨by subst em1; subst em2; subst em3; rfl, rfl⟩))
theorem pop84_ok {m : Nat} (hm : m < 18446744073709551616) (hp : popX m < 9223372036854775808) : FnX Try.prog kn lo 84 [.int .u64 (m : Int)] H (iv ((popX m % 128 : Nat) : Int)) H := by
  have key := fnX_low (kn := kn) (lo := lo) (H := H) (args := [.int .u64 (m : Int)]) (Q := fun v H' => v = iv ((popX m % 128 : Nat) : Int) ∧ H' = H) Try.func84 B84 N84 Z84 L84 (by simp) ?_
  · obtain ⟨v, H', h, rfl, rfl⟩ := key; exact h
  refine And.intro rfl (Exists.intro _ (And.intro (u_shr (m := m) (d := 1) (by decide) rfl rfl) ?_))
  refine And.intro rfl (Exists.intro _ (And.intro (u_and (k := 6148914691236517205) (Nat.lt_of_le_of_lt (Nat.div_le_self _ _) hm) (by decide) rfl rfl) ?_))
  refine And.intro rfl (Exists.intro _ (And.intro (u_and (m := m) (k := 6148914691236517205) hm (by decide) rfl rfl) ?_))
  refine And.intro rfl (Exists.intro _ (And.intro (u_add rfl rfl) ?_))
  obtain ⟨m1, em1⟩ : ∃ z, psS m 1 6148914691236517205 = z := ⟨_, rfl⟩
  have hm1 : m1 < 18446744073709551616 := em1 ▸ Nat.mod_lt _ (by decide)
  rw [show (((m / 2 ^ 1 &&& 6148914691236517205) + (m &&& 6148914691236517205)) % 18446744073709551616) = m1 from em1]
  refine And.intro rfl (Exists.intro _ (And.intro (u_shr (m := m1) (d := 2) (by decide) rfl rfl) ?_))
  refine And.intro rfl (Exists.intro _ (And.intro (u_and (k := 3689348814741910323) (Nat.lt_of_le_of_lt (Nat.div_le_self _ _) hm1) (by decide) rfl rfl) ?_))
  refine And.intro rfl (Exists.intro _ (And.intro (u_and (m := m1) (k := 3689348814741910323) hm1 (by decide) rfl rfl) ?_))
  refine And.intro rfl (Exists.intro _ (And.intro (u_add rfl rfl) ?_))
  obtain ⟨m2, em2⟩ : ∃ z, psS m1 2 3689348814741910323 = z := ⟨_, rfl⟩
  have hm2 : m2 < 18446744073709551616 := em2 ▸ Nat.mod_lt _ (by decide)
  rw [show (((m1 / 2 ^ 2 &&& 3689348814741910323) + (m1 &&& 3689348814741910323)) % 18446744073709551616) = m2 from em2]
  refine And.intro rfl (Exists.intro _ (And.intro (u_shr (m := m2) (d := 4) (by decide) rfl rfl) ?_))
  refine And.intro rfl (Exists.intro _ (And.intro (u_add (k := m2) rfl rfl) ?_))
  refine And.intro rfl (Exists.intro _ (And.intro (u_and (k := 1085102592571150095) (Nat.mod_lt _ (by decide)) (by decide) rfl rfl) ?_))
  obtain ⟨m3, em3⟩ : ∃ z, ps3 m2 = z := ⟨_, rfl⟩
  have hm3 : m3 < 18446744073709551616 := em3 ▸ Nat.lt_of_le_of_lt Nat.and_le_left (Nat.mod_lt _ (by decide))
  rw [show (((m2 / 2 ^ 4 + m2) % 18446744073709551616) &&& 1085102592571150095) = m3 from em3]
  refine And.intro rfl (Exists.intro _ (And.intro (u_shr (m := m3) (d := 8) (by decide) rfl rfl) ?_))
  refine And.intro rfl (Exists.intro _ (And.intro (u_add (m := m3) rfl rfl) ?_))
  obtain ⟨m4, em4⟩ : ∃ z, psA m3 8 = z := ⟨_, rfl⟩
  have hm4 : m4 < 18446744073709551616 := em4 ▸ Nat.mod_lt _ (by decide)
  rw [show ((m3 + m3 / 2 ^ 8) % 18446744073709551616) = m4 from em4]
  refine And.intro rfl (Exists.intro _ (And.intro (u_shr (m := m4) (d := 16) (by decide) rfl rfl) ?_))
  refine And.intro rfl (Exists.intro _ (And.intro (u_add (m := m4) rfl rfl) ?_))
  obtain ⟨m5, em5⟩ : ∃ z, psA m4 16 = z := ⟨_, rfl⟩
  have hm5 : m5 < 18446744073709551616 := em5 ▸ Nat.mod_lt _ (by decide)
  rw [show ((m4 + m4 / 2 ^ 16) % 18446744073709551616) = m5 from em5]
  refine And.intro rfl (Exists.intro _ (And.intro (u_shr (m := m5) (d := 32) (by decide) rfl rfl) ?_))
  refine And.intro rfl (Exists.intro _ (And.intro (u_add (m := m5) rfl rfl) ?_))
  obtain ⟨m6, em6⟩ : ∃ z, psA m5 32 = z := ⟨_, rfl⟩
  have hm6 : m6 < 18446744073709551616 := em6 ▸ Nat.mod_lt _ (by decide)
  rw [show ((m5 + m5 / 2 ^ 32) % 18446744073709551616) = m6 from em6]
  have e6 : popX m = m6 := by subst em1; subst em2; subst em3; subst em4; subst em5; exact em6
  rw [e6] at hp ⊢
  refine And.intro rfl (Exists.intro _ (And.intro (u_int hp rfl) ?_))
  refine And.intro rfl (Exists.intro _ (And.intro (i_and127 hp rfl) ?_))
  exact And.intro trivial (Exists.intro _ (And.intro rfl ⟨rfl, rfl⟩))
end
end Go.Ax

/-
  Late: sets of days: numbered, counted, listed (75, 76, 77, 54) (written by program).
-/
namespace Go.Ax
open Go Go.RowKit Go.Proofs

theorem revB_lt : ∀ (d m : Nat), revB d m < 2 ^ d
  | 0, _ => by simp [revB]
  | d + 1, m => by
    have ih := revB_lt d (m / 2)
    have h2 : m % 2 ≤ 1 := by omega
    have e : 2 ^ (d + 1) = 2 ^ d + 2 ^ d := by rw [Nat.pow_succ]; omega
    unfold revB
    have : m % 2 * 2 ^ d ≤ 1 * 2 ^ d := Nat.mul_le_mul_right _ h2
    omega
theorem pow12 {d : Nat} (h : d ≤ 12) : 2 ^ d ≤ 4096 := Nat.pow_le_pow_right (n := 2) (by decide) h
theorem set_lt {s d y : Nat} (hs : s + d ≤ 40) (hy : y < 2 ^ d) : y * 2 ^ s < 2 ^ 40 := by
  have h1 : y * 2 ^ s < 2 ^ d * 2 ^ s := Nat.mul_lt_mul_of_pos_right hy (Nat.pow_pos (by decide))
  rw [← Nat.pow_add] at h1
  exact Nat.lt_of_lt_of_le h1 (Nat.pow_le_pow_right (by decide) (by omega))
theorem cnt_le : ∀ (d m : Nat), cnt d m ≤ d
  | 0, _ => by simp [cnt]
  | d + 1, m => by have := cnt_le d (m / 2); unfold cnt; omega
theorem cnt_zero : ∀ (d : Nat), cnt d 0 = 0
  | 0 => rfl
  | d + 1 => by unfold cnt; simp [cnt_zero d]
theorem cnt_more : ∀ (d e m : Nat), m < 2 ^ d → cnt (d + e) m = cnt d m
  | 0, e, m, h => by
    have : m = 0 := by simpa using h
    subst this; rw [Nat.zero_add, cnt_zero]; rfl
  | d + 1, e, m, h => by
    have e1 : d + 1 + e = (d + e) + 1 := by omega
    rw [e1]
    unfold cnt
    rw [cnt_more d e (m / 2) (by rw [Nat.pow_succ] at h; omega)]
theorem testBit_set {y s i : Nat} : (y * 2 ^ s).testBit i = (decide (s ≤ i) && y.testBit (i - s)) := by
  rw [← Nat.shiftLeft_eq, Nat.testBit_shiftLeft]
/-- the days of a set, rising: those of its first d bits that are set -/
def bl : Nat → Nat → Int → List Int
  | 0, _, _ => []
  | d + 1, y, o => bif decide (y % 2 = 1) then o :: bl d (y / 2) (o + 1) else bl d (y / 2) (o + 1)
theorem bl_len : ∀ (d y : Nat) (o : Int), (bl d y o).length = cnt d y
  | 0, _, _ => rfl
  | d + 1, y, o => by
    unfold bl cnt
    by_cases h : y % 2 = 1
    · rw [decide_eq_true h]; simp only [cond_true, List.length_cons, bl_len d]; omega
    · rw [decide_eq_false h]; simp only [cond_false, bl_len d]; omega
theorem bl_in : ∀ (d y : Nat) (o : Int), ∀ x ∈ bl d y o, o ≤ x ∧ x < o + d
  | 0, _, _, x, h => by simp [bl] at h
  | d + 1, y, o, x, h => by
    unfold bl at h
    cases hb : decide (y % 2 = 1) with
    | true =>
      rw [hb] at h
      simp only [cond_true, List.mem_cons] at h
      rcases h with rfl | h
      · omega
      · have := bl_in d (y / 2) (o + 1) x h; omega
    | false =>
      rw [hb] at h
      simp only [cond_false] at h
      have := bl_in d (y / 2) (o + 1) x h; omega
theorem bl_set : ∀ (d y : Nat) (o e n : Int), o + d ≤ e → n ≤ o → setB n e (bl d y o) = true
  | 0, _, _, _, _, _, _ => rfl
  | d + 1, y, o, e, n, h, hn => by
    unfold bl
    cases hb : decide (y % 2 = 1) with
    | true =>
      simp only [cond_true, setB]
      rw [bl_set d (y / 2) (o + 1) e (o + 1) (by omega) (Int.le_refl _), decide_eq_true (by omega), decide_eq_true (by omega)]; rfl
    | false =>
      simp only [cond_false]
      exact bl_set d (y / 2) (o + 1) e n (by omega) (by omega)
theorem bl_mem : ∀ (d y : Nat) (o x : Int), (bl d y o).contains x = true ↔ ∃ i, i < d ∧ y.testBit i = true ∧ x = o + (i : Int)
  | 0, _, _, x => by simp [bl]
  | d + 1, y, o, x => by
    have ih := bl_mem d (y / 2) (o + 1) x
    unfold bl
    constructor
    · intro h
      cases hb : decide (y % 2 = 1) with
      | true =>
        rw [hb] at h
        simp only [cond_true, List.contains_cons, Bool.or_eq_true, beq_iff_eq] at h
        rcases h with h | h
        · exact ⟨0, by omega, by rw [Nat.testBit_zero]; exact hb, by omega⟩
        · obtain ⟨i, h1, h2, h3⟩ := ih.1 h
          exact ⟨i + 1, by omega, by rw [Nat.testBit_succ]; exact h2, by omega⟩
      | false =>
        rw [hb] at h
        simp only [cond_false] at h
        obtain ⟨i, h1, h2, h3⟩ := ih.1 h
        exact ⟨i + 1, by omega, by rw [Nat.testBit_succ]; exact h2, by omega⟩
    · rintro ⟨i, h1, h2, h3⟩
      cases i with
      | zero =>
        rw [Nat.testBit_zero] at h2
        rw [h2]
        simp only [cond_true, List.contains_cons, Bool.or_eq_true, beq_iff_eq]
        left; omega
      | succ i =>
        rw [Nat.testBit_succ] at h2
        have := ih.2 ⟨i, by omega, h2, by omega⟩
        cases hb : decide (y % 2 = 1) with
        | true => simp only [cond_true, List.contains_cons, this, Bool.or_true]
        | false => simp only [cond_false, this]
theorem bl_step : ∀ (d y : Nat) (o : Int), bl (d + 1) y o = bl d y o ++ (bif y.testBit d then [o + (d : Int)] else [])
  | 0, y, o => by
    unfold bl
    rw [Nat.testBit_zero]
    simp [bl]
  | d + 1, y, o => by
    have ih := bl_step d (y / 2) (o + 1)
    have e : o + 1 + (d : Int) = o + ((d + 1 : Nat) : Int) := by omega
    rw [bl, ih]
    rw [show bl (d + 1) y o = bif decide (y % 2 = 1) then o :: bl d (y / 2) (o + 1) else bl d (y / 2) (o + 1) from rfl, Nat.testBit_succ, e]
    cases decide (y % 2 = 1) <;> simp
/-- the days that are the bits of a set -/
theorem bl_mask {s d y : Nat} (hy : y < 2 ^ d) (i : Nat) : (dayMask (bl d y (s : Int))).testBit i = (y * 2 ^ s).testBit i := by
  rw [dayMask_has (fun x hx => by have := bl_in d y s x hx; omega), testBit_set, Bool.eq_iff_iff, bl_mem]
  simp only [Bool.and_eq_true, decide_eq_true_eq]
  constructor
  · rintro ⟨j, h1, h2, h3⟩
    have : i = s + j := by omega
    subst this
    exact ⟨by omega, by rw [Nat.add_sub_cancel_left]; exact h2⟩
  · rintro ⟨h1, h2⟩
    refine ⟨i - s, ?_, h2, by omega⟩
    rcases Nat.lt_or_ge (i - s) d with q | q
    · exact q
    · rw [Nat.testBit_lt_two_pow (Nat.lt_of_lt_of_le hy (Nat.pow_le_pow_right (by decide) q))] at h2; cases h2
theorem revB_rev : ∀ (d m : Nat), m < 2 ^ d → revB d (revB d m) = m
  | 0, m, h => by
    have : m = 0 := by simpa using h
    subst this; rfl
  | d + 1, m, h => revB_rev' d m h
where
  revB_bit : ∀ (d m i : Nat), i < d → (revB d m).testBit i = m.testBit (d - 1 - i)
    | 0, _, _, h => absurd h (Nat.not_lt_zero _)
    | d + 1, m, i, h => by
      have hl := revB_lt d (m / 2)
      unfold revB
      have hm2 : m % 2 < 2 := Nat.mod_lt _ (by decide)
      rw [Nat.mul_comm, Nat.testBit_two_pow_mul_add _ hl]
      rcases Nat.lt_or_ge i d with q | q
      · rw [if_pos q, revB_bit d (m / 2) i q, show d + 1 - 1 - i = (d - 1 - i) + 1 by omega, Nat.testBit_succ]
      · have : i = d := by omega
        subst this
        rw [if_neg (by omega), Nat.sub_self, show i + 1 - 1 - i = 0 by omega, Nat.testBit_zero, Nat.testBit_zero]
        congr 1
        have : m % 2 % 2 = m % 2 := by omega
        rw [this]
  revB_rev' (d m : Nat) (h : m < 2 ^ (d + 1)) : revB (d + 1) (revB (d + 1) m) = m := by
    refine Nat.eq_of_testBit_eq fun i => ?_
    rcases Nat.lt_or_ge i (d + 1) with q | q
    · rw [revB_bit _ _ _ q, revB_bit _ _ _ (by omega)]
      congr 1; omega
    · rw [Nat.testBit_lt_two_pow (Nat.lt_of_lt_of_le (revB_lt _ _) (Nat.pow_le_pow_right (by decide) q)), Nat.testBit_lt_two_pow (Nat.lt_of_lt_of_le h (Nat.pow_le_pow_right (by decide) q))]
theorem bl_more : ∀ (d e y : Nat) (o : Int), y < 2 ^ d → bl (d + e) y o = bl d y o
  | 0, 0, _, _, _ => rfl
  | 0, e + 1, y, o, h => by
    have : y = 0 := by simpa using h
    subst this
    have ih := bl_more 0 e 0 (o + 1) (by simp)
    rw [show (0 : Nat) + (e + 1) = (0 + e) + 1 by omega]
    unfold bl
    rw [show (0 : Nat) / 2 = 0 from rfl, ih]
    simp [bl]
  | d + 1, e, y, o, h => by
    have ih := bl_more d e (y / 2) (o + 1) (by rw [Nat.pow_succ] at h; omega)
    rw [show d + 1 + e = (d + e) + 1 by omega]
    unfold bl
    rw [ih]
theorem bl_shift : ∀ (s d y : Nat) (o : Int), bl (s + d) (y * 2 ^ s) o = bl d y (o + (s : Int))
  | 0, d, y, o => by simp
  | s + 1, d, y, o => by
    have ih := bl_shift s d y (o + 1)
    have e1 : y * 2 ^ (s + 1) = y * 2 ^ s * 2 := by rw [Nat.pow_succ]; exact (Nat.mul_assoc _ _ _).symm
    rw [show s + 1 + d = (s + d) + 1 by omega, e1]
    rw [show bl (s + d + 1) (y * 2 ^ s * 2) o = bif decide (y * 2 ^ s * 2 % 2 = 1) then o :: bl (s + d) (y * 2 ^ s * 2 / 2) (o + 1) else bl (s + d) (y * 2 ^ s * 2 / 2) (o + 1) from rfl]
    rw [decide_eq_false (by omega), cond_false, Nat.mul_div_cancel _ (by decide), ih]
    congr 1; omega
theorem bl_all {s d y L : Nat} (hy : y < 2 ^ d) (hL : y * 2 ^ s < 2 ^ L) : bl L (y * 2 ^ s) 0 = bl d y (s : Int) := by
  have h2 : y * 2 ^ s < 2 ^ (s + d) := by
    rw [Nat.pow_add, Nat.mul_comm (2 ^ s)]; exact Nat.mul_lt_mul_of_pos_right hy (Nat.pow_pos (by decide))
  have e1 := bl_more L (s + d) (y * 2 ^ s) 0 hL
  have e2 := bl_more (s + d) L (y * 2 ^ s) 0 h2
  rw [← e1, show L + (s + d) = s + d + L by omega, e2, bl_shift, Int.zero_add]
/-- the order of sets of one size: the greater number, turned round, is that of the first list -/
theorem bl_lex : ∀ (d y z : Nat) (o : Int), cnt d y = cnt d z → revB d y ≤ revB d z → ∀ p : Nat, (∀ q, q < p → (bl d z o)[q]? = (bl d y o)[q]?) → (bl d z o)[p]? ≠ (bl d y o)[p]? → ∃ a b, (bl d z o)[p]? = some a ∧ (bl d y o)[p]? = some b ∧ a < b
  | 0, y, z, o, _, _, p, _, h => absurd rfl h
  | d + 1, y, z, o, hc, hr, p, hq, hp => by
    have ih := bl_lex d (y / 2) (z / 2) (o + 1)
    have l1 := revB_lt d (y / 2); have l2 := revB_lt d (z / 2)
    have ey : bl (d + 1) y o = bif decide (y % 2 = 1) then o :: bl d (y / 2) (o + 1) else bl d (y / 2) (o + 1) := rfl
    have ez : bl (d + 1) z o = bif decide (z % 2 = 1) then o :: bl d (z / 2) (o + 1) else bl d (z / 2) (o + 1) := rfl
    have cy : cnt (d + 1) y = y % 2 + cnt d (y / 2) := rfl
    have cz : cnt (d + 1) z = z % 2 + cnt d (z / 2) := rfl
    have ry : revB (d + 1) y = (y % 2) * 2 ^ d + revB d (y / 2) := rfl
    have rz : revB (d + 1) z = (z % 2) * 2 ^ d + revB d (z / 2) := rfl
    rw [cy, cz] at hc
    rw [ry, rz] at hr
    rw [ey, ez] at hq hp ⊢
    rcases Nat.mod_two_eq_zero_or_one y with hy | hy <;> rcases Nat.mod_two_eq_zero_or_one z with hz | hz
    · rw [show decide (y % 2 = 1) = false by rw [hy]; rfl, show decide (z % 2 = 1) = false by rw [hz]; rfl] at hq hp ⊢
      simp only [cond_false] at hq hp ⊢
      rw [hy, hz] at hc hr
      exact ih (by omega) (by omega) p hq hp
    · rw [show decide (y % 2 = 1) = false by rw [hy]; rfl, show decide (z % 2 = 1) = true by rw [hz]; rfl] at hq hp ⊢
      simp only [cond_false, cond_true] at hq hp ⊢
      rw [hy, hz] at hc hr
      have hlen : 0 < (bl d (y / 2) (o + 1)).length := by rw [bl_len]; omega
      obtain ⟨b, hb⟩ := get_some (l := bl d (y / 2) (o + 1)) (i := 0) hlen
      have hbo := bl_in d (y / 2) (o + 1) b (List.mem_of_getElem? hb)
      cases p with
      | zero => exact ⟨o, b, rfl, hb, by omega⟩
      | succ p =>
        have := hq 0 (by omega)
        rw [hb] at this
        simp at this
        omega
    · rw [hy, hz] at hr
      simp only [Nat.zero_mul, Nat.zero_add, Nat.one_mul] at hr
      omega
    · rw [show decide (y % 2 = 1) = true by rw [hy]; rfl, show decide (z % 2 = 1) = true by rw [hz]; rfl] at hq hp ⊢
      simp only [cond_true] at hq hp ⊢
      rw [hy, hz] at hc hr
      cases p with
      | zero => exact absurd rfl hp
      | succ p =>
        simp only [List.getElem?_cons_succ] at hp ⊢
        exact ih (by omega) (by omega) p (fun q hq' => by have := hq (q + 1) (by omega); simpa using this) hp
def tabL : List Nat := [0, 1, 2, 2, 3, 3, 3, 3, 4, 4, 4, 4, 4, 4, 4, 4, 5, 5, 5, 5, 5, 5, 5, 5, 5, 5, 5, 5, 5, 5, 5, 5, 6, 6, 6, 6, 6, 6, 6, 6, 6, 6, 6, 6, 6, 6, 6, 6, 6, 6, 6, 6, 6, 6, 6, 6, 6, 6, 6, 6, 6, 6, 6, 6, 7, 7, 7, 7, 7, 7, 7, 7, 7, 7, 7, 7, 7, 7, 7, 7, 7, 7, 7, 7, 7, 7, 7, 7, 7, 7, 7, 7, 7, 7, 7, 7, 7, 7, 7, 7, 7, 7, 7, 7, 7, 7, 7, 7, 7, 7, 7, 7, 7, 7, 7, 7, 7, 7, 7, 7, 7, 7, 7, 7, 7, 7, 7, 7, 8, 8, 8, 8, 8, 8, 8, 8, 8, 8, 8, 8, 8, 8, 8, 8, 8, 8, 8, 8, 8, 8, 8, 8, 8, 8, 8, 8, 8, 8, 8, 8, 8, 8, 8, 8, 8, 8, 8, 8, 8, 8, 8, 8, 8, 8, 8, 8, 8, 8, 8, 8, 8, 8, 8, 8, 8, 8, 8, 8, 8, 8, 8, 8, 8, 8, 8, 8, 8, 8, 8, 8, 8, 8, 8, 8, 8, 8, 8, 8, 8, 8, 8, 8, 8, 8, 8, 8, 8, 8, 8, 8, 8, 8, 8, 8, 8, 8, 8, 8, 8, 8, 8, 8, 8, 8, 8, 8, 8, 8, 8, 8, 8, 8, 8, 8, 8, 8, 8, 8, 8, 8, 8, 8, 8, 8, 8, 8]
def chkL : Nat → Bool
  | 0 => true
  | m + 1 => Nat.ble (m + 1) (2 ^ tabL.getD m 0) && Nat.ble (tabL.getD m 0) 8 && chkL m
theorem chkL_all : chkL 256 = true := by kernel_rfl
theorem chkL_at : ∀ {n m : Nat}, chkL n = true → m < n → m < 2 ^ tabL.getD m 0 ∧ tabL.getD m 0 ≤ 8
  | 0, m, _, h => absurd h (Nat.not_lt_zero m)
  | n + 1, m, hc, h => by
    simp only [chkL, Bool.and_eq_true] at hc
    rcases Nat.lt_or_ge m n with q | q
    · exact chkL_at hc.2 q
    · have : m = n := by omega
      subst this; exact ⟨Nat.le_of_ble_eq_true hc.1.1, Nat.le_of_ble_eq_true hc.1.2⟩
noncomputable abbrev tabO : Operand := (.const (.string (.mk (List.toArray [0, 1, 2, 2, 3, 3, 3, 3, 4, 4, 4, 4, 4, 4, 4, 4, 5, 5, 5, 5, 5, 5, 5, 5, 5, 5, 5, 5, 5, 5, 5, 5, 6, 6, 6, 6, 6, 6, 6, 6, 6, 6, 6, 6, 6, 6, 6, 6, 6, 6, 6, 6, 6, 6, 6, 6, 6, 6, 6, 6, 6, 6, 6, 6, 7, 7, 7, 7, 7, 7, 7, 7, 7, 7, 7, 7, 7, 7, 7, 7, 7, 7, 7, 7, 7, 7, 7, 7, 7, 7, 7, 7, 7, 7, 7, 7, 7, 7, 7, 7, 7, 7, 7, 7, 7, 7, 7, 7, 7, 7, 7, 7, 7, 7, 7, 7, 7, 7, 7, 7, 7, 7, 7, 7, 7, 7, 7, 7, 8, 8, 8, 8, 8, 8, 8, 8, 8, 8, 8, 8, 8, 8, 8, 8, 8, 8, 8, 8, 8, 8, 8, 8, 8, 8, 8, 8, 8, 8, 8, 8, 8, 8, 8, 8, 8, 8, 8, 8, 8, 8, 8, 8, 8, 8, 8, 8, 8, 8, 8, 8, 8, 8, 8, 8, 8, 8, 8, 8, 8, 8, 8, 8, 8, 8, 8, 8, 8, 8, 8, 8, 8, 8, 8, 8, 8, 8, 8, 8, 8, 8, 8, 8, 8, 8, 8, 8, 8, 8, 8, 8, 8, 8, 8, 8, 8, 8, 8, 8, 8, 8, 8, 8, 8, 8, 8, 8, 8, 8, 8, 8, 8, 8, 8, 8, 8, 8, 8, 8, 8, 8, 8, 8, 8, 8, 8, 8]))))
noncomputable def tabV : Value := match tabO with | .const v => v | _ => .bool false
noncomputable def okI (b : Nat) : Bool := match prun Try.prog (Instr.index 9 tabV (.int .u8 (b : Int))) with
  | some (.int .u8 (.ofNat z)) => Nat.beq z (tabL.getD b 0)
  | _ => false
def allN (f : Nat → Bool) : Nat → Bool
  | 0 => true
  | m + 1 => f m && allN f m
theorem allN_at {f : Nat → Bool} : ∀ {n m : Nat}, allN f n = true → m < n → f m = true
  | 0, m, _, h => absurd h (Nat.not_lt_zero m)
  | n + 1, m, hc, h => by
    simp only [allN, Bool.and_eq_true] at hc
    rcases Nat.lt_or_ge m n with q | q
    · exact allN_at hc.2 q
    · have : m = n := by omega
      subst this; exact hc.1
theorem chkI_all : allN okI 256 = true := by kernel_rfl
theorem idx_tab {b : Nat} (hb : b < 256) : prun Try.prog (Instr.index 9 tabV (.int .u8 (b : Int))) = some (.int .u8 ((tabL.getD b 0 : Nat) : Int)) := by
  have h := allN_at chkI_all hb
  unfold okI at h
  split at h
  · rename_i z e
    rw [e, Nat.eq_of_beq_eq_true h]; rfl
  · cases h
end Go.Ax

/-
  Late: sets of days: numbered, counted, listed (75, 76, 77, 54) (written by program).
-/
namespace Go.Ax
open Go Go.RowKit Go.Proofs

section
variable {n : Nat} {S : Rg} {x y : Operand} {o : Option Tmp}
theorem u_geq {m k : Nat} (hx : evS S x = some (.int .u64 (m : Int))) (hy : evS S y = some (.int .u64 (k : Int))) : pureOp Try.prog (frS n S) ⟨o, .binOp .geq 62 x y 62, 4, "", #[], none⟩ = some (.bool (decide (m ≥ k))) := by
  have e : prun Try.prog (do eqGuard .geq 62 x y (.int .u64 (m : Int)) (.int .u64 (k : Int)); binOp .geq 62 (.int .u64 (m : Int)) (.int .u64 (k : Int))) = some (.bool (decide ((m : Int) ≥ (k : Int)))) := rfl
  unfold pureOp
  simp only [ev_frS, hx, hy, flat, flat1, Bool.and_self, cond_true, e]
  congr 2
  exact decide_eq_decide.2 (by omega)
theorem u_u8 {m : Nat} (hm : m < 256) (hx : evS S x = some (.int .u64 (m : Int))) : pureOp Try.prog (frS n S) ⟨o, .convert 62 5 x, 5, "", #[], none⟩ = some (.int .u8 (m : Int)) := by
  have e : ∀ z : Int, prun Try.prog (Go.convert 62 5 (.int .u64 z)) = some (.int .u8 (IntKind.u8.wrap z)) := fun z => by kernel_rfl
  have w : IntKind.u8.wrap (m : Int) = (m : Int) := by
    unfold IntKind.wrap IntKind.bits IntKind.signed
    simp
    omega
  unfold pureOp
  simp only [ev_frS, hx, e, w]
  rfl
theorem u8_int {m : Nat} (hm : m < 256) (hx : evS S x = some (.int .u8 (m : Int))) : pureOp Try.prog (frS n S) ⟨o, .convert 5 3 x, 3, "", #[], none⟩ = some (iv (m : Int)) := conv_8 (m : Int) ⟨by omega, by omega⟩ hx
theorem u_shri64 {m d : Nat} (h : d ≤ 64) (hx : evS S x = some (.int .u64 (m : Int))) {j : Int} (hy : evS S y = some (iv j)) (hj : j = (d : Int)) : pureOp Try.prog (frS n S) ⟨o, .binOp .shr 62 x y 3, 62, "", #[], none⟩ = some (.int .u64 ((m / 2 ^ d : Nat) : Int)) := by
  subst hj
  have e : prun Try.prog (do eqGuard .shr 62 x y (.int .u64 (m : Int)) (.int .i64 (d : Int)); binOp .shr 62 (.int .u64 (m : Int)) (.int .i64 (d : Int))) = some (.int .u64 ((m / 2 ^ d : Nat) : Int)) := by
    show prun Try.prog (Op.shift .shr .u64 (m : Int) .i64 (d : Int)) = _
    unfold Op.shift
    rw [if_neg (by omega)]
    show some (Value.int .u64 ((m : Int).fdiv (2 ^ min d 64))) = _
    rw [Nat.min_eq_left h, Int.fdiv_eq_ediv_of_nonneg _ (by exact Int.le_of_lt (Int.pow_pos (by decide)))]
    congr 2
  unfold pureOp
  simp only [ev_frS, hx, hy, flat, flat1, Bool.and_self, cond_true, e]
theorem und9 : Try.prog.underlying 9 = some .string := by kernel_rfl
theorem idx_ok {b : Nat} (hb : b < 256) (hy : evS S y = some (.int .u8 (b : Int))) : pureOp Try.prog (frS n S) ⟨o, .index 9 tabO y, 5, "", #[], none⟩ = some (.int .u8 ((tabL.getD b 0 : Nat) : Int)) := by
  have hx : evS S tabO = some tabV := rfl
  have hf : flat tabV = true := rfl
  unfold pureOp
  simp only [ev_frS, hx, hy, und9, hf, show ∀ z : Int, flat (Value.int .u8 z) = true from fun z => rfl, Bool.and_self, cond_true, idx_tab hb]
end
section
variable {kn : FuncId → Option Bool} {lo : Nat} {H : Hp}
theorem numbered_ok {s d m : Nat} {mv : Int} (hmv : mv = (m : Int)) (hd : d ≤ 12) (hs : s + d ≤ 40) (hm : m < 2 ^ d) :
    ∃ H', FnX Try.prog kn lo 75 [.agg #[iv (s : Int), iv (d : Int)], iv mv] H (.int .u64 ((revB d m * 2 ^ s : Nat) : Int)) H' ∧ Keep H H' [] := by
  have key := fnX_low (kn := kn) (lo := lo) (H := H) (args := [.agg #[iv (s : Int), iv (d : Int)], iv mv]) (Q := fun w H' => w = .int .u64 ((revB d m * 2 ^ s : Nat) : Int) ∧ Keep H H' []) Try.func75 B75 N75 Z75 L75 (by simp) ?_
  · obtain ⟨w, H', h, rfl, q⟩ := key; exact ⟨H', h, q⟩
  have hk := Keep.refl H []
  have h12 := pow12 hd
  have hm64 : m < 18446744073709551616 := by omega
  have hlt : revB d m * 2 ^ s < 18446744073709551616 := by have := set_lt hs (revB_lt d m); omega
  intro H1 hH1; obtain ⟨kH1, nH1, c1⟩ := new_facts hH1; clear hH1
  have mH1 := kH1.1
  have hk := hk.trans kH1
  have c1 : Cl H1 H.next [iv (s : Int), iv (d : Int)] := c1
  refine wD_seq ?_
  refine wD_mov (v := iv mv) rfl ?_
  refine wD_pur (v := .int .u64 (m : Int)) rfl (i_u64 hm64 rfl hmv) ?_
  refine wD_callh (vs := [.int .u64 (m : Int)]) rfl (by kernel_rfl) (callX_args (rev83_ok hm64)) ?_
  refine wD_addo (b := H.next) (o := 0) rfl ?_
  refine wD_ld (b := H.next) (o := 1) (v := iv (d : Int)) rfl c1.rd rfl ?_
  refine wD_sub (a := 64) (b := (d : Int)) rfl rfl ⟨by omega, by omega⟩ ?_
  refine wD_pur (v := .int .u64 ((rev64 m / 2 ^ (64 - d) : Nat) : Int)) rfl (u_shri64 (by omega) rfl rfl (by omega)) ?_
  refine wD_addo (b := H.next) (o := 0) rfl ?_
  refine wD_ld (b := H.next) (o := 0) (v := iv (s : Int)) rfl c1.rd rfl ?_
  refine wD_pur (v := .int .u64 ((rev64 m / 2 ^ (64 - d) * 2 ^ s % 18446744073709551616 : Nat) : Int)) rfl (u_shli (by omega) rfl rfl) ?_
  refine wD_mov (v := .int .u64 ((rev64 m / 2 ^ (64 - d) * 2 ^ s % 18446744073709551616 : Nat) : Int)) rfl ?_
  refine wD_end (by repeat' first | exact True.intro | exact (fun h => h) | refine And.intro ?_ ?_ | (intro h; have h : (_ : Nat) = _ := h; omega)) ?_
  exact And.intro trivial (Exists.intro _ (And.intro rfl ⟨by rw [rev_at hd hm, Nat.mod_eq_of_lt hlt]; rfl, hk⟩))
theorem size_ok {s d y : Nat} (hd : d ≤ 12) (hs : s + d ≤ 40) (hy : y < 2 ^ d) : FnX Try.prog kn lo 76 [.int .u64 ((y * 2 ^ s : Nat) : Int)] H (iv ((cnt d y : Nat) : Int)) H := by
  have key := fnX_low (kn := kn) (lo := lo) (H := H) (args := [.int .u64 ((y * 2 ^ s : Nat) : Int)]) (Q := fun w H' => w = iv ((cnt d y : Nat) : Int) ∧ H' = H) Try.func76 B76 N76 Z76 L76 (by simp) ?_
  · obtain ⟨v, H', h, rfl, rfl⟩ := key; exact h
  have hp := pop_at hs hd hy
  have hlt : y * 2 ^ s < 18446744073709551616 := by have := set_lt hs hy; omega
  have e : cnt 12 y = cnt d y := by have := cnt_more d (12 - d) y hy; rwa [show d + (12 - d) = 12 by omega] at this
  refine Exists.intro _ (Exists.intro _ (And.intro (callX_args (pop84_ok hlt hp.1)) ?_))
  exact And.intro trivial (Exists.intro _ (And.intro rfl ⟨by rw [hp.2, e]; rfl, rfl⟩))
theorem len_ok {x : Nat} (hx : x < 2 ^ 40) : ∃ L : Nat, FnX Try.prog kn lo 77 [.int .u64 (x : Int)] H (iv (L : Int)) H ∧ x < 2 ^ L ∧ L ≤ 64 := by
  have key := fnX_low (kn := kn) (lo := lo) (H := H) (args := [.int .u64 (x : Int)]) (Q := fun w H' => ∃ L : Nat, w = iv (L : Int) ∧ H' = H ∧ x < 2 ^ L ∧ L ≤ 64) Try.func77 B77 N77 Z77 L77 (by simp) ?_
  · obtain ⟨v, H', h, L, rfl, rfl, q⟩ := key; exact ⟨L, h, q⟩
  have hk := Keep.refl H []
  have hx40 : x < 1099511627776 := hx
  refine And.intro rfl (Exists.intro (.bool (decide (x ≥ 4294967296))) (And.intro (u_geq rfl rfl) ?_))
  refine And.intro (fun q1 => ?_) (fun q1 => ?_)
  · have q1 : x ≥ 4294967296 := of_decide_eq_true q1
    refine And.intro rfl (Exists.intro _ (And.intro (u_shr (m := x) (d := 32) (by decide) rfl rfl) ?_))
    obtain ⟨x32, ex32⟩ : ∃ z, x / 2 ^ 32 = z := ⟨_, rfl⟩
    rw [ex32]
    have fx32 : x / 4294967296 = x32 := ex32
    clear ex32
    refine And.intro rfl (Exists.intro (.bool (decide (x32 ≥ 65536))) (And.intro (u_geq rfl rfl) ?_))
    refine And.intro (fun q2 => ?_) (fun q2 => ?_)
    · have q2 : x32 ≥ 65536 := of_decide_eq_true q2
      refine And.intro rfl (Exists.intro _ (And.intro (u_shr (m := x32) (d := 16) (by decide) rfl rfl) ?_))
      obtain ⟨x16, ex16⟩ : ∃ z, x32 / 2 ^ 16 = z := ⟨_, rfl⟩
      rw [ex16]
      have fx16 : x32 / 65536 = x16 := ex16
      clear ex16
      refine And.intro (show InR (32 + 16) from ⟨by omega, by omega⟩) ?_
      refine And.intro rfl (Exists.intro (.bool (decide (x16 ≥ 256))) (And.intro (u_geq rfl rfl) ?_))
      refine And.intro (fun q3 => ?_) (fun q3 => ?_)
      · have q3 : x16 ≥ 256 := of_decide_eq_true q3
        refine And.intro rfl (Exists.intro _ (And.intro (u_shr (m := x16) (d := 8) (by decide) rfl rfl) ?_))
        obtain ⟨x8, ex8⟩ : ∃ z, x16 / 2 ^ 8 = z := ⟨_, rfl⟩
        rw [ex8]
        have fx8 : x16 / 256 = x8 := ex8
        clear ex8
        refine And.intro (show InR ((32 + 16) + 8) from ⟨by omega, by omega⟩) ?_
        have hx8 : x8 < 256 := by omega
        refine And.intro rfl (Exists.intro _ (And.intro (u_u8 hx8 rfl) ?_))
        have htab := chkL_at chkL_all hx8
        refine And.intro rfl (Exists.intro _ (And.intro (idx_ok hx8 rfl) ?_))
        generalize tabL.getD x8 0 = tb at htab ⊢
        refine And.intro rfl (Exists.intro _ (And.intro (u8_int (by omega) rfl) ?_))
        refine And.intro (show InR (((32 + 16) + 8) + (tb : Int)) from ⟨by omega, by omega⟩) ?_
        refine And.intro trivial (Exists.intro _ (And.intro rfl ⟨56 + tb, by show iv _ = _; congr 1 <;> omega, rfl, ?_, by omega⟩))
        have b1 : (x8 + 1) * 72057594037927936 ≤ 2 ^ tb * 72057594037927936 := Nat.mul_le_mul_right _ htab.1
        rw [Nat.pow_add, Nat.mul_comm]
        refine Nat.lt_of_lt_of_le (show x < (x8 + 1) * 72057594037927936 by omega) b1
      · have q3 : ¬ (x16 ≥ 256) := of_decide_eq_false q3
        have hx8 : x16 < 256 := by omega
        refine And.intro rfl (Exists.intro _ (And.intro (u_u8 hx8 rfl) ?_))
        have htab := chkL_at chkL_all hx8
        refine And.intro rfl (Exists.intro _ (And.intro (idx_ok hx8 rfl) ?_))
        generalize tabL.getD x16 0 = tb at htab ⊢
        refine And.intro rfl (Exists.intro _ (And.intro (u8_int (by omega) rfl) ?_))
        refine And.intro (show InR ((32 + 16) + (tb : Int)) from ⟨by omega, by omega⟩) ?_
        refine And.intro trivial (Exists.intro _ (And.intro rfl ⟨48 + tb, by show iv _ = _; congr 1 <;> omega, rfl, ?_, by omega⟩))
        have b1 : (x16 + 1) * 281474976710656 ≤ 2 ^ tb * 281474976710656 := Nat.mul_le_mul_right _ htab.1
        rw [Nat.pow_add, Nat.mul_comm]
        refine Nat.lt_of_lt_of_le (show x < (x16 + 1) * 281474976710656 by omega) b1
    · have q2 : ¬ (x32 ≥ 65536) := of_decide_eq_false q2
      refine And.intro rfl (Exists.intro (.bool (decide (x32 ≥ 256))) (And.intro (u_geq rfl rfl) ?_))
      refine And.intro (fun q4 => ?_) (fun q4 => ?_)
      · have q4 : x32 ≥ 256 := of_decide_eq_true q4
        refine And.intro rfl (Exists.intro _ (And.intro (u_shr (m := x32) (d := 8) (by decide) rfl rfl) ?_))
        obtain ⟨x8, ex8⟩ : ∃ z, x32 / 2 ^ 8 = z := ⟨_, rfl⟩
        rw [ex8]
        have fx8 : x32 / 256 = x8 := ex8
        clear ex8
        refine And.intro (show InR (32 + 8) from ⟨by omega, by omega⟩) ?_
        have hx8 : x8 < 256 := by omega
        refine And.intro rfl (Exists.intro _ (And.intro (u_u8 hx8 rfl) ?_))
        have htab := chkL_at chkL_all hx8
        refine And.intro rfl (Exists.intro _ (And.intro (idx_ok hx8 rfl) ?_))
        generalize tabL.getD x8 0 = tb at htab ⊢
        refine And.intro rfl (Exists.intro _ (And.intro (u8_int (by omega) rfl) ?_))
        refine And.intro (show InR ((32 + 8) + (tb : Int)) from ⟨by omega, by omega⟩) ?_
        refine And.intro trivial (Exists.intro _ (And.intro rfl ⟨40 + tb, by show iv _ = _; congr 1 <;> omega, rfl, ?_, by omega⟩))
        have b1 : (x8 + 1) * 1099511627776 ≤ 2 ^ tb * 1099511627776 := Nat.mul_le_mul_right _ htab.1
        rw [Nat.pow_add, Nat.mul_comm]
        refine Nat.lt_of_lt_of_le (show x < (x8 + 1) * 1099511627776 by omega) b1
      · have q4 : ¬ (x32 ≥ 256) := of_decide_eq_false q4
        have hx8 : x32 < 256 := by omega
        refine And.intro rfl (Exists.intro _ (And.intro (u_u8 hx8 rfl) ?_))
        have htab := chkL_at chkL_all hx8
        refine And.intro rfl (Exists.intro _ (And.intro (idx_ok hx8 rfl) ?_))
        generalize tabL.getD x32 0 = tb at htab ⊢
        refine And.intro rfl (Exists.intro _ (And.intro (u8_int (by omega) rfl) ?_))
        refine And.intro (show InR (32 + (tb : Int)) from ⟨by omega, by omega⟩) ?_
        refine And.intro trivial (Exists.intro _ (And.intro rfl ⟨32 + tb, by show iv _ = _; congr 1 <;> omega, rfl, ?_, by omega⟩))
        have b1 : (x32 + 1) * 4294967296 ≤ 2 ^ tb * 4294967296 := Nat.mul_le_mul_right _ htab.1
        rw [Nat.pow_add, Nat.mul_comm]
        refine Nat.lt_of_lt_of_le (show x < (x32 + 1) * 4294967296 by omega) b1
  · have q1 : ¬ (x ≥ 4294967296) := of_decide_eq_false q1
    refine And.intro rfl (Exists.intro (.bool (decide (x ≥ 65536))) (And.intro (u_geq rfl rfl) ?_))
    refine And.intro (fun q5 => ?_) (fun q5 => ?_)
    · have q5 : x ≥ 65536 := of_decide_eq_true q5
      refine And.intro rfl (Exists.intro _ (And.intro (u_shr (m := x) (d := 16) (by decide) rfl rfl) ?_))
      obtain ⟨x16, ex16⟩ : ∃ z, x / 2 ^ 16 = z := ⟨_, rfl⟩
      rw [ex16]
      have fx16 : x / 65536 = x16 := ex16
      clear ex16
      refine And.intro (show InR (0 + 16) from ⟨by omega, by omega⟩) ?_
      refine And.intro rfl (Exists.intro (.bool (decide (x16 ≥ 256))) (And.intro (u_geq rfl rfl) ?_))
      refine And.intro (fun q6 => ?_) (fun q6 => ?_)
      · have q6 : x16 ≥ 256 := of_decide_eq_true q6
        refine And.intro rfl (Exists.intro _ (And.intro (u_shr (m := x16) (d := 8) (by decide) rfl rfl) ?_))
        obtain ⟨x8, ex8⟩ : ∃ z, x16 / 2 ^ 8 = z := ⟨_, rfl⟩
        rw [ex8]
        have fx8 : x16 / 256 = x8 := ex8
        clear ex8
        refine And.intro (show InR ((0 + 16) + 8) from ⟨by omega, by omega⟩) ?_
        have hx8 : x8 < 256 := by omega
        refine And.intro rfl (Exists.intro _ (And.intro (u_u8 hx8 rfl) ?_))
        have htab := chkL_at chkL_all hx8
        refine And.intro rfl (Exists.intro _ (And.intro (idx_ok hx8 rfl) ?_))
        generalize tabL.getD x8 0 = tb at htab ⊢
        refine And.intro rfl (Exists.intro _ (And.intro (u8_int (by omega) rfl) ?_))
        refine And.intro (show InR (((0 + 16) + 8) + (tb : Int)) from ⟨by omega, by omega⟩) ?_
        refine And.intro trivial (Exists.intro _ (And.intro rfl ⟨24 + tb, by show iv _ = _; congr 1 <;> omega, rfl, ?_, by omega⟩))
        have b1 : (x8 + 1) * 16777216 ≤ 2 ^ tb * 16777216 := Nat.mul_le_mul_right _ htab.1
        rw [Nat.pow_add, Nat.mul_comm]
        refine Nat.lt_of_lt_of_le (show x < (x8 + 1) * 16777216 by omega) b1
      · have q6 : ¬ (x16 ≥ 256) := of_decide_eq_false q6
        have hx8 : x16 < 256 := by omega
        refine And.intro rfl (Exists.intro _ (And.intro (u_u8 hx8 rfl) ?_))
        have htab := chkL_at chkL_all hx8
        refine And.intro rfl (Exists.intro _ (And.intro (idx_ok hx8 rfl) ?_))
        generalize tabL.getD x16 0 = tb at htab ⊢
        refine And.intro rfl (Exists.intro _ (And.intro (u8_int (by omega) rfl) ?_))
        refine And.intro (show InR ((0 + 16) + (tb : Int)) from ⟨by omega, by omega⟩) ?_
        refine And.intro trivial (Exists.intro _ (And.intro rfl ⟨16 + tb, by show iv _ = _; congr 1 <;> omega, rfl, ?_, by omega⟩))
        have b1 : (x16 + 1) * 65536 ≤ 2 ^ tb * 65536 := Nat.mul_le_mul_right _ htab.1
        rw [Nat.pow_add, Nat.mul_comm]
        refine Nat.lt_of_lt_of_le (show x < (x16 + 1) * 65536 by omega) b1
    · have q5 : ¬ (x ≥ 65536) := of_decide_eq_false q5
      refine And.intro rfl (Exists.intro (.bool (decide (x ≥ 256))) (And.intro (u_geq rfl rfl) ?_))
      refine And.intro (fun q7 => ?_) (fun q7 => ?_)
      · have q7 : x ≥ 256 := of_decide_eq_true q7
        refine And.intro rfl (Exists.intro _ (And.intro (u_shr (m := x) (d := 8) (by decide) rfl rfl) ?_))
        obtain ⟨x8, ex8⟩ : ∃ z, x / 2 ^ 8 = z := ⟨_, rfl⟩
        rw [ex8]
        have fx8 : x / 256 = x8 := ex8
        clear ex8
        refine And.intro (show InR (0 + 8) from ⟨by omega, by omega⟩) ?_
        have hx8 : x8 < 256 := by omega
        refine And.intro rfl (Exists.intro _ (And.intro (u_u8 hx8 rfl) ?_))
        have htab := chkL_at chkL_all hx8
        refine And.intro rfl (Exists.intro _ (And.intro (idx_ok hx8 rfl) ?_))
        generalize tabL.getD x8 0 = tb at htab ⊢
        refine And.intro rfl (Exists.intro _ (And.intro (u8_int (by omega) rfl) ?_))
        refine And.intro (show InR ((0 + 8) + (tb : Int)) from ⟨by omega, by omega⟩) ?_
        refine And.intro trivial (Exists.intro _ (And.intro rfl ⟨8 + tb, by show iv _ = _; congr 1 <;> omega, rfl, ?_, by omega⟩))
        have b1 : (x8 + 1) * 256 ≤ 2 ^ tb * 256 := Nat.mul_le_mul_right _ htab.1
        rw [Nat.pow_add, Nat.mul_comm]
        refine Nat.lt_of_lt_of_le (show x < (x8 + 1) * 256 by omega) b1
      · have q7 : ¬ (x ≥ 256) := of_decide_eq_false q7
        have hx8 : x < 256 := by omega
        refine And.intro rfl (Exists.intro _ (And.intro (u_u8 hx8 rfl) ?_))
        have htab := chkL_at chkL_all hx8
        refine And.intro rfl (Exists.intro _ (And.intro (idx_ok hx8 rfl) ?_))
        generalize tabL.getD x 0 = tb at htab ⊢
        refine And.intro rfl (Exists.intro _ (And.intro (u8_int (by omega) rfl) ?_))
        refine And.intro (show InR (0 + (tb : Int)) from ⟨by omega, by omega⟩) ?_
        refine And.intro trivial (Exists.intro _ (And.intro rfl ⟨0 + tb, by show iv _ = _; congr 1 <;> omega, rfl, ?_, by omega⟩))
        have b1 : (x + 1) * 1 ≤ 2 ^ tb * 1 := Nat.mul_le_mul_right _ htab.1
        rw [Nat.pow_add, Nat.mul_comm]
        refine Nat.lt_of_lt_of_le (show x < (x + 1) * 1 by omega) b1
theorem list_ok {s d y : Nat} (hs : s + d ≤ 40) (hy : y < 2 ^ d) (hlo : lo ≤ H.next) :
    ∃ w H', FnX Try.prog kn lo 54 [.int .u64 ((y * 2 ^ s : Nat) : Int)] H w H' ∧ Keep H H' [] ∧ Acc lo H.next 3 H' w (cnt d y) (ints (bl d y (s : Int))) := by
  refine fnX_low (kn := kn) (lo := lo) (H := H) (args := [.int .u64 ((y * 2 ^ s : Nat) : Int)]) (Q := fun w H' => Keep H H' [] ∧ Acc lo H.next 3 H' w (cnt d y) (ints (bl d y (s : Int)))) Try.func54 B54 N54 Z54 L54 (by simp) ?_
  have hk := Keep.refl H []
  obtain ⟨L, fL, hL, hL64⟩ := len_ok (kn := kn) (lo := lo) (H := H) (set_lt hs hy)
  refine Exists.intro _ (Exists.intro _ (And.intro (callX_args fL) ?_))
  refine loop_low (fn := Try.f54) E54_1 N54 L54x1 (fun x : Value × Nat => [(0, .int .u64 ((y * 2 ^ s : Nat) : Int)), (3, x.1), (6, iv (L : Int)), (7, iv (x.2 : Int))])
    (fun q x H' => x.2 + q = L ∧ Keep H H' [] ∧ Acc lo H.next 3 H' x.1 (bl x.2 (y * 2 ^ s) 0).length (ints (bl x.2 (y * 2 ^ s) 0)) ∧ H.next ≤ H'.next) L (.slice none 0 0, 0) ⟨by show 0 + L = L; omega, hk, .inl ⟨rfl, rfl, rfl⟩, Nat.le_refl _⟩ ⟨rfl, rfl, rfl, rfl, trivial⟩ ?_
  rintro q ⟨wv, j⟩ L1 ⟨hik, hk, hacc, hfl⟩
  simp only at hik hacc
  have hm := hk.1
  have kacc := Keep.refl L1 []
  have hlen : (bl j (y * 2 ^ s) 0).length ≤ 64 := by rw [bl_len]; have := cnt_le j (y * 2 ^ s); omega
  refine And.intro (fun q1 => ?_) (fun q1 => ?_)
  · have q1 : (j : Int) < (L : Int) := of_decide_eq_true q1
    have hj : j < L := by omega
    refine Exists.intro _ (Exists.intro _ (And.intro (callX_args (has_ok (kn := kn) (lo := lo) (H := L1) (d := j) rfl (by omega))) ?_))
    cases hbit : (y * 2 ^ s).testBit j
    · refine condF ?_
      refine And.intro (show InR ((j : Int) + 1) from ⟨by omega, by omega⟩) ?_
      refine ⟨q - 1, (wv, j + 1), by omega, ⟨by show j + 1 + (q - 1) = L; omega, hk, ?_, hfl⟩, rfl, rfl, rfl, rfl, trivial⟩
      show Acc _ _ _ _ _ (bl (j + 1) (y * 2 ^ s) 0).length (ints (bl (j + 1) (y * 2 ^ s) 0))
      have e : bl (j + 1) (y * 2 ^ s) 0 = bl j (y * 2 ^ s) 0 := by rw [bl_step, hbit]; simp
      rw [e]; exact hacc
    · refine condT ?_
      obtain ⟨H1, hH1⟩ : ∃ H1, L1.new (.cells [iv (j : Int)] 3 false) = H1 := ⟨_, rfl⟩
      refine And.intro rfl (Or.inr (And.intro (by kernel_rfl) (Exists.intro _ (Exists.intro H1 (Exists.intro _ (And.intro ((heap_build1 (v := iv (j : Int)) se27 z3 rfl rfl rfl (by decide)).trans (by rw [← hH1]; rfl)) (And.intro (fun b e => by cases e) ?_)))))))
      obtain ⟨kH1, nH1, c1⟩ := new_facts hH1; clear hH1
      have c1 : Cl H1 L1.next [iv (j : Int)] := c1
      have mH1 := kH1.1
      have hk := hk.trans kH1
      have kacc := kacc.trans kH1
      obtain ⟨H2, kdH2, eH2, dH2, aH2, kbH2⟩ := heap_append_below (P := Try.prog) (lo := lo) (k := (bl j (y * 2 ^ s) 0).length) (t1 := 27) se27 u27 (c1.sl (Nat.le_refl 1)) rfl (by decide) rfl (by rw [ints_len]; simp) (by omega) (hacc.keep kacc) (by omega) (by omega)
      refine And.intro rfl (Or.inr (And.intro (by cases wv <;> kernel_rfl) (Exists.intro _ (Exists.intro H2 (Exists.intro _ (And.intro (eH2 _ _ _ _ _ _ _ rfl rfl) (And.intro (reg_ok dH2 _) ?_)))))))
      have hk := kbH2.keep hk (by omega)
      have mH2 := kbH2.1
      refine And.intro (show InR ((j : Int) + 1) from ⟨by omega, by omega⟩) ?_
      refine ⟨q - 1, (_, j + 1), by omega, ⟨by show j + 1 + (q - 1) = L; omega, hk, ?_, by show H.next ≤ H2.next; omega⟩, rfl, rfl, rfl, rfl, trivial⟩
      show Acc _ _ _ _ _ (bl (j + 1) (y * 2 ^ s) 0).length (ints (bl (j + 1) (y * 2 ^ s) 0))
      have e : bl (j + 1) (y * 2 ^ s) 0 = bl j (y * 2 ^ s) 0 ++ [(j : Int)] := by rw [bl_step, hbit]; simp
      rw [e]; simp only [List.length_append, List.length_singleton]; simp only [ints, List.map_append, List.map_cons, List.map_nil]; exact aH2
  · have q1 : ¬ ((j : Int) < (L : Int)) := of_decide_eq_false q1
    have hj : j = L := by omega
    subst hj
    exact And.intro trivial (Exists.intro _ (And.intro rfl ⟨hk, by rw [bl_all hy hL, bl_len] at hacc; exact hacc⟩))
end
end Go.Ax

/-
  Late: the sets of a flood, one by one (53, 74); Freshen (28) (written by program).
-/
namespace Go.Ax
open Go Go.RowKit Go.Proofs

theorem i_shl1 {n : Nat} {S : Rg} {y : Operand} {o : Option Tmp} {d : Nat} (h : d ≤ 12) (hy : evS S y = some (iv (d : Int))) : pureOp Try.prog (frS n S) ⟨o, .binOp .shl 3 (.const (.int .i64 1)) y 3, 3, "", #[], none⟩ = some (iv ((2 ^ d : Nat) : Int)) := by
  have hx : evS S (.const (.int .i64 1)) = some (.int .i64 1) := rfl
  have e : prun Try.prog (do eqGuard .shl 3 (.const (.int .i64 1)) y (.int .i64 1) (.int .i64 (d : Int)); binOp .shl 3 (.int .i64 1) (.int .i64 (d : Int))) = some (.int .i64 ((2 ^ d : Nat) : Int)) := by
    show prun Try.prog (Op.shift .shl .i64 1 .i64 (d : Int)) = _
    unfold Op.shift
    rw [if_neg (by omega)]
    show some (Value.int .i64 (IntKind.i64.wrap (1 * 2 ^ min d 64))) = _
    rw [Nat.min_eq_left (by omega)]
    have h1 := pow12 h
    have e : (1 : Int) * 2 ^ d = ((2 ^ d : Nat) : Int) := by rw [Int.one_mul, Int.natCast_pow]; rfl
    rw [e]
    generalize 2 ^ d = p at h1 ⊢
    rw [wrap_i64 ⟨by omega, by omega⟩]
  unfold pureOp
  simp only [ev_frS, hx, hy, flat, flat1, Bool.and_self, cond_true, e]
section
variable {kn : FuncId → Option Bool} {lo : Nat} {H : Hp}
theorem sets_ok {s d : Nat} : ∃ bc H', FnX Try.prog kn lo 53 [.agg #[iv (s : Int), iv (d : Int)]] H (.func (.func 74) #[] #[pt bc]) H' ∧ Keep H H' [] ∧ H.next ≤ bc ∧ Rd H' bc [iv (s : Int), iv (d : Int)] := by
  have key := fnX_low (kn := kn) (lo := lo) (H := H) (args := [.agg #[iv (s : Int), iv (d : Int)]]) (Q := fun w H' => ∃ bc, w = .func (.func 74) #[] #[pt bc] ∧ Keep H H' [] ∧ H.next ≤ bc ∧ Rd H' bc [iv (s : Int), iv (d : Int)]) Try.func53 B53 N53 Z53 L53 (by simp) ?_
  · obtain ⟨w, H', h, bc, rfl, q⟩ := key; exact ⟨bc, H', h, q⟩
  have hk := Keep.refl H []
  intro H1 hH1; obtain ⟨kH1, nH1, c1⟩ := new_facts hH1; clear hH1
  have mH1 := kH1.1
  have hk := hk.trans kH1
  have c1 : Cl H1 H.next [iv (s : Int), iv (d : Int)] := c1
  refine And.intro rfl (Exists.intro (.func (.func 74) #[] #[pt H.next]) (And.intro (by kernel_rfl) ?_))
  exact And.intro trivial (Exists.intro _ (And.intro rfl ⟨H.next, rfl, hk, Nat.le_refl _, c1.rd⟩))
/-- All sets of a flood's days, those of fewer days first, in the order of their lists. -/
theorem iter74_ok {s d l bc : Nat} (hd : d ≤ 12) (hs : s + d ≤ 40) (J D : Nat → Nat → Hp → Prop) (hJ0 : J 0 0 H) (hJe : ∀ k n H1, J k n H1 → Rd H1 bc [iv (s : Int), iv (d : Int)]) (hJm : ∀ k n H1 H2, J k n H1 → Keep H1 H2 [] → J k n H2) (hJn : ∀ k n H1, J k n H1 → lo ≤ H1.next)
    (skip : ∀ k n H1, n < 2 ^ d → J k n H1 → cnt d (revB d (2 ^ d - 1 - n)) ≠ k → J k (n + 1) H1) (up : ∀ k H1, J k (2 ^ d) H1 → J (k + 1) 0 H1)
    (step : ∀ k n H1, k ≤ d → n < 2 ^ d → J k n H1 → cnt d (revB d (2 ^ d - 1 - n)) = k → ∃ t H', CallsX Try.prog kn lo (.fn (.yield l) #[]) [.int .u64 ((revB d (2 ^ d - 1 - n) * 2 ^ s : Nat) : Int)] H1 (.bool t) H' ∧ (bif t then J k (n + 1) H' else D k n H')) :
    ∃ H', FnX Try.prog kn lo 74 [.func (.yield l) #[] #[], pt bc] H unit H' ∧ (J (d + 1) 0 H' ∨ ∃ k n, k ≤ d ∧ n < 2 ^ d ∧ D k n H') := by
  have key := fnX_low (kn := kn) (lo := lo) (H := H) (args := [.func (.yield l) #[] #[], pt bc]) (Q := fun w H' => w = unit ∧ (J (d + 1) 0 H' ∨ ∃ k n, k ≤ d ∧ n < 2 ^ d ∧ D k n H')) Try.func74 B74 N74 Z74 L74 (by simp) ?_
  · obtain ⟨w, H', h, rfl, q⟩ := key; exact ⟨H', h, q⟩
  have rc := hJe 0 0 H hJ0
  have h12 := pow12 hd
  have h2d : 0 < 2 ^ d := Nat.pow_pos (by decide)
  obtain ⟨P, hP⟩ : ∃ P, P = 2 ^ d := ⟨_, rfl⟩
  have h12 : P ≤ 4096 := hP ▸ h12
  refine Exists.intro _ (Exists.intro _ (And.intro rc.of (And.intro (show _ = some (iv (d : Int)) from rfl) ?_)))
  refine And.intro rfl (Exists.intro _ (And.intro (i_shl1 hd rfl) ?_))
  rw [← hP]
  refine Exists.intro _ (Exists.intro _ (And.intro rc.of (And.intro (show _ = some (iv (d : Int)) from rfl) ?_)))
  refine And.intro (show InR ((d : Int) + 1) from ⟨by omega, by omega⟩) ?_
  refine loop_low (fn := Try.f74) E74_1 N74 L74x1 (fun k : Nat => [(0, .func (.yield l) #[] #[]), (1, pt bc), (3, iv (P : Int)), (12, iv ((d : Int) + 1)), (13, iv (k : Int))])
    (fun q k H' => k + q = d + 1 ∧ J k 0 H') (d + 1) 0 ⟨by omega, hJ0⟩ ⟨rfl, rfl, rfl, rfl, rfl, trivial⟩ ?_
  rintro q k L1 ⟨hkq, hJ⟩
  have rc := hJe _ _ _ hJ
  have hln := hJn _ _ _ hJ
  refine And.intro (fun q1 => ?_) (fun q1 => ?_)
  · have q1 : (k : Int) < ((d : Int) + 1) := of_decide_eq_true q1
    have hkd : k ≤ d := by omega
    refine loop_low (fn := Try.f74) E74_2 N74 L74x2 (fun n : Nat => [(0, .func (.yield l) #[] #[]), (1, pt bc), (3, iv (P : Int)), (12, iv ((d : Int) + 1)), (13, iv (k : Int)), (4, iv (k : Int)), (16, iv (P : Int)), (17, iv (n : Int))])
      (fun p n H' => n + p = P ∧ J k n H') P 0 ⟨by omega, hJ⟩ ⟨rfl, rfl, rfl, rfl, rfl, rfl, rfl, rfl, trivial⟩ ?_
    rintro p n L2 ⟨hnp, hJ2⟩
    have rc := hJe _ _ _ hJ2
    have hln := hJn _ _ _ hJ2
    have hJm2 := fun H2 q => hJm _ _ _ H2 hJ2 q
    have kj := Keep.refl L2 []
    refine And.intro (fun q2 => ?_) (fun q2 => ?_)
    · have q2 : (n : Int) < (P : Int) := of_decide_eq_true q2
      have hnn : n < P := by omega
      refine Exists.intro _ (Exists.intro _ (And.intro rc.of (And.intro (show row 2 _ 0 = some [iv (s : Int), iv (d : Int)] from rfl) ?_)))
      refine And.intro (show InR ((P : Int) - 1) from ⟨by omega, by omega⟩) ?_
      refine And.intro (show InR (((P : Int) - 1) - (n : Int)) from ⟨by omega, by omega⟩) ?_
      obtain ⟨H1, fH1, kH1⟩ := numbered_ok (kn := kn) (lo := lo) (H := L2) (s := s) (d := d) (m := 2 ^ d - 1 - n) (mv := ((P : Int) - 1) - (n : Int)) (by rw [← hP]; omega) hd hs (by rw [← hP]; omega)
      have mH1 := kH1.1
      have rc := kH1.rd rc (by simp)
      have kj := kj.trans kH1
      refine Exists.intro _ (Exists.intro _ (And.intro (callX_args fH1) ?_))
      have hy := revB_lt d (2 ^ d - 1 - n)
      obtain ⟨y, ey⟩ : ∃ y, revB d (2 ^ d - 1 - n) = y := ⟨_, rfl⟩
      rw [ey] at hy ⊢
      refine Exists.intro _ (Exists.intro _ (And.intro (callX_args (size_ok (kn := kn) (lo := lo) (H := H1) hd hs hy)) ?_))
      intro t3 g3; cases t3
      · have g3 : ¬ (((cnt d y : Nat) : Int) = (k : Int)) := by simpa using g3
        have hne : cnt d (revB d (2 ^ d - 1 - n)) ≠ k := by rw [ey]; omega
        refine And.intro rfl (Exists.intro (.bool false) (And.intro rfl ?_))
        refine condF ?_
        refine And.intro (show InR ((n : Int) + 1) from ⟨by omega, by omega⟩) ?_
        exact ⟨p - 1, n + 1, by omega, ⟨by omega, skip k n _ (hP ▸ hnn) (hJm2 _ kj) hne⟩, rfl, rfl, rfl, rfl, rfl, rfl, rfl, rfl, trivial⟩
      · have g3 : ((cnt d y : Nat) : Int) = (k : Int) := by simpa using g3
        have hcnt : cnt d y = k := by omega
        obtain ⟨t, H2, fH2, hJ3⟩ := step k n H1 hkd (hP ▸ hnn) (hJm2 _ kj) (by rw [ey]; exact hcnt)
        rw [ey] at fH2
        refine Exists.intro _ (Exists.intro _ (And.intro fH2 ?_))
        cases t
        · have hJ3 : D k n H2 := hJ3
          refine And.intro rfl (Exists.intro (.bool true) (And.intro rfl ?_))
          refine And.intro rfl (Exists.intro (.bool true) (And.intro rfl ?_))
          refine condT ?_
          exact And.intro trivial (Exists.intro _ (And.intro rfl ⟨rfl, Or.inr ⟨k, n, hkd, hP ▸ hnn, hJ3⟩⟩))
        · have hJ3 : J k (n + 1) H2 := hJ3
          refine And.intro rfl (Exists.intro (.bool false) (And.intro rfl ?_))
          refine And.intro rfl (Exists.intro (.bool false) (And.intro rfl ?_))
          refine condF ?_
          refine And.intro (show InR ((n : Int) + 1) from ⟨by omega, by omega⟩) ?_
          exact ⟨p - 1, n + 1, by omega, ⟨by omega, hJ3⟩, rfl, rfl, rfl, rfl, rfl, rfl, rfl, rfl, trivial⟩
    · have q2 : ¬ ((n : Int) < (P : Int)) := of_decide_eq_false q2
      have hnn : n = P := by omega
      refine And.intro (show InR ((k : Int) + 1) from ⟨by omega, by omega⟩) ?_
      exact ⟨q - 1, k + 1, by omega, ⟨by omega, up k L2 (by rw [← hP, ← hnn]; exact hJ2)⟩, rfl, rfl, rfl, rfl, rfl, trivial⟩
  · have q1 : ¬ ((k : Int) < ((d : Int) + 1)) := of_decide_eq_false q1
    have e : k = d + 1 := by omega
    subst e
    exact And.intro trivial (Exists.intro _ (And.intro rfl ⟨rfl, Or.inl hJ⟩))
end
end Go.Ax

/-
  Late: Freshen (28) (written by program).
-/
namespace Go.Ax
open Go Go.RowKit Go.Proofs

noncomputable abbrev asg28 : Code := at_ Try.f28 [1, 1, 1, 1, 0, 1, 0, 0]
noncomputable abbrev body28 : Code := at_ Try.f28 [1, 1, 1, 1, 0, 1, 0, 1]
abbrev S28 (b6 b7 b8 : Nat) : Rg := [(6, pt b6), (7, pt b7), (8, pt b8)]
/-- with these fresh days the vines surely are not hurt -/
def Lt.ff (g : Lt) (s d y : Nat) : Prop := g.sl s (Nat.testBit (y * 2 ^ s)) d ≤ g.bear
/-- ahead of the n-th number of those of k days nothing was found -/
def FAll (g : Lt) (s d k n : Nat) : Prop := (∀ y, y < 2 ^ d → cnt d y < k → ¬ g.ff s d y) ∧ (∀ y, y < 2 ^ d → cnt d y = k → 2 ^ d ≤ revB d y + n → ¬ g.ff s d y)
theorem FAll.up {g : Lt} {s d k : Nat} (h : FAll g s d k (2 ^ d)) : FAll g s d (k + 1) 0 :=
  ⟨fun y hy hc => by
    rcases Nat.lt_or_ge (cnt d y) k with q | q
    · exact h.1 y hy q
    · exact h.2 y hy (by omega) (by omega), fun y hy hc h2 => by have := revB_lt d y; omega⟩
theorem FAll.skip {g : Lt} {s d k n : Nat} (hn : n < 2 ^ d) (h : FAll g s d k n) (hne : cnt d (revB d (2 ^ d - 1 - n)) ≠ k ∨ ¬ g.ff s d (revB d (2 ^ d - 1 - n))) : FAll g s d k (n + 1) :=
  ⟨h.1, fun y hy hc h2 => by
    rcases Nat.lt_or_ge (revB d y + n) (2 ^ d) with q | q
    · have e : 2 ^ d - 1 - n = revB d y := by omega
      rw [e, revB_rev d y hy] at hne
      rcases hne with hne | hne
      · exact absurd hc hne
      · exact hne
    · exact h.2 y hy hc q⟩
structure FX where
  b6 : Nat
  b7 : Nat
  b8 : Nat
  bc : Nat
  r : Nat
structure FC where
  g : Lt
  s : Nat
  d : Nat
structure FG (X : FX) (lo : Nat) (H0 : Hp) : Prop where
  o0 : H0.next ≤ X.b6
  ol : lo ≤ X.b6
  o1 : X.b6 < X.b7
  o2 : X.b7 < X.b8
  o3 : X.b8 < X.bc
  o4 : X.bc < X.r
structure FJ (X : FX) (c : FC) (H0 : Hp) (k n : Nat) (H' : Hp) : Prop where
  c6 : Cl H' X.b6 [.slice none 0 0]
  c7 : Cl H' X.b7 [iv 0]
  c8 : ∃ m : Nat, Cl H' X.b8 (crs c.g c.s c.d m)
  cb : Rd H' X.bc [iv (c.s : Int), iv (c.d : Int)]
  hw : Sl H' c.g.wa c.g.wn c.g.wcap (spc c.g.ws)
  ha : Sl H' c.g.aa c.g.an c.g.acap (spc c.g.as)
  all : FAll c.g c.s c.d k n
  lp : Lp Try.prog H' (X.r + 1) .ready none 35 (S28 X.b6 X.b7 X.b8) [26] asg28 body28 X.r
  ll : X.r + 1 < H'.next
  dfr : H'.t.get X.r = some (.dfr (some []))
  kp : Keep H0 H' []
structure FD (X : FX) (c : FC) (lo : Nat) (H0 : Hp) (k n : Nat) (H' : Hp) : Prop where
  res : ∃ (y : Nat) (ov : Value), y < 2 ^ c.d ∧ cnt c.d y = k ∧ revB c.d y + n + 1 = 2 ^ c.d ∧ c.g.ff c.s c.d y ∧ Cl H' X.b6 [ov] ∧ Acc lo (X.r + 2) 3 H' ov (cnt c.d y) (ints (bl c.d y (c.s : Int)))
  c7 : Cl H' X.b7 [iv 0]
  all : FAll c.g c.s c.d k n
  lp : Lp Try.prog H' (X.r + 1) .done (some .ret) 35 (S28 X.b6 X.b7 X.b8) [26] asg28 body28 X.r
  ll : X.r + 1 < H'.next
  dfr : H'.t.get X.r = some (.dfr (some []))
  kp : Keep H0 H' []
theorem Acc.lower {lo f f2 : Nat} {e : TypeId} {H : Hp} {v : Value} {n : Nat} {cs : List Value} (h : Acc lo f e H v n cs) (hf : f2 ≤ f) : Acc lo f2 e H v n cs :=
  h.imp id fun ⟨b, e1, h0, hb, q⟩ => ⟨b, e1, h0, Nat.le_trans hf hb, q⟩
section
variable {kn : FuncId → Option Bool} {lo : Nat} {H : Hp}
theorem FJ.keep {X : FX} {c : FC} {H0 : Hp} {k n : Nat} {H1 H2 : Hp} (j : FJ X c H0 k n H1) (kk : Keep H1 H2 []) : FJ X c H0 k n H2 := by
  obtain ⟨m, c8⟩ := j.c8
  exact ⟨kk.cl j.c6 (by simp), kk.cl j.c7 (by simp), ⟨m, kk.cl c8 (by simp)⟩, kk.rd j.cb (by simp), kk.sl0 j.hw, kk.sl0 j.ha, j.all, j.lp.keep kk j.ll (by simp), Nat.lt_of_lt_of_le j.ll kk.1, by rw [kk.2 X.r (by have := j.ll; omega) (by simp)]; exact j.dfr, j.kp.trans kk⟩
theorem fr_round (h48 : kn 48 = none) {X : FX} {c : FC} {H0 : Hp} (G : FG X lo H0) (v : c.g.Vd) (hsd : c.s + c.d ≤ c.g.wn) (hd : c.d ≤ 12) (fw : ∀ b, c.g.wa = some ⟨b, 0, none⟩ → b < H0.next) (fa : ∀ b, c.g.aa = some ⟨b, 0, none⟩ → b < H0.next) {k n y : Nat} (hy : y < 2 ^ c.d) (hc : cnt c.d y = k) (hr : revB c.d y + n + 1 = 2 ^ c.d) (j : FJ X c H0 k n H) :
    ∃ t H', CallsX Try.prog kn lo (.fn (.yield (X.r + 1)) #[]) [.int .u64 ((y * 2 ^ c.s : Nat) : Int)] H (.bool t) H' ∧ (bif t then FJ X c H0 k (n + 1) H' else FD X c lo H0 k n H') := by
  have L1 : low Try.prog 35 asg28 = some R28x1 := N28 ▸ L28x1
  have L2 : low Try.prog 35 body28 = some R28x2 := N28 ▸ L28x2
  obtain ⟨o0, ol, o1, o2, o3, o4⟩ := G
  have hn40 := v.n40
  refine yield_ok (kn := kn) (P := Try.prog) (lo := lo) (S1 := (26, .int .u64 ((y * 2 ^ c.s : Nat) : Int)) :: S28 X.b6 X.b7 X.b8) (args := [.int .u64 ((y * 2 ^ c.s : Nat) : Int)]) (Q := fun t H' => bif t then FJ X c H0 k (n + 1) H' else FD X c lo H0 k n H') j.lp (by omega) (by rfl) rfl (wC_sound true _ L1 ?_)
  have ll := j.ll
  refine And.intro trivial (And.intro j.lp ?_)
  intro H4 s4
  have k4 := s4.keep
  have lp4 := s4.lp j.lp
  have hn4 : H4.next = H.next := s4.1
  have nl : ∀ x, x < X.r + 1 → x ∉ [X.r + 1] := fun x hx => by simp; omega
  obtain ⟨m, d8⟩ := j.c8
  have d6 := k4.cl j.c6 (nl _ (by omega))
  have d7 := k4.cl j.c7 (nl _ (by omega))
  have d8 := k4.cl d8 (nl _ (by omega))
  have db := k4.rd j.cb (nl _ (by omega))
  have dw := k4.sl j.hw (fun b e => nl _ (by have := fw b e; omega))
  have da := k4.sl j.ha (fun b e => nl _ (by have := fa b e; omega))
  have ddf : H4.t.get X.r = some (.dfr (some [])) := by rw [k4.2 X.r (by omega) (nl _ (by omega))]; exact j.dfr
  have kp4 : Keep H0 H4 [] := j.kp.new k4 (fun b hb => .inr (by simp at hb; omega))
  refine wC_sound true _ L2 ?_
  obtain ⟨_, e5, l5, g5⟩ := id d8
  refine Exists.intro _ (Exists.intro _ (Exists.intro _ (And.intro g5 (And.intro (by omega) (And.intro rfl (And.intro rfl (And.intro (by simp) ?_)))))))
  intro H5 hH5; obtain ⟨k5, n5, c5⟩ := up_facts d8 hH5; clear hH5
  have c5 : Cl H5 X.b8 (crs c.g c.s c.d (y * 2 ^ c.s)) := c5
  have nb : ∀ x, x ≠ X.b8 → x ∉ [X.b8] := fun x hx => by simpa using hx
  have m5 := k5.1
  have d6 := k5.cl d6 (nb _ (by omega))
  have d7 := k5.cl d7 (nb _ (by omega))
  have db := k5.rd db (nb _ (by omega))
  have dw := k5.sl dw (fun b e => nb _ (by have := fw b e; omega))
  have da := k5.sl da (fun b e => nb _ (by have := fa b e; omega))
  have ddf5 : H5.t.get X.r = some (.dfr (some [])) := by rw [k5.2 X.r (by omega) (nb _ (by omega))]; exact ddf
  have kp5 : Keep H0 H5 [] := kp4.new k5 (fun b hb => .inr (by simp at hb; omega))
  have lp5 := lp4.keep k5 (by omega) (nb _ (by omega))
  refine Exists.intro _ (Exists.intro _ (And.intro c5.of (And.intro (show row 16 _ 0 = some (crs c.g c.s c.d (y * 2 ^ c.s)) from rfl) ?_)))
  obtain ⟨w6, H6, f6, k6, hres⟩ := hurt_ok (kn := kn) (lo := lo) (H := H5) (m := y * 2 ^ c.s) h48 v hsd dw da (by omega)
  refine Exists.intro _ (Exists.intro _ (And.intro (callX_args f6) ?_))
  have m6 := k6.1
  obtain ⟨H7, f7, k7⟩ := none48_ok (kn := kn) (lo := lo) (H := H6) (by omega)
  refine Exists.intro _ (Exists.intro _ (And.intro (callX_func (by simp [kcall, h48]) (by simpa using f7)) ?_))
  have k57 := k6.trans k7
  have m7 := k57.1
  have e6 := k57.cl d6 (by simp)
  have e7 := k57.cl d7 (by simp)
  have e8 := k57.cl c5 (by simp)
  have eb := k57.rd db (by simp)
  have ew := k57.sl0 dw
  have ea := k57.sl0 da
  have df7 : H7.t.get X.r = some (.dfr (some [])) := by rw [k57.2 X.r (by omega) (by simp)]; exact ddf5
  have kp7 := kp5.trans k57
  have lp7 := lp5.keep k57 (by omega) (by simp)
  rcases hres with ⟨q, q1, q2, q3, rfl⟩ | ⟨hall, rfl⟩
  · refine And.intro rfl (Exists.intro (.bool false) (And.intro (pure_eq72 rfl rfl rfl (by omega)) ?_))
    refine condF ?_
    refine And.intro lp7 ?_
    intro H8 s8
    have k8 := s8.keep
    have hn8 : H8.next = H7.next := s8.1
    have hnf : ¬ c.g.ff c.s c.d y := fun h => by
      have h1 := Lt.sl_le (g := c.g) (s := c.s) (F := Nat.testBit (y * 2 ^ c.s)) q1
      unfold Lt.ff at h
      simp at q2
      omega
    have e : 2 ^ c.d - 1 - n = revB c.d y := by omega
    exact ⟨k8.cl e6 (nl _ (by omega)), k8.cl e7 (nl _ (by omega)), ⟨_, k8.cl e8 (nl _ (by omega))⟩, k8.rd eb (nl _ (by omega)), k8.sl ew (fun b e => nl _ (by have := fw b e; omega)), k8.sl ea (fun b e => nl _ (by have := fa b e; omega)), FAll.skip (by omega) j.all (.inr (by rw [e, revB_rev _ _ hy]; exact hnf)), s8.lp lp7, by omega, by rw [k8.2 X.r (by omega) (nl _ (by omega))]; exact df7, kp7.new k8 (fun b hb => .inr (by simp at hb; omega))⟩
  · refine And.intro rfl (Exists.intro (.bool true) (And.intro (pure_eq72n rfl rfl) ?_))
    refine condT ?_
    have hff : c.g.ff c.s c.d y := by have h1 := hall c.d (Nat.le_refl _); unfold Lt.ff; simp at h1; omega
    obtain ⟨ov, H8, f8, k8, acc⟩ := list_ok (kn := kn) (lo := lo) (H := H7) (s := c.s) (d := c.d) (y := y) (by omega) hy (by omega)
    refine Exists.intro _ (Exists.intro _ (And.intro (callX_args f8) ?_))
    have m8 := k8.1
    obtain ⟨ta, tc, rfl, _, _⟩ := id acc.sl
    have e6 := k8.cl e6 (by simp)
    have e7 := k8.cl e7 (by simp)
    have df8 : H8.t.get X.r = some (.dfr (some [])) := by rw [k8.2 X.r (by omega) (by simp)]; exact df7
    have lp8 := lp7.keep k8 (by omega) (by simp)
    have kp8 := kp7.trans k8
    obtain ⟨_, e9, l9, g9⟩ := id e6
    refine Exists.intro _ (Exists.intro _ (Exists.intro _ (And.intro g9 (And.intro (by omega) (And.intro rfl (And.intro rfl (And.intro (by simp) ?_)))))))
    intro H9 hH9; obtain ⟨k9, n9, c9⟩ := up_facts e6 hH9; clear hH9
    have c9 : Cl H9 X.b6 [.slice ta (cnt c.d y) tc] := c9
    have n6 : ∀ x, x ≠ X.b6 → x ∉ [X.b6] := fun x hx => by simpa using hx
    have e7 := k9.cl e7 (n6 _ (by omega))
    have m07 := kp7.1
    have acc9 := acc.other k9 (by intro b hb; simp at hb; omega)
    obtain ⟨_, e10, l10, g10⟩ := id e7
    refine Exists.intro _ (Exists.intro _ (Exists.intro _ (And.intro g10 (And.intro (by omega) (And.intro rfl (And.intro rfl (And.intro (by simp) ?_)))))))
    intro H10 hH10; obtain ⟨k10, n10, c10⟩ := up_facts e7 hH10; clear hH10
    have c10 : Cl H10 X.b7 [iv 0] := c10
    have n7 : ∀ x, x ≠ X.b7 → x ∉ [X.b7] := fun x hx => by simpa using hx
    have c9' := k10.cl c9 (n7 _ (by omega))
    have acc10 := acc9.other k10 (by intro b hb; simp at hb; omega)
    have lp10 := (lp8.keep k9 (by omega) (n6 _ (by omega))).keep k10 (by omega) (n7 _ (by omega))
    refine And.intro lp10 ?_
    intro H11 s11
    have k11 := s11.keep
    have hn11 : H11.next = H10.next := s11.1
    have acc11 := (acc10.other k11 (by intro b hb; simp at hb; omega)).lower (f2 := X.r + 2) (by omega)
    exact ⟨⟨y, _, hy, hc, hr, hff, k11.cl c9' (nl _ (by omega)), acc11⟩, k11.cl c10 (nl _ (by omega)), j.all, s11.lp lp10, by omega, by rw [k11.2 X.r (by omega) (nl _ (by omega)), k10.2 X.r (by omega) (n7 _ (by omega)), k9.2 X.r (by omega) (n6 _ (by omega))]; exact df8, ((kp8.new k9 (fun b hb => .inr (by simp at hb; omega))).new k10 (fun b hb => .inr (by simp at hb; omega))).new k11 (fun b hb => .inr (by simp at hb; omega))⟩
end
end Go.Ax

/-
  Late: Freshen (28) (written by program).
-/
namespace Go.Ax
open Go Go.RowKit Go.Proofs

theorem res2 {P : Program} {S : Rg} {H : Hp} {a b : Nat} {t1 t2 : TypeId} {v1 v2 : Value} {x y : Nat} (ha : lk S a = some (.pointer (some ⟨x, 0, none⟩))) (hb : lk S b = some (.pointer (some ⟨y, 0, none⟩))) (h1 : isAggB P t1 = some false) (h2 : isAggB P t2 = some false) (r1 : Rd H x [v1]) (r2 : Rd H y [v2]) :
    resS P S H [.cell a t1, .cell b t2] = some [v1, v2] := by
  simp only [resS, ha, hb, load_one h1 r1, load_one h2 r2]
theorem ag27 : isAggB Try.prog 27 = some false := by kernel_rfl
theorem ag30 : isAggB Try.prog 30 = some false := by kernel_rfl
/-- what Freshen answers -/
def Lt.Fr (g : Lt) (lo : Nat) (a b : Int) (f : Nat) (w : Value) (H' : Hp) : Prop :=
  (g.ok = false ∧ w = .tuple #[.slice none 0 0, iv 1]) ∨ (g.ok = true ∧ (flB g a b = false ∨ 12 < b) ∧ w = .tuple #[.slice none 0 0, iv 2]) ∨
  (g.ok = true ∧ ∃ s d : Nat, a = s ∧ b = d ∧ s + d ≤ g.wn ∧ d ≤ 12 ∧
    (((∀ y, y < 2 ^ d → ¬ g.ff s d y) ∧ w = .tuple #[.slice none 0 0, iv 4]) ∨
     ∃ (y : Nat) (ov : Value), y < 2 ^ d ∧ g.ff s d y ∧ (∀ z, z < 2 ^ d → g.ff s d z → cnt d y < cnt d z ∨ (cnt d y = cnt d z ∧ revB d z ≤ revB d y)) ∧ w = .tuple #[ov, iv 0] ∧ Acc lo f 3 H' ov (cnt d y) (ints (bl d y (s : Int)))))
section
variable {kn : FuncId → Option Bool} {lo : Nat} {H : Hp}
theorem freshen_ok (h48 : kn 48 = none) {g : Lt} {a b : Int} (hw : Sl H g.wa g.wn g.wcap (spc g.ws)) (ha : Sl H g.aa g.an g.acap (spc g.as)) (hwl : g.ws.length = g.wn) (hal : g.as.length = g.an) (hwn : g.wn ≤ 1000) (han : g.an ≤ 1000) (hlo : lo ≤ H.next) :
    ∃ w H', FnX Try.prog kn lo 28 [.agg g.v.toArray, iv a, iv b] H w H' ∧ Keep H H' [] ∧ g.Fr lo a b H.next w H' := by
  refine fnX_lowR (kn := kn) (lo := lo) (H := H) (args := [.agg g.v.toArray, iv a, iv b]) (Q := fun w H' => Keep H H' [] ∧ g.Fr lo a b H.next w H') Try.func28 B28 N28 Z28 L28 (by simp) ?_
  have fw : ∀ b, g.wa = some ⟨b, 0, none⟩ → b < H.next := hw.old
  have fa : ∀ b, g.aa = some ⟨b, 0, none⟩ → b < H.next := ha.old
  intro y hy
  refine TriR.lowR hy ?_
  intro H1 hH1; obtain ⟨k1, n1, c1⟩ := new_facts hH1; clear hH1
  have c1 : Cl H1 H.next g.v := c1
  intro H2 hH2; obtain ⟨k2, n2, c2⟩ := new_facts hH2; clear hH2
  have c2 : Cl H2 H1.next [.slice none 0 0] := c2
  intro H3 hH3; obtain ⟨k3, n3, c3⟩ := new_facts hH3; clear hH3
  have c3 : Cl H3 H2.next [iv 0] := c3
  have k03 := k1.trans (k2.trans k3)
  have m03 := k03.1
  have d1 := (k2.trans k3).cl c1 (by simp)
  have d2 := k3.cl c2 (by simp)
  intro y hy
  refine TriR.lowR hy ?_
  refine Exists.intro _ (Exists.intro _ (And.intro d1.of (And.intro (show row 13 g.v 0 = some g.v from rfl) ?_)))
  obtain ⟨w, H4, f4, k4, hc⟩ := course_ok (kn := kn) (lo := lo) (H := H3) (g := g) (a := a) (b := b) (us := []) (k03.sl0 hw) (k03.sl0 ha) hwl hal hwn han (.inl ⟨.inl rfl, rfl, rfl, rfl⟩ : Sl H3 none 0 0 (ints [])) rfl (by decide) (by omega)
  have k04 := k03.trans k4
  have m4 := k4.1
  have d2 := k4.cl d2 (by simp)
  have d3 := k4.cl c3 (by simp)
  refine Exists.intro _ (Exists.intro _ (And.intro (callX_args f4) ?_))
  rcases hc with ⟨hok, rfl⟩ | ⟨hok, hfl, rfl⟩ | ⟨hok, s, d, rfl, rfl, hsd, hset, rfl⟩
  · refine And.intro rfl (Exists.intro (.agg zeroC.toArray) (And.intro (by kernel_rfl) ?_))
    refine And.intro rfl (Exists.intro (iv 1) (And.intro (by kernel_rfl) ?_))
    intro H5 hH5; obtain ⟨k5, n5, c5⟩ := new_facts hH5; clear hH5
    have c5 : Cl H5 H4.next zeroC := c5
    obtain ⟨_, e6, l6, g6⟩ := id c5
    refine Exists.intro _ (Exists.intro _ (Exists.intro _ (And.intro g6 (And.intro (by omega) (And.intro rfl (And.intro rfl (And.intro (by simp) ?_)))))))
    intro H6 hH6; obtain ⟨k6, n6, c6⟩ := up_facts c5 hH6; clear hH6
    have k46 : Keep H4 H6 [] := k5.new k6 (fun b hb => .inr (by simp at hb; omega))
    have k06 := k04.trans k46
    have m6 := k46.1
    have d2 := k46.cl d2 (by simp)
    have d3 := k46.cl d3 (by simp)
    intro y hy
    refine TriR.lowR hy ?_
    refine condT ?_
    obtain ⟨_, e7, l7, g7⟩ := id d2
    refine Exists.intro _ (Exists.intro _ (Exists.intro _ (And.intro g7 (And.intro (by omega) (And.intro rfl (And.intro rfl (And.intro (by simp) ?_)))))))
    intro H7 hH7; obtain ⟨k7, n7, c7⟩ := up_facts d2 hH7; clear hH7
    have c7 : Cl H7 H1.next [.slice none 0 0] := c7
    have d3 := k7.cl d3 (by simp; omega)
    obtain ⟨_, e8, l8, g8⟩ := id d3
    refine Exists.intro _ (Exists.intro _ (Exists.intro _ (And.intro g8 (And.intro (by omega) (And.intro rfl (And.intro rfl (And.intro (by simp) ?_)))))))
    intro H8 hH8; obtain ⟨k8, n8, c8⟩ := up_facts d3 hH8; clear hH8
    have c8 : Cl H8 H2.next [iv 1] := c8
    have c7 := k8.cl c7 (by simp; omega)
    have k08 : Keep H H8 [] := (k06.new k7 (fun b hb => .inr (by simp at hb; omega))).new k8 (fun b hb => .inr (by simp at hb; omega))
    exact And.intro trivial (Or.inl ⟨rfl, _, res2 rfl rfl ag27 ag30 c7.rd c8.rd, k08, Or.inl ⟨hok, rfl⟩⟩)
  · refine And.intro rfl (Exists.intro (.agg zeroC.toArray) (And.intro (by kernel_rfl) ?_))
    refine And.intro rfl (Exists.intro (iv 2) (And.intro (by kernel_rfl) ?_))
    intro H5 hH5; obtain ⟨k5, n5, c5⟩ := new_facts hH5; clear hH5
    have c5 : Cl H5 H4.next zeroC := c5
    obtain ⟨_, e6, l6, g6⟩ := id c5
    refine Exists.intro _ (Exists.intro _ (Exists.intro _ (And.intro g6 (And.intro (by omega) (And.intro rfl (And.intro rfl (And.intro (by simp) ?_)))))))
    intro H6 hH6; obtain ⟨k6, n6, c6⟩ := up_facts c5 hH6; clear hH6
    have k46 : Keep H4 H6 [] := k5.new k6 (fun b hb => .inr (by simp at hb; omega))
    have k06 := k04.trans k46
    have m6 := k46.1
    have d2 := k46.cl d2 (by simp)
    have d3 := k46.cl d3 (by simp)
    intro y hy
    refine TriR.lowR hy ?_
    refine condT ?_
    obtain ⟨_, e7, l7, g7⟩ := id d2
    refine Exists.intro _ (Exists.intro _ (Exists.intro _ (And.intro g7 (And.intro (by omega) (And.intro rfl (And.intro rfl (And.intro (by simp) ?_)))))))
    intro H7 hH7; obtain ⟨k7, n7, c7⟩ := up_facts d2 hH7; clear hH7
    have c7 : Cl H7 H1.next [.slice none 0 0] := c7
    have d3 := k7.cl d3 (by simp; omega)
    obtain ⟨_, e8, l8, g8⟩ := id d3
    refine Exists.intro _ (Exists.intro _ (Exists.intro _ (And.intro g8 (And.intro (by omega) (And.intro rfl (And.intro rfl (And.intro (by simp) ?_)))))))
    intro H8 hH8; obtain ⟨k8, n8, c8⟩ := up_facts d3 hH8; clear hH8
    have c8 : Cl H8 H2.next [iv 2] := c8
    have c7 := k8.cl c7 (by simp; omega)
    have k08 : Keep H H8 [] := (k06.new k7 (fun b hb => .inr (by simp at hb; omega))).new k8 (fun b hb => .inr (by simp at hb; omega))
    exact And.intro trivial (Or.inl ⟨rfl, _, res2 rfl rfl ag27 ag30 c7.rd c8.rd, k08, Or.inr (Or.inl ⟨hok, .inl (by simpa [setB] using hfl), rfl⟩)⟩)
  have v := Lt.vd hok hwl hal
  have hn40 := v.n40
  refine And.intro rfl (Exists.intro (.agg (crs g s d (dayMask [])).toArray) (And.intro (by kernel_rfl) ?_))
  refine And.intro rfl (Exists.intro (iv 0) (And.intro (by kernel_rfl) ?_))
  intro H5 hH5; obtain ⟨k5, n5, c5⟩ := new_facts hH5; clear hH5
  have c5 : Cl H5 H4.next zeroC := c5
  obtain ⟨_, e6, l6, g6⟩ := id c5
  refine Exists.intro _ (Exists.intro _ (Exists.intro _ (And.intro g6 (And.intro (by omega) (And.intro rfl (And.intro rfl (And.intro (by simp) ?_)))))))
  intro H6 hH6; obtain ⟨k6, n6, c6⟩ := up_facts c5 hH6; clear hH6
  have c6 : Cl H6 H4.next (crs g s d (dayMask [])) := c6
  have k46 : Keep H4 H6 [] := k5.new k6 (fun b hb => .inr (by simp at hb; omega))
  have k06 := k04.trans k46
  have m6 := k46.1
  have d2 := k46.cl d2 (by simp)
  have d3 := k46.cl d3 (by simp)
  intro y hy
  refine TriR.lowR hy ?_
  refine condF ?_
  intro y hy
  refine TriR.lowR hy ?_
  refine And.intro (fun hg => ?_) (fun hg => ?_)
  · have hg : (d : Int) > 12 := of_decide_eq_true hg
    obtain ⟨_, e7, l7, g7⟩ := id d2
    refine Exists.intro _ (Exists.intro _ (Exists.intro _ (And.intro g7 (And.intro (by omega) (And.intro rfl (And.intro rfl (And.intro (by simp) ?_)))))))
    intro H7 hH7; obtain ⟨k7, n7, c7⟩ := up_facts d2 hH7; clear hH7
    have c7 : Cl H7 H1.next [.slice none 0 0] := c7
    have d3 := k7.cl d3 (by simp; omega)
    obtain ⟨_, e8, l8, g8⟩ := id d3
    refine Exists.intro _ (Exists.intro _ (Exists.intro _ (And.intro g8 (And.intro (by omega) (And.intro rfl (And.intro rfl (And.intro (by simp) ?_)))))))
    intro H8 hH8; obtain ⟨k8, n8, c8⟩ := up_facts d3 hH8; clear hH8
    have c8 : Cl H8 H2.next [iv 2] := c8
    have c7 := k8.cl c7 (by simp; omega)
    have k08 : Keep H H8 [] := (k06.new k7 (fun b hb => .inr (by simp at hb; omega))).new k8 (fun b hb => .inr (by simp at hb; omega))
    exact And.intro trivial (Or.inl ⟨rfl, _, res2 rfl rfl ag27 ag30 c7.rd c8.rd, k08, Or.inr (Or.inl ⟨hok, .inr (by omega), rfl⟩)⟩)
  have hd : ¬ (d : Int) > 12 := of_decide_eq_false hg
  have hd : d ≤ 12 := by omega
  intro y hy
  refine TriR.lowL hy ?_
  intro z hz
  refine TriR.lowR hz ?_
  refine Exists.intro _ (Exists.intro _ (And.intro c6.of (And.intro (show row 2 _ 13 = some [iv (s : Int), iv (d : Int)] from rfl) ?_)))
  obtain ⟨bc, H7, f7, k7, hbc, rb⟩ := sets_ok (kn := kn) (lo := lo) (H := H6) (s := s) (d := d)
  refine Exists.intro _ (Exists.intro _ (And.intro (callX_args f7) ?_))
  intro y hy
  refine TriR.lowB hy ?_
  rw [E28_1]
  refine TriR.range rfl ?_
  intro H8 k8 n8 hdf hlp
  have k68 := k7.trans k8
  have k08 := k06.trans k68
  have lbc := rb.lt
  have m7 := k7.1
  let X : FX := ⟨H1.next, H2.next, H4.next, bc, H7.next⟩
  let c : FC := ⟨g, s, d⟩
  have G : FG X lo H := ⟨by show H.next ≤ H1.next; omega, by show lo ≤ H1.next; omega, by show H1.next < H2.next; omega, by show H2.next < H4.next; omega, by show H4.next < bc; omega, by show bc < H7.next; omega⟩
  have j0 : FJ X c H 0 0 H8 := ⟨k68.cl d2 (by simp), k68.cl d3 (by simp), ⟨_, k68.cl c6 (by simp)⟩, k8.rd rb (by simp), k08.sl0 hw, k08.sl0 ha, ⟨fun y hy hc => by omega, fun y hy hc h2 => by have := revB_lt d y; have h2 : 2 ^ d ≤ revB d y + 0 := h2; omega⟩, hlp.weak ⟨rfl, rfl, rfl, trivial⟩, by show H7.next + 1 < H8.next; omega, hdf, k08⟩
  obtain ⟨H9, h9, hend⟩ := iter74_ok (kn := kn) (lo := lo) (H := H8) (l := H7.next + 1) (bc := bc) (s := s) (d := d) hd (by omega) (fun k n H' => FJ X c H k n H') (fun k n H' => FD X c lo H k n H') j0 (fun k n H' j => j.cb) (fun k n H1' H2' j kk => j.keep kk) (fun k n H' j => by have := j.kp.1; omega)
    (fun k n H' hn j hne => { j with all := FAll.skip hn j.all (.inl hne) }) (fun k H' j => { j with all := FAll.up j.all })
    (fun k n H' hk hn j hc => fr_round h48 G v hsd hd fw fa (revB_lt d _) hc (by rw [revB_rev d _ (by omega)]; show 2 ^ d - 1 - n + n + 1 = 2 ^ d; omega) j)
  refine Exists.intro _ (Exists.intro H9 (And.intro (callX_func rfl (by simpa using h9)) ?_))
  rcases hend with j | ⟨k, n, hk, hn, dn⟩
  · refine ⟨.ready, none, _, j.lp, by simp, ?_⟩
    intro H10 s10
    have k10 := s10.keep
    have hn10 : H10.next = H9.next := s10.1
    have ll : H7.next + 1 < H9.next := j.ll
    have kH : Keep H H10 [] := j.kp.new k10 (fun b hb => .inr (by simp at hb; omega))
    have q6 : Cl H9 H1.next [.slice none 0 0] := j.c6
    have q7 : Cl H9 H2.next [iv 0] := j.c7
    have d2 := k10.cl q6 (by simp; omega)
    have d3 := k10.cl q7 (by simp; omega)
    have dj : H10.t.get H7.next = some (.dfr (some [])) := by
      rw [k10.2 H7.next (by omega) (by simp)]; exact j.dfr
    obtain ⟨_, e11, l11, g11⟩ := id d2
    refine Exists.intro _ (Exists.intro _ (Exists.intro _ (And.intro g11 (And.intro (by omega) (And.intro rfl (And.intro rfl (And.intro (by simp) ?_)))))))
    intro H11 hH11; obtain ⟨k11, n11, c11⟩ := up_facts d2 hH11; clear hH11
    have c11 : Cl H11 H1.next [.slice none 0 0] := c11
    have d3 := k11.cl d3 (by simp; omega)
    obtain ⟨_, e12, l12, g12⟩ := id d3
    refine Exists.intro _ (Exists.intro _ (Exists.intro _ (And.intro g12 (And.intro (by omega) (And.intro rfl (And.intro rfl (And.intro (by simp) ?_)))))))
    intro H12 hH12; obtain ⟨k12, n12, c12⟩ := up_facts d3 hH12; clear hH12
    have c12 : Cl H12 H2.next [iv 4] := c12
    have c11 := k12.cl c11 (by simp; omega)
    have k012 : Keep H H12 [] := (kH.new k11 (fun b hb => .inr (by simp at hb; omega))).new k12 (fun b hb => .inr (by simp at hb; omega))
    have dj12 : H12.t.get H7.next = some (.dfr (some [])) := by
      rw [k12.2 H7.next (by omega) (by simp; omega), k11.2 H7.next (by omega) (by simp; omega)]; exact dj
    refine And.intro trivial (Or.inr ⟨H7.next, rfl, by omega, dj12, fun H13 hn13 hs13 => ?_⟩)
    have k13 : Keep H12 H13 [H7.next] := ⟨by omega, fun b _ hb => hs13 b (by simpa using hb)⟩
    exact ⟨_, res2 rfl rfl ag27 ag30 (k13.cl c11 (by simp; omega)).rd (k13.cl c12 (by simp; omega)).rd, k012.new k13 (fun b hb => .inr (by simp at hb; omega)), .inr (.inr ⟨hok, s, d, rfl, rfl, hsd, hd, .inl ⟨fun y hy => j.all.1 y hy (by have := cnt_le d y; show cnt d y < d + 1; omega), rfl⟩⟩)⟩
  · refine ⟨.done, some .ret, _, dn.lp, by simp, ?_⟩
    intro H10 s10
    have k10 := s10.keep
    have hn10 : H10.next = H9.next := s10.1
    have ll : H7.next + 1 < H9.next := dn.ll
    have kH : Keep H H10 [] := dn.kp.new k10 (fun b hb => .inr (by simp at hb; omega))
    obtain ⟨y, ov, hy, hc, hr, hff, q6, acc⟩ := dn.res
    have q6 : Cl H9 H1.next [ov] := q6
    have q7 : Cl H9 H2.next [iv 0] := dn.c7
    have d2 := k10.cl q6 (by simp; omega)
    have d3 := k10.cl q7 (by simp; omega)
    have dj : H10.t.get H7.next = some (.dfr (some [])) := by
      rw [k10.2 H7.next (by omega) (by simp)]; exact dn.dfr
    refine And.intro trivial (Or.inr ⟨H7.next, rfl, by omega, dj, fun H13 hn13 hs13 => ?_⟩)
    have k13 : Keep H10 H13 [H7.next] := ⟨by omega, fun b _ hb => hs13 b (by simpa using hb)⟩
    have acc := ((acc.other k10 (by intro b hb; simp at hb; show b < H7.next + 2; omega)).other k13 (by intro b hb; simp at hb; show b < H7.next + 2; omega)).lower (f2 := H.next) (by show H.next ≤ H7.next + 2; omega)
    have hc : cnt d y = k := hc
    have hr : revB d y + n + 1 = 2 ^ d := hr
    exact ⟨_, res2 rfl rfl ag27 ag30 (k13.cl d2 (by simp; omega)).rd (k13.cl d3 (by simp; omega)).rd, kH.new k13 (fun b hb => .inr (by simp at hb; omega)), .inr (.inr ⟨hok, s, d, rfl, rfl, hsd, hd, .inr ⟨y, ov, hy, hff, fun z hz hfz => by
      have hz : z < 2 ^ d := hz
      rcases Nat.lt_or_ge (cnt d z) k with q | q
      · exact absurd hfz (dn.all.1 z hz q)
      · rcases Nat.lt_or_ge k (cnt d z) with q2 | q2
        · left; omega
        · right
          refine ⟨by omega, ?_⟩
          rcases Nat.lt_or_ge (revB d z + n) (2 ^ d) with q3 | q3
          · omega
          · exact absurd hfz (dn.all.2 z hz (by show cnt d z = k; omega) q3), rfl, acc⟩⟩)⟩
end
end Go.Ax

/-
  Late: the law LateFreshest, whatever the input (written by program).
-/
namespace Go.Ax
open Go Go.RowKit Go.Proofs

section
variable {n : Nat} {S : Rg} {x y : Operand} {o : Option Tmp}
theorem h_shr {m d : Nat} (h : d < 16) (hx : evS S x = some (.int .u16 (m : Int))) (hy : evS S y = some (iv (d : Int))) : pureOp Try.prog (frS n S) ⟨o, .binOp .shr 56 x y 3, 56, "", #[], none⟩ = some (.int .u16 ((m / 2 ^ d : Nat) : Int)) := by
  have e : prun Try.prog (do eqGuard .shr 56 x y (.int .u16 (m : Int)) (.int .i64 (d : Int)); binOp .shr 56 (.int .u16 (m : Int)) (.int .i64 (d : Int))) = some (.int .u16 ((m / 2 ^ d : Nat) : Int)) := by
    show prun Try.prog (Op.shift .shr .u16 (m : Int) .i64 (d : Int)) = _
    unfold Op.shift
    rw [if_neg (by omega)]
    show some (Value.int .u16 ((m : Int).fdiv (2 ^ min d 16))) = _
    rw [Nat.min_eq_left (by omega), Int.fdiv_eq_ediv_of_nonneg _ (by exact Int.le_of_lt (Int.pow_pos (by decide)))]
    congr 2
  unfold pureOp
  simp only [ev_frS, hx, hy, flat, flat1, Bool.and_self, cond_true, e]
theorem h_and1 {m : Nat} (hm : m < 65536) (hx : evS S x = some (.int .u16 (m : Int))) (hy : evS S y = some (.int .u16 1)) : pureOp Try.prog (frS n S) ⟨o, .binOp .and 56 x y 56, 56, "", #[], none⟩ = some (.int .u16 ((m % 2 : Nat) : Int)) := by
  have e : prun Try.prog (do eqGuard .and 56 x y (.int .u16 (m : Int)) (.int .u16 1); binOp .and 56 (.int .u16 (m : Int)) (.int .u16 1)) = some (.int .u16 ((m % 2 : Nat) : Int)) := by
    show some (Value.int .u16 (IntKind.u16.wrap ((BitVec.ofInt 16 (m : Int) &&& BitVec.ofInt 16 (1 : Int)).toNat : Int))) = _
    have e : (BitVec.ofInt 16 (m : Int) &&& BitVec.ofInt 16 (1 : Int)).toNat = m % 2 := by
      have h1 : BitVec.ofInt 16 (m : Int) = BitVec.ofNat 16 m := by simp
      have h2 : BitVec.ofInt 16 (1 : Int) = BitVec.ofNat 16 1 := by rfl
      rw [h1, h2, BitVec.toNat_and]
      simp only [BitVec.toNat_ofNat]
      rw [Nat.mod_eq_of_lt (a := m) (by omega), Nat.mod_eq_of_lt (a := 1) (by decide), Nat.and_one_is_mod]
    have w : IntKind.u16.wrap ((m % 2 : Nat) : Int) = ((m % 2 : Nat) : Int) := by
      unfold IntKind.wrap IntKind.bits IntKind.signed
      simp
      omega
    rw [e, w]
  unfold pureOp
  simp only [ev_frS, hx, hy, flat, flat1, Bool.and_self, cond_true, e]
theorem h_eql {m : Nat} (hx : evS S x = some (.int .u16 (m : Int))) (hy : evS S y = some (.int .u16 1)) : pureOp Try.prog (frS n S) ⟨o, .binOp .eql 56 x y 56, 4, "", #[], none⟩ = some (.bool (decide (m = 1))) := by
  have e : prun Try.prog (do eqGuard .eql 56 x y (.int .u16 (m : Int)) (.int .u16 1); binOp .eql 56 (.int .u16 (m : Int)) (.int .u16 1)) = some (.bool ((m : Int) == 1)) := rfl
  unfold pureOp
  simp only [ev_frS, hx, hy, flat, flat1, Bool.and_self, cond_true, e]
  congr 2
  by_cases h : m = 1
  · subst h; rfl
  · rw [decide_eq_false h]; exact beq_eq_false_iff_ne.2 (by omega)
end
theorem bl_mod {d X : Nat} (o : Int) : ∀ i, i ≤ d → bl i (X % 2 ^ d) o = bl i X o
  | 0, _ => rfl
  | i + 1, h => by
    rw [bl_step, bl_step, bl_mod o i (by omega), Nat.testBit_mod_two_pow, decide_eq_true (show i < d by omega), Bool.true_and]
theorem bl_low (d X : Nat) : ∃ y, y < 2 ^ d ∧ ∀ o, bl d X o = bl d y o := ⟨X % 2 ^ d, Nat.mod_lt _ (Nat.pow_pos (by decide)), fun o => (bl_mod o d (Nat.le_refl d)).symm⟩
theorem ff_mask {g : Lt} {s d y : Nat} (hy : y < 2 ^ d) : g.ff s d y ↔ g.sl s (Nat.testBit (dayMask (bl d y (s : Int)))) d ≤ g.bear := by
  have e : Nat.testBit (dayMask (bl d y (s : Int))) = Nat.testBit (y * 2 ^ s) := funext fun i => bl_mask hy i
  rw [e]; exact Iff.rfl
section
variable {kn : FuncId → Option Bool} {lo : Nat} {H : Hp}
/-- Tells of a flood with fresh days -/
theorem tells_ff (h48 : kn 48 = none) {g : Lt} (hw : Sl H g.wa g.wn g.wcap (spc g.ws)) (ha : Sl H g.aa g.an g.acap (spc g.as)) (hwl : g.ws.length = g.wn) (hal : g.as.length = g.an) (hwn : g.wn ≤ 1000) (han : g.an ≤ 1000) (hok : g.ok = true) {a b : Int} (s d : Nat) (ea : a = (s : Int)) (eb : b = (d : Int)) (hsd : s + d ≤ g.wn) {y : Nat} (hy : y < 2 ^ d) {la : Option Addr} {cap : Nat} (hl : Sl H la (cnt d y) cap (ints (bl d y (s : Int)))) (hlo : lo ≤ H.next) :
    ∃ (x z : Int) (H' : Hp), FnX Try.prog kn lo 19 [.agg g.v.toArray, iv a, iv b, .slice la (cnt d y) cap] H (.tuple #[iv x, iv z, iv 0]) H' ∧ Keep H H' [] ∧ (z = 0 ↔ g.ff s d y) := by
  subst ea; subst eb
  have v := Lt.vd hok hwl hal
  have hn40 := v.n40
  have hcd := cnt_le d y
  obtain ⟨w, H', hf, hk, hc⟩ := tells_ok (kn := kn) (lo := lo) (H := H) (us := bl d y (s : Int)) (a := (s : Int)) (b := (d : Int)) h48 hw ha hwl hal hwn han (la := la) (n := cnt d y) (cap := cap) hl (bl_len _ _ _) (by omega) hlo
  obtain rfl := hc.c2 hok hsd (bl_set d y s _ _ (Int.le_refl _) (Int.le_refl _))
  have h2 := Lt.sm_sl v (F := Nat.testBit (dayMask (bl d y (s : Int)))) d hsd
  refine ⟨_, _, H', hf, hk, ?_⟩
  rw [ff_mask hy]
  show sureV (decide (g.sm s (Nat.testBit (dayMask (bl d y (s : Int)))) d > g.bear)) (decide (g.sl s (Nat.testBit (dayMask (bl d y (s : Int)))) d > g.bear)) = 0 ↔ _
  constructor
  · intro e; have := of_decide_eq_false (sure_zero e); omega
  · intro e; rw [decide_eq_false (show ¬ g.sl s (Nat.testBit (dayMask (bl d y (s : Int)))) d > g.bear by omega), decide_eq_false (show ¬ g.sm s (Nat.testBit (dayMask (bl d y (s : Int)))) d > g.bear by omega)]; rfl
set_option maxRecDepth 100000 in
set_option maxHeartbeats 4000000 in
theorem law_freshest (hkn : kn 14 = some true) (h48 : kn 48 = none) {g : Lt} (hw : Sl H g.wa g.wn g.wcap (spc g.ws)) (ha : Sl H g.aa g.an g.acap (spc g.as)) (hwl : g.ws.length = g.wn) (hal : g.as.length = g.an) {a b x : Int} (hx : 0 ≤ x ∧ x ≤ 65535) (hlo : lo ≤ H.next) :
    ∃ H', FnX Try.prog kn lo 10 [.agg g.v.toArray, iv a, iv b, .int .u16 x] H (.bool true) H' := by
  obtain ⟨X, rfl⟩ : ∃ X : Nat, x = (X : Int) := ⟨x.toNat, by omega⟩
  have key := fnX_low (kn := kn) (lo := lo) (H := H) (args := [.agg g.v.toArray, iv a, iv b, .int .u16 (X : Int)]) (Q := fun w H' => w = .bool true) Try.func10 B10 N10 Z10 L10 (by simp) ?_
  · obtain ⟨w, H', hf, rfl⟩ := key; exact ⟨H', hf⟩
  have al : ∀ (H9 : Hp) (K : Value → Hp → Prop), K (.bool true) H9 → ∃ v H', CallsX Try.prog kn lo (.fn (.func 14) #[]) [] H9 v H' ∧ K v H' := fun H9 K h => ⟨_, _, callX_known hkn, h⟩
  have hk := Keep.refl H []
  have fw := hw.old; have fa := ha.old
  intro H1 hH1; obtain ⟨kH1, nH1, c1⟩ := new_facts hH1; clear hH1
  have mH1 := kH1.1
  have hk := hk.trans kH1
  have hw := kH1.sl0 hw
  have ha := kH1.sl0 ha
  have c1 : Cl H1 H.next [.slice g.wa g.wn g.wcap, .slice g.aa g.an g.acap, iv g.r1, iv g.r2, iv g.f1, iv g.f2, iv g.g1, iv g.g2, iv g.full, iv g.base, iv g.kill, iv g.need, iv g.bear] := c1
  refine Exists.intro _ (Exists.intro _ (And.intro c1.of (And.intro (show row 13 _ _ = some [.slice g.wa g.wn g.wcap, .slice g.aa g.an g.acap, iv g.r1, iv g.r2, iv g.f1, iv g.f2, iv g.g1, iv g.g2, iv g.full, iv g.base, iv g.kill, iv g.need, iv g.bear] from rfl) ?_)))
  refine callB ((great_ok (la := none) (n := 0) (cap := 0))) ?_
  intro tH2 H2 hH2 kH2
  have mH2 := kH2.1
  have hk := hk.trans kH2
  have hw := kH2.sl0 hw
  have ha := kH2.sl0 ha
  have c1 := kH2.cl c1 (by simp)
  cases tH2
  · have hgr : g.wn ≤ 45 ∧ g.an ≤ 45 := by simp at hH2; omega
    refine condF ?_
    refine Exists.intro _ (Exists.intro _ (And.intro c1.of (And.intro (show row 13 _ _ = some [.slice g.wa g.wn g.wcap, .slice g.aa g.an g.acap, iv g.r1, iv g.r2, iv g.f1, iv g.f2, iv g.g1, iv g.g2, iv g.full, iv g.base, iv g.kill, iv g.need, iv g.bear] from rfl) ?_)))
    obtain ⟨wH3, H3, fH3, kH3, hc⟩ := freshen_ok (kn := kn) (lo := lo) (H := H2) (g := g) (a := a) (b := b) h48 hw ha hwl hal (by omega) (by omega) (by omega)
    have mH3 := kH3.1
    have hk := hk.trans kH3
    have hw := kH3.sl0 hw
    have ha := kH3.sl0 ha
    have c1 := kH3.cl c1 (by simp)
    rcases hc with ⟨hok, rfl⟩ | ⟨hok, hbd, rfl⟩ | ⟨hok, s, d, rfl, rfl, hsd, hd12, ⟨hnone, rfl⟩ | ⟨y0, ov, hy0, hff0, hbest, rfl, hfa⟩⟩
    · refine Exists.intro _ (Exists.intro _ (And.intro (callX_args fH3) ?_))
      refine And.intro rfl (Exists.intro (.slice none 0 0) (And.intro (by kernel_rfl) ?_))
      refine And.intro rfl (Exists.intro (iv 1) (And.intro (by kernel_rfl) ?_))
      intro t1 g1; obtain rfl : t1 = true := by rw [← g1]; rfl
      intro t2 g2; obtain rfl : t2 = true := by rw [← g2]; rfl
      refine And.intro rfl (Exists.intro (.bool true) (And.intro rfl ?_))
      refine condT ?_
      intro t3 g3; obtain rfl : t3 = true := by rw [← g3]; rfl
      refine al _ _ ?_
      refine And.intro rfl (Exists.intro (.bool true) (And.intro rfl ?_))
      exact And.intro trivial (Exists.intro _ (And.intro rfl rfl))
    · refine Exists.intro _ (Exists.intro _ (And.intro (callX_args fH3) ?_))
      refine And.intro rfl (Exists.intro (.slice none 0 0) (And.intro (by kernel_rfl) ?_))
      refine And.intro rfl (Exists.intro (iv 2) (And.intro (by kernel_rfl) ?_))
      intro t4 g4; obtain rfl : t4 = true := by rw [← g4]; rfl
      intro t5 g5; obtain rfl : t5 = true := by rw [← g5]; rfl
      refine And.intro rfl (Exists.intro (.bool true) (And.intro rfl ?_))
      refine condT ?_
      intro t6 g6; obtain rfl : t6 = true := by rw [← g6]; rfl
      refine al _ _ ?_
      refine And.intro rfl (Exists.intro (.bool true) (And.intro rfl ?_))
      exact And.intro trivial (Exists.intro _ (And.intro rfl rfl))
    · have v := Lt.vd hok hwl hal; have hn40 := v.n40
      refine Exists.intro _ (Exists.intro _ (And.intro (callX_args fH3) ?_))
      refine And.intro rfl (Exists.intro (.slice none 0 0) (And.intro (by kernel_rfl) ?_))
      refine And.intro rfl (Exists.intro (iv 4) (And.intro (by kernel_rfl) ?_))
      intro t7 g7; obtain rfl : t7 = true := by rw [← g7]; rfl
      intro t8 g8; obtain rfl : t8 = false := by rw [← g8]; rfl
      refine And.intro rfl (Exists.intro (.bool false) (And.intro rfl ?_))
      refine condF ?_
      obtain ⟨z0, hz0⟩ : ∃ z, z = H.next := ⟨_, rfl⟩
      obtain ⟨ff, hff⟩ : ∃ z, z = H3.next := ⟨_, rfl⟩
      have b36 : z0 < ff ∧ H.next ≤ z0 := by omega
      rw [← hz0] at c1
      rw [← hz0]
      have hfm : ff ≤ H3.next := by omega
      clear hz0 hff
      refine loop_low (fn := Try.f10) E10_1 N10 L10x1 (fun x0 : Value × Nat => [(1, iv (s : Int)), (2, iv (d : Int)), (3, .int .u16 (X : Int)), (4, pt z0), (9, .slice none 0 0), (10, iv 4), (11, x0.1), (42, iv (d : Int)), (43, iv (x0.2 : Int))])
        (fun q x0 H' => x0.2 + q = d ∧ Keep H H' [] ∧ Sl H' g.wa g.wn g.wcap (spc g.ws) ∧ Sl H' g.aa g.an g.acap (spc g.as) ∧ Cl H' z0 g.v ∧ Acc lo ff 3 H' x0.1 (bl x0.2 X (s : Int)).length (ints (bl x0.2 X (s : Int))) ∧ ff ≤ H'.next) d (.slice none 0 0, 0) ⟨by show 0 + d = d; omega, hk, hw, ha, c1, .inl ⟨rfl, rfl, rfl⟩, hfm⟩ ⟨rfl, rfl, rfl, rfl, rfl, rfl, rfl, rfl, rfl, trivial⟩ ?_
      rintro q ⟨wv, j⟩ L1 ⟨hik, hk, hw, ha, cA, hacc, hfl⟩
      simp only at hik hacc
      have hm := hk.1; have l13 := cA.lt
      have kacc := Keep.refl L1 []
      have hlen : (bl j X (s : Int)).length ≤ 64 := by rw [bl_len]; have := cnt_le j X; omega
      refine And.intro (fun q9 => ?_) (fun q9 => ?_)
      · have q9 : (j : Int) < (d : Int) := of_decide_eq_true q9
        have hj : j < d := by omega
        refine And.intro rfl (Exists.intro _ (And.intro (h_shr (m := X) (d := j) (by omega) rfl rfl) ?_))
        refine And.intro rfl (Exists.intro _ (And.intro (h_and1 (m := X / 2 ^ j) (Nat.lt_of_le_of_lt (Nat.div_le_self _ _) (by omega)) rfl rfl) ?_))
        refine And.intro rfl (Exists.intro _ (And.intro (h_eql (m := X / 2 ^ j % 2) rfl rfl) ?_))
        rw [show decide (X / 2 ^ j % 2 = 1) = X.testBit j from (Nat.testBit_eq_decide_div_mod_eq).symm]
        cases hbit : X.testBit j
        · refine condF ?_
          refine And.intro (show InR ((j : Int) + 1) from ⟨by omega, by omega⟩) ?_
          refine ⟨q - 1, (wv, j + 1), by omega, ⟨by show j + 1 + (q - 1) = d; omega, hk, hw, ha, cA, ?_, hfl⟩, rfl, rfl, rfl, rfl, rfl, rfl, rfl, rfl, rfl, trivial⟩
          show Acc _ _ _ _ _ (bl (j + 1) X (s : Int)).length (ints (bl (j + 1) X (s : Int)))
          have e : bl (j + 1) X (s : Int) = bl j X (s : Int) := by rw [bl_step, hbit]; simp
          rw [e]; exact hacc
        · refine condT ?_
          refine And.intro (show InR ((s : Int) + (j : Int)) from ⟨by omega, by omega⟩) ?_
          obtain ⟨H4, hH4⟩ : ∃ H4, L1.new (.cells [iv ((s : Int) + (j : Int))] 3 false) = H4 := ⟨_, rfl⟩
          refine And.intro rfl (Or.inr (And.intro (by kernel_rfl) (Exists.intro _ (Exists.intro H4 (Exists.intro _ (And.intro ((heap_build1 (v := iv ((s : Int) + (j : Int))) se27 z3 rfl rfl rfl (by decide)).trans (by rw [← hH4]; rfl)) (And.intro (fun b e => by cases e) ?_)))))))
          obtain ⟨kH4, nH4, c4⟩ := new_facts hH4; clear hH4
          have c4 : Cl H4 L1.next [iv ((s : Int) + (j : Int))] := c4
          have mH4 := kH4.1
          have hk := hk.trans kH4
          have hw := kH4.sl0 hw
          have ha := kH4.sl0 ha
          have cA := kH4.cl cA (by simp)
          have kacc := kacc.trans kH4
          obtain ⟨H5, kdH5, eH5, dH5, aH5, kbH5⟩ := heap_append_below (P := Try.prog) (lo := lo) (k := (bl j X (s : Int)).length) (t1 := 27) se27 u27 (c4.sl (Nat.le_refl 1)) rfl (by decide) rfl (by rw [ints_len]; simp) (by omega) (hacc.keep kacc) (by omega) (by omega)
          refine And.intro rfl (Or.inr (And.intro (by cases wv <;> kernel_rfl) (Exists.intro _ (Exists.intro H5 (Exists.intro _ (And.intro (eH5 _ _ _ _ _ _ _ rfl rfl) (And.intro (reg_ok dH5 _) ?_)))))))
          have hk := kbH5.keep hk (by omega)
          have hw := kbH5.sl hw (fun b e => by have := fw b e; omega)
          have ha := kbH5.sl ha (fun b e => by have := fa b e; omega)
          have cA := kbH5.cl cA (by omega)
          have mH5 := kbH5.1
          refine And.intro (show InR ((j : Int) + 1) from ⟨by omega, by omega⟩) ?_
          refine ⟨q - 1, (_, j + 1), by omega, ⟨by show j + 1 + (q - 1) = d; omega, hk, hw, ha, cA, ?_, by omega⟩, rfl, rfl, rfl, rfl, rfl, rfl, rfl, rfl, rfl, trivial⟩
          show Acc _ _ _ _ _ (bl (j + 1) X (s : Int)).length (ints (bl (j + 1) X (s : Int)))
          have e : bl (j + 1) X (s : Int) = bl j X (s : Int) ++ [(s : Int) + (j : Int)] := by rw [bl_step, hbit]; simp
          rw [e]; simp only [List.length_append, List.length_singleton]; simp only [ints, List.map_append, List.map_cons, List.map_nil]; exact aH5
      · have q9 : ¬ ((j : Int) < (d : Int)) := of_decide_eq_false q9
        have hj : d = j := by omega
        subst hj
        obtain ⟨y, hy, hbl⟩ := bl_low d X
        rw [hbl, bl_len] at hacc
        have hcy := cnt_le d y
        obtain ⟨oa, oc, rfl, hot, _⟩ := hacc.sl
        have fot : ∀ b, oa = some ⟨b, 0, none⟩ → b < L1.next := hot.old
        refine Exists.intro _ (Exists.intro _ (And.intro cA.of (And.intro (show row 13 _ _ = some [.slice g.wa g.wn g.wcap, .slice g.aa g.an g.acap, iv g.r1, iv g.r2, iv g.f1, iv g.f2, iv g.g1, iv g.g2, iv g.full, iv g.base, iv g.kill, iv g.need, iv g.bear] from rfl) ?_)))
        obtain ⟨x1, z1, H6, fH6, kH6, iz1⟩ := tells_ff (kn := kn) (lo := lo) (H := L1) (a := (s : Int)) (b := (d : Int)) h48 hw ha hwl hal (by omega) (by omega) hok s d rfl rfl hsd hy hot (by omega)
        have mH6 := kH6.1
        have hk := hk.trans kH6
        have hw := kH6.sl0 hw
        have ha := kH6.sl0 ha
        have cA := kH6.cl cA (by simp)
        have hot := kH6.sl0 hot
        refine Exists.intro _ (Exists.intro _ (And.intro (callX_args fH6) ?_))
        refine And.intro rfl (Exists.intro (iv x1) (And.intro (by kernel_rfl) ?_))
        refine And.intro rfl (Exists.intro (iv z1) (And.intro (by kernel_rfl) ?_))
        refine And.intro rfl (Exists.intro (iv 0) (And.intro (by kernel_rfl) ?_))
        refine condF ?_
        refine condT ?_
        intro t10 g10; obtain rfl : t10 = true := by rw [← g10]; rfl
        intro t11 g11; cases t11
        · have g11 : ¬ (z1 ≠ 0) := by simpa using g11
          exact absurd (iz1.1 (by omega)) (hnone y hy)
        · have g11 : z1 ≠ 0 := by simpa using g11
          refine And.intro rfl (Exists.intro (.bool true) (And.intro rfl ?_))
          refine al _ _ ?_
          refine And.intro rfl (Exists.intro (.bool true) (And.intro rfl ?_))
          exact And.intro trivial (Exists.intro _ (And.intro rfl rfl))
    · have v := Lt.vd hok hwl hal; have hn40 := v.n40
      obtain ⟨va, vc, rfl, hfr, _⟩ := hfa.sl
      have ffr : ∀ b, va = some ⟨b, 0, none⟩ → b < H3.next := hfr.old
      have hc0 := cnt_le d y0
      refine Exists.intro _ (Exists.intro _ (And.intro (callX_args fH3) ?_))
      refine And.intro rfl (Exists.intro (.slice va (cnt d y0) vc) (And.intro (by kernel_rfl) ?_))
      refine And.intro rfl (Exists.intro (iv 0) (And.intro (by kernel_rfl) ?_))
      intro t12 g12; obtain rfl : t12 = false := by rw [← g12]; rfl
      refine And.intro rfl (Exists.intro (.bool false) (And.intro rfl ?_))
      refine condF ?_
      obtain ⟨z0, hz0⟩ : ∃ z, z = H.next := ⟨_, rfl⟩
      obtain ⟨ff, hff⟩ : ∃ z, z = H3.next := ⟨_, rfl⟩
      have b36 : z0 < ff ∧ H.next ≤ z0 := by omega
      have ffr : ∀ b, va = some ⟨b, 0, none⟩ → b < ff := fun b e => by have := ffr b e; omega
      rw [← hz0] at c1
      rw [← hz0]
      have hfm : ff ≤ H3.next := by omega
      clear hz0 hff
      refine loop_low (fn := Try.f10) E10_1 N10 L10x1 (fun x0 : Value × Nat => [(1, iv (s : Int)), (2, iv (d : Int)), (3, .int .u16 (X : Int)), (4, pt z0), (9, .slice va (cnt d y0) vc), (10, iv 0), (11, x0.1), (42, iv (d : Int)), (43, iv (x0.2 : Int))])
        (fun q x0 H' => x0.2 + q = d ∧ Keep H H' [] ∧ Sl H' g.wa g.wn g.wcap (spc g.ws) ∧ Sl H' g.aa g.an g.acap (spc g.as) ∧ Cl H' z0 g.v ∧ Sl H' va (cnt d y0) vc (ints (bl d y0 (s : Int))) ∧ Acc lo ff 3 H' x0.1 (bl x0.2 X (s : Int)).length (ints (bl x0.2 X (s : Int))) ∧ ff ≤ H'.next) d (.slice none 0 0, 0) ⟨by show 0 + d = d; omega, hk, hw, ha, c1, hfr, .inl ⟨rfl, rfl, rfl⟩, hfm⟩ ⟨rfl, rfl, rfl, rfl, rfl, rfl, rfl, rfl, rfl, trivial⟩ ?_
      rintro q ⟨wv, j⟩ L1 ⟨hik, hk, hw, ha, cA, hfr, hacc, hfl⟩
      simp only at hik hacc
      have hm := hk.1; have l13 := cA.lt
      have kacc := Keep.refl L1 []
      have hlen : (bl j X (s : Int)).length ≤ 64 := by rw [bl_len]; have := cnt_le j X; omega
      refine And.intro (fun q13 => ?_) (fun q13 => ?_)
      · have q13 : (j : Int) < (d : Int) := of_decide_eq_true q13
        have hj : j < d := by omega
        refine And.intro rfl (Exists.intro _ (And.intro (h_shr (m := X) (d := j) (by omega) rfl rfl) ?_))
        refine And.intro rfl (Exists.intro _ (And.intro (h_and1 (m := X / 2 ^ j) (Nat.lt_of_le_of_lt (Nat.div_le_self _ _) (by omega)) rfl rfl) ?_))
        refine And.intro rfl (Exists.intro _ (And.intro (h_eql (m := X / 2 ^ j % 2) rfl rfl) ?_))
        rw [show decide (X / 2 ^ j % 2 = 1) = X.testBit j from (Nat.testBit_eq_decide_div_mod_eq).symm]
        cases hbit : X.testBit j
        · refine condF ?_
          refine And.intro (show InR ((j : Int) + 1) from ⟨by omega, by omega⟩) ?_
          refine ⟨q - 1, (wv, j + 1), by omega, ⟨by show j + 1 + (q - 1) = d; omega, hk, hw, ha, cA, hfr, ?_, hfl⟩, rfl, rfl, rfl, rfl, rfl, rfl, rfl, rfl, rfl, trivial⟩
          show Acc _ _ _ _ _ (bl (j + 1) X (s : Int)).length (ints (bl (j + 1) X (s : Int)))
          have e : bl (j + 1) X (s : Int) = bl j X (s : Int) := by rw [bl_step, hbit]; simp
          rw [e]; exact hacc
        · refine condT ?_
          refine And.intro (show InR ((s : Int) + (j : Int)) from ⟨by omega, by omega⟩) ?_
          obtain ⟨H7, hH7⟩ : ∃ H7, L1.new (.cells [iv ((s : Int) + (j : Int))] 3 false) = H7 := ⟨_, rfl⟩
          refine And.intro rfl (Or.inr (And.intro (by kernel_rfl) (Exists.intro _ (Exists.intro H7 (Exists.intro _ (And.intro ((heap_build1 (v := iv ((s : Int) + (j : Int))) se27 z3 rfl rfl rfl (by decide)).trans (by rw [← hH7]; rfl)) (And.intro (fun b e => by cases e) ?_)))))))
          obtain ⟨kH7, nH7, c7⟩ := new_facts hH7; clear hH7
          have c7 : Cl H7 L1.next [iv ((s : Int) + (j : Int))] := c7
          have mH7 := kH7.1
          have hk := hk.trans kH7
          have hw := kH7.sl0 hw
          have ha := kH7.sl0 ha
          have cA := kH7.cl cA (by simp)
          have hfr := kH7.sl0 hfr
          have kacc := kacc.trans kH7
          obtain ⟨H8, kdH8, eH8, dH8, aH8, kbH8⟩ := heap_append_below (P := Try.prog) (lo := lo) (k := (bl j X (s : Int)).length) (t1 := 27) se27 u27 (c7.sl (Nat.le_refl 1)) rfl (by decide) rfl (by rw [ints_len]; simp) (by omega) (hacc.keep kacc) (by omega) (by omega)
          refine And.intro rfl (Or.inr (And.intro (by cases wv <;> kernel_rfl) (Exists.intro _ (Exists.intro H8 (Exists.intro _ (And.intro (eH8 _ _ _ _ _ _ _ rfl rfl) (And.intro (reg_ok dH8 _) ?_)))))))
          have hk := kbH8.keep hk (by omega)
          have hw := kbH8.sl hw (fun b e => by have := fw b e; omega)
          have ha := kbH8.sl ha (fun b e => by have := fa b e; omega)
          have cA := kbH8.cl cA (by omega)
          have hfr := kbH8.sl hfr (fun b e => by have := ffr b e; omega)
          have mH8 := kbH8.1
          refine And.intro (show InR ((j : Int) + 1) from ⟨by omega, by omega⟩) ?_
          refine ⟨q - 1, (_, j + 1), by omega, ⟨by show j + 1 + (q - 1) = d; omega, hk, hw, ha, cA, hfr, ?_, by omega⟩, rfl, rfl, rfl, rfl, rfl, rfl, rfl, rfl, rfl, trivial⟩
          show Acc _ _ _ _ _ (bl (j + 1) X (s : Int)).length (ints (bl (j + 1) X (s : Int)))
          have e : bl (j + 1) X (s : Int) = bl j X (s : Int) ++ [(s : Int) + (j : Int)] := by rw [bl_step, hbit]; simp
          rw [e]; simp only [List.length_append, List.length_singleton]; simp only [ints, List.map_append, List.map_cons, List.map_nil]; exact aH8
      · have q13 : ¬ ((j : Int) < (d : Int)) := of_decide_eq_false q13
        have hj : d = j := by omega
        subst hj
        obtain ⟨y, hy, hbl⟩ := bl_low d X
        rw [hbl, bl_len] at hacc
        have hcy := cnt_le d y
        obtain ⟨oa, oc, rfl, hot, _⟩ := hacc.sl
        have fot : ∀ b, oa = some ⟨b, 0, none⟩ → b < L1.next := hot.old
        refine Exists.intro _ (Exists.intro _ (And.intro cA.of (And.intro (show row 13 _ _ = some [.slice g.wa g.wn g.wcap, .slice g.aa g.an g.acap, iv g.r1, iv g.r2, iv g.f1, iv g.f2, iv g.g1, iv g.g2, iv g.full, iv g.base, iv g.kill, iv g.need, iv g.bear] from rfl) ?_)))
        obtain ⟨x1, z1, H9, fH9, kH9, iz1⟩ := tells_ff (kn := kn) (lo := lo) (H := L1) (a := (s : Int)) (b := (d : Int)) h48 hw ha hwl hal (by omega) (by omega) hok s d rfl rfl hsd hy hot (by omega)
        have mH9 := kH9.1
        have hk := hk.trans kH9
        have hw := kH9.sl0 hw
        have ha := kH9.sl0 ha
        have cA := kH9.cl cA (by simp)
        have hfr := kH9.sl0 hfr
        have hot := kH9.sl0 hot
        refine Exists.intro _ (Exists.intro _ (And.intro (callX_args fH9) ?_))
        refine And.intro rfl (Exists.intro (iv x1) (And.intro (by kernel_rfl) ?_))
        refine And.intro rfl (Exists.intro (iv z1) (And.intro (by kernel_rfl) ?_))
        refine And.intro rfl (Exists.intro (iv 0) (And.intro (by kernel_rfl) ?_))
        refine condF ?_
        refine condF ?_
        refine Exists.intro _ (Exists.intro _ (And.intro cA.of (And.intro (show row 13 _ _ = some [.slice g.wa g.wn g.wcap, .slice g.aa g.an g.acap, iv g.r1, iv g.r2, iv g.f1, iv g.f2, iv g.g1, iv g.g2, iv g.full, iv g.base, iv g.kill, iv g.need, iv g.bear] from rfl) ?_)))
        obtain ⟨x2, z2, H10, fH10, kH10, iz2⟩ := tells_ff (kn := kn) (lo := lo) (H := H9) (a := (s : Int)) (b := (d : Int)) h48 hw ha hwl hal (by omega) (by omega) hok s d rfl rfl hsd hy0 hfr (by omega)
        have mH10 := kH10.1
        have hk := hk.trans kH10
        have hw := kH10.sl0 hw
        have ha := kH10.sl0 ha
        have cA := kH10.cl cA (by simp)
        have hfr := kH10.sl0 hfr
        have hot := kH10.sl0 hot
        refine Exists.intro _ (Exists.intro _ (And.intro (callX_args fH10) ?_))
        refine And.intro rfl (Exists.intro (iv x2) (And.intro (by kernel_rfl) ?_))
        refine And.intro rfl (Exists.intro (iv z2) (And.intro (by kernel_rfl) ?_))
        refine And.intro rfl (Exists.intro (iv 0) (And.intro (by kernel_rfl) ?_))
        intro t14 g14; obtain rfl : t14 = false := by rw [← g14]; rfl
        intro t15 g15; cases t15
        · have g15 : ¬ (z2 ≠ 0) := by simpa using g15
          refine And.intro rfl (Exists.intro (.bool false) (And.intro rfl ?_))
          refine condF ?_
          intro t16 g16; cases t16
          · have g16 : ¬ (z1 ≠ 0) := by simpa using g16
            have hmin := hbest y hy (iz1.1 (by omega))
            intro t17 g17; cases t17
            · have g17 : ¬ (((cnt d y) : Int) > ((cnt d y0) : Int)) := of_decide_eq_false g17
              refine And.intro rfl (Exists.intro (.bool false) (And.intro rfl ?_))
              refine condF ?_
              refine And.intro (fun q18 => ?_) (fun q18 => ?_)
              · have q18 : ((cnt d y) : Int) < ((cnt d y0) : Int) := of_decide_eq_true q18
                exfalso; omega
              · have q18 : ¬ (((cnt d y) : Int) < ((cnt d y0) : Int)) := of_decide_eq_false q18
                obtain ⟨heq, hrev⟩ : cnt d y = cnt d y0 ∧ revB d y ≤ revB d y0 := by omega
                refine loop_low (fn := Try.f10) E10_2 N10 L10x2 (fun i : Nat => [(9, .slice va (cnt d y0) vc), (11, .slice oa (cnt d y) oc), (112, iv ((cnt d y0) : Int)), (113, iv (i : Int))])
                  (fun k i H' => i + k = cnt d y0 ∧ Keep H10 H' [] ∧ ∀ q, q < i → (bl d y0 (s : Int))[q]? = (bl d y (s : Int))[q]?) (cnt d y0) 0 ⟨by omega, Keep.refl _ _, fun q hq => by omega⟩ ⟨rfl, rfl, rfl, rfl, trivial⟩ ?_
                rintro k i L2 ⟨hik, hki, hsm⟩
                have hm2 := hki.1
                have hk := hk.trans hki
                have hw := hki.sl0 hw
                have ha := hki.sl0 ha
                have cA := hki.cl cA (by simp)
                have hfr := hki.sl0 hfr
                have hot := hki.sl0 hot
                have kb := hki
                refine And.intro (fun q19 => ?_) (fun q19 => ?_)
                · have q19 : (i : Int) < ((cnt d y0) : Int) := of_decide_eq_true q19
                  have hi : i < cnt d y0 := by omega
                  obtain ⟨u, hu⟩ := get_some (l := bl d y0 (s : Int)) (i := i) (by rw [bl_len]; omega)
                  obtain ⟨v1, hv⟩ := get_some (l := bl d y (s : Int)) (i := i) (by rw [bl_len]; omega)
                  have hi2 : i < cnt d y := by omega
                  rcases hfr with ⟨_, h0, _⟩ | ⟨b1, rfl, rb1, _⟩
                  · omega
                  have lb1 := rb1.lt
                  rcases hot with ⟨_, h0, _⟩ | ⟨b2, rfl, rb2, _⟩
                  · omega
                  have lb2 := rb2.lt
                  refine wD_seq ?_
                  refine wD_mov (v := .slice (some ⟨b1, 0, none⟩) (cnt d y0) vc) rfl ?_
                  refine wD_mov (v := iv (i : Int)) rfl ?_
                  refine wD_idx (b := b1) (o := 0) (k := i) (j := (i : Int)) rfl rfl rfl hi ?_
                  refine wD_ld (b := b1) (o := 0 + i * 1) (v := iv u) rfl rb1 (ints_at hu) ?_
                  refine wD_mov (v := .slice (some ⟨b2, 0, none⟩) (cnt d y) oc) rfl ?_
                  refine wD_mov (v := iv (i : Int)) rfl ?_
                  refine wD_idx (b := b2) (o := 0) (k := i) (j := (i : Int)) rfl rfl rfl hi2 ?_
                  refine wD_ld (b := b2) (o := 0 + i * 1) (v := iv v1) rfl rb2 (ints_at hv) ?_
                  refine wD_c_neq (a := u) (b := v1) rfl rfl ?_
                  refine wD_end (by repeat' first | exact True.intro | exact (fun h => h) | refine And.intro ?_ ?_ | (intro h; have h : (_ : Nat) = _ := h; omega)) ?_
                  refine And.intro (fun q20 => ?_) (fun q20 => ?_)
                  · have q20 : u ≠ v1 := by simpa using q20
                    obtain ⟨u2, v2, eu, ev, huv⟩ := bl_lex d y y0 (s : Int) heq hrev i hsm (by rw [hu, hv]; intro e; exact q20 (Option.some.inj e))
                    obtain rfl : u = u2 := Option.some.inj (hu.symm.trans eu)
                    obtain rfl : v1 = v2 := Option.some.inj (hv.symm.trans ev)
                    refine wD_seq ?_
                    refine wD_mov (v := .slice (some ⟨b1, 0, none⟩) (cnt d y0) vc) rfl ?_
                    refine wD_mov (v := iv (i : Int)) rfl ?_
                    refine wD_idx (b := b1) (o := 0) (k := i) (j := (i : Int)) rfl rfl rfl hi ?_
                    refine wD_ld (b := b1) (o := 0 + i * 1) (v := iv u) rfl rb1 (ints_at hu) ?_
                    refine wD_mov (v := .slice (some ⟨b2, 0, none⟩) (cnt d y) oc) rfl ?_
                    refine wD_mov (v := iv (i : Int)) rfl ?_
                    refine wD_idx (b := b2) (o := 0) (k := i) (j := (i : Int)) rfl rfl rfl hi2 ?_
                    refine wD_ld (b := b2) (o := 0 + i * 1) (v := iv v1) rfl rb2 (ints_at hv) ?_
                    refine wD_b_lss (a := u) (b := v1) rfl rfl ?_
                    intro t21 g21; cases t21
                    · have g21 : ¬ (u < v1) := of_decide_eq_false g21
                      exfalso; omega
                    · have g21 : u < v1 := of_decide_eq_true g21
                      refine wD_mov (v := .bool true) rfl ?_
                      refine wD_g rfl (wD_callf (vs := []) rfl (callX_known hkn) ?_)
                      refine wD_pur (v := .bool true) rfl rfl ?_
                      refine wD_mov (v := .bool true) rfl ?_
                      refine wD_end (by repeat' first | exact True.intro | exact (fun h => h) | refine And.intro ?_ ?_ | (intro h; have h : (_ : Nat) = _ := h; omega)) ?_
                      exact And.intro trivial (Exists.intro _ (And.intro rfl rfl))
                  · have q20 : ¬ (u ≠ v1) := by simpa using q20
                    have heu : u = v1 := by omega
                    refine And.intro (show InR ((i : Int) + 1) from ⟨by omega, by omega⟩) ?_
                    have hsm2 : ∀ q, q < i + 1 → (bl d y0 (s : Int))[q]? = (bl d y (s : Int))[q]? := by
                      intro q hq
                      rcases Nat.lt_or_ge q i with h | h
                      · exact hsm q h
                      · obtain rfl : i = q := by omega
                        rw [hu, hv, heu]
                    exact ⟨k - 1, i + 1, by omega, ⟨by omega, kb, hsm2⟩, rfl, rfl, rfl, rfl, trivial⟩
                · have q19 : ¬ ((i : Int) < ((cnt d y0) : Int)) := of_decide_eq_false q19
                  refine al _ _ ?_
                  exact And.intro trivial (Exists.intro _ (And.intro rfl rfl))
            · have g17 : ((cnt d y) : Int) > ((cnt d y0) : Int) := of_decide_eq_true g17
              refine And.intro rfl (Exists.intro (.bool true) (And.intro rfl ?_))
              refine condT ?_
              refine al _ _ ?_
              exact And.intro trivial (Exists.intro _ (And.intro rfl rfl))
          · have g16 : z1 ≠ 0 := by simpa using g16
            refine And.intro rfl (Exists.intro (.bool true) (And.intro rfl ?_))
            refine condT ?_
            refine al _ _ ?_
            exact And.intro trivial (Exists.intro _ (And.intro rfl rfl))
        · have g15 : z2 ≠ 0 := by simpa using g15
          exact absurd (iz2.2 hff0) (by omega)
  · refine condT ?_
    refine al _ _ ?_
    exact And.intro trivial (Exists.intro _ (And.intro rfl rfl))
end
end Go.Ax

namespace Go.Ax
open Go Go.RowKit Go.Proofs Go.ChangeShapes Go.WideShapes Go.Deep

/-- A type whose cells are whole numbers. -/
def IntT (P : Program) (t : TypeId) : Prop := ∀ (H : Type) (enc : TypeId × Value → H) (w : World) (base : Nat) (spare : Nat → Bool) (held : Bool) (fuel : Nat) (cs : List Value) (x : DataW H × List MemPlace),
  DataW.trod enc P w base spare held fuel t cs = some x → cs.length = P.cellsOf t ∧ ∀ j, j < cs.length → ∃ n, cs[j]? = some (.int .i64 n)
theorem IntT.int {P : Program} {t : TypeId} (ht : P.underlying t = some (.int .i64)) (hc : P.cellsOf t = 1) : IntT P t := by
  intro H enc w base spare held fuel cs x h
  obtain ⟨n, rfl, _⟩ := DataW.trod_int ht h
  refine ⟨by rw [hc]; rfl, fun j hj => ⟨n, ?_⟩⟩
  have : j = 0 := by simp at hj; omega
  subst this; rfl
theorem IntT.struct {P : Program} {t : TypeId} {fs : Array Field} (ht : P.underlying t = some (.struct fs)) (hf : ∀ f ∈ fs.toList, IntT P f.type)
    (hcov : ((List.range (P.cellsOf t)).all fun j => fs.toList.any fun f => decide (f.offset ≤ j) && decide (j < f.offset + P.cellsOf f.type)) = true) : IntT P t := by
  intro H enc w base spare held fuel cs x h
  obtain ⟨xs, n, _, _, hlen, hxl, hg⟩ := DataW.trod_struct ht h
  refine ⟨hlen, fun j hj => ?_⟩
  have h1 := List.all_eq_true.1 hcov j (List.mem_range.2 (by omega))
  obtain ⟨f, hfm, h2⟩ := List.any_eq_true.1 h1
  simp only [Bool.and_eq_true, decide_eq_true_eq] at h2
  obtain ⟨i, hi, hfi⟩ := List.getElem_of_mem hfm
  have hfs : fs[i]? = some f := by
    rw [← Array.getElem?_toList, List.getElem?_eq_getElem hi, hfi]
  have hi2 : i < xs.length := by simpa [hxl] using hi
  have h3 := hg i f hfs
  rw [List.getElem?_eq_getElem hi2] at h3
  obtain ⟨h4, h5⟩ := hf f hfm _ _ _ _ _ _ _ _ _ h3
  obtain ⟨m, hm⟩ := h5 (j - f.offset) (by omega)
  refine ⟨m, ?_⟩
  rw [List.getElem?_take] at hm
  split at hm
  · rw [List.getElem?_drop, show f.offset + (j - f.offset) = j by omega] at hm; exact hm
  · cases hm

/-- A slice of rows of whole numbers, as it is given. -/
structure Given {α : Type} (w : World) (v : Value) (f : α → List Value) (l : List α) (x : Imp) : Prop where
  ok : ∀ (i : Nat) u, x.cs[i]? = some u → w.cell? ⟨x.blk, x.off + i, none⟩ = some u ∧ flat1 u = true
  cs : x.cs = l.flatMap f
  v : (v = .slice none 0 0 ∧ l = []) ∨ ∃ cap, v = .slice (some ⟨x.blk, x.off, none⟩) l.length cap ∧ l.length ≤ cap
theorem flat_get {α : Type} {f : α → List Value} {k : Nat} (hk : 0 < k) : ∀ {l : List α} (_ : ∀ x ∈ l, (f x).length = k) (i : Nat) (u : Value), (l.flatMap f)[i]? = some u → ∃ x, l[i / k]? = some x ∧ (f x)[i % k]? = some u
  | [], _, i, u, h => by simp at h
  | y :: r, hl, i, u, h => by
    have hy := hl y (List.mem_cons_self ..)
    rw [List.flatMap_cons, List.getElem?_append] at h
    split at h
    · rename_i q
      rw [hy] at q
      refine ⟨y, ?_, ?_⟩
      · rw [Nat.div_eq_of_lt q]; rfl
      · rw [Nat.mod_eq_of_lt q]; exact h
    · rename_i q
      rw [hy] at q h
      obtain ⟨x, h1, h2⟩ := flat_get hk (fun x hx => hl x (List.mem_cons_of_mem _ hx)) _ u h
      refine ⟨x, ?_, ?_⟩
      · rw [Nat.div_eq_sub_div hk (by omega)]; exact h1
      · rw [Nat.mod_eq_sub_mod (by omega)]; exact h2
theorem slice_given {H : Type} {enc : TypeId × Value → H} {P : Program} {w : World} {base b0 : Nat} {r : Reach} {held : Bool} {α : Type} (f : α → List Value) (mk : (Nat → Int) → α) (k : Nat) {t e : TypeId} {fuel : Nat} {v : Value} {x : DataW H × List MemPlace}
    (ht : P.underlying t = some (.slice e)) (hI : IntT P e) (hc : P.cellsOf e = k) (hk : 0 < k) (hmk : ∀ N : Nat → Int, f (mk N) = (List.range k).map fun j => Value.int .i64 (N j))
    (hok : Cell.okWide P w r b0 t v) (h : DataW.trod enc P w base (fun _ => true) held fuel t [v] = some x) : ∃ (l : List α) (y : Imp), Given w v f l y := by
  rcases open_slice ht h with ⟨h0, _⟩ | ⟨a, len, cap, m, n, D, Pl, hcs, hb, hl, hm, hmm, hx, hi⟩
  · cases h0
    exact ⟨[], ⟨0, 0, []⟩, fun i u e => by simp at e, rfl, .inl ⟨rfl, rfl⟩⟩
  · cases hcs
    obtain ⟨blk, off, spot⟩ := a
    have hs : spot = none := by
      unfold Cell.okWide at hok
      rw [ht] at hok
      unfold Cell.ok at hok
      simp only [ht] at hok
      exact hok.2.2.2.1
    subst hs
    simp only [if_true] at hmm
    subst hmm
    have hcell : ∀ i, i < len → ∀ j, j < k → ∃ n, w.cell? ⟨blk, off + (i * k + j), none⟩ = some (.int .i64 n) := by
      intro i hil j hj
      obtain ⟨cs', h1, h2⟩ := hi i (by omega)
      obtain ⟨h3, h4⟩ := hI _ _ _ _ _ _ _ _ _ h2
      obtain ⟨_, h5, h6⟩ := World.cells?_some h1
      obtain ⟨n, hn⟩ := h4 j (by omega)
      refine ⟨n, ?_⟩
      have h7 := h6 j (by omega)
      rw [hn, hc, add_add] at h7
      have e : (⟨blk, off, none⟩ : Addr).add (i * k + j) = ⟨blk, off + (i * k + j), none⟩ := by
        unfold Addr.add
        by_cases q : i * k + j = 0
        · simp [q]
        · simp
      rw [e] at h7
      exact h7
    refine ⟨(List.range len).map fun i => mk fun j => match w.cell? ⟨blk, off + (i * k + j), none⟩ with | some (.int _ n) => n | _ => 0, ⟨blk, off, _⟩, ?_, rfl, .inr ⟨m, by simp, by simpa using hl⟩⟩
    intro i u hu
    obtain ⟨y, h1, h2⟩ := flat_get hk (fun y hy => by
      obtain ⟨i, _, rfl⟩ := List.mem_map.1 hy
      rw [hmk]; simp) i u hu
    have hlt : i / k < len := by
      have := get_lt h1
      simpa using this
    rw [List.getElem?_map, List.getElem?_range hlt] at h1
    simp only [Option.map_some, Option.some.injEq] at h1
    subst h1
    have hj : i % k < k := Nat.mod_lt _ hk
    rw [hmk, List.getElem?_map, List.getElem?_range hj] at h2
    simp only [Option.map_some, Option.some.injEq] at h2
    obtain ⟨n, hn⟩ := hcell _ hlt _ hj
    rw [hn] at h2
    subst h2
    rw [Nat.div_add_mod' ] at hn
    exact ⟨hn, rfl⟩
end Go.Ax

/-! Slices of rows of plain cells, as arguments. -/
namespace Go.Ax
open Go Go.RowKit Go.Proofs Go.ChangeShapes Go.WideShapes Go.Deep

theorem IntT.row {α : Type} {P : Program} {t : TypeId} {k : Nat} {f : α → List Value} {mk : (Nat → Int) → α} (h : IntT P t) (hc : P.cellsOf t = k) (hmk : ∀ N : Nat → Int, f (mk N) = (List.range k).map fun j => Value.int .i64 (N j))
    {H : Type} {enc : TypeId × Value → H} {w : World} {base : Nat} {spare : Nat → Bool} {held : Bool} (fuel : Nat) (cs : List Value) (x : DataW H × List MemPlace) (hx : DataW.trod enc P w base spare held fuel t cs = some x) : ∃ y : α, cs = f y ∧ True := by
  obtain ⟨h1, h2⟩ := h _ _ _ _ _ _ _ _ _ hx
  have : ∃ N : Nat → Int, ∀ j, j < cs.length → cs[j]? = some (.int .i64 (N j)) := by
    refine ⟨fun j => match cs[j]? with | some (.int _ n) => n | _ => 0, fun j hj => ?_⟩
    obtain ⟨n, hn⟩ := h2 j hj
    simp [hn]
  obtain ⟨N, hN⟩ := this
  refine ⟨mk N, ?_, trivial⟩
  rw [hmk]
  apply List.ext_getElem?
  intro j
  by_cases hj : j < k
  · rw [hN j (by omega), List.getElem?_map, List.getElem?_range hj]; rfl
  · rw [List.getElem?_eq_none (by omega), List.getElem?_eq_none (by simp; omega)]
end Go.Ax


import Derived.Test.YtbgdbnnbfankeaaMa
import Derived.Test.YtbgdbnnbfankeaaAxW9
import Derived.Test.YtbgdbnnbfankeaaChecked
set_option linter.all false
/-! What 'low' makes of functions of plant (written by program). -/
namespace Go.Ax
open Go Go.RowKit Go.Proofs
theorem N95 : Try.f95.ntmps = 12 := by kernel_rfl
theorem Z95 : Try.f95.results.toList = ((List.toArray [(.tmp 4)]) : Array ResultVar).toList := by kernel_rfl
theorem B95 : Try.f95.body = some (at_ Try.f95 []) := by kernel_rfl
noncomputable def R95 : RC := (.seq (.reg [⟨(some 4), none, (.mov (.const (.bool false)))⟩])
  (.seq (.reg [⟨(some 5), none, (.mov (.tmp 0))⟩, ⟨(some 6), none, (.cmpb .leq (.const (.int .i64 0)) (.tmp 5))⟩, ⟨(some 7), none, (.mov (.tmp 6))⟩, ⟨(some 8), (some (7, true)), (.mov (.tmp 0))⟩, ⟨(some 9), (some (7, true)), (.mov (.tmp 1))⟩, ⟨(some 10), (some (7, true)), (.cmpb .leq (.tmp 8) (.tmp 9))⟩, ⟨(some 11), none, (.pur ⟨(some 11), (.pick (.tmp 7) (.tmp 10) (.const (.bool false))), 4, "", (List.toArray []), none⟩)⟩, ⟨(some 4), none, (.mov (.tmp 11))⟩])
  .ret))
theorem L95 : low Try.prog Try.f95.ntmps (at_ Try.f95 []) = some R95 := by kernel_rfl
theorem N50 : Try.f50.ntmps = 15 := by kernel_rfl
theorem Z50 : Try.f50.results.toList = ((List.toArray [(.tmp 6)]) : Array ResultVar).toList := by kernel_rfl
theorem B50 : Try.f50.body = some (at_ Try.f50 []) := by kernel_rfl
noncomputable def R50 : RC := (.seq (.reg [⟨(some 6), none, (.mov (.const (.bool false)))⟩])
  (.seq (.reg [⟨(some 7), none, (.mov (.tmp 1))⟩, ⟨(some 8), none, (.mov (.tmp 0))⟩, ⟨(some 9), none, (.cmpb .leq (.tmp 7) (.tmp 8))⟩, ⟨(some 10), none, (.mov (.tmp 9))⟩, ⟨(some 11), (some (10, true)), (.mov (.tmp 0))⟩, ⟨(some 12), (some (10, true)), (.mov (.tmp 2))⟩, ⟨(some 13), (some (10, true)), (.cmpb .leq (.tmp 11) (.tmp 12))⟩, ⟨(some 14), none, (.pur ⟨(some 14), (.pick (.tmp 10) (.tmp 13) (.const (.bool false))), 4, "", (List.toArray []), none⟩)⟩, ⟨(some 6), none, (.mov (.tmp 14))⟩])
  .ret))
theorem L50 : low Try.prog Try.f50.ntmps (at_ Try.f50 []) = some R50 := by kernel_rfl
end Go.Ax

/-
  Plant: parts and streams: what is done with four numbers (written by program).
-/
namespace Go.Ax
open Go Go.RowKit Go.Proofs

def inB (n a b : Int) : Bool := decide (a ≤ n) && decide (n ≤ b)
theorem inB_t {n a b : Int} (h : inB n a b = true) : a ≤ n ∧ n ≤ b := by simpa [inB] using h
theorem inB_f {n a b : Int} (h : inB n a b = false) : ¬ (a ≤ n ∧ n ≤ b) := by
  intro q; simp [inB] at h; omega
section
variable {kn : FuncId → Option Bool} {lo : Nat} {H : Hp}
theorem isw_ok {n m : Int} : ∃ H', FnX Try.prog kn lo 95 [iv n, iv m] H (.bool (isw n m)) H' ∧ Keep H H' [] := by
  have key := fnX_low (kn := kn) (lo := lo) (H := H) (args := [iv n, iv m]) (Q := fun w H' => w = .bool (isw n m) ∧ Keep H H' []) Try.func95 B95 N95 Z95 L95 (by simp) ?_
  · obtain ⟨w, H', h, rfl, q⟩ := key; exact ⟨H', h, q⟩
  repeat' first
    | (intro t ht; cases t)
    | exact And.intro trivial (Exists.intro _ (And.intro rfl ⟨by simp_all [retV, isw] <;> (intros; omega), Keep.refl _ _⟩))
    | refine And.intro rfl (Exists.intro _ (And.intro rfl ?_))
theorem in50_ok {n a m : Int} : ∃ H', FnX Try.prog kn lo 50 [iv n, iv a, iv m] H (.bool (inB n a m)) H' ∧ Keep H H' [] := by
  have key := fnX_low (kn := kn) (lo := lo) (H := H) (args := [iv n, iv a, iv m]) (Q := fun w H' => w = .bool (inB n a m) ∧ Keep H H' []) Try.func50 B50 N50 Z50 L50 (by simp) ?_
  · obtain ⟨w, H', h, rfl, q⟩ := key; exact ⟨H', h, q⟩
  repeat' first
    | (intro t ht; cases t)
    | exact And.intro trivial (Exists.intro _ (And.intro rfl ⟨by simp_all [retV, inB] <;> (intros; omega), Keep.refl _ _⟩))
    | refine And.intro rfl (Exists.intro _ (And.intro rfl ?_))
end
end Go.Ax

/-! What 'low' makes of functions of plant (written by program). -/
namespace Go.Ax
open Go Go.RowKit Go.Proofs
theorem N4 : Try.f4.ntmps = 44 := by kernel_rfl
theorem Z4 : Try.f4.results.toList = ((List.toArray [(.tmp 4)]) : Array ResultVar).toList := by kernel_rfl
theorem B4 : Try.f4.body = some (at_ Try.f4 []) := by kernel_rfl
noncomputable def R4 : RC := (.seq (.reg [⟨(some 3), none, (.box 40 (.tmp 1))⟩, ⟨(some 4), none, (.mov (.const (.bool false)))⟩])
  (.seq (.seq (.reg [⟨(some 11), none, (.mov (.tmp 0))⟩, ⟨(some 12), none, (.call ⟨(.value (.func 24)), (List.toArray [(.tmp 11), (.const (.int .i64 3000))]), (List.toArray [36, 3])⟩ true)⟩])
  (.cond (.tmp 12) (.seq (.reg [⟨(some 13), none, (.call ⟨(.value (.func 16)), (List.toArray []), (List.toArray [])⟩ true)⟩, ⟨(some 4), none, (.mov (.tmp 13))⟩])
  .ret)
  .skip))
  (.seq (.reg [⟨(some 15), none, (.mov (.tmp 0))⟩, ⟨(some 16), none, (.lda (.tmp 3) 7)⟩, ⟨(some 17), none, (.call ⟨(.value (.func 25)), (List.toArray [(.tmp 15), (.tmp 16)]), (List.toArray [36, 40])⟩ true)⟩, ⟨(some 14), none, (.mov (.tmp 17))⟩, ⟨(some 18), none, (.pur ⟨(some 18), (.extract (.tmp 14) 0), 42, "", (List.toArray []), none⟩)⟩, ⟨(some 19), none, (.pur ⟨(some 19), (.extract (.tmp 14) 1), 3, "", (List.toArray []), none⟩)⟩, ⟨(some 20), none, (.pur ⟨(some 20), (.extract (.tmp 14) 2), 28, "", (List.toArray []), none⟩)⟩, ⟨(some 5), none, (.mov (.tmp 18))⟩, ⟨(some 6), none, (.mov (.tmp 19))⟩, ⟨(some 7), none, (.mov (.tmp 20))⟩])
  (.seq (.reg [⟨(some 22), none, (.mov (.tmp 0))⟩, ⟨(some 23), none, (.lda (.tmp 3) 7)⟩, ⟨(some 24), none, (.call ⟨(.value (.func 26)), (List.toArray [(.tmp 22), (.tmp 23)]), (List.toArray [36, 40])⟩ true)⟩, ⟨(some 21), none, (.mov (.tmp 24))⟩, ⟨(some 25), none, (.pur ⟨(some 25), (.extract (.tmp 21) 0), 42, "", (List.toArray []), none⟩)⟩, ⟨(some 26), none, (.pur ⟨(some 26), (.extract (.tmp 21) 1), 3, "", (List.toArray []), none⟩)⟩, ⟨(some 27), none, (.pur ⟨(some 27), (.extract (.tmp 21) 2), 28, "", (List.toArray []), none⟩)⟩, ⟨(some 8), none, (.mov (.tmp 25))⟩, ⟨(some 9), none, (.mov (.tmp 26))⟩, ⟨(some 10), none, (.mov (.tmp 27))⟩])
  (.seq (.reg [⟨(some 28), none, (.mov (.tmp 5))⟩, ⟨(some 29), none, (.mov (.tmp 8))⟩, ⟨(some 30), none, (.call ⟨(.value (.func 27)), (List.toArray [(.tmp 28), (.tmp 29)]), (List.toArray [42, 42])⟩ true)⟩, ⟨(some 31), none, (.mov (.tmp 30))⟩, ⟨(some 32), (some (31, true)), (.mov (.tmp 6))⟩, ⟨(some 33), (some (31, true)), (.mov (.tmp 9))⟩, ⟨(some 34), (some (31, true)), (.cmpb .eql (.tmp 32) (.tmp 33))⟩, ⟨(some 35), none, (.pur ⟨(some 35), (.pick (.tmp 31) (.tmp 34) (.const (.bool false))), 4, "", (List.toArray []), none⟩)⟩, ⟨(some 36), none, (.mov (.tmp 35))⟩, ⟨(some 37), (some (36, true)), (.mov (.tmp 7))⟩, ⟨(some 38), (some (36, true)), (.mov (.tmp 10))⟩, ⟨(some 39), (some (36, true)), (.cmpb .eql (.tmp 37) (.tmp 38))⟩, ⟨(some 40), none, (.pur ⟨(some 40), (.pick (.tmp 36) (.tmp 39) (.const (.bool false))), 4, "", (List.toArray []), none⟩)⟩, ⟨(some 41), none, (.mov (.tmp 40))⟩, ⟨(some 42), (some (41, true)), (.call ⟨(.value (.func 16)), (List.toArray []), (List.toArray [])⟩ true)⟩, ⟨(some 43), none, (.pur ⟨(some 43), (.pick (.tmp 41) (.tmp 42) (.const (.bool false))), 4, "", (List.toArray []), none⟩)⟩, ⟨(some 4), none, (.mov (.tmp 43))⟩])
  .ret)))))
theorem L4 : low Try.prog Try.f4.ntmps (at_ Try.f4 []) = some R4 := by kernel_rfl
theorem N24 : Try.f24.ntmps = 38 := by kernel_rfl
theorem Z24 : Try.f24.results.toList = ((List.toArray [(.tmp 4)]) : Array ResultVar).toList := by kernel_rfl
theorem B24 : Try.f24.body = some (at_ Try.f24 []) := by kernel_rfl
noncomputable def R24 : RC := (.seq (.reg [⟨(some 4), none, (.mov (.const (.bool false)))⟩])
  (.seq (.reg [⟨(some 5), none, (.mov (.const (.int .i64 1)))⟩])
  (.seq (.seq (.reg [⟨(some 6), none, (.mov (.const (.int .i64 0)))⟩])
  (.block 0 (.other (at_ Try.f24 [1, 1, 0, 1, 0]))))
  (.seq (.reg [⟨(some 30), none, (.mov (.tmp 5))⟩, ⟨(some 31), none, (.mov (.tmp 1))⟩, ⟨(some 32), none, (.cmpb .gtr (.tmp 30) (.tmp 31))⟩, ⟨(some 33), none, (.mov (.tmp 32))⟩, ⟨(some 34), (some (33, false)), (.mov (.tmp 0))⟩, ⟨(some 35), (some (33, false)), (.len (.tmp 34))⟩, ⟨(some 36), (some (33, false)), (.cmpb .gtr (.tmp 35) (.const (.int .i64 8)))⟩, ⟨(some 37), none, (.pur ⟨(some 37), (.pick (.tmp 33) (.const (.bool true)) (.tmp 36)), 4, "", (List.toArray []), none⟩)⟩, ⟨(some 4), none, (.mov (.tmp 37))⟩])
  .ret))))
theorem L24 : low Try.prog Try.f24.ntmps (at_ Try.f24 []) = some R24 := by kernel_rfl
theorem E24_1 : at_ Try.f24 [1, 1, 0, 1, 0] = .loop (at_ Try.f24 [1, 1, 0, 1, 0, 0]) := by kernel_rfl
noncomputable def R24x1 : RC := (.seq (.seq (.reg [⟨(some 7), none, (.mov (.tmp 6))⟩, ⟨(some 8), none, (.mov (.tmp 0))⟩, ⟨(some 9), none, (.len (.tmp 8))⟩, ⟨(some 10), none, (.cmpb .lss (.tmp 7) (.tmp 9))⟩, ⟨(some 11), none, (.mov (.tmp 10))⟩, ⟨(some 12), (some (11, true)), (.mov (.tmp 6))⟩, ⟨(some 13), (some (11, true)), (.cmpb .lss (.tmp 12) (.const (.int .i64 8)))⟩, ⟨(some 14), none, (.pur ⟨(some 14), (.pick (.tmp 11) (.tmp 13) (.const (.bool false))), 4, "", (List.toArray []), none⟩)⟩])
  (.cond (.tmp 14) .skip
  (.exit 0)))
  (.seq (.block 1 (.reg [⟨(some 17), none, (.mov (.tmp 5))⟩, ⟨(some 18), none, (.mov (.tmp 0))⟩, ⟨(some 19), none, (.mov (.tmp 6))⟩, ⟨(some 20), none, (.idx (.tmp 18) (.tmp 19) 5)⟩, ⟨(some 21), none, (.addo (.tmp 20) 0)⟩, ⟨(some 22), none, (.ld (.tmp 21) 1)⟩, ⟨(some 23), none, (.mm true (.tmp 22) (.const (.int .i64 20)))⟩, ⟨(some 24), none, (.mm false (.const (.int .i64 0)) (.tmp 23))⟩, ⟨(some 25), none, (.ari .add (.const (.int .i64 1)) (.tmp 24))⟩, ⟨(some 26), none, (.ari .mul (.tmp 17) (.tmp 25))⟩, ⟨(some 27), none, (.mov (.tmp 1))⟩, ⟨(some 28), none, (.ari .add (.tmp 27) (.const (.int .i64 1)))⟩, ⟨(some 29), none, (.mm true (.tmp 26) (.tmp 28))⟩, ⟨(some 5), none, (.mov (.tmp 29))⟩]))
  (.reg [⟨(some 15), none, (.mov (.tmp 6))⟩, ⟨(some 16), none, (.ari .add (.tmp 15) (.const (.int .i64 1)))⟩, ⟨(some 6), none, (.mov (.tmp 16))⟩])))
theorem L24x1 : low Try.prog Try.f24.ntmps (at_ Try.f24 [1, 1, 0, 1, 0, 0]) = some R24x1 := by kernel_rfl
end Go.Ax

/-
  Plant: Evaporate, and the law PlantStrong, whatever the input (written by program).
-/
namespace Go.Ax
open Go Go.RowKit Go.Proofs

section
variable {kn : FuncId → Option Bool} {lo : Nat} {H : Hp}
end
end Go.Ax

/-
  Plant: machines, streams: where they lie (written by program).
-/
namespace Go.Ax
open Go Go.RowKit

/-- a block of outlets: given, of a literal, or made by append -/
def Fy (H : Hp) (b : Nat) (cs : List Value) : Prop := b < H.next ∧ (H.t.get b = some (.ro cs) ∨ (∃ e, H.t.get b = some (.cells cs e false)) ∨ H.t.get b = some (.cells cs 59 true))
theorem Fy.rd {H : Hp} {b : Nat} {cs : List Value} (h : Fy H b cs) : Rd H b cs := by
  obtain ⟨h1, h2 | ⟨e, h2⟩ | h2⟩ := h <;> exact ⟨h1, by unfold cellsOf; rw [h2]⟩
theorem Fy.lt {H : Hp} {b : Nat} {cs : List Value} (h : Fy H b cs) : b < H.next := h.1
theorem Keep.fy {H H1 : Hp} {l : List Nat} (k : Keep H H1 l) {b : Nat} {cs : List Value} (h : Fy H b cs) (hl : b ∉ l) : Fy H1 b cs :=
  ⟨Nat.lt_of_lt_of_le h.1 k.1, by rw [k.2 b h.1 hl]; exact h.2⟩
theorem KeepB.fy {f : Nat} {H H1 : Hp} (k : KeepB f H H1) {b : Nat} {cs : List Value} (h : Fy H b cs) (hl : b < f) : Fy H1 b cs :=
  ⟨Nat.lt_of_lt_of_le h.1 k.1, by rw [k.2 b hl]; exact h.2⟩
/-- A machine: its outlets. -/
structure Mc where
  ra : Option Addr
  n : Nat
  cap : Nat
  l : List Ou
def Mc.z : Mc := ⟨none, 0, 0, []⟩
abbrev Mc.f (r : Mc) : List Value := [.slice r.ra r.n r.cap]
/-- lots -/
structure Fz where
  rd : Int
  du : Int
  ms : Int
abbrev Fz.f (x : Fz) : List Value := [iv x.rd, iv x.du, iv x.ms]
def Fz.z : Fz := ⟨0, 0, 0⟩
/-- tanks -/
structure Tn where
  un : Int
  su : Int
  ac : Int
  co : Int
  pr : Int
abbrev Tn.f (x : Tn) : List Value := [iv x.un, iv x.su, iv x.ac, iv x.co, iv x.pr]
def Tn.z : Tn := ⟨0, 0, 0, 0, 0⟩
def tnc (l : List Tn) : List Value := l.flatMap Tn.f
theorem tnc_row {l : List Tn} {i : Nat} {x : Tn} (h : l[i]? = some x) : row 5 (tnc l) (0 + i * 5) = some x.f := row_flat (f := Tn.f) (size := 5) (fun _ _ => rfl) h
/-- where machines lie; the list may begin inside of its block -/
structure Mcs (H : Hp) (f : Nat) (sa : Option Addr) (n cap : Nat) (rs : List Mc) : Prop where
  r : ((sa = none ∨ sa = some ⟨0, 0, some 0⟩) ∧ n = 0 ∧ cap = 0) ∨ ∃ b o cs, sa = some ⟨b, o, none⟩ ∧ Rd H b cs ∧ b < f ∧ n ≤ cap ∧ ∀ i r, rs[i]? = some r → cs[o + i * 1]? = some (.slice r.ra r.n r.cap)
  rl : rs.length = n
  ri : ∀ r ∈ rs, Sl H r.ra r.n r.cap (ouc r.l) ∧ r.l.length = r.n ∧ ∀ x, r.ra = some ⟨x, 0, none⟩ → x < f ∧ Fy H x (ouc r.l)
theorem Mcs.keep {H H1 : Hp} {f : Nat} {sa : Option Addr} {n cap : Nat} {rs : List Mc} {W : List Nat} (h : Mcs H f sa n cap rs) (k : Keep H H1 W) (hw : ∀ x ∈ W, f ≤ x) : Mcs H1 f sa n cap rs where
  r := h.r.imp id fun ⟨b, o, cs, e, r, hb, hn, hc⟩ => ⟨b, o, cs, e, k.rd r (fun q => by have := hw b q; omega), hb, hn, hc⟩
  rl := h.rl
  ri := fun b hb => by
    obtain ⟨h1, h2, h3⟩ := h.ri b hb
    exact ⟨k.sl h1 fun x e q => by have := (h3 x e).1; have := hw x q; omega, h2, fun x e => ⟨(h3 x e).1, k.fy (h3 x e).2 (fun q => by have := (h3 x e).1; have := hw x q; omega)⟩⟩
end Go.Ax

/-
  Plant: which lists of machines are plants (written by program).
-/
namespace Go.Ax
open Go Go.RowKit Go.Proofs

section
variable {kn : FuncId → Option Bool} {lo : Nat} {H : Hp}
end
end Go.Ax

/-
  Plant: validPlant, Check, and what the document says of them (written by program).
-/
namespace Go.Ax
open Go Go.RowKit Go.Proofs

section
variable {kn : FuncId → Option Bool} {lo : Nat} {H : Hp}
end
end Go.Ax

/-
  Plant: rows of four numbers, side by side in a block (written by program).
-/
namespace Go.Ax
open Go Go.RowKit

theorem MOk.at {l : List Ou} {i n : Nat} (h : MOk l i n) {k : Nat} {y : Ou} (hy : l[k]? = some y) : ((-16 ≤ y.to ∧ y.to < 0) ∨ ((i : Int) < y.to ∧ y.to < n)) ∧ ∀ j, j < 4 → 0 ≤ y.w j ∧ y.w j ≤ 1000 := by
  have e : l.getD k Ou.z = y := by rw [List.getD_eq_getElem?_getD, hy]; rfl
  have := h.o k (get_lt hy)
  rw [e] at this; exact this
end Go.Ax

/-
  Plant: the program's Run (written by program).
-/
namespace Go.Ax
open Go Go.RowKit Go.Proofs

section
variable {kn : FuncId → Option Bool} {lo : Nat} {H : Hp}
end
end Go.Ax

/-
  Plant: the mathematics of freezing in the order of what is due (no program here) (written by program).
-/
namespace Go.Ax
open Go Go.RowKit

theorem sm_sub (f g : Nat → Int) : ∀ n : Nat, sm (fun i => f i - g i) n = sm f n - sm g n
  | 0 => rfl
  | n + 1 => by
    show sm (fun i => f i - g i) n + (f n - g n) = sm f n + f n - (sm g n + g n)
    rw [sm_sub f g n]; omega
def upd (f : Nat → Int) (m : Nat) (x : Int) : Nat → Int := fun i => if i = m then x else f i
/-- what a lot gets of the room -/
def gt (rd : Nat → Int) (h : Int) (s : (Nat → Int) × Int) (x : Nat) : Int := if rd x ≤ h then min s.2 (s.1 x) else 0
/-- an hour: the lots in the order L -/
def hst (L : Nat → Nat) (rd : Nat → Int) (h R : Int) (left : Nat → Int) : Nat → (Nat → Int) × Int
  | 0 => (left, R)
  | k + 1 => (upd (hst L rd h R left k).1 (L k) ((hst L rd h R left k).1 (L k) - gt rd h (hst L rd h R left k) (L k)), (hst L rd h R left k).2 - gt rd h (hst L rd h R left k) (L k))
structure Hr (n : Nat) (a : Nat → Int) (h R : Int) (l l' : Nat → Int) : Prop where
  nn : ∀ p, p < n → 0 ≤ l' p ∧ l' p ≤ l p
  nr : ∀ p, p < n → h < a p → l' p = l p
  le : ∀ k, k ≤ n → sm (fun p => l p - l' p) k ≤ R
  fu : ∀ k, k ≤ n → sm (fun p => l p - l' p) k = R ∨ ∀ p, p < k → a p ≤ h → l' p = 0
section
variable {L : Nat → Nat} {rd left : Nat → Int} {h R : Int} {n : Nat}
end
/-- many hours, the lots by their place in the order -/
structure Sim (n : Nat) (a m : Nat → Int) (R : Int) (l : Nat → Nat → Int) : Prop where
  z : ∀ p, p < n → l 0 p = m p
  h : ∀ t : Nat, Hr n a t R (l t) (l (t + 1))
  mp : ∀ p, p < n → 0 ≤ m p
  a0 : ∀ p, p < n → 0 ≤ a p
  r0 : 0 ≤ R
namespace Sim
variable {n : Nat} {a m : Nat → Int} {R : Int} {l : Nat → Nat → Int} (S : Sim n a m R l)
include S
theorem nn (t : Nat) {p : Nat} (hp : p < n) : 0 ≤ l t p := by
  cases t with
  | zero => rw [S.z p hp]; exact S.mp p hp
  | succ t => exact ((S.h t).nn p hp).1
theorem anti {p : Nat} (hp : p < n) (t : Nat) : ∀ j, l (t + j) p ≤ l t p
  | 0 => Int.le_refl _
  | j + 1 => Int.le_trans ((S.h (t + j)).nn p hp).2 (anti hp t j)
theorem zero {p : Nat} (hp : p < n) {t u : Nat} (h : t ≤ u) (hz : l t p = 0) : l u p = 0 := by
  have := S.anti hp t (u - t); rw [show t + (u - t) = u by omega] at this
  have := S.nn u hp; omega
theorem un {p : Nat} (hp : p < n) : ∀ t : Nat, (t : Int) ≤ a p → l t p = m p
  | 0, _ => S.z p hp
  | t + 1, h => by rw [(S.h t).nr p hp (by omega)]; exact un hp t (by omega)
theorem drop (c : Nat → Bool) {k : Nat} (hk : k ≤ n) (t : Nat) : ∀ j : Nat, sm (fun p => if c p then l t p else 0) k ≤ sm (fun p => if c p then l (t + j) p else 0) k + R * j
  | 0 => by
    have : R * ((0 : Nat) : Int) = 0 := by simp
    rw [this]; exact Int.le_of_eq (by simp)
  | j + 1 => by
    have ih := drop c hk t j
    have e : R * ((j + 1 : Nat) : Int) = R * j + R := by rw [Int.natCast_add, Int.mul_add]; simp
    have le := (S.h (t + j)).le k hk
    have : sm (fun p => if c p then l (t + j) p else 0) k - sm (fun p => if c p then l (t + (j + 1)) p else 0) k ≤ sm (fun p => l (t + j) p - l (t + j + 1) p) k := by
      rw [← sm_sub]
      refine sm_le fun p hp => ?_
      have := ((S.h (t + j)).nn p (by omega)).2
      show (if c p then l (t + j) p else 0) - (if c p then l (t + (j + 1)) p else 0) ≤ l (t + j) p - l (t + j + 1) p
      rw [show t + (j + 1) = t + j + 1 by omega]
      split <;> omega
    omega
/-- what is there from t to T -/
abbrev wn (a : Nat → Int) (f : Nat → Int) (t T : Nat) (k : Nat) : Int := sm (fun p => if (t : Int) ≤ a p ∧ a p ≤ T then f p else 0) k
theorem fwd {k : Nat} (hk : k ≤ n) {T : Nat} (hc : ∀ p, p < k → a p ≤ T → l (T + 1) p = 0) {t : Nat} (ht : t ≤ T) : wn a m t T k ≤ R * ((T : Int) + 1 - t) := by
  have d := S.drop (fun p => decide ((t : Int) ≤ a p ∧ a p ≤ T)) hk t (T + 1 - t)
  rw [show t + (T + 1 - t) = T + 1 by omega, show ((T + 1 - t : Nat) : Int) = (T : Int) + 1 - t by omega] at d
  have e1 : sm (fun p => if decide ((t : Int) ≤ a p ∧ a p ≤ T) = true then l (T + 1) p else 0) k = 0 := sm_zero fun p hp => by
    split
    · rename_i q; simp only [decide_eq_true_eq] at q; exact hc p hp q.2
    · rfl
  have e2 : sm (fun p => if decide ((t : Int) ≤ a p ∧ a p ≤ T) = true then l t p else 0) k = wn a m t T k := sm_congr fun p hp => by
    simp only [decide_eq_true_eq]
    split
    · rename_i q; exact S.un (by omega) t q.1
    · rfl
  rw [e1, e2] at d; omega
theorem bwd {k : Nat} (hk : k ≤ n) : ∀ T : Nat, (∃ p, p < k ∧ a p ≤ T ∧ l (T + 1) p ≠ 0) → ∃ t : Nat, t ≤ T ∧ R * ((T : Int) + 1 - t) + wn a (l (T + 1)) t T k ≤ wn a m t T k ∧ ∀ p, p < k → a p < t → l (T + 1) p = 0
  | T, ⟨p0, hp0, ha0, hl0⟩ => by
    have full : sm (fun p => l T p - l (T + 1) p) k = R := by
      rcases (S.h T).fu k hk with q | q
      · exact q
      · exact absurd (q p0 hp0 ha0) hl0
    by_cases hc : ∀ p, p < k → a p < T → l T p = 0
    · refine ⟨T, Nat.le_refl _, ?_, fun p hp hq => S.zero (by omega) (Nat.le_succ T) (hc p hp hq)⟩
      rw [show (T : Int) + 1 - T = 1 by omega, Int.mul_one]
      have : wn a m T T k - wn a (l (T + 1)) T T k = sm (fun p => l T p - l (T + 1) p) k := by
        unfold wn
        rw [← sm_sub]
        refine sm_congr fun p hp => ?_
        by_cases q : (T : Int) ≤ a p ∧ a p ≤ T
        · rw [if_pos q, if_pos q, S.un (by omega) T q.1]
        · rw [if_neg q, if_neg q]
          by_cases q2 : a p < T
          · rw [hc p hp q2, S.zero (by omega) (Nat.le_succ T) (hc p hp q2)]
          · rw [(S.h T).nr p (by omega) (by omega)]; omega
      omega
    · have hex : ∃ p, p < k ∧ a p < T ∧ l T p ≠ 0 := by
        refine Classical.byContradiction fun q => hc fun p hp hq => ?_
        exact Classical.byContradiction fun z => q ⟨p, hp, hq, z⟩
      obtain ⟨p1, hp1, ha1, hl1⟩ := hex
      match T, ha0, hl0, full, ha1, hl1 with
      | 0, _, _, _, ha1, _ => exact absurd ha1 (by have := S.a0 p1 (by omega); omega)
      | T + 1, ha0, hl0, full, ha1, hl1 =>
        obtain ⟨t, ht, hs, hz⟩ := bwd hk T ⟨p1, hp1, by omega, hl1⟩
        refine ⟨t, by omega, ?_, fun p hp hq => S.zero (by omega) (Nat.le_succ _) (hz p hp hq)⟩
        have e : R * (((T + 1 : Nat) : Int) + 1 - t) = R * ((T : Int) + 1 - t) + R := by
          rw [show ((T + 1 : Nat) : Int) + 1 - t = (T : Int) + 1 - t + 1 by omega, Int.mul_add, Int.mul_one]
        have : wn a m t (T + 1) k - wn a (l (T + 1 + 1)) t (T + 1) k = (wn a m t T k - wn a (l (T + 1)) t T k) + sm (fun p => l (T + 1) p - l (T + 1 + 1) p) k := by
          unfold wn
          rw [← sm_sub, ← sm_sub, ← sm_add]
          refine sm_congr fun p hp => ?_
          have u := fun q => S.un (p := p) (by omega) (T + 1) q
          have v := fun q => (S.h (T + 1)).nr p (by omega) q
          have z1 := hz p hp
          have z2 := fun q => S.zero (p := p) (by omega) (Nat.le_succ (T + 1)) (hz p hp q)
          by_cases c1 : (t : Int) ≤ a p
          · by_cases c2 : a p ≤ T
            · rw [if_pos ⟨c1, by omega⟩, if_pos ⟨c1, by omega⟩, if_pos ⟨c1, c2⟩, if_pos ⟨c1, c2⟩]; omega
            · by_cases c3 : a p ≤ ((T + 1 : Nat) : Int)
              · rw [if_pos ⟨c1, c3⟩, if_pos ⟨c1, c3⟩, if_neg (by omega), if_neg (by omega), u (by omega)]; omega
              · rw [if_neg (by omega), if_neg (by omega), if_neg (by omega), if_neg (by omega), v (by omega)]; omega
          · rw [if_neg (by omega), if_neg (by omega), if_neg (by omega), if_neg (by omega), z1 (by omega), z2 (by omega)]; rfl
        omega
theorem more {k : Nat} (hk : k ≤ n) {T : Nat} (h : ∃ p, p < k ∧ a p ≤ T ∧ l (T + 1) p ≠ 0) : ∃ t : Nat, t ≤ T ∧ R * ((T : Int) + 1 - t) < wn a m t T k := by
  obtain ⟨t, ht, hs, hz⟩ := S.bwd hk T h
  obtain ⟨p, hp, ha, hl⟩ := h
  refine ⟨t, ht, ?_⟩
  have c1 : (t : Int) ≤ a p := Classical.byContradiction fun q => hl (hz p hp (by omega))
  have nn : ∀ q, q < k → 0 ≤ (if (t : Int) ≤ a q ∧ a q ≤ T then l (T + 1) q else 0) := fun q hq => by
    split
    · exact S.nn _ (by omega)
    · exact Int.le_refl _
  have := sm_term (t := p) nn hp
  simp only [if_pos (And.intro c1 ha)] at this
  have := S.nn (T + 1) (p := p) (by omega)
  show _ < sm _ k
  unfold wn at hs
  omega
/-- all of the first k that are there are done behind the hour T, just if there is room for them -/
theorem clear {k : Nat} (hk : k ≤ n) (T : Nat) : (∀ p, p < k → a p ≤ T → l (T + 1) p = 0) ↔ ∀ t : Nat, t ≤ T → wn a m t T k ≤ R * ((T : Int) + 1 - t) := by
  constructor
  · exact fun h t ht => S.fwd hk h ht
  · intro h p hp ha
    refine Classical.byContradiction fun q => ?_
    obtain ⟨t, ht, hs⟩ := S.more hk ⟨p, hp, ha, q⟩
    have := h t ht; omega
end Sim
end Go.Ax

/-
  Plant: the order of the lots (insertion), the hours (written by program).
-/
namespace Go.Ax
open Go Go.RowKit

def swp (L : Nat → Nat) (j : Nat) : Nat → Nat := fun p => if p = j then L (j - 1) else if p = j - 1 then L j else L p
def ltL (du : Nat → Int) (a b : Nat) : Prop := du a < du b ∨ (du a = du b ∧ a < b)
theorem ltL_trans {du : Nat → Int} {a b c : Nat} (h : ltL du a b) (k : ltL du b c) : ltL du a c := by unfold ltL at *; omega
theorem sm_swp {f : Nat → Int} {L : Nat → Nat} {j n : Nat} (h0 : 0 < j) (hn : j < n) : sm (fun p => f (swp L j p)) n = sm (fun p => f (L p)) n := by
  have a : sm (fun p => if p = j then f (L (j - 1)) else f (L p)) n = sm (fun p => f (L p)) n + (f (L (j - 1)) - f (L j)) := by
    refine sm_upd (t := j) ?_ ?_ hn
    · show (if j = j then f (L (j - 1)) else f (L j)) = f (L j) + (f (L (j - 1)) - f (L j)); rw [if_pos rfl]; omega
    · intro i e; show (if i = j then f (L (j - 1)) else f (L i)) = f (L i); rw [if_neg e]
  have b : sm (fun p => f (swp L j p)) n = sm (fun p => if p = j then f (L (j - 1)) else f (L p)) n + (f (L j) - f (L (j - 1))) := by
    refine sm_upd (t := j - 1) ?_ ?_ (by omega)
    · show f (swp L j (j - 1)) = (if j - 1 = j then f (L (j - 1)) else f (L (j - 1))) + (f (L j) - f (L (j - 1)))
      unfold swp; rw [if_neg (by omega), if_pos rfl, if_neg (by omega)]; omega
    · intro i e
      show f (swp L j i) = (if i = j then f (L (j - 1)) else f (L i))
      unfold swp
      by_cases q : i = j
      · rw [if_pos q, if_pos q]
      · rw [if_neg q, if_neg q, if_neg e]
  omega
structure OO (du : Nat → Int) (n i : Nat) (L : Nat → Nat) : Prop where
  lt : ∀ p, p < n → L p < n
  su : ∀ f : Nat → Int, sm (fun p => f (L p)) n = sm f n
  tl : ∀ p, p < n → i ≤ p → L p = p
  lw : ∀ p, p < i → L p < i
  so : ∀ p q, p < q → q < i → ltL du (L p) (L q)
structure JJ (du : Nat → Int) (n i j : Nat) (L : Nat → Nat) : Prop where
  lt : ∀ p, p < n → L p < n
  su : ∀ f : Nat → Int, sm (fun p => f (L p)) n = sm f n
  tl : ∀ p, p < n → i < p → L p = p
  cu : L j = i
  lw : ∀ p, p ≤ i → p ≠ j → L p < i
  so : ∀ p q, p < q → q ≤ i → p ≠ j → q ≠ j → ltL du (L p) (L q)
  af : ∀ q, j < q → q ≤ i → ltL du (L j) (L q)
theorem JJ.step {du : Nat → Int} {n i j : Nat} {L : Nat → Nat} (h : JJ du n i (j + 1) L) (hi : i < n) (hj : j + 1 ≤ i) (hd : du (L (j + 1)) < du (L j)) : JJ du n i j (swp L (j + 1)) := by
  have e1 : swp L (j + 1) (j + 1) = L j := by unfold swp; rw [if_pos rfl]; rfl
  have e2 : swp L (j + 1) j = L (j + 1) := by unfold swp; rw [if_neg (by omega), if_pos (by omega)]
  have e3 : ∀ p, p ≠ j → p ≠ j + 1 → swp L (j + 1) p = L p := fun p a b => by unfold swp; rw [if_neg b, if_neg (by omega)]
  refine ⟨fun p hp => ?_, fun f => ?_, fun p a b => ?_, by rw [e2]; exact h.cu, fun p a b => ?_, fun p q a b c d => ?_, fun q a b => ?_⟩
  · by_cases a : p = j + 1
    · subst a; rw [e1]; exact h.lt j (by omega)
    · by_cases b : p = j
      · subst b; rw [e2]; exact h.lt _ (by omega)
      · rw [e3 p b a]; exact h.lt p hp
  · rw [sm_swp (by omega) (by omega)]; exact h.su f
  · rw [e3 p (by omega) (by omega)]; exact h.tl p a b
  · by_cases q : p = j + 1
    · subst q; rw [e1]; exact h.lw j (by omega) (by omega)
    · rw [e3 p b q]; exact h.lw p a q
  · by_cases x : p = j + 1
    · subst x; rw [e1, e3 q d (by omega)]; exact h.so j q (by omega) b (by omega) (by omega)
    · by_cases y : q = j + 1
      · subst y; rw [e1, e3 p c x]; exact h.so p j (by omega) (by omega) x (by omega)
      · rw [e3 p c x, e3 q d y]; exact h.so p q a b x y
  · rw [e2]
    by_cases y : q = j + 1
    · subst y; rw [e1]; exact .inl hd
    · rw [e3 q (by omega) y]; exact h.af q (by omega) b
theorem JJ.fin {du : Nat → Int} {n i j : Nat} {L : Nat → Nat} (h : JJ du n i j L) (hi : i < n) (hj : j ≤ i) (hd : j = 0 ∨ du (L (j - 1)) ≤ du (L j)) : OO du n (i + 1) L := by
  refine ⟨h.lt, h.su, fun p a b => h.tl p a (by omega), fun p hp => ?_, fun p q a b => ?_⟩
  · by_cases e : p = j
    · subst e; rw [h.cu]; omega
    · have := h.lw p (by omega) e; omega
  · by_cases x : p = j
    · subst x; exact h.af q a (by omega)
    · by_cases y : q = j
      · subst y
        have key : ltL du (L (q - 1)) (L q) := by
          have l := h.lw (q - 1) (by omega) (by omega)
          have c := h.cu
          unfold ltL; omega
        by_cases z : p = q - 1
        · rw [z]; exact key
        · exact ltL_trans (h.so p (q - 1) (by omega) (by omega) x (by omega)) key
      · exact h.so p q a (by omega) x y
theorem OO.inj {du : Nat → Int} {n : Nat} {L : Nat → Nat} (h : OO du n n L) (p q : Nat) (hp : p < n) (hq : q < n) (e : L p = L q) : p = q := by
  rcases Nat.lt_trichotomy p q with a | a | a
  · have := h.so p q a hq; rw [e] at this; unfold ltL at this; omega
  · exact a
  · have := h.so q p a hp; rw [e] at this; unfold ltL at this; omega
end Go.Ax

/-
  Plant: lists of numbers that a function gives (written by program).
-/
namespace Go.Ax
open Go Go.RowKit

def nf (f : Nat → Int) (n : Nat) : List Value := ints ((List.range n).map f)
theorem nf_len (f : Nat → Int) (n : Nat) : (nf f n).length = n := by unfold nf; rw [ints_len]; simp
theorem nf_get {f : Nat → Int} {n k : Nat} (h : k < n) : ((List.range n).map f)[k]? = some (f k) := by rw [List.getElem?_map, List.getElem?_range h]; rfl
theorem nf_at {f : Nat → Int} {n k : Nat} (h : k < n) : (nf f n)[0 + k * 1]? = some (iv (f k)) := ints_at (nf_get h)
theorem nf_congr {f g : Nat → Int} {n : Nat} (h : ∀ k, k < n → f k = g k) : nf f n = nf g n := by
  unfold nf; rw [List.map_congr_left (fun r hr => h r (List.mem_range.1 hr))]
theorem nf_succ (f : Nat → Int) (n : Nat) : nf f (n + 1) = nf f n ++ [iv (f n)] := by
  unfold nf; rw [List.range_succ, List.map_append]; simp [ints]
def duF (us : List Fz) (x : Nat) : Int := (us.getD x Fz.z).du
def rdF (us : List Fz) (x : Nat) : Int := (us.getD x Fz.z).rd
def msF (us : List Fz) (x : Nat) : Int := (us.getD x Fz.z).ms
theorem Fz.at {us : List Fz} {i : Nat} {x : Fz} (h : us[i]? = some x) : duF us i = x.du ∧ rdF us i = x.rd ∧ msF us i = x.ms := by
  unfold duF rdF msF
  rw [List.getD_eq_getElem?_getD, h]; exact ⟨rfl, rfl, rfl⟩
def Fz.ok (x : Fz) : Bool := isw x.du 500 && isw x.rd x.du && isw x.ms 1099511627776
theorem Fz.ok_t {x : Fz} (h : x.ok = true) : (0 ≤ x.du ∧ x.du ≤ 500) ∧ (0 ≤ x.rd ∧ x.rd ≤ x.du) ∧ 0 ≤ x.ms ∧ x.ms ≤ 1099511627776 := by
  unfold Fz.ok at h; simp only [Bool.and_eq_true] at h
  exact ⟨isw_t h.1.1, isw_t h.1.2, isw_t h.2⟩
theorem all_at {us : List Fz} (h : us.all Fz.ok = true) {i : Nat} (hi : i < us.length) : (0 ≤ duF us i ∧ duF us i ≤ 500) ∧ (0 ≤ rdF us i ∧ rdF us i ≤ duF us i) ∧ 0 ≤ msF us i ∧ msF us i ≤ 1099511627776 := by
  obtain ⟨x, hx⟩ := get_some hi
  obtain ⟨a, b, c⟩ := Fz.at hx
  rw [a, b, c]
  exact Fz.ok_t (List.all_eq_true.1 h x (List.mem_of_getElem? hx))
end Go.Ax

/-! What 'low' makes of functions of plant (written by program). -/
namespace Go.Ax
open Go Go.RowKit Go.Proofs
theorem N27 : Try.f27.ntmps = 26 := by kernel_rfl
theorem Z27 : Try.f27.results.toList = ((List.toArray [(.tmp 4)]) : Array ResultVar).toList := by kernel_rfl
theorem B27 : Try.f27.body = some (at_ Try.f27 []) := by kernel_rfl
noncomputable def R27 : RC := (.seq (.reg [⟨(some 4), none, (.mov (.const (.bool false)))⟩])
  (.seq (.seq (.reg [⟨(some 6), none, (.mov (.tmp 0))⟩, ⟨(some 7), none, (.len (.tmp 6))⟩, ⟨(some 8), none, (.mov (.tmp 1))⟩, ⟨(some 9), none, (.len (.tmp 8))⟩, ⟨(some 10), none, (.cmp .neq (.tmp 7) (.tmp 9))⟩])
  (.cond (.tmp 10) (.seq (.reg [⟨(some 4), none, (.mov (.const (.bool false)))⟩])
  .ret)
  .skip))
  (.seq (.seq (.reg [⟨(some 5), none, (.mov (.const (.int .i64 0)))⟩])
  (.block 0 (.other (at_ Try.f27 [1, 1, 0, 1, 0]))))
  (.seq (.reg [⟨(some 4), none, (.mov (.const (.bool true)))⟩])
  .ret))))
theorem L27 : low Try.prog Try.f27.ntmps (at_ Try.f27 []) = some R27 := by kernel_rfl
theorem E27_1 : at_ Try.f27 [1, 1, 0, 1, 0] = .loop (at_ Try.f27 [1, 1, 0, 1, 0, 0]) := by kernel_rfl
noncomputable def R27x1 : RC := (.seq (.seq (.reg [⟨(some 11), none, (.mov (.tmp 5))⟩, ⟨(some 12), none, (.mov (.tmp 0))⟩, ⟨(some 13), none, (.len (.tmp 12))⟩, ⟨(some 14), none, (.cmp .lss (.tmp 11) (.tmp 13))⟩])
  (.cond (.tmp 14) .skip
  (.exit 0)))
  (.seq (.block 1 (.seq (.dreg [⟨(some 17), none, (.mov (.tmp 0))⟩, ⟨(some 18), none, (.mov (.tmp 5))⟩, ⟨(some 19), none, (.idx (.tmp 17) (.tmp 18) 1)⟩, ⟨(some 20), none, (.ld (.tmp 19) 1)⟩, ⟨(some 21), none, (.mov (.tmp 1))⟩, ⟨(some 22), none, (.mov (.tmp 5))⟩, ⟨(some 23), none, (.idx (.tmp 21) (.tmp 22) 1)⟩, ⟨(some 24), none, (.ld (.tmp 23) 1)⟩, ⟨(some 25), none, (.cmp .neq (.tmp 20) (.tmp 24))⟩] [255, 112, 48, 0, 0, 7, 3, 0, 0])
  (.cond (.tmp 25) (.seq (.reg [⟨(some 4), none, (.mov (.const (.bool false)))⟩])
  .ret)
  .skip)))
  (.reg [⟨(some 15), none, (.mov (.tmp 5))⟩, ⟨(some 16), none, (.ari .add (.tmp 15) (.const (.int .i64 1)))⟩, ⟨(some 5), none, (.mov (.tmp 16))⟩])))
theorem L27x1 : low Try.prog Try.f27.ntmps (at_ Try.f27 [1, 1, 0, 1, 0, 0]) = some R27x1 := by kernel_rfl
end Go.Ax

/-
  Plant: lots: which are valid, their order (written by program).
-/
namespace Go.Ax
open Go Go.RowKit Go.Proofs

theorem se42 : sliceElem Try.prog 42 = some (3, 1) := by kernel_rfl
theorem z3 : zeroOf Try.prog 3 = some (iv 0) := by kernel_rfl
theorem u42 : Try.prog.underlying 42 = some (.slice 3) := by kernel_rfl
section
variable {kn : FuncId → Option Bool} {lo : Nat} {H : Hp}
end
end Go.Ax

/-
  Plant: blends: all of them in their order, the best one (written by program).
-/
namespace Go.Ax
open Go Go.RowKit

abbrev Bl := Nat → Int
abbrev bc (b : Bl) : List Value := [iv (b 0), iv (b 1), iv (b 2), iv (b 3), iv (b 4)]
def bz : Bl := fun _ => 0
def unF (us : List Tn) (i : Nat) : Int := (us.getD i Tn.z).un
theorem Tn.at {us : List Tn} {i : Nat} {x : Tn} (h : us[i]? = some x) : us.getD i Tn.z = x := by rw [List.getD_eq_getElem?_getD, h]; rfl
def Tn.ok (t : Tn) : Bool := isw t.un 12 && isw t.pr 1048576 && isw t.su 10000 && isw t.ac 10000 && isw t.co 10000
theorem Tn.ok_t {t : Tn} (h : t.ok = true) : (0 ≤ t.un ∧ t.un ≤ 12) ∧ (0 ≤ t.pr ∧ t.pr ≤ 1048576) ∧ (0 ≤ t.su ∧ t.su ≤ 10000) ∧ (0 ≤ t.ac ∧ t.ac ≤ 10000) ∧ 0 ≤ t.co ∧ t.co ≤ 10000 := by
  unfold Tn.ok at h; simp only [Bool.and_eq_true] at h
  exact ⟨isw_t h.1.1.1.1, isw_t h.1.1.1.2, isw_t h.1.1.2, isw_t h.1.2, isw_t h.2⟩
/-- a recipe -/
structure Rc where
  un : Int
  s1 : Int
  s2 : Int
  a1 : Int
  a2 : Int
  c1 : Int
  c2 : Int
abbrev Rc.f (r : Rc) : List Value := [iv r.un, iv r.s1, iv r.s2, iv r.a1, iv r.a2, iv r.c1, iv r.c2]
def spB (a b m : Int) : Bool := decide (0 ≤ a) && decide (a ≤ b) && decide (b ≤ m)
theorem spB_t {a b m : Int} (h : spB a b m = true) : 0 ≤ a ∧ a ≤ b ∧ b ≤ m := by simp [spB] at h; omega
def Rc.ok (r : Rc) : Bool := decide (1 ≤ r.un) && decide (r.un ≤ 60) && spB r.s1 r.s2 10000 && spB r.a1 r.a2 10000 && spB r.c1 r.c2 10000
theorem Rc.ok_t {r : Rc} (h : r.ok = true) : (1 ≤ r.un ∧ r.un ≤ 60) ∧ (0 ≤ r.s1 ∧ r.s1 ≤ r.s2 ∧ r.s2 ≤ 10000) ∧ (0 ≤ r.a1 ∧ r.a1 ≤ r.a2 ∧ r.a2 ≤ 10000) ∧ 0 ≤ r.c1 ∧ r.c1 ≤ r.c2 ∧ r.c2 ≤ 10000 := by
  unfold Rc.ok at h; simp only [Bool.and_eq_true, decide_eq_true_eq] at h
  exact ⟨⟨h.1.1.1.1, h.1.1.1.2⟩, spB_t h.1.1.2, spB_t h.1.2, spB_t h.2⟩
/-- the sum of a number of each tank times its units -/
def sumB (us : List Tn) (b : Bl) (f : Tn → Int) (k : Nat) : Int := sm (fun i => b i * f (us.getD i Tn.z)) k
def mixB (s u a b : Int) : Bool := decide (u * a ≤ s) && decide (s ≤ u * b)
def rigB (us : List Tn) (r : Rc) (b : Bl) : Bool := mixB (sumB us b Tn.su us.length) r.un r.s1 r.s2 && mixB (sumB us b Tn.ac us.length) r.un r.a1 r.a2 && mixB (sumB us b Tn.co us.length) r.un r.c1 r.c2
def cosB (us : List Tn) (b : Bl) : Int := sumB us b Tn.pr us.length
theorem sumB_in {us : List Tn} {b : Bl} {f : Tn → Int} {m : Int} (hb : ∀ i, 0 ≤ b i ∧ b i ≤ 12) (hm : 0 ≤ m) (hf : ∀ i, i < us.length → 0 ≤ f (us.getD i Tn.z) ∧ f (us.getD i Tn.z) ≤ m) : ∀ k, k ≤ us.length → 0 ≤ sumB us b f k ∧ sumB us b f k ≤ 12 * m * k
  | 0, _ => by show 0 ≤ (0 : Int) ∧ (0 : Int) ≤ 12 * m * ((0 : Nat) : Int); simp
  | k + 1, hk => by
    have a := sumB_in hb hm hf k (by omega)
    have c := hf k (by omega)
    have d := hb k
    have e : 0 ≤ b k * f (us.getD k Tn.z) := Int.mul_nonneg d.1 c.1
    have g : b k * f (us.getD k Tn.z) ≤ 12 * f (us.getD k Tn.z) := Int.mul_le_mul_of_nonneg_right d.2 c.1
    have h : 12 * m * ((k + 1 : Nat) : Int) = 12 * m * k + 12 * m := by rw [Int.natCast_add, Int.mul_add]; simp
    show 0 ≤ sumB us b f k + b k * f (us.getD k Tn.z) ∧ sumB us b f k + b k * f (us.getD k Tn.z) ≤ 12 * m * ((k + 1 : Nat) : Int)
    omega
/-- the units of the tanks behind -/
def hdN (us : List Tn) (k : Nat) : Int := sm (fun i => (us.getD i Tn.z).un) k
def lstU (us : List Tn) (nx : Nat) (u : Int) : Int := max 0 (u - hdN (us.drop (nx + 1)) (us.length - (nx + 1)))
def mstU (us : List Tn) (nx : Nat) (u : Int) : Int := min u (unF us nx)
def runs {α : Type} (f : Int → List α) : Nat → Int → List α
  | 0, _ => []
  | r + 1, v => f v ++ runs f r (v + 1)
/-- all ways to go on with a blend, in their order -/
def cmpl (us : List Tn) : Nat → Nat → Int → Bl → List Bl
  | 0, _, u, b => if u > 0 then [] else [b]
  | d + 1, nx, u, b => runs (fun v => cmpl us d (nx + 1) (u - v) (upd b nx v)) (mstU us nx u + 1 - lstU us nx u).toNat (lstU us nx u)
def pickB (us : List Tn) (a : Option Bl) (o : Bl) : Option Bl :=
  match a with
  | none => some o
  | some b => if cosB us o < cosB us b then some o else some b
def bstB (us : List Tn) (r : Rc) (a : Option Bl) (s : List Bl) : Option Bl := (s.filter (rigB us r)).foldl (pickB us) a
def allB (us : List Tn) (r : Rc) : List Bl := cmpl us us.length 0 r.un bz
def bestB (us : List Tn) (r : Rc) : Option Bl := bstB us r none (allB us r)
theorem bstB_skip {us : List Tn} {r : Rc} {a : Option Bl} {o : Bl} {s : List Bl} (h : rigB us r o = false) : bstB us r a (o :: s) = bstB us r a s := by
  unfold bstB; rw [List.filter_cons_of_neg (by simp [h])]
theorem bstB_step {us : List Tn} {r : Rc} {a : Option Bl} {o : Bl} {s : List Bl} (h : rigB us r o = true) : bstB us r a (o :: s) = bstB us r (pickB us a o) s := by
  unfold bstB; rw [List.filter_cons_of_pos (by simp [h])]; rfl
/-- lexicographic order -/
def ltB (b c : Bl) : Prop := ∃ i, (∀ j, j < i → b j = c j) ∧ b i < c i
theorem mem_runs {α : Type} {f : Int → List α} {x : α} : ∀ r v, x ∈ runs f r v ↔ ∃ w, v ≤ w ∧ w < v + r ∧ x ∈ f w
  | 0, v => by
    constructor
    · intro h; cases h
    · rintro ⟨w, h1, h2, _⟩; omega
  | r + 1, v => by
    show x ∈ f v ++ runs f r (v + 1) ↔ _
    rw [List.mem_append, mem_runs r (v + 1)]
    constructor
    · rintro (h | ⟨w, h1, h2, h3⟩)
      · exact ⟨v, Int.le_refl _, by omega, h⟩
      · exact ⟨w, by omega, by omega, h3⟩
    · rintro ⟨w, h1, h2, h3⟩
      by_cases e : w = v
      · subst e; exact .inl h3
      · exact .inr ⟨w, by omega, by omega, h3⟩
/-- what all of them have: what was there, units within the tanks, together as many as are wanted -/
theorem mem_cmpl {us : List Tn} {x : Bl} : ∀ d nx u b, nx + d = us.length → x ∈ cmpl us d nx u b → (∀ i, i < nx → x i = b i) ∧ (∀ i, us.length ≤ i → x i = b i) ∧ (∀ i, nx ≤ i → i < us.length → 0 ≤ x i ∧ x i ≤ unF us i) ∧ u ≤ sm x us.length - sm x nx ∧ (0 ≤ u → sm x us.length - sm x nx = u)
  | 0, nx, u, b, hd, h => by
    have e : nx = us.length := by omega
    have h : x ∈ if u > 0 then ([] : List Bl) else [b] := h
    split at h
    · cases h
    · rw [List.mem_singleton] at h
      subst h
      refine ⟨fun _ _ => rfl, fun _ _ => rfl, fun i h1 h2 => absurd h1 (by omega), by rw [e]; omega, fun _ => by rw [e]; omega⟩
  | d + 1, nx, u, b, hd, h => by
    obtain ⟨w, h1, h2, h3⟩ := (mem_runs _ _).1 h
    obtain ⟨a1, a2, a3, a4, a5⟩ := mem_cmpl d (nx + 1) (u - w) (upd b nx w) (by omega) h3
    have hl : 0 ≤ lstU us nx u := by unfold lstU; omega
    have hm : w ≤ mstU us nx u := by omega
    have xn : x nx = w := by rw [a1 nx (by omega)]; unfold upd; rw [if_pos rfl]
    have hs : sm x (nx + 1) = sm x nx + x nx := rfl
    unfold mstU at hm
    refine ⟨fun i hi => by rw [a1 i (by omega)]; unfold upd; rw [if_neg (by omega)], fun i hi => by rw [a2 i hi]; unfold upd; rw [if_neg (by omega)], fun i h4 h5 => ?_, by omega, fun hu => by have := a5 (by omega); omega⟩
    by_cases e : i = nx
    · subst e; rw [xn]; omega
    · exact a3 i (by omega) h5
theorem sm_drop (us : List Tn) (k : Nat) : ∀ m, hdN (us.drop k) m = hdN us (k + m) - hdN us k
  | 0 => by show 0 = hdN us k - hdN us k; omega
  | m + 1 => by
    have e : (us.drop k).getD m Tn.z = us.getD (k + m) Tn.z := by rw [List.getD_eq_getElem?_getD, List.getD_eq_getElem?_getD, List.getElem?_drop]
    show hdN (us.drop k) m + ((us.drop k).getD m Tn.z).un = hdN us (k + m) + (us.getD (k + m) Tn.z).un - hdN us k
    rw [sm_drop us k m, e]; omega
/-- and all that have it are among them -/
theorem cmpl_mem {us : List Tn} {x : Bl} : ∀ d nx u b, nx + d = us.length → (∀ i, i < nx → x i = b i) → (∀ i, us.length ≤ i → x i = b i) → (∀ i, nx ≤ i → i < us.length → 0 ≤ x i ∧ x i ≤ unF us i) → sm x us.length - sm x nx = u → x ∈ cmpl us d nx u b
  | 0, nx, u, b, hd, h1, h2, h3, h4 => by
    have e : nx = us.length := by omega
    have hu : ¬ u > 0 := by rw [e] at h4; omega
    show x ∈ if u > 0 then ([] : List Bl) else [b]
    rw [if_neg hu, List.mem_singleton]
    funext i
    rcases Nat.lt_or_ge i nx with q | q
    · exact h1 i q
    · exact h2 i (by omega)
  | d + 1, nx, u, b, hd, h1, h2, h3, h4 => by
    have hn := h3 nx (Nat.le_refl _) (by omega)
    have hs : sm x (nx + 1) = sm x nx + x nx := rfl
    have up : ∀ m, nx + 1 + m ≤ us.length → sm x (nx + 1 + m) - sm x (nx + 1) ≤ hdN us (nx + 1 + m) - hdN us (nx + 1) ∧ 0 ≤ sm x (nx + 1 + m) - sm x (nx + 1) := by
      intro m
      induction m with
      | zero => intro _; constructor <;> (show _ ≤ _; simp)
      | succ m ih =>
        intro hm
        have := ih (by omega)
        have := h3 (nx + 1 + m) (by omega) (by omega)
        have e1 : sm x (nx + 1 + (m + 1)) = sm x (nx + 1 + m) + x (nx + 1 + m) := rfl
        have e2 : hdN us (nx + 1 + (m + 1)) = hdN us (nx + 1 + m) + unF us (nx + 1 + m) := rfl
        omega
    have u1 := up d (by omega)
    rw [show nx + 1 + d = us.length by omega] at u1
    have hh : hdN (us.drop (nx + 1)) (us.length - (nx + 1)) = hdN us us.length - hdN us (nx + 1) := by
      rw [sm_drop, show nx + 1 + (us.length - (nx + 1)) = us.length by omega]
    refine (mem_runs _ _).2 ⟨x nx, ?_, ?_, ?_⟩
    · unfold lstU; rw [hh]; omega
    · have : lstU us nx u ≤ x nx := by unfold lstU; rw [hh]; omega
      have : x nx ≤ mstU us nx u := by unfold mstU; omega
      omega
    · refine cmpl_mem d (nx + 1) (u - x nx) (upd b nx (x nx)) (by omega) (fun i hi => ?_) (fun i hi => ?_) (fun i a c => h3 i (by omega) c) (by omega)
      · unfold upd
        split
        · rename_i e; rw [e]
        · exact h1 i (by omega)
      · unfold upd; rw [if_neg (by omega)]; exact h2 i hi
theorem runs_sorted {f : Int → List Bl} {R : Bl → Bl → Prop} : ∀ (r : Nat) (v : Int), (∀ w, v ≤ w → w < v + (r : Int) → (f w).Pairwise R) → (∀ w w', v ≤ w → w < w' → w' < v + (r : Int) → ∀ x ∈ f w, ∀ y ∈ f w', R x y) → (runs f r v).Pairwise R
  | 0, _, _, _ => .nil
  | r + 1, v, h1, h2 => by
    show (f v ++ runs f r (v + 1)).Pairwise R
    rw [List.pairwise_append]
    refine ⟨h1 v (Int.le_refl _) (by omega), runs_sorted r (v + 1) (fun w a b => h1 w (by omega) (by omega)) (fun w w' a b c => h2 w w' (by omega) b (by omega)), fun x hx y hy => ?_⟩
    obtain ⟨w, q1, q2, q3⟩ := (mem_runs _ _).1 hy
    exact h2 v w (Int.le_refl _) (by omega) (by omega) x hx y q3
theorem cmpl_sorted {us : List Tn} : ∀ d nx u b, nx + d = us.length → (cmpl us d nx u b).Pairwise ltB
  | 0, nx, u, b, _ => by
    show (if u > 0 then ([] : List Bl) else [b]).Pairwise ltB
    split
    · exact .nil
    · exact List.pairwise_singleton _ _
  | d + 1, nx, u, b, hd => by
    refine runs_sorted _ _ (fun w _ _ => cmpl_sorted d (nx + 1) _ _ (by omega)) (fun w w' _ hw _ x hx y hy => ?_)
    have a := mem_cmpl d (nx + 1) (u - w) (upd b nx w) (by omega) hx
    have c := mem_cmpl d (nx + 1) (u - w') (upd b nx w') (by omega) hy
    refine ⟨nx, fun j hj => ?_, ?_⟩
    · rw [a.1 j (by omega), c.1 j (by omega)]; unfold upd; rw [if_neg (by omega), if_neg (by omega)]
    · rw [a.1 nx (by omega), c.1 nx (by omega)]; unfold upd; rw [if_pos rfl, if_pos rfl]; exact hw
/-- a fold that takes the first one of the cheapest -/
theorem fold_best {us : List Tn} : ∀ (s : List Bl) (a : Option Bl), (match s.foldl (pickB us) a with
    | none => a = none ∧ s = []
    | some b => (a = some b ∨ b ∈ s) ∧ (∀ c, a = some c → c ≠ b → cosB us b < cosB us c) ∧ (∀ x ∈ s, cosB us b ≤ cosB us x) ∧ ∀ c, a = some c → cosB us b ≤ cosB us c)
  | [], a => by
    cases a with
    | none => exact ⟨rfl, rfl⟩
    | some b =>
      show (some b = some b ∨ b ∈ []) ∧ (∀ c, some b = some c → c ≠ b → cosB us b < cosB us c) ∧ (∀ x ∈ ([] : List Bl), cosB us b ≤ cosB us x) ∧ ∀ c, some b = some c → cosB us b ≤ cosB us c
      refine ⟨.inl rfl, fun c e ne => absurd (Option.some.inj e).symm ne, fun x hx => ?_, fun c e => ?_⟩
      · cases hx
      · cases e; exact Int.le_refl _
  | o :: s, a => by
    have ih := fold_best (us := us) s (pickB us a o)
    rw [List.foldl_cons]
    cases hr : s.foldl (pickB us) (pickB us a o) with
    | none =>
      rw [hr] at ih
      obtain ⟨h1, _⟩ := ih
      cases a with
      | none => cases h1
      | some c => unfold pickB at h1; simp only at h1; split at h1 <;> cases h1
    | some b =>
      rw [hr] at ih
      obtain ⟨h1, h2, h3, h4⟩ := ih
      cases a with
      | none =>
        have e : pickB us none o = some o := rfl
        rw [e] at h1 h2 h4
        have hob : cosB us b ≤ cosB us o := h4 o rfl
        refine ⟨.inr ?_, fun c q => (by cases q), fun x hx => ?_, fun c q => (by cases q)⟩
        · rcases h1 with q | q
          · cases q; exact List.mem_cons_self ..
          · exact List.mem_cons_of_mem _ q
        · rcases List.mem_cons.1 hx with rfl | q
          · exact hob
          · exact h3 x q
      | some c =>
        by_cases q : cosB us o < cosB us c
        · have e : pickB us (some c) o = some o := by unfold pickB; simp only; rw [if_pos q]
          rw [e] at h1 h2 h4
          have hob : cosB us b ≤ cosB us o := h4 o rfl
          refine ⟨.inr ?_, fun c' e' _ => by cases e'; omega, fun x hx => ?_, fun c' e' => by cases e'; omega⟩
          · rcases h1 with w | w
            · cases w; exact List.mem_cons_self ..
            · exact List.mem_cons_of_mem _ w
          · rcases List.mem_cons.1 hx with rfl | w
            · exact hob
            · exact h3 x w
        · have e : pickB us (some c) o = some c := by unfold pickB; simp only; rw [if_neg q]
          rw [e] at h1 h2 h4
          have hcb : cosB us b ≤ cosB us c := h4 c rfl
          refine ⟨?_, fun c' e' ne => by cases e'; exact h2 c rfl ne, fun x hx => ?_, fun c' e' => by cases e'; exact hcb⟩
          · rcases h1 with w | w
            · exact .inl w
            · exact .inr (List.mem_cons_of_mem _ w)
          · rcases List.mem_cons.1 hx with rfl | w
            · omega
            · exact h3 x w
theorem fold_first {us : List Tn} : ∀ (s : List Bl) (a : Option Bl) (b : Bl), s.Pairwise ltB → (∀ c, a = some c → ∀ x ∈ s, ltB c x) → s.foldl (pickB us) a = some b → ∀ x, (a = some x ∨ x ∈ s) → cosB us x = cosB us b → x = b ∨ ltB b x
  | [], a, b, _, _, h, x, hx, _ => by
    rcases hx with rfl | q
    · left; exact Option.some.inj h
    · cases q
  | o :: s, a, b, hp, ha, h, x, hx, hc => by
    rw [List.foldl_cons] at h
    obtain ⟨p1, p2⟩ := List.pairwise_cons.1 hp
    have fb := fold_best (us := us) s (pickB us a o)
    rw [h] at fb
    obtain ⟨f1, f2, f3, f4⟩ := fb
    have ha2 : ∀ c, pickB us a o = some c → ∀ y ∈ s, ltB c y := by
      intro c e y hy
      cases a with
      | none => cases e; exact p1 y hy
      | some d =>
        unfold pickB at e; simp only at e
        split at e
        · cases e; exact p1 y hy
        · cases e; exact ha _ rfl y (List.mem_cons_of_mem _ hy)
    have ih := fold_first s (pickB us a o) b p2 ha2 h
    by_cases q : pickB us a o = some x ∨ x ∈ s
    · exact ih x q hc
    · -- x was not picked
      cases a with
      | none =>
        rcases hx with w | w
        · cases w
        · rcases List.mem_cons.1 w with rfl | w
          · exact absurd (.inl rfl) q
          · exact absurd (.inr w) q
      | some d =>
        by_cases z : cosB us o < cosB us d
        · have e : pickB us (some d) o = some o := by unfold pickB; simp only; rw [if_pos z]
          have : cosB us b ≤ cosB us o := f4 o e
          rcases hx with w | w
          · cases w; omega
          · rcases List.mem_cons.1 w with rfl | w
            · exact absurd (.inl e) q
            · exact absurd (.inr w) q
        · have e : pickB us (some d) o = some d := by unfold pickB; simp only; rw [if_neg z]
          have hbd : cosB us b ≤ cosB us d := f4 d e
          rcases hx with w | w
          · cases w; exact absurd (.inl e) q
          · rcases List.mem_cons.1 w with rfl | w
            · -- x = o, as cheap as what is best: it lies behind d
              have hdx := ha d rfl x (List.mem_cons_self ..)
              rcases ih d (.inl e) (by omega) with w | w
              · rw [← w]; exact .inr hdx
              · obtain ⟨i, i1, i2⟩ := w
                obtain ⟨j, j1, j2⟩ := hdx
                right
                rcases Nat.lt_trichotomy i j with l | l | l
                · exact ⟨i, fun k hk => (i1 k hk).trans (j1 k (by omega)), by rw [← j1 i l]; exact i2⟩
                · subst l; exact ⟨i, fun k hk => (i1 k hk).trans (j1 k hk), by omega⟩
                · exact ⟨j, fun k hk => (i1 k (by omega)).trans (j1 k hk), by rw [i1 j l]; exact j2⟩
            · exact absurd (.inr w) q
/-- A blend of a recipe. -/
structure IsB (us : List Tn) (r : Rc) (x : Bl) : Prop where
  z : ∀ i, us.length ≤ i → x i = 0
  un : ∀ i, i < us.length → 0 ≤ x i ∧ x i ≤ unF us i
  su : sm x us.length = r.un
  ri : rigB us r x = true
theorem IsB.mem {us : List Tn} {r : Rc} {x : Bl} (h : IsB us r x) : x ∈ (allB us r).filter (rigB us r) := by
  rw [List.mem_filter]
  exact ⟨cmpl_mem us.length 0 r.un bz (by omega) (fun i hi => absurd hi (by omega)) (fun i hi => h.z i hi) (fun i _ hi => h.un i hi) (by have := h.su; show sm x us.length - 0 = r.un; omega), h.ri⟩
theorem IsB.of {us : List Tn} {r : Rc} {x : Bl} (hr : 0 ≤ r.un) (h : x ∈ (allB us r).filter (rigB us r)) : IsB us r x := by
  rw [List.mem_filter] at h
  obtain ⟨a1, a2, a3, a4, a5⟩ := mem_cmpl us.length 0 r.un bz (by omega) h.1
  exact ⟨a2, fun i hi => a3 i (by omega) hi, by have := a5 hr; show sm x us.length = r.un; have e : sm x 0 = 0 := rfl; omega, h.2⟩
/-- the best one -/
theorem bestB_says {us : List Tn} {r : Rc} (hr : 0 ≤ r.un) : (match bestB us r with
    | none => ∀ x, ¬ IsB us r x
    | some b => IsB us r b ∧ ∀ x, IsB us r x → cosB us b ≤ cosB us x ∧ (cosB us x = cosB us b → x = b ∨ ltB b x)) := by
  have fb := fold_best (us := us) ((allB us r).filter (rigB us r)) none
  have ff := fold_first (us := us) ((allB us r).filter (rigB us r)) none
  have e : bestB us r = ((allB us r).filter (rigB us r)).foldl (pickB us) none := rfl
  rw [e]
  cases hb : ((allB us r).filter (rigB us r)).foldl (pickB us) none with
  | none =>
    rw [hb] at fb
    intro x hx
    have := hx.mem
    rw [fb.2] at this; cases this
  | some b =>
    rw [hb] at fb
    obtain ⟨f1, _, f3, _⟩ := fb
    have hmem : b ∈ (allB us r).filter (rigB us r) := f1.elim (fun q => by cases q) id
    refine ⟨IsB.of hr hmem, fun x hx => ⟨f3 x hx.mem, fun hc => ?_⟩⟩
    exact ff b ((cmpl_sorted us.length 0 r.un bz (by omega)).filter _) (fun c q => by cases q) hb x (.inr hx.mem) hc
end Go.Ax

/-! What 'low' makes of functions of plant (written by program). -/
namespace Go.Ax
open Go Go.RowKit Go.Proofs
theorem N73 : Try.f73.ntmps = 26 := by kernel_rfl
theorem Z73 : Try.f73.results.toList = ((List.toArray [(.tmp 2)]) : Array ResultVar).toList := by kernel_rfl
theorem B73 : Try.f73.body = some (at_ Try.f73 []) := by kernel_rfl
noncomputable def R73 : RC := (.seq (.reg [⟨(some 1), none, (.box 73 (.tmp 0))⟩, ⟨(some 2), none, (.mov (.const (.bool false)))⟩])
  (.seq (.seq (.reg [⟨(some 3), none, (.addo (.tmp 1) 0)⟩, ⟨(some 4), none, (.ld (.tmp 3) 1)⟩, ⟨(some 5), none, (.call ⟨(.value (.func 95)), (List.toArray [(.tmp 4), (.const (.int .i64 12))]), (List.toArray [3, 3])⟩ true)⟩, ⟨(some 6), none, (.pur ⟨(some 6), (.unOp .not 4 (.tmp 5)), 4, "", (List.toArray []), none⟩)⟩, ⟨(some 7), none, (.mov (.tmp 6))⟩, ⟨(some 8), (some (7, false)), (.addo (.tmp 1) 4)⟩, ⟨(some 9), (some (7, false)), (.ld (.tmp 8) 1)⟩, ⟨(some 10), (some (7, false)), (.call ⟨(.value (.func 95)), (List.toArray [(.tmp 9), (.const (.int .i64 1048576))]), (List.toArray [3, 3])⟩ true)⟩, ⟨(some 11), (some (7, false)), (.pur ⟨(some 11), (.unOp .not 4 (.tmp 10)), 4, "", (List.toArray []), none⟩)⟩, ⟨(some 12), none, (.pur ⟨(some 12), (.pick (.tmp 7) (.const (.bool true)) (.tmp 11)), 4, "", (List.toArray []), none⟩)⟩])
  (.cond (.tmp 12) (.seq (.reg [⟨(some 2), none, (.mov (.const (.bool false)))⟩])
  .ret)
  .skip))
  (.seq (.reg [⟨(some 13), none, (.addo (.tmp 1) 1)⟩, ⟨(some 14), none, (.ld (.tmp 13) 1)⟩, ⟨(some 15), none, (.call ⟨(.value (.func 95)), (List.toArray [(.tmp 14), (.const (.int .i64 10000))]), (List.toArray [3, 3])⟩ true)⟩, ⟨(some 16), none, (.mov (.tmp 15))⟩, ⟨(some 17), (some (16, true)), (.addo (.tmp 1) 2)⟩, ⟨(some 18), (some (16, true)), (.ld (.tmp 17) 1)⟩, ⟨(some 19), (some (16, true)), (.call ⟨(.value (.func 95)), (List.toArray [(.tmp 18), (.const (.int .i64 10000))]), (List.toArray [3, 3])⟩ true)⟩, ⟨(some 20), none, (.pur ⟨(some 20), (.pick (.tmp 16) (.tmp 19) (.const (.bool false))), 4, "", (List.toArray []), none⟩)⟩, ⟨(some 21), none, (.mov (.tmp 20))⟩, ⟨(some 22), (some (21, true)), (.addo (.tmp 1) 3)⟩, ⟨(some 23), (some (21, true)), (.ld (.tmp 22) 1)⟩, ⟨(some 24), (some (21, true)), (.call ⟨(.value (.func 95)), (List.toArray [(.tmp 23), (.const (.int .i64 10000))]), (List.toArray [3, 3])⟩ true)⟩, ⟨(some 25), none, (.pur ⟨(some 25), (.pick (.tmp 21) (.tmp 24) (.const (.bool false))), 4, "", (List.toArray []), none⟩)⟩, ⟨(some 2), none, (.mov (.tmp 25))⟩])
  .ret)))
theorem L73 : low Try.prog Try.f73.ntmps (at_ Try.f73 []) = some R73 := by kernel_rfl
theorem N72 : Try.f72.ntmps = 7 := by kernel_rfl
theorem Z72 : Try.f72.results.toList = ((List.toArray [(.tmp 4)]) : Array ResultVar).toList := by kernel_rfl
theorem B72 : Try.f72.body = some (at_ Try.f72 []) := by kernel_rfl
noncomputable def R72 : RC := (.seq (.reg [⟨(some 3), none, (.box 73 (.tmp 1))⟩, ⟨(some 4), none, (.mov (.const (.bool false)))⟩])
  (.seq (.reg [⟨(some 5), none, (.lda (.tmp 3) 5)⟩, ⟨(some 6), none, (.call ⟨(.value (.func 73)), (List.toArray [(.tmp 5)]), (List.toArray [73])⟩ true)⟩, ⟨(some 4), none, (.mov (.tmp 6))⟩])
  .ret))
theorem L72 : low Try.prog Try.f72.ntmps (at_ Try.f72 []) = some R72 := by kernel_rfl
theorem N71 : Try.f71.ntmps = 34 := by kernel_rfl
theorem Z71 : Try.f71.results.toList = ((List.toArray [(.tmp 8)]) : Array ResultVar).toList := by kernel_rfl
theorem B71 : Try.f71.body = some (at_ Try.f71 []) := by kernel_rfl
noncomputable def R71 : RC := (.seq (.reg [⟨(some 8), none, (.mov (.const (.bool false)))⟩])
  (.seq (.seq (.reg [⟨(some 11), none, (.mov (.tmp 0))⟩, ⟨(some 12), none, (.len (.tmp 11))⟩, ⟨(some 13), none, (.mov (.tmp 1))⟩, ⟨(some 14), none, (.cmpb .lss (.tmp 12) (.tmp 13))⟩, ⟨(some 15), none, (.mov (.tmp 14))⟩, ⟨(some 16), (some (15, false)), (.mov (.tmp 0))⟩, ⟨(some 17), (some (15, false)), (.len (.tmp 16))⟩, ⟨(some 18), (some (15, false)), (.mov (.tmp 2))⟩, ⟨(some 19), (some (15, false)), (.cmpb .gtr (.tmp 17) (.tmp 18))⟩, ⟨(some 20), none, (.pur ⟨(some 20), (.pick (.tmp 15) (.const (.bool true)) (.tmp 19)), 4, "", (List.toArray []), none⟩)⟩])
  (.cond (.tmp 20) (.seq (.reg [⟨(some 8), none, (.mov (.const (.bool false)))⟩])
  .ret)
  .skip))
  (.seq (.seq (.reg [⟨(some 21), none, (.mov (.tmp 0))⟩, ⟨(some 22), none, (.len (.tmp 21))⟩, ⟨(some 23), none, (.mov (.const (.int .i64 0)))⟩])
  (.block 0 (.other (at_ Try.f71 [1, 1, 0, 1, 0]))))
  (.seq (.reg [⟨(some 8), none, (.mov (.const (.bool true)))⟩])
  .ret))))
theorem L71 : low Try.prog Try.f71.ntmps (at_ Try.f71 []) = some R71 := by kernel_rfl
theorem E71_1 : at_ Try.f71 [1, 1, 0, 1, 0] = .loop (at_ Try.f71 [1, 1, 0, 1, 0, 0]) := by kernel_rfl
noncomputable def R71x1 : RC := (.seq (.reg [⟨(some 24), none, (.cmp .lss (.tmp 23) (.tmp 22))⟩])
  (.seq (.cond (.tmp 24) .skip
  (.exit 0))
  (.seq (.block 1 (.seq (.reg [⟨(some 25), none, (.mov (.tmp 23))⟩, ⟨(some 26), none, (.idx (.tmp 21) (.tmp 23) 5)⟩, ⟨(some 27), none, (.lda (.tmp 26) 5)⟩, ⟨(some 10), none, (.alc 73 [(.int .i64 0), (.int .i64 0), (.int .i64 0), (.int .i64 0), (.int .i64 0)])⟩, ⟨(some 9), none, (.mov (.tmp 25))⟩, ⟨none, none, (.sta (.tmp 10) (.tmp 27) 5)⟩])
  (.seq (.reg [⟨(some 28), none, (.mov (.tmp 3))⟩, ⟨(some 29), none, (.mov (.tmp 9))⟩, ⟨(some 30), none, (.lda (.tmp 10) 5)⟩, ⟨(some 31), none, (.call ⟨(.value (.tmp 28)), (List.toArray [(.tmp 29), (.tmp 30)]), (List.toArray [3, 73])⟩ true)⟩, ⟨(some 32), none, (.pur ⟨(some 32), (.unOp .not 4 (.tmp 31)), 4, "", (List.toArray []), none⟩)⟩])
  (.cond (.tmp 32) (.seq (.reg [⟨(some 8), none, (.mov (.const (.bool false)))⟩])
  .ret)
  .skip))))
  (.reg [⟨(some 33), none, (.ari .add (.tmp 23) (.const (.int .i64 1)))⟩, ⟨(some 23), none, (.mov (.tmp 33))⟩]))))
theorem L71x1 : low Try.prog Try.f71.ntmps (at_ Try.f71 [1, 1, 0, 1, 0, 0]) = some R71x1 := by kernel_rfl
theorem N51 : Try.f51.ntmps = 5 := by kernel_rfl
theorem Z51 : Try.f51.results.toList = ((List.toArray [(.tmp 2)]) : Array ResultVar).toList := by kernel_rfl
theorem B51 : Try.f51.body = some (at_ Try.f51 []) := by kernel_rfl
noncomputable def R51 : RC := (.seq (.reg [⟨(some 2), none, (.mov (.const (.bool false)))⟩])
  (.seq (.reg [⟨(some 3), none, (.mov (.tmp 0))⟩, ⟨(some 4), none, (.call ⟨(.value (.func 71)), (List.toArray [(.tmp 3), (.const (.int .i64 0)), (.const (.int .i64 5)), (.func 72)]), (List.toArray [36, 3, 3, 117])⟩ true)⟩, ⟨(some 2), none, (.mov (.tmp 4))⟩])
  .ret))
theorem L51 : low Try.prog Try.f51.ntmps (at_ Try.f51 []) = some R51 := by kernel_rfl
theorem N74 : Try.f74.ntmps = 21 := by kernel_rfl
theorem Z74 : Try.f74.results.toList = ((List.toArray [(.tmp 4)]) : Array ResultVar).toList := by kernel_rfl
theorem B74 : Try.f74.body = some (at_ Try.f74 []) := by kernel_rfl
noncomputable def R74 : RC := (.seq (.reg [⟨(some 2), none, (.box 38 (.tmp 0))⟩, ⟨(some 4), none, (.mov (.const (.bool false)))⟩])
  (.seq (.reg [⟨(some 5), none, (.addo (.tmp 2) 0)⟩, ⟨(some 6), none, (.ld (.tmp 5) 1)⟩, ⟨(some 7), none, (.cmpb .leq (.const (.int .i64 0)) (.tmp 6))⟩, ⟨(some 8), none, (.mov (.tmp 7))⟩, ⟨(some 9), (some (8, true)), (.addo (.tmp 2) 0)⟩, ⟨(some 10), (some (8, true)), (.ld (.tmp 9) 1)⟩, ⟨(some 11), (some (8, true)), (.addo (.tmp 2) 1)⟩, ⟨(some 12), (some (8, true)), (.ld (.tmp 11) 1)⟩, ⟨(some 13), (some (8, true)), (.cmpb .leq (.tmp 10) (.tmp 12))⟩, ⟨(some 14), none, (.pur ⟨(some 14), (.pick (.tmp 8) (.tmp 13) (.const (.bool false))), 4, "", (List.toArray []), none⟩)⟩, ⟨(some 15), none, (.mov (.tmp 14))⟩, ⟨(some 16), (some (15, true)), (.addo (.tmp 2) 1)⟩, ⟨(some 17), (some (15, true)), (.ld (.tmp 16) 1)⟩, ⟨(some 18), (some (15, true)), (.mov (.tmp 1))⟩, ⟨(some 19), (some (15, true)), (.cmpb .leq (.tmp 17) (.tmp 18))⟩, ⟨(some 20), none, (.pur ⟨(some 20), (.pick (.tmp 15) (.tmp 19) (.const (.bool false))), 4, "", (List.toArray []), none⟩)⟩, ⟨(some 4), none, (.mov (.tmp 20))⟩])
  .ret))
theorem L74 : low Try.prog Try.f74.ntmps (at_ Try.f74 []) = some R74 := by kernel_rfl
theorem N52 : Try.f52.ntmps = 24 := by kernel_rfl
theorem Z52 : Try.f52.results.toList = ((List.toArray [(.tmp 2)]) : Array ResultVar).toList := by kernel_rfl
theorem B52 : Try.f52.body = some (at_ Try.f52 []) := by kernel_rfl
noncomputable def R52 : RC := (.seq (.reg [⟨(some 1), none, (.box 40 (.tmp 0))⟩, ⟨(some 2), none, (.mov (.const (.bool false)))⟩])
  (.seq (.seq (.reg [⟨(some 3), none, (.addo (.tmp 1) 0)⟩, ⟨(some 4), none, (.ld (.tmp 3) 1)⟩, ⟨(some 5), none, (.cmpb .lss (.tmp 4) (.const (.int .i64 1)))⟩, ⟨(some 6), none, (.mov (.tmp 5))⟩, ⟨(some 7), (some (6, false)), (.addo (.tmp 1) 0)⟩, ⟨(some 8), (some (6, false)), (.ld (.tmp 7) 1)⟩, ⟨(some 9), (some (6, false)), (.cmpb .gtr (.tmp 8) (.const (.int .i64 60)))⟩, ⟨(some 10), none, (.pur ⟨(some 10), (.pick (.tmp 6) (.const (.bool true)) (.tmp 9)), 4, "", (List.toArray []), none⟩)⟩])
  (.cond (.tmp 10) (.seq (.reg [⟨(some 2), none, (.mov (.const (.bool false)))⟩])
  .ret)
  .skip))
  (.seq (.reg [⟨(some 11), none, (.addo (.tmp 1) 1)⟩, ⟨(some 12), none, (.lda (.tmp 11) 2)⟩, ⟨(some 13), none, (.call ⟨(.value (.func 74)), (List.toArray [(.tmp 12), (.const (.int .i64 10000))]), (List.toArray [38, 3])⟩ true)⟩, ⟨(some 14), none, (.mov (.tmp 13))⟩, ⟨(some 15), (some (14, true)), (.addo (.tmp 1) 3)⟩, ⟨(some 16), (some (14, true)), (.lda (.tmp 15) 2)⟩, ⟨(some 17), (some (14, true)), (.call ⟨(.value (.func 74)), (List.toArray [(.tmp 16), (.const (.int .i64 10000))]), (List.toArray [38, 3])⟩ true)⟩, ⟨(some 18), none, (.pur ⟨(some 18), (.pick (.tmp 14) (.tmp 17) (.const (.bool false))), 4, "", (List.toArray []), none⟩)⟩, ⟨(some 19), none, (.mov (.tmp 18))⟩, ⟨(some 20), (some (19, true)), (.addo (.tmp 1) 5)⟩, ⟨(some 21), (some (19, true)), (.lda (.tmp 20) 2)⟩, ⟨(some 22), (some (19, true)), (.call ⟨(.value (.func 74)), (List.toArray [(.tmp 21), (.const (.int .i64 10000))]), (List.toArray [38, 3])⟩ true)⟩, ⟨(some 23), none, (.pur ⟨(some 23), (.pick (.tmp 19) (.tmp 22) (.const (.bool false))), 4, "", (List.toArray []), none⟩)⟩, ⟨(some 2), none, (.mov (.tmp 23))⟩])
  .ret)))
theorem L52 : low Try.prog Try.f52.ntmps (at_ Try.f52 []) = some R52 := by kernel_rfl
theorem N77 : Try.f77.ntmps = 5 := by kernel_rfl
theorem Z77 : Try.f77.results.toList = ((List.toArray [(.tmp 2)]) : Array ResultVar).toList := by kernel_rfl
theorem B77 : Try.f77.body = some (at_ Try.f77 []) := by kernel_rfl
noncomputable def R77 : RC := (.seq (.reg [⟨(some 1), none, (.box 73 (.tmp 0))⟩, ⟨(some 2), none, (.mov (.const (.int .i64 0)))⟩])
  (.seq (.reg [⟨(some 3), none, (.addo (.tmp 1) 4)⟩, ⟨(some 4), none, (.ld (.tmp 3) 1)⟩, ⟨(some 2), none, (.mov (.tmp 4))⟩])
  .ret))
theorem L77 : low Try.prog Try.f77.ntmps (at_ Try.f77 []) = some R77 := by kernel_rfl
theorem N108 : Try.f108.ntmps = 5 := by kernel_rfl
theorem Z108 : Try.f108.results.toList = ((List.toArray [(.tmp 2)]) : Array ResultVar).toList := by kernel_rfl
theorem B108 : Try.f108.body = some (at_ Try.f108 []) := by kernel_rfl
noncomputable def R108 : RC := (.seq (.reg [⟨(some 1), none, (.box 73 (.tmp 0))⟩, ⟨(some 2), none, (.mov (.const (.int .i64 0)))⟩])
  (.seq (.reg [⟨(some 3), none, (.addo (.tmp 1) 1)⟩, ⟨(some 4), none, (.ld (.tmp 3) 1)⟩, ⟨(some 2), none, (.mov (.tmp 4))⟩])
  .ret))
theorem L108 : low Try.prog Try.f108.ntmps (at_ Try.f108 []) = some R108 := by kernel_rfl
theorem N109 : Try.f109.ntmps = 5 := by kernel_rfl
theorem Z109 : Try.f109.results.toList = ((List.toArray [(.tmp 2)]) : Array ResultVar).toList := by kernel_rfl
theorem B109 : Try.f109.body = some (at_ Try.f109 []) := by kernel_rfl
noncomputable def R109 : RC := (.seq (.reg [⟨(some 1), none, (.box 73 (.tmp 0))⟩, ⟨(some 2), none, (.mov (.const (.int .i64 0)))⟩])
  (.seq (.reg [⟨(some 3), none, (.addo (.tmp 1) 2)⟩, ⟨(some 4), none, (.ld (.tmp 3) 1)⟩, ⟨(some 2), none, (.mov (.tmp 4))⟩])
  .ret))
theorem L109 : low Try.prog Try.f109.ntmps (at_ Try.f109 []) = some R109 := by kernel_rfl
theorem N110 : Try.f110.ntmps = 5 := by kernel_rfl
theorem Z110 : Try.f110.results.toList = ((List.toArray [(.tmp 2)]) : Array ResultVar).toList := by kernel_rfl
theorem B110 : Try.f110.body = some (at_ Try.f110 []) := by kernel_rfl
noncomputable def R110 : RC := (.seq (.reg [⟨(some 1), none, (.box 73 (.tmp 0))⟩, ⟨(some 2), none, (.mov (.const (.int .i64 0)))⟩])
  (.seq (.reg [⟨(some 3), none, (.addo (.tmp 1) 3)⟩, ⟨(some 4), none, (.ld (.tmp 3) 1)⟩, ⟨(some 2), none, (.mov (.tmp 4))⟩])
  .ret))
theorem L110 : low Try.prog Try.f110.ntmps (at_ Try.f110 []) = some R110 := by kernel_rfl
theorem N76 : Try.f76.ntmps = 28 := by kernel_rfl
theorem Z76 : Try.f76.results.toList = ((List.toArray [(.tmp 6)]) : Array ResultVar).toList := by kernel_rfl
theorem B76 : Try.f76.body = some (at_ Try.f76 []) := by kernel_rfl
noncomputable def R76 : RC := (.seq (.reg [⟨(some 3), none, (.box 89 (.tmp 0))⟩, ⟨(some 6), none, (.mov (.const (.int .i64 0)))⟩])
  (.seq (.reg [⟨(some 7), none, (.mov (.const (.int .i64 0)))⟩])
  (.seq (.seq (.reg [⟨(some 10), none, (.mov (.tmp 1))⟩, ⟨(some 11), none, (.len (.tmp 10))⟩, ⟨(some 12), none, (.mov (.const (.int .i64 0)))⟩])
  (.block 0 (.other (at_ Try.f76 [1, 1, 0, 1, 0]))))
  (.seq (.reg [⟨(some 27), none, (.mov (.tmp 7))⟩, ⟨(some 6), none, (.mov (.tmp 27))⟩])
  .ret))))
theorem L76 : low Try.prog Try.f76.ntmps (at_ Try.f76 []) = some R76 := by kernel_rfl
theorem E76_1 : at_ Try.f76 [1, 1, 0, 1, 0] = .loop (at_ Try.f76 [1, 1, 0, 1, 0, 0]) := by kernel_rfl
noncomputable def R76x1 : RC := (.seq (.reg [⟨(some 13), none, (.cmp .lss (.tmp 12) (.tmp 11))⟩])
  (.seq (.cond (.tmp 13) .skip
  (.exit 0))
  (.seq (.block 1 (.seq (.reg [⟨(some 14), none, (.mov (.tmp 12))⟩, ⟨(some 15), none, (.idx (.tmp 10) (.tmp 12) 5)⟩, ⟨(some 16), none, (.lda (.tmp 15) 5)⟩, ⟨(some 9), none, (.alc 73 [(.int .i64 0), (.int .i64 0), (.int .i64 0), (.int .i64 0), (.int .i64 0)])⟩, ⟨(some 8), none, (.mov (.tmp 14))⟩, ⟨none, none, (.sta (.tmp 9) (.tmp 16) 5)⟩])
  (.dreg [⟨(some 17), none, (.mov (.tmp 7))⟩, ⟨(some 18), none, (.mov (.tmp 8))⟩, ⟨(some 19), none, (.idxa (.tmp 3) (.tmp 18) 5 1)⟩, ⟨(some 20), none, (.ld (.tmp 19) 1)⟩, ⟨(some 21), none, (.mov (.tmp 2))⟩, ⟨(some 22), none, (.lda (.tmp 9) 5)⟩, ⟨(some 23), none, (.call ⟨(.value (.tmp 21)), (List.toArray [(.tmp 22)]), (List.toArray [73])⟩ false)⟩, ⟨(some 24), none, (.ari .mul (.tmp 20) (.tmp 23))⟩, ⟨(some 25), none, (.ari .add (.tmp 17) (.tmp 24))⟩, ⟨(some 7), none, (.mov (.tmp 25))⟩] [511, 255, 126, 48, 0, 0, 6, 2, 0, 0])))
  (.reg [⟨(some 26), none, (.ari .add (.tmp 12) (.const (.int .i64 1)))⟩, ⟨(some 12), none, (.mov (.tmp 26))⟩]))))
theorem L76x1 : low Try.prog Try.f76.ntmps (at_ Try.f76 [1, 1, 0, 1, 0, 0]) = some R76x1 := by kernel_rfl
theorem N55 : Try.f55.ntmps = 8 := by kernel_rfl
theorem Z55 : Try.f55.results.toList = ((List.toArray [(.tmp 4)]) : Array ResultVar).toList := by kernel_rfl
theorem B55 : Try.f55.body = some (at_ Try.f55 []) := by kernel_rfl
noncomputable def R55 : RC := (.seq (.reg [⟨(some 2), none, (.box 89 (.tmp 0))⟩, ⟨(some 4), none, (.mov (.const (.int .i64 0)))⟩])
  (.seq (.reg [⟨(some 5), none, (.lda (.tmp 2) 5)⟩, ⟨(some 6), none, (.mov (.tmp 1))⟩, ⟨(some 7), none, (.call ⟨(.value (.func 76)), (List.toArray [(.tmp 5), (.tmp 6), (.func 77)]), (List.toArray [89, 36, 123])⟩ true)⟩, ⟨(some 4), none, (.mov (.tmp 7))⟩])
  .ret))
theorem L55 : low Try.prog Try.f55.ntmps (at_ Try.f55 []) = some R55 := by kernel_rfl
theorem N111 : Try.f111.ntmps = 21 := by kernel_rfl
theorem Z111 : Try.f111.results.toList = ((List.toArray [(.tmp 6)]) : Array ResultVar).toList := by kernel_rfl
theorem B111 : Try.f111.body = some (at_ Try.f111 []) := by kernel_rfl
noncomputable def R111 : RC := (.seq (.reg [⟨(some 5), none, (.box 38 (.tmp 2))⟩, ⟨(some 6), none, (.mov (.const (.bool false)))⟩])
  (.seq (.reg [⟨(some 7), none, (.mov (.tmp 1))⟩, ⟨(some 8), none, (.addo (.tmp 5) 0)⟩, ⟨(some 9), none, (.ld (.tmp 8) 1)⟩, ⟨(some 10), none, (.ari .mul (.tmp 7) (.tmp 9))⟩, ⟨(some 11), none, (.mov (.tmp 0))⟩, ⟨(some 12), none, (.cmpb .leq (.tmp 10) (.tmp 11))⟩, ⟨(some 13), none, (.mov (.tmp 12))⟩, ⟨(some 14), (some (13, true)), (.mov (.tmp 0))⟩, ⟨(some 15), (some (13, true)), (.mov (.tmp 1))⟩, ⟨(some 16), (some (13, true)), (.addo (.tmp 5) 1)⟩, ⟨(some 17), (some (13, true)), (.ld (.tmp 16) 1)⟩, ⟨(some 18), (some (13, true)), (.ari .mul (.tmp 15) (.tmp 17))⟩, ⟨(some 19), (some (13, true)), (.cmpb .leq (.tmp 14) (.tmp 18))⟩, ⟨(some 20), none, (.pur ⟨(some 20), (.pick (.tmp 13) (.tmp 19) (.const (.bool false))), 4, "", (List.toArray []), none⟩)⟩, ⟨(some 6), none, (.mov (.tmp 20))⟩])
  .ret))
theorem L111 : low Try.prog Try.f111.ntmps (at_ Try.f111 []) = some R111 := by kernel_rfl
theorem N103 : Try.f103.ntmps = 41 := by kernel_rfl
theorem Z103 : Try.f103.results.toList = ((List.toArray [(.tmp 6)]) : Array ResultVar).toList := by kernel_rfl
theorem B103 : Try.f103.body = some (at_ Try.f103 []) := by kernel_rfl
noncomputable def R103 : RC := (.seq (.reg [⟨(some 3), none, (.box 89 (.tmp 0))⟩, ⟨(some 5), none, (.box 40 (.tmp 2))⟩, ⟨(some 6), none, (.mov (.const (.bool false)))⟩])
  (.seq (.reg [⟨(some 10), none, (.lda (.tmp 3) 5)⟩, ⟨(some 11), none, (.mov (.tmp 1))⟩, ⟨(some 12), none, (.call ⟨(.value (.func 76)), (List.toArray [(.tmp 10), (.tmp 11), (.func 108)]), (List.toArray [89, 36, 123])⟩ true)⟩, ⟨(some 7), none, (.mov (.tmp 12))⟩])
  (.seq (.reg [⟨(some 13), none, (.lda (.tmp 3) 5)⟩, ⟨(some 14), none, (.mov (.tmp 1))⟩, ⟨(some 15), none, (.call ⟨(.value (.func 76)), (List.toArray [(.tmp 13), (.tmp 14), (.func 109)]), (List.toArray [89, 36, 123])⟩ true)⟩, ⟨(some 8), none, (.mov (.tmp 15))⟩])
  (.seq (.reg [⟨(some 16), none, (.lda (.tmp 3) 5)⟩, ⟨(some 17), none, (.mov (.tmp 1))⟩, ⟨(some 18), none, (.call ⟨(.value (.func 76)), (List.toArray [(.tmp 16), (.tmp 17), (.func 110)]), (List.toArray [89, 36, 123])⟩ true)⟩, ⟨(some 9), none, (.mov (.tmp 18))⟩])
  (.seq (.reg [⟨(some 19), none, (.mov (.tmp 7))⟩, ⟨(some 20), none, (.addo (.tmp 5) 0)⟩, ⟨(some 21), none, (.ld (.tmp 20) 1)⟩, ⟨(some 22), none, (.addo (.tmp 5) 1)⟩, ⟨(some 23), none, (.lda (.tmp 22) 2)⟩, ⟨(some 24), none, (.call ⟨(.value (.func 111)), (List.toArray [(.tmp 19), (.tmp 21), (.tmp 23)]), (List.toArray [3, 3, 38])⟩ true)⟩, ⟨(some 25), none, (.mov (.tmp 24))⟩, ⟨(some 26), (some (25, true)), (.mov (.tmp 8))⟩, ⟨(some 27), (some (25, true)), (.addo (.tmp 5) 0)⟩, ⟨(some 28), (some (25, true)), (.ld (.tmp 27) 1)⟩, ⟨(some 29), (some (25, true)), (.addo (.tmp 5) 3)⟩, ⟨(some 30), (some (25, true)), (.lda (.tmp 29) 2)⟩, ⟨(some 31), (some (25, true)), (.call ⟨(.value (.func 111)), (List.toArray [(.tmp 26), (.tmp 28), (.tmp 30)]), (List.toArray [3, 3, 38])⟩ true)⟩, ⟨(some 32), none, (.pur ⟨(some 32), (.pick (.tmp 25) (.tmp 31) (.const (.bool false))), 4, "", (List.toArray []), none⟩)⟩, ⟨(some 33), none, (.mov (.tmp 32))⟩, ⟨(some 34), (some (33, true)), (.mov (.tmp 9))⟩, ⟨(some 35), (some (33, true)), (.addo (.tmp 5) 0)⟩, ⟨(some 36), (some (33, true)), (.ld (.tmp 35) 1)⟩, ⟨(some 37), (some (33, true)), (.addo (.tmp 5) 5)⟩, ⟨(some 38), (some (33, true)), (.lda (.tmp 37) 2)⟩, ⟨(some 39), (some (33, true)), (.call ⟨(.value (.func 111)), (List.toArray [(.tmp 34), (.tmp 36), (.tmp 38)]), (List.toArray [3, 3, 38])⟩ true)⟩, ⟨(some 40), none, (.pur ⟨(some 40), (.pick (.tmp 33) (.tmp 39) (.const (.bool false))), 4, "", (List.toArray []), none⟩)⟩, ⟨(some 6), none, (.mov (.tmp 40))⟩])
  .ret)))))
theorem L103 : low Try.prog Try.f103.ntmps (at_ Try.f103 []) = some R103 := by kernel_rfl
theorem N107 : Try.f107.ntmps = 18 := by kernel_rfl
theorem Z107 : Try.f107.results.toList = ((List.toArray [(.tmp 2)]) : Array ResultVar).toList := by kernel_rfl
theorem B107 : Try.f107.body = some (at_ Try.f107 []) := by kernel_rfl
noncomputable def R107 : RC := (.seq (.reg [⟨(some 2), none, (.mov (.const (.int .i64 0)))⟩])
  (.seq (.reg [⟨(some 3), none, (.mov (.const (.int .i64 0)))⟩])
  (.seq (.seq (.reg [⟨(some 6), none, (.mov (.tmp 0))⟩, ⟨(some 7), none, (.len (.tmp 6))⟩, ⟨(some 8), none, (.mov (.const (.int .i64 0)))⟩])
  (.block 0 (.other (at_ Try.f107 [1, 1, 0, 1, 0]))))
  (.seq (.reg [⟨(some 17), none, (.mov (.tmp 3))⟩, ⟨(some 2), none, (.mov (.tmp 17))⟩])
  .ret))))
theorem L107 : low Try.prog Try.f107.ntmps (at_ Try.f107 []) = some R107 := by kernel_rfl
theorem E107_1 : at_ Try.f107 [1, 1, 0, 1, 0] = .loop (at_ Try.f107 [1, 1, 0, 1, 0, 0]) := by kernel_rfl
noncomputable def R107x1 : RC := (.seq (.reg [⟨(some 9), none, (.cmp .lss (.tmp 8) (.tmp 7))⟩])
  (.seq (.cond (.tmp 9) .skip
  (.exit 0))
  (.seq (.block 1 (.seq (.reg [⟨(some 10), none, (.idx (.tmp 6) (.tmp 8) 5)⟩, ⟨(some 11), none, (.lda (.tmp 10) 5)⟩, ⟨(some 5), none, (.alc 73 [(.int .i64 0), (.int .i64 0), (.int .i64 0), (.int .i64 0), (.int .i64 0)])⟩, ⟨none, none, (.sta (.tmp 5) (.tmp 11) 5)⟩])
  (.reg [⟨(some 12), none, (.mov (.tmp 3))⟩, ⟨(some 13), none, (.addo (.tmp 5) 0)⟩, ⟨(some 14), none, (.ld (.tmp 13) 1)⟩, ⟨(some 15), none, (.ari .add (.tmp 12) (.tmp 14))⟩, ⟨(some 3), none, (.mov (.tmp 15))⟩])))
  (.reg [⟨(some 16), none, (.ari .add (.tmp 8) (.const (.int .i64 1)))⟩, ⟨(some 8), none, (.mov (.tmp 16))⟩]))))
theorem L107x1 : low Try.prog Try.f107.ntmps (at_ Try.f107 [1, 1, 0, 1, 0, 0]) = some R107x1 := by kernel_rfl
theorem N102 : Try.f102.ntmps = 16 := by kernel_rfl
theorem Z102 : Try.f102.results.toList = ((List.toArray [(.tmp 5)]) : Array ResultVar).toList := by kernel_rfl
theorem B102 : Try.f102.body = some (at_ Try.f102 []) := by kernel_rfl
noncomputable def R102 : RC := (.seq (.reg [⟨(some 4), none, (.box 89 (.tmp 0))⟩, ⟨(some 5), none, (.mov (.const (.bool false)))⟩])
  (.seq (.reg [⟨(some 6), none, (.lda (.tmp 4) 5)⟩, ⟨(some 7), none, (.ld (.tmp 1) 1)⟩, ⟨(some 8), none, (.lda (.tmp 2) 7)⟩, ⟨(some 9), none, (.call ⟨(.value (.func 103)), (List.toArray [(.tmp 6), (.tmp 7), (.tmp 8)]), (List.toArray [89, 36, 40])⟩ true)⟩, ⟨(some 10), none, (.pur ⟨(some 10), (.unOp .not 4 (.tmp 9)), 4, "", (List.toArray []), none⟩)⟩, ⟨(some 11), none, (.mov (.tmp 10))⟩, ⟨(some 12), (some (11, false)), (.ld (.tmp 3) 1)⟩, ⟨(some 13), (some (11, false)), (.lda (.tmp 4) 5)⟩, ⟨(some 14), (some (11, false)), (.call ⟨(.value (.tmp 12)), (List.toArray [(.tmp 13)]), (List.toArray [89])⟩ true)⟩, ⟨(some 15), none, (.pur ⟨(some 15), (.pick (.tmp 11) (.const (.bool true)) (.tmp 14)), 4, "", (List.toArray []), none⟩)⟩, ⟨(some 5), none, (.mov (.tmp 15))⟩])
  .ret))
theorem L102 : low Try.prog Try.f102.ntmps (at_ Try.f102 []) = some R102 := by kernel_rfl
theorem N101 : Try.f101.ntmps = 59 := by kernel_rfl
theorem Z101 : Try.f101.results.toList = ((List.toArray [(.tmp 10)]) : Array ResultVar).toList := by kernel_rfl
theorem B101 : Try.f101.body = some (at_ Try.f101 []) := by kernel_rfl
noncomputable def R101 : RC := (.seq (.reg [⟨(some 5), none, (.box 89 (.tmp 0))⟩, ⟨(some 10), none, (.mov (.const (.bool false)))⟩])
  (.seq (.seq (.reg [⟨(some 14), none, (.mov (.tmp 2))⟩, ⟨(some 15), none, (.mov (.tmp 1))⟩, ⟨(some 16), none, (.len (.tmp 15))⟩, ⟨(some 17), none, (.cmp .eql (.tmp 14) (.tmp 16))⟩])
  (.cond (.tmp 17) (.seq (.reg [⟨(some 18), none, (.mov (.tmp 3))⟩, ⟨(some 19), none, (.cmpb .gtr (.tmp 18) (.const (.int .i64 0)))⟩, ⟨(some 20), none, (.mov (.tmp 19))⟩, ⟨(some 21), (some (20, false)), (.mov (.tmp 4))⟩, ⟨(some 22), (some (20, false)), (.lda (.tmp 5) 5)⟩, ⟨(some 23), (some (20, false)), (.call ⟨(.value (.tmp 21)), (List.toArray [(.tmp 22)]), (List.toArray [89])⟩ true)⟩, ⟨(some 24), none, (.pur ⟨(some 24), (.pick (.tmp 20) (.const (.bool true)) (.tmp 23)), 4, "", (List.toArray []), none⟩)⟩, ⟨(some 10), none, (.mov (.tmp 24))⟩])
  .ret)
  .skip))
  (.seq (.reg [⟨(some 25), none, (.mov (.tmp 3))⟩, ⟨(some 26), none, (.mov (.tmp 1))⟩, ⟨(some 27), none, (.mov (.tmp 2))⟩, ⟨(some 28), none, (.ari .add (.tmp 27) (.const (.int .i64 1)))⟩, ⟨(some 29), none, (.mem ⟨(some 29), (.slice 36 (.tmp 26) (some (.tmp 28)) none none), 36, "", (List.toArray []), none⟩)⟩, ⟨(some 30), none, (.call ⟨(.value (.func 107)), (List.toArray [(.tmp 29)]), (List.toArray [36])⟩ true)⟩, ⟨(some 31), none, (.ari .sub (.tmp 25) (.tmp 30))⟩, ⟨(some 32), none, (.mm false (.const (.int .i64 0)) (.tmp 31))⟩, ⟨(some 11), none, (.mov (.tmp 32))⟩])
  (.seq (.reg [⟨(some 33), none, (.mov (.tmp 3))⟩, ⟨(some 34), none, (.mov (.tmp 1))⟩, ⟨(some 35), none, (.mov (.tmp 2))⟩, ⟨(some 36), none, (.idx (.tmp 34) (.tmp 35) 5)⟩, ⟨(some 37), none, (.addo (.tmp 36) 0)⟩, ⟨(some 38), none, (.ld (.tmp 37) 1)⟩, ⟨(some 39), none, (.mm true (.tmp 33) (.tmp 38))⟩, ⟨(some 12), none, (.mov (.tmp 39))⟩])
  (.seq (.seq (.reg [⟨(some 40), none, (.mov (.tmp 11))⟩, ⟨(some 13), none, (.mov (.tmp 40))⟩])
  (.block 0 (.other (at_ Try.f101 [1, 1, 1, 1, 0, 1, 0]))))
  (.seq (.reg [⟨(some 10), none, (.mov (.const (.bool true)))⟩])
  .ret))))))
theorem L101 : low Try.prog Try.f101.ntmps (at_ Try.f101 []) = some R101 := by kernel_rfl
theorem E101_1 : at_ Try.f101 [1, 1, 1, 1, 0, 1, 0] = .loop (at_ Try.f101 [1, 1, 1, 1, 0, 1, 0, 0]) := by kernel_rfl
noncomputable def R101x1 : RC := (.seq (.seq (.reg [⟨(some 41), none, (.mov (.tmp 13))⟩, ⟨(some 42), none, (.mov (.tmp 12))⟩, ⟨(some 43), none, (.cmp .leq (.tmp 41) (.tmp 42))⟩])
  (.cond (.tmp 43) .skip
  (.exit 0)))
  (.seq (.block 1 (.seq (.reg [⟨(some 46), none, (.mov (.tmp 2))⟩, ⟨(some 47), none, (.mov (.tmp 13))⟩, ⟨(some 48), none, (.idxa (.tmp 5) (.tmp 46) 5 1)⟩, ⟨none, none, (.st (.tmp 48) (.tmp 47))⟩])
  (.seq (.reg [⟨(some 49), none, (.lda (.tmp 5) 5)⟩, ⟨(some 50), none, (.mov (.tmp 1))⟩, ⟨(some 51), none, (.mov (.tmp 2))⟩, ⟨(some 52), none, (.ari .add (.tmp 51) (.const (.int .i64 1)))⟩, ⟨(some 53), none, (.mov (.tmp 3))⟩, ⟨(some 54), none, (.mov (.tmp 13))⟩, ⟨(some 55), none, (.ari .sub (.tmp 53) (.tmp 54))⟩, ⟨(some 56), none, (.mov (.tmp 4))⟩, ⟨(some 57), none, (.call ⟨(.value (.func 101)), (List.toArray [(.tmp 49), (.tmp 50), (.tmp 52), (.tmp 55), (.tmp 56)]), (List.toArray [89, 36, 3, 3, 143])⟩ true)⟩, ⟨(some 58), none, (.pur ⟨(some 58), (.unOp .not 4 (.tmp 57)), 4, "", (List.toArray []), none⟩)⟩])
  (.cond (.tmp 58) (.seq (.reg [⟨(some 10), none, (.mov (.const (.bool false)))⟩])
  .ret)
  .skip))))
  (.reg [⟨(some 44), none, (.mov (.tmp 13))⟩, ⟨(some 45), none, (.ari .add (.tmp 44) (.const (.int .i64 1)))⟩, ⟨(some 13), none, (.mov (.tmp 45))⟩])))
theorem L101x1 : low Try.prog Try.f101.ntmps (at_ Try.f101 [1, 1, 1, 1, 0, 1, 0, 0]) = some R101x1 := by kernel_rfl
theorem N100 : Try.f100.ntmps = 10 := by kernel_rfl
theorem Z100 : Try.f100.results.toList = ((List.toArray []) : Array ResultVar).toList := by kernel_rfl
theorem B100 : Try.f100.body = some (at_ Try.f100 []) := by kernel_rfl
noncomputable def R100 : RC := (.seq (.reg [⟨(some 3), none, (.box 143 (.tmp 0))⟩])
  (.reg [⟨(some 4), none, (.pur ⟨(some 4), (.build 89 (List.toArray [])), 89, "", (List.toArray []), none⟩)⟩, ⟨(some 5), none, (.ld (.tmp 1) 1)⟩, ⟨(some 6), none, (.addo (.tmp 2) 0)⟩, ⟨(some 7), none, (.ld (.tmp 6) 1)⟩, ⟨(some 8), none, (.pur ⟨(some 8), (.makeFunc (.func 102) (List.toArray []) (List.toArray [(.tmp 1), (.tmp 2), (.tmp 3)])), 143, "", (List.toArray []), none⟩)⟩, ⟨(some 9), none, (.call ⟨(.value (.func 101)), (List.toArray [(.tmp 4), (.tmp 5), (.const (.int .i64 0)), (.tmp 7), (.tmp 8)]), (List.toArray [89, 36, 3, 3, 143])⟩ true)⟩]))
theorem L100 : low Try.prog Try.f100.ntmps (at_ Try.f100 []) = some R100 := by kernel_rfl
theorem N75 : Try.f75.ntmps = 6 := by kernel_rfl
theorem Z75 : Try.f75.results.toList = ((List.toArray [(.tmp 4)]) : Array ResultVar).toList := by kernel_rfl
theorem B75 : Try.f75.body = some (at_ Try.f75 []) := by kernel_rfl
noncomputable def R75 : RC := (.seq (.reg [⟨(some 2), none, (.box 36 (.tmp 0))⟩, ⟨(some 3), none, (.box 40 (.tmp 1))⟩, ⟨(some 4), none, (.mov (.const .nilFunc))⟩])
  (.seq (.reg [⟨(some 5), none, (.pur ⟨(some 5), (.makeFunc (.func 100) (List.toArray []) (List.toArray [(.tmp 2), (.tmp 3)])), 119, "", (List.toArray []), none⟩)⟩, ⟨(some 4), none, (.mov (.tmp 5))⟩])
  .ret))
theorem L75 : low Try.prog Try.f75.ntmps (at_ Try.f75 []) = some R75 := by kernel_rfl
theorem N53 : Try.f53.ntmps = 25 := by kernel_rfl
theorem Z53 : Try.f53.results.toList = ((List.toArray [(.cell 4 89), (.cell 5 4)]) : Array ResultVar).toList := by kernel_rfl
theorem B53 : Try.f53.body = some (at_ Try.f53 []) := by kernel_rfl
noncomputable def R53 : RC := (.seq (.reg [⟨(some 2), none, (.box 36 (.tmp 0))⟩, ⟨(some 3), none, (.box 40 (.tmp 1))⟩, ⟨(some 4), none, (.alc 89 [(.int .i64 0), (.int .i64 0), (.int .i64 0), (.int .i64 0), (.int .i64 0)])⟩, ⟨(some 5), none, (.alc 4 [(.bool false)])⟩])
  (.seq (.seq (.reg [⟨(some 7), none, (.ld (.tmp 2) 1)⟩, ⟨(some 8), none, (.lda (.tmp 3) 7)⟩, ⟨(some 9), none, (.call ⟨(.value (.func 75)), (List.toArray [(.tmp 7), (.tmp 8)]), (List.toArray [36, 40])⟩ true)⟩])
  (.block 0 (.other (at_ Try.f53 [1, 0, 1, 0]))))
  (.seq (.dreg [⟨(some 23), none, (.lda (.tmp 4) 5)⟩, ⟨(some 24), none, (.ld (.tmp 5) 1)⟩, ⟨none, none, (.sta (.tmp 4) (.tmp 23) 5)⟩, ⟨none, none, (.st (.tmp 5) (.tmp 24))⟩] [7, 1, 0, 0])
  .ret)))
theorem L53 : low Try.prog Try.f53.ntmps (at_ Try.f53 []) = some R53 := by kernel_rfl
theorem E53_1 : at_ Try.f53 [1, 0, 1, 0] = .rangeFunc (.tmp 9) ((List.toArray [10])) (at_ Try.f53 [1, 0, 1, 0, 0]) (at_ Try.f53 [1, 0, 1, 0, 1]) := by kernel_rfl
noncomputable def R53x1 : RC := (.reg [⟨(some 6), none, (.alc 89 [(.int .i64 0), (.int .i64 0), (.int .i64 0), (.int .i64 0), (.int .i64 0)])⟩, ⟨none, none, (.sta (.tmp 6) (.tmp 10) 5)⟩])
theorem L53x1 : low Try.prog Try.f53.ntmps (at_ Try.f53 [1, 0, 1, 0, 0]) = some R53x1 := by kernel_rfl
noncomputable def R53x2 : RC := (.block 1 (.seq (.dreg [⟨(some 11), none, (.ld (.tmp 5) 1)⟩, ⟨(some 12), none, (.pur ⟨(some 12), (.unOp .not 4 (.tmp 11)), 4, "", (List.toArray []), none⟩)⟩, ⟨(some 13), none, (.mov (.tmp 12))⟩, ⟨(some 14), (some (13, false)), (.lda (.tmp 6) 5)⟩, ⟨(some 15), (some (13, false)), (.ld (.tmp 2) 1)⟩, ⟨(some 16), (some (13, false)), (.call ⟨(.value (.func 55)), (List.toArray [(.tmp 14), (.tmp 15)]), (List.toArray [89, 36])⟩ false)⟩, ⟨(some 17), (some (13, false)), (.lda (.tmp 4) 5)⟩, ⟨(some 18), (some (13, false)), (.ld (.tmp 2) 1)⟩, ⟨(some 19), (some (13, false)), (.call ⟨(.value (.func 55)), (List.toArray [(.tmp 17), (.tmp 18)]), (List.toArray [89, 36])⟩ true)⟩, ⟨(some 20), (some (13, false)), (.cmpb .lss (.tmp 16) (.tmp 19))⟩, ⟨(some 21), none, (.pur ⟨(some 21), (.pick (.tmp 13) (.const (.bool true)) (.tmp 20)), 4, "", (List.toArray []), none⟩)⟩] [1023, 511, 255, 7, 7, 31, 7, 7, 3, 1, 0])
  (.cond (.tmp 21) (.reg [⟨(some 22), none, (.lda (.tmp 6) 5)⟩, ⟨none, none, (.sta (.tmp 4) (.tmp 22) 5)⟩, ⟨none, none, (.st (.tmp 5) (.const (.bool true)))⟩])
  .skip)))
theorem L53x2 : low Try.prog Try.f53.ntmps (at_ Try.f53 [1, 0, 1, 0, 1]) = some R53x2 := by kernel_rfl
theorem N54 : Try.f54.ntmps = 9 := by kernel_rfl
theorem Z54 : Try.f54.results.toList = ((List.toArray [(.tmp 4)]) : Array ResultVar).toList := by kernel_rfl
theorem B54 : Try.f54.body = some (at_ Try.f54 []) := by kernel_rfl
noncomputable def R54 : RC := (.seq (.reg [⟨(some 2), none, (.box 89 (.tmp 0))⟩, ⟨(some 4), none, (.mov (.const (.slice none 0 0)))⟩])
  (.seq (.reg [⟨(some 5), none, (.mov (.tmp 1))⟩, ⟨(some 6), none, (.len (.tmp 5))⟩, ⟨(some 7), none, (.mem ⟨(some 7), (.slice 89 (.tmp 2) none (some (.tmp 6)) none), 42, "", (List.toArray []), none⟩)⟩, ⟨(some 8), none, (.mem ⟨(some 8), (.call ⟨(.builtin .append), (List.toArray [(.const (.slice none 0 0)), (.tmp 7)]), (List.toArray [42, 42])⟩), 42, "", (List.toArray []), none⟩)⟩, ⟨(some 4), none, (.mov (.tmp 8))⟩])
  .ret))
theorem L54 : low Try.prog Try.f54.ntmps (at_ Try.f54 []) = some R54 := by kernel_rfl
theorem N25 : Try.f25.ntmps = 34 := by kernel_rfl
theorem Z25 : Try.f25.results.toList = ((List.toArray [(.tmp 4), (.tmp 5), (.tmp 6)]) : Array ResultVar).toList := by kernel_rfl
theorem B25 : Try.f25.body = some (at_ Try.f25 []) := by kernel_rfl
noncomputable def R25 : RC := (.seq (.reg [⟨(some 3), none, (.box 40 (.tmp 1))⟩, ⟨(some 4), none, (.mov (.const (.slice none 0 0)))⟩, ⟨(some 5), none, (.mov (.const (.int .i64 0)))⟩, ⟨(some 6), none, (.mov (.const (.int .i64 0)))⟩])
  (.seq (.seq (.reg [⟨(some 9), none, (.mov (.tmp 0))⟩, ⟨(some 10), none, (.len (.tmp 9))⟩, ⟨(some 11), none, (.cmp .gtr (.tmp 10) (.const (.int .i64 5)))⟩])
  (.cond (.tmp 11) (.seq (.reg [⟨(some 4), none, (.mov (.const (.slice none 0 0)))⟩, ⟨(some 5), none, (.mov (.const (.int .i64 0)))⟩, ⟨(some 6), none, (.mov (.const (.int .i64 3)))⟩])
  .ret)
  .skip))
  (.seq (.seq (.reg [⟨(some 12), none, (.mov (.tmp 0))⟩, ⟨(some 13), none, (.call ⟨(.value (.func 51)), (List.toArray [(.tmp 12)]), (List.toArray [36])⟩ true)⟩, ⟨(some 14), none, (.pur ⟨(some 14), (.unOp .not 4 (.tmp 13)), 4, "", (List.toArray []), none⟩)⟩, ⟨(some 15), none, (.mov (.tmp 14))⟩, ⟨(some 16), (some (15, false)), (.lda (.tmp 3) 7)⟩, ⟨(some 17), (some (15, false)), (.call ⟨(.value (.func 52)), (List.toArray [(.tmp 16)]), (List.toArray [40])⟩ true)⟩, ⟨(some 18), (some (15, false)), (.pur ⟨(some 18), (.unOp .not 4 (.tmp 17)), 4, "", (List.toArray []), none⟩)⟩, ⟨(some 19), none, (.pur ⟨(some 19), (.pick (.tmp 15) (.const (.bool true)) (.tmp 18)), 4, "", (List.toArray []), none⟩)⟩])
  (.cond (.tmp 19) (.seq (.reg [⟨(some 4), none, (.mov (.const (.slice none 0 0)))⟩, ⟨(some 5), none, (.mov (.const (.int .i64 0)))⟩, ⟨(some 6), none, (.mov (.const (.int .i64 1)))⟩])
  .ret)
  .skip))
  (.seq (.reg [⟨(some 21), none, (.mov (.tmp 0))⟩, ⟨(some 22), none, (.lda (.tmp 3) 7)⟩, ⟨(some 23), none, (.call ⟨(.value (.func 53)), (List.toArray [(.tmp 21), (.tmp 22)]), (List.toArray [36, 40])⟩ true)⟩, ⟨(some 20), none, (.mov (.tmp 23))⟩, ⟨(some 24), none, (.pur ⟨(some 24), (.extract (.tmp 20) 0), 89, "", (List.toArray []), none⟩)⟩, ⟨(some 25), none, (.pur ⟨(some 25), (.extract (.tmp 20) 1), 4, "", (List.toArray []), none⟩)⟩, ⟨(some 7), none, (.alc 89 [(.int .i64 0), (.int .i64 0), (.int .i64 0), (.int .i64 0), (.int .i64 0)])⟩, ⟨none, none, (.sta (.tmp 7) (.tmp 24) 5)⟩, ⟨(some 8), none, (.mov (.tmp 25))⟩])
  (.seq (.seq (.reg [⟨(some 26), none, (.mov (.tmp 8))⟩, ⟨(some 27), none, (.pur ⟨(some 27), (.unOp .not 4 (.tmp 26)), 4, "", (List.toArray []), none⟩)⟩])
  (.cond (.tmp 27) (.seq (.reg [⟨(some 4), none, (.mov (.const (.slice none 0 0)))⟩, ⟨(some 5), none, (.mov (.const (.int .i64 0)))⟩, ⟨(some 6), none, (.mov (.const (.int .i64 4)))⟩])
  .ret)
  .skip))
  (.seq (.dreg [⟨(some 28), none, (.lda (.tmp 7) 5)⟩, ⟨(some 29), none, (.mov (.tmp 0))⟩, ⟨(some 30), none, (.call ⟨(.value (.func 54)), (List.toArray [(.tmp 28), (.tmp 29)]), (List.toArray [89, 36])⟩ false)⟩, ⟨(some 31), none, (.lda (.tmp 7) 5)⟩, ⟨(some 32), none, (.mov (.tmp 0))⟩, ⟨(some 33), none, (.call ⟨(.value (.func 55)), (List.toArray [(.tmp 31), (.tmp 32)]), (List.toArray [89, 36])⟩ true)⟩, ⟨(some 4), none, (.mov (.tmp 30))⟩, ⟨(some 5), none, (.mov (.tmp 33))⟩, ⟨(some 6), none, (.mov (.const (.int .i64 0)))⟩] [255, 127, 63, 31, 0, 0, 3, 0, 0])
  .ret))))))
theorem L25 : low Try.prog Try.f25.ntmps (at_ Try.f25 []) = some R25 := by kernel_rfl
theorem N35 : Try.f35.ntmps = 43 := by kernel_rfl
theorem Z35 : Try.f35.results.toList = ((List.toArray [(.tmp 2)]) : Array ResultVar).toList := by kernel_rfl
theorem B35 : Try.f35.body = some (at_ Try.f35 []) := by kernel_rfl
noncomputable def R35 : RC := (.seq (.reg [⟨(some 2), none, (.mov (.const (.bool false)))⟩])
  (.seq (.seq (.reg [⟨(some 3), none, (.mov (.const (.int .i64 0)))⟩])
  (.block 0 (.other (at_ Try.f35 [1, 0, 1, 0]))))
  (.seq (.reg [⟨(some 2), none, (.mov (.const (.bool true)))⟩])
  .ret)))
theorem L35 : low Try.prog Try.f35.ntmps (at_ Try.f35 []) = some R35 := by kernel_rfl
theorem E35_1 : at_ Try.f35 [1, 0, 1, 0] = .loop (at_ Try.f35 [1, 0, 1, 0, 0]) := by kernel_rfl
noncomputable def R35x1 : RC := (.seq (.seq (.reg [⟨(some 5), none, (.mov (.tmp 3))⟩, ⟨(some 6), none, (.mov (.tmp 0))⟩, ⟨(some 7), none, (.len (.tmp 6))⟩, ⟨(some 8), none, (.cmp .lss (.tmp 5) (.tmp 7))⟩])
  (.cond (.tmp 8) .skip
  (.exit 0)))
  (.seq (.block 1 (.seq (.reg [⟨(some 11), none, (.mov (.tmp 0))⟩, ⟨(some 12), none, (.mov (.tmp 3))⟩, ⟨(some 13), none, (.idx (.tmp 11) (.tmp 12) 5)⟩, ⟨(some 14), none, (.lda (.tmp 13) 5)⟩, ⟨(some 4), none, (.alc 73 [(.int .i64 0), (.int .i64 0), (.int .i64 0), (.int .i64 0), (.int .i64 0)])⟩, ⟨none, none, (.sta (.tmp 4) (.tmp 14) 5)⟩])
  (.seq (.reg [⟨(some 15), none, (.addo (.tmp 4) 0)⟩, ⟨(some 16), none, (.ld (.tmp 15) 1)⟩, ⟨(some 17), none, (.call ⟨(.value (.func 50)), (List.toArray [(.tmp 16), (.const (.int .i64 0)), (.const (.int .i64 12))]), (List.toArray [3, 3, 3])⟩ true)⟩, ⟨(some 18), none, (.pur ⟨(some 18), (.unOp .not 4 (.tmp 17)), 4, "", (List.toArray []), none⟩)⟩, ⟨(some 19), none, (.mov (.tmp 18))⟩, ⟨(some 20), (some (19, false)), (.addo (.tmp 4) 1)⟩, ⟨(some 21), (some (19, false)), (.ld (.tmp 20) 1)⟩, ⟨(some 22), (some (19, false)), (.call ⟨(.value (.func 50)), (List.toArray [(.tmp 21), (.const (.int .i64 0)), (.const (.int .i64 10000))]), (List.toArray [3, 3, 3])⟩ true)⟩, ⟨(some 23), (some (19, false)), (.pur ⟨(some 23), (.unOp .not 4 (.tmp 22)), 4, "", (List.toArray []), none⟩)⟩, ⟨(some 24), none, (.pur ⟨(some 24), (.pick (.tmp 19) (.const (.bool true)) (.tmp 23)), 4, "", (List.toArray []), none⟩)⟩, ⟨(some 25), none, (.mov (.tmp 24))⟩, ⟨(some 26), (some (25, false)), (.addo (.tmp 4) 2)⟩, ⟨(some 27), (some (25, false)), (.ld (.tmp 26) 1)⟩, ⟨(some 28), (some (25, false)), (.call ⟨(.value (.func 50)), (List.toArray [(.tmp 27), (.const (.int .i64 0)), (.const (.int .i64 10000))]), (List.toArray [3, 3, 3])⟩ true)⟩, ⟨(some 29), (some (25, false)), (.pur ⟨(some 29), (.unOp .not 4 (.tmp 28)), 4, "", (List.toArray []), none⟩)⟩, ⟨(some 30), none, (.pur ⟨(some 30), (.pick (.tmp 25) (.const (.bool true)) (.tmp 29)), 4, "", (List.toArray []), none⟩)⟩, ⟨(some 31), none, (.mov (.tmp 30))⟩, ⟨(some 32), (some (31, false)), (.addo (.tmp 4) 3)⟩, ⟨(some 33), (some (31, false)), (.ld (.tmp 32) 1)⟩, ⟨(some 34), (some (31, false)), (.call ⟨(.value (.func 50)), (List.toArray [(.tmp 33), (.const (.int .i64 0)), (.const (.int .i64 10000))]), (List.toArray [3, 3, 3])⟩ true)⟩, ⟨(some 35), (some (31, false)), (.pur ⟨(some 35), (.unOp .not 4 (.tmp 34)), 4, "", (List.toArray []), none⟩)⟩, ⟨(some 36), none, (.pur ⟨(some 36), (.pick (.tmp 31) (.const (.bool true)) (.tmp 35)), 4, "", (List.toArray []), none⟩)⟩, ⟨(some 37), none, (.mov (.tmp 36))⟩, ⟨(some 38), (some (37, false)), (.addo (.tmp 4) 4)⟩, ⟨(some 39), (some (37, false)), (.ld (.tmp 38) 1)⟩, ⟨(some 40), (some (37, false)), (.call ⟨(.value (.func 50)), (List.toArray [(.tmp 39), (.const (.int .i64 0)), (.const (.int .i64 1048576))]), (List.toArray [3, 3, 3])⟩ true)⟩, ⟨(some 41), (some (37, false)), (.pur ⟨(some 41), (.unOp .not 4 (.tmp 40)), 4, "", (List.toArray []), none⟩)⟩, ⟨(some 42), none, (.pur ⟨(some 42), (.pick (.tmp 37) (.const (.bool true)) (.tmp 41)), 4, "", (List.toArray []), none⟩)⟩])
  (.cond (.tmp 42) (.seq (.reg [⟨(some 2), none, (.mov (.const (.bool false)))⟩])
  .ret)
  .skip))))
  (.reg [⟨(some 9), none, (.mov (.tmp 3))⟩, ⟨(some 10), none, (.ari .add (.tmp 9) (.const (.int .i64 1)))⟩, ⟨(some 3), none, (.mov (.tmp 10))⟩])))
theorem L35x1 : low Try.prog Try.f35.ntmps (at_ Try.f35 [1, 0, 1, 0, 0]) = some R35x1 := by kernel_rfl
theorem N36 : Try.f36.ntmps = 21 := by kernel_rfl
theorem Z36 : Try.f36.results.toList = ((List.toArray [(.tmp 2)]) : Array ResultVar).toList := by kernel_rfl
theorem B36 : Try.f36.body = some (at_ Try.f36 []) := by kernel_rfl
noncomputable def R36 : RC := (.seq (.reg [⟨(some 1), none, (.box 40 (.tmp 0))⟩, ⟨(some 2), none, (.mov (.const (.bool false)))⟩])
  (.seq (.reg [⟨(some 3), none, (.addo (.tmp 1) 0)⟩, ⟨(some 4), none, (.ld (.tmp 3) 1)⟩, ⟨(some 5), none, (.call ⟨(.value (.func 50)), (List.toArray [(.tmp 4), (.const (.int .i64 1)), (.const (.int .i64 60))]), (List.toArray [3, 3, 3])⟩ true)⟩, ⟨(some 6), none, (.mov (.tmp 5))⟩, ⟨(some 7), (some (6, true)), (.addo (.tmp 1) 1)⟩, ⟨(some 8), (some (6, true)), (.lda (.tmp 7) 2)⟩, ⟨(some 9), (some (6, true)), (.call ⟨(.value (.func 62)), (List.toArray [(.tmp 8), (.const (.int .i64 0)), (.const (.int .i64 10000))]), (List.toArray [38, 3, 3])⟩ true)⟩, ⟨(some 10), none, (.pur ⟨(some 10), (.pick (.tmp 6) (.tmp 9) (.const (.bool false))), 4, "", (List.toArray []), none⟩)⟩, ⟨(some 11), none, (.mov (.tmp 10))⟩, ⟨(some 12), (some (11, true)), (.addo (.tmp 1) 3)⟩, ⟨(some 13), (some (11, true)), (.lda (.tmp 12) 2)⟩, ⟨(some 14), (some (11, true)), (.call ⟨(.value (.func 62)), (List.toArray [(.tmp 13), (.const (.int .i64 0)), (.const (.int .i64 10000))]), (List.toArray [38, 3, 3])⟩ true)⟩, ⟨(some 15), none, (.pur ⟨(some 15), (.pick (.tmp 11) (.tmp 14) (.const (.bool false))), 4, "", (List.toArray []), none⟩)⟩, ⟨(some 16), none, (.mov (.tmp 15))⟩, ⟨(some 17), (some (16, true)), (.addo (.tmp 1) 5)⟩, ⟨(some 18), (some (16, true)), (.lda (.tmp 17) 2)⟩, ⟨(some 19), (some (16, true)), (.call ⟨(.value (.func 62)), (List.toArray [(.tmp 18), (.const (.int .i64 0)), (.const (.int .i64 10000))]), (List.toArray [38, 3, 3])⟩ true)⟩, ⟨(some 20), none, (.pur ⟨(some 20), (.pick (.tmp 16) (.tmp 19) (.const (.bool false))), 4, "", (List.toArray []), none⟩)⟩, ⟨(some 2), none, (.mov (.tmp 20))⟩])
  .ret))
theorem L36 : low Try.prog Try.f36.ntmps (at_ Try.f36 []) = some R36 := by kernel_rfl
theorem N38 : Try.f38.ntmps = 163 := by kernel_rfl
theorem Z38 : Try.f38.results.toList = ((List.toArray [(.tmp 6), (.tmp 7)]) : Array ResultVar).toList := by kernel_rfl
theorem B38 : Try.f38.body = some (at_ Try.f38 []) := by kernel_rfl
noncomputable def R38 : RC := (.seq (.reg [⟨(some 4), none, (.box 40 (.tmp 1))⟩, ⟨(some 6), none, (.mov (.const (.bool false)))⟩, ⟨(some 7), none, (.mov (.const (.int .i64 0)))⟩])
  (.seq (.reg [⟨(some 8), none, (.alc 73 [(.int .i64 0), (.int .i64 0), (.int .i64 0), (.int .i64 0), (.int .i64 0)])⟩])
  (.seq (.seq (.reg [⟨(some 9), none, (.mov (.const (.int .i64 0)))⟩])
  (.block 0 (.other (at_ Try.f38 [1, 1, 0, 1, 0]))))
  (.seq (.reg [⟨(some 94), none, (.addo (.tmp 8) 0)⟩, ⟨(some 95), none, (.ld (.tmp 94) 1)⟩, ⟨(some 96), none, (.addo (.tmp 4) 0)⟩, ⟨(some 97), none, (.ld (.tmp 96) 1)⟩, ⟨(some 98), none, (.cmpb .eql (.tmp 95) (.tmp 97))⟩, ⟨(some 99), none, (.mov (.tmp 98))⟩, ⟨(some 100), (some (99, true)), (.addo (.tmp 8) 1)⟩, ⟨(some 101), (some (99, true)), (.ld (.tmp 100) 1)⟩, ⟨(some 102), (some (99, true)), (.addo (.tmp 8) 1)⟩, ⟨(some 103), (some (99, true)), (.ld (.tmp 102) 1)⟩, ⟨(some 104), (some (99, true)), (.pur ⟨(some 104), (.build 38 (List.toArray [(0, (.tmp 101)), (1, (.tmp 103))])), 38, "", (List.toArray []), none⟩)⟩, ⟨(some 105), (some (99, true)), (.addo (.tmp 4) 0)⟩, ⟨(some 106), (some (99, true)), (.ld (.tmp 105) 1)⟩, ⟨(some 107), (some (99, true)), (.addo (.tmp 4) 1)⟩, ⟨(some 108), (some (99, true)), (.addo (.tmp 107) 0)⟩, ⟨(some 109), (some (99, true)), (.ld (.tmp 108) 1)⟩, ⟨(some 110), (some (99, true)), (.ari .mul (.tmp 106) (.tmp 109))⟩, ⟨(some 111), (some (99, true)), (.addo (.tmp 4) 0)⟩, ⟨(some 112), (some (99, true)), (.ld (.tmp 111) 1)⟩, ⟨(some 113), (some (99, true)), (.addo (.tmp 4) 1)⟩, ⟨(some 114), (some (99, true)), (.addo (.tmp 113) 1)⟩, ⟨(some 115), (some (99, true)), (.ld (.tmp 114) 1)⟩, ⟨(some 116), (some (99, true)), (.ari .mul (.tmp 112) (.tmp 115))⟩, ⟨(some 117), (some (99, true)), (.call ⟨(.value (.func 62)), (List.toArray [(.tmp 104), (.tmp 110), (.tmp 116)]), (List.toArray [38, 3, 3])⟩ true)⟩, ⟨(some 118), none, (.pur ⟨(some 118), (.pick (.tmp 99) (.tmp 117) (.const (.bool false))), 4, "", (List.toArray []), none⟩)⟩, ⟨(some 10), none, (.mov (.tmp 118))⟩])
  (.seq (.reg [⟨(some 119), none, (.mov (.tmp 10))⟩, ⟨(some 120), none, (.mov (.tmp 119))⟩, ⟨(some 121), (some (120, true)), (.addo (.tmp 8) 2)⟩, ⟨(some 122), (some (120, true)), (.ld (.tmp 121) 1)⟩, ⟨(some 123), (some (120, true)), (.addo (.tmp 8) 2)⟩, ⟨(some 124), (some (120, true)), (.ld (.tmp 123) 1)⟩, ⟨(some 125), (some (120, true)), (.pur ⟨(some 125), (.build 38 (List.toArray [(0, (.tmp 122)), (1, (.tmp 124))])), 38, "", (List.toArray []), none⟩)⟩, ⟨(some 126), (some (120, true)), (.addo (.tmp 4) 0)⟩, ⟨(some 127), (some (120, true)), (.ld (.tmp 126) 1)⟩, ⟨(some 128), (some (120, true)), (.addo (.tmp 4) 3)⟩, ⟨(some 129), (some (120, true)), (.addo (.tmp 128) 0)⟩, ⟨(some 130), (some (120, true)), (.ld (.tmp 129) 1)⟩, ⟨(some 131), (some (120, true)), (.ari .mul (.tmp 127) (.tmp 130))⟩, ⟨(some 132), (some (120, true)), (.addo (.tmp 4) 0)⟩, ⟨(some 133), (some (120, true)), (.ld (.tmp 132) 1)⟩, ⟨(some 134), (some (120, true)), (.addo (.tmp 4) 3)⟩, ⟨(some 135), (some (120, true)), (.addo (.tmp 134) 1)⟩, ⟨(some 136), (some (120, true)), (.ld (.tmp 135) 1)⟩, ⟨(some 137), (some (120, true)), (.ari .mul (.tmp 133) (.tmp 136))⟩, ⟨(some 138), (some (120, true)), (.call ⟨(.value (.func 62)), (List.toArray [(.tmp 125), (.tmp 131), (.tmp 137)]), (List.toArray [38, 3, 3])⟩ true)⟩, ⟨(some 139), none, (.pur ⟨(some 139), (.pick (.tmp 120) (.tmp 138) (.const (.bool false))), 4, "", (List.toArray []), none⟩)⟩, ⟨(some 10), none, (.mov (.tmp 139))⟩])
  (.seq (.dreg [⟨(some 140), none, (.mov (.tmp 10))⟩, ⟨(some 141), none, (.mov (.tmp 140))⟩, ⟨(some 142), (some (141, true)), (.addo (.tmp 8) 3)⟩, ⟨(some 143), (some (141, true)), (.ld (.tmp 142) 1)⟩, ⟨(some 144), (some (141, true)), (.addo (.tmp 8) 3)⟩, ⟨(some 145), (some (141, true)), (.ld (.tmp 144) 1)⟩, ⟨(some 146), (some (141, true)), (.pur ⟨(some 146), (.build 38 (List.toArray [(0, (.tmp 143)), (1, (.tmp 145))])), 38, "", (List.toArray []), none⟩)⟩, ⟨(some 147), (some (141, true)), (.addo (.tmp 4) 0)⟩, ⟨(some 148), (some (141, true)), (.ld (.tmp 147) 1)⟩, ⟨(some 149), (some (141, true)), (.addo (.tmp 4) 5)⟩, ⟨(some 150), (some (141, true)), (.addo (.tmp 149) 0)⟩, ⟨(some 151), (some (141, true)), (.ld (.tmp 150) 1)⟩, ⟨(some 152), (some (141, true)), (.ari .mul (.tmp 148) (.tmp 151))⟩, ⟨(some 153), (some (141, true)), (.addo (.tmp 4) 0)⟩, ⟨(some 154), (some (141, true)), (.ld (.tmp 153) 1)⟩, ⟨(some 155), (some (141, true)), (.addo (.tmp 4) 5)⟩, ⟨(some 156), (some (141, true)), (.addo (.tmp 155) 1)⟩, ⟨(some 157), (some (141, true)), (.ld (.tmp 156) 1)⟩, ⟨(some 158), (some (141, true)), (.ari .mul (.tmp 154) (.tmp 157))⟩, ⟨(some 159), (some (141, true)), (.call ⟨(.value (.func 62)), (List.toArray [(.tmp 146), (.tmp 152), (.tmp 158)]), (List.toArray [38, 3, 3])⟩ false)⟩, ⟨(some 160), none, (.pur ⟨(some 160), (.pick (.tmp 141) (.tmp 159) (.const (.bool false))), 4, "", (List.toArray []), none⟩)⟩, ⟨(some 161), none, (.addo (.tmp 8) 4)⟩, ⟨(some 162), none, (.ld (.tmp 161) 1)⟩, ⟨(some 6), none, (.mov (.tmp 160))⟩, ⟨(some 7), none, (.mov (.tmp 162))⟩] [16777215, 2097151, 2097152, 0, 1048575, 524287, 253955, 98307, 32771, 3, 8195, 3, 3971, 1539, 515, 3, 131, 3, 63, 19, 3, 7, 3, 1, 0])
  .ret))))))
theorem L38 : low Try.prog Try.f38.ntmps (at_ Try.f38 []) = some R38 := by kernel_rfl
theorem E38_1 : at_ Try.f38 [1, 1, 0, 1, 0] = .loop (at_ Try.f38 [1, 1, 0, 1, 0, 0]) := by kernel_rfl
noncomputable def R38x1 : RC := (.seq (.seq (.reg [⟨(some 11), none, (.mov (.tmp 9))⟩, ⟨(some 12), none, (.mov (.tmp 0))⟩, ⟨(some 13), none, (.len (.tmp 12))⟩, ⟨(some 14), none, (.cmp .lss (.tmp 11) (.tmp 13))⟩])
  (.cond (.tmp 14) .skip
  (.exit 0)))
  (.seq (.block 1 (.seq (.seq (.dreg [⟨(some 17), none, (.mov (.tmp 2))⟩, ⟨(some 18), none, (.mov (.tmp 9))⟩, ⟨(some 19), none, (.idx (.tmp 17) (.tmp 18) 1)⟩, ⟨(some 20), none, (.ld (.tmp 19) 1)⟩, ⟨(some 21), none, (.cmpb .lss (.tmp 20) (.const (.int .i64 0)))⟩, ⟨(some 22), none, (.mov (.tmp 21))⟩, ⟨(some 23), (some (22, false)), (.mov (.tmp 2))⟩, ⟨(some 24), (some (22, false)), (.mov (.tmp 9))⟩, ⟨(some 25), (some (22, false)), (.idx (.tmp 23) (.tmp 24) 1)⟩, ⟨(some 26), (some (22, false)), (.ld (.tmp 25) 1)⟩, ⟨(some 27), (some (22, false)), (.mov (.tmp 0))⟩, ⟨(some 28), (some (22, false)), (.mov (.tmp 9))⟩, ⟨(some 29), (some (22, false)), (.idx (.tmp 27) (.tmp 28) 5)⟩, ⟨(some 30), (some (22, false)), (.addo (.tmp 29) 0)⟩, ⟨(some 31), (some (22, false)), (.ld (.tmp 30) 1)⟩, ⟨(some 32), (some (22, false)), (.cmpb .gtr (.tmp 26) (.tmp 31))⟩, ⟨(some 33), none, (.pur ⟨(some 33), (.pick (.tmp 22) (.const (.bool true)) (.tmp 32)), 4, "", (List.toArray []), none⟩)⟩] [65535, 32767, 15423, 7231, 3135, 63, 63, 511, 255, 63, 63, 31, 15, 7, 3, 0, 0])
  (.cond (.tmp 33) (.seq (.reg [⟨(some 6), none, (.mov (.const (.bool false)))⟩, ⟨(some 7), none, (.mov (.const (.int .i64 0)))⟩])
  .ret)
  .skip))
  (.dreg [⟨(some 34), none, (.addo (.tmp 8) 0)⟩, ⟨(some 35), none, (.ld (.tmp 34) 1)⟩, ⟨(some 36), none, (.mov (.tmp 2))⟩, ⟨(some 37), none, (.mov (.tmp 9))⟩, ⟨(some 38), none, (.idx (.tmp 36) (.tmp 37) 1)⟩, ⟨(some 39), none, (.ld (.tmp 38) 1)⟩, ⟨(some 40), none, (.ari .add (.tmp 35) (.tmp 39))⟩, ⟨(some 41), none, (.addo (.tmp 8) 1)⟩, ⟨(some 42), none, (.ld (.tmp 41) 1)⟩, ⟨(some 43), none, (.mov (.tmp 2))⟩, ⟨(some 44), none, (.mov (.tmp 9))⟩, ⟨(some 45), none, (.idx (.tmp 43) (.tmp 44) 1)⟩, ⟨(some 46), none, (.ld (.tmp 45) 1)⟩, ⟨(some 47), none, (.mov (.tmp 0))⟩, ⟨(some 48), none, (.mov (.tmp 9))⟩, ⟨(some 49), none, (.idx (.tmp 47) (.tmp 48) 5)⟩, ⟨(some 50), none, (.addo (.tmp 49) 1)⟩, ⟨(some 51), none, (.ld (.tmp 50) 1)⟩, ⟨(some 52), none, (.ari .mul (.tmp 46) (.tmp 51))⟩, ⟨(some 53), none, (.ari .add (.tmp 42) (.tmp 52))⟩, ⟨(some 54), none, (.addo (.tmp 8) 2)⟩, ⟨(some 55), none, (.ld (.tmp 54) 1)⟩, ⟨(some 56), none, (.mov (.tmp 2))⟩, ⟨(some 57), none, (.mov (.tmp 9))⟩, ⟨(some 58), none, (.idx (.tmp 56) (.tmp 57) 1)⟩, ⟨(some 59), none, (.ld (.tmp 58) 1)⟩, ⟨(some 60), none, (.mov (.tmp 0))⟩, ⟨(some 61), none, (.mov (.tmp 9))⟩, ⟨(some 62), none, (.idx (.tmp 60) (.tmp 61) 5)⟩, ⟨(some 63), none, (.addo (.tmp 62) 2)⟩, ⟨(some 64), none, (.ld (.tmp 63) 1)⟩, ⟨(some 65), none, (.ari .mul (.tmp 59) (.tmp 64))⟩, ⟨(some 66), none, (.ari .add (.tmp 55) (.tmp 65))⟩, ⟨(some 67), none, (.addo (.tmp 8) 3)⟩, ⟨(some 68), none, (.ld (.tmp 67) 1)⟩, ⟨(some 69), none, (.mov (.tmp 2))⟩, ⟨(some 70), none, (.mov (.tmp 9))⟩, ⟨(some 71), none, (.idx (.tmp 69) (.tmp 70) 1)⟩, ⟨(some 72), none, (.ld (.tmp 71) 1)⟩, ⟨(some 73), none, (.mov (.tmp 0))⟩, ⟨(some 74), none, (.mov (.tmp 9))⟩, ⟨(some 75), none, (.idx (.tmp 73) (.tmp 74) 5)⟩, ⟨(some 76), none, (.addo (.tmp 75) 3)⟩, ⟨(some 77), none, (.ld (.tmp 76) 1)⟩, ⟨(some 78), none, (.ari .mul (.tmp 72) (.tmp 77))⟩, ⟨(some 79), none, (.ari .add (.tmp 68) (.tmp 78))⟩, ⟨(some 80), none, (.addo (.tmp 8) 4)⟩, ⟨(some 81), none, (.ld (.tmp 80) 1)⟩, ⟨(some 82), none, (.mov (.tmp 2))⟩, ⟨(some 83), none, (.mov (.tmp 9))⟩, ⟨(some 84), none, (.idx (.tmp 82) (.tmp 83) 1)⟩, ⟨(some 85), none, (.ld (.tmp 84) 1)⟩, ⟨(some 86), none, (.mov (.tmp 0))⟩, ⟨(some 87), none, (.mov (.tmp 9))⟩, ⟨(some 88), none, (.idx (.tmp 86) (.tmp 87) 5)⟩, ⟨(some 89), none, (.addo (.tmp 88) 4)⟩, ⟨(some 90), none, (.ld (.tmp 89) 1)⟩, ⟨(some 91), none, (.ari .mul (.tmp 85) (.tmp 90))⟩, ⟨(some 92), none, (.ari .add (.tmp 81) (.tmp 91))⟩, ⟨(some 93), none, (.pur ⟨(some 93), (.build 73 (List.toArray [(0, (.tmp 40)), (1, (.tmp 53)), (2, (.tmp 66)), (3, (.tmp 79)), (4, (.tmp 92))])), 73, "", (List.toArray []), none⟩)⟩, ⟨none, none, (.sta (.tmp 8) (.tmp 93) 5)⟩] [1152921504606846975, 576460752303423487, 288160007407534080, 143833713099145216, 67553994410557440, 31525197391593472, 13510798882111488, 0, 0, 1970324836974592, 844424930131968, 0, 0, 70368744177664, 0, 35175782154240, 17557826306048, 8246337208320, 3848290697216, 1649267441664, 0, 0, 240518168576, 103079215104, 0, 0, 8589934592, 0, 4293918720, 2143289344, 1006632960, 469762048, 201326592, 0, 0, 29360128, 12582912, 0, 0, 1048576, 0, 524160, 261632, 122880, 57344, 24576, 0, 0, 3584, 1536, 0, 0, 128, 0, 63, 28, 12, 0, 0, 1, 0])))
  (.reg [⟨(some 15), none, (.mov (.tmp 9))⟩, ⟨(some 16), none, (.ari .add (.tmp 15) (.const (.int .i64 1)))⟩, ⟨(some 9), none, (.mov (.tmp 16))⟩])))
theorem L38x1 : low Try.prog Try.f38.ntmps (at_ Try.f38 [1, 1, 0, 1, 0, 0]) = some R38x1 := by kernel_rfl
theorem N56 : Try.f56.ntmps = 37 := by kernel_rfl
theorem Z56 : Try.f56.results.toList = ((List.toArray [(.tmp 6)]) : Array ResultVar).toList := by kernel_rfl
theorem B56 : Try.f56.body = some (at_ Try.f56 []) := by kernel_rfl
noncomputable def R56 : RC := (.seq (.reg [⟨(some 6), none, (.mov (.const (.slice none 0 0)))⟩])
  (.seq (.seq (.reg [⟨(some 8), none, (.mov (.tmp 1))⟩, ⟨(some 9), none, (.len (.tmp 8))⟩, ⟨(some 10), none, (.mov (.tmp 0))⟩, ⟨(some 11), none, (.len (.tmp 10))⟩, ⟨(some 12), none, (.cmp .eql (.tmp 9) (.tmp 11))⟩])
  (.cond (.tmp 12) (.seq (.reg [⟨(some 13), none, (.mov (.tmp 2))⟩, ⟨(some 14), none, (.mov (.tmp 1))⟩, ⟨(some 15), none, (.mem ⟨(some 15), (.buildSlice 94 1 (List.toArray [(0, (.tmp 14))])), 94, "", (List.toArray []), none⟩)⟩, ⟨(some 16), none, (.mem ⟨(some 16), (.call ⟨(.builtin .append), (List.toArray [(.tmp 13), (.tmp 15)]), (List.toArray [94, 94])⟩), 94, "", (List.toArray []), none⟩)⟩, ⟨(some 6), none, (.mov (.tmp 16))⟩])
  .ret)
  .skip))
  (.seq (.seq (.reg [⟨(some 7), none, (.mov (.const (.int .i64 0)))⟩])
  (.block 0 (.other (at_ Try.f56 [1, 1, 0, 1, 0]))))
  (.seq (.reg [⟨(some 36), none, (.mov (.tmp 2))⟩, ⟨(some 6), none, (.mov (.tmp 36))⟩])
  .ret))))
theorem L56 : low Try.prog Try.f56.ntmps (at_ Try.f56 []) = some R56 := by kernel_rfl
theorem E56_1 : at_ Try.f56 [1, 1, 0, 1, 0] = .loop (at_ Try.f56 [1, 1, 0, 1, 0, 0]) := by kernel_rfl
noncomputable def R56x1 : RC := (.seq (.seq (.reg [⟨(some 17), none, (.mov (.tmp 7))⟩, ⟨(some 18), none, (.mov (.tmp 0))⟩, ⟨(some 19), none, (.mov (.tmp 1))⟩, ⟨(some 20), none, (.len (.tmp 19))⟩, ⟨(some 21), none, (.idx (.tmp 18) (.tmp 20) 5)⟩, ⟨(some 22), none, (.addo (.tmp 21) 0)⟩, ⟨(some 23), none, (.ld (.tmp 22) 1)⟩, ⟨(some 24), none, (.cmp .leq (.tmp 17) (.tmp 23))⟩])
  (.cond (.tmp 24) .skip
  (.exit 0)))
  (.seq (.block 1 (.reg [⟨(some 27), none, (.mov (.tmp 0))⟩, ⟨(some 28), none, (.mem ⟨(some 28), (.buildSlice 42 0 (List.toArray [])), 42, "", (List.toArray []), none⟩)⟩, ⟨(some 29), none, (.mov (.tmp 1))⟩, ⟨(some 30), none, (.mem ⟨(some 30), (.call ⟨(.builtin .append), (List.toArray [(.tmp 28), (.tmp 29)]), (List.toArray [42, 42])⟩), 42, "", (List.toArray []), none⟩)⟩, ⟨(some 31), none, (.mov (.tmp 7))⟩, ⟨(some 32), none, (.mem ⟨(some 32), (.buildSlice 42 1 (List.toArray [(0, (.tmp 31))])), 42, "", (List.toArray []), none⟩)⟩, ⟨(some 33), none, (.mem ⟨(some 33), (.call ⟨(.builtin .append), (List.toArray [(.tmp 30), (.tmp 32)]), (List.toArray [42, 42])⟩), 42, "", (List.toArray []), none⟩)⟩, ⟨(some 34), none, (.mov (.tmp 2))⟩, ⟨(some 35), none, (.call ⟨(.value (.func 56)), (List.toArray [(.tmp 27), (.tmp 33), (.tmp 34)]), (List.toArray [36, 42, 94])⟩ true)⟩, ⟨(some 2), none, (.mov (.tmp 35))⟩]))
  (.reg [⟨(some 25), none, (.mov (.tmp 7))⟩, ⟨(some 26), none, (.ari .add (.tmp 25) (.const (.int .i64 1)))⟩, ⟨(some 7), none, (.mov (.tmp 26))⟩])))
theorem L56x1 : low Try.prog Try.f56.ntmps (at_ Try.f56 [1, 1, 0, 1, 0, 0]) = some R56x1 := by kernel_rfl
theorem N26 : Try.f26.ntmps = 61 := by kernel_rfl
theorem Z26 : Try.f26.results.toList = ((List.toArray [(.tmp 4), (.tmp 5), (.tmp 6)]) : Array ResultVar).toList := by kernel_rfl
theorem B26 : Try.f26.body = some (at_ Try.f26 []) := by kernel_rfl
noncomputable def R26 : RC := (.seq (.reg [⟨(some 3), none, (.box 40 (.tmp 1))⟩, ⟨(some 4), none, (.mov (.const (.slice none 0 0)))⟩, ⟨(some 5), none, (.mov (.const (.int .i64 0)))⟩, ⟨(some 6), none, (.mov (.const (.int .i64 0)))⟩])
  (.seq (.seq (.reg [⟨(some 13), none, (.mov (.tmp 0))⟩, ⟨(some 14), none, (.len (.tmp 13))⟩, ⟨(some 15), none, (.cmp .gtr (.tmp 14) (.const (.int .i64 5)))⟩])
  (.cond (.tmp 15) (.seq (.reg [⟨(some 4), none, (.mov (.const (.slice none 0 0)))⟩, ⟨(some 5), none, (.mov (.const (.int .i64 0)))⟩, ⟨(some 6), none, (.mov (.const (.int .i64 3)))⟩])
  .ret)
  .skip))
  (.seq (.seq (.reg [⟨(some 16), none, (.mov (.tmp 0))⟩, ⟨(some 17), none, (.call ⟨(.value (.func 35)), (List.toArray [(.tmp 16)]), (List.toArray [36])⟩ true)⟩, ⟨(some 18), none, (.pur ⟨(some 18), (.unOp .not 4 (.tmp 17)), 4, "", (List.toArray []), none⟩)⟩, ⟨(some 19), none, (.mov (.tmp 18))⟩, ⟨(some 20), (some (19, false)), (.lda (.tmp 3) 7)⟩, ⟨(some 21), (some (19, false)), (.call ⟨(.value (.func 36)), (List.toArray [(.tmp 20)]), (List.toArray [40])⟩ true)⟩, ⟨(some 22), (some (19, false)), (.pur ⟨(some 22), (.unOp .not 4 (.tmp 21)), 4, "", (List.toArray []), none⟩)⟩, ⟨(some 23), none, (.pur ⟨(some 23), (.pick (.tmp 19) (.const (.bool true)) (.tmp 22)), 4, "", (List.toArray []), none⟩)⟩])
  (.cond (.tmp 23) (.seq (.reg [⟨(some 4), none, (.mov (.const (.slice none 0 0)))⟩, ⟨(some 5), none, (.mov (.const (.int .i64 0)))⟩, ⟨(some 6), none, (.mov (.const (.int .i64 1)))⟩])
  .ret)
  .skip))
  (.seq (.reg [⟨(some 7), none, (.mov (.const (.slice none 0 0)))⟩])
  (.seq (.reg [⟨(some 8), none, (.mov (.const (.int .i64 (-1))))⟩])
  (.seq (.reg [⟨(some 24), none, (.mov (.tmp 0))⟩, ⟨(some 25), none, (.call ⟨(.value (.func 56)), (List.toArray [(.tmp 24), (.const (.slice none 0 0)), (.const (.slice none 0 0))]), (List.toArray [36, 42, 94])⟩ true)⟩, ⟨(some 9), none, (.mov (.tmp 25))⟩])
  (.seq (.seq (.reg [⟨(some 10), none, (.mov (.const (.int .i64 0)))⟩])
  (.block 0 (.other (at_ Try.f26 [1, 1, 1, 1, 1, 1, 0, 1, 0]))))
  (.seq (.seq (.reg [⟨(some 57), none, (.mov (.tmp 8))⟩, ⟨(some 58), none, (.cmp .lss (.tmp 57) (.const (.int .i64 0)))⟩])
  (.cond (.tmp 58) (.seq (.reg [⟨(some 4), none, (.mov (.const (.slice none 0 0)))⟩, ⟨(some 5), none, (.mov (.const (.int .i64 0)))⟩, ⟨(some 6), none, (.mov (.const (.int .i64 4)))⟩])
  .ret)
  .skip))
  (.seq (.reg [⟨(some 59), none, (.mov (.tmp 7))⟩, ⟨(some 60), none, (.mov (.tmp 8))⟩, ⟨(some 4), none, (.mov (.tmp 59))⟩, ⟨(some 5), none, (.mov (.tmp 60))⟩, ⟨(some 6), none, (.mov (.const (.int .i64 0)))⟩])
  .ret)))))))))
theorem L26 : low Try.prog Try.f26.ntmps (at_ Try.f26 []) = some R26 := by kernel_rfl
theorem E26_1 : at_ Try.f26 [1, 1, 1, 1, 1, 1, 0, 1, 0] = .loop (at_ Try.f26 [1, 1, 1, 1, 1, 1, 0, 1, 0, 0]) := by kernel_rfl
noncomputable def R26x1 : RC := (.seq (.seq (.reg [⟨(some 26), none, (.mov (.tmp 10))⟩, ⟨(some 27), none, (.mov (.tmp 9))⟩, ⟨(some 28), none, (.len (.tmp 27))⟩, ⟨(some 29), none, (.cmp .lss (.tmp 26) (.tmp 28))⟩])
  (.cond (.tmp 29) .skip
  (.exit 0)))
  (.seq (.block 1 (.seq (.dreg [⟨(some 33), none, (.mov (.tmp 0))⟩, ⟨(some 34), none, (.lda (.tmp 3) 7)⟩, ⟨(some 35), none, (.mov (.tmp 9))⟩, ⟨(some 36), none, (.mov (.tmp 10))⟩, ⟨(some 37), none, (.idx (.tmp 35) (.tmp 36) 1)⟩, ⟨(some 38), none, (.ld (.tmp 37) 1)⟩, ⟨(some 39), none, (.call ⟨(.value (.func 38)), (List.toArray [(.tmp 33), (.tmp 34), (.tmp 38)]), (List.toArray [36, 40, 42])⟩ true)⟩, ⟨(some 32), none, (.mov (.tmp 39))⟩, ⟨(some 40), none, (.pur ⟨(some 40), (.extract (.tmp 32) 0), 4, "", (List.toArray []), none⟩)⟩, ⟨(some 41), none, (.pur ⟨(some 41), (.extract (.tmp 32) 1), 3, "", (List.toArray []), none⟩)⟩, ⟨(some 11), none, (.mov (.tmp 40))⟩, ⟨(some 12), none, (.mov (.tmp 41))⟩] [2047, 511, 255, 255, 127, 63, 28, 12, 0, 0, 0, 0])
  (.seq (.reg [⟨(some 42), none, (.mov (.tmp 11))⟩, ⟨(some 43), none, (.mov (.tmp 42))⟩, ⟨(some 44), (some (43, true)), (.mov (.tmp 8))⟩, ⟨(some 45), (some (43, true)), (.cmpb .lss (.tmp 44) (.const (.int .i64 0)))⟩, ⟨(some 46), (some (43, true)), (.mov (.tmp 45))⟩, ⟨(some 47), (some (46, false)), (.mov (.tmp 12))⟩, ⟨(some 48), (some (46, false)), (.mov (.tmp 8))⟩, ⟨(some 49), (some (46, false)), (.cmpb .lss (.tmp 47) (.tmp 48))⟩, ⟨(some 50), (some (43, true)), (.pur ⟨(some 50), (.pick (.tmp 46) (.const (.bool true)) (.tmp 49)), 4, "", (List.toArray []), none⟩)⟩, ⟨(some 51), none, (.pur ⟨(some 51), (.pick (.tmp 43) (.tmp 50) (.const (.bool false))), 4, "", (List.toArray []), none⟩)⟩])
  (.cond (.tmp 51) (.seq (.reg [⟨(some 52), none, (.mov (.tmp 9))⟩, ⟨(some 53), none, (.mov (.tmp 10))⟩, ⟨(some 54), none, (.idx (.tmp 52) (.tmp 53) 1)⟩, ⟨(some 55), none, (.ld (.tmp 54) 1)⟩, ⟨(some 7), none, (.mov (.tmp 55))⟩])
  (.reg [⟨(some 56), none, (.mov (.tmp 12))⟩, ⟨(some 8), none, (.mov (.tmp 56))⟩]))
  .skip))))
  (.reg [⟨(some 30), none, (.mov (.tmp 10))⟩, ⟨(some 31), none, (.ari .add (.tmp 30) (.const (.int .i64 1)))⟩, ⟨(some 10), none, (.mov (.tmp 31))⟩])))
theorem L26x1 : low Try.prog Try.f26.ntmps (at_ Try.f26 [1, 1, 1, 1, 1, 1, 0, 1, 0, 0]) = some R26x1 := by kernel_rfl
theorem N62 : Try.f62.ntmps = 24 := by kernel_rfl
theorem Z62 : Try.f62.results.toList = ((List.toArray [(.tmp 6)]) : Array ResultVar).toList := by kernel_rfl
theorem B62 : Try.f62.body = some (at_ Try.f62 []) := by kernel_rfl
noncomputable def R62 : RC := (.seq (.reg [⟨(some 3), none, (.box 38 (.tmp 0))⟩, ⟨(some 6), none, (.mov (.const (.bool false)))⟩])
  (.seq (.reg [⟨(some 7), none, (.mov (.tmp 1))⟩, ⟨(some 8), none, (.addo (.tmp 3) 0)⟩, ⟨(some 9), none, (.ld (.tmp 8) 1)⟩, ⟨(some 10), none, (.cmpb .leq (.tmp 7) (.tmp 9))⟩, ⟨(some 11), none, (.mov (.tmp 10))⟩, ⟨(some 12), (some (11, true)), (.addo (.tmp 3) 0)⟩, ⟨(some 13), (some (11, true)), (.ld (.tmp 12) 1)⟩, ⟨(some 14), (some (11, true)), (.addo (.tmp 3) 1)⟩, ⟨(some 15), (some (11, true)), (.ld (.tmp 14) 1)⟩, ⟨(some 16), (some (11, true)), (.cmpb .leq (.tmp 13) (.tmp 15))⟩, ⟨(some 17), none, (.pur ⟨(some 17), (.pick (.tmp 11) (.tmp 16) (.const (.bool false))), 4, "", (List.toArray []), none⟩)⟩, ⟨(some 18), none, (.mov (.tmp 17))⟩, ⟨(some 19), (some (18, true)), (.addo (.tmp 3) 1)⟩, ⟨(some 20), (some (18, true)), (.ld (.tmp 19) 1)⟩, ⟨(some 21), (some (18, true)), (.mov (.tmp 2))⟩, ⟨(some 22), (some (18, true)), (.cmpb .leq (.tmp 20) (.tmp 21))⟩, ⟨(some 23), none, (.pur ⟨(some 23), (.pick (.tmp 18) (.tmp 22) (.const (.bool false))), 4, "", (List.toArray []), none⟩)⟩, ⟨(some 6), none, (.mov (.tmp 23))⟩])
  .ret))
theorem L62 : low Try.prog Try.f62.ntmps (at_ Try.f62 []) = some R62 := by kernel_rfl
end Go.Ax

/-
  Plant: tanks, recipes, what a blend costs, whether it is right (written by program).
-/
namespace Go.Ax
open Go Go.RowKit Go.Proofs

theorem i89s : ∃ i, Try.prog.info? 89 = some i ∧ i.size = 5 := by
  have h : (Try.prog.info? 89).map (fun i => i.size) = some 5 := by kernel_rfl
  cases e : Try.prog.info? 89 with
  | none => rw [e] at h; cases h
  | some i => rw [e] at h; simp at h; exact ⟨i, rfl, h⟩
theorem a89 : isAggB Try.prog 89 = some true := by kernel_rfl
theorem tnc_rowF {us : List Tn} {i : Nat} (h : i < us.length) : row 5 (tnc us) (0 + i * 5) = some (us.getD i Tn.z).f := by
  obtain ⟨x, hx⟩ := get_some h
  rw [Tn.at hx]; exact tnc_row hx
theorem tnc_atF {us : List Tn} {i j : Nat} {v : Value} (h : i < us.length) (hj : (us.getD i Tn.z).f[j]? = some v) : (tnc us)[0 + i * 5 + j]? = some v := row_get (tnc_rowF h) hj
theorem tn_at {us : List Tn} (h : us.all Tn.ok = true) {i : Nat} (hi : i < us.length) : (us.getD i Tn.z).ok = true := by
  obtain ⟨x, hx⟩ := get_some hi
  rw [Tn.at hx]; exact List.all_eq_true.1 h x (List.mem_of_getElem? hx)
theorem bc_at {b : Bl} {i : Nat} (h : i < 5) : (bc b)[0 + i * 1]? = some (iv (b i)) := by
  match i, h with
  | 0, _ => rfl
  | 1, _ => rfl
  | 2, _ => rfl
  | 3, _ => rfl
  | 4, _ => rfl
  | n + 5, h => exact absurd h (by omega)
theorem bc_set {b : Bl} {i : Nat} {v : Int} (h : i < 5) : (bc b).set (0 + i * 1) (iv v) = bc (upd b i v) := by
  match i, h with
  | 0, _ => rfl
  | 1, _ => rfl
  | 2, _ => rfl
  | 3, _ => rfl
  | 4, _ => rfl
  | n + 5, h => exact absurd h (by omega)
theorem upd_upd (b : Bl) (i : Nat) (v w : Int) : upd (upd b i v) i w = upd b i w := by
  funext j; unfold upd; split <;> rfl
/-- a block of tanks -/
def Ft (H : Hp) (b : Nat) (cs : List Value) : Prop := b < H.next ∧ (H.t.get b = some (.ro cs) ∨ (∃ e, H.t.get b = some (.cells cs e false)) ∨ H.t.get b = some (.cells cs 73 true))
theorem Keep.ft {H H1 : Hp} {l : List Nat} (k : Keep H H1 l) {b : Nat} {cs : List Value} (h : Ft H b cs) (hl : b ∉ l) : Ft H1 b cs :=
  ⟨Nat.lt_of_lt_of_le h.1 k.1, by rw [k.2 b h.1 hl]; exact h.2⟩
/-- where tanks are read -/
def Vk (H : Hp) (a : Option Addr) (us : List Tn) : Prop := us = [] ∨ ∃ b o cs, a = some ⟨b, o, none⟩ ∧ Rd H b cs ∧ ∀ i, i < us.length → row 5 cs (o + i * 5) = some (us.getD i Tn.z).f
theorem Keep.vk {H H1 : Hp} {l : List Nat} (k : Keep H H1 l) {a : Option Addr} {us : List Tn} (h : Vk H a us) (hl : ∀ b, (∃ o, a = some ⟨b, o, none⟩ ∧ us ≠ []) → b ∉ l) : Vk H1 a us := by
  rcases h with h | ⟨b, o, cs, e, r, q⟩
  · exact .inl h
  · by_cases e0 : us = []
    · exact .inl e0
    · exact .inr ⟨b, o, cs, e, k.rd r (hl b ⟨o, e, e0⟩), q⟩
theorem Vk.old {H : Hp} {a : Option Addr} {us : List Tn} (h : Vk H a us) : ∀ b, (∃ o, a = some ⟨b, o, none⟩ ∧ us ≠ []) → b < H.next := by
  rintro b ⟨o, e, e0⟩
  rcases h with h | ⟨b2, o2, cs, e2, r, q⟩
  · exact absurd h e0
  · rw [e] at e2; cases e2; exact r.lt
theorem in73s : ∃ i, Try.prog.info? 73 = some i ∧ i.size = 5 := by
  have h : (Try.prog.info? 73).map (fun i => Nat.beq i.size 5) = some true := by kernel_rfl
  cases e : Try.prog.info? 73 with
  | none => rw [e] at h; cases h
  | some i => rw [e] at h; exact ⟨i, rfl, by simpa using h⟩
theorem u36 : Try.prog.underlying 36 = some (.slice 73) := by kernel_rfl
theorem getD_drop (us : List Tn) (k i : Nat) : (us.drop k).getD i Tn.z = us.getD (k + i) Tn.z := by
  rw [List.getD_eq_getElem?_getD, List.getD_eq_getElem?_getD, List.getElem?_drop]
/-- l[k:] -/
theorem heap_fromT {lo : Nat} {H : Hp} {a : Option Addr} {n cap k : Nat} {us : List Tn} (hs : Sl H a n cap (tnc us)) (hl : us.length = n) (hf : ∀ b, a = some ⟨b, 0, none⟩ → Ft H b (tnc us)) (h0 : 0 < k) (hk : k ≤ n) :
    ∃ a' c' kd, (∀ (m : Nat) (S : Rg) (d : Option Tmp) (x y : Operand) (ty : TypeId) (p : String), evS S x = some (.slice a n cap) → evS S y = some (iv (k : Int)) → heapOp Try.prog lo (frS m S) H ⟨d, .slice 36 x (some y) none none, ty, p, #[], none⟩ = some (.val (.slice a' (n - k) c') H, kd)) ∧ (∀ b, kd = .read b → b < H.next) ∧ Vk H a' (us.drop k) := by
  obtain ⟨i, hi, hs1⟩ := in73s
  have ead : ∀ b, (⟨b, 0, none⟩ : Addr).add (k * 5) = ⟨b, 0 + k * 5, none⟩ := fun b => by unfold Addr.add; rw [if_neg (by omega)]
  have b0 : ∀ (m : Nat) (S : Rg), boundOf (frS m S) n none = some n := fun _ _ => rfl
  have b1 : ∀ (m : Nat) (S : Rg) (y : Operand), evS S y = some (iv (k : Int)) → boundOf (frS m S) 0 (some y) = some k := fun m S y hy => by unfold boundOf; simp only [ev_frS, hy]
  rcases hs with ⟨_, h0', _, _⟩ | ⟨b, rfl, hr, hc⟩
  · omega
  · have vw : k < n → Vk H (some ⟨b, 0 + k * 5, none⟩) (us.drop k) := fun _ => .inr ⟨b, 0 + k * 5, tnc us, rfl, hr, fun i hi => by
      rw [List.length_drop] at hi
      rw [getD_drop, show 0 + k * 5 + i * 5 = 0 + (k + i) * 5 by omega]; exact tnc_rowF (by omega)⟩
    have nil : k = n → us.drop k = [] := fun e => List.drop_of_length_le (by omega)
    have hro : ∀ (m : Nat) (S : Rg) (d : Option Tmp) (x y : Operand) (ty : TypeId) (p : String), (∃ cs, H.t.get b = some (.ro cs)) ∨ (∃ cs e, H.t.get b = some (.cells cs e false)) → evS S x = some (.slice (some ⟨b, 0, none⟩) n cap) → evS S y = some (iv (k : Int)) → heapOp Try.prog lo (frS m S) H ⟨d, .slice 36 x (some y) none none, ty, p, #[], none⟩ = some (.val (.slice (some (bif Nat.beq cap k then ⟨b, 0, none⟩ else (⟨b, 0, none⟩ : Addr).add (k * i.size))) (n - k) (cap - k)) H, .read b) := by
      rintro m S d x y ty p (⟨cs, hg⟩ | ⟨cs, e, hg⟩) hx hy
      · unfold heapOp
        simp only [ev_frS, hx, u36, hi, b0, b1 m S y hy, hg, Nat.ble_eq_true_of_le hc, Nat.ble_eq_true_of_le hk, Bool.and_self, cond_true]
      · unfold heapOp
        simp only [ev_frS, hx, u36, hi, b0, b1 m S y hy, hg, Nat.ble_eq_true_of_le hc, Nat.ble_eq_true_of_le hk, Bool.and_self, cond_true]
    have vro : Vk H (some (bif Nat.beq cap k then ⟨b, 0, none⟩ else (⟨b, 0, none⟩ : Addr).add (k * i.size))) (us.drop k) := by
      by_cases e : k = n
      · exact .inl (nil e)
      · have hb : Nat.beq cap k = false := by rw [beq_eq]; simp; omega
        rw [hb, hs1, cond_false, ead]; exact vw (by omega)
    obtain ⟨_, h2 | ⟨e, h2⟩ | h2⟩ := hf b rfl
    · exact ⟨_, _, _, fun m S d x y ty p hx hy => hro m S d x y ty p (.inl ⟨_, h2⟩) hx hy, fun b' e => by cases e; exact hr.lt, vro⟩
    · exact ⟨_, _, _, fun m S d x y ty p hx hy => hro m S d x y ty p (.inr ⟨_, _, h2⟩) hx hy, fun b' e => by cases e; exact hr.lt, vro⟩
    · by_cases e : k = n
      · refine ⟨some ⟨0, 0, some 0⟩, 0, .read b, fun m S d x y ty p hx hy => ?_, fun b' e => by cases e; exact hr.lt, .inl (nil e)⟩
        have q1 : Nat.beq k n = true := by rw [beq_eq]; simp; omega
        have q2 : Nat.beq k 0 = false := by rw [beq_eq]; simp; omega
        unfold heapOp
        simp only [ev_frS, hx, u36, hi, b0, b1 m S y hy, h2, hs1, Nat.beq_refl, q1, q2, show Nat.beq 5 0 = false from rfl, Nat.ble_eq_true_of_le hk, Nat.ble_eq_true_of_le (Nat.le_refl n), Bool.not_false, Bool.not_true, Bool.or_self, Bool.and_self, cond_true, cond_false]
        rw [show n - k = 0 by omega]
      · refine ⟨some ⟨b, 0 + k * 5, none⟩, cap - k, .read b, fun m S d x y ty p hx hy => ?_, fun b' e => by cases e; exact hr.lt, vw (by omega)⟩
        have q1 : Nat.beq k n = false := by rw [beq_eq]; simp; omega
        unfold heapOp
        simp only [ev_frS, hx, u36, hi, b0, b1 m S y hy, h2, hs1, Nat.beq_refl, q1, show Nat.beq 5 0 = false from rfl, Nat.ble_eq_true_of_le hk, Nat.ble_eq_true_of_le (Nat.le_refl n), Bool.not_false, Bool.true_or, Bool.and_self, cond_true, ead]
theorem hd_in {us : List Tn} (h : ∀ i, i < us.length → 0 ≤ (us.getD i Tn.z).un ∧ (us.getD i Tn.z).un ≤ 12) : ∀ k, k ≤ us.length → 0 ≤ hdN us k ∧ hdN us k ≤ 12 * k
  | 0, _ => by show 0 ≤ (0 : Int) ∧ (0 : Int) ≤ 12 * ((0 : Nat) : Int); omega
  | k + 1, hk => by
    have a := hd_in h k (by omega); have b := h k (by omega)
    show 0 ≤ hdN us k + (us.getD k Tn.z).un ∧ hdN us k + (us.getD k Tn.z).un ≤ 12 * ((k + 1 : Nat) : Int)
    omega
section
variable {kn : FuncId → Option Bool} {lo : Nat} {H : Hp}
/-- validTank -/
theorem vtank_ok {x : Tn} (hlo : lo ≤ H.next) : ∃ H', FnX Try.prog kn lo 73 [.agg (Tn.f x).toArray] H (.bool (x.ok)) H' ∧ Keep H H' [] := by
  have key := fnX_low (kn := kn) (lo := lo) (H := H) (args := [.agg (Tn.f x).toArray]) (Q := fun w H' => w = .bool (x.ok) ∧ Keep H H' []) Try.func73 B73 N73 Z73 L73 (by simp) ?_
  · obtain ⟨w, H', h, rfl, q⟩ := key; exact ⟨H', h, q⟩
  have hk := Keep.refl H []
  refine wN_seq ?_
  refine wN_box (v := .agg (Tn.f x).toArray) rfl ?_
  intro H1 kH1 nH1 c1
  have c1 : Cl H1 H.next [iv x.un, iv x.su, iv x.ac, iv x.co, iv x.pr] := c1
  have mH1 := kH1.1
  have hk := hk.trans kH1
  refine wN_mov (v := .bool false) rfl ?_
  refine wN_end ?_
  refine wN_seq ?_
  refine wN_addo (b := H.next) (o := 0) rfl ?_
  refine wN_ld (b := H.next) (o := 0) (v := iv x.un) rfl c1.rd rfl ?_
  refine wN_callB rfl (isw_ok) ?_
  intro tH2 H2 hH2 kH2
  have mH2 := kH2.1
  have hk := hk.trans kH2
  have c1 := kH2.cl c1 (by simp)
  cases tH2
  · have thH2 : isw x.un 12 = false := hH2
    refine wN_pur (v := .bool true) rfl rfl ?_
    refine wN_mov (v := .bool true) rfl ?_
    refine wN_gs rfl ?_
    refine wN_gs rfl ?_
    refine wN_gs rfl ?_
    refine wN_gs rfl ?_
    refine wN_pur (v := .bool true) rfl rfl ?_
    refine wN_end ?_
    refine condT ?_
    refine wN_seq ?_
    refine wN_mov (v := .bool false) rfl ?_
    refine wN_end ?_
    exact And.intro trivial (Exists.intro _ (And.intro rfl ⟨congrArg Value.bool (show false = (x.ok) from (by symm; unfold Tn.ok; simp only [*]; try rfl)), hk⟩))
  · have thH2 : isw x.un 12 = true := hH2
    refine wN_pur (v := .bool false) rfl rfl ?_
    refine wN_mov (v := .bool false) rfl ?_
    refine wN_g rfl (wN_addo (b := H.next) (o := 0) rfl ?_)
    refine wN_g rfl (wN_ld (b := H.next) (o := 4) (v := iv x.pr) rfl c1.rd rfl ?_)
    refine wN_g rfl (wN_callB rfl (isw_ok) ?_)
    intro tH3 H3 hH3 kH3
    have mH3 := kH3.1
    have hk := hk.trans kH3
    have c1 := kH3.cl c1 (by simp)
    cases tH3
    · have thH3 : isw x.pr 1048576 = false := hH3
      refine wN_g rfl (wN_pur (v := .bool true) rfl rfl ?_)
      refine wN_pur (v := .bool true) rfl rfl ?_
      refine wN_end ?_
      refine condT ?_
      refine wN_seq ?_
      refine wN_mov (v := .bool false) rfl ?_
      refine wN_end ?_
      exact And.intro trivial (Exists.intro _ (And.intro rfl ⟨congrArg Value.bool (show false = (x.ok) from (by symm; unfold Tn.ok; simp only [*]; try rfl)), hk⟩))
    · have thH3 : isw x.pr 1048576 = true := hH3
      refine wN_g rfl (wN_pur (v := .bool false) rfl rfl ?_)
      refine wN_pur (v := .bool false) rfl rfl ?_
      refine wN_end ?_
      refine condF ?_
      first | refine wN_skip ?_ | skip
      refine wN_seq ?_
      refine wN_addo (b := H.next) (o := 0) rfl ?_
      refine wN_ld (b := H.next) (o := 1) (v := iv x.su) rfl c1.rd rfl ?_
      refine wN_callB rfl (isw_ok) ?_
      intro tH4 H4 hH4 kH4
      have mH4 := kH4.1
      have hk := hk.trans kH4
      have c1 := kH4.cl c1 (by simp)
      cases tH4
      · have thH4 : isw x.su 10000 = false := hH4
        refine wN_mov (v := .bool false) rfl ?_
        refine wN_gs rfl ?_
        refine wN_gs rfl ?_
        refine wN_gs rfl ?_
        refine wN_pur (v := .bool false) rfl rfl ?_
        refine wN_mov (v := .bool false) rfl ?_
        refine wN_gs rfl ?_
        refine wN_gs rfl ?_
        refine wN_gs rfl ?_
        refine wN_pur (v := .bool false) rfl rfl ?_
        refine wN_mov (v := .bool false) rfl ?_
        refine wN_end ?_
        exact And.intro trivial (Exists.intro _ (And.intro rfl ⟨congrArg Value.bool (show false = (x.ok) from (by symm; unfold Tn.ok; simp only [*]; try rfl)), hk⟩))
      · have thH4 : isw x.su 10000 = true := hH4
        refine wN_mov (v := .bool true) rfl ?_
        refine wN_g rfl (wN_addo (b := H.next) (o := 0) rfl ?_)
        refine wN_g rfl (wN_ld (b := H.next) (o := 2) (v := iv x.ac) rfl c1.rd rfl ?_)
        refine wN_g rfl (wN_callB rfl (isw_ok) ?_)
        intro tH5 H5 hH5 kH5
        have mH5 := kH5.1
        have hk := hk.trans kH5
        have c1 := kH5.cl c1 (by simp)
        cases tH5
        · have thH5 : isw x.ac 10000 = false := hH5
          refine wN_pur (v := .bool false) rfl rfl ?_
          refine wN_mov (v := .bool false) rfl ?_
          refine wN_gs rfl ?_
          refine wN_gs rfl ?_
          refine wN_gs rfl ?_
          refine wN_pur (v := .bool false) rfl rfl ?_
          refine wN_mov (v := .bool false) rfl ?_
          refine wN_end ?_
          exact And.intro trivial (Exists.intro _ (And.intro rfl ⟨congrArg Value.bool (show false = (x.ok) from (by symm; unfold Tn.ok; simp only [*]; try rfl)), hk⟩))
        · have thH5 : isw x.ac 10000 = true := hH5
          refine wN_pur (v := .bool true) rfl rfl ?_
          refine wN_mov (v := .bool true) rfl ?_
          refine wN_g rfl (wN_addo (b := H.next) (o := 0) rfl ?_)
          refine wN_g rfl (wN_ld (b := H.next) (o := 3) (v := iv x.co) rfl c1.rd rfl ?_)
          refine wN_g rfl (wN_callB rfl (isw_ok) ?_)
          intro tH6 H6 hH6 kH6
          have mH6 := kH6.1
          have hk := hk.trans kH6
          have c1 := kH6.cl c1 (by simp)
          cases tH6
          · have thH6 : isw x.co 10000 = false := hH6
            refine wN_pur (v := .bool false) rfl rfl ?_
            refine wN_mov (v := .bool false) rfl ?_
            refine wN_end ?_
            exact And.intro trivial (Exists.intro _ (And.intro rfl ⟨congrArg Value.bool (show false = (x.ok) from (by symm; unfold Tn.ok; simp only [*]; try rfl)), hk⟩))
          · have thH6 : isw x.co 10000 = true := hH6
            refine wN_pur (v := .bool true) rfl rfl ?_
            refine wN_mov (v := .bool true) rfl ?_
            refine wN_end ?_
            exact And.intro trivial (Exists.intro _ (And.intro rfl ⟨congrArg Value.bool (show true = (x.ok) from (by symm; unfold Tn.ok; simp only [*]; try rfl)), hk⟩))
theorem clos72_ok {x : Tn} {k : Int} (hlo : lo ≤ H.next) : ∃ H', FnX Try.prog kn lo 72 [iv k, .agg (Tn.f x).toArray] H (.bool x.ok) H' ∧ Keep H H' [] := by
  have key := fnX_low (kn := kn) (lo := lo) (H := H) (args := [iv k, .agg (Tn.f x).toArray]) (Q := fun w H' => w = .bool x.ok ∧ Keep H H' []) Try.func72 B72 N72 Z72 L72 (by simp) ?_
  · obtain ⟨w, H', h, rfl, q⟩ := key; exact ⟨H', h, q⟩
  have hk := Keep.refl H []
  refine wN_seq ?_
  refine wN_box (v := .agg (Tn.f x).toArray) rfl ?_
  intro H1 kH1 nH1 c1
  have c1 : Cl H1 H.next [iv x.un, iv x.su, iv x.ac, iv x.co, iv x.pr] := c1
  have mH1 := kH1.1
  have hk := hk.trans kH1
  refine wN_mov (v := .bool false) rfl ?_
  refine wN_end ?_
  refine wN_seq ?_
  refine wN_lda (b := H.next) (o := 0) rfl c1.rd (show row 5 _ _ = some [iv x.un, iv x.su, iv x.ac, iv x.co, iv x.pr] from rfl) ?_
  obtain ⟨H2, fH2, kH2⟩ := vtank_ok (kn := kn) (lo := lo) (H := H1) (x := x) (by omega)
  refine wN_callf (vs := [.agg (Tn.f x).toArray]) rfl (callX_args fH2) ?_
  have mH2 := kH2.1
  have hk := hk.trans kH2
  have c1 := kH2.cl c1 (by simp)
  refine wN_mov (v := .bool x.ok) rfl ?_
  refine wN_end ?_
  exact And.intro trivial (Exists.intro _ (And.intro rfl ⟨rfl, hk⟩))
/-- isList of tanks -/
theorem list71_ok {sa : Option Addr} {n cap : Nat} {us : List Tn}  (hs : Sl H sa n cap (tnc us)) (hl : us.length = n) (hn2 : n ≤ 1000000) (hlo : lo ≤ H.next) :
    ∃ H', FnX Try.prog kn lo 71 [.slice sa n cap, iv 0, iv 5, .func (.func 72) #[] #[]] H (.bool (decide (0 ≤ n) && decide (n ≤ 5) && us.all Tn.ok)) H' ∧ Keep H H' [] := by
  have key := fnX_low (kn := kn) (lo := lo) (H := H) (args := [.slice sa n cap, iv 0, iv 5, .func (.func 72) #[] #[]]) (Q := fun w H' => w = .bool (decide (0 ≤ n) && decide (n ≤ 5) && us.all Tn.ok) ∧ Keep H H' []) Try.func71 B71 N71 Z71 L71 (by simp) ?_
  · obtain ⟨w, H', h, rfl, q⟩ := key; exact ⟨H', h, q⟩
  have hk := Keep.refl H []
  have fs := hs.old
  refine wN_seq ?_
  refine wN_mov (v := .bool false) rfl ?_
  refine wN_end ?_
  refine wN_seq ?_
  refine wN_mov (v := .slice sa n cap) rfl ?_
  refine wN_len (m := n) rfl ?_
  refine wN_mov (v := iv 0) rfl ?_
  refine wN_b_lss (a := (n : Int)) (b := 0) rfl rfl ?_
  intro t1 g1; cases t1
  · have g1 : ¬ ((n : Int) < 0) := of_decide_eq_false g1
    refine wN_mov (v := .bool false) rfl ?_
    refine wN_g rfl (wN_mov (v := .slice sa n cap) rfl ?_)
    refine wN_g rfl (wN_len (m := n) rfl ?_)
    refine wN_g rfl (wN_mov (v := iv 5) rfl ?_)
    refine wN_g rfl (wN_b_gtr (a := (n : Int)) (b := 5) rfl rfl ?_)
    intro t2 g2; cases t2
    · have g2 : ¬ ((n : Int) > 5) := of_decide_eq_false g2
      refine wN_pur (v := .bool false) rfl rfl ?_
      refine wN_end ?_
      refine condF ?_
      first | refine wN_skip ?_ | skip
      refine wN_seq ?_
      refine wN_mov (v := .slice sa n cap) rfl ?_
      refine wN_len (m := n) rfl ?_
      refine wN_mov (v := iv 0) rfl ?_
      refine wN_end ?_
      refine loop_low (fn := Try.f71) E71_1 N71 L71x1 (fun i : Nat => [(3, .func (.func 72) #[] #[]), (21, .slice sa n cap), (22, iv (n : Int)), (23, iv (i : Int))])
        (fun k i H' => i + k = n ∧ Keep H H' [] ∧ Sl H' sa n cap (tnc us) ∧ (us.take i).all Tn.ok = true) n 0 ⟨by omega, hk, hs, rfl⟩ ⟨rfl, rfl, rfl, rfl, trivial⟩ ?_
      rintro k i L1 ⟨hik, hk, hs, hall⟩
      have mki := hk.1
      have fs := hs.old
      refine wN_seq ?_
      refine wN_c_lss (a := (i : Int)) (b := (n : Int)) rfl rfl ?_
      refine wN_end ?_
      refine And.intro (fun q3 => ?_) (fun q3 => ?_)
      · have q3 : (i : Int) < (n : Int) := of_decide_eq_true q3
        have hi : i < n := by omega
        obtain ⟨x, hx⟩ := get_some (l := us) (i := i) (by omega)
        have hst := all_step (f := Tn.ok) hx
        rcases id hs with ⟨_, h0, _⟩ | ⟨sb, esb, hsd, _⟩
        · omega
        have lsb := hsd.lt
        first | refine wN_skip ?_ | skip
        refine wN_seq ?_
        refine wN_mov (v := iv (i : Int)) rfl ?_
        refine wN_idx (b := sb) (o := 0) (k := i) (j := (i : Int)) (by rw [← esb]; rfl) rfl rfl hi ?_
        refine wN_lda (b := sb) (o := 0 + i * 5) rfl hsd (tnc_row hx) ?_
        refine wN_alc ?_
        intro H1 kH1 nH1 c1
        have c1 : Cl H1 L1.next [iv 0, iv 0, iv 0, iv 0, iv 0] := c1
        have mH1 := kH1.1
        have hk := hk.trans kH1
        have hs := kH1.sl0 hs
        have hsd := kH1.rd hsd (by simp)
        refine wN_mov (v := iv (i : Int)) rfl ?_
        refine wN_sta (b := L1.next) (o := 0) rfl rfl c1 (by omega) rfl rfl (by simp) ?_
        intro H2 kH2 nH2 sH2
        have mH2 := kH2.1
        have hk := hk.new kH2 (fun b hb => by simp at hb ⊢; omega)
        have hs := kH2.sl hs (fun b e => by have := fs b e; first | (simp; done) | (simp; omega))
        have hsd := kH2.rd hsd (by first | (simp; done) | (simp; omega))
        have c1 : Cl H2 L1.next [iv x.un, iv x.su, iv x.ac, iv x.co, iv x.pr] := sH2
        refine wN_end ?_
        refine wN_seq ?_
        refine wN_mov (v := .func (.func 72) #[] #[]) rfl ?_
        refine wN_mov (v := iv (i : Int)) rfl ?_
        refine wN_lda (b := L1.next) (o := 0) rfl c1.rd (show row 5 _ _ = some [iv x.un, iv x.su, iv x.ac, iv x.co, iv x.pr] from rfl) ?_
        obtain ⟨H3, fH3, kH3⟩ := clos72_ok (kn := kn) (lo := lo) (H := H2) (x := x) (k := (i : Int)) (by omega)
        have mH3 := kH3.1
        have hk := hk.trans kH3
        have hs := kH3.sl0 hs
        have hsd := kH3.rd hsd (by simp)
        have c1 := kH3.cl c1 (by simp)
        cases hb : Tn.ok x
        · rw [show Tn.ok x = false from hb] at fH3
          refine wN_callf (vs := [iv (i : Int), .agg (Tn.f x).toArray]) rfl (callX_func rfl (by simpa using fH3)) ?_
          refine wN_pur (v := .bool true) rfl rfl ?_
          refine wN_end ?_
          refine condT ?_
          refine wN_seq ?_
          refine wN_mov (v := .bool false) rfl ?_
          refine wN_end ?_
          exact And.intro trivial (Exists.intro _ (And.intro rfl ⟨congrArg Value.bool (show false = (decide (0 ≤ n) && decide (n ≤ 5) && us.all Tn.ok) from (by symm; rw [all_fail hx hb]; simp)), hk⟩))
        · rw [show Tn.ok x = true from hb] at fH3
          refine wN_callf (vs := [iv (i : Int), .agg (Tn.f x).toArray]) rfl (callX_func rfl (by simpa using fH3)) ?_
          refine wN_pur (v := .bool false) rfl rfl ?_
          refine wN_end ?_
          refine condF ?_
          first | refine wN_skip ?_ | skip
          first | refine wN_reg ?_ | refine wN_blk ?_ | refine wN_bseq ?_ | (refine wOps_nil ?_; refine wN_reg ?_)
          refine wN_add (a := (i : Int)) (b := 1) rfl rfl ⟨by omega, by omega⟩ ?_
          refine wN_mov (v := iv ((i : Int) + 1)) rfl ?_
          refine wN_end ?_
          exact ⟨k - 1, i + 1, by omega, ⟨by omega, hk, hs, by rw [hst, hall, Bool.true_and]; exact hb⟩, rfl, rfl, rfl, rfl, trivial⟩
      · have q3 : ¬ ((i : Int) < (n : Int)) := of_decide_eq_false q3
        refine wN_seq ?_
        refine wN_mov (v := .bool true) rfl ?_
        refine wN_end ?_
        exact And.intro trivial (Exists.intro _ (And.intro rfl ⟨congrArg Value.bool (show true = (decide (0 ≤ n) && decide (n ≤ 5) && us.all Tn.ok) from (by symm; rw [List.take_of_length_le (by omega)] at hall; rw [hall, decide_eq_true (by omega), decide_eq_true (by omega)]; rfl)), hk⟩))
    · have g2 : (n : Int) > 5 := of_decide_eq_true g2
      refine wN_pur (v := .bool true) rfl rfl ?_
      refine wN_end ?_
      refine condT ?_
      refine wN_seq ?_
      refine wN_mov (v := .bool false) rfl ?_
      refine wN_end ?_
      exact And.intro trivial (Exists.intro _ (And.intro rfl ⟨congrArg Value.bool (show false = (decide (0 ≤ n) && decide (n ≤ 5) && us.all Tn.ok) from (by symm; simp; omega)), hk⟩))
  · have g1 : (n : Int) < 0 := of_decide_eq_true g1
    refine wN_mov (v := .bool true) rfl ?_
    refine wN_gs rfl ?_
    refine wN_gs rfl ?_
    refine wN_gs rfl ?_
    refine wN_gs rfl ?_
    refine wN_pur (v := .bool true) rfl rfl ?_
    refine wN_end ?_
    refine condT ?_
    refine wN_seq ?_
    refine wN_mov (v := .bool false) rfl ?_
    refine wN_end ?_
    exact And.intro trivial (Exists.intro _ (And.intro rfl ⟨congrArg Value.bool (show false = (decide (0 ≤ n) && decide (n ≤ 5) && us.all Tn.ok) from (by symm; simp; omega)), hk⟩))
/-- validTanks -/
theorem vtanks_ok {sa : Option Addr} {n cap : Nat} {us : List Tn} (hs : Sl H sa n cap (tnc us)) (hl : us.length = n) (hn2 : n ≤ 1000000) (hlo : lo ≤ H.next) : ∃ H', FnX Try.prog kn lo 51 [.slice sa n cap] H (.bool (decide (0 ≤ n) && decide (n ≤ 5) && us.all Tn.ok)) H' ∧ Keep H H' [] := by
  have key := fnX_low (kn := kn) (lo := lo) (H := H) (args := [.slice sa n cap]) (Q := fun w H' => w = .bool (decide (0 ≤ n) && decide (n ≤ 5) && us.all Tn.ok) ∧ Keep H H' []) Try.func51 B51 N51 Z51 L51 (by simp) ?_
  · obtain ⟨w, H', h, rfl, q⟩ := key; exact ⟨H', h, q⟩
  have hk := Keep.refl H []
  refine wN_seq ?_
  refine wN_mov (v := .bool false) rfl ?_
  refine wN_end ?_
  refine wN_seq ?_
  refine wN_mov (v := .slice sa n cap) rfl ?_
  obtain ⟨H1, fH1, kH1⟩ := list71_ok (kn := kn) (lo := lo) (H := H) hs hl hn2 (by omega)
  refine wN_callf (vs := [.slice sa n cap, iv 0, iv 5, .func (.func 72) #[] #[]]) rfl (callX_args fH1) ?_
  have mH1 := kH1.1
  have hk := hk.trans kH1
  have hs := kH1.sl0 hs
  refine wN_mov (v := .bool (decide (0 ≤ n) && decide (n ≤ 5) && us.all Tn.ok)) rfl ?_
  refine wN_end ?_
  exact And.intro trivial (Exists.intro _ (And.intro rfl ⟨rfl, hk⟩))
/-- isSpanWithin -/
theorem spanw_ok {a b m : Int} (hlo : lo ≤ H.next) : ∃ H', FnX Try.prog kn lo 74 [.agg #[iv a, iv b], iv m] H (.bool (spB a b m)) H' ∧ Keep H H' [] := by
  have key := fnX_low (kn := kn) (lo := lo) (H := H) (args := [.agg #[iv a, iv b], iv m]) (Q := fun w H' => w = .bool (spB a b m) ∧ Keep H H' []) Try.func74 B74 N74 Z74 L74 (by simp) ?_
  · obtain ⟨w, H', h, rfl, q⟩ := key; exact ⟨H', h, q⟩
  have hk := Keep.refl H []
  refine wN_seq ?_
  refine wN_box (v := .agg #[iv a, iv b]) rfl ?_
  intro H1 kH1 nH1 c1
  have c1 : Cl H1 H.next [iv a, iv b] := c1
  have mH1 := kH1.1
  have hk := hk.trans kH1
  refine wN_mov (v := .bool false) rfl ?_
  refine wN_end ?_
  refine wN_seq ?_
  refine wN_addo (b := H.next) (o := 0) rfl ?_
  refine wN_ld (b := H.next) (o := 0) (v := iv a) rfl c1.rd rfl ?_
  refine wN_b_leq (a := 0) (b := a) rfl rfl ?_
  intro t1 g1; cases t1
  · have g1 : ¬ (0 ≤ a) := of_decide_eq_false g1
    refine wN_mov (v := .bool false) rfl ?_
    refine wN_gs rfl ?_
    refine wN_gs rfl ?_
    refine wN_gs rfl ?_
    refine wN_gs rfl ?_
    refine wN_gs rfl ?_
    refine wN_pur (v := .bool false) rfl rfl ?_
    refine wN_mov (v := .bool false) rfl ?_
    refine wN_gs rfl ?_
    refine wN_gs rfl ?_
    refine wN_gs rfl ?_
    refine wN_gs rfl ?_
    refine wN_pur (v := .bool false) rfl rfl ?_
    refine wN_mov (v := .bool false) rfl ?_
    refine wN_end ?_
    exact And.intro trivial (Exists.intro _ (And.intro rfl ⟨congrArg Value.bool (show false = (spB a b m) from (by symm; first | (simp only [spB, Bool.and_eq_true, Bool.and_eq_false_iff, Bool.or_eq_true, Bool.or_eq_false_iff, Bool.not_eq_true', Bool.not_eq_false', decide_eq_true_eq, decide_eq_false_iff_not]; omega) | (simp [spB] <;> omega))), hk⟩))
  · have g1 : 0 ≤ a := of_decide_eq_true g1
    refine wN_mov (v := .bool true) rfl ?_
    refine wN_g rfl (wN_addo (b := H.next) (o := 0) rfl ?_)
    refine wN_g rfl (wN_ld (b := H.next) (o := 0) (v := iv a) rfl c1.rd rfl ?_)
    refine wN_g rfl (wN_addo (b := H.next) (o := 0) rfl ?_)
    refine wN_g rfl (wN_ld (b := H.next) (o := 1) (v := iv b) rfl c1.rd rfl ?_)
    refine wN_g rfl (wN_b_leq (a := a) (b := b) rfl rfl ?_)
    intro t2 g2; cases t2
    · have g2 : ¬ (a ≤ b) := of_decide_eq_false g2
      refine wN_pur (v := .bool false) rfl rfl ?_
      refine wN_mov (v := .bool false) rfl ?_
      refine wN_gs rfl ?_
      refine wN_gs rfl ?_
      refine wN_gs rfl ?_
      refine wN_gs rfl ?_
      refine wN_pur (v := .bool false) rfl rfl ?_
      refine wN_mov (v := .bool false) rfl ?_
      refine wN_end ?_
      exact And.intro trivial (Exists.intro _ (And.intro rfl ⟨congrArg Value.bool (show false = (spB a b m) from (by symm; first | (simp only [spB, Bool.and_eq_true, Bool.and_eq_false_iff, Bool.or_eq_true, Bool.or_eq_false_iff, Bool.not_eq_true', Bool.not_eq_false', decide_eq_true_eq, decide_eq_false_iff_not]; omega) | (simp [spB] <;> omega))), hk⟩))
    · have g2 : a ≤ b := of_decide_eq_true g2
      refine wN_pur (v := .bool true) rfl rfl ?_
      refine wN_mov (v := .bool true) rfl ?_
      refine wN_g rfl (wN_addo (b := H.next) (o := 0) rfl ?_)
      refine wN_g rfl (wN_ld (b := H.next) (o := 1) (v := iv b) rfl c1.rd rfl ?_)
      refine wN_g rfl (wN_mov (v := iv m) rfl ?_)
      refine wN_g rfl (wN_b_leq (a := b) (b := m) rfl rfl ?_)
      intro t3 g3; cases t3
      · have g3 : ¬ (b ≤ m) := of_decide_eq_false g3
        refine wN_pur (v := .bool false) rfl rfl ?_
        refine wN_mov (v := .bool false) rfl ?_
        refine wN_end ?_
        exact And.intro trivial (Exists.intro _ (And.intro rfl ⟨congrArg Value.bool (show false = (spB a b m) from (by symm; first | (simp only [spB, Bool.and_eq_true, Bool.and_eq_false_iff, Bool.or_eq_true, Bool.or_eq_false_iff, Bool.not_eq_true', Bool.not_eq_false', decide_eq_true_eq, decide_eq_false_iff_not]; omega) | (simp [spB] <;> omega))), hk⟩))
      · have g3 : b ≤ m := of_decide_eq_true g3
        refine wN_pur (v := .bool true) rfl rfl ?_
        refine wN_mov (v := .bool true) rfl ?_
        refine wN_end ?_
        exact And.intro trivial (Exists.intro _ (And.intro rfl ⟨congrArg Value.bool (show true = (spB a b m) from (by symm; first | (simp only [spB, Bool.and_eq_true, Bool.and_eq_false_iff, Bool.or_eq_true, Bool.or_eq_false_iff, Bool.not_eq_true', Bool.not_eq_false', decide_eq_true_eq, decide_eq_false_iff_not]; omega) | (simp [spB] <;> omega))), hk⟩))
/-- validRecipe -/
theorem vrecipe_ok {r : Rc} (hlo : lo ≤ H.next) : ∃ H', FnX Try.prog kn lo 52 [.agg (Rc.f r).toArray] H (.bool (r.ok)) H' ∧ Keep H H' [] := by
  have key := fnX_low (kn := kn) (lo := lo) (H := H) (args := [.agg (Rc.f r).toArray]) (Q := fun w H' => w = .bool (r.ok) ∧ Keep H H' []) Try.func52 B52 N52 Z52 L52 (by simp) ?_
  · obtain ⟨w, H', h, rfl, q⟩ := key; exact ⟨H', h, q⟩
  have hk := Keep.refl H []
  refine wN_seq ?_
  refine wN_box (v := .agg (Rc.f r).toArray) rfl ?_
  intro H1 kH1 nH1 c1
  have c1 : Cl H1 H.next [iv r.un, iv r.s1, iv r.s2, iv r.a1, iv r.a2, iv r.c1, iv r.c2] := c1
  have mH1 := kH1.1
  have hk := hk.trans kH1
  refine wN_mov (v := .bool false) rfl ?_
  refine wN_end ?_
  refine wN_seq ?_
  refine wN_addo (b := H.next) (o := 0) rfl ?_
  refine wN_ld (b := H.next) (o := 0) (v := iv r.un) rfl c1.rd rfl ?_
  refine wN_b_lss (a := r.un) (b := 1) rfl rfl ?_
  intro t1 g1; cases t1
  · have g1 : ¬ (r.un < 1) := of_decide_eq_false g1
    refine wN_mov (v := .bool false) rfl ?_
    refine wN_g rfl (wN_addo (b := H.next) (o := 0) rfl ?_)
    refine wN_g rfl (wN_ld (b := H.next) (o := 0) (v := iv r.un) rfl c1.rd rfl ?_)
    refine wN_g rfl (wN_b_gtr (a := r.un) (b := 60) rfl rfl ?_)
    intro t2 g2; cases t2
    · have g2 : ¬ (r.un > 60) := of_decide_eq_false g2
      refine wN_pur (v := .bool false) rfl rfl ?_
      refine wN_end ?_
      refine condF ?_
      first | refine wN_skip ?_ | skip
      refine wN_seq ?_
      refine wN_addo (b := H.next) (o := 0) rfl ?_
      refine wN_lda (b := H.next) (o := 1) rfl c1.rd (show row 2 _ _ = some [iv r.s1, iv r.s2] from rfl) ?_
      refine wN_callB rfl (spanw_ok (by omega)) ?_
      intro tH2 H2 hH2 kH2
      have mH2 := kH2.1
      have hk := hk.trans kH2
      have c1 := kH2.cl c1 (by simp)
      cases tH2
      · have thH2 : spB r.s1 r.s2 10000 = false := hH2
        refine wN_mov (v := .bool false) rfl ?_
        refine wN_gs rfl ?_
        refine wN_gs rfl ?_
        refine wN_gs rfl ?_
        refine wN_pur (v := .bool false) rfl rfl ?_
        refine wN_mov (v := .bool false) rfl ?_
        refine wN_gs rfl ?_
        refine wN_gs rfl ?_
        refine wN_gs rfl ?_
        refine wN_pur (v := .bool false) rfl rfl ?_
        refine wN_mov (v := .bool false) rfl ?_
        refine wN_end ?_
        exact And.intro trivial (Exists.intro _ (And.intro rfl ⟨congrArg Value.bool (show false = (r.ok) from (by symm; unfold Rc.ok; first | (rw [decide_eq_true (by omega), decide_eq_true (by omega)]; simp only [*]; try rfl) | (rw [decide_eq_false (by omega)]; simp) | (rw [decide_eq_true (by omega), decide_eq_false (by omega)]; simp))), hk⟩))
      · have thH2 : spB r.s1 r.s2 10000 = true := hH2
        refine wN_mov (v := .bool true) rfl ?_
        refine wN_g rfl (wN_addo (b := H.next) (o := 0) rfl ?_)
        refine wN_g rfl (wN_lda (b := H.next) (o := 3) rfl c1.rd (show row 2 _ _ = some [iv r.a1, iv r.a2] from rfl) ?_)
        refine wN_g rfl (wN_callB rfl (spanw_ok (by omega)) ?_)
        intro tH3 H3 hH3 kH3
        have mH3 := kH3.1
        have hk := hk.trans kH3
        have c1 := kH3.cl c1 (by simp)
        cases tH3
        · have thH3 : spB r.a1 r.a2 10000 = false := hH3
          refine wN_pur (v := .bool false) rfl rfl ?_
          refine wN_mov (v := .bool false) rfl ?_
          refine wN_gs rfl ?_
          refine wN_gs rfl ?_
          refine wN_gs rfl ?_
          refine wN_pur (v := .bool false) rfl rfl ?_
          refine wN_mov (v := .bool false) rfl ?_
          refine wN_end ?_
          exact And.intro trivial (Exists.intro _ (And.intro rfl ⟨congrArg Value.bool (show false = (r.ok) from (by symm; unfold Rc.ok; first | (rw [decide_eq_true (by omega), decide_eq_true (by omega)]; simp only [*]; try rfl) | (rw [decide_eq_false (by omega)]; simp) | (rw [decide_eq_true (by omega), decide_eq_false (by omega)]; simp))), hk⟩))
        · have thH3 : spB r.a1 r.a2 10000 = true := hH3
          refine wN_pur (v := .bool true) rfl rfl ?_
          refine wN_mov (v := .bool true) rfl ?_
          refine wN_g rfl (wN_addo (b := H.next) (o := 0) rfl ?_)
          refine wN_g rfl (wN_lda (b := H.next) (o := 5) rfl c1.rd (show row 2 _ _ = some [iv r.c1, iv r.c2] from rfl) ?_)
          refine wN_g rfl (wN_callB rfl (spanw_ok (by omega)) ?_)
          intro tH4 H4 hH4 kH4
          have mH4 := kH4.1
          have hk := hk.trans kH4
          have c1 := kH4.cl c1 (by simp)
          cases tH4
          · have thH4 : spB r.c1 r.c2 10000 = false := hH4
            refine wN_pur (v := .bool false) rfl rfl ?_
            refine wN_mov (v := .bool false) rfl ?_
            refine wN_end ?_
            exact And.intro trivial (Exists.intro _ (And.intro rfl ⟨congrArg Value.bool (show false = (r.ok) from (by symm; unfold Rc.ok; first | (rw [decide_eq_true (by omega), decide_eq_true (by omega)]; simp only [*]; try rfl) | (rw [decide_eq_false (by omega)]; simp) | (rw [decide_eq_true (by omega), decide_eq_false (by omega)]; simp))), hk⟩))
          · have thH4 : spB r.c1 r.c2 10000 = true := hH4
            refine wN_pur (v := .bool true) rfl rfl ?_
            refine wN_mov (v := .bool true) rfl ?_
            refine wN_end ?_
            exact And.intro trivial (Exists.intro _ (And.intro rfl ⟨congrArg Value.bool (show true = (r.ok) from (by symm; unfold Rc.ok; first | (rw [decide_eq_true (by omega), decide_eq_true (by omega)]; simp only [*]; try rfl) | (rw [decide_eq_false (by omega)]; simp) | (rw [decide_eq_true (by omega), decide_eq_false (by omega)]; simp))), hk⟩))
    · have g2 : r.un > 60 := of_decide_eq_true g2
      refine wN_pur (v := .bool true) rfl rfl ?_
      refine wN_end ?_
      refine condT ?_
      refine wN_seq ?_
      refine wN_mov (v := .bool false) rfl ?_
      refine wN_end ?_
      exact And.intro trivial (Exists.intro _ (And.intro rfl ⟨congrArg Value.bool (show false = (r.ok) from (by symm; unfold Rc.ok; first | (rw [decide_eq_true (by omega), decide_eq_true (by omega)]; simp only [*]; try rfl) | (rw [decide_eq_false (by omega)]; simp) | (rw [decide_eq_true (by omega), decide_eq_false (by omega)]; simp))), hk⟩))
  · have g1 : r.un < 1 := of_decide_eq_true g1
    refine wN_mov (v := .bool true) rfl ?_
    refine wN_gs rfl ?_
    refine wN_gs rfl ?_
    refine wN_gs rfl ?_
    refine wN_pur (v := .bool true) rfl rfl ?_
    refine wN_end ?_
    refine condT ?_
    refine wN_seq ?_
    refine wN_mov (v := .bool false) rfl ?_
    refine wN_end ?_
    exact And.intro trivial (Exists.intro _ (And.intro rfl ⟨congrArg Value.bool (show false = (r.ok) from (by symm; unfold Rc.ok; first | (rw [decide_eq_true (by omega), decide_eq_true (by omega)]; simp only [*]; try rfl) | (rw [decide_eq_false (by omega)]; simp) | (rw [decide_eq_true (by omega), decide_eq_false (by omega)]; simp))), hk⟩))
theorem num77_ok {x : Tn} (hlo : lo ≤ H.next) : ∃ H', FnX Try.prog kn lo 77 [.agg (Tn.f x).toArray] H (iv x.pr) H' ∧ Keep H H' [] := by
  have key := fnX_low (kn := kn) (lo := lo) (H := H) (args := [.agg (Tn.f x).toArray]) (Q := fun w H' => w = iv x.pr ∧ Keep H H' []) Try.func77 B77 N77 Z77 L77 (by simp) ?_
  · obtain ⟨w, H', h, rfl, q⟩ := key; exact ⟨H', h, q⟩
  have hk := Keep.refl H []
  refine wN_seq ?_
  refine wN_box (v := .agg (Tn.f x).toArray) rfl ?_
  intro H1 kH1 nH1 c1
  have c1 : Cl H1 H.next [iv x.un, iv x.su, iv x.ac, iv x.co, iv x.pr] := c1
  have mH1 := kH1.1
  have hk := hk.trans kH1
  refine wN_mov (v := iv 0) rfl ?_
  refine wN_end ?_
  refine wN_seq ?_
  refine wN_addo (b := H.next) (o := 0) rfl ?_
  refine wN_ld (b := H.next) (o := 4) (v := iv x.pr) rfl c1.rd rfl ?_
  refine wN_mov (v := iv x.pr) rfl ?_
  refine wN_end ?_
  exact And.intro trivial (Exists.intro _ (And.intro rfl ⟨rfl, hk⟩))
theorem num108_ok {x : Tn} (hlo : lo ≤ H.next) : ∃ H', FnX Try.prog kn lo 108 [.agg (Tn.f x).toArray] H (iv x.su) H' ∧ Keep H H' [] := by
  have key := fnX_low (kn := kn) (lo := lo) (H := H) (args := [.agg (Tn.f x).toArray]) (Q := fun w H' => w = iv x.su ∧ Keep H H' []) Try.func108 B108 N108 Z108 L108 (by simp) ?_
  · obtain ⟨w, H', h, rfl, q⟩ := key; exact ⟨H', h, q⟩
  have hk := Keep.refl H []
  refine wN_seq ?_
  refine wN_box (v := .agg (Tn.f x).toArray) rfl ?_
  intro H1 kH1 nH1 c1
  have c1 : Cl H1 H.next [iv x.un, iv x.su, iv x.ac, iv x.co, iv x.pr] := c1
  have mH1 := kH1.1
  have hk := hk.trans kH1
  refine wN_mov (v := iv 0) rfl ?_
  refine wN_end ?_
  refine wN_seq ?_
  refine wN_addo (b := H.next) (o := 0) rfl ?_
  refine wN_ld (b := H.next) (o := 1) (v := iv x.su) rfl c1.rd rfl ?_
  refine wN_mov (v := iv x.su) rfl ?_
  refine wN_end ?_
  exact And.intro trivial (Exists.intro _ (And.intro rfl ⟨rfl, hk⟩))
theorem num109_ok {x : Tn} (hlo : lo ≤ H.next) : ∃ H', FnX Try.prog kn lo 109 [.agg (Tn.f x).toArray] H (iv x.ac) H' ∧ Keep H H' [] := by
  have key := fnX_low (kn := kn) (lo := lo) (H := H) (args := [.agg (Tn.f x).toArray]) (Q := fun w H' => w = iv x.ac ∧ Keep H H' []) Try.func109 B109 N109 Z109 L109 (by simp) ?_
  · obtain ⟨w, H', h, rfl, q⟩ := key; exact ⟨H', h, q⟩
  have hk := Keep.refl H []
  refine wN_seq ?_
  refine wN_box (v := .agg (Tn.f x).toArray) rfl ?_
  intro H1 kH1 nH1 c1
  have c1 : Cl H1 H.next [iv x.un, iv x.su, iv x.ac, iv x.co, iv x.pr] := c1
  have mH1 := kH1.1
  have hk := hk.trans kH1
  refine wN_mov (v := iv 0) rfl ?_
  refine wN_end ?_
  refine wN_seq ?_
  refine wN_addo (b := H.next) (o := 0) rfl ?_
  refine wN_ld (b := H.next) (o := 2) (v := iv x.ac) rfl c1.rd rfl ?_
  refine wN_mov (v := iv x.ac) rfl ?_
  refine wN_end ?_
  exact And.intro trivial (Exists.intro _ (And.intro rfl ⟨rfl, hk⟩))
theorem num110_ok {x : Tn} (hlo : lo ≤ H.next) : ∃ H', FnX Try.prog kn lo 110 [.agg (Tn.f x).toArray] H (iv x.co) H' ∧ Keep H H' [] := by
  have key := fnX_low (kn := kn) (lo := lo) (H := H) (args := [.agg (Tn.f x).toArray]) (Q := fun w H' => w = iv x.co ∧ Keep H H' []) Try.func110 B110 N110 Z110 L110 (by simp) ?_
  · obtain ⟨w, H', h, rfl, q⟩ := key; exact ⟨H', h, q⟩
  have hk := Keep.refl H []
  refine wN_seq ?_
  refine wN_box (v := .agg (Tn.f x).toArray) rfl ?_
  intro H1 kH1 nH1 c1
  have c1 : Cl H1 H.next [iv x.un, iv x.su, iv x.ac, iv x.co, iv x.pr] := c1
  have mH1 := kH1.1
  have hk := hk.trans kH1
  refine wN_mov (v := iv 0) rfl ?_
  refine wN_end ?_
  refine wN_seq ?_
  refine wN_addo (b := H.next) (o := 0) rfl ?_
  refine wN_ld (b := H.next) (o := 3) (v := iv x.co) rfl c1.rd rfl ?_
  refine wN_mov (v := iv x.co) rfl ?_
  refine wN_end ?_
  exact And.intro trivial (Exists.intro _ (And.intro rfl ⟨rfl, hk⟩))
theorem sum77_ok {b : Bl} {sa : Option Addr} {n cap : Nat} {us : List Tn} (hs : Sl H sa n cap (tnc us)) (hl : us.length = n) (hb : ∀ i, 0 ≤ b i ∧ b i ≤ 12) (hok : us.all Tn.ok = true) (hn : n ≤ 5) (hlo : lo ≤ H.next) : ∃ H', FnX Try.prog kn lo 76 [.agg (bc b).toArray, .slice sa n cap, .func (.func 77) #[] #[]] H (iv (sumB us b Tn.pr n)) H' ∧ Keep H H' [] := by
  have key := fnX_low (kn := kn) (lo := lo) (H := H) (args := [.agg (bc b).toArray, .slice sa n cap, .func (.func 77) #[] #[]]) (Q := fun w H' => w = iv (sumB us b Tn.pr n) ∧ Keep H H' []) Try.func76 B76 N76 Z76 L76 (by simp) ?_
  · obtain ⟨w, H', h, rfl, q⟩ := key; exact ⟨H', h, q⟩
  have hk := Keep.refl H []
  have fs := hs.old
  refine wN_seq ?_
  refine wN_box (v := .agg (bc b).toArray) rfl ?_
  intro H1 kH1 nH1 c1
  have c1 : Cl H1 H.next [iv (b 0), iv (b 1), iv (b 2), iv (b 3), iv (b 4)] := c1
  have mH1 := kH1.1
  have hk := hk.trans kH1
  have hs := kH1.sl0 hs
  refine wN_mov (v := iv 0) rfl ?_
  refine wN_end ?_
  refine wN_seq ?_
  refine wN_mov (v := iv 0) rfl ?_
  refine wN_end ?_
  refine wN_seq ?_
  refine wN_mov (v := .slice sa n cap) rfl ?_
  refine wN_len (m := n) rfl ?_
  refine wN_mov (v := iv 0) rfl ?_
  refine wN_end ?_
  refine loop_low (fn := Try.f76) E76_1 N76 L76x1 (fun i : Nat => [(2, .func (.func 77) #[] #[]), (3, pt H.next), (7, iv (sumB us b Tn.pr i)), (10, .slice sa n cap), (11, iv (n : Int)), (12, iv (i : Int))])
    (fun k i H' => i + k = n ∧ Keep H H' [] ∧ H1.next ≤ H'.next ∧ Sl H' sa n cap (tnc us) ∧ Cl H' H.next (bc b)) n 0 ⟨by omega, hk, Nat.le_refl _, hs, c1⟩ ⟨rfl, rfl, rfl, rfl, rfl, rfl, trivial⟩ ?_
  rintro k i L1 ⟨hik, hk, hnx, hs, c3⟩
  have mki := hk.1
  have fs := hs.old
  have hsi := sumB_in (f := Tn.pr) (m := 1048576) hb (by decide) (fun i hi => by have z := Tn.ok_t (tn_at hok hi); exact ⟨by omega, by omega⟩) i (by omega)
  refine wN_seq ?_
  refine wN_c_lss (a := (i : Int)) (b := (n : Int)) rfl rfl ?_
  refine wN_end ?_
  refine And.intro (fun q1 => ?_) (fun q1 => ?_)
  · have q1 : (i : Int) < (n : Int) := of_decide_eq_true q1
    have hi : i < n := by omega
    rcases id hs with ⟨_, h0, _⟩ | ⟨sb, es, rs, _⟩
    · omega
    have lsb := rs.lt
    have ht := Tn.ok_t (tn_at hok (show i < us.length by omega))
    have hbi := hb i
    have hp0 : 0 ≤ b i * (us.getD i Tn.z).pr := Int.mul_nonneg hbi.1 (by omega)
    have hp1 : b i * (us.getD i Tn.z).pr ≤ 12 * (us.getD i Tn.z).pr := Int.mul_le_mul_of_nonneg_right hbi.2 (by omega)
    first | refine wN_skip ?_ | skip
    refine wN_seq ?_
    refine wN_mov (v := iv (i : Int)) rfl ?_
    refine wN_idx (b := sb) (o := 0) (k := i) (j := (i : Int)) (by rw [← es]; rfl) rfl rfl hi ?_
    refine wN_lda (b := sb) (o := 0 + i * 5) rfl rs (tnc_rowF (by omega)) ?_
    refine wN_alc ?_
    intro H2 kH2 nH2 c2
    have c2 : Cl H2 L1.next [iv 0, iv 0, iv 0, iv 0, iv 0] := c2
    have mH2 := kH2.1
    have hk := hk.trans kH2
    have hs := kH2.sl0 hs
    have c3 := kH2.cl c3 (by simp)
    have rs := kH2.rd rs (by simp)
    refine wN_mov (v := iv (i : Int)) rfl ?_
    refine wN_sta (b := L1.next) (o := 0) rfl rfl c2 (by omega) rfl rfl (by simp) ?_
    intro H3 kH3 nH3 sH3
    have mH3 := kH3.1
    have hk := hk.new kH3 (fun b hb => by simp at hb ⊢; omega)
    have hs := kH3.sl hs (fun b e => by have := fs b e; first | (simp; done) | (simp; omega))
    have c3 := kH3.cl c3 (by first | (simp; done) | (simp; omega))
    have rs := kH3.rd rs (by first | (simp; done) | (simp; omega))
    have c2 : Cl H3 L1.next [iv ((us.getD i Tn.z).un), iv ((us.getD i Tn.z).su), iv ((us.getD i Tn.z).ac), iv ((us.getD i Tn.z).co), iv ((us.getD i Tn.z).pr)] := sH3
    refine wN_end ?_
    first | refine wD_dreg ?_ | refine wB_dreg ?_ | refine wB_seq ?_ | (refine wOps_nil ?_; refine wD_dreg ?_)
    refine wD_mov (v := iv (sumB us b Tn.pr i)) rfl ?_
    refine wD_mov (v := iv (i : Int)) rfl ?_
    refine wD_idxa (b := H.next) (o := 0) (k := i) (j := (i : Int)) rfl rfl rfl (by omega) ?_
    refine wD_ld (b := H.next) (o := 0 + i * 1) (v := iv (b i)) rfl c3.rd (bc_at (by omega)) ?_
    refine wD_mov (v := .func (.func 77) #[] #[]) rfl ?_
    refine wD_lda (b := L1.next) (o := 0) rfl c2.rd (show row 5 _ _ = some [iv ((us.getD i Tn.z).un), iv ((us.getD i Tn.z).su), iv ((us.getD i Tn.z).ac), iv ((us.getD i Tn.z).co), iv ((us.getD i Tn.z).pr)] from rfl) ?_
    obtain ⟨H4, fH4, kH4⟩ := num77_ok (kn := kn) (lo := H3.next) (H := H3) (x := (us.getD i Tn.z)) (Nat.le_refl _)
    refine wD_callh (vs := [.agg (Tn.f (us.getD i Tn.z)).toArray]) rfl rfl (callX_func rfl (by simpa using fH4)) ?_
    have mH4 := kH4.1
    have hk := hk.trans kH4
    have hs := kH4.sl0 hs
    have c3 := kH4.cl c3 (by simp)
    have rs := kH4.rd rs (by simp)
    have c2 := kH4.cl c2 (by simp)
    refine wD_mul (a := (b i)) (b := (us.getD i Tn.z).pr) rfl rfl ⟨by omega, by omega⟩ ?_
    refine wD_add (a := (sumB us b Tn.pr i)) (b := (b i) * ((us.getD i Tn.z).pr)) rfl rfl ⟨by omega, by omega⟩ ?_
    refine wD_mov (v := iv ((sumB us b Tn.pr i) + ((b i) * ((us.getD i Tn.z).pr)))) rfl ?_
    refine wD_end (by repeat' first | exact True.intro | exact (fun h => h) | refine And.intro ?_ ?_ | (intro h; have h : (_ : Nat) = _ := h; omega)) ?_
    first | refine wN_reg ?_ | refine wN_blk ?_ | refine wN_bseq ?_ | (refine wOps_nil ?_; refine wN_reg ?_)
    refine wN_add (a := (i : Int)) (b := 1) rfl rfl ⟨by omega, by omega⟩ ?_
    refine wN_mov (v := iv ((i : Int) + 1)) rfl ?_
    refine wN_end ?_
    exact ⟨k - 1, i + 1, by omega, ⟨by omega, hk, by omega, hs, c3⟩, rfl, rfl, rfl, rfl, rfl, rfl, trivial⟩
  · have q1 : ¬ ((i : Int) < (n : Int)) := of_decide_eq_false q1
    first | (refine wN_exit ?_; show wC _ _ _ _ _ _ _ _ _) | skip
    refine wN_seq ?_
    refine wN_mov (v := iv (sumB us b Tn.pr i)) rfl ?_
    refine wN_mov (v := iv (sumB us b Tn.pr i)) rfl ?_
    refine wN_end ?_
    have e : i = n := by omega
    exact And.intro trivial (Exists.intro _ (And.intro rfl ⟨by rw [e]; rfl, hk⟩))
theorem sum108_ok {b : Bl} {sa : Option Addr} {n cap : Nat} {us : List Tn} (hs : Sl H sa n cap (tnc us)) (hl : us.length = n) (hb : ∀ i, 0 ≤ b i ∧ b i ≤ 12) (hok : us.all Tn.ok = true) (hn : n ≤ 5) (hlo : lo ≤ H.next) : ∃ H', FnX Try.prog kn lo 76 [.agg (bc b).toArray, .slice sa n cap, .func (.func 108) #[] #[]] H (iv (sumB us b Tn.su n)) H' ∧ Keep H H' [] := by
  have key := fnX_low (kn := kn) (lo := lo) (H := H) (args := [.agg (bc b).toArray, .slice sa n cap, .func (.func 108) #[] #[]]) (Q := fun w H' => w = iv (sumB us b Tn.su n) ∧ Keep H H' []) Try.func76 B76 N76 Z76 L76 (by simp) ?_
  · obtain ⟨w, H', h, rfl, q⟩ := key; exact ⟨H', h, q⟩
  have hk := Keep.refl H []
  have fs := hs.old
  refine wN_seq ?_
  refine wN_box (v := .agg (bc b).toArray) rfl ?_
  intro H1 kH1 nH1 c1
  have c1 : Cl H1 H.next [iv (b 0), iv (b 1), iv (b 2), iv (b 3), iv (b 4)] := c1
  have mH1 := kH1.1
  have hk := hk.trans kH1
  have hs := kH1.sl0 hs
  refine wN_mov (v := iv 0) rfl ?_
  refine wN_end ?_
  refine wN_seq ?_
  refine wN_mov (v := iv 0) rfl ?_
  refine wN_end ?_
  refine wN_seq ?_
  refine wN_mov (v := .slice sa n cap) rfl ?_
  refine wN_len (m := n) rfl ?_
  refine wN_mov (v := iv 0) rfl ?_
  refine wN_end ?_
  refine loop_low (fn := Try.f76) E76_1 N76 L76x1 (fun i : Nat => [(2, .func (.func 108) #[] #[]), (3, pt H.next), (7, iv (sumB us b Tn.su i)), (10, .slice sa n cap), (11, iv (n : Int)), (12, iv (i : Int))])
    (fun k i H' => i + k = n ∧ Keep H H' [] ∧ H1.next ≤ H'.next ∧ Sl H' sa n cap (tnc us) ∧ Cl H' H.next (bc b)) n 0 ⟨by omega, hk, Nat.le_refl _, hs, c1⟩ ⟨rfl, rfl, rfl, rfl, rfl, rfl, trivial⟩ ?_
  rintro k i L1 ⟨hik, hk, hnx, hs, c3⟩
  have mki := hk.1
  have fs := hs.old
  have hsi := sumB_in (f := Tn.su) (m := 10000) hb (by decide) (fun i hi => by have z := Tn.ok_t (tn_at hok hi); exact ⟨by omega, by omega⟩) i (by omega)
  refine wN_seq ?_
  refine wN_c_lss (a := (i : Int)) (b := (n : Int)) rfl rfl ?_
  refine wN_end ?_
  refine And.intro (fun q1 => ?_) (fun q1 => ?_)
  · have q1 : (i : Int) < (n : Int) := of_decide_eq_true q1
    have hi : i < n := by omega
    rcases id hs with ⟨_, h0, _⟩ | ⟨sb, es, rs, _⟩
    · omega
    have lsb := rs.lt
    have ht := Tn.ok_t (tn_at hok (show i < us.length by omega))
    have hbi := hb i
    have hp0 : 0 ≤ b i * (us.getD i Tn.z).su := Int.mul_nonneg hbi.1 (by omega)
    have hp1 : b i * (us.getD i Tn.z).su ≤ 12 * (us.getD i Tn.z).su := Int.mul_le_mul_of_nonneg_right hbi.2 (by omega)
    first | refine wN_skip ?_ | skip
    refine wN_seq ?_
    refine wN_mov (v := iv (i : Int)) rfl ?_
    refine wN_idx (b := sb) (o := 0) (k := i) (j := (i : Int)) (by rw [← es]; rfl) rfl rfl hi ?_
    refine wN_lda (b := sb) (o := 0 + i * 5) rfl rs (tnc_rowF (by omega)) ?_
    refine wN_alc ?_
    intro H2 kH2 nH2 c2
    have c2 : Cl H2 L1.next [iv 0, iv 0, iv 0, iv 0, iv 0] := c2
    have mH2 := kH2.1
    have hk := hk.trans kH2
    have hs := kH2.sl0 hs
    have c3 := kH2.cl c3 (by simp)
    have rs := kH2.rd rs (by simp)
    refine wN_mov (v := iv (i : Int)) rfl ?_
    refine wN_sta (b := L1.next) (o := 0) rfl rfl c2 (by omega) rfl rfl (by simp) ?_
    intro H3 kH3 nH3 sH3
    have mH3 := kH3.1
    have hk := hk.new kH3 (fun b hb => by simp at hb ⊢; omega)
    have hs := kH3.sl hs (fun b e => by have := fs b e; first | (simp; done) | (simp; omega))
    have c3 := kH3.cl c3 (by first | (simp; done) | (simp; omega))
    have rs := kH3.rd rs (by first | (simp; done) | (simp; omega))
    have c2 : Cl H3 L1.next [iv ((us.getD i Tn.z).un), iv ((us.getD i Tn.z).su), iv ((us.getD i Tn.z).ac), iv ((us.getD i Tn.z).co), iv ((us.getD i Tn.z).pr)] := sH3
    refine wN_end ?_
    first | refine wD_dreg ?_ | refine wB_dreg ?_ | refine wB_seq ?_ | (refine wOps_nil ?_; refine wD_dreg ?_)
    refine wD_mov (v := iv (sumB us b Tn.su i)) rfl ?_
    refine wD_mov (v := iv (i : Int)) rfl ?_
    refine wD_idxa (b := H.next) (o := 0) (k := i) (j := (i : Int)) rfl rfl rfl (by omega) ?_
    refine wD_ld (b := H.next) (o := 0 + i * 1) (v := iv (b i)) rfl c3.rd (bc_at (by omega)) ?_
    refine wD_mov (v := .func (.func 108) #[] #[]) rfl ?_
    refine wD_lda (b := L1.next) (o := 0) rfl c2.rd (show row 5 _ _ = some [iv ((us.getD i Tn.z).un), iv ((us.getD i Tn.z).su), iv ((us.getD i Tn.z).ac), iv ((us.getD i Tn.z).co), iv ((us.getD i Tn.z).pr)] from rfl) ?_
    obtain ⟨H4, fH4, kH4⟩ := num108_ok (kn := kn) (lo := H3.next) (H := H3) (x := (us.getD i Tn.z)) (Nat.le_refl _)
    refine wD_callh (vs := [.agg (Tn.f (us.getD i Tn.z)).toArray]) rfl rfl (callX_func rfl (by simpa using fH4)) ?_
    have mH4 := kH4.1
    have hk := hk.trans kH4
    have hs := kH4.sl0 hs
    have c3 := kH4.cl c3 (by simp)
    have rs := kH4.rd rs (by simp)
    have c2 := kH4.cl c2 (by simp)
    refine wD_mul (a := (b i)) (b := (us.getD i Tn.z).su) rfl rfl ⟨by omega, by omega⟩ ?_
    refine wD_add (a := (sumB us b Tn.su i)) (b := (b i) * ((us.getD i Tn.z).su)) rfl rfl ⟨by omega, by omega⟩ ?_
    refine wD_mov (v := iv ((sumB us b Tn.su i) + ((b i) * ((us.getD i Tn.z).su)))) rfl ?_
    refine wD_end (by repeat' first | exact True.intro | exact (fun h => h) | refine And.intro ?_ ?_ | (intro h; have h : (_ : Nat) = _ := h; omega)) ?_
    first | refine wN_reg ?_ | refine wN_blk ?_ | refine wN_bseq ?_ | (refine wOps_nil ?_; refine wN_reg ?_)
    refine wN_add (a := (i : Int)) (b := 1) rfl rfl ⟨by omega, by omega⟩ ?_
    refine wN_mov (v := iv ((i : Int) + 1)) rfl ?_
    refine wN_end ?_
    exact ⟨k - 1, i + 1, by omega, ⟨by omega, hk, by omega, hs, c3⟩, rfl, rfl, rfl, rfl, rfl, rfl, trivial⟩
  · have q1 : ¬ ((i : Int) < (n : Int)) := of_decide_eq_false q1
    first | (refine wN_exit ?_; show wC _ _ _ _ _ _ _ _ _) | skip
    refine wN_seq ?_
    refine wN_mov (v := iv (sumB us b Tn.su i)) rfl ?_
    refine wN_mov (v := iv (sumB us b Tn.su i)) rfl ?_
    refine wN_end ?_
    have e : i = n := by omega
    exact And.intro trivial (Exists.intro _ (And.intro rfl ⟨by rw [e]; rfl, hk⟩))
theorem sum109_ok {b : Bl} {sa : Option Addr} {n cap : Nat} {us : List Tn} (hs : Sl H sa n cap (tnc us)) (hl : us.length = n) (hb : ∀ i, 0 ≤ b i ∧ b i ≤ 12) (hok : us.all Tn.ok = true) (hn : n ≤ 5) (hlo : lo ≤ H.next) : ∃ H', FnX Try.prog kn lo 76 [.agg (bc b).toArray, .slice sa n cap, .func (.func 109) #[] #[]] H (iv (sumB us b Tn.ac n)) H' ∧ Keep H H' [] := by
  have key := fnX_low (kn := kn) (lo := lo) (H := H) (args := [.agg (bc b).toArray, .slice sa n cap, .func (.func 109) #[] #[]]) (Q := fun w H' => w = iv (sumB us b Tn.ac n) ∧ Keep H H' []) Try.func76 B76 N76 Z76 L76 (by simp) ?_
  · obtain ⟨w, H', h, rfl, q⟩ := key; exact ⟨H', h, q⟩
  have hk := Keep.refl H []
  have fs := hs.old
  refine wN_seq ?_
  refine wN_box (v := .agg (bc b).toArray) rfl ?_
  intro H1 kH1 nH1 c1
  have c1 : Cl H1 H.next [iv (b 0), iv (b 1), iv (b 2), iv (b 3), iv (b 4)] := c1
  have mH1 := kH1.1
  have hk := hk.trans kH1
  have hs := kH1.sl0 hs
  refine wN_mov (v := iv 0) rfl ?_
  refine wN_end ?_
  refine wN_seq ?_
  refine wN_mov (v := iv 0) rfl ?_
  refine wN_end ?_
  refine wN_seq ?_
  refine wN_mov (v := .slice sa n cap) rfl ?_
  refine wN_len (m := n) rfl ?_
  refine wN_mov (v := iv 0) rfl ?_
  refine wN_end ?_
  refine loop_low (fn := Try.f76) E76_1 N76 L76x1 (fun i : Nat => [(2, .func (.func 109) #[] #[]), (3, pt H.next), (7, iv (sumB us b Tn.ac i)), (10, .slice sa n cap), (11, iv (n : Int)), (12, iv (i : Int))])
    (fun k i H' => i + k = n ∧ Keep H H' [] ∧ H1.next ≤ H'.next ∧ Sl H' sa n cap (tnc us) ∧ Cl H' H.next (bc b)) n 0 ⟨by omega, hk, Nat.le_refl _, hs, c1⟩ ⟨rfl, rfl, rfl, rfl, rfl, rfl, trivial⟩ ?_
  rintro k i L1 ⟨hik, hk, hnx, hs, c3⟩
  have mki := hk.1
  have fs := hs.old
  have hsi := sumB_in (f := Tn.ac) (m := 10000) hb (by decide) (fun i hi => by have z := Tn.ok_t (tn_at hok hi); exact ⟨by omega, by omega⟩) i (by omega)
  refine wN_seq ?_
  refine wN_c_lss (a := (i : Int)) (b := (n : Int)) rfl rfl ?_
  refine wN_end ?_
  refine And.intro (fun q1 => ?_) (fun q1 => ?_)
  · have q1 : (i : Int) < (n : Int) := of_decide_eq_true q1
    have hi : i < n := by omega
    rcases id hs with ⟨_, h0, _⟩ | ⟨sb, es, rs, _⟩
    · omega
    have lsb := rs.lt
    have ht := Tn.ok_t (tn_at hok (show i < us.length by omega))
    have hbi := hb i
    have hp0 : 0 ≤ b i * (us.getD i Tn.z).ac := Int.mul_nonneg hbi.1 (by omega)
    have hp1 : b i * (us.getD i Tn.z).ac ≤ 12 * (us.getD i Tn.z).ac := Int.mul_le_mul_of_nonneg_right hbi.2 (by omega)
    first | refine wN_skip ?_ | skip
    refine wN_seq ?_
    refine wN_mov (v := iv (i : Int)) rfl ?_
    refine wN_idx (b := sb) (o := 0) (k := i) (j := (i : Int)) (by rw [← es]; rfl) rfl rfl hi ?_
    refine wN_lda (b := sb) (o := 0 + i * 5) rfl rs (tnc_rowF (by omega)) ?_
    refine wN_alc ?_
    intro H2 kH2 nH2 c2
    have c2 : Cl H2 L1.next [iv 0, iv 0, iv 0, iv 0, iv 0] := c2
    have mH2 := kH2.1
    have hk := hk.trans kH2
    have hs := kH2.sl0 hs
    have c3 := kH2.cl c3 (by simp)
    have rs := kH2.rd rs (by simp)
    refine wN_mov (v := iv (i : Int)) rfl ?_
    refine wN_sta (b := L1.next) (o := 0) rfl rfl c2 (by omega) rfl rfl (by simp) ?_
    intro H3 kH3 nH3 sH3
    have mH3 := kH3.1
    have hk := hk.new kH3 (fun b hb => by simp at hb ⊢; omega)
    have hs := kH3.sl hs (fun b e => by have := fs b e; first | (simp; done) | (simp; omega))
    have c3 := kH3.cl c3 (by first | (simp; done) | (simp; omega))
    have rs := kH3.rd rs (by first | (simp; done) | (simp; omega))
    have c2 : Cl H3 L1.next [iv ((us.getD i Tn.z).un), iv ((us.getD i Tn.z).su), iv ((us.getD i Tn.z).ac), iv ((us.getD i Tn.z).co), iv ((us.getD i Tn.z).pr)] := sH3
    refine wN_end ?_
    first | refine wD_dreg ?_ | refine wB_dreg ?_ | refine wB_seq ?_ | (refine wOps_nil ?_; refine wD_dreg ?_)
    refine wD_mov (v := iv (sumB us b Tn.ac i)) rfl ?_
    refine wD_mov (v := iv (i : Int)) rfl ?_
    refine wD_idxa (b := H.next) (o := 0) (k := i) (j := (i : Int)) rfl rfl rfl (by omega) ?_
    refine wD_ld (b := H.next) (o := 0 + i * 1) (v := iv (b i)) rfl c3.rd (bc_at (by omega)) ?_
    refine wD_mov (v := .func (.func 109) #[] #[]) rfl ?_
    refine wD_lda (b := L1.next) (o := 0) rfl c2.rd (show row 5 _ _ = some [iv ((us.getD i Tn.z).un), iv ((us.getD i Tn.z).su), iv ((us.getD i Tn.z).ac), iv ((us.getD i Tn.z).co), iv ((us.getD i Tn.z).pr)] from rfl) ?_
    obtain ⟨H4, fH4, kH4⟩ := num109_ok (kn := kn) (lo := H3.next) (H := H3) (x := (us.getD i Tn.z)) (Nat.le_refl _)
    refine wD_callh (vs := [.agg (Tn.f (us.getD i Tn.z)).toArray]) rfl rfl (callX_func rfl (by simpa using fH4)) ?_
    have mH4 := kH4.1
    have hk := hk.trans kH4
    have hs := kH4.sl0 hs
    have c3 := kH4.cl c3 (by simp)
    have rs := kH4.rd rs (by simp)
    have c2 := kH4.cl c2 (by simp)
    refine wD_mul (a := (b i)) (b := (us.getD i Tn.z).ac) rfl rfl ⟨by omega, by omega⟩ ?_
    refine wD_add (a := (sumB us b Tn.ac i)) (b := (b i) * ((us.getD i Tn.z).ac)) rfl rfl ⟨by omega, by omega⟩ ?_
    refine wD_mov (v := iv ((sumB us b Tn.ac i) + ((b i) * ((us.getD i Tn.z).ac)))) rfl ?_
    refine wD_end (by repeat' first | exact True.intro | exact (fun h => h) | refine And.intro ?_ ?_ | (intro h; have h : (_ : Nat) = _ := h; omega)) ?_
    first | refine wN_reg ?_ | refine wN_blk ?_ | refine wN_bseq ?_ | (refine wOps_nil ?_; refine wN_reg ?_)
    refine wN_add (a := (i : Int)) (b := 1) rfl rfl ⟨by omega, by omega⟩ ?_
    refine wN_mov (v := iv ((i : Int) + 1)) rfl ?_
    refine wN_end ?_
    exact ⟨k - 1, i + 1, by omega, ⟨by omega, hk, by omega, hs, c3⟩, rfl, rfl, rfl, rfl, rfl, rfl, trivial⟩
  · have q1 : ¬ ((i : Int) < (n : Int)) := of_decide_eq_false q1
    first | (refine wN_exit ?_; show wC _ _ _ _ _ _ _ _ _) | skip
    refine wN_seq ?_
    refine wN_mov (v := iv (sumB us b Tn.ac i)) rfl ?_
    refine wN_mov (v := iv (sumB us b Tn.ac i)) rfl ?_
    refine wN_end ?_
    have e : i = n := by omega
    exact And.intro trivial (Exists.intro _ (And.intro rfl ⟨by rw [e]; rfl, hk⟩))
theorem sum110_ok {b : Bl} {sa : Option Addr} {n cap : Nat} {us : List Tn} (hs : Sl H sa n cap (tnc us)) (hl : us.length = n) (hb : ∀ i, 0 ≤ b i ∧ b i ≤ 12) (hok : us.all Tn.ok = true) (hn : n ≤ 5) (hlo : lo ≤ H.next) : ∃ H', FnX Try.prog kn lo 76 [.agg (bc b).toArray, .slice sa n cap, .func (.func 110) #[] #[]] H (iv (sumB us b Tn.co n)) H' ∧ Keep H H' [] := by
  have key := fnX_low (kn := kn) (lo := lo) (H := H) (args := [.agg (bc b).toArray, .slice sa n cap, .func (.func 110) #[] #[]]) (Q := fun w H' => w = iv (sumB us b Tn.co n) ∧ Keep H H' []) Try.func76 B76 N76 Z76 L76 (by simp) ?_
  · obtain ⟨w, H', h, rfl, q⟩ := key; exact ⟨H', h, q⟩
  have hk := Keep.refl H []
  have fs := hs.old
  refine wN_seq ?_
  refine wN_box (v := .agg (bc b).toArray) rfl ?_
  intro H1 kH1 nH1 c1
  have c1 : Cl H1 H.next [iv (b 0), iv (b 1), iv (b 2), iv (b 3), iv (b 4)] := c1
  have mH1 := kH1.1
  have hk := hk.trans kH1
  have hs := kH1.sl0 hs
  refine wN_mov (v := iv 0) rfl ?_
  refine wN_end ?_
  refine wN_seq ?_
  refine wN_mov (v := iv 0) rfl ?_
  refine wN_end ?_
  refine wN_seq ?_
  refine wN_mov (v := .slice sa n cap) rfl ?_
  refine wN_len (m := n) rfl ?_
  refine wN_mov (v := iv 0) rfl ?_
  refine wN_end ?_
  refine loop_low (fn := Try.f76) E76_1 N76 L76x1 (fun i : Nat => [(2, .func (.func 110) #[] #[]), (3, pt H.next), (7, iv (sumB us b Tn.co i)), (10, .slice sa n cap), (11, iv (n : Int)), (12, iv (i : Int))])
    (fun k i H' => i + k = n ∧ Keep H H' [] ∧ H1.next ≤ H'.next ∧ Sl H' sa n cap (tnc us) ∧ Cl H' H.next (bc b)) n 0 ⟨by omega, hk, Nat.le_refl _, hs, c1⟩ ⟨rfl, rfl, rfl, rfl, rfl, rfl, trivial⟩ ?_
  rintro k i L1 ⟨hik, hk, hnx, hs, c3⟩
  have mki := hk.1
  have fs := hs.old
  have hsi := sumB_in (f := Tn.co) (m := 10000) hb (by decide) (fun i hi => by have z := Tn.ok_t (tn_at hok hi); exact ⟨by omega, by omega⟩) i (by omega)
  refine wN_seq ?_
  refine wN_c_lss (a := (i : Int)) (b := (n : Int)) rfl rfl ?_
  refine wN_end ?_
  refine And.intro (fun q1 => ?_) (fun q1 => ?_)
  · have q1 : (i : Int) < (n : Int) := of_decide_eq_true q1
    have hi : i < n := by omega
    rcases id hs with ⟨_, h0, _⟩ | ⟨sb, es, rs, _⟩
    · omega
    have lsb := rs.lt
    have ht := Tn.ok_t (tn_at hok (show i < us.length by omega))
    have hbi := hb i
    have hp0 : 0 ≤ b i * (us.getD i Tn.z).co := Int.mul_nonneg hbi.1 (by omega)
    have hp1 : b i * (us.getD i Tn.z).co ≤ 12 * (us.getD i Tn.z).co := Int.mul_le_mul_of_nonneg_right hbi.2 (by omega)
    first | refine wN_skip ?_ | skip
    refine wN_seq ?_
    refine wN_mov (v := iv (i : Int)) rfl ?_
    refine wN_idx (b := sb) (o := 0) (k := i) (j := (i : Int)) (by rw [← es]; rfl) rfl rfl hi ?_
    refine wN_lda (b := sb) (o := 0 + i * 5) rfl rs (tnc_rowF (by omega)) ?_
    refine wN_alc ?_
    intro H2 kH2 nH2 c2
    have c2 : Cl H2 L1.next [iv 0, iv 0, iv 0, iv 0, iv 0] := c2
    have mH2 := kH2.1
    have hk := hk.trans kH2
    have hs := kH2.sl0 hs
    have c3 := kH2.cl c3 (by simp)
    have rs := kH2.rd rs (by simp)
    refine wN_mov (v := iv (i : Int)) rfl ?_
    refine wN_sta (b := L1.next) (o := 0) rfl rfl c2 (by omega) rfl rfl (by simp) ?_
    intro H3 kH3 nH3 sH3
    have mH3 := kH3.1
    have hk := hk.new kH3 (fun b hb => by simp at hb ⊢; omega)
    have hs := kH3.sl hs (fun b e => by have := fs b e; first | (simp; done) | (simp; omega))
    have c3 := kH3.cl c3 (by first | (simp; done) | (simp; omega))
    have rs := kH3.rd rs (by first | (simp; done) | (simp; omega))
    have c2 : Cl H3 L1.next [iv ((us.getD i Tn.z).un), iv ((us.getD i Tn.z).su), iv ((us.getD i Tn.z).ac), iv ((us.getD i Tn.z).co), iv ((us.getD i Tn.z).pr)] := sH3
    refine wN_end ?_
    first | refine wD_dreg ?_ | refine wB_dreg ?_ | refine wB_seq ?_ | (refine wOps_nil ?_; refine wD_dreg ?_)
    refine wD_mov (v := iv (sumB us b Tn.co i)) rfl ?_
    refine wD_mov (v := iv (i : Int)) rfl ?_
    refine wD_idxa (b := H.next) (o := 0) (k := i) (j := (i : Int)) rfl rfl rfl (by omega) ?_
    refine wD_ld (b := H.next) (o := 0 + i * 1) (v := iv (b i)) rfl c3.rd (bc_at (by omega)) ?_
    refine wD_mov (v := .func (.func 110) #[] #[]) rfl ?_
    refine wD_lda (b := L1.next) (o := 0) rfl c2.rd (show row 5 _ _ = some [iv ((us.getD i Tn.z).un), iv ((us.getD i Tn.z).su), iv ((us.getD i Tn.z).ac), iv ((us.getD i Tn.z).co), iv ((us.getD i Tn.z).pr)] from rfl) ?_
    obtain ⟨H4, fH4, kH4⟩ := num110_ok (kn := kn) (lo := H3.next) (H := H3) (x := (us.getD i Tn.z)) (Nat.le_refl _)
    refine wD_callh (vs := [.agg (Tn.f (us.getD i Tn.z)).toArray]) rfl rfl (callX_func rfl (by simpa using fH4)) ?_
    have mH4 := kH4.1
    have hk := hk.trans kH4
    have hs := kH4.sl0 hs
    have c3 := kH4.cl c3 (by simp)
    have rs := kH4.rd rs (by simp)
    have c2 := kH4.cl c2 (by simp)
    refine wD_mul (a := (b i)) (b := (us.getD i Tn.z).co) rfl rfl ⟨by omega, by omega⟩ ?_
    refine wD_add (a := (sumB us b Tn.co i)) (b := (b i) * ((us.getD i Tn.z).co)) rfl rfl ⟨by omega, by omega⟩ ?_
    refine wD_mov (v := iv ((sumB us b Tn.co i) + ((b i) * ((us.getD i Tn.z).co)))) rfl ?_
    refine wD_end (by repeat' first | exact True.intro | exact (fun h => h) | refine And.intro ?_ ?_ | (intro h; have h : (_ : Nat) = _ := h; omega)) ?_
    first | refine wN_reg ?_ | refine wN_blk ?_ | refine wN_bseq ?_ | (refine wOps_nil ?_; refine wN_reg ?_)
    refine wN_add (a := (i : Int)) (b := 1) rfl rfl ⟨by omega, by omega⟩ ?_
    refine wN_mov (v := iv ((i : Int) + 1)) rfl ?_
    refine wN_end ?_
    exact ⟨k - 1, i + 1, by omega, ⟨by omega, hk, by omega, hs, c3⟩, rfl, rfl, rfl, rfl, rfl, rfl, trivial⟩
  · have q1 : ¬ ((i : Int) < (n : Int)) := of_decide_eq_false q1
    first | (refine wN_exit ?_; show wC _ _ _ _ _ _ _ _ _) | skip
    refine wN_seq ?_
    refine wN_mov (v := iv (sumB us b Tn.co i)) rfl ?_
    refine wN_mov (v := iv (sumB us b Tn.co i)) rfl ?_
    refine wN_end ?_
    have e : i = n := by omega
    exact And.intro trivial (Exists.intro _ (And.intro rfl ⟨by rw [e]; rfl, hk⟩))
/-- cost -/
theorem cost_ok {b : Bl} {sa : Option Addr} {n cap : Nat} {us : List Tn} (hs : Sl H sa n cap (tnc us)) (hl : us.length = n) (hb : ∀ i, 0 ≤ b i ∧ b i ≤ 12) (hok : us.all Tn.ok = true) (hn : n ≤ 5) (hlo : lo ≤ H.next) : ∃ H', FnX Try.prog kn lo 55 [.agg (bc b).toArray, .slice sa n cap] H (iv (cosB us b)) H' ∧ Keep H H' [] := by
  have key := fnX_low (kn := kn) (lo := lo) (H := H) (args := [.agg (bc b).toArray, .slice sa n cap]) (Q := fun w H' => w = iv (cosB us b) ∧ Keep H H' []) Try.func55 B55 N55 Z55 L55 (by simp) ?_
  · obtain ⟨w, H', h, rfl, q⟩ := key; exact ⟨H', h, q⟩
  have hk := Keep.refl H []
  have fs := hs.old
  refine wN_seq ?_
  refine wN_box (v := .agg (bc b).toArray) rfl ?_
  intro H1 kH1 nH1 c1
  have c1 : Cl H1 H.next [iv (b 0), iv (b 1), iv (b 2), iv (b 3), iv (b 4)] := c1
  have mH1 := kH1.1
  have hk := hk.trans kH1
  have hs := kH1.sl0 hs
  refine wN_mov (v := iv 0) rfl ?_
  refine wN_end ?_
  refine wN_seq ?_
  refine wN_lda (b := H.next) (o := 0) rfl c1.rd (show row 5 _ _ = some [iv (b 0), iv (b 1), iv (b 2), iv (b 3), iv (b 4)] from rfl) ?_
  refine wN_mov (v := .slice sa n cap) rfl ?_
  obtain ⟨H2, fH2, kH2⟩ := sum77_ok (kn := kn) (lo := lo) (H := H1) (b := b) hs hl hb hok hn (by omega)
  refine wN_callf (vs := [.agg (bc b).toArray, .slice sa n cap, .func (.func 77) #[] #[]]) rfl (callX_args fH2) ?_
  have mH2 := kH2.1
  have hk := hk.trans kH2
  have hs := kH2.sl0 hs
  have c1 := kH2.cl c1 (by simp)
  refine wN_mov (v := iv (sumB us b Tn.pr n)) rfl ?_
  refine wN_end ?_
  exact And.intro trivial (Exists.intro _ (And.intro rfl ⟨by unfold cosB; rw [hl]; rfl, hk⟩))
/-- isMixed -/
theorem mixed_ok {s u a c : Int} (hu : 0 ≤ u ∧ u ≤ 60) (ha : 0 ≤ a ∧ a ≤ 10000) (hc : 0 ≤ c ∧ c ≤ 10000) (hlo : lo ≤ H.next) : ∃ H', FnX Try.prog kn lo 111 [iv s, iv u, .agg #[iv a, iv c]] H (.bool (mixB s u a c)) H' ∧ Keep H H' [] := by
  have key := fnX_low (kn := kn) (lo := lo) (H := H) (args := [iv s, iv u, .agg #[iv a, iv c]]) (Q := fun w H' => w = .bool (mixB s u a c) ∧ Keep H H' []) Try.func111 B111 N111 Z111 L111 (by simp) ?_
  · obtain ⟨w, H', h, rfl, q⟩ := key; exact ⟨H', h, q⟩
  have hk := Keep.refl H []
  have p1 : 0 ≤ u * a := Int.mul_nonneg hu.1 ha.1
  have p2 : u * a ≤ 60 * a := Int.mul_le_mul_of_nonneg_right hu.2 ha.1
  have p3 : 0 ≤ u * c := Int.mul_nonneg hu.1 hc.1
  have p4 : u * c ≤ 60 * c := Int.mul_le_mul_of_nonneg_right hu.2 hc.1
  refine wN_seq ?_
  refine wN_box (v := .agg #[iv a, iv c]) rfl ?_
  intro H1 kH1 nH1 c1
  have c1 : Cl H1 H.next [iv a, iv c] := c1
  have mH1 := kH1.1
  have hk := hk.trans kH1
  refine wN_mov (v := .bool false) rfl ?_
  refine wN_end ?_
  refine wN_seq ?_
  refine wN_mov (v := iv u) rfl ?_
  refine wN_addo (b := H.next) (o := 0) rfl ?_
  refine wN_ld (b := H.next) (o := 0) (v := iv a) rfl c1.rd rfl ?_
  refine wN_mul (a := u) (b := a) rfl rfl ⟨by omega, by omega⟩ ?_
  refine wN_mov (v := iv s) rfl ?_
  refine wN_b_leq (a := u * a) (b := s) rfl rfl ?_
  intro t1 g1; cases t1
  · have g1 : ¬ ((u * a) ≤ s) := of_decide_eq_false g1
    refine wN_mov (v := .bool false) rfl ?_
    refine wN_gs rfl ?_
    refine wN_gs rfl ?_
    refine wN_gs rfl ?_
    refine wN_gs rfl ?_
    refine wN_gs rfl ?_
    refine wN_gs rfl ?_
    refine wN_pur (v := .bool false) rfl rfl ?_
    refine wN_mov (v := .bool false) rfl ?_
    refine wN_end ?_
    exact And.intro trivial (Exists.intro _ (And.intro rfl ⟨congrArg Value.bool (show false = mixB s u a c from (by symm; unfold mixB; first | (rw [decide_eq_true (by omega), decide_eq_true (by omega)]; rfl) | (rw [decide_eq_false (by omega)]; rfl) | (rw [decide_eq_true (by omega), decide_eq_false (by omega)]; rfl))), hk⟩))
  · have g1 : (u * a) ≤ s := of_decide_eq_true g1
    refine wN_mov (v := .bool true) rfl ?_
    refine wN_g rfl (wN_mov (v := iv s) rfl ?_)
    refine wN_g rfl (wN_mov (v := iv u) rfl ?_)
    refine wN_g rfl (wN_addo (b := H.next) (o := 0) rfl ?_)
    refine wN_g rfl (wN_ld (b := H.next) (o := 1) (v := iv c) rfl c1.rd rfl ?_)
    refine wN_g rfl (wN_mul (a := u) (b := c) rfl rfl ⟨by omega, by omega⟩ ?_)
    refine wN_g rfl (wN_b_leq (a := s) (b := u * c) rfl rfl ?_)
    intro t2 g2; cases t2
    · have g2 : ¬ (s ≤ (u * c)) := of_decide_eq_false g2
      refine wN_pur (v := .bool false) rfl rfl ?_
      refine wN_mov (v := .bool false) rfl ?_
      refine wN_end ?_
      exact And.intro trivial (Exists.intro _ (And.intro rfl ⟨congrArg Value.bool (show false = mixB s u a c from (by symm; unfold mixB; first | (rw [decide_eq_true (by omega), decide_eq_true (by omega)]; rfl) | (rw [decide_eq_false (by omega)]; rfl) | (rw [decide_eq_true (by omega), decide_eq_false (by omega)]; rfl))), hk⟩))
    · have g2 : s ≤ (u * c) := of_decide_eq_true g2
      refine wN_pur (v := .bool true) rfl rfl ?_
      refine wN_mov (v := .bool true) rfl ?_
      refine wN_end ?_
      exact And.intro trivial (Exists.intro _ (And.intro rfl ⟨congrArg Value.bool (show true = mixB s u a c from (by symm; unfold mixB; first | (rw [decide_eq_true (by omega), decide_eq_true (by omega)]; rfl) | (rw [decide_eq_false (by omega)]; rfl) | (rw [decide_eq_true (by omega), decide_eq_false (by omega)]; rfl))), hk⟩))
/-- isRight -/
theorem right_ok {b : Bl} {r : Rc} {sa : Option Addr} {n cap : Nat} {us : List Tn} (hs : Sl H sa n cap (tnc us)) (hl : us.length = n) (hb : ∀ i, 0 ≤ b i ∧ b i ≤ 12) (hok : us.all Tn.ok = true) (hn : n ≤ 5) (hr : r.ok = true) (hlo : lo ≤ H.next) : ∃ H', FnX Try.prog kn lo 103 [.agg (bc b).toArray, .slice sa n cap, .agg (Rc.f r).toArray] H (.bool (rigB us r b)) H' ∧ Keep H H' [] := by
  have key := fnX_low (kn := kn) (lo := lo) (H := H) (args := [.agg (bc b).toArray, .slice sa n cap, .agg (Rc.f r).toArray]) (Q := fun w H' => w = .bool (rigB us r b) ∧ Keep H H' []) Try.func103 B103 N103 Z103 L103 (by simp) ?_
  · obtain ⟨w, H', h, rfl, q⟩ := key; exact ⟨H', h, q⟩
  have hk := Keep.refl H []
  have fs := hs.old
  have hro := Rc.ok_t hr
  refine wN_seq ?_
  refine wN_box (v := .agg (bc b).toArray) rfl ?_
  intro H1 kH1 nH1 c1
  have c1 : Cl H1 H.next [iv (b 0), iv (b 1), iv (b 2), iv (b 3), iv (b 4)] := c1
  have mH1 := kH1.1
  have hk := hk.trans kH1
  have hs := kH1.sl0 hs
  refine wN_box (v := .agg (Rc.f r).toArray) rfl ?_
  intro H2 kH2 nH2 c2
  have c2 : Cl H2 H1.next [iv r.un, iv r.s1, iv r.s2, iv r.a1, iv r.a2, iv r.c1, iv r.c2] := c2
  have mH2 := kH2.1
  have hk := hk.trans kH2
  have hs := kH2.sl0 hs
  have c1 := kH2.cl c1 (by simp)
  refine wN_mov (v := .bool false) rfl ?_
  refine wN_end ?_
  refine wN_seq ?_
  refine wN_lda (b := H.next) (o := 0) rfl c1.rd (show row 5 _ _ = some [iv (b 0), iv (b 1), iv (b 2), iv (b 3), iv (b 4)] from rfl) ?_
  refine wN_mov (v := .slice sa n cap) rfl ?_
  obtain ⟨H3, fH3, kH3⟩ := sum108_ok (kn := kn) (lo := lo) (H := H2) (b := b) hs hl hb hok hn (by omega)
  refine wN_callf (vs := [.agg (bc b).toArray, .slice sa n cap, .func (.func 108) #[] #[]]) rfl (callX_args fH3) ?_
  have mH3 := kH3.1
  have hk := hk.trans kH3
  have hs := kH3.sl0 hs
  have c1 := kH3.cl c1 (by simp)
  have c2 := kH3.cl c2 (by simp)
  refine wN_mov (v := iv (sumB us b Tn.su n)) rfl ?_
  refine wN_end ?_
  refine wN_seq ?_
  refine wN_lda (b := H.next) (o := 0) rfl c1.rd (show row 5 _ _ = some [iv (b 0), iv (b 1), iv (b 2), iv (b 3), iv (b 4)] from rfl) ?_
  refine wN_mov (v := .slice sa n cap) rfl ?_
  obtain ⟨H4, fH4, kH4⟩ := sum109_ok (kn := kn) (lo := lo) (H := H3) (b := b) hs hl hb hok hn (by omega)
  refine wN_callf (vs := [.agg (bc b).toArray, .slice sa n cap, .func (.func 109) #[] #[]]) rfl (callX_args fH4) ?_
  have mH4 := kH4.1
  have hk := hk.trans kH4
  have hs := kH4.sl0 hs
  have c1 := kH4.cl c1 (by simp)
  have c2 := kH4.cl c2 (by simp)
  refine wN_mov (v := iv (sumB us b Tn.ac n)) rfl ?_
  refine wN_end ?_
  refine wN_seq ?_
  refine wN_lda (b := H.next) (o := 0) rfl c1.rd (show row 5 _ _ = some [iv (b 0), iv (b 1), iv (b 2), iv (b 3), iv (b 4)] from rfl) ?_
  refine wN_mov (v := .slice sa n cap) rfl ?_
  obtain ⟨H5, fH5, kH5⟩ := sum110_ok (kn := kn) (lo := lo) (H := H4) (b := b) hs hl hb hok hn (by omega)
  refine wN_callf (vs := [.agg (bc b).toArray, .slice sa n cap, .func (.func 110) #[] #[]]) rfl (callX_args fH5) ?_
  have mH5 := kH5.1
  have hk := hk.trans kH5
  have hs := kH5.sl0 hs
  have c1 := kH5.cl c1 (by simp)
  have c2 := kH5.cl c2 (by simp)
  refine wN_mov (v := iv (sumB us b Tn.co n)) rfl ?_
  refine wN_end ?_
  refine wN_seq ?_
  refine wN_mov (v := iv (sumB us b Tn.su n)) rfl ?_
  refine wN_addo (b := H1.next) (o := 0) rfl ?_
  refine wN_ld (b := H1.next) (o := 0) (v := iv r.un) rfl c2.rd rfl ?_
  refine wN_addo (b := H1.next) (o := 0) rfl ?_
  refine wN_lda (b := H1.next) (o := 1) rfl c2.rd (show row 2 _ _ = some [iv r.s1, iv r.s2] from rfl) ?_
  obtain ⟨H6, fH6, kH6⟩ := mixed_ok (kn := kn) (lo := lo) (H := H5) (s := sumB us b Tn.su n) (u := r.un) (a := r.s1) (c := r.s2) (by omega) (by omega) (by omega) (by omega)
  have mH6 := kH6.1
  have hk := hk.trans kH6
  have hs := kH6.sl0 hs
  have c1 := kH6.cl c1 (by simp)
  have c2 := kH6.cl c2 (by simp)
  cases hm24 : mixB (sumB us b Tn.su n) r.un r.s1 r.s2
  · rw [hm24] at fH6
    refine wN_callf (vs := [iv (sumB us b Tn.su n), iv r.un, .agg #[iv r.s1, iv r.s2]]) rfl (callX_args fH6) ?_
    refine wN_mov (v := .bool false) rfl ?_
    refine wN_gs rfl ?_
    refine wN_gs rfl ?_
    refine wN_gs rfl ?_
    refine wN_gs rfl ?_
    refine wN_gs rfl ?_
    refine wN_gs rfl ?_
    refine wN_pur (v := .bool false) rfl rfl ?_
    refine wN_mov (v := .bool false) rfl ?_
    refine wN_gs rfl ?_
    refine wN_gs rfl ?_
    refine wN_gs rfl ?_
    refine wN_gs rfl ?_
    refine wN_gs rfl ?_
    refine wN_gs rfl ?_
    refine wN_pur (v := .bool false) rfl rfl ?_
    refine wN_mov (v := .bool false) rfl ?_
    refine wN_end ?_
    exact And.intro trivial (Exists.intro _ (And.intro rfl ⟨congrArg Value.bool (show false = rigB us r b from (by symm; unfold rigB; rw [hl]; simp only [*]; try rfl)), hk⟩))
  · rw [hm24] at fH6
    refine wN_callf (vs := [iv (sumB us b Tn.su n), iv r.un, .agg #[iv r.s1, iv r.s2]]) rfl (callX_args fH6) ?_
    refine wN_mov (v := .bool true) rfl ?_
    refine wN_g rfl (wN_mov (v := iv (sumB us b Tn.ac n)) rfl ?_)
    refine wN_g rfl (wN_addo (b := H1.next) (o := 0) rfl ?_)
    refine wN_g rfl (wN_ld (b := H1.next) (o := 0) (v := iv r.un) rfl c2.rd rfl ?_)
    refine wN_g rfl (wN_addo (b := H1.next) (o := 0) rfl ?_)
    refine wN_g rfl (wN_lda (b := H1.next) (o := 3) rfl c2.rd (show row 2 _ _ = some [iv r.a1, iv r.a2] from rfl) ?_)
    obtain ⟨H7, fH7, kH7⟩ := mixed_ok (kn := kn) (lo := lo) (H := H6) (s := sumB us b Tn.ac n) (u := r.un) (a := r.a1) (c := r.a2) (by omega) (by omega) (by omega) (by omega)
    have mH7 := kH7.1
    have hk := hk.trans kH7
    have hs := kH7.sl0 hs
    have c1 := kH7.cl c1 (by simp)
    have c2 := kH7.cl c2 (by simp)
    cases hm31 : mixB (sumB us b Tn.ac n) r.un r.a1 r.a2
    · rw [hm31] at fH7
      refine wN_g rfl (wN_callf (vs := [iv (sumB us b Tn.ac n), iv r.un, .agg #[iv r.a1, iv r.a2]]) rfl (callX_args fH7) ?_)
      refine wN_pur (v := .bool false) rfl rfl ?_
      refine wN_mov (v := .bool false) rfl ?_
      refine wN_gs rfl ?_
      refine wN_gs rfl ?_
      refine wN_gs rfl ?_
      refine wN_gs rfl ?_
      refine wN_gs rfl ?_
      refine wN_gs rfl ?_
      refine wN_pur (v := .bool false) rfl rfl ?_
      refine wN_mov (v := .bool false) rfl ?_
      refine wN_end ?_
      exact And.intro trivial (Exists.intro _ (And.intro rfl ⟨congrArg Value.bool (show false = rigB us r b from (by symm; unfold rigB; rw [hl]; simp only [*]; try rfl)), hk⟩))
    · rw [hm31] at fH7
      refine wN_g rfl (wN_callf (vs := [iv (sumB us b Tn.ac n), iv r.un, .agg #[iv r.a1, iv r.a2]]) rfl (callX_args fH7) ?_)
      refine wN_pur (v := .bool true) rfl rfl ?_
      refine wN_mov (v := .bool true) rfl ?_
      refine wN_g rfl (wN_mov (v := iv (sumB us b Tn.co n)) rfl ?_)
      refine wN_g rfl (wN_addo (b := H1.next) (o := 0) rfl ?_)
      refine wN_g rfl (wN_ld (b := H1.next) (o := 0) (v := iv r.un) rfl c2.rd rfl ?_)
      refine wN_g rfl (wN_addo (b := H1.next) (o := 0) rfl ?_)
      refine wN_g rfl (wN_lda (b := H1.next) (o := 5) rfl c2.rd (show row 2 _ _ = some [iv r.c1, iv r.c2] from rfl) ?_)
      obtain ⟨H8, fH8, kH8⟩ := mixed_ok (kn := kn) (lo := lo) (H := H7) (s := sumB us b Tn.co n) (u := r.un) (a := r.c1) (c := r.c2) (by omega) (by omega) (by omega) (by omega)
      have mH8 := kH8.1
      have hk := hk.trans kH8
      have hs := kH8.sl0 hs
      have c1 := kH8.cl c1 (by simp)
      have c2 := kH8.cl c2 (by simp)
      cases hm39 : mixB (sumB us b Tn.co n) r.un r.c1 r.c2
      · rw [hm39] at fH8
        refine wN_g rfl (wN_callf (vs := [iv (sumB us b Tn.co n), iv r.un, .agg #[iv r.c1, iv r.c2]]) rfl (callX_args fH8) ?_)
        refine wN_pur (v := .bool false) rfl rfl ?_
        refine wN_mov (v := .bool false) rfl ?_
        refine wN_end ?_
        exact And.intro trivial (Exists.intro _ (And.intro rfl ⟨congrArg Value.bool (show false = rigB us r b from (by symm; unfold rigB; rw [hl]; simp only [*]; try rfl)), hk⟩))
      · rw [hm39] at fH8
        refine wN_g rfl (wN_callf (vs := [iv (sumB us b Tn.co n), iv r.un, .agg #[iv r.c1, iv r.c2]]) rfl (callX_args fH8) ?_)
        refine wN_pur (v := .bool true) rfl rfl ?_
        refine wN_mov (v := .bool true) rfl ?_
        refine wN_end ?_
        exact And.intro trivial (Exists.intro _ (And.intro rfl ⟨congrArg Value.bool (show true = rigB us r b from (by symm; unfold rigB; rw [hl]; simp only [*]; try rfl)), hk⟩))
/-- held -/
theorem held_ok {a : Option Addr} {m c : Nat} {us : List Tn} (hv : Vk H a us) (hl : us.length = m) (hm : m ≤ 5) (hu : ∀ i, i < us.length → 0 ≤ (us.getD i Tn.z).un ∧ (us.getD i Tn.z).un ≤ 12) (hlo : lo ≤ H.next) : ∃ H', FnX Try.prog kn lo 107 [.slice a m c] H (iv (hdN us m)) H' ∧ Keep H H' [] := by
  have key := fnX_low (kn := kn) (lo := lo) (H := H) (args := [.slice a m c]) (Q := fun w H' => w = iv (hdN us m) ∧ Keep H H' []) Try.func107 B107 N107 Z107 L107 (by simp) ?_
  · obtain ⟨w, H', h, rfl, q⟩ := key; exact ⟨H', h, q⟩
  have hk := Keep.refl H []
  have fv := hv.old
  refine wN_seq ?_
  refine wN_mov (v := iv 0) rfl ?_
  refine wN_end ?_
  refine wN_seq ?_
  refine wN_mov (v := iv 0) rfl ?_
  refine wN_end ?_
  refine wN_seq ?_
  refine wN_mov (v := .slice a m c) rfl ?_
  refine wN_len (m := m) rfl ?_
  refine wN_mov (v := iv 0) rfl ?_
  refine wN_end ?_
  refine loop_low (fn := Try.f107) E107_1 N107 L107x1 (fun i : Nat => [(3, iv (hdN us i)), (6, .slice a m c), (7, iv (m : Int)), (8, iv (i : Int))])
    (fun k i H' => i + k = m ∧ Keep H H' [] ∧ Vk H' a us) m 0 ⟨by omega, hk, hv⟩ ⟨rfl, rfl, rfl, rfl, trivial⟩ ?_
  rintro k i L1 ⟨hik, hk, hv⟩
  have mki := hk.1
  have hdi := hd_in hu i (by omega)
  have fv := hv.old
  refine wN_seq ?_
  refine wN_c_lss (a := (i : Int)) (b := (m : Int)) rfl rfl ?_
  refine wN_end ?_
  refine And.intro (fun q1 => ?_) (fun q1 => ?_)
  · have q1 : (i : Int) < (m : Int) := of_decide_eq_true q1
    have hi : i < m := by omega
    rcases id hv with e0 | ⟨sb, so, cs, es, rs, hrow⟩
    · rw [e0] at hl; simp at hl; omega
    have lsb := rs.lt
    have hui := hu i (by omega)
    first | refine wN_skip ?_ | skip
    refine wN_seq ?_
    refine wN_idx (b := sb) (o := so) (k := i) (j := (i : Int)) (by rw [← es]; rfl) rfl rfl hi ?_
    refine wN_lda (b := sb) (o := so + i * 5) rfl rs (hrow i (by omega)) ?_
    refine wN_alc ?_
    intro H1 kH1 nH1 c1
    have c1 : Cl H1 L1.next [iv 0, iv 0, iv 0, iv 0, iv 0] := c1
    have mH1 := kH1.1
    have hk := hk.trans kH1
    have hv := kH1.vk hv (fun _ _ => by simp)
    have rs := kH1.rd rs (by simp)
    refine wN_sta (b := L1.next) (o := 0) rfl rfl c1 (by omega) rfl rfl (by simp) ?_
    intro H2 kH2 nH2 sH2
    have mH2 := kH2.1
    have hk := hk.new kH2 (fun b hb => by simp at hb ⊢; omega)
    have hv := kH2.vk hv (fun x hx => by have := fv x hx; simp; omega)
    have rs := kH2.rd rs (by first | (simp; done) | (simp; omega))
    have c1 : Cl H2 L1.next [iv ((us.getD i Tn.z).un), iv ((us.getD i Tn.z).su), iv ((us.getD i Tn.z).ac), iv ((us.getD i Tn.z).co), iv ((us.getD i Tn.z).pr)] := sH2
    refine wN_end ?_
    first | refine wN_reg ?_ | refine wN_blk ?_ | refine wN_bseq ?_ | (refine wOps_nil ?_; refine wN_reg ?_)
    refine wN_mov (v := iv (hdN us i)) rfl ?_
    refine wN_addo (b := L1.next) (o := 0) rfl ?_
    refine wN_ld (b := L1.next) (o := 0) (v := iv ((us.getD i Tn.z).un)) rfl c1.rd rfl ?_
    refine wN_add (a := (hdN us i)) (b := (us.getD i Tn.z).un) rfl rfl ⟨by omega, by omega⟩ ?_
    refine wN_mov (v := iv ((hdN us i) + ((us.getD i Tn.z).un))) rfl ?_
    refine wN_end ?_
    first | refine wN_reg ?_ | refine wN_blk ?_ | refine wN_bseq ?_ | (refine wOps_nil ?_; refine wN_reg ?_)
    refine wN_add (a := (i : Int)) (b := 1) rfl rfl ⟨by omega, by omega⟩ ?_
    refine wN_mov (v := iv ((i : Int) + 1)) rfl ?_
    refine wN_end ?_
    exact ⟨k - 1, i + 1, by omega, ⟨by omega, hk, hv⟩, rfl, rfl, rfl, rfl, trivial⟩
  · have q1 : ¬ ((i : Int) < (m : Int)) := of_decide_eq_false q1
    refine wN_seq ?_
    refine wN_mov (v := iv (hdN us i)) rfl ?_
    refine wN_mov (v := iv (hdN us i)) rfl ?_
    refine wN_end ?_
    have e : i = m := by omega
    exact And.intro trivial (Exists.intro _ (And.intro rfl ⟨by rw [e]; rfl, hk⟩))
end
end Go.Ax

/-
  Plant: all blends, one behind the other (101, 102, 100, 75) (written by program).
-/
namespace Go.Ax
open Go Go.RowKit Go.Proofs

section
variable {kn : FuncId → Option Bool} {lo : Nat} {H : Hp}
theorem cmpl_0 {us : List Tn} {m : Nat} {u : Int} {b : Bl} {s : List Bl} (h : ¬ u > 0) : cmpl us 0 m u b ++ s = b :: s := by
  show (if u > 0 then [] else [b]) ++ s = _
  rw [if_neg h]; rfl
theorem cmpl_00 {us : List Tn} {m : Nat} {u : Int} {b : Bl} {s : List Bl} (h : u > 0) : cmpl us 0 m u b ++ s = s := by
  show (if u > 0 then [] else [b]) ++ s = _
  rw [if_pos h]; rfl
theorem comp_zero {J : List Bl → Hp → Prop} {base : Nat} {Wy : List Nat} {cv : Array Value} {sa : Option Addr} {cap : Nat} {us : List Tn} (hn : us.length ≤ 5) (hok : us.all Tn.ok = true) (hlb : lo ≤ base) (hW : ∀ x ∈ Wy, x < base) (jm : ∀ s H1 H2 W, J s H1 → Keep H1 H2 W → (∀ x ∈ W, base ≤ x) → J s H2) (jt : ∀ s H1, J s H1 → Sl H1 sa us.length cap (tnc us) ∧ ∀ b, sa = some ⟨b, 0, none⟩ → Ft H1 b (tnc us)) (step : ∀ x s H1, (∀ i, 0 ≤ x i ∧ x i ≤ 12) → base ≤ H1.next → J (x :: s) H1 → ∃ H2, CallsX Try.prog kn lo (.fn (.func 102) cv) [.agg (bc x).toArray] H1 (.bool true) H2 ∧ J s H2 ∧ Keep H1 H2 Wy) {u : Int} {b : Bl} {s : List Bl} (hb : ∀ i, 0 ≤ b i ∧ b i ≤ 12) (hbn : base ≤ H.next) (hJ : J (cmpl us 0 us.length u b ++ s) H) :
    ∃ H', FnX Try.prog kn lo 101 [.agg (bc b).toArray, .slice sa us.length cap, iv (us.length : Int), iv u, .func (.func 102) #[] cv] H (.bool true) H' ∧ J s H' ∧ Keep H H' Wy := by
  have key := fnX_low (kn := kn) (lo := lo) (H := H) (args := [.agg (bc b).toArray, .slice sa us.length cap, iv (us.length : Int), iv u, .func (.func 102) #[] cv]) (Q := fun w H' => w = .bool true ∧ J s H' ∧ Keep H H' Wy) Try.func101 B101 N101 Z101 L101 (by simp) ?_
  · obtain ⟨w, H', h, rfl, q⟩ := key; exact ⟨H', h, q⟩
  have hk := Keep.refl H Wy
  refine wN_seq ?_
  refine wN_box (v := .agg (bc b).toArray) rfl ?_
  intro H1 kH1 nH1 c1
  have c1 : Cl H1 H.next [iv (b 0), iv (b 1), iv (b 2), iv (b 3), iv (b 4)] := c1
  have mH1 := kH1.1
  have hk := hk.new kH1 (fun b hb => .inr (by first | (simp at hb; done) | (simp at hb; omega)))
  have hJ := jm _ _ _ _ hJ kH1 (fun x hx => by first | (simp at hx; done) | (simp at hx; omega))
  refine wN_mov (v := .bool false) rfl ?_
  refine wN_end ?_
  refine wN_seq ?_
  refine wN_mov (v := iv (us.length : Int)) rfl ?_
  refine wN_mov (v := .slice sa us.length cap) rfl ?_
  refine wN_len (m := us.length) rfl ?_
  refine wN_c_eql (a := (us.length : Int)) (b := (us.length : Int)) rfl rfl ?_
  refine wN_end ?_
  refine And.intro (fun q1 => ?_) (fun q1 => ?_)
  · have q1 : (us.length : Int) = (us.length : Int) := by simpa using q1
    refine wN_seq ?_
    refine wN_mov (v := iv u) rfl ?_
    refine wN_b_gtr (a := u) (b := 0) rfl rfl ?_
    intro t2 g2; cases t2
    · have g2 : ¬ (u > 0) := of_decide_eq_false g2
      refine wN_mov (v := .bool false) rfl ?_
      refine wN_g rfl (wN_mov (v := .func (.func 102) #[] cv) rfl ?_)
      refine wN_g rfl (wN_lda (b := H.next) (o := 0) rfl c1.rd (show row 5 _ _ = some [iv (b 0), iv (b 1), iv (b 2), iv (b 3), iv (b 4)] from rfl) ?_)
      obtain ⟨H2, fH2, jH2, kH2⟩ := step b s H1 hb (by omega) (by rw [cmpl_0 (by omega)] at hJ; exact hJ)
      refine wN_g rfl (wN_callf (vs := [.agg (bc b).toArray]) rfl fH2 ?_)
      have mH2 := kH2.1
      have hk := hk.new kH2 (fun b hb => .inl hb)
      have hJ := jH2
      have c1 := kH2.cl c1 (fun q => by have := hW _ q; omega)
      refine wN_pur (v := .bool true) rfl rfl ?_
      refine wN_mov (v := .bool true) rfl ?_
      refine wN_end ?_
      exact And.intro trivial (Exists.intro _ (And.intro rfl ⟨rfl, hJ, hk⟩))
    · have g2 : u > 0 := of_decide_eq_true g2
      refine wN_mov (v := .bool true) rfl ?_
      refine wN_gs rfl ?_
      refine wN_gs rfl ?_
      refine wN_gs rfl ?_
      refine wN_pur (v := .bool true) rfl rfl ?_
      refine wN_mov (v := .bool true) rfl ?_
      refine wN_end ?_
      exact And.intro trivial (Exists.intro _ (And.intro rfl ⟨rfl, (by rw [cmpl_00 (by omega)] at hJ; exact hJ), hk⟩))
  · have q1 : ¬ ((us.length : Int) = (us.length : Int)) := by simpa using q1
    exact absurd rfl q1
theorem comp_succ {J : List Bl → Hp → Prop} {base : Nat} {Wy : List Nat} {cv : Array Value} {sa : Option Addr} {cap : Nat} {us : List Tn} (hn : us.length ≤ 5) (hok : us.all Tn.ok = true) (hlb : lo ≤ base) (hW : ∀ x ∈ Wy, x < base) (jm : ∀ s H1 H2 W, J s H1 → Keep H1 H2 W → (∀ x ∈ W, base ≤ x) → J s H2) (jt : ∀ s H1, J s H1 → Sl H1 sa us.length cap (tnc us) ∧ ∀ b, sa = some ⟨b, 0, none⟩ → Ft H1 b (tnc us)) {d nx : Nat} {u : Int} {b : Bl} {s : List Bl} (hd : nx + (d + 1) = us.length) (ih : ∀ (u : Int) (b : Bl) (s : List Bl) (H : Hp), 0 ≤ u → u ≤ 60 → (∀ i, 0 ≤ b i ∧ b i ≤ 12) → base ≤ H.next → J (cmpl us d (nx + 1) u b ++ s) H → ∃ H', FnX Try.prog kn lo 101 [.agg (bc b).toArray, .slice sa us.length cap, iv ((nx : Int) + 1), iv u, .func (.func 102) #[] cv] H (.bool true) H' ∧ J s H' ∧ Keep H H' Wy) (hu0 : 0 ≤ u) (hu : u ≤ 60) (hb : ∀ i, 0 ≤ b i ∧ b i ≤ 12) (hbn : base ≤ H.next) (hJ : J (cmpl us (d + 1) nx u b ++ s) H) :
    ∃ H', FnX Try.prog kn lo 101 [.agg (bc b).toArray, .slice sa us.length cap, iv (nx : Int), iv u, .func (.func 102) #[] cv] H (.bool true) H' ∧ J s H' ∧ Keep H H' Wy := by
  have key := fnX_low (kn := kn) (lo := lo) (H := H) (args := [.agg (bc b).toArray, .slice sa us.length cap, iv (nx : Int), iv u, .func (.func 102) #[] cv]) (Q := fun w H' => w = .bool true ∧ J s H' ∧ Keep H H' Wy) Try.func101 B101 N101 Z101 L101 (by simp) ?_
  · obtain ⟨w, H', h, rfl, q⟩ := key; exact ⟨H', h, q⟩
  have hk := Keep.refl H Wy
  refine wN_seq ?_
  refine wN_box (v := .agg (bc b).toArray) rfl ?_
  intro H1 kH1 nH1 c1
  have c1 : Cl H1 H.next [iv (b 0), iv (b 1), iv (b 2), iv (b 3), iv (b 4)] := c1
  have mH1 := kH1.1
  have hk := hk.new kH1 (fun b hb => .inr (by first | (simp at hb; done) | (simp at hb; omega)))
  have hJ := jm _ _ _ _ hJ kH1 (fun x hx => by first | (simp at hx; done) | (simp at hx; omega))
  refine wN_mov (v := .bool false) rfl ?_
  refine wN_end ?_
  refine wN_seq ?_
  refine wN_mov (v := iv (nx : Int)) rfl ?_
  refine wN_mov (v := .slice sa us.length cap) rfl ?_
  refine wN_len (m := us.length) rfl ?_
  refine wN_c_eql (a := (nx : Int)) (b := (us.length : Int)) rfl rfl ?_
  refine wN_end ?_
  refine And.intro (fun q1 => ?_) (fun q1 => ?_)
  · have q1 : (nx : Int) = (us.length : Int) := by simpa using q1
    omega
  · have q1 : ¬ ((nx : Int) = (us.length : Int)) := by simpa using q1
    first | refine wN_skip ?_ | skip
    refine wN_seq ?_
    refine wN_mov (v := iv u) rfl ?_
    refine wN_mov (v := .slice sa us.length cap) rfl ?_
    refine wN_mov (v := iv (nx : Int)) rfl ?_
    refine wN_add (a := (nx : Int)) (b := 1) rfl rfl ⟨by omega, by omega⟩ ?_
    obtain ⟨hs, hf⟩ := jt _ _ hJ
    obtain ⟨a', c', kd, eA, hlt, hv⟩ := heap_fromT (lo := lo) (k := nx + 1) hs rfl hf (by omega) (by omega)
    refine wN_memh (k := kd) rfl (by kernel_rfl) (eA _ _ _ _ _ _ _ rfl rfl) (fun x e => hlt x e) ?_
    have hun : ∀ i, i < (us.drop (nx + 1)).length → 0 ≤ ((us.drop (nx + 1)).getD i Tn.z).un ∧ ((us.drop (nx + 1)).getD i Tn.z).un ≤ 12 := fun i hi => by rw [List.length_drop] at hi; rw [getD_drop]; exact (Tn.ok_t (tn_at hok (by omega))).1
    obtain ⟨H2, fH2, kH2⟩ := held_ok (kn := kn) (lo := lo) (H := H1) (c := c') hv List.length_drop (by omega) hun (by omega)
    have hhd := hd_in hun (us.length - (nx + 1)) (by rw [List.length_drop]; exact Nat.le_refl _)
    refine wN_callf (vs := [.slice a' (us.length - (nx + 1)) c']) rfl (callX_args fH2) ?_
    have mH2 := kH2.1
    have hk := hk.new kH2 (fun b hb => .inr (by first | (simp at hb; done) | (simp at hb; omega)))
    have hJ := jm _ _ _ _ hJ kH2 (fun x hx => by first | (simp at hx; done) | (simp at hx; omega))
    have c1 := kH2.cl c1 (by simp)
    refine wN_sub (a := u) (b := (hdN (us.drop (nx + 1)) (us.length - (nx + 1)))) rfl rfl ⟨by omega, by omega⟩ ?_
    refine wN_mm (a := 0) (b := u - (hdN (us.drop (nx + 1)) (us.length - (nx + 1)))) rfl rfl ?_
    refine wN_mov (v := iv (max 0 (u - (hdN (us.drop (nx + 1)) (us.length - (nx + 1)))))) rfl ?_
    refine wN_end ?_
    refine wN_seq ?_
    refine wN_mov (v := iv u) rfl ?_
    refine wN_mov (v := .slice sa us.length cap) rfl ?_
    refine wN_mov (v := iv (nx : Int)) rfl ?_
    obtain ⟨hs, hf⟩ := jt _ _ hJ
    rcases id hs with ⟨_, h0, _⟩ | ⟨sb, es, rs, _⟩
    · omega
    have lsb := rs.lt
    have ht := (Tn.ok_t (tn_at hok (show nx < us.length by omega))).1
    refine wN_idx (b := sb) (o := 0) (k := nx) (j := (nx : Int)) (by rw [← es]; rfl) rfl rfl (by omega) ?_
    refine wN_addo (b := sb) (o := 0 + nx * 5) rfl ?_
    refine wN_ld (b := sb) (o := 0 + nx * 5) (v := iv (us.getD nx Tn.z).un) rfl rs (tnc_atF (j := 0) (by omega) rfl) ?_
    refine wN_mm (a := u) (b := (us.getD nx Tn.z).un) rfl rfl ?_
    refine wN_mov (v := iv (min u ((us.getD nx Tn.z).un))) rfl ?_
    refine wN_end ?_
    refine wN_seq ?_
    refine wN_mov (v := iv (max 0 (u - (hdN (us.drop (nx + 1)) (us.length - (nx + 1)))))) rfl ?_
    refine wN_mov (v := iv (max 0 (u - (hdN (us.drop (nx + 1)) (us.length - (nx + 1)))))) rfl ?_
    refine wN_end ?_
    have hl0 : 0 ≤ lstU us nx u := by unfold lstU; omega
    have hm1 : mstU us nx u ≤ u := by unfold mstU; omega
    have hm2 : mstU us nx u ≤ 12 := by unfold mstU unF; omega
    refine loop_low (fn := Try.f101) E101_1 N101 L101x1 (fun v : Int => [(1, .slice sa us.length cap), (2, iv (nx : Int)), (3, iv u), (4, .func (.func 102) #[] cv), (5, pt H.next), (12, iv (mstU us nx u)), (13, iv v)])
      (fun k v H' => k = (mstU us nx u + 1 - v).toNat ∧ lstU us nx u ≤ v ∧ Keep H H' Wy ∧ H2.next ≤ H'.next ∧ (∃ b2, Cl H' H.next (bc b2) ∧ ∀ x, upd b2 nx x = upd b nx x) ∧ J (runs (fun v => cmpl us d (nx + 1) (u - v) (upd b nx v)) k v ++ s) H') (mstU us nx u + 1 - lstU us nx u).toNat (lstU us nx u) ⟨rfl, Int.le_refl _, hk, Nat.le_refl _, ⟨b, c1, fun _ => rfl⟩, hJ⟩ ⟨rfl, rfl, rfl, rfl, rfl, rfl, rfl, trivial⟩ ?_
    rintro k v L1 ⟨hkv, hlv, hk, hnx2, ⟨b2, c5, eb⟩, hJ⟩
    refine wN_seq ?_
    refine wN_mov (v := iv v) rfl ?_
    refine wN_mov (v := iv (mstU us nx u)) rfl ?_
    refine wN_c_leq (a := v) (b := (mstU us nx u)) rfl rfl ?_
    refine wN_end ?_
    refine And.intro (fun q2 => ?_) (fun q2 => ?_)
    · have q2 : v ≤ (mstU us nx u) := of_decide_eq_true q2
      obtain ⟨k, rfl⟩ : ∃ q, k = q + 1 := ⟨k - 1, by omega⟩
      have hJ : J (cmpl us d (nx + 1) (u - v) (upd b nx v) ++ (runs (fun v => cmpl us d (nx + 1) (u - v) (upd b nx v)) k (v + 1) ++ s)) L1 := by rw [← List.append_assoc]; exact hJ
      first | refine wN_skip ?_ | skip
      refine wN_seq ?_
      refine wN_mov (v := iv (nx : Int)) rfl ?_
      refine wN_mov (v := iv v) rfl ?_
      refine wN_idxa (b := H.next) (o := 0) (k := nx) (j := (nx : Int)) rfl rfl rfl (by omega) ?_
      refine wN_st (b := H.next) (o := 0 + nx * 1) (v := iv v) rfl rfl c5 (by omega) rfl rfl (by show 0 + nx * 1 < 5; omega) ?_
      intro H3 kH3 nH3 sH3
      have mH3 := kH3.1
      have hk := hk.new kH3 (fun b hb => .inr (by first | (simp at hb; done) | (simp at hb; omega)))
      have hJ := jm _ _ _ _ hJ kH3 (fun x hx => by first | (simp at hx; done) | (simp at hx; omega))
      have c5 : Cl H3 H.next (bc (upd b nx v)) := by rw [bc_set (by omega), eb] at sH3; exact sH3
      refine wN_end ?_
      refine wN_seq ?_
      refine wN_lda (b := H.next) (o := 0) rfl c5.rd (show row 5 (bc _) 0 = some (bc _) from rfl) ?_
      refine wN_mov (v := .slice sa us.length cap) rfl ?_
      refine wN_mov (v := iv (nx : Int)) rfl ?_
      refine wN_add (a := (nx : Int)) (b := 1) rfl rfl ⟨by omega, by omega⟩ ?_
      refine wN_mov (v := iv u) rfl ?_
      refine wN_mov (v := iv v) rfl ?_
      refine wN_sub (a := u) (b := v) rfl rfl ⟨by omega, by omega⟩ ?_
      refine wN_mov (v := .func (.func 102) #[] cv) rfl ?_
      obtain ⟨H4, fH4, jH4, kH4⟩ := ih (u - v) (upd b nx v) _ H3 (by omega) (by omega) (fun i => by unfold upd; split <;> first | omega | exact hb i) (by omega) hJ
      refine wN_callf (vs := [.agg (bc (upd b nx v)).toArray, .slice sa us.length cap, iv ((nx : Int) + 1), iv (u - v), .func (.func 102) #[] cv]) rfl (callX_args fH4) ?_
      have mH4 := kH4.1
      have hk := hk.new kH4 (fun b hb => .inl hb)
      have hJ := jH4
      have c5 := kH4.cl c5 (fun q => by have := hW _ q; omega)
      refine wN_pur (v := .bool false) rfl rfl ?_
      refine wN_end ?_
      refine condF ?_
      first | refine wN_skip ?_ | skip
      first | refine wN_reg ?_ | refine wN_blk ?_ | refine wN_bseq ?_ | (refine wOps_nil ?_; refine wN_reg ?_)
      refine wN_mov (v := iv v) rfl ?_
      refine wN_add (a := v) (b := 1) rfl rfl ⟨by omega, by omega⟩ ?_
      refine wN_mov (v := iv (v + 1)) rfl ?_
      refine wN_end ?_
      exact ⟨k, v + 1, by omega, ⟨by omega, by omega, hk, by omega, ⟨_, c5, fun x => upd_upd b nx v x⟩, hJ⟩, rfl, rfl, rfl, rfl, rfl, rfl, rfl, trivial⟩
    · have q2 : ¬ (v ≤ (mstU us nx u)) := of_decide_eq_false q2
      have k0 : k = 0 := by omega
      subst k0
      have hJ : J s L1 := hJ
      first | (refine wN_exit ?_; show wC _ _ _ _ _ _ _ _ _) | skip
      refine wN_seq ?_
      refine wN_mov (v := .bool true) rfl ?_
      refine wN_end ?_
      exact And.intro trivial (Exists.intro _ (And.intro rfl ⟨rfl, hJ, hk⟩))
/-- complete -/
theorem comp_ok {J : List Bl → Hp → Prop} {base : Nat} {Wy : List Nat} {cv : Array Value} {sa : Option Addr} {cap : Nat} {us : List Tn} (hn : us.length ≤ 5) (hok : us.all Tn.ok = true) (hlb : lo ≤ base) (hW : ∀ x ∈ Wy, x < base) (jm : ∀ s H1 H2 W, J s H1 → Keep H1 H2 W → (∀ x ∈ W, base ≤ x) → J s H2) (jt : ∀ s H1, J s H1 → Sl H1 sa us.length cap (tnc us) ∧ ∀ b, sa = some ⟨b, 0, none⟩ → Ft H1 b (tnc us)) (step : ∀ x s H1, (∀ i, 0 ≤ x i ∧ x i ≤ 12) → base ≤ H1.next → J (x :: s) H1 → ∃ H2, CallsX Try.prog kn lo (.fn (.func 102) cv) [.agg (bc x).toArray] H1 (.bool true) H2 ∧ J s H2 ∧ Keep H1 H2 Wy) : ∀ (d nx : Nat) (u : Int) (b : Bl) (s : List Bl) (H : Hp), nx + d = us.length → 0 ≤ u → u ≤ 60 → (∀ i, 0 ≤ b i ∧ b i ≤ 12) → base ≤ H.next → J (cmpl us d nx u b ++ s) H →
    ∃ H', FnX Try.prog kn lo 101 [.agg (bc b).toArray, .slice sa us.length cap, iv (nx : Int), iv u, .func (.func 102) #[] cv] H (.bool true) H' ∧ J s H' ∧ Keep H H' Wy
  | 0, nx, u, b, s, H, hd, hu0, hu, hb, hbn, hJ => by
    obtain rfl : nx = us.length := by omega
    exact comp_zero hn hok hlb hW jm jt step hb hbn hJ
  | d + 1, nx, u, b, s, H, hd, hu0, hu, hb, hbn, hJ =>
    comp_succ hn hok hlb hW jm jt hd (fun u b s H => comp_ok hn hok hlb hW jm jt step d (nx + 1) u b s H (by omega)) hu0 hu hb hbn hJ
theorem clos102_ok {Z : Hp → Prop} {x : Bl} {r : Rc} {l bL bR bY : Nat} {sa : Option Addr} {cap : Nat} {us : List Tn} (hs : Sl H sa us.length cap (tnc us)) (hn : us.length ≤ 5) (hok : us.all Tn.ok = true) (hr : r.ok = true) (hb : ∀ i, 0 ≤ x i ∧ x i ≤ 12) (hlo : lo ≤ H.next)
    (rL : Rd H bL [.slice sa us.length cap]) (rR : Rd H bR (Rc.f r)) (rY : Rd H bY [.func (.yield l) #[] #[]])
    (hy : rigB us r x = true → ∀ H1, Keep H H1 [] → ∃ H', CallsX Try.prog kn lo (.fn (.yield l) #[]) [.agg (bc x).toArray] H1 (.bool true) H' ∧ Z H')
    (hz : rigB us r x = false → ∀ H1, Keep H H1 [] → Z H1) :
    ∃ H', FnX Try.prog kn lo 102 [.agg (bc x).toArray, pt bL, pt bR, pt bY] H (.bool true) H' ∧ Z H' := by
  have key := fnX_low (kn := kn) (lo := lo) (H := H) (args := [.agg (bc x).toArray, pt bL, pt bR, pt bY]) (Q := fun w H' => w = .bool true ∧ Z H') Try.func102 B102 N102 Z102 L102 (by simp) ?_
  · obtain ⟨w, H', h, rfl, q⟩ := key; exact ⟨H', h, q⟩
  have hk := Keep.refl H []
  have fs := hs.old
  have lL := rL.lt
  have lR := rR.lt
  have lY := rY.lt
  refine wN_seq ?_
  refine wN_box (v := .agg (bc x).toArray) rfl ?_
  intro H1 kH1 nH1 c1
  have c1 : Cl H1 H.next [iv (x 0), iv (x 1), iv (x 2), iv (x 3), iv (x 4)] := c1
  have mH1 := kH1.1
  have hk := hk.trans kH1
  have rL := kH1.rd rL (by simp)
  have rR := kH1.rd rR (by simp)
  have rY := kH1.rd rY (by simp)
  have hs := kH1.sl0 hs
  refine wN_mov (v := .bool false) rfl ?_
  refine wN_end ?_
  refine wN_seq ?_
  refine wN_lda (b := H.next) (o := 0) rfl c1.rd (show row 5 _ _ = some [iv (x 0), iv (x 1), iv (x 2), iv (x 3), iv (x 4)] from rfl) ?_
  refine wN_ld (b := bL) (o := 0) (v := .slice sa us.length cap) rfl rL rfl ?_
  refine wN_lda (b := bR) (o := 0) rfl rR (show row 7 (Rc.f _) 0 = some (Rc.f _) from rfl) ?_
  obtain ⟨H2, fH2, kH2⟩ := right_ok (kn := kn) (lo := lo) (H := H1) (b := x) (r := r) hs rfl hb hok hn hr (by omega)
  have mH2 := kH2.1
  have hk := hk.trans kH2
  have rL := kH2.rd rL (by simp)
  have rR := kH2.rd rR (by simp)
  have rY := kH2.rd rY (by simp)
  have hs := kH2.sl0 hs
  have c1 := kH2.cl c1 (by simp)
  cases hm9 : rigB us r x
  · rw [hm9] at fH2
    refine wN_callf (vs := [.agg (bc x).toArray, .slice sa us.length cap, .agg (Rc.f r).toArray]) rfl (callX_args fH2) ?_
    refine wN_pur (v := .bool true) rfl rfl ?_
    refine wN_mov (v := .bool true) rfl ?_
    refine wN_gs rfl ?_
    refine wN_gs rfl ?_
    refine wN_gs rfl ?_
    refine wN_pur (v := .bool true) rfl rfl ?_
    refine wN_mov (v := .bool true) rfl ?_
    refine wN_end ?_
    exact And.intro trivial (Exists.intro _ (And.intro rfl ⟨rfl, hz (by assumption) _ hk⟩))
  · rw [hm9] at fH2
    refine wN_callf (vs := [.agg (bc x).toArray, .slice sa us.length cap, .agg (Rc.f r).toArray]) rfl (callX_args fH2) ?_
    refine wN_pur (v := .bool false) rfl rfl ?_
    refine wN_mov (v := .bool false) rfl ?_
    refine wN_g rfl (wN_ld (b := bY) (o := 0) (v := .func (.yield l) #[] #[]) rfl rY rfl ?_)
    refine wN_g rfl (wN_lda (b := H.next) (o := 0) rfl c1.rd (show row 5 _ _ = some [iv (x 0), iv (x 1), iv (x 2), iv (x 3), iv (x 4)] from rfl) ?_)
    obtain ⟨H3, fH3, zH3⟩ := hy (by assumption) _ hk
    refine wN_g rfl (wN_callf (vs := [.agg (bc x).toArray]) rfl fH3 ?_)
    refine wN_pur (v := .bool true) rfl rfl ?_
    refine wN_mov (v := .bool true) rfl ?_
    refine wN_end ?_
    exact And.intro trivial (Exists.intro _ (And.intro rfl ⟨rfl, zH3⟩))
theorem iter100_ok {J : List Bl → Hp → Prop} {base : Nat} {Wy : List Nat} {r : Rc} {l bL bR : Nat} {sa : Option Addr} {cap : Nat} {us : List Tn} (hn : us.length ≤ 5) (hok : us.all Tn.ok = true) (hr : r.ok = true) (hlb : lo ≤ base) (hW : ∀ x ∈ Wy, x < base) (jm : ∀ s H1 H2 W, J s H1 → Keep H1 H2 W → (∀ x ∈ W, base ≤ x) → J s H2) (je : ∀ s H1, J s H1 → Rd H1 bL [.slice sa us.length cap] ∧ Rd H1 bR (Rc.f r) ∧ Sl H1 sa us.length cap (tnc us) ∧ ∀ b, sa = some ⟨b, 0, none⟩ → Ft H1 b (tnc us))
    (step : ∀ x s H1, (∀ i, 0 ≤ x i ∧ x i ≤ 12) → rigB us r x = true → J (x :: s) H1 → base ≤ H1.next → ∃ H2, CallsX Try.prog kn lo (.fn (.yield l) #[]) [.agg (bc x).toArray] H1 (.bool true) H2 ∧ J s H2 ∧ Keep H1 H2 Wy)
    (skip : ∀ x s H1, rigB us r x = false → J (x :: s) H1 → J s H1) (hbn : base ≤ H.next) (hJ : J (allB us r) H) :
    ∃ H', FnX Try.prog kn lo 100 [.func (.yield l) #[] #[], pt bL, pt bR] H unit H' ∧ J [] H' := by
  have key := fnX_low (kn := kn) (lo := lo) (H := H) (args := [.func (.yield l) #[] #[], pt bL, pt bR]) (Q := fun w H' => w = unit ∧ J [] H') Try.func100 B100 N100 Z100 L100 (by simp) ?_
  · obtain ⟨w, H', h, rfl, q⟩ := key; exact ⟨H', h, q⟩
  have hk := Keep.refl H []
  obtain ⟨rL, rR, hs, hf⟩ := je _ _ hJ
  have lL := rL.lt
  have lR := rR.lt
  have hro := (Rc.ok_t hr).1
  refine wN_seq ?_
  refine wN_box (v := .func (.yield l) #[] #[]) rfl ?_
  intro H1 kH1 nH1 c1
  have c1 : Cl H1 H.next [.func (.yield l) #[] #[]] := c1
  have mH1 := kH1.1
  have hk := hk.trans kH1
  have rL := kH1.rd rL (by simp)
  have rR := kH1.rd rR (by simp)
  have hJ := jm _ _ _ _ hJ kH1 (fun x hx => by first | (simp at hx; done) | (simp at hx; omega))
  refine wN_end ?_
  first | refine wN_reg ?_ | refine wN_blk ?_ | refine wN_bseq ?_ | (refine wOps_nil ?_; refine wN_reg ?_)
  refine wN_pur (v := .agg #[iv 0, iv 0, iv 0, iv 0, iv 0]) rfl (by kernel_rfl) ?_
  refine wN_ld (b := bL) (o := 0) (v := .slice sa us.length cap) rfl rL rfl ?_
  refine wN_addo (b := bR) (o := 0) rfl ?_
  refine wN_ld (b := bR) (o := 0) (v := iv r.un) rfl rR rfl ?_
  refine wN_pur (v := .func (.func 102) #[] #[pt bL, pt bR, pt H.next]) rfl (by kernel_rfl) ?_
  obtain ⟨H2, fH2, jH2, kH2⟩ := comp_ok (kn := kn) (lo := lo) (J := fun s H1 => J s H1 ∧ Rd H1 H.next [.func (.yield l) #[] #[]]) (base := H.next + 1) (Wy := Wy) (cv := #[pt bL, pt bR, pt H.next]) (sa := sa) (cap := cap) (us := us) hn hok (by omega) (fun x hx => by have := hW x hx; omega)
    (fun s H1 H2 W j k hw => ⟨jm _ _ _ _ j.1 k (fun x hx => by have := hw x hx; omega), k.rd j.2 (fun q => by have := hw _ q; omega)⟩) (fun s H1 j => ⟨(je _ _ j.1).2.2.1, (je _ _ j.1).2.2.2⟩)
    (fun x s H1 hx hb1 j => by
      obtain ⟨e1, e2, e3, e4⟩ := je _ _ j.1
      obtain ⟨H2, g2, j2, k2⟩ := clos102_ok (kn := kn) (lo := lo) (H := H1) (Z := fun H2 => (J s H2 ∧ Rd H2 H.next [.func (.yield l) #[] #[]]) ∧ Keep H1 H2 Wy) (x := x) e3 hn hok hr hx (by omega) e1 e2 j.2
        (fun hrt H2 k2 => by
          obtain ⟨H3, g3, j3, k3⟩ := step x s H2 hx hrt (jm _ _ _ _ j.1 k2 (fun x hx => by simp at hx)) (by have := k2.1; omega)
          exact ⟨H3, g3, ⟨j3, k3.rd (k2.rd j.2 (by simp)) (fun q => by have := hW _ q; omega)⟩, (k2.mono (by simp)).trans k3⟩)
        (fun hrf H2 k2 => ⟨⟨jm _ _ _ _ (skip x s H1 hrf j.1) k2 (fun x hx => by simp at hx), k2.rd j.2 (by simp)⟩, k2.mono (by simp)⟩)
      exact ⟨H2, callX_func rfl (by simpa using g2), j2, k2⟩)
    us.length 0 r.un bz [] H1 (by omega) (by omega) (by omega) (fun _ => ⟨Int.le_refl _, (by decide : (0:Int) ≤ 12)⟩) (by omega) ⟨by rw [List.append_nil]; exact hJ, c1.rd⟩
  refine wN_callf (vs := [.agg (bc bz).toArray, .slice sa us.length cap, iv 0, iv r.un, .func (.func 102) #[] #[pt bL, pt bR, pt H.next]]) rfl (callX_args fH2) ?_
  refine wN_end ?_
  exact And.intro trivial (Exists.intro _ (And.intro rfl ⟨rfl, jH2.1⟩))
/-- blends -/
theorem blends75_ok {sa : Option Addr} {n cap : Nat} {r : Rc} (hlo : lo ≤ H.next) : ∃ H', FnX Try.prog kn lo 75 [.slice sa n cap, .agg (Rc.f r).toArray] H (.func (.func 100) #[] #[pt H.next, pt (H.next + 1)]) H' ∧ Rd H' H.next [.slice sa n cap] ∧ Rd H' (H.next + 1) (Rc.f r) ∧ H'.next = H.next + 2 ∧ Keep H H' [] := by
  have key := fnX_low (kn := kn) (lo := lo) (H := H) (args := [.slice sa n cap, .agg (Rc.f r).toArray]) (Q := fun w H' => w = (.func (.func 100) #[] #[pt H.next, pt (H.next + 1)]) ∧ Rd H' H.next [.slice sa n cap] ∧ Rd H' (H.next + 1) (Rc.f r) ∧ H'.next = H.next + 2 ∧ Keep H H' []) Try.func75 B75 N75 Z75 L75 (by simp) ?_
  · obtain ⟨w, H', h, rfl, q⟩ := key; exact ⟨H', h, q⟩
  have hk := Keep.refl H []
  refine wN_seq ?_
  refine wN_box (v := .slice sa n cap) rfl ?_
  intro H1 kH1 nH1 c1
  have c1 : Cl H1 H.next [.slice sa n cap] := c1
  have mH1 := kH1.1
  have hk := hk.trans kH1
  refine wN_box (v := .agg (Rc.f r).toArray) rfl ?_
  intro H2 kH2 nH2 c2
  have c2 : Cl H2 H1.next [iv r.un, iv r.s1, iv r.s2, iv r.a1, iv r.a2, iv r.c1, iv r.c2] := c2
  have mH2 := kH2.1
  have hk := hk.trans kH2
  have c1 := kH2.cl c1 (by simp)
  refine wN_mov (v := .nilFunc) rfl ?_
  refine wN_end ?_
  refine wN_seq ?_
  refine wN_pur (v := .func (.func 100) #[] #[pt H.next, pt H1.next]) rfl (by kernel_rfl) ?_
  refine wN_mov (v := .func (.func 100) #[] #[pt H.next, pt H1.next]) rfl ?_
  refine wN_end ?_
  have e2 : H1.next = H.next + 1 := by omega
  rw [e2] at c2
  exact And.intro trivial (Exists.intro _ (And.intro rfl ⟨by rw [e2]; rfl, c1.rd, c2.rd, by omega, hk⟩))
end
end Go.Ax


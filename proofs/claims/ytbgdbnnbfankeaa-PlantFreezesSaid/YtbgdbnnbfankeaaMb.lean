import Derived.Test.YtbgdbnnbfankeaaMa
import Derived.Test.YtbgdbnnbfankeaaAxW9
import Derived.Test.YtbgdbnnbfankeaaChecked
import Derived.Test.YtbgdbnnbfankeaaAxW10
set_option linter.all false
/-! What 'low' makes of functions of plant (written by program). -/
namespace Go.Ax
open Go Go.RowKit Go.Proofs
theorem N95 : Try.f95.ntmps = 12 := by kernel_rfl
theorem Z95 : Try.f95.results.toList = ((List.toArray [(.tmp 4)]) : Array ResultVar).toList := by kernel_rfl
theorem B95 : Try.f95.body = some (at_ Try.f95 []) := by kernel_rfl
noncomputable def R95 : RC := (.seq (.reg [⟨(some 4), none, (.mov (.const (.bool false)))⟩])
  (.seq (.reg [⟨(some 5), none, (.mov (.tmp 0))⟩, ⟨(some 6), none, (.cmpb .leq (.const (.int .i64 0)) (.tmp 5))⟩, ⟨(some 7), none, (.mov (.tmp 6))⟩, ⟨(some 8), (some (7, true)), (.mov (.tmp 0))⟩, ⟨(some 9), (some (7, true)), (.mov (.tmp 1))⟩, ⟨(some 10), (some (7, true)), (.cmpb .leq (.tmp 8) (.tmp 9))⟩, ⟨(some 11), none, (.pur ⟨(some 11), (.pick (.tmp 7) (.tmp 10) (.const (.bool false))), 4, "", (List.toArray []), none⟩)⟩, ⟨(some 4), none, (.mov (.tmp 11))⟩])
  .ret))
theorem L95 : low Try.prog Try.f95.ntmps (at_ Try.f95 []) = some R95 := by kernel_rfl
theorem N50 : Try.f50.ntmps = 15 := by kernel_rfl
theorem Z50 : Try.f50.results.toList = ((List.toArray [(.tmp 6)]) : Array ResultVar).toList := by kernel_rfl
theorem B50 : Try.f50.body = some (at_ Try.f50 []) := by kernel_rfl
noncomputable def R50 : RC := (.seq (.reg [⟨(some 6), none, (.mov (.const (.bool false)))⟩])
  (.seq (.reg [⟨(some 7), none, (.mov (.tmp 1))⟩, ⟨(some 8), none, (.mov (.tmp 0))⟩, ⟨(some 9), none, (.cmpb .leq (.tmp 7) (.tmp 8))⟩, ⟨(some 10), none, (.mov (.tmp 9))⟩, ⟨(some 11), (some (10, true)), (.mov (.tmp 0))⟩, ⟨(some 12), (some (10, true)), (.mov (.tmp 2))⟩, ⟨(some 13), (some (10, true)), (.cmpb .leq (.tmp 11) (.tmp 12))⟩, ⟨(some 14), none, (.pur ⟨(some 14), (.pick (.tmp 10) (.tmp 13) (.const (.bool false))), 4, "", (List.toArray []), none⟩)⟩, ⟨(some 6), none, (.mov (.tmp 14))⟩])
  .ret))
theorem L50 : low Try.prog Try.f50.ntmps (at_ Try.f50 []) = some R50 := by kernel_rfl
end Go.Ax

/-
  Plant: parts and streams: what is done with four numbers (written by program).
-/
namespace Go.Ax
open Go Go.RowKit Go.Proofs

def inB (n a b : Int) : Bool := decide (a ≤ n) && decide (n ≤ b)
theorem inB_t {n a b : Int} (h : inB n a b = true) : a ≤ n ∧ n ≤ b := by simpa [inB] using h
theorem inB_f {n a b : Int} (h : inB n a b = false) : ¬ (a ≤ n ∧ n ≤ b) := by
  intro q; simp [inB] at h; omega
section
variable {kn : FuncId → Option Bool} {lo : Nat} {H : Hp}
theorem isw_ok {n m : Int} : ∃ H', FnX Try.prog kn lo 95 [iv n, iv m] H (.bool (isw n m)) H' ∧ Keep H H' [] := by
  have key := fnX_low (kn := kn) (lo := lo) (H := H) (args := [iv n, iv m]) (Q := fun w H' => w = .bool (isw n m) ∧ Keep H H' []) Try.func95 B95 N95 Z95 L95 (by simp) ?_
  · obtain ⟨w, H', h, rfl, q⟩ := key; exact ⟨H', h, q⟩
  repeat' first
    | (intro t ht; cases t)
    | exact And.intro trivial (Exists.intro _ (And.intro rfl ⟨by simp_all [retV, isw] <;> (intros; omega), Keep.refl _ _⟩))
    | refine And.intro rfl (Exists.intro _ (And.intro rfl ?_))
theorem in50_ok {n a m : Int} : ∃ H', FnX Try.prog kn lo 50 [iv n, iv a, iv m] H (.bool (inB n a m)) H' ∧ Keep H H' [] := by
  have key := fnX_low (kn := kn) (lo := lo) (H := H) (args := [iv n, iv a, iv m]) (Q := fun w H' => w = .bool (inB n a m) ∧ Keep H H' []) Try.func50 B50 N50 Z50 L50 (by simp) ?_
  · obtain ⟨w, H', h, rfl, q⟩ := key; exact ⟨H', h, q⟩
  repeat' first
    | (intro t ht; cases t)
    | exact And.intro trivial (Exists.intro _ (And.intro rfl ⟨by simp_all [retV, inB] <;> (intros; omega), Keep.refl _ _⟩))
    | refine And.intro rfl (Exists.intro _ (And.intro rfl ?_))
end
end Go.Ax

/-! What 'low' makes of functions of plant (written by program). -/
namespace Go.Ax
open Go Go.RowKit Go.Proofs
noncomputable def R3 : RC := (.seq (.reg [⟨(some 4), none, (.box 24 (.tmp 1))⟩, ⟨(some 6), none, (.mov (.const (.bool false)))⟩])
  (.seq (.seq (.reg [⟨(some 15), none, (.mov (.tmp 0))⟩, ⟨(some 16), none, (.call ⟨(.value (.func 15)), (List.toArray [(.tmp 15)]), (List.toArray [22])⟩ true)⟩])
  (.cond (.tmp 16) (.seq (.reg [⟨(some 17), none, (.call ⟨(.value (.func 16)), (List.toArray []), (List.toArray [])⟩ true)⟩, ⟨(some 6), none, (.mov (.tmp 17))⟩])
  .ret)
  .skip))
  (.seq (.reg [⟨(some 19), none, (.mov (.tmp 0))⟩, ⟨(some 20), none, (.lda (.tmp 4) 4)⟩, ⟨(some 21), none, (.call ⟨(.value (.func 17)), (List.toArray [(.tmp 19), (.tmp 20)]), (List.toArray [22, 24])⟩ true)⟩, ⟨(some 18), none, (.mov (.tmp 21))⟩, ⟨(some 22), none, (.pur ⟨(some 22), (.extract (.tmp 18) 0), 27, "", (List.toArray []), none⟩)⟩, ⟨(some 23), none, (.pur ⟨(some 23), (.extract (.tmp 18) 1), 28, "", (List.toArray []), none⟩)⟩, ⟨(some 7), none, (.mov (.tmp 22))⟩, ⟨(some 8), none, (.mov (.tmp 23))⟩])
  (.seq (.reg [⟨(some 25), none, (.mov (.tmp 0))⟩, ⟨(some 26), none, (.lda (.tmp 4) 4)⟩, ⟨(some 27), none, (.call ⟨(.value (.func 18)), (List.toArray [(.tmp 25), (.tmp 26)]), (List.toArray [22, 24])⟩ true)⟩, ⟨(some 24), none, (.mov (.tmp 27))⟩, ⟨(some 28), none, (.pur ⟨(some 28), (.extract (.tmp 24) 0), 27, "", (List.toArray []), none⟩)⟩, ⟨(some 29), none, (.pur ⟨(some 29), (.extract (.tmp 24) 1), 28, "", (List.toArray []), none⟩)⟩, ⟨(some 9), none, (.mov (.tmp 28))⟩, ⟨(some 10), none, (.mov (.tmp 29))⟩])
  (.seq (.reg [⟨(some 31), none, (.lda (.tmp 4) 4)⟩, ⟨(some 32), none, (.mov (.tmp 2))⟩, ⟨(some 33), none, (.call ⟨(.value (.func 19)), (List.toArray [(.tmp 31), (.tmp 32)]), (List.toArray [24, 3])⟩ true)⟩, ⟨(some 30), none, (.mov (.tmp 33))⟩, ⟨(some 34), none, (.pur ⟨(some 34), (.extract (.tmp 30) 0), 3, "", (List.toArray []), none⟩)⟩, ⟨(some 35), none, (.pur ⟨(some 35), (.extract (.tmp 30) 1), 28, "", (List.toArray []), none⟩)⟩, ⟨(some 11), none, (.mov (.tmp 34))⟩, ⟨(some 12), none, (.mov (.tmp 35))⟩])
  (.seq (.reg [⟨(some 37), none, (.lda (.tmp 4) 4)⟩, ⟨(some 38), none, (.mov (.tmp 2))⟩, ⟨(some 39), none, (.call ⟨(.value (.func 20)), (List.toArray [(.tmp 37), (.tmp 38)]), (List.toArray [24, 3])⟩ true)⟩, ⟨(some 36), none, (.mov (.tmp 39))⟩, ⟨(some 40), none, (.pur ⟨(some 40), (.extract (.tmp 36) 0), 3, "", (List.toArray []), none⟩)⟩, ⟨(some 41), none, (.pur ⟨(some 41), (.extract (.tmp 36) 1), 28, "", (List.toArray []), none⟩)⟩, ⟨(some 13), none, (.mov (.tmp 40))⟩, ⟨(some 14), none, (.mov (.tmp 41))⟩])
  (.seq (.reg [⟨(some 42), none, (.mov (.tmp 0))⟩, ⟨(some 43), none, (.call ⟨(.value (.func 21)), (List.toArray [(.tmp 42)]), (List.toArray [22])⟩ true)⟩, ⟨(some 44), none, (.mov (.tmp 0))⟩, ⟨(some 45), none, (.call ⟨(.value (.func 22)), (List.toArray [(.tmp 44)]), (List.toArray [22])⟩ true)⟩, ⟨(some 46), none, (.cmpb .eql (.tmp 43) (.tmp 45))⟩, ⟨(some 47), none, (.mov (.tmp 46))⟩, ⟨(some 48), (some (47, true)), (.mov (.tmp 7))⟩, ⟨(some 49), (some (47, true)), (.mov (.tmp 9))⟩, ⟨(some 50), (some (47, true)), (.call ⟨(.value (.func 23)), (List.toArray [(.tmp 48), (.tmp 49)]), (List.toArray [27, 27])⟩ true)⟩, ⟨(some 51), none, (.pur ⟨(some 51), (.pick (.tmp 47) (.tmp 50) (.const (.bool false))), 4, "", (List.toArray []), none⟩)⟩, ⟨(some 52), none, (.mov (.tmp 51))⟩, ⟨(some 53), (some (52, true)), (.mov (.tmp 8))⟩, ⟨(some 54), (some (52, true)), (.mov (.tmp 10))⟩, ⟨(some 55), (some (52, true)), (.cmpb .eql (.tmp 53) (.tmp 54))⟩, ⟨(some 56), none, (.pur ⟨(some 56), (.pick (.tmp 52) (.tmp 55) (.const (.bool false))), 4, "", (List.toArray []), none⟩)⟩, ⟨(some 57), none, (.mov (.tmp 56))⟩, ⟨(some 58), (some (57, true)), (.mov (.tmp 11))⟩, ⟨(some 59), (some (57, true)), (.mov (.tmp 13))⟩, ⟨(some 60), (some (57, true)), (.cmpb .eql (.tmp 58) (.tmp 59))⟩, ⟨(some 61), none, (.pur ⟨(some 61), (.pick (.tmp 57) (.tmp 60) (.const (.bool false))), 4, "", (List.toArray []), none⟩)⟩, ⟨(some 62), none, (.mov (.tmp 61))⟩, ⟨(some 63), (some (62, true)), (.mov (.tmp 12))⟩, ⟨(some 64), (some (62, true)), (.mov (.tmp 14))⟩, ⟨(some 65), (some (62, true)), (.cmpb .eql (.tmp 63) (.tmp 64))⟩, ⟨(some 66), none, (.pur ⟨(some 66), (.pick (.tmp 62) (.tmp 65) (.const (.bool false))), 4, "", (List.toArray []), none⟩)⟩, ⟨(some 67), none, (.mov (.tmp 66))⟩, ⟨(some 68), (some (67, true)), (.call ⟨(.value (.func 16)), (List.toArray []), (List.toArray [])⟩ true)⟩, ⟨(some 69), none, (.pur ⟨(some 69), (.pick (.tmp 67) (.tmp 68) (.const (.bool false))), 4, "", (List.toArray []), none⟩)⟩, ⟨(some 6), none, (.mov (.tmp 69))⟩])
  .ret)))))))
theorem L3 : low Try.prog Try.f3.ntmps (at_ Try.f3 []) = some R3 := by kernel_rfl
theorem N5 : Try.f5.ntmps = 60 := by kernel_rfl
theorem Z5 : Try.f5.results.toList = ((List.toArray [(.tmp 4)]) : Array ResultVar).toList := by kernel_rfl
theorem B5 : Try.f5.body = some (at_ Try.f5 []) := by kernel_rfl
noncomputable def R5 : RC := (.seq (.reg [⟨(some 4), none, (.mov (.const (.bool false)))⟩])
  (.seq (.seq (.reg [⟨(some 13), none, (.mov (.tmp 0))⟩, ⟨(some 14), none, (.len (.tmp 13))⟩, ⟨(some 15), none, (.cmp .gtr (.tmp 14) (.const (.int .i64 20)))⟩])
  (.cond (.tmp 15) (.seq (.reg [⟨(some 16), none, (.call ⟨(.value (.func 16)), (List.toArray []), (List.toArray [])⟩ true)⟩, ⟨(some 4), none, (.mov (.tmp 16))⟩])
  .ret)
  .skip))
  (.seq (.reg [⟨(some 18), none, (.mov (.tmp 0))⟩, ⟨(some 19), none, (.mov (.tmp 1))⟩, ⟨(some 20), none, (.call ⟨(.value (.func 28)), (List.toArray [(.tmp 18), (.tmp 19)]), (List.toArray [47, 3])⟩ true)⟩, ⟨(some 17), none, (.mov (.tmp 20))⟩, ⟨(some 21), none, (.pur ⟨(some 21), (.extract (.tmp 17) 0), 42, "", (List.toArray []), none⟩)⟩, ⟨(some 22), none, (.pur ⟨(some 22), (.extract (.tmp 17) 1), 28, "", (List.toArray []), none⟩)⟩, ⟨(some 5), none, (.mov (.tmp 21))⟩, ⟨(some 6), none, (.mov (.tmp 22))⟩])
  (.seq (.reg [⟨(some 24), none, (.mov (.tmp 0))⟩, ⟨(some 25), none, (.mov (.tmp 1))⟩, ⟨(some 26), none, (.call ⟨(.value (.func 29)), (List.toArray [(.tmp 24), (.tmp 25)]), (List.toArray [47, 3])⟩ true)⟩, ⟨(some 23), none, (.mov (.tmp 26))⟩, ⟨(some 27), none, (.pur ⟨(some 27), (.extract (.tmp 23) 0), 42, "", (List.toArray []), none⟩)⟩, ⟨(some 28), none, (.pur ⟨(some 28), (.extract (.tmp 23) 1), 28, "", (List.toArray []), none⟩)⟩, ⟨(some 7), none, (.mov (.tmp 27))⟩, ⟨(some 8), none, (.mov (.tmp 28))⟩])
  (.seq (.reg [⟨(some 30), none, (.mov (.tmp 0))⟩, ⟨(some 31), none, (.call ⟨(.value (.func 30)), (List.toArray [(.tmp 30)]), (List.toArray [47])⟩ true)⟩, ⟨(some 29), none, (.mov (.tmp 31))⟩, ⟨(some 32), none, (.pur ⟨(some 32), (.extract (.tmp 29) 0), 3, "", (List.toArray []), none⟩)⟩, ⟨(some 33), none, (.pur ⟨(some 33), (.extract (.tmp 29) 1), 28, "", (List.toArray []), none⟩)⟩, ⟨(some 9), none, (.mov (.tmp 32))⟩, ⟨(some 10), none, (.mov (.tmp 33))⟩])
  (.seq (.reg [⟨(some 35), none, (.mov (.tmp 0))⟩, ⟨(some 36), none, (.call ⟨(.value (.func 31)), (List.toArray [(.tmp 35)]), (List.toArray [47])⟩ true)⟩, ⟨(some 34), none, (.mov (.tmp 36))⟩, ⟨(some 37), none, (.pur ⟨(some 37), (.extract (.tmp 34) 0), 3, "", (List.toArray []), none⟩)⟩, ⟨(some 38), none, (.pur ⟨(some 38), (.extract (.tmp 34) 1), 28, "", (List.toArray []), none⟩)⟩, ⟨(some 11), none, (.mov (.tmp 37))⟩, ⟨(some 12), none, (.mov (.tmp 38))⟩])
  (.seq (.reg [⟨(some 39), none, (.mov (.tmp 5))⟩, ⟨(some 40), none, (.mov (.tmp 7))⟩, ⟨(some 41), none, (.call ⟨(.value (.func 27)), (List.toArray [(.tmp 39), (.tmp 40)]), (List.toArray [42, 42])⟩ true)⟩, ⟨(some 42), none, (.mov (.tmp 41))⟩, ⟨(some 43), (some (42, true)), (.mov (.tmp 6))⟩, ⟨(some 44), (some (42, true)), (.mov (.tmp 8))⟩, ⟨(some 45), (some (42, true)), (.cmpb .eql (.tmp 43) (.tmp 44))⟩, ⟨(some 46), none, (.pur ⟨(some 46), (.pick (.tmp 42) (.tmp 45) (.const (.bool false))), 4, "", (List.toArray []), none⟩)⟩, ⟨(some 47), none, (.mov (.tmp 46))⟩, ⟨(some 48), (some (47, true)), (.mov (.tmp 9))⟩, ⟨(some 49), (some (47, true)), (.mov (.tmp 11))⟩, ⟨(some 50), (some (47, true)), (.cmpb .eql (.tmp 48) (.tmp 49))⟩, ⟨(some 51), none, (.pur ⟨(some 51), (.pick (.tmp 47) (.tmp 50) (.const (.bool false))), 4, "", (List.toArray []), none⟩)⟩, ⟨(some 52), none, (.mov (.tmp 51))⟩, ⟨(some 53), (some (52, true)), (.mov (.tmp 10))⟩, ⟨(some 54), (some (52, true)), (.mov (.tmp 12))⟩, ⟨(some 55), (some (52, true)), (.cmpb .eql (.tmp 53) (.tmp 54))⟩, ⟨(some 56), none, (.pur ⟨(some 56), (.pick (.tmp 52) (.tmp 55) (.const (.bool false))), 4, "", (List.toArray []), none⟩)⟩, ⟨(some 57), none, (.mov (.tmp 56))⟩, ⟨(some 58), (some (57, true)), (.call ⟨(.value (.func 16)), (List.toArray []), (List.toArray [])⟩ true)⟩, ⟨(some 59), none, (.pur ⟨(some 59), (.pick (.tmp 57) (.tmp 58) (.const (.bool false))), 4, "", (List.toArray []), none⟩)⟩, ⟨(some 4), none, (.mov (.tmp 59))⟩])
  .ret)))))))
theorem L5 : low Try.prog Try.f5.ntmps (at_ Try.f5 []) = some R5 := by kernel_rfl
end Go.Ax

/-
  Plant: Evaporate, and the law PlantStrong, whatever the input (written by program).
-/
namespace Go.Ax
open Go Go.RowKit Go.Proofs

section
variable {kn : FuncId → Option Bool} {lo : Nat} {H : Hp}
end
end Go.Ax

/-
  Plant: machines, streams: where they lie (written by program).
-/
namespace Go.Ax
open Go Go.RowKit

/-- a block of outlets: given, of a literal, or made by append -/
def Fy (H : Hp) (b : Nat) (cs : List Value) : Prop := b < H.next ∧ (H.t.get b = some (.ro cs) ∨ (∃ e, H.t.get b = some (.cells cs e false)) ∨ H.t.get b = some (.cells cs 59 true))
theorem Fy.rd {H : Hp} {b : Nat} {cs : List Value} (h : Fy H b cs) : Rd H b cs := by
  obtain ⟨h1, h2 | ⟨e, h2⟩ | h2⟩ := h <;> exact ⟨h1, by unfold cellsOf; rw [h2]⟩
theorem Fy.lt {H : Hp} {b : Nat} {cs : List Value} (h : Fy H b cs) : b < H.next := h.1
theorem Keep.fy {H H1 : Hp} {l : List Nat} (k : Keep H H1 l) {b : Nat} {cs : List Value} (h : Fy H b cs) (hl : b ∉ l) : Fy H1 b cs :=
  ⟨Nat.lt_of_lt_of_le h.1 k.1, by rw [k.2 b h.1 hl]; exact h.2⟩
theorem KeepB.fy {f : Nat} {H H1 : Hp} (k : KeepB f H H1) {b : Nat} {cs : List Value} (h : Fy H b cs) (hl : b < f) : Fy H1 b cs :=
  ⟨Nat.lt_of_lt_of_le h.1 k.1, by rw [k.2 b hl]; exact h.2⟩
/-- A machine: its outlets. -/
structure Mc where
  ra : Option Addr
  n : Nat
  cap : Nat
  l : List Ou
def Mc.z : Mc := ⟨none, 0, 0, []⟩
abbrev Mc.f (r : Mc) : List Value := [.slice r.ra r.n r.cap]
/-- lots -/
structure Fz where
  rd : Int
  du : Int
  ms : Int
abbrev Fz.f (x : Fz) : List Value := [iv x.rd, iv x.du, iv x.ms]
def Fz.z : Fz := ⟨0, 0, 0⟩
def fzc (l : List Fz) : List Value := l.flatMap Fz.f
theorem fzc_row {l : List Fz} {i : Nat} {x : Fz} (h : l[i]? = some x) : row 3 (fzc l) (0 + i * 3) = some x.f := row_flat (f := Fz.f) (size := 3) (fun _ _ => rfl) h
theorem fzc_at {l : List Fz} {i j : Nat} {x : Fz} {v : Value} (h : l[i]? = some x) (hj : x.f[j]? = some v) : (fzc l)[0 + i * 3 + j]? = some v := row_get (fzc_row h) hj
/-- tanks -/
structure Tn where
  un : Int
  su : Int
  ac : Int
  co : Int
  pr : Int
abbrev Tn.f (x : Tn) : List Value := [iv x.un, iv x.su, iv x.ac, iv x.co, iv x.pr]
def Tn.z : Tn := ⟨0, 0, 0, 0, 0⟩
/-- where machines lie; the list may begin inside of its block -/
structure Mcs (H : Hp) (f : Nat) (sa : Option Addr) (n cap : Nat) (rs : List Mc) : Prop where
  r : ((sa = none ∨ sa = some ⟨0, 0, some 0⟩) ∧ n = 0 ∧ cap = 0) ∨ ∃ b o cs, sa = some ⟨b, o, none⟩ ∧ Rd H b cs ∧ b < f ∧ n ≤ cap ∧ ∀ i r, rs[i]? = some r → cs[o + i * 1]? = some (.slice r.ra r.n r.cap)
  rl : rs.length = n
  ri : ∀ r ∈ rs, Sl H r.ra r.n r.cap (ouc r.l) ∧ r.l.length = r.n ∧ ∀ x, r.ra = some ⟨x, 0, none⟩ → x < f ∧ Fy H x (ouc r.l)
theorem Mcs.keep {H H1 : Hp} {f : Nat} {sa : Option Addr} {n cap : Nat} {rs : List Mc} {W : List Nat} (h : Mcs H f sa n cap rs) (k : Keep H H1 W) (hw : ∀ x ∈ W, f ≤ x) : Mcs H1 f sa n cap rs where
  r := h.r.imp id fun ⟨b, o, cs, e, r, hb, hn, hc⟩ => ⟨b, o, cs, e, k.rd r (fun q => by have := hw b q; omega), hb, hn, hc⟩
  rl := h.rl
  ri := fun b hb => by
    obtain ⟨h1, h2, h3⟩ := h.ri b hb
    exact ⟨k.sl h1 fun x e q => by have := (h3 x e).1; have := hw x q; omega, h2, fun x e => ⟨(h3 x e).1, k.fy (h3 x e).2 (fun q => by have := (h3 x e).1; have := hw x q; omega)⟩⟩
end Go.Ax

/-
  Plant: which lists of machines are plants (written by program).
-/
namespace Go.Ax
open Go Go.RowKit Go.Proofs

section
variable {kn : FuncId → Option Bool} {lo : Nat} {H : Hp}
end
end Go.Ax

/-
  Plant: validPlant, Check, and what the document says of them (written by program).
-/
namespace Go.Ax
open Go Go.RowKit Go.Proofs

section
variable {kn : FuncId → Option Bool} {lo : Nat} {H : Hp}
end
end Go.Ax

/-
  Plant: rows of four numbers, side by side in a block (written by program).
-/
namespace Go.Ax
open Go Go.RowKit

theorem MOk.at {l : List Ou} {i n : Nat} (h : MOk l i n) {k : Nat} {y : Ou} (hy : l[k]? = some y) : ((-16 ≤ y.to ∧ y.to < 0) ∨ ((i : Int) < y.to ∧ y.to < n)) ∧ ∀ j, j < 4 → 0 ≤ y.w j ∧ y.w j ≤ 1000 := by
  have e : l.getD k Ou.z = y := by rw [List.getD_eq_getElem?_getD, hy]; rfl
  have := h.o k (get_lt hy)
  rw [e] at this; exact this
end Go.Ax

/-
  Plant: the program's Run (written by program).
-/
namespace Go.Ax
open Go Go.RowKit Go.Proofs

theorem heap_makeR {P : Program} {lo n : Nat} {S : Rg} {H : Hp} {d : Option Tmp} {t e ty : TypeId} {x y : Operand} {p : String} {a m size : Nat} {z : Value} {i : TypeInfo} (he : sliceElem P t = some (e, size)) (hz : zeroOf P e = some z) (hi : P.info? e = some i) (hb : i.bytes ≤ 1000) (hx : evS S x = some (iv (a : Int))) (hy : evS S y = some (iv (m : Int))) (ham : a ≤ m) (hm : m ≤ 1000) :
    heapOp P lo (frS n S) H ⟨d, .makeSlice t x y, ty, p, #[], none⟩ = some (.val (.slice (some ⟨H.next, 0, none⟩) a m) (H.new (.cells (zeros z.cells.toList m) e false)), .heavy) := by
  have h1 : Nat.ble (i.bytes * m) 1099511627776 = true := Nat.ble_eq_true_of_le (Nat.le_trans (Nat.mul_le_mul hb hm) (by decide))
  unfold heapOp
  simp only [ev_frS, hx, hy, he, hz, hi, show ((m : Nat) : Int) = Int.ofNat m from rfl, show ((a : Nat) : Int) = Int.ofNat a from rfl, Nat.ble_eq_true_of_le ham, h1, Nat.ble_eq_true_of_le (show m ≤ 1048576 by omega), Bool.and_true, cond_true]
section
variable {kn : FuncId → Option Bool} {lo : Nat} {H : Hp}
end
end Go.Ax

/-
  Plant: the mathematics of freezing in the order of what is due (no program here) (written by program).
-/
namespace Go.Ax
open Go Go.RowKit

theorem sm_sub (f g : Nat → Int) : ∀ n : Nat, sm (fun i => f i - g i) n = sm f n - sm g n
  | 0 => rfl
  | n + 1 => by
    show sm (fun i => f i - g i) n + (f n - g n) = sm f n + f n - (sm g n + g n)
    rw [sm_sub f g n]; omega
def upd (f : Nat → Int) (m : Nat) (x : Int) : Nat → Int := fun i => if i = m then x else f i
/-- what a lot gets of the room -/
def gt (rd : Nat → Int) (h : Int) (s : (Nat → Int) × Int) (x : Nat) : Int := if rd x ≤ h then min s.2 (s.1 x) else 0
/-- an hour: the lots in the order L -/
def hst (L : Nat → Nat) (rd : Nat → Int) (h R : Int) (left : Nat → Int) : Nat → (Nat → Int) × Int
  | 0 => (left, R)
  | k + 1 => (upd (hst L rd h R left k).1 (L k) ((hst L rd h R left k).1 (L k) - gt rd h (hst L rd h R left k) (L k)), (hst L rd h R left k).2 - gt rd h (hst L rd h R left k) (L k))
structure Hr (n : Nat) (a : Nat → Int) (h R : Int) (l l' : Nat → Int) : Prop where
  nn : ∀ p, p < n → 0 ≤ l' p ∧ l' p ≤ l p
  nr : ∀ p, p < n → h < a p → l' p = l p
  le : ∀ k, k ≤ n → sm (fun p => l p - l' p) k ≤ R
  fu : ∀ k, k ≤ n → sm (fun p => l p - l' p) k = R ∨ ∀ p, p < k → a p ≤ h → l' p = 0
section
variable {L : Nat → Nat} {rd left : Nat → Int} {h R : Int} {n : Nat}
theorem hst_stab (hi : ∀ p q, p < n → q < n → L p = L q → p = q) {k : Nat} : ∀ d, k + d ≤ n → ∀ p, p < k → (hst L rd h R left (k + d)).1 (L p) = (hst L rd h R left k).1 (L p)
  | 0, _, _, _ => rfl
  | d + 1, hd, p, hp => by
    show upd _ (L (k + d)) _ (L p) = _
    unfold upd
    rw [if_neg (fun e => by have := hi _ _ (by omega) (by omega) e; omega)]
    exact hst_stab hi d (by omega) p hp
theorem hst_all (hi : ∀ p q, p < n → q < n → L p = L q → p = q) (hl : ∀ p, p < n → 0 ≤ left (L p)) (hR : 0 ≤ R) : ∀ k, k ≤ n →
    (∀ p, p < n → k ≤ p → (hst L rd h R left k).1 (L p) = left (L p)) ∧ (∀ p, p < n → 0 ≤ (hst L rd h R left k).1 (L p) ∧ (hst L rd h R left k).1 (L p) ≤ left (L p)) ∧
    (∀ p, p < n → h < rd (L p) → (hst L rd h R left k).1 (L p) = left (L p)) ∧ 0 ≤ (hst L rd h R left k).2 ∧ (hst L rd h R left k).2 = R - sm (fun p => left (L p) - (hst L rd h R left k).1 (L p)) k ∧
    ((hst L rd h R left k).2 = 0 ∨ ∀ p, p < k → rd (L p) ≤ h → (hst L rd h R left k).1 (L p) = 0)
  | 0, _ => ⟨fun _ _ _ => rfl, fun p hp => ⟨hl p hp, Int.le_refl _⟩, fun _ _ _ => rfl, hR, by show R = R - 0; omega, .inr fun p hp => absurd hp (by omega)⟩
  | k + 1, hk => by
    obtain ⟨a1, a2, a3, a4, a5, a6⟩ := hst_all hi hl hR k (by omega)
    have st := hst_stab (rd := rd) (left := left) (h := h) (R := R) hi (k := k) 1 (by omega)
    have b1 := a2 k (by omega)
    have e1 := a1 k (by omega) (Nat.le_refl _)
    have g0 : 0 ≤ gt rd h (hst L rd h R left k) (L k) ∧ gt rd h (hst L rd h R left k) (L k) ≤ (hst L rd h R left k).2 ∧ gt rd h (hst L rd h R left k) (L k) ≤ (hst L rd h R left k).1 (L k) ∧ (h < rd (L k) → gt rd h (hst L rd h R left k) (L k) = 0) ∧ (rd (L k) ≤ h → gt rd h (hst L rd h R left k) (L k) = (hst L rd h R left k).2 ∨ gt rd h (hst L rd h R left k) (L k) = (hst L rd h R left k).1 (L k)) := by
      unfold gt; split <;> omega
    have other : ∀ p, p < n → p ≠ k → (hst L rd h R left (k + 1)).1 (L p) = (hst L rd h R left k).1 (L p) := fun p hp e => by
      show upd _ (L k) _ (L p) = _
      unfold upd; rw [if_neg (fun q => e (hi _ _ hp (by omega) q))]
    have own : (hst L rd h R left (k + 1)).1 (L k) = (hst L rd h R left k).1 (L k) - gt rd h (hst L rd h R left k) (L k) := by
      show upd _ (L k) _ (L k) = _
      unfold upd; rw [if_pos rfl]
    have room : (hst L rd h R left (k + 1)).2 = (hst L rd h R left k).2 - gt rd h (hst L rd h R left k) (L k) := rfl
    refine ⟨fun p hp hkp => ?_, fun p hp => ?_, fun p hp hq => ?_, by omega, ?_, ?_⟩
    · rw [other p hp (by omega)]; exact a1 p hp (by omega)
    · by_cases e : p = k
      · subst e; rw [own]; omega
      · rw [other p hp e]; exact a2 p hp
    · by_cases e : p = k
      · subst e; rw [own, g0.2.2.2.1 hq]; omega
      · rw [other p hp e]; exact a3 p hp hq
    · rw [room, a5]
      show _ = R - (sm (fun p => left (L p) - (hst L rd h R left (k + 1)).1 (L p)) k + (left (L k) - (hst L rd h R left (k + 1)).1 (L k)))
      have e1 : sm (fun p => left (L p) - (hst L rd h R left (k + 1)).1 (L p)) k = sm (fun p => left (L p) - (hst L rd h R left k).1 (L p)) k := sm_congr fun p hp => by rw [other p (by omega) (by omega)]
      rw [e1, own]
      omega
    · by_cases e0 : (hst L rd h R left (k + 1)).2 = 0
      · exact .inl e0
      · right
        intro p hp hq
        rcases a6 with q | q
        · exfalso; omega
        · by_cases e : p = k
          · subst e; rw [own]; rcases g0.2.2.2.2 hq with z | z <;> omega
          · rw [other p (by omega) e]; exact q p (by omega) hq
theorem hst_hr (hi : ∀ p q, p < n → q < n → L p = L q → p = q) (hl : ∀ p, p < n → 0 ≤ left (L p)) (hR : 0 ≤ R) : Hr n (fun p => rd (L p)) h R (fun p => left (L p)) (fun p => (hst L rd h R left n).1 (L p)) := by
  obtain ⟨_, b2, b3, _, _, _⟩ := hst_all (rd := rd) (h := h) hi hl hR n (Nat.le_refl _)
  have st : ∀ k, k ≤ n → ∀ p, p < k → (hst L rd h R left n).1 (L p) = (hst L rd h R left k).1 (L p) := fun k hk p hp => by
    have := hst_stab (rd := rd) (left := left) (h := h) (R := R) hi (k := k) (n - k) (by omega) p hp
    rwa [show k + (n - k) = n by omega] at this
  refine ⟨b2, b3, fun k hk => ?_, fun k hk => ?_⟩
  · obtain ⟨_, _, _, a4, a5, _⟩ := hst_all (rd := rd) (h := h) hi hl hR k hk
    rw [sm_congr (g := fun p => left (L p) - (hst L rd h R left k).1 (L p)) (n := k) (fun p hp => by rw [st k hk p hp])]
    omega
  · obtain ⟨_, _, _, a4, a5, a6⟩ := hst_all (rd := rd) (h := h) hi hl hR k hk
    rw [sm_congr (g := fun p => left (L p) - (hst L rd h R left k).1 (L p)) (n := k) (fun p hp => by rw [st k hk p hp])]
    rcases a6 with q | q
    · left; omega
    · exact .inr fun p hp hq => by rw [st k hk p hp]; exact q p hp hq
end
/-- many hours, the lots by their place in the order -/
structure Sim (n : Nat) (a m : Nat → Int) (R : Int) (l : Nat → Nat → Int) : Prop where
  z : ∀ p, p < n → l 0 p = m p
  h : ∀ t : Nat, Hr n a t R (l t) (l (t + 1))
  mp : ∀ p, p < n → 0 ≤ m p
  a0 : ∀ p, p < n → 0 ≤ a p
  r0 : 0 ≤ R
namespace Sim
variable {n : Nat} {a m : Nat → Int} {R : Int} {l : Nat → Nat → Int} (S : Sim n a m R l)
include S
theorem nn (t : Nat) {p : Nat} (hp : p < n) : 0 ≤ l t p := by
  cases t with
  | zero => rw [S.z p hp]; exact S.mp p hp
  | succ t => exact ((S.h t).nn p hp).1
theorem anti {p : Nat} (hp : p < n) (t : Nat) : ∀ j, l (t + j) p ≤ l t p
  | 0 => Int.le_refl _
  | j + 1 => Int.le_trans ((S.h (t + j)).nn p hp).2 (anti hp t j)
theorem zero {p : Nat} (hp : p < n) {t u : Nat} (h : t ≤ u) (hz : l t p = 0) : l u p = 0 := by
  have := S.anti hp t (u - t); rw [show t + (u - t) = u by omega] at this
  have := S.nn u hp; omega
theorem un {p : Nat} (hp : p < n) : ∀ t : Nat, (t : Int) ≤ a p → l t p = m p
  | 0, _ => S.z p hp
  | t + 1, h => by rw [(S.h t).nr p hp (by omega)]; exact un hp t (by omega)
theorem drop (c : Nat → Bool) {k : Nat} (hk : k ≤ n) (t : Nat) : ∀ j : Nat, sm (fun p => if c p then l t p else 0) k ≤ sm (fun p => if c p then l (t + j) p else 0) k + R * j
  | 0 => by
    have : R * ((0 : Nat) : Int) = 0 := by simp
    rw [this]; exact Int.le_of_eq (by simp)
  | j + 1 => by
    have ih := drop c hk t j
    have e : R * ((j + 1 : Nat) : Int) = R * j + R := by rw [Int.natCast_add, Int.mul_add]; simp
    have le := (S.h (t + j)).le k hk
    have : sm (fun p => if c p then l (t + j) p else 0) k - sm (fun p => if c p then l (t + (j + 1)) p else 0) k ≤ sm (fun p => l (t + j) p - l (t + j + 1) p) k := by
      rw [← sm_sub]
      refine sm_le fun p hp => ?_
      have := ((S.h (t + j)).nn p (by omega)).2
      show (if c p then l (t + j) p else 0) - (if c p then l (t + (j + 1)) p else 0) ≤ l (t + j) p - l (t + j + 1) p
      rw [show t + (j + 1) = t + j + 1 by omega]
      split <;> omega
    omega
/-- what is there from t to T -/
abbrev wn (a : Nat → Int) (f : Nat → Int) (t T : Nat) (k : Nat) : Int := sm (fun p => if (t : Int) ≤ a p ∧ a p ≤ T then f p else 0) k
theorem fwd {k : Nat} (hk : k ≤ n) {T : Nat} (hc : ∀ p, p < k → a p ≤ T → l (T + 1) p = 0) {t : Nat} (ht : t ≤ T) : wn a m t T k ≤ R * ((T : Int) + 1 - t) := by
  have d := S.drop (fun p => decide ((t : Int) ≤ a p ∧ a p ≤ T)) hk t (T + 1 - t)
  rw [show t + (T + 1 - t) = T + 1 by omega, show ((T + 1 - t : Nat) : Int) = (T : Int) + 1 - t by omega] at d
  have e1 : sm (fun p => if decide ((t : Int) ≤ a p ∧ a p ≤ T) = true then l (T + 1) p else 0) k = 0 := sm_zero fun p hp => by
    split
    · rename_i q; simp only [decide_eq_true_eq] at q; exact hc p hp q.2
    · rfl
  have e2 : sm (fun p => if decide ((t : Int) ≤ a p ∧ a p ≤ T) = true then l t p else 0) k = wn a m t T k := sm_congr fun p hp => by
    simp only [decide_eq_true_eq]
    split
    · rename_i q; exact S.un (by omega) t q.1
    · rfl
  rw [e1, e2] at d; omega
theorem bwd {k : Nat} (hk : k ≤ n) : ∀ T : Nat, (∃ p, p < k ∧ a p ≤ T ∧ l (T + 1) p ≠ 0) → ∃ t : Nat, t ≤ T ∧ R * ((T : Int) + 1 - t) + wn a (l (T + 1)) t T k ≤ wn a m t T k ∧ ∀ p, p < k → a p < t → l (T + 1) p = 0
  | T, ⟨p0, hp0, ha0, hl0⟩ => by
    have full : sm (fun p => l T p - l (T + 1) p) k = R := by
      rcases (S.h T).fu k hk with q | q
      · exact q
      · exact absurd (q p0 hp0 ha0) hl0
    by_cases hc : ∀ p, p < k → a p < T → l T p = 0
    · refine ⟨T, Nat.le_refl _, ?_, fun p hp hq => S.zero (by omega) (Nat.le_succ T) (hc p hp hq)⟩
      rw [show (T : Int) + 1 - T = 1 by omega, Int.mul_one]
      have : wn a m T T k - wn a (l (T + 1)) T T k = sm (fun p => l T p - l (T + 1) p) k := by
        unfold wn
        rw [← sm_sub]
        refine sm_congr fun p hp => ?_
        by_cases q : (T : Int) ≤ a p ∧ a p ≤ T
        · rw [if_pos q, if_pos q, S.un (by omega) T q.1]
        · rw [if_neg q, if_neg q]
          by_cases q2 : a p < T
          · rw [hc p hp q2, S.zero (by omega) (Nat.le_succ T) (hc p hp q2)]
          · rw [(S.h T).nr p (by omega) (by omega)]; omega
      omega
    · have hex : ∃ p, p < k ∧ a p < T ∧ l T p ≠ 0 := by
        refine Classical.byContradiction fun q => hc fun p hp hq => ?_
        exact Classical.byContradiction fun z => q ⟨p, hp, hq, z⟩
      obtain ⟨p1, hp1, ha1, hl1⟩ := hex
      match T, ha0, hl0, full, ha1, hl1 with
      | 0, _, _, _, ha1, _ => exact absurd ha1 (by have := S.a0 p1 (by omega); omega)
      | T + 1, ha0, hl0, full, ha1, hl1 =>
        obtain ⟨t, ht, hs, hz⟩ := bwd hk T ⟨p1, hp1, by omega, hl1⟩
        refine ⟨t, by omega, ?_, fun p hp hq => S.zero (by omega) (Nat.le_succ _) (hz p hp hq)⟩
        have e : R * (((T + 1 : Nat) : Int) + 1 - t) = R * ((T : Int) + 1 - t) + R := by
          rw [show ((T + 1 : Nat) : Int) + 1 - t = (T : Int) + 1 - t + 1 by omega, Int.mul_add, Int.mul_one]
        have : wn a m t (T + 1) k - wn a (l (T + 1 + 1)) t (T + 1) k = (wn a m t T k - wn a (l (T + 1)) t T k) + sm (fun p => l (T + 1) p - l (T + 1 + 1) p) k := by
          unfold wn
          rw [← sm_sub, ← sm_sub, ← sm_add]
          refine sm_congr fun p hp => ?_
          have u := fun q => S.un (p := p) (by omega) (T + 1) q
          have v := fun q => (S.h (T + 1)).nr p (by omega) q
          have z1 := hz p hp
          have z2 := fun q => S.zero (p := p) (by omega) (Nat.le_succ (T + 1)) (hz p hp q)
          by_cases c1 : (t : Int) ≤ a p
          · by_cases c2 : a p ≤ T
            · rw [if_pos ⟨c1, by omega⟩, if_pos ⟨c1, by omega⟩, if_pos ⟨c1, c2⟩, if_pos ⟨c1, c2⟩]; omega
            · by_cases c3 : a p ≤ ((T + 1 : Nat) : Int)
              · rw [if_pos ⟨c1, c3⟩, if_pos ⟨c1, c3⟩, if_neg (by omega), if_neg (by omega), u (by omega)]; omega
              · rw [if_neg (by omega), if_neg (by omega), if_neg (by omega), if_neg (by omega), v (by omega)]; omega
          · rw [if_neg (by omega), if_neg (by omega), if_neg (by omega), if_neg (by omega), z1 (by omega), z2 (by omega)]; rfl
        omega
theorem more {k : Nat} (hk : k ≤ n) {T : Nat} (h : ∃ p, p < k ∧ a p ≤ T ∧ l (T + 1) p ≠ 0) : ∃ t : Nat, t ≤ T ∧ R * ((T : Int) + 1 - t) < wn a m t T k := by
  obtain ⟨t, ht, hs, hz⟩ := S.bwd hk T h
  obtain ⟨p, hp, ha, hl⟩ := h
  refine ⟨t, ht, ?_⟩
  have c1 : (t : Int) ≤ a p := Classical.byContradiction fun q => hl (hz p hp (by omega))
  have nn : ∀ q, q < k → 0 ≤ (if (t : Int) ≤ a q ∧ a q ≤ T then l (T + 1) q else 0) := fun q hq => by
    split
    · exact S.nn _ (by omega)
    · exact Int.le_refl _
  have := sm_term (t := p) nn hp
  simp only [if_pos (And.intro c1 ha)] at this
  have := S.nn (T + 1) (p := p) (by omega)
  show _ < sm _ k
  unfold wn at hs
  omega
/-- all of the first k that are there are done behind the hour T, just if there is room for them -/
theorem clear {k : Nat} (hk : k ≤ n) (T : Nat) : (∀ p, p < k → a p ≤ T → l (T + 1) p = 0) ↔ ∀ t : Nat, t ≤ T → wn a m t T k ≤ R * ((T : Int) + 1 - t) := by
  constructor
  · exact fun h t ht => S.fwd hk h ht
  · intro h p hp ha
    refine Classical.byContradiction fun q => ?_
    obtain ⟨t, ht, hs⟩ := S.more hk ⟨p, hp, ha, q⟩
    have := h t ht; omega
/-- what has to be frozen between two hours -/
abbrev bt (a d m : Nat → Int) (A D : Int) (n : Nat) : Int := sm (fun p => if A ≤ a p ∧ d p ≤ D then m p else 0) n
/-- in time just if there is room between each two hours -/
theorem inTime {d : Nat → Int} (hd : ∀ p q, p ≤ q → q < n → d p ≤ d q) (had : ∀ p, p < n → a p ≤ d p) : (∃ p, p < n ∧ l (d p).toNat p ≠ 0) ↔ ∃ i j, i < n ∧ j < n ∧ R * max 0 (d j - a i) < bt a d m (a i) (d j) n := by
  have mnn : ∀ A D : Int, ∀ q, q < n → 0 ≤ (if A ≤ a q ∧ d q ≤ D then m q else 0) := fun A D q hq => by
    split
    · exact S.mp q hq
    · exact Int.le_refl _
  have own : ∀ p, p < n → l (d p).toNat p ≠ 0 → d p = a p → ∃ i j, i < n ∧ j < n ∧ R * max 0 (d j - a i) < bt a d m (a i) (d j) n := by
    intro p hp hl e
    refine ⟨p, p, hp, hp, ?_⟩
    have a1 := S.a0 p hp
    have u := S.un hp (d p).toNat (by omega)
    have := sm_term (mnn (a p) (d p)) hp
    simp only [if_pos (And.intro (Int.le_refl (a p)) (Int.le_refl (d p)))] at this
    have e0 : max 0 (d p - a p) = 0 := by omega
    rw [e0, Int.mul_zero]
    have := S.mp p hp
    show 0 < sm _ n
    omega
  constructor
  · rintro ⟨p, hp, hl⟩
    have a1 := S.a0 p hp
    have a2 := had p hp
    by_cases e : d p = a p
    · exact own p hp hl e
    · have hk : ∃ k, p < k ∧ k ≤ n ∧ ∀ q, q < n → (q < k ↔ d q ≤ d p) := by
        have key : ∀ c, p < c → c ≤ n → ∃ k, p < k ∧ k ≤ c ∧ ∀ q, q < c → (q < k ↔ d q ≤ d p) := by
          intro c
          induction c with
          | zero => intro h _; omega
          | succ c ih =>
            intro hc hcn
            by_cases e : p = c
            · subst e
              exact ⟨p + 1, by omega, by omega, fun q hq => ⟨fun _ => hd q p (by omega) hp, fun _ => hq⟩⟩
            · obtain ⟨k, k1, k2, k3⟩ := ih (by omega) (by omega)
              by_cases f : d c ≤ d p
              · refine ⟨c + 1, by omega, by omega, fun q hq => ⟨fun _ => Int.le_trans (hd q c (by omega) (by omega)) f, fun _ => hq⟩⟩
              · refine ⟨k, k1, by omega, fun q hq => ?_⟩
                by_cases g : q = c
                · subst g; constructor
                  · intro; omega
                  · intro; omega
                · exact k3 q (by omega)
        exact key n hp (Nat.le_refl _)
      obtain ⟨k, k1, k2, k3⟩ := hk
      obtain ⟨T, hT⟩ : ∃ T : Nat, d p = (T : Int) + 1 := ⟨(d p - 1).toNat, by omega⟩
      rw [hT, show ((T : Int) + 1).toNat = T + 1 by omega] at hl
      obtain ⟨t, ht, hs⟩ := S.more k2 (T := T) ⟨p, k1, by omega, hl⟩
      -- the least Ready of those
      have hmin : ∀ c, c ≤ k → (∀ q, q < c → ¬ ((t : Int) ≤ a q ∧ a q ≤ T)) ∨ ∃ i, i < c ∧ ((t : Int) ≤ a i ∧ a i ≤ T) ∧ ∀ q, q < c → ((t : Int) ≤ a q ∧ a q ≤ T) → a i ≤ a q := by
        intro c
        induction c with
        | zero => intro _; exact .inl fun q hq => absurd hq (by omega)
        | succ c ih =>
          intro hc
          rcases ih (by omega) with h | ⟨i, i1, i2, i3⟩
          · by_cases f : (t : Int) ≤ a c ∧ a c ≤ T
            · refine .inr ⟨c, by omega, f, fun q hq hw => ?_⟩
              by_cases g : q = c
              · subst g; exact Int.le_refl _
              · exact absurd hw (h q (by omega))
            · refine .inl fun q hq => ?_
              by_cases g : q = c
              · subst g; exact f
              · exact h q (by omega)
          · by_cases f : ((t : Int) ≤ a c ∧ a c ≤ T) ∧ a c < a i
            · refine .inr ⟨c, by omega, f.1, fun q hq hw => ?_⟩
              by_cases g : q = c
              · subst g; exact Int.le_refl _
              · have := i3 q (by omega) hw; omega
            · refine .inr ⟨i, by omega, i2, fun q hq hw => ?_⟩
              by_cases g : q = c
              · subst g; omega
              · exact i3 q (by omega) hw
      rcases hmin k (Nat.le_refl _) with h | ⟨i, i1, i2, i3⟩
      · exfalso
        have : wn a m t T k = 0 := sm_zero fun q hq => if_neg (h q hq)
        have : 0 ≤ R * ((T : Int) + 1 - t) := Int.mul_nonneg S.r0 (by omega)
        omega
      · refine ⟨i, p, by omega, hp, ?_⟩
        have c1 : R * max 0 (d p - a i) ≤ R * ((T : Int) + 1 - t) := Int.mul_le_mul_of_nonneg_left (by omega) S.r0
        have c2 : wn a m t T k ≤ bt a d m (a i) (d p) k := sm_le fun q hq => by
          by_cases f : (t : Int) ≤ a q ∧ a q ≤ T
          · rw [if_pos f, if_pos ⟨i3 q hq f, (k3 q (by omega)).1 hq⟩]; exact Int.le_refl _
          · rw [if_neg f]; exact mnn _ _ q (by omega)
        have c3 : ∀ e, k + e ≤ n → bt a d m (a i) (d p) k ≤ bt a d m (a i) (d p) (k + e) := by
          intro e
          induction e with
          | zero => intro _; exact Int.le_refl _
          | succ e ih =>
            intro he
            exact Int.le_trans (ih (by omega)) (Int.le_add_of_nonneg_right (mnn (a i) (d p) (k + e) (by omega)))
        have c4 := c3 (n - k) (by omega)
        rw [show k + (n - k) = n by omega] at c4
        omega
  · rintro ⟨i, j, hi, hj, hs⟩
    refine Classical.byContradiction fun q => ?_
    have hz : ∀ p, p < n → l (d p).toNat p = 0 := fun p hp => Classical.byContradiction fun z => q ⟨p, hp, z⟩
    have a1 := S.a0 i hi
    by_cases e : a i < d j
    · have dr := S.drop (fun p => decide (a i ≤ a p ∧ d p ≤ d j)) (Nat.le_refl n) (a i).toNat ((d j).toNat - (a i).toNat)
      rw [show (a i).toNat + ((d j).toNat - (a i).toNat) = (d j).toNat by omega, show (((d j).toNat - (a i).toNat : Nat) : Int) = max 0 (d j - a i) by omega] at dr
      have e1 : sm (fun p => if decide (a i ≤ a p ∧ d p ≤ d j) = true then l (d j).toNat p else 0) n = 0 := sm_zero fun p hp => by
        split
        · rename_i w; simp only [decide_eq_true_eq] at w
          exact S.zero hp (by omega) (hz p hp)
        · rfl
      have e2 : sm (fun p => if decide (a i ≤ a p ∧ d p ≤ d j) = true then l (a i).toNat p else 0) n = bt a d m (a i) (d j) n := sm_congr fun p hp => by
        simp only [decide_eq_true_eq]
        split
        · rename_i w; exact S.un hp _ (by omega)
        · rfl
      rw [e1, e2, Int.zero_add] at dr; exact absurd hs (Int.not_lt.2 dr)
    · have : bt a d m (a i) (d j) n = 0 := sm_zero fun p hp => by
        split
        · rename_i w
          have := had p hp
          have u := S.un hp (d p).toNat (by have := S.a0 p hp; omega)
          rw [← u]; exact hz p hp
        · rfl
      rw [show max 0 (d j - a i) = 0 by omega, Int.mul_zero] at hs
      omega
end Sim
end Go.Ax

/-
  Plant: the order of the lots (insertion), the hours (written by program).
-/
namespace Go.Ax
open Go Go.RowKit

def swp (L : Nat → Nat) (j : Nat) : Nat → Nat := fun p => if p = j then L (j - 1) else if p = j - 1 then L j else L p
def ins (du : Nat → Int) : Nat → (Nat → Nat) → (Nat → Nat)
  | 0, L => L
  | j + 1, L => if du (L (j + 1)) < du (L j) then ins du j (swp L (j + 1)) else L
def srt (du : Nat → Int) : Nat → (Nat → Nat)
  | 0 => id
  | i + 1 => ins du i (srt du i)
def ltL (du : Nat → Int) (a b : Nat) : Prop := du a < du b ∨ (du a = du b ∧ a < b)
theorem ltL_trans {du : Nat → Int} {a b c : Nat} (h : ltL du a b) (k : ltL du b c) : ltL du a c := by unfold ltL at *; omega
theorem sm_swp {f : Nat → Int} {L : Nat → Nat} {j n : Nat} (h0 : 0 < j) (hn : j < n) : sm (fun p => f (swp L j p)) n = sm (fun p => f (L p)) n := by
  have a : sm (fun p => if p = j then f (L (j - 1)) else f (L p)) n = sm (fun p => f (L p)) n + (f (L (j - 1)) - f (L j)) := by
    refine sm_upd (t := j) ?_ ?_ hn
    · show (if j = j then f (L (j - 1)) else f (L j)) = f (L j) + (f (L (j - 1)) - f (L j)); rw [if_pos rfl]; omega
    · intro i e; show (if i = j then f (L (j - 1)) else f (L i)) = f (L i); rw [if_neg e]
  have b : sm (fun p => f (swp L j p)) n = sm (fun p => if p = j then f (L (j - 1)) else f (L p)) n + (f (L j) - f (L (j - 1))) := by
    refine sm_upd (t := j - 1) ?_ ?_ (by omega)
    · show f (swp L j (j - 1)) = (if j - 1 = j then f (L (j - 1)) else f (L (j - 1))) + (f (L j) - f (L (j - 1)))
      unfold swp; rw [if_neg (by omega), if_pos rfl, if_neg (by omega)]; omega
    · intro i e
      show f (swp L j i) = (if i = j then f (L (j - 1)) else f (L i))
      unfold swp
      by_cases q : i = j
      · rw [if_pos q, if_pos q]
      · rw [if_neg q, if_neg q, if_neg e]
  omega
structure OO (du : Nat → Int) (n i : Nat) (L : Nat → Nat) : Prop where
  lt : ∀ p, p < n → L p < n
  su : ∀ f : Nat → Int, sm (fun p => f (L p)) n = sm f n
  tl : ∀ p, p < n → i ≤ p → L p = p
  lw : ∀ p, p < i → L p < i
  so : ∀ p q, p < q → q < i → ltL du (L p) (L q)
structure JJ (du : Nat → Int) (n i j : Nat) (L : Nat → Nat) : Prop where
  lt : ∀ p, p < n → L p < n
  su : ∀ f : Nat → Int, sm (fun p => f (L p)) n = sm f n
  tl : ∀ p, p < n → i < p → L p = p
  cu : L j = i
  lw : ∀ p, p ≤ i → p ≠ j → L p < i
  so : ∀ p q, p < q → q ≤ i → p ≠ j → q ≠ j → ltL du (L p) (L q)
  af : ∀ q, j < q → q ≤ i → ltL du (L j) (L q)
theorem OO.jj {du : Nat → Int} {n i : Nat} {L : Nat → Nat} (h : OO du n i L) (hi : i < n) : JJ du n i i L :=
  ⟨h.lt, h.su, fun p a b => h.tl p a (by omega), h.tl i hi (Nat.le_refl _), fun p a b => h.lw p (by omega), fun p q a b _ d => h.so p q a (by omega), fun q a b => absurd a (by omega)⟩
theorem JJ.step {du : Nat → Int} {n i j : Nat} {L : Nat → Nat} (h : JJ du n i (j + 1) L) (hi : i < n) (hj : j + 1 ≤ i) (hd : du (L (j + 1)) < du (L j)) : JJ du n i j (swp L (j + 1)) := by
  have e1 : swp L (j + 1) (j + 1) = L j := by unfold swp; rw [if_pos rfl]; rfl
  have e2 : swp L (j + 1) j = L (j + 1) := by unfold swp; rw [if_neg (by omega), if_pos (by omega)]
  have e3 : ∀ p, p ≠ j → p ≠ j + 1 → swp L (j + 1) p = L p := fun p a b => by unfold swp; rw [if_neg b, if_neg (by omega)]
  refine ⟨fun p hp => ?_, fun f => ?_, fun p a b => ?_, by rw [e2]; exact h.cu, fun p a b => ?_, fun p q a b c d => ?_, fun q a b => ?_⟩
  · by_cases a : p = j + 1
    · subst a; rw [e1]; exact h.lt j (by omega)
    · by_cases b : p = j
      · subst b; rw [e2]; exact h.lt _ (by omega)
      · rw [e3 p b a]; exact h.lt p hp
  · rw [sm_swp (by omega) (by omega)]; exact h.su f
  · rw [e3 p (by omega) (by omega)]; exact h.tl p a b
  · by_cases q : p = j + 1
    · subst q; rw [e1]; exact h.lw j (by omega) (by omega)
    · rw [e3 p b q]; exact h.lw p a q
  · by_cases x : p = j + 1
    · subst x; rw [e1, e3 q d (by omega)]; exact h.so j q (by omega) b (by omega) (by omega)
    · by_cases y : q = j + 1
      · subst y; rw [e1, e3 p c x]; exact h.so p j (by omega) (by omega) x (by omega)
      · rw [e3 p c x, e3 q d y]; exact h.so p q a b x y
  · rw [e2]
    by_cases y : q = j + 1
    · subst y; rw [e1]; exact .inl hd
    · rw [e3 q (by omega) y]; exact h.af q (by omega) b
theorem JJ.fin {du : Nat → Int} {n i j : Nat} {L : Nat → Nat} (h : JJ du n i j L) (hi : i < n) (hj : j ≤ i) (hd : j = 0 ∨ du (L (j - 1)) ≤ du (L j)) : OO du n (i + 1) L := by
  refine ⟨h.lt, h.su, fun p a b => h.tl p a (by omega), fun p hp => ?_, fun p q a b => ?_⟩
  · by_cases e : p = j
    · subst e; rw [h.cu]; omega
    · have := h.lw p (by omega) e; omega
  · by_cases x : p = j
    · subst x; exact h.af q a (by omega)
    · by_cases y : q = j
      · subst y
        have key : ltL du (L (q - 1)) (L q) := by
          have l := h.lw (q - 1) (by omega) (by omega)
          have c := h.cu
          unfold ltL; omega
        by_cases z : p = q - 1
        · rw [z]; exact key
        · exact ltL_trans (h.so p (q - 1) (by omega) (by omega) x (by omega)) key
      · exact h.so p q a (by omega) x y
theorem ins_ok {du : Nat → Int} {n i : Nat} (hi : i < n) : ∀ j L, j ≤ i → JJ du n i j L → OO du n (i + 1) (ins du j L)
  | 0, L, _, h => h.fin hi (by omega) (.inl rfl)
  | j + 1, L, hj, h => by
    unfold ins
    by_cases e : du (L (j + 1)) < du (L j)
    · rw [if_pos e]; exact ins_ok hi j _ (by omega) (h.step hi hj e)
    · rw [if_neg e]; exact h.fin hi hj (.inr (by show du (L j) ≤ du (L (j + 1)); omega))
theorem srt_ok {du : Nat → Int} {n : Nat} : ∀ i, i ≤ n → OO du n i (srt du i)
  | 0, _ => ⟨fun p hp => hp, fun f => rfl, fun p _ _ => rfl, fun p hp => absurd hp (by omega), fun p q _ hq => absurd hq (by omega)⟩
  | i + 1, hi => ins_ok (by omega) i _ (Nat.le_refl _) ((srt_ok i (by omega)).jj (by omega))
theorem OO.inj {du : Nat → Int} {n : Nat} {L : Nat → Nat} (h : OO du n n L) (p q : Nat) (hp : p < n) (hq : q < n) (e : L p = L q) : p = q := by
  rcases Nat.lt_trichotomy p q with a | a | a
  · have := h.so p q a hq; rw [e] at this; unfold ltL at this; omega
  · exact a
  · have := h.so q p a hp; rw [e] at this; unfold ltL at this; omega
theorem OO.sur {du : Nat → Int} {n : Nat} {L : Nat → Nat} (h : OO du n n L) {x : Nat} (hx : x < n) : ∃ p, p < n ∧ L p = x := by
  refine Classical.byContradiction fun q => ?_
  have a := h.su (fun y => if y = x then 1 else 0)
  have b : sm (fun p => if L p = x then (1 : Int) else 0) n = 0 := sm_zero fun p hp => if_neg fun e => q ⟨p, hp, e⟩
  have c := sm_term (f := fun y => if y = x then (1 : Int) else 0) (n := n) (t := x) (fun i _ => by split <;> omega) hx
  simp only [if_pos] at c
  rw [b] at a
  omega
/-- the hours -/
def lfA (L : Nat → Nat) (rd : Nat → Int) (R : Int) (ms : Nat → Int) (n : Nat) : Nat → (Nat → Int)
  | 0 => ms
  | t + 1 => (hst L rd t R (lfA L rd R ms n t) n).1
def dst (L : Nat → Nat) (rd : Nat → Int) (h R : Int) (left dn : Nat → Int) : Nat → (Nat → Int)
  | 0 => dn
  | k + 1 => if 0 < (hst L rd h R left k).1 (L k) ∧ (hst L rd h R left (k + 1)).1 (L k) = 0 then upd (dst L rd h R left dn k) (L k) (h + 1) else dst L rd h R left dn k
def dn0 (rd ms : Nat → Int) : Nat → Int := fun x => if ms x = 0 then rd x else 501
def dnA (L : Nat → Nat) (rd : Nat → Int) (R : Int) (ms : Nat → Int) (n : Nat) : Nat → (Nat → Int)
  | 0 => dn0 rd ms
  | t + 1 => dst L rd t R (lfA L rd R ms n t) (dnA L rd R ms n t) n
theorem sim_of {du rd ms : Nat → Int} {L : Nat → Nat} {R : Int} {n : Nat} (h : OO du n n L) (hm : ∀ x, x < n → 0 ≤ ms x) (ha : ∀ x, x < n → 0 ≤ rd x) (hR : 0 ≤ R) : Sim n (fun p => rd (L p)) (fun p => ms (L p)) R (fun t p => lfA L rd R ms n t (L p)) := by
  have nn : ∀ t p, p < n → 0 ≤ lfA L rd R ms n t (L p) := by
    intro t
    induction t with
    | zero => exact fun p hp => hm _ (h.lt p hp)
    | succ t ih => exact fun p hp => ((hst_hr (L := L) (rd := rd) (h := (t : Int)) (R := R) h.inj ih hR).nn p hp).1
  exact ⟨fun p _ => rfl, fun t => hst_hr h.inj (nn t) hR, fun p hp => hm _ (h.lt p hp), fun p hp => ha _ (h.lt p hp), hR⟩
/-- no room is left: nothing changes any more -/
theorem hst_stop {L : Nat → Nat} {rd left : Nat → Int} {h R : Int} {n k : Nat} (hnn : ∀ q, q ≤ n → ∀ p, p < n → 0 ≤ (hst L rd h R left q).1 (L p)) (h0 : (hst L rd h R left k).2 = 0) : ∀ d, k + d ≤ n → (hst L rd h R left (k + d)) = hst L rd h R left k
  | 0, _ => rfl
  | d + 1, hd => by
    have ih := hst_stop hnn h0 d (by omega)
    have g : gt rd h (hst L rd h R left (k + d)) (L (k + d)) = 0 := by
      have := hnn (k + d) (by omega) (k + d) (by omega)
      unfold gt; rw [ih] at this ⊢; rw [h0]; split <;> omega
    show (upd (hst L rd h R left (k + d)).1 (L (k + d)) ((hst L rd h R left (k + d)).1 (L (k + d)) - gt rd h (hst L rd h R left (k + d)) (L (k + d))), (hst L rd h R left (k + d)).2 - gt rd h (hst L rd h R left (k + d)) (L (k + d))) = _
    rw [g, Int.sub_zero, Int.sub_zero]
    rw [show upd (hst L rd h R left (k + d)).1 (L (k + d)) ((hst L rd h R left (k + d)).1 (L (k + d))) = (hst L rd h R left (k + d)).1 from by
      funext x; unfold upd; split
      · rename_i e; rw [e]
      · rfl]
    exact ih
theorem dst_stop {L : Nat → Nat} {rd left dn : Nat → Int} {h R : Int} {n k : Nat} (hnn : ∀ q, q ≤ n → ∀ p, p < n → 0 ≤ (hst L rd h R left q).1 (L p)) (h0 : (hst L rd h R left k).2 = 0) : ∀ d, k + d ≤ n → dst L rd h R left dn (k + d) = dst L rd h R left dn k
  | 0, _ => rfl
  | d + 1, hd => by
    have e1 := hst_stop hnn h0 d (by omega)
    have e2 := hst_stop hnn h0 (d + 1) hd
    show (if 0 < (hst L rd h R left (k + d)).1 (L (k + d)) ∧ (hst L rd h R left (k + (d + 1))).1 (L (k + d)) = 0 then _ else _) = _
    rw [e1, e2, if_neg (by omega)]
    exact dst_stop hnn h0 d (by omega)
end Go.Ax

/-
  Plant: lists of numbers that a function gives (written by program).
-/
namespace Go.Ax
open Go Go.RowKit

def nf (f : Nat → Int) (n : Nat) : List Value := ints ((List.range n).map f)
theorem nf_len (f : Nat → Int) (n : Nat) : (nf f n).length = n := by unfold nf; rw [ints_len]; simp
theorem nf_get {f : Nat → Int} {n k : Nat} (h : k < n) : ((List.range n).map f)[k]? = some (f k) := by rw [List.getElem?_map, List.getElem?_range h]; rfl
theorem nf_at {f : Nat → Int} {n k : Nat} (h : k < n) : (nf f n)[0 + k * 1]? = some (iv (f k)) := ints_at (nf_get h)
theorem nf_congr {f g : Nat → Int} {n : Nat} (h : ∀ k, k < n → f k = g k) : nf f n = nf g n := by
  unfold nf; rw [List.map_congr_left (fun r hr => h r (List.mem_range.1 hr))]
theorem nf_set {f : Nat → Int} {n k : Nat} {v : Int} (h : k < n) : (nf f n).set (0 + k * 1) (iv v) = nf (upd f k v) n := by
  have e : (nf f n).set (0 + k * 1) (iv v) = ints (((List.range n).map f).set k v) := by
    unfold nf ints; rw [List.map_set, Nat.zero_add, Nat.mul_one]
  rw [e]
  unfold nf
  congr 1
  apply List.ext_getElem?
  intro i
  by_cases hi : i < n
  · rw [nf_get hi, List.getElem?_set]
    by_cases e : k = i
    · subst e; rw [if_pos rfl, if_pos (by simpa using h)]; unfold upd; rw [if_pos rfl]
    · rw [if_neg e, nf_get hi]; unfold upd; rw [if_neg (fun q => e q.symm)]
  · rw [List.getElem?_eq_none (by simp; omega), List.getElem?_eq_none (by simp; omega)]
theorem nf_succ (f : Nat → Int) (n : Nat) : nf f (n + 1) = nf f n ++ [iv (f n)] := by
  unfold nf; rw [List.range_succ, List.map_append]; simp [ints]
theorem zeros_nf (n : Nat) : zeros [iv 0] n = nf (fun _ => 0) n := by
  rw [zeros_flat (f := fun x : Int => [iv x]) (z := 0)]
  unfold nf
  have e : (List.range n).map (fun _ => (0 : Int)) = List.replicate n 0 := by
    apply List.ext_getElem?
    intro i
    by_cases hi : i < n
    · rw [List.getElem?_map, List.getElem?_range hi, List.getElem?_replicate, if_pos hi]; rfl
    · rw [List.getElem?_eq_none (by simp; omega), List.getElem?_eq_none (by simp; omega)]
  rw [e]
  generalize List.replicate n (0 : Int) = l
  induction l with
  | nil => rfl
  | cons a l ih => rw [List.flatMap_cons, ih]; rfl
def duF (us : List Fz) (x : Nat) : Int := (us.getD x Fz.z).du
def rdF (us : List Fz) (x : Nat) : Int := (us.getD x Fz.z).rd
def msF (us : List Fz) (x : Nat) : Int := (us.getD x Fz.z).ms
theorem Fz.at {us : List Fz} {i : Nat} {x : Fz} (h : us[i]? = some x) : duF us i = x.du ∧ rdF us i = x.rd ∧ msF us i = x.ms := by
  unfold duF rdF msF
  rw [List.getD_eq_getElem?_getD, h]; exact ⟨rfl, rfl, rfl⟩
def sgn (a b : Int) : Int := if a < b then -1 else if a > b then 1 else 0
theorem sgn_lt {a b : Int} : sgn a b < 0 ↔ a < b := by unfold sgn; split <;> (try split) <;> omega
theorem swp_nf {L : Nat → Nat} {n j : Nat} (hj : j < n) (h0 : 0 < j) : nf (upd (upd (fun p => (L p : Int)) j (L (j - 1))) (j - 1) (L j)) n = nf (fun p => (swp L j p : Int)) n := nf_congr fun k hk => by
  unfold upd swp
  by_cases a : k = j - 1
  · rw [if_pos a, if_neg (by omega), if_pos a]
  · rw [if_neg a]
    by_cases b : k = j
    · rw [if_pos b, if_pos b]
    · rw [if_neg b, if_neg b, if_neg a]
theorem swp_lt {L : Nat → Nat} {n j : Nat} (h : ∀ p, p < n → L p < n) (hj : j < n) : ∀ p, p < n → swp L j p < n := fun p hp => by
  unfold swp; split
  · exact h _ (by omega)
  · split
    · exact h _ hj
    · exact h _ hp
theorem ins_go {du : Nat → Int} {j : Nat} {L : Nat → Nat} (h0 : 0 < j) (h : du (L j) < du (L (j - 1))) : ins du j L = ins du (j - 1) (swp L j) := by
  obtain ⟨m, rfl⟩ : ∃ m, j = m + 1 := ⟨j - 1, by omega⟩
  have h2 : du (L (m + 1)) < du (L m) := h
  show (if du (L (m + 1)) < du (L m) then _ else _) = _
  rw [if_pos h2]; rfl
theorem ins_end {du : Nat → Int} {j : Nat} {L : Nat → Nat} (h : j = 0 ∨ ¬ du (L j) < du (L (j - 1))) : ins du j L = L := by
  cases j with
  | zero => rfl
  | succ m =>
    have q : ¬ du (L (m + 1)) < du (L m) := h.elim (fun e => absurd e (by omega)) (fun q => q)
    show (if du (L (m + 1)) < du (L m) then _ else _) = _
    rw [if_neg q]
def Fz.ok (x : Fz) : Bool := isw x.du 500 && isw x.rd x.du && isw x.ms 1099511627776
theorem Fz.ok_t {x : Fz} (h : x.ok = true) : (0 ≤ x.du ∧ x.du ≤ 500) ∧ (0 ≤ x.rd ∧ x.rd ≤ x.du) ∧ 0 ≤ x.ms ∧ x.ms ≤ 1099511627776 := by
  unfold Fz.ok at h; simp only [Bool.and_eq_true] at h
  exact ⟨isw_t h.1.1, isw_t h.1.2, isw_t h.2⟩
/-- the error of lots -/
def chkF (us : List Fz) : Int := if us.length > 16 then 3 else if us.all Fz.ok then 0 else 1
theorem all_at {us : List Fz} (h : us.all Fz.ok = true) {i : Nat} (hi : i < us.length) : (0 ≤ duF us i ∧ duF us i ≤ 500) ∧ (0 ≤ rdF us i ∧ rdF us i ≤ duF us i) ∧ 0 ≤ msF us i ∧ msF us i ≤ 1099511627776 := by
  obtain ⟨x, hx⟩ := get_some hi
  obtain ⟨a, b, c⟩ := Fz.at hx
  rw [a, b, c]
  exact Fz.ok_t (List.all_eq_true.1 h x (List.mem_of_getElem? hx))
end Go.Ax

/-! What 'low' makes of functions of plant (written by program). -/
namespace Go.Ax
open Go Go.RowKit Go.Proofs
theorem N80 : Try.f80.ntmps = 18 := by kernel_rfl
theorem Z80 : Try.f80.results.toList = ((List.toArray [(.tmp 2)]) : Array ResultVar).toList := by kernel_rfl
theorem B80 : Try.f80.body = some (at_ Try.f80 []) := by kernel_rfl
noncomputable def R80 : RC := (.seq (.reg [⟨(some 1), none, (.box 76 (.tmp 0))⟩, ⟨(some 2), none, (.mov (.const (.bool false)))⟩])
  (.seq (.reg [⟨(some 3), none, (.addo (.tmp 1) 1)⟩, ⟨(some 4), none, (.ld (.tmp 3) 1)⟩, ⟨(some 5), none, (.call ⟨(.value (.func 95)), (List.toArray [(.tmp 4), (.const (.int .i64 500))]), (List.toArray [3, 3])⟩ true)⟩, ⟨(some 6), none, (.mov (.tmp 5))⟩, ⟨(some 7), (some (6, true)), (.addo (.tmp 1) 0)⟩, ⟨(some 8), (some (6, true)), (.ld (.tmp 7) 1)⟩, ⟨(some 9), (some (6, true)), (.addo (.tmp 1) 1)⟩, ⟨(some 10), (some (6, true)), (.ld (.tmp 9) 1)⟩, ⟨(some 11), (some (6, true)), (.call ⟨(.value (.func 95)), (List.toArray [(.tmp 8), (.tmp 10)]), (List.toArray [3, 3])⟩ true)⟩, ⟨(some 12), none, (.pur ⟨(some 12), (.pick (.tmp 6) (.tmp 11) (.const (.bool false))), 4, "", (List.toArray []), none⟩)⟩, ⟨(some 13), none, (.mov (.tmp 12))⟩, ⟨(some 14), (some (13, true)), (.addo (.tmp 1) 2)⟩, ⟨(some 15), (some (13, true)), (.ld (.tmp 14) 1)⟩, ⟨(some 16), (some (13, true)), (.call ⟨(.value (.func 95)), (List.toArray [(.tmp 15), (.const (.int .i64 1099511627776))]), (List.toArray [3, 3])⟩ true)⟩, ⟨(some 17), none, (.pur ⟨(some 17), (.pick (.tmp 13) (.tmp 16) (.const (.bool false))), 4, "", (List.toArray []), none⟩)⟩, ⟨(some 2), none, (.mov (.tmp 17))⟩])
  .ret))
theorem L80 : low Try.prog Try.f80.ntmps (at_ Try.f80 []) = some R80 := by kernel_rfl
theorem N79 : Try.f79.ntmps = 7 := by kernel_rfl
theorem Z79 : Try.f79.results.toList = ((List.toArray [(.tmp 4)]) : Array ResultVar).toList := by kernel_rfl
theorem B79 : Try.f79.body = some (at_ Try.f79 []) := by kernel_rfl
noncomputable def R79 : RC := (.seq (.reg [⟨(some 3), none, (.box 76 (.tmp 1))⟩, ⟨(some 4), none, (.mov (.const (.bool false)))⟩])
  (.seq (.reg [⟨(some 5), none, (.lda (.tmp 3) 3)⟩, ⟨(some 6), none, (.call ⟨(.value (.func 80)), (List.toArray [(.tmp 5)]), (List.toArray [76])⟩ true)⟩, ⟨(some 4), none, (.mov (.tmp 6))⟩])
  .ret))
theorem L79 : low Try.prog Try.f79.ntmps (at_ Try.f79 []) = some R79 := by kernel_rfl
theorem N78 : Try.f78.ntmps = 34 := by kernel_rfl
theorem Z78 : Try.f78.results.toList = ((List.toArray [(.tmp 8)]) : Array ResultVar).toList := by kernel_rfl
theorem B78 : Try.f78.body = some (at_ Try.f78 []) := by kernel_rfl
noncomputable def R78 : RC := (.seq (.reg [⟨(some 8), none, (.mov (.const (.bool false)))⟩])
  (.seq (.seq (.reg [⟨(some 11), none, (.mov (.tmp 0))⟩, ⟨(some 12), none, (.len (.tmp 11))⟩, ⟨(some 13), none, (.mov (.tmp 1))⟩, ⟨(some 14), none, (.cmpb .lss (.tmp 12) (.tmp 13))⟩, ⟨(some 15), none, (.mov (.tmp 14))⟩, ⟨(some 16), (some (15, false)), (.mov (.tmp 0))⟩, ⟨(some 17), (some (15, false)), (.len (.tmp 16))⟩, ⟨(some 18), (some (15, false)), (.mov (.tmp 2))⟩, ⟨(some 19), (some (15, false)), (.cmpb .gtr (.tmp 17) (.tmp 18))⟩, ⟨(some 20), none, (.pur ⟨(some 20), (.pick (.tmp 15) (.const (.bool true)) (.tmp 19)), 4, "", (List.toArray []), none⟩)⟩])
  (.cond (.tmp 20) (.seq (.reg [⟨(some 8), none, (.mov (.const (.bool false)))⟩])
  .ret)
  .skip))
  (.seq (.seq (.reg [⟨(some 21), none, (.mov (.tmp 0))⟩, ⟨(some 22), none, (.len (.tmp 21))⟩, ⟨(some 23), none, (.mov (.const (.int .i64 0)))⟩])
  (.block 0 (.other (at_ Try.f78 [1, 1, 0, 1, 0]))))
  (.seq (.reg [⟨(some 8), none, (.mov (.const (.bool true)))⟩])
  .ret))))
theorem L78 : low Try.prog Try.f78.ntmps (at_ Try.f78 []) = some R78 := by kernel_rfl
theorem E78_1 : at_ Try.f78 [1, 1, 0, 1, 0] = .loop (at_ Try.f78 [1, 1, 0, 1, 0, 0]) := by kernel_rfl
noncomputable def R78x1 : RC := (.seq (.reg [⟨(some 24), none, (.cmp .lss (.tmp 23) (.tmp 22))⟩])
  (.seq (.cond (.tmp 24) .skip
  (.exit 0))
  (.seq (.block 1 (.seq (.reg [⟨(some 25), none, (.mov (.tmp 23))⟩, ⟨(some 26), none, (.idx (.tmp 21) (.tmp 23) 3)⟩, ⟨(some 27), none, (.lda (.tmp 26) 3)⟩, ⟨(some 10), none, (.alc 76 [(.int .i64 0), (.int .i64 0), (.int .i64 0)])⟩, ⟨(some 9), none, (.mov (.tmp 25))⟩, ⟨none, none, (.sta (.tmp 10) (.tmp 27) 3)⟩])
  (.seq (.reg [⟨(some 28), none, (.mov (.tmp 3))⟩, ⟨(some 29), none, (.mov (.tmp 9))⟩, ⟨(some 30), none, (.lda (.tmp 10) 3)⟩, ⟨(some 31), none, (.call ⟨(.value (.tmp 28)), (List.toArray [(.tmp 29), (.tmp 30)]), (List.toArray [3, 76])⟩ true)⟩, ⟨(some 32), none, (.pur ⟨(some 32), (.unOp .not 4 (.tmp 31)), 4, "", (List.toArray []), none⟩)⟩])
  (.cond (.tmp 32) (.seq (.reg [⟨(some 8), none, (.mov (.const (.bool false)))⟩])
  .ret)
  .skip))))
  (.reg [⟨(some 33), none, (.ari .add (.tmp 23) (.const (.int .i64 1)))⟩, ⟨(some 23), none, (.mov (.tmp 33))⟩]))))
theorem L78x1 : low Try.prog Try.f78.ntmps (at_ Try.f78 [1, 1, 0, 1, 0, 0]) = some R78x1 := by kernel_rfl
theorem N57 : Try.f57.ntmps = 9 := by kernel_rfl
theorem Z57 : Try.f57.results.toList = ((List.toArray [(.tmp 2)]) : Array ResultVar).toList := by kernel_rfl
theorem B57 : Try.f57.body = some (at_ Try.f57 []) := by kernel_rfl
noncomputable def R57 : RC := (.seq (.reg [⟨(some 2), none, (.mov (.const (.int .i64 0)))⟩])
  (.seq (.seq (.reg [⟨(some 3), none, (.mov (.tmp 0))⟩, ⟨(some 4), none, (.len (.tmp 3))⟩, ⟨(some 5), none, (.cmp .gtr (.tmp 4) (.const (.int .i64 16)))⟩])
  (.cond (.tmp 5) (.seq (.reg [⟨(some 2), none, (.mov (.const (.int .i64 3)))⟩])
  .ret)
  .skip))
  (.seq (.seq (.reg [⟨(some 6), none, (.mov (.tmp 0))⟩, ⟨(some 7), none, (.call ⟨(.value (.func 78)), (List.toArray [(.tmp 6), (.const (.int .i64 0)), (.const (.int .i64 16)), (.func 79)]), (List.toArray [47, 3, 3, 126])⟩ true)⟩, ⟨(some 8), none, (.pur ⟨(some 8), (.unOp .not 4 (.tmp 7)), 4, "", (List.toArray []), none⟩)⟩])
  (.cond (.tmp 8) (.seq (.reg [⟨(some 2), none, (.mov (.const (.int .i64 1)))⟩])
  .ret)
  .skip))
  (.seq (.reg [⟨(some 2), none, (.mov (.const (.int .i64 0)))⟩])
  .ret))))
theorem L57 : low Try.prog Try.f57.ntmps (at_ Try.f57 []) = some R57 := by kernel_rfl
theorem N116 : Try.f116.ntmps = 6 := by kernel_rfl
theorem Z116 : Try.f116.results.toList = ((List.toArray [(.tmp 2)]) : Array ResultVar).toList := by kernel_rfl
theorem B116 : Try.f116.body = some (at_ Try.f116 []) := by kernel_rfl
noncomputable def R116 : RC := (.seq (.reg [⟨(some 2), none, (.mov (.const (.bool false)))⟩])
  (.seq (.reg [⟨(some 3), none, (.mov (.tmp 0))⟩, ⟨(some 4), none, (.mov (.tmp 0))⟩, ⟨(some 5), none, (.cmp .neq (.tmp 3) (.tmp 4))⟩, ⟨(some 2), none, (.mov (.tmp 5))⟩])
  .ret))
theorem L116 : low Try.prog Try.f116.ntmps (at_ Try.f116 []) = some R116 := by kernel_rfl
theorem N113 : Try.f113.ntmps = 20 := by kernel_rfl
theorem Z113 : Try.f113.results.toList = ((List.toArray [(.tmp 4)]) : Array ResultVar).toList := by kernel_rfl
theorem B113 : Try.f113.body = some (at_ Try.f113 []) := by kernel_rfl
noncomputable def R113 : RC := (.seq (.reg [⟨(some 4), none, (.mov (.const (.int .i64 0)))⟩])
  (.seq (.reg [⟨(some 7), none, (.mov (.tmp 0))⟩, ⟨(some 8), none, (.call ⟨(.value (.func 116)), (List.toArray [(.tmp 7)]), (List.toArray [3])⟩ true)⟩, ⟨(some 5), none, (.mov (.tmp 8))⟩])
  (.seq (.reg [⟨(some 9), none, (.mov (.tmp 1))⟩, ⟨(some 10), none, (.call ⟨(.value (.func 116)), (List.toArray [(.tmp 9)]), (List.toArray [3])⟩ true)⟩, ⟨(some 6), none, (.mov (.tmp 10))⟩])
  (.seq (.seq (.reg [⟨(some 11), none, (.mov (.tmp 5))⟩])
  (.cond (.tmp 11) (.seq (.seq (.reg [⟨(some 12), none, (.mov (.tmp 6))⟩])
  (.cond (.tmp 12) (.seq (.reg [⟨(some 4), none, (.mov (.const (.int .i64 0)))⟩])
  .ret)
  .skip))
  (.seq (.reg [⟨(some 4), none, (.mov (.const (.int .i64 (-1))))⟩])
  .ret))
  .skip))
  (.seq (.seq (.reg [⟨(some 13), none, (.mov (.tmp 6))⟩])
  (.cond (.tmp 13) (.seq (.reg [⟨(some 4), none, (.mov (.const (.int .i64 1)))⟩])
  .ret)
  .skip))
  (.seq (.seq (.reg [⟨(some 14), none, (.mov (.tmp 0))⟩, ⟨(some 15), none, (.mov (.tmp 1))⟩, ⟨(some 16), none, (.cmp .lss (.tmp 14) (.tmp 15))⟩])
  (.cond (.tmp 16) (.seq (.reg [⟨(some 4), none, (.mov (.const (.int .i64 (-1))))⟩])
  .ret)
  .skip))
  (.seq (.seq (.reg [⟨(some 17), none, (.mov (.tmp 0))⟩, ⟨(some 18), none, (.mov (.tmp 1))⟩, ⟨(some 19), none, (.cmp .gtr (.tmp 17) (.tmp 18))⟩])
  (.cond (.tmp 19) (.seq (.reg [⟨(some 4), none, (.mov (.const (.int .i64 1)))⟩])
  .ret)
  .skip))
  (.seq (.reg [⟨(some 4), none, (.mov (.const (.int .i64 0)))⟩])
  .ret))))))))
theorem L113 : low Try.prog Try.f113.ntmps (at_ Try.f113 []) = some R113 := by kernel_rfl
theorem N105 : Try.f105.ntmps = 20 := by kernel_rfl
theorem Z105 : Try.f105.results.toList = ((List.toArray [(.tmp 6)]) : Array ResultVar).toList := by kernel_rfl
theorem B105 : Try.f105.body = some (at_ Try.f105 []) := by kernel_rfl
noncomputable def R105 : RC := (.seq (.reg [⟨(some 3), none, (.box 128 (.tmp 0))⟩, ⟨(some 6), none, (.mov (.const (.int .i64 0)))⟩])
  (.seq (.dreg [⟨(some 7), none, (.addo (.tmp 3) 0)⟩, ⟨(some 8), none, (.ld (.tmp 7) 1)⟩, ⟨(some 9), none, (.mov (.tmp 1))⟩, ⟨(some 10), none, (.idx (.tmp 8) (.tmp 9) 3)⟩, ⟨(some 11), none, (.addo (.tmp 10) 1)⟩, ⟨(some 12), none, (.ld (.tmp 11) 1)⟩, ⟨(some 13), none, (.addo (.tmp 3) 0)⟩, ⟨(some 14), none, (.ld (.tmp 13) 1)⟩, ⟨(some 15), none, (.mov (.tmp 2))⟩, ⟨(some 16), none, (.idx (.tmp 14) (.tmp 15) 3)⟩, ⟨(some 17), none, (.addo (.tmp 16) 1)⟩, ⟨(some 18), none, (.ld (.tmp 17) 1)⟩, ⟨(some 19), none, (.call ⟨(.value (.func 113)), (List.toArray [(.tmp 12), (.tmp 18)]), (List.toArray [3, 3])⟩ true)⟩, ⟨(some 6), none, (.mov (.tmp 19))⟩] [8191, 4095, 1984, 960, 448, 0, 64, 0, 31, 15, 7, 0, 1, 0])
  .ret))
theorem L105 : low Try.prog Try.f105.ntmps (at_ Try.f105 []) = some R105 := by kernel_rfl
theorem N114 : Try.f114.ntmps = 53 := by kernel_rfl
theorem Z114 : Try.f114.results.toList = ((List.toArray []) : Array ResultVar).toList := by kernel_rfl
theorem B114 : Try.f114.body = some (at_ Try.f114 []) := by kernel_rfl
noncomputable def R114 : RC := (.seq (.reg [⟨(some 10), none, (.mov (.tmp 1))⟩, ⟨(some 11), none, (.ari .add (.tmp 10) (.const (.int .i64 1)))⟩, ⟨(some 8), none, (.mov (.tmp 11))⟩])
  (.block 0 (.other (at_ Try.f114 [1, 0]))))
theorem L114 : low Try.prog Try.f114.ntmps (at_ Try.f114 []) = some R114 := by kernel_rfl
theorem E114_1 : at_ Try.f114 [1, 0] = .loop (at_ Try.f114 [1, 0, 0]) := by kernel_rfl
noncomputable def R114x1 : RC := (.seq (.seq (.reg [⟨(some 12), none, (.mov (.tmp 8))⟩, ⟨(some 13), none, (.mov (.tmp 2))⟩, ⟨(some 14), none, (.cmp .lss (.tmp 12) (.tmp 13))⟩])
  (.cond (.tmp 14) .skip
  (.exit 0)))
  (.seq (.block 1 (.seq (.reg [⟨(some 17), none, (.mov (.tmp 8))⟩, ⟨(some 9), none, (.mov (.tmp 17))⟩])
  (.block 2 (.other (at_ Try.f114 [1, 0, 0, 1, 0, 0, 1, 0])))))
  (.reg [⟨(some 15), none, (.mov (.tmp 8))⟩, ⟨(some 16), none, (.ari .add (.tmp 15) (.const (.int .i64 1)))⟩, ⟨(some 8), none, (.mov (.tmp 16))⟩])))
theorem L114x1 : low Try.prog Try.f114.ntmps (at_ Try.f114 [1, 0, 0]) = some R114x1 := by kernel_rfl
theorem E114_2 : at_ Try.f114 [1, 0, 0, 1, 0, 0, 1, 0] = .loop (at_ Try.f114 [1, 0, 0, 1, 0, 0, 1, 0, 0]) := by kernel_rfl
noncomputable def R114x2 : RC := (.seq (.seq (.dreg [⟨(some 18), none, (.mov (.tmp 9))⟩, ⟨(some 19), none, (.mov (.tmp 1))⟩, ⟨(some 20), none, (.cmpb .gtr (.tmp 18) (.tmp 19))⟩, ⟨(some 21), none, (.mov (.tmp 20))⟩, ⟨(some 22), (some (21, true)), (.mov (.tmp 3))⟩, ⟨(some 23), (some (21, true)), (.mov (.tmp 0))⟩, ⟨(some 24), (some (21, true)), (.mov (.tmp 9))⟩, ⟨(some 25), (some (21, true)), (.idx (.tmp 23) (.tmp 24) 1)⟩, ⟨(some 26), (some (21, true)), (.ld (.tmp 25) 1)⟩, ⟨(some 27), (some (21, true)), (.mov (.tmp 0))⟩, ⟨(some 28), (some (21, true)), (.mov (.tmp 9))⟩, ⟨(some 29), (some (21, true)), (.ari .sub (.tmp 28) (.const (.int .i64 1)))⟩, ⟨(some 30), (some (21, true)), (.idx (.tmp 27) (.tmp 29) 1)⟩, ⟨(some 31), (some (21, true)), (.ld (.tmp 30) 1)⟩, ⟨(some 32), (some (21, true)), (.call ⟨(.value (.tmp 22)), (List.toArray [(.tmp 26), (.tmp 31)]), (List.toArray [3, 3])⟩ true)⟩, ⟨(some 33), (some (21, true)), (.cmpb .lss (.tmp 32) (.const (.int .i64 0)))⟩, ⟨(some 34), none, (.pur ⟨(some 34), (.pick (.tmp 21) (.tmp 33) (.const (.bool false))), 4, "", (List.toArray []), none⟩)⟩] [65535, 32767, 16383, 7695, 3599, 1039, 15, 15, 239, 111, 15, 15, 15, 7, 3, 0, 0])
  (.cond (.tmp 34) .skip
  (.exit 2)))
  (.seq (.block 3 (.dreg [⟨(some 37), none, (.mov (.tmp 0))⟩, ⟨(some 38), none, (.mov (.tmp 9))⟩, ⟨(some 39), none, (.mov (.tmp 0))⟩, ⟨(some 40), none, (.mov (.tmp 9))⟩, ⟨(some 41), none, (.ari .sub (.tmp 40) (.const (.int .i64 1)))⟩, ⟨(some 42), none, (.mov (.tmp 0))⟩, ⟨(some 43), none, (.mov (.tmp 9))⟩, ⟨(some 44), none, (.ari .sub (.tmp 43) (.const (.int .i64 1)))⟩, ⟨(some 45), none, (.idx (.tmp 42) (.tmp 44) 1)⟩, ⟨(some 46), none, (.ld (.tmp 45) 1)⟩, ⟨(some 47), none, (.mov (.tmp 0))⟩, ⟨(some 48), none, (.mov (.tmp 9))⟩, ⟨(some 49), none, (.idx (.tmp 47) (.tmp 48) 1)⟩, ⟨(some 50), none, (.ld (.tmp 49) 1)⟩, ⟨(some 51), none, (.idx (.tmp 37) (.tmp 38) 1)⟩, ⟨none, none, (.st (.tmp 51) (.tmp 46))⟩, ⟨(some 52), none, (.idx (.tmp 39) (.tmp 41) 1)⟩, ⟨none, none, (.st (.tmp 52) (.tmp 50))⟩] [131071, 65535, 32739, 16355, 7168, 3072, 0, 0, 480, 224, 64, 0, 0, 8, 0, 0, 0, 0]))
  (.reg [⟨(some 35), none, (.mov (.tmp 9))⟩, ⟨(some 36), none, (.ari .sub (.tmp 35) (.const (.int .i64 1)))⟩, ⟨(some 9), none, (.mov (.tmp 36))⟩])))
theorem L114x2 : low Try.prog Try.f114.ntmps (at_ Try.f114 [1, 0, 0, 1, 0, 0, 1, 0, 0]) = some R114x2 := by kernel_rfl
theorem N112 : Try.f112.ntmps = 63 := by kernel_rfl
theorem Z112 : Try.f112.results.toList = ((List.toArray []) : Array ResultVar).toList := by kernel_rfl
theorem B112 : Try.f112.body = some (at_ Try.f112 []) := by kernel_rfl
noncomputable def R112 : RC := (.seq (.reg [⟨(some 6), none, (.mov (.const (.int .i64 20)))⟩])
  (.seq (.reg [⟨(some 10), none, (.mov (.tmp 6))⟩, ⟨(some 7), none, (.mov (.const (.int .i64 0)))⟩, ⟨(some 8), none, (.mov (.tmp 10))⟩])
  (.seq (.block 0 (.other (at_ Try.f112 [1, 1, 0, 0])))
  (.seq (.reg [⟨(some 23), none, (.mov (.tmp 0))⟩, ⟨(some 24), none, (.mov (.tmp 7))⟩, ⟨(some 25), none, (.mov (.tmp 1))⟩, ⟨(some 26), none, (.mov (.tmp 2))⟩, ⟨(some 27), none, (.call ⟨(.value (.func 114)), (List.toArray [(.tmp 23), (.tmp 24), (.tmp 25), (.tmp 26)]), (List.toArray [42, 3, 3, 86])⟩ true)⟩])
  (.block 2 (.other (at_ Try.f112 [1, 1, 1, 1, 0])))))))
theorem L112 : low Try.prog Try.f112.ntmps (at_ Try.f112 []) = some R112 := by kernel_rfl
theorem E112_1 : at_ Try.f112 [1, 1, 0, 0] = .loop (at_ Try.f112 [1, 1, 0, 0, 0]) := by kernel_rfl
noncomputable def R112x1 : RC := (.seq (.seq (.reg [⟨(some 11), none, (.mov (.tmp 8))⟩, ⟨(some 12), none, (.mov (.tmp 1))⟩, ⟨(some 13), none, (.cmp .leq (.tmp 11) (.tmp 12))⟩])
  (.cond (.tmp 13) .skip
  (.exit 0)))
  (.block 1 (.seq (.reg [⟨(some 14), none, (.mov (.tmp 0))⟩, ⟨(some 15), none, (.mov (.tmp 7))⟩, ⟨(some 16), none, (.mov (.tmp 8))⟩, ⟨(some 17), none, (.mov (.tmp 2))⟩, ⟨(some 18), none, (.call ⟨(.value (.func 114)), (List.toArray [(.tmp 14), (.tmp 15), (.tmp 16), (.tmp 17)]), (List.toArray [42, 3, 3, 86])⟩ true)⟩])
  (.seq (.reg [⟨(some 19), none, (.mov (.tmp 8))⟩, ⟨(some 7), none, (.mov (.tmp 19))⟩])
  (.reg [⟨(some 20), none, (.mov (.tmp 8))⟩, ⟨(some 21), none, (.mov (.tmp 6))⟩, ⟨(some 22), none, (.ari .add (.tmp 20) (.tmp 21))⟩, ⟨(some 8), none, (.mov (.tmp 22))⟩])))))
theorem L112x1 : low Try.prog Try.f112.ntmps (at_ Try.f112 [1, 1, 0, 0, 0]) = some R112x1 := by kernel_rfl
theorem E112_2 : at_ Try.f112 [1, 1, 1, 1, 0] = .loop (at_ Try.f112 [1, 1, 1, 1, 0, 0]) := by kernel_rfl
noncomputable def R112x2 : RC := (.seq (.seq (.reg [⟨(some 28), none, (.mov (.tmp 6))⟩, ⟨(some 29), none, (.mov (.tmp 1))⟩, ⟨(some 30), none, (.cmp .lss (.tmp 28) (.tmp 29))⟩])
  (.cond (.tmp 30) .skip
  (.exit 2)))
  (.block 3 (.seq (.reg [⟨(some 31), none, (.mov (.tmp 6))⟩, ⟨(some 32), none, (.ari .mul (.const (.int .i64 2)) (.tmp 31))⟩, ⟨(some 7), none, (.mov (.const (.int .i64 0)))⟩, ⟨(some 8), none, (.mov (.tmp 32))⟩])
  (.seq (.block 4 (.other (at_ Try.f112 [1, 1, 1, 1, 0, 0, 1, 0, 1, 0, 0])))
  (.seq (.seq (.reg [⟨(some 49), none, (.mov (.tmp 7))⟩, ⟨(some 50), none, (.mov (.tmp 6))⟩, ⟨(some 51), none, (.ari .add (.tmp 49) (.tmp 50))⟩, ⟨(some 9), none, (.mov (.tmp 51))⟩])
  (.seq (.reg [⟨(some 52), none, (.mov (.tmp 9))⟩, ⟨(some 53), none, (.mov (.tmp 1))⟩, ⟨(some 54), none, (.cmp .lss (.tmp 52) (.tmp 53))⟩])
  (.cond (.tmp 54) (.reg [⟨(some 55), none, (.mov (.tmp 0))⟩, ⟨(some 56), none, (.mov (.tmp 7))⟩, ⟨(some 57), none, (.mov (.tmp 9))⟩, ⟨(some 58), none, (.mov (.tmp 1))⟩, ⟨(some 59), none, (.mov (.tmp 2))⟩, ⟨(some 60), none, (.call ⟨(.value (.func 115)), (List.toArray [(.tmp 55), (.tmp 56), (.tmp 57), (.tmp 58), (.tmp 59)]), (List.toArray [42, 3, 3, 3, 86])⟩ true)⟩])
  .skip)))
  (.reg [⟨(some 61), none, (.mov (.tmp 6))⟩, ⟨(some 62), none, (.ari .mul (.tmp 61) (.const (.int .i64 2)))⟩, ⟨(some 6), none, (.mov (.tmp 62))⟩]))))))
theorem L112x2 : low Try.prog Try.f112.ntmps (at_ Try.f112 [1, 1, 1, 1, 0, 0]) = some R112x2 := by kernel_rfl
theorem N104 : Try.f104.ntmps = 9 := by kernel_rfl
theorem Z104 : Try.f104.results.toList = ((List.toArray []) : Array ResultVar).toList := by kernel_rfl
theorem B104 : Try.f104.body = some (at_ Try.f104 []) := by kernel_rfl
noncomputable def R104 : RC := (.reg [⟨(some 4), none, (.mov (.tmp 0))⟩, ⟨(some 5), none, (.mov (.tmp 0))⟩, ⟨(some 6), none, (.len (.tmp 5))⟩, ⟨(some 7), none, (.mov (.tmp 1))⟩, ⟨(some 8), none, (.call ⟨(.value (.func 112)), (List.toArray [(.tmp 4), (.tmp 6), (.tmp 7)]), (List.toArray [42, 3, 86])⟩ true)⟩])
theorem L104 : low Try.prog Try.f104.ntmps (at_ Try.f104 []) = some R104 := by kernel_rfl
theorem N82 : Try.f82.ntmps = 24 := by kernel_rfl
theorem Z82 : Try.f82.results.toList = ((List.toArray [(.tmp 2)]) : Array ResultVar).toList := by kernel_rfl
theorem B82 : Try.f82.body = some (at_ Try.f82 []) := by kernel_rfl
noncomputable def R82 : RC := (.seq (.reg [⟨(some 1), none, (.box 128 (.tmp 0))⟩, ⟨(some 2), none, (.mov (.const (.slice none 0 0)))⟩])
  (.seq (.reg [⟨(some 5), none, (.addo (.tmp 1) 0)⟩, ⟨(some 6), none, (.ld (.tmp 5) 1)⟩, ⟨(some 7), none, (.len (.tmp 6))⟩, ⟨(some 8), none, (.mem ⟨(some 8), (.makeSlice 42 (.tmp 7) (.tmp 7)), 42, "", (List.toArray []), none⟩)⟩, ⟨(some 3), none, (.mov (.tmp 8))⟩])
  (.seq (.seq (.reg [⟨(some 9), none, (.mov (.tmp 3))⟩, ⟨(some 10), none, (.len (.tmp 9))⟩, ⟨(some 11), none, (.mov (.const (.int .i64 0)))⟩])
  (.block 0 (.other (at_ Try.f82 [1, 1, 0, 1, 0]))))
  (.seq (.reg [⟨(some 19), none, (.mov (.tmp 3))⟩, ⟨(some 20), none, (.lda (.tmp 1) 2)⟩, ⟨(some 21), none, (.pur ⟨(some 21), (.makeFunc (.func 105) (List.toArray [(.tmp 20)]) (List.toArray [])), 86, "", (List.toArray []), none⟩)⟩, ⟨(some 22), none, (.call ⟨(.value (.func 104)), (List.toArray [(.tmp 19), (.tmp 21)]), (List.toArray [42, 86])⟩ true)⟩])
  (.seq (.reg [⟨(some 23), none, (.mov (.tmp 3))⟩, ⟨(some 2), none, (.mov (.tmp 23))⟩])
  .ret)))))
theorem L82 : low Try.prog Try.f82.ntmps (at_ Try.f82 []) = some R82 := by kernel_rfl
theorem E82_1 : at_ Try.f82 [1, 1, 0, 1, 0] = .loop (at_ Try.f82 [1, 1, 0, 1, 0, 0]) := by kernel_rfl
noncomputable def R82x1 : RC := (.seq (.reg [⟨(some 12), none, (.cmp .lss (.tmp 11) (.tmp 10))⟩])
  (.seq (.cond (.tmp 12) .skip
  (.exit 0))
  (.seq (.block 1 (.seq (.reg [⟨(some 13), none, (.mov (.tmp 11))⟩, ⟨(some 4), none, (.mov (.tmp 13))⟩])
  (.reg [⟨(some 14), none, (.mov (.tmp 3))⟩, ⟨(some 15), none, (.mov (.tmp 4))⟩, ⟨(some 16), none, (.mov (.tmp 4))⟩, ⟨(some 17), none, (.idx (.tmp 14) (.tmp 15) 1)⟩, ⟨none, none, (.st (.tmp 17) (.tmp 16))⟩])))
  (.reg [⟨(some 18), none, (.ari .add (.tmp 11) (.const (.int .i64 1)))⟩, ⟨(some 11), none, (.mov (.tmp 18))⟩]))))
theorem L82x1 : low Try.prog Try.f82.ntmps (at_ Try.f82 [1, 1, 0, 1, 0, 0]) = some R82x1 := by kernel_rfl
theorem N83 : Try.f83.ntmps = 23 := by kernel_rfl
theorem Z83 : Try.f83.results.toList = ((List.toArray [(.tmp 6)]) : Array ResultVar).toList := by kernel_rfl
theorem B83 : Try.f83.body = some (at_ Try.f83 []) := by kernel_rfl
noncomputable def R83 : RC := (.seq (.reg [⟨(some 3), none, (.box 128 (.tmp 0))⟩, ⟨(some 6), none, (.mov (.const (.bool false)))⟩])
  (.seq (.reg [⟨(some 7), none, (.addo (.tmp 3) 0)⟩, ⟨(some 8), none, (.ld (.tmp 7) 1)⟩, ⟨(some 9), none, (.mov (.tmp 1))⟩, ⟨(some 10), none, (.idx (.tmp 8) (.tmp 9) 3)⟩, ⟨(some 11), none, (.addo (.tmp 10) 0)⟩, ⟨(some 12), none, (.ld (.tmp 11) 1)⟩, ⟨(some 13), none, (.mov (.tmp 2))⟩, ⟨(some 14), none, (.cmpb .leq (.tmp 12) (.tmp 13))⟩, ⟨(some 15), none, (.mov (.tmp 14))⟩, ⟨(some 16), (some (15, true)), (.addo (.tmp 3) 1)⟩, ⟨(some 17), (some (15, true)), (.ld (.tmp 16) 1)⟩, ⟨(some 18), (some (15, true)), (.mov (.tmp 1))⟩, ⟨(some 19), (some (15, true)), (.idx (.tmp 17) (.tmp 18) 1)⟩, ⟨(some 20), (some (15, true)), (.ld (.tmp 19) 1)⟩, ⟨(some 21), (some (15, true)), (.cmpb .gtr (.tmp 20) (.const (.int .i64 0)))⟩, ⟨(some 22), none, (.pur ⟨(some 22), (.pick (.tmp 15) (.tmp 21) (.const (.bool false))), 4, "", (List.toArray []), none⟩)⟩, ⟨(some 6), none, (.mov (.tmp 22))⟩])
  .ret))
theorem L83 : low Try.prog Try.f83.ntmps (at_ Try.f83 []) = some R83 := by kernel_rfl
theorem N84 : Try.f84.ntmps = 26 := by kernel_rfl
theorem Z84 : Try.f84.results.toList = ((List.toArray [(.tmp 6)]) : Array ResultVar).toList := by kernel_rfl
theorem B84 : Try.f84.body = some (at_ Try.f84 []) := by kernel_rfl
noncomputable def R84 : RC := (.seq (.reg [⟨(some 3), none, (.box 128 (.tmp 0))⟩, ⟨(some 6), none, (.mov (.const (.int .i64 0)))⟩])
  (.seq (.reg [⟨(some 8), none, (.mov (.tmp 2))⟩, ⟨(some 9), none, (.addo (.tmp 3) 1)⟩, ⟨(some 10), none, (.ld (.tmp 9) 1)⟩, ⟨(some 11), none, (.mov (.tmp 1))⟩, ⟨(some 12), none, (.idx (.tmp 10) (.tmp 11) 1)⟩, ⟨(some 13), none, (.ld (.tmp 12) 1)⟩, ⟨(some 14), none, (.mm true (.tmp 8) (.tmp 13))⟩, ⟨(some 7), none, (.mov (.tmp 14))⟩])
  (.seq (.reg [⟨(some 15), none, (.addo (.tmp 3) 1)⟩, ⟨(some 16), none, (.ld (.tmp 15) 1)⟩, ⟨(some 17), none, (.mov (.tmp 1))⟩, ⟨(some 18), none, (.idx (.tmp 16) (.tmp 17) 1)⟩, ⟨(some 19), none, (.ld (.tmp 18) 1)⟩, ⟨(some 20), none, (.mov (.tmp 7))⟩, ⟨(some 21), none, (.ari .sub (.tmp 19) (.tmp 20))⟩, ⟨(some 22), none, (.idx (.tmp 16) (.tmp 17) 1)⟩, ⟨none, none, (.st (.tmp 22) (.tmp 21))⟩])
  (.seq (.reg [⟨(some 23), none, (.mov (.tmp 2))⟩, ⟨(some 24), none, (.mov (.tmp 7))⟩, ⟨(some 25), none, (.ari .sub (.tmp 23) (.tmp 24))⟩, ⟨(some 6), none, (.mov (.tmp 25))⟩])
  .ret))))
theorem L84 : low Try.prog Try.f84.ntmps (at_ Try.f84 []) = some R84 := by kernel_rfl
theorem N81 : Try.f81.ntmps = 8 := by kernel_rfl
theorem Z81 : Try.f81.results.toList = ((List.toArray [(.tmp 2)]) : Array ResultVar).toList := by kernel_rfl
theorem B81 : Try.f81.body = some (at_ Try.f81 []) := by kernel_rfl
noncomputable def R81 : RC := (.seq (.reg [⟨(some 1), none, (.box 76 (.tmp 0))⟩, ⟨(some 2), none, (.mov (.const (.int .i64 0)))⟩])
  (.seq (.seq (.reg [⟨(some 3), none, (.addo (.tmp 1) 2)⟩, ⟨(some 4), none, (.ld (.tmp 3) 1)⟩, ⟨(some 5), none, (.cmp .eql (.tmp 4) (.const (.int .i64 0)))⟩])
  (.cond (.tmp 5) (.seq (.reg [⟨(some 6), none, (.addo (.tmp 1) 0)⟩, ⟨(some 7), none, (.ld (.tmp 6) 1)⟩, ⟨(some 2), none, (.mov (.tmp 7))⟩])
  .ret)
  .skip))
  (.seq (.reg [⟨(some 2), none, (.mov (.const (.int .i64 501)))⟩])
  .ret)))
theorem L81 : low Try.prog Try.f81.ntmps (at_ Try.f81 []) = some R81 := by kernel_rfl
theorem N58 : Try.f58.ntmps = 75 := by kernel_rfl
theorem Z58 : Try.f58.results.toList = ((List.toArray [(.tmp 4)]) : Array ResultVar).toList := by kernel_rfl
theorem B58 : Try.f58.body = some (at_ Try.f58 []) := by kernel_rfl
noncomputable def R58 : RC := (.seq (.reg [⟨(some 4), none, (.mov (.const (.slice none 0 0)))⟩])
  (.scp (.seq (.reg [⟨(some 14), none, (.mov (.tmp 0))⟩, ⟨(some 15), none, (.pur ⟨(some 15), (.build 128 (List.toArray [(0, (.tmp 14))])), 128, "", (List.toArray []), none⟩)⟩, ⟨(some 5), none, (.alc 128 [(.slice none 0 0), (.slice none 0 0)])⟩, ⟨none, none, (.sta (.tmp 5) (.tmp 15) 2)⟩])
  (.seq (.reg [⟨(some 16), none, (.mov (.tmp 0))⟩, ⟨(some 17), none, (.len (.tmp 16))⟩, ⟨(some 18), none, (.mem ⟨(some 18), (.makeSlice 42 (.const (.int .i64 0)) (.tmp 17)), 42, "", (List.toArray []), none⟩)⟩, ⟨(some 6), none, (.mov (.tmp 18))⟩])
  (.seq (.seq (.reg [⟨(some 19), none, (.mov (.tmp 0))⟩, ⟨(some 20), none, (.len (.tmp 19))⟩, ⟨(some 21), none, (.mov (.const (.int .i64 0)))⟩])
  (.block 0 (.other (at_ Try.f58 [1, 0, 1, 1, 0, 1, 0]))))
  (.seq (.reg [⟨(some 38), none, (.lda (.tmp 5) 2)⟩, ⟨(some 39), none, (.call ⟨(.value (.func 82)), (List.toArray [(.tmp 38)]), (List.toArray [128])⟩ true)⟩, ⟨(some 9), none, (.mov (.tmp 39))⟩])
  (.seq .skip
  (.seq (.seq (.reg [⟨(some 40), none, (.mov (.const (.int .i64 0)))⟩])
  (.block 2 (.other (at_ Try.f58 [1, 0, 1, 1, 1, 1, 1, 0, 1, 0]))))
  (.seq (.reg [⟨(some 74), none, (.mov (.tmp 6))⟩, ⟨(some 4), none, (.mov (.tmp 74))⟩])
  .ret)))))))))
theorem L58 : low Try.prog Try.f58.ntmps (at_ Try.f58 []) = some R58 := by kernel_rfl
theorem E58_1 : at_ Try.f58 [1, 0, 1, 1, 0, 1, 0] = .loop (at_ Try.f58 [1, 0, 1, 1, 0, 1, 0, 0]) := by kernel_rfl
noncomputable def R58x1 : RC := (.seq (.reg [⟨(some 22), none, (.cmp .lss (.tmp 21) (.tmp 20))⟩])
  (.seq (.cond (.tmp 22) .skip
  (.exit 0))
  (.seq (.block 1 (.seq (.reg [⟨(some 23), none, (.idx (.tmp 19) (.tmp 21) 3)⟩, ⟨(some 24), none, (.lda (.tmp 23) 3)⟩, ⟨(some 8), none, (.alc 76 [(.int .i64 0), (.int .i64 0), (.int .i64 0)])⟩, ⟨none, none, (.sta (.tmp 8) (.tmp 24) 3)⟩])
  (.seq (.reg [⟨(some 25), none, (.addo (.tmp 5) 1)⟩, ⟨(some 26), none, (.ld (.tmp 25) 1)⟩, ⟨(some 27), none, (.addo (.tmp 8) 2)⟩, ⟨(some 28), none, (.ld (.tmp 27) 1)⟩, ⟨(some 29), none, (.mem ⟨(some 29), (.buildSlice 42 1 (List.toArray [(0, (.tmp 28))])), 42, "", (List.toArray []), none⟩)⟩, ⟨(some 30), none, (.mem ⟨(some 30), (.call ⟨(.builtin .append), (List.toArray [(.tmp 26), (.tmp 29)]), (List.toArray [42, 42])⟩), 42, "", (List.toArray []), none⟩)⟩, ⟨(some 31), none, (.addo (.tmp 5) 1)⟩, ⟨none, none, (.st (.tmp 31) (.tmp 30))⟩])
  (.reg [⟨(some 32), none, (.mov (.tmp 6))⟩, ⟨(some 33), none, (.lda (.tmp 8) 3)⟩, ⟨(some 34), none, (.call ⟨(.value (.func 81)), (List.toArray [(.tmp 33)]), (List.toArray [76])⟩ true)⟩, ⟨(some 35), none, (.mem ⟨(some 35), (.buildSlice 42 1 (List.toArray [(0, (.tmp 34))])), 42, "", (List.toArray []), none⟩)⟩, ⟨(some 36), none, (.mem ⟨(some 36), (.call ⟨(.builtin .append), (List.toArray [(.tmp 32), (.tmp 35)]), (List.toArray [42, 42])⟩), 42, "", (List.toArray []), none⟩)⟩, ⟨(some 6), none, (.mov (.tmp 36))⟩]))))
  (.reg [⟨(some 37), none, (.ari .add (.tmp 21) (.const (.int .i64 1)))⟩, ⟨(some 21), none, (.mov (.tmp 37))⟩]))))
theorem L58x1 : low Try.prog Try.f58.ntmps (at_ Try.f58 [1, 0, 1, 1, 0, 1, 0, 0]) = some R58x1 := by kernel_rfl
theorem E58_2 : at_ Try.f58 [1, 0, 1, 1, 1, 1, 1, 0, 1, 0] = .loop (at_ Try.f58 [1, 0, 1, 1, 1, 1, 1, 0, 1, 0, 0]) := by kernel_rfl
noncomputable def R58x2 : RC := (.seq (.reg [⟨(some 41), none, (.cmp .lss (.tmp 40) (.const (.int .i64 500)))⟩])
  (.seq (.cond (.tmp 41) .skip
  (.exit 2))
  (.seq (.block 3 (.seq (.reg [⟨(some 42), none, (.mov (.tmp 40))⟩, ⟨(some 10), none, (.mov (.tmp 42))⟩])
  (.seq (.reg [⟨(some 43), none, (.mov (.tmp 1))⟩, ⟨(some 11), none, (.mov (.tmp 43))⟩])
  (.seq (.reg [⟨(some 44), none, (.mov (.tmp 9))⟩, ⟨(some 45), none, (.len (.tmp 44))⟩, ⟨(some 46), none, (.mov (.const (.int .i64 0)))⟩])
  (.block 4 (.other (at_ Try.f58 [1, 0, 1, 1, 1, 1, 1, 0, 1, 0, 0, 1, 1, 0, 0, 1, 1, 1, 0])))))))
  (.reg [⟨(some 73), none, (.ari .add (.tmp 40) (.const (.int .i64 1)))⟩, ⟨(some 40), none, (.mov (.tmp 73))⟩]))))
theorem L58x2 : low Try.prog Try.f58.ntmps (at_ Try.f58 [1, 0, 1, 1, 1, 1, 1, 0, 1, 0, 0]) = some R58x2 := by kernel_rfl
theorem E58_3 : at_ Try.f58 [1, 0, 1, 1, 1, 1, 1, 0, 1, 0, 0, 1, 1, 0, 0, 1, 1, 1, 0] = .loop (at_ Try.f58 [1, 0, 1, 1, 1, 1, 1, 0, 1, 0, 0, 1, 1, 0, 0, 1, 1, 1, 0, 0]) := by kernel_rfl
noncomputable def R58x3 : RC := (.seq (.reg [⟨(some 47), none, (.cmp .lss (.tmp 46) (.tmp 45))⟩])
  (.seq (.cond (.tmp 47) .skip
  (.exit 4))
  (.seq (.block 5 (.seq (.reg [⟨(some 48), none, (.idx (.tmp 44) (.tmp 46) 1)⟩, ⟨(some 49), none, (.ld (.tmp 48) 1)⟩, ⟨(some 13), none, (.mov (.tmp 49))⟩])
  (.seq (.seq (.reg [⟨(some 50), none, (.mov (.tmp 11))⟩, ⟨(some 51), none, (.cmp .eql (.tmp 50) (.const (.int .i64 0)))⟩])
  (.cond (.tmp 51) (.exit 3)
  .skip))
  (.seq (.seq (.reg [⟨(some 52), none, (.lda (.tmp 5) 2)⟩, ⟨(some 53), none, (.mov (.tmp 13))⟩, ⟨(some 54), none, (.mov (.tmp 10))⟩, ⟨(some 55), none, (.call ⟨(.value (.func 83)), (List.toArray [(.tmp 52), (.tmp 53), (.tmp 54)]), (List.toArray [128, 3, 3])⟩ true)⟩, ⟨(some 56), none, (.pur ⟨(some 56), (.unOp .not 4 (.tmp 55)), 4, "", (List.toArray []), none⟩)⟩])
  (.cond (.tmp 56) (.exit 5)
  .skip))
  (.seq (.reg [⟨(some 57), none, (.lda (.tmp 5) 2)⟩, ⟨(some 58), none, (.mov (.tmp 13))⟩, ⟨(some 59), none, (.mov (.tmp 11))⟩, ⟨(some 60), none, (.call ⟨(.value (.func 84)), (List.toArray [(.tmp 57), (.tmp 58), (.tmp 59)]), (List.toArray [128, 3, 3])⟩ true)⟩, ⟨(some 11), none, (.mov (.tmp 60))⟩])
  (.seq (.reg [⟨(some 61), none, (.addo (.tmp 5) 1)⟩, ⟨(some 62), none, (.ld (.tmp 61) 1)⟩, ⟨(some 63), none, (.mov (.tmp 13))⟩, ⟨(some 64), none, (.idx (.tmp 62) (.tmp 63) 1)⟩, ⟨(some 65), none, (.ld (.tmp 64) 1)⟩, ⟨(some 66), none, (.cmp .eql (.tmp 65) (.const (.int .i64 0)))⟩])
  (.cond (.tmp 66) (.reg [⟨(some 67), none, (.mov (.tmp 6))⟩, ⟨(some 68), none, (.mov (.tmp 13))⟩, ⟨(some 69), none, (.mov (.tmp 10))⟩, ⟨(some 70), none, (.ari .add (.tmp 69) (.const (.int .i64 1)))⟩, ⟨(some 71), none, (.idx (.tmp 67) (.tmp 68) 1)⟩, ⟨none, none, (.st (.tmp 71) (.tmp 70))⟩])
  .skip)))))))
  (.reg [⟨(some 72), none, (.ari .add (.tmp 46) (.const (.int .i64 1)))⟩, ⟨(some 46), none, (.mov (.tmp 72))⟩]))))
theorem L58x3 : low Try.prog Try.f58.ntmps (at_ Try.f58 [1, 0, 1, 1, 1, 1, 1, 0, 1, 0, 0, 1, 1, 0, 0, 1, 1, 1, 0, 0]) = some R58x3 := by kernel_rfl
theorem N28 : Try.f28.ntmps = 21 := by kernel_rfl
theorem Z28 : Try.f28.results.toList = ((List.toArray [(.tmp 4), (.tmp 5)]) : Array ResultVar).toList := by kernel_rfl
theorem B28 : Try.f28.body = some (at_ Try.f28 []) := by kernel_rfl
noncomputable def R28 : RC := (.seq (.reg [⟨(some 4), none, (.mov (.const (.slice none 0 0)))⟩, ⟨(some 5), none, (.mov (.const (.int .i64 0)))⟩])
  (.seq (.seq (.reg [⟨(some 7), none, (.mov (.tmp 0))⟩, ⟨(some 8), none, (.call ⟨(.value (.func 57)), (List.toArray [(.tmp 7)]), (List.toArray [47])⟩ true)⟩, ⟨(some 6), none, (.mov (.tmp 8))⟩])
  (.seq (.reg [⟨(some 9), none, (.mov (.tmp 6))⟩, ⟨(some 10), none, (.cmp .neq (.tmp 9) (.const (.int .i64 0)))⟩])
  (.cond (.tmp 10) (.seq (.reg [⟨(some 11), none, (.mov (.tmp 6))⟩, ⟨(some 4), none, (.mov (.const (.slice none 0 0)))⟩, ⟨(some 5), none, (.mov (.tmp 11))⟩])
  .ret)
  .skip)))
  (.seq (.seq (.reg [⟨(some 12), none, (.mov (.tmp 1))⟩, ⟨(some 13), none, (.cmpb .lss (.tmp 12) (.const (.int .i64 1)))⟩, ⟨(some 14), none, (.mov (.tmp 13))⟩, ⟨(some 15), (some (14, false)), (.mov (.tmp 1))⟩, ⟨(some 16), (some (14, false)), (.cmpb .gtr (.tmp 15) (.const (.int .i64 17592186044416)))⟩, ⟨(some 17), none, (.pur ⟨(some 17), (.pick (.tmp 14) (.const (.bool true)) (.tmp 16)), 4, "", (List.toArray []), none⟩)⟩])
  (.cond (.tmp 17) (.seq (.reg [⟨(some 4), none, (.mov (.const (.slice none 0 0)))⟩, ⟨(some 5), none, (.mov (.const (.int .i64 2)))⟩])
  .ret)
  .skip))
  (.seq (.reg [⟨(some 18), none, (.mov (.tmp 0))⟩, ⟨(some 19), none, (.mov (.tmp 1))⟩, ⟨(some 20), none, (.call ⟨(.value (.func 58)), (List.toArray [(.tmp 18), (.tmp 19)]), (List.toArray [47, 3])⟩ true)⟩, ⟨(some 4), none, (.mov (.tmp 20))⟩, ⟨(some 5), none, (.mov (.const (.int .i64 0)))⟩])
  .ret))))
theorem L28 : low Try.prog Try.f28.ntmps (at_ Try.f28 []) = some R28 := by kernel_rfl
theorem N39 : Try.f39.ntmps = 33 := by kernel_rfl
theorem Z39 : Try.f39.results.toList = ((List.toArray [(.tmp 2)]) : Array ResultVar).toList := by kernel_rfl
theorem B39 : Try.f39.body = some (at_ Try.f39 []) := by kernel_rfl
noncomputable def R39 : RC := (.seq (.reg [⟨(some 2), none, (.mov (.const (.bool false)))⟩])
  (.seq (.seq (.reg [⟨(some 3), none, (.mov (.const (.int .i64 0)))⟩])
  (.block 0 (.other (at_ Try.f39 [1, 0, 1, 0]))))
  (.seq (.reg [⟨(some 2), none, (.mov (.const (.bool true)))⟩])
  .ret)))
theorem L39 : low Try.prog Try.f39.ntmps (at_ Try.f39 []) = some R39 := by kernel_rfl
theorem E39_1 : at_ Try.f39 [1, 0, 1, 0] = .loop (at_ Try.f39 [1, 0, 1, 0, 0]) := by kernel_rfl
noncomputable def R39x1 : RC := (.seq (.seq (.reg [⟨(some 5), none, (.mov (.tmp 3))⟩, ⟨(some 6), none, (.mov (.tmp 0))⟩, ⟨(some 7), none, (.len (.tmp 6))⟩, ⟨(some 8), none, (.cmp .lss (.tmp 5) (.tmp 7))⟩])
  (.cond (.tmp 8) .skip
  (.exit 0)))
  (.seq (.block 1 (.seq (.reg [⟨(some 11), none, (.mov (.tmp 0))⟩, ⟨(some 12), none, (.mov (.tmp 3))⟩, ⟨(some 13), none, (.idx (.tmp 11) (.tmp 12) 3)⟩, ⟨(some 14), none, (.lda (.tmp 13) 3)⟩, ⟨(some 4), none, (.alc 76 [(.int .i64 0), (.int .i64 0), (.int .i64 0)])⟩, ⟨none, none, (.sta (.tmp 4) (.tmp 14) 3)⟩])
  (.seq (.reg [⟨(some 15), none, (.addo (.tmp 4) 0)⟩, ⟨(some 16), none, (.ld (.tmp 15) 1)⟩, ⟨(some 17), none, (.call ⟨(.value (.func 50)), (List.toArray [(.tmp 16), (.const (.int .i64 0)), (.const (.int .i64 500))]), (List.toArray [3, 3, 3])⟩ true)⟩, ⟨(some 18), none, (.pur ⟨(some 18), (.unOp .not 4 (.tmp 17)), 4, "", (List.toArray []), none⟩)⟩, ⟨(some 19), none, (.mov (.tmp 18))⟩, ⟨(some 20), (some (19, false)), (.addo (.tmp 4) 1)⟩, ⟨(some 21), (some (19, false)), (.ld (.tmp 20) 1)⟩, ⟨(some 22), (some (19, false)), (.addo (.tmp 4) 0)⟩, ⟨(some 23), (some (19, false)), (.ld (.tmp 22) 1)⟩, ⟨(some 24), (some (19, false)), (.call ⟨(.value (.func 50)), (List.toArray [(.tmp 21), (.tmp 23), (.const (.int .i64 500))]), (List.toArray [3, 3, 3])⟩ true)⟩, ⟨(some 25), (some (19, false)), (.pur ⟨(some 25), (.unOp .not 4 (.tmp 24)), 4, "", (List.toArray []), none⟩)⟩, ⟨(some 26), none, (.pur ⟨(some 26), (.pick (.tmp 19) (.const (.bool true)) (.tmp 25)), 4, "", (List.toArray []), none⟩)⟩, ⟨(some 27), none, (.mov (.tmp 26))⟩, ⟨(some 28), (some (27, false)), (.addo (.tmp 4) 2)⟩, ⟨(some 29), (some (27, false)), (.ld (.tmp 28) 1)⟩, ⟨(some 30), (some (27, false)), (.call ⟨(.value (.func 50)), (List.toArray [(.tmp 29), (.const (.int .i64 0)), (.const (.int .i64 1099511627776))]), (List.toArray [3, 3, 3])⟩ true)⟩, ⟨(some 31), (some (27, false)), (.pur ⟨(some 31), (.unOp .not 4 (.tmp 30)), 4, "", (List.toArray []), none⟩)⟩, ⟨(some 32), none, (.pur ⟨(some 32), (.pick (.tmp 27) (.const (.bool true)) (.tmp 31)), 4, "", (List.toArray []), none⟩)⟩])
  (.cond (.tmp 32) (.seq (.reg [⟨(some 2), none, (.mov (.const (.bool false)))⟩])
  .ret)
  .skip))))
  (.reg [⟨(some 9), none, (.mov (.tmp 3))⟩, ⟨(some 10), none, (.ari .add (.tmp 9) (.const (.int .i64 1)))⟩, ⟨(some 3), none, (.mov (.tmp 10))⟩])))
theorem L39x1 : low Try.prog Try.f39.ntmps (at_ Try.f39 [1, 0, 1, 0, 0]) = some R39x1 := by kernel_rfl
theorem N40 : Try.f40.ntmps = 22 := by kernel_rfl
theorem Z40 : Try.f40.results.toList = ((List.toArray [(.tmp 4)]) : Array ResultVar).toList := by kernel_rfl
theorem B40 : Try.f40.body = some (at_ Try.f40 []) := by kernel_rfl
noncomputable def R40 : RC := (.seq (.reg [⟨(some 4), none, (.mov (.const (.bool false)))⟩])
  (.seq (.seq (.reg [⟨(some 5), none, (.mov (.const (.int .i64 0)))⟩])
  (.block 0 (.other (at_ Try.f40 [1, 0, 1, 0]))))
  (.seq (.reg [⟨(some 4), none, (.mov (.const (.bool false)))⟩])
  .ret)))
theorem L40 : low Try.prog Try.f40.ntmps (at_ Try.f40 []) = some R40 := by kernel_rfl
theorem E40_1 : at_ Try.f40 [1, 0, 1, 0] = .loop (at_ Try.f40 [1, 0, 1, 0, 0]) := by kernel_rfl
noncomputable def R40x1 : RC := (.seq (.seq (.reg [⟨(some 6), none, (.mov (.tmp 5))⟩, ⟨(some 7), none, (.mov (.tmp 0))⟩, ⟨(some 8), none, (.len (.tmp 7))⟩, ⟨(some 9), none, (.cmp .lss (.tmp 6) (.tmp 8))⟩])
  (.cond (.tmp 9) .skip
  (.exit 0)))
  (.seq (.block 1 (.seq (.dreg [⟨(some 12), none, (.mov (.tmp 1))⟩, ⟨(some 13), none, (.mov (.tmp 5))⟩, ⟨(some 14), none, (.idx (.tmp 12) (.tmp 13) 1)⟩, ⟨(some 15), none, (.ld (.tmp 14) 1)⟩, ⟨(some 16), none, (.mov (.tmp 0))⟩, ⟨(some 17), none, (.mov (.tmp 5))⟩, ⟨(some 18), none, (.idx (.tmp 16) (.tmp 17) 3)⟩, ⟨(some 19), none, (.addo (.tmp 18) 1)⟩, ⟨(some 20), none, (.ld (.tmp 19) 1)⟩, ⟨(some 21), none, (.cmp .gtr (.tmp 15) (.tmp 20))⟩] [511, 240, 112, 48, 0, 0, 7, 3, 0, 0])
  (.cond (.tmp 21) (.seq (.reg [⟨(some 4), none, (.mov (.const (.bool true)))⟩])
  .ret)
  .skip)))
  (.reg [⟨(some 10), none, (.mov (.tmp 5))⟩, ⟨(some 11), none, (.ari .add (.tmp 10) (.const (.int .i64 1)))⟩, ⟨(some 5), none, (.mov (.tmp 11))⟩])))
theorem L40x1 : low Try.prog Try.f40.ntmps (at_ Try.f40 [1, 0, 1, 0, 0]) = some R40x1 := by kernel_rfl
theorem N85 : Try.f85.ntmps = 48 := by kernel_rfl
theorem Z85 : Try.f85.results.toList = ((List.toArray [(.tmp 6)]) : Array ResultVar).toList := by kernel_rfl
theorem B85 : Try.f85.body = some (at_ Try.f85 []) := by kernel_rfl
noncomputable def R85 : RC := (.seq (.reg [⟨(some 6), none, (.mov (.const (.int .i64 0)))⟩])
  (.seq (.reg [⟨(some 7), none, (.mov (.const (.int .i64 (-1))))⟩])
  (.seq (.seq (.reg [⟨(some 8), none, (.mov (.const (.int .i64 0)))⟩])
  (.block 0 (.other (at_ Try.f85 [1, 1, 0, 1, 0]))))
  (.seq (.reg [⟨(some 47), none, (.mov (.tmp 7))⟩, ⟨(some 6), none, (.mov (.tmp 47))⟩])
  .ret))))
theorem L85 : low Try.prog Try.f85.ntmps (at_ Try.f85 []) = some R85 := by kernel_rfl
theorem E85_1 : at_ Try.f85 [1, 1, 0, 1, 0] = .loop (at_ Try.f85 [1, 1, 0, 1, 0, 0]) := by kernel_rfl
noncomputable def R85x1 : RC := (.seq (.seq (.reg [⟨(some 9), none, (.mov (.tmp 8))⟩, ⟨(some 10), none, (.mov (.tmp 0))⟩, ⟨(some 11), none, (.len (.tmp 10))⟩, ⟨(some 12), none, (.cmp .lss (.tmp 9) (.tmp 11))⟩])
  (.cond (.tmp 12) .skip
  (.exit 0)))
  (.seq (.block 1 (.seq (.dreg [⟨(some 15), none, (.mov (.tmp 0))⟩, ⟨(some 16), none, (.mov (.tmp 8))⟩, ⟨(some 17), none, (.idx (.tmp 15) (.tmp 16) 3)⟩, ⟨(some 18), none, (.addo (.tmp 17) 0)⟩, ⟨(some 19), none, (.ld (.tmp 18) 1)⟩, ⟨(some 20), none, (.mov (.tmp 2))⟩, ⟨(some 21), none, (.cmpb .leq (.tmp 19) (.tmp 20))⟩, ⟨(some 22), none, (.mov (.tmp 21))⟩, ⟨(some 23), (some (22, true)), (.mov (.tmp 1))⟩, ⟨(some 24), (some (22, true)), (.mov (.tmp 8))⟩, ⟨(some 25), (some (22, true)), (.idx (.tmp 23) (.tmp 24) 1)⟩, ⟨(some 26), (some (22, true)), (.ld (.tmp 25) 1)⟩, ⟨(some 27), (some (22, true)), (.cmpb .gtr (.tmp 26) (.const (.int .i64 0)))⟩, ⟨(some 28), none, (.pur ⟨(some 28), (.pick (.tmp 22) (.tmp 27) (.const (.bool false))), 4, "", (List.toArray []), none⟩)⟩, ⟨(some 29), none, (.mov (.tmp 28))⟩, ⟨(some 30), (some (29, true)), (.mov (.tmp 7))⟩, ⟨(some 31), (some (29, true)), (.cmpb .lss (.tmp 30) (.const (.int .i64 0)))⟩, ⟨(some 32), (some (29, true)), (.mov (.tmp 31))⟩, ⟨(some 33), (some (32, false)), (.mov (.tmp 0))⟩, ⟨(some 34), (some (32, false)), (.mov (.tmp 8))⟩, ⟨(some 35), (some (32, false)), (.idx (.tmp 33) (.tmp 34) 3)⟩, ⟨(some 36), (some (32, false)), (.addo (.tmp 35) 1)⟩, ⟨(some 37), (some (32, false)), (.ld (.tmp 36) 1)⟩, ⟨(some 38), (some (32, false)), (.mov (.tmp 0))⟩, ⟨(some 39), (some (32, false)), (.mov (.tmp 7))⟩, ⟨(some 40), (some (32, false)), (.idx (.tmp 38) (.tmp 39) 3)⟩, ⟨(some 41), (some (32, false)), (.addo (.tmp 40) 1)⟩, ⟨(some 42), (some (32, false)), (.ld (.tmp 41) 1)⟩, ⟨(some 43), (some (32, false)), (.cmpb .lss (.tmp 37) (.tmp 42))⟩, ⟨(some 44), (some (29, true)), (.pur ⟨(some 44), (.pick (.tmp 32) (.const (.bool true)) (.tmp 43)), 4, "", (List.toArray []), none⟩)⟩, ⟨(some 45), none, (.pur ⟨(some 45), (.pick (.tmp 29) (.tmp 44) (.const (.bool false))), 4, "", (List.toArray []), none⟩)⟩] [1073741823, 536870911, 268435455, 126091263, 58982399, 25427967, 262143, 262143, 4194303, 2097151, 1048575, 262143, 262143, 131071, 65535, 32767, 16383, 8191, 4095, 2047, 1023, 255, 255, 127, 63, 0, 15, 7, 3, 0, 0])
  (.cond (.tmp 45) (.reg [⟨(some 46), none, (.mov (.tmp 8))⟩, ⟨(some 7), none, (.mov (.tmp 46))⟩])
  .skip)))
  (.reg [⟨(some 13), none, (.mov (.tmp 8))⟩, ⟨(some 14), none, (.ari .add (.tmp 13) (.const (.int .i64 1)))⟩, ⟨(some 8), none, (.mov (.tmp 14))⟩])))
theorem L85x1 : low Try.prog Try.f85.ntmps (at_ Try.f85 [1, 1, 0, 1, 0, 0]) = some R85x1 := by kernel_rfl
theorem N59 : Try.f59.ntmps = 85 := by kernel_rfl
theorem Z59 : Try.f59.results.toList = ((List.toArray [(.tmp 4)]) : Array ResultVar).toList := by kernel_rfl
theorem B59 : Try.f59.body = some (at_ Try.f59 []) := by kernel_rfl
noncomputable def R59 : RC := (.seq (.reg [⟨(some 4), none, (.mov (.const (.slice none 0 0)))⟩])
  (.seq (.reg [⟨(some 5), none, (.mov (.const (.slice none 0 0)))⟩, ⟨(some 6), none, (.mov (.const (.slice none 0 0)))⟩])
  (.seq (.seq (.reg [⟨(some 7), none, (.mov (.const (.int .i64 0)))⟩])
  (.block 0 (.other (at_ Try.f59 [1, 1, 0, 1, 0]))))
  (.seq (.seq (.reg [⟨(some 8), none, (.mov (.const (.int .i64 0)))⟩])
  (.block 2 (.other (at_ Try.f59 [1, 1, 1, 0, 1, 0]))))
  (.seq (.reg [⟨(some 84), none, (.mov (.tmp 6))⟩, ⟨(some 4), none, (.mov (.tmp 84))⟩])
  .ret)))))
theorem L59 : low Try.prog Try.f59.ntmps (at_ Try.f59 []) = some R59 := by kernel_rfl
theorem E59_1 : at_ Try.f59 [1, 1, 0, 1, 0] = .loop (at_ Try.f59 [1, 1, 0, 1, 0, 0]) := by kernel_rfl
noncomputable def R59x1 : RC := (.seq (.seq (.reg [⟨(some 12), none, (.mov (.tmp 7))⟩, ⟨(some 13), none, (.mov (.tmp 0))⟩, ⟨(some 14), none, (.len (.tmp 13))⟩, ⟨(some 15), none, (.cmp .lss (.tmp 12) (.tmp 14))⟩])
  (.cond (.tmp 15) .skip
  (.exit 0)))
  (.seq (.block 1 (.seq (.reg [⟨(some 18), none, (.mov (.tmp 5))⟩, ⟨(some 19), none, (.mov (.tmp 0))⟩, ⟨(some 20), none, (.mov (.tmp 7))⟩, ⟨(some 21), none, (.idx (.tmp 19) (.tmp 20) 3)⟩, ⟨(some 22), none, (.addo (.tmp 21) 2)⟩, ⟨(some 23), none, (.ld (.tmp 22) 1)⟩, ⟨(some 24), none, (.mem ⟨(some 24), (.buildSlice 42 1 (List.toArray [(0, (.tmp 23))])), 42, "", (List.toArray []), none⟩)⟩, ⟨(some 25), none, (.mem ⟨(some 25), (.call ⟨(.builtin .append), (List.toArray [(.tmp 18), (.tmp 24)]), (List.toArray [42, 42])⟩), 42, "", (List.toArray []), none⟩)⟩, ⟨(some 5), none, (.mov (.tmp 25))⟩])
  (.seq (.reg [⟨(some 26), none, (.mov (.tmp 0))⟩, ⟨(some 27), none, (.mov (.tmp 7))⟩, ⟨(some 28), none, (.idx (.tmp 26) (.tmp 27) 3)⟩, ⟨(some 29), none, (.addo (.tmp 28) 2)⟩, ⟨(some 30), none, (.ld (.tmp 29) 1)⟩, ⟨(some 31), none, (.cmp .eql (.tmp 30) (.const (.int .i64 0)))⟩])
  (.cond (.tmp 31) (.reg [⟨(some 32), none, (.mov (.tmp 6))⟩, ⟨(some 33), none, (.mov (.tmp 0))⟩, ⟨(some 34), none, (.mov (.tmp 7))⟩, ⟨(some 35), none, (.idx (.tmp 33) (.tmp 34) 3)⟩, ⟨(some 36), none, (.addo (.tmp 35) 0)⟩, ⟨(some 37), none, (.ld (.tmp 36) 1)⟩, ⟨(some 38), none, (.mem ⟨(some 38), (.buildSlice 42 1 (List.toArray [(0, (.tmp 37))])), 42, "", (List.toArray []), none⟩)⟩, ⟨(some 39), none, (.mem ⟨(some 39), (.call ⟨(.builtin .append), (List.toArray [(.tmp 32), (.tmp 38)]), (List.toArray [42, 42])⟩), 42, "", (List.toArray []), none⟩)⟩, ⟨(some 6), none, (.mov (.tmp 39))⟩])
  (.reg [⟨(some 40), none, (.mov (.tmp 6))⟩, ⟨(some 41), none, (.mem ⟨(some 41), (.buildSlice 42 1 (List.toArray [(0, (.const (.int .i64 501)))])), 42, "", (List.toArray []), none⟩)⟩, ⟨(some 42), none, (.mem ⟨(some 42), (.call ⟨(.builtin .append), (List.toArray [(.tmp 40), (.tmp 41)]), (List.toArray [42, 42])⟩), 42, "", (List.toArray []), none⟩)⟩, ⟨(some 6), none, (.mov (.tmp 42))⟩])))))
  (.reg [⟨(some 16), none, (.mov (.tmp 7))⟩, ⟨(some 17), none, (.ari .add (.tmp 16) (.const (.int .i64 1)))⟩, ⟨(some 7), none, (.mov (.tmp 17))⟩])))
theorem L59x1 : low Try.prog Try.f59.ntmps (at_ Try.f59 [1, 1, 0, 1, 0, 0]) = some R59x1 := by kernel_rfl
theorem E59_2 : at_ Try.f59 [1, 1, 1, 0, 1, 0] = .loop (at_ Try.f59 [1, 1, 1, 0, 1, 0, 0]) := by kernel_rfl
noncomputable def R59x2 : RC := (.seq (.seq (.reg [⟨(some 43), none, (.mov (.tmp 8))⟩, ⟨(some 44), none, (.cmp .lss (.tmp 43) (.const (.int .i64 500)))⟩])
  (.cond (.tmp 44) .skip
  (.exit 2)))
  (.seq (.block 3 (.seq (.reg [⟨(some 47), none, (.mov (.tmp 1))⟩, ⟨(some 9), none, (.mov (.tmp 47))⟩])
  (.block 4 (.other (at_ Try.f59 [1, 1, 1, 0, 1, 0, 0, 1, 0, 0, 1, 0])))))
  (.reg [⟨(some 45), none, (.mov (.tmp 8))⟩, ⟨(some 46), none, (.ari .add (.tmp 45) (.const (.int .i64 1)))⟩, ⟨(some 8), none, (.mov (.tmp 46))⟩])))
theorem L59x2 : low Try.prog Try.f59.ntmps (at_ Try.f59 [1, 1, 1, 0, 1, 0, 0]) = some R59x2 := by kernel_rfl
theorem E59_3 : at_ Try.f59 [1, 1, 1, 0, 1, 0, 0, 1, 0, 0, 1, 0] = .loop (at_ Try.f59 [1, 1, 1, 0, 1, 0, 0, 1, 0, 0, 1, 0, 0]) := by kernel_rfl
noncomputable def R59x3 : RC := (.seq (.seq (.reg [⟨(some 48), none, (.mov (.tmp 9))⟩, ⟨(some 49), none, (.cmp .gtr (.tmp 48) (.const (.int .i64 0)))⟩])
  (.cond (.tmp 49) .skip
  (.exit 4)))
  (.block 5 (.seq (.reg [⟨(some 50), none, (.mov (.tmp 0))⟩, ⟨(some 51), none, (.mov (.tmp 5))⟩, ⟨(some 52), none, (.mov (.tmp 8))⟩, ⟨(some 53), none, (.call ⟨(.value (.func 85)), (List.toArray [(.tmp 50), (.tmp 51), (.tmp 52)]), (List.toArray [47, 42, 3])⟩ true)⟩, ⟨(some 10), none, (.mov (.tmp 53))⟩])
  (.seq (.seq (.reg [⟨(some 54), none, (.mov (.tmp 10))⟩, ⟨(some 55), none, (.cmp .lss (.tmp 54) (.const (.int .i64 0)))⟩])
  (.cond (.tmp 55) (.exit 4)
  .skip))
  (.seq (.reg [⟨(some 56), none, (.mov (.tmp 9))⟩, ⟨(some 57), none, (.mov (.tmp 5))⟩, ⟨(some 58), none, (.mov (.tmp 10))⟩, ⟨(some 59), none, (.idx (.tmp 57) (.tmp 58) 1)⟩, ⟨(some 60), none, (.ld (.tmp 59) 1)⟩, ⟨(some 61), none, (.mm true (.tmp 56) (.tmp 60))⟩, ⟨(some 11), none, (.mov (.tmp 61))⟩])
  (.seq (.reg [⟨(some 62), none, (.mov (.tmp 5))⟩, ⟨(some 63), none, (.mov (.tmp 10))⟩, ⟨(some 64), none, (.mov (.tmp 5))⟩, ⟨(some 65), none, (.mov (.tmp 10))⟩, ⟨(some 66), none, (.idx (.tmp 64) (.tmp 65) 1)⟩, ⟨(some 67), none, (.ld (.tmp 66) 1)⟩, ⟨(some 68), none, (.mov (.tmp 11))⟩, ⟨(some 69), none, (.ari .sub (.tmp 67) (.tmp 68))⟩, ⟨(some 70), none, (.idx (.tmp 62) (.tmp 63) 1)⟩, ⟨none, none, (.st (.tmp 70) (.tmp 69))⟩])
  (.seq (.reg [⟨(some 71), none, (.mov (.tmp 9))⟩, ⟨(some 72), none, (.mov (.tmp 11))⟩, ⟨(some 73), none, (.ari .sub (.tmp 71) (.tmp 72))⟩, ⟨(some 9), none, (.mov (.tmp 73))⟩])
  (.seq (.reg [⟨(some 74), none, (.mov (.tmp 5))⟩, ⟨(some 75), none, (.mov (.tmp 10))⟩, ⟨(some 76), none, (.idx (.tmp 74) (.tmp 75) 1)⟩, ⟨(some 77), none, (.ld (.tmp 76) 1)⟩, ⟨(some 78), none, (.cmp .eql (.tmp 77) (.const (.int .i64 0)))⟩])
  (.cond (.tmp 78) (.reg [⟨(some 79), none, (.mov (.tmp 6))⟩, ⟨(some 80), none, (.mov (.tmp 10))⟩, ⟨(some 81), none, (.mov (.tmp 8))⟩, ⟨(some 82), none, (.ari .add (.tmp 81) (.const (.int .i64 1)))⟩, ⟨(some 83), none, (.idx (.tmp 79) (.tmp 80) 1)⟩, ⟨none, none, (.st (.tmp 83) (.tmp 82))⟩])
  .skip)))))))))
theorem L59x3 : low Try.prog Try.f59.ntmps (at_ Try.f59 [1, 1, 1, 0, 1, 0, 0, 1, 0, 0, 1, 0, 0]) = some R59x3 := by kernel_rfl
theorem N29 : Try.f29.ntmps = 18 := by kernel_rfl
theorem Z29 : Try.f29.results.toList = ((List.toArray [(.tmp 4), (.tmp 5)]) : Array ResultVar).toList := by kernel_rfl
theorem B29 : Try.f29.body = some (at_ Try.f29 []) := by kernel_rfl
noncomputable def R29 : RC := (.seq (.reg [⟨(some 4), none, (.mov (.const (.slice none 0 0)))⟩, ⟨(some 5), none, (.mov (.const (.int .i64 0)))⟩])
  (.seq (.seq (.reg [⟨(some 6), none, (.mov (.tmp 0))⟩, ⟨(some 7), none, (.len (.tmp 6))⟩, ⟨(some 8), none, (.cmp .gtr (.tmp 7) (.const (.int .i64 16)))⟩])
  (.cond (.tmp 8) (.seq (.reg [⟨(some 4), none, (.mov (.const (.slice none 0 0)))⟩, ⟨(some 5), none, (.mov (.const (.int .i64 3)))⟩])
  .ret)
  .skip))
  (.seq (.seq (.reg [⟨(some 9), none, (.mov (.tmp 0))⟩, ⟨(some 10), none, (.call ⟨(.value (.func 39)), (List.toArray [(.tmp 9)]), (List.toArray [47])⟩ true)⟩, ⟨(some 11), none, (.pur ⟨(some 11), (.unOp .not 4 (.tmp 10)), 4, "", (List.toArray []), none⟩)⟩])
  (.cond (.tmp 11) (.seq (.reg [⟨(some 4), none, (.mov (.const (.slice none 0 0)))⟩, ⟨(some 5), none, (.mov (.const (.int .i64 1)))⟩])
  .ret)
  .skip))
  (.seq (.seq (.reg [⟨(some 12), none, (.mov (.tmp 1))⟩, ⟨(some 13), none, (.call ⟨(.value (.func 50)), (List.toArray [(.tmp 12), (.const (.int .i64 1)), (.const (.int .i64 17592186044416))]), (List.toArray [3, 3, 3])⟩ true)⟩, ⟨(some 14), none, (.pur ⟨(some 14), (.unOp .not 4 (.tmp 13)), 4, "", (List.toArray []), none⟩)⟩])
  (.cond (.tmp 14) (.seq (.reg [⟨(some 4), none, (.mov (.const (.slice none 0 0)))⟩, ⟨(some 5), none, (.mov (.const (.int .i64 2)))⟩])
  .ret)
  .skip))
  (.seq (.reg [⟨(some 15), none, (.mov (.tmp 0))⟩, ⟨(some 16), none, (.mov (.tmp 1))⟩, ⟨(some 17), none, (.call ⟨(.value (.func 59)), (List.toArray [(.tmp 15), (.tmp 16)]), (List.toArray [47, 3])⟩ true)⟩, ⟨(some 4), none, (.mov (.tmp 17))⟩, ⟨(some 5), none, (.mov (.const (.int .i64 0)))⟩])
  .ret)))))
theorem L29 : low Try.prog Try.f29.ntmps (at_ Try.f29 []) = some R29 := by kernel_rfl
theorem N86 : Try.f86.ntmps = 9 := by kernel_rfl
theorem Z86 : Try.f86.results.toList = ((List.toArray [(.tmp 4)]) : Array ResultVar).toList := by kernel_rfl
theorem B86 : Try.f86.body = some (at_ Try.f86 []) := by kernel_rfl
noncomputable def R86 : RC := (.seq (.reg [⟨(some 4), none, (.mov (.const (.bool false)))⟩])
  (.seq (.reg [⟨(some 5), none, (.mov (.tmp 0))⟩, ⟨(some 6), none, (.mov (.tmp 1))⟩, ⟨(some 7), none, (.call ⟨(.value (.func 106)), (List.toArray [(.tmp 5), (.tmp 6)]), (List.toArray [47, 125])⟩ true)⟩, ⟨(some 8), none, (.cmp .geq (.tmp 7) (.const (.int .i64 0)))⟩, ⟨(some 4), none, (.mov (.tmp 8))⟩])
  .ret))
theorem L86 : low Try.prog Try.f86.ntmps (at_ Try.f86 []) = some R86 := by kernel_rfl
theorem N106 : Try.f106.ntmps = 19 := by kernel_rfl
theorem Z106 : Try.f106.results.toList = ((List.toArray [(.tmp 4)]) : Array ResultVar).toList := by kernel_rfl
theorem B106 : Try.f106.body = some (at_ Try.f106 []) := by kernel_rfl
noncomputable def R106 : RC := (.seq (.reg [⟨(some 4), none, (.mov (.const (.int .i64 0)))⟩])
  (.seq (.seq (.reg [⟨(some 6), none, (.mov (.tmp 0))⟩, ⟨(some 7), none, (.len (.tmp 6))⟩, ⟨(some 8), none, (.mov (.const (.int .i64 0)))⟩])
  (.block 0 (.other (at_ Try.f106 [1, 0, 1, 0]))))
  (.seq (.reg [⟨(some 4), none, (.mov (.const (.int .i64 (-1))))⟩])
  .ret)))
theorem L106 : low Try.prog Try.f106.ntmps (at_ Try.f106 []) = some R106 := by kernel_rfl
theorem E106_1 : at_ Try.f106 [1, 0, 1, 0] = .loop (at_ Try.f106 [1, 0, 1, 0, 0]) := by kernel_rfl
noncomputable def R106x1 : RC := (.seq (.reg [⟨(some 9), none, (.cmp .lss (.tmp 8) (.tmp 7))⟩])
  (.seq (.cond (.tmp 9) .skip
  (.exit 0))
  (.seq (.block 1 (.seq (.reg [⟨(some 10), none, (.mov (.tmp 8))⟩, ⟨(some 5), none, (.mov (.tmp 10))⟩])
  (.seq (.reg [⟨(some 11), none, (.mov (.tmp 1))⟩, ⟨(some 12), none, (.mov (.tmp 0))⟩, ⟨(some 13), none, (.mov (.tmp 5))⟩, ⟨(some 14), none, (.idx (.tmp 12) (.tmp 13) 3)⟩, ⟨(some 15), none, (.lda (.tmp 14) 3)⟩, ⟨(some 16), none, (.call ⟨(.value (.tmp 11)), (List.toArray [(.tmp 15)]), (List.toArray [76])⟩ true)⟩])
  (.cond (.tmp 16) (.seq (.reg [⟨(some 17), none, (.mov (.tmp 5))⟩, ⟨(some 4), none, (.mov (.tmp 17))⟩])
  .ret)
  .skip))))
  (.reg [⟨(some 18), none, (.ari .add (.tmp 8) (.const (.int .i64 1)))⟩, ⟨(some 8), none, (.mov (.tmp 18))⟩]))))
theorem L106x1 : low Try.prog Try.f106.ntmps (at_ Try.f106 [1, 0, 1, 0, 0]) = some R106x1 := by kernel_rfl
theorem N87 : Try.f87.ntmps = 13 := by kernel_rfl
theorem Z87 : Try.f87.results.toList = ((List.toArray [(.tmp 2)]) : Array ResultVar).toList := by kernel_rfl
theorem B87 : Try.f87.body = some (at_ Try.f87 []) := by kernel_rfl
noncomputable def R87 : RC := (.seq (.reg [⟨(some 1), none, (.box 76 (.tmp 0))⟩, ⟨(some 2), none, (.mov (.const (.bool false)))⟩])
  (.seq (.reg [⟨(some 3), none, (.addo (.tmp 1) 2)⟩, ⟨(some 4), none, (.ld (.tmp 3) 1)⟩, ⟨(some 5), none, (.cmpb .gtr (.tmp 4) (.const (.int .i64 0)))⟩, ⟨(some 6), none, (.mov (.tmp 5))⟩, ⟨(some 7), (some (6, true)), (.addo (.tmp 1) 0)⟩, ⟨(some 8), (some (6, true)), (.ld (.tmp 7) 1)⟩, ⟨(some 9), (some (6, true)), (.addo (.tmp 1) 1)⟩, ⟨(some 10), (some (6, true)), (.ld (.tmp 9) 1)⟩, ⟨(some 11), (some (6, true)), (.cmpb .eql (.tmp 8) (.tmp 10))⟩, ⟨(some 12), none, (.pur ⟨(some 12), (.pick (.tmp 6) (.tmp 11) (.const (.bool false))), 4, "", (List.toArray []), none⟩)⟩, ⟨(some 2), none, (.mov (.tmp 12))⟩])
  .ret))
theorem L87 : low Try.prog Try.f87.ntmps (at_ Try.f87 []) = some R87 := by kernel_rfl
theorem N60 : Try.f60.ntmps = 5 := by kernel_rfl
theorem Z60 : Try.f60.results.toList = ((List.toArray [(.tmp 2)]) : Array ResultVar).toList := by kernel_rfl
theorem B60 : Try.f60.body = some (at_ Try.f60 []) := by kernel_rfl
noncomputable def R60 : RC := (.seq (.reg [⟨(some 2), none, (.mov (.const (.bool false)))⟩])
  (.seq (.reg [⟨(some 3), none, (.mov (.tmp 0))⟩, ⟨(some 4), none, (.call ⟨(.value (.func 86)), (List.toArray [(.tmp 3), (.func 87)]), (List.toArray [47, 125])⟩ true)⟩, ⟨(some 2), none, (.mov (.tmp 4))⟩])
  .ret))
theorem L60 : low Try.prog Try.f60.ntmps (at_ Try.f60 []) = some R60 := by kernel_rfl
theorem N88 : Try.f88.ntmps = 11 := by kernel_rfl
theorem Z88 : Try.f88.results.toList = ((List.toArray [(.tmp 4)]) : Array ResultVar).toList := by kernel_rfl
theorem B88 : Try.f88.body = some (at_ Try.f88 []) := by kernel_rfl
noncomputable def R88 : RC := (.seq (.reg [⟨(some 4), none, (.mov (.const (.int .i64 0)))⟩])
  (.seq (.reg [⟨(some 5), none, (.mov (.tmp 0))⟩, ⟨(some 6), none, (.mov (.tmp 1))⟩, ⟨(some 7), none, (.ari .add (.tmp 5) (.tmp 6))⟩, ⟨(some 8), none, (.ari .sub (.tmp 7) (.const (.int .i64 1)))⟩, ⟨(some 9), none, (.mov (.tmp 1))⟩, ⟨(some 10), none, (.ari .quo (.tmp 8) (.tmp 9))⟩, ⟨(some 4), none, (.mov (.tmp 10))⟩])
  .ret))
theorem L88 : low Try.prog Try.f88.ntmps (at_ Try.f88 []) = some R88 := by kernel_rfl
theorem N89 : Try.f89.ntmps = 32 := by kernel_rfl
theorem Z89 : Try.f89.results.toList = ((List.toArray [(.tmp 6)]) : Array ResultVar).toList := by kernel_rfl
theorem B89 : Try.f89.body = some (at_ Try.f89 []) := by kernel_rfl
noncomputable def R89 : RC := (.seq (.reg [⟨(some 6), none, (.mov (.const (.int .i64 0)))⟩])
  (.seq (.reg [⟨(some 7), none, (.mov (.const (.int .i64 0)))⟩])
  (.seq (.seq (.reg [⟨(some 10), none, (.mov (.tmp 0))⟩, ⟨(some 11), none, (.len (.tmp 10))⟩, ⟨(some 12), none, (.mov (.const (.int .i64 0)))⟩])
  (.block 0 (.other (at_ Try.f89 [1, 1, 0, 1, 0]))))
  (.seq (.reg [⟨(some 31), none, (.mov (.tmp 7))⟩, ⟨(some 6), none, (.mov (.tmp 31))⟩])
  .ret))))
theorem L89 : low Try.prog Try.f89.ntmps (at_ Try.f89 []) = some R89 := by kernel_rfl
theorem E89_1 : at_ Try.f89 [1, 1, 0, 1, 0] = .loop (at_ Try.f89 [1, 1, 0, 1, 0, 0]) := by kernel_rfl
noncomputable def R89x1 : RC := (.seq (.reg [⟨(some 13), none, (.cmp .lss (.tmp 12) (.tmp 11))⟩])
  (.seq (.cond (.tmp 13) .skip
  (.exit 0))
  (.seq (.block 1 (.seq (.reg [⟨(some 14), none, (.idx (.tmp 10) (.tmp 12) 3)⟩, ⟨(some 15), none, (.lda (.tmp 14) 3)⟩, ⟨(some 9), none, (.alc 76 [(.int .i64 0), (.int .i64 0), (.int .i64 0)])⟩, ⟨none, none, (.sta (.tmp 9) (.tmp 15) 3)⟩])
  (.seq (.reg [⟨(some 16), none, (.addo (.tmp 9) 0)⟩, ⟨(some 17), none, (.ld (.tmp 16) 1)⟩, ⟨(some 18), none, (.mov (.tmp 1))⟩, ⟨(some 19), none, (.cmpb .geq (.tmp 17) (.tmp 18))⟩, ⟨(some 20), none, (.mov (.tmp 19))⟩, ⟨(some 21), (some (20, true)), (.addo (.tmp 9) 1)⟩, ⟨(some 22), (some (20, true)), (.ld (.tmp 21) 1)⟩, ⟨(some 23), (some (20, true)), (.mov (.tmp 2))⟩, ⟨(some 24), (some (20, true)), (.cmpb .leq (.tmp 22) (.tmp 23))⟩, ⟨(some 25), none, (.pur ⟨(some 25), (.pick (.tmp 20) (.tmp 24) (.const (.bool false))), 4, "", (List.toArray []), none⟩)⟩])
  (.cond (.tmp 25) (.reg [⟨(some 26), none, (.mov (.tmp 7))⟩, ⟨(some 27), none, (.addo (.tmp 9) 2)⟩, ⟨(some 28), none, (.ld (.tmp 27) 1)⟩, ⟨(some 29), none, (.ari .add (.tmp 26) (.tmp 28))⟩, ⟨(some 7), none, (.mov (.tmp 29))⟩])
  .skip))))
  (.reg [⟨(some 30), none, (.ari .add (.tmp 12) (.const (.int .i64 1)))⟩, ⟨(some 12), none, (.mov (.tmp 30))⟩]))))
theorem L89x1 : low Try.prog Try.f89.ntmps (at_ Try.f89 [1, 1, 0, 1, 0, 0]) = some R89x1 := by kernel_rfl
theorem N61 : Try.f61.ntmps = 42 := by kernel_rfl
theorem Z61 : Try.f61.results.toList = ((List.toArray [(.tmp 2)]) : Array ResultVar).toList := by kernel_rfl
theorem B61 : Try.f61.body = some (at_ Try.f61 []) := by kernel_rfl
noncomputable def R61 : RC := (.seq (.reg [⟨(some 2), none, (.mov (.const (.int .i64 0)))⟩])
  (.seq (.reg [⟨(some 3), none, (.mov (.const (.int .i64 1)))⟩])
  (.seq (.seq (.reg [⟨(some 10), none, (.mov (.tmp 0))⟩, ⟨(some 11), none, (.len (.tmp 10))⟩, ⟨(some 12), none, (.mov (.const (.int .i64 0)))⟩])
  (.block 0 (.other (at_ Try.f61 [1, 1, 0, 1, 0]))))
  (.seq (.reg [⟨(some 41), none, (.mov (.tmp 3))⟩, ⟨(some 2), none, (.mov (.tmp 41))⟩])
  .ret))))
theorem L61 : low Try.prog Try.f61.ntmps (at_ Try.f61 []) = some R61 := by kernel_rfl
theorem E61_1 : at_ Try.f61 [1, 1, 0, 1, 0] = .loop (at_ Try.f61 [1, 1, 0, 1, 0, 0]) := by kernel_rfl
noncomputable def R61x1 : RC := (.seq (.reg [⟨(some 13), none, (.cmp .lss (.tmp 12) (.tmp 11))⟩])
  (.seq (.cond (.tmp 13) .skip
  (.exit 0))
  (.seq (.block 1 (.seq (.reg [⟨(some 14), none, (.idx (.tmp 10) (.tmp 12) 3)⟩, ⟨(some 15), none, (.lda (.tmp 14) 3)⟩, ⟨(some 5), none, (.alc 76 [(.int .i64 0), (.int .i64 0), (.int .i64 0)])⟩, ⟨none, none, (.sta (.tmp 5) (.tmp 15) 3)⟩])
  (.seq (.reg [⟨(some 16), none, (.mov (.tmp 0))⟩, ⟨(some 17), none, (.len (.tmp 16))⟩, ⟨(some 18), none, (.mov (.const (.int .i64 0)))⟩])
  (.block 2 (.other (at_ Try.f61 [1, 1, 0, 1, 0, 0, 1, 1, 0, 0, 1, 1, 0]))))))
  (.reg [⟨(some 40), none, (.ari .add (.tmp 12) (.const (.int .i64 1)))⟩, ⟨(some 12), none, (.mov (.tmp 40))⟩]))))
theorem L61x1 : low Try.prog Try.f61.ntmps (at_ Try.f61 [1, 1, 0, 1, 0, 0]) = some R61x1 := by kernel_rfl
theorem E61_2 : at_ Try.f61 [1, 1, 0, 1, 0, 0, 1, 1, 0, 0, 1, 1, 0] = .loop (at_ Try.f61 [1, 1, 0, 1, 0, 0, 1, 1, 0, 0, 1, 1, 0, 0]) := by kernel_rfl
noncomputable def R61x2 : RC := (.seq (.reg [⟨(some 19), none, (.cmp .lss (.tmp 18) (.tmp 17))⟩])
  (.seq (.cond (.tmp 19) .skip
  (.exit 2))
  (.seq (.block 3 (.seq (.reg [⟨(some 20), none, (.idx (.tmp 16) (.tmp 18) 3)⟩, ⟨(some 21), none, (.lda (.tmp 20) 3)⟩, ⟨(some 7), none, (.alc 76 [(.int .i64 0), (.int .i64 0), (.int .i64 0)])⟩, ⟨none, none, (.sta (.tmp 7) (.tmp 21) 3)⟩])
  (.seq (.dreg [⟨(some 22), none, (.addo (.tmp 5) 0)⟩, ⟨(some 23), none, (.ld (.tmp 22) 1)⟩, ⟨(some 24), none, (.addo (.tmp 7) 1)⟩, ⟨(some 25), none, (.ld (.tmp 24) 1)⟩, ⟨(some 8), none, (.mov (.tmp 23))⟩, ⟨(some 9), none, (.mov (.tmp 25))⟩] [31, 3, 4, 0, 1, 0])
  (.seq (.reg [⟨(some 26), none, (.mov (.tmp 8))⟩, ⟨(some 27), none, (.mov (.tmp 9))⟩, ⟨(some 28), none, (.cmp .lss (.tmp 26) (.tmp 27))⟩])
  (.cond (.tmp 28) (.reg [⟨(some 29), none, (.mov (.tmp 3))⟩, ⟨(some 30), none, (.mov (.tmp 0))⟩, ⟨(some 31), none, (.mov (.tmp 8))⟩, ⟨(some 32), none, (.mov (.tmp 9))⟩, ⟨(some 33), none, (.call ⟨(.value (.func 89)), (List.toArray [(.tmp 30), (.tmp 31), (.tmp 32)]), (List.toArray [47, 3, 3])⟩ true)⟩, ⟨(some 34), none, (.mov (.tmp 9))⟩, ⟨(some 35), none, (.mov (.tmp 8))⟩, ⟨(some 36), none, (.ari .sub (.tmp 34) (.tmp 35))⟩, ⟨(some 37), none, (.call ⟨(.value (.func 88)), (List.toArray [(.tmp 33), (.tmp 36)]), (List.toArray [3, 3])⟩ true)⟩, ⟨(some 38), none, (.mm false (.tmp 29) (.tmp 37))⟩, ⟨(some 3), none, (.mov (.tmp 38))⟩])
  .skip)))))
  (.reg [⟨(some 39), none, (.ari .add (.tmp 18) (.const (.int .i64 1)))⟩, ⟨(some 18), none, (.mov (.tmp 39))⟩]))))
theorem L61x2 : low Try.prog Try.f61.ntmps (at_ Try.f61 [1, 1, 0, 1, 0, 0, 1, 1, 0, 0, 1, 1, 0, 0]) = some R61x2 := by kernel_rfl
theorem N30 : Try.f30.ntmps = 14 := by kernel_rfl
theorem Z30 : Try.f30.results.toList = ((List.toArray [(.tmp 2), (.tmp 3)]) : Array ResultVar).toList := by kernel_rfl
theorem B30 : Try.f30.body = some (at_ Try.f30 []) := by kernel_rfl
noncomputable def R30 : RC := (.seq (.reg [⟨(some 2), none, (.mov (.const (.int .i64 0)))⟩, ⟨(some 3), none, (.mov (.const (.int .i64 0)))⟩])
  (.seq (.seq (.reg [⟨(some 5), none, (.mov (.tmp 0))⟩, ⟨(some 6), none, (.call ⟨(.value (.func 57)), (List.toArray [(.tmp 5)]), (List.toArray [47])⟩ true)⟩, ⟨(some 4), none, (.mov (.tmp 6))⟩])
  (.seq (.reg [⟨(some 7), none, (.mov (.tmp 4))⟩, ⟨(some 8), none, (.cmp .neq (.tmp 7) (.const (.int .i64 0)))⟩])
  (.cond (.tmp 8) (.seq (.reg [⟨(some 9), none, (.mov (.tmp 4))⟩, ⟨(some 2), none, (.mov (.const (.int .i64 0)))⟩, ⟨(some 3), none, (.mov (.tmp 9))⟩])
  .ret)
  .skip)))
  (.seq (.seq (.reg [⟨(some 10), none, (.mov (.tmp 0))⟩, ⟨(some 11), none, (.call ⟨(.value (.func 60)), (List.toArray [(.tmp 10)]), (List.toArray [47])⟩ true)⟩])
  (.cond (.tmp 11) (.seq (.reg [⟨(some 2), none, (.mov (.const (.int .i64 0)))⟩, ⟨(some 3), none, (.mov (.const (.int .i64 4)))⟩])
  .ret)
  .skip))
  (.seq (.reg [⟨(some 12), none, (.mov (.tmp 0))⟩, ⟨(some 13), none, (.call ⟨(.value (.func 61)), (List.toArray [(.tmp 12)]), (List.toArray [47])⟩ true)⟩, ⟨(some 2), none, (.mov (.tmp 13))⟩, ⟨(some 3), none, (.mov (.const (.int .i64 0)))⟩])
  .ret))))
theorem L30 : low Try.prog Try.f30.ntmps (at_ Try.f30 []) = some R30 := by kernel_rfl
theorem N31 : Try.f31.ntmps = 34 := by kernel_rfl
theorem Z31 : Try.f31.results.toList = ((List.toArray [(.tmp 2), (.tmp 3)]) : Array ResultVar).toList := by kernel_rfl
theorem B31 : Try.f31.body = some (at_ Try.f31 []) := by kernel_rfl
noncomputable def R31 : RC := (.seq (.reg [⟨(some 2), none, (.mov (.const (.int .i64 0)))⟩, ⟨(some 3), none, (.mov (.const (.int .i64 0)))⟩])
  (.seq (.seq (.reg [⟨(some 7), none, (.mov (.tmp 0))⟩, ⟨(some 8), none, (.len (.tmp 7))⟩, ⟨(some 9), none, (.cmp .gtr (.tmp 8) (.const (.int .i64 16)))⟩])
  (.cond (.tmp 9) (.seq (.reg [⟨(some 2), none, (.mov (.const (.int .i64 0)))⟩, ⟨(some 3), none, (.mov (.const (.int .i64 3)))⟩])
  .ret)
  .skip))
  (.seq (.seq (.reg [⟨(some 10), none, (.mov (.tmp 0))⟩, ⟨(some 11), none, (.call ⟨(.value (.func 39)), (List.toArray [(.tmp 10)]), (List.toArray [47])⟩ true)⟩, ⟨(some 12), none, (.pur ⟨(some 12), (.unOp .not 4 (.tmp 11)), 4, "", (List.toArray []), none⟩)⟩])
  (.cond (.tmp 12) (.seq (.reg [⟨(some 2), none, (.mov (.const (.int .i64 0)))⟩, ⟨(some 3), none, (.mov (.const (.int .i64 1)))⟩])
  .ret)
  .skip))
  (.seq (.reg [⟨(some 4), none, (.mov (.const (.int .i64 1)))⟩, ⟨(some 5), none, (.mov (.const (.int .i64 17592186044416)))⟩])
  (.seq (.seq (.reg [⟨(some 13), none, (.mov (.tmp 0))⟩, ⟨(some 14), none, (.mov (.tmp 0))⟩, ⟨(some 15), none, (.mov (.tmp 5))⟩, ⟨(some 16), none, (.call ⟨(.value (.func 59)), (List.toArray [(.tmp 14), (.tmp 15)]), (List.toArray [47, 3])⟩ true)⟩, ⟨(some 17), none, (.call ⟨(.value (.func 40)), (List.toArray [(.tmp 13), (.tmp 16)]), (List.toArray [47, 42])⟩ true)⟩])
  (.cond (.tmp 17) (.seq (.reg [⟨(some 2), none, (.mov (.const (.int .i64 0)))⟩, ⟨(some 3), none, (.mov (.const (.int .i64 4)))⟩])
  .ret)
  .skip))
  (.seq (.block 0 (.other (at_ Try.f31 [1, 1, 1, 1, 1, 0, 0])))
  (.seq (.reg [⟨(some 33), none, (.mov (.tmp 4))⟩, ⟨(some 2), none, (.mov (.tmp 33))⟩, ⟨(some 3), none, (.mov (.const (.int .i64 0)))⟩])
  .ret)))))))
theorem L31 : low Try.prog Try.f31.ntmps (at_ Try.f31 []) = some R31 := by kernel_rfl
theorem E31_1 : at_ Try.f31 [1, 1, 1, 1, 1, 0, 0] = .loop (at_ Try.f31 [1, 1, 1, 1, 1, 0, 0, 0]) := by kernel_rfl
noncomputable def R31x1 : RC := (.seq (.seq (.reg [⟨(some 18), none, (.mov (.tmp 4))⟩, ⟨(some 19), none, (.mov (.tmp 5))⟩, ⟨(some 20), none, (.cmp .lss (.tmp 18) (.tmp 19))⟩])
  (.cond (.tmp 20) .skip
  (.exit 0)))
  (.block 1 (.seq (.reg [⟨(some 21), none, (.mov (.tmp 4))⟩, ⟨(some 22), none, (.mov (.tmp 5))⟩, ⟨(some 23), none, (.ari .add (.tmp 21) (.tmp 22))⟩, ⟨(some 24), none, (.ari .quo (.tmp 23) (.const (.int .i64 2)))⟩, ⟨(some 6), none, (.mov (.tmp 24))⟩])
  (.seq (.reg [⟨(some 25), none, (.mov (.tmp 0))⟩, ⟨(some 26), none, (.mov (.tmp 0))⟩, ⟨(some 27), none, (.mov (.tmp 6))⟩, ⟨(some 28), none, (.call ⟨(.value (.func 59)), (List.toArray [(.tmp 26), (.tmp 27)]), (List.toArray [47, 3])⟩ true)⟩, ⟨(some 29), none, (.call ⟨(.value (.func 40)), (List.toArray [(.tmp 25), (.tmp 28)]), (List.toArray [47, 42])⟩ true)⟩])
  (.cond (.tmp 29) (.reg [⟨(some 30), none, (.mov (.tmp 6))⟩, ⟨(some 31), none, (.ari .add (.tmp 30) (.const (.int .i64 1)))⟩, ⟨(some 4), none, (.mov (.tmp 31))⟩])
  (.reg [⟨(some 32), none, (.mov (.tmp 6))⟩, ⟨(some 5), none, (.mov (.tmp 32))⟩]))))))
theorem L31x1 : low Try.prog Try.f31.ntmps (at_ Try.f31 [1, 1, 1, 1, 1, 0, 0, 0]) = some R31x1 := by kernel_rfl
theorem N27 : Try.f27.ntmps = 26 := by kernel_rfl
theorem Z27 : Try.f27.results.toList = ((List.toArray [(.tmp 4)]) : Array ResultVar).toList := by kernel_rfl
theorem B27 : Try.f27.body = some (at_ Try.f27 []) := by kernel_rfl
noncomputable def R27 : RC := (.seq (.reg [⟨(some 4), none, (.mov (.const (.bool false)))⟩])
  (.seq (.seq (.reg [⟨(some 6), none, (.mov (.tmp 0))⟩, ⟨(some 7), none, (.len (.tmp 6))⟩, ⟨(some 8), none, (.mov (.tmp 1))⟩, ⟨(some 9), none, (.len (.tmp 8))⟩, ⟨(some 10), none, (.cmp .neq (.tmp 7) (.tmp 9))⟩])
  (.cond (.tmp 10) (.seq (.reg [⟨(some 4), none, (.mov (.const (.bool false)))⟩])
  .ret)
  .skip))
  (.seq (.seq (.reg [⟨(some 5), none, (.mov (.const (.int .i64 0)))⟩])
  (.block 0 (.other (at_ Try.f27 [1, 1, 0, 1, 0]))))
  (.seq (.reg [⟨(some 4), none, (.mov (.const (.bool true)))⟩])
  .ret))))
theorem L27 : low Try.prog Try.f27.ntmps (at_ Try.f27 []) = some R27 := by kernel_rfl
theorem E27_1 : at_ Try.f27 [1, 1, 0, 1, 0] = .loop (at_ Try.f27 [1, 1, 0, 1, 0, 0]) := by kernel_rfl
noncomputable def R27x1 : RC := (.seq (.seq (.reg [⟨(some 11), none, (.mov (.tmp 5))⟩, ⟨(some 12), none, (.mov (.tmp 0))⟩, ⟨(some 13), none, (.len (.tmp 12))⟩, ⟨(some 14), none, (.cmp .lss (.tmp 11) (.tmp 13))⟩])
  (.cond (.tmp 14) .skip
  (.exit 0)))
  (.seq (.block 1 (.seq (.dreg [⟨(some 17), none, (.mov (.tmp 0))⟩, ⟨(some 18), none, (.mov (.tmp 5))⟩, ⟨(some 19), none, (.idx (.tmp 17) (.tmp 18) 1)⟩, ⟨(some 20), none, (.ld (.tmp 19) 1)⟩, ⟨(some 21), none, (.mov (.tmp 1))⟩, ⟨(some 22), none, (.mov (.tmp 5))⟩, ⟨(some 23), none, (.idx (.tmp 21) (.tmp 22) 1)⟩, ⟨(some 24), none, (.ld (.tmp 23) 1)⟩, ⟨(some 25), none, (.cmp .neq (.tmp 20) (.tmp 24))⟩] [255, 112, 48, 0, 0, 7, 3, 0, 0])
  (.cond (.tmp 25) (.seq (.reg [⟨(some 4), none, (.mov (.const (.bool false)))⟩])
  .ret)
  .skip)))
  (.reg [⟨(some 15), none, (.mov (.tmp 5))⟩, ⟨(some 16), none, (.ari .add (.tmp 15) (.const (.int .i64 1)))⟩, ⟨(some 5), none, (.mov (.tmp 16))⟩])))
theorem L27x1 : low Try.prog Try.f27.ntmps (at_ Try.f27 [1, 1, 0, 1, 0, 0]) = some R27x1 := by kernel_rfl
end Go.Ax

/-
  Plant: lots: which are valid, their order (written by program).
-/
namespace Go.Ax
open Go Go.RowKit Go.Proofs

theorem se42 : sliceElem Try.prog 42 = some (3, 1) := by kernel_rfl
theorem z3 : zeroOf Try.prog 3 = some (iv 0) := by kernel_rfl
theorem u42 : Try.prog.underlying 42 = some (.slice 3) := by kernel_rfl
theorem in3b : ∃ i, Try.prog.info? 3 = some i ∧ i.bytes ≤ 1000 := by
  have h : (Try.prog.info? 3).map (fun i => Nat.ble i.bytes 1000) = some true := by kernel_rfl
  cases e : Try.prog.info? 3 with
  | none => rw [e] at h; cases h
  | some i => rw [e] at h; exact ⟨i, rfl, Nat.le_of_ble_eq_true (by simpa using h)⟩
section
variable {kn : FuncId → Option Bool} {lo : Nat} {H : Hp}
/-- validFreeze -/
theorem vfreeze_ok {x : Fz} (hlo : lo ≤ H.next) : ∃ H', FnX Try.prog kn lo 80 [.agg (Fz.f x).toArray] H (.bool (x.ok)) H' ∧ Keep H H' [] := by
  have key := fnX_low (kn := kn) (lo := lo) (H := H) (args := [.agg (Fz.f x).toArray]) (Q := fun w H' => w = .bool (x.ok) ∧ Keep H H' []) Try.func80 B80 N80 Z80 L80 (by simp) ?_
  · obtain ⟨w, H', h, rfl, q⟩ := key; exact ⟨H', h, q⟩
  have hk := Keep.refl H []
  refine wN_seq ?_
  refine wN_box (v := .agg (Fz.f x).toArray) rfl ?_
  intro H1 kH1 nH1 c1
  have c1 : Cl H1 H.next [iv x.rd, iv x.du, iv x.ms] := c1
  have mH1 := kH1.1
  have hk := hk.trans kH1
  refine wN_mov (v := .bool false) rfl ?_
  refine wN_end ?_
  refine wN_seq ?_
  refine wN_addo (b := H.next) (o := 0) rfl ?_
  refine wN_ld (b := H.next) (o := 1) (v := iv x.du) rfl c1.rd rfl ?_
  refine wN_callB rfl (isw_ok) ?_
  intro tH2 H2 hH2 kH2
  have mH2 := kH2.1
  have hk := hk.trans kH2
  have c1 := kH2.cl c1 (by simp)
  cases tH2
  · have thH2 : isw x.du 500 = false := hH2
    refine wN_mov (v := .bool false) rfl ?_
    refine wN_gs rfl ?_
    refine wN_gs rfl ?_
    refine wN_gs rfl ?_
    refine wN_gs rfl ?_
    refine wN_gs rfl ?_
    refine wN_pur (v := .bool false) rfl rfl ?_
    refine wN_mov (v := .bool false) rfl ?_
    refine wN_gs rfl ?_
    refine wN_gs rfl ?_
    refine wN_gs rfl ?_
    refine wN_pur (v := .bool false) rfl rfl ?_
    refine wN_mov (v := .bool false) rfl ?_
    refine wN_end ?_
    exact And.intro trivial (Exists.intro _ (And.intro rfl ⟨congrArg Value.bool (show false = (x.ok) from (by symm; unfold Fz.ok; simp only [*]; try rfl)), hk⟩))
  · have thH2 : isw x.du 500 = true := hH2
    refine wN_mov (v := .bool true) rfl ?_
    refine wN_g rfl (wN_addo (b := H.next) (o := 0) rfl ?_)
    refine wN_g rfl (wN_ld (b := H.next) (o := 0) (v := iv x.rd) rfl c1.rd rfl ?_)
    refine wN_g rfl (wN_addo (b := H.next) (o := 0) rfl ?_)
    refine wN_g rfl (wN_ld (b := H.next) (o := 1) (v := iv x.du) rfl c1.rd rfl ?_)
    refine wN_g rfl (wN_callB rfl (isw_ok) ?_)
    intro tH3 H3 hH3 kH3
    have mH3 := kH3.1
    have hk := hk.trans kH3
    have c1 := kH3.cl c1 (by simp)
    cases tH3
    · have thH3 : isw x.rd x.du = false := hH3
      refine wN_pur (v := .bool false) rfl rfl ?_
      refine wN_mov (v := .bool false) rfl ?_
      refine wN_gs rfl ?_
      refine wN_gs rfl ?_
      refine wN_gs rfl ?_
      refine wN_pur (v := .bool false) rfl rfl ?_
      refine wN_mov (v := .bool false) rfl ?_
      refine wN_end ?_
      exact And.intro trivial (Exists.intro _ (And.intro rfl ⟨congrArg Value.bool (show false = (x.ok) from (by symm; unfold Fz.ok; simp only [*]; try rfl)), hk⟩))
    · have thH3 : isw x.rd x.du = true := hH3
      refine wN_pur (v := .bool true) rfl rfl ?_
      refine wN_mov (v := .bool true) rfl ?_
      refine wN_g rfl (wN_addo (b := H.next) (o := 0) rfl ?_)
      refine wN_g rfl (wN_ld (b := H.next) (o := 2) (v := iv x.ms) rfl c1.rd rfl ?_)
      refine wN_g rfl (wN_callB rfl (isw_ok) ?_)
      intro tH4 H4 hH4 kH4
      have mH4 := kH4.1
      have hk := hk.trans kH4
      have c1 := kH4.cl c1 (by simp)
      cases tH4
      · have thH4 : isw x.ms 1099511627776 = false := hH4
        refine wN_pur (v := .bool false) rfl rfl ?_
        refine wN_mov (v := .bool false) rfl ?_
        refine wN_end ?_
        exact And.intro trivial (Exists.intro _ (And.intro rfl ⟨congrArg Value.bool (show false = (x.ok) from (by symm; unfold Fz.ok; simp only [*]; try rfl)), hk⟩))
      · have thH4 : isw x.ms 1099511627776 = true := hH4
        refine wN_pur (v := .bool true) rfl rfl ?_
        refine wN_mov (v := .bool true) rfl ?_
        refine wN_end ?_
        exact And.intro trivial (Exists.intro _ (And.intro rfl ⟨congrArg Value.bool (show true = (x.ok) from (by symm; unfold Fz.ok; simp only [*]; try rfl)), hk⟩))
theorem clos79_ok {x : Fz} {k : Int} (hlo : lo ≤ H.next) : ∃ H', FnX Try.prog kn lo 79 [iv k, .agg (Fz.f x).toArray] H (.bool x.ok) H' ∧ Keep H H' [] := by
  have key := fnX_low (kn := kn) (lo := lo) (H := H) (args := [iv k, .agg (Fz.f x).toArray]) (Q := fun w H' => w = .bool x.ok ∧ Keep H H' []) Try.func79 B79 N79 Z79 L79 (by simp) ?_
  · obtain ⟨w, H', h, rfl, q⟩ := key; exact ⟨H', h, q⟩
  have hk := Keep.refl H []
  refine wN_seq ?_
  refine wN_box (v := .agg (Fz.f x).toArray) rfl ?_
  intro H1 kH1 nH1 c1
  have c1 : Cl H1 H.next [iv x.rd, iv x.du, iv x.ms] := c1
  have mH1 := kH1.1
  have hk := hk.trans kH1
  refine wN_mov (v := .bool false) rfl ?_
  refine wN_end ?_
  refine wN_seq ?_
  refine wN_lda (b := H.next) (o := 0) rfl c1.rd (show row 3 _ _ = some [iv x.rd, iv x.du, iv x.ms] from rfl) ?_
  obtain ⟨H2, fH2, kH2⟩ := vfreeze_ok (kn := kn) (lo := lo) (H := H1) (x := x) (by omega)
  refine wN_callf (vs := [.agg (Fz.f x).toArray]) rfl (callX_args fH2) ?_
  have mH2 := kH2.1
  have hk := hk.trans kH2
  have c1 := kH2.cl c1 (by simp)
  refine wN_mov (v := .bool x.ok) rfl ?_
  refine wN_end ?_
  exact And.intro trivial (Exists.intro _ (And.intro rfl ⟨rfl, hk⟩))
/-- isList of lots -/
theorem list78_ok {sa : Option Addr} {n cap : Nat} {us : List Fz}  (hs : Sl H sa n cap (fzc us)) (hl : us.length = n) (hn2 : n ≤ 1000000) (hlo : lo ≤ H.next) :
    ∃ H', FnX Try.prog kn lo 78 [.slice sa n cap, iv 0, iv 16, .func (.func 79) #[] #[]] H (.bool (decide (0 ≤ n) && decide (n ≤ 16) && us.all Fz.ok)) H' ∧ Keep H H' [] := by
  have key := fnX_low (kn := kn) (lo := lo) (H := H) (args := [.slice sa n cap, iv 0, iv 16, .func (.func 79) #[] #[]]) (Q := fun w H' => w = .bool (decide (0 ≤ n) && decide (n ≤ 16) && us.all Fz.ok) ∧ Keep H H' []) Try.func78 B78 N78 Z78 L78 (by simp) ?_
  · obtain ⟨w, H', h, rfl, q⟩ := key; exact ⟨H', h, q⟩
  have hk := Keep.refl H []
  have fs := hs.old
  refine wN_seq ?_
  refine wN_mov (v := .bool false) rfl ?_
  refine wN_end ?_
  refine wN_seq ?_
  refine wN_mov (v := .slice sa n cap) rfl ?_
  refine wN_len (m := n) rfl ?_
  refine wN_mov (v := iv 0) rfl ?_
  refine wN_b_lss (a := (n : Int)) (b := 0) rfl rfl ?_
  intro t1 g1; cases t1
  · have g1 : ¬ ((n : Int) < 0) := of_decide_eq_false g1
    refine wN_mov (v := .bool false) rfl ?_
    refine wN_g rfl (wN_mov (v := .slice sa n cap) rfl ?_)
    refine wN_g rfl (wN_len (m := n) rfl ?_)
    refine wN_g rfl (wN_mov (v := iv 16) rfl ?_)
    refine wN_g rfl (wN_b_gtr (a := (n : Int)) (b := 16) rfl rfl ?_)
    intro t2 g2; cases t2
    · have g2 : ¬ ((n : Int) > 16) := of_decide_eq_false g2
      refine wN_pur (v := .bool false) rfl rfl ?_
      refine wN_end ?_
      refine condF ?_
      first | refine wN_skip ?_ | skip
      refine wN_seq ?_
      refine wN_mov (v := .slice sa n cap) rfl ?_
      refine wN_len (m := n) rfl ?_
      refine wN_mov (v := iv 0) rfl ?_
      refine wN_end ?_
      refine loop_low (fn := Try.f78) E78_1 N78 L78x1 (fun i : Nat => [(3, .func (.func 79) #[] #[]), (21, .slice sa n cap), (22, iv (n : Int)), (23, iv (i : Int))])
        (fun k i H' => i + k = n ∧ Keep H H' [] ∧ Sl H' sa n cap (fzc us) ∧ (us.take i).all Fz.ok = true) n 0 ⟨by omega, hk, hs, rfl⟩ ⟨rfl, rfl, rfl, rfl, trivial⟩ ?_
      rintro k i L1 ⟨hik, hk, hs, hall⟩
      have mki := hk.1
      have fs := hs.old
      refine wN_seq ?_
      refine wN_c_lss (a := (i : Int)) (b := (n : Int)) rfl rfl ?_
      refine wN_end ?_
      refine And.intro (fun q3 => ?_) (fun q3 => ?_)
      · have q3 : (i : Int) < (n : Int) := of_decide_eq_true q3
        have hi : i < n := by omega
        obtain ⟨x, hx⟩ := get_some (l := us) (i := i) (by omega)
        have hst := all_step (f := Fz.ok) hx
        rcases id hs with ⟨_, h0, _⟩ | ⟨sb, esb, hsd, _⟩
        · omega
        have lsb := hsd.lt
        first | refine wN_skip ?_ | skip
        refine wN_seq ?_
        refine wN_mov (v := iv (i : Int)) rfl ?_
        refine wN_idx (b := sb) (o := 0) (k := i) (j := (i : Int)) (by rw [← esb]; rfl) rfl rfl hi ?_
        refine wN_lda (b := sb) (o := 0 + i * 3) rfl hsd (fzc_row hx) ?_
        refine wN_alc ?_
        intro H1 kH1 nH1 c1
        have c1 : Cl H1 L1.next [iv 0, iv 0, iv 0] := c1
        have mH1 := kH1.1
        have hk := hk.trans kH1
        have hs := kH1.sl0 hs
        have hsd := kH1.rd hsd (by simp)
        refine wN_mov (v := iv (i : Int)) rfl ?_
        refine wN_sta (b := L1.next) (o := 0) rfl rfl c1 (by omega) rfl rfl (by simp) ?_
        intro H2 kH2 nH2 sH2
        have mH2 := kH2.1
        have hk := hk.new kH2 (fun b hb => by simp at hb ⊢; omega)
        have hs := kH2.sl hs (fun b e => by have := fs b e; first | (simp; done) | (simp; omega))
        have hsd := kH2.rd hsd (by first | (simp; done) | (simp; omega))
        have c1 : Cl H2 L1.next [iv x.rd, iv x.du, iv x.ms] := sH2
        refine wN_end ?_
        refine wN_seq ?_
        refine wN_mov (v := .func (.func 79) #[] #[]) rfl ?_
        refine wN_mov (v := iv (i : Int)) rfl ?_
        refine wN_lda (b := L1.next) (o := 0) rfl c1.rd (show row 3 _ _ = some [iv x.rd, iv x.du, iv x.ms] from rfl) ?_
        obtain ⟨H3, fH3, kH3⟩ := clos79_ok (kn := kn) (lo := lo) (H := H2) (x := x) (k := (i : Int)) (by omega)
        have mH3 := kH3.1
        have hk := hk.trans kH3
        have hs := kH3.sl0 hs
        have hsd := kH3.rd hsd (by simp)
        have c1 := kH3.cl c1 (by simp)
        cases hb : Fz.ok x
        · rw [show Fz.ok x = false from hb] at fH3
          refine wN_callf (vs := [iv (i : Int), .agg (Fz.f x).toArray]) rfl (callX_func rfl (by simpa using fH3)) ?_
          refine wN_pur (v := .bool true) rfl rfl ?_
          refine wN_end ?_
          refine condT ?_
          refine wN_seq ?_
          refine wN_mov (v := .bool false) rfl ?_
          refine wN_end ?_
          exact And.intro trivial (Exists.intro _ (And.intro rfl ⟨congrArg Value.bool (show false = (decide (0 ≤ n) && decide (n ≤ 16) && us.all Fz.ok) from (by symm; rw [all_fail hx hb]; simp)), hk⟩))
        · rw [show Fz.ok x = true from hb] at fH3
          refine wN_callf (vs := [iv (i : Int), .agg (Fz.f x).toArray]) rfl (callX_func rfl (by simpa using fH3)) ?_
          refine wN_pur (v := .bool false) rfl rfl ?_
          refine wN_end ?_
          refine condF ?_
          first | refine wN_skip ?_ | skip
          first | refine wN_reg ?_ | refine wN_blk ?_ | refine wN_bseq ?_ | (refine wOps_nil ?_; refine wN_reg ?_)
          refine wN_add (a := (i : Int)) (b := 1) rfl rfl ⟨by omega, by omega⟩ ?_
          refine wN_mov (v := iv ((i : Int) + 1)) rfl ?_
          refine wN_end ?_
          exact ⟨k - 1, i + 1, by omega, ⟨by omega, hk, hs, by rw [hst, hall, Bool.true_and]; exact hb⟩, rfl, rfl, rfl, rfl, trivial⟩
      · have q3 : ¬ ((i : Int) < (n : Int)) := of_decide_eq_false q3
        refine wN_seq ?_
        refine wN_mov (v := .bool true) rfl ?_
        refine wN_end ?_
        exact And.intro trivial (Exists.intro _ (And.intro rfl ⟨congrArg Value.bool (show true = (decide (0 ≤ n) && decide (n ≤ 16) && us.all Fz.ok) from (by symm; rw [List.take_of_length_le (by omega)] at hall; rw [hall, decide_eq_true (by omega), decide_eq_true (by omega)]; rfl)), hk⟩))
    · have g2 : (n : Int) > 16 := of_decide_eq_true g2
      refine wN_pur (v := .bool true) rfl rfl ?_
      refine wN_end ?_
      refine condT ?_
      refine wN_seq ?_
      refine wN_mov (v := .bool false) rfl ?_
      refine wN_end ?_
      exact And.intro trivial (Exists.intro _ (And.intro rfl ⟨congrArg Value.bool (show false = (decide (0 ≤ n) && decide (n ≤ 16) && us.all Fz.ok) from (by symm; simp; omega)), hk⟩))
  · have g1 : (n : Int) < 0 := of_decide_eq_true g1
    refine wN_mov (v := .bool true) rfl ?_
    refine wN_gs rfl ?_
    refine wN_gs rfl ?_
    refine wN_gs rfl ?_
    refine wN_gs rfl ?_
    refine wN_pur (v := .bool true) rfl rfl ?_
    refine wN_end ?_
    refine condT ?_
    refine wN_seq ?_
    refine wN_mov (v := .bool false) rfl ?_
    refine wN_end ?_
    exact And.intro trivial (Exists.intro _ (And.intro rfl ⟨congrArg Value.bool (show false = (decide (0 ≤ n) && decide (n ≤ 16) && us.all Fz.ok) from (by symm; simp; omega)), hk⟩))
/-- checkLots -/
theorem check57_ok {sa : Option Addr} {n cap : Nat} {us : List Fz} (hs : Sl H sa n cap (fzc us)) (hl : us.length = n) (hn2 : n ≤ 1000000) (hlo : lo ≤ H.next) : ∃ H', FnX Try.prog kn lo 57 [.slice sa n cap] H (iv (chkF us)) H' ∧ Keep H H' [] := by
  have key := fnX_low (kn := kn) (lo := lo) (H := H) (args := [.slice sa n cap]) (Q := fun w H' => w = iv (chkF us) ∧ Keep H H' []) Try.func57 B57 N57 Z57 L57 (by simp) ?_
  · obtain ⟨w, H', h, rfl, q⟩ := key; exact ⟨H', h, q⟩
  have hk := Keep.refl H []
  refine wN_seq ?_
  refine wN_mov (v := iv 0) rfl ?_
  refine wN_end ?_
  refine wN_seq ?_
  refine wN_mov (v := .slice sa n cap) rfl ?_
  refine wN_len (m := n) rfl ?_
  refine wN_c_gtr (a := (n : Int)) (b := 16) rfl rfl ?_
  refine wN_end ?_
  refine And.intro (fun q1 => ?_) (fun q1 => ?_)
  · have q1 : (n : Int) > 16 := of_decide_eq_true q1
    refine wN_seq ?_
    refine wN_mov (v := iv 3) rfl ?_
    refine wN_end ?_
    exact And.intro trivial (Exists.intro _ (And.intro rfl ⟨congrArg iv (show (3 : Int) = chkF us from (by symm; unfold chkF; rw [if_pos (by omega)])), hk⟩))
  · have q1 : ¬ ((n : Int) > 16) := of_decide_eq_false q1
    first | refine wN_skip ?_ | skip
    refine wN_seq ?_
    refine wN_mov (v := .slice sa n cap) rfl ?_
    obtain ⟨H1, fH1, kH1⟩ := list78_ok (kn := kn) (lo := lo) (H := H) hs hl hn2 (by omega)
    have mH1 := kH1.1
    have hk := hk.trans kH1
    have hs := kH1.sl0 hs
    rw [decide_eq_true (Nat.zero_le n), decide_eq_true (show n ≤ 16 by omega), Bool.true_and, Bool.true_and] at fH1
    cases hb : us.all Fz.ok
    · rw [hb] at fH1
      refine wN_callf (vs := [.slice sa n cap, iv 0, iv 16, .func (.func 79) #[] #[]]) rfl (callX_args fH1) ?_
      refine wN_pur (v := .bool true) rfl rfl ?_
      refine wN_end ?_
      refine condT ?_
      refine wN_seq ?_
      refine wN_mov (v := iv 1) rfl ?_
      refine wN_end ?_
      exact And.intro trivial (Exists.intro _ (And.intro rfl ⟨congrArg iv (show (1 : Int) = chkF us from (by symm; unfold chkF; rw [if_neg (by omega), hb]; rfl)), hk⟩))
    · rw [hb] at fH1
      refine wN_callf (vs := [.slice sa n cap, iv 0, iv 16, .func (.func 79) #[] #[]]) rfl (callX_args fH1) ?_
      refine wN_pur (v := .bool false) rfl rfl ?_
      refine wN_end ?_
      refine condF ?_
      first | refine wN_skip ?_ | skip
      refine wN_seq ?_
      refine wN_mov (v := iv 0) rfl ?_
      refine wN_end ?_
      exact And.intro trivial (Exists.intro _ (And.intro rfl ⟨congrArg iv (show (0 : Int) = chkF us from (by symm; unfold chkF; rw [if_neg (by omega), hb]; rfl)), hk⟩))
theorem nan_ok {a : Int} : ∃ H', FnX Try.prog kn lo 116 [iv a] H (.bool false) H' ∧ Keep H H' [] := by
  have key := fnX_low (kn := kn) (lo := lo) (H := H) (args := [iv a]) (Q := fun w H' => w = .bool false ∧ Keep H H' []) Try.func116 B116 N116 Z116 L116 (by simp) ?_
  · obtain ⟨w, H', h, rfl, q⟩ := key; exact ⟨H', h, q⟩
  have hk := Keep.refl H []
  refine wN_seq ?_
  refine wN_mov (v := .bool false) rfl ?_
  refine wN_end ?_
  refine wN_seq ?_
  refine wN_mov (v := iv a) rfl ?_
  refine wN_mov (v := iv a) rfl ?_
  refine wN_c_neq (a := a) (b := a) rfl rfl ?_
  rw [show (a != a) = false by simp]
  refine wN_mov (v := .bool false) rfl ?_
  refine wN_end ?_
  exact And.intro trivial (Exists.intro _ (And.intro rfl ⟨rfl, hk⟩))
theorem cmp_ok {a b : Int} : ∃ H', FnX Try.prog kn lo 113 [iv a, iv b] H (iv (sgn a b)) H' ∧ Keep H H' [] := by
  have key := fnX_low (kn := kn) (lo := lo) (H := H) (args := [iv a, iv b]) (Q := fun w H' => w = iv (sgn a b) ∧ Keep H H' []) Try.func113 B113 N113 Z113 L113 (by simp) ?_
  · obtain ⟨w, H', h, rfl, q⟩ := key; exact ⟨H', h, q⟩
  have hk := Keep.refl H []
  refine wN_seq ?_
  refine wN_mov (v := iv 0) rfl ?_
  refine wN_end ?_
  refine wN_seq ?_
  refine wN_mov (v := iv a) rfl ?_
  obtain ⟨H1, fH1, kH1⟩ := nan_ok (kn := kn) (lo := lo) (H := H) (a := a)
  refine wN_callf (vs := [iv a]) rfl (callX_args fH1) ?_
  have mH1 := kH1.1
  have hk := hk.trans kH1
  refine wN_mov (v := .bool false) rfl ?_
  refine wN_end ?_
  refine wN_seq ?_
  refine wN_mov (v := iv b) rfl ?_
  obtain ⟨H2, fH2, kH2⟩ := nan_ok (kn := kn) (lo := lo) (H := H1) (a := b)
  refine wN_callf (vs := [iv b]) rfl (callX_args fH2) ?_
  have mH2 := kH2.1
  have hk := hk.trans kH2
  refine wN_mov (v := .bool false) rfl ?_
  refine wN_end ?_
  refine wN_seq ?_
  refine wN_mov (v := .bool false) rfl ?_
  refine wN_end ?_
  refine condF ?_
  first | refine wN_skip ?_ | skip
  refine wN_seq ?_
  refine wN_mov (v := .bool false) rfl ?_
  refine wN_end ?_
  refine condF ?_
  first | refine wN_skip ?_ | skip
  refine wN_seq ?_
  refine wN_mov (v := iv a) rfl ?_
  refine wN_mov (v := iv b) rfl ?_
  refine wN_c_lss (a := a) (b := b) rfl rfl ?_
  refine wN_end ?_
  refine And.intro (fun q1 => ?_) (fun q1 => ?_)
  · have q1 : a < b := of_decide_eq_true q1
    refine wN_seq ?_
    refine wN_mov (v := iv (-1)) rfl ?_
    refine wN_end ?_
    exact And.intro trivial (Exists.intro _ (And.intro rfl ⟨congrArg iv (show (-1 : Int) = sgn a b from (by symm; unfold sgn; first | (rw [if_pos (by omega)]) | (rw [if_neg (by omega), if_pos (by omega)]) | (rw [if_neg (by omega), if_neg (by omega)]))), hk⟩))
  · have q1 : ¬ (a < b) := of_decide_eq_false q1
    first | refine wN_skip ?_ | skip
    refine wN_seq ?_
    refine wN_mov (v := iv a) rfl ?_
    refine wN_mov (v := iv b) rfl ?_
    refine wN_c_gtr (a := a) (b := b) rfl rfl ?_
    refine wN_end ?_
    refine And.intro (fun q2 => ?_) (fun q2 => ?_)
    · have q2 : a > b := of_decide_eq_true q2
      refine wN_seq ?_
      refine wN_mov (v := iv 1) rfl ?_
      refine wN_end ?_
      exact And.intro trivial (Exists.intro _ (And.intro rfl ⟨congrArg iv (show (1 : Int) = sgn a b from (by symm; unfold sgn; first | (rw [if_pos (by omega)]) | (rw [if_neg (by omega), if_pos (by omega)]) | (rw [if_neg (by omega), if_neg (by omega)]))), hk⟩))
    · have q2 : ¬ (a > b) := of_decide_eq_false q2
      first | refine wN_skip ?_ | skip
      refine wN_seq ?_
      refine wN_mov (v := iv 0) rfl ?_
      refine wN_end ?_
      exact And.intro trivial (Exists.intro _ (And.intro rfl ⟨congrArg iv (show (0 : Int) = sgn a b from (by symm; unfold sgn; first | (rw [if_pos (by omega)]) | (rw [if_neg (by omega), if_pos (by omega)]) | (rw [if_neg (by omega), if_neg (by omega)]))), hk⟩))
/-- compare -/
theorem compare_ok {sa : Option Addr} {n cap a b : Nat} {us : List Fz} {lv : Value} (hs : Sl H sa n cap (fzc us)) (hl : us.length = n) (ha : a < n) (hb : b < n) (hn : n ≤ 1000000) : ∃ H', FnX Try.prog kn lo 105 [.agg #[.slice sa n cap, lv], iv (a : Int), iv (b : Int)] H (iv (sgn (duF us a) (duF us b))) H' ∧ Keep H H' [] := by
  have key := fnX_low (kn := kn) (lo := lo) (H := H) (args := [.agg #[.slice sa n cap, lv], iv (a : Int), iv (b : Int)]) (Q := fun w H' => w = iv (sgn (duF us a) (duF us b)) ∧ Keep H H' []) Try.func105 B105 N105 Z105 L105 (by simp) ?_
  · obtain ⟨w, H', h, rfl, q⟩ := key; exact ⟨H', h, q⟩
  have hk := Keep.refl H []
  obtain ⟨xa, hxa⟩ := get_some (l := us) (i := a) (by omega)
  obtain ⟨xb, hxb⟩ := get_some (l := us) (i := b) (by omega)
  rcases id hs with ⟨_, h0, _⟩ | ⟨sb, es, rs, _⟩
  · omega
  have lsb := rs.lt
  refine wN_seq ?_
  refine wN_box (v := .agg #[.slice sa n cap, lv]) rfl ?_
  intro H1 kH1 nH1 c1
  have c1 : Cl H1 H.next [.slice sa n cap, lv] := c1
  have mH1 := kH1.1
  have hk := hk.trans kH1
  have rs := kH1.rd rs (by simp)
  refine wN_mov (v := iv 0) rfl ?_
  refine wN_end ?_
  refine wD_seq ?_
  refine wD_addo (b := H.next) (o := 0) rfl ?_
  refine wD_ld (b := H.next) (o := 0) (v := .slice sa n cap) rfl c1.rd rfl ?_
  refine wD_mov (v := iv (a : Int)) rfl ?_
  refine wD_idx (b := sb) (o := 0) (k := a) (j := (a : Int)) (by rw [← es]; rfl) rfl rfl (by omega) ?_
  refine wD_addo (b := sb) (o := 0 + a * 3) rfl ?_
  refine wD_ld (b := sb) (o := 0 + a * 3 + 1) (v := iv (duF us a)) rfl rs (by rw [(Fz.at hxa).1]; exact fzc_at (j := 1) hxa rfl) ?_
  refine wD_addo (b := H.next) (o := 0) rfl ?_
  refine wD_ld (b := H.next) (o := 0) (v := .slice sa n cap) rfl c1.rd rfl ?_
  refine wD_mov (v := iv (b : Int)) rfl ?_
  refine wD_idx (b := sb) (o := 0) (k := b) (j := (b : Int)) (by rw [← es]; rfl) rfl rfl (by omega) ?_
  refine wD_addo (b := sb) (o := 0 + b * 3) rfl ?_
  refine wD_ld (b := sb) (o := 0 + b * 3 + 1) (v := iv (duF us b)) rfl rs (by rw [(Fz.at hxb).1]; exact fzc_at (j := 1) hxb rfl) ?_
  obtain ⟨H2, fH2, kH2⟩ := cmp_ok (kn := kn) (lo := lo) (H := H1) (a := duF us a) (b := duF us b)
  refine wD_callf (vs := [iv (duF us a), iv (duF us b)]) rfl (callX_args fH2) ?_
  have mH2 := kH2.1
  have hk := hk.trans kH2
  have rs := kH2.rd rs (by simp)
  have c1 := kH2.cl c1 (by simp)
  refine wD_mov (v := iv (sgn (duF us a) (duF us b))) rfl ?_
  refine wD_end (by repeat' first | exact True.intro | exact (fun h => h) | refine And.intro ?_ ?_ | (intro h; have h : (_ : Nat) = _ := h; omega)) ?_
  exact And.intro trivial (Exists.intro _ (And.intro rfl ⟨rfl, hk⟩))
set_option maxHeartbeats 1000000 in
/-- insertionSortCmpFunc -/
theorem insort_ok {sa : Option Addr} {n cap bd f : Nat} {us : List Fz} {lv : Value} (hs : Sl H sa n cap (fzc us)) (hl : us.length = n) (hn : n ≤ 16) (fs : ∀ b, sa = some ⟨b, 0, none⟩ → b < f) (hfb : f ≤ bd) (hlb : lo ≤ bd) (hlo : lo ≤ H.next) (cd : Cl H bd (nf (fun p => ((id : Nat → Nat) p : Int)) n)) : ∃ H', FnX Try.prog kn lo 114 [slv bd n n, iv 0, iv (n : Int), .func (.func 105) #[.agg #[.slice sa n cap, lv]] #[]] H unit H' ∧ Keep H H' [bd] ∧ Cl H' bd (nf (fun p => (srt (duF us) n p : Int)) n) := by
  have key := fnX_low (kn := kn) (lo := lo) (H := H) (args := [slv bd n n, iv 0, iv (n : Int), .func (.func 105) #[.agg #[.slice sa n cap, lv]] #[]]) (Q := fun w H' => w = unit ∧ Keep H H' [bd] ∧ Cl H' bd (nf (fun p => (srt (duF us) n p : Int)) n)) Try.func114 B114 N114 Z114 L114 (by simp) ?_
  · obtain ⟨w, H', h, rfl, q⟩ := key; exact ⟨H', h, q⟩
  have hk := Keep.refl H [bd]
  have lb := cd.lt
  refine wN_seq ?_
  refine wN_mov (v := iv 0) rfl ?_
  refine wN_add (a := 0) (b := 1) rfl rfl ⟨by omega, by omega⟩ ?_
  refine wN_mov (v := iv (0 + 1)) rfl ?_
  refine wN_end ?_
  refine loop_low (fn := Try.f114) E114_1 N114 L114x1 (fun i : Nat => [(0, .slice (some ⟨bd, 0, none⟩) n n), (1, iv 0), (2, iv (n : Int)), (3, .func (.func 105) #[.agg #[.slice sa n cap, lv]] #[]), (8, iv (i : Int))])
    (fun d i H' => d = n - i ∧ 1 ≤ i ∧ i ≤ n + 1 ∧ Keep H H' [bd] ∧ Sl H' sa n cap (fzc us) ∧ Cl H' bd (nf (fun p => (srt (duF us) i p : Int)) n) ∧ (n < i → i = 1)) (n - 1) 1 ⟨rfl, Nat.le_refl _, by omega, hk, hs, cd, fun _ => rfl⟩ ⟨rfl, rfl, rfl, rfl, rfl, trivial⟩ ?_
  rintro d i L1 ⟨hd, h1i, hin, hk, hs, cd, hi1⟩
  have mki := hk.1
  refine wN_seq ?_
  refine wN_mov (v := iv (i : Int)) rfl ?_
  refine wN_mov (v := iv (n : Int)) rfl ?_
  refine wN_c_lss (a := (i : Int)) (b := (n : Int)) rfl rfl ?_
  refine wN_end ?_
  refine And.intro (fun q1 => ?_) (fun q1 => ?_)
  · have q1 : (i : Int) < (n : Int) := of_decide_eq_true q1
    have hi : i < n := by omega
    have hO := srt_ok (du := duF us) (n := n) i (by omega)
    first | refine wN_skip ?_ | skip
    refine wN_seq ?_
    refine wN_mov (v := iv (i : Int)) rfl ?_
    refine wN_mov (v := iv (i : Int)) rfl ?_
    refine wN_end ?_
    refine loop_low (fn := Try.f114) E114_2 N114 L114x2 (fun j : Nat => [(0, .slice (some ⟨bd, 0, none⟩) n n), (1, iv 0), (2, iv (n : Int)), (3, .func (.func 105) #[.agg #[.slice sa n cap, lv]] #[]), (8, iv (i : Int)), (9, iv (j : Int))])
      (fun e j H' => e = j ∧ j ≤ i ∧ Keep H H' [bd] ∧ Sl H' sa n cap (fzc us) ∧ ∃ L : Nat → Nat, (∀ p, p < n → L p < n) ∧ ins (duF us) j L = srt (duF us) (i + 1) ∧ Cl H' bd (nf (fun p => (L p : Int)) n)) i i ⟨rfl, Nat.le_refl _, hk, hs, _, hO.lt, rfl, cd⟩ ⟨rfl, rfl, rfl, rfl, rfl, rfl, trivial⟩ ?_
    rintro e j L2 ⟨hej, hji, hk, hs, L, hL, hins, cd⟩
    have mkj := hk.1
    refine wD_seq ?_
    refine wD_mov (v := iv (j : Int)) rfl ?_
    refine wD_mov (v := iv 0) rfl ?_
    refine wD_b_gtr (a := (j : Int)) (b := 0) rfl rfl ?_
    intro t2 g2; cases t2
    · have g2 : ¬ ((j : Int) > 0) := of_decide_eq_false g2
      refine wD_mov (v := .bool false) rfl ?_
      refine wD_gs rfl ?_
      refine wD_gs rfl ?_
      refine wD_gs rfl ?_
      refine wD_gs rfl ?_
      refine wD_gs rfl ?_
      refine wD_gs rfl ?_
      refine wD_gs rfl ?_
      refine wD_gs rfl ?_
      refine wD_gs rfl ?_
      refine wD_gs rfl ?_
      refine wD_gs rfl ?_
      refine wD_gs rfl ?_
      refine wD_pur (v := .bool false) rfl rfl ?_
      refine wD_end (by repeat' first | exact True.intro | exact (fun h => h) | refine And.intro ?_ ?_ | (intro h; have h : (_ : Nat) = _ := h; omega)) ?_
      refine condF ?_
      have hend : L = srt (duF us) (i + 1) := by
        rw [← hins, ins_end]
        first | (left; omega) | (right; exact hnl)
      subst hend
      first | (refine wN_exit ?_; show wC _ _ _ _ _ _ _ _ _) | skip
      first | refine wN_reg ?_ | refine wN_blk ?_ | refine wN_bseq ?_ | (refine wOps_nil ?_; refine wN_reg ?_)
      refine wN_mov (v := iv (i : Int)) rfl ?_
      refine wN_add (a := (i : Int)) (b := 1) rfl rfl ⟨by omega, by omega⟩ ?_
      refine wN_mov (v := iv ((i : Int) + 1)) rfl ?_
      refine wN_end ?_
      exact ⟨d - 1, i + 1, by omega, ⟨by omega, by omega, by omega, hk, hs, cd, fun _ => by omega⟩, rfl, rfl, rfl, rfl, rfl, trivial⟩
    · have g2 : (j : Int) > 0 := of_decide_eq_true g2
      have hj0 : 0 < j := by omega
      refine wD_mov (v := .bool true) rfl ?_
      refine wD_g rfl (wD_mov (v := .func (.func 105) #[.agg #[.slice sa n cap, lv]] #[]) rfl ?_)
      refine wD_g rfl (wD_mov (v := .slice (some ⟨bd, 0, none⟩) n n) rfl ?_)
      refine wD_g rfl (wD_mov (v := iv (j : Int)) rfl ?_)
      refine wD_g rfl (wD_idx (b := bd) (o := 0) (k := j) (j := (j : Int)) rfl rfl rfl (by omega) ?_)
      refine wD_g rfl (wD_ld (b := bd) (o := 0 + j * 1) (v := iv (L j : Int)) rfl cd.rd (nf_at (f := fun p => (L p : Int)) (by omega)) ?_)
      refine wD_g rfl (wD_mov (v := .slice (some ⟨bd, 0, none⟩) n n) rfl ?_)
      refine wD_g rfl (wD_mov (v := iv (j : Int)) rfl ?_)
      refine wD_g rfl (wD_sub (a := (j : Int)) (b := 1) rfl rfl ⟨by omega, by omega⟩ ?_)
      refine wD_g rfl (wD_idx (b := bd) (o := 0) (k := (j - 1)) (j := (j : Int) - 1) rfl rfl (by omega) (by omega) ?_)
      refine wD_g rfl (wD_ld (b := bd) (o := 0 + (j - 1) * 1) (v := iv (L (j - 1) : Int)) rfl cd.rd (nf_at (f := fun p => (L p : Int)) (by omega)) ?_)
      obtain ⟨H1, fH1, kH1⟩ := compare_ok (kn := kn) (lo := lo) (H := L2) (lv := lv) (a := L j) (b := L (j - 1)) hs hl (hL j (by omega)) (hL (j - 1) (by omega)) (by omega)
      refine wD_g rfl (wD_callf (vs := [.agg #[.slice sa n cap, lv], iv (L j : Int), iv (L (j - 1) : Int)]) rfl (callX_args fH1) ?_)
      have mH1 := kH1.1
      have hk := hk.trans (kH1.mono (by simp))
      have hs := kH1.sl0 hs
      have cd := kH1.cl cd (by simp)
      refine wD_g rfl (wD_b_lss (a := (sgn (duF us (L j)) (duF us (L (j - 1))))) (b := 0) rfl rfl ?_)
      intro t3 g3; cases t3
      · have g3 : ¬ ((sgn (duF us (L j)) (duF us (L (j - 1)))) < 0) := of_decide_eq_false g3
        have hnl := fun q => g3 (sgn_lt.2 q)
        refine wD_pur (v := .bool false) rfl rfl ?_
        refine wD_end (by repeat' first | exact True.intro | exact (fun h => h) | refine And.intro ?_ ?_ | (intro h; have h : (_ : Nat) = _ := h; omega)) ?_
        refine condF ?_
        have hend : L = srt (duF us) (i + 1) := by
          rw [← hins, ins_end]
          first | (left; omega) | (right; exact hnl)
        subst hend
        first | (refine wN_exit ?_; show wC _ _ _ _ _ _ _ _ _) | skip
        first | refine wN_reg ?_ | refine wN_blk ?_ | refine wN_bseq ?_ | (refine wOps_nil ?_; refine wN_reg ?_)
        refine wN_mov (v := iv (i : Int)) rfl ?_
        refine wN_add (a := (i : Int)) (b := 1) rfl rfl ⟨by omega, by omega⟩ ?_
        refine wN_mov (v := iv ((i : Int) + 1)) rfl ?_
        refine wN_end ?_
        exact ⟨d - 1, i + 1, by omega, ⟨by omega, by omega, by omega, hk, hs, cd, fun _ => by omega⟩, rfl, rfl, rfl, rfl, rfl, trivial⟩
      · have g3 : (sgn (duF us (L j)) (duF us (L (j - 1)))) < 0 := of_decide_eq_true g3
        have hlt := sgn_lt.1 g3
        refine wD_pur (v := .bool true) rfl rfl ?_
        refine wD_end (by repeat' first | exact True.intro | exact (fun h => h) | refine And.intro ?_ ?_ | (intro h; have h : (_ : Nat) = _ := h; omega)) ?_
        refine condT ?_
        first | refine wN_skip ?_ | skip
        first | refine wD_dreg ?_ | refine wB_dreg ?_ | refine wB_seq ?_ | (refine wOps_nil ?_; refine wD_dreg ?_)
        refine wD_mov (v := .slice (some ⟨bd, 0, none⟩) n n) rfl ?_
        refine wD_mov (v := iv (j : Int)) rfl ?_
        refine wD_mov (v := .slice (some ⟨bd, 0, none⟩) n n) rfl ?_
        refine wD_mov (v := iv (j : Int)) rfl ?_
        refine wD_sub (a := (j : Int)) (b := 1) rfl rfl ⟨by omega, by omega⟩ ?_
        refine wD_mov (v := .slice (some ⟨bd, 0, none⟩) n n) rfl ?_
        refine wD_mov (v := iv (j : Int)) rfl ?_
        refine wD_sub (a := (j : Int)) (b := 1) rfl rfl ⟨by omega, by omega⟩ ?_
        refine wD_idx (b := bd) (o := 0) (k := (j - 1)) (j := (j : Int) - 1) rfl rfl (by omega) (by omega) ?_
        refine wD_ld (b := bd) (o := 0 + (j - 1) * 1) (v := iv (L (j - 1) : Int)) rfl cd.rd (nf_at (f := fun p => (L p : Int)) (by omega)) ?_
        refine wD_mov (v := .slice (some ⟨bd, 0, none⟩) n n) rfl ?_
        refine wD_mov (v := iv (j : Int)) rfl ?_
        refine wD_idx (b := bd) (o := 0) (k := j) (j := (j : Int)) rfl rfl rfl (by omega) ?_
        refine wD_ld (b := bd) (o := 0 + j * 1) (v := iv (L j : Int)) rfl cd.rd (nf_at (f := fun p => (L p : Int)) (by omega)) ?_
        refine wD_idx (b := bd) (o := 0) (k := j) (j := (j : Int)) rfl rfl rfl (by omega) ?_
        refine wD_st (b := bd) (o := 0 + j * 1) (v := iv (L (j - 1) : Int)) rfl rfl cd (by omega) rfl rfl (by rw [nf_len]; omega) ?_
        intro H2 kH2 nH2 sH2
        have mH2 := kH2.1
        have hk := hk.new kH2 (fun b hb => by simp at hb ⊢; omega)
        have hs := kH2.sl hs (fun b e => by have := fs b e; first | (simp; done) | (simp; omega))
        have cd : Cl H2 bd ((nf (fun p => (L p : Int)) n).set (0 + j * 1) (iv (L (j - 1) : Int))) := sH2
        rw [nf_set (by omega)] at cd
        refine wD_idx (b := bd) (o := 0) (k := (j - 1)) (j := (j : Int) - 1) rfl rfl (by omega) (by omega) ?_
        refine wD_st (b := bd) (o := 0 + (j - 1) * 1) (v := iv (L j : Int)) rfl rfl cd (by omega) rfl rfl (by rw [nf_len]; omega) ?_
        intro H3 kH3 nH3 sH3
        have mH3 := kH3.1
        have hk := hk.new kH3 (fun b hb => by simp at hb ⊢; omega)
        have hs := kH3.sl hs (fun b e => by have := fs b e; first | (simp; done) | (simp; omega))
        have cd : Cl H3 bd ((nf (upd (fun p => (L p : Int)) j (L (j - 1) : Int)) n).set (0 + (j - 1) * 1) (iv (L j : Int))) := sH3
        rw [nf_set (by omega)] at cd
        rw [swp_nf (by omega) (by omega)] at cd
        have hL2 := swp_lt hL (show j < n by omega)
        have hins2 : ins (duF us) (j - 1) (swp L j) = srt (duF us) (i + 1) := by rw [← ins_go (by omega) hlt]; exact hins
        refine wD_end (by repeat' first | exact True.intro | exact (fun h => h) | refine And.intro ?_ ?_ | (intro h; have h : (_ : Nat) = _ := h; omega)) ?_
        first | refine wN_reg ?_ | refine wN_blk ?_ | refine wN_bseq ?_ | (refine wOps_nil ?_; refine wN_reg ?_)
        refine wN_mov (v := iv (j : Int)) rfl ?_
        refine wN_sub (a := (j : Int)) (b := 1) rfl rfl ⟨by omega, by omega⟩ ?_
        refine wN_mov (v := iv ((j : Int) - 1)) rfl ?_
        refine wN_end ?_
        exact ⟨j - 1, j - 1, by omega, ⟨rfl, by omega, hk, hs, _, hL2, hins2, cd⟩, rfl, rfl, rfl, rfl, rfl, by rw [show ((j - 1 : Nat) : Int) = (j : Int) - 1 by omega]; rfl, trivial⟩
  · have q1 : ¬ ((i : Int) < (n : Int)) := of_decide_eq_false q1
    first | (refine wN_exit ?_; show wC _ _ _ _ _ _ _ _ _) | skip
    exact And.intro trivial (Exists.intro _ (And.intro rfl ⟨rfl, hk, by
      have e : i = n ∨ n = 0 := by omega
      rcases e with e | e
      · subst e; exact cd
      · subst e; exact cd⟩))
set_option maxHeartbeats 1000000 in
/-- stableCmpFunc -/
theorem stable_ok {sa : Option Addr} {n cap bd f : Nat} {us : List Fz} {lv : Value} (hs : Sl H sa n cap (fzc us)) (hl : us.length = n) (hn : n ≤ 16) (fs : ∀ b, sa = some ⟨b, 0, none⟩ → b < f) (hfb : f ≤ bd) (hlb : lo ≤ bd) (hlo : lo ≤ H.next) (cd : Cl H bd (nf (fun p => ((id : Nat → Nat) p : Int)) n)) : ∃ H', FnX Try.prog kn lo 112 [slv bd n n, iv (n : Int), .func (.func 105) #[.agg #[.slice sa n cap, lv]] #[]] H unit H' ∧ Keep H H' [bd] ∧ Cl H' bd (nf (fun p => (srt (duF us) n p : Int)) n) := by
  have key := fnX_low (kn := kn) (lo := lo) (H := H) (args := [slv bd n n, iv (n : Int), .func (.func 105) #[.agg #[.slice sa n cap, lv]] #[]]) (Q := fun w H' => w = unit ∧ Keep H H' [bd] ∧ Cl H' bd (nf (fun p => (srt (duF us) n p : Int)) n)) Try.func112 B112 N112 Z112 L112 (by simp) ?_
  · obtain ⟨w, H', h, rfl, q⟩ := key; exact ⟨H', h, q⟩
  have hk := Keep.refl H [bd]
  have lb := cd.lt
  refine wN_seq ?_
  refine wN_mov (v := iv 20) rfl ?_
  refine wN_end ?_
  refine wN_seq ?_
  refine wN_mov (v := iv 20) rfl ?_
  refine wN_mov (v := iv 0) rfl ?_
  refine wN_mov (v := iv 20) rfl ?_
  refine wN_end ?_
  refine loop_low (fn := Try.f112) E112_1 N112 L112x1 (fun _u : Nat => [(0, .slice (some ⟨bd, 0, none⟩) n n), (1, iv (n : Int)), (2, .func (.func 105) #[.agg #[.slice sa n cap, lv]] #[]), (6, iv 20), (7, iv 0), (8, iv 20)])
    (fun k _u H' => H = H') 0 0 rfl ⟨rfl, rfl, rfl, rfl, rfl, rfl, trivial⟩ ?_
  rintro k _ _ rfl
  refine wN_seq ?_
  refine wN_mov (v := iv 20) rfl ?_
  refine wN_mov (v := iv (n : Int)) rfl ?_
  refine wN_c_leq (a := 20) (b := (n : Int)) rfl rfl ?_
  refine wN_end ?_
  refine And.intro (fun q1 => ?_) (fun q1 => ?_)
  · have q1 : 20 ≤ (n : Int) := of_decide_eq_true q1
    exfalso; omega
  · have q1 : ¬ (20 ≤ (n : Int)) := of_decide_eq_false q1
    first | (refine wN_exit ?_; show wC _ _ _ _ _ _ _ _ _) | skip
    refine wN_seq ?_
    refine wN_mov (v := .slice (some ⟨bd, 0, none⟩) n n) rfl ?_
    refine wN_mov (v := iv 0) rfl ?_
    refine wN_mov (v := iv (n : Int)) rfl ?_
    refine wN_mov (v := .func (.func 105) #[.agg #[.slice sa n cap, lv]] #[]) rfl ?_
    obtain ⟨H1, fH1, kH1, cH1⟩ := insort_ok (kn := kn) (lo := lo) (H := H) (lv := lv) hs hl hn fs hfb hlb (by omega) cd
    refine wN_callf (vs := [slv bd n n, iv 0, iv (n : Int), .func (.func 105) #[.agg #[.slice sa n cap, lv]] #[]]) rfl (callX_args fH1) ?_
    have mH1 := kH1.1
    have hk := hk.new kH1 (fun b hb => by simp at hb ⊢; omega)
    have hs := kH1.sl hs (fun b e => by have := fs b e; first | (simp; done) | (simp; omega))
    have cd := cH1
    refine wN_end ?_
    refine loop_low (fn := Try.f112) E112_2 N112 L112x2 (fun _u : Nat => [(0, .slice (some ⟨bd, 0, none⟩) n n), (1, iv (n : Int)), (2, .func (.func 105) #[.agg #[.slice sa n cap, lv]] #[]), (6, iv 20), (7, iv 0)])
      (fun k _u H' => H1 = H') 0 0 rfl ⟨rfl, rfl, rfl, rfl, rfl, trivial⟩ ?_
    rintro k _ _ rfl
    refine wN_seq ?_
    refine wN_mov (v := iv 20) rfl ?_
    refine wN_mov (v := iv (n : Int)) rfl ?_
    refine wN_c_lss (a := 20) (b := (n : Int)) rfl rfl ?_
    refine wN_end ?_
    refine And.intro (fun q2 => ?_) (fun q2 => ?_)
    · have q2 : 20 < (n : Int) := of_decide_eq_true q2
      exfalso; omega
    · have q2 : ¬ (20 < (n : Int)) := of_decide_eq_false q2
      first | (refine wN_exit ?_; show wC _ _ _ _ _ _ _ _ _) | skip
      exact And.intro trivial (Exists.intro _ (And.intro rfl ⟨rfl, hk, cd⟩))
set_option maxHeartbeats 1000000 in
/-- SortStableFunc -/
theorem sort_ok {sa : Option Addr} {n cap bd f : Nat} {us : List Fz} {lv : Value} (hs : Sl H sa n cap (fzc us)) (hl : us.length = n) (hn : n ≤ 16) (fs : ∀ b, sa = some ⟨b, 0, none⟩ → b < f) (hfb : f ≤ bd) (hlb : lo ≤ bd) (hlo : lo ≤ H.next) (cd : Cl H bd (nf (fun p => ((id : Nat → Nat) p : Int)) n)) : ∃ H', FnX Try.prog kn lo 104 [slv bd n n, .func (.func 105) #[.agg #[.slice sa n cap, lv]] #[]] H unit H' ∧ Keep H H' [bd] ∧ Cl H' bd (nf (fun p => (srt (duF us) n p : Int)) n) := by
  have key := fnX_low (kn := kn) (lo := lo) (H := H) (args := [slv bd n n, .func (.func 105) #[.agg #[.slice sa n cap, lv]] #[]]) (Q := fun w H' => w = unit ∧ Keep H H' [bd] ∧ Cl H' bd (nf (fun p => (srt (duF us) n p : Int)) n)) Try.func104 B104 N104 Z104 L104 (by simp) ?_
  · obtain ⟨w, H', h, rfl, q⟩ := key; exact ⟨H', h, q⟩
  have hk := Keep.refl H [bd]
  have lb := cd.lt
  first | refine wN_reg ?_ | refine wN_blk ?_ | refine wN_bseq ?_ | (refine wOps_nil ?_; refine wN_reg ?_)
  refine wN_mov (v := .slice (some ⟨bd, 0, none⟩) n n) rfl ?_
  refine wN_mov (v := .slice (some ⟨bd, 0, none⟩) n n) rfl ?_
  refine wN_len (m := n) rfl ?_
  refine wN_mov (v := .func (.func 105) #[.agg #[.slice sa n cap, lv]] #[]) rfl ?_
  obtain ⟨H1, fH1, kH1, cH1⟩ := stable_ok (kn := kn) (lo := lo) (H := H) (lv := lv) hs hl hn fs hfb hlb (by omega) cd
  refine wN_callf (vs := [slv bd n n, iv (n : Int), .func (.func 105) #[.agg #[.slice sa n cap, lv]] #[]]) rfl (callX_args fH1) ?_
  have mH1 := kH1.1
  have hk := hk.new kH1 (fun b hb => by simp at hb ⊢; omega)
  have hs := kH1.sl hs (fun b e => by have := fs b e; first | (simp; done) | (simp; omega))
  have cd := cH1
  refine wN_end ?_
  exact And.intro trivial (Exists.intro _ (And.intro rfl ⟨rfl, hk, cd⟩))
set_option maxHeartbeats 1000000 in
/-- order -/
theorem order_ok {sa : Option Addr} {n cap : Nat} {us : List Fz} {lv : Value} (hs : Sl H sa n cap (fzc us)) (hl : us.length = n) (hn : n ≤ 16) (hlo : lo ≤ H.next) : ∃ bd H', FnX Try.prog kn lo 82 [.agg #[.slice sa n cap, lv]] H (slv bd n n) H' ∧ Keep H H' [] ∧ H.next ≤ bd ∧ Cl H' bd (nf (fun p => (srt (duF us) n p : Int)) n) := by
  have key := fnX_low (kn := kn) (lo := lo) (H := H) (args := [.agg #[.slice sa n cap, lv]]) (Q := fun w H' => ∃ bd, w = slv bd n n ∧ Keep H H' [] ∧ H.next ≤ bd ∧ Cl H' bd (nf (fun p => (srt (duF us) n p : Int)) n)) Try.func82 B82 N82 Z82 L82 (by simp) ?_
  · obtain ⟨w, H', h, a, rfl, q⟩ := key; exact ⟨a, H', h, q⟩
  have hk := Keep.refl H []
  have fs := hs.old
  refine wN_seq ?_
  refine wN_box (v := .agg #[.slice sa n cap, lv]) rfl ?_
  intro H1 kH1 nH1 c1
  have c1 : Cl H1 H.next [.slice sa n cap, lv] := c1
  have mH1 := kH1.1
  have hk := hk.trans kH1
  have hs := kH1.sl0 hs
  refine wN_mov (v := .slice none 0 0) rfl ?_
  refine wN_end ?_
  refine wN_seq ?_
  refine wN_addo (b := H.next) (o := 0) rfl ?_
  refine wN_ld (b := H.next) (o := 0) (v := .slice sa n cap) rfl c1.rd rfl ?_
  refine wN_len (m := n) rfl ?_
  obtain ⟨ie, hie, hib⟩ := in3b
  obtain ⟨H2, hH2⟩ : ∃ H2, H1.new (.cells (zeros [iv 0] n) 3 false) = H2 := ⟨_, rfl⟩
  refine wN_memh (v := .slice (some ⟨H1.next, 0, none⟩) n n) (H' := H2) (k := .heavy) rfl (by kernel_rfl) ((heap_makeR (a := n) (m := n) se42 z3 hie hib rfl rfl (by omega) (by omega)).trans (by rw [← hH2]; rfl)) (fun b e => by cases e) ?_
  obtain ⟨kH2, nH2, _⟩ := new_facts hH2
  have od0 := new_sc hH2
  rw [zeros_nf] at od0
  have mH2 := kH2.1
  have hk := hk.trans kH2
  have hs := kH2.sl0 hs
  have c1 := kH2.cl c1 (by simp)
  obtain ⟨bod, ebod⟩ : ∃ b, b = H1.next := ⟨_, rfl⟩
  have od : Sc H2 bod (nf (fun _ => 0) n) := by rw [ebod]; exact od0
  rw [← ebod]
  have l0od := od.lt
  refine wN_mov (v := .slice (some ⟨bod, 0, none⟩) n n) rfl ?_
  refine wN_end ?_
  refine wN_seq ?_
  refine wN_mov (v := .slice (some ⟨bod, 0, none⟩) n n) rfl ?_
  refine wN_len (m := n) rfl ?_
  refine wN_mov (v := iv 0) rfl ?_
  refine wN_end ?_
  have cd : Cl H2 bod (nf (fun p => if p < 0 then (p : Int) else 0) n) := by rw [nf_congr (g := fun _ => 0) (fun k hk => if_neg (by omega))]; exact od.cl
  refine loop_low (fn := Try.f82) E82_1 N82 L82x1 (fun i : Nat => [(1, pt H.next), (3, .slice (some ⟨bod, 0, none⟩) n n), (10, iv (n : Int)), (11, iv (i : Int))])
    (fun k i H' => i + k = n ∧ Keep H H' [] ∧ H2.next ≤ H'.next ∧ Sl H' sa n cap (fzc us) ∧ Cl H' bod (nf (fun p => if p < i then (p : Int) else 0) n) ∧ Cl H' H.next [.slice sa n cap, lv]) n 0 ⟨by omega, hk, Nat.le_refl _, hs, cd, c1⟩ ⟨rfl, rfl, rfl, rfl, trivial⟩ ?_
  rintro k i L1 ⟨hik, hk, hnx, hs, cd, c1⟩
  have mki := hk.1
  refine wN_seq ?_
  refine wN_c_lss (a := (i : Int)) (b := (n : Int)) rfl rfl ?_
  refine wN_end ?_
  refine And.intro (fun q1 => ?_) (fun q1 => ?_)
  · have q1 : (i : Int) < (n : Int) := of_decide_eq_true q1
    have hi : i < n := by omega
    first | refine wN_skip ?_ | skip
    refine wN_seq ?_
    refine wN_mov (v := iv (i : Int)) rfl ?_
    refine wN_mov (v := iv (i : Int)) rfl ?_
    refine wN_end ?_
    first | refine wN_reg ?_ | refine wN_blk ?_ | refine wN_bseq ?_ | (refine wOps_nil ?_; refine wN_reg ?_)
    refine wN_mov (v := .slice (some ⟨bod, 0, none⟩) n n) rfl ?_
    refine wN_mov (v := iv (i : Int)) rfl ?_
    refine wN_mov (v := iv (i : Int)) rfl ?_
    refine wN_idx (b := bod) (o := 0) (k := i) (j := (i : Int)) rfl rfl rfl hi ?_
    refine wN_st (b := bod) (o := 0 + i * 1) (v := iv (i : Int)) rfl rfl cd (by omega) rfl rfl (by rw [nf_len]; omega) ?_
    intro H3 kH3 nH3 sH3
    have mH3 := kH3.1
    have hk := hk.new kH3 (fun b hb => by simp at hb ⊢; omega)
    have hs := kH3.sl hs (fun b e => by have := fs b e; first | (simp; done) | (simp; omega))
    have c1 := kH3.cl c1 (by first | (simp; done) | (simp; omega))
    have cd := sH3
    rw [nf_set hi] at cd
    have cd : Cl H3 bod (nf (fun p => if p < i + 1 then (p : Int) else 0) n) := by
      rw [nf_congr (g := upd (fun p => if p < i then (p : Int) else 0) i i) (fun k hk => by
        show (if k < i + 1 then (k : Int) else 0) = (if k = i then (i : Int) else (if k < i then (k : Int) else 0))
        by_cases e : k = i
        · rw [if_pos (by omega), if_pos e, e]
        · rw [if_neg e]; by_cases q : k < i
          · rw [if_pos (by omega), if_pos q]
          · rw [if_neg (by omega), if_neg q])]
      exact cd
    refine wN_end ?_
    first | refine wN_reg ?_ | refine wN_blk ?_ | refine wN_bseq ?_ | (refine wOps_nil ?_; refine wN_reg ?_)
    refine wN_add (a := (i : Int)) (b := 1) rfl rfl ⟨by omega, by omega⟩ ?_
    refine wN_mov (v := iv ((i : Int) + 1)) rfl ?_
    refine wN_end ?_
    exact ⟨k - 1, i + 1, by omega, ⟨by omega, hk, by omega, hs, cd, c1⟩, rfl, rfl, rfl, rfl, trivial⟩
  · have q1 : ¬ ((i : Int) < (n : Int)) := of_decide_eq_false q1
    have e : n = i := by omega
    subst e
    have cd : Cl L1 bod (nf (fun p => ((id : Nat → Nat) p : Int)) n) := by
      have q := nf_congr (f := fun p => ((id : Nat → Nat) p : Int)) (g := fun p => if p < n then (p : Int) else 0) (n := n) (fun k hk => (if_pos hk).symm)
      rw [q]; exact cd
    refine wN_seq ?_
    refine wN_mov (v := .slice (some ⟨bod, 0, none⟩) n n) rfl ?_
    refine wN_lda (b := H.next) (o := 0) rfl c1.rd (show row 2 _ _ = some [.slice sa n cap, lv] from rfl) ?_
    refine wN_pur (v := .func (.func 105) #[.agg #[.slice sa n cap, lv]] #[]) rfl (by kernel_rfl) ?_
    obtain ⟨H4, fH4, kH4, cH4⟩ := sort_ok (kn := kn) (lo := lo) (H := L1) (f := H.next) (lv := lv) hs hl hn fs (by omega) (by omega) (by omega) cd
    refine wN_callf (vs := [slv bod n n, .func (.func 105) #[.agg #[.slice sa n cap, lv]] #[]]) rfl (callX_args fH4) ?_
    have mH4 := kH4.1
    have hk := hk.new kH4 (fun b hb => by simp at hb ⊢; omega)
    have hs := kH4.sl hs (fun b e => by have := fs b e; first | (simp; done) | (simp; omega))
    have c1 := kH4.cl c1 (by first | (simp; done) | (simp; omega))
    have cd := cH4
    refine wN_end ?_
    refine wN_seq ?_
    refine wN_mov (v := .slice (some ⟨bod, 0, none⟩) n n) rfl ?_
    refine wN_mov (v := .slice (some ⟨bod, 0, none⟩) n n) rfl ?_
    refine wN_end ?_
    exact And.intro trivial (Exists.intro _ (And.intro rfl ⟨_, rfl, hk, by omega, cd⟩))
end
end Go.Ax

/-
  Plant: an hour, step by step; append that leaves all but its own block (written by program).
-/
namespace Go.Ax
open Go Go.RowKit

theorem heap_append_out {P : Program} {lo : Nat} {H : Hp} {t0 t1 e ep : TypeId} {size k cap2 f : Nat} {a : Option Addr} {v : Value} {cs news : List Value} (he : sliceElem P t0 = some (e, size)) (ht : P.underlying t1 = some (.slice ep))
    (hs : Sl H a 1 cap2 news) (hl : news.length = 1 * size) (hz : 0 < size) (hone : news.all one = true) (hcl : cs.length = k * size) (hk : k < 1000) (ha : Acc lo f e H v k cs) (hlo : lo ≤ H.next) (hf : f ≤ H.next) :
    ∃ H1 kd, (∀ (n : Nat) (S : Rg) (d : Option Tmp) (x y : Operand) (ty : TypeId) (p : String), evS S x = some v → evS S y = some (.slice a 1 cap2) → heapOp P lo (frS n S) H ⟨d, .call ⟨.builtin .append, #[x, y], #[t0, t1]⟩, ty, p, #[], none⟩ = some (.val (.slice (some ⟨H.next, 0, none⟩) (k + 1) (k + 1)) H1, kd)) ∧ (kd = .heavy ∨ ∃ b, kd = .store b ∧ f ≤ b) ∧
      Acc lo f e H1 (.slice (some ⟨H.next, 0, none⟩) (k + 1) (k + 1)) (k + 1) (cs ++ news) ∧ Keep H H1 (bkv v).toList := by
  rcases ha with ⟨rfl, rfl, rfl⟩ | ⟨b, rfl, h0, hb, hlb, hn, hg⟩
  · refine ⟨H.new (.cells news e true), .heavy, ?_, .inl rfl, ?_, (new_facts rfl).1.mono (by simp)⟩
    · intro n S d x y ty p hx hy
      unfold heapOp
      simp only [evs, ev_frS, hx, hy, builtinV, List.getElem?_toArray, List.getElem?_cons_zero, List.getElem?_cons_succ, he, ht, src_of hs hl, appendV]
      rfl
    · refine .inr ⟨H.next, rfl, by omega, hf, hlo, Nat.lt_succ_self _, ?_⟩
      show (H.t.set H.next _).get H.next = _
      rw [Tr.get_set, if_pos rfl]; rfl
  · have h1 : Nat.ble (0 + (k + 1) * size) cs.length = false := by
      cases h : Nat.ble (0 + (k + 1) * size) cs.length with
      | false => rfl
      | true => have := Nat.le_of_ble_eq_true h; rw [hcl, Nat.succ_mul] at this; omega
    have h2 : Nat.beq (0 + k * size) cs.length = true := by rw [hcl, Nat.zero_add]; exact Nat.beq_refl _
    have h3 : Nat.ble (k + 1) 1048576 = true := Nat.ble_eq_true_of_le (by omega)
    have h4 : Nat.beq e e = true := Nat.beq_refl e
    refine ⟨({ H with t := H.t.set b .dead } : Hp).new (.cells (cs ++ news) e true), .store b, ?_, .inr ⟨b, rfl, hb⟩, ?_, ?_⟩
    · intro n S d x y ty p hx hy
      unfold heapOp
      simp only [evs, ev_frS, hx, hy, builtinV, List.getElem?_toArray, List.getElem?_cons_zero, List.getElem?_cons_succ, he, ht, src_of hs hl, appendV, hg, h1, h2, h3, h4, hone, Nat.ble_eq_true_of_le hlb, Bool.and_self, cond_true, cond_false, List.drop_zero, show Nat.beq 1 0 = false from rfl]
    · refine .inr ⟨H.next, rfl, by omega, hf, hlo, Nat.lt_succ_self _, ?_⟩
      show ((H.t.set b .dead).set H.next _).get H.next = _
      rw [Tr.get_set, if_pos rfl]
    · refine ⟨Nat.le_succ _, fun c hc hn => ?_, fun c xs hc hx => ?_⟩
      · have hne : c ≠ b := by simpa [bkv] using hn
        show ((H.t.set b .dead).set H.next _).get c = _
        rw [Tr.get_set, if_neg (by omega), Tr.get_set, if_neg hne]
      · have hx : ((H.t.set b .dead).set H.next (.cells (cs ++ news) e true)).get c = some (.ro xs) := hx
        have hc : c < H.next + 1 := hc
        rw [Tr.get_set] at hx
        split at hx
        · cases hx
        · rw [Tr.get_set] at hx
          split at hx
          · cases hx
          · exact ⟨by omega, hx⟩
theorem bkv_in {lo f : Nat} {e : TypeId} {H : Hp} {v : Value} {n : Nat} {cs : List Value} (h : Acc lo f e H v n cs) : ∀ x ∈ (bkv v).toList, f ≤ x ∧ x < H.next := by
  intro x hx
  rcases h with ⟨_, _, rfl⟩ | ⟨b, rfl, _, h2, _, h3, _⟩
  · simp [bkv] at hx
  · simp [bkv] at hx; subst hx; exact ⟨h2, h3⟩
section
variable {L : Nat → Nat} {rd left dn ms : Nat → Int} {h R : Int} {n k t : Nat}
theorem hst_wait (hr : rd (L k) ≤ h) : hst L rd h R left (k + 1) = (upd (hst L rd h R left k).1 (L k) ((hst L rd h R left k).1 (L k) - min (hst L rd h R left k).2 ((hst L rd h R left k).1 (L k))), (hst L rd h R left k).2 - min (hst L rd h R left k).2 ((hst L rd h R left k).1 (L k))) := by
  have g : gt rd h (hst L rd h R left k) (L k) = min (hst L rd h R left k).2 ((hst L rd h R left k).1 (L k)) := by unfold gt; rw [if_pos hr]
  show (upd _ _ (_ - gt rd h (hst L rd h R left k) (L k)), _ - gt rd h (hst L rd h R left k) (L k)) = _
  rw [g]
theorem upd_same (f : Nat → Int) (x : Nat) : upd f x (f x) = f := by
  funext y; unfold upd; split
  · rename_i e; rw [e]
  · rfl
theorem hst_idle (hi : ¬ (rd (L k) ≤ h ∧ 0 < (hst L rd h R left k).1 (L k))) (nn : 0 ≤ (hst L rd h R left k).1 (L k)) (hm : 0 ≤ (hst L rd h R left k).2) : hst L rd h R left (k + 1) = hst L rd h R left k := by
  have g : gt rd h (hst L rd h R left k) (L k) = 0 := by unfold gt; split <;> omega
  show (upd _ _ (_ - gt rd h (hst L rd h R left k) (L k)), _ - gt rd h (hst L rd h R left k) (L k)) = _
  rw [g, Int.sub_zero, Int.sub_zero, upd_same]
theorem dst_idle (hi : ¬ (rd (L k) ≤ h ∧ 0 < (hst L rd h R left k).1 (L k))) (nn : 0 ≤ (hst L rd h R left k).1 (L k)) (hm : 0 ≤ (hst L rd h R left k).2) : dst L rd h R left dn (k + 1) = dst L rd h R left dn k := by
  show (if _ then _ else _) = _
  rw [hst_idle hi nn hm, if_neg (by omega)]
theorem dst_go (h1 : 0 < (hst L rd h R left k).1 (L k)) (h2 : (hst L rd h R left (k + 1)).1 (L k) = 0) : dst L rd h R left dn (k + 1) = upd (dst L rd h R left dn k) (L k) (h + 1) := by
  show (if _ then _ else _) = _
  rw [if_pos ⟨h1, h2⟩]
theorem dst_no (h2 : (hst L rd h R left (k + 1)).1 (L k) ≠ 0) : dst L rd h R left dn (k + 1) = dst L rd h R left dn k := by
  show (if _ then _ else _) = _
  rw [if_neg (fun q => h2 q.2)]
variable {du : Nat → Int}
theorem lfA_nn (hO : OO du n n L) (hm : ∀ x, x < n → 0 ≤ ms x) (hR : 0 ≤ R) : ∀ t p, p < n → 0 ≤ lfA L rd R ms n t (L p) ∧ lfA L rd R ms n t (L p) ≤ ms (L p)
  | 0, p, hp => ⟨hm _ (hO.lt p hp), Int.le_refl _⟩
  | t + 1, p, hp => by
    have a := fun p hp => (lfA_nn hO hm hR t p hp).1
    have b := (hst_hr (L := L) (rd := rd) (h := (t : Int)) (R := R) hO.inj a hR).nn p hp
    have c := (lfA_nn hO hm hR t p hp).2
    exact ⟨b.1, Int.le_trans b.2 c⟩
/-- within an hour -/
theorem hst_in (hO : OO du n n L) (hm : ∀ x, x < n → 0 ≤ ms x) (hR : 0 ≤ R) (hk : k ≤ n) : (∀ p, p < n → 0 ≤ (hst L rd t R (lfA L rd R ms n t) k).1 (L p) ∧ (hst L rd t R (lfA L rd R ms n t) k).1 (L p) ≤ ms (L p)) ∧ 0 ≤ (hst L rd t R (lfA L rd R ms n t) k).2 ∧ (hst L rd t R (lfA L rd R ms n t) k).2 ≤ R := by
  have a := lfA_nn (rd := rd) hO hm hR t
  obtain ⟨_, b2, _, b4, b5, _⟩ := hst_all (rd := rd) (h := (t : Int)) hO.inj (fun p hp => (a p hp).1) hR k hk
  refine ⟨fun p hp => ⟨(b2 p hp).1, Int.le_trans (b2 p hp).2 (a p hp).2⟩, b4, ?_⟩
  have : 0 ≤ sm (fun p => lfA L rd R ms n t (L p) - (hst L rd t R (lfA L rd R ms n t) k).1 (L p)) k := sm_nn fun p hp => by have := (b2 p (by omega)).2; omega
  omega
theorem hour_stop (hO : OO du n n L) (hm : ∀ x, x < n → 0 ≤ ms x) (hR : 0 ≤ R) (hk : k ≤ n) (h0 : (hst L rd t R (lfA L rd R ms n t) k).2 = 0) :
    lfA L rd R ms n (t + 1) = (hst L rd t R (lfA L rd R ms n t) k).1 ∧ ∀ dn, dst L rd t R (lfA L rd R ms n t) dn n = dst L rd t R (lfA L rd R ms n t) dn k := by
  have nn : ∀ q, q ≤ n → ∀ p, p < n → 0 ≤ (hst L rd t R (lfA L rd R ms n t) q).1 (L p) := fun q hq p hp => ((hst_in (rd := rd) (t := t) hO hm hR hq).1 p hp).1
  have a := hst_stop nn h0 (n - k) (by omega)
  rw [show k + (n - k) = n by omega] at a
  refine ⟨?_, fun dn => ?_⟩
  · show (hst L rd t R (lfA L rd R ms n t) n).1 = _; rw [a]
  · have b := dst_stop (dn := dn) nn h0 (n - k) (by omega)
    rw [show k + (n - k) = n by omega] at b; exact b
end
end Go.Ax

/-
  Plant: the program's freezer: Frozen (written by program).
-/
namespace Go.Ax
open Go Go.RowKit Go.Proofs

section
variable {kn : FuncId → Option Bool} {lo : Nat} {H : Hp}
theorem first81_ok {x : Fz} (hlo : lo ≤ H.next) : ∃ H', FnX Try.prog kn lo 81 [.agg (Fz.f x).toArray] H (iv (if x.ms = 0 then x.rd else 501)) H' ∧ Keep H H' [] := by
  have key := fnX_low (kn := kn) (lo := lo) (H := H) (args := [.agg (Fz.f x).toArray]) (Q := fun w H' => w = iv (if x.ms = 0 then x.rd else 501) ∧ Keep H H' []) Try.func81 B81 N81 Z81 L81 (by simp) ?_
  · obtain ⟨w, H', h, rfl, q⟩ := key; exact ⟨H', h, q⟩
  have hk := Keep.refl H []
  refine wN_seq ?_
  refine wN_box (v := .agg (Fz.f x).toArray) rfl ?_
  intro H1 kH1 nH1 c1
  have c1 : Cl H1 H.next [iv x.rd, iv x.du, iv x.ms] := c1
  have mH1 := kH1.1
  have hk := hk.trans kH1
  refine wN_mov (v := iv 0) rfl ?_
  refine wN_end ?_
  refine wN_seq ?_
  refine wN_addo (b := H.next) (o := 0) rfl ?_
  refine wN_ld (b := H.next) (o := 2) (v := iv x.ms) rfl c1.rd rfl ?_
  refine wN_c_eql (a := x.ms) (b := 0) rfl rfl ?_
  refine wN_end ?_
  refine And.intro (fun q1 => ?_) (fun q1 => ?_)
  · have q1 : x.ms = 0 := by simpa using q1
    refine wN_seq ?_
    refine wN_addo (b := H.next) (o := 0) rfl ?_
    refine wN_ld (b := H.next) (o := 0) (v := iv x.rd) rfl c1.rd rfl ?_
    refine wN_mov (v := iv x.rd) rfl ?_
    refine wN_end ?_
    exact And.intro trivial (Exists.intro _ (And.intro rfl ⟨congrArg iv (show (x.rd : Int) = (if x.ms = 0 then x.rd else 501) from (by symm; rw [if_pos (by omega)])), hk⟩))
  · have q1 : ¬ (x.ms = 0) := by simpa using q1
    first | refine wN_skip ?_ | skip
    refine wN_seq ?_
    refine wN_mov (v := iv 501) rfl ?_
    refine wN_end ?_
    exact And.intro trivial (Exists.intro _ (And.intro rfl ⟨congrArg iv (show (501 : Int) = (if x.ms = 0 then x.rd else 501) from (by symm; rw [if_neg (by omega)])), hk⟩))
/-- isWaiting -/
theorem waiting_ok {sa : Option Addr} {n cap bl cl x : Nat} {us : List Fz} {lf : Nat → Int} {h : Int} (hs : Sl H sa n cap (fzc us)) (hl : us.length = n) (hx : x < n) (hn : n ≤ 1000000) (cl0 : Cl H bl (nf lf n)) (hlo : lo ≤ H.next) : ∃ H', FnX Try.prog kn lo 83 [.agg #[.slice sa n cap, .slice (some ⟨bl, 0, none⟩) n cl], iv (x : Int), iv h] H (.bool (decide (rdF us x ≤ h ∧ 0 < lf x))) H' ∧ Keep H H' [] := by
  have key := fnX_low (kn := kn) (lo := lo) (H := H) (args := [.agg #[.slice sa n cap, .slice (some ⟨bl, 0, none⟩) n cl], iv (x : Int), iv h]) (Q := fun w H' => w = .bool (decide (rdF us x ≤ h ∧ 0 < lf x)) ∧ Keep H H' []) Try.func83 B83 N83 Z83 L83 (by simp) ?_
  · obtain ⟨w, H', h, rfl, q⟩ := key; exact ⟨H', h, q⟩
  have hk := Keep.refl H []
  obtain ⟨y, hy⟩ := get_some (l := us) (i := x) (by omega)
  rcases id hs with ⟨_, h0, _⟩ | ⟨sb, es, rs, _⟩
  · omega
  have lsb := rs.lt
  have lbl := cl0.lt
  refine wN_seq ?_
  refine wN_box (v := .agg #[.slice sa n cap, .slice (some ⟨bl, 0, none⟩) n cl]) rfl ?_
  intro H1 kH1 nH1 c1
  have c1 : Cl H1 H.next [.slice sa n cap, .slice (some ⟨bl, 0, none⟩) n cl] := c1
  have mH1 := kH1.1
  have hk := hk.trans kH1
  have rs := kH1.rd rs (by simp)
  have cl0 := kH1.cl cl0 (by simp)
  refine wN_mov (v := .bool false) rfl ?_
  refine wN_end ?_
  refine wN_seq ?_
  refine wN_addo (b := H.next) (o := 0) rfl ?_
  refine wN_ld (b := H.next) (o := 0) (v := .slice sa n cap) rfl c1.rd rfl ?_
  refine wN_mov (v := iv (x : Int)) rfl ?_
  refine wN_idx (b := sb) (o := 0) (k := x) (j := (x : Int)) (by rw [← es]; rfl) rfl rfl (by omega) ?_
  refine wN_addo (b := sb) (o := 0 + x * 3) rfl ?_
  refine wN_ld (b := sb) (o := 0 + x * 3) (v := iv (rdF us x)) rfl rs (by rw [(Fz.at hy).2.1]; exact (by have q := fzc_at (j := 0) hy rfl; exact q)) ?_
  refine wN_mov (v := iv h) rfl ?_
  refine wN_b_leq (a := (rdF us x)) (b := h) rfl rfl ?_
  intro t1 g1; cases t1
  · have g1 : ¬ ((rdF us x) ≤ h) := of_decide_eq_false g1
    refine wN_mov (v := .bool false) rfl ?_
    refine wN_gs rfl ?_
    refine wN_gs rfl ?_
    refine wN_gs rfl ?_
    refine wN_gs rfl ?_
    refine wN_gs rfl ?_
    refine wN_gs rfl ?_
    refine wN_pur (v := .bool false) rfl rfl ?_
    refine wN_mov (v := .bool false) rfl ?_
    refine wN_end ?_
    exact And.intro trivial (Exists.intro _ (And.intro rfl ⟨congrArg Value.bool (show false = decide (rdF us x ≤ h ∧ 0 < lf x) from (by symm; first | (exact decide_eq_true (by omega)) | (exact decide_eq_false (by omega)))), hk⟩))
  · have g1 : (rdF us x) ≤ h := of_decide_eq_true g1
    refine wN_mov (v := .bool true) rfl ?_
    refine wN_g rfl (wN_addo (b := H.next) (o := 0) rfl ?_)
    refine wN_g rfl (wN_ld (b := H.next) (o := 1) (v := .slice (some ⟨bl, 0, none⟩) n cl) rfl c1.rd rfl ?_)
    refine wN_g rfl (wN_mov (v := iv (x : Int)) rfl ?_)
    refine wN_g rfl (wN_idx (b := bl) (o := 0) (k := x) (j := (x : Int)) rfl rfl rfl (by omega) ?_)
    refine wN_g rfl (wN_ld (b := bl) (o := 0 + x * 1) (v := iv (lf x)) rfl cl0.rd (nf_at (f := lf) (by omega)) ?_)
    refine wN_g rfl (wN_b_gtr (a := (lf x)) (b := 0) rfl rfl ?_)
    intro t2 g2; cases t2
    · have g2 : ¬ ((lf x) > 0) := of_decide_eq_false g2
      refine wN_pur (v := .bool false) rfl rfl ?_
      refine wN_mov (v := .bool false) rfl ?_
      refine wN_end ?_
      exact And.intro trivial (Exists.intro _ (And.intro rfl ⟨congrArg Value.bool (show false = decide (rdF us x ≤ h ∧ 0 < lf x) from (by symm; first | (exact decide_eq_true (by omega)) | (exact decide_eq_false (by omega)))), hk⟩))
    · have g2 : (lf x) > 0 := of_decide_eq_true g2
      refine wN_pur (v := .bool true) rfl rfl ?_
      refine wN_mov (v := .bool true) rfl ?_
      refine wN_end ?_
      exact And.intro trivial (Exists.intro _ (And.intro rfl ⟨congrArg Value.bool (show true = decide (rdF us x ≤ h ∧ 0 < lf x) from (by symm; first | (exact decide_eq_true (by omega)) | (exact decide_eq_false (by omega)))), hk⟩))
/-- freeze -/
theorem freeze_ok {sa : Option Addr} {n cap bl cl x : Nat} {us : List Fz} {lf : Nat → Int} {h : Int} (hs : Sl H sa n cap (fzc us)) (hl : us.length = n) (hx : x < n) (hn : n ≤ 1000000) (cl0 : Cl H bl (nf lf n)) (hlo : lo ≤ H.next) (hlb : lo ≤ bl) (hR : 0 ≤ h ∧ h ≤ 17592186044416) (hlf : 0 ≤ lf x ∧ lf x ≤ 1099511627776) : ∃ H', FnX Try.prog kn lo 84 [.agg #[.slice sa n cap, .slice (some ⟨bl, 0, none⟩) n cl], iv (x : Int), iv h] H (iv (h - min h (lf x))) H' ∧ Keep H H' [bl] ∧ Cl H' bl (nf (upd lf x (lf x - min h (lf x))) n) := by
  have key := fnX_low (kn := kn) (lo := lo) (H := H) (args := [.agg #[.slice sa n cap, .slice (some ⟨bl, 0, none⟩) n cl], iv (x : Int), iv h]) (Q := fun w H' => w = iv (h - min h (lf x)) ∧ Keep H H' [bl] ∧ Cl H' bl (nf (upd lf x (lf x - min h (lf x))) n)) Try.func84 B84 N84 Z84 L84 (by simp) ?_
  · obtain ⟨w, H', h, rfl, q⟩ := key; exact ⟨H', h, q⟩
  have hk := Keep.refl H [bl]
  have lbl := cl0.lt
  refine wN_seq ?_
  refine wN_box (v := .agg #[.slice sa n cap, .slice (some ⟨bl, 0, none⟩) n cl]) rfl ?_
  intro H1 kH1 nH1 c1
  have c1 : Cl H1 H.next [.slice sa n cap, .slice (some ⟨bl, 0, none⟩) n cl] := c1
  have mH1 := kH1.1
  have hk := hk.trans (kH1.mono (by simp))
  have cl0 := kH1.cl cl0 (by simp)
  refine wN_mov (v := iv 0) rfl ?_
  refine wN_end ?_
  refine wN_seq ?_
  refine wN_mov (v := iv h) rfl ?_
  refine wN_addo (b := H.next) (o := 0) rfl ?_
  refine wN_ld (b := H.next) (o := 1) (v := .slice (some ⟨bl, 0, none⟩) n cl) rfl c1.rd rfl ?_
  refine wN_mov (v := iv (x : Int)) rfl ?_
  refine wN_idx (b := bl) (o := 0) (k := x) (j := (x : Int)) rfl rfl rfl (by omega) ?_
  refine wN_ld (b := bl) (o := 0 + x * 1) (v := iv (lf x)) rfl cl0.rd (nf_at (f := lf) (by omega)) ?_
  refine wN_mm (a := h) (b := (lf x)) rfl rfl ?_
  refine wN_mov (v := iv (min h (lf x))) rfl ?_
  refine wN_end ?_
  refine wN_seq ?_
  refine wN_addo (b := H.next) (o := 0) rfl ?_
  refine wN_ld (b := H.next) (o := 1) (v := .slice (some ⟨bl, 0, none⟩) n cl) rfl c1.rd rfl ?_
  refine wN_mov (v := iv (x : Int)) rfl ?_
  refine wN_idx (b := bl) (o := 0) (k := x) (j := (x : Int)) rfl rfl rfl (by omega) ?_
  refine wN_ld (b := bl) (o := 0 + x * 1) (v := iv (lf x)) rfl cl0.rd (nf_at (f := lf) (by omega)) ?_
  refine wN_mov (v := iv (min h (lf x))) rfl ?_
  refine wN_sub (a := (lf x)) (b := min h (lf x)) rfl rfl ⟨by omega, by omega⟩ ?_
  refine wN_idx (b := bl) (o := 0) (k := x) (j := (x : Int)) rfl rfl rfl (by omega) ?_
  refine wN_st (b := bl) (o := 0 + x * 1) (v := iv ((lf x) - (min h (lf x)))) rfl rfl cl0 (by omega) rfl rfl (by rw [nf_len]; omega) ?_
  intro H2 kH2 nH2 sH2
  have mH2 := kH2.1
  have hk := hk.new kH2 (fun b hb => by simp at hb ⊢; omega)
  have c1 := kH2.cl c1 (by first | (simp; done) | (simp; omega))
  have c2 := sH2
  rw [nf_set hx] at c2
  refine wN_end ?_
  refine wN_seq ?_
  refine wN_mov (v := iv h) rfl ?_
  refine wN_mov (v := iv (min h (lf x))) rfl ?_
  refine wN_sub (a := h) (b := min h (lf x)) rfl rfl ⟨by omega, by omega⟩ ?_
  refine wN_mov (v := iv (h - (min h (lf x)))) rfl ?_
  refine wN_end ?_
  exact And.intro trivial (Exists.intro _ (And.intro rfl ⟨rfl, hk, c2⟩))
set_option maxHeartbeats 2000000 in
/-- frozen -/
theorem frozen_ok {sa : Option Addr} {n cap : Nat} {us : List Fz} {R : Int} {L : Nat → Nat} (hs : Sl H sa n cap (fzc us)) (hl : us.length = n) (hn : n ≤ 16) (hL : L = srt (duF us) n) (hok : us.all Fz.ok = true) (hR : 1 ≤ R ∧ R ≤ 17592186044416) (hlo : lo ≤ H.next) : ∃ b H', FnX Try.prog kn lo 58 [.slice sa n cap, iv R] H (slv b n n) H' ∧ Keep H H' [] ∧ H.next ≤ b ∧ Cl H' b (nf (dnA L (rdF us) R (msF us) n 500) n) := by
  have key := fnX_low (kn := kn) (lo := lo) (H := H) (args := [.slice sa n cap, iv R]) (Q := fun w H' => ∃ b, w = slv b n n ∧ Keep H H' [] ∧ H.next ≤ b ∧ Cl H' b (nf (dnA L (rdF us) R (msF us) n 500) n)) Try.func58 B58 N58 Z58 L58 (by simp) ?_
  · obtain ⟨w, H', h, a, rfl, q⟩ := key; exact ⟨a, H', h, q⟩
  have hk := Keep.refl H []
  have fs := hs.old
  have hO : OO (duF us) n n L := by rw [hL]; exact srt_ok n (Nat.le_refl _)
  have hM : ∀ x, x < n → 0 ≤ msF us x ∧ msF us x ≤ 1099511627776 := fun x hx => (all_at hok (by omega)).2.2
  have hms : ∀ x, x < n → 0 ≤ msF us x := fun x hx => (hM x hx).1
  refine wN_seq ?_
  refine wN_mov (v := .slice none 0 0) rfl ?_
  refine wN_end ?_
  first | refine wN_scp ?_ | refine wN_sscp ?_
  refine wN_seq ?_
  refine wN_mov (v := .slice sa n cap) rfl ?_
  refine wN_pur (v := .agg #[.slice sa n cap, .slice none 0 0]) rfl (by kernel_rfl) ?_
  refine wN_alc ?_
  intro H1 kH1 nH1 c1
  have c1 : Cl H1 H.next [.slice none 0 0, .slice none 0 0] := c1
  have mH1 := kH1.1
  have hk := hk.trans kH1
  have hs := kH1.sl0 hs
  refine wN_sta (b := H.next) (o := 0) rfl rfl c1 (by omega) rfl rfl (by simp) ?_
  intro H2 kH2 nH2 sH2
  have mH2 := kH2.1
  have hk := hk.new kH2 (fun b hb => by simp at hb ⊢; omega)
  have hs := kH2.sl hs (fun b e => by have := fs b e; first | (simp; done) | (simp; omega))
  have c1 : Cl H2 H.next [.slice sa n cap, .slice none 0 0] := sH2
  refine wN_end ?_
  refine wN_seq ?_
  refine wN_mov (v := .slice sa n cap) rfl ?_
  refine wN_len (m := n) rfl ?_
  obtain ⟨ie, hie, hib⟩ := in3b
  obtain ⟨H3, hH3⟩ : ∃ H3, H2.new (.cells (zeros [iv 0] n) 3 false) = H3 := ⟨_, rfl⟩
  refine wN_memh (v := .slice (some ⟨H2.next, 0, none⟩) 0 n) (H' := H3) (k := .heavy) rfl (by kernel_rfl) ((heap_makeR (a := 0) (m := n) se42 z3 hie hib rfl rfl (by omega) (by omega)).trans (by rw [← hH3]; rfl)) (fun b e => by cases e) ?_
  obtain ⟨kH3, nH3, _⟩ := new_facts hH3
  have dd0 := new_sc hH3
  rw [zeros_nf] at dd0
  have mH3 := kH3.1
  have hk := hk.trans kH3
  have hs := kH3.sl0 hs
  have c1 := kH3.cl c1 (by simp)
  obtain ⟨bdd, ebdd⟩ : ∃ b, b = H2.next := ⟨_, rfl⟩
  have dd : Sc H3 bdd (nf (fun _ => 0) n) := by rw [ebdd]; exact dd0
  rw [← ebdd]
  have l0dd := dd.lt
  refine wN_mov (v := .slice (some ⟨bdd, 0, none⟩) 0 n) rfl ?_
  refine wN_end ?_
  refine wN_seq ?_
  refine wN_mov (v := .slice sa n cap) rfl ?_
  refine wN_len (m := n) rfl ?_
  refine wN_mov (v := iv 0) rfl ?_
  refine wN_end ?_
  have dd : Sc H3 bdd (nf (fun x => if x < 0 then dn0 (rdF us) (msF us) x else 0) n) := by rw [nf_congr (g := fun _ => 0) (fun k hk => if_neg (by omega))]; exact dd
  have ac0 : Acc lo H3.next 3 H3 (.slice none 0 0) 0 (nf (msF us) 0) := .inl ⟨rfl, rfl, rfl⟩
  refine loop_low (fn := Try.f58) E58_1 N58 L58x1 (fun i : Nat => [(1, iv R), (5, pt H.next), (6, .slice (some ⟨bdd, 0, none⟩) i n), (19, .slice sa n cap), (20, iv (n : Int)), (21, iv (i : Int))])
    (fun d i H' => i + d = n ∧ Keep H H' [] ∧ H3.next ≤ H'.next ∧ Sl H' sa n cap (fzc us) ∧ Sc H' bdd (nf (fun x => if x < i then dn0 (rdF us) (msF us) x else 0) n) ∧ ∃ wv, Acc lo H3.next 3 H' wv i (nf (msF us) i) ∧ Cl H' H.next [.slice sa n cap, wv]) n 0 ⟨by omega, hk, Nat.le_refl _, hs, dd, _, ac0, c1⟩ ⟨rfl, rfl, rfl, rfl, rfl, rfl, trivial⟩ ?_
  rintro d i L1 ⟨hid, hk, hnx, hs, dd, wv, hacc, c5⟩
  have kacc := Keep.refl L1 []
  have mki := hk.1
  have hbk := bkv_in hacc
  refine wN_seq ?_
  refine wN_c_lss (a := (i : Int)) (b := (n : Int)) rfl rfl ?_
  refine wN_end ?_
  refine And.intro (fun q1 => ?_) (fun q1 => ?_)
  · have q1 : (i : Int) < (n : Int) := of_decide_eq_true q1
    have hi : i < n := by omega
    obtain ⟨x, hx⟩ := get_some (l := us) (i := i) (by omega)
    rcases id hs with ⟨_, h0, _⟩ | ⟨sb, esb, hsd, _⟩
    · omega
    have lsb := fs sb esb
    obtain ⟨fx1, fx2, fx3⟩ := Fz.at hx
    first | refine wN_skip ?_ | skip
    refine wN_seq ?_
    refine wN_idx (b := sb) (o := 0) (k := i) (j := (i : Int)) (by rw [← esb]; rfl) rfl rfl hi ?_
    refine wN_lda (b := sb) (o := 0 + i * 3) rfl hsd (fzc_row hx) ?_
    refine wN_alc ?_
    intro H4 kH4 nH4 c4
    have c4 : Cl H4 L1.next [iv 0, iv 0, iv 0] := c4
    have mH4 := kH4.1
    have hk := hk.trans kH4
    have hs := kH4.sl0 hs
    have kacc := kacc.trans kH4
    have dd := kH4.sc dd (by simp)
    have c5 := kH4.cl c5 (by simp)
    have hsd := kH4.rd hsd (by simp)
    refine wN_sta (b := L1.next) (o := 0) rfl rfl c4 (by omega) rfl rfl (by simp) ?_
    intro H5 kH5 nH5 sH5
    have mH5 := kH5.1
    have hk := hk.new kH5 (fun b hb => by simp at hb ⊢; omega)
    have hs := kH5.sl hs (fun b e => by have := fs b e; first | (simp; done) | (simp; omega))
    have kacc := kacc.new kH5 (fun b hb => by simp at hb ⊢; omega)
    have dd := kH5.sc dd (by first | (simp; done) | (simp; omega))
    have c5 := kH5.cl c5 (by first | (simp; done) | (simp; omega))
    have hsd := kH5.rd hsd (by first | (simp; done) | (simp; omega))
    have c4 : Cl H5 L1.next [iv x.rd, iv x.du, iv x.ms] := sH5
    refine wN_end ?_
    refine wN_seq ?_
    refine wN_addo (b := H.next) (o := 0) rfl ?_
    refine wN_ld (b := H.next) (o := 1) (v := wv) rfl c5.rd rfl ?_
    refine wN_addo (b := L1.next) (o := 0) rfl ?_
    refine wN_ld (b := L1.next) (o := 2) (v := iv x.ms) rfl c4.rd rfl ?_
    obtain ⟨H6, hH6⟩ : ∃ H6, H5.new (.cells [iv x.ms] 3 false) = H6 := ⟨_, rfl⟩
    refine wN_memh (H' := H6) (k := .heavy) rfl (by kernel_rfl) ((heap_build1 (v := iv x.ms) se42 z3 rfl rfl rfl (by decide)).trans (by rw [← hH6]; rfl)) (fun b e => by cases e) ?_
    obtain ⟨kH6, nH6, c6⟩ := new_facts hH6; clear hH6
    have c6 : Cl H6 H5.next [iv x.ms] := c6
    have mH6 := kH6.1
    have hk := hk.trans kH6
    have hs := kH6.sl0 hs
    have kacc := kacc.trans kH6
    have dd := kH6.sc dd (by simp)
    have c5 := kH6.cl c5 (by simp)
    have hsd := kH6.rd hsd (by simp)
    have c4 := kH6.cl c4 (by simp)
    obtain ⟨H7, kdH7, eH7, dH7, hacc2, kbH7⟩ := heap_append_out (P := Try.prog) (lo := lo) (k := i) (t1 := 42) se42 u42 (c6.sl (Nat.le_refl 1)) rfl (by decide) rfl (by rw [nf_len]; omega) (by omega) (hacc.keep kacc) (by omega) (by omega)
    refine wN_memh (k := kdH7) rfl (by cases wv <;> kernel_rfl) (eH7 _ _ _ _ _ _ _ rfl rfl) (reg_ok dH7 _) ?_
    rw [← fx3, ← nf_succ] at hacc2
    have hk := hk.new kbH7 (fun b hb => .inr (by have := hbk _ hb; omega))
    have hs := kbH7.sl hs (fun b e hx => by have := fs b e; have := hbk _ hx; omega)
    have dd := kbH7.sc dd (fun hx => by have := hbk _ hx; omega)
    have c5 := kbH7.cl c5 (fun hx => by have := hbk _ hx; omega)
    have hsd := kbH7.rd hsd (fun hx => by have := hbk _ hx; omega)
    have c4 := kbH7.cl c4 (fun hx => by have := hbk _ hx; omega)
    have mH7 := kbH7.1
    refine wN_addo (b := H.next) (o := 0) rfl ?_
    refine wN_st (b := H.next) (o := 1) rfl rfl c5 (by omega) rfl rfl (by simp) ?_
    intro H8 kH8 nH8 sH8
    have mH8 := kH8.1
    have hk := hk.new kH8 (fun b hb => by simp at hb ⊢; omega)
    have hs := kH8.sl hs (fun b e => by have := fs b e; first | (simp; done) | (simp; omega))
    have dd := kH8.sc dd (by first | (simp; done) | (simp; omega))
    have hsd := kH8.rd hsd (by first | (simp; done) | (simp; omega))
    have c4 := kH8.cl c4 (by first | (simp; done) | (simp; omega))
    have hacc2 := hacc2.keepW kH8 (by omega)
    have c5 : Cl H8 H.next [.slice sa n cap, .slice (some ⟨H6.next, 0, none⟩) (i + 1) (i + 1)] := sH8
    refine wN_end ?_
    first | refine wN_reg ?_ | refine wN_blk ?_ | refine wN_bseq ?_ | (refine wOps_nil ?_; refine wN_reg ?_)
    refine wN_mov (v := .slice (some ⟨bdd, 0, none⟩) i n) rfl ?_
    refine wN_lda (b := L1.next) (o := 0) rfl c4.rd (show row 3 _ _ = some [iv x.rd, iv x.du, iv x.ms] from rfl) ?_
    obtain ⟨H9, fH9, kH9⟩ := first81_ok (kn := kn) (lo := lo) (H := H8) (x := x) (by omega)
    refine wN_callf (vs := [.agg (Fz.f x).toArray]) rfl (callX_args fH9) ?_
    have mH9 := kH9.1
    have hk := hk.trans kH9
    have hs := kH9.sl0 hs
    have dd := kH9.sc dd (by simp)
    have hsd := kH9.rd hsd (by simp)
    have c4 := kH9.cl c4 (by simp)
    have hacc2 := hacc2.keep kH9
    have c5 := kH9.cl c5 (by simp)
    obtain ⟨H10, hH10⟩ : ∃ H10, H9.new (.cells [iv (if x.ms = 0 then x.rd else 501)] 3 false) = H10 := ⟨_, rfl⟩
    refine wN_memh (H' := H10) (k := .heavy) rfl (by kernel_rfl) ((heap_build1 (v := iv (if x.ms = 0 then x.rd else 501)) se42 z3 rfl rfl rfl (by decide)).trans (by rw [← hH10]; rfl)) (fun b e => by cases e) ?_
    obtain ⟨kH10, nH10, c10⟩ := new_facts hH10; clear hH10
    have c10 : Cl H10 H9.next [iv (if x.ms = 0 then x.rd else 501)] := c10
    have mH10 := kH10.1
    have hk := hk.trans kH10
    have hs := kH10.sl0 hs
    have dd := kH10.sc dd (by simp)
    have hsd := kH10.rd hsd (by simp)
    have c4 := kH10.cl c4 (by simp)
    have hacc2 := hacc2.keep kH10
    have c5 := kH10.cl c5 (by simp)
    obtain ⟨H11, eH11, kH11, nH11, aH11⟩ := heap_append_room (P := Try.prog) (lo := lo) (k := i) (cap := n) (t1 := 42) se42 u42 (c10.sl (Nat.le_refl 1)) rfl rfl dd hi (by omega) (by rw [nf_len]; omega) (by omega)
    refine wN_memh (k := .store bdd) rfl (by kernel_rfl) (eH11 _ _ _ _ _ _ _ rfl rfl) (fun b e => by cases e) ?_
    have mH11 := kH11.1
    have hk := hk.new kH11 (fun b hb => by simp at hb ⊢; omega)
    have hs := kH11.sl hs (fun b e => by have := fs b e; first | (simp; done) | (simp; omega))
    have hsd := kH11.rd hsd (by first | (simp; done) | (simp; omega))
    have c4 := kH11.cl c4 (by first | (simp; done) | (simp; omega))
    have hacc2 := hacc2.keepW kH11 (by omega)
    have c5 := kH11.cl c5 (by first | (simp; done) | (simp; omega))
    have c10 := kH11.cl c10 (by first | (simp; done) | (simp; omega))
    have dd : Sc H11 bdd ((nf (fun x => if x < i then dn0 (rdF us) (msF us) x else 0) n).set (0 + i * 1) (iv (if x.ms = 0 then x.rd else 501))) := aH11
    rw [nf_set hi] at dd
    have dd : Sc H11 bdd (nf (fun x => if x < i + 1 then dn0 (rdF us) (msF us) x else 0) n) := by
      rw [nf_congr (g := upd (fun x => if x < i then dn0 (rdF us) (msF us) x else 0) i (if x.ms = 0 then x.rd else 501)) (fun k hk => by
        show (if k < i + 1 then dn0 (rdF us) (msF us) k else 0) = (if k = i then (if x.ms = 0 then x.rd else 501) else (if k < i then dn0 (rdF us) (msF us) k else 0))
        by_cases e : k = i
        · subst e; rw [if_pos (by omega), if_pos rfl]; unfold dn0; rw [fx2, fx3]
        · rw [if_neg e]; by_cases q : k < i
          · rw [if_pos (by omega), if_pos q]
          · rw [if_neg (by omega), if_neg q])]
      exact dd
    refine wN_mov (v := .slice (some ⟨bdd, 0, none⟩) (i + 1) n) rfl ?_
    refine wN_end ?_
    first | refine wN_reg ?_ | refine wN_blk ?_ | refine wN_bseq ?_ | (refine wOps_nil ?_; refine wN_reg ?_)
    refine wN_add (a := (i : Int)) (b := 1) rfl rfl ⟨by omega, by omega⟩ ?_
    refine wN_mov (v := iv ((i : Int) + 1)) rfl ?_
    refine wN_end ?_
    exact ⟨d - 1, i + 1, by omega, ⟨by omega, hk, by omega, hs, dd, _, hacc2, c5⟩, rfl, rfl, rfl, rfl, rfl, rfl, trivial⟩
  · have q1 : ¬ ((i : Int) < (n : Int)) := of_decide_eq_false q1
    have e : n = i := by omega
    subst e
    have dd : Cl L1 bdd (nf (dnA L (rdF us) R (msF us) n 0) n) := by show Cl L1 bdd (nf (dn0 (rdF us) (msF us)) n); rw [nf_congr (g := fun x => if x < n then dn0 (rdF us) (msF us) x else 0) (fun k hk => (if_pos hk).symm)]; exact dd.cl
    obtain ⟨bl, hwv, hcl, hbl⟩ : ∃ bl, (0 < n → wv = .slice (some ⟨bl, 0, none⟩) n n) ∧ (0 < n → Cl L1 bl (nf (lfA L (rdF us) R (msF us) n 0) n)) ∧ (0 < n → H3.next ≤ bl ∧ lo ≤ bl ∧ bl < L1.next) := by
      rcases hacc with ⟨q, _, _⟩ | ⟨b, q1, q2, q3, q4, q5, q6⟩
      · exact ⟨0, fun z => absurd z (by omega), fun z => absurd z (by omega), fun z => absurd z (by omega)⟩
      · exact ⟨b, fun _ => q1, fun _ => ⟨q5, _, _, q6⟩, fun _ => ⟨q3, q4, q5⟩⟩
    first | (refine wN_exit ?_; show wC _ _ _ _ _ _ _ _ _) | skip
    refine wN_seq ?_
    refine wN_lda (b := H.next) (o := 0) rfl c5.rd (show row 2 _ _ = some [.slice sa n cap, wv] from rfl) ?_
    obtain ⟨bo, H12, fH12, kH12, lbo, co⟩ := order_ok (kn := kn) (lo := lo) (H := L1) (lv := wv) hs hl hn (by omega)
    refine wN_callf (vs := [.agg #[.slice sa n cap, wv]]) rfl (callX_args fH12) ?_
    have mH12 := kH12.1
    have hk := hk.trans kH12
    have hs := kH12.sl0 hs
    have dd := kH12.cl dd (by simp)
    have c5 := kH12.cl c5 (by simp)
    have hcl := fun z => kH12.cl (hcl z) (by simp)
    rw [← hL] at co
    have lco := co.lt
    refine wN_mov (v := .slice (some ⟨bo, 0, none⟩) n n) rfl ?_
    refine wN_end ?_
    first | refine wN_skip ?_ | skip
    refine wN_seq ?_
    refine wN_mov (v := iv 0) rfl ?_
    refine wN_end ?_
    refine loop_low (fn := Try.f58) E58_2 N58 L58x2 (fun t : Nat => [(1, iv R), (5, pt H.next), (6, .slice (some ⟨bdd, 0, none⟩) n n), (9, .slice (some ⟨bo, 0, none⟩) n n), (40, iv (t : Int))])
      (fun d t H' => t + d = 500 ∧ Keep H H' [] ∧ H12.next ≤ H'.next ∧ Sl H' sa n cap (fzc us) ∧ Cl H' bdd (nf (dnA L (rdF us) R (msF us) n t) n) ∧ (0 < n → Cl H' bl (nf (lfA L (rdF us) R (msF us) n t) n)) ∧ Cl H' bo (nf (fun p => (L p : Int)) n) ∧ Cl H' H.next [.slice sa n cap, wv]) 500 0 ⟨by omega, hk, Nat.le_refl _, hs, dd, hcl, co, c5⟩ ⟨rfl, rfl, rfl, rfl, rfl, trivial⟩ ?_
    rintro d t L2 ⟨htd, hk, hnx2, hs, dd, hcl, co, c5⟩
    have mki := hk.1
    refine wN_seq ?_
    refine wN_c_lss (a := (t : Int)) (b := 500) rfl rfl ?_
    refine wN_end ?_
    refine And.intro (fun q2 => ?_) (fun q2 => ?_)
    · have q2 : (t : Int) < 500 := of_decide_eq_true q2
      first | refine wN_skip ?_ | skip
      refine wN_seq ?_
      refine wN_mov (v := iv (t : Int)) rfl ?_
      refine wN_mov (v := iv (t : Int)) rfl ?_
      refine wN_end ?_
      refine wN_seq ?_
      refine wN_mov (v := iv R) rfl ?_
      refine wN_mov (v := iv R) rfl ?_
      refine wN_end ?_
      refine wN_seq ?_
      refine wN_mov (v := .slice (some ⟨bo, 0, none⟩) n n) rfl ?_
      refine wN_len (m := n) rfl ?_
      refine wN_mov (v := iv 0) rfl ?_
      refine wN_end ?_
      refine loop_low (fn := Try.f58) E58_3 N58 L58x3 (fun k : Nat => [(1, iv R), (5, pt H.next), (6, .slice (some ⟨bdd, 0, none⟩) n n), (9, .slice (some ⟨bo, 0, none⟩) n n), (10, iv (t : Int)), (11, iv ((hst L (rdF us) (t : Int) R (lfA L (rdF us) R (msF us) n t) k).2)), (40, iv (t : Int)), (44, .slice (some ⟨bo, 0, none⟩) n n), (45, iv (n : Int)), (46, iv (k : Int))])
        (fun e k H' => k + e = n ∧ Keep H H' [] ∧ L2.next ≤ H'.next ∧ Sl H' sa n cap (fzc us) ∧ Cl H' bdd (nf (dst L (rdF us) (t : Int) R (lfA L (rdF us) R (msF us) n t) (dnA L (rdF us) R (msF us) n t) k) n) ∧ (0 < n → Cl H' bl (nf (hst L (rdF us) (t : Int) R (lfA L (rdF us) R (msF us) n t) k).1 n)) ∧ Cl H' bo (nf (fun p => (L p : Int)) n) ∧ Cl H' H.next [.slice sa n cap, wv]) n 0 ⟨by omega, hk, Nat.le_refl _, hs, dd, hcl, co, c5⟩ ⟨rfl, rfl, rfl, rfl, rfl, rfl, rfl, rfl, rfl, rfl, trivial⟩ ?_
      rintro e k L3 ⟨hke, hk, hnx3, hs, dd, hcl, co, c5⟩
      have mkj := hk.1
      obtain ⟨hin, hr0, hrR⟩ := hst_in (rd := rdF us) (R := R) (t := t) hO hms (by omega) (show k ≤ n by omega)
      refine wN_seq ?_
      refine wN_c_lss (a := (k : Int)) (b := (n : Int)) rfl rfl ?_
      refine wN_end ?_
      refine And.intro (fun q3 => ?_) (fun q3 => ?_)
      · have q3 : (k : Int) < (n : Int) := of_decide_eq_true q3
        have hkn : k < n := by omega
        have h0 : 0 < n := by omega
        have hLk := hO.lt k hkn
        have hlb := hbl h0
        have hp1 := hin k hkn
        have hms2 := (hM (L k) hLk)
        first | refine wN_skip ?_ | skip
        refine wN_seq ?_
        refine wN_idx (b := bo) (o := 0) (k := k) (j := (k : Int)) rfl rfl rfl hkn ?_
        refine wN_ld (b := bo) (o := 0 + k * 1) (v := iv (L k : Int)) rfl co.rd (nf_at (f := fun p => (L p : Int)) (by omega)) ?_
        refine wN_mov (v := iv (L k : Int)) rfl ?_
        refine wN_end ?_
        refine wN_seq ?_
        refine wN_mov (v := iv ((hst L (rdF us) (t : Int) R (lfA L (rdF us) R (msF us) n t) k).2)) rfl ?_
        refine wN_c_eql (a := ((hst L (rdF us) (t : Int) R (lfA L (rdF us) R (msF us) n t) k).2)) (b := 0) rfl rfl ?_
        refine wN_end ?_
        refine And.intro (fun q4 => ?_) (fun q4 => ?_)
        · have q4 : ((hst L (rdF us) (t : Int) R (lfA L (rdF us) R (msF us) n t) k).2) = 0 := by simpa using q4
          obtain ⟨hq1, hq2⟩ := hour_stop (rd := rdF us) (R := R) (t := t) hO hms (by omega) (show k ≤ n by omega) (by omega)
          have dd2 : Cl L3 bdd (nf (dnA L (rdF us) R (msF us) n (t + 1)) n) := by
            have q : (dnA L (rdF us) R (msF us) n (t + 1)) = (dst L (rdF us) (t : Int) R (lfA L (rdF us) R (msF us) n t) (dnA L (rdF us) R (msF us) n t) k) := hq2 _
            rw [q]; exact dd
          have hcl2 : 0 < n → Cl L3 bl (nf (lfA L (rdF us) R (msF us) n (t + 1)) n) := fun z => by rw [hq1]; exact hcl z
          first | (refine wN_exit ?_; show wC _ _ _ _ _ _ _ _ _) | skip
          first | refine wN_reg ?_ | refine wN_blk ?_ | refine wN_bseq ?_ | (refine wOps_nil ?_; refine wN_reg ?_)
          refine wN_add (a := (t : Int)) (b := 1) rfl rfl ⟨by omega, by omega⟩ ?_
          refine wN_mov (v := iv ((t : Int) + 1)) rfl ?_
          refine wN_end ?_
          exact ⟨d - 1, t + 1, by omega, ⟨by omega, hk, by omega, hs, dd2, hcl2, co, c5⟩, rfl, rfl, rfl, rfl, rfl, trivial⟩
        · have q4 : ¬ (((hst L (rdF us) (t : Int) R (lfA L (rdF us) R (msF us) n t) k).2) = 0) := by simpa using q4
          first | refine wN_skip ?_ | skip
          refine wN_seq ?_
          refine wN_lda (b := H.next) (o := 0) rfl c5.rd (show row 2 _ _ = some [.slice sa n cap, wv] from rfl) ?_
          refine wN_mov (v := iv (L k : Int)) rfl ?_
          refine wN_mov (v := iv (t : Int)) rfl ?_
          obtain ⟨H13, fH13, kH13⟩ := waiting_ok (kn := kn) (lo := lo) (H := L3) (x := L k) (h := (t : Int)) (cl := n) hs hl hLk (by omega) (hcl h0) (by omega)
          rw [← hwv h0] at fH13
          have mH13 := kH13.1
          have hk := hk.trans kH13
          have hs := kH13.sl0 hs
          have dd := kH13.cl dd (by simp)
          have hcl := fun z => kH13.cl (hcl z) (by simp)
          have co := kH13.cl co (by simp)
          have c5 := kH13.cl c5 (by simp)
          cases hw : decide (rdF us (L k) ≤ (t : Int) ∧ 0 < (hst L (rdF us) (t : Int) R (lfA L (rdF us) R (msF us) n t) k).1 (L k))
          · rw [hw] at fH13
            refine wN_callf (vs := [.agg #[.slice sa n cap, wv], iv (L k : Int), iv (t : Int)]) rfl (callX_args fH13) ?_
            have hw := of_decide_eq_false hw
            have hroom : (hst L (rdF us) (t : Int) R (lfA L (rdF us) R (msF us) n t) (k + 1)).2 = (hst L (rdF us) (t : Int) R (lfA L (rdF us) R (msF us) n t) k).2 := by rw [hst_idle hw hp1.1 hr0]
            have dd3 : Cl H13 bdd (nf (dst L (rdF us) (t : Int) R (lfA L (rdF us) R (msF us) n t) (dnA L (rdF us) R (msF us) n t) (k + 1)) n) := by rw [dst_idle hw hp1.1 hr0]; exact dd
            have hcl3 : 0 < n → Cl H13 bl (nf (hst L (rdF us) (t : Int) R (lfA L (rdF us) R (msF us) n t) (k + 1)).1 n) := fun z => by rw [hst_idle hw hp1.1 hr0]; exact hcl z
            refine wN_pur (v := .bool true) rfl rfl ?_
            refine wN_end ?_
            refine condT ?_
            first | (refine wN_exit ?_; show wC _ _ _ _ _ _ _ _ _) | skip
            first | refine wN_reg ?_ | refine wN_blk ?_ | refine wN_bseq ?_ | (refine wOps_nil ?_; refine wN_reg ?_)
            refine wN_add (a := (k : Int)) (b := 1) rfl rfl ⟨by omega, by omega⟩ ?_
            refine wN_mov (v := iv ((k : Int) + 1)) rfl ?_
            refine wN_end ?_
            exact ⟨e - 1, k + 1, by omega, ⟨by omega, hk, by omega, hs, dd3, hcl3, co, c5⟩, rfl, rfl, rfl, rfl, rfl, by rw [hroom]; rfl, rfl, rfl, rfl, rfl, trivial⟩
          · rw [hw] at fH13
            refine wN_callf (vs := [.agg #[.slice sa n cap, wv], iv (L k : Int), iv (t : Int)]) rfl (callX_args fH13) ?_
            have hw := of_decide_eq_true hw
            have hws := hst_wait (L := L) (left := (lfA L (rdF us) R (msF us) n t)) (R := R) (k := k) hw.1
            refine wN_pur (v := .bool false) rfl rfl ?_
            refine wN_end ?_
            refine condF ?_
            first | refine wN_skip ?_ | skip
            refine wN_seq ?_
            refine wN_lda (b := H.next) (o := 0) rfl c5.rd (show row 2 _ _ = some [.slice sa n cap, wv] from rfl) ?_
            refine wN_mov (v := iv (L k : Int)) rfl ?_
            refine wN_mov (v := iv ((hst L (rdF us) (t : Int) R (lfA L (rdF us) R (msF us) n t) k).2)) rfl ?_
            obtain ⟨H14, fH14, kH14, cH14⟩ := freeze_ok (kn := kn) (lo := lo) (H := H13) (x := L k) (h := (hst L (rdF us) (t : Int) R (lfA L (rdF us) R (msF us) n t) k).2) (cl := n) hs hl hLk (by omega) (hcl h0) (by omega) hlb.2.1 ⟨hr0, by omega⟩ ⟨hp1.1, by omega⟩
            rw [← hwv h0] at fH14
            refine wN_callf (vs := [.agg #[.slice sa n cap, wv], iv (L k : Int), iv (hst L (rdF us) (t : Int) R (lfA L (rdF us) R (msF us) n t) k).2]) rfl (callX_args fH14) ?_
            have mH14 := kH14.1
            have hk := hk.new kH14 (fun b hb => by simp at hb ⊢; omega)
            have hs := kH14.sl hs (fun b e => by have := fs b e; first | (simp; done) | (simp; omega))
            have dd := kH14.cl dd (by first | (simp; done) | (simp; omega))
            have co := kH14.cl co (by first | (simp; done) | (simp; omega))
            have c5 := kH14.cl c5 (by first | (simp; done) | (simp; omega))
            have hroom : (hst L (rdF us) (t : Int) R (lfA L (rdF us) R (msF us) n t) (k + 1)).2 = (hst L (rdF us) (t : Int) R (lfA L (rdF us) R (msF us) n t) k).2 - min (hst L (rdF us) (t : Int) R (lfA L (rdF us) R (msF us) n t) k).2 ((hst L (rdF us) (t : Int) R (lfA L (rdF us) R (msF us) n t) k).1 (L k)) := by rw [hws]
            have cl3 : Cl H14 bl (nf (hst L (rdF us) (t : Int) R (lfA L (rdF us) R (msF us) n t) (k + 1)).1 n) := by rw [hws]; exact cH14
            rw [hwv h0] at c5
            refine wN_mov (v := iv ((hst L (rdF us) (t : Int) R (lfA L (rdF us) R (msF us) n t) k).2 - min (hst L (rdF us) (t : Int) R (lfA L (rdF us) R (msF us) n t) k).2 ((hst L (rdF us) (t : Int) R (lfA L (rdF us) R (msF us) n t) k).1 (L k)))) rfl ?_
            refine wN_end ?_
            refine wN_seq ?_
            refine wN_addo (b := H.next) (o := 0) rfl ?_
            refine wN_ld (b := H.next) (o := 1) (v := .slice (some ⟨bl, 0, none⟩) n n) rfl c5.rd rfl ?_
            refine wN_mov (v := iv (L k : Int)) rfl ?_
            refine wN_idx (b := bl) (o := 0) (k := L k) (j := (L k : Int)) rfl rfl rfl hLk ?_
            refine wN_ld (b := bl) (o := 0 + (L k) * 1) (v := iv ((hst L (rdF us) (t : Int) R (lfA L (rdF us) R (msF us) n t) (k + 1)).1 (L k))) rfl cl3.rd (nf_at (f := (hst L (rdF us) (t : Int) R (lfA L (rdF us) R (msF us) n t) (k + 1)).1) hLk) ?_
            refine wN_c_eql (a := ((hst L (rdF us) (t : Int) R (lfA L (rdF us) R (msF us) n t) (k + 1)).1 (L k))) (b := 0) rfl rfl ?_
            refine wN_end ?_
            refine And.intro (fun q5 => ?_) (fun q5 => ?_)
            · have q5 : ((hst L (rdF us) (t : Int) R (lfA L (rdF us) R (msF us) n t) (k + 1)).1 (L k)) = 0 := by simpa using q5
              first | refine wN_reg ?_ | refine wN_blk ?_ | refine wN_bseq ?_ | (refine wOps_nil ?_; refine wN_reg ?_)
              refine wN_mov (v := .slice (some ⟨bdd, 0, none⟩) n n) rfl ?_
              refine wN_mov (v := iv (L k : Int)) rfl ?_
              refine wN_mov (v := iv (t : Int)) rfl ?_
              refine wN_add (a := (t : Int)) (b := 1) rfl rfl ⟨by omega, by omega⟩ ?_
              refine wN_idx (b := bdd) (o := 0) (k := L k) (j := (L k : Int)) rfl rfl rfl hLk ?_
              refine wN_st (b := bdd) (o := 0 + L k * 1) (v := iv ((t : Int) + 1)) rfl rfl dd (by omega) rfl rfl (by rw [nf_len]; omega) ?_
              intro H15 kH15 nH15 sH15
              have mH15 := kH15.1
              have hk := hk.new kH15 (fun b hb => by simp at hb ⊢; omega)
              have hs := kH15.sl hs (fun b e => by have := fs b e; first | (simp; done) | (simp; omega))
              have co := kH15.cl co (by first | (simp; done) | (simp; omega))
              have c5 := kH15.cl c5 (by first | (simp; done) | (simp; omega))
              have cl3 := kH15.cl cl3 (by first | (simp; done) | (simp; omega))
              have dd3 : Cl H15 bdd (nf (dst L (rdF us) (t : Int) R (lfA L (rdF us) R (msF us) n t) (dnA L (rdF us) R (msF us) n t) (k + 1)) n) := by
                have q := sH15; rw [nf_set hLk] at q; rw [dst_go hw.2 (by omega)]; exact q
              have hcl3 : 0 < n → Cl H15 bl (nf (hst L (rdF us) (t : Int) R (lfA L (rdF us) R (msF us) n t) (k + 1)).1 n) := fun _ => cl3
              have c5 : Cl H15 H.next [.slice sa n cap, wv] := by rw [hwv h0]; exact c5
              refine wN_end ?_
              first | refine wN_reg ?_ | refine wN_blk ?_ | refine wN_bseq ?_ | (refine wOps_nil ?_; refine wN_reg ?_)
              refine wN_add (a := (k : Int)) (b := 1) rfl rfl ⟨by omega, by omega⟩ ?_
              refine wN_mov (v := iv ((k : Int) + 1)) rfl ?_
              refine wN_end ?_
              exact ⟨e - 1, k + 1, by omega, ⟨by omega, hk, by omega, hs, dd3, hcl3, co, c5⟩, rfl, rfl, rfl, rfl, rfl, by rw [hroom]; rfl, rfl, rfl, rfl, rfl, trivial⟩
            · have q5 : ¬ (((hst L (rdF us) (t : Int) R (lfA L (rdF us) R (msF us) n t) (k + 1)).1 (L k)) = 0) := by simpa using q5
              have dd3 : Cl H14 bdd (nf (dst L (rdF us) (t : Int) R (lfA L (rdF us) R (msF us) n t) (dnA L (rdF us) R (msF us) n t) (k + 1)) n) := by rw [dst_no (by omega)]; exact dd
              have hcl3 : 0 < n → Cl H14 bl (nf (hst L (rdF us) (t : Int) R (lfA L (rdF us) R (msF us) n t) (k + 1)).1 n) := fun _ => cl3
              have c5 : Cl H14 H.next [.slice sa n cap, wv] := by rw [hwv h0]; exact c5
              first | refine wN_skip ?_ | skip
              first | refine wN_reg ?_ | refine wN_blk ?_ | refine wN_bseq ?_ | (refine wOps_nil ?_; refine wN_reg ?_)
              refine wN_add (a := (k : Int)) (b := 1) rfl rfl ⟨by omega, by omega⟩ ?_
              refine wN_mov (v := iv ((k : Int) + 1)) rfl ?_
              refine wN_end ?_
              exact ⟨e - 1, k + 1, by omega, ⟨by omega, hk, by omega, hs, dd3, hcl3, co, c5⟩, rfl, rfl, rfl, rfl, rfl, by rw [hroom]; rfl, rfl, rfl, rfl, rfl, trivial⟩
      · have q3 : ¬ ((k : Int) < (n : Int)) := of_decide_eq_false q3
        have ek : k = n := by omega
        have dd2 : Cl L3 bdd (nf (dnA L (rdF us) R (msF us) n (t + 1)) n) := by rw [ek] at dd; exact dd
        have hcl2 : 0 < n → Cl L3 bl (nf (lfA L (rdF us) R (msF us) n (t + 1)) n) := fun z => by have q := hcl z; rw [ek] at q; exact q
        first | (refine wN_exit ?_; show wC _ _ _ _ _ _ _ _ _) | skip
        first | refine wN_reg ?_ | refine wN_blk ?_ | refine wN_bseq ?_ | (refine wOps_nil ?_; refine wN_reg ?_)
        refine wN_add (a := (t : Int)) (b := 1) rfl rfl ⟨by omega, by omega⟩ ?_
        refine wN_mov (v := iv ((t : Int) + 1)) rfl ?_
        refine wN_end ?_
        exact ⟨d - 1, t + 1, by omega, ⟨by omega, hk, by omega, hs, dd2, hcl2, co, c5⟩, rfl, rfl, rfl, rfl, rfl, trivial⟩
    · have q2 : ¬ ((t : Int) < 500) := of_decide_eq_false q2
      first | (refine wN_exit ?_; show wC _ _ _ _ _ _ _ _ _) | skip
      refine wN_seq ?_
      refine wN_mov (v := .slice (some ⟨bdd, 0, none⟩) n n) rfl ?_
      refine wN_mov (v := .slice (some ⟨bdd, 0, none⟩) n n) rfl ?_
      refine wN_end ?_
      have et : t = 500 := by omega
      subst et
      exact And.intro trivial (Exists.intro _ (And.intro rfl ⟨_, rfl, hk, by omega, dd⟩))
end
end Go.Ax

/-
  Plant: when lots are frozen, late lots, the least rate (written by program).
-/
namespace Go.Ax
open Go Go.RowKit

section
variable {L : Nat → Nat} {rd ms du : Nat → Int} {R : Int} {n : Nat}
theorem dst_eq {left dn : Nat → Int} {h : Int} (hO : OO du n n L) {p : Nat} (hp : p < n) : ∀ k, k ≤ n → dst L rd h R left dn k (L p) = if p < k ∧ 0 < left (L p) ∧ (hst L rd h R left n).1 (L p) = 0 then h + 1 else dn (L p)
  | 0, _ => by rw [if_neg (fun q => absurd q.1 (by omega))]; rfl
  | k + 1, hk => by
    have ih := dst_eq (left := left) (dn := dn) (h := h) hO hp k (by omega)
    have st := fun q (hq : q ≤ n) => fun p (hp : p < q) => (by
      have := hst_stab (rd := rd) (left := left) (h := h) (R := R) hO.inj (k := q) (n - q) (by omega) p hp
      rwa [show q + (n - q) = n by omega] at this : (hst L rd h R left n).1 (L p) = (hst L rd h R left q).1 (L p))
    have un : ∀ q, q ≤ n → ∀ p, p < n → q ≤ p → (hst L rd h R left q).1 (L p) = left (L p) := by
      intro q
      induction q with
      | zero => intros; rfl
      | succ q ih =>
        intro hq p hp hqp
        show upd _ (L q) _ (L p) = _
        unfold upd; rw [if_neg (fun e => by have := hO.inj p q hp (by omega) e; omega)]
        exact ih (by omega) p hp (by omega)
    show (if 0 < (hst L rd h R left k).1 (L k) ∧ (hst L rd h R left (k + 1)).1 (L k) = 0 then upd (dst L rd h R left dn k) (L k) (h + 1) else dst L rd h R left dn k) (L p) = _
    rw [un k (by omega) k (by omega) (Nat.le_refl _), ← st (k + 1) hk k (by omega)]
    by_cases e : p = k
    · subst e
      by_cases c : 0 < left (L p) ∧ (hst L rd h R left n).1 (L p) = 0
      · rw [if_pos c, if_pos ⟨by omega, c⟩]; unfold upd; rw [if_pos rfl]
      · rw [if_neg c, if_neg (fun q => c q.2), ih, if_neg (fun q => c q.2)]
    · have ne : L p ≠ L k := fun q => e (hO.inj p k hp (by omega) q)
      have g : (if 0 < left (L k) ∧ (hst L rd h R left n).1 (L k) = 0 then upd (dst L rd h R left dn k) (L k) (h + 1) else dst L rd h R left dn k) (L p) = dst L rd h R left dn k (L p) := by
        split
        · unfold upd; rw [if_neg ne]
        · rfl
      rw [g, ih]
      by_cases c : 0 < left (L p) ∧ (hst L rd h R left n).1 (L p) = 0
      · by_cases d : p < k
        · rw [if_pos ⟨d, c⟩, if_pos ⟨by omega, c⟩]
        · rw [if_neg (fun q => d q.1), if_neg (fun q => absurd q.1 (by omega))]
      · rw [if_neg (fun q => c q.2), if_neg (fun q => c q.2)]
theorem dnA_step (hO : OO du n n L) {x : Nat} (hx : x < n) (t : Nat) : dnA L rd R ms n (t + 1) x = if 0 < lfA L rd R ms n t x ∧ lfA L rd R ms n (t + 1) x = 0 then (t : Int) + 1 else dnA L rd R ms n t x := by
  obtain ⟨p, hp, rfl⟩ := hO.sur hx
  show dst L rd t R (lfA L rd R ms n t) (dnA L rd R ms n t) n (L p) = _
  rw [dst_eq hO hp n (Nat.le_refl _)]
  by_cases c : 0 < lfA L rd R ms n t (L p) ∧ lfA L rd R ms n (t + 1) (L p) = 0
  · rw [if_pos c, if_pos ⟨hp, c⟩]
  · rw [if_neg c, if_neg (fun q => c q.2)]
/-- a lot's way, by its own number -/
theorem lfx (hO : OO du n n L) (hm : ∀ x, x < n → 0 ≤ ms x) (ha : ∀ x, x < n → 0 ≤ rd x) (hR : 0 ≤ R) {x : Nat} (hx : x < n) :
    (∀ t, 0 ≤ lfA L rd R ms n t x) ∧ (∀ t u, t ≤ u → lfA L rd R ms n t x = 0 → lfA L rd R ms n u x = 0) ∧ (∀ t : Nat, (t : Int) ≤ rd x → lfA L rd R ms n t x = ms x) := by
  obtain ⟨p, hp, rfl⟩ := hO.sur hx
  have S := sim_of (R := R) hO hm ha hR
  exact ⟨fun t => S.nn t hp, fun t u h hz => S.zero hp h hz, fun t h => S.un hp t h⟩
theorem dn_char (hO : OO du n n L) (hm : ∀ x, x < n → 0 ≤ ms x) (ha : ∀ x, x < n → 0 ≤ rd x) (hR : 0 ≤ R) {x : Nat} (hx : x < n) (h0 : ms x ≠ 0) : ∀ t, (dnA L rd R ms n t x = 501 ∧ lfA L rd R ms n t x ≠ 0) ∨ ∃ T : Nat, T < t ∧ dnA L rd R ms n t x = (T : Int) + 1 ∧ lfA L rd R ms n T x ≠ 0 ∧ lfA L rd R ms n (T + 1) x = 0
  | 0 => .inl ⟨by show dn0 rd ms x = 501; unfold dn0; rw [if_neg h0], h0⟩
  | t + 1 => by
    obtain ⟨a1, a2, _⟩ := lfx hO hm ha hR hx
    rw [dnA_step hO hx]
    rcases dn_char hO hm ha hR hx h0 t with ⟨h1, h2⟩ | ⟨T, h1, h2, h3, h4⟩
    · by_cases c : lfA L rd R ms n (t + 1) x = 0
      · rw [if_pos ⟨by have := a1 t; omega, c⟩]
        exact .inr ⟨t, by omega, rfl, h2, c⟩
      · rw [if_neg (fun q => c q.2)]; exact .inl ⟨h1, c⟩
    · rw [if_neg (fun q => by have := a2 (T + 1) t (by omega) h4; omega)]
      exact .inr ⟨T, by omega, h2, h3, h4⟩
theorem dn_zero (hO : OO du n n L) (hm : ∀ x, x < n → 0 ≤ ms x) (ha : ∀ x, x < n → 0 ≤ rd x) (hR : 0 ≤ R) {x : Nat} (hx : x < n) (h0 : ms x = 0) : ∀ t, dnA L rd R ms n t x = rd x
  | 0 => by show dn0 rd ms x = _; unfold dn0; rw [if_pos h0]
  | t + 1 => by
    obtain ⟨_, a2, _⟩ := lfx hO hm ha hR hx
    rw [dnA_step hO hx, if_neg (fun q => by have := a2 0 t (by omega) h0; omega)]
    exact dn_zero hO hm ha hR hx h0 t
/-- what is told of a lot -/
theorem dn_says (hO : OO du n n L) (hm : ∀ x, x < n → 0 ≤ ms x) (ha : ∀ x, x < n → 0 ≤ rd x) (hR : 0 ≤ R) {x : Nat} (hx : x < n) (hd : rd x ≤ du x ∧ du x ≤ 500) :
    rd x ≤ dnA L rd R ms n 500 x ∧ dnA L rd R ms n 500 x ≤ 501 ∧ (0 < ms x → rd x < dnA L rd R ms n 500 x) ∧ (du x < dnA L rd R ms n 500 x ↔ lfA L rd R ms n (du x).toNat x ≠ 0) := by
  obtain ⟨a1, a2, a3⟩ := lfx hO hm ha hR hx
  have hrx := ha x hx
  by_cases h0 : ms x = 0
  · have e := dn_zero hO hm ha hR hx h0 500
    have z := a2 0 (du x).toNat (by omega) h0
    rw [e]
    exact ⟨Int.le_refl _, by omega, fun q => by omega, ⟨fun q => by omega, fun q => absurd z q⟩⟩
  · rcases dn_char hO hm ha hR hx h0 500 with ⟨h1, h2⟩ | ⟨T, h1, h2, h3, h4⟩
    · rw [h1]
      exact ⟨by omega, Int.le_refl _, fun _ => by omega, ⟨fun _ q => h2 (a2 (du x).toNat 500 (by omega) q), fun _ => by omega⟩⟩
    · rw [h2]
      have hT : rd x ≤ T := Classical.byContradiction fun q => by
        have := a3 (T + 1) (by omega); rw [h4] at this; exact h0 this.symm
      refine ⟨by omega, by omega, fun _ => by omega, ⟨fun q z => h3 (a2 (du x).toNat T (by omega) z), fun q => Classical.byContradiction fun z => q (a2 (T + 1) (du x).toNat (by omega) h4)⟩⟩
theorem late_much (hO : OO du n n L) (hm : ∀ x, x < n → 0 ≤ ms x) (ha : ∀ x, x < n → 0 ≤ rd x) (hR : 0 ≤ R) (hd : ∀ x, x < n → rd x ≤ du x ∧ du x ≤ 500) :
    (∃ x, x < n ∧ du x < dnA L rd R ms n 500 x) ↔ ∃ i j, i < n ∧ j < n ∧ R * max 0 (du j - rd i) < Sim.bt rd du ms (rd i) (du j) n := by
  have S := sim_of (R := R) hO hm ha hR
  have key := S.inTime (d := fun p => du (L p)) (fun p q hpq hq => by
    by_cases e : p = q
    · subst e; exact Int.le_refl _
    · have := hO.so p q (by omega) hq; unfold ltL at this; omega) (fun p hp => (hd _ (hO.lt p hp)).1)
  have sums : ∀ A D, Sim.bt (fun p => rd (L p)) (fun p => du (L p)) (fun p => ms (L p)) A D n = Sim.bt rd du ms A D n := fun A D => hO.su (fun x => if A ≤ rd x ∧ du x ≤ D then ms x else 0)
  constructor
  · rintro ⟨x, hx, h⟩
    have h2 := (dn_says hO hm ha hR hx (hd x hx)).2.2.2.1 h
    obtain ⟨p, hp, rfl⟩ := hO.sur hx
    obtain ⟨i, j, hi, hj, hs⟩ := key.1 ⟨p, hp, h2⟩
    exact ⟨L i, L j, hO.lt i hi, hO.lt j hj, by rw [← sums]; exact hs⟩
  · rintro ⟨x, y, hx, hy, hs⟩
    obtain ⟨i, hi, rfl⟩ := hO.sur hx
    obtain ⟨j, hj, rfl⟩ := hO.sur hy
    rw [← sums] at hs
    obtain ⟨p, hp, h⟩ := key.2 ⟨i, j, hi, hj, hs⟩
    have hx := hO.lt p hp
    exact ⟨L p, hx, (dn_says hO hm ha hR hx (hd _ hx)).2.2.2.2 h⟩
end
/-- of lots -/
def LS (us : List Fz) : Nat → Nat := srt (duF us) us.length
def DN (us : List Fz) (R : Int) : Nat → Int := dnA (LS us) (rdF us) R (msF us) us.length 500
def BT (us : List Fz) (i j k : Nat) : Int := Sim.bt (rdF us) (duF us) (msF us) (rdF us i) (duF us j) k
theorem LS_ok (us : List Fz) : OO (duF us) us.length us.length (LS us) := srt_ok _ (Nat.le_refl _)
/-- of the first k lots: is one late? -/
def lateU (us : List Fz) (R : Int) (k : Nat) : Bool := (List.range k).any fun x => decide (duF us x < DN us R x)
def mJ (us : List Fz) (R : Int) (i k : Nat) : Bool := (List.range k).any fun j => decide (R * max 0 (duF us j - rdF us i) < BT us i j us.length)
def mI (us : List Fz) (R : Int) (k : Nat) : Bool := (List.range k).any fun i => mJ us R i us.length
theorem any_succ (f : Nat → Bool) (k : Nat) : (List.range (k + 1)).any f = ((List.range k).any f || f k) := by rw [List.range_succ, List.any_append]; simp
structure FzOk (us : List Fz) : Prop where
  m : ∀ x, x < us.length → 0 ≤ msF us x ∧ msF us x ≤ 1099511627776
  a : ∀ x, x < us.length → 0 ≤ rdF us x
  d : ∀ x, x < us.length → rdF us x ≤ duF us x ∧ duF us x ≤ 500
theorem FzOk.of {us : List Fz} (h : us.all Fz.ok = true) : FzOk us := ⟨fun x hx => (all_at h hx).2.2, fun x hx => (all_at h hx).2.1.1, fun x hx => ⟨(all_at h hx).2.1.2, (all_at h hx).1.2⟩⟩
theorem FzOk.late {us : List Fz} (h : FzOk us) {R : Int} (hR : 0 ≤ R) : lateU us R us.length = mI us R us.length := by
  have k := late_much (LS_ok us) (fun x hx => (h.m x hx).1) h.a hR h.d
  rw [Bool.eq_iff_iff]
  unfold lateU mI mJ
  simp only [List.any_eq_true, List.mem_range, decide_eq_true_eq]
  constructor
  · rintro ⟨x, hx, hl⟩
    obtain ⟨i, j, hi, hj, q⟩ := k.1 ⟨x, hx, hl⟩
    exact ⟨i, hi, j, hj, q⟩
  · rintro ⟨i, hi, j, hj, q⟩
    exact k.2 ⟨i, j, hi, hj, q⟩
theorem bt_in {us : List Fz} (h : FzOk us) (hn : us.length ≤ 16) (i j : Nat) : ∀ k, k ≤ us.length → 0 ≤ BT us i j k ∧ BT us i j k ≤ 1099511627776 * k
  | 0, _ => by show 0 ≤ (0 : Int) ∧ (0 : Int) ≤ 1099511627776 * ((0 : Nat) : Int); omega
  | k + 1, hk => by
    have a := bt_in h hn i j k (by omega)
    have b := h.m k (by omega)
    show 0 ≤ BT us i j k + (if rdF us i ≤ rdF us k ∧ duF us k ≤ duF us j then msF us k else 0) ∧ BT us i j k + (if rdF us i ≤ rdF us k ∧ duF us k ≤ duF us j then msF us k else 0) ≤ 1099511627776 * ((k + 1 : Nat) : Int)
    split <;> omega
/-- the least rate -/
def brt (us : List Fz) (i j : Nat) : Int := (BT us i j us.length + (duF us j - rdF us i) - 1) / (duF us j - rdF us i)
def lrJ (us : List Fz) (i : Nat) (r : Int) : Nat → Int
  | 0 => r
  | j + 1 => if rdF us i < duF us j then max (lrJ us i r j) (brt us i j) else lrJ us i r j
def lrI (us : List Fz) : Nat → Int
  | 0 => 1
  | i + 1 => lrJ us i (lrI us i) us.length
def noT (us : List Fz) (k : Nat) : Bool := (List.range k).any fun x => decide (0 < msF us x ∧ rdF us x = duF us x)
theorem brt_iff {us : List Fz} {i j : Nat} (h : rdF us i < duF us j) (R : Int) : R < brt us i j ↔ R * (duF us j - rdF us i) < BT us i j us.length := by
  have hd : 0 < duF us j - rdF us i := by omega
  have k := Int.le_ediv_iff_mul_le (a := R + 1) (b := BT us i j us.length + (duF us j - rdF us i) - 1) hd
  rw [Int.add_mul, Int.one_mul] at k
  unfold brt
  constructor
  · intro q; have := k.1 (by omega); omega
  · intro q; have := k.2 (by omega); omega
theorem lrJ_lt {us : List Fz} {i : Nat} {r R : Int} : ∀ j, R < lrJ us i r j ↔ R < r ∨ ∃ q, q < j ∧ rdF us i < duF us q ∧ R * (duF us q - rdF us i) < BT us i q us.length
  | 0 => ⟨fun h => .inl h, fun h => h.elim id fun ⟨q, hq, _⟩ => absurd hq (by omega)⟩
  | j + 1 => by
    have ih := lrJ_lt (us := us) (i := i) (r := r) (R := R) j
    show R < (if rdF us i < duF us j then max (lrJ us i r j) (brt us i j) else lrJ us i r j) ↔ _
    by_cases c : rdF us i < duF us j
    · rw [if_pos c]
      have b := brt_iff c R
      constructor
      · intro h
        by_cases d : R < lrJ us i r j
        · rcases ih.1 d with e | ⟨q, h1, h2⟩
          · exact .inl e
          · exact .inr ⟨q, by omega, h2⟩
        · exact .inr ⟨j, by omega, c, b.1 (by omega)⟩
      · rintro (h | ⟨q, h1, h2, h3⟩)
        · have := ih.2 (.inl h); omega
        · by_cases e : q = j
          · subst e; have := b.2 h3; omega
          · have := ih.2 (.inr ⟨q, by omega, h2, h3⟩); omega
    · rw [if_neg c, ih]
      constructor
      · rintro (h | ⟨q, h1, h2⟩)
        · exact .inl h
        · exact .inr ⟨q, by omega, h2⟩
      · rintro (h | ⟨q, h1, h2, h3⟩)
        · exact .inl h
        · by_cases e : q = j
          · subst e; exact absurd h2 c
          · exact .inr ⟨q, by omega, h2, h3⟩
theorem lrI_lt {us : List Fz} {R : Int} : ∀ k, R < lrI us k ↔ R < 1 ∨ ∃ i q, i < k ∧ q < us.length ∧ rdF us i < duF us q ∧ R * (duF us q - rdF us i) < BT us i q us.length
  | 0 => ⟨fun h => .inl h, fun h => h.elim id fun ⟨i, q, hq, _⟩ => absurd hq (by omega)⟩
  | k + 1 => by
    have ih := lrI_lt (us := us) (R := R) k
    show R < lrJ us k (lrI us k) us.length ↔ _
    rw [lrJ_lt, ih]
    constructor
    · rintro ((h | ⟨i, q, h1, h2⟩) | ⟨q, h1, h2⟩)
      · exact .inl h
      · exact .inr ⟨i, q, by omega, h2⟩
      · exact .inr ⟨k, q, by omega, h1, h2⟩
    · rintro (h | ⟨i, q, h1, h2⟩)
      · exact .inl (.inl h)
      · by_cases e : i = k
        · subst e; exact .inr ⟨q, h2⟩
        · exact .inl (.inr ⟨i, q, by omega, h2⟩)
theorem lr_one (us : List Fz) (k : Nat) : 1 ≤ lrI us k := by
  have := (lrI_lt (us := us) (R := 0) k).2 (.inl (by omega)); omega
theorem noT_bt {us : List Fz} (h : FzOk us) (hz : noT us us.length = false) {i j : Nat} (hc : ¬ rdF us i < duF us j) : BT us i j us.length = 0 := sm_zero fun x hx => by
  split
  · rename_i w
    unfold noT at hz
    rw [List.any_eq_false] at hz
    have := hz x (List.mem_range.2 hx)
    simp only [decide_eq_true_eq] at this
    have a := h.d x hx
    have b := (h.m x hx).1
    omega
  · rfl
/-- late just at a rate that is less -/
theorem FzOk.rate {us : List Fz} (h : FzOk us) (hz : noT us us.length = false) {R : Int} (hR : 1 ≤ R) : lateU us R us.length = decide (R < lrI us us.length) := by
  rw [h.late (by omega)]
  rw [Bool.eq_iff_iff]
  unfold mI mJ
  simp only [List.any_eq_true, List.mem_range, decide_eq_true_eq]
  rw [lrI_lt]
  constructor
  · rintro ⟨i, hi, j, hj, q⟩
    by_cases c : rdF us i < duF us j
    · rw [show max 0 (duF us j - rdF us i) = duF us j - rdF us i by omega] at q
      exact .inr ⟨i, j, hi, hj, c, q⟩
    · rw [show max 0 (duF us j - rdF us i) = 0 by omega, Int.mul_zero, noT_bt h hz c] at q; omega
  · rintro (q | ⟨i, j, hi, hj, c, q⟩)
    · omega
    · refine ⟨i, hi, j, hj, ?_⟩
      rw [show max 0 (duF us j - rdF us i) = duF us j - rdF us i by omega]; exact q
theorem FzOk.never {us : List Fz} (h : FzOk us) (hz : noT us us.length = true) {R : Int} (hR : 0 ≤ R) : lateU us R us.length = true := by
  rw [h.late hR]
  unfold noT at hz
  obtain ⟨x, hx, q⟩ := List.any_eq_true.1 hz
  simp only [decide_eq_true_eq] at q
  have hx := List.mem_range.1 hx
  unfold mI mJ
  simp only [List.any_eq_true, List.mem_range, decide_eq_true_eq]
  refine ⟨x, hx, x, hx, ?_⟩
  rw [show max 0 (duF us x - rdF us x) = 0 by omega, Int.mul_zero]
  have := sm_term (f := fun p => if rdF us x ≤ rdF us p ∧ duF us p ≤ duF us x then msF us p else 0) (n := us.length) (t := x) (fun i hi => by
    show 0 ≤ if rdF us x ≤ rdF us i ∧ duF us i ≤ duF us x then msF us i else 0
    split
    · exact (h.m i hi).1
    · exact Int.le_refl _) hx
  simp only [if_pos (And.intro (Int.le_refl (rdF us x)) (Int.le_refl (duF us x)))] at this
  show 0 < sm _ _
  omega
theorem FzOk.most {us : List Fz} (h : FzOk us) (hn : us.length ≤ 16) : lrI us us.length ≤ 17592186044416 := by
  refine Classical.byContradiction fun q => ?_
  rcases (lrI_lt (us := us) (R := 17592186044416) us.length).1 (by omega) with c | ⟨i, j, hi, hj, c, d⟩
  · omega
  · have := bt_in h hn i j us.length (Nat.le_refl _)
    have : 17592186044416 * 1 ≤ 17592186044416 * (duF us j - rdF us i) := Int.mul_le_mul_of_nonneg_left (by omega) (by decide)
    omega
end Go.Ax

/-
  Plant: Frozen, Late, the law PlantInTime (written by program).
-/
namespace Go.Ax
open Go Go.RowKit Go.Proofs

/-- the error of Frozen -/
def frzE (us : List Fz) (R : Int) : Int := if chkF us = 0 then (if 1 ≤ R ∧ R ≤ 17592186044416 then 0 else 2) else chkF us
theorem chkF_0 {us : List Fz} (h : chkF us = 0) : us.length ≤ 16 ∧ us.all Fz.ok = true := by
  unfold chkF at h
  split at h
  · cases h
  · rename_i q
    refine ⟨by omega, ?_⟩
    split at h
    · assumption
    · cases h
theorem frzE_0 {us : List Fz} {R : Int} (h : frzE us R = 0) : us.length ≤ 16 ∧ us.all Fz.ok = true ∧ 1 ≤ R ∧ R ≤ 17592186044416 := by
  unfold frzE at h
  split at h
  · rename_i q
    split at h
    · exact ⟨(chkF_0 q).1, (chkF_0 q).2, by assumption⟩
    · cases h
  · rename_i q; exact absurd h q
theorem fzc_rowF {us : List Fz} {i : Nat} (h : i < us.length) : row 3 (fzc us) (0 + i * 3) = some [iv (rdF us i), iv (duF us i), iv (msF us i)] := by
  obtain ⟨x, hx⟩ := get_some h
  obtain ⟨a, b, c⟩ := Fz.at hx
  rw [a, b, c]; exact fzc_row hx
theorem fzc_atF {us : List Fz} {i j : Nat} {v : Value} (h : i < us.length) (hj : [iv (rdF us i), iv (duF us i), iv (msF us i)][j]? = some v) : (fzc us)[0 + i * 3 + j]? = some v := row_get (fzc_rowF h) hj
theorem BT_yes {us : List Fz} {i j k : Nat} (h : rdF us i ≤ rdF us k ∧ duF us k ≤ duF us j) : BT us i j (k + 1) = BT us i j k + msF us k := by
  show BT us i j k + (if rdF us i ≤ rdF us k ∧ duF us k ≤ duF us j then msF us k else 0) = _
  rw [if_pos h]
theorem BT_no {us : List Fz} {i j k : Nat} (h : ¬ (rdF us i ≤ rdF us k ∧ duF us k ≤ duF us j)) : BT us i j (k + 1) = BT us i j k := by
  show BT us i j k + (if rdF us i ≤ rdF us k ∧ duF us k ≤ duF us j then msF us k else 0) = _
  rw [if_neg h]; omega
section
variable {kn : FuncId → Option Bool} {lo : Nat} {H : Hp}
/-- Frozen, where it answers -/
theorem frozen28_ok {sa : Option Addr} {n cap : Nat} {us : List Fz} {R : Int} (hs : Sl H sa n cap (fzc us)) (hl : us.length = n) (hn2 : n ≤ 1000000) (hlo : lo ≤ H.next) (h0 : frzE us R = 0) : ∃ b H', FnX Try.prog kn lo 28 [.slice sa n cap, iv R] H (.tuple #[slv b n n, iv 0]) H' ∧ Keep H H' [] ∧ H.next ≤ b ∧ Cl H' b (nf (DN us R) n) := by
  have key := fnX_low (kn := kn) (lo := lo) (H := H) (args := [.slice sa n cap, iv R]) (Q := fun w H' => ∃ b, w = .tuple #[slv b n n, iv 0] ∧ Keep H H' [] ∧ H.next ≤ b ∧ Cl H' b (nf (DN us R) n)) Try.func28 B28 N28 Z28 L28 (by simp) ?_
  · obtain ⟨w, H', h, a, rfl, q⟩ := key; exact ⟨a, H', h, q⟩
  have hk := Keep.refl H []
  obtain ⟨h1, h2, h3, h4⟩ := frzE_0 h0
  have hc : chkF us = 0 := by unfold chkF; rw [if_neg (by omega), h2]; rfl
  refine wN_seq ?_
  refine wN_mov (v := .slice none 0 0) rfl ?_
  refine wN_mov (v := iv 0) rfl ?_
  refine wN_end ?_
  refine wN_seq ?_
  refine wN_mov (v := .slice sa n cap) rfl ?_
  obtain ⟨H1, fH1, kH1⟩ := check57_ok (kn := kn) (lo := lo) (H := H) hs hl hn2 (by omega)
  refine wN_callf (vs := [.slice sa n cap]) rfl (callX_args fH1) ?_
  have mH1 := kH1.1
  have hk := hk.trans kH1
  have hs := kH1.sl0 hs
  refine wN_mov (v := iv (chkF us)) rfl ?_
  refine wN_end ?_
  refine wN_seq ?_
  refine wN_mov (v := iv (chkF us)) rfl ?_
  refine wN_c_neq (a := (chkF us)) (b := 0) rfl rfl ?_
  refine wN_end ?_
  refine And.intro (fun q1 => ?_) (fun q1 => ?_)
  · have q1 : (chkF us) ≠ 0 := by simpa using q1
    exfalso; omega
  · have q1 : ¬ ((chkF us) ≠ 0) := by simpa using q1
    first | refine wN_skip ?_ | skip
    refine wN_seq ?_
    refine wN_mov (v := iv R) rfl ?_
    refine wN_b_lss (a := R) (b := 1) rfl rfl ?_
    intro t2 g2; cases t2
    · have g2 : ¬ (R < 1) := of_decide_eq_false g2
      refine wN_mov (v := .bool false) rfl ?_
      refine wN_g rfl (wN_mov (v := iv R) rfl ?_)
      refine wN_g rfl (wN_b_gtr (a := R) (b := 17592186044416) rfl rfl ?_)
      intro t3 g3; cases t3
      · have g3 : ¬ (R > 17592186044416) := of_decide_eq_false g3
        refine wN_pur (v := .bool false) rfl rfl ?_
        refine wN_end ?_
        refine condF ?_
        first | refine wN_skip ?_ | skip
        refine wN_seq ?_
        refine wN_mov (v := .slice sa n cap) rfl ?_
        refine wN_mov (v := iv R) rfl ?_
        obtain ⟨b, H2, fH2, kH2, hb, cb⟩ := frozen_ok (kn := kn) (lo := lo) (H := H1) (R := R) hs hl (by omega) (L := LS us) (by unfold LS; rw [hl]) h2 ⟨h3, h4⟩ (by omega)
        refine wN_callf (vs := [.slice sa n cap, iv R]) rfl (callX_args fH2) ?_
        have mH2 := kH2.1
        have hk := hk.trans kH2
        have hs := kH2.sl0 hs
        refine wN_mov (v := .slice (some ⟨b, 0, none⟩) n n) rfl ?_
        refine wN_mov (v := iv 0) rfl ?_
        refine wN_end ?_
        exact And.intro trivial (Exists.intro _ (And.intro rfl ⟨_, rfl, hk, by omega, by unfold DN; rw [hl]; exact cb⟩))
      · have g3 : R > 17592186044416 := of_decide_eq_true g3
        exfalso; omega
    · have g2 : R < 1 := of_decide_eq_true g2
      exfalso; omega
/-- Frozen, where it does not -/
theorem frozen28_no {sa : Option Addr} {n cap : Nat} {us : List Fz} {R : Int} (hs : Sl H sa n cap (fzc us)) (hl : us.length = n) (hn2 : n ≤ 1000000) (hlo : lo ≤ H.next) (h0 : frzE us R ≠ 0) : ∃ H', FnX Try.prog kn lo 28 [.slice sa n cap, iv R] H (.tuple #[.slice none 0 0, iv (frzE us R)]) H' ∧ Keep H H' [] := by
  have key := fnX_low (kn := kn) (lo := lo) (H := H) (args := [.slice sa n cap, iv R]) (Q := fun w H' => w = .tuple #[.slice none 0 0, iv (frzE us R)] ∧ Keep H H' []) Try.func28 B28 N28 Z28 L28 (by simp) ?_
  · obtain ⟨w, H', h, rfl, q⟩ := key; exact ⟨H', h, q⟩
  have hk := Keep.refl H []
  refine wN_seq ?_
  refine wN_mov (v := .slice none 0 0) rfl ?_
  refine wN_mov (v := iv 0) rfl ?_
  refine wN_end ?_
  refine wN_seq ?_
  refine wN_mov (v := .slice sa n cap) rfl ?_
  obtain ⟨H1, fH1, kH1⟩ := check57_ok (kn := kn) (lo := lo) (H := H) hs hl hn2 (by omega)
  refine wN_callf (vs := [.slice sa n cap]) rfl (callX_args fH1) ?_
  have mH1 := kH1.1
  have hk := hk.trans kH1
  have hs := kH1.sl0 hs
  refine wN_mov (v := iv (chkF us)) rfl ?_
  refine wN_end ?_
  refine wN_seq ?_
  refine wN_mov (v := iv (chkF us)) rfl ?_
  refine wN_c_neq (a := (chkF us)) (b := 0) rfl rfl ?_
  refine wN_end ?_
  refine And.intro (fun q1 => ?_) (fun q1 => ?_)
  · have q1 : (chkF us) ≠ 0 := by simpa using q1
    refine wN_seq ?_
    refine wN_mov (v := iv (chkF us)) rfl ?_
    refine wN_mov (v := .slice none 0 0) rfl ?_
    refine wN_mov (v := iv (chkF us)) rfl ?_
    refine wN_end ?_
    exact And.intro trivial (Exists.intro _ (And.intro rfl ⟨by unfold frzE; first | (rw [if_neg (by omega)]; rfl) | (rw [if_pos (by omega), if_neg (by omega)]; rfl), hk⟩))
  · have q1 : ¬ ((chkF us) ≠ 0) := by simpa using q1
    first | refine wN_skip ?_ | skip
    refine wN_seq ?_
    refine wN_mov (v := iv R) rfl ?_
    refine wN_b_lss (a := R) (b := 1) rfl rfl ?_
    intro t2 g2; cases t2
    · have g2 : ¬ (R < 1) := of_decide_eq_false g2
      refine wN_mov (v := .bool false) rfl ?_
      refine wN_g rfl (wN_mov (v := iv R) rfl ?_)
      refine wN_g rfl (wN_b_gtr (a := R) (b := 17592186044416) rfl rfl ?_)
      intro t3 g3; cases t3
      · have g3 : ¬ (R > 17592186044416) := of_decide_eq_false g3
        exfalso; exact h0 (by unfold frzE; rw [if_pos (by omega), if_pos (by omega)])
      · have g3 : R > 17592186044416 := of_decide_eq_true g3
        refine wN_pur (v := .bool true) rfl rfl ?_
        refine wN_end ?_
        refine condT ?_
        refine wN_seq ?_
        refine wN_mov (v := .slice none 0 0) rfl ?_
        refine wN_mov (v := iv 2) rfl ?_
        refine wN_end ?_
        exact And.intro trivial (Exists.intro _ (And.intro rfl ⟨by unfold frzE; first | (rw [if_neg (by omega)]; rfl) | (rw [if_pos (by omega), if_neg (by omega)]; rfl), hk⟩))
    · have g2 : R < 1 := of_decide_eq_true g2
      refine wN_mov (v := .bool true) rfl ?_
      refine wN_gs rfl ?_
      refine wN_gs rfl ?_
      refine wN_pur (v := .bool true) rfl rfl ?_
      refine wN_end ?_
      refine condT ?_
      refine wN_seq ?_
      refine wN_mov (v := .slice none 0 0) rfl ?_
      refine wN_mov (v := iv 2) rfl ?_
      refine wN_end ?_
      exact And.intro trivial (Exists.intro _ (And.intro rfl ⟨by unfold frzE; first | (rw [if_neg (by omega)]; rfl) | (rw [if_pos (by omega), if_neg (by omega)]; rfl), hk⟩))
end
end Go.Ax

/-! The law PlantFaster's code, an addition that may wrap left as it is (written by program). -/
namespace Go.Ax
open Go Go.RowKit Go.Proofs
end Go.Ax


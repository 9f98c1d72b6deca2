import Derived.Test.YtbgdbnnbfankeaaMa
import Derived.Test.YtbgdbnnbfankeaaAxW9
import Derived.Test.YtbgdbnnbfankeaaChecked
import Derived.Test.YtbgdbnnbfankeaaAxO
import Derived.Deep.Slices
import Derived.Deep.Fields
import Derived.ChangeSame
set_option linter.all false
/-! What 'low' makes of functions of plant (written by program). -/
namespace Go.Ax
open Go Go.RowKit Go.Proofs
theorem N95 : Try.f95.ntmps = 12 := by kernel_rfl
theorem Z95 : Try.f95.results.toList = ((List.toArray [(.tmp 4)]) : Array ResultVar).toList := by kernel_rfl
theorem B95 : Try.f95.body = some (at_ Try.f95 []) := by kernel_rfl
noncomputable def R95 : RC := (.seq (.reg [⟨(some 4), none, (.mov (.const (.bool false)))⟩])
  (.seq (.reg [⟨(some 5), none, (.mov (.tmp 0))⟩, ⟨(some 6), none, (.cmpb .leq (.const (.int .i64 0)) (.tmp 5))⟩, ⟨(some 7), none, (.mov (.tmp 6))⟩, ⟨(some 8), (some (7, true)), (.mov (.tmp 0))⟩, ⟨(some 9), (some (7, true)), (.mov (.tmp 1))⟩, ⟨(some 10), (some (7, true)), (.cmpb .leq (.tmp 8) (.tmp 9))⟩, ⟨(some 11), none, (.pur ⟨(some 11), (.pick (.tmp 7) (.tmp 10) (.const (.bool false))), 4, "", (List.toArray []), none⟩)⟩, ⟨(some 4), none, (.mov (.tmp 11))⟩])
  .ret))
theorem L95 : low Try.prog Try.f95.ntmps (at_ Try.f95 []) = some R95 := by kernel_rfl
theorem N66 : Try.f66.ntmps = 12 := by kernel_rfl
theorem Z66 : Try.f66.results.toList = ((List.toArray [(.cell 2 104)]) : Array ResultVar).toList := by kernel_rfl
theorem B66 : Try.f66.body = some (at_ Try.f66 []) := by kernel_rfl
noncomputable def R66 : RC := (.seq (.reg [⟨(some 1), none, (.box 24 (.tmp 0))⟩, ⟨(some 2), none, (.alc 104 [(.int .i64 0), (.int .i64 0), (.int .i64 0), (.int .i64 0)])⟩])
  (.seq (.reg [⟨(some 3), none, (.addo (.tmp 1) 0)⟩, ⟨(some 4), none, (.ld (.tmp 3) 1)⟩, ⟨(some 5), none, (.addo (.tmp 1) 1)⟩, ⟨(some 6), none, (.ld (.tmp 5) 1)⟩, ⟨(some 7), none, (.addo (.tmp 1) 2)⟩, ⟨(some 8), none, (.ld (.tmp 7) 1)⟩, ⟨(some 9), none, (.addo (.tmp 1) 3)⟩, ⟨(some 10), none, (.ld (.tmp 9) 1)⟩, ⟨(some 11), none, (.pur ⟨(some 11), (.build 104 (List.toArray [(0, (.tmp 4)), (1, (.tmp 6)), (2, (.tmp 8)), (3, (.tmp 10))])), 104, "", (List.toArray []), none⟩)⟩, ⟨none, none, (.sta (.tmp 2) (.tmp 11) 4)⟩])
  .ret))
theorem L66 : low Try.prog Try.f66.ntmps (at_ Try.f66 []) = some R66 := by kernel_rfl
theorem N67 : Try.f67.ntmps = 16 := by kernel_rfl
theorem Z67 : Try.f67.results.toList = ((List.toArray [(.tmp 4)]) : Array ResultVar).toList := by kernel_rfl
theorem B67 : Try.f67.body = some (at_ Try.f67 []) := by kernel_rfl
noncomputable def R67 : RC := (.seq (.reg [⟨(some 2), none, (.box 104 (.tmp 0))⟩, ⟨(some 4), none, (.mov (.const (.bool false)))⟩])
  (.seq (.seq (.reg [⟨(some 7), none, (.lda (.tmp 2) 4)⟩, ⟨(some 8), none, (.mov (.const (.int .i64 0)))⟩])
  (.block 0 (.other (at_ Try.f67 [1, 0, 1, 0]))))
  (.seq (.reg [⟨(some 4), none, (.mov (.const (.bool true)))⟩])
  .ret)))
theorem L67 : low Try.prog Try.f67.ntmps (at_ Try.f67 []) = some R67 := by kernel_rfl
theorem E67_1 : at_ Try.f67 [1, 0, 1, 0] = .loop (at_ Try.f67 [1, 0, 1, 0, 0]) := by kernel_rfl
noncomputable def R67x1 : RC := (.seq (.reg [⟨(some 9), none, (.cmp .lss (.tmp 8) (.const (.int .i64 4)))⟩])
  (.seq (.cond (.tmp 9) .skip
  (.exit 0))
  (.seq (.block 1 (.seq (.reg [⟨(some 10), none, (.pur ⟨(some 10), (.index 104 (.tmp 7) (.tmp 8)), 3, "", (List.toArray []), none⟩)⟩, ⟨(some 6), none, (.mov (.tmp 10))⟩])
  (.seq (.reg [⟨(some 11), none, (.mov (.tmp 6))⟩, ⟨(some 12), none, (.mov (.tmp 1))⟩, ⟨(some 13), none, (.call ⟨(.value (.func 95)), (List.toArray [(.tmp 11), (.tmp 12)]), (List.toArray [3, 3])⟩ true)⟩, ⟨(some 14), none, (.pur ⟨(some 14), (.unOp .not 4 (.tmp 13)), 4, "", (List.toArray []), none⟩)⟩])
  (.cond (.tmp 14) (.seq (.reg [⟨(some 4), none, (.mov (.const (.bool false)))⟩])
  .ret)
  .skip))))
  (.reg [⟨(some 15), none, (.ari .add (.tmp 8) (.const (.int .i64 1)))⟩, ⟨(some 8), none, (.mov (.tmp 15))⟩]))))
theorem L67x1 : low Try.prog Try.f67.ntmps (at_ Try.f67 [1, 0, 1, 0, 0]) = some R67x1 := by kernel_rfl
theorem N43 : Try.f43.ntmps = 6 := by kernel_rfl
theorem Z43 : Try.f43.results.toList = ((List.toArray [(.tmp 2)]) : Array ResultVar).toList := by kernel_rfl
theorem B43 : Try.f43.body = some (at_ Try.f43 []) := by kernel_rfl
noncomputable def R43 : RC := (.seq (.reg [⟨(some 1), none, (.box 24 (.tmp 0))⟩, ⟨(some 2), none, (.mov (.const (.bool false)))⟩])
  (.seq (.reg [⟨(some 3), none, (.lda (.tmp 1) 4)⟩, ⟨(some 4), none, (.call ⟨(.value (.func 66)), (List.toArray [(.tmp 3)]), (List.toArray [24])⟩ true)⟩, ⟨(some 5), none, (.call ⟨(.value (.func 67)), (List.toArray [(.tmp 4), (.const (.int .i64 1099511627776))]), (List.toArray [104, 3])⟩ true)⟩, ⟨(some 2), none, (.mov (.tmp 5))⟩])
  .ret))
theorem L43 : low Try.prog Try.f43.ntmps (at_ Try.f43 []) = some R43 := by kernel_rfl
theorem N49 : Try.f49.ntmps = 9 := by kernel_rfl
theorem Z49 : Try.f49.results.toList = ((List.toArray [(.tmp 4)]) : Array ResultVar).toList := by kernel_rfl
theorem B49 : Try.f49.body = some (at_ Try.f49 []) := by kernel_rfl
noncomputable def R49 : RC := (.seq (.reg [⟨(some 4), none, (.mov (.const (.int .i64 0)))⟩])
  (.seq (.reg [⟨(some 5), none, (.mov (.tmp 0))⟩, ⟨(some 6), none, (.ari .mul (.tmp 5) (.const (.int .i64 10000)))⟩, ⟨(some 7), none, (.mov (.tmp 1))⟩, ⟨(some 8), none, (.ari .quo (.tmp 6) (.tmp 7))⟩, ⟨(some 4), none, (.mov (.tmp 8))⟩])
  .ret))
theorem L49 : low Try.prog Try.f49.ntmps (at_ Try.f49 []) = some R49 := by kernel_rfl
theorem N19 : Try.f19.ntmps = 33 := by kernel_rfl
theorem Z19 : Try.f19.results.toList = ((List.toArray [(.tmp 4), (.tmp 5)]) : Array ResultVar).toList := by kernel_rfl
theorem B19 : Try.f19.body = some (at_ Try.f19 []) := by kernel_rfl
noncomputable def R19 : RC := (.seq (.reg [⟨(some 2), none, (.box 24 (.tmp 0))⟩, ⟨(some 4), none, (.mov (.const (.int .i64 0)))⟩, ⟨(some 5), none, (.mov (.const (.int .i64 0)))⟩])
  (.seq (.seq (.reg [⟨(some 6), none, (.lda (.tmp 2) 4)⟩, ⟨(some 7), none, (.call ⟨(.value (.func 43)), (List.toArray [(.tmp 6)]), (List.toArray [24])⟩ true)⟩, ⟨(some 8), none, (.pur ⟨(some 8), (.unOp .not 4 (.tmp 7)), 4, "", (List.toArray []), none⟩)⟩, ⟨(some 9), none, (.mov (.tmp 8))⟩, ⟨(some 10), (some (9, false)), (.addo (.tmp 2) 1)⟩, ⟨(some 11), (some (9, false)), (.ld (.tmp 10) 1)⟩, ⟨(some 12), (some (9, false)), (.addo (.tmp 2) 0)⟩, ⟨(some 13), (some (9, false)), (.ld (.tmp 12) 1)⟩, ⟨(some 14), (some (9, false)), (.cmpb .gtr (.tmp 11) (.tmp 13))⟩, ⟨(some 15), none, (.pur ⟨(some 15), (.pick (.tmp 9) (.const (.bool true)) (.tmp 14)), 4, "", (List.toArray []), none⟩)⟩])
  (.cond (.tmp 15) (.seq (.reg [⟨(some 4), none, (.mov (.const (.int .i64 0)))⟩, ⟨(some 5), none, (.mov (.const (.int .i64 1)))⟩])
  .ret)
  .skip))
  (.seq (.seq (.reg [⟨(some 16), none, (.mov (.tmp 1))⟩, ⟨(some 17), none, (.cmpb .lss (.tmp 16) (.const (.int .i64 1)))⟩, ⟨(some 18), none, (.mov (.tmp 17))⟩, ⟨(some 19), (some (18, false)), (.mov (.tmp 1))⟩, ⟨(some 20), (some (18, false)), (.cmpb .gtr (.tmp 19) (.const (.int .i64 10000)))⟩, ⟨(some 21), none, (.pur ⟨(some 21), (.pick (.tmp 18) (.const (.bool true)) (.tmp 20)), 4, "", (List.toArray []), none⟩)⟩])
  (.cond (.tmp 21) (.seq (.reg [⟨(some 4), none, (.mov (.const (.int .i64 0)))⟩, ⟨(some 5), none, (.mov (.const (.int .i64 2)))⟩])
  .ret)
  .skip))
  (.seq (.seq (.reg [⟨(some 22), none, (.addo (.tmp 2) 1)⟩, ⟨(some 23), none, (.ld (.tmp 22) 1)⟩, ⟨(some 24), none, (.cmp .eql (.tmp 23) (.const (.int .i64 0)))⟩])
  (.cond (.tmp 24) (.seq (.reg [⟨(some 4), none, (.mov (.const (.int .i64 0)))⟩, ⟨(some 5), none, (.mov (.const (.int .i64 4)))⟩])
  .ret)
  .skip))
  (.seq (.dreg [⟨(some 25), none, (.addo (.tmp 2) 0)⟩, ⟨(some 26), none, (.ld (.tmp 25) 1)⟩, ⟨(some 27), none, (.addo (.tmp 2) 1)⟩, ⟨(some 28), none, (.ld (.tmp 27) 1)⟩, ⟨(some 29), none, (.mov (.tmp 1))⟩, ⟨(some 30), none, (.call ⟨(.value (.func 49)), (List.toArray [(.tmp 28), (.tmp 29)]), (List.toArray [3, 3])⟩ false)⟩, ⟨(some 31), none, (.ari .sub (.tmp 26) (.tmp 30))⟩, ⟨(some 32), none, (.mm false (.const (.int .i64 0)) (.tmp 31))⟩, ⟨(some 4), none, (.mov (.tmp 32))⟩, ⟨(some 5), none, (.mov (.const (.int .i64 0)))⟩] [511, 255, 127, 63, 28, 0, 4, 0, 1, 0])
  .ret)))))
theorem L19 : low Try.prog Try.f19.ntmps (at_ Try.f19 []) = some R19 := by kernel_rfl
end Go.Ax

/-
  Plant: parts and streams: what is done with four numbers (written by program).
-/
namespace Go.Ax
open Go Go.RowKit Go.Proofs

theorem i104s : ∃ i, Try.prog.info? 104 = some i ∧ i.size = 4 := by
  have h : (Try.prog.info? 104).map (fun i => i.size) = some 4 := by kernel_rfl
  cases e : Try.prog.info? 104 with
  | none => rw [e] at h; cases h
  | some i => rw [e] at h; simp at h; exact ⟨i, rfl, h⟩
theorem a104 : isAggB Try.prog 104 = some true := by kernel_rfl
theorem res_cell {P : Program} {S : Rg} {H : Hp} {a x n : Nat} {t : TypeId} {cs : List Value} (ha : lk S a = some (.pointer (some ⟨x, 0, none⟩))) (h1 : isAggB P t = some true) (hi : ∃ i, P.info? t = some i ∧ i.size = n) (hl : cs.length = n) (h : Cl H x cs) : resS P S H [.cell a t] = some [.agg cs.toArray] := by
  simp only [resS, ha, load_agg h1 hi h.rd hl]
theorem index4 {n : Nat} {S : Rg} {d : Option Tmp} {x y : Operand} {p : String} {ty : TypeId} {q : Nat → Int} {i : Nat} (hx : evS S x = some (.agg (qc q).toArray)) (hy : evS S y = some (iv (i : Int))) (hi : i < 4) : pureOp Try.prog (frS n S) ⟨d, .index 104 x y, ty, p, #[], none⟩ = some (iv (q i)) := by
  unfold pureOp
  simp only [ev_frS, hx, hy]
  rcases i with _ | _ | _ | _ | i
  · kernel_rfl
  · kernel_rfl
  · kernel_rfl
  · kernel_rfl
  · omega
theorem wiQ_step {p : Nat → Int} {m : Int} {i : Nat} (h : ∀ j, j < i → isw (p j) m = true) (h2 : isw (p i) m = true) : ∀ j, j < i + 1 → isw (p j) m = true := fun j hj => by
  by_cases e : j = i
  · subst e; exact h2
  · exact h j (by omega)
theorem wiQ_all {p : Nat → Int} {m : Int} (h : ∀ j, j < 4 → isw (p j) m = true) : wiQ p m = true := by
  unfold wiQ; rw [h 0 (by omega), h 1 (by omega), h 2 (by omega), h 3 (by omega)]; rfl
theorem wiQ_fail {p : Nat → Int} {m : Int} {i : Nat} (hi : i < 4) (h : isw (p i) m = false) : wiQ p m = false := by
  unfold wiQ
  match i, hi with
  | 0, _ => rw [h]; rfl
  | 1, _ => rw [h]; simp
  | 2, _ => rw [h]; simp
  | 3, _ => rw [h]; simp
  | n + 4, hi => exact absurd hi (by omega)
section
variable {kn : FuncId → Option Bool} {lo : Nat} {H : Hp}
theorem isw_ok {n m : Int} : ∃ H', FnX Try.prog kn lo 95 [iv n, iv m] H (.bool (isw n m)) H' ∧ Keep H H' [] := by
  have key := fnX_low (kn := kn) (lo := lo) (H := H) (args := [iv n, iv m]) (Q := fun w H' => w = .bool (isw n m) ∧ Keep H H' []) Try.func95 B95 N95 Z95 L95 (by simp) ?_
  · obtain ⟨w, H', h, rfl, q⟩ := key; exact ⟨H', h, q⟩
  repeat' first
    | (intro t ht; cases t)
    | exact And.intro trivial (Exists.intro _ (And.intro rfl ⟨by simp_all [retV, isw] <;> (intros; omega), Keep.refl _ _⟩))
    | refine And.intro rfl (Exists.intro _ (And.intro rfl ?_))
/-- grams -/
theorem grams_ok {s : Nat → Int} (hlo : lo ≤ H.next) : ∃ H', FnX Try.prog kn lo 66 [.agg (qc s).toArray] H (.agg (qc s).toArray) H' ∧ Keep H H' [] := by
  have key := fnX_low (kn := kn) (lo := lo) (H := H) (args := [.agg (qc s).toArray]) (Q := fun w H' => w = .agg (qc s).toArray ∧ Keep H H' []) Try.func66 B66 N66 Z66 L66 (by simp) ?_
  · obtain ⟨w, H', h, rfl, q⟩ := key; exact ⟨H', h, q⟩
  have hk := Keep.refl H []
  refine wN_seq ?_
  refine wN_box (v := .agg (qc s).toArray) rfl ?_
  intro H1 kH1 nH1 c1
  have c1 : Cl H1 H.next [iv (s 0), iv (s 1), iv (s 2), iv (s 3)] := c1
  have mH1 := kH1.1
  have hk := hk.trans kH1
  refine wN_alc ?_
  intro H2 kH2 nH2 c2
  have c2 : Cl H2 H1.next [iv 0, iv 0, iv 0, iv 0] := c2
  have mH2 := kH2.1
  have hk := hk.trans kH2
  have c1 := kH2.cl c1 (by simp)
  refine wN_end ?_
  refine wN_seq ?_
  refine wN_addo (b := H.next) (o := 0) rfl ?_
  refine wN_ld (b := H.next) (o := 0) (v := iv (s 0)) rfl c1.rd rfl ?_
  refine wN_addo (b := H.next) (o := 0) rfl ?_
  refine wN_ld (b := H.next) (o := 1) (v := iv (s 1)) rfl c1.rd rfl ?_
  refine wN_addo (b := H.next) (o := 0) rfl ?_
  refine wN_ld (b := H.next) (o := 2) (v := iv (s 2)) rfl c1.rd rfl ?_
  refine wN_addo (b := H.next) (o := 0) rfl ?_
  refine wN_ld (b := H.next) (o := 3) (v := iv (s 3)) rfl c1.rd rfl ?_
  refine wN_pur (v := .agg #[iv (s 0), iv (s 1), iv (s 2), iv (s 3)]) rfl (by kernel_rfl) ?_
  refine wN_sta (b := H1.next) (o := 0) rfl rfl c2 (by omega) rfl rfl (by simp) ?_
  intro H3 kH3 nH3 sH3
  have mH3 := kH3.1
  have hk := hk.new kH3 (fun b hb => by simp at hb ⊢; omega)
  have c1 := kH3.cl c1 (by first | (simp; done) | (simp; omega))
  have c2 : Cl H3 H1.next [iv (s 0), iv (s 1), iv (s 2), iv (s 3)] := sH3
  refine wN_end ?_
  exact And.intro trivial (Exists.intro _ (And.intro (res_cell rfl a104 i104s rfl c2) ⟨rfl, hk⟩))
/-- areWithin -/
theorem within_ok {p : Nat → Int} {m : Int} : ∃ H', FnX Try.prog kn lo 67 [.agg (qc p).toArray, iv m] H (.bool (wiQ p m)) H' ∧ Keep H H' [] := by
  have key := fnX_low (kn := kn) (lo := lo) (H := H) (args := [.agg (qc p).toArray, iv m]) (Q := fun w H' => w = .bool (wiQ p m) ∧ Keep H H' []) Try.func67 B67 N67 Z67 L67 (by simp) ?_
  · obtain ⟨w, H', h, rfl, q⟩ := key; exact ⟨H', h, q⟩
  have hk := Keep.refl H []
  refine wN_seq ?_
  refine wN_box (v := .agg (qc p).toArray) rfl ?_
  intro H1 kH1 nH1 c1
  have c1 : Cl H1 H.next [iv (p 0), iv (p 1), iv (p 2), iv (p 3)] := c1
  have mH1 := kH1.1
  have hk := hk.trans kH1
  refine wN_mov (v := .bool false) rfl ?_
  refine wN_end ?_
  refine wN_seq ?_
  refine wN_lda (b := H.next) (o := 0) rfl c1.rd (show row 4 _ _ = some [iv (p 0), iv (p 1), iv (p 2), iv (p 3)] from rfl) ?_
  refine wN_mov (v := iv 0) rfl ?_
  refine wN_end ?_
  refine loop_low (fn := Try.f67) E67_1 N67 L67x1 (fun i : Nat => [(1, iv m), (7, .agg (qc p).toArray), (8, iv (i : Int))])
    (fun k i H' => i + k = 4 ∧ Keep H H' [] ∧ ∀ j, j < i → isw (p j) m = true) 4 0 ⟨by omega, hk, fun j h => absurd h (by omega)⟩ ⟨rfl, rfl, rfl, trivial⟩ ?_
  rintro k i L1 ⟨hik, hki, hall⟩
  refine wN_seq ?_
  refine wN_c_lss (a := (i : Int)) (b := 4) rfl rfl ?_
  refine wN_end ?_
  refine And.intro (fun q1 => ?_) (fun q1 => ?_)
  · have q1 : (i : Int) < 4 := of_decide_eq_true q1
    have hi : i < 4 := by omega
    first | refine wN_skip ?_ | skip
    refine wN_seq ?_
    refine wN_pur (v := iv (p i)) rfl (index4 rfl rfl hi) ?_
    refine wN_mov (v := iv (p i)) rfl ?_
    refine wN_end ?_
    refine wN_seq ?_
    refine wN_mov (v := iv (p i)) rfl ?_
    refine wN_mov (v := iv m) rfl ?_
    refine wN_callB rfl (isw_ok) ?_
    intro tH2 H2 hH2 kH2
    have mH2 := kH2.1
    have hki := hki.trans kH2
    cases tH2
    · have hb : isw (p i) m = false := hH2
      refine wN_pur (v := .bool true) rfl rfl ?_
      refine wN_end ?_
      refine condT ?_
      refine wN_seq ?_
      refine wN_mov (v := .bool false) rfl ?_
      refine wN_end ?_
      exact And.intro trivial (Exists.intro _ (And.intro rfl ⟨congrArg Value.bool (wiQ_fail hi hb).symm, hki⟩))
    · have hb : isw (p i) m = true := hH2
      refine wN_pur (v := .bool false) rfl rfl ?_
      refine wN_end ?_
      refine condF ?_
      first | refine wN_skip ?_ | skip
      first | refine wN_reg ?_ | refine wN_blk ?_ | refine wN_bseq ?_ | (refine wOps_nil ?_; refine wN_reg ?_)
      refine wN_add (a := (i : Int)) (b := 1) rfl rfl ⟨by omega, by omega⟩ ?_
      refine wN_mov (v := iv ((i : Int) + 1)) rfl ?_
      refine wN_end ?_
      exact ⟨k - 1, i + 1, by omega, ⟨by omega, hki, wiQ_step hall hb⟩, rfl, rfl, rfl, trivial⟩
  · have q1 : ¬ ((i : Int) < 4) := of_decide_eq_false q1
    have e : i = 4 := by omega
    subst e
    refine wN_seq ?_
    refine wN_mov (v := .bool true) rfl ?_
    refine wN_end ?_
    exact And.intro trivial (Exists.intro _ (And.intro rfl ⟨congrArg Value.bool (wiQ_all hall).symm, hki⟩))
end
end Go.Ax

/-! What 'low' makes of functions of plant (written by program). -/
namespace Go.Ax
open Go Go.RowKit Go.Proofs
theorem N9 : Try.f9.ntmps = 71 := by kernel_rfl
theorem Z9 : Try.f9.results.toList = ((List.toArray [(.tmp 4)]) : Array ResultVar).toList := by kernel_rfl
theorem B9 : Try.f9.body = some (at_ Try.f9 []) := by kernel_rfl
noncomputable def R9 : RC := (.seq (.reg [⟨(some 2), none, (.box 24 (.tmp 0))⟩, ⟨(some 4), none, (.mov (.const (.bool false)))⟩])
  (.seq (.reg [⟨(some 9), none, (.lda (.tmp 2) 4)⟩, ⟨(some 10), none, (.mov (.tmp 1))⟩, ⟨(some 11), none, (.call ⟨(.value (.func 19)), (List.toArray [(.tmp 9), (.tmp 10)]), (List.toArray [24, 3])⟩ true)⟩, ⟨(some 8), none, (.mov (.tmp 11))⟩, ⟨(some 12), none, (.pur ⟨(some 12), (.extract (.tmp 8) 0), 3, "", (List.toArray []), none⟩)⟩, ⟨(some 13), none, (.pur ⟨(some 13), (.extract (.tmp 8) 1), 28, "", (List.toArray []), none⟩)⟩, ⟨(some 5), none, (.mov (.tmp 12))⟩, ⟨(some 6), none, (.mov (.tmp 13))⟩])
  (.seq (.seq (.reg [⟨(some 14), none, (.mov (.tmp 6))⟩, ⟨(some 15), none, (.cmp .neq (.tmp 14) (.const (.int .i64 0)))⟩])
  (.cond (.tmp 15) (.seq (.reg [⟨(some 16), none, (.mov (.tmp 5))⟩, ⟨(some 17), none, (.cmpb .eql (.tmp 16) (.const (.int .i64 0)))⟩, ⟨(some 18), none, (.mov (.tmp 17))⟩, ⟨(some 19), (some (18, true)), (.mov (.tmp 6))⟩, ⟨(some 20), (some (18, true)), (.cmpb .neq (.tmp 19) (.const (.int .i64 4)))⟩, ⟨(some 21), (some (18, true)), (.mov (.tmp 20))⟩, ⟨(some 22), (some (21, false)), (.addo (.tmp 2) 1)⟩, ⟨(some 23), (some (21, false)), (.ld (.tmp 22) 1)⟩, ⟨(some 24), (some (21, false)), (.cmpb .eql (.tmp 23) (.const (.int .i64 0)))⟩, ⟨(some 25), (some (18, true)), (.pur ⟨(some 25), (.pick (.tmp 21) (.const (.bool true)) (.tmp 24)), 4, "", (List.toArray []), none⟩)⟩, ⟨(some 26), none, (.pur ⟨(some 26), (.pick (.tmp 18) (.tmp 25) (.const (.bool false))), 4, "", (List.toArray []), none⟩)⟩, ⟨(some 27), none, (.mov (.tmp 26))⟩, ⟨(some 28), (some (27, true)), (.call ⟨(.value (.func 16)), (List.toArray []), (List.toArray [])⟩ true)⟩, ⟨(some 29), none, (.pur ⟨(some 29), (.pick (.tmp 27) (.tmp 28) (.const (.bool false))), 4, "", (List.toArray []), none⟩)⟩, ⟨(some 4), none, (.mov (.tmp 29))⟩])
  .ret)
  .skip))
  (.seq (.reg [⟨(some 30), none, (.addo (.tmp 2) 0)⟩, ⟨(some 31), none, (.ld (.tmp 30) 1)⟩, ⟨(some 32), none, (.mov (.tmp 5))⟩, ⟨(some 33), none, (.ari .sub (.tmp 31) (.tmp 32))⟩, ⟨(some 7), none, (.mov (.tmp 33))⟩])
  (.seq (.seq (.reg [⟨(some 34), none, (.mov (.tmp 5))⟩, ⟨(some 35), none, (.cmpb .lss (.tmp 34) (.const (.int .i64 0)))⟩, ⟨(some 36), none, (.mov (.tmp 35))⟩, ⟨(some 37), (some (36, false)), (.mov (.tmp 7))⟩, ⟨(some 38), (some (36, false)), (.addo (.tmp 2) 1)⟩, ⟨(some 39), (some (36, false)), (.ld (.tmp 38) 1)⟩, ⟨(some 40), (some (36, false)), (.cmpb .lss (.tmp 37) (.tmp 39))⟩, ⟨(some 41), none, (.pur ⟨(some 41), (.pick (.tmp 36) (.const (.bool true)) (.tmp 40)), 4, "", (List.toArray []), none⟩)⟩, ⟨(some 42), none, (.mov (.tmp 41))⟩, ⟨(some 43), (some (42, false)), (.addo (.tmp 2) 1)⟩, ⟨(some 44), (some (42, false)), (.ld (.tmp 43) 1)⟩, ⟨(some 45), (some (42, false)), (.cmpb .lss (.tmp 44) (.const (.int .i64 1)))⟩, ⟨(some 46), none, (.pur ⟨(some 46), (.pick (.tmp 42) (.const (.bool true)) (.tmp 45)), 4, "", (List.toArray []), none⟩)⟩, ⟨(some 47), none, (.mov (.tmp 46))⟩, ⟨(some 48), (some (47, false)), (.addo (.tmp 2) 1)⟩, ⟨(some 49), (some (47, false)), (.ld (.tmp 48) 1)⟩, ⟨(some 50), (some (47, false)), (.ari .mul (.tmp 49) (.const (.int .i64 10000)))⟩, ⟨(some 51), (some (47, false)), (.mov (.tmp 1))⟩, ⟨(some 52), (some (47, false)), (.mov (.tmp 7))⟩, ⟨(some 53), (some (47, false)), (.ari .mul (.tmp 51) (.tmp 52))⟩, ⟨(some 54), (some (47, false)), (.cmpb .lss (.tmp 50) (.tmp 53))⟩, ⟨(some 55), none, (.pur ⟨(some 55), (.pick (.tmp 47) (.const (.bool true)) (.tmp 54)), 4, "", (List.toArray []), none⟩)⟩])
  (.cond (.tmp 55) (.seq (.reg [⟨(some 4), none, (.mov (.const (.bool false)))⟩])
  .ret)
  .skip))
  (.seq (.reg [⟨(some 56), none, (.mov (.tmp 5))⟩, ⟨(some 57), none, (.cmpb .eql (.tmp 56) (.const (.int .i64 0)))⟩, ⟨(some 58), none, (.mov (.tmp 57))⟩, ⟨(some 59), (some (58, false)), (.addo (.tmp 2) 1)⟩, ⟨(some 60), (some (58, false)), (.ld (.tmp 59) 1)⟩, ⟨(some 61), (some (58, false)), (.ari .mul (.tmp 60) (.const (.int .i64 10000)))⟩, ⟨(some 62), (some (58, false)), (.mov (.tmp 1))⟩, ⟨(some 63), (some (58, false)), (.mov (.tmp 7))⟩, ⟨(some 64), (some (58, false)), (.ari .add (.tmp 63) (.const (.int .i64 1)))⟩, ⟨(some 65), (some (58, false)), (.ari .mul (.tmp 62) (.tmp 64))⟩, ⟨(some 66), (some (58, false)), (.cmpb .lss (.tmp 61) (.tmp 65))⟩, ⟨(some 67), none, (.pur ⟨(some 67), (.pick (.tmp 58) (.const (.bool true)) (.tmp 66)), 4, "", (List.toArray []), none⟩)⟩, ⟨(some 68), none, (.mov (.tmp 67))⟩, ⟨(some 69), (some (68, true)), (.call ⟨(.value (.func 16)), (List.toArray []), (List.toArray [])⟩ true)⟩, ⟨(some 70), none, (.pur ⟨(some 70), (.pick (.tmp 68) (.tmp 69) (.const (.bool false))), 4, "", (List.toArray []), none⟩)⟩, ⟨(some 4), none, (.mov (.tmp 70))⟩])
  .ret))))))
theorem L9 : low Try.prog Try.f9.ntmps (at_ Try.f9 []) = some R9 := by kernel_rfl
end Go.Ax

/-
  Plant: Evaporate, and the law PlantStrong, whatever the input (written by program).
-/
namespace Go.Ax
open Go Go.RowKit Go.Proofs

/-- Evaporate: the water, and the error -/
def evE (s : Nat → Int) (k : Int) : Int × Int :=
  if wiQ s 1099511627776 = true ∧ s 1 ≤ s 0 then (if 1 ≤ k ∧ k ≤ 10000 then (if s 1 = 0 then (0, 4) else (max 0 (s 0 - s 1 * 10000 / k), 0)) else (0, 2)) else (0, 1)
/-- what Evaporate says -/
theorem evE_cases (s : Nat → Int) (k : Int) : evE s k = (0, 1) ∨ evE s k = (0, 2) ∨ (evE s k = (0, 4) ∧ s 1 = 0) ∨
    ∃ n, evE s k = (n, 0) ∧ 0 ≤ n ∧ s 1 ≤ s 0 - n ∧ 1 ≤ s 1 ∧ s 1 ≤ 1099511627776 ∧ s 0 ≤ 1099511627776 ∧ k * (s 0 - n) ≤ s 1 * 10000 ∧ (n = 0 ∨ s 1 * 10000 < k * (s 0 - n + 1)) ∧ InR (k * (s 0 - n)) ∧ InR (k * (s 0 - n + 1)) := by
  unfold evE
  by_cases h1 : wiQ s 1099511627776 = true ∧ s 1 ≤ s 0
  · rw [if_pos h1]
    by_cases h2 : 1 ≤ k ∧ k ≤ 10000
    · rw [if_pos h2]
      by_cases h3 : s 1 = 0
      · rw [if_pos h3]; exact .inr (.inr (.inl ⟨rfl, h3⟩))
      · rw [if_neg h3]
        have a0 := wiQ_t h1.1 0 (by decide)
        have a1 := wiQ_t h1.1 1 (by decide)
        obtain ⟨w, hw⟩ : ∃ w, w = s 1 * 10000 / k := ⟨_, rfl⟩
        rw [← hw]
        have q1 : k * w ≤ s 1 * 10000 := by
          rw [hw]; exact Int.mul_ediv_self_le (by omega)
        have q2 : s 1 * 10000 < k * w + k := by
          rw [hw]; exact Int.lt_mul_ediv_self_add (by omega)
        have q3 : s 1 ≤ w := by
          rw [hw]
          refine Int.le_ediv_of_mul_le (by omega) ?_
          exact Int.mul_le_mul_of_nonneg_left h2.2 (by omega)
        refine .inr (.inr (.inr ⟨max 0 (s 0 - w), rfl, by omega, by omega, by omega, by omega, by omega, ?_, ?_, ?_, ?_⟩))
        · exact Int.le_trans (Int.mul_le_mul_of_nonneg_left (show s 0 - max 0 (s 0 - w) ≤ w by omega) (by omega)) q1
        · by_cases h4 : s 0 ≤ w
          · left; omega
          · right
            rw [show s 0 - max 0 (s 0 - w) = w by omega, Int.mul_add]; omega
        · have : k * (s 0 - max 0 (s 0 - w)) ≤ k * s 0 := Int.mul_le_mul_of_nonneg_left (by omega) (by omega)
          have : k * s 0 ≤ 10000 * s 0 := Int.mul_le_mul_of_nonneg_right h2.2 a0.1
          have : 0 ≤ k * (s 0 - max 0 (s 0 - w)) := Int.mul_nonneg (by omega) (by omega)
          exact ⟨by omega, by omega⟩
        · have : k * (s 0 - max 0 (s 0 - w) + 1) ≤ k * (s 0 + 1) := Int.mul_le_mul_of_nonneg_left (by omega) (by omega)
          have : k * (s 0 + 1) ≤ 10000 * (s 0 + 1) := Int.mul_le_mul_of_nonneg_right h2.2 (by omega)
          have : 0 ≤ k * (s 0 - max 0 (s 0 - w) + 1) := Int.mul_nonneg (by omega) (by omega)
          exact ⟨by omega, by omega⟩
    · rw [if_neg h2]; exact .inr (.inl rfl)
  · rw [if_neg h1]; exact .inl rfl
section
variable {kn : FuncId → Option Bool} {lo : Nat} {H : Hp}
theorem vstream_ok {s : Nat → Int} (hlo : lo ≤ H.next) : ∃ H', FnX Try.prog kn lo 43 [.agg (qc s).toArray] H (.bool (wiQ s 1099511627776)) H' ∧ Keep H H' [] := by
  have key := fnX_low (kn := kn) (lo := lo) (H := H) (args := [.agg (qc s).toArray]) (Q := fun w H' => w = .bool (wiQ s 1099511627776) ∧ Keep H H' []) Try.func43 B43 N43 Z43 L43 (by simp) ?_
  · obtain ⟨w, H', h, rfl, q⟩ := key; exact ⟨H', h, q⟩
  have hk := Keep.refl H []
  refine wN_seq ?_
  refine wN_box (v := .agg (qc s).toArray) rfl ?_
  intro H1 kH1 nH1 c1
  have c1 : Cl H1 H.next [iv (s 0), iv (s 1), iv (s 2), iv (s 3)] := c1
  have mH1 := kH1.1
  have hk := hk.trans kH1
  refine wN_mov (v := .bool false) rfl ?_
  refine wN_end ?_
  refine wN_seq ?_
  refine wN_lda (b := H.next) (o := 0) rfl c1.rd (show row 4 _ _ = some [iv (s 0), iv (s 1), iv (s 2), iv (s 3)] from rfl) ?_
  obtain ⟨H2, fH2, kH2⟩ := grams_ok (kn := kn) (lo := lo) (H := H1) (s := s) (by omega)
  refine wN_callf (vs := [.agg (qc s).toArray]) rfl (callX_args fH2) ?_
  have mH2 := kH2.1
  have hk := hk.trans kH2
  have c1 := kH2.cl c1 (by simp)
  refine wN_callB rfl (within_ok (p := s) (m := 1099511627776)) ?_
  intro tH3 H3 hH3 kH3
  have mH3 := kH3.1
  have hk := hk.trans kH3
  have c1 := kH3.cl c1 (by simp)
  cases tH3
  · have hw : wiQ s 1099511627776 = false := hH3
    refine wN_mov (v := .bool false) rfl ?_
    refine wN_end ?_
    exact And.intro trivial (Exists.intro _ (And.intro rfl ⟨congrArg Value.bool (show false = (wiQ s 1099511627776) from hw.symm), hk⟩))
  · have hw : wiQ s 1099511627776 = true := hH3
    refine wN_mov (v := .bool true) rfl ?_
    refine wN_end ?_
    exact And.intro trivial (Exists.intro _ (And.intro rfl ⟨congrArg Value.bool (show true = (wiQ s 1099511627776) from hw.symm), hk⟩))
theorem most_ok {a k : Int} (h1 : 0 ≤ a) (h2 : a ≤ 1099511627776) (h3 : 1 ≤ k) (h4 : k ≤ 10000) : ∃ H', FnX Try.prog kn lo 49 [iv a, iv k] H (iv (a * 10000 / k)) H' ∧ Keep H H' [] := by
  have key := fnX_low (kn := kn) (lo := lo) (H := H) (args := [iv a, iv k]) (Q := fun w H' => w = iv (a * 10000 / k) ∧ Keep H H' []) Try.func49 B49 N49 Z49 L49 (by simp) ?_
  · obtain ⟨w, H', h, rfl, q⟩ := key; exact ⟨H', h, q⟩
  have hk := Keep.refl H []
  refine wN_seq ?_
  refine wN_mov (v := iv 0) rfl ?_
  refine wN_end ?_
  refine wN_seq ?_
  refine wN_mov (v := iv a) rfl ?_
  refine wN_mul (a := a) (b := 10000) rfl rfl ⟨by omega, by omega⟩ ?_
  refine wN_mov (v := iv k) rfl ?_
  refine wN_quo (a := a * 10000) (b := k) rfl rfl (by omega) (by omega) ⟨by omega, by omega⟩ ?_
  refine wN_mov (v := iv ((a * 10000) / k)) rfl ?_
  refine wN_end ?_
  exact And.intro trivial (Exists.intro _ (And.intro rfl ⟨rfl, hk⟩))
theorem evap_ok {s : Nat → Int} {k : Int} (hlo : lo ≤ H.next) : ∃ H', FnX Try.prog kn lo 19 [.agg (qc s).toArray, iv k] H (.tuple #[iv (evE s k).1, iv (evE s k).2]) H' ∧ Keep H H' [] := by
  have key := fnX_low (kn := kn) (lo := lo) (H := H) (args := [.agg (qc s).toArray, iv k]) (Q := fun w H' => w = .tuple #[iv (evE s k).1, iv (evE s k).2] ∧ Keep H H' []) Try.func19 B19 N19 Z19 L19 (by simp) ?_
  · obtain ⟨w, H', h, rfl, q⟩ := key; exact ⟨H', h, q⟩
  have hk := Keep.refl H []
  refine wN_seq ?_
  refine wN_box (v := .agg (qc s).toArray) rfl ?_
  intro H1 kH1 nH1 c1
  have c1 : Cl H1 H.next [iv (s 0), iv (s 1), iv (s 2), iv (s 3)] := c1
  have mH1 := kH1.1
  have hk := hk.trans kH1
  refine wN_mov (v := iv 0) rfl ?_
  refine wN_mov (v := iv 0) rfl ?_
  refine wN_end ?_
  refine wN_seq ?_
  refine wN_lda (b := H.next) (o := 0) rfl c1.rd (show row 4 _ _ = some [iv (s 0), iv (s 1), iv (s 2), iv (s 3)] from rfl) ?_
  refine wN_callB rfl (vstream_ok (s := s) (by omega)) ?_
  intro tH2 H2 hH2 kH2
  have mH2 := kH2.1
  have hk := hk.trans kH2
  have c1 := kH2.cl c1 (by simp)
  cases tH2
  · have hw : wiQ s 1099511627776 = false := hH2
    refine wN_pur (v := .bool true) rfl rfl ?_
    refine wN_mov (v := .bool true) rfl ?_
    refine wN_gs rfl ?_
    refine wN_gs rfl ?_
    refine wN_gs rfl ?_
    refine wN_gs rfl ?_
    refine wN_gs rfl ?_
    refine wN_pur (v := .bool true) rfl rfl ?_
    refine wN_end ?_
    refine condT ?_
    refine wN_seq ?_
    refine wN_mov (v := iv 0) rfl ?_
    refine wN_mov (v := iv 1) rfl ?_
    refine wN_end ?_
    exact And.intro trivial (Exists.intro _ (And.intro rfl ⟨by unfold evE; rw [if_neg (by rintro ⟨q1, q2⟩; first | omega | (rw [hw] at q1; cases q1))]; rfl, hk⟩))
  · have hw : wiQ s 1099511627776 = true := hH2; have a0 := wiQ_t hw 0 (by decide); have a1 := wiQ_t hw 1 (by decide)
    refine wN_pur (v := .bool false) rfl rfl ?_
    refine wN_mov (v := .bool false) rfl ?_
    refine wN_g rfl (wN_addo (b := H.next) (o := 0) rfl ?_)
    refine wN_g rfl (wN_ld (b := H.next) (o := 1) (v := iv (s 1)) rfl c1.rd rfl ?_)
    refine wN_g rfl (wN_addo (b := H.next) (o := 0) rfl ?_)
    refine wN_g rfl (wN_ld (b := H.next) (o := 0) (v := iv (s 0)) rfl c1.rd rfl ?_)
    refine wN_g rfl (wN_b_gtr (a := (s 1)) (b := (s 0)) rfl rfl ?_)
    intro t1 g1; cases t1
    · have g1 : ¬ ((s 1) > (s 0)) := of_decide_eq_false g1
      refine wN_pur (v := .bool false) rfl rfl ?_
      refine wN_end ?_
      refine condF ?_
      first | refine wN_skip ?_ | skip
      refine wN_seq ?_
      refine wN_mov (v := iv k) rfl ?_
      refine wN_b_lss (a := k) (b := 1) rfl rfl ?_
      intro t2 g2; cases t2
      · have g2 : ¬ (k < 1) := of_decide_eq_false g2
        refine wN_mov (v := .bool false) rfl ?_
        refine wN_g rfl (wN_mov (v := iv k) rfl ?_)
        refine wN_g rfl (wN_b_gtr (a := k) (b := 10000) rfl rfl ?_)
        intro t3 g3; cases t3
        · have g3 : ¬ (k > 10000) := of_decide_eq_false g3
          refine wN_pur (v := .bool false) rfl rfl ?_
          refine wN_end ?_
          refine condF ?_
          first | refine wN_skip ?_ | skip
          refine wN_seq ?_
          refine wN_addo (b := H.next) (o := 0) rfl ?_
          refine wN_ld (b := H.next) (o := 1) (v := iv (s 1)) rfl c1.rd rfl ?_
          refine wN_c_eql (a := (s 1)) (b := 0) rfl rfl ?_
          refine wN_end ?_
          refine And.intro (fun q4 => ?_) (fun q4 => ?_)
          · have q4 : (s 1) = 0 := by simpa using q4
            refine wN_seq ?_
            refine wN_mov (v := iv 0) rfl ?_
            refine wN_mov (v := iv 4) rfl ?_
            refine wN_end ?_
            exact And.intro trivial (Exists.intro _ (And.intro rfl ⟨by unfold evE; rw [if_pos ⟨hw, by omega⟩, if_pos (by omega), if_pos (by omega)]; rfl, hk⟩))
          · have q4 : ¬ ((s 1) = 0) := by simpa using q4
            first | refine wN_skip ?_ | skip
            refine wD_seq ?_
            refine wD_addo (b := H.next) (o := 0) rfl ?_
            refine wD_ld (b := H.next) (o := 0) (v := iv (s 0)) rfl c1.rd rfl ?_
            refine wD_addo (b := H.next) (o := 0) rfl ?_
            refine wD_ld (b := H.next) (o := 1) (v := iv (s 1)) rfl c1.rd rfl ?_
            refine wD_mov (v := iv k) rfl ?_
            have hq0 := Int.ediv_nonneg (a := s 1 * 10000) (b := k) (by omega) (by omega); have hq1 := Int.ediv_le_self (a := s 1 * 10000) k (by omega)
            obtain ⟨H3, fH3, kH3⟩ := most_ok (kn := kn) (lo := H2.next) (H := H2) (a := s 1) (k := k) (by omega) (by omega) (by omega) (by omega)
            refine wD_callh (vs := [iv (s 1), iv k]) rfl rfl (callX_args fH3) ?_
            have mH3 := kH3.1
            have hk := hk.trans kH3
            have c1 := kH3.cl c1 (by simp)
            refine wD_sub (a := (s 0)) (b := (s 1 * 10000 / k)) rfl rfl ⟨by omega, by omega⟩ ?_
            refine wD_mm (a := 0) (b := (s 0) - (s 1 * 10000 / k)) rfl rfl ?_
            refine wD_mov (v := iv (max 0 ((s 0) - (s 1 * 10000 / k)))) rfl ?_
            refine wD_mov (v := iv 0) rfl ?_
            refine wD_end (by repeat' first | exact True.intro | exact (fun h => h) | refine And.intro ?_ ?_ | (intro h; have h : (_ : Nat) = _ := h; omega)) ?_
            exact And.intro trivial (Exists.intro _ (And.intro rfl ⟨by unfold evE; rw [if_pos ⟨hw, by omega⟩, if_pos (by omega), if_neg (by omega)]; rfl, hk⟩))
        · have g3 : k > 10000 := of_decide_eq_true g3
          refine wN_pur (v := .bool true) rfl rfl ?_
          refine wN_end ?_
          refine condT ?_
          refine wN_seq ?_
          refine wN_mov (v := iv 0) rfl ?_
          refine wN_mov (v := iv 2) rfl ?_
          refine wN_end ?_
          exact And.intro trivial (Exists.intro _ (And.intro rfl ⟨by unfold evE; rw [if_pos ⟨hw, by omega⟩, if_neg (by omega)]; rfl, hk⟩))
      · have g2 : k < 1 := of_decide_eq_true g2
        refine wN_mov (v := .bool true) rfl ?_
        refine wN_gs rfl ?_
        refine wN_gs rfl ?_
        refine wN_pur (v := .bool true) rfl rfl ?_
        refine wN_end ?_
        refine condT ?_
        refine wN_seq ?_
        refine wN_mov (v := iv 0) rfl ?_
        refine wN_mov (v := iv 2) rfl ?_
        refine wN_end ?_
        exact And.intro trivial (Exists.intro _ (And.intro rfl ⟨by unfold evE; rw [if_pos ⟨hw, by omega⟩, if_neg (by omega)]; rfl, hk⟩))
    · have g1 : (s 1) > (s 0) := of_decide_eq_true g1
      refine wN_pur (v := .bool true) rfl rfl ?_
      refine wN_end ?_
      refine condT ?_
      refine wN_seq ?_
      refine wN_mov (v := iv 0) rfl ?_
      refine wN_mov (v := iv 1) rfl ?_
      refine wN_end ?_
      exact And.intro trivial (Exists.intro _ (And.intro rfl ⟨by unfold evE; rw [if_neg (by rintro ⟨q1, q2⟩; first | omega | (rw [hw] at q1; cases q1))]; rfl, hk⟩))
set_option maxRecDepth 100000 in
set_option maxHeartbeats 4000000 in
/-- PlantStrong -/
theorem law_strong (hkn : kn 16 = some true) {s : Nat → Int} {k : Int} (hro : RoLow lo H) (hlo : lo ≤ H.next) : ∃ H', FnX Try.prog kn lo 9 [.agg (qc s).toArray, iv k] H (.bool true) H' := by
  have key := fnX_low (kn := kn) (lo := lo) (H := H) (args := [.agg (qc s).toArray, iv k]) (Q := fun w H' => w = .bool true) Try.func9 B9 N9 Z9 L9 (by simp) ?_
  · obtain ⟨w, H', h, rfl⟩ := key; exact ⟨H', h⟩
  have hk := Keep.refl H []
  refine wN_seq ?_
  refine wN_box (v := .agg (qc s).toArray) rfl ?_
  intro H1 kH1 nH1 c1
  have c1 : Cl H1 H.next [iv (s 0), iv (s 1), iv (s 2), iv (s 3)] := c1
  have mH1 := kH1.1
  have hk := hk.trans kH1
  refine wN_mov (v := .bool false) rfl ?_
  refine wN_end ?_
  refine wN_seq ?_
  refine wN_lda (b := H.next) (o := 0) rfl c1.rd (show row 4 _ _ = some [iv (s 0), iv (s 1), iv (s 2), iv (s 3)] from rfl) ?_
  refine wN_mov (v := iv k) rfl ?_
  obtain ⟨H2, fH2, kH2⟩ := evap_ok (kn := kn) (lo := lo) (H := H1) (s := s) (k := k) (by omega)
  have mH2 := kH2.1
  have hk := hk.trans kH2
  have c1 := kH2.cl c1 (by simp)
  rcases evE_cases s k with he | he | ⟨he, hz⟩ | ⟨n, he, n0, n1, n2, n3, n4, n5, n6, n7, n8⟩
  · rw [he] at fH2
    refine wN_callf (vs := [.agg (qc s).toArray, iv k]) rfl (callX_args fH2) ?_
    refine wN_mov (v := .tuple #[iv 0, iv 1]) rfl ?_
    refine wN_pur (v := iv 0) rfl (by kernel_rfl) ?_
    refine wN_pur (v := iv 1) rfl (by kernel_rfl) ?_
    refine wN_mov (v := iv 0) rfl ?_
    refine wN_mov (v := iv 1) rfl ?_
    refine wN_end ?_
    refine wN_seq ?_
    refine wN_mov (v := iv 1) rfl ?_
    refine wN_c_neq (a := 1) (b := 0) rfl rfl ?_
    refine wN_end ?_
    refine condT ?_
    refine wN_seq ?_
    refine wN_mov (v := iv 0) rfl ?_
    refine wN_b_eql (a := 0) (b := 0) rfl rfl ?_
    intro t1 g1; obtain rfl : t1 = true := by rw [← g1]; rfl
    refine wN_mov (v := .bool true) rfl ?_
    refine wN_g rfl (wN_mov (v := iv 1) rfl ?_)
    refine wN_g rfl (wN_b_neq (a := 1) (b := 4) rfl rfl ?_)
    intro t2 g2; obtain rfl : t2 = true := by rw [← g2]; rfl
    refine wN_g rfl (wN_mov (v := .bool true) rfl ?_)
    refine wN_gs rfl ?_
    refine wN_gs rfl ?_
    refine wN_gs rfl ?_
    refine wN_g rfl (wN_pur (v := .bool true) rfl rfl ?_)
    refine wN_pur (v := .bool true) rfl rfl ?_
    refine wN_mov (v := .bool true) rfl ?_
    refine wN_g rfl (wN_callf (vs := []) rfl (callX_known hkn) ?_)
    refine wN_pur (v := .bool true) rfl rfl ?_
    refine wN_mov (v := .bool true) rfl ?_
    refine wN_end ?_
    exact And.intro trivial (Exists.intro _ (And.intro rfl rfl))
  · rw [he] at fH2
    refine wN_callf (vs := [.agg (qc s).toArray, iv k]) rfl (callX_args fH2) ?_
    refine wN_mov (v := .tuple #[iv 0, iv 2]) rfl ?_
    refine wN_pur (v := iv 0) rfl (by kernel_rfl) ?_
    refine wN_pur (v := iv 2) rfl (by kernel_rfl) ?_
    refine wN_mov (v := iv 0) rfl ?_
    refine wN_mov (v := iv 2) rfl ?_
    refine wN_end ?_
    refine wN_seq ?_
    refine wN_mov (v := iv 2) rfl ?_
    refine wN_c_neq (a := 2) (b := 0) rfl rfl ?_
    refine wN_end ?_
    refine condT ?_
    refine wN_seq ?_
    refine wN_mov (v := iv 0) rfl ?_
    refine wN_b_eql (a := 0) (b := 0) rfl rfl ?_
    intro t3 g3; obtain rfl : t3 = true := by rw [← g3]; rfl
    refine wN_mov (v := .bool true) rfl ?_
    refine wN_g rfl (wN_mov (v := iv 2) rfl ?_)
    refine wN_g rfl (wN_b_neq (a := 2) (b := 4) rfl rfl ?_)
    intro t4 g4; obtain rfl : t4 = true := by rw [← g4]; rfl
    refine wN_g rfl (wN_mov (v := .bool true) rfl ?_)
    refine wN_gs rfl ?_
    refine wN_gs rfl ?_
    refine wN_gs rfl ?_
    refine wN_g rfl (wN_pur (v := .bool true) rfl rfl ?_)
    refine wN_pur (v := .bool true) rfl rfl ?_
    refine wN_mov (v := .bool true) rfl ?_
    refine wN_g rfl (wN_callf (vs := []) rfl (callX_known hkn) ?_)
    refine wN_pur (v := .bool true) rfl rfl ?_
    refine wN_mov (v := .bool true) rfl ?_
    refine wN_end ?_
    exact And.intro trivial (Exists.intro _ (And.intro rfl rfl))
  · rw [he] at fH2
    refine wN_callf (vs := [.agg (qc s).toArray, iv k]) rfl (callX_args fH2) ?_
    refine wN_mov (v := .tuple #[iv 0, iv 4]) rfl ?_
    refine wN_pur (v := iv 0) rfl (by kernel_rfl) ?_
    refine wN_pur (v := iv 4) rfl (by kernel_rfl) ?_
    refine wN_mov (v := iv 0) rfl ?_
    refine wN_mov (v := iv 4) rfl ?_
    refine wN_end ?_
    refine wN_seq ?_
    refine wN_mov (v := iv 4) rfl ?_
    refine wN_c_neq (a := 4) (b := 0) rfl rfl ?_
    refine wN_end ?_
    refine condT ?_
    refine wN_seq ?_
    refine wN_mov (v := iv 0) rfl ?_
    refine wN_b_eql (a := 0) (b := 0) rfl rfl ?_
    intro t5 g5; obtain rfl : t5 = true := by rw [← g5]; rfl
    refine wN_mov (v := .bool true) rfl ?_
    refine wN_g rfl (wN_mov (v := iv 4) rfl ?_)
    refine wN_g rfl (wN_b_neq (a := 4) (b := 4) rfl rfl ?_)
    intro t6 g6; obtain rfl : t6 = false := by rw [← g6]; rfl
    refine wN_g rfl (wN_mov (v := .bool false) rfl ?_)
    refine wN_g rfl (wN_addo (b := H.next) (o := 0) rfl ?_)
    refine wN_g rfl (wN_ld (b := H.next) (o := 1) (v := iv (s 1)) rfl c1.rd rfl ?_)
    refine wN_g rfl (wN_b_eql (a := (s 1)) (b := 0) rfl rfl ?_)
    intro t7 g7; cases t7
    · have g7 : ¬ ((s 1) = 0) := by simpa using g7
      exfalso; omega
    · have g7 : (s 1) = 0 := by simpa using g7
      refine wN_g rfl (wN_pur (v := .bool true) rfl rfl ?_)
      refine wN_pur (v := .bool true) rfl rfl ?_
      refine wN_mov (v := .bool true) rfl ?_
      refine wN_g rfl (wN_callf (vs := []) rfl (callX_known hkn) ?_)
      refine wN_pur (v := .bool true) rfl rfl ?_
      refine wN_mov (v := .bool true) rfl ?_
      refine wN_end ?_
      exact And.intro trivial (Exists.intro _ (And.intro rfl rfl))
  · rw [he] at fH2
    refine wN_callf (vs := [.agg (qc s).toArray, iv k]) rfl (callX_args fH2) ?_
    refine wN_mov (v := .tuple #[iv n, iv 0]) rfl ?_
    refine wN_pur (v := iv n) rfl (by kernel_rfl) ?_
    refine wN_pur (v := iv 0) rfl (by kernel_rfl) ?_
    refine wN_mov (v := iv n) rfl ?_
    refine wN_mov (v := iv 0) rfl ?_
    refine wN_end ?_
    refine wN_seq ?_
    refine wN_mov (v := iv 0) rfl ?_
    refine wN_c_neq (a := 0) (b := 0) rfl rfl ?_
    refine wN_end ?_
    refine condF ?_
    first | refine wN_skip ?_ | skip
    refine wN_seq ?_
    refine wN_addo (b := H.next) (o := 0) rfl ?_
    refine wN_ld (b := H.next) (o := 0) (v := iv (s 0)) rfl c1.rd rfl ?_
    refine wN_mov (v := iv n) rfl ?_
    refine wN_sub (a := (s 0)) (b := n) rfl rfl ⟨by omega, by omega⟩ ?_
    refine wN_mov (v := iv ((s 0) - n)) rfl ?_
    refine wN_end ?_
    refine wN_seq ?_
    refine wN_mov (v := iv n) rfl ?_
    refine wN_b_lss (a := n) (b := 0) rfl rfl ?_
    intro t8 g8; cases t8
    · have g8 : ¬ (n < 0) := of_decide_eq_false g8
      refine wN_mov (v := .bool false) rfl ?_
      refine wN_g rfl (wN_mov (v := iv ((s 0) - n)) rfl ?_)
      refine wN_g rfl (wN_addo (b := H.next) (o := 0) rfl ?_)
      refine wN_g rfl (wN_ld (b := H.next) (o := 1) (v := iv (s 1)) rfl c1.rd rfl ?_)
      refine wN_g rfl (wN_b_lss (a := (s 0) - n) (b := (s 1)) rfl rfl ?_)
      intro t9 g9; cases t9
      · have g9 : ¬ (((s 0) - n) < (s 1)) := of_decide_eq_false g9
        refine wN_pur (v := .bool false) rfl rfl ?_
        refine wN_mov (v := .bool false) rfl ?_
        refine wN_g rfl (wN_addo (b := H.next) (o := 0) rfl ?_)
        refine wN_g rfl (wN_ld (b := H.next) (o := 1) (v := iv (s 1)) rfl c1.rd rfl ?_)
        refine wN_g rfl (wN_b_lss (a := (s 1)) (b := 1) rfl rfl ?_)
        intro t10 g10; cases t10
        · have g10 : ¬ ((s 1) < 1) := of_decide_eq_false g10
          refine wN_pur (v := .bool false) rfl rfl ?_
          refine wN_mov (v := .bool false) rfl ?_
          refine wN_g rfl (wN_addo (b := H.next) (o := 0) rfl ?_)
          refine wN_g rfl (wN_ld (b := H.next) (o := 1) (v := iv (s 1)) rfl c1.rd rfl ?_)
          refine wN_g rfl (wN_mul (a := (s 1)) (b := 10000) rfl rfl ⟨by omega, by omega⟩ ?_)
          refine wN_g rfl (wN_mov (v := iv k) rfl ?_)
          refine wN_g rfl (wN_mov (v := iv ((s 0) - n)) rfl ?_)
          refine wN_g rfl (wN_mul (a := k) (b := (s 0) - n) rfl rfl n7 ?_)
          refine wN_g rfl (wN_b_lss (a := (s 1) * 10000) (b := k * ((s 0) - n)) rfl rfl ?_)
          intro t11 g11; cases t11
          · have g11 : ¬ (((s 1) * 10000) < (k * ((s 0) - n))) := of_decide_eq_false g11
            refine wN_pur (v := .bool false) rfl rfl ?_
            refine wN_end ?_
            refine condF ?_
            first | refine wN_skip ?_ | skip
            refine wN_seq ?_
            refine wN_mov (v := iv n) rfl ?_
            refine wN_b_eql (a := n) (b := 0) rfl rfl ?_
            intro t12 g12; cases t12
            · have g12 : ¬ (n = 0) := by simpa using g12
              refine wN_mov (v := .bool false) rfl ?_
              refine wN_g rfl (wN_addo (b := H.next) (o := 0) rfl ?_)
              refine wN_g rfl (wN_ld (b := H.next) (o := 1) (v := iv (s 1)) rfl c1.rd rfl ?_)
              refine wN_g rfl (wN_mul (a := (s 1)) (b := 10000) rfl rfl ⟨by omega, by omega⟩ ?_)
              refine wN_g rfl (wN_mov (v := iv k) rfl ?_)
              refine wN_g rfl (wN_mov (v := iv ((s 0) - n)) rfl ?_)
              refine wN_g rfl (wN_add (a := (s 0) - n) (b := 1) rfl rfl ⟨by omega, by omega⟩ ?_)
              refine wN_g rfl (wN_mul (a := k) (b := ((s 0) - n) + 1) rfl rfl n8 ?_)
              refine wN_g rfl (wN_b_lss (a := (s 1) * 10000) (b := k * (((s 0) - n) + 1)) rfl rfl ?_)
              intro t13 g13; cases t13
              · have g13 : ¬ (((s 1) * 10000) < (k * (((s 0) - n) + 1))) := of_decide_eq_false g13
                exfalso; omega
              · have g13 : ((s 1) * 10000) < (k * (((s 0) - n) + 1)) := of_decide_eq_true g13
                refine wN_pur (v := .bool true) rfl rfl ?_
                refine wN_mov (v := .bool true) rfl ?_
                refine wN_g rfl (wN_callf (vs := []) rfl (callX_known hkn) ?_)
                refine wN_pur (v := .bool true) rfl rfl ?_
                refine wN_mov (v := .bool true) rfl ?_
                refine wN_end ?_
                exact And.intro trivial (Exists.intro _ (And.intro rfl rfl))
            · have g12 : n = 0 := by simpa using g12
              refine wN_mov (v := .bool true) rfl ?_
              refine wN_gs rfl ?_
              refine wN_gs rfl ?_
              refine wN_gs rfl ?_
              refine wN_gs rfl ?_
              refine wN_gs rfl ?_
              refine wN_gs rfl ?_
              refine wN_gs rfl ?_
              refine wN_gs rfl ?_
              refine wN_pur (v := .bool true) rfl rfl ?_
              refine wN_mov (v := .bool true) rfl ?_
              refine wN_g rfl (wN_callf (vs := []) rfl (callX_known hkn) ?_)
              refine wN_pur (v := .bool true) rfl rfl ?_
              refine wN_mov (v := .bool true) rfl ?_
              refine wN_end ?_
              exact And.intro trivial (Exists.intro _ (And.intro rfl rfl))
          · have g11 : ((s 1) * 10000) < (k * ((s 0) - n)) := of_decide_eq_true g11
            exfalso; omega
        · have g10 : (s 1) < 1 := of_decide_eq_true g10
          exfalso; omega
      · have g9 : ((s 0) - n) < (s 1) := of_decide_eq_true g9
        exfalso; omega
    · have g8 : n < 0 := of_decide_eq_true g8
      exfalso; omega
end
end Go.Ax

namespace Go.Ax
open Go Go.RowKit Go.Proofs Go.ChangeShapes Go.WideShapes Go.Deep

/-- A type whose cells are whole numbers. -/
def IntT (P : Program) (t : TypeId) : Prop := ∀ (H : Type) (enc : TypeId × Value → H) (w : World) (base : Nat) (spare : Nat → Bool) (held : Bool) (fuel : Nat) (cs : List Value) (x : DataW H × List MemPlace),
  DataW.trod enc P w base spare held fuel t cs = some x → cs.length = P.cellsOf t ∧ ∀ j, j < cs.length → ∃ n, cs[j]? = some (.int .i64 n)
theorem IntT.int {P : Program} {t : TypeId} (ht : P.underlying t = some (.int .i64)) (hc : P.cellsOf t = 1) : IntT P t := by
  intro H enc w base spare held fuel cs x h
  obtain ⟨n, rfl, _⟩ := DataW.trod_int ht h
  refine ⟨by rw [hc]; rfl, fun j hj => ⟨n, ?_⟩⟩
  have : j = 0 := by simp at hj; omega
  subst this; rfl
theorem IntT.struct {P : Program} {t : TypeId} {fs : Array Field} (ht : P.underlying t = some (.struct fs)) (hf : ∀ f ∈ fs.toList, IntT P f.type)
    (hcov : ((List.range (P.cellsOf t)).all fun j => fs.toList.any fun f => decide (f.offset ≤ j) && decide (j < f.offset + P.cellsOf f.type)) = true) : IntT P t := by
  intro H enc w base spare held fuel cs x h
  obtain ⟨xs, n, _, _, hlen, hxl, hg⟩ := DataW.trod_struct ht h
  refine ⟨hlen, fun j hj => ?_⟩
  have h1 := List.all_eq_true.1 hcov j (List.mem_range.2 (by omega))
  obtain ⟨f, hfm, h2⟩ := List.any_eq_true.1 h1
  simp only [Bool.and_eq_true, decide_eq_true_eq] at h2
  obtain ⟨i, hi, hfi⟩ := List.getElem_of_mem hfm
  have hfs : fs[i]? = some f := by
    rw [← Array.getElem?_toList, List.getElem?_eq_getElem hi, hfi]
  have hi2 : i < xs.length := by simpa [hxl] using hi
  have h3 := hg i f hfs
  rw [List.getElem?_eq_getElem hi2] at h3
  obtain ⟨h4, h5⟩ := hf f hfm _ _ _ _ _ _ _ _ _ h3
  obtain ⟨m, hm⟩ := h5 (j - f.offset) (by omega)
  refine ⟨m, ?_⟩
  rw [List.getElem?_take] at hm
  split at hm
  · rw [List.getElem?_drop, show f.offset + (j - f.offset) = j by omega] at hm; exact hm
  · cases hm

/-- A slice of rows of whole numbers, as it is given. -/
structure Given {α : Type} (w : World) (v : Value) (f : α → List Value) (l : List α) (x : Imp) : Prop where
  ok : ∀ (i : Nat) u, x.cs[i]? = some u → w.cell? ⟨x.blk, x.off + i, none⟩ = some u ∧ flat1 u = true
  cs : x.cs = l.flatMap f
  v : (v = .slice none 0 0 ∧ l = []) ∨ ∃ cap, v = .slice (some ⟨x.blk, x.off, none⟩) l.length cap ∧ l.length ≤ cap
theorem Given.rel {α : Type} {w : World} {v : Value} {f : α → List Value} {l : List α} {x : Imp} (g : Given w v f l x) {r : Ren} {H : Hp} {b : Nat} (hr : r b = some ⟨x.blk, x.off, none⟩) (hb : b < H.next) (hc : cellsOf H b = some x.cs) (hro : H.t.get b = some (.ro x.cs)) :
    ∃ a cap, VR r (.slice a l.length cap) v ∧ Sl H a l.length cap (l.flatMap f) ∧ ∀ b, a = some ⟨b, 0, none⟩ → H.t.get b = some (.ro (l.flatMap f)) := by
  rcases g.v with ⟨rfl, rfl⟩ | ⟨cap, rfl, hl⟩
  · exact ⟨none, 0, .nilSlice, .inl ⟨.inl rfl, rfl, rfl, rfl⟩, fun b e => by cases e⟩
  · refine ⟨some ⟨b, 0, none⟩, cap, ?_, .inr ⟨b, rfl, ⟨hb, by rw [hc, g.cs]⟩, hl⟩, fun b' e => by cases e; rw [hro, g.cs]⟩
    have := VR.slice (o := 0) (n := l.length) (c := cap) hr rfl hl
    simpa using this
end Go.Ax

/-! Slices of rows of plain cells, as arguments. -/
namespace Go.Ax
open Go Go.RowKit Go.Proofs Go.ChangeShapes Go.WideShapes Go.Deep

theorem IntT.row {α : Type} {P : Program} {t : TypeId} {k : Nat} {f : α → List Value} {mk : (Nat → Int) → α} (h : IntT P t) (hc : P.cellsOf t = k) (hmk : ∀ N : Nat → Int, f (mk N) = (List.range k).map fun j => Value.int .i64 (N j))
    {H : Type} {enc : TypeId × Value → H} {w : World} {base : Nat} {spare : Nat → Bool} {held : Bool} (fuel : Nat) (cs : List Value) (x : DataW H × List MemPlace) (hx : DataW.trod enc P w base spare held fuel t cs = some x) : ∃ y : α, cs = f y ∧ True := by
  obtain ⟨h1, h2⟩ := h _ _ _ _ _ _ _ _ _ hx
  have : ∃ N : Nat → Int, ∀ j, j < cs.length → cs[j]? = some (.int .i64 (N j)) := by
    refine ⟨fun j => match cs[j]? with | some (.int _ n) => n | _ => 0, fun j hj => ?_⟩
    obtain ⟨n, hn⟩ := h2 j hj
    simp [hn]
  obtain ⟨N, hN⟩ := this
  refine ⟨mk N, ?_, trivial⟩
  rw [hmk]
  apply List.ext_getElem?
  intro j
  by_cases hj : j < k
  · rw [hN j (by omega), List.getElem?_map, List.getElem?_range hj]; rfl
  · rw [List.getElem?_eq_none (by omega), List.getElem?_eq_none (by simp; omega)]
end Go.Ax

/-! Arguments that point to what points: inner slices, rows of slices. -/
namespace Go.Ax
open Go Go.RowKit Go.Proofs Go.ChangeShapes Go.WideShapes Go.Deep

def renOf (imps : List Imp) : Ren := fun b => (imps[b]?).map fun x => ⟨x.blk, x.off, none⟩
theorem imports3 {P : Program} (imps outs : List Imp) (w : World) (h : ∀ x ∈ imps, ∀ (i : Nat) v, x.cs[i]? = some v → w.cell? ⟨x.blk, x.off + i, none⟩ = some v ∧ flat1 v = true)
    (hcs : ∀ x ∈ outs, ∀ (i : Nat) v, x.cs[i]? = some v → ∃ v', w.cell? ⟨x.blk, x.off + i, none⟩ = some v' ∧ VR (renOf imps) v v') :
    ∃ (r : Ren) (H : Hp), Rel P r w.heap.size H w ∧ H.next = (imps ++ outs).length ∧ (∀ b loc, r b = some loc → b < H.next) ∧ Ren.Le (renOf imps) r ∧ ∀ (b : Nat) x, (imps ++ outs)[b]? = some x → r b = some ⟨x.blk, x.off, none⟩ ∧ H.t.get b = some (.ro x.cs) := by
  have hall : ∀ x ∈ imps ++ outs, ∀ (i : Nat) v, x.cs[i]? = some v → ∃ v', w.cell? ⟨x.blk, x.off + i, none⟩ = some v' ∧ VR (renOf imps) v v' := by
    intro x hx i v hv
    rcases List.mem_append.1 hx with hx | hx
    · obtain ⟨h1, h2⟩ := h x hx i v hv
      exact ⟨v, h1, flat1_vr h2⟩
    · exact hcs x hx i v hv
  obtain ⟨t, ht⟩ := tr_of (fun b => ((imps ++ outs)[b]?).map fun x => .ro x.cs) (imps ++ outs).length
  have hle : Ren.Le (renOf imps) (fun b => ((imps ++ outs)[b]?).map fun x => ⟨x.blk, x.off, none⟩) := fun b loc e => by
    unfold renOf at e
    have hlt : b < imps.length := by
      rcases Nat.lt_or_ge b imps.length with q | q
      · exact q
      · rw [List.getElem?_eq_none q] at e; cases e
    show ((imps ++ outs)[b]?).map _ = _
    rw [List.getElem?_append_left hlt]; exact e
  have hr : ∀ (b : Nat) loc, ((imps ++ outs)[b]?).map (fun x => (⟨x.blk, x.off, none⟩ : Loc)) = some loc → ∃ x, (imps ++ outs)[b]? = some x ∧ b < (imps ++ outs).length ∧ loc = ⟨x.blk, x.off, none⟩ ∧ t.get b = some (.ro x.cs) := by
    intro b loc e
    cases hx : (imps ++ outs)[b]? with
    | none => rw [hx] at e; cases e
    | some x =>
      rw [hx] at e
      simp at e
      have hlt := get_lt hx
      exact ⟨x, rfl, hlt, e.symm, by rw [ht, if_pos hlt, hx]; rfl⟩
  have low : ∀ {g o : Nat} {v : Value}, w.cell? ⟨g, o, none⟩ = some v → g < w.heap.size := fun {g o v} hv => by
    unfold World.cell? at hv
    rcases Nat.lt_or_ge g w.heap.size with q | q
    · exact q
    · rw [Array.getElem?_eq_none q] at hv; cases hv
  refine ⟨fun b => ((imps ++ outs)[b]?).map fun x => ⟨x.blk, x.off, none⟩, { next := (imps ++ outs).length, t }, ⟨?_, ?_, ?_, Nat.le_refl _⟩, rfl, ?_, hle, ?_⟩
  · intro b loc e
    obtain ⟨x, hx, hlt, rfl, hg⟩ := hr b loc e
    refine ⟨hlt, ?_⟩
    show Dm _ _ _ (t.get b)
    rw [hg]
    cases hc : x.cs with
    | nil => exact .inl rfl
    | cons v l =>
      obtain ⟨v', h1, _⟩ := hall x (List.mem_of_getElem? hx) 0 v (by rw [hc]; rfl)
      exact .inr (low h1)
  · intro b loc o e eo
    obtain ⟨x, hx, hlt, rfl, hg⟩ := hr b loc e
    rw [hg] at eo; cases eo
    refine ⟨rfl, fun i v ev => ?_⟩
    obtain ⟨v', h1, h2⟩ := hall x (List.mem_of_getElem? hx) i v ev
    unfold World.cell? at h1
    simp only at h1
    split at h1
    · rename_i C e' f hC
      exact ⟨C, e', f, v', hC, by simpa using h1, h2.mono hle⟩
    · cases h1
  · intro b b' loc loc' e e' _ hl _
    obtain ⟨x, hx, hlt, rfl, hg⟩ := hr b loc e
    obtain ⟨o, h1, h2, h3⟩ := hl
    have : t.get b = some o := h1
    rw [hg] at this; cases this
    cases h3
  · intro b loc e
    obtain ⟨x, hx, hlt, rfl, hg⟩ := hr b loc e
    exact hlt
  · intro b x hx
    have hlt := get_lt hx
    refine ⟨by simp only [hx, Option.map_some], ?_⟩
    show t.get b = _
    rw [ht, if_pos hlt, hx]; rfl

/-- An inner slice, as it is given: an empty one may have any address. -/
structure GivI {α : Type} (w : World) (v : Value) (f : α → List Value) (l : List α) (x : Imp) : Prop where
  ok : ∀ (i : Nat) u, x.cs[i]? = some u → w.cell? ⟨x.blk, x.off + i, none⟩ = some u ∧ flat1 u = true
  cs : x.cs = l.flatMap f
  v : ((v = .slice none 0 0 ∨ ∃ a', v = .slice (some a') 0 0) ∧ l = []) ∨ ∃ cap, v = .slice (some ⟨x.blk, x.off, none⟩) l.length cap ∧ l.length ≤ cap
theorem GivI.rel {α : Type} {w : World} {v : Value} {f : α → List Value} {l : List α} {x : Imp} (g : GivI w v f l x) {r : Ren} {b : Nat} (hr : r b = some ⟨x.blk, x.off, none⟩) :
    ∃ a cap, VR r (.slice a l.length cap) v ∧ (∀ y, a = some ⟨y, 0, none⟩ → y = b) ∧ ∀ H : Hp, b < H.next → H.t.get b = some (.ro x.cs) → Sl H a l.length cap (l.flatMap f) := by
  rcases g.v with ⟨rfl | ⟨a', rfl⟩, rfl⟩ | ⟨cap, rfl, hl⟩
  · exact ⟨none, 0, .nilSlice, fun y e => by (cases e), fun H _ _ => .inl ⟨.inl rfl, rfl, rfl, rfl⟩⟩
  · exact ⟨some ⟨0, 0, some 0⟩, 0, .weird, fun y e => by (cases e), fun H _ _ => .inl ⟨.inr rfl, rfl, rfl, rfl⟩⟩
  · refine ⟨some ⟨b, 0, none⟩, cap, ?_, fun y e => by (cases e; rfl), fun H hb hc => .inr ⟨b, rfl, ⟨hb, by unfold cellsOf; rw [hc, g.cs]⟩, hl⟩⟩
    have := VR.slice (o := 0) (n := l.length) (c := cap) hr rfl hl
    simpa using this
structure RV where
  rv : Value
  l : List Int
  x : Imp
def RV.f (r : RV) : List Value := [r.rv]
def RV.Q (w : World) (r : RV) : Prop := GivI w r.rv (fun n : Int => [iv n]) r.l r.x
end Go.Ax

/-
  Plant: machines, streams: where they lie (written by program).
-/
namespace Go.Ax
open Go Go.RowKit

/-- A machine: its outlets. -/
structure Mc where
  ra : Option Addr
  n : Nat
  cap : Nat
  l : List Ou
def Mc.z : Mc := ⟨none, 0, 0, []⟩
abbrev Mc.f (r : Mc) : List Value := [.slice r.ra r.n r.cap]
/-- lots -/
structure Fz where
  rd : Int
  du : Int
  ms : Int
abbrev Fz.f (x : Fz) : List Value := [iv x.rd, iv x.du, iv x.ms]
def Fz.z : Fz := ⟨0, 0, 0⟩
/-- tanks -/
structure Tn where
  un : Int
  su : Int
  ac : Int
  co : Int
  pr : Int
abbrev Tn.f (x : Tn) : List Value := [iv x.un, iv x.su, iv x.ac, iv x.co, iv x.pr]
def Tn.z : Tn := ⟨0, 0, 0, 0, 0⟩
end Go.Ax

/-! Machines and what is flat as arguments. -/
namespace Go.Ax
open Go Go.RowKit Go.Proofs Go.ChangeShapes Go.WideShapes Go.Deep

/-- A machine, as it is given. -/
structure MV where
  rv : Value
  l : List Ou
  x : Imp
def MV.f (r : MV) : List Value := [r.rv]
def MV.Q (w : World) (r : MV) : Prop := GivI w r.rv Ou.f r.l r.x
theorem imports_flat {P : Program} (pre : List Imp) {w : World} (h : ∀ x ∈ pre, ∀ (i : Nat) v, x.cs[i]? = some v → w.cell? ⟨x.blk, x.off + i, none⟩ = some v ∧ flat1 v = true) :
    ∃ (r : Ren) (H : Hp), Rel P r w.heap.size H w ∧ (∀ b loc, r b = some loc → b < H.next) ∧ (∀ (b : Nat) x, pre[b]? = some x → b < H.next ∧ r b = some ⟨x.blk, x.off, none⟩ ∧ H.t.get b = some (.ro x.cs)) := by
  obtain ⟨r, H, h1, h2, h3, h4, h5⟩ := imports3 (P := P) pre [] w h (fun x hx => by simp at hx)
  refine ⟨r, H, h1, h3, fun b x hx => ?_⟩
  have := get_lt hx
  obtain ⟨a, c⟩ := h5 b x (by simpa using hx)
  exact ⟨by rw [h2]; simpa using this, a, c⟩
end Go.Ax


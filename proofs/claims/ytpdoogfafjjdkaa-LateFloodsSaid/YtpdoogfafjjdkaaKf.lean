import Derived.Test.YtpdoogfafjjdkaaAxW9
import Derived.Test.YtpdoogfafjjdkaaChecked
set_option linter.all false
/-! What 'low' makes of more functions of late (written by program). -/
namespace Go.Ax
open Go Go.RowKit Go.Proofs
theorem N40 : Try.f40.ntmps = 46 := by kernel_rfl
theorem Z40 : Try.f40.results.toList = ((List.toArray [(.cell 6 24)]) : Array ResultVar).toList := by kernel_rfl
theorem B40 : Try.f40.body = some (at_ Try.f40 []) := by kernel_rfl
noncomputable def R40 : RC := (.seq (.reg [⟨(some 3), none, (.box 26 (.tmp 0))⟩, ⟨(some 6), none, (.alc 24 [(.int .i64 0), (.int .i64 0)])⟩])
  (.seq (.reg [⟨(some 7), none, (.alc 24 [(.int .i64 0), (.int .i64 0)])⟩])
  (.seq (.seq (.reg [⟨(some 9), none, (.mov (.tmp 1))⟩, ⟨(some 8), none, (.mov (.tmp 9))⟩])
  (.block 0 (.other (at_ Try.f40 [1, 1, 0, 1, 0]))))
  (.seq (.reg [⟨(some 45), none, (.lda (.tmp 7) 2)⟩, ⟨none, none, (.sta (.tmp 6) (.tmp 45) 2)⟩])
  .ret))))
theorem L40 : low Try.prog Try.f40.ntmps (at_ Try.f40 []) = some R40 := by kernel_rfl
theorem E40_1 : at_ Try.f40 [1, 1, 0, 1, 0] = .loop (at_ Try.f40 [1, 1, 0, 1, 0, 0]) := by kernel_rfl
noncomputable def R40x1 : RC := (.seq (.seq (.reg [⟨(some 10), none, (.mov (.tmp 8))⟩, ⟨(some 11), none, (.mov (.tmp 1))⟩, ⟨(some 12), none, (.mov (.tmp 2))⟩, ⟨(some 13), none, (.ari .add (.tmp 11) (.tmp 12))⟩, ⟨(some 14), none, (.cmp .lss (.tmp 10) (.tmp 13))⟩])
  (.cond (.tmp 14) .skip
  (.exit 0)))
  (.seq (.block 1 (.seq (.dreg [⟨(some 17), none, (.addo (.tmp 7) 0)⟩, ⟨(some 18), none, (.ld (.tmp 17) 1)⟩, ⟨(some 19), none, (.addo (.tmp 3) 0)⟩, ⟨(some 20), none, (.ld (.tmp 19) 1)⟩, ⟨(some 21), none, (.mov (.tmp 8))⟩, ⟨(some 22), none, (.idx (.tmp 20) (.tmp 21) 2)⟩, ⟨(some 23), none, (.addo (.tmp 22) 0)⟩, ⟨(some 24), none, (.ld (.tmp 23) 1)⟩, ⟨(some 25), none, (.addo (.tmp 3) 9)⟩, ⟨(some 26), none, (.ld (.tmp 25) 1)⟩, ⟨(some 27), none, (.ari .sub (.tmp 24) (.tmp 26))⟩, ⟨(some 28), none, (.mm false (.const (.int .i64 0)) (.tmp 27))⟩, ⟨(some 29), none, (.ari .add (.tmp 18) (.tmp 28))⟩, ⟨(some 30), none, (.addo (.tmp 7) 0)⟩, ⟨none, none, (.st (.tmp 30) (.tmp 29))⟩] [16383, 8191, 4095, 2044, 1020, 256, 0, 124, 60, 28, 0, 4, 0, 1, 0])
  (.dreg [⟨(some 31), none, (.addo (.tmp 7) 1)⟩, ⟨(some 32), none, (.ld (.tmp 31) 1)⟩, ⟨(some 33), none, (.addo (.tmp 3) 0)⟩, ⟨(some 34), none, (.ld (.tmp 33) 1)⟩, ⟨(some 35), none, (.mov (.tmp 8))⟩, ⟨(some 36), none, (.idx (.tmp 34) (.tmp 35) 2)⟩, ⟨(some 37), none, (.addo (.tmp 36) 1)⟩, ⟨(some 38), none, (.ld (.tmp 37) 1)⟩, ⟨(some 39), none, (.addo (.tmp 3) 9)⟩, ⟨(some 40), none, (.ld (.tmp 39) 1)⟩, ⟨(some 41), none, (.ari .sub (.tmp 38) (.tmp 40))⟩, ⟨(some 42), none, (.mm false (.const (.int .i64 0)) (.tmp 41))⟩, ⟨(some 43), none, (.ari .add (.tmp 32) (.tmp 42))⟩, ⟨(some 44), none, (.addo (.tmp 7) 1)⟩, ⟨none, none, (.st (.tmp 44) (.tmp 43))⟩] [16383, 8191, 4095, 2044, 1020, 256, 0, 124, 60, 28, 0, 4, 0, 1, 0])))
  (.reg [⟨(some 15), none, (.mov (.tmp 8))⟩, ⟨(some 16), none, (.ari .add (.tmp 15) (.const (.int .i64 1)))⟩, ⟨(some 8), none, (.mov (.tmp 16))⟩])))
theorem L40x1 : low Try.prog Try.f40.ntmps (at_ Try.f40 [1, 1, 0, 1, 0, 0]) = some R40x1 := by kernel_rfl
theorem N16 : Try.f16.ntmps = 22 := by kernel_rfl
theorem Z16 : Try.f16.results.toList = ((List.toArray [(.cell 6 24), (.tmp 7)]) : Array ResultVar).toList := by kernel_rfl
theorem B16 : Try.f16.body = some (at_ Try.f16 []) := by kernel_rfl
noncomputable def R16 : RC := (.seq (.reg [⟨(some 3), none, (.box 26 (.tmp 0))⟩, ⟨(some 6), none, (.alc 24 [(.int .i64 0), (.int .i64 0)])⟩, ⟨(some 7), none, (.mov (.const (.int .i64 0)))⟩])
  (.seq (.seq (.reg [⟨(some 8), none, (.lda (.tmp 3) 13)⟩, ⟨(some 9), none, (.call ⟨(.value (.func 33)), (List.toArray [(.tmp 8)]), (List.toArray [26])⟩ true)⟩, ⟨(some 10), none, (.pur ⟨(some 10), (.unOp .not 4 (.tmp 9)), 4, "", (List.toArray []), none⟩)⟩])
  (.cond (.tmp 10) (.seq (.reg [⟨(some 11), none, (.pur ⟨(some 11), (.build 24 (List.toArray [])), 24, "", (List.toArray []), none⟩)⟩, ⟨none, none, (.sta (.tmp 6) (.tmp 11) 2)⟩, ⟨(some 7), none, (.mov (.const (.int .i64 1)))⟩])
  .ret)
  .skip))
  (.seq (.seq (.reg [⟨(some 12), none, (.lda (.tmp 3) 13)⟩, ⟨(some 13), none, (.mov (.tmp 1))⟩, ⟨(some 14), none, (.mov (.tmp 2))⟩, ⟨(some 15), none, (.call ⟨(.value (.func 34)), (List.toArray [(.tmp 12), (.tmp 13), (.tmp 14), (.const (.slice none 0 0))]), (List.toArray [26, 3, 3, 27])⟩ true)⟩, ⟨(some 16), none, (.pur ⟨(some 16), (.unOp .not 4 (.tmp 15)), 4, "", (List.toArray []), none⟩)⟩])
  (.cond (.tmp 16) (.seq (.reg [⟨(some 17), none, (.pur ⟨(some 17), (.build 24 (List.toArray [])), 24, "", (List.toArray []), none⟩)⟩, ⟨none, none, (.sta (.tmp 6) (.tmp 17) 2)⟩, ⟨(some 7), none, (.mov (.const (.int .i64 2)))⟩])
  .ret)
  .skip))
  (.seq (.reg [⟨(some 18), none, (.lda (.tmp 3) 13)⟩, ⟨(some 19), none, (.mov (.tmp 1))⟩, ⟨(some 20), none, (.mov (.tmp 2))⟩, ⟨(some 21), none, (.call ⟨(.value (.func 40)), (List.toArray [(.tmp 18), (.tmp 19), (.tmp 20)]), (List.toArray [26, 3, 3])⟩ true)⟩, ⟨none, none, (.sta (.tmp 6) (.tmp 21) 2)⟩, ⟨(some 7), none, (.mov (.const (.int .i64 0)))⟩])
  .ret))))
theorem L16 : low Try.prog Try.f16.ntmps (at_ Try.f16 []) = some R16 := by kernel_rfl
theorem N18 : Try.f18.ntmps = 24 := by kernel_rfl
theorem Z18 : Try.f18.results.toList = ((List.toArray [(.tmp 8), (.tmp 9)]) : Array ResultVar).toList := by kernel_rfl
theorem B18 : Try.f18.body = some (at_ Try.f18 []) := by kernel_rfl
noncomputable def R18 : RC := (.seq (.reg [⟨(some 4), none, (.box 26 (.tmp 0))⟩, ⟨(some 8), none, (.mov (.const (.slice none 0 0)))⟩, ⟨(some 9), none, (.mov (.const (.int .i64 0)))⟩])
  (.seq (.seq (.reg [⟨(some 10), none, (.lda (.tmp 4) 13)⟩, ⟨(some 11), none, (.call ⟨(.value (.func 33)), (List.toArray [(.tmp 10)]), (List.toArray [26])⟩ true)⟩, ⟨(some 12), none, (.pur ⟨(some 12), (.unOp .not 4 (.tmp 11)), 4, "", (List.toArray []), none⟩)⟩])
  (.cond (.tmp 12) (.seq (.reg [⟨(some 8), none, (.mov (.const (.slice none 0 0)))⟩, ⟨(some 9), none, (.mov (.const (.int .i64 1)))⟩])
  .ret)
  .skip))
  (.seq (.seq (.reg [⟨(some 13), none, (.lda (.tmp 4) 13)⟩, ⟨(some 14), none, (.mov (.tmp 1))⟩, ⟨(some 15), none, (.mov (.tmp 2))⟩, ⟨(some 16), none, (.mov (.tmp 3))⟩, ⟨(some 17), none, (.call ⟨(.value (.func 34)), (List.toArray [(.tmp 13), (.tmp 14), (.tmp 15), (.tmp 16)]), (List.toArray [26, 3, 3, 27])⟩ true)⟩, ⟨(some 18), none, (.pur ⟨(some 18), (.unOp .not 4 (.tmp 17)), 4, "", (List.toArray []), none⟩)⟩])
  (.cond (.tmp 18) (.seq (.reg [⟨(some 8), none, (.mov (.const (.slice none 0 0)))⟩, ⟨(some 9), none, (.mov (.const (.int .i64 2)))⟩])
  .ret)
  .skip))
  (.seq (.reg [⟨(some 19), none, (.lda (.tmp 4) 13)⟩, ⟨(some 20), none, (.mov (.tmp 1))⟩, ⟨(some 21), none, (.mov (.tmp 2))⟩, ⟨(some 22), none, (.mov (.tmp 3))⟩, ⟨(some 23), none, (.call ⟨(.value (.func 43)), (List.toArray [(.tmp 19), (.tmp 20), (.tmp 21), (.tmp 22)]), (List.toArray [26, 3, 3, 27])⟩ true)⟩, ⟨(some 8), none, (.mov (.tmp 23))⟩, ⟨(some 9), none, (.mov (.const (.int .i64 0)))⟩])
  .ret))))
theorem L18 : low Try.prog Try.f18.ntmps (at_ Try.f18 []) = some R18 := by kernel_rfl
theorem N20 : Try.f20.ntmps = 32 := by kernel_rfl
theorem Z20 : Try.f20.results.toList = ((List.toArray [(.tmp 8), (.tmp 9), (.tmp 10)]) : Array ResultVar).toList := by kernel_rfl
theorem B20 : Try.f20.body = some (at_ Try.f20 []) := by kernel_rfl
noncomputable def R20 : RC := (.seq (.reg [⟨(some 4), none, (.box 26 (.tmp 0))⟩, ⟨(some 8), none, (.mov (.const (.int .i64 0)))⟩, ⟨(some 9), none, (.mov (.const (.int .i64 0)))⟩, ⟨(some 10), none, (.mov (.const (.int .i64 0)))⟩])
  (.seq (.seq (.reg [⟨(some 13), none, (.lda (.tmp 4) 13)⟩, ⟨(some 14), none, (.call ⟨(.value (.func 33)), (List.toArray [(.tmp 13)]), (List.toArray [26])⟩ true)⟩, ⟨(some 15), none, (.pur ⟨(some 15), (.unOp .not 4 (.tmp 14)), 4, "", (List.toArray []), none⟩)⟩])
  (.cond (.tmp 15) (.seq (.reg [⟨(some 8), none, (.mov (.const (.int .i64 0)))⟩, ⟨(some 9), none, (.mov (.const (.int .i64 0)))⟩, ⟨(some 10), none, (.mov (.const (.int .i64 1)))⟩])
  .ret)
  .skip))
  (.seq (.seq (.reg [⟨(some 16), none, (.lda (.tmp 4) 13)⟩, ⟨(some 17), none, (.mov (.tmp 1))⟩, ⟨(some 18), none, (.mov (.tmp 2))⟩, ⟨(some 19), none, (.mov (.tmp 3))⟩, ⟨(some 20), none, (.call ⟨(.value (.func 34)), (List.toArray [(.tmp 16), (.tmp 17), (.tmp 18), (.tmp 19)]), (List.toArray [26, 3, 3, 27])⟩ true)⟩, ⟨(some 21), none, (.pur ⟨(some 21), (.unOp .not 4 (.tmp 20)), 4, "", (List.toArray []), none⟩)⟩])
  (.cond (.tmp 21) (.seq (.reg [⟨(some 8), none, (.mov (.const (.int .i64 0)))⟩, ⟨(some 9), none, (.mov (.const (.int .i64 0)))⟩, ⟨(some 10), none, (.mov (.const (.int .i64 2)))⟩])
  .ret)
  .skip))
  (.seq (.reg [⟨(some 23), none, (.lda (.tmp 4) 13)⟩, ⟨(some 24), none, (.mov (.tmp 1))⟩, ⟨(some 25), none, (.mov (.tmp 2))⟩, ⟨(some 26), none, (.mov (.tmp 3))⟩, ⟨(some 27), none, (.call ⟨(.value (.func 45)), (List.toArray [(.tmp 23), (.tmp 24), (.tmp 25), (.tmp 26)]), (List.toArray [26, 3, 3, 27])⟩ true)⟩, ⟨(some 22), none, (.mov (.tmp 27))⟩, ⟨(some 28), none, (.pur ⟨(some 28), (.extract (.tmp 22) 0), 3, "", (List.toArray []), none⟩)⟩, ⟨(some 29), none, (.pur ⟨(some 29), (.extract (.tmp 22) 1), 3, "", (List.toArray []), none⟩)⟩, ⟨(some 11), none, (.mov (.tmp 28))⟩, ⟨(some 12), none, (.mov (.tmp 29))⟩])
  (.seq (.reg [⟨(some 30), none, (.mov (.tmp 11))⟩, ⟨(some 31), none, (.mov (.tmp 12))⟩, ⟨(some 8), none, (.mov (.tmp 30))⟩, ⟨(some 9), none, (.mov (.tmp 31))⟩, ⟨(some 10), none, (.mov (.const (.int .i64 0)))⟩])
  .ret)))))
theorem L20 : low Try.prog Try.f20.ntmps (at_ Try.f20 []) = some R20 := by kernel_rfl
theorem N3 : Try.f3.ntmps = 111 := by kernel_rfl
theorem Z3 : Try.f3.results.toList = ((List.toArray [(.tmp 8)]) : Array ResultVar).toList := by kernel_rfl
theorem B3 : Try.f3.body = some (at_ Try.f3 []) := by kernel_rfl
noncomputable def R3 : RC := (.seq (.reg [⟨(some 4), none, (.box 26 (.tmp 0))⟩, ⟨(some 8), none, (.mov (.const (.bool false)))⟩])
  (.seq (.seq (.reg [⟨(some 23), none, (.lda (.tmp 4) 13)⟩, ⟨(some 24), none, (.mov (.tmp 3))⟩, ⟨(some 25), none, (.call ⟨(.value (.func 13)), (List.toArray [(.tmp 23), (.tmp 24)]), (List.toArray [26, 27])⟩ true)⟩])
  (.cond (.tmp 25) (.seq (.reg [⟨(some 26), none, (.call ⟨(.value (.func 14)), (List.toArray []), (List.toArray [])⟩ true)⟩, ⟨(some 8), none, (.mov (.tmp 26))⟩])
  .ret)
  .skip))
  (.seq (.reg [⟨(some 28), none, (.lda (.tmp 4) 13)⟩, ⟨(some 29), none, (.mov (.tmp 1))⟩, ⟨(some 30), none, (.mov (.tmp 2))⟩, ⟨(some 31), none, (.call ⟨(.value (.func 15)), (List.toArray [(.tmp 28), (.tmp 29), (.tmp 30)]), (List.toArray [26, 3, 3])⟩ true)⟩, ⟨(some 27), none, (.mov (.tmp 31))⟩, ⟨(some 32), none, (.pur ⟨(some 32), (.extract (.tmp 27) 0), 24, "", (List.toArray []), none⟩)⟩, ⟨(some 33), none, (.pur ⟨(some 33), (.extract (.tmp 27) 1), 30, "", (List.toArray []), none⟩)⟩, ⟨(some 9), none, (.alc 24 [(.int .i64 0), (.int .i64 0)])⟩, ⟨none, none, (.sta (.tmp 9) (.tmp 32) 2)⟩, ⟨(some 10), none, (.mov (.tmp 33))⟩])
  (.seq (.reg [⟨(some 35), none, (.lda (.tmp 4) 13)⟩, ⟨(some 36), none, (.mov (.tmp 1))⟩, ⟨(some 37), none, (.mov (.tmp 2))⟩, ⟨(some 38), none, (.call ⟨(.value (.func 16)), (List.toArray [(.tmp 35), (.tmp 36), (.tmp 37)]), (List.toArray [26, 3, 3])⟩ true)⟩, ⟨(some 34), none, (.mov (.tmp 38))⟩, ⟨(some 39), none, (.pur ⟨(some 39), (.extract (.tmp 34) 0), 24, "", (List.toArray []), none⟩)⟩, ⟨(some 40), none, (.pur ⟨(some 40), (.extract (.tmp 34) 1), 30, "", (List.toArray []), none⟩)⟩, ⟨(some 11), none, (.alc 24 [(.int .i64 0), (.int .i64 0)])⟩, ⟨none, none, (.sta (.tmp 11) (.tmp 39) 2)⟩, ⟨(some 12), none, (.mov (.tmp 40))⟩])
  (.seq (.reg [⟨(some 42), none, (.lda (.tmp 4) 13)⟩, ⟨(some 43), none, (.mov (.tmp 1))⟩, ⟨(some 44), none, (.mov (.tmp 2))⟩, ⟨(some 45), none, (.mov (.tmp 3))⟩, ⟨(some 46), none, (.call ⟨(.value (.func 17)), (List.toArray [(.tmp 42), (.tmp 43), (.tmp 44), (.tmp 45)]), (List.toArray [26, 3, 3, 27])⟩ true)⟩, ⟨(some 41), none, (.mov (.tmp 46))⟩, ⟨(some 47), none, (.pur ⟨(some 47), (.extract (.tmp 41) 0), 22, "", (List.toArray []), none⟩)⟩, ⟨(some 48), none, (.pur ⟨(some 48), (.extract (.tmp 41) 1), 30, "", (List.toArray []), none⟩)⟩, ⟨(some 13), none, (.mov (.tmp 47))⟩, ⟨(some 14), none, (.mov (.tmp 48))⟩])
  (.seq (.reg [⟨(some 50), none, (.lda (.tmp 4) 13)⟩, ⟨(some 51), none, (.mov (.tmp 1))⟩, ⟨(some 52), none, (.mov (.tmp 2))⟩, ⟨(some 53), none, (.mov (.tmp 3))⟩, ⟨(some 54), none, (.call ⟨(.value (.func 18)), (List.toArray [(.tmp 50), (.tmp 51), (.tmp 52), (.tmp 53)]), (List.toArray [26, 3, 3, 27])⟩ true)⟩, ⟨(some 49), none, (.mov (.tmp 54))⟩, ⟨(some 55), none, (.pur ⟨(some 55), (.extract (.tmp 49) 0), 22, "", (List.toArray []), none⟩)⟩, ⟨(some 56), none, (.pur ⟨(some 56), (.extract (.tmp 49) 1), 30, "", (List.toArray []), none⟩)⟩, ⟨(some 15), none, (.mov (.tmp 55))⟩, ⟨(some 16), none, (.mov (.tmp 56))⟩])
  (.seq (.reg [⟨(some 58), none, (.lda (.tmp 4) 13)⟩, ⟨(some 59), none, (.mov (.tmp 1))⟩, ⟨(some 60), none, (.mov (.tmp 2))⟩, ⟨(some 61), none, (.mov (.tmp 3))⟩, ⟨(some 62), none, (.call ⟨(.value (.func 19)), (List.toArray [(.tmp 58), (.tmp 59), (.tmp 60), (.tmp 61)]), (List.toArray [26, 3, 3, 27])⟩ true)⟩, ⟨(some 57), none, (.mov (.tmp 62))⟩, ⟨(some 63), none, (.pur ⟨(some 63), (.extract (.tmp 57) 0), 3, "", (List.toArray []), none⟩)⟩, ⟨(some 64), none, (.pur ⟨(some 64), (.extract (.tmp 57) 1), 3, "", (List.toArray []), none⟩)⟩, ⟨(some 65), none, (.pur ⟨(some 65), (.extract (.tmp 57) 2), 30, "", (List.toArray []), none⟩)⟩, ⟨(some 17), none, (.mov (.tmp 63))⟩, ⟨(some 18), none, (.mov (.tmp 64))⟩, ⟨(some 19), none, (.mov (.tmp 65))⟩])
  (.seq (.reg [⟨(some 67), none, (.lda (.tmp 4) 13)⟩, ⟨(some 68), none, (.mov (.tmp 1))⟩, ⟨(some 69), none, (.mov (.tmp 2))⟩, ⟨(some 70), none, (.mov (.tmp 3))⟩, ⟨(some 71), none, (.call ⟨(.value (.func 20)), (List.toArray [(.tmp 67), (.tmp 68), (.tmp 69), (.tmp 70)]), (List.toArray [26, 3, 3, 27])⟩ true)⟩, ⟨(some 66), none, (.mov (.tmp 71))⟩, ⟨(some 72), none, (.pur ⟨(some 72), (.extract (.tmp 66) 0), 3, "", (List.toArray []), none⟩)⟩, ⟨(some 73), none, (.pur ⟨(some 73), (.extract (.tmp 66) 1), 3, "", (List.toArray []), none⟩)⟩, ⟨(some 74), none, (.pur ⟨(some 74), (.extract (.tmp 66) 2), 30, "", (List.toArray []), none⟩)⟩, ⟨(some 20), none, (.mov (.tmp 72))⟩, ⟨(some 21), none, (.mov (.tmp 73))⟩, ⟨(some 22), none, (.mov (.tmp 74))⟩])
  (.seq (.reg [⟨(some 75), none, (.lda (.tmp 9) 2)⟩, ⟨(some 76), none, (.lda (.tmp 11) 2)⟩, ⟨(some 77), none, (.pur ⟨(some 77), (.binOp .eql 24 (.tmp 75) (.tmp 76) 24), 4, "", (List.toArray []), none⟩)⟩, ⟨(some 78), none, (.mov (.tmp 77))⟩, ⟨(some 79), (some (78, true)), (.mov (.tmp 10))⟩, ⟨(some 80), (some (78, true)), (.mov (.tmp 12))⟩, ⟨(some 81), (some (78, true)), (.cmpb .eql (.tmp 79) (.tmp 80))⟩, ⟨(some 82), none, (.pur ⟨(some 82), (.pick (.tmp 78) (.tmp 81) (.const (.bool false))), 4, "", (List.toArray []), none⟩)⟩, ⟨(some 83), none, (.mov (.tmp 82))⟩, ⟨(some 84), (some (83, true)), (.mov (.tmp 13))⟩, ⟨(some 85), (some (83, true)), (.mov (.tmp 15))⟩, ⟨(some 86), (some (83, true)), (.call ⟨(.value (.func 21)), (List.toArray [(.tmp 84), (.tmp 85)]), (List.toArray [22, 22])⟩ true)⟩, ⟨(some 87), none, (.pur ⟨(some 87), (.pick (.tmp 83) (.tmp 86) (.const (.bool false))), 4, "", (List.toArray []), none⟩)⟩, ⟨(some 88), none, (.mov (.tmp 87))⟩, ⟨(some 89), (some (88, true)), (.mov (.tmp 14))⟩, ⟨(some 90), (some (88, true)), (.mov (.tmp 16))⟩, ⟨(some 91), (some (88, true)), (.cmpb .eql (.tmp 89) (.tmp 90))⟩, ⟨(some 92), none, (.pur ⟨(some 92), (.pick (.tmp 88) (.tmp 91) (.const (.bool false))), 4, "", (List.toArray []), none⟩)⟩, ⟨(some 93), none, (.mov (.tmp 92))⟩, ⟨(some 94), (some (93, true)), (.mov (.tmp 17))⟩, ⟨(some 95), (some (93, true)), (.mov (.tmp 20))⟩, ⟨(some 96), (some (93, true)), (.cmpb .eql (.tmp 94) (.tmp 95))⟩, ⟨(some 97), none, (.pur ⟨(some 97), (.pick (.tmp 93) (.tmp 96) (.const (.bool false))), 4, "", (List.toArray []), none⟩)⟩, ⟨(some 98), none, (.mov (.tmp 97))⟩, ⟨(some 99), (some (98, true)), (.mov (.tmp 18))⟩, ⟨(some 100), (some (98, true)), (.mov (.tmp 21))⟩, ⟨(some 101), (some (98, true)), (.cmpb .eql (.tmp 99) (.tmp 100))⟩, ⟨(some 102), none, (.pur ⟨(some 102), (.pick (.tmp 98) (.tmp 101) (.const (.bool false))), 4, "", (List.toArray []), none⟩)⟩, ⟨(some 103), none, (.mov (.tmp 102))⟩, ⟨(some 104), (some (103, true)), (.mov (.tmp 19))⟩, ⟨(some 105), (some (103, true)), (.mov (.tmp 22))⟩, ⟨(some 106), (some (103, true)), (.cmpb .eql (.tmp 104) (.tmp 105))⟩, ⟨(some 107), none, (.pur ⟨(some 107), (.pick (.tmp 103) (.tmp 106) (.const (.bool false))), 4, "", (List.toArray []), none⟩)⟩, ⟨(some 108), none, (.mov (.tmp 107))⟩, ⟨(some 109), (some (108, true)), (.call ⟨(.value (.func 14)), (List.toArray []), (List.toArray [])⟩ true)⟩, ⟨(some 110), none, (.pur ⟨(some 110), (.pick (.tmp 108) (.tmp 109) (.const (.bool false))), 4, "", (List.toArray []), none⟩)⟩, ⟨(some 8), none, (.mov (.tmp 110))⟩])
  .ret)))))))))
theorem L3 : low Try.prog Try.f3.ntmps (at_ Try.f3 []) = some R3 := by kernel_rfl
theorem N21 : Try.f21.ntmps = 26 := by kernel_rfl
theorem Z21 : Try.f21.results.toList = ((List.toArray [(.tmp 4)]) : Array ResultVar).toList := by kernel_rfl
theorem B21 : Try.f21.body = some (at_ Try.f21 []) := by kernel_rfl
noncomputable def R21 : RC := (.seq (.reg [⟨(some 4), none, (.mov (.const (.bool false)))⟩])
  (.seq (.seq (.reg [⟨(some 6), none, (.mov (.tmp 0))⟩, ⟨(some 7), none, (.len (.tmp 6))⟩, ⟨(some 8), none, (.mov (.tmp 1))⟩, ⟨(some 9), none, (.len (.tmp 8))⟩, ⟨(some 10), none, (.cmp .neq (.tmp 7) (.tmp 9))⟩])
  (.cond (.tmp 10) (.seq (.reg [⟨(some 4), none, (.mov (.const (.bool false)))⟩])
  .ret)
  .skip))
  (.seq (.seq (.reg [⟨(some 5), none, (.mov (.const (.int .i64 0)))⟩])
  (.block 0 (.other (at_ Try.f21 [1, 1, 0, 1, 0]))))
  (.seq (.reg [⟨(some 4), none, (.mov (.const (.bool true)))⟩])
  .ret))))
theorem L21 : low Try.prog Try.f21.ntmps (at_ Try.f21 []) = some R21 := by kernel_rfl
theorem E21_1 : at_ Try.f21 [1, 1, 0, 1, 0] = .loop (at_ Try.f21 [1, 1, 0, 1, 0, 0]) := by kernel_rfl
noncomputable def R21x1 : RC := (.seq (.seq (.reg [⟨(some 11), none, (.mov (.tmp 5))⟩, ⟨(some 12), none, (.mov (.tmp 0))⟩, ⟨(some 13), none, (.len (.tmp 12))⟩, ⟨(some 14), none, (.cmp .lss (.tmp 11) (.tmp 13))⟩])
  (.cond (.tmp 14) .skip
  (.exit 0)))
  (.seq (.block 1 (.seq (.dreg [⟨(some 17), none, (.mov (.tmp 0))⟩, ⟨(some 18), none, (.mov (.tmp 5))⟩, ⟨(some 19), none, (.idx (.tmp 17) (.tmp 18) 2)⟩, ⟨(some 20), none, (.lda (.tmp 19) 2)⟩, ⟨(some 21), none, (.mov (.tmp 1))⟩, ⟨(some 22), none, (.mov (.tmp 5))⟩, ⟨(some 23), none, (.idx (.tmp 21) (.tmp 22) 2)⟩, ⟨(some 24), none, (.lda (.tmp 23) 2)⟩, ⟨(some 25), none, (.pur ⟨(some 25), (.binOp .neq 24 (.tmp 20) (.tmp 24) 24), 4, "", (List.toArray []), none⟩)⟩] [255, 112, 48, 0, 0, 7, 3, 0, 0])
  (.cond (.tmp 25) (.seq (.reg [⟨(some 4), none, (.mov (.const (.bool false)))⟩])
  .ret)
  .skip)))
  (.reg [⟨(some 15), none, (.mov (.tmp 5))⟩, ⟨(some 16), none, (.ari .add (.tmp 15) (.const (.int .i64 1)))⟩, ⟨(some 5), none, (.mov (.tmp 16))⟩])))
theorem L21x1 : low Try.prog Try.f21.ntmps (at_ Try.f21 [1, 1, 0, 1, 0, 0]) = some R21x1 := by kernel_rfl
theorem N43 : Try.f43.ntmps = 93 := by kernel_rfl
theorem Z43 : Try.f43.results.toList = ((List.toArray [(.tmp 8)]) : Array ResultVar).toList := by kernel_rfl
theorem B43 : Try.f43.body = some (at_ Try.f43 []) := by kernel_rfl
noncomputable def R43 : RC := (.seq (.reg [⟨(some 4), none, (.box 26 (.tmp 0))⟩, ⟨(some 8), none, (.mov (.const (.slice none 0 0)))⟩])
  (.seq (.reg [⟨(some 9), none, (.mov (.const (.slice none 0 0)))⟩])
  (.seq (.reg [⟨(some 15), none, (.addo (.tmp 4) 4)⟩, ⟨(some 16), none, (.lda (.tmp 15) 2)⟩, ⟨(some 10), none, (.alc 24 [(.int .i64 0), (.int .i64 0)])⟩, ⟨none, none, (.sta (.tmp 10) (.tmp 16) 2)⟩])
  (.seq (.seq (.reg [⟨(some 17), none, (.mov (.tmp 1))⟩, ⟨(some 11), none, (.mov (.tmp 17))⟩])
  (.block 0 (.other (at_ Try.f43 [1, 1, 1, 0, 1, 0]))))
  (.seq (.reg [⟨(some 92), none, (.mov (.tmp 9))⟩, ⟨(some 8), none, (.mov (.tmp 92))⟩])
  .ret)))))
theorem L43 : low Try.prog Try.f43.ntmps (at_ Try.f43 []) = some R43 := by kernel_rfl
theorem E43_1 : at_ Try.f43 [1, 1, 1, 0, 1, 0] = .loop (at_ Try.f43 [1, 1, 1, 0, 1, 0, 0]) := by kernel_rfl
noncomputable def R43x1 : RC := (.seq (.seq (.reg [⟨(some 18), none, (.mov (.tmp 11))⟩, ⟨(some 19), none, (.mov (.tmp 1))⟩, ⟨(some 20), none, (.mov (.tmp 2))⟩, ⟨(some 21), none, (.ari .add (.tmp 19) (.tmp 20))⟩, ⟨(some 22), none, (.cmp .lss (.tmp 18) (.tmp 21))⟩])
  (.cond (.tmp 22) .skip
  (.exit 0)))
  (.seq (.block 1 (.seq (.seq (.reg [⟨(some 12), none, (.mov (.const (.int .i64 0)))⟩])
  (.block 2 (.other (at_ Try.f43 [1, 1, 1, 0, 1, 0, 0, 1, 0, 0, 0, 1, 0]))))
  (.seq (.dreg [⟨(some 39), none, (.lda (.tmp 4) 13)⟩, ⟨(some 40), none, (.addo (.tmp 4) 0)⟩, ⟨(some 41), none, (.ld (.tmp 40) 1)⟩, ⟨(some 42), none, (.mov (.tmp 11))⟩, ⟨(some 43), none, (.idx (.tmp 41) (.tmp 42) 2)⟩, ⟨(some 44), none, (.addo (.tmp 43) 1)⟩, ⟨(some 45), none, (.ld (.tmp 44) 1)⟩, ⟨(some 46), none, (.call ⟨(.value (.func 67)), (List.toArray [(.tmp 39), (.tmp 45)]), (List.toArray [26, 3])⟩ false)⟩, ⟨(some 47), none, (.pur ⟨(some 47), (.field 24 (.tmp 46) 1), 3, "", (List.toArray []), none⟩)⟩, ⟨(some 48), none, (.lda (.tmp 4) 13)⟩, ⟨(some 49), none, (.addo (.tmp 4) 0)⟩, ⟨(some 50), none, (.ld (.tmp 49) 1)⟩, ⟨(some 51), none, (.mov (.tmp 11))⟩, ⟨(some 52), none, (.idx (.tmp 50) (.tmp 51) 2)⟩, ⟨(some 53), none, (.addo (.tmp 52) 0)⟩, ⟨(some 54), none, (.ld (.tmp 53) 1)⟩, ⟨(some 55), none, (.call ⟨(.value (.func 67)), (List.toArray [(.tmp 48), (.tmp 54)]), (List.toArray [26, 3])⟩ true)⟩, ⟨(some 56), none, (.pur ⟨(some 56), (.field 24 (.tmp 55) 0), 3, "", (List.toArray []), none⟩)⟩, ⟨(some 13), none, (.mov (.tmp 47))⟩, ⟨(some 14), none, (.mov (.tmp 56))⟩] [524287, 131071, 130815, 65279, 31744, 15360, 7168, 0, 1024, 0, 0, 255, 127, 62, 30, 14, 0, 2, 0, 0])
  (.seq (.dreg [⟨(some 57), none, (.addo (.tmp 4) 8)⟩, ⟨(some 58), none, (.ld (.tmp 57) 1)⟩, ⟨(some 59), none, (.addo (.tmp 10) 0)⟩, ⟨(some 60), none, (.ld (.tmp 59) 1)⟩, ⟨(some 61), none, (.addo (.tmp 4) 1)⟩, ⟨(some 62), none, (.ld (.tmp 61) 1)⟩, ⟨(some 63), none, (.mov (.tmp 11))⟩, ⟨(some 64), none, (.idx (.tmp 62) (.tmp 63) 2)⟩, ⟨(some 65), none, (.addo (.tmp 64) 0)⟩, ⟨(some 66), none, (.ld (.tmp 65) 1)⟩, ⟨(some 67), none, (.ari .add (.tmp 60) (.tmp 66))⟩, ⟨(some 68), none, (.mov (.tmp 13))⟩, ⟨(some 69), none, (.ari .sub (.tmp 67) (.tmp 68))⟩, ⟨(some 70), none, (.mm false (.const (.int .i64 0)) (.tmp 69))⟩, ⟨(some 71), none, (.mm true (.tmp 58) (.tmp 70))⟩, ⟨(some 72), none, (.addo (.tmp 4) 8)⟩, ⟨(some 73), none, (.ld (.tmp 72) 1)⟩, ⟨(some 74), none, (.addo (.tmp 10) 1)⟩, ⟨(some 75), none, (.ld (.tmp 74) 1)⟩, ⟨(some 76), none, (.addo (.tmp 4) 1)⟩, ⟨(some 77), none, (.ld (.tmp 76) 1)⟩, ⟨(some 78), none, (.mov (.tmp 11))⟩, ⟨(some 79), none, (.idx (.tmp 77) (.tmp 78) 2)⟩, ⟨(some 80), none, (.addo (.tmp 79) 1)⟩, ⟨(some 81), none, (.ld (.tmp 80) 1)⟩, ⟨(some 82), none, (.ari .add (.tmp 75) (.tmp 81))⟩, ⟨(some 83), none, (.mov (.tmp 14))⟩, ⟨(some 84), none, (.ari .sub (.tmp 82) (.tmp 83))⟩, ⟨(some 85), none, (.mm false (.const (.int .i64 0)) (.tmp 84))⟩, ⟨(some 86), none, (.mm true (.tmp 73) (.tmp 85))⟩, ⟨(some 87), none, (.pur ⟨(some 87), (.build 24 (List.toArray [(0, (.tmp 71)), (1, (.tmp 86))])), 24, "", (List.toArray []), none⟩)⟩, ⟨none, none, (.sta (.tmp 10) (.tmp 87) 2)⟩] [2147483647, 1073741823, 536838144, 268304384, 134086656, 0, 33423360, 16252928, 7864320, 3670016, 0, 524288, 0, 131072, 0, 32768, 0, 16383, 8188, 4092, 0, 1020, 496, 240, 112, 0, 16, 0, 4, 0, 1, 0])
  (.reg [⟨(some 88), none, (.mov (.tmp 9))⟩, ⟨(some 89), none, (.lda (.tmp 10) 2)⟩, ⟨(some 90), none, (.mem ⟨(some 90), (.buildSlice 22 1 (List.toArray [(0, (.tmp 89))])), 22, "", (List.toArray []), none⟩)⟩, ⟨(some 91), none, (.mem ⟨(some 91), (.call ⟨(.builtin .append), (List.toArray [(.tmp 88), (.tmp 90)]), (List.toArray [22, 22])⟩), 22, "", (List.toArray []), none⟩)⟩, ⟨(some 9), none, (.mov (.tmp 91))⟩])))))
  (.reg [⟨(some 23), none, (.mov (.tmp 11))⟩, ⟨(some 24), none, (.ari .add (.tmp 23) (.const (.int .i64 1)))⟩, ⟨(some 11), none, (.mov (.tmp 24))⟩])))
theorem L43x1 : low Try.prog Try.f43.ntmps (at_ Try.f43 [1, 1, 1, 0, 1, 0, 0]) = some R43x1 := by kernel_rfl
theorem E43_2 : at_ Try.f43 [1, 1, 1, 0, 1, 0, 0, 1, 0, 0, 0, 1, 0] = .loop (at_ Try.f43 [1, 1, 1, 0, 1, 0, 0, 1, 0, 0, 0, 1, 0, 0]) := by kernel_rfl
noncomputable def R43x2 : RC := (.seq (.seq (.reg [⟨(some 25), none, (.mov (.tmp 12))⟩, ⟨(some 26), none, (.mov (.tmp 3))⟩, ⟨(some 27), none, (.len (.tmp 26))⟩, ⟨(some 28), none, (.cmp .lss (.tmp 25) (.tmp 27))⟩])
  (.cond (.tmp 28) .skip
  (.exit 2)))
  (.seq (.block 3 (.seq (.reg [⟨(some 31), none, (.mov (.tmp 3))⟩, ⟨(some 32), none, (.mov (.tmp 12))⟩, ⟨(some 33), none, (.idx (.tmp 31) (.tmp 32) 1)⟩, ⟨(some 34), none, (.ld (.tmp 33) 1)⟩, ⟨(some 35), none, (.mov (.tmp 11))⟩, ⟨(some 36), none, (.cmp .eql (.tmp 34) (.tmp 35))⟩])
  (.cond (.tmp 36) (.reg [⟨(some 37), none, (.addo (.tmp 4) 6)⟩, ⟨(some 38), none, (.lda (.tmp 37) 2)⟩, ⟨none, none, (.sta (.tmp 10) (.tmp 38) 2)⟩])
  .skip)))
  (.reg [⟨(some 29), none, (.mov (.tmp 12))⟩, ⟨(some 30), none, (.ari .add (.tmp 29) (.const (.int .i64 1)))⟩, ⟨(some 12), none, (.mov (.tmp 30))⟩])))
theorem L43x2 : low Try.prog Try.f43.ntmps (at_ Try.f43 [1, 1, 1, 0, 1, 0, 0, 1, 0, 0, 0, 1, 0, 0]) = some R43x2 := by kernel_rfl
theorem N45 : Try.f45.ntmps = 70 := by kernel_rfl
theorem Z45 : Try.f45.results.toList = ((List.toArray [(.tmp 8), (.tmp 9)]) : Array ResultVar).toList := by kernel_rfl
theorem B45 : Try.f45.body = some (at_ Try.f45 []) := by kernel_rfl
noncomputable def R45 : RC := (.seq (.reg [⟨(some 4), none, (.box 26 (.tmp 0))⟩, ⟨(some 8), none, (.mov (.const (.int .i64 0)))⟩, ⟨(some 9), none, (.mov (.const (.int .i64 0)))⟩])
  (.seq (.reg [⟨(some 15), none, (.lda (.tmp 4) 13)⟩, ⟨(some 16), none, (.mov (.tmp 1))⟩, ⟨(some 17), none, (.mov (.tmp 2))⟩, ⟨(some 18), none, (.call ⟨(.value (.func 40)), (List.toArray [(.tmp 15), (.tmp 16), (.tmp 17)]), (List.toArray [26, 3, 3])⟩ true)⟩, ⟨(some 10), none, (.alc 24 [(.int .i64 0), (.int .i64 0)])⟩, ⟨none, none, (.sta (.tmp 10) (.tmp 18) 2)⟩])
  (.seq (.reg [⟨(some 11), none, (.mov (.const (.int .i64 0)))⟩, ⟨(some 12), none, (.mov (.const (.int .i64 0)))⟩])
  (.seq (.reg [⟨(some 19), none, (.lda (.tmp 4) 13)⟩, ⟨(some 20), none, (.mov (.tmp 1))⟩, ⟨(some 21), none, (.mov (.tmp 2))⟩, ⟨(some 22), none, (.mov (.tmp 3))⟩, ⟨(some 23), none, (.call ⟨(.value (.func 43)), (List.toArray [(.tmp 19), (.tmp 20), (.tmp 21), (.tmp 22)]), (List.toArray [26, 3, 3, 27])⟩ true)⟩, ⟨(some 13), none, (.mov (.tmp 23))⟩])
  (.seq (.seq (.reg [⟨(some 14), none, (.mov (.const (.int .i64 0)))⟩])
  (.block 0 (.other (at_ Try.f45 [1, 1, 1, 1, 0, 1, 0]))))
  (.seq (.dreg [⟨(some 50), none, (.addo (.tmp 10) 1)⟩, ⟨(some 51), none, (.ld (.tmp 50) 1)⟩, ⟨(some 52), none, (.addo (.tmp 4) 10)⟩, ⟨(some 53), none, (.ld (.tmp 52) 1)⟩, ⟨(some 54), none, (.cmp .geq (.tmp 51) (.tmp 53))⟩, ⟨(some 55), none, (.addo (.tmp 10) 0)⟩, ⟨(some 56), none, (.ld (.tmp 55) 1)⟩, ⟨(some 57), none, (.addo (.tmp 4) 10)⟩, ⟨(some 58), none, (.ld (.tmp 57) 1)⟩, ⟨(some 59), none, (.cmp .geq (.tmp 56) (.tmp 58))⟩, ⟨(some 60), none, (.call ⟨(.value (.func 68)), (List.toArray [(.tmp 54), (.tmp 59)]), (List.toArray [4, 4])⟩ false)⟩, ⟨(some 61), none, (.mov (.tmp 12))⟩, ⟨(some 62), none, (.addo (.tmp 4) 12)⟩, ⟨(some 63), none, (.ld (.tmp 62) 1)⟩, ⟨(some 64), none, (.cmp .gtr (.tmp 61) (.tmp 63))⟩, ⟨(some 65), none, (.mov (.tmp 11))⟩, ⟨(some 66), none, (.addo (.tmp 4) 12)⟩, ⟨(some 67), none, (.ld (.tmp 66) 1)⟩, ⟨(some 68), none, (.cmp .gtr (.tmp 65) (.tmp 67))⟩, ⟨(some 69), none, (.call ⟨(.value (.func 68)), (List.toArray [(.tmp 64), (.tmp 68)]), (List.toArray [4, 4])⟩ true)⟩, ⟨(some 8), none, (.mov (.tmp 60))⟩, ⟨(some 9), none, (.mov (.tmp 69))⟩] [2097151, 1048575, 524287, 229376, 65536, 0, 0, 14336, 4096, 0, 0, 1023, 480, 128, 0, 32, 0, 15, 4, 0, 1, 0])
  .ret))))))
theorem L45 : low Try.prog Try.f45.ntmps (at_ Try.f45 []) = some R45 := by kernel_rfl
theorem E45_1 : at_ Try.f45 [1, 1, 1, 1, 0, 1, 0] = .loop (at_ Try.f45 [1, 1, 1, 1, 0, 1, 0, 0]) := by kernel_rfl
noncomputable def R45x1 : RC := (.seq (.seq (.reg [⟨(some 24), none, (.mov (.tmp 14))⟩, ⟨(some 25), none, (.mov (.tmp 13))⟩, ⟨(some 26), none, (.len (.tmp 25))⟩, ⟨(some 27), none, (.cmp .lss (.tmp 24) (.tmp 26))⟩])
  (.cond (.tmp 27) .skip
  (.exit 0)))
  (.seq (.block 1 (.seq (.seq (.dreg [⟨(some 30), none, (.mov (.tmp 13))⟩, ⟨(some 31), none, (.mov (.tmp 14))⟩, ⟨(some 32), none, (.idx (.tmp 30) (.tmp 31) 2)⟩, ⟨(some 33), none, (.addo (.tmp 32) 0)⟩, ⟨(some 34), none, (.ld (.tmp 33) 1)⟩, ⟨(some 35), none, (.addo (.tmp 4) 11)⟩, ⟨(some 36), none, (.ld (.tmp 35) 1)⟩, ⟨(some 37), none, (.cmp .lss (.tmp 34) (.tmp 36))⟩] [127, 32, 0, 15, 7, 3, 0, 0])
  (.cond (.tmp 37) (.reg [⟨(some 38), none, (.mov (.tmp 12))⟩, ⟨(some 39), none, (.ari .add (.tmp 38) (.const (.int .i64 1)))⟩, ⟨(some 12), none, (.mov (.tmp 39))⟩])
  .skip))
  (.seq (.dreg [⟨(some 40), none, (.mov (.tmp 13))⟩, ⟨(some 41), none, (.mov (.tmp 14))⟩, ⟨(some 42), none, (.idx (.tmp 40) (.tmp 41) 2)⟩, ⟨(some 43), none, (.addo (.tmp 42) 1)⟩, ⟨(some 44), none, (.ld (.tmp 43) 1)⟩, ⟨(some 45), none, (.addo (.tmp 4) 11)⟩, ⟨(some 46), none, (.ld (.tmp 45) 1)⟩, ⟨(some 47), none, (.cmp .lss (.tmp 44) (.tmp 46))⟩] [127, 32, 0, 15, 7, 3, 0, 0])
  (.cond (.tmp 47) (.reg [⟨(some 48), none, (.mov (.tmp 11))⟩, ⟨(some 49), none, (.ari .add (.tmp 48) (.const (.int .i64 1)))⟩, ⟨(some 11), none, (.mov (.tmp 49))⟩])
  .skip))))
  (.reg [⟨(some 28), none, (.mov (.tmp 14))⟩, ⟨(some 29), none, (.ari .add (.tmp 28) (.const (.int .i64 1)))⟩, ⟨(some 14), none, (.mov (.tmp 29))⟩])))
theorem L45x1 : low Try.prog Try.f45.ntmps (at_ Try.f45 [1, 1, 1, 1, 0, 1, 0, 0]) = some R45x1 := by kernel_rfl
theorem N67 : Try.f67.ntmps = 19 := by kernel_rfl
theorem Z67 : Try.f67.results.toList = ((List.toArray [(.cell 4 24)]) : Array ResultVar).toList := by kernel_rfl
theorem B67 : Try.f67.body = some (at_ Try.f67 []) := by kernel_rfl
noncomputable def R67 : RC := (.seq (.reg [⟨(some 2), none, (.box 26 (.tmp 0))⟩, ⟨(some 4), none, (.alc 24 [(.int .i64 0), (.int .i64 0)])⟩])
  (.seq (.reg [⟨(some 5), none, (.addo (.tmp 2) 2)⟩, ⟨(some 6), none, (.addo (.tmp 5) 0)⟩, ⟨(some 7), none, (.ld (.tmp 6) 1)⟩, ⟨(some 8), none, (.mov (.tmp 1))⟩, ⟨(some 9), none, (.ari .mul (.tmp 7) (.tmp 8))⟩, ⟨(some 10), none, (.ari .quo (.tmp 9) (.const (.int .i64 100)))⟩, ⟨(some 11), none, (.addo (.tmp 2) 2)⟩, ⟨(some 12), none, (.addo (.tmp 11) 1)⟩, ⟨(some 13), none, (.ld (.tmp 12) 1)⟩, ⟨(some 14), none, (.mov (.tmp 1))⟩, ⟨(some 15), none, (.ari .mul (.tmp 13) (.tmp 14))⟩, ⟨(some 16), none, (.ari .add (.tmp 15) (.const (.int .i64 99)))⟩, ⟨(some 17), none, (.ari .quo (.tmp 16) (.const (.int .i64 100)))⟩, ⟨(some 18), none, (.pur ⟨(some 18), (.build 24 (List.toArray [(0, (.tmp 10)), (1, (.tmp 17))])), 24, "", (List.toArray []), none⟩)⟩, ⟨none, none, (.sta (.tmp 4) (.tmp 18) 2)⟩])
  .ret))
theorem L67 : low Try.prog Try.f67.ntmps (at_ Try.f67 []) = some R67 := by kernel_rfl
theorem N68 : Try.f68.ntmps = 7 := by kernel_rfl
theorem Z68 : Try.f68.results.toList = ((List.toArray [(.tmp 4)]) : Array ResultVar).toList := by kernel_rfl
theorem B68 : Try.f68.body = some (at_ Try.f68 []) := by kernel_rfl
noncomputable def R68 : RC := (.seq (.reg [⟨(some 4), none, (.mov (.const (.int .i64 0)))⟩])
  (.seq (.seq (.reg [⟨(some 5), none, (.mov (.tmp 1))⟩])
  (.cond (.tmp 5) (.seq (.reg [⟨(some 4), none, (.mov (.const (.int .i64 2)))⟩])
  .ret)
  .skip))
  (.seq (.seq (.reg [⟨(some 6), none, (.mov (.tmp 0))⟩])
  (.cond (.tmp 6) (.seq (.reg [⟨(some 4), none, (.mov (.const (.int .i64 1)))⟩])
  .ret)
  .skip))
  (.seq (.reg [⟨(some 4), none, (.mov (.const (.int .i64 0)))⟩])
  .ret))))
theorem L68 : low Try.prog Try.f68.ntmps (at_ Try.f68 []) = some R68 := by kernel_rfl
end Go.Ax

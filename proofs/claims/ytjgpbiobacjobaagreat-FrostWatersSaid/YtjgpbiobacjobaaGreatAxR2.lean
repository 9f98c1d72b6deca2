import Derived.Test.YtjgpbiobacjobaaGreatAxW4
import Derived.Test.YtjgpbiobacjobaaGreatChecked
set_option linter.all false
/-! What 'low' makes of the functions (written by program). -/
namespace Go.Ax
open Go Go.RowKit Go.Proofs
theorem N5 : Tryz.f5.ntmps = 82 := by kernel_rfl
theorem Z5 : Tryz.f5.results.toList = ((List.toArray [(.tmp 16)]) : Array ResultVar).toList := by kernel_rfl
theorem B5 : Tryz.f5.body = some (at_ Tryz.f5 []) := by kernel_rfl
noncomputable def R5 : RC := (.seq (.reg [⟨(some 9), none, (.box 48 (.tmp 1))⟩, ⟨(some 16), none, (.mov (.const (.bool false)))⟩])
  (.seq (.seq (.reg [⟨(some 25), none, (.mov (.tmp 7))⟩, ⟨(some 26), none, (.len (.tmp 25))⟩, ⟨(some 27), none, (.cmp .gtr (.tmp 26) (.const (.int .i64 80)))⟩])
  (.cond (.tmp 27) (.seq (.reg [⟨(some 28), none, (.call ⟨(.value (.func 16)), (List.toArray []), (List.toArray [])⟩ true)⟩, ⟨(some 16), none, (.mov (.tmp 28))⟩])
  .ret)
  .skip))
  (.seq (.reg [⟨(some 30), none, (.mov (.tmp 0))⟩, ⟨(some 31), none, (.lda (.tmp 9) 2)⟩, ⟨(some 32), none, (.mov (.tmp 2))⟩, ⟨(some 33), none, (.mov (.tmp 3))⟩, ⟨(some 34), none, (.call ⟨(.value (.func 27)), (List.toArray [(.tmp 30), (.tmp 31), (.tmp 32), (.tmp 33)]), (List.toArray [3, 48, 3, 3])⟩ true)⟩, ⟨(some 29), none, (.mov (.tmp 34))⟩, ⟨(some 35), none, (.pur ⟨(some 35), (.extract (.tmp 29) 0), 3, "", (List.toArray []), none⟩)⟩, ⟨(some 36), none, (.pur ⟨(some 36), (.extract (.tmp 29) 1), 28, "", (List.toArray []), none⟩)⟩, ⟨(some 17), none, (.mov (.tmp 35))⟩, ⟨(some 18), none, (.mov (.tmp 36))⟩])
  (.seq (.reg [⟨(some 38), none, (.mov (.tmp 0))⟩, ⟨(some 39), none, (.lda (.tmp 9) 2)⟩, ⟨(some 40), none, (.mov (.tmp 2))⟩, ⟨(some 41), none, (.mov (.tmp 3))⟩, ⟨(some 42), none, (.call ⟨(.value (.func 28)), (List.toArray [(.tmp 38), (.tmp 39), (.tmp 40), (.tmp 41)]), (List.toArray [3, 48, 3, 3])⟩ true)⟩, ⟨(some 37), none, (.mov (.tmp 42))⟩, ⟨(some 43), none, (.pur ⟨(some 43), (.extract (.tmp 37) 0), 3, "", (List.toArray []), none⟩)⟩, ⟨(some 44), none, (.pur ⟨(some 44), (.extract (.tmp 37) 1), 28, "", (List.toArray []), none⟩)⟩, ⟨(some 19), none, (.mov (.tmp 43))⟩, ⟨(some 20), none, (.mov (.tmp 44))⟩])
  (.seq (.reg [⟨(some 46), none, (.mov (.tmp 4))⟩, ⟨(some 47), none, (.mov (.tmp 5))⟩, ⟨(some 48), none, (.mov (.tmp 6))⟩, ⟨(some 49), none, (.mov (.tmp 7))⟩, ⟨(some 50), none, (.call ⟨(.value (.func 29)), (List.toArray [(.tmp 46), (.tmp 47), (.tmp 48), (.tmp 49)]), (List.toArray [3, 3, 3, 36])⟩ true)⟩, ⟨(some 45), none, (.mov (.tmp 50))⟩, ⟨(some 51), none, (.pur ⟨(some 51), (.extract (.tmp 45) 0), 3, "", (List.toArray []), none⟩)⟩, ⟨(some 52), none, (.pur ⟨(some 52), (.extract (.tmp 45) 1), 28, "", (List.toArray []), none⟩)⟩, ⟨(some 21), none, (.mov (.tmp 51))⟩, ⟨(some 22), none, (.mov (.tmp 52))⟩])
  (.seq (.reg [⟨(some 54), none, (.mov (.tmp 4))⟩, ⟨(some 55), none, (.mov (.tmp 5))⟩, ⟨(some 56), none, (.mov (.tmp 6))⟩, ⟨(some 57), none, (.mov (.tmp 7))⟩, ⟨(some 58), none, (.call ⟨(.value (.func 30)), (List.toArray [(.tmp 54), (.tmp 55), (.tmp 56), (.tmp 57)]), (List.toArray [3, 3, 3, 36])⟩ true)⟩, ⟨(some 53), none, (.mov (.tmp 58))⟩, ⟨(some 59), none, (.pur ⟨(some 59), (.extract (.tmp 53) 0), 3, "", (List.toArray []), none⟩)⟩, ⟨(some 60), none, (.pur ⟨(some 60), (.extract (.tmp 53) 1), 28, "", (List.toArray []), none⟩)⟩, ⟨(some 23), none, (.mov (.tmp 59))⟩, ⟨(some 24), none, (.mov (.tmp 60))⟩])
  (.seq (.reg [⟨(some 61), none, (.mov (.tmp 17))⟩, ⟨(some 62), none, (.mov (.tmp 19))⟩, ⟨(some 63), none, (.cmpb .eql (.tmp 61) (.tmp 62))⟩, ⟨(some 64), none, (.mov (.tmp 63))⟩, ⟨(some 65), (some (64, true)), (.mov (.tmp 18))⟩, ⟨(some 66), (some (64, true)), (.mov (.tmp 20))⟩, ⟨(some 67), (some (64, true)), (.cmpb .eql (.tmp 65) (.tmp 66))⟩, ⟨(some 68), none, (.pur ⟨(some 68), (.pick (.tmp 64) (.tmp 67) (.const (.bool false))), 4, "", (List.toArray []), none⟩)⟩, ⟨(some 69), none, (.mov (.tmp 68))⟩, ⟨(some 70), (some (69, true)), (.mov (.tmp 21))⟩, ⟨(some 71), (some (69, true)), (.mov (.tmp 23))⟩, ⟨(some 72), (some (69, true)), (.cmpb .eql (.tmp 70) (.tmp 71))⟩, ⟨(some 73), none, (.pur ⟨(some 73), (.pick (.tmp 69) (.tmp 72) (.const (.bool false))), 4, "", (List.toArray []), none⟩)⟩, ⟨(some 74), none, (.mov (.tmp 73))⟩, ⟨(some 75), (some (74, true)), (.mov (.tmp 22))⟩, ⟨(some 76), (some (74, true)), (.mov (.tmp 24))⟩, ⟨(some 77), (some (74, true)), (.cmpb .eql (.tmp 75) (.tmp 76))⟩, ⟨(some 78), none, (.pur ⟨(some 78), (.pick (.tmp 74) (.tmp 77) (.const (.bool false))), 4, "", (List.toArray []), none⟩)⟩, ⟨(some 79), none, (.mov (.tmp 78))⟩, ⟨(some 80), (some (79, true)), (.call ⟨(.value (.func 16)), (List.toArray []), (List.toArray [])⟩ true)⟩, ⟨(some 81), none, (.pur ⟨(some 81), (.pick (.tmp 79) (.tmp 80) (.const (.bool false))), 4, "", (List.toArray []), none⟩)⟩, ⟨(some 16), none, (.mov (.tmp 81))⟩])
  .ret)))))))
theorem L5 : low Tryz.prog Tryz.f5.ntmps (at_ Tryz.f5 []) = some R5 := by kernel_rfl
theorem N27 : Tryz.f27.ntmps = 38 := by kernel_rfl
theorem Z27 : Tryz.f27.results.toList = ((List.toArray [(.tmp 8), (.tmp 9)]) : Array ResultVar).toList := by kernel_rfl
theorem B27 : Tryz.f27.body = some (at_ Tryz.f27 []) := by kernel_rfl
noncomputable def R27 : RC := (.seq (.reg [⟨(some 5), none, (.box 48 (.tmp 1))⟩, ⟨(some 8), none, (.mov (.const (.int .i64 0)))⟩, ⟨(some 9), none, (.mov (.const (.int .i64 0)))⟩])
  (.seq (.reg [⟨(some 11), none, (.mov (.tmp 0))⟩, ⟨(some 12), none, (.call ⟨(.value (.func 58)), (List.toArray [(.tmp 11)]), (List.toArray [3])⟩ true)⟩, ⟨(some 13), none, (.mov (.tmp 12))⟩, ⟨(some 14), (some (13, true)), (.lda (.tmp 5) 2)⟩, ⟨(some 15), (some (13, true)), (.call ⟨(.value (.func 59)), (List.toArray [(.tmp 14), (.const (.int .i64 (-1000))), (.const (.int .i64 1000))]), (List.toArray [48, 3, 3])⟩ true)⟩, ⟨(some 16), none, (.pur ⟨(some 16), (.pick (.tmp 13) (.tmp 15) (.const (.bool false))), 4, "", (List.toArray []), none⟩)⟩, ⟨(some 10), none, (.mov (.tmp 16))⟩])
  (.seq (.seq (.reg [⟨(some 17), none, (.mov (.tmp 10))⟩, ⟨(some 18), none, (.pur ⟨(some 18), (.unOp .not 4 (.tmp 17)), 4, "", (List.toArray []), none⟩)⟩, ⟨(some 19), none, (.mov (.tmp 18))⟩, ⟨(some 20), (some (19, false)), (.mov (.tmp 2))⟩, ⟨(some 21), (some (19, false)), (.call ⟨(.value (.func 42)), (List.toArray [(.tmp 20), (.const (.int .i64 0)), (.const (.int .i64 1000))]), (List.toArray [3, 3, 3])⟩ true)⟩, ⟨(some 22), (some (19, false)), (.pur ⟨(some 22), (.unOp .not 4 (.tmp 21)), 4, "", (List.toArray []), none⟩)⟩, ⟨(some 23), none, (.pur ⟨(some 23), (.pick (.tmp 19) (.const (.bool true)) (.tmp 22)), 4, "", (List.toArray []), none⟩)⟩, ⟨(some 24), none, (.mov (.tmp 23))⟩, ⟨(some 25), (some (24, false)), (.mov (.tmp 3))⟩, ⟨(some 26), (some (24, false)), (.call ⟨(.value (.func 42)), (List.toArray [(.tmp 25), (.const (.int .i64 0)), (.const (.int .i64 96))]), (List.toArray [3, 3, 3])⟩ true)⟩, ⟨(some 27), (some (24, false)), (.pur ⟨(some 27), (.unOp .not 4 (.tmp 26)), 4, "", (List.toArray []), none⟩)⟩, ⟨(some 28), none, (.pur ⟨(some 28), (.pick (.tmp 24) (.const (.bool true)) (.tmp 27)), 4, "", (List.toArray []), none⟩)⟩])
  (.cond (.tmp 28) (.seq (.reg [⟨(some 8), none, (.mov (.const (.int .i64 0)))⟩, ⟨(some 9), none, (.mov (.const (.int .i64 2)))⟩])
  .ret)
  .skip))
  (.seq (.reg [⟨(some 29), none, (.mov (.tmp 0))⟩, ⟨(some 30), none, (.ari .add (.tmp 29) (.const (.int .i64 1)))⟩, ⟨(some 31), none, (.addo (.tmp 5) 1)⟩, ⟨(some 32), none, (.ld (.tmp 31) 1)⟩, ⟨(some 33), none, (.ari .add (.tmp 30) (.tmp 32))⟩, ⟨(some 34), none, (.mov (.tmp 3))⟩, ⟨(some 35), none, (.mov (.tmp 2))⟩, ⟨(some 36), none, (.ari .mul (.tmp 34) (.tmp 35))⟩, ⟨(some 37), none, (.ari .add (.tmp 33) (.tmp 36))⟩, ⟨(some 8), none, (.mov (.tmp 37))⟩, ⟨(some 9), none, (.mov (.const (.int .i64 0)))⟩])
  .ret))))
theorem L27 : low Tryz.prog Tryz.f27.ntmps (at_ Tryz.f27 []) = some R27 := by kernel_rfl
theorem N28 : Tryz.f28.ntmps = 37 := by kernel_rfl
theorem Z28 : Tryz.f28.results.toList = ((List.toArray [(.tmp 8), (.tmp 9)]) : Array ResultVar).toList := by kernel_rfl
theorem B28 : Tryz.f28.body = some (at_ Tryz.f28 []) := by kernel_rfl
noncomputable def R28 : RC := (.seq (.reg [⟨(some 5), none, (.box 48 (.tmp 1))⟩, ⟨(some 8), none, (.mov (.const (.int .i64 0)))⟩, ⟨(some 9), none, (.mov (.const (.int .i64 0)))⟩])
  (.seq (.seq (.reg [⟨(some 10), none, (.mov (.tmp 0))⟩, ⟨(some 11), none, (.call ⟨(.value (.func 45)), (List.toArray [(.tmp 10), (.const (.int .i64 (-5000))), (.const (.int .i64 5000))]), (List.toArray [3, 3, 3])⟩ true)⟩, ⟨(some 12), none, (.pur ⟨(some 12), (.unOp .not 4 (.tmp 11)), 4, "", (List.toArray []), none⟩)⟩, ⟨(some 13), none, (.mov (.tmp 12))⟩, ⟨(some 14), (some (13, false)), (.lda (.tmp 5) 2)⟩, ⟨(some 15), (some (13, false)), (.call ⟨(.value (.func 60)), (List.toArray [(.tmp 14), (.const (.int .i64 (-1000))), (.const (.int .i64 1000))]), (List.toArray [48, 3, 3])⟩ true)⟩, ⟨(some 16), (some (13, false)), (.pur ⟨(some 16), (.unOp .not 4 (.tmp 15)), 4, "", (List.toArray []), none⟩)⟩, ⟨(some 17), none, (.pur ⟨(some 17), (.pick (.tmp 13) (.const (.bool true)) (.tmp 16)), 4, "", (List.toArray []), none⟩)⟩, ⟨(some 18), none, (.mov (.tmp 17))⟩, ⟨(some 19), (some (18, false)), (.mov (.tmp 2))⟩, ⟨(some 20), (some (18, false)), (.call ⟨(.value (.func 45)), (List.toArray [(.tmp 19), (.const (.int .i64 0)), (.const (.int .i64 1000))]), (List.toArray [3, 3, 3])⟩ true)⟩, ⟨(some 21), (some (18, false)), (.pur ⟨(some 21), (.unOp .not 4 (.tmp 20)), 4, "", (List.toArray []), none⟩)⟩, ⟨(some 22), none, (.pur ⟨(some 22), (.pick (.tmp 18) (.const (.bool true)) (.tmp 21)), 4, "", (List.toArray []), none⟩)⟩, ⟨(some 23), none, (.mov (.tmp 22))⟩, ⟨(some 24), (some (23, false)), (.mov (.tmp 3))⟩, ⟨(some 25), (some (23, false)), (.call ⟨(.value (.func 45)), (List.toArray [(.tmp 24), (.const (.int .i64 0)), (.const (.int .i64 96))]), (List.toArray [3, 3, 3])⟩ true)⟩, ⟨(some 26), (some (23, false)), (.pur ⟨(some 26), (.unOp .not 4 (.tmp 25)), 4, "", (List.toArray []), none⟩)⟩, ⟨(some 27), none, (.pur ⟨(some 27), (.pick (.tmp 23) (.const (.bool true)) (.tmp 26)), 4, "", (List.toArray []), none⟩)⟩])
  (.cond (.tmp 27) (.seq (.reg [⟨(some 8), none, (.mov (.const (.int .i64 0)))⟩, ⟨(some 9), none, (.mov (.const (.int .i64 2)))⟩])
  .ret)
  .skip))
  (.seq (.reg [⟨(some 28), none, (.mov (.tmp 0))⟩, ⟨(some 29), none, (.ari .add (.tmp 28) (.const (.int .i64 1)))⟩, ⟨(some 30), none, (.addo (.tmp 5) 1)⟩, ⟨(some 31), none, (.ld (.tmp 30) 1)⟩, ⟨(some 32), none, (.ari .add (.tmp 29) (.tmp 31))⟩, ⟨(some 33), none, (.mov (.tmp 2))⟩, ⟨(some 34), none, (.mov (.tmp 3))⟩, ⟨(some 35), none, (.ari .mul (.tmp 33) (.tmp 34))⟩, ⟨(some 36), none, (.ari .add (.tmp 32) (.tmp 35))⟩, ⟨(some 8), none, (.mov (.tmp 36))⟩, ⟨(some 9), none, (.mov (.const (.int .i64 0)))⟩])
  .ret)))
theorem L28 : low Tryz.prog Tryz.f28.ntmps (at_ Tryz.f28 []) = some R28 := by kernel_rfl
theorem N30 : Tryz.f30.ntmps = 64 := by kernel_rfl
theorem Z30 : Tryz.f30.results.toList = ((List.toArray [(.tmp 8), (.tmp 9)]) : Array ResultVar).toList := by kernel_rfl
theorem B30 : Tryz.f30.body = some (at_ Tryz.f30 []) := by kernel_rfl
noncomputable def R30 : RC := (.seq (.reg [⟨(some 8), none, (.mov (.const (.int .i64 0)))⟩, ⟨(some 9), none, (.mov (.const (.int .i64 0)))⟩])
  (.seq (.seq (.reg [⟨(some 12), none, (.mov (.tmp 3))⟩, ⟨(some 13), none, (.len (.tmp 12))⟩, ⟨(some 14), none, (.cmp .gtr (.tmp 13) (.const (.int .i64 64)))⟩])
  (.cond (.tmp 14) (.seq (.reg [⟨(some 8), none, (.mov (.const (.int .i64 0)))⟩, ⟨(some 9), none, (.mov (.const (.int .i64 3)))⟩])
  .ret)
  .skip))
  (.seq (.seq (.reg [⟨(some 15), none, (.mov (.tmp 1))⟩, ⟨(some 16), none, (.call ⟨(.value (.func 45)), (List.toArray [(.tmp 15), (.const (.int .i64 0)), (.const (.int .i64 1099511627776))]), (List.toArray [3, 3, 3])⟩ true)⟩, ⟨(some 17), none, (.pur ⟨(some 17), (.unOp .not 4 (.tmp 16)), 4, "", (List.toArray []), none⟩)⟩, ⟨(some 18), none, (.mov (.tmp 17))⟩, ⟨(some 19), (some (18, false)), (.mov (.tmp 0))⟩, ⟨(some 20), (some (18, false)), (.mov (.tmp 1))⟩, ⟨(some 21), (some (18, false)), (.call ⟨(.value (.func 45)), (List.toArray [(.tmp 19), (.const (.int .i64 0)), (.tmp 20)]), (List.toArray [3, 3, 3])⟩ true)⟩, ⟨(some 22), (some (18, false)), (.pur ⟨(some 22), (.unOp .not 4 (.tmp 21)), 4, "", (List.toArray []), none⟩)⟩, ⟨(some 23), none, (.pur ⟨(some 23), (.pick (.tmp 18) (.const (.bool true)) (.tmp 22)), 4, "", (List.toArray []), none⟩)⟩, ⟨(some 24), none, (.mov (.tmp 23))⟩, ⟨(some 25), (some (24, false)), (.mov (.tmp 2))⟩, ⟨(some 26), (some (24, false)), (.call ⟨(.value (.func 45)), (List.toArray [(.tmp 25), (.const (.int .i64 0)), (.const (.int .i64 1099511627776))]), (List.toArray [3, 3, 3])⟩ true)⟩, ⟨(some 27), (some (24, false)), (.pur ⟨(some 27), (.unOp .not 4 (.tmp 26)), 4, "", (List.toArray []), none⟩)⟩, ⟨(some 28), none, (.pur ⟨(some 28), (.pick (.tmp 24) (.const (.bool true)) (.tmp 27)), 4, "", (List.toArray []), none⟩)⟩])
  (.cond (.tmp 28) (.seq (.reg [⟨(some 8), none, (.mov (.const (.int .i64 0)))⟩, ⟨(some 9), none, (.mov (.const (.int .i64 2)))⟩])
  .ret)
  .skip))
  (.seq (.seq (.reg [⟨(some 10), none, (.mov (.const (.int .i64 0)))⟩])
  (.block 0 (.other (at_ Tryz.f30 [1, 1, 1, 0, 1, 0]))))
  (.seq (.seq (.reg [⟨(some 11), none, (.mov (.const (.int .i64 0)))⟩])
  (.block 2 (.other (at_ Tryz.f30 [1, 1, 1, 1, 0, 1, 0]))))
  (.seq (.reg [⟨(some 8), none, (.mov (.const (.int .i64 0)))⟩, ⟨(some 9), none, (.mov (.const (.int .i64 4)))⟩])
  .ret))))))
theorem L30 : low Tryz.prog Tryz.f30.ntmps (at_ Tryz.f30 []) = some R30 := by kernel_rfl
theorem E30_1 : at_ Tryz.f30 [1, 1, 1, 0, 1, 0] = .loop (at_ Tryz.f30 [1, 1, 1, 0, 1, 0, 0]) := by kernel_rfl
noncomputable def R30x1 : RC := (.seq (.seq (.reg [⟨(some 29), none, (.mov (.tmp 10))⟩, ⟨(some 30), none, (.mov (.tmp 3))⟩, ⟨(some 31), none, (.len (.tmp 30))⟩, ⟨(some 32), none, (.cmp .lss (.tmp 29) (.tmp 31))⟩])
  (.cond (.tmp 32) .skip
  (.exit 0)))
  (.seq (.block 1 (.seq (.reg [⟨(some 35), none, (.mov (.tmp 3))⟩, ⟨(some 36), none, (.mov (.tmp 10))⟩, ⟨(some 37), none, (.idx (.tmp 35) (.tmp 36) 1)⟩, ⟨(some 38), none, (.ld (.tmp 37) 1)⟩, ⟨(some 39), none, (.call ⟨(.value (.func 45)), (List.toArray [(.tmp 38), (.const (.int .i64 0)), (.const (.int .i64 1099511627776))]), (List.toArray [3, 3, 3])⟩ true)⟩, ⟨(some 40), none, (.pur ⟨(some 40), (.unOp .not 4 (.tmp 39)), 4, "", (List.toArray []), none⟩)⟩])
  (.cond (.tmp 40) (.seq (.reg [⟨(some 8), none, (.mov (.const (.int .i64 0)))⟩, ⟨(some 9), none, (.mov (.const (.int .i64 2)))⟩])
  .ret)
  .skip)))
  (.reg [⟨(some 33), none, (.mov (.tmp 10))⟩, ⟨(some 34), none, (.ari .add (.tmp 33) (.const (.int .i64 1)))⟩, ⟨(some 10), none, (.mov (.tmp 34))⟩])))
theorem L30x1 : low Tryz.prog Tryz.f30.ntmps (at_ Tryz.f30 [1, 1, 1, 0, 1, 0, 0]) = some R30x1 := by kernel_rfl
theorem E30_2 : at_ Tryz.f30 [1, 1, 1, 1, 0, 1, 0] = .loop (at_ Tryz.f30 [1, 1, 1, 1, 0, 1, 0, 0]) := by kernel_rfl
noncomputable def R30x2 : RC := (.seq (.seq (.reg [⟨(some 41), none, (.mov (.tmp 11))⟩, ⟨(some 42), none, (.mov (.tmp 3))⟩, ⟨(some 43), none, (.len (.tmp 42))⟩, ⟨(some 44), none, (.cmp .lss (.tmp 41) (.tmp 43))⟩])
  (.cond (.tmp 44) .skip
  (.exit 2)))
  (.seq (.block 3 (.seq (.seq (.reg [⟨(some 47), none, (.mov (.tmp 0))⟩, ⟨(some 48), none, (.mov (.tmp 3))⟩, ⟨(some 49), none, (.mov (.tmp 11))⟩, ⟨(some 50), none, (.idx (.tmp 48) (.tmp 49) 1)⟩, ⟨(some 51), none, (.ld (.tmp 50) 1)⟩, ⟨(some 52), none, (.cmp .lss (.tmp 47) (.tmp 51))⟩])
  (.cond (.tmp 52) (.seq (.reg [⟨(some 53), none, (.mov (.tmp 11))⟩, ⟨(some 8), none, (.mov (.tmp 53))⟩, ⟨(some 9), none, (.mov (.const (.int .i64 0)))⟩])
  .ret)
  .skip))
  (.reg [⟨(some 54), none, (.mov (.tmp 1))⟩, ⟨(some 55), none, (.mov (.tmp 0))⟩, ⟨(some 56), none, (.mov (.tmp 3))⟩, ⟨(some 57), none, (.mov (.tmp 11))⟩, ⟨(some 58), none, (.idx (.tmp 56) (.tmp 57) 1)⟩, ⟨(some 59), none, (.ld (.tmp 58) 1)⟩, ⟨(some 60), none, (.ari .sub (.tmp 55) (.tmp 59))⟩, ⟨(some 61), none, (.mov (.tmp 2))⟩, ⟨(some 62), none, (.ari .add (.tmp 60) (.tmp 61))⟩, ⟨(some 63), none, (.mm true (.tmp 54) (.tmp 62))⟩, ⟨(some 0), none, (.mov (.tmp 63))⟩])))
  (.reg [⟨(some 45), none, (.mov (.tmp 11))⟩, ⟨(some 46), none, (.ari .add (.tmp 45) (.const (.int .i64 1)))⟩, ⟨(some 11), none, (.mov (.tmp 46))⟩])))
theorem L30x2 : low Tryz.prog Tryz.f30.ntmps (at_ Tryz.f30 [1, 1, 1, 1, 0, 1, 0, 0]) = some R30x2 := by kernel_rfl
theorem N45 : Tryz.f45.ntmps = 15 := by kernel_rfl
theorem Z45 : Tryz.f45.results.toList = ((List.toArray [(.tmp 6)]) : Array ResultVar).toList := by kernel_rfl
theorem B45 : Tryz.f45.body = some (at_ Tryz.f45 []) := by kernel_rfl
noncomputable def R45 : RC := (.seq (.reg [⟨(some 6), none, (.mov (.const (.bool false)))⟩])
  (.seq (.reg [⟨(some 7), none, (.mov (.tmp 1))⟩, ⟨(some 8), none, (.mov (.tmp 0))⟩, ⟨(some 9), none, (.cmpb .leq (.tmp 7) (.tmp 8))⟩, ⟨(some 10), none, (.mov (.tmp 9))⟩, ⟨(some 11), (some (10, true)), (.mov (.tmp 0))⟩, ⟨(some 12), (some (10, true)), (.mov (.tmp 2))⟩, ⟨(some 13), (some (10, true)), (.cmpb .leq (.tmp 11) (.tmp 12))⟩, ⟨(some 14), none, (.pur ⟨(some 14), (.pick (.tmp 10) (.tmp 13) (.const (.bool false))), 4, "", (List.toArray []), none⟩)⟩, ⟨(some 6), none, (.mov (.tmp 14))⟩])
  .ret))
theorem L45 : low Tryz.prog Tryz.f45.ntmps (at_ Tryz.f45 []) = some R45 := by kernel_rfl
theorem N58 : Tryz.f58.ntmps = 5 := by kernel_rfl
theorem Z58 : Tryz.f58.results.toList = ((List.toArray [(.tmp 2)]) : Array ResultVar).toList := by kernel_rfl
theorem B58 : Tryz.f58.body = some (at_ Tryz.f58 []) := by kernel_rfl
noncomputable def R58 : RC := (.seq (.reg [⟨(some 2), none, (.mov (.const (.bool false)))⟩])
  (.seq (.reg [⟨(some 3), none, (.mov (.tmp 0))⟩, ⟨(some 4), none, (.call ⟨(.value (.func 42)), (List.toArray [(.tmp 3), (.const (.int .i64 (-5000))), (.const (.int .i64 5000))]), (List.toArray [3, 3, 3])⟩ true)⟩, ⟨(some 2), none, (.mov (.tmp 4))⟩])
  .ret))
theorem L58 : low Tryz.prog Tryz.f58.ntmps (at_ Tryz.f58 []) = some R58 := by kernel_rfl
theorem N59 : Tryz.f59.ntmps = 24 := by kernel_rfl
theorem Z59 : Tryz.f59.results.toList = ((List.toArray [(.tmp 6)]) : Array ResultVar).toList := by kernel_rfl
theorem B59 : Tryz.f59.body = some (at_ Tryz.f59 []) := by kernel_rfl
noncomputable def R59 : RC := (.seq (.reg [⟨(some 3), none, (.box 48 (.tmp 0))⟩, ⟨(some 6), none, (.mov (.const (.bool false)))⟩])
  (.seq (.reg [⟨(some 7), none, (.mov (.tmp 1))⟩, ⟨(some 8), none, (.addo (.tmp 3) 0)⟩, ⟨(some 9), none, (.ld (.tmp 8) 1)⟩, ⟨(some 10), none, (.cmpb .leq (.tmp 7) (.tmp 9))⟩, ⟨(some 11), none, (.mov (.tmp 10))⟩, ⟨(some 12), (some (11, true)), (.addo (.tmp 3) 0)⟩, ⟨(some 13), (some (11, true)), (.ld (.tmp 12) 1)⟩, ⟨(some 14), (some (11, true)), (.addo (.tmp 3) 1)⟩, ⟨(some 15), (some (11, true)), (.ld (.tmp 14) 1)⟩, ⟨(some 16), (some (11, true)), (.cmpb .leq (.tmp 13) (.tmp 15))⟩, ⟨(some 17), none, (.pur ⟨(some 17), (.pick (.tmp 11) (.tmp 16) (.const (.bool false))), 4, "", (List.toArray []), none⟩)⟩, ⟨(some 18), none, (.mov (.tmp 17))⟩, ⟨(some 19), (some (18, true)), (.addo (.tmp 3) 1)⟩, ⟨(some 20), (some (18, true)), (.ld (.tmp 19) 1)⟩, ⟨(some 21), (some (18, true)), (.mov (.tmp 2))⟩, ⟨(some 22), (some (18, true)), (.cmpb .leq (.tmp 20) (.tmp 21))⟩, ⟨(some 23), none, (.pur ⟨(some 23), (.pick (.tmp 18) (.tmp 22) (.const (.bool false))), 4, "", (List.toArray []), none⟩)⟩, ⟨(some 6), none, (.mov (.tmp 23))⟩])
  .ret))
theorem L59 : low Tryz.prog Tryz.f59.ntmps (at_ Tryz.f59 []) = some R59 := by kernel_rfl
theorem N60 : Tryz.f60.ntmps = 24 := by kernel_rfl
theorem Z60 : Tryz.f60.results.toList = ((List.toArray [(.tmp 6)]) : Array ResultVar).toList := by kernel_rfl
theorem B60 : Tryz.f60.body = some (at_ Tryz.f60 []) := by kernel_rfl
noncomputable def R60 : RC := (.seq (.reg [⟨(some 3), none, (.box 48 (.tmp 0))⟩, ⟨(some 6), none, (.mov (.const (.bool false)))⟩])
  (.seq (.reg [⟨(some 7), none, (.mov (.tmp 1))⟩, ⟨(some 8), none, (.addo (.tmp 3) 0)⟩, ⟨(some 9), none, (.ld (.tmp 8) 1)⟩, ⟨(some 10), none, (.cmpb .leq (.tmp 7) (.tmp 9))⟩, ⟨(some 11), none, (.mov (.tmp 10))⟩, ⟨(some 12), (some (11, true)), (.addo (.tmp 3) 0)⟩, ⟨(some 13), (some (11, true)), (.ld (.tmp 12) 1)⟩, ⟨(some 14), (some (11, true)), (.addo (.tmp 3) 1)⟩, ⟨(some 15), (some (11, true)), (.ld (.tmp 14) 1)⟩, ⟨(some 16), (some (11, true)), (.cmpb .leq (.tmp 13) (.tmp 15))⟩, ⟨(some 17), none, (.pur ⟨(some 17), (.pick (.tmp 11) (.tmp 16) (.const (.bool false))), 4, "", (List.toArray []), none⟩)⟩, ⟨(some 18), none, (.mov (.tmp 17))⟩, ⟨(some 19), (some (18, true)), (.addo (.tmp 3) 1)⟩, ⟨(some 20), (some (18, true)), (.ld (.tmp 19) 1)⟩, ⟨(some 21), (some (18, true)), (.mov (.tmp 2))⟩, ⟨(some 22), (some (18, true)), (.cmpb .leq (.tmp 20) (.tmp 21))⟩, ⟨(some 23), none, (.pur ⟨(some 23), (.pick (.tmp 18) (.tmp 22) (.const (.bool false))), 4, "", (List.toArray []), none⟩)⟩, ⟨(some 6), none, (.mov (.tmp 23))⟩])
  .ret))
theorem L60 : low Tryz.prog Tryz.f60.ntmps (at_ Tryz.f60 []) = some R60 := by kernel_rfl
end Go.Ax

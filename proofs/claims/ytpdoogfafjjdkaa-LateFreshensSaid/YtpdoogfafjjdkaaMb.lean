import Derived.Test.YtpdoogfafjjdkaaMa
import Derived.Test.YtpdoogfafjjdkaaAxW9
import Derived.Test.YtpdoogfafjjdkaaChecked
set_option linter.all false
/-! What 'low' makes of the functions of late (written by program). -/
namespace Go.Ax
open Go Go.RowKit Go.Proofs
theorem N13 : Try.f13.ntmps = 20 := by kernel_rfl
theorem Z13 : Try.f13.results.toList = ((List.toArray [(.tmp 4)]) : Array ResultVar).toList := by kernel_rfl
theorem B13 : Try.f13.body = some (at_ Try.f13 []) := by kernel_rfl
noncomputable def R13 : RC := (.seq (.reg [⟨(some 2), none, (.box 26 (.tmp 0))⟩, ⟨(some 4), none, (.mov (.const (.bool false)))⟩])
  (.seq (.reg [⟨(some 5), none, (.addo (.tmp 2) 0)⟩, ⟨(some 6), none, (.ld (.tmp 5) 1)⟩, ⟨(some 7), none, (.len (.tmp 6))⟩, ⟨(some 8), none, (.cmpb .gtr (.tmp 7) (.const (.int .i64 45)))⟩, ⟨(some 9), none, (.mov (.tmp 8))⟩, ⟨(some 10), (some (9, false)), (.addo (.tmp 2) 1)⟩, ⟨(some 11), (some (9, false)), (.ld (.tmp 10) 1)⟩, ⟨(some 12), (some (9, false)), (.len (.tmp 11))⟩, ⟨(some 13), (some (9, false)), (.cmpb .gtr (.tmp 12) (.const (.int .i64 45)))⟩, ⟨(some 14), none, (.pur ⟨(some 14), (.pick (.tmp 9) (.const (.bool true)) (.tmp 13)), 4, "", (List.toArray []), none⟩)⟩, ⟨(some 15), none, (.mov (.tmp 14))⟩, ⟨(some 16), (some (15, false)), (.mov (.tmp 1))⟩, ⟨(some 17), (some (15, false)), (.len (.tmp 16))⟩, ⟨(some 18), (some (15, false)), (.cmpb .gtr (.tmp 17) (.const (.int .i64 45)))⟩, ⟨(some 19), none, (.pur ⟨(some 19), (.pick (.tmp 15) (.const (.bool true)) (.tmp 18)), 4, "", (List.toArray []), none⟩)⟩, ⟨(some 4), none, (.mov (.tmp 19))⟩])
  .ret))
theorem L13 : low Try.prog Try.f13.ntmps (at_ Try.f13 []) = some R13 := by kernel_rfl
theorem N33 : Try.f33.ntmps = 84 := by kernel_rfl
theorem Z33 : Try.f33.results.toList = ((List.toArray [(.tmp 2)]) : Array ResultVar).toList := by kernel_rfl
theorem B33 : Try.f33.body = some (at_ Try.f33 []) := by kernel_rfl
noncomputable def R33 : RC := (.seq (.reg [⟨(some 1), none, (.box 26 (.tmp 0))⟩, ⟨(some 2), none, (.mov (.const (.bool false)))⟩])
  (.seq (.seq (.reg [⟨(some 5), none, (.addo (.tmp 1) 0)⟩, ⟨(some 6), none, (.ld (.tmp 5) 1)⟩, ⟨(some 7), none, (.len (.tmp 6))⟩, ⟨(some 8), none, (.addo (.tmp 1) 1)⟩, ⟨(some 9), none, (.ld (.tmp 8) 1)⟩, ⟨(some 10), none, (.len (.tmp 9))⟩, ⟨(some 11), none, (.cmpb .neq (.tmp 7) (.tmp 10))⟩, ⟨(some 12), none, (.mov (.tmp 11))⟩, ⟨(some 13), (some (12, false)), (.addo (.tmp 1) 0)⟩, ⟨(some 14), (some (12, false)), (.ld (.tmp 13) 1)⟩, ⟨(some 15), (some (12, false)), (.len (.tmp 14))⟩, ⟨(some 16), (some (12, false)), (.cmpb .gtr (.tmp 15) (.const (.int .i64 40)))⟩, ⟨(some 17), none, (.pur ⟨(some 17), (.pick (.tmp 12) (.const (.bool true)) (.tmp 16)), 4, "", (List.toArray []), none⟩)⟩])
  (.cond (.tmp 17) (.seq (.reg [⟨(some 2), none, (.mov (.const (.bool false)))⟩])
  .ret)
  .skip))
  (.seq (.seq (.reg [⟨(some 3), none, (.mov (.const (.int .i64 0)))⟩])
  (.block 0 (.other (at_ Try.f33 [1, 1, 0, 1, 0]))))
  (.seq (.reg [⟨(some 41), none, (.addo (.tmp 1) 8)⟩, ⟨(some 42), none, (.ld (.tmp 41) 1)⟩, ⟨(some 43), none, (.call ⟨(.value (.func 49)), (List.toArray [(.tmp 42), (.const (.int .i64 0)), (.const (.int .i64 20000))]), (List.toArray [3, 3, 3])⟩ true)⟩, ⟨(some 44), none, (.mov (.tmp 43))⟩, ⟨(some 45), (some (44, true)), (.addo (.tmp 1) 4)⟩, ⟨(some 46), (some (44, true)), (.lda (.tmp 45) 2)⟩, ⟨(some 47), (some (44, true)), (.addo (.tmp 1) 8)⟩, ⟨(some 48), (some (44, true)), (.ld (.tmp 47) 1)⟩, ⟨(some 49), (some (44, true)), (.call ⟨(.value (.func 56)), (List.toArray [(.tmp 46), (.const (.int .i64 0)), (.tmp 48)]), (List.toArray [24, 3, 3])⟩ true)⟩, ⟨(some 50), none, (.pur ⟨(some 50), (.pick (.tmp 44) (.tmp 49) (.const (.bool false))), 4, "", (List.toArray []), none⟩)⟩, ⟨(some 51), none, (.mov (.tmp 50))⟩, ⟨(some 52), (some (51, true)), (.addo (.tmp 1) 6)⟩, ⟨(some 53), (some (51, true)), (.lda (.tmp 52) 2)⟩, ⟨(some 54), (some (51, true)), (.addo (.tmp 1) 8)⟩, ⟨(some 55), (some (51, true)), (.ld (.tmp 54) 1)⟩, ⟨(some 56), (some (51, true)), (.call ⟨(.value (.func 56)), (List.toArray [(.tmp 53), (.const (.int .i64 0)), (.tmp 55)]), (List.toArray [24, 3, 3])⟩ true)⟩, ⟨(some 57), none, (.pur ⟨(some 57), (.pick (.tmp 51) (.tmp 56) (.const (.bool false))), 4, "", (List.toArray []), none⟩)⟩, ⟨(some 58), none, (.mov (.tmp 57))⟩, ⟨(some 59), (some (58, true)), (.addo (.tmp 1) 2)⟩, ⟨(some 60), (some (58, true)), (.lda (.tmp 59) 2)⟩, ⟨(some 61), (some (58, true)), (.call ⟨(.value (.func 56)), (List.toArray [(.tmp 60), (.const (.int .i64 0)), (.const (.int .i64 1000))]), (List.toArray [24, 3, 3])⟩ true)⟩, ⟨(some 62), none, (.pur ⟨(some 62), (.pick (.tmp 58) (.tmp 61) (.const (.bool false))), 4, "", (List.toArray []), none⟩)⟩, ⟨(some 4), none, (.mov (.tmp 62))⟩])
  (.seq (.reg [⟨(some 63), none, (.mov (.tmp 4))⟩, ⟨(some 64), none, (.mov (.tmp 63))⟩, ⟨(some 65), (some (64, true)), (.addo (.tmp 1) 9)⟩, ⟨(some 66), (some (64, true)), (.ld (.tmp 65) 1)⟩, ⟨(some 67), (some (64, true)), (.call ⟨(.value (.func 49)), (List.toArray [(.tmp 66), (.const (.int .i64 0)), (.const (.int .i64 5000))]), (List.toArray [3, 3, 3])⟩ true)⟩, ⟨(some 68), none, (.pur ⟨(some 68), (.pick (.tmp 64) (.tmp 67) (.const (.bool false))), 4, "", (List.toArray []), none⟩)⟩, ⟨(some 69), none, (.mov (.tmp 68))⟩, ⟨(some 70), (some (69, true)), (.addo (.tmp 1) 10)⟩, ⟨(some 71), (some (69, true)), (.ld (.tmp 70) 1)⟩, ⟨(some 72), (some (69, true)), (.call ⟨(.value (.func 49)), (List.toArray [(.tmp 71), (.const (.int .i64 0)), (.const (.int .i64 1048576))]), (List.toArray [3, 3, 3])⟩ true)⟩, ⟨(some 73), none, (.pur ⟨(some 73), (.pick (.tmp 69) (.tmp 72) (.const (.bool false))), 4, "", (List.toArray []), none⟩)⟩, ⟨(some 74), none, (.mov (.tmp 73))⟩, ⟨(some 75), (some (74, true)), (.addo (.tmp 1) 11)⟩, ⟨(some 76), (some (74, true)), (.ld (.tmp 75) 1)⟩, ⟨(some 77), (some (74, true)), (.call ⟨(.value (.func 49)), (List.toArray [(.tmp 76), (.const (.int .i64 0)), (.const (.int .i64 20000))]), (List.toArray [3, 3, 3])⟩ true)⟩, ⟨(some 78), none, (.pur ⟨(some 78), (.pick (.tmp 74) (.tmp 77) (.const (.bool false))), 4, "", (List.toArray []), none⟩)⟩, ⟨(some 79), none, (.mov (.tmp 78))⟩, ⟨(some 80), (some (79, true)), (.addo (.tmp 1) 12)⟩, ⟨(some 81), (some (79, true)), (.ld (.tmp 80) 1)⟩, ⟨(some 82), (some (79, true)), (.call ⟨(.value (.func 49)), (List.toArray [(.tmp 81), (.const (.int .i64 0)), (.const (.int .i64 40))]), (List.toArray [3, 3, 3])⟩ true)⟩, ⟨(some 83), none, (.pur ⟨(some 83), (.pick (.tmp 79) (.tmp 82) (.const (.bool false))), 4, "", (List.toArray []), none⟩)⟩, ⟨(some 2), none, (.mov (.tmp 83))⟩])
  .ret)))))
theorem L33 : low Try.prog Try.f33.ntmps (at_ Try.f33 []) = some R33 := by kernel_rfl
theorem E33_1 : at_ Try.f33 [1, 1, 0, 1, 0] = .loop (at_ Try.f33 [1, 1, 0, 1, 0, 0]) := by kernel_rfl
noncomputable def R33x1 : RC := (.seq (.seq (.reg [⟨(some 18), none, (.mov (.tmp 3))⟩, ⟨(some 19), none, (.addo (.tmp 1) 0)⟩, ⟨(some 20), none, (.ld (.tmp 19) 1)⟩, ⟨(some 21), none, (.len (.tmp 20))⟩, ⟨(some 22), none, (.cmp .lss (.tmp 18) (.tmp 21))⟩])
  (.cond (.tmp 22) .skip
  (.exit 0)))
  (.seq (.block 1 (.seq (.reg [⟨(some 25), none, (.addo (.tmp 1) 0)⟩, ⟨(some 26), none, (.ld (.tmp 25) 1)⟩, ⟨(some 27), none, (.mov (.tmp 3))⟩, ⟨(some 28), none, (.idx (.tmp 26) (.tmp 27) 2)⟩, ⟨(some 29), none, (.lda (.tmp 28) 2)⟩, ⟨(some 30), none, (.call ⟨(.value (.func 56)), (List.toArray [(.tmp 29), (.const (.int .i64 0)), (.const (.int .i64 5000))]), (List.toArray [24, 3, 3])⟩ true)⟩, ⟨(some 31), none, (.pur ⟨(some 31), (.unOp .not 4 (.tmp 30)), 4, "", (List.toArray []), none⟩)⟩, ⟨(some 32), none, (.mov (.tmp 31))⟩, ⟨(some 33), (some (32, false)), (.addo (.tmp 1) 1)⟩, ⟨(some 34), (some (32, false)), (.ld (.tmp 33) 1)⟩, ⟨(some 35), (some (32, false)), (.mov (.tmp 3))⟩, ⟨(some 36), (some (32, false)), (.idx (.tmp 34) (.tmp 35) 2)⟩, ⟨(some 37), (some (32, false)), (.lda (.tmp 36) 2)⟩, ⟨(some 38), (some (32, false)), (.call ⟨(.value (.func 56)), (List.toArray [(.tmp 37), (.const (.int .i64 0)), (.const (.int .i64 20000))]), (List.toArray [24, 3, 3])⟩ true)⟩, ⟨(some 39), (some (32, false)), (.pur ⟨(some 39), (.unOp .not 4 (.tmp 38)), 4, "", (List.toArray []), none⟩)⟩, ⟨(some 40), none, (.pur ⟨(some 40), (.pick (.tmp 32) (.const (.bool true)) (.tmp 39)), 4, "", (List.toArray []), none⟩)⟩])
  (.cond (.tmp 40) (.seq (.reg [⟨(some 2), none, (.mov (.const (.bool false)))⟩])
  .ret)
  .skip)))
  (.reg [⟨(some 23), none, (.mov (.tmp 3))⟩, ⟨(some 24), none, (.ari .add (.tmp 23) (.const (.int .i64 1)))⟩, ⟨(some 3), none, (.mov (.tmp 24))⟩])))
theorem L33x1 : low Try.prog Try.f33.ntmps (at_ Try.f33 [1, 1, 0, 1, 0, 0]) = some R33x1 := by kernel_rfl
theorem N34 : Try.f34.ntmps = 59 := by kernel_rfl
theorem Z34 : Try.f34.results.toList = ((List.toArray [(.tmp 8)]) : Array ResultVar).toList := by kernel_rfl
theorem B34 : Try.f34.body = some (at_ Try.f34 []) := by kernel_rfl
noncomputable def R34 : RC := (.seq (.reg [⟨(some 4), none, (.box 26 (.tmp 0))⟩, ⟨(some 8), none, (.mov (.const (.bool false)))⟩])
  (.seq (.seq (.reg [⟨(some 10), none, (.mov (.tmp 1))⟩, ⟨(some 11), none, (.addo (.tmp 4) 0)⟩, ⟨(some 12), none, (.ld (.tmp 11) 1)⟩, ⟨(some 13), none, (.len (.tmp 12))⟩, ⟨(some 14), none, (.call ⟨(.value (.func 49)), (List.toArray [(.tmp 10), (.const (.int .i64 0)), (.tmp 13)]), (List.toArray [3, 3, 3])⟩ true)⟩, ⟨(some 15), none, (.pur ⟨(some 15), (.unOp .not 4 (.tmp 14)), 4, "", (List.toArray []), none⟩)⟩, ⟨(some 16), none, (.mov (.tmp 15))⟩, ⟨(some 17), (some (16, false)), (.mov (.tmp 2))⟩, ⟨(some 18), (some (16, false)), (.addo (.tmp 4) 0)⟩, ⟨(some 19), (some (16, false)), (.ld (.tmp 18) 1)⟩, ⟨(some 20), (some (16, false)), (.len (.tmp 19))⟩, ⟨(some 21), (some (16, false)), (.mov (.tmp 1))⟩, ⟨(some 22), (some (16, false)), (.ari .sub (.tmp 20) (.tmp 21))⟩, ⟨(some 23), (some (16, false)), (.call ⟨(.value (.func 49)), (List.toArray [(.tmp 17), (.const (.int .i64 0)), (.tmp 22)]), (List.toArray [3, 3, 3])⟩ true)⟩, ⟨(some 24), (some (16, false)), (.pur ⟨(some 24), (.unOp .not 4 (.tmp 23)), 4, "", (List.toArray []), none⟩)⟩, ⟨(some 25), none, (.pur ⟨(some 25), (.pick (.tmp 16) (.const (.bool true)) (.tmp 24)), 4, "", (List.toArray []), none⟩)⟩])
  (.cond (.tmp 25) (.seq (.reg [⟨(some 8), none, (.mov (.const (.bool false)))⟩])
  .ret)
  .skip))
  (.seq (.seq (.reg [⟨(some 9), none, (.mov (.const (.int .i64 0)))⟩])
  (.block 0 (.other (at_ Try.f34 [1, 1, 0, 1, 0]))))
  (.seq (.reg [⟨(some 8), none, (.mov (.const (.bool true)))⟩])
  .ret))))
theorem L34 : low Try.prog Try.f34.ntmps (at_ Try.f34 []) = some R34 := by kernel_rfl
theorem E34_1 : at_ Try.f34 [1, 1, 0, 1, 0] = .loop (at_ Try.f34 [1, 1, 0, 1, 0, 0]) := by kernel_rfl
noncomputable def R34x1 : RC := (.seq (.seq (.reg [⟨(some 26), none, (.mov (.tmp 9))⟩, ⟨(some 27), none, (.mov (.tmp 3))⟩, ⟨(some 28), none, (.len (.tmp 27))⟩, ⟨(some 29), none, (.cmp .lss (.tmp 26) (.tmp 28))⟩])
  (.cond (.tmp 29) .skip
  (.exit 0)))
  (.seq (.block 1 (.seq (.dreg [⟨(some 32), none, (.mov (.tmp 3))⟩, ⟨(some 33), none, (.mov (.tmp 9))⟩, ⟨(some 34), none, (.idx (.tmp 32) (.tmp 33) 1)⟩, ⟨(some 35), none, (.ld (.tmp 34) 1)⟩, ⟨(some 36), none, (.mov (.tmp 1))⟩, ⟨(some 37), none, (.mov (.tmp 1))⟩, ⟨(some 38), none, (.mov (.tmp 2))⟩, ⟨(some 39), none, (.ari .add (.tmp 37) (.tmp 38))⟩, ⟨(some 40), none, (.ari .sub (.tmp 39) (.const (.int .i64 1)))⟩, ⟨(some 41), none, (.call ⟨(.value (.func 49)), (List.toArray [(.tmp 35), (.tmp 36), (.tmp 40)]), (List.toArray [3, 3, 3])⟩ true)⟩, ⟨(some 42), none, (.pur ⟨(some 42), (.unOp .not 4 (.tmp 41)), 4, "", (List.toArray []), none⟩)⟩, ⟨(some 43), none, (.mov (.tmp 42))⟩, ⟨(some 44), (some (43, false)), (.mov (.tmp 9))⟩, ⟨(some 45), (some (43, false)), (.cmpb .gtr (.tmp 44) (.const (.int .i64 0)))⟩, ⟨(some 46), (some (43, false)), (.mov (.tmp 45))⟩, ⟨(some 47), (some (46, true)), (.mov (.tmp 3))⟩, ⟨(some 48), (some (46, true)), (.mov (.tmp 9))⟩, ⟨(some 49), (some (46, true)), (.idx (.tmp 47) (.tmp 48) 1)⟩, ⟨(some 50), (some (46, true)), (.ld (.tmp 49) 1)⟩, ⟨(some 51), (some (46, true)), (.mov (.tmp 3))⟩, ⟨(some 52), (some (46, true)), (.mov (.tmp 9))⟩, ⟨(some 53), (some (46, true)), (.ari .sub (.tmp 52) (.const (.int .i64 1)))⟩, ⟨(some 54), (some (46, true)), (.idx (.tmp 51) (.tmp 53) 1)⟩, ⟨(some 55), (some (46, true)), (.ld (.tmp 54) 1)⟩, ⟨(some 56), (some (46, true)), (.cmpb .leq (.tmp 50) (.tmp 55))⟩, ⟨(some 57), (some (43, false)), (.pur ⟨(some 57), (.pick (.tmp 46) (.tmp 56) (.const (.bool false))), 4, "", (List.toArray []), none⟩)⟩, ⟨(some 58), none, (.pur ⟨(some 58), (.pick (.tmp 43) (.const (.bool true)) (.tmp 57)), 4, "", (List.toArray []), none⟩)⟩] [67108863, 33554431, 16777215, 7897087, 3702783, 1081343, 32767, 32767, 262143, 131071, 32767, 32767, 16383, 8191, 4095, 2047, 1023, 511, 224, 96, 0, 0, 0, 7, 3, 0, 0])
  (.cond (.tmp 58) (.seq (.reg [⟨(some 8), none, (.mov (.const (.bool false)))⟩])
  .ret)
  .skip)))
  (.reg [⟨(some 30), none, (.mov (.tmp 9))⟩, ⟨(some 31), none, (.ari .add (.tmp 30) (.const (.int .i64 1)))⟩, ⟨(some 9), none, (.mov (.tmp 31))⟩])))
theorem L34x1 : low Try.prog Try.f34.ntmps (at_ Try.f34 [1, 1, 0, 1, 0, 0]) = some R34x1 := by kernel_rfl
theorem N38 : Try.f38.ntmps = 26 := by kernel_rfl
theorem Z38 : Try.f38.results.toList = ((List.toArray [(.cell 8 65), (.cell 9 30)]) : Array ResultVar).toList := by kernel_rfl
theorem B38 : Try.f38.body = some (at_ Try.f38 []) := by kernel_rfl
theorem N41 : Try.f41.ntmps = 4 := by kernel_rfl
theorem Z41 : Try.f41.results.toList = ((List.toArray [(.tmp 2)]) : Array ResultVar).toList := by kernel_rfl
theorem B41 : Try.f41.body = some (at_ Try.f41 []) := by kernel_rfl
noncomputable def R41 : RC := (.seq (.reg [⟨(some 1), none, (.box 65 (.tmp 0))⟩, ⟨(some 2), none, (.mov (.const .nilFunc))⟩])
  (.seq (.reg [⟨(some 3), none, (.pur ⟨(some 3), (.makeFunc (.func 63) (List.toArray []) (List.toArray [(.tmp 1)])), 75, "", (List.toArray []), none⟩)⟩, ⟨(some 2), none, (.mov (.tmp 3))⟩])
  .ret))
theorem L41 : low Try.prog Try.f41.ntmps (at_ Try.f41 []) = some R41 := by kernel_rfl
theorem N48 : Try.f48.ntmps = 2 := by kernel_rfl
theorem Z48 : Try.f48.results.toList = ((List.toArray [(.cell 0 72)]) : Array ResultVar).toList := by kernel_rfl
theorem B48 : Try.f48.body = some (at_ Try.f48 []) := by kernel_rfl
noncomputable def R48 : RC := (.seq (.reg [⟨(some 0), none, (.alc 72 [(.int .i64 0), (.int .i64 0), (.int .i64 0), (.int .i64 0), (.int .i64 0), (.int .i64 0), (.int .i64 0)])⟩])
  (.seq (.reg [⟨(some 1), none, (.pur ⟨(some 1), (.build 72 (List.toArray [(0, (.const (.int .i64 (-1))))])), 72, "", (List.toArray []), none⟩)⟩, ⟨none, none, (.sta (.tmp 0) (.tmp 1) 7)⟩])
  .ret))
theorem L48 : low Try.prog Try.f48.ntmps (at_ Try.f48 []) = some R48 := by kernel_rfl
theorem N49 : Try.f49.ntmps = 15 := by kernel_rfl
theorem Z49 : Try.f49.results.toList = ((List.toArray [(.tmp 6)]) : Array ResultVar).toList := by kernel_rfl
theorem B49 : Try.f49.body = some (at_ Try.f49 []) := by kernel_rfl
noncomputable def R49 : RC := (.seq (.reg [⟨(some 6), none, (.mov (.const (.bool false)))⟩])
  (.seq (.reg [⟨(some 7), none, (.mov (.tmp 1))⟩, ⟨(some 8), none, (.mov (.tmp 0))⟩, ⟨(some 9), none, (.cmpb .leq (.tmp 7) (.tmp 8))⟩, ⟨(some 10), none, (.mov (.tmp 9))⟩, ⟨(some 11), (some (10, true)), (.mov (.tmp 0))⟩, ⟨(some 12), (some (10, true)), (.mov (.tmp 2))⟩, ⟨(some 13), (some (10, true)), (.cmpb .leq (.tmp 11) (.tmp 12))⟩, ⟨(some 14), none, (.pur ⟨(some 14), (.pick (.tmp 10) (.tmp 13) (.const (.bool false))), 4, "", (List.toArray []), none⟩)⟩, ⟨(some 6), none, (.mov (.tmp 14))⟩])
  .ret))
theorem L49 : low Try.prog Try.f49.ntmps (at_ Try.f49 []) = some R49 := by kernel_rfl
theorem N50 : Try.f50.ntmps = 6 := by kernel_rfl
theorem Z50 : Try.f50.results.toList = ((List.toArray [(.cell 2 72)]) : Array ResultVar).toList := by kernel_rfl
theorem B50 : Try.f50.body = some (at_ Try.f50 []) := by kernel_rfl
noncomputable def R50 : RC := (.seq (.reg [⟨(some 1), none, (.box 65 (.tmp 0))⟩, ⟨(some 2), none, (.alc 72 [(.int .i64 0), (.int .i64 0), (.int .i64 0), (.int .i64 0), (.int .i64 0), (.int .i64 0), (.int .i64 0)])⟩])
  (.seq (.reg [⟨(some 3), none, (.lda (.tmp 1) 16)⟩, ⟨(some 4), none, (.pur ⟨(some 4), (.makeFunc (.func 70) (List.toArray []) (List.toArray [(.tmp 1)])), 85, "", (List.toArray []), none⟩)⟩, ⟨(some 5), none, (.call ⟨(.value (.func 61)), (List.toArray [(.tmp 3), (.tmp 4)]), (List.toArray [65, 85])⟩ true)⟩, ⟨none, none, (.sta (.tmp 2) (.tmp 5) 7)⟩])
  .ret))
theorem L50 : low Try.prog Try.f50.ntmps (at_ Try.f50 []) = some R50 := by kernel_rfl
theorem N51 : Try.f51.ntmps = 72 := by kernel_rfl
theorem Z51 : Try.f51.results.toList = ((List.toArray [(.tmp 2)]) : Array ResultVar).toList := by kernel_rfl
theorem B51 : Try.f51.body = some (at_ Try.f51 []) := by kernel_rfl
noncomputable def R51 : RC := (.seq (.reg [⟨(some 1), none, (.box 26 (.tmp 0))⟩, ⟨(some 2), none, (.mov (.const (.bool false)))⟩])
  (.seq (.seq (.reg [⟨(some 4), none, (.addo (.tmp 1) 0)⟩, ⟨(some 5), none, (.ld (.tmp 4) 1)⟩, ⟨(some 6), none, (.len (.tmp 5))⟩, ⟨(some 7), none, (.addo (.tmp 1) 1)⟩, ⟨(some 8), none, (.ld (.tmp 7) 1)⟩, ⟨(some 9), none, (.len (.tmp 8))⟩, ⟨(some 10), none, (.cmpb .neq (.tmp 6) (.tmp 9))⟩, ⟨(some 11), none, (.mov (.tmp 10))⟩, ⟨(some 12), (some (11, false)), (.addo (.tmp 1) 0)⟩, ⟨(some 13), (some (11, false)), (.ld (.tmp 12) 1)⟩, ⟨(some 14), (some (11, false)), (.len (.tmp 13))⟩, ⟨(some 15), (some (11, false)), (.cmpb .gtr (.tmp 14) (.const (.int .i64 40)))⟩, ⟨(some 16), none, (.pur ⟨(some 16), (.pick (.tmp 11) (.const (.bool true)) (.tmp 15)), 4, "", (List.toArray []), none⟩)⟩])
  (.cond (.tmp 16) (.seq (.reg [⟨(some 2), none, (.mov (.const (.bool false)))⟩])
  .ret)
  .skip))
  (.seq (.seq (.reg [⟨(some 17), none, (.addo (.tmp 1) 0)⟩, ⟨(some 18), none, (.ld (.tmp 17) 1)⟩, ⟨(some 19), none, (.call ⟨(.value (.func 71)), (List.toArray [(.tmp 18), (.const (.int .i64 5000))]), (List.toArray [22, 3])⟩ true)⟩, ⟨(some 20), none, (.pur ⟨(some 20), (.unOp .not 4 (.tmp 19)), 4, "", (List.toArray []), none⟩)⟩, ⟨(some 21), none, (.mov (.tmp 20))⟩, ⟨(some 22), (some (21, false)), (.addo (.tmp 1) 1)⟩, ⟨(some 23), (some (21, false)), (.ld (.tmp 22) 1)⟩, ⟨(some 24), (some (21, false)), (.call ⟨(.value (.func 71)), (List.toArray [(.tmp 23), (.const (.int .i64 20000))]), (List.toArray [22, 3])⟩ true)⟩, ⟨(some 25), (some (21, false)), (.pur ⟨(some 25), (.unOp .not 4 (.tmp 24)), 4, "", (List.toArray []), none⟩)⟩, ⟨(some 26), none, (.pur ⟨(some 26), (.pick (.tmp 21) (.const (.bool true)) (.tmp 25)), 4, "", (List.toArray []), none⟩)⟩, ⟨(some 27), none, (.mov (.tmp 26))⟩, ⟨(some 28), (some (27, false)), (.addo (.tmp 1) 2)⟩, ⟨(some 29), (some (27, false)), (.lda (.tmp 28) 2)⟩, ⟨(some 30), (some (27, false)), (.call ⟨(.value (.func 72)), (List.toArray [(.tmp 29), (.const (.int .i64 1000))]), (List.toArray [24, 3])⟩ true)⟩, ⟨(some 31), (some (27, false)), (.pur ⟨(some 31), (.unOp .not 4 (.tmp 30)), 4, "", (List.toArray []), none⟩)⟩, ⟨(some 32), none, (.pur ⟨(some 32), (.pick (.tmp 27) (.const (.bool true)) (.tmp 31)), 4, "", (List.toArray []), none⟩)⟩])
  (.cond (.tmp 32) (.seq (.reg [⟨(some 2), none, (.mov (.const (.bool false)))⟩])
  .ret)
  .skip))
  (.seq (.seq (.reg [⟨(some 33), none, (.addo (.tmp 1) 8)⟩, ⟨(some 34), none, (.ld (.tmp 33) 1)⟩, ⟨(some 35), none, (.call ⟨(.value (.func 73)), (List.toArray [(.tmp 34), (.const (.int .i64 20000))]), (List.toArray [3, 3])⟩ true)⟩, ⟨(some 36), none, (.pur ⟨(some 36), (.unOp .not 4 (.tmp 35)), 4, "", (List.toArray []), none⟩)⟩, ⟨(some 37), none, (.mov (.tmp 36))⟩, ⟨(some 38), (some (37, false)), (.addo (.tmp 1) 4)⟩, ⟨(some 39), (some (37, false)), (.lda (.tmp 38) 2)⟩, ⟨(some 40), (some (37, false)), (.addo (.tmp 1) 8)⟩, ⟨(some 41), (some (37, false)), (.ld (.tmp 40) 1)⟩, ⟨(some 42), (some (37, false)), (.call ⟨(.value (.func 72)), (List.toArray [(.tmp 39), (.tmp 41)]), (List.toArray [24, 3])⟩ true)⟩, ⟨(some 43), (some (37, false)), (.pur ⟨(some 43), (.unOp .not 4 (.tmp 42)), 4, "", (List.toArray []), none⟩)⟩, ⟨(some 44), none, (.pur ⟨(some 44), (.pick (.tmp 37) (.const (.bool true)) (.tmp 43)), 4, "", (List.toArray []), none⟩)⟩, ⟨(some 45), none, (.mov (.tmp 44))⟩, ⟨(some 46), (some (45, false)), (.addo (.tmp 1) 6)⟩, ⟨(some 47), (some (45, false)), (.lda (.tmp 46) 2)⟩, ⟨(some 48), (some (45, false)), (.addo (.tmp 1) 8)⟩, ⟨(some 49), (some (45, false)), (.ld (.tmp 48) 1)⟩, ⟨(some 50), (some (45, false)), (.call ⟨(.value (.func 72)), (List.toArray [(.tmp 47), (.tmp 49)]), (List.toArray [24, 3])⟩ true)⟩, ⟨(some 51), (some (45, false)), (.pur ⟨(some 51), (.unOp .not 4 (.tmp 50)), 4, "", (List.toArray []), none⟩)⟩, ⟨(some 52), none, (.pur ⟨(some 52), (.pick (.tmp 45) (.const (.bool true)) (.tmp 51)), 4, "", (List.toArray []), none⟩)⟩])
  (.cond (.tmp 52) (.seq (.reg [⟨(some 2), none, (.mov (.const (.bool false)))⟩])
  .ret)
  .skip))
  (.seq (.reg [⟨(some 53), none, (.addo (.tmp 1) 9)⟩, ⟨(some 54), none, (.ld (.tmp 53) 1)⟩, ⟨(some 55), none, (.call ⟨(.value (.func 73)), (List.toArray [(.tmp 54), (.const (.int .i64 5000))]), (List.toArray [3, 3])⟩ true)⟩, ⟨(some 56), none, (.mov (.tmp 55))⟩, ⟨(some 57), (some (56, true)), (.addo (.tmp 1) 10)⟩, ⟨(some 58), (some (56, true)), (.ld (.tmp 57) 1)⟩, ⟨(some 59), (some (56, true)), (.call ⟨(.value (.func 73)), (List.toArray [(.tmp 58), (.const (.int .i64 1048576))]), (List.toArray [3, 3])⟩ true)⟩, ⟨(some 60), none, (.pur ⟨(some 60), (.pick (.tmp 56) (.tmp 59) (.const (.bool false))), 4, "", (List.toArray []), none⟩)⟩, ⟨(some 3), none, (.mov (.tmp 60))⟩])
  (.seq (.reg [⟨(some 61), none, (.mov (.tmp 3))⟩, ⟨(some 62), none, (.mov (.tmp 61))⟩, ⟨(some 63), (some (62, true)), (.addo (.tmp 1) 11)⟩, ⟨(some 64), (some (62, true)), (.ld (.tmp 63) 1)⟩, ⟨(some 65), (some (62, true)), (.call ⟨(.value (.func 73)), (List.toArray [(.tmp 64), (.const (.int .i64 20000))]), (List.toArray [3, 3])⟩ true)⟩, ⟨(some 66), none, (.pur ⟨(some 66), (.pick (.tmp 62) (.tmp 65) (.const (.bool false))), 4, "", (List.toArray []), none⟩)⟩, ⟨(some 67), none, (.mov (.tmp 66))⟩, ⟨(some 68), (some (67, true)), (.addo (.tmp 1) 12)⟩, ⟨(some 69), (some (67, true)), (.ld (.tmp 68) 1)⟩, ⟨(some 70), (some (67, true)), (.call ⟨(.value (.func 73)), (List.toArray [(.tmp 69), (.const (.int .i64 40))]), (List.toArray [3, 3])⟩ true)⟩, ⟨(some 71), none, (.pur ⟨(some 71), (.pick (.tmp 67) (.tmp 70) (.const (.bool false))), 4, "", (List.toArray []), none⟩)⟩, ⟨(some 2), none, (.mov (.tmp 71))⟩])
  .ret))))))
theorem L51 : low Try.prog Try.f51.ntmps (at_ Try.f51 []) = some R51 := by kernel_rfl
theorem N52 : Try.f52.ntmps = 12 := by kernel_rfl
theorem Z52 : Try.f52.results.toList = ((List.toArray [(.tmp 4)]) : Array ResultVar).toList := by kernel_rfl
theorem B52 : Try.f52.body = some (at_ Try.f52 []) := by kernel_rfl
noncomputable def R52 : RC := (.seq (.reg [⟨(some 2), none, (.box 65 (.tmp 0))⟩, ⟨(some 3), none, (.box 72 (.tmp 1))⟩, ⟨(some 4), none, (.mov (.const (.bool false)))⟩])
  (.seq (.reg [⟨(some 5), none, (.addo (.tmp 3) 3)⟩, ⟨(some 6), none, (.addo (.tmp 5) 1)⟩, ⟨(some 7), none, (.ld (.tmp 6) 1)⟩, ⟨(some 8), none, (.addo (.tmp 2) 0)⟩, ⟨(some 9), none, (.addo (.tmp 8) 12)⟩, ⟨(some 10), none, (.ld (.tmp 9) 1)⟩, ⟨(some 11), none, (.cmp .gtr (.tmp 7) (.tmp 10))⟩, ⟨(some 4), none, (.mov (.tmp 11))⟩])
  .ret))
theorem L52 : low Try.prog Try.f52.ntmps (at_ Try.f52 []) = some R52 := by kernel_rfl
theorem N56 : Try.f56.ntmps = 24 := by kernel_rfl
theorem Z56 : Try.f56.results.toList = ((List.toArray [(.tmp 6)]) : Array ResultVar).toList := by kernel_rfl
theorem B56 : Try.f56.body = some (at_ Try.f56 []) := by kernel_rfl
noncomputable def R56 : RC := (.seq (.reg [⟨(some 3), none, (.box 24 (.tmp 0))⟩, ⟨(some 6), none, (.mov (.const (.bool false)))⟩])
  (.seq (.reg [⟨(some 7), none, (.mov (.tmp 1))⟩, ⟨(some 8), none, (.addo (.tmp 3) 0)⟩, ⟨(some 9), none, (.ld (.tmp 8) 1)⟩, ⟨(some 10), none, (.cmpb .leq (.tmp 7) (.tmp 9))⟩, ⟨(some 11), none, (.mov (.tmp 10))⟩, ⟨(some 12), (some (11, true)), (.addo (.tmp 3) 0)⟩, ⟨(some 13), (some (11, true)), (.ld (.tmp 12) 1)⟩, ⟨(some 14), (some (11, true)), (.addo (.tmp 3) 1)⟩, ⟨(some 15), (some (11, true)), (.ld (.tmp 14) 1)⟩, ⟨(some 16), (some (11, true)), (.cmpb .leq (.tmp 13) (.tmp 15))⟩, ⟨(some 17), none, (.pur ⟨(some 17), (.pick (.tmp 11) (.tmp 16) (.const (.bool false))), 4, "", (List.toArray []), none⟩)⟩, ⟨(some 18), none, (.mov (.tmp 17))⟩, ⟨(some 19), (some (18, true)), (.addo (.tmp 3) 1)⟩, ⟨(some 20), (some (18, true)), (.ld (.tmp 19) 1)⟩, ⟨(some 21), (some (18, true)), (.mov (.tmp 2))⟩, ⟨(some 22), (some (18, true)), (.cmpb .leq (.tmp 20) (.tmp 21))⟩, ⟨(some 23), none, (.pur ⟨(some 23), (.pick (.tmp 18) (.tmp 22) (.const (.bool false))), 4, "", (List.toArray []), none⟩)⟩, ⟨(some 6), none, (.mov (.tmp 23))⟩])
  .ret))
theorem L56 : low Try.prog Try.f56.ntmps (at_ Try.f56 []) = some R56 := by kernel_rfl
theorem N58 : Try.f58.ntmps = 5 := by kernel_rfl
theorem Z58 : Try.f58.results.toList = ((List.toArray []) : Array ResultVar).toList := by kernel_rfl
theorem B58 : Try.f58.body = some (at_ Try.f58 []) := by kernel_rfl
theorem N59 : Try.f59.ntmps = 28 := by kernel_rfl
theorem Z59 : Try.f59.results.toList = ((List.toArray [(.cell 6 61)]) : Array ResultVar).toList := by kernel_rfl
theorem B59 : Try.f59.body = some (at_ Try.f59 []) := by kernel_rfl
theorem N60 : Try.f60.ntmps = 39 := by kernel_rfl
theorem Z60 : Try.f60.results.toList = ((List.toArray [(.tmp 4)]) : Array ResultVar).toList := by kernel_rfl
theorem B60 : Try.f60.body = some (at_ Try.f60 []) := by kernel_rfl
noncomputable def R60 : RC := (.seq (.reg [⟨(some 2), none, (.box 61 (.tmp 0))⟩, ⟨(some 4), none, (.mov (.const (.int .u64 0)))⟩])
  (.seq (.reg [⟨(some 5), none, (.mov (.const (.int .u64 0)))⟩])
  (.seq (.reg [⟨(some 9), none, (.addo (.tmp 2) 0)⟩, ⟨(some 10), none, (.ld (.tmp 9) 1)⟩, ⟨(some 6), none, (.mov (.tmp 10))⟩])
  (.seq (.seq (.reg [⟨(some 11), none, (.mov (.tmp 1))⟩, ⟨(some 12), none, (.len (.tmp 11))⟩, ⟨(some 13), none, (.mov (.const (.int .i64 0)))⟩])
  (.block 0 (.other (at_ Try.f60 [1, 1, 1, 0, 1, 0]))))
  (.seq (.reg [⟨(some 38), none, (.mov (.tmp 5))⟩, ⟨(some 4), none, (.mov (.tmp 38))⟩])
  .ret)))))
theorem L60 : low Try.prog Try.f60.ntmps (at_ Try.f60 []) = some R60 := by kernel_rfl
theorem E60_1 : at_ Try.f60 [1, 1, 1, 0, 1, 0] = .loop (at_ Try.f60 [1, 1, 1, 0, 1, 0, 0]) := by kernel_rfl
theorem N61 : Try.f61.ntmps = 15 := by kernel_rfl
theorem Z61 : Try.f61.results.toList = ((List.toArray [(.cell 4 72)]) : Array ResultVar).toList := by kernel_rfl
theorem B61 : Try.f61.body = some (at_ Try.f61 []) := by kernel_rfl
noncomputable def R61 : RC := (.seq (.reg [⟨(some 2), none, (.box 65 (.tmp 0))⟩, ⟨(some 3), none, (.box 85 (.tmp 1))⟩, ⟨(some 4), none, (.alc 72 [(.int .i64 0), (.int .i64 0), (.int .i64 0), (.int .i64 0), (.int .i64 0), (.int .i64 0), (.int .i64 0)])⟩])
  (.seq (.seq (.reg [⟨(some 6), none, (.lda (.tmp 2) 16)⟩, ⟨(some 7), none, (.call ⟨(.value (.func 41)), (List.toArray [(.tmp 6)]), (List.toArray [65])⟩ true)⟩])
  (.block 0 (.other (at_ Try.f61 [1, 0, 1, 0]))))
  (.seq (.reg [⟨(some 14), none, (.call ⟨(.value (.func 48)), (List.toArray []), (List.toArray [])⟩ true)⟩, ⟨none, none, (.sta (.tmp 4) (.tmp 14) 7)⟩])
  .ret)))
theorem L61 : low Try.prog Try.f61.ntmps (at_ Try.f61 []) = some R61 := by kernel_rfl
theorem E61_1 : at_ Try.f61 [1, 0, 1, 0] = .rangeFunc (.tmp 7) ((List.toArray [8])) (at_ Try.f61 [1, 0, 1, 0, 0]) (at_ Try.f61 [1, 0, 1, 0, 1]) := by kernel_rfl
noncomputable def R61x1 : RC := (.reg [⟨(some 5), none, (.alc 72 [(.int .i64 0), (.int .i64 0), (.int .i64 0), (.int .i64 0), (.int .i64 0), (.int .i64 0), (.int .i64 0)])⟩, ⟨none, none, (.sta (.tmp 5) (.tmp 8) 7)⟩])
theorem L61x1 : low Try.prog Try.f61.ntmps (at_ Try.f61 [1, 0, 1, 0, 0]) = some R61x1 := by kernel_rfl
noncomputable def R61x2 : RC := (.block 1 (.seq (.reg [⟨(some 9), none, (.ld (.tmp 3) 1)⟩, ⟨(some 10), none, (.lda (.tmp 5) 7)⟩, ⟨(some 11), none, (.call ⟨(.value (.tmp 9)), (List.toArray [(.tmp 10)]), (List.toArray [72])⟩ true)⟩, ⟨(some 12), none, (.pur ⟨(some 12), (.unOp .not 4 (.tmp 11)), 4, "", (List.toArray []), none⟩)⟩])
  (.cond (.tmp 12) (.seq (.reg [⟨(some 13), none, (.lda (.tmp 5) 7)⟩, ⟨none, none, (.sta (.tmp 4) (.tmp 13) 7)⟩])
  .ret)
  .skip)))
theorem L61x2 : low Try.prog Try.f61.ntmps (at_ Try.f61 [1, 0, 1, 0, 1]) = some R61x2 := by kernel_rfl
theorem N63 : Try.f63.ntmps = 29 := by kernel_rfl
theorem Z63 : Try.f63.results.toList = ((List.toArray []) : Array ResultVar).toList := by kernel_rfl
theorem B63 : Try.f63.body = some (at_ Try.f63 []) := by kernel_rfl
noncomputable def R63 : RC := (.seq (.dreg [⟨(some 4), none, (.addo (.tmp 1) 0)⟩, ⟨(some 5), none, (.addo (.tmp 4) 4)⟩, ⟨(some 6), none, (.lda (.tmp 5) 2)⟩, ⟨(some 7), none, (.call ⟨(.value (.func 64)), (List.toArray [(.tmp 6)]), (List.toArray [24])⟩ false)⟩, ⟨(some 8), none, (.addo (.tmp 1) 0)⟩, ⟨(some 9), none, (.addo (.tmp 8) 4)⟩, ⟨(some 10), none, (.lda (.tmp 9) 2)⟩, ⟨(some 11), none, (.call ⟨(.value (.func 65)), (List.toArray [(.tmp 10)]), (List.toArray [24])⟩ false)⟩, ⟨(some 12), none, (.pur ⟨(some 12), (.build 72 (List.toArray [(2, (.tmp 7)), (3, (.tmp 11))])), 72, "", (List.toArray []), none⟩)⟩, ⟨(some 3), none, (.alc 72 [(.int .i64 0), (.int .i64 0), (.int .i64 0), (.int .i64 0), (.int .i64 0), (.int .i64 0), (.int .i64 0)])⟩, ⟨none, none, (.sta (.tmp 3) (.tmp 12) 7)⟩] [1023, 0, 255, 127, 48, 16, 0, 7, 3, 1, 0])
  (.seq (.block 0 (.other (at_ Try.f63 [1, 0, 0])))
  (.reg [⟨(some 26), none, (.mov (.tmp 0))⟩, ⟨(some 27), none, (.lda (.tmp 3) 7)⟩, ⟨(some 28), none, (.call ⟨(.value (.tmp 26)), (List.toArray [(.tmp 27)]), (List.toArray [72])⟩ true)⟩])))
theorem L63 : low Try.prog Try.f63.ntmps (at_ Try.f63 []) = some R63 := by kernel_rfl
theorem E63_1 : at_ Try.f63 [1, 0, 0] = .loop (at_ Try.f63 [1, 0, 0, 0]) := by kernel_rfl
noncomputable def R63x1 : RC := (.seq (.seq (.reg [⟨(some 13), none, (.addo (.tmp 3) 0)⟩, ⟨(some 14), none, (.ld (.tmp 13) 1)⟩, ⟨(some 15), none, (.addo (.tmp 1) 13)⟩, ⟨(some 16), none, (.addo (.tmp 15) 1)⟩, ⟨(some 17), none, (.ld (.tmp 16) 1)⟩, ⟨(some 18), none, (.cmp .lss (.tmp 14) (.tmp 17))⟩])
  (.cond (.tmp 18) .skip
  (.exit 0)))
  (.block 1 (.seq (.seq (.reg [⟨(some 19), none, (.mov (.tmp 0))⟩, ⟨(some 20), none, (.lda (.tmp 3) 7)⟩, ⟨(some 21), none, (.call ⟨(.value (.tmp 19)), (List.toArray [(.tmp 20)]), (List.toArray [72])⟩ true)⟩, ⟨(some 22), none, (.pur ⟨(some 22), (.unOp .not 4 (.tmp 21)), 4, "", (List.toArray []), none⟩)⟩])
  (.cond (.tmp 22) .ret
  .skip))
  (.reg [⟨(some 23), none, (.lda (.tmp 1) 16)⟩, ⟨(some 24), none, (.lda (.tmp 3) 7)⟩, ⟨(some 25), none, (.call ⟨(.value (.func 66)), (List.toArray [(.tmp 23), (.tmp 24)]), (List.toArray [65, 72])⟩ true)⟩, ⟨none, none, (.sta (.tmp 3) (.tmp 25) 7)⟩]))))
theorem L63x1 : low Try.prog Try.f63.ntmps (at_ Try.f63 [1, 0, 0, 0]) = some R63x1 := by kernel_rfl
theorem N64 : Try.f64.ntmps = 9 := by kernel_rfl
theorem Z64 : Try.f64.results.toList = ((List.toArray [(.cell 2 69)]) : Array ResultVar).toList := by kernel_rfl
theorem B64 : Try.f64.body = some (at_ Try.f64 []) := by kernel_rfl
noncomputable def R64 : RC := (.seq (.reg [⟨(some 1), none, (.box 24 (.tmp 0))⟩, ⟨(some 2), none, (.alc 69 [(.int .i64 0), (.int .i64 0)])⟩])
  (.seq (.reg [⟨(some 3), none, (.alc 100 [])⟩])
  (.seq (.reg [⟨(some 4), none, (.lda (.tmp 3) 0)⟩, ⟨(some 5), none, (.pur ⟨(some 5), (.makeInterface 100 (.tmp 4)), 20, "", (List.toArray []), none⟩)⟩, ⟨(some 6), none, (.lda (.tmp 1) 2)⟩, ⟨(some 7), none, (.call ⟨(.invoke (.tmp 5) "fenberry/late.end"), (List.toArray [(.tmp 6)]), (List.toArray [24])⟩ true)⟩, ⟨(some 8), none, (.pur ⟨(some 8), (.build 69 (List.toArray [(0, (.tmp 7))])), 69, "", (List.toArray []), none⟩)⟩, ⟨none, none, (.sta (.tmp 2) (.tmp 8) 2)⟩])
  .ret)))
theorem L64 : low Try.prog Try.f64.ntmps (at_ Try.f64 []) = some R64 := by kernel_rfl
theorem N65 : Try.f65.ntmps = 9 := by kernel_rfl
theorem Z65 : Try.f65.results.toList = ((List.toArray [(.cell 2 70)]) : Array ResultVar).toList := by kernel_rfl
theorem B65 : Try.f65.body = some (at_ Try.f65 []) := by kernel_rfl
noncomputable def R65 : RC := (.seq (.reg [⟨(some 1), none, (.box 24 (.tmp 0))⟩, ⟨(some 2), none, (.alc 70 [(.int .i64 0), (.int .i64 0)])⟩])
  (.seq (.reg [⟨(some 3), none, (.alc 102 [])⟩])
  (.seq (.reg [⟨(some 4), none, (.lda (.tmp 3) 0)⟩, ⟨(some 5), none, (.pur ⟨(some 5), (.makeInterface 102 (.tmp 4)), 20, "", (List.toArray []), none⟩)⟩, ⟨(some 6), none, (.lda (.tmp 1) 2)⟩, ⟨(some 7), none, (.call ⟨(.invoke (.tmp 5) "fenberry/late.end"), (List.toArray [(.tmp 6)]), (List.toArray [24])⟩ true)⟩, ⟨(some 8), none, (.pur ⟨(some 8), (.build 70 (List.toArray [(0, (.tmp 7))])), 70, "", (List.toArray []), none⟩)⟩, ⟨none, none, (.sta (.tmp 2) (.tmp 8) 2)⟩])
  .ret)))
theorem L65 : low Try.prog Try.f65.ntmps (at_ Try.f65 []) = some R65 := by kernel_rfl
theorem N66 : Try.f66.ntmps = 73 := by kernel_rfl
theorem Z66 : Try.f66.results.toList = ((List.toArray [(.cell 4 72)]) : Array ResultVar).toList := by kernel_rfl
theorem B66 : Try.f66.body = some (at_ Try.f66 []) := by kernel_rfl
noncomputable def R66 : RC := (.seq (.reg [⟨(some 2), none, (.box 65 (.tmp 0))⟩, ⟨(some 3), none, (.box 72 (.tmp 1))⟩, ⟨(some 4), none, (.alc 72 [(.int .i64 0), (.int .i64 0), (.int .i64 0), (.int .i64 0), (.int .i64 0), (.int .i64 0), (.int .i64 0)])⟩])
  (.seq (.dreg [⟨(some 7), none, (.lda (.tmp 3) 7)⟩, ⟨(some 8), none, (.addo (.tmp 2) 13)⟩, ⟨(some 9), none, (.addo (.tmp 8) 0)⟩, ⟨(some 10), none, (.ld (.tmp 9) 1)⟩, ⟨(some 11), none, (.addo (.tmp 3) 0)⟩, ⟨(some 12), none, (.ld (.tmp 11) 1)⟩, ⟨(some 13), none, (.ari .add (.tmp 10) (.tmp 12))⟩, ⟨(some 5), none, (.alc 72 [(.int .i64 0), (.int .i64 0), (.int .i64 0), (.int .i64 0), (.int .i64 0), (.int .i64 0), (.int .i64 0)])⟩, ⟨none, none, (.sta (.tmp 5) (.tmp 7) 7)⟩, ⟨(some 6), none, (.mov (.tmp 13))⟩] [511, 129, 0, 62, 16, 0, 6, 2, 0, 0])
  (.seq (.reg [⟨(some 14), none, (.addo (.tmp 5) 0)⟩, ⟨(some 15), none, (.ld (.tmp 14) 1)⟩, ⟨(some 16), none, (.ari .add (.tmp 15) (.const (.int .i64 1)))⟩, ⟨(some 17), none, (.addo (.tmp 5) 0)⟩, ⟨none, none, (.st (.tmp 17) (.tmp 16))⟩])
  (.seq (.dreg [⟨(some 18), none, (.addo (.tmp 5) 1)⟩, ⟨(some 19), none, (.addo (.tmp 18) 0)⟩, ⟨(some 20), none, (.ld (.tmp 19) 1)⟩, ⟨(some 21), none, (.addo (.tmp 2) 0)⟩, ⟨(some 22), none, (.addo (.tmp 21) 0)⟩, ⟨(some 23), none, (.ld (.tmp 22) 1)⟩, ⟨(some 24), none, (.mov (.tmp 6))⟩, ⟨(some 25), none, (.idx (.tmp 23) (.tmp 24) 2)⟩, ⟨(some 26), none, (.addo (.tmp 25) 0)⟩, ⟨(some 27), none, (.ld (.tmp 26) 1)⟩, ⟨(some 28), none, (.addo (.tmp 2) 0)⟩, ⟨(some 29), none, (.addo (.tmp 28) 9)⟩, ⟨(some 30), none, (.ld (.tmp 29) 1)⟩, ⟨(some 31), none, (.ari .sub (.tmp 27) (.tmp 30))⟩, ⟨(some 32), none, (.mm false (.const (.int .i64 0)) (.tmp 31))⟩, ⟨(some 33), none, (.ari .add (.tmp 20) (.tmp 32))⟩, ⟨(some 34), none, (.addo (.tmp 5) 1)⟩, ⟨(some 35), none, (.addo (.tmp 34) 0)⟩, ⟨none, none, (.st (.tmp 35) (.tmp 33))⟩] [262143, 131071, 65535, 32767, 16376, 8184, 3072, 1024, 0, 504, 248, 120, 0, 24, 8, 0, 3, 1, 0])
  (.seq (.dreg [⟨(some 36), none, (.addo (.tmp 5) 1)⟩, ⟨(some 37), none, (.addo (.tmp 36) 1)⟩, ⟨(some 38), none, (.ld (.tmp 37) 1)⟩, ⟨(some 39), none, (.addo (.tmp 2) 0)⟩, ⟨(some 40), none, (.addo (.tmp 39) 0)⟩, ⟨(some 41), none, (.ld (.tmp 40) 1)⟩, ⟨(some 42), none, (.mov (.tmp 6))⟩, ⟨(some 43), none, (.idx (.tmp 41) (.tmp 42) 2)⟩, ⟨(some 44), none, (.addo (.tmp 43) 1)⟩, ⟨(some 45), none, (.ld (.tmp 44) 1)⟩, ⟨(some 46), none, (.addo (.tmp 2) 0)⟩, ⟨(some 47), none, (.addo (.tmp 46) 9)⟩, ⟨(some 48), none, (.ld (.tmp 47) 1)⟩, ⟨(some 49), none, (.ari .sub (.tmp 45) (.tmp 48))⟩, ⟨(some 50), none, (.mm false (.const (.int .i64 0)) (.tmp 49))⟩, ⟨(some 51), none, (.ari .add (.tmp 38) (.tmp 50))⟩, ⟨(some 52), none, (.addo (.tmp 5) 1)⟩, ⟨(some 53), none, (.addo (.tmp 52) 1)⟩, ⟨none, none, (.st (.tmp 53) (.tmp 51))⟩] [262143, 131071, 65535, 32767, 16376, 8184, 3072, 1024, 0, 504, 248, 120, 0, 24, 8, 0, 3, 1, 0])
  (.seq (.dreg [⟨(some 54), none, (.addo (.tmp 5) 3)⟩, ⟨(some 55), none, (.addo (.tmp 2) 0)⟩, ⟨(some 56), none, (.lda (.tmp 55) 13)⟩, ⟨(some 57), none, (.mov (.tmp 6))⟩, ⟨(some 58), none, (.addo (.tmp 2) 15)⟩, ⟨(some 59), none, (.ld (.tmp 58) 1)⟩, ⟨(some 60), none, (.mov (.tmp 6))⟩, ⟨(some 61), none, (.call ⟨(.value (.func 78)), (List.toArray [(.tmp 59), (.tmp 60)]), (List.toArray [63, 3])⟩ false)⟩, ⟨(some 62), none, (.call ⟨(.value (.func 79)), (List.toArray [(.tmp 54), (.tmp 56), (.tmp 57), (.tmp 61)]), (List.toArray [69, 26, 3, 4])⟩ true)⟩] [255, 112, 0, 16, 0, 0, 2, 0, 0])
  (.seq (.dreg [⟨(some 63), none, (.addo (.tmp 5) 5)⟩, ⟨(some 64), none, (.addo (.tmp 2) 0)⟩, ⟨(some 65), none, (.lda (.tmp 64) 13)⟩, ⟨(some 66), none, (.mov (.tmp 6))⟩, ⟨(some 67), none, (.addo (.tmp 2) 15)⟩, ⟨(some 68), none, (.ld (.tmp 67) 1)⟩, ⟨(some 69), none, (.mov (.tmp 6))⟩, ⟨(some 70), none, (.call ⟨(.value (.func 78)), (List.toArray [(.tmp 68), (.tmp 69)]), (List.toArray [63, 3])⟩ false)⟩, ⟨(some 71), none, (.call ⟨(.value (.func 80)), (List.toArray [(.tmp 63), (.tmp 65), (.tmp 66), (.tmp 70)]), (List.toArray [70, 26, 3, 4])⟩ true)⟩] [255, 112, 0, 16, 0, 0, 2, 0, 0])
  (.seq (.reg [⟨(some 72), none, (.lda (.tmp 5) 7)⟩, ⟨none, none, (.sta (.tmp 4) (.tmp 72) 7)⟩])
  .ret))))))))
theorem L66 : low Try.prog Try.f66.ntmps (at_ Try.f66 []) = some R66 := by kernel_rfl
theorem N70 : Try.f70.ntmps = 8 := by kernel_rfl
theorem Z70 : Try.f70.results.toList = ((List.toArray [(.tmp 3)]) : Array ResultVar).toList := by kernel_rfl
theorem B70 : Try.f70.body = some (at_ Try.f70 []) := by kernel_rfl
noncomputable def R70 : RC := (.seq (.reg [⟨(some 2), none, (.box 72 (.tmp 0))⟩, ⟨(some 3), none, (.mov (.const (.bool false)))⟩])
  (.seq (.reg [⟨(some 4), none, (.lda (.tmp 1) 16)⟩, ⟨(some 5), none, (.lda (.tmp 2) 7)⟩, ⟨(some 6), none, (.call ⟨(.value (.func 52)), (List.toArray [(.tmp 4), (.tmp 5)]), (List.toArray [65, 72])⟩ true)⟩, ⟨(some 7), none, (.pur ⟨(some 7), (.unOp .not 4 (.tmp 6)), 4, "", (List.toArray []), none⟩)⟩, ⟨(some 3), none, (.mov (.tmp 7))⟩])
  .ret))
theorem L70 : low Try.prog Try.f70.ntmps (at_ Try.f70 []) = some R70 := by kernel_rfl
theorem N71 : Try.f71.ntmps = 9 := by kernel_rfl
theorem Z71 : Try.f71.results.toList = ((List.toArray [(.tmp 4)]) : Array ResultVar).toList := by kernel_rfl
theorem B71 : Try.f71.body = some (at_ Try.f71 []) := by kernel_rfl
noncomputable def R71 : RC := (.seq (.reg [⟨(some 3), none, (.box 3 (.tmp 1))⟩, ⟨(some 4), none, (.mov (.const (.bool false)))⟩])
  (.seq (.reg [⟨(some 5), none, (.mov (.tmp 0))⟩, ⟨(some 6), none, (.pur ⟨(some 6), (.makeFunc (.func 82) (List.toArray []) (List.toArray [(.tmp 3)])), 117, "", (List.toArray []), none⟩)⟩, ⟨(some 7), none, (.call ⟨(.value (.func 81)), (List.toArray [(.tmp 5), (.tmp 6)]), (List.toArray [22, 117])⟩ true)⟩, ⟨(some 8), none, (.pur ⟨(some 8), (.unOp .not 4 (.tmp 7)), 4, "", (List.toArray []), none⟩)⟩, ⟨(some 4), none, (.mov (.tmp 8))⟩])
  .ret))
theorem L71 : low Try.prog Try.f71.ntmps (at_ Try.f71 []) = some R71 := by kernel_rfl
theorem N72 : Try.f72.ntmps = 21 := by kernel_rfl
theorem Z72 : Try.f72.results.toList = ((List.toArray [(.tmp 4)]) : Array ResultVar).toList := by kernel_rfl
theorem B72 : Try.f72.body = some (at_ Try.f72 []) := by kernel_rfl
noncomputable def R72 : RC := (.seq (.reg [⟨(some 2), none, (.box 24 (.tmp 0))⟩, ⟨(some 4), none, (.mov (.const (.bool false)))⟩])
  (.seq (.reg [⟨(some 5), none, (.addo (.tmp 2) 0)⟩, ⟨(some 6), none, (.ld (.tmp 5) 1)⟩, ⟨(some 7), none, (.cmpb .leq (.const (.int .i64 0)) (.tmp 6))⟩, ⟨(some 8), none, (.mov (.tmp 7))⟩, ⟨(some 9), (some (8, true)), (.addo (.tmp 2) 0)⟩, ⟨(some 10), (some (8, true)), (.ld (.tmp 9) 1)⟩, ⟨(some 11), (some (8, true)), (.addo (.tmp 2) 1)⟩, ⟨(some 12), (some (8, true)), (.ld (.tmp 11) 1)⟩, ⟨(some 13), (some (8, true)), (.cmpb .leq (.tmp 10) (.tmp 12))⟩, ⟨(some 14), none, (.pur ⟨(some 14), (.pick (.tmp 8) (.tmp 13) (.const (.bool false))), 4, "", (List.toArray []), none⟩)⟩, ⟨(some 15), none, (.mov (.tmp 14))⟩, ⟨(some 16), (some (15, true)), (.addo (.tmp 2) 1)⟩, ⟨(some 17), (some (15, true)), (.ld (.tmp 16) 1)⟩, ⟨(some 18), (some (15, true)), (.mov (.tmp 1))⟩, ⟨(some 19), (some (15, true)), (.cmpb .leq (.tmp 17) (.tmp 18))⟩, ⟨(some 20), none, (.pur ⟨(some 20), (.pick (.tmp 15) (.tmp 19) (.const (.bool false))), 4, "", (List.toArray []), none⟩)⟩, ⟨(some 4), none, (.mov (.tmp 20))⟩])
  .ret))
theorem L72 : low Try.prog Try.f72.ntmps (at_ Try.f72 []) = some R72 := by kernel_rfl
theorem N73 : Try.f73.ntmps = 12 := by kernel_rfl
theorem Z73 : Try.f73.results.toList = ((List.toArray [(.tmp 4)]) : Array ResultVar).toList := by kernel_rfl
theorem B73 : Try.f73.body = some (at_ Try.f73 []) := by kernel_rfl
noncomputable def R73 : RC := (.seq (.reg [⟨(some 4), none, (.mov (.const (.bool false)))⟩])
  (.seq (.reg [⟨(some 5), none, (.mov (.tmp 0))⟩, ⟨(some 6), none, (.cmpb .leq (.const (.int .i64 0)) (.tmp 5))⟩, ⟨(some 7), none, (.mov (.tmp 6))⟩, ⟨(some 8), (some (7, true)), (.mov (.tmp 0))⟩, ⟨(some 9), (some (7, true)), (.mov (.tmp 1))⟩, ⟨(some 10), (some (7, true)), (.cmpb .leq (.tmp 8) (.tmp 9))⟩, ⟨(some 11), none, (.pur ⟨(some 11), (.pick (.tmp 7) (.tmp 10) (.const (.bool false))), 4, "", (List.toArray []), none⟩)⟩, ⟨(some 4), none, (.mov (.tmp 11))⟩])
  .ret))
theorem L73 : low Try.prog Try.f73.ntmps (at_ Try.f73 []) = some R73 := by kernel_rfl
theorem N78 : Try.f78.ntmps = 10 := by kernel_rfl
theorem Z78 : Try.f78.results.toList = ((List.toArray [(.tmp 4)]) : Array ResultVar).toList := by kernel_rfl
theorem B78 : Try.f78.body = some (at_ Try.f78 []) := by kernel_rfl
noncomputable def R78 : RC := (.seq (.reg [⟨(some 4), none, (.mov (.const (.bool false)))⟩])
  (.seq (.reg [⟨(some 5), none, (.mov (.tmp 0))⟩, ⟨(some 6), none, (.mov (.tmp 1))⟩, ⟨(some 7), none, (.pur ⟨(some 7), (.binOp .shr 63 (.tmp 5) (.tmp 6) 3), 63, "", (List.toArray []), none⟩)⟩, ⟨(some 8), none, (.pur ⟨(some 8), (.binOp .and 63 (.tmp 7) (.const (.int .u64 1)) 63), 63, "", (List.toArray []), none⟩)⟩, ⟨(some 9), none, (.pur ⟨(some 9), (.binOp .eql 63 (.tmp 8) (.const (.int .u64 1)) 63), 4, "", (List.toArray []), none⟩)⟩, ⟨(some 4), none, (.mov (.tmp 9))⟩])
  .ret))
theorem L78 : low Try.prog Try.f78.ntmps (at_ Try.f78 []) = some R78 := by kernel_rfl
theorem N79 : Try.f79.ntmps = 69 := by kernel_rfl
theorem Z79 : Try.f79.results.toList = ((List.toArray []) : Array ResultVar).toList := by kernel_rfl
theorem B79 : Try.f79.body = some (at_ Try.f79 []) := by kernel_rfl
noncomputable def R79 : RC := (.seq (.reg [⟨(some 5), none, (.box 26 (.tmp 1))⟩])
  (.seq (.reg [⟨(some 8), none, (.alc 100 [])⟩])
  (.seq (.seq (.reg [⟨(some 9), none, (.mov (.tmp 3))⟩])
  (.cond (.tmp 9) (.reg [⟨(some 10), none, (.mov (.tmp 0))⟩, ⟨(some 11), none, (.lda (.tmp 8) 0)⟩, ⟨(some 12), none, (.pur ⟨(some 12), (.makeInterface 100 (.tmp 11)), 20, "", (List.toArray []), none⟩)⟩, ⟨(some 13), none, (.addo (.tmp 5) 6)⟩, ⟨(some 14), none, (.lda (.tmp 13) 2)⟩, ⟨(some 15), none, (.call ⟨(.invoke (.tmp 12) "fenberry/late.end"), (List.toArray [(.tmp 14)]), (List.toArray [24])⟩ true)⟩, ⟨(some 16), none, (.nilc (.tmp 10))⟩, ⟨(some 17), none, (.addo (.tmp 16) 0)⟩, ⟨none, none, (.st (.tmp 17) (.tmp 15))⟩])
  .skip))
  (.seq (.dreg [⟨(some 18), none, (.mov (.tmp 0))⟩, ⟨(some 19), none, (.nilc (.tmp 18))⟩, ⟨(some 20), none, (.addo (.tmp 19) 0)⟩, ⟨(some 21), none, (.ld (.tmp 20) 1)⟩, ⟨(some 22), none, (.lda (.tmp 8) 0)⟩, ⟨(some 23), none, (.pur ⟨(some 23), (.makeInterface 100 (.tmp 22)), 20, "", (List.toArray []), none⟩)⟩, ⟨(some 24), none, (.addo (.tmp 5) 1)⟩, ⟨(some 25), none, (.ld (.tmp 24) 1)⟩, ⟨(some 26), none, (.mov (.tmp 2))⟩, ⟨(some 27), none, (.idx (.tmp 25) (.tmp 26) 2)⟩, ⟨(some 28), none, (.lda (.tmp 27) 2)⟩, ⟨(some 29), none, (.call ⟨(.invoke (.tmp 23) "fenberry/late.end"), (List.toArray [(.tmp 28)]), (List.toArray [24])⟩ false)⟩, ⟨(some 30), none, (.lda (.tmp 8) 0)⟩, ⟨(some 31), none, (.pur ⟨(some 31), (.makeInterface 100 (.tmp 30)), 20, "", (List.toArray []), none⟩)⟩, ⟨(some 32), none, (.addo (.tmp 5) 2)⟩, ⟨(some 33), none, (.lda (.tmp 32) 2)⟩, ⟨(some 34), none, (.addo (.tmp 5) 0)⟩, ⟨(some 35), none, (.ld (.tmp 34) 1)⟩, ⟨(some 36), none, (.mov (.tmp 2))⟩, ⟨(some 37), none, (.idx (.tmp 35) (.tmp 36) 2)⟩, ⟨(some 38), none, (.lda (.tmp 37) 2)⟩, ⟨(some 39), none, (.call ⟨(.invoke (.tmp 31) "fenberry/late.used"), (List.toArray [(.tmp 33), (.tmp 38)]), (List.toArray [24, 24])⟩ false)⟩, ⟨(some 40), none, (.ari .sub (.tmp 29) (.tmp 39))⟩, ⟨(some 41), none, (.ari .add (.tmp 21) (.tmp 40))⟩, ⟨(some 42), none, (.nilc (.tmp 18))⟩, ⟨(some 43), none, (.addo (.tmp 42) 0)⟩, ⟨none, none, (.st (.tmp 43) (.tmp 41))⟩] [67108863, 33554431, 16777215, 8388607, 4194288, 2097136, 983040, 458752, 0, 65536, 0, 16384, 0, 4096, 0, 2032, 960, 448, 0, 64, 0, 16, 0, 7, 3, 1, 0])
  (.seq (.dreg [⟨(some 44), none, (.mov (.tmp 0))⟩, ⟨(some 45), none, (.mov (.tmp 0))⟩, ⟨(some 46), none, (.nilc (.tmp 45))⟩, ⟨(some 47), none, (.addo (.tmp 46) 0)⟩, ⟨(some 48), none, (.ld (.tmp 47) 1)⟩, ⟨(some 49), none, (.mm false (.const (.int .i64 0)) (.tmp 48))⟩, ⟨(some 50), none, (.addo (.tmp 5) 8)⟩, ⟨(some 51), none, (.ld (.tmp 50) 1)⟩, ⟨(some 52), none, (.mm true (.tmp 49) (.tmp 51))⟩, ⟨(some 53), none, (.nilc (.tmp 44))⟩, ⟨(some 54), none, (.addo (.tmp 53) 0)⟩, ⟨none, none, (.st (.tmp 54) (.tmp 52))⟩] [2047, 1023, 511, 254, 64, 0, 30, 14, 6, 2, 0, 0])
  (.seq (.dreg [⟨(some 55), none, (.mov (.tmp 0))⟩, ⟨(some 56), none, (.nilc (.tmp 55))⟩, ⟨(some 57), none, (.addo (.tmp 56) 0)⟩, ⟨(some 58), none, (.ld (.tmp 57) 1)⟩, ⟨(some 59), none, (.addo (.tmp 5) 11)⟩, ⟨(some 60), none, (.ld (.tmp 59) 1)⟩, ⟨(some 61), none, (.cmp .lss (.tmp 58) (.tmp 60))⟩] [63, 16, 0, 7, 3, 1, 0])
  (.cond (.tmp 61) (.reg [⟨(some 62), none, (.mov (.tmp 0))⟩, ⟨(some 63), none, (.nilc (.tmp 62))⟩, ⟨(some 64), none, (.addo (.tmp 63) 1)⟩, ⟨(some 65), none, (.ld (.tmp 64) 1)⟩, ⟨(some 66), none, (.ari .add (.tmp 65) (.const (.int .i64 1)))⟩, ⟨(some 67), none, (.nilc (.tmp 62))⟩, ⟨(some 68), none, (.addo (.tmp 67) 1)⟩, ⟨none, none, (.st (.tmp 68) (.tmp 66))⟩])
  .skip)))))))
theorem L79 : low Try.prog Try.f79.ntmps (at_ Try.f79 []) = some R79 := by kernel_rfl
theorem N80 : Try.f80.ntmps = 69 := by kernel_rfl
theorem Z80 : Try.f80.results.toList = ((List.toArray []) : Array ResultVar).toList := by kernel_rfl
theorem B80 : Try.f80.body = some (at_ Try.f80 []) := by kernel_rfl
noncomputable def R80 : RC := (.seq (.reg [⟨(some 5), none, (.box 26 (.tmp 1))⟩])
  (.seq (.reg [⟨(some 8), none, (.alc 102 [])⟩])
  (.seq (.seq (.reg [⟨(some 9), none, (.mov (.tmp 3))⟩])
  (.cond (.tmp 9) (.reg [⟨(some 10), none, (.mov (.tmp 0))⟩, ⟨(some 11), none, (.lda (.tmp 8) 0)⟩, ⟨(some 12), none, (.pur ⟨(some 12), (.makeInterface 102 (.tmp 11)), 20, "", (List.toArray []), none⟩)⟩, ⟨(some 13), none, (.addo (.tmp 5) 6)⟩, ⟨(some 14), none, (.lda (.tmp 13) 2)⟩, ⟨(some 15), none, (.call ⟨(.invoke (.tmp 12) "fenberry/late.end"), (List.toArray [(.tmp 14)]), (List.toArray [24])⟩ true)⟩, ⟨(some 16), none, (.nilc (.tmp 10))⟩, ⟨(some 17), none, (.addo (.tmp 16) 0)⟩, ⟨none, none, (.st (.tmp 17) (.tmp 15))⟩])
  .skip))
  (.seq (.dreg [⟨(some 18), none, (.mov (.tmp 0))⟩, ⟨(some 19), none, (.nilc (.tmp 18))⟩, ⟨(some 20), none, (.addo (.tmp 19) 0)⟩, ⟨(some 21), none, (.ld (.tmp 20) 1)⟩, ⟨(some 22), none, (.lda (.tmp 8) 0)⟩, ⟨(some 23), none, (.pur ⟨(some 23), (.makeInterface 102 (.tmp 22)), 20, "", (List.toArray []), none⟩)⟩, ⟨(some 24), none, (.addo (.tmp 5) 1)⟩, ⟨(some 25), none, (.ld (.tmp 24) 1)⟩, ⟨(some 26), none, (.mov (.tmp 2))⟩, ⟨(some 27), none, (.idx (.tmp 25) (.tmp 26) 2)⟩, ⟨(some 28), none, (.lda (.tmp 27) 2)⟩, ⟨(some 29), none, (.call ⟨(.invoke (.tmp 23) "fenberry/late.end"), (List.toArray [(.tmp 28)]), (List.toArray [24])⟩ false)⟩, ⟨(some 30), none, (.lda (.tmp 8) 0)⟩, ⟨(some 31), none, (.pur ⟨(some 31), (.makeInterface 102 (.tmp 30)), 20, "", (List.toArray []), none⟩)⟩, ⟨(some 32), none, (.addo (.tmp 5) 2)⟩, ⟨(some 33), none, (.lda (.tmp 32) 2)⟩, ⟨(some 34), none, (.addo (.tmp 5) 0)⟩, ⟨(some 35), none, (.ld (.tmp 34) 1)⟩, ⟨(some 36), none, (.mov (.tmp 2))⟩, ⟨(some 37), none, (.idx (.tmp 35) (.tmp 36) 2)⟩, ⟨(some 38), none, (.lda (.tmp 37) 2)⟩, ⟨(some 39), none, (.call ⟨(.invoke (.tmp 31) "fenberry/late.used"), (List.toArray [(.tmp 33), (.tmp 38)]), (List.toArray [24, 24])⟩ false)⟩, ⟨(some 40), none, (.ari .sub (.tmp 29) (.tmp 39))⟩, ⟨(some 41), none, (.ari .add (.tmp 21) (.tmp 40))⟩, ⟨(some 42), none, (.nilc (.tmp 18))⟩, ⟨(some 43), none, (.addo (.tmp 42) 0)⟩, ⟨none, none, (.st (.tmp 43) (.tmp 41))⟩] [67108863, 33554431, 16777215, 8388607, 4194288, 2097136, 983040, 458752, 0, 65536, 0, 16384, 0, 4096, 0, 2032, 960, 448, 0, 64, 0, 16, 0, 7, 3, 1, 0])
  (.seq (.dreg [⟨(some 44), none, (.mov (.tmp 0))⟩, ⟨(some 45), none, (.mov (.tmp 0))⟩, ⟨(some 46), none, (.nilc (.tmp 45))⟩, ⟨(some 47), none, (.addo (.tmp 46) 0)⟩, ⟨(some 48), none, (.ld (.tmp 47) 1)⟩, ⟨(some 49), none, (.mm false (.const (.int .i64 0)) (.tmp 48))⟩, ⟨(some 50), none, (.addo (.tmp 5) 8)⟩, ⟨(some 51), none, (.ld (.tmp 50) 1)⟩, ⟨(some 52), none, (.mm true (.tmp 49) (.tmp 51))⟩, ⟨(some 53), none, (.nilc (.tmp 44))⟩, ⟨(some 54), none, (.addo (.tmp 53) 0)⟩, ⟨none, none, (.st (.tmp 54) (.tmp 52))⟩] [2047, 1023, 511, 254, 64, 0, 30, 14, 6, 2, 0, 0])
  (.seq (.dreg [⟨(some 55), none, (.mov (.tmp 0))⟩, ⟨(some 56), none, (.nilc (.tmp 55))⟩, ⟨(some 57), none, (.addo (.tmp 56) 0)⟩, ⟨(some 58), none, (.ld (.tmp 57) 1)⟩, ⟨(some 59), none, (.addo (.tmp 5) 11)⟩, ⟨(some 60), none, (.ld (.tmp 59) 1)⟩, ⟨(some 61), none, (.cmp .lss (.tmp 58) (.tmp 60))⟩] [63, 16, 0, 7, 3, 1, 0])
  (.cond (.tmp 61) (.reg [⟨(some 62), none, (.mov (.tmp 0))⟩, ⟨(some 63), none, (.nilc (.tmp 62))⟩, ⟨(some 64), none, (.addo (.tmp 63) 1)⟩, ⟨(some 65), none, (.ld (.tmp 64) 1)⟩, ⟨(some 66), none, (.ari .add (.tmp 65) (.const (.int .i64 1)))⟩, ⟨(some 67), none, (.nilc (.tmp 62))⟩, ⟨(some 68), none, (.addo (.tmp 67) 1)⟩, ⟨none, none, (.st (.tmp 68) (.tmp 66))⟩])
  .skip)))))))
theorem L80 : low Try.prog Try.f80.ntmps (at_ Try.f80 []) = some R80 := by kernel_rfl
theorem N81 : Try.f81.ntmps = 9 := by kernel_rfl
theorem Z81 : Try.f81.results.toList = ((List.toArray [(.tmp 4)]) : Array ResultVar).toList := by kernel_rfl
theorem B81 : Try.f81.body = some (at_ Try.f81 []) := by kernel_rfl
noncomputable def R81 : RC := (.seq (.reg [⟨(some 4), none, (.mov (.const (.bool false)))⟩])
  (.seq (.reg [⟨(some 5), none, (.mov (.tmp 0))⟩, ⟨(some 6), none, (.mov (.tmp 1))⟩, ⟨(some 7), none, (.call ⟨(.value (.func 85)), (List.toArray [(.tmp 5), (.tmp 6)]), (List.toArray [22, 117])⟩ true)⟩, ⟨(some 8), none, (.cmp .geq (.tmp 7) (.const (.int .i64 0)))⟩, ⟨(some 4), none, (.mov (.tmp 8))⟩])
  .ret))
theorem L81 : low Try.prog Try.f81.ntmps (at_ Try.f81 []) = some R81 := by kernel_rfl
theorem N82 : Try.f82.ntmps = 8 := by kernel_rfl
theorem Z82 : Try.f82.results.toList = ((List.toArray [(.tmp 3)]) : Array ResultVar).toList := by kernel_rfl
theorem B82 : Try.f82.body = some (at_ Try.f82 []) := by kernel_rfl
noncomputable def R82 : RC := (.seq (.reg [⟨(some 2), none, (.box 24 (.tmp 0))⟩, ⟨(some 3), none, (.mov (.const (.bool false)))⟩])
  (.seq (.reg [⟨(some 4), none, (.lda (.tmp 2) 2)⟩, ⟨(some 5), none, (.ld (.tmp 1) 1)⟩, ⟨(some 6), none, (.call ⟨(.value (.func 72)), (List.toArray [(.tmp 4), (.tmp 5)]), (List.toArray [24, 3])⟩ true)⟩, ⟨(some 7), none, (.pur ⟨(some 7), (.unOp .not 4 (.tmp 6)), 4, "", (List.toArray []), none⟩)⟩, ⟨(some 3), none, (.mov (.tmp 7))⟩])
  .ret))
theorem L82 : low Try.prog Try.f82.ntmps (at_ Try.f82 []) = some R82 := by kernel_rfl
theorem N85 : Try.f85.ntmps = 19 := by kernel_rfl
theorem Z85 : Try.f85.results.toList = ((List.toArray [(.tmp 4)]) : Array ResultVar).toList := by kernel_rfl
theorem B85 : Try.f85.body = some (at_ Try.f85 []) := by kernel_rfl
noncomputable def R85 : RC := (.seq (.reg [⟨(some 4), none, (.mov (.const (.int .i64 0)))⟩])
  (.seq (.seq (.reg [⟨(some 6), none, (.mov (.tmp 0))⟩, ⟨(some 7), none, (.len (.tmp 6))⟩, ⟨(some 8), none, (.mov (.const (.int .i64 0)))⟩])
  (.block 0 (.other (at_ Try.f85 [1, 0, 1, 0]))))
  (.seq (.reg [⟨(some 4), none, (.mov (.const (.int .i64 (-1))))⟩])
  .ret)))
theorem L85 : low Try.prog Try.f85.ntmps (at_ Try.f85 []) = some R85 := by kernel_rfl
theorem E85_1 : at_ Try.f85 [1, 0, 1, 0] = .loop (at_ Try.f85 [1, 0, 1, 0, 0]) := by kernel_rfl
noncomputable def R85x1 : RC := (.seq (.reg [⟨(some 9), none, (.cmp .lss (.tmp 8) (.tmp 7))⟩])
  (.seq (.cond (.tmp 9) .skip
  (.exit 0))
  (.seq (.block 1 (.seq (.reg [⟨(some 10), none, (.mov (.tmp 8))⟩, ⟨(some 5), none, (.mov (.tmp 10))⟩])
  (.seq (.reg [⟨(some 11), none, (.mov (.tmp 1))⟩, ⟨(some 12), none, (.mov (.tmp 0))⟩, ⟨(some 13), none, (.mov (.tmp 5))⟩, ⟨(some 14), none, (.idx (.tmp 12) (.tmp 13) 2)⟩, ⟨(some 15), none, (.lda (.tmp 14) 2)⟩, ⟨(some 16), none, (.call ⟨(.value (.tmp 11)), (List.toArray [(.tmp 15)]), (List.toArray [24])⟩ true)⟩])
  (.cond (.tmp 16) (.seq (.reg [⟨(some 17), none, (.mov (.tmp 5))⟩, ⟨(some 4), none, (.mov (.tmp 17))⟩])
  .ret)
  .skip))))
  (.reg [⟨(some 18), none, (.ari .add (.tmp 8) (.const (.int .i64 1)))⟩, ⟨(some 8), none, (.mov (.tmp 18))⟩]))))
theorem L85x1 : low Try.prog Try.f85.ntmps (at_ Try.f85 [1, 0, 1, 0, 0]) = some R85x1 := by kernel_rfl
theorem N102 : Try.f102.ntmps = 7 := by kernel_rfl
theorem Z102 : Try.f102.results.toList = ((List.toArray [(.tmp 4)]) : Array ResultVar).toList := by kernel_rfl
theorem B102 : Try.f102.body = some (at_ Try.f102 []) := by kernel_rfl
noncomputable def R102 : RC := (.seq (.reg [⟨(some 2), none, (.box 100 (.tmp 0))⟩, ⟨(some 3), none, (.box 24 (.tmp 1))⟩, ⟨(some 4), none, (.mov (.const (.int .i64 0)))⟩])
  (.seq (.reg [⟨(some 5), none, (.addo (.tmp 3) 0)⟩, ⟨(some 6), none, (.ld (.tmp 5) 1)⟩, ⟨(some 4), none, (.mov (.tmp 6))⟩])
  .ret))
theorem L102 : low Try.prog Try.f102.ntmps (at_ Try.f102 []) = some R102 := by kernel_rfl
theorem N103 : Try.f103.ntmps = 14 := by kernel_rfl
theorem Z103 : Try.f103.results.toList = ((List.toArray [(.tmp 6)]) : Array ResultVar).toList := by kernel_rfl
theorem B103 : Try.f103.body = some (at_ Try.f103 []) := by kernel_rfl
noncomputable def R103 : RC := (.seq (.reg [⟨(some 3), none, (.box 100 (.tmp 0))⟩, ⟨(some 4), none, (.box 24 (.tmp 1))⟩, ⟨(some 5), none, (.box 24 (.tmp 2))⟩, ⟨(some 6), none, (.mov (.const (.int .i64 0)))⟩])
  (.seq (.reg [⟨(some 7), none, (.addo (.tmp 4) 1)⟩, ⟨(some 8), none, (.ld (.tmp 7) 1)⟩, ⟨(some 9), none, (.addo (.tmp 5) 1)⟩, ⟨(some 10), none, (.ld (.tmp 9) 1)⟩, ⟨(some 11), none, (.ari .mul (.tmp 8) (.tmp 10))⟩, ⟨(some 12), none, (.ari .add (.tmp 11) (.const (.int .i64 99)))⟩, ⟨(some 13), none, (.ari .quo (.tmp 12) (.const (.int .i64 100)))⟩, ⟨(some 6), none, (.mov (.tmp 13))⟩])
  .ret))
theorem L103 : low Try.prog Try.f103.ntmps (at_ Try.f103 []) = some R103 := by kernel_rfl
theorem N104 : Try.f104.ntmps = 7 := by kernel_rfl
theorem Z104 : Try.f104.results.toList = ((List.toArray [(.tmp 4)]) : Array ResultVar).toList := by kernel_rfl
theorem B104 : Try.f104.body = some (at_ Try.f104 []) := by kernel_rfl
noncomputable def R104 : RC := (.seq (.reg [⟨(some 2), none, (.box 102 (.tmp 0))⟩, ⟨(some 3), none, (.box 24 (.tmp 1))⟩, ⟨(some 4), none, (.mov (.const (.int .i64 0)))⟩])
  (.seq (.reg [⟨(some 5), none, (.addo (.tmp 3) 1)⟩, ⟨(some 6), none, (.ld (.tmp 5) 1)⟩, ⟨(some 4), none, (.mov (.tmp 6))⟩])
  .ret))
theorem L104 : low Try.prog Try.f104.ntmps (at_ Try.f104 []) = some R104 := by kernel_rfl
theorem N105 : Try.f105.ntmps = 13 := by kernel_rfl
theorem Z105 : Try.f105.results.toList = ((List.toArray [(.tmp 6)]) : Array ResultVar).toList := by kernel_rfl
theorem B105 : Try.f105.body = some (at_ Try.f105 []) := by kernel_rfl
noncomputable def R105 : RC := (.seq (.reg [⟨(some 3), none, (.box 102 (.tmp 0))⟩, ⟨(some 4), none, (.box 24 (.tmp 1))⟩, ⟨(some 5), none, (.box 24 (.tmp 2))⟩, ⟨(some 6), none, (.mov (.const (.int .i64 0)))⟩])
  (.seq (.reg [⟨(some 7), none, (.addo (.tmp 4) 0)⟩, ⟨(some 8), none, (.ld (.tmp 7) 1)⟩, ⟨(some 9), none, (.addo (.tmp 5) 0)⟩, ⟨(some 10), none, (.ld (.tmp 9) 1)⟩, ⟨(some 11), none, (.ari .mul (.tmp 8) (.tmp 10))⟩, ⟨(some 12), none, (.ari .quo (.tmp 11) (.const (.int .i64 100)))⟩, ⟨(some 6), none, (.mov (.tmp 12))⟩])
  .ret))
theorem L105 : low Try.prog Try.f105.ntmps (at_ Try.f105 []) = some R105 := by kernel_rfl
end Go.Ax

/-
  Late: contracts of what tells whether a forecast is valid, and of the little functions (written by program).
-/
namespace Go.Ax
open Go Go.RowKit Go.Proofs

section
variable {kn : FuncId → Option Bool} {lo : Nat} {H : Hp}
theorem within_ok {n m : Int} : ∃ H', FnX Try.prog kn lo 73 [iv n, iv m] H (.bool (inB n 0 m)) H' ∧ Keep H H' [] := by
  have key := fnX_low (kn := kn) (lo := lo) (H := H) (args := [iv n, iv m]) (Q := fun w H' => w = .bool (inB n 0 m) ∧ Keep H H' []) Try.func73 B73 N73 Z73 L73 (by simp) ?_
  · obtain ⟨w, H', h, rfl, q⟩ := key; exact ⟨H', h, q⟩
  repeat' first
    | (intro t ht; cases t)
    | exact And.intro trivial (Exists.intro _ (And.intro rfl ⟨by simp_all [retV, inB] <;> (intros; omega), Keep.refl _ _⟩))
    | refine And.intro rfl (Exists.intro _ (And.intro rfl ?_))
theorem span_ok {a b m : Int} : ∃ H', FnX Try.prog kn lo 72 [spv a b, iv m] H (.bool (spanB a b 0 m)) H' ∧ Keep H H' [] := by
  have key := fnX_low (kn := kn) (lo := lo) (H := H) (args := [spv a b, iv m]) (Q := fun w H' => w = .bool (spanB a b 0 m) ∧ Keep H H' []) Try.func72 B72 N72 Z72 L72 (by simp) ?_
  · obtain ⟨w, H', h, rfl, q⟩ := key; exact ⟨H', h, q⟩
  intro H1 hH1
  obtain ⟨k1, n1, c1⟩ := new_facts hH1
  repeat' first
    | refine Exists.intro _ (Exists.intro _ (And.intro c1.of (And.intro rfl ?_)))
    | (intro t ht; cases t)
    | exact And.intro trivial (Exists.intro _ (And.intro rfl ⟨by simp_all [retV, spanB] <;> (intros; omega), k1⟩))
    | refine And.intro rfl (Exists.intro _ (And.intro rfl ?_))
/-- areSpansWithin's closure -/
theorem out_ok {a b m : Int} {bm : Nat} (hm : Rd H bm [iv m]) : ∃ H', FnX Try.prog kn lo 82 [spv a b, pt bm] H (.bool (!spanB a b 0 m)) H' ∧ Keep H H' [] := by
  have key := fnX_low (kn := kn) (lo := lo) (H := H) (args := [spv a b, pt bm]) (Q := fun w H' => w = .bool (!spanB a b 0 m) ∧ Keep H H' []) Try.func82 B82 N82 Z82 L82 (by simp) ?_
  · obtain ⟨w, H', h, rfl, q⟩ := key; exact ⟨H', h, q⟩
  have hk := Keep.refl H []
  intro H1 hH1; obtain ⟨kH1, nH1, c1⟩ := new_facts hH1; clear hH1
  have mH1 := kH1.1
  have hk := hk.trans kH1
  have hm := kH1.rd hm (by simp)
  have c1 : Cl H1 H.next [iv a, iv b] := c1
  refine Exists.intro _ (Exists.intro _ (And.intro c1.of (And.intro (show row 2 _ _ = some [iv a, iv b] from rfl) ?_)))
  refine Exists.intro _ (Exists.intro _ (And.intro hm.of (And.intro rfl ?_)))
  refine callB span_ok ?_
  intro t H2 ht kH2
  have mH2 := kH2.1
  have hk := hk.trans kH2
  have hm := kH2.rd hm (by simp)
  have c1 := kH2.cl c1 (by simp)
  refine And.intro rfl (Exists.intro (.bool (!t)) (And.intro rfl ?_))
  exact And.intro trivial (Exists.intro _ (And.intro rfl ⟨by rw [ht]; rfl, hk⟩))
theorem index_ok {m : Int} {bm : Nat} {sa : Option Addr} {n cap : Nat} {us : List (Int × Int)} (hm : Rd H bm [iv m]) (hs : Sl H sa n cap (spc us)) (hn : n ≤ us.length) (hn2 : n ≤ 1000000) :
    ∃ j H', FnX Try.prog kn lo 85 [.slice sa n cap, .func (.func 82) #[] #[pt bm]] H (iv j) H' ∧ decide (j ≥ 0) = !((us.take n).all fun s => spanB s.1 s.2 0 m) ∧ Keep H H' [] := by
  have key := fnX_low (kn := kn) (lo := lo) (H := H) (args := [.slice sa n cap, .func (.func 82) #[] #[pt bm]]) (Q := fun w H' => ∃ j, w = iv j ∧ decide (j ≥ 0) = !((us.take n).all fun s => spanB s.1 s.2 0 m) ∧ Keep H H' []) Try.func85 B85 N85 Z85 L85 (by simp) ?_
  · obtain ⟨v, H', h, j, rfl, q⟩ := key; exact ⟨j, H', h, q⟩
  have hk := Keep.refl H []
  refine loop_low (fn := Try.f85) E85_1 N85 L85x1 (fun i : Nat => [(0, .slice sa n cap), (1, .func (.func 82) #[] #[pt bm]), (7, iv (n : Int)), (8, iv (i : Int))])
    (fun k i H' => i + k = n ∧ Keep H H' [] ∧ ((us.take i).all fun s => spanB s.1 s.2 0 m) = true) n 0 ⟨by omega, Keep.refl _ _, rfl⟩ ⟨rfl, rfl, rfl, rfl, trivial⟩ ?_
  rintro k i L1 ⟨hik, hki, hall⟩
  have hk := hk.trans hki
  have hm := hki.rd hm (by simp)
  have hs := hki.sl0 hs
  have kb := hki
  refine And.intro (fun q1 => ?_) (fun q1 => ?_)
  · have q1 : (i : Int) < (n : Int) := of_decide_eq_true q1
    have hi : i < n := by omega
    obtain ⟨x, hx⟩ := get_some (l := us) (i := i) (by omega)
    rcases hs with ⟨_, h0, _⟩ | ⟨sb, rfl, hsd, _⟩
    · omega
    have hst := all_step (f := fun s : Int × Int => spanB s.1 s.2 0 m) hx
    refine Exists.intro i (And.intro rfl (And.intro hi ?_))
    refine Exists.intro _ (Exists.intro _ (And.intro hsd.of (And.intro (spc_row hx) ?_)))
    obtain ⟨H1, fH1, kH1⟩ := out_ok (kn := kn) (lo := lo) (a := x.1) (b := x.2) hm
    refine Exists.intro _ (Exists.intro _ (And.intro (callX_func rfl (by simpa using fH1)) ?_))
    have mH1 := kH1.1
    have hk := hk.trans kH1
    have hm := kH1.rd hm (by simp)
    have kb := kb.trans kH1
    have hsd := kH1.rd hsd (by simp)
    cases hb : spanB x.1 x.2 0 m
    · refine condT ?_
      exact And.intro trivial (Exists.intro _ (And.intro rfl ⟨_, rfl, by rw [take_fail hx hi hb]; simp, hk⟩))
    · refine condF ?_
      refine And.intro ⟨by omega, by omega⟩ ?_
      exact ⟨k - 1, i + 1, by omega, ⟨by omega, kb, by rw [hst, hall, hb]; rfl⟩, rfl, rfl, rfl, rfl, trivial⟩
  · have q1 : ¬ ((i : Int) < (n : Int)) := of_decide_eq_false q1
    have e : i = n := by omega
    subst e
    exact And.intro trivial (Exists.intro _ (And.intro rfl ⟨-1, rfl, by rw [hall]; rfl, hk⟩))
theorem spans_ok {m : Int} {sa : Option Addr} {n cap : Nat} {us : List (Int × Int)} (hs : Sl H sa n cap (spc us)) (hl : us.length = n) (hn2 : n ≤ 1000000) :
    ∃ H', FnX Try.prog kn lo 71 [.slice sa n cap, iv m] H (.bool (us.all fun s => spanB s.1 s.2 0 m)) H' ∧ Keep H H' [] := by
  have key := fnX_low (kn := kn) (lo := lo) (H := H) (args := [.slice sa n cap, iv m]) (Q := fun w H' => w = .bool (us.all fun s => spanB s.1 s.2 0 m) ∧ Keep H H' []) Try.func71 B71 N71 Z71 L71 (by simp) ?_
  · obtain ⟨w, H', h, rfl, q⟩ := key; exact ⟨H', h, q⟩
  intro H1 hH1
  obtain ⟨k1, n1, c1⟩ := new_facts hH1
  refine And.intro rfl (Exists.intro (.func (.func 82) #[] #[pt H.next]) (And.intro (by kernel_rfl) ?_))
  refine callB (b := !(us.all fun s => spanB s.1 s.2 0 m)) ?_ ?_
  · have key := fnX_low (kn := kn) (lo := lo) (H := H1) (args := [.slice sa n cap, .func (.func 82) #[] #[pt H.next]]) (Q := fun v H' => v = .bool (!(us.all fun s => spanB s.1 s.2 0 m)) ∧ Keep H1 H' []) Try.func81 B81 N81 Z81 L81 (by simp) ?_
    · obtain ⟨v, H', h, rfl, q⟩ := key; exact ⟨H', h, q⟩
    obtain ⟨j, H3, h3, hj, k3⟩ := index_ok (kn := kn) (lo := lo) (m := m) c1.rd (k1.sl0 hs) (by omega) hn2
    refine Exists.intro _ (Exists.intro _ (And.intro (callX_args h3) ?_))
    rw [List.take_of_length_le (by omega)] at hj
    exact And.intro trivial (Exists.intro _ (And.intro rfl ⟨by rw [← hj]; rfl, k3⟩))
  intro t H3 ht k3
  refine And.intro rfl (Exists.intro (.bool (!t)) (And.intro rfl ?_))
  exact And.intro trivial (Exists.intro _ (And.intro rfl ⟨by rw [← ht]; simp [retV], k1.trans k3⟩))
theorem valid_ok {g : Lt} (hw : Sl H g.wa g.wn g.wcap (spc g.ws)) (ha : Sl H g.aa g.an g.acap (spc g.as)) (hwl : g.ws.length = g.wn) (hal : g.as.length = g.an) :
    ∃ H', FnX Try.prog kn lo 51 [.agg g.v.toArray] H (.bool g.ok) H' ∧ Keep H H' [] := by
  have key := fnX_low (kn := kn) (lo := lo) (H := H) (args := [.agg g.v.toArray]) (Q := fun w H' => w = .bool g.ok ∧ Keep H H' []) Try.func51 B51 N51 Z51 L51 (by simp) ?_
  · obtain ⟨w, H', h, rfl, q⟩ := key; exact ⟨H', h, q⟩
  have hk := Keep.refl H []
  intro H1 hH1; obtain ⟨kH1, nH1, c1⟩ := new_facts hH1; clear hH1
  have mH1 := kH1.1
  have hk := hk.trans kH1
  have hw := kH1.sl0 hw
  have ha := kH1.sl0 ha
  have c1 : Cl H1 H.next [.slice g.wa g.wn g.wcap, .slice g.aa g.an g.acap, iv g.r1, iv g.r2, iv g.f1, iv g.f2, iv g.g1, iv g.g2, iv g.full, iv g.base, iv g.kill, iv g.need, iv g.bear] := c1
  refine Exists.intro _ (Exists.intro _ (And.intro c1.of (And.intro (show _ = some (.slice g.wa g.wn g.wcap) from rfl) ?_)))
  refine Exists.intro _ (Exists.intro _ (And.intro c1.of (And.intro (show _ = some (.slice g.aa g.an g.acap) from rfl) ?_)))
  intro t1 g1; cases t1
  · have g1 : ¬ ((g.wn : Int) ≠ (g.an : Int)) := by simpa using g1
    refine Exists.intro _ (Exists.intro _ (And.intro c1.of (And.intro (show _ = some (.slice g.wa g.wn g.wcap) from rfl) ?_)))
    intro t2 g2; cases t2
    · have g2 : ¬ ((g.wn : Int) > 40) := of_decide_eq_false g2
      refine And.intro rfl (Exists.intro (.bool false) (And.intro rfl ?_))
      refine condF ?_
      refine Exists.intro _ (Exists.intro _ (And.intro c1.of (And.intro (show _ = some (.slice g.wa g.wn g.wcap) from rfl) ?_)))
      refine callB (spans_ok hw hwl (by omega)) ?_
      intro tH2 H2 hH2 kH2
      have mH2 := kH2.1
      have hk := hk.trans kH2
      have hw := kH2.sl0 hw
      have ha := kH2.sl0 ha
      have c1 := kH2.cl c1 (by simp)
      cases tH2
      · have h1 := hH2
        refine And.intro rfl (Exists.intro (.bool true) (And.intro rfl ?_))
        refine And.intro rfl (Exists.intro (.bool true) (And.intro rfl ?_))
        refine And.intro rfl (Exists.intro (.bool true) (And.intro rfl ?_))
        refine condT ?_
        have e1 : decide (g.wn = g.an) = true := decide_eq_true (by omega)
        have e2 : decide (g.wn ≤ 40) = true := decide_eq_true (by omega)
        have e : g.ok = false := by unfold Lt.ok; simp only [e1, e2, h1, Bool.and_true, Bool.true_and, Bool.and_false, Bool.false_and]
        exact And.intro trivial (Exists.intro _ (And.intro rfl ⟨by rw [e]; rfl, hk⟩))
      · have h1 := hH2
        refine And.intro rfl (Exists.intro (.bool false) (And.intro rfl ?_))
        refine Exists.intro _ (Exists.intro _ (And.intro c1.of (And.intro (show _ = some (.slice g.aa g.an g.acap) from rfl) ?_)))
        refine callB (spans_ok ha hal (by omega)) ?_
        intro tH3 H3 hH3 kH3
        have mH3 := kH3.1
        have hk := hk.trans kH3
        have hw := kH3.sl0 hw
        have ha := kH3.sl0 ha
        have c1 := kH3.cl c1 (by simp)
        cases tH3
        · have h2 := hH3
          refine And.intro rfl (Exists.intro (.bool true) (And.intro rfl ?_))
          refine And.intro rfl (Exists.intro (.bool true) (And.intro rfl ?_))
          refine And.intro rfl (Exists.intro (.bool true) (And.intro rfl ?_))
          refine condT ?_
          have e1 : decide (g.wn = g.an) = true := decide_eq_true (by omega)
          have e2 : decide (g.wn ≤ 40) = true := decide_eq_true (by omega)
          have e : g.ok = false := by unfold Lt.ok; simp only [e1, e2, h1, h2, Bool.and_true, Bool.true_and, Bool.and_false, Bool.false_and]
          exact And.intro trivial (Exists.intro _ (And.intro rfl ⟨by rw [e]; rfl, hk⟩))
        · have h2 := hH3
          refine And.intro rfl (Exists.intro (.bool false) (And.intro rfl ?_))
          refine And.intro rfl (Exists.intro (.bool false) (And.intro rfl ?_))
          refine Exists.intro _ (Exists.intro _ (And.intro c1.of (And.intro (show row 2 _ _ = some [iv g.r1, iv g.r2] from rfl) ?_)))
          refine callB (span_ok) ?_
          intro tH4 H4 hH4 kH4
          have mH4 := kH4.1
          have hk := hk.trans kH4
          have hw := kH4.sl0 hw
          have ha := kH4.sl0 ha
          have c1 := kH4.cl c1 (by simp)
          cases tH4
          · have h3 := hH4
            refine And.intro rfl (Exists.intro (.bool true) (And.intro rfl ?_))
            refine And.intro rfl (Exists.intro (.bool true) (And.intro rfl ?_))
            refine condT ?_
            have e1 : decide (g.wn = g.an) = true := decide_eq_true (by omega)
            have e2 : decide (g.wn ≤ 40) = true := decide_eq_true (by omega)
            have e : g.ok = false := by unfold Lt.ok; simp only [e1, e2, h1, h2, h3, Bool.and_true, Bool.true_and, Bool.and_false, Bool.false_and]
            exact And.intro trivial (Exists.intro _ (And.intro rfl ⟨by rw [e]; rfl, hk⟩))
          · have h3 := hH4
            refine And.intro rfl (Exists.intro (.bool false) (And.intro rfl ?_))
            refine And.intro rfl (Exists.intro (.bool false) (And.intro rfl ?_))
            refine condF ?_
            refine Exists.intro _ (Exists.intro _ (And.intro c1.of (And.intro (show _ = some (iv g.full) from rfl) ?_)))
            refine callB (within_ok) ?_
            intro tH5 H5 hH5 kH5
            have mH5 := kH5.1
            have hk := hk.trans kH5
            have hw := kH5.sl0 hw
            have ha := kH5.sl0 ha
            have c1 := kH5.cl c1 (by simp)
            cases tH5
            · have h4 := hH5
              refine And.intro rfl (Exists.intro (.bool true) (And.intro rfl ?_))
              refine And.intro rfl (Exists.intro (.bool true) (And.intro rfl ?_))
              refine And.intro rfl (Exists.intro (.bool true) (And.intro rfl ?_))
              refine condT ?_
              have e1 : decide (g.wn = g.an) = true := decide_eq_true (by omega)
              have e2 : decide (g.wn ≤ 40) = true := decide_eq_true (by omega)
              have e : g.ok = false := by unfold Lt.ok; simp only [e1, e2, h1, h2, h3, h4, Bool.and_true, Bool.true_and, Bool.and_false, Bool.false_and]
              exact And.intro trivial (Exists.intro _ (And.intro rfl ⟨by rw [e]; rfl, hk⟩))
            · have h4 := hH5
              refine And.intro rfl (Exists.intro (.bool false) (And.intro rfl ?_))
              refine Exists.intro _ (Exists.intro _ (And.intro c1.of (And.intro (show row 2 _ _ = some [iv g.f1, iv g.f2] from rfl) ?_)))
              refine Exists.intro _ (Exists.intro _ (And.intro c1.of (And.intro (show _ = some (iv g.full) from rfl) ?_)))
              refine callB (span_ok) ?_
              intro tH6 H6 hH6 kH6
              have mH6 := kH6.1
              have hk := hk.trans kH6
              have hw := kH6.sl0 hw
              have ha := kH6.sl0 ha
              have c1 := kH6.cl c1 (by simp)
              cases tH6
              · have h5 := hH6
                refine And.intro rfl (Exists.intro (.bool true) (And.intro rfl ?_))
                refine And.intro rfl (Exists.intro (.bool true) (And.intro rfl ?_))
                refine And.intro rfl (Exists.intro (.bool true) (And.intro rfl ?_))
                refine condT ?_
                have e1 : decide (g.wn = g.an) = true := decide_eq_true (by omega)
                have e2 : decide (g.wn ≤ 40) = true := decide_eq_true (by omega)
                have e : g.ok = false := by unfold Lt.ok; simp only [e1, e2, h1, h2, h3, h4, h5, Bool.and_true, Bool.true_and, Bool.and_false, Bool.false_and]
                exact And.intro trivial (Exists.intro _ (And.intro rfl ⟨by rw [e]; rfl, hk⟩))
              · have h5 := hH6
                refine And.intro rfl (Exists.intro (.bool false) (And.intro rfl ?_))
                refine And.intro rfl (Exists.intro (.bool false) (And.intro rfl ?_))
                refine Exists.intro _ (Exists.intro _ (And.intro c1.of (And.intro (show row 2 _ _ = some [iv g.g1, iv g.g2] from rfl) ?_)))
                refine Exists.intro _ (Exists.intro _ (And.intro c1.of (And.intro (show _ = some (iv g.full) from rfl) ?_)))
                refine callB (span_ok) ?_
                intro tH7 H7 hH7 kH7
                have mH7 := kH7.1
                have hk := hk.trans kH7
                have hw := kH7.sl0 hw
                have ha := kH7.sl0 ha
                have c1 := kH7.cl c1 (by simp)
                cases tH7
                · have h6 := hH7
                  refine And.intro rfl (Exists.intro (.bool true) (And.intro rfl ?_))
                  refine And.intro rfl (Exists.intro (.bool true) (And.intro rfl ?_))
                  refine condT ?_
                  have e1 : decide (g.wn = g.an) = true := decide_eq_true (by omega)
                  have e2 : decide (g.wn ≤ 40) = true := decide_eq_true (by omega)
                  have e : g.ok = false := by unfold Lt.ok; simp only [e1, e2, h1, h2, h3, h4, h5, h6, Bool.and_true, Bool.true_and, Bool.and_false, Bool.false_and]
                  exact And.intro trivial (Exists.intro _ (And.intro rfl ⟨by rw [e]; rfl, hk⟩))
                · have h6 := hH7
                  refine And.intro rfl (Exists.intro (.bool false) (And.intro rfl ?_))
                  refine And.intro rfl (Exists.intro (.bool false) (And.intro rfl ?_))
                  refine condF ?_
                  refine Exists.intro _ (Exists.intro _ (And.intro c1.of (And.intro (show _ = some (iv g.base) from rfl) ?_)))
                  refine callB (within_ok) ?_
                  intro tH8 H8 hH8 kH8
                  have mH8 := kH8.1
                  have hk := hk.trans kH8
                  have hw := kH8.sl0 hw
                  have ha := kH8.sl0 ha
                  have c1 := kH8.cl c1 (by simp)
                  cases tH8
                  · have h7 := hH8
                    refine And.intro rfl (Exists.intro (.bool false) (And.intro rfl ?_))
                    refine And.intro rfl (Exists.intro (.bool false) (And.intro rfl ?_))
                    refine And.intro rfl (Exists.intro (.bool false) (And.intro rfl ?_))
                    have e1 : decide (g.wn = g.an) = true := decide_eq_true (by omega)
                    have e2 : decide (g.wn ≤ 40) = true := decide_eq_true (by omega)
                    have e : g.ok = false := by unfold Lt.ok; simp only [e1, e2, h1, h2, h3, h4, h5, h6, h7, Bool.and_true, Bool.true_and, Bool.and_false, Bool.false_and]
                    exact And.intro trivial (Exists.intro _ (And.intro rfl ⟨by rw [e]; rfl, hk⟩))
                  · have h7 := hH8
                    refine Exists.intro _ (Exists.intro _ (And.intro c1.of (And.intro (show _ = some (iv g.kill) from rfl) ?_)))
                    refine callB (within_ok) ?_
                    intro tH9 H9 hH9 kH9
                    have mH9 := kH9.1
                    have hk := hk.trans kH9
                    have hw := kH9.sl0 hw
                    have ha := kH9.sl0 ha
                    have c1 := kH9.cl c1 (by simp)
                    cases tH9
                    · have h8 := hH9
                      refine And.intro rfl (Exists.intro (.bool false) (And.intro rfl ?_))
                      refine And.intro rfl (Exists.intro (.bool false) (And.intro rfl ?_))
                      refine And.intro rfl (Exists.intro (.bool false) (And.intro rfl ?_))
                      have e1 : decide (g.wn = g.an) = true := decide_eq_true (by omega)
                      have e2 : decide (g.wn ≤ 40) = true := decide_eq_true (by omega)
                      have e : g.ok = false := by unfold Lt.ok; simp only [e1, e2, h1, h2, h3, h4, h5, h6, h7, h8, Bool.and_true, Bool.true_and, Bool.and_false, Bool.false_and]
                      exact And.intro trivial (Exists.intro _ (And.intro rfl ⟨by rw [e]; rfl, hk⟩))
                    · have h8 := hH9
                      refine And.intro rfl (Exists.intro (.bool true) (And.intro rfl ?_))
                      refine Exists.intro _ (Exists.intro _ (And.intro c1.of (And.intro (show _ = some (iv g.need) from rfl) ?_)))
                      refine callB (within_ok) ?_
                      intro tH10 H10 hH10 kH10
                      have mH10 := kH10.1
                      have hk := hk.trans kH10
                      have hw := kH10.sl0 hw
                      have ha := kH10.sl0 ha
                      have c1 := kH10.cl c1 (by simp)
                      cases tH10
                      · have h9 := hH10
                        refine And.intro rfl (Exists.intro (.bool false) (And.intro rfl ?_))
                        refine And.intro rfl (Exists.intro (.bool false) (And.intro rfl ?_))
                        have e1 : decide (g.wn = g.an) = true := decide_eq_true (by omega)
                        have e2 : decide (g.wn ≤ 40) = true := decide_eq_true (by omega)
                        have e : g.ok = false := by unfold Lt.ok; simp only [e1, e2, h1, h2, h3, h4, h5, h6, h7, h8, h9, Bool.and_true, Bool.true_and, Bool.and_false, Bool.false_and]
                        exact And.intro trivial (Exists.intro _ (And.intro rfl ⟨by rw [e]; rfl, hk⟩))
                      · have h9 := hH10
                        refine And.intro rfl (Exists.intro (.bool true) (And.intro rfl ?_))
                        refine Exists.intro _ (Exists.intro _ (And.intro c1.of (And.intro (show _ = some (iv g.bear) from rfl) ?_)))
                        refine callB (within_ok) ?_
                        intro tH11 H11 hH11 kH11
                        have mH11 := kH11.1
                        have hk := hk.trans kH11
                        have hw := kH11.sl0 hw
                        have ha := kH11.sl0 ha
                        have c1 := kH11.cl c1 (by simp)
                        cases tH11
                        · have h10 := hH11
                          refine And.intro rfl (Exists.intro (.bool false) (And.intro rfl ?_))
                          have e1 : decide (g.wn = g.an) = true := decide_eq_true (by omega)
                          have e2 : decide (g.wn ≤ 40) = true := decide_eq_true (by omega)
                          have e : g.ok = false := by unfold Lt.ok; simp only [e1, e2, h1, h2, h3, h4, h5, h6, h7, h8, h9, h10, Bool.and_true, Bool.true_and, Bool.and_false, Bool.false_and]
                          exact And.intro trivial (Exists.intro _ (And.intro rfl ⟨by rw [e]; rfl, hk⟩))
                        · have h10 := hH11
                          refine And.intro rfl (Exists.intro (.bool true) (And.intro rfl ?_))
                          have e1 : decide (g.wn = g.an) = true := decide_eq_true (by omega)
                          have e2 : decide (g.wn ≤ 40) = true := decide_eq_true (by omega)
                          have e : g.ok = true := by unfold Lt.ok; simp only [e1, e2, h1, h2, h3, h4, h5, h6, h7, h8, h9, h10, Bool.and_true, Bool.true_and, Bool.and_false, Bool.false_and]
                          exact And.intro trivial (Exists.intro _ (And.intro rfl ⟨by rw [e]; rfl, hk⟩))
    · have g2 : (g.wn : Int) > 40 := of_decide_eq_true g2
      refine And.intro rfl (Exists.intro (.bool true) (And.intro rfl ?_))
      refine condT ?_
      have e2 : decide (g.wn ≤ 40) = false := decide_eq_false (by omega)
      have e : g.ok = false := by unfold Lt.ok; simp only [e2, Bool.and_true, Bool.true_and, Bool.and_false, Bool.false_and]
      exact And.intro trivial (Exists.intro _ (And.intro rfl ⟨by rw [e]; rfl, hk⟩))
  · have g1 : (g.wn : Int) ≠ (g.an : Int) := by simpa using g1
    refine And.intro rfl (Exists.intro (.bool true) (And.intro rfl ?_))
    refine condT ?_
    have e1 : decide (g.wn = g.an) = false := decide_eq_false (by omega)
    have e : g.ok = false := by unfold Lt.ok; simp only [e1, Bool.and_true, Bool.true_and, Bool.and_false, Bool.false_and]
    exact And.intro trivial (Exists.intro _ (And.intro rfl ⟨by rw [e]; rfl, hk⟩))
end
end Go.Ax

/-
  Late: sets of days as bits.
-/
namespace Go.Ax
open Go Go.RowKit Go.Proofs

theorem wrap_u64 {x : Int} (h : 0 ≤ x ∧ x < 18446744073709551616) : IntKind.u64.wrap x = x := by
  unfold IntKind.wrap IntKind.bits IntKind.signed
  simp
  omega
theorem pow_lt {d : Nat} (h : d < 64) : 2 ^ d < 18446744073709551616 := by
  have := Nat.pow_lt_pow_right (a := 2) (by decide) h
  simpa using this
theorem pr_shr {P : Program} {t : TypeId} {x y : Operand} {m d : Nat} (h : d < 64) : prun P (do eqGuard .shr t x y (.int .u64 (m : Int)) (.int .i64 (d : Int)); binOp .shr t (.int .u64 (m : Int)) (.int .i64 (d : Int))) = some (.int .u64 ((m / 2 ^ d : Nat) : Int)) := by
  show prun P (Op.shift .shr .u64 (m : Int) .i64 (d : Int)) = _
  unfold Op.shift
  rw [if_neg (by omega)]
  show some (Value.int .u64 ((m : Int).fdiv (2 ^ min d 64))) = _
  rw [Nat.min_eq_left (by omega), Int.fdiv_eq_ediv_of_nonneg _ (by exact Int.le_of_lt (Int.pow_pos (by decide)))]
  congr 2
theorem pr_shl {P : Program} {t : TypeId} {x y : Operand} {d : Nat} (h : d < 64) : prun P (do eqGuard .shl t x y (.int .u64 1) (.int .i64 (d : Int)); binOp .shl t (.int .u64 1) (.int .i64 (d : Int))) = some (.int .u64 ((2 ^ d : Nat) : Int)) := by
  show prun P (Op.shift .shl .u64 1 .i64 (d : Int)) = _
  unfold Op.shift
  rw [if_neg (by omega)]
  show some (Value.int .u64 (IntKind.u64.wrap (1 * 2 ^ min d 64))) = _
  rw [Nat.min_eq_left (by omega)]
  have := pow_lt h
  have e : (1 : Int) * 2 ^ d = ((2 ^ d : Nat) : Int) := by rw [Int.one_mul, Int.natCast_pow]; rfl
  have h2 : ((2 ^ d : Nat) : Int) < 18446744073709551616 := by
    have := Int.ofNat_lt.2 this
    exact this
  rw [e, wrap_u64 ⟨Int.natCast_nonneg _, h2⟩]
theorem pr_and1 {P : Program} {t : TypeId} {x y : Operand} {m : Nat} : prun P (do eqGuard .and t x y (.int .u64 (m : Int)) (.int .u64 1); binOp .and t (.int .u64 (m : Int)) (.int .u64 1)) = some (.int .u64 ((m % 2 : Nat) : Int)) := by
  show some (Value.int .u64 (IntKind.u64.wrap ((BitVec.ofInt 64 (m : Int) &&& BitVec.ofInt 64 1).toNat : Int))) = _
  have e : (BitVec.ofInt 64 (m : Int) &&& BitVec.ofInt 64 1).toNat = m % 2 := by
    have h1 : BitVec.ofInt 64 (m : Int) = BitVec.ofNat 64 m := by simp
    rw [h1, BitVec.toNat_and]
    simp [Nat.and_one_is_mod]
  rw [e, wrap_u64 ⟨by omega, by omega⟩]
theorem pr_or {P : Program} {t : TypeId} {x y : Operand} {m n : Nat} (hm : m < 18446744073709551616) (hn : n < 18446744073709551616) : prun P (do eqGuard .or t x y (.int .u64 (m : Int)) (.int .u64 (n : Int)); binOp .or t (.int .u64 (m : Int)) (.int .u64 (n : Int))) = some (.int .u64 ((m ||| n : Nat) : Int)) := by
  show some (Value.int .u64 (IntKind.u64.wrap ((BitVec.ofInt 64 (m : Int) ||| BitVec.ofInt 64 (n : Int)).toNat : Int))) = _
  have hb : m ||| n < 18446744073709551616 := Nat.or_lt_two_pow (n := 64) hm hn
  have e : (BitVec.ofInt 64 (m : Int) ||| BitVec.ofInt 64 (n : Int)).toNat = m ||| n := by
    have h1 : BitVec.ofInt 64 (m : Int) = BitVec.ofNat 64 m := by simp
    have h2 : BitVec.ofInt 64 (n : Int) = BitVec.ofNat 64 n := by simp
    rw [h1, h2, BitVec.toNat_or]
    simp only [BitVec.toNat_ofNat]
    rw [Nat.mod_eq_of_lt hm, Nat.mod_eq_of_lt hn]
  rw [e, wrap_u64 ⟨by omega, by omega⟩]
section
variable {n : Nat} {S : Rg} {x y : Operand} {o : Option Tmp} {t1 : TypeId}
theorem pure_shr {m d : Nat} (h : d < 64) (hx : evS S x = some (.int .u64 (m : Int))) (hy : evS S y = some (iv d)) : pureOp Try.prog (frS n S) ⟨o, .binOp .shr 63 x y 3, 63, "", #[], none⟩ = some (.int .u64 ((m / 2 ^ d : Nat) : Int)) := by
  unfold pureOp
  simp only [ev_frS, hx, hy, flat, flat1, Bool.and_self, cond_true, pr_shr h]
theorem pure_shl {d : Nat} (h : d < 64) (hy : evS S y = some (iv d)) : pureOp Try.prog (frS n S) ⟨o, .binOp .shl 63 (.const (.int .u64 1)) y 3, 63, "", #[], none⟩ = some (.int .u64 ((2 ^ d : Nat) : Int)) := by
  have hx : evS S (.const (.int .u64 1)) = some (.int .u64 1) := rfl
  unfold pureOp
  simp only [ev_frS, hx, hy, flat, flat1, Bool.and_self, cond_true, pr_shl h]
theorem pure_and1 {m : Nat} (hx : evS S x = some (.int .u64 (m : Int))) : pureOp Try.prog (frS n S) ⟨o, .binOp .and 63 x (.const (.int .u64 1)) 63, 63, "", #[], none⟩ = some (.int .u64 ((m % 2 : Nat) : Int)) := by
  have hy : evS S (.const (.int .u64 1)) = some (.int .u64 1) := rfl
  unfold pureOp
  simp only [ev_frS, hx, hy, flat, flat1, Bool.and_self, cond_true, pr_and1]
theorem pure_or {m k : Nat} (hm : m < 18446744073709551616) (hk : k < 18446744073709551616) (hx : evS S x = some (.int .u64 (m : Int))) (hy : evS S y = some (.int .u64 (k : Int))) : pureOp Try.prog (frS n S) ⟨o, .binOp .or 63 x y 63, 63, "", #[], none⟩ = some (.int .u64 ((m ||| k : Nat) : Int)) := by
  unfold pureOp
  simp only [ev_frS, hx, hy, flat, flat1, Bool.and_self, cond_true, pr_or hm hk]
theorem pure_eq1 {m : Nat} (hx : evS S x = some (.int .u64 (m : Int))) : pureOp Try.prog (frS n S) ⟨o, .binOp .eql 63 x (.const (.int .u64 1)) 63, 4, "", #[], none⟩ = some (.bool (decide (m = 1))) := by
  have hy : evS S (.const (.int .u64 1)) = some (.int .u64 1) := rfl
  have e : ∀ z : Int, prun Try.prog (do eqGuard .eql 63 x (.const (.int .u64 1)) (.int .u64 z) (.int .u64 1); binOp .eql 63 (.int .u64 z) (.int .u64 1)) = some (.bool (z == 1)) := fun z => rfl
  unfold pureOp
  simp only [ev_frS, hx, hy, flat, flat1, Bool.and_self, cond_true, e]
  congr 2
  by_cases h : m = 1
  · subst h; rfl
  · rw [decide_eq_false h]
    have : ¬ (m : Int) = 1 := by omega
    simpa using this
end
section
variable {kn : FuncId → Option Bool} {lo : Nat} {H : Hp}
theorem has_ok {m d : Nat} {dv : Int} (hdv : dv = (d : Int)) (h : d < 64) : FnX Try.prog kn lo 78 [.int .u64 (m : Int), iv dv] H (.bool (m.testBit d)) H := by
  subst hdv
  have key := fnX_low (kn := kn) (lo := lo) (H := H) (args := [.int .u64 (m : Int), iv d]) (Q := fun v H' => v = .bool (m.testBit d) ∧ H' = H) Try.func78 B78 N78 Z78 L78 (by simp) ?_
  · obtain ⟨v, H', h, rfl, rfl⟩ := key; exact h
  refine And.intro rfl (Exists.intro _ (And.intro (pure_shr h rfl rfl) ?_))
  refine And.intro rfl (Exists.intro _ (And.intro (pure_and1 rfl) ?_))
  refine And.intro rfl (Exists.intro _ (And.intro (pure_eq1 rfl) ?_))
  exact And.intro trivial (Exists.intro _ (And.intro rfl ⟨by rw [Nat.testBit_eq_decide_div_mod_eq]; rfl, rfl⟩))
end
/-- the days of a list, as bits -/
def dayMask (l : List Int) : Nat := l.foldl (fun m d => m ||| 2 ^ d.toNat) 0
theorem dayMask_snoc (l : List Int) (d : Int) : dayMask (l ++ [d]) = dayMask l ||| 2 ^ d.toNat := by simp [dayMask, List.foldl_append]
theorem dayMask_bit : ∀ (l : List Int) (m k : Nat), (∀ d ∈ l, 0 ≤ d) → (l.foldl (fun m d => m ||| 2 ^ d.toNat) m).testBit k = (m.testBit k || l.contains (k : Int))
  | [], m, k, _ => by simp
  | d :: l, m, k, h => by
    rw [List.foldl_cons, dayMask_bit l _ k fun x hx => h x (by simp [hx]), Nat.testBit_or, Nat.testBit_two_pow, List.contains_cons]
    have h0 := h d (by simp)
    have e : decide (d.toNat = k) = ((k : Int) == d) := by
      by_cases q : d.toNat = k
      · have q2 : (k : Int) = d := by omega
        rw [decide_eq_true q]; simp [q2]
      · have q2 : ¬ (k : Int) = d := by omega
        rw [decide_eq_false q]; symm; simpa using q2
    rw [e, Bool.or_assoc]
theorem dayMask_has {l : List Int} (h : ∀ d ∈ l, 0 ≤ d) (k : Nat) : (dayMask l).testBit k = l.contains (k : Int) := by
  unfold dayMask
  rw [dayMask_bit l 0 k h]; simp
theorem dayMask_lt : ∀ (l : List Int) (m : Nat), m < 18446744073709551616 → (∀ d ∈ l, d < 64) → l.foldl (fun m d => m ||| 2 ^ d.toNat) m < 18446744073709551616
  | [], m, h, _ => h
  | d :: l, m, h, hl => by
    rw [List.foldl_cons]
    have := hl d (by simp)
    exact dayMask_lt l _ (Nat.or_lt_two_pow (n := 64) h (pow_lt (by omega))) fun x hx => hl x (by simp [hx])
theorem mask_lt {l : List Int} (h : ∀ d ∈ l, d < 64) : dayMask l < 18446744073709551616 := dayMask_lt l 0 (by decide) h
end Go.Ax

/-
  Late: a day, and the little functions (102 to 105, 44, 42, 48, 64, 65, 57, 79, 80) (written by program).
-/
namespace Go.Ax
open Go Go.RowKit Go.Proofs

theorem endM : methodV Try.prog 100 (.agg #[]) "fenberry/late.end" = some (102, .agg #[]) := by kernel_rfl
theorem usedM : methodV Try.prog 100 (.agg #[]) "fenberry/late.used" = some (103, .agg #[]) := by kernel_rfl
theorem endN : methodV Try.prog 102 (.agg #[]) "fenberry/late.end" = some (104, .agg #[]) := by kernel_rfl
theorem usedN : methodV Try.prog 102 (.agg #[]) "fenberry/late.used" = some (105, .agg #[]) := by kernel_rfl
theorem i24s : ∃ i, Try.prog.info? 24 = some i ∧ i.size = 2 := by
  have h : (Try.prog.info? 24).map (fun i => i.size) = some 2 := by kernel_rfl
  cases e : Try.prog.info? 24 with
  | none => rw [e] at h; cases h
  | some i => rw [e] at h; simp at h; exact ⟨i, rfl, h⟩
theorem a24 : isAggB Try.prog 24 = some true := by kernel_rfl
theorem i69s : ∃ i, Try.prog.info? 69 = some i ∧ i.size = 2 := by
  have h : (Try.prog.info? 69).map (fun i => i.size) = some 2 := by kernel_rfl
  cases e : Try.prog.info? 69 with
  | none => rw [e] at h; cases h
  | some i => rw [e] at h; simp at h; exact ⟨i, rfl, h⟩
theorem a69 : isAggB Try.prog 69 = some true := by kernel_rfl
theorem i70s : ∃ i, Try.prog.info? 70 = some i ∧ i.size = 2 := by
  have h : (Try.prog.info? 70).map (fun i => i.size) = some 2 := by kernel_rfl
  cases e : Try.prog.info? 70 with
  | none => rw [e] at h; cases h
  | some i => rw [e] at h; simp at h; exact ⟨i, rfl, h⟩
theorem a70 : isAggB Try.prog 70 = some true := by kernel_rfl
theorem i72s : ∃ i, Try.prog.info? 72 = some i ∧ i.size = 7 := by
  have h : (Try.prog.info? 72).map (fun i => i.size) = some 7 := by kernel_rfl
  cases e : Try.prog.info? 72 with
  | none => rw [e] at h; cases h
  | some i => rw [e] at h; simp at h; exact ⟨i, rfl, h⟩
theorem a72 : isAggB Try.prog 72 = some true := by kernel_rfl
theorem i65s : ∃ i, Try.prog.info? 65 = some i ∧ i.size = 16 := by
  have h : (Try.prog.info? 65).map (fun i => i.size) = some 16 := by kernel_rfl
  cases e : Try.prog.info? 65 with
  | none => rw [e] at h; cases h
  | some i => rw [e] at h; simp at h; exact ⟨i, rfl, h⟩
theorem a65 : isAggB Try.prog 65 = some true := by kernel_rfl
theorem i61s : ∃ i, Try.prog.info? 61 = some i ∧ i.size = 2 := by
  have h : (Try.prog.info? 61).map (fun i => i.size) = some 2 := by kernel_rfl
  cases e : Try.prog.info? 61 with
  | none => rw [e] at h; cases h
  | some i => rw [e] at h; simp at h; exact ⟨i, rfl, h⟩
theorem a61 : isAggB Try.prog 61 = some true := by kernel_rfl
theorem res_cell {P : Program} {S : Rg} {H : Hp} {a x n : Nat} {t : TypeId} {cs : List Value} (ha : lk S a = some (.pointer (some ⟨x, 0, none⟩))) (h1 : isAggB P t = some true) (hi : ∃ i, P.info? t = some i ∧ i.size = n) (hl : cs.length = n) (h : Cl H x cs) : resS P S H [.cell a t] = some [.agg cs.toArray] := by
  simp only [resS, ha, load_agg h1 hi h.rd hl]
section
variable {kn : FuncId → Option Bool} {lo : Nat} {H : Hp}
theorem end102_ok {a b : Int} : ∃ H', FnX Try.prog kn lo 102 [.agg #[], spv a b] H (iv a) H' ∧ Keep H H' [] := by
  have key := fnX_low (kn := kn) (lo := lo) (H := H) (args := [.agg #[], spv a b]) (Q := fun w H' => w = iv a ∧ Keep H H' []) Try.func102 B102 N102 Z102 L102 (by simp) ?_
  · obtain ⟨w, H', h, rfl, q⟩ := key; exact ⟨H', h, q⟩
  have hk := Keep.refl H []
  intro H1 hH1; obtain ⟨kH1, nH1, c1⟩ := new_facts hH1; clear hH1
  have mH1 := kH1.1
  have hk := hk.trans kH1
  have c1 : Cl H1 H.next [] := c1
  intro H2 hH2; obtain ⟨kH2, nH2, c2⟩ := new_facts hH2; clear hH2
  have mH2 := kH2.1
  have hk := hk.trans kH2
  have c1 := kH2.cl c1 (by simp)
  have c2 : Cl H2 H1.next [iv a, iv b] := c2
  refine Exists.intro _ (Exists.intro _ (And.intro c2.of (And.intro (show _ = some (iv a) from rfl) ?_)))
  exact And.intro trivial (Exists.intro _ (And.intro rfl ⟨rfl, hk⟩))
theorem end104_ok {a b : Int} : ∃ H', FnX Try.prog kn lo 104 [.agg #[], spv a b] H (iv b) H' ∧ Keep H H' [] := by
  have key := fnX_low (kn := kn) (lo := lo) (H := H) (args := [.agg #[], spv a b]) (Q := fun w H' => w = iv b ∧ Keep H H' []) Try.func104 B104 N104 Z104 L104 (by simp) ?_
  · obtain ⟨w, H', h, rfl, q⟩ := key; exact ⟨H', h, q⟩
  have hk := Keep.refl H []
  intro H1 hH1; obtain ⟨kH1, nH1, c1⟩ := new_facts hH1; clear hH1
  have mH1 := kH1.1
  have hk := hk.trans kH1
  have c1 : Cl H1 H.next [] := c1
  intro H2 hH2; obtain ⟨kH2, nH2, c2⟩ := new_facts hH2; clear hH2
  have mH2 := kH2.1
  have hk := hk.trans kH2
  have c1 := kH2.cl c1 (by simp)
  have c2 : Cl H2 H1.next [iv a, iv b] := c2
  refine Exists.intro _ (Exists.intro _ (And.intro c2.of (And.intro (show _ = some (iv b) from rfl) ?_)))
  exact And.intro trivial (Exists.intro _ (And.intro rfl ⟨rfl, hk⟩))
theorem used103_ok {a b c d : Int} (hr : 0 ≤ b ∧ b ≤ 1000) (hw : 0 ≤ d ∧ d ≤ 5000) : ∃ H', FnX Try.prog kn lo 103 [.agg #[], spv a b, spv c d] H (iv ((b * d + 99) / 100)) H' ∧ Keep H H' [] := by
  have key := fnX_low (kn := kn) (lo := lo) (H := H) (args := [.agg #[], spv a b, spv c d]) (Q := fun w H' => w = iv ((b * d + 99) / 100) ∧ Keep H H' []) Try.func103 B103 N103 Z103 L103 (by simp) ?_
  · obtain ⟨w, H', h, rfl, q⟩ := key; exact ⟨H', h, q⟩
  have mr := mul_rng hr hw
  have hk := Keep.refl H []
  intro H1 hH1; obtain ⟨kH1, nH1, c1⟩ := new_facts hH1; clear hH1
  have mH1 := kH1.1
  have hk := hk.trans kH1
  have c1 : Cl H1 H.next [] := c1
  intro H2 hH2; obtain ⟨kH2, nH2, c2⟩ := new_facts hH2; clear hH2
  have mH2 := kH2.1
  have hk := hk.trans kH2
  have c1 := kH2.cl c1 (by simp)
  have c2 : Cl H2 H1.next [iv a, iv b] := c2
  intro H3 hH3; obtain ⟨kH3, nH3, c3⟩ := new_facts hH3; clear hH3
  have mH3 := kH3.1
  have hk := hk.trans kH3
  have c1 := kH3.cl c1 (by simp)
  have c2 := kH3.cl c2 (by simp)
  have c3 : Cl H3 H2.next [iv c, iv d] := c3
  refine Exists.intro _ (Exists.intro _ (And.intro c2.of (And.intro (show _ = some (iv b) from rfl) ?_)))
  refine Exists.intro _ (Exists.intro _ (And.intro c3.of (And.intro (show _ = some (iv d) from rfl) ?_)))
  refine And.intro ⟨by omega, by omega⟩ ?_
  refine And.intro ⟨by omega, by omega⟩ ?_
  refine And.intro (by omega) (And.intro (by omega) (And.intro ⟨by omega, by omega⟩ ?_))
  exact And.intro trivial (Exists.intro _ (And.intro rfl ⟨rfl, hk⟩))
theorem used105_ok {a b c d : Int} (hr : 0 ≤ a ∧ a ≤ 1000) (hw : 0 ≤ c ∧ c ≤ 5000) : ∃ H', FnX Try.prog kn lo 105 [.agg #[], spv a b, spv c d] H (iv (a * c / 100)) H' ∧ Keep H H' [] := by
  have key := fnX_low (kn := kn) (lo := lo) (H := H) (args := [.agg #[], spv a b, spv c d]) (Q := fun w H' => w = iv (a * c / 100) ∧ Keep H H' []) Try.func105 B105 N105 Z105 L105 (by simp) ?_
  · obtain ⟨w, H', h, rfl, q⟩ := key; exact ⟨H', h, q⟩
  have mr := mul_rng hr hw
  have hk := Keep.refl H []
  intro H1 hH1; obtain ⟨kH1, nH1, c1⟩ := new_facts hH1; clear hH1
  have mH1 := kH1.1
  have hk := hk.trans kH1
  have c1 : Cl H1 H.next [] := c1
  intro H2 hH2; obtain ⟨kH2, nH2, c2⟩ := new_facts hH2; clear hH2
  have mH2 := kH2.1
  have hk := hk.trans kH2
  have c1 := kH2.cl c1 (by simp)
  have c2 : Cl H2 H1.next [iv a, iv b] := c2
  intro H3 hH3; obtain ⟨kH3, nH3, c3⟩ := new_facts hH3; clear hH3
  have mH3 := kH3.1
  have hk := hk.trans kH3
  have c1 := kH3.cl c1 (by simp)
  have c2 := kH3.cl c2 (by simp)
  have c3 : Cl H3 H2.next [iv c, iv d] := c3
  refine Exists.intro _ (Exists.intro _ (And.intro c2.of (And.intro (show _ = some (iv a) from rfl) ?_)))
  refine Exists.intro _ (Exists.intro _ (And.intro c3.of (And.intro (show _ = some (iv c) from rfl) ?_)))
  refine And.intro ⟨by omega, by omega⟩ ?_
  refine And.intro (by omega) (And.intro (by omega) (And.intro ⟨by omega, by omega⟩ ?_))
  exact And.intro trivial (Exists.intro _ (And.intro rfl ⟨rfl, hk⟩))
def sureV (a s : Bool) : Int := bif a then 2 else bif s then 1 else 0
theorem bound64_ok {a b : Int} (hlo : lo ≤ H.next) : ∃ H', FnX Try.prog kn lo 64 [spv a b] H (.agg #[iv a, iv 0]) H' ∧ Keep H H' [] := by
  have key := fnX_low (kn := kn) (lo := lo) (H := H) (args := [spv a b]) (Q := fun w H' => w = .agg #[iv a, iv 0] ∧ Keep H H' []) Try.func64 B64 N64 Z64 L64 (by simp) ?_
  · obtain ⟨w, H', h, rfl, q⟩ := key; exact ⟨H', h, q⟩
  have hk := Keep.refl H []
  intro H1 hH1; obtain ⟨kH1, nH1, c1⟩ := new_facts hH1; clear hH1
  have mH1 := kH1.1
  have hk := hk.trans kH1
  have c1 : Cl H1 H.next [iv a, iv b] := c1
  intro H2 hH2; obtain ⟨kH2, nH2, c2⟩ := new_facts hH2; clear hH2
  have c2 : Cl H2 H1.next [iv 0, iv 0] := c2
  have mH2 := kH2.1
  have hk := hk.trans kH2
  have c1 := kH2.cl c1 (by simp)
  intro H3 hH3; obtain ⟨kH3, nH3, c3⟩ := new_facts hH3; clear hH3
  have c3 : Cl H3 H2.next [] := c3
  have mH3 := kH3.1
  have hk := hk.trans kH3
  have c1 := kH3.cl c1 (by simp)
  have c2 := kH3.cl c2 (by simp)
  refine Exists.intro _ (Exists.intro _ (And.intro c3.of (And.intro (show row 0 _ _ = some [] from rfl) ?_)))
  refine And.intro rfl (Exists.intro (.iface 100 (.agg #[])) (And.intro (by kernel_rfl) ?_))
  refine Exists.intro _ (Exists.intro _ (And.intro c1.of (And.intro (show row 2 _ _ = some [iv a, iv b] from rfl) ?_)))
  obtain ⟨H4, fH4, kH4⟩ := end102_ok (kn := kn) (lo := lo) (H := H3) (a := a) (b := b)
  refine Exists.intro _ (Exists.intro _ (And.intro (callX_method endM fH4) ?_))
  have mH4 := kH4.1
  have hk := hk.trans kH4
  have c1 := kH4.cl c1 (by simp)
  have c2 := kH4.cl c2 (by simp)
  have c3 := kH4.cl c3 (by simp)
  refine And.intro rfl (Exists.intro (.agg #[iv a, iv 0]) (And.intro (by kernel_rfl) ?_))
  obtain ⟨_, eH5, lH5, gH5⟩ := id c2
  refine Exists.intro _ (Exists.intro _ (Exists.intro _ (And.intro gH5 (And.intro (by omega) (And.intro rfl (And.intro rfl (And.intro (by simp) ?_)))))))
  intro H5 hH5; obtain ⟨kH5, nH5, sH5⟩ := up_facts c2 hH5; clear hH5
  have mH5 := kH5.1
  have hk := hk.new kH5 (fun b hb => by simp at hb ⊢; omega)
  have c1 := kH5.cl c1 (by first | (simp; done) | (simp; omega))
  have c3 := kH5.cl c3 (by first | (simp; done) | (simp; omega))
  have c2 : Cl H5 H1.next [iv a, iv 0] := sH5
  exact And.intro trivial (Exists.intro _ (And.intro (res_cell rfl a69 i69s rfl c2) ⟨rfl, hk⟩))
theorem bound65_ok {a b : Int} (hlo : lo ≤ H.next) : ∃ H', FnX Try.prog kn lo 65 [spv a b] H (.agg #[iv b, iv 0]) H' ∧ Keep H H' [] := by
  have key := fnX_low (kn := kn) (lo := lo) (H := H) (args := [spv a b]) (Q := fun w H' => w = .agg #[iv b, iv 0] ∧ Keep H H' []) Try.func65 B65 N65 Z65 L65 (by simp) ?_
  · obtain ⟨w, H', h, rfl, q⟩ := key; exact ⟨H', h, q⟩
  have hk := Keep.refl H []
  intro H1 hH1; obtain ⟨kH1, nH1, c1⟩ := new_facts hH1; clear hH1
  have mH1 := kH1.1
  have hk := hk.trans kH1
  have c1 : Cl H1 H.next [iv a, iv b] := c1
  intro H2 hH2; obtain ⟨kH2, nH2, c2⟩ := new_facts hH2; clear hH2
  have c2 : Cl H2 H1.next [iv 0, iv 0] := c2
  have mH2 := kH2.1
  have hk := hk.trans kH2
  have c1 := kH2.cl c1 (by simp)
  intro H3 hH3; obtain ⟨kH3, nH3, c3⟩ := new_facts hH3; clear hH3
  have c3 : Cl H3 H2.next [] := c3
  have mH3 := kH3.1
  have hk := hk.trans kH3
  have c1 := kH3.cl c1 (by simp)
  have c2 := kH3.cl c2 (by simp)
  refine Exists.intro _ (Exists.intro _ (And.intro c3.of (And.intro (show row 0 _ _ = some [] from rfl) ?_)))
  refine And.intro rfl (Exists.intro (.iface 102 (.agg #[])) (And.intro (by kernel_rfl) ?_))
  refine Exists.intro _ (Exists.intro _ (And.intro c1.of (And.intro (show row 2 _ _ = some [iv a, iv b] from rfl) ?_)))
  obtain ⟨H4, fH4, kH4⟩ := end104_ok (kn := kn) (lo := lo) (H := H3) (a := a) (b := b)
  refine Exists.intro _ (Exists.intro _ (And.intro (callX_method endN fH4) ?_))
  have mH4 := kH4.1
  have hk := hk.trans kH4
  have c1 := kH4.cl c1 (by simp)
  have c2 := kH4.cl c2 (by simp)
  have c3 := kH4.cl c3 (by simp)
  refine And.intro rfl (Exists.intro (.agg #[iv b, iv 0]) (And.intro (by kernel_rfl) ?_))
  obtain ⟨_, eH5, lH5, gH5⟩ := id c2
  refine Exists.intro _ (Exists.intro _ (Exists.intro _ (And.intro gH5 (And.intro (by omega) (And.intro rfl (And.intro rfl (And.intro (by simp) ?_)))))))
  intro H5 hH5; obtain ⟨kH5, nH5, sH5⟩ := up_facts c2 hH5; clear hH5
  have mH5 := kH5.1
  have hk := hk.new kH5 (fun b hb => by simp at hb ⊢; omega)
  have c1 := kH5.cl c1 (by first | (simp; done) | (simp; omega))
  have c3 := kH5.cl c3 (by first | (simp; done) | (simp; omega))
  have c2 : Cl H5 H1.next [iv b, iv 0] := sH5
  exact And.intro trivial (Exists.intro _ (And.intro (res_cell rfl a70 i70s rfl c2) ⟨rfl, hk⟩))
theorem none48_ok (hlo : lo ≤ H.next) : ∃ H', FnX Try.prog kn lo 48 [] H (.agg #[iv (-1), iv 0, iv 0, iv 0, iv 0, iv 0, iv 0]) H' ∧ Keep H H' [] := by
  have key := fnX_low (kn := kn) (lo := lo) (H := H) (args := []) (Q := fun w H' => w = .agg #[iv (-1), iv 0, iv 0, iv 0, iv 0, iv 0, iv 0] ∧ Keep H H' []) Try.func48 B48 N48 Z48 L48 (by simp) ?_
  · obtain ⟨w, H', h, rfl, q⟩ := key; exact ⟨H', h, q⟩
  have hk := Keep.refl H []
  intro H1 hH1; obtain ⟨kH1, nH1, c1⟩ := new_facts hH1; clear hH1
  have c1 : Cl H1 H.next [iv 0, iv 0, iv 0, iv 0, iv 0, iv 0, iv 0] := c1
  have mH1 := kH1.1
  have hk := hk.trans kH1
  refine And.intro rfl (Exists.intro (.agg #[iv (-1), iv 0, iv 0, iv 0, iv 0, iv 0, iv 0]) (And.intro (by kernel_rfl) ?_))
  obtain ⟨_, eH2, lH2, gH2⟩ := id c1
  refine Exists.intro _ (Exists.intro _ (Exists.intro _ (And.intro gH2 (And.intro (by omega) (And.intro rfl (And.intro rfl (And.intro (by simp) ?_)))))))
  intro H2 hH2; obtain ⟨kH2, nH2, sH2⟩ := up_facts c1 hH2; clear hH2
  have mH2 := kH2.1
  have hk := hk.new kH2 (fun b hb => by simp at hb ⊢; omega)
  have c1 : Cl H2 H.next [iv (-1), iv 0, iv 0, iv 0, iv 0, iv 0, iv 0] := sH2
  exact And.intro trivial (Exists.intro _ (And.intro (res_cell rfl a72 i72s rfl c1) ⟨rfl, hk⟩))
theorem passL_ok {g : Lt} (v : g.Vd) {b day : Nat} {dv : Int} {fr : Bool} {n wl wh l sl h sm : Int} (hdv : dv = (day : Int)) (hday : day < g.wn) (c : Cl H b [iv n, iv wl, iv wh, iv l, iv sl, iv h, iv sm]) (hox : 0 ≤ l ∧ l ≤ g.full) (hsu : 0 ≤ sl ∧ sl ≤ 1000) (hlb : lo ≤ b)
    (hw : Sl H g.wa g.wn g.wcap (spc g.ws)) (ha : Sl H g.aa g.an g.acap (spc g.as)) (fw : ∀ x, g.wa = some ⟨x, 0, none⟩ → x ≠ b) (fa : ∀ x, g.aa = some ⟨x, 0, none⟩ → x ≠ b) :
    ∃ H', FnX Try.prog kn lo 79 [.pointer (some ⟨b, 3, none⟩), .agg g.v.toArray, iv dv, .bool fr] H unit H' ∧ Keep H H' [b] ∧ Cl H' b [iv n, iv wl, iv wh, iv (g.loDay l fr day), iv (bif decide (g.loDay l fr day < g.need) then sl + 1 else sl), iv h, iv sm] := by
  subst hdv
  have key := fnX_low (kn := kn) (lo := lo) (H := H) (args := [.pointer (some ⟨b, 3, none⟩), .agg g.v.toArray, iv (day : Int), .bool fr]) (Q := fun w H' => w = unit ∧ Keep H H' [b] ∧ Cl H' b [iv n, iv wl, iv wh, iv (g.loDay l fr day), iv (bif decide (g.loDay l fr day < g.need) then sl + 1 else sl), iv h, iv sm]) Try.func79 B79 N79 Z79 L79 (by simp) ?_
  · obtain ⟨w, H', h, rfl, q⟩ := key; exact ⟨H', h, q⟩
  have hk := Keep.refl H [b]
  have hfu := v.fu; have hr := v.r; have hgr := v.gr; have hnn := v.n
  have hW := Lt.W_in v hday
  have hA := Lt.A_in v hday
  have hmu := mul_rng (a := g.r2) (b := (g.W day).2) (p := 1000) (q := 5000) ⟨by omega, by omega⟩ ⟨by omega, by omega⟩
  have hmv := mul_rng (a := g.r1) (b := (g.W day).1) (p := 1000) (q := 5000) ⟨by omega, by omega⟩ ⟨by omega, by omega⟩
  have ltb := c.lt
  rcases hw with ⟨_, h0, _⟩ | ⟨wb, ewa, hwd, _⟩
  · omega
  rcases ha with ⟨_, h0, _⟩ | ⟨ab, eaa, had, _⟩
  · omega
  have nwb := fw wb ewa
  have nab := fa ab eaa
  cases fr
  · intro H1 hH1; obtain ⟨kH1, nH1, c1⟩ := new_facts hH1; clear hH1
    have mH1 := kH1.1
    have hk := hk.trans (kH1.mono (by simp))
    have c := kH1.cl c (by simp)
    have hwd := kH1.rd hwd (by simp)
    have had := kH1.rd had (by simp)
    have c1 : Cl H1 H.next [.slice g.wa g.wn g.wcap, .slice g.aa g.an g.acap, iv g.r1, iv g.r2, iv g.f1, iv g.f2, iv g.g1, iv g.g2, iv g.full, iv g.base, iv g.kill, iv g.need, iv g.bear] := c1
    intro H2 hH2; obtain ⟨kH2, nH2, c2⟩ := new_facts hH2; clear hH2
    have c2 : Cl H2 H1.next [] := c2
    have mH2 := kH2.1
    have hk := hk.trans (kH2.mono (by simp))
    have c := kH2.cl c (by simp)
    have hwd := kH2.rd hwd (by simp)
    have had := kH2.rd had (by simp)
    have c1 := kH2.cl c1 (by simp)
    refine condF ?_
    refine wD_seq ?_
    refine wD_mov (v := .pointer (some ⟨b, 3, none⟩)) rfl ?_
    refine wD_nilc (a := ⟨b, 3, none⟩) rfl ?_
    refine wD_addo (b := b) (o := 3) rfl ?_
    refine wD_ld (b := b) (o := 3) (v := iv l) rfl c.rd rfl ?_
    refine wD_lda (b := H1.next) (o := 0) rfl c2.rd (show row 0 _ _ = some [] from rfl) ?_
    refine wD_pur (v := .iface 100 (.agg #[])) rfl (by kernel_rfl) ?_
    refine wD_addo (b := H.next) (o := 0) rfl ?_
    refine wD_ld (b := H.next) (o := 1) (v := .slice (some ⟨ab, 0, none⟩) g.an g.acap) rfl c1.rd (show _ = some (Value.slice (some ⟨ab, 0, none⟩) g.an g.acap) from by rw [← eaa]; rfl) ?_
    refine wD_mov (v := iv (day : Int)) rfl ?_
    refine wD_idx (b := ab) (o := 0) (k := day) (j := (day : Int)) rfl rfl rfl (by omega) ?_
    refine wD_lda (b := ab) (o := 0 + day * 2) rfl had (spc_row hA.1) ?_
    obtain ⟨H3, fH3, kH3⟩ := end102_ok (kn := kn) (lo := H2.next) (H := H2) (a := (g.A day).1) (b := (g.A day).2)
    refine wD_callh (vs := [.iface 100 (.agg #[]), spv ((g.A day).1) ((g.A day).2)]) rfl (by kernel_rfl) (callX_method endM fH3) ?_
    have mH3 := kH3.1
    have hk := hk.trans (kH3.mono (by simp))
    have c := kH3.cl c (by simp)
    have hwd := kH3.rd hwd (by simp)
    have had := kH3.rd had (by simp)
    have c1 := kH3.cl c1 (by simp)
    have c2 := kH3.cl c2 (by simp)
    refine wD_lda (b := H1.next) (o := 0) rfl c2.rd (show row 0 _ _ = some [] from rfl) ?_
    refine wD_pur (v := .iface 100 (.agg #[])) rfl (by kernel_rfl) ?_
    refine wD_addo (b := H.next) (o := 0) rfl ?_
    refine wD_lda (b := H.next) (o := 2) rfl c1.rd (show row 2 _ _ = some [iv g.r1, iv g.r2] from rfl) ?_
    refine wD_addo (b := H.next) (o := 0) rfl ?_
    refine wD_ld (b := H.next) (o := 0) (v := .slice (some ⟨wb, 0, none⟩) g.wn g.wcap) rfl c1.rd (show _ = some (Value.slice (some ⟨wb, 0, none⟩) g.wn g.wcap) from by rw [← ewa]; rfl) ?_
    refine wD_mov (v := iv (day : Int)) rfl ?_
    refine wD_idx (b := wb) (o := 0) (k := day) (j := (day : Int)) rfl rfl rfl (by omega) ?_
    refine wD_lda (b := wb) (o := 0 + day * 2) rfl hwd (spc_row hW.1) ?_
    obtain ⟨H4, fH4, kH4⟩ := used103_ok (kn := kn) (lo := H3.next) (H := H3) (a := g.r1) (b := g.r2) (c := (g.W day).1) (d := (g.W day).2) ⟨by omega, by omega⟩ ⟨by omega, by omega⟩
    refine wD_callh (vs := [.iface 100 (.agg #[]), spv g.r1 g.r2, spv ((g.W day).1) ((g.W day).2)]) rfl (by kernel_rfl) (callX_method usedM fH4) ?_
    have mH4 := kH4.1
    have hk := hk.trans (kH4.mono (by simp))
    have c := kH4.cl c (by simp)
    have hwd := kH4.rd hwd (by simp)
    have had := kH4.rd had (by simp)
    have c1 := kH4.cl c1 (by simp)
    have c2 := kH4.cl c2 (by simp)
    refine wD_sub (a := (g.A day).1) (b := (g.r2 * (g.W day).2 + 99) / 100) rfl rfl ⟨by omega, by omega⟩ ?_
    refine wD_add (a := l) (b := ((g.A day).1) - ((g.r2 * (g.W day).2 + 99) / 100)) rfl rfl ⟨by omega, by omega⟩ ?_
    refine wD_nilc (a := ⟨b, 3, none⟩) rfl ?_
    refine wD_addo (b := b) (o := 3) rfl ?_
    refine wD_st (b := b) (o := 3) rfl rfl c hlb rfl rfl (by simp) ?_
    intro H5 kH5 nH5 sH5
    have mH5 := kH5.1
    have hk := hk.new kH5 (fun b hb => by simp at hb ⊢; omega)
    have hwd := kH5.rd hwd (by first | (simp; done) | (simp; omega))
    have had := kH5.rd had (by first | (simp; done) | (simp; omega))
    have c1 := kH5.cl c1 (by first | (simp; done) | (simp; omega))
    have c2 := kH5.cl c2 (by first | (simp; done) | (simp; omega))
    have c : Cl H5 b [iv n, iv wl, iv wh, iv (l + (((g.A day).1) - ((g.r2 * (g.W day).2 + 99) / 100))), iv sl, iv h, iv sm] := sH5
    refine wD_end (by repeat' first | exact True.intro | exact (fun h => h) | refine And.intro ?_ ?_ | (intro h; have h : (_ : Nat) = _ := h; omega)) ?_
    refine wD_seq ?_
    refine wD_mov (v := .pointer (some ⟨b, 3, none⟩)) rfl ?_
    refine wD_mov (v := .pointer (some ⟨b, 3, none⟩)) rfl ?_
    refine wD_nilc (a := ⟨b, 3, none⟩) rfl ?_
    refine wD_addo (b := b) (o := 3) rfl ?_
    refine wD_ld (b := b) (o := 3) (v := iv (l + (((g.A day).1) - ((g.r2 * (g.W day).2 + 99) / 100)))) rfl c.rd rfl ?_
    refine wD_mm (a := 0) (b := l + (((g.A day).1) - ((g.r2 * (g.W day).2 + 99) / 100))) rfl rfl ?_
    refine wD_addo (b := H.next) (o := 0) rfl ?_
    refine wD_ld (b := H.next) (o := 8) (v := iv g.full) rfl c1.rd rfl ?_
    refine wD_mm (a := max 0 (l + (((g.A day).1) - ((g.r2 * (g.W day).2 + 99) / 100)))) (b := g.full) rfl rfl ?_
    refine wD_nilc (a := ⟨b, 3, none⟩) rfl ?_
    refine wD_addo (b := b) (o := 3) rfl ?_
    refine wD_st (b := b) (o := 3) rfl rfl c hlb rfl rfl (by simp) ?_
    intro H6 kH6 nH6 sH6
    have mH6 := kH6.1
    have hk := hk.new kH6 (fun b hb => by simp at hb ⊢; omega)
    have hwd := kH6.rd hwd (by first | (simp; done) | (simp; omega))
    have had := kH6.rd had (by first | (simp; done) | (simp; omega))
    have c1 := kH6.cl c1 (by first | (simp; done) | (simp; omega))
    have c2 := kH6.cl c2 (by first | (simp; done) | (simp; omega))
    have c : Cl H6 b [iv n, iv wl, iv wh, iv (min (max 0 (l + (((g.A day).1) - ((g.r2 * (g.W day).2 + 99) / 100)))) g.full), iv sl, iv h, iv sm] := sH6
    refine wD_end (by repeat' first | exact True.intro | exact (fun h => h) | refine And.intro ?_ ?_ | (intro h; have h : (_ : Nat) = _ := h; omega)) ?_
    refine wD_seq ?_
    refine wD_mov (v := .pointer (some ⟨b, 3, none⟩)) rfl ?_
    refine wD_nilc (a := ⟨b, 3, none⟩) rfl ?_
    refine wD_addo (b := b) (o := 3) rfl ?_
    refine wD_ld (b := b) (o := 3) (v := iv (min (max 0 (l + (((g.A day).1) - ((g.r2 * (g.W day).2 + 99) / 100)))) g.full)) rfl c.rd rfl ?_
    refine wD_addo (b := H.next) (o := 0) rfl ?_
    refine wD_ld (b := H.next) (o := 11) (v := iv g.need) rfl c1.rd rfl ?_
    refine wD_c_lss (a := min (max 0 (l + (((g.A day).1) - ((g.r2 * (g.W day).2 + 99) / 100)))) g.full) (b := g.need) rfl rfl ?_
    refine wD_end (by repeat' first | exact True.intro | exact (fun h => h) | refine And.intro ?_ ?_ | (intro h; have h : (_ : Nat) = _ := h; omega)) ?_
    refine And.intro (fun q1 => ?_) (fun q1 => ?_)
    · have q1 : (min (max 0 (l + (((g.A day).1) - ((g.r2 * (g.W day).2 + 99) / 100)))) g.full) < g.need := of_decide_eq_true q1
      refine Exists.intro _ (Exists.intro _ (And.intro c.of (And.intro (show _ = some (iv sl) from rfl) ?_)))
      refine And.intro ⟨by omega, by omega⟩ ?_
      obtain ⟨_, eH7, lH7, gH7⟩ := id c
      refine Exists.intro _ (Exists.intro _ (Exists.intro _ (And.intro gH7 (And.intro hlb (And.intro rfl (And.intro rfl (And.intro (by simp) ?_)))))))
      intro H7 hH7; obtain ⟨kH7, nH7, sH7⟩ := up_facts c hH7; clear hH7
      have mH7 := kH7.1
      have hk := hk.new kH7 (fun b hb => by simp at hb ⊢; omega)
      have hwd := kH7.rd hwd (by first | (simp; done) | (simp; omega))
      have had := kH7.rd had (by first | (simp; done) | (simp; omega))
      have c1 := kH7.cl c1 (by first | (simp; done) | (simp; omega))
      have c2 := kH7.cl c2 (by first | (simp; done) | (simp; omega))
      have c : Cl H7 b [iv n, iv wl, iv wh, iv (min (max 0 (l + (((g.A day).1) - ((g.r2 * (g.W day).2 + 99) / 100)))) g.full), iv (sl + 1), iv h, iv sm] := sH7
      have e : (g.loDay l false day : Int) = min (max 0 (l + (((g.A day).1) - ((g.r2 * (g.W day).2 + 99) / 100)))) g.full := rfl
      refine And.intro trivial (Exists.intro _ (And.intro rfl ⟨rfl, hk, ?_⟩))
      rw [e, decide_eq_true q1]; exact c
    · have q1 : ¬ ((min (max 0 (l + (((g.A day).1) - ((g.r2 * (g.W day).2 + 99) / 100)))) g.full) < g.need) := of_decide_eq_false q1
      have e : (g.loDay l false day : Int) = min (max 0 (l + (((g.A day).1) - ((g.r2 * (g.W day).2 + 99) / 100)))) g.full := rfl
      refine And.intro trivial (Exists.intro _ (And.intro rfl ⟨rfl, hk, ?_⟩))
      rw [e, decide_eq_false q1]; exact c
  · intro H1 hH1; obtain ⟨kH1, nH1, c1⟩ := new_facts hH1; clear hH1
    have mH1 := kH1.1
    have hk := hk.trans (kH1.mono (by simp))
    have c := kH1.cl c (by simp)
    have hwd := kH1.rd hwd (by simp)
    have had := kH1.rd had (by simp)
    have c1 : Cl H1 H.next [.slice g.wa g.wn g.wcap, .slice g.aa g.an g.acap, iv g.r1, iv g.r2, iv g.f1, iv g.f2, iv g.g1, iv g.g2, iv g.full, iv g.base, iv g.kill, iv g.need, iv g.bear] := c1
    intro H2 hH2; obtain ⟨kH2, nH2, c2⟩ := new_facts hH2; clear hH2
    have c2 : Cl H2 H1.next [] := c2
    have mH2 := kH2.1
    have hk := hk.trans (kH2.mono (by simp))
    have c := kH2.cl c (by simp)
    have hwd := kH2.rd hwd (by simp)
    have had := kH2.rd had (by simp)
    have c1 := kH2.cl c1 (by simp)
    refine condT ?_
    refine Exists.intro _ (Exists.intro _ (And.intro c2.of (And.intro (show row 0 _ _ = some [] from rfl) ?_)))
    refine And.intro rfl (Exists.intro (.iface 100 (.agg #[])) (And.intro (by kernel_rfl) ?_))
    refine Exists.intro _ (Exists.intro _ (And.intro c1.of (And.intro (show row 2 _ _ = some [iv g.g1, iv g.g2] from rfl) ?_)))
    obtain ⟨H3, fH3, kH3⟩ := end102_ok (kn := kn) (lo := lo) (H := H2) (a := g.g1) (b := g.g2)
    refine Exists.intro _ (Exists.intro _ (And.intro (callX_method endM fH3) ?_))
    have mH3 := kH3.1
    have hk := hk.trans (kH3.mono (by simp))
    have c := kH3.cl c (by simp)
    have hwd := kH3.rd hwd (by simp)
    have had := kH3.rd had (by simp)
    have c1 := kH3.cl c1 (by simp)
    have c2 := kH3.cl c2 (by simp)
    obtain ⟨_, eH4, lH4, gH4⟩ := id c
    refine Exists.intro _ (Exists.intro _ (Exists.intro _ (And.intro gH4 (And.intro hlb (And.intro rfl (And.intro rfl (And.intro (by simp) ?_)))))))
    intro H4 hH4; obtain ⟨kH4, nH4, sH4⟩ := up_facts c hH4; clear hH4
    have mH4 := kH4.1
    have hk := hk.new kH4 (fun b hb => by simp at hb ⊢; omega)
    have hwd := kH4.rd hwd (by first | (simp; done) | (simp; omega))
    have had := kH4.rd had (by first | (simp; done) | (simp; omega))
    have c1 := kH4.cl c1 (by first | (simp; done) | (simp; omega))
    have c2 := kH4.cl c2 (by first | (simp; done) | (simp; omega))
    have c : Cl H4 b [iv n, iv wl, iv wh, iv g.g1, iv sl, iv h, iv sm] := sH4
    refine wD_seq ?_
    refine wD_mov (v := .pointer (some ⟨b, 3, none⟩)) rfl ?_
    refine wD_nilc (a := ⟨b, 3, none⟩) rfl ?_
    refine wD_addo (b := b) (o := 3) rfl ?_
    refine wD_ld (b := b) (o := 3) (v := iv g.g1) rfl c.rd rfl ?_
    refine wD_lda (b := H1.next) (o := 0) rfl c2.rd (show row 0 _ _ = some [] from rfl) ?_
    refine wD_pur (v := .iface 100 (.agg #[])) rfl (by kernel_rfl) ?_
    refine wD_addo (b := H.next) (o := 0) rfl ?_
    refine wD_ld (b := H.next) (o := 1) (v := .slice (some ⟨ab, 0, none⟩) g.an g.acap) rfl c1.rd (show _ = some (Value.slice (some ⟨ab, 0, none⟩) g.an g.acap) from by rw [← eaa]; rfl) ?_
    refine wD_mov (v := iv (day : Int)) rfl ?_
    refine wD_idx (b := ab) (o := 0) (k := day) (j := (day : Int)) rfl rfl rfl (by omega) ?_
    refine wD_lda (b := ab) (o := 0 + day * 2) rfl had (spc_row hA.1) ?_
    obtain ⟨H5, fH5, kH5⟩ := end102_ok (kn := kn) (lo := H4.next) (H := H4) (a := (g.A day).1) (b := (g.A day).2)
    refine wD_callh (vs := [.iface 100 (.agg #[]), spv ((g.A day).1) ((g.A day).2)]) rfl (by kernel_rfl) (callX_method endM fH5) ?_
    have mH5 := kH5.1
    have hk := hk.trans (kH5.mono (by simp))
    have hwd := kH5.rd hwd (by simp)
    have had := kH5.rd had (by simp)
    have c1 := kH5.cl c1 (by simp)
    have c2 := kH5.cl c2 (by simp)
    have c := kH5.cl c (by simp)
    refine wD_lda (b := H1.next) (o := 0) rfl c2.rd (show row 0 _ _ = some [] from rfl) ?_
    refine wD_pur (v := .iface 100 (.agg #[])) rfl (by kernel_rfl) ?_
    refine wD_addo (b := H.next) (o := 0) rfl ?_
    refine wD_lda (b := H.next) (o := 2) rfl c1.rd (show row 2 _ _ = some [iv g.r1, iv g.r2] from rfl) ?_
    refine wD_addo (b := H.next) (o := 0) rfl ?_
    refine wD_ld (b := H.next) (o := 0) (v := .slice (some ⟨wb, 0, none⟩) g.wn g.wcap) rfl c1.rd (show _ = some (Value.slice (some ⟨wb, 0, none⟩) g.wn g.wcap) from by rw [← ewa]; rfl) ?_
    refine wD_mov (v := iv (day : Int)) rfl ?_
    refine wD_idx (b := wb) (o := 0) (k := day) (j := (day : Int)) rfl rfl rfl (by omega) ?_
    refine wD_lda (b := wb) (o := 0 + day * 2) rfl hwd (spc_row hW.1) ?_
    obtain ⟨H6, fH6, kH6⟩ := used103_ok (kn := kn) (lo := H5.next) (H := H5) (a := g.r1) (b := g.r2) (c := (g.W day).1) (d := (g.W day).2) ⟨by omega, by omega⟩ ⟨by omega, by omega⟩
    refine wD_callh (vs := [.iface 100 (.agg #[]), spv g.r1 g.r2, spv ((g.W day).1) ((g.W day).2)]) rfl (by kernel_rfl) (callX_method usedM fH6) ?_
    have mH6 := kH6.1
    have hk := hk.trans (kH6.mono (by simp))
    have hwd := kH6.rd hwd (by simp)
    have had := kH6.rd had (by simp)
    have c1 := kH6.cl c1 (by simp)
    have c2 := kH6.cl c2 (by simp)
    have c := kH6.cl c (by simp)
    refine wD_sub (a := (g.A day).1) (b := (g.r2 * (g.W day).2 + 99) / 100) rfl rfl ⟨by omega, by omega⟩ ?_
    refine wD_add (a := g.g1) (b := ((g.A day).1) - ((g.r2 * (g.W day).2 + 99) / 100)) rfl rfl ⟨by omega, by omega⟩ ?_
    refine wD_nilc (a := ⟨b, 3, none⟩) rfl ?_
    refine wD_addo (b := b) (o := 3) rfl ?_
    refine wD_st (b := b) (o := 3) rfl rfl c hlb rfl rfl (by simp) ?_
    intro H7 kH7 nH7 sH7
    have mH7 := kH7.1
    have hk := hk.new kH7 (fun b hb => by simp at hb ⊢; omega)
    have hwd := kH7.rd hwd (by first | (simp; done) | (simp; omega))
    have had := kH7.rd had (by first | (simp; done) | (simp; omega))
    have c1 := kH7.cl c1 (by first | (simp; done) | (simp; omega))
    have c2 := kH7.cl c2 (by first | (simp; done) | (simp; omega))
    have c : Cl H7 b [iv n, iv wl, iv wh, iv (g.g1 + (((g.A day).1) - ((g.r2 * (g.W day).2 + 99) / 100))), iv sl, iv h, iv sm] := sH7
    refine wD_end (by repeat' first | exact True.intro | exact (fun h => h) | refine And.intro ?_ ?_ | (intro h; have h : (_ : Nat) = _ := h; omega)) ?_
    refine wD_seq ?_
    refine wD_mov (v := .pointer (some ⟨b, 3, none⟩)) rfl ?_
    refine wD_mov (v := .pointer (some ⟨b, 3, none⟩)) rfl ?_
    refine wD_nilc (a := ⟨b, 3, none⟩) rfl ?_
    refine wD_addo (b := b) (o := 3) rfl ?_
    refine wD_ld (b := b) (o := 3) (v := iv (g.g1 + (((g.A day).1) - ((g.r2 * (g.W day).2 + 99) / 100)))) rfl c.rd rfl ?_
    refine wD_mm (a := 0) (b := g.g1 + (((g.A day).1) - ((g.r2 * (g.W day).2 + 99) / 100))) rfl rfl ?_
    refine wD_addo (b := H.next) (o := 0) rfl ?_
    refine wD_ld (b := H.next) (o := 8) (v := iv g.full) rfl c1.rd rfl ?_
    refine wD_mm (a := max 0 (g.g1 + (((g.A day).1) - ((g.r2 * (g.W day).2 + 99) / 100)))) (b := g.full) rfl rfl ?_
    refine wD_nilc (a := ⟨b, 3, none⟩) rfl ?_
    refine wD_addo (b := b) (o := 3) rfl ?_
    refine wD_st (b := b) (o := 3) rfl rfl c hlb rfl rfl (by simp) ?_
    intro H8 kH8 nH8 sH8
    have mH8 := kH8.1
    have hk := hk.new kH8 (fun b hb => by simp at hb ⊢; omega)
    have hwd := kH8.rd hwd (by first | (simp; done) | (simp; omega))
    have had := kH8.rd had (by first | (simp; done) | (simp; omega))
    have c1 := kH8.cl c1 (by first | (simp; done) | (simp; omega))
    have c2 := kH8.cl c2 (by first | (simp; done) | (simp; omega))
    have c : Cl H8 b [iv n, iv wl, iv wh, iv (min (max 0 (g.g1 + (((g.A day).1) - ((g.r2 * (g.W day).2 + 99) / 100)))) g.full), iv sl, iv h, iv sm] := sH8
    refine wD_end (by repeat' first | exact True.intro | exact (fun h => h) | refine And.intro ?_ ?_ | (intro h; have h : (_ : Nat) = _ := h; omega)) ?_
    refine wD_seq ?_
    refine wD_mov (v := .pointer (some ⟨b, 3, none⟩)) rfl ?_
    refine wD_nilc (a := ⟨b, 3, none⟩) rfl ?_
    refine wD_addo (b := b) (o := 3) rfl ?_
    refine wD_ld (b := b) (o := 3) (v := iv (min (max 0 (g.g1 + (((g.A day).1) - ((g.r2 * (g.W day).2 + 99) / 100)))) g.full)) rfl c.rd rfl ?_
    refine wD_addo (b := H.next) (o := 0) rfl ?_
    refine wD_ld (b := H.next) (o := 11) (v := iv g.need) rfl c1.rd rfl ?_
    refine wD_c_lss (a := min (max 0 (g.g1 + (((g.A day).1) - ((g.r2 * (g.W day).2 + 99) / 100)))) g.full) (b := g.need) rfl rfl ?_
    refine wD_end (by repeat' first | exact True.intro | exact (fun h => h) | refine And.intro ?_ ?_ | (intro h; have h : (_ : Nat) = _ := h; omega)) ?_
    refine And.intro (fun q1 => ?_) (fun q1 => ?_)
    · have q1 : (min (max 0 (g.g1 + (((g.A day).1) - ((g.r2 * (g.W day).2 + 99) / 100)))) g.full) < g.need := of_decide_eq_true q1
      refine Exists.intro _ (Exists.intro _ (And.intro c.of (And.intro (show _ = some (iv sl) from rfl) ?_)))
      refine And.intro ⟨by omega, by omega⟩ ?_
      obtain ⟨_, eH9, lH9, gH9⟩ := id c
      refine Exists.intro _ (Exists.intro _ (Exists.intro _ (And.intro gH9 (And.intro hlb (And.intro rfl (And.intro rfl (And.intro (by simp) ?_)))))))
      intro H9 hH9; obtain ⟨kH9, nH9, sH9⟩ := up_facts c hH9; clear hH9
      have mH9 := kH9.1
      have hk := hk.new kH9 (fun b hb => by simp at hb ⊢; omega)
      have hwd := kH9.rd hwd (by first | (simp; done) | (simp; omega))
      have had := kH9.rd had (by first | (simp; done) | (simp; omega))
      have c1 := kH9.cl c1 (by first | (simp; done) | (simp; omega))
      have c2 := kH9.cl c2 (by first | (simp; done) | (simp; omega))
      have c : Cl H9 b [iv n, iv wl, iv wh, iv (min (max 0 (g.g1 + (((g.A day).1) - ((g.r2 * (g.W day).2 + 99) / 100)))) g.full), iv (sl + 1), iv h, iv sm] := sH9
      have e : (g.loDay l true day : Int) = min (max 0 (g.g1 + (((g.A day).1) - ((g.r2 * (g.W day).2 + 99) / 100)))) g.full := rfl
      refine And.intro trivial (Exists.intro _ (And.intro rfl ⟨rfl, hk, ?_⟩))
      rw [e, decide_eq_true q1]; exact c
    · have q1 : ¬ ((min (max 0 (g.g1 + (((g.A day).1) - ((g.r2 * (g.W day).2 + 99) / 100)))) g.full) < g.need) := of_decide_eq_false q1
      have e : (g.loDay l true day : Int) = min (max 0 (g.g1 + (((g.A day).1) - ((g.r2 * (g.W day).2 + 99) / 100)))) g.full := rfl
      refine And.intro trivial (Exists.intro _ (And.intro rfl ⟨rfl, hk, ?_⟩))
      rw [e, decide_eq_false q1]; exact c
theorem passM_ok {g : Lt} (v : g.Vd) {b day : Nat} {dv : Int} {fr : Bool} {n wl wh l sl h sm : Int} (hdv : dv = (day : Int)) (hday : day < g.wn) (c : Cl H b [iv n, iv wl, iv wh, iv l, iv sl, iv h, iv sm]) (hox : 0 ≤ h ∧ h ≤ g.full) (hsu : 0 ≤ sm ∧ sm ≤ 1000) (hlb : lo ≤ b)
    (hw : Sl H g.wa g.wn g.wcap (spc g.ws)) (ha : Sl H g.aa g.an g.acap (spc g.as)) (fw : ∀ x, g.wa = some ⟨x, 0, none⟩ → x ≠ b) (fa : ∀ x, g.aa = some ⟨x, 0, none⟩ → x ≠ b) :
    ∃ H', FnX Try.prog kn lo 80 [.pointer (some ⟨b, 5, none⟩), .agg g.v.toArray, iv dv, .bool fr] H unit H' ∧ Keep H H' [b] ∧ Cl H' b [iv n, iv wl, iv wh, iv l, iv sl, iv (g.hiDay h fr day), iv (bif decide (g.hiDay h fr day < g.need) then sm + 1 else sm)] := by
  subst hdv
  have key := fnX_low (kn := kn) (lo := lo) (H := H) (args := [.pointer (some ⟨b, 5, none⟩), .agg g.v.toArray, iv (day : Int), .bool fr]) (Q := fun w H' => w = unit ∧ Keep H H' [b] ∧ Cl H' b [iv n, iv wl, iv wh, iv l, iv sl, iv (g.hiDay h fr day), iv (bif decide (g.hiDay h fr day < g.need) then sm + 1 else sm)]) Try.func80 B80 N80 Z80 L80 (by simp) ?_
  · obtain ⟨w, H', h, rfl, q⟩ := key; exact ⟨H', h, q⟩
  have hk := Keep.refl H [b]
  have hfu := v.fu; have hr := v.r; have hgr := v.gr; have hnn := v.n
  have hW := Lt.W_in v hday
  have hA := Lt.A_in v hday
  have hmu := mul_rng (a := g.r2) (b := (g.W day).2) (p := 1000) (q := 5000) ⟨by omega, by omega⟩ ⟨by omega, by omega⟩
  have hmv := mul_rng (a := g.r1) (b := (g.W day).1) (p := 1000) (q := 5000) ⟨by omega, by omega⟩ ⟨by omega, by omega⟩
  have ltb := c.lt
  rcases hw with ⟨_, h0, _⟩ | ⟨wb, ewa, hwd, _⟩
  · omega
  rcases ha with ⟨_, h0, _⟩ | ⟨ab, eaa, had, _⟩
  · omega
  have nwb := fw wb ewa
  have nab := fa ab eaa
  cases fr
  · intro H1 hH1; obtain ⟨kH1, nH1, c1⟩ := new_facts hH1; clear hH1
    have mH1 := kH1.1
    have hk := hk.trans (kH1.mono (by simp))
    have c := kH1.cl c (by simp)
    have hwd := kH1.rd hwd (by simp)
    have had := kH1.rd had (by simp)
    have c1 : Cl H1 H.next [.slice g.wa g.wn g.wcap, .slice g.aa g.an g.acap, iv g.r1, iv g.r2, iv g.f1, iv g.f2, iv g.g1, iv g.g2, iv g.full, iv g.base, iv g.kill, iv g.need, iv g.bear] := c1
    intro H2 hH2; obtain ⟨kH2, nH2, c2⟩ := new_facts hH2; clear hH2
    have c2 : Cl H2 H1.next [] := c2
    have mH2 := kH2.1
    have hk := hk.trans (kH2.mono (by simp))
    have c := kH2.cl c (by simp)
    have hwd := kH2.rd hwd (by simp)
    have had := kH2.rd had (by simp)
    have c1 := kH2.cl c1 (by simp)
    refine condF ?_
    refine wD_seq ?_
    refine wD_mov (v := .pointer (some ⟨b, 5, none⟩)) rfl ?_
    refine wD_nilc (a := ⟨b, 5, none⟩) rfl ?_
    refine wD_addo (b := b) (o := 5) rfl ?_
    refine wD_ld (b := b) (o := 5) (v := iv h) rfl c.rd rfl ?_
    refine wD_lda (b := H1.next) (o := 0) rfl c2.rd (show row 0 _ _ = some [] from rfl) ?_
    refine wD_pur (v := .iface 102 (.agg #[])) rfl (by kernel_rfl) ?_
    refine wD_addo (b := H.next) (o := 0) rfl ?_
    refine wD_ld (b := H.next) (o := 1) (v := .slice (some ⟨ab, 0, none⟩) g.an g.acap) rfl c1.rd (show _ = some (Value.slice (some ⟨ab, 0, none⟩) g.an g.acap) from by rw [← eaa]; rfl) ?_
    refine wD_mov (v := iv (day : Int)) rfl ?_
    refine wD_idx (b := ab) (o := 0) (k := day) (j := (day : Int)) rfl rfl rfl (by omega) ?_
    refine wD_lda (b := ab) (o := 0 + day * 2) rfl had (spc_row hA.1) ?_
    obtain ⟨H3, fH3, kH3⟩ := end104_ok (kn := kn) (lo := H2.next) (H := H2) (a := (g.A day).1) (b := (g.A day).2)
    refine wD_callh (vs := [.iface 102 (.agg #[]), spv ((g.A day).1) ((g.A day).2)]) rfl (by kernel_rfl) (callX_method endN fH3) ?_
    have mH3 := kH3.1
    have hk := hk.trans (kH3.mono (by simp))
    have c := kH3.cl c (by simp)
    have hwd := kH3.rd hwd (by simp)
    have had := kH3.rd had (by simp)
    have c1 := kH3.cl c1 (by simp)
    have c2 := kH3.cl c2 (by simp)
    refine wD_lda (b := H1.next) (o := 0) rfl c2.rd (show row 0 _ _ = some [] from rfl) ?_
    refine wD_pur (v := .iface 102 (.agg #[])) rfl (by kernel_rfl) ?_
    refine wD_addo (b := H.next) (o := 0) rfl ?_
    refine wD_lda (b := H.next) (o := 2) rfl c1.rd (show row 2 _ _ = some [iv g.r1, iv g.r2] from rfl) ?_
    refine wD_addo (b := H.next) (o := 0) rfl ?_
    refine wD_ld (b := H.next) (o := 0) (v := .slice (some ⟨wb, 0, none⟩) g.wn g.wcap) rfl c1.rd (show _ = some (Value.slice (some ⟨wb, 0, none⟩) g.wn g.wcap) from by rw [← ewa]; rfl) ?_
    refine wD_mov (v := iv (day : Int)) rfl ?_
    refine wD_idx (b := wb) (o := 0) (k := day) (j := (day : Int)) rfl rfl rfl (by omega) ?_
    refine wD_lda (b := wb) (o := 0 + day * 2) rfl hwd (spc_row hW.1) ?_
    obtain ⟨H4, fH4, kH4⟩ := used105_ok (kn := kn) (lo := H3.next) (H := H3) (a := g.r1) (b := g.r2) (c := (g.W day).1) (d := (g.W day).2) ⟨by omega, by omega⟩ ⟨by omega, by omega⟩
    refine wD_callh (vs := [.iface 102 (.agg #[]), spv g.r1 g.r2, spv ((g.W day).1) ((g.W day).2)]) rfl (by kernel_rfl) (callX_method usedN fH4) ?_
    have mH4 := kH4.1
    have hk := hk.trans (kH4.mono (by simp))
    have c := kH4.cl c (by simp)
    have hwd := kH4.rd hwd (by simp)
    have had := kH4.rd had (by simp)
    have c1 := kH4.cl c1 (by simp)
    have c2 := kH4.cl c2 (by simp)
    refine wD_sub (a := (g.A day).2) (b := g.r1 * (g.W day).1 / 100) rfl rfl ⟨by omega, by omega⟩ ?_
    refine wD_add (a := h) (b := ((g.A day).2) - (g.r1 * (g.W day).1 / 100)) rfl rfl ⟨by omega, by omega⟩ ?_
    refine wD_nilc (a := ⟨b, 5, none⟩) rfl ?_
    refine wD_addo (b := b) (o := 5) rfl ?_
    refine wD_st (b := b) (o := 5) rfl rfl c hlb rfl rfl (by simp) ?_
    intro H5 kH5 nH5 sH5
    have mH5 := kH5.1
    have hk := hk.new kH5 (fun b hb => by simp at hb ⊢; omega)
    have hwd := kH5.rd hwd (by first | (simp; done) | (simp; omega))
    have had := kH5.rd had (by first | (simp; done) | (simp; omega))
    have c1 := kH5.cl c1 (by first | (simp; done) | (simp; omega))
    have c2 := kH5.cl c2 (by first | (simp; done) | (simp; omega))
    have c : Cl H5 b [iv n, iv wl, iv wh, iv l, iv sl, iv (h + (((g.A day).2) - (g.r1 * (g.W day).1 / 100))), iv sm] := sH5
    refine wD_end (by repeat' first | exact True.intro | exact (fun h => h) | refine And.intro ?_ ?_ | (intro h; have h : (_ : Nat) = _ := h; omega)) ?_
    refine wD_seq ?_
    refine wD_mov (v := .pointer (some ⟨b, 5, none⟩)) rfl ?_
    refine wD_mov (v := .pointer (some ⟨b, 5, none⟩)) rfl ?_
    refine wD_nilc (a := ⟨b, 5, none⟩) rfl ?_
    refine wD_addo (b := b) (o := 5) rfl ?_
    refine wD_ld (b := b) (o := 5) (v := iv (h + (((g.A day).2) - (g.r1 * (g.W day).1 / 100)))) rfl c.rd rfl ?_
    refine wD_mm (a := 0) (b := h + (((g.A day).2) - (g.r1 * (g.W day).1 / 100))) rfl rfl ?_
    refine wD_addo (b := H.next) (o := 0) rfl ?_
    refine wD_ld (b := H.next) (o := 8) (v := iv g.full) rfl c1.rd rfl ?_
    refine wD_mm (a := max 0 (h + (((g.A day).2) - (g.r1 * (g.W day).1 / 100)))) (b := g.full) rfl rfl ?_
    refine wD_nilc (a := ⟨b, 5, none⟩) rfl ?_
    refine wD_addo (b := b) (o := 5) rfl ?_
    refine wD_st (b := b) (o := 5) rfl rfl c hlb rfl rfl (by simp) ?_
    intro H6 kH6 nH6 sH6
    have mH6 := kH6.1
    have hk := hk.new kH6 (fun b hb => by simp at hb ⊢; omega)
    have hwd := kH6.rd hwd (by first | (simp; done) | (simp; omega))
    have had := kH6.rd had (by first | (simp; done) | (simp; omega))
    have c1 := kH6.cl c1 (by first | (simp; done) | (simp; omega))
    have c2 := kH6.cl c2 (by first | (simp; done) | (simp; omega))
    have c : Cl H6 b [iv n, iv wl, iv wh, iv l, iv sl, iv (min (max 0 (h + (((g.A day).2) - (g.r1 * (g.W day).1 / 100)))) g.full), iv sm] := sH6
    refine wD_end (by repeat' first | exact True.intro | exact (fun h => h) | refine And.intro ?_ ?_ | (intro h; have h : (_ : Nat) = _ := h; omega)) ?_
    refine wD_seq ?_
    refine wD_mov (v := .pointer (some ⟨b, 5, none⟩)) rfl ?_
    refine wD_nilc (a := ⟨b, 5, none⟩) rfl ?_
    refine wD_addo (b := b) (o := 5) rfl ?_
    refine wD_ld (b := b) (o := 5) (v := iv (min (max 0 (h + (((g.A day).2) - (g.r1 * (g.W day).1 / 100)))) g.full)) rfl c.rd rfl ?_
    refine wD_addo (b := H.next) (o := 0) rfl ?_
    refine wD_ld (b := H.next) (o := 11) (v := iv g.need) rfl c1.rd rfl ?_
    refine wD_c_lss (a := min (max 0 (h + (((g.A day).2) - (g.r1 * (g.W day).1 / 100)))) g.full) (b := g.need) rfl rfl ?_
    refine wD_end (by repeat' first | exact True.intro | exact (fun h => h) | refine And.intro ?_ ?_ | (intro h; have h : (_ : Nat) = _ := h; omega)) ?_
    refine And.intro (fun q1 => ?_) (fun q1 => ?_)
    · have q1 : (min (max 0 (h + (((g.A day).2) - (g.r1 * (g.W day).1 / 100)))) g.full) < g.need := of_decide_eq_true q1
      refine Exists.intro _ (Exists.intro _ (And.intro c.of (And.intro (show _ = some (iv sm) from rfl) ?_)))
      refine And.intro ⟨by omega, by omega⟩ ?_
      obtain ⟨_, eH7, lH7, gH7⟩ := id c
      refine Exists.intro _ (Exists.intro _ (Exists.intro _ (And.intro gH7 (And.intro hlb (And.intro rfl (And.intro rfl (And.intro (by simp) ?_)))))))
      intro H7 hH7; obtain ⟨kH7, nH7, sH7⟩ := up_facts c hH7; clear hH7
      have mH7 := kH7.1
      have hk := hk.new kH7 (fun b hb => by simp at hb ⊢; omega)
      have hwd := kH7.rd hwd (by first | (simp; done) | (simp; omega))
      have had := kH7.rd had (by first | (simp; done) | (simp; omega))
      have c1 := kH7.cl c1 (by first | (simp; done) | (simp; omega))
      have c2 := kH7.cl c2 (by first | (simp; done) | (simp; omega))
      have c : Cl H7 b [iv n, iv wl, iv wh, iv l, iv sl, iv (min (max 0 (h + (((g.A day).2) - (g.r1 * (g.W day).1 / 100)))) g.full), iv (sm + 1)] := sH7
      have e : (g.hiDay h false day : Int) = min (max 0 (h + (((g.A day).2) - (g.r1 * (g.W day).1 / 100)))) g.full := rfl
      refine And.intro trivial (Exists.intro _ (And.intro rfl ⟨rfl, hk, ?_⟩))
      rw [e, decide_eq_true q1]; exact c
    · have q1 : ¬ ((min (max 0 (h + (((g.A day).2) - (g.r1 * (g.W day).1 / 100)))) g.full) < g.need) := of_decide_eq_false q1
      have e : (g.hiDay h false day : Int) = min (max 0 (h + (((g.A day).2) - (g.r1 * (g.W day).1 / 100)))) g.full := rfl
      refine And.intro trivial (Exists.intro _ (And.intro rfl ⟨rfl, hk, ?_⟩))
      rw [e, decide_eq_false q1]; exact c
  · intro H1 hH1; obtain ⟨kH1, nH1, c1⟩ := new_facts hH1; clear hH1
    have mH1 := kH1.1
    have hk := hk.trans (kH1.mono (by simp))
    have c := kH1.cl c (by simp)
    have hwd := kH1.rd hwd (by simp)
    have had := kH1.rd had (by simp)
    have c1 : Cl H1 H.next [.slice g.wa g.wn g.wcap, .slice g.aa g.an g.acap, iv g.r1, iv g.r2, iv g.f1, iv g.f2, iv g.g1, iv g.g2, iv g.full, iv g.base, iv g.kill, iv g.need, iv g.bear] := c1
    intro H2 hH2; obtain ⟨kH2, nH2, c2⟩ := new_facts hH2; clear hH2
    have c2 : Cl H2 H1.next [] := c2
    have mH2 := kH2.1
    have hk := hk.trans (kH2.mono (by simp))
    have c := kH2.cl c (by simp)
    have hwd := kH2.rd hwd (by simp)
    have had := kH2.rd had (by simp)
    have c1 := kH2.cl c1 (by simp)
    refine condT ?_
    refine Exists.intro _ (Exists.intro _ (And.intro c2.of (And.intro (show row 0 _ _ = some [] from rfl) ?_)))
    refine And.intro rfl (Exists.intro (.iface 102 (.agg #[])) (And.intro (by kernel_rfl) ?_))
    refine Exists.intro _ (Exists.intro _ (And.intro c1.of (And.intro (show row 2 _ _ = some [iv g.g1, iv g.g2] from rfl) ?_)))
    obtain ⟨H3, fH3, kH3⟩ := end104_ok (kn := kn) (lo := lo) (H := H2) (a := g.g1) (b := g.g2)
    refine Exists.intro _ (Exists.intro _ (And.intro (callX_method endN fH3) ?_))
    have mH3 := kH3.1
    have hk := hk.trans (kH3.mono (by simp))
    have c := kH3.cl c (by simp)
    have hwd := kH3.rd hwd (by simp)
    have had := kH3.rd had (by simp)
    have c1 := kH3.cl c1 (by simp)
    have c2 := kH3.cl c2 (by simp)
    obtain ⟨_, eH4, lH4, gH4⟩ := id c
    refine Exists.intro _ (Exists.intro _ (Exists.intro _ (And.intro gH4 (And.intro hlb (And.intro rfl (And.intro rfl (And.intro (by simp) ?_)))))))
    intro H4 hH4; obtain ⟨kH4, nH4, sH4⟩ := up_facts c hH4; clear hH4
    have mH4 := kH4.1
    have hk := hk.new kH4 (fun b hb => by simp at hb ⊢; omega)
    have hwd := kH4.rd hwd (by first | (simp; done) | (simp; omega))
    have had := kH4.rd had (by first | (simp; done) | (simp; omega))
    have c1 := kH4.cl c1 (by first | (simp; done) | (simp; omega))
    have c2 := kH4.cl c2 (by first | (simp; done) | (simp; omega))
    have c : Cl H4 b [iv n, iv wl, iv wh, iv l, iv sl, iv g.g2, iv sm] := sH4
    refine wD_seq ?_
    refine wD_mov (v := .pointer (some ⟨b, 5, none⟩)) rfl ?_
    refine wD_nilc (a := ⟨b, 5, none⟩) rfl ?_
    refine wD_addo (b := b) (o := 5) rfl ?_
    refine wD_ld (b := b) (o := 5) (v := iv g.g2) rfl c.rd rfl ?_
    refine wD_lda (b := H1.next) (o := 0) rfl c2.rd (show row 0 _ _ = some [] from rfl) ?_
    refine wD_pur (v := .iface 102 (.agg #[])) rfl (by kernel_rfl) ?_
    refine wD_addo (b := H.next) (o := 0) rfl ?_
    refine wD_ld (b := H.next) (o := 1) (v := .slice (some ⟨ab, 0, none⟩) g.an g.acap) rfl c1.rd (show _ = some (Value.slice (some ⟨ab, 0, none⟩) g.an g.acap) from by rw [← eaa]; rfl) ?_
    refine wD_mov (v := iv (day : Int)) rfl ?_
    refine wD_idx (b := ab) (o := 0) (k := day) (j := (day : Int)) rfl rfl rfl (by omega) ?_
    refine wD_lda (b := ab) (o := 0 + day * 2) rfl had (spc_row hA.1) ?_
    obtain ⟨H5, fH5, kH5⟩ := end104_ok (kn := kn) (lo := H4.next) (H := H4) (a := (g.A day).1) (b := (g.A day).2)
    refine wD_callh (vs := [.iface 102 (.agg #[]), spv ((g.A day).1) ((g.A day).2)]) rfl (by kernel_rfl) (callX_method endN fH5) ?_
    have mH5 := kH5.1
    have hk := hk.trans (kH5.mono (by simp))
    have hwd := kH5.rd hwd (by simp)
    have had := kH5.rd had (by simp)
    have c1 := kH5.cl c1 (by simp)
    have c2 := kH5.cl c2 (by simp)
    have c := kH5.cl c (by simp)
    refine wD_lda (b := H1.next) (o := 0) rfl c2.rd (show row 0 _ _ = some [] from rfl) ?_
    refine wD_pur (v := .iface 102 (.agg #[])) rfl (by kernel_rfl) ?_
    refine wD_addo (b := H.next) (o := 0) rfl ?_
    refine wD_lda (b := H.next) (o := 2) rfl c1.rd (show row 2 _ _ = some [iv g.r1, iv g.r2] from rfl) ?_
    refine wD_addo (b := H.next) (o := 0) rfl ?_
    refine wD_ld (b := H.next) (o := 0) (v := .slice (some ⟨wb, 0, none⟩) g.wn g.wcap) rfl c1.rd (show _ = some (Value.slice (some ⟨wb, 0, none⟩) g.wn g.wcap) from by rw [← ewa]; rfl) ?_
    refine wD_mov (v := iv (day : Int)) rfl ?_
    refine wD_idx (b := wb) (o := 0) (k := day) (j := (day : Int)) rfl rfl rfl (by omega) ?_
    refine wD_lda (b := wb) (o := 0 + day * 2) rfl hwd (spc_row hW.1) ?_
    obtain ⟨H6, fH6, kH6⟩ := used105_ok (kn := kn) (lo := H5.next) (H := H5) (a := g.r1) (b := g.r2) (c := (g.W day).1) (d := (g.W day).2) ⟨by omega, by omega⟩ ⟨by omega, by omega⟩
    refine wD_callh (vs := [.iface 102 (.agg #[]), spv g.r1 g.r2, spv ((g.W day).1) ((g.W day).2)]) rfl (by kernel_rfl) (callX_method usedN fH6) ?_
    have mH6 := kH6.1
    have hk := hk.trans (kH6.mono (by simp))
    have hwd := kH6.rd hwd (by simp)
    have had := kH6.rd had (by simp)
    have c1 := kH6.cl c1 (by simp)
    have c2 := kH6.cl c2 (by simp)
    have c := kH6.cl c (by simp)
    refine wD_sub (a := (g.A day).2) (b := g.r1 * (g.W day).1 / 100) rfl rfl ⟨by omega, by omega⟩ ?_
    refine wD_add (a := g.g2) (b := ((g.A day).2) - (g.r1 * (g.W day).1 / 100)) rfl rfl ⟨by omega, by omega⟩ ?_
    refine wD_nilc (a := ⟨b, 5, none⟩) rfl ?_
    refine wD_addo (b := b) (o := 5) rfl ?_
    refine wD_st (b := b) (o := 5) rfl rfl c hlb rfl rfl (by simp) ?_
    intro H7 kH7 nH7 sH7
    have mH7 := kH7.1
    have hk := hk.new kH7 (fun b hb => by simp at hb ⊢; omega)
    have hwd := kH7.rd hwd (by first | (simp; done) | (simp; omega))
    have had := kH7.rd had (by first | (simp; done) | (simp; omega))
    have c1 := kH7.cl c1 (by first | (simp; done) | (simp; omega))
    have c2 := kH7.cl c2 (by first | (simp; done) | (simp; omega))
    have c : Cl H7 b [iv n, iv wl, iv wh, iv l, iv sl, iv (g.g2 + (((g.A day).2) - (g.r1 * (g.W day).1 / 100))), iv sm] := sH7
    refine wD_end (by repeat' first | exact True.intro | exact (fun h => h) | refine And.intro ?_ ?_ | (intro h; have h : (_ : Nat) = _ := h; omega)) ?_
    refine wD_seq ?_
    refine wD_mov (v := .pointer (some ⟨b, 5, none⟩)) rfl ?_
    refine wD_mov (v := .pointer (some ⟨b, 5, none⟩)) rfl ?_
    refine wD_nilc (a := ⟨b, 5, none⟩) rfl ?_
    refine wD_addo (b := b) (o := 5) rfl ?_
    refine wD_ld (b := b) (o := 5) (v := iv (g.g2 + (((g.A day).2) - (g.r1 * (g.W day).1 / 100)))) rfl c.rd rfl ?_
    refine wD_mm (a := 0) (b := g.g2 + (((g.A day).2) - (g.r1 * (g.W day).1 / 100))) rfl rfl ?_
    refine wD_addo (b := H.next) (o := 0) rfl ?_
    refine wD_ld (b := H.next) (o := 8) (v := iv g.full) rfl c1.rd rfl ?_
    refine wD_mm (a := max 0 (g.g2 + (((g.A day).2) - (g.r1 * (g.W day).1 / 100)))) (b := g.full) rfl rfl ?_
    refine wD_nilc (a := ⟨b, 5, none⟩) rfl ?_
    refine wD_addo (b := b) (o := 5) rfl ?_
    refine wD_st (b := b) (o := 5) rfl rfl c hlb rfl rfl (by simp) ?_
    intro H8 kH8 nH8 sH8
    have mH8 := kH8.1
    have hk := hk.new kH8 (fun b hb => by simp at hb ⊢; omega)
    have hwd := kH8.rd hwd (by first | (simp; done) | (simp; omega))
    have had := kH8.rd had (by first | (simp; done) | (simp; omega))
    have c1 := kH8.cl c1 (by first | (simp; done) | (simp; omega))
    have c2 := kH8.cl c2 (by first | (simp; done) | (simp; omega))
    have c : Cl H8 b [iv n, iv wl, iv wh, iv l, iv sl, iv (min (max 0 (g.g2 + (((g.A day).2) - (g.r1 * (g.W day).1 / 100)))) g.full), iv sm] := sH8
    refine wD_end (by repeat' first | exact True.intro | exact (fun h => h) | refine And.intro ?_ ?_ | (intro h; have h : (_ : Nat) = _ := h; omega)) ?_
    refine wD_seq ?_
    refine wD_mov (v := .pointer (some ⟨b, 5, none⟩)) rfl ?_
    refine wD_nilc (a := ⟨b, 5, none⟩) rfl ?_
    refine wD_addo (b := b) (o := 5) rfl ?_
    refine wD_ld (b := b) (o := 5) (v := iv (min (max 0 (g.g2 + (((g.A day).2) - (g.r1 * (g.W day).1 / 100)))) g.full)) rfl c.rd rfl ?_
    refine wD_addo (b := H.next) (o := 0) rfl ?_
    refine wD_ld (b := H.next) (o := 11) (v := iv g.need) rfl c1.rd rfl ?_
    refine wD_c_lss (a := min (max 0 (g.g2 + (((g.A day).2) - (g.r1 * (g.W day).1 / 100)))) g.full) (b := g.need) rfl rfl ?_
    refine wD_end (by repeat' first | exact True.intro | exact (fun h => h) | refine And.intro ?_ ?_ | (intro h; have h : (_ : Nat) = _ := h; omega)) ?_
    refine And.intro (fun q1 => ?_) (fun q1 => ?_)
    · have q1 : (min (max 0 (g.g2 + (((g.A day).2) - (g.r1 * (g.W day).1 / 100)))) g.full) < g.need := of_decide_eq_true q1
      refine Exists.intro _ (Exists.intro _ (And.intro c.of (And.intro (show _ = some (iv sm) from rfl) ?_)))
      refine And.intro ⟨by omega, by omega⟩ ?_
      obtain ⟨_, eH9, lH9, gH9⟩ := id c
      refine Exists.intro _ (Exists.intro _ (Exists.intro _ (And.intro gH9 (And.intro hlb (And.intro rfl (And.intro rfl (And.intro (by simp) ?_)))))))
      intro H9 hH9; obtain ⟨kH9, nH9, sH9⟩ := up_facts c hH9; clear hH9
      have mH9 := kH9.1
      have hk := hk.new kH9 (fun b hb => by simp at hb ⊢; omega)
      have hwd := kH9.rd hwd (by first | (simp; done) | (simp; omega))
      have had := kH9.rd had (by first | (simp; done) | (simp; omega))
      have c1 := kH9.cl c1 (by first | (simp; done) | (simp; omega))
      have c2 := kH9.cl c2 (by first | (simp; done) | (simp; omega))
      have c : Cl H9 b [iv n, iv wl, iv wh, iv l, iv sl, iv (min (max 0 (g.g2 + (((g.A day).2) - (g.r1 * (g.W day).1 / 100)))) g.full), iv (sm + 1)] := sH9
      have e : (g.hiDay h true day : Int) = min (max 0 (g.g2 + (((g.A day).2) - (g.r1 * (g.W day).1 / 100)))) g.full := rfl
      refine And.intro trivial (Exists.intro _ (And.intro rfl ⟨rfl, hk, ?_⟩))
      rw [e, decide_eq_true q1]; exact c
    · have q1 : ¬ ((min (max 0 (g.g2 + (((g.A day).2) - (g.r1 * (g.W day).1 / 100)))) g.full) < g.need) := of_decide_eq_false q1
      have e : (g.hiDay h true day : Int) = min (max 0 (g.g2 + (((g.A day).2) - (g.r1 * (g.W day).1 / 100)))) g.full := rfl
      refine And.intro trivial (Exists.intro _ (And.intro rfl ⟨rfl, hk, ?_⟩))
      rw [e, decide_eq_false q1]; exact c
end
end Go.Ax

/-
  Late: a day of a course (66), its states (41, 63) (written by program).
-/
namespace Go.Ax
open Go Go.RowKit Go.Proofs

/-- a course -/
abbrev crs (g : Lt) (s d m : Nat) : List Value := [.slice g.wa g.wn g.wcap, .slice g.aa g.an g.acap, iv g.r1, iv g.r2, iv g.f1, iv g.f2, iv g.g1, iv g.g2, iv g.full, iv g.base, iv g.kill, iv g.need, iv g.bear, iv (s : Int), iv (d : Int), .int .u64 (m : Int)]
section
variable {kn : FuncId → Option Bool} {lo : Nat} {H : Hp}
theorem Sl.again {a : Option Addr} {b n cap : Nat} {cs : List Value} (e : a = some ⟨b, 0, none⟩) (h : Rd H b cs) (hc : n ≤ cap) : Sl H a n cap cs := .inr ⟨b, e, h, hc⟩
theorem day_ok {g : Lt} (v : g.Vd) {s d m k : Nat} (hsk : s + k < g.wn) (hw : Sl H g.wa g.wn g.wcap (spc g.ws)) (ha : Sl H g.aa g.an g.acap (spc g.as)) (hlo : lo ≤ H.next) :
    ∃ H', FnX Try.prog kn lo 66 [.agg (crs g s d m).toArray, .agg (g.st s (Nat.testBit m) k).toArray] H (.agg (g.st s (Nat.testBit m) (k + 1)).toArray) H' ∧ Keep H H' [] := by
  have key := fnX_low (kn := kn) (lo := lo) (H := H) (args := [.agg (crs g s d m).toArray, .agg (g.st s (Nat.testBit m) k).toArray]) (Q := fun w H' => w = .agg (g.st s (Nat.testBit m) (k + 1)).toArray ∧ Keep H H' []) Try.func66 B66 N66 Z66 L66 (by simp) ?_
  · obtain ⟨w, H', h, rfl, q⟩ := key; exact ⟨H', h, q⟩
  have hk := Keep.refl H []
  have hfu := v.fu; have hr := v.r; have hgr := v.gr; have hnn := v.n; have hn40 := v.n40; have hb := v.b
  have hW := Lt.W_in v hsk
  have hlo1 := Lt.lo_in (s := s) (F := (Nat.testBit m)) v k
  have hhi1 := Lt.hi_in (s := s) (F := (Nat.testBit m)) v k
  have hwl1 := Lt.wl_in (s := s) v k (by omega)
  have hsl1 := Lt.sl_in (g := g) (s := s) (F := (Nat.testBit m)) k
  have hsm1 := Lt.sm_in (g := g) (s := s) (F := (Nat.testBit m)) k
  have fw : ∀ b, g.wa = some ⟨b, 0, none⟩ → b < H.next := hw.old
  have fa : ∀ b, g.aa = some ⟨b, 0, none⟩ → b < H.next := ha.old
  rcases hw with ⟨_, h0, _⟩ | ⟨wb, ewa, hwd, hcap⟩
  · omega
  have lwb := fw wb ewa
  intro H1 hH1; obtain ⟨kH1, nH1, c1⟩ := new_facts hH1; clear hH1
  have mH1 := kH1.1
  have hk := hk.trans kH1
  have hwd := kH1.rd hwd (by simp)
  have ha := kH1.sl0 ha
  have c1 : Cl H1 H.next [.slice g.wa g.wn g.wcap, .slice g.aa g.an g.acap, iv g.r1, iv g.r2, iv g.f1, iv g.f2, iv g.g1, iv g.g2, iv g.full, iv g.base, iv g.kill, iv g.need, iv g.bear, iv (s : Int), iv (d : Int), .int .u64 (m : Int)] := c1
  intro H2 hH2; obtain ⟨kH2, nH2, c2⟩ := new_facts hH2; clear hH2
  have mH2 := kH2.1
  have hk := hk.trans kH2
  have hwd := kH2.rd hwd (by simp)
  have ha := kH2.sl0 ha
  have c1 := kH2.cl c1 (by simp)
  have c2 : Cl H2 H1.next [iv (k : Int), iv (g.wl s k), iv (g.wh s k), iv (g.lo s (Nat.testBit m) k), iv (g.sl s (Nat.testBit m) k), iv (g.hi s (Nat.testBit m) k), iv (g.sm s (Nat.testBit m) k)] := c2
  intro H3 hH3; obtain ⟨kH3, nH3, c3⟩ := new_facts hH3; clear hH3
  have c3 : Cl H3 H2.next [iv 0, iv 0, iv 0, iv 0, iv 0, iv 0, iv 0] := c3
  have mH3 := kH3.1
  have hk := hk.trans kH3
  have hwd := kH3.rd hwd (by simp)
  have ha := kH3.sl0 ha
  have c1 := kH3.cl c1 (by simp)
  have c2 := kH3.cl c2 (by simp)
  refine wD_seq ?_
  refine wD_lda (b := H1.next) (o := 0) rfl c2.rd (show row 7 _ _ = some [iv (k : Int), iv (g.wl s k), iv (g.wh s k), iv (g.lo s (Nat.testBit m) k), iv (g.sl s (Nat.testBit m) k), iv (g.hi s (Nat.testBit m) k), iv (g.sm s (Nat.testBit m) k)] from rfl) ?_
  refine wD_addo (b := H.next) (o := 0) rfl ?_
  refine wD_addo (b := H.next) (o := 13) rfl ?_
  refine wD_ld (b := H.next) (o := 13) (v := iv (s : Int)) rfl c1.rd rfl ?_
  refine wD_addo (b := H1.next) (o := 0) rfl ?_
  refine wD_ld (b := H1.next) (o := 0) (v := iv (k : Int)) rfl c2.rd rfl ?_
  refine wD_add (a := (s : Int)) (b := (k : Int)) rfl rfl ⟨by omega, by omega⟩ ?_
  refine wD_alc ?_
  intro H4 kH4 nH4 c4
  have c4 : Cl H4 H3.next [iv 0, iv 0, iv 0, iv 0, iv 0, iv 0, iv 0] := c4
  have mH4 := kH4.1
  have hk := hk.trans kH4
  have hwd := kH4.rd hwd (by simp)
  have ha := kH4.sl0 ha
  have c1 := kH4.cl c1 (by simp)
  have c2 := kH4.cl c2 (by simp)
  have c3 := kH4.cl c3 (by simp)
  refine wD_sta (b := H3.next) (o := 0) rfl rfl c4 (by omega) rfl rfl (by simp) ?_
  intro H5 kH5 nH5 sH5
  have mH5 := kH5.1
  have hk := hk.new kH5 (fun b hb => by simp at hb ⊢; omega)
  have hwd := kH5.rd hwd (by first | (simp; done) | (simp; omega))
  have ha := kH5.sl ha (fun b e => by have := fa b e; first | (simp; done) | (simp; omega))
  have c1 := kH5.cl c1 (by first | (simp; done) | (simp; omega))
  have c2 := kH5.cl c2 (by first | (simp; done) | (simp; omega))
  have c3 := kH5.cl c3 (by first | (simp; done) | (simp; omega))
  have c4 : Cl H5 H3.next [iv (k : Int), iv (g.wl s k), iv (g.wh s k), iv (g.lo s (Nat.testBit m) k), iv (g.sl s (Nat.testBit m) k), iv (g.hi s (Nat.testBit m) k), iv (g.sm s (Nat.testBit m) k)] := sH5
  refine wD_mov (v := iv ((s : Int) + (k : Int))) rfl ?_
  refine wD_end (by repeat' first | exact True.intro | exact (fun h => h) | refine And.intro ?_ ?_ | (intro h; have h : (_ : Nat) = _ := h; omega)) ?_
  refine Exists.intro _ (Exists.intro _ (And.intro c4.of (And.intro (show _ = some (iv (k : Int)) from rfl) ?_)))
  refine And.intro ⟨by omega, by omega⟩ ?_
  obtain ⟨_, eH6, lH6, gH6⟩ := id c4
  refine Exists.intro _ (Exists.intro _ (Exists.intro _ (And.intro gH6 (And.intro (by omega) (And.intro rfl (And.intro rfl (And.intro (by simp) ?_)))))))
  intro H6 hH6; obtain ⟨kH6, nH6, sH6⟩ := up_facts c4 hH6; clear hH6
  have mH6 := kH6.1
  have hk := hk.new kH6 (fun b hb => by simp at hb ⊢; omega)
  have hwd := kH6.rd hwd (by first | (simp; done) | (simp; omega))
  have ha := kH6.sl ha (fun b e => by have := fa b e; first | (simp; done) | (simp; omega))
  have c1 := kH6.cl c1 (by first | (simp; done) | (simp; omega))
  have c2 := kH6.cl c2 (by first | (simp; done) | (simp; omega))
  have c3 := kH6.cl c3 (by first | (simp; done) | (simp; omega))
  have c4 : Cl H6 H3.next [iv ((k : Int) + 1), iv (g.wl s k), iv (g.wh s k), iv (g.lo s (Nat.testBit m) k), iv (g.sl s (Nat.testBit m) k), iv (g.hi s (Nat.testBit m) k), iv (g.sm s (Nat.testBit m) k)] := sH6
  refine wD_seq ?_
  refine wD_addo (b := H3.next) (o := 0) rfl ?_
  refine wD_addo (b := H3.next) (o := 1) rfl ?_
  refine wD_ld (b := H3.next) (o := 1) (v := iv (g.wl s k)) rfl c4.rd rfl ?_
  refine wD_addo (b := H.next) (o := 0) rfl ?_
  refine wD_addo (b := H.next) (o := 0) rfl ?_
  refine wD_ld (b := H.next) (o := 0) (v := .slice (some ⟨wb, 0, none⟩) g.wn g.wcap) rfl c1.rd (show _ = some (Value.slice (some ⟨wb, 0, none⟩) g.wn g.wcap) from by rw [← ewa]; rfl) ?_
  refine wD_mov (v := iv ((s : Int) + (k : Int))) rfl ?_
  refine wD_idx (b := wb) (o := 0) (k := (s + k)) (j := (s : Int) + (k : Int)) rfl rfl (by omega) (by omega) ?_
  refine wD_addo (b := wb) (o := 0 + (s + k) * 2) rfl ?_
  refine wD_ld (b := wb) (o := 0 + (s + k) * 2) (v := iv ((g.W (s + k)).1)) rfl hwd (span_get (l := (g.W (s + k)).1) (h := (g.W (s + k)).2) hW.1).1 ?_
  refine wD_addo (b := H.next) (o := 0) rfl ?_
  refine wD_addo (b := H.next) (o := 0) rfl ?_
  refine wD_ld (b := H.next) (o := 9) (v := iv g.base) rfl c1.rd rfl ?_
  refine wD_sub (a := (g.W (s + k)).1) (b := g.base) rfl rfl ⟨by omega, by omega⟩ ?_
  refine wD_mm (a := 0) (b := ((g.W (s + k)).1) - g.base) rfl rfl ?_
  refine wD_add (a := g.wl s k) (b := max 0 (((g.W (s + k)).1) - g.base)) rfl rfl ⟨by omega, by omega⟩ ?_
  refine wD_addo (b := H3.next) (o := 0) rfl ?_
  refine wD_addo (b := H3.next) (o := 1) rfl ?_
  refine wD_st (b := H3.next) (o := 1) rfl rfl c4 (by omega) rfl rfl (by simp) ?_
  intro H7 kH7 nH7 sH7
  have mH7 := kH7.1
  have hk := hk.new kH7 (fun b hb => by simp at hb ⊢; omega)
  have hwd := kH7.rd hwd (by first | (simp; done) | (simp; omega))
  have ha := kH7.sl ha (fun b e => by have := fa b e; first | (simp; done) | (simp; omega))
  have c1 := kH7.cl c1 (by first | (simp; done) | (simp; omega))
  have c2 := kH7.cl c2 (by first | (simp; done) | (simp; omega))
  have c3 := kH7.cl c3 (by first | (simp; done) | (simp; omega))
  have c4 : Cl H7 H3.next [iv ((k : Int) + 1), iv ((g.wl s k) + (max 0 (((g.W (s + k)).1) - g.base))), iv (g.wh s k), iv (g.lo s (Nat.testBit m) k), iv (g.sl s (Nat.testBit m) k), iv (g.hi s (Nat.testBit m) k), iv (g.sm s (Nat.testBit m) k)] := sH7
  refine wD_end (by repeat' first | exact True.intro | exact (fun h => h) | refine And.intro ?_ ?_ | (intro h; have h : (_ : Nat) = _ := h; omega)) ?_
  refine wD_seq ?_
  refine wD_addo (b := H3.next) (o := 0) rfl ?_
  refine wD_addo (b := H3.next) (o := 1) rfl ?_
  refine wD_ld (b := H3.next) (o := 2) (v := iv (g.wh s k)) rfl c4.rd rfl ?_
  refine wD_addo (b := H.next) (o := 0) rfl ?_
  refine wD_addo (b := H.next) (o := 0) rfl ?_
  refine wD_ld (b := H.next) (o := 0) (v := .slice (some ⟨wb, 0, none⟩) g.wn g.wcap) rfl c1.rd (show _ = some (Value.slice (some ⟨wb, 0, none⟩) g.wn g.wcap) from by rw [← ewa]; rfl) ?_
  refine wD_mov (v := iv ((s : Int) + (k : Int))) rfl ?_
  refine wD_idx (b := wb) (o := 0) (k := (s + k)) (j := (s : Int) + (k : Int)) rfl rfl (by omega) (by omega) ?_
  refine wD_addo (b := wb) (o := 0 + (s + k) * 2) rfl ?_
  refine wD_ld (b := wb) (o := 0 + (s + k) * 2 + 1) (v := iv ((g.W (s + k)).2)) rfl hwd (span_get (l := (g.W (s + k)).1) (h := (g.W (s + k)).2) hW.1).2 ?_
  refine wD_addo (b := H.next) (o := 0) rfl ?_
  refine wD_addo (b := H.next) (o := 0) rfl ?_
  refine wD_ld (b := H.next) (o := 9) (v := iv g.base) rfl c1.rd rfl ?_
  refine wD_sub (a := (g.W (s + k)).2) (b := g.base) rfl rfl ⟨by omega, by omega⟩ ?_
  refine wD_mm (a := 0) (b := ((g.W (s + k)).2) - g.base) rfl rfl ?_
  refine wD_add (a := g.wh s k) (b := max 0 (((g.W (s + k)).2) - g.base)) rfl rfl ⟨by omega, by omega⟩ ?_
  refine wD_addo (b := H3.next) (o := 0) rfl ?_
  refine wD_addo (b := H3.next) (o := 1) rfl ?_
  refine wD_st (b := H3.next) (o := 2) rfl rfl c4 (by omega) rfl rfl (by simp) ?_
  intro H8 kH8 nH8 sH8
  have mH8 := kH8.1
  have hk := hk.new kH8 (fun b hb => by simp at hb ⊢; omega)
  have hwd := kH8.rd hwd (by first | (simp; done) | (simp; omega))
  have ha := kH8.sl ha (fun b e => by have := fa b e; first | (simp; done) | (simp; omega))
  have c1 := kH8.cl c1 (by first | (simp; done) | (simp; omega))
  have c2 := kH8.cl c2 (by first | (simp; done) | (simp; omega))
  have c3 := kH8.cl c3 (by first | (simp; done) | (simp; omega))
  have c4 : Cl H8 H3.next [iv ((k : Int) + 1), iv ((g.wl s k) + (max 0 (((g.W (s + k)).1) - g.base))), iv ((g.wh s k) + (max 0 (((g.W (s + k)).2) - g.base))), iv (g.lo s (Nat.testBit m) k), iv (g.sl s (Nat.testBit m) k), iv (g.hi s (Nat.testBit m) k), iv (g.sm s (Nat.testBit m) k)] := sH8
  refine wD_end (by repeat' first | exact True.intro | exact (fun h => h) | refine And.intro ?_ ?_ | (intro h; have h : (_ : Nat) = _ := h; omega)) ?_
  refine wD_seq ?_
  refine wD_addo (b := H3.next) (o := 0) rfl ?_
  refine wD_addo (b := H.next) (o := 0) rfl ?_
  refine wD_lda (b := H.next) (o := 0) rfl c1.rd (show row 13 _ _ = some [.slice g.wa g.wn g.wcap, .slice g.aa g.an g.acap, iv g.r1, iv g.r2, iv g.f1, iv g.f2, iv g.g1, iv g.g2, iv g.full, iv g.base, iv g.kill, iv g.need, iv g.bear] from rfl) ?_
  refine wD_mov (v := iv ((s : Int) + (k : Int))) rfl ?_
  refine wD_addo (b := H.next) (o := 0) rfl ?_
  refine wD_ld (b := H.next) (o := 15) (v := .int .u64 (m : Int)) rfl c1.rd rfl ?_
  refine wD_mov (v := iv ((s : Int) + (k : Int))) rfl ?_
  refine wD_callh (vs := [.int .u64 (m : Int), iv ((s : Int) + (k : Int))]) rfl (by kernel_rfl) (callX_args (has_ok (kn := kn) (lo := H8.next) (H := H8) (d := s + k) (by omega) (by omega))) ?_
  obtain ⟨H9, fH9, kH9, dH9⟩ := passL_ok (kn := kn) (lo := lo) (H := H8) v (day := s + k) (dv := (s : Int) + (k : Int)) (fr := m.testBit (s + k)) (by omega) (by omega) c4 ⟨hlo1.1, hlo1.2⟩ ⟨by omega, by omega⟩ (by omega) (Sl.again ewa hwd hcap) ha (fun x e => by rw [ewa] at e; cases e; omega) (fun x e => by have := fa x e; omega)
  refine wD_callf (vs := [.pointer (some ⟨H3.next, 3, none⟩), .agg g.v.toArray, iv ((s : Int) + (k : Int)), .bool (m.testBit (s + k))]) rfl (callX_args fH9) ?_
  have mH9 := kH9.1
  have hk := hk.new kH9 (fun b hb => by simp at hb ⊢; omega)
  have hwd := kH9.rd hwd (by first | (simp; done) | (simp; omega))
  have ha := kH9.sl ha (fun b e => by have := fa b e; first | (simp; done) | (simp; omega))
  have c1 := kH9.cl c1 (by first | (simp; done) | (simp; omega))
  have c2 := kH9.cl c2 (by first | (simp; done) | (simp; omega))
  have c3 := kH9.cl c3 (by first | (simp; done) | (simp; omega))
  have c4 := dH9
  refine wD_end (by repeat' first | exact True.intro | exact (fun h => h) | refine And.intro ?_ ?_ | (intro h; have h : (_ : Nat) = _ := h; omega)) ?_
  refine wD_seq ?_
  refine wD_addo (b := H3.next) (o := 0) rfl ?_
  refine wD_addo (b := H.next) (o := 0) rfl ?_
  refine wD_lda (b := H.next) (o := 0) rfl c1.rd (show row 13 _ _ = some [.slice g.wa g.wn g.wcap, .slice g.aa g.an g.acap, iv g.r1, iv g.r2, iv g.f1, iv g.f2, iv g.g1, iv g.g2, iv g.full, iv g.base, iv g.kill, iv g.need, iv g.bear] from rfl) ?_
  refine wD_mov (v := iv ((s : Int) + (k : Int))) rfl ?_
  refine wD_addo (b := H.next) (o := 0) rfl ?_
  refine wD_ld (b := H.next) (o := 15) (v := .int .u64 (m : Int)) rfl c1.rd rfl ?_
  refine wD_mov (v := iv ((s : Int) + (k : Int))) rfl ?_
  refine wD_callh (vs := [.int .u64 (m : Int), iv ((s : Int) + (k : Int))]) rfl (by kernel_rfl) (callX_args (has_ok (kn := kn) (lo := H9.next) (H := H9) (d := s + k) (by omega) (by omega))) ?_
  obtain ⟨H10, fH10, kH10, dH10⟩ := passM_ok (kn := kn) (lo := lo) (H := H9) v (day := s + k) (dv := (s : Int) + (k : Int)) (fr := m.testBit (s + k)) (by omega) (by omega) c4 ⟨hhi1.1, hhi1.2⟩ ⟨by omega, by omega⟩ (by omega) (Sl.again ewa hwd hcap) ha (fun x e => by rw [ewa] at e; cases e; omega) (fun x e => by have := fa x e; omega)
  refine wD_callf (vs := [.pointer (some ⟨H3.next, 5, none⟩), .agg g.v.toArray, iv ((s : Int) + (k : Int)), .bool (m.testBit (s + k))]) rfl (callX_args fH10) ?_
  have mH10 := kH10.1
  have hk := hk.new kH10 (fun b hb => by simp at hb ⊢; omega)
  have hwd := kH10.rd hwd (by first | (simp; done) | (simp; omega))
  have ha := kH10.sl ha (fun b e => by have := fa b e; first | (simp; done) | (simp; omega))
  have c1 := kH10.cl c1 (by first | (simp; done) | (simp; omega))
  have c2 := kH10.cl c2 (by first | (simp; done) | (simp; omega))
  have c3 := kH10.cl c3 (by first | (simp; done) | (simp; omega))
  have c4 := dH10
  refine wD_end (by repeat' first | exact True.intro | exact (fun h => h) | refine And.intro ?_ ?_ | (intro h; have h : (_ : Nat) = _ := h; omega)) ?_
  refine Exists.intro _ (Exists.intro _ (And.intro c4.of (And.intro (show row 7 _ _ = some [iv ((k : Int) + 1), iv ((g.wl s k) + (max 0 (((g.W (s + k)).1) - g.base))), iv ((g.wh s k) + (max 0 (((g.W (s + k)).2) - g.base))), iv (g.loDay (g.lo s (Nat.testBit m) k) (m.testBit (s + k)) (s + k)), iv (bif decide (g.loDay (g.lo s (Nat.testBit m) k) (m.testBit (s + k)) (s + k) < g.need) then g.sl s (Nat.testBit m) k + 1 else g.sl s (Nat.testBit m) k), iv (g.hiDay (g.hi s (Nat.testBit m) k) (m.testBit (s + k)) (s + k)), iv (bif decide (g.hiDay (g.hi s (Nat.testBit m) k) (m.testBit (s + k)) (s + k) < g.need) then g.sm s (Nat.testBit m) k + 1 else g.sm s (Nat.testBit m) k)] from rfl) ?_)))
  obtain ⟨_, eH11, lH11, gH11⟩ := id c3
  refine Exists.intro _ (Exists.intro _ (Exists.intro _ (And.intro gH11 (And.intro (by omega) (And.intro rfl (And.intro rfl (And.intro (by simp) ?_)))))))
  intro H11 hH11; obtain ⟨kH11, nH11, sH11⟩ := up_facts c3 hH11; clear hH11
  have mH11 := kH11.1
  have hk := hk.new kH11 (fun b hb => by simp at hb ⊢; omega)
  have hwd := kH11.rd hwd (by first | (simp; done) | (simp; omega))
  have ha := kH11.sl ha (fun b e => by have := fa b e; first | (simp; done) | (simp; omega))
  have c1 := kH11.cl c1 (by first | (simp; done) | (simp; omega))
  have c2 := kH11.cl c2 (by first | (simp; done) | (simp; omega))
  have c4 := kH11.cl c4 (by first | (simp; done) | (simp; omega))
  have c3 : Cl H11 H2.next [iv ((k : Int) + 1), iv ((g.wl s k) + (max 0 (((g.W (s + k)).1) - g.base))), iv ((g.wh s k) + (max 0 (((g.W (s + k)).2) - g.base))), iv (g.loDay (g.lo s (Nat.testBit m) k) (m.testBit (s + k)) (s + k)), iv (bif decide (g.loDay (g.lo s (Nat.testBit m) k) (m.testBit (s + k)) (s + k) < g.need) then g.sl s (Nat.testBit m) k + 1 else g.sl s (Nat.testBit m) k), iv (g.hiDay (g.hi s (Nat.testBit m) k) (m.testBit (s + k)) (s + k)), iv (bif decide (g.hiDay (g.hi s (Nat.testBit m) k) (m.testBit (s + k)) (s + k) < g.need) then g.sm s (Nat.testBit m) k + 1 else g.sm s (Nat.testBit m) k)] := sH11
  exact And.intro trivial (Exists.intro _ (And.intro (res_cell rfl a72 i72s rfl c3) ⟨rfl, hk⟩))
theorem states_ok {g : Lt} {s d m : Nat} : ∃ bc H', FnX Try.prog kn lo 41 [.agg (crs g s d m).toArray] H (.func (.func 63) #[] #[pt bc]) H' ∧ Keep H H' [] ∧ H.next ≤ bc ∧ Rd H' bc (crs g s d m) := by
  have key := fnX_low (kn := kn) (lo := lo) (H := H) (args := [.agg (crs g s d m).toArray]) (Q := fun w H' => ∃ bc, w = .func (.func 63) #[] #[pt bc] ∧ Keep H H' [] ∧ H.next ≤ bc ∧ Rd H' bc (crs g s d m)) Try.func41 B41 N41 Z41 L41 (by simp) ?_
  · obtain ⟨w, H', h, bc, rfl, q⟩ := key; exact ⟨bc, H', h, q⟩
  have hk := Keep.refl H []
  intro H1 hH1; obtain ⟨kH1, nH1, c1⟩ := new_facts hH1; clear hH1
  have mH1 := kH1.1
  have hk := hk.trans kH1
  have c1 : Cl H1 H.next [.slice g.wa g.wn g.wcap, .slice g.aa g.an g.acap, iv g.r1, iv g.r2, iv g.f1, iv g.f2, iv g.g1, iv g.g2, iv g.full, iv g.base, iv g.kill, iv g.need, iv g.bear, iv (s : Int), iv (d : Int), .int .u64 (m : Int)] := c1
  refine And.intro rfl (Exists.intro (.func (.func 63) #[] #[pt H.next]) (And.intro (by kernel_rfl) ?_))
  exact And.intro trivial (Exists.intro _ (And.intro rfl ⟨H.next, rfl, hk, Nat.le_refl _, c1.rd⟩))
/-- The states, one by one: J holds ahead of the k-th one; the loop may end early. -/
theorem iter_ok {g : Lt} (v : g.Vd) {s d m l bc : Nat} (hsd : s + d ≤ g.wn) {w : List Nat} (J D : Nat → Hp → Prop) (hlo : lo ≤ H.next) (hww : ∀ b ∈ w, b < H.next) (hJ0 : J 0 H) (hJe : ∀ k H, J k H → Rd H bc (crs g s d m) ∧ Sl H g.wa g.wn g.wcap (spc g.ws) ∧ Sl H g.aa g.an g.acap (spc g.as))
    (hJk : ∀ k H1 H2 b, J k H1 → Keep H1 H2 [b] → H.next ≤ b → J k H2) (hJn : ∀ k H1, J k H1 → H.next ≤ H1.next)
    (step : ∀ k H1, k ≤ d → J k H1 → ∃ t H', CallsX Try.prog kn lo (.fn (.yield l) #[]) [.agg (g.st s (Nat.testBit m) k).toArray] H1 (.bool t) H' ∧ Keep H1 H' w ∧ (bif t then J (k + 1) H' else D k H')) :
    ∃ H', FnX Try.prog kn lo 63 [.func (.yield l) #[] #[], pt bc] H unit H' ∧ (J (d + 1) H' ∨ ∃ k, k ≤ d ∧ D k H') := by
  have key := fnX_low (kn := kn) (lo := lo) (H := H) (args := [.func (.yield l) #[] #[], pt bc]) (Q := fun w H' => w = unit ∧ (J (d + 1) H' ∨ ∃ k, k ≤ d ∧ D k H')) Try.func63 B63 N63 Z63 L63 (by simp) ?_
  · obtain ⟨w, H', h, rfl, q⟩ := key; exact ⟨H', h, q⟩
  have hk := Keep.refl H []
  have rc := (hJe 0 H hJ0).1
  have hJm : ∀ k H1 H2, J k H1 → Keep H1 H2 [] → J k H2 := fun k H1 H2 j kk => hJk k H1 H2 H.next j (kk.mono (by simp)) (Nat.le_refl _)
  have lbc := rc.lt
  refine wD_seq ?_
  refine wD_addo (b := bc) (o := 0) rfl ?_
  refine wD_addo (b := bc) (o := 0) rfl ?_
  refine wD_lda (b := bc) (o := 4) rfl rc (show row 2 _ _ = some [iv g.f1, iv g.f2] from rfl) ?_
  obtain ⟨H1, fH1, kH1⟩ := bound64_ok (kn := kn) (lo := H.next) (H := H) (a := g.f1) (b := g.f2) (Nat.le_refl _)
  refine wD_callh (vs := [spv g.f1 g.f2]) rfl (by kernel_rfl) (callX_args fH1) ?_
  have mH1 := kH1.1
  have hk := hk.trans kH1
  have rc := kH1.rd rc (by simp)
  refine wD_addo (b := bc) (o := 0) rfl ?_
  refine wD_addo (b := bc) (o := 0) rfl ?_
  refine wD_lda (b := bc) (o := 4) rfl rc (show row 2 _ _ = some [iv g.f1, iv g.f2] from rfl) ?_
  obtain ⟨H2, fH2, kH2⟩ := bound65_ok (kn := kn) (lo := H1.next) (H := H1) (a := g.f1) (b := g.f2) (Nat.le_refl _)
  refine wD_callh (vs := [spv g.f1 g.f2]) rfl (by kernel_rfl) (callX_args fH2) ?_
  have mH2 := kH2.1
  have hk := hk.trans kH2
  have rc := kH2.rd rc (by simp)
  refine wD_pur (v := .agg #[iv 0, iv 0, iv 0, iv g.f1, iv 0, iv g.f2, iv 0]) rfl (by kernel_rfl) ?_
  refine wD_alc ?_
  intro H3 kH3 nH3 c3
  have c3 : Cl H3 H2.next [iv 0, iv 0, iv 0, iv 0, iv 0, iv 0, iv 0] := c3
  have mH3 := kH3.1
  have hk := hk.trans kH3
  have rc := kH3.rd rc (by simp)
  refine wD_sta (b := H2.next) (o := 0) rfl rfl c3 (by omega) rfl rfl (by simp) ?_
  intro H4 kH4 nH4 sH4
  have mH4 := kH4.1
  have hk := hk.new kH4 (fun b hb => by simp at hb ⊢; omega)
  have rc := kH4.rd rc (by first | (simp; done) | (simp; omega))
  have c3 : Cl H4 H2.next [iv 0, iv 0, iv 0, iv g.f1, iv 0, iv g.f2, iv 0] := sH4
  refine wD_end (by repeat' first | exact True.intro | exact (fun h => h) | refine And.intro ?_ ?_ | (intro h; have h : (_ : Nat) = _ := h; omega)) ?_
  have hJs : J 0 H4 := hJm 0 H H4 hJ0 hk
  have hb3 : H.next ≤ H2.next := by omega
  have nw : H2.next ∉ w := fun q => by have := hww _ q; omega
  generalize H2.next = b3 at *
  have c0 : Cl H4 b3 (g.st s (Nat.testBit m) 0) := c3
  refine loop_low (fn := Try.f63) E63_1 N63 L63x1 (fun k : Nat => [(0, .func (.yield l) #[] #[]), (1, pt bc), (3, pt b3)])
    (fun q k H' => k + q = d ∧ J k H' ∧ Cl H' b3 (g.st s (Nat.testBit m) k)) d 0 ⟨by omega, hJs, c0⟩ ⟨rfl, rfl, rfl, trivial⟩ ?_
  rintro q k H5 ⟨hkq, hJ, c⟩
  refine Exists.intro _ (Exists.intro _ (And.intro c.of (And.intro (show _ = some (iv (k : Int)) from rfl) ?_)))
  refine Exists.intro _ (Exists.intro _ (And.intro (hJe k H5 hJ).1.of (And.intro (show _ = some (iv (d : Int)) from rfl) ?_)))
  refine And.intro (fun hlt => ?_) (fun hge => ?_)
  · have hlt : k < d := by have := of_decide_eq_true hlt; omega
    refine Exists.intro _ (Exists.intro _ (And.intro c.of (And.intro (show row 7 _ 0 = some (g.st s (Nat.testBit m) k) from rfl) ?_)))
    obtain ⟨t, H6, f6, k6, hj⟩ := step k H5 (by omega) hJ
    refine Exists.intro _ (Exists.intro _ (And.intro f6 ?_))
    refine And.intro rfl (Exists.intro (.bool (!t)) (And.intro rfl ?_))
    cases t
    · refine condT ?_
      exact And.intro trivial (Exists.intro _ (And.intro rfl ⟨rfl, .inr ⟨k, by omega, hj⟩⟩))
    · refine condF ?_
      have hj : J (k + 1) H6 := hj
      have c6 := k6.cl c nw
      obtain ⟨r6, hw6, ha6⟩ := hJe (k + 1) H6 hj
      refine Exists.intro _ (Exists.intro _ (And.intro r6.of (And.intro (show row 16 _ 0 = some (crs g s d m) from rfl) ?_)))
      refine Exists.intro _ (Exists.intro _ (And.intro c6.of (And.intro (show row 7 _ 0 = some (g.st s (Nat.testBit m) k) from rfl) ?_)))
      have hn6 := hJn _ _ hj
      obtain ⟨H7, f7, k7⟩ := day_ok (kn := kn) (lo := lo) (H := H6) (s := s) (d := d) (m := m) v (k := k) (by omega) hw6 ha6 (by omega)
      refine Exists.intro _ (Exists.intro _ (And.intro (callX_args f7) ?_))
      have c7 := k7.cl c6 (by simp)
      obtain ⟨_, e8, l8, g8⟩ := id c7
      refine Exists.intro _ (Exists.intro _ (Exists.intro _ (And.intro g8 (And.intro (by omega) (And.intro rfl (And.intro rfl (And.intro (by simp) ?_)))))))
      intro H8 hH8; obtain ⟨k8, n8, c8⟩ := up_facts c7 hH8; clear hH8
      have c8 : Cl H8 b3 (g.st s (Nat.testBit m) (k + 1)) := c8
      exact ⟨q - 1, k + 1, by omega, ⟨by omega, hJk _ _ _ _ (hJm _ _ _ hj k7) k8 hb3, c8⟩, rfl, rfl, rfl, trivial⟩
  · have hge : ¬ k < d := by have := of_decide_eq_false hge; omega
    have e : k = d := by omega
    subst e
    refine Exists.intro _ (Exists.intro _ (And.intro c.of (And.intro (show row 7 _ 0 = some (g.st s (Nat.testBit m) k) from rfl) ?_)))
    obtain ⟨t, H6, f6, k6, hj⟩ := step k H5 (Nat.le_refl _) hJ
    refine Exists.intro _ (Exists.intro _ (And.intro f6 ?_))
    cases t
    · exact And.intro trivial (Exists.intro _ (And.intro rfl ⟨rfl, .inr ⟨k, Nat.le_refl _, hj⟩⟩))
    · exact And.intro trivial (Exists.intro _ (And.intro rfl ⟨rfl, .inl hj⟩))
end
end Go.Ax

/-
  Late: the search through the states of a course (61), its ends (39, 47, 50) (written by program).
-/
namespace Go.Ax
open Go Go.RowKit Go.Proofs

noncomputable abbrev asg61 : Code := at_ Try.f61 [1, 0, 1, 0, 0]
noncomputable abbrev body61 : Code := at_ Try.f61 [1, 0, 1, 0, 1]
abbrev noneS : List Value := [iv (-1), iv 0, iv 0, iv 0, iv 0, iv 0, iv 0]
abbrev S61 (b3 b4 : Nat) : Rg := [(3, pt b3), (4, pt b4)]
/-- where a search's things lie -/
structure SX where
  b3 : Nat
  b4 : Nat
  bc : Nat
  r : Nat
/-- what a search is called with -/
structure SC where
  g : Lt
  s : Nat
  d : Nat
  m : Nat
  gv : Value
  p : Nat → Bool
structure SG (X : SX) (lo : Nat) (H0 : Hp) : Prop where
  o0 : H0.next ≤ X.b3
  ol : lo ≤ X.b3
  o1 : X.b3 < X.b4
  o2 : X.b4 < X.bc
  o3 : X.bc < X.r
/-- ahead of the k-th state -/
structure SJ (X : SX) (c : SC) (Q : Hp → Prop) (H0 : Hp) (k : Nat) (H' : Hp) : Prop where
  c3 : Rd H' X.b3 [c.gv]
  c4 : ∃ cs, Cl H' X.b4 cs ∧ cs.length = 7
  cb : Rd H' X.bc (crs c.g c.s c.d c.m)
  hw : Sl H' c.g.wa c.g.wn c.g.wcap (spc c.g.ws)
  ha : Sl H' c.g.aa c.g.an c.g.acap (spc c.g.as)
  q : Q H'
  all : ∀ j, j < k → c.p j = true
  lp : Lp Try.prog H' (X.r + 1) .ready none 15 (S61 X.b3 X.b4) [8] asg61 body61 X.r
  ll : X.r + 1 < H'.next
  dfr : H'.t.get X.r = some (.dfr (some []))
  kp : Keep H0 H' []
structure SD (X : SX) (c : SC) (H0 : Hp) (k : Nat) (H' : Hp) : Prop where
  c4 : Cl H' X.b4 (c.g.st c.s (Nat.testBit c.m) k)
  no : c.p k = false
  all : ∀ j, j < k → c.p j = true
  lp : Lp Try.prog H' (X.r + 1) .done (some .ret) 15 (S61 X.b3 X.b4) [8] asg61 body61 X.r
  ll : X.r + 1 < H'.next
  dfr : H'.t.get X.r = some (.dfr (some []))
  kp : Keep H0 H' []
/-- what the search's question is -/
structure SP (kn : FuncId → Option Bool) (c : SC) (Q : Hp → Prop) (L : Nat) : Prop where
  keep : ∀ H1 H2 w, Q H1 → Keep H1 H2 w → (∀ b ∈ w, L ≤ b) → Q H2
  call : ∀ lo H1 k, k ≤ c.d → Q H1 → lo ≤ H1.next → ∃ fid cap H2, c.gv = .func (.func fid) #[] cap ∧ CallsX Try.prog kn lo (.fn (.func fid) cap) [.agg (c.g.st c.s (Nat.testBit c.m) k).toArray] H1 (.bool (c.p k)) H2 ∧ Keep H1 H2 []
section
variable {kn : FuncId → Option Bool} {lo : Nat} {H : Hp}
theorem SJ.keep {X : SX} {c : SC} {Q : Hp → Prop} {H0 : Hp} {k : Nat} {H1 H2 : Hp} {b : Nat} (G : SG X lo H0) (P : SP kn c Q H0.next) (fw : ∀ b, c.g.wa = some ⟨b, 0, none⟩ → b < H0.next) (fa : ∀ b, c.g.aa = some ⟨b, 0, none⟩ → b < H0.next) (j : SJ X c Q H0 k H1) (kk : Keep H1 H2 [b]) (hb : X.r + 1 < b) : SJ X c Q H0 k H2 := by
  obtain ⟨o0, ol, o1, o2, o3⟩ := G
  obtain ⟨cs, c4, c4l⟩ := j.c4
  have ne : ∀ x, x < b → x ∉ [b] := fun x h => by simp; omega
  exact ⟨kk.rd j.c3 (ne _ (by omega)), ⟨cs, kk.cl c4 (ne _ (by omega)), c4l⟩, kk.rd j.cb (ne _ (by omega)), kk.sl j.hw (fun x e => ne _ (by have := fw x e; omega)), kk.sl j.ha (fun x e => ne _ (by have := fa x e; omega)),
    P.keep _ _ _ j.q kk (fun x hx => by simp at hx; omega), j.all, j.lp.keep kk j.ll (ne _ hb), Nat.lt_of_lt_of_le j.ll kk.1, by rw [kk.2 X.r (by have := j.ll; omega) (ne _ (by omega))]; exact j.dfr, j.kp.new kk (fun x hx => .inr (by simp at hx; omega))⟩
theorem search_round {X : SX} {c : SC} {Q : Hp → Prop} {H0 : Hp} (G : SG X lo H0) (P : SP kn c Q H0.next) (fw : ∀ b, c.g.wa = some ⟨b, 0, none⟩ → b < H0.next) (fa : ∀ b, c.g.aa = some ⟨b, 0, none⟩ → b < H0.next) {k : Nat} (hkd : k ≤ c.d) (j : SJ X c Q H0 k H) :
    ∃ t H', CallsX Try.prog kn lo (.fn (.yield (X.r + 1)) #[]) [.agg (c.g.st c.s (Nat.testBit c.m) k).toArray] H (.bool t) H' ∧ Keep H H' [X.b4, X.r + 1] ∧ (bif t then SJ X c Q H0 (k + 1) H' else SD X c H0 k H') := by
  have L1 : low Try.prog 15 asg61 = some R61x1 := N61 ▸ L61x1
  have L2 : low Try.prog 15 body61 = some R61x2 := N61 ▸ L61x2
  obtain ⟨o0, ol, o1, o2, o3⟩ := G
  refine yield_ok (kn := kn) (P := Try.prog) (lo := lo) (S1 := (8, .agg (c.g.st c.s (Nat.testBit c.m) k).toArray) :: S61 X.b3 X.b4) (args := [.agg (c.g.st c.s (Nat.testBit c.m) k).toArray]) (Q := fun t H' => Keep H H' [X.b4, X.r + 1] ∧ (bif t then SJ X c Q H0 (k + 1) H' else SD X c H0 k H')) j.lp (by omega) (by rfl) rfl (wC_sound true _ L1 ?_)
  have ll := j.ll
  intro H1 hH1; obtain ⟨k1, n1, c1⟩ := new_facts hH1; clear hH1
  obtain ⟨_, e2, l2, g2⟩ := id c1
  refine Exists.intro _ (Exists.intro _ (Exists.intro _ (And.intro g2 (And.intro (by have := j.kp.1; omega) (And.intro rfl (And.intro rfl (And.intro (by simp) ?_)))))))
  intro H2 hH2; obtain ⟨k2, n2, c2⟩ := up_facts c1 hH2; clear hH2
  have c2 : Cl H2 H.next (c.g.st c.s (Nat.testBit c.m) k) := c2
  have k02 : Keep H H2 [] := k1.new k2 (fun b hb => .inr (by simp at hb; omega))
  have m02 := k02.1
  have lp2 := j.lp.keep k02 j.ll (by simp)
  refine And.intro trivial (And.intro lp2 ?_)
  intro H4 s4
  have k4 := s4.keep
  have lp4 := s4.lp lp2
  have hn4 : H4.next = H2.next := s4.1
  have nl : ∀ x, x < X.r + 1 → x ∉ [X.r + 1] := fun x hx => by simp; omega
  have k04 : Keep H H4 [X.r + 1] := (k02.mono (by simp)).trans k4
  have d3 := k04.rd j.c3 (nl _ (by omega))
  obtain ⟨cs, d4, d4l⟩ := j.c4
  have d4 := k04.cl d4 (nl _ (by omega))
  have db := k04.rd j.cb (nl _ (by omega))
  have dw := k04.sl j.hw (fun b e => nl _ (by have := fw b e; omega))
  have da := k04.sl j.ha (fun b e => nl _ (by have := fa b e; omega))
  have dq := P.keep _ _ _ j.q k04 (fun b hb => by simp at hb; omega)
  have c4 := k4.cl c2 (by simp; omega)
  have ddf : H4.t.get X.r = some (.dfr (some [])) := by rw [k04.2 X.r (by omega) (nl _ (by omega))]; exact j.dfr
  have kp4 : Keep H0 H4 [] := j.kp.new k04 (fun b hb => .inr (by simp at hb; omega))
  obtain ⟨fid, cap, H5, egv, f5, k5⟩ := P.call lo H4 k hkd dq (by have := j.kp.1; omega)
  refine wC_sound true _ L2 ?_
  refine Exists.intro _ (Exists.intro _ (And.intro d3.of (And.intro (show _ = some c.gv from rfl) ?_)))
  refine Exists.intro _ (Exists.intro _ (And.intro c4.of (And.intro (show row 7 _ 0 = some (c.g.st c.s (Nat.testBit c.m) k) from rfl) ?_)))
  rw [egv]
  refine Exists.intro _ (Exists.intro _ (And.intro f5 ?_))
  have m5 := k5.1
  have e4 := k5.cl d4 (by simp)
  have c5 := k5.cl c4 (by simp)
  have lp5 := lp4.keep k5 (by omega) (by simp)
  have df5 : H5.t.get X.r = some (.dfr (some [])) := by rw [k5.2 X.r (by omega) (by simp)]; exact ddf
  have kp5 := kp4.trans k5
  have k05 : Keep H H5 [X.r + 1] := k04.trans (k5.mono (by simp))
  refine And.intro rfl (Exists.intro (.bool (!c.p k)) (And.intro rfl ?_))
  cases hp : c.p k
  · refine condT ?_
    refine Exists.intro _ (Exists.intro _ (And.intro c5.of (And.intro (show row 7 _ 0 = some (c.g.st c.s (Nat.testBit c.m) k) from rfl) ?_)))
    obtain ⟨_, e6, l6, g6⟩ := id e4
    refine Exists.intro _ (Exists.intro _ (Exists.intro _ (And.intro g6 (And.intro (by omega) (And.intro rfl (And.intro rfl (And.intro (by rw [d4l]; decide) ?_)))))))
    intro H6 hH6; obtain ⟨k6, n6, c6⟩ := up_facts e4 hH6; clear hH6
    have c6 : Cl H6 X.b4 (c.g.st c.s (Nat.testBit c.m) k) := by
      have e := putRow_all cs (c.g.st c.s (Nat.testBit c.m) k) [] (by rw [d4l]; rfl)
      simp only [List.nil_append, List.length_nil] at e
      rw [← e]; exact c6
    have lp6 := lp5.keep k6 (by omega) (by simp; omega)
    refine And.intro lp6 ?_
    intro H7 s7
    have k7 := s7.keep
    have hn7 : H7.next = H6.next := s7.1
    have k07 : Keep H H7 [X.b4, X.r + 1] := ((k05.mono (by simp)).trans (k6.mono (by simp))).trans (k7.mono (by simp))
    exact ⟨k07, ⟨k7.cl c6 (nl _ (by omega)), hp, j.all, s7.lp lp6, by omega, by rw [k7.2 X.r (by omega) (nl _ (by omega)), k6.2 X.r (by omega) (by simp; omega)]; exact df5, (kp5.new k6 (fun b hb => .inr (by simp at hb; omega))).new k7 (fun b hb => .inr (by simp at hb; omega))⟩⟩
  · refine condF ?_
    refine And.intro lp5 ?_
    intro H7 s7
    have k7 := s7.keep
    have hn7 : H7.next = H5.next := s7.1
    have k07 : Keep H H7 [X.b4, X.r + 1] := (k05.mono (by simp)).trans (k7.mono (by simp))
    refine ⟨k07, ⟨k7.rd (k5.rd d3 (by simp)) (nl _ (by omega)), ⟨cs, k7.cl e4 (nl _ (by omega)), d4l⟩, k7.rd (k5.rd db (by simp)) (nl _ (by omega)), k7.sl (k5.sl0 dw) (fun b e => nl _ (by have := fw b e; omega)), k7.sl (k5.sl0 da) (fun b e => nl _ (by have := fa b e; omega)), P.keep _ _ _ (P.keep _ _ _ dq k5 (by simp)) k7 (fun b hb => by simp at hb; omega), fun i hi => ?_, s7.lp lp5, by omega, by rw [k7.2 X.r (by omega) (nl _ (by omega))]; exact df5, kp5.new k7 (fun b hb => .inr (by simp at hb; omega))⟩⟩
    rcases Nat.lt_or_ge i k with q | q
    · exact j.all i q
    · have : i = k := by omega
      subst this; exact hp
/-- the first state for which the question is answered by no, or none -/
def SC.res (c : SC) (w : Value) : Prop := (∃ k, k ≤ c.d ∧ c.p k = false ∧ (∀ j, j < k → c.p j = true) ∧ w = .agg (c.g.st c.s (Nat.testBit c.m) k).toArray) ∨ ((∀ j, j ≤ c.d → c.p j = true) ∧ w = .agg noneS.toArray)
theorem search_ok (h48 : kn 48 = none) {c : SC} {Q : Hp → Prop} (v : c.g.Vd) (hsd : c.s + c.d ≤ c.g.wn) (P : SP kn c Q H.next) (hgv : c.gv.cells.toList = [c.gv]) (hone : one c.gv = true) (hw : Sl H c.g.wa c.g.wn c.g.wcap (spc c.g.ws)) (ha : Sl H c.g.aa c.g.an c.g.acap (spc c.g.as)) (hq : Q H) (hlo : lo ≤ H.next) :
    ∃ w H', FnX Try.prog kn lo 61 [.agg (crs c.g c.s c.d c.m).toArray, c.gv] H w H' ∧ Keep H H' [] ∧ c.res w := by
  refine fnX_lowR (kn := kn) (lo := lo) (H := H) (args := [.agg (crs c.g c.s c.d c.m).toArray, c.gv]) (Q := fun w H' => Keep H H' [] ∧ c.res w) Try.func61 B61 N61 Z61 L61 (by simp) ?_
  intro y hy
  refine TriR.lowR hy ?_
  intro H1 hH1; obtain ⟨k1, n1, c1⟩ := new_facts hH1; clear hH1
  have c1 : Cl H1 H.next (crs c.g c.s c.d c.m) := c1
  intro H2 hH2; obtain ⟨k2, n2, c2⟩ := new_facts hH2; clear hH2
  rw [hgv] at c2
  intro H3 hH3; obtain ⟨k3, n3, c3⟩ := new_facts hH3; clear hH3
  have c3 : Cl H3 H2.next [iv 0, iv 0, iv 0, iv 0, iv 0, iv 0, iv 0] := c3
  have k03 := k1.trans (k2.trans k3)
  have d1 := (k2.trans k3).cl c1 (by simp)
  have d2 := k3.cl c2 (by simp)
  have fw : ∀ b, c.g.wa = some ⟨b, 0, none⟩ → b < H.next := hw.old
  have fa : ∀ b, c.g.aa = some ⟨b, 0, none⟩ → b < H.next := ha.old
  intro y hy
  refine TriR.lowL hy ?_
  intro z hz
  refine TriR.lowR hz ?_
  refine Exists.intro _ (Exists.intro _ (And.intro d1.of (And.intro (show row 16 _ 0 = some (crs c.g c.s c.d c.m) from rfl) ?_)))
  obtain ⟨bc, H4, f4, k4, hbc, rb⟩ := states_ok (kn := kn) (lo := lo) (H := H3) (g := c.g) (s := c.s) (d := c.d) (m := c.m)
  refine Exists.intro _ (Exists.intro _ (And.intro (callX_args f4) ?_))
  intro y hy
  refine TriR.lowB hy ?_
  rw [E61_1]
  refine TriR.range rfl ?_
  intro H5 k5 n5 hd hlp
  have k05 := k03.trans (k4.trans k5)
  have k35 := k4.trans k5
  have lbc := rb.lt
  have m4 := k4.1
  let X : SX := ⟨H1.next, H2.next, bc, H4.next⟩
  have G : SG X lo H := ⟨by show H.next ≤ H1.next; omega, by show lo ≤ H1.next; omega, by show H1.next < H2.next; omega, by show H2.next < bc; omega, by show bc < H4.next; omega⟩
  have j0 : SJ X c Q H 0 H5 := ⟨(k35.cl d2 (by simp)).rd, ⟨_, k35.cl c3 (by simp), rfl⟩, k5.rd rb (by simp), k05.sl0 hw, k05.sl0 ha, P.keep _ _ _ hq k05 (by simp), fun j hj => by omega, hlp.weak ⟨rfl, rfl, trivial⟩, by show H4.next + 1 < H5.next; omega, hd, k05⟩
  obtain ⟨H6, h6, hend⟩ := iter_ok (kn := kn) (lo := lo) (H := H5) (l := H4.next + 1) (bc := bc) v hsd (w := [H2.next, H4.next + 1]) (fun k H' => SJ X c Q H k H') (fun k H' => SD X c H k H') (by omega) (fun b hb => by simp at hb; omega) j0 (fun k H' j => ⟨j.cb, j.hw, j.ha⟩)
    (fun k H1' H2' b j kk hb => j.keep G P fw fa kk (by show H4.next + 1 < b; omega)) (fun k H' j => by have h1 : H4.next + 1 < H'.next := j.ll; omega) (fun k H' hk j => search_round G P fw fa hk j)
  refine Exists.intro _ (Exists.intro H6 (And.intro (callX_func rfl (by simpa using h6)) ?_))
  rcases hend with j | ⟨k, hk, dn⟩
  · refine ⟨.ready, none, _, j.lp, by simp, ?_⟩
    intro H7 s7
    have k7 := s7.keep
    have hn7 : H7.next = H6.next := s7.1
    have ll : H4.next + 1 < H6.next := j.ll
    have kH : Keep H H7 [] := j.kp.new k7 (fun b hb => .inr (by simp at hb; omega))
    obtain ⟨cs, q4, q4l⟩ := j.c4
    have q4 : Cl H6 H2.next cs := q4
    have q4 := k7.cl q4 (by simp; omega)
    have dj : H7.t.get H4.next = some (.dfr (some [])) := by
      rw [k7.2 H4.next (by omega) (by simp)]; exact j.dfr
    obtain ⟨H8, f8, k8⟩ := none48_ok (kn := kn) (lo := lo) (H := H7) (by omega)
    refine Exists.intro _ (Exists.intro _ (And.intro (callX_func (by simp [kcall, h48]) (by simpa using f8)) ?_))
    have q4 := k8.cl q4 (by simp)
    have m8 := k8.1
    obtain ⟨_, e9, l9, g9⟩ := id q4
    refine Exists.intro _ (Exists.intro _ (Exists.intro _ (And.intro g9 (And.intro (by omega) (And.intro rfl (And.intro rfl (And.intro (by rw [q4l]; decide) ?_)))))))
    intro H9 hH9; obtain ⟨k9, n9, c9⟩ := up_facts q4 hH9; clear hH9
    have c9 : Cl H9 H2.next noneS := by
      have e := putRow_all cs noneS [] (by rw [q4l]; rfl)
      simp only [List.nil_append, List.length_nil] at e
      rw [← e]; exact c9
    have dj9 : H9.t.get H4.next = some (.dfr (some [])) := by
      rw [k9.2 H4.next (by omega) (by simp; omega), k8.2 H4.next (by omega) (by simp)]; exact dj
    have kk := (kH.trans k8).new k9 (fun b hb => .inr (by simp at hb; omega))
    refine And.intro trivial (Or.inr ⟨H4.next, rfl, by omega, dj9, fun H10 hn10 hs10 => ?_⟩)
    have k10 : Keep H9 H10 [H4.next] := ⟨by omega, fun b _ hb => hs10 b (by simpa using hb)⟩
    exact ⟨_, res_cell rfl a72 i72s rfl (k10.cl c9 (by simp; omega)), kk.new k10 (fun b hb => .inr (by simp at hb; omega)), .inr ⟨fun i hi => j.all i (by omega), rfl⟩⟩
  · refine ⟨.done, some .ret, _, dn.lp, by simp, ?_⟩
    intro H7 s7
    have k7 := s7.keep
    have hn7 : H7.next = H6.next := s7.1
    have ll : H4.next + 1 < H6.next := dn.ll
    have kH : Keep H H7 [] := dn.kp.new k7 (fun b hb => .inr (by simp at hb; omega))
    have q4 : Cl H6 H2.next (c.g.st c.s (Nat.testBit c.m) k) := dn.c4
    have q4 := k7.cl q4 (by simp; omega)
    have dj : H7.t.get H4.next = some (.dfr (some [])) := by
      rw [k7.2 H4.next (by omega) (by simp)]; exact dn.dfr
    refine And.intro trivial (Or.inr ⟨H4.next, rfl, by omega, dj, fun H10 hn10 hs10 => ?_⟩)
    have k10 : Keep H7 H10 [H4.next] := ⟨by omega, fun b _ hb => hs10 b (by simpa using hb)⟩
    exact ⟨_, res_cell rfl a72 i72s rfl (k10.cl q4 (by simp; omega)), kH.new k10 (fun b hb => .inr (by simp at hb; omega)), .inl ⟨k, hk, dn.no, dn.all, rfl⟩⟩
end
end Go.Ax

/-
  Late: a course to its end, till the weeds are dead, till the vines are hurt (39, 47, 50, 52) (written by program).
-/
namespace Go.Ax
open Go Go.RowKit Go.Proofs

section
variable {kn : FuncId → Option Bool} {lo : Nat} {H : Hp}
theorem hurts_ok {g : Lt} {s d m k : Nat} : ∃ H', FnX Try.prog kn lo 52 [.agg (crs g s d m).toArray, .agg (g.st s (Nat.testBit m) k).toArray] H (.bool (decide (g.sl s (Nat.testBit m) k > g.bear))) H' ∧ Keep H H' [] := by
  have key := fnX_low (kn := kn) (lo := lo) (H := H) (args := [.agg (crs g s d m).toArray, .agg (g.st s (Nat.testBit m) k).toArray]) (Q := fun w H' => w = .bool (decide (g.sl s (Nat.testBit m) k > g.bear)) ∧ Keep H H' []) Try.func52 B52 N52 Z52 L52 (by simp) ?_
  · obtain ⟨w, H', h, rfl, q⟩ := key; exact ⟨H', h, q⟩
  have hk := Keep.refl H []
  intro H1 hH1; obtain ⟨kH1, nH1, c1⟩ := new_facts hH1; clear hH1
  have mH1 := kH1.1
  have hk := hk.trans kH1
  have c1 : Cl H1 H.next [.slice g.wa g.wn g.wcap, .slice g.aa g.an g.acap, iv g.r1, iv g.r2, iv g.f1, iv g.f2, iv g.g1, iv g.g2, iv g.full, iv g.base, iv g.kill, iv g.need, iv g.bear, iv (s : Int), iv (d : Int), .int .u64 (m : Int)] := c1
  intro H2 hH2; obtain ⟨kH2, nH2, c2⟩ := new_facts hH2; clear hH2
  have mH2 := kH2.1
  have hk := hk.trans kH2
  have c1 := kH2.cl c1 (by simp)
  have c2 : Cl H2 H1.next [iv (k : Int), iv (g.wl s k), iv (g.wh s k), iv (g.lo s (Nat.testBit m) k), iv (g.sl s (Nat.testBit m) k), iv (g.hi s (Nat.testBit m) k), iv (g.sm s (Nat.testBit m) k)] := c2
  refine Exists.intro _ (Exists.intro _ (And.intro c2.of (And.intro (show _ = some (iv (g.sl s (Nat.testBit m) k)) from rfl) ?_)))
  refine Exists.intro _ (Exists.intro _ (And.intro c1.of (And.intro (show _ = some (iv g.bear) from rfl) ?_)))
  exact And.intro trivial (Exists.intro _ (And.intro rfl ⟨rfl, hk⟩))
theorem q70_ok {g : Lt} {s d m k bc : Nat} (rc : Rd H bc (crs g s d m)) : ∃ H', FnX Try.prog kn lo 70 [.agg (g.st s (Nat.testBit m) k).toArray, pt bc] H (.bool (!(decide (g.sl s (Nat.testBit m) k > g.bear)))) H' ∧ Keep H H' [] := by
  have key := fnX_low (kn := kn) (lo := lo) (H := H) (args := [.agg (g.st s (Nat.testBit m) k).toArray, pt bc]) (Q := fun w H' => w = .bool (!(decide (g.sl s (Nat.testBit m) k > g.bear))) ∧ Keep H H' []) Try.func70 B70 N70 Z70 L70 (by simp) ?_
  · obtain ⟨w, H', h, rfl, q⟩ := key; exact ⟨H', h, q⟩
  have hk := Keep.refl H []
  intro H1 hH1; obtain ⟨kH1, nH1, c1⟩ := new_facts hH1; clear hH1
  have mH1 := kH1.1
  have rc := kH1.rd rc (by simp)
  have hk := hk.trans kH1
  have c1 : Cl H1 H.next [iv (k : Int), iv (g.wl s k), iv (g.wh s k), iv (g.lo s (Nat.testBit m) k), iv (g.sl s (Nat.testBit m) k), iv (g.hi s (Nat.testBit m) k), iv (g.sm s (Nat.testBit m) k)] := c1
  refine Exists.intro _ (Exists.intro _ (And.intro rc.of (And.intro (show row 16 _ _ = some [.slice g.wa g.wn g.wcap, .slice g.aa g.an g.acap, iv g.r1, iv g.r2, iv g.f1, iv g.f2, iv g.g1, iv g.g2, iv g.full, iv g.base, iv g.kill, iv g.need, iv g.bear, iv (s : Int), iv (d : Int), .int .u64 (m : Int)] from rfl) ?_)))
  refine Exists.intro _ (Exists.intro _ (And.intro c1.of (And.intro (show row 7 _ _ = some [iv (k : Int), iv (g.wl s k), iv (g.wh s k), iv (g.lo s (Nat.testBit m) k), iv (g.sl s (Nat.testBit m) k), iv (g.hi s (Nat.testBit m) k), iv (g.sm s (Nat.testBit m) k)] from rfl) ?_)))
  refine callB (hurts_ok (g := g) (s := s) (d := d) (m := m) (k := k)) ?_
  intro t H2 ht kH2
  have mH2 := kH2.1
  have rc := kH2.rd rc (by simp)
  have hk := hk.trans kH2
  have c1 := kH2.cl c1 (by simp)
  refine And.intro rfl (Exists.intro (.bool (!t)) (And.intro rfl ?_))
  exact And.intro trivial (Exists.intro _ (And.intro rfl ⟨by rw [ht]; rfl, hk⟩))
theorem hurt_ok (h48 : kn 48 = none) {g : Lt} (v : g.Vd) {s d m : Nat} (hsd : s + d ≤ g.wn) (hw : Sl H g.wa g.wn g.wcap (spc g.ws)) (ha : Sl H g.aa g.an g.acap (spc g.as)) (hlo : lo ≤ H.next) :
    ∃ w H', FnX Try.prog kn lo 50 [.agg (crs g s d m).toArray] H w H' ∧ Keep H H' [] ∧ ((∃ k, k ≤ d ∧ (!(decide (g.sl s (Nat.testBit m) k > g.bear))) = false ∧ (∀ j, j < k → (fun k => !(decide (g.sl s (Nat.testBit m) k > g.bear))) j = true) ∧ w = .agg (g.st s (Nat.testBit m) k).toArray) ∨ ((∀ j, j ≤ d → (fun k => !(decide (g.sl s (Nat.testBit m) k > g.bear))) j = true) ∧ w = .agg noneS.toArray)) := by
  refine fnX_low (kn := kn) (lo := lo) (H := H) (args := [.agg (crs g s d m).toArray]) (Q := fun w H' => Keep H H' [] ∧ ((∃ k, k ≤ d ∧ (!(decide (g.sl s (Nat.testBit m) k > g.bear))) = false ∧ (∀ j, j < k → (fun k => !(decide (g.sl s (Nat.testBit m) k > g.bear))) j = true) ∧ w = .agg (g.st s (Nat.testBit m) k).toArray) ∨ ((∀ j, j ≤ d → (fun k => !(decide (g.sl s (Nat.testBit m) k > g.bear))) j = true) ∧ w = .agg noneS.toArray))) Try.func50 B50 N50 Z50 L50 (by simp) ?_
  have hk := Keep.refl H []
  intro H1 hH1; obtain ⟨kH1, nH1, c1⟩ := new_facts hH1; clear hH1
  have mH1 := kH1.1
  have hk := hk.trans kH1
  have hw := kH1.sl0 hw
  have ha := kH1.sl0 ha
  have c1 : Cl H1 H.next [.slice g.wa g.wn g.wcap, .slice g.aa g.an g.acap, iv g.r1, iv g.r2, iv g.f1, iv g.f2, iv g.g1, iv g.g2, iv g.full, iv g.base, iv g.kill, iv g.need, iv g.bear, iv (s : Int), iv (d : Int), .int .u64 (m : Int)] := c1
  intro H2 hH2; obtain ⟨kH2, nH2, c2⟩ := new_facts hH2; clear hH2
  have c2 : Cl H2 H1.next [iv 0, iv 0, iv 0, iv 0, iv 0, iv 0, iv 0] := c2
  have mH2 := kH2.1
  have hk := hk.trans kH2
  have hw := kH2.sl0 hw
  have ha := kH2.sl0 ha
  have c1 := kH2.cl c1 (by simp)
  refine Exists.intro _ (Exists.intro _ (And.intro c1.of (And.intro (show row 16 _ _ = some [.slice g.wa g.wn g.wcap, .slice g.aa g.an g.acap, iv g.r1, iv g.r2, iv g.f1, iv g.f2, iv g.g1, iv g.g2, iv g.full, iv g.base, iv g.kill, iv g.need, iv g.bear, iv (s : Int), iv (d : Int), .int .u64 (m : Int)] from rfl) ?_)))
  refine And.intro rfl (Exists.intro (.func (.func 70) #[] #[pt H.next]) (And.intro (by kernel_rfl) ?_))
  let c : SC := ⟨g, s, d, m, .func (.func 70) #[] #[pt H.next], fun k => !(decide (g.sl s (Nat.testBit m) k > g.bear))⟩
  have P : SP kn c (fun H1 => Rd H1 H.next (crs g s d m)) H2.next := by
    refine ⟨fun H1 H2 w q k hw => k.rd q (fun hb => by have := hw _ hb; omega), fun lo1 H1 k hk q hl => ?_⟩
    obtain ⟨H9, f9, k9⟩ := q70_ok (kn := kn) (lo := lo1) (k := k) q
    exact ⟨_, _, H9, rfl, callX_func rfl f9, k9⟩
  obtain ⟨wH3, H3, fH3, kH3, hres⟩ := search_ok (kn := kn) (lo := lo) (H := H2) h48 (c := c) v hsd P rfl rfl hw ha c1.rd (by omega)
  refine Exists.intro _ (Exists.intro _ (And.intro (callX_args fH3) ?_))
  have mH3 := kH3.1
  have hk := hk.trans kH3
  have hw := kH3.sl0 hw
  have ha := kH3.sl0 ha
  have c1 := kH3.cl c1 (by simp)
  have c2 := kH3.cl c2 (by simp)
  obtain ⟨l7, hl7, rfl⟩ : ∃ l : List Value, (l.length = 7 ∧ l.all one = true) ∧ wH3 = .agg l.toArray := by
    rcases hres with ⟨k, _, _, _, e⟩ | ⟨_, e⟩
    · exact ⟨_, ⟨rfl, rfl⟩, e⟩
    · exact ⟨_, ⟨rfl, rfl⟩, e⟩
  obtain ⟨_, eH4, lH4, gH4⟩ := id c2
  refine Exists.intro _ (Exists.intro _ (Exists.intro _ (And.intro gH4 (And.intro (by omega) (And.intro hl7.1 (And.intro hl7.2 (And.intro (by simp) ?_)))))))
  intro H4 hH4; obtain ⟨kH4, nH4, sH4⟩ := up_facts c2 hH4; clear hH4
  have mH4 := kH4.1
  have hk := hk.new kH4 (fun b hb => by simp at hb ⊢; omega)
  have c1 := kH4.cl c1 (by first | (simp; done) | (simp; omega))
  have c2 : Cl H4 H1.next l7 := by
    have e := putRow_all [iv 0, iv 0, iv 0, iv 0, iv 0, iv 0, iv 0] l7 [] (by rw [hl7.1]; rfl)
    simp only [List.nil_append, List.length_nil] at e
    rw [← e]; exact sH4
  exact And.intro trivial (Exists.intro _ (And.intro (res_cell rfl a72 i72s hl7.1 c2) ⟨hk, hres⟩))
end
end Go.Ax

/-
  Late: a new flood, and a set of days, or a panic (59, 60) (written by program).
-/
namespace Go.Ax
open Go Go.RowKit Go.Proofs

noncomputable def opsOf : Code → Array Oper
  | .region _ ops _ => ops
  | _ => #[]
noncomputable def R59v : RC := (.seq (.reg [⟨(some 3), none, (.box 26 (.tmp 0))⟩, ⟨(some 6), none, (.alc 61 [(.int .i64 0), (.int .i64 0)])⟩])
  (.seq (.seq (.reg [⟨(some 7), none, (.mov (.tmp 1))⟩, ⟨(some 8), none, (.addo (.tmp 3) 0)⟩, ⟨(some 9), none, (.ld (.tmp 8) 1)⟩, ⟨(some 10), none, (.len (.tmp 9))⟩, ⟨(some 11), none, (.call ⟨(.value (.func 73)), (List.toArray [(.tmp 7), (.tmp 10)]), (List.toArray [3, 3])⟩ true)⟩, ⟨(some 12), none, (.pur ⟨(some 12), (.unOp .not 4 (.tmp 11)), 4, "", (List.toArray []), none⟩)⟩, ⟨(some 13), none, (.mov (.tmp 12))⟩, ⟨(some 14), (some (13, false)), (.mov (.tmp 2))⟩, ⟨(some 15), (some (13, false)), (.addo (.tmp 3) 0)⟩, ⟨(some 16), (some (13, false)), (.ld (.tmp 15) 1)⟩, ⟨(some 17), (some (13, false)), (.len (.tmp 16))⟩, ⟨(some 18), (some (13, false)), (.mov (.tmp 1))⟩, ⟨(some 19), (some (13, false)), (.ari .sub (.tmp 17) (.tmp 18))⟩, ⟨(some 20), (some (13, false)), (.call ⟨(.value (.func 73)), (List.toArray [(.tmp 14), (.tmp 19)]), (List.toArray [3, 3])⟩ true)⟩, ⟨(some 21), (some (13, false)), (.pur ⟨(some 21), (.unOp .not 4 (.tmp 20)), 4, "", (List.toArray []), none⟩)⟩, ⟨(some 22), none, (.pur ⟨(some 22), (.pick (.tmp 13) (.const (.bool true)) (.tmp 21)), 4, "", (List.toArray []), none⟩)⟩])
  (.cond (.tmp 22) (.other (at_ Try.f59 [1, 0, 1, 0]))
  .skip))
  (.seq (.reg [⟨(some 25), none, (.mov (.tmp 1))⟩, ⟨(some 26), none, (.mov (.tmp 2))⟩, ⟨(some 27), none, (.pur ⟨(some 27), (.build 61 (List.toArray [(0, (.tmp 25)), (1, (.tmp 26))])), 61, "", (List.toArray []), none⟩)⟩, ⟨none, none, (.sta (.tmp 6) (.tmp 27) 2)⟩])
  .ret)))
theorem V59 : LV Try.prog 28 (at_ Try.f59 []) R59v := by
  have e : (at_ Try.f59 []) = (.seq (at_ Try.f59 [0]) (.seq (.seq (at_ Try.f59 [1, 0, 0]) (.cond (.tmp 22) (at_ Try.f59 [1, 0, 1, 0]) (at_ Try.f59 [1, 0, 1, 1]))) (at_ Try.f59 [1, 1]))) := by kernel_rfl
  rw [e]
  exact (.seq (.low (by kernel_rfl)) (.seq (.seq (.low (by kernel_rfl)) (.cond _ (.other _) (.low (by kernel_rfl)))) (.low (by kernel_rfl))))
noncomputable def R60x1v : RC := (.seq (.reg [⟨(some 14), none, (.cmp .lss (.tmp 13) (.tmp 12))⟩])
  (.seq (.cond (.tmp 14) .skip
  (.exit 0))
  (.seq (.block 1 (.seq (.reg [⟨(some 15), none, (.idx (.tmp 11) (.tmp 13) 1)⟩, ⟨(some 16), none, (.ld (.tmp 15) 1)⟩, ⟨(some 8), none, (.mov (.tmp 16))⟩])
  (.seq (.seq (.reg [⟨(some 17), none, (.mov (.tmp 8))⟩, ⟨(some 18), none, (.mov (.tmp 6))⟩, ⟨(some 19), none, (.cmpb .lss (.tmp 17) (.tmp 18))⟩, ⟨(some 20), none, (.mov (.tmp 19))⟩, ⟨(some 21), (some (20, false)), (.mov (.tmp 8))⟩, ⟨(some 22), (some (20, false)), (.addo (.tmp 2) 0)⟩, ⟨(some 23), (some (20, false)), (.ld (.tmp 22) 1)⟩, ⟨(some 24), (some (20, false)), (.addo (.tmp 2) 1)⟩, ⟨(some 25), (some (20, false)), (.ld (.tmp 24) 1)⟩, ⟨(some 26), (some (20, false)), (.ari .add (.tmp 23) (.tmp 25))⟩, ⟨(some 27), (some (20, false)), (.cmpb .geq (.tmp 21) (.tmp 26))⟩, ⟨(some 28), none, (.pur ⟨(some 28), (.pick (.tmp 20) (.const (.bool true)) (.tmp 27)), 4, "", (List.toArray []), none⟩)⟩])
  (.cond (.tmp 28) (.other (at_ Try.f60 [1, 1, 1, 0, 1, 0, 0, 1, 1, 0, 0, 1, 0, 1, 0]))
  .skip))
  (.seq (.reg [⟨(some 31), none, (.mov (.tmp 5))⟩, ⟨(some 32), none, (.mov (.tmp 8))⟩, ⟨(some 33), none, (.pur ⟨(some 33), (.binOp .shl 63 (.const (.int .u64 1)) (.tmp 32) 3), 63, "", (List.toArray []), none⟩)⟩, ⟨(some 34), none, (.pur ⟨(some 34), (.binOp .or 63 (.tmp 31) (.tmp 33) 63), 63, "", (List.toArray []), none⟩)⟩, ⟨(some 5), none, (.mov (.tmp 34))⟩])
  (.reg [⟨(some 35), none, (.mov (.tmp 8))⟩, ⟨(some 36), none, (.ari .add (.tmp 35) (.const (.int .i64 1)))⟩, ⟨(some 6), none, (.mov (.tmp 36))⟩])))))
  (.reg [⟨(some 37), none, (.ari .add (.tmp 13) (.const (.int .i64 1)))⟩, ⟨(some 13), none, (.mov (.tmp 37))⟩]))))
theorem V60x1 : LV Try.prog 39 (at_ Try.f60 [1, 1, 1, 0, 1, 0, 0]) R60x1v := by
  have e : (at_ Try.f60 [1, 1, 1, 0, 1, 0, 0]) = (.seq (at_ Try.f60 [1, 1, 1, 0, 1, 0, 0, 0]) (.seq (at_ Try.f60 [1, 1, 1, 0, 1, 0, 0, 1, 0]) (.seq (.block 1 (.seq (at_ Try.f60 [1, 1, 1, 0, 1, 0, 0, 1, 1, 0, 0, 0]) (.seq (.seq (at_ Try.f60 [1, 1, 1, 0, 1, 0, 0, 1, 1, 0, 0, 1, 0, 0]) (.cond (.tmp 28) (at_ Try.f60 [1, 1, 1, 0, 1, 0, 0, 1, 1, 0, 0, 1, 0, 1, 0]) (at_ Try.f60 [1, 1, 1, 0, 1, 0, 0, 1, 1, 0, 0, 1, 0, 1, 1]))) (at_ Try.f60 [1, 1, 1, 0, 1, 0, 0, 1, 1, 0, 0, 1, 1])))) (at_ Try.f60 [1, 1, 1, 0, 1, 0, 0, 1, 1, 1])))) := by kernel_rfl
  rw [e]
  exact (.seq (.low (by kernel_rfl)) (.seq (.low (by kernel_rfl)) (.seq (.block _ (.seq (.low (by kernel_rfl)) (.seq (.seq (.low (by kernel_rfl)) (.cond _ (.other _) (.low (by kernel_rfl)))) (.low (by kernel_rfl))))) (.low (by kernel_rfl)))))
theorem D59p : at_ Try.f59 [1, 0, 1, 0] = .region 2 (opsOf (at_ Try.f59 [1, 0, 1, 0])) false := by kernel_rfl
theorem P59p : lowRPs Try.prog 28 (opsOf (at_ Try.f59 [1, 0, 1, 0])).toList (opsOf (at_ Try.f59 [1, 0, 1, 0])).toList = some [(.ro ⟨(some 23), none, (.pur ⟨(some 23), (.build 113 (List.toArray [])), 113, "", (List.toArray []), none⟩)⟩), (.ro ⟨(some 24), none, (.pur ⟨(some 24), (.makeInterface 113 (.tmp 23)), 20, "", (List.toArray []), none⟩)⟩), (.pan (.tmp 24))] := by kernel_rfl
theorem D60p : at_ Try.f60 [1, 1, 1, 0, 1, 0, 0, 1, 1, 0, 0, 1, 0, 1, 0] = .region 7 (opsOf (at_ Try.f60 [1, 1, 1, 0, 1, 0, 0, 1, 1, 0, 0, 1, 0, 1, 0])) false := by kernel_rfl
theorem P60p : lowRPs Try.prog 39 (opsOf (at_ Try.f60 [1, 1, 1, 0, 1, 0, 0, 1, 1, 0, 0, 1, 0, 1, 0])).toList (opsOf (at_ Try.f60 [1, 1, 1, 0, 1, 0, 0, 1, 1, 0, 0, 1, 0, 1, 0])).toList = some [(.ro ⟨(some 29), none, (.pur ⟨(some 29), (.build 113 (List.toArray [])), 113, "", (List.toArray []), none⟩)⟩), (.ro ⟨(some 30), none, (.pur ⟨(some 30), (.makeInterface 113 (.tmp 29)), 20, "", (List.toArray []), none⟩)⟩), (.pan (.tmp 30))] := by kernel_rfl
/-- the panic of a flood that is none -/
abbrev noneV : Value := .iface 113 (.agg #[])
def flB (g : Lt) (a b : Int) : Bool := inB a 0 g.wn && inB b 0 ((g.wn : Int) - a)
/-- whether days rise, and lie between two -/
def setB : Int → Int → List Int → Bool
  | _, _, [] => true
  | nx, e, d :: r => decide (nx ≤ d) && decide (d < e) && setB (d + 1) e r
section
variable {kn : FuncId → Option Bool} {lo : Nat} {H : Hp}
theorem flood_ok {g : Lt} {a b : Int} (hn : g.wn ≤ 1000) (hlo : lo ≤ H.next) :
    (∃ v H', FnX Try.prog kn lo 59 [.agg g.v.toArray, iv a, iv b] H v H' ∧ (v = .agg #[iv a, iv b] ∧ flB g a b = true ∧ Keep H H' [])) ∨ ∃ v H', FnP Try.prog kn lo 59 [.agg g.v.toArray, iv a, iv b] H v H' ∧ (v = noneV ∧ flB g a b = false ∧ Keep H H' []) := by
  refine fn_lv (P := Try.prog) (kn := kn) (lo := lo) (H := H) (args := [.agg g.v.toArray, iv a, iv b]) (Q := fun v H' => v = .agg #[iv a, iv b] ∧ flB g a b = true ∧ Keep H H' []) (Z := fun v H' => v = noneV ∧ flB g a b = false ∧ Keep H H' []) Try.func59 B59 N59 Z59 V59 (by simp) ?_
  have hk := Keep.refl H []
  intro H1 hH1; obtain ⟨kH1, nH1, c1⟩ := new_facts hH1; clear hH1
  have mH1 := kH1.1
  have hk := hk.trans kH1
  have c1 : Cl H1 H.next [.slice g.wa g.wn g.wcap, .slice g.aa g.an g.acap, iv g.r1, iv g.r2, iv g.f1, iv g.f2, iv g.g1, iv g.g2, iv g.full, iv g.base, iv g.kill, iv g.need, iv g.bear] := c1
  intro H2 hH2; obtain ⟨kH2, nH2, c2⟩ := new_facts hH2; clear hH2
  have c2 : Cl H2 H1.next [iv 0, iv 0] := c2
  have mH2 := kH2.1
  have hk := hk.trans kH2
  have c1 := kH2.cl c1 (by simp)
  refine Exists.intro _ (Exists.intro _ (And.intro c1.of (And.intro (show _ = some (.slice g.wa g.wn g.wcap) from rfl) ?_)))
  refine callB (within_ok) ?_
  intro tH3 H3 hH3 kH3
  have mH3 := kH3.1
  have hk := hk.trans kH3
  have c1 := kH3.cl c1 (by simp)
  have c2 := kH3.cl c2 (by simp)
  cases tH3
  · have h1 := hH3
    have h1x := h1; simp only [inB, Bool.and_eq_true, Bool.and_eq_false_iff, decide_eq_true_eq, decide_eq_false_iff_not] at h1x
    refine And.intro rfl (Exists.intro (.bool true) (And.intro rfl ?_))
    refine And.intro rfl (Exists.intro (.bool true) (And.intro rfl ?_))
    refine condT ?_
    refine tri_reg D59p P59p ?_
    refine Or.inl (And.intro rfl (Exists.intro (.agg #[]) (And.intro (by kernel_rfl) ?_)))
    refine Or.inl (And.intro rfl (Exists.intro noneV (And.intro (by kernel_rfl) ?_)))
    refine And.intro rfl (Or.inl ⟨_, rfl, rfl, ?_, hk⟩)
    unfold flB; rw [h1]; rfl
  · have h1 := hH3
    have h1x := h1; simp only [inB, Bool.and_eq_true, Bool.and_eq_false_iff, decide_eq_true_eq, decide_eq_false_iff_not] at h1x
    refine And.intro rfl (Exists.intro (.bool false) (And.intro rfl ?_))
    refine Exists.intro _ (Exists.intro _ (And.intro c1.of (And.intro (show _ = some (.slice g.wa g.wn g.wcap) from rfl) ?_)))
    refine And.intro ⟨by omega, by omega⟩ ?_
    refine callB (within_ok) ?_
    intro tH4 H4 hH4 kH4
    have mH4 := kH4.1
    have hk := hk.trans kH4
    have c1 := kH4.cl c1 (by simp)
    have c2 := kH4.cl c2 (by simp)
    cases tH4
    · have h2 := hH4
      have h2x := h2; simp only [inB, Bool.and_eq_true, Bool.and_eq_false_iff, decide_eq_true_eq, decide_eq_false_iff_not] at h2x
      refine And.intro rfl (Exists.intro (.bool true) (And.intro rfl ?_))
      refine And.intro rfl (Exists.intro (.bool true) (And.intro rfl ?_))
      refine condT ?_
      refine tri_reg D59p P59p ?_
      refine Or.inl (And.intro rfl (Exists.intro (.agg #[]) (And.intro (by kernel_rfl) ?_)))
      refine Or.inl (And.intro rfl (Exists.intro noneV (And.intro (by kernel_rfl) ?_)))
      refine And.intro rfl (Or.inl ⟨_, rfl, rfl, ?_, hk⟩)
      unfold flB; rw [h1, h2]; rfl
    · have h2 := hH4
      have h2x := h2; simp only [inB, Bool.and_eq_true, Bool.and_eq_false_iff, decide_eq_true_eq, decide_eq_false_iff_not] at h2x
      refine And.intro rfl (Exists.intro (.bool false) (And.intro rfl ?_))
      refine And.intro rfl (Exists.intro (.bool false) (And.intro rfl ?_))
      refine condF ?_
      refine And.intro rfl (Exists.intro (.agg #[iv a, iv b]) (And.intro (by kernel_rfl) ?_))
      obtain ⟨_, eH5, lH5, gH5⟩ := id c2
      refine Exists.intro _ (Exists.intro _ (Exists.intro _ (And.intro gH5 (And.intro (by omega) (And.intro rfl (And.intro rfl (And.intro (by simp) ?_)))))))
      intro H5 hH5; obtain ⟨kH5, nH5, sH5⟩ := up_facts c2 hH5; clear hH5
      have mH5 := kH5.1
      have hk := hk.new kH5 (fun b hb => by simp at hb ⊢; omega)
      have c1 := kH5.cl c1 (by first | (simp; done) | (simp; omega))
      have c2 : Cl H5 H1.next [iv a, iv b] := sH5
      exact Or.inr ⟨Or.inr rfl, _, res_cell rfl a61 i61s rfl c2, rfl, by unfold flB; rw [h1, h2]; rfl, hk⟩
theorem set_ok {s d : Nat} {la : Option Addr} {n cap : Nat} {us : List Int} (hl : Sl H la n cap (ints us)) (hul : us.length = n) (hn : n ≤ 1000) (hsd : s + d ≤ 63) :
    (∃ v H', FnX Try.prog kn lo 60 [.agg #[iv (s : Int), iv (d : Int)], .slice la n cap] H v H' ∧ (v = .int .u64 ((dayMask us : Nat) : Int) ∧ setB s (s + d) us = true ∧ Keep H H' [])) ∨ ∃ v H', FnP Try.prog kn lo 60 [.agg #[iv (s : Int), iv (d : Int)], .slice la n cap] H v H' ∧ (v = noneV ∧ setB s (s + d) us = false ∧ Keep H H' []) := by
  refine fn_lv (P := Try.prog) (kn := kn) (lo := lo) (H := H) (args := [.agg #[iv (s : Int), iv (d : Int)], .slice la n cap]) (Q := fun v H' => v = .int .u64 ((dayMask us : Nat) : Int) ∧ setB s (s + d) us = true ∧ Keep H H' []) (Z := fun v H' => v = noneV ∧ setB s (s + d) us = false ∧ Keep H H' []) Try.func60 B60 N60 Z60 (.low L60) (by simp) ?_
  have hk := Keep.refl H []
  intro H1 hH1; obtain ⟨kH1, nH1, c1⟩ := new_facts hH1; clear hH1
  have mH1 := kH1.1
  have hk := hk.trans kH1
  have hl := kH1.sl0 hl
  have c1 : Cl H1 H.next [iv (s : Int), iv (d : Int)] := c1
  refine Exists.intro _ (Exists.intro _ (And.intro c1.of (And.intro (show _ = some (iv (s : Int)) from rfl) ?_)))
  refine loop_lv E60_1 V60x1 (fun x : Nat × Int => [(5, .int .u64 ((dayMask (us.take x.1) : Nat) : Int)), (6, iv x.2), (2, pt H.next), (11, .slice la n cap), (12, iv (n : Int)), (13, iv (x.1 : Int))])
    (fun k x H' => x.1 + k = n ∧ Keep H1 H' [] ∧ setB s (s + d) us = setB x.2 (s + d) (us.drop x.1) ∧ (s : Int) ≤ x.2 ∧ ∀ y ∈ us.take x.1, (s : Int) ≤ y ∧ y < s + d) n (0, (s : Int)) ⟨by omega, Keep.refl _ _, rfl, Int.le_refl _, by simp⟩ ⟨rfl, rfl, rfl, rfl, rfl, rfl, trivial⟩ ?_
  rintro k ⟨i, nx⟩ L1 ⟨hik, hki, hset, hnx, hin⟩
  have hm := hki.1
  have hk := hk.trans hki
  have hl := hki.sl0 hl
  have c1 := hki.cl c1 (by simp)
  have kb := hki
  refine And.intro (fun q1 => ?_) (fun q1 => ?_)
  · have q1 : (i : Int) < (n : Int) := of_decide_eq_true q1
    simp only at hik hset hnx hin
    have hi : i < n := by omega
    obtain ⟨x, hx⟩ := get_some (l := us) (i := i) (by omega)
    have hdr : us.drop i = x :: us.drop (i + 1) := by rw [List.drop_eq_getElem_cons (by omega)]; congr 1; rw [List.getElem?_eq_getElem (by omega)] at hx; cases hx; rfl
    have hst : setB s (s + d) us = (decide (nx ≤ x) && decide (x < s + d) && setB (x + 1) (s + d) (us.drop (i + 1))) := by rw [hset, hdr]; rfl
    rcases hl with ⟨_, h0, _⟩ | ⟨lb, rfl, hld, _⟩
    · omega
    refine Exists.intro i (And.intro rfl (And.intro hi ?_))
    refine Exists.intro _ (Exists.intro _ (And.intro hld.of (And.intro (ints_at hx) ?_)))
    intro t2 g2; cases t2
    · have g2 : ¬ (x < nx) := of_decide_eq_false g2
      refine Exists.intro _ (Exists.intro _ (And.intro c1.of (And.intro (show _ = some (iv (s : Int)) from rfl) ?_)))
      refine Exists.intro _ (Exists.intro _ (And.intro c1.of (And.intro (show _ = some (iv (d : Int)) from rfl) ?_)))
      refine And.intro ⟨by omega, by omega⟩ ?_
      intro t3 g3; cases t3
      · have g3 : ¬ (x ≥ ((s : Int) + (d : Int))) := of_decide_eq_false g3
        refine And.intro rfl (Exists.intro (.bool false) (And.intro rfl ?_))
        refine condF ?_
        have hst2 : setB s (s + d) us = setB (x + 1) (s + d) (us.drop (i + 1)) := by rw [hst, decide_eq_true (by omega), decide_eq_true (by omega)]; rfl
        obtain ⟨xd, rfl⟩ := Int.eq_ofNat_of_zero_le (a := x) (by omega)
        have htk : us.take (i + 1) = us.take i ++ [(xd : Int)] := by rw [List.take_add_one, hx]; rfl
        have hin2 : ∀ y ∈ us.take (i + 1), (s : Int) ≤ y ∧ y < s + d := by
          intro y hy; rw [htk] at hy; rcases List.mem_append.1 hy with hy | hy
          · exact hin y hy
          · simp at hy; omega
        have hmk : dayMask (us.take (i + 1)) = dayMask (us.take i) ||| 2 ^ xd := by rw [htk, dayMask_snoc]; rfl
        have hml : dayMask (us.take i) < 18446744073709551616 := mask_lt fun y hy => by have := hin y hy; omega
        refine And.intro rfl (Exists.intro (.int .u64 ((2 ^ xd : Nat) : Int)) (And.intro (pure_shl (by omega) rfl) ?_))
        refine And.intro rfl (Exists.intro (.int .u64 ((dayMask (us.take i) ||| 2 ^ xd : Nat) : Int)) (And.intro (pure_or hml (pow_lt (by omega)) rfl rfl) ?_))
        refine And.intro ⟨by omega, by omega⟩ ?_
        refine And.intro ⟨by omega, by omega⟩ ?_
        exact ⟨k - 1, (i + 1, (xd : Int) + 1), by omega, ⟨by show i + 1 + (k - 1) = n; omega, kb, hst2, by show (s : Int) ≤ (xd : Int) + 1; omega, hin2⟩, by rw [hmk]; rfl, rfl, rfl, rfl, rfl, rfl, trivial⟩
      · have g3 : x ≥ ((s : Int) + (d : Int)) := of_decide_eq_true g3
        refine And.intro rfl (Exists.intro (.bool true) (And.intro rfl ?_))
        refine condT ?_
        refine tri_reg D60p P60p ?_
        refine Or.inl (And.intro rfl (Exists.intro (.agg #[]) (And.intro (by kernel_rfl) ?_)))
        refine Or.inl (And.intro rfl (Exists.intro noneV (And.intro (by kernel_rfl) ?_)))
        refine And.intro rfl (Or.inl ⟨_, rfl, rfl, ?_, hk⟩)
        rw [hst]
        rw [decide_eq_false (p := x < (s : Int) + d) (by omega)]; simp
    · have g2 : x < nx := of_decide_eq_true g2
      refine And.intro rfl (Exists.intro (.bool true) (And.intro rfl ?_))
      refine condT ?_
      refine tri_reg D60p P60p ?_
      refine Or.inl (And.intro rfl (Exists.intro (.agg #[]) (And.intro (by kernel_rfl) ?_)))
      refine Or.inl (And.intro rfl (Exists.intro noneV (And.intro (by kernel_rfl) ?_)))
      refine And.intro rfl (Or.inl ⟨_, rfl, rfl, ?_, hk⟩)
      rw [hst]
      rw [decide_eq_false (by omega)]; rfl
  · have q1 : ¬ ((i : Int) < (n : Int)) := of_decide_eq_false q1
    simp only at hik hset hnx hin
    have e : i = n := by omega
    subst e
    have et : us.take i = us := List.take_of_length_le (by omega)
    rw [List.drop_eq_nil_of_le (by omega)] at hset
    exact Or.inr ⟨Or.inr rfl, _, rfl, by rw [et]; rfl, hset, hk⟩
end
end Go.Ax

/-
  Late: a new course, which recovers (58, 38) (written by program).
-/
namespace Go.Ax
open Go Go.RowKit Go.Proofs

abbrev zeroC : List Value := [.slice none 0 0, .slice none 0 0, iv 0, iv 0, iv 0, iv 0, iv 0, iv 0, iv 0, iv 0, iv 0, iv 0, iv 0, iv 0, iv 0, .int .u64 0]
theorem S58 : at_ Try.f58 [] = .seq (at_ Try.f58 [0]) (at_ Try.f58 [1]) := by kernel_rfl
theorem C58 : at_ Try.f58 [1] = .cond (.tmp 3) (at_ Try.f58 [1, 0]) (at_ Try.f58 [1, 1]) := by kernel_rfl
theorem K58 : at_ Try.f58 [1, 1] = .skip := by kernel_rfl
theorem D58a : at_ Try.f58 [0] = .region 0 (opsOf (at_ Try.f58 [0])) false := by kernel_rfl
theorem Q58a : lowRQs Try.prog 5 (opsOf (at_ Try.f58 [0])).toList (opsOf (at_ Try.f58 [0])).toList = some [(.rcv (some 2)), (.ro ⟨(some 3), none, (.pur ⟨(some 3), (.binOp .neq 20 (.tmp 2) (.const .nilIface) 20), 4, "", (List.toArray []), none⟩)⟩)] := by kernel_rfl
theorem D58b : at_ Try.f58 [1, 0] = .region 1 (opsOf (at_ Try.f58 [1, 0])) false := by kernel_rfl
theorem Q58b : lowRQs Try.prog 5 (opsOf (at_ Try.f58 [1, 0])).toList (opsOf (at_ Try.f58 [1, 0])).toList = some [(.ro ⟨(some 4), none, (.pur ⟨(some 4), (.build 65 (List.toArray [])), 65, "", (List.toArray []), none⟩)⟩), (.ro ⟨none, none, (.sta (.tmp 0) (.tmp 4) 16)⟩), (.ro ⟨none, none, (.st (.tmp 1) (.const (.int .i64 2)))⟩)] := by kernel_rfl
theorem S38 : at_ Try.f38 [] = .seq (at_ Try.f38 [0]) (at_ Try.f38 [1]) := by kernel_rfl
theorem S38b : at_ Try.f38 [1] = .seq (at_ Try.f38 [1, 0]) (at_ Try.f38 [1, 1]) := by kernel_rfl
theorem S38c : at_ Try.f38 [1, 1] = .seq (at_ Try.f38 [1, 1, 0]) (at_ Try.f38 [1, 1, 1]) := by kernel_rfl
theorem S38d : at_ Try.f38 [1, 1, 1] = .seq (at_ Try.f38 [1, 1, 1, 0]) (at_ Try.f38 [1, 1, 1, 1]) := by kernel_rfl
theorem S38e : at_ Try.f38 [1, 1, 1, 1] = .seq (at_ Try.f38 [1, 1, 1, 1, 0]) .ret := by kernel_rfl
theorem D38a : at_ Try.f38 [0] = .region 0 (opsOf (at_ Try.f38 [0])) false := by kernel_rfl
theorem P38a : lowRPs Try.prog 26 (opsOf (at_ Try.f38 [0])).toList (opsOf (at_ Try.f38 [0])).toList = some [(.ro ⟨(some 4), none, (.box 26 (.tmp 0))⟩), (.ro ⟨(some 8), none, (.alc 65 zeroC)⟩), (.ro ⟨(some 9), none, (.alc 30 [(.int .i64 0)])⟩)] := by kernel_rfl
theorem D38b : at_ Try.f38 [1, 0] = .region 1 (opsOf (at_ Try.f38 [1, 0])) false := by kernel_rfl
theorem P38b : lowRPs Try.prog 26 (opsOf (at_ Try.f38 [1, 0])).toList (opsOf (at_ Try.f38 [1, 0])).toList = some [(.ro ⟨(some 11), none, (.pur ⟨(some 11), (.makeFunc (.func 58) (List.toArray []) (List.toArray [(.tmp 8), (.tmp 9)])), 1, "", (List.toArray []), none⟩)⟩), (.dfr none ⟨(.value (.tmp 11)), (List.toArray []), (List.toArray [])⟩)] := by kernel_rfl
noncomputable def R38c : RC := (.seq (.reg [⟨(some 12), none, (.lda (.tmp 4) 13)⟩, ⟨(some 13), none, (.call ⟨(.value (.func 51)), (List.toArray [(.tmp 12)]), (List.toArray [26])⟩ true)⟩, ⟨(some 14), none, (.pur ⟨(some 14), (.unOp .not 4 (.tmp 13)), 4, "", (List.toArray []), none⟩)⟩])
  (.cond (.tmp 14) (.seq (.reg [⟨(some 15), none, (.pur ⟨(some 15), (.build 65 (List.toArray [])), 65, "", (List.toArray []), none⟩)⟩, ⟨none, none, (.sta (.tmp 8) (.tmp 15) 16)⟩, ⟨none, none, (.st (.tmp 9) (.const (.int .i64 1)))⟩])
  .ret)
  .skip))
theorem L38c : low Try.prog 26 (at_ Try.f38 [1, 1, 0]) = some R38c := by kernel_rfl
theorem D38d : at_ Try.f38 [1, 1, 1, 0] = .region 4 (opsOf (at_ Try.f38 [1, 1, 1, 0])) false := by kernel_rfl
theorem P38d : lowRPs Try.prog 26 (opsOf (at_ Try.f38 [1, 1, 1, 0])).toList (opsOf (at_ Try.f38 [1, 1, 1, 0])).toList = some [(.ro ⟨(some 16), none, (.lda (.tmp 4) 13)⟩), (.ro ⟨(some 17), none, (.mov (.tmp 1))⟩), (.ro ⟨(some 18), none, (.mov (.tmp 2))⟩), (.ro ⟨(some 19), none, (.call ⟨(.value (.func 59)), (List.toArray [(.tmp 16), (.tmp 17), (.tmp 18)]), (List.toArray [26, 3, 3])⟩ true)⟩), (.ro ⟨(some 10), none, (.alc 61 [(.int .i64 0), (.int .i64 0)])⟩), (.ro ⟨none, none, (.sta (.tmp 10) (.tmp 19) 2)⟩)] := by kernel_rfl
theorem D38e : at_ Try.f38 [1, 1, 1, 1, 0] = .region 5 (opsOf (at_ Try.f38 [1, 1, 1, 1, 0])) true := by kernel_rfl
noncomputable def R38e : List RO := [⟨(some 20), none, (.lda (.tmp 4) 13)⟩, ⟨(some 21), none, (.lda (.tmp 10) 2)⟩, ⟨(some 22), none, (.lda (.tmp 10) 2)⟩, ⟨(some 23), none, (.mov (.tmp 3))⟩, ⟨(some 24), none, (.call ⟨(.value (.func 60)), (List.toArray [(.tmp 22), (.tmp 23)]), (List.toArray [61, 27])⟩ false)⟩, ⟨(some 25), none, (.pur ⟨(some 25), (.build 65 (List.toArray [(0, (.tmp 20)), (1, (.tmp 21)), (2, (.tmp 24))])), 65, "", (List.toArray []), none⟩)⟩, ⟨none, none, (.sta (.tmp 8) (.tmp 25) 16)⟩, ⟨none, none, (.st (.tmp 9) (.const (.int .i64 0)))⟩]
theorem L38e : low Try.prog 26 (at_ Try.f38 [1, 1, 1, 1, 0]) = some (.dreg R38e [127, 63, 31, 12, 0, 0, 0, 0]) := by kernel_rfl
theorem a30 : isAggB Try.prog 30 = some false := by kernel_rfl
theorem res_nc {S : Rg} {H : Hp} {x y : Nat} {cs : List Value} {v : Value} (ha : lk S 8 = some (.pointer (some ⟨x, 0, none⟩))) (hb : lk S 9 = some (.pointer (some ⟨y, 0, none⟩))) (hl : cs.length = 16) (h : Cl H x cs) (h2 : Cl H y [v]) : resS Try.prog S H [.cell 8 65, .cell 9 30] = some [.agg cs.toArray, v] := by
  simp only [resS, ha, hb, load_agg a65 i65s h.rd hl, load_one a30 h2.rd]
/-- what newCourse answers -/
def Lt.Nc (g : Lt) (a b : Int) (us : List Int) (w : Value) : Prop :=
  (g.ok = false ∧ w = .tuple #[.agg zeroC.toArray, iv 1]) ∨
  (g.ok = true ∧ (flB g a b && setB a (a + b) us) = false ∧ w = .tuple #[.agg zeroC.toArray, iv 2]) ∨
  (g.ok = true ∧ ∃ s d : Nat, a = s ∧ b = d ∧ s + d ≤ g.wn ∧ setB s (s + d) us = true ∧ w = .tuple #[.agg (crs g s d (dayMask us)).toArray, iv 0])
section
variable {kn : FuncId → Option Bool} {lo : Nat} {H : Hp}
theorem def58_none {b c : Nat} : DefX Try.prog kn lo 58 [pt b, pt c] H none none H := by
  have key : ∃ H', DefX Try.prog kn lo 58 [pt b, pt c] H none none H' ∧ H' = H := ?_
  · obtain ⟨H', h, rfl⟩ := key; exact h
  refine defX_of (P := Try.prog) (kn := kn) (lo := lo) (args := [pt b, pt c]) (H := H) (p := none) (p' := none) (Q := fun H' => H' = H) Try.func58 B58 (by rw [N58]; simp) (by rw [Z58]) ?_
  rw [N58]
  refine TriQ.seq S58 (TriQ.reg D58a Q58a ?_)
  refine And.intro rfl (Exists.intro (.bool false) (And.intro (by kernel_rfl) ?_))
  refine TriQ.cond C58 (t := false) rfl (fun e => by cases e) (fun _ => TriQ.skip K58 ?_)
  exact ⟨.inl rfl, rfl, rfl⟩
theorem def58_some {b c : Nat} {cs : List Value} {w : Value} (hb : Cl H b cs) (hl : cs.length = 16) (hc : Cl H c [w]) (hne : b ≠ c) (lb : lo ≤ b) (lc : lo ≤ c) : ∃ H', DefX Try.prog kn lo 58 [pt b, pt c] H (some (noneV, false)) (some (noneV, true)) H' ∧ Cl H' b zeroC ∧ Cl H' c [iv 2] ∧ Keep H H' [b, c] := by
  refine defX_of (P := Try.prog) (kn := kn) (lo := lo) (args := [pt b, pt c]) (H := H) (Q := fun H' => Cl H' b zeroC ∧ Cl H' c [iv 2] ∧ Keep H H' [b, c]) Try.func58 B58 (by rw [N58]; simp) (by rw [Z58]) ?_
  rw [N58]
  refine TriQ.seq S58 (TriQ.reg D58a Q58a ?_)
  refine And.intro rfl (Exists.intro (.bool true) (And.intro (by kernel_rfl) ?_))
  refine TriQ.cond C58 (t := true) rfl (fun _ => TriQ.reg D58b Q58b ?_) (fun e => by cases e)
  refine And.intro rfl (Exists.intro (.agg zeroC.toArray) (And.intro (by kernel_rfl) ?_))
  obtain ⟨_, ea, la, ga⟩ := id hb
  refine Exists.intro _ (Exists.intro _ (Exists.intro _ (And.intro ga (And.intro lb (And.intro rfl (And.intro rfl (And.intro (by rw [hl]; decide) ?_)))))))
  intro H7 hH7
  obtain ⟨k7, n7, c7⟩ := up_facts hb hH7
  have c7 : Cl H7 b zeroC := by
    have e := putRow_all cs zeroC [] (by rw [hl]; rfl)
    simp only [List.nil_append, List.length_nil] at e
    rw [← e]; exact c7
  have hc7 := k7.cl hc (by simp; omega)
  obtain ⟨_, eb, l2, gb⟩ := id hc7
  refine Exists.intro _ (Exists.intro _ (Exists.intro _ (And.intro gb (And.intro lc (And.intro rfl (And.intro rfl (And.intro (by simp) ?_)))))))
  intro H8 hH8
  obtain ⟨k8, n8, c8⟩ := up_facts hc7 hH8
  have c8 : Cl H8 c [iv 2] := c8
  exact ⟨.inl rfl, rfl, k8.cl c7 (by simp; omega), c8, (k7.mono (by simp)).trans (k8.mono (by simp))⟩
theorem course_ok {g : Lt} {a b : Int} {la : Option Addr} {n cap : Nat} {us : List Int} (hw : Sl H g.wa g.wn g.wcap (spc g.ws)) (ha : Sl H g.aa g.an g.acap (spc g.as)) (hwl : g.ws.length = g.wn) (hal : g.as.length = g.an) (hwn : g.wn ≤ 1000) (han : g.an ≤ 1000) (hl : Sl H la n cap (ints us)) (hul : us.length = n) (hn : n ≤ 1000) (hlo : lo ≤ H.next) :
    ∃ w H', FnX Try.prog kn lo 38 [.agg g.v.toArray, iv a, iv b, .slice la n cap] H w H' ∧ Keep H H' [] ∧ g.Nc a b us w := by
  refine fnX_of_triE (P := Try.prog) (kn := kn) (lo := lo) (args := [.agg g.v.toArray, iv a, iv b, .slice la n cap]) (H := H) (Q := fun w H' => Keep H H' [] ∧ g.Nc a b us w) Try.func38 B38 (by rw [N38]; simp) ?_
  rw [N38, Z38]
  refine TriR.seqRR S38 (triR_reg D38a P38a ?_)
  refine Or.inl ?_
  intro H1 hH1; obtain ⟨k1, n1, c1⟩ := new_facts hH1; clear hH1
  have c1 : Cl H1 H.next g.v := c1
  refine Or.inl ?_
  intro H2 hH2; obtain ⟨k2, n2, c2⟩ := new_facts hH2; clear hH2
  refine Or.inl ?_
  intro H3 hH3; obtain ⟨k3, n3, c3⟩ := new_facts hH3; clear hH3
  refine TriR.seqRR S38b (triR_reg D38b P38b ?_)
  refine Or.inl ?_
  refine And.intro rfl (Exists.intro (.func (.func 58) #[] #[pt H1.next, pt H2.next]) (And.intro (by kernel_rfl) ?_))
  refine And.intro rfl ?_
  have k03 := k1.trans (k2.trans k3)
  have c1 := k3.cl (k2.cl c1 (by simp)) (by simp)
  have c2 := k3.cl c2 (by simp)
  have m1 := k1.1; have m2 := k2.1; have m3 := k3.1
  rw [S38c]
  refine TriR.of (Tri.seq ?_)
  refine wC_sound false _ L38c ?_
  refine Exists.intro _ (Exists.intro _ (And.intro c1.of (And.intro (show row 13 g.v 0 = some g.v from rfl) ?_)))
  refine callB (valid_ok (k03.sl0 hw) (k03.sl0 ha) hwl hal) ?_
  intro t H4 h4 k4
  have k04 := k03.trans k4
  have m4 := k4.1
  have d1 := k4.cl c1 (by simp)
  have d2 := k4.cl c2 (by simp)
  have d3 := k4.cl c3 (by simp)
  refine And.intro rfl (Exists.intro (.bool (!t)) (And.intro rfl ?_))
  cases t
  · refine condT ?_
    refine And.intro rfl (Exists.intro (.agg zeroC.toArray) (And.intro (by kernel_rfl) ?_))
    obtain ⟨_, e5, l5, g5⟩ := id d2
    refine Exists.intro _ (Exists.intro _ (Exists.intro _ (And.intro g5 (And.intro (by omega) (And.intro rfl (And.intro rfl (And.intro (by simp) ?_)))))))
    intro H5 hH5; obtain ⟨k5, n5, c5⟩ := up_facts d2 hH5; clear hH5
    have c5 : Cl H5 H1.next zeroC := c5
    have d3 := k5.cl d3 (by simp; omega)
    obtain ⟨_, e6, l6, g6⟩ := id d3
    refine Exists.intro _ (Exists.intro _ (Exists.intro _ (And.intro g6 (And.intro (by omega) (And.intro rfl (And.intro rfl (And.intro (by simp) ?_)))))))
    intro H6 hH6; obtain ⟨k6, n6, c6⟩ := up_facts d3 hH6; clear hH6
    have c6 : Cl H6 H2.next [iv 1] := c6
    have kk := (k04.new k5 (fun x hx => .inr (by simp at hx; omega))).new k6 (fun x hx => .inr (by simp at hx; omega))
    exact ⟨58, #[pt H1.next, pt H2.next], rfl, Or.inl ⟨Or.inr rfl, H6, def58_none, _, res_nc rfl rfl rfl (k6.cl c5 (by simp; omega)) c6, kk, Or.inl ⟨h4, rfl⟩⟩⟩
  refine condF ?_
  show Tri _ _ _ _ _ _ _ _ _
  rw [S38d]
  refine Tri.seq ?_
  refine tri_reg D38d P38d ?_
  refine Or.inl (Exists.intro _ (Exists.intro _ (And.intro d1.of (And.intro (show row 13 g.v 0 = some g.v from rfl) ?_))))
  refine Or.inl ?_
  refine Or.inl ?_
  have v := Lt.vd h4 hwl hal
  have hn40 := v.n40
  rcases flood_ok (kn := kn) (lo := lo) (H := H4) (g := g) (a := a) (b := b) hwn (by omega) with ⟨_, H5, f5, rfl, hfl, k5⟩ | ⟨_, H5, f5, rfl, hfl, k5⟩
  rotate_left
  · refine Or.inr (Exists.intro _ (Exists.intro _ (And.intro (callP_args f5) ?_)))
    obtain ⟨H7, f7, d7, d8, k7⟩ := def58_some (kn := kn) (lo := lo) (k5.cl d2 (by simp)) rfl (k5.cl d3 (by simp)) (by omega) (by omega) (by omega)
    exact ⟨rfl, ⟨58, #[pt H1.next, pt H2.next], rfl, Or.inr ⟨noneV, rfl, H7, f7, _, res_nc rfl rfl rfl d7 d8, (k04.trans k5).new k7 (fun x hx => .inr (by simp at hx; omega)), Or.inr (Or.inl ⟨h4, by rw [hfl]; rfl, rfl⟩)⟩⟩⟩
  have hflx := hfl
  simp only [flB, inB, Bool.and_eq_true, decide_eq_true_eq] at hflx
  obtain ⟨s, rfl⟩ := Int.eq_ofNat_of_zero_le (a := a) (by omega)
  obtain ⟨d, rfl⟩ := Int.eq_ofNat_of_zero_le (a := b) (by omega)
  refine Or.inl (Exists.intro _ (Exists.intro _ (And.intro (callX_args f5) ?_)))
  have k05 := k04.trans k5
  have m5 := k5.1
  have d1 := k5.cl d1 (by simp)
  have d2 := k5.cl d2 (by simp)
  have d3 := k5.cl d3 (by simp)
  refine Or.inl ?_
  intro H6 hH6; obtain ⟨k6, n6, c6⟩ := new_facts hH6; clear hH6
  have c6 : Cl H6 H5.next [iv 0, iv 0] := c6
  refine Or.inl ?_
  obtain ⟨_, e7, l7, g7⟩ := id c6
  refine Exists.intro _ (Exists.intro _ (Exists.intro _ (And.intro g7 (And.intro (by omega) (And.intro rfl (And.intro rfl (And.intro (by simp) ?_)))))))
  intro H7 hH7; obtain ⟨k7, n7, c7⟩ := up_facts c6 hH7; clear hH7
  have c7 : Cl H7 H5.next [iv (s : Int), iv (d : Int)] := c7
  have k57 : Keep H5 H7 [] := k6.new k7 (fun x hx => .inr (by simp at hx; omega))
  have k07 := k05.trans k57
  have m7 := k57.1
  have d1 := k57.cl d1 (by simp)
  have d2 := k57.cl d2 (by simp)
  have d3 := k57.cl d3 (by simp)
  refine ⟨rfl, ?_⟩
  show Tri _ _ _ _ _ _ _ _ _
  rw [S38e]
  refine Tri.seq ?_
  rcases set_ok (kn := kn) (lo := H7.next) (H := H7) (s := s) (d := d) (k07.sl0 hl) hul hn (by omega) with ⟨_, H8, f8, rfl, hset, k8⟩ | ⟨_, H8, f8, rfl, hset, k8⟩
  · refine wC_sound false _ L38e ?_
    have m8 := k8.1
    refine wD_dreg ?_
    refine wD_lda rfl d1.rd (show row 13 g.v 0 = some g.v from rfl) ?_
    refine wD_lda rfl c7.rd (show row 2 _ 0 = some [iv (s : Int), iv (d : Int)] from rfl) ?_
    refine wD_lda rfl c7.rd (show row 2 _ 0 = some [iv (s : Int), iv (d : Int)] from rfl) ?_
    refine wD_mov (v := .slice la n cap) rfl ?_
    refine wD_callh (vs := [.agg #[iv (s : Int), iv (d : Int)], .slice la n cap]) rfl (by kernel_rfl) (callX_args f8) ?_
    have d2 := k8.cl d2 (by simp)
    have d3 := k8.cl d3 (by simp)
    refine wD_pur (v := .agg (crs g s d (dayMask us)).toArray) rfl (by kernel_rfl) ?_
    refine wD_sta (b := H1.next) (o := 0) rfl rfl d2 (by omega) rfl rfl (by simp) ?_
    intro H9 k9 n9 c9
    have c9 : Cl H9 H1.next (crs g s d (dayMask us)) := c9
    have d3 := k9.cl d3 (by simp; omega)
    refine wD_st (b := H2.next) (o := 0) rfl rfl d3 (by omega) rfl rfl (by simp) ?_
    intro H10 k10 n10 c10
    have c10 : Cl H10 H2.next [iv 0] := c10
    have c9 := k10.cl c9 (by simp; omega)
    refine wD_end (by repeat' first | exact True.intro | exact (fun h => h) | refine And.intro ?_ ?_ | (intro h; have h : (_ : Nat) = _ := h; omega)) ?_
    refine wC_sound false .ret (rc := .ret) rfl ?_
    have kk := ((k07.trans k8).new k9 (fun x hx => .inr (by simp at hx; omega))).new k10 (fun x hx => .inr (by simp at hx; omega))
    exact ⟨58, #[pt H1.next, pt H2.next], rfl, Or.inl ⟨Or.inr rfl, H10, def58_none, _, res_nc rfl rfl rfl c9 c10, kk, Or.inr (Or.inr ⟨h4, s, d, rfl, rfl, by omega, hset, rfl⟩)⟩⟩
  · refine tri_dregP D38e L38e ?_
    refine Or.inl (Exists.intro _ (Exists.intro _ (And.intro d1.of (And.intro (show row 13 g.v 0 = some g.v from rfl) (And.intro d1.lt ?_)))))
    refine Or.inl (Exists.intro _ (Exists.intro _ (And.intro c7.of (And.intro (show row 2 _ 0 = some [iv (s : Int), iv (d : Int)] from rfl) (And.intro c7.lt ?_)))))
    refine Or.inl (Exists.intro _ (Exists.intro _ (And.intro c7.of (And.intro (show row 2 _ 0 = some [iv (s : Int), iv (d : Int)] from rfl) (And.intro c7.lt ?_)))))
    refine Or.inl ?_
    refine Or.inr (Or.inr (And.intro (by kernel_rfl) (Exists.intro _ (Exists.intro _ (And.intro (callP_args f8) (And.intro ?_ (And.intro (show behindOk [127, 63, 31, 12, 0, 0, 0, 0].reverse 5 = true by kernel_rfl) ?_)))))))
    · repeat' first | exact True.intro | exact (fun h => h) | refine And.intro ?_ ?_
    · obtain ⟨H9, f9, d7, d8, k9⟩ := def58_some (kn := kn) (lo := lo) (k8.cl d2 (by simp)) rfl (k8.cl d3 (by simp)) (by omega) (by omega) (by omega)
      have m8 := k8.1
      exact ⟨58, #[pt H1.next, pt H2.next], rfl, Or.inr ⟨noneV, rfl, H9, f9, _, res_nc rfl rfl rfl d7 d8, (k07.trans k8).new k9 (fun x hx => .inr (by simp at hx; omega)), Or.inr (Or.inl ⟨h4, by rw [hset, Bool.and_false], rfl⟩)⟩⟩
end
end Go.Ax

/-
  Late: Warmth and Tells (15, 19) (written by program).
-/
namespace Go.Ax
open Go Go.RowKit Go.Proofs

/-- what Warmth answers -/
def Lt.Wm (g : Lt) (a b : Int) (w : Value) : Prop :=
  (g.ok = false ∧ w = .tuple #[spv 0 0, iv 1]) ∨ (g.ok = true ∧ flB g a b = false ∧ w = .tuple #[spv 0 0, iv 2]) ∨ (g.ok = true ∧ ∃ s d : Nat, a = s ∧ b = d ∧ s + d ≤ g.wn ∧ w = .tuple #[spv (g.wl s d) (g.wh s d), iv 0])
/-- what Tells answers -/
def Lt.Tl (g : Lt) (a b : Int) (us : List Int) (w : Value) : Prop :=
  (g.ok = false ∧ w = .tuple #[iv 0, iv 0, iv 1]) ∨ (g.ok = true ∧ (flB g a b && setB a (a + b) us) = false ∧ w = .tuple #[iv 0, iv 0, iv 2]) ∨
  (g.ok = true ∧ ∃ s d : Nat, a = s ∧ b = d ∧ s + d ≤ g.wn ∧ setB s (s + d) us = true ∧ w = .tuple #[iv (sureV (decide (g.wl s d ≥ g.kill)) (decide (g.wh s d ≥ g.kill))), iv (sureV (decide (g.sm s (Nat.testBit (dayMask us)) d > g.bear)) (decide (g.sl s (Nat.testBit (dayMask us)) d > g.bear))), iv 0])
section
variable {kn : FuncId → Option Bool} {lo : Nat} {H : Hp}
end
end Go.Ax

/-
  Late: the states with the iterator's own block; Oxygen (17) (written by program).
-/
namespace Go.Ax
open Go Go.RowKit Go.Proofs

theorem se22 : sliceElem Try.prog 22 = some (24, 2) := by kernel_rfl
theorem z24 : zeroOf Try.prog 24 = some (.agg #[iv 0, iv 0]) := by kernel_rfl
theorem u22 : Try.prog.underlying 22 = some (.slice 24) := by kernel_rfl
theorem Acc.other {lo f : Nat} {e : TypeId} {H H1 : Hp} {v : Value} {n : Nat} {cs : List Value} (h : Acc lo f e H v n cs) {w : List Nat} (k : Keep H H1 w) (hw : ∀ b ∈ w, b < f) : Acc lo f e H1 v n cs :=
  h.imp id fun ⟨b, e1, h0, hf, hl, hn, hg⟩ => ⟨b, e1, h0, hf, hl, Nat.lt_of_lt_of_le hn k.1, by rw [k.2 b hn (fun q => by have := hw b q; omega)]; exact hg⟩
section
variable {kn : FuncId → Option Bool} {lo : Nat} {H : Hp}
/-- what Oxygen answers -/
def Lt.Ox (g : Lt) (a b : Int) (us : List Int) (H : Hp) (w : Value) (H' : Hp) : Prop :=
  (g.ok = false ∧ w = .tuple #[.slice none 0 0, iv 1]) ∨ (g.ok = true ∧ (flB g a b && setB a (a + b) us) = false ∧ w = .tuple #[.slice none 0 0, iv 2]) ∨
  (g.ok = true ∧ ∃ s d : Nat, a = s ∧ b = d ∧ s + d ≤ g.wn ∧ setB s (s + d) us = true ∧ ∃ oa oc, w = .tuple #[.slice oa d oc, iv 0] ∧ Sl H' oa d oc (spc (g.ox s (Nat.testBit (dayMask us)) d)) ∧ ∀ x, oa = some ⟨x, 0, none⟩ → H.next ≤ x)
end
end Go.Ax


import Derived.Test.YtocgghpjbaelpaaMa
import Derived.Test.YtocgghpjbaelpaaAxW9
import Derived.Test.YtocgghpjbaelpaaChecked
set_option linter.all false
/-! What 'low' makes of functions of station (written by program). -/
namespace Go.Ax
open Go Go.RowKit Go.Proofs
theorem N30 : Try.f30.ntmps = 12 := by kernel_rfl
theorem Z30 : Try.f30.results.toList = ((List.toArray [(.tmp 4)]) : Array ResultVar).toList := by kernel_rfl
theorem B30 : Try.f30.body = some (at_ Try.f30 []) := by kernel_rfl
noncomputable def R30 : RC := (.seq (.reg [⟨(some 4), none, (.mov (.const (.bool false)))⟩])
  (.seq (.reg [⟨(some 5), none, (.mov (.tmp 0))⟩, ⟨(some 6), none, (.cmpb .leq (.const (.int .i64 0)) (.tmp 5))⟩, ⟨(some 7), none, (.mov (.tmp 6))⟩, ⟨(some 8), (some (7, true)), (.mov (.tmp 0))⟩, ⟨(some 9), (some (7, true)), (.mov (.tmp 1))⟩, ⟨(some 10), (some (7, true)), (.cmpb .leq (.tmp 8) (.tmp 9))⟩, ⟨(some 11), none, (.pur ⟨(some 11), (.pick (.tmp 7) (.tmp 10) (.const (.bool false))), 4, "", (List.toArray []), none⟩)⟩, ⟨(some 4), none, (.mov (.tmp 11))⟩])
  .ret))
theorem L30 : low Try.prog Try.f30.ntmps (at_ Try.f30 []) = some R30 := by kernel_rfl
theorem N57 : Try.f57.ntmps = 21 := by kernel_rfl
theorem Z57 : Try.f57.results.toList = ((List.toArray [(.tmp 4)]) : Array ResultVar).toList := by kernel_rfl
theorem B57 : Try.f57.body = some (at_ Try.f57 []) := by kernel_rfl
noncomputable def R57 : RC := (.seq (.reg [⟨(some 2), none, (.box 47 (.tmp 0))⟩, ⟨(some 4), none, (.mov (.const (.bool false)))⟩])
  (.seq (.reg [⟨(some 5), none, (.addo (.tmp 2) 0)⟩, ⟨(some 6), none, (.ld (.tmp 5) 1)⟩, ⟨(some 7), none, (.cmpb .leq (.const (.int .i64 0)) (.tmp 6))⟩, ⟨(some 8), none, (.mov (.tmp 7))⟩, ⟨(some 9), (some (8, true)), (.addo (.tmp 2) 0)⟩, ⟨(some 10), (some (8, true)), (.ld (.tmp 9) 1)⟩, ⟨(some 11), (some (8, true)), (.addo (.tmp 2) 1)⟩, ⟨(some 12), (some (8, true)), (.ld (.tmp 11) 1)⟩, ⟨(some 13), (some (8, true)), (.cmpb .leq (.tmp 10) (.tmp 12))⟩, ⟨(some 14), none, (.pur ⟨(some 14), (.pick (.tmp 8) (.tmp 13) (.const (.bool false))), 4, "", (List.toArray []), none⟩)⟩, ⟨(some 15), none, (.mov (.tmp 14))⟩, ⟨(some 16), (some (15, true)), (.addo (.tmp 2) 1)⟩, ⟨(some 17), (some (15, true)), (.ld (.tmp 16) 1)⟩, ⟨(some 18), (some (15, true)), (.mov (.tmp 1))⟩, ⟨(some 19), (some (15, true)), (.cmpb .leq (.tmp 17) (.tmp 18))⟩, ⟨(some 20), none, (.pur ⟨(some 20), (.pick (.tmp 15) (.tmp 19) (.const (.bool false))), 4, "", (List.toArray []), none⟩)⟩, ⟨(some 4), none, (.mov (.tmp 20))⟩])
  .ret))
theorem L57 : low Try.prog Try.f57.ntmps (at_ Try.f57 []) = some R57 := by kernel_rfl
theorem N39 : Try.f39.ntmps = 13 := by kernel_rfl
theorem Z39 : Try.f39.results.toList = ((List.toArray [(.tmp 2)]) : Array ResultVar).toList := by kernel_rfl
theorem B39 : Try.f39.body = some (at_ Try.f39 []) := by kernel_rfl
noncomputable def R39 : RC := (.seq (.reg [⟨(some 1), none, (.box 49 (.tmp 0))⟩, ⟨(some 2), none, (.mov (.const (.bool false)))⟩])
  (.seq (.reg [⟨(some 3), none, (.addo (.tmp 1) 0)⟩, ⟨(some 4), none, (.lda (.tmp 3) 2)⟩, ⟨(some 5), none, (.call ⟨(.value (.func 57)), (List.toArray [(.tmp 4), (.const (.int .i64 1048576))]), (List.toArray [47, 3])⟩ true)⟩, ⟨(some 6), none, (.pur ⟨(some 6), (.unOp .not 4 (.tmp 5)), 4, "", (List.toArray []), none⟩)⟩, ⟨(some 7), none, (.mov (.tmp 6))⟩, ⟨(some 8), (some (7, false)), (.addo (.tmp 1) 2)⟩, ⟨(some 9), (some (7, false)), (.lda (.tmp 8) 2)⟩, ⟨(some 10), (some (7, false)), (.call ⟨(.value (.func 57)), (List.toArray [(.tmp 9), (.const (.int .i64 1440))]), (List.toArray [47, 3])⟩ true)⟩, ⟨(some 11), (some (7, false)), (.pur ⟨(some 11), (.unOp .not 4 (.tmp 10)), 4, "", (List.toArray []), none⟩)⟩, ⟨(some 12), none, (.pur ⟨(some 12), (.pick (.tmp 7) (.const (.bool true)) (.tmp 11)), 4, "", (List.toArray []), none⟩)⟩, ⟨(some 2), none, (.mov (.tmp 12))⟩])
  .ret))
theorem L39 : low Try.prog Try.f39.ntmps (at_ Try.f39 []) = some R39 := by kernel_rfl
theorem N56 : Try.f56.ntmps = 19 := by kernel_rfl
theorem Z56 : Try.f56.results.toList = ((List.toArray [(.tmp 4)]) : Array ResultVar).toList := by kernel_rfl
theorem B56 : Try.f56.body = some (at_ Try.f56 []) := by kernel_rfl
noncomputable def R56 : RC := (.seq (.reg [⟨(some 4), none, (.mov (.const (.int .i64 0)))⟩])
  (.seq (.seq (.reg [⟨(some 6), none, (.mov (.tmp 0))⟩, ⟨(some 7), none, (.len (.tmp 6))⟩, ⟨(some 8), none, (.mov (.const (.int .i64 0)))⟩])
  (.block 0 (.other (at_ Try.f56 [1, 0, 1, 0]))))
  (.seq (.reg [⟨(some 4), none, (.mov (.const (.int .i64 (-1))))⟩])
  .ret)))
theorem L56 : low Try.prog Try.f56.ntmps (at_ Try.f56 []) = some R56 := by kernel_rfl
theorem E56_1 : at_ Try.f56 [1, 0, 1, 0] = .loop (at_ Try.f56 [1, 0, 1, 0, 0]) := by kernel_rfl
noncomputable def R56x1 : RC := (.seq (.reg [⟨(some 9), none, (.cmp .lss (.tmp 8) (.tmp 7))⟩])
  (.seq (.cond (.tmp 9) .skip
  (.exit 0))
  (.seq (.block 1 (.seq (.reg [⟨(some 10), none, (.mov (.tmp 8))⟩, ⟨(some 5), none, (.mov (.tmp 10))⟩])
  (.seq (.reg [⟨(some 11), none, (.mov (.tmp 1))⟩, ⟨(some 12), none, (.mov (.tmp 0))⟩, ⟨(some 13), none, (.mov (.tmp 5))⟩, ⟨(some 14), none, (.idx (.tmp 12) (.tmp 13) 4)⟩, ⟨(some 15), none, (.lda (.tmp 14) 4)⟩, ⟨(some 16), none, (.call ⟨(.value (.tmp 11)), (List.toArray [(.tmp 15)]), (List.toArray [49])⟩ true)⟩])
  (.cond (.tmp 16) (.seq (.reg [⟨(some 17), none, (.mov (.tmp 5))⟩, ⟨(some 4), none, (.mov (.tmp 17))⟩])
  .ret)
  .skip))))
  (.reg [⟨(some 18), none, (.ari .add (.tmp 8) (.const (.int .i64 1)))⟩, ⟨(some 8), none, (.mov (.tmp 18))⟩]))))
theorem L56x1 : low Try.prog Try.f56.ntmps (at_ Try.f56 [1, 0, 1, 0, 0]) = some R56x1 := by kernel_rfl
theorem N38 : Try.f38.ntmps = 9 := by kernel_rfl
theorem Z38 : Try.f38.results.toList = ((List.toArray [(.tmp 4)]) : Array ResultVar).toList := by kernel_rfl
theorem B38 : Try.f38.body = some (at_ Try.f38 []) := by kernel_rfl
noncomputable def R38 : RC := (.seq (.reg [⟨(some 4), none, (.mov (.const (.bool false)))⟩])
  (.seq (.reg [⟨(some 5), none, (.mov (.tmp 0))⟩, ⟨(some 6), none, (.mov (.tmp 1))⟩, ⟨(some 7), none, (.call ⟨(.value (.func 56)), (List.toArray [(.tmp 5), (.tmp 6)]), (List.toArray [22, 73])⟩ true)⟩, ⟨(some 8), none, (.cmp .geq (.tmp 7) (.const (.int .i64 0)))⟩, ⟨(some 4), none, (.mov (.tmp 8))⟩])
  .ret))
theorem L38 : low Try.prog Try.f38.ntmps (at_ Try.f38 []) = some R38 := by kernel_rfl
theorem N26 : Try.f26.ntmps = 11 := by kernel_rfl
theorem Z26 : Try.f26.results.toList = ((List.toArray [(.tmp 2)]) : Array ResultVar).toList := by kernel_rfl
theorem B26 : Try.f26.body = some (at_ Try.f26 []) := by kernel_rfl
noncomputable def R26 : RC := (.seq (.reg [⟨(some 2), none, (.mov (.const (.bool false)))⟩])
  (.seq (.reg [⟨(some 3), none, (.mov (.tmp 0))⟩, ⟨(some 4), none, (.len (.tmp 3))⟩, ⟨(some 5), none, (.cmpb .leq (.tmp 4) (.const (.int .i64 64)))⟩, ⟨(some 6), none, (.mov (.tmp 5))⟩, ⟨(some 7), (some (6, true)), (.mov (.tmp 0))⟩, ⟨(some 8), (some (6, true)), (.call ⟨(.value (.func 38)), (List.toArray [(.tmp 7), (.func 39)]), (List.toArray [22, 73])⟩ true)⟩, ⟨(some 9), (some (6, true)), (.pur ⟨(some 9), (.unOp .not 4 (.tmp 8)), 4, "", (List.toArray []), none⟩)⟩, ⟨(some 10), none, (.pur ⟨(some 10), (.pick (.tmp 6) (.tmp 9) (.const (.bool false))), 4, "", (List.toArray []), none⟩)⟩, ⟨(some 2), none, (.mov (.tmp 10))⟩])
  .ret))
theorem L26 : low Try.prog Try.f26.ntmps (at_ Try.f26 []) = some R26 := by kernel_rfl
theorem N46 : Try.f46.ntmps = 40 := by kernel_rfl
theorem Z46 : Try.f46.results.toList = ((List.toArray [(.tmp 2)]) : Array ResultVar).toList := by kernel_rfl
theorem B46 : Try.f46.body = some (at_ Try.f46 []) := by kernel_rfl
noncomputable def R46 : RC := (.seq (.reg [⟨(some 1), none, (.box 58 (.tmp 0))⟩, ⟨(some 2), none, (.mov (.const (.bool false)))⟩])
  (.seq (.seq (.reg [⟨(some 3), none, (.addo (.tmp 1) 0)⟩, ⟨(some 4), none, (.ld (.tmp 3) 1)⟩, ⟨(some 5), none, (.cmpb .lss (.tmp 4) (.const (.int .i64 1)))⟩, ⟨(some 6), none, (.mov (.tmp 5))⟩, ⟨(some 7), (some (6, false)), (.addo (.tmp 1) 0)⟩, ⟨(some 8), (some (6, false)), (.ld (.tmp 7) 1)⟩, ⟨(some 9), (some (6, false)), (.cmpb .gtr (.tmp 8) (.const (.int .i64 1048576)))⟩, ⟨(some 10), none, (.pur ⟨(some 10), (.pick (.tmp 6) (.const (.bool true)) (.tmp 9)), 4, "", (List.toArray []), none⟩)⟩, ⟨(some 11), none, (.mov (.tmp 10))⟩, ⟨(some 12), (some (11, false)), (.addo (.tmp 1) 1)⟩, ⟨(some 13), (some (11, false)), (.ld (.tmp 12) 1)⟩, ⟨(some 14), (some (11, false)), (.addo (.tmp 1) 0)⟩, ⟨(some 15), (some (11, false)), (.ld (.tmp 14) 1)⟩, ⟨(some 16), (some (11, false)), (.call ⟨(.value (.func 30)), (List.toArray [(.tmp 13), (.tmp 15)]), (List.toArray [3, 3])⟩ true)⟩, ⟨(some 17), (some (11, false)), (.pur ⟨(some 17), (.unOp .not 4 (.tmp 16)), 4, "", (List.toArray []), none⟩)⟩, ⟨(some 18), none, (.pur ⟨(some 18), (.pick (.tmp 11) (.const (.bool true)) (.tmp 17)), 4, "", (List.toArray []), none⟩)⟩, ⟨(some 19), none, (.mov (.tmp 18))⟩, ⟨(some 20), (some (19, false)), (.addo (.tmp 1) 2)⟩, ⟨(some 21), (some (19, false)), (.ld (.tmp 20) 1)⟩, ⟨(some 22), (some (19, false)), (.addo (.tmp 1) 0)⟩, ⟨(some 23), (some (19, false)), (.ld (.tmp 22) 1)⟩, ⟨(some 24), (some (19, false)), (.addo (.tmp 1) 1)⟩, ⟨(some 25), (some (19, false)), (.ld (.tmp 24) 1)⟩, ⟨(some 26), (some (19, false)), (.ari .sub (.tmp 23) (.tmp 25))⟩, ⟨(some 27), (some (19, false)), (.call ⟨(.value (.func 30)), (List.toArray [(.tmp 21), (.tmp 26)]), (List.toArray [3, 3])⟩ true)⟩, ⟨(some 28), (some (19, false)), (.pur ⟨(some 28), (.unOp .not 4 (.tmp 27)), 4, "", (List.toArray []), none⟩)⟩, ⟨(some 29), none, (.pur ⟨(some 29), (.pick (.tmp 19) (.const (.bool true)) (.tmp 28)), 4, "", (List.toArray []), none⟩)⟩])
  (.cond (.tmp 29) (.seq (.reg [⟨(some 2), none, (.mov (.const (.bool true)))⟩])
  .ret)
  .skip))
  (.seq (.reg [⟨(some 30), none, (.addo (.tmp 1) 3)⟩, ⟨(some 31), none, (.ld (.tmp 30) 1)⟩, ⟨(some 32), none, (.call ⟨(.value (.func 30)), (List.toArray [(.tmp 31), (.const (.int .i64 255))]), (List.toArray [3, 3])⟩ true)⟩, ⟨(some 33), none, (.pur ⟨(some 33), (.unOp .not 4 (.tmp 32)), 4, "", (List.toArray []), none⟩)⟩, ⟨(some 34), none, (.mov (.tmp 33))⟩, ⟨(some 35), (some (34, false)), (.addo (.tmp 1) 4)⟩, ⟨(some 36), (some (34, false)), (.ld (.tmp 35) 1)⟩, ⟨(some 37), (some (34, false)), (.call ⟨(.value (.func 30)), (List.toArray [(.tmp 36), (.const (.int .i64 1000))]), (List.toArray [3, 3])⟩ true)⟩, ⟨(some 38), (some (34, false)), (.pur ⟨(some 38), (.unOp .not 4 (.tmp 37)), 4, "", (List.toArray []), none⟩)⟩, ⟨(some 39), none, (.pur ⟨(some 39), (.pick (.tmp 34) (.const (.bool true)) (.tmp 38)), 4, "", (List.toArray []), none⟩)⟩, ⟨(some 2), none, (.mov (.tmp 39))⟩])
  .ret)))
theorem L46 : low Try.prog Try.f46.ntmps (at_ Try.f46 []) = some R46 := by kernel_rfl
theorem N60 : Try.f60.ntmps = 19 := by kernel_rfl
theorem Z60 : Try.f60.results.toList = ((List.toArray [(.tmp 4)]) : Array ResultVar).toList := by kernel_rfl
theorem B60 : Try.f60.body = some (at_ Try.f60 []) := by kernel_rfl
noncomputable def R60 : RC := (.seq (.reg [⟨(some 4), none, (.mov (.const (.int .i64 0)))⟩])
  (.seq (.seq (.reg [⟨(some 6), none, (.mov (.tmp 0))⟩, ⟨(some 7), none, (.len (.tmp 6))⟩, ⟨(some 8), none, (.mov (.const (.int .i64 0)))⟩])
  (.block 0 (.other (at_ Try.f60 [1, 0, 1, 0]))))
  (.seq (.reg [⟨(some 4), none, (.mov (.const (.int .i64 (-1))))⟩])
  .ret)))
theorem L60 : low Try.prog Try.f60.ntmps (at_ Try.f60 []) = some R60 := by kernel_rfl
theorem E60_1 : at_ Try.f60 [1, 0, 1, 0] = .loop (at_ Try.f60 [1, 0, 1, 0, 0]) := by kernel_rfl
noncomputable def R60x1 : RC := (.seq (.reg [⟨(some 9), none, (.cmp .lss (.tmp 8) (.tmp 7))⟩])
  (.seq (.cond (.tmp 9) .skip
  (.exit 0))
  (.seq (.block 1 (.seq (.reg [⟨(some 10), none, (.mov (.tmp 8))⟩, ⟨(some 5), none, (.mov (.tmp 10))⟩])
  (.seq (.reg [⟨(some 11), none, (.mov (.tmp 1))⟩, ⟨(some 12), none, (.mov (.tmp 0))⟩, ⟨(some 13), none, (.mov (.tmp 5))⟩, ⟨(some 14), none, (.idx (.tmp 12) (.tmp 13) 5)⟩, ⟨(some 15), none, (.lda (.tmp 14) 5)⟩, ⟨(some 16), none, (.call ⟨(.value (.tmp 11)), (List.toArray [(.tmp 15)]), (List.toArray [58])⟩ true)⟩])
  (.cond (.tmp 16) (.seq (.reg [⟨(some 17), none, (.mov (.tmp 5))⟩, ⟨(some 4), none, (.mov (.tmp 17))⟩])
  .ret)
  .skip))))
  (.reg [⟨(some 18), none, (.ari .add (.tmp 8) (.const (.int .i64 1)))⟩, ⟨(some 8), none, (.mov (.tmp 18))⟩]))))
theorem L60x1 : low Try.prog Try.f60.ntmps (at_ Try.f60 [1, 0, 1, 0, 0]) = some R60x1 := by kernel_rfl
theorem N45 : Try.f45.ntmps = 9 := by kernel_rfl
theorem Z45 : Try.f45.results.toList = ((List.toArray [(.tmp 4)]) : Array ResultVar).toList := by kernel_rfl
theorem B45 : Try.f45.body = some (at_ Try.f45 []) := by kernel_rfl
noncomputable def R45 : RC := (.seq (.reg [⟨(some 4), none, (.mov (.const (.bool false)))⟩])
  (.seq (.reg [⟨(some 5), none, (.mov (.tmp 0))⟩, ⟨(some 6), none, (.mov (.tmp 1))⟩, ⟨(some 7), none, (.call ⟨(.value (.func 60)), (List.toArray [(.tmp 5), (.tmp 6)]), (List.toArray [32, 71])⟩ true)⟩, ⟨(some 8), none, (.cmp .geq (.tmp 7) (.const (.int .i64 0)))⟩, ⟨(some 4), none, (.mov (.tmp 8))⟩])
  .ret))
theorem L45 : low Try.prog Try.f45.ntmps (at_ Try.f45 []) = some R45 := by kernel_rfl
theorem N32 : Try.f32.ntmps = 47 := by kernel_rfl
theorem Z32 : Try.f32.results.toList = ((List.toArray [(.tmp 2)]) : Array ResultVar).toList := by kernel_rfl
theorem B32 : Try.f32.body = some (at_ Try.f32 []) := by kernel_rfl
noncomputable def R32 : RC := (.seq (.reg [⟨(some 1), none, (.box 34 (.tmp 0))⟩, ⟨(some 2), none, (.mov (.const (.bool false)))⟩])
  (.seq (.seq (.reg [⟨(some 4), none, (.addo (.tmp 1) 0)⟩, ⟨(some 5), none, (.ld (.tmp 4) 1)⟩, ⟨(some 6), none, (.call ⟨(.value (.func 30)), (List.toArray [(.tmp 5), (.const (.int .i64 1023))]), (List.toArray [3, 3])⟩ true)⟩, ⟨(some 7), none, (.pur ⟨(some 7), (.unOp .not 4 (.tmp 6)), 4, "", (List.toArray []), none⟩)⟩, ⟨(some 8), none, (.mov (.tmp 7))⟩, ⟨(some 9), (some (8, false)), (.addo (.tmp 1) 1)⟩, ⟨(some 10), (some (8, false)), (.ld (.tmp 9) 1)⟩, ⟨(some 11), (some (8, false)), (.call ⟨(.value (.func 30)), (List.toArray [(.tmp 10), (.const (.int .i64 1023))]), (List.toArray [3, 3])⟩ true)⟩, ⟨(some 12), (some (8, false)), (.pur ⟨(some 12), (.unOp .not 4 (.tmp 11)), 4, "", (List.toArray []), none⟩)⟩, ⟨(some 13), none, (.pur ⟨(some 13), (.pick (.tmp 8) (.const (.bool true)) (.tmp 12)), 4, "", (List.toArray []), none⟩)⟩, ⟨(some 14), none, (.mov (.tmp 13))⟩, ⟨(some 15), (some (14, false)), (.addo (.tmp 1) 2)⟩, ⟨(some 16), (some (14, false)), (.ld (.tmp 15) 1)⟩, ⟨(some 17), (some (14, false)), (.call ⟨(.value (.func 30)), (List.toArray [(.tmp 16), (.const (.int .i64 16384))]), (List.toArray [3, 3])⟩ true)⟩, ⟨(some 18), (some (14, false)), (.pur ⟨(some 18), (.unOp .not 4 (.tmp 17)), 4, "", (List.toArray []), none⟩)⟩, ⟨(some 19), none, (.pur ⟨(some 19), (.pick (.tmp 14) (.const (.bool true)) (.tmp 18)), 4, "", (List.toArray []), none⟩)⟩])
  (.cond (.tmp 19) (.seq (.reg [⟨(some 2), none, (.mov (.const (.bool false)))⟩])
  .ret)
  .skip))
  (.seq (.seq (.reg [⟨(some 20), none, (.addo (.tmp 1) 3)⟩, ⟨(some 21), none, (.ld (.tmp 20) 1)⟩, ⟨(some 22), none, (.call ⟨(.value (.func 30)), (List.toArray [(.tmp 21), (.const (.int .i64 134217728))]), (List.toArray [3, 3])⟩ true)⟩, ⟨(some 23), none, (.pur ⟨(some 23), (.unOp .not 4 (.tmp 22)), 4, "", (List.toArray []), none⟩)⟩, ⟨(some 24), none, (.mov (.tmp 23))⟩, ⟨(some 25), (some (24, false)), (.addo (.tmp 1) 4)⟩, ⟨(some 26), (some (24, false)), (.ld (.tmp 25) 1)⟩, ⟨(some 27), (some (24, false)), (.addo (.tmp 1) 3)⟩, ⟨(some 28), (some (24, false)), (.ld (.tmp 27) 1)⟩, ⟨(some 29), (some (24, false)), (.call ⟨(.value (.func 30)), (List.toArray [(.tmp 26), (.tmp 28)]), (List.toArray [3, 3])⟩ true)⟩, ⟨(some 30), (some (24, false)), (.pur ⟨(some 30), (.unOp .not 4 (.tmp 29)), 4, "", (List.toArray []), none⟩)⟩, ⟨(some 31), none, (.pur ⟨(some 31), (.pick (.tmp 24) (.const (.bool true)) (.tmp 30)), 4, "", (List.toArray []), none⟩)⟩])
  (.cond (.tmp 31) (.seq (.reg [⟨(some 2), none, (.mov (.const (.bool false)))⟩])
  .ret)
  .skip))
  (.seq (.reg [⟨(some 32), none, (.addo (.tmp 1) 5)⟩, ⟨(some 33), none, (.ld (.tmp 32) 1)⟩, ⟨(some 34), none, (.len (.tmp 33))⟩, ⟨(some 3), none, (.mov (.tmp 34))⟩])
  (.seq (.reg [⟨(some 35), none, (.mov (.tmp 3))⟩, ⟨(some 36), none, (.cmpb .geq (.tmp 35) (.const (.int .i64 1)))⟩, ⟨(some 37), none, (.mov (.tmp 36))⟩, ⟨(some 38), (some (37, true)), (.mov (.tmp 3))⟩, ⟨(some 39), (some (37, true)), (.cmpb .leq (.tmp 38) (.const (.int .i64 32)))⟩, ⟨(some 40), none, (.pur ⟨(some 40), (.pick (.tmp 37) (.tmp 39) (.const (.bool false))), 4, "", (List.toArray []), none⟩)⟩, ⟨(some 41), none, (.mov (.tmp 40))⟩, ⟨(some 42), (some (41, true)), (.addo (.tmp 1) 5)⟩, ⟨(some 43), (some (41, true)), (.ld (.tmp 42) 1)⟩, ⟨(some 44), (some (41, true)), (.call ⟨(.value (.func 45)), (List.toArray [(.tmp 43), (.func 46)]), (List.toArray [32, 71])⟩ true)⟩, ⟨(some 45), (some (41, true)), (.pur ⟨(some 45), (.unOp .not 4 (.tmp 44)), 4, "", (List.toArray []), none⟩)⟩, ⟨(some 46), none, (.pur ⟨(some 46), (.pick (.tmp 41) (.tmp 45) (.const (.bool false))), 4, "", (List.toArray []), none⟩)⟩, ⟨(some 2), none, (.mov (.tmp 46))⟩])
  .ret)))))
theorem L32 : low Try.prog Try.f32.ntmps (at_ Try.f32 []) = some R32 := by kernel_rfl
theorem N63 : Try.f63.ntmps = 6 := by kernel_rfl
theorem Z63 : Try.f63.results.toList = ((List.toArray [(.tmp 2)]) : Array ResultVar).toList := by kernel_rfl
theorem B63 : Try.f63.body = some (at_ Try.f63 []) := by kernel_rfl
noncomputable def R63 : RC := (.seq (.reg [⟨(some 2), none, (.mov (.const (.bool false)))⟩])
  (.seq (.reg [⟨(some 3), none, (.mov (.tmp 0))⟩, ⟨(some 4), none, (.call ⟨(.value (.func 30)), (List.toArray [(.tmp 3), (.const (.int .i64 4096))]), (List.toArray [3, 3])⟩ true)⟩, ⟨(some 5), none, (.pur ⟨(some 5), (.unOp .not 4 (.tmp 4)), 4, "", (List.toArray []), none⟩)⟩, ⟨(some 2), none, (.mov (.tmp 5))⟩])
  .ret))
theorem L63 : low Try.prog Try.f63.ntmps (at_ Try.f63 []) = some R63 := by kernel_rfl
theorem N66 : Try.f66.ntmps = 19 := by kernel_rfl
theorem Z66 : Try.f66.results.toList = ((List.toArray [(.tmp 4)]) : Array ResultVar).toList := by kernel_rfl
theorem B66 : Try.f66.body = some (at_ Try.f66 []) := by kernel_rfl
noncomputable def R66 : RC := (.seq (.reg [⟨(some 4), none, (.mov (.const (.int .i64 0)))⟩])
  (.seq (.seq (.reg [⟨(some 6), none, (.mov (.tmp 0))⟩, ⟨(some 7), none, (.len (.tmp 6))⟩, ⟨(some 8), none, (.mov (.const (.int .i64 0)))⟩])
  (.block 0 (.other (at_ Try.f66 [1, 0, 1, 0]))))
  (.seq (.reg [⟨(some 4), none, (.mov (.const (.int .i64 (-1))))⟩])
  .ret)))
theorem L66 : low Try.prog Try.f66.ntmps (at_ Try.f66 []) = some R66 := by kernel_rfl
theorem E66_1 : at_ Try.f66 [1, 0, 1, 0] = .loop (at_ Try.f66 [1, 0, 1, 0, 0]) := by kernel_rfl
noncomputable def R66x1 : RC := (.seq (.reg [⟨(some 9), none, (.cmp .lss (.tmp 8) (.tmp 7))⟩])
  (.seq (.cond (.tmp 9) .skip
  (.exit 0))
  (.seq (.block 1 (.seq (.reg [⟨(some 10), none, (.mov (.tmp 8))⟩, ⟨(some 5), none, (.mov (.tmp 10))⟩])
  (.seq (.reg [⟨(some 11), none, (.mov (.tmp 1))⟩, ⟨(some 12), none, (.mov (.tmp 0))⟩, ⟨(some 13), none, (.mov (.tmp 5))⟩, ⟨(some 14), none, (.idx (.tmp 12) (.tmp 13) 1)⟩, ⟨(some 15), none, (.ld (.tmp 14) 1)⟩, ⟨(some 16), none, (.call ⟨(.value (.tmp 11)), (List.toArray [(.tmp 15)]), (List.toArray [3])⟩ true)⟩])
  (.cond (.tmp 16) (.seq (.reg [⟨(some 17), none, (.mov (.tmp 5))⟩, ⟨(some 4), none, (.mov (.tmp 17))⟩])
  .ret)
  .skip))))
  (.reg [⟨(some 18), none, (.ari .add (.tmp 8) (.const (.int .i64 1)))⟩, ⟨(some 8), none, (.mov (.tmp 18))⟩]))))
theorem L66x1 : low Try.prog Try.f66.ntmps (at_ Try.f66 [1, 0, 1, 0, 0]) = some R66x1 := by kernel_rfl
theorem N62 : Try.f62.ntmps = 9 := by kernel_rfl
theorem Z62 : Try.f62.results.toList = ((List.toArray [(.tmp 4)]) : Array ResultVar).toList := by kernel_rfl
theorem B62 : Try.f62.body = some (at_ Try.f62 []) := by kernel_rfl
noncomputable def R62 : RC := (.seq (.reg [⟨(some 4), none, (.mov (.const (.bool false)))⟩])
  (.seq (.reg [⟨(some 5), none, (.mov (.tmp 0))⟩, ⟨(some 6), none, (.mov (.tmp 1))⟩, ⟨(some 7), none, (.call ⟨(.value (.func 66)), (List.toArray [(.tmp 5), (.tmp 6)]), (List.toArray [45, 99])⟩ true)⟩, ⟨(some 8), none, (.cmp .geq (.tmp 7) (.const (.int .i64 0)))⟩, ⟨(some 4), none, (.mov (.tmp 8))⟩])
  .ret))
theorem L62 : low Try.prog Try.f62.ntmps (at_ Try.f62 []) = some R62 := by kernel_rfl
theorem N54 : Try.f54.ntmps = 10 := by kernel_rfl
theorem Z54 : Try.f54.results.toList = ((List.toArray [(.tmp 2)]) : Array ResultVar).toList := by kernel_rfl
theorem B54 : Try.f54.body = some (at_ Try.f54 []) := by kernel_rfl
noncomputable def R54 : RC := (.seq (.reg [⟨(some 2), none, (.mov (.const (.bool false)))⟩])
  (.seq (.reg [⟨(some 3), none, (.mov (.tmp 0))⟩, ⟨(some 4), none, (.len (.tmp 3))⟩, ⟨(some 5), none, (.cmpb .gtr (.tmp 4) (.const (.int .i64 7)))⟩, ⟨(some 6), none, (.mov (.tmp 5))⟩, ⟨(some 7), (some (6, false)), (.mov (.tmp 0))⟩, ⟨(some 8), (some (6, false)), (.call ⟨(.value (.func 62)), (List.toArray [(.tmp 7), (.func 63)]), (List.toArray [45, 99])⟩ true)⟩, ⟨(some 9), none, (.pur ⟨(some 9), (.pick (.tmp 6) (.const (.bool true)) (.tmp 8)), 4, "", (List.toArray []), none⟩)⟩, ⟨(some 2), none, (.mov (.tmp 9))⟩])
  .ret))
theorem L54 : low Try.prog Try.f54.ntmps (at_ Try.f54 []) = some R54 := by kernel_rfl
theorem N61 : Try.f61.ntmps = 19 := by kernel_rfl
theorem Z61 : Try.f61.results.toList = ((List.toArray [(.tmp 4)]) : Array ResultVar).toList := by kernel_rfl
theorem B61 : Try.f61.body = some (at_ Try.f61 []) := by kernel_rfl
noncomputable def R61 : RC := (.seq (.reg [⟨(some 4), none, (.mov (.const (.int .i64 0)))⟩])
  (.seq (.seq (.reg [⟨(some 6), none, (.mov (.tmp 0))⟩, ⟨(some 7), none, (.len (.tmp 6))⟩, ⟨(some 8), none, (.mov (.const (.int .i64 0)))⟩])
  (.block 0 (.other (at_ Try.f61 [1, 0, 1, 0]))))
  (.seq (.reg [⟨(some 4), none, (.mov (.const (.int .i64 (-1))))⟩])
  .ret)))
theorem L61 : low Try.prog Try.f61.ntmps (at_ Try.f61 []) = some R61 := by kernel_rfl
theorem E61_1 : at_ Try.f61 [1, 0, 1, 0] = .loop (at_ Try.f61 [1, 0, 1, 0, 0]) := by kernel_rfl
noncomputable def R61x1 : RC := (.seq (.reg [⟨(some 9), none, (.cmp .lss (.tmp 8) (.tmp 7))⟩])
  (.seq (.cond (.tmp 9) .skip
  (.exit 0))
  (.seq (.block 1 (.seq (.reg [⟨(some 10), none, (.mov (.tmp 8))⟩, ⟨(some 5), none, (.mov (.tmp 10))⟩])
  (.seq (.reg [⟨(some 11), none, (.mov (.tmp 1))⟩, ⟨(some 12), none, (.mov (.tmp 0))⟩, ⟨(some 13), none, (.mov (.tmp 5))⟩, ⟨(some 14), none, (.idx (.tmp 12) (.tmp 13) 1)⟩, ⟨(some 15), none, (.ld (.tmp 14) 1)⟩, ⟨(some 16), none, (.call ⟨(.value (.tmp 11)), (List.toArray [(.tmp 15)]), (List.toArray [45])⟩ true)⟩])
  (.cond (.tmp 16) (.seq (.reg [⟨(some 17), none, (.mov (.tmp 5))⟩, ⟨(some 4), none, (.mov (.tmp 17))⟩])
  .ret)
  .skip))))
  (.reg [⟨(some 18), none, (.ari .add (.tmp 8) (.const (.int .i64 1)))⟩, ⟨(some 8), none, (.mov (.tmp 18))⟩]))))
theorem L61x1 : low Try.prog Try.f61.ntmps (at_ Try.f61 [1, 0, 1, 0, 0]) = some R61x1 := by kernel_rfl
theorem N53 : Try.f53.ntmps = 9 := by kernel_rfl
theorem Z53 : Try.f53.results.toList = ((List.toArray [(.tmp 4)]) : Array ResultVar).toList := by kernel_rfl
theorem B53 : Try.f53.body = some (at_ Try.f53 []) := by kernel_rfl
noncomputable def R53 : RC := (.seq (.reg [⟨(some 4), none, (.mov (.const (.bool false)))⟩])
  (.seq (.reg [⟨(some 5), none, (.mov (.tmp 0))⟩, ⟨(some 6), none, (.mov (.tmp 1))⟩, ⟨(some 7), none, (.call ⟨(.value (.func 61)), (List.toArray [(.tmp 5), (.tmp 6)]), (List.toArray [35, 86])⟩ true)⟩, ⟨(some 8), none, (.cmp .geq (.tmp 7) (.const (.int .i64 0)))⟩, ⟨(some 4), none, (.mov (.tmp 8))⟩])
  .ret))
theorem L53 : low Try.prog Try.f53.ntmps (at_ Try.f53 []) = some R53 := by kernel_rfl
theorem N34 : Try.f34.ntmps = 11 := by kernel_rfl
theorem Z34 : Try.f34.results.toList = ((List.toArray [(.tmp 2)]) : Array ResultVar).toList := by kernel_rfl
theorem B34 : Try.f34.body = some (at_ Try.f34 []) := by kernel_rfl
noncomputable def R34 : RC := (.seq (.reg [⟨(some 2), none, (.mov (.const (.bool false)))⟩])
  (.seq (.reg [⟨(some 3), none, (.mov (.tmp 0))⟩, ⟨(some 4), none, (.len (.tmp 3))⟩, ⟨(some 5), none, (.cmpb .leq (.tmp 4) (.const (.int .i64 256)))⟩, ⟨(some 6), none, (.mov (.tmp 5))⟩, ⟨(some 7), (some (6, true)), (.mov (.tmp 0))⟩, ⟨(some 8), (some (6, true)), (.call ⟨(.value (.func 53)), (List.toArray [(.tmp 7), (.func 54)]), (List.toArray [35, 86])⟩ true)⟩, ⟨(some 9), (some (6, true)), (.pur ⟨(some 9), (.unOp .not 4 (.tmp 8)), 4, "", (List.toArray []), none⟩)⟩, ⟨(some 10), none, (.pur ⟨(some 10), (.pick (.tmp 6) (.tmp 9) (.const (.bool false))), 4, "", (List.toArray []), none⟩)⟩, ⟨(some 2), none, (.mov (.tmp 10))⟩])
  .ret))
theorem L34 : low Try.prog Try.f34.ntmps (at_ Try.f34 []) = some R34 := by kernel_rfl
theorem N36 : Try.f36.ntmps = 21 := by kernel_rfl
theorem Z36 : Try.f36.results.toList = ((List.toArray [(.tmp 4)]) : Array ResultVar).toList := by kernel_rfl
theorem B36 : Try.f36.body = some (at_ Try.f36 []) := by kernel_rfl
noncomputable def R36 : RC := (.seq (.reg [⟨(some 2), none, (.box 47 (.tmp 0))⟩, ⟨(some 4), none, (.mov (.const (.bool false)))⟩])
  (.seq (.reg [⟨(some 5), none, (.addo (.tmp 2) 0)⟩, ⟨(some 6), none, (.ld (.tmp 5) 1)⟩, ⟨(some 7), none, (.cmpb .geq (.tmp 6) (.const (.int .i64 0)))⟩, ⟨(some 8), none, (.mov (.tmp 7))⟩, ⟨(some 9), (some (8, true)), (.addo (.tmp 2) 0)⟩, ⟨(some 10), (some (8, true)), (.ld (.tmp 9) 1)⟩, ⟨(some 11), (some (8, true)), (.addo (.tmp 2) 1)⟩, ⟨(some 12), (some (8, true)), (.ld (.tmp 11) 1)⟩, ⟨(some 13), (some (8, true)), (.cmpb .leq (.tmp 10) (.tmp 12))⟩, ⟨(some 14), none, (.pur ⟨(some 14), (.pick (.tmp 8) (.tmp 13) (.const (.bool false))), 4, "", (List.toArray []), none⟩)⟩, ⟨(some 15), none, (.mov (.tmp 14))⟩, ⟨(some 16), (some (15, true)), (.addo (.tmp 2) 1)⟩, ⟨(some 17), (some (15, true)), (.ld (.tmp 16) 1)⟩, ⟨(some 18), (some (15, true)), (.mov (.tmp 1))⟩, ⟨(some 19), (some (15, true)), (.cmpb .leq (.tmp 17) (.tmp 18))⟩, ⟨(some 20), none, (.pur ⟨(some 20), (.pick (.tmp 15) (.tmp 19) (.const (.bool false))), 4, "", (List.toArray []), none⟩)⟩, ⟨(some 4), none, (.mov (.tmp 20))⟩])
  .ret))
theorem L36 : low Try.prog Try.f36.ntmps (at_ Try.f36 []) = some R36 := by kernel_rfl
theorem N21 : Try.f21.ntmps = 33 := by kernel_rfl
theorem Z21 : Try.f21.results.toList = ((List.toArray [(.tmp 2)]) : Array ResultVar).toList := by kernel_rfl
theorem B21 : Try.f21.body = some (at_ Try.f21 []) := by kernel_rfl
noncomputable def R21 : RC := (.seq (.reg [⟨(some 2), none, (.mov (.const (.bool false)))⟩])
  (.seq (.seq (.reg [⟨(some 3), none, (.mov (.const (.int .i64 0)))⟩])
  (.block 0 (.other (at_ Try.f21 [1, 0, 1, 0]))))
  (.seq (.reg [⟨(some 30), none, (.mov (.tmp 0))⟩, ⟨(some 31), none, (.len (.tmp 30))⟩, ⟨(some 32), none, (.cmp .leq (.tmp 31) (.const (.int .i64 64)))⟩, ⟨(some 2), none, (.mov (.tmp 32))⟩])
  .ret)))
theorem L21 : low Try.prog Try.f21.ntmps (at_ Try.f21 []) = some R21 := by kernel_rfl
theorem E21_1 : at_ Try.f21 [1, 0, 1, 0] = .loop (at_ Try.f21 [1, 0, 1, 0, 0]) := by kernel_rfl
noncomputable def R21x1 : RC := (.seq (.seq (.reg [⟨(some 4), none, (.mov (.tmp 3))⟩, ⟨(some 5), none, (.mov (.tmp 0))⟩, ⟨(some 6), none, (.len (.tmp 5))⟩, ⟨(some 7), none, (.cmpb .lss (.tmp 4) (.tmp 6))⟩, ⟨(some 8), none, (.mov (.tmp 7))⟩, ⟨(some 9), (some (8, true)), (.mov (.tmp 3))⟩, ⟨(some 10), (some (8, true)), (.cmpb .leq (.tmp 9) (.const (.int .i64 64)))⟩, ⟨(some 11), none, (.pur ⟨(some 11), (.pick (.tmp 8) (.tmp 10) (.const (.bool false))), 4, "", (List.toArray []), none⟩)⟩])
  (.cond (.tmp 11) .skip
  (.exit 0)))
  (.seq (.block 1 (.seq (.reg [⟨(some 14), none, (.mov (.tmp 0))⟩, ⟨(some 15), none, (.mov (.tmp 3))⟩, ⟨(some 16), none, (.idx (.tmp 14) (.tmp 15) 4)⟩, ⟨(some 17), none, (.addo (.tmp 16) 0)⟩, ⟨(some 18), none, (.lda (.tmp 17) 2)⟩, ⟨(some 19), none, (.call ⟨(.value (.func 36)), (List.toArray [(.tmp 18), (.const (.int .i64 1048576))]), (List.toArray [47, 3])⟩ true)⟩, ⟨(some 20), none, (.pur ⟨(some 20), (.unOp .not 4 (.tmp 19)), 4, "", (List.toArray []), none⟩)⟩, ⟨(some 21), none, (.mov (.tmp 20))⟩, ⟨(some 22), (some (21, false)), (.mov (.tmp 0))⟩, ⟨(some 23), (some (21, false)), (.mov (.tmp 3))⟩, ⟨(some 24), (some (21, false)), (.idx (.tmp 22) (.tmp 23) 4)⟩, ⟨(some 25), (some (21, false)), (.addo (.tmp 24) 2)⟩, ⟨(some 26), (some (21, false)), (.lda (.tmp 25) 2)⟩, ⟨(some 27), (some (21, false)), (.call ⟨(.value (.func 36)), (List.toArray [(.tmp 26), (.const (.int .i64 1440))]), (List.toArray [47, 3])⟩ true)⟩, ⟨(some 28), (some (21, false)), (.pur ⟨(some 28), (.unOp .not 4 (.tmp 27)), 4, "", (List.toArray []), none⟩)⟩, ⟨(some 29), none, (.pur ⟨(some 29), (.pick (.tmp 21) (.const (.bool true)) (.tmp 28)), 4, "", (List.toArray []), none⟩)⟩])
  (.cond (.tmp 29) (.seq (.reg [⟨(some 2), none, (.mov (.const (.bool false)))⟩])
  .ret)
  .skip)))
  (.reg [⟨(some 12), none, (.mov (.tmp 3))⟩, ⟨(some 13), none, (.ari .add (.tmp 12) (.const (.int .i64 1)))⟩, ⟨(some 3), none, (.mov (.tmp 13))⟩])))
theorem L21x1 : low Try.prog Try.f21.ntmps (at_ Try.f21 [1, 0, 1, 0, 0]) = some R21x1 := by kernel_rfl
theorem N22 : Try.f22.ntmps = 15 := by kernel_rfl
theorem Z22 : Try.f22.results.toList = ((List.toArray [(.tmp 4)]) : Array ResultVar).toList := by kernel_rfl
theorem B22 : Try.f22.body = some (at_ Try.f22 []) := by kernel_rfl
noncomputable def R22 : RC := (.seq (.reg [⟨(some 2), none, (.box 47 (.tmp 0))⟩, ⟨(some 4), none, (.mov (.const (.bool false)))⟩])
  (.seq (.reg [⟨(some 5), none, (.addo (.tmp 2) 0)⟩, ⟨(some 6), none, (.ld (.tmp 5) 1)⟩, ⟨(some 7), none, (.mov (.tmp 1))⟩, ⟨(some 8), none, (.cmpb .leq (.tmp 6) (.tmp 7))⟩, ⟨(some 9), none, (.mov (.tmp 8))⟩, ⟨(some 10), (some (9, true)), (.mov (.tmp 1))⟩, ⟨(some 11), (some (9, true)), (.addo (.tmp 2) 1)⟩, ⟨(some 12), (some (9, true)), (.ld (.tmp 11) 1)⟩, ⟨(some 13), (some (9, true)), (.cmpb .leq (.tmp 10) (.tmp 12))⟩, ⟨(some 14), none, (.pur ⟨(some 14), (.pick (.tmp 9) (.tmp 13) (.const (.bool false))), 4, "", (List.toArray []), none⟩)⟩, ⟨(some 4), none, (.mov (.tmp 14))⟩])
  .ret))
theorem L22 : low Try.prog Try.f22.ntmps (at_ Try.f22 []) = some R22 := by kernel_rfl
theorem N43 : Try.f43.ntmps = 8 := by kernel_rfl
theorem Z43 : Try.f43.results.toList = ((List.toArray [(.cell 4 47)]) : Array ResultVar).toList := by kernel_rfl
theorem B43 : Try.f43.body = some (at_ Try.f43 []) := by kernel_rfl
noncomputable def R43 : RC := (.seq (.reg [⟨(some 4), none, (.alc 47 [(.int .i64 0), (.int .i64 0)])⟩])
  (.seq (.reg [⟨(some 5), none, (.mov (.tmp 0))⟩, ⟨(some 6), none, (.mov (.tmp 1))⟩, ⟨(some 7), none, (.pur ⟨(some 7), (.build 47 (List.toArray [(0, (.tmp 5)), (1, (.tmp 6))])), 47, "", (List.toArray []), none⟩)⟩, ⟨none, none, (.sta (.tmp 4) (.tmp 7) 2)⟩])
  .ret))
theorem L43 : low Try.prog Try.f43.ntmps (at_ Try.f43 []) = some R43 := by kernel_rfl
theorem N41 : Try.f41.ntmps = 5 := by kernel_rfl
theorem Z41 : Try.f41.results.toList = ((List.toArray [(.tmp 2)]) : Array ResultVar).toList := by kernel_rfl
theorem B41 : Try.f41.body = some (at_ Try.f41 []) := by kernel_rfl
noncomputable def R41 : RC := (.seq (.reg [⟨(some 1), none, (.box 47 (.tmp 0))⟩, ⟨(some 2), none, (.mov (.const (.int .i64 0)))⟩])
  (.seq (.reg [⟨(some 3), none, (.addo (.tmp 1) 0)⟩, ⟨(some 4), none, (.ld (.tmp 3) 1)⟩, ⟨(some 2), none, (.mov (.tmp 4))⟩])
  .ret))
theorem L41 : low Try.prog Try.f41.ntmps (at_ Try.f41 []) = some R41 := by kernel_rfl
theorem N42 : Try.f42.ntmps = 5 := by kernel_rfl
theorem Z42 : Try.f42.results.toList = ((List.toArray [(.tmp 2)]) : Array ResultVar).toList := by kernel_rfl
theorem B42 : Try.f42.body = some (at_ Try.f42 []) := by kernel_rfl
noncomputable def R42 : RC := (.seq (.reg [⟨(some 1), none, (.box 47 (.tmp 0))⟩, ⟨(some 2), none, (.mov (.const (.int .i64 0)))⟩])
  (.seq (.reg [⟨(some 3), none, (.addo (.tmp 1) 1)⟩, ⟨(some 4), none, (.ld (.tmp 3) 1)⟩, ⟨(some 2), none, (.mov (.tmp 4))⟩])
  .ret))
theorem L42 : low Try.prog Try.f42.ntmps (at_ Try.f42 []) = some R42 := by kernel_rfl
end Go.Ax

/-
  Station: contracts of what tells whether trucks, slips and berries are valid (written by program).
-/
namespace Go.Ax
open Go Go.RowKit Go.Proofs

section
variable {kn : FuncId → Option Bool} {lo : Nat} {H : Hp}
theorem isw_ok {n m : Int} : ∃ H', FnX Try.prog kn lo 30 [iv n, iv m] H (.bool (isw n m)) H' ∧ Keep H H' [] := by
  have key := fnX_low (kn := kn) (lo := lo) (H := H) (args := [iv n, iv m]) (Q := fun w H' => w = .bool (isw n m) ∧ Keep H H' []) Try.func30 B30 N30 Z30 L30 (by simp) ?_
  · obtain ⟨w, H', h, rfl, q⟩ := key; exact ⟨H', h, q⟩
  repeat' first
    | (intro t ht; cases t)
    | exact And.intro trivial (Exists.intro _ (And.intro rfl ⟨by simp_all [retV, isw] <;> (intros; omega), Keep.refl _ _⟩))
    | refine And.intro rfl (Exists.intro _ (And.intro rfl ?_))
theorem spW_ok {a b m : Int} : ∃ H', FnX Try.prog kn lo 57 [spv a b, iv m] H (.bool (spW a b m)) H' ∧ Keep H H' [] := by
  have key := fnX_low (kn := kn) (lo := lo) (H := H) (args := [spv a b, iv m]) (Q := fun w H' => w = .bool (spW a b m) ∧ Keep H H' []) Try.func57 B57 N57 Z57 L57 (by simp) ?_
  · obtain ⟨w, H', h, rfl, q⟩ := key; exact ⟨H', h, q⟩
  have hk := Keep.refl H []
  refine wN_seq ?_
  refine wN_box (v := .agg #[iv a, iv b]) rfl ?_
  intro H1 kH1 nH1 c1
  have c1 : Cl H1 H.next [iv a, iv b] := c1
  have mH1 := kH1.1
  have hk := hk.trans kH1
  refine wN_mov (v := .bool false) rfl ?_
  refine wN_end ?_
  refine wN_seq ?_
  refine wN_addo (b := H.next) (o := 0) rfl ?_
  refine wN_ld (b := H.next) (o := 0) (v := iv a) rfl c1.rd rfl ?_
  refine wN_b_leq (a := 0) (b := a) rfl rfl ?_
  intro t1 g1; cases t1
  · have g1 : ¬ (0 ≤ a) := of_decide_eq_false g1
    refine wN_mov (v := .bool false) rfl ?_
    refine wN_gs rfl ?_
    refine wN_gs rfl ?_
    refine wN_gs rfl ?_
    refine wN_gs rfl ?_
    refine wN_gs rfl ?_
    refine wN_pur (v := .bool false) rfl rfl ?_
    refine wN_mov (v := .bool false) rfl ?_
    refine wN_gs rfl ?_
    refine wN_gs rfl ?_
    refine wN_gs rfl ?_
    refine wN_gs rfl ?_
    refine wN_pur (v := .bool false) rfl rfl ?_
    refine wN_mov (v := .bool false) rfl ?_
    refine wN_end ?_
    exact And.intro trivial (Exists.intro _ (And.intro rfl ⟨congrArg Value.bool (show false = (spW a b m) from (by symm; first | (simp only [spW, Bool.and_eq_true, Bool.and_eq_false_iff, Bool.or_eq_true, Bool.or_eq_false_iff, Bool.not_eq_true', Bool.not_eq_false', decide_eq_true_eq, decide_eq_false_iff_not]; omega) | (simp [spW] <;> omega))), hk⟩))
  · have g1 : 0 ≤ a := of_decide_eq_true g1
    refine wN_mov (v := .bool true) rfl ?_
    refine wN_g rfl (wN_addo (b := H.next) (o := 0) rfl ?_)
    refine wN_g rfl (wN_ld (b := H.next) (o := 0) (v := iv a) rfl c1.rd rfl ?_)
    refine wN_g rfl (wN_addo (b := H.next) (o := 0) rfl ?_)
    refine wN_g rfl (wN_ld (b := H.next) (o := 1) (v := iv b) rfl c1.rd rfl ?_)
    refine wN_g rfl (wN_b_leq (a := a) (b := b) rfl rfl ?_)
    intro t2 g2; cases t2
    · have g2 : ¬ (a ≤ b) := of_decide_eq_false g2
      refine wN_pur (v := .bool false) rfl rfl ?_
      refine wN_mov (v := .bool false) rfl ?_
      refine wN_gs rfl ?_
      refine wN_gs rfl ?_
      refine wN_gs rfl ?_
      refine wN_gs rfl ?_
      refine wN_pur (v := .bool false) rfl rfl ?_
      refine wN_mov (v := .bool false) rfl ?_
      refine wN_end ?_
      exact And.intro trivial (Exists.intro _ (And.intro rfl ⟨congrArg Value.bool (show false = (spW a b m) from (by symm; first | (simp only [spW, Bool.and_eq_true, Bool.and_eq_false_iff, Bool.or_eq_true, Bool.or_eq_false_iff, Bool.not_eq_true', Bool.not_eq_false', decide_eq_true_eq, decide_eq_false_iff_not]; omega) | (simp [spW] <;> omega))), hk⟩))
    · have g2 : a ≤ b := of_decide_eq_true g2
      refine wN_pur (v := .bool true) rfl rfl ?_
      refine wN_mov (v := .bool true) rfl ?_
      refine wN_g rfl (wN_addo (b := H.next) (o := 0) rfl ?_)
      refine wN_g rfl (wN_ld (b := H.next) (o := 1) (v := iv b) rfl c1.rd rfl ?_)
      refine wN_g rfl (wN_mov (v := iv m) rfl ?_)
      refine wN_g rfl (wN_b_leq (a := b) (b := m) rfl rfl ?_)
      intro t3 g3; cases t3
      · have g3 : ¬ (b ≤ m) := of_decide_eq_false g3
        refine wN_pur (v := .bool false) rfl rfl ?_
        refine wN_mov (v := .bool false) rfl ?_
        refine wN_end ?_
        exact And.intro trivial (Exists.intro _ (And.intro rfl ⟨congrArg Value.bool (show false = (spW a b m) from (by symm; first | (simp only [spW, Bool.and_eq_true, Bool.and_eq_false_iff, Bool.or_eq_true, Bool.or_eq_false_iff, Bool.not_eq_true', Bool.not_eq_false', decide_eq_true_eq, decide_eq_false_iff_not]; omega) | (simp [spW] <;> omega))), hk⟩))
      · have g3 : b ≤ m := of_decide_eq_true g3
        refine wN_pur (v := .bool true) rfl rfl ?_
        refine wN_mov (v := .bool true) rfl ?_
        refine wN_end ?_
        exact And.intro trivial (Exists.intro _ (And.intro rfl ⟨congrArg Value.bool (show true = (spW a b m) from (by symm; first | (simp only [spW, Bool.and_eq_true, Bool.and_eq_false_iff, Bool.or_eq_true, Bool.or_eq_false_iff, Bool.not_eq_true', Bool.not_eq_false', decide_eq_true_eq, decide_eq_false_iff_not]; omega) | (simp [spW] <;> omega))), hk⟩))
theorem spW36_ok {a b m : Int} : ∃ H', FnX Try.prog kn lo 36 [spv a b, iv m] H (.bool (spW a b m)) H' ∧ Keep H H' [] := by
  have key := fnX_low (kn := kn) (lo := lo) (H := H) (args := [spv a b, iv m]) (Q := fun w H' => w = .bool (spW a b m) ∧ Keep H H' []) Try.func36 B36 N36 Z36 L36 (by simp) ?_
  · obtain ⟨w, H', h, rfl, q⟩ := key; exact ⟨H', h, q⟩
  have hk := Keep.refl H []
  refine wN_seq ?_
  refine wN_box (v := .agg #[iv a, iv b]) rfl ?_
  intro H1 kH1 nH1 c1
  have c1 : Cl H1 H.next [iv a, iv b] := c1
  have mH1 := kH1.1
  have hk := hk.trans kH1
  refine wN_mov (v := .bool false) rfl ?_
  refine wN_end ?_
  refine wN_seq ?_
  refine wN_addo (b := H.next) (o := 0) rfl ?_
  refine wN_ld (b := H.next) (o := 0) (v := iv a) rfl c1.rd rfl ?_
  refine wN_b_geq (a := a) (b := 0) rfl rfl ?_
  intro t1 g1; cases t1
  · have g1 : ¬ (a ≥ 0) := of_decide_eq_false g1
    refine wN_mov (v := .bool false) rfl ?_
    refine wN_gs rfl ?_
    refine wN_gs rfl ?_
    refine wN_gs rfl ?_
    refine wN_gs rfl ?_
    refine wN_gs rfl ?_
    refine wN_pur (v := .bool false) rfl rfl ?_
    refine wN_mov (v := .bool false) rfl ?_
    refine wN_gs rfl ?_
    refine wN_gs rfl ?_
    refine wN_gs rfl ?_
    refine wN_gs rfl ?_
    refine wN_pur (v := .bool false) rfl rfl ?_
    refine wN_mov (v := .bool false) rfl ?_
    refine wN_end ?_
    exact And.intro trivial (Exists.intro _ (And.intro rfl ⟨congrArg Value.bool (show false = (spW a b m) from (by symm; first | (simp only [spW, Bool.and_eq_true, Bool.and_eq_false_iff, Bool.or_eq_true, Bool.or_eq_false_iff, Bool.not_eq_true', Bool.not_eq_false', decide_eq_true_eq, decide_eq_false_iff_not]; omega) | (simp [spW] <;> omega))), hk⟩))
  · have g1 : a ≥ 0 := of_decide_eq_true g1
    refine wN_mov (v := .bool true) rfl ?_
    refine wN_g rfl (wN_addo (b := H.next) (o := 0) rfl ?_)
    refine wN_g rfl (wN_ld (b := H.next) (o := 0) (v := iv a) rfl c1.rd rfl ?_)
    refine wN_g rfl (wN_addo (b := H.next) (o := 0) rfl ?_)
    refine wN_g rfl (wN_ld (b := H.next) (o := 1) (v := iv b) rfl c1.rd rfl ?_)
    refine wN_g rfl (wN_b_leq (a := a) (b := b) rfl rfl ?_)
    intro t2 g2; cases t2
    · have g2 : ¬ (a ≤ b) := of_decide_eq_false g2
      refine wN_pur (v := .bool false) rfl rfl ?_
      refine wN_mov (v := .bool false) rfl ?_
      refine wN_gs rfl ?_
      refine wN_gs rfl ?_
      refine wN_gs rfl ?_
      refine wN_gs rfl ?_
      refine wN_pur (v := .bool false) rfl rfl ?_
      refine wN_mov (v := .bool false) rfl ?_
      refine wN_end ?_
      exact And.intro trivial (Exists.intro _ (And.intro rfl ⟨congrArg Value.bool (show false = (spW a b m) from (by symm; first | (simp only [spW, Bool.and_eq_true, Bool.and_eq_false_iff, Bool.or_eq_true, Bool.or_eq_false_iff, Bool.not_eq_true', Bool.not_eq_false', decide_eq_true_eq, decide_eq_false_iff_not]; omega) | (simp [spW] <;> omega))), hk⟩))
    · have g2 : a ≤ b := of_decide_eq_true g2
      refine wN_pur (v := .bool true) rfl rfl ?_
      refine wN_mov (v := .bool true) rfl ?_
      refine wN_g rfl (wN_addo (b := H.next) (o := 0) rfl ?_)
      refine wN_g rfl (wN_ld (b := H.next) (o := 1) (v := iv b) rfl c1.rd rfl ?_)
      refine wN_g rfl (wN_mov (v := iv m) rfl ?_)
      refine wN_g rfl (wN_b_leq (a := b) (b := m) rfl rfl ?_)
      intro t3 g3; cases t3
      · have g3 : ¬ (b ≤ m) := of_decide_eq_false g3
        refine wN_pur (v := .bool false) rfl rfl ?_
        refine wN_mov (v := .bool false) rfl ?_
        refine wN_end ?_
        exact And.intro trivial (Exists.intro _ (And.intro rfl ⟨congrArg Value.bool (show false = (spW a b m) from (by symm; first | (simp only [spW, Bool.and_eq_true, Bool.and_eq_false_iff, Bool.or_eq_true, Bool.or_eq_false_iff, Bool.not_eq_true', Bool.not_eq_false', decide_eq_true_eq, decide_eq_false_iff_not]; omega) | (simp [spW] <;> omega))), hk⟩))
      · have g3 : b ≤ m := of_decide_eq_true g3
        refine wN_pur (v := .bool true) rfl rfl ?_
        refine wN_mov (v := .bool true) rfl ?_
        refine wN_end ?_
        exact And.intro trivial (Exists.intro _ (And.intro rfl ⟨congrArg Value.bool (show true = (spW a b m) from (by symm; first | (simp only [spW, Bool.and_eq_true, Bool.and_eq_false_iff, Bool.or_eq_true, Bool.or_eq_false_iff, Bool.not_eq_true', Bool.not_eq_false', decide_eq_true_eq, decide_eq_false_iff_not]; omega) | (simp [spW] <;> omega))), hk⟩))
theorem has_ok {a b m : Int} : ∃ H', FnX Try.prog kn lo 22 [spv a b, iv m] H (.bool (inB m a b)) H' ∧ Keep H H' [] := by
  have key := fnX_low (kn := kn) (lo := lo) (H := H) (args := [spv a b, iv m]) (Q := fun w H' => w = .bool (inB m a b) ∧ Keep H H' []) Try.func22 B22 N22 Z22 L22 (by simp) ?_
  · obtain ⟨w, H', h, rfl, q⟩ := key; exact ⟨H', h, q⟩
  have hk := Keep.refl H []
  refine wN_seq ?_
  refine wN_box (v := .agg #[iv a, iv b]) rfl ?_
  intro H1 kH1 nH1 c1
  have c1 : Cl H1 H.next [iv a, iv b] := c1
  have mH1 := kH1.1
  have hk := hk.trans kH1
  refine wN_mov (v := .bool false) rfl ?_
  refine wN_end ?_
  refine wN_seq ?_
  refine wN_addo (b := H.next) (o := 0) rfl ?_
  refine wN_ld (b := H.next) (o := 0) (v := iv a) rfl c1.rd rfl ?_
  refine wN_mov (v := iv m) rfl ?_
  refine wN_b_leq (a := a) (b := m) rfl rfl ?_
  intro t1 g1; cases t1
  · have g1 : ¬ (a ≤ m) := of_decide_eq_false g1
    refine wN_mov (v := .bool false) rfl ?_
    refine wN_gs rfl ?_
    refine wN_gs rfl ?_
    refine wN_gs rfl ?_
    refine wN_gs rfl ?_
    refine wN_pur (v := .bool false) rfl rfl ?_
    refine wN_mov (v := .bool false) rfl ?_
    refine wN_end ?_
    exact And.intro trivial (Exists.intro _ (And.intro rfl ⟨congrArg Value.bool (show false = (inB m a b) from (by symm; first | (simp only [inB, Bool.and_eq_true, Bool.and_eq_false_iff, Bool.or_eq_true, Bool.or_eq_false_iff, Bool.not_eq_true', Bool.not_eq_false', decide_eq_true_eq, decide_eq_false_iff_not]; omega) | (simp [inB] <;> omega))), hk⟩))
  · have g1 : a ≤ m := of_decide_eq_true g1
    refine wN_mov (v := .bool true) rfl ?_
    refine wN_g rfl (wN_mov (v := iv m) rfl ?_)
    refine wN_g rfl (wN_addo (b := H.next) (o := 0) rfl ?_)
    refine wN_g rfl (wN_ld (b := H.next) (o := 1) (v := iv b) rfl c1.rd rfl ?_)
    refine wN_g rfl (wN_b_leq (a := m) (b := b) rfl rfl ?_)
    intro t2 g2; cases t2
    · have g2 : ¬ (m ≤ b) := of_decide_eq_false g2
      refine wN_pur (v := .bool false) rfl rfl ?_
      refine wN_mov (v := .bool false) rfl ?_
      refine wN_end ?_
      exact And.intro trivial (Exists.intro _ (And.intro rfl ⟨congrArg Value.bool (show false = (inB m a b) from (by symm; first | (simp only [inB, Bool.and_eq_true, Bool.and_eq_false_iff, Bool.or_eq_true, Bool.or_eq_false_iff, Bool.not_eq_true', Bool.not_eq_false', decide_eq_true_eq, decide_eq_false_iff_not]; omega) | (simp [inB] <;> omega))), hk⟩))
    · have g2 : m ≤ b := of_decide_eq_true g2
      refine wN_pur (v := .bool true) rfl rfl ?_
      refine wN_mov (v := .bool true) rfl ?_
      refine wN_end ?_
      exact And.intro trivial (Exists.intro _ (And.intro rfl ⟨congrArg Value.bool (show true = (inB m a b) from (by symm; first | (simp only [inB, Bool.and_eq_true, Bool.and_eq_false_iff, Bool.or_eq_true, Bool.or_eq_false_iff, Bool.not_eq_true', Bool.not_eq_false', decide_eq_true_eq, decide_eq_false_iff_not]; omega) | (simp [inB] <;> omega))), hk⟩))
/-- isBadTruck -/
theorem bad39_ok {x : Tk} : ∃ H', FnX Try.prog kn lo 39 [.agg x.f.toArray] H (.bool (!x.ok)) H' ∧ Keep H H' [] := by
  have key := fnX_low (kn := kn) (lo := lo) (H := H) (args := [.agg x.f.toArray]) (Q := fun w H' => w = .bool (!x.ok) ∧ Keep H H' []) Try.func39 B39 N39 Z39 L39 (by simp) ?_
  · obtain ⟨w, H', h, rfl, q⟩ := key; exact ⟨H', h, q⟩
  have hk := Keep.refl H []
  refine wN_seq ?_
  refine wN_box (v := .agg #[iv x.a1, iv x.a2, iv x.w1, iv x.w2]) rfl ?_
  intro H1 kH1 nH1 c1
  have c1 : Cl H1 H.next [iv x.a1, iv x.a2, iv x.w1, iv x.w2] := c1
  have mH1 := kH1.1
  have hk := hk.trans kH1
  refine wN_mov (v := .bool false) rfl ?_
  refine wN_end ?_
  refine wN_seq ?_
  refine wN_addo (b := H.next) (o := 0) rfl ?_
  refine wN_lda (b := H.next) (o := 0) rfl c1.rd (show row 2 _ _ = some [iv x.a1, iv x.a2] from rfl) ?_
  refine wN_callB rfl (spW_ok) ?_
  intro tH2 H2 hH2 kH2
  have mH2 := kH2.1
  have hk := hk.trans kH2
  have c1 := kH2.cl c1 (by simp)
  cases tH2
  · have fhH2 := spW_f hH2
    refine wN_pur (v := .bool true) rfl rfl ?_
    refine wN_mov (v := .bool true) rfl ?_
    refine wN_gs rfl ?_
    refine wN_gs rfl ?_
    refine wN_gs rfl ?_
    refine wN_gs rfl ?_
    refine wN_pur (v := .bool true) rfl rfl ?_
    refine wN_mov (v := .bool true) rfl ?_
    refine wN_end ?_
    exact And.intro trivial (Exists.intro _ (And.intro rfl ⟨congrArg Value.bool (show true = (!x.ok) from (by symm; first | (simp only [Tk.ok, spW, Bool.and_eq_true, Bool.and_eq_false_iff, Bool.or_eq_true, Bool.or_eq_false_iff, Bool.not_eq_true', Bool.not_eq_false', decide_eq_true_eq, decide_eq_false_iff_not]; omega) | (simp [Tk.ok, spW] <;> omega))), hk⟩))
  · have fhH2 := spW_t hH2
    refine wN_pur (v := .bool false) rfl rfl ?_
    refine wN_mov (v := .bool false) rfl ?_
    refine wN_g rfl (wN_addo (b := H.next) (o := 0) rfl ?_)
    refine wN_g rfl (wN_lda (b := H.next) (o := 2) rfl c1.rd (show row 2 _ _ = some [iv x.w1, iv x.w2] from rfl) ?_)
    refine wN_g rfl (wN_callB rfl (spW_ok) ?_)
    intro tH3 H3 hH3 kH3
    have mH3 := kH3.1
    have hk := hk.trans kH3
    have c1 := kH3.cl c1 (by simp)
    cases tH3
    · have fhH3 := spW_f hH3
      refine wN_g rfl (wN_pur (v := .bool true) rfl rfl ?_)
      refine wN_pur (v := .bool true) rfl rfl ?_
      refine wN_mov (v := .bool true) rfl ?_
      refine wN_end ?_
      exact And.intro trivial (Exists.intro _ (And.intro rfl ⟨congrArg Value.bool (show true = (!x.ok) from (by symm; first | (simp only [Tk.ok, spW, Bool.and_eq_true, Bool.and_eq_false_iff, Bool.or_eq_true, Bool.or_eq_false_iff, Bool.not_eq_true', Bool.not_eq_false', decide_eq_true_eq, decide_eq_false_iff_not]; omega) | (simp [Tk.ok, spW] <;> omega))), hk⟩))
    · have fhH3 := spW_t hH3
      refine wN_g rfl (wN_pur (v := .bool false) rfl rfl ?_)
      refine wN_pur (v := .bool false) rfl rfl ?_
      refine wN_mov (v := .bool false) rfl ?_
      refine wN_end ?_
      exact And.intro trivial (Exists.intro _ (And.intro rfl ⟨congrArg Value.bool (show false = (!x.ok) from (by symm; first | (simp only [Tk.ok, spW, Bool.and_eq_true, Bool.and_eq_false_iff, Bool.or_eq_true, Bool.or_eq_false_iff, Bool.not_eq_true', Bool.not_eq_false', decide_eq_true_eq, decide_eq_false_iff_not]; omega) | (simp [Tk.ok, spW] <;> omega))), hk⟩))
/-- isBadSample -/
theorem bad46_ok {x : Sm} : ∃ H', FnX Try.prog kn lo 46 [.agg x.f.toArray] H (.bool (!x.ok)) H' ∧ Keep H H' [] := by
  have key := fnX_low (kn := kn) (lo := lo) (H := H) (args := [.agg x.f.toArray]) (Q := fun w H' => w = .bool (!x.ok) ∧ Keep H H' []) Try.func46 B46 N46 Z46 L46 (by simp) ?_
  · obtain ⟨w, H', h, rfl, q⟩ := key; exact ⟨H', h, q⟩
  have hk := Keep.refl H []
  refine wN_seq ?_
  refine wN_box (v := .agg #[iv x.w, iv x.t, iv x.r, iv x.c, iv x.m]) rfl ?_
  intro H1 kH1 nH1 c1
  have c1 : Cl H1 H.next [iv x.w, iv x.t, iv x.r, iv x.c, iv x.m] := c1
  have mH1 := kH1.1
  have hk := hk.trans kH1
  refine wN_mov (v := .bool false) rfl ?_
  refine wN_end ?_
  refine wN_seq ?_
  refine wN_addo (b := H.next) (o := 0) rfl ?_
  refine wN_ld (b := H.next) (o := 0) (v := iv x.w) rfl c1.rd rfl ?_
  refine wN_b_lss (a := x.w) (b := 1) rfl rfl ?_
  intro t1 g1; cases t1
  · have g1 : ¬ (x.w < 1) := of_decide_eq_false g1
    refine wN_mov (v := .bool false) rfl ?_
    refine wN_g rfl (wN_addo (b := H.next) (o := 0) rfl ?_)
    refine wN_g rfl (wN_ld (b := H.next) (o := 0) (v := iv x.w) rfl c1.rd rfl ?_)
    refine wN_g rfl (wN_b_gtr (a := x.w) (b := 1048576) rfl rfl ?_)
    intro t2 g2; cases t2
    · have g2 : ¬ (x.w > 1048576) := of_decide_eq_false g2
      refine wN_pur (v := .bool false) rfl rfl ?_
      refine wN_mov (v := .bool false) rfl ?_
      refine wN_g rfl (wN_addo (b := H.next) (o := 0) rfl ?_)
      refine wN_g rfl (wN_ld (b := H.next) (o := 1) (v := iv x.t) rfl c1.rd rfl ?_)
      refine wN_g rfl (wN_addo (b := H.next) (o := 0) rfl ?_)
      refine wN_g rfl (wN_ld (b := H.next) (o := 0) (v := iv x.w) rfl c1.rd rfl ?_)
      refine wN_g rfl (wN_callB rfl (isw_ok) ?_)
      intro tH2 H2 hH2 kH2
      have mH2 := kH2.1
      have hk := hk.trans kH2
      have c1 := kH2.cl c1 (by simp)
      cases tH2
      · have fhH2 := isw_f hH2
        refine wN_g rfl (wN_pur (v := .bool true) rfl rfl ?_)
        refine wN_pur (v := .bool true) rfl rfl ?_
        refine wN_mov (v := .bool true) rfl ?_
        refine wN_gs rfl ?_
        refine wN_gs rfl ?_
        refine wN_gs rfl ?_
        refine wN_gs rfl ?_
        refine wN_gs rfl ?_
        refine wN_gs rfl ?_
        refine wN_gs rfl ?_
        refine wN_gs rfl ?_
        refine wN_gs rfl ?_
        refine wN_pur (v := .bool true) rfl rfl ?_
        refine wN_end ?_
        refine condT ?_
        refine wN_seq ?_
        refine wN_mov (v := .bool true) rfl ?_
        refine wN_end ?_
        exact And.intro trivial (Exists.intro _ (And.intro rfl ⟨congrArg Value.bool (show true = (!x.ok) from (by symm; first | (simp only [Sm.ok, inB, isw, Bool.and_eq_true, Bool.and_eq_false_iff, Bool.or_eq_true, Bool.or_eq_false_iff, Bool.not_eq_true', Bool.not_eq_false', decide_eq_true_eq, decide_eq_false_iff_not]; omega) | (simp [Sm.ok, inB, isw] <;> omega))), hk⟩))
      · have fhH2 := isw_t hH2
        refine wN_g rfl (wN_pur (v := .bool false) rfl rfl ?_)
        refine wN_pur (v := .bool false) rfl rfl ?_
        refine wN_mov (v := .bool false) rfl ?_
        refine wN_g rfl (wN_addo (b := H.next) (o := 0) rfl ?_)
        refine wN_g rfl (wN_ld (b := H.next) (o := 2) (v := iv x.r) rfl c1.rd rfl ?_)
        refine wN_g rfl (wN_addo (b := H.next) (o := 0) rfl ?_)
        refine wN_g rfl (wN_ld (b := H.next) (o := 0) (v := iv x.w) rfl c1.rd rfl ?_)
        refine wN_g rfl (wN_addo (b := H.next) (o := 0) rfl ?_)
        refine wN_g rfl (wN_ld (b := H.next) (o := 1) (v := iv x.t) rfl c1.rd rfl ?_)
        refine wN_g rfl (wN_sub (a := x.w) (b := x.t) rfl rfl ⟨by omega, by omega⟩ ?_)
        refine wN_g rfl (wN_callB rfl (isw_ok) ?_)
        intro tH3 H3 hH3 kH3
        have mH3 := kH3.1
        have hk := hk.trans kH3
        have c1 := kH3.cl c1 (by simp)
        cases tH3
        · have fhH3 := isw_f hH3
          refine wN_g rfl (wN_pur (v := .bool true) rfl rfl ?_)
          refine wN_pur (v := .bool true) rfl rfl ?_
          refine wN_end ?_
          refine condT ?_
          refine wN_seq ?_
          refine wN_mov (v := .bool true) rfl ?_
          refine wN_end ?_
          exact And.intro trivial (Exists.intro _ (And.intro rfl ⟨congrArg Value.bool (show true = (!x.ok) from (by symm; first | (simp only [Sm.ok, inB, isw, Bool.and_eq_true, Bool.and_eq_false_iff, Bool.or_eq_true, Bool.or_eq_false_iff, Bool.not_eq_true', Bool.not_eq_false', decide_eq_true_eq, decide_eq_false_iff_not]; omega) | (simp [Sm.ok, inB, isw] <;> omega))), hk⟩))
        · have fhH3 := isw_t hH3
          refine wN_g rfl (wN_pur (v := .bool false) rfl rfl ?_)
          refine wN_pur (v := .bool false) rfl rfl ?_
          refine wN_end ?_
          refine condF ?_
          first | refine wN_skip ?_ | skip
          refine wN_seq ?_
          refine wN_addo (b := H.next) (o := 0) rfl ?_
          refine wN_ld (b := H.next) (o := 3) (v := iv x.c) rfl c1.rd rfl ?_
          refine wN_callB rfl (isw_ok) ?_
          intro tH4 H4 hH4 kH4
          have mH4 := kH4.1
          have hk := hk.trans kH4
          have c1 := kH4.cl c1 (by simp)
          cases tH4
          · have fhH4 := isw_f hH4
            refine wN_pur (v := .bool true) rfl rfl ?_
            refine wN_mov (v := .bool true) rfl ?_
            refine wN_gs rfl ?_
            refine wN_gs rfl ?_
            refine wN_gs rfl ?_
            refine wN_gs rfl ?_
            refine wN_pur (v := .bool true) rfl rfl ?_
            refine wN_mov (v := .bool true) rfl ?_
            refine wN_end ?_
            exact And.intro trivial (Exists.intro _ (And.intro rfl ⟨congrArg Value.bool (show true = (!x.ok) from (by symm; first | (simp only [Sm.ok, inB, isw, Bool.and_eq_true, Bool.and_eq_false_iff, Bool.or_eq_true, Bool.or_eq_false_iff, Bool.not_eq_true', Bool.not_eq_false', decide_eq_true_eq, decide_eq_false_iff_not]; omega) | (simp [Sm.ok, inB, isw] <;> omega))), hk⟩))
          · have fhH4 := isw_t hH4
            refine wN_pur (v := .bool false) rfl rfl ?_
            refine wN_mov (v := .bool false) rfl ?_
            refine wN_g rfl (wN_addo (b := H.next) (o := 0) rfl ?_)
            refine wN_g rfl (wN_ld (b := H.next) (o := 4) (v := iv x.m) rfl c1.rd rfl ?_)
            refine wN_g rfl (wN_callB rfl (isw_ok) ?_)
            intro tH5 H5 hH5 kH5
            have mH5 := kH5.1
            have hk := hk.trans kH5
            have c1 := kH5.cl c1 (by simp)
            cases tH5
            · have fhH5 := isw_f hH5
              refine wN_g rfl (wN_pur (v := .bool true) rfl rfl ?_)
              refine wN_pur (v := .bool true) rfl rfl ?_
              refine wN_mov (v := .bool true) rfl ?_
              refine wN_end ?_
              exact And.intro trivial (Exists.intro _ (And.intro rfl ⟨congrArg Value.bool (show true = (!x.ok) from (by symm; first | (simp only [Sm.ok, inB, isw, Bool.and_eq_true, Bool.and_eq_false_iff, Bool.or_eq_true, Bool.or_eq_false_iff, Bool.not_eq_true', Bool.not_eq_false', decide_eq_true_eq, decide_eq_false_iff_not]; omega) | (simp [Sm.ok, inB, isw] <;> omega))), hk⟩))
            · have fhH5 := isw_t hH5
              refine wN_g rfl (wN_pur (v := .bool false) rfl rfl ?_)
              refine wN_pur (v := .bool false) rfl rfl ?_
              refine wN_mov (v := .bool false) rfl ?_
              refine wN_end ?_
              exact And.intro trivial (Exists.intro _ (And.intro rfl ⟨congrArg Value.bool (show false = (!x.ok) from (by symm; first | (simp only [Sm.ok, inB, isw, Bool.and_eq_true, Bool.and_eq_false_iff, Bool.or_eq_true, Bool.or_eq_false_iff, Bool.not_eq_true', Bool.not_eq_false', decide_eq_true_eq, decide_eq_false_iff_not]; omega) | (simp [Sm.ok, inB, isw] <;> omega))), hk⟩))
    · have g2 : x.w > 1048576 := of_decide_eq_true g2
      refine wN_pur (v := .bool true) rfl rfl ?_
      refine wN_mov (v := .bool true) rfl ?_
      refine wN_gs rfl ?_
      refine wN_gs rfl ?_
      refine wN_gs rfl ?_
      refine wN_gs rfl ?_
      refine wN_gs rfl ?_
      refine wN_gs rfl ?_
      refine wN_pur (v := .bool true) rfl rfl ?_
      refine wN_mov (v := .bool true) rfl ?_
      refine wN_gs rfl ?_
      refine wN_gs rfl ?_
      refine wN_gs rfl ?_
      refine wN_gs rfl ?_
      refine wN_gs rfl ?_
      refine wN_gs rfl ?_
      refine wN_gs rfl ?_
      refine wN_gs rfl ?_
      refine wN_gs rfl ?_
      refine wN_pur (v := .bool true) rfl rfl ?_
      refine wN_end ?_
      refine condT ?_
      refine wN_seq ?_
      refine wN_mov (v := .bool true) rfl ?_
      refine wN_end ?_
      exact And.intro trivial (Exists.intro _ (And.intro rfl ⟨congrArg Value.bool (show true = (!x.ok) from (by symm; first | (simp only [Sm.ok, inB, isw, Bool.and_eq_true, Bool.and_eq_false_iff, Bool.or_eq_true, Bool.or_eq_false_iff, Bool.not_eq_true', Bool.not_eq_false', decide_eq_true_eq, decide_eq_false_iff_not]; omega) | (simp [Sm.ok, inB, isw] <;> omega))), hk⟩))
  · have g1 : x.w < 1 := of_decide_eq_true g1
    refine wN_mov (v := .bool true) rfl ?_
    refine wN_gs rfl ?_
    refine wN_gs rfl ?_
    refine wN_gs rfl ?_
    refine wN_pur (v := .bool true) rfl rfl ?_
    refine wN_mov (v := .bool true) rfl ?_
    refine wN_gs rfl ?_
    refine wN_gs rfl ?_
    refine wN_gs rfl ?_
    refine wN_gs rfl ?_
    refine wN_gs rfl ?_
    refine wN_gs rfl ?_
    refine wN_pur (v := .bool true) rfl rfl ?_
    refine wN_mov (v := .bool true) rfl ?_
    refine wN_gs rfl ?_
    refine wN_gs rfl ?_
    refine wN_gs rfl ?_
    refine wN_gs rfl ?_
    refine wN_gs rfl ?_
    refine wN_gs rfl ?_
    refine wN_gs rfl ?_
    refine wN_gs rfl ?_
    refine wN_gs rfl ?_
    refine wN_pur (v := .bool true) rfl rfl ?_
    refine wN_end ?_
    refine condT ?_
    refine wN_seq ?_
    refine wN_mov (v := .bool true) rfl ?_
    refine wN_end ?_
    exact And.intro trivial (Exists.intro _ (And.intro rfl ⟨congrArg Value.bool (show true = (!x.ok) from (by symm; first | (simp only [Sm.ok, inB, isw, Bool.and_eq_true, Bool.and_eq_false_iff, Bool.or_eq_true, Bool.or_eq_false_iff, Bool.not_eq_true', Bool.not_eq_false', decide_eq_true_eq, decide_eq_false_iff_not]; omega) | (simp [Sm.ok, inB, isw] <;> omega))), hk⟩))
theorem bad63_ok {x : Int} : ∃ H', FnX Try.prog kn lo 63 [iv x] H (.bool (!(htOk x))) H' ∧ Keep H H' [] := by
  have key := fnX_low (kn := kn) (lo := lo) (H := H) (args := [iv x]) (Q := fun w H' => w = .bool (!(htOk x)) ∧ Keep H H' []) Try.func63 B63 N63 Z63 L63 (by simp) ?_
  · obtain ⟨w, H', h, rfl, q⟩ := key; exact ⟨H', h, q⟩
  have hk := Keep.refl H []
  refine wN_seq ?_
  refine wN_mov (v := .bool false) rfl ?_
  refine wN_end ?_
  refine wN_seq ?_
  refine wN_mov (v := iv x) rfl ?_
  refine wN_callB rfl (isw_ok) ?_
  intro tH1 H1 hH1 kH1
  have mH1 := kH1.1
  have hk := hk.trans kH1
  cases tH1
  · have fhH1 := isw_f hH1
    refine wN_pur (v := .bool true) rfl rfl ?_
    refine wN_mov (v := .bool true) rfl ?_
    refine wN_end ?_
    exact And.intro trivial (Exists.intro _ (And.intro rfl ⟨congrArg Value.bool (show true = (!(htOk x)) from (by symm; first | (simp only [htOk, isw, Bool.and_eq_true, Bool.and_eq_false_iff, Bool.or_eq_true, Bool.or_eq_false_iff, Bool.not_eq_true', Bool.not_eq_false', decide_eq_true_eq, decide_eq_false_iff_not]; omega) | (simp [htOk, isw] <;> omega))), hk⟩))
  · have fhH1 := isw_t hH1
    refine wN_pur (v := .bool false) rfl rfl ?_
    refine wN_mov (v := .bool false) rfl ?_
    refine wN_end ?_
    exact And.intro trivial (Exists.intro _ (And.intro rfl ⟨congrArg Value.bool (show false = (!(htOk x)) from (by symm; first | (simp only [htOk, isw, Bool.and_eq_true, Bool.and_eq_false_iff, Bool.or_eq_true, Bool.or_eq_false_iff, Bool.not_eq_true', Bool.not_eq_false', decide_eq_true_eq, decide_eq_false_iff_not]; omega) | (simp [htOk, isw] <;> omega))), hk⟩))
theorem index56_ok {sa : Option Addr} {n cap : Nat} {us : List Tk} (hs : Sl H sa n cap (tkc us)) (hn : us.length = n) (hn2 : n ≤ 1000000) :
    ∃ j H', FnX Try.prog kn lo 56 [.slice sa n cap, .func (.func 39) #[] #[]] H (iv j) H' ∧ decide (j ≥ 0) = !((us.take n).all (Tk.ok)) ∧ Keep H H' [] := by
  have key := fnX_low (kn := kn) (lo := lo) (H := H) (args := [.slice sa n cap, .func (.func 39) #[] #[]]) (Q := fun w H' => ∃ j, w = iv j ∧ decide (j ≥ 0) = !((us.take n).all (Tk.ok)) ∧ Keep H H' []) Try.func56 B56 N56 Z56 L56 (by simp) ?_
  · obtain ⟨v, H', h, j, rfl, q⟩ := key; exact ⟨j, H', h, q⟩
  have hk := Keep.refl H []
  refine loop_low (fn := Try.f56) E56_1 N56 L56x1 (fun i : Nat => [(0, .slice sa n cap), (1, .func (.func 39) #[] #[]), (7, iv (n : Int)), (8, iv (i : Int))])
    (fun k i H' => i + k = n ∧ Keep H H' [] ∧ (us.take i).all (Tk.ok) = true) n 0 ⟨by omega, Keep.refl _ _, rfl⟩ ⟨rfl, rfl, rfl, rfl, trivial⟩ ?_
  rintro k i L1 ⟨hik, hki, hall⟩
  have hk := hk.trans hki
  have hs := hki.sl0 hs
  have kb := hki
  refine And.intro (fun q1 => ?_) (fun q1 => ?_)
  · have q1 : (i : Int) < (n : Int) := of_decide_eq_true q1
    have hi : i < n := by omega
    obtain ⟨x, hx⟩ := get_some (l := us) (i := i) (by omega)
    rcases hs with ⟨_, h0, _⟩ | ⟨sb, rfl, hsd, _⟩
    · omega
    have hst := all_step (f := Tk.ok) hx
    refine Exists.intro i (And.intro rfl (And.intro hi ?_))
    refine Exists.intro _ (Exists.intro _ (And.intro hsd.of (And.intro (tkc_row hx) ?_)))
    obtain ⟨H1, fH1, kH1⟩ := bad39_ok (kn := kn) (lo := lo) (x := x)
    refine Exists.intro _ (Exists.intro _ (And.intro (callX_func rfl (by simpa using fH1)) ?_))
    have mH1 := kH1.1
    have hk := hk.trans kH1
    have kb := kb.trans kH1
    have hsd := kH1.rd hsd (by simp)
    cases hb : Tk.ok x
    · refine condT ?_
      exact And.intro trivial (Exists.intro _ (And.intro rfl ⟨_, rfl, by rw [take_fail hx hi hb]; simp, hk⟩))
    · refine condF ?_
      refine And.intro (show InR ((i : Int) + 1) from ⟨by omega, by omega⟩) ?_
      exact ⟨k - 1, i + 1, by omega, ⟨by omega, kb, by rw [hst, hall, hb]; rfl⟩, rfl, rfl, rfl, rfl, trivial⟩
  · have q1 : ¬ ((i : Int) < (n : Int)) := of_decide_eq_false q1
    have e : i = n := by omega
    subst e
    exact And.intro trivial (Exists.intro _ (And.intro rfl ⟨-1, rfl, by rw [hall]; rfl, hk⟩))
theorem badTks_ok {sa : Option Addr} {n cap : Nat} {us : List Tk} (hs : Sl H sa n cap (tkc us)) (hl : us.length = n) (hn2 : n ≤ 1000000) :
    ∃ H', FnX Try.prog kn lo 38 [.slice sa n cap, .func (.func 39) #[] #[]] H (.bool (!(us.all (Tk.ok)))) H' ∧ Keep H H' [] := by
  have key := fnX_low (kn := kn) (lo := lo) (H := H) (args := [.slice sa n cap, .func (.func 39) #[] #[]]) (Q := fun w H' => w = .bool (!(us.all (Tk.ok))) ∧ Keep H H' []) Try.func38 B38 N38 Z38 L38 (by simp) ?_
  · obtain ⟨w, H', h, rfl, q⟩ := key; exact ⟨H', h, q⟩
  obtain ⟨j, H3, h3, hj, k3⟩ := index56_ok (kn := kn) (lo := lo) hs hl hn2
  refine Exists.intro _ (Exists.intro _ (And.intro (callX_args h3) ?_))
  rw [List.take_of_length_le (by omega)] at hj
  exact And.intro trivial (Exists.intro _ (And.intro rfl ⟨by rw [← hj]; rfl, k3⟩))
theorem index60_ok {sa : Option Addr} {n cap : Nat} {us : List Sm} (hs : Sl H sa n cap (smc us)) (hn : us.length = n) (hn2 : n ≤ 1000000) :
    ∃ j H', FnX Try.prog kn lo 60 [.slice sa n cap, .func (.func 46) #[] #[]] H (iv j) H' ∧ decide (j ≥ 0) = !((us.take n).all (Sm.ok)) ∧ Keep H H' [] := by
  have key := fnX_low (kn := kn) (lo := lo) (H := H) (args := [.slice sa n cap, .func (.func 46) #[] #[]]) (Q := fun w H' => ∃ j, w = iv j ∧ decide (j ≥ 0) = !((us.take n).all (Sm.ok)) ∧ Keep H H' []) Try.func60 B60 N60 Z60 L60 (by simp) ?_
  · obtain ⟨v, H', h, j, rfl, q⟩ := key; exact ⟨j, H', h, q⟩
  have hk := Keep.refl H []
  refine loop_low (fn := Try.f60) E60_1 N60 L60x1 (fun i : Nat => [(0, .slice sa n cap), (1, .func (.func 46) #[] #[]), (7, iv (n : Int)), (8, iv (i : Int))])
    (fun k i H' => i + k = n ∧ Keep H H' [] ∧ (us.take i).all (Sm.ok) = true) n 0 ⟨by omega, Keep.refl _ _, rfl⟩ ⟨rfl, rfl, rfl, rfl, trivial⟩ ?_
  rintro k i L1 ⟨hik, hki, hall⟩
  have hk := hk.trans hki
  have hs := hki.sl0 hs
  have kb := hki
  refine And.intro (fun q1 => ?_) (fun q1 => ?_)
  · have q1 : (i : Int) < (n : Int) := of_decide_eq_true q1
    have hi : i < n := by omega
    obtain ⟨x, hx⟩ := get_some (l := us) (i := i) (by omega)
    rcases hs with ⟨_, h0, _⟩ | ⟨sb, rfl, hsd, _⟩
    · omega
    have hst := all_step (f := Sm.ok) hx
    refine Exists.intro i (And.intro rfl (And.intro hi ?_))
    refine Exists.intro _ (Exists.intro _ (And.intro hsd.of (And.intro (smc_row hx) ?_)))
    obtain ⟨H1, fH1, kH1⟩ := bad46_ok (kn := kn) (lo := lo) (x := x)
    refine Exists.intro _ (Exists.intro _ (And.intro (callX_func rfl (by simpa using fH1)) ?_))
    have mH1 := kH1.1
    have hk := hk.trans kH1
    have kb := kb.trans kH1
    have hsd := kH1.rd hsd (by simp)
    cases hb : Sm.ok x
    · refine condT ?_
      exact And.intro trivial (Exists.intro _ (And.intro rfl ⟨_, rfl, by rw [take_fail hx hi hb]; simp, hk⟩))
    · refine condF ?_
      refine And.intro (show InR ((i : Int) + 1) from ⟨by omega, by omega⟩) ?_
      exact ⟨k - 1, i + 1, by omega, ⟨by omega, kb, by rw [hst, hall, hb]; rfl⟩, rfl, rfl, rfl, rfl, trivial⟩
  · have q1 : ¬ ((i : Int) < (n : Int)) := of_decide_eq_false q1
    have e : i = n := by omega
    subst e
    exact And.intro trivial (Exists.intro _ (And.intro rfl ⟨-1, rfl, by rw [hall]; rfl, hk⟩))
theorem badSms_ok {sa : Option Addr} {n cap : Nat} {us : List Sm} (hs : Sl H sa n cap (smc us)) (hl : us.length = n) (hn2 : n ≤ 1000000) :
    ∃ H', FnX Try.prog kn lo 45 [.slice sa n cap, .func (.func 46) #[] #[]] H (.bool (!(us.all (Sm.ok)))) H' ∧ Keep H H' [] := by
  have key := fnX_low (kn := kn) (lo := lo) (H := H) (args := [.slice sa n cap, .func (.func 46) #[] #[]]) (Q := fun w H' => w = .bool (!(us.all (Sm.ok))) ∧ Keep H H' []) Try.func45 B45 N45 Z45 L45 (by simp) ?_
  · obtain ⟨w, H', h, rfl, q⟩ := key; exact ⟨H', h, q⟩
  obtain ⟨j, H3, h3, hj, k3⟩ := index60_ok (kn := kn) (lo := lo) hs hl hn2
  refine Exists.intro _ (Exists.intro _ (And.intro (callX_args h3) ?_))
  rw [List.take_of_length_le (by omega)] at hj
  exact And.intro trivial (Exists.intro _ (And.intro rfl ⟨by rw [← hj]; rfl, k3⟩))
theorem index66_ok {sa : Option Addr} {n cap : Nat} {us : List Int} (hs : Sl H sa n cap (ints us)) (hn : us.length = n) (hn2 : n ≤ 1000000) :
    ∃ j H', FnX Try.prog kn lo 66 [.slice sa n cap, .func (.func 63) #[] #[]] H (iv j) H' ∧ decide (j ≥ 0) = !((us.take n).all (htOk)) ∧ Keep H H' [] := by
  have key := fnX_low (kn := kn) (lo := lo) (H := H) (args := [.slice sa n cap, .func (.func 63) #[] #[]]) (Q := fun w H' => ∃ j, w = iv j ∧ decide (j ≥ 0) = !((us.take n).all (htOk)) ∧ Keep H H' []) Try.func66 B66 N66 Z66 L66 (by simp) ?_
  · obtain ⟨v, H', h, j, rfl, q⟩ := key; exact ⟨j, H', h, q⟩
  have hk := Keep.refl H []
  refine loop_low (fn := Try.f66) E66_1 N66 L66x1 (fun i : Nat => [(0, .slice sa n cap), (1, .func (.func 63) #[] #[]), (7, iv (n : Int)), (8, iv (i : Int))])
    (fun k i H' => i + k = n ∧ Keep H H' [] ∧ (us.take i).all (htOk) = true) n 0 ⟨by omega, Keep.refl _ _, rfl⟩ ⟨rfl, rfl, rfl, rfl, trivial⟩ ?_
  rintro k i L1 ⟨hik, hki, hall⟩
  have hk := hk.trans hki
  have hs := hki.sl0 hs
  have kb := hki
  refine And.intro (fun q1 => ?_) (fun q1 => ?_)
  · have q1 : (i : Int) < (n : Int) := of_decide_eq_true q1
    have hi : i < n := by omega
    obtain ⟨x, hx⟩ := get_some (l := us) (i := i) (by omega)
    rcases hs with ⟨_, h0, _⟩ | ⟨sb, rfl, hsd, _⟩
    · omega
    have hst := all_step (f := htOk) hx
    refine Exists.intro i (And.intro rfl (And.intro hi ?_))
    refine Exists.intro _ (Exists.intro _ (And.intro hsd.of (And.intro (ints_at hx) ?_)))
    obtain ⟨H1, fH1, kH1⟩ := bad63_ok (kn := kn) (lo := lo) (x := x)
    refine Exists.intro _ (Exists.intro _ (And.intro (callX_func rfl (by simpa using fH1)) ?_))
    have mH1 := kH1.1
    have hk := hk.trans kH1
    have kb := kb.trans kH1
    have hsd := kH1.rd hsd (by simp)
    cases hb : htOk x
    · refine condT ?_
      exact And.intro trivial (Exists.intro _ (And.intro rfl ⟨_, rfl, by rw [take_fail hx hi hb]; simp, hk⟩))
    · refine condF ?_
      refine And.intro (show InR ((i : Int) + 1) from ⟨by omega, by omega⟩) ?_
      exact ⟨k - 1, i + 1, by omega, ⟨by omega, kb, by rw [hst, hall, hb]; rfl⟩, rfl, rfl, rfl, rfl, trivial⟩
  · have q1 : ¬ ((i : Int) < (n : Int)) := of_decide_eq_false q1
    have e : i = n := by omega
    subst e
    exact And.intro trivial (Exists.intro _ (And.intro rfl ⟨-1, rfl, by rw [hall]; rfl, hk⟩))
theorem badHts_ok {sa : Option Addr} {n cap : Nat} {us : List Int} (hs : Sl H sa n cap (ints us)) (hl : us.length = n) (hn2 : n ≤ 1000000) :
    ∃ H', FnX Try.prog kn lo 62 [.slice sa n cap, .func (.func 63) #[] #[]] H (.bool (!(us.all (htOk)))) H' ∧ Keep H H' [] := by
  have key := fnX_low (kn := kn) (lo := lo) (H := H) (args := [.slice sa n cap, .func (.func 63) #[] #[]]) (Q := fun w H' => w = .bool (!(us.all (htOk))) ∧ Keep H H' []) Try.func62 B62 N62 Z62 L62 (by simp) ?_
  · obtain ⟨w, H', h, rfl, q⟩ := key; exact ⟨H', h, q⟩
  obtain ⟨j, H3, h3, hj, k3⟩ := index66_ok (kn := kn) (lo := lo) hs hl hn2
  refine Exists.intro _ (Exists.intro _ (And.intro (callX_args h3) ?_))
  rw [List.take_of_length_le (by omega)] at hj
  exact And.intro trivial (Exists.intro _ (And.intro rfl ⟨by rw [← hj]; rfl, k3⟩))
/-- isBadBerry -/
theorem bad54_ok {r : Rw} (hr : Sl H r.ra r.n r.cap (ints r.l)) (hl : r.l.length = r.n) (hm : r.n ≤ 1000000) : ∃ H', FnX Try.prog kn lo 54 [.slice r.ra r.n r.cap] H (.bool (!r.ok)) H' ∧ Keep H H' [] := by
  have key := fnX_low (kn := kn) (lo := lo) (H := H) (args := [.slice r.ra r.n r.cap]) (Q := fun w H' => w = .bool (!r.ok) ∧ Keep H H' []) Try.func54 B54 N54 Z54 L54 (by simp) ?_
  · obtain ⟨w, H', h, rfl, q⟩ := key; exact ⟨H', h, q⟩
  have hk := Keep.refl H []
  refine wN_seq ?_
  refine wN_mov (v := .bool false) rfl ?_
  refine wN_end ?_
  refine wN_seq ?_
  refine wN_mov (v := .slice r.ra r.n r.cap) rfl ?_
  refine wN_len (m := r.n) rfl ?_
  refine wN_b_gtr (a := (r.n : Int)) (b := 7) rfl rfl ?_
  intro t1 g1; cases t1
  · have g1 : ¬ ((r.n : Int) > 7) := of_decide_eq_false g1
    refine wN_mov (v := .bool false) rfl ?_
    refine wN_g rfl (wN_mov (v := .slice r.ra r.n r.cap) rfl ?_)
    refine wN_g rfl (wN_callB rfl (badHts_ok hr hl hm) ?_)
    intro tH1 H1 hH1 kH1
    have mH1 := kH1.1
    have hk := hk.trans kH1
    have hr := kH1.sl0 hr
    cases tH1
    · have hall : r.l.all htOk = true := by simpa using hH1
      refine wN_pur (v := .bool false) rfl rfl ?_
      refine wN_mov (v := .bool false) rfl ?_
      refine wN_end ?_
      exact And.intro trivial (Exists.intro _ (And.intro rfl ⟨congrArg Value.bool (show false = (!r.ok) from (by symm; unfold Rw.ok; first | (rw [hall]; simp; done) | (rw [hall]; simp; omega) | (simp; omega))), hk⟩))
    · have hall : r.l.all htOk = false := by simpa using hH1
      refine wN_pur (v := .bool true) rfl rfl ?_
      refine wN_mov (v := .bool true) rfl ?_
      refine wN_end ?_
      exact And.intro trivial (Exists.intro _ (And.intro rfl ⟨congrArg Value.bool (show true = (!r.ok) from (by symm; unfold Rw.ok; first | (rw [hall]; simp; done) | (rw [hall]; simp; omega) | (simp; omega))), hk⟩))
  · have g1 : (r.n : Int) > 7 := of_decide_eq_true g1
    refine wN_mov (v := .bool true) rfl ?_
    refine wN_gs rfl ?_
    refine wN_gs rfl ?_
    refine wN_pur (v := .bool true) rfl rfl ?_
    refine wN_mov (v := .bool true) rfl ?_
    refine wN_end ?_
    exact And.intro trivial (Exists.intro _ (And.intro rfl ⟨congrArg Value.bool (show true = (!r.ok) from (by symm; unfold Rw.ok; first | (rw [hall]; simp; done) | (rw [hall]; simp; omega) | (simp; omega))), hk⟩))
end
end Go.Ax

/-
  Station: validTrucks, validSlip, validBerries, and what the document says of them (written by program).
-/
namespace Go.Ax
open Go Go.RowKit Go.Proofs

/-- does a berry bounce? -/
def bnc (l : List Int) (b m : Int) : Bool := (l.take m.toNat).any fun h => decide (b ≤ h)
theorem any_step {α : Type} {f : α → Bool} {l : List α} {i : Nat} {x : α} (h : l[i]? = some x) : (l.take (i + 1)).any f = ((l.take i).any f || f x) := by
  rw [List.take_add_one, h]; simp
theorem any_hit {α : Type} {f : α → Bool} {l : List α} {i n : Nat} {x : α} (h : l[i]? = some x) (hi : i < n) (hx : f x = true) : (l.take n).any f = true := by
  rw [List.any_eq_true]
  refine ⟨x, ?_, hx⟩
  exact List.mem_of_getElem? (i := i) (by rw [List.getElem?_take_of_lt hi]; exact h)
theorem tks_end {us : List Tk} {n i : Nat} (hl : us.length = n) (hall : (us.take i).all Tk.ok = true) (hi : i ≤ n) (h : n ≤ i ∨ 64 < i) : decide ((n : Int) ≤ 64) = tksOk us := by
  unfold tksOk
  rw [hl]
  rcases h with h | h
  · rw [List.take_of_length_le (by omega)] at hall
    rw [hall, Bool.and_true]
    exact decide_eq_decide.2 (by omega)
  · rw [decide_eq_false (by omega), decide_eq_false (by omega)]; rfl
section
variable {kn : FuncId → Option Bool} {lo : Nat} {H : Hp}
/-- validTrucks -/
theorem valid26_ok {sa : Option Addr} {n cap : Nat} {us : List Tk} (hs : Sl H sa n cap (tkc us)) (hl : us.length = n) : ∃ H', FnX Try.prog kn lo 26 [.slice sa n cap] H (.bool (tksOk us)) H' ∧ Keep H H' [] := by
  have key := fnX_low (kn := kn) (lo := lo) (H := H) (args := [.slice sa n cap]) (Q := fun w H' => w = .bool (tksOk us) ∧ Keep H H' []) Try.func26 B26 N26 Z26 L26 (by simp) ?_
  · obtain ⟨w, H', h, rfl, q⟩ := key; exact ⟨H', h, q⟩
  have hk := Keep.refl H []
  refine wN_seq ?_
  refine wN_mov (v := .bool false) rfl ?_
  refine wN_end ?_
  refine wN_seq ?_
  refine wN_mov (v := .slice sa n cap) rfl ?_
  refine wN_len (m := n) rfl ?_
  refine wN_b_leq (a := (n : Int)) (b := 64) rfl rfl ?_
  intro t1 g1; cases t1
  · have g1 : ¬ ((n : Int) ≤ 64) := of_decide_eq_false g1
    refine wN_mov (v := .bool false) rfl ?_
    refine wN_gs rfl ?_
    refine wN_gs rfl ?_
    refine wN_gs rfl ?_
    refine wN_pur (v := .bool false) rfl rfl ?_
    refine wN_mov (v := .bool false) rfl ?_
    refine wN_end ?_
    exact And.intro trivial (Exists.intro _ (And.intro rfl ⟨congrArg Value.bool (show false = (tksOk us) from (by symm; first | (simp [tksOk, hl, hall]; done) | (simp [tksOk, hl, hall] <;> omega) | (simp [tksOk, hl]; done) | (simp [tksOk, hl] <;> omega))), hk⟩))
  · have g1 : (n : Int) ≤ 64 := of_decide_eq_true g1
    refine wN_mov (v := .bool true) rfl ?_
    refine wN_g rfl (wN_mov (v := .slice sa n cap) rfl ?_)
    refine wN_g rfl (wN_callB rfl (badTks_ok hs hl (by omega)) ?_)
    intro tH1 H1 hH1 kH1
    have mH1 := kH1.1
    have hk := hk.trans kH1
    have hs := kH1.sl0 hs
    cases tH1
    · have hall : us.all Tk.ok = true := by simpa using hH1
      refine wN_g rfl (wN_pur (v := .bool true) rfl rfl ?_)
      refine wN_pur (v := .bool true) rfl rfl ?_
      refine wN_mov (v := .bool true) rfl ?_
      refine wN_end ?_
      exact And.intro trivial (Exists.intro _ (And.intro rfl ⟨congrArg Value.bool (show true = (tksOk us) from (by symm; first | (simp [tksOk, hl, hall]; done) | (simp [tksOk, hl, hall] <;> omega) | (simp [tksOk, hl]; done) | (simp [tksOk, hl] <;> omega))), hk⟩))
    · have hall : us.all Tk.ok = false := by simpa using hH1
      refine wN_g rfl (wN_pur (v := .bool false) rfl rfl ?_)
      refine wN_pur (v := .bool false) rfl rfl ?_
      refine wN_mov (v := .bool false) rfl ?_
      refine wN_end ?_
      exact And.intro trivial (Exists.intro _ (And.intro rfl ⟨congrArg Value.bool (show false = (tksOk us) from (by symm; first | (simp [tksOk, hl, hall]; done) | (simp [tksOk, hl, hall] <;> omega) | (simp [tksOk, hl]; done) | (simp [tksOk, hl] <;> omega))), hk⟩))
/-- validSlip -/
theorem valid32_ok {s : Sp} (hs : Sl H s.sa s.sn s.scap (smc s.ss)) (hl : s.ss.length = s.sn) : ∃ H', FnX Try.prog kn lo 32 [.agg s.v.toArray] H (.bool (s.ok)) H' ∧ Keep H H' [] := by
  have key := fnX_low (kn := kn) (lo := lo) (H := H) (args := [.agg s.v.toArray]) (Q := fun w H' => w = .bool (s.ok) ∧ Keep H H' []) Try.func32 B32 N32 Z32 L32 (by simp) ?_
  · obtain ⟨w, H', h, rfl, q⟩ := key; exact ⟨H', h, q⟩
  have hk := Keep.refl H []
  refine wN_seq ?_
  refine wN_box (v := .agg s.v.toArray) rfl ?_
  intro H1 kH1 nH1 c1
  have c1 : Cl H1 H.next [iv s.gr, iv s.bed, iv s.day, iv s.gross, iv s.tare, .slice s.sa s.sn s.scap] := c1
  have mH1 := kH1.1
  have hk := hk.trans kH1
  have hs := kH1.sl0 hs
  refine wN_mov (v := .bool false) rfl ?_
  refine wN_end ?_
  refine wN_seq ?_
  refine wN_addo (b := H.next) (o := 0) rfl ?_
  refine wN_ld (b := H.next) (o := 0) (v := iv s.gr) rfl c1.rd rfl ?_
  refine wN_callB rfl (isw_ok) ?_
  intro tH2 H2 hH2 kH2
  have mH2 := kH2.1
  have hk := hk.trans kH2
  have hs := kH2.sl0 hs
  have c1 := kH2.cl c1 (by simp)
  cases tH2
  · have fhH2 := isw_f hH2
    refine wN_pur (v := .bool true) rfl rfl ?_
    refine wN_mov (v := .bool true) rfl ?_
    refine wN_gs rfl ?_
    refine wN_gs rfl ?_
    refine wN_gs rfl ?_
    refine wN_gs rfl ?_
    refine wN_pur (v := .bool true) rfl rfl ?_
    refine wN_mov (v := .bool true) rfl ?_
    refine wN_gs rfl ?_
    refine wN_gs rfl ?_
    refine wN_gs rfl ?_
    refine wN_gs rfl ?_
    refine wN_pur (v := .bool true) rfl rfl ?_
    refine wN_end ?_
    refine condT ?_
    refine wN_seq ?_
    refine wN_mov (v := .bool false) rfl ?_
    refine wN_end ?_
    exact And.intro trivial (Exists.intro _ (And.intro rfl ⟨congrArg Value.bool (show false = (s.ok) from (by symm; first | (simp only [Sp.ok, isw, inB, hall, Bool.and_eq_true, Bool.and_eq_false_iff, Bool.or_eq_true, Bool.or_eq_false_iff, Bool.not_eq_true', Bool.not_eq_false', decide_eq_true_eq, decide_eq_false_iff_not]; omega) | (simp [Sp.ok, isw, inB, hall] <;> omega) | (simp only [Sp.ok, isw, inB, Bool.and_eq_true, Bool.and_eq_false_iff, Bool.or_eq_true, Bool.or_eq_false_iff, Bool.not_eq_true', Bool.not_eq_false', decide_eq_true_eq, decide_eq_false_iff_not]; omega) | (simp [Sp.ok, isw, inB] <;> omega))), hk⟩))
  · have fhH2 := isw_t hH2
    refine wN_pur (v := .bool false) rfl rfl ?_
    refine wN_mov (v := .bool false) rfl ?_
    refine wN_g rfl (wN_addo (b := H.next) (o := 0) rfl ?_)
    refine wN_g rfl (wN_ld (b := H.next) (o := 1) (v := iv s.bed) rfl c1.rd rfl ?_)
    refine wN_g rfl (wN_callB rfl (isw_ok) ?_)
    intro tH3 H3 hH3 kH3
    have mH3 := kH3.1
    have hk := hk.trans kH3
    have hs := kH3.sl0 hs
    have c1 := kH3.cl c1 (by simp)
    cases tH3
    · have fhH3 := isw_f hH3
      refine wN_g rfl (wN_pur (v := .bool true) rfl rfl ?_)
      refine wN_pur (v := .bool true) rfl rfl ?_
      refine wN_mov (v := .bool true) rfl ?_
      refine wN_gs rfl ?_
      refine wN_gs rfl ?_
      refine wN_gs rfl ?_
      refine wN_gs rfl ?_
      refine wN_pur (v := .bool true) rfl rfl ?_
      refine wN_end ?_
      refine condT ?_
      refine wN_seq ?_
      refine wN_mov (v := .bool false) rfl ?_
      refine wN_end ?_
      exact And.intro trivial (Exists.intro _ (And.intro rfl ⟨congrArg Value.bool (show false = (s.ok) from (by symm; first | (simp only [Sp.ok, isw, inB, hall, Bool.and_eq_true, Bool.and_eq_false_iff, Bool.or_eq_true, Bool.or_eq_false_iff, Bool.not_eq_true', Bool.not_eq_false', decide_eq_true_eq, decide_eq_false_iff_not]; omega) | (simp [Sp.ok, isw, inB, hall] <;> omega) | (simp only [Sp.ok, isw, inB, Bool.and_eq_true, Bool.and_eq_false_iff, Bool.or_eq_true, Bool.or_eq_false_iff, Bool.not_eq_true', Bool.not_eq_false', decide_eq_true_eq, decide_eq_false_iff_not]; omega) | (simp [Sp.ok, isw, inB] <;> omega))), hk⟩))
    · have fhH3 := isw_t hH3
      refine wN_g rfl (wN_pur (v := .bool false) rfl rfl ?_)
      refine wN_pur (v := .bool false) rfl rfl ?_
      refine wN_mov (v := .bool false) rfl ?_
      refine wN_g rfl (wN_addo (b := H.next) (o := 0) rfl ?_)
      refine wN_g rfl (wN_ld (b := H.next) (o := 2) (v := iv s.day) rfl c1.rd rfl ?_)
      refine wN_g rfl (wN_callB rfl (isw_ok) ?_)
      intro tH4 H4 hH4 kH4
      have mH4 := kH4.1
      have hk := hk.trans kH4
      have hs := kH4.sl0 hs
      have c1 := kH4.cl c1 (by simp)
      cases tH4
      · have fhH4 := isw_f hH4
        refine wN_g rfl (wN_pur (v := .bool true) rfl rfl ?_)
        refine wN_pur (v := .bool true) rfl rfl ?_
        refine wN_end ?_
        refine condT ?_
        refine wN_seq ?_
        refine wN_mov (v := .bool false) rfl ?_
        refine wN_end ?_
        exact And.intro trivial (Exists.intro _ (And.intro rfl ⟨congrArg Value.bool (show false = (s.ok) from (by symm; first | (simp only [Sp.ok, isw, inB, hall, Bool.and_eq_true, Bool.and_eq_false_iff, Bool.or_eq_true, Bool.or_eq_false_iff, Bool.not_eq_true', Bool.not_eq_false', decide_eq_true_eq, decide_eq_false_iff_not]; omega) | (simp [Sp.ok, isw, inB, hall] <;> omega) | (simp only [Sp.ok, isw, inB, Bool.and_eq_true, Bool.and_eq_false_iff, Bool.or_eq_true, Bool.or_eq_false_iff, Bool.not_eq_true', Bool.not_eq_false', decide_eq_true_eq, decide_eq_false_iff_not]; omega) | (simp [Sp.ok, isw, inB] <;> omega))), hk⟩))
      · have fhH4 := isw_t hH4
        refine wN_g rfl (wN_pur (v := .bool false) rfl rfl ?_)
        refine wN_pur (v := .bool false) rfl rfl ?_
        refine wN_end ?_
        refine condF ?_
        first | refine wN_skip ?_ | skip
        refine wN_seq ?_
        refine wN_addo (b := H.next) (o := 0) rfl ?_
        refine wN_ld (b := H.next) (o := 3) (v := iv s.gross) rfl c1.rd rfl ?_
        refine wN_callB rfl (isw_ok) ?_
        intro tH5 H5 hH5 kH5
        have mH5 := kH5.1
        have hk := hk.trans kH5
        have hs := kH5.sl0 hs
        have c1 := kH5.cl c1 (by simp)
        cases tH5
        · have fhH5 := isw_f hH5
          refine wN_pur (v := .bool true) rfl rfl ?_
          refine wN_mov (v := .bool true) rfl ?_
          refine wN_gs rfl ?_
          refine wN_gs rfl ?_
          refine wN_gs rfl ?_
          refine wN_gs rfl ?_
          refine wN_gs rfl ?_
          refine wN_gs rfl ?_
          refine wN_pur (v := .bool true) rfl rfl ?_
          refine wN_end ?_
          refine condT ?_
          refine wN_seq ?_
          refine wN_mov (v := .bool false) rfl ?_
          refine wN_end ?_
          exact And.intro trivial (Exists.intro _ (And.intro rfl ⟨congrArg Value.bool (show false = (s.ok) from (by symm; first | (simp only [Sp.ok, isw, inB, hall, Bool.and_eq_true, Bool.and_eq_false_iff, Bool.or_eq_true, Bool.or_eq_false_iff, Bool.not_eq_true', Bool.not_eq_false', decide_eq_true_eq, decide_eq_false_iff_not]; omega) | (simp [Sp.ok, isw, inB, hall] <;> omega) | (simp only [Sp.ok, isw, inB, Bool.and_eq_true, Bool.and_eq_false_iff, Bool.or_eq_true, Bool.or_eq_false_iff, Bool.not_eq_true', Bool.not_eq_false', decide_eq_true_eq, decide_eq_false_iff_not]; omega) | (simp [Sp.ok, isw, inB] <;> omega))), hk⟩))
        · have fhH5 := isw_t hH5
          refine wN_pur (v := .bool false) rfl rfl ?_
          refine wN_mov (v := .bool false) rfl ?_
          refine wN_g rfl (wN_addo (b := H.next) (o := 0) rfl ?_)
          refine wN_g rfl (wN_ld (b := H.next) (o := 4) (v := iv s.tare) rfl c1.rd rfl ?_)
          refine wN_g rfl (wN_addo (b := H.next) (o := 0) rfl ?_)
          refine wN_g rfl (wN_ld (b := H.next) (o := 3) (v := iv s.gross) rfl c1.rd rfl ?_)
          refine wN_g rfl (wN_callB rfl (isw_ok) ?_)
          intro tH6 H6 hH6 kH6
          have mH6 := kH6.1
          have hk := hk.trans kH6
          have hs := kH6.sl0 hs
          have c1 := kH6.cl c1 (by simp)
          cases tH6
          · have fhH6 := isw_f hH6
            refine wN_g rfl (wN_pur (v := .bool true) rfl rfl ?_)
            refine wN_pur (v := .bool true) rfl rfl ?_
            refine wN_end ?_
            refine condT ?_
            refine wN_seq ?_
            refine wN_mov (v := .bool false) rfl ?_
            refine wN_end ?_
            exact And.intro trivial (Exists.intro _ (And.intro rfl ⟨congrArg Value.bool (show false = (s.ok) from (by symm; first | (simp only [Sp.ok, isw, inB, hall, Bool.and_eq_true, Bool.and_eq_false_iff, Bool.or_eq_true, Bool.or_eq_false_iff, Bool.not_eq_true', Bool.not_eq_false', decide_eq_true_eq, decide_eq_false_iff_not]; omega) | (simp [Sp.ok, isw, inB, hall] <;> omega) | (simp only [Sp.ok, isw, inB, Bool.and_eq_true, Bool.and_eq_false_iff, Bool.or_eq_true, Bool.or_eq_false_iff, Bool.not_eq_true', Bool.not_eq_false', decide_eq_true_eq, decide_eq_false_iff_not]; omega) | (simp [Sp.ok, isw, inB] <;> omega))), hk⟩))
          · have fhH6 := isw_t hH6
            refine wN_g rfl (wN_pur (v := .bool false) rfl rfl ?_)
            refine wN_pur (v := .bool false) rfl rfl ?_
            refine wN_end ?_
            refine condF ?_
            first | refine wN_skip ?_ | skip
            refine wN_seq ?_
            refine wN_addo (b := H.next) (o := 0) rfl ?_
            refine wN_ld (b := H.next) (o := 5) (v := .slice s.sa s.sn s.scap) rfl c1.rd rfl ?_
            refine wN_len (m := s.sn) rfl ?_
            refine wN_mov (v := iv (s.sn : Int)) rfl ?_
            refine wN_end ?_
            refine wN_seq ?_
            refine wN_mov (v := iv (s.sn : Int)) rfl ?_
            refine wN_b_geq (a := (s.sn : Int)) (b := 1) rfl rfl ?_
            intro t1 g1; cases t1
            · have g1 : ¬ ((s.sn : Int) ≥ 1) := of_decide_eq_false g1
              refine wN_mov (v := .bool false) rfl ?_
              refine wN_gs rfl ?_
              refine wN_gs rfl ?_
              refine wN_pur (v := .bool false) rfl rfl ?_
              refine wN_mov (v := .bool false) rfl ?_
              refine wN_gs rfl ?_
              refine wN_gs rfl ?_
              refine wN_gs rfl ?_
              refine wN_gs rfl ?_
              refine wN_pur (v := .bool false) rfl rfl ?_
              refine wN_mov (v := .bool false) rfl ?_
              refine wN_end ?_
              exact And.intro trivial (Exists.intro _ (And.intro rfl ⟨congrArg Value.bool (show false = (s.ok) from (by symm; first | (simp only [Sp.ok, isw, inB, hall, Bool.and_eq_true, Bool.and_eq_false_iff, Bool.or_eq_true, Bool.or_eq_false_iff, Bool.not_eq_true', Bool.not_eq_false', decide_eq_true_eq, decide_eq_false_iff_not]; omega) | (simp [Sp.ok, isw, inB, hall] <;> omega) | (simp only [Sp.ok, isw, inB, Bool.and_eq_true, Bool.and_eq_false_iff, Bool.or_eq_true, Bool.or_eq_false_iff, Bool.not_eq_true', Bool.not_eq_false', decide_eq_true_eq, decide_eq_false_iff_not]; omega) | (simp [Sp.ok, isw, inB] <;> omega))), hk⟩))
            · have g1 : (s.sn : Int) ≥ 1 := of_decide_eq_true g1
              refine wN_mov (v := .bool true) rfl ?_
              refine wN_g rfl (wN_mov (v := iv (s.sn : Int)) rfl ?_)
              refine wN_g rfl (wN_b_leq (a := (s.sn : Int)) (b := 32) rfl rfl ?_)
              intro t2 g2; cases t2
              · have g2 : ¬ ((s.sn : Int) ≤ 32) := of_decide_eq_false g2
                refine wN_pur (v := .bool false) rfl rfl ?_
                refine wN_mov (v := .bool false) rfl ?_
                refine wN_gs rfl ?_
                refine wN_gs rfl ?_
                refine wN_gs rfl ?_
                refine wN_gs rfl ?_
                refine wN_pur (v := .bool false) rfl rfl ?_
                refine wN_mov (v := .bool false) rfl ?_
                refine wN_end ?_
                exact And.intro trivial (Exists.intro _ (And.intro rfl ⟨congrArg Value.bool (show false = (s.ok) from (by symm; first | (simp only [Sp.ok, isw, inB, hall, Bool.and_eq_true, Bool.and_eq_false_iff, Bool.or_eq_true, Bool.or_eq_false_iff, Bool.not_eq_true', Bool.not_eq_false', decide_eq_true_eq, decide_eq_false_iff_not]; omega) | (simp [Sp.ok, isw, inB, hall] <;> omega) | (simp only [Sp.ok, isw, inB, Bool.and_eq_true, Bool.and_eq_false_iff, Bool.or_eq_true, Bool.or_eq_false_iff, Bool.not_eq_true', Bool.not_eq_false', decide_eq_true_eq, decide_eq_false_iff_not]; omega) | (simp [Sp.ok, isw, inB] <;> omega))), hk⟩))
              · have g2 : (s.sn : Int) ≤ 32 := of_decide_eq_true g2
                refine wN_pur (v := .bool true) rfl rfl ?_
                refine wN_mov (v := .bool true) rfl ?_
                refine wN_g rfl (wN_addo (b := H.next) (o := 0) rfl ?_)
                refine wN_g rfl (wN_ld (b := H.next) (o := 5) (v := .slice s.sa s.sn s.scap) rfl c1.rd rfl ?_)
                refine wN_g rfl (wN_callB rfl (badSms_ok hs hl (by omega)) ?_)
                intro tH7 H7 hH7 kH7
                have mH7 := kH7.1
                have hk := hk.trans kH7
                have hs := kH7.sl0 hs
                have c1 := kH7.cl c1 (by simp)
                cases tH7
                · have hall : s.ss.all Sm.ok = true := by simpa using hH7
                  refine wN_g rfl (wN_pur (v := .bool true) rfl rfl ?_)
                  refine wN_pur (v := .bool true) rfl rfl ?_
                  refine wN_mov (v := .bool true) rfl ?_
                  refine wN_end ?_
                  exact And.intro trivial (Exists.intro _ (And.intro rfl ⟨congrArg Value.bool (show true = (s.ok) from (by symm; first | (simp only [Sp.ok, isw, inB, hall, Bool.and_eq_true, Bool.and_eq_false_iff, Bool.or_eq_true, Bool.or_eq_false_iff, Bool.not_eq_true', Bool.not_eq_false', decide_eq_true_eq, decide_eq_false_iff_not]; omega) | (simp [Sp.ok, isw, inB, hall] <;> omega) | (simp only [Sp.ok, isw, inB, Bool.and_eq_true, Bool.and_eq_false_iff, Bool.or_eq_true, Bool.or_eq_false_iff, Bool.not_eq_true', Bool.not_eq_false', decide_eq_true_eq, decide_eq_false_iff_not]; omega) | (simp [Sp.ok, isw, inB] <;> omega))), hk⟩))
                · have hall : s.ss.all Sm.ok = false := by simpa using hH7
                  refine wN_g rfl (wN_pur (v := .bool false) rfl rfl ?_)
                  refine wN_pur (v := .bool false) rfl rfl ?_
                  refine wN_mov (v := .bool false) rfl ?_
                  refine wN_end ?_
                  exact And.intro trivial (Exists.intro _ (And.intro rfl ⟨congrArg Value.bool (show false = (s.ok) from (by symm; first | (simp only [Sp.ok, isw, inB, hall, Bool.and_eq_true, Bool.and_eq_false_iff, Bool.or_eq_true, Bool.or_eq_false_iff, Bool.not_eq_true', Bool.not_eq_false', decide_eq_true_eq, decide_eq_false_iff_not]; omega) | (simp [Sp.ok, isw, inB, hall] <;> omega) | (simp only [Sp.ok, isw, inB, Bool.and_eq_true, Bool.and_eq_false_iff, Bool.or_eq_true, Bool.or_eq_false_iff, Bool.not_eq_true', Bool.not_eq_false', decide_eq_true_eq, decide_eq_false_iff_not]; omega) | (simp [Sp.ok, isw, inB] <;> omega))), hk⟩))
/-- are berries valid? -/
def rwsOk (rs : List Rw) : Bool := decide (rs.length ≤ 256) && rs.all Rw.ok
/-- the document's Trucks -/
theorem ref21_ok {sa : Option Addr} {n cap : Nat} {us : List Tk} (hs : Sl H sa n cap (tkc us)) (hl : us.length = n) (hn : n ≤ 1000000) : ∃ H', FnX Try.prog kn lo 21 [.slice sa n cap] H (.bool (tksOk us)) H' ∧ Keep H H' [] := by
  have key := fnX_low (kn := kn) (lo := lo) (H := H) (args := [.slice sa n cap]) (Q := fun w H' => w = .bool (tksOk us) ∧ Keep H H' []) Try.func21 B21 N21 Z21 L21 (by simp) ?_
  · obtain ⟨w, H', h, rfl, q⟩ := key; exact ⟨H', h, q⟩
  have hk := Keep.refl H []
  refine wN_seq ?_
  refine wN_mov (v := .bool false) rfl ?_
  refine wN_end ?_
  refine wN_seq ?_
  refine wN_mov (v := iv 0) rfl ?_
  refine wN_end ?_
  refine loop_low (fn := Try.f21) E21_1 N21 L21x1 (fun i : Nat => [(0, .slice sa n cap), (3, iv (i : Int))])
    (fun k i H' => i + k = n ∧ Keep H H' [] ∧ (us.take i).all Tk.ok = true) n 0 ⟨by omega, Keep.refl _ _, rfl⟩ ⟨rfl, rfl, trivial⟩ ?_
  rintro k i L1 ⟨hik, hki, hall⟩
  have hk := hk.trans hki
  have hs := hki.sl0 hs
  have kb := hki
  refine wN_seq ?_
  refine wN_mov (v := iv (i : Int)) rfl ?_
  refine wN_mov (v := .slice sa n cap) rfl ?_
  refine wN_len (m := n) rfl ?_
  refine wN_b_lss (a := (i : Int)) (b := (n : Int)) rfl rfl ?_
  intro t1 g1; cases t1
  · have g1 : ¬ ((i : Int) < (n : Int)) := of_decide_eq_false g1
    refine wN_mov (v := .bool false) rfl ?_
    refine wN_gs rfl ?_
    refine wN_gs rfl ?_
    refine wN_pur (v := .bool false) rfl rfl ?_
    refine wN_end ?_
    refine condF ?_
    refine wN_seq ?_
    refine wN_mov (v := .slice sa n cap) rfl ?_
    refine wN_len (m := n) rfl ?_
    refine wN_c_leq (a := (n : Int)) (b := 64) rfl rfl ?_
    refine wN_mov (v := .bool (decide ((n : Int) ≤ 64))) rfl ?_
    refine wN_end ?_
    exact And.intro trivial (Exists.intro _ (And.intro rfl ⟨congrArg Value.bool (show decide ((n : Int) ≤ 64) = tksOk us from tks_end hl hall (by omega) (by omega)), hk⟩))
  · have g1 : (i : Int) < (n : Int) := of_decide_eq_true g1
    refine wN_mov (v := .bool true) rfl ?_
    refine wN_g rfl (wN_mov (v := iv (i : Int)) rfl ?_)
    refine wN_g rfl (wN_b_leq (a := (i : Int)) (b := 64) rfl rfl ?_)
    intro t2 g2; cases t2
    · have g2 : ¬ ((i : Int) ≤ 64) := of_decide_eq_false g2
      refine wN_pur (v := .bool false) rfl rfl ?_
      refine wN_end ?_
      refine condF ?_
      refine wN_seq ?_
      refine wN_mov (v := .slice sa n cap) rfl ?_
      refine wN_len (m := n) rfl ?_
      refine wN_c_leq (a := (n : Int)) (b := 64) rfl rfl ?_
      refine wN_mov (v := .bool (decide ((n : Int) ≤ 64))) rfl ?_
      refine wN_end ?_
      exact And.intro trivial (Exists.intro _ (And.intro rfl ⟨congrArg Value.bool (show decide ((n : Int) ≤ 64) = tksOk us from tks_end hl hall (by omega) (by omega)), hk⟩))
    · have g2 : (i : Int) ≤ 64 := of_decide_eq_true g2
      refine wN_pur (v := .bool true) rfl rfl ?_
      refine wN_end ?_
      refine condT ?_
      have hi : i < n := by omega
      obtain ⟨x, hx⟩ := get_some (l := us) (i := i) (by omega)
      rcases hs with ⟨_, h0, _⟩ | ⟨sb, esb, rsb, _⟩
      · omega
      subst esb
      first | refine wN_skip ?_ | skip
      refine wN_seq ?_
      refine wN_mov (v := .slice (some ⟨sb, 0, none⟩) n cap) rfl ?_
      refine wN_mov (v := iv (i : Int)) rfl ?_
      refine wN_idx (b := sb) (o := 0) (k := i) (j := (i : Int)) rfl rfl rfl hi ?_
      refine wN_addo (b := sb) (o := 0 + i * 4) rfl ?_
      refine wN_lda (b := sb) (o := 0 + i * 4) rfl rsb (tkc_a hx) ?_
      refine wN_callB rfl (spW36_ok) ?_
      intro tH1 H1 hH1 kH1
      have mH1 := kH1.1
      have hk := hk.trans kH1
      have kb := kb.trans kH1
      have rsb := kH1.rd rsb (by simp)
      cases tH1
      · have fhH1 := spW_f hH1
        refine wN_pur (v := .bool true) rfl rfl ?_
        refine wN_mov (v := .bool true) rfl ?_
        refine wN_gs rfl ?_
        refine wN_gs rfl ?_
        refine wN_gs rfl ?_
        refine wN_gs rfl ?_
        refine wN_gs rfl ?_
        refine wN_gs rfl ?_
        refine wN_gs rfl ?_
        refine wN_pur (v := .bool true) rfl rfl ?_
        refine wN_end ?_
        refine condT ?_
        have hok : x.ok = false := by simp only [Tk.ok, spW, Bool.and_eq_true, Bool.and_eq_false_iff, Bool.or_eq_true, Bool.or_eq_false_iff, Bool.not_eq_true', Bool.not_eq_false', decide_eq_true_eq, decide_eq_false_iff_not]; omega
        refine wN_seq ?_
        refine wN_mov (v := .bool false) rfl ?_
        refine wN_end ?_
        exact And.intro trivial (Exists.intro _ (And.intro rfl ⟨congrArg Value.bool (show false = tksOk us from (by symm; unfold tksOk; rw [all_fail hx hok]; simp)), hk⟩))
      · have fhH1 := spW_t hH1
        refine wN_pur (v := .bool false) rfl rfl ?_
        refine wN_mov (v := .bool false) rfl ?_
        refine wN_g rfl (wN_mov (v := .slice (some ⟨sb, 0, none⟩) n cap) rfl ?_)
        refine wN_g rfl (wN_mov (v := iv (i : Int)) rfl ?_)
        refine wN_g rfl (wN_idx (b := sb) (o := 0) (k := i) (j := (i : Int)) rfl rfl rfl hi ?_)
        refine wN_g rfl (wN_addo (b := sb) (o := 0 + i * 4) rfl ?_)
        refine wN_g rfl (wN_lda (b := sb) (o := 0 + i * 4 + 2) rfl rsb (tkc_w hx) ?_)
        refine wN_g rfl (wN_callB rfl (spW36_ok) ?_)
        intro tH2 H2 hH2 kH2
        have mH2 := kH2.1
        have hk := hk.trans kH2
        have kb := kb.trans kH2
        have rsb := kH2.rd rsb (by simp)
        cases tH2
        · have fhH2 := spW_f hH2
          refine wN_g rfl (wN_pur (v := .bool true) rfl rfl ?_)
          refine wN_pur (v := .bool true) rfl rfl ?_
          refine wN_end ?_
          refine condT ?_
          have hok : x.ok = false := by simp only [Tk.ok, spW, Bool.and_eq_true, Bool.and_eq_false_iff, Bool.or_eq_true, Bool.or_eq_false_iff, Bool.not_eq_true', Bool.not_eq_false', decide_eq_true_eq, decide_eq_false_iff_not]; omega
          refine wN_seq ?_
          refine wN_mov (v := .bool false) rfl ?_
          refine wN_end ?_
          exact And.intro trivial (Exists.intro _ (And.intro rfl ⟨congrArg Value.bool (show false = tksOk us from (by symm; unfold tksOk; rw [all_fail hx hok]; simp)), hk⟩))
        · have fhH2 := spW_t hH2
          refine wN_g rfl (wN_pur (v := .bool false) rfl rfl ?_)
          refine wN_pur (v := .bool false) rfl rfl ?_
          refine wN_end ?_
          refine condF ?_
          have hok : x.ok = true := by simp only [Tk.ok, spW, Bool.and_eq_true, Bool.and_eq_false_iff, Bool.or_eq_true, Bool.or_eq_false_iff, Bool.not_eq_true', Bool.not_eq_false', decide_eq_true_eq, decide_eq_false_iff_not]; omega
          first | refine wN_skip ?_ | skip
          first | refine wN_reg ?_ | refine wN_blk ?_ | refine wN_bseq ?_ | (refine wOps_nil ?_; refine wN_reg ?_)
          refine wN_mov (v := iv (i : Int)) rfl ?_
          refine wN_add (a := (i : Int)) (b := 1) rfl rfl ⟨by omega, by omega⟩ ?_
          refine wN_mov (v := iv ((i : Int) + 1)) rfl ?_
          refine wN_end ?_
          exact ⟨k - 1, i + 1, by omega, ⟨by omega, kb, by rw [all_step hx, hall, hok]; rfl⟩, rfl, rfl, trivial⟩
end
end Go.Ax

/-! What 'low' makes of functions of station (written by program). -/
namespace Go.Ax
open Go Go.RowKit Go.Proofs
theorem N65 : Try.f65.ntmps = 22 := by kernel_rfl
theorem Z65 : Try.f65.results.toList = ((List.toArray [(.tmp 2)]) : Array ResultVar).toList := by kernel_rfl
theorem B65 : Try.f65.body = some (at_ Try.f65 []) := by kernel_rfl
noncomputable def R65 : RC := (.seq (.reg [⟨(some 1), none, (.box 93 (.tmp 0))⟩, ⟨(some 2), none, (.mov (.const (.int .i64 0)))⟩])
  (.seq (.reg [⟨(some 3), none, (.mov (.const (.int .i64 0)))⟩])
  (.seq (.seq (.reg [⟨(some 5), none, (.addo (.tmp 1) 8)⟩, ⟨(some 6), none, (.ld (.tmp 5) 1)⟩, ⟨(some 7), none, (.mov (.const (.int .i64 0)))⟩])
  (.block 0 (.other (at_ Try.f65 [1, 1, 0, 1, 0]))))
  (.seq (.reg [⟨(some 21), none, (.mov (.tmp 3))⟩, ⟨(some 2), none, (.mov (.tmp 21))⟩])
  .ret))))
theorem L65 : low Try.prog Try.f65.ntmps (at_ Try.f65 []) = some R65 := by kernel_rfl
theorem E65_1 : at_ Try.f65 [1, 1, 0, 1, 0] = .loop (at_ Try.f65 [1, 1, 0, 1, 0, 0]) := by kernel_rfl
noncomputable def R65x1 : RC := (.seq (.reg [⟨(some 8), none, (.cmp .lss (.tmp 7) (.tmp 6))⟩])
  (.seq (.cond (.tmp 8) .skip
  (.exit 0))
  (.seq (.block 1 (.seq (.reg [⟨(some 9), none, (.mov (.tmp 7))⟩, ⟨(some 4), none, (.mov (.tmp 9))⟩])
  (.seq (.dreg [⟨(some 10), none, (.mov (.tmp 4))⟩, ⟨(some 11), none, (.addo (.tmp 1) 0)⟩, ⟨(some 12), none, (.idxa (.tmp 11) (.tmp 10) 8 1)⟩, ⟨(some 13), none, (.ld (.tmp 12) 1)⟩, ⟨(some 14), none, (.mov (.tmp 3))⟩, ⟨(some 15), none, (.addo (.tmp 1) 0)⟩, ⟨(some 16), none, (.idxa (.tmp 15) (.tmp 14) 8 1)⟩, ⟨(some 17), none, (.ld (.tmp 16) 1)⟩, ⟨(some 18), none, (.cmp .lss (.tmp 13) (.tmp 17))⟩] [255, 112, 48, 0, 0, 7, 3, 0, 0])
  (.cond (.tmp 18) (.reg [⟨(some 19), none, (.mov (.tmp 4))⟩, ⟨(some 3), none, (.mov (.tmp 19))⟩])
  .skip))))
  (.reg [⟨(some 20), none, (.ari .add (.tmp 7) (.const (.int .i64 1)))⟩, ⟨(some 7), none, (.mov (.tmp 20))⟩]))))
theorem L65x1 : low Try.prog Try.f65.ntmps (at_ Try.f65 [1, 1, 0, 1, 0, 0]) = some R65x1 := by kernel_rfl
theorem N59 : Try.f59.ntmps = 40 := by kernel_rfl
theorem Z59 : Try.f59.results.toList = ((List.toArray [(.cell 6 93), (.cell 7 78)]) : Array ResultVar).toList := by kernel_rfl
theorem B59 : Try.f59.body = some (at_ Try.f59 []) := by kernel_rfl
noncomputable def R59 : RC := (.seq (.reg [⟨(some 3), none, (.box 93 (.tmp 0))⟩, ⟨(some 6), none, (.alc 93 [(.int .i64 0), (.int .i64 0), (.int .i64 0), (.int .i64 0), (.int .i64 0), (.int .i64 0), (.int .i64 0), (.int .i64 0), (.int .i64 0), (.int .i64 0)])⟩, ⟨(some 7), none, (.alc 78 [(.int .i64 0), (.int .i64 0), (.int .i64 0)])⟩])
  (.seq (.reg [⟨(some 11), none, (.lda (.tmp 3) 10)⟩, ⟨(some 12), none, (.call ⟨(.value (.func 65)), (List.toArray [(.tmp 11)]), (List.toArray [93])⟩ true)⟩, ⟨(some 8), none, (.mov (.tmp 12))⟩])
  (.seq (.dreg [⟨(some 13), none, (.addo (.tmp 3) 9)⟩, ⟨(some 14), none, (.ld (.tmp 13) 1)⟩, ⟨(some 15), none, (.mov (.tmp 8))⟩, ⟨(some 16), none, (.addo (.tmp 3) 0)⟩, ⟨(some 17), none, (.idxa (.tmp 16) (.tmp 15) 8 1)⟩, ⟨(some 18), none, (.ld (.tmp 17) 1)⟩, ⟨(some 19), none, (.mm false (.tmp 14) (.tmp 18))⟩, ⟨(some 9), none, (.mov (.tmp 19))⟩] [127, 63, 28, 12, 0, 0, 1, 0])
  (.seq (.reg [⟨(some 20), none, (.mov (.tmp 9))⟩, ⟨(some 21), none, (.mov (.tmp 9))⟩, ⟨(some 22), none, (.mov (.tmp 1))⟩, ⟨(some 23), none, (.mm false (.tmp 21) (.tmp 22))⟩, ⟨(some 24), none, (.pur ⟨(some 24), (.build 78 (List.toArray [(0, (.tmp 20)), (1, (.tmp 23))])), 78, "", (List.toArray []), none⟩)⟩, ⟨(some 10), none, (.alc 78 [(.int .i64 0), (.int .i64 0), (.int .i64 0)])⟩, ⟨none, none, (.sta (.tmp 10) (.tmp 24) 3)⟩])
  (.seq (.reg [⟨(some 25), none, (.addo (.tmp 10) 1)⟩, ⟨(some 26), none, (.ld (.tmp 25) 1)⟩, ⟨(some 27), none, (.mov (.tmp 2))⟩, ⟨(some 28), none, (.ari .add (.tmp 26) (.tmp 27))⟩, ⟨(some 29), none, (.addo (.tmp 10) 2)⟩, ⟨none, none, (.st (.tmp 29) (.tmp 28))⟩])
  (.seq (.dreg [⟨(some 30), none, (.mov (.tmp 8))⟩, ⟨(some 31), none, (.addo (.tmp 10) 2)⟩, ⟨(some 32), none, (.ld (.tmp 31) 1)⟩, ⟨(some 33), none, (.addo (.tmp 10) 1)⟩, ⟨(some 34), none, (.ld (.tmp 33) 1)⟩, ⟨(some 35), none, (.addo (.tmp 3) 0)⟩, ⟨(some 36), none, (.idxa (.tmp 35) (.tmp 30) 8 1)⟩, ⟨none, none, (.st (.tmp 36) (.tmp 32))⟩, ⟨(some 37), none, (.addo (.tmp 3) 9)⟩, ⟨none, none, (.st (.tmp 37) (.tmp 34))⟩] [511, 255, 103, 39, 0, 8, 0, 2, 0, 0])
  (.seq (.dreg [⟨(some 38), none, (.lda (.tmp 3) 10)⟩, ⟨(some 39), none, (.lda (.tmp 10) 3)⟩, ⟨none, none, (.sta (.tmp 6) (.tmp 38) 10)⟩, ⟨none, none, (.sta (.tmp 7) (.tmp 39) 3)⟩] [7, 1, 0, 0])
  .ret)))))))
theorem L59 : low Try.prog Try.f59.ntmps (at_ Try.f59 []) = some R59 := by kernel_rfl
theorem N58 : Try.f58.ntmps = 22 := by kernel_rfl
theorem Z58 : Try.f58.results.toList = ((List.toArray [(.cell 4 78)]) : Array ResultVar).toList := by kernel_rfl
theorem B58 : Try.f58.body = some (at_ Try.f58 []) := by kernel_rfl
noncomputable def R58 : RC := (.seq (.reg [⟨(some 3), none, (.box 49 (.tmp 0))⟩, ⟨(some 4), none, (.alc 78 [(.int .i64 0), (.int .i64 0), (.int .i64 0)])⟩])
  (.seq (.dreg [⟨(some 8), none, (.lda (.tmp 1) 10)⟩, ⟨(some 9), none, (.ld (.tmp 2) 1)⟩, ⟨(some 10), none, (.addo (.tmp 3) 0)⟩, ⟨(some 11), none, (.lda (.tmp 10) 2)⟩, ⟨(some 12), none, (.call ⟨(.value (.tmp 9)), (List.toArray [(.tmp 11)]), (List.toArray [47])⟩ false)⟩, ⟨(some 13), none, (.ld (.tmp 2) 1)⟩, ⟨(some 14), none, (.addo (.tmp 3) 2)⟩, ⟨(some 15), none, (.lda (.tmp 14) 2)⟩, ⟨(some 16), none, (.call ⟨(.value (.tmp 13)), (List.toArray [(.tmp 15)]), (List.toArray [47])⟩ false)⟩, ⟨(some 17), none, (.call ⟨(.value (.func 59)), (List.toArray [(.tmp 8), (.tmp 12), (.tmp 16)]), (List.toArray [93, 3, 3])⟩ false)⟩, ⟨(some 7), none, (.mov (.tmp 17))⟩, ⟨(some 18), none, (.pur ⟨(some 18), (.extract (.tmp 7) 0), 93, "", (List.toArray []), none⟩)⟩, ⟨(some 19), none, (.pur ⟨(some 19), (.extract (.tmp 7) 1), 78, "", (List.toArray []), none⟩)⟩, ⟨(some 5), none, (.alc 93 [(.int .i64 0), (.int .i64 0), (.int .i64 0), (.int .i64 0), (.int .i64 0), (.int .i64 0), (.int .i64 0), (.int .i64 0), (.int .i64 0), (.int .i64 0)])⟩, ⟨(some 6), none, (.alc 78 [(.int .i64 0), (.int .i64 0), (.int .i64 0)])⟩, ⟨none, none, (.sta (.tmp 5) (.tmp 18) 10)⟩, ⟨none, none, (.sta (.tmp 6) (.tmp 19) 3)⟩] [65535, 28671, 0, 0, 2047, 2047, 1023, 511, 254, 64, 0, 0, 14, 4, 0, 0, 0])
  (.seq (.reg [⟨(some 20), none, (.lda (.tmp 5) 10)⟩, ⟨none, none, (.sta (.tmp 1) (.tmp 20) 10)⟩])
  (.seq (.reg [⟨(some 21), none, (.lda (.tmp 6) 3)⟩, ⟨none, none, (.sta (.tmp 4) (.tmp 21) 3)⟩])
  .ret))))
theorem L58 : low Try.prog Try.f58.ntmps (at_ Try.f58 []) = some R58 := by kernel_rfl
theorem N40 : Try.f40.ntmps = 9 := by kernel_rfl
theorem Z40 : Try.f40.results.toList = ((List.toArray [(.tmp 4)]) : Array ResultVar).toList := by kernel_rfl
theorem B40 : Try.f40.body = some (at_ Try.f40 []) := by kernel_rfl
noncomputable def R40 : RC := (.seq (.reg [⟨(some 3), none, (.box 76 (.tmp 1))⟩, ⟨(some 4), none, (.mov (.const .nilFunc))⟩])
  (.seq (.reg [⟨(some 6), none, (.mov (.tmp 0))⟩, ⟨(some 7), none, (.pur ⟨(some 7), (.build 93 (List.toArray [(1, (.tmp 6))])), 93, "", (List.toArray []), none⟩)⟩, ⟨(some 5), none, (.alc 93 [(.int .i64 0), (.int .i64 0), (.int .i64 0), (.int .i64 0), (.int .i64 0), (.int .i64 0), (.int .i64 0), (.int .i64 0), (.int .i64 0), (.int .i64 0)])⟩, ⟨none, none, (.sta (.tmp 5) (.tmp 7) 10)⟩])
  (.seq (.reg [⟨(some 8), none, (.pur ⟨(some 8), (.makeFunc (.func 58) (List.toArray []) (List.toArray [(.tmp 5), (.tmp 3)])), 74, "", (List.toArray []), none⟩)⟩, ⟨(some 4), none, (.mov (.tmp 8))⟩])
  .ret)))
theorem L40 : low Try.prog Try.f40.ntmps (at_ Try.f40 []) = some R40 := by kernel_rfl
theorem N27 : Try.f27.ntmps = 62 := by kernel_rfl
theorem Z27 : Try.f27.results.toList = ((List.toArray [(.tmp 4)]) : Array ResultVar).toList := by kernel_rfl
theorem B27 : Try.f27.body = some (at_ Try.f27 []) := by kernel_rfl
noncomputable def R27 : RC := (.seq (.reg [⟨(some 4), none, (.mov (.const (.slice none 0 0)))⟩])
  (.seq (.reg [⟨(some 12), none, (.mov (.tmp 1))⟩, ⟨(some 13), none, (.call ⟨(.value (.func 40)), (List.toArray [(.tmp 12), (.func 41)]), (List.toArray [3, 76])⟩ true)⟩, ⟨(some 5), none, (.mov (.tmp 13))⟩])
  (.seq (.reg [⟨(some 14), none, (.mov (.tmp 1))⟩, ⟨(some 15), none, (.call ⟨(.value (.func 40)), (List.toArray [(.tmp 14), (.func 42)]), (List.toArray [3, 76])⟩ true)⟩, ⟨(some 6), none, (.mov (.tmp 15))⟩])
  (.seq (.reg [⟨(some 16), none, (.mov (.tmp 0))⟩, ⟨(some 17), none, (.len (.tmp 16))⟩, ⟨(some 18), none, (.mem ⟨(some 18), (.makeSlice 24 (.const (.int .i64 0)) (.tmp 17)), 24, "", (List.toArray []), none⟩)⟩, ⟨(some 7), none, (.mov (.tmp 18))⟩])
  (.seq (.seq (.reg [⟨(some 19), none, (.mov (.tmp 0))⟩, ⟨(some 20), none, (.len (.tmp 19))⟩, ⟨(some 21), none, (.mov (.const (.int .i64 0)))⟩])
  (.block 0 (.other (at_ Try.f27 [1, 1, 1, 1, 0, 1, 0]))))
  (.seq (.reg [⟨(some 61), none, (.mov (.tmp 7))⟩, ⟨(some 4), none, (.mov (.tmp 61))⟩])
  .ret))))))
theorem L27 : low Try.prog Try.f27.ntmps (at_ Try.f27 []) = some R27 := by kernel_rfl
theorem E27_1 : at_ Try.f27 [1, 1, 1, 1, 0, 1, 0] = .loop (at_ Try.f27 [1, 1, 1, 1, 0, 1, 0, 0]) := by kernel_rfl
noncomputable def R27x1 : RC := (.seq (.reg [⟨(some 22), none, (.cmp .lss (.tmp 21) (.tmp 20))⟩])
  (.seq (.cond (.tmp 22) .skip
  (.exit 0))
  (.seq (.block 1 (.seq (.reg [⟨(some 23), none, (.idx (.tmp 19) (.tmp 21) 4)⟩, ⟨(some 24), none, (.lda (.tmp 23) 4)⟩, ⟨(some 9), none, (.alc 49 [(.int .i64 0), (.int .i64 0), (.int .i64 0), (.int .i64 0)])⟩, ⟨none, none, (.sta (.tmp 9) (.tmp 24) 4)⟩])
  (.seq (.dreg [⟨(some 25), none, (.mov (.tmp 5))⟩, ⟨(some 26), none, (.lda (.tmp 9) 4)⟩, ⟨(some 27), none, (.call ⟨(.value (.tmp 25)), (List.toArray [(.tmp 26)]), (List.toArray [49])⟩ false)⟩, ⟨(some 28), none, (.mov (.tmp 6))⟩, ⟨(some 29), none, (.lda (.tmp 9) 4)⟩, ⟨(some 30), none, (.call ⟨(.value (.tmp 28)), (List.toArray [(.tmp 29)]), (List.toArray [49])⟩ false)⟩, ⟨(some 10), none, (.alc 78 [(.int .i64 0), (.int .i64 0), (.int .i64 0)])⟩, ⟨(some 11), none, (.alc 78 [(.int .i64 0), (.int .i64 0), (.int .i64 0)])⟩, ⟨none, none, (.sta (.tmp 10) (.tmp 27) 3)⟩, ⟨none, none, (.sta (.tmp 11) (.tmp 30) 3)⟩] [511, 255, 0, 0, 31, 0, 0, 3, 0, 0])
  (.dreg [⟨(some 31), none, (.mov (.tmp 7))⟩, ⟨(some 32), none, (.addo (.tmp 10) 1)⟩, ⟨(some 33), none, (.ld (.tmp 32) 1)⟩, ⟨(some 34), none, (.addo (.tmp 11) 1)⟩, ⟨(some 35), none, (.ld (.tmp 34) 1)⟩, ⟨(some 36), none, (.call ⟨(.value (.func 43)), (List.toArray [(.tmp 33), (.tmp 35)]), (List.toArray [3, 3])⟩ false)⟩, ⟨(some 37), none, (.addo (.tmp 10) 2)⟩, ⟨(some 38), none, (.ld (.tmp 37) 1)⟩, ⟨(some 39), none, (.addo (.tmp 11) 2)⟩, ⟨(some 40), none, (.ld (.tmp 39) 1)⟩, ⟨(some 41), none, (.call ⟨(.value (.func 43)), (List.toArray [(.tmp 38), (.tmp 40)]), (List.toArray [3, 3])⟩ false)⟩, ⟨(some 42), none, (.addo (.tmp 10) 0)⟩, ⟨(some 43), none, (.ld (.tmp 42) 1)⟩, ⟨(some 44), none, (.addo (.tmp 9) 0)⟩, ⟨(some 45), none, (.addo (.tmp 44) 1)⟩, ⟨(some 46), none, (.ld (.tmp 45) 1)⟩, ⟨(some 47), none, (.ari .sub (.tmp 43) (.tmp 46))⟩, ⟨(some 48), none, (.mm false (.const (.int .i64 0)) (.tmp 47))⟩, ⟨(some 49), none, (.addo (.tmp 11) 0)⟩, ⟨(some 50), none, (.ld (.tmp 49) 1)⟩, ⟨(some 51), none, (.addo (.tmp 9) 0)⟩, ⟨(some 52), none, (.addo (.tmp 51) 0)⟩, ⟨(some 53), none, (.ld (.tmp 52) 1)⟩, ⟨(some 54), none, (.ari .sub (.tmp 50) (.tmp 53))⟩, ⟨(some 55), none, (.mm false (.const (.int .i64 0)) (.tmp 54))⟩, ⟨(some 56), none, (.call ⟨(.value (.func 43)), (List.toArray [(.tmp 48), (.tmp 55)]), (List.toArray [3, 3])⟩ true)⟩, ⟨(some 57), none, (.pur ⟨(some 57), (.build 52 (List.toArray [(0, (.tmp 36)), (1, (.tmp 41)), (2, (.tmp 56))])), 52, "", (List.toArray []), none⟩)⟩, ⟨(some 58), none, (.mem ⟨(some 58), (.buildSlice 24 1 (List.toArray [(0, (.tmp 57))])), 24, "", (List.toArray []), none⟩)⟩, ⟨(some 59), none, (.mem ⟨(some 59), (.call ⟨(.builtin .append), (List.toArray [(.tmp 31), (.tmp 58)]), (List.toArray [24, 24])⟩), 24, "", (List.toArray []), none⟩)⟩, ⟨(some 7), none, (.mov (.tmp 59))⟩] [536870911, 268435455, 134217726, 67108862, 33554430, 16515072, 8126464, 3145728, 1048576, 0, 262144, 0, 129024, 63488, 24576, 8192, 0, 2048, 0, 1022, 256, 0, 64, 0, 30, 8, 0, 2, 0, 0]))))
  (.reg [⟨(some 60), none, (.ari .add (.tmp 21) (.const (.int .i64 1)))⟩, ⟨(some 21), none, (.mov (.tmp 60))⟩]))))
theorem L27x1 : low Try.prog Try.f27.ntmps (at_ Try.f27 [1, 1, 1, 1, 0, 1, 0, 0]) = some R27x1 := by kernel_rfl
theorem N31 : Try.f31.ntmps = 19 := by kernel_rfl
theorem Z31 : Try.f31.results.toList = ((List.toArray [(.tmp 2)]) : Array ResultVar).toList := by kernel_rfl
theorem B31 : Try.f31.body = some (at_ Try.f31 []) := by kernel_rfl
noncomputable def R31 : RC := (.seq (.reg [⟨(some 2), none, (.mov (.const (.int .i64 0)))⟩])
  (.seq (.reg [⟨(some 3), none, (.mov (.const (.int .i64 0)))⟩])
  (.seq (.seq (.reg [⟨(some 6), none, (.mov (.tmp 0))⟩, ⟨(some 7), none, (.len (.tmp 6))⟩, ⟨(some 8), none, (.mov (.const (.int .i64 0)))⟩])
  (.block 0 (.other (at_ Try.f31 [1, 1, 0, 1, 0]))))
  (.seq (.reg [⟨(some 18), none, (.mov (.tmp 3))⟩, ⟨(some 2), none, (.mov (.tmp 18))⟩])
  .ret))))
theorem L31 : low Try.prog Try.f31.ntmps (at_ Try.f31 []) = some R31 := by kernel_rfl
theorem E31_1 : at_ Try.f31 [1, 1, 0, 1, 0] = .loop (at_ Try.f31 [1, 1, 0, 1, 0, 0]) := by kernel_rfl
noncomputable def R31x1 : RC := (.seq (.reg [⟨(some 9), none, (.cmp .lss (.tmp 8) (.tmp 7))⟩])
  (.seq (.cond (.tmp 9) .skip
  (.exit 0))
  (.seq (.block 1 (.seq (.reg [⟨(some 10), none, (.idx (.tmp 6) (.tmp 8) 6)⟩, ⟨(some 11), none, (.lda (.tmp 10) 6)⟩, ⟨(some 5), none, (.alc 52 [(.int .i64 0), (.int .i64 0), (.int .i64 0), (.int .i64 0), (.int .i64 0), (.int .i64 0)])⟩, ⟨none, none, (.sta (.tmp 5) (.tmp 11) 6)⟩])
  (.reg [⟨(some 12), none, (.mov (.tmp 3))⟩, ⟨(some 13), none, (.addo (.tmp 5) 4)⟩, ⟨(some 14), none, (.addo (.tmp 13) 1)⟩, ⟨(some 15), none, (.ld (.tmp 14) 1)⟩, ⟨(some 16), none, (.mm false (.tmp 12) (.tmp 15))⟩, ⟨(some 3), none, (.mov (.tmp 16))⟩])))
  (.reg [⟨(some 17), none, (.ari .add (.tmp 8) (.const (.int .i64 1)))⟩, ⟨(some 8), none, (.mov (.tmp 17))⟩]))))
theorem L31x1 : low Try.prog Try.f31.ntmps (at_ Try.f31 [1, 1, 0, 1, 0, 0]) = some R31x1 := by kernel_rfl
theorem N11 : Try.f11.ntmps = 18 := by kernel_rfl
theorem Z11 : Try.f11.results.toList = ((List.toArray [(.tmp 4), (.tmp 5)]) : Array ResultVar).toList := by kernel_rfl
theorem B11 : Try.f11.body = some (at_ Try.f11 []) := by kernel_rfl
noncomputable def R11 : RC := (.seq (.reg [⟨(some 4), none, (.mov (.const (.slice none 0 0)))⟩, ⟨(some 5), none, (.mov (.const (.int .i64 0)))⟩])
  (.seq (.seq (.reg [⟨(some 6), none, (.mov (.tmp 0))⟩, ⟨(some 7), none, (.call ⟨(.value (.func 26)), (List.toArray [(.tmp 6)]), (List.toArray [22])⟩ true)⟩, ⟨(some 8), none, (.pur ⟨(some 8), (.unOp .not 4 (.tmp 7)), 4, "", (List.toArray []), none⟩)⟩])
  (.cond (.tmp 8) (.seq (.reg [⟨(some 4), none, (.mov (.const (.slice none 0 0)))⟩, ⟨(some 5), none, (.mov (.const (.int .i64 1)))⟩])
  .ret)
  .skip))
  (.seq (.seq (.reg [⟨(some 9), none, (.mov (.tmp 1))⟩, ⟨(some 10), none, (.cmpb .lss (.tmp 9) (.const (.int .i64 1)))⟩, ⟨(some 11), none, (.mov (.tmp 10))⟩, ⟨(some 12), (some (11, false)), (.mov (.tmp 1))⟩, ⟨(some 13), (some (11, false)), (.cmpb .gtr (.tmp 12) (.const (.int .i64 8)))⟩, ⟨(some 14), none, (.pur ⟨(some 14), (.pick (.tmp 11) (.const (.bool true)) (.tmp 13)), 4, "", (List.toArray []), none⟩)⟩])
  (.cond (.tmp 14) (.seq (.reg [⟨(some 4), none, (.mov (.const (.slice none 0 0)))⟩, ⟨(some 5), none, (.mov (.const (.int .i64 2)))⟩])
  .ret)
  .skip))
  (.seq (.reg [⟨(some 15), none, (.mov (.tmp 0))⟩, ⟨(some 16), none, (.mov (.tmp 1))⟩, ⟨(some 17), none, (.call ⟨(.value (.func 27)), (List.toArray [(.tmp 15), (.tmp 16)]), (List.toArray [22, 3])⟩ true)⟩, ⟨(some 4), none, (.mov (.tmp 17))⟩, ⟨(some 5), none, (.mov (.const (.int .i64 0)))⟩])
  .ret))))
theorem L11 : low Try.prog Try.f11.ntmps (at_ Try.f11 []) = some R11 := by kernel_rfl
theorem N13 : Try.f13.ntmps = 24 := by kernel_rfl
theorem Z13 : Try.f13.results.toList = ((List.toArray [(.tmp 4), (.tmp 5)]) : Array ResultVar).toList := by kernel_rfl
theorem B13 : Try.f13.body = some (at_ Try.f13 []) := by kernel_rfl
noncomputable def R13 : RC := (.seq (.reg [⟨(some 4), none, (.mov (.const (.int .i64 0)))⟩, ⟨(some 5), none, (.mov (.const (.int .i64 0)))⟩])
  (.seq (.seq (.reg [⟨(some 7), none, (.mov (.tmp 0))⟩, ⟨(some 8), none, (.call ⟨(.value (.func 26)), (List.toArray [(.tmp 7)]), (List.toArray [22])⟩ true)⟩, ⟨(some 9), none, (.pur ⟨(some 9), (.unOp .not 4 (.tmp 8)), 4, "", (List.toArray []), none⟩)⟩])
  (.cond (.tmp 9) (.seq (.reg [⟨(some 4), none, (.mov (.const (.int .i64 0)))⟩, ⟨(some 5), none, (.mov (.const (.int .i64 1)))⟩])
  .ret)
  .skip))
  (.seq (.seq (.reg [⟨(some 10), none, (.mov (.tmp 1))⟩, ⟨(some 11), none, (.call ⟨(.value (.func 30)), (List.toArray [(.tmp 10), (.const (.int .i64 1048576))]), (List.toArray [3, 3])⟩ true)⟩, ⟨(some 12), none, (.pur ⟨(some 12), (.unOp .not 4 (.tmp 11)), 4, "", (List.toArray []), none⟩)⟩])
  (.cond (.tmp 12) (.seq (.reg [⟨(some 4), none, (.mov (.const (.int .i64 0)))⟩, ⟨(some 5), none, (.mov (.const (.int .i64 2)))⟩])
  .ret)
  .skip))
  (.seq (.seq (.reg [⟨(some 6), none, (.mov (.const (.int .i64 1)))⟩])
  (.block 0 (.other (at_ Try.f13 [1, 1, 1, 0, 1, 0]))))
  (.seq (.reg [⟨(some 4), none, (.mov (.const (.int .i64 0)))⟩, ⟨(some 5), none, (.mov (.const (.int .i64 4)))⟩])
  .ret)))))
theorem L13 : low Try.prog Try.f13.ntmps (at_ Try.f13 []) = some R13 := by kernel_rfl
theorem E13_1 : at_ Try.f13 [1, 1, 1, 0, 1, 0] = .loop (at_ Try.f13 [1, 1, 1, 0, 1, 0, 0]) := by kernel_rfl
noncomputable def R13x1 : RC := (.seq (.seq (.reg [⟨(some 13), none, (.mov (.tmp 6))⟩, ⟨(some 14), none, (.cmp .leq (.tmp 13) (.const (.int .i64 8)))⟩])
  (.cond (.tmp 14) .skip
  (.exit 0)))
  (.seq (.block 1 (.seq (.reg [⟨(some 17), none, (.mov (.tmp 0))⟩, ⟨(some 18), none, (.mov (.tmp 6))⟩, ⟨(some 19), none, (.call ⟨(.value (.func 27)), (List.toArray [(.tmp 17), (.tmp 18)]), (List.toArray [22, 3])⟩ true)⟩, ⟨(some 20), none, (.call ⟨(.value (.func 31)), (List.toArray [(.tmp 19)]), (List.toArray [24])⟩ true)⟩, ⟨(some 21), none, (.mov (.tmp 1))⟩, ⟨(some 22), none, (.cmp .leq (.tmp 20) (.tmp 21))⟩])
  (.cond (.tmp 22) (.seq (.reg [⟨(some 23), none, (.mov (.tmp 6))⟩, ⟨(some 4), none, (.mov (.tmp 23))⟩, ⟨(some 5), none, (.mov (.const (.int .i64 0)))⟩])
  .ret)
  .skip)))
  (.reg [⟨(some 15), none, (.mov (.tmp 6))⟩, ⟨(some 16), none, (.ari .add (.tmp 15) (.const (.int .i64 1)))⟩, ⟨(some 6), none, (.mov (.tmp 16))⟩])))
theorem L13x1 : low Try.prog Try.f13.ntmps (at_ Try.f13 [1, 1, 1, 0, 1, 0, 0]) = some R13x1 := by kernel_rfl
theorem N47 : Try.f47.ntmps = 21 := by kernel_rfl
theorem Z47 : Try.f47.results.toList = ((List.toArray [(.tmp 4)]) : Array ResultVar).toList := by kernel_rfl
theorem B47 : Try.f47.body = some (at_ Try.f47 []) := by kernel_rfl
noncomputable def R47 : RC := (.seq (.reg [⟨(some 4), none, (.mov (.const (.int .i64 0)))⟩])
  (.seq (.reg [⟨(some 5), none, (.mov (.const (.int .i64 0)))⟩])
  (.seq (.seq (.reg [⟨(some 8), none, (.mov (.tmp 0))⟩, ⟨(some 9), none, (.len (.tmp 8))⟩, ⟨(some 10), none, (.mov (.const (.int .i64 0)))⟩])
  (.block 0 (.other (at_ Try.f47 [1, 1, 0, 1, 0]))))
  (.seq (.reg [⟨(some 20), none, (.mov (.tmp 5))⟩, ⟨(some 4), none, (.mov (.tmp 20))⟩])
  .ret))))
theorem L47 : low Try.prog Try.f47.ntmps (at_ Try.f47 []) = some R47 := by kernel_rfl
theorem E47_1 : at_ Try.f47 [1, 1, 0, 1, 0] = .loop (at_ Try.f47 [1, 1, 0, 1, 0, 0]) := by kernel_rfl
noncomputable def R47x1 : RC := (.seq (.reg [⟨(some 11), none, (.cmp .lss (.tmp 10) (.tmp 9))⟩])
  (.seq (.cond (.tmp 11) .skip
  (.exit 0))
  (.seq (.block 1 (.seq (.reg [⟨(some 12), none, (.idx (.tmp 8) (.tmp 10) 5)⟩, ⟨(some 13), none, (.lda (.tmp 12) 5)⟩, ⟨(some 7), none, (.alc 58 [(.int .i64 0), (.int .i64 0), (.int .i64 0), (.int .i64 0), (.int .i64 0)])⟩, ⟨none, none, (.sta (.tmp 7) (.tmp 13) 5)⟩])
  (.reg [⟨(some 14), none, (.mov (.tmp 5))⟩, ⟨(some 15), none, (.mov (.tmp 1))⟩, ⟨(some 16), none, (.lda (.tmp 7) 5)⟩, ⟨(some 17), none, (.call ⟨(.value (.tmp 15)), (List.toArray [(.tmp 16)]), (List.toArray [58])⟩ true)⟩, ⟨(some 18), none, (.ari .add (.tmp 14) (.tmp 17))⟩, ⟨(some 5), none, (.mov (.tmp 18))⟩])))
  (.reg [⟨(some 19), none, (.ari .add (.tmp 10) (.const (.int .i64 1)))⟩, ⟨(some 10), none, (.mov (.tmp 19))⟩]))))
theorem L47x1 : low Try.prog Try.f47.ntmps (at_ Try.f47 [1, 1, 0, 1, 0, 0]) = some R47x1 := by kernel_rfl
theorem N48 : Try.f48.ntmps = 5 := by kernel_rfl
theorem Z48 : Try.f48.results.toList = ((List.toArray [(.tmp 2)]) : Array ResultVar).toList := by kernel_rfl
theorem B48 : Try.f48.body = some (at_ Try.f48 []) := by kernel_rfl
noncomputable def R48 : RC := (.seq (.reg [⟨(some 1), none, (.box 58 (.tmp 0))⟩, ⟨(some 2), none, (.mov (.const (.int .i64 0)))⟩])
  (.seq (.reg [⟨(some 3), none, (.addo (.tmp 1) 0)⟩, ⟨(some 4), none, (.ld (.tmp 3) 1)⟩, ⟨(some 2), none, (.mov (.tmp 4))⟩])
  .ret))
theorem L48 : low Try.prog Try.f48.ntmps (at_ Try.f48 []) = some R48 := by kernel_rfl
theorem N49 : Try.f49.ntmps = 5 := by kernel_rfl
theorem Z49 : Try.f49.results.toList = ((List.toArray [(.tmp 2)]) : Array ResultVar).toList := by kernel_rfl
theorem B49 : Try.f49.body = some (at_ Try.f49 []) := by kernel_rfl
noncomputable def R49 : RC := (.seq (.reg [⟨(some 1), none, (.box 58 (.tmp 0))⟩, ⟨(some 2), none, (.mov (.const (.int .i64 0)))⟩])
  (.seq (.reg [⟨(some 3), none, (.addo (.tmp 1) 1)⟩, ⟨(some 4), none, (.ld (.tmp 3) 1)⟩, ⟨(some 2), none, (.mov (.tmp 4))⟩])
  .ret))
theorem L49 : low Try.prog Try.f49.ntmps (at_ Try.f49 []) = some R49 := by kernel_rfl
theorem N50 : Try.f50.ntmps = 5 := by kernel_rfl
theorem Z50 : Try.f50.results.toList = ((List.toArray [(.tmp 2)]) : Array ResultVar).toList := by kernel_rfl
theorem B50 : Try.f50.body = some (at_ Try.f50 []) := by kernel_rfl
noncomputable def R50 : RC := (.seq (.reg [⟨(some 1), none, (.box 58 (.tmp 0))⟩, ⟨(some 2), none, (.mov (.const (.int .i64 0)))⟩])
  (.seq (.reg [⟨(some 3), none, (.addo (.tmp 1) 2)⟩, ⟨(some 4), none, (.ld (.tmp 3) 1)⟩, ⟨(some 2), none, (.mov (.tmp 4))⟩])
  .ret))
theorem L50 : low Try.prog Try.f50.ntmps (at_ Try.f50 []) = some R50 := by kernel_rfl
theorem N51 : Try.f51.ntmps = 8 := by kernel_rfl
theorem Z51 : Try.f51.results.toList = ((List.toArray [(.tmp 2)]) : Array ResultVar).toList := by kernel_rfl
theorem B51 : Try.f51.body = some (at_ Try.f51 []) := by kernel_rfl
noncomputable def R51 : RC := (.seq (.reg [⟨(some 1), none, (.box 58 (.tmp 0))⟩, ⟨(some 2), none, (.mov (.const (.int .i64 0)))⟩])
  (.seq (.reg [⟨(some 3), none, (.addo (.tmp 1) 0)⟩, ⟨(some 4), none, (.ld (.tmp 3) 1)⟩, ⟨(some 5), none, (.addo (.tmp 1) 3)⟩, ⟨(some 6), none, (.ld (.tmp 5) 1)⟩, ⟨(some 7), none, (.ari .mul (.tmp 4) (.tmp 6))⟩, ⟨(some 2), none, (.mov (.tmp 7))⟩])
  .ret))
theorem L51 : low Try.prog Try.f51.ntmps (at_ Try.f51 []) = some R51 := by kernel_rfl
theorem N52 : Try.f52.ntmps = 8 := by kernel_rfl
theorem Z52 : Try.f52.results.toList = ((List.toArray [(.tmp 2)]) : Array ResultVar).toList := by kernel_rfl
theorem B52 : Try.f52.body = some (at_ Try.f52 []) := by kernel_rfl
noncomputable def R52 : RC := (.seq (.reg [⟨(some 1), none, (.box 58 (.tmp 0))⟩, ⟨(some 2), none, (.mov (.const (.int .i64 0)))⟩])
  (.seq (.reg [⟨(some 3), none, (.addo (.tmp 1) 0)⟩, ⟨(some 4), none, (.ld (.tmp 3) 1)⟩, ⟨(some 5), none, (.addo (.tmp 1) 4)⟩, ⟨(some 6), none, (.ld (.tmp 5) 1)⟩, ⟨(some 7), none, (.ari .mul (.tmp 4) (.tmp 6))⟩, ⟨(some 2), none, (.mov (.tmp 7))⟩])
  .ret))
theorem L52 : low Try.prog Try.f52.ntmps (at_ Try.f52 []) = some R52 := by kernel_rfl
theorem N33 : Try.f33.ntmps = 72 := by kernel_rfl
theorem Z33 : Try.f33.results.toList = ((List.toArray [(.cell 2 38)]) : Array ResultVar).toList := by kernel_rfl
theorem B33 : Try.f33.body = some (at_ Try.f33 []) := by kernel_rfl
noncomputable def R33 : RC := (.seq (.reg [⟨(some 1), none, (.box 34 (.tmp 0))⟩, ⟨(some 2), none, (.alc 38 [(.int .i64 0), (.int .i64 0), (.int .i64 0), (.int .i64 0), (.int .i64 0), (.int .i64 0)])⟩])
  (.seq (.reg [⟨(some 9), none, (.addo (.tmp 1) 5)⟩, ⟨(some 10), none, (.ld (.tmp 9) 1)⟩, ⟨(some 11), none, (.call ⟨(.value (.func 47)), (List.toArray [(.tmp 10), (.func 48)]), (List.toArray [32, 84])⟩ true)⟩, ⟨(some 3), none, (.mov (.tmp 11))⟩])
  (.seq (.reg [⟨(some 12), none, (.addo (.tmp 1) 5)⟩, ⟨(some 13), none, (.ld (.tmp 12) 1)⟩, ⟨(some 14), none, (.call ⟨(.value (.func 47)), (List.toArray [(.tmp 13), (.func 49)]), (List.toArray [32, 84])⟩ true)⟩, ⟨(some 4), none, (.mov (.tmp 14))⟩])
  (.seq (.reg [⟨(some 15), none, (.addo (.tmp 1) 5)⟩, ⟨(some 16), none, (.ld (.tmp 15) 1)⟩, ⟨(some 17), none, (.call ⟨(.value (.func 47)), (List.toArray [(.tmp 16), (.func 50)]), (List.toArray [32, 84])⟩ true)⟩, ⟨(some 5), none, (.mov (.tmp 17))⟩])
  (.seq (.reg [⟨(some 18), none, (.addo (.tmp 1) 5)⟩, ⟨(some 19), none, (.ld (.tmp 18) 1)⟩, ⟨(some 20), none, (.call ⟨(.value (.func 47)), (List.toArray [(.tmp 19), (.func 51)]), (List.toArray [32, 84])⟩ true)⟩, ⟨(some 6), none, (.mov (.tmp 20))⟩])
  (.seq (.reg [⟨(some 21), none, (.addo (.tmp 1) 5)⟩, ⟨(some 22), none, (.ld (.tmp 21) 1)⟩, ⟨(some 23), none, (.call ⟨(.value (.func 47)), (List.toArray [(.tmp 22), (.func 52)]), (List.toArray [32, 84])⟩ true)⟩, ⟨(some 7), none, (.mov (.tmp 23))⟩])
  (.seq (.reg [⟨(some 24), none, (.addo (.tmp 1) 3)⟩, ⟨(some 25), none, (.ld (.tmp 24) 1)⟩, ⟨(some 26), none, (.addo (.tmp 1) 4)⟩, ⟨(some 27), none, (.ld (.tmp 26) 1)⟩, ⟨(some 28), none, (.ari .sub (.tmp 25) (.tmp 27))⟩, ⟨(some 29), none, (.pur ⟨(some 29), (.build 38 (List.toArray [(0, (.tmp 28))])), 38, "", (List.toArray []), none⟩)⟩, ⟨(some 8), none, (.alc 38 [(.int .i64 0), (.int .i64 0), (.int .i64 0), (.int .i64 0), (.int .i64 0), (.int .i64 0)])⟩, ⟨none, none, (.sta (.tmp 8) (.tmp 29) 6)⟩])
  (.seq (.reg [⟨(some 30), none, (.addo (.tmp 8) 0)⟩, ⟨(some 31), none, (.ld (.tmp 30) 1)⟩, ⟨(some 32), none, (.mov (.tmp 3))⟩, ⟨(some 33), none, (.mov (.tmp 4))⟩, ⟨(some 34), none, (.ari .sub (.tmp 32) (.tmp 33))⟩, ⟨(some 35), none, (.mov (.tmp 5))⟩, ⟨(some 36), none, (.ari .sub (.tmp 34) (.tmp 35))⟩, ⟨(some 37), none, (.ari .mul (.tmp 31) (.tmp 36))⟩, ⟨(some 38), none, (.mov (.tmp 3))⟩, ⟨(some 39), none, (.ari .quo (.tmp 37) (.tmp 38))⟩, ⟨(some 40), none, (.addo (.tmp 8) 1)⟩, ⟨none, none, (.st (.tmp 40) (.tmp 39))⟩])
  (.seq (.reg [⟨(some 41), none, (.addo (.tmp 8) 0)⟩, ⟨(some 42), none, (.ld (.tmp 41) 1)⟩, ⟨(some 43), none, (.mov (.tmp 4))⟩, ⟨(some 44), none, (.ari .mul (.tmp 42) (.tmp 43))⟩, ⟨(some 45), none, (.mov (.tmp 3))⟩, ⟨(some 46), none, (.ari .quo (.tmp 44) (.tmp 45))⟩, ⟨(some 47), none, (.addo (.tmp 8) 2)⟩, ⟨none, none, (.st (.tmp 47) (.tmp 46))⟩])
  (.seq (.reg [⟨(some 48), none, (.addo (.tmp 8) 0)⟩, ⟨(some 49), none, (.ld (.tmp 48) 1)⟩, ⟨(some 50), none, (.addo (.tmp 8) 1)⟩, ⟨(some 51), none, (.ld (.tmp 50) 1)⟩, ⟨(some 52), none, (.ari .sub (.tmp 49) (.tmp 51))⟩, ⟨(some 53), none, (.addo (.tmp 8) 2)⟩, ⟨(some 54), none, (.ld (.tmp 53) 1)⟩, ⟨(some 55), none, (.ari .sub (.tmp 52) (.tmp 54))⟩, ⟨(some 56), none, (.addo (.tmp 8) 3)⟩, ⟨none, none, (.st (.tmp 56) (.tmp 55))⟩])
  (.seq (.reg [⟨(some 57), none, (.addo (.tmp 8) 1)⟩, ⟨(some 58), none, (.ld (.tmp 57) 1)⟩, ⟨(some 59), none, (.mov (.tmp 6))⟩, ⟨(some 60), none, (.ari .mul (.tmp 58) (.tmp 59))⟩, ⟨(some 61), none, (.mov (.tmp 3))⟩, ⟨(some 62), none, (.ari .quo (.tmp 60) (.tmp 61))⟩, ⟨(some 63), none, (.addo (.tmp 8) 4)⟩, ⟨none, none, (.st (.tmp 63) (.tmp 62))⟩])
  (.seq (.reg [⟨(some 64), none, (.addo (.tmp 8) 1)⟩, ⟨(some 65), none, (.ld (.tmp 64) 1)⟩, ⟨(some 66), none, (.mov (.tmp 7))⟩, ⟨(some 67), none, (.ari .mul (.tmp 65) (.tmp 66))⟩, ⟨(some 68), none, (.mov (.tmp 3))⟩, ⟨(some 69), none, (.ari .quo (.tmp 67) (.tmp 68))⟩, ⟨(some 70), none, (.addo (.tmp 8) 5)⟩, ⟨none, none, (.st (.tmp 70) (.tmp 69))⟩])
  (.seq (.reg [⟨(some 71), none, (.lda (.tmp 8) 6)⟩, ⟨none, none, (.sta (.tmp 2) (.tmp 71) 6)⟩])
  .ret)))))))))))))
theorem L33 : low Try.prog Try.f33.ntmps (at_ Try.f33 []) = some R33 := by kernel_rfl
theorem N17 : Try.f17.ntmps = 10 := by kernel_rfl
theorem Z17 : Try.f17.results.toList = ((List.toArray [(.cell 2 38), (.tmp 3)]) : Array ResultVar).toList := by kernel_rfl
theorem B17 : Try.f17.body = some (at_ Try.f17 []) := by kernel_rfl
noncomputable def R17 : RC := (.seq (.reg [⟨(some 1), none, (.box 34 (.tmp 0))⟩, ⟨(some 2), none, (.alc 38 [(.int .i64 0), (.int .i64 0), (.int .i64 0), (.int .i64 0), (.int .i64 0), (.int .i64 0)])⟩, ⟨(some 3), none, (.mov (.const (.int .i64 0)))⟩])
  (.seq (.seq (.reg [⟨(some 4), none, (.lda (.tmp 1) 6)⟩, ⟨(some 5), none, (.call ⟨(.value (.func 32)), (List.toArray [(.tmp 4)]), (List.toArray [34])⟩ true)⟩, ⟨(some 6), none, (.pur ⟨(some 6), (.unOp .not 4 (.tmp 5)), 4, "", (List.toArray []), none⟩)⟩])
  (.cond (.tmp 6) (.seq (.reg [⟨(some 7), none, (.pur ⟨(some 7), (.build 38 (List.toArray [])), 38, "", (List.toArray []), none⟩)⟩, ⟨none, none, (.sta (.tmp 2) (.tmp 7) 6)⟩, ⟨(some 3), none, (.mov (.const (.int .i64 1)))⟩])
  .ret)
  .skip))
  (.seq (.reg [⟨(some 8), none, (.lda (.tmp 1) 6)⟩, ⟨(some 9), none, (.call ⟨(.value (.func 33)), (List.toArray [(.tmp 8)]), (List.toArray [34])⟩ true)⟩, ⟨none, none, (.sta (.tmp 2) (.tmp 9) 6)⟩, ⟨(some 3), none, (.mov (.const (.int .i64 0)))⟩])
  .ret)))
theorem L17 : low Try.prog Try.f17.ntmps (at_ Try.f17 []) = some R17 := by kernel_rfl
theorem N64 : Try.f64.ntmps = 22 := by kernel_rfl
theorem Z64 : Try.f64.results.toList = ((List.toArray []) : Array ResultVar).toList := by kernel_rfl
theorem B64 : Try.f64.body = some (at_ Try.f64 []) := by kernel_rfl
noncomputable def R64 : RC := (.seq (.reg [⟨(some 6), none, (.ld (.tmp 1) 1)⟩, ⟨(some 7), none, (.len (.tmp 6))⟩, ⟨(some 8), none, (.mov (.const (.int .i64 0)))⟩])
  (.block 0 (.other (at_ Try.f64 [1, 0]))))
theorem L64 : low Try.prog Try.f64.ntmps (at_ Try.f64 []) = some R64 := by kernel_rfl
theorem E64_1 : at_ Try.f64 [1, 0] = .loop (at_ Try.f64 [1, 0, 0]) := by kernel_rfl
noncomputable def R64x1 : RC := (.seq (.reg [⟨(some 9), none, (.cmp .lss (.tmp 8) (.tmp 7))⟩])
  (.seq (.cond (.tmp 9) .skip
  (.exit 0))
  (.seq (.block 1 (.seq (.reg [⟨(some 10), none, (.idx (.tmp 6) (.tmp 8) 1)⟩, ⟨(some 11), none, (.ld (.tmp 10) 1)⟩, ⟨(some 5), none, (.mov (.tmp 11))⟩])
  (.seq (.reg [⟨(some 12), none, (.mov (.tmp 0))⟩, ⟨(some 13), none, (.mov (.tmp 5))⟩, ⟨(some 14), none, (.ld (.tmp 2) 1)⟩, ⟨(some 15), none, (.mov (.tmp 5))⟩, ⟨(some 16), none, (.len (.tmp 15))⟩, ⟨(some 17), none, (.mm true (.tmp 14) (.tmp 16))⟩, ⟨(some 18), none, (.mem ⟨(some 18), (.slice 45 (.tmp 13) none (some (.tmp 17)) none), 45, "", (List.toArray []), none⟩)⟩, ⟨(some 19), none, (.call ⟨(.value (.tmp 12)), (List.toArray [(.tmp 18)]), (List.toArray [45])⟩ true)⟩, ⟨(some 20), none, (.pur ⟨(some 20), (.unOp .not 4 (.tmp 19)), 4, "", (List.toArray []), none⟩)⟩])
  (.cond (.tmp 20) .ret
  .skip))))
  (.reg [⟨(some 21), none, (.ari .add (.tmp 8) (.const (.int .i64 1)))⟩, ⟨(some 8), none, (.mov (.tmp 21))⟩]))))
theorem L64x1 : low Try.prog Try.f64.ntmps (at_ Try.f64 [1, 0, 0]) = some R64x1 := by kernel_rfl
theorem N55 : Try.f55.ntmps = 6 := by kernel_rfl
theorem Z55 : Try.f55.results.toList = ((List.toArray [(.tmp 4)]) : Array ResultVar).toList := by kernel_rfl
theorem B55 : Try.f55.body = some (at_ Try.f55 []) := by kernel_rfl
noncomputable def R55 : RC := (.seq (.reg [⟨(some 2), none, (.box 35 (.tmp 0))⟩, ⟨(some 3), none, (.box 3 (.tmp 1))⟩, ⟨(some 4), none, (.mov (.const .nilFunc))⟩])
  (.seq (.reg [⟨(some 5), none, (.pur ⟨(some 5), (.makeFunc (.func 64) (List.toArray []) (List.toArray [(.tmp 2), (.tmp 3)])), 87, "", (List.toArray []), none⟩)⟩, ⟨(some 4), none, (.mov (.tmp 5))⟩])
  .ret))
theorem L55 : low Try.prog Try.f55.ntmps (at_ Try.f55 []) = some R55 := by kernel_rfl
theorem N35 : Try.f35.ntmps = 28 := by kernel_rfl
theorem Z35 : Try.f35.results.toList = ((List.toArray [(.tmp 6)]) : Array ResultVar).toList := by kernel_rfl
theorem B35 : Try.f35.body = some (at_ Try.f35 []) := by kernel_rfl
noncomputable def R35 : RC := (.seq (.reg [⟨(some 4), none, (.box 3 (.tmp 1))⟩, ⟨(some 6), none, (.mov (.const (.int .i64 0)))⟩])
  (.scp (.seq (.reg [⟨(some 7), none, (.alc 3 [(.int .i64 0)])⟩, ⟨none, none, (.st (.tmp 7) (.const (.int .i64 0)))⟩])
  (.seq .skip
  (.seq (.seq (.reg [⟨(some 11), none, (.mov (.tmp 0))⟩, ⟨(some 12), none, (.mov (.tmp 2))⟩, ⟨(some 13), none, (.call ⟨(.value (.func 55)), (List.toArray [(.tmp 11), (.tmp 12)]), (List.toArray [35, 3])⟩ true)⟩])
  (.block 0 (.other (at_ Try.f35 [1, 0, 1, 1, 0, 1, 0]))))
  (.seq (.reg [⟨(some 27), none, (.ld (.tmp 7) 1)⟩, ⟨(some 6), none, (.mov (.tmp 27))⟩])
  .ret))))))
theorem L35 : low Try.prog Try.f35.ntmps (at_ Try.f35 []) = some R35 := by kernel_rfl
theorem E35_1 : at_ Try.f35 [1, 0, 1, 1, 0, 1, 0] = .rangeFunc (.tmp 13) ((List.toArray [14])) (at_ Try.f35 [1, 0, 1, 1, 0, 1, 0, 0]) (at_ Try.f35 [1, 0, 1, 1, 0, 1, 0, 1]) := by kernel_rfl
noncomputable def R35x1 : RC := (.reg [⟨(some 8), none, (.mov (.tmp 14))⟩])
theorem L35x1 : low Try.prog Try.f35.ntmps (at_ Try.f35 [1, 0, 1, 1, 0, 1, 0, 0]) = some R35x1 := by kernel_rfl
noncomputable def R35x2 : RC := (.block 1 (.seq (.reg [⟨(some 15), none, (.mov (.tmp 8))⟩, ⟨(some 16), none, (.len (.tmp 15))⟩, ⟨(some 17), none, (.mov (.const (.int .i64 0)))⟩])
  (.block 2 (.other (at_ Try.f35 [1, 0, 1, 1, 0, 1, 0, 1, 0, 1, 0])))))
theorem L35x2 : low Try.prog Try.f35.ntmps (at_ Try.f35 [1, 0, 1, 1, 0, 1, 0, 1]) = some R35x2 := by kernel_rfl
theorem E35_3 : at_ Try.f35 [1, 0, 1, 1, 0, 1, 0, 1, 0, 1, 0] = .loop (at_ Try.f35 [1, 0, 1, 1, 0, 1, 0, 1, 0, 1, 0, 0]) := by kernel_rfl
noncomputable def R35x3 : RC := (.seq (.reg [⟨(some 18), none, (.cmp .lss (.tmp 17) (.tmp 16))⟩])
  (.seq (.cond (.tmp 18) .skip
  (.exit 2))
  (.seq (.block 3 (.seq (.reg [⟨(some 19), none, (.idx (.tmp 15) (.tmp 17) 1)⟩, ⟨(some 20), none, (.ld (.tmp 19) 1)⟩, ⟨(some 10), none, (.mov (.tmp 20))⟩])
  (.seq (.reg [⟨(some 21), none, (.mov (.tmp 10))⟩, ⟨(some 22), none, (.ld (.tmp 4) 1)⟩, ⟨(some 23), none, (.cmp .geq (.tmp 21) (.tmp 22))⟩])
  (.cond (.tmp 23) (.seq (.reg [⟨(some 24), none, (.ld (.tmp 7) 1)⟩, ⟨(some 25), none, (.ari .add (.tmp 24) (.const (.int .i64 1)))⟩, ⟨none, none, (.st (.tmp 7) (.tmp 25))⟩])
  (.exit 1))
  .skip))))
  (.reg [⟨(some 26), none, (.ari .add (.tmp 17) (.const (.int .i64 1)))⟩, ⟨(some 17), none, (.mov (.tmp 26))⟩]))))
theorem L35x3 : low Try.prog Try.f35.ntmps (at_ Try.f35 [1, 0, 1, 1, 0, 1, 0, 1, 0, 1, 0, 0]) = some R35x3 := by kernel_rfl
theorem N19 : Try.f19.ntmps = 23 := by kernel_rfl
theorem Z19 : Try.f19.results.toList = ((List.toArray [(.tmp 6), (.tmp 7)]) : Array ResultVar).toList := by kernel_rfl
theorem B19 : Try.f19.body = some (at_ Try.f19 []) := by kernel_rfl
noncomputable def R19 : RC := (.seq (.reg [⟨(some 6), none, (.mov (.const (.int .i64 0)))⟩, ⟨(some 7), none, (.mov (.const (.int .i64 0)))⟩])
  (.seq (.seq (.reg [⟨(some 8), none, (.mov (.tmp 0))⟩, ⟨(some 9), none, (.call ⟨(.value (.func 34)), (List.toArray [(.tmp 8)]), (List.toArray [35])⟩ true)⟩, ⟨(some 10), none, (.pur ⟨(some 10), (.unOp .not 4 (.tmp 9)), 4, "", (List.toArray []), none⟩)⟩])
  (.cond (.tmp 10) (.seq (.reg [⟨(some 6), none, (.mov (.const (.int .i64 0)))⟩, ⟨(some 7), none, (.mov (.const (.int .i64 1)))⟩])
  .ret)
  .skip))
  (.seq (.seq (.reg [⟨(some 11), none, (.mov (.tmp 1))⟩, ⟨(some 12), none, (.call ⟨(.value (.func 30)), (List.toArray [(.tmp 11), (.const (.int .i64 4096))]), (List.toArray [3, 3])⟩ true)⟩, ⟨(some 13), none, (.pur ⟨(some 13), (.unOp .not 4 (.tmp 12)), 4, "", (List.toArray []), none⟩)⟩, ⟨(some 14), none, (.mov (.tmp 13))⟩, ⟨(some 15), (some (14, false)), (.mov (.tmp 2))⟩, ⟨(some 16), (some (14, false)), (.call ⟨(.value (.func 30)), (List.toArray [(.tmp 15), (.const (.int .i64 7))]), (List.toArray [3, 3])⟩ true)⟩, ⟨(some 17), (some (14, false)), (.pur ⟨(some 17), (.unOp .not 4 (.tmp 16)), 4, "", (List.toArray []), none⟩)⟩, ⟨(some 18), none, (.pur ⟨(some 18), (.pick (.tmp 14) (.const (.bool true)) (.tmp 17)), 4, "", (List.toArray []), none⟩)⟩])
  (.cond (.tmp 18) (.seq (.reg [⟨(some 6), none, (.mov (.const (.int .i64 0)))⟩, ⟨(some 7), none, (.mov (.const (.int .i64 2)))⟩])
  .ret)
  .skip))
  (.seq (.reg [⟨(some 19), none, (.mov (.tmp 0))⟩, ⟨(some 20), none, (.mov (.tmp 1))⟩, ⟨(some 21), none, (.mov (.tmp 2))⟩, ⟨(some 22), none, (.call ⟨(.value (.func 35)), (List.toArray [(.tmp 19), (.tmp 20), (.tmp 21)]), (List.toArray [35, 3, 3])⟩ true)⟩, ⟨(some 6), none, (.mov (.tmp 22))⟩, ⟨(some 7), none, (.mov (.const (.int .i64 0)))⟩])
  .ret))))
theorem L19 : low Try.prog Try.f19.ntmps (at_ Try.f19 []) = some R19 := by kernel_rfl
end Go.Ax

/-
  Station: bays: nextBay, unload, the closures, one after the other (written by program).
-/
namespace Go.Ax
open Go Go.RowKit Go.Proofs

theorem i47s : ∃ i, Try.prog.info? 47 = some i ∧ i.size = 2 := by
  have h : (Try.prog.info? 47).map (fun i => i.size) = some 2 := by kernel_rfl
  cases e : Try.prog.info? 47 with
  | none => rw [e] at h; cases h
  | some i => rw [e] at h; simp at h; exact ⟨i, rfl, h⟩
theorem a47 : isAggB Try.prog 47 = some true := by kernel_rfl
theorem i78s : ∃ i, Try.prog.info? 78 = some i ∧ i.size = 3 := by
  have h : (Try.prog.info? 78).map (fun i => i.size) = some 3 := by kernel_rfl
  cases e : Try.prog.info? 78 with
  | none => rw [e] at h; cases h
  | some i => rw [e] at h; simp at h; exact ⟨i, rfl, h⟩
theorem a78 : isAggB Try.prog 78 = some true := by kernel_rfl
theorem i93s : ∃ i, Try.prog.info? 93 = some i ∧ i.size = 10 := by
  have h : (Try.prog.info? 93).map (fun i => i.size) = some 10 := by kernel_rfl
  cases e : Try.prog.info? 93 with
  | none => rw [e] at h; cases h
  | some i => rw [e] at h; simp at h; exact ⟨i, rfl, h⟩
theorem a93 : isAggB Try.prog 93 = some true := by kernel_rfl
theorem i38s : ∃ i, Try.prog.info? 38 = some i ∧ i.size = 6 := by
  have h : (Try.prog.info? 38).map (fun i => i.size) = some 6 := by kernel_rfl
  cases e : Try.prog.info? 38 with
  | none => rw [e] at h; cases h
  | some i => rw [e] at h; simp at h; exact ⟨i, rfl, h⟩
theorem a38 : isAggB Try.prog 38 = some true := by kernel_rfl
theorem res_cell {P : Program} {S : Rg} {H : Hp} {a x n : Nat} {t : TypeId} {cs : List Value} (ha : lk S a = some (.pointer (some ⟨x, 0, none⟩))) (h1 : isAggB P t = some true) (hi : ∃ i, P.info? t = some i ∧ i.size = n) (hl : cs.length = n) (h : Cl H x cs) : resS P S H [.cell a t] = some [.agg cs.toArray] := by
  simp only [resS, ha, load_agg h1 hi h.rd hl]
theorem res_ct {P : Program} {S : Rg} {H : Hp} {a x n b : Nat} {t : TypeId} {cs : List Value} {v : Value} (ha : lk S a = some (.pointer (some ⟨x, 0, none⟩))) (h1 : isAggB P t = some true) (hi : ∃ i, P.info? t = some i ∧ i.size = n) (hl : cs.length = n) (h : Cl H x cs) (hb : lk S b = some v) : resS P S H [.cell a t, .tmp b] = some [.agg cs.toArray, v] := by
  simp only [resS, ha, hb, load_agg h1 hi h.rd hl]
theorem res_cc {P : Program} {S : Rg} {H : Hp} {a b x y n m : Nat} {t u : TypeId} {cs ds : List Value} (ha : lk S a = some (.pointer (some ⟨x, 0, none⟩))) (hb : lk S b = some (.pointer (some ⟨y, 0, none⟩))) (h1 : isAggB P t = some true) (hi : ∃ i, P.info? t = some i ∧ i.size = n) (hl : cs.length = n) (h2 : isAggB P u = some true) (hj : ∃ i, P.info? u = some i ∧ i.size = m) (hm : ds.length = m) (h : Cl H x cs) (h' : Cl H y ds) :
    resS P S H [.cell a t, .cell b u] = some [.agg cs.toArray, .agg ds.toArray] := by
  simp only [resS, ha, hb, load_agg h1 hi h.rd hl, load_agg h2 hj h'.rd hm]
section
variable {kn : FuncId → Option Bool} {lo : Nat} {H : Hp}
/-- nextBay -/
theorem next65_ok {y : Yd} {n : Nat} (hn : n ≤ 8) : ∃ H', FnX Try.prog kn lo 65 [.agg (yc y n).toArray] H (iv (nb y.fr n : Int)) H' ∧ Keep H H' [] := by
  have key := fnX_low (kn := kn) (lo := lo) (H := H) (args := [.agg (yc y n).toArray]) (Q := fun w H' => w = iv (nb y.fr n : Int) ∧ Keep H H' []) Try.func65 B65 N65 Z65 L65 (by simp) ?_
  · obtain ⟨w, H', h, rfl, q⟩ := key; exact ⟨H', h, q⟩
  have hk := Keep.refl H []
  refine wN_seq ?_
  refine wN_box (v := .agg (yc y n).toArray) rfl ?_
  intro H1 kH1 nH1 c1
  have c1 : Cl H1 H.next [iv (y.fr 0), iv (y.fr 1), iv (y.fr 2), iv (y.fr 3), iv (y.fr 4), iv (y.fr 5), iv (y.fr 6), iv (y.fr 7), iv (n : Int), iv y.bg] := c1
  have mH1 := kH1.1
  have hk := hk.trans kH1
  refine wN_mov (v := iv 0) rfl ?_
  refine wN_end ?_
  refine wN_seq ?_
  refine wN_mov (v := iv 0) rfl ?_
  refine wN_end ?_
  refine wN_seq ?_
  refine wN_addo (b := H.next) (o := 0) rfl ?_
  refine wN_ld (b := H.next) (o := 8) (v := iv (n : Int)) rfl c1.rd rfl ?_
  refine wN_mov (v := iv 0) rfl ?_
  refine wN_end ?_
  refine loop_low (fn := Try.f65) E65_1 N65 L65x1 (fun i : Nat => [(1, pt H.next), (3, iv (nb y.fr i : Int)), (6, iv (n : Int)), (7, iv (i : Int))])
    (fun k i H' => i + k = n ∧ Keep H1 H' [] ∧ Cl H' H.next (yc y n)) n 0 ⟨by omega, Keep.refl _ _, c1⟩ ⟨rfl, rfl, rfl, rfl, trivial⟩ ?_
  rintro k i L1 ⟨hik, hki, cy⟩
  have hk := hk.trans hki
  have kb := hki
  refine wN_seq ?_
  refine wN_c_lss (a := (i : Int)) (b := (n : Int)) rfl rfl ?_
  refine wN_end ?_
  refine And.intro (fun q1 => ?_) (fun q1 => ?_)
  · have q1 : (i : Int) < (n : Int) := of_decide_eq_true q1
    have hi : i < n := by omega
    first | refine wN_skip ?_ | skip
    refine wN_seq ?_
    refine wN_mov (v := iv (i : Int)) rfl ?_
    refine wN_mov (v := iv (i : Int)) rfl ?_
    refine wN_end ?_
    refine wD_seq ?_
    refine wD_mov (v := iv (i : Int)) rfl ?_
    refine wD_addo (b := H.next) (o := 0) rfl ?_
    refine wD_idxa (b := H.next) (o := 0) (k := i) (j := (i : Int)) rfl rfl rfl (by omega) ?_
    refine wD_ld (b := H.next) (o := 0 + i * 1) (v := iv (y.fr i)) rfl cy.rd (yc_at (k := i) (by omega)) ?_
    refine wD_mov (v := iv (nb y.fr i : Int)) rfl ?_
    refine wD_addo (b := H.next) (o := 0) rfl ?_
    refine wD_idxa (b := H.next) (o := 0) (k := nb y.fr i) (j := (nb y.fr i : Int)) rfl rfl rfl (nb_lt8 y.fr (by omega)) ?_
    refine wD_ld (b := H.next) (o := 0 + (nb y.fr i) * 1) (v := iv (y.fr (nb y.fr i))) rfl cy.rd (yc_at (k := nb y.fr i) (nb_lt8 y.fr (by omega))) ?_
    refine wD_c_lss (a := (y.fr i)) (b := (y.fr (nb y.fr i))) rfl rfl ?_
    refine wD_end (by repeat' first | exact True.intro | exact (fun h => h) | refine And.intro ?_ ?_ | (intro h; have h : (_ : Nat) = _ := h; omega)) ?_
    refine And.intro (fun q2 => ?_) (fun q2 => ?_)
    · have q2 : (y.fr i) < (y.fr (nb y.fr i)) := of_decide_eq_true q2
      have q1 := q2
      first | refine wN_reg ?_ | refine wN_blk ?_ | (refine wOps_nil ?_; refine wN_reg ?_)
      refine wN_mov (v := iv (i : Int)) rfl ?_
      refine wN_mov (v := iv (i : Int)) rfl ?_
      refine wN_end ?_
      first | refine wN_reg ?_ | refine wN_blk ?_ | (refine wOps_nil ?_; refine wN_reg ?_)
      refine wN_add (a := (i : Int)) (b := 1) rfl rfl ⟨by omega, by omega⟩ ?_
      refine wN_mov (v := iv ((i : Int) + 1)) rfl ?_
      refine wN_end ?_
      exact ⟨k - 1, i + 1, by omega, ⟨by omega, kb, cy⟩, rfl, by rw [(nb_t q1)]; rfl, rfl, rfl, trivial⟩
    · have q2 : ¬ ((y.fr i) < (y.fr (nb y.fr i))) := of_decide_eq_false q2
      have q1 := q2
      first | refine wN_skip ?_ | skip
      first | refine wN_reg ?_ | refine wN_blk ?_ | (refine wOps_nil ?_; refine wN_reg ?_)
      refine wN_add (a := (i : Int)) (b := 1) rfl rfl ⟨by omega, by omega⟩ ?_
      refine wN_mov (v := iv ((i : Int) + 1)) rfl ?_
      refine wN_end ?_
      exact ⟨k - 1, i + 1, by omega, ⟨by omega, kb, cy⟩, rfl, by rw [(nb_f q1)]; rfl, rfl, rfl, trivial⟩
  · have q1 : ¬ ((i : Int) < (n : Int)) := of_decide_eq_false q1
    refine wN_seq ?_
    refine wN_mov (v := iv (nb y.fr i : Int)) rfl ?_
    refine wN_mov (v := iv (nb y.fr i : Int)) rfl ?_
    refine wN_end ?_
    have e : i = n := by omega
    exact And.intro trivial (Exists.intro _ (And.intro rfl ⟨by rw [e]; rfl, hk⟩))
/-- unload -/
theorem unload59_ok {y : Yd} {n : Nat} {a x : Int} (h0 : 0 < n) (hn : n ≤ 8) (hy : y.In 2000000) (ha : 0 ≤ a ∧ a ≤ 1048576) (hx : 0 ≤ x ∧ x ≤ 1440) (hlo : lo ≤ H.next) : ∃ H', FnX Try.prog kn lo 59 [.agg (yc y n).toArray, iv a, iv x] H (.tuple #[.agg (yc (y.go n a x) n).toArray, .agg #[iv (y.rd n), iv (y.bn n a), iv (y.bn n a + x)]]) H' ∧ Keep H H' [] := by
  have key := fnX_low (kn := kn) (lo := lo) (H := H) (args := [.agg (yc y n).toArray, iv a, iv x]) (Q := fun w H' => w = .tuple #[.agg (yc (y.go n a x) n).toArray, .agg #[iv (y.rd n), iv (y.bn n a), iv (y.bn n a + x)]] ∧ Keep H H' []) Try.func59 B59 N59 Z59 L59 (by simp) ?_
  · obtain ⟨w, H', h, rfl, q⟩ := key; exact ⟨H', h, q⟩
  have hk := Keep.refl H []
  have lnb := nb_lt8 y.fr hn
  have hrd := hy.rd n
  have hbn := hy.bn n ha.1 ha.2 (by decide)
  refine wN_seq ?_
  refine wN_box (v := .agg (yc y n).toArray) rfl ?_
  intro H1 kH1 nH1 c1
  have c1 : Cl H1 H.next [iv (y.fr 0), iv (y.fr 1), iv (y.fr 2), iv (y.fr 3), iv (y.fr 4), iv (y.fr 5), iv (y.fr 6), iv (y.fr 7), iv (n : Int), iv y.bg] := c1
  have mH1 := kH1.1
  have hk := hk.trans kH1
  refine wN_alc ?_
  intro H2 kH2 nH2 c2
  have c2 : Cl H2 H1.next [iv 0, iv 0, iv 0, iv 0, iv 0, iv 0, iv 0, iv 0, iv 0, iv 0] := c2
  have mH2 := kH2.1
  have hk := hk.trans kH2
  have c1 := kH2.cl c1 (by simp)
  refine wN_alc ?_
  intro H3 kH3 nH3 c3
  have c3 : Cl H3 H2.next [iv 0, iv 0, iv 0] := c3
  have mH3 := kH3.1
  have hk := hk.trans kH3
  have c1 := kH3.cl c1 (by simp)
  have c2 := kH3.cl c2 (by simp)
  refine wN_end ?_
  refine wN_seq ?_
  refine wN_lda (b := H.next) (o := 0) rfl c1.rd (show row 10 _ _ = some [iv (y.fr 0), iv (y.fr 1), iv (y.fr 2), iv (y.fr 3), iv (y.fr 4), iv (y.fr 5), iv (y.fr 6), iv (y.fr 7), iv (n : Int), iv y.bg] from rfl) ?_
  obtain ⟨H4, fH4, kH4⟩ := next65_ok (kn := kn) (lo := lo) (H := H3) (y := y) (n := n) hn
  refine wN_callf (vs := [.agg (yc y n).toArray]) rfl (callX_args fH4) ?_
  have mH4 := kH4.1
  have hk := hk.trans kH4
  have c1 := kH4.cl c1 (by simp)
  have c2 := kH4.cl c2 (by simp)
  have c3 := kH4.cl c3 (by simp)
  have c1 : Cl H4 H.next (yc y n) := c1
  refine wN_mov (v := iv (nb y.fr n : Int)) rfl ?_
  refine wN_end ?_
  refine wD_seq ?_
  refine wD_addo (b := H.next) (o := 0) rfl ?_
  refine wD_ld (b := H.next) (o := 9) (v := iv y.bg) rfl c1.rd rfl ?_
  refine wD_mov (v := iv (nb y.fr n : Int)) rfl ?_
  refine wD_addo (b := H.next) (o := 0) rfl ?_
  refine wD_idxa (b := H.next) (o := 0) (k := nb y.fr n) (j := (nb y.fr n : Int)) rfl rfl rfl lnb ?_
  refine wD_ld (b := H.next) (o := 0 + (nb y.fr n) * 1) (v := iv (y.fr (nb y.fr n))) rfl c1.rd (yc_at (k := nb y.fr n) lnb) ?_
  refine wD_mm (a := y.bg) (b := y.fr (nb y.fr n)) rfl rfl ?_
  refine wD_mov (v := iv (y.rd n)) rfl ?_
  refine wD_end (by repeat' first | exact True.intro | exact (fun h => h) | refine And.intro ?_ ?_ | (intro h; have h : (_ : Nat) = _ := h; omega)) ?_
  refine wN_seq ?_
  refine wN_mov (v := iv (y.rd n)) rfl ?_
  refine wN_mov (v := iv (y.rd n)) rfl ?_
  refine wN_mov (v := iv a) rfl ?_
  refine wN_mm (a := y.rd n) (b := a) rfl rfl ?_
  refine wN_pur (v := .agg #[iv (y.rd n), iv (y.bn n a), iv 0]) rfl (by kernel_rfl) ?_
  refine wN_alc ?_
  intro H5 kH5 nH5 c5
  have c5 : Cl H5 H4.next [iv 0, iv 0, iv 0] := c5
  have mH5 := kH5.1
  have hk := hk.trans kH5
  have c1 := kH5.cl c1 (by simp)
  have c2 := kH5.cl c2 (by simp)
  have c3 := kH5.cl c3 (by simp)
  refine wN_sta (b := H4.next) (o := 0) rfl rfl c5 (by omega) rfl rfl (by simp) ?_
  intro H6 kH6 nH6 sH6
  have mH6 := kH6.1
  have hk := hk.new kH6 (fun b hb => by simp at hb ⊢; omega)
  have c1 := kH6.cl c1 (by first | (simp; done) | (simp; omega))
  have c2 := kH6.cl c2 (by first | (simp; done) | (simp; omega))
  have c3 := kH6.cl c3 (by first | (simp; done) | (simp; omega))
  have c5 : Cl H6 H4.next [iv (y.rd n), iv (y.bn n a), iv 0] := sH6
  refine wN_end ?_
  refine wN_seq ?_
  refine wN_addo (b := H4.next) (o := 0) rfl ?_
  refine wN_ld (b := H4.next) (o := 1) (v := iv (y.bn n a)) rfl c5.rd rfl ?_
  refine wN_mov (v := iv x) rfl ?_
  refine wN_add (a := (y.bn n a)) (b := x) rfl rfl ⟨by omega, by omega⟩ ?_
  refine wN_addo (b := H4.next) (o := 0) rfl ?_
  refine wN_st (b := H4.next) (o := 2) rfl rfl c5 (by omega) rfl rfl (by simp) ?_
  intro H7 kH7 nH7 sH7
  have mH7 := kH7.1
  have hk := hk.new kH7 (fun b hb => by simp at hb ⊢; omega)
  have c1 := kH7.cl c1 (by first | (simp; done) | (simp; omega))
  have c2 := kH7.cl c2 (by first | (simp; done) | (simp; omega))
  have c3 := kH7.cl c3 (by first | (simp; done) | (simp; omega))
  have c5 : Cl H7 H4.next [iv (y.rd n), iv (y.bn n a), iv ((y.bn n a) + x)] := sH7
  refine wN_end ?_
  refine wD_seq ?_
  refine wD_mov (v := iv (nb y.fr n : Int)) rfl ?_
  refine wD_addo (b := H4.next) (o := 0) rfl ?_
  refine wD_ld (b := H4.next) (o := 2) (v := iv ((y.bn n a) + x)) rfl c5.rd rfl ?_
  refine wD_addo (b := H4.next) (o := 0) rfl ?_
  refine wD_ld (b := H4.next) (o := 1) (v := iv (y.bn n a)) rfl c5.rd rfl ?_
  refine wD_addo (b := H.next) (o := 0) rfl ?_
  refine wD_idxa (b := H.next) (o := 0) (k := nb y.fr n) (j := (nb y.fr n : Int)) rfl rfl rfl lnb ?_
  refine wD_st (b := H.next) (o := 0 + (nb y.fr n) * 1) rfl rfl c1 (by omega) rfl rfl (by simp; omega) ?_
  intro H8 kH8 nH8 sH8
  have mH8 := kH8.1
  have hk := hk.new kH8 (fun b hb => by simp at hb ⊢; omega)
  have c2 := kH8.cl c2 (by first | (simp; done) | (simp; omega))
  have c3 := kH8.cl c3 (by first | (simp; done) | (simp; omega))
  have c5 := kH8.cl c5 (by first | (simp; done) | (simp; omega))
  have c1 : Cl H8 H.next (yc ⟨upd y.fr (nb y.fr n) (y.bn n a + x), y.bg⟩ n) := by have q := sH8; rw [yc_set lnb] at q; exact q
  refine wD_addo (b := H.next) (o := 0) rfl ?_
  refine wD_st (b := H.next) (o := 9) rfl rfl c1 (by omega) rfl rfl (by simp) ?_
  intro H9 kH9 nH9 sH9
  have mH9 := kH9.1
  have hk := hk.new kH9 (fun b hb => by simp at hb ⊢; omega)
  have c2 := kH9.cl c2 (by first | (simp; done) | (simp; omega))
  have c3 := kH9.cl c3 (by first | (simp; done) | (simp; omega))
  have c5 := kH9.cl c5 (by first | (simp; done) | (simp; omega))
  have c1 : Cl H9 H.next (yc (y.go n a x) n) := sH9
  refine wD_end (by repeat' first | exact True.intro | exact (fun h => h) | refine And.intro ?_ ?_ | (intro h; have h : (_ : Nat) = _ := h; omega)) ?_
  refine wD_seq ?_
  refine wD_lda (b := H.next) (o := 0) rfl c1.rd (show row 10 (yc (y.go n a x) n) 0 = some (yc (y.go n a x) n) from rfl) ?_
  refine wD_lda (b := H4.next) (o := 0) rfl c5.rd (show row 3 _ _ = some [iv (y.rd n), iv (y.bn n a), iv ((y.bn n a) + x)] from rfl) ?_
  refine wD_sta (b := H1.next) (o := 0) rfl rfl c2 (by omega) rfl rfl (by simp) ?_
  intro H10 kH10 nH10 sH10
  have mH10 := kH10.1
  have hk := hk.new kH10 (fun b hb => by simp at hb ⊢; omega)
  have c3 := kH10.cl c3 (by first | (simp; done) | (simp; omega))
  have c5 := kH10.cl c5 (by first | (simp; done) | (simp; omega))
  have c1 := kH10.cl c1 (by first | (simp; done) | (simp; omega))
  have c2 : Cl H10 H1.next [iv ((y.go n a x).fr 0), iv ((y.go n a x).fr 1), iv ((y.go n a x).fr 2), iv ((y.go n a x).fr 3), iv ((y.go n a x).fr 4), iv ((y.go n a x).fr 5), iv ((y.go n a x).fr 6), iv ((y.go n a x).fr 7), iv (n : Int), iv ((y.go n a x).bg)] := sH10
  refine wD_sta (b := H2.next) (o := 0) rfl rfl c3 (by omega) rfl rfl (by simp) ?_
  intro H11 kH11 nH11 sH11
  have mH11 := kH11.1
  have hk := hk.new kH11 (fun b hb => by simp at hb ⊢; omega)
  have c5 := kH11.cl c5 (by first | (simp; done) | (simp; omega))
  have c1 := kH11.cl c1 (by first | (simp; done) | (simp; omega))
  have c2 := kH11.cl c2 (by first | (simp; done) | (simp; omega))
  have c3 : Cl H11 H2.next [iv (y.rd n), iv (y.bn n a), iv ((y.bn n a) + x)] := sH11
  refine wD_end (by repeat' first | exact True.intro | exact (fun h => h) | refine And.intro ?_ ?_ | (intro h; have h : (_ : Nat) = _ := h; omega)) ?_
  exact And.intro trivial (Exists.intro _ (And.intro (res_cc rfl rfl a93 i93s rfl a78 i78s rfl c2 c3) ⟨rfl, hk⟩))
/-- a function that tells an end of a span -/
def EndF (g : FuncId) (p : Int × Int → Int) : Prop := ∀ (kn : FuncId → Option Bool) (lo : Nat) (H : Hp) (a b : Int), ∃ H', FnX Try.prog kn lo g [spv a b] H (iv (p (a, b))) H' ∧ Keep H H' []
theorem end41 : EndF 41 Prod.fst := by
  intro kn lo H a b
  have key := fnX_low (kn := kn) (lo := lo) (H := H) (args := [spv a b]) (Q := fun w H' => w = iv a ∧ Keep H H' []) Try.func41 B41 N41 Z41 L41 (by simp) ?_
  · obtain ⟨w, H', h, rfl, q⟩ := key; exact ⟨H', h, q⟩
  have hk := Keep.refl H []
  refine wN_seq ?_
  refine wN_box (v := .agg #[iv a, iv b]) rfl ?_
  intro H1 kH1 nH1 c1
  have c1 : Cl H1 H.next [iv a, iv b] := c1
  have mH1 := kH1.1
  have hk := hk.trans kH1
  refine wN_mov (v := iv 0) rfl ?_
  refine wN_end ?_
  refine wN_seq ?_
  refine wN_addo (b := H.next) (o := 0) rfl ?_
  refine wN_ld (b := H.next) (o := 0) (v := iv a) rfl c1.rd rfl ?_
  refine wN_mov (v := iv a) rfl ?_
  refine wN_end ?_
  exact And.intro trivial (Exists.intro _ (And.intro rfl ⟨rfl, hk⟩))
theorem end42 : EndF 42 Prod.snd := by
  intro kn lo H a b
  have key := fnX_low (kn := kn) (lo := lo) (H := H) (args := [spv a b]) (Q := fun w H' => w = iv b ∧ Keep H H' []) Try.func42 B42 N42 Z42 L42 (by simp) ?_
  · obtain ⟨w, H', h, rfl, q⟩ := key; exact ⟨H', h, q⟩
  have hk := Keep.refl H []
  refine wN_seq ?_
  refine wN_box (v := .agg #[iv a, iv b]) rfl ?_
  intro H1 kH1 nH1 c1
  have c1 : Cl H1 H.next [iv a, iv b] := c1
  have mH1 := kH1.1
  have hk := hk.trans kH1
  refine wN_mov (v := iv 0) rfl ?_
  refine wN_end ?_
  refine wN_seq ?_
  refine wN_addo (b := H.next) (o := 0) rfl ?_
  refine wN_ld (b := H.next) (o := 1) (v := iv b) rfl c1.rd rfl ?_
  refine wN_mov (v := iv b) rfl ?_
  refine wN_end ?_
  exact And.intro trivial (Exists.intro _ (And.intro rfl ⟨rfl, hk⟩))
theorem span43_ok {a b : Int} (hlo : lo ≤ H.next) : ∃ H', FnX Try.prog kn lo 43 [iv a, iv b] H (spv a b) H' ∧ Keep H H' [] := by
  have key := fnX_low (kn := kn) (lo := lo) (H := H) (args := [iv a, iv b]) (Q := fun w H' => w = spv a b ∧ Keep H H' []) Try.func43 B43 N43 Z43 L43 (by simp) ?_
  · obtain ⟨w, H', h, rfl, q⟩ := key; exact ⟨H', h, q⟩
  have hk := Keep.refl H []
  refine wN_seq ?_
  refine wN_alc ?_
  intro H1 kH1 nH1 c1
  have c1 : Cl H1 H.next [iv 0, iv 0] := c1
  have mH1 := kH1.1
  have hk := hk.trans kH1
  refine wN_end ?_
  refine wN_seq ?_
  refine wN_mov (v := iv a) rfl ?_
  refine wN_mov (v := iv b) rfl ?_
  refine wN_pur (v := .agg #[iv a, iv b]) rfl (by kernel_rfl) ?_
  refine wN_sta (b := H.next) (o := 0) rfl rfl c1 (by omega) rfl rfl (by simp) ?_
  intro H2 kH2 nH2 sH2
  have mH2 := kH2.1
  have hk := hk.new kH2 (fun b hb => by simp at hb ⊢; omega)
  have c1 : Cl H2 H.next [iv a, iv b] := sH2
  refine wN_end ?_
  exact And.intro trivial (Exists.intro _ (And.intro (res_cell rfl a47 i47s rfl c1) ⟨rfl, hk⟩))
/-- unloading's closure -/
theorem clos58_ok {g : FuncId} {p : Int × Int → Int} (he : EndF g p) (hm : ∀ x, marked (.fn (.func g) x) = false) {t : Tk} {y : Yd} {n nw ec : Nat} (h0 : 0 < n) (hn : n ≤ 8) (hY : y.In 2000000) (ha : 0 ≤ p (t.a1, t.a2) ∧ p (t.a1, t.a2) ≤ 1048576) (hx : 0 ≤ p (t.w1, t.w2) ∧ p (t.w1, t.w2) ≤ 1440)
    (hy : Cl H nw (yc y n)) (hec : Rd H ec [.func (.func g) #[] #[]]) (hne : nw ≠ ec) (hlw : lo ≤ nw) (hlo : lo ≤ H.next) :
    ∃ H', FnX Try.prog kn lo 58 [.agg t.f.toArray, pt nw, pt ec] H (.agg #[iv (y.rd n), iv (y.bn n (p (t.a1, t.a2))), iv (y.bn n (p (t.a1, t.a2)) + p (t.w1, t.w2))]) H' ∧ Keep H H' [nw] ∧ Cl H' nw (yc (y.go n (p (t.a1, t.a2)) (p (t.w1, t.w2))) n) := by
  have key := fnX_low (kn := kn) (lo := lo) (H := H) (args := [.agg t.f.toArray, pt nw, pt ec]) (Q := fun w H' => w = .agg #[iv (y.rd n), iv (y.bn n (p (t.a1, t.a2))), iv (y.bn n (p (t.a1, t.a2)) + p (t.w1, t.w2))] ∧ Keep H H' [nw] ∧ Cl H' nw (yc (y.go n (p (t.a1, t.a2)) (p (t.w1, t.w2))) n)) Try.func58 B58 N58 Z58 L58 (by simp) ?_
  · obtain ⟨w, H', h, rfl, q⟩ := key; exact ⟨H', h, q⟩
  have hk := Keep.refl H []
  have lnw := hy.lt
  have lec := hec.lt
  refine wN_seq ?_
  refine wN_box (v := .agg t.f.toArray) rfl ?_
  intro H1 kH1 nH1 c1
  have c1 : Cl H1 H.next [iv t.a1, iv t.a2, iv t.w1, iv t.w2] := c1
  have mH1 := kH1.1
  have hk := hk.trans kH1
  have hy := kH1.cl hy (by simp)
  have hec := kH1.rd hec (by simp)
  refine wN_alc ?_
  intro H2 kH2 nH2 c2
  have c2 : Cl H2 H1.next [iv 0, iv 0, iv 0] := c2
  have mH2 := kH2.1
  have hk := hk.trans kH2
  have hy := kH2.cl hy (by simp)
  have hec := kH2.rd hec (by simp)
  have c1 := kH2.cl c1 (by simp)
  refine wN_end ?_
  refine wD_seq ?_
  refine wD_lda (b := nw) (o := 0) rfl hy.rd (show row 10 (yc y n) 0 = some (yc y n) from rfl) ?_
  refine wD_ld (b := ec) (o := 0) (v := .func (.func g) #[] #[]) rfl hec rfl ?_
  refine wD_addo (b := H.next) (o := 0) rfl ?_
  refine wD_lda (b := H.next) (o := 0) rfl c1.rd (show row 2 _ _ = some [iv t.a1, iv t.a2] from rfl) ?_
  obtain ⟨H3, fH3, kH3⟩ := he kn H2.next H2 (t.a1) (t.a2)
  refine wD_callh (vs := [spv (t.a1) (t.a2)]) rfl (hm _) (callX_args fH3) ?_
  have mH3 := kH3.1
  have hk := hk.trans kH3
  have hy := kH3.cl hy (by simp)
  have hec := kH3.rd hec (by simp)
  have c1 := kH3.cl c1 (by simp)
  have c2 := kH3.cl c2 (by simp)
  refine wD_ld (b := ec) (o := 0) (v := .func (.func g) #[] #[]) rfl hec rfl ?_
  refine wD_addo (b := H.next) (o := 0) rfl ?_
  refine wD_lda (b := H.next) (o := 2) rfl c1.rd (show row 2 _ _ = some [iv t.w1, iv t.w2] from rfl) ?_
  obtain ⟨H4, fH4, kH4⟩ := he kn H3.next H3 (t.w1) (t.w2)
  refine wD_callh (vs := [spv (t.w1) (t.w2)]) rfl (hm _) (callX_args fH4) ?_
  have mH4 := kH4.1
  have hk := hk.trans kH4
  have hy := kH4.cl hy (by simp)
  have hec := kH4.rd hec (by simp)
  have c1 := kH4.cl c1 (by simp)
  have c2 := kH4.cl c2 (by simp)
  obtain ⟨H5, fH5, kH5⟩ := unload59_ok (kn := kn) (lo := H4.next) (H := H4) (y := y) (n := n) h0 hn hY ha hx (Nat.le_refl _)
  refine wD_callh (vs := [.agg (yc y n).toArray, iv (p (t.a1, t.a2)), iv (p (t.w1, t.w2))]) rfl rfl (callX_args fH5) ?_
  have mH5 := kH5.1
  have hk := hk.trans kH5
  have hy := kH5.cl hy (by simp)
  have hec := kH5.rd hec (by simp)
  have c1 := kH5.cl c1 (by simp)
  have c2 := kH5.cl c2 (by simp)
  refine wD_mov (v := .tuple #[.agg (yc (y.go n (p (t.a1, t.a2)) (p (t.w1, t.w2))) n).toArray, .agg #[iv (y.rd n), iv (y.bn n (p (t.a1, t.a2))), iv (y.bn n (p (t.a1, t.a2)) + p (t.w1, t.w2))]]) rfl ?_
  refine wD_pur (v := .agg (yc (y.go n (p (t.a1, t.a2)) (p (t.w1, t.w2))) n).toArray) rfl (by kernel_rfl) ?_
  refine wD_pur (v := .agg #[iv (y.rd n), iv (y.bn n (p (t.a1, t.a2))), iv (y.bn n (p (t.a1, t.a2)) + p (t.w1, t.w2))]) rfl (by kernel_rfl) ?_
  refine wD_alc ?_
  intro H6 kH6 nH6 c6
  have c6 : Cl H6 H5.next [iv 0, iv 0, iv 0, iv 0, iv 0, iv 0, iv 0, iv 0, iv 0, iv 0] := c6
  have mH6 := kH6.1
  have hk := hk.trans kH6
  have hy := kH6.cl hy (by simp)
  have hec := kH6.rd hec (by simp)
  have c1 := kH6.cl c1 (by simp)
  have c2 := kH6.cl c2 (by simp)
  refine wD_alc ?_
  intro H7 kH7 nH7 c7
  have c7 : Cl H7 H6.next [iv 0, iv 0, iv 0] := c7
  have mH7 := kH7.1
  have hk := hk.trans kH7
  have hy := kH7.cl hy (by simp)
  have hec := kH7.rd hec (by simp)
  have c1 := kH7.cl c1 (by simp)
  have c2 := kH7.cl c2 (by simp)
  have c6 := kH7.cl c6 (by simp)
  refine wD_sta (b := H5.next) (o := 0) rfl rfl c6 (by omega) rfl rfl (by simp) ?_
  intro H8 kH8 nH8 sH8
  have mH8 := kH8.1
  have hk := hk.new kH8 (fun b hb => by simp at hb ⊢; omega)
  have hy := kH8.cl hy (by first | (simp; done) | (simp; omega))
  have hec := kH8.rd hec (by first | (simp; done) | (simp; omega))
  have c1 := kH8.cl c1 (by first | (simp; done) | (simp; omega))
  have c2 := kH8.cl c2 (by first | (simp; done) | (simp; omega))
  have c7 := kH8.cl c7 (by first | (simp; done) | (simp; omega))
  have c6 : Cl H8 H5.next [iv ((y.go n (p (t.a1, t.a2)) (p (t.w1, t.w2))).fr 0), iv ((y.go n (p (t.a1, t.a2)) (p (t.w1, t.w2))).fr 1), iv ((y.go n (p (t.a1, t.a2)) (p (t.w1, t.w2))).fr 2), iv ((y.go n (p (t.a1, t.a2)) (p (t.w1, t.w2))).fr 3), iv ((y.go n (p (t.a1, t.a2)) (p (t.w1, t.w2))).fr 4), iv ((y.go n (p (t.a1, t.a2)) (p (t.w1, t.w2))).fr 5), iv ((y.go n (p (t.a1, t.a2)) (p (t.w1, t.w2))).fr 6), iv ((y.go n (p (t.a1, t.a2)) (p (t.w1, t.w2))).fr 7), iv (n : Int), iv ((y.go n (p (t.a1, t.a2)) (p (t.w1, t.w2))).bg)] := sH8
  refine wD_sta (b := H6.next) (o := 0) rfl rfl c7 (by omega) rfl rfl (by simp) ?_
  intro H9 kH9 nH9 sH9
  have mH9 := kH9.1
  have hk := hk.new kH9 (fun b hb => by simp at hb ⊢; omega)
  have hy := kH9.cl hy (by first | (simp; done) | (simp; omega))
  have hec := kH9.rd hec (by first | (simp; done) | (simp; omega))
  have c1 := kH9.cl c1 (by first | (simp; done) | (simp; omega))
  have c2 := kH9.cl c2 (by first | (simp; done) | (simp; omega))
  have c6 := kH9.cl c6 (by first | (simp; done) | (simp; omega))
  have c7 : Cl H9 H6.next [iv (y.rd n), iv (y.bn n (p (t.a1, t.a2))), iv (y.bn n (p (t.a1, t.a2)) + p (t.w1, t.w2))] := sH9
  refine wD_end (by repeat' first | exact True.intro | exact (fun h => h) | refine And.intro ?_ ?_ | (intro h; have h : (_ : Nat) = _ := h; omega)) ?_
  refine wN_seq ?_
  refine wN_lda (b := H5.next) (o := 0) rfl c6.rd (show row 10 _ _ = some [iv ((y.go n (p (t.a1, t.a2)) (p (t.w1, t.w2))).fr 0), iv ((y.go n (p (t.a1, t.a2)) (p (t.w1, t.w2))).fr 1), iv ((y.go n (p (t.a1, t.a2)) (p (t.w1, t.w2))).fr 2), iv ((y.go n (p (t.a1, t.a2)) (p (t.w1, t.w2))).fr 3), iv ((y.go n (p (t.a1, t.a2)) (p (t.w1, t.w2))).fr 4), iv ((y.go n (p (t.a1, t.a2)) (p (t.w1, t.w2))).fr 5), iv ((y.go n (p (t.a1, t.a2)) (p (t.w1, t.w2))).fr 6), iv ((y.go n (p (t.a1, t.a2)) (p (t.w1, t.w2))).fr 7), iv (n : Int), iv ((y.go n (p (t.a1, t.a2)) (p (t.w1, t.w2))).bg)] from rfl) ?_
  refine wN_sta (b := nw) (o := 0) (v := .agg (yc (y.go n (p (t.a1, t.a2)) (p (t.w1, t.w2))) n).toArray) rfl rfl hy hlw rfl rfl (by simp) ?_
  intro H10 kH10 nH10 sH10
  have mH10 := kH10.1
  have hk : Keep H H10 [nw] := (hk.mono (by simp)).trans kH10
  have hec := kH10.rd hec (by first | (simp; done) | (simp; omega))
  have c1 := kH10.cl c1 (by first | (simp; done) | (simp; omega))
  have c2 := kH10.cl c2 (by first | (simp; done) | (simp; omega))
  have c6 := kH10.cl c6 (by first | (simp; done) | (simp; omega))
  have c7 := kH10.cl c7 (by first | (simp; done) | (simp; omega))
  have hy : Cl H10 nw (yc (y.go n (p (t.a1, t.a2)) (p (t.w1, t.w2))) n) := sH10
  refine wN_end ?_
  refine wN_seq ?_
  refine wN_lda (b := H6.next) (o := 0) rfl c7.rd (show row 3 _ _ = some [iv (y.rd n), iv (y.bn n (p (t.a1, t.a2))), iv (y.bn n (p (t.a1, t.a2)) + p (t.w1, t.w2))] from rfl) ?_
  refine wN_sta (b := H1.next) (o := 0) rfl rfl c2 (by omega) rfl rfl (by simp) ?_
  intro H11 kH11 nH11 sH11
  have mH11 := kH11.1
  have hec := kH11.rd hec (by first | (simp; done) | (simp; omega))
  have c1 := kH11.cl c1 (by first | (simp; done) | (simp; omega))
  have c6 := kH11.cl c6 (by first | (simp; done) | (simp; omega))
  have c7 := kH11.cl c7 (by first | (simp; done) | (simp; omega))
  have hy := kH11.cl hy (by first | (simp; done) | (simp; omega))
  have hk := hk.new kH11 (fun b hb => by simp at hb ⊢; omega)
  have c2 : Cl H11 H1.next [iv (y.rd n), iv (y.bn n (p (t.a1, t.a2))), iv (y.bn n (p (t.a1, t.a2)) + p (t.w1, t.w2))] := sH11
  refine wN_end ?_
  exact And.intro trivial (Exists.intro _ (And.intro (res_cell rfl a78 i78s rfl c2) ⟨rfl, hk, hy⟩))
/-- unloading -/
theorem unl40_ok {g : FuncId} {n : Nat} (hlo : lo ≤ H.next) : ∃ nw ec H', FnX Try.prog kn lo 40 [iv (n : Int), .func (.func g) #[] #[]] H (.func (.func 58) #[] #[pt nw, pt ec]) H' ∧ Keep H H' [] ∧ H.next ≤ nw ∧ nw < H'.next ∧ H.next ≤ ec ∧ ec < H'.next ∧ nw ≠ ec ∧ Cl H' nw (yc ⟨fun _ => 0, 0⟩ n) ∧ Rd H' ec [.func (.func g) #[] #[]] := by
  have key := fnX_low (kn := kn) (lo := lo) (H := H) (args := [iv (n : Int), .func (.func g) #[] #[]]) (Q := fun w H' => ∃ nw ec, w = .func (.func 58) #[] #[pt nw, pt ec] ∧ Keep H H' [] ∧ H.next ≤ nw ∧ nw < H'.next ∧ H.next ≤ ec ∧ ec < H'.next ∧ nw ≠ ec ∧ Cl H' nw (yc ⟨fun _ => 0, 0⟩ n) ∧ Rd H' ec [.func (.func g) #[] #[]]) Try.func40 B40 N40 Z40 L40 (by simp) ?_
  · obtain ⟨w, H', h, nw, ec, rfl, q⟩ := key; exact ⟨nw, ec, H', h, q⟩
  have hk := Keep.refl H []
  refine wN_seq ?_
  refine wN_box (v := .func (.func g) #[] #[]) rfl ?_
  intro H1 kH1 nH1 c1
  have c1 : Cl H1 H.next [.func (.func g) #[] #[]] := c1
  have mH1 := kH1.1
  have hk := hk.trans kH1
  refine wN_mov (v := .nilFunc) rfl ?_
  refine wN_end ?_
  refine wN_seq ?_
  refine wN_mov (v := iv (n : Int)) rfl ?_
  refine wN_pur (v := .agg #[iv 0, iv 0, iv 0, iv 0, iv 0, iv 0, iv 0, iv 0, iv (n : Int), iv 0]) rfl (by kernel_rfl) ?_
  refine wN_alc ?_
  intro H2 kH2 nH2 c2
  have c2 : Cl H2 H1.next [iv 0, iv 0, iv 0, iv 0, iv 0, iv 0, iv 0, iv 0, iv 0, iv 0] := c2
  have mH2 := kH2.1
  have hk := hk.trans kH2
  have c1 := kH2.cl c1 (by simp)
  refine wN_sta (b := H1.next) (o := 0) rfl rfl c2 (by omega) rfl rfl (by simp) ?_
  intro H3 kH3 nH3 sH3
  have mH3 := kH3.1
  have hk := hk.new kH3 (fun b hb => by simp at hb ⊢; omega)
  have c1 := kH3.cl c1 (by first | (simp; done) | (simp; omega))
  have c2 : Cl H3 H1.next [iv 0, iv 0, iv 0, iv 0, iv 0, iv 0, iv 0, iv 0, iv (n : Int), iv 0] := sH3
  refine wN_end ?_
  refine wN_seq ?_
  refine wN_pur (v := .func (.func 58) #[] #[pt H1.next, pt H.next]) rfl (by kernel_rfl) ?_
  refine wN_mov (v := .func (.func 58) #[] #[pt H1.next, pt H.next]) rfl ?_
  refine wN_end ?_
  exact And.intro trivial (Exists.intro _ (And.intro rfl ⟨H1.next, H.next, rfl, hk, by omega, by omega, by omega, by omega, by omega, c2, c1.rd⟩))
end
end Go.Ax

/-
  Station: visits, longestWait, Queue, Bays (written by program).
-/
namespace Go.Ax
open Go Go.RowKit Go.Proofs

theorem se24 : sliceElem Try.prog 24 = some (52, 6) := by kernel_rfl
theorem z52 : zeroOf Try.prog 52 = some (.agg #[iv 0, iv 0, iv 0, iv 0, iv 0, iv 0]) := by kernel_rfl
theorem u24 : Try.prog.underlying 24 = some (.slice 52) := by kernel_rfl
theorem in52 : ∃ i, Try.prog.info? 52 = some i ∧ i.bytes ≤ 1000 := by
  have h : (Try.prog.info? 52).map (fun i => Nat.ble i.bytes 1000) = some true := by kernel_rfl
  cases e : Try.prog.info? 52 with
  | none => rw [e] at h; cases h
  | some i => rw [e] at h; exact ⟨i, rfl, Nat.le_of_ble_eq_true (by simpa using h)⟩
theorem heap_makeR {P : Program} {lo n : Nat} {S : Rg} {H : Hp} {d : Option Tmp} {t e ty : TypeId} {x y : Operand} {p : String} {m size : Nat} {z : Value} {i : TypeInfo} (he : sliceElem P t = some (e, size)) (hz : zeroOf P e = some z) (hi : P.info? e = some i) (hb : i.bytes ≤ 1000) (hx : evS S x = some (iv 0)) (hy : evS S y = some (iv (m : Int))) (hm : m ≤ 1000) :
    heapOp P lo (frS n S) H ⟨d, .makeSlice t x y, ty, p, #[], none⟩ = some (.val (.slice (some ⟨H.next, 0, none⟩) 0 m) (H.new (.cells (zeros z.cells.toList m) e false)), .heavy) := by
  have h1 : Nat.ble (i.bytes * m) 1099511627776 = true := Nat.ble_eq_true_of_le (Nat.le_trans (Nat.mul_le_mul hb hm) (by decide))
  unfold heapOp
  simp only [ev_frS, hx, hy, he, hz, hi, show ((m : Nat) : Int) = Int.ofNat m from rfl, show (0 : Int) = Int.ofNat 0 from rfl, Nat.ble_eq_true_of_le (Nat.zero_le m), h1, Nat.ble_eq_true_of_le (show m ≤ 1048576 by omega), Bool.and_true, cond_true]
theorem mk41 (x : Array Value) : marked (.fn (.func 41) x) = false := rfl
theorem mk42 (x : Array Value) : marked (.fn (.func 42) x) = false := rfl
theorem at_succ (n : Nat) (q : Nat → Int × Int) (i : Nat) : Yd.at' n q (i + 1) = (Yd.at' n q i).go n (q i).1 (q i).2 := rfl
section
variable {kn : FuncId → Option Bool} {lo : Nat} {H : Hp}
set_option maxRecDepth 100000 in
/-- visits -/
theorem vis27_ok {sa : Option Addr} {N cap n : Nat} {L : List Tk} (hs0 : Sl H sa N cap (tkc L)) (hl : L.length = N) (hN : N ≤ 64) (hok : ∀ t ∈ L, t.ok = true) (h0 : 0 < n) (hn : n ≤ 8) (hro : RoLow lo H) (hlo : lo ≤ H.next) :
    ∃ b H', FnX Try.prog kn lo 27 [.slice sa N cap, iv (n : Int)] H (slv b N N) H' ∧ Keep H H' [] ∧ H.next ≤ b ∧ Sc H' b (vsc (visL L n)) := by
  have key := fnX_low (kn := kn) (lo := lo) (H := H) (args := [.slice sa N cap, iv (n : Int)]) (Q := fun w H' => ∃ b, w = slv b N N ∧ Keep H H' [] ∧ H.next ≤ b ∧ Sc H' b (vsc (visL L n))) Try.func27 B27 N27 Z27 L27 (by simp) ?_
  · obtain ⟨w, H', h, b, rfl, q⟩ := key; exact ⟨b, H', h, q⟩
  have hk := Keep.refl H []
  have hs := hs0
  refine wN_seq ?_
  refine wN_mov (v := .slice none 0 0) rfl ?_
  refine wN_end ?_
  refine wN_seq ?_
  refine wN_mov (v := iv (n : Int)) rfl ?_
  obtain ⟨nwE, ecE, H1, fH1, kH1, p1E, p2E, p3E, p4E, p5E, hyE, heE⟩ := unl40_ok (kn := kn) (lo := lo) (H := H) (g := 41) (n := n) (by omega)
  refine wN_callf (vs := [iv (n : Int), .func (.func 41) #[] #[]]) rfl (callX_args fH1) ?_
  have mH1 := kH1.1
  have hk := hk.trans kH1
  have hs := kH1.sl0 hs
  refine wN_mov (v := .func (.func 58) #[] #[pt nwE, pt ecE]) rfl ?_
  refine wN_end ?_
  refine wN_seq ?_
  refine wN_mov (v := iv (n : Int)) rfl ?_
  obtain ⟨nwL, ecL, H2, fH2, kH2, p1L, p2L, p3L, p4L, p5L, hyL, heL⟩ := unl40_ok (kn := kn) (lo := lo) (H := H1) (g := 42) (n := n) (by omega)
  refine wN_callf (vs := [iv (n : Int), .func (.func 42) #[] #[]]) rfl (callX_args fH2) ?_
  have mH2 := kH2.1
  have hk := hk.trans kH2
  have hs := kH2.sl0 hs
  have hyE := kH2.cl hyE (by simp)
  have heE := kH2.rd heE (by simp)
  refine wN_mov (v := .func (.func 58) #[] #[pt nwL, pt ecL]) rfl ?_
  refine wN_end ?_
  refine wN_seq ?_
  refine wN_mov (v := .slice sa N cap) rfl ?_
  refine wN_len (m := N) rfl ?_
  obtain ⟨i52, hi52, hb52⟩ := in52
  have eM := fun (q : Nat) (S : Rg) (d : Option Tmp) (x y : Operand) (ty : TypeId) (p : String) => heap_makeR (P := Try.prog) (lo := lo) (n := q) (S := S) (H := H2) (d := d) (x := x) (y := y) (ty := ty) (p := p) (m := N) se24 z52 hi52 hb52
  refine wN_memh (k := .heavy) rfl (by kernel_rfl) (eM _ _ _ _ _ _ _ rfl rfl (by omega)) (fun x e => by cases e) ?_
  generalize hgH3 : H2.new _ = H3
  obtain ⟨kH3, nH3, _⟩ := new_facts hgH3
  have hal := new_sc hgH3
  have mH3 := kH3.1
  have hk := hk.trans kH3
  have hs := kH3.sl0 hs
  have hyE := kH3.cl hyE (by simp)
  have heE := kH3.rd heE (by simp)
  have hyL := kH3.cl hyL (by simp)
  have heL := kH3.rd heL (by simp)
  obtain ⟨al, hAl⟩ : ∃ al, al = H2.next := ⟨_, rfl⟩
  rw [← hAl] at hal ⊢
  have hal : Sc H3 al (vsc (List.replicate N Vs.z)) := by have q := hal; rw [show zeros (Value.agg #[iv 0, iv 0, iv 0, iv 0, iv 0, iv 0]).cells.toList N = vsc (List.replicate N Vs.z) from vsc_zeros N] at q; exact q
  refine wN_mov (v := .slice (some ⟨al, 0, none⟩) 0 N) rfl ?_
  refine wN_end ?_
  refine wN_seq ?_
  refine wN_mov (v := .slice sa N cap) rfl ?_
  refine wN_len (m := N) rfl ?_
  refine wN_mov (v := iv 0) rfl ?_
  refine wN_end ?_
  obtain ⟨H0, hH0⟩ : ∃ H0, H0 = H3 := ⟨_, rfl⟩
  have mH0 : H0.next = H3.next := by rw [hH0]
  refine loop_low (fn := Try.f27) E27_1 N27 L27x1 (fun i : Nat => [(0, .slice sa N cap), (5, .func (.func 58) #[] #[pt nwE, pt ecE]), (6, .func (.func 58) #[] #[pt nwL, pt ecL]), (7, .slice (some ⟨al, 0, none⟩) i N), (19, .slice sa N cap), (20, iv (N : Int)), (21, iv (i : Int))])
    (fun k i H' => i + k = N ∧ Keep H H' [] ∧ Keep H0 H' [nwE, nwL, al] ∧ Cl H' nwE (yc (Yd.at' n (pF L Prod.fst) i) n) ∧ Cl H' nwL (yc (Yd.at' n (pF L Prod.snd) i) n) ∧ Rd H' ecE [.func (.func 41) #[] #[]] ∧ Rd H' ecL [.func (.func 42) #[] #[]] ∧ Sc H' al (vsc (((visL L n).take i) ++ List.replicate (N - i) Vs.z))) N 0 ⟨by omega, hk, by rw [hH0]; exact Keep.refl _ _, hyE, hyL, heE, heL, hal⟩ ⟨rfl, rfl, rfl, rfl, rfl, rfl, rfl, trivial⟩ ?_
  rintro k i L1 ⟨hik, hk, hk2, hyE, hyL, heE, heL, hal⟩
  have hs := hk.sl0 hs0
  have mk0 := hk.1
  have mk2 := hk2.1
  have lnE := hyE.lt
  have lnL := hyL.lt
  have leE := heE.lt
  have leL := heL.lt
  have lal := hal.lt
  refine wN_seq ?_
  refine wN_c_lss (a := (i : Int)) (b := (N : Int)) rfl rfl ?_
  refine wN_end ?_
  refine And.intro (fun q1 => ?_) (fun q1 => ?_)
  · have q1 : (i : Int) < (N : Int) := of_decide_eq_true q1
    have hi : i < N := by omega
    obtain ⟨x, hx⟩ := get_some (l := L) (i := i) (by omega)
    rcases hs with ⟨_, h0, _⟩ | ⟨sb, rfl, rsb, _⟩
    · omega
    have lsb : sb < H.next := hs0.old sb rfl
    have xo := Tk.ok_t (hok x (List.mem_of_getElem? hx))
    have hgx : L.getD i Tk.z = x := by rw [List.getD_eq_getElem?_getD, hx]; rfl
    have eE : pF L Prod.fst i = (x.a1, x.w1) := by unfold pF; rw [hgx]
    have eL : pF L Prod.snd i = (x.a2, x.w2) := by unfold pF; rw [hgx]
    have hYE := yd_in hok (.inl rfl : Prod.fst = Prod.fst ∨ Prod.fst = Prod.snd) n (i := i) (by omega)
    have hYL := yd_in hok (.inr rfl : Prod.snd = Prod.fst ∨ Prod.snd = Prod.snd) n (i := i) (by omega)
    have rE := hYE.rd n
    have bE := hYE.bn n (a := x.a1) (A := 1048576) (by omega) (by omega) (by decide)
    have rL := hYL.rd n
    have bL := hYL.bn n (a := x.a2) (A := 1048576) (by omega) (by omega) (by decide)
    first | refine wN_skip ?_ | skip
    refine wN_seq ?_
    refine wN_idx (b := sb) (o := 0) (k := i) (j := (i : Int)) rfl rfl rfl hi ?_
    refine wN_lda (b := sb) (o := 0 + i * 4) rfl rsb (tkc_row hx) ?_
    refine wN_alc ?_
    intro H4 kH4 nH4 c4
    have c4 : Cl H4 L1.next [iv 0, iv 0, iv 0, iv 0] := c4
    have mH4 := kH4.1
    have hk := hk.trans kH4
    have hk2 := hk2.trans (kH4.mono (by simp))
    have hyE := kH4.cl hyE (by simp)
    have hyL := kH4.cl hyL (by simp)
    have heE := kH4.rd heE (by simp)
    have heL := kH4.rd heL (by simp)
    have hal := kH4.sc hal (by simp)
    have rsb := kH4.rd rsb (by simp)
    refine wN_sta (b := L1.next) (o := 0) rfl rfl c4 (by omega) rfl rfl (by simp) ?_
    intro H5 kH5 nH5 sH5
    have mH5 := kH5.1
    have hk := hk.new kH5 (fun b hb => by simp at hb ⊢; omega)
    have hk2 := hk2.new kH5 (fun b hb => by simp at hb ⊢; omega)
    have hyE := kH5.cl hyE (by first | (simp; done) | (simp; omega))
    have hyL := kH5.cl hyL (by first | (simp; done) | (simp; omega))
    have heE := kH5.rd heE (by first | (simp; done) | (simp; omega))
    have heL := kH5.rd heL (by first | (simp; done) | (simp; omega))
    have hal := kH5.sc hal (by first | (simp; done) | (simp; omega))
    have rsb := kH5.rd rsb (by first | (simp; done) | (simp; omega))
    have c4 : Cl H5 L1.next [iv x.a1, iv x.a2, iv x.w1, iv x.w2] := sH5
    refine wN_end ?_
    refine wR_seq (hk.low hro) ?_
    refine wR_mov (v := .func (.func 58) #[] #[pt nwE, pt ecE]) rfl ?_
    refine wR_lda (b := L1.next) (o := 0) rfl c4.rd (show row 4 _ _ = some [iv x.a1, iv x.a2, iv x.w1, iv x.w2] from rfl) ?_
    obtain ⟨H6, fH6, kH6, yH6⟩ := clos58_ok (kn := kn) (lo := lo) (H := H5) (g := 41) (p := Prod.fst) end41 mk41 (t := x) (y := (Yd.at' n (pF L Prod.fst) i)) (n := n) (nw := nwE) (ec := ecE) h0 hn hYE (by simp only; omega) (by simp only; omega) hyE heE p5E (by omega) (by omega)
    refine wR_callm (b := nwE) (vs := [.agg x.f.toArray]) rfl rfl (by omega) (by omega) (callX_func rfl fH6) kH6 ?_
    have hk := hk.new kH6 (fun b hb => by simp at hb ⊢; omega)
    have hk2 := hk2.new kH6 (fun b hb => by simp at hb ⊢; omega)
    have mH6 := kH6.1
    have hyL := kH6.cl hyL (by first | (simp; done) | (simp; omega))
    have heE := kH6.rd heE (by first | (simp; done) | (simp; omega))
    have heL := kH6.rd heL (by first | (simp; done) | (simp; omega))
    have hal := kH6.sc hal (by first | (simp; done) | (simp; omega))
    have rsb := kH6.rd rsb (by first | (simp; done) | (simp; omega))
    have c4 := kH6.cl c4 (by first | (simp; done) | (simp; omega))
    have hyE : Cl H6 nwE (yc (Yd.at' n (pF L Prod.fst) (i + 1)) n) := by rw [at_succ, eE]; exact yH6
    refine wR_mov (v := .func (.func 58) #[] #[pt nwL, pt ecL]) rfl ?_
    refine wR_lda (b := L1.next) (o := 0) rfl c4.rd (show row 4 _ _ = some [iv x.a1, iv x.a2, iv x.w1, iv x.w2] from rfl) ?_
    obtain ⟨H7, fH7, kH7, yH7⟩ := clos58_ok (kn := kn) (lo := lo) (H := H6) (g := 42) (p := Prod.snd) end42 mk42 (t := x) (y := (Yd.at' n (pF L Prod.snd) i)) (n := n) (nw := nwL) (ec := ecL) h0 hn hYL (by simp only; omega) (by simp only; omega) hyL heL p5L (by omega) (by omega)
    refine wR_callm (b := nwL) (vs := [.agg x.f.toArray]) rfl rfl (by omega) (by omega) (callX_func rfl fH7) kH7 ?_
    have hk := hk.new kH7 (fun b hb => by simp at hb ⊢; omega)
    have hk2 := hk2.new kH7 (fun b hb => by simp at hb ⊢; omega)
    have mH7 := kH7.1
    have heE := kH7.rd heE (by first | (simp; done) | (simp; omega))
    have heL := kH7.rd heL (by first | (simp; done) | (simp; omega))
    have hal := kH7.sc hal (by first | (simp; done) | (simp; omega))
    have rsb := kH7.rd rsb (by first | (simp; done) | (simp; omega))
    have c4 := kH7.cl c4 (by first | (simp; done) | (simp; omega))
    have hyE := kH7.cl hyE (by first | (simp; done) | (simp; omega))
    have hyL : Cl H7 nwL (yc (Yd.at' n (pF L Prod.snd) (i + 1)) n) := by rw [at_succ, eL]; exact yH7
    refine wR_alc ?_
    intro H8 kH8 nH8 c8
    have c8 : Cl H8 H7.next [iv 0, iv 0, iv 0] := c8
    have mH8 := kH8.1
    have heE := kH8.rd heE (by simp)
    have heL := kH8.rd heL (by simp)
    have hal := kH8.sc hal (by simp)
    have rsb := kH8.rd rsb (by simp)
    have c4 := kH8.cl c4 (by simp)
    have hyE := kH8.cl hyE (by simp)
    have hk := hk.trans kH8
    have hk2 := hk2.trans (kH8.mono (by simp))
    have hyL := kH8.cl hyL (by simp)
    refine wR_alc ?_
    intro H9 kH9 nH9 c9
    have c9 : Cl H9 H8.next [iv 0, iv 0, iv 0] := c9
    have mH9 := kH9.1
    have heE := kH9.rd heE (by simp)
    have heL := kH9.rd heL (by simp)
    have hal := kH9.sc hal (by simp)
    have rsb := kH9.rd rsb (by simp)
    have c4 := kH9.cl c4 (by simp)
    have hyE := kH9.cl hyE (by simp)
    have hk := hk.trans kH9
    have hk2 := hk2.trans (kH9.mono (by simp))
    have hyL := kH9.cl hyL (by simp)
    have c8 := kH9.cl c8 (by simp)
    refine wR_sta (b := H7.next) (o := 0) rfl rfl c8 (by omega) rfl rfl (by simp) ?_
    intro H10 kH10 nH10 sH10
    have mH10 := kH10.1
    have heE := kH10.rd heE (by first | (simp; done) | (simp; omega))
    have heL := kH10.rd heL (by first | (simp; done) | (simp; omega))
    have hal := kH10.sc hal (by first | (simp; done) | (simp; omega))
    have rsb := kH10.rd rsb (by first | (simp; done) | (simp; omega))
    have c4 := kH10.cl c4 (by first | (simp; done) | (simp; omega))
    have hyE := kH10.cl hyE (by first | (simp; done) | (simp; omega))
    have hk := hk.new kH10 (fun b hb => by simp at hb ⊢; omega)
    have hk2 := hk2.new kH10 (fun b hb => by simp at hb ⊢; omega)
    have hyL := kH10.cl hyL (by first | (simp; done) | (simp; omega))
    have c9 := kH10.cl c9 (by first | (simp; done) | (simp; omega))
    have c8 : Cl H10 H7.next [iv ((Yd.at' n (pF L Prod.fst) i).rd n), iv ((Yd.at' n (pF L Prod.fst) i).bn n x.a1), iv ((Yd.at' n (pF L Prod.fst) i).bn n x.a1 + x.w1)] := sH10
    refine wR_sta (b := H8.next) (o := 0) rfl rfl c9 (by omega) rfl rfl (by simp) ?_
    intro H11 kH11 nH11 sH11
    have mH11 := kH11.1
    have heE := kH11.rd heE (by first | (simp; done) | (simp; omega))
    have heL := kH11.rd heL (by first | (simp; done) | (simp; omega))
    have hal := kH11.sc hal (by first | (simp; done) | (simp; omega))
    have rsb := kH11.rd rsb (by first | (simp; done) | (simp; omega))
    have c4 := kH11.cl c4 (by first | (simp; done) | (simp; omega))
    have hyE := kH11.cl hyE (by first | (simp; done) | (simp; omega))
    have hk := hk.new kH11 (fun b hb => by simp at hb ⊢; omega)
    have hk2 := hk2.new kH11 (fun b hb => by simp at hb ⊢; omega)
    have hyL := kH11.cl hyL (by first | (simp; done) | (simp; omega))
    have c8 := kH11.cl c8 (by first | (simp; done) | (simp; omega))
    have c9 : Cl H11 H8.next [iv ((Yd.at' n (pF L Prod.snd) i).rd n), iv ((Yd.at' n (pF L Prod.snd) i).bn n x.a2), iv ((Yd.at' n (pF L Prod.snd) i).bn n x.a2 + x.w2)] := sH11
    refine wR_end (by repeat' first | exact True.intro | exact (fun h => h) | refine And.intro ?_ ?_ | (intro h; have h : (_ : Nat) = _ := h; omega)) ?_
    first | refine wD_dreg ?_ | (refine wOps_nil ?_; refine wD_dreg ?_)
    refine wD_mov (v := .slice (some ⟨al, 0, none⟩) i N) rfl ?_
    refine wD_addo (b := H7.next) (o := 0) rfl ?_
    refine wD_ld (b := H7.next) (o := 1) (v := iv ((Yd.at' n (pF L Prod.fst) i).bn n x.a1)) rfl c8.rd rfl ?_
    refine wD_addo (b := H8.next) (o := 0) rfl ?_
    refine wD_ld (b := H8.next) (o := 1) (v := iv ((Yd.at' n (pF L Prod.snd) i).bn n x.a2)) rfl c9.rd rfl ?_
    obtain ⟨H12, fH12, kH12⟩ := span43_ok (kn := kn) (lo := H11.next) (H := H11) (a := ((Yd.at' n (pF L Prod.fst) i).bn n x.a1)) (b := ((Yd.at' n (pF L Prod.snd) i).bn n x.a2)) (by omega)
    refine wD_callh (vs := [iv ((Yd.at' n (pF L Prod.fst) i).bn n x.a1), iv ((Yd.at' n (pF L Prod.snd) i).bn n x.a2)]) rfl rfl (callX_args fH12) ?_
    have mH12 := kH12.1
    have heE := kH12.rd heE (by simp)
    have heL := kH12.rd heL (by simp)
    have hal := kH12.sc hal (by simp)
    have rsb := kH12.rd rsb (by simp)
    have c4 := kH12.cl c4 (by simp)
    have hyE := kH12.cl hyE (by simp)
    have hk := hk.trans kH12
    have hk2 := hk2.trans (kH12.mono (by simp))
    have hyL := kH12.cl hyL (by simp)
    have c8 := kH12.cl c8 (by simp)
    have c9 := kH12.cl c9 (by simp)
    refine wD_addo (b := H7.next) (o := 0) rfl ?_
    refine wD_ld (b := H7.next) (o := 2) (v := iv ((Yd.at' n (pF L Prod.fst) i).bn n x.a1 + x.w1)) rfl c8.rd rfl ?_
    refine wD_addo (b := H8.next) (o := 0) rfl ?_
    refine wD_ld (b := H8.next) (o := 2) (v := iv ((Yd.at' n (pF L Prod.snd) i).bn n x.a2 + x.w2)) rfl c9.rd rfl ?_
    obtain ⟨H13, fH13, kH13⟩ := span43_ok (kn := kn) (lo := H12.next) (H := H12) (a := ((Yd.at' n (pF L Prod.fst) i).bn n x.a1 + x.w1)) (b := ((Yd.at' n (pF L Prod.snd) i).bn n x.a2 + x.w2)) (by omega)
    refine wD_callh (vs := [iv ((Yd.at' n (pF L Prod.fst) i).bn n x.a1 + x.w1), iv ((Yd.at' n (pF L Prod.snd) i).bn n x.a2 + x.w2)]) rfl rfl (callX_args fH13) ?_
    have mH13 := kH13.1
    have heE := kH13.rd heE (by simp)
    have heL := kH13.rd heL (by simp)
    have hal := kH13.sc hal (by simp)
    have rsb := kH13.rd rsb (by simp)
    have c4 := kH13.cl c4 (by simp)
    have hyE := kH13.cl hyE (by simp)
    have hk := hk.trans kH13
    have hk2 := hk2.trans (kH13.mono (by simp))
    have hyL := kH13.cl hyL (by simp)
    have c8 := kH13.cl c8 (by simp)
    have c9 := kH13.cl c9 (by simp)
    refine wD_addo (b := H7.next) (o := 0) rfl ?_
    refine wD_ld (b := H7.next) (o := 0) (v := iv ((Yd.at' n (pF L Prod.fst) i).rd n)) rfl c8.rd rfl ?_
    refine wD_addo (b := L1.next) (o := 0) rfl ?_
    refine wD_addo (b := L1.next) (o := 0) rfl ?_
    refine wD_ld (b := L1.next) (o := 1) (v := iv x.a2) rfl c4.rd rfl ?_
    refine wD_sub (a := ((Yd.at' n (pF L Prod.fst) i).rd n)) (b := x.a2) rfl rfl ⟨by omega, by omega⟩ ?_
    refine wD_mm (a := 0) (b := ((Yd.at' n (pF L Prod.fst) i).rd n) - x.a2) rfl rfl ?_
    refine wD_addo (b := H8.next) (o := 0) rfl ?_
    refine wD_ld (b := H8.next) (o := 0) (v := iv ((Yd.at' n (pF L Prod.snd) i).rd n)) rfl c9.rd rfl ?_
    refine wD_addo (b := L1.next) (o := 0) rfl ?_
    refine wD_addo (b := L1.next) (o := 0) rfl ?_
    refine wD_ld (b := L1.next) (o := 0) (v := iv x.a1) rfl c4.rd rfl ?_
    refine wD_sub (a := ((Yd.at' n (pF L Prod.snd) i).rd n)) (b := x.a1) rfl rfl ⟨by omega, by omega⟩ ?_
    refine wD_mm (a := 0) (b := ((Yd.at' n (pF L Prod.snd) i).rd n) - x.a1) rfl rfl ?_
    obtain ⟨H14, fH14, kH14⟩ := span43_ok (kn := kn) (lo := lo) (H := H13) (a := max 0 (((Yd.at' n (pF L Prod.fst) i).rd n) - x.a2)) (b := max 0 (((Yd.at' n (pF L Prod.snd) i).rd n) - x.a1)) (by omega)
    refine wD_callf (vs := [iv (max 0 (((Yd.at' n (pF L Prod.fst) i).rd n) - x.a2)), iv (max 0 (((Yd.at' n (pF L Prod.snd) i).rd n) - x.a1))]) rfl (callX_args fH14) ?_
    have mH14 := kH14.1
    have heE := kH14.rd heE (by simp)
    have heL := kH14.rd heL (by simp)
    have hal := kH14.sc hal (by simp)
    have rsb := kH14.rd rsb (by simp)
    have c4 := kH14.cl c4 (by simp)
    have hyE := kH14.cl hyE (by simp)
    have hk := hk.trans kH14
    have hk2 := hk2.trans (kH14.mono (by simp))
    have hyL := kH14.cl hyL (by simp)
    have c8 := kH14.cl c8 (by simp)
    have c9 := kH14.cl c9 (by simp)
    refine wD_pur (v := .agg #[iv ((Yd.at' n (pF L Prod.fst) i).bn n x.a1), iv ((Yd.at' n (pF L Prod.snd) i).bn n x.a2), iv ((Yd.at' n (pF L Prod.fst) i).bn n x.a1 + x.w1), iv ((Yd.at' n (pF L Prod.snd) i).bn n x.a2 + x.w2), iv (max 0 (((Yd.at' n (pF L Prod.fst) i).rd n) - x.a2)), iv (max 0 (((Yd.at' n (pF L Prod.snd) i).rd n) - x.a1))]) rfl (by kernel_rfl) ?_
    obtain ⟨H15, hH15⟩ : ∃ H15, H14.new (.cells [iv ((Yd.at' n (pF L Prod.fst) i).bn n x.a1), iv ((Yd.at' n (pF L Prod.snd) i).bn n x.a2), iv ((Yd.at' n (pF L Prod.fst) i).bn n x.a1 + x.w1), iv ((Yd.at' n (pF L Prod.snd) i).bn n x.a2 + x.w2), iv (max 0 (((Yd.at' n (pF L Prod.fst) i).rd n) - x.a2)), iv (max 0 (((Yd.at' n (pF L Prod.snd) i).rd n) - x.a1))] 52 false) = H15 := ⟨_, rfl⟩
    refine wD_memh (H' := H15) (k := .heavy) rfl (by kernel_rfl) ((heap_build1 (v := .agg #[iv ((Yd.at' n (pF L Prod.fst) i).bn n x.a1), iv ((Yd.at' n (pF L Prod.snd) i).bn n x.a2), iv ((Yd.at' n (pF L Prod.fst) i).bn n x.a1 + x.w1), iv ((Yd.at' n (pF L Prod.snd) i).bn n x.a2 + x.w2), iv (max 0 (((Yd.at' n (pF L Prod.fst) i).rd n) - x.a2)), iv (max 0 (((Yd.at' n (pF L Prod.snd) i).rd n) - x.a1))]) se24 z52 rfl rfl rfl (by decide)).trans (by rw [← hH15]; rfl)) (fun b e => by cases e) ?_
    obtain ⟨kH15, nH15, c15⟩ := new_facts hH15; clear hH15
    have c15 : Cl H15 H14.next [iv ((Yd.at' n (pF L Prod.fst) i).bn n x.a1), iv ((Yd.at' n (pF L Prod.snd) i).bn n x.a2), iv ((Yd.at' n (pF L Prod.fst) i).bn n x.a1 + x.w1), iv ((Yd.at' n (pF L Prod.snd) i).bn n x.a2 + x.w2), iv (max 0 (((Yd.at' n (pF L Prod.fst) i).rd n) - x.a2)), iv (max 0 (((Yd.at' n (pF L Prod.snd) i).rd n) - x.a1))] := c15
    have mH15 := kH15.1
    have heE := kH15.rd heE (by simp)
    have heL := kH15.rd heL (by simp)
    have hal := kH15.sc hal (by simp)
    have rsb := kH15.rd rsb (by simp)
    have c4 := kH15.cl c4 (by simp)
    have hyE := kH15.cl hyE (by simp)
    have hk := hk.trans kH15
    have hk2 := hk2.trans (kH15.mono (by simp))
    have hyL := kH15.cl hyL (by simp)
    have c8 := kH15.cl c8 (by simp)
    have c9 := kH15.cl c9 (by simp)
    obtain ⟨H16, eH16, kH16, nH16, aH16⟩ := heap_append_room (P := Try.prog) (lo := lo) (k := i) (cap := N) (t1 := 24) se24 u24 (c15.sl (Nat.le_refl 1)) rfl rfl hal hi (by omega) (by rw [vsc_len]; simp [visL_len]; omega) (by omega)
    refine wD_memh (k := .store al) rfl (by kernel_rfl) (eH16 _ _ _ _ _ _ _ rfl rfl) (fun b e => by cases e) ?_
    have hk := hk.new kH16 (fun b hb => by simp at hb ⊢; omega)
    have hk2 := hk2.new kH16 (fun b hb => by simp at hb ⊢; omega)
    have mH16 := kH16.1
    have heE := kH16.rd heE (by first | (simp; done) | (simp; omega))
    have heL := kH16.rd heL (by first | (simp; done) | (simp; omega))
    have rsb := kH16.rd rsb (by first | (simp; done) | (simp; omega))
    have c4 := kH16.cl c4 (by first | (simp; done) | (simp; omega))
    have hyE := kH16.cl hyE (by first | (simp; done) | (simp; omega))
    have hyL := kH16.cl hyL (by first | (simp; done) | (simp; omega))
    have c8 := kH16.cl c8 (by first | (simp; done) | (simp; omega))
    have c9 := kH16.cl c9 (by first | (simp; done) | (simp; omega))
    have c15 := kH16.cl c15 (by first | (simp; done) | (simp; omega))
    have hal : Sc H16 al (vsc (((visL L n).take (i + 1)) ++ List.replicate (N - (i + 1)) Vs.z)) := by
      have q := aH16
      have hv : visit L n i = ⟨(Yd.at' n (pF L Prod.fst) i).bn n x.a1, (Yd.at' n (pF L Prod.snd) i).bn n x.a2, (Yd.at' n (pF L Prod.fst) i).bn n x.a1 + x.w1, (Yd.at' n (pF L Prod.snd) i).bn n x.a2 + x.w2, max 0 ((Yd.at' n (pF L Prod.fst) i).rd n - x.a2), max 0 ((Yd.at' n (pF L Prod.snd) i).rd n - x.a1)⟩ := by
        unfold visit Yd.bgn Yd.fin Yd.rdy Yd.bgn; rw [eE, eL, hgx]
      have e2 := vs_grow (l := (visL L n).take i) (k := i) (n := N) (x := visit L n i) (by rw [List.length_take, visL_len]; omega) hi
      rw [List.take_add_one, visL_get (by omega)]
      rw [hv] at e2 ⊢
      exact e2 ▸ q
    refine wD_mov (v := .slice (some ⟨al, 0, none⟩) (i + 1) N) rfl ?_
    refine wD_end (by repeat' first | exact True.intro | exact (fun h => h) | refine And.intro ?_ ?_ | (intro h; have h : (_ : Nat) = _ := h; omega)) ?_
    first | refine wN_reg ?_ | refine wN_blk ?_ | (refine wOps_nil ?_; refine wN_reg ?_)
    refine wN_add (a := (i : Int)) (b := 1) rfl rfl ⟨by omega, by omega⟩ ?_
    refine wN_mov (v := iv ((i : Int) + 1)) rfl ?_
    refine wN_end ?_
    exact ⟨k - 1, i + 1, by omega, ⟨by omega, hk, hk2, hyE, hyL, heE, heL, hal⟩, rfl, rfl, rfl, rfl, rfl, rfl, rfl, trivial⟩
  · have q1 : ¬ ((i : Int) < (N : Int)) := of_decide_eq_false q1
    refine wN_seq ?_
    refine wN_mov (v := .slice (some ⟨al, 0, none⟩) i N) rfl ?_
    refine wN_mov (v := .slice (some ⟨al, 0, none⟩) i N) rfl ?_
    refine wN_end ?_
    have e : i = N := by omega
    have hal : Sc L1 al (vsc (visL L n)) := by rw [e, Nat.sub_self, List.replicate_zero, List.append_nil, List.take_of_length_le (by rw [visL_len]; omega)] at hal; exact hal
    exact And.intro trivial (Exists.intro _ (And.intro rfl ⟨al, by rw [e]; rfl, hk, by omega, hal⟩))
end
end Go.Ax

/-
  Station: longestWait, Queue, Bays (written by program).
-/
namespace Go.Ax
open Go Go.RowKit Go.Proofs

section
variable {kn : FuncId → Option Bool} {lo : Nat} {H : Hp}
/-- longestWait -/
theorem long31_ok {sa : Option Addr} {n cap : Nat} {us : List Vs} (hs : Sl H sa n cap (vsc us)) (hl : us.length = n) (hn : n ≤ 1000000) (hlo : lo ≤ H.next) : ∃ H', FnX Try.prog kn lo 31 [.slice sa n cap] H (iv (lw us)) H' ∧ Keep H H' [] := by
  have key := fnX_low (kn := kn) (lo := lo) (H := H) (args := [.slice sa n cap]) (Q := fun w H' => w = iv (lw us) ∧ Keep H H' []) Try.func31 B31 N31 Z31 L31 (by simp) ?_
  · obtain ⟨w, H', h, rfl, q⟩ := key; exact ⟨H', h, q⟩
  have hk := Keep.refl H []
  refine wN_seq ?_
  refine wN_mov (v := iv 0) rfl ?_
  refine wN_end ?_
  refine wN_seq ?_
  refine wN_mov (v := iv 0) rfl ?_
  refine wN_end ?_
  refine wN_seq ?_
  refine wN_mov (v := .slice sa n cap) rfl ?_
  refine wN_len (m := n) rfl ?_
  refine wN_mov (v := iv 0) rfl ?_
  refine wN_end ?_
  refine loop_low (fn := Try.f31) E31_1 N31 L31x1 (fun i : Nat => [(3, iv ((us.take i).foldl (fun m v => max m v.w2) 0)), (6, .slice sa n cap), (7, iv (n : Int)), (8, iv (i : Int))])
    (fun k i H' => i + k = n ∧ Keep H H' []) n 0 ⟨by omega, Keep.refl _ _⟩ ⟨rfl, rfl, rfl, rfl, trivial⟩ ?_
  rintro k i L1 ⟨hik, hki⟩
  have hk := hk.trans hki
  have hs := hki.sl0 hs
  have kb := hki
  have mki := hki.1
  refine wN_seq ?_
  refine wN_c_lss (a := (i : Int)) (b := (n : Int)) rfl rfl ?_
  refine wN_end ?_
  refine And.intro (fun q1 => ?_) (fun q1 => ?_)
  · have q1 : (i : Int) < (n : Int) := of_decide_eq_true q1
    have hi : i < n := by omega
    obtain ⟨x, hx⟩ := get_some (l := us) (i := i) (by omega)
    rcases hs with ⟨_, h0, _⟩ | ⟨sb, rfl, rsb, _⟩
    · omega
    have lsb := rsb.lt
    first | refine wN_skip ?_ | skip
    refine wN_seq ?_
    refine wN_idx (b := sb) (o := 0) (k := i) (j := (i : Int)) rfl rfl rfl hi ?_
    refine wN_lda (b := sb) (o := 0 + i * 6) rfl rsb (vsc_row hx) ?_
    refine wN_alc ?_
    intro H1 kH1 nH1 c1
    have c1 : Cl H1 L1.next [iv 0, iv 0, iv 0, iv 0, iv 0, iv 0] := c1
    have mH1 := kH1.1
    have hk := hk.trans kH1
    have kb := kb.trans kH1
    have rsb := kH1.rd rsb (by simp)
    refine wN_sta (b := L1.next) (o := 0) rfl rfl c1 (by omega) rfl rfl (by simp) ?_
    intro H2 kH2 nH2 sH2
    have mH2 := kH2.1
    have hk := hk.new kH2 (fun b hb => by simp at hb ⊢; omega)
    have kb := kb.new kH2 (fun b hb => by simp at hb ⊢; omega)
    have rsb := kH2.rd rsb (by first | (simp; done) | (simp; omega))
    have c1 : Cl H2 L1.next [iv x.b1, iv x.b2, iv x.e1, iv x.e2, iv x.w1, iv x.w2] := sH2
    refine wN_end ?_
    first | refine wN_reg ?_ | refine wN_blk ?_ | (refine wOps_nil ?_; refine wN_reg ?_)
    refine wN_mov (v := iv ((us.take i).foldl (fun m v => max m v.w2) 0)) rfl ?_
    refine wN_addo (b := L1.next) (o := 0) rfl ?_
    refine wN_addo (b := L1.next) (o := 4) rfl ?_
    refine wN_ld (b := L1.next) (o := 5) (v := iv x.w2) rfl c1.rd rfl ?_
    refine wN_mm (a := ((us.take i).foldl (fun m v => max m v.w2) 0)) (b := x.w2) rfl rfl ?_
    refine wN_mov (v := iv (max ((us.take i).foldl (fun m v => max m v.w2) 0) x.w2)) rfl ?_
    refine wN_end ?_
    first | refine wN_reg ?_ | refine wN_blk ?_ | (refine wOps_nil ?_; refine wN_reg ?_)
    refine wN_add (a := (i : Int)) (b := 1) rfl rfl ⟨by omega, by omega⟩ ?_
    refine wN_mov (v := iv ((i : Int) + 1)) rfl ?_
    refine wN_end ?_
    exact ⟨k - 1, i + 1, by omega, ⟨by omega, kb⟩, by rw [foldl_step hx]; rfl, rfl, rfl, rfl, trivial⟩
  · have q1 : ¬ ((i : Int) < (n : Int)) := of_decide_eq_false q1
    refine wN_seq ?_
    refine wN_mov (v := iv ((us.take i).foldl (fun m v => max m v.w2) 0)) rfl ?_
    refine wN_mov (v := iv ((us.take i).foldl (fun m v => max m v.w2) 0)) rfl ?_
    refine wN_end ?_
    exact And.intro trivial (Exists.intro _ (And.intro rfl ⟨by rw [List.take_of_length_le (by omega)]; rfl, hk⟩))
theorem tksOk_t {L : List Tk} (h : tksOk L = true) : L.length ≤ 64 ∧ ∀ t ∈ L, t.ok = true := by
  unfold tksOk at h
  rw [Bool.and_eq_true, decide_eq_true_eq, List.all_eq_true] at h
  exact h
/-- Queue -/
theorem queue11_ok {sa : Option Addr} {N cap : Nat} {L : List Tk} {bays : Int} (hs : Sl H sa N cap (tkc L)) (hl : L.length = N) (hro : RoLow lo H) (hlo : lo ≤ H.next) :
    ∃ w H', FnX Try.prog kn lo 11 [.slice sa N cap, iv bays] H w H' ∧ ∃ a c, w = .tuple #[.slice a (ql L bays).length c, iv (qe L bays)] ∧ Keep H H' [] ∧ Sl H' a (ql L bays).length c (vsc (ql L bays)) ∧ ∀ x, a = some ⟨x, 0, none⟩ → H.next ≤ x ∧ Fx H' x (vsc (ql L bays)) := by
  have key := fnX_low (kn := kn) (lo := lo) (H := H) (args := [.slice sa N cap, iv bays]) (Q := fun w H' => ∃ a c, w = .tuple #[.slice a (ql L bays).length c, iv (qe L bays)] ∧ Keep H H' [] ∧ Sl H' a (ql L bays).length c (vsc (ql L bays)) ∧ ∀ x, a = some ⟨x, 0, none⟩ → H.next ≤ x ∧ Fx H' x (vsc (ql L bays))) Try.func11 B11 N11 Z11 L11 (by simp) ?_
  · exact key
  have hk := Keep.refl H []
  refine wN_seq ?_
  refine wN_mov (v := .slice none 0 0) rfl ?_
  refine wN_mov (v := iv 0) rfl ?_
  refine wN_end ?_
  refine wN_seq ?_
  refine wN_mov (v := .slice sa N cap) rfl ?_
  refine wN_callB rfl (valid26_ok hs hl) ?_
  intro tH1 H1 hH1 kH1
  have mH1 := kH1.1
  have hk := hk.trans kH1
  have hs := kH1.sl0 hs
  cases tH1
  · have hval : tksOk L = false := hH1
    refine wN_pur (v := .bool true) rfl rfl ?_
    refine wN_end ?_
    refine condT ?_
    refine wN_seq ?_
    refine wN_mov (v := .slice none 0 0) rfl ?_
    refine wN_mov (v := iv 1) rfl ?_
    refine wN_end ?_
    have hq : qe L bays = 1 := by unfold qe; rw [if_neg (by rw [hval]; decide)]
    have hQ : ql L bays = [] := by unfold ql; rw [if_neg (by rw [hq]; decide)]
    exact And.intro trivial (Exists.intro _ (And.intro rfl ⟨none, 0, by rw [hq, hQ]; rfl, hk, by rw [hQ]; exact .inl ⟨.inl rfl, rfl, rfl, rfl⟩, fun x e => by cases e⟩))
  · have hval : tksOk L = true := hH1
    refine wN_pur (v := .bool false) rfl rfl ?_
    refine wN_end ?_
    refine condF ?_
    first | refine wN_skip ?_ | skip
    refine wN_seq ?_
    refine wN_mov (v := iv bays) rfl ?_
    refine wN_b_lss (a := bays) (b := 1) rfl rfl ?_
    intro t1 g1; cases t1
    · have g1 : ¬ (bays < 1) := of_decide_eq_false g1
      refine wN_mov (v := .bool false) rfl ?_
      refine wN_g rfl (wN_mov (v := iv bays) rfl ?_)
      refine wN_g rfl (wN_b_gtr (a := bays) (b := 8) rfl rfl ?_)
      intro t2 g2; cases t2
      · have g2 : ¬ (bays > 8) := of_decide_eq_false g2
        refine wN_pur (v := .bool false) rfl rfl ?_
        refine wN_end ?_
        refine condF ?_
        first | refine wN_skip ?_ | skip
        refine wN_seq ?_
        refine wN_mov (v := .slice sa N cap) rfl ?_
        refine wN_mov (v := iv bays) rfl ?_
        have hokl : L.length ≤ 64 ∧ ∀ t ∈ L, t.ok = true := tksOk_t hval
        obtain ⟨n, rfl⟩ : ∃ n : Nat, bays = (n : Int) := ⟨bays.toNat, by omega⟩
        obtain ⟨b, H2, fH2, kH2, hb, hv⟩ := vis27_ok (kn := kn) (lo := lo) (H := H1) (n := n) hs hl (by omega) hokl.2 (by omega) (by omega) (hk.low hro) (by omega)
        refine wN_callf (vs := [.slice sa N cap, iv (n : Int)]) rfl (callX_args fH2) ?_
        have mH2 := kH2.1
        have hk := hk.trans kH2
        have hs := kH2.sl0 hs
        refine wN_mov (v := .slice (some ⟨b, 0, none⟩) N N) rfl ?_
        refine wN_mov (v := iv 0) rfl ?_
        refine wN_end ?_
        have hq : qe L (n : Int) = 0 := by unfold qe; rw [if_pos hval, if_pos (by simp [inB]; omega)]
        have hQ : ql L (n : Int) = visL L n := by unfold ql; rw [if_pos hq]; rfl
        have hQl : (ql L (n : Int)).length = N := by rw [hQ, visL_len, hl]
        exact And.intro trivial (Exists.intro _ (And.intro rfl ⟨some ⟨b, 0, none⟩, N, by rw [hq, hQl]; rfl, hk, by rw [hQl, hQ]; exact hv.cl.sl (Nat.le_refl _), fun x e => by cases e; exact ⟨by omega, by rw [hQ]; exact hv.fx⟩⟩))
      · have g2 : bays > 8 := of_decide_eq_true g2
        refine wN_pur (v := .bool true) rfl rfl ?_
        refine wN_end ?_
        refine condT ?_
        refine wN_seq ?_
        refine wN_mov (v := .slice none 0 0) rfl ?_
        refine wN_mov (v := iv 2) rfl ?_
        refine wN_end ?_
        have hq : qe L bays = 2 := by unfold qe; rw [if_pos hval, if_neg (by simp [inB]; omega)]
        have hQ : ql L bays = [] := by unfold ql; rw [if_neg (by rw [hq]; decide)]
        exact And.intro trivial (Exists.intro _ (And.intro rfl ⟨none, 0, by rw [hq, hQ]; rfl, hk, by rw [hQ]; exact .inl ⟨.inl rfl, rfl, rfl, rfl⟩, fun x e => by cases e⟩))
    · have g1 : bays < 1 := of_decide_eq_true g1
      refine wN_mov (v := .bool true) rfl ?_
      refine wN_gs rfl ?_
      refine wN_gs rfl ?_
      refine wN_pur (v := .bool true) rfl rfl ?_
      refine wN_end ?_
      refine condT ?_
      refine wN_seq ?_
      refine wN_mov (v := .slice none 0 0) rfl ?_
      refine wN_mov (v := iv 2) rfl ?_
      refine wN_end ?_
      have hq : qe L bays = 2 := by unfold qe; rw [if_pos hval, if_neg (by simp [inB]; omega)]
      have hQ : ql L bays = [] := by unfold ql; rw [if_neg (by rw [hq]; decide)]
      exact And.intro trivial (Exists.intro _ (And.intro rfl ⟨none, 0, by rw [hq, hQ]; rfl, hk, by rw [hQ]; exact .inl ⟨.inl rfl, rfl, rfl, rfl⟩, fun x e => by cases e⟩))
/-- Bays -/
theorem bays13_ok {sa : Option Addr} {N cap : Nat} {L : List Tk} {m : Int} (hs0 : Sl H sa N cap (tkc L)) (hl : L.length = N) (hro : RoLow lo H) (hlo : lo ≤ H.next) :
    ∃ H', FnX Try.prog kn lo 13 [.slice sa N cap, iv m] H (.tuple #[iv (by' L m).1, iv (by' L m).2]) H' ∧ Keep H H' [] := by
  have key := fnX_low (kn := kn) (lo := lo) (H := H) (args := [.slice sa N cap, iv m]) (Q := fun w H' => w = (.tuple #[iv (by' L m).1, iv (by' L m).2]) ∧ Keep H H' []) Try.func13 B13 N13 Z13 L13 (by simp) ?_
  · obtain ⟨w, H', h, rfl, q⟩ := key; exact ⟨H', h, q⟩
  have hk := Keep.refl H []
  have hs := hs0
  refine wN_seq ?_
  refine wN_mov (v := iv 0) rfl ?_
  refine wN_mov (v := iv 0) rfl ?_
  refine wN_end ?_
  refine wN_seq ?_
  refine wN_mov (v := .slice sa N cap) rfl ?_
  refine wN_callB rfl (valid26_ok hs hl) ?_
  intro tH1 H1 hH1 kH1
  have mH1 := kH1.1
  have hk := hk.trans kH1
  have hs := kH1.sl0 hs
  cases tH1
  · have hval : tksOk L = false := hH1
    refine wN_pur (v := .bool true) rfl rfl ?_
    refine wN_end ?_
    refine condT ?_
    refine wN_seq ?_
    refine wN_mov (v := iv 0) rfl ?_
    refine wN_mov (v := iv 1) rfl ?_
    refine wN_end ?_
    have hq2 : by' L m = (0, 1) := (by unfold by'; rw [if_neg (by rw [hval]; decide)])
    exact And.intro trivial (Exists.intro _ (And.intro rfl ⟨by rw [hq2]; rfl, hk⟩))
  · have hval : tksOk L = true := hH1
    refine wN_pur (v := .bool false) rfl rfl ?_
    refine wN_end ?_
    refine condF ?_
    first | refine wN_skip ?_ | skip
    refine wN_seq ?_
    refine wN_mov (v := iv m) rfl ?_
    refine wN_callB rfl (isw_ok) ?_
    intro tH2 H2 hH2 kH2
    have mH2 := kH2.1
    have hk := hk.trans kH2
    have hs := kH2.sl0 hs
    cases tH2
    · have fhH2 := isw_f hH2
      refine wN_pur (v := .bool true) rfl rfl ?_
      refine wN_end ?_
      refine condT ?_
      refine wN_seq ?_
      refine wN_mov (v := iv 0) rfl ?_
      refine wN_mov (v := iv 2) rfl ?_
      refine wN_end ?_
      have hq2 : by' L m = (0, 2) := (by unfold by'; rw [if_pos hval, if_neg (by simp [isw]; omega)])
      exact And.intro trivial (Exists.intro _ (And.intro rfl ⟨by rw [hq2]; rfl, hk⟩))
    · have fhH2 := isw_t hH2
      refine wN_pur (v := .bool false) rfl rfl ?_
      refine wN_end ?_
      refine condF ?_
      first | refine wN_skip ?_ | skip
      refine wN_seq ?_
      refine wN_mov (v := iv 1) rfl ?_
      refine wN_end ?_
      have hokl : L.length ≤ 64 ∧ ∀ t ∈ L, t.ok = true := tksOk_t hval
      refine loop_low (fn := Try.f13) E13_1 N13 L13x1 (fun i : Nat => [(0, .slice sa N cap), (1, iv m), (6, iv (i : Int))])
        (fun k i H' => i + k = 9 ∧ 1 ≤ i ∧ Keep H H' [] ∧ bayGo (fun n => decide (lw (visL L n) ≤ m)) 8 1 = bayGo (fun n => decide (lw (visL L n) ≤ m)) k i) 8 1 ⟨by omega, by omega, hk, rfl⟩ ⟨rfl, rfl, rfl, trivial⟩ ?_
      rintro k i L1 ⟨hik, h1, hk, hgo⟩
      have hs := hk.sl0 hs0
      have mk0 := hk.1
      refine wN_seq ?_
      refine wN_mov (v := iv (i : Int)) rfl ?_
      refine wN_c_leq (a := (i : Int)) (b := 8) rfl rfl ?_
      refine wN_end ?_
      refine And.intro (fun q1 => ?_) (fun q1 => ?_)
      · have q1 : (i : Int) ≤ 8 := of_decide_eq_true q1
        first | refine wN_skip ?_ | skip
        refine wN_seq ?_
        refine wN_mov (v := .slice sa N cap) rfl ?_
        refine wN_mov (v := iv (i : Int)) rfl ?_
        obtain ⟨b, H3, fH3, kH3, hb, hv⟩ := vis27_ok (kn := kn) (lo := lo) (H := L1) (n := i) hs hl (by omega) hokl.2 (by omega) (by omega) (hk.low hro) (by omega)
        refine wN_callf (vs := [.slice sa N cap, iv (i : Int)]) rfl (callX_args fH3) ?_
        have mH3 := kH3.1
        have hk := hk.trans kH3
        have hs := kH3.sl0 hs
        obtain ⟨H4, fH4, kH4⟩ := long31_ok (kn := kn) (lo := lo) (H := H3) (us := visL L i) (hv.cl.sl (Nat.le_refl N)) (by rw [visL_len, hl]) (by omega) (by omega)
        refine wN_callf (vs := [slv b N N]) rfl (callX_args fH4) ?_
        have mH4 := kH4.1
        have hk := hk.trans kH4
        have hs := kH4.sl0 hs
        have hv := kH4.sc hv (by simp)
        refine wN_mov (v := iv m) rfl ?_
        refine wN_c_leq (a := (lw (visL L i))) (b := m) rfl rfl ?_
        refine wN_end ?_
        refine And.intro (fun q2 => ?_) (fun q2 => ?_)
        · have q2 : (lw (visL L i)) ≤ m := of_decide_eq_true q2
          have hq := q2
          refine wN_seq ?_
          refine wN_mov (v := iv (i : Int)) rfl ?_
          refine wN_mov (v := iv (i : Int)) rfl ?_
          refine wN_mov (v := iv 0) rfl ?_
          refine wN_end ?_
          have hq2 : by' L m = ((i : Int), 0) := (by unfold by'; rw [if_pos hval, if_pos (by simp [isw]; omega), hgo]; obtain ⟨k2, rfl⟩ : ∃ k2, k = k2 + 1 := ⟨k - 1, by omega⟩; show (if _ then _ else _) = _; rw [if_pos (by simpa using hq)])
          exact And.intro trivial (Exists.intro _ (And.intro rfl ⟨by rw [hq2]; rfl, hk⟩))
        · have q2 : ¬ ((lw (visL L i)) ≤ m) := of_decide_eq_false q2
          have hq := q2
          first | refine wN_skip ?_ | skip
          first | refine wN_reg ?_ | refine wN_blk ?_ | (refine wOps_nil ?_; refine wN_reg ?_)
          refine wN_mov (v := iv (i : Int)) rfl ?_
          refine wN_add (a := (i : Int)) (b := 1) rfl rfl ⟨by omega, by omega⟩ ?_
          refine wN_mov (v := iv ((i : Int) + 1)) rfl ?_
          refine wN_end ?_
          exact ⟨k - 1, i + 1, by omega, ⟨by omega, by omega, hk, by rw [hgo]; obtain ⟨k2, rfl⟩ : ∃ k2, k = k2 + 1 := ⟨k - 1, by omega⟩; show (if _ then _ else _) = _; rw [if_neg (by simpa using hq)]; rfl⟩, rfl, rfl, rfl, trivial⟩
      · have q1 : ¬ ((i : Int) ≤ 8) := of_decide_eq_false q1
        refine wN_seq ?_
        refine wN_mov (v := iv 0) rfl ?_
        refine wN_mov (v := iv 4) rfl ?_
        refine wN_end ?_
        have hq2 : by' L m = (0, 4) := (by unfold by'; rw [if_pos hval, if_pos (by simp [isw]; omega), hgo, show k = 0 by omega]; rfl)
        exact And.intro trivial (Exists.intro _ (And.intro rfl ⟨by rw [hq2]; rfl, hk⟩))
end
end Go.Ax

/-! What 'low' makes of functions of station (written by program). -/
namespace Go.Ax
open Go Go.RowKit Go.Proofs
end Go.Ax

/-
  Station: the document's Run and queue (written by program).
-/
namespace Go.Ax
open Go Go.RowKit Go.Proofs

theorem se45 : sliceElem Try.prog 45 = some (3, 1) := by kernel_rfl
theorem z3 : zeroOf Try.prog 3 = some (.int .i64 0) := by kernel_rfl
theorem u45 : Try.prog.underlying 45 = some (.slice 3) := by kernel_rfl
theorem in3b : ∃ i, Try.prog.info? 3 = some i ∧ i.bytes ≤ 8 := by
  have h : (Try.prog.info? 3).map (fun i => Nat.ble i.bytes 8) = some true := by kernel_rfl
  cases e : Try.prog.info? 3 with
  | none => rw [e] at h; cases h
  | some i => rw [e] at h; exact ⟨i, rfl, Nat.le_of_ble_eq_true (by simpa using h)⟩
/-- the first i numbers of a function -/
def nm (f : Nat → Int) (i : Nat) : List Int := (List.range i).map f
theorem nm_len (f : Nat → Int) (i : Nat) : (nm f i).length = i := by simp [nm]
theorem nm_get {f : Nat → Int} {i n : Nat} (h : i < n) : (nm f n)[i]? = some (f i) := by simp [nm, h]
theorem nm_set {y : Nat → Int} {n m : Nat} {x : Int} (h : m < n) : (ints (nm y n)).set (0 + m * 1) (iv x) = ints (nm (upd y m x) n) := by
  apply List.ext_getElem?
  intro i
  rw [Nat.zero_add, Nat.mul_one]
  by_cases hi : i < n
  · by_cases e : i = m
    · subst e
      rw [List.getElem?_set_self (by rw [ints_len, nm_len]; exact hi)]
      simp [ints, nm, hi, upd]
    · rw [List.getElem?_set_ne (fun q => e q.symm)]
      simp [ints, nm, hi, upd, e]
  · rw [List.getElem?_eq_none (by simp [ints_len, nm_len]; omega), List.getElem?_eq_none (by simp [ints_len, nm_len]; omega)]
theorem nm_rep (n : Nat) : ints (List.replicate n 0) = ints (nm (fun _ => 0) n) := by
  congr 1
  apply List.ext_getElem?
  intro i
  by_cases hi : i < n
  · simp [nm, hi, List.getElem?_replicate]
  · simp [nm, hi, List.getElem?_replicate]
section
variable {kn : FuncId → Option Bool} {lo : Nat} {H : Hp}
end
end Go.Ax

/-
  Station: the document's queue, Queue, Bays, Visits (written by program).
-/
namespace Go.Ax
open Go Go.RowKit Go.Proofs

section
variable {kn : FuncId → Option Bool} {lo : Nat} {H : Hp}
end
end Go.Ax

/-
  Station: the document's Queue, Bays, Visits (written by program).
-/
namespace Go.Ax
open Go Go.RowKit Go.Proofs

theorem prun_bind {P : Program} {α β : Type} (f : α → Sem β) : ∀ (x : Sem α), prun P (x >>= f) = (prun P x).bind fun a => prun P (f a) := by
  intro x
  induction x with
  | pure a => rfl
  | program k ih => exact ih P
  | _ => rfl
theorem prun_pure {α : Type} {P : Program} (a : α) : prun P (pure a : Sem α) = some a := rfl
theorem prun_ite {α : Type} {P : Program} {c : Prop} [Decidable c] (a b : Sem α) : prun P (if c then a else b) = if c then prun P a else prun P b := by split <;> rfl
theorem same_struct {P : Program} {d : Nat} {t : TypeId} {xs : Array Value} {fs : Array Field} (hu : prun P (underlying t) = some (.struct fs)) (hp : P.stoodInHeld t = false)
    (hf : ∀ f ∈ fs.toList, ∃ v, prun P (part f.type xs f.offset) = some v ∧ prun P (Op.equalIn d f.type v v) = some true) :
    prun P (Op.equalIn (d + 1) t (.agg xs) (.agg xs)) = some true := by
  simp only [Op.equalIn, prun_bind, hu, Option.bind_some, show prun P program = some P from rfl, hp, Bool.false_eq_true, if_false]
  rw [← Array.forIn_toList]
  generalize fs.toList = l at hf
  induction l with
  | nil => rfl
  | cons f l ih =>
    obtain ⟨v, h1, h2⟩ := hf f (by simp)
    have ih := ih (fun g hg => hf g (by simp [hg]))
    simp only [List.forIn_cons, prun_bind, prun_ite]
    split
    · simp only [h1, h2, Option.bind_some, Bool.not_true, Bool.false_eq_true, if_false, prun_pure]
      exact ih
    · simp only [prun_pure, Option.bind_some]
      exact ih
theorem same_int {d : Nat} {x : Int} : prun Try.prog (Op.equalIn (d + 1) 3 (iv x) (iv x)) = some true := by
  have h : prun Try.prog (Op.equalIn (d + 1) 3 (iv x) (iv x)) = some (x == x) := by kernel_rfl
  rw [h]; simp
def fldsIn (P : Program) (t : TypeId) : Array Field :=
  match P.underlying t with
  | some (.struct fs) => fs
  | _ => #[]
theorem un47 : prun Try.prog (underlying 47) = some (.struct (fldsIn Try.prog 47)) := by kernel_rfl
theorem fs47 : (fldsIn Try.prog 47).toList.map (fun f => (f.type, f.offset)) = [(3, 0), (3, 1)] := by kernel_rfl
theorem st47 : Program.stoodInHeld Try.prog 47 = false := by kernel_rfl
theorem un52 : prun Try.prog (underlying 52) = some (.struct (fldsIn Try.prog 52)) := by kernel_rfl
theorem fs52 : (fldsIn Try.prog 52).toList.map (fun f => (f.type, f.offset)) = [(47, 0), (47, 2), (47, 4)] := by kernel_rfl
theorem st52 : Program.stoodInHeld Try.prog 52 = false := by kernel_rfl
theorem un38 : prun Try.prog (underlying 38) = some (.struct (fldsIn Try.prog 38)) := by kernel_rfl
theorem fs38 : (fldsIn Try.prog 38).toList.map (fun f => (f.type, f.offset)) = [(3, 0), (3, 1), (3, 2), (3, 3), (3, 4), (3, 5)] := by kernel_rfl
theorem st38 : Program.stoodInHeld Try.prog 38 = false := by kernel_rfl
theorem same_span {d : Nat} {x0 x1 : Int} : prun Try.prog (Op.equalIn (d + 2) 47 (.agg #[iv x0, iv x1]) (.agg #[iv x0, iv x1])) = some true := by
  refine same_struct (xs := #[iv x0, iv x1]) un47 st47 ?_
  intro f hf
  have h : (f.type, f.offset) ∈ [(3, 0), (3, 1)] := by rw [← fs47]; exact List.mem_map.mpr ⟨f, hf, rfl⟩
  simp only [List.mem_cons, List.not_mem_nil, or_false, Prod.mk.injEq] at h
  rcases h with ⟨h1, h2⟩ | ⟨h1, h2⟩ <;> rw [h1, h2]
  · exact ⟨iv x0, by kernel_rfl, same_int⟩
  · exact ⟨iv x1, by kernel_rfl, same_int⟩
theorem same_visit {d : Nat} {x0 x1 x2 x3 x4 x5 : Int} : prun Try.prog (Op.equalIn (d + 3) 52 (.agg #[iv x0, iv x1, iv x2, iv x3, iv x4, iv x5]) (.agg #[iv x0, iv x1, iv x2, iv x3, iv x4, iv x5])) = some true := by
  refine same_struct (xs := #[iv x0, iv x1, iv x2, iv x3, iv x4, iv x5]) un52 st52 ?_
  intro f hf
  have h : (f.type, f.offset) ∈ [(47, 0), (47, 2), (47, 4)] := by rw [← fs52]; exact List.mem_map.mpr ⟨f, hf, rfl⟩
  simp only [List.mem_cons, List.not_mem_nil, or_false, Prod.mk.injEq] at h
  rcases h with ⟨h1, h2⟩ | ⟨h1, h2⟩ | ⟨h1, h2⟩ <;> rw [h1, h2]
  · exact ⟨spv x0 x1, by kernel_rfl, same_span⟩
  · exact ⟨spv x2 x3, by kernel_rfl, same_span⟩
  · exact ⟨spv x4 x5, by kernel_rfl, same_span⟩
theorem same_load {d : Nat} {x0 x1 x2 x3 x4 x5 : Int} : prun Try.prog (Op.equalIn (d + 2) 38 (.agg #[iv x0, iv x1, iv x2, iv x3, iv x4, iv x5]) (.agg #[iv x0, iv x1, iv x2, iv x3, iv x4, iv x5])) = some true := by
  refine same_struct (xs := #[iv x0, iv x1, iv x2, iv x3, iv x4, iv x5]) un38 st38 ?_
  intro f hf
  have h : (f.type, f.offset) ∈ [(3, 0), (3, 1), (3, 2), (3, 3), (3, 4), (3, 5)] := by rw [← fs38]; exact List.mem_map.mpr ⟨f, hf, rfl⟩
  simp only [List.mem_cons, List.not_mem_nil, or_false, Prod.mk.injEq] at h
  rcases h with ⟨h1, h2⟩ | ⟨h1, h2⟩ | ⟨h1, h2⟩ | ⟨h1, h2⟩ | ⟨h1, h2⟩ | ⟨h1, h2⟩ <;> rw [h1, h2]
  · exact ⟨iv x0, by kernel_rfl, same_int⟩
  · exact ⟨iv x1, by kernel_rfl, same_int⟩
  · exact ⟨iv x2, by kernel_rfl, same_int⟩
  · exact ⟨iv x3, by kernel_rfl, same_int⟩
  · exact ⟨iv x4, by kernel_rfl, same_int⟩
  · exact ⟨iv x5, by kernel_rfl, same_int⟩
theorem neq_visit {n : Nat} {S : Rg} {d : Option Tmp} {x y : Operand} {p : String} {ty : TypeId} {x0 x1 x2 x3 x4 x5 : Int} (hx : evS S x = some (.agg #[iv x0, iv x1, iv x2, iv x3, iv x4, iv x5])) (hy : evS S y = some (.agg #[iv x0, iv x1, iv x2, iv x3, iv x4, iv x5])) : pureOp Try.prog (frS n S) ⟨d, .binOp .neq 52 x y 52, ty, p, #[], none⟩ = some (.bool false) := by
  have key : prun Try.prog (do eqGuard .neq 52 x y (.agg #[iv x0, iv x1, iv x2, iv x3, iv x4, iv x5]) (.agg #[iv x0, iv x1, iv x2, iv x3, iv x4, iv x5]); binOp .neq 52 (.agg #[iv x0, iv x1, iv x2, iv x3, iv x4, iv x5]) (.agg #[iv x0, iv x1, iv x2, iv x3, iv x4, iv x5])) = some (.bool false) := by
    rw [prun_bind, show prun Try.prog (eqGuard .neq 52 x y (.agg #[iv x0, iv x1, iv x2, iv x3, iv x4, iv x5]) (.agg #[iv x0, iv x1, iv x2, iv x3, iv x4, iv x5])) = some () from by kernel_rfl, Option.bind_some]
    show prun Try.prog (do pure (Value.bool (!(← Op.equalIn (9997 + 3) 52 (.agg #[iv x0, iv x1, iv x2, iv x3, iv x4, iv x5]) (.agg #[iv x0, iv x1, iv x2, iv x3, iv x4, iv x5]))))) = _
    rw [prun_bind, same_visit]; rfl
  unfold pureOp
  simp only [ev_frS, hx, hy]
  rw [show (flat (.agg #[iv x0, iv x1, iv x2, iv x3, iv x4, iv x5]) && flat (.agg #[iv x0, iv x1, iv x2, iv x3, iv x4, iv x5])) = true from rfl, cond_true, key]
  rfl
theorem eql_load {n : Nat} {S : Rg} {d : Option Tmp} {x y : Operand} {p : String} {ty : TypeId} {x0 x1 x2 x3 x4 x5 : Int} (hx : evS S x = some (.agg #[iv x0, iv x1, iv x2, iv x3, iv x4, iv x5])) (hy : evS S y = some (.agg #[iv x0, iv x1, iv x2, iv x3, iv x4, iv x5])) : pureOp Try.prog (frS n S) ⟨d, .binOp .eql 38 x y 38, ty, p, #[], none⟩ = some (.bool true) := by
  have key : prun Try.prog (do eqGuard .eql 38 x y (.agg #[iv x0, iv x1, iv x2, iv x3, iv x4, iv x5]) (.agg #[iv x0, iv x1, iv x2, iv x3, iv x4, iv x5]); binOp .eql 38 (.agg #[iv x0, iv x1, iv x2, iv x3, iv x4, iv x5]) (.agg #[iv x0, iv x1, iv x2, iv x3, iv x4, iv x5])) = some (.bool true) := by
    rw [prun_bind, show prun Try.prog (eqGuard .eql 38 x y (.agg #[iv x0, iv x1, iv x2, iv x3, iv x4, iv x5]) (.agg #[iv x0, iv x1, iv x2, iv x3, iv x4, iv x5])) = some () from by kernel_rfl, Option.bind_some]
    show prun Try.prog (do pure (Value.bool ((← Op.equalIn (9998 + 2) 38 (.agg #[iv x0, iv x1, iv x2, iv x3, iv x4, iv x5]) (.agg #[iv x0, iv x1, iv x2, iv x3, iv x4, iv x5]))))) = _
    rw [prun_bind, same_load]; rfl
  unfold pureOp
  simp only [ev_frS, hx, hy]
  rw [show (flat (.agg #[iv x0, iv x1, iv x2, iv x3, iv x4, iv x5]) && flat (.agg #[iv x0, iv x1, iv x2, iv x3, iv x4, iv x5])) = true from rfl, cond_true, key]
  rfl
section
variable {kn : FuncId → Option Bool} {lo : Nat} {H : Hp}
end
end Go.Ax

/-
  Station: loads: sums over samples (written by program).
-/
namespace Go.Ax
open Go Go.RowKit

def sm (p : Sm → Int) (l : List Sm) : Int := l.foldl (fun a s => a + p s) 0
theorem sm_from (p : Sm → Int) (l : List Sm) (b : Int) : l.foldl (fun a s => a + p s) b = b + sm p l := by
  induction l generalizing b with
  | nil => simp [sm]
  | cons x l ih => unfold sm; rw [List.foldl_cons, List.foldl_cons, ih, ih]; omega
theorem sm_cons (p : Sm → Int) (x : Sm) (l : List Sm) : sm p (x :: l) = p x + sm p l := by
  show (x :: l).foldl _ 0 = _
  rw [List.foldl_cons, sm_from]; omega
theorem sm_nil (p : Sm → Int) : sm p [] = 0 := rfl
theorem sm_app (p : Sm → Int) (l m : List Sm) : sm p (l ++ m) = sm p l + sm p m := by
  induction l with
  | nil => rw [List.nil_append, sm_nil]; omega
  | cons x l ih => rw [List.cons_append, sm_cons, sm_cons, ih]; omega
theorem sm_step {p : Sm → Int} {l : List Sm} {i : Nat} {x : Sm} (h : l[i]? = some x) : sm p (l.take (i + 1)) = sm p (l.take i) + p x := by
  rw [List.take_add_one, h, sm_app]; simp [sm_cons, sm_nil]
theorem sm_in {p : Sm → Int} {B : Int} : ∀ {l : List Sm}, (∀ x ∈ l, 0 ≤ p x ∧ p x ≤ B) → 0 ≤ sm p l ∧ sm p l ≤ l.length * B
  | [], _ => by simp [sm_nil]
  | x :: l, h => by
    have ih := sm_in (p := p) (B := B) (l := l) (fun y hy => h y (List.mem_cons_of_mem _ hy))
    have := h x (by simp)
    rw [sm_cons, List.length_cons]
    have e : ((l.length + 1 : Nat) : Int) * B = l.length * B + B := by rw [Int.natCast_add, Int.add_mul]; simp
    omega
theorem sm_le {p q : Sm → Int} : ∀ {l : List Sm}, (∀ x ∈ l, p x ≤ q x) → sm p l ≤ sm q l
  | [], _ => by simp [sm_nil]
  | x :: l, h => by
    have ih := sm_le (p := p) (q := q) (l := l) (fun y hy => h y (List.mem_cons_of_mem _ hy))
    have := h x (by simp)
    rw [sm_cons, sm_cons]; omega
theorem sm_add (p q : Sm → Int) (l : List Sm) : sm (fun x => p x + q x) l = sm p l + sm q l := by
  induction l with
  | nil => rfl
  | cons x l ih => rw [sm_cons, sm_cons, sm_cons, ih]; omega
theorem sm_mul (c : Int) (p : Sm → Int) (l : List Sm) : sm (fun x => p x * c) l = sm p l * c := by
  induction l with
  | nil => simp [sm_nil]
  | cons x l ih => rw [sm_cons, sm_cons, ih, Int.add_mul]
theorem sm_take_in {p : Sm → Int} {B : Int} {l : List Sm} (h : ∀ x ∈ l, 0 ≤ p x ∧ p x ≤ B) (hB : 0 ≤ B) (i : Nat) : 0 ≤ sm p (l.take i) ∧ sm p (l.take i) ≤ l.length * B := by
  have := sm_in (p := p) (B := B) (l := l.take i) (fun x hx => h x (List.mem_of_mem_take hx))
  refine ⟨this.1, Int.le_trans this.2 (Int.mul_le_mul_of_nonneg_right ?_ hB)⟩
  rw [List.length_take]; omega
theorem mul_rng {a b p q : Int} (ha : 0 ≤ a ∧ a ≤ p) (hb : 0 ≤ b ∧ b ≤ q) : 0 ≤ a * b ∧ a * b ≤ p * q :=
  ⟨Int.mul_nonneg ha.1 hb.1, Int.le_trans (Int.mul_le_mul_of_nonneg_right ha.2 hb.1) (Int.mul_le_mul_of_nonneg_left hb.2 (by omega))⟩
def fW (x : Sm) : Int := x.w
def fT (x : Sm) : Int := x.t
def fR (x : Sm) : Int := x.r
def fC (x : Sm) : Int := x.w * x.c
def fF (x : Sm) : Int := x.w * x.m
theorem fC_in {x : Sm} (h : x.ok = true) : 0 ≤ fC x ∧ fC x ≤ 267386880 := by
  have := Sm.ok_t h
  have := mul_rng (a := x.w) (b := x.c) (p := 1048576) (q := 255) (by omega) (by omega)
  unfold fC; omega
theorem fF_in {x : Sm} (h : x.ok = true) : 0 ≤ fF x ∧ fF x ≤ 1048576000 := by
  have := Sm.ok_t h
  have := mul_rng (a := x.w) (b := x.m) (p := 1048576) (q := 1000) (by omega) (by omega)
  unfold fF; omega
theorem fW_in {x : Sm} (h : x.ok = true) : 0 ≤ fW x ∧ fW x ≤ 1048576 := by have := Sm.ok_t h; unfold fW; omega
theorem fT_in {x : Sm} (h : x.ok = true) : 0 ≤ fT x ∧ fT x ≤ 1048576 := by have := Sm.ok_t h; unfold fT; omega
theorem fR_in {x : Sm} (h : x.ok = true) : 0 ≤ fR x ∧ fR x ≤ 1048576 := by have := Sm.ok_t h; unfold fR; omega
namespace Sp
def W (s : Sp) : Int := sm fW s.ss
def T (s : Sp) : Int := sm fT s.ss
def R (s : Sp) : Int := sm fR s.ss
def C (s : Sp) : Int := sm fC s.ss
def F (s : Sp) : Int := sm fF s.ss
def net (s : Sp) : Int := s.gross - s.tare
def good (s : Sp) : Int := s.net * (s.W - s.T - s.R) / s.W
def trash (s : Sp) : Int := s.net * s.T / s.W
def rot (s : Sp) : Int := s.net - s.good - s.trash
def col (s : Sp) : Int := s.good * s.C / s.W
def firm (s : Sp) : Int := s.good * s.F / s.W
end Sp
/-- A load. -/
structure Ld where
  n : Int
  g : Int
  t : Int
  r : Int
  c : Int
  f : Int
abbrev Ld.v (l : Ld) : List Value := [iv l.n, iv l.g, iv l.t, iv l.r, iv l.c, iv l.f]
def Ld.z : Ld := ⟨0, 0, 0, 0, 0, 0⟩
def Sp.load (s : Sp) : Ld := if s.ok then ⟨s.net, s.good, s.trash, s.rot, s.col, s.firm⟩ else Ld.z
def Sp.we (s : Sp) : Int := if s.ok then 0 else 1
/-- what is known of the numbers of a valid slip -/
structure Sp.Nb (s : Sp) : Prop where
  ok : ∀ x ∈ s.ss, x.ok = true
  n : 1 ≤ s.ss.length ∧ s.ss.length ≤ 32
  w : 1 ≤ s.W ∧ s.W ≤ 33554432
  t : 0 ≤ s.T ∧ s.T ≤ 33554432
  r : 0 ≤ s.R ∧ s.R ≤ 33554432
  tr : s.T + s.R ≤ s.W
  c : 0 ≤ s.C ∧ s.C ≤ 8556380160
  f : 0 ≤ s.F ∧ s.F ≤ 33554432000
  gr : 0 ≤ s.gross ∧ s.gross ≤ 134217728
  ta : 0 ≤ s.tare ∧ s.tare ≤ s.gross
  net : 0 ≤ s.net ∧ s.net ≤ 134217728
  p1 : 0 ≤ s.net * (s.W - s.T - s.R) ∧ s.net * (s.W - s.T - s.R) ≤ 4503599627370496
  p2 : 0 ≤ s.net * s.T ∧ s.net * s.T ≤ 4503599627370496
  good : 0 ≤ s.good ∧ s.good ≤ 134217728
  trash : 0 ≤ s.trash ∧ s.trash ≤ 134217728
  gt : s.good + s.trash ≤ s.net
  p3 : 0 ≤ s.good * s.C ∧ s.good * s.C ≤ 1148417904979476480
  p4 : 0 ≤ s.good * s.F ∧ s.good * s.F ≤ 4503599627370496000
theorem div_le_self_mul {a b c : Int} (hc : 0 < c) (ha : 0 ≤ a) (h : b ≤ c) : a * b / c ≤ a := by
  have h1 : a * b ≤ a * c := Int.mul_le_mul_of_nonneg_left h ha
  have h2 : a * b / c ≤ a * c / c := Int.ediv_le_ediv hc h1
  rw [Int.mul_ediv_cancel _ (by omega)] at h2
  exact h2
theorem div_add_le {a b c : Int} (hc : 0 < c) : a / c + b / c ≤ (a + b) / c := by
  refine (Int.le_ediv_iff_mul_le hc).2 ?_
  have h1 := Int.ediv_mul_le a (show c ≠ 0 by omega)
  have h2 := Int.ediv_mul_le b (show c ≠ 0 by omega)
  rw [Int.add_mul]; omega
theorem Sp.nb_of {s : Sp} (h1 : ∀ x ∈ s.ss, x.ok = true) (h2 : 1 ≤ s.ss.length ∧ s.ss.length ≤ 32) (h3 : 0 ≤ s.gross ∧ s.gross ≤ 134217728) (h4 : 0 ≤ s.tare ∧ s.tare ≤ s.gross) : s.Nb := by
  have bW : 0 ≤ s.W ∧ s.W ≤ s.ss.length * 1048576 := sm_in fun x hx => fW_in (h1 x hx)
  have bT : 0 ≤ s.T ∧ s.T ≤ s.ss.length * 1048576 := sm_in fun x hx => fT_in (h1 x hx)
  have bR : 0 ≤ s.R ∧ s.R ≤ s.ss.length * 1048576 := sm_in fun x hx => fR_in (h1 x hx)
  have bC : 0 ≤ s.C ∧ s.C ≤ s.ss.length * 267386880 := sm_in fun x hx => fC_in (h1 x hx)
  have bF : 0 ≤ s.F ∧ s.F ≤ s.ss.length * 1048576000 := sm_in fun x hx => fF_in (h1 x hx)
  have tr : s.T + s.R ≤ s.W := by
    unfold Sp.T Sp.R Sp.W
    rw [← sm_add]
    exact sm_le fun x hx => by have := Sm.ok_t (h1 x hx); unfold fT fR fW; omega
  have w1 : 1 ≤ s.W := by
    obtain ⟨_, _, _, _, _, _, _, _, ss⟩ := s
    cases ss with
    | nil => simp at h2
    | cons x l =>
      have q1 := Sm.ok_t (h1 x (by simp))
      have q2 : 0 ≤ sm fW l ∧ sm fW l ≤ l.length * 1048576 := sm_in fun y hy => fW_in (h1 y (List.mem_cons_of_mem _ hy))
      show 1 ≤ sm fW (x :: l)
      rw [sm_cons]; unfold fW at *; omega
  have net : 0 ≤ s.net ∧ s.net ≤ 134217728 := by unfold Sp.net; omega
  have p1 := mul_rng (a := s.net) (b := s.W - s.T - s.R) (p := 134217728) (q := 33554432) net (by omega)
  have p2 := mul_rng (a := s.net) (b := s.T) (p := 134217728) (q := 33554432) net (by omega)
  have g0 : 0 ≤ s.good := Int.ediv_nonneg p1.1 (by omega)
  have g1 : s.good ≤ s.net := div_le_self_mul (by omega) net.1 (by omega)
  have t0 : 0 ≤ s.trash := Int.ediv_nonneg p2.1 (by omega)
  have t1 : s.trash ≤ s.net := div_le_self_mul (by omega) net.1 (by omega)
  have gt : s.good + s.trash ≤ s.net := by
    have q := div_add_le (a := s.net * (s.W - s.T - s.R)) (b := s.net * s.T) (c := s.W) (by omega)
    have e : s.net * (s.W - s.T - s.R) + s.net * s.T = s.net * (s.W - s.R) := by rw [← Int.mul_add]; congr 1; omega
    rw [e] at q
    have q2 := div_le_self_mul (a := s.net) (b := s.W - s.R) (c := s.W) (by omega) net.1 (by omega)
    unfold Sp.good Sp.trash; omega
  have p3 := mul_rng (a := s.good) (b := s.C) (p := 134217728) (q := 8556380160) (by omega) (by omega)
  have p4 := mul_rng (a := s.good) (b := s.F) (p := 134217728) (q := 33554432000) (by omega) (by omega)
  exact ⟨h1, h2, by omega, by omega, by omega, tr, by omega, by omega, h3, h4, net, by omega, by omega, by omega, by omega, gt, by omega, by omega⟩
theorem Sp.nb {s : Sp} (hl : s.ss.length = s.sn) (h : s.ok = true) : s.Nb := by
  simp only [Sp.ok, Bool.and_eq_true, List.all_eq_true] at h
  obtain ⟨⟨⟨⟨⟨⟨h1, h2⟩, h3⟩, h4⟩, h5⟩, h6⟩, h7⟩ := h
  have h4 := isw_t h4; have h5 := isw_t h5; have h6 := inB_t h6
  exact Sp.nb_of h7 (by omega) h4 h5
end Go.Ax


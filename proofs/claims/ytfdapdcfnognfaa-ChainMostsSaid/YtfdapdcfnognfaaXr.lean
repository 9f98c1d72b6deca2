import Derived.Test.YtfdapdcfnognfaaAxW4
import Derived.Test.YtfdapdcfnognfaaChecked
import Derived.Test.YtfdapdcfnognfaaXq
set_option linter.all false
namespace Go.Ax
open Go Go.RowKit Go.Proofs
theorem N49 : Try.f49.ntmps = 99 := by kernel_rfl
theorem Z49 : Try.f49.results.toList = ((List.toArray [(.tmp 4)]) : Array ResultVar).toList := by kernel_rfl
theorem B49 : Try.f49.body = some (at_ Try.f49 []) := by kernel_rfl
noncomputable def R49 : RC := (.seq (.reg [⟨(some 2), none, (.box 25 (.tmp 0))⟩, ⟨(some 3), none, (.box 30 (.tmp 1))⟩, ⟨(some 4), none, (.mov (.const (.bool false)))⟩])
  (.seq (.seq (.reg [⟨(some 8), none, (.addo (.tmp 3) 0)⟩, ⟨(some 9), none, (.ld (.tmp 8) 1)⟩, ⟨(some 10), none, (.len (.tmp 9))⟩, ⟨(some 11), none, (.cmpb .gtr (.tmp 10) (.const (.int .i64 32)))⟩, ⟨(some 12), none, (.mov (.tmp 11))⟩, ⟨(some 13), (some (12, false)), (.addo (.tmp 3) 1)⟩, ⟨(some 14), (some (12, false)), (.ld (.tmp 13) 1)⟩, ⟨(some 15), (some (12, false)), (.len (.tmp 14))⟩, ⟨(some 16), (some (12, false)), (.addo (.tmp 2) 0)⟩, ⟨(some 17), (some (12, false)), (.ld (.tmp 16) 1)⟩, ⟨(some 18), (some (12, false)), (.len (.tmp 17))⟩, ⟨(some 19), (some (12, false)), (.cmpb .neq (.tmp 15) (.tmp 18))⟩, ⟨(some 20), none, (.pur ⟨(some 20), (.pick (.tmp 12) (.const (.bool true)) (.tmp 19)), 4, "", (List.toArray []), none⟩)⟩, ⟨(some 21), none, (.mov (.tmp 20))⟩, ⟨(some 22), (some (21, false)), (.addo (.tmp 3) 2)⟩, ⟨(some 23), (some (21, false)), (.ld (.tmp 22) 1)⟩, ⟨(some 24), (some (21, false)), (.len (.tmp 23))⟩, ⟨(some 25), (some (21, false)), (.cmpb .gtr (.tmp 24) (.const (.int .i64 32)))⟩, ⟨(some 26), none, (.pur ⟨(some 26), (.pick (.tmp 21) (.const (.bool true)) (.tmp 25)), 4, "", (List.toArray []), none⟩)⟩])
  (.cond (.tmp 26) (.seq (.reg [⟨(some 4), none, (.mov (.const (.bool false)))⟩])
  .ret)
  .skip))
  (.seq (.seq (.reg [⟨(some 5), none, (.mov (.const (.int .i64 0)))⟩])
  (.block 0 (.other (at_ Try.f49 [1, 1, 0, 1, 0]))))
  (.seq (.seq (.reg [⟨(some 6), none, (.mov (.const (.int .i64 0)))⟩])
  (.block 2 (.other (at_ Try.f49 [1, 1, 1, 0, 1, 0]))))
  (.seq (.seq (.reg [⟨(some 7), none, (.mov (.const (.int .i64 0)))⟩])
  (.block 4 (.other (at_ Try.f49 [1, 1, 1, 1, 0, 1, 0]))))
  (.seq (.reg [⟨(some 4), none, (.mov (.const (.bool true)))⟩])
  .ret))))))
theorem L49 : low Try.prog Try.f49.ntmps (at_ Try.f49 []) = some R49 := by kernel_rfl
theorem E49_1 : at_ Try.f49 [1, 1, 0, 1, 0] = .loop (at_ Try.f49 [1, 1, 0, 1, 0, 0]) := by kernel_rfl
theorem E49_2 : at_ Try.f49 [1, 1, 1, 0, 1, 0] = .loop (at_ Try.f49 [1, 1, 1, 0, 1, 0, 0]) := by kernel_rfl
noncomputable def R49x2 : RC := (.seq (.seq (.reg [⟨(some 56), none, (.mov (.tmp 6))⟩, ⟨(some 57), none, (.addo (.tmp 3) 1)⟩, ⟨(some 58), none, (.ld (.tmp 57) 1)⟩, ⟨(some 59), none, (.len (.tmp 58))⟩, ⟨(some 60), none, (.cmp .lss (.tmp 56) (.tmp 59))⟩])
  (.cond (.tmp 60) .skip
  (.exit 2)))
  (.seq (.block 3 (.seq (.reg [⟨(some 63), none, (.addo (.tmp 3) 1)⟩, ⟨(some 64), none, (.ld (.tmp 63) 1)⟩, ⟨(some 65), none, (.mov (.tmp 6))⟩, ⟨(some 66), none, (.idx (.tmp 64) (.tmp 65) 2)⟩, ⟨(some 67), none, (.lda (.tmp 66) 2)⟩, ⟨(some 68), none, (.call ⟨(.value (.func 68)), (List.toArray [(.tmp 67), (.const (.int .i64 0)), (.const (.int .i64 68719476736))]), (List.toArray [35, 3, 3])⟩ true)⟩, ⟨(some 69), none, (.pur ⟨(some 69), (.unOp .not 4 (.tmp 68)), 4, "", (List.toArray []), none⟩)⟩])
  (.cond (.tmp 69) (.seq (.reg [⟨(some 4), none, (.mov (.const (.bool false)))⟩])
  .ret)
  .skip)))
  (.reg [⟨(some 61), none, (.mov (.tmp 6))⟩, ⟨(some 62), none, (.ari .add (.tmp 61) (.const (.int .i64 1)))⟩, ⟨(some 6), none, (.mov (.tmp 62))⟩])))
theorem L49x2 : low Try.prog Try.f49.ntmps (at_ Try.f49 [1, 1, 1, 0, 1, 0, 0]) = some R49x2 := by kernel_rfl
theorem E49_3 : at_ Try.f49 [1, 1, 1, 1, 0, 1, 0] = .loop (at_ Try.f49 [1, 1, 1, 1, 0, 1, 0, 0]) := by kernel_rfl
theorem N50 : Try.f50.ntmps = 75 := by kernel_rfl
theorem Z50 : Try.f50.results.toList = ((List.toArray [(.cell 6 25), (.tmp 7), (.cell 8 37), (.tmp 9)]) : Array ResultVar).toList := by kernel_rfl
theorem B50 : Try.f50.body = some (at_ Try.f50 []) := by kernel_rfl
noncomputable def R50 : RC := (.seq (.reg [⟨(some 3), none, (.box 25 (.tmp 0))⟩, ⟨(some 5), none, (.box 30 (.tmp 2))⟩, ⟨(some 6), none, (.alc 25 [(.slice none 0 0), (.slice none 0 0)])⟩, ⟨(some 7), none, (.mov (.const (.slice none 0 0)))⟩, ⟨(some 8), none, (.alc 37 [(.int .i64 0), (.int .i64 0), (.int .i64 0), (.int .i64 0), (.int .i64 0), (.int .i64 0), (.int .i64 0), (.int .i64 0)])⟩, ⟨(some 9), none, (.mov (.const (.bool false)))⟩])
  (.seq (.reg [⟨(some 16), none, (.lda (.tmp 3) 2)⟩, ⟨(some 17), none, (.lda (.tmp 5) 3)⟩, ⟨(some 18), none, (.call ⟨(.value (.func 72)), (List.toArray [(.tmp 16), (.tmp 17)]), (List.toArray [25, 30])⟩ true)⟩, ⟨(some 10), none, (.alc 25 [(.slice none 0 0), (.slice none 0 0)])⟩, ⟨none, none, (.sta (.tmp 10) (.tmp 18) 2)⟩])
  (.seq (.dreg [⟨(some 19), none, (.lda (.tmp 10) 2)⟩, ⟨(some 20), none, (.mov (.tmp 1))⟩, ⟨(some 21), none, (.call ⟨(.value (.func 74)), (List.toArray [(.tmp 20), (.const (.bool false))]), (List.toArray [26, 4])⟩ false)⟩, ⟨(some 22), none, (.lda (.tmp 5) 3)⟩, ⟨(some 23), none, (.call ⟨(.value (.func 73)), (List.toArray [(.tmp 19), (.tmp 21), (.tmp 22), (.const (.bool false))]), (List.toArray [25, 33, 30, 4])⟩ false)⟩, ⟨(some 24), none, (.lda (.tmp 10) 2)⟩, ⟨(some 25), none, (.mov (.tmp 1))⟩, ⟨(some 26), none, (.call ⟨(.value (.func 74)), (List.toArray [(.tmp 25), (.const (.bool true))]), (List.toArray [26, 4])⟩ false)⟩, ⟨(some 27), none, (.lda (.tmp 5) 3)⟩, ⟨(some 28), none, (.call ⟨(.value (.func 73)), (List.toArray [(.tmp 24), (.tmp 26), (.tmp 27), (.const (.bool true))]), (List.toArray [25, 33, 30, 4])⟩ false)⟩, ⟨(some 11), none, (.alc 126 [(.slice none 0 0), (.int .i64 0), (.int .i64 0), (.int .i64 0), (.int .i64 0), (.bool false)])⟩, ⟨(some 12), none, (.alc 126 [(.slice none 0 0), (.int .i64 0), (.int .i64 0), (.int .i64 0), (.int .i64 0), (.bool false)])⟩, ⟨none, none, (.sta (.tmp 11) (.tmp 23) 6)⟩, ⟨none, none, (.sta (.tmp 12) (.tmp 28) 6)⟩] [8191, 4095, 0, 0, 511, 0, 95, 0, 0, 15, 0, 2, 0, 0])
  (.seq (.reg [⟨(some 13), none, (.mov (.const (.slice none 0 0)))⟩])
  (.seq (.seq (.reg [⟨(some 14), none, (.mov (.const (.int .i64 0)))⟩])
  (.block 0 (.other (at_ Try.f50 [1, 1, 1, 1, 0, 1, 0]))))
  (.seq (.reg [⟨(some 49), none, (.addo (.tmp 11) 1)⟩, ⟨(some 50), none, (.ld (.tmp 49) 1)⟩, ⟨(some 51), none, (.addo (.tmp 12) 1)⟩, ⟨(some 52), none, (.ld (.tmp 51) 1)⟩, ⟨(some 53), none, (.pur ⟨(some 53), (.build 35 (List.toArray [(0, (.tmp 50)), (1, (.tmp 52))])), 35, "", (List.toArray []), none⟩)⟩, ⟨(some 54), none, (.addo (.tmp 11) 2)⟩, ⟨(some 55), none, (.ld (.tmp 54) 1)⟩, ⟨(some 56), none, (.addo (.tmp 12) 2)⟩, ⟨(some 57), none, (.ld (.tmp 56) 1)⟩, ⟨(some 58), none, (.pur ⟨(some 58), (.build 35 (List.toArray [(0, (.tmp 55)), (1, (.tmp 57))])), 35, "", (List.toArray []), none⟩)⟩, ⟨(some 59), none, (.addo (.tmp 11) 3)⟩, ⟨(some 60), none, (.ld (.tmp 59) 1)⟩, ⟨(some 61), none, (.addo (.tmp 12) 3)⟩, ⟨(some 62), none, (.ld (.tmp 61) 1)⟩, ⟨(some 63), none, (.pur ⟨(some 63), (.build 35 (List.toArray [(0, (.tmp 60)), (1, (.tmp 62))])), 35, "", (List.toArray []), none⟩)⟩, ⟨(some 64), none, (.addo (.tmp 11) 4)⟩, ⟨(some 65), none, (.ld (.tmp 64) 1)⟩, ⟨(some 66), none, (.addo (.tmp 12) 4)⟩, ⟨(some 67), none, (.ld (.tmp 66) 1)⟩, ⟨(some 68), none, (.pur ⟨(some 68), (.build 35 (List.toArray [(0, (.tmp 65)), (1, (.tmp 67))])), 35, "", (List.toArray []), none⟩)⟩, ⟨(some 69), none, (.pur ⟨(some 69), (.build 37 (List.toArray [(0, (.tmp 53)), (1, (.tmp 58)), (2, (.tmp 63)), (3, (.tmp 68))])), 37, "", (List.toArray []), none⟩)⟩, ⟨(some 15), none, (.alc 37 [(.int .i64 0), (.int .i64 0), (.int .i64 0), (.int .i64 0), (.int .i64 0), (.int .i64 0), (.int .i64 0), (.int .i64 0)])⟩, ⟨none, none, (.sta (.tmp 15) (.tmp 69) 8)⟩])
  (.seq (.dreg [⟨(some 70), none, (.lda (.tmp 10) 2)⟩, ⟨(some 71), none, (.mov (.tmp 13))⟩, ⟨(some 72), none, (.lda (.tmp 15) 8)⟩, ⟨(some 73), none, (.addo (.tmp 11) 5)⟩, ⟨(some 74), none, (.ld (.tmp 73) 1)⟩, ⟨none, none, (.sta (.tmp 6) (.tmp 70) 2)⟩, ⟨(some 7), none, (.mov (.tmp 71))⟩, ⟨none, none, (.sta (.tmp 8) (.tmp 72) 8)⟩, ⟨(some 9), none, (.mov (.tmp 74))⟩] [255, 103, 35, 1, 8, 0, 0, 0, 0])
  .ret)))))))
theorem L50 : low Try.prog Try.f50.ntmps (at_ Try.f50 []) = some R50 := by kernel_rfl
theorem E50_1 : at_ Try.f50 [1, 1, 1, 1, 0, 1, 0] = .loop (at_ Try.f50 [1, 1, 1, 1, 0, 1, 0, 0]) := by kernel_rfl
theorem N56 : Try.f56.ntmps = 33 := by kernel_rfl
theorem Z56 : Try.f56.results.toList = ((List.toArray [(.tmp 6)]) : Array ResultVar).toList := by kernel_rfl
theorem B56 : Try.f56.body = some (at_ Try.f56 []) := by kernel_rfl
noncomputable def R56 : RC := (.seq (.reg [⟨(some 3), none, (.box 25 (.tmp 0))⟩, ⟨(some 6), none, (.mov (.const (.int .i64 0)))⟩])
  (.seq (.seq (.reg [⟨(some 8), none, (.mov (.tmp 2))⟩, ⟨(some 9), none, (.len (.tmp 8))⟩, ⟨(some 10), none, (.cmp .gtr (.tmp 9) (.const (.int .i64 200)))⟩])
  (.cond (.tmp 10) (.seq (.reg [⟨(some 6), none, (.mov (.const (.int .i64 3)))⟩])
  .ret)
  .skip))
  (.seq (.seq (.reg [⟨(some 11), none, (.lda (.tmp 3) 2)⟩, ⟨(some 12), none, (.call ⟨(.value (.func 32)), (List.toArray [(.tmp 11)]), (List.toArray [25])⟩ true)⟩, ⟨(some 13), none, (.pur ⟨(some 13), (.unOp .not 4 (.tmp 12)), 4, "", (List.toArray []), none⟩)⟩, ⟨(some 14), none, (.mov (.tmp 13))⟩, ⟨(some 15), (some (14, false)), (.lda (.tmp 3) 2)⟩, ⟨(some 16), (some (14, false)), (.mov (.tmp 1))⟩, ⟨(some 17), (some (14, false)), (.call ⟨(.value (.func 33)), (List.toArray [(.tmp 15), (.tmp 16)]), (List.toArray [25, 26])⟩ true)⟩, ⟨(some 18), (some (14, false)), (.pur ⟨(some 18), (.unOp .not 4 (.tmp 17)), 4, "", (List.toArray []), none⟩)⟩, ⟨(some 19), none, (.pur ⟨(some 19), (.pick (.tmp 14) (.const (.bool true)) (.tmp 18)), 4, "", (List.toArray []), none⟩)⟩])
  (.cond (.tmp 19) (.seq (.reg [⟨(some 6), none, (.mov (.const (.int .i64 1)))⟩])
  .ret)
  .skip))
  (.seq (.seq (.reg [⟨(some 7), none, (.mov (.const (.int .i64 0)))⟩])
  (.block 0 (.other (at_ Try.f56 [1, 1, 1, 0, 1, 0]))))
  (.seq (.reg [⟨(some 6), none, (.mov (.const (.int .i64 0)))⟩])
  .ret)))))
theorem L56 : low Try.prog Try.f56.ntmps (at_ Try.f56 []) = some R56 := by kernel_rfl
theorem E56_1 : at_ Try.f56 [1, 1, 1, 0, 1, 0] = .loop (at_ Try.f56 [1, 1, 1, 0, 1, 0, 0]) := by kernel_rfl
noncomputable def R56x1 : RC := (.seq (.seq (.reg [⟨(some 20), none, (.mov (.tmp 7))⟩, ⟨(some 21), none, (.mov (.tmp 2))⟩, ⟨(some 22), none, (.len (.tmp 21))⟩, ⟨(some 23), none, (.cmp .lss (.tmp 20) (.tmp 22))⟩])
  (.cond (.tmp 23) .skip
  (.exit 0)))
  (.seq (.block 1 (.seq (.dreg [⟨(some 26), none, (.lda (.tmp 3) 2)⟩, ⟨(some 27), none, (.mov (.tmp 2))⟩, ⟨(some 28), none, (.mov (.tmp 7))⟩, ⟨(some 29), none, (.idx (.tmp 27) (.tmp 28) 3)⟩, ⟨(some 30), none, (.lda (.tmp 29) 3)⟩, ⟨(some 31), none, (.call ⟨(.value (.func 49)), (List.toArray [(.tmp 26), (.tmp 30)]), (List.toArray [25, 30])⟩ true)⟩, ⟨(some 32), none, (.pur ⟨(some 32), (.unOp .not 4 (.tmp 31)), 4, "", (List.toArray []), none⟩)⟩] [63, 31, 14, 6, 0, 0, 0])
  (.cond (.tmp 32) (.seq (.reg [⟨(some 6), none, (.mov (.const (.int .i64 1)))⟩])
  .ret)
  .skip)))
  (.reg [⟨(some 24), none, (.mov (.tmp 7))⟩, ⟨(some 25), none, (.ari .add (.tmp 24) (.const (.int .i64 1)))⟩, ⟨(some 7), none, (.mov (.tmp 25))⟩])))
theorem L56x1 : low Try.prog Try.f56.ntmps (at_ Try.f56 [1, 1, 1, 0, 1, 0, 0]) = some R56x1 := by kernel_rfl
theorem N72 : Try.f72.ntmps = 38 := by kernel_rfl
theorem Z72 : Try.f72.results.toList = ((List.toArray [(.cell 4 25)]) : Array ResultVar).toList := by kernel_rfl
theorem B72 : Try.f72.body = some (at_ Try.f72 []) := by kernel_rfl
noncomputable def R72 : RC := (.seq (.reg [⟨(some 2), none, (.box 25 (.tmp 0))⟩, ⟨(some 3), none, (.box 30 (.tmp 1))⟩, ⟨(some 4), none, (.alc 25 [(.slice none 0 0), (.slice none 0 0)])⟩])
  (.seq (.dreg [⟨(some 7), none, (.addo (.tmp 2) 0)⟩, ⟨(some 8), none, (.ld (.tmp 7) 1)⟩, ⟨(some 9), none, (.mem ⟨(some 9), (.buildSlice 23 0 (List.toArray [])), 23, "", (List.toArray []), none⟩)⟩, ⟨(some 10), none, (.addo (.tmp 2) 1)⟩, ⟨(some 11), none, (.ld (.tmp 10) 1)⟩, ⟨(some 12), none, (.mem ⟨(some 12), (.call ⟨(.builtin .append), (List.toArray [(.tmp 9), (.tmp 11)]), (List.toArray [23, 23])⟩), 23, "", (List.toArray []), none⟩)⟩, ⟨(some 13), none, (.pur ⟨(some 13), (.build 25 (List.toArray [(0, (.tmp 8)), (1, (.tmp 12))])), 25, "", (List.toArray []), none⟩)⟩, ⟨(some 5), none, (.alc 25 [(.slice none 0 0), (.slice none 0 0)])⟩, ⟨none, none, (.sta (.tmp 5) (.tmp 13) 2)⟩] [255, 0, 63, 28, 8, 0, 0, 1, 0])
  (.seq (.seq (.reg [⟨(some 6), none, (.mov (.const (.int .i64 0)))⟩])
  (.block 0 (.other (at_ Try.f72 [1, 1, 0, 1, 0]))))
  (.seq (.reg [⟨(some 37), none, (.lda (.tmp 5) 2)⟩, ⟨none, none, (.sta (.tmp 4) (.tmp 37) 2)⟩])
  .ret))))
theorem L72 : low Try.prog Try.f72.ntmps (at_ Try.f72 []) = some R72 := by kernel_rfl
theorem E72_1 : at_ Try.f72 [1, 1, 0, 1, 0] = .loop (at_ Try.f72 [1, 1, 0, 1, 0, 0]) := by kernel_rfl
theorem N73 : Try.f73.ntmps = 309 := by kernel_rfl
theorem Z73 : Try.f73.results.toList = ((List.toArray [(.cell 8 126)]) : Array ResultVar).toList := by kernel_rfl
theorem B73 : Try.f73.body = some (at_ Try.f73 []) := by kernel_rfl
noncomputable def R73 : RC := (.seq (.reg [⟨(some 4), none, (.box 25 (.tmp 0))⟩, ⟨(some 6), none, (.box 30 (.tmp 2))⟩, ⟨(some 8), none, (.alc 126 [(.slice none 0 0), (.int .i64 0), (.int .i64 0), (.int .i64 0), (.int .i64 0), (.bool false)])⟩])
  (.seq (.reg [⟨(some 23), none, (.mem ⟨(some 23), (.buildSlice 33 0 (List.toArray [])), 33, "", (List.toArray []), none⟩)⟩, ⟨(some 24), none, (.mov (.tmp 1))⟩, ⟨(some 25), none, (.mem ⟨(some 25), (.call ⟨(.builtin .append), (List.toArray [(.tmp 23), (.tmp 24)]), (List.toArray [33, 33])⟩), 33, "", (List.toArray []), none⟩)⟩, ⟨(some 26), none, (.pur ⟨(some 26), (.build 126 (List.toArray [(0, (.tmp 25)), (5, (.const (.bool true)))])), 126, "", (List.toArray []), none⟩)⟩, ⟨(some 9), none, (.alc 126 [(.slice none 0 0), (.int .i64 0), (.int .i64 0), (.int .i64 0), (.int .i64 0), (.bool false)])⟩, ⟨none, none, (.sta (.tmp 9) (.tmp 26) 6)⟩])
  (.seq (.seq (.reg [⟨(some 10), none, (.mov (.const (.int .i64 0)))⟩])
  (.block 0 (.other (at_ Try.f73 [1, 1, 0, 1, 0]))))
  (.seq (.seq (.reg [⟨(some 12), none, (.mov (.const (.int .i64 0)))⟩])
  (.block 2 (.other (at_ Try.f73 [1, 1, 1, 0, 1, 0]))))
  (.seq (.seq (.reg [⟨(some 15), none, (.mov (.const (.int .i64 0)))⟩])
  (.block 4 (.other (at_ Try.f73 [1, 1, 1, 1, 0, 1, 0]))))
  (.seq (.seq (.reg [⟨(some 18), none, (.mov (.const (.int .i64 0)))⟩])
  (.block 6 (.other (at_ Try.f73 [1, 1, 1, 1, 1, 0, 1, 0]))))
  (.seq (.seq (.reg [⟨(some 21), none, (.mov (.const (.int .i64 0)))⟩])
  (.block 8 (.other (at_ Try.f73 [1, 1, 1, 1, 1, 1, 0, 1, 0]))))
  (.seq (.reg [⟨(some 308), none, (.lda (.tmp 9) 6)⟩, ⟨none, none, (.sta (.tmp 8) (.tmp 308) 6)⟩])
  .ret))))))))
theorem L73 : low Try.prog Try.f73.ntmps (at_ Try.f73 []) = some R73 := by kernel_rfl
theorem E73_1 : at_ Try.f73 [1, 1, 0, 1, 0] = .loop (at_ Try.f73 [1, 1, 0, 1, 0, 0]) := by kernel_rfl
theorem E73_2 : at_ Try.f73 [1, 1, 1, 0, 1, 0] = .loop (at_ Try.f73 [1, 1, 1, 0, 1, 0, 0]) := by kernel_rfl
theorem E73_3 : at_ Try.f73 [1, 1, 1, 1, 0, 1, 0] = .loop (at_ Try.f73 [1, 1, 1, 1, 0, 1, 0, 0]) := by kernel_rfl
theorem E73_4 : at_ Try.f73 [1, 1, 1, 1, 1, 0, 1, 0] = .loop (at_ Try.f73 [1, 1, 1, 1, 1, 0, 1, 0, 0]) := by kernel_rfl
theorem E73_5 : at_ Try.f73 [1, 1, 1, 1, 1, 1, 0, 1, 0] = .loop (at_ Try.f73 [1, 1, 1, 1, 1, 1, 0, 1, 0, 0]) := by kernel_rfl
theorem N74 : Try.f74.ntmps = 30 := by kernel_rfl
theorem Z74 : Try.f74.results.toList = ((List.toArray [(.tmp 4)]) : Array ResultVar).toList := by kernel_rfl
theorem B74 : Try.f74.body = some (at_ Try.f74 []) := by kernel_rfl
noncomputable def R74 : RC := (.seq (.reg [⟨(some 4), none, (.mov (.const (.slice none 0 0)))⟩])
  (.seq (.reg [⟨(some 5), none, (.mov (.const (.slice none 0 0)))⟩])
  (.seq (.seq (.reg [⟨(some 6), none, (.mov (.const (.int .i64 0)))⟩])
  (.block 0 (.other (at_ Try.f74 [1, 1, 0, 1, 0]))))
  (.seq (.reg [⟨(some 29), none, (.mov (.tmp 5))⟩, ⟨(some 4), none, (.mov (.tmp 29))⟩])
  .ret))))
theorem L74 : low Try.prog Try.f74.ntmps (at_ Try.f74 []) = some R74 := by kernel_rfl
theorem E74_1 : at_ Try.f74 [1, 1, 0, 1, 0] = .loop (at_ Try.f74 [1, 1, 0, 1, 0, 0]) := by kernel_rfl
noncomputable def R74x1 : RC := (.seq (.seq (.reg [⟨(some 8), none, (.mov (.tmp 6))⟩, ⟨(some 9), none, (.mov (.tmp 0))⟩, ⟨(some 10), none, (.len (.tmp 9))⟩, ⟨(some 11), none, (.cmp .lss (.tmp 8) (.tmp 10))⟩])
  (.cond (.tmp 11) .skip
  (.exit 0)))
  (.seq (.block 1 (.seq (.reg [⟨(some 14), none, (.mov (.tmp 0))⟩, ⟨(some 15), none, (.mov (.tmp 6))⟩, ⟨(some 16), none, (.idx (.tmp 14) (.tmp 15) 2)⟩, ⟨(some 17), none, (.addo (.tmp 16) 0)⟩, ⟨(some 18), none, (.ld (.tmp 17) 1)⟩, ⟨(some 7), none, (.mov (.tmp 18))⟩])
  (.seq (.seq (.reg [⟨(some 19), none, (.mov (.tmp 1))⟩])
  (.cond (.tmp 19) (.reg [⟨(some 20), none, (.mov (.tmp 0))⟩, ⟨(some 21), none, (.mov (.tmp 6))⟩, ⟨(some 22), none, (.idx (.tmp 20) (.tmp 21) 2)⟩, ⟨(some 23), none, (.addo (.tmp 22) 1)⟩, ⟨(some 24), none, (.ld (.tmp 23) 1)⟩, ⟨(some 7), none, (.mov (.tmp 24))⟩])
  .skip))
  (.reg [⟨(some 25), none, (.mov (.tmp 5))⟩, ⟨(some 26), none, (.mov (.tmp 7))⟩, ⟨(some 27), none, (.mem ⟨(some 27), (.buildSlice 33 1 (List.toArray [(0, (.tmp 26))])), 33, "", (List.toArray []), none⟩)⟩, ⟨(some 28), none, (.mem ⟨(some 28), (.call ⟨(.builtin .append), (List.toArray [(.tmp 25), (.tmp 27)]), (List.toArray [33, 33])⟩), 33, "", (List.toArray []), none⟩)⟩, ⟨(some 5), none, (.mov (.tmp 28))⟩]))))
  (.reg [⟨(some 12), none, (.mov (.tmp 6))⟩, ⟨(some 13), none, (.ari .add (.tmp 12) (.const (.int .i64 1)))⟩, ⟨(some 6), none, (.mov (.tmp 13))⟩])))
theorem L74x1 : low Try.prog Try.f74.ntmps (at_ Try.f74 [1, 1, 0, 1, 0, 0]) = some R74x1 := by kernel_rfl
theorem N87 : Try.f87.ntmps = 8 := by kernel_rfl
theorem Z87 : Try.f87.results.toList = ((List.toArray [(.tmp 4)]) : Array ResultVar).toList := by kernel_rfl
theorem B87 : Try.f87.body = some (at_ Try.f87 []) := by kernel_rfl
noncomputable def R87 : RC := (.seq (.reg [⟨(some 4), none, (.mov (.const (.int .i64 0)))⟩])
  (.seq (.reg [⟨(some 5), none, (.mov (.tmp 0))⟩, ⟨(some 6), none, (.mov (.tmp 1))⟩, ⟨(some 7), none, (.ari .quo (.tmp 5) (.tmp 6))⟩, ⟨(some 4), none, (.mov (.tmp 7))⟩])
  .ret))
theorem L87 : low Try.prog Try.f87.ntmps (at_ Try.f87 []) = some R87 := by kernel_rfl
theorem N88 : Try.f88.ntmps = 11 := by kernel_rfl
theorem Z88 : Try.f88.results.toList = ((List.toArray [(.tmp 4)]) : Array ResultVar).toList := by kernel_rfl
theorem B88 : Try.f88.body = some (at_ Try.f88 []) := by kernel_rfl
noncomputable def R88 : RC := (.seq (.reg [⟨(some 4), none, (.mov (.const (.int .i64 0)))⟩])
  (.seq (.reg [⟨(some 5), none, (.mov (.tmp 0))⟩, ⟨(some 6), none, (.mov (.tmp 1))⟩, ⟨(some 7), none, (.ari .add (.tmp 5) (.tmp 6))⟩, ⟨(some 8), none, (.ari .sub (.tmp 7) (.const (.int .i64 1)))⟩, ⟨(some 9), none, (.mov (.tmp 1))⟩, ⟨(some 10), none, (.ari .quo (.tmp 8) (.tmp 9))⟩, ⟨(some 4), none, (.mov (.tmp 10))⟩])
  .ret))
theorem L88 : low Try.prog Try.f88.ntmps (at_ Try.f88 []) = some R88 := by kernel_rfl
theorem N60 : Try.f60.ntmps = 30 := by kernel_rfl
theorem Z60 : Try.f60.results.toList = ((List.toArray [(.tmp 4)]) : Array ResultVar).toList := by kernel_rfl
theorem B60 : Try.f60.body = some (at_ Try.f60 []) := by kernel_rfl
noncomputable def R60 : RC := (.seq (.reg [⟨(some 2), none, (.box 25 (.tmp 0))⟩, ⟨(some 4), none, (.mov (.const (.bool false)))⟩])
  (.seq (.seq (.reg [⟨(some 6), none, (.mov (.tmp 1))⟩, ⟨(some 7), none, (.len (.tmp 6))⟩, ⟨(some 8), none, (.addo (.tmp 2) 0)⟩, ⟨(some 9), none, (.ld (.tmp 8) 1)⟩, ⟨(some 10), none, (.len (.tmp 9))⟩, ⟨(some 11), none, (.cmp .neq (.tmp 7) (.tmp 10))⟩])
  (.cond (.tmp 11) (.seq (.reg [⟨(some 4), none, (.mov (.const (.bool false)))⟩])
  .ret)
  .skip))
  (.seq (.seq (.reg [⟨(some 5), none, (.mov (.const (.int .i64 0)))⟩])
  (.block 0 (.other (at_ Try.f60 [1, 1, 0, 1, 0]))))
  (.seq (.reg [⟨(some 4), none, (.mov (.const (.bool true)))⟩])
  .ret))))
theorem L60 : low Try.prog Try.f60.ntmps (at_ Try.f60 []) = some R60 := by kernel_rfl
theorem E60_1 : at_ Try.f60 [1, 1, 0, 1, 0] = .loop (at_ Try.f60 [1, 1, 0, 1, 0, 0]) := by kernel_rfl
noncomputable def R60x1 : RC := (.seq (.seq (.reg [⟨(some 12), none, (.mov (.tmp 5))⟩, ⟨(some 13), none, (.mov (.tmp 1))⟩, ⟨(some 14), none, (.len (.tmp 13))⟩, ⟨(some 15), none, (.cmp .lss (.tmp 12) (.tmp 14))⟩])
  (.cond (.tmp 15) .skip
  (.exit 0)))
  (.seq (.block 1 (.seq (.dreg [⟨(some 18), none, (.mov (.tmp 1))⟩, ⟨(some 19), none, (.mov (.tmp 5))⟩, ⟨(some 20), none, (.idx (.tmp 18) (.tmp 19) 1)⟩, ⟨(some 21), none, (.ld (.tmp 20) 1)⟩, ⟨(some 22), none, (.addo (.tmp 2) 0)⟩, ⟨(some 23), none, (.ld (.tmp 22) 1)⟩, ⟨(some 24), none, (.mov (.tmp 5))⟩, ⟨(some 25), none, (.idx (.tmp 23) (.tmp 24) 4)⟩, ⟨(some 26), none, (.addo (.tmp 25) 0)⟩, ⟨(some 27), none, (.ld (.tmp 26) 1)⟩, ⟨(some 28), none, (.call ⟨(.value (.func 66)), (List.toArray [(.tmp 21), (.const (.int .i64 0)), (.tmp 27)]), (List.toArray [3, 3, 3])⟩ true)⟩, ⟨(some 29), none, (.pur ⟨(some 29), (.unOp .not 4 (.tmp 28)), 4, "", (List.toArray []), none⟩)⟩] [2047, 1023, 496, 240, 112, 0, 16, 0, 7, 3, 0, 0])
  (.cond (.tmp 29) (.seq (.reg [⟨(some 4), none, (.mov (.const (.bool false)))⟩])
  .ret)
  .skip)))
  (.reg [⟨(some 16), none, (.mov (.tmp 5))⟩, ⟨(some 17), none, (.ari .add (.tmp 16) (.const (.int .i64 1)))⟩, ⟨(some 5), none, (.mov (.tmp 17))⟩])))
theorem L60x1 : low Try.prog Try.f60.ntmps (at_ Try.f60 [1, 1, 0, 1, 0, 0]) = some R60x1 := by kernel_rfl
end Go.Ax
namespace Go.Ax
open Go Go.RowKit Go.Proofs
noncomputable def R72x1t21 : RC := (.dreg [⟨(some 21), none, (.addo (.tmp 5) 1)⟩, ⟨(some 22), none, (.ld (.tmp 21) 1)⟩, ⟨(some 23), none, (.addo (.tmp 3) 0)⟩, ⟨(some 24), none, (.ld (.tmp 23) 1)⟩, ⟨(some 25), none, (.mov (.tmp 6))⟩, ⟨(some 26), none, (.idx (.tmp 24) (.tmp 25) 2)⟩, ⟨(some 27), none, (.addo (.tmp 26) 0)⟩, ⟨(some 28), none, (.ld (.tmp 27) 1)⟩, ⟨(some 29), none, (.addo (.tmp 3) 0)⟩, ⟨(some 30), none, (.ld (.tmp 29) 1)⟩, ⟨(some 31), none, (.mov (.tmp 6))⟩, ⟨(some 32), none, (.idx (.tmp 30) (.tmp 31) 2)⟩, ⟨(some 33), none, (.addo (.tmp 32) 1)⟩, ⟨(some 34), none, (.ld (.tmp 33) 1)⟩, ⟨(some 35), none, (.idx (.tmp 22) (.tmp 28) 6)⟩, ⟨(some 36), none, (.addo (.tmp 35) 4)⟩, ⟨none, none, (.st (.tmp 36) (.tmp 34))⟩] [65535, 32767, 16383, 7936, 3840, 1792, 0, 256, 0, 124, 60, 28, 0, 4, 0, 1, 0])
theorem L72x1t21 : low Try.prog 38 (at_ Try.f72 [1, 1, 0, 1, 0, 0, 1, 0, 0]) = some R72x1t21 := by kernel_rfl
noncomputable def R72x1e : RC := (.reg [⟨(some 19), none, (.mov (.tmp 6))⟩, ⟨(some 20), none, (.ari .add (.tmp 19) (.const (.int .i64 1)))⟩, ⟨(some 6), none, (.mov (.tmp 20))⟩])
theorem L72x1e : low Try.prog 38 (at_ Try.f72 [1, 1, 0, 1, 0, 0, 1, 1]) = some R72x1e := by kernel_rfl
noncomputable def R72x1v : RC := (.seq (.seq (.reg [⟨(some 14), none, (.mov (.tmp 6))⟩, ⟨(some 15), none, (.addo (.tmp 3) 0)⟩, ⟨(some 16), none, (.ld (.tmp 15) 1)⟩, ⟨(some 17), none, (.len (.tmp 16))⟩, ⟨(some 18), none, (.cmp .lss (.tmp 14) (.tmp 17))⟩])
  (.cond (.tmp 18) .skip
  (.exit 0)))
  (.seq (.block 1 (.other (at_ Try.f72 [1, 1, 0, 1, 0, 0, 1, 0, 0])))
  (.other (at_ Try.f72 [1, 1, 0, 1, 0, 0, 1, 1]))))
theorem V72x1 : LT Try.prog 38 (at_ Try.f72 [1, 1, 0, 1, 0, 0]) R72x1v := by
  have e : at_ Try.f72 [1, 1, 0, 1, 0, 0] = (.seq (at_ Try.f72 [1, 1, 0, 1, 0, 0, 0]) (.seq (.block 1 (at_ Try.f72 [1, 1, 0, 1, 0, 0, 1, 0, 0])) (at_ Try.f72 [1, 1, 0, 1, 0, 0, 1, 1]))) := by kernel_rfl
  rw [e]
  exact (.seq (.low (by kernel_rfl)) (.seq (.block 1 (.other _)) (.other _)))

theorem row_get {n : Nat} {cs l : List Value} {i j : Nat} {v : Value} (h : row n cs i = some l) (hj : l[j]? = some v) : cs[i + j]? = some v := by
  obtain ⟨e, hl⟩ := row_some h
  have hjl := get_lt hj
  rw [e, List.getElem?_take, if_pos (by omega), List.getElem?_drop] at hj
  exact hj
theorem spc_get {l : List (Int × Int)} {i : Nat} {s : Int × Int} (h : l[i]? = some s) : (spc l)[0 + i * 2 + 0]? = some (iv s.1) ∧ (spc l)[0 + i * 2 + 1]? = some (iv s.2) :=
  ⟨row_get (spc_row h) rfl, row_get (spc_row h) rfl⟩
theorem bdc_get {l : List Bd} {i : Nat} {s : Bd} (h : l[i]? = some s) : (bdc l)[0 + i * 2 + 0]? = some (iv s.gate) ∧ (bdc l)[0 + i * 2 + 1]? = some (iv s.boards) :=
  ⟨row_get (row_flat (f := Bd.v) (size := 2) (fun _ _ => rfl) h) rfl, row_get (row_flat (f := Bd.v) (size := 2) (fun _ _ => rfl) h) rfl⟩
theorem pdc_row {l : List Pd} {i : Nat} {p : Pd} (h : l[i]? = some p) : row 4 (pdc l) (0 + i * 4) = some p.v := row_flat (f := Pd.v) (fun _ _ => rfl) h
section
variable {kn : FuncId → Option Bool} {lo : Nat} {F H : Hp}
theorem refends_ok {g : Bool} {a : Option Addr} {n cap : Nat} {ss : List (Int × Int)} (hs : Sl H a n cap (spc ss)) (hn : ss.length = n) (hb : n ≤ 500) (hlo : lo ≤ H.next) :
    ∃ v H', FnX Try.prog kn lo 74 [.slice a n cap, .bool g] H v H' ∧ Keep H H' [] ∧ Acc lo H.next 3 H' v n (ints (endS g ss)) := by
  have key := fnX_low (kn := kn) (lo := lo) (H := H) (args := [.slice a n cap, .bool g]) (Q := fun v H' => Keep H H' [] ∧ Acc lo H.next 3 H' v n (ints (endS g ss))) Try.func74 B74 N74 Z74 L74 (by simp) ?_
  · exact key
  refine loop_low (fn := Try.f74) E74_1 N74 L74x1 (fun x : Value × Nat => [(5, x.1), (6, iv (x.2 : Int)), (0, .slice a n cap), (1, .bool g)])
    (fun k x H2 => x.2 + k = n ∧ Keep H H2 [] ∧ Acc lo H.next 3 H2 x.1 x.2 (ints ((endS g ss).take x.2)))
    n (.slice none 0 0, 0) ⟨by simp, Keep.refl H _, .inl ⟨rfl, rfl, rfl⟩⟩ ⟨rfl, rfl, rfl, rfl, trivial⟩ ?_
  rintro k ⟨w, i⟩ H2 ⟨hik, hk, hacc⟩
  simp only at hik hacc
  have hkn := hk.1
  refine And.intro (fun hlt => ?_) (fun hge => ?_)
  · have hi : i < n := by simpa using hlt
    have hs2 := hk.sl0 hs
    rcases hs2 with ⟨_, h0, _⟩ | ⟨wb, ewa, hwc, _⟩
    · omega
    obtain ⟨s, hsi⟩ := get_some (l := ss) (i := i) (by omega)
    obtain ⟨g0, g1⟩ := spc_get hsi
    have hblk := hacc.blk
    have step : ∀ e, e = endV g s.1 s.2 → ∃ H6 H7 kd, H2.new (.cells [iv e] 3 false) = H6 ∧ (∀ (m : Nat) (S : Rg) (d : Option Tmp) (x y : Operand) (ty : TypeId) (p : String), evS S x = some w → evS S y = some (.slice (some ⟨H2.next, 0, none⟩) 1 1) → heapOp Try.prog lo (frS m S) H6 ⟨d, .call ⟨.builtin .append, #[x, y], #[33, 33]⟩, ty, p, #[], none⟩ = some (.val (.slice (some ⟨H6.next, 0, none⟩) (i + 1) (i + 1)) H7, kd)) ∧
        (∀ b, kd = .read b → b < H6.next) ∧ Keep H H7 [] ∧ Acc lo H.next 3 H7 (.slice (some ⟨H6.next, 0, none⟩) (i + 1) (i + 1)) (i + 1) (ints ((endS g ss).take (i + 1))) := by
      rintro e rfl
      obtain ⟨H6, hH6⟩ : ∃ H6, H2.new (.cells [iv (endV g s.1 s.2)] 3 false) = H6 := ⟨_, rfl⟩
      obtain ⟨k6, n6, c6⟩ := new_facts hH6
      have m6 := k6.1
      have hsl : Sl H6 (some ⟨H2.next, 0, none⟩) 1 1 [iv (endV g s.1 s.2)] := .inr ⟨H2.next, rfl, c6.rd, Nat.le_refl _⟩
      obtain ⟨H7, kd, h7', hkd, acc7, k7, n7⟩ := heap_append_two (P := Try.prog) (lo := lo) (k := i) (t1 := 33) se33 u33 hsl rfl (by decide) rfl (by rw [ints_len, List.length_take]; simp [endS]; omega) (by omega) (hacc.keep k6) (by omega) (by omega)
      refine ⟨H6, H7, kd, hH6, h7', reg_ok hkd _, (hk.trans k6).new k7 (fun b hb => .inr (hblk b hb).1), ?_⟩
      have e1 : (endS g ss)[i]? = some (endV g s.1 s.2) := by simp [endS, hsi]
      have e2 : (endS g ss).take (i + 1) = (endS g ss).take i ++ [endV g s.1 s.2] := by
        rw [List.take_add_one, e1]; rfl
      rw [e2, ints_snoc]
      exact acc7
    rw [ewa]
    refine Exists.intro i (And.intro rfl (And.intro hi ?_))
    refine Exists.intro _ (Exists.intro _ (And.intro hwc.of (And.intro g0 ?_)))
    cases g
    · refine condF ?_
      obtain ⟨H6, H7, kd, h6, h7, hkd, k7, acc7⟩ := step s.1 rfl
      refine And.intro rfl (Or.inr (And.intro rfl (Exists.intro _ (Exists.intro H6 (Exists.intro _ (And.intro ((heap_build1 (v := iv s.1) se33 z3 rfl rfl rfl (by decide)).trans (by rw [← h6]; rfl)) (And.intro (fun b e => by cases e) ?_)))))))
      refine And.intro rfl (Or.inr (And.intro (by cases w <;> kernel_rfl) (Exists.intro _ (Exists.intro H7 (Exists.intro _ (And.intro (h7 _ _ _ _ _ _ _ rfl rfl) (And.intro hkd ?_)))))))
      refine And.intro ⟨by omega, by omega⟩ ?_
      exact ⟨k - 1, (_, i + 1), by omega, ⟨by simp only; omega, k7, acc7⟩, rfl, rfl, rfl, rfl, trivial⟩
    · refine condT ?_
      refine Exists.intro i (And.intro rfl (And.intro hi ?_))
      refine Exists.intro _ (Exists.intro _ (And.intro hwc.of (And.intro g1 ?_)))
      obtain ⟨H6, H7, kd, h6, h7, hkd, k7, acc7⟩ := step s.2 rfl
      refine And.intro rfl (Or.inr (And.intro rfl (Exists.intro _ (Exists.intro H6 (Exists.intro _ (And.intro ((heap_build1 (v := iv s.2) se33 z3 rfl rfl rfl (by decide)).trans (by rw [← h6]; rfl)) (And.intro (fun b e => by cases e) ?_)))))))
      refine And.intro rfl (Or.inr (And.intro (by cases w <;> kernel_rfl) (Exists.intro _ (Exists.intro H7 (Exists.intro _ (And.intro (h7 _ _ _ _ _ _ _ rfl rfl) (And.intro hkd ?_)))))))
      refine And.intro ⟨by omega, by omega⟩ ?_
      exact ⟨k - 1, (_, i + 1), by omega, ⟨by simp only; omega, k7, acc7⟩, rfl, rfl, rfl, rfl, trivial⟩
  · have hi : ¬ i < n := by simpa using hge
    have hl : i = n := by omega
    subst hl
    rw [List.take_of_length_le (by simp [endS]; omega)] at hacc
    exact And.intro trivial (Exists.intro _ (And.intro rfl ⟨hk, hacc⟩))
/-- The gates, copied: what kind of step it is. -/
theorem heap_append_own2 {a : Option Addr} {n cap b0 L : Nat} {gs : List Gt} (h0 : H.t.get b0 = some (.cells [] 81 false)) (hL : L ≤ b0) (hb0 : b0 < H.next) (hs : Sl H a n cap (gtc gs)) (hn : gs.length = n) (hb : n ≤ 1000) :
    ∃ a' cap' H' k, (∀ (m : Nat) (S : Rg) (d : Option Tmp) (x y : Operand) (ty : TypeId) (p : String), evS S x = some (.slice (some ⟨b0, 0, none⟩) 0 0) → evS S y = some (.slice a n cap) → heapOp Try.prog lo (frS m S) H ⟨d, .call ⟨.builtin .append, #[x, y], #[23, 23]⟩, ty, p, #[], none⟩ = some (.val (.slice a' n cap') H', k)) ∧
      (k = .pure ∨ k = .heavy) ∧ Keep H H' [] ∧ Own L H' a' n (gtc gs) ∧ (∀ b, a' = some ⟨b, 0, none⟩ → b < H'.next) ∧ n ≤ cap' ∧ ∃ b, a' = some ⟨b, 0, none⟩ := by
  rcases Nat.eq_zero_or_pos n with h | h
  · subst h
    have hg : gs = [] := List.eq_nil_of_length_eq_zero hn
    subst hg
    exact ⟨_, _, H, .pure, fun m S d x y ty p hx hy => heap_append_none se23 u23 hx hy hs rfl, .inl rfl, Keep.refl _ _, .inr ⟨b0, rfl, hL, hb0, _, _, h0⟩, (fun b e => by cases e; exact hb0), Nat.le_refl _, b0, rfl⟩
  · exact ⟨_, _, _, .heavy, fun m S d x y ty p hx hy => heap_append_empty se23 u23 h0 hx hy hs (by rw [gtc_len, hn]) (by omega) h, .inr rfl, (new_facts rfl).1, .inr ⟨H.next, rfl, by omega, (new_facts rfl).2.2⟩, (fun b e => by cases e; exact Nat.lt_succ_self _), Nat.le_refl _, H.next, rfl⟩
theorem Own.sl {L : Nat} {a : Option Addr} {n cap : Nat} {cs : List Value} (h : Own L H a n cs) (hc : n ≤ cap) (hb : ∃ b, a = some ⟨b, 0, none⟩) : Sl H a n cap cs := by
  obtain ⟨b, rfl⟩ := hb
  rcases h with ⟨e, _⟩ | ⟨b', e, _, hcl⟩
  · cases e
  · cases e; exact .inr ⟨_, rfl, hcl.rd, hc⟩
theorem pure_chain2 {n : Nat} {S : Rg} {d : Option Tmp} {x y : Operand} {p : String} {a a2 : Option Addr} {m c m2 c2 : Nat} (hx : evS S x = some (.slice a m c)) (hy : evS S y = some (.slice a2 m2 c2)) :
    pureOp Try.prog (frS n S) ⟨d, .build 25 #[(0, x), (1, y)], 25, p, #[], none⟩ = some (.agg #[.slice a m c, .slice a2 m2 c2]) := by
  have hu : ∃ fs, Try.prog.underlying 25 = some (.struct fs) ∧ placesOf Try.prog fs.toList = some [(0, 1), (1, 1)] := by
    have h : (match Try.prog.underlying 25 with | some (.struct fs) => placesOf Try.prog fs.toList | _ => none) = some [(0, 1), (1, 1)] := by kernel_rfl
    split at h
    · rename_i fs e; exact ⟨fs, e, h⟩
    · cases h
  have z25 : zeroOf Try.prog 25 = some (.agg #[.slice none 0 0, .slice none 0 0]) := by kernel_rfl
  obtain ⟨fs, h1, h2⟩ := hu
  unfold pureOp
  simp only [partsOf, ev_frS, hx, hy, z25, h1, h2]
  rfl
theorem ag25 : isAggB Try.prog 25 = some true := by kernel_rfl
theorem i25s : ∃ i, Try.prog.info? 25 = some i ∧ i.size = 2 := by
  have h : (Try.prog.info? 25).map (fun i => i.size) = some 2 := by kernel_rfl
  cases e : Try.prog.info? 25 with
  | none => rw [e] at h; cases h
  | some i => rw [e] at h; simp at h; exact ⟨i, rfl, h⟩
theorem set_tail {S : Rg} {K : Exit → Rg → Hp → Prop} {b2 b3 b4 b5 i gb gn gcap : Nat} {pv : Value} {h : Hr} {gs : List Gt} {x : Bd} {lo' : Nat} (h5 : Rd H b5 [pv, .slice (some ⟨gb, 0, none⟩) gn gcap]) (h3 : Rd H b3 h.v) (ha : h.At H) (hx : h.bs[i]? = some x) (hi : i < h.bn) (hg : Cl H gb (gtc gs)) (hgl : lo ≤ gb) (hgn : gs.length = gn) (h1 : 0 ≤ x.gate) (h2 : x.gate < gn)
    (hne : ∀ b, h.ba = some ⟨b, 0, none⟩ → b ≠ gb) (n5 : b5 ≠ gb) (n3 : b3 ≠ gb)
    (hS : Subs [(5, pt b5), (3, pt b3), (6, iv (i : Int)), (4, pt b4), (2, pt b2)] S)
    (hK : ∀ S' H', Subs [(5, pt b5), (3, pt b3), (6, iv (i : Int)), (4, pt b4), (2, pt b2)] S' → Cl H' gb (gtc (boardS gs x)) → Keep H H' [gb] → K .normal S' H') :
    Tri Try.prog kn lo 38 false (at_ Try.f72 [1, 1, 0, 1, 0, 0, 1, 0, 0]) S H K := by
  have hb := ha.b
  rcases hb with ⟨_, h0, _⟩ | ⟨bb, eba, hbr, _⟩
  · omega
  obtain ⟨g0, g1⟩ := bdc_get hx
  refine tri_piece L72x1t21 hS ?_
  refine Exists.intro _ (Exists.intro _ (And.intro h5.of (And.intro rfl (And.intro h5.lt ?_))))
  refine Exists.intro _ (Exists.intro _ (And.intro h3.of (And.intro (show _ = some (.slice h.ba h.bn h.bcap) from rfl) (And.intro h3.lt ?_))))
  rw [eba]
  refine Exists.intro i (And.intro rfl (And.intro hi ?_))
  refine Exists.intro _ (Exists.intro _ (And.intro hbr.of (And.intro g0 (And.intro hbr.lt ?_))))
  refine Exists.intro _ (Exists.intro _ (And.intro h3.of (And.intro (show _ = some (.slice h.ba h.bn h.bcap) from rfl) (And.intro h3.lt ?_))))
  rw [eba]
  refine Exists.intro i (And.intro rfl (And.intro hi ?_))
  refine Exists.intro _ (Exists.intro _ (And.intro hbr.of (And.intro g1 (And.intro hbr.lt ?_))))
  refine Exists.intro x.gate.toNat (And.intro (by omega) (And.intro (by omega) ?_))
  have hgn' : (gs[x.gate.toNat]?) = some (gs.getD x.gate.toNat gt0) := by
    have hl : x.gate.toNat < gs.length := by omega
    simp [List.getD, hl]
  obtain ⟨_, eg, lg, gg⟩ := id hg
  refine Exists.intro _ (Exists.intro _ (Exists.intro _ (And.intro gg (And.intro hgl (And.intro rfl (And.intro rfl (And.intro (by rw [gtc_len]; omega) ?_)))))))
  intro H4 hH4
  rw [gtc, flat_set (f := Gt.v) (fun _ _ => rfl) (k := 4) (y := { gs.getD x.gate.toNat gt0 with boards := x.boards }) hgn' (by decide) rfl] at hH4
  obtain ⟨k4, n4, c4⟩ := up_facts hg hH4
  refine And.intro (by repeat' first | exact True.intro | exact (fun h => h) | refine And.intro ?_ ?_) ?_
  exact hK _ H4 ⟨rfl, rfl, rfl, rfl, rfl, trivial⟩ c4 k4
end
end Go.Ax
namespace Go.Ax
open Go Go.RowKit Go.Proofs
section
variable {kn : FuncId → Option Bool} {lo : Nat} {F H : Hp}
theorem boards_len : ∀ (l : List Bd) (gs : List Gt), (l.foldl boardS gs).length = gs.length
  | [], _ => rfl
  | b :: l, gs => by rw [List.foldl_cons, boards_len l]; simp [boardS]
theorem set_loop {S : Rg} {K : Exit → Rg → Hp → Prop} {ga' : Option Addr} {gn gcap' b2 b3 b4 b5 L : Nat} {pv : Value} {gs : List Gt} {h : Hr} (own : Own L H ga' gn (gtc gs)) (hgn : gs.length = gn) (h5 : Rd H b5 [pv, .slice ga' gn gcap']) (h3 : Rd H b3 h.v) (ha : h.At H) (hbn : h.bn ≤ 1000) (hv : ∀ b ∈ h.bs, 0 ≤ b.gate ∧ b.gate < gn) (hloL : lo ≤ L)
    (hlt : ∀ b, b ∈ gl ga' → b ≠ b5 ∧ b ≠ b3 ∧ L ≤ b) (hL : ∀ b, (h.ba = some ⟨b, 0, none⟩ ∨ h.ca = some ⟨b, 0, none⟩ ∨ h.ta = some ⟨b, 0, none⟩) → b < L)
    (hS : Subs [(6, iv ((0 : Nat) : Int)), (5, pt b5), (3, pt b3), (4, pt b4), (2, pt b2)] S)
    (hK : ∀ v14 v15 v16 v17 v18 H', Own L H' ga' gn (gtc (boardsF h gs)) → Keep H H' (gl ga') → K (.exit 0) [(18, v18), (17, v17), (16, v16), (15, v15), (14, v14), (6, iv (h.bn : Int)), (5, pt b5), (3, pt b3), (4, pt b4), (2, pt b2)] H') :
    Tri Try.prog kn lo 38 false (at_ Try.f72 [1, 1, 0, 1, 0]) S H K := by
  refine loop_lt E72_1 V72x1 (fun i : Nat => [(6, iv (i : Int)), (5, pt b5), (3, pt b3), (4, pt b4), (2, pt b2)])
    (fun k i H9 => i + k = h.bn ∧ Own L H9 ga' gn (gtc ((h.bs.take i).foldl boardS gs)) ∧ Keep H H9 (gl ga')) h.bn 0 ⟨by omega, by simpa using own, Keep.refl _ _⟩ hS ?_
  rintro k i H9 ⟨hik, own9, k9⟩
  have c29 := k9.rd h3 (fun hb => (hlt _ hb).2.1 rfl)
  have cd9 := k9.rd h5 (fun hb => (hlt _ hb).1 rfl)
  refine Exists.intro _ (Exists.intro _ (And.intro c29.of (And.intro (show _ = some (.slice h.ba h.bn h.bcap) from rfl) ?_)))
  refine And.intro (fun hlt' => ?_) (fun hge => ?_)
  · have hi : i < h.bn := by simpa using hlt'
    obtain ⟨x, hx⟩ := get_some (l := h.bs) (i := i) (by rw [ha.lb]; omega)
    obtain ⟨v1, v2⟩ := hv x (List.mem_of_getElem? hx)
    rcases own9 with ⟨_, h0, _⟩ | ⟨gb, ega, hgl, hgc⟩
    · omega
    obtain ⟨n5, n3, _⟩ := hlt gb (by rw [mem_gl ega]; simp)
    rw [ega] at cd9
    refine set_tail (h := h) (gb := gb) (gn := gn) (gcap := gcap') (pv := pv) (b2 := b2) (b3 := b3) (b4 := b4) (b5 := b5) (lo' := 0) (i := i) cd9 c29 ⟨k9.sl ha.b (fun b e hb => ?_), k9.sl ha.c (fun b e hb => ?_), k9.sl ha.t (fun b e hb => ?_), ha.lb, ha.lc, ha.lt⟩ hx hi hgc (by omega) (by rw [boards_len, hgn]) v1 v2 (fun b e => ?_) (fun e => n5 e.symm) (fun e => n3 e.symm) ⟨rfl, rfl, rfl, rfl, rfl, trivial⟩ ?_
    · have := hL b (.inl e); have := (hlt b hb).2.2; omega
    · have := hL b (.inr (.inl e)); have := (hlt b hb).2.2; omega
    · have := hL b (.inr (.inr e)); have := (hlt b hb).2.2; omega
    · have := hL b (.inl e); omega
    intro S' H10 hS' c10 k10
    refine tri_piece L72x1e hS' ?_
    refine And.intro ⟨by omega, by omega⟩ ?_
    refine ⟨k - 1, i + 1, by omega, ⟨by omega, ?_, ?_⟩, rfl, rfl, rfl, rfl, rfl, trivial⟩
    · rw [take_step hx]; exact .inr ⟨gb, ega, hgl, c10⟩
    · exact k9.trans (k10.mono (by rw [mem_gl ega]; exact fun _ h => h))
  · have hi : ¬ i < h.bn := by simpa using hge
    have hin : i = h.bn := by omega
    subst hin
    rw [List.take_of_length_le (by rw [ha.lb]; omega)] at own9
    exact hK _ _ _ _ _ _ own9 k9
/-- The document's chain with the boards of an hour. -/
theorem set_ok {pa ga : Option Addr} {pn pcap gn gcap : Nat} {gs : List Gt} {h : Hr} (hg : Sl H ga gn gcap (gtc gs)) (hgn : gs.length = gn) (hgb : gn ≤ 1000) (ha : h.At H) (hbn : h.bn ≤ 1000) (hv : ∀ b ∈ h.bs, 0 ≤ b.gate ∧ b.gate < gn) (hlo : lo ≤ H.next) :
    ∃ ga' gcap' H', FnX Try.prog kn lo 72 [chv pa pn pcap ga gn gcap, .agg h.v.toArray] H (chv pa pn pcap ga' gn gcap') H' ∧ Keep H H' [] ∧ Own H.next H' ga' gn (gtc (boardsF h gs)) ∧ gn ≤ gcap' ∧ ∃ b, ga' = some ⟨b, 0, none⟩ := by
  have key := fnX_low (kn := kn) (lo := lo) (H := H) (args := [chv pa pn pcap ga gn gcap, .agg h.v.toArray]) (Q := fun v H' => ∃ ga' gcap', v = chv pa pn pcap ga' gn gcap' ∧ Keep H H' [] ∧ Own H.next H' ga' gn (gtc (boardsF h gs)) ∧ gn ≤ gcap' ∧ ∃ b, ga' = some ⟨b, 0, none⟩) Try.func72 B72 N72 Z72 L72 (by simp) ?_
  · obtain ⟨v, H', q, ga', gcap', rfl, r⟩ := key; exact ⟨ga', gcap', H', q, r⟩
  intro H1 hH1; obtain ⟨k1, n1, c1⟩ := new_facts hH1; clear hH1
  intro H2 hH2; obtain ⟨k2, n2, c2⟩ := new_facts hH2; clear hH2
  intro H3 hH3; obtain ⟨k3, n3, c3⟩ := new_facts hH3; clear hH3
  have c1 : Cl H3 H.next [.slice pa pn pcap, .slice ga gn gcap] := k3.cl (k2.cl c1 (by simp)) (by simp)
  have c2 : Cl H3 H1.next h.v := k3.cl c2 (by simp)
  have c3 : Cl H3 H2.next [.slice none 0 0, .slice none 0 0] := c3
  have k03 : Keep H H3 [] := (k1.trans k2).trans k3
  have m1 := k1.1; have m2 := k2.1; have m3 := k3.1
  refine Exists.intro _ (Exists.intro _ (And.intro c1.of (And.intro (show _ = some (.slice pa pn pcap) from rfl) (And.intro c1.lt ?_))))
  obtain ⟨Ha, hHa⟩ : ∃ Ha, H3.new (.cells [] 81 false) = Ha := ⟨_, rfl⟩
  refine And.intro rfl (Or.inr (And.intro rfl (Exists.intro _ (Exists.intro Ha (Exists.intro _ (And.intro ((heap_build0 se23 z81).trans (by rw [← hHa])) (And.intro (fun b e => by cases e) ?_)))))))
  have hga : Ha.t.get H3.next = some (.cells [] 81 false) := by
    rw [← hHa]; show (H3.t.set H3.next _).get H3.next = _; rw [Tr.get_set, if_pos rfl]
  obtain ⟨ka, na, ca⟩ := new_facts hHa
  clear hHa
  have c1a := ka.cl c1 (by simp)
  refine Exists.intro _ (Exists.intro _ (And.intro c1a.of (And.intro (show _ = some (.slice ga gn gcap) from rfl) (And.intro c1a.lt ?_))))
  obtain ⟨ga', gcap', Hb, kd, hap, hkd, kb, own, olt, hcap⟩ := heap_append_own2 (lo := lo) (L := H3.next) hga (Nat.le_refl _) (by omega) ((k03.trans ka).sl0 hg) hgn hgb
  have ma := ka.1; have mb := kb.1
  have c2b := kb.cl (ka.cl c2 (by simp)) (by simp)
  have c3b := kb.cl (ka.cl c3 (by simp)) (by simp)
  have k0b := (k03.trans ka).trans kb
  rcases hkd with rfl | rfl
  all_goals
    refine And.intro rfl (Or.inr (And.intro (by kernel_rfl) (Exists.intro _ (Exists.intro Hb (Exists.intro _ (And.intro (hap _ _ _ _ _ _ _ rfl rfl) (And.intro (fun b e => by cases e) ?_)))))))
    refine And.intro rfl (Exists.intro (chv pa pn pcap ga' gn gcap') (And.intro (pure_chain2 rfl rfl) ?_))
    intro Hc hHc; obtain ⟨kc, nc, cc⟩ := new_facts hHc; clear hHc
    obtain ⟨_, ec, lc, gc⟩ := id cc
    have mc := kc.1
    refine Exists.intro _ (Exists.intro _ (Exists.intro _ (And.intro gc (And.intro (by omega) (And.intro rfl (And.intro rfl (And.intro (by simp) ?_)))))))
    intro Hd hHd; obtain ⟨kdd, nd, cd⟩ := up_facts cc hHd; clear hHd
    have cd : Cl Hd Hb.next [.slice pa pn pcap, .slice ga' gn gcap'] := cd
    have kbd : Keep Hb Hd [] := kc.new kdd (by simp)
    refine And.intro (by repeat' first | exact True.intro | exact (fun h => h) | refine And.intro ?_ ?_) ?_
    have md := kbd.1
    have hlt : ∀ b, b ∈ gl ga' → b < Hb.next ∧ H3.next ≤ b := fun b hb => by
      rcases own with ⟨e, _⟩ | ⟨gb, e, hl, _⟩
      · rw [e] at hb; simp [gl] at hb
      · rw [mem_gl e] at hb; simp at hb; subst hb; exact ⟨olt b e, hl⟩
    refine set_loop (L := H3.next) (h := h) (gs := gs) (ga' := ga') (gn := gn) (gcap' := gcap') (b2 := H.next) (b3 := H1.next) (b4 := H2.next) (b5 := Hb.next) (pv := .slice pa pn pcap) (own.keep kbd (fun b e => by simp)) hgn cd.rd (kbd.cl c2b (by simp)).rd ((ha.keep k0b).keep kbd) hbn hv (by omega) (fun b hb => ?_) (fun b hb => ?_) ⟨rfl, rfl, rfl, rfl, rfl, trivial⟩ ?_
    · have := hlt b hb; omega
    · rcases hb with e | e | e
      · have := ha.b.lt b e; omega
      · have := ha.c.lt b e; omega
      · have := ha.t.lt b e; omega
    intro v14 v15 v16 v17 v18 He ownE kde
    have cdE := kde.rd cd.rd (fun hb => by have := (hlt _ hb).1; omega)
    have c3E := kde.cl (kbd.cl c3b (by simp)) (fun hb => by have := (hlt _ hb).2; omega)
    refine Exists.intro _ (Exists.intro _ (And.intro cdE.of (And.intro (show row 2 _ _ = some [.slice pa pn pcap, .slice ga' gn gcap'] from rfl) ?_)))
    obtain ⟨_, ef, lf, gf⟩ := id c3E
    refine Exists.intro _ (Exists.intro _ (Exists.intro _ (And.intro gf (And.intro (by omega) (And.intro rfl (And.intro rfl (And.intro (by simp) ?_)))))))
    intro Hf hHf; obtain ⟨kf, nf, cf⟩ := up_facts c3E hHf; clear hHf
    have cf : Cl Hf H2.next [.slice pa pn pcap, .slice ga' gn gcap'] := cf
    obtain ⟨i, hi, hs⟩ := i25s
    have hr := load_all ag25 hi (cs := [.slice pa pn pcap, .slice ga' gn gcap']) hs cf.rd
    refine And.intro trivial (Exists.intro [chv pa pn pcap ga' gn gcap'] (And.intro ?_ ⟨ga', gcap', rfl, ?_, ?_, hcap⟩))
    · have e6 : ptr H2.next = pt H2.next := rfl
      simp only [resS, lk, beq_eq, Nat.reduceEqDiff, decide_true, decide_false, cond_true, cond_false, putS, e6, hr]
    · exact ((k0b.trans kbd).new kde (fun b hb => .inr (by have := (hlt _ hb).2; omega))).new kf (fun b hb => .inr (by simp at hb; omega))
    · exact (ownE.keep kf (fun b e hb => by simp at hb; have := (hlt b (by rw [mem_gl e]; simp)).2; omega)).mono (by omega)
end
end Go.Ax
namespace Go.Ax
open Go Go.RowKit Go.Proofs
noncomputable def R73x1t47 : RC := (.seq (.dreg [⟨(some 47), none, (.addo (.tmp 9) 0)⟩, ⟨(some 48), none, (.ld (.tmp 47) 1)⟩, ⟨(some 49), none, (.mov (.tmp 10))⟩, ⟨(some 50), none, (.addo (.tmp 9) 0)⟩, ⟨(some 51), none, (.ld (.tmp 50) 1)⟩, ⟨(some 52), none, (.mov (.tmp 10))⟩, ⟨(some 53), none, (.idx (.tmp 51) (.tmp 52) 1)⟩, ⟨(some 54), none, (.ld (.tmp 53) 1)⟩, ⟨(some 55), none, (.mov (.tmp 11))⟩, ⟨(some 56), none, (.ari .add (.tmp 54) (.tmp 55))⟩, ⟨(some 57), none, (.idx (.tmp 48) (.tmp 49) 1)⟩, ⟨none, none, (.st (.tmp 57) (.tmp 56))⟩] [2047, 1023, 504, 0, 120, 56, 0, 8, 0, 0, 1, 0])
  (.reg [⟨(some 58), none, (.addo (.tmp 9) 1)⟩, ⟨(some 59), none, (.ld (.tmp 58) 1)⟩, ⟨(some 60), none, (.mov (.tmp 11))⟩, ⟨(some 61), none, (.ari .add (.tmp 59) (.tmp 60))⟩, ⟨(some 62), none, (.addo (.tmp 9) 1)⟩, ⟨none, none, (.st (.tmp 62) (.tmp 61))⟩]))
theorem L73x1t47 : low Try.prog 309 (at_ Try.f73 [1, 1, 0, 1, 0, 0, 1, 0, 0, 1, 1]) = some R73x1t47 := by kernel_rfl
noncomputable def R73x1e : RC := (.reg [⟨(some 32), none, (.mov (.tmp 10))⟩, ⟨(some 33), none, (.ari .add (.tmp 32) (.const (.int .i64 1)))⟩, ⟨(some 10), none, (.mov (.tmp 33))⟩])
theorem L73x1e : low Try.prog 309 (at_ Try.f73 [1, 1, 0, 1, 0, 0, 1, 1]) = some R73x1e := by kernel_rfl
noncomputable def R73x1v : RC := (.seq (.seq (.reg [⟨(some 27), none, (.mov (.tmp 10))⟩, ⟨(some 28), none, (.addo (.tmp 9) 0)⟩, ⟨(some 29), none, (.ld (.tmp 28) 1)⟩, ⟨(some 30), none, (.len (.tmp 29))⟩, ⟨(some 31), none, (.cmp .lss (.tmp 27) (.tmp 30))⟩])
  (.cond (.tmp 31) .skip
  (.exit 0)))
  (.seq (.block 1 (.seq (.reg [⟨(some 34), none, (.addo (.tmp 6) 1)⟩, ⟨(some 35), none, (.ld (.tmp 34) 1)⟩, ⟨(some 36), none, (.mov (.tmp 10))⟩, ⟨(some 37), none, (.idx (.tmp 35) (.tmp 36) 2)⟩, ⟨(some 38), none, (.addo (.tmp 37) 0)⟩, ⟨(some 39), none, (.ld (.tmp 38) 1)⟩, ⟨(some 11), none, (.mov (.tmp 39))⟩])
  (.seq (.seq (.reg [⟨(some 40), none, (.mov (.tmp 3))⟩])
  (.cond (.tmp 40) (.reg [⟨(some 41), none, (.addo (.tmp 6) 1)⟩, ⟨(some 42), none, (.ld (.tmp 41) 1)⟩, ⟨(some 43), none, (.mov (.tmp 10))⟩, ⟨(some 44), none, (.idx (.tmp 42) (.tmp 43) 2)⟩, ⟨(some 45), none, (.addo (.tmp 44) 1)⟩, ⟨(some 46), none, (.ld (.tmp 45) 1)⟩, ⟨(some 11), none, (.mov (.tmp 46))⟩])
  .skip))
  (.other (at_ Try.f73 [1, 1, 0, 1, 0, 0, 1, 0, 0, 1, 1])))))
  (.other (at_ Try.f73 [1, 1, 0, 1, 0, 0, 1, 1]))))
theorem V73x1 : LT Try.prog 309 (at_ Try.f73 [1, 1, 0, 1, 0, 0]) R73x1v := by
  have e : at_ Try.f73 [1, 1, 0, 1, 0, 0] = (.seq (at_ Try.f73 [1, 1, 0, 1, 0, 0, 0]) (.seq (.block 1 (.seq (at_ Try.f73 [1, 1, 0, 1, 0, 0, 1, 0, 0, 0]) (.seq (at_ Try.f73 [1, 1, 0, 1, 0, 0, 1, 0, 0, 1, 0]) (at_ Try.f73 [1, 1, 0, 1, 0, 0, 1, 0, 0, 1, 1])))) (at_ Try.f73 [1, 1, 0, 1, 0, 0, 1, 1]))) := by kernel_rfl
  rw [e]
  exact (.seq (.low (by kernel_rfl)) (.seq (.block 1 (.seq (.low (by kernel_rfl)) (.seq (.low (by kernel_rfl)) (.other _)))) (.other _)))
noncomputable def R73x2t75 : RC := (.seq (.dreg [⟨(some 75), none, (.addo (.tmp 13) 5)⟩, ⟨(some 76), none, (.ld (.tmp 75) 1)⟩, ⟨(some 77), none, (.addo (.tmp 9) 0)⟩, ⟨(some 78), none, (.ld (.tmp 77) 1)⟩, ⟨(some 79), none, (.addo (.tmp 13) 0)⟩, ⟨(some 80), none, (.ld (.tmp 79) 1)⟩, ⟨(some 81), none, (.idx (.tmp 78) (.tmp 80) 1)⟩, ⟨(some 82), none, (.ld (.tmp 81) 1)⟩, ⟨(some 83), none, (.addo (.tmp 13) 2)⟩, ⟨(some 84), none, (.ld (.tmp 83) 1)⟩, ⟨(some 85), none, (.ari .sub (.tmp 82) (.tmp 84))⟩, ⟨(some 86), none, (.addo (.tmp 13) 4)⟩, ⟨(some 87), none, (.ld (.tmp 86) 1)⟩, ⟨(some 88), none, (.addo (.tmp 13) 3)⟩, ⟨(some 89), none, (.ld (.tmp 88) 1)⟩, ⟨(some 90), none, (.ari .mul (.tmp 87) (.tmp 89))⟩, ⟨(some 91), none, (.ari .sub (.tmp 85) (.tmp 90))⟩, ⟨(some 92), none, (.mm false (.const (.int .i64 0)) (.tmp 91))⟩, ⟨(some 93), none, (.mm true (.tmp 76) (.tmp 92))⟩, ⟨(some 14), none, (.mov (.tmp 93))⟩] [524287, 262143, 131068, 65532, 30720, 8192, 0, 2048, 0, 1020, 256, 0, 124, 60, 16, 0, 4, 0, 1, 0])
  (.seq (.dreg [⟨(some 94), none, (.addo (.tmp 9) 0)⟩, ⟨(some 95), none, (.ld (.tmp 94) 1)⟩, ⟨(some 96), none, (.addo (.tmp 13) 0)⟩, ⟨(some 97), none, (.ld (.tmp 96) 1)⟩, ⟨(some 98), none, (.addo (.tmp 9) 0)⟩, ⟨(some 99), none, (.ld (.tmp 98) 1)⟩, ⟨(some 100), none, (.addo (.tmp 13) 0)⟩, ⟨(some 101), none, (.ld (.tmp 100) 1)⟩, ⟨(some 102), none, (.idx (.tmp 99) (.tmp 101) 1)⟩, ⟨(some 103), none, (.ld (.tmp 102) 1)⟩, ⟨(some 104), none, (.mov (.tmp 14))⟩, ⟨(some 105), none, (.ari .sub (.tmp 103) (.tmp 104))⟩, ⟨(some 106), none, (.idx (.tmp 95) (.tmp 97) 1)⟩, ⟨none, none, (.st (.tmp 106) (.tmp 105))⟩] [8191, 4095, 2032, 0, 496, 240, 64, 0, 16, 0, 4, 0, 1, 0])
  (.seq (.reg [⟨(some 107), none, (.addo (.tmp 13) 1)⟩, ⟨(some 108), none, (.ld (.tmp 107) 1)⟩, ⟨(some 109), none, (.cmp .geq (.tmp 108) (.const (.int .i64 0)))⟩])
  (.cond (.tmp 109) (.dreg [⟨(some 110), none, (.addo (.tmp 9) 0)⟩, ⟨(some 111), none, (.ld (.tmp 110) 1)⟩, ⟨(some 112), none, (.addo (.tmp 13) 1)⟩, ⟨(some 113), none, (.ld (.tmp 112) 1)⟩, ⟨(some 114), none, (.addo (.tmp 9) 0)⟩, ⟨(some 115), none, (.ld (.tmp 114) 1)⟩, ⟨(some 116), none, (.addo (.tmp 13) 1)⟩, ⟨(some 117), none, (.ld (.tmp 116) 1)⟩, ⟨(some 118), none, (.idx (.tmp 115) (.tmp 117) 1)⟩, ⟨(some 119), none, (.ld (.tmp 118) 1)⟩, ⟨(some 120), none, (.mov (.tmp 14))⟩, ⟨(some 121), none, (.ari .add (.tmp 119) (.tmp 120))⟩, ⟨(some 122), none, (.idx (.tmp 111) (.tmp 113) 1)⟩, ⟨none, none, (.st (.tmp 122) (.tmp 121))⟩] [8191, 4095, 2032, 0, 496, 240, 64, 0, 16, 0, 4, 0, 1, 0])
  (.reg [⟨(some 123), none, (.addo (.tmp 9) 3)⟩, ⟨(some 124), none, (.ld (.tmp 123) 1)⟩, ⟨(some 125), none, (.mov (.tmp 14))⟩, ⟨(some 126), none, (.ari .add (.tmp 124) (.tmp 125))⟩, ⟨(some 127), none, (.addo (.tmp 9) 3)⟩, ⟨none, none, (.st (.tmp 127) (.tmp 126))⟩])))))
theorem L73x2t75 : low Try.prog 309 (at_ Try.f73 [1, 1, 1, 0, 1, 0, 0, 1, 0, 0, 1]) = some R73x2t75 := by kernel_rfl
noncomputable def R73x2e : RC := (.reg [⟨(some 68), none, (.mov (.tmp 12))⟩, ⟨(some 69), none, (.ari .add (.tmp 68) (.const (.int .i64 1)))⟩, ⟨(some 12), none, (.mov (.tmp 69))⟩])
theorem L73x2e : low Try.prog 309 (at_ Try.f73 [1, 1, 1, 0, 1, 0, 0, 1, 1]) = some R73x2e := by kernel_rfl
noncomputable def R73x2v : RC := (.seq (.seq (.reg [⟨(some 63), none, (.mov (.tmp 12))⟩, ⟨(some 64), none, (.addo (.tmp 4) 1)⟩, ⟨(some 65), none, (.ld (.tmp 64) 1)⟩, ⟨(some 66), none, (.len (.tmp 65))⟩, ⟨(some 67), none, (.cmp .lss (.tmp 63) (.tmp 66))⟩])
  (.cond (.tmp 67) .skip
  (.exit 2)))
  (.seq (.block 3 (.seq (.reg [⟨(some 70), none, (.addo (.tmp 4) 1)⟩, ⟨(some 71), none, (.ld (.tmp 70) 1)⟩, ⟨(some 72), none, (.mov (.tmp 12))⟩, ⟨(some 73), none, (.idx (.tmp 71) (.tmp 72) 6)⟩, ⟨(some 74), none, (.lda (.tmp 73) 6)⟩, ⟨(some 13), none, (.alc 81 [(.int .i64 0), (.int .i64 0), (.int .i64 0), (.int .i64 0), (.int .i64 0), (.int .i64 0)])⟩, ⟨none, none, (.sta (.tmp 13) (.tmp 74) 6)⟩])
  (.other (at_ Try.f73 [1, 1, 1, 0, 1, 0, 0, 1, 0, 0, 1]))))
  (.other (at_ Try.f73 [1, 1, 1, 0, 1, 0, 0, 1, 1]))))
theorem V73x2 : LT Try.prog 309 (at_ Try.f73 [1, 1, 1, 0, 1, 0, 0]) R73x2v := by
  have e : at_ Try.f73 [1, 1, 1, 0, 1, 0, 0] = (.seq (at_ Try.f73 [1, 1, 1, 0, 1, 0, 0, 0]) (.seq (.block 3 (.seq (at_ Try.f73 [1, 1, 1, 0, 1, 0, 0, 1, 0, 0, 0]) (at_ Try.f73 [1, 1, 1, 0, 1, 0, 0, 1, 0, 0, 1]))) (at_ Try.f73 [1, 1, 1, 0, 1, 0, 0, 1, 1]))) := by kernel_rfl
  rw [e]
  exact (.seq (.low (by kernel_rfl)) (.seq (.block 3 (.seq (.low (by kernel_rfl)) (.other _))) (.other _)))

structure Sx where
  b9 : Nat
  wb : Nat
  cap : Nat
def Sx.W (p : Sx) : List Nat := [p.b9, p.wb]
def Sx.cells (p : Sx) (n : Nat) (s : St) (b : Bool) : List Value := [.slice (some ⟨p.wb, 0, none⟩) n p.cap, iv s.came, iv s.seeped, iv s.river, iv s.taken, .bool b]
structure SAt (n lo : Nat) (p : Sx) (H : Hp) (s : St) (b : Bool) : Prop where
  hS : Cl H p.b9 (p.cells n s b)
  hP : Cl H p.wb (ints s.ws)
  lws : s.ws.length = n
  l9 : lo ≤ p.b9
  lP : lo ≤ p.wb
  ne : p.b9 ≠ p.wb
section
variable {n lo : Nat} {p : Sx} {H H1 : Hp} {s : St} {b : Bool}
theorem SAt.keep0 (h : SAt n lo p H s b) (k : Keep H H1 []) : SAt n lo p H1 s b := ⟨k.cl h.hS (by simp), k.cl h.hP (by simp), h.lws, h.l9, h.lP, h.ne⟩
theorem SAt.st9 (h : SAt n lo p H s b) {s' : St} {b' : Bool} (k : Keep H H1 [p.b9]) (c : Cl H1 p.b9 (p.cells n s' b')) (hw : s'.ws = s.ws) : SAt n lo p H1 s' b' :=
  ⟨c, by rw [hw]; exact k.cl h.hP (by have := h.ne; simp; omega), by rw [hw]; exact h.lws, h.l9, h.lP, h.ne⟩
theorem SAt.stP (h : SAt n lo p H s b) {ws : List Int} (k : Keep H H1 [p.wb]) (c : Cl H1 p.wb (ints ws)) (hl : ws.length = s.ws.length) : SAt n lo p H1 { s with ws := ws } b :=
  ⟨k.cl h.hS (by have := h.ne; simp; omega), c, by have := h.lws; simp only; omega, h.l9, h.lP, h.ne⟩
end
structure SE (c : Ch) (ga' : Option Addr) (gcap' : Nat) (gs' : List Gt) (h : Hr) (b4 b6 : Nat) (p : Sx) (F : Hp) : Prop where
  e4 : Rd F b4 [.slice c.pa c.pn c.pcap, .slice ga' c.gn gcap']
  e6 : Rd F b6 h.v
  hp : Sl F c.pa c.pn c.pcap (pdc c.ponds)
  hg : Sl F ga' c.gn gcap' (gtc gs')
  hh : h.At F
  lg : gs'.length = c.gn
  o4 : b4 ∉ p.W
  o6 : b6 ∉ p.W
  op : Off p.W c.pa
  og : Off p.W ga'
  ob : Off p.W h.ba
  oc : Off p.W h.ca
  ot : Off p.W h.ta
theorem SE.keep {c : Ch} {ga' : Option Addr} {gcap' : Nat} {gs' : List Gt} {h : Hr} {b4 b6 : Nat} {p : Sx} {F H : Hp} {w : List Nat} (t : SE c ga' gcap' gs' h b4 b6 p F) (k : Keep F H w) (hw : ∀ b, b ∈ w → b ∈ p.W) : SE c ga' gcap' gs' h b4 b6 p H := by
  have k := k.mono hw
  exact ⟨k.rd t.e4 t.o4, k.rd t.e6 t.o6, k.sl t.hp t.op, k.sl t.hg t.og, ⟨k.sl t.hh.b t.ob, k.sl t.hh.c t.oc, k.sl t.hh.t t.ot, t.hh.lb, t.hh.lc, t.hh.lt⟩, t.lg, t.o4, t.o6, t.op, t.og, t.ob, t.oc, t.ot⟩
section
variable {kn : FuncId → Option Bool} {lo : Nat} {F H : Hp} {c : Ch} {ga' : Option Addr} {gcap' : Nat} {gs' : List Gt} {h : Hr} {b4 b6 b8 : Nat} {p : Sx} {s : St} {b g : Bool}
theorem sd1_tail {S : Rg} {K : Exit → Rg → Hp → Prop} {i n : Nat} {e : Int} (sa : SAt n lo p H s b) (hi : i < n) (q1 : ComeOk s (e, i))
    (hS : Subs [(11, iv e), (10, iv (i : Int)), (9, pt p.b9), (6, pt b6), (4, pt b4), (3, .bool g), (8, pt b8)] S)
    (hK : ∀ S' H', Subs [(10, iv (i : Int)), (9, pt p.b9), (6, pt b6), (4, pt b4), (3, .bool g), (8, pt b8)] S' → SAt n lo p H' (comeS s (e, i)) b → Keep H H' p.W → K .normal S' H') :
    Tri Try.prog kn lo 309 false (at_ Try.f73 [1, 1, 0, 1, 0, 0, 1, 0, 0, 1, 1]) S H K := by
  have cS := sa.hS
  have cP := sa.hP
  have hlw := sa.lws
  refine tri_piece L73x1t47 hS ?_
  refine Exists.intro _ (Exists.intro _ (And.intro cS.of (And.intro (show (p.cells n s b)[0]? = some (.slice (some ⟨p.wb, 0, none⟩) n p.cap) from rfl) (And.intro cS.lt ?_))))
  refine Exists.intro _ (Exists.intro _ (And.intro cS.of (And.intro (show (p.cells n s b)[0]? = some (.slice (some ⟨p.wb, 0, none⟩) n p.cap) from rfl) (And.intro cS.lt ?_))))
  refine Exists.intro i (And.intro rfl (And.intro hi ?_))
  refine Exists.intro _ (Exists.intro _ (And.intro cP.of (And.intro (by rw [Nat.zero_add, Nat.mul_one]; exact ints_get (by omega)) (And.intro cP.lt ?_))))
  refine And.intro q1.1 ?_
  refine Exists.intro i (And.intro rfl (And.intro hi ?_))
  obtain ⟨_, e5', l5, g5⟩ := id cP
  refine Exists.intro _ (Exists.intro _ (Exists.intro _ (And.intro g5 (And.intro sa.lP (And.intro rfl (And.intro rfl (And.intro (by rw [ints_len]; omega) ?_)))))))
  intro H5 hH5
  rw [Nat.zero_add, Nat.mul_one, ints_set] at hH5
  obtain ⟨k5, n5, c5⟩ := up_facts cP hH5; clear hH5
  refine And.intro (by repeat' first | exact True.intro | exact (fun h => h) | refine And.intro ?_ ?_) ?_
  have sa5 := sa.stP k5 c5 (by simp)
  have cS := sa5.hS
  refine Exists.intro _ (Exists.intro _ (And.intro cS.of (And.intro (show _ = some (iv s.came) from rfl) ?_)))
  refine And.intro q1.2 ?_
  obtain ⟨_, e6', l6, g6⟩ := id cS
  refine Exists.intro _ (Exists.intro _ (Exists.intro _ (And.intro g6 (And.intro sa.l9 (And.intro rfl (And.intro rfl (And.intro (by simp [Sx.cells]) ?_)))))))
  intro H6 hH6
  obtain ⟨k6, n6, c6⟩ := up_facts cS hH6; clear hH6
  exact hK _ H6 ⟨rfl, rfl, rfl, rfl, rfl, rfl, trivial⟩ (sa5.st9 (s' := comeS s (e, i)) k6 c6 rfl) ((k5.mono (by simp [Sx.W])).trans (k6.mono (by simp [Sx.W])))
theorem sd_comes {S : Rg} {K : Exit → Rg → Hp → Prop} (se : SE c ga' gcap' gs' h b4 b6 p F) (sa : SAt c.pn lo p F s b) (h16 : c.pn ≤ 16) (hcn : h.cn = c.pn)
    {M B : Int} (gd : Good c.pn M B s) (hM : M ≤ 1099511627776) (hB : B ≤ 1152921504606846976) (hv : ∀ x ∈ h.cs, 0 ≤ x.1 ∧ x.1 ≤ x.2 ∧ x.2 ≤ 68719476736)
    (hS : Subs [(10, iv ((0 : Nat) : Int)), (9, pt p.b9), (6, pt b6), (4, pt b4), (3, .bool g), (8, pt b8)] S)
    (hK : ∀ v27 v28 v29 v30 v31 H', SAt c.pn lo p H' ((endS g h.cs).zipIdx.foldl comeS s) b → Good c.pn (M + c.pn * 68719476736) (B + c.pn * 68719476736) ((endS g h.cs).zipIdx.foldl comeS s) → Keep F H' p.W → K (.exit 0) [(31, v31), (30, v30), (29, v29), (28, v28), (27, v27), (10, iv (c.pn : Int)), (9, pt p.b9), (6, pt b6), (4, pt b4), (3, .bool g), (8, pt b8)] H') :
    Tri Try.prog kn lo 309 false (at_ Try.f73 [1, 1, 0, 1, 0]) S F K := by
  have hlc := se.hh.lc
  refine loop_lt E73_1 V73x1 (fun i : Nat => [(10, iv (i : Int)), (9, pt p.b9), (6, pt b6), (4, pt b4), (3, .bool g), (8, pt b8)])
    (fun k i H1 => i + k = c.pn ∧ SAt c.pn lo p H1 (((endS g h.cs).zipIdx.take i).foldl comeS s) b ∧ Good c.pn (M + i * 68719476736) (B + i * 68719476736) (((endS g h.cs).zipIdx.take i).foldl comeS s) ∧ Keep F H1 p.W) c.pn 0 ⟨by omega, by simpa using sa, by simpa using gd, Keep.refl _ _⟩ hS ?_
  rintro k i H1 ⟨hik, sa1, gd1, hk⟩
  have se1 := se.keep hk (fun _ h => h)
  have cS := sa1.hS
  refine Exists.intro _ (Exists.intro _ (And.intro cS.of (And.intro (show (p.cells c.pn _ b)[0]? = some (.slice (some ⟨p.wb, 0, none⟩) c.pn p.cap) from rfl) ?_)))
  refine And.intro (fun hlt => ?_) (fun hge => ?_)
  · have hi : i < c.pn := by simpa using hlt
    have hca := se1.hh.c
    rcases hca with ⟨_, h0, _⟩ | ⟨cb, eca, hr, _⟩
    · omega
    obtain ⟨x, hx⟩ := get_some (l := h.cs) (i := i) (by omega)
    obtain ⟨g0, g1⟩ := spc_get hx
    have z1 : (endS g h.cs).zipIdx[i]? = some (endV g x.1 x.2, i) := zip_get (by simp [endS, hx])
    have hxv := hv x (List.mem_of_getElem? hx)
    have hev : 0 ≤ endV g x.1 x.2 ∧ endV g x.1 x.2 ≤ 68719476736 := by unfold endV; split <;> omega
    obtain ⟨q1, q2⟩ := come_good gd1 (i := i) hev.1 hev.2 hi (by omega) (by omega)
    have e6 := se1.e6
    refine Exists.intro _ (Exists.intro _ (And.intro e6.of (And.intro (show _ = some (.slice h.ca h.cn h.ccap) from rfl) ?_)))
    rw [eca]
    refine Exists.intro i (And.intro rfl (And.intro (by omega) ?_))
    refine Exists.intro _ (Exists.intro _ (And.intro hr.of (And.intro g0 ?_)))
    cases g
    · refine condF ?_
      refine sd1_tail (b4 := b4) (b6 := b6) (b8 := b8) (g := false) (e := endV false x.1 x.2) (i := i) sa1 hi q1 ⟨rfl, rfl, rfl, rfl, rfl, rfl, rfl, trivial⟩ ?_
      intro S' H' hS' sa' k'
      refine tri_piece L73x1e hS' ?_
      refine And.intro ⟨by omega, by omega⟩ ?_
      refine ⟨k - 1, i + 1, by omega, ⟨by omega, ?_, ?_, hk.trans k'⟩, rfl, rfl, rfl, rfl, rfl, rfl, trivial⟩
      · rw [take_step z1]; exact sa'
      · rw [take_step z1]
        have e1 : ((i + 1 : Nat) : Int) * 68719476736 = i * 68719476736 + 68719476736 := by rw [Int.natCast_add, Int.add_mul]; simp
        rw [e1, ← Int.add_assoc, ← Int.add_assoc]
        exact q2
    · refine condT ?_
      refine Exists.intro _ (Exists.intro _ (And.intro e6.of (And.intro (show _ = some (.slice h.ca h.cn h.ccap) from rfl) ?_)))
      rw [eca]
      refine Exists.intro i (And.intro rfl (And.intro (by omega) ?_))
      refine Exists.intro _ (Exists.intro _ (And.intro hr.of (And.intro g1 ?_)))
      refine sd1_tail (b4 := b4) (b6 := b6) (b8 := b8) (g := true) (e := endV true x.1 x.2) (i := i) sa1 hi q1 ⟨rfl, rfl, rfl, rfl, rfl, rfl, rfl, trivial⟩ ?_
      intro S' H' hS' sa' k'
      refine tri_piece L73x1e hS' ?_
      refine And.intro ⟨by omega, by omega⟩ ?_
      refine ⟨k - 1, i + 1, by omega, ⟨by omega, ?_, ?_, hk.trans k'⟩, rfl, rfl, rfl, rfl, rfl, rfl, trivial⟩
      · rw [take_step z1]; exact sa'
      · rw [take_step z1]
        have e1 : ((i + 1 : Nat) : Int) * 68719476736 = i * 68719476736 + 68719476736 := by rw [Int.natCast_add, Int.add_mul]; simp
        rw [e1, ← Int.add_assoc, ← Int.add_assoc]
        exact q2
  · have hi : ¬ i < c.pn := by simpa using hge
    have hin : i = c.pn := by omega
    subst hin
    rw [List.take_of_length_le (by simp [endS]; omega)] at sa1 gd1
    exact hK _ _ _ _ _ _ sa1 gd1 hk
/-- from the takes on, whether each got all -/
def allS : List Tk → St → Bool
  | [], _ => true
  | t :: r, s => (takeL s.ws t == t.amount) && allS r (takeS s t)
theorem allS_step {t : Tk} : ∀ {l : List Tk} {i : Nat} (s : St), l[i]? = some t → allS (l.take (i + 1)) s = (allS (l.take i) s && (takeL ((l.take i).foldl takeS s).ws t == t.amount))
  | [], i, s, h => by simp at h
  | x :: l, 0, s, h => by simp at h; subst h; simp [allS]
  | x :: l, i + 1, s, h => by
    have := allS_step (l := l) (i := i) (takeS s x) (by simpa using h)
    simp only [List.take_succ_cons, allS, this, List.foldl_cons, Bool.and_assoc]
end
end Go.Ax
namespace Go.Ax
open Go Go.RowKit Go.Proofs
section
variable {P : Program} {kn : FuncId → Option Bool} {lo n : Nat} {rd : Bool} {masks : List Nat} {r : List RO} {ks : List Kd} {S : Rg} {H : Hp} {K : Rg → Hp → Prop} {d : Option Nat} {x y : Operand}
theorem wD_mm {small : Bool} {a b : Int} (hx : evS S x = some (.int .i64 a)) (hy : evS S y = some (.int .i64 b)) (h : wDraw P kn lo n masks r (.pure :: ks) (putS S d (.int .i64 (bif small then min a b else max a b))) H K) : wDraw P kn lo n masks (⟨d, none, .mm small x y⟩ :: r) ks S H K := by
  simp only [wDraw, wRO, wRI, hx, hy]; exact h
theorem wD_st {b o : Nat} {cs : List Value} {v : Value} (hx : evS S x = some (.pointer (some ⟨b, o, none⟩))) (hy : evS S y = some v) (hc : Cl H b cs) (hl : lo ≤ b) (hv : v.cells.toList = [v]) (h1 : one v = true) (ho : o < cs.length)
    (h : ∀ H1, Keep H H1 [b] → H1.next = H.next → Cl H1 b (cs.set o v) → wDraw P kn lo n masks r (.store b :: ks) (putS S d undef) H1 K) : wDraw P kn lo n masks (⟨d, none, .st x y⟩ :: r) ks S H K := by
  simp only [wDraw, wRO, wRI, hx, hy]
  obtain ⟨_, e, l, g⟩ := id hc
  exact ⟨cs, e, l, g, hl, hv, h1, ho, fun H1 hH1 => by obtain ⟨a, b, c⟩ := up_facts hc hH1; exact h H1 a b c⟩
theorem wD_dreg {ops : List RO} {K : Exit → Rg → Hp → Prop} (h : wDraw P kn lo n masks ops [] S H fun S' H' => K .normal S' H') : wC P kn lo n rd (.dreg ops masks) S H K := h
end
section
variable {kn : FuncId → Option Bool} {lo : Nat} {F H : Hp} {c : Ch} {ga' : Option Addr} {gcap' : Nat} {gs' : List Gt} {h : Hr} {b4 b6 b8 : Nat} {p : Sx} {s : St} {b g : Bool}
theorem sd2_tail {S : Rg} {K : Exit → Rg → Hp → Prop} {i n B : Nat} {x : Gt} (sa : SAt n lo p H s b) (hB : Cl H B x.v) (hBW : B ∉ p.W) (h1 : 0 ≤ x.fr) (h2 : x.fr < n) (ht : x.to = -1 ∨ 0 ≤ x.to ∧ x.to < n) (q1 : FlowOk s x)
    (i1 : InR (s.ws.getD x.fr.toNat 0 - x.sill)) (i2 : InR (s.ws.getD x.fr.toNat 0 - x.sill - x.boards * x.step))
    (hS : Subs [(13, pt B), (12, iv (i : Int)), (9, pt p.b9), (6, pt b6), (4, pt b4), (3, .bool g), (8, pt b8)] S)
    (hK : ∀ S' H', Subs [(12, iv (i : Int)), (9, pt p.b9), (6, pt b6), (4, pt b4), (3, .bool g), (8, pt b8)] S' → SAt n lo p H' (flowS s x) b → Keep H H' p.W → K .normal S' H') :
    Tri Try.prog kn lo 309 false (at_ Try.f73 [1, 1, 1, 0, 1, 0, 0, 1, 0, 0, 1]) S H K := by
  have cS := sa.hS
  have cP := sa.hP
  have hlw := sa.lws
  have n9 : B ≠ p.b9 := fun e => hBW (by simp [Sx.W, e])
  have nw : B ≠ p.wb := fun e => hBW (by simp [Sx.W, e])
  have hB : Cl H B [iv x.fr, iv x.to, iv x.sill, iv x.step, iv x.boards, iv x.most] := hB
  have hx2 : x.fr.toNat < n := by omega
  have hl : min (x.most) (max (0) (((s.ws.getD x.fr.toNat 0) - (x.sill)) - (x.boards * (x.step)))) = flowL s.ws x := by unfold flowL; omega
  have i3 : InR (s.ws.getD x.fr.toNat 0 - (min (x.most) (max (0) (((s.ws.getD x.fr.toNat 0) - (x.sill)) - (x.boards * (x.step)))))) := by rw [hl]; exact q1.2.2.2.1
  refine tri_piece L73x2t75 hS ?_
  refine wD_seq ?_
  refine wD_addo (b := B) (o := 0) rfl ?_
  refine wD_ld (b := B) (o := 0 + 5) (v := iv (x.most)) rfl hB.rd rfl ?_
  refine wD_addo (b := p.b9) (o := 0) rfl ?_
  refine wD_ld (b := p.b9) (o := 0 + 0) (v := .slice (some ⟨p.wb, 0, none⟩) n p.cap) rfl cS.rd rfl ?_
  refine wD_addo (b := B) (o := 0) rfl ?_
  refine wD_ld (b := B) (o := 0 + 0) (v := iv (x.fr)) rfl hB.rd rfl ?_
  refine wD_idx (b := p.wb) (o := 0) (k := x.fr.toNat) (j := x.fr) rfl rfl (by omega) hx2 ?_
  refine wD_ld (b := p.wb) (o := 0 + x.fr.toNat * 1) (v := iv (s.ws.getD x.fr.toNat 0)) rfl cP.rd (by rw [Nat.zero_add, Nat.mul_one]; exact ints_get (by first | omega | (simp only [List.length_set]; omega))) ?_
  refine wD_addo (b := B) (o := 0) rfl ?_
  refine wD_ld (b := B) (o := 0 + 2) (v := iv (x.sill)) rfl hB.rd rfl ?_
  refine wD_sub (a := s.ws.getD x.fr.toNat 0) (b := x.sill) rfl rfl i1 ?_
  refine wD_addo (b := B) (o := 0) rfl ?_
  refine wD_ld (b := B) (o := 0 + 4) (v := iv (x.boards)) rfl hB.rd rfl ?_
  refine wD_addo (b := B) (o := 0) rfl ?_
  refine wD_ld (b := B) (o := 0 + 3) (v := iv (x.step)) rfl hB.rd rfl ?_
  refine wD_mul (a := x.boards) (b := x.step) rfl rfl q1.1 ?_
  refine wD_sub (a := (s.ws.getD x.fr.toNat 0) - (x.sill)) (b := x.boards * (x.step)) rfl rfl i2 ?_
  refine wD_mm (a := 0) (b := ((s.ws.getD x.fr.toNat 0) - (x.sill)) - (x.boards * (x.step))) rfl rfl ?_
  refine wD_mm (a := x.most) (b := max (0) (((s.ws.getD x.fr.toNat 0) - (x.sill)) - (x.boards * (x.step)))) rfl rfl ?_
  refine wD_mov (v := iv (min (x.most) (max (0) (((s.ws.getD x.fr.toNat 0) - (x.sill)) - (x.boards * (x.step)))))) rfl ?_
  refine wD_end trivial ?_
  refine wD_seq ?_
  refine wD_addo (b := p.b9) (o := 0) rfl ?_
  refine wD_ld (b := p.b9) (o := 0 + 0) (v := .slice (some ⟨p.wb, 0, none⟩) n p.cap) rfl cS.rd rfl ?_
  refine wD_addo (b := B) (o := 0) rfl ?_
  refine wD_ld (b := B) (o := 0 + 0) (v := iv (x.fr)) rfl hB.rd rfl ?_
  refine wD_addo (b := p.b9) (o := 0) rfl ?_
  refine wD_ld (b := p.b9) (o := 0 + 0) (v := .slice (some ⟨p.wb, 0, none⟩) n p.cap) rfl cS.rd rfl ?_
  refine wD_addo (b := B) (o := 0) rfl ?_
  refine wD_ld (b := B) (o := 0 + 0) (v := iv (x.fr)) rfl hB.rd rfl ?_
  refine wD_idx (b := p.wb) (o := 0) (k := x.fr.toNat) (j := x.fr) rfl rfl (by omega) hx2 ?_
  refine wD_ld (b := p.wb) (o := 0 + x.fr.toNat * 1) (v := iv (s.ws.getD x.fr.toNat 0)) rfl cP.rd (by rw [Nat.zero_add, Nat.mul_one]; exact ints_get (by first | omega | (simp only [List.length_set]; omega))) ?_
  refine wD_mov (v := iv (min (x.most) (max (0) (((s.ws.getD x.fr.toNat 0) - (x.sill)) - (x.boards * (x.step)))))) rfl ?_
  refine wD_sub (a := s.ws.getD x.fr.toNat 0) (b := min (x.most) (max (0) (((s.ws.getD x.fr.toNat 0) - (x.sill)) - (x.boards * (x.step))))) rfl rfl i3 ?_
  refine wD_idx (b := p.wb) (o := 0) (k := x.fr.toNat) (j := x.fr) rfl rfl (by omega) hx2 ?_
  refine wD_st (b := p.wb) (o := 0 + x.fr.toNat * 1) (v := iv (s.ws.getD x.fr.toNat 0 - (min (x.most) (max (0) (((s.ws.getD x.fr.toNat 0) - (x.sill)) - (x.boards * (x.step))))))) rfl rfl cP sa.lP rfl rfl (by rw [ints_len]; omega) ?_
  intro H5 k5 n5 c5
  rw [Nat.zero_add, Nat.mul_one, hl, ints_set] at c5
  refine wD_end (end_store (by rfl) (by simp only [List.length_cons, List.length_nil, Nat.reduceAdd, Nat.reducePow, Nat.reduceSub])) ?_
  have sa5 := sa.stP k5 c5 (by simp)
  have cS := sa5.hS
  have cP := sa5.hP
  have hB := k5.cl hB (by simp; omega)
  refine Exists.intro _ (Exists.intro _ (And.intro hB.of (And.intro rfl ?_)))
  refine And.intro (fun hb => ?_) (fun hb => ?_)
  · have h0 : 0 ≤ x.to := by simpa using hb
    have hto : x.to ≠ -1 := by omega
    have hx3 : x.to.toNat < n := by omega
    have i4 : InR ((s.ws.set x.fr.toNat (s.ws.getD x.fr.toNat 0 - flowL s.ws x)).getD x.to.toNat 0 + (min (x.most) (max (0) (((s.ws.getD x.fr.toNat 0) - (x.sill)) - (x.boards * (x.step)))))) := by rw [hl]; exact q1.2.2.2.2.2
    refine wD_dreg ?_
    refine wD_addo (b := p.b9) (o := 0) rfl ?_
    refine wD_ld (b := p.b9) (o := 0 + 0) (v := .slice (some ⟨p.wb, 0, none⟩) n p.cap) rfl cS.rd rfl ?_
    refine wD_addo (b := B) (o := 0) rfl ?_
    refine wD_ld (b := B) (o := 0 + 1) (v := iv (x.to)) rfl hB.rd rfl ?_
    refine wD_addo (b := p.b9) (o := 0) rfl ?_
    refine wD_ld (b := p.b9) (o := 0 + 0) (v := .slice (some ⟨p.wb, 0, none⟩) n p.cap) rfl cS.rd rfl ?_
    refine wD_addo (b := B) (o := 0) rfl ?_
    refine wD_ld (b := B) (o := 0 + 1) (v := iv (x.to)) rfl hB.rd rfl ?_
    refine wD_idx (b := p.wb) (o := 0) (k := x.to.toNat) (j := x.to) rfl rfl (by omega) hx3 ?_
    refine wD_ld (b := p.wb) (o := 0 + x.to.toNat * 1) (v := iv ((s.ws.set x.fr.toNat (s.ws.getD x.fr.toNat 0 - flowL s.ws x)).getD x.to.toNat 0)) rfl cP.rd (by rw [Nat.zero_add, Nat.mul_one]; exact ints_get (by first | omega | (simp only [List.length_set]; omega))) ?_
    refine wD_mov (v := iv (min (x.most) (max (0) (((s.ws.getD x.fr.toNat 0) - (x.sill)) - (x.boards * (x.step)))))) rfl ?_
    refine wD_add (a := (s.ws.set x.fr.toNat (s.ws.getD x.fr.toNat 0 - flowL s.ws x)).getD x.to.toNat 0) (b := min (x.most) (max (0) (((s.ws.getD x.fr.toNat 0) - (x.sill)) - (x.boards * (x.step))))) rfl rfl i4 ?_
    refine wD_idx (b := p.wb) (o := 0) (k := x.to.toNat) (j := x.to) rfl rfl (by omega) hx3 ?_
    refine wD_st (b := p.wb) (o := 0 + x.to.toNat * 1) (v := iv ((s.ws.set x.fr.toNat (s.ws.getD x.fr.toNat 0 - flowL s.ws x)).getD x.to.toNat 0 + (min (x.most) (max (0) (((s.ws.getD x.fr.toNat 0) - (x.sill)) - (x.boards * (x.step))))))) rfl rfl cP sa.lP rfl rfl (by simp only [ints_len, List.length_set]; omega) ?_
    intro H6 k6 n6 c6
    rw [Nat.zero_add, Nat.mul_one, hl, ints_set] at c6
    refine wD_end (end_store (by rfl) (by simp only [List.length_cons, List.length_nil, Nat.reduceAdd, Nat.reducePow, Nat.reduceSub])) ?_
    have sa6 := sa5.stP k6 c6 (by simp)
    refine hK _ H6 ⟨rfl, rfl, rfl, rfl, rfl, rfl, trivial⟩ ?_ ((k5.mono (by simp [Sx.W])).trans (k6.mono (by simp [Sx.W])))
    have e : flowS s x = { s with ws := (s.ws.set x.fr.toNat (s.ws.getD x.fr.toNat 0 - flowL s.ws x)).set x.to.toNat ((s.ws.set x.fr.toNat (s.ws.getD x.fr.toNat 0 - flowL s.ws x)).getD x.to.toNat 0 + flowL s.ws x) } := by unfold flowS moveW moveR; simp only [if_neg hto]
    rw [e]; exact sa6
  · have h0 : ¬ 0 ≤ x.to := by simpa using hb
    have hto : x.to = -1 := by omega
    refine Exists.intro _ (Exists.intro _ (And.intro cS.of (And.intro (show _ = some (iv s.river) from rfl) ?_)))
    refine And.intro (show InR (s.river + min (x.most) (max (0) (((s.ws.getD x.fr.toNat 0) - (x.sill)) - (x.boards * (x.step))))) by rw [hl]; exact q1.2.2.2.2.1) ?_
    obtain ⟨_, e6', l6, g6⟩ := id cS
    refine Exists.intro _ (Exists.intro _ (Exists.intro _ (And.intro g6 (And.intro sa.l9 (And.intro rfl (And.intro rfl (And.intro (by simp [Sx.cells]) ?_)))))))
    intro H6 hH6
    obtain ⟨k6, n6, c6⟩ := up_facts cS hH6; clear hH6
    have e : flowS s x = { s with ws := s.ws.set x.fr.toNat (s.ws.getD x.fr.toNat 0 - flowL s.ws x), river := s.river + flowL s.ws x } := by unfold flowS moveW moveR; simp only [if_pos hto]
    have c6 : Cl H6 p.b9 (p.cells n (flowS s x) b) := by
      rw [e]; rw [← hl]; exact c6
    refine hK _ H6 ⟨rfl, rfl, rfl, rfl, rfl, rfl, trivial⟩ (sa5.st9 k6 c6 (by rw [e])) ((k5.mono (by simp [Sx.W])).trans (k6.mono (by simp [Sx.W])))
theorem sd_gates {S : Rg} {K : Exit → Rg → Hp → Prop} (se : SE c ga' gcap' gs' h b4 b6 p F) (sa : SAt c.pn lo p F s b) (hlo : lo ≤ F.next) (h16 : c.pn ≤ 16) (h32 : c.gn ≤ 32) (hv : gs'.all (fun g => gateB g c.pn) = true) {M B : Int} (gd : Good c.pn M B s) (hM : M ≤ 4398046511104) (hB : B ≤ 4611686018427387904)
    (hS : Subs [(12, iv ((0 : Nat) : Int)), (9, pt p.b9), (6, pt b6), (4, pt b4), (3, .bool g), (8, pt b8)] S)
    (hK : ∀ v63 v64 v65 v66 v67 H', SAt c.pn lo p H' (gs'.foldl flowS s) b → Good c.pn M B (gs'.foldl flowS s) → Keep F H' p.W → K (.exit 2) [(67, v67), (66, v66), (65, v65), (64, v64), (63, v63), (12, iv (c.gn : Int)), (9, pt p.b9), (6, pt b6), (4, pt b4), (3, .bool g), (8, pt b8)] H') :
    Tri Try.prog kn lo 309 false (at_ Try.f73 [1, 1, 1, 0, 1, 0]) S F K := by
  have hlg := se.lg
  refine loop_lt E73_2 V73x2 (fun i : Nat => [(12, iv (i : Int)), (9, pt p.b9), (6, pt b6), (4, pt b4), (3, .bool g), (8, pt b8)])
    (fun k i H1 => i + k = c.gn ∧ SAt c.pn lo p H1 ((gs'.take i).foldl flowS s) b ∧ Good c.pn M B ((gs'.take i).foldl flowS s) ∧ Keep F H1 p.W) c.gn 0 ⟨by omega, by simpa using sa, by simpa using gd, Keep.refl _ _⟩ hS ?_
  rintro k i H1 ⟨hik, sa1, gd1, hk⟩
  have se1 := se.keep hk (fun _ h => h)
  have e4 := se1.e4
  have hkn := hk.1
  refine Exists.intro _ (Exists.intro _ (And.intro e4.of (And.intro (show _ = some (.slice ga' c.gn gcap') from rfl) ?_)))
  refine And.intro (fun hlt => ?_) (fun hge => ?_)
  · have hi : i < c.gn := by simpa using hlt
    have hg1 := se1.hg
    rcases hg1 with ⟨_, h0, _⟩ | ⟨gb, ega, hr, _⟩
    · omega
    obtain ⟨x, hx⟩ := get_some (l := gs') (i := i) (by omega)
    have hv1 := List.all_eq_true.1 hv x (List.mem_of_getElem? hx)
    obtain ⟨q1, q2⟩ := flow_good gd1 hv1 hM hB
    simp [gateB, indexB, waterB, boardsB] at hv1
    obtain ⟨⟨⟨⟨⟨⟨f1, f2⟩, ht⟩, a1, a2⟩, d1, d2⟩, m1, m2⟩, o1, o2⟩ := hv1
    have hbs : 0 ≤ x.boards * x.step := Int.mul_nonneg o1 d1
    have hbs2 : x.boards * x.step ≤ 16 * 68719476736 := Int.mul_le_mul o2 d2 d1 (by omega)
    have hg := gd1.get x.fr.toNat
    refine Exists.intro _ (Exists.intro _ (And.intro e4.of (And.intro (show _ = some (.slice ga' c.gn gcap') from rfl) ?_)))
    rw [ega]
    refine Exists.intro i (And.intro rfl (And.intro hi ?_))
    refine Exists.intro _ (Exists.intro _ (And.intro hr.of (And.intro (row_flat (f := Gt.v) (fun _ _ => rfl) hx) ?_)))
    intro H2 hH2; obtain ⟨k2, n2, c2⟩ := new_facts hH2; clear hH2
    obtain ⟨_, e2, l2, g2⟩ := id c2
    refine Exists.intro _ (Exists.intro _ (Exists.intro _ (And.intro g2 (And.intro (by omega) (And.intro rfl (And.intro rfl (And.intro (by simp) ?_)))))))
    intro H3 hH3; obtain ⟨k3, n3, c3⟩ := up_facts c2 hH3; clear hH3
    have c3 : Cl H3 H1.next x.v := c3
    have k13 : Keep H1 H3 [] := k2.new k3 (by simp)
    have sa3 := sa1.keep0 k13
    have hw1 := sa1.hP.lt; have hw2 := sa1.hS.lt
    refine sd2_tail (b4 := b4) (b6 := b6) (b8 := b8) (g := g) (x := x) (i := i) (B := H1.next) sa3 c3 (by simp [Sx.W]; omega) (by omega) (by omega) (by omega) q1 ⟨by omega, by omega⟩ ⟨by omega, by omega⟩ ⟨rfl, rfl, rfl, rfl, rfl, rfl, rfl, trivial⟩ ?_
    intro S' H' hS' sa' k'
    refine tri_piece L73x2e hS' ?_
    refine And.intro ⟨by omega, by omega⟩ ?_
    refine ⟨k - 1, i + 1, by omega, ⟨by omega, ?_, ?_, (hk.trans (k13.mono (by simp))).trans k'⟩, rfl, rfl, rfl, rfl, rfl, rfl, trivial⟩
    · rw [take_step hx]; exact sa'
    · rw [take_step hx]; exact q2
  · have hi : ¬ i < c.gn := by simpa using hge
    have hin : i = c.gn := by omega
    subst hin
    rw [List.take_of_length_le (by omega)] at sa1 gd1
    exact hK _ _ _ _ _ _ sa1 gd1 hk
end
noncomputable def R73x3t158 : RC := (.seq (.dreg [⟨(some 158), none, (.addo (.tmp 9) 0)⟩, ⟨(some 159), none, (.ld (.tmp 158) 1)⟩, ⟨(some 160), none, (.addo (.tmp 16) 0)⟩, ⟨(some 161), none, (.ld (.tmp 160) 1)⟩, ⟨(some 162), none, (.addo (.tmp 9) 0)⟩, ⟨(some 163), none, (.ld (.tmp 162) 1)⟩, ⟨(some 164), none, (.addo (.tmp 16) 0)⟩, ⟨(some 165), none, (.ld (.tmp 164) 1)⟩, ⟨(some 166), none, (.idx (.tmp 163) (.tmp 165) 1)⟩, ⟨(some 167), none, (.ld (.tmp 166) 1)⟩, ⟨(some 168), none, (.mov (.tmp 17))⟩, ⟨(some 169), none, (.ari .sub (.tmp 167) (.tmp 168))⟩, ⟨(some 170), none, (.idx (.tmp 159) (.tmp 161) 1)⟩, ⟨none, none, (.st (.tmp 170) (.tmp 169))⟩] [8191, 4095, 2032, 0, 496, 240, 64, 0, 16, 0, 4, 0, 1, 0])
  (.reg [⟨(some 171), none, (.addo (.tmp 9) 4)⟩, ⟨(some 172), none, (.ld (.tmp 171) 1)⟩, ⟨(some 173), none, (.mov (.tmp 17))⟩, ⟨(some 174), none, (.ari .add (.tmp 172) (.tmp 173))⟩, ⟨(some 175), none, (.addo (.tmp 9) 4)⟩, ⟨none, none, (.st (.tmp 175) (.tmp 174))⟩]))
theorem L73x3t158 : low Try.prog 309 (at_ Try.f73 [1, 1, 1, 1, 0, 1, 0, 0, 1, 0, 0, 1, 1, 1]) = some R73x3t158 := by kernel_rfl
noncomputable def R73x3e : RC := (.reg [⟨(some 133), none, (.mov (.tmp 15))⟩, ⟨(some 134), none, (.ari .add (.tmp 133) (.const (.int .i64 1)))⟩, ⟨(some 15), none, (.mov (.tmp 134))⟩])
theorem L73x3e : low Try.prog 309 (at_ Try.f73 [1, 1, 1, 1, 0, 1, 0, 0, 1, 1]) = some R73x3e := by kernel_rfl
noncomputable def R73x3v : RC := (.seq (.seq (.reg [⟨(some 128), none, (.mov (.tmp 15))⟩, ⟨(some 129), none, (.addo (.tmp 6) 2)⟩, ⟨(some 130), none, (.ld (.tmp 129) 1)⟩, ⟨(some 131), none, (.len (.tmp 130))⟩, ⟨(some 132), none, (.cmp .lss (.tmp 128) (.tmp 131))⟩])
  (.cond (.tmp 132) .skip
  (.exit 4)))
  (.seq (.block 5 (.seq (.reg [⟨(some 135), none, (.addo (.tmp 6) 2)⟩, ⟨(some 136), none, (.ld (.tmp 135) 1)⟩, ⟨(some 137), none, (.mov (.tmp 15))⟩, ⟨(some 138), none, (.idx (.tmp 136) (.tmp 137) 2)⟩, ⟨(some 139), none, (.lda (.tmp 138) 2)⟩, ⟨(some 16), none, (.alc 86 [(.int .i64 0), (.int .i64 0)])⟩, ⟨none, none, (.sta (.tmp 16) (.tmp 139) 2)⟩])
  (.seq (.dreg [⟨(some 140), none, (.addo (.tmp 16) 1)⟩, ⟨(some 141), none, (.ld (.tmp 140) 1)⟩, ⟨(some 142), none, (.addo (.tmp 9) 0)⟩, ⟨(some 143), none, (.ld (.tmp 142) 1)⟩, ⟨(some 144), none, (.addo (.tmp 16) 0)⟩, ⟨(some 145), none, (.ld (.tmp 144) 1)⟩, ⟨(some 146), none, (.idx (.tmp 143) (.tmp 145) 1)⟩, ⟨(some 147), none, (.ld (.tmp 146) 1)⟩, ⟨(some 148), none, (.mm true (.tmp 141) (.tmp 147))⟩, ⟨(some 17), none, (.mov (.tmp 148))⟩] [511, 255, 124, 60, 16, 0, 4, 0, 1, 0])
  (.seq (.reg [⟨(some 149), none, (.addo (.tmp 9) 5)⟩, ⟨(some 150), none, (.ld (.tmp 149) 1)⟩, ⟨(some 151), none, (.mov (.tmp 150))⟩, ⟨(some 152), (some (151, true)), (.mov (.tmp 17))⟩, ⟨(some 153), (some (151, true)), (.addo (.tmp 16) 1)⟩, ⟨(some 154), (some (151, true)), (.ld (.tmp 153) 1)⟩, ⟨(some 155), (some (151, true)), (.cmpb .eql (.tmp 152) (.tmp 154))⟩, ⟨(some 156), none, (.pur ⟨(some 156), (.pick (.tmp 151) (.tmp 155) (.const (.bool false))), 4, "", (List.toArray []), none⟩)⟩, ⟨(some 157), none, (.addo (.tmp 9) 5)⟩, ⟨none, none, (.st (.tmp 157) (.tmp 156))⟩])
  (.other (at_ Try.f73 [1, 1, 1, 1, 0, 1, 0, 0, 1, 0, 0, 1, 1, 1]))))))
  (.other (at_ Try.f73 [1, 1, 1, 1, 0, 1, 0, 0, 1, 1]))))
theorem V73x3 : LT Try.prog 309 (at_ Try.f73 [1, 1, 1, 1, 0, 1, 0, 0]) R73x3v := by
  have e : at_ Try.f73 [1, 1, 1, 1, 0, 1, 0, 0] = (.seq (at_ Try.f73 [1, 1, 1, 1, 0, 1, 0, 0, 0]) (.seq (.block 5 (.seq (at_ Try.f73 [1, 1, 1, 1, 0, 1, 0, 0, 1, 0, 0, 0]) (.seq (at_ Try.f73 [1, 1, 1, 1, 0, 1, 0, 0, 1, 0, 0, 1, 0]) (.seq (at_ Try.f73 [1, 1, 1, 1, 0, 1, 0, 0, 1, 0, 0, 1, 1, 0]) (at_ Try.f73 [1, 1, 1, 1, 0, 1, 0, 0, 1, 0, 0, 1, 1, 1]))))) (at_ Try.f73 [1, 1, 1, 1, 0, 1, 0, 0, 1, 1]))) := by kernel_rfl
  rw [e]
  exact (.seq (.low (by kernel_rfl)) (.seq (.block 5 (.seq (.low (by kernel_rfl)) (.seq (.low (by kernel_rfl)) (.seq (.low (by kernel_rfl)) (.other _))))) (.other _)))
section
variable {kn : FuncId → Option Bool} {lo : Nat} {F H : Hp} {c : Ch} {ga' : Option Addr} {gcap' : Nat} {gs' : List Gt} {h : Hr} {b4 b6 b8 : Nat} {p : Sx} {s : St} {b g : Bool}
theorem sd3_tail {S : Rg} {K : Exit → Rg → Hp → Prop} {i n B : Nat} {x : Tk} (sa : SAt n lo p H s b) (hB : Cl H B [iv x.pond, iv x.amount]) (hBW : B ∉ p.W) (h1 : 0 ≤ x.pond) (h2 : x.pond < n) (q1 : TakeOk s x)
    (hS : Subs [(17, iv (takeL s.ws x)), (16, pt B), (15, iv (i : Int)), (9, pt p.b9), (6, pt b6), (4, pt b4), (3, .bool g), (8, pt b8)] S)
    (hK : ∀ S' H', Subs [(15, iv (i : Int)), (9, pt p.b9), (6, pt b6), (4, pt b4), (3, .bool g), (8, pt b8)] S' → SAt n lo p H' (takeS s x) b → Keep H H' p.W → K .normal S' H') :
    Tri Try.prog kn lo 309 false (at_ Try.f73 [1, 1, 1, 1, 0, 1, 0, 0, 1, 0, 0, 1, 1, 1]) S H K := by
  have cS := sa.hS
  have cP := sa.hP
  have hlw := sa.lws
  have n9 : B ≠ p.b9 := fun e => hBW (by simp [Sx.W, e])
  have nw : B ≠ p.wb := fun e => hBW (by simp [Sx.W, e])
  have hx2 : x.pond.toNat < n := by omega
  refine tri_piece L73x3t158 hS ?_
  refine Exists.intro _ (Exists.intro _ (And.intro cS.of (And.intro (show _ = some (.slice (some ⟨p.wb, 0, none⟩) n p.cap) from rfl) (And.intro cS.lt ?_))))
  refine Exists.intro _ (Exists.intro _ (And.intro hB.of (And.intro rfl (And.intro hB.lt ?_))))
  refine Exists.intro _ (Exists.intro _ (And.intro cS.of (And.intro (show _ = some (.slice (some ⟨p.wb, 0, none⟩) n p.cap) from rfl) (And.intro cS.lt ?_))))
  refine Exists.intro _ (Exists.intro _ (And.intro hB.of (And.intro rfl (And.intro hB.lt ?_))))
  refine Exists.intro x.pond.toNat (And.intro (by omega) (And.intro hx2 ?_))
  refine Exists.intro _ (Exists.intro _ (And.intro cP.of (And.intro (by rw [Nat.zero_add, Nat.mul_one]; exact ints_get (by omega)) (And.intro cP.lt ?_))))
  refine And.intro q1.1 ?_
  refine Exists.intro x.pond.toNat (And.intro (by omega) (And.intro hx2 ?_))
  obtain ⟨_, e5', l5, g5⟩ := id cP
  refine Exists.intro _ (Exists.intro _ (Exists.intro _ (And.intro g5 (And.intro sa.lP (And.intro rfl (And.intro rfl (And.intro (by rw [ints_len]; omega) ?_)))))))
  intro H5 hH5
  rw [Nat.zero_add, Nat.mul_one, ints_set] at hH5
  obtain ⟨k5, n5, c5⟩ := up_facts cP hH5; clear hH5
  refine And.intro (by repeat' first | exact True.intro | exact (fun h => h) | refine And.intro ?_ ?_) ?_
  have sa5 := sa.stP k5 c5 (by simp)
  have cS := sa5.hS
  refine Exists.intro _ (Exists.intro _ (And.intro cS.of (And.intro (show _ = some (iv s.taken) from rfl) ?_)))
  refine And.intro q1.2 ?_
  obtain ⟨_, e6', l6, g6⟩ := id cS
  refine Exists.intro _ (Exists.intro _ (Exists.intro _ (And.intro g6 (And.intro sa.l9 (And.intro rfl (And.intro rfl (And.intro (by simp [Sx.cells]) ?_)))))))
  intro H6 hH6
  obtain ⟨k6, n6, c6⟩ := up_facts cS hH6; clear hH6
  exact hK _ H6 ⟨rfl, rfl, rfl, rfl, rfl, rfl, trivial⟩ (sa5.st9 (s' := takeS s x) k6 c6 rfl) ((k5.mono (by simp [Sx.W])).trans (k6.mono (by simp [Sx.W])))
theorem sd_takes {S : Rg} {K : Exit → Rg → Hp → Prop} (se : SE c ga' gcap' gs' h b4 b6 p F) (sa : SAt c.pn lo p F s true) (hlo : lo ≤ F.next) (h16 : c.pn ≤ 16) (htn : h.tn ≤ 40) (hv : ∀ x ∈ h.ts, 0 ≤ x.pond ∧ x.pond < c.pn ∧ 0 ≤ x.amount) {M B : Int} (gd : Good c.pn M B s) (hM : M ≤ 4398046511104) (hB : B ≤ 4611686018427387904)
    (hS : Subs [(15, iv ((0 : Nat) : Int)), (9, pt p.b9), (6, pt b6), (4, pt b4), (3, .bool g), (8, pt b8)] S)
    (hK : ∀ v1 v2 v3 v4 v5 H', SAt c.pn lo p H' (h.ts.foldl takeS s) (allS h.ts s) → Good c.pn M B (h.ts.foldl takeS s) → Keep F H' p.W → K (.exit 4) [(132, v1), (131, v2), (130, v3), (129, v4), (128, v5), (15, iv (h.tn : Int)), (9, pt p.b9), (6, pt b6), (4, pt b4), (3, .bool g), (8, pt b8)] H') :
    Tri Try.prog kn lo 309 false (at_ Try.f73 [1, 1, 1, 1, 0, 1, 0]) S F K := by
  have hlt2 := se.hh.lt
  refine loop_lt E73_3 V73x3 (fun i : Nat => [(15, iv (i : Int)), (9, pt p.b9), (6, pt b6), (4, pt b4), (3, .bool g), (8, pt b8)])
    (fun k i H1 => i + k = h.tn ∧ SAt c.pn lo p H1 ((h.ts.take i).foldl takeS s) (allS (h.ts.take i) s) ∧ Good c.pn M B ((h.ts.take i).foldl takeS s) ∧ Keep F H1 p.W) h.tn 0 ⟨by omega, by simpa [allS] using sa, by simpa using gd, Keep.refl _ _⟩ hS ?_
  rintro k i H1 ⟨hik, sa1, gd1, hk⟩
  have se1 := se.keep hk (fun _ h => h)
  have e6 := se1.e6
  have hkn := hk.1
  refine Exists.intro _ (Exists.intro _ (And.intro e6.of (And.intro (show _ = some (.slice h.ta h.tn h.tcap) from rfl) ?_)))
  refine And.intro (fun hlt => ?_) (fun hge => ?_)
  · have hi : i < h.tn := by simpa using hlt
    have ht1 := se1.hh.t
    rcases ht1 with ⟨_, h0, _⟩ | ⟨tb, eta, hr, _⟩
    · omega
    obtain ⟨x, hx⟩ := get_some (l := h.ts) (i := i) (by omega)
    obtain ⟨v1, v2, v3⟩ := hv x (List.mem_of_getElem? hx)
    obtain ⟨q1, q2⟩ := take_good gd1 v1 v2 v3 hM hB
    have hstep := allS_step s hx
    generalize hs1 : (h.ts.take i).foldl takeS s = s1 at *
    refine Exists.intro _ (Exists.intro _ (And.intro e6.of (And.intro (show _ = some (.slice h.ta h.tn h.tcap) from rfl) ?_)))
    rw [eta]
    refine Exists.intro i (And.intro rfl (And.intro hi ?_))
    refine Exists.intro _ (Exists.intro _ (And.intro hr.of (And.intro (row_flat (f := Tk.v) (fun _ _ => rfl) hx) ?_)))
    intro H2 hH2; obtain ⟨k2, n2, c2⟩ := new_facts hH2; clear hH2
    obtain ⟨_, e2, l2, g2⟩ := id c2
    refine Exists.intro _ (Exists.intro _ (Exists.intro _ (And.intro g2 (And.intro (by omega) (And.intro rfl (And.intro rfl (And.intro (by simp) ?_)))))))
    intro H3 hH3; obtain ⟨k3, n3, c3⟩ := up_facts c2 hH3; clear hH3
    have c3 : Cl H3 H1.next [iv x.pond, iv x.amount] := c3
    have k13 : Keep H1 H3 [] := k2.new k3 (by simp)
    have hw1 := sa1.hP.lt; have hw2 := sa1.hS.lt
    have hlws := sa1.lws
    have hx2 : x.pond.toNat < c.pn := by omega
    generalize hbi : allS (h.ts.take i) s = bi at *
    have sa3 := sa1.keep0 k13
    have cS := sa3.hS
    have cP := sa3.hP
    refine Exists.intro _ (Exists.intro _ (And.intro c3.of (And.intro rfl (And.intro c3.lt ?_))))
    refine Exists.intro _ (Exists.intro _ (And.intro cS.of (And.intro (show _ = some (.slice (some ⟨p.wb, 0, none⟩) c.pn p.cap) from rfl) (And.intro cS.lt ?_))))
    refine Exists.intro _ (Exists.intro _ (And.intro c3.of (And.intro rfl (And.intro c3.lt ?_))))
    refine Exists.intro x.pond.toNat (And.intro (by omega) (And.intro hx2 ?_))
    refine Exists.intro _ (Exists.intro _ (And.intro cP.of (And.intro (by rw [Nat.zero_add, Nat.mul_one]; exact ints_get (by omega)) (And.intro cP.lt ?_))))
    refine And.intro (by repeat' first | exact True.intro | exact (fun h => h) | refine And.intro ?_ ?_) ?_
    refine Exists.intro _ (Exists.intro _ (And.intro cS.of (And.intro (show _ = some (.bool bi) from rfl) ?_)))
    cases bi
    · refine And.intro rfl (Exists.intro (.bool false) (And.intro rfl ?_))
      obtain ⟨_, e4', l4, g4⟩ := id cS
      refine Exists.intro _ (Exists.intro _ (Exists.intro _ (And.intro g4 (And.intro sa.l9 (And.intro rfl (And.intro rfl (And.intro (by simp [Sx.cells]) ?_)))))))
      intro H4 hH4
      obtain ⟨k4, n4, c4⟩ := up_facts cS hH4; clear hH4
      have sa4 : SAt c.pn lo p H4 s1 false := sa3.st9 (s' := s1) (b' := false) k4 c4 rfl
      have c34 := k4.cl c3 (by simp; omega)
      refine sd3_tail (b4 := b4) (b6 := b6) (b8 := b8) (g := g) (x := x) (i := i) (B := H1.next) sa4 c34 (by simp [Sx.W]; omega) v1 v2 q1 ⟨rfl, rfl, rfl, rfl, rfl, rfl, rfl, rfl, trivial⟩ ?_
      intro S' H' hS' sa' k'
      refine tri_piece L73x3e hS' ?_
      refine And.intro ⟨by omega, by omega⟩ ?_
      refine ⟨k - 1, i + 1, by omega, ⟨by omega, ?_, ?_, ((hk.trans (k13.mono (by simp))).trans (k4.mono (by simp [Sx.W]))).trans k'⟩, rfl, rfl, rfl, rfl, rfl, rfl, trivial⟩
      · rw [take_step hx, hs1, hstep]; exact sa'
      · rw [take_step hx, hs1]; exact q2
    · refine Exists.intro _ (Exists.intro _ (And.intro c3.of (And.intro rfl ?_)))
      intro t ht
      refine And.intro rfl (Exists.intro (.bool t) (And.intro rfl ?_))
      obtain ⟨_, e4', l4, g4⟩ := id cS
      refine Exists.intro _ (Exists.intro _ (Exists.intro _ (And.intro g4 (And.intro sa.l9 (And.intro rfl (And.intro rfl (And.intro (by simp [Sx.cells]) ?_)))))))
      intro H4 hH4
      obtain ⟨k4, n4, c4⟩ := up_facts cS hH4; clear hH4
      have sa4 : SAt c.pn lo p H4 s1 t := sa3.st9 (s' := s1) (b' := t) k4 c4 rfl
      have ht : (takeL s1.ws x == x.amount) = t := ht
      have c34 := k4.cl c3 (by simp; omega)
      refine sd3_tail (b4 := b4) (b6 := b6) (b8 := b8) (g := g) (x := x) (i := i) (B := H1.next) sa4 c34 (by simp [Sx.W]; omega) v1 v2 q1 ⟨rfl, rfl, rfl, rfl, rfl, rfl, rfl, rfl, trivial⟩ ?_
      intro S' H' hS' sa' k'
      refine tri_piece L73x3e hS' ?_
      refine And.intro ⟨by omega, by omega⟩ ?_
      refine ⟨k - 1, i + 1, by omega, ⟨by omega, ?_, ?_, ((hk.trans (k13.mono (by simp))).trans (k4.mono (by simp [Sx.W]))).trans k'⟩, rfl, rfl, rfl, rfl, rfl, rfl, trivial⟩
      · rw [take_step hx, hs1, hstep]; rw [ht]; exact sa'
      · rw [take_step hx, hs1]; exact q2
  · have hi : ¬ i < h.tn := by simpa using hge
    have hin : i = h.tn := by omega
    subst hin
    rw [List.take_of_length_le (by omega)] at sa1 gd1
    exact hK _ _ _ _ _ _ sa1 gd1 hk
end
end Go.Ax
namespace Go.Ax
open Go Go.RowKit Go.Proofs
noncomputable def R73x4t183 : RC := (.seq (.dreg [⟨(some 183), none, (.addo (.tmp 9) 0)⟩, ⟨(some 184), none, (.ld (.tmp 183) 1)⟩, ⟨(some 185), none, (.mov (.tmp 18))⟩, ⟨(some 186), none, (.idx (.tmp 184) (.tmp 185) 1)⟩, ⟨(some 187), none, (.ld (.tmp 186) 1)⟩, ⟨(some 188), none, (.addo (.tmp 4) 0)⟩, ⟨(some 189), none, (.ld (.tmp 188) 1)⟩, ⟨(some 190), none, (.mov (.tmp 18))⟩, ⟨(some 191), none, (.idx (.tmp 189) (.tmp 190) 4)⟩, ⟨(some 192), none, (.addo (.tmp 191) 1)⟩, ⟨(some 193), none, (.addo (.tmp 192) 0)⟩, ⟨(some 194), none, (.ld (.tmp 193) 1)⟩, ⟨(some 195), none, (.ari .mul (.tmp 187) (.tmp 194))⟩, ⟨(some 196), none, (.call ⟨(.value (.func 87)), (List.toArray [(.tmp 195), (.const (.int .i64 1000000))]), (List.toArray [3, 3])⟩ false)⟩, ⟨(some 197), none, (.addo (.tmp 9) 0)⟩, ⟨(some 198), none, (.ld (.tmp 197) 1)⟩, ⟨(some 199), none, (.mov (.tmp 18))⟩, ⟨(some 200), none, (.idx (.tmp 198) (.tmp 199) 1)⟩, ⟨(some 201), none, (.ld (.tmp 200) 1)⟩, ⟨(some 202), none, (.addo (.tmp 4) 0)⟩, ⟨(some 203), none, (.ld (.tmp 202) 1)⟩, ⟨(some 204), none, (.mov (.tmp 18))⟩, ⟨(some 205), none, (.idx (.tmp 203) (.tmp 204) 4)⟩, ⟨(some 206), none, (.addo (.tmp 205) 1)⟩, ⟨(some 207), none, (.addo (.tmp 206) 1)⟩, ⟨(some 208), none, (.ld (.tmp 207) 1)⟩, ⟨(some 209), none, (.ari .mul (.tmp 201) (.tmp 208))⟩, ⟨(some 210), none, (.call ⟨(.value (.func 88)), (List.toArray [(.tmp 209), (.const (.int .i64 1000000))]), (List.toArray [3, 3])⟩ true)⟩, ⟨(some 19), none, (.mov (.tmp 196))⟩, ⟨(some 20), none, (.mov (.tmp 210))⟩] [536870911, 268435455, 134217727, 67092480, 33030144, 16252928, 7864320, 3670016, 0, 524288, 0, 245760, 114688, 0, 16384, 0, 8191, 4095, 2016, 992, 480, 224, 0, 32, 0, 15, 7, 0, 1, 0])
  (.seq (.reg [⟨(some 211), none, (.mov (.tmp 3))⟩])
  (.cond (.tmp 211) (.seq (.reg [⟨(some 212), none, (.addo (.tmp 9) 2)⟩, ⟨(some 213), none, (.ld (.tmp 212) 1)⟩, ⟨(some 214), none, (.mov (.tmp 20))⟩, ⟨(some 215), none, (.ari .add (.tmp 213) (.tmp 214))⟩, ⟨(some 216), none, (.addo (.tmp 9) 2)⟩, ⟨none, none, (.st (.tmp 216) (.tmp 215))⟩])
  (.dreg [⟨(some 217), none, (.addo (.tmp 9) 0)⟩, ⟨(some 218), none, (.ld (.tmp 217) 1)⟩, ⟨(some 219), none, (.mov (.tmp 18))⟩, ⟨(some 220), none, (.addo (.tmp 9) 0)⟩, ⟨(some 221), none, (.ld (.tmp 220) 1)⟩, ⟨(some 222), none, (.mov (.tmp 18))⟩, ⟨(some 223), none, (.idx (.tmp 221) (.tmp 222) 1)⟩, ⟨(some 224), none, (.ld (.tmp 223) 1)⟩, ⟨(some 225), none, (.mov (.tmp 19))⟩, ⟨(some 226), none, (.ari .sub (.tmp 224) (.tmp 225))⟩, ⟨(some 227), none, (.idx (.tmp 218) (.tmp 219) 1)⟩, ⟨none, none, (.st (.tmp 227) (.tmp 226))⟩] [2047, 1023, 504, 0, 120, 56, 0, 8, 0, 0, 1, 0]))
  (.seq (.reg [⟨(some 228), none, (.addo (.tmp 9) 2)⟩, ⟨(some 229), none, (.ld (.tmp 228) 1)⟩, ⟨(some 230), none, (.mov (.tmp 19))⟩, ⟨(some 231), none, (.ari .add (.tmp 229) (.tmp 230))⟩, ⟨(some 232), none, (.addo (.tmp 9) 2)⟩, ⟨none, none, (.st (.tmp 232) (.tmp 231))⟩])
  (.dreg [⟨(some 233), none, (.addo (.tmp 9) 0)⟩, ⟨(some 234), none, (.ld (.tmp 233) 1)⟩, ⟨(some 235), none, (.mov (.tmp 18))⟩, ⟨(some 236), none, (.addo (.tmp 9) 0)⟩, ⟨(some 237), none, (.ld (.tmp 236) 1)⟩, ⟨(some 238), none, (.mov (.tmp 18))⟩, ⟨(some 239), none, (.idx (.tmp 237) (.tmp 238) 1)⟩, ⟨(some 240), none, (.ld (.tmp 239) 1)⟩, ⟨(some 241), none, (.mov (.tmp 20))⟩, ⟨(some 242), none, (.ari .sub (.tmp 240) (.tmp 241))⟩, ⟨(some 243), none, (.idx (.tmp 234) (.tmp 235) 1)⟩, ⟨none, none, (.st (.tmp 243) (.tmp 242))⟩] [2047, 1023, 504, 0, 120, 56, 0, 8, 0, 0, 1, 0])))))
theorem L73x4t183 : low Try.prog 309 (at_ Try.f73 [1, 1, 1, 1, 1, 0, 1, 0, 0, 1, 0, 0]) = some R73x4t183 := by kernel_rfl
noncomputable def R73x4e : RC := (.reg [⟨(some 181), none, (.mov (.tmp 18))⟩, ⟨(some 182), none, (.ari .add (.tmp 181) (.const (.int .i64 1)))⟩, ⟨(some 18), none, (.mov (.tmp 182))⟩])
theorem L73x4e : low Try.prog 309 (at_ Try.f73 [1, 1, 1, 1, 1, 0, 1, 0, 0, 1, 1]) = some R73x4e := by kernel_rfl
noncomputable def R73x4v : RC := (.seq (.seq (.reg [⟨(some 176), none, (.mov (.tmp 18))⟩, ⟨(some 177), none, (.addo (.tmp 9) 0)⟩, ⟨(some 178), none, (.ld (.tmp 177) 1)⟩, ⟨(some 179), none, (.len (.tmp 178))⟩, ⟨(some 180), none, (.cmp .lss (.tmp 176) (.tmp 179))⟩])
  (.cond (.tmp 180) .skip
  (.exit 6)))
  (.seq (.block 7 (.other (at_ Try.f73 [1, 1, 1, 1, 1, 0, 1, 0, 0, 1, 0, 0])))
  (.other (at_ Try.f73 [1, 1, 1, 1, 1, 0, 1, 0, 0, 1, 1]))))
theorem V73x4 : LT Try.prog 309 (at_ Try.f73 [1, 1, 1, 1, 1, 0, 1, 0, 0]) R73x4v := by
  have e : at_ Try.f73 [1, 1, 1, 1, 1, 0, 1, 0, 0] = (.seq (at_ Try.f73 [1, 1, 1, 1, 1, 0, 1, 0, 0, 0]) (.seq (.block 7 (at_ Try.f73 [1, 1, 1, 1, 1, 0, 1, 0, 0, 1, 0, 0])) (at_ Try.f73 [1, 1, 1, 1, 1, 0, 1, 0, 0, 1, 1]))) := by kernel_rfl
  rw [e]
  exact (.seq (.low (by kernel_rfl)) (.seq (.block 7 (.other _)) (.other _)))
noncomputable def R73x5t251 : RC := (.seq (.dreg [⟨(some 251), none, (.addo (.tmp 9) 0)⟩, ⟨(some 252), none, (.ld (.tmp 251) 1)⟩, ⟨(some 253), none, (.mov (.tmp 21))⟩, ⟨(some 254), none, (.idx (.tmp 252) (.tmp 253) 1)⟩, ⟨(some 255), none, (.ld (.tmp 254) 1)⟩, ⟨(some 256), none, (.addo (.tmp 4) 0)⟩, ⟨(some 257), none, (.ld (.tmp 256) 1)⟩, ⟨(some 258), none, (.mov (.tmp 21))⟩, ⟨(some 259), none, (.idx (.tmp 257) (.tmp 258) 4)⟩, ⟨(some 260), none, (.addo (.tmp 259) 0)⟩, ⟨(some 261), none, (.ld (.tmp 260) 1)⟩, ⟨(some 262), none, (.ari .sub (.tmp 255) (.tmp 261))⟩, ⟨(some 263), none, (.mm false (.const (.int .i64 0)) (.tmp 262))⟩, ⟨(some 22), none, (.mov (.tmp 263))⟩] [8191, 4095, 2047, 992, 480, 224, 0, 32, 0, 15, 7, 0, 1, 0])
  (.seq (.dreg [⟨(some 264), none, (.addo (.tmp 9) 0)⟩, ⟨(some 265), none, (.ld (.tmp 264) 1)⟩, ⟨(some 266), none, (.mov (.tmp 21))⟩, ⟨(some 267), none, (.addo (.tmp 9) 0)⟩, ⟨(some 268), none, (.ld (.tmp 267) 1)⟩, ⟨(some 269), none, (.mov (.tmp 21))⟩, ⟨(some 270), none, (.idx (.tmp 268) (.tmp 269) 1)⟩, ⟨(some 271), none, (.ld (.tmp 270) 1)⟩, ⟨(some 272), none, (.mov (.tmp 22))⟩, ⟨(some 273), none, (.ari .sub (.tmp 271) (.tmp 272))⟩, ⟨(some 274), none, (.idx (.tmp 265) (.tmp 266) 1)⟩, ⟨none, none, (.st (.tmp 274) (.tmp 273))⟩] [2047, 1023, 504, 0, 120, 56, 0, 8, 0, 0, 1, 0])
  (.seq (.reg [⟨(some 275), none, (.addo (.tmp 4) 0)⟩, ⟨(some 276), none, (.ld (.tmp 275) 1)⟩, ⟨(some 277), none, (.mov (.tmp 21))⟩, ⟨(some 278), none, (.idx (.tmp 276) (.tmp 277) 4)⟩, ⟨(some 279), none, (.addo (.tmp 278) 3)⟩, ⟨(some 280), none, (.ld (.tmp 279) 1)⟩, ⟨(some 281), none, (.cmp .geq (.tmp 280) (.const (.int .i64 0)))⟩])
  (.cond (.tmp 281) (.dreg [⟨(some 282), none, (.addo (.tmp 9) 0)⟩, ⟨(some 283), none, (.ld (.tmp 282) 1)⟩, ⟨(some 284), none, (.addo (.tmp 4) 0)⟩, ⟨(some 285), none, (.ld (.tmp 284) 1)⟩, ⟨(some 286), none, (.mov (.tmp 21))⟩, ⟨(some 287), none, (.idx (.tmp 285) (.tmp 286) 4)⟩, ⟨(some 288), none, (.addo (.tmp 287) 3)⟩, ⟨(some 289), none, (.ld (.tmp 288) 1)⟩, ⟨(some 290), none, (.addo (.tmp 9) 0)⟩, ⟨(some 291), none, (.ld (.tmp 290) 1)⟩, ⟨(some 292), none, (.addo (.tmp 4) 0)⟩, ⟨(some 293), none, (.ld (.tmp 292) 1)⟩, ⟨(some 294), none, (.mov (.tmp 21))⟩, ⟨(some 295), none, (.idx (.tmp 293) (.tmp 294) 4)⟩, ⟨(some 296), none, (.addo (.tmp 295) 3)⟩, ⟨(some 297), none, (.ld (.tmp 296) 1)⟩, ⟨(some 298), none, (.idx (.tmp 291) (.tmp 297) 1)⟩, ⟨(some 299), none, (.ld (.tmp 298) 1)⟩, ⟨(some 300), none, (.mov (.tmp 22))⟩, ⟨(some 301), none, (.ari .add (.tmp 299) (.tmp 300))⟩, ⟨(some 302), none, (.idx (.tmp 283) (.tmp 289) 1)⟩, ⟨none, none, (.st (.tmp 302) (.tmp 301))⟩] [2097151, 1048575, 524032, 0, 130816, 65280, 31744, 15360, 7168, 0, 1024, 0, 256, 0, 124, 60, 28, 0, 4, 0, 1, 0])
  (.reg [⟨(some 303), none, (.addo (.tmp 9) 3)⟩, ⟨(some 304), none, (.ld (.tmp 303) 1)⟩, ⟨(some 305), none, (.mov (.tmp 22))⟩, ⟨(some 306), none, (.ari .add (.tmp 304) (.tmp 305))⟩, ⟨(some 307), none, (.addo (.tmp 9) 3)⟩, ⟨none, none, (.st (.tmp 307) (.tmp 306))⟩])))))
theorem L73x5t251 : low Try.prog 309 (at_ Try.f73 [1, 1, 1, 1, 1, 1, 0, 1, 0, 0, 1, 0, 0]) = some R73x5t251 := by kernel_rfl
noncomputable def R73x5e : RC := (.reg [⟨(some 249), none, (.mov (.tmp 21))⟩, ⟨(some 250), none, (.ari .add (.tmp 249) (.const (.int .i64 1)))⟩, ⟨(some 21), none, (.mov (.tmp 250))⟩])
theorem L73x5e : low Try.prog 309 (at_ Try.f73 [1, 1, 1, 1, 1, 1, 0, 1, 0, 0, 1, 1]) = some R73x5e := by kernel_rfl
noncomputable def R73x5v : RC := (.seq (.seq (.reg [⟨(some 244), none, (.mov (.tmp 21))⟩, ⟨(some 245), none, (.addo (.tmp 9) 0)⟩, ⟨(some 246), none, (.ld (.tmp 245) 1)⟩, ⟨(some 247), none, (.len (.tmp 246))⟩, ⟨(some 248), none, (.cmp .lss (.tmp 244) (.tmp 247))⟩])
  (.cond (.tmp 248) .skip
  (.exit 8)))
  (.seq (.block 9 (.other (at_ Try.f73 [1, 1, 1, 1, 1, 1, 0, 1, 0, 0, 1, 0, 0])))
  (.other (at_ Try.f73 [1, 1, 1, 1, 1, 1, 0, 1, 0, 0, 1, 1]))))
theorem V73x5 : LT Try.prog 309 (at_ Try.f73 [1, 1, 1, 1, 1, 1, 0, 1, 0, 0]) R73x5v := by
  have e : at_ Try.f73 [1, 1, 1, 1, 1, 1, 0, 1, 0, 0] = (.seq (at_ Try.f73 [1, 1, 1, 1, 1, 1, 0, 1, 0, 0, 0]) (.seq (.block 9 (at_ Try.f73 [1, 1, 1, 1, 1, 1, 0, 1, 0, 0, 1, 0, 0])) (at_ Try.f73 [1, 1, 1, 1, 1, 1, 0, 1, 0, 0, 1, 1]))) := by kernel_rfl
  rw [e]
  exact (.seq (.low (by kernel_rfl)) (.seq (.block 9 (.other _)) (.other _)))

theorem pdc_get {l : List Pd} {i : Nat} {p : Pd} (h : l[i]? = some p) : (pdc l)[0 + i * 4 + 0]? = some (iv p.full) ∧ (pdc l)[0 + i * 4 + 1 + 0]? = some (iv p.lo) ∧ (pdc l)[0 + i * 4 + 1 + 1]? = some (iv p.hi) ∧ (pdc l)[0 + i * 4 + 3]? = some (iv p.spill) :=
  ⟨row_get (pdc_row h) (j := 0) rfl, row_get (pdc_row h) (j := 1) rfl, row_get (pdc_row h) (j := 2) rfl, row_get (pdc_row h) (j := 3) rfl⟩
theorem end_ppf {rest : List Kd} {ms : List Nat} {m0 m1 m2 : Nat} (hc : rest.all calm = true) (h0 : m0 = 2 ^ (rest.length + 2) - 1) (h1 : m1 = 2 ^ (rest.length + 1) - 1) (h2 : m2 = 2 ^ rest.length - 1) : (bif (Kd.pure :: Kd.pure :: Kd.full :: rest).all calm then True else pairsP (.pure :: .pure :: .full :: rest) (m0 :: m1 :: m2 :: ms)) := by
  have : (Kd.pure :: Kd.pure :: Kd.full :: rest).all calm = false := rfl
  rw [this]
  exact ⟨below_full _ _ _ (by simpa using h0), below_full _ _ _ (by simpa using h1), below_full _ _ _ (by simpa using h2), pairs_calm _ _ hc⟩
section
variable {kn : FuncId → Option Bool} {lo : Nat} {F H : Hp} {c : Ch} {ga' : Option Addr} {gcap' : Nat} {gs' : List Gt} {h : Hr} {b4 b6 b8 : Nat} {p : Sx} {s : St} {b g : Bool}
theorem down_ok {a q : Int} (h0 : 0 ≤ a) (h1 : a < 9223372036854775808) (hq : 0 < q) : ∃ H', FnX Try.prog kn lo 87 [iv a, iv q] H (iv (a / q)) H' ∧ Keep H H' [] := by
  have key := fnX_low (kn := kn) (lo := lo) (H := H) (args := [iv a, iv q]) (Q := fun v H' => v = iv (a / q) ∧ Keep H H' []) Try.func87 B87 N87 Z87 L87 (by simp) ?_
  · obtain ⟨v, H', h, rfl, q⟩ := key; exact ⟨H', h, q⟩
  refine And.intro h0 (And.intro hq (And.intro ⟨by omega, by omega⟩ ?_))
  exact And.intro trivial (Exists.intro _ (And.intro rfl (⟨rfl, Keep.refl _ _⟩)))
theorem up_ok {a q : Int} (h0 : 0 ≤ a) (h1 : a < 4611686018427387904) (hq : 0 < q) (hq2 : q ≤ 1000000000) : ∃ H', FnX Try.prog kn lo 88 [iv a, iv q] H (iv ((a + q - 1) / q)) H' ∧ Keep H H' [] := by
  have key := fnX_low (kn := kn) (lo := lo) (H := H) (args := [iv a, iv q]) (Q := fun v H' => v = iv ((a + q - 1) / q) ∧ Keep H H' []) Try.func88 B88 N88 Z88 L88 (by simp) ?_
  · obtain ⟨v, H', h, rfl, q⟩ := key; exact ⟨H', h, q⟩
  refine And.intro ⟨by omega, by omega⟩ ?_
  refine And.intro ⟨by omega, by omega⟩ ?_
  refine And.intro (by omega) (And.intro hq (And.intro ⟨by omega, by omega⟩ ?_))
  exact And.intro trivial (Exists.intro _ (And.intro rfl (⟨rfl, Keep.refl _ _⟩)))
theorem sd4_tail {S : Rg} {K : Exit → Rg → Hp → Prop} {i n cb : Nat} {x : Pd} {u : Int} (sa : SAt n lo p H s b) (hlo : lo ≤ H.next) (hi : i < n) (hnp : n = c.pn) (e4 : Rd H b4 [.slice (some ⟨cb, 0, none⟩) c.pn c.pcap, .slice ga' c.gn gcap']) (hpr : Rd H cb (pdc c.ponds)) (hx : c.ponds[i]? = some x) (hu : s.ws.getD i 0 = u)
    (h4W : b4 ∉ p.W) (hcW : cb ∉ p.W) (hl1 : 0 ≤ x.lo) (hl2 : x.lo ≤ x.hi) (hl3 : x.hi ≤ 1000000) (q1 : SeepOk g s (x, i))
    (hS : Subs [(18, iv (i : Int)), (9, pt p.b9), (6, pt b6), (4, pt b4), (3, .bool g), (8, pt b8)] S)
    (hK : ∀ S' H', Subs [(18, iv (i : Int)), (9, pt p.b9), (6, pt b6), (4, pt b4), (3, .bool g), (8, pt b8)] S' → SAt n lo p H' (seepS g s (x, i)) b → Keep H H' p.W → K .normal S' H') :
    Tri Try.prog kn lo 309 false (at_ Try.f73 [1, 1, 1, 1, 1, 0, 1, 0, 0, 1, 0, 0]) S H K := by
  subst hnp
  have cS := sa.hS
  have cP := sa.hP
  have hlw := sa.lws
  have pg := pdc_get hx
  obtain ⟨a1, a2, _, _, _, _, a7⟩ := q1
  simp only [hu] at a1 a2 a7
  have p1 : 0 ≤ u * x.lo := Int.mul_nonneg a1 hl1
  have p2 : u * x.lo ≤ u * x.hi := Int.mul_le_mul_of_nonneg_left hl2 a1
  have p3 : u * x.hi ≤ 4398046511104 * 1000000 := Int.mul_le_mul (by omega) hl3 (by omega) (by omega)
  have p4 : u * x.hi ≤ u * 1000000 := Int.mul_le_mul_of_nonneg_left hl3 a1
  obtain ⟨H1, f1, k1⟩ := down_ok (kn := kn) (lo := H.next) (H := H) (a := u * x.lo) (q := 1000000) p1 (by omega) (by omega)
  obtain ⟨H2, f2, k2⟩ := up_ok (kn := kn) (lo := lo) (H := H1) (a := u * x.hi) (q := 1000000) (by omega) (by omega) (by omega) (by omega)
  have m1 := k1.1; have m2 := k2.1
  have k02 := k1.trans k2
  have cS1 := k1.cl cS (by simp)
  have cP1 := k1.cl cP (by simp)
  have e41 := k1.rd e4 (by simp)
  have hpr1 := k1.rd hpr (by simp)
  refine tri_piece L73x4t183 hS ?_
  refine wD_seq ?_
  refine wD_addo (b := p.b9) (o := 0) rfl ?_
  refine wD_ld (b := p.b9) (o := 0 + 0) (v := .slice (some ⟨p.wb, 0, none⟩) c.pn p.cap) rfl cS.rd rfl ?_
  refine wD_mov (v := iv ((i : Int))) rfl ?_
  refine wD_idx (b := p.wb) (o := 0) (k := i) (j := (i : Int)) rfl rfl rfl hi ?_
  refine wD_ld (b := p.wb) (o := 0 + i * 1) (v := iv (u)) rfl cP.rd (show _ = some (iv u) by rw [Nat.zero_add, Nat.mul_one, ints_get (by omega), hu]) ?_
  refine wD_addo (b := b4) (o := 0) rfl ?_
  refine wD_ld (b := b4) (o := 0 + 0) (v := .slice (some ⟨cb, 0, none⟩) c.pn c.pcap) rfl e4 rfl ?_
  refine wD_mov (v := iv ((i : Int))) rfl ?_
  refine wD_idx (b := cb) (o := 0) (k := i) (j := (i : Int)) rfl rfl rfl hi ?_
  refine wD_addo (b := cb) (o := 0 + i * 4) rfl ?_
  refine wD_addo (b := cb) (o := 0 + i * 4 + 1) rfl ?_
  refine wD_ld (b := cb) (o := 0 + i * 4 + 1 + 0) (v := iv (x.lo)) rfl hpr pg.2.1 ?_
  refine wD_mul (a := u) (b := x.lo) rfl rfl ⟨by omega, by omega⟩ ?_
  refine wD_callh (vs := [iv (u * (x.lo)), iv 1000000]) rfl (by kernel_rfl) (callX_args f1) ?_
  refine wD_addo (b := p.b9) (o := 0) rfl ?_
  refine wD_ld (b := p.b9) (o := 0 + 0) (v := .slice (some ⟨p.wb, 0, none⟩) c.pn p.cap) rfl cS1.rd rfl ?_
  refine wD_mov (v := iv ((i : Int))) rfl ?_
  refine wD_idx (b := p.wb) (o := 0) (k := i) (j := (i : Int)) rfl rfl rfl hi ?_
  refine wD_ld (b := p.wb) (o := 0 + i * 1) (v := iv (u)) rfl cP1.rd (show _ = some (iv u) by rw [Nat.zero_add, Nat.mul_one, ints_get (by omega), hu]) ?_
  refine wD_addo (b := b4) (o := 0) rfl ?_
  refine wD_ld (b := b4) (o := 0 + 0) (v := .slice (some ⟨cb, 0, none⟩) c.pn c.pcap) rfl e41 rfl ?_
  refine wD_mov (v := iv ((i : Int))) rfl ?_
  refine wD_idx (b := cb) (o := 0) (k := i) (j := (i : Int)) rfl rfl rfl hi ?_
  refine wD_addo (b := cb) (o := 0 + i * 4) rfl ?_
  refine wD_addo (b := cb) (o := 0 + i * 4 + 1) rfl ?_
  refine wD_ld (b := cb) (o := 0 + i * 4 + 1 + 1) (v := iv (x.hi)) rfl hpr1 pg.2.2.1 ?_
  refine wD_mul (a := u) (b := x.hi) rfl rfl ⟨by omega, by omega⟩ ?_
  refine wD_callf (vs := [iv (u * (x.hi)), iv 1000000]) rfl (callX_args f2) ?_
  refine wD_mov (v := iv (u * x.lo / 1000000)) rfl ?_
  refine wD_mov (v := iv ((u * x.hi + 1000000 - 1) / 1000000)) rfl ?_
  refine wD_end (end_ppf (by rfl) (by simp only [List.length_cons, List.length_nil, Nat.reduceAdd, Nat.reducePow, Nat.reduceSub]) (by simp only [List.length_cons, List.length_nil, Nat.reduceAdd, Nat.reducePow, Nat.reduceSub]) (by simp only [List.length_cons, List.length_nil, Nat.reduceAdd, Nat.reducePow, Nat.reduceSub])) ?_
  have sa2 := sa.keep0 k02
  have cS := sa2.hS
  cases g
  · refine condF ?_
    have hse : seepV false u x.lo x.hi = u * x.lo / 1000000 := by unfold seepV; simp
    have hst : stayV false u x.lo x.hi = u - (u * x.hi + 1000000 - 1) / 1000000 := by unfold stayV; simp
    have i1 : InR (u - ((u * x.hi + 1000000 - 1) / 1000000)) := ⟨by omega, by omega⟩
    refine Exists.intro _ (Exists.intro _ (And.intro cS.of (And.intro (show _ = some (iv s.seeped) from rfl) ?_)))
    refine And.intro (by rw [← hse]; exact a7) ?_
    obtain ⟨_, e5', l5, g5⟩ := id cS
    refine Exists.intro _ (Exists.intro _ (Exists.intro _ (And.intro g5 (And.intro sa.l9 (And.intro rfl (And.intro rfl (And.intro (by simp [Sx.cells]) ?_)))))))
    intro H5 hH5
    obtain ⟨k5, n5, c5⟩ := up_facts cS hH5; clear hH5
    have sa5 : SAt c.pn lo p H5 { s with seeped := s.seeped + u * x.lo / 1000000 } b := sa2.st9 k5 c5 rfl
    have cS := sa5.hS
    have cP : Cl H5 p.wb (ints s.ws) := sa5.hP
    refine wD_dreg (rd := false) ?_
    refine wD_addo (b := p.b9) (o := 0) rfl ?_
    refine wD_ld (b := p.b9) (o := 0 + 0) (v := .slice (some ⟨p.wb, 0, none⟩) c.pn p.cap) rfl cS.rd rfl ?_
    refine wD_mov (v := iv ((i : Int))) rfl ?_
    refine wD_addo (b := p.b9) (o := 0) rfl ?_
    refine wD_ld (b := p.b9) (o := 0 + 0) (v := .slice (some ⟨p.wb, 0, none⟩) c.pn p.cap) rfl cS.rd rfl ?_
    refine wD_mov (v := iv ((i : Int))) rfl ?_
    refine wD_idx (b := p.wb) (o := 0) (k := i) (j := (i : Int)) rfl rfl rfl hi ?_
    refine wD_ld (b := p.wb) (o := 0 + i * 1) (v := iv (u)) rfl cP.rd (show _ = some (iv u) by rw [Nat.zero_add, Nat.mul_one, ints_get (by omega), hu]) ?_
    refine wD_mov (v := iv ((u * x.hi + 1000000 - 1) / 1000000)) rfl ?_
    refine wD_sub (a := u) (b := (u * x.hi + 1000000 - 1) / 1000000) rfl rfl i1 ?_
    refine wD_idx (b := p.wb) (o := 0) (k := i) (j := (i : Int)) rfl rfl rfl hi ?_
    refine wD_st (b := p.wb) (o := 0 + i * 1) (v := iv (u - ((u * x.hi + 1000000 - 1) / 1000000))) rfl rfl cP sa.lP rfl rfl (by rw [ints_len]; omega) ?_
    intro H6 k6 n6 c6
    rw [Nat.zero_add, Nat.mul_one, ints_set] at c6
    refine wD_end (end_store (by rfl) (by simp only [List.length_cons, List.length_nil, Nat.reduceAdd, Nat.reducePow, Nat.reduceSub])) ?_
    have sa6 := sa5.stP k6 c6 (by simp)
    have e : seepS false s (x, i) = { s with ws := s.ws.set i (u - (u * x.hi + 1000000 - 1) / 1000000), seeped := s.seeped + u * x.lo / 1000000 } := by simp only [seepS, hu, hse, hst]
    exact hK _ H6 ⟨rfl, rfl, rfl, rfl, rfl, rfl, trivial⟩ (by rw [e]; exact sa6) (((k02.mono (by simp)).trans (k5.mono (by simp [Sx.W]))).trans (k6.mono (by simp [Sx.W])))
  · refine condT ?_
    have hse : seepV true u x.lo x.hi = (u * x.hi + 1000000 - 1) / 1000000 := by unfold seepV; simp
    have hst : stayV true u x.lo x.hi = u - u * x.lo / 1000000 := by unfold stayV; simp
    have i1 : InR (u - (u * x.lo / 1000000)) := ⟨by omega, by omega⟩
    refine Exists.intro _ (Exists.intro _ (And.intro cS.of (And.intro (show _ = some (iv s.seeped) from rfl) ?_)))
    refine And.intro (by rw [← hse]; exact a7) ?_
    obtain ⟨_, e5', l5, g5⟩ := id cS
    refine Exists.intro _ (Exists.intro _ (Exists.intro _ (And.intro g5 (And.intro sa.l9 (And.intro rfl (And.intro rfl (And.intro (by simp [Sx.cells]) ?_)))))))
    intro H5 hH5
    obtain ⟨k5, n5, c5⟩ := up_facts cS hH5; clear hH5
    have sa5 : SAt c.pn lo p H5 { s with seeped := s.seeped + (u * x.hi + 1000000 - 1) / 1000000 } b := sa2.st9 k5 c5 rfl
    have cS := sa5.hS
    have cP : Cl H5 p.wb (ints s.ws) := sa5.hP
    refine wD_dreg (rd := false) ?_
    refine wD_addo (b := p.b9) (o := 0) rfl ?_
    refine wD_ld (b := p.b9) (o := 0 + 0) (v := .slice (some ⟨p.wb, 0, none⟩) c.pn p.cap) rfl cS.rd rfl ?_
    refine wD_mov (v := iv ((i : Int))) rfl ?_
    refine wD_addo (b := p.b9) (o := 0) rfl ?_
    refine wD_ld (b := p.b9) (o := 0 + 0) (v := .slice (some ⟨p.wb, 0, none⟩) c.pn p.cap) rfl cS.rd rfl ?_
    refine wD_mov (v := iv ((i : Int))) rfl ?_
    refine wD_idx (b := p.wb) (o := 0) (k := i) (j := (i : Int)) rfl rfl rfl hi ?_
    refine wD_ld (b := p.wb) (o := 0 + i * 1) (v := iv (u)) rfl cP.rd (show _ = some (iv u) by rw [Nat.zero_add, Nat.mul_one, ints_get (by omega), hu]) ?_
    refine wD_mov (v := iv (u * x.lo / 1000000)) rfl ?_
    refine wD_sub (a := u) (b := u * x.lo / 1000000) rfl rfl i1 ?_
    refine wD_idx (b := p.wb) (o := 0) (k := i) (j := (i : Int)) rfl rfl rfl hi ?_
    refine wD_st (b := p.wb) (o := 0 + i * 1) (v := iv (u - (u * x.lo / 1000000))) rfl rfl cP sa.lP rfl rfl (by rw [ints_len]; omega) ?_
    intro H6 k6 n6 c6
    rw [Nat.zero_add, Nat.mul_one, ints_set] at c6
    refine wD_end (end_store (by rfl) (by simp only [List.length_cons, List.length_nil, Nat.reduceAdd, Nat.reducePow, Nat.reduceSub])) ?_
    have sa6 := sa5.stP k6 c6 (by simp)
    have e : seepS true s (x, i) = { s with ws := s.ws.set i (u - u * x.lo / 1000000), seeped := s.seeped + (u * x.hi + 1000000 - 1) / 1000000 } := by simp only [seepS, hu, hse, hst]
    exact hK _ H6 ⟨rfl, rfl, rfl, rfl, rfl, rfl, trivial⟩ (by rw [e]; exact sa6) (((k02.mono (by simp)).trans (k5.mono (by simp [Sx.W]))).trans (k6.mono (by simp [Sx.W])))
theorem sd5_tail {S : Rg} {K : Exit → Rg → Hp → Prop} {i n cb : Nat} {x : Pd} {u : Int} (sa : SAt n lo p H s b) (hlo : lo ≤ H.next) (hi : i < n) (hnp : n = c.pn) (e4 : Rd H b4 [.slice (some ⟨cb, 0, none⟩) c.pn c.pcap, .slice ga' c.gn gcap']) (hpr : Rd H cb (pdc c.ponds)) (hx : c.ponds[i]? = some x) (hu : s.ws.getD i 0 = u)
    (h4W : b4 ∉ p.W) (hcW : cb ∉ p.W) (ht : x.spill = -1 ∨ 0 ≤ x.spill ∧ x.spill < n) (q1 : SpillOk s (x, i))
    (hS : Subs [(21, iv (i : Int)), (9, pt p.b9), (6, pt b6), (4, pt b4), (3, .bool g), (8, pt b8)] S)
    (hK : ∀ S' H', Subs [(21, iv (i : Int)), (9, pt p.b9), (6, pt b6), (4, pt b4), (3, .bool g), (8, pt b8)] S' → SAt n lo p H' (spillS s (x, i)) b → Keep H H' p.W → K .normal S' H') :
    Tri Try.prog kn lo 309 false (at_ Try.f73 [1, 1, 1, 1, 1, 1, 0, 1, 0, 0, 1, 0, 0]) S H K := by
  subst hnp
  have cS := sa.hS
  have cP := sa.hP
  have hlw := sa.lws
  have pg := pdc_get hx
  simp only [SpillOk, hu] at q1
  have hl : max (0) (u - (x.full)) = spillL s (x, i) := by unfold spillL; simp only [hu]
  have i3 : InR (u - (max (0) (u - (x.full)))) := by rw [hl]; exact q1.2.1
  refine tri_piece L73x5t251 hS ?_
  refine wD_seq ?_
  refine wD_addo (b := p.b9) (o := 0) rfl ?_
  refine wD_ld (b := p.b9) (o := 0 + 0) (v := .slice (some ⟨p.wb, 0, none⟩) c.pn p.cap) rfl cS.rd rfl ?_
  refine wD_mov (v := iv ((i : Int))) rfl ?_
  refine wD_idx (b := p.wb) (o := 0) (k := i) (j := (i : Int)) rfl rfl rfl hi ?_
  refine wD_ld (b := p.wb) (o := 0 + i * 1) (v := iv (u)) rfl cP.rd (show _ = some (iv u) by rw [Nat.zero_add, Nat.mul_one, ints_get (by omega), hu]) ?_
  refine wD_addo (b := b4) (o := 0) rfl ?_
  refine wD_ld (b := b4) (o := 0 + 0) (v := .slice (some ⟨cb, 0, none⟩) c.pn c.pcap) rfl e4 rfl ?_
  refine wD_mov (v := iv ((i : Int))) rfl ?_
  refine wD_idx (b := cb) (o := 0) (k := i) (j := (i : Int)) rfl rfl rfl hi ?_
  refine wD_addo (b := cb) (o := 0 + i * 4) rfl ?_
  refine wD_ld (b := cb) (o := 0 + i * 4 + 0) (v := iv (x.full)) rfl hpr pg.1 ?_
  refine wD_sub (a := u) (b := x.full) rfl rfl q1.1 ?_
  refine wD_mm (a := 0) (b := u - (x.full)) rfl rfl ?_
  refine wD_mov (v := iv (max (0) (u - (x.full)))) rfl ?_
  refine wD_end trivial ?_
  refine wD_seq ?_
  refine wD_addo (b := p.b9) (o := 0) rfl ?_
  refine wD_ld (b := p.b9) (o := 0 + 0) (v := .slice (some ⟨p.wb, 0, none⟩) c.pn p.cap) rfl cS.rd rfl ?_
  refine wD_mov (v := iv ((i : Int))) rfl ?_
  refine wD_addo (b := p.b9) (o := 0) rfl ?_
  refine wD_ld (b := p.b9) (o := 0 + 0) (v := .slice (some ⟨p.wb, 0, none⟩) c.pn p.cap) rfl cS.rd rfl ?_
  refine wD_mov (v := iv ((i : Int))) rfl ?_
  refine wD_idx (b := p.wb) (o := 0) (k := i) (j := (i : Int)) rfl rfl rfl hi ?_
  refine wD_ld (b := p.wb) (o := 0 + i * 1) (v := iv (u)) rfl cP.rd (show _ = some (iv u) by rw [Nat.zero_add, Nat.mul_one, ints_get (by omega), hu]) ?_
  refine wD_mov (v := iv (max (0) (u - (x.full)))) rfl ?_
  refine wD_sub (a := u) (b := max (0) (u - (x.full))) rfl rfl i3 ?_
  refine wD_idx (b := p.wb) (o := 0) (k := i) (j := (i : Int)) rfl rfl rfl hi ?_
  refine wD_st (b := p.wb) (o := 0 + i * 1) (v := iv (u - (max (0) (u - (x.full))))) rfl rfl cP sa.lP rfl rfl (by rw [ints_len]; omega) ?_
  intro H5 k5 n5 c5
  rw [Nat.zero_add, Nat.mul_one, hl, ints_set] at c5
  refine wD_end (end_store (by rfl) (by simp only [List.length_cons, List.length_nil, Nat.reduceAdd, Nat.reducePow, Nat.reduceSub])) ?_
  have sa5 := sa.stP k5 c5 (by simp)
  have cS := sa5.hS
  have cP := sa5.hP
  have e4 := k5.rd e4 (by intro hb; simp at hb; exact h4W (by simp [Sx.W, hb]))
  have hpr := k5.rd hpr (by intro hb; simp at hb; exact hcW (by simp [Sx.W, hb]))
  refine Exists.intro _ (Exists.intro _ (And.intro e4.of (And.intro (show _ = some (.slice (some ⟨cb, 0, none⟩) c.pn c.pcap) from rfl) ?_)))
  refine Exists.intro i (And.intro rfl (And.intro hi ?_))
  refine Exists.intro _ (Exists.intro _ (And.intro hpr.of (And.intro pg.2.2.2 ?_)))
  refine And.intro (fun hb => ?_) (fun hb => ?_)
  · have h0 : 0 ≤ x.spill := by simpa using hb
    have hto : x.spill ≠ -1 := by omega
    have hx3 : x.spill.toNat < c.pn := by omega
    have i4 : InR ((s.ws.set i (u - spillL s (x, i))).getD x.spill.toNat 0 + (max (0) (u - (x.full)))) := by rw [hl]; exact q1.2.2.2
    refine wD_dreg (rd := false) ?_
    refine wD_addo (b := p.b9) (o := 0) rfl ?_
    refine wD_ld (b := p.b9) (o := 0 + 0) (v := .slice (some ⟨p.wb, 0, none⟩) c.pn p.cap) rfl cS.rd rfl ?_
    refine wD_addo (b := b4) (o := 0) rfl ?_
    refine wD_ld (b := b4) (o := 0 + 0) (v := .slice (some ⟨cb, 0, none⟩) c.pn c.pcap) rfl e4 rfl ?_
    refine wD_mov (v := iv ((i : Int))) rfl ?_
    refine wD_idx (b := cb) (o := 0) (k := i) (j := (i : Int)) rfl rfl rfl hi ?_
    refine wD_addo (b := cb) (o := 0 + i * 4) rfl ?_
    refine wD_ld (b := cb) (o := 0 + i * 4 + 3) (v := iv (x.spill)) rfl hpr pg.2.2.2 ?_
    refine wD_addo (b := p.b9) (o := 0) rfl ?_
    refine wD_ld (b := p.b9) (o := 0 + 0) (v := .slice (some ⟨p.wb, 0, none⟩) c.pn p.cap) rfl cS.rd rfl ?_
    refine wD_addo (b := b4) (o := 0) rfl ?_
    refine wD_ld (b := b4) (o := 0 + 0) (v := .slice (some ⟨cb, 0, none⟩) c.pn c.pcap) rfl e4 rfl ?_
    refine wD_mov (v := iv ((i : Int))) rfl ?_
    refine wD_idx (b := cb) (o := 0) (k := i) (j := (i : Int)) rfl rfl rfl hi ?_
    refine wD_addo (b := cb) (o := 0 + i * 4) rfl ?_
    refine wD_ld (b := cb) (o := 0 + i * 4 + 3) (v := iv (x.spill)) rfl hpr pg.2.2.2 ?_
    refine wD_idx (b := p.wb) (o := 0) (k := x.spill.toNat) (j := x.spill) rfl rfl (by omega) hx3 ?_
    refine wD_ld (b := p.wb) (o := 0 + x.spill.toNat * 1) (v := iv ((s.ws.set i (u - spillL s (x, i))).getD x.spill.toNat 0)) rfl cP.rd (by rw [Nat.zero_add, Nat.mul_one]; exact ints_get (by first | omega | (simp only [List.length_set]; omega))) ?_
    refine wD_mov (v := iv (max (0) (u - (x.full)))) rfl ?_
    refine wD_add (a := (s.ws.set i (u - spillL s (x, i))).getD x.spill.toNat 0) (b := max (0) (u - (x.full))) rfl rfl i4 ?_
    refine wD_idx (b := p.wb) (o := 0) (k := x.spill.toNat) (j := x.spill) rfl rfl (by omega) hx3 ?_
    refine wD_st (b := p.wb) (o := 0 + x.spill.toNat * 1) (v := iv ((s.ws.set i (u - spillL s (x, i))).getD x.spill.toNat 0 + (max (0) (u - (x.full))))) rfl rfl cP sa.lP rfl rfl (by simp only [ints_len, List.length_set]; omega) ?_
    intro H6 k6 n6 c6
    rw [Nat.zero_add, Nat.mul_one, hl, ints_set] at c6
    refine wD_end (end_store (by rfl) (by simp only [List.length_cons, List.length_nil, Nat.reduceAdd, Nat.reducePow, Nat.reduceSub])) ?_
    have sa6 := sa5.stP k6 c6 (by simp)
    refine hK _ H6 ⟨rfl, rfl, rfl, rfl, rfl, rfl, trivial⟩ ?_ ((k5.mono (by simp [Sx.W])).trans (k6.mono (by simp [Sx.W])))
    have e : spillS s (x, i) = { s with ws := (s.ws.set i (u - spillL s (x, i))).set x.spill.toNat ((s.ws.set i (u - spillL s (x, i))).getD x.spill.toNat 0 + spillL s (x, i)) } := by unfold spillS moveW moveR; simp only [if_neg hto, hu]
    rw [e]; exact sa6
  · have h0 : ¬ 0 ≤ x.spill := by simpa using hb
    have hto : x.spill = -1 := by omega
    refine Exists.intro _ (Exists.intro _ (And.intro cS.of (And.intro (show _ = some (iv s.river) from rfl) ?_)))
    refine And.intro (show InR (s.river + (max (0) (u - (x.full)))) by rw [hl]; exact q1.2.2.1) ?_
    obtain ⟨_, e6', l6, g6⟩ := id cS
    refine Exists.intro _ (Exists.intro _ (Exists.intro _ (And.intro g6 (And.intro sa.l9 (And.intro rfl (And.intro rfl (And.intro (by simp [Sx.cells]) ?_)))))))
    intro H6 hH6
    obtain ⟨k6, n6, c6⟩ := up_facts cS hH6; clear hH6
    have e : spillS s (x, i) = { s with ws := s.ws.set i (u - spillL s (x, i)), river := s.river + spillL s (x, i) } := by unfold spillS moveW moveR; simp only [if_pos hto, hu]
    have c6 : Cl H6 p.b9 (p.cells c.pn (spillS s (x, i)) b) := by
      rw [e]; rw [← hl]; exact c6
    refine hK _ H6 ⟨rfl, rfl, rfl, rfl, rfl, rfl, trivial⟩ (sa5.st9 k6 c6 (by rw [e])) ((k5.mono (by simp [Sx.W])).trans (k6.mono (by simp [Sx.W])))
end
end Go.Ax
namespace Go.Ax
open Go Go.RowKit Go.Proofs
/-- As hourB, with room for some more takes. -/
def hourW (h : Hr) (pn gn : Nat) : Bool := !(decide ((h.bn : Int) > 32)) && !((h.cn : Int) != (pn : Int)) && !(decide ((h.tn : Int) > 40)) &&
  (h.bs.all fun b => indexB b.gate gn && boardsB b.boards) && (h.cs.all fun s => withinB s.1 s.2 68719476736) && (h.ts.all fun t => indexB t.pond pn && waterB t.amount)
theorem hourW_B {h : Hr} {pn gn : Nat} (hv : hourW h pn gn = true) : hourB { h with tn := 0 } pn gn = true := by
  simp only [hourW, Bool.and_eq_true] at hv
  obtain ⟨⟨⟨⟨⟨v1, v2⟩, v3⟩, v4⟩, v5⟩, v6⟩ := hv
  simp only [hourB, Bool.and_eq_true]
  exact ⟨⟨⟨⟨⟨v1, v2⟩, by simp⟩, v4⟩, v5⟩, v6⟩
section
variable {kn : FuncId → Option Bool} {lo : Nat} {F H : Hp} {c : Ch} {ga' : Option Addr} {gcap' : Nat} {gs' : List Gt} {h : Hr} {b4 b6 b8 : Nat} {p : Sx} {s : St} {b g : Bool}
theorem sd_seeps {S : Rg} {K : Exit → Rg → Hp → Prop} (se : SE c ga' gcap' gs' h b4 b6 p F) (sa : SAt c.pn lo p F s b) (hlo : lo ≤ F.next) (v : c.Vd) {M B : Int} (gd : Good c.pn M B s) (hM : M ≤ 4398046511104) (hB : B ≤ 1152921504606846976)
    (hS : Subs [(18, iv ((0 : Nat) : Int)), (9, pt p.b9), (6, pt b6), (4, pt b4), (3, .bool g), (8, pt b8)] S)
    (hK : ∀ v0 v1 v2 v3 v4 H', SAt c.pn lo p H' (c.ponds.zipIdx.foldl (seepS g) s) b → Good c.pn M (B + c.pn * 4398046511104) (c.ponds.zipIdx.foldl (seepS g) s) → Keep F H' p.W → K (.exit 6) [(180, v0), (179, v1), (178, v2), (177, v3), (176, v4), (18, iv (c.pn : Int)), (9, pt p.b9), (6, pt b6), (4, pt b4), (3, .bool g), (8, pt b8)] H') :
    Tri Try.prog kn lo 309 false (at_ Try.f73 [1, 1, 1, 1, 1, 0, 1, 0]) S F K := by
  have h16 := v.h16; have hlp := v.lp
  have hvp := List.all_eq_true.1 v.p
  refine loop_lt E73_4 V73x4 (fun i : Nat => [(18, iv (i : Int)), (9, pt p.b9), (6, pt b6), (4, pt b4), (3, .bool g), (8, pt b8)])
    (fun k i H1 => i + k = c.pn ∧ SAt c.pn lo p H1 ((c.ponds.zipIdx.take i).foldl (seepS g) s) b ∧ Good c.pn M (B + i * 4398046511104) ((c.ponds.zipIdx.take i).foldl (seepS g) s) ∧ Keep F H1 p.W) c.pn 0 ⟨by omega, by simpa using sa, by simpa using gd, Keep.refl _ _⟩ hS ?_
  rintro k i H1 ⟨hik, sa1, gd1, hk⟩
  have se1 := se.keep hk (fun _ h => h)
  have hkn := hk.1
  have cS := sa1.hS
  refine Exists.intro _ (Exists.intro _ (And.intro cS.of (And.intro (show _ = some (.slice (some ⟨p.wb, 0, none⟩) c.pn p.cap) from rfl) ?_)))
  refine And.intro (fun hlt => ?_) (fun hge => ?_)
  · have hi : i < c.pn := by simpa using hlt
    have hp1 := se1.hp
    have e41 := se1.e4
    rcases hp1 with ⟨_, h0, _⟩ | ⟨cb, eca, hpr, _⟩
    · omega
    rw [eca] at e41
    obtain ⟨x, hx⟩ := get_some (l := c.ponds) (i := i) (by omega)
    have hz := zip_getP hx
    have hpd := hvp (x, i) (List.mem_of_getElem? hz)
    simp [pondB, withinB] at hpd
    obtain ⟨q1, q2⟩ := seep_good (g := g) gd1 (i := i) (p := x) hi (by omega) (by omega) (by omega) (by omega) (by omega)
    generalize hs1 : (c.ponds.zipIdx.take i).foldl (seepS g) s = s1 at *
    refine sd4_tail (cb := cb) (b6 := b6) (b8 := b8) (g := g) (x := x) (i := i) sa1 (by omega) hi rfl e41 hpr hx rfl se1.o4 (se1.op cb eca) (by omega) (by omega) (by omega) q1 ⟨rfl, rfl, rfl, rfl, rfl, rfl, trivial⟩ ?_
    intro S' H' hS' sa' k'
    refine tri_piece L73x4e hS' ?_
    refine And.intro ⟨by omega, by omega⟩ ?_
    refine ⟨k - 1, i + 1, by omega, ⟨by omega, ?_, ?_, hk.trans k'⟩, rfl, rfl, rfl, rfl, rfl, rfl, trivial⟩
    · rw [take_step hz, hs1]; exact sa'
    · rw [take_step hz, hs1]
      have e1 : ((i + 1 : Nat) : Int) * 4398046511104 = i * 4398046511104 + 4398046511104 := by rw [Int.natCast_add, Int.add_mul]; simp
      rw [e1, ← Int.add_assoc]
      exact q2
  · have hi : ¬ i < c.pn := by simpa using hge
    have hin : i = c.pn := by omega
    subst hin
    rw [List.take_of_length_le (by simp; omega)] at sa1 gd1
    exact hK _ _ _ _ _ _ sa1 gd1 hk
theorem sd_spills {S : Rg} {K : Exit → Rg → Hp → Prop} (se : SE c ga' gcap' gs' h b4 b6 p F) (sa : SAt c.pn lo p F s b) (hlo : lo ≤ F.next) (v : c.Vd) {M B : Int} (gd : Good c.pn M B s) (hM : M ≤ 4398046511104) (hB : B ≤ 1152921504606846976)
    (hS : Subs [(21, iv ((0 : Nat) : Int)), (9, pt p.b9), (6, pt b6), (4, pt b4), (3, .bool g), (8, pt b8)] S)
    (hK : ∀ v0 v1 v2 v3 v4 H', SAt c.pn lo p H' (c.ponds.zipIdx.foldl spillS s) b → Good c.pn M (B + c.pn * 0) (c.ponds.zipIdx.foldl spillS s) → Keep F H' p.W → K (.exit 8) [(248, v0), (247, v1), (246, v2), (245, v3), (244, v4), (21, iv (c.pn : Int)), (9, pt p.b9), (6, pt b6), (4, pt b4), (3, .bool g), (8, pt b8)] H') :
    Tri Try.prog kn lo 309 false (at_ Try.f73 [1, 1, 1, 1, 1, 1, 0, 1, 0]) S F K := by
  have h16 := v.h16; have hlp := v.lp
  have hvp := List.all_eq_true.1 v.p
  refine loop_lt E73_5 V73x5 (fun i : Nat => [(21, iv (i : Int)), (9, pt p.b9), (6, pt b6), (4, pt b4), (3, .bool g), (8, pt b8)])
    (fun k i H1 => i + k = c.pn ∧ SAt c.pn lo p H1 ((c.ponds.zipIdx.take i).foldl spillS s) b ∧ Good c.pn M (B + i * 0) ((c.ponds.zipIdx.take i).foldl spillS s) ∧ Keep F H1 p.W) c.pn 0 ⟨by omega, by simpa using sa, by simpa using gd, Keep.refl _ _⟩ hS ?_
  rintro k i H1 ⟨hik, sa1, gd1, hk⟩
  have se1 := se.keep hk (fun _ h => h)
  have hkn := hk.1
  have cS := sa1.hS
  refine Exists.intro _ (Exists.intro _ (And.intro cS.of (And.intro (show _ = some (.slice (some ⟨p.wb, 0, none⟩) c.pn p.cap) from rfl) ?_)))
  refine And.intro (fun hlt => ?_) (fun hge => ?_)
  · have hi : i < c.pn := by simpa using hlt
    have hp1 := se1.hp
    have e41 := se1.e4
    rcases hp1 with ⟨_, h0, _⟩ | ⟨cb, eca, hpr, _⟩
    · omega
    rw [eca] at e41
    obtain ⟨x, hx⟩ := get_some (l := c.ponds) (i := i) (by omega)
    have hz := zip_getP hx
    have hpd := hvp (x, i) (List.mem_of_getElem? hz)
    simp [pondB, withinB] at hpd
    obtain ⟨q1, q2⟩ := spill_good gd1 (i := i) (p := x) hi (by omega) (by omega) (by omega) (by omega) (by omega)
    generalize hs1 : (c.ponds.zipIdx.take i).foldl spillS s = s1 at *
    refine sd5_tail (cb := cb) (b6 := b6) (b8 := b8) (g := g) (x := x) (i := i) sa1 (by omega) hi rfl e41 hpr hx rfl se1.o4 (se1.op cb eca) (by omega) q1 ⟨rfl, rfl, rfl, rfl, rfl, rfl, trivial⟩ ?_
    intro S' H' hS' sa' k'
    refine tri_piece L73x5e hS' ?_
    refine And.intro ⟨by omega, by omega⟩ ?_
    refine ⟨k - 1, i + 1, by omega, ⟨by omega, ?_, ?_, hk.trans k'⟩, rfl, rfl, rfl, rfl, rfl, rfl, trivial⟩
    · rw [take_step hz, hs1]; exact sa'
    · rw [take_step hz, hs1]
      simp only [Int.mul_zero, Int.add_zero] at q2 ⊢
      exact q2
  · have hi : ¬ i < c.pn := by simpa using hge
    have hin : i = c.pn := by omega
    subst hin
    rw [List.take_of_length_le (by simp; omega)] at sa1 gd1
    exact hK _ _ _ _ _ _ sa1 gd1 hk
/-- An hour whose boards are set. -/
def sideF (c : Ch) (g : Bool) (h : Hr) (gs' : List Gt) (s : St) : St := c.ponds.zipIdx.foldl spillS (c.ponds.zipIdx.foldl (seepS g) (h.ts.foldl takeS (gs'.foldl flowS ((endS g h.cs).zipIdx.foldl comeS s))))
def sideB (g : Bool) (h : Hr) (gs' : List Gt) (s : St) : Bool := allS h.ts (gs'.foldl flowS ((endS g h.cs).zipIdx.foldl comeS s))
theorem pure_side {n : Nat} {S : Rg} {d : Option Tmp} {x : Operand} {p : String} {a : Option Addr} {m c : Nat} (hx : evS S x = some (.slice a m c)) :
    pureOp Try.prog (frS n S) ⟨d, .build 126 #[(0, x), (5, .const (.bool true))], 126, p, #[], none⟩ = some (.agg #[.slice a m c, iv 0, iv 0, iv 0, iv 0, .bool true]) := by
  have hu : ∃ fs, Try.prog.underlying 126 = some (.struct fs) ∧ placesOf Try.prog fs.toList = some [(0, 1), (1, 1), (2, 1), (3, 1), (4, 1), (5, 1)] := by
    have h : (match Try.prog.underlying 126 with | some (.struct fs) => placesOf Try.prog fs.toList | _ => none) = some [(0, 1), (1, 1), (2, 1), (3, 1), (4, 1), (5, 1)] := by kernel_rfl
    split at h
    · rename_i fs e; exact ⟨fs, e, h⟩
    · cases h
  have z126 : zeroOf Try.prog 126 = some (.agg #[.slice none 0 0, iv 0, iv 0, iv 0, iv 0, .bool false]) := by kernel_rfl
  obtain ⟨fs, h1, h2⟩ := hu
  unfold pureOp
  simp only [partsOf, ev_frS, hx, z126, h1, h2]
  rfl
theorem ag126 : isAggB Try.prog 126 = some true := by kernel_rfl
theorem i126 : ∃ i, Try.prog.info? 126 = some i ∧ i.size = 6 := by
  have h : (Try.prog.info? 126).map (fun i => i.size) = some 6 := by kernel_rfl
  cases e : Try.prog.info? 126 with
  | none => rw [e] at h; cases h
  | some i => rw [e] at h; simp at h; exact ⟨i, rfl, h⟩
theorem side_ok {wa : Option Addr} {wcap : Nat} {ws : List Int} (v : c.Vd) (hp : Sl H c.pa c.pn c.pcap (pdc c.ponds)) (hg : Sl H ga' c.gn gcap' (gtc gs')) (lg : gs'.length = c.gn) (hw : Sl H wa c.pn wcap (ints ws)) (hwl : ws.length = c.pn) (ha : h.At H) (hv : hourW h c.pn c.gn = true) (hgs : gs'.all (fun g => gateB g c.pn) = true) (ah : Ahead c.ponds 0 ⟨ws, 0, 0, 0, 0⟩) (hlo : lo ≤ H.next) :
    ∃ wb H', FnX Try.prog kn lo 73 [chv c.pa c.pn c.pcap ga' c.gn gcap', .slice wa c.pn wcap, .agg h.v.toArray, .bool g] H (.agg (Sx.cells ⟨0, wb, c.pn⟩ c.pn (sideF c g h gs' ⟨ws, 0, 0, 0, 0⟩) (sideB g h gs' ⟨ws, 0, 0, 0, 0⟩)).toArray) H' ∧ Keep H H' [] ∧ H.next ≤ wb ∧ Cl H' wb (ints (sideF c g h gs' ⟨ws, 0, 0, 0, 0⟩).ws) := by
  have key := fnX_low (kn := kn) (lo := lo) (H := H) (args := [chv c.pa c.pn c.pcap ga' c.gn gcap', .slice wa c.pn wcap, .agg h.v.toArray, .bool g]) (Q := fun u H' => ∃ wb, u = (.agg (Sx.cells ⟨0, wb, c.pn⟩ c.pn (sideF c g h gs' ⟨ws, 0, 0, 0, 0⟩) (sideB g h gs' ⟨ws, 0, 0, 0, 0⟩)).toArray) ∧ Keep H H' [] ∧ H.next ≤ wb ∧ Cl H' wb (ints (sideF c g h gs' ⟨ws, 0, 0, 0, 0⟩).ws)) Try.func73 B73 N73 Z73 L73 (by simp) ?_
  · obtain ⟨u, H', q, wb, rfl, r⟩ := key; exact ⟨wb, H', q, r⟩
  have h16 := v.h16; have h32 := v.h32; have h1 := v.h1
  have hlp := v.lp
  have hpf := pond_facts v
  have hv0 := hv
  simp only [hourW, Bool.and_eq_true] at hv
  obtain ⟨⟨⟨⟨⟨v1, v2⟩, v3⟩, v4⟩, v5⟩, v6⟩ := hv
  have hcn : h.cn = c.pn := by simp at v2; omega
  have htn : h.tn ≤ 40 := by simp at v3; omega
  have hsum : ws.sum ≤ 1099511627776 := sum_bound (ponds := c.ponds) (by omega) (by omega) fun j p hp => ⟨ah.full j p hp, (hpf p (List.mem_of_getElem? hp)).2.2⟩
  have hn0 := sum_nonneg _ ah.pos
  have gd0 : Good c.pn 1099511627776 1099511627776 ⟨ws, 0, 0, 0, 0⟩ := ⟨hwl, ah.pos, hsum, by simp, by simp, by simp, by simp, by simp, by simp, by simp only; omega⟩
  intro H1 hH1; obtain ⟨k1, n1, c1⟩ := new_facts hH1; clear hH1
  intro H2 hH2; obtain ⟨k2, n2, c2⟩ := new_facts hH2; clear hH2
  intro H3 hH3; obtain ⟨k3, n3, c3⟩ := new_facts hH3; clear hH3
  have c1 : Cl H3 H.next [.slice c.pa c.pn c.pcap, .slice ga' c.gn gcap'] := k3.cl (k2.cl c1 (by simp)) (by simp)
  have c2 : Cl H3 H1.next h.v := k3.cl c2 (by simp)
  have k03 : Keep H H3 [] := (k1.trans k2).trans k3
  have m1 := k1.1; have m2 := k2.1; have m3 := k3.1
  obtain ⟨Ha, hHa⟩ : ∃ Ha, H3.new (.cells [] 3 false) = Ha := ⟨_, rfl⟩
  refine And.intro rfl (Or.inr (And.intro rfl (Exists.intro _ (Exists.intro Ha (Exists.intro _ (And.intro ((heap_build0 se33 z3).trans (by rw [← hHa])) (And.intro (fun b e => by cases e) ?_)))))))
  have hga : Ha.t.get H3.next = some (.cells [] 3 false) := by
    rw [← hHa]; show (H3.t.set H3.next _).get H3.next = _; rw [Tr.get_set, if_pos rfl]
  obtain ⟨ka, na, ca⟩ := new_facts hHa
  clear hHa
  have ma := ka.1
  obtain ⟨Hb, hHb⟩ : ∃ Hb, Ha.new (.cells (ints ws) 3 true) = Hb := ⟨_, rfl⟩
  refine And.intro rfl (Or.inr (And.intro (by kernel_rfl) (Exists.intro _ (Exists.intro Hb (Exists.intro _ (And.intro ((heap_append_empty se33 u33 hga rfl rfl ((k03.trans ka).sl0 hw) (by rw [ints_len]; omega) (by omega) (by omega)).trans (by rw [← hHb])) (And.intro (fun b e => by cases e) ?_)))))))
  obtain ⟨kb, nb, cb⟩ := new_facts hHb
  clear hHb
  have mb := kb.1
  refine And.intro rfl (Exists.intro (.agg #[.slice (some ⟨Ha.next, 0, none⟩) c.pn c.pn, iv 0, iv 0, iv 0, iv 0, .bool true]) (And.intro (pure_side rfl) ?_))
  intro Hc hHc; obtain ⟨kc, nc, cc⟩ := new_facts hHc; clear hHc
  obtain ⟨_, ec, lc, gc⟩ := id cc
  have mc := kc.1
  refine Exists.intro _ (Exists.intro _ (Exists.intro _ (And.intro gc (And.intro (by omega) (And.intro rfl (And.intro rfl (And.intro (by simp) ?_)))))))
  intro Hd hHd; obtain ⟨kd, nd, cd⟩ := up_facts cc hHd; clear hHd
  have cd : Cl Hd Hb.next (Sx.cells ⟨Hb.next, Ha.next, c.pn⟩ c.pn ⟨ws, 0, 0, 0, 0⟩ true) := cd
  have kbd : Keep Hb Hd [] := kc.new kd (by simp)
  have k3d : Keep H3 Hd [] := (ka.trans kb).trans kbd
  have k0d := k03.trans k3d
  have md := k3d.1
  have saD : SAt c.pn lo ⟨Hb.next, Ha.next, c.pn⟩ Hd ⟨ws, 0, 0, 0, 0⟩ true := ⟨cd, kbd.cl cb (by simp), hwl, by simp only; omega, by simp only; omega, by simp only; omega⟩
  have off : ∀ b, b < H3.next → b ∉ Sx.W ⟨Hb.next, Ha.next, c.pn⟩ := fun b hb hq => by simp [Sx.W] at hq; omega
  have seD : SE c ga' gcap' gs' h H.next H1.next ⟨Hb.next, Ha.next, c.pn⟩ Hd := ⟨(k3d.cl c1 (by simp)).rd, (k3d.cl c2 (by simp)).rd, k0d.sl0 hp, k0d.sl0 hg, ha.keep k0d, lg, off _ (by omega), off _ (by omega),
    fun b e => off b (by have := hp.lt b e; omega), fun b e => off b (by have := hg.lt b e; omega), fun b e => off b (by have := ha.b.lt b e; omega), fun b e => off b (by have := ha.c.lt b e; omega), fun b e => off b (by have := ha.t.lt b e; omega)⟩
  have c3d := k3d.cl c3 (by simp)
  refine sd_comes (b8 := H2.next) seD saD h16 hcn gd0 (by omega) (by omega) (fun x hx => ?_) ⟨rfl, rfl, rfl, rfl, rfl, rfl, trivial⟩ ?_
  · have := List.all_eq_true.1 v5 x hx
    simp [withinB] at this; omega
  intro w1 w2 w3 w4 w5 He saE gdE kE
  have seE := seD.keep kE (fun _ h => h)
  have mE := kE.1
  refine sd_gates (b8 := H2.next) seE saE (by omega) h16 h32 hgs gdE (by omega) (by omega) ⟨rfl, rfl, rfl, rfl, rfl, rfl, trivial⟩ ?_
  intro w6 w7 w8 w9 w10 Hf saF gdF kF
  have seF := seE.keep kF (fun _ h => h)
  have mF := kF.1
  refine sd_takes (b8 := H2.next) seF saF (by omega) h16 htn (fun x hx => ?_) gdF (by omega) (by omega) ⟨rfl, rfl, rfl, rfl, rfl, rfl, trivial⟩ ?_
  · have := List.all_eq_true.1 v6 x hx
    simp [indexB, waterB] at this; omega
  intro w11 w12 w13 w14 w15 Hg saG gdG kG
  have seG := seF.keep kG (fun _ h => h)
  have mG := kG.1
  refine sd_seeps (b8 := H2.next) seG saG (by omega) v gdG (by omega) (by omega) ⟨rfl, rfl, rfl, rfl, rfl, rfl, trivial⟩ ?_
  intro w16 w17 w18 w19 w20 Hh saH gdH kH
  have seH := seG.keep kH (fun _ h => h)
  have mH := kH.1
  refine sd_spills (b8 := H2.next) seH saH (by omega) v gdH (by omega) (by omega) ⟨rfl, rfl, rfl, rfl, rfl, rfl, trivial⟩ ?_
  intro w21 w22 w23 w24 w25 Hi saI gdI kI
  have mI := kI.1
  have kdI : Keep Hd Hi (Sx.W ⟨Hb.next, Ha.next, c.pn⟩) := kE.trans (kF.trans (kG.trans (kH.trans kI)))
  have c3I := kdI.cl c3d (off _ (by omega))
  have cSI := saI.hS
  refine Exists.intro _ (Exists.intro _ (And.intro cSI.of (And.intro (show row 6 _ _ = some (Sx.cells ⟨Hb.next, Ha.next, c.pn⟩ c.pn (sideF c g h gs' ⟨ws, 0, 0, 0, 0⟩) (sideB g h gs' ⟨ws, 0, 0, 0, 0⟩)) from rfl) ?_)))
  obtain ⟨_, ej, lj, gj⟩ := id c3I
  refine Exists.intro _ (Exists.intro _ (Exists.intro _ (And.intro gj (And.intro (by omega) (And.intro rfl (And.intro rfl (And.intro (by simp) ?_)))))))
  intro Hj hHj; obtain ⟨kj, nj, cj⟩ := up_facts c3I hHj; clear hHj
  have cj : Cl Hj H2.next (Sx.cells ⟨Hb.next, Ha.next, c.pn⟩ c.pn (sideF c g h gs' ⟨ws, 0, 0, 0, 0⟩) (sideB g h gs' ⟨ws, 0, 0, 0, 0⟩)) := cj
  obtain ⟨i, hi, hs⟩ := i126
  have hr := load_all ag126 hi (cs := Sx.cells ⟨Hb.next, Ha.next, c.pn⟩ c.pn (sideF c g h gs' ⟨ws, 0, 0, 0, 0⟩) (sideB g h gs' ⟨ws, 0, 0, 0, 0⟩)) hs cj.rd
  refine And.intro trivial (Exists.intro [.agg (Sx.cells ⟨Hb.next, Ha.next, c.pn⟩ c.pn (sideF c g h gs' ⟨ws, 0, 0, 0, 0⟩) (sideB g h gs' ⟨ws, 0, 0, 0, 0⟩)).toArray] (And.intro ?_ ⟨Ha.next, rfl, ?_, by omega, kj.cl saI.hP (by simp; omega)⟩))
  · have e6 : ptr H2.next = pt H2.next := rfl
    simp only [resS, lk, beq_eq, Nat.reduceEqDiff, decide_true, decide_false, cond_true, cond_false, putS, e6, hr]
  · refine ((k0d.new kdI (fun b hb => .inr ?_)).new kj (fun b hb => .inr (by simp at hb; omega)))
    simp [Sx.W] at hb; omega
end
end Go.Ax

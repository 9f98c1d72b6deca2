import Derived.Test.YtbgdbnnbfankeaaMb
import Derived.Test.YtbgdbnnbfankeaaAxW9
import Derived.Test.YtbgdbnnbfankeaaChecked
set_option linter.all false
/-! What 'low' makes of functions of plant (written by program). -/
namespace Go.Ax
open Go Go.RowKit Go.Proofs
theorem N80 : Try.f80.ntmps = 18 := by kernel_rfl
theorem Z80 : Try.f80.results.toList = ((List.toArray [(.tmp 2)]) : Array ResultVar).toList := by kernel_rfl
theorem B80 : Try.f80.body = some (at_ Try.f80 []) := by kernel_rfl
noncomputable def R80 : RC := (.seq (.reg [⟨(some 1), none, (.box 76 (.tmp 0))⟩, ⟨(some 2), none, (.mov (.const (.bool false)))⟩])
  (.seq (.reg [⟨(some 3), none, (.addo (.tmp 1) 1)⟩, ⟨(some 4), none, (.ld (.tmp 3) 1)⟩, ⟨(some 5), none, (.call ⟨(.value (.func 95)), (List.toArray [(.tmp 4), (.const (.int .i64 500))]), (List.toArray [3, 3])⟩ true)⟩, ⟨(some 6), none, (.mov (.tmp 5))⟩, ⟨(some 7), (some (6, true)), (.addo (.tmp 1) 0)⟩, ⟨(some 8), (some (6, true)), (.ld (.tmp 7) 1)⟩, ⟨(some 9), (some (6, true)), (.addo (.tmp 1) 1)⟩, ⟨(some 10), (some (6, true)), (.ld (.tmp 9) 1)⟩, ⟨(some 11), (some (6, true)), (.call ⟨(.value (.func 95)), (List.toArray [(.tmp 8), (.tmp 10)]), (List.toArray [3, 3])⟩ true)⟩, ⟨(some 12), none, (.pur ⟨(some 12), (.pick (.tmp 6) (.tmp 11) (.const (.bool false))), 4, "", (List.toArray []), none⟩)⟩, ⟨(some 13), none, (.mov (.tmp 12))⟩, ⟨(some 14), (some (13, true)), (.addo (.tmp 1) 2)⟩, ⟨(some 15), (some (13, true)), (.ld (.tmp 14) 1)⟩, ⟨(some 16), (some (13, true)), (.call ⟨(.value (.func 95)), (List.toArray [(.tmp 15), (.const (.int .i64 1099511627776))]), (List.toArray [3, 3])⟩ true)⟩, ⟨(some 17), none, (.pur ⟨(some 17), (.pick (.tmp 13) (.tmp 16) (.const (.bool false))), 4, "", (List.toArray []), none⟩)⟩, ⟨(some 2), none, (.mov (.tmp 17))⟩])
  .ret))
theorem L80 : low Try.prog Try.f80.ntmps (at_ Try.f80 []) = some R80 := by kernel_rfl
theorem N79 : Try.f79.ntmps = 7 := by kernel_rfl
theorem Z79 : Try.f79.results.toList = ((List.toArray [(.tmp 4)]) : Array ResultVar).toList := by kernel_rfl
theorem B79 : Try.f79.body = some (at_ Try.f79 []) := by kernel_rfl
noncomputable def R79 : RC := (.seq (.reg [⟨(some 3), none, (.box 76 (.tmp 1))⟩, ⟨(some 4), none, (.mov (.const (.bool false)))⟩])
  (.seq (.reg [⟨(some 5), none, (.lda (.tmp 3) 3)⟩, ⟨(some 6), none, (.call ⟨(.value (.func 80)), (List.toArray [(.tmp 5)]), (List.toArray [76])⟩ true)⟩, ⟨(some 4), none, (.mov (.tmp 6))⟩])
  .ret))
theorem L79 : low Try.prog Try.f79.ntmps (at_ Try.f79 []) = some R79 := by kernel_rfl
theorem N78 : Try.f78.ntmps = 34 := by kernel_rfl
theorem Z78 : Try.f78.results.toList = ((List.toArray [(.tmp 8)]) : Array ResultVar).toList := by kernel_rfl
theorem B78 : Try.f78.body = some (at_ Try.f78 []) := by kernel_rfl
noncomputable def R78 : RC := (.seq (.reg [⟨(some 8), none, (.mov (.const (.bool false)))⟩])
  (.seq (.seq (.reg [⟨(some 11), none, (.mov (.tmp 0))⟩, ⟨(some 12), none, (.len (.tmp 11))⟩, ⟨(some 13), none, (.mov (.tmp 1))⟩, ⟨(some 14), none, (.cmpb .lss (.tmp 12) (.tmp 13))⟩, ⟨(some 15), none, (.mov (.tmp 14))⟩, ⟨(some 16), (some (15, false)), (.mov (.tmp 0))⟩, ⟨(some 17), (some (15, false)), (.len (.tmp 16))⟩, ⟨(some 18), (some (15, false)), (.mov (.tmp 2))⟩, ⟨(some 19), (some (15, false)), (.cmpb .gtr (.tmp 17) (.tmp 18))⟩, ⟨(some 20), none, (.pur ⟨(some 20), (.pick (.tmp 15) (.const (.bool true)) (.tmp 19)), 4, "", (List.toArray []), none⟩)⟩])
  (.cond (.tmp 20) (.seq (.reg [⟨(some 8), none, (.mov (.const (.bool false)))⟩])
  .ret)
  .skip))
  (.seq (.seq (.reg [⟨(some 21), none, (.mov (.tmp 0))⟩, ⟨(some 22), none, (.len (.tmp 21))⟩, ⟨(some 23), none, (.mov (.const (.int .i64 0)))⟩])
  (.block 0 (.other (at_ Try.f78 [1, 1, 0, 1, 0]))))
  (.seq (.reg [⟨(some 8), none, (.mov (.const (.bool true)))⟩])
  .ret))))
theorem L78 : low Try.prog Try.f78.ntmps (at_ Try.f78 []) = some R78 := by kernel_rfl
theorem E78_1 : at_ Try.f78 [1, 1, 0, 1, 0] = .loop (at_ Try.f78 [1, 1, 0, 1, 0, 0]) := by kernel_rfl
noncomputable def R78x1 : RC := (.seq (.reg [⟨(some 24), none, (.cmp .lss (.tmp 23) (.tmp 22))⟩])
  (.seq (.cond (.tmp 24) .skip
  (.exit 0))
  (.seq (.block 1 (.seq (.reg [⟨(some 25), none, (.mov (.tmp 23))⟩, ⟨(some 26), none, (.idx (.tmp 21) (.tmp 23) 3)⟩, ⟨(some 27), none, (.lda (.tmp 26) 3)⟩, ⟨(some 10), none, (.alc 76 [(.int .i64 0), (.int .i64 0), (.int .i64 0)])⟩, ⟨(some 9), none, (.mov (.tmp 25))⟩, ⟨none, none, (.sta (.tmp 10) (.tmp 27) 3)⟩])
  (.seq (.reg [⟨(some 28), none, (.mov (.tmp 3))⟩, ⟨(some 29), none, (.mov (.tmp 9))⟩, ⟨(some 30), none, (.lda (.tmp 10) 3)⟩, ⟨(some 31), none, (.call ⟨(.value (.tmp 28)), (List.toArray [(.tmp 29), (.tmp 30)]), (List.toArray [3, 76])⟩ true)⟩, ⟨(some 32), none, (.pur ⟨(some 32), (.unOp .not 4 (.tmp 31)), 4, "", (List.toArray []), none⟩)⟩])
  (.cond (.tmp 32) (.seq (.reg [⟨(some 8), none, (.mov (.const (.bool false)))⟩])
  .ret)
  .skip))))
  (.reg [⟨(some 33), none, (.ari .add (.tmp 23) (.const (.int .i64 1)))⟩, ⟨(some 23), none, (.mov (.tmp 33))⟩]))))
theorem L78x1 : low Try.prog Try.f78.ntmps (at_ Try.f78 [1, 1, 0, 1, 0, 0]) = some R78x1 := by kernel_rfl
theorem N57 : Try.f57.ntmps = 9 := by kernel_rfl
theorem Z57 : Try.f57.results.toList = ((List.toArray [(.tmp 2)]) : Array ResultVar).toList := by kernel_rfl
theorem B57 : Try.f57.body = some (at_ Try.f57 []) := by kernel_rfl
noncomputable def R57 : RC := (.seq (.reg [⟨(some 2), none, (.mov (.const (.int .i64 0)))⟩])
  (.seq (.seq (.reg [⟨(some 3), none, (.mov (.tmp 0))⟩, ⟨(some 4), none, (.len (.tmp 3))⟩, ⟨(some 5), none, (.cmp .gtr (.tmp 4) (.const (.int .i64 16)))⟩])
  (.cond (.tmp 5) (.seq (.reg [⟨(some 2), none, (.mov (.const (.int .i64 3)))⟩])
  .ret)
  .skip))
  (.seq (.seq (.reg [⟨(some 6), none, (.mov (.tmp 0))⟩, ⟨(some 7), none, (.call ⟨(.value (.func 78)), (List.toArray [(.tmp 6), (.const (.int .i64 0)), (.const (.int .i64 16)), (.func 79)]), (List.toArray [47, 3, 3, 126])⟩ true)⟩, ⟨(some 8), none, (.pur ⟨(some 8), (.unOp .not 4 (.tmp 7)), 4, "", (List.toArray []), none⟩)⟩])
  (.cond (.tmp 8) (.seq (.reg [⟨(some 2), none, (.mov (.const (.int .i64 1)))⟩])
  .ret)
  .skip))
  (.seq (.reg [⟨(some 2), none, (.mov (.const (.int .i64 0)))⟩])
  .ret))))
theorem L57 : low Try.prog Try.f57.ntmps (at_ Try.f57 []) = some R57 := by kernel_rfl
theorem N116 : Try.f116.ntmps = 6 := by kernel_rfl
theorem Z116 : Try.f116.results.toList = ((List.toArray [(.tmp 2)]) : Array ResultVar).toList := by kernel_rfl
theorem B116 : Try.f116.body = some (at_ Try.f116 []) := by kernel_rfl
noncomputable def R116 : RC := (.seq (.reg [⟨(some 2), none, (.mov (.const (.bool false)))⟩])
  (.seq (.reg [⟨(some 3), none, (.mov (.tmp 0))⟩, ⟨(some 4), none, (.mov (.tmp 0))⟩, ⟨(some 5), none, (.cmp .neq (.tmp 3) (.tmp 4))⟩, ⟨(some 2), none, (.mov (.tmp 5))⟩])
  .ret))
theorem L116 : low Try.prog Try.f116.ntmps (at_ Try.f116 []) = some R116 := by kernel_rfl
theorem N113 : Try.f113.ntmps = 20 := by kernel_rfl
theorem Z113 : Try.f113.results.toList = ((List.toArray [(.tmp 4)]) : Array ResultVar).toList := by kernel_rfl
theorem B113 : Try.f113.body = some (at_ Try.f113 []) := by kernel_rfl
noncomputable def R113 : RC := (.seq (.reg [⟨(some 4), none, (.mov (.const (.int .i64 0)))⟩])
  (.seq (.reg [⟨(some 7), none, (.mov (.tmp 0))⟩, ⟨(some 8), none, (.call ⟨(.value (.func 116)), (List.toArray [(.tmp 7)]), (List.toArray [3])⟩ true)⟩, ⟨(some 5), none, (.mov (.tmp 8))⟩])
  (.seq (.reg [⟨(some 9), none, (.mov (.tmp 1))⟩, ⟨(some 10), none, (.call ⟨(.value (.func 116)), (List.toArray [(.tmp 9)]), (List.toArray [3])⟩ true)⟩, ⟨(some 6), none, (.mov (.tmp 10))⟩])
  (.seq (.seq (.reg [⟨(some 11), none, (.mov (.tmp 5))⟩])
  (.cond (.tmp 11) (.seq (.seq (.reg [⟨(some 12), none, (.mov (.tmp 6))⟩])
  (.cond (.tmp 12) (.seq (.reg [⟨(some 4), none, (.mov (.const (.int .i64 0)))⟩])
  .ret)
  .skip))
  (.seq (.reg [⟨(some 4), none, (.mov (.const (.int .i64 (-1))))⟩])
  .ret))
  .skip))
  (.seq (.seq (.reg [⟨(some 13), none, (.mov (.tmp 6))⟩])
  (.cond (.tmp 13) (.seq (.reg [⟨(some 4), none, (.mov (.const (.int .i64 1)))⟩])
  .ret)
  .skip))
  (.seq (.seq (.reg [⟨(some 14), none, (.mov (.tmp 0))⟩, ⟨(some 15), none, (.mov (.tmp 1))⟩, ⟨(some 16), none, (.cmp .lss (.tmp 14) (.tmp 15))⟩])
  (.cond (.tmp 16) (.seq (.reg [⟨(some 4), none, (.mov (.const (.int .i64 (-1))))⟩])
  .ret)
  .skip))
  (.seq (.seq (.reg [⟨(some 17), none, (.mov (.tmp 0))⟩, ⟨(some 18), none, (.mov (.tmp 1))⟩, ⟨(some 19), none, (.cmp .gtr (.tmp 17) (.tmp 18))⟩])
  (.cond (.tmp 19) (.seq (.reg [⟨(some 4), none, (.mov (.const (.int .i64 1)))⟩])
  .ret)
  .skip))
  (.seq (.reg [⟨(some 4), none, (.mov (.const (.int .i64 0)))⟩])
  .ret))))))))
theorem L113 : low Try.prog Try.f113.ntmps (at_ Try.f113 []) = some R113 := by kernel_rfl
theorem N105 : Try.f105.ntmps = 20 := by kernel_rfl
theorem Z105 : Try.f105.results.toList = ((List.toArray [(.tmp 6)]) : Array ResultVar).toList := by kernel_rfl
theorem B105 : Try.f105.body = some (at_ Try.f105 []) := by kernel_rfl
noncomputable def R105 : RC := (.seq (.reg [⟨(some 3), none, (.box 128 (.tmp 0))⟩, ⟨(some 6), none, (.mov (.const (.int .i64 0)))⟩])
  (.seq (.dreg [⟨(some 7), none, (.addo (.tmp 3) 0)⟩, ⟨(some 8), none, (.ld (.tmp 7) 1)⟩, ⟨(some 9), none, (.mov (.tmp 1))⟩, ⟨(some 10), none, (.idx (.tmp 8) (.tmp 9) 3)⟩, ⟨(some 11), none, (.addo (.tmp 10) 1)⟩, ⟨(some 12), none, (.ld (.tmp 11) 1)⟩, ⟨(some 13), none, (.addo (.tmp 3) 0)⟩, ⟨(some 14), none, (.ld (.tmp 13) 1)⟩, ⟨(some 15), none, (.mov (.tmp 2))⟩, ⟨(some 16), none, (.idx (.tmp 14) (.tmp 15) 3)⟩, ⟨(some 17), none, (.addo (.tmp 16) 1)⟩, ⟨(some 18), none, (.ld (.tmp 17) 1)⟩, ⟨(some 19), none, (.call ⟨(.value (.func 113)), (List.toArray [(.tmp 12), (.tmp 18)]), (List.toArray [3, 3])⟩ true)⟩, ⟨(some 6), none, (.mov (.tmp 19))⟩] [8191, 4095, 1984, 960, 448, 0, 64, 0, 31, 15, 7, 0, 1, 0])
  .ret))
theorem L105 : low Try.prog Try.f105.ntmps (at_ Try.f105 []) = some R105 := by kernel_rfl
theorem N114 : Try.f114.ntmps = 53 := by kernel_rfl
theorem Z114 : Try.f114.results.toList = ((List.toArray []) : Array ResultVar).toList := by kernel_rfl
theorem B114 : Try.f114.body = some (at_ Try.f114 []) := by kernel_rfl
noncomputable def R114 : RC := (.seq (.reg [⟨(some 10), none, (.mov (.tmp 1))⟩, ⟨(some 11), none, (.ari .add (.tmp 10) (.const (.int .i64 1)))⟩, ⟨(some 8), none, (.mov (.tmp 11))⟩])
  (.block 0 (.other (at_ Try.f114 [1, 0]))))
theorem L114 : low Try.prog Try.f114.ntmps (at_ Try.f114 []) = some R114 := by kernel_rfl
theorem E114_1 : at_ Try.f114 [1, 0] = .loop (at_ Try.f114 [1, 0, 0]) := by kernel_rfl
noncomputable def R114x1 : RC := (.seq (.seq (.reg [⟨(some 12), none, (.mov (.tmp 8))⟩, ⟨(some 13), none, (.mov (.tmp 2))⟩, ⟨(some 14), none, (.cmp .lss (.tmp 12) (.tmp 13))⟩])
  (.cond (.tmp 14) .skip
  (.exit 0)))
  (.seq (.block 1 (.seq (.reg [⟨(some 17), none, (.mov (.tmp 8))⟩, ⟨(some 9), none, (.mov (.tmp 17))⟩])
  (.block 2 (.other (at_ Try.f114 [1, 0, 0, 1, 0, 0, 1, 0])))))
  (.reg [⟨(some 15), none, (.mov (.tmp 8))⟩, ⟨(some 16), none, (.ari .add (.tmp 15) (.const (.int .i64 1)))⟩, ⟨(some 8), none, (.mov (.tmp 16))⟩])))
theorem L114x1 : low Try.prog Try.f114.ntmps (at_ Try.f114 [1, 0, 0]) = some R114x1 := by kernel_rfl
theorem E114_2 : at_ Try.f114 [1, 0, 0, 1, 0, 0, 1, 0] = .loop (at_ Try.f114 [1, 0, 0, 1, 0, 0, 1, 0, 0]) := by kernel_rfl
noncomputable def R114x2 : RC := (.seq (.seq (.dreg [⟨(some 18), none, (.mov (.tmp 9))⟩, ⟨(some 19), none, (.mov (.tmp 1))⟩, ⟨(some 20), none, (.cmpb .gtr (.tmp 18) (.tmp 19))⟩, ⟨(some 21), none, (.mov (.tmp 20))⟩, ⟨(some 22), (some (21, true)), (.mov (.tmp 3))⟩, ⟨(some 23), (some (21, true)), (.mov (.tmp 0))⟩, ⟨(some 24), (some (21, true)), (.mov (.tmp 9))⟩, ⟨(some 25), (some (21, true)), (.idx (.tmp 23) (.tmp 24) 1)⟩, ⟨(some 26), (some (21, true)), (.ld (.tmp 25) 1)⟩, ⟨(some 27), (some (21, true)), (.mov (.tmp 0))⟩, ⟨(some 28), (some (21, true)), (.mov (.tmp 9))⟩, ⟨(some 29), (some (21, true)), (.ari .sub (.tmp 28) (.const (.int .i64 1)))⟩, ⟨(some 30), (some (21, true)), (.idx (.tmp 27) (.tmp 29) 1)⟩, ⟨(some 31), (some (21, true)), (.ld (.tmp 30) 1)⟩, ⟨(some 32), (some (21, true)), (.call ⟨(.value (.tmp 22)), (List.toArray [(.tmp 26), (.tmp 31)]), (List.toArray [3, 3])⟩ true)⟩, ⟨(some 33), (some (21, true)), (.cmpb .lss (.tmp 32) (.const (.int .i64 0)))⟩, ⟨(some 34), none, (.pur ⟨(some 34), (.pick (.tmp 21) (.tmp 33) (.const (.bool false))), 4, "", (List.toArray []), none⟩)⟩] [65535, 32767, 16383, 7695, 3599, 1039, 15, 15, 239, 111, 15, 15, 15, 7, 3, 0, 0])
  (.cond (.tmp 34) .skip
  (.exit 2)))
  (.seq (.block 3 (.dreg [⟨(some 37), none, (.mov (.tmp 0))⟩, ⟨(some 38), none, (.mov (.tmp 9))⟩, ⟨(some 39), none, (.mov (.tmp 0))⟩, ⟨(some 40), none, (.mov (.tmp 9))⟩, ⟨(some 41), none, (.ari .sub (.tmp 40) (.const (.int .i64 1)))⟩, ⟨(some 42), none, (.mov (.tmp 0))⟩, ⟨(some 43), none, (.mov (.tmp 9))⟩, ⟨(some 44), none, (.ari .sub (.tmp 43) (.const (.int .i64 1)))⟩, ⟨(some 45), none, (.idx (.tmp 42) (.tmp 44) 1)⟩, ⟨(some 46), none, (.ld (.tmp 45) 1)⟩, ⟨(some 47), none, (.mov (.tmp 0))⟩, ⟨(some 48), none, (.mov (.tmp 9))⟩, ⟨(some 49), none, (.idx (.tmp 47) (.tmp 48) 1)⟩, ⟨(some 50), none, (.ld (.tmp 49) 1)⟩, ⟨(some 51), none, (.idx (.tmp 37) (.tmp 38) 1)⟩, ⟨none, none, (.st (.tmp 51) (.tmp 46))⟩, ⟨(some 52), none, (.idx (.tmp 39) (.tmp 41) 1)⟩, ⟨none, none, (.st (.tmp 52) (.tmp 50))⟩] [131071, 65535, 32739, 16355, 7168, 3072, 0, 0, 480, 224, 64, 0, 0, 8, 0, 0, 0, 0]))
  (.reg [⟨(some 35), none, (.mov (.tmp 9))⟩, ⟨(some 36), none, (.ari .sub (.tmp 35) (.const (.int .i64 1)))⟩, ⟨(some 9), none, (.mov (.tmp 36))⟩])))
theorem L114x2 : low Try.prog Try.f114.ntmps (at_ Try.f114 [1, 0, 0, 1, 0, 0, 1, 0, 0]) = some R114x2 := by kernel_rfl
theorem N112 : Try.f112.ntmps = 63 := by kernel_rfl
theorem Z112 : Try.f112.results.toList = ((List.toArray []) : Array ResultVar).toList := by kernel_rfl
theorem B112 : Try.f112.body = some (at_ Try.f112 []) := by kernel_rfl
noncomputable def R112 : RC := (.seq (.reg [⟨(some 6), none, (.mov (.const (.int .i64 20)))⟩])
  (.seq (.reg [⟨(some 10), none, (.mov (.tmp 6))⟩, ⟨(some 7), none, (.mov (.const (.int .i64 0)))⟩, ⟨(some 8), none, (.mov (.tmp 10))⟩])
  (.seq (.block 0 (.other (at_ Try.f112 [1, 1, 0, 0])))
  (.seq (.reg [⟨(some 23), none, (.mov (.tmp 0))⟩, ⟨(some 24), none, (.mov (.tmp 7))⟩, ⟨(some 25), none, (.mov (.tmp 1))⟩, ⟨(some 26), none, (.mov (.tmp 2))⟩, ⟨(some 27), none, (.call ⟨(.value (.func 114)), (List.toArray [(.tmp 23), (.tmp 24), (.tmp 25), (.tmp 26)]), (List.toArray [42, 3, 3, 86])⟩ true)⟩])
  (.block 2 (.other (at_ Try.f112 [1, 1, 1, 1, 0])))))))
theorem L112 : low Try.prog Try.f112.ntmps (at_ Try.f112 []) = some R112 := by kernel_rfl
theorem E112_1 : at_ Try.f112 [1, 1, 0, 0] = .loop (at_ Try.f112 [1, 1, 0, 0, 0]) := by kernel_rfl
noncomputable def R112x1 : RC := (.seq (.seq (.reg [⟨(some 11), none, (.mov (.tmp 8))⟩, ⟨(some 12), none, (.mov (.tmp 1))⟩, ⟨(some 13), none, (.cmp .leq (.tmp 11) (.tmp 12))⟩])
  (.cond (.tmp 13) .skip
  (.exit 0)))
  (.block 1 (.seq (.reg [⟨(some 14), none, (.mov (.tmp 0))⟩, ⟨(some 15), none, (.mov (.tmp 7))⟩, ⟨(some 16), none, (.mov (.tmp 8))⟩, ⟨(some 17), none, (.mov (.tmp 2))⟩, ⟨(some 18), none, (.call ⟨(.value (.func 114)), (List.toArray [(.tmp 14), (.tmp 15), (.tmp 16), (.tmp 17)]), (List.toArray [42, 3, 3, 86])⟩ true)⟩])
  (.seq (.reg [⟨(some 19), none, (.mov (.tmp 8))⟩, ⟨(some 7), none, (.mov (.tmp 19))⟩])
  (.reg [⟨(some 20), none, (.mov (.tmp 8))⟩, ⟨(some 21), none, (.mov (.tmp 6))⟩, ⟨(some 22), none, (.ari .add (.tmp 20) (.tmp 21))⟩, ⟨(some 8), none, (.mov (.tmp 22))⟩])))))
theorem L112x1 : low Try.prog Try.f112.ntmps (at_ Try.f112 [1, 1, 0, 0, 0]) = some R112x1 := by kernel_rfl
theorem E112_2 : at_ Try.f112 [1, 1, 1, 1, 0] = .loop (at_ Try.f112 [1, 1, 1, 1, 0, 0]) := by kernel_rfl
noncomputable def R112x2 : RC := (.seq (.seq (.reg [⟨(some 28), none, (.mov (.tmp 6))⟩, ⟨(some 29), none, (.mov (.tmp 1))⟩, ⟨(some 30), none, (.cmp .lss (.tmp 28) (.tmp 29))⟩])
  (.cond (.tmp 30) .skip
  (.exit 2)))
  (.block 3 (.seq (.reg [⟨(some 31), none, (.mov (.tmp 6))⟩, ⟨(some 32), none, (.ari .mul (.const (.int .i64 2)) (.tmp 31))⟩, ⟨(some 7), none, (.mov (.const (.int .i64 0)))⟩, ⟨(some 8), none, (.mov (.tmp 32))⟩])
  (.seq (.block 4 (.other (at_ Try.f112 [1, 1, 1, 1, 0, 0, 1, 0, 1, 0, 0])))
  (.seq (.seq (.reg [⟨(some 49), none, (.mov (.tmp 7))⟩, ⟨(some 50), none, (.mov (.tmp 6))⟩, ⟨(some 51), none, (.ari .add (.tmp 49) (.tmp 50))⟩, ⟨(some 9), none, (.mov (.tmp 51))⟩])
  (.seq (.reg [⟨(some 52), none, (.mov (.tmp 9))⟩, ⟨(some 53), none, (.mov (.tmp 1))⟩, ⟨(some 54), none, (.cmp .lss (.tmp 52) (.tmp 53))⟩])
  (.cond (.tmp 54) (.reg [⟨(some 55), none, (.mov (.tmp 0))⟩, ⟨(some 56), none, (.mov (.tmp 7))⟩, ⟨(some 57), none, (.mov (.tmp 9))⟩, ⟨(some 58), none, (.mov (.tmp 1))⟩, ⟨(some 59), none, (.mov (.tmp 2))⟩, ⟨(some 60), none, (.call ⟨(.value (.func 115)), (List.toArray [(.tmp 55), (.tmp 56), (.tmp 57), (.tmp 58), (.tmp 59)]), (List.toArray [42, 3, 3, 3, 86])⟩ true)⟩])
  .skip)))
  (.reg [⟨(some 61), none, (.mov (.tmp 6))⟩, ⟨(some 62), none, (.ari .mul (.tmp 61) (.const (.int .i64 2)))⟩, ⟨(some 6), none, (.mov (.tmp 62))⟩]))))))
theorem L112x2 : low Try.prog Try.f112.ntmps (at_ Try.f112 [1, 1, 1, 1, 0, 0]) = some R112x2 := by kernel_rfl
theorem N104 : Try.f104.ntmps = 9 := by kernel_rfl
theorem Z104 : Try.f104.results.toList = ((List.toArray []) : Array ResultVar).toList := by kernel_rfl
theorem B104 : Try.f104.body = some (at_ Try.f104 []) := by kernel_rfl
noncomputable def R104 : RC := (.reg [⟨(some 4), none, (.mov (.tmp 0))⟩, ⟨(some 5), none, (.mov (.tmp 0))⟩, ⟨(some 6), none, (.len (.tmp 5))⟩, ⟨(some 7), none, (.mov (.tmp 1))⟩, ⟨(some 8), none, (.call ⟨(.value (.func 112)), (List.toArray [(.tmp 4), (.tmp 6), (.tmp 7)]), (List.toArray [42, 3, 86])⟩ true)⟩])
theorem L104 : low Try.prog Try.f104.ntmps (at_ Try.f104 []) = some R104 := by kernel_rfl
theorem N82 : Try.f82.ntmps = 24 := by kernel_rfl
theorem Z82 : Try.f82.results.toList = ((List.toArray [(.tmp 2)]) : Array ResultVar).toList := by kernel_rfl
theorem B82 : Try.f82.body = some (at_ Try.f82 []) := by kernel_rfl
noncomputable def R82 : RC := (.seq (.reg [⟨(some 1), none, (.box 128 (.tmp 0))⟩, ⟨(some 2), none, (.mov (.const (.slice none 0 0)))⟩])
  (.seq (.reg [⟨(some 5), none, (.addo (.tmp 1) 0)⟩, ⟨(some 6), none, (.ld (.tmp 5) 1)⟩, ⟨(some 7), none, (.len (.tmp 6))⟩, ⟨(some 8), none, (.mem ⟨(some 8), (.makeSlice 42 (.tmp 7) (.tmp 7)), 42, "", (List.toArray []), none⟩)⟩, ⟨(some 3), none, (.mov (.tmp 8))⟩])
  (.seq (.seq (.reg [⟨(some 9), none, (.mov (.tmp 3))⟩, ⟨(some 10), none, (.len (.tmp 9))⟩, ⟨(some 11), none, (.mov (.const (.int .i64 0)))⟩])
  (.block 0 (.other (at_ Try.f82 [1, 1, 0, 1, 0]))))
  (.seq (.reg [⟨(some 19), none, (.mov (.tmp 3))⟩, ⟨(some 20), none, (.lda (.tmp 1) 2)⟩, ⟨(some 21), none, (.pur ⟨(some 21), (.makeFunc (.func 105) (List.toArray [(.tmp 20)]) (List.toArray [])), 86, "", (List.toArray []), none⟩)⟩, ⟨(some 22), none, (.call ⟨(.value (.func 104)), (List.toArray [(.tmp 19), (.tmp 21)]), (List.toArray [42, 86])⟩ true)⟩])
  (.seq (.reg [⟨(some 23), none, (.mov (.tmp 3))⟩, ⟨(some 2), none, (.mov (.tmp 23))⟩])
  .ret)))))
theorem L82 : low Try.prog Try.f82.ntmps (at_ Try.f82 []) = some R82 := by kernel_rfl
theorem E82_1 : at_ Try.f82 [1, 1, 0, 1, 0] = .loop (at_ Try.f82 [1, 1, 0, 1, 0, 0]) := by kernel_rfl
noncomputable def R82x1 : RC := (.seq (.reg [⟨(some 12), none, (.cmp .lss (.tmp 11) (.tmp 10))⟩])
  (.seq (.cond (.tmp 12) .skip
  (.exit 0))
  (.seq (.block 1 (.seq (.reg [⟨(some 13), none, (.mov (.tmp 11))⟩, ⟨(some 4), none, (.mov (.tmp 13))⟩])
  (.reg [⟨(some 14), none, (.mov (.tmp 3))⟩, ⟨(some 15), none, (.mov (.tmp 4))⟩, ⟨(some 16), none, (.mov (.tmp 4))⟩, ⟨(some 17), none, (.idx (.tmp 14) (.tmp 15) 1)⟩, ⟨none, none, (.st (.tmp 17) (.tmp 16))⟩])))
  (.reg [⟨(some 18), none, (.ari .add (.tmp 11) (.const (.int .i64 1)))⟩, ⟨(some 11), none, (.mov (.tmp 18))⟩]))))
theorem L82x1 : low Try.prog Try.f82.ntmps (at_ Try.f82 [1, 1, 0, 1, 0, 0]) = some R82x1 := by kernel_rfl
theorem N83 : Try.f83.ntmps = 23 := by kernel_rfl
theorem Z83 : Try.f83.results.toList = ((List.toArray [(.tmp 6)]) : Array ResultVar).toList := by kernel_rfl
theorem B83 : Try.f83.body = some (at_ Try.f83 []) := by kernel_rfl
noncomputable def R83 : RC := (.seq (.reg [⟨(some 3), none, (.box 128 (.tmp 0))⟩, ⟨(some 6), none, (.mov (.const (.bool false)))⟩])
  (.seq (.reg [⟨(some 7), none, (.addo (.tmp 3) 0)⟩, ⟨(some 8), none, (.ld (.tmp 7) 1)⟩, ⟨(some 9), none, (.mov (.tmp 1))⟩, ⟨(some 10), none, (.idx (.tmp 8) (.tmp 9) 3)⟩, ⟨(some 11), none, (.addo (.tmp 10) 0)⟩, ⟨(some 12), none, (.ld (.tmp 11) 1)⟩, ⟨(some 13), none, (.mov (.tmp 2))⟩, ⟨(some 14), none, (.cmpb .leq (.tmp 12) (.tmp 13))⟩, ⟨(some 15), none, (.mov (.tmp 14))⟩, ⟨(some 16), (some (15, true)), (.addo (.tmp 3) 1)⟩, ⟨(some 17), (some (15, true)), (.ld (.tmp 16) 1)⟩, ⟨(some 18), (some (15, true)), (.mov (.tmp 1))⟩, ⟨(some 19), (some (15, true)), (.idx (.tmp 17) (.tmp 18) 1)⟩, ⟨(some 20), (some (15, true)), (.ld (.tmp 19) 1)⟩, ⟨(some 21), (some (15, true)), (.cmpb .gtr (.tmp 20) (.const (.int .i64 0)))⟩, ⟨(some 22), none, (.pur ⟨(some 22), (.pick (.tmp 15) (.tmp 21) (.const (.bool false))), 4, "", (List.toArray []), none⟩)⟩, ⟨(some 6), none, (.mov (.tmp 22))⟩])
  .ret))
theorem L83 : low Try.prog Try.f83.ntmps (at_ Try.f83 []) = some R83 := by kernel_rfl
theorem N84 : Try.f84.ntmps = 26 := by kernel_rfl
theorem Z84 : Try.f84.results.toList = ((List.toArray [(.tmp 6)]) : Array ResultVar).toList := by kernel_rfl
theorem B84 : Try.f84.body = some (at_ Try.f84 []) := by kernel_rfl
noncomputable def R84 : RC := (.seq (.reg [⟨(some 3), none, (.box 128 (.tmp 0))⟩, ⟨(some 6), none, (.mov (.const (.int .i64 0)))⟩])
  (.seq (.reg [⟨(some 8), none, (.mov (.tmp 2))⟩, ⟨(some 9), none, (.addo (.tmp 3) 1)⟩, ⟨(some 10), none, (.ld (.tmp 9) 1)⟩, ⟨(some 11), none, (.mov (.tmp 1))⟩, ⟨(some 12), none, (.idx (.tmp 10) (.tmp 11) 1)⟩, ⟨(some 13), none, (.ld (.tmp 12) 1)⟩, ⟨(some 14), none, (.mm true (.tmp 8) (.tmp 13))⟩, ⟨(some 7), none, (.mov (.tmp 14))⟩])
  (.seq (.reg [⟨(some 15), none, (.addo (.tmp 3) 1)⟩, ⟨(some 16), none, (.ld (.tmp 15) 1)⟩, ⟨(some 17), none, (.mov (.tmp 1))⟩, ⟨(some 18), none, (.idx (.tmp 16) (.tmp 17) 1)⟩, ⟨(some 19), none, (.ld (.tmp 18) 1)⟩, ⟨(some 20), none, (.mov (.tmp 7))⟩, ⟨(some 21), none, (.ari .sub (.tmp 19) (.tmp 20))⟩, ⟨(some 22), none, (.idx (.tmp 16) (.tmp 17) 1)⟩, ⟨none, none, (.st (.tmp 22) (.tmp 21))⟩])
  (.seq (.reg [⟨(some 23), none, (.mov (.tmp 2))⟩, ⟨(some 24), none, (.mov (.tmp 7))⟩, ⟨(some 25), none, (.ari .sub (.tmp 23) (.tmp 24))⟩, ⟨(some 6), none, (.mov (.tmp 25))⟩])
  .ret))))
theorem L84 : low Try.prog Try.f84.ntmps (at_ Try.f84 []) = some R84 := by kernel_rfl
theorem N81 : Try.f81.ntmps = 8 := by kernel_rfl
theorem Z81 : Try.f81.results.toList = ((List.toArray [(.tmp 2)]) : Array ResultVar).toList := by kernel_rfl
theorem B81 : Try.f81.body = some (at_ Try.f81 []) := by kernel_rfl
noncomputable def R81 : RC := (.seq (.reg [⟨(some 1), none, (.box 76 (.tmp 0))⟩, ⟨(some 2), none, (.mov (.const (.int .i64 0)))⟩])
  (.seq (.seq (.reg [⟨(some 3), none, (.addo (.tmp 1) 2)⟩, ⟨(some 4), none, (.ld (.tmp 3) 1)⟩, ⟨(some 5), none, (.cmp .eql (.tmp 4) (.const (.int .i64 0)))⟩])
  (.cond (.tmp 5) (.seq (.reg [⟨(some 6), none, (.addo (.tmp 1) 0)⟩, ⟨(some 7), none, (.ld (.tmp 6) 1)⟩, ⟨(some 2), none, (.mov (.tmp 7))⟩])
  .ret)
  .skip))
  (.seq (.reg [⟨(some 2), none, (.mov (.const (.int .i64 501)))⟩])
  .ret)))
theorem L81 : low Try.prog Try.f81.ntmps (at_ Try.f81 []) = some R81 := by kernel_rfl
theorem N58 : Try.f58.ntmps = 75 := by kernel_rfl
theorem Z58 : Try.f58.results.toList = ((List.toArray [(.tmp 4)]) : Array ResultVar).toList := by kernel_rfl
theorem B58 : Try.f58.body = some (at_ Try.f58 []) := by kernel_rfl
noncomputable def R58 : RC := (.seq (.reg [⟨(some 4), none, (.mov (.const (.slice none 0 0)))⟩])
  (.scp (.seq (.reg [⟨(some 14), none, (.mov (.tmp 0))⟩, ⟨(some 15), none, (.pur ⟨(some 15), (.build 128 (List.toArray [(0, (.tmp 14))])), 128, "", (List.toArray []), none⟩)⟩, ⟨(some 5), none, (.alc 128 [(.slice none 0 0), (.slice none 0 0)])⟩, ⟨none, none, (.sta (.tmp 5) (.tmp 15) 2)⟩])
  (.seq (.reg [⟨(some 16), none, (.mov (.tmp 0))⟩, ⟨(some 17), none, (.len (.tmp 16))⟩, ⟨(some 18), none, (.mem ⟨(some 18), (.makeSlice 42 (.const (.int .i64 0)) (.tmp 17)), 42, "", (List.toArray []), none⟩)⟩, ⟨(some 6), none, (.mov (.tmp 18))⟩])
  (.seq (.seq (.reg [⟨(some 19), none, (.mov (.tmp 0))⟩, ⟨(some 20), none, (.len (.tmp 19))⟩, ⟨(some 21), none, (.mov (.const (.int .i64 0)))⟩])
  (.block 0 (.other (at_ Try.f58 [1, 0, 1, 1, 0, 1, 0]))))
  (.seq (.reg [⟨(some 38), none, (.lda (.tmp 5) 2)⟩, ⟨(some 39), none, (.call ⟨(.value (.func 82)), (List.toArray [(.tmp 38)]), (List.toArray [128])⟩ true)⟩, ⟨(some 9), none, (.mov (.tmp 39))⟩])
  (.seq .skip
  (.seq (.seq (.reg [⟨(some 40), none, (.mov (.const (.int .i64 0)))⟩])
  (.block 2 (.other (at_ Try.f58 [1, 0, 1, 1, 1, 1, 1, 0, 1, 0]))))
  (.seq (.reg [⟨(some 74), none, (.mov (.tmp 6))⟩, ⟨(some 4), none, (.mov (.tmp 74))⟩])
  .ret)))))))))
theorem L58 : low Try.prog Try.f58.ntmps (at_ Try.f58 []) = some R58 := by kernel_rfl
theorem E58_1 : at_ Try.f58 [1, 0, 1, 1, 0, 1, 0] = .loop (at_ Try.f58 [1, 0, 1, 1, 0, 1, 0, 0]) := by kernel_rfl
noncomputable def R58x1 : RC := (.seq (.reg [⟨(some 22), none, (.cmp .lss (.tmp 21) (.tmp 20))⟩])
  (.seq (.cond (.tmp 22) .skip
  (.exit 0))
  (.seq (.block 1 (.seq (.reg [⟨(some 23), none, (.idx (.tmp 19) (.tmp 21) 3)⟩, ⟨(some 24), none, (.lda (.tmp 23) 3)⟩, ⟨(some 8), none, (.alc 76 [(.int .i64 0), (.int .i64 0), (.int .i64 0)])⟩, ⟨none, none, (.sta (.tmp 8) (.tmp 24) 3)⟩])
  (.seq (.reg [⟨(some 25), none, (.addo (.tmp 5) 1)⟩, ⟨(some 26), none, (.ld (.tmp 25) 1)⟩, ⟨(some 27), none, (.addo (.tmp 8) 2)⟩, ⟨(some 28), none, (.ld (.tmp 27) 1)⟩, ⟨(some 29), none, (.mem ⟨(some 29), (.buildSlice 42 1 (List.toArray [(0, (.tmp 28))])), 42, "", (List.toArray []), none⟩)⟩, ⟨(some 30), none, (.mem ⟨(some 30), (.call ⟨(.builtin .append), (List.toArray [(.tmp 26), (.tmp 29)]), (List.toArray [42, 42])⟩), 42, "", (List.toArray []), none⟩)⟩, ⟨(some 31), none, (.addo (.tmp 5) 1)⟩, ⟨none, none, (.st (.tmp 31) (.tmp 30))⟩])
  (.reg [⟨(some 32), none, (.mov (.tmp 6))⟩, ⟨(some 33), none, (.lda (.tmp 8) 3)⟩, ⟨(some 34), none, (.call ⟨(.value (.func 81)), (List.toArray [(.tmp 33)]), (List.toArray [76])⟩ true)⟩, ⟨(some 35), none, (.mem ⟨(some 35), (.buildSlice 42 1 (List.toArray [(0, (.tmp 34))])), 42, "", (List.toArray []), none⟩)⟩, ⟨(some 36), none, (.mem ⟨(some 36), (.call ⟨(.builtin .append), (List.toArray [(.tmp 32), (.tmp 35)]), (List.toArray [42, 42])⟩), 42, "", (List.toArray []), none⟩)⟩, ⟨(some 6), none, (.mov (.tmp 36))⟩]))))
  (.reg [⟨(some 37), none, (.ari .add (.tmp 21) (.const (.int .i64 1)))⟩, ⟨(some 21), none, (.mov (.tmp 37))⟩]))))
theorem L58x1 : low Try.prog Try.f58.ntmps (at_ Try.f58 [1, 0, 1, 1, 0, 1, 0, 0]) = some R58x1 := by kernel_rfl
theorem E58_2 : at_ Try.f58 [1, 0, 1, 1, 1, 1, 1, 0, 1, 0] = .loop (at_ Try.f58 [1, 0, 1, 1, 1, 1, 1, 0, 1, 0, 0]) := by kernel_rfl
noncomputable def R58x2 : RC := (.seq (.reg [⟨(some 41), none, (.cmp .lss (.tmp 40) (.const (.int .i64 500)))⟩])
  (.seq (.cond (.tmp 41) .skip
  (.exit 2))
  (.seq (.block 3 (.seq (.reg [⟨(some 42), none, (.mov (.tmp 40))⟩, ⟨(some 10), none, (.mov (.tmp 42))⟩])
  (.seq (.reg [⟨(some 43), none, (.mov (.tmp 1))⟩, ⟨(some 11), none, (.mov (.tmp 43))⟩])
  (.seq (.reg [⟨(some 44), none, (.mov (.tmp 9))⟩, ⟨(some 45), none, (.len (.tmp 44))⟩, ⟨(some 46), none, (.mov (.const (.int .i64 0)))⟩])
  (.block 4 (.other (at_ Try.f58 [1, 0, 1, 1, 1, 1, 1, 0, 1, 0, 0, 1, 1, 0, 0, 1, 1, 1, 0])))))))
  (.reg [⟨(some 73), none, (.ari .add (.tmp 40) (.const (.int .i64 1)))⟩, ⟨(some 40), none, (.mov (.tmp 73))⟩]))))
theorem L58x2 : low Try.prog Try.f58.ntmps (at_ Try.f58 [1, 0, 1, 1, 1, 1, 1, 0, 1, 0, 0]) = some R58x2 := by kernel_rfl
theorem E58_3 : at_ Try.f58 [1, 0, 1, 1, 1, 1, 1, 0, 1, 0, 0, 1, 1, 0, 0, 1, 1, 1, 0] = .loop (at_ Try.f58 [1, 0, 1, 1, 1, 1, 1, 0, 1, 0, 0, 1, 1, 0, 0, 1, 1, 1, 0, 0]) := by kernel_rfl
noncomputable def R58x3 : RC := (.seq (.reg [⟨(some 47), none, (.cmp .lss (.tmp 46) (.tmp 45))⟩])
  (.seq (.cond (.tmp 47) .skip
  (.exit 4))
  (.seq (.block 5 (.seq (.reg [⟨(some 48), none, (.idx (.tmp 44) (.tmp 46) 1)⟩, ⟨(some 49), none, (.ld (.tmp 48) 1)⟩, ⟨(some 13), none, (.mov (.tmp 49))⟩])
  (.seq (.seq (.reg [⟨(some 50), none, (.mov (.tmp 11))⟩, ⟨(some 51), none, (.cmp .eql (.tmp 50) (.const (.int .i64 0)))⟩])
  (.cond (.tmp 51) (.exit 3)
  .skip))
  (.seq (.seq (.reg [⟨(some 52), none, (.lda (.tmp 5) 2)⟩, ⟨(some 53), none, (.mov (.tmp 13))⟩, ⟨(some 54), none, (.mov (.tmp 10))⟩, ⟨(some 55), none, (.call ⟨(.value (.func 83)), (List.toArray [(.tmp 52), (.tmp 53), (.tmp 54)]), (List.toArray [128, 3, 3])⟩ true)⟩, ⟨(some 56), none, (.pur ⟨(some 56), (.unOp .not 4 (.tmp 55)), 4, "", (List.toArray []), none⟩)⟩])
  (.cond (.tmp 56) (.exit 5)
  .skip))
  (.seq (.reg [⟨(some 57), none, (.lda (.tmp 5) 2)⟩, ⟨(some 58), none, (.mov (.tmp 13))⟩, ⟨(some 59), none, (.mov (.tmp 11))⟩, ⟨(some 60), none, (.call ⟨(.value (.func 84)), (List.toArray [(.tmp 57), (.tmp 58), (.tmp 59)]), (List.toArray [128, 3, 3])⟩ true)⟩, ⟨(some 11), none, (.mov (.tmp 60))⟩])
  (.seq (.reg [⟨(some 61), none, (.addo (.tmp 5) 1)⟩, ⟨(some 62), none, (.ld (.tmp 61) 1)⟩, ⟨(some 63), none, (.mov (.tmp 13))⟩, ⟨(some 64), none, (.idx (.tmp 62) (.tmp 63) 1)⟩, ⟨(some 65), none, (.ld (.tmp 64) 1)⟩, ⟨(some 66), none, (.cmp .eql (.tmp 65) (.const (.int .i64 0)))⟩])
  (.cond (.tmp 66) (.reg [⟨(some 67), none, (.mov (.tmp 6))⟩, ⟨(some 68), none, (.mov (.tmp 13))⟩, ⟨(some 69), none, (.mov (.tmp 10))⟩, ⟨(some 70), none, (.ari .add (.tmp 69) (.const (.int .i64 1)))⟩, ⟨(some 71), none, (.idx (.tmp 67) (.tmp 68) 1)⟩, ⟨none, none, (.st (.tmp 71) (.tmp 70))⟩])
  .skip)))))))
  (.reg [⟨(some 72), none, (.ari .add (.tmp 46) (.const (.int .i64 1)))⟩, ⟨(some 46), none, (.mov (.tmp 72))⟩]))))
theorem L58x3 : low Try.prog Try.f58.ntmps (at_ Try.f58 [1, 0, 1, 1, 1, 1, 1, 0, 1, 0, 0, 1, 1, 0, 0, 1, 1, 1, 0, 0]) = some R58x3 := by kernel_rfl
theorem N28 : Try.f28.ntmps = 21 := by kernel_rfl
theorem Z28 : Try.f28.results.toList = ((List.toArray [(.tmp 4), (.tmp 5)]) : Array ResultVar).toList := by kernel_rfl
theorem B28 : Try.f28.body = some (at_ Try.f28 []) := by kernel_rfl
noncomputable def R28 : RC := (.seq (.reg [⟨(some 4), none, (.mov (.const (.slice none 0 0)))⟩, ⟨(some 5), none, (.mov (.const (.int .i64 0)))⟩])
  (.seq (.seq (.reg [⟨(some 7), none, (.mov (.tmp 0))⟩, ⟨(some 8), none, (.call ⟨(.value (.func 57)), (List.toArray [(.tmp 7)]), (List.toArray [47])⟩ true)⟩, ⟨(some 6), none, (.mov (.tmp 8))⟩])
  (.seq (.reg [⟨(some 9), none, (.mov (.tmp 6))⟩, ⟨(some 10), none, (.cmp .neq (.tmp 9) (.const (.int .i64 0)))⟩])
  (.cond (.tmp 10) (.seq (.reg [⟨(some 11), none, (.mov (.tmp 6))⟩, ⟨(some 4), none, (.mov (.const (.slice none 0 0)))⟩, ⟨(some 5), none, (.mov (.tmp 11))⟩])
  .ret)
  .skip)))
  (.seq (.seq (.reg [⟨(some 12), none, (.mov (.tmp 1))⟩, ⟨(some 13), none, (.cmpb .lss (.tmp 12) (.const (.int .i64 1)))⟩, ⟨(some 14), none, (.mov (.tmp 13))⟩, ⟨(some 15), (some (14, false)), (.mov (.tmp 1))⟩, ⟨(some 16), (some (14, false)), (.cmpb .gtr (.tmp 15) (.const (.int .i64 17592186044416)))⟩, ⟨(some 17), none, (.pur ⟨(some 17), (.pick (.tmp 14) (.const (.bool true)) (.tmp 16)), 4, "", (List.toArray []), none⟩)⟩])
  (.cond (.tmp 17) (.seq (.reg [⟨(some 4), none, (.mov (.const (.slice none 0 0)))⟩, ⟨(some 5), none, (.mov (.const (.int .i64 2)))⟩])
  .ret)
  .skip))
  (.seq (.reg [⟨(some 18), none, (.mov (.tmp 0))⟩, ⟨(some 19), none, (.mov (.tmp 1))⟩, ⟨(some 20), none, (.call ⟨(.value (.func 58)), (List.toArray [(.tmp 18), (.tmp 19)]), (List.toArray [47, 3])⟩ true)⟩, ⟨(some 4), none, (.mov (.tmp 20))⟩, ⟨(some 5), none, (.mov (.const (.int .i64 0)))⟩])
  .ret))))
theorem L28 : low Try.prog Try.f28.ntmps (at_ Try.f28 []) = some R28 := by kernel_rfl
theorem N27 : Try.f27.ntmps = 26 := by kernel_rfl
theorem Z27 : Try.f27.results.toList = ((List.toArray [(.tmp 4)]) : Array ResultVar).toList := by kernel_rfl
theorem B27 : Try.f27.body = some (at_ Try.f27 []) := by kernel_rfl
noncomputable def R27 : RC := (.seq (.reg [⟨(some 4), none, (.mov (.const (.bool false)))⟩])
  (.seq (.seq (.reg [⟨(some 6), none, (.mov (.tmp 0))⟩, ⟨(some 7), none, (.len (.tmp 6))⟩, ⟨(some 8), none, (.mov (.tmp 1))⟩, ⟨(some 9), none, (.len (.tmp 8))⟩, ⟨(some 10), none, (.cmp .neq (.tmp 7) (.tmp 9))⟩])
  (.cond (.tmp 10) (.seq (.reg [⟨(some 4), none, (.mov (.const (.bool false)))⟩])
  .ret)
  .skip))
  (.seq (.seq (.reg [⟨(some 5), none, (.mov (.const (.int .i64 0)))⟩])
  (.block 0 (.other (at_ Try.f27 [1, 1, 0, 1, 0]))))
  (.seq (.reg [⟨(some 4), none, (.mov (.const (.bool true)))⟩])
  .ret))))
theorem L27 : low Try.prog Try.f27.ntmps (at_ Try.f27 []) = some R27 := by kernel_rfl
theorem E27_1 : at_ Try.f27 [1, 1, 0, 1, 0] = .loop (at_ Try.f27 [1, 1, 0, 1, 0, 0]) := by kernel_rfl
noncomputable def R27x1 : RC := (.seq (.seq (.reg [⟨(some 11), none, (.mov (.tmp 5))⟩, ⟨(some 12), none, (.mov (.tmp 0))⟩, ⟨(some 13), none, (.len (.tmp 12))⟩, ⟨(some 14), none, (.cmp .lss (.tmp 11) (.tmp 13))⟩])
  (.cond (.tmp 14) .skip
  (.exit 0)))
  (.seq (.block 1 (.seq (.dreg [⟨(some 17), none, (.mov (.tmp 0))⟩, ⟨(some 18), none, (.mov (.tmp 5))⟩, ⟨(some 19), none, (.idx (.tmp 17) (.tmp 18) 1)⟩, ⟨(some 20), none, (.ld (.tmp 19) 1)⟩, ⟨(some 21), none, (.mov (.tmp 1))⟩, ⟨(some 22), none, (.mov (.tmp 5))⟩, ⟨(some 23), none, (.idx (.tmp 21) (.tmp 22) 1)⟩, ⟨(some 24), none, (.ld (.tmp 23) 1)⟩, ⟨(some 25), none, (.cmp .neq (.tmp 20) (.tmp 24))⟩] [255, 112, 48, 0, 0, 7, 3, 0, 0])
  (.cond (.tmp 25) (.seq (.reg [⟨(some 4), none, (.mov (.const (.bool false)))⟩])
  .ret)
  .skip)))
  (.reg [⟨(some 15), none, (.mov (.tmp 5))⟩, ⟨(some 16), none, (.ari .add (.tmp 15) (.const (.int .i64 1)))⟩, ⟨(some 5), none, (.mov (.tmp 16))⟩])))
theorem L27x1 : low Try.prog Try.f27.ntmps (at_ Try.f27 [1, 1, 0, 1, 0, 0]) = some R27x1 := by kernel_rfl
end Go.Ax

/-
  Plant: lots: which are valid, their order (written by program).
-/
namespace Go.Ax
open Go Go.RowKit Go.Proofs

theorem se42 : sliceElem Try.prog 42 = some (3, 1) := by kernel_rfl
theorem z3 : zeroOf Try.prog 3 = some (iv 0) := by kernel_rfl
theorem u42 : Try.prog.underlying 42 = some (.slice 3) := by kernel_rfl
theorem in3b : ∃ i, Try.prog.info? 3 = some i ∧ i.bytes ≤ 1000 := by
  have h : (Try.prog.info? 3).map (fun i => Nat.ble i.bytes 1000) = some true := by kernel_rfl
  cases e : Try.prog.info? 3 with
  | none => rw [e] at h; cases h
  | some i => rw [e] at h; exact ⟨i, rfl, Nat.le_of_ble_eq_true (by simpa using h)⟩
section
variable {kn : FuncId → Option Bool} {lo : Nat} {H : Hp}
/-- validFreeze -/
theorem vfreeze_ok {x : Fz} (hlo : lo ≤ H.next) : ∃ H', FnX Try.prog kn lo 80 [.agg (Fz.f x).toArray] H (.bool (x.ok)) H' ∧ Keep H H' [] := by
  have key := fnX_low (kn := kn) (lo := lo) (H := H) (args := [.agg (Fz.f x).toArray]) (Q := fun w H' => w = .bool (x.ok) ∧ Keep H H' []) Try.func80 B80 N80 Z80 L80 (by simp) ?_
  · obtain ⟨w, H', h, rfl, q⟩ := key; exact ⟨H', h, q⟩
  have hk := Keep.refl H []
  refine wN_seq ?_
  refine wN_box (v := .agg (Fz.f x).toArray) rfl ?_
  intro H1 kH1 nH1 c1
  have c1 : Cl H1 H.next [iv x.rd, iv x.du, iv x.ms] := c1
  have mH1 := kH1.1
  have hk := hk.trans kH1
  refine wN_mov (v := .bool false) rfl ?_
  refine wN_end ?_
  refine wN_seq ?_
  refine wN_addo (b := H.next) (o := 0) rfl ?_
  refine wN_ld (b := H.next) (o := 1) (v := iv x.du) rfl c1.rd rfl ?_
  refine wN_callB rfl (isw_ok) ?_
  intro tH2 H2 hH2 kH2
  have mH2 := kH2.1
  have hk := hk.trans kH2
  have c1 := kH2.cl c1 (by simp)
  cases tH2
  · have thH2 : isw x.du 500 = false := hH2
    refine wN_mov (v := .bool false) rfl ?_
    refine wN_gs rfl ?_
    refine wN_gs rfl ?_
    refine wN_gs rfl ?_
    refine wN_gs rfl ?_
    refine wN_gs rfl ?_
    refine wN_pur (v := .bool false) rfl rfl ?_
    refine wN_mov (v := .bool false) rfl ?_
    refine wN_gs rfl ?_
    refine wN_gs rfl ?_
    refine wN_gs rfl ?_
    refine wN_pur (v := .bool false) rfl rfl ?_
    refine wN_mov (v := .bool false) rfl ?_
    refine wN_end ?_
    exact And.intro trivial (Exists.intro _ (And.intro rfl ⟨congrArg Value.bool (show false = (x.ok) from (by symm; unfold Fz.ok; simp only [*]; try rfl)), hk⟩))
  · have thH2 : isw x.du 500 = true := hH2
    refine wN_mov (v := .bool true) rfl ?_
    refine wN_g rfl (wN_addo (b := H.next) (o := 0) rfl ?_)
    refine wN_g rfl (wN_ld (b := H.next) (o := 0) (v := iv x.rd) rfl c1.rd rfl ?_)
    refine wN_g rfl (wN_addo (b := H.next) (o := 0) rfl ?_)
    refine wN_g rfl (wN_ld (b := H.next) (o := 1) (v := iv x.du) rfl c1.rd rfl ?_)
    refine wN_g rfl (wN_callB rfl (isw_ok) ?_)
    intro tH3 H3 hH3 kH3
    have mH3 := kH3.1
    have hk := hk.trans kH3
    have c1 := kH3.cl c1 (by simp)
    cases tH3
    · have thH3 : isw x.rd x.du = false := hH3
      refine wN_pur (v := .bool false) rfl rfl ?_
      refine wN_mov (v := .bool false) rfl ?_
      refine wN_gs rfl ?_
      refine wN_gs rfl ?_
      refine wN_gs rfl ?_
      refine wN_pur (v := .bool false) rfl rfl ?_
      refine wN_mov (v := .bool false) rfl ?_
      refine wN_end ?_
      exact And.intro trivial (Exists.intro _ (And.intro rfl ⟨congrArg Value.bool (show false = (x.ok) from (by symm; unfold Fz.ok; simp only [*]; try rfl)), hk⟩))
    · have thH3 : isw x.rd x.du = true := hH3
      refine wN_pur (v := .bool true) rfl rfl ?_
      refine wN_mov (v := .bool true) rfl ?_
      refine wN_g rfl (wN_addo (b := H.next) (o := 0) rfl ?_)
      refine wN_g rfl (wN_ld (b := H.next) (o := 2) (v := iv x.ms) rfl c1.rd rfl ?_)
      refine wN_g rfl (wN_callB rfl (isw_ok) ?_)
      intro tH4 H4 hH4 kH4
      have mH4 := kH4.1
      have hk := hk.trans kH4
      have c1 := kH4.cl c1 (by simp)
      cases tH4
      · have thH4 : isw x.ms 1099511627776 = false := hH4
        refine wN_pur (v := .bool false) rfl rfl ?_
        refine wN_mov (v := .bool false) rfl ?_
        refine wN_end ?_
        exact And.intro trivial (Exists.intro _ (And.intro rfl ⟨congrArg Value.bool (show false = (x.ok) from (by symm; unfold Fz.ok; simp only [*]; try rfl)), hk⟩))
      · have thH4 : isw x.ms 1099511627776 = true := hH4
        refine wN_pur (v := .bool true) rfl rfl ?_
        refine wN_mov (v := .bool true) rfl ?_
        refine wN_end ?_
        exact And.intro trivial (Exists.intro _ (And.intro rfl ⟨congrArg Value.bool (show true = (x.ok) from (by symm; unfold Fz.ok; simp only [*]; try rfl)), hk⟩))
theorem clos79_ok {x : Fz} {k : Int} (hlo : lo ≤ H.next) : ∃ H', FnX Try.prog kn lo 79 [iv k, .agg (Fz.f x).toArray] H (.bool x.ok) H' ∧ Keep H H' [] := by
  have key := fnX_low (kn := kn) (lo := lo) (H := H) (args := [iv k, .agg (Fz.f x).toArray]) (Q := fun w H' => w = .bool x.ok ∧ Keep H H' []) Try.func79 B79 N79 Z79 L79 (by simp) ?_
  · obtain ⟨w, H', h, rfl, q⟩ := key; exact ⟨H', h, q⟩
  have hk := Keep.refl H []
  refine wN_seq ?_
  refine wN_box (v := .agg (Fz.f x).toArray) rfl ?_
  intro H1 kH1 nH1 c1
  have c1 : Cl H1 H.next [iv x.rd, iv x.du, iv x.ms] := c1
  have mH1 := kH1.1
  have hk := hk.trans kH1
  refine wN_mov (v := .bool false) rfl ?_
  refine wN_end ?_
  refine wN_seq ?_
  refine wN_lda (b := H.next) (o := 0) rfl c1.rd (show row 3 _ _ = some [iv x.rd, iv x.du, iv x.ms] from rfl) ?_
  obtain ⟨H2, fH2, kH2⟩ := vfreeze_ok (kn := kn) (lo := lo) (H := H1) (x := x) (by omega)
  refine wN_callf (vs := [.agg (Fz.f x).toArray]) rfl (callX_args fH2) ?_
  have mH2 := kH2.1
  have hk := hk.trans kH2
  have c1 := kH2.cl c1 (by simp)
  refine wN_mov (v := .bool x.ok) rfl ?_
  refine wN_end ?_
  exact And.intro trivial (Exists.intro _ (And.intro rfl ⟨rfl, hk⟩))
/-- isList of lots -/
theorem list78_ok {sa : Option Addr} {n cap : Nat} {us : List Fz}  (hs : Sl H sa n cap (fzc us)) (hl : us.length = n) (hn2 : n ≤ 1000000) (hlo : lo ≤ H.next) :
    ∃ H', FnX Try.prog kn lo 78 [.slice sa n cap, iv 0, iv 16, .func (.func 79) #[] #[]] H (.bool (decide (0 ≤ n) && decide (n ≤ 16) && us.all Fz.ok)) H' ∧ Keep H H' [] := by
  have key := fnX_low (kn := kn) (lo := lo) (H := H) (args := [.slice sa n cap, iv 0, iv 16, .func (.func 79) #[] #[]]) (Q := fun w H' => w = .bool (decide (0 ≤ n) && decide (n ≤ 16) && us.all Fz.ok) ∧ Keep H H' []) Try.func78 B78 N78 Z78 L78 (by simp) ?_
  · obtain ⟨w, H', h, rfl, q⟩ := key; exact ⟨H', h, q⟩
  have hk := Keep.refl H []
  have fs := hs.old
  refine wN_seq ?_
  refine wN_mov (v := .bool false) rfl ?_
  refine wN_end ?_
  refine wN_seq ?_
  refine wN_mov (v := .slice sa n cap) rfl ?_
  refine wN_len (m := n) rfl ?_
  refine wN_mov (v := iv 0) rfl ?_
  refine wN_b_lss (a := (n : Int)) (b := 0) rfl rfl ?_
  intro t1 g1; cases t1
  · have g1 : ¬ ((n : Int) < 0) := of_decide_eq_false g1
    refine wN_mov (v := .bool false) rfl ?_
    refine wN_g rfl (wN_mov (v := .slice sa n cap) rfl ?_)
    refine wN_g rfl (wN_len (m := n) rfl ?_)
    refine wN_g rfl (wN_mov (v := iv 16) rfl ?_)
    refine wN_g rfl (wN_b_gtr (a := (n : Int)) (b := 16) rfl rfl ?_)
    intro t2 g2; cases t2
    · have g2 : ¬ ((n : Int) > 16) := of_decide_eq_false g2
      refine wN_pur (v := .bool false) rfl rfl ?_
      refine wN_end ?_
      refine condF ?_
      first | refine wN_skip ?_ | skip
      refine wN_seq ?_
      refine wN_mov (v := .slice sa n cap) rfl ?_
      refine wN_len (m := n) rfl ?_
      refine wN_mov (v := iv 0) rfl ?_
      refine wN_end ?_
      refine loop_low (fn := Try.f78) E78_1 N78 L78x1 (fun i : Nat => [(3, .func (.func 79) #[] #[]), (21, .slice sa n cap), (22, iv (n : Int)), (23, iv (i : Int))])
        (fun k i H' => i + k = n ∧ Keep H H' [] ∧ Sl H' sa n cap (fzc us) ∧ (us.take i).all Fz.ok = true) n 0 ⟨by omega, hk, hs, rfl⟩ ⟨rfl, rfl, rfl, rfl, trivial⟩ ?_
      rintro k i L1 ⟨hik, hk, hs, hall⟩
      have mki := hk.1
      have fs := hs.old
      refine wN_seq ?_
      refine wN_c_lss (a := (i : Int)) (b := (n : Int)) rfl rfl ?_
      refine wN_end ?_
      refine And.intro (fun q3 => ?_) (fun q3 => ?_)
      · have q3 : (i : Int) < (n : Int) := of_decide_eq_true q3
        have hi : i < n := by omega
        obtain ⟨x, hx⟩ := get_some (l := us) (i := i) (by omega)
        have hst := all_step (f := Fz.ok) hx
        rcases id hs with ⟨_, h0, _⟩ | ⟨sb, esb, hsd, _⟩
        · omega
        have lsb := hsd.lt
        first | refine wN_skip ?_ | skip
        refine wN_seq ?_
        refine wN_mov (v := iv (i : Int)) rfl ?_
        refine wN_idx (b := sb) (o := 0) (k := i) (j := (i : Int)) (by rw [← esb]; rfl) rfl rfl hi ?_
        refine wN_lda (b := sb) (o := 0 + i * 3) rfl hsd (fzc_row hx) ?_
        refine wN_alc ?_
        intro H1 kH1 nH1 c1
        have c1 : Cl H1 L1.next [iv 0, iv 0, iv 0] := c1
        have mH1 := kH1.1
        have hk := hk.trans kH1
        have hs := kH1.sl0 hs
        have hsd := kH1.rd hsd (by simp)
        refine wN_mov (v := iv (i : Int)) rfl ?_
        refine wN_sta (b := L1.next) (o := 0) rfl rfl c1 (by omega) rfl rfl (by simp) ?_
        intro H2 kH2 nH2 sH2
        have mH2 := kH2.1
        have hk := hk.new kH2 (fun b hb => by simp at hb ⊢; omega)
        have hs := kH2.sl hs (fun b e => by have := fs b e; first | (simp; done) | (simp; omega))
        have hsd := kH2.rd hsd (by first | (simp; done) | (simp; omega))
        have c1 : Cl H2 L1.next [iv x.rd, iv x.du, iv x.ms] := sH2
        refine wN_end ?_
        refine wN_seq ?_
        refine wN_mov (v := .func (.func 79) #[] #[]) rfl ?_
        refine wN_mov (v := iv (i : Int)) rfl ?_
        refine wN_lda (b := L1.next) (o := 0) rfl c1.rd (show row 3 _ _ = some [iv x.rd, iv x.du, iv x.ms] from rfl) ?_
        obtain ⟨H3, fH3, kH3⟩ := clos79_ok (kn := kn) (lo := lo) (H := H2) (x := x) (k := (i : Int)) (by omega)
        have mH3 := kH3.1
        have hk := hk.trans kH3
        have hs := kH3.sl0 hs
        have hsd := kH3.rd hsd (by simp)
        have c1 := kH3.cl c1 (by simp)
        cases hb : Fz.ok x
        · rw [show Fz.ok x = false from hb] at fH3
          refine wN_callf (vs := [iv (i : Int), .agg (Fz.f x).toArray]) rfl (callX_func rfl (by simpa using fH3)) ?_
          refine wN_pur (v := .bool true) rfl rfl ?_
          refine wN_end ?_
          refine condT ?_
          refine wN_seq ?_
          refine wN_mov (v := .bool false) rfl ?_
          refine wN_end ?_
          exact And.intro trivial (Exists.intro _ (And.intro rfl ⟨congrArg Value.bool (show false = (decide (0 ≤ n) && decide (n ≤ 16) && us.all Fz.ok) from (by symm; rw [all_fail hx hb]; simp)), hk⟩))
        · rw [show Fz.ok x = true from hb] at fH3
          refine wN_callf (vs := [iv (i : Int), .agg (Fz.f x).toArray]) rfl (callX_func rfl (by simpa using fH3)) ?_
          refine wN_pur (v := .bool false) rfl rfl ?_
          refine wN_end ?_
          refine condF ?_
          first | refine wN_skip ?_ | skip
          first | refine wN_reg ?_ | refine wN_blk ?_ | refine wN_bseq ?_ | (refine wOps_nil ?_; refine wN_reg ?_)
          refine wN_add (a := (i : Int)) (b := 1) rfl rfl ⟨by omega, by omega⟩ ?_
          refine wN_mov (v := iv ((i : Int) + 1)) rfl ?_
          refine wN_end ?_
          exact ⟨k - 1, i + 1, by omega, ⟨by omega, hk, hs, by rw [hst, hall, Bool.true_and]; exact hb⟩, rfl, rfl, rfl, rfl, trivial⟩
      · have q3 : ¬ ((i : Int) < (n : Int)) := of_decide_eq_false q3
        refine wN_seq ?_
        refine wN_mov (v := .bool true) rfl ?_
        refine wN_end ?_
        exact And.intro trivial (Exists.intro _ (And.intro rfl ⟨congrArg Value.bool (show true = (decide (0 ≤ n) && decide (n ≤ 16) && us.all Fz.ok) from (by symm; rw [List.take_of_length_le (by omega)] at hall; rw [hall, decide_eq_true (by omega), decide_eq_true (by omega)]; rfl)), hk⟩))
    · have g2 : (n : Int) > 16 := of_decide_eq_true g2
      refine wN_pur (v := .bool true) rfl rfl ?_
      refine wN_end ?_
      refine condT ?_
      refine wN_seq ?_
      refine wN_mov (v := .bool false) rfl ?_
      refine wN_end ?_
      exact And.intro trivial (Exists.intro _ (And.intro rfl ⟨congrArg Value.bool (show false = (decide (0 ≤ n) && decide (n ≤ 16) && us.all Fz.ok) from (by symm; simp; omega)), hk⟩))
  · have g1 : (n : Int) < 0 := of_decide_eq_true g1
    refine wN_mov (v := .bool true) rfl ?_
    refine wN_gs rfl ?_
    refine wN_gs rfl ?_
    refine wN_gs rfl ?_
    refine wN_gs rfl ?_
    refine wN_pur (v := .bool true) rfl rfl ?_
    refine wN_end ?_
    refine condT ?_
    refine wN_seq ?_
    refine wN_mov (v := .bool false) rfl ?_
    refine wN_end ?_
    exact And.intro trivial (Exists.intro _ (And.intro rfl ⟨congrArg Value.bool (show false = (decide (0 ≤ n) && decide (n ≤ 16) && us.all Fz.ok) from (by symm; simp; omega)), hk⟩))
/-- checkLots -/
theorem check57_ok {sa : Option Addr} {n cap : Nat} {us : List Fz} (hs : Sl H sa n cap (fzc us)) (hl : us.length = n) (hn2 : n ≤ 1000000) (hlo : lo ≤ H.next) : ∃ H', FnX Try.prog kn lo 57 [.slice sa n cap] H (iv (chkF us)) H' ∧ Keep H H' [] := by
  have key := fnX_low (kn := kn) (lo := lo) (H := H) (args := [.slice sa n cap]) (Q := fun w H' => w = iv (chkF us) ∧ Keep H H' []) Try.func57 B57 N57 Z57 L57 (by simp) ?_
  · obtain ⟨w, H', h, rfl, q⟩ := key; exact ⟨H', h, q⟩
  have hk := Keep.refl H []
  refine wN_seq ?_
  refine wN_mov (v := iv 0) rfl ?_
  refine wN_end ?_
  refine wN_seq ?_
  refine wN_mov (v := .slice sa n cap) rfl ?_
  refine wN_len (m := n) rfl ?_
  refine wN_c_gtr (a := (n : Int)) (b := 16) rfl rfl ?_
  refine wN_end ?_
  refine And.intro (fun q1 => ?_) (fun q1 => ?_)
  · have q1 : (n : Int) > 16 := of_decide_eq_true q1
    refine wN_seq ?_
    refine wN_mov (v := iv 3) rfl ?_
    refine wN_end ?_
    exact And.intro trivial (Exists.intro _ (And.intro rfl ⟨congrArg iv (show (3 : Int) = chkF us from (by symm; unfold chkF; rw [if_pos (by omega)])), hk⟩))
  · have q1 : ¬ ((n : Int) > 16) := of_decide_eq_false q1
    first | refine wN_skip ?_ | skip
    refine wN_seq ?_
    refine wN_mov (v := .slice sa n cap) rfl ?_
    obtain ⟨H1, fH1, kH1⟩ := list78_ok (kn := kn) (lo := lo) (H := H) hs hl hn2 (by omega)
    have mH1 := kH1.1
    have hk := hk.trans kH1
    have hs := kH1.sl0 hs
    rw [decide_eq_true (Nat.zero_le n), decide_eq_true (show n ≤ 16 by omega), Bool.true_and, Bool.true_and] at fH1
    cases hb : us.all Fz.ok
    · rw [hb] at fH1
      refine wN_callf (vs := [.slice sa n cap, iv 0, iv 16, .func (.func 79) #[] #[]]) rfl (callX_args fH1) ?_
      refine wN_pur (v := .bool true) rfl rfl ?_
      refine wN_end ?_
      refine condT ?_
      refine wN_seq ?_
      refine wN_mov (v := iv 1) rfl ?_
      refine wN_end ?_
      exact And.intro trivial (Exists.intro _ (And.intro rfl ⟨congrArg iv (show (1 : Int) = chkF us from (by symm; unfold chkF; rw [if_neg (by omega), hb]; rfl)), hk⟩))
    · rw [hb] at fH1
      refine wN_callf (vs := [.slice sa n cap, iv 0, iv 16, .func (.func 79) #[] #[]]) rfl (callX_args fH1) ?_
      refine wN_pur (v := .bool false) rfl rfl ?_
      refine wN_end ?_
      refine condF ?_
      first | refine wN_skip ?_ | skip
      refine wN_seq ?_
      refine wN_mov (v := iv 0) rfl ?_
      refine wN_end ?_
      exact And.intro trivial (Exists.intro _ (And.intro rfl ⟨congrArg iv (show (0 : Int) = chkF us from (by symm; unfold chkF; rw [if_neg (by omega), hb]; rfl)), hk⟩))
theorem nan_ok {a : Int} : ∃ H', FnX Try.prog kn lo 116 [iv a] H (.bool false) H' ∧ Keep H H' [] := by
  have key := fnX_low (kn := kn) (lo := lo) (H := H) (args := [iv a]) (Q := fun w H' => w = .bool false ∧ Keep H H' []) Try.func116 B116 N116 Z116 L116 (by simp) ?_
  · obtain ⟨w, H', h, rfl, q⟩ := key; exact ⟨H', h, q⟩
  have hk := Keep.refl H []
  refine wN_seq ?_
  refine wN_mov (v := .bool false) rfl ?_
  refine wN_end ?_
  refine wN_seq ?_
  refine wN_mov (v := iv a) rfl ?_
  refine wN_mov (v := iv a) rfl ?_
  refine wN_c_neq (a := a) (b := a) rfl rfl ?_
  rw [show (a != a) = false by simp]
  refine wN_mov (v := .bool false) rfl ?_
  refine wN_end ?_
  exact And.intro trivial (Exists.intro _ (And.intro rfl ⟨rfl, hk⟩))
theorem cmp_ok {a b : Int} : ∃ H', FnX Try.prog kn lo 113 [iv a, iv b] H (iv (sgn a b)) H' ∧ Keep H H' [] := by
  have key := fnX_low (kn := kn) (lo := lo) (H := H) (args := [iv a, iv b]) (Q := fun w H' => w = iv (sgn a b) ∧ Keep H H' []) Try.func113 B113 N113 Z113 L113 (by simp) ?_
  · obtain ⟨w, H', h, rfl, q⟩ := key; exact ⟨H', h, q⟩
  have hk := Keep.refl H []
  refine wN_seq ?_
  refine wN_mov (v := iv 0) rfl ?_
  refine wN_end ?_
  refine wN_seq ?_
  refine wN_mov (v := iv a) rfl ?_
  obtain ⟨H1, fH1, kH1⟩ := nan_ok (kn := kn) (lo := lo) (H := H) (a := a)
  refine wN_callf (vs := [iv a]) rfl (callX_args fH1) ?_
  have mH1 := kH1.1
  have hk := hk.trans kH1
  refine wN_mov (v := .bool false) rfl ?_
  refine wN_end ?_
  refine wN_seq ?_
  refine wN_mov (v := iv b) rfl ?_
  obtain ⟨H2, fH2, kH2⟩ := nan_ok (kn := kn) (lo := lo) (H := H1) (a := b)
  refine wN_callf (vs := [iv b]) rfl (callX_args fH2) ?_
  have mH2 := kH2.1
  have hk := hk.trans kH2
  refine wN_mov (v := .bool false) rfl ?_
  refine wN_end ?_
  refine wN_seq ?_
  refine wN_mov (v := .bool false) rfl ?_
  refine wN_end ?_
  refine condF ?_
  first | refine wN_skip ?_ | skip
  refine wN_seq ?_
  refine wN_mov (v := .bool false) rfl ?_
  refine wN_end ?_
  refine condF ?_
  first | refine wN_skip ?_ | skip
  refine wN_seq ?_
  refine wN_mov (v := iv a) rfl ?_
  refine wN_mov (v := iv b) rfl ?_
  refine wN_c_lss (a := a) (b := b) rfl rfl ?_
  refine wN_end ?_
  refine And.intro (fun q1 => ?_) (fun q1 => ?_)
  · have q1 : a < b := of_decide_eq_true q1
    refine wN_seq ?_
    refine wN_mov (v := iv (-1)) rfl ?_
    refine wN_end ?_
    exact And.intro trivial (Exists.intro _ (And.intro rfl ⟨congrArg iv (show (-1 : Int) = sgn a b from (by symm; unfold sgn; first | (rw [if_pos (by omega)]) | (rw [if_neg (by omega), if_pos (by omega)]) | (rw [if_neg (by omega), if_neg (by omega)]))), hk⟩))
  · have q1 : ¬ (a < b) := of_decide_eq_false q1
    first | refine wN_skip ?_ | skip
    refine wN_seq ?_
    refine wN_mov (v := iv a) rfl ?_
    refine wN_mov (v := iv b) rfl ?_
    refine wN_c_gtr (a := a) (b := b) rfl rfl ?_
    refine wN_end ?_
    refine And.intro (fun q2 => ?_) (fun q2 => ?_)
    · have q2 : a > b := of_decide_eq_true q2
      refine wN_seq ?_
      refine wN_mov (v := iv 1) rfl ?_
      refine wN_end ?_
      exact And.intro trivial (Exists.intro _ (And.intro rfl ⟨congrArg iv (show (1 : Int) = sgn a b from (by symm; unfold sgn; first | (rw [if_pos (by omega)]) | (rw [if_neg (by omega), if_pos (by omega)]) | (rw [if_neg (by omega), if_neg (by omega)]))), hk⟩))
    · have q2 : ¬ (a > b) := of_decide_eq_false q2
      first | refine wN_skip ?_ | skip
      refine wN_seq ?_
      refine wN_mov (v := iv 0) rfl ?_
      refine wN_end ?_
      exact And.intro trivial (Exists.intro _ (And.intro rfl ⟨congrArg iv (show (0 : Int) = sgn a b from (by symm; unfold sgn; first | (rw [if_pos (by omega)]) | (rw [if_neg (by omega), if_pos (by omega)]) | (rw [if_neg (by omega), if_neg (by omega)]))), hk⟩))
/-- compare -/
theorem compare_ok {sa : Option Addr} {n cap a b : Nat} {us : List Fz} {lv : Value} (hs : Sl H sa n cap (fzc us)) (hl : us.length = n) (ha : a < n) (hb : b < n) (hn : n ≤ 1000000) : ∃ H', FnX Try.prog kn lo 105 [.agg #[.slice sa n cap, lv], iv (a : Int), iv (b : Int)] H (iv (sgn (duF us a) (duF us b))) H' ∧ Keep H H' [] := by
  have key := fnX_low (kn := kn) (lo := lo) (H := H) (args := [.agg #[.slice sa n cap, lv], iv (a : Int), iv (b : Int)]) (Q := fun w H' => w = iv (sgn (duF us a) (duF us b)) ∧ Keep H H' []) Try.func105 B105 N105 Z105 L105 (by simp) ?_
  · obtain ⟨w, H', h, rfl, q⟩ := key; exact ⟨H', h, q⟩
  have hk := Keep.refl H []
  obtain ⟨xa, hxa⟩ := get_some (l := us) (i := a) (by omega)
  obtain ⟨xb, hxb⟩ := get_some (l := us) (i := b) (by omega)
  rcases id hs with ⟨_, h0, _⟩ | ⟨sb, es, rs, _⟩
  · omega
  have lsb := rs.lt
  refine wN_seq ?_
  refine wN_box (v := .agg #[.slice sa n cap, lv]) rfl ?_
  intro H1 kH1 nH1 c1
  have c1 : Cl H1 H.next [.slice sa n cap, lv] := c1
  have mH1 := kH1.1
  have hk := hk.trans kH1
  have rs := kH1.rd rs (by simp)
  refine wN_mov (v := iv 0) rfl ?_
  refine wN_end ?_
  refine wD_seq ?_
  refine wD_addo (b := H.next) (o := 0) rfl ?_
  refine wD_ld (b := H.next) (o := 0) (v := .slice sa n cap) rfl c1.rd rfl ?_
  refine wD_mov (v := iv (a : Int)) rfl ?_
  refine wD_idx (b := sb) (o := 0) (k := a) (j := (a : Int)) (by rw [← es]; rfl) rfl rfl (by omega) ?_
  refine wD_addo (b := sb) (o := 0 + a * 3) rfl ?_
  refine wD_ld (b := sb) (o := 0 + a * 3 + 1) (v := iv (duF us a)) rfl rs (by rw [(Fz.at hxa).1]; exact fzc_at (j := 1) hxa rfl) ?_
  refine wD_addo (b := H.next) (o := 0) rfl ?_
  refine wD_ld (b := H.next) (o := 0) (v := .slice sa n cap) rfl c1.rd rfl ?_
  refine wD_mov (v := iv (b : Int)) rfl ?_
  refine wD_idx (b := sb) (o := 0) (k := b) (j := (b : Int)) (by rw [← es]; rfl) rfl rfl (by omega) ?_
  refine wD_addo (b := sb) (o := 0 + b * 3) rfl ?_
  refine wD_ld (b := sb) (o := 0 + b * 3 + 1) (v := iv (duF us b)) rfl rs (by rw [(Fz.at hxb).1]; exact fzc_at (j := 1) hxb rfl) ?_
  obtain ⟨H2, fH2, kH2⟩ := cmp_ok (kn := kn) (lo := lo) (H := H1) (a := duF us a) (b := duF us b)
  refine wD_callf (vs := [iv (duF us a), iv (duF us b)]) rfl (callX_args fH2) ?_
  have mH2 := kH2.1
  have hk := hk.trans kH2
  have rs := kH2.rd rs (by simp)
  have c1 := kH2.cl c1 (by simp)
  refine wD_mov (v := iv (sgn (duF us a) (duF us b))) rfl ?_
  refine wD_end (by repeat' first | exact True.intro | exact (fun h => h) | refine And.intro ?_ ?_ | (intro h; have h : (_ : Nat) = _ := h; omega)) ?_
  exact And.intro trivial (Exists.intro _ (And.intro rfl ⟨rfl, hk⟩))
set_option maxHeartbeats 1000000 in
/-- insertionSortCmpFunc -/
theorem insort_ok {sa : Option Addr} {n cap bd f : Nat} {us : List Fz} {lv : Value} (hs : Sl H sa n cap (fzc us)) (hl : us.length = n) (hn : n ≤ 16) (fs : ∀ b, sa = some ⟨b, 0, none⟩ → b < f) (hfb : f ≤ bd) (hlb : lo ≤ bd) (hlo : lo ≤ H.next) (cd : Cl H bd (nf (fun p => ((id : Nat → Nat) p : Int)) n)) : ∃ H', FnX Try.prog kn lo 114 [slv bd n n, iv 0, iv (n : Int), .func (.func 105) #[.agg #[.slice sa n cap, lv]] #[]] H unit H' ∧ Keep H H' [bd] ∧ Cl H' bd (nf (fun p => (srt (duF us) n p : Int)) n) := by
  have key := fnX_low (kn := kn) (lo := lo) (H := H) (args := [slv bd n n, iv 0, iv (n : Int), .func (.func 105) #[.agg #[.slice sa n cap, lv]] #[]]) (Q := fun w H' => w = unit ∧ Keep H H' [bd] ∧ Cl H' bd (nf (fun p => (srt (duF us) n p : Int)) n)) Try.func114 B114 N114 Z114 L114 (by simp) ?_
  · obtain ⟨w, H', h, rfl, q⟩ := key; exact ⟨H', h, q⟩
  have hk := Keep.refl H [bd]
  have lb := cd.lt
  refine wN_seq ?_
  refine wN_mov (v := iv 0) rfl ?_
  refine wN_add (a := 0) (b := 1) rfl rfl ⟨by omega, by omega⟩ ?_
  refine wN_mov (v := iv (0 + 1)) rfl ?_
  refine wN_end ?_
  refine loop_low (fn := Try.f114) E114_1 N114 L114x1 (fun i : Nat => [(0, .slice (some ⟨bd, 0, none⟩) n n), (1, iv 0), (2, iv (n : Int)), (3, .func (.func 105) #[.agg #[.slice sa n cap, lv]] #[]), (8, iv (i : Int))])
    (fun d i H' => d = n - i ∧ 1 ≤ i ∧ i ≤ n + 1 ∧ Keep H H' [bd] ∧ Sl H' sa n cap (fzc us) ∧ Cl H' bd (nf (fun p => (srt (duF us) i p : Int)) n) ∧ (n < i → i = 1)) (n - 1) 1 ⟨rfl, Nat.le_refl _, by omega, hk, hs, cd, fun _ => rfl⟩ ⟨rfl, rfl, rfl, rfl, rfl, trivial⟩ ?_
  rintro d i L1 ⟨hd, h1i, hin, hk, hs, cd, hi1⟩
  have mki := hk.1
  refine wN_seq ?_
  refine wN_mov (v := iv (i : Int)) rfl ?_
  refine wN_mov (v := iv (n : Int)) rfl ?_
  refine wN_c_lss (a := (i : Int)) (b := (n : Int)) rfl rfl ?_
  refine wN_end ?_
  refine And.intro (fun q1 => ?_) (fun q1 => ?_)
  · have q1 : (i : Int) < (n : Int) := of_decide_eq_true q1
    have hi : i < n := by omega
    have hO := srt_ok (du := duF us) (n := n) i (by omega)
    first | refine wN_skip ?_ | skip
    refine wN_seq ?_
    refine wN_mov (v := iv (i : Int)) rfl ?_
    refine wN_mov (v := iv (i : Int)) rfl ?_
    refine wN_end ?_
    refine loop_low (fn := Try.f114) E114_2 N114 L114x2 (fun j : Nat => [(0, .slice (some ⟨bd, 0, none⟩) n n), (1, iv 0), (2, iv (n : Int)), (3, .func (.func 105) #[.agg #[.slice sa n cap, lv]] #[]), (8, iv (i : Int)), (9, iv (j : Int))])
      (fun e j H' => e = j ∧ j ≤ i ∧ Keep H H' [bd] ∧ Sl H' sa n cap (fzc us) ∧ ∃ L : Nat → Nat, (∀ p, p < n → L p < n) ∧ ins (duF us) j L = srt (duF us) (i + 1) ∧ Cl H' bd (nf (fun p => (L p : Int)) n)) i i ⟨rfl, Nat.le_refl _, hk, hs, _, hO.lt, rfl, cd⟩ ⟨rfl, rfl, rfl, rfl, rfl, rfl, trivial⟩ ?_
    rintro e j L2 ⟨hej, hji, hk, hs, L, hL, hins, cd⟩
    have mkj := hk.1
    refine wD_seq ?_
    refine wD_mov (v := iv (j : Int)) rfl ?_
    refine wD_mov (v := iv 0) rfl ?_
    refine wD_b_gtr (a := (j : Int)) (b := 0) rfl rfl ?_
    intro t2 g2; cases t2
    · have g2 : ¬ ((j : Int) > 0) := of_decide_eq_false g2
      refine wD_mov (v := .bool false) rfl ?_
      refine wD_gs rfl ?_
      refine wD_gs rfl ?_
      refine wD_gs rfl ?_
      refine wD_gs rfl ?_
      refine wD_gs rfl ?_
      refine wD_gs rfl ?_
      refine wD_gs rfl ?_
      refine wD_gs rfl ?_
      refine wD_gs rfl ?_
      refine wD_gs rfl ?_
      refine wD_gs rfl ?_
      refine wD_gs rfl ?_
      refine wD_pur (v := .bool false) rfl rfl ?_
      refine wD_end (by repeat' first | exact True.intro | exact (fun h => h) | refine And.intro ?_ ?_ | (intro h; have h : (_ : Nat) = _ := h; omega)) ?_
      refine condF ?_
      have hend : L = srt (duF us) (i + 1) := by
        rw [← hins, ins_end]
        first | (left; omega) | (right; exact hnl)
      subst hend
      first | (refine wN_exit ?_; show wC _ _ _ _ _ _ _ _ _) | skip
      first | refine wN_reg ?_ | refine wN_blk ?_ | refine wN_bseq ?_ | (refine wOps_nil ?_; refine wN_reg ?_)
      refine wN_mov (v := iv (i : Int)) rfl ?_
      refine wN_add (a := (i : Int)) (b := 1) rfl rfl ⟨by omega, by omega⟩ ?_
      refine wN_mov (v := iv ((i : Int) + 1)) rfl ?_
      refine wN_end ?_
      exact ⟨d - 1, i + 1, by omega, ⟨by omega, by omega, by omega, hk, hs, cd, fun _ => by omega⟩, rfl, rfl, rfl, rfl, rfl, trivial⟩
    · have g2 : (j : Int) > 0 := of_decide_eq_true g2
      have hj0 : 0 < j := by omega
      refine wD_mov (v := .bool true) rfl ?_
      refine wD_g rfl (wD_mov (v := .func (.func 105) #[.agg #[.slice sa n cap, lv]] #[]) rfl ?_)
      refine wD_g rfl (wD_mov (v := .slice (some ⟨bd, 0, none⟩) n n) rfl ?_)
      refine wD_g rfl (wD_mov (v := iv (j : Int)) rfl ?_)
      refine wD_g rfl (wD_idx (b := bd) (o := 0) (k := j) (j := (j : Int)) rfl rfl rfl (by omega) ?_)
      refine wD_g rfl (wD_ld (b := bd) (o := 0 + j * 1) (v := iv (L j : Int)) rfl cd.rd (nf_at (f := fun p => (L p : Int)) (by omega)) ?_)
      refine wD_g rfl (wD_mov (v := .slice (some ⟨bd, 0, none⟩) n n) rfl ?_)
      refine wD_g rfl (wD_mov (v := iv (j : Int)) rfl ?_)
      refine wD_g rfl (wD_sub (a := (j : Int)) (b := 1) rfl rfl ⟨by omega, by omega⟩ ?_)
      refine wD_g rfl (wD_idx (b := bd) (o := 0) (k := (j - 1)) (j := (j : Int) - 1) rfl rfl (by omega) (by omega) ?_)
      refine wD_g rfl (wD_ld (b := bd) (o := 0 + (j - 1) * 1) (v := iv (L (j - 1) : Int)) rfl cd.rd (nf_at (f := fun p => (L p : Int)) (by omega)) ?_)
      obtain ⟨H1, fH1, kH1⟩ := compare_ok (kn := kn) (lo := lo) (H := L2) (lv := lv) (a := L j) (b := L (j - 1)) hs hl (hL j (by omega)) (hL (j - 1) (by omega)) (by omega)
      refine wD_g rfl (wD_callf (vs := [.agg #[.slice sa n cap, lv], iv (L j : Int), iv (L (j - 1) : Int)]) rfl (callX_args fH1) ?_)
      have mH1 := kH1.1
      have hk := hk.trans (kH1.mono (by simp))
      have hs := kH1.sl0 hs
      have cd := kH1.cl cd (by simp)
      refine wD_g rfl (wD_b_lss (a := (sgn (duF us (L j)) (duF us (L (j - 1))))) (b := 0) rfl rfl ?_)
      intro t3 g3; cases t3
      · have g3 : ¬ ((sgn (duF us (L j)) (duF us (L (j - 1)))) < 0) := of_decide_eq_false g3
        have hnl := fun q => g3 (sgn_lt.2 q)
        refine wD_pur (v := .bool false) rfl rfl ?_
        refine wD_end (by repeat' first | exact True.intro | exact (fun h => h) | refine And.intro ?_ ?_ | (intro h; have h : (_ : Nat) = _ := h; omega)) ?_
        refine condF ?_
        have hend : L = srt (duF us) (i + 1) := by
          rw [← hins, ins_end]
          first | (left; omega) | (right; exact hnl)
        subst hend
        first | (refine wN_exit ?_; show wC _ _ _ _ _ _ _ _ _) | skip
        first | refine wN_reg ?_ | refine wN_blk ?_ | refine wN_bseq ?_ | (refine wOps_nil ?_; refine wN_reg ?_)
        refine wN_mov (v := iv (i : Int)) rfl ?_
        refine wN_add (a := (i : Int)) (b := 1) rfl rfl ⟨by omega, by omega⟩ ?_
        refine wN_mov (v := iv ((i : Int) + 1)) rfl ?_
        refine wN_end ?_
        exact ⟨d - 1, i + 1, by omega, ⟨by omega, by omega, by omega, hk, hs, cd, fun _ => by omega⟩, rfl, rfl, rfl, rfl, rfl, trivial⟩
      · have g3 : (sgn (duF us (L j)) (duF us (L (j - 1)))) < 0 := of_decide_eq_true g3
        have hlt := sgn_lt.1 g3
        refine wD_pur (v := .bool true) rfl rfl ?_
        refine wD_end (by repeat' first | exact True.intro | exact (fun h => h) | refine And.intro ?_ ?_ | (intro h; have h : (_ : Nat) = _ := h; omega)) ?_
        refine condT ?_
        first | refine wN_skip ?_ | skip
        first | refine wD_dreg ?_ | refine wB_dreg ?_ | refine wB_seq ?_ | (refine wOps_nil ?_; refine wD_dreg ?_)
        refine wD_mov (v := .slice (some ⟨bd, 0, none⟩) n n) rfl ?_
        refine wD_mov (v := iv (j : Int)) rfl ?_
        refine wD_mov (v := .slice (some ⟨bd, 0, none⟩) n n) rfl ?_
        refine wD_mov (v := iv (j : Int)) rfl ?_
        refine wD_sub (a := (j : Int)) (b := 1) rfl rfl ⟨by omega, by omega⟩ ?_
        refine wD_mov (v := .slice (some ⟨bd, 0, none⟩) n n) rfl ?_
        refine wD_mov (v := iv (j : Int)) rfl ?_
        refine wD_sub (a := (j : Int)) (b := 1) rfl rfl ⟨by omega, by omega⟩ ?_
        refine wD_idx (b := bd) (o := 0) (k := (j - 1)) (j := (j : Int) - 1) rfl rfl (by omega) (by omega) ?_
        refine wD_ld (b := bd) (o := 0 + (j - 1) * 1) (v := iv (L (j - 1) : Int)) rfl cd.rd (nf_at (f := fun p => (L p : Int)) (by omega)) ?_
        refine wD_mov (v := .slice (some ⟨bd, 0, none⟩) n n) rfl ?_
        refine wD_mov (v := iv (j : Int)) rfl ?_
        refine wD_idx (b := bd) (o := 0) (k := j) (j := (j : Int)) rfl rfl rfl (by omega) ?_
        refine wD_ld (b := bd) (o := 0 + j * 1) (v := iv (L j : Int)) rfl cd.rd (nf_at (f := fun p => (L p : Int)) (by omega)) ?_
        refine wD_idx (b := bd) (o := 0) (k := j) (j := (j : Int)) rfl rfl rfl (by omega) ?_
        refine wD_st (b := bd) (o := 0 + j * 1) (v := iv (L (j - 1) : Int)) rfl rfl cd (by omega) rfl rfl (by rw [nf_len]; omega) ?_
        intro H2 kH2 nH2 sH2
        have mH2 := kH2.1
        have hk := hk.new kH2 (fun b hb => by simp at hb ⊢; omega)
        have hs := kH2.sl hs (fun b e => by have := fs b e; first | (simp; done) | (simp; omega))
        have cd : Cl H2 bd ((nf (fun p => (L p : Int)) n).set (0 + j * 1) (iv (L (j - 1) : Int))) := sH2
        rw [nf_set (by omega)] at cd
        refine wD_idx (b := bd) (o := 0) (k := (j - 1)) (j := (j : Int) - 1) rfl rfl (by omega) (by omega) ?_
        refine wD_st (b := bd) (o := 0 + (j - 1) * 1) (v := iv (L j : Int)) rfl rfl cd (by omega) rfl rfl (by rw [nf_len]; omega) ?_
        intro H3 kH3 nH3 sH3
        have mH3 := kH3.1
        have hk := hk.new kH3 (fun b hb => by simp at hb ⊢; omega)
        have hs := kH3.sl hs (fun b e => by have := fs b e; first | (simp; done) | (simp; omega))
        have cd : Cl H3 bd ((nf (upd (fun p => (L p : Int)) j (L (j - 1) : Int)) n).set (0 + (j - 1) * 1) (iv (L j : Int))) := sH3
        rw [nf_set (by omega)] at cd
        rw [swp_nf (by omega) (by omega)] at cd
        have hL2 := swp_lt hL (show j < n by omega)
        have hins2 : ins (duF us) (j - 1) (swp L j) = srt (duF us) (i + 1) := by rw [← ins_go (by omega) hlt]; exact hins
        refine wD_end (by repeat' first | exact True.intro | exact (fun h => h) | refine And.intro ?_ ?_ | (intro h; have h : (_ : Nat) = _ := h; omega)) ?_
        first | refine wN_reg ?_ | refine wN_blk ?_ | refine wN_bseq ?_ | (refine wOps_nil ?_; refine wN_reg ?_)
        refine wN_mov (v := iv (j : Int)) rfl ?_
        refine wN_sub (a := (j : Int)) (b := 1) rfl rfl ⟨by omega, by omega⟩ ?_
        refine wN_mov (v := iv ((j : Int) - 1)) rfl ?_
        refine wN_end ?_
        exact ⟨j - 1, j - 1, by omega, ⟨rfl, by omega, hk, hs, _, hL2, hins2, cd⟩, rfl, rfl, rfl, rfl, rfl, by rw [show ((j - 1 : Nat) : Int) = (j : Int) - 1 by omega]; rfl, trivial⟩
  · have q1 : ¬ ((i : Int) < (n : Int)) := of_decide_eq_false q1
    first | (refine wN_exit ?_; show wC _ _ _ _ _ _ _ _ _) | skip
    exact And.intro trivial (Exists.intro _ (And.intro rfl ⟨rfl, hk, by
      have e : i = n ∨ n = 0 := by omega
      rcases e with e | e
      · subst e; exact cd
      · subst e; exact cd⟩))
set_option maxHeartbeats 1000000 in
/-- stableCmpFunc -/
theorem stable_ok {sa : Option Addr} {n cap bd f : Nat} {us : List Fz} {lv : Value} (hs : Sl H sa n cap (fzc us)) (hl : us.length = n) (hn : n ≤ 16) (fs : ∀ b, sa = some ⟨b, 0, none⟩ → b < f) (hfb : f ≤ bd) (hlb : lo ≤ bd) (hlo : lo ≤ H.next) (cd : Cl H bd (nf (fun p => ((id : Nat → Nat) p : Int)) n)) : ∃ H', FnX Try.prog kn lo 112 [slv bd n n, iv (n : Int), .func (.func 105) #[.agg #[.slice sa n cap, lv]] #[]] H unit H' ∧ Keep H H' [bd] ∧ Cl H' bd (nf (fun p => (srt (duF us) n p : Int)) n) := by
  have key := fnX_low (kn := kn) (lo := lo) (H := H) (args := [slv bd n n, iv (n : Int), .func (.func 105) #[.agg #[.slice sa n cap, lv]] #[]]) (Q := fun w H' => w = unit ∧ Keep H H' [bd] ∧ Cl H' bd (nf (fun p => (srt (duF us) n p : Int)) n)) Try.func112 B112 N112 Z112 L112 (by simp) ?_
  · obtain ⟨w, H', h, rfl, q⟩ := key; exact ⟨H', h, q⟩
  have hk := Keep.refl H [bd]
  have lb := cd.lt
  refine wN_seq ?_
  refine wN_mov (v := iv 20) rfl ?_
  refine wN_end ?_
  refine wN_seq ?_
  refine wN_mov (v := iv 20) rfl ?_
  refine wN_mov (v := iv 0) rfl ?_
  refine wN_mov (v := iv 20) rfl ?_
  refine wN_end ?_
  refine loop_low (fn := Try.f112) E112_1 N112 L112x1 (fun _u : Nat => [(0, .slice (some ⟨bd, 0, none⟩) n n), (1, iv (n : Int)), (2, .func (.func 105) #[.agg #[.slice sa n cap, lv]] #[]), (6, iv 20), (7, iv 0), (8, iv 20)])
    (fun k _u H' => H = H') 0 0 rfl ⟨rfl, rfl, rfl, rfl, rfl, rfl, trivial⟩ ?_
  rintro k _ _ rfl
  refine wN_seq ?_
  refine wN_mov (v := iv 20) rfl ?_
  refine wN_mov (v := iv (n : Int)) rfl ?_
  refine wN_c_leq (a := 20) (b := (n : Int)) rfl rfl ?_
  refine wN_end ?_
  refine And.intro (fun q1 => ?_) (fun q1 => ?_)
  · have q1 : 20 ≤ (n : Int) := of_decide_eq_true q1
    exfalso; omega
  · have q1 : ¬ (20 ≤ (n : Int)) := of_decide_eq_false q1
    first | (refine wN_exit ?_; show wC _ _ _ _ _ _ _ _ _) | skip
    refine wN_seq ?_
    refine wN_mov (v := .slice (some ⟨bd, 0, none⟩) n n) rfl ?_
    refine wN_mov (v := iv 0) rfl ?_
    refine wN_mov (v := iv (n : Int)) rfl ?_
    refine wN_mov (v := .func (.func 105) #[.agg #[.slice sa n cap, lv]] #[]) rfl ?_
    obtain ⟨H1, fH1, kH1, cH1⟩ := insort_ok (kn := kn) (lo := lo) (H := H) (lv := lv) hs hl hn fs hfb hlb (by omega) cd
    refine wN_callf (vs := [slv bd n n, iv 0, iv (n : Int), .func (.func 105) #[.agg #[.slice sa n cap, lv]] #[]]) rfl (callX_args fH1) ?_
    have mH1 := kH1.1
    have hk := hk.new kH1 (fun b hb => by simp at hb ⊢; omega)
    have hs := kH1.sl hs (fun b e => by have := fs b e; first | (simp; done) | (simp; omega))
    have cd := cH1
    refine wN_end ?_
    refine loop_low (fn := Try.f112) E112_2 N112 L112x2 (fun _u : Nat => [(0, .slice (some ⟨bd, 0, none⟩) n n), (1, iv (n : Int)), (2, .func (.func 105) #[.agg #[.slice sa n cap, lv]] #[]), (6, iv 20), (7, iv 0)])
      (fun k _u H' => H1 = H') 0 0 rfl ⟨rfl, rfl, rfl, rfl, rfl, trivial⟩ ?_
    rintro k _ _ rfl
    refine wN_seq ?_
    refine wN_mov (v := iv 20) rfl ?_
    refine wN_mov (v := iv (n : Int)) rfl ?_
    refine wN_c_lss (a := 20) (b := (n : Int)) rfl rfl ?_
    refine wN_end ?_
    refine And.intro (fun q2 => ?_) (fun q2 => ?_)
    · have q2 : 20 < (n : Int) := of_decide_eq_true q2
      exfalso; omega
    · have q2 : ¬ (20 < (n : Int)) := of_decide_eq_false q2
      first | (refine wN_exit ?_; show wC _ _ _ _ _ _ _ _ _) | skip
      exact And.intro trivial (Exists.intro _ (And.intro rfl ⟨rfl, hk, cd⟩))
set_option maxHeartbeats 1000000 in
/-- SortStableFunc -/
theorem sort_ok {sa : Option Addr} {n cap bd f : Nat} {us : List Fz} {lv : Value} (hs : Sl H sa n cap (fzc us)) (hl : us.length = n) (hn : n ≤ 16) (fs : ∀ b, sa = some ⟨b, 0, none⟩ → b < f) (hfb : f ≤ bd) (hlb : lo ≤ bd) (hlo : lo ≤ H.next) (cd : Cl H bd (nf (fun p => ((id : Nat → Nat) p : Int)) n)) : ∃ H', FnX Try.prog kn lo 104 [slv bd n n, .func (.func 105) #[.agg #[.slice sa n cap, lv]] #[]] H unit H' ∧ Keep H H' [bd] ∧ Cl H' bd (nf (fun p => (srt (duF us) n p : Int)) n) := by
  have key := fnX_low (kn := kn) (lo := lo) (H := H) (args := [slv bd n n, .func (.func 105) #[.agg #[.slice sa n cap, lv]] #[]]) (Q := fun w H' => w = unit ∧ Keep H H' [bd] ∧ Cl H' bd (nf (fun p => (srt (duF us) n p : Int)) n)) Try.func104 B104 N104 Z104 L104 (by simp) ?_
  · obtain ⟨w, H', h, rfl, q⟩ := key; exact ⟨H', h, q⟩
  have hk := Keep.refl H [bd]
  have lb := cd.lt
  first | refine wN_reg ?_ | refine wN_blk ?_ | refine wN_bseq ?_ | (refine wOps_nil ?_; refine wN_reg ?_)
  refine wN_mov (v := .slice (some ⟨bd, 0, none⟩) n n) rfl ?_
  refine wN_mov (v := .slice (some ⟨bd, 0, none⟩) n n) rfl ?_
  refine wN_len (m := n) rfl ?_
  refine wN_mov (v := .func (.func 105) #[.agg #[.slice sa n cap, lv]] #[]) rfl ?_
  obtain ⟨H1, fH1, kH1, cH1⟩ := stable_ok (kn := kn) (lo := lo) (H := H) (lv := lv) hs hl hn fs hfb hlb (by omega) cd
  refine wN_callf (vs := [slv bd n n, iv (n : Int), .func (.func 105) #[.agg #[.slice sa n cap, lv]] #[]]) rfl (callX_args fH1) ?_
  have mH1 := kH1.1
  have hk := hk.new kH1 (fun b hb => by simp at hb ⊢; omega)
  have hs := kH1.sl hs (fun b e => by have := fs b e; first | (simp; done) | (simp; omega))
  have cd := cH1
  refine wN_end ?_
  exact And.intro trivial (Exists.intro _ (And.intro rfl ⟨rfl, hk, cd⟩))
set_option maxHeartbeats 1000000 in
/-- order -/
theorem order_ok {sa : Option Addr} {n cap : Nat} {us : List Fz} {lv : Value} (hs : Sl H sa n cap (fzc us)) (hl : us.length = n) (hn : n ≤ 16) (hlo : lo ≤ H.next) : ∃ bd H', FnX Try.prog kn lo 82 [.agg #[.slice sa n cap, lv]] H (slv bd n n) H' ∧ Keep H H' [] ∧ H.next ≤ bd ∧ Cl H' bd (nf (fun p => (srt (duF us) n p : Int)) n) := by
  have key := fnX_low (kn := kn) (lo := lo) (H := H) (args := [.agg #[.slice sa n cap, lv]]) (Q := fun w H' => ∃ bd, w = slv bd n n ∧ Keep H H' [] ∧ H.next ≤ bd ∧ Cl H' bd (nf (fun p => (srt (duF us) n p : Int)) n)) Try.func82 B82 N82 Z82 L82 (by simp) ?_
  · obtain ⟨w, H', h, a, rfl, q⟩ := key; exact ⟨a, H', h, q⟩
  have hk := Keep.refl H []
  have fs := hs.old
  refine wN_seq ?_
  refine wN_box (v := .agg #[.slice sa n cap, lv]) rfl ?_
  intro H1 kH1 nH1 c1
  have c1 : Cl H1 H.next [.slice sa n cap, lv] := c1
  have mH1 := kH1.1
  have hk := hk.trans kH1
  have hs := kH1.sl0 hs
  refine wN_mov (v := .slice none 0 0) rfl ?_
  refine wN_end ?_
  refine wN_seq ?_
  refine wN_addo (b := H.next) (o := 0) rfl ?_
  refine wN_ld (b := H.next) (o := 0) (v := .slice sa n cap) rfl c1.rd rfl ?_
  refine wN_len (m := n) rfl ?_
  obtain ⟨ie, hie, hib⟩ := in3b
  obtain ⟨H2, hH2⟩ : ∃ H2, H1.new (.cells (zeros [iv 0] n) 3 false) = H2 := ⟨_, rfl⟩
  refine wN_memh (v := .slice (some ⟨H1.next, 0, none⟩) n n) (H' := H2) (k := .heavy) rfl (by kernel_rfl) ((heap_makeR (a := n) (m := n) se42 z3 hie hib rfl rfl (by omega) (by omega)).trans (by rw [← hH2]; rfl)) (fun b e => by cases e) ?_
  obtain ⟨kH2, nH2, _⟩ := new_facts hH2
  have od0 := new_sc hH2
  rw [zeros_nf] at od0
  have mH2 := kH2.1
  have hk := hk.trans kH2
  have hs := kH2.sl0 hs
  have c1 := kH2.cl c1 (by simp)
  obtain ⟨bod, ebod⟩ : ∃ b, b = H1.next := ⟨_, rfl⟩
  have od : Sc H2 bod (nf (fun _ => 0) n) := by rw [ebod]; exact od0
  rw [← ebod]
  have l0od := od.lt
  refine wN_mov (v := .slice (some ⟨bod, 0, none⟩) n n) rfl ?_
  refine wN_end ?_
  refine wN_seq ?_
  refine wN_mov (v := .slice (some ⟨bod, 0, none⟩) n n) rfl ?_
  refine wN_len (m := n) rfl ?_
  refine wN_mov (v := iv 0) rfl ?_
  refine wN_end ?_
  have cd : Cl H2 bod (nf (fun p => if p < 0 then (p : Int) else 0) n) := by rw [nf_congr (g := fun _ => 0) (fun k hk => if_neg (by omega))]; exact od.cl
  refine loop_low (fn := Try.f82) E82_1 N82 L82x1 (fun i : Nat => [(1, pt H.next), (3, .slice (some ⟨bod, 0, none⟩) n n), (10, iv (n : Int)), (11, iv (i : Int))])
    (fun k i H' => i + k = n ∧ Keep H H' [] ∧ H2.next ≤ H'.next ∧ Sl H' sa n cap (fzc us) ∧ Cl H' bod (nf (fun p => if p < i then (p : Int) else 0) n) ∧ Cl H' H.next [.slice sa n cap, lv]) n 0 ⟨by omega, hk, Nat.le_refl _, hs, cd, c1⟩ ⟨rfl, rfl, rfl, rfl, trivial⟩ ?_
  rintro k i L1 ⟨hik, hk, hnx, hs, cd, c1⟩
  have mki := hk.1
  refine wN_seq ?_
  refine wN_c_lss (a := (i : Int)) (b := (n : Int)) rfl rfl ?_
  refine wN_end ?_
  refine And.intro (fun q1 => ?_) (fun q1 => ?_)
  · have q1 : (i : Int) < (n : Int) := of_decide_eq_true q1
    have hi : i < n := by omega
    first | refine wN_skip ?_ | skip
    refine wN_seq ?_
    refine wN_mov (v := iv (i : Int)) rfl ?_
    refine wN_mov (v := iv (i : Int)) rfl ?_
    refine wN_end ?_
    first | refine wN_reg ?_ | refine wN_blk ?_ | refine wN_bseq ?_ | (refine wOps_nil ?_; refine wN_reg ?_)
    refine wN_mov (v := .slice (some ⟨bod, 0, none⟩) n n) rfl ?_
    refine wN_mov (v := iv (i : Int)) rfl ?_
    refine wN_mov (v := iv (i : Int)) rfl ?_
    refine wN_idx (b := bod) (o := 0) (k := i) (j := (i : Int)) rfl rfl rfl hi ?_
    refine wN_st (b := bod) (o := 0 + i * 1) (v := iv (i : Int)) rfl rfl cd (by omega) rfl rfl (by rw [nf_len]; omega) ?_
    intro H3 kH3 nH3 sH3
    have mH3 := kH3.1
    have hk := hk.new kH3 (fun b hb => by simp at hb ⊢; omega)
    have hs := kH3.sl hs (fun b e => by have := fs b e; first | (simp; done) | (simp; omega))
    have c1 := kH3.cl c1 (by first | (simp; done) | (simp; omega))
    have cd := sH3
    rw [nf_set hi] at cd
    have cd : Cl H3 bod (nf (fun p => if p < i + 1 then (p : Int) else 0) n) := by
      rw [nf_congr (g := upd (fun p => if p < i then (p : Int) else 0) i i) (fun k hk => by
        show (if k < i + 1 then (k : Int) else 0) = (if k = i then (i : Int) else (if k < i then (k : Int) else 0))
        by_cases e : k = i
        · rw [if_pos (by omega), if_pos e, e]
        · rw [if_neg e]; by_cases q : k < i
          · rw [if_pos (by omega), if_pos q]
          · rw [if_neg (by omega), if_neg q])]
      exact cd
    refine wN_end ?_
    first | refine wN_reg ?_ | refine wN_blk ?_ | refine wN_bseq ?_ | (refine wOps_nil ?_; refine wN_reg ?_)
    refine wN_add (a := (i : Int)) (b := 1) rfl rfl ⟨by omega, by omega⟩ ?_
    refine wN_mov (v := iv ((i : Int) + 1)) rfl ?_
    refine wN_end ?_
    exact ⟨k - 1, i + 1, by omega, ⟨by omega, hk, by omega, hs, cd, c1⟩, rfl, rfl, rfl, rfl, trivial⟩
  · have q1 : ¬ ((i : Int) < (n : Int)) := of_decide_eq_false q1
    have e : n = i := by omega
    subst e
    have cd : Cl L1 bod (nf (fun p => ((id : Nat → Nat) p : Int)) n) := by
      have q := nf_congr (f := fun p => ((id : Nat → Nat) p : Int)) (g := fun p => if p < n then (p : Int) else 0) (n := n) (fun k hk => (if_pos hk).symm)
      rw [q]; exact cd
    refine wN_seq ?_
    refine wN_mov (v := .slice (some ⟨bod, 0, none⟩) n n) rfl ?_
    refine wN_lda (b := H.next) (o := 0) rfl c1.rd (show row 2 _ _ = some [.slice sa n cap, lv] from rfl) ?_
    refine wN_pur (v := .func (.func 105) #[.agg #[.slice sa n cap, lv]] #[]) rfl (by kernel_rfl) ?_
    obtain ⟨H4, fH4, kH4, cH4⟩ := sort_ok (kn := kn) (lo := lo) (H := L1) (f := H.next) (lv := lv) hs hl hn fs (by omega) (by omega) (by omega) cd
    refine wN_callf (vs := [slv bod n n, .func (.func 105) #[.agg #[.slice sa n cap, lv]] #[]]) rfl (callX_args fH4) ?_
    have mH4 := kH4.1
    have hk := hk.new kH4 (fun b hb => by simp at hb ⊢; omega)
    have hs := kH4.sl hs (fun b e => by have := fs b e; first | (simp; done) | (simp; omega))
    have c1 := kH4.cl c1 (by first | (simp; done) | (simp; omega))
    have cd := cH4
    refine wN_end ?_
    refine wN_seq ?_
    refine wN_mov (v := .slice (some ⟨bod, 0, none⟩) n n) rfl ?_
    refine wN_mov (v := .slice (some ⟨bod, 0, none⟩) n n) rfl ?_
    refine wN_end ?_
    exact And.intro trivial (Exists.intro _ (And.intro rfl ⟨_, rfl, hk, by omega, cd⟩))
end
end Go.Ax

/-
  Plant: blends: all of them in their order, the best one (written by program).
-/
namespace Go.Ax
open Go Go.RowKit

abbrev Bl := Nat → Int
abbrev bc (b : Bl) : List Value := [iv (b 0), iv (b 1), iv (b 2), iv (b 3), iv (b 4)]
def bz : Bl := fun _ => 0
def unF (us : List Tn) (i : Nat) : Int := (us.getD i Tn.z).un
theorem Tn.at {us : List Tn} {i : Nat} {x : Tn} (h : us[i]? = some x) : us.getD i Tn.z = x := by rw [List.getD_eq_getElem?_getD, h]; rfl
def Tn.ok (t : Tn) : Bool := isw t.un 12 && isw t.pr 1048576 && isw t.su 10000 && isw t.ac 10000 && isw t.co 10000
theorem Tn.ok_t {t : Tn} (h : t.ok = true) : (0 ≤ t.un ∧ t.un ≤ 12) ∧ (0 ≤ t.pr ∧ t.pr ≤ 1048576) ∧ (0 ≤ t.su ∧ t.su ≤ 10000) ∧ (0 ≤ t.ac ∧ t.ac ≤ 10000) ∧ 0 ≤ t.co ∧ t.co ≤ 10000 := by
  unfold Tn.ok at h; simp only [Bool.and_eq_true] at h
  exact ⟨isw_t h.1.1.1.1, isw_t h.1.1.1.2, isw_t h.1.1.2, isw_t h.1.2, isw_t h.2⟩
/-- a recipe -/
structure Rc where
  un : Int
  s1 : Int
  s2 : Int
  a1 : Int
  a2 : Int
  c1 : Int
  c2 : Int
abbrev Rc.f (r : Rc) : List Value := [iv r.un, iv r.s1, iv r.s2, iv r.a1, iv r.a2, iv r.c1, iv r.c2]
def spB (a b m : Int) : Bool := decide (0 ≤ a) && decide (a ≤ b) && decide (b ≤ m)
theorem spB_t {a b m : Int} (h : spB a b m = true) : 0 ≤ a ∧ a ≤ b ∧ b ≤ m := by simp [spB] at h; omega
def Rc.ok (r : Rc) : Bool := decide (1 ≤ r.un) && decide (r.un ≤ 60) && spB r.s1 r.s2 10000 && spB r.a1 r.a2 10000 && spB r.c1 r.c2 10000
theorem Rc.ok_t {r : Rc} (h : r.ok = true) : (1 ≤ r.un ∧ r.un ≤ 60) ∧ (0 ≤ r.s1 ∧ r.s1 ≤ r.s2 ∧ r.s2 ≤ 10000) ∧ (0 ≤ r.a1 ∧ r.a1 ≤ r.a2 ∧ r.a2 ≤ 10000) ∧ 0 ≤ r.c1 ∧ r.c1 ≤ r.c2 ∧ r.c2 ≤ 10000 := by
  unfold Rc.ok at h; simp only [Bool.and_eq_true, decide_eq_true_eq] at h
  exact ⟨⟨h.1.1.1.1, h.1.1.1.2⟩, spB_t h.1.1.2, spB_t h.1.2, spB_t h.2⟩
/-- the sum of a number of each tank times its units -/
def sumB (us : List Tn) (b : Bl) (f : Tn → Int) (k : Nat) : Int := sm (fun i => b i * f (us.getD i Tn.z)) k
def mixB (s u a b : Int) : Bool := decide (u * a ≤ s) && decide (s ≤ u * b)
def rigB (us : List Tn) (r : Rc) (b : Bl) : Bool := mixB (sumB us b Tn.su us.length) r.un r.s1 r.s2 && mixB (sumB us b Tn.ac us.length) r.un r.a1 r.a2 && mixB (sumB us b Tn.co us.length) r.un r.c1 r.c2
def cosB (us : List Tn) (b : Bl) : Int := sumB us b Tn.pr us.length
theorem sumB_in {us : List Tn} {b : Bl} {f : Tn → Int} {m : Int} (hb : ∀ i, 0 ≤ b i ∧ b i ≤ 12) (hm : 0 ≤ m) (hf : ∀ i, i < us.length → 0 ≤ f (us.getD i Tn.z) ∧ f (us.getD i Tn.z) ≤ m) : ∀ k, k ≤ us.length → 0 ≤ sumB us b f k ∧ sumB us b f k ≤ 12 * m * k
  | 0, _ => by show 0 ≤ (0 : Int) ∧ (0 : Int) ≤ 12 * m * ((0 : Nat) : Int); simp
  | k + 1, hk => by
    have a := sumB_in hb hm hf k (by omega)
    have c := hf k (by omega)
    have d := hb k
    have e : 0 ≤ b k * f (us.getD k Tn.z) := Int.mul_nonneg d.1 c.1
    have g : b k * f (us.getD k Tn.z) ≤ 12 * f (us.getD k Tn.z) := Int.mul_le_mul_of_nonneg_right d.2 c.1
    have h : 12 * m * ((k + 1 : Nat) : Int) = 12 * m * k + 12 * m := by rw [Int.natCast_add, Int.mul_add]; simp
    show 0 ≤ sumB us b f k + b k * f (us.getD k Tn.z) ∧ sumB us b f k + b k * f (us.getD k Tn.z) ≤ 12 * m * ((k + 1 : Nat) : Int)
    omega
/-- the units of the tanks behind -/
def hdN (us : List Tn) (k : Nat) : Int := sm (fun i => (us.getD i Tn.z).un) k
def lstU (us : List Tn) (nx : Nat) (u : Int) : Int := max 0 (u - hdN (us.drop (nx + 1)) (us.length - (nx + 1)))
def mstU (us : List Tn) (nx : Nat) (u : Int) : Int := min u (unF us nx)
def runs {α : Type} (f : Int → List α) : Nat → Int → List α
  | 0, _ => []
  | r + 1, v => f v ++ runs f r (v + 1)
/-- all ways to go on with a blend, in their order -/
def cmpl (us : List Tn) : Nat → Nat → Int → Bl → List Bl
  | 0, _, u, b => if u > 0 then [] else [b]
  | d + 1, nx, u, b => runs (fun v => cmpl us d (nx + 1) (u - v) (upd b nx v)) (mstU us nx u + 1 - lstU us nx u).toNat (lstU us nx u)
def pickB (us : List Tn) (a : Option Bl) (o : Bl) : Option Bl :=
  match a with
  | none => some o
  | some b => if cosB us o < cosB us b then some o else some b
def bstB (us : List Tn) (r : Rc) (a : Option Bl) (s : List Bl) : Option Bl := (s.filter (rigB us r)).foldl (pickB us) a
def allB (us : List Tn) (r : Rc) : List Bl := cmpl us us.length 0 r.un bz
def bestB (us : List Tn) (r : Rc) : Option Bl := bstB us r none (allB us r)
theorem bstB_skip {us : List Tn} {r : Rc} {a : Option Bl} {o : Bl} {s : List Bl} (h : rigB us r o = false) : bstB us r a (o :: s) = bstB us r a s := by
  unfold bstB; rw [List.filter_cons_of_neg (by simp [h])]
theorem bstB_step {us : List Tn} {r : Rc} {a : Option Bl} {o : Bl} {s : List Bl} (h : rigB us r o = true) : bstB us r a (o :: s) = bstB us r (pickB us a o) s := by
  unfold bstB; rw [List.filter_cons_of_pos (by simp [h])]; rfl
/-- lexicographic order -/
def ltB (b c : Bl) : Prop := ∃ i, (∀ j, j < i → b j = c j) ∧ b i < c i
theorem mem_runs {α : Type} {f : Int → List α} {x : α} : ∀ r v, x ∈ runs f r v ↔ ∃ w, v ≤ w ∧ w < v + r ∧ x ∈ f w
  | 0, v => by
    constructor
    · intro h; cases h
    · rintro ⟨w, h1, h2, _⟩; omega
  | r + 1, v => by
    show x ∈ f v ++ runs f r (v + 1) ↔ _
    rw [List.mem_append, mem_runs r (v + 1)]
    constructor
    · rintro (h | ⟨w, h1, h2, h3⟩)
      · exact ⟨v, Int.le_refl _, by omega, h⟩
      · exact ⟨w, by omega, by omega, h3⟩
    · rintro ⟨w, h1, h2, h3⟩
      by_cases e : w = v
      · subst e; exact .inl h3
      · exact .inr ⟨w, by omega, by omega, h3⟩
/-- what all of them have: what was there, units within the tanks, together as many as are wanted -/
theorem mem_cmpl {us : List Tn} {x : Bl} : ∀ d nx u b, nx + d = us.length → x ∈ cmpl us d nx u b → (∀ i, i < nx → x i = b i) ∧ (∀ i, us.length ≤ i → x i = b i) ∧ (∀ i, nx ≤ i → i < us.length → 0 ≤ x i ∧ x i ≤ unF us i) ∧ u ≤ sm x us.length - sm x nx ∧ (0 ≤ u → sm x us.length - sm x nx = u)
  | 0, nx, u, b, hd, h => by
    have e : nx = us.length := by omega
    have h : x ∈ if u > 0 then ([] : List Bl) else [b] := h
    split at h
    · cases h
    · rw [List.mem_singleton] at h
      subst h
      refine ⟨fun _ _ => rfl, fun _ _ => rfl, fun i h1 h2 => absurd h1 (by omega), by rw [e]; omega, fun _ => by rw [e]; omega⟩
  | d + 1, nx, u, b, hd, h => by
    obtain ⟨w, h1, h2, h3⟩ := (mem_runs _ _).1 h
    obtain ⟨a1, a2, a3, a4, a5⟩ := mem_cmpl d (nx + 1) (u - w) (upd b nx w) (by omega) h3
    have hl : 0 ≤ lstU us nx u := by unfold lstU; omega
    have hm : w ≤ mstU us nx u := by omega
    have xn : x nx = w := by rw [a1 nx (by omega)]; unfold upd; rw [if_pos rfl]
    have hs : sm x (nx + 1) = sm x nx + x nx := rfl
    unfold mstU at hm
    refine ⟨fun i hi => by rw [a1 i (by omega)]; unfold upd; rw [if_neg (by omega)], fun i hi => by rw [a2 i hi]; unfold upd; rw [if_neg (by omega)], fun i h4 h5 => ?_, by omega, fun hu => by have := a5 (by omega); omega⟩
    by_cases e : i = nx
    · subst e; rw [xn]; omega
    · exact a3 i (by omega) h5
theorem sm_drop (us : List Tn) (k : Nat) : ∀ m, hdN (us.drop k) m = hdN us (k + m) - hdN us k
  | 0 => by show 0 = hdN us k - hdN us k; omega
  | m + 1 => by
    have e : (us.drop k).getD m Tn.z = us.getD (k + m) Tn.z := by rw [List.getD_eq_getElem?_getD, List.getD_eq_getElem?_getD, List.getElem?_drop]
    show hdN (us.drop k) m + ((us.drop k).getD m Tn.z).un = hdN us (k + m) + (us.getD (k + m) Tn.z).un - hdN us k
    rw [sm_drop us k m, e]; omega
/-- and all that have it are among them -/
theorem cmpl_mem {us : List Tn} {x : Bl} : ∀ d nx u b, nx + d = us.length → (∀ i, i < nx → x i = b i) → (∀ i, us.length ≤ i → x i = b i) → (∀ i, nx ≤ i → i < us.length → 0 ≤ x i ∧ x i ≤ unF us i) → sm x us.length - sm x nx = u → x ∈ cmpl us d nx u b
  | 0, nx, u, b, hd, h1, h2, h3, h4 => by
    have e : nx = us.length := by omega
    have hu : ¬ u > 0 := by rw [e] at h4; omega
    show x ∈ if u > 0 then ([] : List Bl) else [b]
    rw [if_neg hu, List.mem_singleton]
    funext i
    rcases Nat.lt_or_ge i nx with q | q
    · exact h1 i q
    · exact h2 i (by omega)
  | d + 1, nx, u, b, hd, h1, h2, h3, h4 => by
    have hn := h3 nx (Nat.le_refl _) (by omega)
    have hs : sm x (nx + 1) = sm x nx + x nx := rfl
    have up : ∀ m, nx + 1 + m ≤ us.length → sm x (nx + 1 + m) - sm x (nx + 1) ≤ hdN us (nx + 1 + m) - hdN us (nx + 1) ∧ 0 ≤ sm x (nx + 1 + m) - sm x (nx + 1) := by
      intro m
      induction m with
      | zero => intro _; constructor <;> (show _ ≤ _; simp)
      | succ m ih =>
        intro hm
        have := ih (by omega)
        have := h3 (nx + 1 + m) (by omega) (by omega)
        have e1 : sm x (nx + 1 + (m + 1)) = sm x (nx + 1 + m) + x (nx + 1 + m) := rfl
        have e2 : hdN us (nx + 1 + (m + 1)) = hdN us (nx + 1 + m) + unF us (nx + 1 + m) := rfl
        omega
    have u1 := up d (by omega)
    rw [show nx + 1 + d = us.length by omega] at u1
    have hh : hdN (us.drop (nx + 1)) (us.length - (nx + 1)) = hdN us us.length - hdN us (nx + 1) := by
      rw [sm_drop, show nx + 1 + (us.length - (nx + 1)) = us.length by omega]
    refine (mem_runs _ _).2 ⟨x nx, ?_, ?_, ?_⟩
    · unfold lstU; rw [hh]; omega
    · have : lstU us nx u ≤ x nx := by unfold lstU; rw [hh]; omega
      have : x nx ≤ mstU us nx u := by unfold mstU; omega
      omega
    · refine cmpl_mem d (nx + 1) (u - x nx) (upd b nx (x nx)) (by omega) (fun i hi => ?_) (fun i hi => ?_) (fun i a c => h3 i (by omega) c) (by omega)
      · unfold upd
        split
        · rename_i e; rw [e]
        · exact h1 i (by omega)
      · unfold upd; rw [if_neg (by omega)]; exact h2 i hi
theorem runs_sorted {f : Int → List Bl} {R : Bl → Bl → Prop} : ∀ (r : Nat) (v : Int), (∀ w, v ≤ w → w < v + (r : Int) → (f w).Pairwise R) → (∀ w w', v ≤ w → w < w' → w' < v + (r : Int) → ∀ x ∈ f w, ∀ y ∈ f w', R x y) → (runs f r v).Pairwise R
  | 0, _, _, _ => .nil
  | r + 1, v, h1, h2 => by
    show (f v ++ runs f r (v + 1)).Pairwise R
    rw [List.pairwise_append]
    refine ⟨h1 v (Int.le_refl _) (by omega), runs_sorted r (v + 1) (fun w a b => h1 w (by omega) (by omega)) (fun w w' a b c => h2 w w' (by omega) b (by omega)), fun x hx y hy => ?_⟩
    obtain ⟨w, q1, q2, q3⟩ := (mem_runs _ _).1 hy
    exact h2 v w (Int.le_refl _) (by omega) (by omega) x hx y q3
theorem cmpl_sorted {us : List Tn} : ∀ d nx u b, nx + d = us.length → (cmpl us d nx u b).Pairwise ltB
  | 0, nx, u, b, _ => by
    show (if u > 0 then ([] : List Bl) else [b]).Pairwise ltB
    split
    · exact .nil
    · exact List.pairwise_singleton _ _
  | d + 1, nx, u, b, hd => by
    refine runs_sorted _ _ (fun w _ _ => cmpl_sorted d (nx + 1) _ _ (by omega)) (fun w w' _ hw _ x hx y hy => ?_)
    have a := mem_cmpl d (nx + 1) (u - w) (upd b nx w) (by omega) hx
    have c := mem_cmpl d (nx + 1) (u - w') (upd b nx w') (by omega) hy
    refine ⟨nx, fun j hj => ?_, ?_⟩
    · rw [a.1 j (by omega), c.1 j (by omega)]; unfold upd; rw [if_neg (by omega), if_neg (by omega)]
    · rw [a.1 nx (by omega), c.1 nx (by omega)]; unfold upd; rw [if_pos rfl, if_pos rfl]; exact hw
/-- a fold that takes the first one of the cheapest -/
theorem fold_best {us : List Tn} : ∀ (s : List Bl) (a : Option Bl), (match s.foldl (pickB us) a with
    | none => a = none ∧ s = []
    | some b => (a = some b ∨ b ∈ s) ∧ (∀ c, a = some c → c ≠ b → cosB us b < cosB us c) ∧ (∀ x ∈ s, cosB us b ≤ cosB us x) ∧ ∀ c, a = some c → cosB us b ≤ cosB us c)
  | [], a => by
    cases a with
    | none => exact ⟨rfl, rfl⟩
    | some b =>
      show (some b = some b ∨ b ∈ []) ∧ (∀ c, some b = some c → c ≠ b → cosB us b < cosB us c) ∧ (∀ x ∈ ([] : List Bl), cosB us b ≤ cosB us x) ∧ ∀ c, some b = some c → cosB us b ≤ cosB us c
      refine ⟨.inl rfl, fun c e ne => absurd (Option.some.inj e).symm ne, fun x hx => ?_, fun c e => ?_⟩
      · cases hx
      · cases e; exact Int.le_refl _
  | o :: s, a => by
    have ih := fold_best (us := us) s (pickB us a o)
    rw [List.foldl_cons]
    cases hr : s.foldl (pickB us) (pickB us a o) with
    | none =>
      rw [hr] at ih
      obtain ⟨h1, _⟩ := ih
      cases a with
      | none => cases h1
      | some c => unfold pickB at h1; simp only at h1; split at h1 <;> cases h1
    | some b =>
      rw [hr] at ih
      obtain ⟨h1, h2, h3, h4⟩ := ih
      cases a with
      | none =>
        have e : pickB us none o = some o := rfl
        rw [e] at h1 h2 h4
        have hob : cosB us b ≤ cosB us o := h4 o rfl
        refine ⟨.inr ?_, fun c q => (by cases q), fun x hx => ?_, fun c q => (by cases q)⟩
        · rcases h1 with q | q
          · cases q; exact List.mem_cons_self ..
          · exact List.mem_cons_of_mem _ q
        · rcases List.mem_cons.1 hx with rfl | q
          · exact hob
          · exact h3 x q
      | some c =>
        by_cases q : cosB us o < cosB us c
        · have e : pickB us (some c) o = some o := by unfold pickB; simp only; rw [if_pos q]
          rw [e] at h1 h2 h4
          have hob : cosB us b ≤ cosB us o := h4 o rfl
          refine ⟨.inr ?_, fun c' e' _ => by cases e'; omega, fun x hx => ?_, fun c' e' => by cases e'; omega⟩
          · rcases h1 with w | w
            · cases w; exact List.mem_cons_self ..
            · exact List.mem_cons_of_mem _ w
          · rcases List.mem_cons.1 hx with rfl | w
            · exact hob
            · exact h3 x w
        · have e : pickB us (some c) o = some c := by unfold pickB; simp only; rw [if_neg q]
          rw [e] at h1 h2 h4
          have hcb : cosB us b ≤ cosB us c := h4 c rfl
          refine ⟨?_, fun c' e' ne => by cases e'; exact h2 c rfl ne, fun x hx => ?_, fun c' e' => by cases e'; exact hcb⟩
          · rcases h1 with w | w
            · exact .inl w
            · exact .inr (List.mem_cons_of_mem _ w)
          · rcases List.mem_cons.1 hx with rfl | w
            · omega
            · exact h3 x w
theorem fold_first {us : List Tn} : ∀ (s : List Bl) (a : Option Bl) (b : Bl), s.Pairwise ltB → (∀ c, a = some c → ∀ x ∈ s, ltB c x) → s.foldl (pickB us) a = some b → ∀ x, (a = some x ∨ x ∈ s) → cosB us x = cosB us b → x = b ∨ ltB b x
  | [], a, b, _, _, h, x, hx, _ => by
    rcases hx with rfl | q
    · left; exact Option.some.inj h
    · cases q
  | o :: s, a, b, hp, ha, h, x, hx, hc => by
    rw [List.foldl_cons] at h
    obtain ⟨p1, p2⟩ := List.pairwise_cons.1 hp
    have fb := fold_best (us := us) s (pickB us a o)
    rw [h] at fb
    obtain ⟨f1, f2, f3, f4⟩ := fb
    have ha2 : ∀ c, pickB us a o = some c → ∀ y ∈ s, ltB c y := by
      intro c e y hy
      cases a with
      | none => cases e; exact p1 y hy
      | some d =>
        unfold pickB at e; simp only at e
        split at e
        · cases e; exact p1 y hy
        · cases e; exact ha _ rfl y (List.mem_cons_of_mem _ hy)
    have ih := fold_first s (pickB us a o) b p2 ha2 h
    by_cases q : pickB us a o = some x ∨ x ∈ s
    · exact ih x q hc
    · -- x was not picked
      cases a with
      | none =>
        rcases hx with w | w
        · cases w
        · rcases List.mem_cons.1 w with rfl | w
          · exact absurd (.inl rfl) q
          · exact absurd (.inr w) q
      | some d =>
        by_cases z : cosB us o < cosB us d
        · have e : pickB us (some d) o = some o := by unfold pickB; simp only; rw [if_pos z]
          have : cosB us b ≤ cosB us o := f4 o e
          rcases hx with w | w
          · cases w; omega
          · rcases List.mem_cons.1 w with rfl | w
            · exact absurd (.inl e) q
            · exact absurd (.inr w) q
        · have e : pickB us (some d) o = some d := by unfold pickB; simp only; rw [if_neg z]
          have hbd : cosB us b ≤ cosB us d := f4 d e
          rcases hx with w | w
          · cases w; exact absurd (.inl e) q
          · rcases List.mem_cons.1 w with rfl | w
            · -- x = o, as cheap as what is best: it lies behind d
              have hdx := ha d rfl x (List.mem_cons_self ..)
              rcases ih d (.inl e) (by omega) with w | w
              · rw [← w]; exact .inr hdx
              · obtain ⟨i, i1, i2⟩ := w
                obtain ⟨j, j1, j2⟩ := hdx
                right
                rcases Nat.lt_trichotomy i j with l | l | l
                · exact ⟨i, fun k hk => (i1 k hk).trans (j1 k (by omega)), by rw [← j1 i l]; exact i2⟩
                · subst l; exact ⟨i, fun k hk => (i1 k hk).trans (j1 k hk), by omega⟩
                · exact ⟨j, fun k hk => (i1 k (by omega)).trans (j1 k hk), by rw [i1 j l]; exact j2⟩
            · exact absurd (.inr w) q
/-- A blend of a recipe. -/
structure IsB (us : List Tn) (r : Rc) (x : Bl) : Prop where
  z : ∀ i, us.length ≤ i → x i = 0
  un : ∀ i, i < us.length → 0 ≤ x i ∧ x i ≤ unF us i
  su : sm x us.length = r.un
  ri : rigB us r x = true
theorem IsB.mem {us : List Tn} {r : Rc} {x : Bl} (h : IsB us r x) : x ∈ (allB us r).filter (rigB us r) := by
  rw [List.mem_filter]
  exact ⟨cmpl_mem us.length 0 r.un bz (by omega) (fun i hi => absurd hi (by omega)) (fun i hi => h.z i hi) (fun i _ hi => h.un i hi) (by have := h.su; show sm x us.length - 0 = r.un; omega), h.ri⟩
theorem IsB.of {us : List Tn} {r : Rc} {x : Bl} (hr : 0 ≤ r.un) (h : x ∈ (allB us r).filter (rigB us r)) : IsB us r x := by
  rw [List.mem_filter] at h
  obtain ⟨a1, a2, a3, a4, a5⟩ := mem_cmpl us.length 0 r.un bz (by omega) h.1
  exact ⟨a2, fun i hi => a3 i (by omega) hi, by have := a5 hr; show sm x us.length = r.un; have e : sm x 0 = 0 := rfl; omega, h.2⟩
/-- the best one -/
theorem bestB_says {us : List Tn} {r : Rc} (hr : 0 ≤ r.un) : (match bestB us r with
    | none => ∀ x, ¬ IsB us r x
    | some b => IsB us r b ∧ ∀ x, IsB us r x → cosB us b ≤ cosB us x ∧ (cosB us x = cosB us b → x = b ∨ ltB b x)) := by
  have fb := fold_best (us := us) ((allB us r).filter (rigB us r)) none
  have ff := fold_first (us := us) ((allB us r).filter (rigB us r)) none
  have e : bestB us r = ((allB us r).filter (rigB us r)).foldl (pickB us) none := rfl
  rw [e]
  cases hb : ((allB us r).filter (rigB us r)).foldl (pickB us) none with
  | none =>
    rw [hb] at fb
    intro x hx
    have := hx.mem
    rw [fb.2] at this; cases this
  | some b =>
    rw [hb] at fb
    obtain ⟨f1, _, f3, _⟩ := fb
    have hmem : b ∈ (allB us r).filter (rigB us r) := f1.elim (fun q => by cases q) id
    refine ⟨IsB.of hr hmem, fun x hx => ⟨f3 x hx.mem, fun hc => ?_⟩⟩
    exact ff b ((cmpl_sorted us.length 0 r.un bz (by omega)).filter _) (fun c q => by cases q) hb x (.inr hx.mem) hc
end Go.Ax

/-! What 'low' makes of functions of plant (written by program). -/
namespace Go.Ax
open Go Go.RowKit Go.Proofs
theorem N73 : Try.f73.ntmps = 26 := by kernel_rfl
theorem Z73 : Try.f73.results.toList = ((List.toArray [(.tmp 2)]) : Array ResultVar).toList := by kernel_rfl
theorem B73 : Try.f73.body = some (at_ Try.f73 []) := by kernel_rfl
noncomputable def R73 : RC := (.seq (.reg [⟨(some 1), none, (.box 73 (.tmp 0))⟩, ⟨(some 2), none, (.mov (.const (.bool false)))⟩])
  (.seq (.seq (.reg [⟨(some 3), none, (.addo (.tmp 1) 0)⟩, ⟨(some 4), none, (.ld (.tmp 3) 1)⟩, ⟨(some 5), none, (.call ⟨(.value (.func 95)), (List.toArray [(.tmp 4), (.const (.int .i64 12))]), (List.toArray [3, 3])⟩ true)⟩, ⟨(some 6), none, (.pur ⟨(some 6), (.unOp .not 4 (.tmp 5)), 4, "", (List.toArray []), none⟩)⟩, ⟨(some 7), none, (.mov (.tmp 6))⟩, ⟨(some 8), (some (7, false)), (.addo (.tmp 1) 4)⟩, ⟨(some 9), (some (7, false)), (.ld (.tmp 8) 1)⟩, ⟨(some 10), (some (7, false)), (.call ⟨(.value (.func 95)), (List.toArray [(.tmp 9), (.const (.int .i64 1048576))]), (List.toArray [3, 3])⟩ true)⟩, ⟨(some 11), (some (7, false)), (.pur ⟨(some 11), (.unOp .not 4 (.tmp 10)), 4, "", (List.toArray []), none⟩)⟩, ⟨(some 12), none, (.pur ⟨(some 12), (.pick (.tmp 7) (.const (.bool true)) (.tmp 11)), 4, "", (List.toArray []), none⟩)⟩])
  (.cond (.tmp 12) (.seq (.reg [⟨(some 2), none, (.mov (.const (.bool false)))⟩])
  .ret)
  .skip))
  (.seq (.reg [⟨(some 13), none, (.addo (.tmp 1) 1)⟩, ⟨(some 14), none, (.ld (.tmp 13) 1)⟩, ⟨(some 15), none, (.call ⟨(.value (.func 95)), (List.toArray [(.tmp 14), (.const (.int .i64 10000))]), (List.toArray [3, 3])⟩ true)⟩, ⟨(some 16), none, (.mov (.tmp 15))⟩, ⟨(some 17), (some (16, true)), (.addo (.tmp 1) 2)⟩, ⟨(some 18), (some (16, true)), (.ld (.tmp 17) 1)⟩, ⟨(some 19), (some (16, true)), (.call ⟨(.value (.func 95)), (List.toArray [(.tmp 18), (.const (.int .i64 10000))]), (List.toArray [3, 3])⟩ true)⟩, ⟨(some 20), none, (.pur ⟨(some 20), (.pick (.tmp 16) (.tmp 19) (.const (.bool false))), 4, "", (List.toArray []), none⟩)⟩, ⟨(some 21), none, (.mov (.tmp 20))⟩, ⟨(some 22), (some (21, true)), (.addo (.tmp 1) 3)⟩, ⟨(some 23), (some (21, true)), (.ld (.tmp 22) 1)⟩, ⟨(some 24), (some (21, true)), (.call ⟨(.value (.func 95)), (List.toArray [(.tmp 23), (.const (.int .i64 10000))]), (List.toArray [3, 3])⟩ true)⟩, ⟨(some 25), none, (.pur ⟨(some 25), (.pick (.tmp 21) (.tmp 24) (.const (.bool false))), 4, "", (List.toArray []), none⟩)⟩, ⟨(some 2), none, (.mov (.tmp 25))⟩])
  .ret)))
theorem L73 : low Try.prog Try.f73.ntmps (at_ Try.f73 []) = some R73 := by kernel_rfl
theorem N72 : Try.f72.ntmps = 7 := by kernel_rfl
theorem Z72 : Try.f72.results.toList = ((List.toArray [(.tmp 4)]) : Array ResultVar).toList := by kernel_rfl
theorem B72 : Try.f72.body = some (at_ Try.f72 []) := by kernel_rfl
noncomputable def R72 : RC := (.seq (.reg [⟨(some 3), none, (.box 73 (.tmp 1))⟩, ⟨(some 4), none, (.mov (.const (.bool false)))⟩])
  (.seq (.reg [⟨(some 5), none, (.lda (.tmp 3) 5)⟩, ⟨(some 6), none, (.call ⟨(.value (.func 73)), (List.toArray [(.tmp 5)]), (List.toArray [73])⟩ true)⟩, ⟨(some 4), none, (.mov (.tmp 6))⟩])
  .ret))
theorem L72 : low Try.prog Try.f72.ntmps (at_ Try.f72 []) = some R72 := by kernel_rfl
theorem N71 : Try.f71.ntmps = 34 := by kernel_rfl
theorem Z71 : Try.f71.results.toList = ((List.toArray [(.tmp 8)]) : Array ResultVar).toList := by kernel_rfl
theorem B71 : Try.f71.body = some (at_ Try.f71 []) := by kernel_rfl
noncomputable def R71 : RC := (.seq (.reg [⟨(some 8), none, (.mov (.const (.bool false)))⟩])
  (.seq (.seq (.reg [⟨(some 11), none, (.mov (.tmp 0))⟩, ⟨(some 12), none, (.len (.tmp 11))⟩, ⟨(some 13), none, (.mov (.tmp 1))⟩, ⟨(some 14), none, (.cmpb .lss (.tmp 12) (.tmp 13))⟩, ⟨(some 15), none, (.mov (.tmp 14))⟩, ⟨(some 16), (some (15, false)), (.mov (.tmp 0))⟩, ⟨(some 17), (some (15, false)), (.len (.tmp 16))⟩, ⟨(some 18), (some (15, false)), (.mov (.tmp 2))⟩, ⟨(some 19), (some (15, false)), (.cmpb .gtr (.tmp 17) (.tmp 18))⟩, ⟨(some 20), none, (.pur ⟨(some 20), (.pick (.tmp 15) (.const (.bool true)) (.tmp 19)), 4, "", (List.toArray []), none⟩)⟩])
  (.cond (.tmp 20) (.seq (.reg [⟨(some 8), none, (.mov (.const (.bool false)))⟩])
  .ret)
  .skip))
  (.seq (.seq (.reg [⟨(some 21), none, (.mov (.tmp 0))⟩, ⟨(some 22), none, (.len (.tmp 21))⟩, ⟨(some 23), none, (.mov (.const (.int .i64 0)))⟩])
  (.block 0 (.other (at_ Try.f71 [1, 1, 0, 1, 0]))))
  (.seq (.reg [⟨(some 8), none, (.mov (.const (.bool true)))⟩])
  .ret))))
theorem L71 : low Try.prog Try.f71.ntmps (at_ Try.f71 []) = some R71 := by kernel_rfl
theorem E71_1 : at_ Try.f71 [1, 1, 0, 1, 0] = .loop (at_ Try.f71 [1, 1, 0, 1, 0, 0]) := by kernel_rfl
noncomputable def R71x1 : RC := (.seq (.reg [⟨(some 24), none, (.cmp .lss (.tmp 23) (.tmp 22))⟩])
  (.seq (.cond (.tmp 24) .skip
  (.exit 0))
  (.seq (.block 1 (.seq (.reg [⟨(some 25), none, (.mov (.tmp 23))⟩, ⟨(some 26), none, (.idx (.tmp 21) (.tmp 23) 5)⟩, ⟨(some 27), none, (.lda (.tmp 26) 5)⟩, ⟨(some 10), none, (.alc 73 [(.int .i64 0), (.int .i64 0), (.int .i64 0), (.int .i64 0), (.int .i64 0)])⟩, ⟨(some 9), none, (.mov (.tmp 25))⟩, ⟨none, none, (.sta (.tmp 10) (.tmp 27) 5)⟩])
  (.seq (.reg [⟨(some 28), none, (.mov (.tmp 3))⟩, ⟨(some 29), none, (.mov (.tmp 9))⟩, ⟨(some 30), none, (.lda (.tmp 10) 5)⟩, ⟨(some 31), none, (.call ⟨(.value (.tmp 28)), (List.toArray [(.tmp 29), (.tmp 30)]), (List.toArray [3, 73])⟩ true)⟩, ⟨(some 32), none, (.pur ⟨(some 32), (.unOp .not 4 (.tmp 31)), 4, "", (List.toArray []), none⟩)⟩])
  (.cond (.tmp 32) (.seq (.reg [⟨(some 8), none, (.mov (.const (.bool false)))⟩])
  .ret)
  .skip))))
  (.reg [⟨(some 33), none, (.ari .add (.tmp 23) (.const (.int .i64 1)))⟩, ⟨(some 23), none, (.mov (.tmp 33))⟩]))))
theorem L71x1 : low Try.prog Try.f71.ntmps (at_ Try.f71 [1, 1, 0, 1, 0, 0]) = some R71x1 := by kernel_rfl
theorem N51 : Try.f51.ntmps = 5 := by kernel_rfl
theorem Z51 : Try.f51.results.toList = ((List.toArray [(.tmp 2)]) : Array ResultVar).toList := by kernel_rfl
theorem B51 : Try.f51.body = some (at_ Try.f51 []) := by kernel_rfl
noncomputable def R51 : RC := (.seq (.reg [⟨(some 2), none, (.mov (.const (.bool false)))⟩])
  (.seq (.reg [⟨(some 3), none, (.mov (.tmp 0))⟩, ⟨(some 4), none, (.call ⟨(.value (.func 71)), (List.toArray [(.tmp 3), (.const (.int .i64 0)), (.const (.int .i64 5)), (.func 72)]), (List.toArray [36, 3, 3, 117])⟩ true)⟩, ⟨(some 2), none, (.mov (.tmp 4))⟩])
  .ret))
theorem L51 : low Try.prog Try.f51.ntmps (at_ Try.f51 []) = some R51 := by kernel_rfl
theorem N74 : Try.f74.ntmps = 21 := by kernel_rfl
theorem Z74 : Try.f74.results.toList = ((List.toArray [(.tmp 4)]) : Array ResultVar).toList := by kernel_rfl
theorem B74 : Try.f74.body = some (at_ Try.f74 []) := by kernel_rfl
noncomputable def R74 : RC := (.seq (.reg [⟨(some 2), none, (.box 38 (.tmp 0))⟩, ⟨(some 4), none, (.mov (.const (.bool false)))⟩])
  (.seq (.reg [⟨(some 5), none, (.addo (.tmp 2) 0)⟩, ⟨(some 6), none, (.ld (.tmp 5) 1)⟩, ⟨(some 7), none, (.cmpb .leq (.const (.int .i64 0)) (.tmp 6))⟩, ⟨(some 8), none, (.mov (.tmp 7))⟩, ⟨(some 9), (some (8, true)), (.addo (.tmp 2) 0)⟩, ⟨(some 10), (some (8, true)), (.ld (.tmp 9) 1)⟩, ⟨(some 11), (some (8, true)), (.addo (.tmp 2) 1)⟩, ⟨(some 12), (some (8, true)), (.ld (.tmp 11) 1)⟩, ⟨(some 13), (some (8, true)), (.cmpb .leq (.tmp 10) (.tmp 12))⟩, ⟨(some 14), none, (.pur ⟨(some 14), (.pick (.tmp 8) (.tmp 13) (.const (.bool false))), 4, "", (List.toArray []), none⟩)⟩, ⟨(some 15), none, (.mov (.tmp 14))⟩, ⟨(some 16), (some (15, true)), (.addo (.tmp 2) 1)⟩, ⟨(some 17), (some (15, true)), (.ld (.tmp 16) 1)⟩, ⟨(some 18), (some (15, true)), (.mov (.tmp 1))⟩, ⟨(some 19), (some (15, true)), (.cmpb .leq (.tmp 17) (.tmp 18))⟩, ⟨(some 20), none, (.pur ⟨(some 20), (.pick (.tmp 15) (.tmp 19) (.const (.bool false))), 4, "", (List.toArray []), none⟩)⟩, ⟨(some 4), none, (.mov (.tmp 20))⟩])
  .ret))
theorem L74 : low Try.prog Try.f74.ntmps (at_ Try.f74 []) = some R74 := by kernel_rfl
theorem N52 : Try.f52.ntmps = 24 := by kernel_rfl
theorem Z52 : Try.f52.results.toList = ((List.toArray [(.tmp 2)]) : Array ResultVar).toList := by kernel_rfl
theorem B52 : Try.f52.body = some (at_ Try.f52 []) := by kernel_rfl
noncomputable def R52 : RC := (.seq (.reg [⟨(some 1), none, (.box 40 (.tmp 0))⟩, ⟨(some 2), none, (.mov (.const (.bool false)))⟩])
  (.seq (.seq (.reg [⟨(some 3), none, (.addo (.tmp 1) 0)⟩, ⟨(some 4), none, (.ld (.tmp 3) 1)⟩, ⟨(some 5), none, (.cmpb .lss (.tmp 4) (.const (.int .i64 1)))⟩, ⟨(some 6), none, (.mov (.tmp 5))⟩, ⟨(some 7), (some (6, false)), (.addo (.tmp 1) 0)⟩, ⟨(some 8), (some (6, false)), (.ld (.tmp 7) 1)⟩, ⟨(some 9), (some (6, false)), (.cmpb .gtr (.tmp 8) (.const (.int .i64 60)))⟩, ⟨(some 10), none, (.pur ⟨(some 10), (.pick (.tmp 6) (.const (.bool true)) (.tmp 9)), 4, "", (List.toArray []), none⟩)⟩])
  (.cond (.tmp 10) (.seq (.reg [⟨(some 2), none, (.mov (.const (.bool false)))⟩])
  .ret)
  .skip))
  (.seq (.reg [⟨(some 11), none, (.addo (.tmp 1) 1)⟩, ⟨(some 12), none, (.lda (.tmp 11) 2)⟩, ⟨(some 13), none, (.call ⟨(.value (.func 74)), (List.toArray [(.tmp 12), (.const (.int .i64 10000))]), (List.toArray [38, 3])⟩ true)⟩, ⟨(some 14), none, (.mov (.tmp 13))⟩, ⟨(some 15), (some (14, true)), (.addo (.tmp 1) 3)⟩, ⟨(some 16), (some (14, true)), (.lda (.tmp 15) 2)⟩, ⟨(some 17), (some (14, true)), (.call ⟨(.value (.func 74)), (List.toArray [(.tmp 16), (.const (.int .i64 10000))]), (List.toArray [38, 3])⟩ true)⟩, ⟨(some 18), none, (.pur ⟨(some 18), (.pick (.tmp 14) (.tmp 17) (.const (.bool false))), 4, "", (List.toArray []), none⟩)⟩, ⟨(some 19), none, (.mov (.tmp 18))⟩, ⟨(some 20), (some (19, true)), (.addo (.tmp 1) 5)⟩, ⟨(some 21), (some (19, true)), (.lda (.tmp 20) 2)⟩, ⟨(some 22), (some (19, true)), (.call ⟨(.value (.func 74)), (List.toArray [(.tmp 21), (.const (.int .i64 10000))]), (List.toArray [38, 3])⟩ true)⟩, ⟨(some 23), none, (.pur ⟨(some 23), (.pick (.tmp 19) (.tmp 22) (.const (.bool false))), 4, "", (List.toArray []), none⟩)⟩, ⟨(some 2), none, (.mov (.tmp 23))⟩])
  .ret)))
theorem L52 : low Try.prog Try.f52.ntmps (at_ Try.f52 []) = some R52 := by kernel_rfl
theorem N77 : Try.f77.ntmps = 5 := by kernel_rfl
theorem Z77 : Try.f77.results.toList = ((List.toArray [(.tmp 2)]) : Array ResultVar).toList := by kernel_rfl
theorem B77 : Try.f77.body = some (at_ Try.f77 []) := by kernel_rfl
noncomputable def R77 : RC := (.seq (.reg [⟨(some 1), none, (.box 73 (.tmp 0))⟩, ⟨(some 2), none, (.mov (.const (.int .i64 0)))⟩])
  (.seq (.reg [⟨(some 3), none, (.addo (.tmp 1) 4)⟩, ⟨(some 4), none, (.ld (.tmp 3) 1)⟩, ⟨(some 2), none, (.mov (.tmp 4))⟩])
  .ret))
theorem L77 : low Try.prog Try.f77.ntmps (at_ Try.f77 []) = some R77 := by kernel_rfl
theorem N108 : Try.f108.ntmps = 5 := by kernel_rfl
theorem Z108 : Try.f108.results.toList = ((List.toArray [(.tmp 2)]) : Array ResultVar).toList := by kernel_rfl
theorem B108 : Try.f108.body = some (at_ Try.f108 []) := by kernel_rfl
noncomputable def R108 : RC := (.seq (.reg [⟨(some 1), none, (.box 73 (.tmp 0))⟩, ⟨(some 2), none, (.mov (.const (.int .i64 0)))⟩])
  (.seq (.reg [⟨(some 3), none, (.addo (.tmp 1) 1)⟩, ⟨(some 4), none, (.ld (.tmp 3) 1)⟩, ⟨(some 2), none, (.mov (.tmp 4))⟩])
  .ret))
theorem L108 : low Try.prog Try.f108.ntmps (at_ Try.f108 []) = some R108 := by kernel_rfl
theorem N109 : Try.f109.ntmps = 5 := by kernel_rfl
theorem Z109 : Try.f109.results.toList = ((List.toArray [(.tmp 2)]) : Array ResultVar).toList := by kernel_rfl
theorem B109 : Try.f109.body = some (at_ Try.f109 []) := by kernel_rfl
noncomputable def R109 : RC := (.seq (.reg [⟨(some 1), none, (.box 73 (.tmp 0))⟩, ⟨(some 2), none, (.mov (.const (.int .i64 0)))⟩])
  (.seq (.reg [⟨(some 3), none, (.addo (.tmp 1) 2)⟩, ⟨(some 4), none, (.ld (.tmp 3) 1)⟩, ⟨(some 2), none, (.mov (.tmp 4))⟩])
  .ret))
theorem L109 : low Try.prog Try.f109.ntmps (at_ Try.f109 []) = some R109 := by kernel_rfl
theorem N110 : Try.f110.ntmps = 5 := by kernel_rfl
theorem Z110 : Try.f110.results.toList = ((List.toArray [(.tmp 2)]) : Array ResultVar).toList := by kernel_rfl
theorem B110 : Try.f110.body = some (at_ Try.f110 []) := by kernel_rfl
noncomputable def R110 : RC := (.seq (.reg [⟨(some 1), none, (.box 73 (.tmp 0))⟩, ⟨(some 2), none, (.mov (.const (.int .i64 0)))⟩])
  (.seq (.reg [⟨(some 3), none, (.addo (.tmp 1) 3)⟩, ⟨(some 4), none, (.ld (.tmp 3) 1)⟩, ⟨(some 2), none, (.mov (.tmp 4))⟩])
  .ret))
theorem L110 : low Try.prog Try.f110.ntmps (at_ Try.f110 []) = some R110 := by kernel_rfl
theorem N76 : Try.f76.ntmps = 28 := by kernel_rfl
theorem Z76 : Try.f76.results.toList = ((List.toArray [(.tmp 6)]) : Array ResultVar).toList := by kernel_rfl
theorem B76 : Try.f76.body = some (at_ Try.f76 []) := by kernel_rfl
noncomputable def R76 : RC := (.seq (.reg [⟨(some 3), none, (.box 89 (.tmp 0))⟩, ⟨(some 6), none, (.mov (.const (.int .i64 0)))⟩])
  (.seq (.reg [⟨(some 7), none, (.mov (.const (.int .i64 0)))⟩])
  (.seq (.seq (.reg [⟨(some 10), none, (.mov (.tmp 1))⟩, ⟨(some 11), none, (.len (.tmp 10))⟩, ⟨(some 12), none, (.mov (.const (.int .i64 0)))⟩])
  (.block 0 (.other (at_ Try.f76 [1, 1, 0, 1, 0]))))
  (.seq (.reg [⟨(some 27), none, (.mov (.tmp 7))⟩, ⟨(some 6), none, (.mov (.tmp 27))⟩])
  .ret))))
theorem L76 : low Try.prog Try.f76.ntmps (at_ Try.f76 []) = some R76 := by kernel_rfl
theorem E76_1 : at_ Try.f76 [1, 1, 0, 1, 0] = .loop (at_ Try.f76 [1, 1, 0, 1, 0, 0]) := by kernel_rfl
noncomputable def R76x1 : RC := (.seq (.reg [⟨(some 13), none, (.cmp .lss (.tmp 12) (.tmp 11))⟩])
  (.seq (.cond (.tmp 13) .skip
  (.exit 0))
  (.seq (.block 1 (.seq (.reg [⟨(some 14), none, (.mov (.tmp 12))⟩, ⟨(some 15), none, (.idx (.tmp 10) (.tmp 12) 5)⟩, ⟨(some 16), none, (.lda (.tmp 15) 5)⟩, ⟨(some 9), none, (.alc 73 [(.int .i64 0), (.int .i64 0), (.int .i64 0), (.int .i64 0), (.int .i64 0)])⟩, ⟨(some 8), none, (.mov (.tmp 14))⟩, ⟨none, none, (.sta (.tmp 9) (.tmp 16) 5)⟩])
  (.dreg [⟨(some 17), none, (.mov (.tmp 7))⟩, ⟨(some 18), none, (.mov (.tmp 8))⟩, ⟨(some 19), none, (.idxa (.tmp 3) (.tmp 18) 5 1)⟩, ⟨(some 20), none, (.ld (.tmp 19) 1)⟩, ⟨(some 21), none, (.mov (.tmp 2))⟩, ⟨(some 22), none, (.lda (.tmp 9) 5)⟩, ⟨(some 23), none, (.call ⟨(.value (.tmp 21)), (List.toArray [(.tmp 22)]), (List.toArray [73])⟩ false)⟩, ⟨(some 24), none, (.ari .mul (.tmp 20) (.tmp 23))⟩, ⟨(some 25), none, (.ari .add (.tmp 17) (.tmp 24))⟩, ⟨(some 7), none, (.mov (.tmp 25))⟩] [511, 255, 126, 48, 0, 0, 6, 2, 0, 0])))
  (.reg [⟨(some 26), none, (.ari .add (.tmp 12) (.const (.int .i64 1)))⟩, ⟨(some 12), none, (.mov (.tmp 26))⟩]))))
theorem L76x1 : low Try.prog Try.f76.ntmps (at_ Try.f76 [1, 1, 0, 1, 0, 0]) = some R76x1 := by kernel_rfl
theorem N55 : Try.f55.ntmps = 8 := by kernel_rfl
theorem Z55 : Try.f55.results.toList = ((List.toArray [(.tmp 4)]) : Array ResultVar).toList := by kernel_rfl
theorem B55 : Try.f55.body = some (at_ Try.f55 []) := by kernel_rfl
noncomputable def R55 : RC := (.seq (.reg [⟨(some 2), none, (.box 89 (.tmp 0))⟩, ⟨(some 4), none, (.mov (.const (.int .i64 0)))⟩])
  (.seq (.reg [⟨(some 5), none, (.lda (.tmp 2) 5)⟩, ⟨(some 6), none, (.mov (.tmp 1))⟩, ⟨(some 7), none, (.call ⟨(.value (.func 76)), (List.toArray [(.tmp 5), (.tmp 6), (.func 77)]), (List.toArray [89, 36, 123])⟩ true)⟩, ⟨(some 4), none, (.mov (.tmp 7))⟩])
  .ret))
theorem L55 : low Try.prog Try.f55.ntmps (at_ Try.f55 []) = some R55 := by kernel_rfl
theorem N111 : Try.f111.ntmps = 21 := by kernel_rfl
theorem Z111 : Try.f111.results.toList = ((List.toArray [(.tmp 6)]) : Array ResultVar).toList := by kernel_rfl
theorem B111 : Try.f111.body = some (at_ Try.f111 []) := by kernel_rfl
noncomputable def R111 : RC := (.seq (.reg [⟨(some 5), none, (.box 38 (.tmp 2))⟩, ⟨(some 6), none, (.mov (.const (.bool false)))⟩])
  (.seq (.reg [⟨(some 7), none, (.mov (.tmp 1))⟩, ⟨(some 8), none, (.addo (.tmp 5) 0)⟩, ⟨(some 9), none, (.ld (.tmp 8) 1)⟩, ⟨(some 10), none, (.ari .mul (.tmp 7) (.tmp 9))⟩, ⟨(some 11), none, (.mov (.tmp 0))⟩, ⟨(some 12), none, (.cmpb .leq (.tmp 10) (.tmp 11))⟩, ⟨(some 13), none, (.mov (.tmp 12))⟩, ⟨(some 14), (some (13, true)), (.mov (.tmp 0))⟩, ⟨(some 15), (some (13, true)), (.mov (.tmp 1))⟩, ⟨(some 16), (some (13, true)), (.addo (.tmp 5) 1)⟩, ⟨(some 17), (some (13, true)), (.ld (.tmp 16) 1)⟩, ⟨(some 18), (some (13, true)), (.ari .mul (.tmp 15) (.tmp 17))⟩, ⟨(some 19), (some (13, true)), (.cmpb .leq (.tmp 14) (.tmp 18))⟩, ⟨(some 20), none, (.pur ⟨(some 20), (.pick (.tmp 13) (.tmp 19) (.const (.bool false))), 4, "", (List.toArray []), none⟩)⟩, ⟨(some 6), none, (.mov (.tmp 20))⟩])
  .ret))
theorem L111 : low Try.prog Try.f111.ntmps (at_ Try.f111 []) = some R111 := by kernel_rfl
theorem N103 : Try.f103.ntmps = 41 := by kernel_rfl
theorem Z103 : Try.f103.results.toList = ((List.toArray [(.tmp 6)]) : Array ResultVar).toList := by kernel_rfl
theorem B103 : Try.f103.body = some (at_ Try.f103 []) := by kernel_rfl
noncomputable def R103 : RC := (.seq (.reg [⟨(some 3), none, (.box 89 (.tmp 0))⟩, ⟨(some 5), none, (.box 40 (.tmp 2))⟩, ⟨(some 6), none, (.mov (.const (.bool false)))⟩])
  (.seq (.reg [⟨(some 10), none, (.lda (.tmp 3) 5)⟩, ⟨(some 11), none, (.mov (.tmp 1))⟩, ⟨(some 12), none, (.call ⟨(.value (.func 76)), (List.toArray [(.tmp 10), (.tmp 11), (.func 108)]), (List.toArray [89, 36, 123])⟩ true)⟩, ⟨(some 7), none, (.mov (.tmp 12))⟩])
  (.seq (.reg [⟨(some 13), none, (.lda (.tmp 3) 5)⟩, ⟨(some 14), none, (.mov (.tmp 1))⟩, ⟨(some 15), none, (.call ⟨(.value (.func 76)), (List.toArray [(.tmp 13), (.tmp 14), (.func 109)]), (List.toArray [89, 36, 123])⟩ true)⟩, ⟨(some 8), none, (.mov (.tmp 15))⟩])
  (.seq (.reg [⟨(some 16), none, (.lda (.tmp 3) 5)⟩, ⟨(some 17), none, (.mov (.tmp 1))⟩, ⟨(some 18), none, (.call ⟨(.value (.func 76)), (List.toArray [(.tmp 16), (.tmp 17), (.func 110)]), (List.toArray [89, 36, 123])⟩ true)⟩, ⟨(some 9), none, (.mov (.tmp 18))⟩])
  (.seq (.reg [⟨(some 19), none, (.mov (.tmp 7))⟩, ⟨(some 20), none, (.addo (.tmp 5) 0)⟩, ⟨(some 21), none, (.ld (.tmp 20) 1)⟩, ⟨(some 22), none, (.addo (.tmp 5) 1)⟩, ⟨(some 23), none, (.lda (.tmp 22) 2)⟩, ⟨(some 24), none, (.call ⟨(.value (.func 111)), (List.toArray [(.tmp 19), (.tmp 21), (.tmp 23)]), (List.toArray [3, 3, 38])⟩ true)⟩, ⟨(some 25), none, (.mov (.tmp 24))⟩, ⟨(some 26), (some (25, true)), (.mov (.tmp 8))⟩, ⟨(some 27), (some (25, true)), (.addo (.tmp 5) 0)⟩, ⟨(some 28), (some (25, true)), (.ld (.tmp 27) 1)⟩, ⟨(some 29), (some (25, true)), (.addo (.tmp 5) 3)⟩, ⟨(some 30), (some (25, true)), (.lda (.tmp 29) 2)⟩, ⟨(some 31), (some (25, true)), (.call ⟨(.value (.func 111)), (List.toArray [(.tmp 26), (.tmp 28), (.tmp 30)]), (List.toArray [3, 3, 38])⟩ true)⟩, ⟨(some 32), none, (.pur ⟨(some 32), (.pick (.tmp 25) (.tmp 31) (.const (.bool false))), 4, "", (List.toArray []), none⟩)⟩, ⟨(some 33), none, (.mov (.tmp 32))⟩, ⟨(some 34), (some (33, true)), (.mov (.tmp 9))⟩, ⟨(some 35), (some (33, true)), (.addo (.tmp 5) 0)⟩, ⟨(some 36), (some (33, true)), (.ld (.tmp 35) 1)⟩, ⟨(some 37), (some (33, true)), (.addo (.tmp 5) 5)⟩, ⟨(some 38), (some (33, true)), (.lda (.tmp 37) 2)⟩, ⟨(some 39), (some (33, true)), (.call ⟨(.value (.func 111)), (List.toArray [(.tmp 34), (.tmp 36), (.tmp 38)]), (List.toArray [3, 3, 38])⟩ true)⟩, ⟨(some 40), none, (.pur ⟨(some 40), (.pick (.tmp 33) (.tmp 39) (.const (.bool false))), 4, "", (List.toArray []), none⟩)⟩, ⟨(some 6), none, (.mov (.tmp 40))⟩])
  .ret)))))
theorem L103 : low Try.prog Try.f103.ntmps (at_ Try.f103 []) = some R103 := by kernel_rfl
theorem N107 : Try.f107.ntmps = 18 := by kernel_rfl
theorem Z107 : Try.f107.results.toList = ((List.toArray [(.tmp 2)]) : Array ResultVar).toList := by kernel_rfl
theorem B107 : Try.f107.body = some (at_ Try.f107 []) := by kernel_rfl
noncomputable def R107 : RC := (.seq (.reg [⟨(some 2), none, (.mov (.const (.int .i64 0)))⟩])
  (.seq (.reg [⟨(some 3), none, (.mov (.const (.int .i64 0)))⟩])
  (.seq (.seq (.reg [⟨(some 6), none, (.mov (.tmp 0))⟩, ⟨(some 7), none, (.len (.tmp 6))⟩, ⟨(some 8), none, (.mov (.const (.int .i64 0)))⟩])
  (.block 0 (.other (at_ Try.f107 [1, 1, 0, 1, 0]))))
  (.seq (.reg [⟨(some 17), none, (.mov (.tmp 3))⟩, ⟨(some 2), none, (.mov (.tmp 17))⟩])
  .ret))))
theorem L107 : low Try.prog Try.f107.ntmps (at_ Try.f107 []) = some R107 := by kernel_rfl
theorem E107_1 : at_ Try.f107 [1, 1, 0, 1, 0] = .loop (at_ Try.f107 [1, 1, 0, 1, 0, 0]) := by kernel_rfl
noncomputable def R107x1 : RC := (.seq (.reg [⟨(some 9), none, (.cmp .lss (.tmp 8) (.tmp 7))⟩])
  (.seq (.cond (.tmp 9) .skip
  (.exit 0))
  (.seq (.block 1 (.seq (.reg [⟨(some 10), none, (.idx (.tmp 6) (.tmp 8) 5)⟩, ⟨(some 11), none, (.lda (.tmp 10) 5)⟩, ⟨(some 5), none, (.alc 73 [(.int .i64 0), (.int .i64 0), (.int .i64 0), (.int .i64 0), (.int .i64 0)])⟩, ⟨none, none, (.sta (.tmp 5) (.tmp 11) 5)⟩])
  (.reg [⟨(some 12), none, (.mov (.tmp 3))⟩, ⟨(some 13), none, (.addo (.tmp 5) 0)⟩, ⟨(some 14), none, (.ld (.tmp 13) 1)⟩, ⟨(some 15), none, (.ari .add (.tmp 12) (.tmp 14))⟩, ⟨(some 3), none, (.mov (.tmp 15))⟩])))
  (.reg [⟨(some 16), none, (.ari .add (.tmp 8) (.const (.int .i64 1)))⟩, ⟨(some 8), none, (.mov (.tmp 16))⟩]))))
theorem L107x1 : low Try.prog Try.f107.ntmps (at_ Try.f107 [1, 1, 0, 1, 0, 0]) = some R107x1 := by kernel_rfl
theorem N102 : Try.f102.ntmps = 16 := by kernel_rfl
theorem Z102 : Try.f102.results.toList = ((List.toArray [(.tmp 5)]) : Array ResultVar).toList := by kernel_rfl
theorem B102 : Try.f102.body = some (at_ Try.f102 []) := by kernel_rfl
noncomputable def R102 : RC := (.seq (.reg [⟨(some 4), none, (.box 89 (.tmp 0))⟩, ⟨(some 5), none, (.mov (.const (.bool false)))⟩])
  (.seq (.reg [⟨(some 6), none, (.lda (.tmp 4) 5)⟩, ⟨(some 7), none, (.ld (.tmp 1) 1)⟩, ⟨(some 8), none, (.lda (.tmp 2) 7)⟩, ⟨(some 9), none, (.call ⟨(.value (.func 103)), (List.toArray [(.tmp 6), (.tmp 7), (.tmp 8)]), (List.toArray [89, 36, 40])⟩ true)⟩, ⟨(some 10), none, (.pur ⟨(some 10), (.unOp .not 4 (.tmp 9)), 4, "", (List.toArray []), none⟩)⟩, ⟨(some 11), none, (.mov (.tmp 10))⟩, ⟨(some 12), (some (11, false)), (.ld (.tmp 3) 1)⟩, ⟨(some 13), (some (11, false)), (.lda (.tmp 4) 5)⟩, ⟨(some 14), (some (11, false)), (.call ⟨(.value (.tmp 12)), (List.toArray [(.tmp 13)]), (List.toArray [89])⟩ true)⟩, ⟨(some 15), none, (.pur ⟨(some 15), (.pick (.tmp 11) (.const (.bool true)) (.tmp 14)), 4, "", (List.toArray []), none⟩)⟩, ⟨(some 5), none, (.mov (.tmp 15))⟩])
  .ret))
theorem L102 : low Try.prog Try.f102.ntmps (at_ Try.f102 []) = some R102 := by kernel_rfl
theorem N101 : Try.f101.ntmps = 59 := by kernel_rfl
theorem Z101 : Try.f101.results.toList = ((List.toArray [(.tmp 10)]) : Array ResultVar).toList := by kernel_rfl
theorem B101 : Try.f101.body = some (at_ Try.f101 []) := by kernel_rfl
noncomputable def R101 : RC := (.seq (.reg [⟨(some 5), none, (.box 89 (.tmp 0))⟩, ⟨(some 10), none, (.mov (.const (.bool false)))⟩])
  (.seq (.seq (.reg [⟨(some 14), none, (.mov (.tmp 2))⟩, ⟨(some 15), none, (.mov (.tmp 1))⟩, ⟨(some 16), none, (.len (.tmp 15))⟩, ⟨(some 17), none, (.cmp .eql (.tmp 14) (.tmp 16))⟩])
  (.cond (.tmp 17) (.seq (.reg [⟨(some 18), none, (.mov (.tmp 3))⟩, ⟨(some 19), none, (.cmpb .gtr (.tmp 18) (.const (.int .i64 0)))⟩, ⟨(some 20), none, (.mov (.tmp 19))⟩, ⟨(some 21), (some (20, false)), (.mov (.tmp 4))⟩, ⟨(some 22), (some (20, false)), (.lda (.tmp 5) 5)⟩, ⟨(some 23), (some (20, false)), (.call ⟨(.value (.tmp 21)), (List.toArray [(.tmp 22)]), (List.toArray [89])⟩ true)⟩, ⟨(some 24), none, (.pur ⟨(some 24), (.pick (.tmp 20) (.const (.bool true)) (.tmp 23)), 4, "", (List.toArray []), none⟩)⟩, ⟨(some 10), none, (.mov (.tmp 24))⟩])
  .ret)
  .skip))
  (.seq (.reg [⟨(some 25), none, (.mov (.tmp 3))⟩, ⟨(some 26), none, (.mov (.tmp 1))⟩, ⟨(some 27), none, (.mov (.tmp 2))⟩, ⟨(some 28), none, (.ari .add (.tmp 27) (.const (.int .i64 1)))⟩, ⟨(some 29), none, (.mem ⟨(some 29), (.slice 36 (.tmp 26) (some (.tmp 28)) none none), 36, "", (List.toArray []), none⟩)⟩, ⟨(some 30), none, (.call ⟨(.value (.func 107)), (List.toArray [(.tmp 29)]), (List.toArray [36])⟩ true)⟩, ⟨(some 31), none, (.ari .sub (.tmp 25) (.tmp 30))⟩, ⟨(some 32), none, (.mm false (.const (.int .i64 0)) (.tmp 31))⟩, ⟨(some 11), none, (.mov (.tmp 32))⟩])
  (.seq (.reg [⟨(some 33), none, (.mov (.tmp 3))⟩, ⟨(some 34), none, (.mov (.tmp 1))⟩, ⟨(some 35), none, (.mov (.tmp 2))⟩, ⟨(some 36), none, (.idx (.tmp 34) (.tmp 35) 5)⟩, ⟨(some 37), none, (.addo (.tmp 36) 0)⟩, ⟨(some 38), none, (.ld (.tmp 37) 1)⟩, ⟨(some 39), none, (.mm true (.tmp 33) (.tmp 38))⟩, ⟨(some 12), none, (.mov (.tmp 39))⟩])
  (.seq (.seq (.reg [⟨(some 40), none, (.mov (.tmp 11))⟩, ⟨(some 13), none, (.mov (.tmp 40))⟩])
  (.block 0 (.other (at_ Try.f101 [1, 1, 1, 1, 0, 1, 0]))))
  (.seq (.reg [⟨(some 10), none, (.mov (.const (.bool true)))⟩])
  .ret))))))
theorem L101 : low Try.prog Try.f101.ntmps (at_ Try.f101 []) = some R101 := by kernel_rfl
theorem E101_1 : at_ Try.f101 [1, 1, 1, 1, 0, 1, 0] = .loop (at_ Try.f101 [1, 1, 1, 1, 0, 1, 0, 0]) := by kernel_rfl
noncomputable def R101x1 : RC := (.seq (.seq (.reg [⟨(some 41), none, (.mov (.tmp 13))⟩, ⟨(some 42), none, (.mov (.tmp 12))⟩, ⟨(some 43), none, (.cmp .leq (.tmp 41) (.tmp 42))⟩])
  (.cond (.tmp 43) .skip
  (.exit 0)))
  (.seq (.block 1 (.seq (.reg [⟨(some 46), none, (.mov (.tmp 2))⟩, ⟨(some 47), none, (.mov (.tmp 13))⟩, ⟨(some 48), none, (.idxa (.tmp 5) (.tmp 46) 5 1)⟩, ⟨none, none, (.st (.tmp 48) (.tmp 47))⟩])
  (.seq (.reg [⟨(some 49), none, (.lda (.tmp 5) 5)⟩, ⟨(some 50), none, (.mov (.tmp 1))⟩, ⟨(some 51), none, (.mov (.tmp 2))⟩, ⟨(some 52), none, (.ari .add (.tmp 51) (.const (.int .i64 1)))⟩, ⟨(some 53), none, (.mov (.tmp 3))⟩, ⟨(some 54), none, (.mov (.tmp 13))⟩, ⟨(some 55), none, (.ari .sub (.tmp 53) (.tmp 54))⟩, ⟨(some 56), none, (.mov (.tmp 4))⟩, ⟨(some 57), none, (.call ⟨(.value (.func 101)), (List.toArray [(.tmp 49), (.tmp 50), (.tmp 52), (.tmp 55), (.tmp 56)]), (List.toArray [89, 36, 3, 3, 143])⟩ true)⟩, ⟨(some 58), none, (.pur ⟨(some 58), (.unOp .not 4 (.tmp 57)), 4, "", (List.toArray []), none⟩)⟩])
  (.cond (.tmp 58) (.seq (.reg [⟨(some 10), none, (.mov (.const (.bool false)))⟩])
  .ret)
  .skip))))
  (.reg [⟨(some 44), none, (.mov (.tmp 13))⟩, ⟨(some 45), none, (.ari .add (.tmp 44) (.const (.int .i64 1)))⟩, ⟨(some 13), none, (.mov (.tmp 45))⟩])))
theorem L101x1 : low Try.prog Try.f101.ntmps (at_ Try.f101 [1, 1, 1, 1, 0, 1, 0, 0]) = some R101x1 := by kernel_rfl
theorem N100 : Try.f100.ntmps = 10 := by kernel_rfl
theorem Z100 : Try.f100.results.toList = ((List.toArray []) : Array ResultVar).toList := by kernel_rfl
theorem B100 : Try.f100.body = some (at_ Try.f100 []) := by kernel_rfl
noncomputable def R100 : RC := (.seq (.reg [⟨(some 3), none, (.box 143 (.tmp 0))⟩])
  (.reg [⟨(some 4), none, (.pur ⟨(some 4), (.build 89 (List.toArray [])), 89, "", (List.toArray []), none⟩)⟩, ⟨(some 5), none, (.ld (.tmp 1) 1)⟩, ⟨(some 6), none, (.addo (.tmp 2) 0)⟩, ⟨(some 7), none, (.ld (.tmp 6) 1)⟩, ⟨(some 8), none, (.pur ⟨(some 8), (.makeFunc (.func 102) (List.toArray []) (List.toArray [(.tmp 1), (.tmp 2), (.tmp 3)])), 143, "", (List.toArray []), none⟩)⟩, ⟨(some 9), none, (.call ⟨(.value (.func 101)), (List.toArray [(.tmp 4), (.tmp 5), (.const (.int .i64 0)), (.tmp 7), (.tmp 8)]), (List.toArray [89, 36, 3, 3, 143])⟩ true)⟩]))
theorem L100 : low Try.prog Try.f100.ntmps (at_ Try.f100 []) = some R100 := by kernel_rfl
theorem N75 : Try.f75.ntmps = 6 := by kernel_rfl
theorem Z75 : Try.f75.results.toList = ((List.toArray [(.tmp 4)]) : Array ResultVar).toList := by kernel_rfl
theorem B75 : Try.f75.body = some (at_ Try.f75 []) := by kernel_rfl
noncomputable def R75 : RC := (.seq (.reg [⟨(some 2), none, (.box 36 (.tmp 0))⟩, ⟨(some 3), none, (.box 40 (.tmp 1))⟩, ⟨(some 4), none, (.mov (.const .nilFunc))⟩])
  (.seq (.reg [⟨(some 5), none, (.pur ⟨(some 5), (.makeFunc (.func 100) (List.toArray []) (List.toArray [(.tmp 2), (.tmp 3)])), 119, "", (List.toArray []), none⟩)⟩, ⟨(some 4), none, (.mov (.tmp 5))⟩])
  .ret))
theorem L75 : low Try.prog Try.f75.ntmps (at_ Try.f75 []) = some R75 := by kernel_rfl
theorem N53 : Try.f53.ntmps = 25 := by kernel_rfl
theorem Z53 : Try.f53.results.toList = ((List.toArray [(.cell 4 89), (.cell 5 4)]) : Array ResultVar).toList := by kernel_rfl
theorem B53 : Try.f53.body = some (at_ Try.f53 []) := by kernel_rfl
noncomputable def R53 : RC := (.seq (.reg [⟨(some 2), none, (.box 36 (.tmp 0))⟩, ⟨(some 3), none, (.box 40 (.tmp 1))⟩, ⟨(some 4), none, (.alc 89 [(.int .i64 0), (.int .i64 0), (.int .i64 0), (.int .i64 0), (.int .i64 0)])⟩, ⟨(some 5), none, (.alc 4 [(.bool false)])⟩])
  (.seq (.seq (.reg [⟨(some 7), none, (.ld (.tmp 2) 1)⟩, ⟨(some 8), none, (.lda (.tmp 3) 7)⟩, ⟨(some 9), none, (.call ⟨(.value (.func 75)), (List.toArray [(.tmp 7), (.tmp 8)]), (List.toArray [36, 40])⟩ true)⟩])
  (.block 0 (.other (at_ Try.f53 [1, 0, 1, 0]))))
  (.seq (.dreg [⟨(some 23), none, (.lda (.tmp 4) 5)⟩, ⟨(some 24), none, (.ld (.tmp 5) 1)⟩, ⟨none, none, (.sta (.tmp 4) (.tmp 23) 5)⟩, ⟨none, none, (.st (.tmp 5) (.tmp 24))⟩] [7, 1, 0, 0])
  .ret)))
theorem L53 : low Try.prog Try.f53.ntmps (at_ Try.f53 []) = some R53 := by kernel_rfl
theorem E53_1 : at_ Try.f53 [1, 0, 1, 0] = .rangeFunc (.tmp 9) ((List.toArray [10])) (at_ Try.f53 [1, 0, 1, 0, 0]) (at_ Try.f53 [1, 0, 1, 0, 1]) := by kernel_rfl
noncomputable def R53x1 : RC := (.reg [⟨(some 6), none, (.alc 89 [(.int .i64 0), (.int .i64 0), (.int .i64 0), (.int .i64 0), (.int .i64 0)])⟩, ⟨none, none, (.sta (.tmp 6) (.tmp 10) 5)⟩])
theorem L53x1 : low Try.prog Try.f53.ntmps (at_ Try.f53 [1, 0, 1, 0, 0]) = some R53x1 := by kernel_rfl
noncomputable def R53x2 : RC := (.block 1 (.seq (.dreg [⟨(some 11), none, (.ld (.tmp 5) 1)⟩, ⟨(some 12), none, (.pur ⟨(some 12), (.unOp .not 4 (.tmp 11)), 4, "", (List.toArray []), none⟩)⟩, ⟨(some 13), none, (.mov (.tmp 12))⟩, ⟨(some 14), (some (13, false)), (.lda (.tmp 6) 5)⟩, ⟨(some 15), (some (13, false)), (.ld (.tmp 2) 1)⟩, ⟨(some 16), (some (13, false)), (.call ⟨(.value (.func 55)), (List.toArray [(.tmp 14), (.tmp 15)]), (List.toArray [89, 36])⟩ false)⟩, ⟨(some 17), (some (13, false)), (.lda (.tmp 4) 5)⟩, ⟨(some 18), (some (13, false)), (.ld (.tmp 2) 1)⟩, ⟨(some 19), (some (13, false)), (.call ⟨(.value (.func 55)), (List.toArray [(.tmp 17), (.tmp 18)]), (List.toArray [89, 36])⟩ true)⟩, ⟨(some 20), (some (13, false)), (.cmpb .lss (.tmp 16) (.tmp 19))⟩, ⟨(some 21), none, (.pur ⟨(some 21), (.pick (.tmp 13) (.const (.bool true)) (.tmp 20)), 4, "", (List.toArray []), none⟩)⟩] [1023, 511, 255, 7, 7, 31, 7, 7, 3, 1, 0])
  (.cond (.tmp 21) (.reg [⟨(some 22), none, (.lda (.tmp 6) 5)⟩, ⟨none, none, (.sta (.tmp 4) (.tmp 22) 5)⟩, ⟨none, none, (.st (.tmp 5) (.const (.bool true)))⟩])
  .skip)))
theorem L53x2 : low Try.prog Try.f53.ntmps (at_ Try.f53 [1, 0, 1, 0, 1]) = some R53x2 := by kernel_rfl
theorem N54 : Try.f54.ntmps = 9 := by kernel_rfl
theorem Z54 : Try.f54.results.toList = ((List.toArray [(.tmp 4)]) : Array ResultVar).toList := by kernel_rfl
theorem B54 : Try.f54.body = some (at_ Try.f54 []) := by kernel_rfl
noncomputable def R54 : RC := (.seq (.reg [⟨(some 2), none, (.box 89 (.tmp 0))⟩, ⟨(some 4), none, (.mov (.const (.slice none 0 0)))⟩])
  (.seq (.reg [⟨(some 5), none, (.mov (.tmp 1))⟩, ⟨(some 6), none, (.len (.tmp 5))⟩, ⟨(some 7), none, (.mem ⟨(some 7), (.slice 89 (.tmp 2) none (some (.tmp 6)) none), 42, "", (List.toArray []), none⟩)⟩, ⟨(some 8), none, (.mem ⟨(some 8), (.call ⟨(.builtin .append), (List.toArray [(.const (.slice none 0 0)), (.tmp 7)]), (List.toArray [42, 42])⟩), 42, "", (List.toArray []), none⟩)⟩, ⟨(some 4), none, (.mov (.tmp 8))⟩])
  .ret))
theorem L54 : low Try.prog Try.f54.ntmps (at_ Try.f54 []) = some R54 := by kernel_rfl
theorem N25 : Try.f25.ntmps = 34 := by kernel_rfl
theorem Z25 : Try.f25.results.toList = ((List.toArray [(.tmp 4), (.tmp 5), (.tmp 6)]) : Array ResultVar).toList := by kernel_rfl
theorem B25 : Try.f25.body = some (at_ Try.f25 []) := by kernel_rfl
noncomputable def R25 : RC := (.seq (.reg [⟨(some 3), none, (.box 40 (.tmp 1))⟩, ⟨(some 4), none, (.mov (.const (.slice none 0 0)))⟩, ⟨(some 5), none, (.mov (.const (.int .i64 0)))⟩, ⟨(some 6), none, (.mov (.const (.int .i64 0)))⟩])
  (.seq (.seq (.reg [⟨(some 9), none, (.mov (.tmp 0))⟩, ⟨(some 10), none, (.len (.tmp 9))⟩, ⟨(some 11), none, (.cmp .gtr (.tmp 10) (.const (.int .i64 5)))⟩])
  (.cond (.tmp 11) (.seq (.reg [⟨(some 4), none, (.mov (.const (.slice none 0 0)))⟩, ⟨(some 5), none, (.mov (.const (.int .i64 0)))⟩, ⟨(some 6), none, (.mov (.const (.int .i64 3)))⟩])
  .ret)
  .skip))
  (.seq (.seq (.reg [⟨(some 12), none, (.mov (.tmp 0))⟩, ⟨(some 13), none, (.call ⟨(.value (.func 51)), (List.toArray [(.tmp 12)]), (List.toArray [36])⟩ true)⟩, ⟨(some 14), none, (.pur ⟨(some 14), (.unOp .not 4 (.tmp 13)), 4, "", (List.toArray []), none⟩)⟩, ⟨(some 15), none, (.mov (.tmp 14))⟩, ⟨(some 16), (some (15, false)), (.lda (.tmp 3) 7)⟩, ⟨(some 17), (some (15, false)), (.call ⟨(.value (.func 52)), (List.toArray [(.tmp 16)]), (List.toArray [40])⟩ true)⟩, ⟨(some 18), (some (15, false)), (.pur ⟨(some 18), (.unOp .not 4 (.tmp 17)), 4, "", (List.toArray []), none⟩)⟩, ⟨(some 19), none, (.pur ⟨(some 19), (.pick (.tmp 15) (.const (.bool true)) (.tmp 18)), 4, "", (List.toArray []), none⟩)⟩])
  (.cond (.tmp 19) (.seq (.reg [⟨(some 4), none, (.mov (.const (.slice none 0 0)))⟩, ⟨(some 5), none, (.mov (.const (.int .i64 0)))⟩, ⟨(some 6), none, (.mov (.const (.int .i64 1)))⟩])
  .ret)
  .skip))
  (.seq (.reg [⟨(some 21), none, (.mov (.tmp 0))⟩, ⟨(some 22), none, (.lda (.tmp 3) 7)⟩, ⟨(some 23), none, (.call ⟨(.value (.func 53)), (List.toArray [(.tmp 21), (.tmp 22)]), (List.toArray [36, 40])⟩ true)⟩, ⟨(some 20), none, (.mov (.tmp 23))⟩, ⟨(some 24), none, (.pur ⟨(some 24), (.extract (.tmp 20) 0), 89, "", (List.toArray []), none⟩)⟩, ⟨(some 25), none, (.pur ⟨(some 25), (.extract (.tmp 20) 1), 4, "", (List.toArray []), none⟩)⟩, ⟨(some 7), none, (.alc 89 [(.int .i64 0), (.int .i64 0), (.int .i64 0), (.int .i64 0), (.int .i64 0)])⟩, ⟨none, none, (.sta (.tmp 7) (.tmp 24) 5)⟩, ⟨(some 8), none, (.mov (.tmp 25))⟩])
  (.seq (.seq (.reg [⟨(some 26), none, (.mov (.tmp 8))⟩, ⟨(some 27), none, (.pur ⟨(some 27), (.unOp .not 4 (.tmp 26)), 4, "", (List.toArray []), none⟩)⟩])
  (.cond (.tmp 27) (.seq (.reg [⟨(some 4), none, (.mov (.const (.slice none 0 0)))⟩, ⟨(some 5), none, (.mov (.const (.int .i64 0)))⟩, ⟨(some 6), none, (.mov (.const (.int .i64 4)))⟩])
  .ret)
  .skip))
  (.seq (.dreg [⟨(some 28), none, (.lda (.tmp 7) 5)⟩, ⟨(some 29), none, (.mov (.tmp 0))⟩, ⟨(some 30), none, (.call ⟨(.value (.func 54)), (List.toArray [(.tmp 28), (.tmp 29)]), (List.toArray [89, 36])⟩ false)⟩, ⟨(some 31), none, (.lda (.tmp 7) 5)⟩, ⟨(some 32), none, (.mov (.tmp 0))⟩, ⟨(some 33), none, (.call ⟨(.value (.func 55)), (List.toArray [(.tmp 31), (.tmp 32)]), (List.toArray [89, 36])⟩ true)⟩, ⟨(some 4), none, (.mov (.tmp 30))⟩, ⟨(some 5), none, (.mov (.tmp 33))⟩, ⟨(some 6), none, (.mov (.const (.int .i64 0)))⟩] [255, 127, 63, 31, 0, 0, 3, 0, 0])
  .ret))))))
theorem L25 : low Try.prog Try.f25.ntmps (at_ Try.f25 []) = some R25 := by kernel_rfl
end Go.Ax

/-
  Plant: tanks, recipes, what a blend costs, whether it is right (written by program).
-/
namespace Go.Ax
open Go Go.RowKit Go.Proofs

theorem i40s : ∃ i, Try.prog.info? 40 = some i ∧ i.size = 7 := by
  have h : (Try.prog.info? 40).map (fun i => i.size) = some 7 := by kernel_rfl
  cases e : Try.prog.info? 40 with
  | none => rw [e] at h; cases h
  | some i => rw [e] at h; simp at h; exact ⟨i, rfl, h⟩
theorem a40 : isAggB Try.prog 40 = some true := by kernel_rfl
theorem i89s : ∃ i, Try.prog.info? 89 = some i ∧ i.size = 5 := by
  have h : (Try.prog.info? 89).map (fun i => i.size) = some 5 := by kernel_rfl
  cases e : Try.prog.info? 89 with
  | none => rw [e] at h; cases h
  | some i => rw [e] at h; simp at h; exact ⟨i, rfl, h⟩
theorem a89 : isAggB Try.prog 89 = some true := by kernel_rfl
theorem tnc_rowF {us : List Tn} {i : Nat} (h : i < us.length) : row 5 (tnc us) (0 + i * 5) = some (us.getD i Tn.z).f := by
  obtain ⟨x, hx⟩ := get_some h
  rw [Tn.at hx]; exact tnc_row hx
theorem tnc_atF {us : List Tn} {i j : Nat} {v : Value} (h : i < us.length) (hj : (us.getD i Tn.z).f[j]? = some v) : (tnc us)[0 + i * 5 + j]? = some v := row_get (tnc_rowF h) hj
theorem tn_at {us : List Tn} (h : us.all Tn.ok = true) {i : Nat} (hi : i < us.length) : (us.getD i Tn.z).ok = true := by
  obtain ⟨x, hx⟩ := get_some hi
  rw [Tn.at hx]; exact List.all_eq_true.1 h x (List.mem_of_getElem? hx)
theorem bc_at {b : Bl} {i : Nat} (h : i < 5) : (bc b)[0 + i * 1]? = some (iv (b i)) := by
  match i, h with
  | 0, _ => rfl
  | 1, _ => rfl
  | 2, _ => rfl
  | 3, _ => rfl
  | 4, _ => rfl
  | n + 5, h => exact absurd h (by omega)
theorem bc_set {b : Bl} {i : Nat} {v : Int} (h : i < 5) : (bc b).set (0 + i * 1) (iv v) = bc (upd b i v) := by
  match i, h with
  | 0, _ => rfl
  | 1, _ => rfl
  | 2, _ => rfl
  | 3, _ => rfl
  | 4, _ => rfl
  | n + 5, h => exact absurd h (by omega)
theorem upd_upd (b : Bl) (i : Nat) (v w : Int) : upd (upd b i v) i w = upd b i w := by
  funext j; unfold upd; split <;> rfl
/-- a block of tanks -/
def Ft (H : Hp) (b : Nat) (cs : List Value) : Prop := b < H.next ∧ (H.t.get b = some (.ro cs) ∨ (∃ e, H.t.get b = some (.cells cs e false)) ∨ H.t.get b = some (.cells cs 73 true))
theorem Keep.ft {H H1 : Hp} {l : List Nat} (k : Keep H H1 l) {b : Nat} {cs : List Value} (h : Ft H b cs) (hl : b ∉ l) : Ft H1 b cs :=
  ⟨Nat.lt_of_lt_of_le h.1 k.1, by rw [k.2 b h.1 hl]; exact h.2⟩
/-- where tanks are read -/
def Vk (H : Hp) (a : Option Addr) (us : List Tn) : Prop := us = [] ∨ ∃ b o cs, a = some ⟨b, o, none⟩ ∧ Rd H b cs ∧ ∀ i, i < us.length → row 5 cs (o + i * 5) = some (us.getD i Tn.z).f
theorem Keep.vk {H H1 : Hp} {l : List Nat} (k : Keep H H1 l) {a : Option Addr} {us : List Tn} (h : Vk H a us) (hl : ∀ b, (∃ o, a = some ⟨b, o, none⟩ ∧ us ≠ []) → b ∉ l) : Vk H1 a us := by
  rcases h with h | ⟨b, o, cs, e, r, q⟩
  · exact .inl h
  · by_cases e0 : us = []
    · exact .inl e0
    · exact .inr ⟨b, o, cs, e, k.rd r (hl b ⟨o, e, e0⟩), q⟩
theorem Vk.old {H : Hp} {a : Option Addr} {us : List Tn} (h : Vk H a us) : ∀ b, (∃ o, a = some ⟨b, o, none⟩ ∧ us ≠ []) → b < H.next := by
  rintro b ⟨o, e, e0⟩
  rcases h with h | ⟨b2, o2, cs, e2, r, q⟩
  · exact absurd h e0
  · rw [e] at e2; cases e2; exact r.lt
theorem in73s : ∃ i, Try.prog.info? 73 = some i ∧ i.size = 5 := by
  have h : (Try.prog.info? 73).map (fun i => Nat.beq i.size 5) = some true := by kernel_rfl
  cases e : Try.prog.info? 73 with
  | none => rw [e] at h; cases h
  | some i => rw [e] at h; exact ⟨i, rfl, by simpa using h⟩
theorem u36 : Try.prog.underlying 36 = some (.slice 73) := by kernel_rfl
theorem getD_drop (us : List Tn) (k i : Nat) : (us.drop k).getD i Tn.z = us.getD (k + i) Tn.z := by
  rw [List.getD_eq_getElem?_getD, List.getD_eq_getElem?_getD, List.getElem?_drop]
/-- l[k:] -/
theorem heap_fromT {lo : Nat} {H : Hp} {a : Option Addr} {n cap k : Nat} {us : List Tn} (hs : Sl H a n cap (tnc us)) (hl : us.length = n) (hf : ∀ b, a = some ⟨b, 0, none⟩ → Ft H b (tnc us)) (h0 : 0 < k) (hk : k ≤ n) :
    ∃ a' c' kd, (∀ (m : Nat) (S : Rg) (d : Option Tmp) (x y : Operand) (ty : TypeId) (p : String), evS S x = some (.slice a n cap) → evS S y = some (iv (k : Int)) → heapOp Try.prog lo (frS m S) H ⟨d, .slice 36 x (some y) none none, ty, p, #[], none⟩ = some (.val (.slice a' (n - k) c') H, kd)) ∧ (∀ b, kd = .read b → b < H.next) ∧ Vk H a' (us.drop k) := by
  obtain ⟨i, hi, hs1⟩ := in73s
  have ead : ∀ b, (⟨b, 0, none⟩ : Addr).add (k * 5) = ⟨b, 0 + k * 5, none⟩ := fun b => by unfold Addr.add; rw [if_neg (by omega)]
  have b0 : ∀ (m : Nat) (S : Rg), boundOf (frS m S) n none = some n := fun _ _ => rfl
  have b1 : ∀ (m : Nat) (S : Rg) (y : Operand), evS S y = some (iv (k : Int)) → boundOf (frS m S) 0 (some y) = some k := fun m S y hy => by unfold boundOf; simp only [ev_frS, hy]
  rcases hs with ⟨_, h0', _, _⟩ | ⟨b, rfl, hr, hc⟩
  · omega
  · have vw : k < n → Vk H (some ⟨b, 0 + k * 5, none⟩) (us.drop k) := fun _ => .inr ⟨b, 0 + k * 5, tnc us, rfl, hr, fun i hi => by
      rw [List.length_drop] at hi
      rw [getD_drop, show 0 + k * 5 + i * 5 = 0 + (k + i) * 5 by omega]; exact tnc_rowF (by omega)⟩
    have nil : k = n → us.drop k = [] := fun e => List.drop_of_length_le (by omega)
    have hro : ∀ (m : Nat) (S : Rg) (d : Option Tmp) (x y : Operand) (ty : TypeId) (p : String), (∃ cs, H.t.get b = some (.ro cs)) ∨ (∃ cs e, H.t.get b = some (.cells cs e false)) → evS S x = some (.slice (some ⟨b, 0, none⟩) n cap) → evS S y = some (iv (k : Int)) → heapOp Try.prog lo (frS m S) H ⟨d, .slice 36 x (some y) none none, ty, p, #[], none⟩ = some (.val (.slice (some (bif Nat.beq cap k then ⟨b, 0, none⟩ else (⟨b, 0, none⟩ : Addr).add (k * i.size))) (n - k) (cap - k)) H, .read b) := by
      rintro m S d x y ty p (⟨cs, hg⟩ | ⟨cs, e, hg⟩) hx hy
      · unfold heapOp
        simp only [ev_frS, hx, u36, hi, b0, b1 m S y hy, hg, Nat.ble_eq_true_of_le hc, Nat.ble_eq_true_of_le hk, Bool.and_self, cond_true]
      · unfold heapOp
        simp only [ev_frS, hx, u36, hi, b0, b1 m S y hy, hg, Nat.ble_eq_true_of_le hc, Nat.ble_eq_true_of_le hk, Bool.and_self, cond_true]
    have vro : Vk H (some (bif Nat.beq cap k then ⟨b, 0, none⟩ else (⟨b, 0, none⟩ : Addr).add (k * i.size))) (us.drop k) := by
      by_cases e : k = n
      · exact .inl (nil e)
      · have hb : Nat.beq cap k = false := by rw [beq_eq]; simp; omega
        rw [hb, hs1, cond_false, ead]; exact vw (by omega)
    obtain ⟨_, h2 | ⟨e, h2⟩ | h2⟩ := hf b rfl
    · exact ⟨_, _, _, fun m S d x y ty p hx hy => hro m S d x y ty p (.inl ⟨_, h2⟩) hx hy, fun b' e => by cases e; exact hr.lt, vro⟩
    · exact ⟨_, _, _, fun m S d x y ty p hx hy => hro m S d x y ty p (.inr ⟨_, _, h2⟩) hx hy, fun b' e => by cases e; exact hr.lt, vro⟩
    · by_cases e : k = n
      · refine ⟨some ⟨0, 0, some 0⟩, 0, .read b, fun m S d x y ty p hx hy => ?_, fun b' e => by cases e; exact hr.lt, .inl (nil e)⟩
        have q1 : Nat.beq k n = true := by rw [beq_eq]; simp; omega
        have q2 : Nat.beq k 0 = false := by rw [beq_eq]; simp; omega
        unfold heapOp
        simp only [ev_frS, hx, u36, hi, b0, b1 m S y hy, h2, hs1, Nat.beq_refl, q1, q2, show Nat.beq 5 0 = false from rfl, Nat.ble_eq_true_of_le hk, Nat.ble_eq_true_of_le (Nat.le_refl n), Bool.not_false, Bool.not_true, Bool.or_self, Bool.and_self, cond_true, cond_false]
        rw [show n - k = 0 by omega]
      · refine ⟨some ⟨b, 0 + k * 5, none⟩, cap - k, .read b, fun m S d x y ty p hx hy => ?_, fun b' e => by cases e; exact hr.lt, vw (by omega)⟩
        have q1 : Nat.beq k n = false := by rw [beq_eq]; simp; omega
        unfold heapOp
        simp only [ev_frS, hx, u36, hi, b0, b1 m S y hy, h2, hs1, Nat.beq_refl, q1, show Nat.beq 5 0 = false from rfl, Nat.ble_eq_true_of_le hk, Nat.ble_eq_true_of_le (Nat.le_refl n), Bool.not_false, Bool.true_or, Bool.and_self, cond_true, ead]
theorem hd_in {us : List Tn} (h : ∀ i, i < us.length → 0 ≤ (us.getD i Tn.z).un ∧ (us.getD i Tn.z).un ≤ 12) : ∀ k, k ≤ us.length → 0 ≤ hdN us k ∧ hdN us k ≤ 12 * k
  | 0, _ => by show 0 ≤ (0 : Int) ∧ (0 : Int) ≤ 12 * ((0 : Nat) : Int); omega
  | k + 1, hk => by
    have a := hd_in h k (by omega); have b := h k (by omega)
    show 0 ≤ hdN us k + (us.getD k Tn.z).un ∧ hdN us k + (us.getD k Tn.z).un ≤ 12 * ((k + 1 : Nat) : Int)
    omega
section
variable {kn : FuncId → Option Bool} {lo : Nat} {H : Hp}
/-- validTank -/
theorem vtank_ok {x : Tn} (hlo : lo ≤ H.next) : ∃ H', FnX Try.prog kn lo 73 [.agg (Tn.f x).toArray] H (.bool (x.ok)) H' ∧ Keep H H' [] := by
  have key := fnX_low (kn := kn) (lo := lo) (H := H) (args := [.agg (Tn.f x).toArray]) (Q := fun w H' => w = .bool (x.ok) ∧ Keep H H' []) Try.func73 B73 N73 Z73 L73 (by simp) ?_
  · obtain ⟨w, H', h, rfl, q⟩ := key; exact ⟨H', h, q⟩
  have hk := Keep.refl H []
  refine wN_seq ?_
  refine wN_box (v := .agg (Tn.f x).toArray) rfl ?_
  intro H1 kH1 nH1 c1
  have c1 : Cl H1 H.next [iv x.un, iv x.su, iv x.ac, iv x.co, iv x.pr] := c1
  have mH1 := kH1.1
  have hk := hk.trans kH1
  refine wN_mov (v := .bool false) rfl ?_
  refine wN_end ?_
  refine wN_seq ?_
  refine wN_addo (b := H.next) (o := 0) rfl ?_
  refine wN_ld (b := H.next) (o := 0) (v := iv x.un) rfl c1.rd rfl ?_
  refine wN_callB rfl (isw_ok) ?_
  intro tH2 H2 hH2 kH2
  have mH2 := kH2.1
  have hk := hk.trans kH2
  have c1 := kH2.cl c1 (by simp)
  cases tH2
  · have thH2 : isw x.un 12 = false := hH2
    refine wN_pur (v := .bool true) rfl rfl ?_
    refine wN_mov (v := .bool true) rfl ?_
    refine wN_gs rfl ?_
    refine wN_gs rfl ?_
    refine wN_gs rfl ?_
    refine wN_gs rfl ?_
    refine wN_pur (v := .bool true) rfl rfl ?_
    refine wN_end ?_
    refine condT ?_
    refine wN_seq ?_
    refine wN_mov (v := .bool false) rfl ?_
    refine wN_end ?_
    exact And.intro trivial (Exists.intro _ (And.intro rfl ⟨congrArg Value.bool (show false = (x.ok) from (by symm; unfold Tn.ok; simp only [*]; try rfl)), hk⟩))
  · have thH2 : isw x.un 12 = true := hH2
    refine wN_pur (v := .bool false) rfl rfl ?_
    refine wN_mov (v := .bool false) rfl ?_
    refine wN_g rfl (wN_addo (b := H.next) (o := 0) rfl ?_)
    refine wN_g rfl (wN_ld (b := H.next) (o := 4) (v := iv x.pr) rfl c1.rd rfl ?_)
    refine wN_g rfl (wN_callB rfl (isw_ok) ?_)
    intro tH3 H3 hH3 kH3
    have mH3 := kH3.1
    have hk := hk.trans kH3
    have c1 := kH3.cl c1 (by simp)
    cases tH3
    · have thH3 : isw x.pr 1048576 = false := hH3
      refine wN_g rfl (wN_pur (v := .bool true) rfl rfl ?_)
      refine wN_pur (v := .bool true) rfl rfl ?_
      refine wN_end ?_
      refine condT ?_
      refine wN_seq ?_
      refine wN_mov (v := .bool false) rfl ?_
      refine wN_end ?_
      exact And.intro trivial (Exists.intro _ (And.intro rfl ⟨congrArg Value.bool (show false = (x.ok) from (by symm; unfold Tn.ok; simp only [*]; try rfl)), hk⟩))
    · have thH3 : isw x.pr 1048576 = true := hH3
      refine wN_g rfl (wN_pur (v := .bool false) rfl rfl ?_)
      refine wN_pur (v := .bool false) rfl rfl ?_
      refine wN_end ?_
      refine condF ?_
      first | refine wN_skip ?_ | skip
      refine wN_seq ?_
      refine wN_addo (b := H.next) (o := 0) rfl ?_
      refine wN_ld (b := H.next) (o := 1) (v := iv x.su) rfl c1.rd rfl ?_
      refine wN_callB rfl (isw_ok) ?_
      intro tH4 H4 hH4 kH4
      have mH4 := kH4.1
      have hk := hk.trans kH4
      have c1 := kH4.cl c1 (by simp)
      cases tH4
      · have thH4 : isw x.su 10000 = false := hH4
        refine wN_mov (v := .bool false) rfl ?_
        refine wN_gs rfl ?_
        refine wN_gs rfl ?_
        refine wN_gs rfl ?_
        refine wN_pur (v := .bool false) rfl rfl ?_
        refine wN_mov (v := .bool false) rfl ?_
        refine wN_gs rfl ?_
        refine wN_gs rfl ?_
        refine wN_gs rfl ?_
        refine wN_pur (v := .bool false) rfl rfl ?_
        refine wN_mov (v := .bool false) rfl ?_
        refine wN_end ?_
        exact And.intro trivial (Exists.intro _ (And.intro rfl ⟨congrArg Value.bool (show false = (x.ok) from (by symm; unfold Tn.ok; simp only [*]; try rfl)), hk⟩))
      · have thH4 : isw x.su 10000 = true := hH4
        refine wN_mov (v := .bool true) rfl ?_
        refine wN_g rfl (wN_addo (b := H.next) (o := 0) rfl ?_)
        refine wN_g rfl (wN_ld (b := H.next) (o := 2) (v := iv x.ac) rfl c1.rd rfl ?_)
        refine wN_g rfl (wN_callB rfl (isw_ok) ?_)
        intro tH5 H5 hH5 kH5
        have mH5 := kH5.1
        have hk := hk.trans kH5
        have c1 := kH5.cl c1 (by simp)
        cases tH5
        · have thH5 : isw x.ac 10000 = false := hH5
          refine wN_pur (v := .bool false) rfl rfl ?_
          refine wN_mov (v := .bool false) rfl ?_
          refine wN_gs rfl ?_
          refine wN_gs rfl ?_
          refine wN_gs rfl ?_
          refine wN_pur (v := .bool false) rfl rfl ?_
          refine wN_mov (v := .bool false) rfl ?_
          refine wN_end ?_
          exact And.intro trivial (Exists.intro _ (And.intro rfl ⟨congrArg Value.bool (show false = (x.ok) from (by symm; unfold Tn.ok; simp only [*]; try rfl)), hk⟩))
        · have thH5 : isw x.ac 10000 = true := hH5
          refine wN_pur (v := .bool true) rfl rfl ?_
          refine wN_mov (v := .bool true) rfl ?_
          refine wN_g rfl (wN_addo (b := H.next) (o := 0) rfl ?_)
          refine wN_g rfl (wN_ld (b := H.next) (o := 3) (v := iv x.co) rfl c1.rd rfl ?_)
          refine wN_g rfl (wN_callB rfl (isw_ok) ?_)
          intro tH6 H6 hH6 kH6
          have mH6 := kH6.1
          have hk := hk.trans kH6
          have c1 := kH6.cl c1 (by simp)
          cases tH6
          · have thH6 : isw x.co 10000 = false := hH6
            refine wN_pur (v := .bool false) rfl rfl ?_
            refine wN_mov (v := .bool false) rfl ?_
            refine wN_end ?_
            exact And.intro trivial (Exists.intro _ (And.intro rfl ⟨congrArg Value.bool (show false = (x.ok) from (by symm; unfold Tn.ok; simp only [*]; try rfl)), hk⟩))
          · have thH6 : isw x.co 10000 = true := hH6
            refine wN_pur (v := .bool true) rfl rfl ?_
            refine wN_mov (v := .bool true) rfl ?_
            refine wN_end ?_
            exact And.intro trivial (Exists.intro _ (And.intro rfl ⟨congrArg Value.bool (show true = (x.ok) from (by symm; unfold Tn.ok; simp only [*]; try rfl)), hk⟩))
theorem clos72_ok {x : Tn} {k : Int} (hlo : lo ≤ H.next) : ∃ H', FnX Try.prog kn lo 72 [iv k, .agg (Tn.f x).toArray] H (.bool x.ok) H' ∧ Keep H H' [] := by
  have key := fnX_low (kn := kn) (lo := lo) (H := H) (args := [iv k, .agg (Tn.f x).toArray]) (Q := fun w H' => w = .bool x.ok ∧ Keep H H' []) Try.func72 B72 N72 Z72 L72 (by simp) ?_
  · obtain ⟨w, H', h, rfl, q⟩ := key; exact ⟨H', h, q⟩
  have hk := Keep.refl H []
  refine wN_seq ?_
  refine wN_box (v := .agg (Tn.f x).toArray) rfl ?_
  intro H1 kH1 nH1 c1
  have c1 : Cl H1 H.next [iv x.un, iv x.su, iv x.ac, iv x.co, iv x.pr] := c1
  have mH1 := kH1.1
  have hk := hk.trans kH1
  refine wN_mov (v := .bool false) rfl ?_
  refine wN_end ?_
  refine wN_seq ?_
  refine wN_lda (b := H.next) (o := 0) rfl c1.rd (show row 5 _ _ = some [iv x.un, iv x.su, iv x.ac, iv x.co, iv x.pr] from rfl) ?_
  obtain ⟨H2, fH2, kH2⟩ := vtank_ok (kn := kn) (lo := lo) (H := H1) (x := x) (by omega)
  refine wN_callf (vs := [.agg (Tn.f x).toArray]) rfl (callX_args fH2) ?_
  have mH2 := kH2.1
  have hk := hk.trans kH2
  have c1 := kH2.cl c1 (by simp)
  refine wN_mov (v := .bool x.ok) rfl ?_
  refine wN_end ?_
  exact And.intro trivial (Exists.intro _ (And.intro rfl ⟨rfl, hk⟩))
/-- isList of tanks -/
theorem list71_ok {sa : Option Addr} {n cap : Nat} {us : List Tn}  (hs : Sl H sa n cap (tnc us)) (hl : us.length = n) (hn2 : n ≤ 1000000) (hlo : lo ≤ H.next) :
    ∃ H', FnX Try.prog kn lo 71 [.slice sa n cap, iv 0, iv 5, .func (.func 72) #[] #[]] H (.bool (decide (0 ≤ n) && decide (n ≤ 5) && us.all Tn.ok)) H' ∧ Keep H H' [] := by
  have key := fnX_low (kn := kn) (lo := lo) (H := H) (args := [.slice sa n cap, iv 0, iv 5, .func (.func 72) #[] #[]]) (Q := fun w H' => w = .bool (decide (0 ≤ n) && decide (n ≤ 5) && us.all Tn.ok) ∧ Keep H H' []) Try.func71 B71 N71 Z71 L71 (by simp) ?_
  · obtain ⟨w, H', h, rfl, q⟩ := key; exact ⟨H', h, q⟩
  have hk := Keep.refl H []
  have fs := hs.old
  refine wN_seq ?_
  refine wN_mov (v := .bool false) rfl ?_
  refine wN_end ?_
  refine wN_seq ?_
  refine wN_mov (v := .slice sa n cap) rfl ?_
  refine wN_len (m := n) rfl ?_
  refine wN_mov (v := iv 0) rfl ?_
  refine wN_b_lss (a := (n : Int)) (b := 0) rfl rfl ?_
  intro t1 g1; cases t1
  · have g1 : ¬ ((n : Int) < 0) := of_decide_eq_false g1
    refine wN_mov (v := .bool false) rfl ?_
    refine wN_g rfl (wN_mov (v := .slice sa n cap) rfl ?_)
    refine wN_g rfl (wN_len (m := n) rfl ?_)
    refine wN_g rfl (wN_mov (v := iv 5) rfl ?_)
    refine wN_g rfl (wN_b_gtr (a := (n : Int)) (b := 5) rfl rfl ?_)
    intro t2 g2; cases t2
    · have g2 : ¬ ((n : Int) > 5) := of_decide_eq_false g2
      refine wN_pur (v := .bool false) rfl rfl ?_
      refine wN_end ?_
      refine condF ?_
      first | refine wN_skip ?_ | skip
      refine wN_seq ?_
      refine wN_mov (v := .slice sa n cap) rfl ?_
      refine wN_len (m := n) rfl ?_
      refine wN_mov (v := iv 0) rfl ?_
      refine wN_end ?_
      refine loop_low (fn := Try.f71) E71_1 N71 L71x1 (fun i : Nat => [(3, .func (.func 72) #[] #[]), (21, .slice sa n cap), (22, iv (n : Int)), (23, iv (i : Int))])
        (fun k i H' => i + k = n ∧ Keep H H' [] ∧ Sl H' sa n cap (tnc us) ∧ (us.take i).all Tn.ok = true) n 0 ⟨by omega, hk, hs, rfl⟩ ⟨rfl, rfl, rfl, rfl, trivial⟩ ?_
      rintro k i L1 ⟨hik, hk, hs, hall⟩
      have mki := hk.1
      have fs := hs.old
      refine wN_seq ?_
      refine wN_c_lss (a := (i : Int)) (b := (n : Int)) rfl rfl ?_
      refine wN_end ?_
      refine And.intro (fun q3 => ?_) (fun q3 => ?_)
      · have q3 : (i : Int) < (n : Int) := of_decide_eq_true q3
        have hi : i < n := by omega
        obtain ⟨x, hx⟩ := get_some (l := us) (i := i) (by omega)
        have hst := all_step (f := Tn.ok) hx
        rcases id hs with ⟨_, h0, _⟩ | ⟨sb, esb, hsd, _⟩
        · omega
        have lsb := hsd.lt
        first | refine wN_skip ?_ | skip
        refine wN_seq ?_
        refine wN_mov (v := iv (i : Int)) rfl ?_
        refine wN_idx (b := sb) (o := 0) (k := i) (j := (i : Int)) (by rw [← esb]; rfl) rfl rfl hi ?_
        refine wN_lda (b := sb) (o := 0 + i * 5) rfl hsd (tnc_row hx) ?_
        refine wN_alc ?_
        intro H1 kH1 nH1 c1
        have c1 : Cl H1 L1.next [iv 0, iv 0, iv 0, iv 0, iv 0] := c1
        have mH1 := kH1.1
        have hk := hk.trans kH1
        have hs := kH1.sl0 hs
        have hsd := kH1.rd hsd (by simp)
        refine wN_mov (v := iv (i : Int)) rfl ?_
        refine wN_sta (b := L1.next) (o := 0) rfl rfl c1 (by omega) rfl rfl (by simp) ?_
        intro H2 kH2 nH2 sH2
        have mH2 := kH2.1
        have hk := hk.new kH2 (fun b hb => by simp at hb ⊢; omega)
        have hs := kH2.sl hs (fun b e => by have := fs b e; first | (simp; done) | (simp; omega))
        have hsd := kH2.rd hsd (by first | (simp; done) | (simp; omega))
        have c1 : Cl H2 L1.next [iv x.un, iv x.su, iv x.ac, iv x.co, iv x.pr] := sH2
        refine wN_end ?_
        refine wN_seq ?_
        refine wN_mov (v := .func (.func 72) #[] #[]) rfl ?_
        refine wN_mov (v := iv (i : Int)) rfl ?_
        refine wN_lda (b := L1.next) (o := 0) rfl c1.rd (show row 5 _ _ = some [iv x.un, iv x.su, iv x.ac, iv x.co, iv x.pr] from rfl) ?_
        obtain ⟨H3, fH3, kH3⟩ := clos72_ok (kn := kn) (lo := lo) (H := H2) (x := x) (k := (i : Int)) (by omega)
        have mH3 := kH3.1
        have hk := hk.trans kH3
        have hs := kH3.sl0 hs
        have hsd := kH3.rd hsd (by simp)
        have c1 := kH3.cl c1 (by simp)
        cases hb : Tn.ok x
        · rw [show Tn.ok x = false from hb] at fH3
          refine wN_callf (vs := [iv (i : Int), .agg (Tn.f x).toArray]) rfl (callX_func rfl (by simpa using fH3)) ?_
          refine wN_pur (v := .bool true) rfl rfl ?_
          refine wN_end ?_
          refine condT ?_
          refine wN_seq ?_
          refine wN_mov (v := .bool false) rfl ?_
          refine wN_end ?_
          exact And.intro trivial (Exists.intro _ (And.intro rfl ⟨congrArg Value.bool (show false = (decide (0 ≤ n) && decide (n ≤ 5) && us.all Tn.ok) from (by symm; rw [all_fail hx hb]; simp)), hk⟩))
        · rw [show Tn.ok x = true from hb] at fH3
          refine wN_callf (vs := [iv (i : Int), .agg (Tn.f x).toArray]) rfl (callX_func rfl (by simpa using fH3)) ?_
          refine wN_pur (v := .bool false) rfl rfl ?_
          refine wN_end ?_
          refine condF ?_
          first | refine wN_skip ?_ | skip
          first | refine wN_reg ?_ | refine wN_blk ?_ | refine wN_bseq ?_ | (refine wOps_nil ?_; refine wN_reg ?_)
          refine wN_add (a := (i : Int)) (b := 1) rfl rfl ⟨by omega, by omega⟩ ?_
          refine wN_mov (v := iv ((i : Int) + 1)) rfl ?_
          refine wN_end ?_
          exact ⟨k - 1, i + 1, by omega, ⟨by omega, hk, hs, by rw [hst, hall, Bool.true_and]; exact hb⟩, rfl, rfl, rfl, rfl, trivial⟩
      · have q3 : ¬ ((i : Int) < (n : Int)) := of_decide_eq_false q3
        refine wN_seq ?_
        refine wN_mov (v := .bool true) rfl ?_
        refine wN_end ?_
        exact And.intro trivial (Exists.intro _ (And.intro rfl ⟨congrArg Value.bool (show true = (decide (0 ≤ n) && decide (n ≤ 5) && us.all Tn.ok) from (by symm; rw [List.take_of_length_le (by omega)] at hall; rw [hall, decide_eq_true (by omega), decide_eq_true (by omega)]; rfl)), hk⟩))
    · have g2 : (n : Int) > 5 := of_decide_eq_true g2
      refine wN_pur (v := .bool true) rfl rfl ?_
      refine wN_end ?_
      refine condT ?_
      refine wN_seq ?_
      refine wN_mov (v := .bool false) rfl ?_
      refine wN_end ?_
      exact And.intro trivial (Exists.intro _ (And.intro rfl ⟨congrArg Value.bool (show false = (decide (0 ≤ n) && decide (n ≤ 5) && us.all Tn.ok) from (by symm; simp; omega)), hk⟩))
  · have g1 : (n : Int) < 0 := of_decide_eq_true g1
    refine wN_mov (v := .bool true) rfl ?_
    refine wN_gs rfl ?_
    refine wN_gs rfl ?_
    refine wN_gs rfl ?_
    refine wN_gs rfl ?_
    refine wN_pur (v := .bool true) rfl rfl ?_
    refine wN_end ?_
    refine condT ?_
    refine wN_seq ?_
    refine wN_mov (v := .bool false) rfl ?_
    refine wN_end ?_
    exact And.intro trivial (Exists.intro _ (And.intro rfl ⟨congrArg Value.bool (show false = (decide (0 ≤ n) && decide (n ≤ 5) && us.all Tn.ok) from (by symm; simp; omega)), hk⟩))
/-- validTanks -/
theorem vtanks_ok {sa : Option Addr} {n cap : Nat} {us : List Tn} (hs : Sl H sa n cap (tnc us)) (hl : us.length = n) (hn2 : n ≤ 1000000) (hlo : lo ≤ H.next) : ∃ H', FnX Try.prog kn lo 51 [.slice sa n cap] H (.bool (decide (0 ≤ n) && decide (n ≤ 5) && us.all Tn.ok)) H' ∧ Keep H H' [] := by
  have key := fnX_low (kn := kn) (lo := lo) (H := H) (args := [.slice sa n cap]) (Q := fun w H' => w = .bool (decide (0 ≤ n) && decide (n ≤ 5) && us.all Tn.ok) ∧ Keep H H' []) Try.func51 B51 N51 Z51 L51 (by simp) ?_
  · obtain ⟨w, H', h, rfl, q⟩ := key; exact ⟨H', h, q⟩
  have hk := Keep.refl H []
  refine wN_seq ?_
  refine wN_mov (v := .bool false) rfl ?_
  refine wN_end ?_
  refine wN_seq ?_
  refine wN_mov (v := .slice sa n cap) rfl ?_
  obtain ⟨H1, fH1, kH1⟩ := list71_ok (kn := kn) (lo := lo) (H := H) hs hl hn2 (by omega)
  refine wN_callf (vs := [.slice sa n cap, iv 0, iv 5, .func (.func 72) #[] #[]]) rfl (callX_args fH1) ?_
  have mH1 := kH1.1
  have hk := hk.trans kH1
  have hs := kH1.sl0 hs
  refine wN_mov (v := .bool (decide (0 ≤ n) && decide (n ≤ 5) && us.all Tn.ok)) rfl ?_
  refine wN_end ?_
  exact And.intro trivial (Exists.intro _ (And.intro rfl ⟨rfl, hk⟩))
/-- isSpanWithin -/
theorem spanw_ok {a b m : Int} (hlo : lo ≤ H.next) : ∃ H', FnX Try.prog kn lo 74 [.agg #[iv a, iv b], iv m] H (.bool (spB a b m)) H' ∧ Keep H H' [] := by
  have key := fnX_low (kn := kn) (lo := lo) (H := H) (args := [.agg #[iv a, iv b], iv m]) (Q := fun w H' => w = .bool (spB a b m) ∧ Keep H H' []) Try.func74 B74 N74 Z74 L74 (by simp) ?_
  · obtain ⟨w, H', h, rfl, q⟩ := key; exact ⟨H', h, q⟩
  have hk := Keep.refl H []
  refine wN_seq ?_
  refine wN_box (v := .agg #[iv a, iv b]) rfl ?_
  intro H1 kH1 nH1 c1
  have c1 : Cl H1 H.next [iv a, iv b] := c1
  have mH1 := kH1.1
  have hk := hk.trans kH1
  refine wN_mov (v := .bool false) rfl ?_
  refine wN_end ?_
  refine wN_seq ?_
  refine wN_addo (b := H.next) (o := 0) rfl ?_
  refine wN_ld (b := H.next) (o := 0) (v := iv a) rfl c1.rd rfl ?_
  refine wN_b_leq (a := 0) (b := a) rfl rfl ?_
  intro t1 g1; cases t1
  · have g1 : ¬ (0 ≤ a) := of_decide_eq_false g1
    refine wN_mov (v := .bool false) rfl ?_
    refine wN_gs rfl ?_
    refine wN_gs rfl ?_
    refine wN_gs rfl ?_
    refine wN_gs rfl ?_
    refine wN_gs rfl ?_
    refine wN_pur (v := .bool false) rfl rfl ?_
    refine wN_mov (v := .bool false) rfl ?_
    refine wN_gs rfl ?_
    refine wN_gs rfl ?_
    refine wN_gs rfl ?_
    refine wN_gs rfl ?_
    refine wN_pur (v := .bool false) rfl rfl ?_
    refine wN_mov (v := .bool false) rfl ?_
    refine wN_end ?_
    exact And.intro trivial (Exists.intro _ (And.intro rfl ⟨congrArg Value.bool (show false = (spB a b m) from (by symm; first | (simp only [spB, Bool.and_eq_true, Bool.and_eq_false_iff, Bool.or_eq_true, Bool.or_eq_false_iff, Bool.not_eq_true', Bool.not_eq_false', decide_eq_true_eq, decide_eq_false_iff_not]; omega) | (simp [spB] <;> omega))), hk⟩))
  · have g1 : 0 ≤ a := of_decide_eq_true g1
    refine wN_mov (v := .bool true) rfl ?_
    refine wN_g rfl (wN_addo (b := H.next) (o := 0) rfl ?_)
    refine wN_g rfl (wN_ld (b := H.next) (o := 0) (v := iv a) rfl c1.rd rfl ?_)
    refine wN_g rfl (wN_addo (b := H.next) (o := 0) rfl ?_)
    refine wN_g rfl (wN_ld (b := H.next) (o := 1) (v := iv b) rfl c1.rd rfl ?_)
    refine wN_g rfl (wN_b_leq (a := a) (b := b) rfl rfl ?_)
    intro t2 g2; cases t2
    · have g2 : ¬ (a ≤ b) := of_decide_eq_false g2
      refine wN_pur (v := .bool false) rfl rfl ?_
      refine wN_mov (v := .bool false) rfl ?_
      refine wN_gs rfl ?_
      refine wN_gs rfl ?_
      refine wN_gs rfl ?_
      refine wN_gs rfl ?_
      refine wN_pur (v := .bool false) rfl rfl ?_
      refine wN_mov (v := .bool false) rfl ?_
      refine wN_end ?_
      exact And.intro trivial (Exists.intro _ (And.intro rfl ⟨congrArg Value.bool (show false = (spB a b m) from (by symm; first | (simp only [spB, Bool.and_eq_true, Bool.and_eq_false_iff, Bool.or_eq_true, Bool.or_eq_false_iff, Bool.not_eq_true', Bool.not_eq_false', decide_eq_true_eq, decide_eq_false_iff_not]; omega) | (simp [spB] <;> omega))), hk⟩))
    · have g2 : a ≤ b := of_decide_eq_true g2
      refine wN_pur (v := .bool true) rfl rfl ?_
      refine wN_mov (v := .bool true) rfl ?_
      refine wN_g rfl (wN_addo (b := H.next) (o := 0) rfl ?_)
      refine wN_g rfl (wN_ld (b := H.next) (o := 1) (v := iv b) rfl c1.rd rfl ?_)
      refine wN_g rfl (wN_mov (v := iv m) rfl ?_)
      refine wN_g rfl (wN_b_leq (a := b) (b := m) rfl rfl ?_)
      intro t3 g3; cases t3
      · have g3 : ¬ (b ≤ m) := of_decide_eq_false g3
        refine wN_pur (v := .bool false) rfl rfl ?_
        refine wN_mov (v := .bool false) rfl ?_
        refine wN_end ?_
        exact And.intro trivial (Exists.intro _ (And.intro rfl ⟨congrArg Value.bool (show false = (spB a b m) from (by symm; first | (simp only [spB, Bool.and_eq_true, Bool.and_eq_false_iff, Bool.or_eq_true, Bool.or_eq_false_iff, Bool.not_eq_true', Bool.not_eq_false', decide_eq_true_eq, decide_eq_false_iff_not]; omega) | (simp [spB] <;> omega))), hk⟩))
      · have g3 : b ≤ m := of_decide_eq_true g3
        refine wN_pur (v := .bool true) rfl rfl ?_
        refine wN_mov (v := .bool true) rfl ?_
        refine wN_end ?_
        exact And.intro trivial (Exists.intro _ (And.intro rfl ⟨congrArg Value.bool (show true = (spB a b m) from (by symm; first | (simp only [spB, Bool.and_eq_true, Bool.and_eq_false_iff, Bool.or_eq_true, Bool.or_eq_false_iff, Bool.not_eq_true', Bool.not_eq_false', decide_eq_true_eq, decide_eq_false_iff_not]; omega) | (simp [spB] <;> omega))), hk⟩))
/-- validRecipe -/
theorem vrecipe_ok {r : Rc} (hlo : lo ≤ H.next) : ∃ H', FnX Try.prog kn lo 52 [.agg (Rc.f r).toArray] H (.bool (r.ok)) H' ∧ Keep H H' [] := by
  have key := fnX_low (kn := kn) (lo := lo) (H := H) (args := [.agg (Rc.f r).toArray]) (Q := fun w H' => w = .bool (r.ok) ∧ Keep H H' []) Try.func52 B52 N52 Z52 L52 (by simp) ?_
  · obtain ⟨w, H', h, rfl, q⟩ := key; exact ⟨H', h, q⟩
  have hk := Keep.refl H []
  refine wN_seq ?_
  refine wN_box (v := .agg (Rc.f r).toArray) rfl ?_
  intro H1 kH1 nH1 c1
  have c1 : Cl H1 H.next [iv r.un, iv r.s1, iv r.s2, iv r.a1, iv r.a2, iv r.c1, iv r.c2] := c1
  have mH1 := kH1.1
  have hk := hk.trans kH1
  refine wN_mov (v := .bool false) rfl ?_
  refine wN_end ?_
  refine wN_seq ?_
  refine wN_addo (b := H.next) (o := 0) rfl ?_
  refine wN_ld (b := H.next) (o := 0) (v := iv r.un) rfl c1.rd rfl ?_
  refine wN_b_lss (a := r.un) (b := 1) rfl rfl ?_
  intro t1 g1; cases t1
  · have g1 : ¬ (r.un < 1) := of_decide_eq_false g1
    refine wN_mov (v := .bool false) rfl ?_
    refine wN_g rfl (wN_addo (b := H.next) (o := 0) rfl ?_)
    refine wN_g rfl (wN_ld (b := H.next) (o := 0) (v := iv r.un) rfl c1.rd rfl ?_)
    refine wN_g rfl (wN_b_gtr (a := r.un) (b := 60) rfl rfl ?_)
    intro t2 g2; cases t2
    · have g2 : ¬ (r.un > 60) := of_decide_eq_false g2
      refine wN_pur (v := .bool false) rfl rfl ?_
      refine wN_end ?_
      refine condF ?_
      first | refine wN_skip ?_ | skip
      refine wN_seq ?_
      refine wN_addo (b := H.next) (o := 0) rfl ?_
      refine wN_lda (b := H.next) (o := 1) rfl c1.rd (show row 2 _ _ = some [iv r.s1, iv r.s2] from rfl) ?_
      refine wN_callB rfl (spanw_ok (by omega)) ?_
      intro tH2 H2 hH2 kH2
      have mH2 := kH2.1
      have hk := hk.trans kH2
      have c1 := kH2.cl c1 (by simp)
      cases tH2
      · have thH2 : spB r.s1 r.s2 10000 = false := hH2
        refine wN_mov (v := .bool false) rfl ?_
        refine wN_gs rfl ?_
        refine wN_gs rfl ?_
        refine wN_gs rfl ?_
        refine wN_pur (v := .bool false) rfl rfl ?_
        refine wN_mov (v := .bool false) rfl ?_
        refine wN_gs rfl ?_
        refine wN_gs rfl ?_
        refine wN_gs rfl ?_
        refine wN_pur (v := .bool false) rfl rfl ?_
        refine wN_mov (v := .bool false) rfl ?_
        refine wN_end ?_
        exact And.intro trivial (Exists.intro _ (And.intro rfl ⟨congrArg Value.bool (show false = (r.ok) from (by symm; unfold Rc.ok; first | (rw [decide_eq_true (by omega), decide_eq_true (by omega)]; simp only [*]; try rfl) | (rw [decide_eq_false (by omega)]; simp) | (rw [decide_eq_true (by omega), decide_eq_false (by omega)]; simp))), hk⟩))
      · have thH2 : spB r.s1 r.s2 10000 = true := hH2
        refine wN_mov (v := .bool true) rfl ?_
        refine wN_g rfl (wN_addo (b := H.next) (o := 0) rfl ?_)
        refine wN_g rfl (wN_lda (b := H.next) (o := 3) rfl c1.rd (show row 2 _ _ = some [iv r.a1, iv r.a2] from rfl) ?_)
        refine wN_g rfl (wN_callB rfl (spanw_ok (by omega)) ?_)
        intro tH3 H3 hH3 kH3
        have mH3 := kH3.1
        have hk := hk.trans kH3
        have c1 := kH3.cl c1 (by simp)
        cases tH3
        · have thH3 : spB r.a1 r.a2 10000 = false := hH3
          refine wN_pur (v := .bool false) rfl rfl ?_
          refine wN_mov (v := .bool false) rfl ?_
          refine wN_gs rfl ?_
          refine wN_gs rfl ?_
          refine wN_gs rfl ?_
          refine wN_pur (v := .bool false) rfl rfl ?_
          refine wN_mov (v := .bool false) rfl ?_
          refine wN_end ?_
          exact And.intro trivial (Exists.intro _ (And.intro rfl ⟨congrArg Value.bool (show false = (r.ok) from (by symm; unfold Rc.ok; first | (rw [decide_eq_true (by omega), decide_eq_true (by omega)]; simp only [*]; try rfl) | (rw [decide_eq_false (by omega)]; simp) | (rw [decide_eq_true (by omega), decide_eq_false (by omega)]; simp))), hk⟩))
        · have thH3 : spB r.a1 r.a2 10000 = true := hH3
          refine wN_pur (v := .bool true) rfl rfl ?_
          refine wN_mov (v := .bool true) rfl ?_
          refine wN_g rfl (wN_addo (b := H.next) (o := 0) rfl ?_)
          refine wN_g rfl (wN_lda (b := H.next) (o := 5) rfl c1.rd (show row 2 _ _ = some [iv r.c1, iv r.c2] from rfl) ?_)
          refine wN_g rfl (wN_callB rfl (spanw_ok (by omega)) ?_)
          intro tH4 H4 hH4 kH4
          have mH4 := kH4.1
          have hk := hk.trans kH4
          have c1 := kH4.cl c1 (by simp)
          cases tH4
          · have thH4 : spB r.c1 r.c2 10000 = false := hH4
            refine wN_pur (v := .bool false) rfl rfl ?_
            refine wN_mov (v := .bool false) rfl ?_
            refine wN_end ?_
            exact And.intro trivial (Exists.intro _ (And.intro rfl ⟨congrArg Value.bool (show false = (r.ok) from (by symm; unfold Rc.ok; first | (rw [decide_eq_true (by omega), decide_eq_true (by omega)]; simp only [*]; try rfl) | (rw [decide_eq_false (by omega)]; simp) | (rw [decide_eq_true (by omega), decide_eq_false (by omega)]; simp))), hk⟩))
          · have thH4 : spB r.c1 r.c2 10000 = true := hH4
            refine wN_pur (v := .bool true) rfl rfl ?_
            refine wN_mov (v := .bool true) rfl ?_
            refine wN_end ?_
            exact And.intro trivial (Exists.intro _ (And.intro rfl ⟨congrArg Value.bool (show true = (r.ok) from (by symm; unfold Rc.ok; first | (rw [decide_eq_true (by omega), decide_eq_true (by omega)]; simp only [*]; try rfl) | (rw [decide_eq_false (by omega)]; simp) | (rw [decide_eq_true (by omega), decide_eq_false (by omega)]; simp))), hk⟩))
    · have g2 : r.un > 60 := of_decide_eq_true g2
      refine wN_pur (v := .bool true) rfl rfl ?_
      refine wN_end ?_
      refine condT ?_
      refine wN_seq ?_
      refine wN_mov (v := .bool false) rfl ?_
      refine wN_end ?_
      exact And.intro trivial (Exists.intro _ (And.intro rfl ⟨congrArg Value.bool (show false = (r.ok) from (by symm; unfold Rc.ok; first | (rw [decide_eq_true (by omega), decide_eq_true (by omega)]; simp only [*]; try rfl) | (rw [decide_eq_false (by omega)]; simp) | (rw [decide_eq_true (by omega), decide_eq_false (by omega)]; simp))), hk⟩))
  · have g1 : r.un < 1 := of_decide_eq_true g1
    refine wN_mov (v := .bool true) rfl ?_
    refine wN_gs rfl ?_
    refine wN_gs rfl ?_
    refine wN_gs rfl ?_
    refine wN_pur (v := .bool true) rfl rfl ?_
    refine wN_end ?_
    refine condT ?_
    refine wN_seq ?_
    refine wN_mov (v := .bool false) rfl ?_
    refine wN_end ?_
    exact And.intro trivial (Exists.intro _ (And.intro rfl ⟨congrArg Value.bool (show false = (r.ok) from (by symm; unfold Rc.ok; first | (rw [decide_eq_true (by omega), decide_eq_true (by omega)]; simp only [*]; try rfl) | (rw [decide_eq_false (by omega)]; simp) | (rw [decide_eq_true (by omega), decide_eq_false (by omega)]; simp))), hk⟩))
theorem num77_ok {x : Tn} (hlo : lo ≤ H.next) : ∃ H', FnX Try.prog kn lo 77 [.agg (Tn.f x).toArray] H (iv x.pr) H' ∧ Keep H H' [] := by
  have key := fnX_low (kn := kn) (lo := lo) (H := H) (args := [.agg (Tn.f x).toArray]) (Q := fun w H' => w = iv x.pr ∧ Keep H H' []) Try.func77 B77 N77 Z77 L77 (by simp) ?_
  · obtain ⟨w, H', h, rfl, q⟩ := key; exact ⟨H', h, q⟩
  have hk := Keep.refl H []
  refine wN_seq ?_
  refine wN_box (v := .agg (Tn.f x).toArray) rfl ?_
  intro H1 kH1 nH1 c1
  have c1 : Cl H1 H.next [iv x.un, iv x.su, iv x.ac, iv x.co, iv x.pr] := c1
  have mH1 := kH1.1
  have hk := hk.trans kH1
  refine wN_mov (v := iv 0) rfl ?_
  refine wN_end ?_
  refine wN_seq ?_
  refine wN_addo (b := H.next) (o := 0) rfl ?_
  refine wN_ld (b := H.next) (o := 4) (v := iv x.pr) rfl c1.rd rfl ?_
  refine wN_mov (v := iv x.pr) rfl ?_
  refine wN_end ?_
  exact And.intro trivial (Exists.intro _ (And.intro rfl ⟨rfl, hk⟩))
theorem num108_ok {x : Tn} (hlo : lo ≤ H.next) : ∃ H', FnX Try.prog kn lo 108 [.agg (Tn.f x).toArray] H (iv x.su) H' ∧ Keep H H' [] := by
  have key := fnX_low (kn := kn) (lo := lo) (H := H) (args := [.agg (Tn.f x).toArray]) (Q := fun w H' => w = iv x.su ∧ Keep H H' []) Try.func108 B108 N108 Z108 L108 (by simp) ?_
  · obtain ⟨w, H', h, rfl, q⟩ := key; exact ⟨H', h, q⟩
  have hk := Keep.refl H []
  refine wN_seq ?_
  refine wN_box (v := .agg (Tn.f x).toArray) rfl ?_
  intro H1 kH1 nH1 c1
  have c1 : Cl H1 H.next [iv x.un, iv x.su, iv x.ac, iv x.co, iv x.pr] := c1
  have mH1 := kH1.1
  have hk := hk.trans kH1
  refine wN_mov (v := iv 0) rfl ?_
  refine wN_end ?_
  refine wN_seq ?_
  refine wN_addo (b := H.next) (o := 0) rfl ?_
  refine wN_ld (b := H.next) (o := 1) (v := iv x.su) rfl c1.rd rfl ?_
  refine wN_mov (v := iv x.su) rfl ?_
  refine wN_end ?_
  exact And.intro trivial (Exists.intro _ (And.intro rfl ⟨rfl, hk⟩))
theorem num109_ok {x : Tn} (hlo : lo ≤ H.next) : ∃ H', FnX Try.prog kn lo 109 [.agg (Tn.f x).toArray] H (iv x.ac) H' ∧ Keep H H' [] := by
  have key := fnX_low (kn := kn) (lo := lo) (H := H) (args := [.agg (Tn.f x).toArray]) (Q := fun w H' => w = iv x.ac ∧ Keep H H' []) Try.func109 B109 N109 Z109 L109 (by simp) ?_
  · obtain ⟨w, H', h, rfl, q⟩ := key; exact ⟨H', h, q⟩
  have hk := Keep.refl H []
  refine wN_seq ?_
  refine wN_box (v := .agg (Tn.f x).toArray) rfl ?_
  intro H1 kH1 nH1 c1
  have c1 : Cl H1 H.next [iv x.un, iv x.su, iv x.ac, iv x.co, iv x.pr] := c1
  have mH1 := kH1.1
  have hk := hk.trans kH1
  refine wN_mov (v := iv 0) rfl ?_
  refine wN_end ?_
  refine wN_seq ?_
  refine wN_addo (b := H.next) (o := 0) rfl ?_
  refine wN_ld (b := H.next) (o := 2) (v := iv x.ac) rfl c1.rd rfl ?_
  refine wN_mov (v := iv x.ac) rfl ?_
  refine wN_end ?_
  exact And.intro trivial (Exists.intro _ (And.intro rfl ⟨rfl, hk⟩))
theorem num110_ok {x : Tn} (hlo : lo ≤ H.next) : ∃ H', FnX Try.prog kn lo 110 [.agg (Tn.f x).toArray] H (iv x.co) H' ∧ Keep H H' [] := by
  have key := fnX_low (kn := kn) (lo := lo) (H := H) (args := [.agg (Tn.f x).toArray]) (Q := fun w H' => w = iv x.co ∧ Keep H H' []) Try.func110 B110 N110 Z110 L110 (by simp) ?_
  · obtain ⟨w, H', h, rfl, q⟩ := key; exact ⟨H', h, q⟩
  have hk := Keep.refl H []
  refine wN_seq ?_
  refine wN_box (v := .agg (Tn.f x).toArray) rfl ?_
  intro H1 kH1 nH1 c1
  have c1 : Cl H1 H.next [iv x.un, iv x.su, iv x.ac, iv x.co, iv x.pr] := c1
  have mH1 := kH1.1
  have hk := hk.trans kH1
  refine wN_mov (v := iv 0) rfl ?_
  refine wN_end ?_
  refine wN_seq ?_
  refine wN_addo (b := H.next) (o := 0) rfl ?_
  refine wN_ld (b := H.next) (o := 3) (v := iv x.co) rfl c1.rd rfl ?_
  refine wN_mov (v := iv x.co) rfl ?_
  refine wN_end ?_
  exact And.intro trivial (Exists.intro _ (And.intro rfl ⟨rfl, hk⟩))
theorem sum77_ok {b : Bl} {sa : Option Addr} {n cap : Nat} {us : List Tn} (hs : Sl H sa n cap (tnc us)) (hl : us.length = n) (hb : ∀ i, 0 ≤ b i ∧ b i ≤ 12) (hok : us.all Tn.ok = true) (hn : n ≤ 5) (hlo : lo ≤ H.next) : ∃ H', FnX Try.prog kn lo 76 [.agg (bc b).toArray, .slice sa n cap, .func (.func 77) #[] #[]] H (iv (sumB us b Tn.pr n)) H' ∧ Keep H H' [] := by
  have key := fnX_low (kn := kn) (lo := lo) (H := H) (args := [.agg (bc b).toArray, .slice sa n cap, .func (.func 77) #[] #[]]) (Q := fun w H' => w = iv (sumB us b Tn.pr n) ∧ Keep H H' []) Try.func76 B76 N76 Z76 L76 (by simp) ?_
  · obtain ⟨w, H', h, rfl, q⟩ := key; exact ⟨H', h, q⟩
  have hk := Keep.refl H []
  have fs := hs.old
  refine wN_seq ?_
  refine wN_box (v := .agg (bc b).toArray) rfl ?_
  intro H1 kH1 nH1 c1
  have c1 : Cl H1 H.next [iv (b 0), iv (b 1), iv (b 2), iv (b 3), iv (b 4)] := c1
  have mH1 := kH1.1
  have hk := hk.trans kH1
  have hs := kH1.sl0 hs
  refine wN_mov (v := iv 0) rfl ?_
  refine wN_end ?_
  refine wN_seq ?_
  refine wN_mov (v := iv 0) rfl ?_
  refine wN_end ?_
  refine wN_seq ?_
  refine wN_mov (v := .slice sa n cap) rfl ?_
  refine wN_len (m := n) rfl ?_
  refine wN_mov (v := iv 0) rfl ?_
  refine wN_end ?_
  refine loop_low (fn := Try.f76) E76_1 N76 L76x1 (fun i : Nat => [(2, .func (.func 77) #[] #[]), (3, pt H.next), (7, iv (sumB us b Tn.pr i)), (10, .slice sa n cap), (11, iv (n : Int)), (12, iv (i : Int))])
    (fun k i H' => i + k = n ∧ Keep H H' [] ∧ H1.next ≤ H'.next ∧ Sl H' sa n cap (tnc us) ∧ Cl H' H.next (bc b)) n 0 ⟨by omega, hk, Nat.le_refl _, hs, c1⟩ ⟨rfl, rfl, rfl, rfl, rfl, rfl, trivial⟩ ?_
  rintro k i L1 ⟨hik, hk, hnx, hs, c3⟩
  have mki := hk.1
  have fs := hs.old
  have hsi := sumB_in (f := Tn.pr) (m := 1048576) hb (by decide) (fun i hi => by have z := Tn.ok_t (tn_at hok hi); exact ⟨by omega, by omega⟩) i (by omega)
  refine wN_seq ?_
  refine wN_c_lss (a := (i : Int)) (b := (n : Int)) rfl rfl ?_
  refine wN_end ?_
  refine And.intro (fun q1 => ?_) (fun q1 => ?_)
  · have q1 : (i : Int) < (n : Int) := of_decide_eq_true q1
    have hi : i < n := by omega
    rcases id hs with ⟨_, h0, _⟩ | ⟨sb, es, rs, _⟩
    · omega
    have lsb := rs.lt
    have ht := Tn.ok_t (tn_at hok (show i < us.length by omega))
    have hbi := hb i
    have hp0 : 0 ≤ b i * (us.getD i Tn.z).pr := Int.mul_nonneg hbi.1 (by omega)
    have hp1 : b i * (us.getD i Tn.z).pr ≤ 12 * (us.getD i Tn.z).pr := Int.mul_le_mul_of_nonneg_right hbi.2 (by omega)
    first | refine wN_skip ?_ | skip
    refine wN_seq ?_
    refine wN_mov (v := iv (i : Int)) rfl ?_
    refine wN_idx (b := sb) (o := 0) (k := i) (j := (i : Int)) (by rw [← es]; rfl) rfl rfl hi ?_
    refine wN_lda (b := sb) (o := 0 + i * 5) rfl rs (tnc_rowF (by omega)) ?_
    refine wN_alc ?_
    intro H2 kH2 nH2 c2
    have c2 : Cl H2 L1.next [iv 0, iv 0, iv 0, iv 0, iv 0] := c2
    have mH2 := kH2.1
    have hk := hk.trans kH2
    have hs := kH2.sl0 hs
    have c3 := kH2.cl c3 (by simp)
    have rs := kH2.rd rs (by simp)
    refine wN_mov (v := iv (i : Int)) rfl ?_
    refine wN_sta (b := L1.next) (o := 0) rfl rfl c2 (by omega) rfl rfl (by simp) ?_
    intro H3 kH3 nH3 sH3
    have mH3 := kH3.1
    have hk := hk.new kH3 (fun b hb => by simp at hb ⊢; omega)
    have hs := kH3.sl hs (fun b e => by have := fs b e; first | (simp; done) | (simp; omega))
    have c3 := kH3.cl c3 (by first | (simp; done) | (simp; omega))
    have rs := kH3.rd rs (by first | (simp; done) | (simp; omega))
    have c2 : Cl H3 L1.next [iv ((us.getD i Tn.z).un), iv ((us.getD i Tn.z).su), iv ((us.getD i Tn.z).ac), iv ((us.getD i Tn.z).co), iv ((us.getD i Tn.z).pr)] := sH3
    refine wN_end ?_
    first | refine wD_dreg ?_ | refine wB_dreg ?_ | refine wB_seq ?_ | (refine wOps_nil ?_; refine wD_dreg ?_)
    refine wD_mov (v := iv (sumB us b Tn.pr i)) rfl ?_
    refine wD_mov (v := iv (i : Int)) rfl ?_
    refine wD_idxa (b := H.next) (o := 0) (k := i) (j := (i : Int)) rfl rfl rfl (by omega) ?_
    refine wD_ld (b := H.next) (o := 0 + i * 1) (v := iv (b i)) rfl c3.rd (bc_at (by omega)) ?_
    refine wD_mov (v := .func (.func 77) #[] #[]) rfl ?_
    refine wD_lda (b := L1.next) (o := 0) rfl c2.rd (show row 5 _ _ = some [iv ((us.getD i Tn.z).un), iv ((us.getD i Tn.z).su), iv ((us.getD i Tn.z).ac), iv ((us.getD i Tn.z).co), iv ((us.getD i Tn.z).pr)] from rfl) ?_
    obtain ⟨H4, fH4, kH4⟩ := num77_ok (kn := kn) (lo := H3.next) (H := H3) (x := (us.getD i Tn.z)) (Nat.le_refl _)
    refine wD_callh (vs := [.agg (Tn.f (us.getD i Tn.z)).toArray]) rfl rfl (callX_func rfl (by simpa using fH4)) ?_
    have mH4 := kH4.1
    have hk := hk.trans kH4
    have hs := kH4.sl0 hs
    have c3 := kH4.cl c3 (by simp)
    have rs := kH4.rd rs (by simp)
    have c2 := kH4.cl c2 (by simp)
    refine wD_mul (a := (b i)) (b := (us.getD i Tn.z).pr) rfl rfl ⟨by omega, by omega⟩ ?_
    refine wD_add (a := (sumB us b Tn.pr i)) (b := (b i) * ((us.getD i Tn.z).pr)) rfl rfl ⟨by omega, by omega⟩ ?_
    refine wD_mov (v := iv ((sumB us b Tn.pr i) + ((b i) * ((us.getD i Tn.z).pr)))) rfl ?_
    refine wD_end (by repeat' first | exact True.intro | exact (fun h => h) | refine And.intro ?_ ?_ | (intro h; have h : (_ : Nat) = _ := h; omega)) ?_
    first | refine wN_reg ?_ | refine wN_blk ?_ | refine wN_bseq ?_ | (refine wOps_nil ?_; refine wN_reg ?_)
    refine wN_add (a := (i : Int)) (b := 1) rfl rfl ⟨by omega, by omega⟩ ?_
    refine wN_mov (v := iv ((i : Int) + 1)) rfl ?_
    refine wN_end ?_
    exact ⟨k - 1, i + 1, by omega, ⟨by omega, hk, by omega, hs, c3⟩, rfl, rfl, rfl, rfl, rfl, rfl, trivial⟩
  · have q1 : ¬ ((i : Int) < (n : Int)) := of_decide_eq_false q1
    first | (refine wN_exit ?_; show wC _ _ _ _ _ _ _ _ _) | skip
    refine wN_seq ?_
    refine wN_mov (v := iv (sumB us b Tn.pr i)) rfl ?_
    refine wN_mov (v := iv (sumB us b Tn.pr i)) rfl ?_
    refine wN_end ?_
    have e : i = n := by omega
    exact And.intro trivial (Exists.intro _ (And.intro rfl ⟨by rw [e]; rfl, hk⟩))
theorem sum108_ok {b : Bl} {sa : Option Addr} {n cap : Nat} {us : List Tn} (hs : Sl H sa n cap (tnc us)) (hl : us.length = n) (hb : ∀ i, 0 ≤ b i ∧ b i ≤ 12) (hok : us.all Tn.ok = true) (hn : n ≤ 5) (hlo : lo ≤ H.next) : ∃ H', FnX Try.prog kn lo 76 [.agg (bc b).toArray, .slice sa n cap, .func (.func 108) #[] #[]] H (iv (sumB us b Tn.su n)) H' ∧ Keep H H' [] := by
  have key := fnX_low (kn := kn) (lo := lo) (H := H) (args := [.agg (bc b).toArray, .slice sa n cap, .func (.func 108) #[] #[]]) (Q := fun w H' => w = iv (sumB us b Tn.su n) ∧ Keep H H' []) Try.func76 B76 N76 Z76 L76 (by simp) ?_
  · obtain ⟨w, H', h, rfl, q⟩ := key; exact ⟨H', h, q⟩
  have hk := Keep.refl H []
  have fs := hs.old
  refine wN_seq ?_
  refine wN_box (v := .agg (bc b).toArray) rfl ?_
  intro H1 kH1 nH1 c1
  have c1 : Cl H1 H.next [iv (b 0), iv (b 1), iv (b 2), iv (b 3), iv (b 4)] := c1
  have mH1 := kH1.1
  have hk := hk.trans kH1
  have hs := kH1.sl0 hs
  refine wN_mov (v := iv 0) rfl ?_
  refine wN_end ?_
  refine wN_seq ?_
  refine wN_mov (v := iv 0) rfl ?_
  refine wN_end ?_
  refine wN_seq ?_
  refine wN_mov (v := .slice sa n cap) rfl ?_
  refine wN_len (m := n) rfl ?_
  refine wN_mov (v := iv 0) rfl ?_
  refine wN_end ?_
  refine loop_low (fn := Try.f76) E76_1 N76 L76x1 (fun i : Nat => [(2, .func (.func 108) #[] #[]), (3, pt H.next), (7, iv (sumB us b Tn.su i)), (10, .slice sa n cap), (11, iv (n : Int)), (12, iv (i : Int))])
    (fun k i H' => i + k = n ∧ Keep H H' [] ∧ H1.next ≤ H'.next ∧ Sl H' sa n cap (tnc us) ∧ Cl H' H.next (bc b)) n 0 ⟨by omega, hk, Nat.le_refl _, hs, c1⟩ ⟨rfl, rfl, rfl, rfl, rfl, rfl, trivial⟩ ?_
  rintro k i L1 ⟨hik, hk, hnx, hs, c3⟩
  have mki := hk.1
  have fs := hs.old
  have hsi := sumB_in (f := Tn.su) (m := 10000) hb (by decide) (fun i hi => by have z := Tn.ok_t (tn_at hok hi); exact ⟨by omega, by omega⟩) i (by omega)
  refine wN_seq ?_
  refine wN_c_lss (a := (i : Int)) (b := (n : Int)) rfl rfl ?_
  refine wN_end ?_
  refine And.intro (fun q1 => ?_) (fun q1 => ?_)
  · have q1 : (i : Int) < (n : Int) := of_decide_eq_true q1
    have hi : i < n := by omega
    rcases id hs with ⟨_, h0, _⟩ | ⟨sb, es, rs, _⟩
    · omega
    have lsb := rs.lt
    have ht := Tn.ok_t (tn_at hok (show i < us.length by omega))
    have hbi := hb i
    have hp0 : 0 ≤ b i * (us.getD i Tn.z).su := Int.mul_nonneg hbi.1 (by omega)
    have hp1 : b i * (us.getD i Tn.z).su ≤ 12 * (us.getD i Tn.z).su := Int.mul_le_mul_of_nonneg_right hbi.2 (by omega)
    first | refine wN_skip ?_ | skip
    refine wN_seq ?_
    refine wN_mov (v := iv (i : Int)) rfl ?_
    refine wN_idx (b := sb) (o := 0) (k := i) (j := (i : Int)) (by rw [← es]; rfl) rfl rfl hi ?_
    refine wN_lda (b := sb) (o := 0 + i * 5) rfl rs (tnc_rowF (by omega)) ?_
    refine wN_alc ?_
    intro H2 kH2 nH2 c2
    have c2 : Cl H2 L1.next [iv 0, iv 0, iv 0, iv 0, iv 0] := c2
    have mH2 := kH2.1
    have hk := hk.trans kH2
    have hs := kH2.sl0 hs
    have c3 := kH2.cl c3 (by simp)
    have rs := kH2.rd rs (by simp)
    refine wN_mov (v := iv (i : Int)) rfl ?_
    refine wN_sta (b := L1.next) (o := 0) rfl rfl c2 (by omega) rfl rfl (by simp) ?_
    intro H3 kH3 nH3 sH3
    have mH3 := kH3.1
    have hk := hk.new kH3 (fun b hb => by simp at hb ⊢; omega)
    have hs := kH3.sl hs (fun b e => by have := fs b e; first | (simp; done) | (simp; omega))
    have c3 := kH3.cl c3 (by first | (simp; done) | (simp; omega))
    have rs := kH3.rd rs (by first | (simp; done) | (simp; omega))
    have c2 : Cl H3 L1.next [iv ((us.getD i Tn.z).un), iv ((us.getD i Tn.z).su), iv ((us.getD i Tn.z).ac), iv ((us.getD i Tn.z).co), iv ((us.getD i Tn.z).pr)] := sH3
    refine wN_end ?_
    first | refine wD_dreg ?_ | refine wB_dreg ?_ | refine wB_seq ?_ | (refine wOps_nil ?_; refine wD_dreg ?_)
    refine wD_mov (v := iv (sumB us b Tn.su i)) rfl ?_
    refine wD_mov (v := iv (i : Int)) rfl ?_
    refine wD_idxa (b := H.next) (o := 0) (k := i) (j := (i : Int)) rfl rfl rfl (by omega) ?_
    refine wD_ld (b := H.next) (o := 0 + i * 1) (v := iv (b i)) rfl c3.rd (bc_at (by omega)) ?_
    refine wD_mov (v := .func (.func 108) #[] #[]) rfl ?_
    refine wD_lda (b := L1.next) (o := 0) rfl c2.rd (show row 5 _ _ = some [iv ((us.getD i Tn.z).un), iv ((us.getD i Tn.z).su), iv ((us.getD i Tn.z).ac), iv ((us.getD i Tn.z).co), iv ((us.getD i Tn.z).pr)] from rfl) ?_
    obtain ⟨H4, fH4, kH4⟩ := num108_ok (kn := kn) (lo := H3.next) (H := H3) (x := (us.getD i Tn.z)) (Nat.le_refl _)
    refine wD_callh (vs := [.agg (Tn.f (us.getD i Tn.z)).toArray]) rfl rfl (callX_func rfl (by simpa using fH4)) ?_
    have mH4 := kH4.1
    have hk := hk.trans kH4
    have hs := kH4.sl0 hs
    have c3 := kH4.cl c3 (by simp)
    have rs := kH4.rd rs (by simp)
    have c2 := kH4.cl c2 (by simp)
    refine wD_mul (a := (b i)) (b := (us.getD i Tn.z).su) rfl rfl ⟨by omega, by omega⟩ ?_
    refine wD_add (a := (sumB us b Tn.su i)) (b := (b i) * ((us.getD i Tn.z).su)) rfl rfl ⟨by omega, by omega⟩ ?_
    refine wD_mov (v := iv ((sumB us b Tn.su i) + ((b i) * ((us.getD i Tn.z).su)))) rfl ?_
    refine wD_end (by repeat' first | exact True.intro | exact (fun h => h) | refine And.intro ?_ ?_ | (intro h; have h : (_ : Nat) = _ := h; omega)) ?_
    first | refine wN_reg ?_ | refine wN_blk ?_ | refine wN_bseq ?_ | (refine wOps_nil ?_; refine wN_reg ?_)
    refine wN_add (a := (i : Int)) (b := 1) rfl rfl ⟨by omega, by omega⟩ ?_
    refine wN_mov (v := iv ((i : Int) + 1)) rfl ?_
    refine wN_end ?_
    exact ⟨k - 1, i + 1, by omega, ⟨by omega, hk, by omega, hs, c3⟩, rfl, rfl, rfl, rfl, rfl, rfl, trivial⟩
  · have q1 : ¬ ((i : Int) < (n : Int)) := of_decide_eq_false q1
    first | (refine wN_exit ?_; show wC _ _ _ _ _ _ _ _ _) | skip
    refine wN_seq ?_
    refine wN_mov (v := iv (sumB us b Tn.su i)) rfl ?_
    refine wN_mov (v := iv (sumB us b Tn.su i)) rfl ?_
    refine wN_end ?_
    have e : i = n := by omega
    exact And.intro trivial (Exists.intro _ (And.intro rfl ⟨by rw [e]; rfl, hk⟩))
theorem sum109_ok {b : Bl} {sa : Option Addr} {n cap : Nat} {us : List Tn} (hs : Sl H sa n cap (tnc us)) (hl : us.length = n) (hb : ∀ i, 0 ≤ b i ∧ b i ≤ 12) (hok : us.all Tn.ok = true) (hn : n ≤ 5) (hlo : lo ≤ H.next) : ∃ H', FnX Try.prog kn lo 76 [.agg (bc b).toArray, .slice sa n cap, .func (.func 109) #[] #[]] H (iv (sumB us b Tn.ac n)) H' ∧ Keep H H' [] := by
  have key := fnX_low (kn := kn) (lo := lo) (H := H) (args := [.agg (bc b).toArray, .slice sa n cap, .func (.func 109) #[] #[]]) (Q := fun w H' => w = iv (sumB us b Tn.ac n) ∧ Keep H H' []) Try.func76 B76 N76 Z76 L76 (by simp) ?_
  · obtain ⟨w, H', h, rfl, q⟩ := key; exact ⟨H', h, q⟩
  have hk := Keep.refl H []
  have fs := hs.old
  refine wN_seq ?_
  refine wN_box (v := .agg (bc b).toArray) rfl ?_
  intro H1 kH1 nH1 c1
  have c1 : Cl H1 H.next [iv (b 0), iv (b 1), iv (b 2), iv (b 3), iv (b 4)] := c1
  have mH1 := kH1.1
  have hk := hk.trans kH1
  have hs := kH1.sl0 hs
  refine wN_mov (v := iv 0) rfl ?_
  refine wN_end ?_
  refine wN_seq ?_
  refine wN_mov (v := iv 0) rfl ?_
  refine wN_end ?_
  refine wN_seq ?_
  refine wN_mov (v := .slice sa n cap) rfl ?_
  refine wN_len (m := n) rfl ?_
  refine wN_mov (v := iv 0) rfl ?_
  refine wN_end ?_
  refine loop_low (fn := Try.f76) E76_1 N76 L76x1 (fun i : Nat => [(2, .func (.func 109) #[] #[]), (3, pt H.next), (7, iv (sumB us b Tn.ac i)), (10, .slice sa n cap), (11, iv (n : Int)), (12, iv (i : Int))])
    (fun k i H' => i + k = n ∧ Keep H H' [] ∧ H1.next ≤ H'.next ∧ Sl H' sa n cap (tnc us) ∧ Cl H' H.next (bc b)) n 0 ⟨by omega, hk, Nat.le_refl _, hs, c1⟩ ⟨rfl, rfl, rfl, rfl, rfl, rfl, trivial⟩ ?_
  rintro k i L1 ⟨hik, hk, hnx, hs, c3⟩
  have mki := hk.1
  have fs := hs.old
  have hsi := sumB_in (f := Tn.ac) (m := 10000) hb (by decide) (fun i hi => by have z := Tn.ok_t (tn_at hok hi); exact ⟨by omega, by omega⟩) i (by omega)
  refine wN_seq ?_
  refine wN_c_lss (a := (i : Int)) (b := (n : Int)) rfl rfl ?_
  refine wN_end ?_
  refine And.intro (fun q1 => ?_) (fun q1 => ?_)
  · have q1 : (i : Int) < (n : Int) := of_decide_eq_true q1
    have hi : i < n := by omega
    rcases id hs with ⟨_, h0, _⟩ | ⟨sb, es, rs, _⟩
    · omega
    have lsb := rs.lt
    have ht := Tn.ok_t (tn_at hok (show i < us.length by omega))
    have hbi := hb i
    have hp0 : 0 ≤ b i * (us.getD i Tn.z).ac := Int.mul_nonneg hbi.1 (by omega)
    have hp1 : b i * (us.getD i Tn.z).ac ≤ 12 * (us.getD i Tn.z).ac := Int.mul_le_mul_of_nonneg_right hbi.2 (by omega)
    first | refine wN_skip ?_ | skip
    refine wN_seq ?_
    refine wN_mov (v := iv (i : Int)) rfl ?_
    refine wN_idx (b := sb) (o := 0) (k := i) (j := (i : Int)) (by rw [← es]; rfl) rfl rfl hi ?_
    refine wN_lda (b := sb) (o := 0 + i * 5) rfl rs (tnc_rowF (by omega)) ?_
    refine wN_alc ?_
    intro H2 kH2 nH2 c2
    have c2 : Cl H2 L1.next [iv 0, iv 0, iv 0, iv 0, iv 0] := c2
    have mH2 := kH2.1
    have hk := hk.trans kH2
    have hs := kH2.sl0 hs
    have c3 := kH2.cl c3 (by simp)
    have rs := kH2.rd rs (by simp)
    refine wN_mov (v := iv (i : Int)) rfl ?_
    refine wN_sta (b := L1.next) (o := 0) rfl rfl c2 (by omega) rfl rfl (by simp) ?_
    intro H3 kH3 nH3 sH3
    have mH3 := kH3.1
    have hk := hk.new kH3 (fun b hb => by simp at hb ⊢; omega)
    have hs := kH3.sl hs (fun b e => by have := fs b e; first | (simp; done) | (simp; omega))
    have c3 := kH3.cl c3 (by first | (simp; done) | (simp; omega))
    have rs := kH3.rd rs (by first | (simp; done) | (simp; omega))
    have c2 : Cl H3 L1.next [iv ((us.getD i Tn.z).un), iv ((us.getD i Tn.z).su), iv ((us.getD i Tn.z).ac), iv ((us.getD i Tn.z).co), iv ((us.getD i Tn.z).pr)] := sH3
    refine wN_end ?_
    first | refine wD_dreg ?_ | refine wB_dreg ?_ | refine wB_seq ?_ | (refine wOps_nil ?_; refine wD_dreg ?_)
    refine wD_mov (v := iv (sumB us b Tn.ac i)) rfl ?_
    refine wD_mov (v := iv (i : Int)) rfl ?_
    refine wD_idxa (b := H.next) (o := 0) (k := i) (j := (i : Int)) rfl rfl rfl (by omega) ?_
    refine wD_ld (b := H.next) (o := 0 + i * 1) (v := iv (b i)) rfl c3.rd (bc_at (by omega)) ?_
    refine wD_mov (v := .func (.func 109) #[] #[]) rfl ?_
    refine wD_lda (b := L1.next) (o := 0) rfl c2.rd (show row 5 _ _ = some [iv ((us.getD i Tn.z).un), iv ((us.getD i Tn.z).su), iv ((us.getD i Tn.z).ac), iv ((us.getD i Tn.z).co), iv ((us.getD i Tn.z).pr)] from rfl) ?_
    obtain ⟨H4, fH4, kH4⟩ := num109_ok (kn := kn) (lo := H3.next) (H := H3) (x := (us.getD i Tn.z)) (Nat.le_refl _)
    refine wD_callh (vs := [.agg (Tn.f (us.getD i Tn.z)).toArray]) rfl rfl (callX_func rfl (by simpa using fH4)) ?_
    have mH4 := kH4.1
    have hk := hk.trans kH4
    have hs := kH4.sl0 hs
    have c3 := kH4.cl c3 (by simp)
    have rs := kH4.rd rs (by simp)
    have c2 := kH4.cl c2 (by simp)
    refine wD_mul (a := (b i)) (b := (us.getD i Tn.z).ac) rfl rfl ⟨by omega, by omega⟩ ?_
    refine wD_add (a := (sumB us b Tn.ac i)) (b := (b i) * ((us.getD i Tn.z).ac)) rfl rfl ⟨by omega, by omega⟩ ?_
    refine wD_mov (v := iv ((sumB us b Tn.ac i) + ((b i) * ((us.getD i Tn.z).ac)))) rfl ?_
    refine wD_end (by repeat' first | exact True.intro | exact (fun h => h) | refine And.intro ?_ ?_ | (intro h; have h : (_ : Nat) = _ := h; omega)) ?_
    first | refine wN_reg ?_ | refine wN_blk ?_ | refine wN_bseq ?_ | (refine wOps_nil ?_; refine wN_reg ?_)
    refine wN_add (a := (i : Int)) (b := 1) rfl rfl ⟨by omega, by omega⟩ ?_
    refine wN_mov (v := iv ((i : Int) + 1)) rfl ?_
    refine wN_end ?_
    exact ⟨k - 1, i + 1, by omega, ⟨by omega, hk, by omega, hs, c3⟩, rfl, rfl, rfl, rfl, rfl, rfl, trivial⟩
  · have q1 : ¬ ((i : Int) < (n : Int)) := of_decide_eq_false q1
    first | (refine wN_exit ?_; show wC _ _ _ _ _ _ _ _ _) | skip
    refine wN_seq ?_
    refine wN_mov (v := iv (sumB us b Tn.ac i)) rfl ?_
    refine wN_mov (v := iv (sumB us b Tn.ac i)) rfl ?_
    refine wN_end ?_
    have e : i = n := by omega
    exact And.intro trivial (Exists.intro _ (And.intro rfl ⟨by rw [e]; rfl, hk⟩))
theorem sum110_ok {b : Bl} {sa : Option Addr} {n cap : Nat} {us : List Tn} (hs : Sl H sa n cap (tnc us)) (hl : us.length = n) (hb : ∀ i, 0 ≤ b i ∧ b i ≤ 12) (hok : us.all Tn.ok = true) (hn : n ≤ 5) (hlo : lo ≤ H.next) : ∃ H', FnX Try.prog kn lo 76 [.agg (bc b).toArray, .slice sa n cap, .func (.func 110) #[] #[]] H (iv (sumB us b Tn.co n)) H' ∧ Keep H H' [] := by
  have key := fnX_low (kn := kn) (lo := lo) (H := H) (args := [.agg (bc b).toArray, .slice sa n cap, .func (.func 110) #[] #[]]) (Q := fun w H' => w = iv (sumB us b Tn.co n) ∧ Keep H H' []) Try.func76 B76 N76 Z76 L76 (by simp) ?_
  · obtain ⟨w, H', h, rfl, q⟩ := key; exact ⟨H', h, q⟩
  have hk := Keep.refl H []
  have fs := hs.old
  refine wN_seq ?_
  refine wN_box (v := .agg (bc b).toArray) rfl ?_
  intro H1 kH1 nH1 c1
  have c1 : Cl H1 H.next [iv (b 0), iv (b 1), iv (b 2), iv (b 3), iv (b 4)] := c1
  have mH1 := kH1.1
  have hk := hk.trans kH1
  have hs := kH1.sl0 hs
  refine wN_mov (v := iv 0) rfl ?_
  refine wN_end ?_
  refine wN_seq ?_
  refine wN_mov (v := iv 0) rfl ?_
  refine wN_end ?_
  refine wN_seq ?_
  refine wN_mov (v := .slice sa n cap) rfl ?_
  refine wN_len (m := n) rfl ?_
  refine wN_mov (v := iv 0) rfl ?_
  refine wN_end ?_
  refine loop_low (fn := Try.f76) E76_1 N76 L76x1 (fun i : Nat => [(2, .func (.func 110) #[] #[]), (3, pt H.next), (7, iv (sumB us b Tn.co i)), (10, .slice sa n cap), (11, iv (n : Int)), (12, iv (i : Int))])
    (fun k i H' => i + k = n ∧ Keep H H' [] ∧ H1.next ≤ H'.next ∧ Sl H' sa n cap (tnc us) ∧ Cl H' H.next (bc b)) n 0 ⟨by omega, hk, Nat.le_refl _, hs, c1⟩ ⟨rfl, rfl, rfl, rfl, rfl, rfl, trivial⟩ ?_
  rintro k i L1 ⟨hik, hk, hnx, hs, c3⟩
  have mki := hk.1
  have fs := hs.old
  have hsi := sumB_in (f := Tn.co) (m := 10000) hb (by decide) (fun i hi => by have z := Tn.ok_t (tn_at hok hi); exact ⟨by omega, by omega⟩) i (by omega)
  refine wN_seq ?_
  refine wN_c_lss (a := (i : Int)) (b := (n : Int)) rfl rfl ?_
  refine wN_end ?_
  refine And.intro (fun q1 => ?_) (fun q1 => ?_)
  · have q1 : (i : Int) < (n : Int) := of_decide_eq_true q1
    have hi : i < n := by omega
    rcases id hs with ⟨_, h0, _⟩ | ⟨sb, es, rs, _⟩
    · omega
    have lsb := rs.lt
    have ht := Tn.ok_t (tn_at hok (show i < us.length by omega))
    have hbi := hb i
    have hp0 : 0 ≤ b i * (us.getD i Tn.z).co := Int.mul_nonneg hbi.1 (by omega)
    have hp1 : b i * (us.getD i Tn.z).co ≤ 12 * (us.getD i Tn.z).co := Int.mul_le_mul_of_nonneg_right hbi.2 (by omega)
    first | refine wN_skip ?_ | skip
    refine wN_seq ?_
    refine wN_mov (v := iv (i : Int)) rfl ?_
    refine wN_idx (b := sb) (o := 0) (k := i) (j := (i : Int)) (by rw [← es]; rfl) rfl rfl hi ?_
    refine wN_lda (b := sb) (o := 0 + i * 5) rfl rs (tnc_rowF (by omega)) ?_
    refine wN_alc ?_
    intro H2 kH2 nH2 c2
    have c2 : Cl H2 L1.next [iv 0, iv 0, iv 0, iv 0, iv 0] := c2
    have mH2 := kH2.1
    have hk := hk.trans kH2
    have hs := kH2.sl0 hs
    have c3 := kH2.cl c3 (by simp)
    have rs := kH2.rd rs (by simp)
    refine wN_mov (v := iv (i : Int)) rfl ?_
    refine wN_sta (b := L1.next) (o := 0) rfl rfl c2 (by omega) rfl rfl (by simp) ?_
    intro H3 kH3 nH3 sH3
    have mH3 := kH3.1
    have hk := hk.new kH3 (fun b hb => by simp at hb ⊢; omega)
    have hs := kH3.sl hs (fun b e => by have := fs b e; first | (simp; done) | (simp; omega))
    have c3 := kH3.cl c3 (by first | (simp; done) | (simp; omega))
    have rs := kH3.rd rs (by first | (simp; done) | (simp; omega))
    have c2 : Cl H3 L1.next [iv ((us.getD i Tn.z).un), iv ((us.getD i Tn.z).su), iv ((us.getD i Tn.z).ac), iv ((us.getD i Tn.z).co), iv ((us.getD i Tn.z).pr)] := sH3
    refine wN_end ?_
    first | refine wD_dreg ?_ | refine wB_dreg ?_ | refine wB_seq ?_ | (refine wOps_nil ?_; refine wD_dreg ?_)
    refine wD_mov (v := iv (sumB us b Tn.co i)) rfl ?_
    refine wD_mov (v := iv (i : Int)) rfl ?_
    refine wD_idxa (b := H.next) (o := 0) (k := i) (j := (i : Int)) rfl rfl rfl (by omega) ?_
    refine wD_ld (b := H.next) (o := 0 + i * 1) (v := iv (b i)) rfl c3.rd (bc_at (by omega)) ?_
    refine wD_mov (v := .func (.func 110) #[] #[]) rfl ?_
    refine wD_lda (b := L1.next) (o := 0) rfl c2.rd (show row 5 _ _ = some [iv ((us.getD i Tn.z).un), iv ((us.getD i Tn.z).su), iv ((us.getD i Tn.z).ac), iv ((us.getD i Tn.z).co), iv ((us.getD i Tn.z).pr)] from rfl) ?_
    obtain ⟨H4, fH4, kH4⟩ := num110_ok (kn := kn) (lo := H3.next) (H := H3) (x := (us.getD i Tn.z)) (Nat.le_refl _)
    refine wD_callh (vs := [.agg (Tn.f (us.getD i Tn.z)).toArray]) rfl rfl (callX_func rfl (by simpa using fH4)) ?_
    have mH4 := kH4.1
    have hk := hk.trans kH4
    have hs := kH4.sl0 hs
    have c3 := kH4.cl c3 (by simp)
    have rs := kH4.rd rs (by simp)
    have c2 := kH4.cl c2 (by simp)
    refine wD_mul (a := (b i)) (b := (us.getD i Tn.z).co) rfl rfl ⟨by omega, by omega⟩ ?_
    refine wD_add (a := (sumB us b Tn.co i)) (b := (b i) * ((us.getD i Tn.z).co)) rfl rfl ⟨by omega, by omega⟩ ?_
    refine wD_mov (v := iv ((sumB us b Tn.co i) + ((b i) * ((us.getD i Tn.z).co)))) rfl ?_
    refine wD_end (by repeat' first | exact True.intro | exact (fun h => h) | refine And.intro ?_ ?_ | (intro h; have h : (_ : Nat) = _ := h; omega)) ?_
    first | refine wN_reg ?_ | refine wN_blk ?_ | refine wN_bseq ?_ | (refine wOps_nil ?_; refine wN_reg ?_)
    refine wN_add (a := (i : Int)) (b := 1) rfl rfl ⟨by omega, by omega⟩ ?_
    refine wN_mov (v := iv ((i : Int) + 1)) rfl ?_
    refine wN_end ?_
    exact ⟨k - 1, i + 1, by omega, ⟨by omega, hk, by omega, hs, c3⟩, rfl, rfl, rfl, rfl, rfl, rfl, trivial⟩
  · have q1 : ¬ ((i : Int) < (n : Int)) := of_decide_eq_false q1
    first | (refine wN_exit ?_; show wC _ _ _ _ _ _ _ _ _) | skip
    refine wN_seq ?_
    refine wN_mov (v := iv (sumB us b Tn.co i)) rfl ?_
    refine wN_mov (v := iv (sumB us b Tn.co i)) rfl ?_
    refine wN_end ?_
    have e : i = n := by omega
    exact And.intro trivial (Exists.intro _ (And.intro rfl ⟨by rw [e]; rfl, hk⟩))
/-- cost -/
theorem cost_ok {b : Bl} {sa : Option Addr} {n cap : Nat} {us : List Tn} (hs : Sl H sa n cap (tnc us)) (hl : us.length = n) (hb : ∀ i, 0 ≤ b i ∧ b i ≤ 12) (hok : us.all Tn.ok = true) (hn : n ≤ 5) (hlo : lo ≤ H.next) : ∃ H', FnX Try.prog kn lo 55 [.agg (bc b).toArray, .slice sa n cap] H (iv (cosB us b)) H' ∧ Keep H H' [] := by
  have key := fnX_low (kn := kn) (lo := lo) (H := H) (args := [.agg (bc b).toArray, .slice sa n cap]) (Q := fun w H' => w = iv (cosB us b) ∧ Keep H H' []) Try.func55 B55 N55 Z55 L55 (by simp) ?_
  · obtain ⟨w, H', h, rfl, q⟩ := key; exact ⟨H', h, q⟩
  have hk := Keep.refl H []
  have fs := hs.old
  refine wN_seq ?_
  refine wN_box (v := .agg (bc b).toArray) rfl ?_
  intro H1 kH1 nH1 c1
  have c1 : Cl H1 H.next [iv (b 0), iv (b 1), iv (b 2), iv (b 3), iv (b 4)] := c1
  have mH1 := kH1.1
  have hk := hk.trans kH1
  have hs := kH1.sl0 hs
  refine wN_mov (v := iv 0) rfl ?_
  refine wN_end ?_
  refine wN_seq ?_
  refine wN_lda (b := H.next) (o := 0) rfl c1.rd (show row 5 _ _ = some [iv (b 0), iv (b 1), iv (b 2), iv (b 3), iv (b 4)] from rfl) ?_
  refine wN_mov (v := .slice sa n cap) rfl ?_
  obtain ⟨H2, fH2, kH2⟩ := sum77_ok (kn := kn) (lo := lo) (H := H1) (b := b) hs hl hb hok hn (by omega)
  refine wN_callf (vs := [.agg (bc b).toArray, .slice sa n cap, .func (.func 77) #[] #[]]) rfl (callX_args fH2) ?_
  have mH2 := kH2.1
  have hk := hk.trans kH2
  have hs := kH2.sl0 hs
  have c1 := kH2.cl c1 (by simp)
  refine wN_mov (v := iv (sumB us b Tn.pr n)) rfl ?_
  refine wN_end ?_
  exact And.intro trivial (Exists.intro _ (And.intro rfl ⟨by unfold cosB; rw [hl]; rfl, hk⟩))
/-- isMixed -/
theorem mixed_ok {s u a c : Int} (hu : 0 ≤ u ∧ u ≤ 60) (ha : 0 ≤ a ∧ a ≤ 10000) (hc : 0 ≤ c ∧ c ≤ 10000) (hlo : lo ≤ H.next) : ∃ H', FnX Try.prog kn lo 111 [iv s, iv u, .agg #[iv a, iv c]] H (.bool (mixB s u a c)) H' ∧ Keep H H' [] := by
  have key := fnX_low (kn := kn) (lo := lo) (H := H) (args := [iv s, iv u, .agg #[iv a, iv c]]) (Q := fun w H' => w = .bool (mixB s u a c) ∧ Keep H H' []) Try.func111 B111 N111 Z111 L111 (by simp) ?_
  · obtain ⟨w, H', h, rfl, q⟩ := key; exact ⟨H', h, q⟩
  have hk := Keep.refl H []
  have p1 : 0 ≤ u * a := Int.mul_nonneg hu.1 ha.1
  have p2 : u * a ≤ 60 * a := Int.mul_le_mul_of_nonneg_right hu.2 ha.1
  have p3 : 0 ≤ u * c := Int.mul_nonneg hu.1 hc.1
  have p4 : u * c ≤ 60 * c := Int.mul_le_mul_of_nonneg_right hu.2 hc.1
  refine wN_seq ?_
  refine wN_box (v := .agg #[iv a, iv c]) rfl ?_
  intro H1 kH1 nH1 c1
  have c1 : Cl H1 H.next [iv a, iv c] := c1
  have mH1 := kH1.1
  have hk := hk.trans kH1
  refine wN_mov (v := .bool false) rfl ?_
  refine wN_end ?_
  refine wN_seq ?_
  refine wN_mov (v := iv u) rfl ?_
  refine wN_addo (b := H.next) (o := 0) rfl ?_
  refine wN_ld (b := H.next) (o := 0) (v := iv a) rfl c1.rd rfl ?_
  refine wN_mul (a := u) (b := a) rfl rfl ⟨by omega, by omega⟩ ?_
  refine wN_mov (v := iv s) rfl ?_
  refine wN_b_leq (a := u * a) (b := s) rfl rfl ?_
  intro t1 g1; cases t1
  · have g1 : ¬ ((u * a) ≤ s) := of_decide_eq_false g1
    refine wN_mov (v := .bool false) rfl ?_
    refine wN_gs rfl ?_
    refine wN_gs rfl ?_
    refine wN_gs rfl ?_
    refine wN_gs rfl ?_
    refine wN_gs rfl ?_
    refine wN_gs rfl ?_
    refine wN_pur (v := .bool false) rfl rfl ?_
    refine wN_mov (v := .bool false) rfl ?_
    refine wN_end ?_
    exact And.intro trivial (Exists.intro _ (And.intro rfl ⟨congrArg Value.bool (show false = mixB s u a c from (by symm; unfold mixB; first | (rw [decide_eq_true (by omega), decide_eq_true (by omega)]; rfl) | (rw [decide_eq_false (by omega)]; rfl) | (rw [decide_eq_true (by omega), decide_eq_false (by omega)]; rfl))), hk⟩))
  · have g1 : (u * a) ≤ s := of_decide_eq_true g1
    refine wN_mov (v := .bool true) rfl ?_
    refine wN_g rfl (wN_mov (v := iv s) rfl ?_)
    refine wN_g rfl (wN_mov (v := iv u) rfl ?_)
    refine wN_g rfl (wN_addo (b := H.next) (o := 0) rfl ?_)
    refine wN_g rfl (wN_ld (b := H.next) (o := 1) (v := iv c) rfl c1.rd rfl ?_)
    refine wN_g rfl (wN_mul (a := u) (b := c) rfl rfl ⟨by omega, by omega⟩ ?_)
    refine wN_g rfl (wN_b_leq (a := s) (b := u * c) rfl rfl ?_)
    intro t2 g2; cases t2
    · have g2 : ¬ (s ≤ (u * c)) := of_decide_eq_false g2
      refine wN_pur (v := .bool false) rfl rfl ?_
      refine wN_mov (v := .bool false) rfl ?_
      refine wN_end ?_
      exact And.intro trivial (Exists.intro _ (And.intro rfl ⟨congrArg Value.bool (show false = mixB s u a c from (by symm; unfold mixB; first | (rw [decide_eq_true (by omega), decide_eq_true (by omega)]; rfl) | (rw [decide_eq_false (by omega)]; rfl) | (rw [decide_eq_true (by omega), decide_eq_false (by omega)]; rfl))), hk⟩))
    · have g2 : s ≤ (u * c) := of_decide_eq_true g2
      refine wN_pur (v := .bool true) rfl rfl ?_
      refine wN_mov (v := .bool true) rfl ?_
      refine wN_end ?_
      exact And.intro trivial (Exists.intro _ (And.intro rfl ⟨congrArg Value.bool (show true = mixB s u a c from (by symm; unfold mixB; first | (rw [decide_eq_true (by omega), decide_eq_true (by omega)]; rfl) | (rw [decide_eq_false (by omega)]; rfl) | (rw [decide_eq_true (by omega), decide_eq_false (by omega)]; rfl))), hk⟩))
/-- isRight -/
theorem right_ok {b : Bl} {r : Rc} {sa : Option Addr} {n cap : Nat} {us : List Tn} (hs : Sl H sa n cap (tnc us)) (hl : us.length = n) (hb : ∀ i, 0 ≤ b i ∧ b i ≤ 12) (hok : us.all Tn.ok = true) (hn : n ≤ 5) (hr : r.ok = true) (hlo : lo ≤ H.next) : ∃ H', FnX Try.prog kn lo 103 [.agg (bc b).toArray, .slice sa n cap, .agg (Rc.f r).toArray] H (.bool (rigB us r b)) H' ∧ Keep H H' [] := by
  have key := fnX_low (kn := kn) (lo := lo) (H := H) (args := [.agg (bc b).toArray, .slice sa n cap, .agg (Rc.f r).toArray]) (Q := fun w H' => w = .bool (rigB us r b) ∧ Keep H H' []) Try.func103 B103 N103 Z103 L103 (by simp) ?_
  · obtain ⟨w, H', h, rfl, q⟩ := key; exact ⟨H', h, q⟩
  have hk := Keep.refl H []
  have fs := hs.old
  have hro := Rc.ok_t hr
  refine wN_seq ?_
  refine wN_box (v := .agg (bc b).toArray) rfl ?_
  intro H1 kH1 nH1 c1
  have c1 : Cl H1 H.next [iv (b 0), iv (b 1), iv (b 2), iv (b 3), iv (b 4)] := c1
  have mH1 := kH1.1
  have hk := hk.trans kH1
  have hs := kH1.sl0 hs
  refine wN_box (v := .agg (Rc.f r).toArray) rfl ?_
  intro H2 kH2 nH2 c2
  have c2 : Cl H2 H1.next [iv r.un, iv r.s1, iv r.s2, iv r.a1, iv r.a2, iv r.c1, iv r.c2] := c2
  have mH2 := kH2.1
  have hk := hk.trans kH2
  have hs := kH2.sl0 hs
  have c1 := kH2.cl c1 (by simp)
  refine wN_mov (v := .bool false) rfl ?_
  refine wN_end ?_
  refine wN_seq ?_
  refine wN_lda (b := H.next) (o := 0) rfl c1.rd (show row 5 _ _ = some [iv (b 0), iv (b 1), iv (b 2), iv (b 3), iv (b 4)] from rfl) ?_
  refine wN_mov (v := .slice sa n cap) rfl ?_
  obtain ⟨H3, fH3, kH3⟩ := sum108_ok (kn := kn) (lo := lo) (H := H2) (b := b) hs hl hb hok hn (by omega)
  refine wN_callf (vs := [.agg (bc b).toArray, .slice sa n cap, .func (.func 108) #[] #[]]) rfl (callX_args fH3) ?_
  have mH3 := kH3.1
  have hk := hk.trans kH3
  have hs := kH3.sl0 hs
  have c1 := kH3.cl c1 (by simp)
  have c2 := kH3.cl c2 (by simp)
  refine wN_mov (v := iv (sumB us b Tn.su n)) rfl ?_
  refine wN_end ?_
  refine wN_seq ?_
  refine wN_lda (b := H.next) (o := 0) rfl c1.rd (show row 5 _ _ = some [iv (b 0), iv (b 1), iv (b 2), iv (b 3), iv (b 4)] from rfl) ?_
  refine wN_mov (v := .slice sa n cap) rfl ?_
  obtain ⟨H4, fH4, kH4⟩ := sum109_ok (kn := kn) (lo := lo) (H := H3) (b := b) hs hl hb hok hn (by omega)
  refine wN_callf (vs := [.agg (bc b).toArray, .slice sa n cap, .func (.func 109) #[] #[]]) rfl (callX_args fH4) ?_
  have mH4 := kH4.1
  have hk := hk.trans kH4
  have hs := kH4.sl0 hs
  have c1 := kH4.cl c1 (by simp)
  have c2 := kH4.cl c2 (by simp)
  refine wN_mov (v := iv (sumB us b Tn.ac n)) rfl ?_
  refine wN_end ?_
  refine wN_seq ?_
  refine wN_lda (b := H.next) (o := 0) rfl c1.rd (show row 5 _ _ = some [iv (b 0), iv (b 1), iv (b 2), iv (b 3), iv (b 4)] from rfl) ?_
  refine wN_mov (v := .slice sa n cap) rfl ?_
  obtain ⟨H5, fH5, kH5⟩ := sum110_ok (kn := kn) (lo := lo) (H := H4) (b := b) hs hl hb hok hn (by omega)
  refine wN_callf (vs := [.agg (bc b).toArray, .slice sa n cap, .func (.func 110) #[] #[]]) rfl (callX_args fH5) ?_
  have mH5 := kH5.1
  have hk := hk.trans kH5
  have hs := kH5.sl0 hs
  have c1 := kH5.cl c1 (by simp)
  have c2 := kH5.cl c2 (by simp)
  refine wN_mov (v := iv (sumB us b Tn.co n)) rfl ?_
  refine wN_end ?_
  refine wN_seq ?_
  refine wN_mov (v := iv (sumB us b Tn.su n)) rfl ?_
  refine wN_addo (b := H1.next) (o := 0) rfl ?_
  refine wN_ld (b := H1.next) (o := 0) (v := iv r.un) rfl c2.rd rfl ?_
  refine wN_addo (b := H1.next) (o := 0) rfl ?_
  refine wN_lda (b := H1.next) (o := 1) rfl c2.rd (show row 2 _ _ = some [iv r.s1, iv r.s2] from rfl) ?_
  obtain ⟨H6, fH6, kH6⟩ := mixed_ok (kn := kn) (lo := lo) (H := H5) (s := sumB us b Tn.su n) (u := r.un) (a := r.s1) (c := r.s2) (by omega) (by omega) (by omega) (by omega)
  have mH6 := kH6.1
  have hk := hk.trans kH6
  have hs := kH6.sl0 hs
  have c1 := kH6.cl c1 (by simp)
  have c2 := kH6.cl c2 (by simp)
  cases hm24 : mixB (sumB us b Tn.su n) r.un r.s1 r.s2
  · rw [hm24] at fH6
    refine wN_callf (vs := [iv (sumB us b Tn.su n), iv r.un, .agg #[iv r.s1, iv r.s2]]) rfl (callX_args fH6) ?_
    refine wN_mov (v := .bool false) rfl ?_
    refine wN_gs rfl ?_
    refine wN_gs rfl ?_
    refine wN_gs rfl ?_
    refine wN_gs rfl ?_
    refine wN_gs rfl ?_
    refine wN_gs rfl ?_
    refine wN_pur (v := .bool false) rfl rfl ?_
    refine wN_mov (v := .bool false) rfl ?_
    refine wN_gs rfl ?_
    refine wN_gs rfl ?_
    refine wN_gs rfl ?_
    refine wN_gs rfl ?_
    refine wN_gs rfl ?_
    refine wN_gs rfl ?_
    refine wN_pur (v := .bool false) rfl rfl ?_
    refine wN_mov (v := .bool false) rfl ?_
    refine wN_end ?_
    exact And.intro trivial (Exists.intro _ (And.intro rfl ⟨congrArg Value.bool (show false = rigB us r b from (by symm; unfold rigB; rw [hl]; simp only [*]; try rfl)), hk⟩))
  · rw [hm24] at fH6
    refine wN_callf (vs := [iv (sumB us b Tn.su n), iv r.un, .agg #[iv r.s1, iv r.s2]]) rfl (callX_args fH6) ?_
    refine wN_mov (v := .bool true) rfl ?_
    refine wN_g rfl (wN_mov (v := iv (sumB us b Tn.ac n)) rfl ?_)
    refine wN_g rfl (wN_addo (b := H1.next) (o := 0) rfl ?_)
    refine wN_g rfl (wN_ld (b := H1.next) (o := 0) (v := iv r.un) rfl c2.rd rfl ?_)
    refine wN_g rfl (wN_addo (b := H1.next) (o := 0) rfl ?_)
    refine wN_g rfl (wN_lda (b := H1.next) (o := 3) rfl c2.rd (show row 2 _ _ = some [iv r.a1, iv r.a2] from rfl) ?_)
    obtain ⟨H7, fH7, kH7⟩ := mixed_ok (kn := kn) (lo := lo) (H := H6) (s := sumB us b Tn.ac n) (u := r.un) (a := r.a1) (c := r.a2) (by omega) (by omega) (by omega) (by omega)
    have mH7 := kH7.1
    have hk := hk.trans kH7
    have hs := kH7.sl0 hs
    have c1 := kH7.cl c1 (by simp)
    have c2 := kH7.cl c2 (by simp)
    cases hm31 : mixB (sumB us b Tn.ac n) r.un r.a1 r.a2
    · rw [hm31] at fH7
      refine wN_g rfl (wN_callf (vs := [iv (sumB us b Tn.ac n), iv r.un, .agg #[iv r.a1, iv r.a2]]) rfl (callX_args fH7) ?_)
      refine wN_pur (v := .bool false) rfl rfl ?_
      refine wN_mov (v := .bool false) rfl ?_
      refine wN_gs rfl ?_
      refine wN_gs rfl ?_
      refine wN_gs rfl ?_
      refine wN_gs rfl ?_
      refine wN_gs rfl ?_
      refine wN_gs rfl ?_
      refine wN_pur (v := .bool false) rfl rfl ?_
      refine wN_mov (v := .bool false) rfl ?_
      refine wN_end ?_
      exact And.intro trivial (Exists.intro _ (And.intro rfl ⟨congrArg Value.bool (show false = rigB us r b from (by symm; unfold rigB; rw [hl]; simp only [*]; try rfl)), hk⟩))
    · rw [hm31] at fH7
      refine wN_g rfl (wN_callf (vs := [iv (sumB us b Tn.ac n), iv r.un, .agg #[iv r.a1, iv r.a2]]) rfl (callX_args fH7) ?_)
      refine wN_pur (v := .bool true) rfl rfl ?_
      refine wN_mov (v := .bool true) rfl ?_
      refine wN_g rfl (wN_mov (v := iv (sumB us b Tn.co n)) rfl ?_)
      refine wN_g rfl (wN_addo (b := H1.next) (o := 0) rfl ?_)
      refine wN_g rfl (wN_ld (b := H1.next) (o := 0) (v := iv r.un) rfl c2.rd rfl ?_)
      refine wN_g rfl (wN_addo (b := H1.next) (o := 0) rfl ?_)
      refine wN_g rfl (wN_lda (b := H1.next) (o := 5) rfl c2.rd (show row 2 _ _ = some [iv r.c1, iv r.c2] from rfl) ?_)
      obtain ⟨H8, fH8, kH8⟩ := mixed_ok (kn := kn) (lo := lo) (H := H7) (s := sumB us b Tn.co n) (u := r.un) (a := r.c1) (c := r.c2) (by omega) (by omega) (by omega) (by omega)
      have mH8 := kH8.1
      have hk := hk.trans kH8
      have hs := kH8.sl0 hs
      have c1 := kH8.cl c1 (by simp)
      have c2 := kH8.cl c2 (by simp)
      cases hm39 : mixB (sumB us b Tn.co n) r.un r.c1 r.c2
      · rw [hm39] at fH8
        refine wN_g rfl (wN_callf (vs := [iv (sumB us b Tn.co n), iv r.un, .agg #[iv r.c1, iv r.c2]]) rfl (callX_args fH8) ?_)
        refine wN_pur (v := .bool false) rfl rfl ?_
        refine wN_mov (v := .bool false) rfl ?_
        refine wN_end ?_
        exact And.intro trivial (Exists.intro _ (And.intro rfl ⟨congrArg Value.bool (show false = rigB us r b from (by symm; unfold rigB; rw [hl]; simp only [*]; try rfl)), hk⟩))
      · rw [hm39] at fH8
        refine wN_g rfl (wN_callf (vs := [iv (sumB us b Tn.co n), iv r.un, .agg #[iv r.c1, iv r.c2]]) rfl (callX_args fH8) ?_)
        refine wN_pur (v := .bool true) rfl rfl ?_
        refine wN_mov (v := .bool true) rfl ?_
        refine wN_end ?_
        exact And.intro trivial (Exists.intro _ (And.intro rfl ⟨congrArg Value.bool (show true = rigB us r b from (by symm; unfold rigB; rw [hl]; simp only [*]; try rfl)), hk⟩))
/-- held -/
theorem held_ok {a : Option Addr} {m c : Nat} {us : List Tn} (hv : Vk H a us) (hl : us.length = m) (hm : m ≤ 5) (hu : ∀ i, i < us.length → 0 ≤ (us.getD i Tn.z).un ∧ (us.getD i Tn.z).un ≤ 12) (hlo : lo ≤ H.next) : ∃ H', FnX Try.prog kn lo 107 [.slice a m c] H (iv (hdN us m)) H' ∧ Keep H H' [] := by
  have key := fnX_low (kn := kn) (lo := lo) (H := H) (args := [.slice a m c]) (Q := fun w H' => w = iv (hdN us m) ∧ Keep H H' []) Try.func107 B107 N107 Z107 L107 (by simp) ?_
  · obtain ⟨w, H', h, rfl, q⟩ := key; exact ⟨H', h, q⟩
  have hk := Keep.refl H []
  have fv := hv.old
  refine wN_seq ?_
  refine wN_mov (v := iv 0) rfl ?_
  refine wN_end ?_
  refine wN_seq ?_
  refine wN_mov (v := iv 0) rfl ?_
  refine wN_end ?_
  refine wN_seq ?_
  refine wN_mov (v := .slice a m c) rfl ?_
  refine wN_len (m := m) rfl ?_
  refine wN_mov (v := iv 0) rfl ?_
  refine wN_end ?_
  refine loop_low (fn := Try.f107) E107_1 N107 L107x1 (fun i : Nat => [(3, iv (hdN us i)), (6, .slice a m c), (7, iv (m : Int)), (8, iv (i : Int))])
    (fun k i H' => i + k = m ∧ Keep H H' [] ∧ Vk H' a us) m 0 ⟨by omega, hk, hv⟩ ⟨rfl, rfl, rfl, rfl, trivial⟩ ?_
  rintro k i L1 ⟨hik, hk, hv⟩
  have mki := hk.1
  have hdi := hd_in hu i (by omega)
  have fv := hv.old
  refine wN_seq ?_
  refine wN_c_lss (a := (i : Int)) (b := (m : Int)) rfl rfl ?_
  refine wN_end ?_
  refine And.intro (fun q1 => ?_) (fun q1 => ?_)
  · have q1 : (i : Int) < (m : Int) := of_decide_eq_true q1
    have hi : i < m := by omega
    rcases id hv with e0 | ⟨sb, so, cs, es, rs, hrow⟩
    · rw [e0] at hl; simp at hl; omega
    have lsb := rs.lt
    have hui := hu i (by omega)
    first | refine wN_skip ?_ | skip
    refine wN_seq ?_
    refine wN_idx (b := sb) (o := so) (k := i) (j := (i : Int)) (by rw [← es]; rfl) rfl rfl hi ?_
    refine wN_lda (b := sb) (o := so + i * 5) rfl rs (hrow i (by omega)) ?_
    refine wN_alc ?_
    intro H1 kH1 nH1 c1
    have c1 : Cl H1 L1.next [iv 0, iv 0, iv 0, iv 0, iv 0] := c1
    have mH1 := kH1.1
    have hk := hk.trans kH1
    have hv := kH1.vk hv (fun _ _ => by simp)
    have rs := kH1.rd rs (by simp)
    refine wN_sta (b := L1.next) (o := 0) rfl rfl c1 (by omega) rfl rfl (by simp) ?_
    intro H2 kH2 nH2 sH2
    have mH2 := kH2.1
    have hk := hk.new kH2 (fun b hb => by simp at hb ⊢; omega)
    have hv := kH2.vk hv (fun x hx => by have := fv x hx; simp; omega)
    have rs := kH2.rd rs (by first | (simp; done) | (simp; omega))
    have c1 : Cl H2 L1.next [iv ((us.getD i Tn.z).un), iv ((us.getD i Tn.z).su), iv ((us.getD i Tn.z).ac), iv ((us.getD i Tn.z).co), iv ((us.getD i Tn.z).pr)] := sH2
    refine wN_end ?_
    first | refine wN_reg ?_ | refine wN_blk ?_ | refine wN_bseq ?_ | (refine wOps_nil ?_; refine wN_reg ?_)
    refine wN_mov (v := iv (hdN us i)) rfl ?_
    refine wN_addo (b := L1.next) (o := 0) rfl ?_
    refine wN_ld (b := L1.next) (o := 0) (v := iv ((us.getD i Tn.z).un)) rfl c1.rd rfl ?_
    refine wN_add (a := (hdN us i)) (b := (us.getD i Tn.z).un) rfl rfl ⟨by omega, by omega⟩ ?_
    refine wN_mov (v := iv ((hdN us i) + ((us.getD i Tn.z).un))) rfl ?_
    refine wN_end ?_
    first | refine wN_reg ?_ | refine wN_blk ?_ | refine wN_bseq ?_ | (refine wOps_nil ?_; refine wN_reg ?_)
    refine wN_add (a := (i : Int)) (b := 1) rfl rfl ⟨by omega, by omega⟩ ?_
    refine wN_mov (v := iv ((i : Int) + 1)) rfl ?_
    refine wN_end ?_
    exact ⟨k - 1, i + 1, by omega, ⟨by omega, hk, hv⟩, rfl, rfl, rfl, rfl, trivial⟩
  · have q1 : ¬ ((i : Int) < (m : Int)) := of_decide_eq_false q1
    refine wN_seq ?_
    refine wN_mov (v := iv (hdN us i)) rfl ?_
    refine wN_mov (v := iv (hdN us i)) rfl ?_
    refine wN_end ?_
    have e : i = m := by omega
    exact And.intro trivial (Exists.intro _ (And.intro rfl ⟨by rw [e]; rfl, hk⟩))
end
end Go.Ax


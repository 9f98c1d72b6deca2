import Derived.Test.YtkdgngdnmgelnaaMa
import Derived.Test.YtkdgngdnmgelnaaAxW9
import Derived.Test.YtkdgngdnmgelnaaChecked
set_option linter.all false
/-! What 'low' makes of functions of flood (written by program). -/
namespace Go.Ax
open Go Go.RowKit Go.Proofs
theorem N36 : Try.f36.ntmps = 12 := by kernel_rfl
theorem Z36 : Try.f36.results.toList = ((List.toArray [(.tmp 4)]) : Array ResultVar).toList := by kernel_rfl
theorem B36 : Try.f36.body = some (at_ Try.f36 []) := by kernel_rfl
noncomputable def R36 : RC := (.seq (.reg [⟨(some 4), none, (.mov (.const (.bool false)))⟩])
 (.seq (.reg [⟨(some 5), none, (.mov (.tmp 0))⟩, ⟨(some 6), none, (.cmpb .leq (.const (.int .i64 0)) (.tmp 5))⟩, ⟨(some 7), none, (.mov (.tmp 6))⟩, ⟨(some 8), (some (7, true)), (.mov (.tmp 0))⟩, ⟨(some 9), (some (7, true)), (.mov (.tmp 1))⟩, ⟨(some 10), (some (7, true)), (.cmpb .leq (.tmp 8) (.tmp 9))⟩, ⟨(some 11), none, (.pur ⟨(some 11), (.pick (.tmp 7) (.tmp 10) (.const (.bool false))), 4, "", (List.toArray []), none⟩)⟩, ⟨(some 4), none, (.mov (.tmp 11))⟩])
 .ret))
theorem L36 : low Try.prog Try.f36.ntmps (at_ Try.f36 []) = some R36 := by kernel_rfl
theorem N77 : Try.f77.ntmps = 21 := by kernel_rfl
theorem Z77 : Try.f77.results.toList = ((List.toArray [(.tmp 4)]) : Array ResultVar).toList := by kernel_rfl
theorem B77 : Try.f77.body = some (at_ Try.f77 []) := by kernel_rfl
noncomputable def R77 : RC := (.seq (.reg [⟨(some 2), none, (.box 30 (.tmp 0))⟩, ⟨(some 4), none, (.mov (.const (.bool false)))⟩])
 (.seq (.reg [⟨(some 5), none, (.addo (.tmp 2) 0)⟩, ⟨(some 6), none, (.ld (.tmp 5) 1)⟩, ⟨(some 7), none, (.cmpb .leq (.const (.int .i64 0)) (.tmp 6))⟩, ⟨(some 8), none, (.mov (.tmp 7))⟩, ⟨(some 9), (some (8, true)), (.addo (.tmp 2) 0)⟩, ⟨(some 10), (some (8, true)), (.ld (.tmp 9) 1)⟩, ⟨(some 11), (some (8, true)), (.addo (.tmp 2) 1)⟩, ⟨(some 12), (some (8, true)), (.ld (.tmp 11) 1)⟩, ⟨(some 13), (some (8, true)), (.cmpb .leq (.tmp 10) (.tmp 12))⟩, ⟨(some 14), none, (.pur ⟨(some 14), (.pick (.tmp 8) (.tmp 13) (.const (.bool false))), 4, "", (List.toArray []), none⟩)⟩, ⟨(some 15), none, (.mov (.tmp 14))⟩, ⟨(some 16), (some (15, true)), (.addo (.tmp 2) 1)⟩, ⟨(some 17), (some (15, true)), (.ld (.tmp 16) 1)⟩, ⟨(some 18), (some (15, true)), (.mov (.tmp 1))⟩, ⟨(some 19), (some (15, true)), (.cmpb .leq (.tmp 17) (.tmp 18))⟩, ⟨(some 20), none, (.pur ⟨(some 20), (.pick (.tmp 15) (.tmp 19) (.const (.bool false))), 4, "", (List.toArray []), none⟩)⟩, ⟨(some 4), none, (.mov (.tmp 20))⟩])
 .ret))
theorem L77 : low Try.prog Try.f77.ntmps (at_ Try.f77 []) = some R77 := by kernel_rfl
theorem N81 : Try.f81.ntmps = 6 := by kernel_rfl
theorem Z81 : Try.f81.results.toList = ((List.toArray [(.tmp 2)]) : Array ResultVar).toList := by kernel_rfl
theorem B81 : Try.f81.body = some (at_ Try.f81 []) := by kernel_rfl
noncomputable def R81 : RC := (.seq (.reg [⟨(some 2), none, (.mov (.const (.bool false)))⟩])
 (.seq (.reg [⟨(some 3), none, (.mov (.tmp 0))⟩, ⟨(some 4), none, (.call ⟨(.value (.func 36)), (List.toArray [(.tmp 3), (.const (.int .i64 1073741824))]), (List.toArray [3, 3])⟩ true)⟩, ⟨(some 5), none, (.pur ⟨(some 5), (.unOp .not 4 (.tmp 4)), 4, "", (List.toArray []), none⟩)⟩, ⟨(some 2), none, (.mov (.tmp 5))⟩])
 .ret))
theorem L81 : low Try.prog Try.f81.ntmps (at_ Try.f81 []) = some R81 := by kernel_rfl
theorem N68 : Try.f68.ntmps = 26 := by kernel_rfl
theorem Z68 : Try.f68.results.toList = ((List.toArray [(.tmp 2)]) : Array ResultVar).toList := by kernel_rfl
theorem B68 : Try.f68.body = some (at_ Try.f68 []) := by kernel_rfl
noncomputable def R68 : RC := (.seq (.reg [⟨(some 1), none, (.box 57 (.tmp 0))⟩, ⟨(some 2), none, (.mov (.const (.bool false)))⟩])
 (.seq (.seq (.reg [⟨(some 3), none, (.addo (.tmp 1) 0)⟩, ⟨(some 4), none, (.ld (.tmp 3) 1)⟩, ⟨(some 5), none, (.cmpb .lss (.tmp 4) (.const (.int .i64 1)))⟩, ⟨(some 6), none, (.mov (.tmp 5))⟩, ⟨(some 7), (some (6, false)), (.addo (.tmp 1) 0)⟩, ⟨(some 8), (some (6, false)), (.ld (.tmp 7) 1)⟩, ⟨(some 9), (some (6, false)), (.cmpb .gtr (.tmp 8) (.const (.int .i64 68719476736)))⟩, ⟨(some 10), none, (.pur ⟨(some 10), (.pick (.tmp 6) (.const (.bool true)) (.tmp 9)), 4, "", (List.toArray []), none⟩)⟩, ⟨(some 11), none, (.mov (.tmp 10))⟩, ⟨(some 12), (some (11, false)), (.addo (.tmp 1) 1)⟩, ⟨(some 13), (some (11, false)), (.lda (.tmp 12) 2)⟩, ⟨(some 14), (some (11, false)), (.call ⟨(.value (.func 77)), (List.toArray [(.tmp 13), (.const (.int .i64 1048576))]), (List.toArray [30, 3])⟩ true)⟩, ⟨(some 15), (some (11, false)), (.pur ⟨(some 15), (.unOp .not 4 (.tmp 14)), 4, "", (List.toArray []), none⟩)⟩, ⟨(some 16), none, (.pur ⟨(some 16), (.pick (.tmp 11) (.const (.bool true)) (.tmp 15)), 4, "", (List.toArray []), none⟩)⟩, ⟨(some 17), none, (.mov (.tmp 16))⟩, ⟨(some 18), (some (17, false)), (.addo (.tmp 1) 3)⟩, ⟨(some 19), (some (17, false)), (.ld (.tmp 18) 1)⟩, ⟨(some 20), (some (17, false)), (.len (.tmp 19))⟩, ⟨(some 21), (some (17, false)), (.cmpb .neq (.tmp 20) (.const (.int .i64 4)))⟩, ⟨(some 22), none, (.pur ⟨(some 22), (.pick (.tmp 17) (.const (.bool true)) (.tmp 21)), 4, "", (List.toArray []), none⟩)⟩])
 (.cond (.tmp 22) (.seq (.reg [⟨(some 2), none, (.mov (.const (.bool true)))⟩])
 .ret)
 .skip))
 (.seq (.reg [⟨(some 23), none, (.addo (.tmp 1) 3)⟩, ⟨(some 24), none, (.ld (.tmp 23) 1)⟩, ⟨(some 25), none, (.call ⟨(.value (.func 78)), (List.toArray [(.tmp 24), (.func 79)]), (List.toArray [55, 120])⟩ true)⟩, ⟨(some 2), none, (.mov (.tmp 25))⟩])
 .ret)))
theorem L68 : low Try.prog Try.f68.ntmps (at_ Try.f68 []) = some R68 := by kernel_rfl
theorem N67 : Try.f67.ntmps = 9 := by kernel_rfl
theorem Z67 : Try.f67.results.toList = ((List.toArray [(.tmp 4)]) : Array ResultVar).toList := by kernel_rfl
theorem B67 : Try.f67.body = some (at_ Try.f67 []) := by kernel_rfl
noncomputable def R67 : RC := (.seq (.reg [⟨(some 4), none, (.mov (.const (.bool false)))⟩])
 (.seq (.reg [⟨(some 5), none, (.mov (.tmp 0))⟩, ⟨(some 6), none, (.mov (.tmp 1))⟩, ⟨(some 7), none, (.call ⟨(.value (.func 76)), (List.toArray [(.tmp 5), (.tmp 6)]), (List.toArray [22, 110])⟩ true)⟩, ⟨(some 8), none, (.cmp .geq (.tmp 7) (.const (.int .i64 0)))⟩, ⟨(some 4), none, (.mov (.tmp 8))⟩])
 .ret))
theorem L67 : low Try.prog Try.f67.ntmps (at_ Try.f67 []) = some R67 := by kernel_rfl
theorem N76 : Try.f76.ntmps = 19 := by kernel_rfl
theorem Z76 : Try.f76.results.toList = ((List.toArray [(.tmp 4)]) : Array ResultVar).toList := by kernel_rfl
theorem B76 : Try.f76.body = some (at_ Try.f76 []) := by kernel_rfl
noncomputable def R76 : RC := (.seq (.reg [⟨(some 4), none, (.mov (.const (.int .i64 0)))⟩])
 (.seq (.seq (.reg [⟨(some 6), none, (.mov (.tmp 0))⟩, ⟨(some 7), none, (.len (.tmp 6))⟩, ⟨(some 8), none, (.mov (.const (.int .i64 0)))⟩])
 (.block 0 (.other (at_ Try.f76 [1, 0, 1, 0]))))
 (.seq (.reg [⟨(some 4), none, (.mov (.const (.int .i64 (-1))))⟩])
 .ret)))
theorem L76 : low Try.prog Try.f76.ntmps (at_ Try.f76 []) = some R76 := by kernel_rfl
theorem E76_1 : at_ Try.f76 [1, 0, 1, 0] = .loop (at_ Try.f76 [1, 0, 1, 0, 0]) := by kernel_rfl
noncomputable def R76x1 : RC := (.seq (.reg [⟨(some 9), none, (.cmp .lss (.tmp 8) (.tmp 7))⟩])
 (.seq (.cond (.tmp 9) .skip
 (.exit 0))
 (.seq (.block 1 (.seq (.reg [⟨(some 10), none, (.mov (.tmp 8))⟩, ⟨(some 5), none, (.mov (.tmp 10))⟩])
 (.seq (.reg [⟨(some 11), none, (.mov (.tmp 1))⟩, ⟨(some 12), none, (.mov (.tmp 0))⟩, ⟨(some 13), none, (.mov (.tmp 5))⟩, ⟨(some 14), none, (.idx (.tmp 12) (.tmp 13) 4)⟩, ⟨(some 15), none, (.lda (.tmp 14) 4)⟩, ⟨(some 16), none, (.call ⟨(.value (.tmp 11)), (List.toArray [(.tmp 15)]), (List.toArray [57])⟩ true)⟩])
 (.cond (.tmp 16) (.seq (.reg [⟨(some 17), none, (.mov (.tmp 5))⟩, ⟨(some 4), none, (.mov (.tmp 17))⟩])
 .ret)
 .skip))))
 (.reg [⟨(some 18), none, (.ari .add (.tmp 8) (.const (.int .i64 1)))⟩, ⟨(some 8), none, (.mov (.tmp 18))⟩]))))
theorem L76x1 : low Try.prog Try.f76.ntmps (at_ Try.f76 [1, 0, 1, 0, 0]) = some R76x1 := by kernel_rfl
theorem N78 : Try.f78.ntmps = 9 := by kernel_rfl
theorem Z78 : Try.f78.results.toList = ((List.toArray [(.tmp 4)]) : Array ResultVar).toList := by kernel_rfl
theorem B78 : Try.f78.body = some (at_ Try.f78 []) := by kernel_rfl
noncomputable def R78 : RC := (.seq (.reg [⟨(some 4), none, (.mov (.const (.bool false)))⟩])
 (.seq (.reg [⟨(some 5), none, (.mov (.tmp 0))⟩, ⟨(some 6), none, (.mov (.tmp 1))⟩, ⟨(some 7), none, (.call ⟨(.value (.func 87)), (List.toArray [(.tmp 5), (.tmp 6)]), (List.toArray [55, 120])⟩ true)⟩, ⟨(some 8), none, (.cmp .geq (.tmp 7) (.const (.int .i64 0)))⟩, ⟨(some 4), none, (.mov (.tmp 8))⟩])
 .ret))
theorem L78 : low Try.prog Try.f78.ntmps (at_ Try.f78 []) = some R78 := by kernel_rfl
theorem N79 : Try.f79.ntmps = 6 := by kernel_rfl
theorem Z79 : Try.f79.results.toList = ((List.toArray [(.tmp 2)]) : Array ResultVar).toList := by kernel_rfl
theorem B79 : Try.f79.body = some (at_ Try.f79 []) := by kernel_rfl
noncomputable def R79 : RC := (.seq (.reg [⟨(some 1), none, (.box 30 (.tmp 0))⟩, ⟨(some 2), none, (.mov (.const (.bool false)))⟩])
 (.seq (.reg [⟨(some 3), none, (.lda (.tmp 1) 2)⟩, ⟨(some 4), none, (.call ⟨(.value (.func 77)), (List.toArray [(.tmp 3), (.const (.int .i64 16384))]), (List.toArray [30, 3])⟩ true)⟩, ⟨(some 5), none, (.pur ⟨(some 5), (.unOp .not 4 (.tmp 4)), 4, "", (List.toArray []), none⟩)⟩, ⟨(some 2), none, (.mov (.tmp 5))⟩])
 .ret))
theorem L79 : low Try.prog Try.f79.ntmps (at_ Try.f79 []) = some R79 := by kernel_rfl
theorem N87 : Try.f87.ntmps = 19 := by kernel_rfl
theorem Z87 : Try.f87.results.toList = ((List.toArray [(.tmp 4)]) : Array ResultVar).toList := by kernel_rfl
theorem B87 : Try.f87.body = some (at_ Try.f87 []) := by kernel_rfl
noncomputable def R87 : RC := (.seq (.reg [⟨(some 4), none, (.mov (.const (.int .i64 0)))⟩])
 (.seq (.seq (.reg [⟨(some 6), none, (.mov (.tmp 0))⟩, ⟨(some 7), none, (.len (.tmp 6))⟩, ⟨(some 8), none, (.mov (.const (.int .i64 0)))⟩])
 (.block 0 (.other (at_ Try.f87 [1, 0, 1, 0]))))
 (.seq (.reg [⟨(some 4), none, (.mov (.const (.int .i64 (-1))))⟩])
 .ret)))
theorem L87 : low Try.prog Try.f87.ntmps (at_ Try.f87 []) = some R87 := by kernel_rfl
theorem E87_1 : at_ Try.f87 [1, 0, 1, 0] = .loop (at_ Try.f87 [1, 0, 1, 0, 0]) := by kernel_rfl
noncomputable def R87x1 : RC := (.seq (.reg [⟨(some 9), none, (.cmp .lss (.tmp 8) (.tmp 7))⟩])
 (.seq (.cond (.tmp 9) .skip
 (.exit 0))
 (.seq (.block 1 (.seq (.reg [⟨(some 10), none, (.mov (.tmp 8))⟩, ⟨(some 5), none, (.mov (.tmp 10))⟩])
 (.seq (.reg [⟨(some 11), none, (.mov (.tmp 1))⟩, ⟨(some 12), none, (.mov (.tmp 0))⟩, ⟨(some 13), none, (.mov (.tmp 5))⟩, ⟨(some 14), none, (.idx (.tmp 12) (.tmp 13) 2)⟩, ⟨(some 15), none, (.lda (.tmp 14) 2)⟩, ⟨(some 16), none, (.call ⟨(.value (.tmp 11)), (List.toArray [(.tmp 15)]), (List.toArray [30])⟩ true)⟩])
 (.cond (.tmp 16) (.seq (.reg [⟨(some 17), none, (.mov (.tmp 5))⟩, ⟨(some 4), none, (.mov (.tmp 17))⟩])
 .ret)
 .skip))))
 (.reg [⟨(some 18), none, (.ari .add (.tmp 8) (.const (.int .i64 1)))⟩, ⟨(some 8), none, (.mov (.tmp 18))⟩]))))
theorem L87x1 : low Try.prog Try.f87.ntmps (at_ Try.f87 [1, 0, 1, 0, 0]) = some R87x1 := by kernel_rfl
theorem N80 : Try.f80.ntmps = 9 := by kernel_rfl
theorem Z80 : Try.f80.results.toList = ((List.toArray [(.tmp 4)]) : Array ResultVar).toList := by kernel_rfl
theorem B80 : Try.f80.body = some (at_ Try.f80 []) := by kernel_rfl
noncomputable def R80 : RC := (.seq (.reg [⟨(some 4), none, (.mov (.const (.bool false)))⟩])
 (.seq (.reg [⟨(some 5), none, (.mov (.tmp 0))⟩, ⟨(some 6), none, (.mov (.tmp 1))⟩, ⟨(some 7), none, (.call ⟨(.value (.func 88)), (List.toArray [(.tmp 5), (.tmp 6)]), (List.toArray [26, 117])⟩ true)⟩, ⟨(some 8), none, (.cmp .geq (.tmp 7) (.const (.int .i64 0)))⟩, ⟨(some 4), none, (.mov (.tmp 8))⟩])
 .ret))
theorem L80 : low Try.prog Try.f80.ntmps (at_ Try.f80 []) = some R80 := by kernel_rfl
theorem N88 : Try.f88.ntmps = 19 := by kernel_rfl
theorem Z88 : Try.f88.results.toList = ((List.toArray [(.tmp 4)]) : Array ResultVar).toList := by kernel_rfl
theorem B88 : Try.f88.body = some (at_ Try.f88 []) := by kernel_rfl
noncomputable def R88 : RC := (.seq (.reg [⟨(some 4), none, (.mov (.const (.int .i64 0)))⟩])
 (.seq (.seq (.reg [⟨(some 6), none, (.mov (.tmp 0))⟩, ⟨(some 7), none, (.len (.tmp 6))⟩, ⟨(some 8), none, (.mov (.const (.int .i64 0)))⟩])
 (.block 0 (.other (at_ Try.f88 [1, 0, 1, 0]))))
 (.seq (.reg [⟨(some 4), none, (.mov (.const (.int .i64 (-1))))⟩])
 .ret)))
theorem L88 : low Try.prog Try.f88.ntmps (at_ Try.f88 []) = some R88 := by kernel_rfl
theorem E88_1 : at_ Try.f88 [1, 0, 1, 0] = .loop (at_ Try.f88 [1, 0, 1, 0, 0]) := by kernel_rfl
noncomputable def R88x1 : RC := (.seq (.reg [⟨(some 9), none, (.cmp .lss (.tmp 8) (.tmp 7))⟩])
 (.seq (.cond (.tmp 9) .skip
 (.exit 0))
 (.seq (.block 1 (.seq (.reg [⟨(some 10), none, (.mov (.tmp 8))⟩, ⟨(some 5), none, (.mov (.tmp 10))⟩])
 (.seq (.reg [⟨(some 11), none, (.mov (.tmp 1))⟩, ⟨(some 12), none, (.mov (.tmp 0))⟩, ⟨(some 13), none, (.mov (.tmp 5))⟩, ⟨(some 14), none, (.idx (.tmp 12) (.tmp 13) 1)⟩, ⟨(some 15), none, (.ld (.tmp 14) 1)⟩, ⟨(some 16), none, (.call ⟨(.value (.tmp 11)), (List.toArray [(.tmp 15)]), (List.toArray [3])⟩ true)⟩])
 (.cond (.tmp 16) (.seq (.reg [⟨(some 17), none, (.mov (.tmp 5))⟩, ⟨(some 4), none, (.mov (.tmp 17))⟩])
 .ret)
 .skip))))
 (.reg [⟨(some 18), none, (.ari .add (.tmp 8) (.const (.int .i64 1)))⟩, ⟨(some 8), none, (.mov (.tmp 18))⟩]))))
theorem L88x1 : low Try.prog Try.f88.ntmps (at_ Try.f88 [1, 0, 1, 0, 0]) = some R88x1 := by kernel_rfl
theorem N69 : Try.f69.ntmps = 26 := by kernel_rfl
theorem Z69 : Try.f69.results.toList = ((List.toArray [(.tmp 4)]) : Array ResultVar).toList := by kernel_rfl
theorem B69 : Try.f69.body = some (at_ Try.f69 []) := by kernel_rfl
noncomputable def R69 : RC := (.seq (.reg [⟨(some 4), none, (.mov (.const (.bool false)))⟩])
 (.seq (.seq (.reg [⟨(some 7), none, (.mov (.tmp 0))⟩, ⟨(some 8), none, (.len (.tmp 7))⟩, ⟨(some 9), none, (.mov (.tmp 1))⟩, ⟨(some 10), none, (.cmp .neq (.tmp 8) (.tmp 9))⟩])
 (.cond (.tmp 10) (.seq (.reg [⟨(some 4), none, (.mov (.const (.bool false)))⟩])
 .ret)
 .skip))
 (.seq (.seq (.reg [⟨(some 11), none, (.mov (.tmp 0))⟩, ⟨(some 12), none, (.len (.tmp 11))⟩, ⟨(some 13), none, (.mov (.const (.int .i64 0)))⟩])
 (.block 0 (.other (at_ Try.f69 [1, 1, 0, 1, 0]))))
 (.seq (.reg [⟨(some 4), none, (.mov (.const (.bool true)))⟩])
 .ret))))
theorem L69 : low Try.prog Try.f69.ntmps (at_ Try.f69 []) = some R69 := by kernel_rfl
theorem E69_1 : at_ Try.f69 [1, 1, 0, 1, 0] = .loop (at_ Try.f69 [1, 1, 0, 1, 0, 0]) := by kernel_rfl
noncomputable def R69x1 : RC := (.seq (.reg [⟨(some 14), none, (.cmp .lss (.tmp 13) (.tmp 12))⟩])
 (.seq (.cond (.tmp 14) .skip
 (.exit 0))
 (.seq (.block 1 (.seq (.reg [⟨(some 15), none, (.idx (.tmp 11) (.tmp 13) 1)⟩, ⟨(some 16), none, (.ld (.tmp 15) 1)⟩, ⟨(some 6), none, (.mov (.tmp 16))⟩])
 (.seq (.reg [⟨(some 17), none, (.mov (.tmp 6))⟩, ⟨(some 18), none, (.len (.tmp 17))⟩, ⟨(some 19), none, (.mov (.tmp 1))⟩, ⟨(some 20), none, (.cmpb .neq (.tmp 18) (.tmp 19))⟩, ⟨(some 21), none, (.mov (.tmp 20))⟩, ⟨(some 22), (some (21, false)), (.mov (.tmp 6))⟩, ⟨(some 23), (some (21, false)), (.call ⟨(.value (.func 80)), (List.toArray [(.tmp 22), (.func 81)]), (List.toArray [26, 117])⟩ true)⟩, ⟨(some 24), none, (.pur ⟨(some 24), (.pick (.tmp 21) (.const (.bool true)) (.tmp 23)), 4, "", (List.toArray []), none⟩)⟩])
 (.cond (.tmp 24) (.seq (.reg [⟨(some 4), none, (.mov (.const (.bool false)))⟩])
 .ret)
 .skip))))
 (.reg [⟨(some 25), none, (.ari .add (.tmp 13) (.const (.int .i64 1)))⟩, ⟨(some 13), none, (.mov (.tmp 25))⟩]))))
theorem L69x1 : low Try.prog Try.f69.ntmps (at_ Try.f69 [1, 1, 0, 1, 0, 0]) = some R69x1 := by kernel_rfl
theorem N50 : Try.f50.ntmps = 46 := by kernel_rfl
theorem Z50 : Try.f50.results.toList = ((List.toArray [(.tmp 2)]) : Array ResultVar).toList := by kernel_rfl
theorem B50 : Try.f50.body = some (at_ Try.f50 []) := by kernel_rfl
noncomputable def R50 : RC := (.seq (.reg [⟨(some 1), none, (.box 25 (.tmp 0))⟩, ⟨(some 2), none, (.mov (.const (.bool false)))⟩])
 (.seq (.reg [⟨(some 4), none, (.addo (.tmp 1) 0)⟩, ⟨(some 5), none, (.ld (.tmp 4) 1)⟩, ⟨(some 6), none, (.len (.tmp 5))⟩, ⟨(some 3), none, (.mov (.tmp 6))⟩])
 (.seq (.seq (.reg [⟨(some 7), none, (.mov (.tmp 3))⟩, ⟨(some 8), none, (.cmpb .lss (.tmp 7) (.const (.int .i64 1)))⟩, ⟨(some 9), none, (.mov (.tmp 8))⟩, ⟨(some 10), (some (9, false)), (.mov (.tmp 3))⟩, ⟨(some 11), (some (9, false)), (.cmpb .gtr (.tmp 10) (.const (.int .i64 7)))⟩, ⟨(some 12), none, (.pur ⟨(some 12), (.pick (.tmp 9) (.const (.bool true)) (.tmp 11)), 4, "", (List.toArray []), none⟩)⟩, ⟨(some 13), none, (.mov (.tmp 12))⟩, ⟨(some 14), (some (13, false)), (.addo (.tmp 1) 0)⟩, ⟨(some 15), (some (13, false)), (.ld (.tmp 14) 1)⟩, ⟨(some 16), (some (13, false)), (.call ⟨(.value (.func 67)), (List.toArray [(.tmp 15), (.func 68)]), (List.toArray [22, 110])⟩ true)⟩, ⟨(some 17), none, (.pur ⟨(some 17), (.pick (.tmp 13) (.const (.bool true)) (.tmp 16)), 4, "", (List.toArray []), none⟩)⟩])
 (.cond (.tmp 17) (.seq (.reg [⟨(some 2), none, (.mov (.const (.bool false)))⟩])
 .ret)
 .skip))
 (.seq (.seq (.reg [⟨(some 18), none, (.addo (.tmp 1) 4)⟩, ⟨(some 19), none, (.ld (.tmp 18) 1)⟩, ⟨(some 20), none, (.cmpb .lss (.tmp 19) (.const (.int .i64 1)))⟩, ⟨(some 21), none, (.mov (.tmp 20))⟩, ⟨(some 22), (some (21, false)), (.addo (.tmp 1) 4)⟩, ⟨(some 23), (some (21, false)), (.ld (.tmp 22) 1)⟩, ⟨(some 24), (some (21, false)), (.cmpb .geq (.tmp 23) (.const (.int .i64 16)))⟩, ⟨(some 25), none, (.pur ⟨(some 25), (.pick (.tmp 21) (.const (.bool true)) (.tmp 24)), 4, "", (List.toArray []), none⟩)⟩, ⟨(some 26), none, (.mov (.tmp 25))⟩, ⟨(some 27), (some (26, false)), (.addo (.tmp 1) 1)⟩, ⟨(some 28), (some (26, false)), (.ld (.tmp 27) 1)⟩, ⟨(some 29), (some (26, false)), (.mov (.tmp 3))⟩, ⟨(some 30), (some (26, false)), (.call ⟨(.value (.func 69)), (List.toArray [(.tmp 28), (.tmp 29)]), (List.toArray [23, 3])⟩ true)⟩, ⟨(some 31), (some (26, false)), (.pur ⟨(some 31), (.unOp .not 4 (.tmp 30)), 4, "", (List.toArray []), none⟩)⟩, ⟨(some 32), none, (.pur ⟨(some 32), (.pick (.tmp 26) (.const (.bool true)) (.tmp 31)), 4, "", (List.toArray []), none⟩)⟩])
 (.cond (.tmp 32) (.seq (.reg [⟨(some 2), none, (.mov (.const (.bool false)))⟩])
 .ret)
 .skip))
 (.seq (.reg [⟨(some 33), none, (.addo (.tmp 1) 2)⟩, ⟨(some 34), none, (.ld (.tmp 33) 1)⟩, ⟨(some 35), none, (.cmpb .geq (.tmp 34) (.const (.int .i64 1)))⟩, ⟨(some 36), none, (.mov (.tmp 35))⟩, ⟨(some 37), (some (36, true)), (.addo (.tmp 1) 2)⟩, ⟨(some 38), (some (36, true)), (.ld (.tmp 37) 1)⟩, ⟨(some 39), (some (36, true)), (.cmpb .leq (.tmp 38) (.const (.int .i64 1073741824)))⟩, ⟨(some 40), none, (.pur ⟨(some 40), (.pick (.tmp 36) (.tmp 39) (.const (.bool false))), 4, "", (List.toArray []), none⟩)⟩, ⟨(some 41), none, (.mov (.tmp 40))⟩, ⟨(some 42), (some (41, true)), (.addo (.tmp 1) 3)⟩, ⟨(some 43), (some (41, true)), (.ld (.tmp 42) 1)⟩, ⟨(some 44), (some (41, true)), (.call ⟨(.value (.func 36)), (List.toArray [(.tmp 43), (.const (.int .i64 1099511627776))]), (List.toArray [3, 3])⟩ true)⟩, ⟨(some 45), none, (.pur ⟨(some 45), (.pick (.tmp 41) (.tmp 44) (.const (.bool false))), 4, "", (List.toArray []), none⟩)⟩, ⟨(some 2), none, (.mov (.tmp 45))⟩])
 .ret)))))
theorem L50 : low Try.prog Try.f50.ntmps (at_ Try.f50 []) = some R50 := by kernel_rfl
theorem N35 : Try.f35.ntmps = 31 := by kernel_rfl
theorem Z35 : Try.f35.results.toList = ((List.toArray [(.cell 2 71), (.tmp 3)]) : Array ResultVar).toList := by kernel_rfl
theorem B35 : Try.f35.body = some (at_ Try.f35 []) := by kernel_rfl
noncomputable def R35 : RC := (.seq (.reg [⟨(some 1), none, (.box 25 (.tmp 0))⟩, ⟨(some 2), none, (.alc 71 [(.slice none 0 0), (.slice none 0 0), (.int .i64 0), (.int .i64 0), (.int .i64 0), (.slice none 0 0)])⟩, ⟨(some 3), none, (.mov (.const (.int .i64 0)))⟩])
 (.seq (.seq (.reg [⟨(some 7), none, (.lda (.tmp 1) 5)⟩, ⟨(some 8), none, (.call ⟨(.value (.func 50)), (List.toArray [(.tmp 7)]), (List.toArray [25])⟩ true)⟩, ⟨(some 9), none, (.pur ⟨(some 9), (.unOp .not 4 (.tmp 8)), 4, "", (List.toArray []), none⟩)⟩])
 (.cond (.tmp 9) (.seq (.reg [⟨(some 10), none, (.pur ⟨(some 10), (.build 71 (List.toArray [])), 71, "", (List.toArray []), none⟩)⟩, ⟨none, none, (.sta (.tmp 2) (.tmp 10) 6)⟩, ⟨(some 3), none, (.mov (.const (.int .i64 1)))⟩])
 .ret)
 .skip))
 (.seq (.reg [⟨(some 11), none, (.lda (.tmp 1) 5)⟩, ⟨(some 12), none, (.pur ⟨(some 12), (.build 71 (List.toArray [(0, (.tmp 11))])), 71, "", (List.toArray []), none⟩)⟩, ⟨(some 4), none, (.alc 71 [(.slice none 0 0), (.slice none 0 0), (.int .i64 0), (.int .i64 0), (.int .i64 0), (.slice none 0 0)])⟩, ⟨none, none, (.sta (.tmp 4) (.tmp 12) 6)⟩])
 (.seq (.seq (.reg [⟨(some 13), none, (.addo (.tmp 4) 0)⟩, ⟨(some 14), none, (.addo (.tmp 13) 0)⟩, ⟨(some 15), none, (.ld (.tmp 14) 1)⟩, ⟨(some 16), none, (.len (.tmp 15))⟩, ⟨(some 17), none, (.mov (.const (.int .i64 0)))⟩])
 (.block 0 (.other (at_ Try.f35 [1, 1, 1, 0, 1, 0]))))
 (.seq (.reg [⟨(some 30), none, (.lda (.tmp 4) 6)⟩, ⟨none, none, (.sta (.tmp 2) (.tmp 30) 6)⟩, ⟨(some 3), none, (.mov (.const (.int .i64 0)))⟩])
 .ret)))))
theorem L35 : low Try.prog Try.f35.ntmps (at_ Try.f35 []) = some R35 := by kernel_rfl
theorem E35_1 : at_ Try.f35 [1, 1, 1, 0, 1, 0] = .loop (at_ Try.f35 [1, 1, 1, 0, 1, 0, 0]) := by kernel_rfl
noncomputable def R35x1 : RC := (.seq (.reg [⟨(some 18), none, (.cmp .lss (.tmp 17) (.tmp 16))⟩])
 (.seq (.cond (.tmp 18) .skip
 (.exit 0))
 (.seq (.block 1 (.seq (.reg [⟨(some 19), none, (.idx (.tmp 15) (.tmp 17) 4)⟩, ⟨(some 20), none, (.lda (.tmp 19) 4)⟩, ⟨(some 6), none, (.alc 57 [(.int .i64 0), (.int .i64 0), (.int .i64 0), (.slice none 0 0)])⟩, ⟨none, none, (.sta (.tmp 6) (.tmp 20) 4)⟩])
 (.dreg [⟨(some 21), none, (.addo (.tmp 4) 5)⟩, ⟨(some 22), none, (.ld (.tmp 21) 1)⟩, ⟨(some 23), none, (.lda (.tmp 4) 6)⟩, ⟨(some 24), none, (.lda (.tmp 6) 4)⟩, ⟨(some 25), none, (.call ⟨(.value (.func 51)), (List.toArray [(.tmp 23), (.tmp 24)]), (List.toArray [71, 57])⟩ false)⟩, ⟨(some 26), none, (.mem ⟨(some 26), (.buildSlice 55 1 (List.toArray [(0, (.tmp 25))])), 55, "", (List.toArray []), none⟩)⟩, ⟨(some 27), none, (.mem ⟨(some 27), (.call ⟨(.builtin .append), (List.toArray [(.tmp 22), (.tmp 26)]), (List.toArray [55, 55])⟩), 55, "", (List.toArray []), none⟩)⟩, ⟨(some 28), none, (.addo (.tmp 4) 5)⟩, ⟨none, none, (.st (.tmp 28) (.tmp 27))⟩] [255, 127, 63, 28, 12, 0, 0, 1, 0])))
 (.reg [⟨(some 29), none, (.ari .add (.tmp 17) (.const (.int .i64 1)))⟩, ⟨(some 17), none, (.mov (.tmp 29))⟩]))))
theorem L35x1 : low Try.prog Try.f35.ntmps (at_ Try.f35 [1, 1, 1, 0, 1, 0, 0]) = some R35x1 := by kernel_rfl
theorem N51 : Try.f51.ntmps = 38 := by kernel_rfl
theorem Z51 : Try.f51.results.toList = ((List.toArray [(.cell 4 30)]) : Array ResultVar).toList := by kernel_rfl
theorem B51 : Try.f51.body = some (at_ Try.f51 []) := by kernel_rfl
noncomputable def R51 : RC := (.seq (.reg [⟨(some 2), none, (.box 71 (.tmp 0))⟩, ⟨(some 3), none, (.box 57 (.tmp 1))⟩, ⟨(some 4), none, (.alc 30 [(.int .i64 0), (.int .i64 0)])⟩])
 (.seq (.reg [⟨(some 8), none, (.pur ⟨(some 8), (.build 30 (List.toArray [(0, (.const (.int .i64 16384)))])), 30, "", (List.toArray []), none⟩)⟩, ⟨(some 5), none, (.alc 30 [(.int .i64 0), (.int .i64 0)])⟩, ⟨none, none, (.sta (.tmp 5) (.tmp 8) 2)⟩])
 (.seq (.seq (.reg [⟨(some 9), none, (.addo (.tmp 3) 3)⟩, ⟨(some 10), none, (.ld (.tmp 9) 1)⟩, ⟨(some 11), none, (.len (.tmp 10))⟩, ⟨(some 12), none, (.mov (.const (.int .i64 0)))⟩])
 (.block 0 (.other (at_ Try.f51 [1, 1, 0, 1, 0]))))
 (.seq (.reg [⟨(some 37), none, (.lda (.tmp 5) 2)⟩, ⟨none, none, (.sta (.tmp 4) (.tmp 37) 2)⟩])
 .ret))))
theorem L51 : low Try.prog Try.f51.ntmps (at_ Try.f51 []) = some R51 := by kernel_rfl
theorem E51_1 : at_ Try.f51 [1, 1, 0, 1, 0] = .loop (at_ Try.f51 [1, 1, 0, 1, 0, 0]) := by kernel_rfl
noncomputable def R51x1 : RC := (.seq (.reg [⟨(some 13), none, (.cmp .lss (.tmp 12) (.tmp 11))⟩])
 (.seq (.cond (.tmp 13) .skip
 (.exit 0))
 (.seq (.block 1 (.seq (.reg [⟨(some 14), none, (.mov (.tmp 12))⟩, ⟨(some 15), none, (.idx (.tmp 10) (.tmp 12) 2)⟩, ⟨(some 16), none, (.lda (.tmp 15) 2)⟩, ⟨(some 7), none, (.alc 30 [(.int .i64 0), (.int .i64 0)])⟩, ⟨(some 6), none, (.mov (.tmp 14))⟩, ⟨none, none, (.sta (.tmp 7) (.tmp 16) 2)⟩])
 (.seq (.reg [⟨(some 17), none, (.addo (.tmp 2) 0)⟩, ⟨(some 18), none, (.addo (.tmp 17) 4)⟩, ⟨(some 19), none, (.ld (.tmp 18) 1)⟩, ⟨(some 20), none, (.mov (.tmp 6))⟩, ⟨(some 21), none, (.pur ⟨(some 21), (.binOp .shr 3 (.tmp 19) (.tmp 20) 3), 3, "", (List.toArray []), none⟩)⟩, ⟨(some 22), none, (.pur ⟨(some 22), (.binOp .and 3 (.tmp 21) (.const (.int .i64 1)) 3), 3, "", (List.toArray []), none⟩)⟩, ⟨(some 23), none, (.cmp .eql (.tmp 22) (.const (.int .i64 1)))⟩])
 (.cond (.tmp 23) (.dreg [⟨(some 24), none, (.addo (.tmp 5) 0)⟩, ⟨(some 25), none, (.ld (.tmp 24) 1)⟩, ⟨(some 26), none, (.addo (.tmp 7) 0)⟩, ⟨(some 27), none, (.ld (.tmp 26) 1)⟩, ⟨(some 28), none, (.mm true (.tmp 25) (.tmp 27))⟩, ⟨(some 29), none, (.addo (.tmp 5) 1)⟩, ⟨(some 30), none, (.ld (.tmp 29) 1)⟩, ⟨(some 31), none, (.addo (.tmp 7) 1)⟩, ⟨(some 32), none, (.ld (.tmp 31) 1)⟩, ⟨(some 33), none, (.mm false (.tmp 30) (.tmp 32))⟩, ⟨(some 34), none, (.addo (.tmp 5) 0)⟩, ⟨none, none, (.st (.tmp 34) (.tmp 28))⟩, ⟨(some 35), none, (.addo (.tmp 5) 1)⟩, ⟨none, none, (.st (.tmp 35) (.tmp 33))⟩] [8191, 4095, 1151, 127, 480, 128, 0, 32, 0, 15, 4, 0, 1, 0])
 .skip))))
 (.reg [⟨(some 36), none, (.ari .add (.tmp 12) (.const (.int .i64 1)))⟩, ⟨(some 12), none, (.mov (.tmp 36))⟩]))))
theorem L51x1 : low Try.prog Try.f51.ntmps (at_ Try.f51 [1, 1, 0, 1, 0, 0]) = some R51x1 := by kernel_rfl
theorem N37 : Try.f37.ntmps = 15 := by kernel_rfl
theorem Z37 : Try.f37.results.toList = ((List.toArray [(.tmp 6)]) : Array ResultVar).toList := by kernel_rfl
theorem B37 : Try.f37.body = some (at_ Try.f37 []) := by kernel_rfl
noncomputable def R37 : RC := (.seq (.reg [⟨(some 6), none, (.mov (.const (.bool false)))⟩])
 (.seq (.reg [⟨(some 7), none, (.mov (.tmp 1))⟩, ⟨(some 8), none, (.mov (.tmp 0))⟩, ⟨(some 9), none, (.cmpb .leq (.tmp 7) (.tmp 8))⟩, ⟨(some 10), none, (.mov (.tmp 9))⟩, ⟨(some 11), (some (10, true)), (.mov (.tmp 0))⟩, ⟨(some 12), (some (10, true)), (.mov (.tmp 2))⟩, ⟨(some 13), (some (10, true)), (.cmpb .leq (.tmp 11) (.tmp 12))⟩, ⟨(some 14), none, (.pur ⟨(some 14), (.pick (.tmp 10) (.tmp 13) (.const (.bool false))), 4, "", (List.toArray []), none⟩)⟩, ⟨(some 6), none, (.mov (.tmp 14))⟩])
 .ret))
theorem L37 : low Try.prog Try.f37.ntmps (at_ Try.f37 []) = some R37 := by kernel_rfl
theorem N49 : Try.f49.ntmps = 24 := by kernel_rfl
theorem Z49 : Try.f49.results.toList = ((List.toArray [(.tmp 6)]) : Array ResultVar).toList := by kernel_rfl
theorem B49 : Try.f49.body = some (at_ Try.f49 []) := by kernel_rfl
noncomputable def R49 : RC := (.seq (.reg [⟨(some 3), none, (.box 30 (.tmp 0))⟩, ⟨(some 6), none, (.mov (.const (.bool false)))⟩])
 (.seq (.reg [⟨(some 7), none, (.mov (.tmp 1))⟩, ⟨(some 8), none, (.addo (.tmp 3) 0)⟩, ⟨(some 9), none, (.ld (.tmp 8) 1)⟩, ⟨(some 10), none, (.cmpb .leq (.tmp 7) (.tmp 9))⟩, ⟨(some 11), none, (.mov (.tmp 10))⟩, ⟨(some 12), (some (11, true)), (.addo (.tmp 3) 0)⟩, ⟨(some 13), (some (11, true)), (.ld (.tmp 12) 1)⟩, ⟨(some 14), (some (11, true)), (.addo (.tmp 3) 1)⟩, ⟨(some 15), (some (11, true)), (.ld (.tmp 14) 1)⟩, ⟨(some 16), (some (11, true)), (.cmpb .leq (.tmp 13) (.tmp 15))⟩, ⟨(some 17), none, (.pur ⟨(some 17), (.pick (.tmp 11) (.tmp 16) (.const (.bool false))), 4, "", (List.toArray []), none⟩)⟩, ⟨(some 18), none, (.mov (.tmp 17))⟩, ⟨(some 19), (some (18, true)), (.addo (.tmp 3) 1)⟩, ⟨(some 20), (some (18, true)), (.ld (.tmp 19) 1)⟩, ⟨(some 21), (some (18, true)), (.mov (.tmp 2))⟩, ⟨(some 22), (some (18, true)), (.cmpb .leq (.tmp 20) (.tmp 21))⟩, ⟨(some 23), none, (.pur ⟨(some 23), (.pick (.tmp 18) (.tmp 22) (.const (.bool false))), 4, "", (List.toArray []), none⟩)⟩, ⟨(some 6), none, (.mov (.tmp 23))⟩])
 .ret))
theorem L49 : low Try.prog Try.f49.ntmps (at_ Try.f49 []) = some R49 := by kernel_rfl
theorem N28 : Try.f28.ntmps = 101 := by kernel_rfl
theorem Z28 : Try.f28.results.toList = ((List.toArray [(.tmp 2)]) : Array ResultVar).toList := by kernel_rfl
theorem B28 : Try.f28.body = some (at_ Try.f28 []) := by kernel_rfl
noncomputable def R28 : RC := (.seq (.reg [⟨(some 1), none, (.box 25 (.tmp 0))⟩, ⟨(some 2), none, (.mov (.const (.bool false)))⟩])
 (.seq (.reg [⟨(some 8), none, (.addo (.tmp 1) 0)⟩, ⟨(some 9), none, (.ld (.tmp 8) 1)⟩, ⟨(some 10), none, (.len (.tmp 9))⟩, ⟨(some 3), none, (.mov (.tmp 10))⟩])
 (.seq (.seq (.reg [⟨(some 11), none, (.mov (.tmp 3))⟩, ⟨(some 12), none, (.call ⟨(.value (.func 37)), (List.toArray [(.tmp 11), (.const (.int .i64 1)), (.const (.int .i64 7))]), (List.toArray [3, 3, 3])⟩ true)⟩, ⟨(some 13), none, (.pur ⟨(some 13), (.unOp .not 4 (.tmp 12)), 4, "", (List.toArray []), none⟩)⟩, ⟨(some 14), none, (.mov (.tmp 13))⟩, ⟨(some 15), (some (14, false)), (.addo (.tmp 1) 4)⟩, ⟨(some 16), (some (14, false)), (.ld (.tmp 15) 1)⟩, ⟨(some 17), (some (14, false)), (.call ⟨(.value (.func 37)), (List.toArray [(.tmp 16), (.const (.int .i64 1)), (.const (.int .i64 15))]), (List.toArray [3, 3, 3])⟩ true)⟩, ⟨(some 18), (some (14, false)), (.pur ⟨(some 18), (.unOp .not 4 (.tmp 17)), 4, "", (List.toArray []), none⟩)⟩, ⟨(some 19), none, (.pur ⟨(some 19), (.pick (.tmp 14) (.const (.bool true)) (.tmp 18)), 4, "", (List.toArray []), none⟩)⟩, ⟨(some 20), none, (.mov (.tmp 19))⟩, ⟨(some 21), (some (20, false)), (.addo (.tmp 1) 1)⟩, ⟨(some 22), (some (20, false)), (.ld (.tmp 21) 1)⟩, ⟨(some 23), (some (20, false)), (.len (.tmp 22))⟩, ⟨(some 24), (some (20, false)), (.mov (.tmp 3))⟩, ⟨(some 25), (some (20, false)), (.cmpb .neq (.tmp 23) (.tmp 24))⟩, ⟨(some 26), none, (.pur ⟨(some 26), (.pick (.tmp 20) (.const (.bool true)) (.tmp 25)), 4, "", (List.toArray []), none⟩)⟩, ⟨(some 27), none, (.mov (.tmp 26))⟩, ⟨(some 28), (some (27, false)), (.addo (.tmp 1) 2)⟩, ⟨(some 29), (some (27, false)), (.ld (.tmp 28) 1)⟩, ⟨(some 30), (some (27, false)), (.call ⟨(.value (.func 37)), (List.toArray [(.tmp 29), (.const (.int .i64 1)), (.const (.int .i64 1073741824))]), (List.toArray [3, 3, 3])⟩ true)⟩, ⟨(some 31), (some (27, false)), (.pur ⟨(some 31), (.unOp .not 4 (.tmp 30)), 4, "", (List.toArray []), none⟩)⟩, ⟨(some 32), none, (.pur ⟨(some 32), (.pick (.tmp 27) (.const (.bool true)) (.tmp 31)), 4, "", (List.toArray []), none⟩)⟩, ⟨(some 33), none, (.mov (.tmp 32))⟩, ⟨(some 34), (some (33, false)), (.addo (.tmp 1) 3)⟩, ⟨(some 35), (some (33, false)), (.ld (.tmp 34) 1)⟩, ⟨(some 36), (some (33, false)), (.call ⟨(.value (.func 37)), (List.toArray [(.tmp 35), (.const (.int .i64 0)), (.const (.int .i64 1099511627776))]), (List.toArray [3, 3, 3])⟩ true)⟩, ⟨(some 37), (some (33, false)), (.pur ⟨(some 37), (.unOp .not 4 (.tmp 36)), 4, "", (List.toArray []), none⟩)⟩, ⟨(some 38), none, (.pur ⟨(some 38), (.pick (.tmp 33) (.const (.bool true)) (.tmp 37)), 4, "", (List.toArray []), none⟩)⟩])
 (.cond (.tmp 38) (.seq (.reg [⟨(some 2), none, (.mov (.const (.bool false)))⟩])
 .ret)
 .skip))
 (.seq (.seq (.reg [⟨(some 4), none, (.mov (.const (.int .i64 0)))⟩])
 (.block 0 (.other (at_ Try.f28 [1, 1, 1, 0, 1, 0]))))
 (.seq (.reg [⟨(some 2), none, (.mov (.const (.bool true)))⟩])
 .ret)))))
theorem L28 : low Try.prog Try.f28.ntmps (at_ Try.f28 []) = some R28 := by kernel_rfl
theorem E28_1 : at_ Try.f28 [1, 1, 1, 0, 1, 0] = .loop (at_ Try.f28 [1, 1, 1, 0, 1, 0, 0]) := by kernel_rfl
noncomputable def R28x1 : RC := (.seq (.seq (.reg [⟨(some 39), none, (.mov (.tmp 4))⟩, ⟨(some 40), none, (.mov (.tmp 3))⟩, ⟨(some 41), none, (.cmp .lss (.tmp 39) (.tmp 40))⟩])
 (.cond (.tmp 41) .skip
 (.exit 0)))
 (.seq (.block 1 (.seq (.reg [⟨(some 44), none, (.addo (.tmp 1) 0)⟩, ⟨(some 45), none, (.ld (.tmp 44) 1)⟩, ⟨(some 46), none, (.mov (.tmp 4))⟩, ⟨(some 47), none, (.idx (.tmp 45) (.tmp 46) 4)⟩, ⟨(some 48), none, (.lda (.tmp 47) 4)⟩, ⟨(some 5), none, (.alc 57 [(.int .i64 0), (.int .i64 0), (.int .i64 0), (.slice none 0 0)])⟩, ⟨none, none, (.sta (.tmp 5) (.tmp 48) 4)⟩])
 (.seq (.seq (.reg [⟨(some 49), none, (.addo (.tmp 5) 0)⟩, ⟨(some 50), none, (.ld (.tmp 49) 1)⟩, ⟨(some 51), none, (.call ⟨(.value (.func 37)), (List.toArray [(.tmp 50), (.const (.int .i64 1)), (.const (.int .i64 68719476736))]), (List.toArray [3, 3, 3])⟩ true)⟩, ⟨(some 52), none, (.pur ⟨(some 52), (.unOp .not 4 (.tmp 51)), 4, "", (List.toArray []), none⟩)⟩, ⟨(some 53), none, (.mov (.tmp 52))⟩, ⟨(some 54), (some (53, false)), (.addo (.tmp 5) 1)⟩, ⟨(some 55), (some (53, false)), (.lda (.tmp 54) 2)⟩, ⟨(some 56), (some (53, false)), (.call ⟨(.value (.func 49)), (List.toArray [(.tmp 55), (.const (.int .i64 0)), (.const (.int .i64 1048576))]), (List.toArray [30, 3, 3])⟩ true)⟩, ⟨(some 57), (some (53, false)), (.pur ⟨(some 57), (.unOp .not 4 (.tmp 56)), 4, "", (List.toArray []), none⟩)⟩, ⟨(some 58), none, (.pur ⟨(some 58), (.pick (.tmp 53) (.const (.bool true)) (.tmp 57)), 4, "", (List.toArray []), none⟩)⟩, ⟨(some 59), none, (.mov (.tmp 58))⟩, ⟨(some 60), (some (59, false)), (.addo (.tmp 5) 3)⟩, ⟨(some 61), (some (59, false)), (.ld (.tmp 60) 1)⟩, ⟨(some 62), (some (59, false)), (.len (.tmp 61))⟩, ⟨(some 63), (some (59, false)), (.cmpb .neq (.tmp 62) (.const (.int .i64 4)))⟩, ⟨(some 64), none, (.pur ⟨(some 64), (.pick (.tmp 59) (.const (.bool true)) (.tmp 63)), 4, "", (List.toArray []), none⟩)⟩, ⟨(some 65), none, (.mov (.tmp 64))⟩, ⟨(some 66), (some (65, false)), (.addo (.tmp 1) 1)⟩, ⟨(some 67), (some (65, false)), (.ld (.tmp 66) 1)⟩, ⟨(some 68), (some (65, false)), (.mov (.tmp 4))⟩, ⟨(some 69), (some (65, false)), (.idx (.tmp 67) (.tmp 68) 1)⟩, ⟨(some 70), (some (65, false)), (.ld (.tmp 69) 1)⟩, ⟨(some 71), (some (65, false)), (.len (.tmp 70))⟩, ⟨(some 72), (some (65, false)), (.mov (.tmp 3))⟩, ⟨(some 73), (some (65, false)), (.cmpb .neq (.tmp 71) (.tmp 72))⟩, ⟨(some 74), none, (.pur ⟨(some 74), (.pick (.tmp 65) (.const (.bool true)) (.tmp 73)), 4, "", (List.toArray []), none⟩)⟩])
 (.cond (.tmp 74) (.seq (.reg [⟨(some 2), none, (.mov (.const (.bool false)))⟩])
 .ret)
 .skip))
 (.seq (.seq (.reg [⟨(some 6), none, (.mov (.const (.int .i64 0)))⟩])
 (.block 2 (.other (at_ Try.f28 [1, 1, 1, 0, 1, 0, 0, 1, 0, 0, 1, 1, 0, 1, 0]))))
 (.seq (.reg [⟨(some 7), none, (.mov (.const (.int .i64 0)))⟩])
 (.block 4 (.other (at_ Try.f28 [1, 1, 1, 0, 1, 0, 0, 1, 0, 0, 1, 1, 1, 1, 0]))))))))
 (.reg [⟨(some 42), none, (.mov (.tmp 4))⟩, ⟨(some 43), none, (.ari .add (.tmp 42) (.const (.int .i64 1)))⟩, ⟨(some 4), none, (.mov (.tmp 43))⟩])))
theorem L28x1 : low Try.prog Try.f28.ntmps (at_ Try.f28 [1, 1, 1, 0, 1, 0, 0]) = some R28x1 := by kernel_rfl
theorem E28_2 : at_ Try.f28 [1, 1, 1, 0, 1, 0, 0, 1, 0, 0, 1, 1, 0, 1, 0] = .loop (at_ Try.f28 [1, 1, 1, 0, 1, 0, 0, 1, 0, 0, 1, 1, 0, 1, 0, 0]) := by kernel_rfl
noncomputable def R28x2 : RC := (.seq (.seq (.reg [⟨(some 75), none, (.mov (.tmp 6))⟩, ⟨(some 76), none, (.cmp .lss (.tmp 75) (.const (.int .i64 4)))⟩])
 (.cond (.tmp 76) .skip
 (.exit 2)))
 (.seq (.block 3 (.seq (.reg [⟨(some 79), none, (.addo (.tmp 5) 3)⟩, ⟨(some 80), none, (.ld (.tmp 79) 1)⟩, ⟨(some 81), none, (.mov (.tmp 6))⟩, ⟨(some 82), none, (.idx (.tmp 80) (.tmp 81) 2)⟩, ⟨(some 83), none, (.lda (.tmp 82) 2)⟩, ⟨(some 84), none, (.call ⟨(.value (.func 49)), (List.toArray [(.tmp 83), (.const (.int .i64 0)), (.const (.int .i64 16384))]), (List.toArray [30, 3, 3])⟩ true)⟩, ⟨(some 85), none, (.pur ⟨(some 85), (.unOp .not 4 (.tmp 84)), 4, "", (List.toArray []), none⟩)⟩])
 (.cond (.tmp 85) (.seq (.reg [⟨(some 2), none, (.mov (.const (.bool false)))⟩])
 .ret)
 .skip)))
 (.reg [⟨(some 77), none, (.mov (.tmp 6))⟩, ⟨(some 78), none, (.ari .add (.tmp 77) (.const (.int .i64 1)))⟩, ⟨(some 6), none, (.mov (.tmp 78))⟩])))
theorem L28x2 : low Try.prog Try.f28.ntmps (at_ Try.f28 [1, 1, 1, 0, 1, 0, 0, 1, 0, 0, 1, 1, 0, 1, 0, 0]) = some R28x2 := by kernel_rfl
theorem E28_3 : at_ Try.f28 [1, 1, 1, 0, 1, 0, 0, 1, 0, 0, 1, 1, 1, 1, 0] = .loop (at_ Try.f28 [1, 1, 1, 0, 1, 0, 0, 1, 0, 0, 1, 1, 1, 1, 0, 0]) := by kernel_rfl
noncomputable def R28x3 : RC := (.seq (.seq (.reg [⟨(some 86), none, (.mov (.tmp 7))⟩, ⟨(some 87), none, (.mov (.tmp 3))⟩, ⟨(some 88), none, (.cmp .lss (.tmp 86) (.tmp 87))⟩])
 (.cond (.tmp 88) .skip
 (.exit 4)))
 (.seq (.block 5 (.seq (.reg [⟨(some 91), none, (.addo (.tmp 1) 1)⟩, ⟨(some 92), none, (.ld (.tmp 91) 1)⟩, ⟨(some 93), none, (.mov (.tmp 4))⟩, ⟨(some 94), none, (.idx (.tmp 92) (.tmp 93) 1)⟩, ⟨(some 95), none, (.ld (.tmp 94) 1)⟩, ⟨(some 96), none, (.mov (.tmp 7))⟩, ⟨(some 97), none, (.idx (.tmp 95) (.tmp 96) 1)⟩, ⟨(some 98), none, (.ld (.tmp 97) 1)⟩, ⟨(some 99), none, (.call ⟨(.value (.func 37)), (List.toArray [(.tmp 98), (.const (.int .i64 0)), (.const (.int .i64 1073741824))]), (List.toArray [3, 3, 3])⟩ true)⟩, ⟨(some 100), none, (.pur ⟨(some 100), (.unOp .not 4 (.tmp 99)), 4, "", (List.toArray []), none⟩)⟩])
 (.cond (.tmp 100) (.seq (.reg [⟨(some 2), none, (.mov (.const (.bool false)))⟩])
 .ret)
 .skip)))
 (.reg [⟨(some 89), none, (.mov (.tmp 7))⟩, ⟨(some 90), none, (.ari .add (.tmp 89) (.const (.int .i64 1)))⟩, ⟨(some 7), none, (.mov (.tmp 90))⟩])))
theorem L28x3 : low Try.prog Try.f28.ntmps (at_ Try.f28 [1, 1, 1, 0, 1, 0, 0, 1, 0, 0, 1, 1, 1, 1, 0, 0]) = some R28x3 := by kernel_rfl
theorem N38 : Try.f38.ntmps = 46 := by kernel_rfl
theorem Z38 : Try.f38.results.toList = ((List.toArray [(.cell 4 30)]) : Array ResultVar).toList := by kernel_rfl
theorem B38 : Try.f38.body = some (at_ Try.f38 []) := by kernel_rfl
noncomputable def R38 : RC := (.seq (.reg [⟨(some 2), none, (.box 25 (.tmp 0))⟩, ⟨(some 4), none, (.alc 30 [(.int .i64 0), (.int .i64 0)])⟩])
 (.seq (.reg [⟨(some 7), none, (.pur ⟨(some 7), (.build 30 (List.toArray [(0, (.const (.int .i64 16384))), (1, (.const (.int .i64 0)))])), 30, "", (List.toArray []), none⟩)⟩, ⟨(some 5), none, (.alc 30 [(.int .i64 0), (.int .i64 0)])⟩, ⟨none, none, (.sta (.tmp 5) (.tmp 7) 2)⟩])
 (.seq (.seq (.reg [⟨(some 6), none, (.mov (.const (.int .i64 0)))⟩])
 (.block 0 (.other (at_ Try.f38 [1, 1, 0, 1, 0]))))
 (.seq (.reg [⟨(some 45), none, (.lda (.tmp 5) 2)⟩, ⟨none, none, (.sta (.tmp 4) (.tmp 45) 2)⟩])
 .ret))))
theorem L38 : low Try.prog Try.f38.ntmps (at_ Try.f38 []) = some R38 := by kernel_rfl
theorem E38_1 : at_ Try.f38 [1, 1, 0, 1, 0] = .loop (at_ Try.f38 [1, 1, 0, 1, 0, 0]) := by kernel_rfl
noncomputable def R38x1 : RC := (.seq (.seq (.reg [⟨(some 8), none, (.mov (.tmp 6))⟩, ⟨(some 9), none, (.cmp .lss (.tmp 8) (.const (.int .i64 4)))⟩])
 (.cond (.tmp 9) .skip
 (.exit 0)))
 (.seq (.block 1 (.seq (.reg [⟨(some 12), none, (.addo (.tmp 2) 4)⟩, ⟨(some 13), none, (.ld (.tmp 12) 1)⟩, ⟨(some 14), none, (.mov (.tmp 6))⟩, ⟨(some 15), none, (.pur ⟨(some 15), (.binOp .shr 3 (.tmp 13) (.tmp 14) 3), 3, "", (List.toArray []), none⟩)⟩, ⟨(some 16), none, (.ari .rem (.tmp 15) (.const (.int .i64 2)))⟩, ⟨(some 17), none, (.cmp .eql (.tmp 16) (.const (.int .i64 1)))⟩])
 (.cond (.tmp 17) (.dreg [⟨(some 18), none, (.addo (.tmp 5) 0)⟩, ⟨(some 19), none, (.ld (.tmp 18) 1)⟩, ⟨(some 20), none, (.addo (.tmp 2) 0)⟩, ⟨(some 21), none, (.ld (.tmp 20) 1)⟩, ⟨(some 22), none, (.mov (.tmp 1))⟩, ⟨(some 23), none, (.idx (.tmp 21) (.tmp 22) 4)⟩, ⟨(some 24), none, (.addo (.tmp 23) 3)⟩, ⟨(some 25), none, (.ld (.tmp 24) 1)⟩, ⟨(some 26), none, (.mov (.tmp 6))⟩, ⟨(some 27), none, (.idx (.tmp 25) (.tmp 26) 2)⟩, ⟨(some 28), none, (.addo (.tmp 27) 0)⟩, ⟨(some 29), none, (.ld (.tmp 28) 1)⟩, ⟨(some 30), none, (.mm true (.tmp 19) (.tmp 29))⟩, ⟨(some 31), none, (.addo (.tmp 5) 1)⟩, ⟨(some 32), none, (.ld (.tmp 31) 1)⟩, ⟨(some 33), none, (.addo (.tmp 2) 0)⟩, ⟨(some 34), none, (.ld (.tmp 33) 1)⟩, ⟨(some 35), none, (.mov (.tmp 1))⟩, ⟨(some 36), none, (.idx (.tmp 34) (.tmp 35) 4)⟩, ⟨(some 37), none, (.addo (.tmp 36) 3)⟩, ⟨(some 38), none, (.ld (.tmp 37) 1)⟩, ⟨(some 39), none, (.mov (.tmp 6))⟩, ⟨(some 40), none, (.idx (.tmp 38) (.tmp 39) 2)⟩, ⟨(some 41), none, (.addo (.tmp 40) 1)⟩, ⟨(some 42), none, (.ld (.tmp 41) 1)⟩, ⟨(some 43), none, (.mm false (.tmp 32) (.tmp 42))⟩, ⟨(some 44), none, (.pur ⟨(some 44), (.build 30 (List.toArray [(0, (.tmp 30)), (1, (.tmp 43))])), 30, "", (List.toArray []), none⟩)⟩, ⟨none, none, (.sta (.tmp 5) (.tmp 44) 2)⟩] [134217727, 67108863, 33546240, 16744448, 8355840, 4161536, 0, 1015808, 491520, 229376, 0, 32768, 0, 8192, 0, 4095, 2044, 1020, 508, 0, 124, 60, 28, 0, 4, 0, 1, 0])
 .skip)))
 (.reg [⟨(some 10), none, (.mov (.tmp 6))⟩, ⟨(some 11), none, (.ari .add (.tmp 10) (.const (.int .i64 1)))⟩, ⟨(some 6), none, (.mov (.tmp 11))⟩])))
theorem L38x1 : low Try.prog Try.f38.ntmps (at_ Try.f38 [1, 1, 0, 1, 0, 0]) = some R38x1 := by kernel_rfl
end Go.Ax
/-
 Flood: contracts of what tells whether a harvest is valid (written by program).
-/
namespace Go.Ax
open Go Go.RowKit Go.Proofs
section
variable {kn : FuncId → Option Bool} {lo : Nat} {H : Hp}
theorem within_ok {n m : Int} : ∃ H', FnX Try.prog kn lo 36 [iv n, iv m] H (.bool (inB n 0 m)) H' ∧ Keep H H' [] := by
 have key := fnX_low (kn := kn) (lo := lo) (H := H) (args := [iv n, iv m]) (Q := fun w H' => w = .bool (inB n 0 m) ∧ Keep H H' []) Try.func36 B36 N36 Z36 L36 (by simp) ?_
 ·obtain ⟨w, H', h, rfl, q⟩ := key; exact ⟨H', h, q⟩
 repeat' first
  | (intro t ht; cases t)
  | exact And.intro trivial (Exists.intro _ (And.intro rfl ⟨by simp_all [retV, inB] <;> (intros; omega), Keep.refl _ _⟩))
  | refine And.intro rfl (Exists.intro _ (And.intro rfl ?_))
theorem in37_ok {n a m : Int} : ∃ H', FnX Try.prog kn lo 37 [iv n, iv a, iv m] H (.bool (inB n a m)) H' ∧ Keep H H' [] := by
 have key := fnX_low (kn := kn) (lo := lo) (H := H) (args := [iv n, iv a, iv m]) (Q := fun w H' => w = .bool (inB n a m) ∧ Keep H H' []) Try.func37 B37 N37 Z37 L37 (by simp) ?_
 ·obtain ⟨w, H', h, rfl, q⟩ := key; exact ⟨H', h, q⟩
 repeat' first
  | (intro t ht; cases t)
  | exact And.intro trivial (Exists.intro _ (And.intro rfl ⟨by simp_all [retV, inB] <;> (intros; omega), Keep.refl _ _⟩))
  | refine And.intro rfl (Exists.intro _ (And.intro rfl ?_))
theorem span_ok {a b m : Int} : ∃ H', FnX Try.prog kn lo 77 [spv a b, iv m] H (.bool (spanB a b 0 m)) H' ∧ Keep H H' [] := by
 have key := fnX_low (kn := kn) (lo := lo) (H := H) (args := [spv a b, iv m]) (Q := fun w H' => w = .bool (spanB a b 0 m) ∧ Keep H H' []) Try.func77 B77 N77 Z77 L77 (by simp) ?_
 ·obtain ⟨w, H', h, rfl, q⟩ := key; exact ⟨H', h, q⟩
 intro H1 hH1
 obtain ⟨k1, n1, c1⟩ := new_facts hH1
 repeat' first
  | refine Exists.intro _ (Exists.intro _ (And.intro c1.of (And.intro rfl ?_)))
  | (intro t ht; cases t)
  | exact And.intro trivial (Exists.intro _ (And.intro rfl ⟨by simp_all [retV, spanB] <;> (intros; omega), k1⟩))
  | refine And.intro rfl (Exists.intro _ (And.intro rfl ?_))
theorem Within_ok {a b l m : Int} : ∃ H', FnX Try.prog kn lo 49 [spv a b, iv l, iv m] H (.bool (spanB a b l m)) H' ∧ Keep H H' [] := by
 have key := fnX_low (kn := kn) (lo := lo) (H := H) (args := [spv a b, iv l, iv m]) (Q := fun w H' => w = .bool (spanB a b l m) ∧ Keep H H' []) Try.func49 B49 N49 Z49 L49 (by simp) ?_
 ·obtain ⟨w, H', h, rfl, q⟩ := key; exact ⟨H', h, q⟩
 intro H1 hH1
 obtain ⟨k1, n1, c1⟩ := new_facts hH1
 repeat' first
  | refine Exists.intro _ (Exists.intro _ (And.intro c1.of (And.intro rfl ?_)))
  | (intro t ht; cases t)
  | exact And.intro trivial (Exists.intro _ (And.intro rfl ⟨by simp_all [retV, spanB] <;> (intros; omega), k1⟩))
  | refine And.intro rfl (Exists.intro _ (And.intro rfl ?_))
theorem bad79_ok {s : Int × Int} : ∃ H', FnX Try.prog kn lo 79 [spv s.1 s.2] H (.bool (!(spOk 16384 s))) H' ∧ Keep H H' [] := by
 have key := fnX_low (kn := kn) (lo := lo) (H := H) (args := [spv s.1 s.2]) (Q := fun w H' => w = .bool (!(spOk 16384 s)) ∧ Keep H H' []) Try.func79 B79 N79 Z79 L79 (by simp) ?_
 ·obtain ⟨w, H', h, rfl, q⟩ := key; exact ⟨H', h, q⟩
 have hk := Keep.refl H []
 intro H1 hH1; obtain ⟨kH1, nH1, c1⟩ := new_facts hH1; clear hH1
 have mH1 := kH1.1
 have hk := hk.trans kH1
 have c1 : Cl H1 H.next [iv s.1, iv s.2] := c1
 refine Exists.intro _ (Exists.intro _ (And.intro c1.of (And.intro (show row 2 _ _ = some [iv s.1, iv s.2] from rfl) ?_)))
 refine callB (span_ok) ?_
 intro t H2 ht kH2
 have mH2 := kH2.1
 have hk := hk.trans kH2
 have c1 := kH2.cl c1 (by simp)
 refine And.intro rfl (Exists.intro (.bool (!t)) (And.intro rfl ?_))
 exact And.intro trivial (Exists.intro _ (And.intro rfl ⟨by rw [show spOk 16384 s = t from ht]; rfl, hk⟩))
theorem bad81_ok {x : Int} : ∃ H', FnX Try.prog kn lo 81 [iv x] H (.bool (!(rtOk x))) H' ∧ Keep H H' [] := by
 have key := fnX_low (kn := kn) (lo := lo) (H := H) (args := [iv x]) (Q := fun w H' => w = .bool (!(rtOk x)) ∧ Keep H H' []) Try.func81 B81 N81 Z81 L81 (by simp) ?_
 ·obtain ⟨w, H', h, rfl, q⟩ := key; exact ⟨H', h, q⟩
 have hk := Keep.refl H []
 refine callB (within_ok) ?_
 intro t H1 ht kH1
 have mH1 := kH1.1
 have hk := hk.trans kH1
 refine And.intro rfl (Exists.intro (.bool (!t)) (And.intro rfl ?_))
 exact And.intro trivial (Exists.intro _ (And.intro rfl ⟨by rw [show rtOk x = t from ht]; rfl, hk⟩))
theorem index87_ok {sa : Option Addr} {n cap : Nat} {us : List (Int × Int)} (hs : Sl H sa n cap (spc us)) (hn : us.length = n) (hn2 : n ≤ 1000000) :
  ∃ j H', FnX Try.prog kn lo 87 [.slice sa n cap, .func (.func 79) #[] #[]] H (iv j) H' ∧ decide (j ≥ 0) = !((us.take n).all (spOk 16384)) ∧ Keep H H' [] := by
 have key := fnX_low (kn := kn) (lo := lo) (H := H) (args := [.slice sa n cap, .func (.func 79) #[] #[]]) (Q := fun w H' => ∃ j, w = iv j ∧ decide (j ≥ 0) = !((us.take n).all (spOk 16384)) ∧ Keep H H' []) Try.func87 B87 N87 Z87 L87 (by simp) ?_
 ·obtain ⟨v, H', h, j, rfl, q⟩ := key; exact ⟨j, H', h, q⟩
 have hk := Keep.refl H []
 refine loop_low (fn := Try.f87) E87_1 N87 L87x1 (fun i : Nat => [(0, .slice sa n cap), (1, .func (.func 79) #[] #[]), (7, iv (n : Int)), (8, iv (i : Int))])
  (fun k i H' => i + k = n ∧ Keep H H' [] ∧ (us.take i).all (spOk 16384) = true) n 0 ⟨by omega, Keep.refl _ _, rfl⟩ ⟨rfl, rfl, rfl, rfl, trivial⟩ ?_
 rintro k i L1 ⟨hik, hki, hall⟩
 have hk := hk.trans hki
 have hs := hki.sl0 hs
 have kb := hki
 refine And.intro (fun q1 => ?_) (fun q1 => ?_)
 ·have q1 : (i : Int) < (n : Int) := of_decide_eq_true q1
  have hi : i < n := by omega
  obtain ⟨x, hx⟩ := get_some (l := us) (i := i) (by omega)
  rcases hs with ⟨_, h0, _⟩ | ⟨sb, rfl, hsd, _⟩
  ·omega
  have hst := all_step (f := spOk 16384) hx
  refine Exists.intro i (And.intro rfl (And.intro hi ?_))
  refine Exists.intro _ (Exists.intro _ (And.intro hsd.of (And.intro (spc_row hx) ?_)))
  obtain ⟨H1, fH1, kH1⟩ := bad79_ok (kn := kn) (lo := lo) (s := x)
  refine Exists.intro _ (Exists.intro _ (And.intro (callX_func rfl (by simpa using fH1)) ?_))
  have mH1 := kH1.1
  have hk := hk.trans kH1
  have kb := kb.trans kH1
  have hsd := kH1.rd hsd (by simp)
  cases hb : spOk 16384 x
  ·refine condT ?_
   exact And.intro trivial (Exists.intro _ (And.intro rfl ⟨_, rfl, by rw [take_fail hx hi hb]; simp, hk⟩))
  ·refine condF ?_
   refine And.intro (show InR ((i : Int) + 1) from ⟨by omega, by omega⟩) ?_
   exact ⟨k - 1, i + 1, by omega, ⟨by omega, kb, by rw [hst, hall, hb]; rfl⟩, rfl, rfl, rfl, rfl, trivial⟩
 ·have q1 : ¬ ((i : Int) < (n : Int)) := of_decide_eq_false q1
  have e : i = n := by omega
  subst e
  exact And.intro trivial (Exists.intro _ (And.intro rfl ⟨-1, rfl, by rw [hall]; rfl, hk⟩))
theorem badSpans_ok {sa : Option Addr} {n cap : Nat} {us : List (Int × Int)} (hs : Sl H sa n cap (spc us)) (hl : us.length = n) (hn2 : n ≤ 1000000) :
  ∃ H', FnX Try.prog kn lo 78 [.slice sa n cap, .func (.func 79) #[] #[]] H (.bool (!(us.all (spOk 16384)))) H' ∧ Keep H H' [] := by
 have key := fnX_low (kn := kn) (lo := lo) (H := H) (args := [.slice sa n cap, .func (.func 79) #[] #[]]) (Q := fun w H' => w = .bool (!(us.all (spOk 16384))) ∧ Keep H H' []) Try.func78 B78 N78 Z78 L78 (by simp) ?_
 ·obtain ⟨w, H', h, rfl, q⟩ := key; exact ⟨H', h, q⟩
 obtain ⟨j, H3, h3, hj, k3⟩ := index87_ok (kn := kn) (lo := lo) hs hl hn2
 refine Exists.intro _ (Exists.intro _ (And.intro (callX_args h3) ?_))
 rw [List.take_of_length_le (by omega)] at hj
 exact And.intro trivial (Exists.intro _ (And.intro rfl ⟨by rw [← hj]; rfl, k3⟩))
theorem index88_ok {sa : Option Addr} {n cap : Nat} {us : List Int} (hs : Sl H sa n cap (ints us)) (hn : us.length = n) (hn2 : n ≤ 1000000) :
  ∃ j H', FnX Try.prog kn lo 88 [.slice sa n cap, .func (.func 81) #[] #[]] H (iv j) H' ∧ decide (j ≥ 0) = !((us.take n).all (rtOk)) ∧ Keep H H' [] := by
 have key := fnX_low (kn := kn) (lo := lo) (H := H) (args := [.slice sa n cap, .func (.func 81) #[] #[]]) (Q := fun w H' => ∃ j, w = iv j ∧ decide (j ≥ 0) = !((us.take n).all (rtOk)) ∧ Keep H H' []) Try.func88 B88 N88 Z88 L88 (by simp) ?_
 ·obtain ⟨v, H', h, j, rfl, q⟩ := key; exact ⟨j, H', h, q⟩
 have hk := Keep.refl H []
 refine loop_low (fn := Try.f88) E88_1 N88 L88x1 (fun i : Nat => [(0, .slice sa n cap), (1, .func (.func 81) #[] #[]), (7, iv (n : Int)), (8, iv (i : Int))])
  (fun k i H' => i + k = n ∧ Keep H H' [] ∧ (us.take i).all (rtOk) = true) n 0 ⟨by omega, Keep.refl _ _, rfl⟩ ⟨rfl, rfl, rfl, rfl, trivial⟩ ?_
 rintro k i L1 ⟨hik, hki, hall⟩
 have hk := hk.trans hki
 have hs := hki.sl0 hs
 have kb := hki
 refine And.intro (fun q1 => ?_) (fun q1 => ?_)
 ·have q1 : (i : Int) < (n : Int) := of_decide_eq_true q1
  have hi : i < n := by omega
  obtain ⟨x, hx⟩ := get_some (l := us) (i := i) (by omega)
  rcases hs with ⟨_, h0, _⟩ | ⟨sb, rfl, hsd, _⟩
  ·omega
  have hst := all_step (f := rtOk) hx
  refine Exists.intro i (And.intro rfl (And.intro hi ?_))
  refine Exists.intro _ (Exists.intro _ (And.intro hsd.of (And.intro (ints_at hx) ?_)))
  obtain ⟨H1, fH1, kH1⟩ := bad81_ok (kn := kn) (lo := lo) (x := x)
  refine Exists.intro _ (Exists.intro _ (And.intro (callX_func rfl (by simpa using fH1)) ?_))
  have mH1 := kH1.1
  have hk := hk.trans kH1
  have kb := kb.trans kH1
  have hsd := kH1.rd hsd (by simp)
  cases hb : rtOk x
  ·refine condT ?_
   exact And.intro trivial (Exists.intro _ (And.intro rfl ⟨_, rfl, by rw [take_fail hx hi hb]; simp, hk⟩))
  ·refine condF ?_
   refine And.intro (show InR ((i : Int) + 1) from ⟨by omega, by omega⟩) ?_
   exact ⟨k - 1, i + 1, by omega, ⟨by omega, kb, by rw [hst, hall, hb]; rfl⟩, rfl, rfl, rfl, rfl, trivial⟩
 ·have q1 : ¬ ((i : Int) < (n : Int)) := of_decide_eq_false q1
  have e : i = n := by omega
  subst e
  exact And.intro trivial (Exists.intro _ (And.intro rfl ⟨-1, rfl, by rw [hall]; rfl, hk⟩))
theorem badRates_ok {sa : Option Addr} {n cap : Nat} {us : List Int} (hs : Sl H sa n cap (ints us)) (hl : us.length = n) (hn2 : n ≤ 1000000) :
  ∃ H', FnX Try.prog kn lo 80 [.slice sa n cap, .func (.func 81) #[] #[]] H (.bool (!(us.all (rtOk)))) H' ∧ Keep H H' [] := by
 have key := fnX_low (kn := kn) (lo := lo) (H := H) (args := [.slice sa n cap, .func (.func 81) #[] #[]]) (Q := fun w H' => w = .bool (!(us.all (rtOk))) ∧ Keep H H' []) Try.func80 B80 N80 Z80 L80 (by simp) ?_
 ·obtain ⟨w, H', h, rfl, q⟩ := key; exact ⟨H', h, q⟩
 obtain ⟨j, H3, h3, hj, k3⟩ := index88_ok (kn := kn) (lo := lo) hs hl hn2
 refine Exists.intro _ (Exists.intro _ (And.intro (callX_args h3) ?_))
 rw [List.take_of_length_le (by omega)] at hj
 exact And.intro trivial (Exists.intro _ (And.intro rfl ⟨by rw [← hj]; rfl, k3⟩))
theorem bad68_ok {b : Bg} (hw : Sl H b.wa b.wn b.wcap (spc b.ws)) (hwl : b.ws.length = b.wn) : ∃ H', FnX Try.prog kn lo 68 [.agg #[iv b.need, iv b.l1, iv b.l2, .slice b.wa b.wn b.wcap]] H (.bool (!b.ok)) H' ∧ Keep H H' [] := by
 have key := fnX_low (kn := kn) (lo := lo) (H := H) (args := [.agg #[iv b.need, iv b.l1, iv b.l2, .slice b.wa b.wn b.wcap]]) (Q := fun w H' => w = .bool (!b.ok) ∧ Keep H H' []) Try.func68 B68 N68 Z68 L68 (by simp) ?_
 ·obtain ⟨w, H', h, rfl, q⟩ := key; exact ⟨H', h, q⟩
 have hk := Keep.refl H []
 intro H1 hH1; obtain ⟨kH1, nH1, c1⟩ := new_facts hH1; clear hH1
 have mH1 := kH1.1
 have hk := hk.trans kH1
 have hw := kH1.sl0 hw
 have c1 : Cl H1 H.next [iv b.need, iv b.l1, iv b.l2, .slice b.wa b.wn b.wcap] := c1
 refine Exists.intro _ (Exists.intro _ (And.intro c1.of (And.intro (show _ = some (iv b.need) from rfl) ?_)))
 intro t1 g1; cases t1
 ·have g1 : ¬ (b.need < 1) := of_decide_eq_false g1
  refine Exists.intro _ (Exists.intro _ (And.intro c1.of (And.intro (show _ = some (iv b.need) from rfl) ?_)))
  intro t2 g2; cases t2
  ·have g2 : ¬ (b.need > 68719476736) := of_decide_eq_false g2
   refine And.intro rfl (Exists.intro (.bool false) (And.intro rfl ?_))
   refine Exists.intro _ (Exists.intro _ (And.intro c1.of (And.intro (show row 2 _ _ = some [iv b.l1, iv b.l2] from rfl) ?_)))
   refine callB (span_ok) ?_
   intro tH2 H2 hH2 kH2
   have mH2 := kH2.1
   have hk := hk.trans kH2
   have hw := kH2.sl0 hw
   have c1 := kH2.cl c1 (by simp)
   cases tH2
   ·have h2 := hH2
    refine And.intro rfl (Exists.intro (.bool true) (And.intro rfl ?_))
    refine And.intro rfl (Exists.intro (.bool true) (And.intro rfl ?_))
    refine And.intro rfl (Exists.intro (.bool true) (And.intro rfl ?_))
    refine condT ?_
    have e : b.ok = false := by
     unfold Bg.ok inB
     first | (rw [decide_eq_false (show ¬ (1 ≤ b.need) by omega)]; rfl) | (rw [decide_eq_false (show ¬ (b.need ≤ 68719476736) by omega)]; simp) | (rw [h4]; simp) | (rw [decide_eq_false (show ¬ (b.wn = 4) by omega)]; simp) | (rw [h2]; simp)
    exact And.intro trivial (Exists.intro _ (And.intro rfl ⟨by rw [e]; rfl, hk⟩))
   ·have h2 := hH2
    refine And.intro rfl (Exists.intro (.bool false) (And.intro rfl ?_))
    refine And.intro rfl (Exists.intro (.bool false) (And.intro rfl ?_))
    refine Exists.intro _ (Exists.intro _ (And.intro c1.of (And.intro (show _ = some (.slice b.wa b.wn b.wcap) from rfl) ?_)))
    intro t3 g3; cases t3
    ·have g3 : ¬ ((b.wn : Int) ≠ 4) := by simpa using g3
     refine And.intro rfl (Exists.intro (.bool false) (And.intro rfl ?_))
     refine condF ?_
     refine Exists.intro _ (Exists.intro _ (And.intro c1.of (And.intro (show _ = some (.slice b.wa b.wn b.wcap) from rfl) ?_)))
     refine callB (badSpans_ok hw hwl (by omega)) ?_
     intro tH3 H3 hH3 kH3
     have mH3 := kH3.1
     have hk := hk.trans kH3
     have hw := kH3.sl0 hw
     have c1 := kH3.cl c1 (by simp)
     cases tH3
     ·have h4 := hH3
      have e : b.ok = true := by
       have h4 : b.ws.all (spOk 16384) = true := by simpa using h4
       unfold Bg.ok inB
       rw [h4, h2, decide_eq_true (show 1 ≤ b.need by omega), decide_eq_true (show b.need ≤ 68719476736 by omega), decide_eq_true (show b.wn = 4 by omega)]; rfl
      exact And.intro trivial (Exists.intro _ (And.intro rfl ⟨by rw [e]; rfl, hk⟩))
     ·have h4 := hH3
      have e : b.ok = false := by
       have h4 : b.ws.all (spOk 16384) = false := by simpa using h4
       unfold Bg.ok inB
       first | (rw [decide_eq_false (show ¬ (1 ≤ b.need) by omega)]; rfl) | (rw [decide_eq_false (show ¬ (b.need ≤ 68719476736) by omega)]; simp) | (rw [h4]; simp) | (rw [decide_eq_false (show ¬ (b.wn = 4) by omega)]; simp) | (rw [h2]; simp)
      exact And.intro trivial (Exists.intro _ (And.intro rfl ⟨by rw [e]; rfl, hk⟩))
    ·have g3 : (b.wn : Int) ≠ 4 := by simpa using g3
     refine And.intro rfl (Exists.intro (.bool true) (And.intro rfl ?_))
     refine condT ?_
     have e : b.ok = false := by
      unfold Bg.ok inB
      first | (rw [decide_eq_false (show ¬ (1 ≤ b.need) by omega)]; rfl) | (rw [decide_eq_false (show ¬ (b.need ≤ 68719476736) by omega)]; simp) | (rw [h4]; simp) | (rw [decide_eq_false (show ¬ (b.wn = 4) by omega)]; simp) | (rw [h2]; simp)
     exact And.intro trivial (Exists.intro _ (And.intro rfl ⟨by rw [e]; rfl, hk⟩))
  ·have g2 : b.need > 68719476736 := of_decide_eq_true g2
   refine And.intro rfl (Exists.intro (.bool true) (And.intro rfl ?_))
   refine And.intro rfl (Exists.intro (.bool true) (And.intro rfl ?_))
   refine And.intro rfl (Exists.intro (.bool true) (And.intro rfl ?_))
   refine condT ?_
   have e : b.ok = false := by
    unfold Bg.ok inB
    first | (rw [decide_eq_false (show ¬ (1 ≤ b.need) by omega)]; rfl) | (rw [decide_eq_false (show ¬ (b.need ≤ 68719476736) by omega)]; simp) | (rw [h4]; simp) | (rw [decide_eq_false (show ¬ (b.wn = 4) by omega)]; simp) | (rw [h2]; simp)
   exact And.intro trivial (Exists.intro _ (And.intro rfl ⟨by rw [e]; rfl, hk⟩))
 ·have g1 : b.need < 1 := of_decide_eq_true g1
  refine And.intro rfl (Exists.intro (.bool true) (And.intro rfl ?_))
  refine And.intro rfl (Exists.intro (.bool true) (And.intro rfl ?_))
  refine And.intro rfl (Exists.intro (.bool true) (And.intro rfl ?_))
  refine condT ?_
  have e : b.ok = false := by
   unfold Bg.ok inB
   first | (rw [decide_eq_false (show ¬ (1 ≤ b.need) by omega)]; rfl) | (rw [decide_eq_false (show ¬ (b.need ≤ 68719476736) by omega)]; simp) | (rw [h4]; simp) | (rw [decide_eq_false (show ¬ (b.wn = 4) by omega)]; simp) | (rw [h2]; simp)
  exact And.intro trivial (Exists.intro _ (And.intro rfl ⟨by rw [e]; rfl, hk⟩))
theorem index76_ok {sa : Option Addr} {n cap : Nat} {us : List Bg} (hbi : ∀ b ∈ us, Sl H b.wa b.wn b.wcap (spc b.ws) ∧ b.ws.length = b.wn) (hs : Sl H sa n cap (bgc us)) (hn : us.length = n) (hn2 : n ≤ 1000000) :
  ∃ j H', FnX Try.prog kn lo 76 [.slice sa n cap, .func (.func 68) #[] #[]] H (iv j) H' ∧ decide (j ≥ 0) = !((us.take n).all (Bg.ok)) ∧ Keep H H' [] := by
 have key := fnX_low (kn := kn) (lo := lo) (H := H) (args := [.slice sa n cap, .func (.func 68) #[] #[]]) (Q := fun w H' => ∃ j, w = iv j ∧ decide (j ≥ 0) = !((us.take n).all (Bg.ok)) ∧ Keep H H' []) Try.func76 B76 N76 Z76 L76 (by simp) ?_
 ·obtain ⟨v, H', h, j, rfl, q⟩ := key; exact ⟨j, H', h, q⟩
 have hk := Keep.refl H []
 refine loop_low (fn := Try.f76) E76_1 N76 L76x1 (fun i : Nat => [(0, .slice sa n cap), (1, .func (.func 68) #[] #[]), (7, iv (n : Int)), (8, iv (i : Int))])
  (fun k i H' => i + k = n ∧ Keep H H' [] ∧ (us.take i).all (Bg.ok) = true) n 0 ⟨by omega, Keep.refl _ _, rfl⟩ ⟨rfl, rfl, rfl, rfl, trivial⟩ ?_
 rintro k i L1 ⟨hik, hki, hall⟩
 have hk := hk.trans hki
 have hs := hki.sl0 hs
 have hbi := fun b hb => And.intro (hki.sl0 (hbi b hb).1) (hbi b hb).2
 have kb := hki
 refine And.intro (fun q1 => ?_) (fun q1 => ?_)
 ·have q1 : (i : Int) < (n : Int) := of_decide_eq_true q1
  have hi : i < n := by omega
  obtain ⟨x, hx⟩ := get_some (l := us) (i := i) (by omega)
  rcases hs with ⟨_, h0, _⟩ | ⟨sb, rfl, hsd, _⟩
  ·omega
  have hst := all_step (f := Bg.ok) hx
  refine Exists.intro i (And.intro rfl (And.intro hi ?_))
  refine Exists.intro _ (Exists.intro _ (And.intro hsd.of (And.intro (bgc_row hx) ?_)))
  obtain ⟨H1, fH1, kH1⟩ := bad68_ok (kn := kn) (lo := lo) (b := x) (hbi _ (List.mem_of_getElem? hx)).1 (hbi _ (List.mem_of_getElem? hx)).2
  refine Exists.intro _ (Exists.intro _ (And.intro (callX_func rfl (by simpa using fH1)) ?_))
  have mH1 := kH1.1
  have hk := hk.trans kH1
  have hbi := fun b hb => And.intro (kH1.sl0 (hbi b hb).1) (hbi b hb).2
  have kb := kb.trans kH1
  have hsd := kH1.rd hsd (by simp)
  cases hb : Bg.ok x
  ·refine condT ?_
   exact And.intro trivial (Exists.intro _ (And.intro rfl ⟨_, rfl, by rw [take_fail hx hi hb]; simp, hk⟩))
  ·refine condF ?_
   refine And.intro (show InR ((i : Int) + 1) from ⟨by omega, by omega⟩) ?_
   exact ⟨k - 1, i + 1, by omega, ⟨by omega, kb, by rw [hst, hall, hb]; rfl⟩, rfl, rfl, rfl, rfl, trivial⟩
 ·have q1 : ¬ ((i : Int) < (n : Int)) := of_decide_eq_false q1
  have e : i = n := by omega
  subst e
  exact And.intro trivial (Exists.intro _ (And.intro rfl ⟨-1, rfl, by rw [hall]; rfl, hk⟩))
theorem badBogs_ok {sa : Option Addr} {n cap : Nat} {us : List Bg} (hbi : ∀ b ∈ us, Sl H b.wa b.wn b.wcap (spc b.ws) ∧ b.ws.length = b.wn) (hs : Sl H sa n cap (bgc us)) (hl : us.length = n) (hn2 : n ≤ 1000000) :
  ∃ H', FnX Try.prog kn lo 67 [.slice sa n cap, .func (.func 68) #[] #[]] H (.bool (!(us.all (Bg.ok)))) H' ∧ Keep H H' [] := by
 have key := fnX_low (kn := kn) (lo := lo) (H := H) (args := [.slice sa n cap, .func (.func 68) #[] #[]]) (Q := fun w H' => w = .bool (!(us.all (Bg.ok))) ∧ Keep H H' []) Try.func67 B67 N67 Z67 L67 (by simp) ?_
 ·obtain ⟨w, H', h, rfl, q⟩ := key; exact ⟨H', h, q⟩
 obtain ⟨j, H3, h3, hj, k3⟩ := index76_ok (kn := kn) (lo := lo) hbi hs hl hn2
 refine Exists.intro _ (Exists.intro _ (And.intro (callX_args h3) ?_))
 rw [List.take_of_length_le (by omega)] at hj
 exact And.intro trivial (Exists.intro _ (And.intro rfl ⟨by rw [← hj]; rfl, k3⟩))
theorem rates_ok {sa : Option Addr} {n cap m : Nat} {us : List Rw} (hbi : ∀ r ∈ us, Sl H r.ra r.n r.cap (ints r.l) ∧ r.l.length = r.n) (hs : Sl H sa n cap (rwc us)) (hl : us.length = n) (hm : m ≤ 1000000) :
  ∃ H', FnX Try.prog kn lo 69 [.slice sa n cap, iv (m : Int)] H (.bool (decide (n = m) && us.all (Rw.ok m))) H' ∧ Keep H H' [] := by
 have key := fnX_low (kn := kn) (lo := lo) (H := H) (args := [.slice sa n cap, iv (m : Int)]) (Q := fun w H' => w = .bool (decide (n = m) && us.all (Rw.ok m)) ∧ Keep H H' []) Try.func69 B69 N69 Z69 L69 (by simp) ?_
 ·obtain ⟨w, H', h, rfl, q⟩ := key; exact ⟨H', h, q⟩
 have hk := Keep.refl H []
 refine And.intro (fun q1 => ?_) (fun q1 => ?_)
 ·have q1 : (n : Int) ≠ (m : Int) := by simpa using q1
  exact And.intro trivial (Exists.intro _ (And.intro rfl ⟨by rw [decide_eq_false (by omega)]; rfl, hk⟩))
 ·have q1 : ¬ ((n : Int) ≠ (m : Int)) := by simpa using q1
  refine loop_low (fn := Try.f69) E69_1 N69 L69x1 (fun i : Nat => [(0, .slice sa n cap), (1, iv (m : Int)), (11, .slice sa n cap), (12, iv (n : Int)), (13, iv (i : Int))])
   (fun k i H' => i + k = n ∧ Keep H H' [] ∧ (us.take i).all (Rw.ok m) = true) n 0 ⟨by omega, Keep.refl _ _, rfl⟩ ⟨rfl, rfl, rfl, rfl, rfl, trivial⟩ ?_
  rintro k i L1 ⟨hik, hki, hall⟩
  have hk := hk.trans hki
  have hs := hki.sl0 hs
  have hbi := fun b hb => And.intro (hki.sl0 (hbi b hb).1) (hbi b hb).2
  have kb := hki
  refine And.intro (fun q2 => ?_) (fun q2 => ?_)
  ·have q2 : (i : Int) < (n : Int) := of_decide_eq_true q2
   have hi : i < n := by omega
   obtain ⟨x, hx⟩ := get_some (l := us) (i := i) (by omega)
   obtain ⟨hr, hrl⟩ := hbi _ (List.mem_of_getElem? hx)
   rcases hs with ⟨_, h0, _⟩ | ⟨sb, rfl, hsd, _⟩
   ·omega
   have hst := all_step (f := Rw.ok m) hx
   refine Exists.intro i (And.intro rfl (And.intro hi ?_))
   refine Exists.intro _ (Exists.intro _ (And.intro hsd.of (And.intro (rwc_row hx) ?_)))
   intro t3 g3; cases t3
   ·have g3 : ¬ ((x.n : Int) ≠ (m : Int)) := by simpa using g3
    refine callB (badRates_ok hr hrl (by omega)) ?_
    intro tH1 H1 hH1 kH1
    have mH1 := kH1.1
    have hk := hk.trans kH1
    have hbi := fun b hb => And.intro (kH1.sl0 (hbi b hb).1) (hbi b hb).2
    have kb := kb.trans kH1
    have hsd := kH1.rd hsd (by simp)
    have hr := kH1.sl0 hr
    cases tH1
    ·have h4 := hH1
     refine And.intro rfl (Exists.intro (.bool false) (And.intro rfl ?_))
     refine condF ?_
     have hb : x.ok m = true := by
      have h4 : x.l.all rtOk = true := by simpa using h4
      unfold Rw.ok
      rw [h4, decide_eq_true (show x.n = m by omega)]; rfl
     refine And.intro (show InR ((i : Int) + 1) from ⟨by omega, by omega⟩) ?_
     exact ⟨k - 1, i + 1, by omega, ⟨by omega, kb, by rw [hst, hall, hb]; rfl⟩, rfl, rfl, rfl, rfl, rfl, trivial⟩
    ·have h4 := hH1
     refine And.intro rfl (Exists.intro (.bool true) (And.intro rfl ?_))
     refine condT ?_
     have hb : x.ok m = false := by
      have h4 : x.l.all rtOk = false := by simpa using h4
      unfold Rw.ok
      first | (rw [decide_eq_false (show ¬ (x.n = m) by omega)]; rfl) | (rw [h4]; simp)
     exact And.intro trivial (Exists.intro _ (And.intro rfl ⟨by rw [all_fail hx hb, Bool.and_false]; rfl, hk⟩))
   ·have g3 : (x.n : Int) ≠ (m : Int) := by simpa using g3
    refine And.intro rfl (Exists.intro (.bool true) (And.intro rfl ?_))
    refine condT ?_
    have hb : x.ok m = false := by
     unfold Rw.ok
     first | (rw [decide_eq_false (show ¬ (x.n = m) by omega)]; rfl) | (rw [h4]; simp)
    exact And.intro trivial (Exists.intro _ (And.intro rfl ⟨by rw [all_fail hx hb, Bool.and_false]; rfl, hk⟩))
  ·have q2 : ¬ ((i : Int) < (n : Int)) := of_decide_eq_false q2
   have e : i = n := by omega
   subst e
   exact And.intro trivial (Exists.intro _ (And.intro rfl ⟨by rw [List.take_of_length_le (by omega)] at hall; rw [hall, decide_eq_true (by omega)]; rfl, hk⟩))
theorem valid_ok {g : Fh} {f : Nat} (hat : g.At f H) : ∃ H', FnX Try.prog kn lo 50 [.agg g.v.toArray] H (.bool g.ok) H' ∧ Keep H H' [] := by
 have key := fnX_low (kn := kn) (lo := lo) (H := H) (args := [.agg g.v.toArray]) (Q := fun w H' => w = .bool g.ok ∧ Keep H H' []) Try.func50 B50 N50 Z50 L50 (by simp) ?_
 ·obtain ⟨w, H', h, rfl, q⟩ := key; exact ⟨H', h, q⟩
 have hk := Keep.refl H []
 intro H1 hH1; obtain ⟨kH1, nH1, c1⟩ := new_facts hH1; clear hH1
 have mH1 := kH1.1
 have hk := hk.trans kH1
 have hat := hat.keep kH1 (by simp)
 have c1 : Cl H1 H.next [.slice g.ba g.bn g.bcap, .slice g.ra g.rn g.rcap, iv g.inlet, iv g.reserve, iv g.winds] := c1
 refine Exists.intro _ (Exists.intro _ (And.intro c1.of (And.intro (show _ = some (.slice g.ba g.bn g.bcap) from rfl) ?_)))
 intro t1 g1; cases t1
 ·have g1 : ¬ ((g.bn : Int) < 1) := of_decide_eq_false g1
  intro t2 g2; cases t2
  ·have g2 : ¬ ((g.bn : Int) > 7) := of_decide_eq_false g2
   refine And.intro rfl (Exists.intro (.bool false) (And.intro rfl ?_))
   refine Exists.intro _ (Exists.intro _ (And.intro c1.of (And.intro (show _ = some (.slice g.ba g.bn g.bcap) from rfl) ?_)))
   refine callB (badBogs_ok (fun b hb => ⟨(hat.bi b hb).1, (hat.bi b hb).2.1⟩) hat.b hat.bl (by omega)) ?_
   intro tH2 H2 hH2 kH2
   have mH2 := kH2.1
   have hk := hk.trans kH2
   have hat := hat.keep kH2 (by simp)
   have c1 := kH2.cl c1 (by simp)
   cases tH2
   ·have h2 : g.bs.all Bg.ok = true := by simpa using hH2
    refine And.intro rfl (Exists.intro (.bool false) (And.intro rfl ?_))
    refine condF ?_
    refine Exists.intro _ (Exists.intro _ (And.intro c1.of (And.intro (show _ = some (iv g.winds) from rfl) ?_)))
    intro t3 g3; cases t3
    ·have g3 : ¬ (g.winds < 1) := of_decide_eq_false g3
     refine Exists.intro _ (Exists.intro _ (And.intro c1.of (And.intro (show _ = some (iv g.winds) from rfl) ?_)))
     intro t4 g4; cases t4
     ·have g4 : ¬ (g.winds ≥ 16) := of_decide_eq_false g4
      refine And.intro rfl (Exists.intro (.bool false) (And.intro rfl ?_))
      refine Exists.intro _ (Exists.intro _ (And.intro c1.of (And.intro (show _ = some (.slice g.ra g.rn g.rcap) from rfl) ?_)))
      refine callB (rates_ok (fun b hb => ⟨(hat.ri b hb).1, (hat.ri b hb).2.1⟩) hat.r hat.rl (by omega)) ?_
      intro tH3 H3 hH3 kH3
      have mH3 := kH3.1
      have hk := hk.trans kH3
      have hat := hat.keep kH3 (by simp)
      have c1 := kH3.cl c1 (by simp)
      cases tH3
      ·have h4 := hH3
       refine And.intro rfl (Exists.intro (.bool true) (And.intro rfl ?_))
       refine And.intro rfl (Exists.intro (.bool true) (And.intro rfl ?_))
       refine condT ?_
       have e : g.ok = false := by
        unfold Fh.ok inB
        first | (rw [decide_eq_false (show ¬ (1 ≤ (g.bn : Int)) by omega)]; simp; done) | (rw [decide_eq_false (show ¬ ((g.bn : Int) ≤ 7) by omega)]; simp; done) | (rw [decide_eq_false (show ¬ (1 ≤ g.winds) by omega)]; simp; done) | (rw [decide_eq_false (show ¬ (g.winds ≤ 15) by omega)]; simp; done) | (rw [decide_eq_false (show ¬ (1 ≤ g.inlet) by omega)]; simp; done) | (rw [decide_eq_false (show ¬ (g.inlet ≤ 1073741824) by omega)]; simp; done) | (unfold inB at h6; rw [h6]; simp; done) | (rw [h4]; simp; done) | (rw [h2]; simp; done)
       exact And.intro trivial (Exists.intro _ (And.intro rfl ⟨by rw [e]; rfl, hk⟩))
      ·have h4 := hH3
       refine And.intro rfl (Exists.intro (.bool false) (And.intro rfl ?_))
       refine And.intro rfl (Exists.intro (.bool false) (And.intro rfl ?_))
       refine condF ?_
       refine Exists.intro _ (Exists.intro _ (And.intro c1.of (And.intro (show _ = some (iv g.inlet) from rfl) ?_)))
       intro t5 g5; cases t5
       ·have g5 : ¬ (g.inlet ≥ 1) := of_decide_eq_false g5
        refine And.intro rfl (Exists.intro (.bool false) (And.intro rfl ?_))
        refine And.intro rfl (Exists.intro (.bool false) (And.intro rfl ?_))
        have e : g.ok = false := by
         unfold Fh.ok inB
         first | (rw [decide_eq_false (show ¬ (1 ≤ (g.bn : Int)) by omega)]; simp; done) | (rw [decide_eq_false (show ¬ ((g.bn : Int) ≤ 7) by omega)]; simp; done) | (rw [decide_eq_false (show ¬ (1 ≤ g.winds) by omega)]; simp; done) | (rw [decide_eq_false (show ¬ (g.winds ≤ 15) by omega)]; simp; done) | (rw [decide_eq_false (show ¬ (1 ≤ g.inlet) by omega)]; simp; done) | (rw [decide_eq_false (show ¬ (g.inlet ≤ 1073741824) by omega)]; simp; done) | (unfold inB at h6; rw [h6]; simp; done) | (rw [h4]; simp; done) | (rw [h2]; simp; done)
        exact And.intro trivial (Exists.intro _ (And.intro rfl ⟨by rw [e]; rfl, hk⟩))
       ·have g5 : g.inlet ≥ 1 := of_decide_eq_true g5
        refine Exists.intro _ (Exists.intro _ (And.intro c1.of (And.intro (show _ = some (iv g.inlet) from rfl) ?_)))
        intro t6 g6; cases t6
        ·have g6 : ¬ (g.inlet ≤ 1073741824) := of_decide_eq_false g6
         refine And.intro rfl (Exists.intro (.bool false) (And.intro rfl ?_))
         refine And.intro rfl (Exists.intro (.bool false) (And.intro rfl ?_))
         have e : g.ok = false := by
          unfold Fh.ok inB
          first | (rw [decide_eq_false (show ¬ (1 ≤ (g.bn : Int)) by omega)]; simp; done) | (rw [decide_eq_false (show ¬ ((g.bn : Int) ≤ 7) by omega)]; simp; done) | (rw [decide_eq_false (show ¬ (1 ≤ g.winds) by omega)]; simp; done) | (rw [decide_eq_false (show ¬ (g.winds ≤ 15) by omega)]; simp; done) | (rw [decide_eq_false (show ¬ (1 ≤ g.inlet) by omega)]; simp; done) | (rw [decide_eq_false (show ¬ (g.inlet ≤ 1073741824) by omega)]; simp; done) | (unfold inB at h6; rw [h6]; simp; done) | (rw [h4]; simp; done) | (rw [h2]; simp; done)
         exact And.intro trivial (Exists.intro _ (And.intro rfl ⟨by rw [e]; rfl, hk⟩))
        ·have g6 : g.inlet ≤ 1073741824 := of_decide_eq_true g6
         refine And.intro rfl (Exists.intro (.bool true) (And.intro rfl ?_))
         refine Exists.intro _ (Exists.intro _ (And.intro c1.of (And.intro (show _ = some (iv g.reserve) from rfl) ?_)))
         refine callB (within_ok) ?_
         intro tH4 H4 hH4 kH4
         have mH4 := kH4.1
         have hk := hk.trans kH4
         have hat := hat.keep kH4 (by simp)
         have c1 := kH4.cl c1 (by simp)
         cases tH4
         ·have h6 := hH4
          refine And.intro rfl (Exists.intro (.bool false) (And.intro rfl ?_))
          have e : g.ok = false := by
           unfold Fh.ok inB
           first | (rw [decide_eq_false (show ¬ (1 ≤ (g.bn : Int)) by omega)]; simp; done) | (rw [decide_eq_false (show ¬ ((g.bn : Int) ≤ 7) by omega)]; simp; done) | (rw [decide_eq_false (show ¬ (1 ≤ g.winds) by omega)]; simp; done) | (rw [decide_eq_false (show ¬ (g.winds ≤ 15) by omega)]; simp; done) | (rw [decide_eq_false (show ¬ (1 ≤ g.inlet) by omega)]; simp; done) | (rw [decide_eq_false (show ¬ (g.inlet ≤ 1073741824) by omega)]; simp; done) | (unfold inB at h6; rw [h6]; simp; done) | (rw [h4]; simp; done) | (rw [h2]; simp; done)
          exact And.intro trivial (Exists.intro _ (And.intro rfl ⟨by rw [e]; rfl, hk⟩))
         ·have h6 := hH4
          refine And.intro rfl (Exists.intro (.bool true) (And.intro rfl ?_))
          have e : g.ok = true := by
           unfold Fh.ok inB
           unfold inB at h6
           rw [h4, h6, h2, decide_eq_true (show 1 ≤ (g.bn : Int) by omega), decide_eq_true (show (g.bn : Int) ≤ 7 by omega), decide_eq_true (show 1 ≤ g.winds by omega), decide_eq_true (show g.winds ≤ 15 by omega), decide_eq_true (show 1 ≤ g.inlet by omega), decide_eq_true (show g.inlet ≤ 1073741824 by omega)]; rfl
          exact And.intro trivial (Exists.intro _ (And.intro rfl ⟨by rw [e]; rfl, hk⟩))
     ·have g4 : g.winds ≥ 16 := of_decide_eq_true g4
      refine And.intro rfl (Exists.intro (.bool true) (And.intro rfl ?_))
      refine And.intro rfl (Exists.intro (.bool true) (And.intro rfl ?_))
      refine condT ?_
      have e : g.ok = false := by
       unfold Fh.ok inB
       first | (rw [decide_eq_false (show ¬ (1 ≤ (g.bn : Int)) by omega)]; simp; done) | (rw [decide_eq_false (show ¬ ((g.bn : Int) ≤ 7) by omega)]; simp; done) | (rw [decide_eq_false (show ¬ (1 ≤ g.winds) by omega)]; simp; done) | (rw [decide_eq_false (show ¬ (g.winds ≤ 15) by omega)]; simp; done) | (rw [decide_eq_false (show ¬ (1 ≤ g.inlet) by omega)]; simp; done) | (rw [decide_eq_false (show ¬ (g.inlet ≤ 1073741824) by omega)]; simp; done) | (unfold inB at h6; rw [h6]; simp; done) | (rw [h4]; simp; done) | (rw [h2]; simp; done)
      exact And.intro trivial (Exists.intro _ (And.intro rfl ⟨by rw [e]; rfl, hk⟩))
    ·have g3 : g.winds < 1 := of_decide_eq_true g3
     refine And.intro rfl (Exists.intro (.bool true) (And.intro rfl ?_))
     refine And.intro rfl (Exists.intro (.bool true) (And.intro rfl ?_))
     refine condT ?_
     have e : g.ok = false := by
      unfold Fh.ok inB
      first | (rw [decide_eq_false (show ¬ (1 ≤ (g.bn : Int)) by omega)]; simp; done) | (rw [decide_eq_false (show ¬ ((g.bn : Int) ≤ 7) by omega)]; simp; done) | (rw [decide_eq_false (show ¬ (1 ≤ g.winds) by omega)]; simp; done) | (rw [decide_eq_false (show ¬ (g.winds ≤ 15) by omega)]; simp; done) | (rw [decide_eq_false (show ¬ (1 ≤ g.inlet) by omega)]; simp; done) | (rw [decide_eq_false (show ¬ (g.inlet ≤ 1073741824) by omega)]; simp; done) | (unfold inB at h6; rw [h6]; simp; done) | (rw [h4]; simp; done) | (rw [h2]; simp; done)
     exact And.intro trivial (Exists.intro _ (And.intro rfl ⟨by rw [e]; rfl, hk⟩))
   ·have h2 : g.bs.all Bg.ok = false := by simpa using hH2
    refine And.intro rfl (Exists.intro (.bool true) (And.intro rfl ?_))
    refine condT ?_
    have e : g.ok = false := by
     unfold Fh.ok inB
     first | (rw [decide_eq_false (show ¬ (1 ≤ (g.bn : Int)) by omega)]; simp; done) | (rw [decide_eq_false (show ¬ ((g.bn : Int) ≤ 7) by omega)]; simp; done) | (rw [decide_eq_false (show ¬ (1 ≤ g.winds) by omega)]; simp; done) | (rw [decide_eq_false (show ¬ (g.winds ≤ 15) by omega)]; simp; done) | (rw [decide_eq_false (show ¬ (1 ≤ g.inlet) by omega)]; simp; done) | (rw [decide_eq_false (show ¬ (g.inlet ≤ 1073741824) by omega)]; simp; done) | (unfold inB at h6; rw [h6]; simp; done) | (rw [h4]; simp; done) | (rw [h2]; simp; done)
    exact And.intro trivial (Exists.intro _ (And.intro rfl ⟨by rw [e]; rfl, hk⟩))
  ·have g2 : (g.bn : Int) > 7 := of_decide_eq_true g2
   refine And.intro rfl (Exists.intro (.bool true) (And.intro rfl ?_))
   refine And.intro rfl (Exists.intro (.bool true) (And.intro rfl ?_))
   refine condT ?_
   have e : g.ok = false := by
    unfold Fh.ok inB
    first | (rw [decide_eq_false (show ¬ (1 ≤ (g.bn : Int)) by omega)]; simp; done) | (rw [decide_eq_false (show ¬ ((g.bn : Int) ≤ 7) by omega)]; simp; done) | (rw [decide_eq_false (show ¬ (1 ≤ g.winds) by omega)]; simp; done) | (rw [decide_eq_false (show ¬ (g.winds ≤ 15) by omega)]; simp; done) | (rw [decide_eq_false (show ¬ (1 ≤ g.inlet) by omega)]; simp; done) | (rw [decide_eq_false (show ¬ (g.inlet ≤ 1073741824) by omega)]; simp; done) | (unfold inB at h6; rw [h6]; simp; done) | (rw [h4]; simp; done) | (rw [h2]; simp; done)
   exact And.intro trivial (Exists.intro _ (And.intro rfl ⟨by rw [e]; rfl, hk⟩))
 ·have g1 : (g.bn : Int) < 1 := of_decide_eq_true g1
  refine And.intro rfl (Exists.intro (.bool true) (And.intro rfl ?_))
  refine And.intro rfl (Exists.intro (.bool true) (And.intro rfl ?_))
  refine condT ?_
  have e : g.ok = false := by
   unfold Fh.ok inB
   first | (rw [decide_eq_false (show ¬ (1 ≤ (g.bn : Int)) by omega)]; simp; done) | (rw [decide_eq_false (show ¬ ((g.bn : Int) ≤ 7) by omega)]; simp; done) | (rw [decide_eq_false (show ¬ (1 ≤ g.winds) by omega)]; simp; done) | (rw [decide_eq_false (show ¬ (g.winds ≤ 15) by omega)]; simp; done) | (rw [decide_eq_false (show ¬ (1 ≤ g.inlet) by omega)]; simp; done) | (rw [decide_eq_false (show ¬ (g.inlet ≤ 1073741824) by omega)]; simp; done) | (unfold inB at h6; rw [h6]; simp; done) | (rw [h4]; simp; done) | (rw [h2]; simp; done)
  exact And.intro trivial (Exists.intro _ (And.intro rfl ⟨by rw [e]; rfl, hk⟩))
end
end Go.Ax
/-
 Flood: the document's Harvest (28) (written by program).
-/
namespace Go.Ax
open Go Go.RowKit Go.Proofs
theorem inB_t {n a b : Int} (h : inB n a b = true) : a ≤ n ∧ n ≤ b := by
 simpa [inB] using h
theorem inB_f {n a b : Int} (h : inB n a b = false) : ¬ (a ≤ n ∧ n ≤ b) := by
 intro q
 simp [inB] at h
 omega
theorem inB_is {n a b : Int} (h : a ≤ n ∧ n ≤ b) : inB n a b = true := by
 simp [inB]; omega
theorem inB_no {n a b : Int} (h : ¬ (a ≤ n ∧ n ≤ b)) : inB n a b = false := by
 cases e : inB n a b
 ·rfl
 ·exact absurd (inB_t e) h
section
variable {kn : FuncId → Option Bool} {lo : Nat} {H : Hp}
theorem Harvest_ok {g : Fh} {f : Nat} (hat : g.At f H) (hlo : lo ≤ H.next) : ∃ H', FnX Try.prog kn lo 28 [.agg g.v.toArray] H (.bool g.ok) H' ∧ Keep H H' [] := by
 have key := fnX_low (kn := kn) (lo := lo) (H := H) (args := [.agg g.v.toArray]) (Q := fun w H' => w = .bool g.ok ∧ Keep H H' []) Try.func28 B28 N28 Z28 L28 (by simp) ?_
 ·obtain ⟨w, H', h, rfl, q⟩ := key; exact ⟨H', h, q⟩
 have hk := Keep.refl H []
 have hfl := hat.le
 intro H1 hH1; obtain ⟨kH1, nH1, c1⟩ := new_facts hH1; clear hH1
 have mH1 := kH1.1
 have hk := hk.trans kH1
 have hat := hat.keep kH1 (by simp)
 have c1 : Cl H1 H.next [.slice g.ba g.bn g.bcap, .slice g.ra g.rn g.rcap, iv g.inlet, iv g.reserve, iv g.winds] := c1
 refine Exists.intro _ (Exists.intro _ (And.intro c1.of (And.intro (show _ = some (.slice g.ba g.bn g.bcap) from rfl) ?_)))
 refine callB (in37_ok) ?_
 intro tH2 H2 hH2 kH2
 have mH2 := kH2.1
 have hk := hk.trans kH2
 have hat := hat.keep kH2 (by simp)
 have c1 := kH2.cl c1 (by simp)
 cases tH2
 ·have i1 := inB_f hH2
  refine And.intro rfl (Exists.intro (.bool true) (And.intro rfl ?_))
  refine And.intro rfl (Exists.intro (.bool true) (And.intro rfl ?_))
  refine And.intro rfl (Exists.intro (.bool true) (And.intro rfl ?_))
  refine And.intro rfl (Exists.intro (.bool true) (And.intro rfl ?_))
  refine And.intro rfl (Exists.intro (.bool true) (And.intro rfl ?_))
  refine condT ?_
  have e : g.ok = false := by
   unfold Fh.ok
   first | (rw [inB_no i1]; rfl) | (rw [inB_no i2]; simp; done) | (rw [decide_eq_false (show ¬ (g.rn = g.bn) by omega)]; simp; done) | (rw [inB_no i3]; simp; done) | (rw [inB_no i4]; simp; done)
  exact And.intro trivial (Exists.intro _ (And.intro rfl ⟨by rw [e]; rfl, hk⟩))
 ·have i1 := inB_t hH2
  refine And.intro rfl (Exists.intro (.bool false) (And.intro rfl ?_))
  refine Exists.intro _ (Exists.intro _ (And.intro c1.of (And.intro (show _ = some (iv g.winds) from rfl) ?_)))
  refine callB (in37_ok) ?_
  intro tH3 H3 hH3 kH3
  have mH3 := kH3.1
  have hk := hk.trans kH3
  have hat := hat.keep kH3 (by simp)
  have c1 := kH3.cl c1 (by simp)
  cases tH3
  ·have i2 := inB_f hH3
   refine And.intro rfl (Exists.intro (.bool true) (And.intro rfl ?_))
   refine And.intro rfl (Exists.intro (.bool true) (And.intro rfl ?_))
   refine And.intro rfl (Exists.intro (.bool true) (And.intro rfl ?_))
   refine And.intro rfl (Exists.intro (.bool true) (And.intro rfl ?_))
   refine And.intro rfl (Exists.intro (.bool true) (And.intro rfl ?_))
   refine condT ?_
   have e : g.ok = false := by
    unfold Fh.ok
    first | (rw [inB_no i1]; rfl) | (rw [inB_no i2]; simp; done) | (rw [decide_eq_false (show ¬ (g.rn = g.bn) by omega)]; simp; done) | (rw [inB_no i3]; simp; done) | (rw [inB_no i4]; simp; done)
   exact And.intro trivial (Exists.intro _ (And.intro rfl ⟨by rw [e]; rfl, hk⟩))
  ·have i2 := inB_t hH3
   refine And.intro rfl (Exists.intro (.bool false) (And.intro rfl ?_))
   refine And.intro rfl (Exists.intro (.bool false) (And.intro rfl ?_))
   refine Exists.intro _ (Exists.intro _ (And.intro c1.of (And.intro (show _ = some (.slice g.ra g.rn g.rcap) from rfl) ?_)))
   intro t1 g1; cases t1
   ·have g1 : ¬ ((g.rn : Int) ≠ (g.bn : Int)) := by simpa using g1
    refine And.intro rfl (Exists.intro (.bool false) (And.intro rfl ?_))
    refine Exists.intro _ (Exists.intro _ (And.intro c1.of (And.intro (show _ = some (iv g.inlet) from rfl) ?_)))
    refine callB (in37_ok) ?_
    intro tH4 H4 hH4 kH4
    have mH4 := kH4.1
    have hk := hk.trans kH4
    have hat := hat.keep kH4 (by simp)
    have c1 := kH4.cl c1 (by simp)
    cases tH4
    ·have i3 := inB_f hH4
     refine And.intro rfl (Exists.intro (.bool true) (And.intro rfl ?_))
     refine And.intro rfl (Exists.intro (.bool true) (And.intro rfl ?_))
     refine And.intro rfl (Exists.intro (.bool true) (And.intro rfl ?_))
     refine condT ?_
     have e : g.ok = false := by
      unfold Fh.ok
      first | (rw [inB_no i1]; rfl) | (rw [inB_no i2]; simp; done) | (rw [decide_eq_false (show ¬ (g.rn = g.bn) by omega)]; simp; done) | (rw [inB_no i3]; simp; done) | (rw [inB_no i4]; simp; done)
     exact And.intro trivial (Exists.intro _ (And.intro rfl ⟨by rw [e]; rfl, hk⟩))
    ·have i3 := inB_t hH4
     refine And.intro rfl (Exists.intro (.bool false) (And.intro rfl ?_))
     refine And.intro rfl (Exists.intro (.bool false) (And.intro rfl ?_))
     refine Exists.intro _ (Exists.intro _ (And.intro c1.of (And.intro (show _ = some (iv g.reserve) from rfl) ?_)))
     refine callB (in37_ok) ?_
     intro tH5 H5 hH5 kH5
     have mH5 := kH5.1
     have hk := hk.trans kH5
     have hat := hat.keep kH5 (by simp)
     have c1 := kH5.cl c1 (by simp)
     cases tH5
     ·have i4 := inB_f hH5
      refine And.intro rfl (Exists.intro (.bool true) (And.intro rfl ?_))
      refine And.intro rfl (Exists.intro (.bool true) (And.intro rfl ?_))
      refine condT ?_
      have e : g.ok = false := by
       unfold Fh.ok
       first | (rw [inB_no i1]; rfl) | (rw [inB_no i2]; simp; done) | (rw [decide_eq_false (show ¬ (g.rn = g.bn) by omega)]; simp; done) | (rw [inB_no i3]; simp; done) | (rw [inB_no i4]; simp; done)
      exact And.intro trivial (Exists.intro _ (And.intro rfl ⟨by rw [e]; rfl, hk⟩))
     ·have i4 := inB_t hH5
      refine And.intro rfl (Exists.intro (.bool false) (And.intro rfl ?_))
      refine And.intro rfl (Exists.intro (.bool false) (And.intro rfl ?_))
      refine condF ?_
      refine loop_low (fn := Try.f28) E28_1 N28 L28x1 (fun i : Nat => [(1, pt H.next), (3, iv (g.bn : Int)), (4, iv (i : Int))])
       (fun k i H' => i + k = g.bn ∧ Keep H5 H' [] ∧ (g.bs.take i).all Bg.ok = true ∧ (g.rs.take i).all (Rw.ok g.bn) = true) g.bn 0 ⟨by omega, Keep.refl _ _, rfl, rfl⟩ ⟨rfl, rfl, rfl, trivial⟩ ?_
      rintro k i L1 ⟨hik, hki, hall, hal2⟩
      have hk := hk.trans hki
      have hat := hat.keep hki (by simp)
      have c1 := hki.cl c1 (by simp)
      have kb := hki
      have mi := hki.1
      refine And.intro (fun q2 => ?_) (fun q2 => ?_)
      ·have q2 : (i : Int) < (g.bn : Int) := of_decide_eq_true q2
       have hi : i < g.bn := by omega
       obtain ⟨xb, eb, rb, lb⟩ := hat.bog (by omega)
       obtain ⟨xr, er, rr, lr⟩ := hat.rts (by omega)
       have hbi := getB (g := g) (i := i) (by rw [hat.bl]; exact hi)
       have hri := getR (g := g) (i := i) (by rw [hat.rl]; omega)
       have hst := all_step (f := Bg.ok) hbi
       have hst2 := all_step (f := Rw.ok g.bn) hri
       obtain ⟨hw, hwl, hwf⟩ := hat.wrk hi
       obtain ⟨hr, hrl, hrf⟩ := hat.row (i := i) (by omega)
       refine Exists.intro _ (Exists.intro _ (And.intro c1.of (And.intro (show _ = some (Value.slice (some ⟨xb, 0, none⟩) g.bn g.bcap) from by rw [← eb]; rfl) ?_)))
       refine Exists.intro i (And.intro rfl (And.intro hi ?_))
       refine Exists.intro _ (Exists.intro _ (And.intro rb.of (And.intro (bgc_row hbi) ?_)))
       intro H6 hH6; obtain ⟨kH6, nH6, c6⟩ := new_facts hH6; clear hH6
       have c6 : Cl H6 L1.next [iv 0, iv 0, iv 0, .slice none 0 0] := c6
       have mH6 := kH6.1
       have hk := hk.trans kH6
       have hat := hat.keep kH6 (by simp)
       have c1 := kH6.cl c1 (by simp)
       have kb := kb.trans kH6
       have rb := kH6.rd rb (by simp)
       have rr := kH6.rd rr (by simp)
       have hw := kH6.sl0 hw
       have hr := kH6.sl0 hr
       obtain ⟨_, eH7, lH7, gH7⟩ := id c6
       refine Exists.intro _ (Exists.intro _ (Exists.intro _ (And.intro gH7 (And.intro (by omega) (And.intro rfl (And.intro rfl (And.intro (by simp) ?_)))))))
       intro H7 hH7; obtain ⟨kH7, nH7, sH7⟩ := up_facts c6 hH7; clear hH7
       have mH7 := kH7.1
       have hk := hk.new kH7 (fun b hb => by simp at hb ⊢; omega)
       have hat := hat.keep kH7 (fun x hx => by first | (simp at hx; done) | (simp at hx; omega))
       have c1 := kH7.cl c1 (by simp <;> omega)
       have kb := kb.new kH7 (fun b hb => by simp at hb ⊢; omega)
       have rb := kH7.rd rb (by simp <;> omega)
       have rr := kH7.rd rr (by simp <;> omega)
       have hw := kH7.sl hw (fun b e => by have := hwf b e; first | (simp; done) | (simp; omega))
       have hr := kH7.sl hr (fun b e => by have := hrf b e; first | (simp; done) | (simp; omega))
       have c6 : Cl H7 L1.next [iv ((g.B i).need), iv ((g.B i).l1), iv ((g.B i).l2), .slice ((g.B i).wa) ((g.B i).wn) ((g.B i).wcap)] := sH7
       refine Exists.intro _ (Exists.intro _ (And.intro c6.of (And.intro (show _ = some (iv ((g.B i).need)) from rfl) ?_)))
       refine callB (in37_ok) ?_
       intro tH8 H8 hH8 kH8
       have mH8 := kH8.1
       have hk := hk.trans kH8
       have hat := hat.keep kH8 (by simp)
       have c1 := kH8.cl c1 (by simp)
       have kb := kb.trans kH8
       have rb := kH8.rd rb (by simp)
       have rr := kH8.rd rr (by simp)
       have hw := kH8.sl0 hw
       have hr := kH8.sl0 hr
       have c6 := kH8.cl c6 (by simp)
       cases tH8
       ·have i5 := inB_f hH8
        refine And.intro rfl (Exists.intro (.bool true) (And.intro rfl ?_))
        refine And.intro rfl (Exists.intro (.bool true) (And.intro rfl ?_))
        refine And.intro rfl (Exists.intro (.bool true) (And.intro rfl ?_))
        refine And.intro rfl (Exists.intro (.bool true) (And.intro rfl ?_))
        refine condT ?_
        have hb : (g.B i).ok = false ∨ (g.R i).ok g.bn = false := by
         first
          | (refine Or.inl ?_; unfold Bg.ok; rw [inB_no i5]; rfl)
          | (refine Or.inl ?_; unfold Bg.ok; rw [i7]; simp; done)
          | (refine Or.inl ?_; unfold Bg.ok; rw [decide_eq_false (show ¬ ((g.B i).wn = 4) by omega)]; simp; done)
          | (refine Or.inr ?_; unfold Rw.ok; rw [decide_eq_false (show ¬ ((g.R i).n = g.bn) by omega)]; simp; done)
        have e : g.ok = false := by
         unfold Fh.ok
         rcases hb with hb | hb
         ·rw [all_fail (f := Bg.ok) hbi hb]; simp
         ·rw [all_fail (f := Rw.ok g.bn) hri hb]; simp
        exact And.intro trivial (Exists.intro _ (And.intro rfl ⟨by rw [e]; rfl, hk⟩))
       ·have i5 := inB_t hH8
        refine And.intro rfl (Exists.intro (.bool false) (And.intro rfl ?_))
        refine Exists.intro _ (Exists.intro _ (And.intro c6.of (And.intro (show row 2 _ _ = some [iv ((g.B i).l1), iv ((g.B i).l2)] from rfl) ?_)))
        refine callB (Within_ok) ?_
        intro tH9 H9 hH9 kH9
        have mH9 := kH9.1
        have hk := hk.trans kH9
        have hat := hat.keep kH9 (by simp)
        have c1 := kH9.cl c1 (by simp)
        have kb := kb.trans kH9
        have rb := kH9.rd rb (by simp)
        have rr := kH9.rd rr (by simp)
        have hw := kH9.sl0 hw
        have hr := kH9.sl0 hr
        have c6 := kH9.cl c6 (by simp)
        cases tH9
        ·have i7 := hH9
         refine And.intro rfl (Exists.intro (.bool true) (And.intro rfl ?_))
         refine And.intro rfl (Exists.intro (.bool true) (And.intro rfl ?_))
         refine And.intro rfl (Exists.intro (.bool true) (And.intro rfl ?_))
         refine And.intro rfl (Exists.intro (.bool true) (And.intro rfl ?_))
         refine condT ?_
         have hb : (g.B i).ok = false ∨ (g.R i).ok g.bn = false := by
          first
           | (refine Or.inl ?_; unfold Bg.ok; rw [inB_no i5]; rfl)
           | (refine Or.inl ?_; unfold Bg.ok; rw [i7]; simp; done)
           | (refine Or.inl ?_; unfold Bg.ok; rw [decide_eq_false (show ¬ ((g.B i).wn = 4) by omega)]; simp; done)
           | (refine Or.inr ?_; unfold Rw.ok; rw [decide_eq_false (show ¬ ((g.R i).n = g.bn) by omega)]; simp; done)
         have e : g.ok = false := by
          unfold Fh.ok
          rcases hb with hb | hb
          ·rw [all_fail (f := Bg.ok) hbi hb]; simp
          ·rw [all_fail (f := Rw.ok g.bn) hri hb]; simp
         exact And.intro trivial (Exists.intro _ (And.intro rfl ⟨by rw [e]; rfl, hk⟩))
        ·have i7 := hH9
         refine And.intro rfl (Exists.intro (.bool false) (And.intro rfl ?_))
         refine And.intro rfl (Exists.intro (.bool false) (And.intro rfl ?_))
         refine Exists.intro _ (Exists.intro _ (And.intro c6.of (And.intro (show _ = some (.slice ((g.B i).wa) ((g.B i).wn) ((g.B i).wcap)) from rfl) ?_)))
         intro t3 g3; cases t3
         ·have g3 : ¬ (((g.B i).wn : Int) ≠ 4) := by simpa using g3
          refine And.intro rfl (Exists.intro (.bool false) (And.intro rfl ?_))
          refine Exists.intro _ (Exists.intro _ (And.intro c1.of (And.intro (show _ = some (Value.slice (some ⟨xr, 0, none⟩) g.rn g.rcap) from by rw [← er]; rfl) ?_)))
          refine Exists.intro i (And.intro rfl (And.intro (by omega) ?_))
          refine Exists.intro _ (Exists.intro _ (And.intro rr.of (And.intro (rwc_row hri) ?_)))
          intro t4 g4; cases t4
          ·have g4 : ¬ (((g.R i).n : Int) ≠ (g.bn : Int)) := by simpa using g4
           refine And.intro rfl (Exists.intro (.bool false) (And.intro rfl ?_))
           refine condF ?_
           rcases hw with ⟨_, h0, _⟩ | ⟨xw, ew, rw, _⟩
           ·omega
           have lw := hwf xw ew
           rcases hr with ⟨_, h0, _⟩ | ⟨xi, ei, ri, _⟩
           ·omega
           have li := hrf xi ei
           refine loop_low (fn := Try.f28) E28_2 N28 L28x2 (fun j : Nat => [(1, pt H.next), (3, iv (g.bn : Int)), (4, iv (i : Int)), (5, pt L1.next), (6, iv (j : Int))])
            (fun q j H' => j + q = 4 ∧ Keep H9 H' [] ∧ ((g.B i).ws.take j).all (spOk 16384) = true) 4 0 ⟨by omega, Keep.refl _ _, rfl⟩ ⟨rfl, rfl, rfl, rfl, rfl, trivial⟩ ?_
           rintro q j L2 ⟨hjq, hkj, halj⟩
           have hk := hk.trans hkj
           have hat := hat.keep hkj (by simp)
           have c1 := hkj.cl c1 (by simp)
           have kb := kb.trans hkj
           have rb := hkj.rd rb (by simp)
           have rr := hkj.rd rr (by simp)
           have c6 := hkj.cl c6 (by simp)
           have rw := hkj.rd rw (by simp)
           have ri := hkj.rd ri (by simp)
           have mj := hkj.1
           have kc := hkj
           refine And.intro (fun q5 => ?_) (fun q5 => ?_)
           ·have q5 : (j : Int) < 4 := of_decide_eq_true q5
            have hj : j < 4 := by omega
            have hsi := getS (b := g.B i) (i := j) (by omega)
            have hsj := all_step (f := spOk 16384) hsi
            refine Exists.intro _ (Exists.intro _ (And.intro c6.of (And.intro (show _ = some (Value.slice (some ⟨xw, 0, none⟩) ((g.B i).wn) ((g.B i).wcap)) from by rw [← ew]; rfl) ?_)))
            refine Exists.intro j (And.intro rfl (And.intro (by omega) ?_))
            refine Exists.intro _ (Exists.intro _ (And.intro rw.of (And.intro (spc_row hsi) ?_)))
            refine callB (Within_ok) ?_
            intro tH10 H10 hH10 kH10
            have mH10 := kH10.1
            have hk := hk.trans kH10
            have hat := hat.keep kH10 (by simp)
            have c1 := kH10.cl c1 (by simp)
            have kb := kb.trans kH10
            have rb := kH10.rd rb (by simp)
            have rr := kH10.rd rr (by simp)
            have c6 := kH10.cl c6 (by simp)
            have rw := kH10.rd rw (by simp)
            have ri := kH10.rd ri (by simp)
            have kc := kc.trans kH10
            cases tH10
            ·have i8 := hH10
             refine And.intro rfl (Exists.intro (.bool true) (And.intro rfl ?_))
             refine condT ?_
             have hb : (g.B i).ok = false := by
              unfold Bg.ok
              rw [all_fail (f := spOk 16384) hsi i8, Bool.and_false]
             have e : g.ok = false := by
              unfold Fh.ok
              rw [all_fail (f := Bg.ok) hbi hb]; simp
             exact And.intro trivial (Exists.intro _ (And.intro rfl ⟨by rw [e]; rfl, hk⟩))
            ·have i8 := hH10
             refine And.intro rfl (Exists.intro (.bool false) (And.intro rfl ?_))
             refine condF ?_
             refine And.intro (show InR ((j : Int) + 1) from ⟨by omega, by omega⟩) ?_
             exact ⟨q - 1, j + 1, by omega, ⟨by omega, kc, by rw [hsj, halj, show spOk 16384 ((g.B i).S j) = true from i8]; rfl⟩, rfl, rfl, rfl, rfl, rfl, trivial⟩
           ·have q5 : ¬ ((j : Int) < 4) := of_decide_eq_false q5
            rw [List.take_of_length_le (by omega)] at halj
            refine loop_low (fn := Try.f28) E28_3 N28 L28x3 (fun j : Nat => [(1, pt H.next), (3, iv (g.bn : Int)), (4, iv (i : Int)), (7, iv (j : Int))])
             (fun q j H' => j + q = g.bn ∧ Keep L2 H' [] ∧ ((g.R i).l.take j).all rtOk = true) g.bn 0 ⟨by omega, Keep.refl _ _, rfl⟩ ⟨rfl, rfl, rfl, rfl, trivial⟩ ?_
            rintro q j L3 ⟨hjq, hkj, halr⟩
            have hk := hk.trans hkj
            have hat := hat.keep hkj (by simp)
            have c1 := hkj.cl c1 (by simp)
            have kb := kb.trans hkj
            have rb := hkj.rd rb (by simp)
            have rr := hkj.rd rr (by simp)
            have c6 := hkj.cl c6 (by simp)
            have rw := hkj.rd rw (by simp)
            have ri := hkj.rd ri (by simp)
            have mj2 := hkj.1
            have kc := hkj
            refine And.intro (fun q6 => ?_) (fun q6 => ?_)
            ·have q6 : (j : Int) < (g.bn : Int) := of_decide_eq_true q6
             have hj : j < g.bn := by omega
             have hrj := getI (l := (g.R i).l) (i := j) (by omega)
             have hsj := all_step (f := rtOk) hrj
             refine Exists.intro _ (Exists.intro _ (And.intro c1.of (And.intro (show _ = some (Value.slice (some ⟨xr, 0, none⟩) g.rn g.rcap) from by rw [← er]; rfl) ?_)))
             refine Exists.intro i (And.intro rfl (And.intro (by omega) ?_))
             refine Exists.intro _ (Exists.intro _ (And.intro rr.of (And.intro (show _ = some (Value.slice (some ⟨xi, 0, none⟩) ((g.R i).n) ((g.R i).cap)) from by rw [← ei]; exact (rwc_row hri)) ?_)))
             refine Exists.intro j (And.intro rfl (And.intro (by omega) ?_))
             refine Exists.intro _ (Exists.intro _ (And.intro ri.of (And.intro (ints_at hrj) ?_)))
             refine callB (in37_ok) ?_
             intro tH11 H11 hH11 kH11
             have mH11 := kH11.1
             have hk := hk.trans kH11
             have hat := hat.keep kH11 (by simp)
             have c1 := kH11.cl c1 (by simp)
             have kb := kb.trans kH11
             have rb := kH11.rd rb (by simp)
             have rr := kH11.rd rr (by simp)
             have c6 := kH11.cl c6 (by simp)
             have rw := kH11.rd rw (by simp)
             have ri := kH11.rd ri (by simp)
             have kc := kc.trans kH11
             cases tH11
             ·have i6 := inB_f hH11
              refine And.intro rfl (Exists.intro (.bool true) (And.intro rfl ?_))
              refine condT ?_
              have hb : (g.R i).ok g.bn = false := by
               unfold Rw.ok
               rw [all_fail (f := rtOk) hrj (inB_no i6), Bool.and_false]
              have e : g.ok = false := by
               unfold Fh.ok
               rw [all_fail (f := Rw.ok g.bn) hri hb]; simp
              exact And.intro trivial (Exists.intro _ (And.intro rfl ⟨by rw [e]; rfl, hk⟩))
             ·have i6 := inB_t hH11
              refine And.intro rfl (Exists.intro (.bool false) (And.intro rfl ?_))
              refine condF ?_
              refine And.intro (show InR ((j : Int) + 1) from ⟨by omega, by omega⟩) ?_
              exact ⟨q - 1, j + 1, by omega, ⟨by omega, kc, by rw [hsj, halr, show rtOk ((g.R i).l.getD j 0) = true from inB_is i6]; rfl⟩, rfl, rfl, rfl, rfl, trivial⟩
            ·have q6 : ¬ ((j : Int) < (g.bn : Int)) := of_decide_eq_false q6
             rw [List.take_of_length_le (by omega)] at halr
             have hbk : (g.B i).ok = true := by
              unfold Bg.ok
              rw [halj, i7, inB_is i5, decide_eq_true (show (g.B i).wn = 4 by omega)]; rfl
             have hrk : (g.R i).ok g.bn = true := by
              unfold Rw.ok
              rw [halr, decide_eq_true (show (g.R i).n = g.bn by omega)]; rfl
             refine And.intro (show InR ((i : Int) + 1) from ⟨by omega, by omega⟩) ?_
             exact ⟨k - 1, i + 1, by omega, ⟨by omega, kb, by rw [hst, hall, hbk]; rfl, by rw [hst2, hal2, hrk]; rfl⟩, rfl, rfl, rfl, trivial⟩
          ·have g4 : ((g.R i).n : Int) ≠ (g.bn : Int) := by simpa using g4
           refine And.intro rfl (Exists.intro (.bool true) (And.intro rfl ?_))
           refine condT ?_
           have hb : (g.B i).ok = false ∨ (g.R i).ok g.bn = false := by
            first
             | (refine Or.inl ?_; unfold Bg.ok; rw [inB_no i5]; rfl)
             | (refine Or.inl ?_; unfold Bg.ok; rw [i7]; simp; done)
             | (refine Or.inl ?_; unfold Bg.ok; rw [decide_eq_false (show ¬ ((g.B i).wn = 4) by omega)]; simp; done)
             | (refine Or.inr ?_; unfold Rw.ok; rw [decide_eq_false (show ¬ ((g.R i).n = g.bn) by omega)]; simp; done)
           have e : g.ok = false := by
            unfold Fh.ok
            rcases hb with hb | hb
            ·rw [all_fail (f := Bg.ok) hbi hb]; simp
            ·rw [all_fail (f := Rw.ok g.bn) hri hb]; simp
           exact And.intro trivial (Exists.intro _ (And.intro rfl ⟨by rw [e]; rfl, hk⟩))
         ·have g3 : ((g.B i).wn : Int) ≠ 4 := by simpa using g3
          refine And.intro rfl (Exists.intro (.bool true) (And.intro rfl ?_))
          refine And.intro rfl (Exists.intro (.bool true) (And.intro rfl ?_))
          refine condT ?_
          have hb : (g.B i).ok = false ∨ (g.R i).ok g.bn = false := by
           first
            | (refine Or.inl ?_; unfold Bg.ok; rw [inB_no i5]; rfl)
            | (refine Or.inl ?_; unfold Bg.ok; rw [i7]; simp; done)
            | (refine Or.inl ?_; unfold Bg.ok; rw [decide_eq_false (show ¬ ((g.B i).wn = 4) by omega)]; simp; done)
            | (refine Or.inr ?_; unfold Rw.ok; rw [decide_eq_false (show ¬ ((g.R i).n = g.bn) by omega)]; simp; done)
          have e : g.ok = false := by
           unfold Fh.ok
           rcases hb with hb | hb
           ·rw [all_fail (f := Bg.ok) hbi hb]; simp
           ·rw [all_fail (f := Rw.ok g.bn) hri hb]; simp
          exact And.intro trivial (Exists.intro _ (And.intro rfl ⟨by rw [e]; rfl, hk⟩))
      ·have q2 : ¬ ((i : Int) < (g.bn : Int)) := of_decide_eq_false q2
       have ei : i = g.bn := by omega
       subst ei
       rw [List.take_of_length_le (by rw [hat.bl]; omega)] at hall
       rw [List.take_of_length_le (by rw [hat.rl]; omega)] at hal2
       have e : g.ok = true := by
        unfold Fh.ok
        rw [hall, hal2, inB_is i1, inB_is i2, inB_is i3, inB_is i4, decide_eq_true (show g.rn = g.bn by omega)]; rfl
       exact And.intro trivial (Exists.intro _ (And.intro rfl ⟨by rw [e]; rfl, hk⟩))
   ·have g1 : (g.rn : Int) ≠ (g.bn : Int) := by simpa using g1
    refine And.intro rfl (Exists.intro (.bool true) (And.intro rfl ?_))
    refine And.intro rfl (Exists.intro (.bool true) (And.intro rfl ?_))
    refine And.intro rfl (Exists.intro (.bool true) (And.intro rfl ?_))
    refine condT ?_
    have e : g.ok = false := by
     unfold Fh.ok
     first | (rw [inB_no i1]; rfl) | (rw [inB_no i2]; simp; done) | (rw [decide_eq_false (show ¬ (g.rn = g.bn) by omega)]; simp; done) | (rw [inB_no i3]; simp; done) | (rw [inB_no i4]; simp; done)
    exact And.intro trivial (Exists.intro _ (And.intro rfl ⟨by rw [e]; rfl, hk⟩))
end
end Go.Ax
/-! What 'low' makes of functions of flood (written by program). -/
namespace Go.Ax
open Go Go.RowKit Go.Proofs
theorem N82 : Try.f82.ntmps = 8 := by kernel_rfl
theorem Z82 : Try.f82.results.toList = ((List.toArray [(.cell 4 30)]) : Array ResultVar).toList := by kernel_rfl
theorem B82 : Try.f82.body = some (at_ Try.f82 []) := by kernel_rfl
noncomputable def R82 : RC := (.seq (.reg [⟨(some 4), none, (.alc 30 [(.int .i64 0), (.int .i64 0)])⟩])
 (.seq (.reg [⟨(some 5), none, (.mov (.tmp 0))⟩, ⟨(some 6), none, (.mov (.tmp 1))⟩, ⟨(some 7), none, (.pur ⟨(some 7), (.build 30 (List.toArray [(0, (.tmp 5)), (1, (.tmp 6))])), 30, "", (List.toArray []), none⟩)⟩, ⟨none, none, (.sta (.tmp 4) (.tmp 7) 2)⟩])
 .ret))
theorem L82 : low Try.prog Try.f82.ntmps (at_ Try.f82 []) = some R82 := by kernel_rfl
theorem N84 : Try.f84.ntmps = 11 := by kernel_rfl
theorem Z84 : Try.f84.results.toList = ((List.toArray [(.tmp 4)]) : Array ResultVar).toList := by kernel_rfl
theorem B84 : Try.f84.body = some (at_ Try.f84 []) := by kernel_rfl
noncomputable def R84 : RC := (.seq (.reg [⟨(some 4), none, (.mov (.const (.int .i64 0)))⟩])
 (.seq (.reg [⟨(some 5), none, (.mov (.tmp 0))⟩, ⟨(some 6), none, (.mov (.tmp 1))⟩, ⟨(some 7), none, (.ari .add (.tmp 5) (.tmp 6))⟩, ⟨(some 8), none, (.ari .sub (.tmp 7) (.const (.int .i64 1)))⟩, ⟨(some 9), none, (.mov (.tmp 1))⟩, ⟨(some 10), none, (.ari .quo (.tmp 8) (.tmp 9))⟩, ⟨(some 4), none, (.mov (.tmp 10))⟩])
 .ret))
theorem L84 : low Try.prog Try.f84.ntmps (at_ Try.f84 []) = some R84 := by kernel_rfl
theorem N85 : Try.f85.ntmps = 16 := by kernel_rfl
theorem Z85 : Try.f85.results.toList = ((List.toArray [(.cell 4 30)]) : Array ResultVar).toList := by kernel_rfl
theorem B85 : Try.f85.body = some (at_ Try.f85 []) := by kernel_rfl
noncomputable def R85 : RC := (.seq (.reg [⟨(some 2), none, (.box 30 (.tmp 0))⟩, ⟨(some 3), none, (.box 30 (.tmp 1))⟩, ⟨(some 4), none, (.alc 30 [(.int .i64 0), (.int .i64 0)])⟩])
 (.seq (.reg [⟨(some 5), none, (.addo (.tmp 2) 0)⟩, ⟨(some 6), none, (.ld (.tmp 5) 1)⟩, ⟨(some 7), none, (.addo (.tmp 3) 0)⟩, ⟨(some 8), none, (.ld (.tmp 7) 1)⟩, ⟨(some 9), none, (.ari .add (.tmp 6) (.tmp 8))⟩, ⟨(some 10), none, (.addo (.tmp 2) 1)⟩, ⟨(some 11), none, (.ld (.tmp 10) 1)⟩, ⟨(some 12), none, (.addo (.tmp 3) 1)⟩, ⟨(some 13), none, (.ld (.tmp 12) 1)⟩, ⟨(some 14), none, (.ari .add (.tmp 11) (.tmp 13))⟩, ⟨(some 15), none, (.call ⟨(.value (.func 82)), (List.toArray [(.tmp 9), (.tmp 14)]), (List.toArray [3, 3])⟩ true)⟩, ⟨none, none, (.sta (.tmp 4) (.tmp 15) 2)⟩])
 .ret))
theorem L85 : low Try.prog Try.f85.ntmps (at_ Try.f85 []) = some R85 := by kernel_rfl
theorem N83 : Try.f83.ntmps = 90 := by kernel_rfl
theorem Z83 : Try.f83.results.toList = ((List.toArray []) : Array ResultVar).toList := by kernel_rfl
theorem B83 : Try.f83.body = some (at_ Try.f83 []) := by kernel_rfl
noncomputable def R83 : RC := (.seq (.reg [⟨(some 5), none, (.box 71 (.tmp 0))⟩, ⟨(some 8), none, (.box 30 (.tmp 3))⟩])
 (.seq (.dreg [⟨(some 14), none, (.addo (.tmp 5) 0)⟩, ⟨(some 15), none, (.addo (.tmp 14) 0)⟩, ⟨(some 16), none, (.ld (.tmp 15) 1)⟩, ⟨(some 17), none, (.mov (.tmp 2))⟩, ⟨(some 18), none, (.idx (.tmp 16) (.tmp 17) 4)⟩, ⟨(some 19), none, (.lda (.tmp 18) 4)⟩, ⟨(some 20), none, (.addo (.tmp 5) 5)⟩, ⟨(some 21), none, (.ld (.tmp 20) 1)⟩, ⟨(some 22), none, (.mov (.tmp 2))⟩, ⟨(some 23), none, (.idx (.tmp 21) (.tmp 22) 2)⟩, ⟨(some 24), none, (.lda (.tmp 23) 2)⟩, ⟨(some 10), none, (.alc 57 [(.int .i64 0), (.int .i64 0), (.int .i64 0), (.slice none 0 0)])⟩, ⟨(some 11), none, (.alc 30 [(.int .i64 0), (.int .i64 0)])⟩, ⟨none, none, (.sta (.tmp 10) (.tmp 19) 4)⟩, ⟨none, none, (.sta (.tmp 11) (.tmp 24) 2)⟩] [16383, 6207, 0, 0, 960, 448, 0, 64, 0, 31, 15, 0, 3, 1, 0])
 (.seq (.dreg [⟨(some 25), none, (.lda (.tmp 8) 2)⟩, ⟨(some 26), none, (.mov (.tmp 4))⟩, ⟨(some 27), none, (.mov (.tmp 4))⟩, ⟨(some 28), none, (.call ⟨(.value (.func 82)), (List.toArray [(.tmp 26), (.tmp 27)]), (List.toArray [3, 3])⟩ false)⟩, ⟨(some 29), none, (.call ⟨(.value (.func 85)), (List.toArray [(.tmp 25), (.tmp 28)]), (List.toArray [30, 30])⟩ false)⟩, ⟨(some 12), none, (.alc 30 [(.int .i64 0), (.int .i64 0)])⟩, ⟨none, none, (.sta (.tmp 12) (.tmp 29) 2)⟩] [63, 0, 15, 6, 0, 0, 0])
 (.seq (.dreg [⟨(some 30), none, (.mov (.tmp 1))⟩, ⟨(some 31), none, (.mov (.tmp 1))⟩, ⟨(some 32), none, (.nilc (.tmp 31))⟩, ⟨(some 33), none, (.addo (.tmp 32) 1)⟩, ⟨(some 34), none, (.ld (.tmp 33) 1)⟩, ⟨(some 35), none, (.mov (.tmp 2))⟩, ⟨(some 36), none, (.lda (.tmp 12) 2)⟩, ⟨(some 37), none, (.lda (.tmp 12) 2)⟩, ⟨(some 38), none, (.lda (.tmp 11) 2)⟩, ⟨(some 39), none, (.call ⟨(.value (.func 85)), (List.toArray [(.tmp 37), (.tmp 38)]), (List.toArray [30, 30])⟩ false)⟩, ⟨(some 40), none, (.pur ⟨(some 40), (.build 52 (List.toArray [(0, (.tmp 35)), (1, (.tmp 36)), (2, (.tmp 39))])), 52, "", (List.toArray []), none⟩)⟩, ⟨(some 41), none, (.mem ⟨(some 41), (.buildSlice 34 1 (List.toArray [(0, (.tmp 40))])), 34, "", (List.toArray []), none⟩)⟩, ⟨(some 42), none, (.mem ⟨(some 42), (.call ⟨(.builtin .append), (List.toArray [(.tmp 34), (.tmp 41)]), (List.toArray [34, 34])⟩), 34, "", (List.toArray []), none⟩)⟩, ⟨(some 43), none, (.nilc (.tmp 30))⟩, ⟨(some 44), none, (.addo (.tmp 43) 1)⟩, ⟨none, none, (.st (.tmp 44) (.tmp 42))⟩] [32767, 16383, 8191, 4094, 2016, 992, 384, 0, 0, 0, 0, 14, 6, 2, 0, 0])
 (.seq (.reg [⟨(some 45), none, (.addo (.tmp 10) 0)⟩, ⟨(some 46), none, (.ld (.tmp 45) 1)⟩, ⟨(some 47), none, (.addo (.tmp 11) 0)⟩, ⟨(some 48), none, (.ld (.tmp 47) 1)⟩, ⟨(some 49), none, (.addo (.tmp 10) 1)⟩, ⟨(some 50), none, (.addo (.tmp 49) 0)⟩, ⟨(some 51), none, (.ld (.tmp 50) 1)⟩, ⟨(some 52), none, (.ari .mul (.tmp 48) (.tmp 51))⟩, ⟨(some 53), none, (.mm true (.tmp 46) (.tmp 52))⟩, ⟨(some 54), none, (.addo (.tmp 10) 0)⟩, ⟨(some 55), none, (.ld (.tmp 54) 1)⟩, ⟨(some 56), none, (.addo (.tmp 11) 1)⟩, ⟨(some 57), none, (.ld (.tmp 56) 1)⟩, ⟨(some 58), none, (.addo (.tmp 10) 1)⟩, ⟨(some 59), none, (.addo (.tmp 58) 1)⟩, ⟨(some 60), none, (.ld (.tmp 59) 1)⟩, ⟨(some 61), none, (.ari .mul (.tmp 57) (.tmp 60))⟩, ⟨(some 62), none, (.mm true (.tmp 55) (.tmp 61))⟩, ⟨(some 63), none, (.call ⟨(.value (.func 82)), (List.toArray [(.tmp 53), (.tmp 62)]), (List.toArray [3, 3])⟩ true)⟩, ⟨(some 13), none, (.alc 30 [(.int .i64 0), (.int .i64 0)])⟩, ⟨none, none, (.sta (.tmp 13) (.tmp 63) 2)⟩])
 (.seq (.dreg [⟨(some 64), none, (.mov (.tmp 1))⟩, ⟨(some 65), none, (.mov (.tmp 1))⟩, ⟨(some 66), none, (.nilc (.tmp 65))⟩, ⟨(some 67), none, (.addo (.tmp 66) 2)⟩, ⟨(some 68), none, (.addo (.tmp 67) 2)⟩, ⟨(some 69), none, (.lda (.tmp 68) 2)⟩, ⟨(some 70), none, (.lda (.tmp 13) 2)⟩, ⟨(some 71), none, (.call ⟨(.value (.func 85)), (List.toArray [(.tmp 69), (.tmp 70)]), (List.toArray [30, 30])⟩ true)⟩, ⟨(some 72), none, (.nilc (.tmp 64))⟩, ⟨(some 73), none, (.addo (.tmp 72) 2)⟩, ⟨(some 74), none, (.addo (.tmp 73) 2)⟩, ⟨none, none, (.sta (.tmp 74) (.tmp 71) 2)⟩] [2047, 1023, 511, 255, 126, 0, 30, 14, 6, 2, 0, 0])
 (.reg [⟨(some 75), none, (.mov (.tmp 1))⟩, ⟨(some 76), none, (.addo (.tmp 10) 0)⟩, ⟨(some 77), none, (.ld (.tmp 76) 1)⟩, ⟨(some 78), none, (.addo (.tmp 13) 1)⟩, ⟨(some 79), none, (.ld (.tmp 78) 1)⟩, ⟨(some 80), none, (.ari .sub (.tmp 77) (.tmp 79))⟩, ⟨(some 81), none, (.addo (.tmp 10) 0)⟩, ⟨(some 82), none, (.ld (.tmp 81) 1)⟩, ⟨(some 83), none, (.addo (.tmp 13) 0)⟩, ⟨(some 84), none, (.ld (.tmp 83) 1)⟩, ⟨(some 85), none, (.ari .sub (.tmp 82) (.tmp 84))⟩, ⟨(some 86), none, (.call ⟨(.value (.func 82)), (List.toArray [(.tmp 80), (.tmp 85)]), (List.toArray [3, 3])⟩ true)⟩, ⟨(some 87), none, (.nilc (.tmp 75))⟩, ⟨(some 88), none, (.addo (.tmp 87) 2)⟩, ⟨(some 89), none, (.addo (.tmp 88) 6)⟩, ⟨none, none, (.sta (.tmp 89) (.tmp 86) 2)⟩])))))))
theorem L83 : low Try.prog Try.f83.ntmps (at_ Try.f83 []) = some R83 := by kernel_rfl
theorem N71 : Try.f71.ntmps = 31 := by kernel_rfl
theorem Z71 : Try.f71.results.toList = ((List.toArray []) : Array ResultVar).toList := by kernel_rfl
theorem B71 : Try.f71.body = some (at_ Try.f71 []) := by kernel_rfl
noncomputable def R71 : RC := (.seq (.reg [⟨(some 3), none, (.box 71 (.tmp 0))⟩])
 (.seq (.reg [⟨(some 7), none, (.addo (.tmp 3) 0)⟩, ⟨(some 8), none, (.addo (.tmp 7) 0)⟩, ⟨(some 9), none, (.ld (.tmp 8) 1)⟩, ⟨(some 10), none, (.mov (.tmp 2))⟩, ⟨(some 11), none, (.idx (.tmp 9) (.tmp 10) 4)⟩, ⟨(some 12), none, (.addo (.tmp 11) 0)⟩, ⟨(some 13), none, (.ld (.tmp 12) 1)⟩, ⟨(some 6), none, (.mov (.tmp 13))⟩])
 (.seq (.reg [⟨(some 14), none, (.mov (.tmp 1))⟩, ⟨(some 15), none, (.mov (.tmp 6))⟩, ⟨(some 16), none, (.mov (.tmp 6))⟩, ⟨(some 17), none, (.call ⟨(.value (.func 82)), (List.toArray [(.tmp 15), (.tmp 16)]), (List.toArray [3, 3])⟩ true)⟩, ⟨(some 18), none, (.nilc (.tmp 14))⟩, ⟨(some 19), none, (.addo (.tmp 18) 2)⟩, ⟨(some 20), none, (.addo (.tmp 19) 0)⟩, ⟨none, none, (.sta (.tmp 20) (.tmp 17) 2)⟩])
 (.dreg [⟨(some 21), none, (.lda (.tmp 3) 6)⟩, ⟨(some 22), none, (.mov (.tmp 1))⟩, ⟨(some 23), none, (.mov (.tmp 2))⟩, ⟨(some 24), none, (.pur ⟨(some 24), (.build 30 (List.toArray [])), 30, "", (List.toArray []), none⟩)⟩, ⟨(some 25), none, (.mov (.tmp 6))⟩, ⟨(some 26), none, (.addo (.tmp 3) 0)⟩, ⟨(some 27), none, (.addo (.tmp 26) 2)⟩, ⟨(some 28), none, (.ld (.tmp 27) 1)⟩, ⟨(some 29), none, (.call ⟨(.value (.func 84)), (List.toArray [(.tmp 25), (.tmp 28)]), (List.toArray [3, 3])⟩ false)⟩, ⟨(some 30), none, (.call ⟨(.value (.func 83)), (List.toArray [(.tmp 21), (.tmp 22), (.tmp 23), (.tmp 24), (.tmp 29)]), (List.toArray [71, 114, 3, 30, 3])⟩ true)⟩] [511, 240, 96, 32, 0, 0, 0, 0, 0, 0]))))
theorem L71 : low Try.prog Try.f71.ntmps (at_ Try.f71 []) = some R71 := by kernel_rfl
theorem N72 : Try.f72.ntmps = 91 := by kernel_rfl
theorem Z72 : Try.f72.results.toList = ((List.toArray []) : Array ResultVar).toList := by kernel_rfl
theorem B72 : Try.f72.body = some (at_ Try.f72 []) := by kernel_rfl
theorem N64 : Try.f64.ntmps = 11 := by kernel_rfl
theorem Z64 : Try.f64.results.toList = ((List.toArray [(.cell 2 52)]) : Array ResultVar).toList := by kernel_rfl
theorem B64 : Try.f64.body = some (at_ Try.f64 []) := by kernel_rfl
noncomputable def R64 : RC := (.seq (.reg [⟨(some 1), none, (.box 78 (.tmp 0))⟩, ⟨(some 2), none, (.alc 52 [(.int .i64 0), (.int .i64 0), (.int .i64 0), (.int .i64 0), (.int .i64 0)])⟩])
 (.seq (.reg [⟨(some 3), none, (.addo (.tmp 1) 1)⟩, ⟨(some 4), none, (.ld (.tmp 3) 1)⟩, ⟨(some 5), none, (.addo (.tmp 1) 1)⟩, ⟨(some 6), none, (.ld (.tmp 5) 1)⟩, ⟨(some 7), none, (.len (.tmp 6))⟩, ⟨(some 8), none, (.ari .sub (.tmp 7) (.const (.int .i64 1)))⟩, ⟨(some 9), none, (.idx (.tmp 4) (.tmp 8) 5)⟩, ⟨(some 10), none, (.lda (.tmp 9) 5)⟩, ⟨none, none, (.sta (.tmp 2) (.tmp 10) 5)⟩])
 .ret))
theorem L64 : low Try.prog Try.f64.ntmps (at_ Try.f64 []) = some R64 := by kernel_rfl
theorem N44 : Try.f44.ntmps = 13 := by kernel_rfl
theorem Z44 : Try.f44.results.toList = ((List.toArray [(.tmp 4)]) : Array ResultVar).toList := by kernel_rfl
theorem B44 : Try.f44.body = some (at_ Try.f44 []) := by kernel_rfl
noncomputable def R44 : RC := (.seq (.reg [⟨(some 2), none, (.box 71 (.tmp 0))⟩, ⟨(some 3), none, (.box 78 (.tmp 1))⟩, ⟨(some 4), none, (.mov (.const (.bool false)))⟩])
 (.seq (.reg [⟨(some 5), none, (.addo (.tmp 3) 2)⟩, ⟨(some 6), none, (.addo (.tmp 5) 0)⟩, ⟨(some 7), none, (.addo (.tmp 6) 1)⟩, ⟨(some 8), none, (.ld (.tmp 7) 1)⟩, ⟨(some 9), none, (.addo (.tmp 2) 0)⟩, ⟨(some 10), none, (.addo (.tmp 9) 3)⟩, ⟨(some 11), none, (.ld (.tmp 10) 1)⟩, ⟨(some 12), none, (.cmp .leq (.tmp 8) (.tmp 11))⟩, ⟨(some 4), none, (.mov (.tmp 12))⟩])
 .ret))
theorem L44 : low Try.prog Try.f44.ntmps (at_ Try.f44 []) = some R44 := by kernel_rfl
theorem N54 : Try.f54.ntmps = 6 := by kernel_rfl
theorem Z54 : Try.f54.results.toList = ((List.toArray [(.cell 2 30)]) : Array ResultVar).toList := by kernel_rfl
theorem B54 : Try.f54.body = some (at_ Try.f54 []) := by kernel_rfl
noncomputable def R54 : RC := (.seq (.reg [⟨(some 2), none, (.alc 30 [(.int .i64 0), (.int .i64 0)])⟩])
 (.seq (.reg [⟨(some 3), none, (.mov (.tmp 0))⟩, ⟨(some 4), none, (.mov (.tmp 0))⟩, ⟨(some 5), none, (.pur ⟨(some 5), (.build 30 (List.toArray [(0, (.tmp 3)), (1, (.tmp 4))])), 30, "", (List.toArray []), none⟩)⟩, ⟨none, none, (.sta (.tmp 2) (.tmp 5) 2)⟩])
 .ret))
theorem L54 : low Try.prog Try.f54.ntmps (at_ Try.f54 []) = some R54 := by kernel_rfl
theorem N55 : Try.f55.ntmps = 11 := by kernel_rfl
theorem Z55 : Try.f55.results.toList = ((List.toArray [(.tmp 4)]) : Array ResultVar).toList := by kernel_rfl
theorem B55 : Try.f55.body = some (at_ Try.f55 []) := by kernel_rfl
noncomputable def R55 : RC := (.seq (.reg [⟨(some 4), none, (.mov (.const (.int .i64 0)))⟩])
 (.seq (.reg [⟨(some 5), none, (.mov (.tmp 0))⟩, ⟨(some 6), none, (.mov (.tmp 1))⟩, ⟨(some 7), none, (.ari .add (.tmp 5) (.tmp 6))⟩, ⟨(some 8), none, (.ari .sub (.tmp 7) (.const (.int .i64 1)))⟩, ⟨(some 9), none, (.mov (.tmp 1))⟩, ⟨(some 10), none, (.ari .quo (.tmp 8) (.tmp 9))⟩, ⟨(some 4), none, (.mov (.tmp 10))⟩])
 .ret))
theorem L55 : low Try.prog Try.f55.ntmps (at_ Try.f55 []) = some R55 := by kernel_rfl
theorem N56 : Try.f56.ntmps = 16 := by kernel_rfl
theorem Z56 : Try.f56.results.toList = ((List.toArray [(.cell 4 30)]) : Array ResultVar).toList := by kernel_rfl
theorem B56 : Try.f56.body = some (at_ Try.f56 []) := by kernel_rfl
noncomputable def R56 : RC := (.seq (.reg [⟨(some 2), none, (.box 30 (.tmp 0))⟩, ⟨(some 3), none, (.box 30 (.tmp 1))⟩, ⟨(some 4), none, (.alc 30 [(.int .i64 0), (.int .i64 0)])⟩])
 (.seq (.reg [⟨(some 5), none, (.addo (.tmp 2) 0)⟩, ⟨(some 6), none, (.ld (.tmp 5) 1)⟩, ⟨(some 7), none, (.addo (.tmp 3) 0)⟩, ⟨(some 8), none, (.ld (.tmp 7) 1)⟩, ⟨(some 9), none, (.ari .add (.tmp 6) (.tmp 8))⟩, ⟨(some 10), none, (.addo (.tmp 2) 1)⟩, ⟨(some 11), none, (.ld (.tmp 10) 1)⟩, ⟨(some 12), none, (.addo (.tmp 3) 1)⟩, ⟨(some 13), none, (.ld (.tmp 12) 1)⟩, ⟨(some 14), none, (.ari .add (.tmp 11) (.tmp 13))⟩, ⟨(some 15), none, (.pur ⟨(some 15), (.build 30 (List.toArray [(0, (.tmp 9)), (1, (.tmp 14))])), 30, "", (List.toArray []), none⟩)⟩, ⟨none, none, (.sta (.tmp 4) (.tmp 15) 2)⟩])
 .ret))
theorem L56 : low Try.prog Try.f56.ntmps (at_ Try.f56 []) = some R56 := by kernel_rfl
theorem N57 : Try.f57.ntmps = 18 := by kernel_rfl
theorem Z57 : Try.f57.results.toList = ((List.toArray [(.cell 4 30)]) : Array ResultVar).toList := by kernel_rfl
theorem B57 : Try.f57.body = some (at_ Try.f57 []) := by kernel_rfl
noncomputable def R57 : RC := (.seq (.reg [⟨(some 2), none, (.box 30 (.tmp 0))⟩, ⟨(some 3), none, (.box 30 (.tmp 1))⟩, ⟨(some 4), none, (.alc 30 [(.int .i64 0), (.int .i64 0)])⟩])
 (.seq (.reg [⟨(some 5), none, (.addo (.tmp 2) 0)⟩, ⟨(some 6), none, (.ld (.tmp 5) 1)⟩, ⟨(some 7), none, (.addo (.tmp 3) 1)⟩, ⟨(some 8), none, (.ld (.tmp 7) 1)⟩, ⟨(some 9), none, (.ari .sub (.tmp 6) (.tmp 8))⟩, ⟨(some 10), none, (.mm false (.const (.int .i64 0)) (.tmp 9))⟩, ⟨(some 11), none, (.addo (.tmp 2) 1)⟩, ⟨(some 12), none, (.ld (.tmp 11) 1)⟩, ⟨(some 13), none, (.addo (.tmp 3) 0)⟩, ⟨(some 14), none, (.ld (.tmp 13) 1)⟩, ⟨(some 15), none, (.ari .sub (.tmp 12) (.tmp 14))⟩, ⟨(some 16), none, (.mm false (.const (.int .i64 0)) (.tmp 15))⟩, ⟨(some 17), none, (.pur ⟨(some 17), (.build 30 (List.toArray [(0, (.tmp 10)), (1, (.tmp 16))])), 30, "", (List.toArray []), none⟩)⟩, ⟨none, none, (.sta (.tmp 4) (.tmp 17) 2)⟩])
 .ret))
theorem L57 : low Try.prog Try.f57.ntmps (at_ Try.f57 []) = some R57 := by kernel_rfl
theorem N41 : Try.f41.ntmps = 158 := by kernel_rfl
theorem Z41 : Try.f41.results.toList = ((List.toArray [(.tmp 4), (.cell 5 36), (.tmp 6)]) : Array ResultVar).toList := by kernel_rfl
theorem B41 : Try.f41.body = some (at_ Try.f41 []) := by kernel_rfl
noncomputable def R41 : RC := (.seq (.reg [⟨(some 2), none, (.box 25 (.tmp 0))⟩, ⟨(some 4), none, (.mov (.const (.slice none 0 0)))⟩, ⟨(some 5), none, (.alc 36 [(.int .i64 0), (.int .i64 0), (.int .i64 0), (.int .i64 0), (.int .i64 0), (.int .i64 0), (.int .i64 0), (.int .i64 0)])⟩, ⟨(some 6), none, (.mov (.const (.bool false)))⟩])
 (.seq (.reg [⟨(some 7), none, (.mov (.const (.slice none 0 0)))⟩])
 (.seq (.dreg [⟨(some 20), none, (.addo (.tmp 2) 0)⟩, ⟨(some 21), none, (.ld (.tmp 20) 1)⟩, ⟨(some 22), none, (.mov (.tmp 1))⟩, ⟨(some 23), none, (.idx (.tmp 22) (.const (.int .i64 0)) 1)⟩, ⟨(some 24), none, (.ld (.tmp 23) 1)⟩, ⟨(some 25), none, (.idx (.tmp 21) (.tmp 24) 4)⟩, ⟨(some 26), none, (.lda (.tmp 25) 4)⟩, ⟨(some 8), none, (.alc 57 [(.int .i64 0), (.int .i64 0), (.int .i64 0), (.slice none 0 0)])⟩, ⟨none, none, (.sta (.tmp 8) (.tmp 26) 4)⟩] [255, 0, 63, 31, 12, 4, 0, 1, 0])
 (.seq (.reg [⟨(some 27), none, (.addo (.tmp 8) 0)⟩, ⟨(some 28), none, (.ld (.tmp 27) 1)⟩, ⟨(some 29), none, (.call ⟨(.value (.func 54)), (List.toArray [(.tmp 28)]), (List.toArray [3])⟩ true)⟩, ⟨(some 30), none, (.pur ⟨(some 30), (.build 36 (List.toArray [(0, (.tmp 29))])), 36, "", (List.toArray []), none⟩)⟩, ⟨(some 9), none, (.alc 36 [(.int .i64 0), (.int .i64 0), (.int .i64 0), (.int .i64 0), (.int .i64 0), (.int .i64 0), (.int .i64 0), (.int .i64 0)])⟩, ⟨none, none, (.sta (.tmp 9) (.tmp 30) 8)⟩])
 (.seq (.reg [⟨(some 31), none, (.addo (.tmp 8) 0)⟩, ⟨(some 32), none, (.ld (.tmp 31) 1)⟩, ⟨(some 33), none, (.addo (.tmp 2) 2)⟩, ⟨(some 34), none, (.ld (.tmp 33) 1)⟩, ⟨(some 35), none, (.call ⟨(.value (.func 55)), (List.toArray [(.tmp 32), (.tmp 34)]), (List.toArray [3, 3])⟩ true)⟩, ⟨(some 36), none, (.call ⟨(.value (.func 54)), (List.toArray [(.tmp 35)]), (List.toArray [3])⟩ true)⟩, ⟨(some 10), none, (.alc 30 [(.int .i64 0), (.int .i64 0)])⟩, ⟨none, none, (.sta (.tmp 10) (.tmp 36) 2)⟩])
 (.seq (.seq (.reg [⟨(some 11), none, (.mov (.const (.int .i64 0)))⟩])
 (.block 0 (.other (at_ Try.f41 [1, 1, 1, 1, 1, 0, 1, 0]))))
 (.seq (.dreg [⟨(some 156), none, (.mov (.tmp 7))⟩, ⟨(some 157), none, (.lda (.tmp 9) 8)⟩, ⟨(some 4), none, (.mov (.tmp 156))⟩, ⟨none, none, (.sta (.tmp 5) (.tmp 157) 8)⟩, ⟨(some 6), none, (.mov (.const (.bool true)))⟩] [15, 7, 1, 0, 0])
 .ret)))))))
theorem L41 : low Try.prog Try.f41.ntmps (at_ Try.f41 []) = some R41 := by kernel_rfl
theorem E41_1 : at_ Try.f41 [1, 1, 1, 1, 1, 0, 1, 0] = .loop (at_ Try.f41 [1, 1, 1, 1, 1, 0, 1, 0, 0]) := by kernel_rfl
noncomputable def R41x1 : RC := (.seq (.seq (.reg [⟨(some 37), none, (.mov (.tmp 11))⟩, ⟨(some 38), none, (.mov (.tmp 1))⟩, ⟨(some 39), none, (.len (.tmp 38))⟩, ⟨(some 40), none, (.cmp .lss (.tmp 37) (.tmp 39))⟩])
 (.cond (.tmp 40) .skip
 (.exit 0)))
 (.seq (.block 1 (.seq (.reg [⟨(some 43), none, (.mov (.tmp 1))⟩, ⟨(some 44), none, (.mov (.tmp 11))⟩, ⟨(some 45), none, (.idx (.tmp 43) (.tmp 44) 1)⟩, ⟨(some 46), none, (.ld (.tmp 45) 1)⟩, ⟨(some 12), none, (.mov (.tmp 46))⟩])
 (.seq (.reg [⟨(some 47), none, (.addo (.tmp 2) 0)⟩, ⟨(some 48), none, (.ld (.tmp 47) 1)⟩, ⟨(some 49), none, (.mov (.tmp 12))⟩, ⟨(some 50), none, (.idx (.tmp 48) (.tmp 49) 4)⟩, ⟨(some 51), none, (.lda (.tmp 50) 4)⟩, ⟨(some 13), none, (.alc 57 [(.int .i64 0), (.int .i64 0), (.int .i64 0), (.slice none 0 0)])⟩, ⟨none, none, (.sta (.tmp 13) (.tmp 51) 4)⟩])
 (.seq (.reg [⟨(some 52), none, (.lda (.tmp 2) 5)⟩, ⟨(some 53), none, (.mov (.tmp 12))⟩, ⟨(some 54), none, (.call ⟨(.value (.func 38)), (List.toArray [(.tmp 52), (.tmp 53)]), (List.toArray [25, 3])⟩ true)⟩, ⟨(some 14), none, (.alc 30 [(.int .i64 0), (.int .i64 0)])⟩, ⟨none, none, (.sta (.tmp 14) (.tmp 54) 2)⟩])
 (.seq (.reg [⟨(some 55), none, (.lda (.tmp 10) 2)⟩, ⟨(some 56), none, (.lda (.tmp 14) 2)⟩, ⟨(some 57), none, (.call ⟨(.value (.func 56)), (List.toArray [(.tmp 55), (.tmp 56)]), (List.toArray [30, 30])⟩ true)⟩, ⟨(some 15), none, (.alc 30 [(.int .i64 0), (.int .i64 0)])⟩, ⟨none, none, (.sta (.tmp 15) (.tmp 57) 2)⟩])
 (.seq (.reg [⟨(some 58), none, (.mov (.tmp 7))⟩, ⟨(some 59), none, (.mov (.tmp 12))⟩, ⟨(some 60), none, (.lda (.tmp 10) 2)⟩, ⟨(some 61), none, (.lda (.tmp 15) 2)⟩, ⟨(some 62), none, (.pur ⟨(some 62), (.build 52 (List.toArray [(0, (.tmp 59)), (1, (.tmp 60)), (2, (.tmp 61))])), 52, "", (List.toArray []), none⟩)⟩, ⟨(some 63), none, (.mem ⟨(some 63), (.buildSlice 34 1 (List.toArray [(0, (.tmp 62))])), 34, "", (List.toArray []), none⟩)⟩, ⟨(some 64), none, (.mem ⟨(some 64), (.call ⟨(.builtin .append), (List.toArray [(.tmp 58), (.tmp 63)]), (List.toArray [34, 34])⟩), 34, "", (List.toArray []), none⟩)⟩, ⟨(some 7), none, (.mov (.tmp 64))⟩])
 (.seq (.reg [⟨(some 65), none, (.addo (.tmp 13) 0)⟩, ⟨(some 66), none, (.ld (.tmp 65) 1)⟩, ⟨(some 67), none, (.addo (.tmp 13) 1)⟩, ⟨(some 68), none, (.addo (.tmp 67) 0)⟩, ⟨(some 69), none, (.ld (.tmp 68) 1)⟩, ⟨(some 70), none, (.addo (.tmp 14) 0)⟩, ⟨(some 71), none, (.ld (.tmp 70) 1)⟩, ⟨(some 72), none, (.ari .mul (.tmp 69) (.tmp 71))⟩, ⟨(some 73), none, (.mm true (.tmp 66) (.tmp 72))⟩, ⟨(some 74), none, (.addo (.tmp 13) 0)⟩, ⟨(some 75), none, (.ld (.tmp 74) 1)⟩, ⟨(some 76), none, (.addo (.tmp 13) 1)⟩, ⟨(some 77), none, (.addo (.tmp 76) 1)⟩, ⟨(some 78), none, (.ld (.tmp 77) 1)⟩, ⟨(some 79), none, (.addo (.tmp 14) 1)⟩, ⟨(some 80), none, (.ld (.tmp 79) 1)⟩, ⟨(some 81), none, (.ari .mul (.tmp 78) (.tmp 80))⟩, ⟨(some 82), none, (.mm true (.tmp 75) (.tmp 81))⟩, ⟨(some 83), none, (.pur ⟨(some 83), (.build 30 (List.toArray [(0, (.tmp 73)), (1, (.tmp 82))])), 30, "", (List.toArray []), none⟩)⟩, ⟨(some 16), none, (.alc 30 [(.int .i64 0), (.int .i64 0)])⟩, ⟨none, none, (.sta (.tmp 16) (.tmp 83) 2)⟩])
 (.seq (.reg [⟨(some 84), none, (.addo (.tmp 13) 0)⟩, ⟨(some 85), none, (.ld (.tmp 84) 1)⟩, ⟨(some 86), none, (.addo (.tmp 16) 1)⟩, ⟨(some 87), none, (.ld (.tmp 86) 1)⟩, ⟨(some 88), none, (.ari .sub (.tmp 85) (.tmp 87))⟩, ⟨(some 89), none, (.addo (.tmp 13) 0)⟩, ⟨(some 90), none, (.ld (.tmp 89) 1)⟩, ⟨(some 91), none, (.addo (.tmp 16) 0)⟩, ⟨(some 92), none, (.ld (.tmp 91) 1)⟩, ⟨(some 93), none, (.ari .sub (.tmp 90) (.tmp 92))⟩, ⟨(some 94), none, (.pur ⟨(some 94), (.build 30 (List.toArray [(0, (.tmp 88)), (1, (.tmp 93))])), 30, "", (List.toArray []), none⟩)⟩, ⟨(some 17), none, (.alc 30 [(.int .i64 0), (.int .i64 0)])⟩, ⟨none, none, (.sta (.tmp 17) (.tmp 94) 2)⟩])
 (.seq (.reg [⟨(some 95), none, (.addo (.tmp 9) 2)⟩, ⟨(some 96), none, (.lda (.tmp 95) 2)⟩, ⟨(some 97), none, (.lda (.tmp 16) 2)⟩, ⟨(some 98), none, (.call ⟨(.value (.func 56)), (List.toArray [(.tmp 96), (.tmp 97)]), (List.toArray [30, 30])⟩ true)⟩, ⟨(some 99), none, (.addo (.tmp 9) 2)⟩, ⟨none, none, (.sta (.tmp 99) (.tmp 98) 2)⟩])
 (.seq (.seq (.reg [⟨(some 100), none, (.mov (.tmp 11))⟩, ⟨(some 101), none, (.mov (.tmp 1))⟩, ⟨(some 102), none, (.len (.tmp 101))⟩, ⟨(some 103), none, (.ari .sub (.tmp 102) (.const (.int .i64 1)))⟩, ⟨(some 104), none, (.cmp .eql (.tmp 100) (.tmp 103))⟩])
 (.cond (.tmp 104) (.seq (.reg [⟨(some 105), none, (.lda (.tmp 17) 2)⟩, ⟨(some 106), none, (.addo (.tmp 9) 6)⟩, ⟨none, none, (.sta (.tmp 106) (.tmp 105) 2)⟩])
 (.seq (.dreg [⟨(some 107), none, (.mov (.tmp 7))⟩, ⟨(some 108), none, (.lda (.tmp 9) 8)⟩, ⟨(some 4), none, (.mov (.tmp 107))⟩, ⟨none, none, (.sta (.tmp 5) (.tmp 108) 8)⟩, ⟨(some 6), none, (.mov (.const (.bool true)))⟩] [15, 7, 1, 0, 0])
 .ret))
 .skip))
 (.seq (.dreg [⟨(some 109), none, (.addo (.tmp 2) 1)⟩, ⟨(some 110), none, (.ld (.tmp 109) 1)⟩, ⟨(some 111), none, (.mov (.tmp 12))⟩, ⟨(some 112), none, (.idx (.tmp 110) (.tmp 111) 1)⟩, ⟨(some 113), none, (.ld (.tmp 112) 1)⟩, ⟨(some 114), none, (.mov (.tmp 1))⟩, ⟨(some 115), none, (.mov (.tmp 11))⟩, ⟨(some 116), none, (.ari .add (.tmp 115) (.const (.int .i64 1)))⟩, ⟨(some 117), none, (.idx (.tmp 114) (.tmp 116) 1)⟩, ⟨(some 118), none, (.ld (.tmp 117) 1)⟩, ⟨(some 119), none, (.idx (.tmp 113) (.tmp 118) 1)⟩, ⟨(some 120), none, (.ld (.tmp 119) 1)⟩, ⟨(some 18), none, (.mov (.tmp 120))⟩] [4095, 2047, 1023, 480, 224, 64, 0, 0, 15, 7, 0, 1, 0])
 (.seq (.seq (.reg [⟨(some 121), none, (.mov (.tmp 18))⟩, ⟨(some 122), none, (.cmp .eql (.tmp 121) (.const (.int .i64 0)))⟩])
 (.cond (.tmp 122) (.seq (.reg [⟨(some 123), none, (.pur ⟨(some 123), (.build 36 (List.toArray [])), 36, "", (List.toArray []), none⟩)⟩, ⟨(some 4), none, (.mov (.const (.slice none 0 0)))⟩, ⟨none, none, (.sta (.tmp 5) (.tmp 123) 8)⟩, ⟨(some 6), none, (.mov (.const (.bool false)))⟩])
 .ret)
 .skip))
 (.seq (.dreg [⟨(some 124), none, (.addo (.tmp 2) 0)⟩, ⟨(some 125), none, (.ld (.tmp 124) 1)⟩, ⟨(some 126), none, (.mov (.tmp 1))⟩, ⟨(some 127), none, (.mov (.tmp 11))⟩, ⟨(some 128), none, (.ari .add (.tmp 127) (.const (.int .i64 1)))⟩, ⟨(some 129), none, (.idx (.tmp 126) (.tmp 128) 1)⟩, ⟨(some 130), none, (.ld (.tmp 129) 1)⟩, ⟨(some 131), none, (.idx (.tmp 125) (.tmp 130) 4)⟩, ⟨(some 132), none, (.addo (.tmp 131) 0)⟩, ⟨(some 133), none, (.ld (.tmp 132) 1)⟩, ⟨(some 19), none, (.mov (.tmp 133))⟩] [1023, 511, 255, 127, 60, 28, 8, 0, 0, 1, 0])
 (.seq (.dreg [⟨(some 134), none, (.addo (.tmp 9) 0)⟩, ⟨(some 135), none, (.lda (.tmp 134) 2)⟩, ⟨(some 136), none, (.mov (.tmp 19))⟩, ⟨(some 137), none, (.call ⟨(.value (.func 54)), (List.toArray [(.tmp 136)]), (List.toArray [3])⟩ false)⟩, ⟨(some 138), none, (.lda (.tmp 17) 2)⟩, ⟨(some 139), none, (.call ⟨(.value (.func 57)), (List.toArray [(.tmp 137), (.tmp 138)]), (List.toArray [30, 30])⟩ false)⟩, ⟨(some 140), none, (.call ⟨(.value (.func 56)), (List.toArray [(.tmp 135), (.tmp 139)]), (List.toArray [30, 30])⟩ true)⟩, ⟨(some 141), none, (.addo (.tmp 9) 0)⟩, ⟨none, none, (.sta (.tmp 141) (.tmp 140) 2)⟩] [255, 127, 63, 28, 0, 4, 0, 1, 0])
 (.seq (.dreg [⟨(some 142), none, (.addo (.tmp 9) 4)⟩, ⟨(some 143), none, (.lda (.tmp 142) 2)⟩, ⟨(some 144), none, (.lda (.tmp 17) 2)⟩, ⟨(some 145), none, (.mov (.tmp 19))⟩, ⟨(some 146), none, (.call ⟨(.value (.func 54)), (List.toArray [(.tmp 145)]), (List.toArray [3])⟩ false)⟩, ⟨(some 147), none, (.call ⟨(.value (.func 57)), (List.toArray [(.tmp 144), (.tmp 146)]), (List.toArray [30, 30])⟩ false)⟩, ⟨(some 148), none, (.call ⟨(.value (.func 56)), (List.toArray [(.tmp 143), (.tmp 147)]), (List.toArray [30, 30])⟩ true)⟩, ⟨(some 149), none, (.addo (.tmp 9) 4)⟩, ⟨none, none, (.sta (.tmp 149) (.tmp 148) 2)⟩] [255, 127, 63, 28, 8, 0, 0, 1, 0])
 (.dreg [⟨(some 150), none, (.lda (.tmp 15) 2)⟩, ⟨(some 151), none, (.mov (.tmp 19))⟩, ⟨(some 152), none, (.mov (.tmp 18))⟩, ⟨(some 153), none, (.call ⟨(.value (.func 55)), (List.toArray [(.tmp 151), (.tmp 152)]), (List.toArray [3, 3])⟩ false)⟩, ⟨(some 154), none, (.call ⟨(.value (.func 54)), (List.toArray [(.tmp 153)]), (List.toArray [3])⟩ false)⟩, ⟨(some 155), none, (.call ⟨(.value (.func 56)), (List.toArray [(.tmp 150), (.tmp 154)]), (List.toArray [30, 30])⟩ true)⟩, ⟨none, none, (.sta (.tmp 10) (.tmp 155) 2)⟩] [63, 31, 14, 6, 0, 0, 0]))))))))))))))))
 (.reg [⟨(some 41), none, (.mov (.tmp 11))⟩, ⟨(some 42), none, (.ari .add (.tmp 41) (.const (.int .i64 1)))⟩, ⟨(some 11), none, (.mov (.tmp 42))⟩])))
theorem L41x1 : low Try.prog Try.f41.ntmps (at_ Try.f41 [1, 1, 1, 1, 1, 0, 1, 0, 0]) = some R41x1 := by kernel_rfl
end Go.Ax
/-
 Flood: the little functions, the work of a bed, a harvest with its works (54 to 57, 82, 84, 85, 51, 38, 35) (written by program).
-/
namespace Go.Ax
open Go Go.RowKit Go.Proofs
theorem i30s : ∃ i, Try.prog.info? 30 = some i ∧ i.size = 2 := by
 have h : (Try.prog.info? 30).map (fun i => i.size) = some 2 := by kernel_rfl
 cases e : Try.prog.info? 30 with
 | none => rw [e] at h; cases h
 | some i => rw [e] at h; simp at h; exact ⟨i, rfl, h⟩
theorem a30 : isAggB Try.prog 30 = some true := by kernel_rfl
theorem i52s : ∃ i, Try.prog.info? 52 = some i ∧ i.size = 5 := by
 have h : (Try.prog.info? 52).map (fun i => i.size) = some 5 := by kernel_rfl
 cases e : Try.prog.info? 52 with
 | none => rw [e] at h; cases h
 | some i => rw [e] at h; simp at h; exact ⟨i, rfl, h⟩
theorem a52 : isAggB Try.prog 52 = some true := by kernel_rfl
theorem i36s : ∃ i, Try.prog.info? 36 = some i ∧ i.size = 8 := by
 have h : (Try.prog.info? 36).map (fun i => i.size) = some 8 := by kernel_rfl
 cases e : Try.prog.info? 36 with
 | none => rw [e] at h; cases h
 | some i => rw [e] at h; simp at h; exact ⟨i, rfl, h⟩
theorem a36 : isAggB Try.prog 36 = some true := by kernel_rfl
theorem i71s : ∃ i, Try.prog.info? 71 = some i ∧ i.size = 6 := by
 have h : (Try.prog.info? 71).map (fun i => i.size) = some 6 := by kernel_rfl
 cases e : Try.prog.info? 71 with
 | none => rw [e] at h; cases h
 | some i => rw [e] at h; simp at h; exact ⟨i, rfl, h⟩
theorem a71 : isAggB Try.prog 71 = some true := by kernel_rfl
theorem i78s : ∃ i, Try.prog.info? 78 = some i ∧ i.size = 10 := by
 have h : (Try.prog.info? 78).map (fun i => i.size) = some 10 := by kernel_rfl
 cases e : Try.prog.info? 78 with
 | none => rw [e] at h; cases h
 | some i => rw [e] at h; simp at h; exact ⟨i, rfl, h⟩
theorem a78 : isAggB Try.prog 78 = some true := by kernel_rfl
theorem se55 : sliceElem Try.prog 55 = some (30, 2) := by kernel_rfl
theorem z30 : zeroOf Try.prog 30 = some (.agg #[iv 0, iv 0]) := by kernel_rfl
theorem u55 : Try.prog.underlying 55 = some (.slice 30) := by kernel_rfl
theorem res_cell {P : Program} {S : Rg} {H : Hp} {a x n : Nat} {t : TypeId} {cs : List Value} (ha : lk S a = some (.pointer (some ⟨x, 0, none⟩))) (h1 : isAggB P t = some true) (hi : ∃ i, P.info? t = some i ∧ i.size = n) (hl : cs.length = n) (h : Cl H x cs) : resS P S H [.cell a t] = some [.agg cs.toArray] := by
 simp only [resS, ha, load_agg h1 hi h.rd hl]
theorem res_ct {P : Program} {S : Rg} {H : Hp} {a x n b : Nat} {t : TypeId} {cs : List Value} {v : Value} (ha : lk S a = some (.pointer (some ⟨x, 0, none⟩))) (h1 : isAggB P t = some true) (hi : ∃ i, P.info? t = some i ∧ i.size = n) (hl : cs.length = n) (h : Cl H x cs) (hb : lk S b = some v) : resS P S H [.cell a t, .tmp b] = some [.agg cs.toArray, v] := by
 simp only [resS, ha, hb, load_agg h1 hi h.rd hl]
theorem res_tct {P : Program} {S : Rg} {H : Hp} {c a x n b : Nat} {t : TypeId} {cs : List Value} {u v : Value} (hc : lk S c = some u) (ha : lk S a = some (.pointer (some ⟨x, 0, none⟩))) (h1 : isAggB P t = some true) (hi : ∃ i, P.info? t = some i ∧ i.size = n) (hl : cs.length = n) (h : Cl H x cs) (hb : lk S b = some v) : resS P S H [.tmp c, .cell a t, .tmp b] = some [u, .agg cs.toArray, v] := by
 simp only [resS, hc, ha, hb, load_agg h1 hi h.rd hl]
section
variable {n : Nat} {S : Rg} {x y : Operand} {o : Option Tmp}
theorem h_shr {m d : Nat} (h : d < 64) (hx : evS S x = some (iv (m : Int))) (hy : evS S y = some (iv (d : Int))) : pureOp Try.prog (frS n S) ⟨o, .binOp .shr 3 x y 3, 3, "", #[], none⟩ = some (iv ((m / 2 ^ d : Nat) : Int)) := by
 have e : prun Try.prog (do eqGuard .shr 3 x y (iv (m : Int)) (iv (d : Int)); binOp .shr 3 (iv (m : Int)) (iv (d : Int))) = some (iv ((m / 2 ^ d : Nat) : Int)) := by
  show prun Try.prog (Op.shift .shr .i64 (m : Int) .i64 (d : Int)) = _
  unfold Op.shift
  rw [if_neg (by omega)]
  show some (Value.int .i64 ((m : Int).fdiv (2 ^ min d 64))) = _
  rw [Nat.min_eq_left (by omega), Int.fdiv_eq_ediv_of_nonneg _ (by exact Int.le_of_lt (Int.pow_pos (by decide)))]
  congr 2
 unfold pureOp
 simp only [ev_frS, hx, hy, flat, flat1, Bool.and_self, cond_true, e]
theorem h_and1 {m : Nat} (hm : m < 65536) (hx : evS S x = some (iv (m : Int))) (hy : evS S y = some (iv 1)) : pureOp Try.prog (frS n S) ⟨o, .binOp .and 3 x y 3, 3, "", #[], none⟩ = some (iv ((m % 2 : Nat) : Int)) := by
 have e : prun Try.prog (do eqGuard .and 3 x y (iv (m : Int)) (iv 1); binOp .and 3 (iv (m : Int)) (iv 1)) = some (iv ((m % 2 : Nat) : Int)) := by
  show some (Value.int .i64 (IntKind.i64.wrap ((BitVec.ofInt 64 (m : Int) &&& BitVec.ofInt 64 (1 : Int)).toNat : Int))) = _
  have e : (BitVec.ofInt 64 (m : Int) &&& BitVec.ofInt 64 (1 : Int)).toNat = m % 2 := by
   have h1 : BitVec.ofInt 64 (m : Int) = BitVec.ofNat 64 m := by simp
   have h2 : BitVec.ofInt 64 (1 : Int) = BitVec.ofNat 64 1 := by rfl
   rw [h1, h2, BitVec.toNat_and]
   simp only [BitVec.toNat_ofNat]
   rw [Nat.mod_eq_of_lt (a := m) (by omega), Nat.mod_eq_of_lt (a := 1) (by decide), Nat.and_one_is_mod]
  rw [e, wrap_i64 ⟨by omega, by omega⟩]
 unfold pureOp
 simp only [ev_frS, hx, hy, flat, flat1, Bool.and_self, cond_true, e]
end
def upq (a b : Int) : Int := (a + b - 1) / b
section
variable {kn : FuncId → Option Bool} {lo : Nat} {H : Hp}
theorem span82_ok {a b : Int} (hlo : lo ≤ H.next) : ∃ H', FnX Try.prog kn lo 82 [iv a, iv b] H (spv a b) H' ∧ Keep H H' [] := by
 have key := fnX_low (kn := kn) (lo := lo) (H := H) (args := [iv a, iv b]) (Q := fun w H' => w = spv a b ∧ Keep H H' []) Try.func82 B82 N82 Z82 L82 (by simp) ?_
 ·obtain ⟨w, H', h, rfl, q⟩ := key; exact ⟨H', h, q⟩
 have hk := Keep.refl H []
 intro H1 hH1; obtain ⟨kH1, nH1, c1⟩ := new_facts hH1; clear hH1
 have c1 : Cl H1 H.next [iv 0, iv 0] := c1
 have mH1 := kH1.1
 have hk := hk.trans kH1
 refine And.intro rfl (Exists.intro (.agg #[iv a, iv b]) (And.intro (by kernel_rfl) ?_))
 obtain ⟨_, eH2, lH2, gH2⟩ := id c1
 refine Exists.intro _ (Exists.intro _ (Exists.intro _ (And.intro gH2 (And.intro (by omega) (And.intro rfl (And.intro rfl (And.intro (by simp) ?_)))))))
 intro H2 hH2; obtain ⟨kH2, nH2, sH2⟩ := up_facts c1 hH2; clear hH2
 have mH2 := kH2.1
 have hk := hk.new kH2 (fun b hb => by simp at hb ⊢; omega)
 have c1 : Cl H2 H.next [iv a, iv b] := sH2
 exact And.intro trivial (Exists.intro _ (And.intro (res_cell rfl a30 i30s rfl c1) ⟨rfl, hk⟩))
theorem one54_ok {a : Int} (hlo : lo ≤ H.next) : ∃ H', FnX Try.prog kn lo 54 [iv a] H (spv a a) H' ∧ Keep H H' [] := by
 have key := fnX_low (kn := kn) (lo := lo) (H := H) (args := [iv a]) (Q := fun w H' => w = spv a a ∧ Keep H H' []) Try.func54 B54 N54 Z54 L54 (by simp) ?_
 ·obtain ⟨w, H', h, rfl, q⟩ := key; exact ⟨H', h, q⟩
 have hk := Keep.refl H []
 intro H1 hH1; obtain ⟨kH1, nH1, c1⟩ := new_facts hH1; clear hH1
 have c1 : Cl H1 H.next [iv 0, iv 0] := c1
 have mH1 := kH1.1
 have hk := hk.trans kH1
 refine And.intro rfl (Exists.intro (.agg #[iv a, iv a]) (And.intro (by kernel_rfl) ?_))
 obtain ⟨_, eH2, lH2, gH2⟩ := id c1
 refine Exists.intro _ (Exists.intro _ (Exists.intro _ (And.intro gH2 (And.intro (by omega) (And.intro rfl (And.intro rfl (And.intro (by simp) ?_)))))))
 intro H2 hH2; obtain ⟨kH2, nH2, sH2⟩ := up_facts c1 hH2; clear hH2
 have mH2 := kH2.1
 have hk := hk.new kH2 (fun b hb => by simp at hb ⊢; omega)
 have c1 : Cl H2 H.next [iv a, iv a] := sH2
 exact And.intro trivial (Exists.intro _ (And.intro (res_cell rfl a30 i30s rfl c1) ⟨rfl, hk⟩))
theorem min84_ok {a b : Int} (ha : 1 ≤ a ∧ a ≤ 68719476736) (hb : 1 ≤ b ∧ b ≤ 1073741824) : ∃ H', FnX Try.prog kn lo 84 [iv a, iv b] H (iv (upq a b)) H' ∧ Keep H H' [] := by
 have key := fnX_low (kn := kn) (lo := lo) (H := H) (args := [iv a, iv b]) (Q := fun w H' => w = iv (upq a b) ∧ Keep H H' []) Try.func84 B84 N84 Z84 L84 (by simp) ?_
 ·obtain ⟨w, H', h, rfl, q⟩ := key; exact ⟨H', h, q⟩
 have hk := Keep.refl H []
 refine And.intro (show InR (a + b) from ⟨by omega, by omega⟩) ?_
 refine And.intro (show InR ((a + b) - 1) from ⟨by omega, by omega⟩) ?_
 refine And.intro (by omega) (And.intro (by omega) (And.intro ⟨by omega, by omega⟩ ?_))
 exact And.intro trivial (Exists.intro _ (And.intro rfl ⟨rfl, hk⟩))
theorem up55_ok {a b : Int} (ha : 1 ≤ a ∧ a ≤ 68719476736) (hb : 1 ≤ b ∧ b ≤ 1073741824) : ∃ H', FnX Try.prog kn lo 55 [iv a, iv b] H (iv (upq a b)) H' ∧ Keep H H' [] := by
 have key := fnX_low (kn := kn) (lo := lo) (H := H) (args := [iv a, iv b]) (Q := fun w H' => w = iv (upq a b) ∧ Keep H H' []) Try.func55 B55 N55 Z55 L55 (by simp) ?_
 ·obtain ⟨w, H', h, rfl, q⟩ := key; exact ⟨H', h, q⟩
 have hk := Keep.refl H []
 refine And.intro (show InR (a + b) from ⟨by omega, by omega⟩) ?_
 refine And.intro (show InR ((a + b) - 1) from ⟨by omega, by omega⟩) ?_
 refine And.intro (by omega) (And.intro (by omega) (And.intro ⟨by omega, by omega⟩ ?_))
 exact And.intro trivial (Exists.intro _ (And.intro rfl ⟨rfl, hk⟩))
theorem plus85_ok {a b c d : Int} (h : (0 ≤ a ∧ a ≤ 4000000000000000000) ∧ (0 ≤ b ∧ b ≤ 4000000000000000000) ∧ (0 ≤ c ∧ c ≤ 4000000000000000000) ∧ (0 ≤ d ∧ d ≤ 4000000000000000000)) (hlo : lo ≤ H.next) : ∃ H', FnX Try.prog kn lo 85 [spv a b, spv c d] H (spv (a + c) (b + d)) H' ∧ Keep H H' [] := by
 have key := fnX_low (kn := kn) (lo := lo) (H := H) (args := [spv a b, spv c d]) (Q := fun w H' => w = spv (a + c) (b + d) ∧ Keep H H' []) Try.func85 B85 N85 Z85 L85 (by simp) ?_
 ·obtain ⟨w, H', h, rfl, q⟩ := key; exact ⟨H', h, q⟩
 obtain ⟨h1, h2, h3, h4⟩ := h
 have hk := Keep.refl H []
 intro H1 hH1; obtain ⟨kH1, nH1, c1⟩ := new_facts hH1; clear hH1
 have mH1 := kH1.1
 have hk := hk.trans kH1
 have c1 : Cl H1 H.next [iv a, iv b] := c1
 intro H2 hH2; obtain ⟨kH2, nH2, c2⟩ := new_facts hH2; clear hH2
 have mH2 := kH2.1
 have hk := hk.trans kH2
 have c1 := kH2.cl c1 (by simp)
 have c2 : Cl H2 H1.next [iv c, iv d] := c2
 intro H3 hH3; obtain ⟨kH3, nH3, c3⟩ := new_facts hH3; clear hH3
 have c3 : Cl H3 H2.next [iv 0, iv 0] := c3
 have mH3 := kH3.1
 have hk := hk.trans kH3
 have c1 := kH3.cl c1 (by simp)
 have c2 := kH3.cl c2 (by simp)
 refine Exists.intro _ (Exists.intro _ (And.intro c1.of (And.intro (show _ = some (iv a) from rfl) ?_)))
 refine Exists.intro _ (Exists.intro _ (And.intro c2.of (And.intro (show _ = some (iv c) from rfl) ?_)))
 refine And.intro (show InR (a + c) from ⟨by omega, by omega⟩) ?_
 refine Exists.intro _ (Exists.intro _ (And.intro c1.of (And.intro (show _ = some (iv b) from rfl) ?_)))
 refine Exists.intro _ (Exists.intro _ (And.intro c2.of (And.intro (show _ = some (iv d) from rfl) ?_)))
 refine And.intro (show InR (b + d) from ⟨by omega, by omega⟩) ?_
 obtain ⟨H4, fH4, kH4⟩ := span82_ok (kn := kn) (lo := lo) (H := H3) (by omega)
 refine Exists.intro _ (Exists.intro _ (And.intro (callX_args fH4) ?_))
 have mH4 := kH4.1
 have hk := hk.trans kH4
 have c1 := kH4.cl c1 (by simp)
 have c2 := kH4.cl c2 (by simp)
 have c3 := kH4.cl c3 (by simp)
 obtain ⟨_, eH5, lH5, gH5⟩ := id c3
 refine Exists.intro _ (Exists.intro _ (Exists.intro _ (And.intro gH5 (And.intro (by omega) (And.intro rfl (And.intro rfl (And.intro (by simp) ?_)))))))
 intro H5 hH5; obtain ⟨kH5, nH5, sH5⟩ := up_facts c3 hH5; clear hH5
 have mH5 := kH5.1
 have hk := hk.new kH5 (fun b hb => by simp at hb ⊢; omega)
 have c1 := kH5.cl c1 (by simp <;> omega)
 have c2 := kH5.cl c2 (by simp <;> omega)
 have c3 : Cl H5 H2.next [iv (a + c), iv (b + d)] := sH5
 exact And.intro trivial (Exists.intro _ (And.intro (res_cell rfl a30 i30s rfl c3) ⟨rfl, hk⟩))
theorem plus56_ok {a b c d : Int} (h : (0 ≤ a ∧ a ≤ 4000000000000000000) ∧ (0 ≤ b ∧ b ≤ 4000000000000000000) ∧ (0 ≤ c ∧ c ≤ 4000000000000000000) ∧ (0 ≤ d ∧ d ≤ 4000000000000000000)) (hlo : lo ≤ H.next) : ∃ H', FnX Try.prog kn lo 56 [spv a b, spv c d] H (spv (a + c) (b + d)) H' ∧ Keep H H' [] := by
 have key := fnX_low (kn := kn) (lo := lo) (H := H) (args := [spv a b, spv c d]) (Q := fun w H' => w = spv (a + c) (b + d) ∧ Keep H H' []) Try.func56 B56 N56 Z56 L56 (by simp) ?_
 ·obtain ⟨w, H', h, rfl, q⟩ := key; exact ⟨H', h, q⟩
 obtain ⟨h1, h2, h3, h4⟩ := h
 have hk := Keep.refl H []
 intro H1 hH1; obtain ⟨kH1, nH1, c1⟩ := new_facts hH1; clear hH1
 have mH1 := kH1.1
 have hk := hk.trans kH1
 have c1 : Cl H1 H.next [iv a, iv b] := c1
 intro H2 hH2; obtain ⟨kH2, nH2, c2⟩ := new_facts hH2; clear hH2
 have mH2 := kH2.1
 have hk := hk.trans kH2
 have c1 := kH2.cl c1 (by simp)
 have c2 : Cl H2 H1.next [iv c, iv d] := c2
 intro H3 hH3; obtain ⟨kH3, nH3, c3⟩ := new_facts hH3; clear hH3
 have c3 : Cl H3 H2.next [iv 0, iv 0] := c3
 have mH3 := kH3.1
 have hk := hk.trans kH3
 have c1 := kH3.cl c1 (by simp)
 have c2 := kH3.cl c2 (by simp)
 refine Exists.intro _ (Exists.intro _ (And.intro c1.of (And.intro (show _ = some (iv a) from rfl) ?_)))
 refine Exists.intro _ (Exists.intro _ (And.intro c2.of (And.intro (show _ = some (iv c) from rfl) ?_)))
 refine And.intro (show InR (a + c) from ⟨by omega, by omega⟩) ?_
 refine Exists.intro _ (Exists.intro _ (And.intro c1.of (And.intro (show _ = some (iv b) from rfl) ?_)))
 refine Exists.intro _ (Exists.intro _ (And.intro c2.of (And.intro (show _ = some (iv d) from rfl) ?_)))
 refine And.intro (show InR (b + d) from ⟨by omega, by omega⟩) ?_
 refine And.intro rfl (Exists.intro (.agg #[iv (a + c), iv (b + d)]) (And.intro (by kernel_rfl) ?_))
 obtain ⟨_, eH4, lH4, gH4⟩ := id c3
 refine Exists.intro _ (Exists.intro _ (Exists.intro _ (And.intro gH4 (And.intro (by omega) (And.intro rfl (And.intro rfl (And.intro (by simp) ?_)))))))
 intro H4 hH4; obtain ⟨kH4, nH4, sH4⟩ := up_facts c3 hH4; clear hH4
 have mH4 := kH4.1
 have hk := hk.new kH4 (fun b hb => by simp at hb ⊢; omega)
 have c1 := kH4.cl c1 (by simp <;> omega)
 have c2 := kH4.cl c2 (by simp <;> omega)
 have c3 : Cl H4 H2.next [iv (a + c), iv (b + d)] := sH4
 exact And.intro trivial (Exists.intro _ (And.intro (res_cell rfl a30 i30s rfl c3) ⟨rfl, hk⟩))
theorem over57_ok {a b c d : Int} (h : (0 ≤ a ∧ a ≤ 4000000000000000000) ∧ (0 ≤ b ∧ b ≤ 4000000000000000000) ∧ (0 ≤ c ∧ c ≤ 4000000000000000000) ∧ (0 ≤ d ∧ d ≤ 4000000000000000000)) (hlo : lo ≤ H.next) : ∃ H', FnX Try.prog kn lo 57 [spv a b, spv c d] H (spv (max 0 (a - d)) (max 0 (b - c))) H' ∧ Keep H H' [] := by
 have key := fnX_low (kn := kn) (lo := lo) (H := H) (args := [spv a b, spv c d]) (Q := fun w H' => w = spv (max 0 (a - d)) (max 0 (b - c)) ∧ Keep H H' []) Try.func57 B57 N57 Z57 L57 (by simp) ?_
 ·obtain ⟨w, H', h, rfl, q⟩ := key; exact ⟨H', h, q⟩
 obtain ⟨h1, h2, h3, h4⟩ := h
 have hk := Keep.refl H []
 intro H1 hH1; obtain ⟨kH1, nH1, c1⟩ := new_facts hH1; clear hH1
 have mH1 := kH1.1
 have hk := hk.trans kH1
 have c1 : Cl H1 H.next [iv a, iv b] := c1
 intro H2 hH2; obtain ⟨kH2, nH2, c2⟩ := new_facts hH2; clear hH2
 have mH2 := kH2.1
 have hk := hk.trans kH2
 have c1 := kH2.cl c1 (by simp)
 have c2 : Cl H2 H1.next [iv c, iv d] := c2
 intro H3 hH3; obtain ⟨kH3, nH3, c3⟩ := new_facts hH3; clear hH3
 have c3 : Cl H3 H2.next [iv 0, iv 0] := c3
 have mH3 := kH3.1
 have hk := hk.trans kH3
 have c1 := kH3.cl c1 (by simp)
 have c2 := kH3.cl c2 (by simp)
 refine Exists.intro _ (Exists.intro _ (And.intro c1.of (And.intro (show _ = some (iv a) from rfl) ?_)))
 refine Exists.intro _ (Exists.intro _ (And.intro c2.of (And.intro (show _ = some (iv d) from rfl) ?_)))
 refine And.intro (show InR (a - d) from ⟨by omega, by omega⟩) ?_
 refine Exists.intro _ (Exists.intro _ (And.intro c1.of (And.intro (show _ = some (iv b) from rfl) ?_)))
 refine Exists.intro _ (Exists.intro _ (And.intro c2.of (And.intro (show _ = some (iv c) from rfl) ?_)))
 refine And.intro (show InR (b - c) from ⟨by omega, by omega⟩) ?_
 refine And.intro rfl (Exists.intro (.agg #[iv (max 0 (a - d)), iv (max 0 (b - c))]) (And.intro (by kernel_rfl) ?_))
 obtain ⟨_, eH4, lH4, gH4⟩ := id c3
 refine Exists.intro _ (Exists.intro _ (Exists.intro _ (And.intro gH4 (And.intro (by omega) (And.intro rfl (And.intro rfl (And.intro (by simp) ?_)))))))
 intro H4 hH4; obtain ⟨kH4, nH4, sH4⟩ := up_facts c3 hH4; clear hH4
 have mH4 := kH4.1
 have hk := hk.new kH4 (fun b hb => by simp at hb ⊢; omega)
 have c1 := kH4.cl c1 (by simp <;> omega)
 have c2 := kH4.cl c2 (by simp <;> omega)
 have c3 : Cl H4 H2.next [iv (max 0 (a - d)), iv (max 0 (b - c))] := sH4
 exact And.intro trivial (Exists.intro _ (And.intro (res_cell rfl a30 i30s rfl c3) ⟨rfl, hk⟩))
set_option maxRecDepth 100000 in
theorem WorkOf_ok {g : Fh} {f i : Nat} {e : Int} (hat : g.At f H) (v : g.Vd) (hi : i < g.bn) (he : e = (i : Int)) (hlo : lo ≤ H.next) : ∃ H', FnX Try.prog kn lo 38 [.agg g.v.toArray, iv e] H (spv (g.W i).1 (g.W i).2) H' ∧ Keep H H' [] := by
 subst he
 have key := fnX_low (kn := kn) (lo := lo) (H := H) (args := [.agg g.v.toArray, iv (i : Int)]) (Q := fun w H' => w = spv (g.W i).1 (g.W i).2 ∧ Keep H H' []) Try.func38 B38 N38 Z38 L38 (by simp) ?_
 ·obtain ⟨w, H', h, rfl, q⟩ := key; exact ⟨H', h, q⟩
 have hk := Keep.refl H []
 have hwm : g.wm ≤ 15 := by have := v.w; unfold Fh.wm; omega
 have hwc : (g.wm : Int) = g.winds := by have := v.w; unfold Fh.wm; omega
 have hfl := hat.le
 have hvb := v.b i hi
 intro H1 hH1; obtain ⟨kH1, nH1, c1⟩ := new_facts hH1; clear hH1
 have mH1 := kH1.1
 have hk := hk.trans kH1
 have hat := hat.keep kH1 (by simp)
 have c1 : Cl H1 H.next [.slice g.ba g.bn g.bcap, .slice g.ra g.rn g.rcap, iv g.inlet, iv g.reserve, iv g.winds] := c1
 intro H2 hH2; obtain ⟨kH2, nH2, c2⟩ := new_facts hH2; clear hH2
 have c2 : Cl H2 H1.next [iv 0, iv 0] := c2
 have mH2 := kH2.1
 have hk := hk.trans kH2
 have hat := hat.keep kH2 (by simp)
 have c1 := kH2.cl c1 (by simp)
 refine And.intro rfl (Exists.intro (.agg #[iv 16384, iv 0]) (And.intro (by kernel_rfl) ?_))
 intro H3 hH3; obtain ⟨kH3, nH3, c3⟩ := new_facts hH3; clear hH3
 have c3 : Cl H3 H2.next [iv 0, iv 0] := c3
 have mH3 := kH3.1
 have hk := hk.trans kH3
 have hat := hat.keep kH3 (by simp)
 have c1 := kH3.cl c1 (by simp)
 have c2 := kH3.cl c2 (by simp)
 obtain ⟨_, eH4, lH4, gH4⟩ := id c3
 refine Exists.intro _ (Exists.intro _ (Exists.intro _ (And.intro gH4 (And.intro (by omega) (And.intro rfl (And.intro rfl (And.intro (by simp) ?_)))))))
 intro H4 hH4; obtain ⟨kH4, nH4, sH4⟩ := up_facts c3 hH4; clear hH4
 have mH4 := kH4.1
 have hk := hk.new kH4 (fun b hb => by simp at hb ⊢; omega)
 have hat := hat.keep kH4 (fun x hx => by first | (simp at hx; done) | (simp at hx; omega))
 have c1 := kH4.cl c1 (by simp <;> omega)
 have c2 := kH4.cl c2 (by simp <;> omega)
 have c3 : Cl H4 H2.next [iv 16384, iv 0] := sH4
 obtain ⟨b5, hb5⟩ : ∃ z, z = H2.next := ⟨_, rfl⟩
 have l5 : H.next + 1 < b5 ∧ b5 < H4.next := by rw [hb5]; omega
 rw [← hb5] at c3
 rw [← hb5]
 refine loop_low (fn := Try.f38) E38_1 N38 L38x1 (fun j : Nat => [(1, iv (i : Int)), (2, pt H.next), (4, pt H1.next), (5, pt b5), (6, iv (j : Int))])
  (fun k j H' => j + k = 4 ∧ Keep H4 H' [b5] ∧ Cl H' b5 [iv (g.wk (g.B i) j).1, iv (g.wk (g.B i) j).2]) 4 0 ⟨by omega, Keep.refl _ _, c3⟩ ⟨rfl, rfl, rfl, rfl, rfl, trivial⟩ ?_
 rintro k j L1 ⟨hik, hki, c5⟩
 have hk := hk.new hki (fun b hb => by simp at hb ⊢; omega)
 have hat := hat.keep hki (fun x hx => by first | (simp at hx; done) | (simp at hx; omega))
 have c1 := hki.cl c1 (by simp <;> omega)
 have c2 := hki.cl c2 (by simp <;> omega)
 have c5 : Cl L1 b5 [iv (g.wk (g.B i) j).1, iv (g.wk (g.B i) j).2] := c5
 have kb := hki
 have mi := hki.1
 refine And.intro (fun q1 => ?_) (fun q1 => ?_)
 ·have q1 : (j : Int) < 4 := of_decide_eq_true q1
  have hj : j < 4 := by omega
  refine Exists.intro _ (Exists.intro _ (And.intro c1.of (And.intro (show _ = some (iv g.winds) from rfl) ?_)))
  obtain ⟨p, hp, hp15⟩ : ∃ p, g.wm / 2 ^ j = p ∧ p ≤ 15 := ⟨_, rfl, Nat.le_trans (Nat.div_le_self _ _) hwm⟩
  refine And.intro rfl (Exists.intro (iv (p : Int)) (And.intro (by rw [← hp]; exact h_shr (m := g.wm) (d := j) (by omega) (by rw [← hwc]; rfl) rfl) ?_))
  refine And.intro (by omega) (And.intro (by omega) (And.intro ⟨by omega, by omega⟩ (And.intro ⟨by omega, by omega⟩ ?_)))
  refine And.intro (fun q2 => ?_) (fun q2 => ?_)
  ·have q2 : ((p : Int) % 2) = 1 := by simpa using q2
   have hbit : g.wm.testBit j = true := by rw [Nat.testBit_eq_decide_div_mod_eq, hp]; simp; omega
   obtain ⟨xb, eb, rb, lb⟩ := hat.bog (by omega)
   have hbi := getB (g := g) (i := i) (by rw [hat.bl]; exact hi)
   obtain ⟨hw, hwl, hwf⟩ := hat.wrk hi
   rcases hw with ⟨_, h0, _⟩ | ⟨xw, ew, rw, _⟩
   ·omega
   have lw := hwf xw ew
   have hsi := getS (b := g.B i) (i := j) (by omega)
   first | refine wD_dreg ?_ | (refine wOps_nil ?_; refine wD_dreg ?_)
   refine wD_addo (b := b5) (o := 0) rfl ?_
   refine wD_ld (b := b5) (o := 0) (v := iv ((g.wk (g.B i) j).1)) rfl c5.rd rfl ?_
   refine wD_addo (b := H.next) (o := 0) rfl ?_
   refine wD_ld (b := H.next) (o := 0) (v := .slice (some ⟨xb, 0, none⟩) g.bn g.bcap) rfl c1.rd (show _ = some (Value.slice (some ⟨xb, 0, none⟩) g.bn g.bcap) from by rw [← eb]; rfl) ?_
   refine wD_mov (v := iv (i : Int)) rfl ?_
   refine wD_idx (b := xb) (o := 0) (k := i) (j := (i : Int)) rfl rfl rfl hi ?_
   refine wD_addo (b := xb) (o := 0 + i * 4) rfl ?_
   refine wD_ld (b := xb) (o := 0 + i * 4 + 3) (v := .slice (some ⟨xw, 0, none⟩) ((g.B i).wn) ((g.B i).wcap)) rfl rb (show _ = some (Value.slice (some ⟨xw, 0, none⟩) ((g.B i).wn) ((g.B i).wcap)) from by rw [← ew]; exact (bgc_at (j := 3) hbi rfl)) ?_
   refine wD_mov (v := iv (j : Int)) rfl ?_
   refine wD_idx (b := xw) (o := 0) (k := j) (j := (j : Int)) rfl rfl rfl (by omega) ?_
   refine wD_addo (b := xw) (o := 0 + j * 2) rfl ?_
   refine wD_ld (b := xw) (o := 0 + j * 2) (v := iv (((g.B i).S j).1)) rfl rw (row_get (j := 0) (spc_row hsi) rfl) ?_
   refine wD_mm (a := (g.wk (g.B i) j).1) (b := ((g.B i).S j).1) rfl rfl ?_
   refine wD_addo (b := b5) (o := 0) rfl ?_
   refine wD_ld (b := b5) (o := 1) (v := iv ((g.wk (g.B i) j).2)) rfl c5.rd rfl ?_
   refine wD_addo (b := H.next) (o := 0) rfl ?_
   refine wD_ld (b := H.next) (o := 0) (v := .slice (some ⟨xb, 0, none⟩) g.bn g.bcap) rfl c1.rd (show _ = some (Value.slice (some ⟨xb, 0, none⟩) g.bn g.bcap) from by rw [← eb]; rfl) ?_
   refine wD_mov (v := iv (i : Int)) rfl ?_
   refine wD_idx (b := xb) (o := 0) (k := i) (j := (i : Int)) rfl rfl rfl hi ?_
   refine wD_addo (b := xb) (o := 0 + i * 4) rfl ?_
   refine wD_ld (b := xb) (o := 0 + i * 4 + 3) (v := .slice (some ⟨xw, 0, none⟩) ((g.B i).wn) ((g.B i).wcap)) rfl rb (show _ = some (Value.slice (some ⟨xw, 0, none⟩) ((g.B i).wn) ((g.B i).wcap)) from by rw [← ew]; exact (bgc_at (j := 3) hbi rfl)) ?_
   refine wD_mov (v := iv (j : Int)) rfl ?_
   refine wD_idx (b := xw) (o := 0) (k := j) (j := (j : Int)) rfl rfl rfl (by omega) ?_
   refine wD_addo (b := xw) (o := 0 + j * 2) rfl ?_
   refine wD_ld (b := xw) (o := 0 + j * 2 + 1) (v := iv (((g.B i).S j).2)) rfl rw (row_get (j := 1) (spc_row hsi) rfl) ?_
   refine wD_mm (a := (g.wk (g.B i) j).2) (b := ((g.B i).S j).2) rfl rfl ?_
   refine wD_pur (v := .agg #[iv (min ((g.wk (g.B i) j).1) (((g.B i).S j).1)), iv (max ((g.wk (g.B i) j).2) (((g.B i).S j).2))]) rfl (by kernel_rfl) ?_
   refine wD_sta (b := b5) (o := 0) rfl rfl c5 (by omega) rfl rfl (by simp) ?_
   intro H5 kH5 nH5 sH5
   have mH5 := kH5.1
   have hk := hk.new kH5 (fun b hb => by simp at hb ⊢; omega)
   have hat := hat.keep kH5 (fun x hx => by first | (simp at hx; done) | (simp at hx; omega))
   have c1 := kH5.cl c1 (by simp <;> omega)
   have c2 := kH5.cl c2 (by simp <;> omega)
   have kb := kb.new kH5 (fun b hb => by simp at hb ⊢; omega)
   have rb := kH5.rd rb (by simp <;> omega)
   have rw := kH5.rd rw (by simp <;> omega)
   have c5 : Cl H5 b5 [iv (min ((g.wk (g.B i) j).1) (((g.B i).S j).1)), iv (max ((g.wk (g.B i) j).2) (((g.B i).S j).2))] := sH5
   refine wD_end (by repeat' first | exact True.intro | exact (fun h => h) | refine And.intro ?_ ?_ | (intro h; have h : (_ : Nat) = _ := h; omega)) ?_
   refine And.intro (show InR ((j : Int) + 1) from ⟨by omega, by omega⟩) ?_
   have ew : g.wk (g.B i) (j + 1) = bif g.wm.testBit j then (min (g.wk (g.B i) j).1 ((g.B i).S j).1, max (g.wk (g.B i) j).2 ((g.B i).S j).2) else g.wk (g.B i) j := rfl
   rw [hbit] at ew
   exact ⟨k - 1, j + 1, by omega, ⟨by omega, kb, by rw [ew]; exact c5⟩, rfl, rfl, rfl, rfl, rfl, trivial⟩
  ·have q2 : ¬ (((p : Int) % 2) = 1) := by simpa using q2
   have hbit : g.wm.testBit j = false := by rw [Nat.testBit_eq_decide_div_mod_eq, hp]; simp; omega
   refine And.intro (show InR ((j : Int) + 1) from ⟨by omega, by omega⟩) ?_
   have ew : g.wk (g.B i) (j + 1) = bif g.wm.testBit j then (min (g.wk (g.B i) j).1 ((g.B i).S j).1, max (g.wk (g.B i) j).2 ((g.B i).S j).2) else g.wk (g.B i) j := rfl
   rw [hbit] at ew
   exact ⟨k - 1, j + 1, by omega, ⟨by omega, kb, by rw [ew]; exact c5⟩, rfl, rfl, rfl, rfl, rfl, trivial⟩
 ·have q1 : ¬ ((j : Int) < 4) := of_decide_eq_false q1
  have hj : j = 4 := by omega
  subst hj
  refine Exists.intro _ (Exists.intro _ (And.intro c5.of (And.intro (show row 2 _ _ = some [iv ((g.wk (g.B i) 4).1), iv ((g.wk (g.B i) 4).2)] from rfl) ?_)))
  obtain ⟨_, eH6, lH6, gH6⟩ := id c2
  refine Exists.intro _ (Exists.intro _ (Exists.intro _ (And.intro gH6 (And.intro (by omega) (And.intro rfl (And.intro rfl (And.intro (by simp) ?_)))))))
  intro H6 hH6; obtain ⟨kH6, nH6, sH6⟩ := up_facts c2 hH6; clear hH6
  have mH6 := kH6.1
  have hk := hk.new kH6 (fun b hb => by simp at hb ⊢; omega)
  have hat := hat.keep kH6 (fun x hx => by first | (simp at hx; done) | (simp at hx; omega))
  have c1 := kH6.cl c1 (by simp <;> omega)
  have c5 := kH6.cl c5 (by simp <;> omega)
  have c2 : Cl H6 H1.next [iv ((g.wk (g.B i) 4).1), iv ((g.wk (g.B i) 4).2)] := sH6
  exact And.intro trivial (Exists.intro _ (And.intro (res_cell rfl a30 i30s rfl c2) ⟨rfl, hk⟩))
set_option maxRecDepth 100000 in
theorem workOf_ok {g : Fh} {b : Bg} {kv : Value} (v : g.Vd) (hw : Sl H b.wa b.wn b.wcap (spc b.ws)) (hwl : b.ws.length = b.wn) (h4 : b.wn = 4) (hlo : lo ≤ H.next) : ∃ H', FnX Try.prog kn lo 51 [.agg #[.slice g.ba g.bn g.bcap, .slice g.ra g.rn g.rcap, iv g.inlet, iv g.reserve, iv g.winds, kv], .agg #[iv b.need, iv b.l1, iv b.l2, .slice b.wa b.wn b.wcap]] H (spv (g.wk b 4).1 (g.wk b 4).2) H' ∧ Keep H H' [] := by
 have key := fnX_low (kn := kn) (lo := lo) (H := H) (args := [.agg #[.slice g.ba g.bn g.bcap, .slice g.ra g.rn g.rcap, iv g.inlet, iv g.reserve, iv g.winds, kv], .agg #[iv b.need, iv b.l1, iv b.l2, .slice b.wa b.wn b.wcap]]) (Q := fun w H' => w = spv (g.wk b 4).1 (g.wk b 4).2 ∧ Keep H H' []) Try.func51 B51 N51 Z51 L51 (by simp) ?_
 ·obtain ⟨w, H', h, rfl, q⟩ := key; exact ⟨H', h, q⟩
 have hk := Keep.refl H []
 have hwm : g.wm ≤ 15 := by have := v.w; unfold Fh.wm; omega
 have hwc : (g.wm : Int) = g.winds := by have := v.w; unfold Fh.wm; omega
 rcases hw with ⟨_, h0, _⟩ | ⟨xw, ew, rw, _⟩
 ·omega
 have lxw := rw.lt
 intro H1 hH1; obtain ⟨kH1, nH1, c1⟩ := new_facts hH1; clear hH1
 have mH1 := kH1.1
 have hk := hk.trans kH1
 have rw := kH1.rd rw (by simp)
 have c1 : Cl H1 H.next [.slice g.ba g.bn g.bcap, .slice g.ra g.rn g.rcap, iv g.inlet, iv g.reserve, iv g.winds, kv] := c1
 intro H2 hH2; obtain ⟨kH2, nH2, c2⟩ := new_facts hH2; clear hH2
 have mH2 := kH2.1
 have hk := hk.trans kH2
 have rw := kH2.rd rw (by simp)
 have c1 := kH2.cl c1 (by simp)
 have c2 : Cl H2 H1.next [iv b.need, iv b.l1, iv b.l2, .slice b.wa b.wn b.wcap] := c2
 intro H3 hH3; obtain ⟨kH3, nH3, c3⟩ := new_facts hH3; clear hH3
 have c3 : Cl H3 H2.next [iv 0, iv 0] := c3
 have mH3 := kH3.1
 have hk := hk.trans kH3
 have rw := kH3.rd rw (by simp)
 have c1 := kH3.cl c1 (by simp)
 have c2 := kH3.cl c2 (by simp)
 refine And.intro rfl (Exists.intro (.agg #[iv 16384, iv 0]) (And.intro (by kernel_rfl) ?_))
 intro H4 hH4; obtain ⟨kH4, nH4, c4⟩ := new_facts hH4; clear hH4
 have c4 : Cl H4 H3.next [iv 0, iv 0] := c4
 have mH4 := kH4.1
 have hk := hk.trans kH4
 have rw := kH4.rd rw (by simp)
 have c1 := kH4.cl c1 (by simp)
 have c2 := kH4.cl c2 (by simp)
 have c3 := kH4.cl c3 (by simp)
 obtain ⟨_, eH5, lH5, gH5⟩ := id c4
 refine Exists.intro _ (Exists.intro _ (Exists.intro _ (And.intro gH5 (And.intro (by omega) (And.intro rfl (And.intro rfl (And.intro (by simp) ?_)))))))
 intro H5 hH5; obtain ⟨kH5, nH5, sH5⟩ := up_facts c4 hH5; clear hH5
 have mH5 := kH5.1
 have hk := hk.new kH5 (fun b hb => by simp at hb ⊢; omega)
 have rw := kH5.rd rw (by simp <;> omega)
 have c1 := kH5.cl c1 (by simp <;> omega)
 have c2 := kH5.cl c2 (by simp <;> omega)
 have c3 := kH5.cl c3 (by simp <;> omega)
 have c4 : Cl H5 H3.next [iv 16384, iv 0] := sH5
 refine Exists.intro _ (Exists.intro _ (And.intro c2.of (And.intro (show _ = some (Value.slice (some ⟨xw, 0, none⟩) b.wn b.wcap) from by rw [← ew]; rfl) ?_)))
 obtain ⟨b5, hb5⟩ : ∃ z, z = H3.next := ⟨_, rfl⟩
 have l5 : H.next + 2 < b5 ∧ b5 < H5.next := by rw [hb5]; omega
 rw [← hb5] at c4
 rw [← hb5]
 first | rw [ew] | skip
 refine loop_low (fn := Try.f51) E51_1 N51 L51x1 (fun j : Nat => [(2, pt H.next), (4, pt H2.next), (5, pt b5), (10, .slice (some ⟨xw, 0, none⟩) b.wn b.wcap), (11, iv (b.wn : Int)), (12, iv (j : Int))])
  (fun k j H' => j + k = 4 ∧ Keep H5 H' [b5] ∧ Cl H' b5 [iv (g.wk b j).1, iv (g.wk b j).2]) 4 0 ⟨by omega, Keep.refl _ _, c4⟩ ⟨rfl, rfl, rfl, rfl, rfl, rfl, trivial⟩ ?_
 rintro k j L1 ⟨hik, hki, c5⟩
 have hk := hk.new hki (fun b hb => by simp at hb ⊢; omega)
 have rw := hki.rd rw (by simp <;> omega)
 have c1 := hki.cl c1 (by simp <;> omega)
 have c2 := hki.cl c2 (by simp <;> omega)
 have c3 := hki.cl c3 (by simp <;> omega)
 have c5 : Cl L1 b5 [iv (g.wk b j).1, iv (g.wk b j).2] := c5
 have kb := hki
 have mi := hki.1
 refine And.intro (fun q1 => ?_) (fun q1 => ?_)
 ·have q1 : (j : Int) < (b.wn : Int) := of_decide_eq_true q1
  have hj : j < 4 := by omega
  have hsi := getS (b := b) (i := j) (by omega)
  refine Exists.intro j (And.intro rfl (And.intro (by omega) ?_))
  refine Exists.intro _ (Exists.intro _ (And.intro rw.of (And.intro (spc_row hsi) ?_)))
  intro H6 hH6; obtain ⟨kH6, nH6, c6⟩ := new_facts hH6; clear hH6
  have c6 : Cl H6 L1.next [iv 0, iv 0] := c6
  have mH6 := kH6.1
  have hk := hk.trans kH6
  have rw := kH6.rd rw (by simp)
  have c1 := kH6.cl c1 (by simp)
  have c2 := kH6.cl c2 (by simp)
  have c3 := kH6.cl c3 (by simp)
  have c5 := kH6.cl c5 (by simp)
  have kb := kb.trans (kH6.mono (by simp))
  obtain ⟨_, eH7, lH7, gH7⟩ := id c6
  refine Exists.intro _ (Exists.intro _ (Exists.intro _ (And.intro gH7 (And.intro (by omega) (And.intro rfl (And.intro rfl (And.intro (by simp) ?_)))))))
  intro H7 hH7; obtain ⟨kH7, nH7, sH7⟩ := up_facts c6 hH7; clear hH7
  have mH7 := kH7.1
  have hk := hk.new kH7 (fun b hb => by simp at hb ⊢; omega)
  have rw := kH7.rd rw (by simp <;> omega)
  have c1 := kH7.cl c1 (by simp <;> omega)
  have c2 := kH7.cl c2 (by simp <;> omega)
  have c3 := kH7.cl c3 (by simp <;> omega)
  have c5 := kH7.cl c5 (by simp <;> omega)
  have kb := kb.new kH7 (fun b hb => by simp at hb ⊢; omega)
  have c6 : Cl H7 L1.next [iv ((b.S j).1), iv ((b.S j).2)] := sH7
  refine Exists.intro _ (Exists.intro _ (And.intro c1.of (And.intro (show _ = some (iv g.winds) from rfl) ?_)))
  obtain ⟨p, hp, hp15⟩ : ∃ p, g.wm / 2 ^ j = p ∧ p ≤ 15 := ⟨_, rfl, Nat.le_trans (Nat.div_le_self _ _) hwm⟩
  refine And.intro rfl (Exists.intro (iv (p : Int)) (And.intro (by rw [← hp]; exact h_shr (m := g.wm) (d := j) (by omega) (by rw [← hwc]; rfl) rfl) ?_))
  refine And.intro rfl (Exists.intro _ (And.intro (h_and1 (m := p) (by omega) rfl rfl) ?_))
  refine And.intro (fun q2 => ?_) (fun q2 => ?_)
  ·have q2 : ((p % 2 : Nat) : Int) = 1 := by simpa using q2
   have hbit : g.wm.testBit j = true := by rw [Nat.testBit_eq_decide_div_mod_eq, hp]; simp; omega
   first | refine wD_dreg ?_ | (refine wOps_nil ?_; refine wD_dreg ?_)
   refine wD_addo (b := b5) (o := 0) rfl ?_
   refine wD_ld (b := b5) (o := 0) (v := iv ((g.wk b j).1)) rfl c5.rd rfl ?_
   refine wD_addo (b := L1.next) (o := 0) rfl ?_
   refine wD_ld (b := L1.next) (o := 0) (v := iv ((b.S j).1)) rfl c6.rd rfl ?_
   refine wD_mm (a := (g.wk b j).1) (b := (b.S j).1) rfl rfl ?_
   refine wD_addo (b := b5) (o := 0) rfl ?_
   refine wD_ld (b := b5) (o := 1) (v := iv ((g.wk b j).2)) rfl c5.rd rfl ?_
   refine wD_addo (b := L1.next) (o := 0) rfl ?_
   refine wD_ld (b := L1.next) (o := 1) (v := iv ((b.S j).2)) rfl c6.rd rfl ?_
   refine wD_mm (a := (g.wk b j).2) (b := (b.S j).2) rfl rfl ?_
   refine wD_addo (b := b5) (o := 0) rfl ?_
   refine wD_st (b := b5) (o := 0) rfl rfl c5 (by omega) rfl rfl (by simp) ?_
   intro H8 kH8 nH8 sH8
   have mH8 := kH8.1
   have hk := hk.new kH8 (fun b hb => by simp at hb ⊢; omega)
   have rw := kH8.rd rw (by simp <;> omega)
   have c1 := kH8.cl c1 (by simp <;> omega)
   have c2 := kH8.cl c2 (by simp <;> omega)
   have c3 := kH8.cl c3 (by simp <;> omega)
   have kb := kb.new kH8 (fun b hb => by simp at hb ⊢; omega)
   have c6 := kH8.cl c6 (by simp <;> omega)
   have c5 : Cl H8 b5 [iv (min ((g.wk b j).1) ((b.S j).1)), iv ((g.wk b j).2)] := sH8
   refine wD_addo (b := b5) (o := 0) rfl ?_
   refine wD_st (b := b5) (o := 1) rfl rfl c5 (by omega) rfl rfl (by simp) ?_
   intro H9 kH9 nH9 sH9
   have mH9 := kH9.1
   have hk := hk.new kH9 (fun b hb => by simp at hb ⊢; omega)
   have rw := kH9.rd rw (by simp <;> omega)
   have c1 := kH9.cl c1 (by simp <;> omega)
   have c2 := kH9.cl c2 (by simp <;> omega)
   have c3 := kH9.cl c3 (by simp <;> omega)
   have kb := kb.new kH9 (fun b hb => by simp at hb ⊢; omega)
   have c6 := kH9.cl c6 (by simp <;> omega)
   have c5 : Cl H9 b5 [iv (min ((g.wk b j).1) ((b.S j).1)), iv (max ((g.wk b j).2) ((b.S j).2))] := sH9
   refine wD_end (by repeat' first | exact True.intro | exact (fun h => h) | refine And.intro ?_ ?_ | (intro h; have h : (_ : Nat) = _ := h; omega)) ?_
   refine And.intro (show InR ((j : Int) + 1) from ⟨by omega, by omega⟩) ?_
   have ew : g.wk b (j + 1) = bif g.wm.testBit j then (min (g.wk b j).1 (b.S j).1, max (g.wk b j).2 (b.S j).2) else g.wk b j := rfl
   rw [hbit] at ew
   exact ⟨k - 1, j + 1, by omega, ⟨by omega, kb, by rw [ew]; exact c5⟩, rfl, rfl, rfl, rfl, rfl, rfl, trivial⟩
  ·have q2 : ¬ (((p % 2 : Nat) : Int) = 1) := by simpa using q2
   have hbit : g.wm.testBit j = false := by rw [Nat.testBit_eq_decide_div_mod_eq, hp]; simp; omega
   refine And.intro (show InR ((j : Int) + 1) from ⟨by omega, by omega⟩) ?_
   have ew : g.wk b (j + 1) = bif g.wm.testBit j then (min (g.wk b j).1 (b.S j).1, max (g.wk b j).2 (b.S j).2) else g.wk b j := rfl
   rw [hbit] at ew
   exact ⟨k - 1, j + 1, by omega, ⟨by omega, kb, by rw [ew]; exact c5⟩, rfl, rfl, rfl, rfl, rfl, rfl, trivial⟩
 ·have q1 : ¬ ((j : Int) < (b.wn : Int)) := of_decide_eq_false q1
  have hj : j = 4 := by omega
  subst hj
  refine Exists.intro _ (Exists.intro _ (And.intro c5.of (And.intro (show row 2 _ _ = some [iv ((g.wk b 4).1), iv ((g.wk b 4).2)] from rfl) ?_)))
  obtain ⟨_, eH10, lH10, gH10⟩ := id c3
  refine Exists.intro _ (Exists.intro _ (Exists.intro _ (And.intro gH10 (And.intro (by omega) (And.intro rfl (And.intro rfl (And.intro (by simp) ?_)))))))
  intro H10 hH10; obtain ⟨kH10, nH10, sH10⟩ := up_facts c3 hH10; clear hH10
  have mH10 := kH10.1
  have hk := hk.new kH10 (fun b hb => by simp at hb ⊢; omega)
  have rw := kH10.rd rw (by simp <;> omega)
  have c1 := kH10.cl c1 (by simp <;> omega)
  have c2 := kH10.cl c2 (by simp <;> omega)
  have c5 := kH10.cl c5 (by simp <;> omega)
  have c3 : Cl H10 H2.next [iv ((g.wk b 4).1), iv ((g.wk b 4).2)] := sH10
  exact And.intro trivial (Exists.intro _ (And.intro (res_cell rfl a30 i30s rfl c3) ⟨rfl, hk⟩))
end
end Go.Ax
/-
 Flood: a harvest with its works (35), Work (14, 15) (written by program).
-/
namespace Go.Ax
open Go Go.RowKit Go.Proofs
theorem wOps_nil {P : Program} {kn : FuncId → Option Bool} {lo n : Nat} {S : Rg} {H : Hp} {K : Rg → Hp → Prop} (h : K S H) : wOps P kn lo n [] S H K := h
def Fh.ws (g : Fh) : List (Int × Int) := (List.range g.bn).map g.W
theorem Fh.ws_at {g : Fh} {i : Nat} (h : i < g.bn) : g.ws[i]? = some (g.W i) := by
 unfold Fh.ws; rw [List.getElem?_map, List.getElem?_range h]; rfl
abbrev Fh.vw (g : Fh) (ka : Option Addr) (kc : Nat) : List Value := [.slice g.ba g.bn g.bcap, .slice g.ra g.rn g.rcap, iv g.inlet, iv g.reserve, iv g.winds, .slice ka g.bn kc]
section
variable {kn : FuncId → Option Bool} {lo : Nat} {H : Hp}
set_option maxRecDepth 100000 in
theorem new_ok {g : Fh} {f : Nat} (hat : g.At f H) (hlo : lo ≤ H.next) : ∃ w H', FnX Try.prog kn lo 35 [.agg g.v.toArray] H w H' ∧ Keep H H' [] ∧ ((g.ok = false ∧ w = .tuple #[.agg #[.slice none 0 0, .slice none 0 0, iv 0, iv 0, iv 0, .slice none 0 0], iv 1]) ∨ (g.ok = true ∧ ∃ ka kc, w = .tuple #[.agg (g.vw ka kc).toArray, iv 0] ∧ Sl H' ka g.bn kc (spc g.ws) ∧ ∀ x, ka = some ⟨x, 0, none⟩ → H.next ≤ x)) := by
 refine fnX_low (kn := kn) (lo := lo) (H := H) (args := [.agg g.v.toArray]) (Q := fun w H' => Keep H H' [] ∧ ((g.ok = false ∧ w = .tuple #[.agg #[.slice none 0 0, .slice none 0 0, iv 0, iv 0, iv 0, .slice none 0 0], iv 1]) ∨ (g.ok = true ∧ ∃ ka kc, w = .tuple #[.agg (g.vw ka kc).toArray, iv 0] ∧ Sl H' ka g.bn kc (spc g.ws) ∧ ∀ x, ka = some ⟨x, 0, none⟩ → H.next ≤ x))) Try.func35 B35 N35 Z35 L35 (by simp) ?_
 have hk := Keep.refl H []
 have hfl := hat.le
 intro H1 hH1; obtain ⟨kH1, nH1, c1⟩ := new_facts hH1; clear hH1
 have mH1 := kH1.1
 have hk := hk.trans kH1
 have hat := hat.keep kH1 (by simp)
 have c1 : Cl H1 H.next [.slice g.ba g.bn g.bcap, .slice g.ra g.rn g.rcap, iv g.inlet, iv g.reserve, iv g.winds] := c1
 intro H2 hH2; obtain ⟨kH2, nH2, c2⟩ := new_facts hH2; clear hH2
 have c2 : Cl H2 H1.next [.slice none 0 0, .slice none 0 0, iv 0, iv 0, iv 0, .slice none 0 0] := c2
 have mH2 := kH2.1
 have hk := hk.trans kH2
 have hat := hat.keep kH2 (by simp)
 have c1 := kH2.cl c1 (by simp)
 refine Exists.intro _ (Exists.intro _ (And.intro c1.of (And.intro (show row 5 _ _ = some [.slice g.ba g.bn g.bcap, .slice g.ra g.rn g.rcap, iv g.inlet, iv g.reserve, iv g.winds] from rfl) ?_)))
 refine callB (valid_ok hat) ?_
 intro tH3 H3 hH3 kH3
 have mH3 := kH3.1
 have hk := hk.trans kH3
 have hat := hat.keep kH3 (by simp)
 have c1 := kH3.cl c1 (by simp)
 have c2 := kH3.cl c2 (by simp)
 cases tH3
 ·have hok := hH3
  refine And.intro rfl (Exists.intro (.bool true) (And.intro rfl ?_))
  refine condT ?_
  refine And.intro rfl (Exists.intro (.agg #[.slice none 0 0, .slice none 0 0, iv 0, iv 0, iv 0, .slice none 0 0]) (And.intro (by kernel_rfl) ?_))
  obtain ⟨_, eH4, lH4, gH4⟩ := id c2
  refine Exists.intro _ (Exists.intro _ (Exists.intro _ (And.intro gH4 (And.intro (by omega) (And.intro rfl (And.intro rfl (And.intro (by simp) ?_)))))))
  intro H4 hH4; obtain ⟨kH4, nH4, sH4⟩ := up_facts c2 hH4; clear hH4
  have mH4 := kH4.1
  have hk := hk.new kH4 (fun b hb => by simp at hb ⊢; omega)
  have hat := hat.keep kH4 (fun x hx => by first | (simp at hx; done) | (simp at hx; omega))
  have c1 := kH4.cl c1 (by simp <;> omega)
  have c2 : Cl H4 H1.next [.slice none 0 0, .slice none 0 0, iv 0, iv 0, iv 0, .slice none 0 0] := sH4
  exact And.intro trivial (Exists.intro _ (And.intro (res_ct rfl a71 i71s rfl c2 rfl) ⟨hk, .inl ⟨hok, rfl⟩⟩))
 ·have hok := hH3
  have v := Fh.vd hok hat; have vn := v.n
  obtain ⟨xb, eb, rb, lb⟩ := hat.bog (by omega)
  refine And.intro rfl (Exists.intro (.bool false) (And.intro rfl ?_))
  refine condF ?_
  refine Exists.intro _ (Exists.intro _ (And.intro c1.of (And.intro (show row 5 _ _ = some [.slice g.ba g.bn g.bcap, .slice g.ra g.rn g.rcap, iv g.inlet, iv g.reserve, iv g.winds] from rfl) ?_)))
  refine And.intro rfl (Exists.intro (.agg #[.slice g.ba g.bn g.bcap, .slice g.ra g.rn g.rcap, iv g.inlet, iv g.reserve, iv g.winds, .slice none 0 0]) (And.intro (by kernel_rfl) ?_))
  intro H5 hH5; obtain ⟨kH5, nH5, c5⟩ := new_facts hH5; clear hH5
  have c5 : Cl H5 H3.next [.slice none 0 0, .slice none 0 0, iv 0, iv 0, iv 0, .slice none 0 0] := c5
  have mH5 := kH5.1
  have hk := hk.trans kH5
  have hat := hat.keep kH5 (by simp)
  have c1 := kH5.cl c1 (by simp)
  have c2 := kH5.cl c2 (by simp)
  have rb := kH5.rd rb (by simp)
  obtain ⟨_, eH6, lH6, gH6⟩ := id c5
  refine Exists.intro _ (Exists.intro _ (Exists.intro _ (And.intro gH6 (And.intro (by omega) (And.intro rfl (And.intro rfl (And.intro (by simp) ?_)))))))
  intro H6 hH6; obtain ⟨kH6, nH6, sH6⟩ := up_facts c5 hH6; clear hH6
  have mH6 := kH6.1
  have hk := hk.new kH6 (fun b hb => by simp at hb ⊢; omega)
  have hat := hat.keep kH6 (fun x hx => by first | (simp at hx; done) | (simp at hx; omega))
  have c1 := kH6.cl c1 (by simp <;> omega)
  have c2 := kH6.cl c2 (by simp <;> omega)
  have rb := kH6.rd rb (by simp <;> omega)
  have c5 : Cl H6 H3.next [.slice g.ba g.bn g.bcap, .slice g.ra g.rn g.rcap, iv g.inlet, iv g.reserve, iv g.winds, .slice none 0 0] := sH6
  refine Exists.intro _ (Exists.intro _ (And.intro c5.of (And.intro (show _ = some (Value.slice (some ⟨xb, 0, none⟩) g.bn g.bcap) from by rw [← eb]; rfl) ?_)))
  obtain ⟨z2, hz2⟩ : ∃ z, z = H1.next := ⟨_, rfl⟩
  obtain ⟨z4, hz4⟩ : ∃ z, z = H3.next := ⟨_, rfl⟩
  obtain ⟨ff, hff⟩ : ∃ z, z = H6.next := ⟨_, rfl⟩
  have b36 : z2 < z4 ∧ z4 < ff ∧ H.next ≤ z2 := by omega
  rw [← hz2] at c2
  rw [← hz4] at c5
  rw [← hz2, ← hz4]
  have hfm : ff ≤ H6.next := by omega
  clear hz2 hz4 hff
  refine loop_low (fn := Try.f35) E35_1 N35 L35x1 (fun x0 : Value × Nat => [(2, pt z2), (3, iv 0), (4, pt z4), (15, .slice (some ⟨xb, 0, none⟩) g.bn g.bcap), (16, iv (g.bn : Int)), (17, iv (x0.2 : Int))])
   (fun q x0 H' => x0.2 + q = g.bn ∧ Keep H H' [] ∧ g.At f H' ∧ Rd H' xb (bgc g.bs) ∧ Cl H' z2 [.slice none 0 0, .slice none 0 0, iv 0, iv 0, iv 0, .slice none 0 0] ∧ Cl H' z4 [.slice g.ba g.bn g.bcap, .slice g.ra g.rn g.rcap, iv g.inlet, iv g.reserve, iv g.winds, x0.1] ∧ Acc lo ff 30 H' x0.1 x0.2 (spc ((List.range x0.2).map g.W)) ∧ ff ≤ H'.next) g.bn (.slice none 0 0, 0) ⟨by show 0 + g.bn = g.bn; omega, hk, hat, rb, c2, c5, .inl ⟨rfl, rfl, rfl⟩, hfm⟩ ⟨rfl, rfl, rfl, rfl, rfl, rfl, trivial⟩ ?_
  rintro q ⟨wv, i⟩ L1 ⟨hik, hk, hat, rb, c2, c4, hacc, hfl2⟩
  simp only at hik hacc c4
  have hm := hk.1
  have kacc := Keep.refl L1 []
  refine And.intro (fun q1 => ?_) (fun q1 => ?_)
  ·have q1 : (i : Int) < (g.bn : Int) := of_decide_eq_true q1
   have hi : i < g.bn := by omega
   have hbi := getB (g := g) (i := i) (by rw [hat.bl]; exact hi)
   have hvb := v.b i hi
   refine Exists.intro i (And.intro rfl (And.intro hi ?_))
   refine Exists.intro _ (Exists.intro _ (And.intro rb.of (And.intro (bgc_row hbi) ?_)))
   intro H7 hH7; obtain ⟨kH7, nH7, c7⟩ := new_facts hH7; clear hH7
   have c7 : Cl H7 L1.next [iv 0, iv 0, iv 0, .slice none 0 0] := c7
   have mH7 := kH7.1
   have hk := hk.trans kH7
   have hat := hat.keep kH7 (by simp)
   have rb := kH7.rd rb (by simp)
   have c2 := kH7.cl c2 (by simp)
   have c4 := kH7.cl c4 (by simp)
   have kacc := kacc.trans kH7
   obtain ⟨_, eH8, lH8, gH8⟩ := id c7
   refine Exists.intro _ (Exists.intro _ (Exists.intro _ (And.intro gH8 (And.intro (by omega) (And.intro rfl (And.intro rfl (And.intro (by simp) ?_)))))))
   intro H8 hH8; obtain ⟨kH8, nH8, sH8⟩ := up_facts c7 hH8; clear hH8
   have mH8 := kH8.1
   have hk := hk.new kH8 (fun b hb => by simp at hb ⊢; omega)
   have hat := hat.keep kH8 (fun x hx => by first | (simp at hx; done) | (simp at hx; omega))
   have rb := kH8.rd rb (by simp <;> omega)
   have c2 := kH8.cl c2 (by simp <;> omega)
   have c4 := kH8.cl c4 (by simp <;> omega)
   have kacc := kacc.new kH8 (fun b hb => by simp at hb ⊢; omega)
   have c7 : Cl H8 L1.next [iv ((g.B i).need), iv ((g.B i).l1), iv ((g.B i).l2), .slice ((g.B i).wa) ((g.B i).wn) ((g.B i).wcap)] := sH8
   first | refine wD_dreg ?_ | (refine wOps_nil ?_; refine wD_dreg ?_)
   refine wD_addo (b := z4) (o := 0) rfl ?_
   refine wD_ld (b := z4) (o := 5) (v := wv) rfl c4.rd rfl ?_
   refine wD_lda (b := z4) (o := 0) rfl c4.rd (show row 6 _ _ = some [.slice g.ba g.bn g.bcap, .slice g.ra g.rn g.rcap, iv g.inlet, iv g.reserve, iv g.winds, wv] from rfl) ?_
   refine wD_lda (b := L1.next) (o := 0) rfl c7.rd (show row 4 _ _ = some [iv ((g.B i).need), iv ((g.B i).l1), iv ((g.B i).l2), .slice ((g.B i).wa) ((g.B i).wn) ((g.B i).wcap)] from rfl) ?_
   obtain ⟨H9, fH9, kH9⟩ := workOf_ok (kn := kn) (lo := H8.next) (H := H8) (g := g) (b := g.B i) (kv := wv) v (hat.wrk hi).1 (hat.wrk hi).2.1 hvb.2.2.2.2.2 (by omega)
   refine wD_callh (vs := [.agg #[.slice g.ba g.bn g.bcap, .slice g.ra g.rn g.rcap, iv g.inlet, iv g.reserve, iv g.winds, wv], .agg #[iv ((g.B i).need), iv ((g.B i).l1), iv ((g.B i).l2), .slice ((g.B i).wa) ((g.B i).wn) ((g.B i).wcap)]]) rfl (by kernel_rfl) (callX_args fH9) ?_
   have mH9 := kH9.1
   have hk := hk.trans kH9
   have hat := hat.keep kH9 (by simp)
   have rb := kH9.rd rb (by simp)
   have c2 := kH9.cl c2 (by simp)
   have c4 := kH9.cl c4 (by simp)
   have kacc := kacc.trans kH9
   have c7 := kH9.cl c7 (by simp)
   obtain ⟨H10, hH10⟩ : ∃ H10, H9.new (.cells [iv ((g.wk (g.B i) 4).1), iv ((g.wk (g.B i) 4).2)] 30 false) = H10 := ⟨_, rfl⟩
   refine wD_memh (H' := H10) (k := .heavy) rfl (by kernel_rfl) ((heap_build1 (v := .agg #[iv ((g.wk (g.B i) 4).1), iv ((g.wk (g.B i) 4).2)]) se55 z30 rfl rfl rfl (by decide)).trans (by rw [← hH10]; rfl)) (fun b e => by cases e) ?_
   obtain ⟨kH10, nH10, c10⟩ := new_facts hH10; clear hH10
   have c10 : Cl H10 H9.next [iv ((g.wk (g.B i) 4).1), iv ((g.wk (g.B i) 4).2)] := c10
   have mH10 := kH10.1
   have hk := hk.trans kH10
   have hat := hat.keep kH10 (by simp)
   have rb := kH10.rd rb (by simp)
   have c2 := kH10.cl c2 (by simp)
   have c4 := kH10.cl c4 (by simp)
   have kacc := kacc.trans kH10
   have c7 := kH10.cl c7 (by simp)
   obtain ⟨H11, kdH11, eH11, dH11, aH11, kbH11⟩ := heap_append_below (P := Try.prog) (lo := lo) (k := i) (t1 := 55) se55 u55 (c10.sl (Nat.le_refl 1)) rfl (by decide) rfl (by rw [spc_len]; simp) (by omega) (hacc.keep kacc) (by omega) (by omega)
   refine wD_memh (k := kdH11) rfl (by cases wv <;> kernel_rfl) (eH11 _ _ _ _ _ _ _ rfl rfl) (reg_ok dH11 _) ?_
   have hk := kbH11.keep hk (by omega)
   have hat := hat.keepB kbH11 (by omega)
   have rb := kbH11.rd rb (by omega)
   have c2 := kbH11.cl c2 (by omega)
   have c4 := kbH11.cl c4 (by omega)
   have mH11 := kbH11.1
   refine wD_addo (b := z4) (o := 0) rfl ?_
   refine wD_st (b := z4) (o := 5) rfl rfl c4 (by omega) rfl rfl (by simp) ?_
   intro H12 kH12 nH12 sH12
   have mH12 := kH12.1
   have hk := hk.new kH12 (fun b hb => by simp at hb ⊢; omega)
   have hat := hat.keep kH12 (fun x hx => by first | (simp at hx; done) | (simp at hx; omega))
   have rb := kH12.rd rb (by simp <;> omega)
   have c2 := kH12.cl c2 (by simp <;> omega)
   have c4 : Cl H12 z4 [.slice g.ba g.bn g.bcap, .slice g.ra g.rn g.rcap, iv g.inlet, iv g.reserve, iv g.winds, .slice (some ⟨H10.next, 0, none⟩) (i + 1) (i + 1)] := sH12
   refine wD_end (by rcases dH11 with rfl | ⟨bH11, rfl, hbH11⟩ <;> repeat' first | exact True.intro | exact (fun h => h) | refine And.intro ?_ ?_ | (intro h; have h : (_ : Nat) = _ := h; omega)) ?_
   refine And.intro (show InR ((i : Int) + 1) from ⟨by omega, by omega⟩) ?_
   refine ⟨q - 1, (_, i + 1), by omega, ⟨by show i + 1 + (q - 1) = g.bn; omega, hk, hat, rb, c2, c4, ?_, by omega⟩, rfl, rfl, rfl, rfl, rfl, rfl, trivial⟩
   show Acc _ _ _ _ _ (i + 1) (spc ((List.range (i + 1)).map g.W))
   have e : spc ((List.range (i + 1)).map g.W) = spc ((List.range i).map g.W) ++ [iv (g.wk (g.B i) 4).1, iv (g.wk (g.B i) 4).2] := by rw [List.range_succ]; simp [spc, Fh.W]
   rw [e]; exact aH11.keepW kH12 (by omega)
  ·have q1 : ¬ ((i : Int) < (g.bn : Int)) := of_decide_eq_false q1
   have hi : i = g.bn := by omega
   subst hi
   obtain ⟨ka, kc, rfl, hks, hkf⟩ := hacc.sl
   have fka : ∀ b, ka = some ⟨b, 0, none⟩ → b < L1.next := hks.old
   have fkb : ∀ b, ka = some ⟨b, 0, none⟩ → H.next ≤ b ∧ b ≠ z2 := fun b e => by have := hkf b e; omega
   refine Exists.intro _ (Exists.intro _ (And.intro c4.of (And.intro (show row 6 _ _ = some [.slice g.ba g.bn g.bcap, .slice g.ra g.rn g.rcap, iv g.inlet, iv g.reserve, iv g.winds, .slice ka g.bn kc] from rfl) ?_)))
   obtain ⟨_, eH13, lH13, gH13⟩ := id c2
   refine Exists.intro _ (Exists.intro _ (Exists.intro _ (And.intro gH13 (And.intro (by omega) (And.intro rfl (And.intro rfl (And.intro (by simp) ?_)))))))
   intro H13 hH13; obtain ⟨kH13, nH13, sH13⟩ := up_facts c2 hH13; clear hH13
   have mH13 := kH13.1
   have hk := hk.new kH13 (fun b hb => by simp at hb ⊢; omega)
   have hat := hat.keep kH13 (fun x hx => by first | (simp at hx; done) | (simp at hx; omega))
   have rb := kH13.rd rb (by simp <;> omega)
   have c4 := kH13.cl c4 (by simp <;> omega)
   have hks := kH13.sl hks (fun b e => by have := fkb b e; first | (simp; done) | (simp; omega))
   have c2 : Cl H13 z2 [.slice g.ba g.bn g.bcap, .slice g.ra g.rn g.rcap, iv g.inlet, iv g.reserve, iv g.winds, .slice ka g.bn kc] := sH13
   exact And.intro trivial (Exists.intro _ (And.intro (res_ct rfl a71 i71s rfl c2 rfl) ⟨hk, .inr ⟨hok, ka, kc, rfl, hks, fun x e => (fkb x e).1⟩⟩))
end
end Go.Ax
/-
 Flood: orders: isOrder (52), the document's Order (29) (written by program).
-/
namespace Go.Ax
open Go Go.RowKit Go.Proofs
structure IsOrd (us : List Int) (n : Nat) : Prop where
 len : us.length = n
 rng : ∀ x ∈ us, 0 ≤ x ∧ x < (n : Int)
 nd : us.Nodup
noncomputable def ordB (us : List Int) (n : Nat) : Bool := open Classical in decide (IsOrd us n)
theorem ordB_is {us : List Int} {n : Nat} (h : IsOrd us n) : ordB us n = true := by
 unfold ordB; simpa using h
section
variable {kn : FuncId → Option Bool} {lo : Nat} {H : Hp}
end
end Go.Ax
/-
 Flood: what is known of an order, bed by bed; lists that grow inside of a block that was made for them.
-/
namespace Go.Ax
open Go Go.RowKit Go.Proofs
structure Fs where
 bed : Nat
 f1 : Int
 f2 : Int
 d1 : Int
 d2 : Int
 t1 : Int
 t2 : Int
 l1 : Int
 l2 : Int
 s1 : Int
 s2 : Int
 r1 : Int
 r2 : Int
def Fs.z : Fs := ⟨0, 0, 0, 0, 0, 0, 0, 0, 0, 0, 0, 0, 0⟩
abbrev Fs.c (x : Fs) : List Value := [iv (x.bed : Int), iv x.f1, iv x.f2, iv x.d1, iv x.d2]
abbrev Fs.u (x : Fs) : List Value := [iv x.t1, iv x.t2, iv x.l1, iv x.l2, iv x.s1, iv x.s2, iv x.r1, iv x.r2]
def flc (l : List Fs) : List Value := l.flatMap Fs.c
theorem flc_len (l : List Fs) : (flc l).length = l.length * 5 := by
 unfold flc; rw [flat_len (size := 5) (fun _ _ => rfl)]
theorem flc_row {l : List Fs} {i : Nat} {x : Fs} (h : l[i]? = some x) : row 5 (flc l) (0 + i * 5) = some x.c := row_flat (f := Fs.c) (size := 5) (fun _ _ => rfl) h
theorem flc_put {l : List Fs} {i : Nat} (h : i < l.length) (y : Fs) : putRow (flc l) (0 + i * 5) y.c = flc (l.set i y) := flat_put (f := Fs.c) (size := 5) (fun _ => rfl) h y
def Fh.need (g : Fh) (i : Nat) : Int := (g.B i).need
def Fh.k1 (g : Fh) (i : Nat) : Int := min (g.need i) ((g.W i).1 * (g.B i).l1)
def Fh.k2 (g : Fh) (i : Nat) : Int := min (g.need i) ((g.W i).2 * (g.B i).l2)
def Fh.fill (g : Fh) (i : Nat) (a b t1 t2 l1 l2 s1 s2 : Int) : Fs := ⟨i, a, b, a + (g.W i).1, b + (g.W i).2, t1, t2, l1 + g.k1 i, l2 + g.k2 i, s1, s2, g.need i - g.k2 i, g.need i - g.k1 i⟩
def Fh.first (g : Fh) (i : Nat) : Fs := g.fill i (0 + upq (g.need i) g.inlet) (0 + upq (g.need i) g.inlet) (g.need i) (g.need i) 0 0 0 0
def Fh.nxt (g : Fh) (x : Fs) (i : Nat) : Fs := g.fill i (x.d1 + upq (g.need i) (g.rate x.bed i)) (x.d2 + upq (g.need i) (g.rate x.bed i)) (x.t1 + max 0 (g.need i - x.r2)) (x.t2 + max 0 (g.need i - x.r1)) x.l1 x.l2 (x.s1 + max 0 (x.r1 - g.need i)) (x.s2 + max 0 (x.r2 - g.need i))
def Fh.st (g : Fh) (o : List Nat) : Nat → Fs
 | 0 => g.first (o.getD 0 0)
 | k + 1 => g.nxt (g.st o k) (o.getD (k + 1) 0)
theorem Fh.st_bed (g : Fh) (o : List Nat) : ∀ k, (g.st o k).bed = o.getD k 0
 | 0 => rfl
 | _ + 1 => rfl
def Fh.fs (g : Fh) (o : List Nat) (k : Nat) : List Fs := (List.range k).map (g.st o)
theorem Fh.fs_len (g : Fh) (o : List Nat) (k : Nat) : (g.fs o k).length = k := by simp [Fh.fs]
theorem Fh.fs_at {g : Fh} {o : List Nat} {k i : Nat} (h : i < k) : (g.fs o k)[i]? = some (g.st o i) := by
 unfold Fh.fs; rw [List.getElem?_map, List.getElem?_range h]; rfl
theorem Fh.fs_step (g : Fh) (o : List Nat) (k : Nat) : g.fs o (k + 1) = g.fs o k ++ [g.st o k] := by
 unfold Fh.fs; rw [List.range_succ]; simp
def Fh.can (g : Fh) (o : List Nat) (k : Nat) : Bool := (List.range k).all fun j => decide (g.rate (o.getD j 0) (o.getD (j + 1) 0) ≠ 0)
theorem Fh.can_step (g : Fh) (o : List Nat) (k : Nat) : g.can o (k + 1) = (g.can o k && decide (g.rate (o.getD k 0) (o.getD (k + 1) 0) ≠ 0)) := by
 unfold Fh.can; rw [List.range_succ, List.all_append]; simp
structure Fs.In (x : Fs) (k : Int) : Prop where
 f1 : 0 ≤ x.f1 ∧ x.f1 ≤ k * 70000000000
 f2 : 0 ≤ x.f2 ∧ x.f2 ≤ k * 70000000000
 d1 : 0 ≤ x.d1 ∧ x.d1 ≤ k * 70000000000
 d2 : 0 ≤ x.d2 ∧ x.d2 ≤ k * 70000000000
 t1 : 0 ≤ x.t1 ∧ x.t1 ≤ k * 70000000000
 t2 : 0 ≤ x.t2 ∧ x.t2 ≤ k * 70000000000
 l1 : 0 ≤ x.l1 ∧ x.l1 ≤ k * 70000000000
 l2 : 0 ≤ x.l2 ∧ x.l2 ≤ k * 70000000000
 s1 : 0 ≤ x.s1 ∧ x.s1 ≤ k * 70000000000
 s2 : 0 ≤ x.s2 ∧ x.s2 ≤ k * 70000000000
 r1 : 0 ≤ x.r1 ∧ x.r1 ≤ 70000000000
 r2 : 0 ≤ x.r2 ∧ x.r2 ≤ 70000000000
theorem upq_in {a b : Int} (ha : 1 ≤ a ∧ a ≤ 68719476736) (hb : 1 ≤ b) : 1 ≤ upq a b ∧ upq a b ≤ 68719476736 := by
 unfold upq
 constructor
 ·exact (Int.le_ediv_iff_mul_le (by omega)).2 (by omega)
 ·refine Int.le_trans (Int.ediv_le_ediv (c := b) (by omega) (b := a * b) ?_) ?_
  ·have : 0 ≤ (a - 1) * (b - 1) := Int.mul_nonneg (by omega) (by omega)
   rw [Int.sub_mul, Int.mul_sub] at this
   omega
  ·rw [Int.mul_ediv_cancel _ (by omega)]; omega
structure Fh.Bd (g : Fh) (i : Nat) : Prop where
 need : 1 ≤ g.need i ∧ g.need i ≤ 68719476736
 w1 : 0 ≤ (g.W i).1 ∧ (g.W i).1 ≤ 16384
 w2 : 0 ≤ (g.W i).2 ∧ (g.W i).2 ≤ 16384
 q1 : 0 ≤ (g.B i).l1 ∧ (g.B i).l1 ≤ 1048576
 q2 : 0 ≤ (g.B i).l2 ∧ (g.B i).l2 ≤ 1048576
 m1 : 0 ≤ (g.W i).1 * (g.B i).l1 ∧ (g.W i).1 * (g.B i).l1 ≤ 16384 * 1048576
 m2 : 0 ≤ (g.W i).2 * (g.B i).l2 ∧ (g.W i).2 * (g.B i).l2 ≤ 16384 * 1048576
 k1 : 0 ≤ g.k1 i ∧ g.k1 i ≤ g.need i
 k2 : 0 ≤ g.k2 i ∧ g.k2 i ≤ g.need i
theorem Fh.bd {g : Fh} {f : Nat} {H : Hp} (v : g.Vd) (a : g.At f H) {i : Nat} (hi : i < g.bn) : g.Bd i := by
 have hb := v.b i hi
 have hw := Fh.wk_in v hi (a.wrk hi).2.1 4 (Nat.le_refl 4)
 have m1 := mul_rng (a := (g.W i).1) (b := (g.B i).l1) (p := 16384) (q := 1048576) ⟨hw.1, hw.2.1⟩ ⟨by omega, by omega⟩
 have m2 := mul_rng (a := (g.W i).2) (b := (g.B i).l2) (p := 16384) (q := 1048576) ⟨hw.2.2.1, hw.2.2.2⟩ ⟨by omega, by omega⟩
 exact ⟨⟨hb.1, hb.2.1⟩, ⟨hw.1, hw.2.1⟩, hw.2.2, ⟨by omega, by omega⟩, ⟨by omega, by omega⟩, m1, m2, by unfold Fh.k1 Fh.need; omega, by unfold Fh.k2 Fh.need; omega⟩
theorem Fh.first_in {g : Fh} (v : g.Vd) {i : Nat} (b : g.Bd i) : (g.first i).In 1 := by
 have hu := upq_in b.need v.inl.1
 have h1 := b.w1; have h2 := b.w2; have h3 := b.k1; have h4 := b.k2; have h5 := b.need
 constructor <;> simp only [Fh.first, Fh.fill] <;> omega
theorem Fh.nxt_in {g : Fh} {x : Fs} {k : Int} (hx : x.In k) (hk : 0 ≤ k) {i : Nat} (b : g.Bd i) (hr : 1 ≤ g.rate x.bed i) : (g.nxt x i).In (k + 1) := by
 have hu := upq_in b.need hr
 have h1 := b.w1; have h2 := b.w2; have h3 := b.k1; have h4 := b.k2; have h5 := b.need
 obtain ⟨a1, a2, a3, a4, a5, a6, a7, a8, a9, a10, a11, a12⟩ := hx
 constructor <;> simp only [Fh.nxt, Fh.fill] <;> omega
def Sc (H : Hp) (b : Nat) (cs : List Value) : Prop := b < H.next ∧ ∃ e, H.t.get b = some (.cells cs e false)
theorem Sc.cl {H : Hp} {b : Nat} {cs : List Value} (h : Sc H b cs) : Cl H b cs := by
 obtain ⟨h1, e, h2⟩ := h; exact ⟨h1, e, false, h2⟩
theorem Sc.lt {H : Hp} {b : Nat} {cs : List Value} (h : Sc H b cs) : b < H.next := h.1
theorem Keep.sc {H H1 : Hp} {l : List Nat} (k : Keep H H1 l) {b : Nat} {cs : List Value} (h : Sc H b cs) (hl : b ∉ l) : Sc H1 b cs := by
 obtain ⟨h1, e, h2⟩ := h; exact ⟨Nat.lt_of_lt_of_le h1 k.1, e, by rw [k.2 b h1 hl]; exact h2⟩
theorem KeepB.sc {f : Nat} {H H1 : Hp} (k : KeepB f H H1) {b : Nat} {cs : List Value} (h : Sc H b cs) (hl : b < f) : Sc H1 b cs := by
 obtain ⟨h1, e, h2⟩ := h; exact ⟨Nat.lt_of_lt_of_le h1 k.1, e, by rw [k.2 b hl]; exact h2⟩
theorem heap_append_room {P : Program} {lo : Nat} {H : Hp} {t0 t1 e ep : TypeId} {size k cap cap2 b : Nat} {a : Option Addr} {cs news : List Value} (he : sliceElem P t0 = some (e, size)) (ht : P.underlying t1 = some (.slice ep))
  (hs : Sl H a 1 cap2 news) (hl : news.length = 1 * size) (hone : news.all one = true) (h : Sc H b cs) (hk : k < cap) (hk2 : k < 1000) (hlen : (k + 1) * size ≤ cs.length) (hlo : lo ≤ b) :
  ∃ H1, (∀ (n : Nat) (S : Rg) (d : Option Tmp) (x y : Operand) (ty : TypeId) (p : String), evS S x = some (.slice (some ⟨b, 0, none⟩) k cap) → evS S y = some (.slice a 1 cap2) → heapOp P lo (frS n S) H ⟨d, .call ⟨.builtin .append, #[x, y], #[t0, t1]⟩, ty, p, #[], none⟩ = some (.val (.slice (some ⟨b, 0, none⟩) (k + 1) cap) H1, .store b)) ∧
   Keep H H1 [b] ∧ H1.next = H.next ∧ Sc H1 b (putRow cs (0 + k * size) news) := by
 obtain ⟨h1, e0, h2⟩ := h
 have hsrc := src_of hs hl
 refine ⟨{ H with t := H.t.set b (.cells (putRow cs (0 + k * size) news) e0 false) }, ?_, ⟨Nat.le_refl _, fun x _ hx => ?_⟩, rfl, h1, e0, ?_⟩
 ·intro n S d x y ty p hx hy
  unfold heapOp
  simp only [evs, ev_frS, hx, hy, builtinV, List.getElem?_toArray, List.getElem?_cons_zero, List.getElem?_cons_succ, he, ht, hsrc, appendV, h2, Nat.ble_eq_true_of_le (show k + 1 ≤ 1048576 by omega), Nat.ble_eq_true_of_le (show k + 1 ≤ cap by omega), Nat.ble_eq_true_of_le hlo, Nat.ble_eq_true_of_le (show 0 + (k + 1) * size ≤ cs.length by omega), hone, show Nat.beq 1 0 = false from rfl, Bool.and_self, cond_true, cond_false]
 ·show (H.t.set b _).get x = _
  rw [Tr.get_set, if_neg (by simpa using hx)]
 ·show (H.t.set b _).get b = _
  rw [Tr.get_set, if_pos rfl]
end Go.Ax
/-
 Flood: flood (83): a bed is filled and harvested; last (64), begin (71) (written by program).
-/
namespace Go.Ax
open Go Go.RowKit Go.Proofs
theorem se34 : sliceElem Try.prog 34 = some (52, 5) := by kernel_rfl
theorem z52 : zeroOf Try.prog 52 = some (.agg #[iv 0, iv 0, iv 0, iv 0, iv 0]) := by kernel_rfl
theorem u34 : Try.prog.underlying 34 = some (.slice 52) := by kernel_rfl
section
variable {kn : FuncId → Option Bool} {lo : Nat} {H : Hp}
set_option maxRecDepth 100000 in
set_option maxHeartbeats 4000000 in
theorem flood_ok {g : Fh} {f i k cap b bb : Nat} {ka : Option Addr} {kc : Nat} {ov : Value} {n1 n2 mm t1 t2 l1 l2 s1 s2 r1 r2 e : Int} {L : List Fs} (hat : g.At f H) (v : g.Vd) (hi : i < g.bn) (hks : Sl H ka g.bn kc (spc g.ws)) (cb : Cl H b [ov, slv bb k cap, iv t1, iv t2, iv l1, iv l2, iv s1, iv s2, iv r1, iv r2]) (hsc : Sc H bb (flc L)) (hL : L.length = cap) (hkc : k < cap) (hk7 : k < 100) (hb : lo ≤ b) (hbb : lo ≤ bb) (hfb : f ≤ b) (hfbb : f ≤ bb) (hne : b ≠ bb) (fk : ∀ x, ka = some ⟨x, 0, none⟩ → x ≠ b ∧ x ≠ bb) (hn1 : 0 ≤ n1 ∧ n1 ≤ 1000000000000) (hn2 : 0 ≤ n2 ∧ n2 ≤ 1000000000000) (hmm : 0 ≤ mm ∧ mm ≤ 1000000000000) (hl1 : 0 ≤ l1 ∧ l1 ≤ 1000000000000) (hl2 : 0 ≤ l2 ∧ l2 ≤ 1000000000000) (he : e = (i : Int)) (hlo : lo ≤ H.next) :
  ∃ H', FnX Try.prog kn lo 83 [.agg (g.vw ka kc).toArray, pt b, iv e, spv n1 n2, iv mm] H unit H' ∧ Keep H H' [b, bb] ∧ Cl H' b [ov, slv bb (k + 1) cap, iv t1, iv t2, iv (l1 + g.k1 i), iv (l2 + g.k2 i), iv s1, iv s2, iv (g.need i - g.k2 i), iv (g.need i - g.k1 i)] ∧ Sc H' bb (putRow (flc L) (0 + k * 5) [iv (i : Int), iv (n1 + mm), iv (n2 + mm), iv (n1 + mm + (g.W i).1), iv (n2 + mm + (g.W i).2)]) := by
 subst he
 have key := fnX_low (kn := kn) (lo := lo) (H := H) (args := [.agg (g.vw ka kc).toArray, pt b, iv (i : Int), spv n1 n2, iv mm]) (Q := fun w H' => w = unit ∧ Keep H H' [b, bb] ∧ Cl H' b [ov, slv bb (k + 1) cap, iv t1, iv t2, iv (l1 + g.k1 i), iv (l2 + g.k2 i), iv s1, iv s2, iv (g.need i - g.k2 i), iv (g.need i - g.k1 i)] ∧ Sc H' bb (putRow (flc L) (0 + k * 5) [iv (i : Int), iv (n1 + mm), iv (n2 + mm), iv (n1 + mm + (g.W i).1), iv (n2 + mm + (g.W i).2)])) Try.func83 B83 N83 Z83 L83 (by simp) ?_
 ·obtain ⟨w, H', h, rfl, q⟩ := key; exact ⟨H', h, q⟩
 have hk := Keep.refl H [b, bb]
 have hfl := hat.le; have ltb := cb.lt; have ltbb := hsc.lt; have hbn := v.n
 obtain ⟨⟨d1, d2⟩, ⟨d3, d4⟩, ⟨d5, d6⟩, _, _, d7, d8, ⟨d9, d10⟩, ⟨d11, d12⟩⟩ := Fh.bd v hat hi
 have hnd : g.need i = (g.B i).need := rfl
 have hq1 : g.k1 i = min (g.B i).need ((g.W i).1 * (g.B i).l1) := rfl
 have hq2 : g.k2 i = min (g.B i).need ((g.W i).2 * (g.B i).l2) := rfl
 obtain ⟨xb, eb, rb, lb⟩ := hat.bog (by omega)
 have hbi := getB (g := g) (i := i) (by rw [hat.bl]; exact hi)
 rcases hks with ⟨_, h0, _⟩ | ⟨xk, ek, rk, _⟩
 ·omega
 have lk := fk xk ek; have lk2 := rk.lt
 intro H1 hH1; obtain ⟨kH1, nH1, c1⟩ := new_facts hH1; clear hH1
 have mH1 := kH1.1
 have hk := hk.trans (kH1.mono (by simp))
 have hat := hat.keep kH1 (by simp)
 have cb := kH1.cl cb (by simp)
 have hsc := kH1.sc hsc (by simp)
 have rb := kH1.rd rb (by simp)
 have rk := kH1.rd rk (by simp)
 have c1 : Cl H1 H.next [.slice g.ba g.bn g.bcap, .slice g.ra g.rn g.rcap, iv g.inlet, iv g.reserve, iv g.winds, .slice ka g.bn kc] := c1
 intro H2 hH2; obtain ⟨kH2, nH2, c2⟩ := new_facts hH2; clear hH2
 have mH2 := kH2.1
 have hk := hk.trans (kH2.mono (by simp))
 have hat := hat.keep kH2 (by simp)
 have cb := kH2.cl cb (by simp)
 have hsc := kH2.sc hsc (by simp)
 have rb := kH2.rd rb (by simp)
 have rk := kH2.rd rk (by simp)
 have c1 := kH2.cl c1 (by simp)
 have c2 : Cl H2 H1.next [iv n1, iv n2] := c2
 refine wD_seq ?_
 refine wD_addo (b := H.next) (o := 0) rfl ?_
 refine wD_addo (b := H.next) (o := 0) rfl ?_
 refine wD_ld (b := H.next) (o := 0) (v := .slice (some ⟨xb, 0, none⟩) g.bn g.bcap) rfl c1.rd (show _ = some (Value.slice (some ⟨xb, 0, none⟩) g.bn g.bcap) from by rw [← eb]; rfl) ?_
 refine wD_mov (v := iv (i : Int)) rfl ?_
 refine wD_idx (b := xb) (o := 0) (k := i) (j := (i : Int)) rfl rfl rfl hi ?_
 refine wD_lda (b := xb) (o := 0 + i * 4) rfl rb (bgc_row hbi) ?_
 refine wD_addo (b := H.next) (o := 0) rfl ?_
 refine wD_ld (b := H.next) (o := 5) (v := .slice (some ⟨xk, 0, none⟩) g.bn kc) rfl c1.rd (show _ = some (Value.slice (some ⟨xk, 0, none⟩) g.bn kc) from by rw [← ek]; rfl) ?_
 refine wD_mov (v := iv (i : Int)) rfl ?_
 refine wD_idx (b := xk) (o := 0) (k := i) (j := (i : Int)) rfl rfl rfl hi ?_
 refine wD_lda (b := xk) (o := 0 + i * 2) rfl rk (spc_row (Fh.ws_at hi)) ?_
 refine wD_alc ?_
 intro H3 kH3 nH3 c3
 have c3 : Cl H3 H2.next [iv 0, iv 0, iv 0, .slice none 0 0] := c3
 have mH3 := kH3.1
 have hk := hk.trans (kH3.mono (by simp))
 have hat := hat.keep kH3 (by simp)
 have cb := kH3.cl cb (by simp)
 have hsc := kH3.sc hsc (by simp)
 have rb := kH3.rd rb (by simp)
 have rk := kH3.rd rk (by simp)
 have c1 := kH3.cl c1 (by simp)
 have c2 := kH3.cl c2 (by simp)
 refine wD_alc ?_
 intro H4 kH4 nH4 c4
 have c4 : Cl H4 H3.next [iv 0, iv 0] := c4
 have mH4 := kH4.1
 have hk := hk.trans (kH4.mono (by simp))
 have hat := hat.keep kH4 (by simp)
 have cb := kH4.cl cb (by simp)
 have hsc := kH4.sc hsc (by simp)
 have rb := kH4.rd rb (by simp)
 have rk := kH4.rd rk (by simp)
 have c1 := kH4.cl c1 (by simp)
 have c2 := kH4.cl c2 (by simp)
 have c3 := kH4.cl c3 (by simp)
 refine wD_sta (b := H2.next) (o := 0) rfl rfl c3 (by omega) rfl rfl (by simp) ?_
 intro H5 kH5 nH5 sH5
 have mH5 := kH5.1
 have hk := hk.new kH5 (fun b hb => by simp at hb ⊢; omega)
 have hat := hat.keep kH5 (fun x hx => by first | (simp at hx; done) | (simp at hx; omega))
 have cb := kH5.cl cb (by simp <;> omega)
 have hsc := kH5.sc hsc (by simp <;> omega)
 have rb := kH5.rd rb (by simp <;> omega)
 have rk := kH5.rd rk (by simp <;> omega)
 have c1 := kH5.cl c1 (by simp <;> omega)
 have c2 := kH5.cl c2 (by simp <;> omega)
 have c4 := kH5.cl c4 (by simp <;> omega)
 have c3 : Cl H5 H2.next [iv ((g.B i).need), iv ((g.B i).l1), iv ((g.B i).l2), .slice ((g.B i).wa) ((g.B i).wn) ((g.B i).wcap)] := sH5
 refine wD_sta (b := H3.next) (o := 0) rfl rfl c4 (by omega) rfl rfl (by simp) ?_
 intro H6 kH6 nH6 sH6
 have mH6 := kH6.1
 have hk := hk.new kH6 (fun b hb => by simp at hb ⊢; omega)
 have hat := hat.keep kH6 (fun x hx => by first | (simp at hx; done) | (simp at hx; omega))
 have cb := kH6.cl cb (by simp <;> omega)
 have hsc := kH6.sc hsc (by simp <;> omega)
 have rb := kH6.rd rb (by simp <;> omega)
 have rk := kH6.rd rk (by simp <;> omega)
 have c1 := kH6.cl c1 (by simp <;> omega)
 have c2 := kH6.cl c2 (by simp <;> omega)
 have c3 := kH6.cl c3 (by simp <;> omega)
 have c4 : Cl H6 H3.next [iv ((g.W i).1), iv ((g.W i).2)] := sH6
 refine wD_end (by repeat' first | exact True.intro | exact (fun h => h) | refine And.intro ?_ ?_ | (intro h; have h : (_ : Nat) = _ := h; omega)) ?_
 refine wD_seq ?_
 refine wD_lda (b := H1.next) (o := 0) rfl c2.rd (show row 2 _ _ = some [iv n1, iv n2] from rfl) ?_
 refine wD_mov (v := iv mm) rfl ?_
 refine wD_mov (v := iv mm) rfl ?_
 obtain ⟨H7, fH7, kH7⟩ := span82_ok (kn := kn) (lo := H6.next) (H := H6) (a := mm) (b := mm) (by omega)
 refine wD_callh (vs := [iv mm, iv mm]) rfl (by kernel_rfl) (callX_args fH7) ?_
 have mH7 := kH7.1
 have hk := hk.trans (kH7.mono (by simp))
 have hat := hat.keep kH7 (by simp)
 have cb := kH7.cl cb (by simp)
 have hsc := kH7.sc hsc (by simp)
 have rb := kH7.rd rb (by simp)
 have rk := kH7.rd rk (by simp)
 have c1 := kH7.cl c1 (by simp)
 have c2 := kH7.cl c2 (by simp)
 have c3 := kH7.cl c3 (by simp)
 have c4 := kH7.cl c4 (by simp)
 obtain ⟨H8, fH8, kH8⟩ := plus85_ok (kn := kn) (lo := H7.next) (H := H7) (a := n1) (b := n2) (c := mm) (d := mm) ⟨by omega, by omega, by omega, by omega⟩ (by omega)
 refine wD_callh (vs := [.agg #[iv n1, iv n2], .agg #[iv mm, iv mm]]) rfl (by kernel_rfl) (callX_args fH8) ?_
 have mH8 := kH8.1
 have hk := hk.trans (kH8.mono (by simp))
 have hat := hat.keep kH8 (by simp)
 have cb := kH8.cl cb (by simp)
 have hsc := kH8.sc hsc (by simp)
 have rb := kH8.rd rb (by simp)
 have rk := kH8.rd rk (by simp)
 have c1 := kH8.cl c1 (by simp)
 have c2 := kH8.cl c2 (by simp)
 have c3 := kH8.cl c3 (by simp)
 have c4 := kH8.cl c4 (by simp)
 refine wD_alc ?_
 intro H9 kH9 nH9 c9
 have c9 : Cl H9 H8.next [iv 0, iv 0] := c9
 have mH9 := kH9.1
 have hk := hk.trans (kH9.mono (by simp))
 have hat := hat.keep kH9 (by simp)
 have cb := kH9.cl cb (by simp)
 have hsc := kH9.sc hsc (by simp)
 have rb := kH9.rd rb (by simp)
 have rk := kH9.rd rk (by simp)
 have c1 := kH9.cl c1 (by simp)
 have c2 := kH9.cl c2 (by simp)
 have c3 := kH9.cl c3 (by simp)
 have c4 := kH9.cl c4 (by simp)
 refine wD_sta (b := H8.next) (o := 0) rfl rfl c9 (by omega) rfl rfl (by simp) ?_
 intro H10 kH10 nH10 sH10
 have mH10 := kH10.1
 have hk := hk.new kH10 (fun b hb => by simp at hb ⊢; omega)
 have hat := hat.keep kH10 (fun x hx => by first | (simp at hx; done) | (simp at hx; omega))
 have cb := kH10.cl cb (by simp <;> omega)
 have hsc := kH10.sc hsc (by simp <;> omega)
 have rb := kH10.rd rb (by simp <;> omega)
 have rk := kH10.rd rk (by simp <;> omega)
 have c1 := kH10.cl c1 (by simp <;> omega)
 have c2 := kH10.cl c2 (by simp <;> omega)
 have c3 := kH10.cl c3 (by simp <;> omega)
 have c4 := kH10.cl c4 (by simp <;> omega)
 have c9 : Cl H10 H8.next [iv (n1 + mm), iv (n2 + mm)] := sH10
 refine wD_end (by repeat' first | exact True.intro | exact (fun h => h) | refine And.intro ?_ ?_ | (intro h; have h : (_ : Nat) = _ := h; omega)) ?_
 refine wD_seq ?_
 refine wD_mov (v := pt b) rfl ?_
 refine wD_mov (v := pt b) rfl ?_
 refine wD_nilc (a := ⟨b, 0, none⟩) rfl ?_
 refine wD_addo (b := b) (o := 0) rfl ?_
 refine wD_ld (b := b) (o := 1) (v := .slice (some ⟨bb, 0, none⟩) k cap) rfl cb.rd rfl ?_
 refine wD_mov (v := iv (i : Int)) rfl ?_
 refine wD_lda (b := H8.next) (o := 0) rfl c9.rd (show row 2 _ _ = some [iv (n1 + mm), iv (n2 + mm)] from rfl) ?_
 refine wD_lda (b := H8.next) (o := 0) rfl c9.rd (show row 2 _ _ = some [iv (n1 + mm), iv (n2 + mm)] from rfl) ?_
 refine wD_lda (b := H3.next) (o := 0) rfl c4.rd (show row 2 _ _ = some [iv ((g.W i).1), iv ((g.W i).2)] from rfl) ?_
 obtain ⟨H11, fH11, kH11⟩ := plus85_ok (kn := kn) (lo := H10.next) (H := H10) (a := n1 + mm) (b := n2 + mm) (c := (g.W i).1) (d := (g.W i).2) ⟨by omega, by omega, by omega, by omega⟩ (by omega)
 refine wD_callh (vs := [.agg #[iv (n1 + mm), iv (n2 + mm)], .agg #[iv ((g.W i).1), iv ((g.W i).2)]]) rfl (by kernel_rfl) (callX_args fH11) ?_
 have mH11 := kH11.1
 have hk := hk.trans (kH11.mono (by simp))
 have hat := hat.keep kH11 (by simp)
 have cb := kH11.cl cb (by simp)
 have hsc := kH11.sc hsc (by simp)
 have rb := kH11.rd rb (by simp)
 have rk := kH11.rd rk (by simp)
 have c1 := kH11.cl c1 (by simp)
 have c2 := kH11.cl c2 (by simp)
 have c3 := kH11.cl c3 (by simp)
 have c4 := kH11.cl c4 (by simp)
 have c9 := kH11.cl c9 (by simp)
 refine wD_pur (v := .agg #[iv (i : Int), iv (n1 + mm), iv (n2 + mm), iv ((n1 + mm) + ((g.W i).1)), iv ((n2 + mm) + ((g.W i).2))]) rfl (by kernel_rfl) ?_
 obtain ⟨H12, hH12⟩ : ∃ H12, H11.new (.cells [iv (i : Int), iv (n1 + mm), iv (n2 + mm), iv ((n1 + mm) + ((g.W i).1)), iv ((n2 + mm) + ((g.W i).2))] 52 false) = H12 := ⟨_, rfl⟩
 refine wD_memh (H' := H12) (k := .heavy) rfl (by kernel_rfl) ((heap_build1 (v := .agg #[iv (i : Int), iv (n1 + mm), iv (n2 + mm), iv ((n1 + mm) + ((g.W i).1)), iv ((n2 + mm) + ((g.W i).2))]) se34 z52 rfl rfl rfl (by decide)).trans (by rw [← hH12]; rfl)) (fun b e => by cases e) ?_
 obtain ⟨kH12, nH12, c12⟩ := new_facts hH12; clear hH12
 have c12 : Cl H12 H11.next [iv (i : Int), iv (n1 + mm), iv (n2 + mm), iv ((n1 + mm) + ((g.W i).1)), iv ((n2 + mm) + ((g.W i).2))] := c12
 have mH12 := kH12.1
 have hk := hk.trans (kH12.mono (by simp))
 have hat := hat.keep kH12 (by simp)
 have cb := kH12.cl cb (by simp)
 have hsc := kH12.sc hsc (by simp)
 have rb := kH12.rd rb (by simp)
 have rk := kH12.rd rk (by simp)
 have c1 := kH12.cl c1 (by simp)
 have c2 := kH12.cl c2 (by simp)
 have c3 := kH12.cl c3 (by simp)
 have c4 := kH12.cl c4 (by simp)
 have c9 := kH12.cl c9 (by simp)
 obtain ⟨H13, eH13, kH13, nH13, dH13⟩ := heap_append_room (P := Try.prog) (lo := lo) (t0 := 34) (t1 := 34) (k := k) (cap := cap) se34 u34 (c12.sl (Nat.le_refl 1)) rfl rfl hsc hkc (by omega) (by rw [flc_len, hL]; omega) hbb
 refine wD_memh (k := .store bb) rfl (by kernel_rfl) (eH13 _ _ _ _ _ _ _ rfl rfl) (fun b e => by cases e) ?_
 have mH13 := kH13.1
 have hk := hk.new kH13 (fun b hb => by simp at hb ⊢; omega)
 have hat := hat.keep kH13 (fun x hx => by first | (simp at hx; done) | (simp at hx; omega))
 have cb := kH13.cl cb (by simp <;> omega)
 have rb := kH13.rd rb (by simp <;> omega)
 have rk := kH13.rd rk (by simp <;> omega)
 have c1 := kH13.cl c1 (by simp <;> omega)
 have c2 := kH13.cl c2 (by simp <;> omega)
 have c3 := kH13.cl c3 (by simp <;> omega)
 have c4 := kH13.cl c4 (by simp <;> omega)
 have c9 := kH13.cl c9 (by simp <;> omega)
 have c12 := kH13.cl c12 (by simp <;> omega)
 have hsc := dH13
 refine wD_nilc (a := ⟨b, 0, none⟩) rfl ?_
 refine wD_addo (b := b) (o := 0) rfl ?_
 refine wD_st (b := b) (o := 1) rfl rfl cb (by omega) rfl rfl (by simp) ?_
 intro H14 kH14 nH14 sH14
 have mH14 := kH14.1
 have hk := hk.new kH14 (fun b hb => by simp at hb ⊢; omega)
 have hat := hat.keep kH14 (fun x hx => by first | (simp at hx; done) | (simp at hx; omega))
 have rb := kH14.rd rb (by simp <;> omega)
 have rk := kH14.rd rk (by simp <;> omega)
 have c1 := kH14.cl c1 (by simp <;> omega)
 have c2 := kH14.cl c2 (by simp <;> omega)
 have c3 := kH14.cl c3 (by simp <;> omega)
 have c4 := kH14.cl c4 (by simp <;> omega)
 have c9 := kH14.cl c9 (by simp <;> omega)
 have c12 := kH14.cl c12 (by simp <;> omega)
 have hsc := kH14.sc hsc (by simp <;> omega)
 have cb : Cl H14 b [ov, .slice (some ⟨bb, 0, none⟩) (k + 1) cap, iv t1, iv t2, iv l1, iv l2, iv s1, iv s2, iv r1, iv r2] := sH14
 refine wD_end (by repeat' first | exact True.intro | exact (fun h => h) | refine And.intro ?_ ?_ | (intro h; have h : (_ : Nat) = _ := h; omega)) ?_
 refine Exists.intro _ (Exists.intro _ (And.intro c3.of (And.intro (show _ = some (iv ((g.B i).need)) from rfl) ?_)))
 refine Exists.intro _ (Exists.intro _ (And.intro c4.of (And.intro (show _ = some (iv ((g.W i).1)) from rfl) ?_)))
 refine Exists.intro _ (Exists.intro _ (And.intro c3.of (And.intro (show _ = some (iv ((g.B i).l1)) from rfl) ?_)))
 refine And.intro (show InR (((g.W i).1) * ((g.B i).l1)) from ⟨by omega, by omega⟩) ?_
 refine Exists.intro _ (Exists.intro _ (And.intro c3.of (And.intro (show _ = some (iv ((g.B i).need)) from rfl) ?_)))
 refine Exists.intro _ (Exists.intro _ (And.intro c4.of (And.intro (show _ = some (iv ((g.W i).2)) from rfl) ?_)))
 refine Exists.intro _ (Exists.intro _ (And.intro c3.of (And.intro (show _ = some (iv ((g.B i).l2)) from rfl) ?_)))
 refine And.intro (show InR (((g.W i).2) * ((g.B i).l2)) from ⟨by omega, by omega⟩) ?_
 obtain ⟨H15, fH15, kH15⟩ := span82_ok (kn := kn) (lo := lo) (H := H14) (a := min ((g.B i).need) (((g.W i).1) * ((g.B i).l1))) (b := min ((g.B i).need) (((g.W i).2) * ((g.B i).l2))) (by omega)
 refine Exists.intro _ (Exists.intro _ (And.intro (callX_args fH15) ?_))
 have mH15 := kH15.1
 have hk := hk.trans (kH15.mono (by simp))
 have hat := hat.keep kH15 (by simp)
 have rb := kH15.rd rb (by simp)
 have rk := kH15.rd rk (by simp)
 have c1 := kH15.cl c1 (by simp)
 have c2 := kH15.cl c2 (by simp)
 have c3 := kH15.cl c3 (by simp)
 have c4 := kH15.cl c4 (by simp)
 have c9 := kH15.cl c9 (by simp)
 have c12 := kH15.cl c12 (by simp)
 have hsc := kH15.sc hsc (by simp)
 have cb := kH15.cl cb (by simp)
 intro H16 hH16; obtain ⟨kH16, nH16, c16⟩ := new_facts hH16; clear hH16
 have c16 : Cl H16 H15.next [iv 0, iv 0] := c16
 have mH16 := kH16.1
 have hk := hk.trans (kH16.mono (by simp))
 have hat := hat.keep kH16 (by simp)
 have rb := kH16.rd rb (by simp)
 have rk := kH16.rd rk (by simp)
 have c1 := kH16.cl c1 (by simp)
 have c2 := kH16.cl c2 (by simp)
 have c3 := kH16.cl c3 (by simp)
 have c4 := kH16.cl c4 (by simp)
 have c9 := kH16.cl c9 (by simp)
 have c12 := kH16.cl c12 (by simp)
 have hsc := kH16.sc hsc (by simp)
 have cb := kH16.cl cb (by simp)
 obtain ⟨_, eH17, lH17, gH17⟩ := id c16
 refine Exists.intro _ (Exists.intro _ (Exists.intro _ (And.intro gH17 (And.intro (by omega) (And.intro rfl (And.intro rfl (And.intro (by simp) ?_)))))))
 intro H17 hH17; obtain ⟨kH17, nH17, sH17⟩ := up_facts c16 hH17; clear hH17
 have mH17 := kH17.1
 have hk := hk.new kH17 (fun b hb => by simp at hb ⊢; omega)
 have hat := hat.keep kH17 (fun x hx => by first | (simp at hx; done) | (simp at hx; omega))
 have rb := kH17.rd rb (by simp <;> omega)
 have rk := kH17.rd rk (by simp <;> omega)
 have c1 := kH17.cl c1 (by simp <;> omega)
 have c2 := kH17.cl c2 (by simp <;> omega)
 have c3 := kH17.cl c3 (by simp <;> omega)
 have c4 := kH17.cl c4 (by simp <;> omega)
 have c9 := kH17.cl c9 (by simp <;> omega)
 have c12 := kH17.cl c12 (by simp <;> omega)
 have hsc := kH17.sc hsc (by simp <;> omega)
 have cb := kH17.cl cb (by simp <;> omega)
 have c16 : Cl H17 H15.next [iv (min ((g.B i).need) (((g.W i).1) * ((g.B i).l1))), iv (min ((g.B i).need) (((g.W i).2) * ((g.B i).l2)))] := sH17
 refine wD_seq ?_
 refine wD_mov (v := pt b) rfl ?_
 refine wD_mov (v := pt b) rfl ?_
 refine wD_nilc (a := ⟨b, 0, none⟩) rfl ?_
 refine wD_addo (b := b) (o := 0) rfl ?_
 refine wD_addo (b := b) (o := 2) rfl ?_
 refine wD_lda (b := b) (o := 4) rfl cb.rd (show row 2 _ _ = some [iv l1, iv l2] from rfl) ?_
 refine wD_lda (b := H15.next) (o := 0) rfl c16.rd (show row 2 _ _ = some [iv (min ((g.B i).need) (((g.W i).1) * ((g.B i).l1))), iv (min ((g.B i).need) (((g.W i).2) * ((g.B i).l2)))] from rfl) ?_
 obtain ⟨H18, fH18, kH18⟩ := plus85_ok (kn := kn) (lo := lo) (H := H17) (a := l1) (b := l2) (c := min ((g.B i).need) (((g.W i).1) * ((g.B i).l1))) (d := min ((g.B i).need) (((g.W i).2) * ((g.B i).l2))) ⟨by omega, by omega, by omega, by omega⟩ (by omega)
 refine wD_callf (vs := [.agg #[iv l1, iv l2], .agg #[iv (min ((g.B i).need) (((g.W i).1) * ((g.B i).l1))), iv (min ((g.B i).need) (((g.W i).2) * ((g.B i).l2)))]]) rfl (callX_args fH18) ?_
 have mH18 := kH18.1
 have hk := hk.trans (kH18.mono (by simp))
 have hat := hat.keep kH18 (by simp)
 have rb := kH18.rd rb (by simp)
 have rk := kH18.rd rk (by simp)
 have c1 := kH18.cl c1 (by simp)
 have c2 := kH18.cl c2 (by simp)
 have c3 := kH18.cl c3 (by simp)
 have c4 := kH18.cl c4 (by simp)
 have c9 := kH18.cl c9 (by simp)
 have c12 := kH18.cl c12 (by simp)
 have hsc := kH18.sc hsc (by simp)
 have cb := kH18.cl cb (by simp)
 have c16 := kH18.cl c16 (by simp)
 refine wD_nilc (a := ⟨b, 0, none⟩) rfl ?_
 refine wD_addo (b := b) (o := 0) rfl ?_
 refine wD_addo (b := b) (o := 2) rfl ?_
 refine wD_sta (b := b) (o := 4) rfl rfl cb (by omega) rfl rfl (by simp) ?_
 intro H19 kH19 nH19 sH19
 have mH19 := kH19.1
 have hk := hk.new kH19 (fun b hb => by simp at hb ⊢; omega)
 have hat := hat.keep kH19 (fun x hx => by first | (simp at hx; done) | (simp at hx; omega))
 have rb := kH19.rd rb (by simp <;> omega)
 have rk := kH19.rd rk (by simp <;> omega)
 have c1 := kH19.cl c1 (by simp <;> omega)
 have c2 := kH19.cl c2 (by simp <;> omega)
 have c3 := kH19.cl c3 (by simp <;> omega)
 have c4 := kH19.cl c4 (by simp <;> omega)
 have c9 := kH19.cl c9 (by simp <;> omega)
 have c12 := kH19.cl c12 (by simp <;> omega)
 have hsc := kH19.sc hsc (by simp <;> omega)
 have c16 := kH19.cl c16 (by simp <;> omega)
 have cb : Cl H19 b [ov, .slice (some ⟨bb, 0, none⟩) (k + 1) cap, iv t1, iv t2, iv (l1 + (min ((g.B i).need) (((g.W i).1) * ((g.B i).l1)))), iv (l2 + (min ((g.B i).need) (((g.W i).2) * ((g.B i).l2)))), iv s1, iv s2, iv r1, iv r2] := sH19
 refine wD_end (by repeat' first | exact True.intro | exact (fun h => h) | refine And.intro ?_ ?_ | (intro h; have h : (_ : Nat) = _ := h; omega)) ?_
 refine Exists.intro _ (Exists.intro _ (And.intro c3.of (And.intro (show _ = some (iv ((g.B i).need)) from rfl) ?_)))
 refine Exists.intro _ (Exists.intro _ (And.intro c16.of (And.intro (show _ = some (iv (min ((g.B i).need) (((g.W i).2) * ((g.B i).l2)))) from rfl) ?_)))
 refine And.intro (show InR (((g.B i).need) - (min ((g.B i).need) (((g.W i).2) * ((g.B i).l2)))) from ⟨by omega, by omega⟩) ?_
 refine Exists.intro _ (Exists.intro _ (And.intro c3.of (And.intro (show _ = some (iv ((g.B i).need)) from rfl) ?_)))
 refine Exists.intro _ (Exists.intro _ (And.intro c16.of (And.intro (show _ = some (iv (min ((g.B i).need) (((g.W i).1) * ((g.B i).l1)))) from rfl) ?_)))
 refine And.intro (show InR (((g.B i).need) - (min ((g.B i).need) (((g.W i).1) * ((g.B i).l1)))) from ⟨by omega, by omega⟩) ?_
 obtain ⟨H20, fH20, kH20⟩ := span82_ok (kn := kn) (lo := lo) (H := H19) (a := ((g.B i).need) - (min ((g.B i).need) (((g.W i).2) * ((g.B i).l2)))) (b := ((g.B i).need) - (min ((g.B i).need) (((g.W i).1) * ((g.B i).l1)))) (by omega)
 refine Exists.intro _ (Exists.intro _ (And.intro (callX_args fH20) ?_))
 have mH20 := kH20.1
 have hk := hk.trans (kH20.mono (by simp))
 have hat := hat.keep kH20 (by simp)
 have rb := kH20.rd rb (by simp)
 have rk := kH20.rd rk (by simp)
 have c1 := kH20.cl c1 (by simp)
 have c2 := kH20.cl c2 (by simp)
 have c3 := kH20.cl c3 (by simp)
 have c4 := kH20.cl c4 (by simp)
 have c9 := kH20.cl c9 (by simp)
 have c12 := kH20.cl c12 (by simp)
 have hsc := kH20.sc hsc (by simp)
 have c16 := kH20.cl c16 (by simp)
 have cb := kH20.cl cb (by simp)
 obtain ⟨_, eH21, lH21, gH21⟩ := id cb
 refine Exists.intro _ (Exists.intro _ (Exists.intro _ (And.intro gH21 (And.intro (by omega) (And.intro rfl (And.intro rfl (And.intro (by simp) ?_)))))))
 intro H21 hH21; obtain ⟨kH21, nH21, sH21⟩ := up_facts cb hH21; clear hH21
 have mH21 := kH21.1
 have hk := hk.new kH21 (fun b hb => by simp at hb ⊢; omega)
 have hat := hat.keep kH21 (fun x hx => by first | (simp at hx; done) | (simp at hx; omega))
 have rb := kH21.rd rb (by simp <;> omega)
 have rk := kH21.rd rk (by simp <;> omega)
 have c1 := kH21.cl c1 (by simp <;> omega)
 have c2 := kH21.cl c2 (by simp <;> omega)
 have c3 := kH21.cl c3 (by simp <;> omega)
 have c4 := kH21.cl c4 (by simp <;> omega)
 have c9 := kH21.cl c9 (by simp <;> omega)
 have c12 := kH21.cl c12 (by simp <;> omega)
 have hsc := kH21.sc hsc (by simp <;> omega)
 have c16 := kH21.cl c16 (by simp <;> omega)
 have cb : Cl H21 b [ov, .slice (some ⟨bb, 0, none⟩) (k + 1) cap, iv t1, iv t2, iv (l1 + (min ((g.B i).need) (((g.W i).1) * ((g.B i).l1)))), iv (l2 + (min ((g.B i).need) (((g.W i).2) * ((g.B i).l2)))), iv s1, iv s2, iv (((g.B i).need) - (min ((g.B i).need) (((g.W i).2) * ((g.B i).l2)))), iv (((g.B i).need) - (min ((g.B i).need) (((g.W i).1) * ((g.B i).l1))))] := sH21
 exact And.intro trivial (Exists.intro _ (And.intro rfl ⟨rfl, hk, cb, hsc⟩))
end
end Go.Ax
/-! A bed to which no water goes: the panic of goOn (72), and the parts of follow (53) (written by program). -/
namespace Go.Ax
open Go Go.RowKit Go.Proofs
noncomputable def opsOf : Code → Array Oper
 | .region _ ops _ => ops
 | _ => #[]
noncomputable def R72v : RC := (.seq (.reg [⟨(some 3), none, (.box 71 (.tmp 0))⟩])
 (.seq (.reg [⟨(some 10), none, (.mov (.tmp 1))⟩, ⟨(some 11), none, (.nilc (.tmp 10))⟩, ⟨(some 12), none, (.lda (.tmp 11) 10)⟩, ⟨(some 13), none, (.call ⟨(.value (.func 64)), (List.toArray [(.tmp 12)]), (List.toArray [114])⟩ true)⟩, ⟨(some 6), none, (.alc 52 [(.int .i64 0), (.int .i64 0), (.int .i64 0), (.int .i64 0), (.int .i64 0)])⟩, ⟨none, none, (.sta (.tmp 6) (.tmp 13) 5)⟩])
 (.seq (.reg [⟨(some 14), none, (.addo (.tmp 3) 0)⟩, ⟨(some 15), none, (.addo (.tmp 14) 1)⟩, ⟨(some 16), none, (.ld (.tmp 15) 1)⟩, ⟨(some 17), none, (.addo (.tmp 6) 0)⟩, ⟨(some 18), none, (.ld (.tmp 17) 1)⟩, ⟨(some 19), none, (.idx (.tmp 16) (.tmp 18) 1)⟩, ⟨(some 20), none, (.ld (.tmp 19) 1)⟩, ⟨(some 21), none, (.mov (.tmp 2))⟩, ⟨(some 22), none, (.idx (.tmp 20) (.tmp 21) 1)⟩, ⟨(some 23), none, (.ld (.tmp 22) 1)⟩, ⟨(some 7), none, (.mov (.tmp 23))⟩])
 (.seq (.seq (.reg [⟨(some 24), none, (.mov (.tmp 7))⟩, ⟨(some 25), none, (.cmp .eql (.tmp 24) (.const (.int .i64 0)))⟩])
 (.cond (.tmp 25) (.other (at_ Try.f72 [1, 1, 1, 0, 1, 0]))
 .skip))
 (.seq (.dreg [⟨(some 28), none, (.addo (.tmp 3) 0)⟩, ⟨(some 29), none, (.addo (.tmp 28) 0)⟩, ⟨(some 30), none, (.ld (.tmp 29) 1)⟩, ⟨(some 31), none, (.mov (.tmp 2))⟩, ⟨(some 32), none, (.idx (.tmp 30) (.tmp 31) 4)⟩, ⟨(some 33), none, (.addo (.tmp 32) 0)⟩, ⟨(some 34), none, (.ld (.tmp 33) 1)⟩, ⟨(some 35), none, (.mov (.tmp 1))⟩, ⟨(some 36), none, (.nilc (.tmp 35))⟩, ⟨(some 37), none, (.addo (.tmp 36) 2)⟩, ⟨(some 38), none, (.addo (.tmp 37) 6)⟩, ⟨(some 39), none, (.lda (.tmp 38) 2)⟩, ⟨(some 9), none, (.alc 30 [(.int .i64 0), (.int .i64 0)])⟩, ⟨(some 8), none, (.mov (.tmp 34))⟩, ⟨none, none, (.sta (.tmp 9) (.tmp 39) 2)⟩] [16383, 4223, 0, 1920, 896, 384, 128, 0, 63, 31, 15, 0, 3, 1, 0])
 (.seq (.dreg [⟨(some 40), none, (.mov (.tmp 1))⟩, ⟨(some 41), none, (.mov (.tmp 1))⟩, ⟨(some 42), none, (.nilc (.tmp 41))⟩, ⟨(some 43), none, (.addo (.tmp 42) 2)⟩, ⟨(some 44), none, (.addo (.tmp 43) 0)⟩, ⟨(some 45), none, (.lda (.tmp 44) 2)⟩, ⟨(some 46), none, (.mov (.tmp 8))⟩, ⟨(some 47), none, (.addo (.tmp 9) 1)⟩, ⟨(some 48), none, (.ld (.tmp 47) 1)⟩, ⟨(some 49), none, (.ari .sub (.tmp 46) (.tmp 48))⟩, ⟨(some 50), none, (.mm false (.const (.int .i64 0)) (.tmp 49))⟩, ⟨(some 51), none, (.mov (.tmp 8))⟩, ⟨(some 52), none, (.addo (.tmp 9) 0)⟩, ⟨(some 53), none, (.ld (.tmp 52) 1)⟩, ⟨(some 54), none, (.ari .sub (.tmp 51) (.tmp 53))⟩, ⟨(some 55), none, (.mm false (.const (.int .i64 0)) (.tmp 54))⟩, ⟨(some 56), none, (.call ⟨(.value (.func 82)), (List.toArray [(.tmp 50), (.tmp 55)]), (List.toArray [3, 3])⟩ false)⟩, ⟨(some 57), none, (.call ⟨(.value (.func 85)), (List.toArray [(.tmp 45), (.tmp 56)]), (List.toArray [30, 30])⟩ true)⟩, ⟨(some 58), none, (.nilc (.tmp 40))⟩, ⟨(some 59), none, (.addo (.tmp 58) 2)⟩, ⟨(some 60), none, (.addo (.tmp 59) 0)⟩, ⟨none, none, (.sta (.tmp 60) (.tmp 57) 2)⟩] [2097151, 1048575, 524287, 262143, 131070, 65472, 30720, 14336, 4096, 0, 0, 960, 448, 128, 0, 0, 30, 14, 6, 2, 0, 0])
 (.seq (.dreg [⟨(some 61), none, (.mov (.tmp 1))⟩, ⟨(some 62), none, (.mov (.tmp 1))⟩, ⟨(some 63), none, (.nilc (.tmp 62))⟩, ⟨(some 64), none, (.addo (.tmp 63) 2)⟩, ⟨(some 65), none, (.addo (.tmp 64) 4)⟩, ⟨(some 66), none, (.lda (.tmp 65) 2)⟩, ⟨(some 67), none, (.addo (.tmp 9) 0)⟩, ⟨(some 68), none, (.ld (.tmp 67) 1)⟩, ⟨(some 69), none, (.mov (.tmp 8))⟩, ⟨(some 70), none, (.ari .sub (.tmp 68) (.tmp 69))⟩, ⟨(some 71), none, (.mm false (.const (.int .i64 0)) (.tmp 70))⟩, ⟨(some 72), none, (.addo (.tmp 9) 1)⟩, ⟨(some 73), none, (.ld (.tmp 72) 1)⟩, ⟨(some 74), none, (.mov (.tmp 8))⟩, ⟨(some 75), none, (.ari .sub (.tmp 73) (.tmp 74))⟩, ⟨(some 76), none, (.mm false (.const (.int .i64 0)) (.tmp 75))⟩, ⟨(some 77), none, (.call ⟨(.value (.func 82)), (List.toArray [(.tmp 71), (.tmp 76)]), (List.toArray [3, 3])⟩ false)⟩, ⟨(some 78), none, (.call ⟨(.value (.func 85)), (List.toArray [(.tmp 66), (.tmp 77)]), (List.toArray [30, 30])⟩ true)⟩, ⟨(some 79), none, (.nilc (.tmp 61))⟩, ⟨(some 80), none, (.addo (.tmp 79) 2)⟩, ⟨(some 81), none, (.addo (.tmp 80) 4)⟩, ⟨none, none, (.sta (.tmp 81) (.tmp 78) 2)⟩] [2097151, 1048575, 524287, 262143, 131070, 65472, 30720, 14336, 0, 2048, 0, 960, 448, 0, 64, 0, 30, 14, 6, 2, 0, 0])
 (.dreg [⟨(some 82), none, (.lda (.tmp 3) 6)⟩, ⟨(some 83), none, (.mov (.tmp 1))⟩, ⟨(some 84), none, (.mov (.tmp 2))⟩, ⟨(some 85), none, (.addo (.tmp 6) 3)⟩, ⟨(some 86), none, (.lda (.tmp 85) 2)⟩, ⟨(some 87), none, (.mov (.tmp 8))⟩, ⟨(some 88), none, (.mov (.tmp 7))⟩, ⟨(some 89), none, (.call ⟨(.value (.func 84)), (List.toArray [(.tmp 87), (.tmp 88)]), (List.toArray [3, 3])⟩ false)⟩, ⟨(some 90), none, (.call ⟨(.value (.func 83)), (List.toArray [(.tmp 82), (.tmp 83), (.tmp 84), (.tmp 86), (.tmp 89)]), (List.toArray [71, 114, 3, 30, 3])⟩ true)⟩] [255, 96, 0, 0, 8, 0, 0, 0, 0]))))))))
theorem V72 : LV Try.prog 91 (at_ Try.f72 []) R72v := by
 have e : at_ Try.f72 [] = .seq (at_ Try.f72 [0]) (.seq (at_ Try.f72 [1, 0]) (.seq (at_ Try.f72 [1, 1, 0]) (.seq (.seq (at_ Try.f72 [1, 1, 1, 0, 0]) (.cond (.tmp 25) (at_ Try.f72 [1, 1, 1, 0, 1, 0]) (at_ Try.f72 [1, 1, 1, 0, 1, 1]))) (at_ Try.f72 [1, 1, 1, 1])))) := by kernel_rfl
 rw [e]
 exact .seq (.low (by kernel_rfl)) (.seq (.low (by kernel_rfl)) (.seq (.low (by kernel_rfl)) (.seq (.seq (.low (by kernel_rfl)) (.cond _ (.other _) (.low (by kernel_rfl)))) (.low (by kernel_rfl)))))
theorem D72 : at_ Try.f72 [1, 1, 1, 0, 1, 0] = .region 4 (opsOf (at_ Try.f72 [1, 1, 1, 0, 1, 0])) false := by kernel_rfl
theorem P72 : lowRPs Try.prog 91 (opsOf (at_ Try.f72 [1, 1, 1, 0, 1, 0])).toList (opsOf (at_ Try.f72 [1, 1, 1, 0, 1, 0])).toList = some [(.ro ⟨(some 26), none, (.pur ⟨(some 26), (.build 125 (List.toArray [])), 125, "", (List.toArray []), none⟩)⟩), (.ro ⟨(some 27), none, (.pur ⟨(some 27), (.makeInterface 125 (.tmp 26)), 20, "", (List.toArray []), none⟩)⟩), (.pan (.tmp 27))] := by kernel_rfl
noncomputable def R53v : RC := (.seq (.reg [⟨(some 9), none, (.mov (.tmp 1))⟩, ⟨(some 10), none, (.mov (.tmp 1))⟩, ⟨(some 11), none, (.len (.tmp 10))⟩, ⟨(some 12), none, (.mem ⟨(some 12), (.makeSlice 34 (.const (.int .i64 0)) (.tmp 11)), 34, "", (List.toArray []), none⟩)⟩, ⟨(some 13), none, (.pur ⟨(some 13), (.build 78 (List.toArray [(0, (.tmp 9)), (1, (.tmp 12))])), 78, "", (List.toArray []), none⟩)⟩, ⟨none, none, (.sta (.tmp 4) (.tmp 13) 10)⟩]) (.seq (.dreg [⟨(some 14), none, (.lda (.tmp 2) 6)⟩, ⟨(some 15), none, (.mov (.tmp 1))⟩, ⟨(some 16), none, (.idx (.tmp 15) (.const (.int .i64 0)) 1)⟩, ⟨(some 17), none, (.ld (.tmp 16) 1)⟩, ⟨(some 18), none, (.call ⟨(.value (.func 71)), (List.toArray [(.tmp 14), (.tmp 4), (.tmp 17)]), (List.toArray [71, 114, 3])⟩ true)⟩] [15, 6, 2, 0, 0]) (.seq (.seq (.reg [⟨(some 19), none, (.mov (.tmp 1))⟩, ⟨(some 20), none, (.mem ⟨(some 20), (.slice 26 (.tmp 19) (some (.const (.int .i64 1))) none none), 26, "", (List.toArray []), none⟩)⟩, ⟨(some 21), none, (.len (.tmp 20))⟩, ⟨(some 22), none, (.mov (.const (.int .i64 0)))⟩]) (.block 0 (.other (at_ Try.f53 [1, 1, 1, 1, 0, 1, 0])))) (.seq (.reg [⟨(some 30), none, (.lda (.tmp 4) 10)⟩, ⟨none, none, (.sta (.tmp 4) (.tmp 30) 10)⟩, ⟨none, none, (.st (.tmp 5) (.const (.int .i64 0)))⟩]) .ret))))
noncomputable def R53l : RC := (.seq (.reg [⟨(some 23), none, (.cmp .lss (.tmp 22) (.tmp 21))⟩])
 (.seq (.cond (.tmp 23) .skip
 (.exit 0))
 (.seq (.block 1 (.seq (.reg [⟨(some 24), none, (.idx (.tmp 20) (.tmp 22) 1)⟩, ⟨(some 25), none, (.ld (.tmp 24) 1)⟩, ⟨(some 7), none, (.mov (.tmp 25))⟩])
 (.other (at_ Try.f53 [1, 1, 1, 1, 0, 1, 0, 0, 1, 1, 0, 0, 1]))))
 (.reg [⟨(some 29), none, (.ari .add (.tmp 22) (.const (.int .i64 1)))⟩, ⟨(some 22), none, (.mov (.tmp 29))⟩]))))
theorem E53_1 : at_ Try.f53 [1, 1, 1, 1, 0, 1, 0] = .loop (at_ Try.f53 [1, 1, 1, 1, 0, 1, 0, 0]) := by kernel_rfl
theorem S53a : at_ Try.f53 [] = .seq (at_ Try.f53 [0]) (at_ Try.f53 [1]) := by kernel_rfl
theorem S53b : at_ Try.f53 [1] = .seq (at_ Try.f53 [1, 0]) (at_ Try.f53 [1, 1]) := by kernel_rfl
theorem D53a : at_ Try.f53 [0] = .region 0 (opsOf (at_ Try.f53 [0])) false := by kernel_rfl
theorem P53a : lowRPs Try.prog 31 (opsOf (at_ Try.f53 [0])).toList (opsOf (at_ Try.f53 [0])).toList = some [(.ro ⟨(some 2), none, (.box 71 (.tmp 0))⟩), (.ro ⟨(some 4), none, (.alc 78 [(.slice none 0 0), (.slice none 0 0), (.int .i64 0), (.int .i64 0), (.int .i64 0), (.int .i64 0), (.int .i64 0), (.int .i64 0), (.int .i64 0), (.int .i64 0)])⟩), (.ro ⟨(some 5), none, (.alc 31 [(.int .i64 0)])⟩)] := by kernel_rfl
theorem D53b : at_ Try.f53 [1, 0] = .region 1 (opsOf (at_ Try.f53 [1, 0])) false := by kernel_rfl
theorem P53b : lowRPs Try.prog 31 (opsOf (at_ Try.f53 [1, 0])).toList (opsOf (at_ Try.f53 [1, 0])).toList = some [(.ro ⟨(some 8), none, (.pur ⟨(some 8), (.makeFunc (.func 70) (List.toArray []) (List.toArray [(.tmp 4), (.tmp 5)])), 1, "", (List.toArray []), none⟩)⟩), (.dfr none ⟨(.value (.tmp 8)), (List.toArray []), (List.toArray [])⟩)] := by kernel_rfl
theorem D53p : at_ Try.f53 [1, 1, 1, 1, 0, 1, 0, 0, 1, 1, 0, 0, 1] = .region 7 (opsOf (at_ Try.f53 [1, 1, 1, 1, 0, 1, 0, 0, 1, 1, 0, 0, 1])) false := by kernel_rfl
theorem P53p : lowRPs Try.prog 31 (opsOf (at_ Try.f53 [1, 1, 1, 1, 0, 1, 0, 0, 1, 1, 0, 0, 1])).toList (opsOf (at_ Try.f53 [1, 1, 1, 1, 0, 1, 0, 0, 1, 1, 0, 0, 1])).toList = some [(.ro ⟨(some 26), none, (.lda (.tmp 2) 6)⟩), (.ro ⟨(some 27), none, (.mov (.tmp 7))⟩), (.ro ⟨(some 28), none, (.call ⟨(.value (.func 72)), (List.toArray [(.tmp 26), (.tmp 4), (.tmp 27)]), (List.toArray [71, 114, 3])⟩ true)⟩)] := by kernel_rfl
theorem V53l : LV Try.prog 31 (at_ Try.f53 [1, 1, 1, 1, 0, 1, 0, 0]) R53l := by
 have e : at_ Try.f53 [1, 1, 1, 1, 0, 1, 0, 0] = .seq (at_ Try.f53 [1, 1, 1, 1, 0, 1, 0, 0, 0]) (.seq (at_ Try.f53 [1, 1, 1, 1, 0, 1, 0, 0, 1, 0]) (.seq (.block 1 (.seq (at_ Try.f53 [1, 1, 1, 1, 0, 1, 0, 0, 1, 1, 0, 0, 0]) (at_ Try.f53 [1, 1, 1, 1, 0, 1, 0, 0, 1, 1, 0, 0, 1]))) (at_ Try.f53 [1, 1, 1, 1, 0, 1, 0, 0, 1, 1, 1]))) := by kernel_rfl
 rw [e]
 exact .seq (.low (by kernel_rfl)) (.seq (.low (by kernel_rfl)) (.seq (.block 1 (.seq (.low (by kernel_rfl)) (.other _))) (.low (by kernel_rfl))))
theorem V53 : LV Try.prog 31 (at_ Try.f53 [1, 1]) R53v := by
 have e : at_ Try.f53 [1, 1] = .seq (at_ Try.f53 [1, 1, 0]) (.seq (at_ Try.f53 [1, 1, 1, 0]) (.seq (.seq (at_ Try.f53 [1, 1, 1, 1, 0, 0]) (.block 0 (at_ Try.f53 [1, 1, 1, 1, 0, 1, 0]))) (.seq (at_ Try.f53 [1, 1, 1, 1, 1, 0]) (at_ Try.f53 [1, 1, 1, 1, 1, 1])))) := by kernel_rfl
 rw [e]
 exact .seq (.low (by kernel_rfl)) (.seq (.low (by kernel_rfl)) (.seq (.seq (.low (by kernel_rfl)) (.block 0 (.other _))) (.seq (.low (by kernel_rfl)) (.low (by kernel_rfl)))))
theorem N53 : Try.f53.ntmps = 31 := by kernel_rfl
theorem Z53 : Try.f53.results.toList = ((List.toArray [(.cell 4 78), (.cell 5 31)]) : Array ResultVar).toList := by kernel_rfl
theorem B53 : Try.f53.body = some (at_ Try.f53 []) := by kernel_rfl
theorem N70 : Try.f70.ntmps = 5 := by kernel_rfl
theorem Z70 : Try.f70.results.toList = ((List.toArray []) : Array ResultVar).toList := by kernel_rfl
theorem B70 : Try.f70.body = some (at_ Try.f70 []) := by kernel_rfl
end Go.Ax

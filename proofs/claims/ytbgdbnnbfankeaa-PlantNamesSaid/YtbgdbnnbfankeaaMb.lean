import Derived.Test.YtbgdbnnbfankeaaMa
import Derived.Test.YtbgdbnnbfankeaaAxW9
import Derived.Test.YtbgdbnnbfankeaaChecked
set_option linter.all false
/-! What 'low' makes of functions of plant (written by program). -/
namespace Go.Ax
open Go Go.RowKit Go.Proofs
theorem N95 : Try.f95.ntmps = 12 := by kernel_rfl
theorem Z95 : Try.f95.results.toList = ((List.toArray [(.tmp 4)]) : Array ResultVar).toList := by kernel_rfl
theorem B95 : Try.f95.body = some (at_ Try.f95 []) := by kernel_rfl
noncomputable def R95 : RC := (.seq (.reg [⟨(some 4), none, (.mov (.const (.bool false)))⟩])
  (.seq (.reg [⟨(some 5), none, (.mov (.tmp 0))⟩, ⟨(some 6), none, (.cmpb .leq (.const (.int .i64 0)) (.tmp 5))⟩, ⟨(some 7), none, (.mov (.tmp 6))⟩, ⟨(some 8), (some (7, true)), (.mov (.tmp 0))⟩, ⟨(some 9), (some (7, true)), (.mov (.tmp 1))⟩, ⟨(some 10), (some (7, true)), (.cmpb .leq (.tmp 8) (.tmp 9))⟩, ⟨(some 11), none, (.pur ⟨(some 11), (.pick (.tmp 7) (.tmp 10) (.const (.bool false))), 4, "", (List.toArray []), none⟩)⟩, ⟨(some 4), none, (.mov (.tmp 11))⟩])
  .ret))
theorem L95 : low Try.prog Try.f95.ntmps (at_ Try.f95 []) = some R95 := by kernel_rfl
theorem N66 : Try.f66.ntmps = 12 := by kernel_rfl
theorem Z66 : Try.f66.results.toList = ((List.toArray [(.cell 2 104)]) : Array ResultVar).toList := by kernel_rfl
theorem B66 : Try.f66.body = some (at_ Try.f66 []) := by kernel_rfl
noncomputable def R66 : RC := (.seq (.reg [⟨(some 1), none, (.box 24 (.tmp 0))⟩, ⟨(some 2), none, (.alc 104 [(.int .i64 0), (.int .i64 0), (.int .i64 0), (.int .i64 0)])⟩])
  (.seq (.reg [⟨(some 3), none, (.addo (.tmp 1) 0)⟩, ⟨(some 4), none, (.ld (.tmp 3) 1)⟩, ⟨(some 5), none, (.addo (.tmp 1) 1)⟩, ⟨(some 6), none, (.ld (.tmp 5) 1)⟩, ⟨(some 7), none, (.addo (.tmp 1) 2)⟩, ⟨(some 8), none, (.ld (.tmp 7) 1)⟩, ⟨(some 9), none, (.addo (.tmp 1) 3)⟩, ⟨(some 10), none, (.ld (.tmp 9) 1)⟩, ⟨(some 11), none, (.pur ⟨(some 11), (.build 104 (List.toArray [(0, (.tmp 4)), (1, (.tmp 6)), (2, (.tmp 8)), (3, (.tmp 10))])), 104, "", (List.toArray []), none⟩)⟩, ⟨none, none, (.sta (.tmp 2) (.tmp 11) 4)⟩])
  .ret))
theorem L66 : low Try.prog Try.f66.ntmps (at_ Try.f66 []) = some R66 := by kernel_rfl
theorem N67 : Try.f67.ntmps = 16 := by kernel_rfl
theorem Z67 : Try.f67.results.toList = ((List.toArray [(.tmp 4)]) : Array ResultVar).toList := by kernel_rfl
theorem B67 : Try.f67.body = some (at_ Try.f67 []) := by kernel_rfl
noncomputable def R67 : RC := (.seq (.reg [⟨(some 2), none, (.box 104 (.tmp 0))⟩, ⟨(some 4), none, (.mov (.const (.bool false)))⟩])
  (.seq (.seq (.reg [⟨(some 7), none, (.lda (.tmp 2) 4)⟩, ⟨(some 8), none, (.mov (.const (.int .i64 0)))⟩])
  (.block 0 (.other (at_ Try.f67 [1, 0, 1, 0]))))
  (.seq (.reg [⟨(some 4), none, (.mov (.const (.bool true)))⟩])
  .ret)))
theorem L67 : low Try.prog Try.f67.ntmps (at_ Try.f67 []) = some R67 := by kernel_rfl
theorem E67_1 : at_ Try.f67 [1, 0, 1, 0] = .loop (at_ Try.f67 [1, 0, 1, 0, 0]) := by kernel_rfl
noncomputable def R67x1 : RC := (.seq (.reg [⟨(some 9), none, (.cmp .lss (.tmp 8) (.const (.int .i64 4)))⟩])
  (.seq (.cond (.tmp 9) .skip
  (.exit 0))
  (.seq (.block 1 (.seq (.reg [⟨(some 10), none, (.pur ⟨(some 10), (.index 104 (.tmp 7) (.tmp 8)), 3, "", (List.toArray []), none⟩)⟩, ⟨(some 6), none, (.mov (.tmp 10))⟩])
  (.seq (.reg [⟨(some 11), none, (.mov (.tmp 6))⟩, ⟨(some 12), none, (.mov (.tmp 1))⟩, ⟨(some 13), none, (.call ⟨(.value (.func 95)), (List.toArray [(.tmp 11), (.tmp 12)]), (List.toArray [3, 3])⟩ true)⟩, ⟨(some 14), none, (.pur ⟨(some 14), (.unOp .not 4 (.tmp 13)), 4, "", (List.toArray []), none⟩)⟩])
  (.cond (.tmp 14) (.seq (.reg [⟨(some 4), none, (.mov (.const (.bool false)))⟩])
  .ret)
  .skip))))
  (.reg [⟨(some 15), none, (.ari .add (.tmp 8) (.const (.int .i64 1)))⟩, ⟨(some 8), none, (.mov (.tmp 15))⟩]))))
theorem L67x1 : low Try.prog Try.f67.ntmps (at_ Try.f67 [1, 0, 1, 0, 0]) = some R67x1 := by kernel_rfl
theorem N94 : Try.f94.ntmps = 12 := by kernel_rfl
theorem Z94 : Try.f94.results.toList = ((List.toArray [(.cell 2 104)]) : Array ResultVar).toList := by kernel_rfl
theorem B94 : Try.f94.body = some (at_ Try.f94 []) := by kernel_rfl
noncomputable def R94 : RC := (.seq (.reg [⟨(some 1), none, (.box 59 (.tmp 0))⟩, ⟨(some 2), none, (.alc 104 [(.int .i64 0), (.int .i64 0), (.int .i64 0), (.int .i64 0)])⟩])
  (.seq (.reg [⟨(some 3), none, (.addo (.tmp 1) 1)⟩, ⟨(some 4), none, (.ld (.tmp 3) 1)⟩, ⟨(some 5), none, (.addo (.tmp 1) 2)⟩, ⟨(some 6), none, (.ld (.tmp 5) 1)⟩, ⟨(some 7), none, (.addo (.tmp 1) 3)⟩, ⟨(some 8), none, (.ld (.tmp 7) 1)⟩, ⟨(some 9), none, (.addo (.tmp 1) 4)⟩, ⟨(some 10), none, (.ld (.tmp 9) 1)⟩, ⟨(some 11), none, (.pur ⟨(some 11), (.build 104 (List.toArray [(0, (.tmp 4)), (1, (.tmp 6)), (2, (.tmp 8)), (3, (.tmp 10))])), 104, "", (List.toArray []), none⟩)⟩, ⟨none, none, (.sta (.tmp 2) (.tmp 11) 4)⟩])
  .ret))
theorem L94 : low Try.prog Try.f94.ntmps (at_ Try.f94 []) = some R94 := by kernel_rfl
theorem N93 : Try.f93.ntmps = 19 := by kernel_rfl
theorem Z93 : Try.f93.results.toList = ((List.toArray [(.cell 4 104)]) : Array ResultVar).toList := by kernel_rfl
theorem B93 : Try.f93.body = some (at_ Try.f93 []) := by kernel_rfl
noncomputable def R93 : RC := (.seq (.reg [⟨(some 2), none, (.box 104 (.tmp 0))⟩, ⟨(some 3), none, (.box 104 (.tmp 1))⟩, ⟨(some 4), none, (.alc 104 [(.int .i64 0), (.int .i64 0), (.int .i64 0), (.int .i64 0)])⟩])
  (.seq (.seq (.reg [⟨(some 6), none, (.mov (.const (.int .i64 0)))⟩])
  (.block 0 (.other (at_ Try.f93 [1, 0, 1, 0]))))
  (.seq (.reg [⟨(some 18), none, (.lda (.tmp 2) 4)⟩, ⟨none, none, (.sta (.tmp 4) (.tmp 18) 4)⟩])
  .ret)))
theorem L93 : low Try.prog Try.f93.ntmps (at_ Try.f93 []) = some R93 := by kernel_rfl
theorem E93_1 : at_ Try.f93 [1, 0, 1, 0] = .loop (at_ Try.f93 [1, 0, 1, 0, 0]) := by kernel_rfl
noncomputable def R93x1 : RC := (.seq (.reg [⟨(some 7), none, (.cmp .lss (.tmp 6) (.const (.int .i64 4)))⟩])
  (.seq (.cond (.tmp 7) .skip
  (.exit 0))
  (.seq (.block 1 (.seq (.reg [⟨(some 8), none, (.mov (.tmp 6))⟩, ⟨(some 5), none, (.mov (.tmp 8))⟩])
  (.dreg [⟨(some 9), none, (.mov (.tmp 5))⟩, ⟨(some 10), none, (.idxa (.tmp 2) (.tmp 9) 4 1)⟩, ⟨(some 11), none, (.ld (.tmp 10) 1)⟩, ⟨(some 12), none, (.mov (.tmp 5))⟩, ⟨(some 13), none, (.idxa (.tmp 3) (.tmp 12) 4 1)⟩, ⟨(some 14), none, (.ld (.tmp 13) 1)⟩, ⟨(some 15), none, (.ari .add (.tmp 11) (.tmp 14))⟩, ⟨(some 16), none, (.idxa (.tmp 2) (.tmp 9) 4 1)⟩, ⟨none, none, (.st (.tmp 16) (.tmp 15))⟩] [255, 127, 63, 24, 8, 0, 3, 1, 0])))
  (.reg [⟨(some 17), none, (.ari .add (.tmp 6) (.const (.int .i64 1)))⟩, ⟨(some 6), none, (.mov (.tmp 17))⟩]))))
theorem L93x1 : low Try.prog Try.f93.ntmps (at_ Try.f93 [1, 0, 1, 0, 0]) = some R93x1 := by kernel_rfl
theorem N98 : Try.f98.ntmps = 19 := by kernel_rfl
theorem Z98 : Try.f98.results.toList = ((List.toArray [(.cell 4 104)]) : Array ResultVar).toList := by kernel_rfl
theorem B98 : Try.f98.body = some (at_ Try.f98 []) := by kernel_rfl
noncomputable def R98 : RC := (.seq (.reg [⟨(some 2), none, (.box 104 (.tmp 0))⟩, ⟨(some 3), none, (.box 104 (.tmp 1))⟩, ⟨(some 4), none, (.alc 104 [(.int .i64 0), (.int .i64 0), (.int .i64 0), (.int .i64 0)])⟩])
  (.seq (.seq (.reg [⟨(some 6), none, (.mov (.const (.int .i64 0)))⟩])
  (.block 0 (.other (at_ Try.f98 [1, 0, 1, 0]))))
  (.seq (.reg [⟨(some 18), none, (.lda (.tmp 2) 4)⟩, ⟨none, none, (.sta (.tmp 4) (.tmp 18) 4)⟩])
  .ret)))
theorem L98 : low Try.prog Try.f98.ntmps (at_ Try.f98 []) = some R98 := by kernel_rfl
theorem E98_1 : at_ Try.f98 [1, 0, 1, 0] = .loop (at_ Try.f98 [1, 0, 1, 0, 0]) := by kernel_rfl
noncomputable def R98x1 : RC := (.seq (.reg [⟨(some 7), none, (.cmp .lss (.tmp 6) (.const (.int .i64 4)))⟩])
  (.seq (.cond (.tmp 7) .skip
  (.exit 0))
  (.seq (.block 1 (.seq (.reg [⟨(some 8), none, (.mov (.tmp 6))⟩, ⟨(some 5), none, (.mov (.tmp 8))⟩])
  (.dreg [⟨(some 9), none, (.mov (.tmp 5))⟩, ⟨(some 10), none, (.idxa (.tmp 2) (.tmp 9) 4 1)⟩, ⟨(some 11), none, (.ld (.tmp 10) 1)⟩, ⟨(some 12), none, (.mov (.tmp 5))⟩, ⟨(some 13), none, (.idxa (.tmp 3) (.tmp 12) 4 1)⟩, ⟨(some 14), none, (.ld (.tmp 13) 1)⟩, ⟨(some 15), none, (.ari .sub (.tmp 11) (.tmp 14))⟩, ⟨(some 16), none, (.idxa (.tmp 2) (.tmp 9) 4 1)⟩, ⟨none, none, (.st (.tmp 16) (.tmp 15))⟩] [255, 127, 63, 24, 8, 0, 3, 1, 0])))
  (.reg [⟨(some 17), none, (.ari .add (.tmp 6) (.const (.int .i64 1)))⟩, ⟨(some 6), none, (.mov (.tmp 17))⟩]))))
theorem L98x1 : low Try.prog Try.f98.ntmps (at_ Try.f98 [1, 0, 1, 0, 0]) = some R98x1 := by kernel_rfl
theorem N97 : Try.f97.ntmps = 21 := by kernel_rfl
theorem Z97 : Try.f97.results.toList = ((List.toArray [(.cell 4 104)]) : Array ResultVar).toList := by kernel_rfl
theorem B97 : Try.f97.body = some (at_ Try.f97 []) := by kernel_rfl
noncomputable def R97 : RC := (.seq (.reg [⟨(some 2), none, (.box 104 (.tmp 0))⟩, ⟨(some 3), none, (.box 104 (.tmp 1))⟩, ⟨(some 4), none, (.alc 104 [(.int .i64 0), (.int .i64 0), (.int .i64 0), (.int .i64 0)])⟩])
  (.seq (.seq (.reg [⟨(some 6), none, (.mov (.const (.int .i64 0)))⟩])
  (.block 0 (.other (at_ Try.f97 [1, 0, 1, 0]))))
  (.seq (.reg [⟨(some 20), none, (.lda (.tmp 2) 4)⟩, ⟨none, none, (.sta (.tmp 4) (.tmp 20) 4)⟩])
  .ret)))
theorem L97 : low Try.prog Try.f97.ntmps (at_ Try.f97 []) = some R97 := by kernel_rfl
theorem E97_1 : at_ Try.f97 [1, 0, 1, 0] = .loop (at_ Try.f97 [1, 0, 1, 0, 0]) := by kernel_rfl
noncomputable def R97x1 : RC := (.seq (.reg [⟨(some 7), none, (.cmp .lss (.tmp 6) (.const (.int .i64 4)))⟩])
  (.seq (.cond (.tmp 7) .skip
  (.exit 0))
  (.seq (.block 1 (.seq (.reg [⟨(some 8), none, (.mov (.tmp 6))⟩, ⟨(some 5), none, (.mov (.tmp 8))⟩])
  (.dreg [⟨(some 9), none, (.mov (.tmp 5))⟩, ⟨(some 10), none, (.mov (.tmp 5))⟩, ⟨(some 11), none, (.idxa (.tmp 2) (.tmp 10) 4 1)⟩, ⟨(some 12), none, (.ld (.tmp 11) 1)⟩, ⟨(some 13), none, (.mov (.tmp 5))⟩, ⟨(some 14), none, (.idxa (.tmp 3) (.tmp 13) 4 1)⟩, ⟨(some 15), none, (.ld (.tmp 14) 1)⟩, ⟨(some 16), none, (.ari .mul (.tmp 12) (.tmp 15))⟩, ⟨(some 17), none, (.ari .quo (.tmp 16) (.const (.int .i64 1000)))⟩, ⟨(some 18), none, (.idxa (.tmp 2) (.tmp 9) 4 1)⟩, ⟨none, none, (.st (.tmp 18) (.tmp 17))⟩] [1023, 511, 254, 126, 48, 16, 0, 6, 2, 0, 0])))
  (.reg [⟨(some 19), none, (.ari .add (.tmp 6) (.const (.int .i64 1)))⟩, ⟨(some 6), none, (.mov (.tmp 19))⟩]))))
theorem L97x1 : low Try.prog Try.f97.ntmps (at_ Try.f97 [1, 0, 1, 0, 0]) = some R97x1 := by kernel_rfl
theorem N99 : Try.f99.ntmps = 12 := by kernel_rfl
theorem Z99 : Try.f99.results.toList = ((List.toArray [(.cell 2 24)]) : Array ResultVar).toList := by kernel_rfl
theorem B99 : Try.f99.body = some (at_ Try.f99 []) := by kernel_rfl
noncomputable def R99 : RC := (.seq (.reg [⟨(some 1), none, (.box 104 (.tmp 0))⟩, ⟨(some 2), none, (.alc 24 [(.int .i64 0), (.int .i64 0), (.int .i64 0), (.int .i64 0)])⟩])
  (.seq (.reg [⟨(some 3), none, (.idxa (.tmp 1) (.const (.int .i64 0)) 4 1)⟩, ⟨(some 4), none, (.ld (.tmp 3) 1)⟩, ⟨(some 5), none, (.idxa (.tmp 1) (.const (.int .i64 1)) 4 1)⟩, ⟨(some 6), none, (.ld (.tmp 5) 1)⟩, ⟨(some 7), none, (.idxa (.tmp 1) (.const (.int .i64 2)) 4 1)⟩, ⟨(some 8), none, (.ld (.tmp 7) 1)⟩, ⟨(some 9), none, (.idxa (.tmp 1) (.const (.int .i64 3)) 4 1)⟩, ⟨(some 10), none, (.ld (.tmp 9) 1)⟩, ⟨(some 11), none, (.pur ⟨(some 11), (.build 24 (List.toArray [(0, (.tmp 4)), (1, (.tmp 6)), (2, (.tmp 8)), (3, (.tmp 10))])), 24, "", (List.toArray []), none⟩)⟩, ⟨none, none, (.sta (.tmp 2) (.tmp 11) 4)⟩])
  .ret))
theorem L99 : low Try.prog Try.f99.ntmps (at_ Try.f99 []) = some R99 := by kernel_rfl
theorem N43 : Try.f43.ntmps = 6 := by kernel_rfl
theorem Z43 : Try.f43.results.toList = ((List.toArray [(.tmp 2)]) : Array ResultVar).toList := by kernel_rfl
theorem B43 : Try.f43.body = some (at_ Try.f43 []) := by kernel_rfl
noncomputable def R43 : RC := (.seq (.reg [⟨(some 1), none, (.box 24 (.tmp 0))⟩, ⟨(some 2), none, (.mov (.const (.bool false)))⟩])
  (.seq (.reg [⟨(some 3), none, (.lda (.tmp 1) 4)⟩, ⟨(some 4), none, (.call ⟨(.value (.func 66)), (List.toArray [(.tmp 3)]), (List.toArray [24])⟩ true)⟩, ⟨(some 5), none, (.call ⟨(.value (.func 67)), (List.toArray [(.tmp 4), (.const (.int .i64 1099511627776))]), (List.toArray [104, 3])⟩ true)⟩, ⟨(some 2), none, (.mov (.tmp 5))⟩])
  .ret))
theorem L43 : low Try.prog Try.f43.ntmps (at_ Try.f43 []) = some R43 := by kernel_rfl
theorem N49 : Try.f49.ntmps = 9 := by kernel_rfl
theorem Z49 : Try.f49.results.toList = ((List.toArray [(.tmp 4)]) : Array ResultVar).toList := by kernel_rfl
theorem B49 : Try.f49.body = some (at_ Try.f49 []) := by kernel_rfl
noncomputable def R49 : RC := (.seq (.reg [⟨(some 4), none, (.mov (.const (.int .i64 0)))⟩])
  (.seq (.reg [⟨(some 5), none, (.mov (.tmp 0))⟩, ⟨(some 6), none, (.ari .mul (.tmp 5) (.const (.int .i64 10000)))⟩, ⟨(some 7), none, (.mov (.tmp 1))⟩, ⟨(some 8), none, (.ari .quo (.tmp 6) (.tmp 7))⟩, ⟨(some 4), none, (.mov (.tmp 8))⟩])
  .ret))
theorem L49 : low Try.prog Try.f49.ntmps (at_ Try.f49 []) = some R49 := by kernel_rfl
theorem N19 : Try.f19.ntmps = 33 := by kernel_rfl
theorem Z19 : Try.f19.results.toList = ((List.toArray [(.tmp 4), (.tmp 5)]) : Array ResultVar).toList := by kernel_rfl
theorem B19 : Try.f19.body = some (at_ Try.f19 []) := by kernel_rfl
noncomputable def R19 : RC := (.seq (.reg [⟨(some 2), none, (.box 24 (.tmp 0))⟩, ⟨(some 4), none, (.mov (.const (.int .i64 0)))⟩, ⟨(some 5), none, (.mov (.const (.int .i64 0)))⟩])
  (.seq (.seq (.reg [⟨(some 6), none, (.lda (.tmp 2) 4)⟩, ⟨(some 7), none, (.call ⟨(.value (.func 43)), (List.toArray [(.tmp 6)]), (List.toArray [24])⟩ true)⟩, ⟨(some 8), none, (.pur ⟨(some 8), (.unOp .not 4 (.tmp 7)), 4, "", (List.toArray []), none⟩)⟩, ⟨(some 9), none, (.mov (.tmp 8))⟩, ⟨(some 10), (some (9, false)), (.addo (.tmp 2) 1)⟩, ⟨(some 11), (some (9, false)), (.ld (.tmp 10) 1)⟩, ⟨(some 12), (some (9, false)), (.addo (.tmp 2) 0)⟩, ⟨(some 13), (some (9, false)), (.ld (.tmp 12) 1)⟩, ⟨(some 14), (some (9, false)), (.cmpb .gtr (.tmp 11) (.tmp 13))⟩, ⟨(some 15), none, (.pur ⟨(some 15), (.pick (.tmp 9) (.const (.bool true)) (.tmp 14)), 4, "", (List.toArray []), none⟩)⟩])
  (.cond (.tmp 15) (.seq (.reg [⟨(some 4), none, (.mov (.const (.int .i64 0)))⟩, ⟨(some 5), none, (.mov (.const (.int .i64 1)))⟩])
  .ret)
  .skip))
  (.seq (.seq (.reg [⟨(some 16), none, (.mov (.tmp 1))⟩, ⟨(some 17), none, (.cmpb .lss (.tmp 16) (.const (.int .i64 1)))⟩, ⟨(some 18), none, (.mov (.tmp 17))⟩, ⟨(some 19), (some (18, false)), (.mov (.tmp 1))⟩, ⟨(some 20), (some (18, false)), (.cmpb .gtr (.tmp 19) (.const (.int .i64 10000)))⟩, ⟨(some 21), none, (.pur ⟨(some 21), (.pick (.tmp 18) (.const (.bool true)) (.tmp 20)), 4, "", (List.toArray []), none⟩)⟩])
  (.cond (.tmp 21) (.seq (.reg [⟨(some 4), none, (.mov (.const (.int .i64 0)))⟩, ⟨(some 5), none, (.mov (.const (.int .i64 2)))⟩])
  .ret)
  .skip))
  (.seq (.seq (.reg [⟨(some 22), none, (.addo (.tmp 2) 1)⟩, ⟨(some 23), none, (.ld (.tmp 22) 1)⟩, ⟨(some 24), none, (.cmp .eql (.tmp 23) (.const (.int .i64 0)))⟩])
  (.cond (.tmp 24) (.seq (.reg [⟨(some 4), none, (.mov (.const (.int .i64 0)))⟩, ⟨(some 5), none, (.mov (.const (.int .i64 4)))⟩])
  .ret)
  .skip))
  (.seq (.dreg [⟨(some 25), none, (.addo (.tmp 2) 0)⟩, ⟨(some 26), none, (.ld (.tmp 25) 1)⟩, ⟨(some 27), none, (.addo (.tmp 2) 1)⟩, ⟨(some 28), none, (.ld (.tmp 27) 1)⟩, ⟨(some 29), none, (.mov (.tmp 1))⟩, ⟨(some 30), none, (.call ⟨(.value (.func 49)), (List.toArray [(.tmp 28), (.tmp 29)]), (List.toArray [3, 3])⟩ false)⟩, ⟨(some 31), none, (.ari .sub (.tmp 26) (.tmp 30))⟩, ⟨(some 32), none, (.mm false (.const (.int .i64 0)) (.tmp 31))⟩, ⟨(some 4), none, (.mov (.tmp 32))⟩, ⟨(some 5), none, (.mov (.const (.int .i64 0)))⟩] [511, 255, 127, 63, 28, 0, 4, 0, 1, 0])
  .ret)))))
theorem L19 : low Try.prog Try.f19.ntmps (at_ Try.f19 []) = some R19 := by kernel_rfl
theorem N92 : Try.f92.ntmps = 36 := by kernel_rfl
theorem Z92 : Try.f92.results.toList = ((List.toArray [(.tmp 6)]) : Array ResultVar).toList := by kernel_rfl
theorem B92 : Try.f92.body = some (at_ Try.f92 []) := by kernel_rfl
noncomputable def R92 : RC := (.seq (.reg [⟨(some 3), none, (.box 59 (.tmp 0))⟩, ⟨(some 6), none, (.mov (.const (.bool false)))⟩])
  (.seq (.reg [⟨(some 9), none, (.addo (.tmp 3) 0)⟩, ⟨(some 10), none, (.ld (.tmp 9) 1)⟩, ⟨(some 11), none, (.cmpb .leq (.const (.int .i64 (-16))) (.tmp 10))⟩, ⟨(some 12), none, (.mov (.tmp 11))⟩, ⟨(some 13), (some (12, true)), (.addo (.tmp 3) 0)⟩, ⟨(some 14), (some (12, true)), (.ld (.tmp 13) 1)⟩, ⟨(some 15), (some (12, true)), (.cmpb .lss (.tmp 14) (.const (.int .i64 0)))⟩, ⟨(some 16), none, (.pur ⟨(some 16), (.pick (.tmp 12) (.tmp 15) (.const (.bool false))), 4, "", (List.toArray []), none⟩)⟩, ⟨(some 7), none, (.mov (.tmp 16))⟩])
  (.seq (.reg [⟨(some 17), none, (.mov (.tmp 1))⟩, ⟨(some 18), none, (.addo (.tmp 3) 0)⟩, ⟨(some 19), none, (.ld (.tmp 18) 1)⟩, ⟨(some 20), none, (.cmpb .lss (.tmp 17) (.tmp 19))⟩, ⟨(some 21), none, (.mov (.tmp 20))⟩, ⟨(some 22), (some (21, true)), (.addo (.tmp 3) 0)⟩, ⟨(some 23), (some (21, true)), (.ld (.tmp 22) 1)⟩, ⟨(some 24), (some (21, true)), (.mov (.tmp 2))⟩, ⟨(some 25), (some (21, true)), (.cmpb .lss (.tmp 23) (.tmp 24))⟩, ⟨(some 26), none, (.pur ⟨(some 26), (.pick (.tmp 21) (.tmp 25) (.const (.bool false))), 4, "", (List.toArray []), none⟩)⟩, ⟨(some 8), none, (.mov (.tmp 26))⟩])
  (.seq (.reg [⟨(some 27), none, (.mov (.tmp 7))⟩, ⟨(some 28), none, (.mov (.tmp 27))⟩, ⟨(some 29), (some (28, false)), (.mov (.tmp 8))⟩, ⟨(some 30), none, (.pur ⟨(some 30), (.pick (.tmp 28) (.const (.bool true)) (.tmp 29)), 4, "", (List.toArray []), none⟩)⟩, ⟨(some 31), none, (.mov (.tmp 30))⟩, ⟨(some 32), (some (31, true)), (.lda (.tmp 3) 5)⟩, ⟨(some 33), (some (31, true)), (.call ⟨(.value (.func 94)), (List.toArray [(.tmp 32)]), (List.toArray [59])⟩ true)⟩, ⟨(some 34), (some (31, true)), (.call ⟨(.value (.func 67)), (List.toArray [(.tmp 33), (.const (.int .i64 1000))]), (List.toArray [104, 3])⟩ true)⟩, ⟨(some 35), none, (.pur ⟨(some 35), (.pick (.tmp 31) (.tmp 34) (.const (.bool false))), 4, "", (List.toArray []), none⟩)⟩, ⟨(some 6), none, (.mov (.tmp 35))⟩])
  .ret))))
theorem L92 : low Try.prog Try.f92.ntmps (at_ Try.f92 []) = some R92 := by kernel_rfl
theorem N91 : Try.f91.ntmps = 11 := by kernel_rfl
theorem Z91 : Try.f91.results.toList = ((List.toArray [(.tmp 6)]) : Array ResultVar).toList := by kernel_rfl
theorem B91 : Try.f91.body = some (at_ Try.f91 []) := by kernel_rfl
noncomputable def R91 : RC := (.seq (.reg [⟨(some 5), none, (.box 59 (.tmp 1))⟩, ⟨(some 6), none, (.mov (.const (.bool false)))⟩])
  (.seq (.reg [⟨(some 7), none, (.lda (.tmp 5) 5)⟩, ⟨(some 8), none, (.ld (.tmp 2) 1)⟩, ⟨(some 9), none, (.ld (.tmp 3) 1)⟩, ⟨(some 10), none, (.call ⟨(.value (.func 92)), (List.toArray [(.tmp 7), (.tmp 8), (.tmp 9)]), (List.toArray [59, 3, 3])⟩ true)⟩, ⟨(some 6), none, (.mov (.tmp 10))⟩])
  .ret))
theorem L91 : low Try.prog Try.f91.ntmps (at_ Try.f91 []) = some R91 := by kernel_rfl
theorem N90 : Try.f90.ntmps = 34 := by kernel_rfl
theorem Z90 : Try.f90.results.toList = ((List.toArray [(.tmp 8)]) : Array ResultVar).toList := by kernel_rfl
theorem B90 : Try.f90.body = some (at_ Try.f90 []) := by kernel_rfl
noncomputable def R90 : RC := (.seq (.reg [⟨(some 8), none, (.mov (.const (.bool false)))⟩])
  (.seq (.seq (.reg [⟨(some 11), none, (.mov (.tmp 0))⟩, ⟨(some 12), none, (.len (.tmp 11))⟩, ⟨(some 13), none, (.mov (.tmp 1))⟩, ⟨(some 14), none, (.cmpb .lss (.tmp 12) (.tmp 13))⟩, ⟨(some 15), none, (.mov (.tmp 14))⟩, ⟨(some 16), (some (15, false)), (.mov (.tmp 0))⟩, ⟨(some 17), (some (15, false)), (.len (.tmp 16))⟩, ⟨(some 18), (some (15, false)), (.mov (.tmp 2))⟩, ⟨(some 19), (some (15, false)), (.cmpb .gtr (.tmp 17) (.tmp 18))⟩, ⟨(some 20), none, (.pur ⟨(some 20), (.pick (.tmp 15) (.const (.bool true)) (.tmp 19)), 4, "", (List.toArray []), none⟩)⟩])
  (.cond (.tmp 20) (.seq (.reg [⟨(some 8), none, (.mov (.const (.bool false)))⟩])
  .ret)
  .skip))
  (.seq (.seq (.reg [⟨(some 21), none, (.mov (.tmp 0))⟩, ⟨(some 22), none, (.len (.tmp 21))⟩, ⟨(some 23), none, (.mov (.const (.int .i64 0)))⟩])
  (.block 0 (.other (at_ Try.f90 [1, 1, 0, 1, 0]))))
  (.seq (.reg [⟨(some 8), none, (.mov (.const (.bool true)))⟩])
  .ret))))
theorem L90 : low Try.prog Try.f90.ntmps (at_ Try.f90 []) = some R90 := by kernel_rfl
theorem E90_1 : at_ Try.f90 [1, 1, 0, 1, 0] = .loop (at_ Try.f90 [1, 1, 0, 1, 0, 0]) := by kernel_rfl
noncomputable def R90x1 : RC := (.seq (.reg [⟨(some 24), none, (.cmp .lss (.tmp 23) (.tmp 22))⟩])
  (.seq (.cond (.tmp 24) .skip
  (.exit 0))
  (.seq (.block 1 (.seq (.reg [⟨(some 25), none, (.mov (.tmp 23))⟩, ⟨(some 26), none, (.idx (.tmp 21) (.tmp 23) 5)⟩, ⟨(some 27), none, (.lda (.tmp 26) 5)⟩, ⟨(some 10), none, (.alc 59 [(.int .i64 0), (.int .i64 0), (.int .i64 0), (.int .i64 0), (.int .i64 0)])⟩, ⟨(some 9), none, (.mov (.tmp 25))⟩, ⟨none, none, (.sta (.tmp 10) (.tmp 27) 5)⟩])
  (.seq (.reg [⟨(some 28), none, (.mov (.tmp 3))⟩, ⟨(some 29), none, (.mov (.tmp 9))⟩, ⟨(some 30), none, (.lda (.tmp 10) 5)⟩, ⟨(some 31), none, (.call ⟨(.value (.tmp 28)), (List.toArray [(.tmp 29), (.tmp 30)]), (List.toArray [3, 59])⟩ true)⟩, ⟨(some 32), none, (.pur ⟨(some 32), (.unOp .not 4 (.tmp 31)), 4, "", (List.toArray []), none⟩)⟩])
  (.cond (.tmp 32) (.seq (.reg [⟨(some 8), none, (.mov (.const (.bool false)))⟩])
  .ret)
  .skip))))
  (.reg [⟨(some 33), none, (.ari .add (.tmp 23) (.const (.int .i64 1)))⟩, ⟨(some 23), none, (.mov (.tmp 33))⟩]))))
theorem L90x1 : low Try.prog Try.f90.ntmps (at_ Try.f90 [1, 1, 0, 1, 0, 0]) = some R90x1 := by kernel_rfl
theorem N65 : Try.f65.ntmps = 35 := by kernel_rfl
theorem Z65 : Try.f65.results.toList = ((List.toArray [(.tmp 6)]) : Array ResultVar).toList := by kernel_rfl
theorem B65 : Try.f65.body = some (at_ Try.f65 []) := by kernel_rfl
noncomputable def R65 : RC := (.seq (.reg [⟨(some 3), none, (.box 62 (.tmp 0))⟩, ⟨(some 4), none, (.box 3 (.tmp 1))⟩, ⟨(some 5), none, (.box 3 (.tmp 2))⟩, ⟨(some 6), none, (.mov (.const (.bool false)))⟩])
  (.seq (.seq (.reg [⟨(some 10), none, (.addo (.tmp 3) 0)⟩, ⟨(some 11), none, (.ld (.tmp 10) 1)⟩, ⟨(some 12), none, (.pur ⟨(some 12), (.makeFunc (.func 91) (List.toArray []) (List.toArray [(.tmp 4), (.tmp 5)])), 137, "", (List.toArray []), none⟩)⟩, ⟨(some 13), none, (.call ⟨(.value (.func 90)), (List.toArray [(.tmp 11), (.const (.int .i64 1)), (.const (.int .i64 4)), (.tmp 12)]), (List.toArray [60, 3, 3, 137])⟩ true)⟩, ⟨(some 14), none, (.pur ⟨(some 14), (.unOp .not 4 (.tmp 13)), 4, "", (List.toArray []), none⟩)⟩])
  (.cond (.tmp 14) (.seq (.reg [⟨(some 6), none, (.mov (.const (.bool false)))⟩])
  .ret)
  .skip))
  (.seq (.reg [⟨(some 15), none, (.pur ⟨(some 15), (.build 104 (List.toArray [])), 104, "", (List.toArray []), none⟩)⟩, ⟨(some 7), none, (.alc 104 [(.int .i64 0), (.int .i64 0), (.int .i64 0), (.int .i64 0)])⟩, ⟨none, none, (.sta (.tmp 7) (.tmp 15) 4)⟩])
  (.seq (.seq (.reg [⟨(some 16), none, (.addo (.tmp 3) 0)⟩, ⟨(some 17), none, (.ld (.tmp 16) 1)⟩, ⟨(some 18), none, (.addo (.tmp 3) 0)⟩, ⟨(some 19), none, (.ld (.tmp 18) 1)⟩, ⟨(some 20), none, (.len (.tmp 19))⟩, ⟨(some 21), none, (.ari .sub (.tmp 20) (.const (.int .i64 1)))⟩, ⟨(some 22), none, (.mem ⟨(some 22), (.slice 60 (.tmp 17) none (some (.tmp 21)) none), 60, "", (List.toArray []), none⟩)⟩, ⟨(some 23), none, (.len (.tmp 22))⟩, ⟨(some 24), none, (.mov (.const (.int .i64 0)))⟩])
  (.block 0 (.other (at_ Try.f65 [1, 1, 1, 0, 1, 0]))))
  (.seq (.reg [⟨(some 33), none, (.lda (.tmp 7) 4)⟩, ⟨(some 34), none, (.call ⟨(.value (.func 67)), (List.toArray [(.tmp 33), (.const (.int .i64 1000))]), (List.toArray [104, 3])⟩ true)⟩, ⟨(some 6), none, (.mov (.tmp 34))⟩])
  .ret)))))
theorem L65 : low Try.prog Try.f65.ntmps (at_ Try.f65 []) = some R65 := by kernel_rfl
theorem E65_1 : at_ Try.f65 [1, 1, 1, 0, 1, 0] = .loop (at_ Try.f65 [1, 1, 1, 0, 1, 0, 0]) := by kernel_rfl
noncomputable def R65x1 : RC := (.seq (.reg [⟨(some 25), none, (.cmp .lss (.tmp 24) (.tmp 23))⟩])
  (.seq (.cond (.tmp 25) .skip
  (.exit 0))
  (.seq (.block 1 (.seq (.reg [⟨(some 26), none, (.idx (.tmp 22) (.tmp 24) 5)⟩, ⟨(some 27), none, (.lda (.tmp 26) 5)⟩, ⟨(some 9), none, (.alc 59 [(.int .i64 0), (.int .i64 0), (.int .i64 0), (.int .i64 0), (.int .i64 0)])⟩, ⟨none, none, (.sta (.tmp 9) (.tmp 27) 5)⟩])
  (.dreg [⟨(some 28), none, (.lda (.tmp 7) 4)⟩, ⟨(some 29), none, (.lda (.tmp 9) 5)⟩, ⟨(some 30), none, (.call ⟨(.value (.func 94)), (List.toArray [(.tmp 29)]), (List.toArray [59])⟩ false)⟩, ⟨(some 31), none, (.call ⟨(.value (.func 93)), (List.toArray [(.tmp 28), (.tmp 30)]), (List.toArray [104, 104])⟩ true)⟩, ⟨none, none, (.sta (.tmp 7) (.tmp 31) 4)⟩] [15, 7, 2, 0, 0])))
  (.reg [⟨(some 32), none, (.ari .add (.tmp 24) (.const (.int .i64 1)))⟩, ⟨(some 24), none, (.mov (.tmp 32))⟩]))))
theorem L65x1 : low Try.prog Try.f65.ntmps (at_ Try.f65 [1, 1, 1, 0, 1, 0, 0]) = some R65x1 := by kernel_rfl
theorem N64 : Try.f64.ntmps = 11 := by kernel_rfl
theorem Z64 : Try.f64.results.toList = ((List.toArray [(.tmp 5)]) : Array ResultVar).toList := by kernel_rfl
theorem B64 : Try.f64.body = some (at_ Try.f64 []) := by kernel_rfl
noncomputable def R64 : RC := (.seq (.reg [⟨(some 4), none, (.box 62 (.tmp 1))⟩, ⟨(some 5), none, (.mov (.const (.bool false)))⟩])
  (.seq (.reg [⟨(some 6), none, (.lda (.tmp 4) 1)⟩, ⟨(some 7), none, (.mov (.tmp 0))⟩, ⟨(some 8), none, (.ld (.tmp 2) 1)⟩, ⟨(some 9), none, (.len (.tmp 8))⟩, ⟨(some 10), none, (.call ⟨(.value (.func 65)), (List.toArray [(.tmp 6), (.tmp 7), (.tmp 9)]), (List.toArray [62, 3, 3])⟩ true)⟩, ⟨(some 5), none, (.mov (.tmp 10))⟩])
  .ret))
theorem L64 : low Try.prog Try.f64.ntmps (at_ Try.f64 []) = some R64 := by kernel_rfl
theorem N63 : Try.f63.ntmps = 34 := by kernel_rfl
theorem Z63 : Try.f63.results.toList = ((List.toArray [(.tmp 8)]) : Array ResultVar).toList := by kernel_rfl
theorem B63 : Try.f63.body = some (at_ Try.f63 []) := by kernel_rfl
noncomputable def R63 : RC := (.seq (.reg [⟨(some 8), none, (.mov (.const (.bool false)))⟩])
  (.seq (.seq (.reg [⟨(some 11), none, (.mov (.tmp 0))⟩, ⟨(some 12), none, (.len (.tmp 11))⟩, ⟨(some 13), none, (.mov (.tmp 1))⟩, ⟨(some 14), none, (.cmpb .lss (.tmp 12) (.tmp 13))⟩, ⟨(some 15), none, (.mov (.tmp 14))⟩, ⟨(some 16), (some (15, false)), (.mov (.tmp 0))⟩, ⟨(some 17), (some (15, false)), (.len (.tmp 16))⟩, ⟨(some 18), (some (15, false)), (.mov (.tmp 2))⟩, ⟨(some 19), (some (15, false)), (.cmpb .gtr (.tmp 17) (.tmp 18))⟩, ⟨(some 20), none, (.pur ⟨(some 20), (.pick (.tmp 15) (.const (.bool true)) (.tmp 19)), 4, "", (List.toArray []), none⟩)⟩])
  (.cond (.tmp 20) (.seq (.reg [⟨(some 8), none, (.mov (.const (.bool false)))⟩])
  .ret)
  .skip))
  (.seq (.seq (.reg [⟨(some 21), none, (.mov (.tmp 0))⟩, ⟨(some 22), none, (.len (.tmp 21))⟩, ⟨(some 23), none, (.mov (.const (.int .i64 0)))⟩])
  (.block 0 (.other (at_ Try.f63 [1, 1, 0, 1, 0]))))
  (.seq (.reg [⟨(some 8), none, (.mov (.const (.bool true)))⟩])
  .ret))))
theorem L63 : low Try.prog Try.f63.ntmps (at_ Try.f63 []) = some R63 := by kernel_rfl
theorem E63_1 : at_ Try.f63 [1, 1, 0, 1, 0] = .loop (at_ Try.f63 [1, 1, 0, 1, 0, 0]) := by kernel_rfl
noncomputable def R63x1 : RC := (.seq (.reg [⟨(some 24), none, (.cmp .lss (.tmp 23) (.tmp 22))⟩])
  (.seq (.cond (.tmp 24) .skip
  (.exit 0))
  (.seq (.block 1 (.seq (.reg [⟨(some 25), none, (.mov (.tmp 23))⟩, ⟨(some 26), none, (.idx (.tmp 21) (.tmp 23) 1)⟩, ⟨(some 27), none, (.lda (.tmp 26) 1)⟩, ⟨(some 10), none, (.alc 62 [(.slice none 0 0)])⟩, ⟨(some 9), none, (.mov (.tmp 25))⟩, ⟨none, none, (.sta (.tmp 10) (.tmp 27) 1)⟩])
  (.seq (.reg [⟨(some 28), none, (.mov (.tmp 3))⟩, ⟨(some 29), none, (.mov (.tmp 9))⟩, ⟨(some 30), none, (.lda (.tmp 10) 1)⟩, ⟨(some 31), none, (.call ⟨(.value (.tmp 28)), (List.toArray [(.tmp 29), (.tmp 30)]), (List.toArray [3, 62])⟩ true)⟩, ⟨(some 32), none, (.pur ⟨(some 32), (.unOp .not 4 (.tmp 31)), 4, "", (List.toArray []), none⟩)⟩])
  (.cond (.tmp 32) (.seq (.reg [⟨(some 8), none, (.mov (.const (.bool false)))⟩])
  .ret)
  .skip))))
  (.reg [⟨(some 33), none, (.ari .add (.tmp 23) (.const (.int .i64 1)))⟩, ⟨(some 23), none, (.mov (.tmp 33))⟩]))))
theorem L63x1 : low Try.prog Try.f63.ntmps (at_ Try.f63 [1, 1, 0, 1, 0, 0]) = some R63x1 := by kernel_rfl
theorem N42 : Try.f42.ntmps = 6 := by kernel_rfl
theorem Z42 : Try.f42.results.toList = ((List.toArray [(.tmp 2)]) : Array ResultVar).toList := by kernel_rfl
theorem B42 : Try.f42.body = some (at_ Try.f42 []) := by kernel_rfl
noncomputable def R42 : RC := (.seq (.reg [⟨(some 1), none, (.box 22 (.tmp 0))⟩, ⟨(some 2), none, (.mov (.const (.bool false)))⟩])
  (.seq (.reg [⟨(some 3), none, (.ld (.tmp 1) 1)⟩, ⟨(some 4), none, (.pur ⟨(some 4), (.makeFunc (.func 64) (List.toArray []) (List.toArray [(.tmp 1)])), 102, "", (List.toArray []), none⟩)⟩, ⟨(some 5), none, (.call ⟨(.value (.func 63)), (List.toArray [(.tmp 3), (.const (.int .i64 0)), (.const (.int .i64 12)), (.tmp 4)]), (List.toArray [22, 3, 3, 102])⟩ true)⟩, ⟨(some 2), none, (.mov (.tmp 5))⟩])
  .ret))
theorem L42 : low Try.prog Try.f42.ntmps (at_ Try.f42 []) = some R42 := by kernel_rfl
end Go.Ax

/-
  Plant: parts and streams: what is done with four numbers (written by program).
-/
namespace Go.Ax
open Go Go.RowKit Go.Proofs

theorem i24s : ∃ i, Try.prog.info? 24 = some i ∧ i.size = 4 := by
  have h : (Try.prog.info? 24).map (fun i => i.size) = some 4 := by kernel_rfl
  cases e : Try.prog.info? 24 with
  | none => rw [e] at h; cases h
  | some i => rw [e] at h; simp at h; exact ⟨i, rfl, h⟩
theorem a24 : isAggB Try.prog 24 = some true := by kernel_rfl
theorem i104s : ∃ i, Try.prog.info? 104 = some i ∧ i.size = 4 := by
  have h : (Try.prog.info? 104).map (fun i => i.size) = some 4 := by kernel_rfl
  cases e : Try.prog.info? 104 with
  | none => rw [e] at h; cases h
  | some i => rw [e] at h; simp at h; exact ⟨i, rfl, h⟩
theorem a104 : isAggB Try.prog 104 = some true := by kernel_rfl
theorem res_cell {P : Program} {S : Rg} {H : Hp} {a x n : Nat} {t : TypeId} {cs : List Value} (ha : lk S a = some (.pointer (some ⟨x, 0, none⟩))) (h1 : isAggB P t = some true) (hi : ∃ i, P.info? t = some i ∧ i.size = n) (hl : cs.length = n) (h : Cl H x cs) : resS P S H [.cell a t] = some [.agg cs.toArray] := by
  simp only [resS, ha, load_agg h1 hi h.rd hl]
theorem index4 {n : Nat} {S : Rg} {d : Option Tmp} {x y : Operand} {p : String} {ty : TypeId} {q : Nat → Int} {i : Nat} (hx : evS S x = some (.agg (qc q).toArray)) (hy : evS S y = some (iv (i : Int))) (hi : i < 4) : pureOp Try.prog (frS n S) ⟨d, .index 104 x y, ty, p, #[], none⟩ = some (iv (q i)) := by
  unfold pureOp
  simp only [ev_frS, hx, hy]
  rcases i with _ | _ | _ | _ | i
  · kernel_rfl
  · kernel_rfl
  · kernel_rfl
  · kernel_rfl
  · omega
def mix (i : Nat) (f g : Nat → Int) : Nat → Int := fun j => if j < i then f j else g j
theorem qc_at {p : Nat → Int} {i : Nat} (h : i < 4) : (qc p)[0 + i * 1]? = some (iv (p i)) := by
  match i, h with
  | 0, _ => rfl
  | 1, _ => rfl
  | 2, _ => rfl
  | 3, _ => rfl
  | n + 4, h => exact absurd h (by omega)
theorem mix_at {f p : Nat → Int} {i : Nat} (h : i < 4) : (qc (mix i f p))[0 + i * 1]? = some (iv (p i)) := by
  rw [qc_at h]; unfold mix; rw [if_neg (Nat.lt_irrefl i)]
theorem qc_set {f p : Nat → Int} {i : Nat} {v : Int} (h : i < 4) (hv : v = f i) : (qc (mix i f p)).set (0 + i * 1) (iv v) = qc (mix (i + 1) f p) := by
  subst hv
  match i, h with
  | 0, _ => rfl
  | 1, _ => rfl
  | 2, _ => rfl
  | 3, _ => rfl
  | n + 4, h => exact absurd h (by omega)
theorem wiQ_step {p : Nat → Int} {m : Int} {i : Nat} (h : ∀ j, j < i → isw (p j) m = true) (h2 : isw (p i) m = true) : ∀ j, j < i + 1 → isw (p j) m = true := fun j hj => by
  by_cases e : j = i
  · subst e; exact h2
  · exact h j (by omega)
theorem wiQ_all {p : Nat → Int} {m : Int} (h : ∀ j, j < 4 → isw (p j) m = true) : wiQ p m = true := by
  unfold wiQ; rw [h 0 (by omega), h 1 (by omega), h 2 (by omega), h 3 (by omega)]; rfl
theorem wiQ_fail {p : Nat → Int} {m : Int} {i : Nat} (hi : i < 4) (h : isw (p i) m = false) : wiQ p m = false := by
  unfold wiQ
  match i, hi with
  | 0, _ => rw [h]; rfl
  | 1, _ => rw [h]; simp
  | 2, _ => rw [h]; simp
  | 3, _ => rw [h]; simp
  | n + 4, hi => exact absurd hi (by omega)
section
variable {kn : FuncId → Option Bool} {lo : Nat} {H : Hp}
theorem isw_ok {n m : Int} : ∃ H', FnX Try.prog kn lo 95 [iv n, iv m] H (.bool (isw n m)) H' ∧ Keep H H' [] := by
  have key := fnX_low (kn := kn) (lo := lo) (H := H) (args := [iv n, iv m]) (Q := fun w H' => w = .bool (isw n m) ∧ Keep H H' []) Try.func95 B95 N95 Z95 L95 (by simp) ?_
  · obtain ⟨w, H', h, rfl, q⟩ := key; exact ⟨H', h, q⟩
  repeat' first
    | (intro t ht; cases t)
    | exact And.intro trivial (Exists.intro _ (And.intro rfl ⟨by simp_all [retV, isw] <;> (intros; omega), Keep.refl _ _⟩))
    | refine And.intro rfl (Exists.intro _ (And.intro rfl ?_))
/-- grams -/
theorem grams_ok {s : Nat → Int} (hlo : lo ≤ H.next) : ∃ H', FnX Try.prog kn lo 66 [.agg (qc s).toArray] H (.agg (qc s).toArray) H' ∧ Keep H H' [] := by
  have key := fnX_low (kn := kn) (lo := lo) (H := H) (args := [.agg (qc s).toArray]) (Q := fun w H' => w = .agg (qc s).toArray ∧ Keep H H' []) Try.func66 B66 N66 Z66 L66 (by simp) ?_
  · obtain ⟨w, H', h, rfl, q⟩ := key; exact ⟨H', h, q⟩
  have hk := Keep.refl H []
  refine wN_seq ?_
  refine wN_box (v := .agg (qc s).toArray) rfl ?_
  intro H1 kH1 nH1 c1
  have c1 : Cl H1 H.next [iv (s 0), iv (s 1), iv (s 2), iv (s 3)] := c1
  have mH1 := kH1.1
  have hk := hk.trans kH1
  refine wN_alc ?_
  intro H2 kH2 nH2 c2
  have c2 : Cl H2 H1.next [iv 0, iv 0, iv 0, iv 0] := c2
  have mH2 := kH2.1
  have hk := hk.trans kH2
  have c1 := kH2.cl c1 (by simp)
  refine wN_end ?_
  refine wN_seq ?_
  refine wN_addo (b := H.next) (o := 0) rfl ?_
  refine wN_ld (b := H.next) (o := 0) (v := iv (s 0)) rfl c1.rd rfl ?_
  refine wN_addo (b := H.next) (o := 0) rfl ?_
  refine wN_ld (b := H.next) (o := 1) (v := iv (s 1)) rfl c1.rd rfl ?_
  refine wN_addo (b := H.next) (o := 0) rfl ?_
  refine wN_ld (b := H.next) (o := 2) (v := iv (s 2)) rfl c1.rd rfl ?_
  refine wN_addo (b := H.next) (o := 0) rfl ?_
  refine wN_ld (b := H.next) (o := 3) (v := iv (s 3)) rfl c1.rd rfl ?_
  refine wN_pur (v := .agg #[iv (s 0), iv (s 1), iv (s 2), iv (s 3)]) rfl (by kernel_rfl) ?_
  refine wN_sta (b := H1.next) (o := 0) rfl rfl c2 (by omega) rfl rfl (by simp) ?_
  intro H3 kH3 nH3 sH3
  have mH3 := kH3.1
  have hk := hk.new kH3 (fun b hb => by simp at hb ⊢; omega)
  have c1 := kH3.cl c1 (by first | (simp; done) | (simp; omega))
  have c2 : Cl H3 H1.next [iv (s 0), iv (s 1), iv (s 2), iv (s 3)] := sH3
  refine wN_end ?_
  exact And.intro trivial (Exists.intro _ (And.intro (res_cell rfl a104 i104s rfl c2) ⟨rfl, hk⟩))
/-- stream -/
theorem stream_ok {s : Nat → Int} (hlo : lo ≤ H.next) : ∃ H', FnX Try.prog kn lo 99 [.agg (qc s).toArray] H (.agg (qc s).toArray) H' ∧ Keep H H' [] := by
  have key := fnX_low (kn := kn) (lo := lo) (H := H) (args := [.agg (qc s).toArray]) (Q := fun w H' => w = .agg (qc s).toArray ∧ Keep H H' []) Try.func99 B99 N99 Z99 L99 (by simp) ?_
  · obtain ⟨w, H', h, rfl, q⟩ := key; exact ⟨H', h, q⟩
  have hk := Keep.refl H []
  refine wN_seq ?_
  refine wN_box (v := .agg (qc s).toArray) rfl ?_
  intro H1 kH1 nH1 c1
  have c1 : Cl H1 H.next [iv (s 0), iv (s 1), iv (s 2), iv (s 3)] := c1
  have mH1 := kH1.1
  have hk := hk.trans kH1
  refine wN_alc ?_
  intro H2 kH2 nH2 c2
  have c2 : Cl H2 H1.next [iv 0, iv 0, iv 0, iv 0] := c2
  have mH2 := kH2.1
  have hk := hk.trans kH2
  have c1 := kH2.cl c1 (by simp)
  refine wN_end ?_
  refine wN_seq ?_
  refine wN_idxa (b := H.next) (o := 0) (k := 0) (j := 0) rfl rfl rfl (by decide) ?_
  refine wN_ld (b := H.next) (o := 0 + 0 * 1) (v := iv (s 0)) rfl c1.rd rfl ?_
  refine wN_idxa (b := H.next) (o := 0) (k := 1) (j := 1) rfl rfl rfl (by decide) ?_
  refine wN_ld (b := H.next) (o := 0 + 1 * 1) (v := iv (s 1)) rfl c1.rd rfl ?_
  refine wN_idxa (b := H.next) (o := 0) (k := 2) (j := 2) rfl rfl rfl (by decide) ?_
  refine wN_ld (b := H.next) (o := 0 + 2 * 1) (v := iv (s 2)) rfl c1.rd rfl ?_
  refine wN_idxa (b := H.next) (o := 0) (k := 3) (j := 3) rfl rfl rfl (by decide) ?_
  refine wN_ld (b := H.next) (o := 0 + 3 * 1) (v := iv (s 3)) rfl c1.rd rfl ?_
  refine wN_pur (v := .agg #[iv (s 0), iv (s 1), iv (s 2), iv (s 3)]) rfl (by kernel_rfl) ?_
  refine wN_sta (b := H1.next) (o := 0) rfl rfl c2 (by omega) rfl rfl (by simp) ?_
  intro H3 kH3 nH3 sH3
  have mH3 := kH3.1
  have hk := hk.new kH3 (fun b hb => by simp at hb ⊢; omega)
  have c1 := kH3.cl c1 (by first | (simp; done) | (simp; omega))
  have c2 : Cl H3 H1.next [iv (s 0), iv (s 1), iv (s 2), iv (s 3)] := sH3
  refine wN_end ?_
  exact And.intro trivial (Exists.intro _ (And.intro (res_cell rfl a24 i24s rfl c2) ⟨rfl, hk⟩))
/-- thousandths -/
theorem thou_ok {o : Ou} (hlo : lo ≤ H.next) : ∃ H', FnX Try.prog kn lo 94 [.agg (Ou.f o).toArray] H (.agg (qc o.w).toArray) H' ∧ Keep H H' [] := by
  have key := fnX_low (kn := kn) (lo := lo) (H := H) (args := [.agg (Ou.f o).toArray]) (Q := fun w H' => w = .agg (qc o.w).toArray ∧ Keep H H' []) Try.func94 B94 N94 Z94 L94 (by simp) ?_
  · obtain ⟨w, H', h, rfl, q⟩ := key; exact ⟨H', h, q⟩
  have hk := Keep.refl H []
  refine wN_seq ?_
  refine wN_box (v := .agg (Ou.f o).toArray) rfl ?_
  intro H1 kH1 nH1 c1
  have c1 : Cl H1 H.next [iv o.to, iv o.m, iv o.s, iv o.a, iv o.c] := c1
  have mH1 := kH1.1
  have hk := hk.trans kH1
  refine wN_alc ?_
  intro H2 kH2 nH2 c2
  have c2 : Cl H2 H1.next [iv 0, iv 0, iv 0, iv 0] := c2
  have mH2 := kH2.1
  have hk := hk.trans kH2
  have c1 := kH2.cl c1 (by simp)
  refine wN_end ?_
  refine wN_seq ?_
  refine wN_addo (b := H.next) (o := 0) rfl ?_
  refine wN_ld (b := H.next) (o := 1) (v := iv o.m) rfl c1.rd rfl ?_
  refine wN_addo (b := H.next) (o := 0) rfl ?_
  refine wN_ld (b := H.next) (o := 2) (v := iv o.s) rfl c1.rd rfl ?_
  refine wN_addo (b := H.next) (o := 0) rfl ?_
  refine wN_ld (b := H.next) (o := 3) (v := iv o.a) rfl c1.rd rfl ?_
  refine wN_addo (b := H.next) (o := 0) rfl ?_
  refine wN_ld (b := H.next) (o := 4) (v := iv o.c) rfl c1.rd rfl ?_
  refine wN_pur (v := .agg #[iv o.m, iv o.s, iv o.a, iv o.c]) rfl (by kernel_rfl) ?_
  refine wN_sta (b := H1.next) (o := 0) rfl rfl c2 (by omega) rfl rfl (by simp) ?_
  intro H3 kH3 nH3 sH3
  have mH3 := kH3.1
  have hk := hk.new kH3 (fun b hb => by simp at hb ⊢; omega)
  have c1 := kH3.cl c1 (by first | (simp; done) | (simp; omega))
  have c2 : Cl H3 H1.next [iv o.m, iv o.s, iv o.a, iv o.c] := sH3
  refine wN_end ?_
  exact And.intro trivial (Exists.intro _ (And.intro (res_cell rfl a104 i104s rfl c2) ⟨rfl, hk⟩))
/-- plus -/
theorem plus_ok {p q : Nat → Int} (hlo : lo ≤ H.next) (hr : ∀ j, j < 4 → InR (p j + q j)) : ∃ H', FnX Try.prog kn lo 93 [.agg (qc p).toArray, .agg (qc q).toArray] H (.agg (qc (addQ p q)).toArray) H' ∧ Keep H H' [] := by
  have key := fnX_low (kn := kn) (lo := lo) (H := H) (args := [.agg (qc p).toArray, .agg (qc q).toArray]) (Q := fun w H' => w = .agg (qc (addQ p q)).toArray ∧ Keep H H' []) Try.func93 B93 N93 Z93 L93 (by simp) ?_
  · obtain ⟨w, H', h, rfl, q⟩ := key; exact ⟨H', h, q⟩
  have hk := Keep.refl H []
  refine wN_seq ?_
  refine wN_box (v := .agg (qc p).toArray) rfl ?_
  intro H1 kH1 nH1 c1
  have c1 : Cl H1 H.next [iv (p 0), iv (p 1), iv (p 2), iv (p 3)] := c1
  have mH1 := kH1.1
  have hk := hk.trans kH1
  refine wN_box (v := .agg (qc q).toArray) rfl ?_
  intro H2 kH2 nH2 c2
  have c2 : Cl H2 H1.next [iv (q 0), iv (q 1), iv (q 2), iv (q 3)] := c2
  have mH2 := kH2.1
  have hk := hk.trans kH2
  have c1 := kH2.cl c1 (by simp)
  refine wN_alc ?_
  intro H3 kH3 nH3 c3
  have c3 : Cl H3 H2.next [iv 0, iv 0, iv 0, iv 0] := c3
  have mH3 := kH3.1
  have hk := hk.trans kH3
  have c1 := kH3.cl c1 (by simp)
  have c2 := kH3.cl c2 (by simp)
  refine wN_end ?_
  refine wN_seq ?_
  refine wN_mov (v := iv 0) rfl ?_
  refine wN_end ?_
  refine loop_low (fn := Try.f93) E93_1 N93 L93x1 (fun i : Nat => [(2, pt H.next), (3, pt H1.next), (4, pt H2.next), (6, iv (i : Int))])
    (fun k i H' => i + k = 4 ∧ Keep H H' [] ∧ H3.next ≤ H'.next ∧ Cl H' H.next (qc (mix i (addQ p q) p)) ∧ Cl H' H1.next (qc q) ∧ Cl H' H2.next [iv 0, iv 0, iv 0, iv 0]) 4 0 ⟨by omega, hk, Nat.le_refl _, c1, c2, c3⟩ ⟨rfl, rfl, rfl, rfl, trivial⟩ ?_
  rintro k i L1 ⟨hik, hki, hnx, cp, cq, cr⟩
  have mki := hki.1
  refine wN_seq ?_
  refine wN_c_lss (a := (i : Int)) (b := 4) rfl rfl ?_
  refine wN_end ?_
  refine And.intro (fun q1 => ?_) (fun q1 => ?_)
  · have q1 : (i : Int) < 4 := of_decide_eq_true q1
    have hi : i < 4 := by omega
    first | refine wN_skip ?_ | skip
    refine wN_seq ?_
    refine wN_mov (v := iv (i : Int)) rfl ?_
    refine wN_mov (v := iv (i : Int)) rfl ?_
    refine wN_end ?_
    first | refine wD_dreg ?_ | (refine wOps_nil ?_; refine wD_dreg ?_)
    refine wD_mov (v := iv (i : Int)) rfl ?_
    refine wD_idxa (b := H.next) (o := 0) (k := i) (j := (i : Int)) rfl rfl rfl hi ?_
    refine wD_ld (b := H.next) (o := 0 + i * 1) (v := iv (p i)) rfl cp.rd (mix_at hi) ?_
    refine wD_mov (v := iv (i : Int)) rfl ?_
    refine wD_idxa (b := H1.next) (o := 0) (k := i) (j := (i : Int)) rfl rfl rfl hi ?_
    refine wD_ld (b := H1.next) (o := 0 + i * 1) (v := iv (q i)) rfl cq.rd (qc_at (p := q) hi) ?_
    refine wD_add (a := (p i)) (b := (q i)) rfl rfl (hr i hi) ?_
    refine wD_idxa (b := H.next) (o := 0) (k := i) (j := (i : Int)) rfl rfl rfl hi ?_
    refine wD_st (b := H.next) (o := 0 + i * 1) rfl rfl cp (by omega) rfl rfl (by simp; omega) ?_
    intro H4 kH4 nH4 sH4
    have mH4 := kH4.1
    have hki := hki.new kH4 (fun b hb => by simp at hb ⊢; omega)
    have cq := kH4.cl cq (by first | (simp; done) | (simp; omega))
    have cr := kH4.cl cr (by first | (simp; done) | (simp; omega))
    rw [qc_set (f := (addQ p q)) (v := p i + q i) hi rfl] at sH4
    have cp := sH4
    refine wD_end (by repeat' first | exact True.intro | exact (fun h => h) | refine And.intro ?_ ?_ | (intro h; have h : (_ : Nat) = _ := h; omega)) ?_
    first | refine wN_reg ?_ | refine wN_blk ?_ | refine wN_bseq ?_ | (refine wOps_nil ?_; refine wN_reg ?_)
    refine wN_add (a := (i : Int)) (b := 1) rfl rfl ⟨by omega, by omega⟩ ?_
    refine wN_mov (v := iv ((i : Int) + 1)) rfl ?_
    refine wN_end ?_
    exact ⟨k - 1, i + 1, by omega, ⟨by omega, hki, by omega, cp, cq, cr⟩, rfl, rfl, rfl, rfl, trivial⟩
  · have q1 : ¬ ((i : Int) < 4) := of_decide_eq_false q1
    have e : i = 4 := by omega
    subst e
    have cp : Cl L1 H.next (qc (addQ p q)) := cp
    refine wN_seq ?_
    refine wN_lda (b := H.next) (o := 0) rfl cp.rd (show row 4 (qc (addQ p q)) 0 = some (qc (addQ p q)) from rfl) ?_
    refine wN_sta (b := H2.next) (o := 0) rfl rfl cr (by omega) rfl rfl (by simp) ?_
    intro H5 kH5 nH5 sH5
    have mH5 := kH5.1
    have hki := hki.new kH5 (fun b hb => by simp at hb ⊢; omega)
    have cp := kH5.cl cp (by first | (simp; done) | (simp; omega))
    have cq := kH5.cl cq (by first | (simp; done) | (simp; omega))
    have cr : Cl H5 H2.next [iv ((addQ p q) 0), iv ((addQ p q) 1), iv ((addQ p q) 2), iv ((addQ p q) 3)] := sH5
    refine wN_end ?_
    exact And.intro trivial (Exists.intro _ (And.intro (res_cell rfl a104 i104s rfl cr) ⟨rfl, hki⟩))
/-- minus -/
theorem minus_ok {p q : Nat → Int} (hlo : lo ≤ H.next) (hr : ∀ j, j < 4 → InR (p j - q j)) : ∃ H', FnX Try.prog kn lo 98 [.agg (qc p).toArray, .agg (qc q).toArray] H (.agg (qc (subQ p q)).toArray) H' ∧ Keep H H' [] := by
  have key := fnX_low (kn := kn) (lo := lo) (H := H) (args := [.agg (qc p).toArray, .agg (qc q).toArray]) (Q := fun w H' => w = .agg (qc (subQ p q)).toArray ∧ Keep H H' []) Try.func98 B98 N98 Z98 L98 (by simp) ?_
  · obtain ⟨w, H', h, rfl, q⟩ := key; exact ⟨H', h, q⟩
  have hk := Keep.refl H []
  refine wN_seq ?_
  refine wN_box (v := .agg (qc p).toArray) rfl ?_
  intro H1 kH1 nH1 c1
  have c1 : Cl H1 H.next [iv (p 0), iv (p 1), iv (p 2), iv (p 3)] := c1
  have mH1 := kH1.1
  have hk := hk.trans kH1
  refine wN_box (v := .agg (qc q).toArray) rfl ?_
  intro H2 kH2 nH2 c2
  have c2 : Cl H2 H1.next [iv (q 0), iv (q 1), iv (q 2), iv (q 3)] := c2
  have mH2 := kH2.1
  have hk := hk.trans kH2
  have c1 := kH2.cl c1 (by simp)
  refine wN_alc ?_
  intro H3 kH3 nH3 c3
  have c3 : Cl H3 H2.next [iv 0, iv 0, iv 0, iv 0] := c3
  have mH3 := kH3.1
  have hk := hk.trans kH3
  have c1 := kH3.cl c1 (by simp)
  have c2 := kH3.cl c2 (by simp)
  refine wN_end ?_
  refine wN_seq ?_
  refine wN_mov (v := iv 0) rfl ?_
  refine wN_end ?_
  refine loop_low (fn := Try.f98) E98_1 N98 L98x1 (fun i : Nat => [(2, pt H.next), (3, pt H1.next), (4, pt H2.next), (6, iv (i : Int))])
    (fun k i H' => i + k = 4 ∧ Keep H H' [] ∧ H3.next ≤ H'.next ∧ Cl H' H.next (qc (mix i (subQ p q) p)) ∧ Cl H' H1.next (qc q) ∧ Cl H' H2.next [iv 0, iv 0, iv 0, iv 0]) 4 0 ⟨by omega, hk, Nat.le_refl _, c1, c2, c3⟩ ⟨rfl, rfl, rfl, rfl, trivial⟩ ?_
  rintro k i L1 ⟨hik, hki, hnx, cp, cq, cr⟩
  have mki := hki.1
  refine wN_seq ?_
  refine wN_c_lss (a := (i : Int)) (b := 4) rfl rfl ?_
  refine wN_end ?_
  refine And.intro (fun q1 => ?_) (fun q1 => ?_)
  · have q1 : (i : Int) < 4 := of_decide_eq_true q1
    have hi : i < 4 := by omega
    first | refine wN_skip ?_ | skip
    refine wN_seq ?_
    refine wN_mov (v := iv (i : Int)) rfl ?_
    refine wN_mov (v := iv (i : Int)) rfl ?_
    refine wN_end ?_
    first | refine wD_dreg ?_ | (refine wOps_nil ?_; refine wD_dreg ?_)
    refine wD_mov (v := iv (i : Int)) rfl ?_
    refine wD_idxa (b := H.next) (o := 0) (k := i) (j := (i : Int)) rfl rfl rfl hi ?_
    refine wD_ld (b := H.next) (o := 0 + i * 1) (v := iv (p i)) rfl cp.rd (mix_at hi) ?_
    refine wD_mov (v := iv (i : Int)) rfl ?_
    refine wD_idxa (b := H1.next) (o := 0) (k := i) (j := (i : Int)) rfl rfl rfl hi ?_
    refine wD_ld (b := H1.next) (o := 0 + i * 1) (v := iv (q i)) rfl cq.rd (qc_at (p := q) hi) ?_
    refine wD_sub (a := (p i)) (b := (q i)) rfl rfl (hr i hi) ?_
    refine wD_idxa (b := H.next) (o := 0) (k := i) (j := (i : Int)) rfl rfl rfl hi ?_
    refine wD_st (b := H.next) (o := 0 + i * 1) rfl rfl cp (by omega) rfl rfl (by simp; omega) ?_
    intro H4 kH4 nH4 sH4
    have mH4 := kH4.1
    have hki := hki.new kH4 (fun b hb => by simp at hb ⊢; omega)
    have cq := kH4.cl cq (by first | (simp; done) | (simp; omega))
    have cr := kH4.cl cr (by first | (simp; done) | (simp; omega))
    rw [qc_set (f := (subQ p q)) (v := p i - q i) hi rfl] at sH4
    have cp := sH4
    refine wD_end (by repeat' first | exact True.intro | exact (fun h => h) | refine And.intro ?_ ?_ | (intro h; have h : (_ : Nat) = _ := h; omega)) ?_
    first | refine wN_reg ?_ | refine wN_blk ?_ | refine wN_bseq ?_ | (refine wOps_nil ?_; refine wN_reg ?_)
    refine wN_add (a := (i : Int)) (b := 1) rfl rfl ⟨by omega, by omega⟩ ?_
    refine wN_mov (v := iv ((i : Int) + 1)) rfl ?_
    refine wN_end ?_
    exact ⟨k - 1, i + 1, by omega, ⟨by omega, hki, by omega, cp, cq, cr⟩, rfl, rfl, rfl, rfl, trivial⟩
  · have q1 : ¬ ((i : Int) < 4) := of_decide_eq_false q1
    have e : i = 4 := by omega
    subst e
    have cp : Cl L1 H.next (qc (subQ p q)) := cp
    refine wN_seq ?_
    refine wN_lda (b := H.next) (o := 0) rfl cp.rd (show row 4 (qc (subQ p q)) 0 = some (qc (subQ p q)) from rfl) ?_
    refine wN_sta (b := H2.next) (o := 0) rfl rfl cr (by omega) rfl rfl (by simp) ?_
    intro H5 kH5 nH5 sH5
    have mH5 := kH5.1
    have hki := hki.new kH5 (fun b hb => by simp at hb ⊢; omega)
    have cp := kH5.cl cp (by first | (simp; done) | (simp; omega))
    have cq := kH5.cl cq (by first | (simp; done) | (simp; omega))
    have cr : Cl H5 H2.next [iv ((subQ p q) 0), iv ((subQ p q) 1), iv ((subQ p q) 2), iv ((subQ p q) 3)] := sH5
    refine wN_end ?_
    exact And.intro trivial (Exists.intro _ (And.intro (res_cell rfl a104 i104s rfl cr) ⟨rfl, hki⟩))
/-- share -/
theorem share_ok {p q : Nat → Int} (hlo : lo ≤ H.next) (hr : ∀ j, j < 4 → InR (p j * q j)) (hn : ∀ j, j < 4 → 0 ≤ p j * q j) : ∃ H', FnX Try.prog kn lo 97 [.agg (qc p).toArray, .agg (qc q).toArray] H (.agg (qc (shQ p q)).toArray) H' ∧ Keep H H' [] := by
  have key := fnX_low (kn := kn) (lo := lo) (H := H) (args := [.agg (qc p).toArray, .agg (qc q).toArray]) (Q := fun w H' => w = .agg (qc (shQ p q)).toArray ∧ Keep H H' []) Try.func97 B97 N97 Z97 L97 (by simp) ?_
  · obtain ⟨w, H', h, rfl, q⟩ := key; exact ⟨H', h, q⟩
  have hk := Keep.refl H []
  refine wN_seq ?_
  refine wN_box (v := .agg (qc p).toArray) rfl ?_
  intro H1 kH1 nH1 c1
  have c1 : Cl H1 H.next [iv (p 0), iv (p 1), iv (p 2), iv (p 3)] := c1
  have mH1 := kH1.1
  have hk := hk.trans kH1
  refine wN_box (v := .agg (qc q).toArray) rfl ?_
  intro H2 kH2 nH2 c2
  have c2 : Cl H2 H1.next [iv (q 0), iv (q 1), iv (q 2), iv (q 3)] := c2
  have mH2 := kH2.1
  have hk := hk.trans kH2
  have c1 := kH2.cl c1 (by simp)
  refine wN_alc ?_
  intro H3 kH3 nH3 c3
  have c3 : Cl H3 H2.next [iv 0, iv 0, iv 0, iv 0] := c3
  have mH3 := kH3.1
  have hk := hk.trans kH3
  have c1 := kH3.cl c1 (by simp)
  have c2 := kH3.cl c2 (by simp)
  refine wN_end ?_
  refine wN_seq ?_
  refine wN_mov (v := iv 0) rfl ?_
  refine wN_end ?_
  refine loop_low (fn := Try.f97) E97_1 N97 L97x1 (fun i : Nat => [(2, pt H.next), (3, pt H1.next), (4, pt H2.next), (6, iv (i : Int))])
    (fun k i H' => i + k = 4 ∧ Keep H H' [] ∧ H3.next ≤ H'.next ∧ Cl H' H.next (qc (mix i (shQ p q) p)) ∧ Cl H' H1.next (qc q) ∧ Cl H' H2.next [iv 0, iv 0, iv 0, iv 0]) 4 0 ⟨by omega, hk, Nat.le_refl _, c1, c2, c3⟩ ⟨rfl, rfl, rfl, rfl, trivial⟩ ?_
  rintro k i L1 ⟨hik, hki, hnx, cp, cq, cr⟩
  have mki := hki.1
  refine wN_seq ?_
  refine wN_c_lss (a := (i : Int)) (b := 4) rfl rfl ?_
  refine wN_end ?_
  refine And.intro (fun q1 => ?_) (fun q1 => ?_)
  · have q1 : (i : Int) < 4 := of_decide_eq_true q1
    have hi : i < 4 := by omega
    first | refine wN_skip ?_ | skip
    refine wN_seq ?_
    refine wN_mov (v := iv (i : Int)) rfl ?_
    refine wN_mov (v := iv (i : Int)) rfl ?_
    refine wN_end ?_
    first | refine wD_dreg ?_ | (refine wOps_nil ?_; refine wD_dreg ?_)
    refine wD_mov (v := iv (i : Int)) rfl ?_
    refine wD_mov (v := iv (i : Int)) rfl ?_
    refine wD_idxa (b := H.next) (o := 0) (k := i) (j := (i : Int)) rfl rfl rfl hi ?_
    refine wD_ld (b := H.next) (o := 0 + i * 1) (v := iv (p i)) rfl cp.rd (mix_at hi) ?_
    refine wD_mov (v := iv (i : Int)) rfl ?_
    refine wD_idxa (b := H1.next) (o := 0) (k := i) (j := (i : Int)) rfl rfl rfl hi ?_
    refine wD_ld (b := H1.next) (o := 0 + i * 1) (v := iv (q i)) rfl cq.rd (qc_at (p := q) hi) ?_
    refine wD_mul (a := (p i)) (b := (q i)) rfl rfl (hr i hi) ?_
    refine wD_quo (a := (p i) * (q i)) (b := 1000) rfl rfl (hn i hi) (by decide) (hr i hi) ?_
    refine wD_idxa (b := H.next) (o := 0) (k := i) (j := (i : Int)) rfl rfl rfl hi ?_
    refine wD_st (b := H.next) (o := 0 + i * 1) rfl rfl cp (by omega) rfl rfl (by simp; omega) ?_
    intro H4 kH4 nH4 sH4
    have mH4 := kH4.1
    have hki := hki.new kH4 (fun b hb => by simp at hb ⊢; omega)
    have cq := kH4.cl cq (by first | (simp; done) | (simp; omega))
    have cr := kH4.cl cr (by first | (simp; done) | (simp; omega))
    rw [qc_set (f := (shQ p q)) (v := p i * q i / 1000) hi rfl] at sH4
    have cp := sH4
    refine wD_end (by repeat' first | exact True.intro | exact (fun h => h) | refine And.intro ?_ ?_ | (intro h; have h : (_ : Nat) = _ := h; omega)) ?_
    first | refine wN_reg ?_ | refine wN_blk ?_ | refine wN_bseq ?_ | (refine wOps_nil ?_; refine wN_reg ?_)
    refine wN_add (a := (i : Int)) (b := 1) rfl rfl ⟨by omega, by omega⟩ ?_
    refine wN_mov (v := iv ((i : Int) + 1)) rfl ?_
    refine wN_end ?_
    exact ⟨k - 1, i + 1, by omega, ⟨by omega, hki, by omega, cp, cq, cr⟩, rfl, rfl, rfl, rfl, trivial⟩
  · have q1 : ¬ ((i : Int) < 4) := of_decide_eq_false q1
    have e : i = 4 := by omega
    subst e
    have cp : Cl L1 H.next (qc (shQ p q)) := cp
    refine wN_seq ?_
    refine wN_lda (b := H.next) (o := 0) rfl cp.rd (show row 4 (qc (shQ p q)) 0 = some (qc (shQ p q)) from rfl) ?_
    refine wN_sta (b := H2.next) (o := 0) rfl rfl cr (by omega) rfl rfl (by simp) ?_
    intro H5 kH5 nH5 sH5
    have mH5 := kH5.1
    have hki := hki.new kH5 (fun b hb => by simp at hb ⊢; omega)
    have cp := kH5.cl cp (by first | (simp; done) | (simp; omega))
    have cq := kH5.cl cq (by first | (simp; done) | (simp; omega))
    have cr : Cl H5 H2.next [iv ((shQ p q) 0), iv ((shQ p q) 1), iv ((shQ p q) 2), iv ((shQ p q) 3)] := sH5
    refine wN_end ?_
    exact And.intro trivial (Exists.intro _ (And.intro (res_cell rfl a104 i104s rfl cr) ⟨rfl, hki⟩))
/-- areWithin -/
theorem within_ok {p : Nat → Int} {m : Int} : ∃ H', FnX Try.prog kn lo 67 [.agg (qc p).toArray, iv m] H (.bool (wiQ p m)) H' ∧ Keep H H' [] := by
  have key := fnX_low (kn := kn) (lo := lo) (H := H) (args := [.agg (qc p).toArray, iv m]) (Q := fun w H' => w = .bool (wiQ p m) ∧ Keep H H' []) Try.func67 B67 N67 Z67 L67 (by simp) ?_
  · obtain ⟨w, H', h, rfl, q⟩ := key; exact ⟨H', h, q⟩
  have hk := Keep.refl H []
  refine wN_seq ?_
  refine wN_box (v := .agg (qc p).toArray) rfl ?_
  intro H1 kH1 nH1 c1
  have c1 : Cl H1 H.next [iv (p 0), iv (p 1), iv (p 2), iv (p 3)] := c1
  have mH1 := kH1.1
  have hk := hk.trans kH1
  refine wN_mov (v := .bool false) rfl ?_
  refine wN_end ?_
  refine wN_seq ?_
  refine wN_lda (b := H.next) (o := 0) rfl c1.rd (show row 4 _ _ = some [iv (p 0), iv (p 1), iv (p 2), iv (p 3)] from rfl) ?_
  refine wN_mov (v := iv 0) rfl ?_
  refine wN_end ?_
  refine loop_low (fn := Try.f67) E67_1 N67 L67x1 (fun i : Nat => [(1, iv m), (7, .agg (qc p).toArray), (8, iv (i : Int))])
    (fun k i H' => i + k = 4 ∧ Keep H H' [] ∧ ∀ j, j < i → isw (p j) m = true) 4 0 ⟨by omega, hk, fun j h => absurd h (by omega)⟩ ⟨rfl, rfl, rfl, trivial⟩ ?_
  rintro k i L1 ⟨hik, hki, hall⟩
  refine wN_seq ?_
  refine wN_c_lss (a := (i : Int)) (b := 4) rfl rfl ?_
  refine wN_end ?_
  refine And.intro (fun q1 => ?_) (fun q1 => ?_)
  · have q1 : (i : Int) < 4 := of_decide_eq_true q1
    have hi : i < 4 := by omega
    first | refine wN_skip ?_ | skip
    refine wN_seq ?_
    refine wN_pur (v := iv (p i)) rfl (index4 rfl rfl hi) ?_
    refine wN_mov (v := iv (p i)) rfl ?_
    refine wN_end ?_
    refine wN_seq ?_
    refine wN_mov (v := iv (p i)) rfl ?_
    refine wN_mov (v := iv m) rfl ?_
    refine wN_callB rfl (isw_ok) ?_
    intro tH2 H2 hH2 kH2
    have mH2 := kH2.1
    have hki := hki.trans kH2
    cases tH2
    · have hb : isw (p i) m = false := hH2
      refine wN_pur (v := .bool true) rfl rfl ?_
      refine wN_end ?_
      refine condT ?_
      refine wN_seq ?_
      refine wN_mov (v := .bool false) rfl ?_
      refine wN_end ?_
      exact And.intro trivial (Exists.intro _ (And.intro rfl ⟨congrArg Value.bool (wiQ_fail hi hb).symm, hki⟩))
    · have hb : isw (p i) m = true := hH2
      refine wN_pur (v := .bool false) rfl rfl ?_
      refine wN_end ?_
      refine condF ?_
      first | refine wN_skip ?_ | skip
      first | refine wN_reg ?_ | refine wN_blk ?_ | refine wN_bseq ?_ | (refine wOps_nil ?_; refine wN_reg ?_)
      refine wN_add (a := (i : Int)) (b := 1) rfl rfl ⟨by omega, by omega⟩ ?_
      refine wN_mov (v := iv ((i : Int) + 1)) rfl ?_
      refine wN_end ?_
      exact ⟨k - 1, i + 1, by omega, ⟨by omega, hki, wiQ_step hall hb⟩, rfl, rfl, rfl, trivial⟩
  · have q1 : ¬ ((i : Int) < 4) := of_decide_eq_false q1
    have e : i = 4 := by omega
    subst e
    refine wN_seq ?_
    refine wN_mov (v := .bool true) rfl ?_
    refine wN_end ?_
    exact And.intro trivial (Exists.intro _ (And.intro rfl ⟨congrArg Value.bool (wiQ_all hall).symm, hki⟩))
end
end Go.Ax

/-! What 'low' makes of functions of plant (written by program). -/
namespace Go.Ax
open Go Go.RowKit Go.Proofs
noncomputable def R3 : RC := (.seq (.reg [⟨(some 4), none, (.box 24 (.tmp 1))⟩, ⟨(some 6), none, (.mov (.const (.bool false)))⟩])
  (.seq (.seq (.reg [⟨(some 15), none, (.mov (.tmp 0))⟩, ⟨(some 16), none, (.call ⟨(.value (.func 15)), (List.toArray [(.tmp 15)]), (List.toArray [22])⟩ true)⟩])
  (.cond (.tmp 16) (.seq (.reg [⟨(some 17), none, (.call ⟨(.value (.func 16)), (List.toArray []), (List.toArray [])⟩ true)⟩, ⟨(some 6), none, (.mov (.tmp 17))⟩])
  .ret)
  .skip))
  (.seq (.reg [⟨(some 19), none, (.mov (.tmp 0))⟩, ⟨(some 20), none, (.lda (.tmp 4) 4)⟩, ⟨(some 21), none, (.call ⟨(.value (.func 17)), (List.toArray [(.tmp 19), (.tmp 20)]), (List.toArray [22, 24])⟩ true)⟩, ⟨(some 18), none, (.mov (.tmp 21))⟩, ⟨(some 22), none, (.pur ⟨(some 22), (.extract (.tmp 18) 0), 27, "", (List.toArray []), none⟩)⟩, ⟨(some 23), none, (.pur ⟨(some 23), (.extract (.tmp 18) 1), 28, "", (List.toArray []), none⟩)⟩, ⟨(some 7), none, (.mov (.tmp 22))⟩, ⟨(some 8), none, (.mov (.tmp 23))⟩])
  (.seq (.reg [⟨(some 25), none, (.mov (.tmp 0))⟩, ⟨(some 26), none, (.lda (.tmp 4) 4)⟩, ⟨(some 27), none, (.call ⟨(.value (.func 18)), (List.toArray [(.tmp 25), (.tmp 26)]), (List.toArray [22, 24])⟩ true)⟩, ⟨(some 24), none, (.mov (.tmp 27))⟩, ⟨(some 28), none, (.pur ⟨(some 28), (.extract (.tmp 24) 0), 27, "", (List.toArray []), none⟩)⟩, ⟨(some 29), none, (.pur ⟨(some 29), (.extract (.tmp 24) 1), 28, "", (List.toArray []), none⟩)⟩, ⟨(some 9), none, (.mov (.tmp 28))⟩, ⟨(some 10), none, (.mov (.tmp 29))⟩])
  (.seq (.reg [⟨(some 31), none, (.lda (.tmp 4) 4)⟩, ⟨(some 32), none, (.mov (.tmp 2))⟩, ⟨(some 33), none, (.call ⟨(.value (.func 19)), (List.toArray [(.tmp 31), (.tmp 32)]), (List.toArray [24, 3])⟩ true)⟩, ⟨(some 30), none, (.mov (.tmp 33))⟩, ⟨(some 34), none, (.pur ⟨(some 34), (.extract (.tmp 30) 0), 3, "", (List.toArray []), none⟩)⟩, ⟨(some 35), none, (.pur ⟨(some 35), (.extract (.tmp 30) 1), 28, "", (List.toArray []), none⟩)⟩, ⟨(some 11), none, (.mov (.tmp 34))⟩, ⟨(some 12), none, (.mov (.tmp 35))⟩])
  (.seq (.reg [⟨(some 37), none, (.lda (.tmp 4) 4)⟩, ⟨(some 38), none, (.mov (.tmp 2))⟩, ⟨(some 39), none, (.call ⟨(.value (.func 20)), (List.toArray [(.tmp 37), (.tmp 38)]), (List.toArray [24, 3])⟩ true)⟩, ⟨(some 36), none, (.mov (.tmp 39))⟩, ⟨(some 40), none, (.pur ⟨(some 40), (.extract (.tmp 36) 0), 3, "", (List.toArray []), none⟩)⟩, ⟨(some 41), none, (.pur ⟨(some 41), (.extract (.tmp 36) 1), 28, "", (List.toArray []), none⟩)⟩, ⟨(some 13), none, (.mov (.tmp 40))⟩, ⟨(some 14), none, (.mov (.tmp 41))⟩])
  (.seq (.reg [⟨(some 42), none, (.mov (.tmp 0))⟩, ⟨(some 43), none, (.call ⟨(.value (.func 21)), (List.toArray [(.tmp 42)]), (List.toArray [22])⟩ true)⟩, ⟨(some 44), none, (.mov (.tmp 0))⟩, ⟨(some 45), none, (.call ⟨(.value (.func 22)), (List.toArray [(.tmp 44)]), (List.toArray [22])⟩ true)⟩, ⟨(some 46), none, (.cmpb .eql (.tmp 43) (.tmp 45))⟩, ⟨(some 47), none, (.mov (.tmp 46))⟩, ⟨(some 48), (some (47, true)), (.mov (.tmp 7))⟩, ⟨(some 49), (some (47, true)), (.mov (.tmp 9))⟩, ⟨(some 50), (some (47, true)), (.call ⟨(.value (.func 23)), (List.toArray [(.tmp 48), (.tmp 49)]), (List.toArray [27, 27])⟩ true)⟩, ⟨(some 51), none, (.pur ⟨(some 51), (.pick (.tmp 47) (.tmp 50) (.const (.bool false))), 4, "", (List.toArray []), none⟩)⟩, ⟨(some 52), none, (.mov (.tmp 51))⟩, ⟨(some 53), (some (52, true)), (.mov (.tmp 8))⟩, ⟨(some 54), (some (52, true)), (.mov (.tmp 10))⟩, ⟨(some 55), (some (52, true)), (.cmpb .eql (.tmp 53) (.tmp 54))⟩, ⟨(some 56), none, (.pur ⟨(some 56), (.pick (.tmp 52) (.tmp 55) (.const (.bool false))), 4, "", (List.toArray []), none⟩)⟩, ⟨(some 57), none, (.mov (.tmp 56))⟩, ⟨(some 58), (some (57, true)), (.mov (.tmp 11))⟩, ⟨(some 59), (some (57, true)), (.mov (.tmp 13))⟩, ⟨(some 60), (some (57, true)), (.cmpb .eql (.tmp 58) (.tmp 59))⟩, ⟨(some 61), none, (.pur ⟨(some 61), (.pick (.tmp 57) (.tmp 60) (.const (.bool false))), 4, "", (List.toArray []), none⟩)⟩, ⟨(some 62), none, (.mov (.tmp 61))⟩, ⟨(some 63), (some (62, true)), (.mov (.tmp 12))⟩, ⟨(some 64), (some (62, true)), (.mov (.tmp 14))⟩, ⟨(some 65), (some (62, true)), (.cmpb .eql (.tmp 63) (.tmp 64))⟩, ⟨(some 66), none, (.pur ⟨(some 66), (.pick (.tmp 62) (.tmp 65) (.const (.bool false))), 4, "", (List.toArray []), none⟩)⟩, ⟨(some 67), none, (.mov (.tmp 66))⟩, ⟨(some 68), (some (67, true)), (.call ⟨(.value (.func 16)), (List.toArray []), (List.toArray [])⟩ true)⟩, ⟨(some 69), none, (.pur ⟨(some 69), (.pick (.tmp 67) (.tmp 68) (.const (.bool false))), 4, "", (List.toArray []), none⟩)⟩, ⟨(some 6), none, (.mov (.tmp 69))⟩])
  .ret)))))))
theorem L3 : low Try.prog Try.f3.ntmps (at_ Try.f3 []) = some R3 := by kernel_rfl
theorem N23 : Try.f23.ntmps = 26 := by kernel_rfl
theorem Z23 : Try.f23.results.toList = ((List.toArray [(.tmp 4)]) : Array ResultVar).toList := by kernel_rfl
theorem B23 : Try.f23.body = some (at_ Try.f23 []) := by kernel_rfl
noncomputable def R23 : RC := (.seq (.reg [⟨(some 4), none, (.mov (.const (.bool false)))⟩])
  (.seq (.seq (.reg [⟨(some 6), none, (.mov (.tmp 0))⟩, ⟨(some 7), none, (.len (.tmp 6))⟩, ⟨(some 8), none, (.mov (.tmp 1))⟩, ⟨(some 9), none, (.len (.tmp 8))⟩, ⟨(some 10), none, (.cmp .neq (.tmp 7) (.tmp 9))⟩])
  (.cond (.tmp 10) (.seq (.reg [⟨(some 4), none, (.mov (.const (.bool false)))⟩])
  .ret)
  .skip))
  (.seq (.seq (.reg [⟨(some 5), none, (.mov (.const (.int .i64 0)))⟩])
  (.block 0 (.other (at_ Try.f23 [1, 1, 0, 1, 0]))))
  (.seq (.reg [⟨(some 4), none, (.mov (.const (.bool true)))⟩])
  .ret))))
theorem L23 : low Try.prog Try.f23.ntmps (at_ Try.f23 []) = some R23 := by kernel_rfl
theorem E23_1 : at_ Try.f23 [1, 1, 0, 1, 0] = .loop (at_ Try.f23 [1, 1, 0, 1, 0, 0]) := by kernel_rfl
noncomputable def R23x1 : RC := (.seq (.seq (.reg [⟨(some 11), none, (.mov (.tmp 5))⟩, ⟨(some 12), none, (.mov (.tmp 0))⟩, ⟨(some 13), none, (.len (.tmp 12))⟩, ⟨(some 14), none, (.cmp .lss (.tmp 11) (.tmp 13))⟩])
  (.cond (.tmp 14) .skip
  (.exit 0)))
  (.seq (.block 1 (.seq (.dreg [⟨(some 17), none, (.mov (.tmp 0))⟩, ⟨(some 18), none, (.mov (.tmp 5))⟩, ⟨(some 19), none, (.idx (.tmp 17) (.tmp 18) 4)⟩, ⟨(some 20), none, (.lda (.tmp 19) 4)⟩, ⟨(some 21), none, (.mov (.tmp 1))⟩, ⟨(some 22), none, (.mov (.tmp 5))⟩, ⟨(some 23), none, (.idx (.tmp 21) (.tmp 22) 4)⟩, ⟨(some 24), none, (.lda (.tmp 23) 4)⟩, ⟨(some 25), none, (.pur ⟨(some 25), (.binOp .neq 24 (.tmp 20) (.tmp 24) 24), 4, "", (List.toArray []), none⟩)⟩] [255, 112, 48, 0, 0, 7, 3, 0, 0])
  (.cond (.tmp 25) (.seq (.reg [⟨(some 4), none, (.mov (.const (.bool false)))⟩])
  .ret)
  .skip)))
  (.reg [⟨(some 15), none, (.mov (.tmp 5))⟩, ⟨(some 16), none, (.ari .add (.tmp 15) (.const (.int .i64 1)))⟩, ⟨(some 5), none, (.mov (.tmp 16))⟩])))
theorem L23x1 : low Try.prog Try.f23.ntmps (at_ Try.f23 [1, 1, 0, 1, 0, 0]) = some R23x1 := by kernel_rfl
theorem N44 : Try.f44.ntmps = 31 := by kernel_rfl
theorem Z44 : Try.f44.results.toList = ((List.toArray [(.tmp 4)]) : Array ResultVar).toList := by kernel_rfl
theorem B44 : Try.f44.body = some (at_ Try.f44 []) := by kernel_rfl
noncomputable def R44 : RC := (.seq (.reg [⟨(some 3), none, (.box 24 (.tmp 1))⟩, ⟨(some 4), none, (.mov (.const (.slice none 0 0)))⟩])
  (.seq (.reg [⟨(some 9), none, (.pur ⟨(some 9), (.build 111 (List.toArray [])), 111, "", (List.toArray []), none⟩)⟩, ⟨(some 5), none, (.alc 111 [(.int .i64 0), (.int .i64 0), (.int .i64 0), (.int .i64 0), (.int .i64 0), (.int .i64 0), (.int .i64 0), (.int .i64 0), (.int .i64 0), (.int .i64 0), (.int .i64 0), (.int .i64 0), (.int .i64 0), (.int .i64 0), (.int .i64 0), (.int .i64 0), (.int .i64 0), (.int .i64 0), (.int .i64 0), (.int .i64 0), (.int .i64 0), (.int .i64 0), (.int .i64 0), (.int .i64 0), (.int .i64 0), (.int .i64 0), (.int .i64 0), (.int .i64 0), (.int .i64 0), (.int .i64 0), (.int .i64 0), (.int .i64 0), (.int .i64 0), (.int .i64 0), (.int .i64 0), (.int .i64 0), (.int .i64 0), (.int .i64 0), (.int .i64 0), (.int .i64 0), (.int .i64 0), (.int .i64 0), (.int .i64 0), (.int .i64 0), (.int .i64 0), (.int .i64 0), (.int .i64 0), (.int .i64 0), (.int .i64 0), (.int .i64 0), (.int .i64 0), (.int .i64 0), (.int .i64 0), (.int .i64 0), (.int .i64 0), (.int .i64 0), (.int .i64 0), (.int .i64 0), (.int .i64 0), (.int .i64 0), (.int .i64 0), (.int .i64 0), (.int .i64 0), (.int .i64 0), (.int .i64 0), (.int .i64 0), (.int .i64 0), (.int .i64 0), (.int .i64 0), (.int .i64 0), (.int .i64 0), (.int .i64 0), (.int .i64 0), (.int .i64 0), (.int .i64 0), (.int .i64 0), (.int .i64 0), (.int .i64 0), (.int .i64 0), (.int .i64 0), (.int .i64 0), (.int .i64 0), (.int .i64 0), (.int .i64 0), (.int .i64 0), (.int .i64 0), (.int .i64 0), (.int .i64 0), (.int .i64 0), (.int .i64 0), (.int .i64 0), (.int .i64 0), (.int .i64 0), (.int .i64 0), (.int .i64 0), (.int .i64 0), (.int .i64 0), (.int .i64 0), (.int .i64 0), (.int .i64 0), (.int .i64 0), (.int .i64 0), (.int .i64 0), (.int .i64 0), (.int .i64 0), (.int .i64 0), (.int .i64 0), (.int .i64 0), (.int .i64 0), (.int .i64 0), (.int .i64 0), (.int .i64 0)])⟩, ⟨none, none, (.sta (.tmp 5) (.tmp 9) 112)⟩])
  (.seq (.reg [⟨(some 6), none, (.mov (.const (.int .i64 0)))⟩])
  (.seq (.seq (.reg [⟨(some 10), none, (.mov (.tmp 0))⟩, ⟨(some 11), none, (.len (.tmp 10))⟩, ⟨(some 12), none, (.cmp .eql (.tmp 11) (.const (.int .i64 0)))⟩])
  (.cond (.tmp 12) (.reg [⟨(some 6), none, (.mov (.const (.int .i64 (-1))))⟩])
  .skip))
  (.seq (.reg [⟨(some 13), none, (.mov (.tmp 6))⟩, ⟨(some 14), none, (.lda (.tmp 3) 4)⟩, ⟨(some 15), none, (.call ⟨(.value (.func 66)), (List.toArray [(.tmp 14)]), (List.toArray [24])⟩ true)⟩, ⟨(some 16), none, (.call ⟨(.value (.func 68)), (List.toArray [(.tmp 5), (.tmp 13), (.tmp 15)]), (List.toArray [111, 3, 104])⟩ true)⟩])
  (.seq (.seq (.reg [⟨(some 17), none, (.mov (.tmp 0))⟩, ⟨(some 18), none, (.len (.tmp 17))⟩, ⟨(some 19), none, (.mov (.const (.int .i64 0)))⟩])
  (.block 0 (.other (at_ Try.f44 [1, 1, 1, 1, 1, 0, 1, 0]))))
  (.seq (.reg [⟨(some 29), none, (.addo (.tmp 5) 0)⟩, ⟨(some 30), none, (.call ⟨(.value (.func 70)), (List.toArray [(.tmp 29)]), (List.toArray [108])⟩ true)⟩, ⟨(some 4), none, (.mov (.tmp 30))⟩])
  .ret)))))))
theorem L44 : low Try.prog Try.f44.ntmps (at_ Try.f44 []) = some R44 := by kernel_rfl
theorem E44_1 : at_ Try.f44 [1, 1, 1, 1, 1, 0, 1, 0] = .loop (at_ Try.f44 [1, 1, 1, 1, 1, 0, 1, 0, 0]) := by kernel_rfl
noncomputable def R44x1 : RC := (.seq (.reg [⟨(some 20), none, (.cmp .lss (.tmp 19) (.tmp 18))⟩])
  (.seq (.cond (.tmp 20) .skip
  (.exit 0))
  (.seq (.block 1 (.seq (.reg [⟨(some 21), none, (.mov (.tmp 19))⟩, ⟨(some 22), none, (.idx (.tmp 17) (.tmp 19) 1)⟩, ⟨(some 23), none, (.lda (.tmp 22) 1)⟩, ⟨(some 8), none, (.alc 62 [(.slice none 0 0)])⟩, ⟨(some 7), none, (.mov (.tmp 21))⟩, ⟨none, none, (.sta (.tmp 8) (.tmp 23) 1)⟩])
  (.reg [⟨(some 24), none, (.mov (.tmp 7))⟩, ⟨(some 25), none, (.addo (.tmp 8) 0)⟩, ⟨(some 26), none, (.ld (.tmp 25) 1)⟩, ⟨(some 27), none, (.call ⟨(.value (.func 69)), (List.toArray [(.tmp 5), (.tmp 24), (.tmp 26)]), (List.toArray [111, 3, 60])⟩ true)⟩])))
  (.reg [⟨(some 28), none, (.ari .add (.tmp 19) (.const (.int .i64 1)))⟩, ⟨(some 19), none, (.mov (.tmp 28))⟩]))))
theorem L44x1 : low Try.prog Try.f44.ntmps (at_ Try.f44 [1, 1, 1, 1, 1, 0, 1, 0, 0]) = some R44x1 := by kernel_rfl
theorem N68 : Try.f68.ntmps = 28 := by kernel_rfl
theorem Z68 : Try.f68.results.toList = ((List.toArray []) : Array ResultVar).toList := by kernel_rfl
theorem B68 : Try.f68.body = some (at_ Try.f68 []) := by kernel_rfl
noncomputable def R68 : RC := (.seq (.reg [⟨(some 5), none, (.box 104 (.tmp 2))⟩])
  (.seq (.seq (.reg [⟨(some 6), none, (.mov (.tmp 1))⟩, ⟨(some 7), none, (.cmp .lss (.tmp 6) (.const (.int .i64 0)))⟩])
  (.cond (.tmp 7) (.seq (.dreg [⟨(some 8), none, (.mov (.tmp 0))⟩, ⟨(some 9), none, (.nilc (.tmp 8))⟩, ⟨(some 10), none, (.addo (.tmp 9) 0)⟩, ⟨(some 11), none, (.mov (.tmp 1))⟩, ⟨(some 12), none, (.ari .sub (.const (.int .i64 (-1))) (.tmp 11))⟩, ⟨(some 13), none, (.lda (.tmp 5) 4)⟩, ⟨(some 14), none, (.call ⟨(.value (.func 96)), (List.toArray [(.tmp 10), (.tmp 12), (.tmp 13)]), (List.toArray [108, 3, 104])⟩ true)⟩] [63, 0, 8, 0, 3, 1, 0])
  .ret)
  .skip))
  (.dreg [⟨(some 15), none, (.mov (.tmp 0))⟩, ⟨(some 16), none, (.mov (.tmp 1))⟩, ⟨(some 17), none, (.mov (.tmp 0))⟩, ⟨(some 18), none, (.mov (.tmp 1))⟩, ⟨(some 19), none, (.nilc (.tmp 17))⟩, ⟨(some 20), none, (.addo (.tmp 19) 64)⟩, ⟨(some 21), none, (.idxa (.tmp 20) (.tmp 18) 12 4)⟩, ⟨(some 22), none, (.lda (.tmp 21) 4)⟩, ⟨(some 23), none, (.lda (.tmp 5) 4)⟩, ⟨(some 24), none, (.call ⟨(.value (.func 93)), (List.toArray [(.tmp 22), (.tmp 23)]), (List.toArray [104, 104])⟩ true)⟩, ⟨(some 25), none, (.nilc (.tmp 15))⟩, ⟨(some 26), none, (.addo (.tmp 25) 64)⟩, ⟨(some 27), none, (.idxa (.tmp 26) (.tmp 16) 12 4)⟩, ⟨none, none, (.sta (.tmp 27) (.tmp 24) 4)⟩] [8191, 4095, 1025, 1, 508, 0, 124, 60, 20, 4, 0, 0, 0, 0])))
theorem L68 : low Try.prog Try.f68.ntmps (at_ Try.f68 []) = some R68 := by kernel_rfl
theorem N69 : Try.f69.ntmps = 51 := by kernel_rfl
theorem Z69 : Try.f69.results.toList = ((List.toArray []) : Array ResultVar).toList := by kernel_rfl
theorem B69 : Try.f69.body = some (at_ Try.f69 []) := by kernel_rfl
noncomputable def R69 : RC := (.seq (.reg [⟨(some 12), none, (.mov (.tmp 0))⟩, ⟨(some 13), none, (.mov (.tmp 1))⟩, ⟨(some 14), none, (.nilc (.tmp 12))⟩, ⟨(some 15), none, (.addo (.tmp 14) 64)⟩, ⟨(some 16), none, (.idxa (.tmp 15) (.tmp 13) 12 4)⟩, ⟨(some 17), none, (.lda (.tmp 16) 4)⟩, ⟨(some 6), none, (.alc 104 [(.int .i64 0), (.int .i64 0), (.int .i64 0), (.int .i64 0)])⟩, ⟨none, none, (.sta (.tmp 6) (.tmp 17) 4)⟩])
  (.seq (.reg [⟨(some 18), none, (.lda (.tmp 6) 4)⟩, ⟨(some 7), none, (.alc 104 [(.int .i64 0), (.int .i64 0), (.int .i64 0), (.int .i64 0)])⟩, ⟨none, none, (.sta (.tmp 7) (.tmp 18) 4)⟩])
  (.seq (.reg [⟨(some 19), none, (.mov (.tmp 2))⟩, ⟨(some 20), none, (.len (.tmp 19))⟩, ⟨(some 21), none, (.ari .sub (.tmp 20) (.const (.int .i64 1)))⟩, ⟨(some 8), none, (.mov (.tmp 21))⟩])
  (.seq (.seq (.reg [⟨(some 22), none, (.mov (.tmp 2))⟩, ⟨(some 23), none, (.mov (.tmp 8))⟩, ⟨(some 24), none, (.mem ⟨(some 24), (.slice 60 (.tmp 22) none (some (.tmp 23)) none), 60, "", (List.toArray []), none⟩)⟩, ⟨(some 25), none, (.len (.tmp 24))⟩, ⟨(some 26), none, (.mov (.const (.int .i64 0)))⟩])
  (.block 0 (.other (at_ Try.f69 [1, 1, 1, 0, 1, 0]))))
  (.dreg [⟨(some 43), none, (.mov (.tmp 0))⟩, ⟨(some 44), none, (.mov (.tmp 2))⟩, ⟨(some 45), none, (.mov (.tmp 8))⟩, ⟨(some 46), none, (.idx (.tmp 44) (.tmp 45) 5)⟩, ⟨(some 47), none, (.addo (.tmp 46) 0)⟩, ⟨(some 48), none, (.ld (.tmp 47) 1)⟩, ⟨(some 49), none, (.lda (.tmp 7) 4)⟩, ⟨(some 50), none, (.call ⟨(.value (.func 68)), (List.toArray [(.tmp 43), (.tmp 48), (.tmp 49)]), (List.toArray [140, 3, 104])⟩ true)⟩] [127, 0, 30, 14, 6, 0, 0, 0])))))
theorem L69 : low Try.prog Try.f69.ntmps (at_ Try.f69 []) = some R69 := by kernel_rfl
theorem E69_1 : at_ Try.f69 [1, 1, 1, 0, 1, 0] = .loop (at_ Try.f69 [1, 1, 1, 0, 1, 0, 0]) := by kernel_rfl
noncomputable def R69x1 : RC := (.seq (.reg [⟨(some 27), none, (.cmp .lss (.tmp 26) (.tmp 25))⟩])
  (.seq (.cond (.tmp 27) .skip
  (.exit 0))
  (.seq (.block 1 (.seq (.reg [⟨(some 28), none, (.idx (.tmp 24) (.tmp 26) 5)⟩, ⟨(some 29), none, (.lda (.tmp 28) 5)⟩, ⟨(some 10), none, (.alc 59 [(.int .i64 0), (.int .i64 0), (.int .i64 0), (.int .i64 0), (.int .i64 0)])⟩, ⟨none, none, (.sta (.tmp 10) (.tmp 29) 5)⟩])
  (.seq (.dreg [⟨(some 30), none, (.lda (.tmp 6) 4)⟩, ⟨(some 31), none, (.lda (.tmp 10) 5)⟩, ⟨(some 32), none, (.call ⟨(.value (.func 94)), (List.toArray [(.tmp 31)]), (List.toArray [59])⟩ false)⟩, ⟨(some 33), none, (.call ⟨(.value (.func 97)), (List.toArray [(.tmp 30), (.tmp 32)]), (List.toArray [104, 104])⟩ false)⟩, ⟨(some 11), none, (.alc 104 [(.int .i64 0), (.int .i64 0), (.int .i64 0), (.int .i64 0)])⟩, ⟨none, none, (.sta (.tmp 11) (.tmp 33) 4)⟩] [31, 0, 7, 2, 0, 0])
  (.seq (.reg [⟨(some 34), none, (.mov (.tmp 0))⟩, ⟨(some 35), none, (.addo (.tmp 10) 0)⟩, ⟨(some 36), none, (.ld (.tmp 35) 1)⟩, ⟨(some 37), none, (.lda (.tmp 11) 4)⟩, ⟨(some 38), none, (.call ⟨(.value (.func 68)), (List.toArray [(.tmp 34), (.tmp 36), (.tmp 37)]), (List.toArray [140, 3, 104])⟩ true)⟩])
  (.reg [⟨(some 39), none, (.lda (.tmp 7) 4)⟩, ⟨(some 40), none, (.lda (.tmp 11) 4)⟩, ⟨(some 41), none, (.call ⟨(.value (.func 98)), (List.toArray [(.tmp 39), (.tmp 40)]), (List.toArray [104, 104])⟩ true)⟩, ⟨none, none, (.sta (.tmp 7) (.tmp 41) 4)⟩])))))
  (.reg [⟨(some 42), none, (.ari .add (.tmp 26) (.const (.int .i64 1)))⟩, ⟨(some 26), none, (.mov (.tmp 42))⟩]))))
theorem L69x1 : low Try.prog Try.f69.ntmps (at_ Try.f69 [1, 1, 1, 0, 1, 0, 0]) = some R69x1 := by kernel_rfl
theorem N70 : Try.f70.ntmps = 21 := by kernel_rfl
theorem Z70 : Try.f70.results.toList = ((List.toArray [(.tmp 2)]) : Array ResultVar).toList := by kernel_rfl
theorem B70 : Try.f70.body = some (at_ Try.f70 []) := by kernel_rfl
noncomputable def R70 : RC := (.seq (.reg [⟨(some 2), none, (.mov (.const (.slice none 0 0)))⟩])
  (.seq (.reg [⟨(some 6), none, (.mem ⟨(some 6), (.makeSlice 27 (.const (.int .i64 0)) (.const (.int .i64 16))), 27, "", (List.toArray []), none⟩)⟩, ⟨(some 3), none, (.mov (.tmp 6))⟩])
  (.seq (.seq (.reg [⟨(some 7), none, (.mov (.tmp 0))⟩, ⟨(some 8), none, (.nilc (.tmp 7))⟩, ⟨(some 9), none, (.mov (.const (.int .i64 0)))⟩])
  (.block 0 (.other (at_ Try.f70 [1, 1, 0, 1, 0]))))
  (.seq (.reg [⟨(some 20), none, (.mov (.tmp 3))⟩, ⟨(some 2), none, (.mov (.tmp 20))⟩])
  .ret))))
theorem L70 : low Try.prog Try.f70.ntmps (at_ Try.f70 []) = some R70 := by kernel_rfl
theorem E70_1 : at_ Try.f70 [1, 1, 0, 1, 0] = .loop (at_ Try.f70 [1, 1, 0, 1, 0, 0]) := by kernel_rfl
noncomputable def R70x1 : RC := (.seq (.reg [⟨(some 10), none, (.cmp .lss (.tmp 9) (.const (.int .i64 16)))⟩])
  (.seq (.cond (.tmp 10) .skip
  (.exit 0))
  (.seq (.block 1 (.seq (.reg [⟨(some 11), none, (.nilc (.tmp 7))⟩, ⟨(some 12), none, (.idxa (.tmp 11) (.tmp 9) 16 4)⟩, ⟨(some 13), none, (.lda (.tmp 12) 4)⟩, ⟨(some 5), none, (.alc 104 [(.int .i64 0), (.int .i64 0), (.int .i64 0), (.int .i64 0)])⟩, ⟨none, none, (.sta (.tmp 5) (.tmp 13) 4)⟩])
  (.reg [⟨(some 14), none, (.mov (.tmp 3))⟩, ⟨(some 15), none, (.lda (.tmp 5) 4)⟩, ⟨(some 16), none, (.call ⟨(.value (.func 99)), (List.toArray [(.tmp 15)]), (List.toArray [104])⟩ true)⟩, ⟨(some 17), none, (.mem ⟨(some 17), (.buildSlice 27 1 (List.toArray [(0, (.tmp 16))])), 27, "", (List.toArray []), none⟩)⟩, ⟨(some 18), none, (.mem ⟨(some 18), (.call ⟨(.builtin .append), (List.toArray [(.tmp 14), (.tmp 17)]), (List.toArray [27, 27])⟩), 27, "", (List.toArray []), none⟩)⟩, ⟨(some 3), none, (.mov (.tmp 18))⟩])))
  (.reg [⟨(some 19), none, (.ari .add (.tmp 9) (.const (.int .i64 1)))⟩, ⟨(some 9), none, (.mov (.tmp 19))⟩]))))
theorem L70x1 : low Try.prog Try.f70.ntmps (at_ Try.f70 [1, 1, 0, 1, 0, 0]) = some R70x1 := by kernel_rfl
theorem N96 : Try.f96.ntmps = 17 := by kernel_rfl
theorem Z96 : Try.f96.results.toList = ((List.toArray []) : Array ResultVar).toList := by kernel_rfl
theorem B96 : Try.f96.body = some (at_ Try.f96 []) := by kernel_rfl
noncomputable def R96 : RC := (.seq (.reg [⟨(some 5), none, (.box 104 (.tmp 2))⟩])
  (.dreg [⟨(some 6), none, (.mov (.tmp 0))⟩, ⟨(some 7), none, (.mov (.tmp 1))⟩, ⟨(some 8), none, (.mov (.tmp 0))⟩, ⟨(some 9), none, (.mov (.tmp 1))⟩, ⟨(some 10), none, (.nilc (.tmp 8))⟩, ⟨(some 11), none, (.idxa (.tmp 10) (.tmp 9) 16 4)⟩, ⟨(some 12), none, (.lda (.tmp 11) 4)⟩, ⟨(some 13), none, (.lda (.tmp 5) 4)⟩, ⟨(some 14), none, (.call ⟨(.value (.func 93)), (List.toArray [(.tmp 12), (.tmp 13)]), (List.toArray [104, 104])⟩ true)⟩, ⟨(some 15), none, (.nilc (.tmp 6))⟩, ⟨(some 16), none, (.idxa (.tmp 15) (.tmp 7) 16 4)⟩, ⟨none, none, (.sta (.tmp 16) (.tmp 14) 4)⟩] [2047, 1023, 1, 252, 0, 60, 28, 4, 0, 0, 0, 0]))
theorem L96 : low Try.prog Try.f96.ntmps (at_ Try.f96 []) = some R96 := by kernel_rfl
theorem N17 : Try.f17.ntmps = 17 := by kernel_rfl
theorem Z17 : Try.f17.results.toList = ((List.toArray [(.tmp 4), (.tmp 5)]) : Array ResultVar).toList := by kernel_rfl
theorem B17 : Try.f17.body = some (at_ Try.f17 []) := by kernel_rfl
noncomputable def R17 : RC := (.seq (.reg [⟨(some 3), none, (.box 24 (.tmp 1))⟩, ⟨(some 4), none, (.mov (.const (.slice none 0 0)))⟩, ⟨(some 5), none, (.mov (.const (.int .i64 0)))⟩])
  (.seq (.seq (.reg [⟨(some 6), none, (.mov (.tmp 0))⟩, ⟨(some 7), none, (.call ⟨(.value (.func 42)), (List.toArray [(.tmp 6)]), (List.toArray [22])⟩ true)⟩, ⟨(some 8), none, (.pur ⟨(some 8), (.unOp .not 4 (.tmp 7)), 4, "", (List.toArray []), none⟩)⟩, ⟨(some 9), none, (.mov (.tmp 8))⟩, ⟨(some 10), (some (9, false)), (.lda (.tmp 3) 4)⟩, ⟨(some 11), (some (9, false)), (.call ⟨(.value (.func 43)), (List.toArray [(.tmp 10)]), (List.toArray [24])⟩ true)⟩, ⟨(some 12), (some (9, false)), (.pur ⟨(some 12), (.unOp .not 4 (.tmp 11)), 4, "", (List.toArray []), none⟩)⟩, ⟨(some 13), none, (.pur ⟨(some 13), (.pick (.tmp 9) (.const (.bool true)) (.tmp 12)), 4, "", (List.toArray []), none⟩)⟩])
  (.cond (.tmp 13) (.seq (.reg [⟨(some 4), none, (.mov (.const (.slice none 0 0)))⟩, ⟨(some 5), none, (.mov (.const (.int .i64 1)))⟩])
  .ret)
  .skip))
  (.seq (.reg [⟨(some 14), none, (.mov (.tmp 0))⟩, ⟨(some 15), none, (.lda (.tmp 3) 4)⟩, ⟨(some 16), none, (.call ⟨(.value (.func 44)), (List.toArray [(.tmp 14), (.tmp 15)]), (List.toArray [22, 24])⟩ true)⟩, ⟨(some 4), none, (.mov (.tmp 16))⟩, ⟨(some 5), none, (.mov (.const (.int .i64 0)))⟩])
  .ret)))
theorem L17 : low Try.prog Try.f17.ntmps (at_ Try.f17 []) = some R17 := by kernel_rfl
end Go.Ax

/-
  Plant: Evaporate, and the law PlantStrong, whatever the input (written by program).
-/
namespace Go.Ax
open Go Go.RowKit Go.Proofs

/-- Evaporate: the water, and the error -/
def evE (s : Nat → Int) (k : Int) : Int × Int :=
  if wiQ s 1099511627776 = true ∧ s 1 ≤ s 0 then (if 1 ≤ k ∧ k ≤ 10000 then (if s 1 = 0 then (0, 4) else (max 0 (s 0 - s 1 * 10000 / k), 0)) else (0, 2)) else (0, 1)
section
variable {kn : FuncId → Option Bool} {lo : Nat} {H : Hp}
theorem vstream_ok {s : Nat → Int} (hlo : lo ≤ H.next) : ∃ H', FnX Try.prog kn lo 43 [.agg (qc s).toArray] H (.bool (wiQ s 1099511627776)) H' ∧ Keep H H' [] := by
  have key := fnX_low (kn := kn) (lo := lo) (H := H) (args := [.agg (qc s).toArray]) (Q := fun w H' => w = .bool (wiQ s 1099511627776) ∧ Keep H H' []) Try.func43 B43 N43 Z43 L43 (by simp) ?_
  · obtain ⟨w, H', h, rfl, q⟩ := key; exact ⟨H', h, q⟩
  have hk := Keep.refl H []
  refine wN_seq ?_
  refine wN_box (v := .agg (qc s).toArray) rfl ?_
  intro H1 kH1 nH1 c1
  have c1 : Cl H1 H.next [iv (s 0), iv (s 1), iv (s 2), iv (s 3)] := c1
  have mH1 := kH1.1
  have hk := hk.trans kH1
  refine wN_mov (v := .bool false) rfl ?_
  refine wN_end ?_
  refine wN_seq ?_
  refine wN_lda (b := H.next) (o := 0) rfl c1.rd (show row 4 _ _ = some [iv (s 0), iv (s 1), iv (s 2), iv (s 3)] from rfl) ?_
  obtain ⟨H2, fH2, kH2⟩ := grams_ok (kn := kn) (lo := lo) (H := H1) (s := s) (by omega)
  refine wN_callf (vs := [.agg (qc s).toArray]) rfl (callX_args fH2) ?_
  have mH2 := kH2.1
  have hk := hk.trans kH2
  have c1 := kH2.cl c1 (by simp)
  refine wN_callB rfl (within_ok (p := s) (m := 1099511627776)) ?_
  intro tH3 H3 hH3 kH3
  have mH3 := kH3.1
  have hk := hk.trans kH3
  have c1 := kH3.cl c1 (by simp)
  cases tH3
  · have hw : wiQ s 1099511627776 = false := hH3
    refine wN_mov (v := .bool false) rfl ?_
    refine wN_end ?_
    exact And.intro trivial (Exists.intro _ (And.intro rfl ⟨congrArg Value.bool (show false = (wiQ s 1099511627776) from hw.symm), hk⟩))
  · have hw : wiQ s 1099511627776 = true := hH3
    refine wN_mov (v := .bool true) rfl ?_
    refine wN_end ?_
    exact And.intro trivial (Exists.intro _ (And.intro rfl ⟨congrArg Value.bool (show true = (wiQ s 1099511627776) from hw.symm), hk⟩))
theorem most_ok {a k : Int} (h1 : 0 ≤ a) (h2 : a ≤ 1099511627776) (h3 : 1 ≤ k) (h4 : k ≤ 10000) : ∃ H', FnX Try.prog kn lo 49 [iv a, iv k] H (iv (a * 10000 / k)) H' ∧ Keep H H' [] := by
  have key := fnX_low (kn := kn) (lo := lo) (H := H) (args := [iv a, iv k]) (Q := fun w H' => w = iv (a * 10000 / k) ∧ Keep H H' []) Try.func49 B49 N49 Z49 L49 (by simp) ?_
  · obtain ⟨w, H', h, rfl, q⟩ := key; exact ⟨H', h, q⟩
  have hk := Keep.refl H []
  refine wN_seq ?_
  refine wN_mov (v := iv 0) rfl ?_
  refine wN_end ?_
  refine wN_seq ?_
  refine wN_mov (v := iv a) rfl ?_
  refine wN_mul (a := a) (b := 10000) rfl rfl ⟨by omega, by omega⟩ ?_
  refine wN_mov (v := iv k) rfl ?_
  refine wN_quo (a := a * 10000) (b := k) rfl rfl (by omega) (by omega) ⟨by omega, by omega⟩ ?_
  refine wN_mov (v := iv ((a * 10000) / k)) rfl ?_
  refine wN_end ?_
  exact And.intro trivial (Exists.intro _ (And.intro rfl ⟨rfl, hk⟩))
theorem evap_ok {s : Nat → Int} {k : Int} (hlo : lo ≤ H.next) : ∃ H', FnX Try.prog kn lo 19 [.agg (qc s).toArray, iv k] H (.tuple #[iv (evE s k).1, iv (evE s k).2]) H' ∧ Keep H H' [] := by
  have key := fnX_low (kn := kn) (lo := lo) (H := H) (args := [.agg (qc s).toArray, iv k]) (Q := fun w H' => w = .tuple #[iv (evE s k).1, iv (evE s k).2] ∧ Keep H H' []) Try.func19 B19 N19 Z19 L19 (by simp) ?_
  · obtain ⟨w, H', h, rfl, q⟩ := key; exact ⟨H', h, q⟩
  have hk := Keep.refl H []
  refine wN_seq ?_
  refine wN_box (v := .agg (qc s).toArray) rfl ?_
  intro H1 kH1 nH1 c1
  have c1 : Cl H1 H.next [iv (s 0), iv (s 1), iv (s 2), iv (s 3)] := c1
  have mH1 := kH1.1
  have hk := hk.trans kH1
  refine wN_mov (v := iv 0) rfl ?_
  refine wN_mov (v := iv 0) rfl ?_
  refine wN_end ?_
  refine wN_seq ?_
  refine wN_lda (b := H.next) (o := 0) rfl c1.rd (show row 4 _ _ = some [iv (s 0), iv (s 1), iv (s 2), iv (s 3)] from rfl) ?_
  refine wN_callB rfl (vstream_ok (s := s) (by omega)) ?_
  intro tH2 H2 hH2 kH2
  have mH2 := kH2.1
  have hk := hk.trans kH2
  have c1 := kH2.cl c1 (by simp)
  cases tH2
  · have hw : wiQ s 1099511627776 = false := hH2
    refine wN_pur (v := .bool true) rfl rfl ?_
    refine wN_mov (v := .bool true) rfl ?_
    refine wN_gs rfl ?_
    refine wN_gs rfl ?_
    refine wN_gs rfl ?_
    refine wN_gs rfl ?_
    refine wN_gs rfl ?_
    refine wN_pur (v := .bool true) rfl rfl ?_
    refine wN_end ?_
    refine condT ?_
    refine wN_seq ?_
    refine wN_mov (v := iv 0) rfl ?_
    refine wN_mov (v := iv 1) rfl ?_
    refine wN_end ?_
    exact And.intro trivial (Exists.intro _ (And.intro rfl ⟨by unfold evE; rw [if_neg (by rintro ⟨q1, q2⟩; first | omega | (rw [hw] at q1; cases q1))]; rfl, hk⟩))
  · have hw : wiQ s 1099511627776 = true := hH2; have a0 := wiQ_t hw 0 (by decide); have a1 := wiQ_t hw 1 (by decide)
    refine wN_pur (v := .bool false) rfl rfl ?_
    refine wN_mov (v := .bool false) rfl ?_
    refine wN_g rfl (wN_addo (b := H.next) (o := 0) rfl ?_)
    refine wN_g rfl (wN_ld (b := H.next) (o := 1) (v := iv (s 1)) rfl c1.rd rfl ?_)
    refine wN_g rfl (wN_addo (b := H.next) (o := 0) rfl ?_)
    refine wN_g rfl (wN_ld (b := H.next) (o := 0) (v := iv (s 0)) rfl c1.rd rfl ?_)
    refine wN_g rfl (wN_b_gtr (a := (s 1)) (b := (s 0)) rfl rfl ?_)
    intro t1 g1; cases t1
    · have g1 : ¬ ((s 1) > (s 0)) := of_decide_eq_false g1
      refine wN_pur (v := .bool false) rfl rfl ?_
      refine wN_end ?_
      refine condF ?_
      first | refine wN_skip ?_ | skip
      refine wN_seq ?_
      refine wN_mov (v := iv k) rfl ?_
      refine wN_b_lss (a := k) (b := 1) rfl rfl ?_
      intro t2 g2; cases t2
      · have g2 : ¬ (k < 1) := of_decide_eq_false g2
        refine wN_mov (v := .bool false) rfl ?_
        refine wN_g rfl (wN_mov (v := iv k) rfl ?_)
        refine wN_g rfl (wN_b_gtr (a := k) (b := 10000) rfl rfl ?_)
        intro t3 g3; cases t3
        · have g3 : ¬ (k > 10000) := of_decide_eq_false g3
          refine wN_pur (v := .bool false) rfl rfl ?_
          refine wN_end ?_
          refine condF ?_
          first | refine wN_skip ?_ | skip
          refine wN_seq ?_
          refine wN_addo (b := H.next) (o := 0) rfl ?_
          refine wN_ld (b := H.next) (o := 1) (v := iv (s 1)) rfl c1.rd rfl ?_
          refine wN_c_eql (a := (s 1)) (b := 0) rfl rfl ?_
          refine wN_end ?_
          refine And.intro (fun q4 => ?_) (fun q4 => ?_)
          · have q4 : (s 1) = 0 := by simpa using q4
            refine wN_seq ?_
            refine wN_mov (v := iv 0) rfl ?_
            refine wN_mov (v := iv 4) rfl ?_
            refine wN_end ?_
            exact And.intro trivial (Exists.intro _ (And.intro rfl ⟨by unfold evE; rw [if_pos ⟨hw, by omega⟩, if_pos (by omega), if_pos (by omega)]; rfl, hk⟩))
          · have q4 : ¬ ((s 1) = 0) := by simpa using q4
            first | refine wN_skip ?_ | skip
            refine wD_seq ?_
            refine wD_addo (b := H.next) (o := 0) rfl ?_
            refine wD_ld (b := H.next) (o := 0) (v := iv (s 0)) rfl c1.rd rfl ?_
            refine wD_addo (b := H.next) (o := 0) rfl ?_
            refine wD_ld (b := H.next) (o := 1) (v := iv (s 1)) rfl c1.rd rfl ?_
            refine wD_mov (v := iv k) rfl ?_
            have hq0 := Int.ediv_nonneg (a := s 1 * 10000) (b := k) (by omega) (by omega); have hq1 := Int.ediv_le_self (a := s 1 * 10000) k (by omega)
            obtain ⟨H3, fH3, kH3⟩ := most_ok (kn := kn) (lo := H2.next) (H := H2) (a := s 1) (k := k) (by omega) (by omega) (by omega) (by omega)
            refine wD_callh (vs := [iv (s 1), iv k]) rfl rfl (callX_args fH3) ?_
            have mH3 := kH3.1
            have hk := hk.trans kH3
            have c1 := kH3.cl c1 (by simp)
            refine wD_sub (a := (s 0)) (b := (s 1 * 10000 / k)) rfl rfl ⟨by omega, by omega⟩ ?_
            refine wD_mm (a := 0) (b := (s 0) - (s 1 * 10000 / k)) rfl rfl ?_
            refine wD_mov (v := iv (max 0 ((s 0) - (s 1 * 10000 / k)))) rfl ?_
            refine wD_mov (v := iv 0) rfl ?_
            refine wD_end (by repeat' first | exact True.intro | exact (fun h => h) | refine And.intro ?_ ?_ | (intro h; have h : (_ : Nat) = _ := h; omega)) ?_
            exact And.intro trivial (Exists.intro _ (And.intro rfl ⟨by unfold evE; rw [if_pos ⟨hw, by omega⟩, if_pos (by omega), if_neg (by omega)]; rfl, hk⟩))
        · have g3 : k > 10000 := of_decide_eq_true g3
          refine wN_pur (v := .bool true) rfl rfl ?_
          refine wN_end ?_
          refine condT ?_
          refine wN_seq ?_
          refine wN_mov (v := iv 0) rfl ?_
          refine wN_mov (v := iv 2) rfl ?_
          refine wN_end ?_
          exact And.intro trivial (Exists.intro _ (And.intro rfl ⟨by unfold evE; rw [if_pos ⟨hw, by omega⟩, if_neg (by omega)]; rfl, hk⟩))
      · have g2 : k < 1 := of_decide_eq_true g2
        refine wN_mov (v := .bool true) rfl ?_
        refine wN_gs rfl ?_
        refine wN_gs rfl ?_
        refine wN_pur (v := .bool true) rfl rfl ?_
        refine wN_end ?_
        refine condT ?_
        refine wN_seq ?_
        refine wN_mov (v := iv 0) rfl ?_
        refine wN_mov (v := iv 2) rfl ?_
        refine wN_end ?_
        exact And.intro trivial (Exists.intro _ (And.intro rfl ⟨by unfold evE; rw [if_pos ⟨hw, by omega⟩, if_neg (by omega)]; rfl, hk⟩))
    · have g1 : (s 1) > (s 0) := of_decide_eq_true g1
      refine wN_pur (v := .bool true) rfl rfl ?_
      refine wN_end ?_
      refine condT ?_
      refine wN_seq ?_
      refine wN_mov (v := iv 0) rfl ?_
      refine wN_mov (v := iv 1) rfl ?_
      refine wN_end ?_
      exact And.intro trivial (Exists.intro _ (And.intro rfl ⟨by unfold evE; rw [if_neg (by rintro ⟨q1, q2⟩; first | omega | (rw [hw] at q1; cases q1))]; rfl, hk⟩))
end
end Go.Ax

/-
  Plant: machines, streams: where they lie (written by program).
-/
namespace Go.Ax
open Go Go.RowKit

/-- a block of outlets: given, of a literal, or made by append -/
def Fy (H : Hp) (b : Nat) (cs : List Value) : Prop := b < H.next ∧ (H.t.get b = some (.ro cs) ∨ (∃ e, H.t.get b = some (.cells cs e false)) ∨ H.t.get b = some (.cells cs 59 true))
theorem Fy.rd {H : Hp} {b : Nat} {cs : List Value} (h : Fy H b cs) : Rd H b cs := by
  obtain ⟨h1, h2 | ⟨e, h2⟩ | h2⟩ := h <;> exact ⟨h1, by unfold cellsOf; rw [h2]⟩
theorem Fy.lt {H : Hp} {b : Nat} {cs : List Value} (h : Fy H b cs) : b < H.next := h.1
theorem Keep.fy {H H1 : Hp} {l : List Nat} (k : Keep H H1 l) {b : Nat} {cs : List Value} (h : Fy H b cs) (hl : b ∉ l) : Fy H1 b cs :=
  ⟨Nat.lt_of_lt_of_le h.1 k.1, by rw [k.2 b h.1 hl]; exact h.2⟩
theorem KeepB.fy {f : Nat} {H H1 : Hp} (k : KeepB f H H1) {b : Nat} {cs : List Value} (h : Fy H b cs) (hl : b < f) : Fy H1 b cs :=
  ⟨Nat.lt_of_lt_of_le h.1 k.1, by rw [k.2 b hl]; exact h.2⟩
/-- A machine: its outlets. -/
structure Mc where
  ra : Option Addr
  n : Nat
  cap : Nat
  l : List Ou
def Mc.z : Mc := ⟨none, 0, 0, []⟩
abbrev Mc.f (r : Mc) : List Value := [.slice r.ra r.n r.cap]
def mcc (l : List Mc) : List Value := l.flatMap Mc.f
theorem mcc_row {l : List Mc} {i : Nat} {r : Mc} (h : l[i]? = some r) : (mcc l)[0 + i * 1]? = some (.slice r.ra r.n r.cap) := row_get (i := 0 + i * 1) (j := 0) (row_flat (f := Mc.f) (size := 1) (fun _ _ => rfl) h) rfl
theorem ouc_row {l : List Ou} {i : Nat} {x : Ou} (h : l[i]? = some x) : row 5 (ouc l) (0 + i * 5) = some x.f := row_flat (f := Ou.f) (size := 5) (fun _ _ => rfl) h
theorem ouc_at {l : List Ou} {i j : Nat} {x : Ou} {v : Value} (h : l[i]? = some x) (hj : x.f[j]? = some v) : (ouc l)[0 + i * 5 + j]? = some v := row_get (ouc_row h) hj
/-- lots -/
structure Fz where
  rd : Int
  du : Int
  ms : Int
abbrev Fz.f (x : Fz) : List Value := [iv x.rd, iv x.du, iv x.ms]
def Fz.z : Fz := ⟨0, 0, 0⟩
def fzc (l : List Fz) : List Value := l.flatMap Fz.f
theorem fzc_row {l : List Fz} {i : Nat} {x : Fz} (h : l[i]? = some x) : row 3 (fzc l) (0 + i * 3) = some x.f := row_flat (f := Fz.f) (size := 3) (fun _ _ => rfl) h
theorem fzc_at {l : List Fz} {i j : Nat} {x : Fz} {v : Value} (h : l[i]? = some x) (hj : x.f[j]? = some v) : (fzc l)[0 + i * 3 + j]? = some v := row_get (fzc_row h) hj
/-- tanks -/
structure Tn where
  un : Int
  su : Int
  ac : Int
  co : Int
  pr : Int
abbrev Tn.f (x : Tn) : List Value := [iv x.un, iv x.su, iv x.ac, iv x.co, iv x.pr]
def Tn.z : Tn := ⟨0, 0, 0, 0, 0⟩
def tnc (l : List Tn) : List Value := l.flatMap Tn.f
theorem tnc_row {l : List Tn} {i : Nat} {x : Tn} (h : l[i]? = some x) : row 5 (tnc l) (0 + i * 5) = some x.f := row_flat (f := Tn.f) (size := 5) (fun _ _ => rfl) h
/-- where machines lie; the list may begin inside of its block -/
structure Mcs (H : Hp) (f : Nat) (sa : Option Addr) (n cap : Nat) (rs : List Mc) : Prop where
  r : ((sa = none ∨ sa = some ⟨0, 0, some 0⟩) ∧ n = 0 ∧ cap = 0) ∨ ∃ b o cs, sa = some ⟨b, o, none⟩ ∧ Rd H b cs ∧ b < f ∧ n ≤ cap ∧ ∀ i r, rs[i]? = some r → cs[o + i * 1]? = some (.slice r.ra r.n r.cap)
  rl : rs.length = n
  ri : ∀ r ∈ rs, Sl H r.ra r.n r.cap (ouc r.l) ∧ r.l.length = r.n ∧ ∀ x, r.ra = some ⟨x, 0, none⟩ → x < f ∧ Fy H x (ouc r.l)
theorem Mcs.keep {H H1 : Hp} {f : Nat} {sa : Option Addr} {n cap : Nat} {rs : List Mc} {W : List Nat} (h : Mcs H f sa n cap rs) (k : Keep H H1 W) (hw : ∀ x ∈ W, f ≤ x) : Mcs H1 f sa n cap rs where
  r := h.r.imp id fun ⟨b, o, cs, e, r, hb, hn, hc⟩ => ⟨b, o, cs, e, k.rd r (fun q => by have := hw b q; omega), hb, hn, hc⟩
  rl := h.rl
  ri := fun b hb => by
    obtain ⟨h1, h2, h3⟩ := h.ri b hb
    exact ⟨k.sl h1 fun x e q => by have := (h3 x e).1; have := hw x q; omega, h2, fun x e => ⟨(h3 x e).1, k.fy (h3 x e).2 (fun q => by have := (h3 x e).1; have := hw x q; omega)⟩⟩
theorem Mcs.opn {H : Hp} {f : Nat} {sa : Option Addr} {n cap : Nat} {rs : List Mc} (h : Mcs H f sa n cap rs) {i : Nat} (hi : i < n) : ∃ b o cs r, rs[i]? = some r ∧ sa = some ⟨b, o, none⟩ ∧ Rd H b cs ∧ b < f ∧ n ≤ cap ∧ cs[o + i * 1]? = some (.slice r.ra r.n r.cap) ∧ r ∈ rs := by
  rcases h.r with ⟨_, h0, _⟩ | ⟨b, o, cs, e, r, hb, hn, hc⟩
  · omega
  · obtain ⟨x, hx⟩ : ∃ x, rs[i]? = some x := ⟨_, List.getElem?_eq_getElem (show i < rs.length by rw [h.rl]; exact hi)⟩
    exact ⟨b, o, cs, x, hx, e, r, hb, hn, hc i x hx, List.mem_of_getElem? hx⟩
end Go.Ax

/-
  Plant: which lists of machines are plants (written by program).
-/
namespace Go.Ax
open Go Go.RowKit Go.Proofs

theorem u60' : Try.prog.underlying 60 = some (.slice 59) := by kernel_rfl
theorem in59s : ∃ i, Try.prog.info? 59 = some i ∧ i.size = 5 := by
  have h : (Try.prog.info? 59).map (fun i => Nat.beq i.size 5) = some true := by kernel_rfl
  cases e : Try.prog.info? 59 with
  | none => rw [e] at h; cases h
  | some i => rw [e] at h; exact ⟨i, rfl, by simpa using h⟩
/-- the first k elements -/
theorem heap_upto {lo : Nat} {H : Hp} {a : Option Addr} {n cap k : Nat} {cs : List Value} (hs : Sl H a n cap cs) (hf : ∀ b, a = some ⟨b, 0, none⟩ → Fy H b cs) (hk : k ≤ n) :
    ∃ kd, (∀ (m : Nat) (S : Rg) (d : Option Tmp) (x y : Operand) (ty : TypeId) (p : String), evS S x = some (.slice a n cap) → evS S y = some (iv (k : Int)) → heapOp Try.prog lo (frS m S) H ⟨d, .slice 60 x none (some y) none, ty, p, #[], none⟩ = some (.val (.slice a k cap) H, kd)) ∧ ∀ b, kd = .read b → b < H.next := by
  obtain ⟨i, hi, hs1⟩ := in59s
  have hb : ∀ (m : Nat) (S : Rg) (y : Operand) (q : Nat), evS S y = some (iv (k : Int)) → boundOf (frS m S) q (some y) = some k := fun m S y q hy => by unfold boundOf; simp only [ev_frS, hy]
  have hb0 : ∀ (m : Nat) (S : Rg), boundOf (frS m S) 0 none = some 0 := fun _ _ => rfl
  rcases hs with ⟨rfl | rfl, rfl, rfl, rfl⟩ | ⟨b, rfl, hr, hc⟩
  · obtain rfl : k = 0 := by omega
    refine ⟨.pure, fun m S d x y ty p hx hy => ?_, fun b e => by cases e⟩
    unfold heapOp
    simp only [ev_frS, hx, u60', hi, hb m S y _ hy, hb0, Nat.beq_refl, Bool.and_self, cond_true]
  · obtain rfl : k = 0 := by omega
    refine ⟨.pure, fun m S d x y ty p hx hy => ?_, fun b e => by cases e⟩
    unfold heapOp
    simp only [ev_frS, hx, u60', hi, hb m S y _ hy, hb0, Nat.beq_refl, Bool.and_self, cond_true]
  · refine ⟨.read b, fun m S d x y ty p hx hy => ?_, fun b' e => by cases e; exact hr.lt⟩
    have had : ∀ c, (bif c then (⟨b, 0, none⟩ : Addr) else (⟨b, 0, none⟩ : Addr).add (0 * i.size)) = ⟨b, 0, none⟩ := fun c => by cases c <;> simp [Addr.add]
    obtain ⟨_, h2 | ⟨e, h2⟩ | h2⟩ := hf b rfl
    · unfold heapOp
      simp only [ev_frS, hx, u60', hi, hb m S y _ hy, hb0, h2, Nat.ble_eq_true_of_le (show k ≤ cap by omega), Nat.ble_eq_true_of_le (Nat.zero_le k), Bool.and_self, cond_true, had, Nat.sub_zero]
    · unfold heapOp
      simp only [ev_frS, hx, u60', hi, hb m S y _ hy, hb0, h2, Nat.ble_eq_true_of_le (show k ≤ cap by omega), Nat.ble_eq_true_of_le (Nat.zero_le k), Bool.and_self, cond_true, had, Nat.sub_zero]
    · unfold heapOp
      simp only [ev_frS, hx, u60', hi, hb m S y _ hy, hb0, h2, hs1, Nat.beq_refl, Nat.ble_eq_true_of_le hk, Nat.ble_eq_true_of_le (Nat.zero_le k), show Nat.beq 5 0 = false from rfl, Bool.not_false, Bool.or_true, Bool.and_self, cond_true, Nat.sub_zero]
      rfl
theorem giv_q {l : List Ou} {k : Nat} {x : Ou} (h : l[k]? = some x) : addQ (givQ l k) x.w = givQ l (k + 1) := by
  have e : l.getD k Ou.z = x := by rw [List.getD_eq_getElem?_getD, h]; rfl
  funext j
  show giv l j k + x.w j = giv l j k + (l.getD k Ou.z).w j
  rw [e]
theorem giv_in {l : List Ou} {i n : Int} (h : l.all (fun o => o.ok i n) = true) : ∀ k, k ≤ l.length → ∀ j, j < 4 → 0 ≤ giv l j k ∧ giv l j k ≤ 1000 * k
  | 0, _, _, _ => by show 0 ≤ (0 : Int) ∧ (0 : Int) ≤ 1000 * ((0 : Nat) : Int); omega
  | k + 1, hk, j, hj => by
    have := giv_in h k (by omega) j hj
    have hx := List.all_eq_true.1 h (l.getD k Ou.z) (by rw [List.getD_eq_getElem?_getD, List.getElem?_eq_getElem (by omega)]; exact List.getElem_mem _)
    have := (Ou.ok_t hx).2 j hj
    show 0 ≤ giv l j k + (l.getD k Ou.z).w j ∧ giv l j k + (l.getD k Ou.z).w j ≤ 1000 * ((k + 1 : Nat) : Int)
    omega
theorem Ou.w_in {l : List Ou} {i n : Int} (h : l.all (fun o => o.ok i n) = true) {k : Nat} {x : Ou} (hx : l[k]? = some x) : ∀ j, j < 4 → 0 ≤ x.w j ∧ x.w j ≤ 1000 := (Ou.ok_t (List.all_eq_true.1 h x (List.mem_of_getElem? hx))).2
def mss (rs : List Mc) : List (List Ou) := rs.map Mc.l
theorem mss_get {rs : List Mc} {i : Nat} {x : Mc} (h : rs[i]? = some x) : (mss rs).getD i [] = x.l := by
  rw [List.getD_eq_getElem?_getD]; simp [mss, h]
theorem pok_of {rs : List Mc} {n : Nat} (hl : rs.length = n) : pok (mss rs) = (decide (n ≤ 12) && (List.range n).all (fun i => mok ((mss rs).getD i []) i n)) := by
  unfold pok; simp [mss, hl]
theorem pok_fail {rs : List Mc} {n i : Nat} (hl : rs.length = n) (hi : i < n) (h : mok ((mss rs).getD i []) i n = false) : pok (mss rs) = false := by
  rw [pok_of hl, Bool.and_eq_false_iff]; right
  rw [List.all_eq_false]; exact ⟨i, List.mem_range.2 hi, by rw [h]; decide⟩
theorem pok_all {rs : List Mc} {n : Nat} (hl : rs.length = n) (h : ∀ i, i < n → mok ((mss rs).getD i []) i n = true) : pok (mss rs) = decide (n ≤ 12) := by
  rw [pok_of hl, List.all_eq_true.2 (fun i hi => h i (List.mem_range.1 hi)), Bool.and_true]
section
variable {kn : FuncId → Option Bool} {lo : Nat} {H : Hp}
/-- validOutlet -/
theorem voutlet_ok {o : Ou} {i n : Int} (hlo : lo ≤ H.next) : ∃ H', FnX Try.prog kn lo 92 [.agg (Ou.f o).toArray, iv i, iv n] H (.bool (o.ok i n)) H' ∧ Keep H H' [] := by
  have key := fnX_low (kn := kn) (lo := lo) (H := H) (args := [.agg (Ou.f o).toArray, iv i, iv n]) (Q := fun w H' => w = .bool (o.ok i n) ∧ Keep H H' []) Try.func92 B92 N92 Z92 L92 (by simp) ?_
  · obtain ⟨w, H', h, rfl, q⟩ := key; exact ⟨H', h, q⟩
  have hk := Keep.refl H []
  refine wN_seq ?_
  refine wN_box (v := .agg (Ou.f o).toArray) rfl ?_
  intro H1 kH1 nH1 c1
  have c1 : Cl H1 H.next [iv o.to, iv o.m, iv o.s, iv o.a, iv o.c] := c1
  have mH1 := kH1.1
  have hk := hk.trans kH1
  refine wN_mov (v := .bool false) rfl ?_
  refine wN_end ?_
  refine wN_seq ?_
  refine wN_addo (b := H.next) (o := 0) rfl ?_
  refine wN_ld (b := H.next) (o := 0) (v := iv o.to) rfl c1.rd rfl ?_
  refine wN_b_leq (a := -16) (b := o.to) rfl rfl ?_
  intro t1 g1; cases t1
  · have g1 : ¬ ((-16) ≤ o.to) := of_decide_eq_false g1
    refine wN_mov (v := .bool false) rfl ?_
    refine wN_gs rfl ?_
    refine wN_gs rfl ?_
    refine wN_gs rfl ?_
    refine wN_pur (v := .bool false) rfl rfl ?_
    refine wN_mov (v := .bool false) rfl ?_
    refine wN_end ?_
    refine wN_seq ?_
    refine wN_mov (v := iv i) rfl ?_
    refine wN_addo (b := H.next) (o := 0) rfl ?_
    refine wN_ld (b := H.next) (o := 0) (v := iv o.to) rfl c1.rd rfl ?_
    refine wN_b_lss (a := i) (b := o.to) rfl rfl ?_
    intro t2 g2; cases t2
    · have g2 : ¬ (i < o.to) := of_decide_eq_false g2
      refine wN_mov (v := .bool false) rfl ?_
      refine wN_gs rfl ?_
      refine wN_gs rfl ?_
      refine wN_gs rfl ?_
      refine wN_gs rfl ?_
      refine wN_pur (v := .bool false) rfl rfl ?_
      refine wN_mov (v := .bool false) rfl ?_
      refine wN_end ?_
      refine wN_seq ?_
      refine wN_mov (v := .bool false) rfl ?_
      refine wN_mov (v := .bool false) rfl ?_
      refine wN_g rfl (wN_mov (v := .bool false) rfl ?_)
      refine wN_pur (v := .bool false) rfl rfl ?_
      refine wN_mov (v := .bool false) rfl ?_
      refine wN_gs rfl ?_
      refine wN_gs rfl ?_
      refine wN_gs rfl ?_
      refine wN_pur (v := .bool false) rfl rfl ?_
      refine wN_mov (v := .bool false) rfl ?_
      refine wN_end ?_
      exact And.intro trivial (Exists.intro _ (And.intro rfl ⟨congrArg Value.bool (show false = (o.ok i n) from (by symm; unfold Ou.ok; first | (rw [hw, Bool.and_true, Bool.or_eq_true, Bool.and_eq_true, Bool.and_eq_true]; simp only [decide_eq_true_eq]; omega) | (rw [hw, Bool.and_false]) | (rw [Bool.and_eq_false_iff]; left; rw [Bool.or_eq_false_iff, Bool.and_eq_false_iff, Bool.and_eq_false_iff]; simp only [decide_eq_false_iff_not]; omega))), hk⟩))
    · have g2 : i < o.to := of_decide_eq_true g2
      refine wN_mov (v := .bool true) rfl ?_
      refine wN_g rfl (wN_addo (b := H.next) (o := 0) rfl ?_)
      refine wN_g rfl (wN_ld (b := H.next) (o := 0) (v := iv o.to) rfl c1.rd rfl ?_)
      refine wN_g rfl (wN_mov (v := iv n) rfl ?_)
      refine wN_g rfl (wN_b_lss (a := o.to) (b := n) rfl rfl ?_)
      intro t3 g3; cases t3
      · have g3 : ¬ (o.to < n) := of_decide_eq_false g3
        refine wN_pur (v := .bool false) rfl rfl ?_
        refine wN_mov (v := .bool false) rfl ?_
        refine wN_end ?_
        refine wN_seq ?_
        refine wN_mov (v := .bool false) rfl ?_
        refine wN_mov (v := .bool false) rfl ?_
        refine wN_g rfl (wN_mov (v := .bool false) rfl ?_)
        refine wN_pur (v := .bool false) rfl rfl ?_
        refine wN_mov (v := .bool false) rfl ?_
        refine wN_gs rfl ?_
        refine wN_gs rfl ?_
        refine wN_gs rfl ?_
        refine wN_pur (v := .bool false) rfl rfl ?_
        refine wN_mov (v := .bool false) rfl ?_
        refine wN_end ?_
        exact And.intro trivial (Exists.intro _ (And.intro rfl ⟨congrArg Value.bool (show false = (o.ok i n) from (by symm; unfold Ou.ok; first | (rw [hw, Bool.and_true, Bool.or_eq_true, Bool.and_eq_true, Bool.and_eq_true]; simp only [decide_eq_true_eq]; omega) | (rw [hw, Bool.and_false]) | (rw [Bool.and_eq_false_iff]; left; rw [Bool.or_eq_false_iff, Bool.and_eq_false_iff, Bool.and_eq_false_iff]; simp only [decide_eq_false_iff_not]; omega))), hk⟩))
      · have g3 : o.to < n := of_decide_eq_true g3
        refine wN_pur (v := .bool true) rfl rfl ?_
        refine wN_mov (v := .bool true) rfl ?_
        refine wN_end ?_
        refine wN_seq ?_
        refine wN_mov (v := .bool false) rfl ?_
        refine wN_mov (v := .bool false) rfl ?_
        refine wN_g rfl (wN_mov (v := .bool true) rfl ?_)
        refine wN_pur (v := .bool true) rfl rfl ?_
        refine wN_mov (v := .bool true) rfl ?_
        refine wN_g rfl (wN_lda (b := H.next) (o := 0) rfl c1.rd (show row 5 _ _ = some [iv o.to, iv o.m, iv o.s, iv o.a, iv o.c] from rfl) ?_)
        obtain ⟨H2, fH2, kH2⟩ := thou_ok (kn := kn) (lo := lo) (H := H1) (o := o) (by omega)
        refine wN_g rfl (wN_callf (vs := [.agg (Ou.f o).toArray]) rfl (callX_args fH2) ?_)
        have mH2 := kH2.1
        have hk := hk.trans kH2
        have c1 := kH2.cl c1 (by simp)
        refine wN_g rfl (wN_callB rfl (within_ok (p := o.w) (m := 1000)) ?_)
        intro tH3 H3 hH3 kH3
        have mH3 := kH3.1
        have hk := hk.trans kH3
        have c1 := kH3.cl c1 (by simp)
        cases tH3
        · have hw : wiQ o.w 1000 = false := hH3
          refine wN_pur (v := .bool false) rfl rfl ?_
          refine wN_mov (v := .bool false) rfl ?_
          refine wN_end ?_
          exact And.intro trivial (Exists.intro _ (And.intro rfl ⟨congrArg Value.bool (show false = (o.ok i n) from (by symm; unfold Ou.ok; first | (rw [hw, Bool.and_true, Bool.or_eq_true, Bool.and_eq_true, Bool.and_eq_true]; simp only [decide_eq_true_eq]; omega) | (rw [hw, Bool.and_false]) | (rw [Bool.and_eq_false_iff]; left; rw [Bool.or_eq_false_iff, Bool.and_eq_false_iff, Bool.and_eq_false_iff]; simp only [decide_eq_false_iff_not]; omega))), hk⟩))
        · have hw : wiQ o.w 1000 = true := hH3
          refine wN_pur (v := .bool true) rfl rfl ?_
          refine wN_mov (v := .bool true) rfl ?_
          refine wN_end ?_
          exact And.intro trivial (Exists.intro _ (And.intro rfl ⟨congrArg Value.bool (show true = (o.ok i n) from (by symm; unfold Ou.ok; first | (rw [hw, Bool.and_true, Bool.or_eq_true, Bool.and_eq_true, Bool.and_eq_true]; simp only [decide_eq_true_eq]; omega) | (rw [hw, Bool.and_false]) | (rw [Bool.and_eq_false_iff]; left; rw [Bool.or_eq_false_iff, Bool.and_eq_false_iff, Bool.and_eq_false_iff]; simp only [decide_eq_false_iff_not]; omega))), hk⟩))
  · have g1 : (-16) ≤ o.to := of_decide_eq_true g1
    refine wN_mov (v := .bool true) rfl ?_
    refine wN_g rfl (wN_addo (b := H.next) (o := 0) rfl ?_)
    refine wN_g rfl (wN_ld (b := H.next) (o := 0) (v := iv o.to) rfl c1.rd rfl ?_)
    refine wN_g rfl (wN_b_lss (a := o.to) (b := 0) rfl rfl ?_)
    intro t4 g4; cases t4
    · have g4 : ¬ (o.to < 0) := of_decide_eq_false g4
      refine wN_pur (v := .bool false) rfl rfl ?_
      refine wN_mov (v := .bool false) rfl ?_
      refine wN_end ?_
      refine wN_seq ?_
      refine wN_mov (v := iv i) rfl ?_
      refine wN_addo (b := H.next) (o := 0) rfl ?_
      refine wN_ld (b := H.next) (o := 0) (v := iv o.to) rfl c1.rd rfl ?_
      refine wN_b_lss (a := i) (b := o.to) rfl rfl ?_
      intro t5 g5; cases t5
      · have g5 : ¬ (i < o.to) := of_decide_eq_false g5
        refine wN_mov (v := .bool false) rfl ?_
        refine wN_gs rfl ?_
        refine wN_gs rfl ?_
        refine wN_gs rfl ?_
        refine wN_gs rfl ?_
        refine wN_pur (v := .bool false) rfl rfl ?_
        refine wN_mov (v := .bool false) rfl ?_
        refine wN_end ?_
        refine wN_seq ?_
        refine wN_mov (v := .bool false) rfl ?_
        refine wN_mov (v := .bool false) rfl ?_
        refine wN_g rfl (wN_mov (v := .bool false) rfl ?_)
        refine wN_pur (v := .bool false) rfl rfl ?_
        refine wN_mov (v := .bool false) rfl ?_
        refine wN_gs rfl ?_
        refine wN_gs rfl ?_
        refine wN_gs rfl ?_
        refine wN_pur (v := .bool false) rfl rfl ?_
        refine wN_mov (v := .bool false) rfl ?_
        refine wN_end ?_
        exact And.intro trivial (Exists.intro _ (And.intro rfl ⟨congrArg Value.bool (show false = (o.ok i n) from (by symm; unfold Ou.ok; first | (rw [hw, Bool.and_true, Bool.or_eq_true, Bool.and_eq_true, Bool.and_eq_true]; simp only [decide_eq_true_eq]; omega) | (rw [hw, Bool.and_false]) | (rw [Bool.and_eq_false_iff]; left; rw [Bool.or_eq_false_iff, Bool.and_eq_false_iff, Bool.and_eq_false_iff]; simp only [decide_eq_false_iff_not]; omega))), hk⟩))
      · have g5 : i < o.to := of_decide_eq_true g5
        refine wN_mov (v := .bool true) rfl ?_
        refine wN_g rfl (wN_addo (b := H.next) (o := 0) rfl ?_)
        refine wN_g rfl (wN_ld (b := H.next) (o := 0) (v := iv o.to) rfl c1.rd rfl ?_)
        refine wN_g rfl (wN_mov (v := iv n) rfl ?_)
        refine wN_g rfl (wN_b_lss (a := o.to) (b := n) rfl rfl ?_)
        intro t6 g6; cases t6
        · have g6 : ¬ (o.to < n) := of_decide_eq_false g6
          refine wN_pur (v := .bool false) rfl rfl ?_
          refine wN_mov (v := .bool false) rfl ?_
          refine wN_end ?_
          refine wN_seq ?_
          refine wN_mov (v := .bool false) rfl ?_
          refine wN_mov (v := .bool false) rfl ?_
          refine wN_g rfl (wN_mov (v := .bool false) rfl ?_)
          refine wN_pur (v := .bool false) rfl rfl ?_
          refine wN_mov (v := .bool false) rfl ?_
          refine wN_gs rfl ?_
          refine wN_gs rfl ?_
          refine wN_gs rfl ?_
          refine wN_pur (v := .bool false) rfl rfl ?_
          refine wN_mov (v := .bool false) rfl ?_
          refine wN_end ?_
          exact And.intro trivial (Exists.intro _ (And.intro rfl ⟨congrArg Value.bool (show false = (o.ok i n) from (by symm; unfold Ou.ok; first | (rw [hw, Bool.and_true, Bool.or_eq_true, Bool.and_eq_true, Bool.and_eq_true]; simp only [decide_eq_true_eq]; omega) | (rw [hw, Bool.and_false]) | (rw [Bool.and_eq_false_iff]; left; rw [Bool.or_eq_false_iff, Bool.and_eq_false_iff, Bool.and_eq_false_iff]; simp only [decide_eq_false_iff_not]; omega))), hk⟩))
        · have g6 : o.to < n := of_decide_eq_true g6
          refine wN_pur (v := .bool true) rfl rfl ?_
          refine wN_mov (v := .bool true) rfl ?_
          refine wN_end ?_
          refine wN_seq ?_
          refine wN_mov (v := .bool false) rfl ?_
          refine wN_mov (v := .bool false) rfl ?_
          refine wN_g rfl (wN_mov (v := .bool true) rfl ?_)
          refine wN_pur (v := .bool true) rfl rfl ?_
          refine wN_mov (v := .bool true) rfl ?_
          refine wN_g rfl (wN_lda (b := H.next) (o := 0) rfl c1.rd (show row 5 _ _ = some [iv o.to, iv o.m, iv o.s, iv o.a, iv o.c] from rfl) ?_)
          obtain ⟨H4, fH4, kH4⟩ := thou_ok (kn := kn) (lo := lo) (H := H1) (o := o) (by omega)
          refine wN_g rfl (wN_callf (vs := [.agg (Ou.f o).toArray]) rfl (callX_args fH4) ?_)
          have mH4 := kH4.1
          have hk := hk.trans kH4
          have c1 := kH4.cl c1 (by simp)
          refine wN_g rfl (wN_callB rfl (within_ok (p := o.w) (m := 1000)) ?_)
          intro tH5 H5 hH5 kH5
          have mH5 := kH5.1
          have hk := hk.trans kH5
          have c1 := kH5.cl c1 (by simp)
          cases tH5
          · have hw : wiQ o.w 1000 = false := hH5
            refine wN_pur (v := .bool false) rfl rfl ?_
            refine wN_mov (v := .bool false) rfl ?_
            refine wN_end ?_
            exact And.intro trivial (Exists.intro _ (And.intro rfl ⟨congrArg Value.bool (show false = (o.ok i n) from (by symm; unfold Ou.ok; first | (rw [hw, Bool.and_true, Bool.or_eq_true, Bool.and_eq_true, Bool.and_eq_true]; simp only [decide_eq_true_eq]; omega) | (rw [hw, Bool.and_false]) | (rw [Bool.and_eq_false_iff]; left; rw [Bool.or_eq_false_iff, Bool.and_eq_false_iff, Bool.and_eq_false_iff]; simp only [decide_eq_false_iff_not]; omega))), hk⟩))
          · have hw : wiQ o.w 1000 = true := hH5
            refine wN_pur (v := .bool true) rfl rfl ?_
            refine wN_mov (v := .bool true) rfl ?_
            refine wN_end ?_
            exact And.intro trivial (Exists.intro _ (And.intro rfl ⟨congrArg Value.bool (show true = (o.ok i n) from (by symm; unfold Ou.ok; first | (rw [hw, Bool.and_true, Bool.or_eq_true, Bool.and_eq_true, Bool.and_eq_true]; simp only [decide_eq_true_eq]; omega) | (rw [hw, Bool.and_false]) | (rw [Bool.and_eq_false_iff]; left; rw [Bool.or_eq_false_iff, Bool.and_eq_false_iff, Bool.and_eq_false_iff]; simp only [decide_eq_false_iff_not]; omega))), hk⟩))
    · have g4 : o.to < 0 := of_decide_eq_true g4
      refine wN_pur (v := .bool true) rfl rfl ?_
      refine wN_mov (v := .bool true) rfl ?_
      refine wN_end ?_
      refine wN_seq ?_
      refine wN_mov (v := iv i) rfl ?_
      refine wN_addo (b := H.next) (o := 0) rfl ?_
      refine wN_ld (b := H.next) (o := 0) (v := iv o.to) rfl c1.rd rfl ?_
      refine wN_b_lss (a := i) (b := o.to) rfl rfl ?_
      intro t7 g7; cases t7
      · have g7 : ¬ (i < o.to) := of_decide_eq_false g7
        refine wN_mov (v := .bool false) rfl ?_
        refine wN_gs rfl ?_
        refine wN_gs rfl ?_
        refine wN_gs rfl ?_
        refine wN_gs rfl ?_
        refine wN_pur (v := .bool false) rfl rfl ?_
        refine wN_mov (v := .bool false) rfl ?_
        refine wN_end ?_
        refine wN_seq ?_
        refine wN_mov (v := .bool true) rfl ?_
        refine wN_mov (v := .bool true) rfl ?_
        refine wN_gs rfl ?_
        refine wN_pur (v := .bool true) rfl rfl ?_
        refine wN_mov (v := .bool true) rfl ?_
        refine wN_g rfl (wN_lda (b := H.next) (o := 0) rfl c1.rd (show row 5 _ _ = some [iv o.to, iv o.m, iv o.s, iv o.a, iv o.c] from rfl) ?_)
        obtain ⟨H6, fH6, kH6⟩ := thou_ok (kn := kn) (lo := lo) (H := H1) (o := o) (by omega)
        refine wN_g rfl (wN_callf (vs := [.agg (Ou.f o).toArray]) rfl (callX_args fH6) ?_)
        have mH6 := kH6.1
        have hk := hk.trans kH6
        have c1 := kH6.cl c1 (by simp)
        refine wN_g rfl (wN_callB rfl (within_ok (p := o.w) (m := 1000)) ?_)
        intro tH7 H7 hH7 kH7
        have mH7 := kH7.1
        have hk := hk.trans kH7
        have c1 := kH7.cl c1 (by simp)
        cases tH7
        · have hw : wiQ o.w 1000 = false := hH7
          refine wN_pur (v := .bool false) rfl rfl ?_
          refine wN_mov (v := .bool false) rfl ?_
          refine wN_end ?_
          exact And.intro trivial (Exists.intro _ (And.intro rfl ⟨congrArg Value.bool (show false = (o.ok i n) from (by symm; unfold Ou.ok; first | (rw [hw, Bool.and_true, Bool.or_eq_true, Bool.and_eq_true, Bool.and_eq_true]; simp only [decide_eq_true_eq]; omega) | (rw [hw, Bool.and_false]) | (rw [Bool.and_eq_false_iff]; left; rw [Bool.or_eq_false_iff, Bool.and_eq_false_iff, Bool.and_eq_false_iff]; simp only [decide_eq_false_iff_not]; omega))), hk⟩))
        · have hw : wiQ o.w 1000 = true := hH7
          refine wN_pur (v := .bool true) rfl rfl ?_
          refine wN_mov (v := .bool true) rfl ?_
          refine wN_end ?_
          exact And.intro trivial (Exists.intro _ (And.intro rfl ⟨congrArg Value.bool (show true = (o.ok i n) from (by symm; unfold Ou.ok; first | (rw [hw, Bool.and_true, Bool.or_eq_true, Bool.and_eq_true, Bool.and_eq_true]; simp only [decide_eq_true_eq]; omega) | (rw [hw, Bool.and_false]) | (rw [Bool.and_eq_false_iff]; left; rw [Bool.or_eq_false_iff, Bool.and_eq_false_iff, Bool.and_eq_false_iff]; simp only [decide_eq_false_iff_not]; omega))), hk⟩))
      · have g7 : i < o.to := of_decide_eq_true g7
        refine wN_mov (v := .bool true) rfl ?_
        refine wN_g rfl (wN_addo (b := H.next) (o := 0) rfl ?_)
        refine wN_g rfl (wN_ld (b := H.next) (o := 0) (v := iv o.to) rfl c1.rd rfl ?_)
        refine wN_g rfl (wN_mov (v := iv n) rfl ?_)
        refine wN_g rfl (wN_b_lss (a := o.to) (b := n) rfl rfl ?_)
        intro t8 g8; cases t8
        · have g8 : ¬ (o.to < n) := of_decide_eq_false g8
          refine wN_pur (v := .bool false) rfl rfl ?_
          refine wN_mov (v := .bool false) rfl ?_
          refine wN_end ?_
          refine wN_seq ?_
          refine wN_mov (v := .bool true) rfl ?_
          refine wN_mov (v := .bool true) rfl ?_
          refine wN_gs rfl ?_
          refine wN_pur (v := .bool true) rfl rfl ?_
          refine wN_mov (v := .bool true) rfl ?_
          refine wN_g rfl (wN_lda (b := H.next) (o := 0) rfl c1.rd (show row 5 _ _ = some [iv o.to, iv o.m, iv o.s, iv o.a, iv o.c] from rfl) ?_)
          obtain ⟨H8, fH8, kH8⟩ := thou_ok (kn := kn) (lo := lo) (H := H1) (o := o) (by omega)
          refine wN_g rfl (wN_callf (vs := [.agg (Ou.f o).toArray]) rfl (callX_args fH8) ?_)
          have mH8 := kH8.1
          have hk := hk.trans kH8
          have c1 := kH8.cl c1 (by simp)
          refine wN_g rfl (wN_callB rfl (within_ok (p := o.w) (m := 1000)) ?_)
          intro tH9 H9 hH9 kH9
          have mH9 := kH9.1
          have hk := hk.trans kH9
          have c1 := kH9.cl c1 (by simp)
          cases tH9
          · have hw : wiQ o.w 1000 = false := hH9
            refine wN_pur (v := .bool false) rfl rfl ?_
            refine wN_mov (v := .bool false) rfl ?_
            refine wN_end ?_
            exact And.intro trivial (Exists.intro _ (And.intro rfl ⟨congrArg Value.bool (show false = (o.ok i n) from (by symm; unfold Ou.ok; first | (rw [hw, Bool.and_true, Bool.or_eq_true, Bool.and_eq_true, Bool.and_eq_true]; simp only [decide_eq_true_eq]; omega) | (rw [hw, Bool.and_false]) | (rw [Bool.and_eq_false_iff]; left; rw [Bool.or_eq_false_iff, Bool.and_eq_false_iff, Bool.and_eq_false_iff]; simp only [decide_eq_false_iff_not]; omega))), hk⟩))
          · have hw : wiQ o.w 1000 = true := hH9
            refine wN_pur (v := .bool true) rfl rfl ?_
            refine wN_mov (v := .bool true) rfl ?_
            refine wN_end ?_
            exact And.intro trivial (Exists.intro _ (And.intro rfl ⟨congrArg Value.bool (show true = (o.ok i n) from (by symm; unfold Ou.ok; first | (rw [hw, Bool.and_true, Bool.or_eq_true, Bool.and_eq_true, Bool.and_eq_true]; simp only [decide_eq_true_eq]; omega) | (rw [hw, Bool.and_false]) | (rw [Bool.and_eq_false_iff]; left; rw [Bool.or_eq_false_iff, Bool.and_eq_false_iff, Bool.and_eq_false_iff]; simp only [decide_eq_false_iff_not]; omega))), hk⟩))
        · have g8 : o.to < n := of_decide_eq_true g8
          refine wN_pur (v := .bool true) rfl rfl ?_
          refine wN_mov (v := .bool true) rfl ?_
          refine wN_end ?_
          refine wN_seq ?_
          refine wN_mov (v := .bool true) rfl ?_
          refine wN_mov (v := .bool true) rfl ?_
          refine wN_gs rfl ?_
          refine wN_pur (v := .bool true) rfl rfl ?_
          refine wN_mov (v := .bool true) rfl ?_
          refine wN_g rfl (wN_lda (b := H.next) (o := 0) rfl c1.rd (show row 5 _ _ = some [iv o.to, iv o.m, iv o.s, iv o.a, iv o.c] from rfl) ?_)
          obtain ⟨H10, fH10, kH10⟩ := thou_ok (kn := kn) (lo := lo) (H := H1) (o := o) (by omega)
          refine wN_g rfl (wN_callf (vs := [.agg (Ou.f o).toArray]) rfl (callX_args fH10) ?_)
          have mH10 := kH10.1
          have hk := hk.trans kH10
          have c1 := kH10.cl c1 (by simp)
          refine wN_g rfl (wN_callB rfl (within_ok (p := o.w) (m := 1000)) ?_)
          intro tH11 H11 hH11 kH11
          have mH11 := kH11.1
          have hk := hk.trans kH11
          have c1 := kH11.cl c1 (by simp)
          cases tH11
          · have hw : wiQ o.w 1000 = false := hH11
            refine wN_pur (v := .bool false) rfl rfl ?_
            refine wN_mov (v := .bool false) rfl ?_
            refine wN_end ?_
            exact And.intro trivial (Exists.intro _ (And.intro rfl ⟨congrArg Value.bool (show false = (o.ok i n) from (by symm; unfold Ou.ok; first | (rw [hw, Bool.and_true, Bool.or_eq_true, Bool.and_eq_true, Bool.and_eq_true]; simp only [decide_eq_true_eq]; omega) | (rw [hw, Bool.and_false]) | (rw [Bool.and_eq_false_iff]; left; rw [Bool.or_eq_false_iff, Bool.and_eq_false_iff, Bool.and_eq_false_iff]; simp only [decide_eq_false_iff_not]; omega))), hk⟩))
          · have hw : wiQ o.w 1000 = true := hH11
            refine wN_pur (v := .bool true) rfl rfl ?_
            refine wN_mov (v := .bool true) rfl ?_
            refine wN_end ?_
            exact And.intro trivial (Exists.intro _ (And.intro rfl ⟨congrArg Value.bool (show true = (o.ok i n) from (by symm; unfold Ou.ok; first | (rw [hw, Bool.and_true, Bool.or_eq_true, Bool.and_eq_true, Bool.and_eq_true]; simp only [decide_eq_true_eq]; omega) | (rw [hw, Bool.and_false]) | (rw [Bool.and_eq_false_iff]; left; rw [Bool.or_eq_false_iff, Bool.and_eq_false_iff, Bool.and_eq_false_iff]; simp only [decide_eq_false_iff_not]; omega))), hk⟩))
/-- validMachine's closure -/
theorem clos91_ok {o : Ou} {k i n : Int} {bi bn : Nat} (hlo : lo ≤ H.next) (ri : Rd H bi [iv i]) (rn : Rd H bn [iv n]) : ∃ H', FnX Try.prog kn lo 91 [iv k, .agg (Ou.f o).toArray, pt bi, pt bn] H (.bool (o.ok i n)) H' ∧ Keep H H' [] := by
  have key := fnX_low (kn := kn) (lo := lo) (H := H) (args := [iv k, .agg (Ou.f o).toArray, pt bi, pt bn]) (Q := fun w H' => w = .bool (o.ok i n) ∧ Keep H H' []) Try.func91 B91 N91 Z91 L91 (by simp) ?_
  · obtain ⟨w, H', h, rfl, q⟩ := key; exact ⟨H', h, q⟩
  have hk := Keep.refl H []
  refine wN_seq ?_
  refine wN_box (v := .agg (Ou.f o).toArray) rfl ?_
  intro H1 kH1 nH1 c1
  have c1 : Cl H1 H.next [iv o.to, iv o.m, iv o.s, iv o.a, iv o.c] := c1
  have mH1 := kH1.1
  have hk := hk.trans kH1
  have ri := kH1.rd ri (by simp)
  have rn := kH1.rd rn (by simp)
  refine wN_mov (v := .bool false) rfl ?_
  refine wN_end ?_
  refine wN_seq ?_
  refine wN_lda (b := H.next) (o := 0) rfl c1.rd (show row 5 _ _ = some [iv o.to, iv o.m, iv o.s, iv o.a, iv o.c] from rfl) ?_
  refine wN_ld (b := bi) (o := 0) (v := iv i) rfl ri rfl ?_
  refine wN_ld (b := bn) (o := 0) (v := iv n) rfl rn rfl ?_
  obtain ⟨H2, fH2, kH2⟩ := voutlet_ok (kn := kn) (lo := lo) (H := H1) (o := o) (i := i) (n := n) (by omega)
  refine wN_callf (vs := [.agg (Ou.f o).toArray, iv i, iv n]) rfl (callX_args fH2) ?_
  have mH2 := kH2.1
  have hk := hk.trans kH2
  have ri := kH2.rd ri (by simp)
  have rn := kH2.rd rn (by simp)
  have c1 := kH2.cl c1 (by simp)
  refine wN_mov (v := .bool (o.ok i n)) rfl ?_
  refine wN_end ?_
  exact And.intro trivial (Exists.intro _ (And.intro rfl ⟨rfl, hk⟩))
/-- isList of outlets -/
theorem list90_ok {sa : Option Addr} {n cap : Nat} {us : List Ou} {mi mn : Int} {bi bn : Nat} (ri : Rd H bi [iv mi]) (rn : Rd H bn [iv mn]) (hs : Sl H sa n cap (ouc us)) (hl : us.length = n) (hn2 : n ≤ 1000000) (hlo : lo ≤ H.next) :
    ∃ H', FnX Try.prog kn lo 90 [.slice sa n cap, iv 1, iv 4, .func (.func 91) #[] #[pt bi, pt bn]] H (.bool (decide (1 ≤ n) && decide (n ≤ 4) && us.all (fun o => Ou.ok o mi mn))) H' ∧ Keep H H' [] := by
  have key := fnX_low (kn := kn) (lo := lo) (H := H) (args := [.slice sa n cap, iv 1, iv 4, .func (.func 91) #[] #[pt bi, pt bn]]) (Q := fun w H' => w = .bool (decide (1 ≤ n) && decide (n ≤ 4) && us.all (fun o => Ou.ok o mi mn)) ∧ Keep H H' []) Try.func90 B90 N90 Z90 L90 (by simp) ?_
  · obtain ⟨w, H', h, rfl, q⟩ := key; exact ⟨H', h, q⟩
  have hk := Keep.refl H []
  have fs := hs.old
  have l_ri := ri.lt
  have l_rn := rn.lt
  refine wN_seq ?_
  refine wN_mov (v := .bool false) rfl ?_
  refine wN_end ?_
  refine wN_seq ?_
  refine wN_mov (v := .slice sa n cap) rfl ?_
  refine wN_len (m := n) rfl ?_
  refine wN_mov (v := iv 1) rfl ?_
  refine wN_b_lss (a := (n : Int)) (b := 1) rfl rfl ?_
  intro t1 g1; cases t1
  · have g1 : ¬ ((n : Int) < 1) := of_decide_eq_false g1
    refine wN_mov (v := .bool false) rfl ?_
    refine wN_g rfl (wN_mov (v := .slice sa n cap) rfl ?_)
    refine wN_g rfl (wN_len (m := n) rfl ?_)
    refine wN_g rfl (wN_mov (v := iv 4) rfl ?_)
    refine wN_g rfl (wN_b_gtr (a := (n : Int)) (b := 4) rfl rfl ?_)
    intro t2 g2; cases t2
    · have g2 : ¬ ((n : Int) > 4) := of_decide_eq_false g2
      refine wN_pur (v := .bool false) rfl rfl ?_
      refine wN_end ?_
      refine condF ?_
      first | refine wN_skip ?_ | skip
      refine wN_seq ?_
      refine wN_mov (v := .slice sa n cap) rfl ?_
      refine wN_len (m := n) rfl ?_
      refine wN_mov (v := iv 0) rfl ?_
      refine wN_end ?_
      refine loop_low (fn := Try.f90) E90_1 N90 L90x1 (fun i : Nat => [(3, .func (.func 91) #[] #[pt bi, pt bn]), (21, .slice sa n cap), (22, iv (n : Int)), (23, iv (i : Int))])
        (fun k i H' => i + k = n ∧ Keep H H' [] ∧ Sl H' sa n cap (ouc us) ∧ (us.take i).all (fun o => Ou.ok o mi mn) = true ∧ Rd H' bi [iv mi] ∧ Rd H' bn [iv mn]) n 0 ⟨by omega, hk, hs, rfl, ri, rn⟩ ⟨rfl, rfl, rfl, rfl, trivial⟩ ?_
      rintro k i L1 ⟨hik, hk, hs, hall, ri, rn⟩
      have mki := hk.1
      have fs := hs.old
      have l_ri := ri.lt
      have l_rn := rn.lt
      refine wN_seq ?_
      refine wN_c_lss (a := (i : Int)) (b := (n : Int)) rfl rfl ?_
      refine wN_end ?_
      refine And.intro (fun q3 => ?_) (fun q3 => ?_)
      · have q3 : (i : Int) < (n : Int) := of_decide_eq_true q3
        have hi : i < n := by omega
        obtain ⟨x, hx⟩ := get_some (l := us) (i := i) (by omega)
        have hst := all_step (f := (fun o => Ou.ok o mi mn)) hx
        rcases id hs with ⟨_, h0, _⟩ | ⟨sb, esb, hsd, _⟩
        · omega
        have lsb := hsd.lt
        first | refine wN_skip ?_ | skip
        refine wN_seq ?_
        refine wN_mov (v := iv (i : Int)) rfl ?_
        refine wN_idx (b := sb) (o := 0) (k := i) (j := (i : Int)) (by rw [← esb]; rfl) rfl rfl hi ?_
        refine wN_lda (b := sb) (o := 0 + i * 5) rfl hsd (ouc_row hx) ?_
        refine wN_alc ?_
        intro H1 kH1 nH1 c1
        have c1 : Cl H1 L1.next [iv 0, iv 0, iv 0, iv 0, iv 0] := c1
        have mH1 := kH1.1
        have hk := hk.trans kH1
        have hs := kH1.sl0 hs
        have ri := kH1.rd ri (by simp)
        have rn := kH1.rd rn (by simp)
        have hsd := kH1.rd hsd (by simp)
        refine wN_mov (v := iv (i : Int)) rfl ?_
        refine wN_sta (b := L1.next) (o := 0) rfl rfl c1 (by omega) rfl rfl (by simp) ?_
        intro H2 kH2 nH2 sH2
        have mH2 := kH2.1
        have hk := hk.new kH2 (fun b hb => by simp at hb ⊢; omega)
        have hs := kH2.sl hs (fun b e => by have := fs b e; first | (simp; done) | (simp; omega))
        have ri := kH2.rd ri (by first | (simp; done) | (simp; omega))
        have rn := kH2.rd rn (by first | (simp; done) | (simp; omega))
        have hsd := kH2.rd hsd (by first | (simp; done) | (simp; omega))
        have c1 : Cl H2 L1.next [iv x.to, iv x.m, iv x.s, iv x.a, iv x.c] := sH2
        refine wN_end ?_
        refine wN_seq ?_
        refine wN_mov (v := .func (.func 91) #[] #[pt bi, pt bn]) rfl ?_
        refine wN_mov (v := iv (i : Int)) rfl ?_
        refine wN_lda (b := L1.next) (o := 0) rfl c1.rd (show row 5 _ _ = some [iv x.to, iv x.m, iv x.s, iv x.a, iv x.c] from rfl) ?_
        obtain ⟨H3, fH3, kH3⟩ := clos91_ok (kn := kn) (lo := lo) (H := H2) (o := x) (k := (i : Int)) (i := mi) (n := mn) (by omega) ri rn
        have mH3 := kH3.1
        have hk := hk.trans kH3
        have hs := kH3.sl0 hs
        have ri := kH3.rd ri (by simp)
        have rn := kH3.rd rn (by simp)
        have hsd := kH3.rd hsd (by simp)
        have c1 := kH3.cl c1 (by simp)
        cases hb : (fun o => Ou.ok o mi mn) x
        · rw [show Ou.ok x mi mn = false from hb] at fH3
          refine wN_callf (vs := [iv (i : Int), .agg (Ou.f x).toArray]) rfl (callX_func rfl (by simpa using fH3)) ?_
          refine wN_pur (v := .bool true) rfl rfl ?_
          refine wN_end ?_
          refine condT ?_
          refine wN_seq ?_
          refine wN_mov (v := .bool false) rfl ?_
          refine wN_end ?_
          exact And.intro trivial (Exists.intro _ (And.intro rfl ⟨congrArg Value.bool (show false = (decide (1 ≤ n) && decide (n ≤ 4) && us.all (fun o => Ou.ok o mi mn)) from (by symm; rw [all_fail hx hb]; simp)), hk⟩))
        · rw [show Ou.ok x mi mn = true from hb] at fH3
          refine wN_callf (vs := [iv (i : Int), .agg (Ou.f x).toArray]) rfl (callX_func rfl (by simpa using fH3)) ?_
          refine wN_pur (v := .bool false) rfl rfl ?_
          refine wN_end ?_
          refine condF ?_
          first | refine wN_skip ?_ | skip
          first | refine wN_reg ?_ | refine wN_blk ?_ | refine wN_bseq ?_ | (refine wOps_nil ?_; refine wN_reg ?_)
          refine wN_add (a := (i : Int)) (b := 1) rfl rfl ⟨by omega, by omega⟩ ?_
          refine wN_mov (v := iv ((i : Int) + 1)) rfl ?_
          refine wN_end ?_
          exact ⟨k - 1, i + 1, by omega, ⟨by omega, hk, hs, by rw [hst, hall, Bool.true_and]; exact hb, ri, rn⟩, rfl, rfl, rfl, rfl, trivial⟩
      · have q3 : ¬ ((i : Int) < (n : Int)) := of_decide_eq_false q3
        refine wN_seq ?_
        refine wN_mov (v := .bool true) rfl ?_
        refine wN_end ?_
        exact And.intro trivial (Exists.intro _ (And.intro rfl ⟨congrArg Value.bool (show true = (decide (1 ≤ n) && decide (n ≤ 4) && us.all (fun o => Ou.ok o mi mn)) from (by symm; rw [List.take_of_length_le (by omega)] at hall; rw [hall, decide_eq_true (by omega), decide_eq_true (by omega)]; rfl)), hk⟩))
    · have g2 : (n : Int) > 4 := of_decide_eq_true g2
      refine wN_pur (v := .bool true) rfl rfl ?_
      refine wN_end ?_
      refine condT ?_
      refine wN_seq ?_
      refine wN_mov (v := .bool false) rfl ?_
      refine wN_end ?_
      exact And.intro trivial (Exists.intro _ (And.intro rfl ⟨congrArg Value.bool (show false = (decide (1 ≤ n) && decide (n ≤ 4) && us.all (fun o => Ou.ok o mi mn)) from (by symm; simp; omega)), hk⟩))
  · have g1 : (n : Int) < 1 := of_decide_eq_true g1
    refine wN_mov (v := .bool true) rfl ?_
    refine wN_gs rfl ?_
    refine wN_gs rfl ?_
    refine wN_gs rfl ?_
    refine wN_gs rfl ?_
    refine wN_pur (v := .bool true) rfl rfl ?_
    refine wN_end ?_
    refine condT ?_
    refine wN_seq ?_
    refine wN_mov (v := .bool false) rfl ?_
    refine wN_end ?_
    exact And.intro trivial (Exists.intro _ (And.intro rfl ⟨congrArg Value.bool (show false = (decide (1 ≤ n) && decide (n ≤ 4) && us.all (fun o => Ou.ok o mi mn)) from (by symm; simp; omega)), hk⟩))
/-- validMachine -/
theorem vmachine_ok {x : Mc} {i m : Nat} (hs : Sl H x.ra x.n x.cap (ouc x.l)) (hl : x.l.length = x.n) (hf : ∀ b, x.ra = some ⟨b, 0, none⟩ → Fy H b (ouc x.l)) (hn2 : x.n ≤ 1000000) (hlo : lo ≤ H.next) : ∃ H', FnX Try.prog kn lo 65 [.agg (Mc.f x).toArray, iv (i : Int), iv (m : Int)] H (.bool (mok x.l i m)) H' ∧ Keep H H' [] := by
  have key := fnX_low (kn := kn) (lo := lo) (H := H) (args := [.agg (Mc.f x).toArray, iv (i : Int), iv (m : Int)]) (Q := fun w H' => w = .bool (mok x.l i m) ∧ Keep H H' []) Try.func65 B65 N65 Z65 L65 (by simp) ?_
  · obtain ⟨w, H', h, rfl, q⟩ := key; exact ⟨H', h, q⟩
  have hk := Keep.refl H []
  have fs : ∀ b, x.ra = some ⟨b, 0, none⟩ → b < H.next := hs.old
  refine wN_seq ?_
  refine wN_box (v := .agg (Mc.f x).toArray) rfl ?_
  intro H1 kH1 nH1 c1
  have c1 : Cl H1 H.next [.slice x.ra x.n x.cap] := c1
  have mH1 := kH1.1
  have hk := hk.trans kH1
  have hs := kH1.sl0 hs
  have hf := fun b e => kH1.fy (hf b e) (by simp)
  refine wN_box (v := iv (i : Int)) rfl ?_
  intro H2 kH2 nH2 c2
  have c2 : Cl H2 H1.next [iv (i : Int)] := c2
  have mH2 := kH2.1
  have hk := hk.trans kH2
  have hs := kH2.sl0 hs
  have hf := fun b e => kH2.fy (hf b e) (by simp)
  have c1 := kH2.cl c1 (by simp)
  refine wN_box (v := iv (m : Int)) rfl ?_
  intro H3 kH3 nH3 c3
  have c3 : Cl H3 H2.next [iv (m : Int)] := c3
  have mH3 := kH3.1
  have hk := hk.trans kH3
  have hs := kH3.sl0 hs
  have hf := fun b e => kH3.fy (hf b e) (by simp)
  have c1 := kH3.cl c1 (by simp)
  have c2 := kH3.cl c2 (by simp)
  refine wN_mov (v := .bool false) rfl ?_
  refine wN_end ?_
  refine wN_seq ?_
  refine wN_addo (b := H.next) (o := 0) rfl ?_
  refine wN_ld (b := H.next) (o := 0) (v := .slice x.ra x.n x.cap) rfl c1.rd rfl ?_
  refine wN_pur (v := .func (.func 91) #[] #[pt H1.next, pt H2.next]) rfl (by kernel_rfl) ?_
  obtain ⟨H4, fH4, kH4⟩ := list90_ok (kn := kn) (lo := lo) (H := H3) (us := x.l) (mi := (i : Int)) (mn := (m : Int)) (bi := H1.next) (bn := H2.next) c2.rd c3.rd hs hl hn2 (by omega)
  have mH4 := kH4.1
  have hk := hk.trans kH4
  have hs := kH4.sl0 hs
  have hf := fun b e => kH4.fy (hf b e) (by simp)
  have c1 := kH4.cl c1 (by simp)
  have c2 := kH4.cl c2 (by simp)
  have c3 := kH4.cl c3 (by simp)
  cases hb : (decide (1 ≤ x.n) && decide (x.n ≤ 4) && x.l.all (fun o => Ou.ok o (i : Int) (m : Int)))
  · rw [hb] at fH4
    refine wN_callf (vs := [.slice x.ra x.n x.cap, iv 1, iv 4, .func (.func 91) #[] #[pt H1.next, pt H2.next]]) rfl (callX_args fH4) ?_
    refine wN_pur (v := .bool true) rfl rfl ?_
    refine wN_end ?_
    refine condT ?_
    refine wN_seq ?_
    refine wN_mov (v := .bool false) rfl ?_
    refine wN_end ?_
    exact And.intro trivial (Exists.intro _ (And.intro rfl ⟨congrArg Value.bool (show false = mok x.l i m from (by
      symm
      unfold mok; rw [hl, hb]; rfl)), hk⟩))
  · rw [hb] at fH4
    refine wN_callf (vs := [.slice x.ra x.n x.cap, iv 1, iv 4, .func (.func 91) #[] #[pt H1.next, pt H2.next]]) rfl (callX_args fH4) ?_
    simp only [Bool.and_eq_true, decide_eq_true_eq] at hb
    obtain ⟨⟨hb1, hb4⟩, hal⟩ := hb
    refine wN_pur (v := .bool false) rfl rfl ?_
    refine wN_end ?_
    refine condF ?_
    first | refine wN_skip ?_ | skip
    refine wN_seq ?_
    refine wN_pur (v := .agg #[iv 0, iv 0, iv 0, iv 0]) rfl (by kernel_rfl) ?_
    refine wN_alc ?_
    intro H5 kH5 nH5 c5
    have c5 : Cl H5 H4.next [iv 0, iv 0, iv 0, iv 0] := c5
    have mH5 := kH5.1
    have hk := hk.trans kH5
    have hs := kH5.sl0 hs
    have hf := fun b e => kH5.fy (hf b e) (by simp)
    have c1 := kH5.cl c1 (by simp)
    have c2 := kH5.cl c2 (by simp)
    have c3 := kH5.cl c3 (by simp)
    refine wN_sta (b := H4.next) (o := 0) rfl rfl c5 (by omega) rfl rfl (by simp) ?_
    intro H6 kH6 nH6 sH6
    have mH6 := kH6.1
    have hk := hk.new kH6 (fun b hb => by simp at hb ⊢; omega)
    have hs := kH6.sl hs (fun b e => by have := fs b e; first | (simp; done) | (simp; omega))
    have hf := fun b e => kH6.fy (hf b e) (by have := fs b e; simp; omega)
    have c1 := kH6.cl c1 (by first | (simp; done) | (simp; omega))
    have c2 := kH6.cl c2 (by first | (simp; done) | (simp; omega))
    have c3 := kH6.cl c3 (by first | (simp; done) | (simp; omega))
    have c5 : Cl H6 H4.next [iv 0, iv 0, iv 0, iv 0] := sH6
    refine wN_end ?_
    refine wN_seq ?_
    refine wN_addo (b := H.next) (o := 0) rfl ?_
    refine wN_ld (b := H.next) (o := 0) (v := .slice x.ra x.n x.cap) rfl c1.rd rfl ?_
    refine wN_addo (b := H.next) (o := 0) rfl ?_
    refine wN_ld (b := H.next) (o := 0) (v := .slice x.ra x.n x.cap) rfl c1.rd rfl ?_
    refine wN_len (m := x.n) rfl ?_
    refine wN_sub (a := (x.n : Int)) (b := 1) rfl rfl ⟨by omega, by omega⟩ ?_
    obtain ⟨kdu, eu, bu⟩ := heap_upto (lo := lo) (k := x.n - 1) hs hf (by omega)
    refine wN_memh (k := kdu) rfl (by kernel_rfl) (eu _ _ _ _ _ _ _ rfl (show evS _ _ = some (iv ((x.n - 1 : Nat) : Int)) from (by rw [show ((x.n - 1 : Nat) : Int) = (x.n : Int) - 1 by omega]; rfl))) bu ?_
    have hu : Sl H6 x.ra (x.n - 1) x.cap (ouc x.l) := by
      rcases id hs with ⟨q1, q2, q3, q4⟩ | ⟨b, q1, q2, q3⟩
      · exact .inl ⟨q1, by omega, q3, q4⟩
      · exact .inr ⟨b, q1, q2, by omega⟩
    refine wN_len (m := (x.n - 1)) rfl ?_
    refine wN_mov (v := iv 0) rfl ?_
    refine wN_end ?_
    refine loop_low (fn := Try.f65) E65_1 N65 L65x1 (fun k : Nat => [(7, pt H4.next), (22, .slice x.ra (x.n - 1) x.cap), (23, iv ((x.n - 1 : Nat) : Int)), (24, iv (k : Int))])
      (fun d k H' => k + d = x.n - 1 ∧ Keep H H' [] ∧ H6.next ≤ H'.next ∧ Sl H' x.ra (x.n - 1) x.cap (ouc x.l) ∧ Cl H' H4.next (qc (givQ x.l k))) (x.n - 1) 0 ⟨by omega, hk, Nat.le_refl _, hu, c5⟩ ⟨rfl, rfl, rfl, rfl, trivial⟩ ?_
    rintro d k L1 ⟨hkd, hk, hnx, hu, cg⟩
    have mki := hk.1
    refine wN_seq ?_
    refine wN_c_lss (a := (k : Int)) (b := ((x.n - 1 : Nat) : Int)) rfl rfl ?_
    refine wN_end ?_
    refine And.intro (fun q1 => ?_) (fun q1 => ?_)
    · have q1 : (k : Int) < ((x.n - 1 : Nat) : Int) := of_decide_eq_true q1
      have hi : k < x.n - 1 := by omega
      obtain ⟨y, hy⟩ := get_some (l := x.l) (i := k) (by omega)
      rcases id hu with ⟨_, h0, _⟩ | ⟨sb, esb, hsd, _⟩
      · omega
      have g1 := giv_in hal k (by omega)
      have g2 := Ou.w_in hal hy
      have lsb := fs sb esb
      first | refine wN_skip ?_ | skip
      refine wN_seq ?_
      refine wN_idx (b := sb) (o := 0) (k := k) (j := (k : Int)) (by rw [← esb]; rfl) rfl rfl hi ?_
      refine wN_lda (b := sb) (o := 0 + k * 5) rfl hsd (ouc_row hy) ?_
      refine wN_alc ?_
      intro H7 kH7 nH7 c7
      have c7 : Cl H7 L1.next [iv 0, iv 0, iv 0, iv 0, iv 0] := c7
      have mH7 := kH7.1
      have hk := hk.trans kH7
      have hu := kH7.sl0 hu
      have cg := kH7.cl cg (by simp)
      have hsd := kH7.rd hsd (by simp)
      refine wN_sta (b := L1.next) (o := 0) rfl rfl c7 (by omega) rfl rfl (by simp) ?_
      intro H8 kH8 nH8 sH8
      have mH8 := kH8.1
      have hk := hk.new kH8 (fun b hb => by simp at hb ⊢; omega)
      have hu := kH8.sl hu (fun b e => by have := fs b e; first | (simp; done) | (simp; omega))
      have cg := kH8.cl cg (by first | (simp; done) | (simp; omega))
      have hsd := kH8.rd hsd (by first | (simp; done) | (simp; omega))
      have c7 : Cl H8 L1.next [iv y.to, iv y.m, iv y.s, iv y.a, iv y.c] := sH8
      refine wN_end ?_
      first | refine wD_dreg ?_ | (refine wOps_nil ?_; refine wD_dreg ?_)
      refine wD_lda (b := H4.next) (o := 0) rfl cg.rd (show row 4 (qc (givQ x.l k)) 0 = some (qc (givQ x.l k)) from rfl) ?_
      refine wD_lda (b := L1.next) (o := 0) rfl c7.rd (show row 5 _ _ = some [iv y.to, iv y.m, iv y.s, iv y.a, iv y.c] from rfl) ?_
      obtain ⟨H9, fH9, kH9⟩ := thou_ok (kn := kn) (lo := H8.next) (H := H8) (o := y) (Nat.le_refl _)
      refine wD_callh (vs := [.agg (Ou.f y).toArray]) rfl rfl (callX_args fH9) ?_
      have mH9 := kH9.1
      have hk := hk.trans kH9
      have hu := kH9.sl0 hu
      have cg := kH9.cl cg (by simp)
      have hsd := kH9.rd hsd (by simp)
      have c7 := kH9.cl c7 (by simp)
      obtain ⟨H10, fH10, kH10⟩ := plus_ok (kn := kn) (lo := lo) (H := H9) (p := givQ x.l k) (q := y.w) (by omega) (fun j hj => by have := g1 j hj; have := g2 j hj; show InR (giv x.l j k + y.w j); exact ⟨by omega, by omega⟩)
      refine wD_callf (vs := [.agg (qc (givQ x.l k)).toArray, .agg (qc y.w).toArray]) rfl (callX_args fH10) ?_
      have mH10 := kH10.1
      have hk := hk.trans kH10
      have hu := kH10.sl0 hu
      have cg := kH10.cl cg (by simp)
      have hsd := kH10.rd hsd (by simp)
      have c7 := kH10.cl c7 (by simp)
      refine wD_sta (b := H4.next) (o := 0) (v := .agg (qc (addQ (givQ x.l k) y.w)).toArray) rfl rfl cg (by omega) rfl rfl (by simp) ?_
      intro H11 kH11 nH11 sH11
      have mH11 := kH11.1
      have hk := hk.new kH11 (fun b hb => by simp at hb ⊢; omega)
      have hu := kH11.sl hu (fun b e => by have := fs b e; first | (simp; done) | (simp; omega))
      have hsd := kH11.rd hsd (by first | (simp; done) | (simp; omega))
      have c7 := kH11.cl c7 (by first | (simp; done) | (simp; omega))
      have cg : Cl H11 H4.next (qc (addQ (givQ x.l k) y.w)) := sH11
      rw [giv_q hy] at cg
      refine wD_end (by repeat' first | exact True.intro | exact (fun h => h) | refine And.intro ?_ ?_ | (intro h; have h : (_ : Nat) = _ := h; omega)) ?_
      first | refine wN_reg ?_ | refine wN_blk ?_ | refine wN_bseq ?_ | (refine wOps_nil ?_; refine wN_reg ?_)
      refine wN_add (a := (k : Int)) (b := 1) rfl rfl ⟨by omega, by omega⟩ ?_
      refine wN_mov (v := iv ((k : Int) + 1)) rfl ?_
      refine wN_end ?_
      exact ⟨d - 1, k + 1, by omega, ⟨by omega, hk, by omega, hu, cg⟩, rfl, rfl, rfl, rfl, trivial⟩
    · have q1 : ¬ ((k : Int) < ((x.n - 1 : Nat) : Int)) := of_decide_eq_false q1
      refine wN_seq ?_
      refine wN_lda (b := H4.next) (o := 0) rfl cg.rd (show row 4 (qc (givQ x.l k)) 0 = some (qc (givQ x.l k)) from rfl) ?_
      refine wN_callB rfl (within_ok (p := givQ x.l k) (m := 1000)) ?_
      intro tH12 H12 hH12 kH12
      have mH12 := kH12.1
      have hk := hk.trans kH12
      have hu := kH12.sl0 hu
      have cg := kH12.cl cg (by simp)
      cases tH12
      · have hw : wiQ (givQ x.l k) 1000 = false := hH12
        refine wN_mov (v := .bool false) rfl ?_
        refine wN_end ?_
        exact And.intro trivial (Exists.intro _ (And.intro rfl ⟨congrArg Value.bool (show false = mok x.l i m from (by
          symm
          obtain rfl : k = x.n - 1 := by omega
          unfold mok; rw [hl, hal, decide_eq_true hb1, decide_eq_true hb4, hw]; rfl)), hk⟩))
      · have hw : wiQ (givQ x.l k) 1000 = true := hH12
        refine wN_mov (v := .bool true) rfl ?_
        refine wN_end ?_
        exact And.intro trivial (Exists.intro _ (And.intro rfl ⟨congrArg Value.bool (show true = mok x.l i m from (by
          symm
          obtain rfl : k = x.n - 1 := by omega
          unfold mok; rw [hl, hal, decide_eq_true hb1, decide_eq_true hb4, hw]; rfl)), hk⟩))
end
end Go.Ax

/-
  Plant: validPlant, Check, and what the document says of them (written by program).
-/
namespace Go.Ax
open Go Go.RowKit Go.Proofs

theorem row1_of {cs : List Value} {i : Nat} {v : Value} (h : cs[i]? = some v) : row 1 cs i = some [v] := by
  unfold row
  have e : (cs.drop i).take 1 = [v] := by
    have hlt := get_lt h
    rw [List.drop_eq_getElem_cons hlt, List.take_succ_cons, List.take_zero]
    rw [List.getElem?_eq_getElem hlt] at h; cases h; rfl
  rw [e]; rfl
section
variable {kn : FuncId → Option Bool} {lo : Nat} {H : Hp}
/-- validPlant's closure -/
theorem clos64_ok {x : Mc} {i n bm cap : Nat} {sa : Option Addr} (hs : Sl H x.ra x.n x.cap (ouc x.l)) (hl : x.l.length = x.n) (hf : ∀ b, x.ra = some ⟨b, 0, none⟩ → Fy H b (ouc x.l)) (hn2 : x.n ≤ 1000000) (hlo : lo ≤ H.next) (rm : Rd H bm [.slice sa n cap]) : ∃ H', FnX Try.prog kn lo 64 [iv (i : Int), .agg (Mc.f x).toArray, pt bm] H (.bool (mok x.l i n)) H' ∧ Keep H H' [] := by
  have key := fnX_low (kn := kn) (lo := lo) (H := H) (args := [iv (i : Int), .agg (Mc.f x).toArray, pt bm]) (Q := fun w H' => w = .bool (mok x.l i n) ∧ Keep H H' []) Try.func64 B64 N64 Z64 L64 (by simp) ?_
  · obtain ⟨w, H', h, rfl, q⟩ := key; exact ⟨H', h, q⟩
  have hk := Keep.refl H []
  have fs : ∀ b, x.ra = some ⟨b, 0, none⟩ → b < H.next := hs.old
  have lrm := rm.lt
  refine wN_seq ?_
  refine wN_box (v := .agg (Mc.f x).toArray) rfl ?_
  intro H1 kH1 nH1 c1
  have c1 : Cl H1 H.next [.slice x.ra x.n x.cap] := c1
  have mH1 := kH1.1
  have hk := hk.trans kH1
  have rm := kH1.rd rm (by simp)
  have hs := kH1.sl0 hs
  have hf := fun b e => kH1.fy (hf b e) (by simp)
  refine wN_mov (v := .bool false) rfl ?_
  refine wN_end ?_
  refine wN_seq ?_
  refine wN_lda (b := H.next) (o := 0) rfl c1.rd (show row 1 _ _ = some [.slice x.ra x.n x.cap] from rfl) ?_
  refine wN_mov (v := iv (i : Int)) rfl ?_
  refine wN_ld (b := bm) (o := 0) (v := .slice sa n cap) rfl rm rfl ?_
  refine wN_len (m := n) rfl ?_
  obtain ⟨H2, fH2, kH2⟩ := vmachine_ok (kn := kn) (lo := lo) (H := H1) (x := x) (i := i) (m := n) hs hl hf hn2 (by omega)
  refine wN_callf (vs := [.agg (Mc.f x).toArray, iv (i : Int), iv (n : Int)]) rfl (callX_args fH2) ?_
  have mH2 := kH2.1
  have hk := hk.trans kH2
  have rm := kH2.rd rm (by simp)
  have hs := kH2.sl0 hs
  have hf := fun b e => kH2.fy (hf b e) (by simp)
  have c1 := kH2.cl c1 (by simp)
  refine wN_mov (v := .bool (mok x.l i n)) rfl ?_
  refine wN_end ?_
  exact And.intro trivial (Exists.intro _ (And.intro rfl ⟨rfl, hk⟩))
/-- isList of machines -/
theorem list63_ok {bm : Nat} {sa : Option Addr} {n cap f : Nat} {rs : List Mc} (hr : Mcs H f sa n cap rs) (hm : ∀ r ∈ rs, r.n ≤ 1000000) (hn2 : n ≤ 1000000) (hf : f ≤ H.next) (hlo : lo ≤ H.next) (rm : Rd H bm [.slice sa n cap]) : ∃ H', FnX Try.prog kn lo 63 [.slice sa n cap, iv 0, iv 12, .func (.func 64) #[] #[pt bm]] H (.bool (pok (mss rs))) H' ∧ Keep H H' [] := by
  have key := fnX_low (kn := kn) (lo := lo) (H := H) (args := [.slice sa n cap, iv 0, iv 12, .func (.func 64) #[] #[pt bm]]) (Q := fun w H' => w = .bool (pok (mss rs)) ∧ Keep H H' []) Try.func63 B63 N63 Z63 L63 (by simp) ?_
  · obtain ⟨w, H', h, rfl, q⟩ := key; exact ⟨H', h, q⟩
  have hk := Keep.refl H []
  refine wN_seq ?_
  refine wN_mov (v := .bool false) rfl ?_
  refine wN_end ?_
  refine wN_seq ?_
  refine wN_mov (v := .slice sa n cap) rfl ?_
  refine wN_len (m := n) rfl ?_
  refine wN_mov (v := iv 0) rfl ?_
  refine wN_b_lss (a := (n : Int)) (b := 0) rfl rfl ?_
  intro t1 g1; cases t1
  · have g1 : ¬ ((n : Int) < 0) := of_decide_eq_false g1
    refine wN_mov (v := .bool false) rfl ?_
    refine wN_g rfl (wN_mov (v := .slice sa n cap) rfl ?_)
    refine wN_g rfl (wN_len (m := n) rfl ?_)
    refine wN_g rfl (wN_mov (v := iv 12) rfl ?_)
    refine wN_g rfl (wN_b_gtr (a := (n : Int)) (b := 12) rfl rfl ?_)
    intro t2 g2; cases t2
    · have g2 : ¬ ((n : Int) > 12) := of_decide_eq_false g2
      refine wN_pur (v := .bool false) rfl rfl ?_
      refine wN_end ?_
      refine condF ?_
      first | refine wN_skip ?_ | skip
      refine wN_seq ?_
      refine wN_mov (v := .slice sa n cap) rfl ?_
      refine wN_len (m := n) rfl ?_
      refine wN_mov (v := iv 0) rfl ?_
      refine wN_end ?_
      refine loop_low (fn := Try.f63) E63_1 N63 L63x1 (fun i : Nat => [(3, .func (.func 64) #[] #[pt bm]), (21, .slice sa n cap), (22, iv (n : Int)), (23, iv (i : Int))])
        (fun k i H' => i + k = n ∧ Keep H H' [] ∧ Mcs H' f sa n cap rs ∧ Rd H' bm [.slice sa n cap] ∧ ∀ j, j < i → mok ((mss rs).getD j []) j n = true) n 0 ⟨by omega, hk, hr, rm, fun j h => absurd h (by omega)⟩ ⟨rfl, rfl, rfl, rfl, trivial⟩ ?_
      rintro k i L1 ⟨hik, hk, hr, rm, hall⟩
      have mki := hk.1
      have lrm := rm.lt
      refine wN_seq ?_
      refine wN_c_lss (a := (i : Int)) (b := (n : Int)) rfl rfl ?_
      refine wN_end ?_
      refine And.intro (fun q3 => ?_) (fun q3 => ?_)
      · have q3 : (i : Int) < (n : Int) := of_decide_eq_true q3
        have hi : i < n := by omega
        obtain ⟨sb, so, cs, x, hx, esb, rsb, lsf, lcap, hat, hmem⟩ := hr.opn hi
        obtain ⟨hrs, hrl, hrf⟩ := hr.ri x hmem
        have fs : ∀ b, x.ra = some ⟨b, 0, none⟩ → b < f := fun b e => (hrf b e).1
        have hff : ∀ b, x.ra = some ⟨b, 0, none⟩ → Fy L1 b (ouc x.l) := fun b e => (hrf b e).2
        first | refine wN_skip ?_ | skip
        refine wN_seq ?_
        refine wN_mov (v := iv (i : Int)) rfl ?_
        refine wN_idx (b := sb) (o := so) (k := i) (j := (i : Int)) (by rw [← esb]; rfl) rfl rfl hi ?_
        refine wN_lda (b := sb) (o := so + i * 1) rfl rsb (row1_of hat) ?_
        refine wN_alc ?_
        intro H1 kH1 nH1 c1
        have c1 : Cl H1 L1.next [.slice none 0 0] := c1
        have mH1 := kH1.1
        have hk := hk.trans kH1
        have hr := hr.keep kH1 (by simp)
        have rm := kH1.rd rm (by simp)
        have rsb := kH1.rd rsb (by simp)
        have hrs := kH1.sl0 hrs
        have hff := fun b e => kH1.fy (hff b e) (by simp)
        refine wN_mov (v := iv (i : Int)) rfl ?_
        refine wN_sta (b := L1.next) (o := 0) rfl rfl c1 (by omega) rfl rfl (by simp) ?_
        intro H2 kH2 nH2 sH2
        have mH2 := kH2.1
        have hk := hk.new kH2 (fun b hb => by simp at hb ⊢; omega)
        have hr := hr.keep kH2 (fun x hx => by simp at hx; omega)
        have rm := kH2.rd rm (by first | (simp; done) | (simp; omega))
        have rsb := kH2.rd rsb (by first | (simp; done) | (simp; omega))
        have hrs := kH2.sl hrs (fun b e => by have := fs b e; first | (simp; done) | (simp; omega))
        have hff := fun b e => kH2.fy (hff b e) (by have := fs b e; simp; omega)
        have c1 : Cl H2 L1.next [.slice x.ra x.n x.cap] := sH2
        refine wN_end ?_
        refine wN_seq ?_
        refine wN_mov (v := .func (.func 64) #[] #[pt bm]) rfl ?_
        refine wN_mov (v := iv (i : Int)) rfl ?_
        refine wN_lda (b := L1.next) (o := 0) rfl c1.rd (show row 1 _ _ = some [.slice x.ra x.n x.cap] from rfl) ?_
        obtain ⟨H3, fH3, kH3⟩ := clos64_ok (kn := kn) (lo := lo) (H := H2) (x := x) (i := i) hrs hrl hff (hm x hmem) (by omega) rm
        have mH3 := kH3.1
        have hk := hk.trans kH3
        have hr := hr.keep kH3 (by simp)
        have rm := kH3.rd rm (by simp)
        have rsb := kH3.rd rsb (by simp)
        have hrs := kH3.sl0 hrs
        have hff := fun b e => kH3.fy (hff b e) (by simp)
        have c1 := kH3.cl c1 (by simp)
        cases hb : mok x.l i n
        · rw [hb] at fH3
          refine wN_callf (vs := [iv (i : Int), .agg (Mc.f x).toArray]) rfl (callX_func rfl (by simpa using fH3)) ?_
          refine wN_pur (v := .bool true) rfl rfl ?_
          refine wN_end ?_
          refine condT ?_
          refine wN_seq ?_
          refine wN_mov (v := .bool false) rfl ?_
          refine wN_end ?_
          exact And.intro trivial (Exists.intro _ (And.intro rfl ⟨congrArg Value.bool (show false = pok (mss rs) from (by symm; exact pok_fail hr.rl hi (by rw [mss_get hx]; exact hb))), hk⟩))
        · rw [hb] at fH3
          refine wN_callf (vs := [iv (i : Int), .agg (Mc.f x).toArray]) rfl (callX_func rfl (by simpa using fH3)) ?_
          refine wN_pur (v := .bool false) rfl rfl ?_
          refine wN_end ?_
          refine condF ?_
          first | refine wN_skip ?_ | skip
          first | refine wN_reg ?_ | refine wN_blk ?_ | refine wN_bseq ?_ | (refine wOps_nil ?_; refine wN_reg ?_)
          refine wN_add (a := (i : Int)) (b := 1) rfl rfl ⟨by omega, by omega⟩ ?_
          refine wN_mov (v := iv ((i : Int) + 1)) rfl ?_
          refine wN_end ?_
          exact ⟨k - 1, i + 1, by omega, ⟨by omega, hk, hr, rm, fun j hj => by
            by_cases e : j = i
            · subst e; rw [mss_get hx]; exact hb
            · exact hall j (by omega)⟩, rfl, rfl, rfl, rfl, trivial⟩
      · have q3 : ¬ ((i : Int) < (n : Int)) := of_decide_eq_false q3
        refine wN_seq ?_
        refine wN_mov (v := .bool true) rfl ?_
        refine wN_end ?_
        exact And.intro trivial (Exists.intro _ (And.intro rfl ⟨congrArg Value.bool (show true = pok (mss rs) from (by symm; rw [pok_all hr.rl (fun j hj => hall j (by omega)), decide_eq_true (by omega)])), hk⟩))
    · have g2 : (n : Int) > 12 := of_decide_eq_true g2
      refine wN_pur (v := .bool true) rfl rfl ?_
      refine wN_end ?_
      refine condT ?_
      refine wN_seq ?_
      refine wN_mov (v := .bool false) rfl ?_
      refine wN_end ?_
      exact And.intro trivial (Exists.intro _ (And.intro rfl ⟨congrArg Value.bool (show false = pok (mss rs) from (by symm; rw [pok_of hr.rl, decide_eq_false (by omega)]; rfl)), hk⟩))
  · have g1 : (n : Int) < 0 := of_decide_eq_true g1
    refine wN_mov (v := .bool true) rfl ?_
    refine wN_gs rfl ?_
    refine wN_gs rfl ?_
    refine wN_gs rfl ?_
    refine wN_gs rfl ?_
    refine wN_pur (v := .bool true) rfl rfl ?_
    refine wN_end ?_
    refine condT ?_
    refine wN_seq ?_
    refine wN_mov (v := .bool false) rfl ?_
    refine wN_end ?_
    exact And.intro trivial (Exists.intro _ (And.intro rfl ⟨congrArg Value.bool (show false = pok (mss rs) from (by symm; rw [pok_of hr.rl, decide_eq_false (by omega)]; rfl)), hk⟩))
/-- validPlant -/
theorem vplant_ok {sa : Option Addr} {n cap f : Nat} {rs : List Mc} (hr : Mcs H f sa n cap rs) (hm : ∀ r ∈ rs, r.n ≤ 1000000) (hn2 : n ≤ 1000000) (hf : f ≤ H.next) (hlo : lo ≤ H.next) : ∃ H', FnX Try.prog kn lo 42 [.slice sa n cap] H (.bool (pok (mss rs))) H' ∧ Keep H H' [] := by
  have key := fnX_low (kn := kn) (lo := lo) (H := H) (args := [.slice sa n cap]) (Q := fun w H' => w = .bool (pok (mss rs)) ∧ Keep H H' []) Try.func42 B42 N42 Z42 L42 (by simp) ?_
  · obtain ⟨w, H', h, rfl, q⟩ := key; exact ⟨H', h, q⟩
  have hk := Keep.refl H []
  refine wN_seq ?_
  refine wN_box (v := .slice sa n cap) rfl ?_
  intro H1 kH1 nH1 c1
  have c1 : Cl H1 H.next [.slice sa n cap] := c1
  have mH1 := kH1.1
  have hk := hk.trans kH1
  have hr := hr.keep kH1 (by simp)
  refine wN_mov (v := .bool false) rfl ?_
  refine wN_end ?_
  refine wN_seq ?_
  refine wN_ld (b := H.next) (o := 0) (v := .slice sa n cap) rfl c1.rd rfl ?_
  refine wN_pur (v := .func (.func 64) #[] #[pt H.next]) rfl (by kernel_rfl) ?_
  obtain ⟨H2, fH2, kH2⟩ := list63_ok (kn := kn) (lo := lo) (H := H1) (bm := H.next) hr hm hn2 (by omega) (by omega) c1.rd
  refine wN_callf (vs := [.slice sa n cap, iv 0, iv 12, .func (.func 64) #[] #[pt H.next]]) rfl (callX_args fH2) ?_
  have mH2 := kH2.1
  have hk := hk.trans kH2
  have hr := hr.keep kH2 (by simp)
  have c1 := kH2.cl c1 (by simp)
  refine wN_mov (v := .bool (pok (mss rs))) rfl ?_
  refine wN_end ?_
  exact And.intro trivial (Exists.intro _ (And.intro rfl ⟨rfl, hk⟩))
end
end Go.Ax

/-
  Plant: rows of four numbers, side by side in a block (written by program).
-/
namespace Go.Ax
open Go Go.RowKit

def cc (C : Cs) (n : Nat) : List Value := ((List.range n).map C).flatMap (fun q => qc q)
theorem cc_len (C : Cs) (n : Nat) : (cc C n).length = n * 4 := by
  unfold cc; rw [flat_len (size := 4) (fun _ _ => rfl)]; simp
theorem cc_get {C : Cs} {n r : Nat} (h : r < n) : ((List.range n).map C)[r]? = some (C r) := by
  rw [List.getElem?_map, List.getElem?_range h]; rfl
theorem cc_row {C : Cs} {n r : Nat} (h : r < n) : row 4 (cc C n) (0 + r * 4) = some (qc (C r)) := row_flat (f := fun q => qc q) (size := 4) (fun _ _ => rfl) (cc_get h)
def setC (C : Cs) (r : Nat) (q : Nat → Int) : Cs := fun x => if x = r then q else C x
theorem cc_congr {C D : Cs} {n : Nat} (h : ∀ r, r < n → C r = D r) : cc C n = cc D n := by
  unfold cc
  rw [List.map_congr_left (fun r hr => h r (List.mem_range.1 hr))]
theorem cc_put {C : Cs} {n r : Nat} {q : Nat → Int} (h : r < n) : putRow (cc C n) (0 + r * 4) (qc q) = cc (setC C r q) n := by
  unfold cc
  have := flat_put (f := fun q : Nat → Int => qc q) (size := 4) (l := (List.range n).map C) (fun _ => rfl) (i := r) (by simpa using h) q
  rw [this]
  congr 1
  apply List.ext_getElem?
  intro i
  by_cases hi : i < n
  · rw [cc_get hi, List.getElem?_set]
    by_cases e : r = i
    · subst e; rw [if_pos rfl, if_pos (by simpa using h)]; unfold setC; rw [if_pos rfl]
    · rw [if_neg e, cc_get hi]; unfold setC; rw [if_neg (fun q => e q.symm)]
  · rw [List.getElem?_eq_none (by simp; omega), List.getElem?_eq_none (by simp; omega)]
theorem cc_row64 {C : Cs} {k : Nat} (h : k < 12) : row 4 (cc C 28) (64 + k * 4) = some (qc (C (16 + k))) := by
  have := cc_row (C := C) (n := 28) (r := 16 + k) (by omega)
  rw [show 0 + (16 + k) * 4 = 64 + k * 4 by omega] at this; exact this
theorem cc_put64 {C : Cs} {k : Nat} {q : Nat → Int} (h : k < 12) : putRow (cc C 28) (64 + k * 4) (qc q) = cc (setC C (16 + k) q) 28 := by
  have := cc_put (C := C) (n := 28) (r := 16 + k) (q := q) (by omega)
  rw [show 0 + (16 + k) * 4 = 64 + k * 4 by omega] at this; exact this
theorem setC_snd {C : Cs} {to : Int} {p : Nat → Int} {r : Nat} (h : ix to = r) : setC C r (addQ (C r) p) = snd C to p := by
  subst h
  funext x
  unfold setC snd
  by_cases e : x = ix to
  · rw [if_pos e, if_pos e, e]
  · rw [if_neg e, if_neg e]
theorem ws_succ {C : Cs} {all : Nat → Int} {l : List Ou} {k : Nat} {y : Ou} (h : l[k]? = some y) : ws C all l (k + 1) = (snd (ws C all l k).1 y.to (shQ all y.w), subQ (ws C all l k).2 (shQ all y.w)) := by
  have e : l.getD k Ou.z = y := by rw [List.getD_eq_getElem?_getD, h]; rfl
  show (snd _ (l.getD k Ou.z).to _, _) = _
  rw [e]
theorem wk_last {C : Cs} {i : Nat} {l : List Ou} {y : Ou} (h : l[l.length - 1]? = some y) : wk C i l = snd (ws C (C (16 + i)) l (l.length - 1)).1 y.to (ws C (C (16 + i)) l (l.length - 1)).2 := by
  have e : l.getD (l.length - 1) Ou.z = y := by rw [List.getD_eq_getElem?_getD, h]; rfl
  unfold wk; rw [e]
theorem Pv.rest_le {i : Nat} {C : Cs} {rest s : Nat → Int} (h : Pv i C rest s) {j : Nat} (hj : j < 4) : 0 ≤ rest j ∧ rest j ≤ s j := by
  have a := h.su j hj
  have b : 0 ≤ lv i C j := sm_nn fun r _ => by
    show 0 ≤ if r < 16 ∨ 16 + i ≤ r then C r j else 0
    split
    · exact h.nn r j hj
    · exact Int.le_refl _
  exact ⟨h.rs j hj, by omega⟩
theorem MOk.at {l : List Ou} {i n : Nat} (h : MOk l i n) {k : Nat} {y : Ou} (hy : l[k]? = some y) : ((-16 ≤ y.to ∧ y.to < 0) ∨ ((i : Int) < y.to ∧ y.to < n)) ∧ ∀ j, j < 4 → 0 ≤ y.w j ∧ y.w j ≤ 1000 := by
  have e : l.getD k Ou.z = y := by rw [List.getD_eq_getElem?_getD, hy]; rfl
  have := h.o k (get_lt hy)
  rw [e] at this; exact this
/-- a step of a machine's work: what is needed that no number is too large -/
theorem ws_safe {C : Cs} {i n : Nat} {l : List Ou} {s : Nat → Int} {k : Nat} {y : Ou} (h : MOk l i n) (hn : n ≤ 12) (hI : Pv i C (fun _ => 0) s) (hi : i < 12) (hS : ∀ j, j < 4 → s j ≤ 1099511627776) (hy : l[k]? = some y) (hk : k < l.length - 1) :
    (∀ j, j < 4 → InR (C (16 + i) j * y.w j)) ∧ (∀ j, j < 4 → 0 ≤ C (16 + i) j * y.w j) ∧ (∀ j, j < 4 → InR ((ws C (C (16 + i)) l k).1 (ix y.to) j + shQ (C (16 + i)) y.w j)) ∧ (∀ j, j < 4 → InR ((ws C (C (16 + i)) l k).2 j - shQ (C (16 + i)) y.w j)) := by
  obtain ⟨o1, o2⟩ := h.at hy
  obtain ⟨i1, i2, _⟩ := ix_ok o1 hn
  have n0 := hI.next hi
  obtain ⟨pv, _⟩ := ws_inv h hn n0 k (by omega)
  obtain ⟨pv2, _⟩ := ws_inv h hn n0 (k + 1) (by omega)
  rw [ws_succ hy] at pv2
  have a := fun j hj => share_in (n0.rs j hj) (o2 j hj).1 (o2 j hj).2
  have b := fun j hj => n0.rest_le (j := j) hj
  refine ⟨fun j hj => ?_, fun j hj => ?_, fun j hj => ?_, fun j hj => ?_⟩
  · have := a j hj; have := b j hj; have := hS j hj; have := Int.mul_nonneg (n0.rs j hj) (o2 j hj).1
    exact ⟨by omega, by omega⟩
  · exact Int.mul_nonneg (n0.rs j hj) (o2 j hj).1
  · have := pv.row i1 i2 hj
    have q : 0 ≤ (ws C (C (16 + i)) l k).2 j - shQ (C (16 + i)) y.w j := pv2.rs j hj
    have := (a j hj).1; have := hS j hj; have := pv.rs j hj
    have e : shQ (C (16 + i)) y.w j = C (16 + i) j * y.w j / 1000 := rfl
    exact ⟨by omega, by omega⟩
  · have q : 0 ≤ (ws C (C (16 + i)) l k).2 j - shQ (C (16 + i)) y.w j := pv2.rs j hj
    have := pv.rest_le hj; have := (a j hj).1; have := hS j hj
    have e : shQ (C (16 + i)) y.w j = C (16 + i) j * y.w j / 1000 := rfl
    exact ⟨by omega, by omega⟩
/-- the last one -/
theorem wk_safe {C : Cs} {i n : Nat} {l : List Ou} {s : Nat → Int} {y : Ou} (h : MOk l i n) (hn : n ≤ 12) (hI : Pv i C (fun _ => 0) s) (hi : i < 12) (hS : ∀ j, j < 4 → s j ≤ 1099511627776) (hy : l[l.length - 1]? = some y) :
    ∀ j, j < 4 → InR ((ws C (C (16 + i)) l (l.length - 1)).1 (ix y.to) j + (ws C (C (16 + i)) l (l.length - 1)).2 j) := by
  intro j hj
  obtain ⟨o1, o2⟩ := h.at hy
  obtain ⟨i1, i2, _⟩ := ix_ok o1 hn
  obtain ⟨pv, _⟩ := ws_inv h hn (hI.next hi) (l.length - 1) (Nat.le_refl _)
  have := pv.row i1 i2 hj
  have := pv.rs j hj; have := hS j hj
  exact ⟨by omega, by omega⟩
/-- the first i rows -/
def mxC (i : Nat) (C : Cs) : Cs := fun r => if r < i then C r else fun _ => 0
theorem mxC_step {C : Cs} {i : Nat} : setC (mxC i C) i (C i) = mxC (i + 1) C := by
  funext x
  unfold setC mxC
  by_cases e : x = i
  · subst e; rw [if_pos rfl, if_pos (by omega)]
  · rw [if_neg e]
    by_cases q : x < i
    · rw [if_pos q, if_pos (by omega)]
    · rw [if_neg q, if_neg (by omega)]
theorem mxC_all {C : Cs} {n : Nat} : cc (mxC n C) n = cc C n := cc_congr fun r hr => by unfold mxC; rw [if_pos hr]
end Go.Ax

/-
  Plant: the program's Run (written by program).
-/
namespace Go.Ax
open Go Go.RowKit Go.Proofs

theorem se27 : sliceElem Try.prog 27 = some (24, 4) := by kernel_rfl
theorem z24 : zeroOf Try.prog 24 = some (.agg #[iv 0, iv 0, iv 0, iv 0]) := by kernel_rfl
theorem u27 : Try.prog.underlying 27 = some (.slice 24) := by kernel_rfl
theorem in24b : ∃ i, Try.prog.info? 24 = some i ∧ i.bytes ≤ 1000 := by
  have h : (Try.prog.info? 24).map (fun i => Nat.ble i.bytes 1000) = some true := by kernel_rfl
  cases e : Try.prog.info? 24 with
  | none => rw [e] at h; cases h
  | some i => rw [e] at h; exact ⟨i, rfl, Nat.le_of_ble_eq_true (by simpa using h)⟩
theorem heap_makeR {P : Program} {lo n : Nat} {S : Rg} {H : Hp} {d : Option Tmp} {t e ty : TypeId} {x y : Operand} {p : String} {a m size : Nat} {z : Value} {i : TypeInfo} (he : sliceElem P t = some (e, size)) (hz : zeroOf P e = some z) (hi : P.info? e = some i) (hb : i.bytes ≤ 1000) (hx : evS S x = some (iv (a : Int))) (hy : evS S y = some (iv (m : Int))) (ham : a ≤ m) (hm : m ≤ 1000) :
    heapOp P lo (frS n S) H ⟨d, .makeSlice t x y, ty, p, #[], none⟩ = some (.val (.slice (some ⟨H.next, 0, none⟩) a m) (H.new (.cells (zeros z.cells.toList m) e false)), .heavy) := by
  have h1 : Nat.ble (i.bytes * m) 1099511627776 = true := Nat.ble_eq_true_of_le (Nat.le_trans (Nat.mul_le_mul hb hm) (by decide))
  unfold heapOp
  simp only [ev_frS, hx, hy, he, hz, hi, show ((m : Nat) : Int) = Int.ofNat m from rfl, show ((a : Nat) : Int) = Int.ofNat a from rfl, Nat.ble_eq_true_of_le ham, h1, Nat.ble_eq_true_of_le (show m ≤ 1048576 by omega), Bool.and_true, cond_true]
theorem zeros_cc (n : Nat) : zeros [iv 0, iv 0, iv 0, iv 0] n = cc cz n := by
  rw [show [iv 0, iv 0, iv 0, iv 0] = (fun q => qc q) (cz 0) from rfl, zeros_flat]
  unfold cc
  congr 1
  apply List.ext_getElem?
  intro i
  by_cases hi : i < n
  · rw [List.getElem?_replicate, if_pos hi, List.getElem?_map, List.getElem?_range hi]; rfl
  · rw [List.getElem?_eq_none (by simp; omega), List.getElem?_eq_none (by simp; omega)]
section
variable {kn : FuncId → Option Bool} {lo : Nat} {H : Hp}
/-- fill -/
theorem fill_ok {C : Cs} {p : Nat → Int} {b k : Nat} {j : Int} (cb : Cl H b (cc C 28)) (hj : j = (k : Int)) (hk16 : k < 16) (hr : ∀ i, i < 4 → InR (C k i + p i)) (hlb : lo ≤ b) (hlo : lo ≤ H.next) : ∃ H', FnX Try.prog kn lo 96 [pt b, iv j, .agg (qc p).toArray] H unit H' ∧ Keep H H' [b] ∧ Cl H' b (cc (setC C k (addQ (C k) p)) 28) := by
  have key := fnX_low (kn := kn) (lo := lo) (H := H) (args := [pt b, iv j, .agg (qc p).toArray]) (Q := fun w H' => w = unit ∧ Keep H H' [b] ∧ Cl H' b (cc (setC C k (addQ (C k) p)) 28)) Try.func96 B96 N96 Z96 L96 (by simp) ?_
  · obtain ⟨w, H', h, rfl, q⟩ := key; exact ⟨H', h, q⟩
  have hk := Keep.refl H [b]
  have lb := cb.lt
  refine wN_seq ?_
  refine wN_box (v := .agg (qc p).toArray) rfl ?_
  intro H1 kH1 nH1 c1
  have c1 : Cl H1 H.next [iv (p 0), iv (p 1), iv (p 2), iv (p 3)] := c1
  have mH1 := kH1.1
  have hk := hk.trans (kH1.mono (by simp))
  have cb := kH1.cl cb (by simp)
  refine wN_end ?_
  first | refine wD_dreg ?_ | (refine wOps_nil ?_; refine wD_dreg ?_)
  refine wD_mov (v := pt b) rfl ?_
  refine wD_mov (v := iv j) rfl ?_
  refine wD_mov (v := pt b) rfl ?_
  refine wD_mov (v := iv j) rfl ?_
  refine wD_nilc (a := ⟨b, 0, none⟩) rfl ?_
  refine wD_idxa (b := b) (o := 0) (k := k) (j := j) rfl rfl hj hk16 ?_
  refine wD_lda (b := b) (o := 0 + k * 4) rfl cb.rd (cc_row (by omega)) ?_
  refine wD_lda (b := H.next) (o := 0) rfl c1.rd (show row 4 _ _ = some [iv (p 0), iv (p 1), iv (p 2), iv (p 3)] from rfl) ?_
  obtain ⟨H2, fH2, kH2⟩ := plus_ok (kn := kn) (lo := lo) (H := H1) (p := C k) (q := p) (by omega) hr
  refine wD_callf (vs := [.agg (qc (C k)).toArray, .agg (qc p).toArray]) rfl (callX_args fH2) ?_
  have mH2 := kH2.1
  have hk := hk.trans (kH2.mono (by simp))
  have cb := kH2.cl cb (by simp)
  have c1 := kH2.cl c1 (by simp)
  refine wD_nilc (a := ⟨b, 0, none⟩) rfl ?_
  refine wD_idxa (b := b) (o := 0) (k := k) (j := j) rfl rfl hj hk16 ?_
  refine wD_sta (b := b) (o := 0 + k * 4) (v := .agg (qc (addQ (C k) p)).toArray) rfl rfl cb (by omega) rfl rfl (by rw [cc_len]; show 0 + k * 4 + 4 ≤ _; omega) ?_
  intro H3 kH3 nH3 sH3
  have mH3 := kH3.1
  have hk := hk.new kH3 (fun b hb => by simp at hb ⊢; omega)
  have c1 := kH3.cl c1 (by first | (simp; done) | (simp; omega))
  have cb : Cl H3 b (putRow (cc C 28) (0 + k * 4) (qc (addQ (C k) p))) := sH3
  rw [cc_put (by omega)] at cb
  refine wD_end (by repeat' first | exact True.intro | exact (fun h => h) | refine And.intro ?_ ?_ | (intro h; have h : (_ : Nat) = _ := h; omega)) ?_
  exact And.intro trivial (Exists.intro _ (And.intro rfl ⟨rfl, hk, cb⟩))
/-- send -/
theorem send_ok {C : Cs} {p : Nat → Int} {b : Nat} {to : Int} (cb : Cl H b (cc C 28)) (hto : (-16 ≤ to ∧ to < 0) ∨ (0 ≤ to ∧ to < 12)) (hr : ∀ i, i < 4 → InR (C (ix to) i + p i)) (hlb : lo ≤ b) (hlo : lo ≤ H.next) : ∃ H', FnX Try.prog kn lo 68 [pt b, iv to, .agg (qc p).toArray] H unit H' ∧ Keep H H' [b] ∧ Cl H' b (cc (snd C to p) 28) := by
  have key := fnX_low (kn := kn) (lo := lo) (H := H) (args := [pt b, iv to, .agg (qc p).toArray]) (Q := fun w H' => w = unit ∧ Keep H H' [b] ∧ Cl H' b (cc (snd C to p) 28)) Try.func68 B68 N68 Z68 L68 (by simp) ?_
  · obtain ⟨w, H', h, rfl, q⟩ := key; exact ⟨H', h, q⟩
  have hk := Keep.refl H [b]
  have lb := cb.lt
  refine wN_seq ?_
  refine wN_box (v := .agg (qc p).toArray) rfl ?_
  intro H1 kH1 nH1 c1
  have c1 : Cl H1 H.next [iv (p 0), iv (p 1), iv (p 2), iv (p 3)] := c1
  have mH1 := kH1.1
  have hk := hk.trans (kH1.mono (by simp))
  have cb := kH1.cl cb (by simp)
  refine wN_end ?_
  refine wN_seq ?_
  refine wN_mov (v := iv to) rfl ?_
  refine wN_c_lss (a := to) (b := 0) rfl rfl ?_
  refine wN_end ?_
  refine And.intro (fun q1 => ?_) (fun q1 => ?_)
  · have q1 : to < 0 := of_decide_eq_true q1
    obtain ⟨k, hj⟩ : ∃ k : Nat, -1 - to = (k : Int) := ⟨(-1 - to).toNat, by omega⟩
    have hix : ix to = k := by unfold ix; rw [if_pos (by omega)]; omega
    rw [hix] at hr
    refine wD_seq ?_
    refine wD_mov (v := pt b) rfl ?_
    refine wD_nilc (a := ⟨b, 0, none⟩) rfl ?_
    refine wD_addo (b := b) (o := 0) rfl ?_
    refine wD_mov (v := iv to) rfl ?_
    refine wD_sub (a := -1) (b := to) rfl rfl ⟨by omega, by omega⟩ ?_
    refine wD_lda (b := H.next) (o := 0) rfl c1.rd (show row 4 _ _ = some [iv (p 0), iv (p 1), iv (p 2), iv (p 3)] from rfl) ?_
    obtain ⟨H2, fH2, kH2, cH2⟩ := fill_ok (kn := kn) (lo := lo) (H := H1) (C := C) (p := p) (b := b) (k := k) (j := -1 - to) cb hj (by omega) hr (by omega) (by omega)
    rw [setC_snd hix] at cH2
    refine wD_callf (vs := [pt b, iv (-1 - to), .agg (qc p).toArray]) rfl (callX_args fH2) ?_
    have mH2 := kH2.1
    have hk := hk.new kH2 (fun b hb => by simp at hb ⊢; omega)
    have c1 := kH2.cl c1 (by first | (simp; done) | (simp; omega))
    have cb := cH2
    refine wD_end (by repeat' first | exact True.intro | exact (fun h => h) | refine And.intro ?_ ?_ | (intro h; have h : (_ : Nat) = _ := h; omega)) ?_
    exact And.intro trivial (Exists.intro _ (And.intro rfl ⟨rfl, hk, cb⟩))
  · have q1 : ¬ (to < 0) := of_decide_eq_false q1
    obtain ⟨k, hj⟩ : ∃ k : Nat, to = (k : Int) := ⟨to.toNat, by omega⟩
    have hix : ix to = 16 + k := by unfold ix; rw [if_neg (by omega)]; omega
    rw [hix] at hr
    first | refine wN_skip ?_ | skip
    first | refine wD_dreg ?_ | (refine wOps_nil ?_; refine wD_dreg ?_)
    refine wD_mov (v := pt b) rfl ?_
    refine wD_mov (v := iv to) rfl ?_
    refine wD_mov (v := pt b) rfl ?_
    refine wD_mov (v := iv to) rfl ?_
    refine wD_nilc (a := ⟨b, 0, none⟩) rfl ?_
    refine wD_addo (b := b) (o := 0) rfl ?_
    refine wD_idxa (b := b) (o := 64) (k := k) (j := to) rfl rfl hj (by omega) ?_
    refine wD_lda (b := b) (o := 64 + k * 4) rfl cb.rd (cc_row64 (by omega)) ?_
    refine wD_lda (b := H.next) (o := 0) rfl c1.rd (show row 4 _ _ = some [iv (p 0), iv (p 1), iv (p 2), iv (p 3)] from rfl) ?_
    obtain ⟨H3, fH3, kH3⟩ := plus_ok (kn := kn) (lo := lo) (H := H1) (p := C (16 + k)) (q := p) (by omega) hr
    refine wD_callf (vs := [.agg (qc (C (16 + k))).toArray, .agg (qc p).toArray]) rfl (callX_args fH3) ?_
    have mH3 := kH3.1
    have hk := hk.trans (kH3.mono (by simp))
    have cb := kH3.cl cb (by simp)
    have c1 := kH3.cl c1 (by simp)
    refine wD_nilc (a := ⟨b, 0, none⟩) rfl ?_
    refine wD_addo (b := b) (o := 0) rfl ?_
    refine wD_idxa (b := b) (o := 64) (k := k) (j := to) rfl rfl hj (by omega) ?_
    refine wD_sta (b := b) (o := 64 + k * 4) (v := .agg (qc (addQ (C (16 + k)) p)).toArray) rfl rfl cb (by omega) rfl rfl (by rw [cc_len]; show 64 + k * 4 + 4 ≤ _; omega) ?_
    intro H4 kH4 nH4 sH4
    have mH4 := kH4.1
    have hk := hk.new kH4 (fun b hb => by simp at hb ⊢; omega)
    have c1 := kH4.cl c1 (by first | (simp; done) | (simp; omega))
    have cb : Cl H4 b (putRow (cc C 28) (64 + k * 4) (qc (addQ (C (16 + k)) p))) := sH4
    rw [cc_put64 (by omega)] at cb
    rw [setC_snd hix] at cb
    refine wD_end (by repeat' first | exact True.intro | exact (fun h => h) | refine And.intro ?_ ?_ | (intro h; have h : (_ : Nat) = _ := h; omega)) ?_
    exact And.intro trivial (Exists.intro _ (And.intro rfl ⟨rfl, hk, cb⟩))
/-- work -/
theorem work_ok {x : Mc} {C : Cs} {s : Nat → Int} {i n b f : Nat} (hs : Sl H x.ra x.n x.cap (ouc x.l)) (hl : x.l.length = x.n) (hf : ∀ b, x.ra = some ⟨b, 0, none⟩ → Fy H b (ouc x.l)) (fs : ∀ b, x.ra = some ⟨b, 0, none⟩ → b < f) (hm : MOk x.l i n) (hn : n ≤ 12) (hI : Pv i C (fun _ => 0) s) (hi : i < 12) (hS : ∀ j, j < 4 → s j ≤ 1099511627776) (cb : Cl H b (cc C 28)) (hfb : f ≤ b) (hlb : lo ≤ b) (hlo : lo ≤ H.next) : ∃ H', FnX Try.prog kn lo 69 [pt b, iv (i : Int), .slice x.ra x.n x.cap] H unit H' ∧ Keep H H' [b] ∧ Cl H' b (cc (wk C i x.l) 28) := by
  have key := fnX_low (kn := kn) (lo := lo) (H := H) (args := [pt b, iv (i : Int), .slice x.ra x.n x.cap]) (Q := fun w H' => w = unit ∧ Keep H H' [b] ∧ Cl H' b (cc (wk C i x.l) 28)) Try.func69 B69 N69 Z69 L69 (by simp) ?_
  · obtain ⟨w, H', h, rfl, q⟩ := key; exact ⟨H', h, q⟩
  have hk := Keep.refl H [b]
  have lb := cb.lt
  have hm4 := hm.h4
  have hm1 := hm.h1
  refine wN_seq ?_
  refine wN_mov (v := pt b) rfl ?_
  refine wN_mov (v := iv (i : Int)) rfl ?_
  refine wN_nilc (a := ⟨b, 0, none⟩) rfl ?_
  refine wN_addo (b := b) (o := 0) rfl ?_
  refine wN_idxa (b := b) (o := 64) (k := i) (j := (i : Int)) rfl rfl rfl (by omega) ?_
  refine wN_lda (b := b) (o := 64 + i * 4) rfl cb.rd (cc_row64 hi) ?_
  refine wN_alc ?_
  intro H1 kH1 nH1 c1
  have c1 : Cl H1 H.next [iv 0, iv 0, iv 0, iv 0] := c1
  have mH1 := kH1.1
  have hk := hk.trans (kH1.mono (by simp))
  have hs := kH1.sl0 hs
  have hf := fun b e => kH1.fy (hf b e) (by simp)
  have cb := kH1.cl cb (by simp)
  refine wN_sta (b := H.next) (o := 0) rfl rfl c1 (by omega) rfl rfl (by simp) ?_
  intro H2 kH2 nH2 sH2
  have mH2 := kH2.1
  have hk := hk.new kH2 (fun b hb => by simp at hb ⊢; omega)
  have hs := kH2.sl hs (fun b e => by have := fs b e; first | (simp; done) | (simp; omega))
  have hf := fun b e => kH2.fy (hf b e) (by have := fs b e; simp; omega)
  have cb := kH2.cl cb (by first | (simp; done) | (simp; omega))
  have c1 : Cl H2 H.next [iv ((C (16 + i)) 0), iv ((C (16 + i)) 1), iv ((C (16 + i)) 2), iv ((C (16 + i)) 3)] := sH2
  refine wN_end ?_
  refine wN_seq ?_
  refine wN_lda (b := H.next) (o := 0) rfl c1.rd (show row 4 _ _ = some [iv ((C (16 + i)) 0), iv ((C (16 + i)) 1), iv ((C (16 + i)) 2), iv ((C (16 + i)) 3)] from rfl) ?_
  refine wN_alc ?_
  intro H3 kH3 nH3 c3
  have c3 : Cl H3 H2.next [iv 0, iv 0, iv 0, iv 0] := c3
  have mH3 := kH3.1
  have hk := hk.trans (kH3.mono (by simp))
  have hs := kH3.sl0 hs
  have hf := fun b e => kH3.fy (hf b e) (by simp)
  have cb := kH3.cl cb (by simp)
  have c1 := kH3.cl c1 (by simp)
  refine wN_sta (b := H2.next) (o := 0) rfl rfl c3 (by omega) rfl rfl (by simp) ?_
  intro H4 kH4 nH4 sH4
  have mH4 := kH4.1
  have hk := hk.new kH4 (fun b hb => by simp at hb ⊢; omega)
  have hs := kH4.sl hs (fun b e => by have := fs b e; first | (simp; done) | (simp; omega))
  have hf := fun b e => kH4.fy (hf b e) (by have := fs b e; simp; omega)
  have cb := kH4.cl cb (by first | (simp; done) | (simp; omega))
  have c1 := kH4.cl c1 (by first | (simp; done) | (simp; omega))
  have c3 : Cl H4 H2.next [iv ((C (16 + i)) 0), iv ((C (16 + i)) 1), iv ((C (16 + i)) 2), iv ((C (16 + i)) 3)] := sH4
  refine wN_end ?_
  refine wN_seq ?_
  refine wN_mov (v := .slice x.ra x.n x.cap) rfl ?_
  refine wN_len (m := x.n) rfl ?_
  refine wN_sub (a := (x.n : Int)) (b := 1) rfl rfl ⟨by omega, by omega⟩ ?_
  refine wN_mov (v := iv ((x.n : Int) - 1)) rfl ?_
  refine wN_end ?_
  refine wN_seq ?_
  refine wN_mov (v := .slice x.ra x.n x.cap) rfl ?_
  refine wN_mov (v := iv ((x.n : Int) - 1)) rfl ?_
  obtain ⟨kdu, eu, bu⟩ := heap_upto (lo := lo) (k := x.n - 1) hs hf (by omega)
  refine wN_memh (k := kdu) rfl (by kernel_rfl) (eu _ _ _ _ _ _ _ rfl (show evS _ _ = some (iv ((x.n - 1 : Nat) : Int)) from (by rw [show ((x.n - 1 : Nat) : Int) = (x.n : Int) - 1 by omega]; rfl))) bu ?_
  refine wN_len (m := (x.n - 1)) rfl ?_
  refine wN_mov (v := iv 0) rfl ?_
  refine wN_end ?_
  refine loop_low (fn := Try.f69) E69_1 N69 L69x1 (fun k : Nat => [(0, pt b), (2, .slice x.ra x.n x.cap), (6, pt H.next), (7, pt H2.next), (8, iv ((x.n : Int) - 1)), (24, .slice x.ra (x.n - 1) x.cap), (25, iv ((x.n - 1 : Nat) : Int)), (26, iv (k : Int))])
    (fun d k H' => k + d = x.n - 1 ∧ Keep H H' [b] ∧ H4.next ≤ H'.next ∧ Sl H' x.ra x.n x.cap (ouc x.l) ∧ Cl H' H.next (qc (C (16 + i))) ∧ Cl H' H2.next (qc (ws C (C (16 + i)) x.l k).2) ∧ Cl H' b (cc (ws C (C (16 + i)) x.l k).1 28)) (x.n - 1) 0 ⟨by omega, hk, Nat.le_refl _, hs, c1, c3, cb⟩ ⟨rfl, rfl, rfl, rfl, rfl, rfl, rfl, rfl, trivial⟩ ?_
  rintro d k L1 ⟨hkd, hk, hnx, hs, c6, c7, cb⟩
  have mki := hk.1
  refine wN_seq ?_
  refine wN_c_lss (a := (k : Int)) (b := ((x.n - 1 : Nat) : Int)) rfl rfl ?_
  refine wN_end ?_
  refine And.intro (fun q1 => ?_) (fun q1 => ?_)
  · have q1 : (k : Int) < ((x.n - 1 : Nat) : Int) := of_decide_eq_true q1
    have hi2 : k < x.n - 1 := by omega
    obtain ⟨y, hy⟩ := get_some (l := x.l) (i := k) (by omega)
    rcases id hs with ⟨_, h0, _⟩ | ⟨sb, esb, hsd, _⟩
    · omega
    have lsb := fs sb esb
    obtain ⟨s1, s2, s3, s4⟩ := ws_safe hm hn hI hi hS hy (by omega)
    have hto := (hm.at hy).1
    first | refine wN_skip ?_ | skip
    refine wN_seq ?_
    refine wN_idx (b := sb) (o := 0) (k := k) (j := (k : Int)) (by rw [← esb]; rfl) rfl rfl hi2 ?_
    refine wN_lda (b := sb) (o := 0 + k * 5) rfl hsd (ouc_row hy) ?_
    refine wN_alc ?_
    intro H5 kH5 nH5 c5
    have c5 : Cl H5 L1.next [iv 0, iv 0, iv 0, iv 0, iv 0] := c5
    have mH5 := kH5.1
    have hk := hk.trans (kH5.mono (by simp))
    have hs := kH5.sl0 hs
    have c6 := kH5.cl c6 (by simp)
    have c7 := kH5.cl c7 (by simp)
    have cb := kH5.cl cb (by simp)
    have hsd := kH5.rd hsd (by simp)
    refine wN_sta (b := L1.next) (o := 0) rfl rfl c5 (by omega) rfl rfl (by simp) ?_
    intro H6 kH6 nH6 sH6
    have mH6 := kH6.1
    have hk := hk.new kH6 (fun b hb => by simp at hb ⊢; omega)
    have hs := kH6.sl hs (fun b e => by have := fs b e; first | (simp; done) | (simp; omega))
    have c6 := kH6.cl c6 (by first | (simp; done) | (simp; omega))
    have c7 := kH6.cl c7 (by first | (simp; done) | (simp; omega))
    have cb := kH6.cl cb (by first | (simp; done) | (simp; omega))
    have hsd := kH6.rd hsd (by first | (simp; done) | (simp; omega))
    have c5 : Cl H6 L1.next [iv y.to, iv y.m, iv y.s, iv y.a, iv y.c] := sH6
    refine wN_end ?_
    refine wD_seq ?_
    refine wD_lda (b := H.next) (o := 0) rfl c6.rd (show row 4 (qc (C (16 + i))) 0 = some (qc (C (16 + i))) from rfl) ?_
    refine wD_lda (b := L1.next) (o := 0) rfl c5.rd (show row 5 _ _ = some [iv y.to, iv y.m, iv y.s, iv y.a, iv y.c] from rfl) ?_
    obtain ⟨H7, fH7, kH7⟩ := thou_ok (kn := kn) (lo := H6.next) (H := H6) (o := y) (Nat.le_refl _)
    refine wD_callh (vs := [.agg (Ou.f y).toArray]) rfl rfl (callX_args fH7) ?_
    have mH7 := kH7.1
    have hk := hk.trans (kH7.mono (by simp))
    have hs := kH7.sl0 hs
    have c6 := kH7.cl c6 (by simp)
    have c7 := kH7.cl c7 (by simp)
    have cb := kH7.cl cb (by simp)
    have hsd := kH7.rd hsd (by simp)
    have c5 := kH7.cl c5 (by simp)
    obtain ⟨H8, fH8, kH8⟩ := share_ok (kn := kn) (lo := H7.next) (H := H7) (p := C (16 + i)) (q := y.w) (Nat.le_refl _) s1 s2
    refine wD_callh (vs := [.agg (qc (C (16 + i))).toArray, .agg (qc y.w).toArray]) rfl rfl (callX_args fH8) ?_
    have mH8 := kH8.1
    have hk := hk.trans (kH8.mono (by simp))
    have hs := kH8.sl0 hs
    have c6 := kH8.cl c6 (by simp)
    have c7 := kH8.cl c7 (by simp)
    have cb := kH8.cl cb (by simp)
    have hsd := kH8.rd hsd (by simp)
    have c5 := kH8.cl c5 (by simp)
    refine wD_alc ?_
    intro H9 kH9 nH9 c9
    have c9 : Cl H9 H8.next [iv 0, iv 0, iv 0, iv 0] := c9
    have mH9 := kH9.1
    have hk := hk.trans (kH9.mono (by simp))
    have hs := kH9.sl0 hs
    have c6 := kH9.cl c6 (by simp)
    have c7 := kH9.cl c7 (by simp)
    have cb := kH9.cl cb (by simp)
    have hsd := kH9.rd hsd (by simp)
    have c5 := kH9.cl c5 (by simp)
    refine wD_sta (b := H8.next) (o := 0) rfl rfl c9 (by omega) rfl rfl (by simp) ?_
    intro H10 kH10 nH10 sH10
    have mH10 := kH10.1
    have hk := hk.new kH10 (fun b hb => by simp at hb ⊢; omega)
    have hs := kH10.sl hs (fun b e => by have := fs b e; first | (simp; done) | (simp; omega))
    have c6 := kH10.cl c6 (by first | (simp; done) | (simp; omega))
    have c7 := kH10.cl c7 (by first | (simp; done) | (simp; omega))
    have cb := kH10.cl cb (by first | (simp; done) | (simp; omega))
    have hsd := kH10.rd hsd (by first | (simp; done) | (simp; omega))
    have c5 := kH10.cl c5 (by first | (simp; done) | (simp; omega))
    have c9 : Cl H10 H8.next [iv ((shQ (C (16 + i)) y.w) 0), iv ((shQ (C (16 + i)) y.w) 1), iv ((shQ (C (16 + i)) y.w) 2), iv ((shQ (C (16 + i)) y.w) 3)] := sH10
    refine wD_end (by repeat' first | exact True.intro | exact (fun h => h) | refine And.intro ?_ ?_ | (intro h; have h : (_ : Nat) = _ := h; omega)) ?_
    refine wN_seq ?_
    refine wN_mov (v := pt b) rfl ?_
    refine wN_addo (b := L1.next) (o := 0) rfl ?_
    refine wN_ld (b := L1.next) (o := 0) (v := iv y.to) rfl c5.rd rfl ?_
    refine wN_lda (b := H8.next) (o := 0) rfl c9.rd (show row 4 _ _ = some [iv ((shQ (C (16 + i)) y.w) 0), iv ((shQ (C (16 + i)) y.w) 1), iv ((shQ (C (16 + i)) y.w) 2), iv ((shQ (C (16 + i)) y.w) 3)] from rfl) ?_
    obtain ⟨H11, fH11, kH11, cH11⟩ := send_ok (kn := kn) (lo := lo) (H := H10) (C := (ws C (C (16 + i)) x.l k).1) (p := (shQ (C (16 + i)) y.w)) (b := b) (to := y.to) cb (by omega) s3 (by omega) (by omega)
    refine wN_callf (vs := [pt b, iv y.to, .agg (qc (shQ (C (16 + i)) y.w)).toArray]) rfl (callX_args fH11) ?_
    have mH11 := kH11.1
    have hk := hk.new kH11 (fun b hb => by simp at hb ⊢; omega)
    have hs := kH11.sl hs (fun b e => by have := fs b e; first | (simp; done) | (simp; omega))
    have c6 := kH11.cl c6 (by first | (simp; done) | (simp; omega))
    have c7 := kH11.cl c7 (by first | (simp; done) | (simp; omega))
    have hsd := kH11.rd hsd (by first | (simp; done) | (simp; omega))
    have c5 := kH11.cl c5 (by first | (simp; done) | (simp; omega))
    have c9 := kH11.cl c9 (by first | (simp; done) | (simp; omega))
    have cb := cH11
    refine wN_end ?_
    first | refine wN_reg ?_ | refine wN_blk ?_ | refine wN_bseq ?_ | (refine wOps_nil ?_; refine wN_reg ?_)
    refine wN_lda (b := H2.next) (o := 0) rfl c7.rd (show row 4 (qc (ws C (C (16 + i)) x.l k).2) 0 = some (qc (ws C (C (16 + i)) x.l k).2) from rfl) ?_
    refine wN_lda (b := H8.next) (o := 0) rfl c9.rd (show row 4 _ _ = some [iv ((shQ (C (16 + i)) y.w) 0), iv ((shQ (C (16 + i)) y.w) 1), iv ((shQ (C (16 + i)) y.w) 2), iv ((shQ (C (16 + i)) y.w) 3)] from rfl) ?_
    obtain ⟨H12, fH12, kH12⟩ := minus_ok (kn := kn) (lo := lo) (H := H11) (p := (ws C (C (16 + i)) x.l k).2) (q := shQ (C (16 + i)) y.w) (by omega) s4
    refine wN_callf (vs := [.agg (qc (ws C (C (16 + i)) x.l k).2).toArray, .agg (qc (shQ (C (16 + i)) y.w)).toArray]) rfl (callX_args fH12) ?_
    have mH12 := kH12.1
    have hk := hk.trans (kH12.mono (by simp))
    have hs := kH12.sl0 hs
    have c6 := kH12.cl c6 (by simp)
    have c7 := kH12.cl c7 (by simp)
    have hsd := kH12.rd hsd (by simp)
    have c5 := kH12.cl c5 (by simp)
    have c9 := kH12.cl c9 (by simp)
    have cb := kH12.cl cb (by simp)
    refine wN_sta (b := H2.next) (o := 0) (v := .agg (qc (subQ (ws C (C (16 + i)) x.l k).2 (shQ (C (16 + i)) y.w))).toArray) rfl rfl c7 (by omega) rfl rfl (by simp) ?_
    intro H13 kH13 nH13 sH13
    have mH13 := kH13.1
    have hk := hk.new kH13 (fun b hb => by simp at hb ⊢; omega)
    have hs := kH13.sl hs (fun b e => by have := fs b e; first | (simp; done) | (simp; omega))
    have c6 := kH13.cl c6 (by first | (simp; done) | (simp; omega))
    have hsd := kH13.rd hsd (by first | (simp; done) | (simp; omega))
    have c5 := kH13.cl c5 (by first | (simp; done) | (simp; omega))
    have c9 := kH13.cl c9 (by first | (simp; done) | (simp; omega))
    have cb := kH13.cl cb (by first | (simp; done) | (simp; omega))
    have c7 : Cl H13 H2.next (qc (subQ (ws C (C (16 + i)) x.l k).2 (shQ (C (16 + i)) y.w))) := sH13
    have c7 : Cl H13 H2.next (qc (ws C (C (16 + i)) x.l (k + 1)).2) := by rw [ws_succ hy]; exact c7
    have cb : Cl H13 b (cc (ws C (C (16 + i)) x.l (k + 1)).1 28) := by rw [ws_succ hy]; exact cb
    refine wN_end ?_
    first | refine wN_reg ?_ | refine wN_blk ?_ | refine wN_bseq ?_ | (refine wOps_nil ?_; refine wN_reg ?_)
    refine wN_add (a := (k : Int)) (b := 1) rfl rfl ⟨by omega, by omega⟩ ?_
    refine wN_mov (v := iv ((k : Int) + 1)) rfl ?_
    refine wN_end ?_
    exact ⟨d - 1, k + 1, by omega, ⟨by omega, hk, by omega, hs, c6, c7, cb⟩, rfl, rfl, rfl, rfl, rfl, rfl, rfl, rfl, trivial⟩
  · have q1 : ¬ ((k : Int) < ((x.n - 1 : Nat) : Int)) := of_decide_eq_false q1
    have e : k = x.l.length - 1 := by omega
    subst e
    have hm1 := hm.h1
    obtain ⟨y, hy⟩ := get_some (l := x.l) (i := x.l.length - 1) (by omega)
    rcases id hs with ⟨_, h0, _⟩ | ⟨sb, esb, hsl, _⟩
    · omega
    have lsb := fs sb esb
    have s3 := wk_safe hm hn hI hi hS hy
    have hto := (hm.at hy).1
    first | (refine wN_exit ?_; show wC _ _ _ _ _ _ _ _ _) | skip
    first | refine wD_dreg ?_ | (refine wOps_nil ?_; refine wD_dreg ?_)
    refine wD_mov (v := pt b) rfl ?_
    refine wD_mov (v := .slice x.ra x.n x.cap) rfl ?_
    refine wD_mov (v := iv ((x.n : Int) - 1)) rfl ?_
    refine wD_idx (b := sb) (o := 0) (k := x.l.length - 1) (j := (x.n : Int) - 1) (by rw [← esb]; rfl) rfl (by omega) (by omega) ?_
    refine wD_addo (b := sb) (o := 0 + (x.l.length - 1) * 5) rfl ?_
    refine wD_ld (b := sb) (o := 0 + (x.l.length - 1) * 5) (v := iv y.to) rfl hsl (by have q := ouc_at (j := 0) hy rfl; exact q) ?_
    refine wD_lda (b := H2.next) (o := 0) rfl c7.rd (show row 4 (qc (ws C (C (16 + i)) x.l (x.l.length - 1)).2) 0 = some (qc (ws C (C (16 + i)) x.l (x.l.length - 1)).2) from rfl) ?_
    obtain ⟨H14, fH14, kH14, cH14⟩ := send_ok (kn := kn) (lo := lo) (H := L1) (C := (ws C (C (16 + i)) x.l (x.l.length - 1)).1) (p := (ws C (C (16 + i)) x.l (x.l.length - 1)).2) (b := b) (to := y.to) cb (by omega) s3 (by omega) (by omega)
    refine wD_callf (vs := [pt b, iv y.to, .agg (qc (ws C (C (16 + i)) x.l (x.l.length - 1)).2).toArray]) rfl (callX_args fH14) ?_
    have mH14 := kH14.1
    have hk := hk.new kH14 (fun b hb => by simp at hb ⊢; omega)
    have hs := kH14.sl hs (fun b e => by have := fs b e; first | (simp; done) | (simp; omega))
    have c6 := kH14.cl c6 (by first | (simp; done) | (simp; omega))
    have c7 := kH14.cl c7 (by first | (simp; done) | (simp; omega))
    have hsl := kH14.rd hsl (by first | (simp; done) | (simp; omega))
    have cb := cH14
    refine wD_end (by repeat' first | exact True.intro | exact (fun h => h) | refine And.intro ?_ ?_ | (intro h; have h : (_ : Nat) = _ := h; omega)) ?_
    exact And.intro trivial (Exists.intro _ (And.intro rfl ⟨rfl, hk, by rw [wk_last hy]; exact cb⟩))
/-- streams -/
theorem streams_ok {C : Cs} {b : Nat} (cb : Cl H b (cc C 28)) (hlo : lo ≤ H.next) : ∃ a H', FnX Try.prog kn lo 70 [pt b] H (slv a 16 16) H' ∧ Keep H H' [] ∧ H.next ≤ a ∧ Sc H' a (cc C 16) := by
  have key := fnX_low (kn := kn) (lo := lo) (H := H) (args := [pt b]) (Q := fun w H' => ∃ a, w = slv a 16 16 ∧ Keep H H' [] ∧ H.next ≤ a ∧ Sc H' a (cc C 16)) Try.func70 B70 N70 Z70 L70 (by simp) ?_
  · obtain ⟨w, H', h, a, rfl, q⟩ := key; exact ⟨a, H', h, q⟩
  have hk := Keep.refl H []
  have lb := cb.lt
  refine wN_seq ?_
  refine wN_mov (v := .slice none 0 0) rfl ?_
  refine wN_end ?_
  refine wN_seq ?_
  obtain ⟨ie, hie, hib⟩ := in24b
  obtain ⟨H1, hH1⟩ : ∃ H1, H.new (.cells (zeros [iv 0, iv 0, iv 0, iv 0] 16) 24 false) = H1 := ⟨_, rfl⟩
  refine wN_memh (v := .slice (some ⟨H.next, 0, none⟩) 0 16) (H' := H1) (k := .heavy) rfl (by kernel_rfl) ((heap_makeR (a := 0) (m := 16) se27 z24 hie hib rfl rfl (by omega) (by omega)).trans (by rw [← hH1]; rfl)) (fun b e => by cases e) ?_
  obtain ⟨kH1, nH1, _⟩ := new_facts hH1
  have hal := new_sc hH1
  rw [zeros_cc] at hal
  have mH1 := kH1.1
  have hk := hk.trans kH1
  have cb := kH1.cl cb (by simp)
  refine wN_mov (v := .slice (some ⟨H.next, 0, none⟩) 0 16) rfl ?_
  refine wN_end ?_
  refine wN_seq ?_
  refine wN_mov (v := pt b) rfl ?_
  refine wN_nilc (a := ⟨b, 0, none⟩) rfl ?_
  refine wN_mov (v := iv 0) rfl ?_
  refine wN_end ?_
  refine loop_low (fn := Try.f70) E70_1 N70 L70x1 (fun i : Nat => [(3, .slice (some ⟨H.next, 0, none⟩) i 16), (7, pt b), (9, iv (i : Int))])
    (fun k i H' => i + k = 16 ∧ Keep H H' [] ∧ H1.next ≤ H'.next ∧ Sc H' H.next (cc (mxC i C) 16) ∧ Cl H' b (cc C 28)) 16 0 ⟨by omega, hk, Nat.le_refl _, hal, cb⟩ ⟨rfl, rfl, rfl, trivial⟩ ?_
  rintro k i L1 ⟨hik, hk, hnx, hal, cb⟩
  have mki := hk.1
  refine wN_seq ?_
  refine wN_c_lss (a := (i : Int)) (b := 16) rfl rfl ?_
  refine wN_end ?_
  refine And.intro (fun q1 => ?_) (fun q1 => ?_)
  · have q1 : (i : Int) < 16 := of_decide_eq_true q1
    have hi : i < 16 := by omega
    first | refine wN_skip ?_ | skip
    refine wN_seq ?_
    refine wN_nilc (a := ⟨b, 0, none⟩) rfl ?_
    refine wN_idxa (b := b) (o := 0) (k := i) (j := (i : Int)) rfl rfl rfl hi ?_
    refine wN_lda (b := b) (o := 0 + i * 4) rfl cb.rd (cc_row (by omega)) ?_
    refine wN_alc ?_
    intro H2 kH2 nH2 c2
    have c2 : Cl H2 L1.next [iv 0, iv 0, iv 0, iv 0] := c2
    have mH2 := kH2.1
    have hk := hk.trans kH2
    have hal := kH2.sc hal (by simp)
    have cb := kH2.cl cb (by simp)
    refine wN_sta (b := L1.next) (o := 0) rfl rfl c2 (by omega) rfl rfl (by simp) ?_
    intro H3 kH3 nH3 sH3
    have mH3 := kH3.1
    have hk := hk.new kH3 (fun b hb => by simp at hb ⊢; omega)
    have hal := kH3.sc hal (by first | (simp; done) | (simp; omega))
    have cb := kH3.cl cb (by first | (simp; done) | (simp; omega))
    have c2 : Cl H3 L1.next [iv ((C i) 0), iv ((C i) 1), iv ((C i) 2), iv ((C i) 3)] := sH3
    refine wN_end ?_
    first | refine wN_reg ?_ | refine wN_blk ?_ | refine wN_bseq ?_ | (refine wOps_nil ?_; refine wN_reg ?_)
    refine wN_mov (v := .slice (some ⟨H.next, 0, none⟩) i 16) rfl ?_
    refine wN_lda (b := L1.next) (o := 0) rfl c2.rd (show row 4 _ _ = some [iv ((C i) 0), iv ((C i) 1), iv ((C i) 2), iv ((C i) 3)] from rfl) ?_
    obtain ⟨H4, fH4, kH4⟩ := stream_ok (kn := kn) (lo := lo) (H := H3) (s := C i) (by omega)
    refine wN_callf (vs := [.agg (qc (C i)).toArray]) rfl (callX_args fH4) ?_
    have mH4 := kH4.1
    have hk := hk.trans kH4
    have hal := kH4.sc hal (by simp)
    have cb := kH4.cl cb (by simp)
    have c2 := kH4.cl c2 (by simp)
    obtain ⟨H5, hH5⟩ : ∃ H5, H4.new (.cells [iv ((C i) 0), iv ((C i) 1), iv ((C i) 2), iv ((C i) 3)] 24 false) = H5 := ⟨_, rfl⟩
    refine wN_memh (H' := H5) (k := .heavy) rfl (by kernel_rfl) ((heap_build1 (v := .agg (qc (C i)).toArray) se27 z24 rfl rfl rfl (by decide)).trans (by rw [← hH5]; rfl)) (fun b e => by cases e) ?_
    obtain ⟨kH5, nH5, c5⟩ := new_facts hH5; clear hH5
    have c5 : Cl H5 H4.next [iv ((C i) 0), iv ((C i) 1), iv ((C i) 2), iv ((C i) 3)] := c5
    have mH5 := kH5.1
    have hk := hk.trans kH5
    have hal := kH5.sc hal (by simp)
    have cb := kH5.cl cb (by simp)
    have c2 := kH5.cl c2 (by simp)
    obtain ⟨H6, eH6, kH6, nH6, aH6⟩ := heap_append_room (P := Try.prog) (lo := lo) (k := i) (cap := 16) (t1 := 27) se27 u27 (c5.sl (Nat.le_refl 1)) rfl rfl hal hi (by omega) (by rw [cc_len]; omega) (by omega)
    refine wN_memh (k := .store H.next) rfl (by kernel_rfl) (eH6 _ _ _ _ _ _ _ rfl rfl) (fun b e => by cases e) ?_
    have mH6 := kH6.1
    have hk := hk.new kH6 (fun b hb => by simp at hb ⊢; omega)
    have cb := kH6.cl cb (by first | (simp; done) | (simp; omega))
    have c2 := kH6.cl c2 (by first | (simp; done) | (simp; omega))
    have c5 := kH6.cl c5 (by first | (simp; done) | (simp; omega))
    have hal : Sc H6 H.next (putRow (cc (mxC i C) 16) (0 + i * 4) (qc (C i))) := aH6
    rw [cc_put hi, mxC_step] at hal
    refine wN_mov (v := .slice (some ⟨H.next, 0, none⟩) (i + 1) 16) rfl ?_
    refine wN_end ?_
    first | refine wN_reg ?_ | refine wN_blk ?_ | refine wN_bseq ?_ | (refine wOps_nil ?_; refine wN_reg ?_)
    refine wN_add (a := (i : Int)) (b := 1) rfl rfl ⟨by omega, by omega⟩ ?_
    refine wN_mov (v := iv ((i : Int) + 1)) rfl ?_
    refine wN_end ?_
    exact ⟨k - 1, i + 1, by omega, ⟨by omega, hk, by omega, hal, cb⟩, rfl, rfl, rfl, trivial⟩
  · have q1 : ¬ ((i : Int) < 16) := of_decide_eq_false q1
    refine wN_seq ?_
    refine wN_mov (v := .slice (some ⟨H.next, 0, none⟩) i 16) rfl ?_
    refine wN_mov (v := .slice (some ⟨H.next, 0, none⟩) i 16) rfl ?_
    refine wN_end ?_
    have e : i = 16 := by omega
    subst e
    rw [mxC_all] at hal
    exact And.intro trivial (Exists.intro _ (And.intro rfl ⟨_, rfl, hk, by omega, hal⟩))
set_option maxRecDepth 100000 in
/-- run -/
theorem run44_ok {s : Nat → Int} {sa : Option Addr} {n cap f : Nat} {rs : List Mc} (hr : Mcs H f sa n cap rs) (hf : f ≤ H.next) (hlo : lo ≤ H.next) (hp : pok (mss rs) = true) (hS : ∀ j, j < 4 → 0 ≤ s j ∧ s j ≤ 1099511627776) : ∃ a H', FnX Try.prog kn lo 44 [.slice sa n cap, .agg (qc s).toArray] H (slv a 16 16) H' ∧ Keep H H' [] ∧ H.next ≤ a ∧ Sc H' a (cc (rnA (mss rs) s) 16) := by
  have key := fnX_low (kn := kn) (lo := lo) (H := H) (args := [.slice sa n cap, .agg (qc s).toArray]) (Q := fun w H' => ∃ a, w = slv a 16 16 ∧ Keep H H' [] ∧ H.next ≤ a ∧ Sc H' a (cc (rnA (mss rs) s) 16)) Try.func44 B44 N44 Z44 L44 (by simp) ?_
  · obtain ⟨w, H', h, a, rfl, q⟩ := key; exact ⟨a, H', h, q⟩
  have hk := Keep.refl H []
  refine wN_seq ?_
  refine wN_box (v := .agg (qc s).toArray) rfl ?_
  intro H1 kH1 nH1 c1
  have c1 : Cl H1 H.next [iv (s 0), iv (s 1), iv (s 2), iv (s 3)] := c1
  have mH1 := kH1.1
  have hk := hk.trans kH1
  have hr := hr.keep kH1 (by simp)
  refine wN_mov (v := .slice none 0 0) rfl ?_
  refine wN_end ?_
  refine wN_seq ?_
  refine wN_pur (v := .agg #[iv 0, iv 0, iv 0, iv 0, iv 0, iv 0, iv 0, iv 0, iv 0, iv 0, iv 0, iv 0, iv 0, iv 0, iv 0, iv 0, iv 0, iv 0, iv 0, iv 0, iv 0, iv 0, iv 0, iv 0, iv 0, iv 0, iv 0, iv 0, iv 0, iv 0, iv 0, iv 0, iv 0, iv 0, iv 0, iv 0, iv 0, iv 0, iv 0, iv 0, iv 0, iv 0, iv 0, iv 0, iv 0, iv 0, iv 0, iv 0, iv 0, iv 0, iv 0, iv 0, iv 0, iv 0, iv 0, iv 0, iv 0, iv 0, iv 0, iv 0, iv 0, iv 0, iv 0, iv 0, iv 0, iv 0, iv 0, iv 0, iv 0, iv 0, iv 0, iv 0, iv 0, iv 0, iv 0, iv 0, iv 0, iv 0, iv 0, iv 0, iv 0, iv 0, iv 0, iv 0, iv 0, iv 0, iv 0, iv 0, iv 0, iv 0, iv 0, iv 0, iv 0, iv 0, iv 0, iv 0, iv 0, iv 0, iv 0, iv 0, iv 0, iv 0, iv 0, iv 0, iv 0, iv 0, iv 0, iv 0, iv 0, iv 0, iv 0, iv 0]) rfl (by kernel_rfl) ?_
  refine wN_alc ?_
  intro H2 kH2 nH2 c2
  have c2 : Cl H2 H1.next [iv 0, iv 0, iv 0, iv 0, iv 0, iv 0, iv 0, iv 0, iv 0, iv 0, iv 0, iv 0, iv 0, iv 0, iv 0, iv 0, iv 0, iv 0, iv 0, iv 0, iv 0, iv 0, iv 0, iv 0, iv 0, iv 0, iv 0, iv 0, iv 0, iv 0, iv 0, iv 0, iv 0, iv 0, iv 0, iv 0, iv 0, iv 0, iv 0, iv 0, iv 0, iv 0, iv 0, iv 0, iv 0, iv 0, iv 0, iv 0, iv 0, iv 0, iv 0, iv 0, iv 0, iv 0, iv 0, iv 0, iv 0, iv 0, iv 0, iv 0, iv 0, iv 0, iv 0, iv 0, iv 0, iv 0, iv 0, iv 0, iv 0, iv 0, iv 0, iv 0, iv 0, iv 0, iv 0, iv 0, iv 0, iv 0, iv 0, iv 0, iv 0, iv 0, iv 0, iv 0, iv 0, iv 0, iv 0, iv 0, iv 0, iv 0, iv 0, iv 0, iv 0, iv 0, iv 0, iv 0, iv 0, iv 0, iv 0, iv 0, iv 0, iv 0, iv 0, iv 0, iv 0, iv 0, iv 0, iv 0, iv 0, iv 0, iv 0, iv 0] := c2
  have mH2 := kH2.1
  have hk := hk.trans kH2
  have hr := hr.keep kH2 (by simp)
  have c1 := kH2.cl c1 (by simp)
  refine wN_sta (b := H1.next) (o := 0) (v := .agg #[iv 0, iv 0, iv 0, iv 0, iv 0, iv 0, iv 0, iv 0, iv 0, iv 0, iv 0, iv 0, iv 0, iv 0, iv 0, iv 0, iv 0, iv 0, iv 0, iv 0, iv 0, iv 0, iv 0, iv 0, iv 0, iv 0, iv 0, iv 0, iv 0, iv 0, iv 0, iv 0, iv 0, iv 0, iv 0, iv 0, iv 0, iv 0, iv 0, iv 0, iv 0, iv 0, iv 0, iv 0, iv 0, iv 0, iv 0, iv 0, iv 0, iv 0, iv 0, iv 0, iv 0, iv 0, iv 0, iv 0, iv 0, iv 0, iv 0, iv 0, iv 0, iv 0, iv 0, iv 0, iv 0, iv 0, iv 0, iv 0, iv 0, iv 0, iv 0, iv 0, iv 0, iv 0, iv 0, iv 0, iv 0, iv 0, iv 0, iv 0, iv 0, iv 0, iv 0, iv 0, iv 0, iv 0, iv 0, iv 0, iv 0, iv 0, iv 0, iv 0, iv 0, iv 0, iv 0, iv 0, iv 0, iv 0, iv 0, iv 0, iv 0, iv 0, iv 0, iv 0, iv 0, iv 0, iv 0, iv 0, iv 0, iv 0, iv 0, iv 0]) rfl rfl c2 (by omega) rfl rfl (by simp) ?_
  intro H3 kH3 nH3 sH3
  have mH3 := kH3.1
  have hk := hk.new kH3 (fun b hb => by simp at hb ⊢; omega)
  have hr := hr.keep kH3 (fun x hx => by simp at hx; omega)
  have c1 := kH3.cl c1 (by first | (simp; done) | (simp; omega))
  obtain ⟨b, eb⟩ : ∃ b, b = H1.next := ⟨_, rfl⟩
  have cb : Cl H3 b (cc cz 28) := by rw [eb]; exact sH3
  rw [← eb]
  have lb := cb.lt
  refine wN_end ?_
  refine wN_seq ?_
  refine wN_mov (v := iv 0) rfl ?_
  refine wN_end ?_
  refine wN_seq ?_
  refine wN_mov (v := .slice sa n cap) rfl ?_
  refine wN_len (m := n) rfl ?_
  refine wN_c_eql (a := (n : Int)) (b := 0) rfl rfl ?_
  refine wN_end ?_
  refine And.intro (fun q1 => ?_) (fun q1 => ?_)
  · have q1 : (n : Int) = 0 := by simpa using q1
    refine wN_seq ?_
    refine wN_mov (v := iv (-1)) rfl ?_
    refine wN_end ?_
    refine wN_seq ?_
    refine wN_mov (v := iv (-1)) rfl ?_
    refine wN_lda (b := H.next) (o := 0) rfl c1.rd (show row 4 _ _ = some [iv (s 0), iv (s 1), iv (s 2), iv (s 3)] from rfl) ?_
    obtain ⟨H4, fH4, kH4⟩ := grams_ok (kn := kn) (lo := lo) (H := H3) (s := s) (by omega)
    refine wN_callf (vs := [.agg (qc s).toArray]) rfl (callX_args fH4) ?_
    have mH4 := kH4.1
    have hk := hk.trans kH4
    have hr := hr.keep kH4 (by simp)
    have c1 := kH4.cl c1 (by simp)
    have cb := kH4.cl cb (by simp)
    have een : (-1 : Int) = (if (mss rs).length = 0 then -1 else 0) := by have := hr.rl; simp only [mss, List.length_map]; split <;> omega
    obtain ⟨H5, fH5, kH5, cH5⟩ := send_ok (kn := kn) (lo := lo) (H := H4) (C := cz) (p := s) (b := b) (to := -1) cb (by omega) (fun j hj => by have := hS j hj; show InR (0 + s j); exact ⟨by omega, by omega⟩) (by omega) (by omega)
    rw [een] at cH5
    refine wN_callf (vs := [pt b, iv (-1), .agg (qc s).toArray]) rfl (callX_args fH5) ?_
    have mH5 := kH5.1
    have hk := hk.new kH5 (fun b hb => by simp at hb ⊢; omega)
    have hr := hr.keep kH5 (fun x hx => by simp at hx; omega)
    have c1 := kH5.cl c1 (by first | (simp; done) | (simp; omega))
    have cb : Cl H5 b (cc (rn (mss rs) s 0) 28) := cH5
    refine wN_end ?_
    refine wN_seq ?_
    refine wN_mov (v := .slice sa n cap) rfl ?_
    refine wN_len (m := n) rfl ?_
    refine wN_mov (v := iv 0) rfl ?_
    refine wN_end ?_
    refine loop_low (fn := Try.f44) E44_1 N44 L44x1 (fun i : Nat => [(5, pt b), (17, .slice sa n cap), (18, iv (n : Int)), (19, iv (i : Int))])
      (fun k i H' => i + k = n ∧ Keep H H' [] ∧ H5.next ≤ H'.next ∧ Mcs H' f sa n cap rs ∧ Cl H' b (cc (rn (mss rs) s i) 28)) n 0 ⟨by omega, hk, Nat.le_refl _, hr, cb⟩ ⟨rfl, rfl, rfl, rfl, trivial⟩ ?_
    rintro k i L1 ⟨hik, hk, hnx, hr, cb⟩
    have mki := hk.1
    have lb := cb.lt
    refine wN_seq ?_
    refine wN_c_lss (a := (i : Int)) (b := (n : Int)) rfl rfl ?_
    refine wN_end ?_
    refine And.intro (fun q2 => ?_) (fun q2 => ?_)
    · have q2 : (i : Int) < (n : Int) := of_decide_eq_true q2
      have hn12 : n ≤ 12 := by have := (pok_t hp).1; simp only [mss, List.length_map] at this; have := hr.rl; omega
      have hi : i < n := by omega
      obtain ⟨sb, so, cs, x, hx, esb, rsb, lsf, lcap, hat, hmem⟩ := hr.opn hi
      obtain ⟨hrs, hrl, hrf⟩ := hr.ri x hmem
      have fs : ∀ b, x.ra = some ⟨b, 0, none⟩ → b < f := fun b e => (hrf b e).1
      have hff : ∀ b, x.ra = some ⟨b, 0, none⟩ → Fy L1 b (ouc x.l) := fun b e => (hrf b e).2
      have hmx := (pok_t hp).2 i (by simp only [mss, List.length_map]; have := hr.rl; omega)
      rw [mss_get hx] at hmx
      first | refine wN_skip ?_ | skip
      refine wN_seq ?_
      refine wN_mov (v := iv (i : Int)) rfl ?_
      refine wN_idx (b := sb) (o := so) (k := i) (j := (i : Int)) (by rw [← esb]; rfl) rfl rfl hi ?_
      refine wN_lda (b := sb) (o := so + i * 1) rfl rsb (row1_of hat) ?_
      refine wN_alc ?_
      intro H6 kH6 nH6 c6
      have c6 : Cl H6 L1.next [.slice none 0 0] := c6
      have mH6 := kH6.1
      have hk := hk.trans kH6
      have hr := hr.keep kH6 (by simp)
      have cb := kH6.cl cb (by simp)
      have rsb := kH6.rd rsb (by simp)
      have hrs := kH6.sl0 hrs
      have hff := fun b e => kH6.fy (hff b e) (by simp)
      refine wN_mov (v := iv (i : Int)) rfl ?_
      refine wN_sta (b := L1.next) (o := 0) rfl rfl c6 (by omega) rfl rfl (by simp) ?_
      intro H7 kH7 nH7 sH7
      have mH7 := kH7.1
      have hk := hk.new kH7 (fun b hb => by simp at hb ⊢; omega)
      have hr := hr.keep kH7 (fun x hx => by simp at hx; omega)
      have cb := kH7.cl cb (by first | (simp; done) | (simp; omega))
      have rsb := kH7.rd rsb (by first | (simp; done) | (simp; omega))
      have hrs := kH7.sl hrs (fun b e => by have := fs b e; first | (simp; done) | (simp; omega))
      have hff := fun b e => kH7.fy (hff b e) (by have := fs b e; simp; omega)
      have c6 : Cl H7 L1.next [.slice x.ra x.n x.cap] := sH7
      refine wN_end ?_
      first | refine wN_reg ?_ | refine wN_blk ?_ | refine wN_bseq ?_ | (refine wOps_nil ?_; refine wN_reg ?_)
      refine wN_mov (v := iv (i : Int)) rfl ?_
      refine wN_addo (b := L1.next) (o := 0) rfl ?_
      refine wN_ld (b := L1.next) (o := 0) (v := .slice x.ra x.n x.cap) rfl c6.rd rfl ?_
      have hlen : (mss rs).length = n := by simp only [mss, List.length_map]; exact hr.rl
      obtain ⟨H8, fH8, kH8, cH8⟩ := work_ok (kn := kn) (lo := lo) (H := H7) (x := x) (C := rn (mss rs) s i) (s := s) (i := i) (b := b) (f := f) hrs hrl hff fs hmx (pok_t hp).1 (rn_inv hp (fun j hj => (hS j hj).1) i (by omega)) (by have := (pok_t hp).1; omega) (fun j hj => (hS j hj).2) cb (by omega) (by omega) (by omega)
      refine wN_callf (vs := [pt b, iv (i : Int), .slice x.ra x.n x.cap]) rfl (callX_args fH8) ?_
      have mH8 := kH8.1
      have hk := hk.new kH8 (fun b hb => by simp at hb ⊢; omega)
      have hr := hr.keep kH8 (fun x hx => by simp at hx; omega)
      have rsb := kH8.rd rsb (by first | (simp; done) | (simp; omega))
      have hrs := kH8.sl hrs (fun b e => by have := fs b e; first | (simp; done) | (simp; omega))
      have hff := fun b e => kH8.fy (hff b e) (by have := fs b e; simp; omega)
      have c6 := kH8.cl c6 (by first | (simp; done) | (simp; omega))
      have cb : Cl H8 b (cc (rn (mss rs) s (i + 1)) 28) := by
        show Cl H8 b (cc (wk (rn (mss rs) s i) i ((mss rs).getD i [])) 28)
        rw [mss_get hx]; exact cH8
      refine wN_end ?_
      first | refine wN_reg ?_ | refine wN_blk ?_ | refine wN_bseq ?_ | (refine wOps_nil ?_; refine wN_reg ?_)
      refine wN_add (a := (i : Int)) (b := 1) rfl rfl ⟨by omega, by omega⟩ ?_
      refine wN_mov (v := iv ((i : Int) + 1)) rfl ?_
      refine wN_end ?_
      exact ⟨k - 1, i + 1, by omega, ⟨by omega, hk, by omega, hr, cb⟩, rfl, rfl, rfl, rfl, trivial⟩
    · have q2 : ¬ ((i : Int) < (n : Int)) := of_decide_eq_false q2
      have e : i = (mss rs).length := by simp only [mss, List.length_map]; have := hr.rl; omega
      subst e
      refine wN_seq ?_
      refine wN_addo (b := b) (o := 0) rfl ?_
      obtain ⟨a, H9, fH9, kH9, ha, hal⟩ := streams_ok (kn := kn) (lo := lo) (H := L1) (C := rnA (mss rs) s) (b := b) cb (by omega)
      refine wN_callf (vs := [pt b]) rfl (callX_args fH9) ?_
      have mH9 := kH9.1
      have hk := hk.trans kH9
      have hr := hr.keep kH9 (by simp)
      have cb := kH9.cl cb (by simp)
      refine wN_mov (v := .slice (some ⟨a, 0, none⟩) 16 16) rfl ?_
      refine wN_end ?_
      exact And.intro trivial (Exists.intro _ (And.intro rfl ⟨_, rfl, hk, by omega, hal⟩))
  · have q1 : ¬ ((n : Int) = 0) := by simpa using q1
    first | refine wN_skip ?_ | skip
    refine wN_seq ?_
    refine wN_mov (v := iv 0) rfl ?_
    refine wN_lda (b := H.next) (o := 0) rfl c1.rd (show row 4 _ _ = some [iv (s 0), iv (s 1), iv (s 2), iv (s 3)] from rfl) ?_
    obtain ⟨H10, fH10, kH10⟩ := grams_ok (kn := kn) (lo := lo) (H := H3) (s := s) (by omega)
    refine wN_callf (vs := [.agg (qc s).toArray]) rfl (callX_args fH10) ?_
    have mH10 := kH10.1
    have hk := hk.trans kH10
    have hr := hr.keep kH10 (by simp)
    have c1 := kH10.cl c1 (by simp)
    have cb := kH10.cl cb (by simp)
    have een : (0 : Int) = (if (mss rs).length = 0 then -1 else 0) := by have := hr.rl; simp only [mss, List.length_map]; split <;> omega
    obtain ⟨H11, fH11, kH11, cH11⟩ := send_ok (kn := kn) (lo := lo) (H := H10) (C := cz) (p := s) (b := b) (to := 0) cb (by omega) (fun j hj => by have := hS j hj; show InR (0 + s j); exact ⟨by omega, by omega⟩) (by omega) (by omega)
    rw [een] at cH11
    refine wN_callf (vs := [pt b, iv 0, .agg (qc s).toArray]) rfl (callX_args fH11) ?_
    have mH11 := kH11.1
    have hk := hk.new kH11 (fun b hb => by simp at hb ⊢; omega)
    have hr := hr.keep kH11 (fun x hx => by simp at hx; omega)
    have c1 := kH11.cl c1 (by first | (simp; done) | (simp; omega))
    have cb : Cl H11 b (cc (rn (mss rs) s 0) 28) := cH11
    refine wN_end ?_
    refine wN_seq ?_
    refine wN_mov (v := .slice sa n cap) rfl ?_
    refine wN_len (m := n) rfl ?_
    refine wN_mov (v := iv 0) rfl ?_
    refine wN_end ?_
    refine loop_low (fn := Try.f44) E44_1 N44 L44x1 (fun i : Nat => [(5, pt b), (17, .slice sa n cap), (18, iv (n : Int)), (19, iv (i : Int))])
      (fun k i H' => i + k = n ∧ Keep H H' [] ∧ H11.next ≤ H'.next ∧ Mcs H' f sa n cap rs ∧ Cl H' b (cc (rn (mss rs) s i) 28)) n 0 ⟨by omega, hk, Nat.le_refl _, hr, cb⟩ ⟨rfl, rfl, rfl, rfl, trivial⟩ ?_
    rintro k i L1 ⟨hik, hk, hnx, hr, cb⟩
    have mki := hk.1
    have lb := cb.lt
    refine wN_seq ?_
    refine wN_c_lss (a := (i : Int)) (b := (n : Int)) rfl rfl ?_
    refine wN_end ?_
    refine And.intro (fun q3 => ?_) (fun q3 => ?_)
    · have q3 : (i : Int) < (n : Int) := of_decide_eq_true q3
      have hn12 : n ≤ 12 := by have := (pok_t hp).1; simp only [mss, List.length_map] at this; have := hr.rl; omega
      have hi : i < n := by omega
      obtain ⟨sb, so, cs, x, hx, esb, rsb, lsf, lcap, hat, hmem⟩ := hr.opn hi
      obtain ⟨hrs, hrl, hrf⟩ := hr.ri x hmem
      have fs : ∀ b, x.ra = some ⟨b, 0, none⟩ → b < f := fun b e => (hrf b e).1
      have hff : ∀ b, x.ra = some ⟨b, 0, none⟩ → Fy L1 b (ouc x.l) := fun b e => (hrf b e).2
      have hmx := (pok_t hp).2 i (by simp only [mss, List.length_map]; have := hr.rl; omega)
      rw [mss_get hx] at hmx
      first | refine wN_skip ?_ | skip
      refine wN_seq ?_
      refine wN_mov (v := iv (i : Int)) rfl ?_
      refine wN_idx (b := sb) (o := so) (k := i) (j := (i : Int)) (by rw [← esb]; rfl) rfl rfl hi ?_
      refine wN_lda (b := sb) (o := so + i * 1) rfl rsb (row1_of hat) ?_
      refine wN_alc ?_
      intro H12 kH12 nH12 c12
      have c12 : Cl H12 L1.next [.slice none 0 0] := c12
      have mH12 := kH12.1
      have hk := hk.trans kH12
      have hr := hr.keep kH12 (by simp)
      have cb := kH12.cl cb (by simp)
      have rsb := kH12.rd rsb (by simp)
      have hrs := kH12.sl0 hrs
      have hff := fun b e => kH12.fy (hff b e) (by simp)
      refine wN_mov (v := iv (i : Int)) rfl ?_
      refine wN_sta (b := L1.next) (o := 0) rfl rfl c12 (by omega) rfl rfl (by simp) ?_
      intro H13 kH13 nH13 sH13
      have mH13 := kH13.1
      have hk := hk.new kH13 (fun b hb => by simp at hb ⊢; omega)
      have hr := hr.keep kH13 (fun x hx => by simp at hx; omega)
      have cb := kH13.cl cb (by first | (simp; done) | (simp; omega))
      have rsb := kH13.rd rsb (by first | (simp; done) | (simp; omega))
      have hrs := kH13.sl hrs (fun b e => by have := fs b e; first | (simp; done) | (simp; omega))
      have hff := fun b e => kH13.fy (hff b e) (by have := fs b e; simp; omega)
      have c12 : Cl H13 L1.next [.slice x.ra x.n x.cap] := sH13
      refine wN_end ?_
      first | refine wN_reg ?_ | refine wN_blk ?_ | refine wN_bseq ?_ | (refine wOps_nil ?_; refine wN_reg ?_)
      refine wN_mov (v := iv (i : Int)) rfl ?_
      refine wN_addo (b := L1.next) (o := 0) rfl ?_
      refine wN_ld (b := L1.next) (o := 0) (v := .slice x.ra x.n x.cap) rfl c12.rd rfl ?_
      have hlen : (mss rs).length = n := by simp only [mss, List.length_map]; exact hr.rl
      obtain ⟨H14, fH14, kH14, cH14⟩ := work_ok (kn := kn) (lo := lo) (H := H13) (x := x) (C := rn (mss rs) s i) (s := s) (i := i) (b := b) (f := f) hrs hrl hff fs hmx (pok_t hp).1 (rn_inv hp (fun j hj => (hS j hj).1) i (by omega)) (by have := (pok_t hp).1; omega) (fun j hj => (hS j hj).2) cb (by omega) (by omega) (by omega)
      refine wN_callf (vs := [pt b, iv (i : Int), .slice x.ra x.n x.cap]) rfl (callX_args fH14) ?_
      have mH14 := kH14.1
      have hk := hk.new kH14 (fun b hb => by simp at hb ⊢; omega)
      have hr := hr.keep kH14 (fun x hx => by simp at hx; omega)
      have rsb := kH14.rd rsb (by first | (simp; done) | (simp; omega))
      have hrs := kH14.sl hrs (fun b e => by have := fs b e; first | (simp; done) | (simp; omega))
      have hff := fun b e => kH14.fy (hff b e) (by have := fs b e; simp; omega)
      have c12 := kH14.cl c12 (by first | (simp; done) | (simp; omega))
      have cb : Cl H14 b (cc (rn (mss rs) s (i + 1)) 28) := by
        show Cl H14 b (cc (wk (rn (mss rs) s i) i ((mss rs).getD i [])) 28)
        rw [mss_get hx]; exact cH14
      refine wN_end ?_
      first | refine wN_reg ?_ | refine wN_blk ?_ | refine wN_bseq ?_ | (refine wOps_nil ?_; refine wN_reg ?_)
      refine wN_add (a := (i : Int)) (b := 1) rfl rfl ⟨by omega, by omega⟩ ?_
      refine wN_mov (v := iv ((i : Int) + 1)) rfl ?_
      refine wN_end ?_
      exact ⟨k - 1, i + 1, by omega, ⟨by omega, hk, by omega, hr, cb⟩, rfl, rfl, rfl, rfl, trivial⟩
    · have q3 : ¬ ((i : Int) < (n : Int)) := of_decide_eq_false q3
      have e : i = (mss rs).length := by simp only [mss, List.length_map]; have := hr.rl; omega
      subst e
      refine wN_seq ?_
      refine wN_addo (b := b) (o := 0) rfl ?_
      obtain ⟨a, H15, fH15, kH15, ha, hal⟩ := streams_ok (kn := kn) (lo := lo) (H := L1) (C := rnA (mss rs) s) (b := b) cb (by omega)
      refine wN_callf (vs := [pt b]) rfl (callX_args fH15) ?_
      have mH15 := kH15.1
      have hk := hk.trans kH15
      have hr := hr.keep kH15 (by simp)
      have cb := kH15.cl cb (by simp)
      refine wN_mov (v := .slice (some ⟨a, 0, none⟩) 16 16) rfl ?_
      refine wN_end ?_
      exact And.intro trivial (Exists.intro _ (And.intro rfl ⟨_, rfl, hk, by omega, hal⟩))
end
end Go.Ax

/-
  Plant: the mathematics of freezing in the order of what is due (no program here) (written by program).
-/
namespace Go.Ax
open Go Go.RowKit

theorem sm_sub (f g : Nat → Int) : ∀ n : Nat, sm (fun i => f i - g i) n = sm f n - sm g n
  | 0 => rfl
  | n + 1 => by
    show sm (fun i => f i - g i) n + (f n - g n) = sm f n + f n - (sm g n + g n)
    rw [sm_sub f g n]; omega
def upd (f : Nat → Int) (m : Nat) (x : Int) : Nat → Int := fun i => if i = m then x else f i
/-- what a lot gets of the room -/
def gt (rd : Nat → Int) (h : Int) (s : (Nat → Int) × Int) (x : Nat) : Int := if rd x ≤ h then min s.2 (s.1 x) else 0
/-- an hour: the lots in the order L -/
def hst (L : Nat → Nat) (rd : Nat → Int) (h R : Int) (left : Nat → Int) : Nat → (Nat → Int) × Int
  | 0 => (left, R)
  | k + 1 => (upd (hst L rd h R left k).1 (L k) ((hst L rd h R left k).1 (L k) - gt rd h (hst L rd h R left k) (L k)), (hst L rd h R left k).2 - gt rd h (hst L rd h R left k) (L k))
structure Hr (n : Nat) (a : Nat → Int) (h R : Int) (l l' : Nat → Int) : Prop where
  nn : ∀ p, p < n → 0 ≤ l' p ∧ l' p ≤ l p
  nr : ∀ p, p < n → h < a p → l' p = l p
  le : ∀ k, k ≤ n → sm (fun p => l p - l' p) k ≤ R
  fu : ∀ k, k ≤ n → sm (fun p => l p - l' p) k = R ∨ ∀ p, p < k → a p ≤ h → l' p = 0
section
variable {L : Nat → Nat} {rd left : Nat → Int} {h R : Int} {n : Nat}
theorem hst_stab (hi : ∀ p q, p < n → q < n → L p = L q → p = q) {k : Nat} : ∀ d, k + d ≤ n → ∀ p, p < k → (hst L rd h R left (k + d)).1 (L p) = (hst L rd h R left k).1 (L p)
  | 0, _, _, _ => rfl
  | d + 1, hd, p, hp => by
    show upd _ (L (k + d)) _ (L p) = _
    unfold upd
    rw [if_neg (fun e => by have := hi _ _ (by omega) (by omega) e; omega)]
    exact hst_stab hi d (by omega) p hp
theorem hst_all (hi : ∀ p q, p < n → q < n → L p = L q → p = q) (hl : ∀ p, p < n → 0 ≤ left (L p)) (hR : 0 ≤ R) : ∀ k, k ≤ n →
    (∀ p, p < n → k ≤ p → (hst L rd h R left k).1 (L p) = left (L p)) ∧ (∀ p, p < n → 0 ≤ (hst L rd h R left k).1 (L p) ∧ (hst L rd h R left k).1 (L p) ≤ left (L p)) ∧
    (∀ p, p < n → h < rd (L p) → (hst L rd h R left k).1 (L p) = left (L p)) ∧ 0 ≤ (hst L rd h R left k).2 ∧ (hst L rd h R left k).2 = R - sm (fun p => left (L p) - (hst L rd h R left k).1 (L p)) k ∧
    ((hst L rd h R left k).2 = 0 ∨ ∀ p, p < k → rd (L p) ≤ h → (hst L rd h R left k).1 (L p) = 0)
  | 0, _ => ⟨fun _ _ _ => rfl, fun p hp => ⟨hl p hp, Int.le_refl _⟩, fun _ _ _ => rfl, hR, by show R = R - 0; omega, .inr fun p hp => absurd hp (by omega)⟩
  | k + 1, hk => by
    obtain ⟨a1, a2, a3, a4, a5, a6⟩ := hst_all hi hl hR k (by omega)
    have st := hst_stab (rd := rd) (left := left) (h := h) (R := R) hi (k := k) 1 (by omega)
    have b1 := a2 k (by omega)
    have e1 := a1 k (by omega) (Nat.le_refl _)
    have g0 : 0 ≤ gt rd h (hst L rd h R left k) (L k) ∧ gt rd h (hst L rd h R left k) (L k) ≤ (hst L rd h R left k).2 ∧ gt rd h (hst L rd h R left k) (L k) ≤ (hst L rd h R left k).1 (L k) ∧ (h < rd (L k) → gt rd h (hst L rd h R left k) (L k) = 0) ∧ (rd (L k) ≤ h → gt rd h (hst L rd h R left k) (L k) = (hst L rd h R left k).2 ∨ gt rd h (hst L rd h R left k) (L k) = (hst L rd h R left k).1 (L k)) := by
      unfold gt; split <;> omega
    have other : ∀ p, p < n → p ≠ k → (hst L rd h R left (k + 1)).1 (L p) = (hst L rd h R left k).1 (L p) := fun p hp e => by
      show upd _ (L k) _ (L p) = _
      unfold upd; rw [if_neg (fun q => e (hi _ _ hp (by omega) q))]
    have own : (hst L rd h R left (k + 1)).1 (L k) = (hst L rd h R left k).1 (L k) - gt rd h (hst L rd h R left k) (L k) := by
      show upd _ (L k) _ (L k) = _
      unfold upd; rw [if_pos rfl]
    have room : (hst L rd h R left (k + 1)).2 = (hst L rd h R left k).2 - gt rd h (hst L rd h R left k) (L k) := rfl
    refine ⟨fun p hp hkp => ?_, fun p hp => ?_, fun p hp hq => ?_, by omega, ?_, ?_⟩
    · rw [other p hp (by omega)]; exact a1 p hp (by omega)
    · by_cases e : p = k
      · subst e; rw [own]; omega
      · rw [other p hp e]; exact a2 p hp
    · by_cases e : p = k
      · subst e; rw [own, g0.2.2.2.1 hq]; omega
      · rw [other p hp e]; exact a3 p hp hq
    · rw [room, a5]
      show _ = R - (sm (fun p => left (L p) - (hst L rd h R left (k + 1)).1 (L p)) k + (left (L k) - (hst L rd h R left (k + 1)).1 (L k)))
      have e1 : sm (fun p => left (L p) - (hst L rd h R left (k + 1)).1 (L p)) k = sm (fun p => left (L p) - (hst L rd h R left k).1 (L p)) k := sm_congr fun p hp => by rw [other p (by omega) (by omega)]
      rw [e1, own]
      omega
    · by_cases e0 : (hst L rd h R left (k + 1)).2 = 0
      · exact .inl e0
      · right
        intro p hp hq
        rcases a6 with q | q
        · exfalso; omega
        · by_cases e : p = k
          · subst e; rw [own]; rcases g0.2.2.2.2 hq with z | z <;> omega
          · rw [other p (by omega) e]; exact q p (by omega) hq
theorem hst_hr (hi : ∀ p q, p < n → q < n → L p = L q → p = q) (hl : ∀ p, p < n → 0 ≤ left (L p)) (hR : 0 ≤ R) : Hr n (fun p => rd (L p)) h R (fun p => left (L p)) (fun p => (hst L rd h R left n).1 (L p)) := by
  obtain ⟨_, b2, b3, _, _, _⟩ := hst_all (rd := rd) (h := h) hi hl hR n (Nat.le_refl _)
  have st : ∀ k, k ≤ n → ∀ p, p < k → (hst L rd h R left n).1 (L p) = (hst L rd h R left k).1 (L p) := fun k hk p hp => by
    have := hst_stab (rd := rd) (left := left) (h := h) (R := R) hi (k := k) (n - k) (by omega) p hp
    rwa [show k + (n - k) = n by omega] at this
  refine ⟨b2, b3, fun k hk => ?_, fun k hk => ?_⟩
  · obtain ⟨_, _, _, a4, a5, _⟩ := hst_all (rd := rd) (h := h) hi hl hR k hk
    rw [sm_congr (g := fun p => left (L p) - (hst L rd h R left k).1 (L p)) (n := k) (fun p hp => by rw [st k hk p hp])]
    omega
  · obtain ⟨_, _, _, a4, a5, a6⟩ := hst_all (rd := rd) (h := h) hi hl hR k hk
    rw [sm_congr (g := fun p => left (L p) - (hst L rd h R left k).1 (L p)) (n := k) (fun p hp => by rw [st k hk p hp])]
    rcases a6 with q | q
    · left; omega
    · exact .inr fun p hp hq => by rw [st k hk p hp]; exact q p hp hq
end
/-- many hours, the lots by their place in the order -/
structure Sim (n : Nat) (a m : Nat → Int) (R : Int) (l : Nat → Nat → Int) : Prop where
  z : ∀ p, p < n → l 0 p = m p
  h : ∀ t : Nat, Hr n a t R (l t) (l (t + 1))
  mp : ∀ p, p < n → 0 ≤ m p
  a0 : ∀ p, p < n → 0 ≤ a p
  r0 : 0 ≤ R
namespace Sim
variable {n : Nat} {a m : Nat → Int} {R : Int} {l : Nat → Nat → Int} (S : Sim n a m R l)
include S
theorem nn (t : Nat) {p : Nat} (hp : p < n) : 0 ≤ l t p := by
  cases t with
  | zero => rw [S.z p hp]; exact S.mp p hp
  | succ t => exact ((S.h t).nn p hp).1
theorem anti {p : Nat} (hp : p < n) (t : Nat) : ∀ j, l (t + j) p ≤ l t p
  | 0 => Int.le_refl _
  | j + 1 => Int.le_trans ((S.h (t + j)).nn p hp).2 (anti hp t j)
theorem zero {p : Nat} (hp : p < n) {t u : Nat} (h : t ≤ u) (hz : l t p = 0) : l u p = 0 := by
  have := S.anti hp t (u - t); rw [show t + (u - t) = u by omega] at this
  have := S.nn u hp; omega
theorem un {p : Nat} (hp : p < n) : ∀ t : Nat, (t : Int) ≤ a p → l t p = m p
  | 0, _ => S.z p hp
  | t + 1, h => by rw [(S.h t).nr p hp (by omega)]; exact un hp t (by omega)
theorem drop (c : Nat → Bool) {k : Nat} (hk : k ≤ n) (t : Nat) : ∀ j : Nat, sm (fun p => if c p then l t p else 0) k ≤ sm (fun p => if c p then l (t + j) p else 0) k + R * j
  | 0 => by
    have : R * ((0 : Nat) : Int) = 0 := by simp
    rw [this]; exact Int.le_of_eq (by simp)
  | j + 1 => by
    have ih := drop c hk t j
    have e : R * ((j + 1 : Nat) : Int) = R * j + R := by rw [Int.natCast_add, Int.mul_add]; simp
    have le := (S.h (t + j)).le k hk
    have : sm (fun p => if c p then l (t + j) p else 0) k - sm (fun p => if c p then l (t + (j + 1)) p else 0) k ≤ sm (fun p => l (t + j) p - l (t + j + 1) p) k := by
      rw [← sm_sub]
      refine sm_le fun p hp => ?_
      have := ((S.h (t + j)).nn p (by omega)).2
      show (if c p then l (t + j) p else 0) - (if c p then l (t + (j + 1)) p else 0) ≤ l (t + j) p - l (t + j + 1) p
      rw [show t + (j + 1) = t + j + 1 by omega]
      split <;> omega
    omega
/-- what is there from t to T -/
abbrev wn (a : Nat → Int) (f : Nat → Int) (t T : Nat) (k : Nat) : Int := sm (fun p => if (t : Int) ≤ a p ∧ a p ≤ T then f p else 0) k
theorem fwd {k : Nat} (hk : k ≤ n) {T : Nat} (hc : ∀ p, p < k → a p ≤ T → l (T + 1) p = 0) {t : Nat} (ht : t ≤ T) : wn a m t T k ≤ R * ((T : Int) + 1 - t) := by
  have d := S.drop (fun p => decide ((t : Int) ≤ a p ∧ a p ≤ T)) hk t (T + 1 - t)
  rw [show t + (T + 1 - t) = T + 1 by omega, show ((T + 1 - t : Nat) : Int) = (T : Int) + 1 - t by omega] at d
  have e1 : sm (fun p => if decide ((t : Int) ≤ a p ∧ a p ≤ T) = true then l (T + 1) p else 0) k = 0 := sm_zero fun p hp => by
    split
    · rename_i q; simp only [decide_eq_true_eq] at q; exact hc p hp q.2
    · rfl
  have e2 : sm (fun p => if decide ((t : Int) ≤ a p ∧ a p ≤ T) = true then l t p else 0) k = wn a m t T k := sm_congr fun p hp => by
    simp only [decide_eq_true_eq]
    split
    · rename_i q; exact S.un (by omega) t q.1
    · rfl
  rw [e1, e2] at d; omega
theorem bwd {k : Nat} (hk : k ≤ n) : ∀ T : Nat, (∃ p, p < k ∧ a p ≤ T ∧ l (T + 1) p ≠ 0) → ∃ t : Nat, t ≤ T ∧ R * ((T : Int) + 1 - t) + wn a (l (T + 1)) t T k ≤ wn a m t T k ∧ ∀ p, p < k → a p < t → l (T + 1) p = 0
  | T, ⟨p0, hp0, ha0, hl0⟩ => by
    have full : sm (fun p => l T p - l (T + 1) p) k = R := by
      rcases (S.h T).fu k hk with q | q
      · exact q
      · exact absurd (q p0 hp0 ha0) hl0
    by_cases hc : ∀ p, p < k → a p < T → l T p = 0
    · refine ⟨T, Nat.le_refl _, ?_, fun p hp hq => S.zero (by omega) (Nat.le_succ T) (hc p hp hq)⟩
      rw [show (T : Int) + 1 - T = 1 by omega, Int.mul_one]
      have : wn a m T T k - wn a (l (T + 1)) T T k = sm (fun p => l T p - l (T + 1) p) k := by
        unfold wn
        rw [← sm_sub]
        refine sm_congr fun p hp => ?_
        by_cases q : (T : Int) ≤ a p ∧ a p ≤ T
        · rw [if_pos q, if_pos q, S.un (by omega) T q.1]
        · rw [if_neg q, if_neg q]
          by_cases q2 : a p < T
          · rw [hc p hp q2, S.zero (by omega) (Nat.le_succ T) (hc p hp q2)]
          · rw [(S.h T).nr p (by omega) (by omega)]; omega
      omega
    · have hex : ∃ p, p < k ∧ a p < T ∧ l T p ≠ 0 := by
        refine Classical.byContradiction fun q => hc fun p hp hq => ?_
        exact Classical.byContradiction fun z => q ⟨p, hp, hq, z⟩
      obtain ⟨p1, hp1, ha1, hl1⟩ := hex
      match T, ha0, hl0, full, ha1, hl1 with
      | 0, _, _, _, ha1, _ => exact absurd ha1 (by have := S.a0 p1 (by omega); omega)
      | T + 1, ha0, hl0, full, ha1, hl1 =>
        obtain ⟨t, ht, hs, hz⟩ := bwd hk T ⟨p1, hp1, by omega, hl1⟩
        refine ⟨t, by omega, ?_, fun p hp hq => S.zero (by omega) (Nat.le_succ _) (hz p hp hq)⟩
        have e : R * (((T + 1 : Nat) : Int) + 1 - t) = R * ((T : Int) + 1 - t) + R := by
          rw [show ((T + 1 : Nat) : Int) + 1 - t = (T : Int) + 1 - t + 1 by omega, Int.mul_add, Int.mul_one]
        have : wn a m t (T + 1) k - wn a (l (T + 1 + 1)) t (T + 1) k = (wn a m t T k - wn a (l (T + 1)) t T k) + sm (fun p => l (T + 1) p - l (T + 1 + 1) p) k := by
          unfold wn
          rw [← sm_sub, ← sm_sub, ← sm_add]
          refine sm_congr fun p hp => ?_
          have u := fun q => S.un (p := p) (by omega) (T + 1) q
          have v := fun q => (S.h (T + 1)).nr p (by omega) q
          have z1 := hz p hp
          have z2 := fun q => S.zero (p := p) (by omega) (Nat.le_succ (T + 1)) (hz p hp q)
          by_cases c1 : (t : Int) ≤ a p
          · by_cases c2 : a p ≤ T
            · rw [if_pos ⟨c1, by omega⟩, if_pos ⟨c1, by omega⟩, if_pos ⟨c1, c2⟩, if_pos ⟨c1, c2⟩]; omega
            · by_cases c3 : a p ≤ ((T + 1 : Nat) : Int)
              · rw [if_pos ⟨c1, c3⟩, if_pos ⟨c1, c3⟩, if_neg (by omega), if_neg (by omega), u (by omega)]; omega
              · rw [if_neg (by omega), if_neg (by omega), if_neg (by omega), if_neg (by omega), v (by omega)]; omega
          · rw [if_neg (by omega), if_neg (by omega), if_neg (by omega), if_neg (by omega), z1 (by omega), z2 (by omega)]; rfl
        omega
theorem more {k : Nat} (hk : k ≤ n) {T : Nat} (h : ∃ p, p < k ∧ a p ≤ T ∧ l (T + 1) p ≠ 0) : ∃ t : Nat, t ≤ T ∧ R * ((T : Int) + 1 - t) < wn a m t T k := by
  obtain ⟨t, ht, hs, hz⟩ := S.bwd hk T h
  obtain ⟨p, hp, ha, hl⟩ := h
  refine ⟨t, ht, ?_⟩
  have c1 : (t : Int) ≤ a p := Classical.byContradiction fun q => hl (hz p hp (by omega))
  have nn : ∀ q, q < k → 0 ≤ (if (t : Int) ≤ a q ∧ a q ≤ T then l (T + 1) q else 0) := fun q hq => by
    split
    · exact S.nn _ (by omega)
    · exact Int.le_refl _
  have := sm_term (t := p) nn hp
  simp only [if_pos (And.intro c1 ha)] at this
  have := S.nn (T + 1) (p := p) (by omega)
  show _ < sm _ k
  unfold wn at hs
  omega
/-- all of the first k that are there are done behind the hour T, just if there is room for them -/
theorem clear {k : Nat} (hk : k ≤ n) (T : Nat) : (∀ p, p < k → a p ≤ T → l (T + 1) p = 0) ↔ ∀ t : Nat, t ≤ T → wn a m t T k ≤ R * ((T : Int) + 1 - t) := by
  constructor
  · exact fun h t ht => S.fwd hk h ht
  · intro h p hp ha
    refine Classical.byContradiction fun q => ?_
    obtain ⟨t, ht, hs⟩ := S.more hk ⟨p, hp, ha, q⟩
    have := h t ht; omega
end Sim
end Go.Ax

/-
  Plant: the order of the lots (insertion), the hours (written by program).
-/
namespace Go.Ax
open Go Go.RowKit

def swp (L : Nat → Nat) (j : Nat) : Nat → Nat := fun p => if p = j then L (j - 1) else if p = j - 1 then L j else L p
def ins (du : Nat → Int) : Nat → (Nat → Nat) → (Nat → Nat)
  | 0, L => L
  | j + 1, L => if du (L (j + 1)) < du (L j) then ins du j (swp L (j + 1)) else L
def srt (du : Nat → Int) : Nat → (Nat → Nat)
  | 0 => id
  | i + 1 => ins du i (srt du i)
def ltL (du : Nat → Int) (a b : Nat) : Prop := du a < du b ∨ (du a = du b ∧ a < b)
theorem ltL_trans {du : Nat → Int} {a b c : Nat} (h : ltL du a b) (k : ltL du b c) : ltL du a c := by unfold ltL at *; omega
theorem sm_swp {f : Nat → Int} {L : Nat → Nat} {j n : Nat} (h0 : 0 < j) (hn : j < n) : sm (fun p => f (swp L j p)) n = sm (fun p => f (L p)) n := by
  have a : sm (fun p => if p = j then f (L (j - 1)) else f (L p)) n = sm (fun p => f (L p)) n + (f (L (j - 1)) - f (L j)) := by
    refine sm_upd (t := j) ?_ ?_ hn
    · show (if j = j then f (L (j - 1)) else f (L j)) = f (L j) + (f (L (j - 1)) - f (L j)); rw [if_pos rfl]; omega
    · intro i e; show (if i = j then f (L (j - 1)) else f (L i)) = f (L i); rw [if_neg e]
  have b : sm (fun p => f (swp L j p)) n = sm (fun p => if p = j then f (L (j - 1)) else f (L p)) n + (f (L j) - f (L (j - 1))) := by
    refine sm_upd (t := j - 1) ?_ ?_ (by omega)
    · show f (swp L j (j - 1)) = (if j - 1 = j then f (L (j - 1)) else f (L (j - 1))) + (f (L j) - f (L (j - 1)))
      unfold swp; rw [if_neg (by omega), if_pos rfl, if_neg (by omega)]; omega
    · intro i e
      show f (swp L j i) = (if i = j then f (L (j - 1)) else f (L i))
      unfold swp
      by_cases q : i = j
      · rw [if_pos q, if_pos q]
      · rw [if_neg q, if_neg q, if_neg e]
  omega
structure OO (du : Nat → Int) (n i : Nat) (L : Nat → Nat) : Prop where
  lt : ∀ p, p < n → L p < n
  su : ∀ f : Nat → Int, sm (fun p => f (L p)) n = sm f n
  tl : ∀ p, p < n → i ≤ p → L p = p
  lw : ∀ p, p < i → L p < i
  so : ∀ p q, p < q → q < i → ltL du (L p) (L q)
structure JJ (du : Nat → Int) (n i j : Nat) (L : Nat → Nat) : Prop where
  lt : ∀ p, p < n → L p < n
  su : ∀ f : Nat → Int, sm (fun p => f (L p)) n = sm f n
  tl : ∀ p, p < n → i < p → L p = p
  cu : L j = i
  lw : ∀ p, p ≤ i → p ≠ j → L p < i
  so : ∀ p q, p < q → q ≤ i → p ≠ j → q ≠ j → ltL du (L p) (L q)
  af : ∀ q, j < q → q ≤ i → ltL du (L j) (L q)
theorem OO.jj {du : Nat → Int} {n i : Nat} {L : Nat → Nat} (h : OO du n i L) (hi : i < n) : JJ du n i i L :=
  ⟨h.lt, h.su, fun p a b => h.tl p a (by omega), h.tl i hi (Nat.le_refl _), fun p a b => h.lw p (by omega), fun p q a b _ d => h.so p q a (by omega), fun q a b => absurd a (by omega)⟩
theorem JJ.step {du : Nat → Int} {n i j : Nat} {L : Nat → Nat} (h : JJ du n i (j + 1) L) (hi : i < n) (hj : j + 1 ≤ i) (hd : du (L (j + 1)) < du (L j)) : JJ du n i j (swp L (j + 1)) := by
  have e1 : swp L (j + 1) (j + 1) = L j := by unfold swp; rw [if_pos rfl]; rfl
  have e2 : swp L (j + 1) j = L (j + 1) := by unfold swp; rw [if_neg (by omega), if_pos (by omega)]
  have e3 : ∀ p, p ≠ j → p ≠ j + 1 → swp L (j + 1) p = L p := fun p a b => by unfold swp; rw [if_neg b, if_neg (by omega)]
  refine ⟨fun p hp => ?_, fun f => ?_, fun p a b => ?_, by rw [e2]; exact h.cu, fun p a b => ?_, fun p q a b c d => ?_, fun q a b => ?_⟩
  · by_cases a : p = j + 1
    · subst a; rw [e1]; exact h.lt j (by omega)
    · by_cases b : p = j
      · subst b; rw [e2]; exact h.lt _ (by omega)
      · rw [e3 p b a]; exact h.lt p hp
  · rw [sm_swp (by omega) (by omega)]; exact h.su f
  · rw [e3 p (by omega) (by omega)]; exact h.tl p a b
  · by_cases q : p = j + 1
    · subst q; rw [e1]; exact h.lw j (by omega) (by omega)
    · rw [e3 p b q]; exact h.lw p a q
  · by_cases x : p = j + 1
    · subst x; rw [e1, e3 q d (by omega)]; exact h.so j q (by omega) b (by omega) (by omega)
    · by_cases y : q = j + 1
      · subst y; rw [e1, e3 p c x]; exact h.so p j (by omega) (by omega) x (by omega)
      · rw [e3 p c x, e3 q d y]; exact h.so p q a b x y
  · rw [e2]
    by_cases y : q = j + 1
    · subst y; rw [e1]; exact .inl hd
    · rw [e3 q (by omega) y]; exact h.af q (by omega) b
theorem JJ.fin {du : Nat → Int} {n i j : Nat} {L : Nat → Nat} (h : JJ du n i j L) (hi : i < n) (hj : j ≤ i) (hd : j = 0 ∨ du (L (j - 1)) ≤ du (L j)) : OO du n (i + 1) L := by
  refine ⟨h.lt, h.su, fun p a b => h.tl p a (by omega), fun p hp => ?_, fun p q a b => ?_⟩
  · by_cases e : p = j
    · subst e; rw [h.cu]; omega
    · have := h.lw p (by omega) e; omega
  · by_cases x : p = j
    · subst x; exact h.af q a (by omega)
    · by_cases y : q = j
      · subst y
        have key : ltL du (L (q - 1)) (L q) := by
          have l := h.lw (q - 1) (by omega) (by omega)
          have c := h.cu
          unfold ltL; omega
        by_cases z : p = q - 1
        · rw [z]; exact key
        · exact ltL_trans (h.so p (q - 1) (by omega) (by omega) x (by omega)) key
      · exact h.so p q a (by omega) x y
theorem ins_ok {du : Nat → Int} {n i : Nat} (hi : i < n) : ∀ j L, j ≤ i → JJ du n i j L → OO du n (i + 1) (ins du j L)
  | 0, L, _, h => h.fin hi (by omega) (.inl rfl)
  | j + 1, L, hj, h => by
    unfold ins
    by_cases e : du (L (j + 1)) < du (L j)
    · rw [if_pos e]; exact ins_ok hi j _ (by omega) (h.step hi hj e)
    · rw [if_neg e]; exact h.fin hi hj (.inr (by show du (L j) ≤ du (L (j + 1)); omega))
theorem srt_ok {du : Nat → Int} {n : Nat} : ∀ i, i ≤ n → OO du n i (srt du i)
  | 0, _ => ⟨fun p hp => hp, fun f => rfl, fun p _ _ => rfl, fun p hp => absurd hp (by omega), fun p q _ hq => absurd hq (by omega)⟩
  | i + 1, hi => ins_ok (by omega) i _ (Nat.le_refl _) ((srt_ok i (by omega)).jj (by omega))
theorem OO.inj {du : Nat → Int} {n : Nat} {L : Nat → Nat} (h : OO du n n L) (p q : Nat) (hp : p < n) (hq : q < n) (e : L p = L q) : p = q := by
  rcases Nat.lt_trichotomy p q with a | a | a
  · have := h.so p q a hq; rw [e] at this; unfold ltL at this; omega
  · exact a
  · have := h.so q p a hp; rw [e] at this; unfold ltL at this; omega
/-- the hours -/
def lfA (L : Nat → Nat) (rd : Nat → Int) (R : Int) (ms : Nat → Int) (n : Nat) : Nat → (Nat → Int)
  | 0 => ms
  | t + 1 => (hst L rd t R (lfA L rd R ms n t) n).1
def dst (L : Nat → Nat) (rd : Nat → Int) (h R : Int) (left dn : Nat → Int) : Nat → (Nat → Int)
  | 0 => dn
  | k + 1 => if 0 < (hst L rd h R left k).1 (L k) ∧ (hst L rd h R left (k + 1)).1 (L k) = 0 then upd (dst L rd h R left dn k) (L k) (h + 1) else dst L rd h R left dn k
def dn0 (rd ms : Nat → Int) : Nat → Int := fun x => if ms x = 0 then rd x else 501
def dnA (L : Nat → Nat) (rd : Nat → Int) (R : Int) (ms : Nat → Int) (n : Nat) : Nat → (Nat → Int)
  | 0 => dn0 rd ms
  | t + 1 => dst L rd t R (lfA L rd R ms n t) (dnA L rd R ms n t) n
/-- no room is left: nothing changes any more -/
theorem hst_stop {L : Nat → Nat} {rd left : Nat → Int} {h R : Int} {n k : Nat} (hnn : ∀ q, q ≤ n → ∀ p, p < n → 0 ≤ (hst L rd h R left q).1 (L p)) (h0 : (hst L rd h R left k).2 = 0) : ∀ d, k + d ≤ n → (hst L rd h R left (k + d)) = hst L rd h R left k
  | 0, _ => rfl
  | d + 1, hd => by
    have ih := hst_stop hnn h0 d (by omega)
    have g : gt rd h (hst L rd h R left (k + d)) (L (k + d)) = 0 := by
      have := hnn (k + d) (by omega) (k + d) (by omega)
      unfold gt; rw [ih] at this ⊢; rw [h0]; split <;> omega
    show (upd (hst L rd h R left (k + d)).1 (L (k + d)) ((hst L rd h R left (k + d)).1 (L (k + d)) - gt rd h (hst L rd h R left (k + d)) (L (k + d))), (hst L rd h R left (k + d)).2 - gt rd h (hst L rd h R left (k + d)) (L (k + d))) = _
    rw [g, Int.sub_zero, Int.sub_zero]
    rw [show upd (hst L rd h R left (k + d)).1 (L (k + d)) ((hst L rd h R left (k + d)).1 (L (k + d))) = (hst L rd h R left (k + d)).1 from by
      funext x; unfold upd; split
      · rename_i e; rw [e]
      · rfl]
    exact ih
theorem dst_stop {L : Nat → Nat} {rd left dn : Nat → Int} {h R : Int} {n k : Nat} (hnn : ∀ q, q ≤ n → ∀ p, p < n → 0 ≤ (hst L rd h R left q).1 (L p)) (h0 : (hst L rd h R left k).2 = 0) : ∀ d, k + d ≤ n → dst L rd h R left dn (k + d) = dst L rd h R left dn k
  | 0, _ => rfl
  | d + 1, hd => by
    have e1 := hst_stop hnn h0 d (by omega)
    have e2 := hst_stop hnn h0 (d + 1) hd
    show (if 0 < (hst L rd h R left (k + d)).1 (L (k + d)) ∧ (hst L rd h R left (k + (d + 1))).1 (L (k + d)) = 0 then _ else _) = _
    rw [e1, e2, if_neg (by omega)]
    exact dst_stop hnn h0 d (by omega)
end Go.Ax

/-
  Plant: lists of numbers that a function gives (written by program).
-/
namespace Go.Ax
open Go Go.RowKit

def nf (f : Nat → Int) (n : Nat) : List Value := ints ((List.range n).map f)
theorem nf_len (f : Nat → Int) (n : Nat) : (nf f n).length = n := by unfold nf; rw [ints_len]; simp
theorem nf_get {f : Nat → Int} {n k : Nat} (h : k < n) : ((List.range n).map f)[k]? = some (f k) := by rw [List.getElem?_map, List.getElem?_range h]; rfl
theorem nf_at {f : Nat → Int} {n k : Nat} (h : k < n) : (nf f n)[0 + k * 1]? = some (iv (f k)) := ints_at (nf_get h)
theorem nf_congr {f g : Nat → Int} {n : Nat} (h : ∀ k, k < n → f k = g k) : nf f n = nf g n := by
  unfold nf; rw [List.map_congr_left (fun r hr => h r (List.mem_range.1 hr))]
theorem nf_set {f : Nat → Int} {n k : Nat} {v : Int} (h : k < n) : (nf f n).set (0 + k * 1) (iv v) = nf (upd f k v) n := by
  have e : (nf f n).set (0 + k * 1) (iv v) = ints (((List.range n).map f).set k v) := by
    unfold nf ints; rw [List.map_set, Nat.zero_add, Nat.mul_one]
  rw [e]
  unfold nf
  congr 1
  apply List.ext_getElem?
  intro i
  by_cases hi : i < n
  · rw [nf_get hi, List.getElem?_set]
    by_cases e : k = i
    · subst e; rw [if_pos rfl, if_pos (by simpa using h)]; unfold upd; rw [if_pos rfl]
    · rw [if_neg e, nf_get hi]; unfold upd; rw [if_neg (fun q => e q.symm)]
  · rw [List.getElem?_eq_none (by simp; omega), List.getElem?_eq_none (by simp; omega)]
theorem nf_succ (f : Nat → Int) (n : Nat) : nf f (n + 1) = nf f n ++ [iv (f n)] := by
  unfold nf; rw [List.range_succ, List.map_append]; simp [ints]
theorem zeros_nf (n : Nat) : zeros [iv 0] n = nf (fun _ => 0) n := by
  rw [zeros_flat (f := fun x : Int => [iv x]) (z := 0)]
  unfold nf
  have e : (List.range n).map (fun _ => (0 : Int)) = List.replicate n 0 := by
    apply List.ext_getElem?
    intro i
    by_cases hi : i < n
    · rw [List.getElem?_map, List.getElem?_range hi, List.getElem?_replicate, if_pos hi]; rfl
    · rw [List.getElem?_eq_none (by simp; omega), List.getElem?_eq_none (by simp; omega)]
  rw [e]
  generalize List.replicate n (0 : Int) = l
  induction l with
  | nil => rfl
  | cons a l ih => rw [List.flatMap_cons, ih]; rfl
def duF (us : List Fz) (x : Nat) : Int := (us.getD x Fz.z).du
def rdF (us : List Fz) (x : Nat) : Int := (us.getD x Fz.z).rd
def msF (us : List Fz) (x : Nat) : Int := (us.getD x Fz.z).ms
theorem Fz.at {us : List Fz} {i : Nat} {x : Fz} (h : us[i]? = some x) : duF us i = x.du ∧ rdF us i = x.rd ∧ msF us i = x.ms := by
  unfold duF rdF msF
  rw [List.getD_eq_getElem?_getD, h]; exact ⟨rfl, rfl, rfl⟩
def sgn (a b : Int) : Int := if a < b then -1 else if a > b then 1 else 0
theorem sgn_lt {a b : Int} : sgn a b < 0 ↔ a < b := by unfold sgn; split <;> (try split) <;> omega
theorem swp_nf {L : Nat → Nat} {n j : Nat} (hj : j < n) (h0 : 0 < j) : nf (upd (upd (fun p => (L p : Int)) j (L (j - 1))) (j - 1) (L j)) n = nf (fun p => (swp L j p : Int)) n := nf_congr fun k hk => by
  unfold upd swp
  by_cases a : k = j - 1
  · rw [if_pos a, if_neg (by omega), if_pos a]
  · rw [if_neg a]
    by_cases b : k = j
    · rw [if_pos b, if_pos b]
    · rw [if_neg b, if_neg b, if_neg a]
theorem swp_lt {L : Nat → Nat} {n j : Nat} (h : ∀ p, p < n → L p < n) (hj : j < n) : ∀ p, p < n → swp L j p < n := fun p hp => by
  unfold swp; split
  · exact h _ (by omega)
  · split
    · exact h _ hj
    · exact h _ hp
theorem ins_go {du : Nat → Int} {j : Nat} {L : Nat → Nat} (h0 : 0 < j) (h : du (L j) < du (L (j - 1))) : ins du j L = ins du (j - 1) (swp L j) := by
  obtain ⟨m, rfl⟩ : ∃ m, j = m + 1 := ⟨j - 1, by omega⟩
  have h2 : du (L (m + 1)) < du (L m) := h
  show (if du (L (m + 1)) < du (L m) then _ else _) = _
  rw [if_pos h2]; rfl
theorem ins_end {du : Nat → Int} {j : Nat} {L : Nat → Nat} (h : j = 0 ∨ ¬ du (L j) < du (L (j - 1))) : ins du j L = L := by
  cases j with
  | zero => rfl
  | succ m =>
    have q : ¬ du (L (m + 1)) < du (L m) := h.elim (fun e => absurd e (by omega)) (fun q => q)
    show (if du (L (m + 1)) < du (L m) then _ else _) = _
    rw [if_neg q]
def Fz.ok (x : Fz) : Bool := isw x.du 500 && isw x.rd x.du && isw x.ms 1099511627776
theorem Fz.ok_t {x : Fz} (h : x.ok = true) : (0 ≤ x.du ∧ x.du ≤ 500) ∧ (0 ≤ x.rd ∧ x.rd ≤ x.du) ∧ 0 ≤ x.ms ∧ x.ms ≤ 1099511627776 := by
  unfold Fz.ok at h; simp only [Bool.and_eq_true] at h
  exact ⟨isw_t h.1.1, isw_t h.1.2, isw_t h.2⟩
/-- the error of lots -/
def chkF (us : List Fz) : Int := if us.length > 16 then 3 else if us.all Fz.ok then 0 else 1
theorem all_at {us : List Fz} (h : us.all Fz.ok = true) {i : Nat} (hi : i < us.length) : (0 ≤ duF us i ∧ duF us i ≤ 500) ∧ (0 ≤ rdF us i ∧ rdF us i ≤ duF us i) ∧ 0 ≤ msF us i ∧ msF us i ≤ 1099511627776 := by
  obtain ⟨x, hx⟩ := get_some hi
  obtain ⟨a, b, c⟩ := Fz.at hx
  rw [a, b, c]
  exact Fz.ok_t (List.all_eq_true.1 h x (List.mem_of_getElem? hx))
end Go.Ax


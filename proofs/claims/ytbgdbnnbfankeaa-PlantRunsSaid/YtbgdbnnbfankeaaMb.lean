import Derived.Test.YtbgdbnnbfankeaaMa
import Derived.Test.YtbgdbnnbfankeaaAxW9
import Derived.Test.YtbgdbnnbfankeaaChecked
set_option linter.all false
/-! What 'low' makes of functions of plant (written by program). -/
namespace Go.Ax
open Go Go.RowKit Go.Proofs
theorem N95 : Try.f95.ntmps = 12 := by kernel_rfl
theorem Z95 : Try.f95.results.toList = ((List.toArray [(.tmp 4)]) : Array ResultVar).toList := by kernel_rfl
theorem B95 : Try.f95.body = some (at_ Try.f95 []) := by kernel_rfl
noncomputable def R95 : RC := (.seq (.reg [⟨(some 4), none, (.mov (.const (.bool false)))⟩])
  (.seq (.reg [⟨(some 5), none, (.mov (.tmp 0))⟩, ⟨(some 6), none, (.cmpb .leq (.const (.int .i64 0)) (.tmp 5))⟩, ⟨(some 7), none, (.mov (.tmp 6))⟩, ⟨(some 8), (some (7, true)), (.mov (.tmp 0))⟩, ⟨(some 9), (some (7, true)), (.mov (.tmp 1))⟩, ⟨(some 10), (some (7, true)), (.cmpb .leq (.tmp 8) (.tmp 9))⟩, ⟨(some 11), none, (.pur ⟨(some 11), (.pick (.tmp 7) (.tmp 10) (.const (.bool false))), 4, "", (List.toArray []), none⟩)⟩, ⟨(some 4), none, (.mov (.tmp 11))⟩])
  .ret))
theorem L95 : low Try.prog Try.f95.ntmps (at_ Try.f95 []) = some R95 := by kernel_rfl
theorem N50 : Try.f50.ntmps = 15 := by kernel_rfl
theorem Z50 : Try.f50.results.toList = ((List.toArray [(.tmp 6)]) : Array ResultVar).toList := by kernel_rfl
theorem B50 : Try.f50.body = some (at_ Try.f50 []) := by kernel_rfl
noncomputable def R50 : RC := (.seq (.reg [⟨(some 6), none, (.mov (.const (.bool false)))⟩])
  (.seq (.reg [⟨(some 7), none, (.mov (.tmp 1))⟩, ⟨(some 8), none, (.mov (.tmp 0))⟩, ⟨(some 9), none, (.cmpb .leq (.tmp 7) (.tmp 8))⟩, ⟨(some 10), none, (.mov (.tmp 9))⟩, ⟨(some 11), (some (10, true)), (.mov (.tmp 0))⟩, ⟨(some 12), (some (10, true)), (.mov (.tmp 2))⟩, ⟨(some 13), (some (10, true)), (.cmpb .leq (.tmp 11) (.tmp 12))⟩, ⟨(some 14), none, (.pur ⟨(some 14), (.pick (.tmp 10) (.tmp 13) (.const (.bool false))), 4, "", (List.toArray []), none⟩)⟩, ⟨(some 6), none, (.mov (.tmp 14))⟩])
  .ret))
theorem L50 : low Try.prog Try.f50.ntmps (at_ Try.f50 []) = some R50 := by kernel_rfl
theorem N66 : Try.f66.ntmps = 12 := by kernel_rfl
theorem Z66 : Try.f66.results.toList = ((List.toArray [(.cell 2 104)]) : Array ResultVar).toList := by kernel_rfl
theorem B66 : Try.f66.body = some (at_ Try.f66 []) := by kernel_rfl
noncomputable def R66 : RC := (.seq (.reg [⟨(some 1), none, (.box 24 (.tmp 0))⟩, ⟨(some 2), none, (.alc 104 [(.int .i64 0), (.int .i64 0), (.int .i64 0), (.int .i64 0)])⟩])
  (.seq (.reg [⟨(some 3), none, (.addo (.tmp 1) 0)⟩, ⟨(some 4), none, (.ld (.tmp 3) 1)⟩, ⟨(some 5), none, (.addo (.tmp 1) 1)⟩, ⟨(some 6), none, (.ld (.tmp 5) 1)⟩, ⟨(some 7), none, (.addo (.tmp 1) 2)⟩, ⟨(some 8), none, (.ld (.tmp 7) 1)⟩, ⟨(some 9), none, (.addo (.tmp 1) 3)⟩, ⟨(some 10), none, (.ld (.tmp 9) 1)⟩, ⟨(some 11), none, (.pur ⟨(some 11), (.build 104 (List.toArray [(0, (.tmp 4)), (1, (.tmp 6)), (2, (.tmp 8)), (3, (.tmp 10))])), 104, "", (List.toArray []), none⟩)⟩, ⟨none, none, (.sta (.tmp 2) (.tmp 11) 4)⟩])
  .ret))
theorem L66 : low Try.prog Try.f66.ntmps (at_ Try.f66 []) = some R66 := by kernel_rfl
theorem N67 : Try.f67.ntmps = 16 := by kernel_rfl
theorem Z67 : Try.f67.results.toList = ((List.toArray [(.tmp 4)]) : Array ResultVar).toList := by kernel_rfl
theorem B67 : Try.f67.body = some (at_ Try.f67 []) := by kernel_rfl
noncomputable def R67 : RC := (.seq (.reg [⟨(some 2), none, (.box 104 (.tmp 0))⟩, ⟨(some 4), none, (.mov (.const (.bool false)))⟩])
  (.seq (.seq (.reg [⟨(some 7), none, (.lda (.tmp 2) 4)⟩, ⟨(some 8), none, (.mov (.const (.int .i64 0)))⟩])
  (.block 0 (.other (at_ Try.f67 [1, 0, 1, 0]))))
  (.seq (.reg [⟨(some 4), none, (.mov (.const (.bool true)))⟩])
  .ret)))
theorem L67 : low Try.prog Try.f67.ntmps (at_ Try.f67 []) = some R67 := by kernel_rfl
theorem E67_1 : at_ Try.f67 [1, 0, 1, 0] = .loop (at_ Try.f67 [1, 0, 1, 0, 0]) := by kernel_rfl
noncomputable def R67x1 : RC := (.seq (.reg [⟨(some 9), none, (.cmp .lss (.tmp 8) (.const (.int .i64 4)))⟩])
  (.seq (.cond (.tmp 9) .skip
  (.exit 0))
  (.seq (.block 1 (.seq (.reg [⟨(some 10), none, (.pur ⟨(some 10), (.index 104 (.tmp 7) (.tmp 8)), 3, "", (List.toArray []), none⟩)⟩, ⟨(some 6), none, (.mov (.tmp 10))⟩])
  (.seq (.reg [⟨(some 11), none, (.mov (.tmp 6))⟩, ⟨(some 12), none, (.mov (.tmp 1))⟩, ⟨(some 13), none, (.call ⟨(.value (.func 95)), (List.toArray [(.tmp 11), (.tmp 12)]), (List.toArray [3, 3])⟩ true)⟩, ⟨(some 14), none, (.pur ⟨(some 14), (.unOp .not 4 (.tmp 13)), 4, "", (List.toArray []), none⟩)⟩])
  (.cond (.tmp 14) (.seq (.reg [⟨(some 4), none, (.mov (.const (.bool false)))⟩])
  .ret)
  .skip))))
  (.reg [⟨(some 15), none, (.ari .add (.tmp 8) (.const (.int .i64 1)))⟩, ⟨(some 8), none, (.mov (.tmp 15))⟩]))))
theorem L67x1 : low Try.prog Try.f67.ntmps (at_ Try.f67 [1, 0, 1, 0, 0]) = some R67x1 := by kernel_rfl
theorem N94 : Try.f94.ntmps = 12 := by kernel_rfl
theorem Z94 : Try.f94.results.toList = ((List.toArray [(.cell 2 104)]) : Array ResultVar).toList := by kernel_rfl
theorem B94 : Try.f94.body = some (at_ Try.f94 []) := by kernel_rfl
noncomputable def R94 : RC := (.seq (.reg [⟨(some 1), none, (.box 59 (.tmp 0))⟩, ⟨(some 2), none, (.alc 104 [(.int .i64 0), (.int .i64 0), (.int .i64 0), (.int .i64 0)])⟩])
  (.seq (.reg [⟨(some 3), none, (.addo (.tmp 1) 1)⟩, ⟨(some 4), none, (.ld (.tmp 3) 1)⟩, ⟨(some 5), none, (.addo (.tmp 1) 2)⟩, ⟨(some 6), none, (.ld (.tmp 5) 1)⟩, ⟨(some 7), none, (.addo (.tmp 1) 3)⟩, ⟨(some 8), none, (.ld (.tmp 7) 1)⟩, ⟨(some 9), none, (.addo (.tmp 1) 4)⟩, ⟨(some 10), none, (.ld (.tmp 9) 1)⟩, ⟨(some 11), none, (.pur ⟨(some 11), (.build 104 (List.toArray [(0, (.tmp 4)), (1, (.tmp 6)), (2, (.tmp 8)), (3, (.tmp 10))])), 104, "", (List.toArray []), none⟩)⟩, ⟨none, none, (.sta (.tmp 2) (.tmp 11) 4)⟩])
  .ret))
theorem L94 : low Try.prog Try.f94.ntmps (at_ Try.f94 []) = some R94 := by kernel_rfl
theorem N93 : Try.f93.ntmps = 19 := by kernel_rfl
theorem Z93 : Try.f93.results.toList = ((List.toArray [(.cell 4 104)]) : Array ResultVar).toList := by kernel_rfl
theorem B93 : Try.f93.body = some (at_ Try.f93 []) := by kernel_rfl
noncomputable def R93 : RC := (.seq (.reg [⟨(some 2), none, (.box 104 (.tmp 0))⟩, ⟨(some 3), none, (.box 104 (.tmp 1))⟩, ⟨(some 4), none, (.alc 104 [(.int .i64 0), (.int .i64 0), (.int .i64 0), (.int .i64 0)])⟩])
  (.seq (.seq (.reg [⟨(some 6), none, (.mov (.const (.int .i64 0)))⟩])
  (.block 0 (.other (at_ Try.f93 [1, 0, 1, 0]))))
  (.seq (.reg [⟨(some 18), none, (.lda (.tmp 2) 4)⟩, ⟨none, none, (.sta (.tmp 4) (.tmp 18) 4)⟩])
  .ret)))
theorem L93 : low Try.prog Try.f93.ntmps (at_ Try.f93 []) = some R93 := by kernel_rfl
theorem E93_1 : at_ Try.f93 [1, 0, 1, 0] = .loop (at_ Try.f93 [1, 0, 1, 0, 0]) := by kernel_rfl
noncomputable def R93x1 : RC := (.seq (.reg [⟨(some 7), none, (.cmp .lss (.tmp 6) (.const (.int .i64 4)))⟩])
  (.seq (.cond (.tmp 7) .skip
  (.exit 0))
  (.seq (.block 1 (.seq (.reg [⟨(some 8), none, (.mov (.tmp 6))⟩, ⟨(some 5), none, (.mov (.tmp 8))⟩])
  (.dreg [⟨(some 9), none, (.mov (.tmp 5))⟩, ⟨(some 10), none, (.idxa (.tmp 2) (.tmp 9) 4 1)⟩, ⟨(some 11), none, (.ld (.tmp 10) 1)⟩, ⟨(some 12), none, (.mov (.tmp 5))⟩, ⟨(some 13), none, (.idxa (.tmp 3) (.tmp 12) 4 1)⟩, ⟨(some 14), none, (.ld (.tmp 13) 1)⟩, ⟨(some 15), none, (.ari .add (.tmp 11) (.tmp 14))⟩, ⟨(some 16), none, (.idxa (.tmp 2) (.tmp 9) 4 1)⟩, ⟨none, none, (.st (.tmp 16) (.tmp 15))⟩] [255, 127, 63, 24, 8, 0, 3, 1, 0])))
  (.reg [⟨(some 17), none, (.ari .add (.tmp 6) (.const (.int .i64 1)))⟩, ⟨(some 6), none, (.mov (.tmp 17))⟩]))))
theorem L93x1 : low Try.prog Try.f93.ntmps (at_ Try.f93 [1, 0, 1, 0, 0]) = some R93x1 := by kernel_rfl
theorem N98 : Try.f98.ntmps = 19 := by kernel_rfl
theorem Z98 : Try.f98.results.toList = ((List.toArray [(.cell 4 104)]) : Array ResultVar).toList := by kernel_rfl
theorem B98 : Try.f98.body = some (at_ Try.f98 []) := by kernel_rfl
noncomputable def R98 : RC := (.seq (.reg [⟨(some 2), none, (.box 104 (.tmp 0))⟩, ⟨(some 3), none, (.box 104 (.tmp 1))⟩, ⟨(some 4), none, (.alc 104 [(.int .i64 0), (.int .i64 0), (.int .i64 0), (.int .i64 0)])⟩])
  (.seq (.seq (.reg [⟨(some 6), none, (.mov (.const (.int .i64 0)))⟩])
  (.block 0 (.other (at_ Try.f98 [1, 0, 1, 0]))))
  (.seq (.reg [⟨(some 18), none, (.lda (.tmp 2) 4)⟩, ⟨none, none, (.sta (.tmp 4) (.tmp 18) 4)⟩])
  .ret)))
theorem L98 : low Try.prog Try.f98.ntmps (at_ Try.f98 []) = some R98 := by kernel_rfl
theorem E98_1 : at_ Try.f98 [1, 0, 1, 0] = .loop (at_ Try.f98 [1, 0, 1, 0, 0]) := by kernel_rfl
noncomputable def R98x1 : RC := (.seq (.reg [⟨(some 7), none, (.cmp .lss (.tmp 6) (.const (.int .i64 4)))⟩])
  (.seq (.cond (.tmp 7) .skip
  (.exit 0))
  (.seq (.block 1 (.seq (.reg [⟨(some 8), none, (.mov (.tmp 6))⟩, ⟨(some 5), none, (.mov (.tmp 8))⟩])
  (.dreg [⟨(some 9), none, (.mov (.tmp 5))⟩, ⟨(some 10), none, (.idxa (.tmp 2) (.tmp 9) 4 1)⟩, ⟨(some 11), none, (.ld (.tmp 10) 1)⟩, ⟨(some 12), none, (.mov (.tmp 5))⟩, ⟨(some 13), none, (.idxa (.tmp 3) (.tmp 12) 4 1)⟩, ⟨(some 14), none, (.ld (.tmp 13) 1)⟩, ⟨(some 15), none, (.ari .sub (.tmp 11) (.tmp 14))⟩, ⟨(some 16), none, (.idxa (.tmp 2) (.tmp 9) 4 1)⟩, ⟨none, none, (.st (.tmp 16) (.tmp 15))⟩] [255, 127, 63, 24, 8, 0, 3, 1, 0])))
  (.reg [⟨(some 17), none, (.ari .add (.tmp 6) (.const (.int .i64 1)))⟩, ⟨(some 6), none, (.mov (.tmp 17))⟩]))))
theorem L98x1 : low Try.prog Try.f98.ntmps (at_ Try.f98 [1, 0, 1, 0, 0]) = some R98x1 := by kernel_rfl
theorem N97 : Try.f97.ntmps = 21 := by kernel_rfl
theorem Z97 : Try.f97.results.toList = ((List.toArray [(.cell 4 104)]) : Array ResultVar).toList := by kernel_rfl
theorem B97 : Try.f97.body = some (at_ Try.f97 []) := by kernel_rfl
noncomputable def R97 : RC := (.seq (.reg [⟨(some 2), none, (.box 104 (.tmp 0))⟩, ⟨(some 3), none, (.box 104 (.tmp 1))⟩, ⟨(some 4), none, (.alc 104 [(.int .i64 0), (.int .i64 0), (.int .i64 0), (.int .i64 0)])⟩])
  (.seq (.seq (.reg [⟨(some 6), none, (.mov (.const (.int .i64 0)))⟩])
  (.block 0 (.other (at_ Try.f97 [1, 0, 1, 0]))))
  (.seq (.reg [⟨(some 20), none, (.lda (.tmp 2) 4)⟩, ⟨none, none, (.sta (.tmp 4) (.tmp 20) 4)⟩])
  .ret)))
theorem L97 : low Try.prog Try.f97.ntmps (at_ Try.f97 []) = some R97 := by kernel_rfl
theorem E97_1 : at_ Try.f97 [1, 0, 1, 0] = .loop (at_ Try.f97 [1, 0, 1, 0, 0]) := by kernel_rfl
noncomputable def R97x1 : RC := (.seq (.reg [⟨(some 7), none, (.cmp .lss (.tmp 6) (.const (.int .i64 4)))⟩])
  (.seq (.cond (.tmp 7) .skip
  (.exit 0))
  (.seq (.block 1 (.seq (.reg [⟨(some 8), none, (.mov (.tmp 6))⟩, ⟨(some 5), none, (.mov (.tmp 8))⟩])
  (.dreg [⟨(some 9), none, (.mov (.tmp 5))⟩, ⟨(some 10), none, (.mov (.tmp 5))⟩, ⟨(some 11), none, (.idxa (.tmp 2) (.tmp 10) 4 1)⟩, ⟨(some 12), none, (.ld (.tmp 11) 1)⟩, ⟨(some 13), none, (.mov (.tmp 5))⟩, ⟨(some 14), none, (.idxa (.tmp 3) (.tmp 13) 4 1)⟩, ⟨(some 15), none, (.ld (.tmp 14) 1)⟩, ⟨(some 16), none, (.ari .mul (.tmp 12) (.tmp 15))⟩, ⟨(some 17), none, (.ari .quo (.tmp 16) (.const (.int .i64 1000)))⟩, ⟨(some 18), none, (.idxa (.tmp 2) (.tmp 9) 4 1)⟩, ⟨none, none, (.st (.tmp 18) (.tmp 17))⟩] [1023, 511, 254, 126, 48, 16, 0, 6, 2, 0, 0])))
  (.reg [⟨(some 19), none, (.ari .add (.tmp 6) (.const (.int .i64 1)))⟩, ⟨(some 6), none, (.mov (.tmp 19))⟩]))))
theorem L97x1 : low Try.prog Try.f97.ntmps (at_ Try.f97 [1, 0, 1, 0, 0]) = some R97x1 := by kernel_rfl
theorem N99 : Try.f99.ntmps = 12 := by kernel_rfl
theorem Z99 : Try.f99.results.toList = ((List.toArray [(.cell 2 24)]) : Array ResultVar).toList := by kernel_rfl
theorem B99 : Try.f99.body = some (at_ Try.f99 []) := by kernel_rfl
noncomputable def R99 : RC := (.seq (.reg [⟨(some 1), none, (.box 104 (.tmp 0))⟩, ⟨(some 2), none, (.alc 24 [(.int .i64 0), (.int .i64 0), (.int .i64 0), (.int .i64 0)])⟩])
  (.seq (.reg [⟨(some 3), none, (.idxa (.tmp 1) (.const (.int .i64 0)) 4 1)⟩, ⟨(some 4), none, (.ld (.tmp 3) 1)⟩, ⟨(some 5), none, (.idxa (.tmp 1) (.const (.int .i64 1)) 4 1)⟩, ⟨(some 6), none, (.ld (.tmp 5) 1)⟩, ⟨(some 7), none, (.idxa (.tmp 1) (.const (.int .i64 2)) 4 1)⟩, ⟨(some 8), none, (.ld (.tmp 7) 1)⟩, ⟨(some 9), none, (.idxa (.tmp 1) (.const (.int .i64 3)) 4 1)⟩, ⟨(some 10), none, (.ld (.tmp 9) 1)⟩, ⟨(some 11), none, (.pur ⟨(some 11), (.build 24 (List.toArray [(0, (.tmp 4)), (1, (.tmp 6)), (2, (.tmp 8)), (3, (.tmp 10))])), 24, "", (List.toArray []), none⟩)⟩, ⟨none, none, (.sta (.tmp 2) (.tmp 11) 4)⟩])
  .ret))
theorem L99 : low Try.prog Try.f99.ntmps (at_ Try.f99 []) = some R99 := by kernel_rfl
theorem N47 : Try.f47.ntmps = 26 := by kernel_rfl
theorem Z47 : Try.f47.results.toList = ((List.toArray [(.cell 4 24)]) : Array ResultVar).toList := by kernel_rfl
theorem B47 : Try.f47.body = some (at_ Try.f47 []) := by kernel_rfl
noncomputable def R47 : RC := (.seq (.reg [⟨(some 2), none, (.box 24 (.tmp 0))⟩, ⟨(some 3), none, (.box 24 (.tmp 1))⟩, ⟨(some 4), none, (.alc 24 [(.int .i64 0), (.int .i64 0), (.int .i64 0), (.int .i64 0)])⟩])
  (.seq (.reg [⟨(some 5), none, (.addo (.tmp 2) 0)⟩, ⟨(some 6), none, (.ld (.tmp 5) 1)⟩, ⟨(some 7), none, (.addo (.tmp 3) 0)⟩, ⟨(some 8), none, (.ld (.tmp 7) 1)⟩, ⟨(some 9), none, (.ari .sub (.tmp 6) (.tmp 8))⟩, ⟨(some 10), none, (.addo (.tmp 2) 1)⟩, ⟨(some 11), none, (.ld (.tmp 10) 1)⟩, ⟨(some 12), none, (.addo (.tmp 3) 1)⟩, ⟨(some 13), none, (.ld (.tmp 12) 1)⟩, ⟨(some 14), none, (.ari .sub (.tmp 11) (.tmp 13))⟩, ⟨(some 15), none, (.addo (.tmp 2) 2)⟩, ⟨(some 16), none, (.ld (.tmp 15) 1)⟩, ⟨(some 17), none, (.addo (.tmp 3) 2)⟩, ⟨(some 18), none, (.ld (.tmp 17) 1)⟩, ⟨(some 19), none, (.ari .sub (.tmp 16) (.tmp 18))⟩, ⟨(some 20), none, (.addo (.tmp 2) 3)⟩, ⟨(some 21), none, (.ld (.tmp 20) 1)⟩, ⟨(some 22), none, (.addo (.tmp 3) 3)⟩, ⟨(some 23), none, (.ld (.tmp 22) 1)⟩, ⟨(some 24), none, (.ari .sub (.tmp 21) (.tmp 23))⟩, ⟨(some 25), none, (.pur ⟨(some 25), (.build 24 (List.toArray [(0, (.tmp 9)), (1, (.tmp 14)), (2, (.tmp 19)), (3, (.tmp 24))])), 24, "", (List.toArray []), none⟩)⟩, ⟨none, none, (.sta (.tmp 4) (.tmp 25) 4)⟩])
  .ret))
theorem L47 : low Try.prog Try.f47.ntmps (at_ Try.f47 []) = some R47 := by kernel_rfl
theorem N48 : Try.f48.ntmps = 26 := by kernel_rfl
theorem Z48 : Try.f48.results.toList = ((List.toArray [(.cell 4 24)]) : Array ResultVar).toList := by kernel_rfl
theorem B48 : Try.f48.body = some (at_ Try.f48 []) := by kernel_rfl
noncomputable def R48 : RC := (.seq (.reg [⟨(some 2), none, (.box 24 (.tmp 0))⟩, ⟨(some 3), none, (.box 24 (.tmp 1))⟩, ⟨(some 4), none, (.alc 24 [(.int .i64 0), (.int .i64 0), (.int .i64 0), (.int .i64 0)])⟩])
  (.seq (.reg [⟨(some 5), none, (.addo (.tmp 2) 0)⟩, ⟨(some 6), none, (.ld (.tmp 5) 1)⟩, ⟨(some 7), none, (.addo (.tmp 3) 0)⟩, ⟨(some 8), none, (.ld (.tmp 7) 1)⟩, ⟨(some 9), none, (.ari .add (.tmp 6) (.tmp 8))⟩, ⟨(some 10), none, (.addo (.tmp 2) 1)⟩, ⟨(some 11), none, (.ld (.tmp 10) 1)⟩, ⟨(some 12), none, (.addo (.tmp 3) 1)⟩, ⟨(some 13), none, (.ld (.tmp 12) 1)⟩, ⟨(some 14), none, (.ari .add (.tmp 11) (.tmp 13))⟩, ⟨(some 15), none, (.addo (.tmp 2) 2)⟩, ⟨(some 16), none, (.ld (.tmp 15) 1)⟩, ⟨(some 17), none, (.addo (.tmp 3) 2)⟩, ⟨(some 18), none, (.ld (.tmp 17) 1)⟩, ⟨(some 19), none, (.ari .add (.tmp 16) (.tmp 18))⟩, ⟨(some 20), none, (.addo (.tmp 2) 3)⟩, ⟨(some 21), none, (.ld (.tmp 20) 1)⟩, ⟨(some 22), none, (.addo (.tmp 3) 3)⟩, ⟨(some 23), none, (.ld (.tmp 22) 1)⟩, ⟨(some 24), none, (.ari .add (.tmp 21) (.tmp 23))⟩, ⟨(some 25), none, (.pur ⟨(some 25), (.build 24 (List.toArray [(0, (.tmp 9)), (1, (.tmp 14)), (2, (.tmp 19)), (3, (.tmp 24))])), 24, "", (List.toArray []), none⟩)⟩, ⟨none, none, (.sta (.tmp 4) (.tmp 25) 4)⟩])
  .ret))
theorem L48 : low Try.prog Try.f48.ntmps (at_ Try.f48 []) = some R48 := by kernel_rfl
theorem N43 : Try.f43.ntmps = 6 := by kernel_rfl
theorem Z43 : Try.f43.results.toList = ((List.toArray [(.tmp 2)]) : Array ResultVar).toList := by kernel_rfl
theorem B43 : Try.f43.body = some (at_ Try.f43 []) := by kernel_rfl
noncomputable def R43 : RC := (.seq (.reg [⟨(some 1), none, (.box 24 (.tmp 0))⟩, ⟨(some 2), none, (.mov (.const (.bool false)))⟩])
  (.seq (.reg [⟨(some 3), none, (.lda (.tmp 1) 4)⟩, ⟨(some 4), none, (.call ⟨(.value (.func 66)), (List.toArray [(.tmp 3)]), (List.toArray [24])⟩ true)⟩, ⟨(some 5), none, (.call ⟨(.value (.func 67)), (List.toArray [(.tmp 4), (.const (.int .i64 1099511627776))]), (List.toArray [104, 3])⟩ true)⟩, ⟨(some 2), none, (.mov (.tmp 5))⟩])
  .ret))
theorem L43 : low Try.prog Try.f43.ntmps (at_ Try.f43 []) = some R43 := by kernel_rfl
theorem N46 : Try.f46.ntmps = 21 := by kernel_rfl
theorem Z46 : Try.f46.results.toList = ((List.toArray [(.tmp 2)]) : Array ResultVar).toList := by kernel_rfl
theorem B46 : Try.f46.body = some (at_ Try.f46 []) := by kernel_rfl
noncomputable def R46 : RC := (.seq (.reg [⟨(some 1), none, (.box 24 (.tmp 0))⟩, ⟨(some 2), none, (.mov (.const (.bool false)))⟩])
  (.seq (.reg [⟨(some 3), none, (.addo (.tmp 1) 0)⟩, ⟨(some 4), none, (.ld (.tmp 3) 1)⟩, ⟨(some 5), none, (.call ⟨(.value (.func 50)), (List.toArray [(.tmp 4), (.const (.int .i64 0)), (.const (.int .i64 1099511627776))]), (List.toArray [3, 3, 3])⟩ true)⟩, ⟨(some 6), none, (.mov (.tmp 5))⟩, ⟨(some 7), (some (6, true)), (.addo (.tmp 1) 1)⟩, ⟨(some 8), (some (6, true)), (.ld (.tmp 7) 1)⟩, ⟨(some 9), (some (6, true)), (.call ⟨(.value (.func 50)), (List.toArray [(.tmp 8), (.const (.int .i64 0)), (.const (.int .i64 1099511627776))]), (List.toArray [3, 3, 3])⟩ true)⟩, ⟨(some 10), none, (.pur ⟨(some 10), (.pick (.tmp 6) (.tmp 9) (.const (.bool false))), 4, "", (List.toArray []), none⟩)⟩, ⟨(some 11), none, (.mov (.tmp 10))⟩, ⟨(some 12), (some (11, true)), (.addo (.tmp 1) 2)⟩, ⟨(some 13), (some (11, true)), (.ld (.tmp 12) 1)⟩, ⟨(some 14), (some (11, true)), (.call ⟨(.value (.func 50)), (List.toArray [(.tmp 13), (.const (.int .i64 0)), (.const (.int .i64 1099511627776))]), (List.toArray [3, 3, 3])⟩ true)⟩, ⟨(some 15), none, (.pur ⟨(some 15), (.pick (.tmp 11) (.tmp 14) (.const (.bool false))), 4, "", (List.toArray []), none⟩)⟩, ⟨(some 16), none, (.mov (.tmp 15))⟩, ⟨(some 17), (some (16, true)), (.addo (.tmp 1) 3)⟩, ⟨(some 18), (some (16, true)), (.ld (.tmp 17) 1)⟩, ⟨(some 19), (some (16, true)), (.call ⟨(.value (.func 50)), (List.toArray [(.tmp 18), (.const (.int .i64 0)), (.const (.int .i64 1099511627776))]), (List.toArray [3, 3, 3])⟩ true)⟩, ⟨(some 20), none, (.pur ⟨(some 20), (.pick (.tmp 16) (.tmp 19) (.const (.bool false))), 4, "", (List.toArray []), none⟩)⟩, ⟨(some 2), none, (.mov (.tmp 20))⟩])
  .ret))
theorem L46 : low Try.prog Try.f46.ntmps (at_ Try.f46 []) = some R46 := by kernel_rfl
theorem N49 : Try.f49.ntmps = 9 := by kernel_rfl
theorem Z49 : Try.f49.results.toList = ((List.toArray [(.tmp 4)]) : Array ResultVar).toList := by kernel_rfl
theorem B49 : Try.f49.body = some (at_ Try.f49 []) := by kernel_rfl
noncomputable def R49 : RC := (.seq (.reg [⟨(some 4), none, (.mov (.const (.int .i64 0)))⟩])
  (.seq (.reg [⟨(some 5), none, (.mov (.tmp 0))⟩, ⟨(some 6), none, (.ari .mul (.tmp 5) (.const (.int .i64 10000)))⟩, ⟨(some 7), none, (.mov (.tmp 1))⟩, ⟨(some 8), none, (.ari .quo (.tmp 6) (.tmp 7))⟩, ⟨(some 4), none, (.mov (.tmp 8))⟩])
  .ret))
theorem L49 : low Try.prog Try.f49.ntmps (at_ Try.f49 []) = some R49 := by kernel_rfl
theorem N19 : Try.f19.ntmps = 33 := by kernel_rfl
theorem Z19 : Try.f19.results.toList = ((List.toArray [(.tmp 4), (.tmp 5)]) : Array ResultVar).toList := by kernel_rfl
theorem B19 : Try.f19.body = some (at_ Try.f19 []) := by kernel_rfl
noncomputable def R19 : RC := (.seq (.reg [⟨(some 2), none, (.box 24 (.tmp 0))⟩, ⟨(some 4), none, (.mov (.const (.int .i64 0)))⟩, ⟨(some 5), none, (.mov (.const (.int .i64 0)))⟩])
  (.seq (.seq (.reg [⟨(some 6), none, (.lda (.tmp 2) 4)⟩, ⟨(some 7), none, (.call ⟨(.value (.func 43)), (List.toArray [(.tmp 6)]), (List.toArray [24])⟩ true)⟩, ⟨(some 8), none, (.pur ⟨(some 8), (.unOp .not 4 (.tmp 7)), 4, "", (List.toArray []), none⟩)⟩, ⟨(some 9), none, (.mov (.tmp 8))⟩, ⟨(some 10), (some (9, false)), (.addo (.tmp 2) 1)⟩, ⟨(some 11), (some (9, false)), (.ld (.tmp 10) 1)⟩, ⟨(some 12), (some (9, false)), (.addo (.tmp 2) 0)⟩, ⟨(some 13), (some (9, false)), (.ld (.tmp 12) 1)⟩, ⟨(some 14), (some (9, false)), (.cmpb .gtr (.tmp 11) (.tmp 13))⟩, ⟨(some 15), none, (.pur ⟨(some 15), (.pick (.tmp 9) (.const (.bool true)) (.tmp 14)), 4, "", (List.toArray []), none⟩)⟩])
  (.cond (.tmp 15) (.seq (.reg [⟨(some 4), none, (.mov (.const (.int .i64 0)))⟩, ⟨(some 5), none, (.mov (.const (.int .i64 1)))⟩])
  .ret)
  .skip))
  (.seq (.seq (.reg [⟨(some 16), none, (.mov (.tmp 1))⟩, ⟨(some 17), none, (.cmpb .lss (.tmp 16) (.const (.int .i64 1)))⟩, ⟨(some 18), none, (.mov (.tmp 17))⟩, ⟨(some 19), (some (18, false)), (.mov (.tmp 1))⟩, ⟨(some 20), (some (18, false)), (.cmpb .gtr (.tmp 19) (.const (.int .i64 10000)))⟩, ⟨(some 21), none, (.pur ⟨(some 21), (.pick (.tmp 18) (.const (.bool true)) (.tmp 20)), 4, "", (List.toArray []), none⟩)⟩])
  (.cond (.tmp 21) (.seq (.reg [⟨(some 4), none, (.mov (.const (.int .i64 0)))⟩, ⟨(some 5), none, (.mov (.const (.int .i64 2)))⟩])
  .ret)
  .skip))
  (.seq (.seq (.reg [⟨(some 22), none, (.addo (.tmp 2) 1)⟩, ⟨(some 23), none, (.ld (.tmp 22) 1)⟩, ⟨(some 24), none, (.cmp .eql (.tmp 23) (.const (.int .i64 0)))⟩])
  (.cond (.tmp 24) (.seq (.reg [⟨(some 4), none, (.mov (.const (.int .i64 0)))⟩, ⟨(some 5), none, (.mov (.const (.int .i64 4)))⟩])
  .ret)
  .skip))
  (.seq (.dreg [⟨(some 25), none, (.addo (.tmp 2) 0)⟩, ⟨(some 26), none, (.ld (.tmp 25) 1)⟩, ⟨(some 27), none, (.addo (.tmp 2) 1)⟩, ⟨(some 28), none, (.ld (.tmp 27) 1)⟩, ⟨(some 29), none, (.mov (.tmp 1))⟩, ⟨(some 30), none, (.call ⟨(.value (.func 49)), (List.toArray [(.tmp 28), (.tmp 29)]), (List.toArray [3, 3])⟩ false)⟩, ⟨(some 31), none, (.ari .sub (.tmp 26) (.tmp 30))⟩, ⟨(some 32), none, (.mm false (.const (.int .i64 0)) (.tmp 31))⟩, ⟨(some 4), none, (.mov (.tmp 32))⟩, ⟨(some 5), none, (.mov (.const (.int .i64 0)))⟩] [511, 255, 127, 63, 28, 0, 4, 0, 1, 0])
  .ret)))))
theorem L19 : low Try.prog Try.f19.ntmps (at_ Try.f19 []) = some R19 := by kernel_rfl
theorem N20 : Try.f20.ntmps = 31 := by kernel_rfl
theorem Z20 : Try.f20.results.toList = ((List.toArray [(.tmp 4), (.tmp 5)]) : Array ResultVar).toList := by kernel_rfl
theorem B20 : Try.f20.body = some (at_ Try.f20 []) := by kernel_rfl
noncomputable def R20 : RC := (.seq (.reg [⟨(some 2), none, (.box 24 (.tmp 0))⟩, ⟨(some 4), none, (.mov (.const (.int .i64 0)))⟩, ⟨(some 5), none, (.mov (.const (.int .i64 0)))⟩])
  (.seq (.seq (.reg [⟨(some 6), none, (.lda (.tmp 2) 4)⟩, ⟨(some 7), none, (.call ⟨(.value (.func 46)), (List.toArray [(.tmp 6)]), (List.toArray [24])⟩ true)⟩, ⟨(some 8), none, (.pur ⟨(some 8), (.unOp .not 4 (.tmp 7)), 4, "", (List.toArray []), none⟩)⟩, ⟨(some 9), none, (.mov (.tmp 8))⟩, ⟨(some 10), (some (9, false)), (.addo (.tmp 2) 1)⟩, ⟨(some 11), (some (9, false)), (.ld (.tmp 10) 1)⟩, ⟨(some 12), (some (9, false)), (.addo (.tmp 2) 0)⟩, ⟨(some 13), (some (9, false)), (.ld (.tmp 12) 1)⟩, ⟨(some 14), (some (9, false)), (.cmpb .gtr (.tmp 11) (.tmp 13))⟩, ⟨(some 15), none, (.pur ⟨(some 15), (.pick (.tmp 9) (.const (.bool true)) (.tmp 14)), 4, "", (List.toArray []), none⟩)⟩])
  (.cond (.tmp 15) (.seq (.reg [⟨(some 4), none, (.mov (.const (.int .i64 0)))⟩, ⟨(some 5), none, (.mov (.const (.int .i64 1)))⟩])
  .ret)
  .skip))
  (.seq (.seq (.reg [⟨(some 16), none, (.mov (.tmp 1))⟩, ⟨(some 17), none, (.call ⟨(.value (.func 50)), (List.toArray [(.tmp 16), (.const (.int .i64 1)), (.const (.int .i64 10000))]), (List.toArray [3, 3, 3])⟩ true)⟩, ⟨(some 18), none, (.pur ⟨(some 18), (.unOp .not 4 (.tmp 17)), 4, "", (List.toArray []), none⟩)⟩])
  (.cond (.tmp 18) (.seq (.reg [⟨(some 4), none, (.mov (.const (.int .i64 0)))⟩, ⟨(some 5), none, (.mov (.const (.int .i64 2)))⟩])
  .ret)
  .skip))
  (.seq (.seq (.reg [⟨(some 19), none, (.addo (.tmp 2) 1)⟩, ⟨(some 20), none, (.ld (.tmp 19) 1)⟩, ⟨(some 21), none, (.cmp .eql (.tmp 20) (.const (.int .i64 0)))⟩])
  (.cond (.tmp 21) (.seq (.reg [⟨(some 4), none, (.mov (.const (.int .i64 0)))⟩, ⟨(some 5), none, (.mov (.const (.int .i64 4)))⟩])
  .ret)
  .skip))
  (.seq (.dreg [⟨(some 22), none, (.addo (.tmp 2) 0)⟩, ⟨(some 23), none, (.ld (.tmp 22) 1)⟩, ⟨(some 24), none, (.addo (.tmp 2) 1)⟩, ⟨(some 25), none, (.ld (.tmp 24) 1)⟩, ⟨(some 26), none, (.ari .mul (.tmp 25) (.const (.int .i64 10000)))⟩, ⟨(some 27), none, (.mov (.tmp 1))⟩, ⟨(some 28), none, (.ari .quo (.tmp 26) (.tmp 27))⟩, ⟨(some 29), none, (.ari .sub (.tmp 23) (.tmp 28))⟩, ⟨(some 30), none, (.mm false (.const (.int .i64 0)) (.tmp 29))⟩, ⟨(some 4), none, (.mov (.tmp 30))⟩, ⟨(some 5), none, (.mov (.const (.int .i64 0)))⟩] [1023, 511, 255, 127, 60, 0, 12, 4, 0, 1, 0])
  .ret)))))
theorem L20 : low Try.prog Try.f20.ntmps (at_ Try.f20 []) = some R20 := by kernel_rfl
theorem N92 : Try.f92.ntmps = 36 := by kernel_rfl
theorem Z92 : Try.f92.results.toList = ((List.toArray [(.tmp 6)]) : Array ResultVar).toList := by kernel_rfl
theorem B92 : Try.f92.body = some (at_ Try.f92 []) := by kernel_rfl
noncomputable def R92 : RC := (.seq (.reg [⟨(some 3), none, (.box 59 (.tmp 0))⟩, ⟨(some 6), none, (.mov (.const (.bool false)))⟩])
  (.seq (.reg [⟨(some 9), none, (.addo (.tmp 3) 0)⟩, ⟨(some 10), none, (.ld (.tmp 9) 1)⟩, ⟨(some 11), none, (.cmpb .leq (.const (.int .i64 (-16))) (.tmp 10))⟩, ⟨(some 12), none, (.mov (.tmp 11))⟩, ⟨(some 13), (some (12, true)), (.addo (.tmp 3) 0)⟩, ⟨(some 14), (some (12, true)), (.ld (.tmp 13) 1)⟩, ⟨(some 15), (some (12, true)), (.cmpb .lss (.tmp 14) (.const (.int .i64 0)))⟩, ⟨(some 16), none, (.pur ⟨(some 16), (.pick (.tmp 12) (.tmp 15) (.const (.bool false))), 4, "", (List.toArray []), none⟩)⟩, ⟨(some 7), none, (.mov (.tmp 16))⟩])
  (.seq (.reg [⟨(some 17), none, (.mov (.tmp 1))⟩, ⟨(some 18), none, (.addo (.tmp 3) 0)⟩, ⟨(some 19), none, (.ld (.tmp 18) 1)⟩, ⟨(some 20), none, (.cmpb .lss (.tmp 17) (.tmp 19))⟩, ⟨(some 21), none, (.mov (.tmp 20))⟩, ⟨(some 22), (some (21, true)), (.addo (.tmp 3) 0)⟩, ⟨(some 23), (some (21, true)), (.ld (.tmp 22) 1)⟩, ⟨(some 24), (some (21, true)), (.mov (.tmp 2))⟩, ⟨(some 25), (some (21, true)), (.cmpb .lss (.tmp 23) (.tmp 24))⟩, ⟨(some 26), none, (.pur ⟨(some 26), (.pick (.tmp 21) (.tmp 25) (.const (.bool false))), 4, "", (List.toArray []), none⟩)⟩, ⟨(some 8), none, (.mov (.tmp 26))⟩])
  (.seq (.reg [⟨(some 27), none, (.mov (.tmp 7))⟩, ⟨(some 28), none, (.mov (.tmp 27))⟩, ⟨(some 29), (some (28, false)), (.mov (.tmp 8))⟩, ⟨(some 30), none, (.pur ⟨(some 30), (.pick (.tmp 28) (.const (.bool true)) (.tmp 29)), 4, "", (List.toArray []), none⟩)⟩, ⟨(some 31), none, (.mov (.tmp 30))⟩, ⟨(some 32), (some (31, true)), (.lda (.tmp 3) 5)⟩, ⟨(some 33), (some (31, true)), (.call ⟨(.value (.func 94)), (List.toArray [(.tmp 32)]), (List.toArray [59])⟩ true)⟩, ⟨(some 34), (some (31, true)), (.call ⟨(.value (.func 67)), (List.toArray [(.tmp 33), (.const (.int .i64 1000))]), (List.toArray [104, 3])⟩ true)⟩, ⟨(some 35), none, (.pur ⟨(some 35), (.pick (.tmp 31) (.tmp 34) (.const (.bool false))), 4, "", (List.toArray []), none⟩)⟩, ⟨(some 6), none, (.mov (.tmp 35))⟩])
  .ret))))
theorem L92 : low Try.prog Try.f92.ntmps (at_ Try.f92 []) = some R92 := by kernel_rfl
theorem N91 : Try.f91.ntmps = 11 := by kernel_rfl
theorem Z91 : Try.f91.results.toList = ((List.toArray [(.tmp 6)]) : Array ResultVar).toList := by kernel_rfl
theorem B91 : Try.f91.body = some (at_ Try.f91 []) := by kernel_rfl
noncomputable def R91 : RC := (.seq (.reg [⟨(some 5), none, (.box 59 (.tmp 1))⟩, ⟨(some 6), none, (.mov (.const (.bool false)))⟩])
  (.seq (.reg [⟨(some 7), none, (.lda (.tmp 5) 5)⟩, ⟨(some 8), none, (.ld (.tmp 2) 1)⟩, ⟨(some 9), none, (.ld (.tmp 3) 1)⟩, ⟨(some 10), none, (.call ⟨(.value (.func 92)), (List.toArray [(.tmp 7), (.tmp 8), (.tmp 9)]), (List.toArray [59, 3, 3])⟩ true)⟩, ⟨(some 6), none, (.mov (.tmp 10))⟩])
  .ret))
theorem L91 : low Try.prog Try.f91.ntmps (at_ Try.f91 []) = some R91 := by kernel_rfl
theorem N90 : Try.f90.ntmps = 34 := by kernel_rfl
theorem Z90 : Try.f90.results.toList = ((List.toArray [(.tmp 8)]) : Array ResultVar).toList := by kernel_rfl
theorem B90 : Try.f90.body = some (at_ Try.f90 []) := by kernel_rfl
noncomputable def R90 : RC := (.seq (.reg [⟨(some 8), none, (.mov (.const (.bool false)))⟩])
  (.seq (.seq (.reg [⟨(some 11), none, (.mov (.tmp 0))⟩, ⟨(some 12), none, (.len (.tmp 11))⟩, ⟨(some 13), none, (.mov (.tmp 1))⟩, ⟨(some 14), none, (.cmpb .lss (.tmp 12) (.tmp 13))⟩, ⟨(some 15), none, (.mov (.tmp 14))⟩, ⟨(some 16), (some (15, false)), (.mov (.tmp 0))⟩, ⟨(some 17), (some (15, false)), (.len (.tmp 16))⟩, ⟨(some 18), (some (15, false)), (.mov (.tmp 2))⟩, ⟨(some 19), (some (15, false)), (.cmpb .gtr (.tmp 17) (.tmp 18))⟩, ⟨(some 20), none, (.pur ⟨(some 20), (.pick (.tmp 15) (.const (.bool true)) (.tmp 19)), 4, "", (List.toArray []), none⟩)⟩])
  (.cond (.tmp 20) (.seq (.reg [⟨(some 8), none, (.mov (.const (.bool false)))⟩])
  .ret)
  .skip))
  (.seq (.seq (.reg [⟨(some 21), none, (.mov (.tmp 0))⟩, ⟨(some 22), none, (.len (.tmp 21))⟩, ⟨(some 23), none, (.mov (.const (.int .i64 0)))⟩])
  (.block 0 (.other (at_ Try.f90 [1, 1, 0, 1, 0]))))
  (.seq (.reg [⟨(some 8), none, (.mov (.const (.bool true)))⟩])
  .ret))))
theorem L90 : low Try.prog Try.f90.ntmps (at_ Try.f90 []) = some R90 := by kernel_rfl
theorem E90_1 : at_ Try.f90 [1, 1, 0, 1, 0] = .loop (at_ Try.f90 [1, 1, 0, 1, 0, 0]) := by kernel_rfl
noncomputable def R90x1 : RC := (.seq (.reg [⟨(some 24), none, (.cmp .lss (.tmp 23) (.tmp 22))⟩])
  (.seq (.cond (.tmp 24) .skip
  (.exit 0))
  (.seq (.block 1 (.seq (.reg [⟨(some 25), none, (.mov (.tmp 23))⟩, ⟨(some 26), none, (.idx (.tmp 21) (.tmp 23) 5)⟩, ⟨(some 27), none, (.lda (.tmp 26) 5)⟩, ⟨(some 10), none, (.alc 59 [(.int .i64 0), (.int .i64 0), (.int .i64 0), (.int .i64 0), (.int .i64 0)])⟩, ⟨(some 9), none, (.mov (.tmp 25))⟩, ⟨none, none, (.sta (.tmp 10) (.tmp 27) 5)⟩])
  (.seq (.reg [⟨(some 28), none, (.mov (.tmp 3))⟩, ⟨(some 29), none, (.mov (.tmp 9))⟩, ⟨(some 30), none, (.lda (.tmp 10) 5)⟩, ⟨(some 31), none, (.call ⟨(.value (.tmp 28)), (List.toArray [(.tmp 29), (.tmp 30)]), (List.toArray [3, 59])⟩ true)⟩, ⟨(some 32), none, (.pur ⟨(some 32), (.unOp .not 4 (.tmp 31)), 4, "", (List.toArray []), none⟩)⟩])
  (.cond (.tmp 32) (.seq (.reg [⟨(some 8), none, (.mov (.const (.bool false)))⟩])
  .ret)
  .skip))))
  (.reg [⟨(some 33), none, (.ari .add (.tmp 23) (.const (.int .i64 1)))⟩, ⟨(some 23), none, (.mov (.tmp 33))⟩]))))
theorem L90x1 : low Try.prog Try.f90.ntmps (at_ Try.f90 [1, 1, 0, 1, 0, 0]) = some R90x1 := by kernel_rfl
theorem N65 : Try.f65.ntmps = 35 := by kernel_rfl
theorem Z65 : Try.f65.results.toList = ((List.toArray [(.tmp 6)]) : Array ResultVar).toList := by kernel_rfl
theorem B65 : Try.f65.body = some (at_ Try.f65 []) := by kernel_rfl
noncomputable def R65 : RC := (.seq (.reg [⟨(some 3), none, (.box 62 (.tmp 0))⟩, ⟨(some 4), none, (.box 3 (.tmp 1))⟩, ⟨(some 5), none, (.box 3 (.tmp 2))⟩, ⟨(some 6), none, (.mov (.const (.bool false)))⟩])
  (.seq (.seq (.reg [⟨(some 10), none, (.addo (.tmp 3) 0)⟩, ⟨(some 11), none, (.ld (.tmp 10) 1)⟩, ⟨(some 12), none, (.pur ⟨(some 12), (.makeFunc (.func 91) (List.toArray []) (List.toArray [(.tmp 4), (.tmp 5)])), 137, "", (List.toArray []), none⟩)⟩, ⟨(some 13), none, (.call ⟨(.value (.func 90)), (List.toArray [(.tmp 11), (.const (.int .i64 1)), (.const (.int .i64 4)), (.tmp 12)]), (List.toArray [60, 3, 3, 137])⟩ true)⟩, ⟨(some 14), none, (.pur ⟨(some 14), (.unOp .not 4 (.tmp 13)), 4, "", (List.toArray []), none⟩)⟩])
  (.cond (.tmp 14) (.seq (.reg [⟨(some 6), none, (.mov (.const (.bool false)))⟩])
  .ret)
  .skip))
  (.seq (.reg [⟨(some 15), none, (.pur ⟨(some 15), (.build 104 (List.toArray [])), 104, "", (List.toArray []), none⟩)⟩, ⟨(some 7), none, (.alc 104 [(.int .i64 0), (.int .i64 0), (.int .i64 0), (.int .i64 0)])⟩, ⟨none, none, (.sta (.tmp 7) (.tmp 15) 4)⟩])
  (.seq (.seq (.reg [⟨(some 16), none, (.addo (.tmp 3) 0)⟩, ⟨(some 17), none, (.ld (.tmp 16) 1)⟩, ⟨(some 18), none, (.addo (.tmp 3) 0)⟩, ⟨(some 19), none, (.ld (.tmp 18) 1)⟩, ⟨(some 20), none, (.len (.tmp 19))⟩, ⟨(some 21), none, (.ari .sub (.tmp 20) (.const (.int .i64 1)))⟩, ⟨(some 22), none, (.mem ⟨(some 22), (.slice 60 (.tmp 17) none (some (.tmp 21)) none), 60, "", (List.toArray []), none⟩)⟩, ⟨(some 23), none, (.len (.tmp 22))⟩, ⟨(some 24), none, (.mov (.const (.int .i64 0)))⟩])
  (.block 0 (.other (at_ Try.f65 [1, 1, 1, 0, 1, 0]))))
  (.seq (.reg [⟨(some 33), none, (.lda (.tmp 7) 4)⟩, ⟨(some 34), none, (.call ⟨(.value (.func 67)), (List.toArray [(.tmp 33), (.const (.int .i64 1000))]), (List.toArray [104, 3])⟩ true)⟩, ⟨(some 6), none, (.mov (.tmp 34))⟩])
  .ret)))))
theorem L65 : low Try.prog Try.f65.ntmps (at_ Try.f65 []) = some R65 := by kernel_rfl
theorem E65_1 : at_ Try.f65 [1, 1, 1, 0, 1, 0] = .loop (at_ Try.f65 [1, 1, 1, 0, 1, 0, 0]) := by kernel_rfl
noncomputable def R65x1 : RC := (.seq (.reg [⟨(some 25), none, (.cmp .lss (.tmp 24) (.tmp 23))⟩])
  (.seq (.cond (.tmp 25) .skip
  (.exit 0))
  (.seq (.block 1 (.seq (.reg [⟨(some 26), none, (.idx (.tmp 22) (.tmp 24) 5)⟩, ⟨(some 27), none, (.lda (.tmp 26) 5)⟩, ⟨(some 9), none, (.alc 59 [(.int .i64 0), (.int .i64 0), (.int .i64 0), (.int .i64 0), (.int .i64 0)])⟩, ⟨none, none, (.sta (.tmp 9) (.tmp 27) 5)⟩])
  (.dreg [⟨(some 28), none, (.lda (.tmp 7) 4)⟩, ⟨(some 29), none, (.lda (.tmp 9) 5)⟩, ⟨(some 30), none, (.call ⟨(.value (.func 94)), (List.toArray [(.tmp 29)]), (List.toArray [59])⟩ false)⟩, ⟨(some 31), none, (.call ⟨(.value (.func 93)), (List.toArray [(.tmp 28), (.tmp 30)]), (List.toArray [104, 104])⟩ true)⟩, ⟨none, none, (.sta (.tmp 7) (.tmp 31) 4)⟩] [15, 7, 2, 0, 0])))
  (.reg [⟨(some 32), none, (.ari .add (.tmp 24) (.const (.int .i64 1)))⟩, ⟨(some 24), none, (.mov (.tmp 32))⟩]))))
theorem L65x1 : low Try.prog Try.f65.ntmps (at_ Try.f65 [1, 1, 1, 0, 1, 0, 0]) = some R65x1 := by kernel_rfl
theorem N64 : Try.f64.ntmps = 11 := by kernel_rfl
theorem Z64 : Try.f64.results.toList = ((List.toArray [(.tmp 5)]) : Array ResultVar).toList := by kernel_rfl
theorem B64 : Try.f64.body = some (at_ Try.f64 []) := by kernel_rfl
noncomputable def R64 : RC := (.seq (.reg [⟨(some 4), none, (.box 62 (.tmp 1))⟩, ⟨(some 5), none, (.mov (.const (.bool false)))⟩])
  (.seq (.reg [⟨(some 6), none, (.lda (.tmp 4) 1)⟩, ⟨(some 7), none, (.mov (.tmp 0))⟩, ⟨(some 8), none, (.ld (.tmp 2) 1)⟩, ⟨(some 9), none, (.len (.tmp 8))⟩, ⟨(some 10), none, (.call ⟨(.value (.func 65)), (List.toArray [(.tmp 6), (.tmp 7), (.tmp 9)]), (List.toArray [62, 3, 3])⟩ true)⟩, ⟨(some 5), none, (.mov (.tmp 10))⟩])
  .ret))
theorem L64 : low Try.prog Try.f64.ntmps (at_ Try.f64 []) = some R64 := by kernel_rfl
theorem N63 : Try.f63.ntmps = 34 := by kernel_rfl
theorem Z63 : Try.f63.results.toList = ((List.toArray [(.tmp 8)]) : Array ResultVar).toList := by kernel_rfl
theorem B63 : Try.f63.body = some (at_ Try.f63 []) := by kernel_rfl
noncomputable def R63 : RC := (.seq (.reg [⟨(some 8), none, (.mov (.const (.bool false)))⟩])
  (.seq (.seq (.reg [⟨(some 11), none, (.mov (.tmp 0))⟩, ⟨(some 12), none, (.len (.tmp 11))⟩, ⟨(some 13), none, (.mov (.tmp 1))⟩, ⟨(some 14), none, (.cmpb .lss (.tmp 12) (.tmp 13))⟩, ⟨(some 15), none, (.mov (.tmp 14))⟩, ⟨(some 16), (some (15, false)), (.mov (.tmp 0))⟩, ⟨(some 17), (some (15, false)), (.len (.tmp 16))⟩, ⟨(some 18), (some (15, false)), (.mov (.tmp 2))⟩, ⟨(some 19), (some (15, false)), (.cmpb .gtr (.tmp 17) (.tmp 18))⟩, ⟨(some 20), none, (.pur ⟨(some 20), (.pick (.tmp 15) (.const (.bool true)) (.tmp 19)), 4, "", (List.toArray []), none⟩)⟩])
  (.cond (.tmp 20) (.seq (.reg [⟨(some 8), none, (.mov (.const (.bool false)))⟩])
  .ret)
  .skip))
  (.seq (.seq (.reg [⟨(some 21), none, (.mov (.tmp 0))⟩, ⟨(some 22), none, (.len (.tmp 21))⟩, ⟨(some 23), none, (.mov (.const (.int .i64 0)))⟩])
  (.block 0 (.other (at_ Try.f63 [1, 1, 0, 1, 0]))))
  (.seq (.reg [⟨(some 8), none, (.mov (.const (.bool true)))⟩])
  .ret))))
theorem L63 : low Try.prog Try.f63.ntmps (at_ Try.f63 []) = some R63 := by kernel_rfl
theorem E63_1 : at_ Try.f63 [1, 1, 0, 1, 0] = .loop (at_ Try.f63 [1, 1, 0, 1, 0, 0]) := by kernel_rfl
noncomputable def R63x1 : RC := (.seq (.reg [⟨(some 24), none, (.cmp .lss (.tmp 23) (.tmp 22))⟩])
  (.seq (.cond (.tmp 24) .skip
  (.exit 0))
  (.seq (.block 1 (.seq (.reg [⟨(some 25), none, (.mov (.tmp 23))⟩, ⟨(some 26), none, (.idx (.tmp 21) (.tmp 23) 1)⟩, ⟨(some 27), none, (.lda (.tmp 26) 1)⟩, ⟨(some 10), none, (.alc 62 [(.slice none 0 0)])⟩, ⟨(some 9), none, (.mov (.tmp 25))⟩, ⟨none, none, (.sta (.tmp 10) (.tmp 27) 1)⟩])
  (.seq (.reg [⟨(some 28), none, (.mov (.tmp 3))⟩, ⟨(some 29), none, (.mov (.tmp 9))⟩, ⟨(some 30), none, (.lda (.tmp 10) 1)⟩, ⟨(some 31), none, (.call ⟨(.value (.tmp 28)), (List.toArray [(.tmp 29), (.tmp 30)]), (List.toArray [3, 62])⟩ true)⟩, ⟨(some 32), none, (.pur ⟨(some 32), (.unOp .not 4 (.tmp 31)), 4, "", (List.toArray []), none⟩)⟩])
  (.cond (.tmp 32) (.seq (.reg [⟨(some 8), none, (.mov (.const (.bool false)))⟩])
  .ret)
  .skip))))
  (.reg [⟨(some 33), none, (.ari .add (.tmp 23) (.const (.int .i64 1)))⟩, ⟨(some 23), none, (.mov (.tmp 33))⟩]))))
theorem L63x1 : low Try.prog Try.f63.ntmps (at_ Try.f63 [1, 1, 0, 1, 0, 0]) = some R63x1 := by kernel_rfl
theorem N42 : Try.f42.ntmps = 6 := by kernel_rfl
theorem Z42 : Try.f42.results.toList = ((List.toArray [(.tmp 2)]) : Array ResultVar).toList := by kernel_rfl
theorem B42 : Try.f42.body = some (at_ Try.f42 []) := by kernel_rfl
noncomputable def R42 : RC := (.seq (.reg [⟨(some 1), none, (.box 22 (.tmp 0))⟩, ⟨(some 2), none, (.mov (.const (.bool false)))⟩])
  (.seq (.reg [⟨(some 3), none, (.ld (.tmp 1) 1)⟩, ⟨(some 4), none, (.pur ⟨(some 4), (.makeFunc (.func 64) (List.toArray []) (List.toArray [(.tmp 1)])), 102, "", (List.toArray []), none⟩)⟩, ⟨(some 5), none, (.call ⟨(.value (.func 63)), (List.toArray [(.tmp 3), (.const (.int .i64 0)), (.const (.int .i64 12)), (.tmp 4)]), (List.toArray [22, 3, 3, 102])⟩ true)⟩, ⟨(some 2), none, (.mov (.tmp 5))⟩])
  .ret))
theorem L42 : low Try.prog Try.f42.ntmps (at_ Try.f42 []) = some R42 := by kernel_rfl
theorem N21 : Try.f21.ntmps = 6 := by kernel_rfl
theorem Z21 : Try.f21.results.toList = ((List.toArray [(.tmp 2)]) : Array ResultVar).toList := by kernel_rfl
theorem B21 : Try.f21.body = some (at_ Try.f21 []) := by kernel_rfl
noncomputable def R21 : RC := (.seq (.reg [⟨(some 2), none, (.mov (.const (.int .i64 0)))⟩])
  (.seq (.seq (.reg [⟨(some 3), none, (.mov (.tmp 0))⟩, ⟨(some 4), none, (.call ⟨(.value (.func 42)), (List.toArray [(.tmp 3)]), (List.toArray [22])⟩ true)⟩, ⟨(some 5), none, (.pur ⟨(some 5), (.unOp .not 4 (.tmp 4)), 4, "", (List.toArray []), none⟩)⟩])
  (.cond (.tmp 5) (.seq (.reg [⟨(some 2), none, (.mov (.const (.int .i64 1)))⟩])
  .ret)
  .skip))
  (.seq (.reg [⟨(some 2), none, (.mov (.const (.int .i64 0)))⟩])
  .ret)))
theorem L21 : low Try.prog Try.f21.ntmps (at_ Try.f21 []) = some R21 := by kernel_rfl
end Go.Ax

/-
  Plant: parts and streams: what is done with four numbers (written by program).
-/
namespace Go.Ax
open Go Go.RowKit Go.Proofs

theorem i24s : ∃ i, Try.prog.info? 24 = some i ∧ i.size = 4 := by
  have h : (Try.prog.info? 24).map (fun i => i.size) = some 4 := by kernel_rfl
  cases e : Try.prog.info? 24 with
  | none => rw [e] at h; cases h
  | some i => rw [e] at h; simp at h; exact ⟨i, rfl, h⟩
theorem a24 : isAggB Try.prog 24 = some true := by kernel_rfl
theorem i104s : ∃ i, Try.prog.info? 104 = some i ∧ i.size = 4 := by
  have h : (Try.prog.info? 104).map (fun i => i.size) = some 4 := by kernel_rfl
  cases e : Try.prog.info? 104 with
  | none => rw [e] at h; cases h
  | some i => rw [e] at h; simp at h; exact ⟨i, rfl, h⟩
theorem a104 : isAggB Try.prog 104 = some true := by kernel_rfl
theorem res_cell {P : Program} {S : Rg} {H : Hp} {a x n : Nat} {t : TypeId} {cs : List Value} (ha : lk S a = some (.pointer (some ⟨x, 0, none⟩))) (h1 : isAggB P t = some true) (hi : ∃ i, P.info? t = some i ∧ i.size = n) (hl : cs.length = n) (h : Cl H x cs) : resS P S H [.cell a t] = some [.agg cs.toArray] := by
  simp only [resS, ha, load_agg h1 hi h.rd hl]
def inB (n a b : Int) : Bool := decide (a ≤ n) && decide (n ≤ b)
theorem inB_t {n a b : Int} (h : inB n a b = true) : a ≤ n ∧ n ≤ b := by simpa [inB] using h
theorem inB_f {n a b : Int} (h : inB n a b = false) : ¬ (a ≤ n ∧ n ≤ b) := by
  intro q; simp [inB] at h; omega
theorem index4 {n : Nat} {S : Rg} {d : Option Tmp} {x y : Operand} {p : String} {ty : TypeId} {q : Nat → Int} {i : Nat} (hx : evS S x = some (.agg (qc q).toArray)) (hy : evS S y = some (iv (i : Int))) (hi : i < 4) : pureOp Try.prog (frS n S) ⟨d, .index 104 x y, ty, p, #[], none⟩ = some (iv (q i)) := by
  unfold pureOp
  simp only [ev_frS, hx, hy]
  rcases i with _ | _ | _ | _ | i
  · kernel_rfl
  · kernel_rfl
  · kernel_rfl
  · kernel_rfl
  · omega
def mix (i : Nat) (f g : Nat → Int) : Nat → Int := fun j => if j < i then f j else g j
theorem qc_at {p : Nat → Int} {i : Nat} (h : i < 4) : (qc p)[0 + i * 1]? = some (iv (p i)) := by
  match i, h with
  | 0, _ => rfl
  | 1, _ => rfl
  | 2, _ => rfl
  | 3, _ => rfl
  | n + 4, h => exact absurd h (by omega)
theorem mix_at {f p : Nat → Int} {i : Nat} (h : i < 4) : (qc (mix i f p))[0 + i * 1]? = some (iv (p i)) := by
  rw [qc_at h]; unfold mix; rw [if_neg (Nat.lt_irrefl i)]
theorem qc_set {f p : Nat → Int} {i : Nat} {v : Int} (h : i < 4) (hv : v = f i) : (qc (mix i f p)).set (0 + i * 1) (iv v) = qc (mix (i + 1) f p) := by
  subst hv
  match i, h with
  | 0, _ => rfl
  | 1, _ => rfl
  | 2, _ => rfl
  | 3, _ => rfl
  | n + 4, h => exact absurd h (by omega)
theorem wiQ_step {p : Nat → Int} {m : Int} {i : Nat} (h : ∀ j, j < i → isw (p j) m = true) (h2 : isw (p i) m = true) : ∀ j, j < i + 1 → isw (p j) m = true := fun j hj => by
  by_cases e : j = i
  · subst e; exact h2
  · exact h j (by omega)
theorem wiQ_all {p : Nat → Int} {m : Int} (h : ∀ j, j < 4 → isw (p j) m = true) : wiQ p m = true := by
  unfold wiQ; rw [h 0 (by omega), h 1 (by omega), h 2 (by omega), h 3 (by omega)]; rfl
theorem wiQ_fail {p : Nat → Int} {m : Int} {i : Nat} (hi : i < 4) (h : isw (p i) m = false) : wiQ p m = false := by
  unfold wiQ
  match i, hi with
  | 0, _ => rw [h]; rfl
  | 1, _ => rw [h]; simp
  | 2, _ => rw [h]; simp
  | 3, _ => rw [h]; simp
  | n + 4, hi => exact absurd hi (by omega)
section
variable {kn : FuncId → Option Bool} {lo : Nat} {H : Hp}
theorem isw_ok {n m : Int} : ∃ H', FnX Try.prog kn lo 95 [iv n, iv m] H (.bool (isw n m)) H' ∧ Keep H H' [] := by
  have key := fnX_low (kn := kn) (lo := lo) (H := H) (args := [iv n, iv m]) (Q := fun w H' => w = .bool (isw n m) ∧ Keep H H' []) Try.func95 B95 N95 Z95 L95 (by simp) ?_
  · obtain ⟨w, H', h, rfl, q⟩ := key; exact ⟨H', h, q⟩
  repeat' first
    | (intro t ht; cases t)
    | exact And.intro trivial (Exists.intro _ (And.intro rfl ⟨by simp_all [retV, isw] <;> (intros; omega), Keep.refl _ _⟩))
    | refine And.intro rfl (Exists.intro _ (And.intro rfl ?_))
theorem in50_ok {n a m : Int} : ∃ H', FnX Try.prog kn lo 50 [iv n, iv a, iv m] H (.bool (inB n a m)) H' ∧ Keep H H' [] := by
  have key := fnX_low (kn := kn) (lo := lo) (H := H) (args := [iv n, iv a, iv m]) (Q := fun w H' => w = .bool (inB n a m) ∧ Keep H H' []) Try.func50 B50 N50 Z50 L50 (by simp) ?_
  · obtain ⟨w, H', h, rfl, q⟩ := key; exact ⟨H', h, q⟩
  repeat' first
    | (intro t ht; cases t)
    | exact And.intro trivial (Exists.intro _ (And.intro rfl ⟨by simp_all [retV, inB] <;> (intros; omega), Keep.refl _ _⟩))
    | refine And.intro rfl (Exists.intro _ (And.intro rfl ?_))
/-- grams -/
theorem grams_ok {s : Nat → Int} (hlo : lo ≤ H.next) : ∃ H', FnX Try.prog kn lo 66 [.agg (qc s).toArray] H (.agg (qc s).toArray) H' ∧ Keep H H' [] := by
  have key := fnX_low (kn := kn) (lo := lo) (H := H) (args := [.agg (qc s).toArray]) (Q := fun w H' => w = .agg (qc s).toArray ∧ Keep H H' []) Try.func66 B66 N66 Z66 L66 (by simp) ?_
  · obtain ⟨w, H', h, rfl, q⟩ := key; exact ⟨H', h, q⟩
  have hk := Keep.refl H []
  refine wN_seq ?_
  refine wN_box (v := .agg (qc s).toArray) rfl ?_
  intro H1 kH1 nH1 c1
  have c1 : Cl H1 H.next [iv (s 0), iv (s 1), iv (s 2), iv (s 3)] := c1
  have mH1 := kH1.1
  have hk := hk.trans kH1
  refine wN_alc ?_
  intro H2 kH2 nH2 c2
  have c2 : Cl H2 H1.next [iv 0, iv 0, iv 0, iv 0] := c2
  have mH2 := kH2.1
  have hk := hk.trans kH2
  have c1 := kH2.cl c1 (by simp)
  refine wN_end ?_
  refine wN_seq ?_
  refine wN_addo (b := H.next) (o := 0) rfl ?_
  refine wN_ld (b := H.next) (o := 0) (v := iv (s 0)) rfl c1.rd rfl ?_
  refine wN_addo (b := H.next) (o := 0) rfl ?_
  refine wN_ld (b := H.next) (o := 1) (v := iv (s 1)) rfl c1.rd rfl ?_
  refine wN_addo (b := H.next) (o := 0) rfl ?_
  refine wN_ld (b := H.next) (o := 2) (v := iv (s 2)) rfl c1.rd rfl ?_
  refine wN_addo (b := H.next) (o := 0) rfl ?_
  refine wN_ld (b := H.next) (o := 3) (v := iv (s 3)) rfl c1.rd rfl ?_
  refine wN_pur (v := .agg #[iv (s 0), iv (s 1), iv (s 2), iv (s 3)]) rfl (by kernel_rfl) ?_
  refine wN_sta (b := H1.next) (o := 0) rfl rfl c2 (by omega) rfl rfl (by simp) ?_
  intro H3 kH3 nH3 sH3
  have mH3 := kH3.1
  have hk := hk.new kH3 (fun b hb => by simp at hb ⊢; omega)
  have c1 := kH3.cl c1 (by first | (simp; done) | (simp; omega))
  have c2 : Cl H3 H1.next [iv (s 0), iv (s 1), iv (s 2), iv (s 3)] := sH3
  refine wN_end ?_
  exact And.intro trivial (Exists.intro _ (And.intro (res_cell rfl a104 i104s rfl c2) ⟨rfl, hk⟩))
/-- stream -/
theorem stream_ok {s : Nat → Int} (hlo : lo ≤ H.next) : ∃ H', FnX Try.prog kn lo 99 [.agg (qc s).toArray] H (.agg (qc s).toArray) H' ∧ Keep H H' [] := by
  have key := fnX_low (kn := kn) (lo := lo) (H := H) (args := [.agg (qc s).toArray]) (Q := fun w H' => w = .agg (qc s).toArray ∧ Keep H H' []) Try.func99 B99 N99 Z99 L99 (by simp) ?_
  · obtain ⟨w, H', h, rfl, q⟩ := key; exact ⟨H', h, q⟩
  have hk := Keep.refl H []
  refine wN_seq ?_
  refine wN_box (v := .agg (qc s).toArray) rfl ?_
  intro H1 kH1 nH1 c1
  have c1 : Cl H1 H.next [iv (s 0), iv (s 1), iv (s 2), iv (s 3)] := c1
  have mH1 := kH1.1
  have hk := hk.trans kH1
  refine wN_alc ?_
  intro H2 kH2 nH2 c2
  have c2 : Cl H2 H1.next [iv 0, iv 0, iv 0, iv 0] := c2
  have mH2 := kH2.1
  have hk := hk.trans kH2
  have c1 := kH2.cl c1 (by simp)
  refine wN_end ?_
  refine wN_seq ?_
  refine wN_idxa (b := H.next) (o := 0) (k := 0) (j := 0) rfl rfl rfl (by decide) ?_
  refine wN_ld (b := H.next) (o := 0 + 0 * 1) (v := iv (s 0)) rfl c1.rd rfl ?_
  refine wN_idxa (b := H.next) (o := 0) (k := 1) (j := 1) rfl rfl rfl (by decide) ?_
  refine wN_ld (b := H.next) (o := 0 + 1 * 1) (v := iv (s 1)) rfl c1.rd rfl ?_
  refine wN_idxa (b := H.next) (o := 0) (k := 2) (j := 2) rfl rfl rfl (by decide) ?_
  refine wN_ld (b := H.next) (o := 0 + 2 * 1) (v := iv (s 2)) rfl c1.rd rfl ?_
  refine wN_idxa (b := H.next) (o := 0) (k := 3) (j := 3) rfl rfl rfl (by decide) ?_
  refine wN_ld (b := H.next) (o := 0 + 3 * 1) (v := iv (s 3)) rfl c1.rd rfl ?_
  refine wN_pur (v := .agg #[iv (s 0), iv (s 1), iv (s 2), iv (s 3)]) rfl (by kernel_rfl) ?_
  refine wN_sta (b := H1.next) (o := 0) rfl rfl c2 (by omega) rfl rfl (by simp) ?_
  intro H3 kH3 nH3 sH3
  have mH3 := kH3.1
  have hk := hk.new kH3 (fun b hb => by simp at hb ⊢; omega)
  have c1 := kH3.cl c1 (by first | (simp; done) | (simp; omega))
  have c2 : Cl H3 H1.next [iv (s 0), iv (s 1), iv (s 2), iv (s 3)] := sH3
  refine wN_end ?_
  exact And.intro trivial (Exists.intro _ (And.intro (res_cell rfl a24 i24s rfl c2) ⟨rfl, hk⟩))
/-- thousandths -/
theorem thou_ok {o : Ou} (hlo : lo ≤ H.next) : ∃ H', FnX Try.prog kn lo 94 [.agg (Ou.f o).toArray] H (.agg (qc o.w).toArray) H' ∧ Keep H H' [] := by
  have key := fnX_low (kn := kn) (lo := lo) (H := H) (args := [.agg (Ou.f o).toArray]) (Q := fun w H' => w = .agg (qc o.w).toArray ∧ Keep H H' []) Try.func94 B94 N94 Z94 L94 (by simp) ?_
  · obtain ⟨w, H', h, rfl, q⟩ := key; exact ⟨H', h, q⟩
  have hk := Keep.refl H []
  refine wN_seq ?_
  refine wN_box (v := .agg (Ou.f o).toArray) rfl ?_
  intro H1 kH1 nH1 c1
  have c1 : Cl H1 H.next [iv o.to, iv o.m, iv o.s, iv o.a, iv o.c] := c1
  have mH1 := kH1.1
  have hk := hk.trans kH1
  refine wN_alc ?_
  intro H2 kH2 nH2 c2
  have c2 : Cl H2 H1.next [iv 0, iv 0, iv 0, iv 0] := c2
  have mH2 := kH2.1
  have hk := hk.trans kH2
  have c1 := kH2.cl c1 (by simp)
  refine wN_end ?_
  refine wN_seq ?_
  refine wN_addo (b := H.next) (o := 0) rfl ?_
  refine wN_ld (b := H.next) (o := 1) (v := iv o.m) rfl c1.rd rfl ?_
  refine wN_addo (b := H.next) (o := 0) rfl ?_
  refine wN_ld (b := H.next) (o := 2) (v := iv o.s) rfl c1.rd rfl ?_
  refine wN_addo (b := H.next) (o := 0) rfl ?_
  refine wN_ld (b := H.next) (o := 3) (v := iv o.a) rfl c1.rd rfl ?_
  refine wN_addo (b := H.next) (o := 0) rfl ?_
  refine wN_ld (b := H.next) (o := 4) (v := iv o.c) rfl c1.rd rfl ?_
  refine wN_pur (v := .agg #[iv o.m, iv o.s, iv o.a, iv o.c]) rfl (by kernel_rfl) ?_
  refine wN_sta (b := H1.next) (o := 0) rfl rfl c2 (by omega) rfl rfl (by simp) ?_
  intro H3 kH3 nH3 sH3
  have mH3 := kH3.1
  have hk := hk.new kH3 (fun b hb => by simp at hb ⊢; omega)
  have c1 := kH3.cl c1 (by first | (simp; done) | (simp; omega))
  have c2 : Cl H3 H1.next [iv o.m, iv o.s, iv o.a, iv o.c] := sH3
  refine wN_end ?_
  exact And.intro trivial (Exists.intro _ (And.intro (res_cell rfl a104 i104s rfl c2) ⟨rfl, hk⟩))
/-- the document's subQ -/
theorem minus47_ok {p q : Nat → Int} (hlo : lo ≤ H.next) (hr : ∀ j, j < 4 → InR (p j - q j)) : ∃ H', FnX Try.prog kn lo 47 [.agg (qc p).toArray, .agg (qc q).toArray] H (.agg (qc (subQ p q)).toArray) H' ∧ Keep H H' [] := by
  have key := fnX_low (kn := kn) (lo := lo) (H := H) (args := [.agg (qc p).toArray, .agg (qc q).toArray]) (Q := fun w H' => w = .agg (qc (subQ p q)).toArray ∧ Keep H H' []) Try.func47 B47 N47 Z47 L47 (by simp) ?_
  · obtain ⟨w, H', h, rfl, q⟩ := key; exact ⟨H', h, q⟩
  have hk := Keep.refl H []
  refine wN_seq ?_
  refine wN_box (v := .agg (qc p).toArray) rfl ?_
  intro H1 kH1 nH1 c1
  have c1 : Cl H1 H.next [iv (p 0), iv (p 1), iv (p 2), iv (p 3)] := c1
  have mH1 := kH1.1
  have hk := hk.trans kH1
  refine wN_box (v := .agg (qc q).toArray) rfl ?_
  intro H2 kH2 nH2 c2
  have c2 : Cl H2 H1.next [iv (q 0), iv (q 1), iv (q 2), iv (q 3)] := c2
  have mH2 := kH2.1
  have hk := hk.trans kH2
  have c1 := kH2.cl c1 (by simp)
  refine wN_alc ?_
  intro H3 kH3 nH3 c3
  have c3 : Cl H3 H2.next [iv 0, iv 0, iv 0, iv 0] := c3
  have mH3 := kH3.1
  have hk := hk.trans kH3
  have c1 := kH3.cl c1 (by simp)
  have c2 := kH3.cl c2 (by simp)
  refine wN_end ?_
  refine wN_seq ?_
  refine wN_addo (b := H.next) (o := 0) rfl ?_
  refine wN_ld (b := H.next) (o := 0) (v := iv (p 0)) rfl c1.rd rfl ?_
  refine wN_addo (b := H1.next) (o := 0) rfl ?_
  refine wN_ld (b := H1.next) (o := 0) (v := iv (q 0)) rfl c2.rd rfl ?_
  refine wN_sub (a := (p 0)) (b := (q 0)) rfl rfl (hr 0 (by decide)) ?_
  refine wN_addo (b := H.next) (o := 0) rfl ?_
  refine wN_ld (b := H.next) (o := 1) (v := iv (p 1)) rfl c1.rd rfl ?_
  refine wN_addo (b := H1.next) (o := 0) rfl ?_
  refine wN_ld (b := H1.next) (o := 1) (v := iv (q 1)) rfl c2.rd rfl ?_
  refine wN_sub (a := (p 1)) (b := (q 1)) rfl rfl (hr 1 (by decide)) ?_
  refine wN_addo (b := H.next) (o := 0) rfl ?_
  refine wN_ld (b := H.next) (o := 2) (v := iv (p 2)) rfl c1.rd rfl ?_
  refine wN_addo (b := H1.next) (o := 0) rfl ?_
  refine wN_ld (b := H1.next) (o := 2) (v := iv (q 2)) rfl c2.rd rfl ?_
  refine wN_sub (a := (p 2)) (b := (q 2)) rfl rfl (hr 2 (by decide)) ?_
  refine wN_addo (b := H.next) (o := 0) rfl ?_
  refine wN_ld (b := H.next) (o := 3) (v := iv (p 3)) rfl c1.rd rfl ?_
  refine wN_addo (b := H1.next) (o := 0) rfl ?_
  refine wN_ld (b := H1.next) (o := 3) (v := iv (q 3)) rfl c2.rd rfl ?_
  refine wN_sub (a := (p 3)) (b := (q 3)) rfl rfl (hr 3 (by decide)) ?_
  refine wN_pur (v := .agg #[iv ((p 0) - (q 0)), iv ((p 1) - (q 1)), iv ((p 2) - (q 2)), iv ((p 3) - (q 3))]) rfl (by kernel_rfl) ?_
  refine wN_sta (b := H2.next) (o := 0) rfl rfl c3 (by omega) rfl rfl (by simp) ?_
  intro H4 kH4 nH4 sH4
  have mH4 := kH4.1
  have hk := hk.new kH4 (fun b hb => by simp at hb ⊢; omega)
  have c1 := kH4.cl c1 (by first | (simp; done) | (simp; omega))
  have c2 := kH4.cl c2 (by first | (simp; done) | (simp; omega))
  have c3 : Cl H4 H2.next [iv ((p 0) - (q 0)), iv ((p 1) - (q 1)), iv ((p 2) - (q 2)), iv ((p 3) - (q 3))] := sH4
  refine wN_end ?_
  exact And.intro trivial (Exists.intro _ (And.intro (res_cell rfl a24 i24s rfl c3) ⟨rfl, hk⟩))
/-- the document's addQ -/
theorem plus48_ok {p q : Nat → Int} (hlo : lo ≤ H.next) (hr : ∀ j, j < 4 → InR (p j + q j)) : ∃ H', FnX Try.prog kn lo 48 [.agg (qc p).toArray, .agg (qc q).toArray] H (.agg (qc (addQ p q)).toArray) H' ∧ Keep H H' [] := by
  have key := fnX_low (kn := kn) (lo := lo) (H := H) (args := [.agg (qc p).toArray, .agg (qc q).toArray]) (Q := fun w H' => w = .agg (qc (addQ p q)).toArray ∧ Keep H H' []) Try.func48 B48 N48 Z48 L48 (by simp) ?_
  · obtain ⟨w, H', h, rfl, q⟩ := key; exact ⟨H', h, q⟩
  have hk := Keep.refl H []
  refine wN_seq ?_
  refine wN_box (v := .agg (qc p).toArray) rfl ?_
  intro H1 kH1 nH1 c1
  have c1 : Cl H1 H.next [iv (p 0), iv (p 1), iv (p 2), iv (p 3)] := c1
  have mH1 := kH1.1
  have hk := hk.trans kH1
  refine wN_box (v := .agg (qc q).toArray) rfl ?_
  intro H2 kH2 nH2 c2
  have c2 : Cl H2 H1.next [iv (q 0), iv (q 1), iv (q 2), iv (q 3)] := c2
  have mH2 := kH2.1
  have hk := hk.trans kH2
  have c1 := kH2.cl c1 (by simp)
  refine wN_alc ?_
  intro H3 kH3 nH3 c3
  have c3 : Cl H3 H2.next [iv 0, iv 0, iv 0, iv 0] := c3
  have mH3 := kH3.1
  have hk := hk.trans kH3
  have c1 := kH3.cl c1 (by simp)
  have c2 := kH3.cl c2 (by simp)
  refine wN_end ?_
  refine wN_seq ?_
  refine wN_addo (b := H.next) (o := 0) rfl ?_
  refine wN_ld (b := H.next) (o := 0) (v := iv (p 0)) rfl c1.rd rfl ?_
  refine wN_addo (b := H1.next) (o := 0) rfl ?_
  refine wN_ld (b := H1.next) (o := 0) (v := iv (q 0)) rfl c2.rd rfl ?_
  refine wN_add (a := (p 0)) (b := (q 0)) rfl rfl (hr 0 (by decide)) ?_
  refine wN_addo (b := H.next) (o := 0) rfl ?_
  refine wN_ld (b := H.next) (o := 1) (v := iv (p 1)) rfl c1.rd rfl ?_
  refine wN_addo (b := H1.next) (o := 0) rfl ?_
  refine wN_ld (b := H1.next) (o := 1) (v := iv (q 1)) rfl c2.rd rfl ?_
  refine wN_add (a := (p 1)) (b := (q 1)) rfl rfl (hr 1 (by decide)) ?_
  refine wN_addo (b := H.next) (o := 0) rfl ?_
  refine wN_ld (b := H.next) (o := 2) (v := iv (p 2)) rfl c1.rd rfl ?_
  refine wN_addo (b := H1.next) (o := 0) rfl ?_
  refine wN_ld (b := H1.next) (o := 2) (v := iv (q 2)) rfl c2.rd rfl ?_
  refine wN_add (a := (p 2)) (b := (q 2)) rfl rfl (hr 2 (by decide)) ?_
  refine wN_addo (b := H.next) (o := 0) rfl ?_
  refine wN_ld (b := H.next) (o := 3) (v := iv (p 3)) rfl c1.rd rfl ?_
  refine wN_addo (b := H1.next) (o := 0) rfl ?_
  refine wN_ld (b := H1.next) (o := 3) (v := iv (q 3)) rfl c2.rd rfl ?_
  refine wN_add (a := (p 3)) (b := (q 3)) rfl rfl (hr 3 (by decide)) ?_
  refine wN_pur (v := .agg #[iv ((p 0) + (q 0)), iv ((p 1) + (q 1)), iv ((p 2) + (q 2)), iv ((p 3) + (q 3))]) rfl (by kernel_rfl) ?_
  refine wN_sta (b := H2.next) (o := 0) rfl rfl c3 (by omega) rfl rfl (by simp) ?_
  intro H4 kH4 nH4 sH4
  have mH4 := kH4.1
  have hk := hk.new kH4 (fun b hb => by simp at hb ⊢; omega)
  have c1 := kH4.cl c1 (by first | (simp; done) | (simp; omega))
  have c2 := kH4.cl c2 (by first | (simp; done) | (simp; omega))
  have c3 : Cl H4 H2.next [iv ((p 0) + (q 0)), iv ((p 1) + (q 1)), iv ((p 2) + (q 2)), iv ((p 3) + (q 3))] := sH4
  refine wN_end ?_
  exact And.intro trivial (Exists.intro _ (And.intro (res_cell rfl a24 i24s rfl c3) ⟨rfl, hk⟩))
/-- plus -/
theorem plus_ok {p q : Nat → Int} (hlo : lo ≤ H.next) (hr : ∀ j, j < 4 → InR (p j + q j)) : ∃ H', FnX Try.prog kn lo 93 [.agg (qc p).toArray, .agg (qc q).toArray] H (.agg (qc (addQ p q)).toArray) H' ∧ Keep H H' [] := by
  have key := fnX_low (kn := kn) (lo := lo) (H := H) (args := [.agg (qc p).toArray, .agg (qc q).toArray]) (Q := fun w H' => w = .agg (qc (addQ p q)).toArray ∧ Keep H H' []) Try.func93 B93 N93 Z93 L93 (by simp) ?_
  · obtain ⟨w, H', h, rfl, q⟩ := key; exact ⟨H', h, q⟩
  have hk := Keep.refl H []
  refine wN_seq ?_
  refine wN_box (v := .agg (qc p).toArray) rfl ?_
  intro H1 kH1 nH1 c1
  have c1 : Cl H1 H.next [iv (p 0), iv (p 1), iv (p 2), iv (p 3)] := c1
  have mH1 := kH1.1
  have hk := hk.trans kH1
  refine wN_box (v := .agg (qc q).toArray) rfl ?_
  intro H2 kH2 nH2 c2
  have c2 : Cl H2 H1.next [iv (q 0), iv (q 1), iv (q 2), iv (q 3)] := c2
  have mH2 := kH2.1
  have hk := hk.trans kH2
  have c1 := kH2.cl c1 (by simp)
  refine wN_alc ?_
  intro H3 kH3 nH3 c3
  have c3 : Cl H3 H2.next [iv 0, iv 0, iv 0, iv 0] := c3
  have mH3 := kH3.1
  have hk := hk.trans kH3
  have c1 := kH3.cl c1 (by simp)
  have c2 := kH3.cl c2 (by simp)
  refine wN_end ?_
  refine wN_seq ?_
  refine wN_mov (v := iv 0) rfl ?_
  refine wN_end ?_
  refine loop_low (fn := Try.f93) E93_1 N93 L93x1 (fun i : Nat => [(2, pt H.next), (3, pt H1.next), (4, pt H2.next), (6, iv (i : Int))])
    (fun k i H' => i + k = 4 ∧ Keep H H' [] ∧ H3.next ≤ H'.next ∧ Cl H' H.next (qc (mix i (addQ p q) p)) ∧ Cl H' H1.next (qc q) ∧ Cl H' H2.next [iv 0, iv 0, iv 0, iv 0]) 4 0 ⟨by omega, hk, Nat.le_refl _, c1, c2, c3⟩ ⟨rfl, rfl, rfl, rfl, trivial⟩ ?_
  rintro k i L1 ⟨hik, hki, hnx, cp, cq, cr⟩
  have mki := hki.1
  refine wN_seq ?_
  refine wN_c_lss (a := (i : Int)) (b := 4) rfl rfl ?_
  refine wN_end ?_
  refine And.intro (fun q1 => ?_) (fun q1 => ?_)
  · have q1 : (i : Int) < 4 := of_decide_eq_true q1
    have hi : i < 4 := by omega
    first | refine wN_skip ?_ | skip
    refine wN_seq ?_
    refine wN_mov (v := iv (i : Int)) rfl ?_
    refine wN_mov (v := iv (i : Int)) rfl ?_
    refine wN_end ?_
    first | refine wD_dreg ?_ | (refine wOps_nil ?_; refine wD_dreg ?_)
    refine wD_mov (v := iv (i : Int)) rfl ?_
    refine wD_idxa (b := H.next) (o := 0) (k := i) (j := (i : Int)) rfl rfl rfl hi ?_
    refine wD_ld (b := H.next) (o := 0 + i * 1) (v := iv (p i)) rfl cp.rd (mix_at hi) ?_
    refine wD_mov (v := iv (i : Int)) rfl ?_
    refine wD_idxa (b := H1.next) (o := 0) (k := i) (j := (i : Int)) rfl rfl rfl hi ?_
    refine wD_ld (b := H1.next) (o := 0 + i * 1) (v := iv (q i)) rfl cq.rd (qc_at (p := q) hi) ?_
    refine wD_add (a := (p i)) (b := (q i)) rfl rfl (hr i hi) ?_
    refine wD_idxa (b := H.next) (o := 0) (k := i) (j := (i : Int)) rfl rfl rfl hi ?_
    refine wD_st (b := H.next) (o := 0 + i * 1) rfl rfl cp (by omega) rfl rfl (by simp; omega) ?_
    intro H4 kH4 nH4 sH4
    have mH4 := kH4.1
    have hki := hki.new kH4 (fun b hb => by simp at hb ⊢; omega)
    have cq := kH4.cl cq (by first | (simp; done) | (simp; omega))
    have cr := kH4.cl cr (by first | (simp; done) | (simp; omega))
    rw [qc_set (f := (addQ p q)) (v := p i + q i) hi rfl] at sH4
    have cp := sH4
    refine wD_end (by repeat' first | exact True.intro | exact (fun h => h) | refine And.intro ?_ ?_ | (intro h; have h : (_ : Nat) = _ := h; omega)) ?_
    first | refine wN_reg ?_ | refine wN_blk ?_ | refine wN_bseq ?_ | (refine wOps_nil ?_; refine wN_reg ?_)
    refine wN_add (a := (i : Int)) (b := 1) rfl rfl ⟨by omega, by omega⟩ ?_
    refine wN_mov (v := iv ((i : Int) + 1)) rfl ?_
    refine wN_end ?_
    exact ⟨k - 1, i + 1, by omega, ⟨by omega, hki, by omega, cp, cq, cr⟩, rfl, rfl, rfl, rfl, trivial⟩
  · have q1 : ¬ ((i : Int) < 4) := of_decide_eq_false q1
    have e : i = 4 := by omega
    subst e
    have cp : Cl L1 H.next (qc (addQ p q)) := cp
    refine wN_seq ?_
    refine wN_lda (b := H.next) (o := 0) rfl cp.rd (show row 4 (qc (addQ p q)) 0 = some (qc (addQ p q)) from rfl) ?_
    refine wN_sta (b := H2.next) (o := 0) rfl rfl cr (by omega) rfl rfl (by simp) ?_
    intro H5 kH5 nH5 sH5
    have mH5 := kH5.1
    have hki := hki.new kH5 (fun b hb => by simp at hb ⊢; omega)
    have cp := kH5.cl cp (by first | (simp; done) | (simp; omega))
    have cq := kH5.cl cq (by first | (simp; done) | (simp; omega))
    have cr : Cl H5 H2.next [iv ((addQ p q) 0), iv ((addQ p q) 1), iv ((addQ p q) 2), iv ((addQ p q) 3)] := sH5
    refine wN_end ?_
    exact And.intro trivial (Exists.intro _ (And.intro (res_cell rfl a104 i104s rfl cr) ⟨rfl, hki⟩))
/-- minus -/
theorem minus_ok {p q : Nat → Int} (hlo : lo ≤ H.next) (hr : ∀ j, j < 4 → InR (p j - q j)) : ∃ H', FnX Try.prog kn lo 98 [.agg (qc p).toArray, .agg (qc q).toArray] H (.agg (qc (subQ p q)).toArray) H' ∧ Keep H H' [] := by
  have key := fnX_low (kn := kn) (lo := lo) (H := H) (args := [.agg (qc p).toArray, .agg (qc q).toArray]) (Q := fun w H' => w = .agg (qc (subQ p q)).toArray ∧ Keep H H' []) Try.func98 B98 N98 Z98 L98 (by simp) ?_
  · obtain ⟨w, H', h, rfl, q⟩ := key; exact ⟨H', h, q⟩
  have hk := Keep.refl H []
  refine wN_seq ?_
  refine wN_box (v := .agg (qc p).toArray) rfl ?_
  intro H1 kH1 nH1 c1
  have c1 : Cl H1 H.next [iv (p 0), iv (p 1), iv (p 2), iv (p 3)] := c1
  have mH1 := kH1.1
  have hk := hk.trans kH1
  refine wN_box (v := .agg (qc q).toArray) rfl ?_
  intro H2 kH2 nH2 c2
  have c2 : Cl H2 H1.next [iv (q 0), iv (q 1), iv (q 2), iv (q 3)] := c2
  have mH2 := kH2.1
  have hk := hk.trans kH2
  have c1 := kH2.cl c1 (by simp)
  refine wN_alc ?_
  intro H3 kH3 nH3 c3
  have c3 : Cl H3 H2.next [iv 0, iv 0, iv 0, iv 0] := c3
  have mH3 := kH3.1
  have hk := hk.trans kH3
  have c1 := kH3.cl c1 (by simp)
  have c2 := kH3.cl c2 (by simp)
  refine wN_end ?_
  refine wN_seq ?_
  refine wN_mov (v := iv 0) rfl ?_
  refine wN_end ?_
  refine loop_low (fn := Try.f98) E98_1 N98 L98x1 (fun i : Nat => [(2, pt H.next), (3, pt H1.next), (4, pt H2.next), (6, iv (i : Int))])
    (fun k i H' => i + k = 4 ∧ Keep H H' [] ∧ H3.next ≤ H'.next ∧ Cl H' H.next (qc (mix i (subQ p q) p)) ∧ Cl H' H1.next (qc q) ∧ Cl H' H2.next [iv 0, iv 0, iv 0, iv 0]) 4 0 ⟨by omega, hk, Nat.le_refl _, c1, c2, c3⟩ ⟨rfl, rfl, rfl, rfl, trivial⟩ ?_
  rintro k i L1 ⟨hik, hki, hnx, cp, cq, cr⟩
  have mki := hki.1
  refine wN_seq ?_
  refine wN_c_lss (a := (i : Int)) (b := 4) rfl rfl ?_
  refine wN_end ?_
  refine And.intro (fun q1 => ?_) (fun q1 => ?_)
  · have q1 : (i : Int) < 4 := of_decide_eq_true q1
    have hi : i < 4 := by omega
    first | refine wN_skip ?_ | skip
    refine wN_seq ?_
    refine wN_mov (v := iv (i : Int)) rfl ?_
    refine wN_mov (v := iv (i : Int)) rfl ?_
    refine wN_end ?_
    first | refine wD_dreg ?_ | (refine wOps_nil ?_; refine wD_dreg ?_)
    refine wD_mov (v := iv (i : Int)) rfl ?_
    refine wD_idxa (b := H.next) (o := 0) (k := i) (j := (i : Int)) rfl rfl rfl hi ?_
    refine wD_ld (b := H.next) (o := 0 + i * 1) (v := iv (p i)) rfl cp.rd (mix_at hi) ?_
    refine wD_mov (v := iv (i : Int)) rfl ?_
    refine wD_idxa (b := H1.next) (o := 0) (k := i) (j := (i : Int)) rfl rfl rfl hi ?_
    refine wD_ld (b := H1.next) (o := 0 + i * 1) (v := iv (q i)) rfl cq.rd (qc_at (p := q) hi) ?_
    refine wD_sub (a := (p i)) (b := (q i)) rfl rfl (hr i hi) ?_
    refine wD_idxa (b := H.next) (o := 0) (k := i) (j := (i : Int)) rfl rfl rfl hi ?_
    refine wD_st (b := H.next) (o := 0 + i * 1) rfl rfl cp (by omega) rfl rfl (by simp; omega) ?_
    intro H4 kH4 nH4 sH4
    have mH4 := kH4.1
    have hki := hki.new kH4 (fun b hb => by simp at hb ⊢; omega)
    have cq := kH4.cl cq (by first | (simp; done) | (simp; omega))
    have cr := kH4.cl cr (by first | (simp; done) | (simp; omega))
    rw [qc_set (f := (subQ p q)) (v := p i - q i) hi rfl] at sH4
    have cp := sH4
    refine wD_end (by repeat' first | exact True.intro | exact (fun h => h) | refine And.intro ?_ ?_ | (intro h; have h : (_ : Nat) = _ := h; omega)) ?_
    first | refine wN_reg ?_ | refine wN_blk ?_ | refine wN_bseq ?_ | (refine wOps_nil ?_; refine wN_reg ?_)
    refine wN_add (a := (i : Int)) (b := 1) rfl rfl ⟨by omega, by omega⟩ ?_
    refine wN_mov (v := iv ((i : Int) + 1)) rfl ?_
    refine wN_end ?_
    exact ⟨k - 1, i + 1, by omega, ⟨by omega, hki, by omega, cp, cq, cr⟩, rfl, rfl, rfl, rfl, trivial⟩
  · have q1 : ¬ ((i : Int) < 4) := of_decide_eq_false q1
    have e : i = 4 := by omega
    subst e
    have cp : Cl L1 H.next (qc (subQ p q)) := cp
    refine wN_seq ?_
    refine wN_lda (b := H.next) (o := 0) rfl cp.rd (show row 4 (qc (subQ p q)) 0 = some (qc (subQ p q)) from rfl) ?_
    refine wN_sta (b := H2.next) (o := 0) rfl rfl cr (by omega) rfl rfl (by simp) ?_
    intro H5 kH5 nH5 sH5
    have mH5 := kH5.1
    have hki := hki.new kH5 (fun b hb => by simp at hb ⊢; omega)
    have cp := kH5.cl cp (by first | (simp; done) | (simp; omega))
    have cq := kH5.cl cq (by first | (simp; done) | (simp; omega))
    have cr : Cl H5 H2.next [iv ((subQ p q) 0), iv ((subQ p q) 1), iv ((subQ p q) 2), iv ((subQ p q) 3)] := sH5
    refine wN_end ?_
    exact And.intro trivial (Exists.intro _ (And.intro (res_cell rfl a104 i104s rfl cr) ⟨rfl, hki⟩))
/-- share -/
theorem share_ok {p q : Nat → Int} (hlo : lo ≤ H.next) (hr : ∀ j, j < 4 → InR (p j * q j)) (hn : ∀ j, j < 4 → 0 ≤ p j * q j) : ∃ H', FnX Try.prog kn lo 97 [.agg (qc p).toArray, .agg (qc q).toArray] H (.agg (qc (shQ p q)).toArray) H' ∧ Keep H H' [] := by
  have key := fnX_low (kn := kn) (lo := lo) (H := H) (args := [.agg (qc p).toArray, .agg (qc q).toArray]) (Q := fun w H' => w = .agg (qc (shQ p q)).toArray ∧ Keep H H' []) Try.func97 B97 N97 Z97 L97 (by simp) ?_
  · obtain ⟨w, H', h, rfl, q⟩ := key; exact ⟨H', h, q⟩
  have hk := Keep.refl H []
  refine wN_seq ?_
  refine wN_box (v := .agg (qc p).toArray) rfl ?_
  intro H1 kH1 nH1 c1
  have c1 : Cl H1 H.next [iv (p 0), iv (p 1), iv (p 2), iv (p 3)] := c1
  have mH1 := kH1.1
  have hk := hk.trans kH1
  refine wN_box (v := .agg (qc q).toArray) rfl ?_
  intro H2 kH2 nH2 c2
  have c2 : Cl H2 H1.next [iv (q 0), iv (q 1), iv (q 2), iv (q 3)] := c2
  have mH2 := kH2.1
  have hk := hk.trans kH2
  have c1 := kH2.cl c1 (by simp)
  refine wN_alc ?_
  intro H3 kH3 nH3 c3
  have c3 : Cl H3 H2.next [iv 0, iv 0, iv 0, iv 0] := c3
  have mH3 := kH3.1
  have hk := hk.trans kH3
  have c1 := kH3.cl c1 (by simp)
  have c2 := kH3.cl c2 (by simp)
  refine wN_end ?_
  refine wN_seq ?_
  refine wN_mov (v := iv 0) rfl ?_
  refine wN_end ?_
  refine loop_low (fn := Try.f97) E97_1 N97 L97x1 (fun i : Nat => [(2, pt H.next), (3, pt H1.next), (4, pt H2.next), (6, iv (i : Int))])
    (fun k i H' => i + k = 4 ∧ Keep H H' [] ∧ H3.next ≤ H'.next ∧ Cl H' H.next (qc (mix i (shQ p q) p)) ∧ Cl H' H1.next (qc q) ∧ Cl H' H2.next [iv 0, iv 0, iv 0, iv 0]) 4 0 ⟨by omega, hk, Nat.le_refl _, c1, c2, c3⟩ ⟨rfl, rfl, rfl, rfl, trivial⟩ ?_
  rintro k i L1 ⟨hik, hki, hnx, cp, cq, cr⟩
  have mki := hki.1
  refine wN_seq ?_
  refine wN_c_lss (a := (i : Int)) (b := 4) rfl rfl ?_
  refine wN_end ?_
  refine And.intro (fun q1 => ?_) (fun q1 => ?_)
  · have q1 : (i : Int) < 4 := of_decide_eq_true q1
    have hi : i < 4 := by omega
    first | refine wN_skip ?_ | skip
    refine wN_seq ?_
    refine wN_mov (v := iv (i : Int)) rfl ?_
    refine wN_mov (v := iv (i : Int)) rfl ?_
    refine wN_end ?_
    first | refine wD_dreg ?_ | (refine wOps_nil ?_; refine wD_dreg ?_)
    refine wD_mov (v := iv (i : Int)) rfl ?_
    refine wD_mov (v := iv (i : Int)) rfl ?_
    refine wD_idxa (b := H.next) (o := 0) (k := i) (j := (i : Int)) rfl rfl rfl hi ?_
    refine wD_ld (b := H.next) (o := 0 + i * 1) (v := iv (p i)) rfl cp.rd (mix_at hi) ?_
    refine wD_mov (v := iv (i : Int)) rfl ?_
    refine wD_idxa (b := H1.next) (o := 0) (k := i) (j := (i : Int)) rfl rfl rfl hi ?_
    refine wD_ld (b := H1.next) (o := 0 + i * 1) (v := iv (q i)) rfl cq.rd (qc_at (p := q) hi) ?_
    refine wD_mul (a := (p i)) (b := (q i)) rfl rfl (hr i hi) ?_
    refine wD_quo (a := (p i) * (q i)) (b := 1000) rfl rfl (hn i hi) (by decide) (hr i hi) ?_
    refine wD_idxa (b := H.next) (o := 0) (k := i) (j := (i : Int)) rfl rfl rfl hi ?_
    refine wD_st (b := H.next) (o := 0 + i * 1) rfl rfl cp (by omega) rfl rfl (by simp; omega) ?_
    intro H4 kH4 nH4 sH4
    have mH4 := kH4.1
    have hki := hki.new kH4 (fun b hb => by simp at hb ⊢; omega)
    have cq := kH4.cl cq (by first | (simp; done) | (simp; omega))
    have cr := kH4.cl cr (by first | (simp; done) | (simp; omega))
    rw [qc_set (f := (shQ p q)) (v := p i * q i / 1000) hi rfl] at sH4
    have cp := sH4
    refine wD_end (by repeat' first | exact True.intro | exact (fun h => h) | refine And.intro ?_ ?_ | (intro h; have h : (_ : Nat) = _ := h; omega)) ?_
    first | refine wN_reg ?_ | refine wN_blk ?_ | refine wN_bseq ?_ | (refine wOps_nil ?_; refine wN_reg ?_)
    refine wN_add (a := (i : Int)) (b := 1) rfl rfl ⟨by omega, by omega⟩ ?_
    refine wN_mov (v := iv ((i : Int) + 1)) rfl ?_
    refine wN_end ?_
    exact ⟨k - 1, i + 1, by omega, ⟨by omega, hki, by omega, cp, cq, cr⟩, rfl, rfl, rfl, rfl, trivial⟩
  · have q1 : ¬ ((i : Int) < 4) := of_decide_eq_false q1
    have e : i = 4 := by omega
    subst e
    have cp : Cl L1 H.next (qc (shQ p q)) := cp
    refine wN_seq ?_
    refine wN_lda (b := H.next) (o := 0) rfl cp.rd (show row 4 (qc (shQ p q)) 0 = some (qc (shQ p q)) from rfl) ?_
    refine wN_sta (b := H2.next) (o := 0) rfl rfl cr (by omega) rfl rfl (by simp) ?_
    intro H5 kH5 nH5 sH5
    have mH5 := kH5.1
    have hki := hki.new kH5 (fun b hb => by simp at hb ⊢; omega)
    have cp := kH5.cl cp (by first | (simp; done) | (simp; omega))
    have cq := kH5.cl cq (by first | (simp; done) | (simp; omega))
    have cr : Cl H5 H2.next [iv ((shQ p q) 0), iv ((shQ p q) 1), iv ((shQ p q) 2), iv ((shQ p q) 3)] := sH5
    refine wN_end ?_
    exact And.intro trivial (Exists.intro _ (And.intro (res_cell rfl a104 i104s rfl cr) ⟨rfl, hki⟩))
/-- areWithin -/
theorem within_ok {p : Nat → Int} {m : Int} : ∃ H', FnX Try.prog kn lo 67 [.agg (qc p).toArray, iv m] H (.bool (wiQ p m)) H' ∧ Keep H H' [] := by
  have key := fnX_low (kn := kn) (lo := lo) (H := H) (args := [.agg (qc p).toArray, iv m]) (Q := fun w H' => w = .bool (wiQ p m) ∧ Keep H H' []) Try.func67 B67 N67 Z67 L67 (by simp) ?_
  · obtain ⟨w, H', h, rfl, q⟩ := key; exact ⟨H', h, q⟩
  have hk := Keep.refl H []
  refine wN_seq ?_
  refine wN_box (v := .agg (qc p).toArray) rfl ?_
  intro H1 kH1 nH1 c1
  have c1 : Cl H1 H.next [iv (p 0), iv (p 1), iv (p 2), iv (p 3)] := c1
  have mH1 := kH1.1
  have hk := hk.trans kH1
  refine wN_mov (v := .bool false) rfl ?_
  refine wN_end ?_
  refine wN_seq ?_
  refine wN_lda (b := H.next) (o := 0) rfl c1.rd (show row 4 _ _ = some [iv (p 0), iv (p 1), iv (p 2), iv (p 3)] from rfl) ?_
  refine wN_mov (v := iv 0) rfl ?_
  refine wN_end ?_
  refine loop_low (fn := Try.f67) E67_1 N67 L67x1 (fun i : Nat => [(1, iv m), (7, .agg (qc p).toArray), (8, iv (i : Int))])
    (fun k i H' => i + k = 4 ∧ Keep H H' [] ∧ ∀ j, j < i → isw (p j) m = true) 4 0 ⟨by omega, hk, fun j h => absurd h (by omega)⟩ ⟨rfl, rfl, rfl, trivial⟩ ?_
  rintro k i L1 ⟨hik, hki, hall⟩
  refine wN_seq ?_
  refine wN_c_lss (a := (i : Int)) (b := 4) rfl rfl ?_
  refine wN_end ?_
  refine And.intro (fun q1 => ?_) (fun q1 => ?_)
  · have q1 : (i : Int) < 4 := of_decide_eq_true q1
    have hi : i < 4 := by omega
    first | refine wN_skip ?_ | skip
    refine wN_seq ?_
    refine wN_pur (v := iv (p i)) rfl (index4 rfl rfl hi) ?_
    refine wN_mov (v := iv (p i)) rfl ?_
    refine wN_end ?_
    refine wN_seq ?_
    refine wN_mov (v := iv (p i)) rfl ?_
    refine wN_mov (v := iv m) rfl ?_
    refine wN_callB rfl (isw_ok) ?_
    intro tH2 H2 hH2 kH2
    have mH2 := kH2.1
    have hki := hki.trans kH2
    cases tH2
    · have hb : isw (p i) m = false := hH2
      refine wN_pur (v := .bool true) rfl rfl ?_
      refine wN_end ?_
      refine condT ?_
      refine wN_seq ?_
      refine wN_mov (v := .bool false) rfl ?_
      refine wN_end ?_
      exact And.intro trivial (Exists.intro _ (And.intro rfl ⟨congrArg Value.bool (wiQ_fail hi hb).symm, hki⟩))
    · have hb : isw (p i) m = true := hH2
      refine wN_pur (v := .bool false) rfl rfl ?_
      refine wN_end ?_
      refine condF ?_
      first | refine wN_skip ?_ | skip
      first | refine wN_reg ?_ | refine wN_blk ?_ | refine wN_bseq ?_ | (refine wOps_nil ?_; refine wN_reg ?_)
      refine wN_add (a := (i : Int)) (b := 1) rfl rfl ⟨by omega, by omega⟩ ?_
      refine wN_mov (v := iv ((i : Int) + 1)) rfl ?_
      refine wN_end ?_
      exact ⟨k - 1, i + 1, by omega, ⟨by omega, hki, wiQ_step hall hb⟩, rfl, rfl, rfl, trivial⟩
  · have q1 : ¬ ((i : Int) < 4) := of_decide_eq_false q1
    have e : i = 4 := by omega
    subst e
    refine wN_seq ?_
    refine wN_mov (v := .bool true) rfl ?_
    refine wN_end ?_
    exact And.intro trivial (Exists.intro _ (And.intro rfl ⟨congrArg Value.bool (wiQ_all hall).symm, hki⟩))
end
end Go.Ax

/-! What 'low' makes of functions of plant (written by program). -/
namespace Go.Ax
open Go Go.RowKit Go.Proofs
theorem N3 : Try.f3.ntmps = 70 := by kernel_rfl
theorem Z3 : Try.f3.results.toList = ((List.toArray [(.tmp 6)]) : Array ResultVar).toList := by kernel_rfl
theorem B3 : Try.f3.body = some (at_ Try.f3 []) := by kernel_rfl
noncomputable def R3 : RC := (.seq (.reg [⟨(some 4), none, (.box 24 (.tmp 1))⟩, ⟨(some 6), none, (.mov (.const (.bool false)))⟩])
  (.seq (.seq (.reg [⟨(some 15), none, (.mov (.tmp 0))⟩, ⟨(some 16), none, (.call ⟨(.value (.func 15)), (List.toArray [(.tmp 15)]), (List.toArray [22])⟩ true)⟩])
  (.cond (.tmp 16) (.seq (.reg [⟨(some 17), none, (.call ⟨(.value (.func 16)), (List.toArray []), (List.toArray [])⟩ true)⟩, ⟨(some 6), none, (.mov (.tmp 17))⟩])
  .ret)
  .skip))
  (.seq (.reg [⟨(some 19), none, (.mov (.tmp 0))⟩, ⟨(some 20), none, (.lda (.tmp 4) 4)⟩, ⟨(some 21), none, (.call ⟨(.value (.func 17)), (List.toArray [(.tmp 19), (.tmp 20)]), (List.toArray [22, 24])⟩ true)⟩, ⟨(some 18), none, (.mov (.tmp 21))⟩, ⟨(some 22), none, (.pur ⟨(some 22), (.extract (.tmp 18) 0), 27, "", (List.toArray []), none⟩)⟩, ⟨(some 23), none, (.pur ⟨(some 23), (.extract (.tmp 18) 1), 28, "", (List.toArray []), none⟩)⟩, ⟨(some 7), none, (.mov (.tmp 22))⟩, ⟨(some 8), none, (.mov (.tmp 23))⟩])
  (.seq (.reg [⟨(some 25), none, (.mov (.tmp 0))⟩, ⟨(some 26), none, (.lda (.tmp 4) 4)⟩, ⟨(some 27), none, (.call ⟨(.value (.func 18)), (List.toArray [(.tmp 25), (.tmp 26)]), (List.toArray [22, 24])⟩ true)⟩, ⟨(some 24), none, (.mov (.tmp 27))⟩, ⟨(some 28), none, (.pur ⟨(some 28), (.extract (.tmp 24) 0), 27, "", (List.toArray []), none⟩)⟩, ⟨(some 29), none, (.pur ⟨(some 29), (.extract (.tmp 24) 1), 28, "", (List.toArray []), none⟩)⟩, ⟨(some 9), none, (.mov (.tmp 28))⟩, ⟨(some 10), none, (.mov (.tmp 29))⟩])
  (.seq (.reg [⟨(some 31), none, (.lda (.tmp 4) 4)⟩, ⟨(some 32), none, (.mov (.tmp 2))⟩, ⟨(some 33), none, (.call ⟨(.value (.func 19)), (List.toArray [(.tmp 31), (.tmp 32)]), (List.toArray [24, 3])⟩ true)⟩, ⟨(some 30), none, (.mov (.tmp 33))⟩, ⟨(some 34), none, (.pur ⟨(some 34), (.extract (.tmp 30) 0), 3, "", (List.toArray []), none⟩)⟩, ⟨(some 35), none, (.pur ⟨(some 35), (.extract (.tmp 30) 1), 28, "", (List.toArray []), none⟩)⟩, ⟨(some 11), none, (.mov (.tmp 34))⟩, ⟨(some 12), none, (.mov (.tmp 35))⟩])
  (.seq (.reg [⟨(some 37), none, (.lda (.tmp 4) 4)⟩, ⟨(some 38), none, (.mov (.tmp 2))⟩, ⟨(some 39), none, (.call ⟨(.value (.func 20)), (List.toArray [(.tmp 37), (.tmp 38)]), (List.toArray [24, 3])⟩ true)⟩, ⟨(some 36), none, (.mov (.tmp 39))⟩, ⟨(some 40), none, (.pur ⟨(some 40), (.extract (.tmp 36) 0), 3, "", (List.toArray []), none⟩)⟩, ⟨(some 41), none, (.pur ⟨(some 41), (.extract (.tmp 36) 1), 28, "", (List.toArray []), none⟩)⟩, ⟨(some 13), none, (.mov (.tmp 40))⟩, ⟨(some 14), none, (.mov (.tmp 41))⟩])
  (.seq (.reg [⟨(some 42), none, (.mov (.tmp 0))⟩, ⟨(some 43), none, (.call ⟨(.value (.func 21)), (List.toArray [(.tmp 42)]), (List.toArray [22])⟩ true)⟩, ⟨(some 44), none, (.mov (.tmp 0))⟩, ⟨(some 45), none, (.call ⟨(.value (.func 22)), (List.toArray [(.tmp 44)]), (List.toArray [22])⟩ true)⟩, ⟨(some 46), none, (.cmpb .eql (.tmp 43) (.tmp 45))⟩, ⟨(some 47), none, (.mov (.tmp 46))⟩, ⟨(some 48), (some (47, true)), (.mov (.tmp 7))⟩, ⟨(some 49), (some (47, true)), (.mov (.tmp 9))⟩, ⟨(some 50), (some (47, true)), (.call ⟨(.value (.func 23)), (List.toArray [(.tmp 48), (.tmp 49)]), (List.toArray [27, 27])⟩ true)⟩, ⟨(some 51), none, (.pur ⟨(some 51), (.pick (.tmp 47) (.tmp 50) (.const (.bool false))), 4, "", (List.toArray []), none⟩)⟩, ⟨(some 52), none, (.mov (.tmp 51))⟩, ⟨(some 53), (some (52, true)), (.mov (.tmp 8))⟩, ⟨(some 54), (some (52, true)), (.mov (.tmp 10))⟩, ⟨(some 55), (some (52, true)), (.cmpb .eql (.tmp 53) (.tmp 54))⟩, ⟨(some 56), none, (.pur ⟨(some 56), (.pick (.tmp 52) (.tmp 55) (.const (.bool false))), 4, "", (List.toArray []), none⟩)⟩, ⟨(some 57), none, (.mov (.tmp 56))⟩, ⟨(some 58), (some (57, true)), (.mov (.tmp 11))⟩, ⟨(some 59), (some (57, true)), (.mov (.tmp 13))⟩, ⟨(some 60), (some (57, true)), (.cmpb .eql (.tmp 58) (.tmp 59))⟩, ⟨(some 61), none, (.pur ⟨(some 61), (.pick (.tmp 57) (.tmp 60) (.const (.bool false))), 4, "", (List.toArray []), none⟩)⟩, ⟨(some 62), none, (.mov (.tmp 61))⟩, ⟨(some 63), (some (62, true)), (.mov (.tmp 12))⟩, ⟨(some 64), (some (62, true)), (.mov (.tmp 14))⟩, ⟨(some 65), (some (62, true)), (.cmpb .eql (.tmp 63) (.tmp 64))⟩, ⟨(some 66), none, (.pur ⟨(some 66), (.pick (.tmp 62) (.tmp 65) (.const (.bool false))), 4, "", (List.toArray []), none⟩)⟩, ⟨(some 67), none, (.mov (.tmp 66))⟩, ⟨(some 68), (some (67, true)), (.call ⟨(.value (.func 16)), (List.toArray []), (List.toArray [])⟩ true)⟩, ⟨(some 69), none, (.pur ⟨(some 69), (.pick (.tmp 67) (.tmp 68) (.const (.bool false))), 4, "", (List.toArray []), none⟩)⟩, ⟨(some 6), none, (.mov (.tmp 69))⟩])
  .ret)))))))
theorem L3 : low Try.prog Try.f3.ntmps (at_ Try.f3 []) = some R3 := by kernel_rfl
theorem N15 : Try.f15.ntmps = 24 := by kernel_rfl
theorem Z15 : Try.f15.results.toList = ((List.toArray [(.tmp 2)]) : Array ResultVar).toList := by kernel_rfl
theorem B15 : Try.f15.body = some (at_ Try.f15 []) := by kernel_rfl
noncomputable def R15 : RC := (.seq (.reg [⟨(some 2), none, (.mov (.const (.bool false)))⟩])
  (.seq (.seq (.reg [⟨(some 3), none, (.mov (.const (.int .i64 0)))⟩])
  (.block 0 (.other (at_ Try.f15 [1, 0, 1, 0]))))
  (.seq (.reg [⟨(some 21), none, (.mov (.tmp 0))⟩, ⟨(some 22), none, (.len (.tmp 21))⟩, ⟨(some 23), none, (.cmp .gtr (.tmp 22) (.const (.int .i64 16)))⟩, ⟨(some 2), none, (.mov (.tmp 23))⟩])
  .ret)))
theorem L15 : low Try.prog Try.f15.ntmps (at_ Try.f15 []) = some R15 := by kernel_rfl
theorem E15_1 : at_ Try.f15 [1, 0, 1, 0] = .loop (at_ Try.f15 [1, 0, 1, 0, 0]) := by kernel_rfl
noncomputable def R15x1 : RC := (.seq (.seq (.reg [⟨(some 4), none, (.mov (.tmp 3))⟩, ⟨(some 5), none, (.mov (.tmp 0))⟩, ⟨(some 6), none, (.len (.tmp 5))⟩, ⟨(some 7), none, (.cmpb .lss (.tmp 4) (.tmp 6))⟩, ⟨(some 8), none, (.mov (.tmp 7))⟩, ⟨(some 9), (some (8, true)), (.mov (.tmp 3))⟩, ⟨(some 10), (some (8, true)), (.cmpb .lss (.tmp 9) (.const (.int .i64 17)))⟩, ⟨(some 11), none, (.pur ⟨(some 11), (.pick (.tmp 8) (.tmp 10) (.const (.bool false))), 4, "", (List.toArray []), none⟩)⟩])
  (.cond (.tmp 11) .skip
  (.exit 0)))
  (.seq (.block 1 (.seq (.reg [⟨(some 14), none, (.mov (.tmp 0))⟩, ⟨(some 15), none, (.mov (.tmp 3))⟩, ⟨(some 16), none, (.idx (.tmp 14) (.tmp 15) 1)⟩, ⟨(some 17), none, (.addo (.tmp 16) 0)⟩, ⟨(some 18), none, (.ld (.tmp 17) 1)⟩, ⟨(some 19), none, (.len (.tmp 18))⟩, ⟨(some 20), none, (.cmp .gtr (.tmp 19) (.const (.int .i64 8)))⟩])
  (.cond (.tmp 20) (.seq (.reg [⟨(some 2), none, (.mov (.const (.bool true)))⟩])
  .ret)
  .skip)))
  (.reg [⟨(some 12), none, (.mov (.tmp 3))⟩, ⟨(some 13), none, (.ari .add (.tmp 12) (.const (.int .i64 1)))⟩, ⟨(some 3), none, (.mov (.tmp 13))⟩])))
theorem L15x1 : low Try.prog Try.f15.ntmps (at_ Try.f15 [1, 0, 1, 0, 0]) = some R15x1 := by kernel_rfl
theorem N18 : Try.f18.ntmps = 134 := by kernel_rfl
theorem Z18 : Try.f18.results.toList = ((List.toArray [(.tmp 4), (.tmp 5)]) : Array ResultVar).toList := by kernel_rfl
theorem B18 : Try.f18.body = some (at_ Try.f18 []) := by kernel_rfl
noncomputable def R18 : RC := (.seq (.reg [⟨(some 3), none, (.box 24 (.tmp 1))⟩, ⟨(some 4), none, (.mov (.const (.slice none 0 0)))⟩, ⟨(some 5), none, (.mov (.const (.int .i64 0)))⟩])
  (.seq (.seq (.reg [⟨(some 14), none, (.mov (.tmp 0))⟩, ⟨(some 15), none, (.call ⟨(.value (.func 45)), (List.toArray [(.tmp 14)]), (List.toArray [22])⟩ true)⟩, ⟨(some 16), none, (.pur ⟨(some 16), (.unOp .not 4 (.tmp 15)), 4, "", (List.toArray []), none⟩)⟩, ⟨(some 17), none, (.mov (.tmp 16))⟩, ⟨(some 18), (some (17, false)), (.lda (.tmp 3) 4)⟩, ⟨(some 19), (some (17, false)), (.call ⟨(.value (.func 46)), (List.toArray [(.tmp 18)]), (List.toArray [24])⟩ true)⟩, ⟨(some 20), (some (17, false)), (.pur ⟨(some 20), (.unOp .not 4 (.tmp 19)), 4, "", (List.toArray []), none⟩)⟩, ⟨(some 21), none, (.pur ⟨(some 21), (.pick (.tmp 17) (.const (.bool true)) (.tmp 20)), 4, "", (List.toArray []), none⟩)⟩])
  (.cond (.tmp 21) (.seq (.reg [⟨(some 4), none, (.mov (.const (.slice none 0 0)))⟩, ⟨(some 5), none, (.mov (.const (.int .i64 1)))⟩])
  .ret)
  .skip))
  (.seq (.reg [⟨(some 22), none, (.mem ⟨(some 22), (.makeSlice 27 (.const (.int .i64 16)) (.const (.int .i64 16))), 27, "", (List.toArray []), none⟩)⟩, ⟨(some 6), none, (.mov (.tmp 22))⟩])
  (.seq (.seq (.reg [⟨(some 23), none, (.mov (.tmp 0))⟩, ⟨(some 24), none, (.len (.tmp 23))⟩, ⟨(some 25), none, (.cmp .eql (.tmp 24) (.const (.int .i64 0)))⟩])
  (.cond (.tmp 25) (.seq (.reg [⟨(some 26), none, (.mov (.tmp 6))⟩, ⟨(some 27), none, (.lda (.tmp 3) 4)⟩, ⟨(some 28), none, (.idx (.tmp 26) (.const (.int .i64 0)) 4)⟩, ⟨none, none, (.sta (.tmp 28) (.tmp 27) 4)⟩])
  (.seq (.reg [⟨(some 29), none, (.mov (.tmp 6))⟩, ⟨(some 4), none, (.mov (.tmp 29))⟩, ⟨(some 5), none, (.mov (.const (.int .i64 0)))⟩])
  .ret))
  .skip))
  (.seq (.reg [⟨(some 30), none, (.mov (.tmp 0))⟩, ⟨(some 31), none, (.len (.tmp 30))⟩, ⟨(some 32), none, (.mem ⟨(some 32), (.makeSlice 27 (.tmp 31) (.tmp 31)), 27, "", (List.toArray []), none⟩)⟩, ⟨(some 7), none, (.mov (.tmp 32))⟩])
  (.seq (.reg [⟨(some 33), none, (.mov (.tmp 7))⟩, ⟨(some 34), none, (.lda (.tmp 3) 4)⟩, ⟨(some 35), none, (.idx (.tmp 33) (.const (.int .i64 0)) 4)⟩, ⟨none, none, (.sta (.tmp 35) (.tmp 34) 4)⟩])
  (.seq (.seq (.reg [⟨(some 8), none, (.mov (.const (.int .i64 0)))⟩])
  (.block 0 (.other (at_ Try.f18 [1, 1, 1, 1, 1, 1, 0, 1, 0]))))
  (.seq (.reg [⟨(some 133), none, (.mov (.tmp 6))⟩, ⟨(some 4), none, (.mov (.tmp 133))⟩, ⟨(some 5), none, (.mov (.const (.int .i64 0)))⟩])
  .ret))))))))
theorem L18 : low Try.prog Try.f18.ntmps (at_ Try.f18 []) = some R18 := by kernel_rfl
theorem E18_1 : at_ Try.f18 [1, 1, 1, 1, 1, 1, 0, 1, 0] = .loop (at_ Try.f18 [1, 1, 1, 1, 1, 1, 0, 1, 0, 0]) := by kernel_rfl
noncomputable def R18x1 : RC := (.seq (.seq (.reg [⟨(some 36), none, (.mov (.tmp 8))⟩, ⟨(some 37), none, (.mov (.tmp 0))⟩, ⟨(some 38), none, (.len (.tmp 37))⟩, ⟨(some 39), none, (.cmp .lss (.tmp 36) (.tmp 38))⟩])
  (.cond (.tmp 39) .skip
  (.exit 0)))
  (.seq (.block 1 (.seq (.reg [⟨(some 42), none, (.mov (.tmp 7))⟩, ⟨(some 43), none, (.mov (.tmp 8))⟩, ⟨(some 44), none, (.idx (.tmp 42) (.tmp 43) 4)⟩, ⟨(some 45), none, (.lda (.tmp 44) 4)⟩, ⟨(some 9), none, (.alc 24 [(.int .i64 0), (.int .i64 0), (.int .i64 0), (.int .i64 0)])⟩, ⟨none, none, (.sta (.tmp 9) (.tmp 45) 4)⟩])
  (.seq (.reg [⟨(some 10), none, (.mov (.const (.int .i64 0)))⟩])
  (.block 2 (.other (at_ Try.f18 [1, 1, 1, 1, 1, 1, 0, 1, 0, 0, 1, 0, 0, 1, 1, 0]))))))
  (.reg [⟨(some 40), none, (.mov (.tmp 8))⟩, ⟨(some 41), none, (.ari .add (.tmp 40) (.const (.int .i64 1)))⟩, ⟨(some 8), none, (.mov (.tmp 41))⟩])))
theorem L18x1 : low Try.prog Try.f18.ntmps (at_ Try.f18 [1, 1, 1, 1, 1, 1, 0, 1, 0, 0]) = some R18x1 := by kernel_rfl
theorem E18_2 : at_ Try.f18 [1, 1, 1, 1, 1, 1, 0, 1, 0, 0, 1, 0, 0, 1, 1, 0] = .loop (at_ Try.f18 [1, 1, 1, 1, 1, 1, 0, 1, 0, 0, 1, 0, 0, 1, 1, 0, 0]) := by kernel_rfl
noncomputable def R18x2 : RC := (.seq (.seq (.reg [⟨(some 46), none, (.mov (.tmp 10))⟩, ⟨(some 47), none, (.mov (.tmp 0))⟩, ⟨(some 48), none, (.mov (.tmp 8))⟩, ⟨(some 49), none, (.idx (.tmp 47) (.tmp 48) 1)⟩, ⟨(some 50), none, (.addo (.tmp 49) 0)⟩, ⟨(some 51), none, (.ld (.tmp 50) 1)⟩, ⟨(some 52), none, (.len (.tmp 51))⟩, ⟨(some 53), none, (.cmp .lss (.tmp 46) (.tmp 52))⟩])
  (.cond (.tmp 53) .skip
  (.exit 2)))
  (.seq (.block 3 (.seq (.reg [⟨(some 56), none, (.mov (.tmp 0))⟩, ⟨(some 57), none, (.mov (.tmp 8))⟩, ⟨(some 58), none, (.idx (.tmp 56) (.tmp 57) 1)⟩, ⟨(some 59), none, (.addo (.tmp 58) 0)⟩, ⟨(some 60), none, (.ld (.tmp 59) 1)⟩, ⟨(some 61), none, (.mov (.tmp 10))⟩, ⟨(some 62), none, (.idx (.tmp 60) (.tmp 61) 5)⟩, ⟨(some 63), none, (.lda (.tmp 62) 5)⟩, ⟨(some 11), none, (.alc 59 [(.int .i64 0), (.int .i64 0), (.int .i64 0), (.int .i64 0), (.int .i64 0)])⟩, ⟨none, none, (.sta (.tmp 11) (.tmp 63) 5)⟩])
  (.seq (.reg [⟨(some 64), none, (.lda (.tmp 9) 4)⟩, ⟨(some 12), none, (.alc 24 [(.int .i64 0), (.int .i64 0), (.int .i64 0), (.int .i64 0)])⟩, ⟨none, none, (.sta (.tmp 12) (.tmp 64) 4)⟩])
  (.seq (.seq (.reg [⟨(some 65), none, (.mov (.tmp 10))⟩, ⟨(some 66), none, (.mov (.tmp 0))⟩, ⟨(some 67), none, (.mov (.tmp 8))⟩, ⟨(some 68), none, (.idx (.tmp 66) (.tmp 67) 1)⟩, ⟨(some 69), none, (.addo (.tmp 68) 0)⟩, ⟨(some 70), none, (.ld (.tmp 69) 1)⟩, ⟨(some 71), none, (.len (.tmp 70))⟩, ⟨(some 72), none, (.ari .sub (.tmp 71) (.const (.int .i64 1)))⟩, ⟨(some 73), none, (.cmp .lss (.tmp 65) (.tmp 72))⟩])
  (.cond (.tmp 73) (.seq (.reg [⟨(some 74), none, (.mov (.tmp 7))⟩, ⟨(some 75), none, (.mov (.tmp 8))⟩, ⟨(some 76), none, (.idx (.tmp 74) (.tmp 75) 4)⟩, ⟨(some 77), none, (.lda (.tmp 76) 4)⟩, ⟨(some 13), none, (.alc 24 [(.int .i64 0), (.int .i64 0), (.int .i64 0), (.int .i64 0)])⟩, ⟨none, none, (.sta (.tmp 13) (.tmp 77) 4)⟩])
  (.reg [⟨(some 78), none, (.addo (.tmp 13) 0)⟩, ⟨(some 79), none, (.ld (.tmp 78) 1)⟩, ⟨(some 80), none, (.addo (.tmp 11) 1)⟩, ⟨(some 81), none, (.ld (.tmp 80) 1)⟩, ⟨(some 82), none, (.ari .mul (.tmp 79) (.tmp 81))⟩, ⟨(some 83), none, (.ari .quo (.tmp 82) (.const (.int .i64 1000)))⟩, ⟨(some 84), none, (.addo (.tmp 13) 1)⟩, ⟨(some 85), none, (.ld (.tmp 84) 1)⟩, ⟨(some 86), none, (.addo (.tmp 11) 2)⟩, ⟨(some 87), none, (.ld (.tmp 86) 1)⟩, ⟨(some 88), none, (.ari .mul (.tmp 85) (.tmp 87))⟩, ⟨(some 89), none, (.ari .quo (.tmp 88) (.const (.int .i64 1000)))⟩, ⟨(some 90), none, (.addo (.tmp 13) 2)⟩, ⟨(some 91), none, (.ld (.tmp 90) 1)⟩, ⟨(some 92), none, (.addo (.tmp 11) 3)⟩, ⟨(some 93), none, (.ld (.tmp 92) 1)⟩, ⟨(some 94), none, (.ari .mul (.tmp 91) (.tmp 93))⟩, ⟨(some 95), none, (.ari .quo (.tmp 94) (.const (.int .i64 1000)))⟩, ⟨(some 96), none, (.addo (.tmp 13) 3)⟩, ⟨(some 97), none, (.ld (.tmp 96) 1)⟩, ⟨(some 98), none, (.addo (.tmp 11) 4)⟩, ⟨(some 99), none, (.ld (.tmp 98) 1)⟩, ⟨(some 100), none, (.ari .mul (.tmp 97) (.tmp 99))⟩, ⟨(some 101), none, (.ari .quo (.tmp 100) (.const (.int .i64 1000)))⟩, ⟨(some 102), none, (.pur ⟨(some 102), (.build 24 (List.toArray [(0, (.tmp 83)), (1, (.tmp 89)), (2, (.tmp 95)), (3, (.tmp 101))])), 24, "", (List.toArray []), none⟩)⟩, ⟨none, none, (.sta (.tmp 12) (.tmp 102) 4)⟩]))
  .skip))
  (.seq (.reg [⟨(some 103), none, (.lda (.tmp 9) 4)⟩, ⟨(some 104), none, (.lda (.tmp 12) 4)⟩, ⟨(some 105), none, (.call ⟨(.value (.func 47)), (List.toArray [(.tmp 103), (.tmp 104)]), (List.toArray [24, 24])⟩ true)⟩, ⟨none, none, (.sta (.tmp 9) (.tmp 105) 4)⟩])
  (.seq (.reg [⟨(some 106), none, (.addo (.tmp 11) 0)⟩, ⟨(some 107), none, (.ld (.tmp 106) 1)⟩, ⟨(some 108), none, (.cmp .lss (.tmp 107) (.const (.int .i64 0)))⟩])
  (.cond (.tmp 108) (.dreg [⟨(some 109), none, (.mov (.tmp 6))⟩, ⟨(some 110), none, (.addo (.tmp 11) 0)⟩, ⟨(some 111), none, (.ld (.tmp 110) 1)⟩, ⟨(some 112), none, (.ari .sub (.const (.int .i64 (-1))) (.tmp 111))⟩, ⟨(some 113), none, (.mov (.tmp 6))⟩, ⟨(some 114), none, (.addo (.tmp 11) 0)⟩, ⟨(some 115), none, (.ld (.tmp 114) 1)⟩, ⟨(some 116), none, (.ari .sub (.const (.int .i64 (-1))) (.tmp 115))⟩, ⟨(some 117), none, (.idx (.tmp 113) (.tmp 116) 4)⟩, ⟨(some 118), none, (.lda (.tmp 117) 4)⟩, ⟨(some 119), none, (.lda (.tmp 12) 4)⟩, ⟨(some 120), none, (.call ⟨(.value (.func 48)), (List.toArray [(.tmp 118), (.tmp 119)]), (List.toArray [24, 24])⟩ false)⟩, ⟨(some 121), none, (.idx (.tmp 109) (.tmp 112) 4)⟩, ⟨none, none, (.sta (.tmp 121) (.tmp 120) 4)⟩] [8191, 4095, 2032, 0, 496, 240, 96, 32, 0, 0, 6, 2, 0, 0])
  (.dreg [⟨(some 122), none, (.mov (.tmp 7))⟩, ⟨(some 123), none, (.addo (.tmp 11) 0)⟩, ⟨(some 124), none, (.ld (.tmp 123) 1)⟩, ⟨(some 125), none, (.mov (.tmp 7))⟩, ⟨(some 126), none, (.addo (.tmp 11) 0)⟩, ⟨(some 127), none, (.ld (.tmp 126) 1)⟩, ⟨(some 128), none, (.idx (.tmp 125) (.tmp 127) 4)⟩, ⟨(some 129), none, (.lda (.tmp 128) 4)⟩, ⟨(some 130), none, (.lda (.tmp 12) 4)⟩, ⟨(some 131), none, (.call ⟨(.value (.func 48)), (List.toArray [(.tmp 129), (.tmp 130)]), (List.toArray [24, 24])⟩ false)⟩, ⟨(some 132), none, (.idx (.tmp 122) (.tmp 124) 4)⟩, ⟨none, none, (.sta (.tmp 132) (.tmp 131) 4)⟩] [2047, 1023, 504, 0, 120, 56, 16, 0, 0, 2, 0, 0]))))))))
  (.reg [⟨(some 54), none, (.mov (.tmp 10))⟩, ⟨(some 55), none, (.ari .add (.tmp 54) (.const (.int .i64 1)))⟩, ⟨(some 10), none, (.mov (.tmp 55))⟩])))
theorem L18x2 : low Try.prog Try.f18.ntmps (at_ Try.f18 [1, 1, 1, 1, 1, 1, 0, 1, 0, 0, 1, 0, 0, 1, 1, 0, 0]) = some R18x2 := by kernel_rfl
theorem N23 : Try.f23.ntmps = 26 := by kernel_rfl
theorem Z23 : Try.f23.results.toList = ((List.toArray [(.tmp 4)]) : Array ResultVar).toList := by kernel_rfl
theorem B23 : Try.f23.body = some (at_ Try.f23 []) := by kernel_rfl
noncomputable def R23 : RC := (.seq (.reg [⟨(some 4), none, (.mov (.const (.bool false)))⟩])
  (.seq (.seq (.reg [⟨(some 6), none, (.mov (.tmp 0))⟩, ⟨(some 7), none, (.len (.tmp 6))⟩, ⟨(some 8), none, (.mov (.tmp 1))⟩, ⟨(some 9), none, (.len (.tmp 8))⟩, ⟨(some 10), none, (.cmp .neq (.tmp 7) (.tmp 9))⟩])
  (.cond (.tmp 10) (.seq (.reg [⟨(some 4), none, (.mov (.const (.bool false)))⟩])
  .ret)
  .skip))
  (.seq (.seq (.reg [⟨(some 5), none, (.mov (.const (.int .i64 0)))⟩])
  (.block 0 (.other (at_ Try.f23 [1, 1, 0, 1, 0]))))
  (.seq (.reg [⟨(some 4), none, (.mov (.const (.bool true)))⟩])
  .ret))))
theorem L23 : low Try.prog Try.f23.ntmps (at_ Try.f23 []) = some R23 := by kernel_rfl
theorem E23_1 : at_ Try.f23 [1, 1, 0, 1, 0] = .loop (at_ Try.f23 [1, 1, 0, 1, 0, 0]) := by kernel_rfl
noncomputable def R23x1 : RC := (.seq (.seq (.reg [⟨(some 11), none, (.mov (.tmp 5))⟩, ⟨(some 12), none, (.mov (.tmp 0))⟩, ⟨(some 13), none, (.len (.tmp 12))⟩, ⟨(some 14), none, (.cmp .lss (.tmp 11) (.tmp 13))⟩])
  (.cond (.tmp 14) .skip
  (.exit 0)))
  (.seq (.block 1 (.seq (.dreg [⟨(some 17), none, (.mov (.tmp 0))⟩, ⟨(some 18), none, (.mov (.tmp 5))⟩, ⟨(some 19), none, (.idx (.tmp 17) (.tmp 18) 4)⟩, ⟨(some 20), none, (.lda (.tmp 19) 4)⟩, ⟨(some 21), none, (.mov (.tmp 1))⟩, ⟨(some 22), none, (.mov (.tmp 5))⟩, ⟨(some 23), none, (.idx (.tmp 21) (.tmp 22) 4)⟩, ⟨(some 24), none, (.lda (.tmp 23) 4)⟩, ⟨(some 25), none, (.pur ⟨(some 25), (.binOp .neq 24 (.tmp 20) (.tmp 24) 24), 4, "", (List.toArray []), none⟩)⟩] [255, 112, 48, 0, 0, 7, 3, 0, 0])
  (.cond (.tmp 25) (.seq (.reg [⟨(some 4), none, (.mov (.const (.bool false)))⟩])
  .ret)
  .skip)))
  (.reg [⟨(some 15), none, (.mov (.tmp 5))⟩, ⟨(some 16), none, (.ari .add (.tmp 15) (.const (.int .i64 1)))⟩, ⟨(some 5), none, (.mov (.tmp 16))⟩])))
theorem L23x1 : low Try.prog Try.f23.ntmps (at_ Try.f23 [1, 1, 0, 1, 0, 0]) = some R23x1 := by kernel_rfl
theorem N45 : Try.f45.ntmps = 109 := by kernel_rfl
theorem Z45 : Try.f45.results.toList = ((List.toArray [(.tmp 2)]) : Array ResultVar).toList := by kernel_rfl
theorem B45 : Try.f45.body = some (at_ Try.f45 []) := by kernel_rfl
noncomputable def R45 : RC := (.seq (.reg [⟨(some 2), none, (.mov (.const (.bool false)))⟩])
  (.seq (.seq (.reg [⟨(some 3), none, (.mov (.const (.int .i64 0)))⟩])
  (.block 0 (.other (at_ Try.f45 [1, 0, 1, 0]))))
  (.seq (.reg [⟨(some 106), none, (.mov (.tmp 0))⟩, ⟨(some 107), none, (.len (.tmp 106))⟩, ⟨(some 108), none, (.cmp .leq (.tmp 107) (.const (.int .i64 12)))⟩, ⟨(some 2), none, (.mov (.tmp 108))⟩])
  .ret)))
theorem L45 : low Try.prog Try.f45.ntmps (at_ Try.f45 []) = some R45 := by kernel_rfl
theorem E45_1 : at_ Try.f45 [1, 0, 1, 0] = .loop (at_ Try.f45 [1, 0, 1, 0, 0]) := by kernel_rfl
noncomputable def R45x1 : RC := (.seq (.seq (.reg [⟨(some 8), none, (.mov (.tmp 3))⟩, ⟨(some 9), none, (.mov (.tmp 0))⟩, ⟨(some 10), none, (.len (.tmp 9))⟩, ⟨(some 11), none, (.cmp .lss (.tmp 8) (.tmp 10))⟩])
  (.cond (.tmp 11) .skip
  (.exit 0)))
  (.seq (.block 1 (.seq (.reg [⟨(some 14), none, (.mov (.tmp 0))⟩, ⟨(some 15), none, (.mov (.tmp 3))⟩, ⟨(some 16), none, (.idx (.tmp 14) (.tmp 15) 1)⟩, ⟨(some 17), none, (.addo (.tmp 16) 0)⟩, ⟨(some 18), none, (.ld (.tmp 17) 1)⟩, ⟨(some 4), none, (.mov (.tmp 18))⟩])
  (.seq (.seq (.reg [⟨(some 19), none, (.mov (.tmp 4))⟩, ⟨(some 20), none, (.len (.tmp 19))⟩, ⟨(some 21), none, (.call ⟨(.value (.func 50)), (List.toArray [(.tmp 20), (.const (.int .i64 1)), (.const (.int .i64 4))]), (List.toArray [3, 3, 3])⟩ true)⟩, ⟨(some 22), none, (.pur ⟨(some 22), (.unOp .not 4 (.tmp 21)), 4, "", (List.toArray []), none⟩)⟩])
  (.cond (.tmp 22) (.seq (.reg [⟨(some 2), none, (.mov (.const (.bool false)))⟩])
  .ret)
  .skip))
  (.seq (.reg [⟨(some 5), none, (.alc 59 [(.int .i64 0), (.int .i64 0), (.int .i64 0), (.int .i64 0), (.int .i64 0)])⟩])
  (.seq (.seq (.reg [⟨(some 6), none, (.mov (.const (.int .i64 0)))⟩])
  (.block 2 (.other (at_ Try.f45 [1, 0, 1, 0, 0, 1, 0, 0, 1, 1, 1, 0, 1, 0]))))
  (.seq (.reg [⟨(some 96), none, (.addo (.tmp 5) 1)⟩, ⟨(some 97), none, (.ld (.tmp 96) 1)⟩, ⟨(some 98), none, (.addo (.tmp 5) 2)⟩, ⟨(some 99), none, (.ld (.tmp 98) 1)⟩, ⟨(some 100), none, (.addo (.tmp 5) 3)⟩, ⟨(some 101), none, (.ld (.tmp 100) 1)⟩, ⟨(some 102), none, (.addo (.tmp 5) 4)⟩, ⟨(some 103), none, (.ld (.tmp 102) 1)⟩, ⟨(some 104), none, (.pur ⟨(some 104), (.call ⟨(.builtin .max), (List.toArray [(.tmp 97), (.tmp 99), (.tmp 101), (.tmp 103)]), (List.toArray [3, 3, 3, 3])⟩), 3, "", (List.toArray []), none⟩)⟩, ⟨(some 105), none, (.cmp .gtr (.tmp 104) (.const (.int .i64 1000)))⟩])
  (.cond (.tmp 105) (.seq (.reg [⟨(some 2), none, (.mov (.const (.bool false)))⟩])
  .ret)
  .skip)))))))
  (.reg [⟨(some 12), none, (.mov (.tmp 3))⟩, ⟨(some 13), none, (.ari .add (.tmp 12) (.const (.int .i64 1)))⟩, ⟨(some 3), none, (.mov (.tmp 13))⟩])))
theorem L45x1 : low Try.prog Try.f45.ntmps (at_ Try.f45 [1, 0, 1, 0, 0]) = some R45x1 := by kernel_rfl
theorem E45_2 : at_ Try.f45 [1, 0, 1, 0, 0, 1, 0, 0, 1, 1, 1, 0, 1, 0] = .loop (at_ Try.f45 [1, 0, 1, 0, 0, 1, 0, 0, 1, 1, 1, 0, 1, 0, 0]) := by kernel_rfl
noncomputable def R45x2 : RC := (.seq (.seq (.reg [⟨(some 23), none, (.mov (.tmp 6))⟩, ⟨(some 24), none, (.mov (.tmp 4))⟩, ⟨(some 25), none, (.len (.tmp 24))⟩, ⟨(some 26), none, (.cmp .lss (.tmp 23) (.tmp 25))⟩])
  (.cond (.tmp 26) .skip
  (.exit 2)))
  (.seq (.block 3 (.seq (.reg [⟨(some 29), none, (.mov (.tmp 4))⟩, ⟨(some 30), none, (.mov (.tmp 6))⟩, ⟨(some 31), none, (.idx (.tmp 29) (.tmp 30) 5)⟩, ⟨(some 32), none, (.lda (.tmp 31) 5)⟩, ⟨(some 7), none, (.alc 59 [(.int .i64 0), (.int .i64 0), (.int .i64 0), (.int .i64 0), (.int .i64 0)])⟩, ⟨none, none, (.sta (.tmp 7) (.tmp 32) 5)⟩])
  (.seq (.seq (.reg [⟨(some 33), none, (.addo (.tmp 7) 0)⟩, ⟨(some 34), none, (.ld (.tmp 33) 1)⟩, ⟨(some 35), none, (.call ⟨(.value (.func 50)), (List.toArray [(.tmp 34), (.const (.int .i64 (-16))), (.const (.int .i64 (-1)))]), (List.toArray [3, 3, 3])⟩ true)⟩, ⟨(some 36), none, (.pur ⟨(some 36), (.unOp .not 4 (.tmp 35)), 4, "", (List.toArray []), none⟩)⟩, ⟨(some 37), none, (.mov (.tmp 36))⟩, ⟨(some 38), (some (37, true)), (.addo (.tmp 7) 0)⟩, ⟨(some 39), (some (37, true)), (.ld (.tmp 38) 1)⟩, ⟨(some 40), (some (37, true)), (.mov (.tmp 3))⟩, ⟨(some 41), (some (37, true)), (.ari .add (.tmp 40) (.const (.int .i64 1)))⟩, ⟨(some 42), (some (37, true)), (.mov (.tmp 0))⟩, ⟨(some 43), (some (37, true)), (.len (.tmp 42))⟩, ⟨(some 44), (some (37, true)), (.ari .sub (.tmp 43) (.const (.int .i64 1)))⟩, ⟨(some 45), (some (37, true)), (.call ⟨(.value (.func 50)), (List.toArray [(.tmp 39), (.tmp 41), (.tmp 44)]), (List.toArray [3, 3, 3])⟩ true)⟩, ⟨(some 46), (some (37, true)), (.pur ⟨(some 46), (.unOp .not 4 (.tmp 45)), 4, "", (List.toArray []), none⟩)⟩, ⟨(some 47), none, (.pur ⟨(some 47), (.pick (.tmp 37) (.tmp 46) (.const (.bool false))), 4, "", (List.toArray []), none⟩)⟩])
  (.cond (.tmp 47) (.seq (.reg [⟨(some 2), none, (.mov (.const (.bool false)))⟩])
  .ret)
  .skip))
  (.seq (.seq (.reg [⟨(some 48), none, (.addo (.tmp 7) 1)⟩, ⟨(some 49), none, (.ld (.tmp 48) 1)⟩, ⟨(some 50), none, (.call ⟨(.value (.func 50)), (List.toArray [(.tmp 49), (.const (.int .i64 0)), (.const (.int .i64 1000))]), (List.toArray [3, 3, 3])⟩ true)⟩, ⟨(some 51), none, (.pur ⟨(some 51), (.unOp .not 4 (.tmp 50)), 4, "", (List.toArray []), none⟩)⟩, ⟨(some 52), none, (.mov (.tmp 51))⟩, ⟨(some 53), (some (52, false)), (.addo (.tmp 7) 2)⟩, ⟨(some 54), (some (52, false)), (.ld (.tmp 53) 1)⟩, ⟨(some 55), (some (52, false)), (.call ⟨(.value (.func 50)), (List.toArray [(.tmp 54), (.const (.int .i64 0)), (.const (.int .i64 1000))]), (List.toArray [3, 3, 3])⟩ true)⟩, ⟨(some 56), (some (52, false)), (.pur ⟨(some 56), (.unOp .not 4 (.tmp 55)), 4, "", (List.toArray []), none⟩)⟩, ⟨(some 57), none, (.pur ⟨(some 57), (.pick (.tmp 52) (.const (.bool true)) (.tmp 56)), 4, "", (List.toArray []), none⟩)⟩, ⟨(some 58), none, (.mov (.tmp 57))⟩, ⟨(some 59), (some (58, false)), (.addo (.tmp 7) 3)⟩, ⟨(some 60), (some (58, false)), (.ld (.tmp 59) 1)⟩, ⟨(some 61), (some (58, false)), (.call ⟨(.value (.func 50)), (List.toArray [(.tmp 60), (.const (.int .i64 0)), (.const (.int .i64 1000))]), (List.toArray [3, 3, 3])⟩ true)⟩, ⟨(some 62), (some (58, false)), (.pur ⟨(some 62), (.unOp .not 4 (.tmp 61)), 4, "", (List.toArray []), none⟩)⟩, ⟨(some 63), none, (.pur ⟨(some 63), (.pick (.tmp 58) (.const (.bool true)) (.tmp 62)), 4, "", (List.toArray []), none⟩)⟩, ⟨(some 64), none, (.mov (.tmp 63))⟩, ⟨(some 65), (some (64, false)), (.addo (.tmp 7) 4)⟩, ⟨(some 66), (some (64, false)), (.ld (.tmp 65) 1)⟩, ⟨(some 67), (some (64, false)), (.call ⟨(.value (.func 50)), (List.toArray [(.tmp 66), (.const (.int .i64 0)), (.const (.int .i64 1000))]), (List.toArray [3, 3, 3])⟩ true)⟩, ⟨(some 68), (some (64, false)), (.pur ⟨(some 68), (.unOp .not 4 (.tmp 67)), 4, "", (List.toArray []), none⟩)⟩, ⟨(some 69), none, (.pur ⟨(some 69), (.pick (.tmp 64) (.const (.bool true)) (.tmp 68)), 4, "", (List.toArray []), none⟩)⟩])
  (.cond (.tmp 69) (.seq (.reg [⟨(some 2), none, (.mov (.const (.bool false)))⟩])
  .ret)
  .skip))
  (.seq (.reg [⟨(some 70), none, (.mov (.tmp 6))⟩, ⟨(some 71), none, (.mov (.tmp 4))⟩, ⟨(some 72), none, (.len (.tmp 71))⟩, ⟨(some 73), none, (.ari .sub (.tmp 72) (.const (.int .i64 1)))⟩, ⟨(some 74), none, (.cmp .lss (.tmp 70) (.tmp 73))⟩])
  (.cond (.tmp 74) (.reg [⟨(some 75), none, (.addo (.tmp 5) 1)⟩, ⟨(some 76), none, (.ld (.tmp 75) 1)⟩, ⟨(some 77), none, (.addo (.tmp 7) 1)⟩, ⟨(some 78), none, (.ld (.tmp 77) 1)⟩, ⟨(some 79), none, (.ari .add (.tmp 76) (.tmp 78))⟩, ⟨(some 80), none, (.addo (.tmp 5) 2)⟩, ⟨(some 81), none, (.ld (.tmp 80) 1)⟩, ⟨(some 82), none, (.addo (.tmp 7) 2)⟩, ⟨(some 83), none, (.ld (.tmp 82) 1)⟩, ⟨(some 84), none, (.ari .add (.tmp 81) (.tmp 83))⟩, ⟨(some 85), none, (.addo (.tmp 5) 3)⟩, ⟨(some 86), none, (.ld (.tmp 85) 1)⟩, ⟨(some 87), none, (.addo (.tmp 7) 3)⟩, ⟨(some 88), none, (.ld (.tmp 87) 1)⟩, ⟨(some 89), none, (.ari .add (.tmp 86) (.tmp 88))⟩, ⟨(some 90), none, (.addo (.tmp 5) 4)⟩, ⟨(some 91), none, (.ld (.tmp 90) 1)⟩, ⟨(some 92), none, (.addo (.tmp 7) 4)⟩, ⟨(some 93), none, (.ld (.tmp 92) 1)⟩, ⟨(some 94), none, (.ari .add (.tmp 91) (.tmp 93))⟩, ⟨(some 95), none, (.pur ⟨(some 95), (.build 59 (List.toArray [(1, (.tmp 79)), (2, (.tmp 84)), (3, (.tmp 89)), (4, (.tmp 94))])), 59, "", (List.toArray []), none⟩)⟩, ⟨none, none, (.sta (.tmp 5) (.tmp 95) 5)⟩])
  .skip))))))
  (.reg [⟨(some 27), none, (.mov (.tmp 6))⟩, ⟨(some 28), none, (.ari .add (.tmp 27) (.const (.int .i64 1)))⟩, ⟨(some 6), none, (.mov (.tmp 28))⟩])))
theorem L45x2 : low Try.prog Try.f45.ntmps (at_ Try.f45 [1, 0, 1, 0, 0, 1, 0, 0, 1, 1, 1, 0, 1, 0, 0]) = some R45x2 := by kernel_rfl
theorem N22 : Try.f22.ntmps = 6 := by kernel_rfl
theorem Z22 : Try.f22.results.toList = ((List.toArray [(.tmp 2)]) : Array ResultVar).toList := by kernel_rfl
theorem B22 : Try.f22.body = some (at_ Try.f22 []) := by kernel_rfl
noncomputable def R22 : RC := (.seq (.reg [⟨(some 2), none, (.mov (.const (.int .i64 0)))⟩])
  (.seq (.seq (.reg [⟨(some 3), none, (.mov (.tmp 0))⟩, ⟨(some 4), none, (.call ⟨(.value (.func 45)), (List.toArray [(.tmp 3)]), (List.toArray [22])⟩ true)⟩, ⟨(some 5), none, (.pur ⟨(some 5), (.unOp .not 4 (.tmp 4)), 4, "", (List.toArray []), none⟩)⟩])
  (.cond (.tmp 5) (.seq (.reg [⟨(some 2), none, (.mov (.const (.int .i64 1)))⟩])
  .ret)
  .skip))
  (.seq (.reg [⟨(some 2), none, (.mov (.const (.int .i64 0)))⟩])
  .ret)))
theorem L22 : low Try.prog Try.f22.ntmps (at_ Try.f22 []) = some R22 := by kernel_rfl
theorem N44 : Try.f44.ntmps = 31 := by kernel_rfl
theorem Z44 : Try.f44.results.toList = ((List.toArray [(.tmp 4)]) : Array ResultVar).toList := by kernel_rfl
theorem B44 : Try.f44.body = some (at_ Try.f44 []) := by kernel_rfl
noncomputable def R44 : RC := (.seq (.reg [⟨(some 3), none, (.box 24 (.tmp 1))⟩, ⟨(some 4), none, (.mov (.const (.slice none 0 0)))⟩])
  (.seq (.reg [⟨(some 9), none, (.pur ⟨(some 9), (.build 111 (List.toArray [])), 111, "", (List.toArray []), none⟩)⟩, ⟨(some 5), none, (.alc 111 [(.int .i64 0), (.int .i64 0), (.int .i64 0), (.int .i64 0), (.int .i64 0), (.int .i64 0), (.int .i64 0), (.int .i64 0), (.int .i64 0), (.int .i64 0), (.int .i64 0), (.int .i64 0), (.int .i64 0), (.int .i64 0), (.int .i64 0), (.int .i64 0), (.int .i64 0), (.int .i64 0), (.int .i64 0), (.int .i64 0), (.int .i64 0), (.int .i64 0), (.int .i64 0), (.int .i64 0), (.int .i64 0), (.int .i64 0), (.int .i64 0), (.int .i64 0), (.int .i64 0), (.int .i64 0), (.int .i64 0), (.int .i64 0), (.int .i64 0), (.int .i64 0), (.int .i64 0), (.int .i64 0), (.int .i64 0), (.int .i64 0), (.int .i64 0), (.int .i64 0), (.int .i64 0), (.int .i64 0), (.int .i64 0), (.int .i64 0), (.int .i64 0), (.int .i64 0), (.int .i64 0), (.int .i64 0), (.int .i64 0), (.int .i64 0), (.int .i64 0), (.int .i64 0), (.int .i64 0), (.int .i64 0), (.int .i64 0), (.int .i64 0), (.int .i64 0), (.int .i64 0), (.int .i64 0), (.int .i64 0), (.int .i64 0), (.int .i64 0), (.int .i64 0), (.int .i64 0), (.int .i64 0), (.int .i64 0), (.int .i64 0), (.int .i64 0), (.int .i64 0), (.int .i64 0), (.int .i64 0), (.int .i64 0), (.int .i64 0), (.int .i64 0), (.int .i64 0), (.int .i64 0), (.int .i64 0), (.int .i64 0), (.int .i64 0), (.int .i64 0), (.int .i64 0), (.int .i64 0), (.int .i64 0), (.int .i64 0), (.int .i64 0), (.int .i64 0), (.int .i64 0), (.int .i64 0), (.int .i64 0), (.int .i64 0), (.int .i64 0), (.int .i64 0), (.int .i64 0), (.int .i64 0), (.int .i64 0), (.int .i64 0), (.int .i64 0), (.int .i64 0), (.int .i64 0), (.int .i64 0), (.int .i64 0), (.int .i64 0), (.int .i64 0), (.int .i64 0), (.int .i64 0), (.int .i64 0), (.int .i64 0), (.int .i64 0), (.int .i64 0), (.int .i64 0), (.int .i64 0), (.int .i64 0)])⟩, ⟨none, none, (.sta (.tmp 5) (.tmp 9) 112)⟩])
  (.seq (.reg [⟨(some 6), none, (.mov (.const (.int .i64 0)))⟩])
  (.seq (.seq (.reg [⟨(some 10), none, (.mov (.tmp 0))⟩, ⟨(some 11), none, (.len (.tmp 10))⟩, ⟨(some 12), none, (.cmp .eql (.tmp 11) (.const (.int .i64 0)))⟩])
  (.cond (.tmp 12) (.reg [⟨(some 6), none, (.mov (.const (.int .i64 (-1))))⟩])
  .skip))
  (.seq (.reg [⟨(some 13), none, (.mov (.tmp 6))⟩, ⟨(some 14), none, (.lda (.tmp 3) 4)⟩, ⟨(some 15), none, (.call ⟨(.value (.func 66)), (List.toArray [(.tmp 14)]), (List.toArray [24])⟩ true)⟩, ⟨(some 16), none, (.call ⟨(.value (.func 68)), (List.toArray [(.tmp 5), (.tmp 13), (.tmp 15)]), (List.toArray [111, 3, 104])⟩ true)⟩])
  (.seq (.seq (.reg [⟨(some 17), none, (.mov (.tmp 0))⟩, ⟨(some 18), none, (.len (.tmp 17))⟩, ⟨(some 19), none, (.mov (.const (.int .i64 0)))⟩])
  (.block 0 (.other (at_ Try.f44 [1, 1, 1, 1, 1, 0, 1, 0]))))
  (.seq (.reg [⟨(some 29), none, (.addo (.tmp 5) 0)⟩, ⟨(some 30), none, (.call ⟨(.value (.func 70)), (List.toArray [(.tmp 29)]), (List.toArray [108])⟩ true)⟩, ⟨(some 4), none, (.mov (.tmp 30))⟩])
  .ret)))))))
theorem L44 : low Try.prog Try.f44.ntmps (at_ Try.f44 []) = some R44 := by kernel_rfl
theorem E44_1 : at_ Try.f44 [1, 1, 1, 1, 1, 0, 1, 0] = .loop (at_ Try.f44 [1, 1, 1, 1, 1, 0, 1, 0, 0]) := by kernel_rfl
noncomputable def R44x1 : RC := (.seq (.reg [⟨(some 20), none, (.cmp .lss (.tmp 19) (.tmp 18))⟩])
  (.seq (.cond (.tmp 20) .skip
  (.exit 0))
  (.seq (.block 1 (.seq (.reg [⟨(some 21), none, (.mov (.tmp 19))⟩, ⟨(some 22), none, (.idx (.tmp 17) (.tmp 19) 1)⟩, ⟨(some 23), none, (.lda (.tmp 22) 1)⟩, ⟨(some 8), none, (.alc 62 [(.slice none 0 0)])⟩, ⟨(some 7), none, (.mov (.tmp 21))⟩, ⟨none, none, (.sta (.tmp 8) (.tmp 23) 1)⟩])
  (.reg [⟨(some 24), none, (.mov (.tmp 7))⟩, ⟨(some 25), none, (.addo (.tmp 8) 0)⟩, ⟨(some 26), none, (.ld (.tmp 25) 1)⟩, ⟨(some 27), none, (.call ⟨(.value (.func 69)), (List.toArray [(.tmp 5), (.tmp 24), (.tmp 26)]), (List.toArray [111, 3, 60])⟩ true)⟩])))
  (.reg [⟨(some 28), none, (.ari .add (.tmp 19) (.const (.int .i64 1)))⟩, ⟨(some 19), none, (.mov (.tmp 28))⟩]))))
theorem L44x1 : low Try.prog Try.f44.ntmps (at_ Try.f44 [1, 1, 1, 1, 1, 0, 1, 0, 0]) = some R44x1 := by kernel_rfl
theorem N68 : Try.f68.ntmps = 28 := by kernel_rfl
theorem Z68 : Try.f68.results.toList = ((List.toArray []) : Array ResultVar).toList := by kernel_rfl
theorem B68 : Try.f68.body = some (at_ Try.f68 []) := by kernel_rfl
noncomputable def R68 : RC := (.seq (.reg [⟨(some 5), none, (.box 104 (.tmp 2))⟩])
  (.seq (.seq (.reg [⟨(some 6), none, (.mov (.tmp 1))⟩, ⟨(some 7), none, (.cmp .lss (.tmp 6) (.const (.int .i64 0)))⟩])
  (.cond (.tmp 7) (.seq (.dreg [⟨(some 8), none, (.mov (.tmp 0))⟩, ⟨(some 9), none, (.nilc (.tmp 8))⟩, ⟨(some 10), none, (.addo (.tmp 9) 0)⟩, ⟨(some 11), none, (.mov (.tmp 1))⟩, ⟨(some 12), none, (.ari .sub (.const (.int .i64 (-1))) (.tmp 11))⟩, ⟨(some 13), none, (.lda (.tmp 5) 4)⟩, ⟨(some 14), none, (.call ⟨(.value (.func 96)), (List.toArray [(.tmp 10), (.tmp 12), (.tmp 13)]), (List.toArray [108, 3, 104])⟩ true)⟩] [63, 0, 8, 0, 3, 1, 0])
  .ret)
  .skip))
  (.dreg [⟨(some 15), none, (.mov (.tmp 0))⟩, ⟨(some 16), none, (.mov (.tmp 1))⟩, ⟨(some 17), none, (.mov (.tmp 0))⟩, ⟨(some 18), none, (.mov (.tmp 1))⟩, ⟨(some 19), none, (.nilc (.tmp 17))⟩, ⟨(some 20), none, (.addo (.tmp 19) 64)⟩, ⟨(some 21), none, (.idxa (.tmp 20) (.tmp 18) 12 4)⟩, ⟨(some 22), none, (.lda (.tmp 21) 4)⟩, ⟨(some 23), none, (.lda (.tmp 5) 4)⟩, ⟨(some 24), none, (.call ⟨(.value (.func 93)), (List.toArray [(.tmp 22), (.tmp 23)]), (List.toArray [104, 104])⟩ true)⟩, ⟨(some 25), none, (.nilc (.tmp 15))⟩, ⟨(some 26), none, (.addo (.tmp 25) 64)⟩, ⟨(some 27), none, (.idxa (.tmp 26) (.tmp 16) 12 4)⟩, ⟨none, none, (.sta (.tmp 27) (.tmp 24) 4)⟩] [8191, 4095, 1025, 1, 508, 0, 124, 60, 20, 4, 0, 0, 0, 0])))
theorem L68 : low Try.prog Try.f68.ntmps (at_ Try.f68 []) = some R68 := by kernel_rfl
theorem N69 : Try.f69.ntmps = 51 := by kernel_rfl
theorem Z69 : Try.f69.results.toList = ((List.toArray []) : Array ResultVar).toList := by kernel_rfl
theorem B69 : Try.f69.body = some (at_ Try.f69 []) := by kernel_rfl
noncomputable def R69 : RC := (.seq (.reg [⟨(some 12), none, (.mov (.tmp 0))⟩, ⟨(some 13), none, (.mov (.tmp 1))⟩, ⟨(some 14), none, (.nilc (.tmp 12))⟩, ⟨(some 15), none, (.addo (.tmp 14) 64)⟩, ⟨(some 16), none, (.idxa (.tmp 15) (.tmp 13) 12 4)⟩, ⟨(some 17), none, (.lda (.tmp 16) 4)⟩, ⟨(some 6), none, (.alc 104 [(.int .i64 0), (.int .i64 0), (.int .i64 0), (.int .i64 0)])⟩, ⟨none, none, (.sta (.tmp 6) (.tmp 17) 4)⟩])
  (.seq (.reg [⟨(some 18), none, (.lda (.tmp 6) 4)⟩, ⟨(some 7), none, (.alc 104 [(.int .i64 0), (.int .i64 0), (.int .i64 0), (.int .i64 0)])⟩, ⟨none, none, (.sta (.tmp 7) (.tmp 18) 4)⟩])
  (.seq (.reg [⟨(some 19), none, (.mov (.tmp 2))⟩, ⟨(some 20), none, (.len (.tmp 19))⟩, ⟨(some 21), none, (.ari .sub (.tmp 20) (.const (.int .i64 1)))⟩, ⟨(some 8), none, (.mov (.tmp 21))⟩])
  (.seq (.seq (.reg [⟨(some 22), none, (.mov (.tmp 2))⟩, ⟨(some 23), none, (.mov (.tmp 8))⟩, ⟨(some 24), none, (.mem ⟨(some 24), (.slice 60 (.tmp 22) none (some (.tmp 23)) none), 60, "", (List.toArray []), none⟩)⟩, ⟨(some 25), none, (.len (.tmp 24))⟩, ⟨(some 26), none, (.mov (.const (.int .i64 0)))⟩])
  (.block 0 (.other (at_ Try.f69 [1, 1, 1, 0, 1, 0]))))
  (.dreg [⟨(some 43), none, (.mov (.tmp 0))⟩, ⟨(some 44), none, (.mov (.tmp 2))⟩, ⟨(some 45), none, (.mov (.tmp 8))⟩, ⟨(some 46), none, (.idx (.tmp 44) (.tmp 45) 5)⟩, ⟨(some 47), none, (.addo (.tmp 46) 0)⟩, ⟨(some 48), none, (.ld (.tmp 47) 1)⟩, ⟨(some 49), none, (.lda (.tmp 7) 4)⟩, ⟨(some 50), none, (.call ⟨(.value (.func 68)), (List.toArray [(.tmp 43), (.tmp 48), (.tmp 49)]), (List.toArray [140, 3, 104])⟩ true)⟩] [127, 0, 30, 14, 6, 0, 0, 0])))))
theorem L69 : low Try.prog Try.f69.ntmps (at_ Try.f69 []) = some R69 := by kernel_rfl
theorem E69_1 : at_ Try.f69 [1, 1, 1, 0, 1, 0] = .loop (at_ Try.f69 [1, 1, 1, 0, 1, 0, 0]) := by kernel_rfl
noncomputable def R69x1 : RC := (.seq (.reg [⟨(some 27), none, (.cmp .lss (.tmp 26) (.tmp 25))⟩])
  (.seq (.cond (.tmp 27) .skip
  (.exit 0))
  (.seq (.block 1 (.seq (.reg [⟨(some 28), none, (.idx (.tmp 24) (.tmp 26) 5)⟩, ⟨(some 29), none, (.lda (.tmp 28) 5)⟩, ⟨(some 10), none, (.alc 59 [(.int .i64 0), (.int .i64 0), (.int .i64 0), (.int .i64 0), (.int .i64 0)])⟩, ⟨none, none, (.sta (.tmp 10) (.tmp 29) 5)⟩])
  (.seq (.dreg [⟨(some 30), none, (.lda (.tmp 6) 4)⟩, ⟨(some 31), none, (.lda (.tmp 10) 5)⟩, ⟨(some 32), none, (.call ⟨(.value (.func 94)), (List.toArray [(.tmp 31)]), (List.toArray [59])⟩ false)⟩, ⟨(some 33), none, (.call ⟨(.value (.func 97)), (List.toArray [(.tmp 30), (.tmp 32)]), (List.toArray [104, 104])⟩ false)⟩, ⟨(some 11), none, (.alc 104 [(.int .i64 0), (.int .i64 0), (.int .i64 0), (.int .i64 0)])⟩, ⟨none, none, (.sta (.tmp 11) (.tmp 33) 4)⟩] [31, 0, 7, 2, 0, 0])
  (.seq (.reg [⟨(some 34), none, (.mov (.tmp 0))⟩, ⟨(some 35), none, (.addo (.tmp 10) 0)⟩, ⟨(some 36), none, (.ld (.tmp 35) 1)⟩, ⟨(some 37), none, (.lda (.tmp 11) 4)⟩, ⟨(some 38), none, (.call ⟨(.value (.func 68)), (List.toArray [(.tmp 34), (.tmp 36), (.tmp 37)]), (List.toArray [140, 3, 104])⟩ true)⟩])
  (.reg [⟨(some 39), none, (.lda (.tmp 7) 4)⟩, ⟨(some 40), none, (.lda (.tmp 11) 4)⟩, ⟨(some 41), none, (.call ⟨(.value (.func 98)), (List.toArray [(.tmp 39), (.tmp 40)]), (List.toArray [104, 104])⟩ true)⟩, ⟨none, none, (.sta (.tmp 7) (.tmp 41) 4)⟩])))))
  (.reg [⟨(some 42), none, (.ari .add (.tmp 26) (.const (.int .i64 1)))⟩, ⟨(some 26), none, (.mov (.tmp 42))⟩]))))
theorem L69x1 : low Try.prog Try.f69.ntmps (at_ Try.f69 [1, 1, 1, 0, 1, 0, 0]) = some R69x1 := by kernel_rfl
theorem N70 : Try.f70.ntmps = 21 := by kernel_rfl
theorem Z70 : Try.f70.results.toList = ((List.toArray [(.tmp 2)]) : Array ResultVar).toList := by kernel_rfl
theorem B70 : Try.f70.body = some (at_ Try.f70 []) := by kernel_rfl
noncomputable def R70 : RC := (.seq (.reg [⟨(some 2), none, (.mov (.const (.slice none 0 0)))⟩])
  (.seq (.reg [⟨(some 6), none, (.mem ⟨(some 6), (.makeSlice 27 (.const (.int .i64 0)) (.const (.int .i64 16))), 27, "", (List.toArray []), none⟩)⟩, ⟨(some 3), none, (.mov (.tmp 6))⟩])
  (.seq (.seq (.reg [⟨(some 7), none, (.mov (.tmp 0))⟩, ⟨(some 8), none, (.nilc (.tmp 7))⟩, ⟨(some 9), none, (.mov (.const (.int .i64 0)))⟩])
  (.block 0 (.other (at_ Try.f70 [1, 1, 0, 1, 0]))))
  (.seq (.reg [⟨(some 20), none, (.mov (.tmp 3))⟩, ⟨(some 2), none, (.mov (.tmp 20))⟩])
  .ret))))
theorem L70 : low Try.prog Try.f70.ntmps (at_ Try.f70 []) = some R70 := by kernel_rfl
theorem E70_1 : at_ Try.f70 [1, 1, 0, 1, 0] = .loop (at_ Try.f70 [1, 1, 0, 1, 0, 0]) := by kernel_rfl
noncomputable def R70x1 : RC := (.seq (.reg [⟨(some 10), none, (.cmp .lss (.tmp 9) (.const (.int .i64 16)))⟩])
  (.seq (.cond (.tmp 10) .skip
  (.exit 0))
  (.seq (.block 1 (.seq (.reg [⟨(some 11), none, (.nilc (.tmp 7))⟩, ⟨(some 12), none, (.idxa (.tmp 11) (.tmp 9) 16 4)⟩, ⟨(some 13), none, (.lda (.tmp 12) 4)⟩, ⟨(some 5), none, (.alc 104 [(.int .i64 0), (.int .i64 0), (.int .i64 0), (.int .i64 0)])⟩, ⟨none, none, (.sta (.tmp 5) (.tmp 13) 4)⟩])
  (.reg [⟨(some 14), none, (.mov (.tmp 3))⟩, ⟨(some 15), none, (.lda (.tmp 5) 4)⟩, ⟨(some 16), none, (.call ⟨(.value (.func 99)), (List.toArray [(.tmp 15)]), (List.toArray [104])⟩ true)⟩, ⟨(some 17), none, (.mem ⟨(some 17), (.buildSlice 27 1 (List.toArray [(0, (.tmp 16))])), 27, "", (List.toArray []), none⟩)⟩, ⟨(some 18), none, (.mem ⟨(some 18), (.call ⟨(.builtin .append), (List.toArray [(.tmp 14), (.tmp 17)]), (List.toArray [27, 27])⟩), 27, "", (List.toArray []), none⟩)⟩, ⟨(some 3), none, (.mov (.tmp 18))⟩])))
  (.reg [⟨(some 19), none, (.ari .add (.tmp 9) (.const (.int .i64 1)))⟩, ⟨(some 9), none, (.mov (.tmp 19))⟩]))))
theorem L70x1 : low Try.prog Try.f70.ntmps (at_ Try.f70 [1, 1, 0, 1, 0, 0]) = some R70x1 := by kernel_rfl
theorem N96 : Try.f96.ntmps = 17 := by kernel_rfl
theorem Z96 : Try.f96.results.toList = ((List.toArray []) : Array ResultVar).toList := by kernel_rfl
theorem B96 : Try.f96.body = some (at_ Try.f96 []) := by kernel_rfl
noncomputable def R96 : RC := (.seq (.reg [⟨(some 5), none, (.box 104 (.tmp 2))⟩])
  (.dreg [⟨(some 6), none, (.mov (.tmp 0))⟩, ⟨(some 7), none, (.mov (.tmp 1))⟩, ⟨(some 8), none, (.mov (.tmp 0))⟩, ⟨(some 9), none, (.mov (.tmp 1))⟩, ⟨(some 10), none, (.nilc (.tmp 8))⟩, ⟨(some 11), none, (.idxa (.tmp 10) (.tmp 9) 16 4)⟩, ⟨(some 12), none, (.lda (.tmp 11) 4)⟩, ⟨(some 13), none, (.lda (.tmp 5) 4)⟩, ⟨(some 14), none, (.call ⟨(.value (.func 93)), (List.toArray [(.tmp 12), (.tmp 13)]), (List.toArray [104, 104])⟩ true)⟩, ⟨(some 15), none, (.nilc (.tmp 6))⟩, ⟨(some 16), none, (.idxa (.tmp 15) (.tmp 7) 16 4)⟩, ⟨none, none, (.sta (.tmp 16) (.tmp 14) 4)⟩] [2047, 1023, 1, 252, 0, 60, 28, 4, 0, 0, 0, 0]))
theorem L96 : low Try.prog Try.f96.ntmps (at_ Try.f96 []) = some R96 := by kernel_rfl
theorem N17 : Try.f17.ntmps = 17 := by kernel_rfl
theorem Z17 : Try.f17.results.toList = ((List.toArray [(.tmp 4), (.tmp 5)]) : Array ResultVar).toList := by kernel_rfl
theorem B17 : Try.f17.body = some (at_ Try.f17 []) := by kernel_rfl
noncomputable def R17 : RC := (.seq (.reg [⟨(some 3), none, (.box 24 (.tmp 1))⟩, ⟨(some 4), none, (.mov (.const (.slice none 0 0)))⟩, ⟨(some 5), none, (.mov (.const (.int .i64 0)))⟩])
  (.seq (.seq (.reg [⟨(some 6), none, (.mov (.tmp 0))⟩, ⟨(some 7), none, (.call ⟨(.value (.func 42)), (List.toArray [(.tmp 6)]), (List.toArray [22])⟩ true)⟩, ⟨(some 8), none, (.pur ⟨(some 8), (.unOp .not 4 (.tmp 7)), 4, "", (List.toArray []), none⟩)⟩, ⟨(some 9), none, (.mov (.tmp 8))⟩, ⟨(some 10), (some (9, false)), (.lda (.tmp 3) 4)⟩, ⟨(some 11), (some (9, false)), (.call ⟨(.value (.func 43)), (List.toArray [(.tmp 10)]), (List.toArray [24])⟩ true)⟩, ⟨(some 12), (some (9, false)), (.pur ⟨(some 12), (.unOp .not 4 (.tmp 11)), 4, "", (List.toArray []), none⟩)⟩, ⟨(some 13), none, (.pur ⟨(some 13), (.pick (.tmp 9) (.const (.bool true)) (.tmp 12)), 4, "", (List.toArray []), none⟩)⟩])
  (.cond (.tmp 13) (.seq (.reg [⟨(some 4), none, (.mov (.const (.slice none 0 0)))⟩, ⟨(some 5), none, (.mov (.const (.int .i64 1)))⟩])
  .ret)
  .skip))
  (.seq (.reg [⟨(some 14), none, (.mov (.tmp 0))⟩, ⟨(some 15), none, (.lda (.tmp 3) 4)⟩, ⟨(some 16), none, (.call ⟨(.value (.func 44)), (List.toArray [(.tmp 14), (.tmp 15)]), (List.toArray [22, 24])⟩ true)⟩, ⟨(some 4), none, (.mov (.tmp 16))⟩, ⟨(some 5), none, (.mov (.const (.int .i64 0)))⟩])
  .ret)))
theorem L17 : low Try.prog Try.f17.ntmps (at_ Try.f17 []) = some R17 := by kernel_rfl
end Go.Ax

/-
  Plant: Evaporate, and the law PlantStrong, whatever the input (written by program).
-/
namespace Go.Ax
open Go Go.RowKit Go.Proofs

/-- Evaporate: the water, and the error -/
def evE (s : Nat → Int) (k : Int) : Int × Int :=
  if wiQ s 1099511627776 = true ∧ s 1 ≤ s 0 then (if 1 ≤ k ∧ k ≤ 10000 then (if s 1 = 0 then (0, 4) else (max 0 (s 0 - s 1 * 10000 / k), 0)) else (0, 2)) else (0, 1)
section
variable {kn : FuncId → Option Bool} {lo : Nat} {H : Hp}
theorem vstream_ok {s : Nat → Int} (hlo : lo ≤ H.next) : ∃ H', FnX Try.prog kn lo 43 [.agg (qc s).toArray] H (.bool (wiQ s 1099511627776)) H' ∧ Keep H H' [] := by
  have key := fnX_low (kn := kn) (lo := lo) (H := H) (args := [.agg (qc s).toArray]) (Q := fun w H' => w = .bool (wiQ s 1099511627776) ∧ Keep H H' []) Try.func43 B43 N43 Z43 L43 (by simp) ?_
  · obtain ⟨w, H', h, rfl, q⟩ := key; exact ⟨H', h, q⟩
  have hk := Keep.refl H []
  refine wN_seq ?_
  refine wN_box (v := .agg (qc s).toArray) rfl ?_
  intro H1 kH1 nH1 c1
  have c1 : Cl H1 H.next [iv (s 0), iv (s 1), iv (s 2), iv (s 3)] := c1
  have mH1 := kH1.1
  have hk := hk.trans kH1
  refine wN_mov (v := .bool false) rfl ?_
  refine wN_end ?_
  refine wN_seq ?_
  refine wN_lda (b := H.next) (o := 0) rfl c1.rd (show row 4 _ _ = some [iv (s 0), iv (s 1), iv (s 2), iv (s 3)] from rfl) ?_
  obtain ⟨H2, fH2, kH2⟩ := grams_ok (kn := kn) (lo := lo) (H := H1) (s := s) (by omega)
  refine wN_callf (vs := [.agg (qc s).toArray]) rfl (callX_args fH2) ?_
  have mH2 := kH2.1
  have hk := hk.trans kH2
  have c1 := kH2.cl c1 (by simp)
  refine wN_callB rfl (within_ok (p := s) (m := 1099511627776)) ?_
  intro tH3 H3 hH3 kH3
  have mH3 := kH3.1
  have hk := hk.trans kH3
  have c1 := kH3.cl c1 (by simp)
  cases tH3
  · have hw : wiQ s 1099511627776 = false := hH3
    refine wN_mov (v := .bool false) rfl ?_
    refine wN_end ?_
    exact And.intro trivial (Exists.intro _ (And.intro rfl ⟨congrArg Value.bool (show false = (wiQ s 1099511627776) from hw.symm), hk⟩))
  · have hw : wiQ s 1099511627776 = true := hH3
    refine wN_mov (v := .bool true) rfl ?_
    refine wN_end ?_
    exact And.intro trivial (Exists.intro _ (And.intro rfl ⟨congrArg Value.bool (show true = (wiQ s 1099511627776) from hw.symm), hk⟩))
theorem refstream_ok {s : Nat → Int} (hlo : lo ≤ H.next) : ∃ H', FnX Try.prog kn lo 46 [.agg (qc s).toArray] H (.bool (wiQ s 1099511627776)) H' ∧ Keep H H' [] := by
  have key := fnX_low (kn := kn) (lo := lo) (H := H) (args := [.agg (qc s).toArray]) (Q := fun w H' => w = .bool (wiQ s 1099511627776) ∧ Keep H H' []) Try.func46 B46 N46 Z46 L46 (by simp) ?_
  · obtain ⟨w, H', h, rfl, q⟩ := key; exact ⟨H', h, q⟩
  have hk := Keep.refl H []
  refine wN_seq ?_
  refine wN_box (v := .agg (qc s).toArray) rfl ?_
  intro H1 kH1 nH1 c1
  have c1 : Cl H1 H.next [iv (s 0), iv (s 1), iv (s 2), iv (s 3)] := c1
  have mH1 := kH1.1
  have hk := hk.trans kH1
  refine wN_mov (v := .bool false) rfl ?_
  refine wN_end ?_
  refine wN_seq ?_
  refine wN_addo (b := H.next) (o := 0) rfl ?_
  refine wN_ld (b := H.next) (o := 0) (v := iv (s 0)) rfl c1.rd rfl ?_
  refine wN_callB rfl (in50_ok) ?_
  intro tH2 H2 hH2 kH2
  have mH2 := kH2.1
  have hk := hk.trans kH2
  have c1 := kH2.cl c1 (by simp)
  cases tH2
  · have thH2 : isw (s 0) 1099511627776 = false := hH2
    refine wN_mov (v := .bool false) rfl ?_
    refine wN_gs rfl ?_
    refine wN_gs rfl ?_
    refine wN_gs rfl ?_
    refine wN_pur (v := .bool false) rfl rfl ?_
    refine wN_mov (v := .bool false) rfl ?_
    refine wN_gs rfl ?_
    refine wN_gs rfl ?_
    refine wN_gs rfl ?_
    refine wN_pur (v := .bool false) rfl rfl ?_
    refine wN_mov (v := .bool false) rfl ?_
    refine wN_gs rfl ?_
    refine wN_gs rfl ?_
    refine wN_gs rfl ?_
    refine wN_pur (v := .bool false) rfl rfl ?_
    refine wN_mov (v := .bool false) rfl ?_
    refine wN_end ?_
    exact And.intro trivial (Exists.intro _ (And.intro rfl ⟨congrArg Value.bool (show false = (wiQ s 1099511627776) from (by symm; unfold wiQ; simp only [*]; try rfl)), hk⟩))
  · have thH2 : isw (s 0) 1099511627776 = true := hH2
    refine wN_mov (v := .bool true) rfl ?_
    refine wN_g rfl (wN_addo (b := H.next) (o := 0) rfl ?_)
    refine wN_g rfl (wN_ld (b := H.next) (o := 1) (v := iv (s 1)) rfl c1.rd rfl ?_)
    refine wN_g rfl (wN_callB rfl (in50_ok) ?_)
    intro tH3 H3 hH3 kH3
    have mH3 := kH3.1
    have hk := hk.trans kH3
    have c1 := kH3.cl c1 (by simp)
    cases tH3
    · have thH3 : isw (s 1) 1099511627776 = false := hH3
      refine wN_pur (v := .bool false) rfl rfl ?_
      refine wN_mov (v := .bool false) rfl ?_
      refine wN_gs rfl ?_
      refine wN_gs rfl ?_
      refine wN_gs rfl ?_
      refine wN_pur (v := .bool false) rfl rfl ?_
      refine wN_mov (v := .bool false) rfl ?_
      refine wN_gs rfl ?_
      refine wN_gs rfl ?_
      refine wN_gs rfl ?_
      refine wN_pur (v := .bool false) rfl rfl ?_
      refine wN_mov (v := .bool false) rfl ?_
      refine wN_end ?_
      exact And.intro trivial (Exists.intro _ (And.intro rfl ⟨congrArg Value.bool (show false = (wiQ s 1099511627776) from (by symm; unfold wiQ; simp only [*]; try rfl)), hk⟩))
    · have thH3 : isw (s 1) 1099511627776 = true := hH3
      refine wN_pur (v := .bool true) rfl rfl ?_
      refine wN_mov (v := .bool true) rfl ?_
      refine wN_g rfl (wN_addo (b := H.next) (o := 0) rfl ?_)
      refine wN_g rfl (wN_ld (b := H.next) (o := 2) (v := iv (s 2)) rfl c1.rd rfl ?_)
      refine wN_g rfl (wN_callB rfl (in50_ok) ?_)
      intro tH4 H4 hH4 kH4
      have mH4 := kH4.1
      have hk := hk.trans kH4
      have c1 := kH4.cl c1 (by simp)
      cases tH4
      · have thH4 : isw (s 2) 1099511627776 = false := hH4
        refine wN_pur (v := .bool false) rfl rfl ?_
        refine wN_mov (v := .bool false) rfl ?_
        refine wN_gs rfl ?_
        refine wN_gs rfl ?_
        refine wN_gs rfl ?_
        refine wN_pur (v := .bool false) rfl rfl ?_
        refine wN_mov (v := .bool false) rfl ?_
        refine wN_end ?_
        exact And.intro trivial (Exists.intro _ (And.intro rfl ⟨congrArg Value.bool (show false = (wiQ s 1099511627776) from (by symm; unfold wiQ; simp only [*]; try rfl)), hk⟩))
      · have thH4 : isw (s 2) 1099511627776 = true := hH4
        refine wN_pur (v := .bool true) rfl rfl ?_
        refine wN_mov (v := .bool true) rfl ?_
        refine wN_g rfl (wN_addo (b := H.next) (o := 0) rfl ?_)
        refine wN_g rfl (wN_ld (b := H.next) (o := 3) (v := iv (s 3)) rfl c1.rd rfl ?_)
        refine wN_g rfl (wN_callB rfl (in50_ok) ?_)
        intro tH5 H5 hH5 kH5
        have mH5 := kH5.1
        have hk := hk.trans kH5
        have c1 := kH5.cl c1 (by simp)
        cases tH5
        · have thH5 : isw (s 3) 1099511627776 = false := hH5
          refine wN_pur (v := .bool false) rfl rfl ?_
          refine wN_mov (v := .bool false) rfl ?_
          refine wN_end ?_
          exact And.intro trivial (Exists.intro _ (And.intro rfl ⟨congrArg Value.bool (show false = (wiQ s 1099511627776) from (by symm; unfold wiQ; simp only [*]; try rfl)), hk⟩))
        · have thH5 : isw (s 3) 1099511627776 = true := hH5
          refine wN_pur (v := .bool true) rfl rfl ?_
          refine wN_mov (v := .bool true) rfl ?_
          refine wN_end ?_
          exact And.intro trivial (Exists.intro _ (And.intro rfl ⟨congrArg Value.bool (show true = (wiQ s 1099511627776) from (by symm; unfold wiQ; simp only [*]; try rfl)), hk⟩))
theorem most_ok {a k : Int} (h1 : 0 ≤ a) (h2 : a ≤ 1099511627776) (h3 : 1 ≤ k) (h4 : k ≤ 10000) : ∃ H', FnX Try.prog kn lo 49 [iv a, iv k] H (iv (a * 10000 / k)) H' ∧ Keep H H' [] := by
  have key := fnX_low (kn := kn) (lo := lo) (H := H) (args := [iv a, iv k]) (Q := fun w H' => w = iv (a * 10000 / k) ∧ Keep H H' []) Try.func49 B49 N49 Z49 L49 (by simp) ?_
  · obtain ⟨w, H', h, rfl, q⟩ := key; exact ⟨H', h, q⟩
  have hk := Keep.refl H []
  refine wN_seq ?_
  refine wN_mov (v := iv 0) rfl ?_
  refine wN_end ?_
  refine wN_seq ?_
  refine wN_mov (v := iv a) rfl ?_
  refine wN_mul (a := a) (b := 10000) rfl rfl ⟨by omega, by omega⟩ ?_
  refine wN_mov (v := iv k) rfl ?_
  refine wN_quo (a := a * 10000) (b := k) rfl rfl (by omega) (by omega) ⟨by omega, by omega⟩ ?_
  refine wN_mov (v := iv ((a * 10000) / k)) rfl ?_
  refine wN_end ?_
  exact And.intro trivial (Exists.intro _ (And.intro rfl ⟨rfl, hk⟩))
theorem evap_ok {s : Nat → Int} {k : Int} (hlo : lo ≤ H.next) : ∃ H', FnX Try.prog kn lo 19 [.agg (qc s).toArray, iv k] H (.tuple #[iv (evE s k).1, iv (evE s k).2]) H' ∧ Keep H H' [] := by
  have key := fnX_low (kn := kn) (lo := lo) (H := H) (args := [.agg (qc s).toArray, iv k]) (Q := fun w H' => w = .tuple #[iv (evE s k).1, iv (evE s k).2] ∧ Keep H H' []) Try.func19 B19 N19 Z19 L19 (by simp) ?_
  · obtain ⟨w, H', h, rfl, q⟩ := key; exact ⟨H', h, q⟩
  have hk := Keep.refl H []
  refine wN_seq ?_
  refine wN_box (v := .agg (qc s).toArray) rfl ?_
  intro H1 kH1 nH1 c1
  have c1 : Cl H1 H.next [iv (s 0), iv (s 1), iv (s 2), iv (s 3)] := c1
  have mH1 := kH1.1
  have hk := hk.trans kH1
  refine wN_mov (v := iv 0) rfl ?_
  refine wN_mov (v := iv 0) rfl ?_
  refine wN_end ?_
  refine wN_seq ?_
  refine wN_lda (b := H.next) (o := 0) rfl c1.rd (show row 4 _ _ = some [iv (s 0), iv (s 1), iv (s 2), iv (s 3)] from rfl) ?_
  refine wN_callB rfl (vstream_ok (s := s) (by omega)) ?_
  intro tH2 H2 hH2 kH2
  have mH2 := kH2.1
  have hk := hk.trans kH2
  have c1 := kH2.cl c1 (by simp)
  cases tH2
  · have hw : wiQ s 1099511627776 = false := hH2
    refine wN_pur (v := .bool true) rfl rfl ?_
    refine wN_mov (v := .bool true) rfl ?_
    refine wN_gs rfl ?_
    refine wN_gs rfl ?_
    refine wN_gs rfl ?_
    refine wN_gs rfl ?_
    refine wN_gs rfl ?_
    refine wN_pur (v := .bool true) rfl rfl ?_
    refine wN_end ?_
    refine condT ?_
    refine wN_seq ?_
    refine wN_mov (v := iv 0) rfl ?_
    refine wN_mov (v := iv 1) rfl ?_
    refine wN_end ?_
    exact And.intro trivial (Exists.intro _ (And.intro rfl ⟨by unfold evE; rw [if_neg (by rintro ⟨q1, q2⟩; first | omega | (rw [hw] at q1; cases q1))]; rfl, hk⟩))
  · have hw : wiQ s 1099511627776 = true := hH2; have a0 := wiQ_t hw 0 (by decide); have a1 := wiQ_t hw 1 (by decide)
    refine wN_pur (v := .bool false) rfl rfl ?_
    refine wN_mov (v := .bool false) rfl ?_
    refine wN_g rfl (wN_addo (b := H.next) (o := 0) rfl ?_)
    refine wN_g rfl (wN_ld (b := H.next) (o := 1) (v := iv (s 1)) rfl c1.rd rfl ?_)
    refine wN_g rfl (wN_addo (b := H.next) (o := 0) rfl ?_)
    refine wN_g rfl (wN_ld (b := H.next) (o := 0) (v := iv (s 0)) rfl c1.rd rfl ?_)
    refine wN_g rfl (wN_b_gtr (a := (s 1)) (b := (s 0)) rfl rfl ?_)
    intro t1 g1; cases t1
    · have g1 : ¬ ((s 1) > (s 0)) := of_decide_eq_false g1
      refine wN_pur (v := .bool false) rfl rfl ?_
      refine wN_end ?_
      refine condF ?_
      first | refine wN_skip ?_ | skip
      refine wN_seq ?_
      refine wN_mov (v := iv k) rfl ?_
      refine wN_b_lss (a := k) (b := 1) rfl rfl ?_
      intro t2 g2; cases t2
      · have g2 : ¬ (k < 1) := of_decide_eq_false g2
        refine wN_mov (v := .bool false) rfl ?_
        refine wN_g rfl (wN_mov (v := iv k) rfl ?_)
        refine wN_g rfl (wN_b_gtr (a := k) (b := 10000) rfl rfl ?_)
        intro t3 g3; cases t3
        · have g3 : ¬ (k > 10000) := of_decide_eq_false g3
          refine wN_pur (v := .bool false) rfl rfl ?_
          refine wN_end ?_
          refine condF ?_
          first | refine wN_skip ?_ | skip
          refine wN_seq ?_
          refine wN_addo (b := H.next) (o := 0) rfl ?_
          refine wN_ld (b := H.next) (o := 1) (v := iv (s 1)) rfl c1.rd rfl ?_
          refine wN_c_eql (a := (s 1)) (b := 0) rfl rfl ?_
          refine wN_end ?_
          refine And.intro (fun q4 => ?_) (fun q4 => ?_)
          · have q4 : (s 1) = 0 := by simpa using q4
            refine wN_seq ?_
            refine wN_mov (v := iv 0) rfl ?_
            refine wN_mov (v := iv 4) rfl ?_
            refine wN_end ?_
            exact And.intro trivial (Exists.intro _ (And.intro rfl ⟨by unfold evE; rw [if_pos ⟨hw, by omega⟩, if_pos (by omega), if_pos (by omega)]; rfl, hk⟩))
          · have q4 : ¬ ((s 1) = 0) := by simpa using q4
            first | refine wN_skip ?_ | skip
            refine wD_seq ?_
            refine wD_addo (b := H.next) (o := 0) rfl ?_
            refine wD_ld (b := H.next) (o := 0) (v := iv (s 0)) rfl c1.rd rfl ?_
            refine wD_addo (b := H.next) (o := 0) rfl ?_
            refine wD_ld (b := H.next) (o := 1) (v := iv (s 1)) rfl c1.rd rfl ?_
            refine wD_mov (v := iv k) rfl ?_
            have hq0 := Int.ediv_nonneg (a := s 1 * 10000) (b := k) (by omega) (by omega); have hq1 := Int.ediv_le_self (a := s 1 * 10000) k (by omega)
            obtain ⟨H3, fH3, kH3⟩ := most_ok (kn := kn) (lo := H2.next) (H := H2) (a := s 1) (k := k) (by omega) (by omega) (by omega) (by omega)
            refine wD_callh (vs := [iv (s 1), iv k]) rfl rfl (callX_args fH3) ?_
            have mH3 := kH3.1
            have hk := hk.trans kH3
            have c1 := kH3.cl c1 (by simp)
            refine wD_sub (a := (s 0)) (b := (s 1 * 10000 / k)) rfl rfl ⟨by omega, by omega⟩ ?_
            refine wD_mm (a := 0) (b := (s 0) - (s 1 * 10000 / k)) rfl rfl ?_
            refine wD_mov (v := iv (max 0 ((s 0) - (s 1 * 10000 / k)))) rfl ?_
            refine wD_mov (v := iv 0) rfl ?_
            refine wD_end (by repeat' first | exact True.intro | exact (fun h => h) | refine And.intro ?_ ?_ | (intro h; have h : (_ : Nat) = _ := h; omega)) ?_
            exact And.intro trivial (Exists.intro _ (And.intro rfl ⟨by unfold evE; rw [if_pos ⟨hw, by omega⟩, if_pos (by omega), if_neg (by omega)]; rfl, hk⟩))
        · have g3 : k > 10000 := of_decide_eq_true g3
          refine wN_pur (v := .bool true) rfl rfl ?_
          refine wN_end ?_
          refine condT ?_
          refine wN_seq ?_
          refine wN_mov (v := iv 0) rfl ?_
          refine wN_mov (v := iv 2) rfl ?_
          refine wN_end ?_
          exact And.intro trivial (Exists.intro _ (And.intro rfl ⟨by unfold evE; rw [if_pos ⟨hw, by omega⟩, if_neg (by omega)]; rfl, hk⟩))
      · have g2 : k < 1 := of_decide_eq_true g2
        refine wN_mov (v := .bool true) rfl ?_
        refine wN_gs rfl ?_
        refine wN_gs rfl ?_
        refine wN_pur (v := .bool true) rfl rfl ?_
        refine wN_end ?_
        refine condT ?_
        refine wN_seq ?_
        refine wN_mov (v := iv 0) rfl ?_
        refine wN_mov (v := iv 2) rfl ?_
        refine wN_end ?_
        exact And.intro trivial (Exists.intro _ (And.intro rfl ⟨by unfold evE; rw [if_pos ⟨hw, by omega⟩, if_neg (by omega)]; rfl, hk⟩))
    · have g1 : (s 1) > (s 0) := of_decide_eq_true g1
      refine wN_pur (v := .bool true) rfl rfl ?_
      refine wN_end ?_
      refine condT ?_
      refine wN_seq ?_
      refine wN_mov (v := iv 0) rfl ?_
      refine wN_mov (v := iv 1) rfl ?_
      refine wN_end ?_
      exact And.intro trivial (Exists.intro _ (And.intro rfl ⟨by unfold evE; rw [if_neg (by rintro ⟨q1, q2⟩; first | omega | (rw [hw] at q1; cases q1))]; rfl, hk⟩))
theorem refevap_ok {s : Nat → Int} {k : Int} (hlo : lo ≤ H.next) : ∃ H', FnX Try.prog kn lo 20 [.agg (qc s).toArray, iv k] H (.tuple #[iv (evE s k).1, iv (evE s k).2]) H' ∧ Keep H H' [] := by
  have key := fnX_low (kn := kn) (lo := lo) (H := H) (args := [.agg (qc s).toArray, iv k]) (Q := fun w H' => w = .tuple #[iv (evE s k).1, iv (evE s k).2] ∧ Keep H H' []) Try.func20 B20 N20 Z20 L20 (by simp) ?_
  · obtain ⟨w, H', h, rfl, q⟩ := key; exact ⟨H', h, q⟩
  have hk := Keep.refl H []
  refine wN_seq ?_
  refine wN_box (v := .agg (qc s).toArray) rfl ?_
  intro H1 kH1 nH1 c1
  have c1 : Cl H1 H.next [iv (s 0), iv (s 1), iv (s 2), iv (s 3)] := c1
  have mH1 := kH1.1
  have hk := hk.trans kH1
  refine wN_mov (v := iv 0) rfl ?_
  refine wN_mov (v := iv 0) rfl ?_
  refine wN_end ?_
  refine wN_seq ?_
  refine wN_lda (b := H.next) (o := 0) rfl c1.rd (show row 4 _ _ = some [iv (s 0), iv (s 1), iv (s 2), iv (s 3)] from rfl) ?_
  refine wN_callB rfl (refstream_ok (s := s) (by omega)) ?_
  intro tH2 H2 hH2 kH2
  have mH2 := kH2.1
  have hk := hk.trans kH2
  have c1 := kH2.cl c1 (by simp)
  cases tH2
  · have hw : wiQ s 1099511627776 = false := hH2
    refine wN_pur (v := .bool true) rfl rfl ?_
    refine wN_mov (v := .bool true) rfl ?_
    refine wN_gs rfl ?_
    refine wN_gs rfl ?_
    refine wN_gs rfl ?_
    refine wN_gs rfl ?_
    refine wN_gs rfl ?_
    refine wN_pur (v := .bool true) rfl rfl ?_
    refine wN_end ?_
    refine condT ?_
    refine wN_seq ?_
    refine wN_mov (v := iv 0) rfl ?_
    refine wN_mov (v := iv 1) rfl ?_
    refine wN_end ?_
    exact And.intro trivial (Exists.intro _ (And.intro rfl ⟨by unfold evE; rw [if_neg (by rintro ⟨q1, q2⟩; first | omega | (rw [hw] at q1; cases q1))]; rfl, hk⟩))
  · have hw : wiQ s 1099511627776 = true := hH2; have a0 := wiQ_t hw 0 (by decide); have a1 := wiQ_t hw 1 (by decide)
    refine wN_pur (v := .bool false) rfl rfl ?_
    refine wN_mov (v := .bool false) rfl ?_
    refine wN_g rfl (wN_addo (b := H.next) (o := 0) rfl ?_)
    refine wN_g rfl (wN_ld (b := H.next) (o := 1) (v := iv (s 1)) rfl c1.rd rfl ?_)
    refine wN_g rfl (wN_addo (b := H.next) (o := 0) rfl ?_)
    refine wN_g rfl (wN_ld (b := H.next) (o := 0) (v := iv (s 0)) rfl c1.rd rfl ?_)
    refine wN_g rfl (wN_b_gtr (a := (s 1)) (b := (s 0)) rfl rfl ?_)
    intro t1 g1; cases t1
    · have g1 : ¬ ((s 1) > (s 0)) := of_decide_eq_false g1
      refine wN_pur (v := .bool false) rfl rfl ?_
      refine wN_end ?_
      refine condF ?_
      first | refine wN_skip ?_ | skip
      refine wN_seq ?_
      refine wN_mov (v := iv k) rfl ?_
      refine wN_callB rfl (in50_ok) ?_
      intro tH3 H3 hH3 kH3
      have mH3 := kH3.1
      have hk := hk.trans kH3
      have c1 := kH3.cl c1 (by simp)
      cases tH3
      · have fhH3 := inB_f hH3
        refine wN_pur (v := .bool true) rfl rfl ?_
        refine wN_end ?_
        refine condT ?_
        refine wN_seq ?_
        refine wN_mov (v := iv 0) rfl ?_
        refine wN_mov (v := iv 2) rfl ?_
        refine wN_end ?_
        exact And.intro trivial (Exists.intro _ (And.intro rfl ⟨by unfold evE; rw [if_pos ⟨hw, by omega⟩, if_neg (by omega)]; rfl, hk⟩))
      · have fhH3 := inB_t hH3
        refine wN_pur (v := .bool false) rfl rfl ?_
        refine wN_end ?_
        refine condF ?_
        first | refine wN_skip ?_ | skip
        refine wN_seq ?_
        refine wN_addo (b := H.next) (o := 0) rfl ?_
        refine wN_ld (b := H.next) (o := 1) (v := iv (s 1)) rfl c1.rd rfl ?_
        refine wN_c_eql (a := (s 1)) (b := 0) rfl rfl ?_
        refine wN_end ?_
        refine And.intro (fun q2 => ?_) (fun q2 => ?_)
        · have q2 : (s 1) = 0 := by simpa using q2
          refine wN_seq ?_
          refine wN_mov (v := iv 0) rfl ?_
          refine wN_mov (v := iv 4) rfl ?_
          refine wN_end ?_
          exact And.intro trivial (Exists.intro _ (And.intro rfl ⟨by unfold evE; rw [if_pos ⟨hw, by omega⟩, if_pos (by omega), if_pos (by omega)]; rfl, hk⟩))
        · have q2 : ¬ ((s 1) = 0) := by simpa using q2
          first | refine wN_skip ?_ | skip
          refine wD_seq ?_
          refine wD_addo (b := H.next) (o := 0) rfl ?_
          refine wD_ld (b := H.next) (o := 0) (v := iv (s 0)) rfl c1.rd rfl ?_
          refine wD_addo (b := H.next) (o := 0) rfl ?_
          refine wD_ld (b := H.next) (o := 1) (v := iv (s 1)) rfl c1.rd rfl ?_
          refine wD_mul (a := (s 1)) (b := 10000) rfl rfl ⟨by omega, by omega⟩ ?_
          refine wD_mov (v := iv k) rfl ?_
          have hq0 := Int.ediv_nonneg (a := s 1 * 10000) (b := k) (by omega) (by omega); have hq1 := Int.ediv_le_self (a := s 1 * 10000) k (by omega)
          refine wD_quo (a := s 1 * 10000) (b := k) rfl rfl (by omega) (by omega) ⟨by omega, by omega⟩ ?_
          refine wD_sub (a := (s 0)) (b := (s 1 * 10000 / k)) rfl rfl ⟨by omega, by omega⟩ ?_
          refine wD_mm (a := 0) (b := (s 0) - (s 1 * 10000 / k)) rfl rfl ?_
          refine wD_mov (v := iv (max 0 ((s 0) - (s 1 * 10000 / k)))) rfl ?_
          refine wD_mov (v := iv 0) rfl ?_
          refine wD_end (by repeat' first | exact True.intro | exact (fun h => h) | refine And.intro ?_ ?_ | (intro h; have h : (_ : Nat) = _ := h; omega)) ?_
          exact And.intro trivial (Exists.intro _ (And.intro rfl ⟨by unfold evE; rw [if_pos ⟨hw, by omega⟩, if_pos (by omega), if_neg (by omega)]; rfl, hk⟩))
    · have g1 : (s 1) > (s 0) := of_decide_eq_true g1
      refine wN_pur (v := .bool true) rfl rfl ?_
      refine wN_end ?_
      refine condT ?_
      refine wN_seq ?_
      refine wN_mov (v := iv 0) rfl ?_
      refine wN_mov (v := iv 1) rfl ?_
      refine wN_end ?_
      exact And.intro trivial (Exists.intro _ (And.intro rfl ⟨by unfold evE; rw [if_neg (by rintro ⟨q1, q2⟩; first | omega | (rw [hw] at q1; cases q1))]; rfl, hk⟩))
end
end Go.Ax

/-
  Plant: machines, streams: where they lie (written by program).
-/
namespace Go.Ax
open Go Go.RowKit

/-- a block of outlets: given, of a literal, or made by append -/
def Fy (H : Hp) (b : Nat) (cs : List Value) : Prop := b < H.next ∧ (H.t.get b = some (.ro cs) ∨ (∃ e, H.t.get b = some (.cells cs e false)) ∨ H.t.get b = some (.cells cs 59 true))
theorem Fy.rd {H : Hp} {b : Nat} {cs : List Value} (h : Fy H b cs) : Rd H b cs := by
  obtain ⟨h1, h2 | ⟨e, h2⟩ | h2⟩ := h <;> exact ⟨h1, by unfold cellsOf; rw [h2]⟩
theorem Fy.lt {H : Hp} {b : Nat} {cs : List Value} (h : Fy H b cs) : b < H.next := h.1
theorem Keep.fy {H H1 : Hp} {l : List Nat} (k : Keep H H1 l) {b : Nat} {cs : List Value} (h : Fy H b cs) (hl : b ∉ l) : Fy H1 b cs :=
  ⟨Nat.lt_of_lt_of_le h.1 k.1, by rw [k.2 b h.1 hl]; exact h.2⟩
theorem KeepB.fy {f : Nat} {H H1 : Hp} (k : KeepB f H H1) {b : Nat} {cs : List Value} (h : Fy H b cs) (hl : b < f) : Fy H1 b cs :=
  ⟨Nat.lt_of_lt_of_le h.1 k.1, by rw [k.2 b hl]; exact h.2⟩
/-- A machine: its outlets. -/
structure Mc where
  ra : Option Addr
  n : Nat
  cap : Nat
  l : List Ou
def Mc.z : Mc := ⟨none, 0, 0, []⟩
abbrev Mc.f (r : Mc) : List Value := [.slice r.ra r.n r.cap]
def mcc (l : List Mc) : List Value := l.flatMap Mc.f
theorem mcc_row {l : List Mc} {i : Nat} {r : Mc} (h : l[i]? = some r) : (mcc l)[0 + i * 1]? = some (.slice r.ra r.n r.cap) := row_get (i := 0 + i * 1) (j := 0) (row_flat (f := Mc.f) (size := 1) (fun _ _ => rfl) h) rfl
theorem ouc_row {l : List Ou} {i : Nat} {x : Ou} (h : l[i]? = some x) : row 5 (ouc l) (0 + i * 5) = some x.f := row_flat (f := Ou.f) (size := 5) (fun _ _ => rfl) h
theorem ouc_at {l : List Ou} {i j : Nat} {x : Ou} {v : Value} (h : l[i]? = some x) (hj : x.f[j]? = some v) : (ouc l)[0 + i * 5 + j]? = some v := row_get (ouc_row h) hj
/-- lots -/
structure Fz where
  rd : Int
  du : Int
  ms : Int
abbrev Fz.f (x : Fz) : List Value := [iv x.rd, iv x.du, iv x.ms]
def Fz.z : Fz := ⟨0, 0, 0⟩
/-- tanks -/
structure Tn where
  un : Int
  su : Int
  ac : Int
  co : Int
  pr : Int
abbrev Tn.f (x : Tn) : List Value := [iv x.un, iv x.su, iv x.ac, iv x.co, iv x.pr]
def Tn.z : Tn := ⟨0, 0, 0, 0, 0⟩
/-- where machines lie; the list may begin inside of its block -/
structure Mcs (H : Hp) (f : Nat) (sa : Option Addr) (n cap : Nat) (rs : List Mc) : Prop where
  r : ((sa = none ∨ sa = some ⟨0, 0, some 0⟩) ∧ n = 0 ∧ cap = 0) ∨ ∃ b o cs, sa = some ⟨b, o, none⟩ ∧ Rd H b cs ∧ b < f ∧ n ≤ cap ∧ ∀ i r, rs[i]? = some r → cs[o + i * 1]? = some (.slice r.ra r.n r.cap)
  rl : rs.length = n
  ri : ∀ r ∈ rs, Sl H r.ra r.n r.cap (ouc r.l) ∧ r.l.length = r.n ∧ ∀ x, r.ra = some ⟨x, 0, none⟩ → x < f ∧ Fy H x (ouc r.l)
theorem Mcs.keep {H H1 : Hp} {f : Nat} {sa : Option Addr} {n cap : Nat} {rs : List Mc} {W : List Nat} (h : Mcs H f sa n cap rs) (k : Keep H H1 W) (hw : ∀ x ∈ W, f ≤ x) : Mcs H1 f sa n cap rs where
  r := h.r.imp id fun ⟨b, o, cs, e, r, hb, hn, hc⟩ => ⟨b, o, cs, e, k.rd r (fun q => by have := hw b q; omega), hb, hn, hc⟩
  rl := h.rl
  ri := fun b hb => by
    obtain ⟨h1, h2, h3⟩ := h.ri b hb
    exact ⟨k.sl h1 fun x e q => by have := (h3 x e).1; have := hw x q; omega, h2, fun x e => ⟨(h3 x e).1, k.fy (h3 x e).2 (fun q => by have := (h3 x e).1; have := hw x q; omega)⟩⟩
theorem Mcs.opn {H : Hp} {f : Nat} {sa : Option Addr} {n cap : Nat} {rs : List Mc} (h : Mcs H f sa n cap rs) {i : Nat} (hi : i < n) : ∃ b o cs r, rs[i]? = some r ∧ sa = some ⟨b, o, none⟩ ∧ Rd H b cs ∧ b < f ∧ n ≤ cap ∧ cs[o + i * 1]? = some (.slice r.ra r.n r.cap) ∧ r ∈ rs := by
  rcases h.r with ⟨_, h0, _⟩ | ⟨b, o, cs, e, r, hb, hn, hc⟩
  · omega
  · obtain ⟨x, hx⟩ : ∃ x, rs[i]? = some x := ⟨_, List.getElem?_eq_getElem (show i < rs.length by rw [h.rl]; exact hi)⟩
    exact ⟨b, o, cs, x, hx, e, r, hb, hn, hc i x hx, List.mem_of_getElem? hx⟩
end Go.Ax

/-
  Plant: which lists of machines are plants (written by program).
-/
namespace Go.Ax
open Go Go.RowKit Go.Proofs

theorem u60' : Try.prog.underlying 60 = some (.slice 59) := by kernel_rfl
theorem in59s : ∃ i, Try.prog.info? 59 = some i ∧ i.size = 5 := by
  have h : (Try.prog.info? 59).map (fun i => Nat.beq i.size 5) = some true := by kernel_rfl
  cases e : Try.prog.info? 59 with
  | none => rw [e] at h; cases h
  | some i => rw [e] at h; exact ⟨i, rfl, by simpa using h⟩
/-- the first k elements -/
theorem heap_upto {lo : Nat} {H : Hp} {a : Option Addr} {n cap k : Nat} {cs : List Value} (hs : Sl H a n cap cs) (hf : ∀ b, a = some ⟨b, 0, none⟩ → Fy H b cs) (hk : k ≤ n) :
    ∃ kd, (∀ (m : Nat) (S : Rg) (d : Option Tmp) (x y : Operand) (ty : TypeId) (p : String), evS S x = some (.slice a n cap) → evS S y = some (iv (k : Int)) → heapOp Try.prog lo (frS m S) H ⟨d, .slice 60 x none (some y) none, ty, p, #[], none⟩ = some (.val (.slice a k cap) H, kd)) ∧ ∀ b, kd = .read b → b < H.next := by
  obtain ⟨i, hi, hs1⟩ := in59s
  have hb : ∀ (m : Nat) (S : Rg) (y : Operand) (q : Nat), evS S y = some (iv (k : Int)) → boundOf (frS m S) q (some y) = some k := fun m S y q hy => by unfold boundOf; simp only [ev_frS, hy]
  have hb0 : ∀ (m : Nat) (S : Rg), boundOf (frS m S) 0 none = some 0 := fun _ _ => rfl
  rcases hs with ⟨rfl | rfl, rfl, rfl, rfl⟩ | ⟨b, rfl, hr, hc⟩
  · obtain rfl : k = 0 := by omega
    refine ⟨.pure, fun m S d x y ty p hx hy => ?_, fun b e => by cases e⟩
    unfold heapOp
    simp only [ev_frS, hx, u60', hi, hb m S y _ hy, hb0, Nat.beq_refl, Bool.and_self, cond_true]
  · obtain rfl : k = 0 := by omega
    refine ⟨.pure, fun m S d x y ty p hx hy => ?_, fun b e => by cases e⟩
    unfold heapOp
    simp only [ev_frS, hx, u60', hi, hb m S y _ hy, hb0, Nat.beq_refl, Bool.and_self, cond_true]
  · refine ⟨.read b, fun m S d x y ty p hx hy => ?_, fun b' e => by cases e; exact hr.lt⟩
    have had : ∀ c, (bif c then (⟨b, 0, none⟩ : Addr) else (⟨b, 0, none⟩ : Addr).add (0 * i.size)) = ⟨b, 0, none⟩ := fun c => by cases c <;> simp [Addr.add]
    obtain ⟨_, h2 | ⟨e, h2⟩ | h2⟩ := hf b rfl
    · unfold heapOp
      simp only [ev_frS, hx, u60', hi, hb m S y _ hy, hb0, h2, Nat.ble_eq_true_of_le (show k ≤ cap by omega), Nat.ble_eq_true_of_le (Nat.zero_le k), Bool.and_self, cond_true, had, Nat.sub_zero]
    · unfold heapOp
      simp only [ev_frS, hx, u60', hi, hb m S y _ hy, hb0, h2, Nat.ble_eq_true_of_le (show k ≤ cap by omega), Nat.ble_eq_true_of_le (Nat.zero_le k), Bool.and_self, cond_true, had, Nat.sub_zero]
    · unfold heapOp
      simp only [ev_frS, hx, u60', hi, hb m S y _ hy, hb0, h2, hs1, Nat.beq_refl, Nat.ble_eq_true_of_le hk, Nat.ble_eq_true_of_le (Nat.zero_le k), show Nat.beq 5 0 = false from rfl, Bool.not_false, Bool.or_true, Bool.and_self, cond_true, Nat.sub_zero]
      rfl
theorem giv_q {l : List Ou} {k : Nat} {x : Ou} (h : l[k]? = some x) : addQ (givQ l k) x.w = givQ l (k + 1) := by
  have e : l.getD k Ou.z = x := by rw [List.getD_eq_getElem?_getD, h]; rfl
  funext j
  show giv l j k + x.w j = giv l j k + (l.getD k Ou.z).w j
  rw [e]
theorem giv_in {l : List Ou} {i n : Int} (h : l.all (fun o => o.ok i n) = true) : ∀ k, k ≤ l.length → ∀ j, j < 4 → 0 ≤ giv l j k ∧ giv l j k ≤ 1000 * k
  | 0, _, _, _ => by show 0 ≤ (0 : Int) ∧ (0 : Int) ≤ 1000 * ((0 : Nat) : Int); omega
  | k + 1, hk, j, hj => by
    have := giv_in h k (by omega) j hj
    have hx := List.all_eq_true.1 h (l.getD k Ou.z) (by rw [List.getD_eq_getElem?_getD, List.getElem?_eq_getElem (by omega)]; exact List.getElem_mem _)
    have := (Ou.ok_t hx).2 j hj
    show 0 ≤ giv l j k + (l.getD k Ou.z).w j ∧ giv l j k + (l.getD k Ou.z).w j ≤ 1000 * ((k + 1 : Nat) : Int)
    omega
theorem Ou.w_in {l : List Ou} {i n : Int} (h : l.all (fun o => o.ok i n) = true) {k : Nat} {x : Ou} (hx : l[k]? = some x) : ∀ j, j < 4 → 0 ≤ x.w j ∧ x.w j ≤ 1000 := (Ou.ok_t (List.all_eq_true.1 h x (List.mem_of_getElem? hx))).2
def mss (rs : List Mc) : List (List Ou) := rs.map Mc.l
theorem mss_get {rs : List Mc} {i : Nat} {x : Mc} (h : rs[i]? = some x) : (mss rs).getD i [] = x.l := by
  rw [List.getD_eq_getElem?_getD]; simp [mss, h]
theorem pok_of {rs : List Mc} {n : Nat} (hl : rs.length = n) : pok (mss rs) = (decide (n ≤ 12) && (List.range n).all (fun i => mok ((mss rs).getD i []) i n)) := by
  unfold pok; simp [mss, hl]
theorem pok_fail {rs : List Mc} {n i : Nat} (hl : rs.length = n) (hi : i < n) (h : mok ((mss rs).getD i []) i n = false) : pok (mss rs) = false := by
  rw [pok_of hl, Bool.and_eq_false_iff]; right
  rw [List.all_eq_false]; exact ⟨i, List.mem_range.2 hi, by rw [h]; decide⟩
theorem pok_all {rs : List Mc} {n : Nat} (hl : rs.length = n) (h : ∀ i, i < n → mok ((mss rs).getD i []) i n = true) : pok (mss rs) = decide (n ≤ 12) := by
  rw [pok_of hl, List.all_eq_true.2 (fun i hi => h i (List.mem_range.1 hi)), Bool.and_true]
section
variable {kn : FuncId → Option Bool} {lo : Nat} {H : Hp}
/-- validOutlet -/
theorem voutlet_ok {o : Ou} {i n : Int} (hlo : lo ≤ H.next) : ∃ H', FnX Try.prog kn lo 92 [.agg (Ou.f o).toArray, iv i, iv n] H (.bool (o.ok i n)) H' ∧ Keep H H' [] := by
  have key := fnX_low (kn := kn) (lo := lo) (H := H) (args := [.agg (Ou.f o).toArray, iv i, iv n]) (Q := fun w H' => w = .bool (o.ok i n) ∧ Keep H H' []) Try.func92 B92 N92 Z92 L92 (by simp) ?_
  · obtain ⟨w, H', h, rfl, q⟩ := key; exact ⟨H', h, q⟩
  have hk := Keep.refl H []
  refine wN_seq ?_
  refine wN_box (v := .agg (Ou.f o).toArray) rfl ?_
  intro H1 kH1 nH1 c1
  have c1 : Cl H1 H.next [iv o.to, iv o.m, iv o.s, iv o.a, iv o.c] := c1
  have mH1 := kH1.1
  have hk := hk.trans kH1
  refine wN_mov (v := .bool false) rfl ?_
  refine wN_end ?_
  refine wN_seq ?_
  refine wN_addo (b := H.next) (o := 0) rfl ?_
  refine wN_ld (b := H.next) (o := 0) (v := iv o.to) rfl c1.rd rfl ?_
  refine wN_b_leq (a := -16) (b := o.to) rfl rfl ?_
  intro t1 g1; cases t1
  · have g1 : ¬ ((-16) ≤ o.to) := of_decide_eq_false g1
    refine wN_mov (v := .bool false) rfl ?_
    refine wN_gs rfl ?_
    refine wN_gs rfl ?_
    refine wN_gs rfl ?_
    refine wN_pur (v := .bool false) rfl rfl ?_
    refine wN_mov (v := .bool false) rfl ?_
    refine wN_end ?_
    refine wN_seq ?_
    refine wN_mov (v := iv i) rfl ?_
    refine wN_addo (b := H.next) (o := 0) rfl ?_
    refine wN_ld (b := H.next) (o := 0) (v := iv o.to) rfl c1.rd rfl ?_
    refine wN_b_lss (a := i) (b := o.to) rfl rfl ?_
    intro t2 g2; cases t2
    · have g2 : ¬ (i < o.to) := of_decide_eq_false g2
      refine wN_mov (v := .bool false) rfl ?_
      refine wN_gs rfl ?_
      refine wN_gs rfl ?_
      refine wN_gs rfl ?_
      refine wN_gs rfl ?_
      refine wN_pur (v := .bool false) rfl rfl ?_
      refine wN_mov (v := .bool false) rfl ?_
      refine wN_end ?_
      refine wN_seq ?_
      refine wN_mov (v := .bool false) rfl ?_
      refine wN_mov (v := .bool false) rfl ?_
      refine wN_g rfl (wN_mov (v := .bool false) rfl ?_)
      refine wN_pur (v := .bool false) rfl rfl ?_
      refine wN_mov (v := .bool false) rfl ?_
      refine wN_gs rfl ?_
      refine wN_gs rfl ?_
      refine wN_gs rfl ?_
      refine wN_pur (v := .bool false) rfl rfl ?_
      refine wN_mov (v := .bool false) rfl ?_
      refine wN_end ?_
      exact And.intro trivial (Exists.intro _ (And.intro rfl ⟨congrArg Value.bool (show false = (o.ok i n) from (by symm; unfold Ou.ok; first | (rw [hw, Bool.and_true, Bool.or_eq_true, Bool.and_eq_true, Bool.and_eq_true]; simp only [decide_eq_true_eq]; omega) | (rw [hw, Bool.and_false]) | (rw [Bool.and_eq_false_iff]; left; rw [Bool.or_eq_false_iff, Bool.and_eq_false_iff, Bool.and_eq_false_iff]; simp only [decide_eq_false_iff_not]; omega))), hk⟩))
    · have g2 : i < o.to := of_decide_eq_true g2
      refine wN_mov (v := .bool true) rfl ?_
      refine wN_g rfl (wN_addo (b := H.next) (o := 0) rfl ?_)
      refine wN_g rfl (wN_ld (b := H.next) (o := 0) (v := iv o.to) rfl c1.rd rfl ?_)
      refine wN_g rfl (wN_mov (v := iv n) rfl ?_)
      refine wN_g rfl (wN_b_lss (a := o.to) (b := n) rfl rfl ?_)
      intro t3 g3; cases t3
      · have g3 : ¬ (o.to < n) := of_decide_eq_false g3
        refine wN_pur (v := .bool false) rfl rfl ?_
        refine wN_mov (v := .bool false) rfl ?_
        refine wN_end ?_
        refine wN_seq ?_
        refine wN_mov (v := .bool false) rfl ?_
        refine wN_mov (v := .bool false) rfl ?_
        refine wN_g rfl (wN_mov (v := .bool false) rfl ?_)
        refine wN_pur (v := .bool false) rfl rfl ?_
        refine wN_mov (v := .bool false) rfl ?_
        refine wN_gs rfl ?_
        refine wN_gs rfl ?_
        refine wN_gs rfl ?_
        refine wN_pur (v := .bool false) rfl rfl ?_
        refine wN_mov (v := .bool false) rfl ?_
        refine wN_end ?_
        exact And.intro trivial (Exists.intro _ (And.intro rfl ⟨congrArg Value.bool (show false = (o.ok i n) from (by symm; unfold Ou.ok; first | (rw [hw, Bool.and_true, Bool.or_eq_true, Bool.and_eq_true, Bool.and_eq_true]; simp only [decide_eq_true_eq]; omega) | (rw [hw, Bool.and_false]) | (rw [Bool.and_eq_false_iff]; left; rw [Bool.or_eq_false_iff, Bool.and_eq_false_iff, Bool.and_eq_false_iff]; simp only [decide_eq_false_iff_not]; omega))), hk⟩))
      · have g3 : o.to < n := of_decide_eq_true g3
        refine wN_pur (v := .bool true) rfl rfl ?_
        refine wN_mov (v := .bool true) rfl ?_
        refine wN_end ?_
        refine wN_seq ?_
        refine wN_mov (v := .bool false) rfl ?_
        refine wN_mov (v := .bool false) rfl ?_
        refine wN_g rfl (wN_mov (v := .bool true) rfl ?_)
        refine wN_pur (v := .bool true) rfl rfl ?_
        refine wN_mov (v := .bool true) rfl ?_
        refine wN_g rfl (wN_lda (b := H.next) (o := 0) rfl c1.rd (show row 5 _ _ = some [iv o.to, iv o.m, iv o.s, iv o.a, iv o.c] from rfl) ?_)
        obtain ⟨H2, fH2, kH2⟩ := thou_ok (kn := kn) (lo := lo) (H := H1) (o := o) (by omega)
        refine wN_g rfl (wN_callf (vs := [.agg (Ou.f o).toArray]) rfl (callX_args fH2) ?_)
        have mH2 := kH2.1
        have hk := hk.trans kH2
        have c1 := kH2.cl c1 (by simp)
        refine wN_g rfl (wN_callB rfl (within_ok (p := o.w) (m := 1000)) ?_)
        intro tH3 H3 hH3 kH3
        have mH3 := kH3.1
        have hk := hk.trans kH3
        have c1 := kH3.cl c1 (by simp)
        cases tH3
        · have hw : wiQ o.w 1000 = false := hH3
          refine wN_pur (v := .bool false) rfl rfl ?_
          refine wN_mov (v := .bool false) rfl ?_
          refine wN_end ?_
          exact And.intro trivial (Exists.intro _ (And.intro rfl ⟨congrArg Value.bool (show false = (o.ok i n) from (by symm; unfold Ou.ok; first | (rw [hw, Bool.and_true, Bool.or_eq_true, Bool.and_eq_true, Bool.and_eq_true]; simp only [decide_eq_true_eq]; omega) | (rw [hw, Bool.and_false]) | (rw [Bool.and_eq_false_iff]; left; rw [Bool.or_eq_false_iff, Bool.and_eq_false_iff, Bool.and_eq_false_iff]; simp only [decide_eq_false_iff_not]; omega))), hk⟩))
        · have hw : wiQ o.w 1000 = true := hH3
          refine wN_pur (v := .bool true) rfl rfl ?_
          refine wN_mov (v := .bool true) rfl ?_
          refine wN_end ?_
          exact And.intro trivial (Exists.intro _ (And.intro rfl ⟨congrArg Value.bool (show true = (o.ok i n) from (by symm; unfold Ou.ok; first | (rw [hw, Bool.and_true, Bool.or_eq_true, Bool.and_eq_true, Bool.and_eq_true]; simp only [decide_eq_true_eq]; omega) | (rw [hw, Bool.and_false]) | (rw [Bool.and_eq_false_iff]; left; rw [Bool.or_eq_false_iff, Bool.and_eq_false_iff, Bool.and_eq_false_iff]; simp only [decide_eq_false_iff_not]; omega))), hk⟩))
  · have g1 : (-16) ≤ o.to := of_decide_eq_true g1
    refine wN_mov (v := .bool true) rfl ?_
    refine wN_g rfl (wN_addo (b := H.next) (o := 0) rfl ?_)
    refine wN_g rfl (wN_ld (b := H.next) (o := 0) (v := iv o.to) rfl c1.rd rfl ?_)
    refine wN_g rfl (wN_b_lss (a := o.to) (b := 0) rfl rfl ?_)
    intro t4 g4; cases t4
    · have g4 : ¬ (o.to < 0) := of_decide_eq_false g4
      refine wN_pur (v := .bool false) rfl rfl ?_
      refine wN_mov (v := .bool false) rfl ?_
      refine wN_end ?_
      refine wN_seq ?_
      refine wN_mov (v := iv i) rfl ?_
      refine wN_addo (b := H.next) (o := 0) rfl ?_
      refine wN_ld (b := H.next) (o := 0) (v := iv o.to) rfl c1.rd rfl ?_
      refine wN_b_lss (a := i) (b := o.to) rfl rfl ?_
      intro t5 g5; cases t5
      · have g5 : ¬ (i < o.to) := of_decide_eq_false g5
        refine wN_mov (v := .bool false) rfl ?_
        refine wN_gs rfl ?_
        refine wN_gs rfl ?_
        refine wN_gs rfl ?_
        refine wN_gs rfl ?_
        refine wN_pur (v := .bool false) rfl rfl ?_
        refine wN_mov (v := .bool false) rfl ?_
        refine wN_end ?_
        refine wN_seq ?_
        refine wN_mov (v := .bool false) rfl ?_
        refine wN_mov (v := .bool false) rfl ?_
        refine wN_g rfl (wN_mov (v := .bool false) rfl ?_)
        refine wN_pur (v := .bool false) rfl rfl ?_
        refine wN_mov (v := .bool false) rfl ?_
        refine wN_gs rfl ?_
        refine wN_gs rfl ?_
        refine wN_gs rfl ?_
        refine wN_pur (v := .bool false) rfl rfl ?_
        refine wN_mov (v := .bool false) rfl ?_
        refine wN_end ?_
        exact And.intro trivial (Exists.intro _ (And.intro rfl ⟨congrArg Value.bool (show false = (o.ok i n) from (by symm; unfold Ou.ok; first | (rw [hw, Bool.and_true, Bool.or_eq_true, Bool.and_eq_true, Bool.and_eq_true]; simp only [decide_eq_true_eq]; omega) | (rw [hw, Bool.and_false]) | (rw [Bool.and_eq_false_iff]; left; rw [Bool.or_eq_false_iff, Bool.and_eq_false_iff, Bool.and_eq_false_iff]; simp only [decide_eq_false_iff_not]; omega))), hk⟩))
      · have g5 : i < o.to := of_decide_eq_true g5
        refine wN_mov (v := .bool true) rfl ?_
        refine wN_g rfl (wN_addo (b := H.next) (o := 0) rfl ?_)
        refine wN_g rfl (wN_ld (b := H.next) (o := 0) (v := iv o.to) rfl c1.rd rfl ?_)
        refine wN_g rfl (wN_mov (v := iv n) rfl ?_)
        refine wN_g rfl (wN_b_lss (a := o.to) (b := n) rfl rfl ?_)
        intro t6 g6; cases t6
        · have g6 : ¬ (o.to < n) := of_decide_eq_false g6
          refine wN_pur (v := .bool false) rfl rfl ?_
          refine wN_mov (v := .bool false) rfl ?_
          refine wN_end ?_
          refine wN_seq ?_
          refine wN_mov (v := .bool false) rfl ?_
          refine wN_mov (v := .bool false) rfl ?_
          refine wN_g rfl (wN_mov (v := .bool false) rfl ?_)
          refine wN_pur (v := .bool false) rfl rfl ?_
          refine wN_mov (v := .bool false) rfl ?_
          refine wN_gs rfl ?_
          refine wN_gs rfl ?_
          refine wN_gs rfl ?_
          refine wN_pur (v := .bool false) rfl rfl ?_
          refine wN_mov (v := .bool false) rfl ?_
          refine wN_end ?_
          exact And.intro trivial (Exists.intro _ (And.intro rfl ⟨congrArg Value.bool (show false = (o.ok i n) from (by symm; unfold Ou.ok; first | (rw [hw, Bool.and_true, Bool.or_eq_true, Bool.and_eq_true, Bool.and_eq_true]; simp only [decide_eq_true_eq]; omega) | (rw [hw, Bool.and_false]) | (rw [Bool.and_eq_false_iff]; left; rw [Bool.or_eq_false_iff, Bool.and_eq_false_iff, Bool.and_eq_false_iff]; simp only [decide_eq_false_iff_not]; omega))), hk⟩))
        · have g6 : o.to < n := of_decide_eq_true g6
          refine wN_pur (v := .bool true) rfl rfl ?_
          refine wN_mov (v := .bool true) rfl ?_
          refine wN_end ?_
          refine wN_seq ?_
          refine wN_mov (v := .bool false) rfl ?_
          refine wN_mov (v := .bool false) rfl ?_
          refine wN_g rfl (wN_mov (v := .bool true) rfl ?_)
          refine wN_pur (v := .bool true) rfl rfl ?_
          refine wN_mov (v := .bool true) rfl ?_
          refine wN_g rfl (wN_lda (b := H.next) (o := 0) rfl c1.rd (show row 5 _ _ = some [iv o.to, iv o.m, iv o.s, iv o.a, iv o.c] from rfl) ?_)
          obtain ⟨H4, fH4, kH4⟩ := thou_ok (kn := kn) (lo := lo) (H := H1) (o := o) (by omega)
          refine wN_g rfl (wN_callf (vs := [.agg (Ou.f o).toArray]) rfl (callX_args fH4) ?_)
          have mH4 := kH4.1
          have hk := hk.trans kH4
          have c1 := kH4.cl c1 (by simp)
          refine wN_g rfl (wN_callB rfl (within_ok (p := o.w) (m := 1000)) ?_)
          intro tH5 H5 hH5 kH5
          have mH5 := kH5.1
          have hk := hk.trans kH5
          have c1 := kH5.cl c1 (by simp)
          cases tH5
          · have hw : wiQ o.w 1000 = false := hH5
            refine wN_pur (v := .bool false) rfl rfl ?_
            refine wN_mov (v := .bool false) rfl ?_
            refine wN_end ?_
            exact And.intro trivial (Exists.intro _ (And.intro rfl ⟨congrArg Value.bool (show false = (o.ok i n) from (by symm; unfold Ou.ok; first | (rw [hw, Bool.and_true, Bool.or_eq_true, Bool.and_eq_true, Bool.and_eq_true]; simp only [decide_eq_true_eq]; omega) | (rw [hw, Bool.and_false]) | (rw [Bool.and_eq_false_iff]; left; rw [Bool.or_eq_false_iff, Bool.and_eq_false_iff, Bool.and_eq_false_iff]; simp only [decide_eq_false_iff_not]; omega))), hk⟩))
          · have hw : wiQ o.w 1000 = true := hH5
            refine wN_pur (v := .bool true) rfl rfl ?_
            refine wN_mov (v := .bool true) rfl ?_
            refine wN_end ?_
            exact And.intro trivial (Exists.intro _ (And.intro rfl ⟨congrArg Value.bool (show true = (o.ok i n) from (by symm; unfold Ou.ok; first | (rw [hw, Bool.and_true, Bool.or_eq_true, Bool.and_eq_true, Bool.and_eq_true]; simp only [decide_eq_true_eq]; omega) | (rw [hw, Bool.and_false]) | (rw [Bool.and_eq_false_iff]; left; rw [Bool.or_eq_false_iff, Bool.and_eq_false_iff, Bool.and_eq_false_iff]; simp only [decide_eq_false_iff_not]; omega))), hk⟩))
    · have g4 : o.to < 0 := of_decide_eq_true g4
      refine wN_pur (v := .bool true) rfl rfl ?_
      refine wN_mov (v := .bool true) rfl ?_
      refine wN_end ?_
      refine wN_seq ?_
      refine wN_mov (v := iv i) rfl ?_
      refine wN_addo (b := H.next) (o := 0) rfl ?_
      refine wN_ld (b := H.next) (o := 0) (v := iv o.to) rfl c1.rd rfl ?_
      refine wN_b_lss (a := i) (b := o.to) rfl rfl ?_
      intro t7 g7; cases t7
      · have g7 : ¬ (i < o.to) := of_decide_eq_false g7
        refine wN_mov (v := .bool false) rfl ?_
        refine wN_gs rfl ?_
        refine wN_gs rfl ?_
        refine wN_gs rfl ?_
        refine wN_gs rfl ?_
        refine wN_pur (v := .bool false) rfl rfl ?_
        refine wN_mov (v := .bool false) rfl ?_
        refine wN_end ?_
        refine wN_seq ?_
        refine wN_mov (v := .bool true) rfl ?_
        refine wN_mov (v := .bool true) rfl ?_
        refine wN_gs rfl ?_
        refine wN_pur (v := .bool true) rfl rfl ?_
        refine wN_mov (v := .bool true) rfl ?_
        refine wN_g rfl (wN_lda (b := H.next) (o := 0) rfl c1.rd (show row 5 _ _ = some [iv o.to, iv o.m, iv o.s, iv o.a, iv o.c] from rfl) ?_)
        obtain ⟨H6, fH6, kH6⟩ := thou_ok (kn := kn) (lo := lo) (H := H1) (o := o) (by omega)
        refine wN_g rfl (wN_callf (vs := [.agg (Ou.f o).toArray]) rfl (callX_args fH6) ?_)
        have mH6 := kH6.1
        have hk := hk.trans kH6
        have c1 := kH6.cl c1 (by simp)
        refine wN_g rfl (wN_callB rfl (within_ok (p := o.w) (m := 1000)) ?_)
        intro tH7 H7 hH7 kH7
        have mH7 := kH7.1
        have hk := hk.trans kH7
        have c1 := kH7.cl c1 (by simp)
        cases tH7
        · have hw : wiQ o.w 1000 = false := hH7
          refine wN_pur (v := .bool false) rfl rfl ?_
          refine wN_mov (v := .bool false) rfl ?_
          refine wN_end ?_
          exact And.intro trivial (Exists.intro _ (And.intro rfl ⟨congrArg Value.bool (show false = (o.ok i n) from (by symm; unfold Ou.ok; first | (rw [hw, Bool.and_true, Bool.or_eq_true, Bool.and_eq_true, Bool.and_eq_true]; simp only [decide_eq_true_eq]; omega) | (rw [hw, Bool.and_false]) | (rw [Bool.and_eq_false_iff]; left; rw [Bool.or_eq_false_iff, Bool.and_eq_false_iff, Bool.and_eq_false_iff]; simp only [decide_eq_false_iff_not]; omega))), hk⟩))
        · have hw : wiQ o.w 1000 = true := hH7
          refine wN_pur (v := .bool true) rfl rfl ?_
          refine wN_mov (v := .bool true) rfl ?_
          refine wN_end ?_
          exact And.intro trivial (Exists.intro _ (And.intro rfl ⟨congrArg Value.bool (show true = (o.ok i n) from (by symm; unfold Ou.ok; first | (rw [hw, Bool.and_true, Bool.or_eq_true, Bool.and_eq_true, Bool.and_eq_true]; simp only [decide_eq_true_eq]; omega) | (rw [hw, Bool.and_false]) | (rw [Bool.and_eq_false_iff]; left; rw [Bool.or_eq_false_iff, Bool.and_eq_false_iff, Bool.and_eq_false_iff]; simp only [decide_eq_false_iff_not]; omega))), hk⟩))
      · have g7 : i < o.to := of_decide_eq_true g7
        refine wN_mov (v := .bool true) rfl ?_
        refine wN_g rfl (wN_addo (b := H.next) (o := 0) rfl ?_)
        refine wN_g rfl (wN_ld (b := H.next) (o := 0) (v := iv o.to) rfl c1.rd rfl ?_)
        refine wN_g rfl (wN_mov (v := iv n) rfl ?_)
        refine wN_g rfl (wN_b_lss (a := o.to) (b := n) rfl rfl ?_)
        intro t8 g8; cases t8
        · have g8 : ¬ (o.to < n) := of_decide_eq_false g8
          refine wN_pur (v := .bool false) rfl rfl ?_
          refine wN_mov (v := .bool false) rfl ?_
          refine wN_end ?_
          refine wN_seq ?_
          refine wN_mov (v := .bool true) rfl ?_
          refine wN_mov (v := .bool true) rfl ?_
          refine wN_gs rfl ?_
          refine wN_pur (v := .bool true) rfl rfl ?_
          refine wN_mov (v := .bool true) rfl ?_
          refine wN_g rfl (wN_lda (b := H.next) (o := 0) rfl c1.rd (show row 5 _ _ = some [iv o.to, iv o.m, iv o.s, iv o.a, iv o.c] from rfl) ?_)
          obtain ⟨H8, fH8, kH8⟩ := thou_ok (kn := kn) (lo := lo) (H := H1) (o := o) (by omega)
          refine wN_g rfl (wN_callf (vs := [.agg (Ou.f o).toArray]) rfl (callX_args fH8) ?_)
          have mH8 := kH8.1
          have hk := hk.trans kH8
          have c1 := kH8.cl c1 (by simp)
          refine wN_g rfl (wN_callB rfl (within_ok (p := o.w) (m := 1000)) ?_)
          intro tH9 H9 hH9 kH9
          have mH9 := kH9.1
          have hk := hk.trans kH9
          have c1 := kH9.cl c1 (by simp)
          cases tH9
          · have hw : wiQ o.w 1000 = false := hH9
            refine wN_pur (v := .bool false) rfl rfl ?_
            refine wN_mov (v := .bool false) rfl ?_
            refine wN_end ?_
            exact And.intro trivial (Exists.intro _ (And.intro rfl ⟨congrArg Value.bool (show false = (o.ok i n) from (by symm; unfold Ou.ok; first | (rw [hw, Bool.and_true, Bool.or_eq_true, Bool.and_eq_true, Bool.and_eq_true]; simp only [decide_eq_true_eq]; omega) | (rw [hw, Bool.and_false]) | (rw [Bool.and_eq_false_iff]; left; rw [Bool.or_eq_false_iff, Bool.and_eq_false_iff, Bool.and_eq_false_iff]; simp only [decide_eq_false_iff_not]; omega))), hk⟩))
          · have hw : wiQ o.w 1000 = true := hH9
            refine wN_pur (v := .bool true) rfl rfl ?_
            refine wN_mov (v := .bool true) rfl ?_
            refine wN_end ?_
            exact And.intro trivial (Exists.intro _ (And.intro rfl ⟨congrArg Value.bool (show true = (o.ok i n) from (by symm; unfold Ou.ok; first | (rw [hw, Bool.and_true, Bool.or_eq_true, Bool.and_eq_true, Bool.and_eq_true]; simp only [decide_eq_true_eq]; omega) | (rw [hw, Bool.and_false]) | (rw [Bool.and_eq_false_iff]; left; rw [Bool.or_eq_false_iff, Bool.and_eq_false_iff, Bool.and_eq_false_iff]; simp only [decide_eq_false_iff_not]; omega))), hk⟩))
        · have g8 : o.to < n := of_decide_eq_true g8
          refine wN_pur (v := .bool true) rfl rfl ?_
          refine wN_mov (v := .bool true) rfl ?_
          refine wN_end ?_
          refine wN_seq ?_
          refine wN_mov (v := .bool true) rfl ?_
          refine wN_mov (v := .bool true) rfl ?_
          refine wN_gs rfl ?_
          refine wN_pur (v := .bool true) rfl rfl ?_
          refine wN_mov (v := .bool true) rfl ?_
          refine wN_g rfl (wN_lda (b := H.next) (o := 0) rfl c1.rd (show row 5 _ _ = some [iv o.to, iv o.m, iv o.s, iv o.a, iv o.c] from rfl) ?_)
          obtain ⟨H10, fH10, kH10⟩ := thou_ok (kn := kn) (lo := lo) (H := H1) (o := o) (by omega)
          refine wN_g rfl (wN_callf (vs := [.agg (Ou.f o).toArray]) rfl (callX_args fH10) ?_)
          have mH10 := kH10.1
          have hk := hk.trans kH10
          have c1 := kH10.cl c1 (by simp)
          refine wN_g rfl (wN_callB rfl (within_ok (p := o.w) (m := 1000)) ?_)
          intro tH11 H11 hH11 kH11
          have mH11 := kH11.1
          have hk := hk.trans kH11
          have c1 := kH11.cl c1 (by simp)
          cases tH11
          · have hw : wiQ o.w 1000 = false := hH11
            refine wN_pur (v := .bool false) rfl rfl ?_
            refine wN_mov (v := .bool false) rfl ?_
            refine wN_end ?_
            exact And.intro trivial (Exists.intro _ (And.intro rfl ⟨congrArg Value.bool (show false = (o.ok i n) from (by symm; unfold Ou.ok; first | (rw [hw, Bool.and_true, Bool.or_eq_true, Bool.and_eq_true, Bool.and_eq_true]; simp only [decide_eq_true_eq]; omega) | (rw [hw, Bool.and_false]) | (rw [Bool.and_eq_false_iff]; left; rw [Bool.or_eq_false_iff, Bool.and_eq_false_iff, Bool.and_eq_false_iff]; simp only [decide_eq_false_iff_not]; omega))), hk⟩))
          · have hw : wiQ o.w 1000 = true := hH11
            refine wN_pur (v := .bool true) rfl rfl ?_
            refine wN_mov (v := .bool true) rfl ?_
            refine wN_end ?_
            exact And.intro trivial (Exists.intro _ (And.intro rfl ⟨congrArg Value.bool (show true = (o.ok i n) from (by symm; unfold Ou.ok; first | (rw [hw, Bool.and_true, Bool.or_eq_true, Bool.and_eq_true, Bool.and_eq_true]; simp only [decide_eq_true_eq]; omega) | (rw [hw, Bool.and_false]) | (rw [Bool.and_eq_false_iff]; left; rw [Bool.or_eq_false_iff, Bool.and_eq_false_iff, Bool.and_eq_false_iff]; simp only [decide_eq_false_iff_not]; omega))), hk⟩))
/-- validMachine's closure -/
theorem clos91_ok {o : Ou} {k i n : Int} {bi bn : Nat} (hlo : lo ≤ H.next) (ri : Rd H bi [iv i]) (rn : Rd H bn [iv n]) : ∃ H', FnX Try.prog kn lo 91 [iv k, .agg (Ou.f o).toArray, pt bi, pt bn] H (.bool (o.ok i n)) H' ∧ Keep H H' [] := by
  have key := fnX_low (kn := kn) (lo := lo) (H := H) (args := [iv k, .agg (Ou.f o).toArray, pt bi, pt bn]) (Q := fun w H' => w = .bool (o.ok i n) ∧ Keep H H' []) Try.func91 B91 N91 Z91 L91 (by simp) ?_
  · obtain ⟨w, H', h, rfl, q⟩ := key; exact ⟨H', h, q⟩
  have hk := Keep.refl H []
  refine wN_seq ?_
  refine wN_box (v := .agg (Ou.f o).toArray) rfl ?_
  intro H1 kH1 nH1 c1
  have c1 : Cl H1 H.next [iv o.to, iv o.m, iv o.s, iv o.a, iv o.c] := c1
  have mH1 := kH1.1
  have hk := hk.trans kH1
  have ri := kH1.rd ri (by simp)
  have rn := kH1.rd rn (by simp)
  refine wN_mov (v := .bool false) rfl ?_
  refine wN_end ?_
  refine wN_seq ?_
  refine wN_lda (b := H.next) (o := 0) rfl c1.rd (show row 5 _ _ = some [iv o.to, iv o.m, iv o.s, iv o.a, iv o.c] from rfl) ?_
  refine wN_ld (b := bi) (o := 0) (v := iv i) rfl ri rfl ?_
  refine wN_ld (b := bn) (o := 0) (v := iv n) rfl rn rfl ?_
  obtain ⟨H2, fH2, kH2⟩ := voutlet_ok (kn := kn) (lo := lo) (H := H1) (o := o) (i := i) (n := n) (by omega)
  refine wN_callf (vs := [.agg (Ou.f o).toArray, iv i, iv n]) rfl (callX_args fH2) ?_
  have mH2 := kH2.1
  have hk := hk.trans kH2
  have ri := kH2.rd ri (by simp)
  have rn := kH2.rd rn (by simp)
  have c1 := kH2.cl c1 (by simp)
  refine wN_mov (v := .bool (o.ok i n)) rfl ?_
  refine wN_end ?_
  exact And.intro trivial (Exists.intro _ (And.intro rfl ⟨rfl, hk⟩))
/-- isList of outlets -/
theorem list90_ok {sa : Option Addr} {n cap : Nat} {us : List Ou} {mi mn : Int} {bi bn : Nat} (ri : Rd H bi [iv mi]) (rn : Rd H bn [iv mn]) (hs : Sl H sa n cap (ouc us)) (hl : us.length = n) (hn2 : n ≤ 1000000) (hlo : lo ≤ H.next) :
    ∃ H', FnX Try.prog kn lo 90 [.slice sa n cap, iv 1, iv 4, .func (.func 91) #[] #[pt bi, pt bn]] H (.bool (decide (1 ≤ n) && decide (n ≤ 4) && us.all (fun o => Ou.ok o mi mn))) H' ∧ Keep H H' [] := by
  have key := fnX_low (kn := kn) (lo := lo) (H := H) (args := [.slice sa n cap, iv 1, iv 4, .func (.func 91) #[] #[pt bi, pt bn]]) (Q := fun w H' => w = .bool (decide (1 ≤ n) && decide (n ≤ 4) && us.all (fun o => Ou.ok o mi mn)) ∧ Keep H H' []) Try.func90 B90 N90 Z90 L90 (by simp) ?_
  · obtain ⟨w, H', h, rfl, q⟩ := key; exact ⟨H', h, q⟩
  have hk := Keep.refl H []
  have fs := hs.old
  have l_ri := ri.lt
  have l_rn := rn.lt
  refine wN_seq ?_
  refine wN_mov (v := .bool false) rfl ?_
  refine wN_end ?_
  refine wN_seq ?_
  refine wN_mov (v := .slice sa n cap) rfl ?_
  refine wN_len (m := n) rfl ?_
  refine wN_mov (v := iv 1) rfl ?_
  refine wN_b_lss (a := (n : Int)) (b := 1) rfl rfl ?_
  intro t1 g1; cases t1
  · have g1 : ¬ ((n : Int) < 1) := of_decide_eq_false g1
    refine wN_mov (v := .bool false) rfl ?_
    refine wN_g rfl (wN_mov (v := .slice sa n cap) rfl ?_)
    refine wN_g rfl (wN_len (m := n) rfl ?_)
    refine wN_g rfl (wN_mov (v := iv 4) rfl ?_)
    refine wN_g rfl (wN_b_gtr (a := (n : Int)) (b := 4) rfl rfl ?_)
    intro t2 g2; cases t2
    · have g2 : ¬ ((n : Int) > 4) := of_decide_eq_false g2
      refine wN_pur (v := .bool false) rfl rfl ?_
      refine wN_end ?_
      refine condF ?_
      first | refine wN_skip ?_ | skip
      refine wN_seq ?_
      refine wN_mov (v := .slice sa n cap) rfl ?_
      refine wN_len (m := n) rfl ?_
      refine wN_mov (v := iv 0) rfl ?_
      refine wN_end ?_
      refine loop_low (fn := Try.f90) E90_1 N90 L90x1 (fun i : Nat => [(3, .func (.func 91) #[] #[pt bi, pt bn]), (21, .slice sa n cap), (22, iv (n : Int)), (23, iv (i : Int))])
        (fun k i H' => i + k = n ∧ Keep H H' [] ∧ Sl H' sa n cap (ouc us) ∧ (us.take i).all (fun o => Ou.ok o mi mn) = true ∧ Rd H' bi [iv mi] ∧ Rd H' bn [iv mn]) n 0 ⟨by omega, hk, hs, rfl, ri, rn⟩ ⟨rfl, rfl, rfl, rfl, trivial⟩ ?_
      rintro k i L1 ⟨hik, hk, hs, hall, ri, rn⟩
      have mki := hk.1
      have fs := hs.old
      have l_ri := ri.lt
      have l_rn := rn.lt
      refine wN_seq ?_
      refine wN_c_lss (a := (i : Int)) (b := (n : Int)) rfl rfl ?_
      refine wN_end ?_
      refine And.intro (fun q3 => ?_) (fun q3 => ?_)
      · have q3 : (i : Int) < (n : Int) := of_decide_eq_true q3
        have hi : i < n := by omega
        obtain ⟨x, hx⟩ := get_some (l := us) (i := i) (by omega)
        have hst := all_step (f := (fun o => Ou.ok o mi mn)) hx
        rcases id hs with ⟨_, h0, _⟩ | ⟨sb, esb, hsd, _⟩
        · omega
        have lsb := hsd.lt
        first | refine wN_skip ?_ | skip
        refine wN_seq ?_
        refine wN_mov (v := iv (i : Int)) rfl ?_
        refine wN_idx (b := sb) (o := 0) (k := i) (j := (i : Int)) (by rw [← esb]; rfl) rfl rfl hi ?_
        refine wN_lda (b := sb) (o := 0 + i * 5) rfl hsd (ouc_row hx) ?_
        refine wN_alc ?_
        intro H1 kH1 nH1 c1
        have c1 : Cl H1 L1.next [iv 0, iv 0, iv 0, iv 0, iv 0] := c1
        have mH1 := kH1.1
        have hk := hk.trans kH1
        have hs := kH1.sl0 hs
        have ri := kH1.rd ri (by simp)
        have rn := kH1.rd rn (by simp)
        have hsd := kH1.rd hsd (by simp)
        refine wN_mov (v := iv (i : Int)) rfl ?_
        refine wN_sta (b := L1.next) (o := 0) rfl rfl c1 (by omega) rfl rfl (by simp) ?_
        intro H2 kH2 nH2 sH2
        have mH2 := kH2.1
        have hk := hk.new kH2 (fun b hb => by simp at hb ⊢; omega)
        have hs := kH2.sl hs (fun b e => by have := fs b e; first | (simp; done) | (simp; omega))
        have ri := kH2.rd ri (by first | (simp; done) | (simp; omega))
        have rn := kH2.rd rn (by first | (simp; done) | (simp; omega))
        have hsd := kH2.rd hsd (by first | (simp; done) | (simp; omega))
        have c1 : Cl H2 L1.next [iv x.to, iv x.m, iv x.s, iv x.a, iv x.c] := sH2
        refine wN_end ?_
        refine wN_seq ?_
        refine wN_mov (v := .func (.func 91) #[] #[pt bi, pt bn]) rfl ?_
        refine wN_mov (v := iv (i : Int)) rfl ?_
        refine wN_lda (b := L1.next) (o := 0) rfl c1.rd (show row 5 _ _ = some [iv x.to, iv x.m, iv x.s, iv x.a, iv x.c] from rfl) ?_
        obtain ⟨H3, fH3, kH3⟩ := clos91_ok (kn := kn) (lo := lo) (H := H2) (o := x) (k := (i : Int)) (i := mi) (n := mn) (by omega) ri rn
        have mH3 := kH3.1
        have hk := hk.trans kH3
        have hs := kH3.sl0 hs
        have ri := kH3.rd ri (by simp)
        have rn := kH3.rd rn (by simp)
        have hsd := kH3.rd hsd (by simp)
        have c1 := kH3.cl c1 (by simp)
        cases hb : (fun o => Ou.ok o mi mn) x
        · rw [show Ou.ok x mi mn = false from hb] at fH3
          refine wN_callf (vs := [iv (i : Int), .agg (Ou.f x).toArray]) rfl (callX_func rfl (by simpa using fH3)) ?_
          refine wN_pur (v := .bool true) rfl rfl ?_
          refine wN_end ?_
          refine condT ?_
          refine wN_seq ?_
          refine wN_mov (v := .bool false) rfl ?_
          refine wN_end ?_
          exact And.intro trivial (Exists.intro _ (And.intro rfl ⟨congrArg Value.bool (show false = (decide (1 ≤ n) && decide (n ≤ 4) && us.all (fun o => Ou.ok o mi mn)) from (by symm; rw [all_fail hx hb]; simp)), hk⟩))
        · rw [show Ou.ok x mi mn = true from hb] at fH3
          refine wN_callf (vs := [iv (i : Int), .agg (Ou.f x).toArray]) rfl (callX_func rfl (by simpa using fH3)) ?_
          refine wN_pur (v := .bool false) rfl rfl ?_
          refine wN_end ?_
          refine condF ?_
          first | refine wN_skip ?_ | skip
          first | refine wN_reg ?_ | refine wN_blk ?_ | refine wN_bseq ?_ | (refine wOps_nil ?_; refine wN_reg ?_)
          refine wN_add (a := (i : Int)) (b := 1) rfl rfl ⟨by omega, by omega⟩ ?_
          refine wN_mov (v := iv ((i : Int) + 1)) rfl ?_
          refine wN_end ?_
          exact ⟨k - 1, i + 1, by omega, ⟨by omega, hk, hs, by rw [hst, hall, Bool.true_and]; exact hb, ri, rn⟩, rfl, rfl, rfl, rfl, trivial⟩
      · have q3 : ¬ ((i : Int) < (n : Int)) := of_decide_eq_false q3
        refine wN_seq ?_
        refine wN_mov (v := .bool true) rfl ?_
        refine wN_end ?_
        exact And.intro trivial (Exists.intro _ (And.intro rfl ⟨congrArg Value.bool (show true = (decide (1 ≤ n) && decide (n ≤ 4) && us.all (fun o => Ou.ok o mi mn)) from (by symm; rw [List.take_of_length_le (by omega)] at hall; rw [hall, decide_eq_true (by omega), decide_eq_true (by omega)]; rfl)), hk⟩))
    · have g2 : (n : Int) > 4 := of_decide_eq_true g2
      refine wN_pur (v := .bool true) rfl rfl ?_
      refine wN_end ?_
      refine condT ?_
      refine wN_seq ?_
      refine wN_mov (v := .bool false) rfl ?_
      refine wN_end ?_
      exact And.intro trivial (Exists.intro _ (And.intro rfl ⟨congrArg Value.bool (show false = (decide (1 ≤ n) && decide (n ≤ 4) && us.all (fun o => Ou.ok o mi mn)) from (by symm; simp; omega)), hk⟩))
  · have g1 : (n : Int) < 1 := of_decide_eq_true g1
    refine wN_mov (v := .bool true) rfl ?_
    refine wN_gs rfl ?_
    refine wN_gs rfl ?_
    refine wN_gs rfl ?_
    refine wN_gs rfl ?_
    refine wN_pur (v := .bool true) rfl rfl ?_
    refine wN_end ?_
    refine condT ?_
    refine wN_seq ?_
    refine wN_mov (v := .bool false) rfl ?_
    refine wN_end ?_
    exact And.intro trivial (Exists.intro _ (And.intro rfl ⟨congrArg Value.bool (show false = (decide (1 ≤ n) && decide (n ≤ 4) && us.all (fun o => Ou.ok o mi mn)) from (by symm; simp; omega)), hk⟩))
/-- validMachine -/
theorem vmachine_ok {x : Mc} {i m : Nat} (hs : Sl H x.ra x.n x.cap (ouc x.l)) (hl : x.l.length = x.n) (hf : ∀ b, x.ra = some ⟨b, 0, none⟩ → Fy H b (ouc x.l)) (hn2 : x.n ≤ 1000000) (hlo : lo ≤ H.next) : ∃ H', FnX Try.prog kn lo 65 [.agg (Mc.f x).toArray, iv (i : Int), iv (m : Int)] H (.bool (mok x.l i m)) H' ∧ Keep H H' [] := by
  have key := fnX_low (kn := kn) (lo := lo) (H := H) (args := [.agg (Mc.f x).toArray, iv (i : Int), iv (m : Int)]) (Q := fun w H' => w = .bool (mok x.l i m) ∧ Keep H H' []) Try.func65 B65 N65 Z65 L65 (by simp) ?_
  · obtain ⟨w, H', h, rfl, q⟩ := key; exact ⟨H', h, q⟩
  have hk := Keep.refl H []
  have fs : ∀ b, x.ra = some ⟨b, 0, none⟩ → b < H.next := hs.old
  refine wN_seq ?_
  refine wN_box (v := .agg (Mc.f x).toArray) rfl ?_
  intro H1 kH1 nH1 c1
  have c1 : Cl H1 H.next [.slice x.ra x.n x.cap] := c1
  have mH1 := kH1.1
  have hk := hk.trans kH1
  have hs := kH1.sl0 hs
  have hf := fun b e => kH1.fy (hf b e) (by simp)
  refine wN_box (v := iv (i : Int)) rfl ?_
  intro H2 kH2 nH2 c2
  have c2 : Cl H2 H1.next [iv (i : Int)] := c2
  have mH2 := kH2.1
  have hk := hk.trans kH2
  have hs := kH2.sl0 hs
  have hf := fun b e => kH2.fy (hf b e) (by simp)
  have c1 := kH2.cl c1 (by simp)
  refine wN_box (v := iv (m : Int)) rfl ?_
  intro H3 kH3 nH3 c3
  have c3 : Cl H3 H2.next [iv (m : Int)] := c3
  have mH3 := kH3.1
  have hk := hk.trans kH3
  have hs := kH3.sl0 hs
  have hf := fun b e => kH3.fy (hf b e) (by simp)
  have c1 := kH3.cl c1 (by simp)
  have c2 := kH3.cl c2 (by simp)
  refine wN_mov (v := .bool false) rfl ?_
  refine wN_end ?_
  refine wN_seq ?_
  refine wN_addo (b := H.next) (o := 0) rfl ?_
  refine wN_ld (b := H.next) (o := 0) (v := .slice x.ra x.n x.cap) rfl c1.rd rfl ?_
  refine wN_pur (v := .func (.func 91) #[] #[pt H1.next, pt H2.next]) rfl (by kernel_rfl) ?_
  obtain ⟨H4, fH4, kH4⟩ := list90_ok (kn := kn) (lo := lo) (H := H3) (us := x.l) (mi := (i : Int)) (mn := (m : Int)) (bi := H1.next) (bn := H2.next) c2.rd c3.rd hs hl hn2 (by omega)
  have mH4 := kH4.1
  have hk := hk.trans kH4
  have hs := kH4.sl0 hs
  have hf := fun b e => kH4.fy (hf b e) (by simp)
  have c1 := kH4.cl c1 (by simp)
  have c2 := kH4.cl c2 (by simp)
  have c3 := kH4.cl c3 (by simp)
  cases hb : (decide (1 ≤ x.n) && decide (x.n ≤ 4) && x.l.all (fun o => Ou.ok o (i : Int) (m : Int)))
  · rw [hb] at fH4
    refine wN_callf (vs := [.slice x.ra x.n x.cap, iv 1, iv 4, .func (.func 91) #[] #[pt H1.next, pt H2.next]]) rfl (callX_args fH4) ?_
    refine wN_pur (v := .bool true) rfl rfl ?_
    refine wN_end ?_
    refine condT ?_
    refine wN_seq ?_
    refine wN_mov (v := .bool false) rfl ?_
    refine wN_end ?_
    exact And.intro trivial (Exists.intro _ (And.intro rfl ⟨congrArg Value.bool (show false = mok x.l i m from (by
      symm
      unfold mok; rw [hl, hb]; rfl)), hk⟩))
  · rw [hb] at fH4
    refine wN_callf (vs := [.slice x.ra x.n x.cap, iv 1, iv 4, .func (.func 91) #[] #[pt H1.next, pt H2.next]]) rfl (callX_args fH4) ?_
    simp only [Bool.and_eq_true, decide_eq_true_eq] at hb
    obtain ⟨⟨hb1, hb4⟩, hal⟩ := hb
    refine wN_pur (v := .bool false) rfl rfl ?_
    refine wN_end ?_
    refine condF ?_
    first | refine wN_skip ?_ | skip
    refine wN_seq ?_
    refine wN_pur (v := .agg #[iv 0, iv 0, iv 0, iv 0]) rfl (by kernel_rfl) ?_
    refine wN_alc ?_
    intro H5 kH5 nH5 c5
    have c5 : Cl H5 H4.next [iv 0, iv 0, iv 0, iv 0] := c5
    have mH5 := kH5.1
    have hk := hk.trans kH5
    have hs := kH5.sl0 hs
    have hf := fun b e => kH5.fy (hf b e) (by simp)
    have c1 := kH5.cl c1 (by simp)
    have c2 := kH5.cl c2 (by simp)
    have c3 := kH5.cl c3 (by simp)
    refine wN_sta (b := H4.next) (o := 0) rfl rfl c5 (by omega) rfl rfl (by simp) ?_
    intro H6 kH6 nH6 sH6
    have mH6 := kH6.1
    have hk := hk.new kH6 (fun b hb => by simp at hb ⊢; omega)
    have hs := kH6.sl hs (fun b e => by have := fs b e; first | (simp; done) | (simp; omega))
    have hf := fun b e => kH6.fy (hf b e) (by have := fs b e; simp; omega)
    have c1 := kH6.cl c1 (by first | (simp; done) | (simp; omega))
    have c2 := kH6.cl c2 (by first | (simp; done) | (simp; omega))
    have c3 := kH6.cl c3 (by first | (simp; done) | (simp; omega))
    have c5 : Cl H6 H4.next [iv 0, iv 0, iv 0, iv 0] := sH6
    refine wN_end ?_
    refine wN_seq ?_
    refine wN_addo (b := H.next) (o := 0) rfl ?_
    refine wN_ld (b := H.next) (o := 0) (v := .slice x.ra x.n x.cap) rfl c1.rd rfl ?_
    refine wN_addo (b := H.next) (o := 0) rfl ?_
    refine wN_ld (b := H.next) (o := 0) (v := .slice x.ra x.n x.cap) rfl c1.rd rfl ?_
    refine wN_len (m := x.n) rfl ?_
    refine wN_sub (a := (x.n : Int)) (b := 1) rfl rfl ⟨by omega, by omega⟩ ?_
    obtain ⟨kdu, eu, bu⟩ := heap_upto (lo := lo) (k := x.n - 1) hs hf (by omega)
    refine wN_memh (k := kdu) rfl (by kernel_rfl) (eu _ _ _ _ _ _ _ rfl (show evS _ _ = some (iv ((x.n - 1 : Nat) : Int)) from (by rw [show ((x.n - 1 : Nat) : Int) = (x.n : Int) - 1 by omega]; rfl))) bu ?_
    have hu : Sl H6 x.ra (x.n - 1) x.cap (ouc x.l) := by
      rcases id hs with ⟨q1, q2, q3, q4⟩ | ⟨b, q1, q2, q3⟩
      · exact .inl ⟨q1, by omega, q3, q4⟩
      · exact .inr ⟨b, q1, q2, by omega⟩
    refine wN_len (m := (x.n - 1)) rfl ?_
    refine wN_mov (v := iv 0) rfl ?_
    refine wN_end ?_
    refine loop_low (fn := Try.f65) E65_1 N65 L65x1 (fun k : Nat => [(7, pt H4.next), (22, .slice x.ra (x.n - 1) x.cap), (23, iv ((x.n - 1 : Nat) : Int)), (24, iv (k : Int))])
      (fun d k H' => k + d = x.n - 1 ∧ Keep H H' [] ∧ H6.next ≤ H'.next ∧ Sl H' x.ra (x.n - 1) x.cap (ouc x.l) ∧ Cl H' H4.next (qc (givQ x.l k))) (x.n - 1) 0 ⟨by omega, hk, Nat.le_refl _, hu, c5⟩ ⟨rfl, rfl, rfl, rfl, trivial⟩ ?_
    rintro d k L1 ⟨hkd, hk, hnx, hu, cg⟩
    have mki := hk.1
    refine wN_seq ?_
    refine wN_c_lss (a := (k : Int)) (b := ((x.n - 1 : Nat) : Int)) rfl rfl ?_
    refine wN_end ?_
    refine And.intro (fun q1 => ?_) (fun q1 => ?_)
    · have q1 : (k : Int) < ((x.n - 1 : Nat) : Int) := of_decide_eq_true q1
      have hi : k < x.n - 1 := by omega
      obtain ⟨y, hy⟩ := get_some (l := x.l) (i := k) (by omega)
      rcases id hu with ⟨_, h0, _⟩ | ⟨sb, esb, hsd, _⟩
      · omega
      have g1 := giv_in hal k (by omega)
      have g2 := Ou.w_in hal hy
      have lsb := fs sb esb
      first | refine wN_skip ?_ | skip
      refine wN_seq ?_
      refine wN_idx (b := sb) (o := 0) (k := k) (j := (k : Int)) (by rw [← esb]; rfl) rfl rfl hi ?_
      refine wN_lda (b := sb) (o := 0 + k * 5) rfl hsd (ouc_row hy) ?_
      refine wN_alc ?_
      intro H7 kH7 nH7 c7
      have c7 : Cl H7 L1.next [iv 0, iv 0, iv 0, iv 0, iv 0] := c7
      have mH7 := kH7.1
      have hk := hk.trans kH7
      have hu := kH7.sl0 hu
      have cg := kH7.cl cg (by simp)
      have hsd := kH7.rd hsd (by simp)
      refine wN_sta (b := L1.next) (o := 0) rfl rfl c7 (by omega) rfl rfl (by simp) ?_
      intro H8 kH8 nH8 sH8
      have mH8 := kH8.1
      have hk := hk.new kH8 (fun b hb => by simp at hb ⊢; omega)
      have hu := kH8.sl hu (fun b e => by have := fs b e; first | (simp; done) | (simp; omega))
      have cg := kH8.cl cg (by first | (simp; done) | (simp; omega))
      have hsd := kH8.rd hsd (by first | (simp; done) | (simp; omega))
      have c7 : Cl H8 L1.next [iv y.to, iv y.m, iv y.s, iv y.a, iv y.c] := sH8
      refine wN_end ?_
      first | refine wD_dreg ?_ | (refine wOps_nil ?_; refine wD_dreg ?_)
      refine wD_lda (b := H4.next) (o := 0) rfl cg.rd (show row 4 (qc (givQ x.l k)) 0 = some (qc (givQ x.l k)) from rfl) ?_
      refine wD_lda (b := L1.next) (o := 0) rfl c7.rd (show row 5 _ _ = some [iv y.to, iv y.m, iv y.s, iv y.a, iv y.c] from rfl) ?_
      obtain ⟨H9, fH9, kH9⟩ := thou_ok (kn := kn) (lo := H8.next) (H := H8) (o := y) (Nat.le_refl _)
      refine wD_callh (vs := [.agg (Ou.f y).toArray]) rfl rfl (callX_args fH9) ?_
      have mH9 := kH9.1
      have hk := hk.trans kH9
      have hu := kH9.sl0 hu
      have cg := kH9.cl cg (by simp)
      have hsd := kH9.rd hsd (by simp)
      have c7 := kH9.cl c7 (by simp)
      obtain ⟨H10, fH10, kH10⟩ := plus_ok (kn := kn) (lo := lo) (H := H9) (p := givQ x.l k) (q := y.w) (by omega) (fun j hj => by have := g1 j hj; have := g2 j hj; show InR (giv x.l j k + y.w j); exact ⟨by omega, by omega⟩)
      refine wD_callf (vs := [.agg (qc (givQ x.l k)).toArray, .agg (qc y.w).toArray]) rfl (callX_args fH10) ?_
      have mH10 := kH10.1
      have hk := hk.trans kH10
      have hu := kH10.sl0 hu
      have cg := kH10.cl cg (by simp)
      have hsd := kH10.rd hsd (by simp)
      have c7 := kH10.cl c7 (by simp)
      refine wD_sta (b := H4.next) (o := 0) (v := .agg (qc (addQ (givQ x.l k) y.w)).toArray) rfl rfl cg (by omega) rfl rfl (by simp) ?_
      intro H11 kH11 nH11 sH11
      have mH11 := kH11.1
      have hk := hk.new kH11 (fun b hb => by simp at hb ⊢; omega)
      have hu := kH11.sl hu (fun b e => by have := fs b e; first | (simp; done) | (simp; omega))
      have hsd := kH11.rd hsd (by first | (simp; done) | (simp; omega))
      have c7 := kH11.cl c7 (by first | (simp; done) | (simp; omega))
      have cg : Cl H11 H4.next (qc (addQ (givQ x.l k) y.w)) := sH11
      rw [giv_q hy] at cg
      refine wD_end (by repeat' first | exact True.intro | exact (fun h => h) | refine And.intro ?_ ?_ | (intro h; have h : (_ : Nat) = _ := h; omega)) ?_
      first | refine wN_reg ?_ | refine wN_blk ?_ | refine wN_bseq ?_ | (refine wOps_nil ?_; refine wN_reg ?_)
      refine wN_add (a := (k : Int)) (b := 1) rfl rfl ⟨by omega, by omega⟩ ?_
      refine wN_mov (v := iv ((k : Int) + 1)) rfl ?_
      refine wN_end ?_
      exact ⟨d - 1, k + 1, by omega, ⟨by omega, hk, by omega, hu, cg⟩, rfl, rfl, rfl, rfl, trivial⟩
    · have q1 : ¬ ((k : Int) < ((x.n - 1 : Nat) : Int)) := of_decide_eq_false q1
      refine wN_seq ?_
      refine wN_lda (b := H4.next) (o := 0) rfl cg.rd (show row 4 (qc (givQ x.l k)) 0 = some (qc (givQ x.l k)) from rfl) ?_
      refine wN_callB rfl (within_ok (p := givQ x.l k) (m := 1000)) ?_
      intro tH12 H12 hH12 kH12
      have mH12 := kH12.1
      have hk := hk.trans kH12
      have hu := kH12.sl0 hu
      have cg := kH12.cl cg (by simp)
      cases tH12
      · have hw : wiQ (givQ x.l k) 1000 = false := hH12
        refine wN_mov (v := .bool false) rfl ?_
        refine wN_end ?_
        exact And.intro trivial (Exists.intro _ (And.intro rfl ⟨congrArg Value.bool (show false = mok x.l i m from (by
          symm
          obtain rfl : k = x.n - 1 := by omega
          unfold mok; rw [hl, hal, decide_eq_true hb1, decide_eq_true hb4, hw]; rfl)), hk⟩))
      · have hw : wiQ (givQ x.l k) 1000 = true := hH12
        refine wN_mov (v := .bool true) rfl ?_
        refine wN_end ?_
        exact And.intro trivial (Exists.intro _ (And.intro rfl ⟨congrArg Value.bool (show true = mok x.l i m from (by
          symm
          obtain rfl : k = x.n - 1 := by omega
          unfold mok; rw [hl, hal, decide_eq_true hb1, decide_eq_true hb4, hw]; rfl)), hk⟩))
end
end Go.Ax


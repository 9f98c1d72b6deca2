import Derived.Test.YtfdapdcfnognfaaAxW4
import Derived.Test.YtfdapdcfnognfaaChecked
set_option linter.all false
/-! What 'low' makes of the functions (written by program). -/
namespace Go.Ax
open Go Go.RowKit Go.Proofs
theorem N11 : Try.f11.ntmps = 89 := by kernel_rfl
theorem Z11 : Try.f11.results.toList = ((List.toArray [(.tmp 8)]) : Array ResultVar).toList := by kernel_rfl
theorem B11 : Try.f11.body = some (at_ Try.f11 []) := by kernel_rfl
noncomputable def R11 : RC := (.seq (.reg [⟨(some 4), none, (.box 25 (.tmp 0))⟩, ⟨(some 6), none, (.box 30 (.tmp 2))⟩, ⟨(some 8), none, (.mov (.const (.bool false)))⟩])
  (.seq (.seq (.reg [⟨(some 18), none, (.lda (.tmp 4) 2)⟩, ⟨(some 19), none, (.mov (.tmp 1))⟩, ⟨(some 20), none, (.lda (.tmp 6) 3)⟩, ⟨(some 21), none, (.mem ⟨(some 21), (.buildSlice 47 1 (List.toArray [(0, (.tmp 20))])), 47, "", (List.toArray []), none⟩)⟩, ⟨(some 22), none, (.call ⟨(.value (.func 14)), (List.toArray [(.tmp 18), (.tmp 19), (.tmp 21)]), (List.toArray [25, 26, 47])⟩ true)⟩])
  (.cond (.tmp 22) (.seq (.reg [⟨(some 23), none, (.call ⟨(.value (.func 15)), (List.toArray []), (List.toArray [])⟩ true)⟩, ⟨(some 8), none, (.mov (.tmp 23))⟩])
  .ret)
  .skip))
  (.seq (.reg [⟨(some 25), none, (.lda (.tmp 4) 2)⟩, ⟨(some 26), none, (.mov (.tmp 1))⟩, ⟨(some 27), none, (.lda (.tmp 6) 3)⟩, ⟨(some 28), none, (.call ⟨(.value (.func 18)), (List.toArray [(.tmp 25), (.tmp 26), (.tmp 27)]), (List.toArray [25, 26, 30])⟩ true)⟩, ⟨(some 24), none, (.mov (.tmp 28))⟩, ⟨(some 29), none, (.pur ⟨(some 29), (.extract (.tmp 24) 0), 4, "", (List.toArray []), none⟩)⟩, ⟨(some 30), none, (.pur ⟨(some 30), (.extract (.tmp 24) 1), 38, "", (List.toArray []), none⟩)⟩, ⟨(some 9), none, (.mov (.tmp 29))⟩, ⟨(some 10), none, (.mov (.tmp 30))⟩])
  (.seq (.seq (.reg [⟨(some 31), none, (.mov (.tmp 10))⟩, ⟨(some 32), none, (.cmp .neq (.tmp 31) (.const (.int .i64 0)))⟩])
  (.cond (.tmp 32) (.seq (.reg [⟨(some 33), none, (.mov (.tmp 9))⟩, ⟨(some 34), none, (.pur ⟨(some 34), (.unOp .not 4 (.tmp 33)), 4, "", (List.toArray []), none⟩)⟩, ⟨(some 35), none, (.mov (.tmp 34))⟩, ⟨(some 36), (some (35, true)), (.call ⟨(.value (.func 15)), (List.toArray []), (List.toArray [])⟩ true)⟩, ⟨(some 37), none, (.pur ⟨(some 37), (.pick (.tmp 35) (.tmp 36) (.const (.bool false))), 4, "", (List.toArray []), none⟩)⟩, ⟨(some 8), none, (.mov (.tmp 37))⟩])
  .ret)
  .skip))
  (.seq (.seq (.reg [⟨(some 38), none, (.lda (.tmp 4) 2)⟩, ⟨(some 39), none, (.mov (.tmp 1))⟩, ⟨(some 40), none, (.call ⟨(.value (.func 33)), (List.toArray [(.tmp 38), (.tmp 39)]), (List.toArray [25, 26])⟩ true)⟩, ⟨(some 41), none, (.pur ⟨(some 41), (.unOp .not 4 (.tmp 40)), 4, "", (List.toArray []), none⟩)⟩])
  (.cond (.tmp 41) (.seq (.reg [⟨(some 8), none, (.mov (.const (.bool false)))⟩])
  .ret)
  .skip))
  (.seq (.reg [⟨(some 11), none, (.mov (.const (.slice none 0 0)))⟩])
  (.seq (.seq (.reg [⟨(some 42), none, (.mov (.tmp 3))⟩, ⟨(some 43), none, (.pur ⟨(some 43), (.convert 5 3 (.tmp 42)), 3, "", (List.toArray []), none⟩)⟩, ⟨(some 44), none, (.ari .rem (.tmp 43) (.const (.int .i64 200)))⟩, ⟨(some 45), none, (.ari .add (.const (.int .i64 1)) (.tmp 44))⟩, ⟨(some 46), none, (.mov (.const (.int .i64 0)))⟩])
  (.block 0 (.other (at_ Try.f11 [1, 1, 1, 1, 1, 1, 0, 1, 0]))))
  (.seq (.reg [⟨(some 12), none, (.mov (.const (.slice none 0 0)))⟩])
  (.seq (.seq (.reg [⟨(some 53), none, (.mov (.tmp 1))⟩, ⟨(some 54), none, (.len (.tmp 53))⟩, ⟨(some 55), none, (.mov (.const (.int .i64 0)))⟩])
  (.block 2 (.other (at_ Try.f11 [1, 1, 1, 1, 1, 1, 1, 1, 0, 1, 0]))))
  (.seq (.reg [⟨(some 66), none, (.lda (.tmp 4) 2)⟩, ⟨(some 67), none, (.mov (.tmp 1))⟩, ⟨(some 68), none, (.mov (.tmp 11))⟩, ⟨(some 69), none, (.mov (.tmp 12))⟩, ⟨(some 70), none, (.call ⟨(.value (.func 27)), (List.toArray [(.tmp 66), (.tmp 67), (.tmp 68), (.tmp 69)]), (List.toArray [25, 26, 47, 33])⟩ true)⟩, ⟨(some 65), none, (.mov (.tmp 70))⟩, ⟨(some 71), none, (.pur ⟨(some 71), (.extract (.tmp 65) 0), 3, "", (List.toArray []), none⟩)⟩, ⟨(some 72), none, (.pur ⟨(some 72), (.extract (.tmp 65) 1), 3, "", (List.toArray []), none⟩)⟩, ⟨(some 73), none, (.pur ⟨(some 73), (.extract (.tmp 65) 2), 38, "", (List.toArray []), none⟩)⟩, ⟨(some 15), none, (.mov (.tmp 71))⟩, ⟨(some 16), none, (.mov (.tmp 72))⟩, ⟨(some 17), none, (.mov (.tmp 73))⟩])
  (.seq (.seq (.reg [⟨(some 74), none, (.mov (.tmp 9))⟩])
  (.cond (.tmp 74) (.seq (.reg [⟨(some 75), none, (.mov (.tmp 17))⟩, ⟨(some 76), none, (.cmpb .eql (.tmp 75) (.const (.int .i64 4)))⟩, ⟨(some 77), none, (.mov (.tmp 76))⟩, ⟨(some 78), (some (77, true)), (.call ⟨(.value (.func 15)), (List.toArray []), (List.toArray [])⟩ true)⟩, ⟨(some 79), none, (.pur ⟨(some 79), (.pick (.tmp 77) (.tmp 78) (.const (.bool false))), 4, "", (List.toArray []), none⟩)⟩, ⟨(some 8), none, (.mov (.tmp 79))⟩])
  .ret)
  .skip))
  (.seq (.reg [⟨(some 80), none, (.mov (.tmp 17))⟩, ⟨(some 81), none, (.cmpb .eql (.tmp 80) (.const (.int .i64 0)))⟩, ⟨(some 82), none, (.mov (.tmp 81))⟩, ⟨(some 83), (some (82, true)), (.mov (.tmp 15))⟩, ⟨(some 84), (some (82, true)), (.cmpb .eql (.tmp 83) (.const (.int .i64 0)))⟩, ⟨(some 85), none, (.pur ⟨(some 85), (.pick (.tmp 82) (.tmp 84) (.const (.bool false))), 4, "", (List.toArray []), none⟩)⟩, ⟨(some 86), none, (.mov (.tmp 85))⟩, ⟨(some 87), (some (86, true)), (.call ⟨(.value (.func 15)), (List.toArray []), (List.toArray [])⟩ true)⟩, ⟨(some 88), none, (.pur ⟨(some 88), (.pick (.tmp 86) (.tmp 87) (.const (.bool false))), 4, "", (List.toArray []), none⟩)⟩, ⟨(some 8), none, (.mov (.tmp 88))⟩])
  .ret))))))))))))
theorem L11 : low Try.prog Try.f11.ntmps (at_ Try.f11 []) = some R11 := by kernel_rfl
theorem E11_1 : at_ Try.f11 [1, 1, 1, 1, 1, 1, 0, 1, 0] = .loop (at_ Try.f11 [1, 1, 1, 1, 1, 1, 0, 1, 0, 0]) := by kernel_rfl
noncomputable def R11x1 : RC := (.seq (.reg [⟨(some 47), none, (.cmp .lss (.tmp 46) (.tmp 45))⟩])
  (.seq (.cond (.tmp 47) .skip
  (.exit 0))
  (.seq (.block 1 (.reg [⟨(some 48), none, (.mov (.tmp 11))⟩, ⟨(some 49), none, (.lda (.tmp 6) 3)⟩, ⟨(some 50), none, (.mem ⟨(some 50), (.buildSlice 47 1 (List.toArray [(0, (.tmp 49))])), 47, "", (List.toArray []), none⟩)⟩, ⟨(some 51), none, (.mem ⟨(some 51), (.call ⟨(.builtin .append), (List.toArray [(.tmp 48), (.tmp 50)]), (List.toArray [47, 47])⟩), 47, "", (List.toArray []), none⟩)⟩, ⟨(some 11), none, (.mov (.tmp 51))⟩]))
  (.reg [⟨(some 52), none, (.ari .add (.tmp 46) (.const (.int .i64 1)))⟩, ⟨(some 46), none, (.mov (.tmp 52))⟩]))))
theorem L11x1 : low Try.prog Try.f11.ntmps (at_ Try.f11 [1, 1, 1, 1, 1, 1, 0, 1, 0, 0]) = some R11x1 := by kernel_rfl
theorem E11_2 : at_ Try.f11 [1, 1, 1, 1, 1, 1, 1, 1, 0, 1, 0] = .loop (at_ Try.f11 [1, 1, 1, 1, 1, 1, 1, 1, 0, 1, 0, 0]) := by kernel_rfl
noncomputable def R11x2 : RC := (.seq (.reg [⟨(some 56), none, (.cmp .lss (.tmp 55) (.tmp 54))⟩])
  (.seq (.cond (.tmp 56) .skip
  (.exit 2))
  (.seq (.block 3 (.seq (.reg [⟨(some 57), none, (.idx (.tmp 53) (.tmp 55) 2)⟩, ⟨(some 58), none, (.lda (.tmp 57) 2)⟩, ⟨(some 14), none, (.alc 35 [(.int .i64 0), (.int .i64 0)])⟩, ⟨none, none, (.sta (.tmp 14) (.tmp 58) 2)⟩])
  (.reg [⟨(some 59), none, (.mov (.tmp 12))⟩, ⟨(some 60), none, (.addo (.tmp 14) 0)⟩, ⟨(some 61), none, (.ld (.tmp 60) 1)⟩, ⟨(some 62), none, (.mem ⟨(some 62), (.buildSlice 33 1 (List.toArray [(0, (.tmp 61))])), 33, "", (List.toArray []), none⟩)⟩, ⟨(some 63), none, (.mem ⟨(some 63), (.call ⟨(.builtin .append), (List.toArray [(.tmp 59), (.tmp 62)]), (List.toArray [33, 33])⟩), 33, "", (List.toArray []), none⟩)⟩, ⟨(some 12), none, (.mov (.tmp 63))⟩])))
  (.reg [⟨(some 64), none, (.ari .add (.tmp 55) (.const (.int .i64 1)))⟩, ⟨(some 55), none, (.mov (.tmp 64))⟩]))))
theorem L11x2 : low Try.prog Try.f11.ntmps (at_ Try.f11 [1, 1, 1, 1, 1, 1, 1, 1, 0, 1, 0, 0]) = some R11x2 := by kernel_rfl
theorem N14 : Try.f14.ntmps = 47 := by kernel_rfl
theorem Z14 : Try.f14.results.toList = ((List.toArray [(.tmp 6)]) : Array ResultVar).toList := by kernel_rfl
theorem B14 : Try.f14.body = some (at_ Try.f14 []) := by kernel_rfl
noncomputable def R14 : RC := (.seq (.reg [⟨(some 3), none, (.box 25 (.tmp 0))⟩, ⟨(some 6), none, (.mov (.const (.bool false)))⟩])
  (.seq (.seq (.reg [⟨(some 9), none, (.addo (.tmp 3) 0)⟩, ⟨(some 10), none, (.ld (.tmp 9) 1)⟩, ⟨(some 11), none, (.len (.tmp 10))⟩, ⟨(some 12), none, (.cmpb .gtr (.tmp 11) (.const (.int .i64 20)))⟩, ⟨(some 13), none, (.mov (.tmp 12))⟩, ⟨(some 14), (some (13, false)), (.addo (.tmp 3) 1)⟩, ⟨(some 15), (some (13, false)), (.ld (.tmp 14) 1)⟩, ⟨(some 16), (some (13, false)), (.len (.tmp 15))⟩, ⟨(some 17), (some (13, false)), (.cmpb .gtr (.tmp 16) (.const (.int .i64 40)))⟩, ⟨(some 18), none, (.pur ⟨(some 18), (.pick (.tmp 13) (.const (.bool true)) (.tmp 17)), 4, "", (List.toArray []), none⟩)⟩, ⟨(some 19), none, (.mov (.tmp 18))⟩, ⟨(some 20), (some (19, false)), (.mov (.tmp 1))⟩, ⟨(some 21), (some (19, false)), (.len (.tmp 20))⟩, ⟨(some 22), (some (19, false)), (.cmpb .gtr (.tmp 21) (.const (.int .i64 20)))⟩, ⟨(some 23), none, (.pur ⟨(some 23), (.pick (.tmp 19) (.const (.bool true)) (.tmp 22)), 4, "", (List.toArray []), none⟩)⟩])
  (.cond (.tmp 23) (.seq (.reg [⟨(some 6), none, (.mov (.const (.bool true)))⟩])
  .ret)
  .skip))
  (.seq (.seq (.reg [⟨(some 24), none, (.mov (.tmp 2))⟩, ⟨(some 25), none, (.len (.tmp 24))⟩, ⟨(some 26), none, (.mov (.const (.int .i64 0)))⟩])
  (.block 0 (.other (at_ Try.f14 [1, 1, 0, 1, 0]))))
  (.seq (.reg [⟨(some 6), none, (.mov (.const (.bool false)))⟩])
  .ret))))
theorem L14 : low Try.prog Try.f14.ntmps (at_ Try.f14 []) = some R14 := by kernel_rfl
theorem E14_1 : at_ Try.f14 [1, 1, 0, 1, 0] = .loop (at_ Try.f14 [1, 1, 0, 1, 0, 0]) := by kernel_rfl
noncomputable def R14x1 : RC := (.seq (.reg [⟨(some 27), none, (.cmp .lss (.tmp 26) (.tmp 25))⟩])
  (.seq (.cond (.tmp 27) .skip
  (.exit 0))
  (.seq (.block 1 (.seq (.reg [⟨(some 28), none, (.idx (.tmp 24) (.tmp 26) 3)⟩, ⟨(some 29), none, (.lda (.tmp 28) 3)⟩, ⟨(some 8), none, (.alc 30 [(.slice none 0 0), (.slice none 0 0), (.slice none 0 0)])⟩, ⟨none, none, (.sta (.tmp 8) (.tmp 29) 3)⟩])
  (.seq (.reg [⟨(some 30), none, (.addo (.tmp 8) 0)⟩, ⟨(some 31), none, (.ld (.tmp 30) 1)⟩, ⟨(some 32), none, (.len (.tmp 31))⟩, ⟨(some 33), none, (.cmpb .gtr (.tmp 32) (.const (.int .i64 40)))⟩, ⟨(some 34), none, (.mov (.tmp 33))⟩, ⟨(some 35), (some (34, false)), (.addo (.tmp 8) 1)⟩, ⟨(some 36), (some (34, false)), (.ld (.tmp 35) 1)⟩, ⟨(some 37), (some (34, false)), (.len (.tmp 36))⟩, ⟨(some 38), (some (34, false)), (.cmpb .gtr (.tmp 37) (.const (.int .i64 20)))⟩, ⟨(some 39), none, (.pur ⟨(some 39), (.pick (.tmp 34) (.const (.bool true)) (.tmp 38)), 4, "", (List.toArray []), none⟩)⟩, ⟨(some 40), none, (.mov (.tmp 39))⟩, ⟨(some 41), (some (40, false)), (.addo (.tmp 8) 2)⟩, ⟨(some 42), (some (40, false)), (.ld (.tmp 41) 1)⟩, ⟨(some 43), (some (40, false)), (.len (.tmp 42))⟩, ⟨(some 44), (some (40, false)), (.cmpb .gtr (.tmp 43) (.const (.int .i64 40)))⟩, ⟨(some 45), none, (.pur ⟨(some 45), (.pick (.tmp 40) (.const (.bool true)) (.tmp 44)), 4, "", (List.toArray []), none⟩)⟩])
  (.cond (.tmp 45) (.seq (.reg [⟨(some 6), none, (.mov (.const (.bool true)))⟩])
  .ret)
  .skip))))
  (.reg [⟨(some 46), none, (.ari .add (.tmp 26) (.const (.int .i64 1)))⟩, ⟨(some 26), none, (.mov (.tmp 46))⟩]))))
theorem L14x1 : low Try.prog Try.f14.ntmps (at_ Try.f14 [1, 1, 0, 1, 0, 0]) = some R14x1 := by kernel_rfl
theorem N18 : Try.f18.ntmps = 48 := by kernel_rfl
theorem Z18 : Try.f18.results.toList = ((List.toArray [(.tmp 6), (.tmp 7)]) : Array ResultVar).toList := by kernel_rfl
theorem B18 : Try.f18.body = some (at_ Try.f18 []) := by kernel_rfl
noncomputable def R18 : RC := (.seq (.reg [⟨(some 3), none, (.box 25 (.tmp 0))⟩, ⟨(some 5), none, (.box 30 (.tmp 2))⟩, ⟨(some 6), none, (.mov (.const (.bool false)))⟩, ⟨(some 7), none, (.mov (.const (.int .i64 0)))⟩])
  (.seq (.seq (.reg [⟨(some 13), none, (.lda (.tmp 3) 2)⟩, ⟨(some 14), none, (.mov (.tmp 1))⟩, ⟨(some 15), none, (.lda (.tmp 5) 3)⟩, ⟨(some 16), none, (.mem ⟨(some 16), (.buildSlice 47 1 (List.toArray [(0, (.tmp 15))])), 47, "", (List.toArray []), none⟩)⟩, ⟨(some 17), none, (.call ⟨(.value (.func 44)), (List.toArray [(.tmp 13), (.tmp 14), (.tmp 16)]), (List.toArray [25, 26, 47])⟩ true)⟩, ⟨(some 8), none, (.mov (.tmp 17))⟩])
  (.seq (.reg [⟨(some 18), none, (.mov (.tmp 8))⟩, ⟨(some 19), none, (.cmp .neq (.tmp 18) (.const (.int .i64 0)))⟩])
  (.cond (.tmp 19) (.seq (.reg [⟨(some 20), none, (.mov (.tmp 8))⟩, ⟨(some 6), none, (.mov (.const (.bool false)))⟩, ⟨(some 7), none, (.mov (.tmp 20))⟩])
  .ret)
  .skip)))
  (.seq (.reg [⟨(some 21), none, (.lda (.tmp 3) 2)⟩, ⟨(some 22), none, (.mov (.tmp 1))⟩, ⟨(some 23), none, (.pur ⟨(some 23), (.build 101 (List.toArray [])), 101, "", (List.toArray []), none⟩)⟩, ⟨(some 24), none, (.pur ⟨(some 24), (.makeInterface 101 (.tmp 23)), 105, "", (List.toArray []), none⟩)⟩, ⟨(some 25), none, (.call ⟨(.value (.func 51)), (List.toArray [(.tmp 21), (.tmp 22), (.tmp 24)]), (List.toArray [25, 26, 105])⟩ true)⟩, ⟨(some 9), none, (.mov (.tmp 25))⟩])
  (.seq (.reg [⟨(some 26), none, (.mov (.tmp 9))⟩, ⟨(some 27), none, (.nilc (.tmp 26))⟩, ⟨(some 28), none, (.addo (.tmp 27) 0)⟩, ⟨(some 29), none, (.ld (.tmp 28) 1)⟩, ⟨(some 30), none, (.nilc (.tmp 29))⟩, ⟨(some 31), none, (.pur ⟨(some 31), (.makeFunc (.method "fenberry/chain.end") (List.toArray [(.tmp 30)]) (List.toArray [])), 103, "", (List.toArray []), none⟩)⟩, ⟨(some 32), none, (.mov (.tmp 1))⟩, ⟨(some 33), none, (.call ⟨(.value (.func 52)), (List.toArray [(.tmp 31), (.tmp 32)]), (List.toArray [103, 26])⟩ true)⟩, ⟨(some 10), none, (.mov (.tmp 33))⟩])
  (.seq (.reg [⟨(some 34), none, (.mov (.tmp 9))⟩, ⟨(some 35), none, (.lda (.tmp 5) 3)⟩, ⟨(some 36), none, (.call ⟨(.value (.func 53)), (List.toArray [(.tmp 34), (.tmp 35)]), (List.toArray [90, 30])⟩ true)⟩])
  (.seq (.reg [⟨(some 38), none, (.mov (.tmp 9))⟩, ⟨(some 39), none, (.nilc (.tmp 38))⟩, ⟨(some 40), none, (.addo (.tmp 39) 3)⟩, ⟨(some 41), none, (.ld (.tmp 40) 1)⟩, ⟨(some 42), none, (.mov (.tmp 10))⟩, ⟨(some 43), none, (.call ⟨(.value (.func 54)), (List.toArray [(.tmp 41), (.tmp 42)]), (List.toArray [33, 33])⟩ true)⟩, ⟨(some 37), none, (.mov (.tmp 43))⟩, ⟨(some 44), none, (.pur ⟨(some 44), (.extract (.tmp 37) 0), 3, "", (List.toArray []), none⟩)⟩, ⟨(some 45), none, (.pur ⟨(some 45), (.extract (.tmp 37) 1), 4, "", (List.toArray []), none⟩)⟩, ⟨(some 11), none, (.mov (.tmp 44))⟩, ⟨(some 12), none, (.mov (.tmp 45))⟩])
  (.seq (.reg [⟨(some 46), none, (.mov (.tmp 12))⟩, ⟨(some 47), none, (.pur ⟨(some 47), (.unOp .not 4 (.tmp 46)), 4, "", (List.toArray []), none⟩)⟩, ⟨(some 6), none, (.mov (.tmp 47))⟩, ⟨(some 7), none, (.mov (.const (.int .i64 0)))⟩])
  .ret)))))))
theorem L18 : low Try.prog Try.f18.ntmps (at_ Try.f18 []) = some R18 := by kernel_rfl
theorem N25 : Try.f25.ntmps = 33 := by kernel_rfl
theorem Z25 : Try.f25.results.toList = ((List.toArray [(.tmp 6), (.cell 7 37), (.tmp 8)]) : Array ResultVar).toList := by kernel_rfl
theorem B25 : Try.f25.body = some (at_ Try.f25 []) := by kernel_rfl
noncomputable def R25 : RC := (.seq (.reg [⟨(some 3), none, (.box 25 (.tmp 0))⟩, ⟨(some 6), none, (.mov (.const (.slice none 0 0)))⟩, ⟨(some 7), none, (.alc 37 [(.int .i64 0), (.int .i64 0), (.int .i64 0), (.int .i64 0), (.int .i64 0), (.int .i64 0), (.int .i64 0), (.int .i64 0)])⟩, ⟨(some 8), none, (.mov (.const (.int .i64 0)))⟩])
  (.seq (.seq (.reg [⟨(some 12), none, (.lda (.tmp 3) 2)⟩, ⟨(some 13), none, (.mov (.tmp 1))⟩, ⟨(some 14), none, (.mov (.tmp 2))⟩, ⟨(some 15), none, (.call ⟨(.value (.func 44)), (List.toArray [(.tmp 12), (.tmp 13), (.tmp 14)]), (List.toArray [25, 26, 47])⟩ true)⟩, ⟨(some 9), none, (.mov (.tmp 15))⟩])
  (.seq (.reg [⟨(some 16), none, (.mov (.tmp 9))⟩, ⟨(some 17), none, (.cmp .neq (.tmp 16) (.const (.int .i64 0)))⟩])
  (.cond (.tmp 17) (.seq (.reg [⟨(some 18), none, (.pur ⟨(some 18), (.build 37 (List.toArray [])), 37, "", (List.toArray []), none⟩)⟩, ⟨(some 19), none, (.mov (.tmp 9))⟩, ⟨(some 6), none, (.mov (.const (.slice none 0 0)))⟩, ⟨none, none, (.sta (.tmp 7) (.tmp 18) 8)⟩, ⟨(some 8), none, (.mov (.tmp 19))⟩])
  .ret)
  .skip)))
  (.seq (.reg [⟨(some 21), none, (.lda (.tmp 3) 2)⟩, ⟨(some 22), none, (.mov (.tmp 1))⟩, ⟨(some 23), none, (.mov (.tmp 2))⟩, ⟨(some 24), none, (.call ⟨(.value (.func 45)), (List.toArray [(.tmp 21), (.tmp 22), (.tmp 23)]), (List.toArray [25, 26, 47])⟩ true)⟩, ⟨(some 20), none, (.mov (.tmp 24))⟩, ⟨(some 25), none, (.pur ⟨(some 25), (.extract (.tmp 20) 0), 90, "", (List.toArray []), none⟩)⟩, ⟨(some 26), none, (.pur ⟨(some 26), (.extract (.tmp 20) 1), 90, "", (List.toArray []), none⟩)⟩, ⟨(some 10), none, (.mov (.tmp 25))⟩, ⟨(some 11), none, (.mov (.tmp 26))⟩])
  (.seq (.reg [⟨(some 27), none, (.mov (.tmp 10))⟩, ⟨(some 28), none, (.mov (.tmp 11))⟩, ⟨(some 29), none, (.call ⟨(.value (.func 46)), (List.toArray [(.tmp 27), (.tmp 28)]), (List.toArray [90, 90])⟩ true)⟩, ⟨(some 30), none, (.mov (.tmp 10))⟩, ⟨(some 31), none, (.mov (.tmp 11))⟩, ⟨(some 32), none, (.call ⟨(.value (.func 48)), (List.toArray [(.tmp 30), (.tmp 31)]), (List.toArray [90, 90])⟩ true)⟩, ⟨(some 6), none, (.mov (.tmp 29))⟩, ⟨none, none, (.sta (.tmp 7) (.tmp 32) 8)⟩, ⟨(some 8), none, (.mov (.const (.int .i64 0)))⟩])
  .ret))))
theorem L25 : low Try.prog Try.f25.ntmps (at_ Try.f25 []) = some R25 := by kernel_rfl
theorem N27 : Try.f27.ntmps = 52 := by kernel_rfl
theorem Z27 : Try.f27.results.toList = ((List.toArray [(.cell 8 3), (.cell 9 3), (.cell 10 38)]) : Array ResultVar).toList := by kernel_rfl
theorem B27 : Try.f27.body = some (at_ Try.f27 []) := by kernel_rfl
noncomputable def R27 : RC := (.seq (.reg [⟨(some 4), none, (.box 25 (.tmp 0))⟩, ⟨(some 7), none, (.box 33 (.tmp 3))⟩, ⟨(some 8), none, (.alc 3 [(.int .i64 0)])⟩, ⟨(some 9), none, (.alc 3 [(.int .i64 0)])⟩, ⟨(some 10), none, (.alc 38 [(.int .i64 0)])⟩])
  (.seq (.seq (.reg [⟨(some 17), none, (.lda (.tmp 4) 2)⟩, ⟨(some 18), none, (.mov (.tmp 1))⟩, ⟨(some 19), none, (.mov (.tmp 2))⟩, ⟨(some 20), none, (.call ⟨(.value (.func 44)), (List.toArray [(.tmp 17), (.tmp 18), (.tmp 19)]), (List.toArray [25, 26, 47])⟩ true)⟩, ⟨(some 11), none, (.mov (.tmp 20))⟩])
  (.seq (.reg [⟨(some 21), none, (.mov (.tmp 11))⟩, ⟨(some 22), none, (.cmp .neq (.tmp 21) (.const (.int .i64 0)))⟩])
  (.cond (.tmp 22) (.seq (.reg [⟨(some 23), none, (.mov (.tmp 11))⟩, ⟨none, none, (.st (.tmp 8) (.const (.int .i64 0)))⟩, ⟨none, none, (.st (.tmp 9) (.const (.int .i64 0)))⟩, ⟨none, none, (.st (.tmp 10) (.tmp 23))⟩])
  .ret)
  .skip)))
  (.seq (.seq (.reg [⟨(some 24), none, (.lda (.tmp 4) 2)⟩, ⟨(some 25), none, (.ld (.tmp 7) 1)⟩, ⟨(some 26), none, (.call ⟨(.value (.func 58)), (List.toArray [(.tmp 24), (.tmp 25)]), (List.toArray [25, 33])⟩ true)⟩, ⟨(some 27), none, (.pur ⟨(some 27), (.unOp .not 4 (.tmp 26)), 4, "", (List.toArray []), none⟩)⟩])
  (.cond (.tmp 27) (.seq (.reg [⟨none, none, (.st (.tmp 8) (.const (.int .i64 0)))⟩, ⟨none, none, (.st (.tmp 9) (.const (.int .i64 0)))⟩, ⟨none, none, (.st (.tmp 10) (.const (.int .i64 2)))⟩])
  .ret)
  .skip))
  (.seq (.reg [⟨(some 28), none, (.lda (.tmp 4) 2)⟩, ⟨(some 29), none, (.mov (.tmp 1))⟩, ⟨(some 30), none, (.pur ⟨(some 30), (.build 101 (List.toArray [])), 101, "", (List.toArray []), none⟩)⟩, ⟨(some 31), none, (.pur ⟨(some 31), (.makeInterface 101 (.tmp 30)), 105, "", (List.toArray []), none⟩)⟩, ⟨(some 32), none, (.call ⟨(.value (.func 51)), (List.toArray [(.tmp 28), (.tmp 29), (.tmp 31)]), (List.toArray [25, 26, 105])⟩ true)⟩, ⟨(some 12), none, (.alc 90 [(.pointer none)])⟩, ⟨none, none, (.st (.tmp 12) (.tmp 32))⟩])
  (.seq (.seq (.reg [⟨(some 33), none, (.mov (.tmp 2))⟩, ⟨(some 34), none, (.call ⟨(.value (.func 59)), (List.toArray [(.tmp 33), (.const (.slice none 0 0))]), (List.toArray [47, 28])⟩ true)⟩])
  (.block 0 (.other (at_ Try.f27 [1, 1, 1, 1, 0, 1, 0]))))
  (.seq (.reg [⟨none, none, (.st (.tmp 8) (.const (.int .i64 0)))⟩, ⟨none, none, (.st (.tmp 9) (.const (.int .i64 0)))⟩, ⟨none, none, (.st (.tmp 10) (.const (.int .i64 4)))⟩])
  .ret))))))
theorem L27 : low Try.prog Try.f27.ntmps (at_ Try.f27 []) = some R27 := by kernel_rfl
theorem E27_1 : at_ Try.f27 [1, 1, 1, 1, 0, 1, 0] = .rangeFunc (.tmp 34) ((List.toArray [35, 36])) (at_ Try.f27 [1, 1, 1, 1, 0, 1, 0, 0]) (at_ Try.f27 [1, 1, 1, 1, 0, 1, 0, 1]) := by kernel_rfl
noncomputable def R27x1 : RC := (.seq (.reg [⟨(some 13), none, (.mov (.tmp 35))⟩])
  (.reg [⟨(some 14), none, (.alc 30 [(.slice none 0 0), (.slice none 0 0), (.slice none 0 0)])⟩, ⟨none, none, (.sta (.tmp 14) (.tmp 36) 3)⟩]))
theorem L27x1 : low Try.prog Try.f27.ntmps (at_ Try.f27 [1, 1, 1, 1, 0, 1, 0, 0]) = some R27x1 := by kernel_rfl
noncomputable def R27x2 : RC := (.block 1 (.seq (.reg [⟨(some 37), none, (.ld (.tmp 12) 1)⟩, ⟨(some 38), none, (.lda (.tmp 14) 3)⟩, ⟨(some 39), none, (.call ⟨(.value (.func 53)), (List.toArray [(.tmp 37), (.tmp 38)]), (List.toArray [90, 30])⟩ true)⟩])
  (.seq (.dreg [⟨(some 41), none, (.ld (.tmp 12) 1)⟩, ⟨(some 42), none, (.nilc (.tmp 41))⟩, ⟨(some 43), none, (.addo (.tmp 42) 3)⟩, ⟨(some 44), none, (.ld (.tmp 43) 1)⟩, ⟨(some 45), none, (.ld (.tmp 7) 1)⟩, ⟨(some 46), none, (.call ⟨(.value (.func 54)), (List.toArray [(.tmp 44), (.tmp 45)]), (List.toArray [33, 33])⟩ true)⟩, ⟨(some 40), none, (.mov (.tmp 46))⟩, ⟨(some 47), none, (.pur ⟨(some 47), (.extract (.tmp 40) 0), 3, "", (List.toArray []), none⟩)⟩, ⟨(some 48), none, (.pur ⟨(some 48), (.extract (.tmp 40) 1), 4, "", (List.toArray []), none⟩)⟩, ⟨(some 15), none, (.mov (.tmp 47))⟩, ⟨(some 16), none, (.mov (.tmp 48))⟩] [1023, 255, 127, 127, 63, 31, 0, 7, 3, 1, 0])
  (.seq (.reg [⟨(some 49), none, (.mov (.tmp 16))⟩])
  (.cond (.tmp 49) (.seq (.reg [⟨(some 50), none, (.mov (.tmp 13))⟩, ⟨(some 51), none, (.mov (.tmp 15))⟩, ⟨none, none, (.st (.tmp 8) (.tmp 50))⟩, ⟨none, none, (.st (.tmp 9) (.tmp 51))⟩, ⟨none, none, (.st (.tmp 10) (.const (.int .i64 0)))⟩])
  .ret)
  .skip)))))
theorem L27x2 : low Try.prog Try.f27.ntmps (at_ Try.f27 [1, 1, 1, 1, 0, 1, 0, 1]) = some R27x2 := by kernel_rfl
theorem N32 : Try.f32.ntmps = 112 := by kernel_rfl
theorem Z32 : Try.f32.results.toList = ((List.toArray [(.tmp 2)]) : Array ResultVar).toList := by kernel_rfl
theorem B32 : Try.f32.body = some (at_ Try.f32 []) := by kernel_rfl
noncomputable def R32 : RC := (.seq (.reg [⟨(some 1), none, (.box 25 (.tmp 0))⟩, ⟨(some 2), none, (.mov (.const (.bool false)))⟩])
  (.seq (.reg [⟨(some 8), none, (.addo (.tmp 1) 0)⟩, ⟨(some 9), none, (.ld (.tmp 8) 1)⟩, ⟨(some 10), none, (.len (.tmp 9))⟩, ⟨(some 3), none, (.mov (.tmp 10))⟩])
  (.seq (.seq (.reg [⟨(some 11), none, (.mov (.tmp 3))⟩, ⟨(some 12), none, (.call ⟨(.value (.func 66)), (List.toArray [(.tmp 11), (.const (.int .i64 1)), (.const (.int .i64 16))]), (List.toArray [3, 3, 3])⟩ true)⟩, ⟨(some 13), none, (.pur ⟨(some 13), (.unOp .not 4 (.tmp 12)), 4, "", (List.toArray []), none⟩)⟩, ⟨(some 14), none, (.mov (.tmp 13))⟩, ⟨(some 15), (some (14, false)), (.addo (.tmp 1) 1)⟩, ⟨(some 16), (some (14, false)), (.ld (.tmp 15) 1)⟩, ⟨(some 17), (some (14, false)), (.len (.tmp 16))⟩, ⟨(some 18), (some (14, false)), (.cmpb .gtr (.tmp 17) (.const (.int .i64 32)))⟩, ⟨(some 19), none, (.pur ⟨(some 19), (.pick (.tmp 14) (.const (.bool true)) (.tmp 18)), 4, "", (List.toArray []), none⟩)⟩])
  (.cond (.tmp 19) (.seq (.reg [⟨(some 2), none, (.mov (.const (.bool false)))⟩])
  .ret)
  .skip))
  (.seq (.seq (.reg [⟨(some 4), none, (.mov (.const (.int .i64 0)))⟩])
  (.block 0 (.other (at_ Try.f32 [1, 1, 1, 0, 1, 0]))))
  (.seq (.seq (.reg [⟨(some 6), none, (.mov (.const (.int .i64 0)))⟩])
  (.block 2 (.other (at_ Try.f32 [1, 1, 1, 1, 0, 1, 0]))))
  (.seq (.reg [⟨(some 2), none, (.mov (.const (.bool true)))⟩])
  .ret))))))
theorem L32 : low Try.prog Try.f32.ntmps (at_ Try.f32 []) = some R32 := by kernel_rfl
theorem E32_1 : at_ Try.f32 [1, 1, 1, 0, 1, 0] = .loop (at_ Try.f32 [1, 1, 1, 0, 1, 0, 0]) := by kernel_rfl
noncomputable def R32x1 : RC := (.seq (.seq (.reg [⟨(some 20), none, (.mov (.tmp 4))⟩, ⟨(some 21), none, (.mov (.tmp 3))⟩, ⟨(some 22), none, (.cmp .lss (.tmp 20) (.tmp 21))⟩])
  (.cond (.tmp 22) .skip
  (.exit 0)))
  (.seq (.block 1 (.seq (.reg [⟨(some 25), none, (.addo (.tmp 1) 0)⟩, ⟨(some 26), none, (.ld (.tmp 25) 1)⟩, ⟨(some 27), none, (.mov (.tmp 4))⟩, ⟨(some 28), none, (.idx (.tmp 26) (.tmp 27) 4)⟩, ⟨(some 29), none, (.lda (.tmp 28) 4)⟩, ⟨(some 5), none, (.alc 71 [(.int .i64 0), (.int .i64 0), (.int .i64 0), (.int .i64 0)])⟩, ⟨none, none, (.sta (.tmp 5) (.tmp 29) 4)⟩])
  (.seq (.reg [⟨(some 30), none, (.addo (.tmp 5) 0)⟩, ⟨(some 31), none, (.ld (.tmp 30) 1)⟩, ⟨(some 32), none, (.call ⟨(.value (.func 66)), (List.toArray [(.tmp 31), (.const (.int .i64 1)), (.const (.int .i64 68719476736))]), (List.toArray [3, 3, 3])⟩ true)⟩, ⟨(some 33), none, (.pur ⟨(some 33), (.unOp .not 4 (.tmp 32)), 4, "", (List.toArray []), none⟩)⟩, ⟨(some 34), none, (.mov (.tmp 33))⟩, ⟨(some 35), (some (34, false)), (.addo (.tmp 5) 1)⟩, ⟨(some 36), (some (34, false)), (.lda (.tmp 35) 2)⟩, ⟨(some 37), (some (34, false)), (.call ⟨(.value (.func 68)), (List.toArray [(.tmp 36), (.const (.int .i64 0)), (.const (.int .i64 1000000))]), (List.toArray [35, 3, 3])⟩ true)⟩, ⟨(some 38), (some (34, false)), (.pur ⟨(some 38), (.unOp .not 4 (.tmp 37)), 4, "", (List.toArray []), none⟩)⟩, ⟨(some 39), none, (.pur ⟨(some 39), (.pick (.tmp 34) (.const (.bool true)) (.tmp 38)), 4, "", (List.toArray []), none⟩)⟩, ⟨(some 40), none, (.mov (.tmp 39))⟩, ⟨(some 41), (some (40, false)), (.addo (.tmp 5) 3)⟩, ⟨(some 42), (some (40, false)), (.ld (.tmp 41) 1)⟩, ⟨(some 43), (some (40, false)), (.cmpb .neq (.tmp 42) (.const (.int .i64 (-1))))⟩, ⟨(some 44), (some (40, false)), (.mov (.tmp 43))⟩, ⟨(some 45), (some (44, true)), (.addo (.tmp 5) 3)⟩, ⟨(some 46), (some (44, true)), (.ld (.tmp 45) 1)⟩, ⟨(some 47), (some (44, true)), (.mov (.tmp 4))⟩, ⟨(some 48), (some (44, true)), (.ari .add (.tmp 47) (.const (.int .i64 1)))⟩, ⟨(some 49), (some (44, true)), (.mov (.tmp 3))⟩, ⟨(some 50), (some (44, true)), (.ari .sub (.tmp 49) (.const (.int .i64 1)))⟩, ⟨(some 51), (some (44, true)), (.call ⟨(.value (.func 66)), (List.toArray [(.tmp 46), (.tmp 48), (.tmp 50)]), (List.toArray [3, 3, 3])⟩ true)⟩, ⟨(some 52), (some (44, true)), (.pur ⟨(some 52), (.unOp .not 4 (.tmp 51)), 4, "", (List.toArray []), none⟩)⟩, ⟨(some 53), (some (40, false)), (.pur ⟨(some 53), (.pick (.tmp 44) (.tmp 52) (.const (.bool false))), 4, "", (List.toArray []), none⟩)⟩, ⟨(some 54), none, (.pur ⟨(some 54), (.pick (.tmp 40) (.const (.bool true)) (.tmp 53)), 4, "", (List.toArray []), none⟩)⟩])
  (.cond (.tmp 54) (.seq (.reg [⟨(some 2), none, (.mov (.const (.bool false)))⟩])
  .ret)
  .skip))))
  (.reg [⟨(some 23), none, (.mov (.tmp 4))⟩, ⟨(some 24), none, (.ari .add (.tmp 23) (.const (.int .i64 1)))⟩, ⟨(some 4), none, (.mov (.tmp 24))⟩])))
theorem L32x1 : low Try.prog Try.f32.ntmps (at_ Try.f32 [1, 1, 1, 0, 1, 0, 0]) = some R32x1 := by kernel_rfl
theorem E32_2 : at_ Try.f32 [1, 1, 1, 1, 0, 1, 0] = .loop (at_ Try.f32 [1, 1, 1, 1, 0, 1, 0, 0]) := by kernel_rfl
noncomputable def R32x2 : RC := (.seq (.seq (.reg [⟨(some 55), none, (.mov (.tmp 6))⟩, ⟨(some 56), none, (.addo (.tmp 1) 1)⟩, ⟨(some 57), none, (.ld (.tmp 56) 1)⟩, ⟨(some 58), none, (.len (.tmp 57))⟩, ⟨(some 59), none, (.cmp .lss (.tmp 55) (.tmp 58))⟩])
  (.cond (.tmp 59) .skip
  (.exit 2)))
  (.seq (.block 3 (.seq (.reg [⟨(some 62), none, (.addo (.tmp 1) 1)⟩, ⟨(some 63), none, (.ld (.tmp 62) 1)⟩, ⟨(some 64), none, (.mov (.tmp 6))⟩, ⟨(some 65), none, (.idx (.tmp 63) (.tmp 64) 6)⟩, ⟨(some 66), none, (.lda (.tmp 65) 6)⟩, ⟨(some 7), none, (.alc 81 [(.int .i64 0), (.int .i64 0), (.int .i64 0), (.int .i64 0), (.int .i64 0), (.int .i64 0)])⟩, ⟨none, none, (.sta (.tmp 7) (.tmp 66) 6)⟩])
  (.seq (.reg [⟨(some 67), none, (.addo (.tmp 7) 0)⟩, ⟨(some 68), none, (.ld (.tmp 67) 1)⟩, ⟨(some 69), none, (.mov (.tmp 3))⟩, ⟨(some 70), none, (.ari .sub (.tmp 69) (.const (.int .i64 1)))⟩, ⟨(some 71), none, (.call ⟨(.value (.func 66)), (List.toArray [(.tmp 68), (.const (.int .i64 0)), (.tmp 70)]), (List.toArray [3, 3, 3])⟩ true)⟩, ⟨(some 72), none, (.pur ⟨(some 72), (.unOp .not 4 (.tmp 71)), 4, "", (List.toArray []), none⟩)⟩, ⟨(some 73), none, (.mov (.tmp 72))⟩, ⟨(some 74), (some (73, false)), (.addo (.tmp 7) 1)⟩, ⟨(some 75), (some (73, false)), (.ld (.tmp 74) 1)⟩, ⟨(some 76), (some (73, false)), (.mov (.tmp 3))⟩, ⟨(some 77), (some (73, false)), (.ari .sub (.tmp 76) (.const (.int .i64 1)))⟩, ⟨(some 78), (some (73, false)), (.call ⟨(.value (.func 66)), (List.toArray [(.tmp 75), (.const (.int .i64 (-1))), (.tmp 77)]), (List.toArray [3, 3, 3])⟩ true)⟩, ⟨(some 79), (some (73, false)), (.pur ⟨(some 79), (.unOp .not 4 (.tmp 78)), 4, "", (List.toArray []), none⟩)⟩, ⟨(some 80), none, (.pur ⟨(some 80), (.pick (.tmp 73) (.const (.bool true)) (.tmp 79)), 4, "", (List.toArray []), none⟩)⟩, ⟨(some 81), none, (.mov (.tmp 80))⟩, ⟨(some 82), (some (81, false)), (.addo (.tmp 7) 0)⟩, ⟨(some 83), (some (81, false)), (.ld (.tmp 82) 1)⟩, ⟨(some 84), (some (81, false)), (.addo (.tmp 7) 1)⟩, ⟨(some 85), (some (81, false)), (.ld (.tmp 84) 1)⟩, ⟨(some 86), (some (81, false)), (.cmpb .eql (.tmp 83) (.tmp 85))⟩, ⟨(some 87), none, (.pur ⟨(some 87), (.pick (.tmp 81) (.const (.bool true)) (.tmp 86)), 4, "", (List.toArray []), none⟩)⟩, ⟨(some 88), none, (.mov (.tmp 87))⟩, ⟨(some 89), (some (88, false)), (.addo (.tmp 7) 2)⟩, ⟨(some 90), (some (88, false)), (.ld (.tmp 89) 1)⟩, ⟨(some 91), (some (88, false)), (.call ⟨(.value (.func 66)), (List.toArray [(.tmp 90), (.const (.int .i64 0)), (.const (.int .i64 68719476736))]), (List.toArray [3, 3, 3])⟩ true)⟩, ⟨(some 92), (some (88, false)), (.pur ⟨(some 92), (.unOp .not 4 (.tmp 91)), 4, "", (List.toArray []), none⟩)⟩, ⟨(some 93), none, (.pur ⟨(some 93), (.pick (.tmp 88) (.const (.bool true)) (.tmp 92)), 4, "", (List.toArray []), none⟩)⟩, ⟨(some 94), none, (.mov (.tmp 93))⟩, ⟨(some 95), (some (94, false)), (.addo (.tmp 7) 3)⟩, ⟨(some 96), (some (94, false)), (.ld (.tmp 95) 1)⟩, ⟨(some 97), (some (94, false)), (.call ⟨(.value (.func 66)), (List.toArray [(.tmp 96), (.const (.int .i64 0)), (.const (.int .i64 68719476736))]), (List.toArray [3, 3, 3])⟩ true)⟩, ⟨(some 98), (some (94, false)), (.pur ⟨(some 98), (.unOp .not 4 (.tmp 97)), 4, "", (List.toArray []), none⟩)⟩, ⟨(some 99), none, (.pur ⟨(some 99), (.pick (.tmp 94) (.const (.bool true)) (.tmp 98)), 4, "", (List.toArray []), none⟩)⟩, ⟨(some 100), none, (.mov (.tmp 99))⟩, ⟨(some 101), (some (100, false)), (.addo (.tmp 7) 5)⟩, ⟨(some 102), (some (100, false)), (.ld (.tmp 101) 1)⟩, ⟨(some 103), (some (100, false)), (.call ⟨(.value (.func 66)), (List.toArray [(.tmp 102), (.const (.int .i64 0)), (.const (.int .i64 68719476736))]), (List.toArray [3, 3, 3])⟩ true)⟩, ⟨(some 104), (some (100, false)), (.pur ⟨(some 104), (.unOp .not 4 (.tmp 103)), 4, "", (List.toArray []), none⟩)⟩, ⟨(some 105), none, (.pur ⟨(some 105), (.pick (.tmp 100) (.const (.bool true)) (.tmp 104)), 4, "", (List.toArray []), none⟩)⟩, ⟨(some 106), none, (.mov (.tmp 105))⟩, ⟨(some 107), (some (106, false)), (.addo (.tmp 7) 4)⟩, ⟨(some 108), (some (106, false)), (.ld (.tmp 107) 1)⟩, ⟨(some 109), (some (106, false)), (.call ⟨(.value (.func 66)), (List.toArray [(.tmp 108), (.const (.int .i64 0)), (.const (.int .i64 16))]), (List.toArray [3, 3, 3])⟩ true)⟩, ⟨(some 110), (some (106, false)), (.pur ⟨(some 110), (.unOp .not 4 (.tmp 109)), 4, "", (List.toArray []), none⟩)⟩, ⟨(some 111), none, (.pur ⟨(some 111), (.pick (.tmp 106) (.const (.bool true)) (.tmp 110)), 4, "", (List.toArray []), none⟩)⟩])
  (.cond (.tmp 111) (.seq (.reg [⟨(some 2), none, (.mov (.const (.bool false)))⟩])
  .ret)
  .skip))))
  (.reg [⟨(some 60), none, (.mov (.tmp 6))⟩, ⟨(some 61), none, (.ari .add (.tmp 60) (.const (.int .i64 1)))⟩, ⟨(some 6), none, (.mov (.tmp 61))⟩])))
theorem L32x2 : low Try.prog Try.f32.ntmps (at_ Try.f32 [1, 1, 1, 1, 0, 1, 0, 0]) = some R32x2 := by kernel_rfl
theorem N33 : Try.f33.ntmps = 30 := by kernel_rfl
theorem Z33 : Try.f33.results.toList = ((List.toArray [(.tmp 4)]) : Array ResultVar).toList := by kernel_rfl
theorem B33 : Try.f33.body = some (at_ Try.f33 []) := by kernel_rfl
noncomputable def R33 : RC := (.seq (.reg [⟨(some 2), none, (.box 25 (.tmp 0))⟩, ⟨(some 4), none, (.mov (.const (.bool false)))⟩])
  (.seq (.seq (.reg [⟨(some 6), none, (.mov (.tmp 1))⟩, ⟨(some 7), none, (.len (.tmp 6))⟩, ⟨(some 8), none, (.addo (.tmp 2) 0)⟩, ⟨(some 9), none, (.ld (.tmp 8) 1)⟩, ⟨(some 10), none, (.len (.tmp 9))⟩, ⟨(some 11), none, (.cmp .neq (.tmp 7) (.tmp 10))⟩])
  (.cond (.tmp 11) (.seq (.reg [⟨(some 4), none, (.mov (.const (.bool false)))⟩])
  .ret)
  .skip))
  (.seq (.seq (.reg [⟨(some 5), none, (.mov (.const (.int .i64 0)))⟩])
  (.block 0 (.other (at_ Try.f33 [1, 1, 0, 1, 0]))))
  (.seq (.reg [⟨(some 4), none, (.mov (.const (.bool true)))⟩])
  .ret))))
theorem L33 : low Try.prog Try.f33.ntmps (at_ Try.f33 []) = some R33 := by kernel_rfl
theorem E33_1 : at_ Try.f33 [1, 1, 0, 1, 0] = .loop (at_ Try.f33 [1, 1, 0, 1, 0, 0]) := by kernel_rfl
noncomputable def R33x1 : RC := (.seq (.seq (.reg [⟨(some 12), none, (.mov (.tmp 5))⟩, ⟨(some 13), none, (.mov (.tmp 1))⟩, ⟨(some 14), none, (.len (.tmp 13))⟩, ⟨(some 15), none, (.cmp .lss (.tmp 12) (.tmp 14))⟩])
  (.cond (.tmp 15) .skip
  (.exit 0)))
  (.seq (.block 1 (.seq (.dreg [⟨(some 18), none, (.mov (.tmp 1))⟩, ⟨(some 19), none, (.mov (.tmp 5))⟩, ⟨(some 20), none, (.idx (.tmp 18) (.tmp 19) 2)⟩, ⟨(some 21), none, (.lda (.tmp 20) 2)⟩, ⟨(some 22), none, (.addo (.tmp 2) 0)⟩, ⟨(some 23), none, (.ld (.tmp 22) 1)⟩, ⟨(some 24), none, (.mov (.tmp 5))⟩, ⟨(some 25), none, (.idx (.tmp 23) (.tmp 24) 4)⟩, ⟨(some 26), none, (.addo (.tmp 25) 0)⟩, ⟨(some 27), none, (.ld (.tmp 26) 1)⟩, ⟨(some 28), none, (.call ⟨(.value (.func 68)), (List.toArray [(.tmp 21), (.const (.int .i64 0)), (.tmp 27)]), (List.toArray [35, 3, 3])⟩ true)⟩, ⟨(some 29), none, (.pur ⟨(some 29), (.unOp .not 4 (.tmp 28)), 4, "", (List.toArray []), none⟩)⟩] [2047, 1023, 496, 240, 112, 0, 16, 0, 7, 3, 0, 0])
  (.cond (.tmp 29) (.seq (.reg [⟨(some 4), none, (.mov (.const (.bool false)))⟩])
  .ret)
  .skip)))
  (.reg [⟨(some 16), none, (.mov (.tmp 5))⟩, ⟨(some 17), none, (.ari .add (.tmp 16) (.const (.int .i64 1)))⟩, ⟨(some 5), none, (.mov (.tmp 17))⟩])))
theorem L33x1 : low Try.prog Try.f33.ntmps (at_ Try.f33 [1, 1, 0, 1, 0, 0]) = some R33x1 := by kernel_rfl
theorem N34 : Try.f34.ntmps = 17 := by kernel_rfl
theorem Z34 : Try.f34.results.toList = ((List.toArray [(.tmp 4)]) : Array ResultVar).toList := by kernel_rfl
theorem B34 : Try.f34.body = some (at_ Try.f34 []) := by kernel_rfl
noncomputable def R34 : RC := (.seq (.reg [⟨(some 2), none, (.box 35 (.tmp 0))⟩, ⟨(some 4), none, (.mov (.const (.int .i64 0)))⟩])
  (.seq (.dreg [⟨(some 5), none, (.addo (.tmp 2) 0)⟩, ⟨(some 6), none, (.ld (.tmp 5) 1)⟩, ⟨(some 7), none, (.mov (.tmp 1))⟩, ⟨(some 8), none, (.pur ⟨(some 8), (.convert 67 3 (.tmp 7)), 3, "", (List.toArray []), none⟩)⟩, ⟨(some 9), none, (.addo (.tmp 2) 1)⟩, ⟨(some 10), none, (.ld (.tmp 9) 1)⟩, ⟨(some 11), none, (.addo (.tmp 2) 0)⟩, ⟨(some 12), none, (.ld (.tmp 11) 1)⟩, ⟨(some 13), none, (.ari .sub (.tmp 10) (.tmp 12))⟩, ⟨(some 14), none, (.ari .add (.tmp 13) (.const (.int .i64 1)))⟩, ⟨(some 15), none, (.ari .rem (.tmp 8) (.tmp 14))⟩, ⟨(some 16), none, (.ari .add (.tmp 6) (.tmp 15))⟩, ⟨(some 4), none, (.mov (.tmp 16))⟩] [4095, 2047, 1020, 496, 240, 64, 0, 16, 0, 4, 0, 1, 0])
  .ret))
theorem L34 : low Try.prog Try.f34.ntmps (at_ Try.f34 []) = some R34 := by kernel_rfl
theorem N36 : Try.f36.ntmps = 15 := by kernel_rfl
theorem Z36 : Try.f36.results.toList = ((List.toArray [(.tmp 4)]) : Array ResultVar).toList := by kernel_rfl
theorem B36 : Try.f36.body = some (at_ Try.f36 []) := by kernel_rfl
noncomputable def R36 : RC := (.seq (.reg [⟨(some 2), none, (.box 35 (.tmp 0))⟩, ⟨(some 4), none, (.mov (.const (.bool false)))⟩])
  (.seq (.reg [⟨(some 5), none, (.addo (.tmp 2) 0)⟩, ⟨(some 6), none, (.ld (.tmp 5) 1)⟩, ⟨(some 7), none, (.mov (.tmp 1))⟩, ⟨(some 8), none, (.cmpb .leq (.tmp 6) (.tmp 7))⟩, ⟨(some 9), none, (.mov (.tmp 8))⟩, ⟨(some 10), (some (9, true)), (.mov (.tmp 1))⟩, ⟨(some 11), (some (9, true)), (.addo (.tmp 2) 1)⟩, ⟨(some 12), (some (9, true)), (.ld (.tmp 11) 1)⟩, ⟨(some 13), (some (9, true)), (.cmpb .leq (.tmp 10) (.tmp 12))⟩, ⟨(some 14), none, (.pur ⟨(some 14), (.pick (.tmp 9) (.tmp 13) (.const (.bool false))), 4, "", (List.toArray []), none⟩)⟩, ⟨(some 4), none, (.mov (.tmp 14))⟩])
  .ret))
theorem L36 : low Try.prog Try.f36.ntmps (at_ Try.f36 []) = some R36 := by kernel_rfl
theorem N37 : Try.f37.ntmps = 32 := by kernel_rfl
theorem Z37 : Try.f37.results.toList = ((List.toArray [(.cell 6 35)]) : Array ResultVar).toList := by kernel_rfl
theorem B37 : Try.f37.body = some (at_ Try.f37 []) := by kernel_rfl
noncomputable def R37 : RC := (.seq (.reg [⟨(some 4), none, (.box 35 (.tmp 0))⟩, ⟨(some 6), none, (.alc 35 [(.int .i64 0), (.int .i64 0)])⟩])
  (.seq (.dreg [⟨(some 8), none, (.ld (.tmp 2) 1)⟩, ⟨(some 9), none, (.ld (.tmp 3) 1)⟩, ⟨(some 10), none, (.ld (.tmp 2) 1)⟩, ⟨(some 11), none, (.len (.tmp 10))⟩, ⟨(some 12), none, (.ari .rem (.tmp 9) (.tmp 11))⟩, ⟨(some 13), none, (.idx (.tmp 8) (.tmp 12) 1)⟩, ⟨(some 14), none, (.ld (.tmp 13) 1)⟩, ⟨(some 15), none, (.pur ⟨(some 15), (.convert 74 3 (.tmp 14)), 3, "", (List.toArray []), none⟩)⟩, ⟨(some 7), none, (.mov (.tmp 15))⟩] [255, 127, 63, 31, 14, 4, 0, 0, 0])
  (.seq (.reg [⟨(some 16), none, (.ld (.tmp 3) 1)⟩, ⟨(some 17), none, (.ari .add (.tmp 16) (.const (.int .i64 1)))⟩, ⟨none, none, (.st (.tmp 3) (.tmp 17))⟩])
  (.seq (.reg [⟨(some 18), none, (.mov (.tmp 1))⟩, ⟨(some 19), none, (.addo (.tmp 4) 0)⟩, ⟨(some 20), none, (.ld (.tmp 19) 1)⟩, ⟨(some 21), none, (.mov (.tmp 7))⟩, ⟨(some 22), none, (.ari .quo (.tmp 21) (.const (.int .i64 2)))⟩, ⟨(some 23), none, (.ari .add (.tmp 20) (.tmp 22))⟩, ⟨(some 24), none, (.mm true (.tmp 18) (.tmp 23))⟩, ⟨(some 25), none, (.mov (.tmp 1))⟩, ⟨(some 26), none, (.addo (.tmp 4) 1)⟩, ⟨(some 27), none, (.ld (.tmp 26) 1)⟩, ⟨(some 28), none, (.mov (.tmp 7))⟩, ⟨(some 29), none, (.ari .add (.tmp 27) (.tmp 28))⟩, ⟨(some 30), none, (.mm true (.tmp 25) (.tmp 29))⟩, ⟨(some 31), none, (.pur ⟨(some 31), (.build 35 (List.toArray [(0, (.tmp 24)), (1, (.tmp 30))])), 35, "", (List.toArray []), none⟩)⟩, ⟨none, none, (.sta (.tmp 6) (.tmp 31) 2)⟩])
  .ret))))
theorem L37 : low Try.prog Try.f37.ntmps (at_ Try.f37 []) = some R37 := by kernel_rfl
theorem N38 : Try.f38.ntmps = 17 := by kernel_rfl
theorem Z38 : Try.f38.results.toList = ((List.toArray [(.tmp 4)]) : Array ResultVar).toList := by kernel_rfl
theorem B38 : Try.f38.body = some (at_ Try.f38 []) := by kernel_rfl
noncomputable def R38 : RC := (.seq (.reg [⟨(some 2), none, (.box 35 (.tmp 0))⟩, ⟨(some 3), none, (.box 35 (.tmp 1))⟩, ⟨(some 4), none, (.mov (.const (.bool false)))⟩])
  (.seq (.reg [⟨(some 5), none, (.addo (.tmp 2) 0)⟩, ⟨(some 6), none, (.ld (.tmp 5) 1)⟩, ⟨(some 7), none, (.addo (.tmp 3) 0)⟩, ⟨(some 8), none, (.ld (.tmp 7) 1)⟩, ⟨(some 9), none, (.cmpb .geq (.tmp 6) (.tmp 8))⟩, ⟨(some 10), none, (.mov (.tmp 9))⟩, ⟨(some 11), (some (10, true)), (.addo (.tmp 2) 1)⟩, ⟨(some 12), (some (10, true)), (.ld (.tmp 11) 1)⟩, ⟨(some 13), (some (10, true)), (.addo (.tmp 3) 1)⟩, ⟨(some 14), (some (10, true)), (.ld (.tmp 13) 1)⟩, ⟨(some 15), (some (10, true)), (.cmpb .geq (.tmp 12) (.tmp 14))⟩, ⟨(some 16), none, (.pur ⟨(some 16), (.pick (.tmp 10) (.tmp 15) (.const (.bool false))), 4, "", (List.toArray []), none⟩)⟩, ⟨(some 4), none, (.mov (.tmp 16))⟩])
  .ret))
theorem L38 : low Try.prog Try.f38.ntmps (at_ Try.f38 []) = some R38 := by kernel_rfl
theorem N40 : Try.f40.ntmps = 35 := by kernel_rfl
theorem Z40 : Try.f40.results.toList = ((List.toArray [(.cell 4 35)]) : Array ResultVar).toList := by kernel_rfl
theorem B40 : Try.f40.body = some (at_ Try.f40 []) := by kernel_rfl
noncomputable def R40 : RC := (.seq (.reg [⟨(some 3), none, (.box 35 (.tmp 0))⟩, ⟨(some 4), none, (.alc 35 [(.int .i64 0), (.int .i64 0)])⟩])
  (.seq (.dreg [⟨(some 7), none, (.lda (.tmp 3) 2)⟩, ⟨(some 8), none, (.ld (.tmp 1) 1)⟩, ⟨(some 9), none, (.ld (.tmp 2) 1)⟩, ⟨(some 10), none, (.ld (.tmp 1) 1)⟩, ⟨(some 11), none, (.len (.tmp 10))⟩, ⟨(some 12), none, (.ari .rem (.tmp 9) (.tmp 11))⟩, ⟨(some 13), none, (.idx (.tmp 8) (.tmp 12) 1)⟩, ⟨(some 14), none, (.ld (.tmp 13) 1)⟩, ⟨(some 15), none, (.call ⟨(.value (.func 34)), (List.toArray [(.tmp 7), (.tmp 14)]), (List.toArray [35, 67])⟩ false)⟩, ⟨(some 16), none, (.lda (.tmp 3) 2)⟩, ⟨(some 17), none, (.ld (.tmp 1) 1)⟩, ⟨(some 18), none, (.ld (.tmp 2) 1)⟩, ⟨(some 19), none, (.ari .add (.tmp 18) (.const (.int .i64 1)))⟩, ⟨(some 20), none, (.ld (.tmp 1) 1)⟩, ⟨(some 21), none, (.len (.tmp 20))⟩, ⟨(some 22), none, (.ari .rem (.tmp 19) (.tmp 21))⟩, ⟨(some 23), none, (.idx (.tmp 17) (.tmp 22) 1)⟩, ⟨(some 24), none, (.ld (.tmp 23) 1)⟩, ⟨(some 25), none, (.call ⟨(.value (.func 34)), (List.toArray [(.tmp 16), (.tmp 24)]), (List.toArray [35, 67])⟩ true)⟩, ⟨(some 5), none, (.mov (.tmp 15))⟩, ⟨(some 6), none, (.mov (.tmp 25))⟩] [1048575, 524287, 262143, 130048, 64512, 30720, 8192, 0, 2048, 0, 0, 0, 255, 126, 62, 28, 8, 0, 0, 0, 0])
  (.seq (.reg [⟨(some 26), none, (.ld (.tmp 2) 1)⟩, ⟨(some 27), none, (.ari .add (.tmp 26) (.const (.int .i64 2)))⟩, ⟨none, none, (.st (.tmp 2) (.tmp 27))⟩])
  (.seq (.reg [⟨(some 28), none, (.mov (.tmp 5))⟩, ⟨(some 29), none, (.mov (.tmp 6))⟩, ⟨(some 30), none, (.mm true (.tmp 28) (.tmp 29))⟩, ⟨(some 31), none, (.mov (.tmp 5))⟩, ⟨(some 32), none, (.mov (.tmp 6))⟩, ⟨(some 33), none, (.mm false (.tmp 31) (.tmp 32))⟩, ⟨(some 34), none, (.pur ⟨(some 34), (.build 35 (List.toArray [(0, (.tmp 30)), (1, (.tmp 33))])), 35, "", (List.toArray []), none⟩)⟩, ⟨none, none, (.sta (.tmp 4) (.tmp 34) 2)⟩])
  .ret))))
theorem L40 : low Try.prog Try.f40.ntmps (at_ Try.f40 []) = some R40 := by kernel_rfl
theorem N41 : Try.f41.ntmps = 24 := by kernel_rfl
theorem Z41 : Try.f41.results.toList = ((List.toArray [(.tmp 4)]) : Array ResultVar).toList := by kernel_rfl
theorem B41 : Try.f41.body = some (at_ Try.f41 []) := by kernel_rfl
noncomputable def R41 : RC := (.seq (.reg [⟨(some 2), none, (.box 35 (.tmp 0))⟩, ⟨(some 3), none, (.box 35 (.tmp 1))⟩, ⟨(some 4), none, (.mov (.const (.bool false)))⟩])
  (.seq (.reg [⟨(some 5), none, (.addo (.tmp 3) 0)⟩, ⟨(some 6), none, (.ld (.tmp 5) 1)⟩, ⟨(some 7), none, (.addo (.tmp 2) 0)⟩, ⟨(some 8), none, (.ld (.tmp 7) 1)⟩, ⟨(some 9), none, (.cmpb .leq (.tmp 6) (.tmp 8))⟩, ⟨(some 10), none, (.mov (.tmp 9))⟩, ⟨(some 11), (some (10, true)), (.addo (.tmp 2) 0)⟩, ⟨(some 12), (some (10, true)), (.ld (.tmp 11) 1)⟩, ⟨(some 13), (some (10, true)), (.addo (.tmp 2) 1)⟩, ⟨(some 14), (some (10, true)), (.ld (.tmp 13) 1)⟩, ⟨(some 15), (some (10, true)), (.cmpb .leq (.tmp 12) (.tmp 14))⟩, ⟨(some 16), none, (.pur ⟨(some 16), (.pick (.tmp 10) (.tmp 15) (.const (.bool false))), 4, "", (List.toArray []), none⟩)⟩, ⟨(some 17), none, (.mov (.tmp 16))⟩, ⟨(some 18), (some (17, true)), (.addo (.tmp 2) 1)⟩, ⟨(some 19), (some (17, true)), (.ld (.tmp 18) 1)⟩, ⟨(some 20), (some (17, true)), (.addo (.tmp 3) 1)⟩, ⟨(some 21), (some (17, true)), (.ld (.tmp 20) 1)⟩, ⟨(some 22), (some (17, true)), (.cmpb .leq (.tmp 19) (.tmp 21))⟩, ⟨(some 23), none, (.pur ⟨(some 23), (.pick (.tmp 17) (.tmp 22) (.const (.bool false))), 4, "", (List.toArray []), none⟩)⟩, ⟨(some 4), none, (.mov (.tmp 23))⟩])
  .ret))
theorem L41 : low Try.prog Try.f41.ntmps (at_ Try.f41 []) = some R41 := by kernel_rfl
theorem N44 : Try.f44.ntmps = 32 := by kernel_rfl
theorem Z44 : Try.f44.results.toList = ((List.toArray [(.tmp 6)]) : Array ResultVar).toList := by kernel_rfl
theorem B44 : Try.f44.body = some (at_ Try.f44 []) := by kernel_rfl
noncomputable def R44 : RC := (.seq (.reg [⟨(some 3), none, (.box 25 (.tmp 0))⟩, ⟨(some 6), none, (.mov (.const (.int .i64 0)))⟩])
  (.seq (.seq (.reg [⟨(some 9), none, (.mov (.tmp 2))⟩, ⟨(some 10), none, (.len (.tmp 9))⟩, ⟨(some 11), none, (.cmp .gtr (.tmp 10) (.const (.int .i64 200)))⟩])
  (.cond (.tmp 11) (.seq (.reg [⟨(some 6), none, (.mov (.const (.int .i64 3)))⟩])
  .ret)
  .skip))
  (.seq (.seq (.reg [⟨(some 12), none, (.lda (.tmp 3) 2)⟩, ⟨(some 13), none, (.call ⟨(.value (.func 55)), (List.toArray [(.tmp 12)]), (List.toArray [25])⟩ true)⟩, ⟨(some 14), none, (.pur ⟨(some 14), (.unOp .not 4 (.tmp 13)), 4, "", (List.toArray []), none⟩)⟩, ⟨(some 15), none, (.mov (.tmp 14))⟩, ⟨(some 16), (some (15, false)), (.lda (.tmp 3) 2)⟩, ⟨(some 17), (some (15, false)), (.mov (.tmp 1))⟩, ⟨(some 18), (some (15, false)), (.call ⟨(.value (.func 70)), (List.toArray [(.tmp 16), (.tmp 17)]), (List.toArray [25, 26])⟩ true)⟩, ⟨(some 19), (some (15, false)), (.pur ⟨(some 19), (.unOp .not 4 (.tmp 18)), 4, "", (List.toArray []), none⟩)⟩, ⟨(some 20), none, (.pur ⟨(some 20), (.pick (.tmp 15) (.const (.bool true)) (.tmp 19)), 4, "", (List.toArray []), none⟩)⟩])
  (.cond (.tmp 20) (.seq (.reg [⟨(some 6), none, (.mov (.const (.int .i64 1)))⟩])
  .ret)
  .skip))
  (.seq (.seq (.reg [⟨(some 21), none, (.mov (.tmp 2))⟩, ⟨(some 22), none, (.len (.tmp 21))⟩, ⟨(some 23), none, (.mov (.const (.int .i64 0)))⟩])
  (.block 0 (.other (at_ Try.f44 [1, 1, 1, 0, 1, 0]))))
  (.seq (.reg [⟨(some 6), none, (.mov (.const (.int .i64 0)))⟩])
  .ret)))))
theorem L44 : low Try.prog Try.f44.ntmps (at_ Try.f44 []) = some R44 := by kernel_rfl
theorem E44_1 : at_ Try.f44 [1, 1, 1, 0, 1, 0] = .loop (at_ Try.f44 [1, 1, 1, 0, 1, 0, 0]) := by kernel_rfl
noncomputable def R44x1 : RC := (.seq (.reg [⟨(some 24), none, (.cmp .lss (.tmp 23) (.tmp 22))⟩])
  (.seq (.cond (.tmp 24) .skip
  (.exit 0))
  (.seq (.block 1 (.seq (.reg [⟨(some 25), none, (.idx (.tmp 21) (.tmp 23) 3)⟩, ⟨(some 26), none, (.lda (.tmp 25) 3)⟩, ⟨(some 8), none, (.alc 30 [(.slice none 0 0), (.slice none 0 0), (.slice none 0 0)])⟩, ⟨none, none, (.sta (.tmp 8) (.tmp 26) 3)⟩])
  (.seq (.reg [⟨(some 27), none, (.lda (.tmp 3) 2)⟩, ⟨(some 28), none, (.lda (.tmp 8) 3)⟩, ⟨(some 29), none, (.call ⟨(.value (.func 71)), (List.toArray [(.tmp 27), (.tmp 28)]), (List.toArray [25, 30])⟩ true)⟩, ⟨(some 30), none, (.pur ⟨(some 30), (.unOp .not 4 (.tmp 29)), 4, "", (List.toArray []), none⟩)⟩])
  (.cond (.tmp 30) (.seq (.reg [⟨(some 6), none, (.mov (.const (.int .i64 1)))⟩])
  .ret)
  .skip))))
  (.reg [⟨(some 31), none, (.ari .add (.tmp 23) (.const (.int .i64 1)))⟩, ⟨(some 23), none, (.mov (.tmp 31))⟩]))))
theorem L44x1 : low Try.prog Try.f44.ntmps (at_ Try.f44 [1, 1, 1, 0, 1, 0, 0]) = some R44x1 := by kernel_rfl
theorem N45 : Try.f45.ntmps = 32 := by kernel_rfl
theorem Z45 : Try.f45.results.toList = ((List.toArray [(.cell 6 90), (.cell 7 90)]) : Array ResultVar).toList := by kernel_rfl
theorem B45 : Try.f45.body = some (at_ Try.f45 []) := by kernel_rfl
noncomputable def R45 : RC := (.seq (.reg [⟨(some 3), none, (.box 25 (.tmp 0))⟩, ⟨(some 6), none, (.alc 90 [(.pointer none)])⟩, ⟨(some 7), none, (.alc 90 [(.pointer none)])⟩])
  (.seq (.dreg [⟨(some 10), none, (.lda (.tmp 3) 2)⟩, ⟨(some 11), none, (.mov (.tmp 1))⟩, ⟨(some 12), none, (.pur ⟨(some 12), (.build 101 (List.toArray [])), 101, "", (List.toArray []), none⟩)⟩, ⟨(some 13), none, (.pur ⟨(some 13), (.makeInterface 101 (.tmp 12)), 105, "", (List.toArray []), none⟩)⟩, ⟨(some 14), none, (.call ⟨(.value (.func 51)), (List.toArray [(.tmp 10), (.tmp 11), (.tmp 13)]), (List.toArray [25, 26, 105])⟩ false)⟩, ⟨(some 15), none, (.lda (.tmp 3) 2)⟩, ⟨(some 16), none, (.mov (.tmp 1))⟩, ⟨(some 17), none, (.pur ⟨(some 17), (.build 101 (List.toArray [(0, (.const (.bool true)))])), 101, "", (List.toArray []), none⟩)⟩, ⟨(some 18), none, (.pur ⟨(some 18), (.makeInterface 101 (.tmp 17)), 105, "", (List.toArray []), none⟩)⟩, ⟨(some 19), none, (.call ⟨(.value (.func 51)), (List.toArray [(.tmp 15), (.tmp 16), (.tmp 18)]), (List.toArray [25, 26, 105])⟩ true)⟩, ⟨none, none, (.st (.tmp 6) (.tmp 14))⟩, ⟨none, none, (.st (.tmp 7) (.tmp 19))⟩] [2047, 1023, 511, 128, 0, 0, 0, 15, 4, 0, 0, 0])
  (.seq (.seq (.reg [⟨(some 20), none, (.mov (.tmp 2))⟩, ⟨(some 21), none, (.call ⟨(.value (.func 59)), (List.toArray [(.tmp 20), (.const (.slice none 0 0))]), (List.toArray [47, 28])⟩ true)⟩])
  (.block 0 (.other (at_ Try.f45 [1, 1, 0, 1, 0]))))
  (.seq (.dreg [⟨(some 30), none, (.ld (.tmp 6) 1)⟩, ⟨(some 31), none, (.ld (.tmp 7) 1)⟩, ⟨none, none, (.st (.tmp 6) (.tmp 30))⟩, ⟨none, none, (.st (.tmp 7) (.tmp 31))⟩] [7, 1, 0, 0])
  .ret))))
theorem L45 : low Try.prog Try.f45.ntmps (at_ Try.f45 []) = some R45 := by kernel_rfl
theorem E45_1 : at_ Try.f45 [1, 1, 0, 1, 0] = .rangeFunc (.tmp 21) ((List.toArray [22, 23])) (at_ Try.f45 [1, 1, 0, 1, 0, 0]) (at_ Try.f45 [1, 1, 0, 1, 0, 1]) := by kernel_rfl
noncomputable def R45x1 : RC := (.reg [⟨(some 9), none, (.alc 30 [(.slice none 0 0), (.slice none 0 0), (.slice none 0 0)])⟩, ⟨none, none, (.sta (.tmp 9) (.tmp 23) 3)⟩])
theorem L45x1 : low Try.prog Try.f45.ntmps (at_ Try.f45 [1, 1, 0, 1, 0, 0]) = some R45x1 := by kernel_rfl
noncomputable def R45x2 : RC := (.block 1 (.seq (.reg [⟨(some 24), none, (.ld (.tmp 6) 1)⟩, ⟨(some 25), none, (.lda (.tmp 9) 3)⟩, ⟨(some 26), none, (.call ⟨(.value (.func 53)), (List.toArray [(.tmp 24), (.tmp 25)]), (List.toArray [90, 30])⟩ true)⟩])
  (.reg [⟨(some 27), none, (.ld (.tmp 7) 1)⟩, ⟨(some 28), none, (.lda (.tmp 9) 3)⟩, ⟨(some 29), none, (.call ⟨(.value (.func 53)), (List.toArray [(.tmp 27), (.tmp 28)]), (List.toArray [90, 30])⟩ true)⟩])))
theorem L45x2 : low Try.prog Try.f45.ntmps (at_ Try.f45 [1, 1, 0, 1, 0, 1]) = some R45x2 := by kernel_rfl
theorem N46 : Try.f46.ntmps = 38 := by kernel_rfl
theorem Z46 : Try.f46.results.toList = ((List.toArray [(.tmp 4)]) : Array ResultVar).toList := by kernel_rfl
theorem B46 : Try.f46.body = some (at_ Try.f46 []) := by kernel_rfl
noncomputable def R46 : RC := (.seq (.reg [⟨(some 4), none, (.mov (.const (.slice none 0 0)))⟩])
  (.seq (.reg [⟨(some 8), none, (.mov (.tmp 0))⟩, ⟨(some 9), none, (.nilc (.tmp 8))⟩, ⟨(some 10), none, (.addo (.tmp 9) 3)⟩, ⟨(some 11), none, (.ld (.tmp 10) 1)⟩, ⟨(some 12), none, (.len (.tmp 11))⟩, ⟨(some 13), none, (.mem ⟨(some 13), (.makeSlice 26 (.tmp 12) (.tmp 12)), 26, "", (List.toArray []), none⟩)⟩, ⟨(some 5), none, (.mov (.tmp 13))⟩])
  (.seq (.seq (.reg [⟨(some 14), none, (.mov (.tmp 0))⟩, ⟨(some 15), none, (.nilc (.tmp 14))⟩, ⟨(some 16), none, (.addo (.tmp 15) 3)⟩, ⟨(some 17), none, (.ld (.tmp 16) 1)⟩, ⟨(some 18), none, (.len (.tmp 17))⟩, ⟨(some 19), none, (.mov (.const (.int .i64 0)))⟩])
  (.block 0 (.other (at_ Try.f46 [1, 1, 0, 1, 0]))))
  (.seq (.reg [⟨(some 37), none, (.mov (.tmp 5))⟩, ⟨(some 4), none, (.mov (.tmp 37))⟩])
  .ret))))
theorem L46 : low Try.prog Try.f46.ntmps (at_ Try.f46 []) = some R46 := by kernel_rfl
theorem E46_1 : at_ Try.f46 [1, 1, 0, 1, 0] = .loop (at_ Try.f46 [1, 1, 0, 1, 0, 0]) := by kernel_rfl
noncomputable def R46x1 : RC := (.seq (.reg [⟨(some 20), none, (.cmp .lss (.tmp 19) (.tmp 18))⟩])
  (.seq (.cond (.tmp 20) .skip
  (.exit 0))
  (.seq (.block 1 (.seq (.reg [⟨(some 21), none, (.mov (.tmp 19))⟩, ⟨(some 22), none, (.idx (.tmp 17) (.tmp 19) 1)⟩, ⟨(some 23), none, (.ld (.tmp 22) 1)⟩, ⟨(some 6), none, (.mov (.tmp 21))⟩, ⟨(some 7), none, (.mov (.tmp 23))⟩])
  (.reg [⟨(some 24), none, (.mov (.tmp 5))⟩, ⟨(some 25), none, (.mov (.tmp 6))⟩, ⟨(some 26), none, (.mov (.tmp 7))⟩, ⟨(some 27), none, (.mov (.tmp 1))⟩, ⟨(some 28), none, (.nilc (.tmp 27))⟩, ⟨(some 29), none, (.addo (.tmp 28) 3)⟩, ⟨(some 30), none, (.ld (.tmp 29) 1)⟩, ⟨(some 31), none, (.mov (.tmp 6))⟩, ⟨(some 32), none, (.idx (.tmp 30) (.tmp 31) 1)⟩, ⟨(some 33), none, (.ld (.tmp 32) 1)⟩, ⟨(some 34), none, (.pur ⟨(some 34), (.build 35 (List.toArray [(0, (.tmp 26)), (1, (.tmp 33))])), 35, "", (List.toArray []), none⟩)⟩, ⟨(some 35), none, (.idx (.tmp 24) (.tmp 25) 2)⟩, ⟨none, none, (.sta (.tmp 35) (.tmp 34) 2)⟩])))
  (.reg [⟨(some 36), none, (.ari .add (.tmp 19) (.const (.int .i64 1)))⟩, ⟨(some 19), none, (.mov (.tmp 36))⟩]))))
theorem L46x1 : low Try.prog Try.f46.ntmps (at_ Try.f46 [1, 1, 0, 1, 0, 0]) = some R46x1 := by kernel_rfl
theorem N48 : Try.f48.ntmps = 42 := by kernel_rfl
theorem Z48 : Try.f48.results.toList = ((List.toArray [(.cell 4 37)]) : Array ResultVar).toList := by kernel_rfl
theorem B48 : Try.f48.body = some (at_ Try.f48 []) := by kernel_rfl
noncomputable def R48 : RC := (.seq (.reg [⟨(some 4), none, (.alc 37 [(.int .i64 0), (.int .i64 0), (.int .i64 0), (.int .i64 0), (.int .i64 0), (.int .i64 0), (.int .i64 0), (.int .i64 0)])⟩])
  (.seq (.dreg [⟨(some 5), none, (.mov (.tmp 0))⟩, ⟨(some 6), none, (.nilc (.tmp 5))⟩, ⟨(some 7), none, (.addo (.tmp 6) 5)⟩, ⟨(some 8), none, (.ld (.tmp 7) 1)⟩, ⟨(some 9), none, (.mov (.tmp 1))⟩, ⟨(some 10), none, (.nilc (.tmp 9))⟩, ⟨(some 11), none, (.addo (.tmp 10) 5)⟩, ⟨(some 12), none, (.ld (.tmp 11) 1)⟩, ⟨(some 13), none, (.pur ⟨(some 13), (.build 35 (List.toArray [(0, (.tmp 8)), (1, (.tmp 12))])), 35, "", (List.toArray []), none⟩)⟩, ⟨(some 14), none, (.mov (.tmp 0))⟩, ⟨(some 15), none, (.nilc (.tmp 14))⟩, ⟨(some 16), none, (.addo (.tmp 15) 6)⟩, ⟨(some 17), none, (.ld (.tmp 16) 1)⟩, ⟨(some 18), none, (.mov (.tmp 1))⟩, ⟨(some 19), none, (.nilc (.tmp 18))⟩, ⟨(some 20), none, (.addo (.tmp 19) 6)⟩, ⟨(some 21), none, (.ld (.tmp 20) 1)⟩, ⟨(some 22), none, (.pur ⟨(some 22), (.build 35 (List.toArray [(0, (.tmp 17)), (1, (.tmp 21))])), 35, "", (List.toArray []), none⟩)⟩, ⟨(some 23), none, (.mov (.tmp 0))⟩, ⟨(some 24), none, (.nilc (.tmp 23))⟩, ⟨(some 25), none, (.addo (.tmp 24) 7)⟩, ⟨(some 26), none, (.ld (.tmp 25) 1)⟩, ⟨(some 27), none, (.mov (.tmp 1))⟩, ⟨(some 28), none, (.nilc (.tmp 27))⟩, ⟨(some 29), none, (.addo (.tmp 28) 7)⟩, ⟨(some 30), none, (.ld (.tmp 29) 1)⟩, ⟨(some 31), none, (.pur ⟨(some 31), (.build 35 (List.toArray [(0, (.tmp 26)), (1, (.tmp 30))])), 35, "", (List.toArray []), none⟩)⟩, ⟨(some 32), none, (.mov (.tmp 0))⟩, ⟨(some 33), none, (.nilc (.tmp 32))⟩, ⟨(some 34), none, (.addo (.tmp 33) 8)⟩, ⟨(some 35), none, (.ld (.tmp 34) 1)⟩, ⟨(some 36), none, (.mov (.tmp 1))⟩, ⟨(some 37), none, (.nilc (.tmp 36))⟩, ⟨(some 38), none, (.addo (.tmp 37) 8)⟩, ⟨(some 39), none, (.ld (.tmp 38) 1)⟩, ⟨(some 40), none, (.pur ⟨(some 40), (.build 35 (List.toArray [(0, (.tmp 35)), (1, (.tmp 39))])), 35, "", (List.toArray []), none⟩)⟩, ⟨(some 41), none, (.pur ⟨(some 41), (.build 37 (List.toArray [(0, (.tmp 13)), (1, (.tmp 22)), (2, (.tmp 31)), (3, (.tmp 40))])), 37, "", (List.toArray []), none⟩)⟩, ⟨none, none, (.sta (.tmp 4) (.tmp 41) 8)⟩] [137438953471, 68719476735, 34225520640, 15032385536, 6442450944, 2147483648, 0, 939524096, 402653184, 134217728, 0, 66846720, 29360128, 12582912, 4194304, 0, 1835008, 786432, 262144, 0, 130560, 57344, 24576, 8192, 0, 3584, 1536, 512, 0, 255, 112, 48, 16, 0, 7, 3, 1, 0])
  .ret))
theorem L48 : low Try.prog Try.f48.ntmps (at_ Try.f48 []) = some R48 := by kernel_rfl
theorem N51 : Try.f51.ntmps = 20 := by kernel_rfl
theorem Z51 : Try.f51.results.toList = ((List.toArray [(.tmp 6)]) : Array ResultVar).toList := by kernel_rfl
theorem B51 : Try.f51.body = some (at_ Try.f51 []) := by kernel_rfl
noncomputable def R51 : RC := (.seq (.reg [⟨(some 3), none, (.box 25 (.tmp 0))⟩, ⟨(some 6), none, (.mov (.const (.pointer none)))⟩])
  (.seq (.dreg [⟨(some 7), none, (.mov (.tmp 2))⟩, ⟨(some 8), none, (.addo (.tmp 3) 0)⟩, ⟨(some 9), none, (.ld (.tmp 8) 1)⟩, ⟨(some 10), none, (.addo (.tmp 3) 1)⟩, ⟨(some 11), none, (.ld (.tmp 10) 1)⟩, ⟨(some 12), none, (.call ⟨(.value (.func 75)), (List.toArray [(.tmp 11)]), (List.toArray [23])⟩ false)⟩, ⟨(some 13), none, (.mov (.tmp 2))⟩, ⟨(some 14), none, (.nilc (.tmp 13))⟩, ⟨(some 15), none, (.pur ⟨(some 15), (.makeFunc (.method "fenberry/chain.end") (List.toArray [(.tmp 14)]) (List.toArray [])), 103, "", (List.toArray []), none⟩)⟩, ⟨(some 16), none, (.mov (.tmp 1))⟩, ⟨(some 17), none, (.call ⟨(.value (.func 52)), (List.toArray [(.tmp 15), (.tmp 16)]), (List.toArray [103, 26])⟩ false)⟩, ⟨(some 18), none, (.pur ⟨(some 18), (.build 107 (List.toArray [(0, (.tmp 7)), (1, (.tmp 9)), (2, (.tmp 12)), (3, (.tmp 17))])), 107, "", (List.toArray []), none⟩)⟩, ⟨(some 19), none, (.box 107 (.tmp 18))⟩, ⟨(some 6), none, (.mov (.tmp 19))⟩] [8191, 4095, 2047, 1016, 0, 192, 64, 0, 24, 8, 0, 2, 0, 0])
  .ret))
theorem L51 : low Try.prog Try.f51.ntmps (at_ Try.f51 []) = some R51 := by kernel_rfl
theorem N52 : Try.f52.ntmps = 26 := by kernel_rfl
theorem Z52 : Try.f52.results.toList = ((List.toArray [(.tmp 4)]) : Array ResultVar).toList := by kernel_rfl
theorem B52 : Try.f52.body = some (at_ Try.f52 []) := by kernel_rfl
noncomputable def R52 : RC := (.seq (.reg [⟨(some 4), none, (.mov (.const (.slice none 0 0)))⟩])
  (.seq (.reg [⟨(some 8), none, (.mov (.tmp 1))⟩, ⟨(some 9), none, (.len (.tmp 8))⟩, ⟨(some 10), none, (.mem ⟨(some 10), (.makeSlice 33 (.tmp 9) (.tmp 9)), 33, "", (List.toArray []), none⟩)⟩, ⟨(some 5), none, (.mov (.tmp 10))⟩])
  (.seq (.seq (.reg [⟨(some 11), none, (.mov (.tmp 1))⟩, ⟨(some 12), none, (.len (.tmp 11))⟩, ⟨(some 13), none, (.mov (.const (.int .i64 0)))⟩])
  (.block 0 (.other (at_ Try.f52 [1, 1, 0, 1, 0]))))
  (.seq (.reg [⟨(some 25), none, (.mov (.tmp 5))⟩, ⟨(some 4), none, (.mov (.tmp 25))⟩])
  .ret))))
theorem L52 : low Try.prog Try.f52.ntmps (at_ Try.f52 []) = some R52 := by kernel_rfl
theorem E52_1 : at_ Try.f52 [1, 1, 0, 1, 0] = .loop (at_ Try.f52 [1, 1, 0, 1, 0, 0]) := by kernel_rfl
noncomputable def R52x1 : RC := (.seq (.reg [⟨(some 14), none, (.cmp .lss (.tmp 13) (.tmp 12))⟩])
  (.seq (.cond (.tmp 14) .skip
  (.exit 0))
  (.seq (.block 1 (.seq (.reg [⟨(some 15), none, (.mov (.tmp 13))⟩, ⟨(some 16), none, (.idx (.tmp 11) (.tmp 13) 2)⟩, ⟨(some 17), none, (.lda (.tmp 16) 2)⟩, ⟨(some 7), none, (.alc 35 [(.int .i64 0), (.int .i64 0)])⟩, ⟨(some 6), none, (.mov (.tmp 15))⟩, ⟨none, none, (.sta (.tmp 7) (.tmp 17) 2)⟩])
  (.reg [⟨(some 18), none, (.mov (.tmp 5))⟩, ⟨(some 19), none, (.mov (.tmp 6))⟩, ⟨(some 20), none, (.mov (.tmp 0))⟩, ⟨(some 21), none, (.lda (.tmp 7) 2)⟩, ⟨(some 22), none, (.call ⟨(.value (.tmp 20)), (List.toArray [(.tmp 21)]), (List.toArray [35])⟩ true)⟩, ⟨(some 23), none, (.idx (.tmp 18) (.tmp 19) 1)⟩, ⟨none, none, (.st (.tmp 23) (.tmp 22))⟩])))
  (.reg [⟨(some 24), none, (.ari .add (.tmp 13) (.const (.int .i64 1)))⟩, ⟨(some 13), none, (.mov (.tmp 24))⟩]))))
theorem L52x1 : low Try.prog Try.f52.ntmps (at_ Try.f52 [1, 1, 0, 1, 0, 0]) = some R52x1 := by kernel_rfl
theorem N53 : Try.f53.ntmps = 167 := by kernel_rfl
theorem Z53 : Try.f53.results.toList = ((List.toArray []) : Array ResultVar).toList := by kernel_rfl
theorem B53 : Try.f53.body = some (at_ Try.f53 []) := by kernel_rfl
noncomputable def R53 : RC := (.seq (.reg [⟨(some 3), none, (.box 30 (.tmp 1))⟩])
  (.seq (.seq (.reg [⟨(some 17), none, (.addo (.tmp 3) 0)⟩, ⟨(some 18), none, (.ld (.tmp 17) 1)⟩, ⟨(some 19), none, (.len (.tmp 18))⟩, ⟨(some 20), none, (.mov (.const (.int .i64 0)))⟩])
  (.block 0 (.other (at_ Try.f53 [1, 0, 1, 0]))))
  (.seq (.seq (.dreg [⟨(some 35), none, (.mov (.tmp 0))⟩, ⟨(some 36), none, (.nilc (.tmp 35))⟩, ⟨(some 37), none, (.addo (.tmp 36) 0)⟩, ⟨(some 38), none, (.ld (.tmp 37) 1)⟩, ⟨(some 39), none, (.nilc (.tmp 38))⟩, ⟨(some 40), none, (.pur ⟨(some 40), (.makeFunc (.method "fenberry/chain.end") (List.toArray [(.tmp 39)]) (List.toArray [])), 103, "", (List.toArray []), none⟩)⟩, ⟨(some 41), none, (.addo (.tmp 3) 1)⟩, ⟨(some 42), none, (.ld (.tmp 41) 1)⟩, ⟨(some 43), none, (.call ⟨(.value (.func 52)), (List.toArray [(.tmp 40), (.tmp 42)]), (List.toArray [103, 26])⟩ true)⟩, ⟨(some 44), none, (.len (.tmp 43))⟩, ⟨(some 45), none, (.mov (.const (.int .i64 0)))⟩] [0, 511, 255, 64, 0, 31, 15, 7, 3, 1, 0])
  (.block 2 (.other (at_ Try.f53 [1, 1, 0, 1, 0]))))
  (.seq (.seq (.reg [⟨(some 69), none, (.mov (.tmp 0))⟩, ⟨(some 70), none, (.nilc (.tmp 69))⟩, ⟨(some 71), none, (.addo (.tmp 70) 2)⟩, ⟨(some 72), none, (.ld (.tmp 71) 1)⟩, ⟨(some 73), none, (.len (.tmp 72))⟩, ⟨(some 74), none, (.mov (.const (.int .i64 0)))⟩])
  (.block 4 (.other (at_ Try.f53 [1, 1, 1, 0, 1, 0]))))
  (.seq (.seq (.reg [⟨(some 82), none, (.addo (.tmp 3) 2)⟩, ⟨(some 83), none, (.ld (.tmp 82) 1)⟩, ⟨(some 84), none, (.len (.tmp 83))⟩, ⟨(some 85), none, (.mov (.const (.int .i64 0)))⟩])
  (.block 6 (.other (at_ Try.f53 [1, 1, 1, 1, 0, 1, 0]))))
  (.seq (.seq (.reg [⟨(some 93), none, (.mov (.tmp 0))⟩, ⟨(some 94), none, (.nilc (.tmp 93))⟩, ⟨(some 95), none, (.addo (.tmp 94) 1)⟩, ⟨(some 96), none, (.ld (.tmp 95) 1)⟩, ⟨(some 97), none, (.len (.tmp 96))⟩, ⟨(some 98), none, (.mov (.const (.int .i64 0)))⟩])
  (.block 8 (.other (at_ Try.f53 [1, 1, 1, 1, 1, 0, 1, 0]))))
  (.seq (.reg [⟨(some 140), none, (.mov (.tmp 0))⟩, ⟨(some 141), none, (.nilc (.tmp 140))⟩, ⟨(some 142), none, (.addo (.tmp 141) 1)⟩, ⟨(some 143), none, (.ld (.tmp 142) 1)⟩, ⟨(some 144), none, (.len (.tmp 143))⟩, ⟨(some 145), none, (.mov (.const (.int .i64 0)))⟩])
  (.block 10 (.other (at_ Try.f53 [1, 1, 1, 1, 1, 1, 1, 0]))))))))))
theorem L53 : low Try.prog Try.f53.ntmps (at_ Try.f53 []) = some R53 := by kernel_rfl
theorem E53_1 : at_ Try.f53 [1, 0, 1, 0] = .loop (at_ Try.f53 [1, 0, 1, 0, 0]) := by kernel_rfl
noncomputable def R53x1 : RC := (.seq (.reg [⟨(some 21), none, (.cmp .lss (.tmp 20) (.tmp 19))⟩])
  (.seq (.cond (.tmp 21) .skip
  (.exit 0))
  (.seq (.block 1 (.seq (.reg [⟨(some 22), none, (.idx (.tmp 18) (.tmp 20) 2)⟩, ⟨(some 23), none, (.lda (.tmp 22) 2)⟩, ⟨(some 5), none, (.alc 60 [(.int .i64 0), (.int .i64 0)])⟩, ⟨none, none, (.sta (.tmp 5) (.tmp 23) 2)⟩])
  (.dreg [⟨(some 24), none, (.mov (.tmp 0))⟩, ⟨(some 25), none, (.nilc (.tmp 24))⟩, ⟨(some 26), none, (.addo (.tmp 25) 2)⟩, ⟨(some 27), none, (.ld (.tmp 26) 1)⟩, ⟨(some 28), none, (.addo (.tmp 5) 0)⟩, ⟨(some 29), none, (.ld (.tmp 28) 1)⟩, ⟨(some 30), none, (.addo (.tmp 5) 1)⟩, ⟨(some 31), none, (.ld (.tmp 30) 1)⟩, ⟨(some 32), none, (.idx (.tmp 27) (.tmp 29) 6)⟩, ⟨(some 33), none, (.addo (.tmp 32) 4)⟩, ⟨none, none, (.st (.tmp 33) (.tmp 31))⟩] [1023, 511, 255, 64, 0, 16, 0, 7, 3, 1, 0])))
  (.reg [⟨(some 34), none, (.ari .add (.tmp 20) (.const (.int .i64 1)))⟩, ⟨(some 20), none, (.mov (.tmp 34))⟩]))))
theorem L53x1 : low Try.prog Try.f53.ntmps (at_ Try.f53 [1, 0, 1, 0, 0]) = some R53x1 := by kernel_rfl
theorem E53_2 : at_ Try.f53 [1, 1, 0, 1, 0] = .loop (at_ Try.f53 [1, 1, 0, 1, 0, 0]) := by kernel_rfl
noncomputable def R53x2 : RC := (.seq (.reg [⟨(some 46), none, (.cmp .lss (.tmp 45) (.tmp 44))⟩])
  (.seq (.cond (.tmp 46) .skip
  (.exit 2))
  (.seq (.block 3 (.seq (.reg [⟨(some 47), none, (.mov (.tmp 45))⟩, ⟨(some 48), none, (.idx (.tmp 43) (.tmp 45) 1)⟩, ⟨(some 49), none, (.ld (.tmp 48) 1)⟩, ⟨(some 6), none, (.mov (.tmp 47))⟩, ⟨(some 7), none, (.mov (.tmp 49))⟩])
  (.seq (.reg [⟨(some 50), none, (.mov (.tmp 0))⟩, ⟨(some 51), none, (.nilc (.tmp 50))⟩, ⟨(some 52), none, (.addo (.tmp 51) 3)⟩, ⟨(some 53), none, (.ld (.tmp 52) 1)⟩, ⟨(some 54), none, (.mov (.tmp 6))⟩, ⟨(some 55), none, (.idx (.tmp 53) (.tmp 54) 1)⟩, ⟨(some 56), none, (.ld (.tmp 55) 1)⟩, ⟨(some 57), none, (.mov (.tmp 7))⟩, ⟨(some 58), none, (.ari .add (.tmp 56) (.tmp 57))⟩, ⟨(some 59), none, (.idx (.tmp 53) (.tmp 54) 1)⟩, ⟨none, none, (.st (.tmp 59) (.tmp 58))⟩])
  (.reg [⟨(some 60), none, (.mov (.tmp 0))⟩, ⟨(some 61), none, (.nilc (.tmp 60))⟩, ⟨(some 62), none, (.addo (.tmp 61) 5)⟩, ⟨(some 63), none, (.ld (.tmp 62) 1)⟩, ⟨(some 64), none, (.mov (.tmp 7))⟩, ⟨(some 65), none, (.ari .add (.tmp 63) (.tmp 64))⟩, ⟨(some 66), none, (.nilc (.tmp 60))⟩, ⟨(some 67), none, (.addo (.tmp 66) 5)⟩, ⟨none, none, (.st (.tmp 67) (.tmp 65))⟩]))))
  (.reg [⟨(some 68), none, (.ari .add (.tmp 45) (.const (.int .i64 1)))⟩, ⟨(some 45), none, (.mov (.tmp 68))⟩]))))
theorem L53x2 : low Try.prog Try.f53.ntmps (at_ Try.f53 [1, 1, 0, 1, 0, 0]) = some R53x2 := by kernel_rfl
theorem E53_3 : at_ Try.f53 [1, 1, 1, 0, 1, 0] = .loop (at_ Try.f53 [1, 1, 1, 0, 1, 0, 0]) := by kernel_rfl
noncomputable def R53x3 : RC := (.seq (.reg [⟨(some 75), none, (.cmp .lss (.tmp 74) (.tmp 73))⟩])
  (.seq (.cond (.tmp 75) .skip
  (.exit 4))
  (.seq (.block 5 (.seq (.reg [⟨(some 76), none, (.idx (.tmp 72) (.tmp 74) 6)⟩, ⟨(some 77), none, (.lda (.tmp 76) 6)⟩, ⟨(some 9), none, (.alc 81 [(.int .i64 0), (.int .i64 0), (.int .i64 0), (.int .i64 0), (.int .i64 0), (.int .i64 0)])⟩, ⟨none, none, (.sta (.tmp 9) (.tmp 77) 6)⟩])
  (.reg [⟨(some 78), none, (.mov (.tmp 0))⟩, ⟨(some 79), none, (.lda (.tmp 9) 6)⟩, ⟨(some 80), none, (.call ⟨(.value (.func 76)), (List.toArray [(.tmp 78), (.tmp 79)]), (List.toArray [90, 81])⟩ true)⟩])))
  (.reg [⟨(some 81), none, (.ari .add (.tmp 74) (.const (.int .i64 1)))⟩, ⟨(some 74), none, (.mov (.tmp 81))⟩]))))
theorem L53x3 : low Try.prog Try.f53.ntmps (at_ Try.f53 [1, 1, 1, 0, 1, 0, 0]) = some R53x3 := by kernel_rfl
theorem E53_4 : at_ Try.f53 [1, 1, 1, 1, 0, 1, 0] = .loop (at_ Try.f53 [1, 1, 1, 1, 0, 1, 0, 0]) := by kernel_rfl
noncomputable def R53x4 : RC := (.seq (.reg [⟨(some 86), none, (.cmp .lss (.tmp 85) (.tmp 84))⟩])
  (.seq (.cond (.tmp 86) .skip
  (.exit 6))
  (.seq (.block 7 (.seq (.reg [⟨(some 87), none, (.idx (.tmp 83) (.tmp 85) 2)⟩, ⟨(some 88), none, (.lda (.tmp 87) 2)⟩, ⟨(some 11), none, (.alc 86 [(.int .i64 0), (.int .i64 0)])⟩, ⟨none, none, (.sta (.tmp 11) (.tmp 88) 2)⟩])
  (.reg [⟨(some 89), none, (.mov (.tmp 0))⟩, ⟨(some 90), none, (.lda (.tmp 11) 2)⟩, ⟨(some 91), none, (.call ⟨(.value (.func 77)), (List.toArray [(.tmp 89), (.tmp 90)]), (List.toArray [90, 86])⟩ true)⟩])))
  (.reg [⟨(some 92), none, (.ari .add (.tmp 85) (.const (.int .i64 1)))⟩, ⟨(some 85), none, (.mov (.tmp 92))⟩]))))
theorem L53x4 : low Try.prog Try.f53.ntmps (at_ Try.f53 [1, 1, 1, 1, 0, 1, 0, 0]) = some R53x4 := by kernel_rfl
theorem E53_5 : at_ Try.f53 [1, 1, 1, 1, 1, 0, 1, 0] = .loop (at_ Try.f53 [1, 1, 1, 1, 1, 0, 1, 0, 0]) := by kernel_rfl
noncomputable def R53x5 : RC := (.seq (.reg [⟨(some 99), none, (.cmp .lss (.tmp 98) (.tmp 97))⟩])
  (.seq (.cond (.tmp 99) .skip
  (.exit 8))
  (.seq (.block 9 (.seq (.reg [⟨(some 100), none, (.mov (.tmp 98))⟩, ⟨(some 101), none, (.idx (.tmp 96) (.tmp 98) 4)⟩, ⟨(some 102), none, (.lda (.tmp 101) 4)⟩, ⟨(some 13), none, (.alc 71 [(.int .i64 0), (.int .i64 0), (.int .i64 0), (.int .i64 0)])⟩, ⟨(some 12), none, (.mov (.tmp 100))⟩, ⟨none, none, (.sta (.tmp 13) (.tmp 102) 4)⟩])
  (.seq (.reg [⟨(some 103), none, (.mov (.tmp 0))⟩, ⟨(some 104), none, (.nilc (.tmp 103))⟩, ⟨(some 105), none, (.addo (.tmp 104) 3)⟩, ⟨(some 106), none, (.ld (.tmp 105) 1)⟩, ⟨(some 107), none, (.mov (.tmp 12))⟩, ⟨(some 108), none, (.idx (.tmp 106) (.tmp 107) 1)⟩, ⟨(some 109), none, (.ld (.tmp 108) 1)⟩, ⟨(some 14), none, (.mov (.tmp 109))⟩])
  (.seq (.dreg [⟨(some 110), none, (.mov (.tmp 0))⟩, ⟨(some 111), none, (.nilc (.tmp 110))⟩, ⟨(some 112), none, (.addo (.tmp 111) 3)⟩, ⟨(some 113), none, (.ld (.tmp 112) 1)⟩, ⟨(some 114), none, (.mov (.tmp 12))⟩, ⟨(some 115), none, (.mov (.tmp 0))⟩, ⟨(some 116), none, (.nilc (.tmp 115))⟩, ⟨(some 117), none, (.addo (.tmp 116) 0)⟩, ⟨(some 118), none, (.ld (.tmp 117) 1)⟩, ⟨(some 119), none, (.mov (.tmp 14))⟩, ⟨(some 120), none, (.addo (.tmp 13) 1)⟩, ⟨(some 121), none, (.lda (.tmp 120) 2)⟩, ⟨(some 122), none, (.call ⟨(.invoke (.tmp 118) "fenberry/chain.stays"), (List.toArray [(.tmp 119), (.tmp 121)]), (List.toArray [3, 35])⟩ false)⟩, ⟨(some 123), none, (.idx (.tmp 113) (.tmp 114) 1)⟩, ⟨none, none, (.st (.tmp 123) (.tmp 122))⟩] [16383, 8191, 4064, 1024, 0, 0, 224, 96, 32, 0, 0, 7, 3, 1, 0])
  (.dreg [⟨(some 124), none, (.mov (.tmp 0))⟩, ⟨(some 125), none, (.nilc (.tmp 124))⟩, ⟨(some 126), none, (.addo (.tmp 125) 6)⟩, ⟨(some 127), none, (.ld (.tmp 126) 1)⟩, ⟨(some 128), none, (.mov (.tmp 0))⟩, ⟨(some 129), none, (.nilc (.tmp 128))⟩, ⟨(some 130), none, (.addo (.tmp 129) 0)⟩, ⟨(some 131), none, (.ld (.tmp 130) 1)⟩, ⟨(some 132), none, (.mov (.tmp 14))⟩, ⟨(some 133), none, (.addo (.tmp 13) 1)⟩, ⟨(some 134), none, (.lda (.tmp 133) 2)⟩, ⟨(some 135), none, (.call ⟨(.invoke (.tmp 131) "fenberry/chain.seeps"), (List.toArray [(.tmp 132), (.tmp 134)]), (List.toArray [3, 35])⟩ false)⟩, ⟨(some 136), none, (.ari .add (.tmp 127) (.tmp 135))⟩, ⟨(some 137), none, (.nilc (.tmp 124))⟩, ⟨(some 138), none, (.addo (.tmp 137) 6)⟩, ⟨none, none, (.st (.tmp 138) (.tmp 136))⟩] [32767, 16383, 8191, 4095, 2032, 512, 0, 0, 112, 48, 16, 0, 7, 3, 1, 0])))))
  (.reg [⟨(some 139), none, (.ari .add (.tmp 98) (.const (.int .i64 1)))⟩, ⟨(some 98), none, (.mov (.tmp 139))⟩]))))
theorem L53x5 : low Try.prog Try.f53.ntmps (at_ Try.f53 [1, 1, 1, 1, 1, 0, 1, 0, 0]) = some R53x5 := by kernel_rfl
theorem E53_6 : at_ Try.f53 [1, 1, 1, 1, 1, 1, 1, 0] = .loop (at_ Try.f53 [1, 1, 1, 1, 1, 1, 1, 0, 0]) := by kernel_rfl
noncomputable def R53x6 : RC := (.seq (.reg [⟨(some 146), none, (.cmp .lss (.tmp 145) (.tmp 144))⟩])
  (.seq (.cond (.tmp 146) .skip
  (.exit 10))
  (.seq (.block 11 (.seq (.reg [⟨(some 147), none, (.mov (.tmp 145))⟩, ⟨(some 148), none, (.idx (.tmp 143) (.tmp 145) 4)⟩, ⟨(some 149), none, (.lda (.tmp 148) 4)⟩, ⟨(some 16), none, (.alc 71 [(.int .i64 0), (.int .i64 0), (.int .i64 0), (.int .i64 0)])⟩, ⟨(some 15), none, (.mov (.tmp 147))⟩, ⟨none, none, (.sta (.tmp 16) (.tmp 149) 4)⟩])
  (.dreg [⟨(some 150), none, (.mov (.tmp 0))⟩, ⟨(some 151), none, (.mov (.tmp 15))⟩, ⟨(some 152), none, (.addo (.tmp 16) 3)⟩, ⟨(some 153), none, (.ld (.tmp 152) 1)⟩, ⟨(some 154), none, (.mov (.tmp 0))⟩, ⟨(some 155), none, (.nilc (.tmp 154))⟩, ⟨(some 156), none, (.addo (.tmp 155) 3)⟩, ⟨(some 157), none, (.ld (.tmp 156) 1)⟩, ⟨(some 158), none, (.mov (.tmp 15))⟩, ⟨(some 159), none, (.idx (.tmp 157) (.tmp 158) 1)⟩, ⟨(some 160), none, (.ld (.tmp 159) 1)⟩, ⟨(some 161), none, (.addo (.tmp 16) 0)⟩, ⟨(some 162), none, (.ld (.tmp 161) 1)⟩, ⟨(some 163), none, (.ari .sub (.tmp 160) (.tmp 162))⟩, ⟨(some 164), none, (.mm false (.const (.int .i64 0)) (.tmp 163))⟩, ⟨(some 165), none, (.call ⟨(.value (.func 78)), (List.toArray [(.tmp 150), (.tmp 151), (.tmp 153), (.tmp 164)]), (List.toArray [90, 3, 3, 3])⟩ true)⟩] [32767, 16368, 8176, 2048, 0, 1008, 496, 0, 112, 48, 16, 0, 4, 0, 0, 0])))
  (.reg [⟨(some 166), none, (.ari .add (.tmp 145) (.const (.int .i64 1)))⟩, ⟨(some 145), none, (.mov (.tmp 166))⟩]))))
theorem L53x6 : low Try.prog Try.f53.ntmps (at_ Try.f53 [1, 1, 1, 1, 1, 1, 1, 0, 0]) = some R53x6 := by kernel_rfl
theorem N54 : Try.f54.ntmps = 23 := by kernel_rfl
theorem Z54 : Try.f54.results.toList = ((List.toArray [(.tmp 4), (.tmp 5)]) : Array ResultVar).toList := by kernel_rfl
theorem B54 : Try.f54.body = some (at_ Try.f54 []) := by kernel_rfl
noncomputable def R54 : RC := (.seq (.reg [⟨(some 4), none, (.mov (.const (.int .i64 0)))⟩, ⟨(some 5), none, (.mov (.const (.bool false)))⟩])
  (.seq (.seq (.reg [⟨(some 8), none, (.mov (.tmp 0))⟩, ⟨(some 9), none, (.len (.tmp 8))⟩, ⟨(some 10), none, (.mov (.const (.int .i64 0)))⟩])
  (.block 0 (.other (at_ Try.f54 [1, 0, 1, 0]))))
  (.seq (.reg [⟨(some 4), none, (.mov (.const (.int .i64 0)))⟩, ⟨(some 5), none, (.mov (.const (.bool false)))⟩])
  .ret)))
theorem L54 : low Try.prog Try.f54.ntmps (at_ Try.f54 []) = some R54 := by kernel_rfl
theorem E54_1 : at_ Try.f54 [1, 0, 1, 0] = .loop (at_ Try.f54 [1, 0, 1, 0, 0]) := by kernel_rfl
noncomputable def R54x1 : RC := (.seq (.reg [⟨(some 11), none, (.cmp .lss (.tmp 10) (.tmp 9))⟩])
  (.seq (.cond (.tmp 11) .skip
  (.exit 0))
  (.seq (.block 1 (.seq (.reg [⟨(some 12), none, (.mov (.tmp 10))⟩, ⟨(some 13), none, (.idx (.tmp 8) (.tmp 10) 1)⟩, ⟨(some 14), none, (.ld (.tmp 13) 1)⟩, ⟨(some 6), none, (.mov (.tmp 12))⟩, ⟨(some 7), none, (.mov (.tmp 14))⟩])
  (.seq (.reg [⟨(some 15), none, (.mov (.tmp 7))⟩, ⟨(some 16), none, (.mov (.tmp 1))⟩, ⟨(some 17), none, (.mov (.tmp 6))⟩, ⟨(some 18), none, (.idx (.tmp 16) (.tmp 17) 1)⟩, ⟨(some 19), none, (.ld (.tmp 18) 1)⟩, ⟨(some 20), none, (.cmp .lss (.tmp 15) (.tmp 19))⟩])
  (.cond (.tmp 20) (.seq (.reg [⟨(some 21), none, (.mov (.tmp 6))⟩, ⟨(some 4), none, (.mov (.tmp 21))⟩, ⟨(some 5), none, (.mov (.const (.bool true)))⟩])
  .ret)
  .skip))))
  (.reg [⟨(some 22), none, (.ari .add (.tmp 10) (.const (.int .i64 1)))⟩, ⟨(some 10), none, (.mov (.tmp 22))⟩]))))
theorem L54x1 : low Try.prog Try.f54.ntmps (at_ Try.f54 [1, 0, 1, 0, 0]) = some R54x1 := by kernel_rfl
theorem N55 : Try.f55.ntmps = 53 := by kernel_rfl
theorem Z55 : Try.f55.results.toList = ((List.toArray [(.tmp 2)]) : Array ResultVar).toList := by kernel_rfl
theorem B55 : Try.f55.body = some (at_ Try.f55 []) := by kernel_rfl
noncomputable def R55 : RC := (.seq (.reg [⟨(some 1), none, (.box 25 (.tmp 0))⟩, ⟨(some 2), none, (.mov (.const (.bool false)))⟩])
  (.seq (.seq (.reg [⟨(some 7), none, (.addo (.tmp 1) 0)⟩, ⟨(some 8), none, (.ld (.tmp 7) 1)⟩, ⟨(some 9), none, (.len (.tmp 8))⟩, ⟨(some 10), none, (.cmpb .lss (.tmp 9) (.const (.int .i64 1)))⟩, ⟨(some 11), none, (.mov (.tmp 10))⟩, ⟨(some 12), (some (11, false)), (.addo (.tmp 1) 0)⟩, ⟨(some 13), (some (11, false)), (.ld (.tmp 12) 1)⟩, ⟨(some 14), (some (11, false)), (.len (.tmp 13))⟩, ⟨(some 15), (some (11, false)), (.cmpb .gtr (.tmp 14) (.const (.int .i64 16)))⟩, ⟨(some 16), none, (.pur ⟨(some 16), (.pick (.tmp 11) (.const (.bool true)) (.tmp 15)), 4, "", (List.toArray []), none⟩)⟩, ⟨(some 17), none, (.mov (.tmp 16))⟩, ⟨(some 18), (some (17, false)), (.addo (.tmp 1) 1)⟩, ⟨(some 19), (some (17, false)), (.ld (.tmp 18) 1)⟩, ⟨(some 20), (some (17, false)), (.len (.tmp 19))⟩, ⟨(some 21), (some (17, false)), (.cmpb .gtr (.tmp 20) (.const (.int .i64 32)))⟩, ⟨(some 22), none, (.pur ⟨(some 22), (.pick (.tmp 17) (.const (.bool true)) (.tmp 21)), 4, "", (List.toArray []), none⟩)⟩])
  (.cond (.tmp 22) (.seq (.reg [⟨(some 2), none, (.mov (.const (.bool false)))⟩])
  .ret)
  .skip))
  (.seq (.seq (.reg [⟨(some 23), none, (.addo (.tmp 1) 0)⟩, ⟨(some 24), none, (.ld (.tmp 23) 1)⟩, ⟨(some 25), none, (.len (.tmp 24))⟩, ⟨(some 26), none, (.mov (.const (.int .i64 0)))⟩])
  (.block 0 (.other (at_ Try.f55 [1, 1, 0, 1, 0]))))
  (.seq (.seq (.reg [⟨(some 39), none, (.addo (.tmp 1) 1)⟩, ⟨(some 40), none, (.ld (.tmp 39) 1)⟩, ⟨(some 41), none, (.len (.tmp 40))⟩, ⟨(some 42), none, (.mov (.const (.int .i64 0)))⟩])
  (.block 2 (.other (at_ Try.f55 [1, 1, 1, 0, 1, 0]))))
  (.seq (.reg [⟨(some 2), none, (.mov (.const (.bool true)))⟩])
  .ret)))))
theorem L55 : low Try.prog Try.f55.ntmps (at_ Try.f55 []) = some R55 := by kernel_rfl
theorem E55_1 : at_ Try.f55 [1, 1, 0, 1, 0] = .loop (at_ Try.f55 [1, 1, 0, 1, 0, 0]) := by kernel_rfl
noncomputable def R55x1 : RC := (.seq (.reg [⟨(some 27), none, (.cmp .lss (.tmp 26) (.tmp 25))⟩])
  (.seq (.cond (.tmp 27) .skip
  (.exit 0))
  (.seq (.block 1 (.seq (.reg [⟨(some 28), none, (.mov (.tmp 26))⟩, ⟨(some 29), none, (.idx (.tmp 24) (.tmp 26) 4)⟩, ⟨(some 30), none, (.lda (.tmp 29) 4)⟩, ⟨(some 4), none, (.alc 71 [(.int .i64 0), (.int .i64 0), (.int .i64 0), (.int .i64 0)])⟩, ⟨(some 3), none, (.mov (.tmp 28))⟩, ⟨none, none, (.sta (.tmp 4) (.tmp 30) 4)⟩])
  (.seq (.reg [⟨(some 31), none, (.lda (.tmp 4) 4)⟩, ⟨(some 32), none, (.mov (.tmp 3))⟩, ⟨(some 33), none, (.addo (.tmp 1) 0)⟩, ⟨(some 34), none, (.ld (.tmp 33) 1)⟩, ⟨(some 35), none, (.len (.tmp 34))⟩, ⟨(some 36), none, (.call ⟨(.value (.func 79)), (List.toArray [(.tmp 31), (.tmp 32), (.tmp 35)]), (List.toArray [71, 3, 3])⟩ true)⟩, ⟨(some 37), none, (.pur ⟨(some 37), (.unOp .not 4 (.tmp 36)), 4, "", (List.toArray []), none⟩)⟩])
  (.cond (.tmp 37) (.seq (.reg [⟨(some 2), none, (.mov (.const (.bool false)))⟩])
  .ret)
  .skip))))
  (.reg [⟨(some 38), none, (.ari .add (.tmp 26) (.const (.int .i64 1)))⟩, ⟨(some 26), none, (.mov (.tmp 38))⟩]))))
theorem L55x1 : low Try.prog Try.f55.ntmps (at_ Try.f55 [1, 1, 0, 1, 0, 0]) = some R55x1 := by kernel_rfl
theorem E55_2 : at_ Try.f55 [1, 1, 1, 0, 1, 0] = .loop (at_ Try.f55 [1, 1, 1, 0, 1, 0, 0]) := by kernel_rfl
noncomputable def R55x2 : RC := (.seq (.reg [⟨(some 43), none, (.cmp .lss (.tmp 42) (.tmp 41))⟩])
  (.seq (.cond (.tmp 43) .skip
  (.exit 2))
  (.seq (.block 3 (.seq (.reg [⟨(some 44), none, (.idx (.tmp 40) (.tmp 42) 6)⟩, ⟨(some 45), none, (.lda (.tmp 44) 6)⟩, ⟨(some 6), none, (.alc 81 [(.int .i64 0), (.int .i64 0), (.int .i64 0), (.int .i64 0), (.int .i64 0), (.int .i64 0)])⟩, ⟨none, none, (.sta (.tmp 6) (.tmp 45) 6)⟩])
  (.seq (.reg [⟨(some 46), none, (.lda (.tmp 6) 6)⟩, ⟨(some 47), none, (.addo (.tmp 1) 0)⟩, ⟨(some 48), none, (.ld (.tmp 47) 1)⟩, ⟨(some 49), none, (.len (.tmp 48))⟩, ⟨(some 50), none, (.call ⟨(.value (.func 80)), (List.toArray [(.tmp 46), (.tmp 49)]), (List.toArray [81, 3])⟩ true)⟩, ⟨(some 51), none, (.pur ⟨(some 51), (.unOp .not 4 (.tmp 50)), 4, "", (List.toArray []), none⟩)⟩])
  (.cond (.tmp 51) (.seq (.reg [⟨(some 2), none, (.mov (.const (.bool false)))⟩])
  .ret)
  .skip))))
  (.reg [⟨(some 52), none, (.ari .add (.tmp 42) (.const (.int .i64 1)))⟩, ⟨(some 42), none, (.mov (.tmp 52))⟩]))))
theorem L55x2 : low Try.prog Try.f55.ntmps (at_ Try.f55 [1, 1, 1, 0, 1, 0, 0]) = some R55x2 := by kernel_rfl
theorem N58 : Try.f58.ntmps = 36 := by kernel_rfl
theorem Z58 : Try.f58.results.toList = ((List.toArray [(.tmp 4)]) : Array ResultVar).toList := by kernel_rfl
theorem B58 : Try.f58.body = some (at_ Try.f58 []) := by kernel_rfl
noncomputable def R58 : RC := (.seq (.reg [⟨(some 2), none, (.box 25 (.tmp 0))⟩, ⟨(some 4), none, (.mov (.const (.bool false)))⟩])
  (.seq (.seq (.reg [⟨(some 7), none, (.mov (.tmp 1))⟩, ⟨(some 8), none, (.len (.tmp 7))⟩, ⟨(some 9), none, (.addo (.tmp 2) 0)⟩, ⟨(some 10), none, (.ld (.tmp 9) 1)⟩, ⟨(some 11), none, (.len (.tmp 10))⟩, ⟨(some 12), none, (.cmp .neq (.tmp 8) (.tmp 11))⟩])
  (.cond (.tmp 12) (.seq (.reg [⟨(some 4), none, (.mov (.const (.bool false)))⟩])
  .ret)
  .skip))
  (.seq (.seq (.reg [⟨(some 13), none, (.addo (.tmp 2) 0)⟩, ⟨(some 14), none, (.ld (.tmp 13) 1)⟩, ⟨(some 15), none, (.len (.tmp 14))⟩, ⟨(some 16), none, (.mov (.const (.int .i64 0)))⟩])
  (.block 0 (.other (at_ Try.f58 [1, 1, 0, 1, 0]))))
  (.seq (.reg [⟨(some 4), none, (.mov (.const (.bool true)))⟩])
  .ret))))
theorem L58 : low Try.prog Try.f58.ntmps (at_ Try.f58 []) = some R58 := by kernel_rfl
theorem E58_1 : at_ Try.f58 [1, 1, 0, 1, 0] = .loop (at_ Try.f58 [1, 1, 0, 1, 0, 0]) := by kernel_rfl
noncomputable def R58x1 : RC := (.seq (.reg [⟨(some 17), none, (.cmp .lss (.tmp 16) (.tmp 15))⟩])
  (.seq (.cond (.tmp 17) .skip
  (.exit 0))
  (.seq (.block 1 (.seq (.reg [⟨(some 18), none, (.mov (.tmp 16))⟩, ⟨(some 19), none, (.idx (.tmp 14) (.tmp 16) 4)⟩, ⟨(some 20), none, (.lda (.tmp 19) 4)⟩, ⟨(some 6), none, (.alc 71 [(.int .i64 0), (.int .i64 0), (.int .i64 0), (.int .i64 0)])⟩, ⟨(some 5), none, (.mov (.tmp 18))⟩, ⟨none, none, (.sta (.tmp 6) (.tmp 20) 4)⟩])
  (.seq (.dreg [⟨(some 21), none, (.mov (.tmp 1))⟩, ⟨(some 22), none, (.mov (.tmp 5))⟩, ⟨(some 23), none, (.idx (.tmp 21) (.tmp 22) 1)⟩, ⟨(some 24), none, (.ld (.tmp 23) 1)⟩, ⟨(some 25), none, (.cmpb .lss (.tmp 24) (.const (.int .i64 0)))⟩, ⟨(some 26), none, (.mov (.tmp 25))⟩, ⟨(some 27), (some (26, false)), (.mov (.tmp 1))⟩, ⟨(some 28), (some (26, false)), (.mov (.tmp 5))⟩, ⟨(some 29), (some (26, false)), (.idx (.tmp 27) (.tmp 28) 1)⟩, ⟨(some 30), (some (26, false)), (.ld (.tmp 29) 1)⟩, ⟨(some 31), (some (26, false)), (.addo (.tmp 6) 0)⟩, ⟨(some 32), (some (26, false)), (.ld (.tmp 31) 1)⟩, ⟨(some 33), (some (26, false)), (.cmpb .gtr (.tmp 30) (.tmp 32))⟩, ⟨(some 34), none, (.pur ⟨(some 34), (.pick (.tmp 26) (.const (.bool true)) (.tmp 33)), 4, "", (List.toArray []), none⟩)⟩] [8191, 4095, 1087, 63, 511, 255, 63, 63, 31, 15, 7, 3, 0, 0])
  (.cond (.tmp 34) (.seq (.reg [⟨(some 4), none, (.mov (.const (.bool false)))⟩])
  .ret)
  .skip))))
  (.reg [⟨(some 35), none, (.ari .add (.tmp 16) (.const (.int .i64 1)))⟩, ⟨(some 16), none, (.mov (.tmp 35))⟩]))))
theorem L58x1 : low Try.prog Try.f58.ntmps (at_ Try.f58 [1, 1, 0, 1, 0, 0]) = some R58x1 := by kernel_rfl
theorem N59 : Try.f59.ntmps = 6 := by kernel_rfl
theorem Z59 : Try.f59.results.toList = ((List.toArray [(.tmp 4)]) : Array ResultVar).toList := by kernel_rfl
theorem B59 : Try.f59.body = some (at_ Try.f59 []) := by kernel_rfl
noncomputable def R59 : RC := (.seq (.reg [⟨(some 2), none, (.box 47 (.tmp 0))⟩, ⟨(some 3), none, (.box 28 (.tmp 1))⟩, ⟨(some 4), none, (.mov (.const .nilFunc))⟩])
  (.seq (.reg [⟨(some 5), none, (.pur ⟨(some 5), (.makeFunc (.func 81) (List.toArray []) (List.toArray [(.tmp 2), (.tmp 3)])), 113, "", (List.toArray []), none⟩)⟩, ⟨(some 4), none, (.mov (.tmp 5))⟩])
  .ret))
theorem L59 : low Try.prog Try.f59.ntmps (at_ Try.f59 []) = some R59 := by kernel_rfl
theorem N61 : Try.f61.ntmps = 12 := by kernel_rfl
theorem Z61 : Try.f61.results.toList = ((List.toArray [(.tmp 4)]) : Array ResultVar).toList := by kernel_rfl
theorem B61 : Try.f61.body = some (at_ Try.f61 []) := by kernel_rfl
noncomputable def R61 : RC := (.seq (.reg [⟨(some 4), none, (.mov (.const (.bool false)))⟩])
  (.seq (.reg [⟨(some 5), none, (.mov (.tmp 0))⟩, ⟨(some 6), none, (.cmpb .geq (.tmp 5) (.const (.int .i64 0)))⟩, ⟨(some 7), none, (.mov (.tmp 6))⟩, ⟨(some 8), (some (7, true)), (.mov (.tmp 0))⟩, ⟨(some 9), (some (7, true)), (.mov (.tmp 1))⟩, ⟨(some 10), (some (7, true)), (.cmpb .lss (.tmp 8) (.tmp 9))⟩, ⟨(some 11), none, (.pur ⟨(some 11), (.pick (.tmp 7) (.tmp 10) (.const (.bool false))), 4, "", (List.toArray []), none⟩)⟩, ⟨(some 4), none, (.mov (.tmp 11))⟩])
  .ret))
theorem L61 : low Try.prog Try.f61.ntmps (at_ Try.f61 []) = some R61 := by kernel_rfl
theorem N66 : Try.f66.ntmps = 15 := by kernel_rfl
theorem Z66 : Try.f66.results.toList = ((List.toArray [(.tmp 6)]) : Array ResultVar).toList := by kernel_rfl
theorem B66 : Try.f66.body = some (at_ Try.f66 []) := by kernel_rfl
noncomputable def R66 : RC := (.seq (.reg [⟨(some 6), none, (.mov (.const (.bool false)))⟩])
  (.seq (.reg [⟨(some 7), none, (.mov (.tmp 1))⟩, ⟨(some 8), none, (.mov (.tmp 0))⟩, ⟨(some 9), none, (.cmpb .leq (.tmp 7) (.tmp 8))⟩, ⟨(some 10), none, (.mov (.tmp 9))⟩, ⟨(some 11), (some (10, true)), (.mov (.tmp 0))⟩, ⟨(some 12), (some (10, true)), (.mov (.tmp 2))⟩, ⟨(some 13), (some (10, true)), (.cmpb .leq (.tmp 11) (.tmp 12))⟩, ⟨(some 14), none, (.pur ⟨(some 14), (.pick (.tmp 10) (.tmp 13) (.const (.bool false))), 4, "", (List.toArray []), none⟩)⟩, ⟨(some 6), none, (.mov (.tmp 14))⟩])
  .ret))
theorem L66 : low Try.prog Try.f66.ntmps (at_ Try.f66 []) = some R66 := by kernel_rfl
theorem N68 : Try.f68.ntmps = 24 := by kernel_rfl
theorem Z68 : Try.f68.results.toList = ((List.toArray [(.tmp 6)]) : Array ResultVar).toList := by kernel_rfl
theorem B68 : Try.f68.body = some (at_ Try.f68 []) := by kernel_rfl
noncomputable def R68 : RC := (.seq (.reg [⟨(some 3), none, (.box 35 (.tmp 0))⟩, ⟨(some 6), none, (.mov (.const (.bool false)))⟩])
  (.seq (.reg [⟨(some 7), none, (.mov (.tmp 1))⟩, ⟨(some 8), none, (.addo (.tmp 3) 0)⟩, ⟨(some 9), none, (.ld (.tmp 8) 1)⟩, ⟨(some 10), none, (.cmpb .leq (.tmp 7) (.tmp 9))⟩, ⟨(some 11), none, (.mov (.tmp 10))⟩, ⟨(some 12), (some (11, true)), (.addo (.tmp 3) 0)⟩, ⟨(some 13), (some (11, true)), (.ld (.tmp 12) 1)⟩, ⟨(some 14), (some (11, true)), (.addo (.tmp 3) 1)⟩, ⟨(some 15), (some (11, true)), (.ld (.tmp 14) 1)⟩, ⟨(some 16), (some (11, true)), (.cmpb .leq (.tmp 13) (.tmp 15))⟩, ⟨(some 17), none, (.pur ⟨(some 17), (.pick (.tmp 11) (.tmp 16) (.const (.bool false))), 4, "", (List.toArray []), none⟩)⟩, ⟨(some 18), none, (.mov (.tmp 17))⟩, ⟨(some 19), (some (18, true)), (.addo (.tmp 3) 1)⟩, ⟨(some 20), (some (18, true)), (.ld (.tmp 19) 1)⟩, ⟨(some 21), (some (18, true)), (.mov (.tmp 2))⟩, ⟨(some 22), (some (18, true)), (.cmpb .leq (.tmp 20) (.tmp 21))⟩, ⟨(some 23), none, (.pur ⟨(some 23), (.pick (.tmp 18) (.tmp 22) (.const (.bool false))), 4, "", (List.toArray []), none⟩)⟩, ⟨(some 6), none, (.mov (.tmp 23))⟩])
  .ret))
theorem L68 : low Try.prog Try.f68.ntmps (at_ Try.f68 []) = some R68 := by kernel_rfl
theorem N70 : Try.f70.ntmps = 30 := by kernel_rfl
theorem Z70 : Try.f70.results.toList = ((List.toArray [(.tmp 4)]) : Array ResultVar).toList := by kernel_rfl
theorem B70 : Try.f70.body = some (at_ Try.f70 []) := by kernel_rfl
noncomputable def R70 : RC := (.seq (.reg [⟨(some 2), none, (.box 25 (.tmp 0))⟩, ⟨(some 4), none, (.mov (.const (.bool false)))⟩])
  (.seq (.seq (.reg [⟨(some 7), none, (.mov (.tmp 1))⟩, ⟨(some 8), none, (.len (.tmp 7))⟩, ⟨(some 9), none, (.addo (.tmp 2) 0)⟩, ⟨(some 10), none, (.ld (.tmp 9) 1)⟩, ⟨(some 11), none, (.len (.tmp 10))⟩, ⟨(some 12), none, (.cmp .neq (.tmp 8) (.tmp 11))⟩])
  (.cond (.tmp 12) (.seq (.reg [⟨(some 4), none, (.mov (.const (.bool false)))⟩])
  .ret)
  .skip))
  (.seq (.seq (.reg [⟨(some 13), none, (.addo (.tmp 2) 0)⟩, ⟨(some 14), none, (.ld (.tmp 13) 1)⟩, ⟨(some 15), none, (.len (.tmp 14))⟩, ⟨(some 16), none, (.mov (.const (.int .i64 0)))⟩])
  (.block 0 (.other (at_ Try.f70 [1, 1, 0, 1, 0]))))
  (.seq (.reg [⟨(some 4), none, (.mov (.const (.bool true)))⟩])
  .ret))))
theorem L70 : low Try.prog Try.f70.ntmps (at_ Try.f70 []) = some R70 := by kernel_rfl
theorem E70_1 : at_ Try.f70 [1, 1, 0, 1, 0] = .loop (at_ Try.f70 [1, 1, 0, 1, 0, 0]) := by kernel_rfl
noncomputable def R70x1 : RC := (.seq (.reg [⟨(some 17), none, (.cmp .lss (.tmp 16) (.tmp 15))⟩])
  (.seq (.cond (.tmp 17) .skip
  (.exit 0))
  (.seq (.block 1 (.seq (.reg [⟨(some 18), none, (.mov (.tmp 16))⟩, ⟨(some 19), none, (.idx (.tmp 14) (.tmp 16) 4)⟩, ⟨(some 20), none, (.lda (.tmp 19) 4)⟩, ⟨(some 6), none, (.alc 71 [(.int .i64 0), (.int .i64 0), (.int .i64 0), (.int .i64 0)])⟩, ⟨(some 5), none, (.mov (.tmp 18))⟩, ⟨none, none, (.sta (.tmp 6) (.tmp 20) 4)⟩])
  (.seq (.dreg [⟨(some 21), none, (.mov (.tmp 1))⟩, ⟨(some 22), none, (.mov (.tmp 5))⟩, ⟨(some 23), none, (.idx (.tmp 21) (.tmp 22) 2)⟩, ⟨(some 24), none, (.lda (.tmp 23) 2)⟩, ⟨(some 25), none, (.addo (.tmp 6) 0)⟩, ⟨(some 26), none, (.ld (.tmp 25) 1)⟩, ⟨(some 27), none, (.call ⟨(.value (.func 84)), (List.toArray [(.tmp 24), (.tmp 26)]), (List.toArray [35, 3])⟩ true)⟩, ⟨(some 28), none, (.pur ⟨(some 28), (.unOp .not 4 (.tmp 27)), 4, "", (List.toArray []), none⟩)⟩] [127, 63, 16, 0, 7, 3, 0, 0])
  (.cond (.tmp 28) (.seq (.reg [⟨(some 4), none, (.mov (.const (.bool false)))⟩])
  .ret)
  .skip))))
  (.reg [⟨(some 29), none, (.ari .add (.tmp 16) (.const (.int .i64 1)))⟩, ⟨(some 16), none, (.mov (.tmp 29))⟩]))))
theorem L70x1 : low Try.prog Try.f70.ntmps (at_ Try.f70 [1, 1, 0, 1, 0, 0]) = some R70x1 := by kernel_rfl
theorem N71 : Try.f71.ntmps = 83 := by kernel_rfl
theorem Z71 : Try.f71.results.toList = ((List.toArray [(.tmp 4)]) : Array ResultVar).toList := by kernel_rfl
theorem B71 : Try.f71.body = some (at_ Try.f71 []) := by kernel_rfl
noncomputable def R71 : RC := (.seq (.reg [⟨(some 2), none, (.box 25 (.tmp 0))⟩, ⟨(some 3), none, (.box 30 (.tmp 1))⟩, ⟨(some 4), none, (.mov (.const (.bool false)))⟩])
  (.seq (.seq (.reg [⟨(some 11), none, (.addo (.tmp 3) 0)⟩, ⟨(some 12), none, (.ld (.tmp 11) 1)⟩, ⟨(some 13), none, (.len (.tmp 12))⟩, ⟨(some 14), none, (.cmpb .gtr (.tmp 13) (.const (.int .i64 32)))⟩, ⟨(some 15), none, (.mov (.tmp 14))⟩, ⟨(some 16), (some (15, false)), (.addo (.tmp 3) 1)⟩, ⟨(some 17), (some (15, false)), (.ld (.tmp 16) 1)⟩, ⟨(some 18), (some (15, false)), (.len (.tmp 17))⟩, ⟨(some 19), (some (15, false)), (.addo (.tmp 2) 0)⟩, ⟨(some 20), (some (15, false)), (.ld (.tmp 19) 1)⟩, ⟨(some 21), (some (15, false)), (.len (.tmp 20))⟩, ⟨(some 22), (some (15, false)), (.cmpb .neq (.tmp 18) (.tmp 21))⟩, ⟨(some 23), none, (.pur ⟨(some 23), (.pick (.tmp 15) (.const (.bool true)) (.tmp 22)), 4, "", (List.toArray []), none⟩)⟩, ⟨(some 24), none, (.mov (.tmp 23))⟩, ⟨(some 25), (some (24, false)), (.addo (.tmp 3) 2)⟩, ⟨(some 26), (some (24, false)), (.ld (.tmp 25) 1)⟩, ⟨(some 27), (some (24, false)), (.len (.tmp 26))⟩, ⟨(some 28), (some (24, false)), (.cmpb .gtr (.tmp 27) (.const (.int .i64 32)))⟩, ⟨(some 29), none, (.pur ⟨(some 29), (.pick (.tmp 24) (.const (.bool true)) (.tmp 28)), 4, "", (List.toArray []), none⟩)⟩])
  (.cond (.tmp 29) (.seq (.reg [⟨(some 4), none, (.mov (.const (.bool false)))⟩])
  .ret)
  .skip))
  (.seq (.seq (.reg [⟨(some 30), none, (.addo (.tmp 3) 0)⟩, ⟨(some 31), none, (.ld (.tmp 30) 1)⟩, ⟨(some 32), none, (.len (.tmp 31))⟩, ⟨(some 33), none, (.mov (.const (.int .i64 0)))⟩])
  (.block 0 (.other (at_ Try.f71 [1, 1, 0, 1, 0]))))
  (.seq (.seq (.reg [⟨(some 51), none, (.addo (.tmp 3) 1)⟩, ⟨(some 52), none, (.ld (.tmp 51) 1)⟩, ⟨(some 53), none, (.len (.tmp 52))⟩, ⟨(some 54), none, (.mov (.const (.int .i64 0)))⟩])
  (.block 2 (.other (at_ Try.f71 [1, 1, 1, 0, 1, 0]))))
  (.seq (.seq (.reg [⟨(some 62), none, (.addo (.tmp 3) 2)⟩, ⟨(some 63), none, (.ld (.tmp 62) 1)⟩, ⟨(some 64), none, (.len (.tmp 63))⟩, ⟨(some 65), none, (.mov (.const (.int .i64 0)))⟩])
  (.block 4 (.other (at_ Try.f71 [1, 1, 1, 1, 0, 1, 0]))))
  (.seq (.reg [⟨(some 4), none, (.mov (.const (.bool true)))⟩])
  .ret))))))
theorem L71 : low Try.prog Try.f71.ntmps (at_ Try.f71 []) = some R71 := by kernel_rfl
theorem E71_1 : at_ Try.f71 [1, 1, 0, 1, 0] = .loop (at_ Try.f71 [1, 1, 0, 1, 0, 0]) := by kernel_rfl
noncomputable def R71x1 : RC := (.seq (.reg [⟨(some 34), none, (.cmp .lss (.tmp 33) (.tmp 32))⟩])
  (.seq (.cond (.tmp 34) .skip
  (.exit 0))
  (.seq (.block 1 (.seq (.reg [⟨(some 35), none, (.idx (.tmp 31) (.tmp 33) 2)⟩, ⟨(some 36), none, (.lda (.tmp 35) 2)⟩, ⟨(some 6), none, (.alc 60 [(.int .i64 0), (.int .i64 0)])⟩, ⟨none, none, (.sta (.tmp 6) (.tmp 36) 2)⟩])
  (.seq (.reg [⟨(some 37), none, (.addo (.tmp 6) 0)⟩, ⟨(some 38), none, (.ld (.tmp 37) 1)⟩, ⟨(some 39), none, (.addo (.tmp 2) 1)⟩, ⟨(some 40), none, (.ld (.tmp 39) 1)⟩, ⟨(some 41), none, (.len (.tmp 40))⟩, ⟨(some 42), none, (.call ⟨(.value (.func 61)), (List.toArray [(.tmp 38), (.tmp 41)]), (List.toArray [3, 3])⟩ true)⟩, ⟨(some 43), none, (.pur ⟨(some 43), (.unOp .not 4 (.tmp 42)), 4, "", (List.toArray []), none⟩)⟩, ⟨(some 44), none, (.mov (.tmp 43))⟩, ⟨(some 45), (some (44, false)), (.addo (.tmp 6) 1)⟩, ⟨(some 46), (some (44, false)), (.ld (.tmp 45) 1)⟩, ⟨(some 47), (some (44, false)), (.call ⟨(.value (.func 85)), (List.toArray [(.tmp 46)]), (List.toArray [3])⟩ true)⟩, ⟨(some 48), (some (44, false)), (.pur ⟨(some 48), (.unOp .not 4 (.tmp 47)), 4, "", (List.toArray []), none⟩)⟩, ⟨(some 49), none, (.pur ⟨(some 49), (.pick (.tmp 44) (.const (.bool true)) (.tmp 48)), 4, "", (List.toArray []), none⟩)⟩])
  (.cond (.tmp 49) (.seq (.reg [⟨(some 4), none, (.mov (.const (.bool false)))⟩])
  .ret)
  .skip))))
  (.reg [⟨(some 50), none, (.ari .add (.tmp 33) (.const (.int .i64 1)))⟩, ⟨(some 33), none, (.mov (.tmp 50))⟩]))))
theorem L71x1 : low Try.prog Try.f71.ntmps (at_ Try.f71 [1, 1, 0, 1, 0, 0]) = some R71x1 := by kernel_rfl
theorem E71_2 : at_ Try.f71 [1, 1, 1, 0, 1, 0] = .loop (at_ Try.f71 [1, 1, 1, 0, 1, 0, 0]) := by kernel_rfl
noncomputable def R71x2 : RC := (.seq (.reg [⟨(some 55), none, (.cmp .lss (.tmp 54) (.tmp 53))⟩])
  (.seq (.cond (.tmp 55) .skip
  (.exit 2))
  (.seq (.block 3 (.seq (.reg [⟨(some 56), none, (.idx (.tmp 52) (.tmp 54) 2)⟩, ⟨(some 57), none, (.lda (.tmp 56) 2)⟩, ⟨(some 8), none, (.alc 35 [(.int .i64 0), (.int .i64 0)])⟩, ⟨none, none, (.sta (.tmp 8) (.tmp 57) 2)⟩])
  (.seq (.reg [⟨(some 58), none, (.lda (.tmp 8) 2)⟩, ⟨(some 59), none, (.call ⟨(.value (.func 84)), (List.toArray [(.tmp 58), (.const (.int .i64 68719476736))]), (List.toArray [35, 3])⟩ true)⟩, ⟨(some 60), none, (.pur ⟨(some 60), (.unOp .not 4 (.tmp 59)), 4, "", (List.toArray []), none⟩)⟩])
  (.cond (.tmp 60) (.seq (.reg [⟨(some 4), none, (.mov (.const (.bool false)))⟩])
  .ret)
  .skip))))
  (.reg [⟨(some 61), none, (.ari .add (.tmp 54) (.const (.int .i64 1)))⟩, ⟨(some 54), none, (.mov (.tmp 61))⟩]))))
theorem L71x2 : low Try.prog Try.f71.ntmps (at_ Try.f71 [1, 1, 1, 0, 1, 0, 0]) = some R71x2 := by kernel_rfl
theorem E71_3 : at_ Try.f71 [1, 1, 1, 1, 0, 1, 0] = .loop (at_ Try.f71 [1, 1, 1, 1, 0, 1, 0, 0]) := by kernel_rfl
noncomputable def R71x3 : RC := (.seq (.reg [⟨(some 66), none, (.cmp .lss (.tmp 65) (.tmp 64))⟩])
  (.seq (.cond (.tmp 66) .skip
  (.exit 4))
  (.seq (.block 5 (.seq (.reg [⟨(some 67), none, (.idx (.tmp 63) (.tmp 65) 2)⟩, ⟨(some 68), none, (.lda (.tmp 67) 2)⟩, ⟨(some 10), none, (.alc 86 [(.int .i64 0), (.int .i64 0)])⟩, ⟨none, none, (.sta (.tmp 10) (.tmp 68) 2)⟩])
  (.seq (.reg [⟨(some 69), none, (.addo (.tmp 10) 0)⟩, ⟨(some 70), none, (.ld (.tmp 69) 1)⟩, ⟨(some 71), none, (.addo (.tmp 2) 0)⟩, ⟨(some 72), none, (.ld (.tmp 71) 1)⟩, ⟨(some 73), none, (.len (.tmp 72))⟩, ⟨(some 74), none, (.call ⟨(.value (.func 61)), (List.toArray [(.tmp 70), (.tmp 73)]), (List.toArray [3, 3])⟩ true)⟩, ⟨(some 75), none, (.pur ⟨(some 75), (.unOp .not 4 (.tmp 74)), 4, "", (List.toArray []), none⟩)⟩, ⟨(some 76), none, (.mov (.tmp 75))⟩, ⟨(some 77), (some (76, false)), (.addo (.tmp 10) 1)⟩, ⟨(some 78), (some (76, false)), (.ld (.tmp 77) 1)⟩, ⟨(some 79), (some (76, false)), (.call ⟨(.value (.func 86)), (List.toArray [(.tmp 78)]), (List.toArray [3])⟩ true)⟩, ⟨(some 80), (some (76, false)), (.pur ⟨(some 80), (.unOp .not 4 (.tmp 79)), 4, "", (List.toArray []), none⟩)⟩, ⟨(some 81), none, (.pur ⟨(some 81), (.pick (.tmp 76) (.const (.bool true)) (.tmp 80)), 4, "", (List.toArray []), none⟩)⟩])
  (.cond (.tmp 81) (.seq (.reg [⟨(some 4), none, (.mov (.const (.bool false)))⟩])
  .ret)
  .skip))))
  (.reg [⟨(some 82), none, (.ari .add (.tmp 65) (.const (.int .i64 1)))⟩, ⟨(some 65), none, (.mov (.tmp 82))⟩]))))
theorem L71x3 : low Try.prog Try.f71.ntmps (at_ Try.f71 [1, 1, 1, 1, 0, 1, 0, 0]) = some R71x3 := by kernel_rfl
theorem N75 : Try.f75.ntmps = 8 := by kernel_rfl
theorem Z75 : Try.f75.results.toList = ((List.toArray [(.tmp 2)]) : Array ResultVar).toList := by kernel_rfl
theorem B75 : Try.f75.body = some (at_ Try.f75 []) := by kernel_rfl
noncomputable def R75 : RC := (.seq (.reg [⟨(some 2), none, (.mov (.const (.slice none 0 0)))⟩])
  (.seq (.seq (.reg [⟨(some 3), none, (.mov (.tmp 0))⟩, ⟨(some 4), none, (.pur ⟨(some 4), (.binOp .eql 23 (.tmp 3) (.const (.slice none 0 0)) 23), 4, "", (List.toArray []), none⟩)⟩])
  (.cond (.tmp 4) (.seq (.reg [⟨(some 2), none, (.mov (.const (.slice none 0 0)))⟩])
  .ret)
  .skip))
  (.seq (.reg [⟨(some 5), none, (.mem ⟨(some 5), (.buildSlice 23 0 (List.toArray [])), 23, "", (List.toArray []), none⟩)⟩, ⟨(some 6), none, (.mov (.tmp 0))⟩, ⟨(some 7), none, (.mem ⟨(some 7), (.call ⟨(.builtin .append), (List.toArray [(.tmp 5), (.tmp 6)]), (List.toArray [23, 23])⟩), 23, "", (List.toArray []), none⟩)⟩, ⟨(some 2), none, (.mov (.tmp 7))⟩])
  .ret)))
theorem L75 : low Try.prog Try.f75.ntmps (at_ Try.f75 []) = some R75 := by kernel_rfl
theorem N76 : Try.f76.ntmps = 33 := by kernel_rfl
theorem Z76 : Try.f76.results.toList = ((List.toArray []) : Array ResultVar).toList := by kernel_rfl
theorem B76 : Try.f76.body = some (at_ Try.f76 []) := by kernel_rfl
noncomputable def R76 : RC := (.seq (.reg [⟨(some 3), none, (.box 81 (.tmp 1))⟩])
  (.seq (.reg [⟨(some 5), none, (.addo (.tmp 3) 2)⟩, ⟨(some 6), none, (.ld (.tmp 5) 1)⟩, ⟨(some 7), none, (.addo (.tmp 3) 4)⟩, ⟨(some 8), none, (.ld (.tmp 7) 1)⟩, ⟨(some 9), none, (.addo (.tmp 3) 3)⟩, ⟨(some 10), none, (.ld (.tmp 9) 1)⟩, ⟨(some 11), none, (.ari .mul (.tmp 8) (.tmp 10))⟩, ⟨(some 12), none, (.ari .add (.tmp 6) (.tmp 11))⟩, ⟨(some 4), none, (.mov (.tmp 12))⟩])
  (.dreg [⟨(some 13), none, (.mov (.tmp 0))⟩, ⟨(some 14), none, (.addo (.tmp 3) 0)⟩, ⟨(some 15), none, (.ld (.tmp 14) 1)⟩, ⟨(some 16), none, (.addo (.tmp 3) 1)⟩, ⟨(some 17), none, (.ld (.tmp 16) 1)⟩, ⟨(some 18), none, (.addo (.tmp 3) 5)⟩, ⟨(some 19), none, (.ld (.tmp 18) 1)⟩, ⟨(some 20), none, (.mov (.tmp 0))⟩, ⟨(some 21), none, (.nilc (.tmp 20))⟩, ⟨(some 22), none, (.addo (.tmp 21) 3)⟩, ⟨(some 23), none, (.ld (.tmp 22) 1)⟩, ⟨(some 24), none, (.addo (.tmp 3) 0)⟩, ⟨(some 25), none, (.ld (.tmp 24) 1)⟩, ⟨(some 26), none, (.idx (.tmp 23) (.tmp 25) 1)⟩, ⟨(some 27), none, (.ld (.tmp 26) 1)⟩, ⟨(some 28), none, (.mov (.tmp 4))⟩, ⟨(some 29), none, (.ari .sub (.tmp 27) (.tmp 28))⟩, ⟨(some 30), none, (.mm false (.const (.int .i64 0)) (.tmp 29))⟩, ⟨(some 31), none, (.mm true (.tmp 19) (.tmp 30))⟩, ⟨(some 32), none, (.call ⟨(.value (.func 78)), (List.toArray [(.tmp 13), (.tmp 15), (.tmp 17), (.tmp 31)]), (List.toArray [90, 3, 3, 3])⟩ true)⟩] [524287, 262112, 130944, 65408, 0, 16256, 8064, 2048, 0, 896, 384, 128, 0, 32, 0, 8, 0, 2, 0, 0])))
theorem L76 : low Try.prog Try.f76.ntmps (at_ Try.f76 []) = some R76 := by kernel_rfl
theorem N77 : Try.f77.ntmps = 47 := by kernel_rfl
theorem Z77 : Try.f77.results.toList = ((List.toArray []) : Array ResultVar).toList := by kernel_rfl
theorem B77 : Try.f77.body = some (at_ Try.f77 []) := by kernel_rfl
noncomputable def R77 : RC := (.seq (.reg [⟨(some 3), none, (.box 86 (.tmp 1))⟩])
  (.seq (.dreg [⟨(some 5), none, (.addo (.tmp 3) 1)⟩, ⟨(some 6), none, (.ld (.tmp 5) 1)⟩, ⟨(some 7), none, (.mov (.tmp 0))⟩, ⟨(some 8), none, (.nilc (.tmp 7))⟩, ⟨(some 9), none, (.addo (.tmp 8) 3)⟩, ⟨(some 10), none, (.ld (.tmp 9) 1)⟩, ⟨(some 11), none, (.addo (.tmp 3) 0)⟩, ⟨(some 12), none, (.ld (.tmp 11) 1)⟩, ⟨(some 13), none, (.idx (.tmp 10) (.tmp 12) 1)⟩, ⟨(some 14), none, (.ld (.tmp 13) 1)⟩, ⟨(some 15), none, (.mm true (.tmp 6) (.tmp 14))⟩, ⟨(some 4), none, (.mov (.tmp 15))⟩] [2047, 1023, 508, 252, 64, 0, 28, 12, 4, 0, 1, 0])
  (.seq (.seq (.reg [⟨(some 16), none, (.mov (.tmp 0))⟩, ⟨(some 17), none, (.nilc (.tmp 16))⟩, ⟨(some 18), none, (.addo (.tmp 17) 4)⟩, ⟨(some 19), none, (.ld (.tmp 18) 1)⟩, ⟨(some 20), none, (.mov (.tmp 19))⟩, ⟨(some 21), (some (20, true)), (.mov (.tmp 4))⟩, ⟨(some 22), (some (20, true)), (.addo (.tmp 3) 1)⟩, ⟨(some 23), (some (20, true)), (.ld (.tmp 22) 1)⟩, ⟨(some 24), (some (20, true)), (.cmpb .lss (.tmp 21) (.tmp 23))⟩, ⟨(some 25), none, (.pur ⟨(some 25), (.pick (.tmp 20) (.tmp 24) (.const (.bool false))), 4, "", (List.toArray []), none⟩)⟩])
  (.cond (.tmp 25) (.reg [⟨(some 26), none, (.pur ⟨(some 26), (.build 141 (List.toArray [])), 141, "", (List.toArray []), none⟩)⟩, ⟨(some 27), none, (.pur ⟨(some 27), (.makeInterface 141 (.tmp 26)), 20, "", (List.toArray []), none⟩)⟩, ⟨none, none, .dead⟩])
  .skip))
  (.seq (.dreg [⟨(some 28), none, (.mov (.tmp 0))⟩, ⟨(some 29), none, (.nilc (.tmp 28))⟩, ⟨(some 30), none, (.addo (.tmp 29) 3)⟩, ⟨(some 31), none, (.ld (.tmp 30) 1)⟩, ⟨(some 32), none, (.addo (.tmp 3) 0)⟩, ⟨(some 33), none, (.ld (.tmp 32) 1)⟩, ⟨(some 34), none, (.idx (.tmp 31) (.tmp 33) 1)⟩, ⟨(some 35), none, (.ld (.tmp 34) 1)⟩, ⟨(some 36), none, (.mov (.tmp 4))⟩, ⟨(some 37), none, (.ari .sub (.tmp 35) (.tmp 36))⟩, ⟨(some 38), none, (.idx (.tmp 31) (.tmp 33) 1)⟩, ⟨none, none, (.st (.tmp 38) (.tmp 37))⟩] [2047, 1023, 511, 0, 127, 63, 16, 0, 7, 3, 1, 0])
  (.reg [⟨(some 39), none, (.mov (.tmp 0))⟩, ⟨(some 40), none, (.nilc (.tmp 39))⟩, ⟨(some 41), none, (.addo (.tmp 40) 8)⟩, ⟨(some 42), none, (.ld (.tmp 41) 1)⟩, ⟨(some 43), none, (.mov (.tmp 4))⟩, ⟨(some 44), none, (.ari .add (.tmp 42) (.tmp 43))⟩, ⟨(some 45), none, (.nilc (.tmp 39))⟩, ⟨(some 46), none, (.addo (.tmp 45) 8)⟩, ⟨none, none, (.st (.tmp 46) (.tmp 44))⟩])))))
theorem L77 : low Try.prog Try.f77.ntmps (at_ Try.f77 []) = some R77 := by kernel_rfl
theorem N78 : Try.f78.ntmps = 38 := by kernel_rfl
theorem Z78 : Try.f78.results.toList = ((List.toArray []) : Array ResultVar).toList := by kernel_rfl
theorem B78 : Try.f78.body = some (at_ Try.f78 []) := by kernel_rfl
noncomputable def R78 : RC := (.seq (.reg [⟨(some 8), none, (.mov (.tmp 0))⟩, ⟨(some 9), none, (.nilc (.tmp 8))⟩, ⟨(some 10), none, (.addo (.tmp 9) 3)⟩, ⟨(some 11), none, (.ld (.tmp 10) 1)⟩, ⟨(some 12), none, (.mov (.tmp 1))⟩, ⟨(some 13), none, (.idx (.tmp 11) (.tmp 12) 1)⟩, ⟨(some 14), none, (.ld (.tmp 13) 1)⟩, ⟨(some 15), none, (.mov (.tmp 3))⟩, ⟨(some 16), none, (.ari .sub (.tmp 14) (.tmp 15))⟩, ⟨(some 17), none, (.idx (.tmp 11) (.tmp 12) 1)⟩, ⟨none, none, (.st (.tmp 17) (.tmp 16))⟩])
  (.seq (.reg [⟨(some 18), none, (.mov (.tmp 2))⟩, ⟨(some 19), none, (.cmp .eql (.tmp 18) (.const (.int .i64 (-1))))⟩])
  (.cond (.tmp 19) (.reg [⟨(some 20), none, (.mov (.tmp 0))⟩, ⟨(some 21), none, (.nilc (.tmp 20))⟩, ⟨(some 22), none, (.addo (.tmp 21) 7)⟩, ⟨(some 23), none, (.ld (.tmp 22) 1)⟩, ⟨(some 24), none, (.mov (.tmp 3))⟩, ⟨(some 25), none, (.ari .add (.tmp 23) (.tmp 24))⟩, ⟨(some 26), none, (.nilc (.tmp 20))⟩, ⟨(some 27), none, (.addo (.tmp 26) 7)⟩, ⟨none, none, (.st (.tmp 27) (.tmp 25))⟩])
  (.reg [⟨(some 28), none, (.mov (.tmp 0))⟩, ⟨(some 29), none, (.nilc (.tmp 28))⟩, ⟨(some 30), none, (.addo (.tmp 29) 3)⟩, ⟨(some 31), none, (.ld (.tmp 30) 1)⟩, ⟨(some 32), none, (.mov (.tmp 2))⟩, ⟨(some 33), none, (.idx (.tmp 31) (.tmp 32) 1)⟩, ⟨(some 34), none, (.ld (.tmp 33) 1)⟩, ⟨(some 35), none, (.mov (.tmp 3))⟩, ⟨(some 36), none, (.ari .add (.tmp 34) (.tmp 35))⟩, ⟨(some 37), none, (.idx (.tmp 31) (.tmp 32) 1)⟩, ⟨none, none, (.st (.tmp 37) (.tmp 36))⟩]))))
theorem L78 : low Try.prog Try.f78.ntmps (at_ Try.f78 []) = some R78 := by kernel_rfl
theorem N79 : Try.f79.ntmps = 39 := by kernel_rfl
theorem Z79 : Try.f79.results.toList = ((List.toArray [(.tmp 6)]) : Array ResultVar).toList := by kernel_rfl
theorem B79 : Try.f79.body = some (at_ Try.f79 []) := by kernel_rfl
noncomputable def R79 : RC := (.seq (.reg [⟨(some 3), none, (.box 71 (.tmp 0))⟩, ⟨(some 6), none, (.mov (.const (.bool false)))⟩])
  (.seq (.reg [⟨(some 8), none, (.addo (.tmp 3) 3)⟩, ⟨(some 9), none, (.ld (.tmp 8) 1)⟩, ⟨(some 10), none, (.cmpb .eql (.tmp 9) (.const (.int .i64 (-1))))⟩, ⟨(some 11), none, (.mov (.tmp 10))⟩, ⟨(some 12), (some (11, false)), (.addo (.tmp 3) 3)⟩, ⟨(some 13), (some (11, false)), (.ld (.tmp 12) 1)⟩, ⟨(some 14), (some (11, false)), (.mov (.tmp 1))⟩, ⟨(some 15), (some (11, false)), (.cmpb .gtr (.tmp 13) (.tmp 14))⟩, ⟨(some 16), (some (11, false)), (.mov (.tmp 15))⟩, ⟨(some 17), (some (16, true)), (.addo (.tmp 3) 3)⟩, ⟨(some 18), (some (16, true)), (.ld (.tmp 17) 1)⟩, ⟨(some 19), (some (16, true)), (.mov (.tmp 2))⟩, ⟨(some 20), (some (16, true)), (.cmpb .lss (.tmp 18) (.tmp 19))⟩, ⟨(some 21), (some (11, false)), (.pur ⟨(some 21), (.pick (.tmp 16) (.tmp 20) (.const (.bool false))), 4, "", (List.toArray []), none⟩)⟩, ⟨(some 22), none, (.pur ⟨(some 22), (.pick (.tmp 11) (.const (.bool true)) (.tmp 21)), 4, "", (List.toArray []), none⟩)⟩, ⟨(some 7), none, (.mov (.tmp 22))⟩])
  (.seq (.reg [⟨(some 23), none, (.addo (.tmp 3) 0)⟩, ⟨(some 24), none, (.ld (.tmp 23) 1)⟩, ⟨(some 25), none, (.cmpb .geq (.tmp 24) (.const (.int .i64 1)))⟩, ⟨(some 26), none, (.mov (.tmp 25))⟩, ⟨(some 27), (some (26, true)), (.addo (.tmp 3) 0)⟩, ⟨(some 28), (some (26, true)), (.ld (.tmp 27) 1)⟩, ⟨(some 29), (some (26, true)), (.cmpb .leq (.tmp 28) (.const (.int .i64 68719476736)))⟩, ⟨(some 30), none, (.pur ⟨(some 30), (.pick (.tmp 26) (.tmp 29) (.const (.bool false))), 4, "", (List.toArray []), none⟩)⟩, ⟨(some 31), none, (.mov (.tmp 30))⟩, ⟨(some 32), (some (31, true)), (.addo (.tmp 3) 1)⟩, ⟨(some 33), (some (31, true)), (.lda (.tmp 32) 2)⟩, ⟨(some 34), (some (31, true)), (.call ⟨(.value (.func 84)), (List.toArray [(.tmp 33), (.const (.int .i64 1000000))]), (List.toArray [35, 3])⟩ true)⟩, ⟨(some 35), none, (.pur ⟨(some 35), (.pick (.tmp 31) (.tmp 34) (.const (.bool false))), 4, "", (List.toArray []), none⟩)⟩, ⟨(some 36), none, (.mov (.tmp 35))⟩, ⟨(some 37), (some (36, true)), (.mov (.tmp 7))⟩, ⟨(some 38), none, (.pur ⟨(some 38), (.pick (.tmp 36) (.tmp 37) (.const (.bool false))), 4, "", (List.toArray []), none⟩)⟩, ⟨(some 6), none, (.mov (.tmp 38))⟩])
  .ret)))
theorem L79 : low Try.prog Try.f79.ntmps (at_ Try.f79 []) = some R79 := by kernel_rfl
theorem N80 : Try.f80.ntmps = 49 := by kernel_rfl
theorem Z80 : Try.f80.results.toList = ((List.toArray [(.tmp 4)]) : Array ResultVar).toList := by kernel_rfl
theorem B80 : Try.f80.body = some (at_ Try.f80 []) := by kernel_rfl
noncomputable def R80 : RC := (.seq (.reg [⟨(some 2), none, (.box 81 (.tmp 0))⟩, ⟨(some 4), none, (.mov (.const (.bool false)))⟩])
  (.seq (.reg [⟨(some 6), none, (.addo (.tmp 2) 0)⟩, ⟨(some 7), none, (.ld (.tmp 6) 1)⟩, ⟨(some 8), none, (.mov (.tmp 1))⟩, ⟨(some 9), none, (.call ⟨(.value (.func 61)), (List.toArray [(.tmp 7), (.tmp 8)]), (List.toArray [3, 3])⟩ true)⟩, ⟨(some 10), none, (.mov (.tmp 9))⟩, ⟨(some 11), (some (10, true)), (.addo (.tmp 2) 1)⟩, ⟨(some 12), (some (10, true)), (.ld (.tmp 11) 1)⟩, ⟨(some 13), (some (10, true)), (.cmpb .eql (.tmp 12) (.const (.int .i64 (-1))))⟩, ⟨(some 14), (some (10, true)), (.mov (.tmp 13))⟩, ⟨(some 15), (some (14, false)), (.addo (.tmp 2) 1)⟩, ⟨(some 16), (some (14, false)), (.ld (.tmp 15) 1)⟩, ⟨(some 17), (some (14, false)), (.mov (.tmp 1))⟩, ⟨(some 18), (some (14, false)), (.call ⟨(.value (.func 61)), (List.toArray [(.tmp 16), (.tmp 17)]), (List.toArray [3, 3])⟩ true)⟩, ⟨(some 19), (some (14, false)), (.mov (.tmp 18))⟩, ⟨(some 20), (some (19, true)), (.addo (.tmp 2) 1)⟩, ⟨(some 21), (some (19, true)), (.ld (.tmp 20) 1)⟩, ⟨(some 22), (some (19, true)), (.addo (.tmp 2) 0)⟩, ⟨(some 23), (some (19, true)), (.ld (.tmp 22) 1)⟩, ⟨(some 24), (some (19, true)), (.cmpb .neq (.tmp 21) (.tmp 23))⟩, ⟨(some 25), (some (14, false)), (.pur ⟨(some 25), (.pick (.tmp 19) (.tmp 24) (.const (.bool false))), 4, "", (List.toArray []), none⟩)⟩, ⟨(some 26), (some (10, true)), (.pur ⟨(some 26), (.pick (.tmp 14) (.const (.bool true)) (.tmp 25)), 4, "", (List.toArray []), none⟩)⟩, ⟨(some 27), none, (.pur ⟨(some 27), (.pick (.tmp 10) (.tmp 26) (.const (.bool false))), 4, "", (List.toArray []), none⟩)⟩, ⟨(some 5), none, (.mov (.tmp 27))⟩])
  (.seq (.reg [⟨(some 28), none, (.mov (.tmp 5))⟩, ⟨(some 29), none, (.mov (.tmp 28))⟩, ⟨(some 30), (some (29, true)), (.addo (.tmp 2) 2)⟩, ⟨(some 31), (some (29, true)), (.ld (.tmp 30) 1)⟩, ⟨(some 32), (some (29, true)), (.call ⟨(.value (.func 86)), (List.toArray [(.tmp 31)]), (List.toArray [3])⟩ true)⟩, ⟨(some 33), none, (.pur ⟨(some 33), (.pick (.tmp 29) (.tmp 32) (.const (.bool false))), 4, "", (List.toArray []), none⟩)⟩, ⟨(some 34), none, (.mov (.tmp 33))⟩, ⟨(some 35), (some (34, true)), (.addo (.tmp 2) 3)⟩, ⟨(some 36), (some (34, true)), (.ld (.tmp 35) 1)⟩, ⟨(some 37), (some (34, true)), (.call ⟨(.value (.func 86)), (List.toArray [(.tmp 36)]), (List.toArray [3])⟩ true)⟩, ⟨(some 38), none, (.pur ⟨(some 38), (.pick (.tmp 34) (.tmp 37) (.const (.bool false))), 4, "", (List.toArray []), none⟩)⟩, ⟨(some 39), none, (.mov (.tmp 38))⟩, ⟨(some 40), (some (39, true)), (.addo (.tmp 2) 5)⟩, ⟨(some 41), (some (39, true)), (.ld (.tmp 40) 1)⟩, ⟨(some 42), (some (39, true)), (.call ⟨(.value (.func 86)), (List.toArray [(.tmp 41)]), (List.toArray [3])⟩ true)⟩, ⟨(some 43), none, (.pur ⟨(some 43), (.pick (.tmp 39) (.tmp 42) (.const (.bool false))), 4, "", (List.toArray []), none⟩)⟩, ⟨(some 44), none, (.mov (.tmp 43))⟩, ⟨(some 45), (some (44, true)), (.addo (.tmp 2) 4)⟩, ⟨(some 46), (some (44, true)), (.ld (.tmp 45) 1)⟩, ⟨(some 47), (some (44, true)), (.call ⟨(.value (.func 85)), (List.toArray [(.tmp 46)]), (List.toArray [3])⟩ true)⟩, ⟨(some 48), none, (.pur ⟨(some 48), (.pick (.tmp 44) (.tmp 47) (.const (.bool false))), 4, "", (List.toArray []), none⟩)⟩, ⟨(some 4), none, (.mov (.tmp 48))⟩])
  .ret)))
theorem L80 : low Try.prog Try.f80.ntmps (at_ Try.f80 []) = some R80 := by kernel_rfl
theorem N81 : Try.f81.ntmps = 25 := by kernel_rfl
theorem Z81 : Try.f81.results.toList = ((List.toArray []) : Array ResultVar).toList := by kernel_rfl
theorem B81 : Try.f81.body = some (at_ Try.f81 []) := by kernel_rfl
noncomputable def R81 : RC := (.seq (.reg [⟨(some 6), none, (.ld (.tmp 1) 1)⟩, ⟨(some 7), none, (.len (.tmp 6))⟩, ⟨(some 8), none, (.mov (.const (.int .i64 0)))⟩])
  (.block 0 (.other (at_ Try.f81 [1, 0]))))
theorem L81 : low Try.prog Try.f81.ntmps (at_ Try.f81 []) = some R81 := by kernel_rfl
theorem E81_1 : at_ Try.f81 [1, 0] = .loop (at_ Try.f81 [1, 0, 0]) := by kernel_rfl
noncomputable def R81x1 : RC := (.seq (.reg [⟨(some 9), none, (.cmp .lss (.tmp 8) (.tmp 7))⟩])
  (.seq (.cond (.tmp 9) .skip
  (.exit 0))
  (.seq (.block 1 (.seq (.reg [⟨(some 10), none, (.mov (.tmp 8))⟩, ⟨(some 11), none, (.idx (.tmp 6) (.tmp 8) 3)⟩, ⟨(some 12), none, (.lda (.tmp 11) 3)⟩, ⟨(some 5), none, (.alc 30 [(.slice none 0 0), (.slice none 0 0), (.slice none 0 0)])⟩, ⟨(some 4), none, (.mov (.tmp 10))⟩, ⟨none, none, (.sta (.tmp 5) (.tmp 12) 3)⟩])
  (.seq (.reg [⟨(some 13), none, (.addo (.tmp 5) 2)⟩, ⟨(some 14), none, (.ld (.tmp 13) 1)⟩, ⟨(some 15), none, (.ld (.tmp 2) 1)⟩, ⟨(some 16), none, (.mem ⟨(some 16), (.buildSlice 142 2 (List.toArray [(0, (.tmp 14)), (1, (.tmp 15))])), 142, "", (List.toArray []), none⟩)⟩, ⟨(some 17), none, (.call ⟨(.value (.func 82)), (List.toArray [(.tmp 16)]), (List.toArray [142])⟩ true)⟩, ⟨(some 18), none, (.addo (.tmp 5) 2)⟩, ⟨none, none, (.st (.tmp 18) (.tmp 17))⟩])
  (.seq (.reg [⟨(some 19), none, (.mov (.tmp 0))⟩, ⟨(some 20), none, (.mov (.tmp 4))⟩, ⟨(some 21), none, (.lda (.tmp 5) 3)⟩, ⟨(some 22), none, (.call ⟨(.value (.tmp 19)), (List.toArray [(.tmp 20), (.tmp 21)]), (List.toArray [3, 30])⟩ true)⟩, ⟨(some 23), none, (.pur ⟨(some 23), (.unOp .not 4 (.tmp 22)), 4, "", (List.toArray []), none⟩)⟩])
  (.cond (.tmp 23) .ret
  .skip)))))
  (.reg [⟨(some 24), none, (.ari .add (.tmp 8) (.const (.int .i64 1)))⟩, ⟨(some 8), none, (.mov (.tmp 24))⟩]))))
theorem L81x1 : low Try.prog Try.f81.ntmps (at_ Try.f81 [1, 0, 0]) = some R81x1 := by kernel_rfl
theorem N82 : Try.f82.ntmps = 36 := by kernel_rfl
theorem Z82 : Try.f82.results.toList = ((List.toArray [(.tmp 2)]) : Array ResultVar).toList := by kernel_rfl
theorem B82 : Try.f82.body = some (at_ Try.f82 []) := by kernel_rfl
noncomputable def R82 : RC := (.seq (.reg [⟨(some 2), none, (.mov (.const (.slice none 0 0)))⟩])
  (.seq (.reg [⟨(some 3), none, (.mov (.const (.int .i64 0)))⟩])
  (.seq (.seq (.reg [⟨(some 9), none, (.mov (.tmp 0))⟩, ⟨(some 10), none, (.len (.tmp 9))⟩, ⟨(some 11), none, (.mov (.const (.int .i64 0)))⟩])
  (.block 0 (.other (at_ Try.f82 [1, 1, 0, 1, 0]))))
  (.seq (.reg [⟨(some 23), none, (.mov (.tmp 3))⟩, ⟨(some 24), none, (.call ⟨(.value (.func 89)), (List.toArray [(.const (.slice none 0 0)), (.tmp 23)]), (List.toArray [28, 3])⟩ true)⟩, ⟨(some 6), none, (.mov (.tmp 24))⟩])
  (.seq (.seq (.reg [⟨(some 25), none, (.mov (.tmp 0))⟩, ⟨(some 26), none, (.len (.tmp 25))⟩, ⟨(some 27), none, (.mov (.const (.int .i64 0)))⟩])
  (.block 2 (.other (at_ Try.f82 [1, 1, 1, 1, 0, 1, 0]))))
  (.seq (.reg [⟨(some 35), none, (.mov (.tmp 6))⟩, ⟨(some 2), none, (.mov (.tmp 35))⟩])
  .ret))))))
theorem L82 : low Try.prog Try.f82.ntmps (at_ Try.f82 []) = some R82 := by kernel_rfl
theorem E82_1 : at_ Try.f82 [1, 1, 0, 1, 0] = .loop (at_ Try.f82 [1, 1, 0, 1, 0, 0]) := by kernel_rfl
noncomputable def R82x1 : RC := (.seq (.reg [⟨(some 12), none, (.cmp .lss (.tmp 11) (.tmp 10))⟩])
  (.seq (.cond (.tmp 12) .skip
  (.exit 0))
  (.seq (.block 1 (.seq (.reg [⟨(some 13), none, (.idx (.tmp 9) (.tmp 11) 1)⟩, ⟨(some 14), none, (.ld (.tmp 13) 1)⟩, ⟨(some 5), none, (.mov (.tmp 14))⟩])
  (.seq (.reg [⟨(some 15), none, (.mov (.tmp 3))⟩, ⟨(some 16), none, (.mov (.tmp 5))⟩, ⟨(some 17), none, (.len (.tmp 16))⟩, ⟨(some 18), none, (.ari .add (.tmp 15) (.tmp 17))⟩, ⟨(some 3), none, (.mov (.tmp 18))⟩])
  (.seq (.reg [⟨(some 19), none, (.mov (.tmp 3))⟩, ⟨(some 20), none, (.cmp .lss (.tmp 19) (.const (.int .i64 0)))⟩])
  (.cond (.tmp 20) (.reg [⟨(some 21), none, (.pur ⟨(some 21), (.makeInterface 9 (.const (.string (.mk (List.toArray [108, 101, 110, 32, 111, 117, 116, 32, 111, 102, 32, 114, 97, 110, 103, 101]))))), 20, "", (List.toArray []), none⟩)⟩, ⟨none, none, .dead⟩])
  .skip)))))
  (.reg [⟨(some 22), none, (.ari .add (.tmp 11) (.const (.int .i64 1)))⟩, ⟨(some 11), none, (.mov (.tmp 22))⟩]))))
theorem L82x1 : low Try.prog Try.f82.ntmps (at_ Try.f82 [1, 1, 0, 1, 0, 0]) = some R82x1 := by kernel_rfl
theorem E82_2 : at_ Try.f82 [1, 1, 1, 1, 0, 1, 0] = .loop (at_ Try.f82 [1, 1, 1, 1, 0, 1, 0, 0]) := by kernel_rfl
noncomputable def R82x2 : RC := (.seq (.reg [⟨(some 28), none, (.cmp .lss (.tmp 27) (.tmp 26))⟩])
  (.seq (.cond (.tmp 28) .skip
  (.exit 2))
  (.seq (.block 3 (.seq (.reg [⟨(some 29), none, (.idx (.tmp 25) (.tmp 27) 1)⟩, ⟨(some 30), none, (.ld (.tmp 29) 1)⟩, ⟨(some 8), none, (.mov (.tmp 30))⟩])
  (.reg [⟨(some 31), none, (.mov (.tmp 6))⟩, ⟨(some 32), none, (.mov (.tmp 8))⟩, ⟨(some 33), none, (.mem ⟨(some 33), (.call ⟨(.builtin .append), (List.toArray [(.tmp 31), (.tmp 32)]), (List.toArray [28, 28])⟩), 28, "", (List.toArray []), none⟩)⟩, ⟨(some 6), none, (.mov (.tmp 33))⟩])))
  (.reg [⟨(some 34), none, (.ari .add (.tmp 27) (.const (.int .i64 1)))⟩, ⟨(some 27), none, (.mov (.tmp 34))⟩]))))
theorem L82x2 : low Try.prog Try.f82.ntmps (at_ Try.f82 [1, 1, 1, 1, 0, 1, 0, 0]) = some R82x2 := by kernel_rfl
theorem N84 : Try.f84.ntmps = 21 := by kernel_rfl
theorem Z84 : Try.f84.results.toList = ((List.toArray [(.tmp 4)]) : Array ResultVar).toList := by kernel_rfl
theorem B84 : Try.f84.body = some (at_ Try.f84 []) := by kernel_rfl
noncomputable def R84 : RC := (.seq (.reg [⟨(some 2), none, (.box 35 (.tmp 0))⟩, ⟨(some 4), none, (.mov (.const (.bool false)))⟩])
  (.seq (.reg [⟨(some 5), none, (.addo (.tmp 2) 0)⟩, ⟨(some 6), none, (.ld (.tmp 5) 1)⟩, ⟨(some 7), none, (.cmpb .geq (.tmp 6) (.const (.int .i64 0)))⟩, ⟨(some 8), none, (.mov (.tmp 7))⟩, ⟨(some 9), (some (8, true)), (.addo (.tmp 2) 0)⟩, ⟨(some 10), (some (8, true)), (.ld (.tmp 9) 1)⟩, ⟨(some 11), (some (8, true)), (.addo (.tmp 2) 1)⟩, ⟨(some 12), (some (8, true)), (.ld (.tmp 11) 1)⟩, ⟨(some 13), (some (8, true)), (.cmpb .leq (.tmp 10) (.tmp 12))⟩, ⟨(some 14), none, (.pur ⟨(some 14), (.pick (.tmp 8) (.tmp 13) (.const (.bool false))), 4, "", (List.toArray []), none⟩)⟩, ⟨(some 15), none, (.mov (.tmp 14))⟩, ⟨(some 16), (some (15, true)), (.addo (.tmp 2) 1)⟩, ⟨(some 17), (some (15, true)), (.ld (.tmp 16) 1)⟩, ⟨(some 18), (some (15, true)), (.mov (.tmp 1))⟩, ⟨(some 19), (some (15, true)), (.cmpb .leq (.tmp 17) (.tmp 18))⟩, ⟨(some 20), none, (.pur ⟨(some 20), (.pick (.tmp 15) (.tmp 19) (.const (.bool false))), 4, "", (List.toArray []), none⟩)⟩, ⟨(some 4), none, (.mov (.tmp 20))⟩])
  .ret))
theorem L84 : low Try.prog Try.f84.ntmps (at_ Try.f84 []) = some R84 := by kernel_rfl
theorem N85 : Try.f85.ntmps = 9 := by kernel_rfl
theorem Z85 : Try.f85.results.toList = ((List.toArray [(.tmp 2)]) : Array ResultVar).toList := by kernel_rfl
theorem B85 : Try.f85.body = some (at_ Try.f85 []) := by kernel_rfl
noncomputable def R85 : RC := (.seq (.reg [⟨(some 2), none, (.mov (.const (.bool false)))⟩])
  (.seq (.reg [⟨(some 3), none, (.mov (.tmp 0))⟩, ⟨(some 4), none, (.cmpb .geq (.tmp 3) (.const (.int .i64 0)))⟩, ⟨(some 5), none, (.mov (.tmp 4))⟩, ⟨(some 6), (some (5, true)), (.mov (.tmp 0))⟩, ⟨(some 7), (some (5, true)), (.cmpb .leq (.tmp 6) (.const (.int .i64 16)))⟩, ⟨(some 8), none, (.pur ⟨(some 8), (.pick (.tmp 5) (.tmp 7) (.const (.bool false))), 4, "", (List.toArray []), none⟩)⟩, ⟨(some 2), none, (.mov (.tmp 8))⟩])
  .ret))
theorem L85 : low Try.prog Try.f85.ntmps (at_ Try.f85 []) = some R85 := by kernel_rfl
theorem N86 : Try.f86.ntmps = 9 := by kernel_rfl
theorem Z86 : Try.f86.results.toList = ((List.toArray [(.tmp 2)]) : Array ResultVar).toList := by kernel_rfl
theorem B86 : Try.f86.body = some (at_ Try.f86 []) := by kernel_rfl
noncomputable def R86 : RC := (.seq (.reg [⟨(some 2), none, (.mov (.const (.bool false)))⟩])
  (.seq (.reg [⟨(some 3), none, (.mov (.tmp 0))⟩, ⟨(some 4), none, (.cmpb .geq (.tmp 3) (.const (.int .i64 0)))⟩, ⟨(some 5), none, (.mov (.tmp 4))⟩, ⟨(some 6), (some (5, true)), (.mov (.tmp 0))⟩, ⟨(some 7), (some (5, true)), (.cmpb .leq (.tmp 6) (.const (.int .i64 68719476736)))⟩, ⟨(some 8), none, (.pur ⟨(some 8), (.pick (.tmp 5) (.tmp 7) (.const (.bool false))), 4, "", (List.toArray []), none⟩)⟩, ⟨(some 2), none, (.mov (.tmp 8))⟩])
  .ret))
theorem L86 : low Try.prog Try.f86.ntmps (at_ Try.f86 []) = some R86 := by kernel_rfl
theorem N89 : Try.f89.ntmps = 27 := by kernel_rfl
theorem Z89 : Try.f89.results.toList = ((List.toArray [(.tmp 4)]) : Array ResultVar).toList := by kernel_rfl
theorem B89 : Try.f89.body = some (at_ Try.f89 []) := by kernel_rfl
noncomputable def R89 : RC := (.seq (.reg [⟨(some 4), none, (.mov (.const (.slice none 0 0)))⟩])
  (.seq (.seq (.reg [⟨(some 5), none, (.mov (.tmp 1))⟩, ⟨(some 6), none, (.cmp .lss (.tmp 5) (.const (.int .i64 0)))⟩])
  (.cond (.tmp 6) (.reg [⟨(some 7), none, (.pur ⟨(some 7), (.makeInterface 9 (.const (.string (.mk (List.toArray [99, 97, 110, 110, 111, 116, 32, 98, 101, 32, 110, 101, 103, 97, 116, 105, 118, 101]))))), 20, "", (List.toArray []), none⟩)⟩, ⟨none, none, .dead⟩])
  .skip))
  (.seq (.seq (.reg [⟨(some 8), none, (.mov (.tmp 1))⟩, ⟨(some 9), none, (.mov (.tmp 0))⟩, ⟨(some 10), none, (.mem ⟨(some 10), (.call ⟨(.builtin .cap), (List.toArray [(.tmp 9)]), (List.toArray [28])⟩), 3, "", (List.toArray []), none⟩)⟩, ⟨(some 11), none, (.mov (.tmp 0))⟩, ⟨(some 12), none, (.len (.tmp 11))⟩, ⟨(some 13), none, (.ari .sub (.tmp 10) (.tmp 12))⟩, ⟨(some 14), none, (.ari .sub (.tmp 8) (.tmp 13))⟩, ⟨(some 1), none, (.mov (.tmp 14))⟩])
  (.seq (.reg [⟨(some 15), none, (.mov (.tmp 1))⟩, ⟨(some 16), none, (.cmp .gtr (.tmp 15) (.const (.int .i64 0)))⟩])
  (.cond (.tmp 16) (.reg [⟨(some 17), none, (.mov (.tmp 0))⟩, ⟨(some 18), none, (.mov (.tmp 0))⟩, ⟨(some 19), none, (.mem ⟨(some 19), (.call ⟨(.builtin .cap), (List.toArray [(.tmp 18)]), (List.toArray [28])⟩), 3, "", (List.toArray []), none⟩)⟩, ⟨(some 20), none, (.mem ⟨(some 20), (.slice 28 (.tmp 17) none (some (.tmp 19)) none), 28, "", (List.toArray []), none⟩)⟩, ⟨(some 21), none, (.mov (.tmp 1))⟩, ⟨(some 22), none, (.mem ⟨(some 22), (.call ⟨(.builtin .append), (List.toArray [(.tmp 20), (.tmp 21)]), (List.toArray [28, 3])⟩), 28, "", (List.toArray []), none⟩)⟩, ⟨(some 23), none, (.mov (.tmp 0))⟩, ⟨(some 24), none, (.len (.tmp 23))⟩, ⟨(some 25), none, (.mem ⟨(some 25), (.slice 28 (.tmp 22) none (some (.tmp 24)) none), 28, "", (List.toArray []), none⟩)⟩, ⟨(some 0), none, (.mov (.tmp 25))⟩])
  .skip)))
  (.seq (.reg [⟨(some 26), none, (.mov (.tmp 0))⟩, ⟨(some 4), none, (.mov (.tmp 26))⟩])
  .ret))))
theorem L89 : low Try.prog Try.f89.ntmps (at_ Try.f89 []) = some R89 := by kernel_rfl
theorem N105 : Try.f105.ntmps = 11 := by kernel_rfl
theorem Z105 : Try.f105.results.toList = ((List.toArray [(.tmp 4)]) : Array ResultVar).toList := by kernel_rfl
theorem B105 : Try.f105.body = some (at_ Try.f105 []) := by kernel_rfl
noncomputable def R105 : RC := (.seq (.reg [⟨(some 2), none, (.box 101 (.tmp 0))⟩, ⟨(some 3), none, (.box 35 (.tmp 1))⟩, ⟨(some 4), none, (.mov (.const (.int .i64 0)))⟩])
  (.seq (.seq (.reg [⟨(some 5), none, (.addo (.tmp 2) 0)⟩, ⟨(some 6), none, (.ld (.tmp 5) 1)⟩])
  (.cond (.tmp 6) (.seq (.reg [⟨(some 7), none, (.addo (.tmp 3) 1)⟩, ⟨(some 8), none, (.ld (.tmp 7) 1)⟩, ⟨(some 4), none, (.mov (.tmp 8))⟩])
  .ret)
  .skip))
  (.seq (.reg [⟨(some 9), none, (.addo (.tmp 3) 0)⟩, ⟨(some 10), none, (.ld (.tmp 9) 1)⟩, ⟨(some 4), none, (.mov (.tmp 10))⟩])
  .ret)))
theorem L105 : low Try.prog Try.f105.ntmps (at_ Try.f105 []) = some R105 := by kernel_rfl
theorem N106 : Try.f106.ntmps = 15 := by kernel_rfl
theorem Z106 : Try.f106.results.toList = ((List.toArray [(.tmp 6)]) : Array ResultVar).toList := by kernel_rfl
theorem B106 : Try.f106.body = some (at_ Try.f106 []) := by kernel_rfl
noncomputable def R106 : RC := (.seq (.reg [⟨(some 3), none, (.box 101 (.tmp 0))⟩, ⟨(some 5), none, (.box 35 (.tmp 2))⟩, ⟨(some 6), none, (.mov (.const (.int .i64 0)))⟩])
  (.seq (.seq (.reg [⟨(some 7), none, (.addo (.tmp 3) 0)⟩, ⟨(some 8), none, (.ld (.tmp 7) 1)⟩])
  (.cond (.tmp 8) (.seq (.reg [⟨(some 9), none, (.mov (.tmp 1))⟩, ⟨(some 10), none, (.lda (.tmp 5) 2)⟩, ⟨(some 11), none, (.call ⟨(.value (.func 108)), (List.toArray [(.tmp 9), (.tmp 10)]), (List.toArray [3, 35])⟩ true)⟩, ⟨(some 6), none, (.mov (.tmp 11))⟩])
  .ret)
  .skip))
  (.seq (.reg [⟨(some 12), none, (.mov (.tmp 1))⟩, ⟨(some 13), none, (.lda (.tmp 5) 2)⟩, ⟨(some 14), none, (.call ⟨(.value (.func 109)), (List.toArray [(.tmp 12), (.tmp 13)]), (List.toArray [3, 35])⟩ true)⟩, ⟨(some 6), none, (.mov (.tmp 14))⟩])
  .ret)))
theorem L106 : low Try.prog Try.f106.ntmps (at_ Try.f106 []) = some R106 := by kernel_rfl
theorem N107 : Try.f107.ntmps = 19 := by kernel_rfl
theorem Z107 : Try.f107.results.toList = ((List.toArray [(.tmp 6)]) : Array ResultVar).toList := by kernel_rfl
theorem B107 : Try.f107.body = some (at_ Try.f107 []) := by kernel_rfl
noncomputable def R107 : RC := (.seq (.reg [⟨(some 3), none, (.box 101 (.tmp 0))⟩, ⟨(some 5), none, (.box 35 (.tmp 2))⟩, ⟨(some 6), none, (.mov (.const (.int .i64 0)))⟩])
  (.seq (.seq (.reg [⟨(some 7), none, (.addo (.tmp 3) 0)⟩, ⟨(some 8), none, (.ld (.tmp 7) 1)⟩])
  (.cond (.tmp 8) (.seq (.reg [⟨(some 9), none, (.mov (.tmp 1))⟩, ⟨(some 10), none, (.mov (.tmp 1))⟩, ⟨(some 11), none, (.lda (.tmp 5) 2)⟩, ⟨(some 12), none, (.call ⟨(.value (.func 109)), (List.toArray [(.tmp 10), (.tmp 11)]), (List.toArray [3, 35])⟩ true)⟩, ⟨(some 13), none, (.ari .sub (.tmp 9) (.tmp 12))⟩, ⟨(some 6), none, (.mov (.tmp 13))⟩])
  .ret)
  .skip))
  (.seq (.reg [⟨(some 14), none, (.mov (.tmp 1))⟩, ⟨(some 15), none, (.mov (.tmp 1))⟩, ⟨(some 16), none, (.lda (.tmp 5) 2)⟩, ⟨(some 17), none, (.call ⟨(.value (.func 108)), (List.toArray [(.tmp 15), (.tmp 16)]), (List.toArray [3, 35])⟩ true)⟩, ⟨(some 18), none, (.ari .sub (.tmp 14) (.tmp 17))⟩, ⟨(some 6), none, (.mov (.tmp 18))⟩])
  .ret)))
theorem L107 : low Try.prog Try.f107.ntmps (at_ Try.f107 []) = some R107 := by kernel_rfl
theorem N108 : Try.f108.ntmps = 12 := by kernel_rfl
theorem Z108 : Try.f108.results.toList = ((List.toArray [(.tmp 4)]) : Array ResultVar).toList := by kernel_rfl
theorem B108 : Try.f108.body = some (at_ Try.f108 []) := by kernel_rfl
noncomputable def R108 : RC := (.seq (.reg [⟨(some 3), none, (.box 35 (.tmp 1))⟩, ⟨(some 4), none, (.mov (.const (.int .i64 0)))⟩])
  (.seq (.reg [⟨(some 5), none, (.mov (.tmp 0))⟩, ⟨(some 6), none, (.addo (.tmp 3) 1)⟩, ⟨(some 7), none, (.ld (.tmp 6) 1)⟩, ⟨(some 8), none, (.ari .mul (.tmp 5) (.tmp 7))⟩, ⟨(some 9), none, (.ari .add (.tmp 8) (.const (.int .i64 1000000)))⟩, ⟨(some 10), none, (.ari .sub (.tmp 9) (.const (.int .i64 1)))⟩, ⟨(some 11), none, (.ari .quo (.tmp 10) (.const (.int .i64 1000000)))⟩, ⟨(some 4), none, (.mov (.tmp 11))⟩])
  .ret))
theorem L108 : low Try.prog Try.f108.ntmps (at_ Try.f108 []) = some R108 := by kernel_rfl
theorem N109 : Try.f109.ntmps = 10 := by kernel_rfl
theorem Z109 : Try.f109.results.toList = ((List.toArray [(.tmp 4)]) : Array ResultVar).toList := by kernel_rfl
theorem B109 : Try.f109.body = some (at_ Try.f109 []) := by kernel_rfl
noncomputable def R109 : RC := (.seq (.reg [⟨(some 3), none, (.box 35 (.tmp 1))⟩, ⟨(some 4), none, (.mov (.const (.int .i64 0)))⟩])
  (.seq (.reg [⟨(some 5), none, (.mov (.tmp 0))⟩, ⟨(some 6), none, (.addo (.tmp 3) 0)⟩, ⟨(some 7), none, (.ld (.tmp 6) 1)⟩, ⟨(some 8), none, (.ari .mul (.tmp 5) (.tmp 7))⟩, ⟨(some 9), none, (.ari .quo (.tmp 8) (.const (.int .i64 1000000)))⟩, ⟨(some 4), none, (.mov (.tmp 9))⟩])
  .ret))
theorem L109 : low Try.prog Try.f109.ntmps (at_ Try.f109 []) = some R109 := by kernel_rfl
end Go.Ax

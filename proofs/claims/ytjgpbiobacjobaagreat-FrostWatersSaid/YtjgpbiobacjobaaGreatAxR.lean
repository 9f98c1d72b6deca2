import Derived.Test.YtjgpbiobacjobaaGreatAxW4
import Derived.Test.YtjgpbiobacjobaaGreatChecked
set_option linter.all false
/-! What 'low' makes of the functions (written by program). -/
namespace Go.Ax
open Go Go.RowKit Go.Proofs
theorem N13 : Tryz.f13.ntmps = 162 := by kernel_rfl
theorem Z13 : Tryz.f13.results.toList = ((List.toArray [(.tmp 12)]) : Array ResultVar).toList := by kernel_rfl
theorem B13 : Tryz.f13.body = some (at_ Tryz.f13 []) := by kernel_rfl
noncomputable def R13 : RC := (.seq (.reg [⟨(some 12), none, (.mov (.const (.bool false)))⟩])
  (.seq (.seq (.reg [⟨(some 24), none, (.mov (.tmp 3))⟩, ⟨(some 25), none, (.len (.tmp 24))⟩, ⟨(some 26), none, (.cmp .gtr (.tmp 25) (.const (.int .i64 64)))⟩])
  (.cond (.tmp 26) (.seq (.reg [⟨(some 27), none, (.call ⟨(.value (.func 16)), (List.toArray []), (List.toArray [])⟩ true)⟩, ⟨(some 12), none, (.mov (.tmp 27))⟩])
  .ret)
  .skip))
  (.seq (.reg [⟨(some 29), none, (.mov (.tmp 0))⟩, ⟨(some 30), none, (.mov (.tmp 1))⟩, ⟨(some 31), none, (.mov (.tmp 2))⟩, ⟨(some 32), none, (.mov (.tmp 3))⟩, ⟨(some 33), none, (.call ⟨(.value (.func 29)), (List.toArray [(.tmp 29), (.tmp 30), (.tmp 31), (.tmp 32)]), (List.toArray [3, 3, 3, 36])⟩ true)⟩, ⟨(some 28), none, (.mov (.tmp 33))⟩, ⟨(some 34), none, (.pur ⟨(some 34), (.extract (.tmp 28) 0), 3, "", (List.toArray []), none⟩)⟩, ⟨(some 35), none, (.pur ⟨(some 35), (.extract (.tmp 28) 1), 28, "", (List.toArray []), none⟩)⟩, ⟨(some 13), none, (.mov (.tmp 34))⟩, ⟨(some 14), none, (.mov (.tmp 35))⟩])
  (.seq (.seq (.reg [⟨(some 36), none, (.mov (.tmp 14))⟩, ⟨(some 37), none, (.cmpb .neq (.tmp 36) (.const (.int .i64 0)))⟩, ⟨(some 38), none, (.mov (.tmp 37))⟩, ⟨(some 39), (some (38, true)), (.mov (.tmp 14))⟩, ⟨(some 40), (some (38, true)), (.cmpb .neq (.tmp 39) (.const (.int .i64 4)))⟩, ⟨(some 41), none, (.pur ⟨(some 41), (.pick (.tmp 38) (.tmp 40) (.const (.bool false))), 4, "", (List.toArray []), none⟩)⟩])
  (.cond (.tmp 41) (.seq (.reg [⟨(some 42), none, (.mov (.tmp 13))⟩, ⟨(some 43), none, (.cmpb .eql (.tmp 42) (.const (.int .i64 0)))⟩, ⟨(some 44), none, (.mov (.tmp 43))⟩, ⟨(some 45), (some (44, true)), (.call ⟨(.value (.func 16)), (List.toArray []), (List.toArray [])⟩ true)⟩, ⟨(some 46), none, (.pur ⟨(some 46), (.pick (.tmp 44) (.tmp 45) (.const (.bool false))), 4, "", (List.toArray []), none⟩)⟩, ⟨(some 12), none, (.mov (.tmp 46))⟩])
  .ret)
  .skip))
  (.seq (.reg [⟨(some 47), none, (.mov (.tmp 3))⟩, ⟨(some 48), none, (.len (.tmp 47))⟩, ⟨(some 15), none, (.mov (.tmp 48))⟩])
  (.seq (.seq (.reg [⟨(some 49), none, (.mov (.tmp 14))⟩, ⟨(some 50), none, (.cmp .eql (.tmp 49) (.const (.int .i64 0)))⟩])
  (.cond (.tmp 50) (.seq (.seq (.reg [⟨(some 51), none, (.mov (.tmp 13))⟩, ⟨(some 52), none, (.cmpb .lss (.tmp 51) (.const (.int .i64 0)))⟩, ⟨(some 53), none, (.mov (.tmp 52))⟩, ⟨(some 54), (some (53, false)), (.mov (.tmp 13))⟩, ⟨(some 55), (some (53, false)), (.mov (.tmp 3))⟩, ⟨(some 56), (some (53, false)), (.len (.tmp 55))⟩, ⟨(some 57), (some (53, false)), (.cmpb .geq (.tmp 54) (.tmp 56))⟩, ⟨(some 58), none, (.pur ⟨(some 58), (.pick (.tmp 53) (.const (.bool true)) (.tmp 57)), 4, "", (List.toArray []), none⟩)⟩])
  (.cond (.tmp 58) (.seq (.reg [⟨(some 12), none, (.mov (.const (.bool false)))⟩])
  .ret)
  .skip))
  (.reg [⟨(some 59), none, (.mov (.tmp 13))⟩, ⟨(some 15), none, (.mov (.tmp 59))⟩]))
  .skip))
  (.seq (.reg [⟨(some 60), none, (.mov (.tmp 4))⟩, ⟨(some 61), none, (.pur ⟨(some 61), (.convert 5 3 (.tmp 60)), 3, "", (List.toArray []), none⟩)⟩, ⟨(some 62), none, (.mov (.tmp 3))⟩, ⟨(some 63), none, (.len (.tmp 62))⟩, ⟨(some 64), none, (.ari .add (.tmp 63) (.const (.int .i64 1)))⟩, ⟨(some 65), none, (.ari .rem (.tmp 61) (.tmp 64))⟩, ⟨(some 16), none, (.mov (.tmp 65))⟩])
  (.seq (.reg [⟨(some 67), none, (.mov (.tmp 0))⟩, ⟨(some 68), none, (.mov (.tmp 1))⟩, ⟨(some 69), none, (.mov (.tmp 2))⟩, ⟨(some 70), none, (.mov (.tmp 3))⟩, ⟨(some 71), none, (.mov (.tmp 16))⟩, ⟨(some 72), none, (.mem ⟨(some 72), (.slice 36 (.tmp 70) none (some (.tmp 71)) none), 36, "", (List.toArray []), none⟩)⟩, ⟨(some 73), none, (.call ⟨(.value (.func 29)), (List.toArray [(.tmp 67), (.tmp 68), (.tmp 69), (.tmp 72)]), (List.toArray [3, 3, 3, 36])⟩ true)⟩, ⟨(some 66), none, (.mov (.tmp 73))⟩, ⟨(some 74), none, (.pur ⟨(some 74), (.extract (.tmp 66) 0), 3, "", (List.toArray []), none⟩)⟩, ⟨(some 75), none, (.pur ⟨(some 75), (.extract (.tmp 66) 1), 28, "", (List.toArray []), none⟩)⟩, ⟨(some 17), none, (.mov (.tmp 74))⟩, ⟨(some 18), none, (.mov (.tmp 75))⟩])
  (.seq (.seq (.reg [⟨(some 76), none, (.mov (.tmp 16))⟩, ⟨(some 77), none, (.mov (.tmp 15))⟩, ⟨(some 78), none, (.cmpb .leq (.tmp 76) (.tmp 77))⟩, ⟨(some 79), none, (.mov (.tmp 78))⟩, ⟨(some 80), (some (79, true)), (.mov (.tmp 18))⟩, ⟨(some 81), (some (79, true)), (.cmpb .neq (.tmp 80) (.const (.int .i64 4)))⟩, ⟨(some 82), none, (.pur ⟨(some 82), (.pick (.tmp 79) (.tmp 81) (.const (.bool false))), 4, "", (List.toArray []), none⟩)⟩, ⟨(some 83), none, (.mov (.tmp 82))⟩, ⟨(some 84), (some (83, false)), (.mov (.tmp 16))⟩, ⟨(some 85), (some (83, false)), (.mov (.tmp 15))⟩, ⟨(some 86), (some (83, false)), (.cmpb .gtr (.tmp 84) (.tmp 85))⟩, ⟨(some 87), (some (83, false)), (.mov (.tmp 86))⟩, ⟨(some 88), (some (87, true)), (.mov (.tmp 18))⟩, ⟨(some 89), (some (87, true)), (.cmpb .neq (.tmp 88) (.const (.int .i64 0)))⟩, ⟨(some 90), (some (87, true)), (.mov (.tmp 89))⟩, ⟨(some 91), (some (90, false)), (.mov (.tmp 17))⟩, ⟨(some 92), (some (90, false)), (.mov (.tmp 13))⟩, ⟨(some 93), (some (90, false)), (.cmpb .neq (.tmp 91) (.tmp 92))⟩, ⟨(some 94), (some (87, true)), (.pur ⟨(some 94), (.pick (.tmp 90) (.const (.bool true)) (.tmp 93)), 4, "", (List.toArray []), none⟩)⟩, ⟨(some 95), (some (83, false)), (.pur ⟨(some 95), (.pick (.tmp 87) (.tmp 94) (.const (.bool false))), 4, "", (List.toArray []), none⟩)⟩, ⟨(some 96), none, (.pur ⟨(some 96), (.pick (.tmp 83) (.const (.bool true)) (.tmp 95)), 4, "", (List.toArray []), none⟩)⟩])
  (.cond (.tmp 96) (.seq (.reg [⟨(some 12), none, (.mov (.const (.bool false)))⟩])
  .ret)
  .skip))
  (.seq (.reg [⟨(some 98), none, (.mov (.tmp 1))⟩, ⟨(some 99), none, (.mov (.tmp 0))⟩, ⟨(some 100), none, (.mov (.tmp 5))⟩, ⟨(some 101), none, (.pur ⟨(some 101), (.convert 72 3 (.tmp 100)), 3, "", (List.toArray []), none⟩)⟩, ⟨(some 102), none, (.ari .add (.tmp 99) (.tmp 101))⟩, ⟨(some 103), none, (.mm true (.tmp 98) (.tmp 102))⟩, ⟨(some 104), none, (.mov (.tmp 1))⟩, ⟨(some 105), none, (.mov (.tmp 2))⟩, ⟨(some 106), none, (.mov (.tmp 5))⟩, ⟨(some 107), none, (.pur ⟨(some 107), (.convert 72 3 (.tmp 106)), 3, "", (List.toArray []), none⟩)⟩, ⟨(some 108), none, (.ari .add (.tmp 105) (.tmp 107))⟩, ⟨(some 109), none, (.mm true (.const (.int .i64 1099511627776)) (.tmp 108))⟩, ⟨(some 110), none, (.mov (.tmp 3))⟩, ⟨(some 111), none, (.call ⟨(.value (.func 29)), (List.toArray [(.tmp 103), (.tmp 104), (.tmp 109), (.tmp 110)]), (List.toArray [3, 3, 3, 36])⟩ true)⟩, ⟨(some 97), none, (.mov (.tmp 111))⟩, ⟨(some 112), none, (.pur ⟨(some 112), (.extract (.tmp 97) 0), 3, "", (List.toArray []), none⟩)⟩, ⟨(some 113), none, (.pur ⟨(some 113), (.extract (.tmp 97) 1), 28, "", (List.toArray []), none⟩)⟩, ⟨(some 19), none, (.mov (.tmp 112))⟩, ⟨(some 20), none, (.mov (.tmp 113))⟩])
  (.seq (.seq (.reg [⟨(some 114), none, (.mov (.tmp 20))⟩, ⟨(some 115), none, (.cmpb .neq (.tmp 114) (.const (.int .i64 4)))⟩, ⟨(some 116), none, (.mov (.tmp 115))⟩, ⟨(some 117), (some (116, true)), (.mov (.tmp 20))⟩, ⟨(some 118), (some (116, true)), (.cmpb .neq (.tmp 117) (.const (.int .i64 0)))⟩, ⟨(some 119), (some (116, true)), (.mov (.tmp 118))⟩, ⟨(some 120), (some (119, false)), (.mov (.tmp 14))⟩, ⟨(some 121), (some (119, false)), (.cmpb .neq (.tmp 120) (.const (.int .i64 0)))⟩, ⟨(some 122), (some (116, true)), (.pur ⟨(some 122), (.pick (.tmp 119) (.const (.bool true)) (.tmp 121)), 4, "", (List.toArray []), none⟩)⟩, ⟨(some 123), (some (116, true)), (.mov (.tmp 122))⟩, ⟨(some 124), (some (123, false)), (.mov (.tmp 19))⟩, ⟨(some 125), (some (123, false)), (.mov (.tmp 13))⟩, ⟨(some 126), (some (123, false)), (.cmpb .lss (.tmp 124) (.tmp 125))⟩, ⟨(some 127), (some (116, true)), (.pur ⟨(some 127), (.pick (.tmp 123) (.const (.bool true)) (.tmp 126)), 4, "", (List.toArray []), none⟩)⟩, ⟨(some 128), none, (.pur ⟨(some 128), (.pick (.tmp 116) (.tmp 127) (.const (.bool false))), 4, "", (List.toArray []), none⟩)⟩])
  (.cond (.tmp 128) (.seq (.reg [⟨(some 12), none, (.mov (.const (.bool false)))⟩])
  .ret)
  .skip))
  (.seq (.reg [⟨(some 129), none, (.mov (.tmp 0))⟩, ⟨(some 21), none, (.mov (.tmp 129))⟩])
  (.seq (.seq (.reg [⟨(some 130), none, (.mov (.tmp 3))⟩, ⟨(some 131), none, (.mov (.tmp 15))⟩, ⟨(some 132), none, (.mem ⟨(some 132), (.slice 36 (.tmp 130) none (some (.tmp 131)) none), 36, "", (List.toArray []), none⟩)⟩, ⟨(some 133), none, (.len (.tmp 132))⟩, ⟨(some 134), none, (.mov (.const (.int .i64 0)))⟩])
  (.block 0 (.other (at_ Tryz.f13 [1, 1, 1, 1, 1, 1, 1, 1, 1, 1, 1, 1, 0, 1, 0]))))
  (.seq (.reg [⟨(some 149), none, (.mov (.tmp 14))⟩, ⟨(some 150), none, (.cmpb .neq (.tmp 149) (.const (.int .i64 0)))⟩, ⟨(some 151), none, (.mov (.tmp 150))⟩, ⟨(some 152), (some (151, false)), (.mov (.tmp 21))⟩, ⟨(some 153), (some (151, false)), (.mov (.tmp 3))⟩, ⟨(some 154), (some (151, false)), (.mov (.tmp 13))⟩, ⟨(some 155), (some (151, false)), (.idx (.tmp 153) (.tmp 154) 1)⟩, ⟨(some 156), (some (151, false)), (.ld (.tmp 155) 1)⟩, ⟨(some 157), (some (151, false)), (.cmpb .lss (.tmp 152) (.tmp 156))⟩, ⟨(some 158), none, (.pur ⟨(some 158), (.pick (.tmp 151) (.const (.bool true)) (.tmp 157)), 4, "", (List.toArray []), none⟩)⟩, ⟨(some 159), none, (.mov (.tmp 158))⟩, ⟨(some 160), (some (159, true)), (.call ⟨(.value (.func 16)), (List.toArray []), (List.toArray [])⟩ true)⟩, ⟨(some 161), none, (.pur ⟨(some 161), (.pick (.tmp 159) (.tmp 160) (.const (.bool false))), 4, "", (List.toArray []), none⟩)⟩, ⟨(some 12), none, (.mov (.tmp 161))⟩])
  .ret))))))))))))))
theorem L13 : low Tryz.prog Tryz.f13.ntmps (at_ Tryz.f13 []) = some R13 := by kernel_rfl
theorem E13_1 : at_ Tryz.f13 [1, 1, 1, 1, 1, 1, 1, 1, 1, 1, 1, 1, 0, 1, 0] = .loop (at_ Tryz.f13 [1, 1, 1, 1, 1, 1, 1, 1, 1, 1, 1, 1, 0, 1, 0, 0]) := by kernel_rfl
noncomputable def R13x1 : RC := (.seq (.reg [⟨(some 135), none, (.cmp .lss (.tmp 134) (.tmp 133))⟩])
  (.seq (.cond (.tmp 135) .skip
  (.exit 0))
  (.seq (.block 1 (.seq (.reg [⟨(some 136), none, (.idx (.tmp 132) (.tmp 134) 1)⟩, ⟨(some 137), none, (.ld (.tmp 136) 1)⟩, ⟨(some 23), none, (.mov (.tmp 137))⟩])
  (.seq (.seq (.reg [⟨(some 138), none, (.mov (.tmp 21))⟩, ⟨(some 139), none, (.mov (.tmp 23))⟩, ⟨(some 140), none, (.cmp .lss (.tmp 138) (.tmp 139))⟩])
  (.cond (.tmp 140) (.seq (.reg [⟨(some 12), none, (.mov (.const (.bool false)))⟩])
  .ret)
  .skip))
  (.reg [⟨(some 141), none, (.mov (.tmp 1))⟩, ⟨(some 142), none, (.mov (.tmp 21))⟩, ⟨(some 143), none, (.mov (.tmp 23))⟩, ⟨(some 144), none, (.ari .sub (.tmp 142) (.tmp 143))⟩, ⟨(some 145), none, (.mov (.tmp 2))⟩, ⟨(some 146), none, (.ari .add (.tmp 144) (.tmp 145))⟩, ⟨(some 147), none, (.mm true (.tmp 141) (.tmp 146))⟩, ⟨(some 21), none, (.mov (.tmp 147))⟩]))))
  (.reg [⟨(some 148), none, (.ari .add (.tmp 134) (.const (.int .i64 1)))⟩, ⟨(some 134), none, (.mov (.tmp 148))⟩]))))
theorem L13x1 : low Tryz.prog Tryz.f13.ntmps (at_ Tryz.f13 [1, 1, 1, 1, 1, 1, 1, 1, 1, 1, 1, 1, 0, 1, 0, 0]) = some R13x1 := by kernel_rfl
theorem N29 : Tryz.f29.ntmps = 55 := by kernel_rfl
theorem Z29 : Tryz.f29.results.toList = ((List.toArray [(.tmp 8), (.tmp 9)]) : Array ResultVar).toList := by kernel_rfl
theorem B29 : Tryz.f29.body = some (at_ Tryz.f29 []) := by kernel_rfl
noncomputable def R29 : RC := (.seq (.reg [⟨(some 8), none, (.mov (.const (.int .i64 0)))⟩, ⟨(some 9), none, (.mov (.const (.int .i64 0)))⟩])
  (.seq (.seq (.reg [⟨(some 13), none, (.mov (.tmp 3))⟩, ⟨(some 14), none, (.len (.tmp 13))⟩, ⟨(some 15), none, (.cmp .gtr (.tmp 14) (.const (.int .i64 64)))⟩])
  (.cond (.tmp 15) (.seq (.reg [⟨(some 8), none, (.mov (.const (.int .i64 0)))⟩, ⟨(some 9), none, (.mov (.const (.int .i64 3)))⟩])
  .ret)
  .skip))
  (.seq (.seq (.reg [⟨(some 16), none, (.mov (.tmp 0))⟩, ⟨(some 17), none, (.mov (.tmp 1))⟩, ⟨(some 18), none, (.call ⟨(.value (.func 42)), (List.toArray [(.tmp 16), (.const (.int .i64 0)), (.tmp 17)]), (List.toArray [3, 3, 3])⟩ true)⟩, ⟨(some 19), none, (.pur ⟨(some 19), (.unOp .not 4 (.tmp 18)), 4, "", (List.toArray []), none⟩)⟩, ⟨(some 20), none, (.mov (.tmp 19))⟩, ⟨(some 21), (some (20, false)), (.mov (.tmp 1))⟩, ⟨(some 22), (some (20, false)), (.call ⟨(.value (.func 43)), (List.toArray [(.tmp 21)]), (List.toArray [3])⟩ true)⟩, ⟨(some 23), (some (20, false)), (.pur ⟨(some 23), (.unOp .not 4 (.tmp 22)), 4, "", (List.toArray []), none⟩)⟩, ⟨(some 24), none, (.pur ⟨(some 24), (.pick (.tmp 20) (.const (.bool true)) (.tmp 23)), 4, "", (List.toArray []), none⟩)⟩, ⟨(some 25), none, (.mov (.tmp 24))⟩, ⟨(some 26), (some (25, false)), (.mov (.tmp 2))⟩, ⟨(some 27), (some (25, false)), (.call ⟨(.value (.func 43)), (List.toArray [(.tmp 26)]), (List.toArray [3])⟩ true)⟩, ⟨(some 28), (some (25, false)), (.pur ⟨(some 28), (.unOp .not 4 (.tmp 27)), 4, "", (List.toArray []), none⟩)⟩, ⟨(some 29), none, (.pur ⟨(some 29), (.pick (.tmp 25) (.const (.bool true)) (.tmp 28)), 4, "", (List.toArray []), none⟩)⟩, ⟨(some 30), none, (.mov (.tmp 29))⟩, ⟨(some 31), (some (30, false)), (.mov (.tmp 3))⟩, ⟨(some 32), (some (30, false)), (.call ⟨(.value (.func 61)), (List.toArray [(.tmp 31), (.const (.int .i64 0)), (.const (.int .i64 1099511627776))]), (List.toArray [36, 3, 3])⟩ true)⟩, ⟨(some 33), (some (30, false)), (.pur ⟨(some 33), (.unOp .not 4 (.tmp 32)), 4, "", (List.toArray []), none⟩)⟩, ⟨(some 34), none, (.pur ⟨(some 34), (.pick (.tmp 30) (.const (.bool true)) (.tmp 33)), 4, "", (List.toArray []), none⟩)⟩])
  (.cond (.tmp 34) (.seq (.reg [⟨(some 8), none, (.mov (.const (.int .i64 0)))⟩, ⟨(some 9), none, (.mov (.const (.int .i64 2)))⟩])
  .ret)
  .skip))
  (.seq (.reg [⟨(some 35), none, (.mov (.tmp 0))⟩, ⟨(some 10), none, (.mov (.tmp 35))⟩])
  (.seq (.seq (.reg [⟨(some 36), none, (.mov (.tmp 3))⟩, ⟨(some 37), none, (.len (.tmp 36))⟩, ⟨(some 38), none, (.mov (.const (.int .i64 0)))⟩])
  (.block 0 (.other (at_ Tryz.f29 [1, 1, 1, 1, 0, 1, 0]))))
  (.seq (.reg [⟨(some 8), none, (.mov (.const (.int .i64 0)))⟩, ⟨(some 9), none, (.mov (.const (.int .i64 4)))⟩])
  .ret))))))
theorem L29 : low Tryz.prog Tryz.f29.ntmps (at_ Tryz.f29 []) = some R29 := by kernel_rfl
theorem E29_1 : at_ Tryz.f29 [1, 1, 1, 1, 0, 1, 0] = .loop (at_ Tryz.f29 [1, 1, 1, 1, 0, 1, 0, 0]) := by kernel_rfl
noncomputable def R29x1 : RC := (.seq (.reg [⟨(some 39), none, (.cmp .lss (.tmp 38) (.tmp 37))⟩])
  (.seq (.cond (.tmp 39) .skip
  (.exit 0))
  (.seq (.block 1 (.seq (.reg [⟨(some 40), none, (.mov (.tmp 38))⟩, ⟨(some 41), none, (.idx (.tmp 36) (.tmp 38) 1)⟩, ⟨(some 42), none, (.ld (.tmp 41) 1)⟩, ⟨(some 11), none, (.mov (.tmp 40))⟩, ⟨(some 12), none, (.mov (.tmp 42))⟩])
  (.seq (.seq (.reg [⟨(some 43), none, (.mov (.tmp 12))⟩, ⟨(some 44), none, (.mov (.tmp 10))⟩, ⟨(some 45), none, (.cmp .gtr (.tmp 43) (.tmp 44))⟩])
  (.cond (.tmp 45) (.seq (.reg [⟨(some 46), none, (.mov (.tmp 11))⟩, ⟨(some 8), none, (.mov (.tmp 46))⟩, ⟨(some 9), none, (.mov (.const (.int .i64 0)))⟩])
  .ret)
  .skip))
  (.reg [⟨(some 47), none, (.mov (.tmp 1))⟩, ⟨(some 48), none, (.mov (.tmp 10))⟩, ⟨(some 49), none, (.mov (.tmp 12))⟩, ⟨(some 50), none, (.ari .sub (.tmp 48) (.tmp 49))⟩, ⟨(some 51), none, (.mov (.tmp 2))⟩, ⟨(some 52), none, (.ari .add (.tmp 50) (.tmp 51))⟩, ⟨(some 53), none, (.mm true (.tmp 47) (.tmp 52))⟩, ⟨(some 10), none, (.mov (.tmp 53))⟩]))))
  (.reg [⟨(some 54), none, (.ari .add (.tmp 38) (.const (.int .i64 1)))⟩, ⟨(some 38), none, (.mov (.tmp 54))⟩]))))
theorem L29x1 : low Tryz.prog Tryz.f29.ntmps (at_ Tryz.f29 [1, 1, 1, 1, 0, 1, 0, 0]) = some R29x1 := by kernel_rfl
theorem N42 : Tryz.f42.ntmps = 15 := by kernel_rfl
theorem Z42 : Tryz.f42.results.toList = ((List.toArray [(.tmp 6)]) : Array ResultVar).toList := by kernel_rfl
theorem B42 : Tryz.f42.body = some (at_ Tryz.f42 []) := by kernel_rfl
noncomputable def R42 : RC := (.seq (.reg [⟨(some 6), none, (.mov (.const (.bool false)))⟩])
  (.seq (.reg [⟨(some 7), none, (.mov (.tmp 1))⟩, ⟨(some 8), none, (.mov (.tmp 0))⟩, ⟨(some 9), none, (.cmpb .leq (.tmp 7) (.tmp 8))⟩, ⟨(some 10), none, (.mov (.tmp 9))⟩, ⟨(some 11), (some (10, true)), (.mov (.tmp 0))⟩, ⟨(some 12), (some (10, true)), (.mov (.tmp 2))⟩, ⟨(some 13), (some (10, true)), (.cmpb .leq (.tmp 11) (.tmp 12))⟩, ⟨(some 14), none, (.pur ⟨(some 14), (.pick (.tmp 10) (.tmp 13) (.const (.bool false))), 4, "", (List.toArray []), none⟩)⟩, ⟨(some 6), none, (.mov (.tmp 14))⟩])
  .ret))
theorem L42 : low Tryz.prog Tryz.f42.ntmps (at_ Tryz.f42 []) = some R42 := by kernel_rfl
theorem N43 : Tryz.f43.ntmps = 5 := by kernel_rfl
theorem Z43 : Tryz.f43.results.toList = ((List.toArray [(.tmp 2)]) : Array ResultVar).toList := by kernel_rfl
theorem B43 : Tryz.f43.body = some (at_ Tryz.f43 []) := by kernel_rfl
noncomputable def R43 : RC := (.seq (.reg [⟨(some 2), none, (.mov (.const (.bool false)))⟩])
  (.seq (.reg [⟨(some 3), none, (.mov (.tmp 0))⟩, ⟨(some 4), none, (.call ⟨(.value (.func 42)), (List.toArray [(.tmp 3), (.const (.int .i64 0)), (.const (.int .i64 1099511627776))]), (List.toArray [3, 3, 3])⟩ true)⟩, ⟨(some 2), none, (.mov (.tmp 4))⟩])
  .ret))
theorem L43 : low Tryz.prog Tryz.f43.ntmps (at_ Tryz.f43 []) = some R43 := by kernel_rfl
theorem N61 : Tryz.f61.ntmps = 11 := by kernel_rfl
theorem Z61 : Tryz.f61.results.toList = ((List.toArray [(.tmp 6)]) : Array ResultVar).toList := by kernel_rfl
theorem B61 : Tryz.f61.body = some (at_ Tryz.f61 []) := by kernel_rfl
noncomputable def R61 : RC := (.seq (.reg [⟨(some 4), none, (.box 3 (.tmp 1))⟩, ⟨(some 5), none, (.box 3 (.tmp 2))⟩, ⟨(some 6), none, (.mov (.const (.bool false)))⟩])
  (.seq (.reg [⟨(some 7), none, (.mov (.tmp 0))⟩, ⟨(some 8), none, (.pur ⟨(some 8), (.makeFunc (.func 88) (List.toArray []) (List.toArray [(.tmp 4), (.tmp 5)])), 84, "", (List.toArray []), none⟩)⟩, ⟨(some 9), none, (.call ⟨(.value (.func 87)), (List.toArray [(.tmp 7), (.tmp 8)]), (List.toArray [36, 84])⟩ true)⟩, ⟨(some 10), none, (.pur ⟨(some 10), (.unOp .not 4 (.tmp 9)), 4, "", (List.toArray []), none⟩)⟩, ⟨(some 6), none, (.mov (.tmp 10))⟩])
  .ret))
theorem L61 : low Tryz.prog Tryz.f61.ntmps (at_ Tryz.f61 []) = some R61 := by kernel_rfl
theorem N87 : Tryz.f87.ntmps = 9 := by kernel_rfl
theorem Z87 : Tryz.f87.results.toList = ((List.toArray [(.tmp 4)]) : Array ResultVar).toList := by kernel_rfl
theorem B87 : Tryz.f87.body = some (at_ Tryz.f87 []) := by kernel_rfl
noncomputable def R87 : RC := (.seq (.reg [⟨(some 4), none, (.mov (.const (.bool false)))⟩])
  (.seq (.reg [⟨(some 5), none, (.mov (.tmp 0))⟩, ⟨(some 6), none, (.mov (.tmp 1))⟩, ⟨(some 7), none, (.call ⟨(.value (.func 109)), (List.toArray [(.tmp 5), (.tmp 6)]), (List.toArray [36, 84])⟩ true)⟩, ⟨(some 8), none, (.cmp .geq (.tmp 7) (.const (.int .i64 0)))⟩, ⟨(some 4), none, (.mov (.tmp 8))⟩])
  .ret))
theorem L87 : low Tryz.prog Tryz.f87.ntmps (at_ Tryz.f87 []) = some R87 := by kernel_rfl
theorem N88 : Tryz.f88.ntmps = 10 := by kernel_rfl
theorem Z88 : Tryz.f88.results.toList = ((List.toArray [(.tmp 4)]) : Array ResultVar).toList := by kernel_rfl
theorem B88 : Tryz.f88.body = some (at_ Tryz.f88 []) := by kernel_rfl
noncomputable def R88 : RC := (.seq (.reg [⟨(some 4), none, (.mov (.const (.bool false)))⟩])
  (.seq (.reg [⟨(some 5), none, (.mov (.tmp 0))⟩, ⟨(some 6), none, (.ld (.tmp 1) 1)⟩, ⟨(some 7), none, (.ld (.tmp 2) 1)⟩, ⟨(some 8), none, (.call ⟨(.value (.func 42)), (List.toArray [(.tmp 5), (.tmp 6), (.tmp 7)]), (List.toArray [3, 3, 3])⟩ true)⟩, ⟨(some 9), none, (.pur ⟨(some 9), (.unOp .not 4 (.tmp 8)), 4, "", (List.toArray []), none⟩)⟩, ⟨(some 4), none, (.mov (.tmp 9))⟩])
  .ret))
theorem L88 : low Tryz.prog Tryz.f88.ntmps (at_ Tryz.f88 []) = some R88 := by kernel_rfl
theorem N109 : Tryz.f109.ntmps = 19 := by kernel_rfl
theorem Z109 : Tryz.f109.results.toList = ((List.toArray [(.tmp 4)]) : Array ResultVar).toList := by kernel_rfl
theorem B109 : Tryz.f109.body = some (at_ Tryz.f109 []) := by kernel_rfl
noncomputable def R109 : RC := (.seq (.reg [⟨(some 4), none, (.mov (.const (.int .i64 0)))⟩])
  (.seq (.seq (.reg [⟨(some 6), none, (.mov (.tmp 0))⟩, ⟨(some 7), none, (.len (.tmp 6))⟩, ⟨(some 8), none, (.mov (.const (.int .i64 0)))⟩])
  (.block 0 (.other (at_ Tryz.f109 [1, 0, 1, 0]))))
  (.seq (.reg [⟨(some 4), none, (.mov (.const (.int .i64 (-1))))⟩])
  .ret)))
theorem L109 : low Tryz.prog Tryz.f109.ntmps (at_ Tryz.f109 []) = some R109 := by kernel_rfl
theorem E109_1 : at_ Tryz.f109 [1, 0, 1, 0] = .loop (at_ Tryz.f109 [1, 0, 1, 0, 0]) := by kernel_rfl
noncomputable def R109x1 : RC := (.seq (.reg [⟨(some 9), none, (.cmp .lss (.tmp 8) (.tmp 7))⟩])
  (.seq (.cond (.tmp 9) .skip
  (.exit 0))
  (.seq (.block 1 (.seq (.reg [⟨(some 10), none, (.mov (.tmp 8))⟩, ⟨(some 5), none, (.mov (.tmp 10))⟩])
  (.seq (.reg [⟨(some 11), none, (.mov (.tmp 1))⟩, ⟨(some 12), none, (.mov (.tmp 0))⟩, ⟨(some 13), none, (.mov (.tmp 5))⟩, ⟨(some 14), none, (.idx (.tmp 12) (.tmp 13) 1)⟩, ⟨(some 15), none, (.ld (.tmp 14) 1)⟩, ⟨(some 16), none, (.call ⟨(.value (.tmp 11)), (List.toArray [(.tmp 15)]), (List.toArray [3])⟩ true)⟩])
  (.cond (.tmp 16) (.seq (.reg [⟨(some 17), none, (.mov (.tmp 5))⟩, ⟨(some 4), none, (.mov (.tmp 17))⟩])
  .ret)
  .skip))))
  (.reg [⟨(some 18), none, (.ari .add (.tmp 8) (.const (.int .i64 1)))⟩, ⟨(some 8), none, (.mov (.tmp 18))⟩]))))
theorem L109x1 : low Tryz.prog Tryz.f109.ntmps (at_ Tryz.f109 [1, 0, 1, 0, 0]) = some R109x1 := by kernel_rfl
end Go.Ax

import Derived.Test.YtjgpbiobacjobaaGreatAxW4
import Derived.Test.YtjgpbiobacjobaaGreatChecked
import Derived.Test.YtjgpbiobacjobaaGreatAxW8
set_option linter.all false
/-! What 'low' makes of the functions (written by program). -/
namespace Go.Ax
open Go Go.RowKit Go.Proofs
theorem N13 : Tryz.f13.ntmps = 162 := by kernel_rfl
theorem Z13 : Tryz.f13.results.toList = ((List.toArray [(.tmp 12)]) : Array ResultVar).toList := by kernel_rfl
theorem B13 : Tryz.f13.body = some (at_ Tryz.f13 []) := by kernel_rfl
noncomputable def R13 : RC := (.seq (.reg [⟨(some 12), none, (.mov (.const (.bool false)))⟩])
  (.seq (.seq (.reg [⟨(some 24), none, (.mov (.tmp 3))⟩, ⟨(some 25), none, (.len (.tmp 24))⟩, ⟨(some 26), none, (.cmp .gtr (.tmp 25) (.const (.int .i64 64)))⟩])
  (.cond (.tmp 26) (.seq (.reg [⟨(some 27), none, (.call ⟨(.value (.func 16)), (List.toArray []), (List.toArray [])⟩ true)⟩, ⟨(some 12), none, (.mov (.tmp 27))⟩])
  .ret)
  .skip))
  (.seq (.reg [⟨(some 29), none, (.mov (.tmp 0))⟩, ⟨(some 30), none, (.mov (.tmp 1))⟩, ⟨(some 31), none, (.mov (.tmp 2))⟩, ⟨(some 32), none, (.mov (.tmp 3))⟩, ⟨(some 33), none, (.call ⟨(.value (.func 29)), (List.toArray [(.tmp 29), (.tmp 30), (.tmp 31), (.tmp 32)]), (List.toArray [3, 3, 3, 36])⟩ true)⟩, ⟨(some 28), none, (.mov (.tmp 33))⟩, ⟨(some 34), none, (.pur ⟨(some 34), (.extract (.tmp 28) 0), 3, "", (List.toArray []), none⟩)⟩, ⟨(some 35), none, (.pur ⟨(some 35), (.extract (.tmp 28) 1), 28, "", (List.toArray []), none⟩)⟩, ⟨(some 13), none, (.mov (.tmp 34))⟩, ⟨(some 14), none, (.mov (.tmp 35))⟩])
  (.seq (.seq (.reg [⟨(some 36), none, (.mov (.tmp 14))⟩, ⟨(some 37), none, (.cmpb .neq (.tmp 36) (.const (.int .i64 0)))⟩, ⟨(some 38), none, (.mov (.tmp 37))⟩, ⟨(some 39), (some (38, true)), (.mov (.tmp 14))⟩, ⟨(some 40), (some (38, true)), (.cmpb .neq (.tmp 39) (.const (.int .i64 4)))⟩, ⟨(some 41), none, (.pur ⟨(some 41), (.pick (.tmp 38) (.tmp 40) (.const (.bool false))), 4, "", (List.toArray []), none⟩)⟩])
  (.cond (.tmp 41) (.seq (.reg [⟨(some 42), none, (.mov (.tmp 13))⟩, ⟨(some 43), none, (.cmpb .eql (.tmp 42) (.const (.int .i64 0)))⟩, ⟨(some 44), none, (.mov (.tmp 43))⟩, ⟨(some 45), (some (44, true)), (.call ⟨(.value (.func 16)), (List.toArray []), (List.toArray [])⟩ true)⟩, ⟨(some 46), none, (.pur ⟨(some 46), (.pick (.tmp 44) (.tmp 45) (.const (.bool false))), 4, "", (List.toArray []), none⟩)⟩, ⟨(some 12), none, (.mov (.tmp 46))⟩])
  .ret)
  .skip))
  (.seq (.reg [⟨(some 47), none, (.mov (.tmp 3))⟩, ⟨(some 48), none, (.len (.tmp 47))⟩, ⟨(some 15), none, (.mov (.tmp 48))⟩])
  (.seq (.seq (.reg [⟨(some 49), none, (.mov (.tmp 14))⟩, ⟨(some 50), none, (.cmp .eql (.tmp 49) (.const (.int .i64 0)))⟩])
  (.cond (.tmp 50) (.seq (.seq (.reg [⟨(some 51), none, (.mov (.tmp 13))⟩, ⟨(some 52), none, (.cmpb .lss (.tmp 51) (.const (.int .i64 0)))⟩, ⟨(some 53), none, (.mov (.tmp 52))⟩, ⟨(some 54), (some (53, false)), (.mov (.tmp 13))⟩, ⟨(some 55), (some (53, false)), (.mov (.tmp 3))⟩, ⟨(some 56), (some (53, false)), (.len (.tmp 55))⟩, ⟨(some 57), (some (53, false)), (.cmpb .geq (.tmp 54) (.tmp 56))⟩, ⟨(some 58), none, (.pur ⟨(some 58), (.pick (.tmp 53) (.const (.bool true)) (.tmp 57)), 4, "", (List.toArray []), none⟩)⟩])
  (.cond (.tmp 58) (.seq (.reg [⟨(some 12), none, (.mov (.const (.bool false)))⟩])
  .ret)
  .skip))
  (.reg [⟨(some 59), none, (.mov (.tmp 13))⟩, ⟨(some 15), none, (.mov (.tmp 59))⟩]))
  .skip))
  (.seq (.reg [⟨(some 60), none, (.mov (.tmp 4))⟩, ⟨(some 61), none, (.pur ⟨(some 61), (.convert 5 3 (.tmp 60)), 3, "", (List.toArray []), none⟩)⟩, ⟨(some 62), none, (.mov (.tmp 3))⟩, ⟨(some 63), none, (.len (.tmp 62))⟩, ⟨(some 64), none, (.ari .add (.tmp 63) (.const (.int .i64 1)))⟩, ⟨(some 65), none, (.ari .rem (.tmp 61) (.tmp 64))⟩, ⟨(some 16), none, (.mov (.tmp 65))⟩])
  (.seq (.reg [⟨(some 67), none, (.mov (.tmp 0))⟩, ⟨(some 68), none, (.mov (.tmp 1))⟩, ⟨(some 69), none, (.mov (.tmp 2))⟩, ⟨(some 70), none, (.mov (.tmp 3))⟩, ⟨(some 71), none, (.mov (.tmp 16))⟩, ⟨(some 72), none, (.mem ⟨(some 72), (.slice 36 (.tmp 70) none (some (.tmp 71)) none), 36, "", (List.toArray []), none⟩)⟩, ⟨(some 73), none, (.call ⟨(.value (.func 29)), (List.toArray [(.tmp 67), (.tmp 68), (.tmp 69), (.tmp 72)]), (List.toArray [3, 3, 3, 36])⟩ true)⟩, ⟨(some 66), none, (.mov (.tmp 73))⟩, ⟨(some 74), none, (.pur ⟨(some 74), (.extract (.tmp 66) 0), 3, "", (List.toArray []), none⟩)⟩, ⟨(some 75), none, (.pur ⟨(some 75), (.extract (.tmp 66) 1), 28, "", (List.toArray []), none⟩)⟩, ⟨(some 17), none, (.mov (.tmp 74))⟩, ⟨(some 18), none, (.mov (.tmp 75))⟩])
  (.seq (.seq (.reg [⟨(some 76), none, (.mov (.tmp 16))⟩, ⟨(some 77), none, (.mov (.tmp 15))⟩, ⟨(some 78), none, (.cmpb .leq (.tmp 76) (.tmp 77))⟩, ⟨(some 79), none, (.mov (.tmp 78))⟩, ⟨(some 80), (some (79, true)), (.mov (.tmp 18))⟩, ⟨(some 81), (some (79, true)), (.cmpb .neq (.tmp 80) (.const (.int .i64 4)))⟩, ⟨(some 82), none, (.pur ⟨(some 82), (.pick (.tmp 79) (.tmp 81) (.const (.bool false))), 4, "", (List.toArray []), none⟩)⟩, ⟨(some 83), none, (.mov (.tmp 82))⟩, ⟨(some 84), (some (83, false)), (.mov (.tmp 16))⟩, ⟨(some 85), (some (83, false)), (.mov (.tmp 15))⟩, ⟨(some 86), (some (83, false)), (.cmpb .gtr (.tmp 84) (.tmp 85))⟩, ⟨(some 87), (some (83, false)), (.mov (.tmp 86))⟩, ⟨(some 88), (some (87, true)), (.mov (.tmp 18))⟩, ⟨(some 89), (some (87, true)), (.cmpb .neq (.tmp 88) (.const (.int .i64 0)))⟩, ⟨(some 90), (some (87, true)), (.mov (.tmp 89))⟩, ⟨(some 91), (some (90, false)), (.mov (.tmp 17))⟩, ⟨(some 92), (some (90, false)), (.mov (.tmp 13))⟩, ⟨(some 93), (some (90, false)), (.cmpb .neq (.tmp 91) (.tmp 92))⟩, ⟨(some 94), (some (87, true)), (.pur ⟨(some 94), (.pick (.tmp 90) (.const (.bool true)) (.tmp 93)), 4, "", (List.toArray []), none⟩)⟩, ⟨(some 95), (some (83, false)), (.pur ⟨(some 95), (.pick (.tmp 87) (.tmp 94) (.const (.bool false))), 4, "", (List.toArray []), none⟩)⟩, ⟨(some 96), none, (.pur ⟨(some 96), (.pick (.tmp 83) (.const (.bool true)) (.tmp 95)), 4, "", (List.toArray []), none⟩)⟩])
  (.cond (.tmp 96) (.seq (.reg [⟨(some 12), none, (.mov (.const (.bool false)))⟩])
  .ret)
  .skip))
  (.seq (.reg [⟨(some 98), none, (.mov (.tmp 1))⟩, ⟨(some 99), none, (.mov (.tmp 0))⟩, ⟨(some 100), none, (.mov (.tmp 5))⟩, ⟨(some 101), none, (.pur ⟨(some 101), (.convert 72 3 (.tmp 100)), 3, "", (List.toArray []), none⟩)⟩, ⟨(some 102), none, (.ari .add (.tmp 99) (.tmp 101))⟩, ⟨(some 103), none, (.mm true (.tmp 98) (.tmp 102))⟩, ⟨(some 104), none, (.mov (.tmp 1))⟩, ⟨(some 105), none, (.mov (.tmp 2))⟩, ⟨(some 106), none, (.mov (.tmp 5))⟩, ⟨(some 107), none, (.pur ⟨(some 107), (.convert 72 3 (.tmp 106)), 3, "", (List.toArray []), none⟩)⟩, ⟨(some 108), none, (.ari .add (.tmp 105) (.tmp 107))⟩, ⟨(some 109), none, (.mm true (.const (.int .i64 1099511627776)) (.tmp 108))⟩, ⟨(some 110), none, (.mov (.tmp 3))⟩, ⟨(some 111), none, (.call ⟨(.value (.func 29)), (List.toArray [(.tmp 103), (.tmp 104), (.tmp 109), (.tmp 110)]), (List.toArray [3, 3, 3, 36])⟩ true)⟩, ⟨(some 97), none, (.mov (.tmp 111))⟩, ⟨(some 112), none, (.pur ⟨(some 112), (.extract (.tmp 97) 0), 3, "", (List.toArray []), none⟩)⟩, ⟨(some 113), none, (.pur ⟨(some 113), (.extract (.tmp 97) 1), 28, "", (List.toArray []), none⟩)⟩, ⟨(some 19), none, (.mov (.tmp 112))⟩, ⟨(some 20), none, (.mov (.tmp 113))⟩])
  (.seq (.seq (.reg [⟨(some 114), none, (.mov (.tmp 20))⟩, ⟨(some 115), none, (.cmpb .neq (.tmp 114) (.const (.int .i64 4)))⟩, ⟨(some 116), none, (.mov (.tmp 115))⟩, ⟨(some 117), (some (116, true)), (.mov (.tmp 20))⟩, ⟨(some 118), (some (116, true)), (.cmpb .neq (.tmp 117) (.const (.int .i64 0)))⟩, ⟨(some 119), (some (116, true)), (.mov (.tmp 118))⟩, ⟨(some 120), (some (119, false)), (.mov (.tmp 14))⟩, ⟨(some 121), (some (119, false)), (.cmpb .neq (.tmp 120) (.const (.int .i64 0)))⟩, ⟨(some 122), (some (116, true)), (.pur ⟨(some 122), (.pick (.tmp 119) (.const (.bool true)) (.tmp 121)), 4, "", (List.toArray []), none⟩)⟩, ⟨(some 123), (some (116, true)), (.mov (.tmp 122))⟩, ⟨(some 124), (some (123, false)), (.mov (.tmp 19))⟩, ⟨(some 125), (some (123, false)), (.mov (.tmp 13))⟩, ⟨(some 126), (some (123, false)), (.cmpb .lss (.tmp 124) (.tmp 125))⟩, ⟨(some 127), (some (116, true)), (.pur ⟨(some 127), (.pick (.tmp 123) (.const (.bool true)) (.tmp 126)), 4, "", (List.toArray []), none⟩)⟩, ⟨(some 128), none, (.pur ⟨(some 128), (.pick (.tmp 116) (.tmp 127) (.const (.bool false))), 4, "", (List.toArray []), none⟩)⟩])
  (.cond (.tmp 128) (.seq (.reg [⟨(some 12), none, (.mov (.const (.bool false)))⟩])
  .ret)
  .skip))
  (.seq (.reg [⟨(some 129), none, (.mov (.tmp 0))⟩, ⟨(some 21), none, (.mov (.tmp 129))⟩])
  (.seq (.seq (.reg [⟨(some 130), none, (.mov (.tmp 3))⟩, ⟨(some 131), none, (.mov (.tmp 15))⟩, ⟨(some 132), none, (.mem ⟨(some 132), (.slice 36 (.tmp 130) none (some (.tmp 131)) none), 36, "", (List.toArray []), none⟩)⟩, ⟨(some 133), none, (.len (.tmp 132))⟩, ⟨(some 134), none, (.mov (.const (.int .i64 0)))⟩])
  (.block 0 (.other (at_ Tryz.f13 [1, 1, 1, 1, 1, 1, 1, 1, 1, 1, 1, 1, 0, 1, 0]))))
  (.seq (.reg [⟨(some 149), none, (.mov (.tmp 14))⟩, ⟨(some 150), none, (.cmpb .neq (.tmp 149) (.const (.int .i64 0)))⟩, ⟨(some 151), none, (.mov (.tmp 150))⟩, ⟨(some 152), (some (151, false)), (.mov (.tmp 21))⟩, ⟨(some 153), (some (151, false)), (.mov (.tmp 3))⟩, ⟨(some 154), (some (151, false)), (.mov (.tmp 13))⟩, ⟨(some 155), (some (151, false)), (.idx (.tmp 153) (.tmp 154) 1)⟩, ⟨(some 156), (some (151, false)), (.ld (.tmp 155) 1)⟩, ⟨(some 157), (some (151, false)), (.cmpb .lss (.tmp 152) (.tmp 156))⟩, ⟨(some 158), none, (.pur ⟨(some 158), (.pick (.tmp 151) (.const (.bool true)) (.tmp 157)), 4, "", (List.toArray []), none⟩)⟩, ⟨(some 159), none, (.mov (.tmp 158))⟩, ⟨(some 160), (some (159, true)), (.call ⟨(.value (.func 16)), (List.toArray []), (List.toArray [])⟩ true)⟩, ⟨(some 161), none, (.pur ⟨(some 161), (.pick (.tmp 159) (.tmp 160) (.const (.bool false))), 4, "", (List.toArray []), none⟩)⟩, ⟨(some 12), none, (.mov (.tmp 161))⟩])
  .ret))))))))))))))
theorem L13 : low Tryz.prog Tryz.f13.ntmps (at_ Tryz.f13 []) = some R13 := by kernel_rfl
theorem E13_1 : at_ Tryz.f13 [1, 1, 1, 1, 1, 1, 1, 1, 1, 1, 1, 1, 0, 1, 0] = .loop (at_ Tryz.f13 [1, 1, 1, 1, 1, 1, 1, 1, 1, 1, 1, 1, 0, 1, 0, 0]) := by kernel_rfl
noncomputable def R13x1 : RC := (.seq (.reg [⟨(some 135), none, (.cmp .lss (.tmp 134) (.tmp 133))⟩])
  (.seq (.cond (.tmp 135) .skip
  (.exit 0))
  (.seq (.block 1 (.seq (.reg [⟨(some 136), none, (.idx (.tmp 132) (.tmp 134) 1)⟩, ⟨(some 137), none, (.ld (.tmp 136) 1)⟩, ⟨(some 23), none, (.mov (.tmp 137))⟩])
  (.seq (.seq (.reg [⟨(some 138), none, (.mov (.tmp 21))⟩, ⟨(some 139), none, (.mov (.tmp 23))⟩, ⟨(some 140), none, (.cmp .lss (.tmp 138) (.tmp 139))⟩])
  (.cond (.tmp 140) (.seq (.reg [⟨(some 12), none, (.mov (.const (.bool false)))⟩])
  .ret)
  .skip))
  (.reg [⟨(some 141), none, (.mov (.tmp 1))⟩, ⟨(some 142), none, (.mov (.tmp 21))⟩, ⟨(some 143), none, (.mov (.tmp 23))⟩, ⟨(some 144), none, (.ari .sub (.tmp 142) (.tmp 143))⟩, ⟨(some 145), none, (.mov (.tmp 2))⟩, ⟨(some 146), none, (.ari .add (.tmp 144) (.tmp 145))⟩, ⟨(some 147), none, (.mm true (.tmp 141) (.tmp 146))⟩, ⟨(some 21), none, (.mov (.tmp 147))⟩]))))
  (.reg [⟨(some 148), none, (.ari .add (.tmp 134) (.const (.int .i64 1)))⟩, ⟨(some 134), none, (.mov (.tmp 148))⟩]))))
theorem L13x1 : low Tryz.prog Tryz.f13.ntmps (at_ Tryz.f13 [1, 1, 1, 1, 1, 1, 1, 1, 1, 1, 1, 1, 0, 1, 0, 0]) = some R13x1 := by kernel_rfl
theorem N29 : Tryz.f29.ntmps = 55 := by kernel_rfl
theorem Z29 : Tryz.f29.results.toList = ((List.toArray [(.tmp 8), (.tmp 9)]) : Array ResultVar).toList := by kernel_rfl
theorem B29 : Tryz.f29.body = some (at_ Tryz.f29 []) := by kernel_rfl
noncomputable def R29 : RC := (.seq (.reg [⟨(some 8), none, (.mov (.const (.int .i64 0)))⟩, ⟨(some 9), none, (.mov (.const (.int .i64 0)))⟩])
  (.seq (.seq (.reg [⟨(some 13), none, (.mov (.tmp 3))⟩, ⟨(some 14), none, (.len (.tmp 13))⟩, ⟨(some 15), none, (.cmp .gtr (.tmp 14) (.const (.int .i64 64)))⟩])
  (.cond (.tmp 15) (.seq (.reg [⟨(some 8), none, (.mov (.const (.int .i64 0)))⟩, ⟨(some 9), none, (.mov (.const (.int .i64 3)))⟩])
  .ret)
  .skip))
  (.seq (.seq (.reg [⟨(some 16), none, (.mov (.tmp 0))⟩, ⟨(some 17), none, (.mov (.tmp 1))⟩, ⟨(some 18), none, (.call ⟨(.value (.func 42)), (List.toArray [(.tmp 16), (.const (.int .i64 0)), (.tmp 17)]), (List.toArray [3, 3, 3])⟩ true)⟩, ⟨(some 19), none, (.pur ⟨(some 19), (.unOp .not 4 (.tmp 18)), 4, "", (List.toArray []), none⟩)⟩, ⟨(some 20), none, (.mov (.tmp 19))⟩, ⟨(some 21), (some (20, false)), (.mov (.tmp 1))⟩, ⟨(some 22), (some (20, false)), (.call ⟨(.value (.func 43)), (List.toArray [(.tmp 21)]), (List.toArray [3])⟩ true)⟩, ⟨(some 23), (some (20, false)), (.pur ⟨(some 23), (.unOp .not 4 (.tmp 22)), 4, "", (List.toArray []), none⟩)⟩, ⟨(some 24), none, (.pur ⟨(some 24), (.pick (.tmp 20) (.const (.bool true)) (.tmp 23)), 4, "", (List.toArray []), none⟩)⟩, ⟨(some 25), none, (.mov (.tmp 24))⟩, ⟨(some 26), (some (25, false)), (.mov (.tmp 2))⟩, ⟨(some 27), (some (25, false)), (.call ⟨(.value (.func 43)), (List.toArray [(.tmp 26)]), (List.toArray [3])⟩ true)⟩, ⟨(some 28), (some (25, false)), (.pur ⟨(some 28), (.unOp .not 4 (.tmp 27)), 4, "", (List.toArray []), none⟩)⟩, ⟨(some 29), none, (.pur ⟨(some 29), (.pick (.tmp 25) (.const (.bool true)) (.tmp 28)), 4, "", (List.toArray []), none⟩)⟩, ⟨(some 30), none, (.mov (.tmp 29))⟩, ⟨(some 31), (some (30, false)), (.mov (.tmp 3))⟩, ⟨(some 32), (some (30, false)), (.call ⟨(.value (.func 61)), (List.toArray [(.tmp 31), (.const (.int .i64 0)), (.const (.int .i64 1099511627776))]), (List.toArray [36, 3, 3])⟩ true)⟩, ⟨(some 33), (some (30, false)), (.pur ⟨(some 33), (.unOp .not 4 (.tmp 32)), 4, "", (List.toArray []), none⟩)⟩, ⟨(some 34), none, (.pur ⟨(some 34), (.pick (.tmp 30) (.const (.bool true)) (.tmp 33)), 4, "", (List.toArray []), none⟩)⟩])
  (.cond (.tmp 34) (.seq (.reg [⟨(some 8), none, (.mov (.const (.int .i64 0)))⟩, ⟨(some 9), none, (.mov (.const (.int .i64 2)))⟩])
  .ret)
  .skip))
  (.seq (.reg [⟨(some 35), none, (.mov (.tmp 0))⟩, ⟨(some 10), none, (.mov (.tmp 35))⟩])
  (.seq (.seq (.reg [⟨(some 36), none, (.mov (.tmp 3))⟩, ⟨(some 37), none, (.len (.tmp 36))⟩, ⟨(some 38), none, (.mov (.const (.int .i64 0)))⟩])
  (.block 0 (.other (at_ Tryz.f29 [1, 1, 1, 1, 0, 1, 0]))))
  (.seq (.reg [⟨(some 8), none, (.mov (.const (.int .i64 0)))⟩, ⟨(some 9), none, (.mov (.const (.int .i64 4)))⟩])
  .ret))))))
theorem L29 : low Tryz.prog Tryz.f29.ntmps (at_ Tryz.f29 []) = some R29 := by kernel_rfl
theorem E29_1 : at_ Tryz.f29 [1, 1, 1, 1, 0, 1, 0] = .loop (at_ Tryz.f29 [1, 1, 1, 1, 0, 1, 0, 0]) := by kernel_rfl
noncomputable def R29x1 : RC := (.seq (.reg [⟨(some 39), none, (.cmp .lss (.tmp 38) (.tmp 37))⟩])
  (.seq (.cond (.tmp 39) .skip
  (.exit 0))
  (.seq (.block 1 (.seq (.reg [⟨(some 40), none, (.mov (.tmp 38))⟩, ⟨(some 41), none, (.idx (.tmp 36) (.tmp 38) 1)⟩, ⟨(some 42), none, (.ld (.tmp 41) 1)⟩, ⟨(some 11), none, (.mov (.tmp 40))⟩, ⟨(some 12), none, (.mov (.tmp 42))⟩])
  (.seq (.seq (.reg [⟨(some 43), none, (.mov (.tmp 12))⟩, ⟨(some 44), none, (.mov (.tmp 10))⟩, ⟨(some 45), none, (.cmp .gtr (.tmp 43) (.tmp 44))⟩])
  (.cond (.tmp 45) (.seq (.reg [⟨(some 46), none, (.mov (.tmp 11))⟩, ⟨(some 8), none, (.mov (.tmp 46))⟩, ⟨(some 9), none, (.mov (.const (.int .i64 0)))⟩])
  .ret)
  .skip))
  (.reg [⟨(some 47), none, (.mov (.tmp 1))⟩, ⟨(some 48), none, (.mov (.tmp 10))⟩, ⟨(some 49), none, (.mov (.tmp 12))⟩, ⟨(some 50), none, (.ari .sub (.tmp 48) (.tmp 49))⟩, ⟨(some 51), none, (.mov (.tmp 2))⟩, ⟨(some 52), none, (.ari .add (.tmp 50) (.tmp 51))⟩, ⟨(some 53), none, (.mm true (.tmp 47) (.tmp 52))⟩, ⟨(some 10), none, (.mov (.tmp 53))⟩]))))
  (.reg [⟨(some 54), none, (.ari .add (.tmp 38) (.const (.int .i64 1)))⟩, ⟨(some 38), none, (.mov (.tmp 54))⟩]))))
theorem L29x1 : low Tryz.prog Tryz.f29.ntmps (at_ Tryz.f29 [1, 1, 1, 1, 0, 1, 0, 0]) = some R29x1 := by kernel_rfl
theorem N42 : Tryz.f42.ntmps = 15 := by kernel_rfl
theorem Z42 : Tryz.f42.results.toList = ((List.toArray [(.tmp 6)]) : Array ResultVar).toList := by kernel_rfl
theorem B42 : Tryz.f42.body = some (at_ Tryz.f42 []) := by kernel_rfl
noncomputable def R42 : RC := (.seq (.reg [⟨(some 6), none, (.mov (.const (.bool false)))⟩])
  (.seq (.reg [⟨(some 7), none, (.mov (.tmp 1))⟩, ⟨(some 8), none, (.mov (.tmp 0))⟩, ⟨(some 9), none, (.cmpb .leq (.tmp 7) (.tmp 8))⟩, ⟨(some 10), none, (.mov (.tmp 9))⟩, ⟨(some 11), (some (10, true)), (.mov (.tmp 0))⟩, ⟨(some 12), (some (10, true)), (.mov (.tmp 2))⟩, ⟨(some 13), (some (10, true)), (.cmpb .leq (.tmp 11) (.tmp 12))⟩, ⟨(some 14), none, (.pur ⟨(some 14), (.pick (.tmp 10) (.tmp 13) (.const (.bool false))), 4, "", (List.toArray []), none⟩)⟩, ⟨(some 6), none, (.mov (.tmp 14))⟩])
  .ret))
theorem L42 : low Tryz.prog Tryz.f42.ntmps (at_ Tryz.f42 []) = some R42 := by kernel_rfl
theorem N43 : Tryz.f43.ntmps = 5 := by kernel_rfl
theorem Z43 : Tryz.f43.results.toList = ((List.toArray [(.tmp 2)]) : Array ResultVar).toList := by kernel_rfl
theorem B43 : Tryz.f43.body = some (at_ Tryz.f43 []) := by kernel_rfl
noncomputable def R43 : RC := (.seq (.reg [⟨(some 2), none, (.mov (.const (.bool false)))⟩])
  (.seq (.reg [⟨(some 3), none, (.mov (.tmp 0))⟩, ⟨(some 4), none, (.call ⟨(.value (.func 42)), (List.toArray [(.tmp 3), (.const (.int .i64 0)), (.const (.int .i64 1099511627776))]), (List.toArray [3, 3, 3])⟩ true)⟩, ⟨(some 2), none, (.mov (.tmp 4))⟩])
  .ret))
theorem L43 : low Tryz.prog Tryz.f43.ntmps (at_ Tryz.f43 []) = some R43 := by kernel_rfl
theorem N61 : Tryz.f61.ntmps = 11 := by kernel_rfl
theorem Z61 : Tryz.f61.results.toList = ((List.toArray [(.tmp 6)]) : Array ResultVar).toList := by kernel_rfl
theorem B61 : Tryz.f61.body = some (at_ Tryz.f61 []) := by kernel_rfl
noncomputable def R61 : RC := (.seq (.reg [⟨(some 4), none, (.box 3 (.tmp 1))⟩, ⟨(some 5), none, (.box 3 (.tmp 2))⟩, ⟨(some 6), none, (.mov (.const (.bool false)))⟩])
  (.seq (.reg [⟨(some 7), none, (.mov (.tmp 0))⟩, ⟨(some 8), none, (.pur ⟨(some 8), (.makeFunc (.func 88) (List.toArray []) (List.toArray [(.tmp 4), (.tmp 5)])), 84, "", (List.toArray []), none⟩)⟩, ⟨(some 9), none, (.call ⟨(.value (.func 87)), (List.toArray [(.tmp 7), (.tmp 8)]), (List.toArray [36, 84])⟩ true)⟩, ⟨(some 10), none, (.pur ⟨(some 10), (.unOp .not 4 (.tmp 9)), 4, "", (List.toArray []), none⟩)⟩, ⟨(some 6), none, (.mov (.tmp 10))⟩])
  .ret))
theorem L61 : low Tryz.prog Tryz.f61.ntmps (at_ Tryz.f61 []) = some R61 := by kernel_rfl
theorem N87 : Tryz.f87.ntmps = 9 := by kernel_rfl
theorem Z87 : Tryz.f87.results.toList = ((List.toArray [(.tmp 4)]) : Array ResultVar).toList := by kernel_rfl
theorem B87 : Tryz.f87.body = some (at_ Tryz.f87 []) := by kernel_rfl
noncomputable def R87 : RC := (.seq (.reg [⟨(some 4), none, (.mov (.const (.bool false)))⟩])
  (.seq (.reg [⟨(some 5), none, (.mov (.tmp 0))⟩, ⟨(some 6), none, (.mov (.tmp 1))⟩, ⟨(some 7), none, (.call ⟨(.value (.func 109)), (List.toArray [(.tmp 5), (.tmp 6)]), (List.toArray [36, 84])⟩ true)⟩, ⟨(some 8), none, (.cmp .geq (.tmp 7) (.const (.int .i64 0)))⟩, ⟨(some 4), none, (.mov (.tmp 8))⟩])
  .ret))
theorem L87 : low Tryz.prog Tryz.f87.ntmps (at_ Tryz.f87 []) = some R87 := by kernel_rfl
theorem N88 : Tryz.f88.ntmps = 10 := by kernel_rfl
theorem Z88 : Tryz.f88.results.toList = ((List.toArray [(.tmp 4)]) : Array ResultVar).toList := by kernel_rfl
theorem B88 : Tryz.f88.body = some (at_ Tryz.f88 []) := by kernel_rfl
noncomputable def R88 : RC := (.seq (.reg [⟨(some 4), none, (.mov (.const (.bool false)))⟩])
  (.seq (.reg [⟨(some 5), none, (.mov (.tmp 0))⟩, ⟨(some 6), none, (.ld (.tmp 1) 1)⟩, ⟨(some 7), none, (.ld (.tmp 2) 1)⟩, ⟨(some 8), none, (.call ⟨(.value (.func 42)), (List.toArray [(.tmp 5), (.tmp 6), (.tmp 7)]), (List.toArray [3, 3, 3])⟩ true)⟩, ⟨(some 9), none, (.pur ⟨(some 9), (.unOp .not 4 (.tmp 8)), 4, "", (List.toArray []), none⟩)⟩, ⟨(some 4), none, (.mov (.tmp 9))⟩])
  .ret))
theorem L88 : low Tryz.prog Tryz.f88.ntmps (at_ Tryz.f88 []) = some R88 := by kernel_rfl
theorem N109 : Tryz.f109.ntmps = 19 := by kernel_rfl
theorem Z109 : Tryz.f109.results.toList = ((List.toArray [(.tmp 4)]) : Array ResultVar).toList := by kernel_rfl
theorem B109 : Tryz.f109.body = some (at_ Tryz.f109 []) := by kernel_rfl
noncomputable def R109 : RC := (.seq (.reg [⟨(some 4), none, (.mov (.const (.int .i64 0)))⟩])
  (.seq (.seq (.reg [⟨(some 6), none, (.mov (.tmp 0))⟩, ⟨(some 7), none, (.len (.tmp 6))⟩, ⟨(some 8), none, (.mov (.const (.int .i64 0)))⟩])
  (.block 0 (.other (at_ Tryz.f109 [1, 0, 1, 0]))))
  (.seq (.reg [⟨(some 4), none, (.mov (.const (.int .i64 (-1))))⟩])
  .ret)))
theorem L109 : low Tryz.prog Tryz.f109.ntmps (at_ Tryz.f109 []) = some R109 := by kernel_rfl
theorem E109_1 : at_ Tryz.f109 [1, 0, 1, 0] = .loop (at_ Tryz.f109 [1, 0, 1, 0, 0]) := by kernel_rfl
noncomputable def R109x1 : RC := (.seq (.reg [⟨(some 9), none, (.cmp .lss (.tmp 8) (.tmp 7))⟩])
  (.seq (.cond (.tmp 9) .skip
  (.exit 0))
  (.seq (.block 1 (.seq (.reg [⟨(some 10), none, (.mov (.tmp 8))⟩, ⟨(some 5), none, (.mov (.tmp 10))⟩])
  (.seq (.reg [⟨(some 11), none, (.mov (.tmp 1))⟩, ⟨(some 12), none, (.mov (.tmp 0))⟩, ⟨(some 13), none, (.mov (.tmp 5))⟩, ⟨(some 14), none, (.idx (.tmp 12) (.tmp 13) 1)⟩, ⟨(some 15), none, (.ld (.tmp 14) 1)⟩, ⟨(some 16), none, (.call ⟨(.value (.tmp 11)), (List.toArray [(.tmp 15)]), (List.toArray [3])⟩ true)⟩])
  (.cond (.tmp 16) (.seq (.reg [⟨(some 17), none, (.mov (.tmp 5))⟩, ⟨(some 4), none, (.mov (.tmp 17))⟩])
  .ret)
  .skip))))
  (.reg [⟨(some 18), none, (.ari .add (.tmp 8) (.const (.int .i64 1)))⟩, ⟨(some 8), none, (.mov (.tmp 18))⟩]))))
theorem L109x1 : low Tryz.prog Tryz.f109.ntmps (at_ Tryz.f109 [1, 0, 1, 0, 0]) = some R109x1 := by kernel_rfl
end Go.Ax
/-! What 'low' makes of the functions (written by program). -/
namespace Go.Ax
open Go Go.RowKit Go.Proofs
theorem N5 : Tryz.f5.ntmps = 82 := by kernel_rfl
theorem Z5 : Tryz.f5.results.toList = ((List.toArray [(.tmp 16)]) : Array ResultVar).toList := by kernel_rfl
theorem B5 : Tryz.f5.body = some (at_ Tryz.f5 []) := by kernel_rfl
noncomputable def R5 : RC := (.seq (.reg [⟨(some 9), none, (.box 48 (.tmp 1))⟩, ⟨(some 16), none, (.mov (.const (.bool false)))⟩])
  (.seq (.seq (.reg [⟨(some 25), none, (.mov (.tmp 7))⟩, ⟨(some 26), none, (.len (.tmp 25))⟩, ⟨(some 27), none, (.cmp .gtr (.tmp 26) (.const (.int .i64 80)))⟩])
  (.cond (.tmp 27) (.seq (.reg [⟨(some 28), none, (.call ⟨(.value (.func 16)), (List.toArray []), (List.toArray [])⟩ true)⟩, ⟨(some 16), none, (.mov (.tmp 28))⟩])
  .ret)
  .skip))
  (.seq (.reg [⟨(some 30), none, (.mov (.tmp 0))⟩, ⟨(some 31), none, (.lda (.tmp 9) 2)⟩, ⟨(some 32), none, (.mov (.tmp 2))⟩, ⟨(some 33), none, (.mov (.tmp 3))⟩, ⟨(some 34), none, (.call ⟨(.value (.func 27)), (List.toArray [(.tmp 30), (.tmp 31), (.tmp 32), (.tmp 33)]), (List.toArray [3, 48, 3, 3])⟩ true)⟩, ⟨(some 29), none, (.mov (.tmp 34))⟩, ⟨(some 35), none, (.pur ⟨(some 35), (.extract (.tmp 29) 0), 3, "", (List.toArray []), none⟩)⟩, ⟨(some 36), none, (.pur ⟨(some 36), (.extract (.tmp 29) 1), 28, "", (List.toArray []), none⟩)⟩, ⟨(some 17), none, (.mov (.tmp 35))⟩, ⟨(some 18), none, (.mov (.tmp 36))⟩])
  (.seq (.reg [⟨(some 38), none, (.mov (.tmp 0))⟩, ⟨(some 39), none, (.lda (.tmp 9) 2)⟩, ⟨(some 40), none, (.mov (.tmp 2))⟩, ⟨(some 41), none, (.mov (.tmp 3))⟩, ⟨(some 42), none, (.call ⟨(.value (.func 28)), (List.toArray [(.tmp 38), (.tmp 39), (.tmp 40), (.tmp 41)]), (List.toArray [3, 48, 3, 3])⟩ true)⟩, ⟨(some 37), none, (.mov (.tmp 42))⟩, ⟨(some 43), none, (.pur ⟨(some 43), (.extract (.tmp 37) 0), 3, "", (List.toArray []), none⟩)⟩, ⟨(some 44), none, (.pur ⟨(some 44), (.extract (.tmp 37) 1), 28, "", (List.toArray []), none⟩)⟩, ⟨(some 19), none, (.mov (.tmp 43))⟩, ⟨(some 20), none, (.mov (.tmp 44))⟩])
  (.seq (.reg [⟨(some 46), none, (.mov (.tmp 4))⟩, ⟨(some 47), none, (.mov (.tmp 5))⟩, ⟨(some 48), none, (.mov (.tmp 6))⟩, ⟨(some 49), none, (.mov (.tmp 7))⟩, ⟨(some 50), none, (.call ⟨(.value (.func 29)), (List.toArray [(.tmp 46), (.tmp 47), (.tmp 48), (.tmp 49)]), (List.toArray [3, 3, 3, 36])⟩ true)⟩, ⟨(some 45), none, (.mov (.tmp 50))⟩, ⟨(some 51), none, (.pur ⟨(some 51), (.extract (.tmp 45) 0), 3, "", (List.toArray []), none⟩)⟩, ⟨(some 52), none, (.pur ⟨(some 52), (.extract (.tmp 45) 1), 28, "", (List.toArray []), none⟩)⟩, ⟨(some 21), none, (.mov (.tmp 51))⟩, ⟨(some 22), none, (.mov (.tmp 52))⟩])
  (.seq (.reg [⟨(some 54), none, (.mov (.tmp 4))⟩, ⟨(some 55), none, (.mov (.tmp 5))⟩, ⟨(some 56), none, (.mov (.tmp 6))⟩, ⟨(some 57), none, (.mov (.tmp 7))⟩, ⟨(some 58), none, (.call ⟨(.value (.func 30)), (List.toArray [(.tmp 54), (.tmp 55), (.tmp 56), (.tmp 57)]), (List.toArray [3, 3, 3, 36])⟩ true)⟩, ⟨(some 53), none, (.mov (.tmp 58))⟩, ⟨(some 59), none, (.pur ⟨(some 59), (.extract (.tmp 53) 0), 3, "", (List.toArray []), none⟩)⟩, ⟨(some 60), none, (.pur ⟨(some 60), (.extract (.tmp 53) 1), 28, "", (List.toArray []), none⟩)⟩, ⟨(some 23), none, (.mov (.tmp 59))⟩, ⟨(some 24), none, (.mov (.tmp 60))⟩])
  (.seq (.reg [⟨(some 61), none, (.mov (.tmp 17))⟩, ⟨(some 62), none, (.mov (.tmp 19))⟩, ⟨(some 63), none, (.cmpb .eql (.tmp 61) (.tmp 62))⟩, ⟨(some 64), none, (.mov (.tmp 63))⟩, ⟨(some 65), (some (64, true)), (.mov (.tmp 18))⟩, ⟨(some 66), (some (64, true)), (.mov (.tmp 20))⟩, ⟨(some 67), (some (64, true)), (.cmpb .eql (.tmp 65) (.tmp 66))⟩, ⟨(some 68), none, (.pur ⟨(some 68), (.pick (.tmp 64) (.tmp 67) (.const (.bool false))), 4, "", (List.toArray []), none⟩)⟩, ⟨(some 69), none, (.mov (.tmp 68))⟩, ⟨(some 70), (some (69, true)), (.mov (.tmp 21))⟩, ⟨(some 71), (some (69, true)), (.mov (.tmp 23))⟩, ⟨(some 72), (some (69, true)), (.cmpb .eql (.tmp 70) (.tmp 71))⟩, ⟨(some 73), none, (.pur ⟨(some 73), (.pick (.tmp 69) (.tmp 72) (.const (.bool false))), 4, "", (List.toArray []), none⟩)⟩, ⟨(some 74), none, (.mov (.tmp 73))⟩, ⟨(some 75), (some (74, true)), (.mov (.tmp 22))⟩, ⟨(some 76), (some (74, true)), (.mov (.tmp 24))⟩, ⟨(some 77), (some (74, true)), (.cmpb .eql (.tmp 75) (.tmp 76))⟩, ⟨(some 78), none, (.pur ⟨(some 78), (.pick (.tmp 74) (.tmp 77) (.const (.bool false))), 4, "", (List.toArray []), none⟩)⟩, ⟨(some 79), none, (.mov (.tmp 78))⟩, ⟨(some 80), (some (79, true)), (.call ⟨(.value (.func 16)), (List.toArray []), (List.toArray [])⟩ true)⟩, ⟨(some 81), none, (.pur ⟨(some 81), (.pick (.tmp 79) (.tmp 80) (.const (.bool false))), 4, "", (List.toArray []), none⟩)⟩, ⟨(some 16), none, (.mov (.tmp 81))⟩])
  .ret)))))))
theorem L5 : low Tryz.prog Tryz.f5.ntmps (at_ Tryz.f5 []) = some R5 := by kernel_rfl
theorem N27 : Tryz.f27.ntmps = 38 := by kernel_rfl
theorem Z27 : Tryz.f27.results.toList = ((List.toArray [(.tmp 8), (.tmp 9)]) : Array ResultVar).toList := by kernel_rfl
theorem B27 : Tryz.f27.body = some (at_ Tryz.f27 []) := by kernel_rfl
noncomputable def R27 : RC := (.seq (.reg [⟨(some 5), none, (.box 48 (.tmp 1))⟩, ⟨(some 8), none, (.mov (.const (.int .i64 0)))⟩, ⟨(some 9), none, (.mov (.const (.int .i64 0)))⟩])
  (.seq (.reg [⟨(some 11), none, (.mov (.tmp 0))⟩, ⟨(some 12), none, (.call ⟨(.value (.func 58)), (List.toArray [(.tmp 11)]), (List.toArray [3])⟩ true)⟩, ⟨(some 13), none, (.mov (.tmp 12))⟩, ⟨(some 14), (some (13, true)), (.lda (.tmp 5) 2)⟩, ⟨(some 15), (some (13, true)), (.call ⟨(.value (.func 59)), (List.toArray [(.tmp 14), (.const (.int .i64 (-1000))), (.const (.int .i64 1000))]), (List.toArray [48, 3, 3])⟩ true)⟩, ⟨(some 16), none, (.pur ⟨(some 16), (.pick (.tmp 13) (.tmp 15) (.const (.bool false))), 4, "", (List.toArray []), none⟩)⟩, ⟨(some 10), none, (.mov (.tmp 16))⟩])
  (.seq (.seq (.reg [⟨(some 17), none, (.mov (.tmp 10))⟩, ⟨(some 18), none, (.pur ⟨(some 18), (.unOp .not 4 (.tmp 17)), 4, "", (List.toArray []), none⟩)⟩, ⟨(some 19), none, (.mov (.tmp 18))⟩, ⟨(some 20), (some (19, false)), (.mov (.tmp 2))⟩, ⟨(some 21), (some (19, false)), (.call ⟨(.value (.func 42)), (List.toArray [(.tmp 20), (.const (.int .i64 0)), (.const (.int .i64 1000))]), (List.toArray [3, 3, 3])⟩ true)⟩, ⟨(some 22), (some (19, false)), (.pur ⟨(some 22), (.unOp .not 4 (.tmp 21)), 4, "", (List.toArray []), none⟩)⟩, ⟨(some 23), none, (.pur ⟨(some 23), (.pick (.tmp 19) (.const (.bool true)) (.tmp 22)), 4, "", (List.toArray []), none⟩)⟩, ⟨(some 24), none, (.mov (.tmp 23))⟩, ⟨(some 25), (some (24, false)), (.mov (.tmp 3))⟩, ⟨(some 26), (some (24, false)), (.call ⟨(.value (.func 42)), (List.toArray [(.tmp 25), (.const (.int .i64 0)), (.const (.int .i64 96))]), (List.toArray [3, 3, 3])⟩ true)⟩, ⟨(some 27), (some (24, false)), (.pur ⟨(some 27), (.unOp .not 4 (.tmp 26)), 4, "", (List.toArray []), none⟩)⟩, ⟨(some 28), none, (.pur ⟨(some 28), (.pick (.tmp 24) (.const (.bool true)) (.tmp 27)), 4, "", (List.toArray []), none⟩)⟩])
  (.cond (.tmp 28) (.seq (.reg [⟨(some 8), none, (.mov (.const (.int .i64 0)))⟩, ⟨(some 9), none, (.mov (.const (.int .i64 2)))⟩])
  .ret)
  .skip))
  (.seq (.reg [⟨(some 29), none, (.mov (.tmp 0))⟩, ⟨(some 30), none, (.ari .add (.tmp 29) (.const (.int .i64 1)))⟩, ⟨(some 31), none, (.addo (.tmp 5) 1)⟩, ⟨(some 32), none, (.ld (.tmp 31) 1)⟩, ⟨(some 33), none, (.ari .add (.tmp 30) (.tmp 32))⟩, ⟨(some 34), none, (.mov (.tmp 3))⟩, ⟨(some 35), none, (.mov (.tmp 2))⟩, ⟨(some 36), none, (.ari .mul (.tmp 34) (.tmp 35))⟩, ⟨(some 37), none, (.ari .add (.tmp 33) (.tmp 36))⟩, ⟨(some 8), none, (.mov (.tmp 37))⟩, ⟨(some 9), none, (.mov (.const (.int .i64 0)))⟩])
  .ret))))
theorem L27 : low Tryz.prog Tryz.f27.ntmps (at_ Tryz.f27 []) = some R27 := by kernel_rfl
theorem N28 : Tryz.f28.ntmps = 37 := by kernel_rfl
theorem Z28 : Tryz.f28.results.toList = ((List.toArray [(.tmp 8), (.tmp 9)]) : Array ResultVar).toList := by kernel_rfl
theorem B28 : Tryz.f28.body = some (at_ Tryz.f28 []) := by kernel_rfl
noncomputable def R28 : RC := (.seq (.reg [⟨(some 5), none, (.box 48 (.tmp 1))⟩, ⟨(some 8), none, (.mov (.const (.int .i64 0)))⟩, ⟨(some 9), none, (.mov (.const (.int .i64 0)))⟩])
  (.seq (.seq (.reg [⟨(some 10), none, (.mov (.tmp 0))⟩, ⟨(some 11), none, (.call ⟨(.value (.func 45)), (List.toArray [(.tmp 10), (.const (.int .i64 (-5000))), (.const (.int .i64 5000))]), (List.toArray [3, 3, 3])⟩ true)⟩, ⟨(some 12), none, (.pur ⟨(some 12), (.unOp .not 4 (.tmp 11)), 4, "", (List.toArray []), none⟩)⟩, ⟨(some 13), none, (.mov (.tmp 12))⟩, ⟨(some 14), (some (13, false)), (.lda (.tmp 5) 2)⟩, ⟨(some 15), (some (13, false)), (.call ⟨(.value (.func 60)), (List.toArray [(.tmp 14), (.const (.int .i64 (-1000))), (.const (.int .i64 1000))]), (List.toArray [48, 3, 3])⟩ true)⟩, ⟨(some 16), (some (13, false)), (.pur ⟨(some 16), (.unOp .not 4 (.tmp 15)), 4, "", (List.toArray []), none⟩)⟩, ⟨(some 17), none, (.pur ⟨(some 17), (.pick (.tmp 13) (.const (.bool true)) (.tmp 16)), 4, "", (List.toArray []), none⟩)⟩, ⟨(some 18), none, (.mov (.tmp 17))⟩, ⟨(some 19), (some (18, false)), (.mov (.tmp 2))⟩, ⟨(some 20), (some (18, false)), (.call ⟨(.value (.func 45)), (List.toArray [(.tmp 19), (.const (.int .i64 0)), (.const (.int .i64 1000))]), (List.toArray [3, 3, 3])⟩ true)⟩, ⟨(some 21), (some (18, false)), (.pur ⟨(some 21), (.unOp .not 4 (.tmp 20)), 4, "", (List.toArray []), none⟩)⟩, ⟨(some 22), none, (.pur ⟨(some 22), (.pick (.tmp 18) (.const (.bool true)) (.tmp 21)), 4, "", (List.toArray []), none⟩)⟩, ⟨(some 23), none, (.mov (.tmp 22))⟩, ⟨(some 24), (some (23, false)), (.mov (.tmp 3))⟩, ⟨(some 25), (some (23, false)), (.call ⟨(.value (.func 45)), (List.toArray [(.tmp 24), (.const (.int .i64 0)), (.const (.int .i64 96))]), (List.toArray [3, 3, 3])⟩ true)⟩, ⟨(some 26), (some (23, false)), (.pur ⟨(some 26), (.unOp .not 4 (.tmp 25)), 4, "", (List.toArray []), none⟩)⟩, ⟨(some 27), none, (.pur ⟨(some 27), (.pick (.tmp 23) (.const (.bool true)) (.tmp 26)), 4, "", (List.toArray []), none⟩)⟩])
  (.cond (.tmp 27) (.seq (.reg [⟨(some 8), none, (.mov (.const (.int .i64 0)))⟩, ⟨(some 9), none, (.mov (.const (.int .i64 2)))⟩])
  .ret)
  .skip))
  (.seq (.reg [⟨(some 28), none, (.mov (.tmp 0))⟩, ⟨(some 29), none, (.ari .add (.tmp 28) (.const (.int .i64 1)))⟩, ⟨(some 30), none, (.addo (.tmp 5) 1)⟩, ⟨(some 31), none, (.ld (.tmp 30) 1)⟩, ⟨(some 32), none, (.ari .add (.tmp 29) (.tmp 31))⟩, ⟨(some 33), none, (.mov (.tmp 2))⟩, ⟨(some 34), none, (.mov (.tmp 3))⟩, ⟨(some 35), none, (.ari .mul (.tmp 33) (.tmp 34))⟩, ⟨(some 36), none, (.ari .add (.tmp 32) (.tmp 35))⟩, ⟨(some 8), none, (.mov (.tmp 36))⟩, ⟨(some 9), none, (.mov (.const (.int .i64 0)))⟩])
  .ret)))
theorem L28 : low Tryz.prog Tryz.f28.ntmps (at_ Tryz.f28 []) = some R28 := by kernel_rfl
theorem N30 : Tryz.f30.ntmps = 64 := by kernel_rfl
theorem Z30 : Tryz.f30.results.toList = ((List.toArray [(.tmp 8), (.tmp 9)]) : Array ResultVar).toList := by kernel_rfl
theorem B30 : Tryz.f30.body = some (at_ Tryz.f30 []) := by kernel_rfl
noncomputable def R30 : RC := (.seq (.reg [⟨(some 8), none, (.mov (.const (.int .i64 0)))⟩, ⟨(some 9), none, (.mov (.const (.int .i64 0)))⟩])
  (.seq (.seq (.reg [⟨(some 12), none, (.mov (.tmp 3))⟩, ⟨(some 13), none, (.len (.tmp 12))⟩, ⟨(some 14), none, (.cmp .gtr (.tmp 13) (.const (.int .i64 64)))⟩])
  (.cond (.tmp 14) (.seq (.reg [⟨(some 8), none, (.mov (.const (.int .i64 0)))⟩, ⟨(some 9), none, (.mov (.const (.int .i64 3)))⟩])
  .ret)
  .skip))
  (.seq (.seq (.reg [⟨(some 15), none, (.mov (.tmp 1))⟩, ⟨(some 16), none, (.call ⟨(.value (.func 45)), (List.toArray [(.tmp 15), (.const (.int .i64 0)), (.const (.int .i64 1099511627776))]), (List.toArray [3, 3, 3])⟩ true)⟩, ⟨(some 17), none, (.pur ⟨(some 17), (.unOp .not 4 (.tmp 16)), 4, "", (List.toArray []), none⟩)⟩, ⟨(some 18), none, (.mov (.tmp 17))⟩, ⟨(some 19), (some (18, false)), (.mov (.tmp 0))⟩, ⟨(some 20), (some (18, false)), (.mov (.tmp 1))⟩, ⟨(some 21), (some (18, false)), (.call ⟨(.value (.func 45)), (List.toArray [(.tmp 19), (.const (.int .i64 0)), (.tmp 20)]), (List.toArray [3, 3, 3])⟩ true)⟩, ⟨(some 22), (some (18, false)), (.pur ⟨(some 22), (.unOp .not 4 (.tmp 21)), 4, "", (List.toArray []), none⟩)⟩, ⟨(some 23), none, (.pur ⟨(some 23), (.pick (.tmp 18) (.const (.bool true)) (.tmp 22)), 4, "", (List.toArray []), none⟩)⟩, ⟨(some 24), none, (.mov (.tmp 23))⟩, ⟨(some 25), (some (24, false)), (.mov (.tmp 2))⟩, ⟨(some 26), (some (24, false)), (.call ⟨(.value (.func 45)), (List.toArray [(.tmp 25), (.const (.int .i64 0)), (.const (.int .i64 1099511627776))]), (List.toArray [3, 3, 3])⟩ true)⟩, ⟨(some 27), (some (24, false)), (.pur ⟨(some 27), (.unOp .not 4 (.tmp 26)), 4, "", (List.toArray []), none⟩)⟩, ⟨(some 28), none, (.pur ⟨(some 28), (.pick (.tmp 24) (.const (.bool true)) (.tmp 27)), 4, "", (List.toArray []), none⟩)⟩])
  (.cond (.tmp 28) (.seq (.reg [⟨(some 8), none, (.mov (.const (.int .i64 0)))⟩, ⟨(some 9), none, (.mov (.const (.int .i64 2)))⟩])
  .ret)
  .skip))
  (.seq (.seq (.reg [⟨(some 10), none, (.mov (.const (.int .i64 0)))⟩])
  (.block 0 (.other (at_ Tryz.f30 [1, 1, 1, 0, 1, 0]))))
  (.seq (.seq (.reg [⟨(some 11), none, (.mov (.const (.int .i64 0)))⟩])
  (.block 2 (.other (at_ Tryz.f30 [1, 1, 1, 1, 0, 1, 0]))))
  (.seq (.reg [⟨(some 8), none, (.mov (.const (.int .i64 0)))⟩, ⟨(some 9), none, (.mov (.const (.int .i64 4)))⟩])
  .ret))))))
theorem L30 : low Tryz.prog Tryz.f30.ntmps (at_ Tryz.f30 []) = some R30 := by kernel_rfl
theorem E30_1 : at_ Tryz.f30 [1, 1, 1, 0, 1, 0] = .loop (at_ Tryz.f30 [1, 1, 1, 0, 1, 0, 0]) := by kernel_rfl
noncomputable def R30x1 : RC := (.seq (.seq (.reg [⟨(some 29), none, (.mov (.tmp 10))⟩, ⟨(some 30), none, (.mov (.tmp 3))⟩, ⟨(some 31), none, (.len (.tmp 30))⟩, ⟨(some 32), none, (.cmp .lss (.tmp 29) (.tmp 31))⟩])
  (.cond (.tmp 32) .skip
  (.exit 0)))
  (.seq (.block 1 (.seq (.reg [⟨(some 35), none, (.mov (.tmp 3))⟩, ⟨(some 36), none, (.mov (.tmp 10))⟩, ⟨(some 37), none, (.idx (.tmp 35) (.tmp 36) 1)⟩, ⟨(some 38), none, (.ld (.tmp 37) 1)⟩, ⟨(some 39), none, (.call ⟨(.value (.func 45)), (List.toArray [(.tmp 38), (.const (.int .i64 0)), (.const (.int .i64 1099511627776))]), (List.toArray [3, 3, 3])⟩ true)⟩, ⟨(some 40), none, (.pur ⟨(some 40), (.unOp .not 4 (.tmp 39)), 4, "", (List.toArray []), none⟩)⟩])
  (.cond (.tmp 40) (.seq (.reg [⟨(some 8), none, (.mov (.const (.int .i64 0)))⟩, ⟨(some 9), none, (.mov (.const (.int .i64 2)))⟩])
  .ret)
  .skip)))
  (.reg [⟨(some 33), none, (.mov (.tmp 10))⟩, ⟨(some 34), none, (.ari .add (.tmp 33) (.const (.int .i64 1)))⟩, ⟨(some 10), none, (.mov (.tmp 34))⟩])))
theorem L30x1 : low Tryz.prog Tryz.f30.ntmps (at_ Tryz.f30 [1, 1, 1, 0, 1, 0, 0]) = some R30x1 := by kernel_rfl
theorem E30_2 : at_ Tryz.f30 [1, 1, 1, 1, 0, 1, 0] = .loop (at_ Tryz.f30 [1, 1, 1, 1, 0, 1, 0, 0]) := by kernel_rfl
noncomputable def R30x2 : RC := (.seq (.seq (.reg [⟨(some 41), none, (.mov (.tmp 11))⟩, ⟨(some 42), none, (.mov (.tmp 3))⟩, ⟨(some 43), none, (.len (.tmp 42))⟩, ⟨(some 44), none, (.cmp .lss (.tmp 41) (.tmp 43))⟩])
  (.cond (.tmp 44) .skip
  (.exit 2)))
  (.seq (.block 3 (.seq (.seq (.reg [⟨(some 47), none, (.mov (.tmp 0))⟩, ⟨(some 48), none, (.mov (.tmp 3))⟩, ⟨(some 49), none, (.mov (.tmp 11))⟩, ⟨(some 50), none, (.idx (.tmp 48) (.tmp 49) 1)⟩, ⟨(some 51), none, (.ld (.tmp 50) 1)⟩, ⟨(some 52), none, (.cmp .lss (.tmp 47) (.tmp 51))⟩])
  (.cond (.tmp 52) (.seq (.reg [⟨(some 53), none, (.mov (.tmp 11))⟩, ⟨(some 8), none, (.mov (.tmp 53))⟩, ⟨(some 9), none, (.mov (.const (.int .i64 0)))⟩])
  .ret)
  .skip))
  (.reg [⟨(some 54), none, (.mov (.tmp 1))⟩, ⟨(some 55), none, (.mov (.tmp 0))⟩, ⟨(some 56), none, (.mov (.tmp 3))⟩, ⟨(some 57), none, (.mov (.tmp 11))⟩, ⟨(some 58), none, (.idx (.tmp 56) (.tmp 57) 1)⟩, ⟨(some 59), none, (.ld (.tmp 58) 1)⟩, ⟨(some 60), none, (.ari .sub (.tmp 55) (.tmp 59))⟩, ⟨(some 61), none, (.mov (.tmp 2))⟩, ⟨(some 62), none, (.ari .add (.tmp 60) (.tmp 61))⟩, ⟨(some 63), none, (.mm true (.tmp 54) (.tmp 62))⟩, ⟨(some 0), none, (.mov (.tmp 63))⟩])))
  (.reg [⟨(some 45), none, (.mov (.tmp 11))⟩, ⟨(some 46), none, (.ari .add (.tmp 45) (.const (.int .i64 1)))⟩, ⟨(some 11), none, (.mov (.tmp 46))⟩])))
theorem L30x2 : low Tryz.prog Tryz.f30.ntmps (at_ Tryz.f30 [1, 1, 1, 1, 0, 1, 0, 0]) = some R30x2 := by kernel_rfl
theorem N45 : Tryz.f45.ntmps = 15 := by kernel_rfl
theorem Z45 : Tryz.f45.results.toList = ((List.toArray [(.tmp 6)]) : Array ResultVar).toList := by kernel_rfl
theorem B45 : Tryz.f45.body = some (at_ Tryz.f45 []) := by kernel_rfl
noncomputable def R45 : RC := (.seq (.reg [⟨(some 6), none, (.mov (.const (.bool false)))⟩])
  (.seq (.reg [⟨(some 7), none, (.mov (.tmp 1))⟩, ⟨(some 8), none, (.mov (.tmp 0))⟩, ⟨(some 9), none, (.cmpb .leq (.tmp 7) (.tmp 8))⟩, ⟨(some 10), none, (.mov (.tmp 9))⟩, ⟨(some 11), (some (10, true)), (.mov (.tmp 0))⟩, ⟨(some 12), (some (10, true)), (.mov (.tmp 2))⟩, ⟨(some 13), (some (10, true)), (.cmpb .leq (.tmp 11) (.tmp 12))⟩, ⟨(some 14), none, (.pur ⟨(some 14), (.pick (.tmp 10) (.tmp 13) (.const (.bool false))), 4, "", (List.toArray []), none⟩)⟩, ⟨(some 6), none, (.mov (.tmp 14))⟩])
  .ret))
theorem L45 : low Tryz.prog Tryz.f45.ntmps (at_ Tryz.f45 []) = some R45 := by kernel_rfl
theorem N58 : Tryz.f58.ntmps = 5 := by kernel_rfl
theorem Z58 : Tryz.f58.results.toList = ((List.toArray [(.tmp 2)]) : Array ResultVar).toList := by kernel_rfl
theorem B58 : Tryz.f58.body = some (at_ Tryz.f58 []) := by kernel_rfl
noncomputable def R58 : RC := (.seq (.reg [⟨(some 2), none, (.mov (.const (.bool false)))⟩])
  (.seq (.reg [⟨(some 3), none, (.mov (.tmp 0))⟩, ⟨(some 4), none, (.call ⟨(.value (.func 42)), (List.toArray [(.tmp 3), (.const (.int .i64 (-5000))), (.const (.int .i64 5000))]), (List.toArray [3, 3, 3])⟩ true)⟩, ⟨(some 2), none, (.mov (.tmp 4))⟩])
  .ret))
theorem L58 : low Tryz.prog Tryz.f58.ntmps (at_ Tryz.f58 []) = some R58 := by kernel_rfl
theorem N59 : Tryz.f59.ntmps = 24 := by kernel_rfl
theorem Z59 : Tryz.f59.results.toList = ((List.toArray [(.tmp 6)]) : Array ResultVar).toList := by kernel_rfl
theorem B59 : Tryz.f59.body = some (at_ Tryz.f59 []) := by kernel_rfl
noncomputable def R59 : RC := (.seq (.reg [⟨(some 3), none, (.box 48 (.tmp 0))⟩, ⟨(some 6), none, (.mov (.const (.bool false)))⟩])
  (.seq (.reg [⟨(some 7), none, (.mov (.tmp 1))⟩, ⟨(some 8), none, (.addo (.tmp 3) 0)⟩, ⟨(some 9), none, (.ld (.tmp 8) 1)⟩, ⟨(some 10), none, (.cmpb .leq (.tmp 7) (.tmp 9))⟩, ⟨(some 11), none, (.mov (.tmp 10))⟩, ⟨(some 12), (some (11, true)), (.addo (.tmp 3) 0)⟩, ⟨(some 13), (some (11, true)), (.ld (.tmp 12) 1)⟩, ⟨(some 14), (some (11, true)), (.addo (.tmp 3) 1)⟩, ⟨(some 15), (some (11, true)), (.ld (.tmp 14) 1)⟩, ⟨(some 16), (some (11, true)), (.cmpb .leq (.tmp 13) (.tmp 15))⟩, ⟨(some 17), none, (.pur ⟨(some 17), (.pick (.tmp 11) (.tmp 16) (.const (.bool false))), 4, "", (List.toArray []), none⟩)⟩, ⟨(some 18), none, (.mov (.tmp 17))⟩, ⟨(some 19), (some (18, true)), (.addo (.tmp 3) 1)⟩, ⟨(some 20), (some (18, true)), (.ld (.tmp 19) 1)⟩, ⟨(some 21), (some (18, true)), (.mov (.tmp 2))⟩, ⟨(some 22), (some (18, true)), (.cmpb .leq (.tmp 20) (.tmp 21))⟩, ⟨(some 23), none, (.pur ⟨(some 23), (.pick (.tmp 18) (.tmp 22) (.const (.bool false))), 4, "", (List.toArray []), none⟩)⟩, ⟨(some 6), none, (.mov (.tmp 23))⟩])
  .ret))
theorem L59 : low Tryz.prog Tryz.f59.ntmps (at_ Tryz.f59 []) = some R59 := by kernel_rfl
theorem N60 : Tryz.f60.ntmps = 24 := by kernel_rfl
theorem Z60 : Tryz.f60.results.toList = ((List.toArray [(.tmp 6)]) : Array ResultVar).toList := by kernel_rfl
theorem B60 : Tryz.f60.body = some (at_ Tryz.f60 []) := by kernel_rfl
noncomputable def R60 : RC := (.seq (.reg [⟨(some 3), none, (.box 48 (.tmp 0))⟩, ⟨(some 6), none, (.mov (.const (.bool false)))⟩])
  (.seq (.reg [⟨(some 7), none, (.mov (.tmp 1))⟩, ⟨(some 8), none, (.addo (.tmp 3) 0)⟩, ⟨(some 9), none, (.ld (.tmp 8) 1)⟩, ⟨(some 10), none, (.cmpb .leq (.tmp 7) (.tmp 9))⟩, ⟨(some 11), none, (.mov (.tmp 10))⟩, ⟨(some 12), (some (11, true)), (.addo (.tmp 3) 0)⟩, ⟨(some 13), (some (11, true)), (.ld (.tmp 12) 1)⟩, ⟨(some 14), (some (11, true)), (.addo (.tmp 3) 1)⟩, ⟨(some 15), (some (11, true)), (.ld (.tmp 14) 1)⟩, ⟨(some 16), (some (11, true)), (.cmpb .leq (.tmp 13) (.tmp 15))⟩, ⟨(some 17), none, (.pur ⟨(some 17), (.pick (.tmp 11) (.tmp 16) (.const (.bool false))), 4, "", (List.toArray []), none⟩)⟩, ⟨(some 18), none, (.mov (.tmp 17))⟩, ⟨(some 19), (some (18, true)), (.addo (.tmp 3) 1)⟩, ⟨(some 20), (some (18, true)), (.ld (.tmp 19) 1)⟩, ⟨(some 21), (some (18, true)), (.mov (.tmp 2))⟩, ⟨(some 22), (some (18, true)), (.cmpb .leq (.tmp 20) (.tmp 21))⟩, ⟨(some 23), none, (.pur ⟨(some 23), (.pick (.tmp 18) (.tmp 22) (.const (.bool false))), 4, "", (List.toArray []), none⟩)⟩, ⟨(some 6), none, (.mov (.tmp 23))⟩])
  .ret))
theorem L60 : low Tryz.prog Tryz.f60.ntmps (at_ Tryz.f60 []) = some R60 := by kernel_rfl
end Go.Ax
/-! What 'low' makes of Temps and what it calls (written by program). -/
namespace Go.Ax
open Go Go.RowKit Go.Proofs
theorem N17 : Tryz.f17.ntmps = 11 := by kernel_rfl
theorem Z17 : Tryz.f17.results.toList = ((List.toArray [(.tmp 2), (.tmp 3)]) : Array ResultVar).toList := by kernel_rfl
theorem B17 : Tryz.f17.body = some (at_ Tryz.f17 []) := by kernel_rfl
noncomputable def R17 : RC := (.seq (.reg [⟨(some 1), none, (.box 25 (.tmp 0))⟩, ⟨(some 2), none, (.mov (.const (.slice none 0 0)))⟩, ⟨(some 3), none, (.mov (.const (.int .i64 0)))⟩])
  (.seq (.seq (.reg [⟨(some 4), none, (.lda (.tmp 1) 5)⟩, ⟨(some 5), none, (.call ⟨(.value (.func 39)), (List.toArray [(.tmp 4)]), (List.toArray [25])⟩ true)⟩, ⟨(some 6), none, (.pur ⟨(some 6), (.unOp .not 4 (.tmp 5)), 4, "", (List.toArray []), none⟩)⟩])
  (.cond (.tmp 6) (.seq (.reg [⟨(some 2), none, (.mov (.const (.slice none 0 0)))⟩, ⟨(some 3), none, (.mov (.const (.int .i64 1)))⟩])
  .ret)
  .skip))
  (.seq (.reg [⟨(some 7), none, (.lda (.tmp 1) 5)⟩, ⟨(some 8), none, (.call ⟨(.value (.func 40)), (List.toArray [(.tmp 7)]), (List.toArray [25])⟩ true)⟩, ⟨(some 9), none, (.pur ⟨(some 9), (.extract (.tmp 8) 0), 22, "", (List.toArray []), none⟩)⟩, ⟨(some 10), none, (.pur ⟨(some 10), (.extract (.tmp 8) 1), 28, "", (List.toArray []), none⟩)⟩, ⟨(some 2), none, (.mov (.tmp 9))⟩, ⟨(some 3), none, (.mov (.tmp 10))⟩])
  .ret)))
theorem L17 : low Tryz.prog Tryz.f17.ntmps (at_ Tryz.f17 []) = some R17 := by kernel_rfl
theorem N39 : Tryz.f39.ntmps = 73 := by kernel_rfl
theorem Z39 : Tryz.f39.results.toList = ((List.toArray [(.tmp 2)]) : Array ResultVar).toList := by kernel_rfl
theorem B39 : Tryz.f39.body = some (at_ Tryz.f39 []) := by kernel_rfl
noncomputable def R39 : RC := (.seq (.reg [⟨(some 1), none, (.box 25 (.tmp 0))⟩, ⟨(some 2), none, (.mov (.const (.bool false)))⟩])
  (.seq (.seq (.reg [⟨(some 7), none, (.addo (.tmp 1) 0)⟩, ⟨(some 8), none, (.ld (.tmp 7) 1)⟩, ⟨(some 9), none, (.call ⟨(.value (.func 42)), (List.toArray [(.tmp 8), (.const (.int .i64 1)), (.const (.int .i64 96))]), (List.toArray [3, 3, 3])⟩ true)⟩, ⟨(some 10), none, (.pur ⟨(some 10), (.unOp .not 4 (.tmp 9)), 4, "", (List.toArray []), none⟩)⟩, ⟨(some 11), none, (.mov (.tmp 10))⟩, ⟨(some 12), (some (11, false)), (.addo (.tmp 1) 1)⟩, ⟨(some 13), (some (11, false)), (.ld (.tmp 12) 1)⟩, ⟨(some 14), (some (11, false)), (.call ⟨(.value (.func 42)), (List.toArray [(.tmp 13), (.const (.int .i64 0)), (.const (.int .i64 1000))]), (List.toArray [3, 3, 3])⟩ true)⟩, ⟨(some 15), (some (11, false)), (.pur ⟨(some 15), (.unOp .not 4 (.tmp 14)), 4, "", (List.toArray []), none⟩)⟩, ⟨(some 16), none, (.pur ⟨(some 16), (.pick (.tmp 11) (.const (.bool true)) (.tmp 15)), 4, "", (List.toArray []), none⟩)⟩, ⟨(some 17), none, (.mov (.tmp 16))⟩, ⟨(some 18), (some (17, false)), (.addo (.tmp 1) 2)⟩, ⟨(some 19), (some (17, false)), (.ld (.tmp 18) 1)⟩, ⟨(some 20), (some (17, false)), (.call ⟨(.value (.func 42)), (List.toArray [(.tmp 19), (.const (.int .i64 0)), (.const (.int .i64 1000))]), (List.toArray [3, 3, 3])⟩ true)⟩, ⟨(some 21), (some (17, false)), (.pur ⟨(some 21), (.unOp .not 4 (.tmp 20)), 4, "", (List.toArray []), none⟩)⟩, ⟨(some 22), none, (.pur ⟨(some 22), (.pick (.tmp 17) (.const (.bool true)) (.tmp 21)), 4, "", (List.toArray []), none⟩)⟩])
  (.cond (.tmp 22) (.seq (.reg [⟨(some 2), none, (.mov (.const (.bool false)))⟩])
  .ret)
  .skip))
  (.seq (.seq (.reg [⟨(some 23), none, (.addo (.tmp 1) 3)⟩, ⟨(some 24), none, (.ld (.tmp 23) 1)⟩, ⟨(some 25), none, (.len (.tmp 24))⟩, ⟨(some 26), none, (.cmpb .gtr (.tmp 25) (.const (.int .i64 8)))⟩, ⟨(some 27), none, (.mov (.tmp 26))⟩, ⟨(some 28), (some (27, false)), (.addo (.tmp 1) 4)⟩, ⟨(some 29), (some (27, false)), (.ld (.tmp 28) 1)⟩, ⟨(some 30), (some (27, false)), (.len (.tmp 29))⟩, ⟨(some 31), (some (27, false)), (.cmpb .gtr (.tmp 30) (.const (.int .i64 128)))⟩, ⟨(some 32), none, (.pur ⟨(some 32), (.pick (.tmp 27) (.const (.bool true)) (.tmp 31)), 4, "", (List.toArray []), none⟩)⟩])
  (.cond (.tmp 32) (.seq (.reg [⟨(some 2), none, (.mov (.const (.bool false)))⟩])
  .ret)
  .skip))
  (.seq (.seq (.reg [⟨(some 33), none, (.addo (.tmp 1) 3)⟩, ⟨(some 34), none, (.ld (.tmp 33) 1)⟩, ⟨(some 35), none, (.len (.tmp 34))⟩, ⟨(some 36), none, (.mov (.const (.int .i64 0)))⟩])
  (.block 0 (.other (at_ Tryz.f39 [1, 1, 1, 0, 1, 0]))))
  (.seq (.seq (.reg [⟨(some 44), none, (.addo (.tmp 1) 4)⟩, ⟨(some 45), none, (.ld (.tmp 44) 1)⟩, ⟨(some 46), none, (.len (.tmp 45))⟩, ⟨(some 47), none, (.mov (.const (.int .i64 0)))⟩])
  (.block 2 (.other (at_ Tryz.f39 [1, 1, 1, 1, 0, 1, 0]))))
  (.seq (.reg [⟨(some 2), none, (.mov (.const (.bool true)))⟩])
  .ret))))))
theorem L39 : low Tryz.prog Tryz.f39.ntmps (at_ Tryz.f39 []) = some R39 := by kernel_rfl
theorem E39_1 : at_ Tryz.f39 [1, 1, 1, 0, 1, 0] = .loop (at_ Tryz.f39 [1, 1, 1, 0, 1, 0, 0]) := by kernel_rfl
noncomputable def R39x1 : RC := (.seq (.reg [⟨(some 37), none, (.cmp .lss (.tmp 36) (.tmp 35))⟩])
  (.seq (.cond (.tmp 37) .skip
  (.exit 0))
  (.seq (.block 1 (.seq (.reg [⟨(some 38), none, (.idx (.tmp 34) (.tmp 36) 2)⟩, ⟨(some 39), none, (.lda (.tmp 38) 2)⟩, ⟨(some 4), none, (.alc 48 [(.int .i64 0), (.int .i64 0)])⟩, ⟨none, none, (.sta (.tmp 4) (.tmp 39) 2)⟩])
  (.seq (.reg [⟨(some 40), none, (.lda (.tmp 4) 2)⟩, ⟨(some 41), none, (.call ⟨(.value (.func 59)), (List.toArray [(.tmp 40), (.const (.int .i64 (-1000))), (.const (.int .i64 1000))]), (List.toArray [48, 3, 3])⟩ true)⟩, ⟨(some 42), none, (.pur ⟨(some 42), (.unOp .not 4 (.tmp 41)), 4, "", (List.toArray []), none⟩)⟩])
  (.cond (.tmp 42) (.seq (.reg [⟨(some 2), none, (.mov (.const (.bool false)))⟩])
  .ret)
  .skip))))
  (.reg [⟨(some 43), none, (.ari .add (.tmp 36) (.const (.int .i64 1)))⟩, ⟨(some 36), none, (.mov (.tmp 43))⟩]))))
theorem L39x1 : low Tryz.prog Tryz.f39.ntmps (at_ Tryz.f39 [1, 1, 1, 0, 1, 0, 0]) = some R39x1 := by kernel_rfl
theorem E39_2 : at_ Tryz.f39 [1, 1, 1, 1, 0, 1, 0] = .loop (at_ Tryz.f39 [1, 1, 1, 1, 0, 1, 0, 0]) := by kernel_rfl
noncomputable def R39x2 : RC := (.seq (.reg [⟨(some 48), none, (.cmp .lss (.tmp 47) (.tmp 46))⟩])
  (.seq (.cond (.tmp 48) .skip
  (.exit 2))
  (.seq (.block 3 (.seq (.reg [⟨(some 49), none, (.idx (.tmp 45) (.tmp 47) 3)⟩, ⟨(some 50), none, (.lda (.tmp 49) 3)⟩, ⟨(some 6), none, (.alc 57 [(.int .i64 0), (.int .i64 0), (.int .i64 0)])⟩, ⟨none, none, (.sta (.tmp 6) (.tmp 50) 3)⟩])
  (.seq (.reg [⟨(some 51), none, (.addo (.tmp 6) 0)⟩, ⟨(some 52), none, (.ld (.tmp 51) 1)⟩, ⟨(some 53), none, (.addo (.tmp 1) 3)⟩, ⟨(some 54), none, (.ld (.tmp 53) 1)⟩, ⟨(some 55), none, (.len (.tmp 54))⟩, ⟨(some 56), none, (.call ⟨(.value (.func 62)), (List.toArray [(.tmp 52), (.tmp 55)]), (List.toArray [3, 3])⟩ true)⟩, ⟨(some 57), none, (.pur ⟨(some 57), (.unOp .not 4 (.tmp 56)), 4, "", (List.toArray []), none⟩)⟩, ⟨(some 58), none, (.mov (.tmp 57))⟩, ⟨(some 59), (some (58, false)), (.addo (.tmp 6) 1)⟩, ⟨(some 60), (some (58, false)), (.ld (.tmp 59) 1)⟩, ⟨(some 61), (some (58, false)), (.addo (.tmp 1) 0)⟩, ⟨(some 62), (some (58, false)), (.ld (.tmp 61) 1)⟩, ⟨(some 63), (some (58, false)), (.call ⟨(.value (.func 62)), (List.toArray [(.tmp 60), (.tmp 62)]), (List.toArray [3, 3])⟩ true)⟩, ⟨(some 64), (some (58, false)), (.pur ⟨(some 64), (.unOp .not 4 (.tmp 63)), 4, "", (List.toArray []), none⟩)⟩, ⟨(some 65), none, (.pur ⟨(some 65), (.pick (.tmp 58) (.const (.bool true)) (.tmp 64)), 4, "", (List.toArray []), none⟩)⟩, ⟨(some 66), none, (.mov (.tmp 65))⟩, ⟨(some 67), (some (66, false)), (.addo (.tmp 6) 2)⟩, ⟨(some 68), (some (66, false)), (.ld (.tmp 67) 1)⟩, ⟨(some 69), (some (66, false)), (.call ⟨(.value (.func 58)), (List.toArray [(.tmp 68)]), (List.toArray [3])⟩ true)⟩, ⟨(some 70), (some (66, false)), (.pur ⟨(some 70), (.unOp .not 4 (.tmp 69)), 4, "", (List.toArray []), none⟩)⟩, ⟨(some 71), none, (.pur ⟨(some 71), (.pick (.tmp 66) (.const (.bool true)) (.tmp 70)), 4, "", (List.toArray []), none⟩)⟩])
  (.cond (.tmp 71) (.seq (.reg [⟨(some 2), none, (.mov (.const (.bool false)))⟩])
  .ret)
  .skip))))
  (.reg [⟨(some 72), none, (.ari .add (.tmp 47) (.const (.int .i64 1)))⟩, ⟨(some 47), none, (.mov (.tmp 72))⟩]))))
theorem L39x2 : low Tryz.prog Tryz.f39.ntmps (at_ Tryz.f39 [1, 1, 1, 1, 0, 1, 0, 0]) = some R39x2 := by kernel_rfl
theorem N63 : Tryz.f63.ntmps = 4 := by kernel_rfl
theorem Z63 : Tryz.f63.results.toList = ((List.toArray []) : Array ResultVar).toList := by kernel_rfl
theorem B63 : Tryz.f63.body = some (at_ Tryz.f63 []) := by kernel_rfl
theorem N44 : Tryz.f44.ntmps = 6 := by kernel_rfl
theorem Z44 : Tryz.f44.results.toList = ((List.toArray [(.tmp 4)]) : Array ResultVar).toList := by kernel_rfl
theorem B44 : Tryz.f44.body = some (at_ Tryz.f44 []) := by kernel_rfl
noncomputable def R44 : RC := (.seq (.reg [⟨(some 2), none, (.box 3 (.tmp 0))⟩, ⟨(some 3), none, (.box 3 (.tmp 1))⟩, ⟨(some 4), none, (.mov (.const .nilFunc))⟩])
  (.seq (.reg [⟨(some 5), none, (.pur ⟨(some 5), (.makeFunc (.func 67) (List.toArray []) (List.toArray [(.tmp 2), (.tmp 3)])), 85, "", (List.toArray []), none⟩)⟩, ⟨(some 4), none, (.mov (.tmp 5))⟩])
  .ret))
theorem L44 : low Tryz.prog Tryz.f44.ntmps (at_ Tryz.f44 []) = some R44 := by kernel_rfl
theorem N67 : Tryz.f67.ntmps = 15 := by kernel_rfl
theorem Z67 : Tryz.f67.results.toList = ((List.toArray []) : Array ResultVar).toList := by kernel_rfl
theorem B67 : Tryz.f67.body = some (at_ Tryz.f67 []) := by kernel_rfl
noncomputable def R67 : RC := (.seq (.reg [⟨(some 5), none, (.ld (.tmp 1) 1)⟩, ⟨(some 4), none, (.mov (.tmp 5))⟩])
  (.block 0 (.other (at_ Tryz.f67 [1, 0]))))
theorem L67 : low Tryz.prog Tryz.f67.ntmps (at_ Tryz.f67 []) = some R67 := by kernel_rfl
theorem E67_1 : at_ Tryz.f67 [1, 0] = .loop (at_ Tryz.f67 [1, 0, 0]) := by kernel_rfl
noncomputable def R67x1 : RC := (.seq (.seq (.reg [⟨(some 6), none, (.mov (.tmp 4))⟩, ⟨(some 7), none, (.ld (.tmp 2) 1)⟩, ⟨(some 8), none, (.cmp .leq (.tmp 6) (.tmp 7))⟩])
  (.cond (.tmp 8) .skip
  (.exit 0)))
  (.seq (.block 1 (.seq (.reg [⟨(some 11), none, (.mov (.tmp 0))⟩, ⟨(some 12), none, (.mov (.tmp 4))⟩, ⟨(some 13), none, (.call ⟨(.value (.tmp 11)), (List.toArray [(.tmp 12)]), (List.toArray [3])⟩ true)⟩, ⟨(some 14), none, (.pur ⟨(some 14), (.unOp .not 4 (.tmp 13)), 4, "", (List.toArray []), none⟩)⟩])
  (.cond (.tmp 14) .ret
  .skip)))
  (.reg [⟨(some 9), none, (.mov (.tmp 4))⟩, ⟨(some 10), none, (.ari .add (.tmp 9) (.const (.int .i64 1)))⟩, ⟨(some 4), none, (.mov (.tmp 10))⟩])))
theorem L67x1 : low Tryz.prog Tryz.f67.ntmps (at_ Tryz.f67 [1, 0, 0]) = some R67x1 := by kernel_rfl
theorem N64 : Tryz.f64.ntmps = 37 := by kernel_rfl
theorem Z64 : Tryz.f64.results.toList = ((List.toArray [(.tmp 4)]) : Array ResultVar).toList := by kernel_rfl
theorem B64 : Tryz.f64.body = some (at_ Tryz.f64 []) := by kernel_rfl
noncomputable def R64 : RC := (.seq (.reg [⟨(some 4), none, (.mov (.const (.slice none 0 0)))⟩])
  (.seq (.reg [⟨(some 8), none, (.mov (.tmp 0))⟩, ⟨(some 9), none, (.len (.tmp 8))⟩, ⟨(some 10), none, (.mem ⟨(some 10), (.makeSlice 22 (.tmp 9) (.tmp 9)), 22, "", (List.toArray []), none⟩)⟩, ⟨(some 5), none, (.mov (.tmp 10))⟩])
  (.seq (.seq (.reg [⟨(some 11), none, (.mov (.tmp 0))⟩, ⟨(some 12), none, (.len (.tmp 11))⟩, ⟨(some 13), none, (.mov (.const (.int .i64 0)))⟩])
  (.block 0 (.other (at_ Tryz.f64 [1, 1, 0, 1, 0]))))
  (.seq (.reg [⟨(some 36), none, (.mov (.tmp 5))⟩, ⟨(some 4), none, (.mov (.tmp 36))⟩])
  .ret))))
theorem L64 : low Tryz.prog Tryz.f64.ntmps (at_ Tryz.f64 []) = some R64 := by kernel_rfl
theorem E64_1 : at_ Tryz.f64 [1, 1, 0, 1, 0] = .loop (at_ Tryz.f64 [1, 1, 0, 1, 0, 0]) := by kernel_rfl
noncomputable def R64x1 : RC := (.seq (.reg [⟨(some 14), none, (.cmp .lss (.tmp 13) (.tmp 12))⟩])
  (.seq (.cond (.tmp 14) .skip
  (.exit 0))
  (.seq (.block 1 (.seq (.reg [⟨(some 15), none, (.mov (.tmp 13))⟩, ⟨(some 16), none, (.idx (.tmp 11) (.tmp 13) 1)⟩, ⟨(some 17), none, (.ld (.tmp 16) 1)⟩, ⟨(some 6), none, (.mov (.tmp 15))⟩, ⟨(some 7), none, (.mov (.tmp 17))⟩])
  (.seq (.seq (.reg [⟨(some 18), none, (.mov (.tmp 7))⟩, ⟨(some 19), none, (.mov (.tmp 1))⟩, ⟨(some 20), none, (.mov (.tmp 6))⟩, ⟨(some 21), none, (.idx (.tmp 19) (.tmp 20) 1)⟩, ⟨(some 22), none, (.ld (.tmp 21) 1)⟩, ⟨(some 23), none, (.cmp .gtr (.tmp 18) (.tmp 22))⟩])
  (.cond (.tmp 23) (.reg [⟨(some 24), none, (.pur ⟨(some 24), (.build 125 (List.toArray [])), 125, "", (List.toArray []), none⟩)⟩, ⟨(some 25), none, (.pur ⟨(some 25), (.makeInterface 125 (.tmp 24)), 20, "", (List.toArray []), none⟩)⟩, ⟨none, none, .dead⟩])
  .skip))
  (.reg [⟨(some 26), none, (.mov (.tmp 5))⟩, ⟨(some 27), none, (.mov (.tmp 6))⟩, ⟨(some 28), none, (.mov (.tmp 7))⟩, ⟨(some 29), none, (.mov (.tmp 1))⟩, ⟨(some 30), none, (.mov (.tmp 6))⟩, ⟨(some 31), none, (.idx (.tmp 29) (.tmp 30) 1)⟩, ⟨(some 32), none, (.ld (.tmp 31) 1)⟩, ⟨(some 33), none, (.pur ⟨(some 33), (.build 48 (List.toArray [(0, (.tmp 28)), (1, (.tmp 32))])), 48, "", (List.toArray []), none⟩)⟩, ⟨(some 34), none, (.idx (.tmp 26) (.tmp 27) 2)⟩, ⟨none, none, (.sta (.tmp 34) (.tmp 33) 2)⟩]))))
  (.reg [⟨(some 35), none, (.ari .add (.tmp 13) (.const (.int .i64 1)))⟩, ⟨(some 13), none, (.mov (.tmp 35))⟩]))))
theorem L64x1 : low Tryz.prog Tryz.f64.ntmps (at_ Tryz.f64 [1, 1, 0, 1, 0, 0]) = some R64x1 := by kernel_rfl
theorem N65 : Tryz.f65.ntmps = 6 := by kernel_rfl
theorem Z65 : Tryz.f65.results.toList = ((List.toArray [(.tmp 2)]) : Array ResultVar).toList := by kernel_rfl
theorem B65 : Tryz.f65.body = some (at_ Tryz.f65 []) := by kernel_rfl
noncomputable def R65 : RC := (.seq (.reg [⟨(some 1), none, (.box 25 (.tmp 0))⟩, ⟨(some 2), none, (.mov (.const (.slice none 0 0)))⟩])
  (.seq (.reg [⟨(some 3), none, (.lda (.tmp 1) 5)⟩, ⟨(some 4), none, (.pur ⟨(some 4), (.makeFunc (.func 91) (List.toArray []) (List.toArray [(.tmp 1)])), 129, "", (List.toArray []), none⟩)⟩, ⟨(some 5), none, (.call ⟨(.value (.func 89)), (List.toArray [(.tmp 3), (.const (.int .i64 (-5000))), (.func 90), (.tmp 4)]), (List.toArray [25, 3, 127, 129])⟩ true)⟩, ⟨(some 2), none, (.mov (.tmp 5))⟩])
  .ret))
theorem L65 : low Tryz.prog Tryz.f65.ntmps (at_ Tryz.f65 []) = some R65 := by kernel_rfl
theorem N66 : Tryz.f66.ntmps = 6 := by kernel_rfl
theorem Z66 : Tryz.f66.results.toList = ((List.toArray [(.tmp 2)]) : Array ResultVar).toList := by kernel_rfl
theorem B66 : Tryz.f66.body = some (at_ Tryz.f66 []) := by kernel_rfl
noncomputable def R66 : RC := (.seq (.reg [⟨(some 1), none, (.box 25 (.tmp 0))⟩, ⟨(some 2), none, (.mov (.const (.slice none 0 0)))⟩])
  (.seq (.reg [⟨(some 3), none, (.lda (.tmp 1) 5)⟩, ⟨(some 4), none, (.pur ⟨(some 4), (.makeFunc (.func 94) (List.toArray []) (List.toArray [(.tmp 1)])), 129, "", (List.toArray []), none⟩)⟩, ⟨(some 5), none, (.call ⟨(.value (.func 89)), (List.toArray [(.tmp 3), (.const (.int .i64 5000)), (.func 93), (.tmp 4)]), (List.toArray [25, 3, 127, 129])⟩ true)⟩, ⟨(some 2), none, (.mov (.tmp 5))⟩])
  .ret))
theorem L66 : low Tryz.prog Tryz.f66.ntmps (at_ Tryz.f66 []) = some R66 := by kernel_rfl
theorem N90 : Tryz.f90.ntmps = 8 := by kernel_rfl
theorem Z90 : Tryz.f90.results.toList = ((List.toArray [(.tmp 4)]) : Array ResultVar).toList := by kernel_rfl
theorem B90 : Tryz.f90.body = some (at_ Tryz.f90 []) := by kernel_rfl
noncomputable def R90 : RC := (.seq (.reg [⟨(some 4), none, (.mov (.const (.int .i64 0)))⟩])
  (.seq (.reg [⟨(some 5), none, (.mov (.tmp 0))⟩, ⟨(some 6), none, (.mov (.tmp 1))⟩, ⟨(some 7), none, (.mm false (.tmp 5) (.tmp 6))⟩, ⟨(some 4), none, (.mov (.tmp 7))⟩])
  .ret))
theorem L90 : low Tryz.prog Tryz.f90.ntmps (at_ Tryz.f90 []) = some R90 := by kernel_rfl
theorem N93 : Tryz.f93.ntmps = 8 := by kernel_rfl
theorem Z93 : Tryz.f93.results.toList = ((List.toArray [(.tmp 4)]) : Array ResultVar).toList := by kernel_rfl
theorem B93 : Tryz.f93.body = some (at_ Tryz.f93 []) := by kernel_rfl
noncomputable def R93 : RC := (.seq (.reg [⟨(some 4), none, (.mov (.const (.int .i64 0)))⟩])
  (.seq (.reg [⟨(some 5), none, (.mov (.tmp 0))⟩, ⟨(some 6), none, (.mov (.tmp 1))⟩, ⟨(some 7), none, (.mm true (.tmp 5) (.tmp 6))⟩, ⟨(some 4), none, (.mov (.tmp 7))⟩])
  .ret))
theorem L93 : low Tryz.prog Tryz.f93.ntmps (at_ Tryz.f93 []) = some R93 := by kernel_rfl
theorem N91 : Tryz.f91.ntmps = 35 := by kernel_rfl
theorem Z91 : Tryz.f91.results.toList = ((List.toArray [(.tmp 5)]) : Array ResultVar).toList := by kernel_rfl
theorem B91 : Tryz.f91.body = some (at_ Tryz.f91 []) := by kernel_rfl
noncomputable def R91 : RC := (.seq (.reg [⟨(some 3), none, (.box 57 (.tmp 0))⟩, ⟨(some 5), none, (.mov (.const (.int .i64 0)))⟩])
  (.seq (.reg [⟨(some 9), none, (.addo (.tmp 3) 1)⟩, ⟨(some 10), none, (.ld (.tmp 9) 1)⟩, ⟨(some 11), none, (.mov (.tmp 1))⟩, ⟨(some 12), none, (.call ⟨(.value (.func 92)), (List.toArray [(.tmp 10), (.tmp 11)]), (List.toArray [3, 3])⟩ true)⟩, ⟨(some 8), none, (.mov (.tmp 12))⟩, ⟨(some 13), none, (.pur ⟨(some 13), (.extract (.tmp 8) 0), 3, "", (List.toArray []), none⟩)⟩, ⟨(some 14), none, (.pur ⟨(some 14), (.extract (.tmp 8) 1), 3, "", (List.toArray []), none⟩)⟩, ⟨(some 6), none, (.mov (.tmp 13))⟩, ⟨(some 7), none, (.mov (.tmp 14))⟩])
  (.seq (.dreg [⟨(some 15), none, (.addo (.tmp 3) 2)⟩, ⟨(some 16), none, (.ld (.tmp 15) 1)⟩, ⟨(some 17), none, (.addo (.tmp 2) 3)⟩, ⟨(some 18), none, (.ld (.tmp 17) 1)⟩, ⟨(some 19), none, (.addo (.tmp 3) 0)⟩, ⟨(some 20), none, (.ld (.tmp 19) 1)⟩, ⟨(some 21), none, (.idx (.tmp 18) (.tmp 20) 2)⟩, ⟨(some 22), none, (.addo (.tmp 21) 1)⟩, ⟨(some 23), none, (.ld (.tmp 22) 1)⟩, ⟨(some 24), none, (.ari .sub (.tmp 16) (.tmp 23))⟩, ⟨(some 25), none, (.mov (.tmp 6))⟩, ⟨(some 26), none, (.addo (.tmp 2) 2)⟩, ⟨(some 27), none, (.ld (.tmp 26) 1)⟩, ⟨(some 28), none, (.ari .mul (.tmp 25) (.tmp 27))⟩, ⟨(some 29), none, (.ari .sub (.tmp 24) (.tmp 28))⟩, ⟨(some 30), none, (.mov (.tmp 7))⟩, ⟨(some 31), none, (.addo (.tmp 2) 1)⟩, ⟨(some 32), none, (.ld (.tmp 31) 1)⟩, ⟨(some 33), none, (.ari .mul (.tmp 30) (.tmp 32))⟩, ⟨(some 34), none, (.ari .sub (.tmp 29) (.tmp 33))⟩, ⟨(some 5), none, (.mov (.tmp 34))⟩] [1048575, 524287, 229376, 65536, 0, 0, 16383, 7168, 2048, 0, 0, 511, 252, 124, 60, 16, 0, 4, 0, 1, 0])
  .ret)))
theorem L91 : low Tryz.prog Tryz.f91.ntmps (at_ Tryz.f91 []) = some R91 := by kernel_rfl
theorem N94 : Tryz.f94.ntmps = 35 := by kernel_rfl
theorem Z94 : Tryz.f94.results.toList = ((List.toArray [(.tmp 5)]) : Array ResultVar).toList := by kernel_rfl
theorem B94 : Tryz.f94.body = some (at_ Tryz.f94 []) := by kernel_rfl
noncomputable def R94 : RC := (.seq (.reg [⟨(some 3), none, (.box 57 (.tmp 0))⟩, ⟨(some 5), none, (.mov (.const (.int .i64 0)))⟩])
  (.seq (.reg [⟨(some 9), none, (.addo (.tmp 3) 1)⟩, ⟨(some 10), none, (.ld (.tmp 9) 1)⟩, ⟨(some 11), none, (.mov (.tmp 1))⟩, ⟨(some 12), none, (.call ⟨(.value (.func 92)), (List.toArray [(.tmp 10), (.tmp 11)]), (List.toArray [3, 3])⟩ true)⟩, ⟨(some 8), none, (.mov (.tmp 12))⟩, ⟨(some 13), none, (.pur ⟨(some 13), (.extract (.tmp 8) 0), 3, "", (List.toArray []), none⟩)⟩, ⟨(some 14), none, (.pur ⟨(some 14), (.extract (.tmp 8) 1), 3, "", (List.toArray []), none⟩)⟩, ⟨(some 6), none, (.mov (.tmp 13))⟩, ⟨(some 7), none, (.mov (.tmp 14))⟩])
  (.seq (.dreg [⟨(some 15), none, (.addo (.tmp 3) 2)⟩, ⟨(some 16), none, (.ld (.tmp 15) 1)⟩, ⟨(some 17), none, (.addo (.tmp 2) 3)⟩, ⟨(some 18), none, (.ld (.tmp 17) 1)⟩, ⟨(some 19), none, (.addo (.tmp 3) 0)⟩, ⟨(some 20), none, (.ld (.tmp 19) 1)⟩, ⟨(some 21), none, (.idx (.tmp 18) (.tmp 20) 2)⟩, ⟨(some 22), none, (.addo (.tmp 21) 0)⟩, ⟨(some 23), none, (.ld (.tmp 22) 1)⟩, ⟨(some 24), none, (.ari .sub (.tmp 16) (.tmp 23))⟩, ⟨(some 25), none, (.mov (.tmp 6))⟩, ⟨(some 26), none, (.addo (.tmp 2) 1)⟩, ⟨(some 27), none, (.ld (.tmp 26) 1)⟩, ⟨(some 28), none, (.ari .mul (.tmp 25) (.tmp 27))⟩, ⟨(some 29), none, (.ari .add (.tmp 24) (.tmp 28))⟩, ⟨(some 30), none, (.mov (.tmp 7))⟩, ⟨(some 31), none, (.addo (.tmp 2) 2)⟩, ⟨(some 32), none, (.ld (.tmp 31) 1)⟩, ⟨(some 33), none, (.ari .mul (.tmp 30) (.tmp 32))⟩, ⟨(some 34), none, (.ari .add (.tmp 29) (.tmp 33))⟩, ⟨(some 5), none, (.mov (.tmp 34))⟩] [1048575, 524287, 229376, 65536, 0, 0, 16383, 7168, 2048, 0, 0, 511, 252, 124, 60, 16, 0, 4, 0, 1, 0])
  .ret)))
theorem L94 : low Tryz.prog Tryz.f94.ntmps (at_ Tryz.f94 []) = some R94 := by kernel_rfl
theorem N92 : Tryz.f92.ntmps = 14 := by kernel_rfl
theorem Z92 : Tryz.f92.results.toList = ((List.toArray [(.tmp 4), (.tmp 5)]) : Array ResultVar).toList := by kernel_rfl
theorem B92 : Tryz.f92.body = some (at_ Tryz.f92 []) := by kernel_rfl
noncomputable def R92 : RC := (.seq (.reg [⟨(some 4), none, (.mov (.const (.int .i64 0)))⟩, ⟨(some 5), none, (.mov (.const (.int .i64 0)))⟩])
  (.seq (.reg [⟨(some 6), none, (.mov (.tmp 0))⟩, ⟨(some 7), none, (.mov (.tmp 1))⟩, ⟨(some 8), none, (.ari .sub (.tmp 6) (.tmp 7))⟩, ⟨(some 9), none, (.mm false (.const (.int .i64 0)) (.tmp 8))⟩, ⟨(some 10), none, (.mov (.tmp 1))⟩, ⟨(some 11), none, (.mov (.tmp 0))⟩, ⟨(some 12), none, (.ari .sub (.tmp 10) (.tmp 11))⟩, ⟨(some 13), none, (.mm false (.const (.int .i64 0)) (.tmp 12))⟩, ⟨(some 4), none, (.mov (.tmp 9))⟩, ⟨(some 5), none, (.mov (.tmp 13))⟩])
  .ret))
theorem L92 : low Tryz.prog Tryz.f92.ntmps (at_ Tryz.f92 []) = some R92 := by kernel_rfl
theorem N62 : Tryz.f62.ntmps = 9 := by kernel_rfl
theorem Z62 : Tryz.f62.results.toList = ((List.toArray [(.tmp 4)]) : Array ResultVar).toList := by kernel_rfl
theorem B62 : Tryz.f62.body = some (at_ Tryz.f62 []) := by kernel_rfl
noncomputable def R62 : RC := (.seq (.reg [⟨(some 4), none, (.mov (.const (.bool false)))⟩])
  (.seq (.reg [⟨(some 5), none, (.mov (.tmp 0))⟩, ⟨(some 6), none, (.mov (.tmp 1))⟩, ⟨(some 7), none, (.ari .sub (.tmp 6) (.const (.int .i64 1)))⟩, ⟨(some 8), none, (.call ⟨(.value (.func 42)), (List.toArray [(.tmp 5), (.const (.int .i64 0)), (.tmp 7)]), (List.toArray [3, 3, 3])⟩ true)⟩, ⟨(some 4), none, (.mov (.tmp 8))⟩])
  .ret))
theorem L62 : low Tryz.prog Tryz.f62.ntmps (at_ Tryz.f62 []) = some R62 := by kernel_rfl
theorem N89 : Tryz.f89.ntmps = 47 := by kernel_rfl
theorem Z89 : Tryz.f89.results.toList = ((List.toArray [(.tmp 8)]) : Array ResultVar).toList := by kernel_rfl
theorem B89 : Tryz.f89.body = some (at_ Tryz.f89 []) := by kernel_rfl
noncomputable def R89 : RC := (.seq (.reg [⟨(some 4), none, (.box 25 (.tmp 0))⟩, ⟨(some 5), none, (.box 3 (.tmp 1))⟩, ⟨(some 6), none, (.box 127 (.tmp 2))⟩, ⟨(some 7), none, (.box 129 (.tmp 3))⟩, ⟨(some 8), none, (.mov (.const (.slice none 0 0)))⟩])
  (.seq (.reg [⟨(some 13), none, (.addo (.tmp 4) 0)⟩, ⟨(some 14), none, (.ld (.tmp 13) 1)⟩, ⟨(some 15), none, (.mem ⟨(some 15), (.makeSlice 36 (.tmp 14) (.tmp 14)), 36, "", (List.toArray []), none⟩)⟩, ⟨(some 9), none, (.alc 36 [(.slice none 0 0)])⟩, ⟨none, none, (.st (.tmp 9) (.tmp 15))⟩])
  (.seq (.seq (.reg [⟨(some 16), none, (.addo (.tmp 4) 0)⟩, ⟨(some 17), none, (.ld (.tmp 16) 1)⟩, ⟨(some 18), none, (.ari .sub (.tmp 17) (.const (.int .i64 1)))⟩, ⟨(some 19), none, (.call ⟨(.value (.func 44)), (List.toArray [(.const (.int .i64 0)), (.tmp 18)]), (List.toArray [3, 3])⟩ true)⟩])
  (.block 0 (.other (at_ Tryz.f89 [1, 1, 0, 1, 0]))))
  (.seq (.reg [⟨(some 46), none, (.ld (.tmp 9) 1)⟩, ⟨(some 8), none, (.mov (.tmp 46))⟩])
  .ret))))
theorem L89 : low Tryz.prog Tryz.f89.ntmps (at_ Tryz.f89 []) = some R89 := by kernel_rfl
theorem E89_1 : at_ Tryz.f89 [1, 1, 0, 1, 0] = .rangeFunc (.tmp 19) ((List.toArray [20])) (at_ Tryz.f89 [1, 1, 0, 1, 0, 0]) (at_ Tryz.f89 [1, 1, 0, 1, 0, 1]) := by kernel_rfl
noncomputable def R89x1 : RC := (.reg [⟨(some 10), none, (.mov (.tmp 20))⟩])
theorem L89x1 : low Tryz.prog Tryz.f89.ntmps (at_ Tryz.f89 [1, 1, 0, 1, 0, 0]) = some R89x1 := by kernel_rfl
noncomputable def R89x2 : RC := (.block 1 (.seq (.reg [⟨(some 21), none, (.ld (.tmp 9) 1)⟩, ⟨(some 22), none, (.mov (.tmp 10))⟩, ⟨(some 23), none, (.ld (.tmp 5) 1)⟩, ⟨(some 24), none, (.idx (.tmp 21) (.tmp 22) 1)⟩, ⟨none, none, (.st (.tmp 24) (.tmp 23))⟩])
  (.seq (.reg [⟨(some 25), none, (.addo (.tmp 4) 4)⟩, ⟨(some 26), none, (.ld (.tmp 25) 1)⟩, ⟨(some 27), none, (.len (.tmp 26))⟩, ⟨(some 28), none, (.mov (.const (.int .i64 0)))⟩])
  (.block 2 (.other (at_ Tryz.f89 [1, 1, 0, 1, 0, 1, 0, 1, 1, 0]))))))
theorem L89x2 : low Tryz.prog Tryz.f89.ntmps (at_ Tryz.f89 [1, 1, 0, 1, 0, 1]) = some R89x2 := by kernel_rfl
theorem E89_3 : at_ Tryz.f89 [1, 1, 0, 1, 0, 1, 0, 1, 1, 0] = .loop (at_ Tryz.f89 [1, 1, 0, 1, 0, 1, 0, 1, 1, 0, 0]) := by kernel_rfl
noncomputable def R89x3 : RC := (.seq (.reg [⟨(some 29), none, (.cmp .lss (.tmp 28) (.tmp 27))⟩])
  (.seq (.cond (.tmp 29) .skip
  (.exit 2))
  (.seq (.block 3 (.seq (.reg [⟨(some 30), none, (.idx (.tmp 26) (.tmp 28) 3)⟩, ⟨(some 31), none, (.lda (.tmp 30) 3)⟩, ⟨(some 12), none, (.alc 57 [(.int .i64 0), (.int .i64 0), (.int .i64 0)])⟩, ⟨none, none, (.sta (.tmp 12) (.tmp 31) 3)⟩])
  (.dreg [⟨(some 32), none, (.ld (.tmp 9) 1)⟩, ⟨(some 33), none, (.mov (.tmp 10))⟩, ⟨(some 34), none, (.ld (.tmp 6) 1)⟩, ⟨(some 35), none, (.ld (.tmp 9) 1)⟩, ⟨(some 36), none, (.mov (.tmp 10))⟩, ⟨(some 37), none, (.idx (.tmp 35) (.tmp 36) 1)⟩, ⟨(some 38), none, (.ld (.tmp 37) 1)⟩, ⟨(some 39), none, (.ld (.tmp 7) 1)⟩, ⟨(some 40), none, (.lda (.tmp 12) 3)⟩, ⟨(some 41), none, (.mov (.tmp 10))⟩, ⟨(some 42), none, (.call ⟨(.value (.tmp 39)), (List.toArray [(.tmp 40), (.tmp 41)]), (List.toArray [57, 3])⟩ false)⟩, ⟨(some 43), none, (.call ⟨(.value (.tmp 34)), (List.toArray [(.tmp 38), (.tmp 42)]), (List.toArray [3, 3])⟩ false)⟩, ⟨(some 44), none, (.idx (.tmp 32) (.tmp 33) 1)⟩, ⟨none, none, (.st (.tmp 44) (.tmp 43))⟩] [8191, 4095, 2044, 896, 0, 0, 0, 56, 24, 0, 0, 0, 0, 0])))
  (.reg [⟨(some 45), none, (.ari .add (.tmp 28) (.const (.int .i64 1)))⟩, ⟨(some 28), none, (.mov (.tmp 45))⟩]))))
theorem L89x3 : low Tryz.prog Tryz.f89.ntmps (at_ Tryz.f89 [1, 1, 0, 1, 0, 1, 0, 1, 1, 0, 0]) = some R89x3 := by kernel_rfl
theorem N40 : Tryz.f40.ntmps = 10 := by kernel_rfl
theorem Z40 : Tryz.f40.results.toList = ((List.toArray [(.cell 2 22), (.cell 3 28)]) : Array ResultVar).toList := by kernel_rfl
theorem B40 : Tryz.f40.body = some (at_ Tryz.f40 []) := by kernel_rfl
end Go.Ax
/-! What 'low' makes of FrostBetween (written by program). -/
namespace Go.Ax
open Go Go.RowKit Go.Proofs
theorem N12 : Tryz.f12.ntmps = 156 := by kernel_rfl
theorem Z12 : Tryz.f12.results.toList = ((List.toArray [(.tmp 10)]) : Array ResultVar).toList := by kernel_rfl
theorem B12 : Tryz.f12.body = some (at_ Tryz.f12 []) := by kernel_rfl
noncomputable def R12 : RC := (.seq (.reg [⟨(some 6), none, (.box 48 (.tmp 1))⟩, ⟨(some 10), none, (.mov (.const (.bool false)))⟩])
  (.seq (.reg [⟨(some 21), none, (.mov (.tmp 0))⟩, ⟨(some 22), none, (.lda (.tmp 6) 2)⟩, ⟨(some 23), none, (.mov (.tmp 2))⟩, ⟨(some 24), none, (.mov (.tmp 3))⟩, ⟨(some 25), none, (.call ⟨(.value (.func 27)), (List.toArray [(.tmp 21), (.tmp 22), (.tmp 23), (.tmp 24)]), (List.toArray [3, 48, 3, 3])⟩ true)⟩, ⟨(some 20), none, (.mov (.tmp 25))⟩, ⟨(some 26), none, (.pur ⟨(some 26), (.extract (.tmp 20) 0), 3, "", (List.toArray []), none⟩)⟩, ⟨(some 27), none, (.pur ⟨(some 27), (.extract (.tmp 20) 1), 28, "", (List.toArray []), none⟩)⟩, ⟨(some 11), none, (.mov (.tmp 26))⟩, ⟨(some 12), none, (.mov (.tmp 27))⟩])
  (.seq (.seq (.reg [⟨(some 28), none, (.mov (.tmp 12))⟩, ⟨(some 29), none, (.cmp .neq (.tmp 28) (.const (.int .i64 0)))⟩])
  (.cond (.tmp 29) (.seq (.reg [⟨(some 30), none, (.mov (.tmp 11))⟩, ⟨(some 31), none, (.cmpb .eql (.tmp 30) (.const (.int .i64 0)))⟩, ⟨(some 32), none, (.mov (.tmp 31))⟩, ⟨(some 33), (some (32, true)), (.mov (.tmp 12))⟩, ⟨(some 34), (some (32, true)), (.cmpb .eql (.tmp 33) (.const (.int .i64 2)))⟩, ⟨(some 35), none, (.pur ⟨(some 35), (.pick (.tmp 32) (.tmp 34) (.const (.bool false))), 4, "", (List.toArray []), none⟩)⟩, ⟨(some 36), none, (.mov (.tmp 35))⟩, ⟨(some 37), (some (36, true)), (.call ⟨(.value (.func 16)), (List.toArray []), (List.toArray [])⟩ true)⟩, ⟨(some 38), none, (.pur ⟨(some 38), (.pick (.tmp 36) (.tmp 37) (.const (.bool false))), 4, "", (List.toArray []), none⟩)⟩, ⟨(some 10), none, (.mov (.tmp 38))⟩])
  .ret)
  .skip))
  (.seq (.seq (.reg [⟨(some 39), none, (.mov (.tmp 3))⟩, ⟨(some 40), none, (.cmpb .lss (.tmp 39) (.const (.int .i64 0)))⟩, ⟨(some 41), none, (.mov (.tmp 40))⟩, ⟨(some 42), (some (41, false)), (.mov (.tmp 3))⟩, ⟨(some 43), (some (41, false)), (.cmpb .geq (.tmp 42) (.const (.int .i64 96)))⟩, ⟨(some 44), none, (.pur ⟨(some 44), (.pick (.tmp 41) (.const (.bool true)) (.tmp 43)), 4, "", (List.toArray []), none⟩)⟩])
  (.cond (.tmp 44) (.seq (.reg [⟨(some 45), none, (.mov (.tmp 3))⟩, ⟨(some 46), none, (.cmpb .eql (.tmp 45) (.const (.int .i64 96)))⟩, ⟨(some 47), none, (.mov (.tmp 46))⟩, ⟨(some 48), (some (47, true)), (.call ⟨(.value (.func 16)), (List.toArray []), (List.toArray [])⟩ true)⟩, ⟨(some 49), none, (.pur ⟨(some 49), (.pick (.tmp 47) (.tmp 48) (.const (.bool false))), 4, "", (List.toArray []), none⟩)⟩, ⟨(some 10), none, (.mov (.tmp 49))⟩])
  .ret)
  .skip))
  (.seq (.reg [⟨(some 50), none, (.mov (.tmp 3))⟩, ⟨(some 51), none, (.ari .add (.tmp 50) (.const (.int .i64 1)))⟩, ⟨(some 52), none, (.mov (.tmp 2))⟩, ⟨(some 53), none, (.lda (.tmp 6) 2)⟩, ⟨(some 54), none, (.mem ⟨(some 54), (.buildSlice 22 1 (List.toArray [(0, (.tmp 53))])), 22, "", (List.toArray []), none⟩)⟩, ⟨(some 55), none, (.mov (.tmp 11))⟩, ⟨(some 56), none, (.mov (.tmp 4))⟩, ⟨(some 57), none, (.pur ⟨(some 57), (.convert 5 3 (.tmp 56)), 3, "", (List.toArray []), none⟩)⟩, ⟨(some 58), none, (.ari .add (.tmp 55) (.tmp 57))⟩, ⟨(some 59), none, (.pur ⟨(some 59), (.build 57 (List.toArray [(2, (.tmp 58))])), 57, "", (List.toArray []), none⟩)⟩, ⟨(some 60), none, (.mem ⟨(some 60), (.buildSlice 23 1 (List.toArray [(0, (.tmp 59))])), 23, "", (List.toArray []), none⟩)⟩, ⟨(some 61), none, (.pur ⟨(some 61), (.build 25 (List.toArray [(0, (.tmp 51)), (1, (.tmp 52)), (2, (.const (.int .i64 10))), (3, (.tmp 54)), (4, (.tmp 60))])), 25, "", (List.toArray []), none⟩)⟩, ⟨(some 13), none, (.alc 25 [(.int .i64 0), (.int .i64 0), (.int .i64 0), (.slice none 0 0), (.slice none 0 0)])⟩, ⟨none, none, (.sta (.tmp 13) (.tmp 61) 5)⟩])
  (.seq (.seq (.reg [⟨(some 63), none, (.lda (.tmp 13) 5)⟩, ⟨(some 64), none, (.call ⟨(.value (.func 17)), (List.toArray [(.tmp 63)]), (List.toArray [25])⟩ true)⟩, ⟨(some 62), none, (.mov (.tmp 64))⟩, ⟨(some 65), none, (.pur ⟨(some 65), (.extract (.tmp 62) 0), 22, "", (List.toArray []), none⟩)⟩, ⟨(some 66), none, (.pur ⟨(some 66), (.extract (.tmp 62) 1), 28, "", (List.toArray []), none⟩)⟩, ⟨(some 14), none, (.mov (.tmp 65))⟩, ⟨(some 15), none, (.mov (.tmp 66))⟩])
  (.seq (.reg [⟨(some 67), none, (.mov (.tmp 15))⟩, ⟨(some 68), none, (.cmp .eql (.tmp 67) (.const (.int .i64 0)))⟩])
  (.cond (.tmp 68) (.seq (.seq (.reg [⟨(some 69), none, (.mov (.tmp 14))⟩, ⟨(some 70), none, (.len (.tmp 69))⟩, ⟨(some 71), none, (.mov (.tmp 3))⟩, ⟨(some 72), none, (.ari .add (.tmp 71) (.const (.int .i64 1)))⟩, ⟨(some 73), none, (.cmp .neq (.tmp 70) (.tmp 72))⟩])
  (.cond (.tmp 73) (.seq (.reg [⟨(some 10), none, (.mov (.const (.bool false)))⟩])
  .ret)
  .skip))
  (.seq (.reg [⟨(some 74), none, (.mov (.tmp 14))⟩, ⟨(some 75), none, (.len (.tmp 74))⟩, ⟨(some 76), none, (.mov (.const (.int .i64 0)))⟩])
  (.block 0 (.other (at_ Tryz.f12 [1, 1, 1, 1, 1, 0, 1, 1, 0, 1, 1, 0])))))
  (.seq (.reg [⟨(some 85), none, (.mov (.tmp 11))⟩, ⟨(some 86), none, (.mov (.tmp 4))⟩, ⟨(some 87), none, (.pur ⟨(some 87), (.convert 5 3 (.tmp 86)), 3, "", (List.toArray []), none⟩)⟩, ⟨(some 88), none, (.ari .add (.tmp 85) (.tmp 87))⟩, ⟨(some 89), none, (.cmpb .geq (.tmp 88) (.const (.int .i64 (-5000))))⟩, ⟨(some 90), none, (.mov (.tmp 89))⟩, ⟨(some 91), (some (90, true)), (.mov (.tmp 11))⟩, ⟨(some 92), (some (90, true)), (.mov (.tmp 4))⟩, ⟨(some 93), (some (90, true)), (.pur ⟨(some 93), (.convert 5 3 (.tmp 92)), 3, "", (List.toArray []), none⟩)⟩, ⟨(some 94), (some (90, true)), (.ari .add (.tmp 91) (.tmp 93))⟩, ⟨(some 95), (some (90, true)), (.cmpb .leq (.tmp 94) (.const (.int .i64 5000)))⟩, ⟨(some 96), none, (.pur ⟨(some 96), (.pick (.tmp 90) (.tmp 95) (.const (.bool false))), 4, "", (List.toArray []), none⟩)⟩, ⟨(some 97), none, (.mov (.tmp 96))⟩, ⟨(some 98), (some (97, true)), (.mov (.tmp 11))⟩, ⟨(some 99), (some (97, true)), (.mov (.tmp 4))⟩, ⟨(some 100), (some (97, true)), (.pur ⟨(some 100), (.convert 5 3 (.tmp 99)), 3, "", (List.toArray []), none⟩)⟩, ⟨(some 101), (some (97, true)), (.ari .add (.tmp 98) (.tmp 100))⟩, ⟨(some 102), (some (97, true)), (.addo (.tmp 6) 1)⟩, ⟨(some 103), (some (97, true)), (.ld (.tmp 102) 1)⟩, ⟨(some 104), (some (97, true)), (.ari .sub (.tmp 101) (.tmp 103))⟩, ⟨(some 105), (some (97, true)), (.cmpb .leq (.tmp 104) (.const (.int .i64 5000)))⟩, ⟨(some 106), none, (.pur ⟨(some 106), (.pick (.tmp 97) (.tmp 105) (.const (.bool false))), 4, "", (List.toArray []), none⟩)⟩])
  (.cond (.tmp 106) (.seq (.reg [⟨(some 10), none, (.mov (.const (.bool false)))⟩])
  .ret)
  .skip)))))
  (.seq (.reg [⟨(some 107), none, (.addo (.tmp 13) 4)⟩, ⟨(some 108), none, (.ld (.tmp 107) 1)⟩, ⟨(some 109), none, (.mov (.tmp 11))⟩, ⟨(some 110), none, (.ari .sub (.tmp 109) (.const (.int .i64 1)))⟩, ⟨(some 111), none, (.idx (.tmp 108) (.const (.int .i64 0)) 3)⟩, ⟨(some 112), none, (.addo (.tmp 111) 2)⟩, ⟨none, none, (.st (.tmp 112) (.tmp 110))⟩])
  (.seq (.reg [⟨(some 114), none, (.lda (.tmp 13) 5)⟩, ⟨(some 115), none, (.call ⟨(.value (.func 17)), (List.toArray [(.tmp 114)]), (List.toArray [25])⟩ true)⟩, ⟨(some 113), none, (.mov (.tmp 115))⟩, ⟨(some 116), none, (.pur ⟨(some 116), (.extract (.tmp 113) 0), 22, "", (List.toArray []), none⟩)⟩, ⟨(some 117), none, (.pur ⟨(some 117), (.extract (.tmp 113) 1), 28, "", (List.toArray []), none⟩)⟩, ⟨(some 18), none, (.mov (.tmp 116))⟩, ⟨(some 19), none, (.mov (.tmp 117))⟩])
  (.seq (.seq (.reg [⟨(some 118), none, (.mov (.tmp 19))⟩, ⟨(some 119), none, (.cmp .neq (.tmp 118) (.const (.int .i64 0)))⟩])
  (.cond (.tmp 119) (.seq (.reg [⟨(some 120), none, (.mov (.tmp 11))⟩, ⟨(some 121), none, (.ari .sub (.tmp 120) (.const (.int .i64 1)))⟩, ⟨(some 122), none, (.cmpb .lss (.tmp 121) (.const (.int .i64 (-5000))))⟩, ⟨(some 123), none, (.mov (.tmp 122))⟩, ⟨(some 124), (some (123, false)), (.mov (.tmp 11))⟩, ⟨(some 125), (some (123, false)), (.ari .sub (.tmp 124) (.const (.int .i64 1)))⟩, ⟨(some 126), (some (123, false)), (.cmpb .gtr (.tmp 125) (.const (.int .i64 5000)))⟩, ⟨(some 127), none, (.pur ⟨(some 127), (.pick (.tmp 123) (.const (.bool true)) (.tmp 126)), 4, "", (List.toArray []), none⟩)⟩, ⟨(some 128), none, (.mov (.tmp 127))⟩, ⟨(some 129), (some (128, false)), (.mov (.tmp 11))⟩, ⟨(some 130), (some (128, false)), (.ari .sub (.tmp 129) (.const (.int .i64 1)))⟩, ⟨(some 131), (some (128, false)), (.addo (.tmp 6) 1)⟩, ⟨(some 132), (some (128, false)), (.ld (.tmp 131) 1)⟩, ⟨(some 133), (some (128, false)), (.ari .sub (.tmp 130) (.tmp 132))⟩, ⟨(some 134), (some (128, false)), (.cmpb .gtr (.tmp 133) (.const (.int .i64 5000)))⟩, ⟨(some 135), none, (.pur ⟨(some 135), (.pick (.tmp 128) (.const (.bool true)) (.tmp 134)), 4, "", (List.toArray []), none⟩)⟩, ⟨(some 136), none, (.mov (.tmp 135))⟩, ⟨(some 137), (some (136, true)), (.call ⟨(.value (.func 16)), (List.toArray []), (List.toArray [])⟩ true)⟩, ⟨(some 138), none, (.pur ⟨(some 138), (.pick (.tmp 136) (.tmp 137) (.const (.bool false))), 4, "", (List.toArray []), none⟩)⟩, ⟨(some 10), none, (.mov (.tmp 138))⟩])
  .ret)
  .skip))
  (.seq (.reg [⟨(some 139), none, (.mov (.tmp 18))⟩, ⟨(some 140), none, (.len (.tmp 139))⟩, ⟨(some 141), none, (.mov (.tmp 3))⟩, ⟨(some 142), none, (.ari .add (.tmp 141) (.const (.int .i64 1)))⟩, ⟨(some 143), none, (.cmpb .eql (.tmp 140) (.tmp 142))⟩, ⟨(some 144), none, (.mov (.tmp 143))⟩, ⟨(some 145), (some (144, true)), (.mov (.tmp 18))⟩, ⟨(some 146), (some (144, true)), (.mov (.tmp 3))⟩, ⟨(some 147), (some (144, true)), (.idx (.tmp 145) (.tmp 146) 2)⟩, ⟨(some 148), (some (144, true)), (.addo (.tmp 147) 0)⟩, ⟨(some 149), (some (144, true)), (.ld (.tmp 148) 1)⟩, ⟨(some 150), (some (144, true)), (.mov (.tmp 0))⟩, ⟨(some 151), (some (144, true)), (.cmpb .leq (.tmp 149) (.tmp 150))⟩, ⟨(some 152), none, (.pur ⟨(some 152), (.pick (.tmp 144) (.tmp 151) (.const (.bool false))), 4, "", (List.toArray []), none⟩)⟩, ⟨(some 153), none, (.mov (.tmp 152))⟩, ⟨(some 154), (some (153, true)), (.call ⟨(.value (.func 16)), (List.toArray []), (List.toArray [])⟩ true)⟩, ⟨(some 155), none, (.pur ⟨(some 155), (.pick (.tmp 153) (.tmp 154) (.const (.bool false))), 4, "", (List.toArray []), none⟩)⟩, ⟨(some 10), none, (.mov (.tmp 155))⟩])
  .ret))))))))))
theorem L12 : low Tryz.prog Tryz.f12.ntmps (at_ Tryz.f12 []) = some R12 := by kernel_rfl
theorem E12_1 : at_ Tryz.f12 [1, 1, 1, 1, 1, 0, 1, 1, 0, 1, 1, 0] = .loop (at_ Tryz.f12 [1, 1, 1, 1, 1, 0, 1, 1, 0, 1, 1, 0, 0]) := by kernel_rfl
noncomputable def R12x1 : RC := (.seq (.reg [⟨(some 77), none, (.cmp .lss (.tmp 76) (.tmp 75))⟩])
  (.seq (.cond (.tmp 77) .skip
  (.exit 0))
  (.seq (.block 1 (.seq (.reg [⟨(some 78), none, (.idx (.tmp 74) (.tmp 76) 2)⟩, ⟨(some 79), none, (.lda (.tmp 78) 2)⟩, ⟨(some 17), none, (.alc 48 [(.int .i64 0), (.int .i64 0)])⟩, ⟨none, none, (.sta (.tmp 17) (.tmp 79) 2)⟩])
  (.seq (.reg [⟨(some 80), none, (.addo (.tmp 17) 0)⟩, ⟨(some 81), none, (.ld (.tmp 80) 1)⟩, ⟨(some 82), none, (.mov (.tmp 0))⟩, ⟨(some 83), none, (.cmp .leq (.tmp 81) (.tmp 82))⟩])
  (.cond (.tmp 83) (.seq (.reg [⟨(some 10), none, (.mov (.const (.bool false)))⟩])
  .ret)
  .skip))))
  (.reg [⟨(some 84), none, (.ari .add (.tmp 76) (.const (.int .i64 1)))⟩, ⟨(some 76), none, (.mov (.tmp 84))⟩]))))
theorem L12x1 : low Tryz.prog Tryz.f12.ntmps (at_ Tryz.f12 [1, 1, 1, 1, 1, 0, 1, 1, 0, 1, 1, 0, 0]) = some R12x1 := by kernel_rfl

noncomputable def R12v : RC := (.seq (.reg [⟨(some 6), none, (.box 48 (.tmp 1))⟩, ⟨(some 10), none, (.mov (.const (.bool false)))⟩])
  (.seq (.reg [⟨(some 21), none, (.mov (.tmp 0))⟩, ⟨(some 22), none, (.lda (.tmp 6) 2)⟩, ⟨(some 23), none, (.mov (.tmp 2))⟩, ⟨(some 24), none, (.mov (.tmp 3))⟩, ⟨(some 25), none, (.call ⟨(.value (.func 27)), (List.toArray [(.tmp 21), (.tmp 22), (.tmp 23), (.tmp 24)]), (List.toArray [3, 48, 3, 3])⟩ true)⟩, ⟨(some 20), none, (.mov (.tmp 25))⟩, ⟨(some 26), none, (.pur ⟨(some 26), (.extract (.tmp 20) 0), 3, "", (List.toArray []), none⟩)⟩, ⟨(some 27), none, (.pur ⟨(some 27), (.extract (.tmp 20) 1), 28, "", (List.toArray []), none⟩)⟩, ⟨(some 11), none, (.mov (.tmp 26))⟩, ⟨(some 12), none, (.mov (.tmp 27))⟩])
  (.seq (.seq (.reg [⟨(some 28), none, (.mov (.tmp 12))⟩, ⟨(some 29), none, (.cmp .neq (.tmp 28) (.const (.int .i64 0)))⟩])
  (.cond (.tmp 29) (.seq (.reg [⟨(some 30), none, (.mov (.tmp 11))⟩, ⟨(some 31), none, (.cmpb .eql (.tmp 30) (.const (.int .i64 0)))⟩, ⟨(some 32), none, (.mov (.tmp 31))⟩, ⟨(some 33), (some (32, true)), (.mov (.tmp 12))⟩, ⟨(some 34), (some (32, true)), (.cmpb .eql (.tmp 33) (.const (.int .i64 2)))⟩, ⟨(some 35), none, (.pur ⟨(some 35), (.pick (.tmp 32) (.tmp 34) (.const (.bool false))), 4, "", (List.toArray []), none⟩)⟩, ⟨(some 36), none, (.mov (.tmp 35))⟩, ⟨(some 37), (some (36, true)), (.call ⟨(.value (.func 16)), (List.toArray []), (List.toArray [])⟩ true)⟩, ⟨(some 38), none, (.pur ⟨(some 38), (.pick (.tmp 36) (.tmp 37) (.const (.bool false))), 4, "", (List.toArray []), none⟩)⟩, ⟨(some 10), none, (.mov (.tmp 38))⟩])
  .ret)
  .skip))
  (.seq (.seq (.reg [⟨(some 39), none, (.mov (.tmp 3))⟩, ⟨(some 40), none, (.cmpb .lss (.tmp 39) (.const (.int .i64 0)))⟩, ⟨(some 41), none, (.mov (.tmp 40))⟩, ⟨(some 42), (some (41, false)), (.mov (.tmp 3))⟩, ⟨(some 43), (some (41, false)), (.cmpb .geq (.tmp 42) (.const (.int .i64 96)))⟩, ⟨(some 44), none, (.pur ⟨(some 44), (.pick (.tmp 41) (.const (.bool true)) (.tmp 43)), 4, "", (List.toArray []), none⟩)⟩])
  (.cond (.tmp 44) (.seq (.reg [⟨(some 45), none, (.mov (.tmp 3))⟩, ⟨(some 46), none, (.cmpb .eql (.tmp 45) (.const (.int .i64 96)))⟩, ⟨(some 47), none, (.mov (.tmp 46))⟩, ⟨(some 48), (some (47, true)), (.call ⟨(.value (.func 16)), (List.toArray []), (List.toArray [])⟩ true)⟩, ⟨(some 49), none, (.pur ⟨(some 49), (.pick (.tmp 47) (.tmp 48) (.const (.bool false))), 4, "", (List.toArray []), none⟩)⟩, ⟨(some 10), none, (.mov (.tmp 49))⟩])
  .ret)
  .skip))
  (.seq (.reg [⟨(some 50), none, (.mov (.tmp 3))⟩, ⟨(some 51), none, (.ari .add (.tmp 50) (.const (.int .i64 1)))⟩, ⟨(some 52), none, (.mov (.tmp 2))⟩, ⟨(some 53), none, (.lda (.tmp 6) 2)⟩, ⟨(some 54), none, (.mem ⟨(some 54), (.buildSlice 22 1 (List.toArray [(0, (.tmp 53))])), 22, "", (List.toArray []), none⟩)⟩, ⟨(some 55), none, (.mov (.tmp 11))⟩, ⟨(some 56), none, (.mov (.tmp 4))⟩, ⟨(some 57), none, (.pur ⟨(some 57), (.convert 5 3 (.tmp 56)), 3, "", (List.toArray []), none⟩)⟩, ⟨(some 58), none, (.ari .add (.tmp 55) (.tmp 57))⟩, ⟨(some 59), none, (.pur ⟨(some 59), (.build 57 (List.toArray [(2, (.tmp 58))])), 57, "", (List.toArray []), none⟩)⟩, ⟨(some 60), none, (.mem ⟨(some 60), (.buildSlice 23 1 (List.toArray [(0, (.tmp 59))])), 23, "", (List.toArray []), none⟩)⟩, ⟨(some 61), none, (.pur ⟨(some 61), (.build 25 (List.toArray [(0, (.tmp 51)), (1, (.tmp 52)), (2, (.const (.int .i64 10))), (3, (.tmp 54)), (4, (.tmp 60))])), 25, "", (List.toArray []), none⟩)⟩, ⟨(some 13), none, (.alc 25 [(.int .i64 0), (.int .i64 0), (.int .i64 0), (.slice none 0 0), (.slice none 0 0)])⟩, ⟨none, none, (.sta (.tmp 13) (.tmp 61) 5)⟩])
  (.seq (.seq (.reg [⟨(some 63), none, (.lda (.tmp 13) 5)⟩, ⟨(some 64), none, (.call ⟨(.value (.func 17)), (List.toArray [(.tmp 63)]), (List.toArray [25])⟩ true)⟩, ⟨(some 62), none, (.mov (.tmp 64))⟩, ⟨(some 65), none, (.pur ⟨(some 65), (.extract (.tmp 62) 0), 22, "", (List.toArray []), none⟩)⟩, ⟨(some 66), none, (.pur ⟨(some 66), (.extract (.tmp 62) 1), 28, "", (List.toArray []), none⟩)⟩, ⟨(some 14), none, (.mov (.tmp 65))⟩, ⟨(some 15), none, (.mov (.tmp 66))⟩])
  (.seq (.reg [⟨(some 67), none, (.mov (.tmp 15))⟩, ⟨(some 68), none, (.cmp .eql (.tmp 67) (.const (.int .i64 0)))⟩])
  (.cond (.tmp 68) (.seq (.seq (.reg [⟨(some 69), none, (.mov (.tmp 14))⟩, ⟨(some 70), none, (.len (.tmp 69))⟩, ⟨(some 71), none, (.mov (.tmp 3))⟩, ⟨(some 72), none, (.ari .add (.tmp 71) (.const (.int .i64 1)))⟩, ⟨(some 73), none, (.cmp .neq (.tmp 70) (.tmp 72))⟩])
  (.cond (.tmp 73) (.seq (.reg [⟨(some 10), none, (.mov (.const (.bool false)))⟩])
  .ret)
  .skip))
  (.seq (.reg [⟨(some 74), none, (.mov (.tmp 14))⟩, ⟨(some 75), none, (.len (.tmp 74))⟩, ⟨(some 76), none, (.mov (.const (.int .i64 0)))⟩])
  (.block 0 (.other (at_ Tryz.f12 [1, 1, 1, 1, 1, 0, 1, 1, 0, 1, 1, 0])))))
  (.seq (.reg [⟨(some 85), none, (.mov (.tmp 11))⟩, ⟨(some 86), none, (.mov (.tmp 4))⟩, ⟨(some 87), none, (.pur ⟨(some 87), (.convert 5 3 (.tmp 86)), 3, "", (List.toArray []), none⟩)⟩, ⟨(some 88), none, (.ari .add (.tmp 85) (.tmp 87))⟩, ⟨(some 89), none, (.cmpb .geq (.tmp 88) (.const (.int .i64 (-5000))))⟩, ⟨(some 90), none, (.mov (.tmp 89))⟩, ⟨(some 91), (some (90, true)), (.mov (.tmp 11))⟩, ⟨(some 92), (some (90, true)), (.mov (.tmp 4))⟩, ⟨(some 93), (some (90, true)), (.pur ⟨(some 93), (.convert 5 3 (.tmp 92)), 3, "", (List.toArray []), none⟩)⟩, ⟨(some 94), (some (90, true)), (.ari .add (.tmp 91) (.tmp 93))⟩, ⟨(some 95), (some (90, true)), (.cmpb .leq (.tmp 94) (.const (.int .i64 5000)))⟩, ⟨(some 96), none, (.pur ⟨(some 96), (.pick (.tmp 90) (.tmp 95) (.const (.bool false))), 4, "", (List.toArray []), none⟩)⟩, ⟨(some 97), none, (.mov (.tmp 96))⟩, ⟨(some 98), (some (97, true)), (.mov (.tmp 11))⟩, ⟨(some 99), (some (97, true)), (.mov (.tmp 4))⟩, ⟨(some 100), (some (97, true)), (.pur ⟨(some 100), (.convert 5 3 (.tmp 99)), 3, "", (List.toArray []), none⟩)⟩, ⟨(some 101), (some (97, true)), (.ari .add (.tmp 98) (.tmp 100))⟩, ⟨(some 102), (some (97, true)), (.addo (.tmp 6) 1)⟩, ⟨(some 103), (some (97, true)), (.ld (.tmp 102) 1)⟩, ⟨(some 104), (some (97, true)), (.ari .sub (.tmp 101) (.tmp 103))⟩, ⟨(some 105), (some (97, true)), (.cmpb .leq (.tmp 104) (.const (.int .i64 5000)))⟩, ⟨(some 106), none, (.pur ⟨(some 106), (.pick (.tmp 97) (.tmp 105) (.const (.bool false))), 4, "", (List.toArray []), none⟩)⟩])
  (.cond (.tmp 106) (.seq (.reg [⟨(some 10), none, (.mov (.const (.bool false)))⟩])
  .ret)
  .skip)))))
  (.other (at_ Tryz.f12 [1, 1, 1, 1, 1, 1]))))))))
theorem V12 : LV Tryz.prog 156 (at_ Tryz.f12 []) R12v := by
  have e : at_ Tryz.f12 [] = (.seq (at_ Tryz.f12 [0]) (.seq (at_ Tryz.f12 [1, 0]) (.seq (at_ Tryz.f12 [1, 1, 0]) (.seq (at_ Tryz.f12 [1, 1, 1, 0]) (.seq (at_ Tryz.f12 [1, 1, 1, 1, 0]) (.seq (at_ Tryz.f12 [1, 1, 1, 1, 1, 0]) (at_ Tryz.f12 [1, 1, 1, 1, 1, 1]))))))) := by kernel_rfl
  rw [e]
  exact (.seq (.low (by kernel_rfl)) (.seq (.low (by kernel_rfl)) (.seq (.low (by kernel_rfl)) (.seq (.low (by kernel_rfl)) (.seq (.low (by kernel_rfl)) (.seq (.low (by kernel_rfl)) (.other _)))))))
noncomputable def R12r : RC := (.seq (.reg [⟨(some 107), none, (.addo (.tmp 13) 4)⟩, ⟨(some 108), none, (.ld (.tmp 107) 1)⟩, ⟨(some 109), none, (.mov (.tmp 11))⟩, ⟨(some 110), none, (.ari .sub (.tmp 109) (.const (.int .i64 1)))⟩, ⟨(some 111), none, (.idx (.tmp 108) (.const (.int .i64 0)) 3)⟩, ⟨(some 112), none, (.addo (.tmp 111) 2)⟩, ⟨none, none, (.st (.tmp 112) (.tmp 110))⟩])
  (.seq (.reg [⟨(some 114), none, (.lda (.tmp 13) 5)⟩, ⟨(some 115), none, (.call ⟨(.value (.func 17)), (List.toArray [(.tmp 114)]), (List.toArray [25])⟩ true)⟩, ⟨(some 113), none, (.mov (.tmp 115))⟩, ⟨(some 116), none, (.pur ⟨(some 116), (.extract (.tmp 113) 0), 22, "", (List.toArray []), none⟩)⟩, ⟨(some 117), none, (.pur ⟨(some 117), (.extract (.tmp 113) 1), 28, "", (List.toArray []), none⟩)⟩, ⟨(some 18), none, (.mov (.tmp 116))⟩, ⟨(some 19), none, (.mov (.tmp 117))⟩])
  (.seq (.seq (.reg [⟨(some 118), none, (.mov (.tmp 19))⟩, ⟨(some 119), none, (.cmp .neq (.tmp 118) (.const (.int .i64 0)))⟩])
  (.cond (.tmp 119) (.seq (.reg [⟨(some 120), none, (.mov (.tmp 11))⟩, ⟨(some 121), none, (.ari .sub (.tmp 120) (.const (.int .i64 1)))⟩, ⟨(some 122), none, (.cmpb .lss (.tmp 121) (.const (.int .i64 (-5000))))⟩, ⟨(some 123), none, (.mov (.tmp 122))⟩, ⟨(some 124), (some (123, false)), (.mov (.tmp 11))⟩, ⟨(some 125), (some (123, false)), (.ari .sub (.tmp 124) (.const (.int .i64 1)))⟩, ⟨(some 126), (some (123, false)), (.cmpb .gtr (.tmp 125) (.const (.int .i64 5000)))⟩, ⟨(some 127), none, (.pur ⟨(some 127), (.pick (.tmp 123) (.const (.bool true)) (.tmp 126)), 4, "", (List.toArray []), none⟩)⟩, ⟨(some 128), none, (.mov (.tmp 127))⟩, ⟨(some 129), (some (128, false)), (.mov (.tmp 11))⟩, ⟨(some 130), (some (128, false)), (.ari .sub (.tmp 129) (.const (.int .i64 1)))⟩, ⟨(some 131), (some (128, false)), (.addo (.tmp 6) 1)⟩, ⟨(some 132), (some (128, false)), (.ld (.tmp 131) 1)⟩, ⟨(some 133), (some (128, false)), (.ari .sub (.tmp 130) (.tmp 132))⟩, ⟨(some 134), (some (128, false)), (.cmpb .gtr (.tmp 133) (.const (.int .i64 5000)))⟩, ⟨(some 135), none, (.pur ⟨(some 135), (.pick (.tmp 128) (.const (.bool true)) (.tmp 134)), 4, "", (List.toArray []), none⟩)⟩, ⟨(some 136), none, (.mov (.tmp 135))⟩, ⟨(some 137), (some (136, true)), (.call ⟨(.value (.func 16)), (List.toArray []), (List.toArray [])⟩ true)⟩, ⟨(some 138), none, (.pur ⟨(some 138), (.pick (.tmp 136) (.tmp 137) (.const (.bool false))), 4, "", (List.toArray []), none⟩)⟩, ⟨(some 10), none, (.mov (.tmp 138))⟩])
  .ret)
  .skip))
  (.seq (.reg [⟨(some 139), none, (.mov (.tmp 18))⟩, ⟨(some 140), none, (.len (.tmp 139))⟩, ⟨(some 141), none, (.mov (.tmp 3))⟩, ⟨(some 142), none, (.ari .add (.tmp 141) (.const (.int .i64 1)))⟩, ⟨(some 143), none, (.cmpb .eql (.tmp 140) (.tmp 142))⟩, ⟨(some 144), none, (.mov (.tmp 143))⟩, ⟨(some 145), (some (144, true)), (.mov (.tmp 18))⟩, ⟨(some 146), (some (144, true)), (.mov (.tmp 3))⟩, ⟨(some 147), (some (144, true)), (.idx (.tmp 145) (.tmp 146) 2)⟩, ⟨(some 148), (some (144, true)), (.addo (.tmp 147) 0)⟩, ⟨(some 149), (some (144, true)), (.ld (.tmp 148) 1)⟩, ⟨(some 150), (some (144, true)), (.mov (.tmp 0))⟩, ⟨(some 151), (some (144, true)), (.cmpb .leq (.tmp 149) (.tmp 150))⟩, ⟨(some 152), none, (.pur ⟨(some 152), (.pick (.tmp 144) (.tmp 151) (.const (.bool false))), 4, "", (List.toArray []), none⟩)⟩, ⟨(some 153), none, (.mov (.tmp 152))⟩, ⟨(some 154), (some (153, true)), (.call ⟨(.value (.func 16)), (List.toArray []), (List.toArray [])⟩ true)⟩, ⟨(some 155), none, (.pur ⟨(some 155), (.pick (.tmp 153) (.tmp 154) (.const (.bool false))), 4, "", (List.toArray []), none⟩)⟩, ⟨(some 10), none, (.mov (.tmp 155))⟩])
  .ret))))
theorem L12r : low Tryz.prog 156 (at_ Tryz.f12 [1, 1, 1, 1, 1, 1]) = some R12r := by kernel_rfl
end Go.Ax
/-! What 'low' makes of FrostEnds and what it calls (written by program). -/
namespace Go.Ax
open Go Go.RowKit Go.Proofs
theorem N15 : Tryz.f15.ntmps = 33 := by kernel_rfl
theorem Z15 : Tryz.f15.results.toList = ((List.toArray [(.tmp 6)]) : Array ResultVar).toList := by kernel_rfl
theorem B15 : Tryz.f15.body = some (at_ Tryz.f15 []) := by kernel_rfl
noncomputable def R15 : RC := (.seq (.reg [⟨(some 3), none, (.box 25 (.tmp 0))⟩, ⟨(some 6), none, (.mov (.const (.bool false)))⟩])
  (.seq (.reg [⟨(some 7), none, (.addo (.tmp 3) 3)⟩, ⟨(some 8), none, (.ld (.tmp 7) 1)⟩, ⟨(some 9), none, (.len (.tmp 8))⟩, ⟨(some 10), none, (.cmpb .gtr (.tmp 9) (.const (.int .i64 20)))⟩, ⟨(some 11), none, (.mov (.tmp 10))⟩, ⟨(some 12), (some (11, false)), (.addo (.tmp 3) 4)⟩, ⟨(some 13), (some (11, false)), (.ld (.tmp 12) 1)⟩, ⟨(some 14), (some (11, false)), (.len (.tmp 13))⟩, ⟨(some 15), (some (11, false)), (.cmpb .gtr (.tmp 14) (.const (.int .i64 140)))⟩, ⟨(some 16), none, (.pur ⟨(some 16), (.pick (.tmp 11) (.const (.bool true)) (.tmp 15)), 4, "", (List.toArray []), none⟩)⟩, ⟨(some 17), none, (.mov (.tmp 16))⟩, ⟨(some 18), (some (17, false)), (.mov (.tmp 1))⟩, ⟨(some 19), (some (17, false)), (.len (.tmp 18))⟩, ⟨(some 20), (some (17, false)), (.mov (.tmp 2))⟩, ⟨(some 21), (some (17, false)), (.cmpb .gtr (.tmp 19) (.tmp 20))⟩, ⟨(some 22), (some (17, false)), (.mov (.tmp 21))⟩, ⟨(some 23), (some (22, true)), (.mov (.tmp 1))⟩, ⟨(some 24), (some (22, true)), (.len (.tmp 23))⟩, ⟨(some 25), (some (22, true)), (.cmpb .leq (.tmp 24) (.const (.int .i64 12)))⟩, ⟨(some 26), (some (17, false)), (.pur ⟨(some 26), (.pick (.tmp 22) (.tmp 25) (.const (.bool false))), 4, "", (List.toArray []), none⟩)⟩, ⟨(some 27), none, (.pur ⟨(some 27), (.pick (.tmp 17) (.const (.bool true)) (.tmp 26)), 4, "", (List.toArray []), none⟩)⟩, ⟨(some 28), none, (.mov (.tmp 27))⟩, ⟨(some 29), (some (28, false)), (.mov (.tmp 1))⟩, ⟨(some 30), (some (28, false)), (.len (.tmp 29))⟩, ⟨(some 31), (some (28, false)), (.cmpb .gtr (.tmp 30) (.const (.int .i64 16)))⟩, ⟨(some 32), none, (.pur ⟨(some 32), (.pick (.tmp 28) (.const (.bool true)) (.tmp 31)), 4, "", (List.toArray []), none⟩)⟩, ⟨(some 6), none, (.mov (.tmp 32))⟩])
  .ret))
theorem L15 : low Tryz.prog Tryz.f15.ntmps (at_ Tryz.f15 []) = some R15 := by kernel_rfl
theorem N32 : Tryz.f32.ntmps = 83 := by kernel_rfl
theorem Z32 : Tryz.f32.results.toList = ((List.toArray [(.tmp 2)]) : Array ResultVar).toList := by kernel_rfl
theorem B32 : Tryz.f32.body = some (at_ Tryz.f32 []) := by kernel_rfl
noncomputable def R32 : RC := (.seq (.reg [⟨(some 1), none, (.box 25 (.tmp 0))⟩, ⟨(some 2), none, (.mov (.const (.bool false)))⟩])
  (.seq (.seq (.reg [⟨(some 6), none, (.addo (.tmp 1) 0)⟩, ⟨(some 7), none, (.ld (.tmp 6) 1)⟩, ⟨(some 8), none, (.call ⟨(.value (.func 45)), (List.toArray [(.tmp 7), (.const (.int .i64 1)), (.const (.int .i64 96))]), (List.toArray [3, 3, 3])⟩ true)⟩, ⟨(some 9), none, (.pur ⟨(some 9), (.unOp .not 4 (.tmp 8)), 4, "", (List.toArray []), none⟩)⟩, ⟨(some 10), none, (.mov (.tmp 9))⟩, ⟨(some 11), (some (10, false)), (.addo (.tmp 1) 1)⟩, ⟨(some 12), (some (10, false)), (.ld (.tmp 11) 1)⟩, ⟨(some 13), (some (10, false)), (.call ⟨(.value (.func 45)), (List.toArray [(.tmp 12), (.const (.int .i64 0)), (.const (.int .i64 1000))]), (List.toArray [3, 3, 3])⟩ true)⟩, ⟨(some 14), (some (10, false)), (.pur ⟨(some 14), (.unOp .not 4 (.tmp 13)), 4, "", (List.toArray []), none⟩)⟩, ⟨(some 15), none, (.pur ⟨(some 15), (.pick (.tmp 10) (.const (.bool true)) (.tmp 14)), 4, "", (List.toArray []), none⟩)⟩, ⟨(some 16), none, (.mov (.tmp 15))⟩, ⟨(some 17), (some (16, false)), (.addo (.tmp 1) 2)⟩, ⟨(some 18), (some (16, false)), (.ld (.tmp 17) 1)⟩, ⟨(some 19), (some (16, false)), (.call ⟨(.value (.func 45)), (List.toArray [(.tmp 18), (.const (.int .i64 0)), (.const (.int .i64 1000))]), (List.toArray [3, 3, 3])⟩ true)⟩, ⟨(some 20), (some (16, false)), (.pur ⟨(some 20), (.unOp .not 4 (.tmp 19)), 4, "", (List.toArray []), none⟩)⟩, ⟨(some 21), none, (.pur ⟨(some 21), (.pick (.tmp 16) (.const (.bool true)) (.tmp 20)), 4, "", (List.toArray []), none⟩)⟩, ⟨(some 22), none, (.mov (.tmp 21))⟩, ⟨(some 23), (some (22, false)), (.addo (.tmp 1) 3)⟩, ⟨(some 24), (some (22, false)), (.ld (.tmp 23) 1)⟩, ⟨(some 25), (some (22, false)), (.len (.tmp 24))⟩, ⟨(some 26), (some (22, false)), (.cmpb .gtr (.tmp 25) (.const (.int .i64 8)))⟩, ⟨(some 27), none, (.pur ⟨(some 27), (.pick (.tmp 22) (.const (.bool true)) (.tmp 26)), 4, "", (List.toArray []), none⟩)⟩, ⟨(some 28), none, (.mov (.tmp 27))⟩, ⟨(some 29), (some (28, false)), (.addo (.tmp 1) 4)⟩, ⟨(some 30), (some (28, false)), (.ld (.tmp 29) 1)⟩, ⟨(some 31), (some (28, false)), (.len (.tmp 30))⟩, ⟨(some 32), (some (28, false)), (.cmpb .gtr (.tmp 31) (.const (.int .i64 128)))⟩, ⟨(some 33), none, (.pur ⟨(some 33), (.pick (.tmp 28) (.const (.bool true)) (.tmp 32)), 4, "", (List.toArray []), none⟩)⟩])
  (.cond (.tmp 33) (.seq (.reg [⟨(some 2), none, (.mov (.const (.bool false)))⟩])
  .ret)
  .skip))
  (.seq (.seq (.reg [⟨(some 3), none, (.mov (.const (.int .i64 0)))⟩])
  (.block 0 (.other (at_ Tryz.f32 [1, 1, 0, 1, 0]))))
  (.seq (.seq (.reg [⟨(some 4), none, (.mov (.const (.int .i64 0)))⟩])
  (.block 2 (.other (at_ Tryz.f32 [1, 1, 1, 0, 1, 0]))))
  (.seq (.reg [⟨(some 2), none, (.mov (.const (.bool true)))⟩])
  .ret)))))
theorem L32 : low Tryz.prog Tryz.f32.ntmps (at_ Tryz.f32 []) = some R32 := by kernel_rfl
theorem E32_1 : at_ Tryz.f32 [1, 1, 0, 1, 0] = .loop (at_ Tryz.f32 [1, 1, 0, 1, 0, 0]) := by kernel_rfl
noncomputable def R32x1 : RC := (.seq (.seq (.reg [⟨(some 34), none, (.mov (.tmp 3))⟩, ⟨(some 35), none, (.addo (.tmp 1) 3)⟩, ⟨(some 36), none, (.ld (.tmp 35) 1)⟩, ⟨(some 37), none, (.len (.tmp 36))⟩, ⟨(some 38), none, (.cmp .lss (.tmp 34) (.tmp 37))⟩])
  (.cond (.tmp 38) .skip
  (.exit 0)))
  (.seq (.block 1 (.seq (.reg [⟨(some 41), none, (.addo (.tmp 1) 3)⟩, ⟨(some 42), none, (.ld (.tmp 41) 1)⟩, ⟨(some 43), none, (.mov (.tmp 3))⟩, ⟨(some 44), none, (.idx (.tmp 42) (.tmp 43) 2)⟩, ⟨(some 45), none, (.lda (.tmp 44) 2)⟩, ⟨(some 46), none, (.call ⟨(.value (.func 60)), (List.toArray [(.tmp 45), (.const (.int .i64 (-1000))), (.const (.int .i64 1000))]), (List.toArray [48, 3, 3])⟩ true)⟩, ⟨(some 47), none, (.pur ⟨(some 47), (.unOp .not 4 (.tmp 46)), 4, "", (List.toArray []), none⟩)⟩])
  (.cond (.tmp 47) (.seq (.reg [⟨(some 2), none, (.mov (.const (.bool false)))⟩])
  .ret)
  .skip)))
  (.reg [⟨(some 39), none, (.mov (.tmp 3))⟩, ⟨(some 40), none, (.ari .add (.tmp 39) (.const (.int .i64 1)))⟩, ⟨(some 3), none, (.mov (.tmp 40))⟩])))
theorem L32x1 : low Tryz.prog Tryz.f32.ntmps (at_ Tryz.f32 [1, 1, 0, 1, 0, 0]) = some R32x1 := by kernel_rfl
theorem E32_2 : at_ Tryz.f32 [1, 1, 1, 0, 1, 0] = .loop (at_ Tryz.f32 [1, 1, 1, 0, 1, 0, 0]) := by kernel_rfl
noncomputable def R32x2 : RC := (.seq (.seq (.reg [⟨(some 48), none, (.mov (.tmp 4))⟩, ⟨(some 49), none, (.addo (.tmp 1) 4)⟩, ⟨(some 50), none, (.ld (.tmp 49) 1)⟩, ⟨(some 51), none, (.len (.tmp 50))⟩, ⟨(some 52), none, (.cmp .lss (.tmp 48) (.tmp 51))⟩])
  (.cond (.tmp 52) .skip
  (.exit 2)))
  (.seq (.block 3 (.seq (.reg [⟨(some 55), none, (.addo (.tmp 1) 4)⟩, ⟨(some 56), none, (.ld (.tmp 55) 1)⟩, ⟨(some 57), none, (.mov (.tmp 4))⟩, ⟨(some 58), none, (.idx (.tmp 56) (.tmp 57) 3)⟩, ⟨(some 59), none, (.lda (.tmp 58) 3)⟩, ⟨(some 5), none, (.alc 57 [(.int .i64 0), (.int .i64 0), (.int .i64 0)])⟩, ⟨none, none, (.sta (.tmp 5) (.tmp 59) 3)⟩])
  (.seq (.reg [⟨(some 60), none, (.addo (.tmp 5) 0)⟩, ⟨(some 61), none, (.ld (.tmp 60) 1)⟩, ⟨(some 62), none, (.addo (.tmp 1) 3)⟩, ⟨(some 63), none, (.ld (.tmp 62) 1)⟩, ⟨(some 64), none, (.len (.tmp 63))⟩, ⟨(some 65), none, (.ari .sub (.tmp 64) (.const (.int .i64 1)))⟩, ⟨(some 66), none, (.call ⟨(.value (.func 45)), (List.toArray [(.tmp 61), (.const (.int .i64 0)), (.tmp 65)]), (List.toArray [3, 3, 3])⟩ true)⟩, ⟨(some 67), none, (.pur ⟨(some 67), (.unOp .not 4 (.tmp 66)), 4, "", (List.toArray []), none⟩)⟩, ⟨(some 68), none, (.mov (.tmp 67))⟩, ⟨(some 69), (some (68, false)), (.addo (.tmp 5) 1)⟩, ⟨(some 70), (some (68, false)), (.ld (.tmp 69) 1)⟩, ⟨(some 71), (some (68, false)), (.addo (.tmp 1) 0)⟩, ⟨(some 72), (some (68, false)), (.ld (.tmp 71) 1)⟩, ⟨(some 73), (some (68, false)), (.ari .sub (.tmp 72) (.const (.int .i64 1)))⟩, ⟨(some 74), (some (68, false)), (.call ⟨(.value (.func 45)), (List.toArray [(.tmp 70), (.const (.int .i64 0)), (.tmp 73)]), (List.toArray [3, 3, 3])⟩ true)⟩, ⟨(some 75), (some (68, false)), (.pur ⟨(some 75), (.unOp .not 4 (.tmp 74)), 4, "", (List.toArray []), none⟩)⟩, ⟨(some 76), none, (.pur ⟨(some 76), (.pick (.tmp 68) (.const (.bool true)) (.tmp 75)), 4, "", (List.toArray []), none⟩)⟩, ⟨(some 77), none, (.mov (.tmp 76))⟩, ⟨(some 78), (some (77, false)), (.addo (.tmp 5) 2)⟩, ⟨(some 79), (some (77, false)), (.ld (.tmp 78) 1)⟩, ⟨(some 80), (some (77, false)), (.call ⟨(.value (.func 45)), (List.toArray [(.tmp 79), (.const (.int .i64 (-5000))), (.const (.int .i64 5000))]), (List.toArray [3, 3, 3])⟩ true)⟩, ⟨(some 81), (some (77, false)), (.pur ⟨(some 81), (.unOp .not 4 (.tmp 80)), 4, "", (List.toArray []), none⟩)⟩, ⟨(some 82), none, (.pur ⟨(some 82), (.pick (.tmp 77) (.const (.bool true)) (.tmp 81)), 4, "", (List.toArray []), none⟩)⟩])
  (.cond (.tmp 82) (.seq (.reg [⟨(some 2), none, (.mov (.const (.bool false)))⟩])
  .ret)
  .skip))))
  (.reg [⟨(some 53), none, (.mov (.tmp 4))⟩, ⟨(some 54), none, (.ari .add (.tmp 53) (.const (.int .i64 1)))⟩, ⟨(some 4), none, (.mov (.tmp 54))⟩])))
theorem L32x2 : low Tryz.prog Tryz.f32.ntmps (at_ Tryz.f32 [1, 1, 1, 0, 1, 0, 0]) = some R32x2 := by kernel_rfl
theorem N8 : Tryz.f8.ntmps = 270 := by kernel_rfl
theorem Z8 : Tryz.f8.results.toList = ((List.toArray [(.tmp 2)]) : Array ResultVar).toList := by kernel_rfl
theorem B8 : Tryz.f8.body = some (at_ Tryz.f8 []) := by kernel_rfl
noncomputable def R8 : RC := (.seq (.reg [⟨(some 1), none, (.box 25 (.tmp 0))⟩, ⟨(some 2), none, (.mov (.const (.bool false)))⟩])
  (.seq (.seq (.reg [⟨(some 19), none, (.lda (.tmp 1) 5)⟩, ⟨(some 20), none, (.call ⟨(.value (.func 15)), (List.toArray [(.tmp 19), (.const (.slice none 0 0)), (.const (.int .i64 0))]), (List.toArray [25, 35, 3])⟩ true)⟩])
  (.cond (.tmp 20) (.seq (.reg [⟨(some 21), none, (.call ⟨(.value (.func 16)), (List.toArray []), (List.toArray [])⟩ true)⟩, ⟨(some 2), none, (.mov (.tmp 21))⟩])
  .ret)
  .skip))
  (.seq (.reg [⟨(some 23), none, (.lda (.tmp 1) 5)⟩, ⟨(some 24), none, (.call ⟨(.value (.func 17)), (List.toArray [(.tmp 23)]), (List.toArray [25])⟩ true)⟩, ⟨(some 22), none, (.mov (.tmp 24))⟩, ⟨(some 25), none, (.pur ⟨(some 25), (.extract (.tmp 22) 0), 22, "", (List.toArray []), none⟩)⟩, ⟨(some 26), none, (.pur ⟨(some 26), (.extract (.tmp 22) 1), 28, "", (List.toArray []), none⟩)⟩, ⟨(some 3), none, (.mov (.tmp 25))⟩, ⟨(some 4), none, (.mov (.tmp 26))⟩])
  (.seq (.seq (.reg [⟨(some 27), none, (.mov (.tmp 4))⟩, ⟨(some 28), none, (.cmp .neq (.tmp 27) (.const (.int .i64 0)))⟩])
  (.cond (.tmp 28) (.seq (.seq (.reg [⟨(some 29), none, (.mov (.tmp 4))⟩, ⟨(some 30), none, (.cmp .neq (.tmp 29) (.const (.int .i64 6)))⟩])
  (.cond (.tmp 30) (.seq (.reg [⟨(some 31), none, (.mov (.tmp 3))⟩, ⟨(some 32), none, (.len (.tmp 31))⟩, ⟨(some 33), none, (.cmpb .eql (.tmp 32) (.const (.int .i64 0)))⟩, ⟨(some 34), none, (.mov (.tmp 33))⟩, ⟨(some 35), (some (34, true)), (.mov (.tmp 4))⟩, ⟨(some 36), (some (34, true)), (.cmpb .eql (.tmp 35) (.const (.int .i64 1)))⟩, ⟨(some 37), none, (.pur ⟨(some 37), (.pick (.tmp 34) (.tmp 36) (.const (.bool false))), 4, "", (List.toArray []), none⟩)⟩, ⟨(some 38), none, (.mov (.tmp 37))⟩, ⟨(some 39), (some (38, true)), (.lda (.tmp 1) 5)⟩, ⟨(some 40), (some (38, true)), (.call ⟨(.value (.func 32)), (List.toArray [(.tmp 39)]), (List.toArray [25])⟩ true)⟩, ⟨(some 41), (some (38, true)), (.pur ⟨(some 41), (.unOp .not 4 (.tmp 40)), 4, "", (List.toArray []), none⟩)⟩, ⟨(some 42), none, (.pur ⟨(some 42), (.pick (.tmp 38) (.tmp 41) (.const (.bool false))), 4, "", (List.toArray []), none⟩)⟩, ⟨(some 43), none, (.mov (.tmp 42))⟩, ⟨(some 44), (some (43, true)), (.call ⟨(.value (.func 16)), (List.toArray []), (List.toArray [])⟩ true)⟩, ⟨(some 45), none, (.pur ⟨(some 45), (.pick (.tmp 43) (.tmp 44) (.const (.bool false))), 4, "", (List.toArray []), none⟩)⟩, ⟨(some 2), none, (.mov (.tmp 45))⟩])
  .ret)
  .skip))
  (.seq (.seq (.reg [⟨(some 46), none, (.addo (.tmp 1) 4)⟩, ⟨(some 47), none, (.ld (.tmp 46) 1)⟩, ⟨(some 48), none, (.len (.tmp 47))⟩, ⟨(some 49), none, (.mov (.const (.int .i64 0)))⟩])
  (.block 0 (.other (at_ Tryz.f8 [1, 1, 1, 0, 1, 0, 1, 0, 1, 0]))))
  (.seq (.reg [⟨(some 2), none, (.mov (.const (.bool false)))⟩])
  .ret)))
  .skip))
  (.seq (.seq (.reg [⟨(some 146), none, (.mov (.tmp 3))⟩, ⟨(some 147), none, (.len (.tmp 146))⟩, ⟨(some 148), none, (.addo (.tmp 1) 0)⟩, ⟨(some 149), none, (.ld (.tmp 148) 1)⟩, ⟨(some 150), none, (.cmp .neq (.tmp 147) (.tmp 149))⟩])
  (.cond (.tmp 150) (.seq (.reg [⟨(some 2), none, (.mov (.const (.bool false)))⟩])
  .ret)
  .skip))
  (.seq (.seq (.reg [⟨(some 151), none, (.mov (.tmp 3))⟩, ⟨(some 152), none, (.len (.tmp 151))⟩, ⟨(some 153), none, (.mov (.const (.int .i64 0)))⟩])
  (.block 4 (.other (at_ Tryz.f8 [1, 1, 1, 1, 1, 0, 1, 0]))))
  (.seq (.seq (.reg [⟨(some 232), none, (.addo (.tmp 1) 4)⟩, ⟨(some 233), none, (.ld (.tmp 232) 1)⟩, ⟨(some 234), none, (.len (.tmp 233))⟩, ⟨(some 235), none, (.mov (.const (.int .i64 0)))⟩])
  (.block 6 (.other (at_ Tryz.f8 [1, 1, 1, 1, 1, 1, 0, 1, 0]))))
  (.seq (.reg [⟨(some 269), none, (.call ⟨(.value (.func 16)), (List.toArray []), (List.toArray [])⟩ true)⟩, ⟨(some 2), none, (.mov (.tmp 269))⟩])
  .ret))))))))
theorem L8 : low Tryz.prog Tryz.f8.ntmps (at_ Tryz.f8 []) = some R8 := by kernel_rfl
theorem E8_1 : at_ Tryz.f8 [1, 1, 1, 0, 1, 0, 1, 0, 1, 0] = .loop (at_ Tryz.f8 [1, 1, 1, 0, 1, 0, 1, 0, 1, 0, 0]) := by kernel_rfl
noncomputable def R8x1 : RC := (.seq (.reg [⟨(some 50), none, (.cmp .lss (.tmp 49) (.tmp 48))⟩])
  (.seq (.cond (.tmp 50) .skip
  (.exit 0))
  (.seq (.block 1 (.seq (.reg [⟨(some 51), none, (.idx (.tmp 47) (.tmp 49) 3)⟩, ⟨(some 52), none, (.lda (.tmp 51) 3)⟩, ⟨(some 6), none, (.alc 57 [(.int .i64 0), (.int .i64 0), (.int .i64 0)])⟩, ⟨none, none, (.sta (.tmp 6) (.tmp 52) 3)⟩])
  (.seq (.dreg [⟨(some 53), none, (.addo (.tmp 6) 2)⟩, ⟨(some 54), none, (.ld (.tmp 53) 1)⟩, ⟨(some 55), none, (.addo (.tmp 1) 3)⟩, ⟨(some 56), none, (.ld (.tmp 55) 1)⟩, ⟨(some 57), none, (.addo (.tmp 6) 0)⟩, ⟨(some 58), none, (.ld (.tmp 57) 1)⟩, ⟨(some 59), none, (.idx (.tmp 56) (.tmp 58) 2)⟩, ⟨(some 60), none, (.addo (.tmp 59) 1)⟩, ⟨(some 61), none, (.ld (.tmp 60) 1)⟩, ⟨(some 62), none, (.ari .sub (.tmp 54) (.tmp 61))⟩, ⟨(some 63), none, (.addo (.tmp 6) 2)⟩, ⟨(some 64), none, (.ld (.tmp 63) 1)⟩, ⟨(some 65), none, (.addo (.tmp 1) 3)⟩, ⟨(some 66), none, (.ld (.tmp 65) 1)⟩, ⟨(some 67), none, (.addo (.tmp 6) 0)⟩, ⟨(some 68), none, (.ld (.tmp 67) 1)⟩, ⟨(some 69), none, (.idx (.tmp 66) (.tmp 68) 2)⟩, ⟨(some 70), none, (.addo (.tmp 69) 0)⟩, ⟨(some 71), none, (.ld (.tmp 70) 1)⟩, ⟨(some 72), none, (.ari .sub (.tmp 64) (.tmp 71))⟩, ⟨(some 7), none, (.mov (.tmp 62))⟩, ⟨(some 8), none, (.mov (.tmp 72))⟩] [2097151, 1023, 523264, 258048, 126976, 61440, 16384, 0, 4096, 0, 1024, 0, 511, 252, 124, 60, 16, 0, 4, 0, 1, 0])
  (.seq (.seq (.reg [⟨(some 73), none, (.mov (.tmp 7))⟩, ⟨(some 74), none, (.cmpb .gtr (.tmp 73) (.const (.int .i64 5000)))⟩, ⟨(some 75), none, (.mov (.tmp 74))⟩, ⟨(some 76), (some (75, false)), (.mov (.tmp 8))⟩, ⟨(some 77), (some (75, false)), (.cmpb .lss (.tmp 76) (.const (.int .i64 (-5000))))⟩, ⟨(some 78), none, (.pur ⟨(some 78), (.pick (.tmp 75) (.const (.bool true)) (.tmp 77)), 4, "", (List.toArray []), none⟩)⟩])
  (.cond (.tmp 78) (.seq (.reg [⟨(some 79), none, (.mov (.tmp 3))⟩, ⟨(some 80), none, (.len (.tmp 79))⟩, ⟨(some 81), none, (.cmpb .eql (.tmp 80) (.const (.int .i64 0)))⟩, ⟨(some 82), none, (.mov (.tmp 81))⟩, ⟨(some 83), (some (82, true)), (.call ⟨(.value (.func 16)), (List.toArray []), (List.toArray [])⟩ true)⟩, ⟨(some 84), none, (.pur ⟨(some 84), (.pick (.tmp 82) (.tmp 83) (.const (.bool false))), 4, "", (List.toArray []), none⟩)⟩, ⟨(some 2), none, (.mov (.tmp 84))⟩])
  .ret)
  .skip))
  (.seq (.reg [⟨(some 85), none, (.addo (.tmp 1) 4)⟩, ⟨(some 86), none, (.ld (.tmp 85) 1)⟩, ⟨(some 87), none, (.len (.tmp 86))⟩, ⟨(some 88), none, (.mov (.const (.int .i64 0)))⟩])
  (.block 2 (.other (at_ Tryz.f8 [1, 1, 1, 0, 1, 0, 1, 0, 1, 0, 0, 1, 1, 0, 0, 1, 1, 1, 1, 0]))))))))
  (.reg [⟨(some 145), none, (.ari .add (.tmp 49) (.const (.int .i64 1)))⟩, ⟨(some 49), none, (.mov (.tmp 145))⟩]))))
theorem L8x1 : low Tryz.prog Tryz.f8.ntmps (at_ Tryz.f8 [1, 1, 1, 0, 1, 0, 1, 0, 1, 0, 0]) = some R8x1 := by kernel_rfl
theorem E8_2 : at_ Tryz.f8 [1, 1, 1, 0, 1, 0, 1, 0, 1, 0, 0, 1, 1, 0, 0, 1, 1, 1, 1, 0] = .loop (at_ Tryz.f8 [1, 1, 1, 0, 1, 0, 1, 0, 1, 0, 0, 1, 1, 0, 0, 1, 1, 1, 1, 0, 0]) := by kernel_rfl
noncomputable def R8x2 : RC := (.seq (.reg [⟨(some 89), none, (.cmp .lss (.tmp 88) (.tmp 87))⟩])
  (.seq (.cond (.tmp 89) .skip
  (.exit 2))
  (.seq (.block 3 (.seq (.reg [⟨(some 90), none, (.idx (.tmp 86) (.tmp 88) 3)⟩, ⟨(some 91), none, (.lda (.tmp 90) 3)⟩, ⟨(some 10), none, (.alc 57 [(.int .i64 0), (.int .i64 0), (.int .i64 0)])⟩, ⟨none, none, (.sta (.tmp 10) (.tmp 91) 3)⟩])
  (.seq (.dreg [⟨(some 92), none, (.addo (.tmp 10) 2)⟩, ⟨(some 93), none, (.ld (.tmp 92) 1)⟩, ⟨(some 94), none, (.addo (.tmp 1) 3)⟩, ⟨(some 95), none, (.ld (.tmp 94) 1)⟩, ⟨(some 96), none, (.addo (.tmp 10) 0)⟩, ⟨(some 97), none, (.ld (.tmp 96) 1)⟩, ⟨(some 98), none, (.idx (.tmp 95) (.tmp 97) 2)⟩, ⟨(some 99), none, (.addo (.tmp 98) 1)⟩, ⟨(some 100), none, (.ld (.tmp 99) 1)⟩, ⟨(some 101), none, (.ari .sub (.tmp 93) (.tmp 100))⟩, ⟨(some 11), none, (.mov (.tmp 101))⟩] [1023, 511, 252, 124, 60, 16, 0, 4, 0, 1, 0])
  (.seq (.reg [⟨(some 102), none, (.addo (.tmp 10) 1)⟩, ⟨(some 103), none, (.ld (.tmp 102) 1)⟩, ⟨(some 104), none, (.addo (.tmp 6) 1)⟩, ⟨(some 105), none, (.ld (.tmp 104) 1)⟩, ⟨(some 106), none, (.ari .sub (.tmp 103) (.tmp 105))⟩, ⟨(some 12), none, (.mov (.tmp 106))⟩])
  (.seq (.dreg [⟨(some 107), none, (.mov (.tmp 12))⟩, ⟨(some 108), none, (.cmpb .geq (.tmp 107) (.const (.int .i64 0)))⟩, ⟨(some 109), none, (.mov (.tmp 108))⟩, ⟨(some 110), (some (109, true)), (.mov (.tmp 11))⟩, ⟨(some 111), (some (109, true)), (.mov (.tmp 8))⟩, ⟨(some 112), (some (109, true)), (.addo (.tmp 1) 2)⟩, ⟨(some 113), (some (109, true)), (.ld (.tmp 112) 1)⟩, ⟨(some 114), (some (109, true)), (.mov (.tmp 12))⟩, ⟨(some 115), (some (109, true)), (.ari .mul (.tmp 113) (.tmp 114))⟩, ⟨(some 116), (some (109, true)), (.ari .add (.tmp 111) (.tmp 115))⟩, ⟨(some 117), (some (109, true)), (.cmpb .gtr (.tmp 110) (.tmp 116))⟩, ⟨(some 118), (some (109, true)), (.mov (.tmp 117))⟩, ⟨(some 119), (some (118, false)), (.mov (.tmp 7))⟩, ⟨(some 120), (some (118, false)), (.addo (.tmp 10) 2)⟩, ⟨(some 121), (some (118, false)), (.ld (.tmp 120) 1)⟩, ⟨(some 122), (some (118, false)), (.addo (.tmp 1) 3)⟩, ⟨(some 123), (some (118, false)), (.ld (.tmp 122) 1)⟩, ⟨(some 124), (some (118, false)), (.addo (.tmp 10) 0)⟩, ⟨(some 125), (some (118, false)), (.ld (.tmp 124) 1)⟩, ⟨(some 126), (some (118, false)), (.idx (.tmp 123) (.tmp 125) 2)⟩, ⟨(some 127), (some (118, false)), (.addo (.tmp 126) 0)⟩, ⟨(some 128), (some (118, false)), (.ld (.tmp 127) 1)⟩, ⟨(some 129), (some (118, false)), (.ari .sub (.tmp 121) (.tmp 128))⟩, ⟨(some 130), (some (118, false)), (.addo (.tmp 1) 1)⟩, ⟨(some 131), (some (118, false)), (.ld (.tmp 130) 1)⟩, ⟨(some 132), (some (118, false)), (.mov (.tmp 12))⟩, ⟨(some 133), (some (118, false)), (.ari .mul (.tmp 131) (.tmp 132))⟩, ⟨(some 134), (some (118, false)), (.ari .add (.tmp 129) (.tmp 133))⟩, ⟨(some 135), (some (118, false)), (.cmpb .gtr (.tmp 119) (.tmp 134))⟩, ⟨(some 136), (some (109, true)), (.pur ⟨(some 136), (.pick (.tmp 118) (.const (.bool true)) (.tmp 135)), 4, "", (List.toArray []), none⟩)⟩, ⟨(some 137), none, (.pur ⟨(some 137), (.pick (.tmp 109) (.tmp 136) (.const (.bool false))), 4, "", (List.toArray []), none⟩)⟩] [1073741823, 536870911, 268435455, 134213631, 58724351, 4095, 8392703, 4095, 4190207, 2068479, 1019903, 495615, 135167, 4095, 36863, 4095, 12287, 4095, 4095, 2047, 1023, 503, 231, 7, 39, 7, 7, 7, 3, 1, 0])
  (.cond (.tmp 137) (.seq (.reg [⟨(some 138), none, (.mov (.tmp 3))⟩, ⟨(some 139), none, (.len (.tmp 138))⟩, ⟨(some 140), none, (.cmpb .eql (.tmp 139) (.const (.int .i64 0)))⟩, ⟨(some 141), none, (.mov (.tmp 140))⟩, ⟨(some 142), (some (141, true)), (.call ⟨(.value (.func 16)), (List.toArray []), (List.toArray [])⟩ true)⟩, ⟨(some 143), none, (.pur ⟨(some 143), (.pick (.tmp 141) (.tmp 142) (.const (.bool false))), 4, "", (List.toArray []), none⟩)⟩, ⟨(some 2), none, (.mov (.tmp 143))⟩])
  .ret)
  .skip))))))
  (.reg [⟨(some 144), none, (.ari .add (.tmp 88) (.const (.int .i64 1)))⟩, ⟨(some 88), none, (.mov (.tmp 144))⟩]))))
theorem L8x2 : low Tryz.prog Tryz.f8.ntmps (at_ Tryz.f8 [1, 1, 1, 0, 1, 0, 1, 0, 1, 0, 0, 1, 1, 0, 0, 1, 1, 1, 1, 0, 0]) = some R8x2 := by kernel_rfl
theorem E8_3 : at_ Tryz.f8 [1, 1, 1, 1, 1, 0, 1, 0] = .loop (at_ Tryz.f8 [1, 1, 1, 1, 1, 0, 1, 0, 0]) := by kernel_rfl
noncomputable def R8x3 : RC := (.seq (.reg [⟨(some 154), none, (.cmp .lss (.tmp 153) (.tmp 152))⟩])
  (.seq (.cond (.tmp 154) .skip
  (.exit 4))
  (.seq (.block 5 (.seq (.reg [⟨(some 155), none, (.mov (.tmp 153))⟩, ⟨(some 156), none, (.idx (.tmp 151) (.tmp 153) 2)⟩, ⟨(some 157), none, (.lda (.tmp 156) 2)⟩, ⟨(some 14), none, (.alc 48 [(.int .i64 0), (.int .i64 0)])⟩, ⟨(some 13), none, (.mov (.tmp 155))⟩, ⟨none, none, (.sta (.tmp 14) (.tmp 157) 2)⟩])
  (.seq (.seq (.reg [⟨(some 158), none, (.addo (.tmp 14) 0)⟩, ⟨(some 159), none, (.ld (.tmp 158) 1)⟩, ⟨(some 160), none, (.cmpb .lss (.tmp 159) (.const (.int .i64 (-5000))))⟩, ⟨(some 161), none, (.mov (.tmp 160))⟩, ⟨(some 162), (some (161, false)), (.addo (.tmp 14) 0)⟩, ⟨(some 163), (some (161, false)), (.ld (.tmp 162) 1)⟩, ⟨(some 164), (some (161, false)), (.addo (.tmp 14) 1)⟩, ⟨(some 165), (some (161, false)), (.ld (.tmp 164) 1)⟩, ⟨(some 166), (some (161, false)), (.cmpb .gtr (.tmp 163) (.tmp 165))⟩, ⟨(some 167), none, (.pur ⟨(some 167), (.pick (.tmp 161) (.const (.bool true)) (.tmp 166)), 4, "", (List.toArray []), none⟩)⟩, ⟨(some 168), none, (.mov (.tmp 167))⟩, ⟨(some 169), (some (168, false)), (.addo (.tmp 14) 1)⟩, ⟨(some 170), (some (168, false)), (.ld (.tmp 169) 1)⟩, ⟨(some 171), (some (168, false)), (.cmpb .gtr (.tmp 170) (.const (.int .i64 5000)))⟩, ⟨(some 172), none, (.pur ⟨(some 172), (.pick (.tmp 168) (.const (.bool true)) (.tmp 171)), 4, "", (List.toArray []), none⟩)⟩])
  (.cond (.tmp 172) (.seq (.reg [⟨(some 2), none, (.mov (.const (.bool false)))⟩])
  .ret)
  .skip))
  (.seq (.dreg [⟨(some 173), none, (.mov (.tmp 13))⟩, ⟨(some 174), none, (.cmpb .gtr (.tmp 173) (.const (.int .i64 0)))⟩, ⟨(some 175), none, (.mov (.tmp 174))⟩, ⟨(some 176), (some (175, true)), (.addo (.tmp 14) 0)⟩, ⟨(some 177), (some (175, true)), (.ld (.tmp 176) 1)⟩, ⟨(some 178), (some (175, true)), (.mov (.tmp 3))⟩, ⟨(some 179), (some (175, true)), (.mov (.tmp 13))⟩, ⟨(some 180), (some (175, true)), (.ari .sub (.tmp 179) (.const (.int .i64 1)))⟩, ⟨(some 181), (some (175, true)), (.idx (.tmp 178) (.tmp 180) 2)⟩, ⟨(some 182), (some (175, true)), (.addo (.tmp 181) 0)⟩, ⟨(some 183), (some (175, true)), (.ld (.tmp 182) 1)⟩, ⟨(some 184), (some (175, true)), (.addo (.tmp 1) 1)⟩, ⟨(some 185), (some (175, true)), (.ld (.tmp 184) 1)⟩, ⟨(some 186), (some (175, true)), (.ari .sub (.tmp 183) (.tmp 185))⟩, ⟨(some 187), (some (175, true)), (.cmpb .lss (.tmp 177) (.tmp 186))⟩, ⟨(some 188), (some (175, true)), (.mov (.tmp 187))⟩, ⟨(some 189), (some (188, false)), (.addo (.tmp 14) 0)⟩, ⟨(some 190), (some (188, false)), (.ld (.tmp 189) 1)⟩, ⟨(some 191), (some (188, false)), (.mov (.tmp 3))⟩, ⟨(some 192), (some (188, false)), (.mov (.tmp 13))⟩, ⟨(some 193), (some (188, false)), (.ari .sub (.tmp 192) (.const (.int .i64 1)))⟩, ⟨(some 194), (some (188, false)), (.idx (.tmp 191) (.tmp 193) 2)⟩, ⟨(some 195), (some (188, false)), (.addo (.tmp 194) 0)⟩, ⟨(some 196), (some (188, false)), (.ld (.tmp 195) 1)⟩, ⟨(some 197), (some (188, false)), (.addo (.tmp 1) 2)⟩, ⟨(some 198), (some (188, false)), (.ld (.tmp 197) 1)⟩, ⟨(some 199), (some (188, false)), (.ari .add (.tmp 196) (.tmp 198))⟩, ⟨(some 200), (some (188, false)), (.cmpb .gtr (.tmp 190) (.tmp 199))⟩, ⟨(some 201), (some (175, true)), (.pur ⟨(some 201), (.pick (.tmp 188) (.const (.bool true)) (.tmp 200)), 4, "", (List.toArray []), none⟩)⟩, ⟨(some 202), (some (175, true)), (.mov (.tmp 201))⟩, ⟨(some 203), (some (202, false)), (.addo (.tmp 14) 1)⟩, ⟨(some 204), (some (202, false)), (.ld (.tmp 203) 1)⟩, ⟨(some 205), (some (202, false)), (.mov (.tmp 3))⟩, ⟨(some 206), (some (202, false)), (.mov (.tmp 13))⟩, ⟨(some 207), (some (202, false)), (.ari .sub (.tmp 206) (.const (.int .i64 1)))⟩, ⟨(some 208), (some (202, false)), (.idx (.tmp 205) (.tmp 207) 2)⟩, ⟨(some 209), (some (202, false)), (.addo (.tmp 208) 1)⟩, ⟨(some 210), (some (202, false)), (.ld (.tmp 209) 1)⟩, ⟨(some 211), (some (202, false)), (.addo (.tmp 1) 1)⟩, ⟨(some 212), (some (202, false)), (.ld (.tmp 211) 1)⟩, ⟨(some 213), (some (202, false)), (.ari .sub (.tmp 210) (.tmp 212))⟩, ⟨(some 214), (some (202, false)), (.cmpb .lss (.tmp 204) (.tmp 213))⟩, ⟨(some 215), (some (175, true)), (.pur ⟨(some 215), (.pick (.tmp 202) (.const (.bool true)) (.tmp 214)), 4, "", (List.toArray []), none⟩)⟩, ⟨(some 216), (some (175, true)), (.mov (.tmp 215))⟩, ⟨(some 217), (some (216, false)), (.addo (.tmp 14) 1)⟩, ⟨(some 218), (some (216, false)), (.ld (.tmp 217) 1)⟩, ⟨(some 219), (some (216, false)), (.mov (.tmp 3))⟩, ⟨(some 220), (some (216, false)), (.mov (.tmp 13))⟩, ⟨(some 221), (some (216, false)), (.ari .sub (.tmp 220) (.const (.int .i64 1)))⟩, ⟨(some 222), (some (216, false)), (.idx (.tmp 219) (.tmp 221) 2)⟩, ⟨(some 223), (some (216, false)), (.addo (.tmp 222) 1)⟩, ⟨(some 224), (some (216, false)), (.ld (.tmp 223) 1)⟩, ⟨(some 225), (some (216, false)), (.addo (.tmp 1) 2)⟩, ⟨(some 226), (some (216, false)), (.ld (.tmp 225) 1)⟩, ⟨(some 227), (some (216, false)), (.ari .add (.tmp 224) (.tmp 226))⟩, ⟨(some 228), (some (216, false)), (.cmpb .gtr (.tmp 218) (.tmp 227))⟩, ⟨(some 229), (some (175, true)), (.pur ⟨(some 229), (.pick (.tmp 216) (.const (.bool true)) (.tmp 228)), 4, "", (List.toArray []), none⟩)⟩, ⟨(some 230), none, (.pur ⟨(some 230), (.pick (.tmp 175) (.tmp 229) (.const (.bool false))), 4, "", (List.toArray []), none⟩)⟩] [144115188075855871, 72057594037927935, 36028797018963967, 17961621951348735, 4521191813414911, 17592186044415, 2199023255551999, 1073123348709375, 510173395288063, 158329674399743, 17592186044415, 17592186044415, 35184372088831, 17592186044415, 8796093022207, 4398046511103, 2199023255551, 1096290402303, 275951648767, 1073741823, 134217727999, 65498251263, 31138512895, 9663676415, 1073741823, 1073741823, 2147483647, 1073741823, 536870911, 268435455, 134217727, 66912255, 16842751, 65535, 8191999, 3997695, 1900543, 589823, 65535, 65535, 131071, 65535, 32767, 16383, 8167, 2055, 7, 999, 487, 231, 71, 7, 7, 15, 7, 3, 1, 0])
  (.cond (.tmp 230) (.seq (.reg [⟨(some 2), none, (.mov (.const (.bool false)))⟩])
  .ret)
  .skip)))))
  (.reg [⟨(some 231), none, (.ari .add (.tmp 153) (.const (.int .i64 1)))⟩, ⟨(some 153), none, (.mov (.tmp 231))⟩]))))
theorem L8x3 : low Tryz.prog Tryz.f8.ntmps (at_ Tryz.f8 [1, 1, 1, 1, 1, 0, 1, 0, 0]) = some R8x3 := by kernel_rfl
theorem E8_4 : at_ Tryz.f8 [1, 1, 1, 1, 1, 1, 0, 1, 0] = .loop (at_ Tryz.f8 [1, 1, 1, 1, 1, 1, 0, 1, 0, 0]) := by kernel_rfl
noncomputable def R8x4 : RC := (.seq (.reg [⟨(some 236), none, (.cmp .lss (.tmp 235) (.tmp 234))⟩])
  (.seq (.cond (.tmp 236) .skip
  (.exit 6))
  (.seq (.block 7 (.seq (.reg [⟨(some 237), none, (.idx (.tmp 233) (.tmp 235) 3)⟩, ⟨(some 238), none, (.lda (.tmp 237) 3)⟩, ⟨(some 16), none, (.alc 57 [(.int .i64 0), (.int .i64 0), (.int .i64 0)])⟩, ⟨none, none, (.sta (.tmp 16) (.tmp 238) 3)⟩])
  (.seq (.dreg [⟨(some 239), none, (.mov (.tmp 3))⟩, ⟨(some 240), none, (.addo (.tmp 16) 1)⟩, ⟨(some 241), none, (.ld (.tmp 240) 1)⟩, ⟨(some 242), none, (.idx (.tmp 239) (.tmp 241) 2)⟩, ⟨(some 243), none, (.lda (.tmp 242) 2)⟩, ⟨(some 244), none, (.addo (.tmp 1) 3)⟩, ⟨(some 245), none, (.ld (.tmp 244) 1)⟩, ⟨(some 246), none, (.addo (.tmp 16) 0)⟩, ⟨(some 247), none, (.ld (.tmp 246) 1)⟩, ⟨(some 248), none, (.idx (.tmp 245) (.tmp 247) 2)⟩, ⟨(some 249), none, (.lda (.tmp 248) 2)⟩, ⟨(some 17), none, (.alc 48 [(.int .i64 0), (.int .i64 0)])⟩, ⟨(some 18), none, (.alc 48 [(.int .i64 0), (.int .i64 0)])⟩, ⟨none, none, (.sta (.tmp 17) (.tmp 243) 2)⟩, ⟨none, none, (.sta (.tmp 18) (.tmp 249) 2)⟩] [16383, 6175, 0, 0, 992, 480, 128, 0, 32, 0, 15, 7, 2, 0, 0])
  (.seq (.reg [⟨(some 250), none, (.addo (.tmp 17) 0)⟩, ⟨(some 251), none, (.ld (.tmp 250) 1)⟩, ⟨(some 252), none, (.addo (.tmp 16) 2)⟩, ⟨(some 253), none, (.ld (.tmp 252) 1)⟩, ⟨(some 254), none, (.addo (.tmp 18) 1)⟩, ⟨(some 255), none, (.ld (.tmp 254) 1)⟩, ⟨(some 256), none, (.ari .sub (.tmp 253) (.tmp 255))⟩, ⟨(some 257), none, (.cmpb .lss (.tmp 251) (.tmp 256))⟩, ⟨(some 258), none, (.mov (.tmp 257))⟩, ⟨(some 259), (some (258, false)), (.addo (.tmp 17) 1)⟩, ⟨(some 260), (some (258, false)), (.ld (.tmp 259) 1)⟩, ⟨(some 261), (some (258, false)), (.addo (.tmp 16) 2)⟩, ⟨(some 262), (some (258, false)), (.ld (.tmp 261) 1)⟩, ⟨(some 263), (some (258, false)), (.addo (.tmp 18) 0)⟩, ⟨(some 264), (some (258, false)), (.ld (.tmp 263) 1)⟩, ⟨(some 265), (some (258, false)), (.ari .sub (.tmp 262) (.tmp 264))⟩, ⟨(some 266), (some (258, false)), (.cmpb .gtr (.tmp 260) (.tmp 265))⟩, ⟨(some 267), none, (.pur ⟨(some 267), (.pick (.tmp 258) (.const (.bool true)) (.tmp 266)), 4, "", (List.toArray []), none⟩)⟩])
  (.cond (.tmp 267) (.seq (.reg [⟨(some 2), none, (.mov (.const (.bool false)))⟩])
  .ret)
  .skip)))))
  (.reg [⟨(some 268), none, (.ari .add (.tmp 235) (.const (.int .i64 1)))⟩, ⟨(some 235), none, (.mov (.tmp 268))⟩]))))
theorem L8x4 : low Tryz.prog Tryz.f8.ntmps (at_ Tryz.f8 [1, 1, 1, 1, 1, 1, 0, 1, 0, 0]) = some R8x4 := by kernel_rfl


end Go.Ax

import Derived.Test.YtpdoogfafjjdkaaAxW9
import Derived.Test.YtpdoogfafjjdkaaChecked
set_option linter.all false
/-! What 'low' makes of the functions of late (written by program). -/
namespace Go.Ax
open Go Go.RowKit Go.Proofs
theorem N7 : Try.f7.ntmps = 192 := by kernel_rfl
theorem Z7 : Try.f7.results.toList = ((List.toArray [(.tmp 10)]) : Array ResultVar).toList := by kernel_rfl
theorem B7 : Try.f7.body = some (at_ Try.f7 []) := by kernel_rfl
noncomputable def R7 : RC := (.seq (.reg [⟨(some 5), none, (.box 26 (.tmp 0))⟩, ⟨(some 10), none, (.mov (.const (.bool false)))⟩])
  (.seq (.seq (.reg [⟨(some 25), none, (.lda (.tmp 5) 13)⟩, ⟨(some 26), none, (.mov (.tmp 3))⟩, ⟨(some 27), none, (.call ⟨(.value (.func 13)), (List.toArray [(.tmp 25), (.tmp 26)]), (List.toArray [26, 27])⟩ true)⟩, ⟨(some 28), none, (.mov (.tmp 27))⟩, ⟨(some 29), (some (28, false)), (.mov (.tmp 4))⟩, ⟨(some 30), (some (28, false)), (.len (.tmp 29))⟩, ⟨(some 31), (some (28, false)), (.cmpb .eql (.tmp 30) (.const (.int .i64 0)))⟩, ⟨(some 32), none, (.pur ⟨(some 32), (.pick (.tmp 28) (.const (.bool true)) (.tmp 31)), 4, "", (List.toArray []), none⟩)⟩])
  (.cond (.tmp 32) (.seq (.reg [⟨(some 33), none, (.call ⟨(.value (.func 14)), (List.toArray []), (List.toArray [])⟩ true)⟩, ⟨(some 10), none, (.mov (.tmp 33))⟩])
  .ret)
  .skip))
  (.seq (.reg [⟨(some 35), none, (.lda (.tmp 5) 13)⟩, ⟨(some 36), none, (.mov (.tmp 1))⟩, ⟨(some 37), none, (.mov (.tmp 2))⟩, ⟨(some 38), none, (.mov (.tmp 3))⟩, ⟨(some 39), none, (.call ⟨(.value (.func 17)), (List.toArray [(.tmp 35), (.tmp 36), (.tmp 37), (.tmp 38)]), (List.toArray [26, 3, 3, 27])⟩ true)⟩, ⟨(some 34), none, (.mov (.tmp 39))⟩, ⟨(some 40), none, (.pur ⟨(some 40), (.extract (.tmp 34) 0), 22, "", (List.toArray []), none⟩)⟩, ⟨(some 41), none, (.pur ⟨(some 41), (.extract (.tmp 34) 1), 30, "", (List.toArray []), none⟩)⟩, ⟨(some 11), none, (.mov (.tmp 40))⟩, ⟨(some 12), none, (.mov (.tmp 41))⟩])
  (.seq (.reg [⟨(some 43), none, (.lda (.tmp 5) 13)⟩, ⟨(some 44), none, (.mov (.tmp 1))⟩, ⟨(some 45), none, (.mov (.tmp 2))⟩, ⟨(some 46), none, (.mov (.tmp 3))⟩, ⟨(some 47), none, (.call ⟨(.value (.func 19)), (List.toArray [(.tmp 43), (.tmp 44), (.tmp 45), (.tmp 46)]), (List.toArray [26, 3, 3, 27])⟩ true)⟩, ⟨(some 42), none, (.mov (.tmp 47))⟩, ⟨(some 48), none, (.pur ⟨(some 48), (.extract (.tmp 42) 0), 3, "", (List.toArray []), none⟩)⟩, ⟨(some 49), none, (.pur ⟨(some 49), (.extract (.tmp 42) 1), 3, "", (List.toArray []), none⟩)⟩, ⟨(some 50), none, (.pur ⟨(some 50), (.extract (.tmp 42) 2), 30, "", (List.toArray []), none⟩)⟩, ⟨(some 13), none, (.mov (.tmp 48))⟩, ⟨(some 14), none, (.mov (.tmp 49))⟩, ⟨(some 15), none, (.mov (.tmp 50))⟩])
  (.seq (.reg [⟨(some 52), none, (.lda (.tmp 5) 13)⟩, ⟨(some 53), none, (.mov (.tmp 1))⟩, ⟨(some 54), none, (.mov (.tmp 2))⟩, ⟨(some 55), none, (.call ⟨(.value (.func 15)), (List.toArray [(.tmp 52), (.tmp 53), (.tmp 54)]), (List.toArray [26, 3, 3])⟩ true)⟩, ⟨(some 51), none, (.mov (.tmp 55))⟩, ⟨(some 56), none, (.pur ⟨(some 56), (.extract (.tmp 51) 0), 24, "", (List.toArray []), none⟩)⟩, ⟨(some 57), none, (.pur ⟨(some 57), (.extract (.tmp 51) 1), 30, "", (List.toArray []), none⟩)⟩, ⟨(some 16), none, (.alc 24 [(.int .i64 0), (.int .i64 0)])⟩, ⟨none, none, (.sta (.tmp 16) (.tmp 56) 2)⟩, ⟨(some 17), none, (.mov (.tmp 57))⟩])
  (.seq (.seq (.reg [⟨(some 58), none, (.mov (.tmp 12))⟩, ⟨(some 59), none, (.cmp .neq (.tmp 58) (.const (.int .i64 0)))⟩])
  (.cond (.tmp 59) (.seq (.reg [⟨(some 60), none, (.mov (.tmp 11))⟩, ⟨(some 61), none, (.len (.tmp 60))⟩, ⟨(some 62), none, (.cmpb .eql (.tmp 61) (.const (.int .i64 0)))⟩, ⟨(some 63), none, (.mov (.tmp 62))⟩, ⟨(some 64), (some (63, true)), (.mov (.tmp 13))⟩, ⟨(some 65), (some (63, true)), (.cmpb .eql (.tmp 64) (.const (.int .i64 0)))⟩, ⟨(some 66), none, (.pur ⟨(some 66), (.pick (.tmp 63) (.tmp 65) (.const (.bool false))), 4, "", (List.toArray []), none⟩)⟩, ⟨(some 67), none, (.mov (.tmp 66))⟩, ⟨(some 68), (some (67, true)), (.mov (.tmp 14))⟩, ⟨(some 69), (some (67, true)), (.cmpb .eql (.tmp 68) (.const (.int .i64 0)))⟩, ⟨(some 70), none, (.pur ⟨(some 70), (.pick (.tmp 67) (.tmp 69) (.const (.bool false))), 4, "", (List.toArray []), none⟩)⟩, ⟨(some 71), none, (.mov (.tmp 70))⟩, ⟨(some 72), (some (71, true)), (.mov (.tmp 15))⟩, ⟨(some 73), (some (71, true)), (.mov (.tmp 12))⟩, ⟨(some 74), (some (71, true)), (.cmpb .eql (.tmp 72) (.tmp 73))⟩, ⟨(some 75), none, (.pur ⟨(some 75), (.pick (.tmp 71) (.tmp 74) (.const (.bool false))), 4, "", (List.toArray []), none⟩)⟩, ⟨(some 76), none, (.mov (.tmp 75))⟩, ⟨(some 77), (some (76, true)), (.call ⟨(.value (.func 14)), (List.toArray []), (List.toArray [])⟩ true)⟩, ⟨(some 78), none, (.pur ⟨(some 78), (.pick (.tmp 76) (.tmp 77) (.const (.bool false))), 4, "", (List.toArray []), none⟩)⟩, ⟨(some 10), none, (.mov (.tmp 78))⟩])
  .ret)
  .skip))
  (.seq (.seq (.reg [⟨(some 79), none, (.mov (.tmp 15))⟩, ⟨(some 80), none, (.cmpb .neq (.tmp 79) (.const (.int .i64 0)))⟩, ⟨(some 81), none, (.mov (.tmp 80))⟩, ⟨(some 82), (some (81, false)), (.mov (.tmp 17))⟩, ⟨(some 83), (some (81, false)), (.cmpb .neq (.tmp 82) (.const (.int .i64 0)))⟩, ⟨(some 84), none, (.pur ⟨(some 84), (.pick (.tmp 81) (.const (.bool true)) (.tmp 83)), 4, "", (List.toArray []), none⟩)⟩, ⟨(some 85), none, (.mov (.tmp 84))⟩, ⟨(some 86), (some (85, false)), (.lda (.tmp 5) 13)⟩, ⟨(some 87), (some (85, false)), (.call ⟨(.value (.func 33)), (List.toArray [(.tmp 86)]), (List.toArray [26])⟩ true)⟩, ⟨(some 88), (some (85, false)), (.pur ⟨(some 88), (.unOp .not 4 (.tmp 87)), 4, "", (List.toArray []), none⟩)⟩, ⟨(some 89), none, (.pur ⟨(some 89), (.pick (.tmp 85) (.const (.bool true)) (.tmp 88)), 4, "", (List.toArray []), none⟩)⟩, ⟨(some 90), none, (.mov (.tmp 89))⟩, ⟨(some 91), (some (90, false)), (.lda (.tmp 5) 13)⟩, ⟨(some 92), (some (90, false)), (.mov (.tmp 1))⟩, ⟨(some 93), (some (90, false)), (.mov (.tmp 2))⟩, ⟨(some 94), (some (90, false)), (.mov (.tmp 3))⟩, ⟨(some 95), (some (90, false)), (.call ⟨(.value (.func 34)), (List.toArray [(.tmp 91), (.tmp 92), (.tmp 93), (.tmp 94)]), (List.toArray [26, 3, 3, 27])⟩ true)⟩, ⟨(some 96), (some (90, false)), (.pur ⟨(some 96), (.unOp .not 4 (.tmp 95)), 4, "", (List.toArray []), none⟩)⟩, ⟨(some 97), none, (.pur ⟨(some 97), (.pick (.tmp 90) (.const (.bool true)) (.tmp 96)), 4, "", (List.toArray []), none⟩)⟩, ⟨(some 98), none, (.mov (.tmp 97))⟩, ⟨(some 99), (some (98, false)), (.mov (.tmp 11))⟩, ⟨(some 100), (some (98, false)), (.len (.tmp 99))⟩, ⟨(some 101), (some (98, false)), (.mov (.tmp 2))⟩, ⟨(some 102), (some (98, false)), (.cmpb .neq (.tmp 100) (.tmp 101))⟩, ⟨(some 103), none, (.pur ⟨(some 103), (.pick (.tmp 98) (.const (.bool true)) (.tmp 102)), 4, "", (List.toArray []), none⟩)⟩])
  (.cond (.tmp 103) (.seq (.reg [⟨(some 10), none, (.mov (.const (.bool false)))⟩])
  .ret)
  .skip))
  (.seq (.reg [⟨(some 105), none, (.lda (.tmp 5) 13)⟩, ⟨(some 106), none, (.mov (.tmp 1))⟩, ⟨(some 107), none, (.mov (.tmp 2))⟩, ⟨(some 108), none, (.mov (.tmp 3))⟩, ⟨(some 109), none, (.mov (.tmp 4))⟩, ⟨(some 110), none, (.call ⟨(.value (.func 35)), (List.toArray [(.tmp 105), (.tmp 106), (.tmp 107), (.tmp 108), (.tmp 109)]), (List.toArray [26, 3, 3, 27, 49])⟩ true)⟩, ⟨(some 104), none, (.mov (.tmp 110))⟩, ⟨(some 111), none, (.pur ⟨(some 111), (.extract (.tmp 104) 0), 27, "", (List.toArray []), none⟩)⟩, ⟨(some 112), none, (.pur ⟨(some 112), (.extract (.tmp 104) 1), 3, "", (List.toArray []), none⟩)⟩, ⟨(some 18), none, (.mov (.tmp 111))⟩, ⟨(some 19), none, (.mov (.tmp 112))⟩])
  (.seq (.reg [⟨(some 20), none, (.mov (.const (.int .i64 0)))⟩])
  (.seq (.seq (.reg [⟨(some 113), none, (.mov (.tmp 18))⟩, ⟨(some 114), none, (.len (.tmp 113))⟩, ⟨(some 115), none, (.mov (.const (.int .i64 0)))⟩])
  (.block 0 (.other (at_ Try.f7 [1, 1, 1, 1, 1, 1, 1, 1, 1, 0, 1, 0]))))
  (.seq (.dreg [⟨(some 143), none, (.mov (.tmp 19))⟩, ⟨(some 144), none, (.addo (.tmp 5) 10)⟩, ⟨(some 145), none, (.ld (.tmp 144) 1)⟩, ⟨(some 146), none, (.cmp .geq (.tmp 143) (.tmp 145))⟩, ⟨(some 147), none, (.mov (.tmp 20))⟩, ⟨(some 148), none, (.addo (.tmp 5) 12)⟩, ⟨(some 149), none, (.ld (.tmp 148) 1)⟩, ⟨(some 150), none, (.cmp .gtr (.tmp 147) (.tmp 149))⟩, ⟨(some 23), none, (.mov (.tmp 146))⟩, ⟨(some 24), none, (.mov (.tmp 150))⟩] [511, 15, 112, 32, 0, 0, 7, 2, 0, 0])
  (.seq (.seq (.reg [⟨(some 151), none, (.mov (.tmp 19))⟩, ⟨(some 152), none, (.addo (.tmp 16) 0)⟩, ⟨(some 153), none, (.ld (.tmp 152) 1)⟩, ⟨(some 154), none, (.cmpb .lss (.tmp 151) (.tmp 153))⟩, ⟨(some 155), none, (.mov (.tmp 154))⟩, ⟨(some 156), (some (155, false)), (.mov (.tmp 19))⟩, ⟨(some 157), (some (155, false)), (.addo (.tmp 16) 1)⟩, ⟨(some 158), (some (155, false)), (.ld (.tmp 157) 1)⟩, ⟨(some 159), (some (155, false)), (.cmpb .gtr (.tmp 156) (.tmp 158))⟩, ⟨(some 160), none, (.pur ⟨(some 160), (.pick (.tmp 155) (.const (.bool true)) (.tmp 159)), 4, "", (List.toArray []), none⟩)⟩, ⟨(some 161), none, (.mov (.tmp 160))⟩, ⟨(some 162), (some (161, false)), (.mov (.tmp 13))⟩, ⟨(some 163), (some (161, false)), (.cmpb .eql (.tmp 162) (.const (.int .i64 2)))⟩, ⟨(some 164), (some (161, false)), (.mov (.tmp 163))⟩, ⟨(some 165), (some (164, true)), (.mov (.tmp 23))⟩, ⟨(some 166), (some (164, true)), (.pur ⟨(some 166), (.unOp .not 4 (.tmp 165)), 4, "", (List.toArray []), none⟩)⟩, ⟨(some 167), (some (161, false)), (.pur ⟨(some 167), (.pick (.tmp 164) (.tmp 166) (.const (.bool false))), 4, "", (List.toArray []), none⟩)⟩, ⟨(some 168), none, (.pur ⟨(some 168), (.pick (.tmp 161) (.const (.bool true)) (.tmp 167)), 4, "", (List.toArray []), none⟩)⟩, ⟨(some 169), none, (.mov (.tmp 168))⟩, ⟨(some 170), (some (169, false)), (.mov (.tmp 13))⟩, ⟨(some 171), (some (169, false)), (.cmpb .eql (.tmp 170) (.const (.int .i64 0)))⟩, ⟨(some 172), (some (169, false)), (.mov (.tmp 171))⟩, ⟨(some 173), (some (172, true)), (.mov (.tmp 23))⟩, ⟨(some 174), (some (169, false)), (.pur ⟨(some 174), (.pick (.tmp 172) (.tmp 173) (.const (.bool false))), 4, "", (List.toArray []), none⟩)⟩, ⟨(some 175), none, (.pur ⟨(some 175), (.pick (.tmp 169) (.const (.bool true)) (.tmp 174)), 4, "", (List.toArray []), none⟩)⟩])
  (.cond (.tmp 175) (.seq (.reg [⟨(some 10), none, (.mov (.const (.bool false)))⟩])
  .ret)
  .skip))
  (.seq (.reg [⟨(some 176), none, (.mov (.tmp 14))⟩, ⟨(some 177), none, (.cmpb .neq (.tmp 176) (.const (.int .i64 2)))⟩, ⟨(some 178), none, (.mov (.tmp 177))⟩, ⟨(some 179), (some (178, false)), (.mov (.tmp 24))⟩, ⟨(some 180), none, (.pur ⟨(some 180), (.pick (.tmp 178) (.const (.bool true)) (.tmp 179)), 4, "", (List.toArray []), none⟩)⟩, ⟨(some 181), none, (.mov (.tmp 180))⟩, ⟨(some 182), (some (181, true)), (.mov (.tmp 14))⟩, ⟨(some 183), (some (181, true)), (.cmpb .neq (.tmp 182) (.const (.int .i64 0)))⟩, ⟨(some 184), (some (181, true)), (.mov (.tmp 183))⟩, ⟨(some 185), (some (184, false)), (.mov (.tmp 24))⟩, ⟨(some 186), (some (184, false)), (.pur ⟨(some 186), (.unOp .not 4 (.tmp 185)), 4, "", (List.toArray []), none⟩)⟩, ⟨(some 187), (some (181, true)), (.pur ⟨(some 187), (.pick (.tmp 184) (.const (.bool true)) (.tmp 186)), 4, "", (List.toArray []), none⟩)⟩, ⟨(some 188), none, (.pur ⟨(some 188), (.pick (.tmp 181) (.tmp 187) (.const (.bool false))), 4, "", (List.toArray []), none⟩)⟩, ⟨(some 189), none, (.mov (.tmp 188))⟩, ⟨(some 190), (some (189, true)), (.call ⟨(.value (.func 14)), (List.toArray []), (List.toArray [])⟩ true)⟩, ⟨(some 191), none, (.pur ⟨(some 191), (.pick (.tmp 189) (.tmp 190) (.const (.bool false))), 4, "", (List.toArray []), none⟩)⟩, ⟨(some 10), none, (.mov (.tmp 191))⟩])
  .ret)))))))))))))
theorem L7 : low Try.prog Try.f7.ntmps (at_ Try.f7 []) = some R7 := by kernel_rfl
theorem E7_1 : at_ Try.f7 [1, 1, 1, 1, 1, 1, 1, 1, 1, 0, 1, 0] = .loop (at_ Try.f7 [1, 1, 1, 1, 1, 1, 1, 1, 1, 0, 1, 0, 0]) := by kernel_rfl
noncomputable def R7x1 : RC := (.seq (.reg [⟨(some 116), none, (.cmp .lss (.tmp 115) (.tmp 114))⟩])
  (.seq (.cond (.tmp 116) .skip
  (.exit 0))
  (.seq (.block 1 (.seq (.reg [⟨(some 117), none, (.mov (.tmp 115))⟩, ⟨(some 118), none, (.idx (.tmp 113) (.tmp 115) 1)⟩, ⟨(some 119), none, (.ld (.tmp 118) 1)⟩, ⟨(some 21), none, (.mov (.tmp 117))⟩, ⟨(some 22), none, (.mov (.tmp 119))⟩])
  (.seq (.seq (.reg [⟨(some 120), none, (.mov (.tmp 22))⟩, ⟨(some 121), none, (.mov (.tmp 11))⟩, ⟨(some 122), none, (.mov (.tmp 21))⟩, ⟨(some 123), none, (.idx (.tmp 121) (.tmp 122) 2)⟩, ⟨(some 124), none, (.addo (.tmp 123) 0)⟩, ⟨(some 125), none, (.ld (.tmp 124) 1)⟩, ⟨(some 126), none, (.cmpb .lss (.tmp 120) (.tmp 125))⟩, ⟨(some 127), none, (.mov (.tmp 126))⟩, ⟨(some 128), (some (127, false)), (.mov (.tmp 22))⟩, ⟨(some 129), (some (127, false)), (.mov (.tmp 11))⟩, ⟨(some 130), (some (127, false)), (.mov (.tmp 21))⟩, ⟨(some 131), (some (127, false)), (.idx (.tmp 129) (.tmp 130) 2)⟩, ⟨(some 132), (some (127, false)), (.addo (.tmp 131) 1)⟩, ⟨(some 133), (some (127, false)), (.ld (.tmp 132) 1)⟩, ⟨(some 134), (some (127, false)), (.cmpb .gtr (.tmp 128) (.tmp 133))⟩, ⟨(some 135), none, (.pur ⟨(some 135), (.pick (.tmp 127) (.const (.bool true)) (.tmp 134)), 4, "", (List.toArray []), none⟩)⟩])
  (.cond (.tmp 135) (.seq (.reg [⟨(some 10), none, (.mov (.const (.bool false)))⟩])
  .ret)
  .skip))
  (.seq (.reg [⟨(some 136), none, (.mov (.tmp 22))⟩, ⟨(some 137), none, (.addo (.tmp 5) 11)⟩, ⟨(some 138), none, (.ld (.tmp 137) 1)⟩, ⟨(some 139), none, (.cmp .lss (.tmp 136) (.tmp 138))⟩])
  (.cond (.tmp 139) (.reg [⟨(some 140), none, (.mov (.tmp 20))⟩, ⟨(some 141), none, (.ari .add (.tmp 140) (.const (.int .i64 1)))⟩, ⟨(some 20), none, (.mov (.tmp 141))⟩])
  .skip)))))
  (.reg [⟨(some 142), none, (.ari .add (.tmp 115) (.const (.int .i64 1)))⟩, ⟨(some 115), none, (.mov (.tmp 142))⟩]))))
theorem L7x1 : low Try.prog Try.f7.ntmps (at_ Try.f7 [1, 1, 1, 1, 1, 1, 1, 1, 1, 0, 1, 0, 0]) = some R7x1 := by kernel_rfl
theorem N13 : Try.f13.ntmps = 20 := by kernel_rfl
theorem Z13 : Try.f13.results.toList = ((List.toArray [(.tmp 4)]) : Array ResultVar).toList := by kernel_rfl
theorem B13 : Try.f13.body = some (at_ Try.f13 []) := by kernel_rfl
noncomputable def R13 : RC := (.seq (.reg [⟨(some 2), none, (.box 26 (.tmp 0))⟩, ⟨(some 4), none, (.mov (.const (.bool false)))⟩])
  (.seq (.reg [⟨(some 5), none, (.addo (.tmp 2) 0)⟩, ⟨(some 6), none, (.ld (.tmp 5) 1)⟩, ⟨(some 7), none, (.len (.tmp 6))⟩, ⟨(some 8), none, (.cmpb .gtr (.tmp 7) (.const (.int .i64 45)))⟩, ⟨(some 9), none, (.mov (.tmp 8))⟩, ⟨(some 10), (some (9, false)), (.addo (.tmp 2) 1)⟩, ⟨(some 11), (some (9, false)), (.ld (.tmp 10) 1)⟩, ⟨(some 12), (some (9, false)), (.len (.tmp 11))⟩, ⟨(some 13), (some (9, false)), (.cmpb .gtr (.tmp 12) (.const (.int .i64 45)))⟩, ⟨(some 14), none, (.pur ⟨(some 14), (.pick (.tmp 9) (.const (.bool true)) (.tmp 13)), 4, "", (List.toArray []), none⟩)⟩, ⟨(some 15), none, (.mov (.tmp 14))⟩, ⟨(some 16), (some (15, false)), (.mov (.tmp 1))⟩, ⟨(some 17), (some (15, false)), (.len (.tmp 16))⟩, ⟨(some 18), (some (15, false)), (.cmpb .gtr (.tmp 17) (.const (.int .i64 45)))⟩, ⟨(some 19), none, (.pur ⟨(some 19), (.pick (.tmp 15) (.const (.bool true)) (.tmp 18)), 4, "", (List.toArray []), none⟩)⟩, ⟨(some 4), none, (.mov (.tmp 19))⟩])
  .ret))
theorem L13 : low Try.prog Try.f13.ntmps (at_ Try.f13 []) = some R13 := by kernel_rfl
theorem N15 : Try.f15.ntmps = 24 := by kernel_rfl
theorem Z15 : Try.f15.results.toList = ((List.toArray [(.cell 6 24), (.tmp 7)]) : Array ResultVar).toList := by kernel_rfl
theorem B15 : Try.f15.body = some (at_ Try.f15 []) := by kernel_rfl
noncomputable def R15 : RC := (.seq (.reg [⟨(some 3), none, (.box 26 (.tmp 0))⟩, ⟨(some 6), none, (.alc 24 [(.int .i64 0), (.int .i64 0)])⟩, ⟨(some 7), none, (.mov (.const (.int .i64 0)))⟩])
  (.seq (.reg [⟨(some 11), none, (.lda (.tmp 3) 13)⟩, ⟨(some 12), none, (.mov (.tmp 1))⟩, ⟨(some 13), none, (.mov (.tmp 2))⟩, ⟨(some 14), none, (.call ⟨(.value (.func 38)), (List.toArray [(.tmp 11), (.tmp 12), (.tmp 13), (.const (.slice none 0 0))]), (List.toArray [26, 3, 3, 27])⟩ true)⟩, ⟨(some 10), none, (.mov (.tmp 14))⟩, ⟨(some 15), none, (.pur ⟨(some 15), (.extract (.tmp 10) 0), 65, "", (List.toArray []), none⟩)⟩, ⟨(some 16), none, (.pur ⟨(some 16), (.extract (.tmp 10) 1), 30, "", (List.toArray []), none⟩)⟩, ⟨(some 8), none, (.alc 65 [(.slice none 0 0), (.slice none 0 0), (.int .i64 0), (.int .i64 0), (.int .i64 0), (.int .i64 0), (.int .i64 0), (.int .i64 0), (.int .i64 0), (.int .i64 0), (.int .i64 0), (.int .i64 0), (.int .i64 0), (.int .i64 0), (.int .i64 0), (.int .u64 0)])⟩, ⟨none, none, (.sta (.tmp 8) (.tmp 15) 16)⟩, ⟨(some 9), none, (.mov (.tmp 16))⟩])
  (.seq (.seq (.reg [⟨(some 17), none, (.mov (.tmp 9))⟩, ⟨(some 18), none, (.cmp .neq (.tmp 17) (.const (.int .i64 0)))⟩])
  (.cond (.tmp 18) (.seq (.reg [⟨(some 19), none, (.pur ⟨(some 19), (.build 24 (List.toArray [])), 24, "", (List.toArray []), none⟩)⟩, ⟨(some 20), none, (.mov (.tmp 9))⟩, ⟨none, none, (.sta (.tmp 6) (.tmp 19) 2)⟩, ⟨(some 7), none, (.mov (.tmp 20))⟩])
  .ret)
  .skip))
  (.seq (.reg [⟨(some 21), none, (.lda (.tmp 8) 16)⟩, ⟨(some 22), none, (.call ⟨(.value (.func 39)), (List.toArray [(.tmp 21)]), (List.toArray [65])⟩ true)⟩, ⟨(some 23), none, (.pur ⟨(some 23), (.field 72 (.tmp 22) 1), 24, "", (List.toArray []), none⟩)⟩, ⟨none, none, (.sta (.tmp 6) (.tmp 23) 2)⟩, ⟨(some 7), none, (.mov (.const (.int .i64 0)))⟩])
  .ret))))
theorem L15 : low Try.prog Try.f15.ntmps (at_ Try.f15 []) = some R15 := by kernel_rfl
theorem N17 : Try.f17.ntmps = 37 := by kernel_rfl
theorem Z17 : Try.f17.results.toList = ((List.toArray [(.tmp 8), (.tmp 9)]) : Array ResultVar).toList := by kernel_rfl
theorem B17 : Try.f17.body = some (at_ Try.f17 []) := by kernel_rfl
noncomputable def R17 : RC := (.seq (.reg [⟨(some 4), none, (.box 26 (.tmp 0))⟩, ⟨(some 8), none, (.mov (.const (.slice none 0 0)))⟩, ⟨(some 9), none, (.mov (.const (.int .i64 0)))⟩])
  (.seq (.reg [⟨(some 15), none, (.lda (.tmp 4) 13)⟩, ⟨(some 16), none, (.mov (.tmp 1))⟩, ⟨(some 17), none, (.mov (.tmp 2))⟩, ⟨(some 18), none, (.mov (.tmp 3))⟩, ⟨(some 19), none, (.call ⟨(.value (.func 38)), (List.toArray [(.tmp 15), (.tmp 16), (.tmp 17), (.tmp 18)]), (List.toArray [26, 3, 3, 27])⟩ true)⟩, ⟨(some 14), none, (.mov (.tmp 19))⟩, ⟨(some 20), none, (.pur ⟨(some 20), (.extract (.tmp 14) 0), 65, "", (List.toArray []), none⟩)⟩, ⟨(some 21), none, (.pur ⟨(some 21), (.extract (.tmp 14) 1), 30, "", (List.toArray []), none⟩)⟩, ⟨(some 10), none, (.alc 65 [(.slice none 0 0), (.slice none 0 0), (.int .i64 0), (.int .i64 0), (.int .i64 0), (.int .i64 0), (.int .i64 0), (.int .i64 0), (.int .i64 0), (.int .i64 0), (.int .i64 0), (.int .i64 0), (.int .i64 0), (.int .i64 0), (.int .i64 0), (.int .u64 0)])⟩, ⟨none, none, (.sta (.tmp 10) (.tmp 20) 16)⟩, ⟨(some 11), none, (.mov (.tmp 21))⟩])
  (.seq (.seq (.reg [⟨(some 22), none, (.mov (.tmp 11))⟩, ⟨(some 23), none, (.cmp .neq (.tmp 22) (.const (.int .i64 0)))⟩])
  (.cond (.tmp 23) (.seq (.reg [⟨(some 24), none, (.mov (.tmp 11))⟩, ⟨(some 8), none, (.mov (.const (.slice none 0 0)))⟩, ⟨(some 9), none, (.mov (.tmp 24))⟩])
  .ret)
  .skip))
  (.seq (.reg [⟨(some 12), none, (.alc 22 [(.slice none 0 0)])⟩])
  (.seq (.seq (.reg [⟨(some 25), none, (.lda (.tmp 10) 16)⟩, ⟨(some 26), none, (.call ⟨(.value (.func 41)), (List.toArray [(.tmp 25)]), (List.toArray [65])⟩ true)⟩])
  (.block 0 (.other (at_ Try.f17 [1, 1, 1, 1, 0, 1, 0]))))
  (.seq (.reg [⟨(some 36), none, (.ld (.tmp 12) 1)⟩, ⟨(some 8), none, (.mov (.tmp 36))⟩, ⟨(some 9), none, (.mov (.const (.int .i64 0)))⟩])
  .ret))))))
theorem L17 : low Try.prog Try.f17.ntmps (at_ Try.f17 []) = some R17 := by kernel_rfl
theorem E17_1 : at_ Try.f17 [1, 1, 1, 1, 0, 1, 0] = .rangeFunc (.tmp 26) ((List.toArray [27])) (at_ Try.f17 [1, 1, 1, 1, 0, 1, 0, 0]) (at_ Try.f17 [1, 1, 1, 1, 0, 1, 0, 1]) := by kernel_rfl
noncomputable def R17x1 : RC := (.reg [⟨(some 13), none, (.alc 72 [(.int .i64 0), (.int .i64 0), (.int .i64 0), (.int .i64 0), (.int .i64 0), (.int .i64 0), (.int .i64 0)])⟩, ⟨none, none, (.sta (.tmp 13) (.tmp 27) 7)⟩])
theorem L17x1 : low Try.prog Try.f17.ntmps (at_ Try.f17 [1, 1, 1, 1, 0, 1, 0, 0]) = some R17x1 := by kernel_rfl
noncomputable def R17x2 : RC := (.block 1 (.seq (.reg [⟨(some 28), none, (.addo (.tmp 13) 0)⟩, ⟨(some 29), none, (.ld (.tmp 28) 1)⟩, ⟨(some 30), none, (.cmp .gtr (.tmp 29) (.const (.int .i64 0)))⟩])
  (.cond (.tmp 30) (.dreg [⟨(some 31), none, (.ld (.tmp 12) 1)⟩, ⟨(some 32), none, (.lda (.tmp 13) 7)⟩, ⟨(some 33), none, (.call ⟨(.value (.func 42)), (List.toArray [(.tmp 32)]), (List.toArray [72])⟩ false)⟩, ⟨(some 34), none, (.mem ⟨(some 34), (.buildSlice 22 1 (List.toArray [(0, (.tmp 33))])), 22, "", (List.toArray []), none⟩)⟩, ⟨(some 35), none, (.mem ⟨(some 35), (.call ⟨(.builtin .append), (List.toArray [(.tmp 31), (.tmp 34)]), (List.toArray [22, 22])⟩), 22, "", (List.toArray []), none⟩)⟩, ⟨none, none, (.st (.tmp 12) (.tmp 35))⟩] [31, 15, 6, 2, 0, 0])
  .skip)))
theorem L17x2 : low Try.prog Try.f17.ntmps (at_ Try.f17 [1, 1, 1, 1, 0, 1, 0, 1]) = some R17x2 := by kernel_rfl
theorem N19 : Try.f19.ntmps = 54 := by kernel_rfl
theorem Z19 : Try.f19.results.toList = ((List.toArray [(.tmp 8), (.tmp 9), (.tmp 10)]) : Array ResultVar).toList := by kernel_rfl
theorem B19 : Try.f19.body = some (at_ Try.f19 []) := by kernel_rfl
noncomputable def R19 : RC := (.seq (.reg [⟨(some 4), none, (.box 26 (.tmp 0))⟩, ⟨(some 8), none, (.mov (.const (.int .i64 0)))⟩, ⟨(some 9), none, (.mov (.const (.int .i64 0)))⟩, ⟨(some 10), none, (.mov (.const (.int .i64 0)))⟩])
  (.seq (.reg [⟨(some 14), none, (.lda (.tmp 4) 13)⟩, ⟨(some 15), none, (.mov (.tmp 1))⟩, ⟨(some 16), none, (.mov (.tmp 2))⟩, ⟨(some 17), none, (.mov (.tmp 3))⟩, ⟨(some 18), none, (.call ⟨(.value (.func 38)), (List.toArray [(.tmp 14), (.tmp 15), (.tmp 16), (.tmp 17)]), (List.toArray [26, 3, 3, 27])⟩ true)⟩, ⟨(some 13), none, (.mov (.tmp 18))⟩, ⟨(some 19), none, (.pur ⟨(some 19), (.extract (.tmp 13) 0), 65, "", (List.toArray []), none⟩)⟩, ⟨(some 20), none, (.pur ⟨(some 20), (.extract (.tmp 13) 1), 30, "", (List.toArray []), none⟩)⟩, ⟨(some 11), none, (.alc 65 [(.slice none 0 0), (.slice none 0 0), (.int .i64 0), (.int .i64 0), (.int .i64 0), (.int .i64 0), (.int .i64 0), (.int .i64 0), (.int .i64 0), (.int .i64 0), (.int .i64 0), (.int .i64 0), (.int .i64 0), (.int .i64 0), (.int .i64 0), (.int .u64 0)])⟩, ⟨none, none, (.sta (.tmp 11) (.tmp 19) 16)⟩, ⟨(some 10), none, (.mov (.tmp 20))⟩])
  (.seq (.seq (.reg [⟨(some 21), none, (.mov (.tmp 10))⟩, ⟨(some 22), none, (.cmp .neq (.tmp 21) (.const (.int .i64 0)))⟩])
  (.cond (.tmp 22) (.seq (.reg [⟨(some 23), none, (.mov (.tmp 10))⟩, ⟨(some 8), none, (.mov (.const (.int .i64 0)))⟩, ⟨(some 9), none, (.mov (.const (.int .i64 0)))⟩, ⟨(some 10), none, (.mov (.tmp 23))⟩])
  .ret)
  .skip))
  (.seq (.reg [⟨(some 24), none, (.lda (.tmp 11) 16)⟩, ⟨(some 25), none, (.call ⟨(.value (.func 39)), (List.toArray [(.tmp 24)]), (List.toArray [65])⟩ true)⟩, ⟨(some 12), none, (.alc 72 [(.int .i64 0), (.int .i64 0), (.int .i64 0), (.int .i64 0), (.int .i64 0), (.int .i64 0), (.int .i64 0)])⟩, ⟨none, none, (.sta (.tmp 12) (.tmp 25) 7)⟩])
  (.seq (.reg [⟨(some 26), none, (.addo (.tmp 12) 1)⟩, ⟨(some 27), none, (.addo (.tmp 26) 0)⟩, ⟨(some 28), none, (.ld (.tmp 27) 1)⟩, ⟨(some 29), none, (.addo (.tmp 4) 10)⟩, ⟨(some 30), none, (.ld (.tmp 29) 1)⟩, ⟨(some 31), none, (.cmp .geq (.tmp 28) (.tmp 30))⟩, ⟨(some 32), none, (.addo (.tmp 12) 1)⟩, ⟨(some 33), none, (.addo (.tmp 32) 1)⟩, ⟨(some 34), none, (.ld (.tmp 33) 1)⟩, ⟨(some 35), none, (.addo (.tmp 4) 10)⟩, ⟨(some 36), none, (.ld (.tmp 35) 1)⟩, ⟨(some 37), none, (.cmp .geq (.tmp 34) (.tmp 36))⟩, ⟨(some 38), none, (.call ⟨(.value (.func 44)), (List.toArray [(.tmp 31), (.tmp 37)]), (List.toArray [4, 4])⟩ true)⟩, ⟨(some 8), none, (.mov (.tmp 38))⟩])
  (.seq (.reg [⟨(some 39), none, (.addo (.tmp 12) 5)⟩, ⟨(some 40), none, (.addo (.tmp 39) 1)⟩, ⟨(some 41), none, (.ld (.tmp 40) 1)⟩, ⟨(some 42), none, (.addo (.tmp 4) 12)⟩, ⟨(some 43), none, (.ld (.tmp 42) 1)⟩, ⟨(some 44), none, (.cmp .gtr (.tmp 41) (.tmp 43))⟩, ⟨(some 45), none, (.addo (.tmp 12) 3)⟩, ⟨(some 46), none, (.addo (.tmp 45) 1)⟩, ⟨(some 47), none, (.ld (.tmp 46) 1)⟩, ⟨(some 48), none, (.addo (.tmp 4) 12)⟩, ⟨(some 49), none, (.ld (.tmp 48) 1)⟩, ⟨(some 50), none, (.cmp .gtr (.tmp 47) (.tmp 49))⟩, ⟨(some 51), none, (.call ⟨(.value (.func 44)), (List.toArray [(.tmp 44), (.tmp 50)]), (List.toArray [4, 4])⟩ true)⟩, ⟨(some 9), none, (.mov (.tmp 51))⟩])
  (.seq (.reg [⟨(some 52), none, (.mov (.tmp 8))⟩, ⟨(some 53), none, (.mov (.tmp 9))⟩, ⟨(some 8), none, (.mov (.tmp 52))⟩, ⟨(some 9), none, (.mov (.tmp 53))⟩, ⟨(some 10), none, (.mov (.const (.int .i64 0)))⟩])
  .ret)))))))
theorem L19 : low Try.prog Try.f19.ntmps (at_ Try.f19 []) = some R19 := by kernel_rfl
theorem N33 : Try.f33.ntmps = 84 := by kernel_rfl
theorem Z33 : Try.f33.results.toList = ((List.toArray [(.tmp 2)]) : Array ResultVar).toList := by kernel_rfl
theorem B33 : Try.f33.body = some (at_ Try.f33 []) := by kernel_rfl
noncomputable def R33 : RC := (.seq (.reg [⟨(some 1), none, (.box 26 (.tmp 0))⟩, ⟨(some 2), none, (.mov (.const (.bool false)))⟩])
  (.seq (.seq (.reg [⟨(some 5), none, (.addo (.tmp 1) 0)⟩, ⟨(some 6), none, (.ld (.tmp 5) 1)⟩, ⟨(some 7), none, (.len (.tmp 6))⟩, ⟨(some 8), none, (.addo (.tmp 1) 1)⟩, ⟨(some 9), none, (.ld (.tmp 8) 1)⟩, ⟨(some 10), none, (.len (.tmp 9))⟩, ⟨(some 11), none, (.cmpb .neq (.tmp 7) (.tmp 10))⟩, ⟨(some 12), none, (.mov (.tmp 11))⟩, ⟨(some 13), (some (12, false)), (.addo (.tmp 1) 0)⟩, ⟨(some 14), (some (12, false)), (.ld (.tmp 13) 1)⟩, ⟨(some 15), (some (12, false)), (.len (.tmp 14))⟩, ⟨(some 16), (some (12, false)), (.cmpb .gtr (.tmp 15) (.const (.int .i64 40)))⟩, ⟨(some 17), none, (.pur ⟨(some 17), (.pick (.tmp 12) (.const (.bool true)) (.tmp 16)), 4, "", (List.toArray []), none⟩)⟩])
  (.cond (.tmp 17) (.seq (.reg [⟨(some 2), none, (.mov (.const (.bool false)))⟩])
  .ret)
  .skip))
  (.seq (.seq (.reg [⟨(some 3), none, (.mov (.const (.int .i64 0)))⟩])
  (.block 0 (.other (at_ Try.f33 [1, 1, 0, 1, 0]))))
  (.seq (.reg [⟨(some 41), none, (.addo (.tmp 1) 8)⟩, ⟨(some 42), none, (.ld (.tmp 41) 1)⟩, ⟨(some 43), none, (.call ⟨(.value (.func 49)), (List.toArray [(.tmp 42), (.const (.int .i64 0)), (.const (.int .i64 20000))]), (List.toArray [3, 3, 3])⟩ true)⟩, ⟨(some 44), none, (.mov (.tmp 43))⟩, ⟨(some 45), (some (44, true)), (.addo (.tmp 1) 4)⟩, ⟨(some 46), (some (44, true)), (.lda (.tmp 45) 2)⟩, ⟨(some 47), (some (44, true)), (.addo (.tmp 1) 8)⟩, ⟨(some 48), (some (44, true)), (.ld (.tmp 47) 1)⟩, ⟨(some 49), (some (44, true)), (.call ⟨(.value (.func 56)), (List.toArray [(.tmp 46), (.const (.int .i64 0)), (.tmp 48)]), (List.toArray [24, 3, 3])⟩ true)⟩, ⟨(some 50), none, (.pur ⟨(some 50), (.pick (.tmp 44) (.tmp 49) (.const (.bool false))), 4, "", (List.toArray []), none⟩)⟩, ⟨(some 51), none, (.mov (.tmp 50))⟩, ⟨(some 52), (some (51, true)), (.addo (.tmp 1) 6)⟩, ⟨(some 53), (some (51, true)), (.lda (.tmp 52) 2)⟩, ⟨(some 54), (some (51, true)), (.addo (.tmp 1) 8)⟩, ⟨(some 55), (some (51, true)), (.ld (.tmp 54) 1)⟩, ⟨(some 56), (some (51, true)), (.call ⟨(.value (.func 56)), (List.toArray [(.tmp 53), (.const (.int .i64 0)), (.tmp 55)]), (List.toArray [24, 3, 3])⟩ true)⟩, ⟨(some 57), none, (.pur ⟨(some 57), (.pick (.tmp 51) (.tmp 56) (.const (.bool false))), 4, "", (List.toArray []), none⟩)⟩, ⟨(some 58), none, (.mov (.tmp 57))⟩, ⟨(some 59), (some (58, true)), (.addo (.tmp 1) 2)⟩, ⟨(some 60), (some (58, true)), (.lda (.tmp 59) 2)⟩, ⟨(some 61), (some (58, true)), (.call ⟨(.value (.func 56)), (List.toArray [(.tmp 60), (.const (.int .i64 0)), (.const (.int .i64 1000))]), (List.toArray [24, 3, 3])⟩ true)⟩, ⟨(some 62), none, (.pur ⟨(some 62), (.pick (.tmp 58) (.tmp 61) (.const (.bool false))), 4, "", (List.toArray []), none⟩)⟩, ⟨(some 4), none, (.mov (.tmp 62))⟩])
  (.seq (.reg [⟨(some 63), none, (.mov (.tmp 4))⟩, ⟨(some 64), none, (.mov (.tmp 63))⟩, ⟨(some 65), (some (64, true)), (.addo (.tmp 1) 9)⟩, ⟨(some 66), (some (64, true)), (.ld (.tmp 65) 1)⟩, ⟨(some 67), (some (64, true)), (.call ⟨(.value (.func 49)), (List.toArray [(.tmp 66), (.const (.int .i64 0)), (.const (.int .i64 5000))]), (List.toArray [3, 3, 3])⟩ true)⟩, ⟨(some 68), none, (.pur ⟨(some 68), (.pick (.tmp 64) (.tmp 67) (.const (.bool false))), 4, "", (List.toArray []), none⟩)⟩, ⟨(some 69), none, (.mov (.tmp 68))⟩, ⟨(some 70), (some (69, true)), (.addo (.tmp 1) 10)⟩, ⟨(some 71), (some (69, true)), (.ld (.tmp 70) 1)⟩, ⟨(some 72), (some (69, true)), (.call ⟨(.value (.func 49)), (List.toArray [(.tmp 71), (.const (.int .i64 0)), (.const (.int .i64 1048576))]), (List.toArray [3, 3, 3])⟩ true)⟩, ⟨(some 73), none, (.pur ⟨(some 73), (.pick (.tmp 69) (.tmp 72) (.const (.bool false))), 4, "", (List.toArray []), none⟩)⟩, ⟨(some 74), none, (.mov (.tmp 73))⟩, ⟨(some 75), (some (74, true)), (.addo (.tmp 1) 11)⟩, ⟨(some 76), (some (74, true)), (.ld (.tmp 75) 1)⟩, ⟨(some 77), (some (74, true)), (.call ⟨(.value (.func 49)), (List.toArray [(.tmp 76), (.const (.int .i64 0)), (.const (.int .i64 20000))]), (List.toArray [3, 3, 3])⟩ true)⟩, ⟨(some 78), none, (.pur ⟨(some 78), (.pick (.tmp 74) (.tmp 77) (.const (.bool false))), 4, "", (List.toArray []), none⟩)⟩, ⟨(some 79), none, (.mov (.tmp 78))⟩, ⟨(some 80), (some (79, true)), (.addo (.tmp 1) 12)⟩, ⟨(some 81), (some (79, true)), (.ld (.tmp 80) 1)⟩, ⟨(some 82), (some (79, true)), (.call ⟨(.value (.func 49)), (List.toArray [(.tmp 81), (.const (.int .i64 0)), (.const (.int .i64 40))]), (List.toArray [3, 3, 3])⟩ true)⟩, ⟨(some 83), none, (.pur ⟨(some 83), (.pick (.tmp 79) (.tmp 82) (.const (.bool false))), 4, "", (List.toArray []), none⟩)⟩, ⟨(some 2), none, (.mov (.tmp 83))⟩])
  .ret)))))
theorem L33 : low Try.prog Try.f33.ntmps (at_ Try.f33 []) = some R33 := by kernel_rfl
theorem E33_1 : at_ Try.f33 [1, 1, 0, 1, 0] = .loop (at_ Try.f33 [1, 1, 0, 1, 0, 0]) := by kernel_rfl
noncomputable def R33x1 : RC := (.seq (.seq (.reg [⟨(some 18), none, (.mov (.tmp 3))⟩, ⟨(some 19), none, (.addo (.tmp 1) 0)⟩, ⟨(some 20), none, (.ld (.tmp 19) 1)⟩, ⟨(some 21), none, (.len (.tmp 20))⟩, ⟨(some 22), none, (.cmp .lss (.tmp 18) (.tmp 21))⟩])
  (.cond (.tmp 22) .skip
  (.exit 0)))
  (.seq (.block 1 (.seq (.reg [⟨(some 25), none, (.addo (.tmp 1) 0)⟩, ⟨(some 26), none, (.ld (.tmp 25) 1)⟩, ⟨(some 27), none, (.mov (.tmp 3))⟩, ⟨(some 28), none, (.idx (.tmp 26) (.tmp 27) 2)⟩, ⟨(some 29), none, (.lda (.tmp 28) 2)⟩, ⟨(some 30), none, (.call ⟨(.value (.func 56)), (List.toArray [(.tmp 29), (.const (.int .i64 0)), (.const (.int .i64 5000))]), (List.toArray [24, 3, 3])⟩ true)⟩, ⟨(some 31), none, (.pur ⟨(some 31), (.unOp .not 4 (.tmp 30)), 4, "", (List.toArray []), none⟩)⟩, ⟨(some 32), none, (.mov (.tmp 31))⟩, ⟨(some 33), (some (32, false)), (.addo (.tmp 1) 1)⟩, ⟨(some 34), (some (32, false)), (.ld (.tmp 33) 1)⟩, ⟨(some 35), (some (32, false)), (.mov (.tmp 3))⟩, ⟨(some 36), (some (32, false)), (.idx (.tmp 34) (.tmp 35) 2)⟩, ⟨(some 37), (some (32, false)), (.lda (.tmp 36) 2)⟩, ⟨(some 38), (some (32, false)), (.call ⟨(.value (.func 56)), (List.toArray [(.tmp 37), (.const (.int .i64 0)), (.const (.int .i64 20000))]), (List.toArray [24, 3, 3])⟩ true)⟩, ⟨(some 39), (some (32, false)), (.pur ⟨(some 39), (.unOp .not 4 (.tmp 38)), 4, "", (List.toArray []), none⟩)⟩, ⟨(some 40), none, (.pur ⟨(some 40), (.pick (.tmp 32) (.const (.bool true)) (.tmp 39)), 4, "", (List.toArray []), none⟩)⟩])
  (.cond (.tmp 40) (.seq (.reg [⟨(some 2), none, (.mov (.const (.bool false)))⟩])
  .ret)
  .skip)))
  (.reg [⟨(some 23), none, (.mov (.tmp 3))⟩, ⟨(some 24), none, (.ari .add (.tmp 23) (.const (.int .i64 1)))⟩, ⟨(some 3), none, (.mov (.tmp 24))⟩])))
theorem L33x1 : low Try.prog Try.f33.ntmps (at_ Try.f33 [1, 1, 0, 1, 0, 0]) = some R33x1 := by kernel_rfl
theorem N34 : Try.f34.ntmps = 59 := by kernel_rfl
theorem Z34 : Try.f34.results.toList = ((List.toArray [(.tmp 8)]) : Array ResultVar).toList := by kernel_rfl
theorem B34 : Try.f34.body = some (at_ Try.f34 []) := by kernel_rfl
noncomputable def R34 : RC := (.seq (.reg [⟨(some 4), none, (.box 26 (.tmp 0))⟩, ⟨(some 8), none, (.mov (.const (.bool false)))⟩])
  (.seq (.seq (.reg [⟨(some 10), none, (.mov (.tmp 1))⟩, ⟨(some 11), none, (.addo (.tmp 4) 0)⟩, ⟨(some 12), none, (.ld (.tmp 11) 1)⟩, ⟨(some 13), none, (.len (.tmp 12))⟩, ⟨(some 14), none, (.call ⟨(.value (.func 49)), (List.toArray [(.tmp 10), (.const (.int .i64 0)), (.tmp 13)]), (List.toArray [3, 3, 3])⟩ true)⟩, ⟨(some 15), none, (.pur ⟨(some 15), (.unOp .not 4 (.tmp 14)), 4, "", (List.toArray []), none⟩)⟩, ⟨(some 16), none, (.mov (.tmp 15))⟩, ⟨(some 17), (some (16, false)), (.mov (.tmp 2))⟩, ⟨(some 18), (some (16, false)), (.addo (.tmp 4) 0)⟩, ⟨(some 19), (some (16, false)), (.ld (.tmp 18) 1)⟩, ⟨(some 20), (some (16, false)), (.len (.tmp 19))⟩, ⟨(some 21), (some (16, false)), (.mov (.tmp 1))⟩, ⟨(some 22), (some (16, false)), (.ari .sub (.tmp 20) (.tmp 21))⟩, ⟨(some 23), (some (16, false)), (.call ⟨(.value (.func 49)), (List.toArray [(.tmp 17), (.const (.int .i64 0)), (.tmp 22)]), (List.toArray [3, 3, 3])⟩ true)⟩, ⟨(some 24), (some (16, false)), (.pur ⟨(some 24), (.unOp .not 4 (.tmp 23)), 4, "", (List.toArray []), none⟩)⟩, ⟨(some 25), none, (.pur ⟨(some 25), (.pick (.tmp 16) (.const (.bool true)) (.tmp 24)), 4, "", (List.toArray []), none⟩)⟩])
  (.cond (.tmp 25) (.seq (.reg [⟨(some 8), none, (.mov (.const (.bool false)))⟩])
  .ret)
  .skip))
  (.seq (.seq (.reg [⟨(some 9), none, (.mov (.const (.int .i64 0)))⟩])
  (.block 0 (.other (at_ Try.f34 [1, 1, 0, 1, 0]))))
  (.seq (.reg [⟨(some 8), none, (.mov (.const (.bool true)))⟩])
  .ret))))
theorem L34 : low Try.prog Try.f34.ntmps (at_ Try.f34 []) = some R34 := by kernel_rfl
theorem E34_1 : at_ Try.f34 [1, 1, 0, 1, 0] = .loop (at_ Try.f34 [1, 1, 0, 1, 0, 0]) := by kernel_rfl
noncomputable def R34x1 : RC := (.seq (.seq (.reg [⟨(some 26), none, (.mov (.tmp 9))⟩, ⟨(some 27), none, (.mov (.tmp 3))⟩, ⟨(some 28), none, (.len (.tmp 27))⟩, ⟨(some 29), none, (.cmp .lss (.tmp 26) (.tmp 28))⟩])
  (.cond (.tmp 29) .skip
  (.exit 0)))
  (.seq (.block 1 (.seq (.dreg [⟨(some 32), none, (.mov (.tmp 3))⟩, ⟨(some 33), none, (.mov (.tmp 9))⟩, ⟨(some 34), none, (.idx (.tmp 32) (.tmp 33) 1)⟩, ⟨(some 35), none, (.ld (.tmp 34) 1)⟩, ⟨(some 36), none, (.mov (.tmp 1))⟩, ⟨(some 37), none, (.mov (.tmp 1))⟩, ⟨(some 38), none, (.mov (.tmp 2))⟩, ⟨(some 39), none, (.ari .add (.tmp 37) (.tmp 38))⟩, ⟨(some 40), none, (.ari .sub (.tmp 39) (.const (.int .i64 1)))⟩, ⟨(some 41), none, (.call ⟨(.value (.func 49)), (List.toArray [(.tmp 35), (.tmp 36), (.tmp 40)]), (List.toArray [3, 3, 3])⟩ true)⟩, ⟨(some 42), none, (.pur ⟨(some 42), (.unOp .not 4 (.tmp 41)), 4, "", (List.toArray []), none⟩)⟩, ⟨(some 43), none, (.mov (.tmp 42))⟩, ⟨(some 44), (some (43, false)), (.mov (.tmp 9))⟩, ⟨(some 45), (some (43, false)), (.cmpb .gtr (.tmp 44) (.const (.int .i64 0)))⟩, ⟨(some 46), (some (43, false)), (.mov (.tmp 45))⟩, ⟨(some 47), (some (46, true)), (.mov (.tmp 3))⟩, ⟨(some 48), (some (46, true)), (.mov (.tmp 9))⟩, ⟨(some 49), (some (46, true)), (.idx (.tmp 47) (.tmp 48) 1)⟩, ⟨(some 50), (some (46, true)), (.ld (.tmp 49) 1)⟩, ⟨(some 51), (some (46, true)), (.mov (.tmp 3))⟩, ⟨(some 52), (some (46, true)), (.mov (.tmp 9))⟩, ⟨(some 53), (some (46, true)), (.ari .sub (.tmp 52) (.const (.int .i64 1)))⟩, ⟨(some 54), (some (46, true)), (.idx (.tmp 51) (.tmp 53) 1)⟩, ⟨(some 55), (some (46, true)), (.ld (.tmp 54) 1)⟩, ⟨(some 56), (some (46, true)), (.cmpb .leq (.tmp 50) (.tmp 55))⟩, ⟨(some 57), (some (43, false)), (.pur ⟨(some 57), (.pick (.tmp 46) (.tmp 56) (.const (.bool false))), 4, "", (List.toArray []), none⟩)⟩, ⟨(some 58), none, (.pur ⟨(some 58), (.pick (.tmp 43) (.const (.bool true)) (.tmp 57)), 4, "", (List.toArray []), none⟩)⟩] [67108863, 33554431, 16777215, 7897087, 3702783, 1081343, 32767, 32767, 262143, 131071, 32767, 32767, 16383, 8191, 4095, 2047, 1023, 511, 224, 96, 0, 0, 0, 7, 3, 0, 0])
  (.cond (.tmp 58) (.seq (.reg [⟨(some 8), none, (.mov (.const (.bool false)))⟩])
  .ret)
  .skip)))
  (.reg [⟨(some 30), none, (.mov (.tmp 9))⟩, ⟨(some 31), none, (.ari .add (.tmp 30) (.const (.int .i64 1)))⟩, ⟨(some 9), none, (.mov (.tmp 31))⟩])))
theorem L34x1 : low Try.prog Try.f34.ntmps (at_ Try.f34 [1, 1, 0, 1, 0, 0]) = some R34x1 := by kernel_rfl
theorem N35 : Try.f35.ntmps = 127 := by kernel_rfl
theorem Z35 : Try.f35.results.toList = ((List.toArray [(.tmp 10), (.tmp 11)]) : Array ResultVar).toList := by kernel_rfl
theorem B35 : Try.f35.body = some (at_ Try.f35 []) := by kernel_rfl
noncomputable def R35 : RC := (.seq (.reg [⟨(some 5), none, (.box 26 (.tmp 0))⟩, ⟨(some 10), none, (.mov (.const (.slice none 0 0)))⟩, ⟨(some 11), none, (.mov (.const (.int .i64 0)))⟩])
  (.seq (.reg [⟨(some 12), none, (.mov (.const (.slice none 0 0)))⟩])
  (.seq (.dreg [⟨(some 20), none, (.addo (.tmp 5) 4)⟩, ⟨(some 21), none, (.lda (.tmp 20) 2)⟩, ⟨(some 22), none, (.mov (.tmp 4))⟩, ⟨(some 23), none, (.idx (.tmp 22) (.const (.int .i64 0)) 1)⟩, ⟨(some 24), none, (.ld (.tmp 23) 1)⟩, ⟨(some 25), none, (.call ⟨(.value (.func 57)), (List.toArray [(.tmp 21), (.tmp 24)]), (List.toArray [24, 94])⟩ true)⟩, ⟨(some 13), none, (.mov (.tmp 25))⟩, ⟨(some 14), none, (.mov (.const (.int .i64 0)))⟩] [127, 63, 31, 12, 4, 0, 1, 0])
  (.seq (.seq (.reg [⟨(some 26), none, (.mov (.tmp 1))⟩, ⟨(some 15), none, (.mov (.tmp 26))⟩])
  (.block 0 (.other (at_ Try.f35 [1, 1, 1, 0, 1, 0]))))
  (.seq (.reg [⟨(some 125), none, (.mov (.tmp 12))⟩, ⟨(some 126), none, (.mov (.tmp 14))⟩, ⟨(some 10), none, (.mov (.tmp 125))⟩, ⟨(some 11), none, (.mov (.tmp 126))⟩])
  .ret)))))
theorem L35 : low Try.prog Try.f35.ntmps (at_ Try.f35 []) = some R35 := by kernel_rfl
theorem E35_1 : at_ Try.f35 [1, 1, 1, 0, 1, 0] = .loop (at_ Try.f35 [1, 1, 1, 0, 1, 0, 0]) := by kernel_rfl
noncomputable def R35x1 : RC := (.seq (.seq (.reg [⟨(some 27), none, (.mov (.tmp 15))⟩, ⟨(some 28), none, (.mov (.tmp 1))⟩, ⟨(some 29), none, (.mov (.tmp 2))⟩, ⟨(some 30), none, (.ari .add (.tmp 28) (.tmp 29))⟩, ⟨(some 31), none, (.cmp .lss (.tmp 27) (.tmp 30))⟩])
  (.cond (.tmp 31) .skip
  (.exit 0)))
  (.seq (.block 1 (.seq (.dreg [⟨(some 34), none, (.addo (.tmp 5) 0)⟩, ⟨(some 35), none, (.ld (.tmp 34) 1)⟩, ⟨(some 36), none, (.mov (.tmp 15))⟩, ⟨(some 37), none, (.idx (.tmp 35) (.tmp 36) 2)⟩, ⟨(some 38), none, (.lda (.tmp 37) 2)⟩, ⟨(some 39), none, (.mov (.tmp 4))⟩, ⟨(some 40), none, (.mov (.tmp 15))⟩, ⟨(some 41), none, (.mov (.tmp 4))⟩, ⟨(some 42), none, (.len (.tmp 41))⟩, ⟨(some 43), none, (.ari .rem (.tmp 40) (.tmp 42))⟩, ⟨(some 44), none, (.idx (.tmp 39) (.tmp 43) 1)⟩, ⟨(some 45), none, (.ld (.tmp 44) 1)⟩, ⟨(some 46), none, (.call ⟨(.value (.func 57)), (List.toArray [(.tmp 38), (.tmp 45)]), (List.toArray [24, 94])⟩ true)⟩, ⟨(some 16), none, (.mov (.tmp 46))⟩] [8191, 4095, 2016, 992, 448, 128, 0, 0, 0, 15, 7, 0, 1, 0])
  (.seq (.reg [⟨(some 47), none, (.mov (.tmp 14))⟩, ⟨(some 48), none, (.mov (.tmp 16))⟩, ⟨(some 49), none, (.addo (.tmp 5) 9)⟩, ⟨(some 50), none, (.ld (.tmp 49) 1)⟩, ⟨(some 51), none, (.ari .sub (.tmp 48) (.tmp 50))⟩, ⟨(some 52), none, (.mm false (.const (.int .i64 0)) (.tmp 51))⟩, ⟨(some 53), none, (.ari .add (.tmp 47) (.tmp 52))⟩, ⟨(some 14), none, (.mov (.tmp 53))⟩])
  (.seq (.seq (.reg [⟨(some 54), none, (.mov (.tmp 3))⟩, ⟨(some 55), none, (.len (.tmp 54))⟩, ⟨(some 56), none, (.mov (.const (.int .i64 0)))⟩])
  (.block 2 (.other (at_ Try.f35 [1, 1, 1, 0, 1, 0, 0, 1, 0, 0, 1, 1, 0, 1, 0]))))
  (.seq (.reg [⟨(some 75), none, (.addo (.tmp 5) 2)⟩, ⟨(some 76), none, (.addo (.tmp 75) 0)⟩, ⟨(some 77), none, (.ld (.tmp 76) 1)⟩, ⟨(some 78), none, (.mov (.tmp 16))⟩, ⟨(some 79), none, (.ari .mul (.tmp 77) (.tmp 78))⟩, ⟨(some 80), none, (.ari .quo (.tmp 79) (.const (.int .i64 100)))⟩, ⟨(some 81), none, (.addo (.tmp 5) 2)⟩, ⟨(some 82), none, (.addo (.tmp 81) 1)⟩, ⟨(some 83), none, (.ld (.tmp 82) 1)⟩, ⟨(some 84), none, (.mov (.tmp 16))⟩, ⟨(some 85), none, (.ari .mul (.tmp 83) (.tmp 84))⟩, ⟨(some 86), none, (.ari .add (.tmp 85) (.const (.int .i64 99)))⟩, ⟨(some 87), none, (.ari .quo (.tmp 86) (.const (.int .i64 100)))⟩, ⟨(some 88), none, (.pur ⟨(some 88), (.build 24 (List.toArray [(0, (.tmp 80)), (1, (.tmp 87))])), 24, "", (List.toArray []), none⟩)⟩, ⟨(some 19), none, (.alc 24 [(.int .i64 0), (.int .i64 0)])⟩, ⟨none, none, (.sta (.tmp 19) (.tmp 88) 2)⟩])
  (.seq (.dreg [⟨(some 89), none, (.mov (.tmp 13))⟩, ⟨(some 90), none, (.addo (.tmp 5) 1)⟩, ⟨(some 91), none, (.ld (.tmp 90) 1)⟩, ⟨(some 92), none, (.mov (.tmp 15))⟩, ⟨(some 93), none, (.idx (.tmp 91) (.tmp 92) 2)⟩, ⟨(some 94), none, (.lda (.tmp 93) 2)⟩, ⟨(some 95), none, (.mov (.tmp 4))⟩, ⟨(some 96), none, (.mov (.tmp 15))⟩, ⟨(some 97), none, (.ari .add (.tmp 96) (.const (.int .i64 2)))⟩, ⟨(some 98), none, (.mov (.tmp 4))⟩, ⟨(some 99), none, (.len (.tmp 98))⟩, ⟨(some 100), none, (.ari .rem (.tmp 97) (.tmp 99))⟩, ⟨(some 101), none, (.idx (.tmp 95) (.tmp 100) 1)⟩, ⟨(some 102), none, (.ld (.tmp 101) 1)⟩, ⟨(some 103), none, (.call ⟨(.value (.func 57)), (List.toArray [(.tmp 94), (.tmp 102)]), (List.toArray [24, 94])⟩ false)⟩, ⟨(some 104), none, (.lda (.tmp 19) 2)⟩, ⟨(some 105), none, (.mov (.tmp 4))⟩, ⟨(some 106), none, (.mov (.tmp 15))⟩, ⟨(some 107), none, (.ari .add (.tmp 106) (.const (.int .i64 3)))⟩, ⟨(some 108), none, (.mov (.tmp 4))⟩, ⟨(some 109), none, (.len (.tmp 108))⟩, ⟨(some 110), none, (.ari .rem (.tmp 107) (.tmp 109))⟩, ⟨(some 111), none, (.idx (.tmp 105) (.tmp 110) 1)⟩, ⟨(some 112), none, (.ld (.tmp 111) 1)⟩, ⟨(some 113), none, (.call ⟨(.value (.func 57)), (List.toArray [(.tmp 104), (.tmp 112)]), (List.toArray [24, 94])⟩ true)⟩, ⟨(some 114), none, (.ari .sub (.tmp 103) (.tmp 113))⟩, ⟨(some 115), none, (.ari .add (.tmp 89) (.tmp 114))⟩, ⟨(some 13), none, (.mov (.tmp 115))⟩] [134217727, 67108863, 33554430, 16777214, 8323072, 4128768, 1966080, 524288, 0, 131072, 0, 0, 0, 16382, 8128, 4032, 1920, 512, 0, 128, 0, 0, 30, 14, 0, 2, 0, 0])
  (.seq (.reg [⟨(some 116), none, (.addo (.tmp 5) 8)⟩, ⟨(some 117), none, (.ld (.tmp 116) 1)⟩, ⟨(some 118), none, (.mov (.tmp 13))⟩, ⟨(some 119), none, (.mm true (.tmp 117) (.tmp 118))⟩, ⟨(some 120), none, (.mm false (.const (.int .i64 0)) (.tmp 119))⟩, ⟨(some 13), none, (.mov (.tmp 120))⟩])
  (.reg [⟨(some 121), none, (.mov (.tmp 12))⟩, ⟨(some 122), none, (.mov (.tmp 13))⟩, ⟨(some 123), none, (.mem ⟨(some 123), (.buildSlice 27 1 (List.toArray [(0, (.tmp 122))])), 27, "", (List.toArray []), none⟩)⟩, ⟨(some 124), none, (.mem ⟨(some 124), (.call ⟨(.builtin .append), (List.toArray [(.tmp 121), (.tmp 123)]), (List.toArray [27, 27])⟩), 27, "", (List.toArray []), none⟩)⟩, ⟨(some 12), none, (.mov (.tmp 124))⟩]))))))))
  (.reg [⟨(some 32), none, (.mov (.tmp 15))⟩, ⟨(some 33), none, (.ari .add (.tmp 32) (.const (.int .i64 1)))⟩, ⟨(some 15), none, (.mov (.tmp 33))⟩])))
theorem L35x1 : low Try.prog Try.f35.ntmps (at_ Try.f35 [1, 1, 1, 0, 1, 0, 0]) = some R35x1 := by kernel_rfl
theorem E35_2 : at_ Try.f35 [1, 1, 1, 0, 1, 0, 0, 1, 0, 0, 1, 1, 0, 1, 0] = .loop (at_ Try.f35 [1, 1, 1, 0, 1, 0, 0, 1, 0, 0, 1, 1, 0, 1, 0, 0]) := by kernel_rfl
noncomputable def R35x2 : RC := (.seq (.reg [⟨(some 57), none, (.cmp .lss (.tmp 56) (.tmp 55))⟩])
  (.seq (.cond (.tmp 57) .skip
  (.exit 2))
  (.seq (.block 3 (.seq (.reg [⟨(some 58), none, (.idx (.tmp 54) (.tmp 56) 1)⟩, ⟨(some 59), none, (.ld (.tmp 58) 1)⟩, ⟨(some 18), none, (.mov (.tmp 59))⟩])
  (.seq (.reg [⟨(some 60), none, (.mov (.tmp 18))⟩, ⟨(some 61), none, (.mov (.tmp 15))⟩, ⟨(some 62), none, (.cmp .eql (.tmp 60) (.tmp 61))⟩])
  (.cond (.tmp 62) (.dreg [⟨(some 63), none, (.addo (.tmp 5) 6)⟩, ⟨(some 64), none, (.lda (.tmp 63) 2)⟩, ⟨(some 65), none, (.mov (.tmp 4))⟩, ⟨(some 66), none, (.mov (.tmp 15))⟩, ⟨(some 67), none, (.ari .add (.tmp 66) (.const (.int .i64 1)))⟩, ⟨(some 68), none, (.mov (.tmp 4))⟩, ⟨(some 69), none, (.len (.tmp 68))⟩, ⟨(some 70), none, (.ari .rem (.tmp 67) (.tmp 69))⟩, ⟨(some 71), none, (.idx (.tmp 65) (.tmp 70) 1)⟩, ⟨(some 72), none, (.ld (.tmp 71) 1)⟩, ⟨(some 73), none, (.call ⟨(.value (.func 57)), (List.toArray [(.tmp 64), (.tmp 72)]), (List.toArray [24, 94])⟩ true)⟩, ⟨(some 13), none, (.mov (.tmp 73))⟩] [2047, 1023, 508, 252, 120, 32, 0, 8, 0, 0, 1, 0])
  .skip))))
  (.reg [⟨(some 74), none, (.ari .add (.tmp 56) (.const (.int .i64 1)))⟩, ⟨(some 56), none, (.mov (.tmp 74))⟩]))))
theorem L35x2 : low Try.prog Try.f35.ntmps (at_ Try.f35 [1, 1, 1, 0, 1, 0, 0, 1, 0, 0, 1, 1, 0, 1, 0, 0]) = some R35x2 := by kernel_rfl
theorem N38 : Try.f38.ntmps = 26 := by kernel_rfl
theorem Z38 : Try.f38.results.toList = ((List.toArray [(.cell 8 65), (.cell 9 30)]) : Array ResultVar).toList := by kernel_rfl
theorem B38 : Try.f38.body = some (at_ Try.f38 []) := by kernel_rfl
theorem N39 : Try.f39.ntmps = 6 := by kernel_rfl
theorem Z39 : Try.f39.results.toList = ((List.toArray [(.cell 2 72)]) : Array ResultVar).toList := by kernel_rfl
theorem B39 : Try.f39.body = some (at_ Try.f39 []) := by kernel_rfl
noncomputable def R39 : RC := (.seq (.reg [⟨(some 1), none, (.box 65 (.tmp 0))⟩, ⟨(some 2), none, (.alc 72 [(.int .i64 0), (.int .i64 0), (.int .i64 0), (.int .i64 0), (.int .i64 0), (.int .i64 0), (.int .i64 0)])⟩])
  (.seq (.reg [⟨(some 3), none, (.lda (.tmp 1) 16)⟩, ⟨(some 4), none, (.pur ⟨(some 4), (.makeFunc (.func 62) (List.toArray []) (List.toArray [(.tmp 1)])), 85, "", (List.toArray []), none⟩)⟩, ⟨(some 5), none, (.call ⟨(.value (.func 61)), (List.toArray [(.tmp 3), (.tmp 4)]), (List.toArray [65, 85])⟩ true)⟩, ⟨none, none, (.sta (.tmp 2) (.tmp 5) 7)⟩])
  .ret))
theorem L39 : low Try.prog Try.f39.ntmps (at_ Try.f39 []) = some R39 := by kernel_rfl
theorem N41 : Try.f41.ntmps = 4 := by kernel_rfl
theorem Z41 : Try.f41.results.toList = ((List.toArray [(.tmp 2)]) : Array ResultVar).toList := by kernel_rfl
theorem B41 : Try.f41.body = some (at_ Try.f41 []) := by kernel_rfl
noncomputable def R41 : RC := (.seq (.reg [⟨(some 1), none, (.box 65 (.tmp 0))⟩, ⟨(some 2), none, (.mov (.const .nilFunc))⟩])
  (.seq (.reg [⟨(some 3), none, (.pur ⟨(some 3), (.makeFunc (.func 63) (List.toArray []) (List.toArray [(.tmp 1)])), 75, "", (List.toArray []), none⟩)⟩, ⟨(some 2), none, (.mov (.tmp 3))⟩])
  .ret))
theorem L41 : low Try.prog Try.f41.ntmps (at_ Try.f41 []) = some R41 := by kernel_rfl
theorem N42 : Try.f42.ntmps = 10 := by kernel_rfl
theorem Z42 : Try.f42.results.toList = ((List.toArray [(.cell 2 24)]) : Array ResultVar).toList := by kernel_rfl
theorem B42 : Try.f42.body = some (at_ Try.f42 []) := by kernel_rfl
noncomputable def R42 : RC := (.seq (.reg [⟨(some 1), none, (.box 72 (.tmp 0))⟩, ⟨(some 2), none, (.alc 24 [(.int .i64 0), (.int .i64 0)])⟩])
  (.seq (.reg [⟨(some 3), none, (.addo (.tmp 1) 3)⟩, ⟨(some 4), none, (.addo (.tmp 3) 0)⟩, ⟨(some 5), none, (.ld (.tmp 4) 1)⟩, ⟨(some 6), none, (.addo (.tmp 1) 5)⟩, ⟨(some 7), none, (.addo (.tmp 6) 0)⟩, ⟨(some 8), none, (.ld (.tmp 7) 1)⟩, ⟨(some 9), none, (.pur ⟨(some 9), (.build 24 (List.toArray [(0, (.tmp 5)), (1, (.tmp 8))])), 24, "", (List.toArray []), none⟩)⟩, ⟨none, none, (.sta (.tmp 2) (.tmp 9) 2)⟩])
  .ret))
theorem L42 : low Try.prog Try.f42.ntmps (at_ Try.f42 []) = some R42 := by kernel_rfl
theorem N44 : Try.f44.ntmps = 9 := by kernel_rfl
theorem Z44 : Try.f44.results.toList = ((List.toArray [(.tmp 4)]) : Array ResultVar).toList := by kernel_rfl
theorem B44 : Try.f44.body = some (at_ Try.f44 []) := by kernel_rfl
noncomputable def R44 : RC := (.seq (.reg [⟨(some 4), none, (.mov (.const (.int .i64 0)))⟩])
  (.seq (.block 0 (.seq (.reg [⟨(some 6), none, (.mov (.tmp 0))⟩, ⟨(some 5), none, (.mov (.tmp 6))⟩])
  (.cond (.tmp 5) (.seq (.reg [⟨(some 4), none, (.mov (.const (.int .i64 2)))⟩])
  .ret)
  (.seq (.reg [⟨(some 8), none, (.mov (.tmp 1))⟩, ⟨(some 7), none, (.mov (.tmp 8))⟩])
  (.cond (.tmp 7) (.seq (.reg [⟨(some 4), none, (.mov (.const (.int .i64 1)))⟩])
  .ret)
  .skip)))))
  (.seq (.reg [⟨(some 4), none, (.mov (.const (.int .i64 0)))⟩])
  .ret)))
theorem L44 : low Try.prog Try.f44.ntmps (at_ Try.f44 []) = some R44 := by kernel_rfl
theorem N47 : Try.f47.ntmps = 6 := by kernel_rfl
theorem Z47 : Try.f47.results.toList = ((List.toArray [(.cell 2 72)]) : Array ResultVar).toList := by kernel_rfl
theorem B47 : Try.f47.body = some (at_ Try.f47 []) := by kernel_rfl
noncomputable def R47 : RC := (.seq (.reg [⟨(some 1), none, (.box 65 (.tmp 0))⟩, ⟨(some 2), none, (.alc 72 [(.int .i64 0), (.int .i64 0), (.int .i64 0), (.int .i64 0), (.int .i64 0), (.int .i64 0), (.int .i64 0)])⟩])
  (.seq (.reg [⟨(some 3), none, (.lda (.tmp 1) 16)⟩, ⟨(some 4), none, (.pur ⟨(some 4), (.makeFunc (.func 69) (List.toArray []) (List.toArray [(.tmp 1)])), 85, "", (List.toArray []), none⟩)⟩, ⟨(some 5), none, (.call ⟨(.value (.func 61)), (List.toArray [(.tmp 3), (.tmp 4)]), (List.toArray [65, 85])⟩ true)⟩, ⟨none, none, (.sta (.tmp 2) (.tmp 5) 7)⟩])
  .ret))
theorem L47 : low Try.prog Try.f47.ntmps (at_ Try.f47 []) = some R47 := by kernel_rfl
theorem N48 : Try.f48.ntmps = 2 := by kernel_rfl
theorem Z48 : Try.f48.results.toList = ((List.toArray [(.cell 0 72)]) : Array ResultVar).toList := by kernel_rfl
theorem B48 : Try.f48.body = some (at_ Try.f48 []) := by kernel_rfl
noncomputable def R48 : RC := (.seq (.reg [⟨(some 0), none, (.alc 72 [(.int .i64 0), (.int .i64 0), (.int .i64 0), (.int .i64 0), (.int .i64 0), (.int .i64 0), (.int .i64 0)])⟩])
  (.seq (.reg [⟨(some 1), none, (.pur ⟨(some 1), (.build 72 (List.toArray [(0, (.const (.int .i64 (-1))))])), 72, "", (List.toArray []), none⟩)⟩, ⟨none, none, (.sta (.tmp 0) (.tmp 1) 7)⟩])
  .ret))
theorem L48 : low Try.prog Try.f48.ntmps (at_ Try.f48 []) = some R48 := by kernel_rfl
theorem N49 : Try.f49.ntmps = 15 := by kernel_rfl
theorem Z49 : Try.f49.results.toList = ((List.toArray [(.tmp 6)]) : Array ResultVar).toList := by kernel_rfl
theorem B49 : Try.f49.body = some (at_ Try.f49 []) := by kernel_rfl
noncomputable def R49 : RC := (.seq (.reg [⟨(some 6), none, (.mov (.const (.bool false)))⟩])
  (.seq (.reg [⟨(some 7), none, (.mov (.tmp 1))⟩, ⟨(some 8), none, (.mov (.tmp 0))⟩, ⟨(some 9), none, (.cmpb .leq (.tmp 7) (.tmp 8))⟩, ⟨(some 10), none, (.mov (.tmp 9))⟩, ⟨(some 11), (some (10, true)), (.mov (.tmp 0))⟩, ⟨(some 12), (some (10, true)), (.mov (.tmp 2))⟩, ⟨(some 13), (some (10, true)), (.cmpb .leq (.tmp 11) (.tmp 12))⟩, ⟨(some 14), none, (.pur ⟨(some 14), (.pick (.tmp 10) (.tmp 13) (.const (.bool false))), 4, "", (List.toArray []), none⟩)⟩, ⟨(some 6), none, (.mov (.tmp 14))⟩])
  .ret))
theorem L49 : low Try.prog Try.f49.ntmps (at_ Try.f49 []) = some R49 := by kernel_rfl
theorem N50 : Try.f50.ntmps = 6 := by kernel_rfl
theorem Z50 : Try.f50.results.toList = ((List.toArray [(.cell 2 72)]) : Array ResultVar).toList := by kernel_rfl
theorem B50 : Try.f50.body = some (at_ Try.f50 []) := by kernel_rfl
noncomputable def R50 : RC := (.seq (.reg [⟨(some 1), none, (.box 65 (.tmp 0))⟩, ⟨(some 2), none, (.alc 72 [(.int .i64 0), (.int .i64 0), (.int .i64 0), (.int .i64 0), (.int .i64 0), (.int .i64 0), (.int .i64 0)])⟩])
  (.seq (.reg [⟨(some 3), none, (.lda (.tmp 1) 16)⟩, ⟨(some 4), none, (.pur ⟨(some 4), (.makeFunc (.func 70) (List.toArray []) (List.toArray [(.tmp 1)])), 85, "", (List.toArray []), none⟩)⟩, ⟨(some 5), none, (.call ⟨(.value (.func 61)), (List.toArray [(.tmp 3), (.tmp 4)]), (List.toArray [65, 85])⟩ true)⟩, ⟨none, none, (.sta (.tmp 2) (.tmp 5) 7)⟩])
  .ret))
theorem L50 : low Try.prog Try.f50.ntmps (at_ Try.f50 []) = some R50 := by kernel_rfl
theorem N51 : Try.f51.ntmps = 72 := by kernel_rfl
theorem Z51 : Try.f51.results.toList = ((List.toArray [(.tmp 2)]) : Array ResultVar).toList := by kernel_rfl
theorem B51 : Try.f51.body = some (at_ Try.f51 []) := by kernel_rfl
noncomputable def R51 : RC := (.seq (.reg [⟨(some 1), none, (.box 26 (.tmp 0))⟩, ⟨(some 2), none, (.mov (.const (.bool false)))⟩])
  (.seq (.seq (.reg [⟨(some 4), none, (.addo (.tmp 1) 0)⟩, ⟨(some 5), none, (.ld (.tmp 4) 1)⟩, ⟨(some 6), none, (.len (.tmp 5))⟩, ⟨(some 7), none, (.addo (.tmp 1) 1)⟩, ⟨(some 8), none, (.ld (.tmp 7) 1)⟩, ⟨(some 9), none, (.len (.tmp 8))⟩, ⟨(some 10), none, (.cmpb .neq (.tmp 6) (.tmp 9))⟩, ⟨(some 11), none, (.mov (.tmp 10))⟩, ⟨(some 12), (some (11, false)), (.addo (.tmp 1) 0)⟩, ⟨(some 13), (some (11, false)), (.ld (.tmp 12) 1)⟩, ⟨(some 14), (some (11, false)), (.len (.tmp 13))⟩, ⟨(some 15), (some (11, false)), (.cmpb .gtr (.tmp 14) (.const (.int .i64 40)))⟩, ⟨(some 16), none, (.pur ⟨(some 16), (.pick (.tmp 11) (.const (.bool true)) (.tmp 15)), 4, "", (List.toArray []), none⟩)⟩])
  (.cond (.tmp 16) (.seq (.reg [⟨(some 2), none, (.mov (.const (.bool false)))⟩])
  .ret)
  .skip))
  (.seq (.seq (.reg [⟨(some 17), none, (.addo (.tmp 1) 0)⟩, ⟨(some 18), none, (.ld (.tmp 17) 1)⟩, ⟨(some 19), none, (.call ⟨(.value (.func 71)), (List.toArray [(.tmp 18), (.const (.int .i64 5000))]), (List.toArray [22, 3])⟩ true)⟩, ⟨(some 20), none, (.pur ⟨(some 20), (.unOp .not 4 (.tmp 19)), 4, "", (List.toArray []), none⟩)⟩, ⟨(some 21), none, (.mov (.tmp 20))⟩, ⟨(some 22), (some (21, false)), (.addo (.tmp 1) 1)⟩, ⟨(some 23), (some (21, false)), (.ld (.tmp 22) 1)⟩, ⟨(some 24), (some (21, false)), (.call ⟨(.value (.func 71)), (List.toArray [(.tmp 23), (.const (.int .i64 20000))]), (List.toArray [22, 3])⟩ true)⟩, ⟨(some 25), (some (21, false)), (.pur ⟨(some 25), (.unOp .not 4 (.tmp 24)), 4, "", (List.toArray []), none⟩)⟩, ⟨(some 26), none, (.pur ⟨(some 26), (.pick (.tmp 21) (.const (.bool true)) (.tmp 25)), 4, "", (List.toArray []), none⟩)⟩, ⟨(some 27), none, (.mov (.tmp 26))⟩, ⟨(some 28), (some (27, false)), (.addo (.tmp 1) 2)⟩, ⟨(some 29), (some (27, false)), (.lda (.tmp 28) 2)⟩, ⟨(some 30), (some (27, false)), (.call ⟨(.value (.func 72)), (List.toArray [(.tmp 29), (.const (.int .i64 1000))]), (List.toArray [24, 3])⟩ true)⟩, ⟨(some 31), (some (27, false)), (.pur ⟨(some 31), (.unOp .not 4 (.tmp 30)), 4, "", (List.toArray []), none⟩)⟩, ⟨(some 32), none, (.pur ⟨(some 32), (.pick (.tmp 27) (.const (.bool true)) (.tmp 31)), 4, "", (List.toArray []), none⟩)⟩])
  (.cond (.tmp 32) (.seq (.reg [⟨(some 2), none, (.mov (.const (.bool false)))⟩])
  .ret)
  .skip))
  (.seq (.seq (.reg [⟨(some 33), none, (.addo (.tmp 1) 8)⟩, ⟨(some 34), none, (.ld (.tmp 33) 1)⟩, ⟨(some 35), none, (.call ⟨(.value (.func 73)), (List.toArray [(.tmp 34), (.const (.int .i64 20000))]), (List.toArray [3, 3])⟩ true)⟩, ⟨(some 36), none, (.pur ⟨(some 36), (.unOp .not 4 (.tmp 35)), 4, "", (List.toArray []), none⟩)⟩, ⟨(some 37), none, (.mov (.tmp 36))⟩, ⟨(some 38), (some (37, false)), (.addo (.tmp 1) 4)⟩, ⟨(some 39), (some (37, false)), (.lda (.tmp 38) 2)⟩, ⟨(some 40), (some (37, false)), (.addo (.tmp 1) 8)⟩, ⟨(some 41), (some (37, false)), (.ld (.tmp 40) 1)⟩, ⟨(some 42), (some (37, false)), (.call ⟨(.value (.func 72)), (List.toArray [(.tmp 39), (.tmp 41)]), (List.toArray [24, 3])⟩ true)⟩, ⟨(some 43), (some (37, false)), (.pur ⟨(some 43), (.unOp .not 4 (.tmp 42)), 4, "", (List.toArray []), none⟩)⟩, ⟨(some 44), none, (.pur ⟨(some 44), (.pick (.tmp 37) (.const (.bool true)) (.tmp 43)), 4, "", (List.toArray []), none⟩)⟩, ⟨(some 45), none, (.mov (.tmp 44))⟩, ⟨(some 46), (some (45, false)), (.addo (.tmp 1) 6)⟩, ⟨(some 47), (some (45, false)), (.lda (.tmp 46) 2)⟩, ⟨(some 48), (some (45, false)), (.addo (.tmp 1) 8)⟩, ⟨(some 49), (some (45, false)), (.ld (.tmp 48) 1)⟩, ⟨(some 50), (some (45, false)), (.call ⟨(.value (.func 72)), (List.toArray [(.tmp 47), (.tmp 49)]), (List.toArray [24, 3])⟩ true)⟩, ⟨(some 51), (some (45, false)), (.pur ⟨(some 51), (.unOp .not 4 (.tmp 50)), 4, "", (List.toArray []), none⟩)⟩, ⟨(some 52), none, (.pur ⟨(some 52), (.pick (.tmp 45) (.const (.bool true)) (.tmp 51)), 4, "", (List.toArray []), none⟩)⟩])
  (.cond (.tmp 52) (.seq (.reg [⟨(some 2), none, (.mov (.const (.bool false)))⟩])
  .ret)
  .skip))
  (.seq (.reg [⟨(some 53), none, (.addo (.tmp 1) 9)⟩, ⟨(some 54), none, (.ld (.tmp 53) 1)⟩, ⟨(some 55), none, (.call ⟨(.value (.func 73)), (List.toArray [(.tmp 54), (.const (.int .i64 5000))]), (List.toArray [3, 3])⟩ true)⟩, ⟨(some 56), none, (.mov (.tmp 55))⟩, ⟨(some 57), (some (56, true)), (.addo (.tmp 1) 10)⟩, ⟨(some 58), (some (56, true)), (.ld (.tmp 57) 1)⟩, ⟨(some 59), (some (56, true)), (.call ⟨(.value (.func 73)), (List.toArray [(.tmp 58), (.const (.int .i64 1048576))]), (List.toArray [3, 3])⟩ true)⟩, ⟨(some 60), none, (.pur ⟨(some 60), (.pick (.tmp 56) (.tmp 59) (.const (.bool false))), 4, "", (List.toArray []), none⟩)⟩, ⟨(some 3), none, (.mov (.tmp 60))⟩])
  (.seq (.reg [⟨(some 61), none, (.mov (.tmp 3))⟩, ⟨(some 62), none, (.mov (.tmp 61))⟩, ⟨(some 63), (some (62, true)), (.addo (.tmp 1) 11)⟩, ⟨(some 64), (some (62, true)), (.ld (.tmp 63) 1)⟩, ⟨(some 65), (some (62, true)), (.call ⟨(.value (.func 73)), (List.toArray [(.tmp 64), (.const (.int .i64 20000))]), (List.toArray [3, 3])⟩ true)⟩, ⟨(some 66), none, (.pur ⟨(some 66), (.pick (.tmp 62) (.tmp 65) (.const (.bool false))), 4, "", (List.toArray []), none⟩)⟩, ⟨(some 67), none, (.mov (.tmp 66))⟩, ⟨(some 68), (some (67, true)), (.addo (.tmp 1) 12)⟩, ⟨(some 69), (some (67, true)), (.ld (.tmp 68) 1)⟩, ⟨(some 70), (some (67, true)), (.call ⟨(.value (.func 73)), (List.toArray [(.tmp 69), (.const (.int .i64 40))]), (List.toArray [3, 3])⟩ true)⟩, ⟨(some 71), none, (.pur ⟨(some 71), (.pick (.tmp 67) (.tmp 70) (.const (.bool false))), 4, "", (List.toArray []), none⟩)⟩, ⟨(some 2), none, (.mov (.tmp 71))⟩])
  .ret))))))
theorem L51 : low Try.prog Try.f51.ntmps (at_ Try.f51 []) = some R51 := by kernel_rfl
theorem N52 : Try.f52.ntmps = 12 := by kernel_rfl
theorem Z52 : Try.f52.results.toList = ((List.toArray [(.tmp 4)]) : Array ResultVar).toList := by kernel_rfl
theorem B52 : Try.f52.body = some (at_ Try.f52 []) := by kernel_rfl
noncomputable def R52 : RC := (.seq (.reg [⟨(some 2), none, (.box 65 (.tmp 0))⟩, ⟨(some 3), none, (.box 72 (.tmp 1))⟩, ⟨(some 4), none, (.mov (.const (.bool false)))⟩])
  (.seq (.reg [⟨(some 5), none, (.addo (.tmp 3) 3)⟩, ⟨(some 6), none, (.addo (.tmp 5) 1)⟩, ⟨(some 7), none, (.ld (.tmp 6) 1)⟩, ⟨(some 8), none, (.addo (.tmp 2) 0)⟩, ⟨(some 9), none, (.addo (.tmp 8) 12)⟩, ⟨(some 10), none, (.ld (.tmp 9) 1)⟩, ⟨(some 11), none, (.cmp .gtr (.tmp 7) (.tmp 10))⟩, ⟨(some 4), none, (.mov (.tmp 11))⟩])
  .ret))
theorem L52 : low Try.prog Try.f52.ntmps (at_ Try.f52 []) = some R52 := by kernel_rfl
theorem N56 : Try.f56.ntmps = 24 := by kernel_rfl
theorem Z56 : Try.f56.results.toList = ((List.toArray [(.tmp 6)]) : Array ResultVar).toList := by kernel_rfl
theorem B56 : Try.f56.body = some (at_ Try.f56 []) := by kernel_rfl
noncomputable def R56 : RC := (.seq (.reg [⟨(some 3), none, (.box 24 (.tmp 0))⟩, ⟨(some 6), none, (.mov (.const (.bool false)))⟩])
  (.seq (.reg [⟨(some 7), none, (.mov (.tmp 1))⟩, ⟨(some 8), none, (.addo (.tmp 3) 0)⟩, ⟨(some 9), none, (.ld (.tmp 8) 1)⟩, ⟨(some 10), none, (.cmpb .leq (.tmp 7) (.tmp 9))⟩, ⟨(some 11), none, (.mov (.tmp 10))⟩, ⟨(some 12), (some (11, true)), (.addo (.tmp 3) 0)⟩, ⟨(some 13), (some (11, true)), (.ld (.tmp 12) 1)⟩, ⟨(some 14), (some (11, true)), (.addo (.tmp 3) 1)⟩, ⟨(some 15), (some (11, true)), (.ld (.tmp 14) 1)⟩, ⟨(some 16), (some (11, true)), (.cmpb .leq (.tmp 13) (.tmp 15))⟩, ⟨(some 17), none, (.pur ⟨(some 17), (.pick (.tmp 11) (.tmp 16) (.const (.bool false))), 4, "", (List.toArray []), none⟩)⟩, ⟨(some 18), none, (.mov (.tmp 17))⟩, ⟨(some 19), (some (18, true)), (.addo (.tmp 3) 1)⟩, ⟨(some 20), (some (18, true)), (.ld (.tmp 19) 1)⟩, ⟨(some 21), (some (18, true)), (.mov (.tmp 2))⟩, ⟨(some 22), (some (18, true)), (.cmpb .leq (.tmp 20) (.tmp 21))⟩, ⟨(some 23), none, (.pur ⟨(some 23), (.pick (.tmp 18) (.tmp 22) (.const (.bool false))), 4, "", (List.toArray []), none⟩)⟩, ⟨(some 6), none, (.mov (.tmp 23))⟩])
  .ret))
theorem L56 : low Try.prog Try.f56.ntmps (at_ Try.f56 []) = some R56 := by kernel_rfl
theorem N57 : Try.f57.ntmps = 17 := by kernel_rfl
theorem Z57 : Try.f57.results.toList = ((List.toArray [(.tmp 4)]) : Array ResultVar).toList := by kernel_rfl
theorem B57 : Try.f57.body = some (at_ Try.f57 []) := by kernel_rfl
noncomputable def R57 : RC := (.seq (.reg [⟨(some 2), none, (.box 24 (.tmp 0))⟩, ⟨(some 4), none, (.mov (.const (.int .i64 0)))⟩])
  (.seq (.dreg [⟨(some 5), none, (.addo (.tmp 2) 0)⟩, ⟨(some 6), none, (.ld (.tmp 5) 1)⟩, ⟨(some 7), none, (.mov (.tmp 1))⟩, ⟨(some 8), none, (.pur ⟨(some 8), (.convert 94 3 (.tmp 7)), 3, "", (List.toArray []), none⟩)⟩, ⟨(some 9), none, (.addo (.tmp 2) 1)⟩, ⟨(some 10), none, (.ld (.tmp 9) 1)⟩, ⟨(some 11), none, (.addo (.tmp 2) 0)⟩, ⟨(some 12), none, (.ld (.tmp 11) 1)⟩, ⟨(some 13), none, (.ari .sub (.tmp 10) (.tmp 12))⟩, ⟨(some 14), none, (.ari .add (.tmp 13) (.const (.int .i64 1)))⟩, ⟨(some 15), none, (.ari .rem (.tmp 8) (.tmp 14))⟩, ⟨(some 16), none, (.ari .add (.tmp 6) (.tmp 15))⟩, ⟨(some 4), none, (.mov (.tmp 16))⟩] [4095, 2047, 1020, 496, 240, 64, 0, 16, 0, 4, 0, 1, 0])
  .ret))
theorem L57 : low Try.prog Try.f57.ntmps (at_ Try.f57 []) = some R57 := by kernel_rfl
theorem N58 : Try.f58.ntmps = 5 := by kernel_rfl
theorem Z58 : Try.f58.results.toList = ((List.toArray []) : Array ResultVar).toList := by kernel_rfl
theorem B58 : Try.f58.body = some (at_ Try.f58 []) := by kernel_rfl
noncomputable def R58 : RC := (.seq (.reg [⟨(some 2), none, (.mem ⟨(some 2), (.call ⟨(.builtin .recover), (List.toArray []), (List.toArray [])⟩), 20, "", (List.toArray []), none⟩)⟩, ⟨(some 3), none, (.pur ⟨(some 3), (.binOp .neq 20 (.tmp 2) (.const .nilIface) 20), 4, "", (List.toArray []), none⟩)⟩])
  (.cond (.tmp 3) (.reg [⟨(some 4), none, (.pur ⟨(some 4), (.build 65 (List.toArray [])), 65, "", (List.toArray []), none⟩)⟩, ⟨none, none, (.sta (.tmp 0) (.tmp 4) 16)⟩, ⟨none, none, (.st (.tmp 1) (.const (.int .i64 2)))⟩])
  .skip))
theorem L58 : low Try.prog Try.f58.ntmps (at_ Try.f58 []) = some R58 := by kernel_rfl
theorem N59 : Try.f59.ntmps = 28 := by kernel_rfl
theorem Z59 : Try.f59.results.toList = ((List.toArray [(.cell 6 61)]) : Array ResultVar).toList := by kernel_rfl
theorem B59 : Try.f59.body = some (at_ Try.f59 []) := by kernel_rfl
noncomputable def R59 : RC := (.seq (.reg [⟨(some 3), none, (.box 26 (.tmp 0))⟩, ⟨(some 6), none, (.alc 61 [(.int .i64 0), (.int .i64 0)])⟩])
  (.seq (.seq (.reg [⟨(some 7), none, (.mov (.tmp 1))⟩, ⟨(some 8), none, (.addo (.tmp 3) 0)⟩, ⟨(some 9), none, (.ld (.tmp 8) 1)⟩, ⟨(some 10), none, (.len (.tmp 9))⟩, ⟨(some 11), none, (.call ⟨(.value (.func 73)), (List.toArray [(.tmp 7), (.tmp 10)]), (List.toArray [3, 3])⟩ true)⟩, ⟨(some 12), none, (.pur ⟨(some 12), (.unOp .not 4 (.tmp 11)), 4, "", (List.toArray []), none⟩)⟩, ⟨(some 13), none, (.mov (.tmp 12))⟩, ⟨(some 14), (some (13, false)), (.mov (.tmp 2))⟩, ⟨(some 15), (some (13, false)), (.addo (.tmp 3) 0)⟩, ⟨(some 16), (some (13, false)), (.ld (.tmp 15) 1)⟩, ⟨(some 17), (some (13, false)), (.len (.tmp 16))⟩, ⟨(some 18), (some (13, false)), (.mov (.tmp 1))⟩, ⟨(some 19), (some (13, false)), (.ari .sub (.tmp 17) (.tmp 18))⟩, ⟨(some 20), (some (13, false)), (.call ⟨(.value (.func 73)), (List.toArray [(.tmp 14), (.tmp 19)]), (List.toArray [3, 3])⟩ true)⟩, ⟨(some 21), (some (13, false)), (.pur ⟨(some 21), (.unOp .not 4 (.tmp 20)), 4, "", (List.toArray []), none⟩)⟩, ⟨(some 22), none, (.pur ⟨(some 22), (.pick (.tmp 13) (.const (.bool true)) (.tmp 21)), 4, "", (List.toArray []), none⟩)⟩])
  (.cond (.tmp 22) (.reg [⟨(some 23), none, (.pur ⟨(some 23), (.build 113 (List.toArray [])), 113, "", (List.toArray []), none⟩)⟩, ⟨(some 24), none, (.pur ⟨(some 24), (.makeInterface 113 (.tmp 23)), 20, "", (List.toArray []), none⟩)⟩, ⟨none, none, .dead⟩])
  .skip))
  (.seq (.reg [⟨(some 25), none, (.mov (.tmp 1))⟩, ⟨(some 26), none, (.mov (.tmp 2))⟩, ⟨(some 27), none, (.pur ⟨(some 27), (.build 61 (List.toArray [(0, (.tmp 25)), (1, (.tmp 26))])), 61, "", (List.toArray []), none⟩)⟩, ⟨none, none, (.sta (.tmp 6) (.tmp 27) 2)⟩])
  .ret)))
theorem L59 : low Try.prog Try.f59.ntmps (at_ Try.f59 []) = some R59 := by kernel_rfl
theorem N60 : Try.f60.ntmps = 39 := by kernel_rfl
theorem Z60 : Try.f60.results.toList = ((List.toArray [(.tmp 4)]) : Array ResultVar).toList := by kernel_rfl
theorem B60 : Try.f60.body = some (at_ Try.f60 []) := by kernel_rfl
noncomputable def R60 : RC := (.seq (.reg [⟨(some 2), none, (.box 61 (.tmp 0))⟩, ⟨(some 4), none, (.mov (.const (.int .u64 0)))⟩])
  (.seq (.reg [⟨(some 5), none, (.mov (.const (.int .u64 0)))⟩])
  (.seq (.reg [⟨(some 9), none, (.addo (.tmp 2) 0)⟩, ⟨(some 10), none, (.ld (.tmp 9) 1)⟩, ⟨(some 6), none, (.mov (.tmp 10))⟩])
  (.seq (.seq (.reg [⟨(some 11), none, (.mov (.tmp 1))⟩, ⟨(some 12), none, (.len (.tmp 11))⟩, ⟨(some 13), none, (.mov (.const (.int .i64 0)))⟩])
  (.block 0 (.other (at_ Try.f60 [1, 1, 1, 0, 1, 0]))))
  (.seq (.reg [⟨(some 38), none, (.mov (.tmp 5))⟩, ⟨(some 4), none, (.mov (.tmp 38))⟩])
  .ret)))))
theorem L60 : low Try.prog Try.f60.ntmps (at_ Try.f60 []) = some R60 := by kernel_rfl
theorem E60_1 : at_ Try.f60 [1, 1, 1, 0, 1, 0] = .loop (at_ Try.f60 [1, 1, 1, 0, 1, 0, 0]) := by kernel_rfl
noncomputable def R60x1 : RC := (.seq (.reg [⟨(some 14), none, (.cmp .lss (.tmp 13) (.tmp 12))⟩])
  (.seq (.cond (.tmp 14) .skip
  (.exit 0))
  (.seq (.block 1 (.seq (.reg [⟨(some 15), none, (.idx (.tmp 11) (.tmp 13) 1)⟩, ⟨(some 16), none, (.ld (.tmp 15) 1)⟩, ⟨(some 8), none, (.mov (.tmp 16))⟩])
  (.seq (.seq (.reg [⟨(some 17), none, (.mov (.tmp 8))⟩, ⟨(some 18), none, (.mov (.tmp 6))⟩, ⟨(some 19), none, (.cmpb .lss (.tmp 17) (.tmp 18))⟩, ⟨(some 20), none, (.mov (.tmp 19))⟩, ⟨(some 21), (some (20, false)), (.mov (.tmp 8))⟩, ⟨(some 22), (some (20, false)), (.addo (.tmp 2) 0)⟩, ⟨(some 23), (some (20, false)), (.ld (.tmp 22) 1)⟩, ⟨(some 24), (some (20, false)), (.addo (.tmp 2) 1)⟩, ⟨(some 25), (some (20, false)), (.ld (.tmp 24) 1)⟩, ⟨(some 26), (some (20, false)), (.ari .add (.tmp 23) (.tmp 25))⟩, ⟨(some 27), (some (20, false)), (.cmpb .geq (.tmp 21) (.tmp 26))⟩, ⟨(some 28), none, (.pur ⟨(some 28), (.pick (.tmp 20) (.const (.bool true)) (.tmp 27)), 4, "", (List.toArray []), none⟩)⟩])
  (.cond (.tmp 28) (.reg [⟨(some 29), none, (.pur ⟨(some 29), (.build 113 (List.toArray [])), 113, "", (List.toArray []), none⟩)⟩, ⟨(some 30), none, (.pur ⟨(some 30), (.makeInterface 113 (.tmp 29)), 20, "", (List.toArray []), none⟩)⟩, ⟨none, none, .dead⟩])
  .skip))
  (.seq (.reg [⟨(some 31), none, (.mov (.tmp 5))⟩, ⟨(some 32), none, (.mov (.tmp 8))⟩, ⟨(some 33), none, (.pur ⟨(some 33), (.binOp .shl 63 (.const (.int .u64 1)) (.tmp 32) 3), 63, "", (List.toArray []), none⟩)⟩, ⟨(some 34), none, (.pur ⟨(some 34), (.binOp .or 63 (.tmp 31) (.tmp 33) 63), 63, "", (List.toArray []), none⟩)⟩, ⟨(some 5), none, (.mov (.tmp 34))⟩])
  (.reg [⟨(some 35), none, (.mov (.tmp 8))⟩, ⟨(some 36), none, (.ari .add (.tmp 35) (.const (.int .i64 1)))⟩, ⟨(some 6), none, (.mov (.tmp 36))⟩])))))
  (.reg [⟨(some 37), none, (.ari .add (.tmp 13) (.const (.int .i64 1)))⟩, ⟨(some 13), none, (.mov (.tmp 37))⟩]))))
theorem L60x1 : low Try.prog Try.f60.ntmps (at_ Try.f60 [1, 1, 1, 0, 1, 0, 0]) = some R60x1 := by kernel_rfl
theorem N61 : Try.f61.ntmps = 15 := by kernel_rfl
theorem Z61 : Try.f61.results.toList = ((List.toArray [(.cell 4 72)]) : Array ResultVar).toList := by kernel_rfl
theorem B61 : Try.f61.body = some (at_ Try.f61 []) := by kernel_rfl
noncomputable def R61 : RC := (.seq (.reg [⟨(some 2), none, (.box 65 (.tmp 0))⟩, ⟨(some 3), none, (.box 85 (.tmp 1))⟩, ⟨(some 4), none, (.alc 72 [(.int .i64 0), (.int .i64 0), (.int .i64 0), (.int .i64 0), (.int .i64 0), (.int .i64 0), (.int .i64 0)])⟩])
  (.seq (.seq (.reg [⟨(some 6), none, (.lda (.tmp 2) 16)⟩, ⟨(some 7), none, (.call ⟨(.value (.func 41)), (List.toArray [(.tmp 6)]), (List.toArray [65])⟩ true)⟩])
  (.block 0 (.other (at_ Try.f61 [1, 0, 1, 0]))))
  (.seq (.reg [⟨(some 14), none, (.call ⟨(.value (.func 48)), (List.toArray []), (List.toArray [])⟩ true)⟩, ⟨none, none, (.sta (.tmp 4) (.tmp 14) 7)⟩])
  .ret)))
theorem L61 : low Try.prog Try.f61.ntmps (at_ Try.f61 []) = some R61 := by kernel_rfl
theorem E61_1 : at_ Try.f61 [1, 0, 1, 0] = .rangeFunc (.tmp 7) ((List.toArray [8])) (at_ Try.f61 [1, 0, 1, 0, 0]) (at_ Try.f61 [1, 0, 1, 0, 1]) := by kernel_rfl
noncomputable def R61x1 : RC := (.reg [⟨(some 5), none, (.alc 72 [(.int .i64 0), (.int .i64 0), (.int .i64 0), (.int .i64 0), (.int .i64 0), (.int .i64 0), (.int .i64 0)])⟩, ⟨none, none, (.sta (.tmp 5) (.tmp 8) 7)⟩])
theorem L61x1 : low Try.prog Try.f61.ntmps (at_ Try.f61 [1, 0, 1, 0, 0]) = some R61x1 := by kernel_rfl
noncomputable def R61x2 : RC := (.block 1 (.seq (.reg [⟨(some 9), none, (.ld (.tmp 3) 1)⟩, ⟨(some 10), none, (.lda (.tmp 5) 7)⟩, ⟨(some 11), none, (.call ⟨(.value (.tmp 9)), (List.toArray [(.tmp 10)]), (List.toArray [72])⟩ true)⟩, ⟨(some 12), none, (.pur ⟨(some 12), (.unOp .not 4 (.tmp 11)), 4, "", (List.toArray []), none⟩)⟩])
  (.cond (.tmp 12) (.seq (.reg [⟨(some 13), none, (.lda (.tmp 5) 7)⟩, ⟨none, none, (.sta (.tmp 4) (.tmp 13) 7)⟩])
  .ret)
  .skip)))
theorem L61x2 : low Try.prog Try.f61.ntmps (at_ Try.f61 [1, 0, 1, 0, 1]) = some R61x2 := by kernel_rfl
theorem N62 : Try.f62.ntmps = 10 := by kernel_rfl
theorem Z62 : Try.f62.results.toList = ((List.toArray [(.tmp 3)]) : Array ResultVar).toList := by kernel_rfl
theorem B62 : Try.f62.body = some (at_ Try.f62 []) := by kernel_rfl
noncomputable def R62 : RC := (.seq (.reg [⟨(some 2), none, (.box 72 (.tmp 0))⟩, ⟨(some 3), none, (.mov (.const (.bool false)))⟩])
  (.seq (.reg [⟨(some 4), none, (.addo (.tmp 2) 0)⟩, ⟨(some 5), none, (.ld (.tmp 4) 1)⟩, ⟨(some 6), none, (.addo (.tmp 1) 13)⟩, ⟨(some 7), none, (.addo (.tmp 6) 1)⟩, ⟨(some 8), none, (.ld (.tmp 7) 1)⟩, ⟨(some 9), none, (.cmp .lss (.tmp 5) (.tmp 8))⟩, ⟨(some 3), none, (.mov (.tmp 9))⟩])
  .ret))
theorem L62 : low Try.prog Try.f62.ntmps (at_ Try.f62 []) = some R62 := by kernel_rfl
theorem N63 : Try.f63.ntmps = 29 := by kernel_rfl
theorem Z63 : Try.f63.results.toList = ((List.toArray []) : Array ResultVar).toList := by kernel_rfl
theorem B63 : Try.f63.body = some (at_ Try.f63 []) := by kernel_rfl
noncomputable def R63 : RC := (.seq (.dreg [⟨(some 4), none, (.addo (.tmp 1) 0)⟩, ⟨(some 5), none, (.addo (.tmp 4) 4)⟩, ⟨(some 6), none, (.lda (.tmp 5) 2)⟩, ⟨(some 7), none, (.call ⟨(.value (.func 64)), (List.toArray [(.tmp 6)]), (List.toArray [24])⟩ false)⟩, ⟨(some 8), none, (.addo (.tmp 1) 0)⟩, ⟨(some 9), none, (.addo (.tmp 8) 4)⟩, ⟨(some 10), none, (.lda (.tmp 9) 2)⟩, ⟨(some 11), none, (.call ⟨(.value (.func 65)), (List.toArray [(.tmp 10)]), (List.toArray [24])⟩ false)⟩, ⟨(some 12), none, (.pur ⟨(some 12), (.build 72 (List.toArray [(2, (.tmp 7)), (3, (.tmp 11))])), 72, "", (List.toArray []), none⟩)⟩, ⟨(some 3), none, (.alc 72 [(.int .i64 0), (.int .i64 0), (.int .i64 0), (.int .i64 0), (.int .i64 0), (.int .i64 0), (.int .i64 0)])⟩, ⟨none, none, (.sta (.tmp 3) (.tmp 12) 7)⟩] [1023, 0, 255, 127, 48, 16, 0, 7, 3, 1, 0])
  (.seq (.block 0 (.other (at_ Try.f63 [1, 0, 0])))
  (.reg [⟨(some 26), none, (.mov (.tmp 0))⟩, ⟨(some 27), none, (.lda (.tmp 3) 7)⟩, ⟨(some 28), none, (.call ⟨(.value (.tmp 26)), (List.toArray [(.tmp 27)]), (List.toArray [72])⟩ true)⟩])))
theorem L63 : low Try.prog Try.f63.ntmps (at_ Try.f63 []) = some R63 := by kernel_rfl
theorem E63_1 : at_ Try.f63 [1, 0, 0] = .loop (at_ Try.f63 [1, 0, 0, 0]) := by kernel_rfl
noncomputable def R63x1 : RC := (.seq (.seq (.reg [⟨(some 13), none, (.addo (.tmp 3) 0)⟩, ⟨(some 14), none, (.ld (.tmp 13) 1)⟩, ⟨(some 15), none, (.addo (.tmp 1) 13)⟩, ⟨(some 16), none, (.addo (.tmp 15) 1)⟩, ⟨(some 17), none, (.ld (.tmp 16) 1)⟩, ⟨(some 18), none, (.cmp .lss (.tmp 14) (.tmp 17))⟩])
  (.cond (.tmp 18) .skip
  (.exit 0)))
  (.block 1 (.seq (.seq (.reg [⟨(some 19), none, (.mov (.tmp 0))⟩, ⟨(some 20), none, (.lda (.tmp 3) 7)⟩, ⟨(some 21), none, (.call ⟨(.value (.tmp 19)), (List.toArray [(.tmp 20)]), (List.toArray [72])⟩ true)⟩, ⟨(some 22), none, (.pur ⟨(some 22), (.unOp .not 4 (.tmp 21)), 4, "", (List.toArray []), none⟩)⟩])
  (.cond (.tmp 22) .ret
  .skip))
  (.reg [⟨(some 23), none, (.lda (.tmp 1) 16)⟩, ⟨(some 24), none, (.lda (.tmp 3) 7)⟩, ⟨(some 25), none, (.call ⟨(.value (.func 66)), (List.toArray [(.tmp 23), (.tmp 24)]), (List.toArray [65, 72])⟩ true)⟩, ⟨none, none, (.sta (.tmp 3) (.tmp 25) 7)⟩]))))
theorem L63x1 : low Try.prog Try.f63.ntmps (at_ Try.f63 [1, 0, 0, 0]) = some R63x1 := by kernel_rfl
theorem N64 : Try.f64.ntmps = 9 := by kernel_rfl
theorem Z64 : Try.f64.results.toList = ((List.toArray [(.cell 2 69)]) : Array ResultVar).toList := by kernel_rfl
theorem B64 : Try.f64.body = some (at_ Try.f64 []) := by kernel_rfl
noncomputable def R64 : RC := (.seq (.reg [⟨(some 1), none, (.box 24 (.tmp 0))⟩, ⟨(some 2), none, (.alc 69 [(.int .i64 0), (.int .i64 0)])⟩])
  (.seq (.reg [⟨(some 3), none, (.alc 100 [])⟩])
  (.seq (.reg [⟨(some 4), none, (.lda (.tmp 3) 0)⟩, ⟨(some 5), none, (.pur ⟨(some 5), (.makeInterface 100 (.tmp 4)), 20, "", (List.toArray []), none⟩)⟩, ⟨(some 6), none, (.lda (.tmp 1) 2)⟩, ⟨(some 7), none, (.call ⟨(.invoke (.tmp 5) "fenberry/late.end"), (List.toArray [(.tmp 6)]), (List.toArray [24])⟩ true)⟩, ⟨(some 8), none, (.pur ⟨(some 8), (.build 69 (List.toArray [(0, (.tmp 7))])), 69, "", (List.toArray []), none⟩)⟩, ⟨none, none, (.sta (.tmp 2) (.tmp 8) 2)⟩])
  .ret)))
theorem L64 : low Try.prog Try.f64.ntmps (at_ Try.f64 []) = some R64 := by kernel_rfl
theorem N65 : Try.f65.ntmps = 9 := by kernel_rfl
theorem Z65 : Try.f65.results.toList = ((List.toArray [(.cell 2 70)]) : Array ResultVar).toList := by kernel_rfl
theorem B65 : Try.f65.body = some (at_ Try.f65 []) := by kernel_rfl
noncomputable def R65 : RC := (.seq (.reg [⟨(some 1), none, (.box 24 (.tmp 0))⟩, ⟨(some 2), none, (.alc 70 [(.int .i64 0), (.int .i64 0)])⟩])
  (.seq (.reg [⟨(some 3), none, (.alc 102 [])⟩])
  (.seq (.reg [⟨(some 4), none, (.lda (.tmp 3) 0)⟩, ⟨(some 5), none, (.pur ⟨(some 5), (.makeInterface 102 (.tmp 4)), 20, "", (List.toArray []), none⟩)⟩, ⟨(some 6), none, (.lda (.tmp 1) 2)⟩, ⟨(some 7), none, (.call ⟨(.invoke (.tmp 5) "fenberry/late.end"), (List.toArray [(.tmp 6)]), (List.toArray [24])⟩ true)⟩, ⟨(some 8), none, (.pur ⟨(some 8), (.build 70 (List.toArray [(0, (.tmp 7))])), 70, "", (List.toArray []), none⟩)⟩, ⟨none, none, (.sta (.tmp 2) (.tmp 8) 2)⟩])
  .ret)))
theorem L65 : low Try.prog Try.f65.ntmps (at_ Try.f65 []) = some R65 := by kernel_rfl
theorem N66 : Try.f66.ntmps = 73 := by kernel_rfl
theorem Z66 : Try.f66.results.toList = ((List.toArray [(.cell 4 72)]) : Array ResultVar).toList := by kernel_rfl
theorem B66 : Try.f66.body = some (at_ Try.f66 []) := by kernel_rfl
noncomputable def R66 : RC := (.seq (.reg [⟨(some 2), none, (.box 65 (.tmp 0))⟩, ⟨(some 3), none, (.box 72 (.tmp 1))⟩, ⟨(some 4), none, (.alc 72 [(.int .i64 0), (.int .i64 0), (.int .i64 0), (.int .i64 0), (.int .i64 0), (.int .i64 0), (.int .i64 0)])⟩])
  (.seq (.dreg [⟨(some 7), none, (.lda (.tmp 3) 7)⟩, ⟨(some 8), none, (.addo (.tmp 2) 13)⟩, ⟨(some 9), none, (.addo (.tmp 8) 0)⟩, ⟨(some 10), none, (.ld (.tmp 9) 1)⟩, ⟨(some 11), none, (.addo (.tmp 3) 0)⟩, ⟨(some 12), none, (.ld (.tmp 11) 1)⟩, ⟨(some 13), none, (.ari .add (.tmp 10) (.tmp 12))⟩, ⟨(some 5), none, (.alc 72 [(.int .i64 0), (.int .i64 0), (.int .i64 0), (.int .i64 0), (.int .i64 0), (.int .i64 0), (.int .i64 0)])⟩, ⟨none, none, (.sta (.tmp 5) (.tmp 7) 7)⟩, ⟨(some 6), none, (.mov (.tmp 13))⟩] [511, 129, 0, 62, 16, 0, 6, 2, 0, 0])
  (.seq (.reg [⟨(some 14), none, (.addo (.tmp 5) 0)⟩, ⟨(some 15), none, (.ld (.tmp 14) 1)⟩, ⟨(some 16), none, (.ari .add (.tmp 15) (.const (.int .i64 1)))⟩, ⟨(some 17), none, (.addo (.tmp 5) 0)⟩, ⟨none, none, (.st (.tmp 17) (.tmp 16))⟩])
  (.seq (.dreg [⟨(some 18), none, (.addo (.tmp 5) 1)⟩, ⟨(some 19), none, (.addo (.tmp 18) 0)⟩, ⟨(some 20), none, (.ld (.tmp 19) 1)⟩, ⟨(some 21), none, (.addo (.tmp 2) 0)⟩, ⟨(some 22), none, (.addo (.tmp 21) 0)⟩, ⟨(some 23), none, (.ld (.tmp 22) 1)⟩, ⟨(some 24), none, (.mov (.tmp 6))⟩, ⟨(some 25), none, (.idx (.tmp 23) (.tmp 24) 2)⟩, ⟨(some 26), none, (.addo (.tmp 25) 0)⟩, ⟨(some 27), none, (.ld (.tmp 26) 1)⟩, ⟨(some 28), none, (.addo (.tmp 2) 0)⟩, ⟨(some 29), none, (.addo (.tmp 28) 9)⟩, ⟨(some 30), none, (.ld (.tmp 29) 1)⟩, ⟨(some 31), none, (.ari .sub (.tmp 27) (.tmp 30))⟩, ⟨(some 32), none, (.mm false (.const (.int .i64 0)) (.tmp 31))⟩, ⟨(some 33), none, (.ari .add (.tmp 20) (.tmp 32))⟩, ⟨(some 34), none, (.addo (.tmp 5) 1)⟩, ⟨(some 35), none, (.addo (.tmp 34) 0)⟩, ⟨none, none, (.st (.tmp 35) (.tmp 33))⟩] [262143, 131071, 65535, 32767, 16376, 8184, 3072, 1024, 0, 504, 248, 120, 0, 24, 8, 0, 3, 1, 0])
  (.seq (.dreg [⟨(some 36), none, (.addo (.tmp 5) 1)⟩, ⟨(some 37), none, (.addo (.tmp 36) 1)⟩, ⟨(some 38), none, (.ld (.tmp 37) 1)⟩, ⟨(some 39), none, (.addo (.tmp 2) 0)⟩, ⟨(some 40), none, (.addo (.tmp 39) 0)⟩, ⟨(some 41), none, (.ld (.tmp 40) 1)⟩, ⟨(some 42), none, (.mov (.tmp 6))⟩, ⟨(some 43), none, (.idx (.tmp 41) (.tmp 42) 2)⟩, ⟨(some 44), none, (.addo (.tmp 43) 1)⟩, ⟨(some 45), none, (.ld (.tmp 44) 1)⟩, ⟨(some 46), none, (.addo (.tmp 2) 0)⟩, ⟨(some 47), none, (.addo (.tmp 46) 9)⟩, ⟨(some 48), none, (.ld (.tmp 47) 1)⟩, ⟨(some 49), none, (.ari .sub (.tmp 45) (.tmp 48))⟩, ⟨(some 50), none, (.mm false (.const (.int .i64 0)) (.tmp 49))⟩, ⟨(some 51), none, (.ari .add (.tmp 38) (.tmp 50))⟩, ⟨(some 52), none, (.addo (.tmp 5) 1)⟩, ⟨(some 53), none, (.addo (.tmp 52) 1)⟩, ⟨none, none, (.st (.tmp 53) (.tmp 51))⟩] [262143, 131071, 65535, 32767, 16376, 8184, 3072, 1024, 0, 504, 248, 120, 0, 24, 8, 0, 3, 1, 0])
  (.seq (.dreg [⟨(some 54), none, (.addo (.tmp 5) 3)⟩, ⟨(some 55), none, (.addo (.tmp 2) 0)⟩, ⟨(some 56), none, (.lda (.tmp 55) 13)⟩, ⟨(some 57), none, (.mov (.tmp 6))⟩, ⟨(some 58), none, (.addo (.tmp 2) 15)⟩, ⟨(some 59), none, (.ld (.tmp 58) 1)⟩, ⟨(some 60), none, (.mov (.tmp 6))⟩, ⟨(some 61), none, (.call ⟨(.value (.func 78)), (List.toArray [(.tmp 59), (.tmp 60)]), (List.toArray [63, 3])⟩ false)⟩, ⟨(some 62), none, (.call ⟨(.value (.func 79)), (List.toArray [(.tmp 54), (.tmp 56), (.tmp 57), (.tmp 61)]), (List.toArray [69, 26, 3, 4])⟩ true)⟩] [255, 112, 0, 16, 0, 0, 2, 0, 0])
  (.seq (.dreg [⟨(some 63), none, (.addo (.tmp 5) 5)⟩, ⟨(some 64), none, (.addo (.tmp 2) 0)⟩, ⟨(some 65), none, (.lda (.tmp 64) 13)⟩, ⟨(some 66), none, (.mov (.tmp 6))⟩, ⟨(some 67), none, (.addo (.tmp 2) 15)⟩, ⟨(some 68), none, (.ld (.tmp 67) 1)⟩, ⟨(some 69), none, (.mov (.tmp 6))⟩, ⟨(some 70), none, (.call ⟨(.value (.func 78)), (List.toArray [(.tmp 68), (.tmp 69)]), (List.toArray [63, 3])⟩ false)⟩, ⟨(some 71), none, (.call ⟨(.value (.func 80)), (List.toArray [(.tmp 63), (.tmp 65), (.tmp 66), (.tmp 70)]), (List.toArray [70, 26, 3, 4])⟩ true)⟩] [255, 112, 0, 16, 0, 0, 2, 0, 0])
  (.seq (.reg [⟨(some 72), none, (.lda (.tmp 5) 7)⟩, ⟨none, none, (.sta (.tmp 4) (.tmp 72) 7)⟩])
  .ret))))))))
theorem L66 : low Try.prog Try.f66.ntmps (at_ Try.f66 []) = some R66 := by kernel_rfl
theorem N69 : Try.f69.ntmps = 11 := by kernel_rfl
theorem Z69 : Try.f69.results.toList = ((List.toArray [(.tmp 3)]) : Array ResultVar).toList := by kernel_rfl
theorem B69 : Try.f69.body = some (at_ Try.f69 []) := by kernel_rfl
noncomputable def R69 : RC := (.seq (.reg [⟨(some 2), none, (.box 72 (.tmp 0))⟩, ⟨(some 3), none, (.mov (.const (.bool false)))⟩])
  (.seq (.reg [⟨(some 4), none, (.addo (.tmp 2) 1)⟩, ⟨(some 5), none, (.addo (.tmp 4) 0)⟩, ⟨(some 6), none, (.ld (.tmp 5) 1)⟩, ⟨(some 7), none, (.addo (.tmp 1) 0)⟩, ⟨(some 8), none, (.addo (.tmp 7) 10)⟩, ⟨(some 9), none, (.ld (.tmp 8) 1)⟩, ⟨(some 10), none, (.cmp .lss (.tmp 6) (.tmp 9))⟩, ⟨(some 3), none, (.mov (.tmp 10))⟩])
  .ret))
theorem L69 : low Try.prog Try.f69.ntmps (at_ Try.f69 []) = some R69 := by kernel_rfl
theorem N70 : Try.f70.ntmps = 8 := by kernel_rfl
theorem Z70 : Try.f70.results.toList = ((List.toArray [(.tmp 3)]) : Array ResultVar).toList := by kernel_rfl
theorem B70 : Try.f70.body = some (at_ Try.f70 []) := by kernel_rfl
noncomputable def R70 : RC := (.seq (.reg [⟨(some 2), none, (.box 72 (.tmp 0))⟩, ⟨(some 3), none, (.mov (.const (.bool false)))⟩])
  (.seq (.reg [⟨(some 4), none, (.lda (.tmp 1) 16)⟩, ⟨(some 5), none, (.lda (.tmp 2) 7)⟩, ⟨(some 6), none, (.call ⟨(.value (.func 52)), (List.toArray [(.tmp 4), (.tmp 5)]), (List.toArray [65, 72])⟩ true)⟩, ⟨(some 7), none, (.pur ⟨(some 7), (.unOp .not 4 (.tmp 6)), 4, "", (List.toArray []), none⟩)⟩, ⟨(some 3), none, (.mov (.tmp 7))⟩])
  .ret))
theorem L70 : low Try.prog Try.f70.ntmps (at_ Try.f70 []) = some R70 := by kernel_rfl
theorem N71 : Try.f71.ntmps = 9 := by kernel_rfl
theorem Z71 : Try.f71.results.toList = ((List.toArray [(.tmp 4)]) : Array ResultVar).toList := by kernel_rfl
theorem B71 : Try.f71.body = some (at_ Try.f71 []) := by kernel_rfl
noncomputable def R71 : RC := (.seq (.reg [⟨(some 3), none, (.box 3 (.tmp 1))⟩, ⟨(some 4), none, (.mov (.const (.bool false)))⟩])
  (.seq (.reg [⟨(some 5), none, (.mov (.tmp 0))⟩, ⟨(some 6), none, (.pur ⟨(some 6), (.makeFunc (.func 82) (List.toArray []) (List.toArray [(.tmp 3)])), 117, "", (List.toArray []), none⟩)⟩, ⟨(some 7), none, (.call ⟨(.value (.func 81)), (List.toArray [(.tmp 5), (.tmp 6)]), (List.toArray [22, 117])⟩ true)⟩, ⟨(some 8), none, (.pur ⟨(some 8), (.unOp .not 4 (.tmp 7)), 4, "", (List.toArray []), none⟩)⟩, ⟨(some 4), none, (.mov (.tmp 8))⟩])
  .ret))
theorem L71 : low Try.prog Try.f71.ntmps (at_ Try.f71 []) = some R71 := by kernel_rfl
theorem N72 : Try.f72.ntmps = 21 := by kernel_rfl
theorem Z72 : Try.f72.results.toList = ((List.toArray [(.tmp 4)]) : Array ResultVar).toList := by kernel_rfl
theorem B72 : Try.f72.body = some (at_ Try.f72 []) := by kernel_rfl
noncomputable def R72 : RC := (.seq (.reg [⟨(some 2), none, (.box 24 (.tmp 0))⟩, ⟨(some 4), none, (.mov (.const (.bool false)))⟩])
  (.seq (.reg [⟨(some 5), none, (.addo (.tmp 2) 0)⟩, ⟨(some 6), none, (.ld (.tmp 5) 1)⟩, ⟨(some 7), none, (.cmpb .leq (.const (.int .i64 0)) (.tmp 6))⟩, ⟨(some 8), none, (.mov (.tmp 7))⟩, ⟨(some 9), (some (8, true)), (.addo (.tmp 2) 0)⟩, ⟨(some 10), (some (8, true)), (.ld (.tmp 9) 1)⟩, ⟨(some 11), (some (8, true)), (.addo (.tmp 2) 1)⟩, ⟨(some 12), (some (8, true)), (.ld (.tmp 11) 1)⟩, ⟨(some 13), (some (8, true)), (.cmpb .leq (.tmp 10) (.tmp 12))⟩, ⟨(some 14), none, (.pur ⟨(some 14), (.pick (.tmp 8) (.tmp 13) (.const (.bool false))), 4, "", (List.toArray []), none⟩)⟩, ⟨(some 15), none, (.mov (.tmp 14))⟩, ⟨(some 16), (some (15, true)), (.addo (.tmp 2) 1)⟩, ⟨(some 17), (some (15, true)), (.ld (.tmp 16) 1)⟩, ⟨(some 18), (some (15, true)), (.mov (.tmp 1))⟩, ⟨(some 19), (some (15, true)), (.cmpb .leq (.tmp 17) (.tmp 18))⟩, ⟨(some 20), none, (.pur ⟨(some 20), (.pick (.tmp 15) (.tmp 19) (.const (.bool false))), 4, "", (List.toArray []), none⟩)⟩, ⟨(some 4), none, (.mov (.tmp 20))⟩])
  .ret))
theorem L72 : low Try.prog Try.f72.ntmps (at_ Try.f72 []) = some R72 := by kernel_rfl
theorem N73 : Try.f73.ntmps = 12 := by kernel_rfl
theorem Z73 : Try.f73.results.toList = ((List.toArray [(.tmp 4)]) : Array ResultVar).toList := by kernel_rfl
theorem B73 : Try.f73.body = some (at_ Try.f73 []) := by kernel_rfl
noncomputable def R73 : RC := (.seq (.reg [⟨(some 4), none, (.mov (.const (.bool false)))⟩])
  (.seq (.reg [⟨(some 5), none, (.mov (.tmp 0))⟩, ⟨(some 6), none, (.cmpb .leq (.const (.int .i64 0)) (.tmp 5))⟩, ⟨(some 7), none, (.mov (.tmp 6))⟩, ⟨(some 8), (some (7, true)), (.mov (.tmp 0))⟩, ⟨(some 9), (some (7, true)), (.mov (.tmp 1))⟩, ⟨(some 10), (some (7, true)), (.cmpb .leq (.tmp 8) (.tmp 9))⟩, ⟨(some 11), none, (.pur ⟨(some 11), (.pick (.tmp 7) (.tmp 10) (.const (.bool false))), 4, "", (List.toArray []), none⟩)⟩, ⟨(some 4), none, (.mov (.tmp 11))⟩])
  .ret))
theorem L73 : low Try.prog Try.f73.ntmps (at_ Try.f73 []) = some R73 := by kernel_rfl
theorem N78 : Try.f78.ntmps = 10 := by kernel_rfl
theorem Z78 : Try.f78.results.toList = ((List.toArray [(.tmp 4)]) : Array ResultVar).toList := by kernel_rfl
theorem B78 : Try.f78.body = some (at_ Try.f78 []) := by kernel_rfl
noncomputable def R78 : RC := (.seq (.reg [⟨(some 4), none, (.mov (.const (.bool false)))⟩])
  (.seq (.reg [⟨(some 5), none, (.mov (.tmp 0))⟩, ⟨(some 6), none, (.mov (.tmp 1))⟩, ⟨(some 7), none, (.pur ⟨(some 7), (.binOp .shr 63 (.tmp 5) (.tmp 6) 3), 63, "", (List.toArray []), none⟩)⟩, ⟨(some 8), none, (.pur ⟨(some 8), (.binOp .and 63 (.tmp 7) (.const (.int .u64 1)) 63), 63, "", (List.toArray []), none⟩)⟩, ⟨(some 9), none, (.pur ⟨(some 9), (.binOp .eql 63 (.tmp 8) (.const (.int .u64 1)) 63), 4, "", (List.toArray []), none⟩)⟩, ⟨(some 4), none, (.mov (.tmp 9))⟩])
  .ret))
theorem L78 : low Try.prog Try.f78.ntmps (at_ Try.f78 []) = some R78 := by kernel_rfl
theorem N79 : Try.f79.ntmps = 69 := by kernel_rfl
theorem Z79 : Try.f79.results.toList = ((List.toArray []) : Array ResultVar).toList := by kernel_rfl
theorem B79 : Try.f79.body = some (at_ Try.f79 []) := by kernel_rfl
noncomputable def R79 : RC := (.seq (.reg [⟨(some 5), none, (.box 26 (.tmp 1))⟩])
  (.seq (.reg [⟨(some 8), none, (.alc 100 [])⟩])
  (.seq (.seq (.reg [⟨(some 9), none, (.mov (.tmp 3))⟩])
  (.cond (.tmp 9) (.reg [⟨(some 10), none, (.mov (.tmp 0))⟩, ⟨(some 11), none, (.lda (.tmp 8) 0)⟩, ⟨(some 12), none, (.pur ⟨(some 12), (.makeInterface 100 (.tmp 11)), 20, "", (List.toArray []), none⟩)⟩, ⟨(some 13), none, (.addo (.tmp 5) 6)⟩, ⟨(some 14), none, (.lda (.tmp 13) 2)⟩, ⟨(some 15), none, (.call ⟨(.invoke (.tmp 12) "fenberry/late.end"), (List.toArray [(.tmp 14)]), (List.toArray [24])⟩ true)⟩, ⟨(some 16), none, (.nilc (.tmp 10))⟩, ⟨(some 17), none, (.addo (.tmp 16) 0)⟩, ⟨none, none, (.st (.tmp 17) (.tmp 15))⟩])
  .skip))
  (.seq (.dreg [⟨(some 18), none, (.mov (.tmp 0))⟩, ⟨(some 19), none, (.nilc (.tmp 18))⟩, ⟨(some 20), none, (.addo (.tmp 19) 0)⟩, ⟨(some 21), none, (.ld (.tmp 20) 1)⟩, ⟨(some 22), none, (.lda (.tmp 8) 0)⟩, ⟨(some 23), none, (.pur ⟨(some 23), (.makeInterface 100 (.tmp 22)), 20, "", (List.toArray []), none⟩)⟩, ⟨(some 24), none, (.addo (.tmp 5) 1)⟩, ⟨(some 25), none, (.ld (.tmp 24) 1)⟩, ⟨(some 26), none, (.mov (.tmp 2))⟩, ⟨(some 27), none, (.idx (.tmp 25) (.tmp 26) 2)⟩, ⟨(some 28), none, (.lda (.tmp 27) 2)⟩, ⟨(some 29), none, (.call ⟨(.invoke (.tmp 23) "fenberry/late.end"), (List.toArray [(.tmp 28)]), (List.toArray [24])⟩ false)⟩, ⟨(some 30), none, (.lda (.tmp 8) 0)⟩, ⟨(some 31), none, (.pur ⟨(some 31), (.makeInterface 100 (.tmp 30)), 20, "", (List.toArray []), none⟩)⟩, ⟨(some 32), none, (.addo (.tmp 5) 2)⟩, ⟨(some 33), none, (.lda (.tmp 32) 2)⟩, ⟨(some 34), none, (.addo (.tmp 5) 0)⟩, ⟨(some 35), none, (.ld (.tmp 34) 1)⟩, ⟨(some 36), none, (.mov (.tmp 2))⟩, ⟨(some 37), none, (.idx (.tmp 35) (.tmp 36) 2)⟩, ⟨(some 38), none, (.lda (.tmp 37) 2)⟩, ⟨(some 39), none, (.call ⟨(.invoke (.tmp 31) "fenberry/late.used"), (List.toArray [(.tmp 33), (.tmp 38)]), (List.toArray [24, 24])⟩ false)⟩, ⟨(some 40), none, (.ari .sub (.tmp 29) (.tmp 39))⟩, ⟨(some 41), none, (.ari .add (.tmp 21) (.tmp 40))⟩, ⟨(some 42), none, (.nilc (.tmp 18))⟩, ⟨(some 43), none, (.addo (.tmp 42) 0)⟩, ⟨none, none, (.st (.tmp 43) (.tmp 41))⟩] [67108863, 33554431, 16777215, 8388607, 4194288, 2097136, 983040, 458752, 0, 65536, 0, 16384, 0, 4096, 0, 2032, 960, 448, 0, 64, 0, 16, 0, 7, 3, 1, 0])
  (.seq (.dreg [⟨(some 44), none, (.mov (.tmp 0))⟩, ⟨(some 45), none, (.mov (.tmp 0))⟩, ⟨(some 46), none, (.nilc (.tmp 45))⟩, ⟨(some 47), none, (.addo (.tmp 46) 0)⟩, ⟨(some 48), none, (.ld (.tmp 47) 1)⟩, ⟨(some 49), none, (.mm false (.const (.int .i64 0)) (.tmp 48))⟩, ⟨(some 50), none, (.addo (.tmp 5) 8)⟩, ⟨(some 51), none, (.ld (.tmp 50) 1)⟩, ⟨(some 52), none, (.mm true (.tmp 49) (.tmp 51))⟩, ⟨(some 53), none, (.nilc (.tmp 44))⟩, ⟨(some 54), none, (.addo (.tmp 53) 0)⟩, ⟨none, none, (.st (.tmp 54) (.tmp 52))⟩] [2047, 1023, 511, 254, 64, 0, 30, 14, 6, 2, 0, 0])
  (.seq (.dreg [⟨(some 55), none, (.mov (.tmp 0))⟩, ⟨(some 56), none, (.nilc (.tmp 55))⟩, ⟨(some 57), none, (.addo (.tmp 56) 0)⟩, ⟨(some 58), none, (.ld (.tmp 57) 1)⟩, ⟨(some 59), none, (.addo (.tmp 5) 11)⟩, ⟨(some 60), none, (.ld (.tmp 59) 1)⟩, ⟨(some 61), none, (.cmp .lss (.tmp 58) (.tmp 60))⟩] [63, 16, 0, 7, 3, 1, 0])
  (.cond (.tmp 61) (.reg [⟨(some 62), none, (.mov (.tmp 0))⟩, ⟨(some 63), none, (.nilc (.tmp 62))⟩, ⟨(some 64), none, (.addo (.tmp 63) 1)⟩, ⟨(some 65), none, (.ld (.tmp 64) 1)⟩, ⟨(some 66), none, (.ari .add (.tmp 65) (.const (.int .i64 1)))⟩, ⟨(some 67), none, (.nilc (.tmp 62))⟩, ⟨(some 68), none, (.addo (.tmp 67) 1)⟩, ⟨none, none, (.st (.tmp 68) (.tmp 66))⟩])
  .skip)))))))
theorem L79 : low Try.prog Try.f79.ntmps (at_ Try.f79 []) = some R79 := by kernel_rfl
theorem N80 : Try.f80.ntmps = 69 := by kernel_rfl
theorem Z80 : Try.f80.results.toList = ((List.toArray []) : Array ResultVar).toList := by kernel_rfl
theorem B80 : Try.f80.body = some (at_ Try.f80 []) := by kernel_rfl
noncomputable def R80 : RC := (.seq (.reg [⟨(some 5), none, (.box 26 (.tmp 1))⟩])
  (.seq (.reg [⟨(some 8), none, (.alc 102 [])⟩])
  (.seq (.seq (.reg [⟨(some 9), none, (.mov (.tmp 3))⟩])
  (.cond (.tmp 9) (.reg [⟨(some 10), none, (.mov (.tmp 0))⟩, ⟨(some 11), none, (.lda (.tmp 8) 0)⟩, ⟨(some 12), none, (.pur ⟨(some 12), (.makeInterface 102 (.tmp 11)), 20, "", (List.toArray []), none⟩)⟩, ⟨(some 13), none, (.addo (.tmp 5) 6)⟩, ⟨(some 14), none, (.lda (.tmp 13) 2)⟩, ⟨(some 15), none, (.call ⟨(.invoke (.tmp 12) "fenberry/late.end"), (List.toArray [(.tmp 14)]), (List.toArray [24])⟩ true)⟩, ⟨(some 16), none, (.nilc (.tmp 10))⟩, ⟨(some 17), none, (.addo (.tmp 16) 0)⟩, ⟨none, none, (.st (.tmp 17) (.tmp 15))⟩])
  .skip))
  (.seq (.dreg [⟨(some 18), none, (.mov (.tmp 0))⟩, ⟨(some 19), none, (.nilc (.tmp 18))⟩, ⟨(some 20), none, (.addo (.tmp 19) 0)⟩, ⟨(some 21), none, (.ld (.tmp 20) 1)⟩, ⟨(some 22), none, (.lda (.tmp 8) 0)⟩, ⟨(some 23), none, (.pur ⟨(some 23), (.makeInterface 102 (.tmp 22)), 20, "", (List.toArray []), none⟩)⟩, ⟨(some 24), none, (.addo (.tmp 5) 1)⟩, ⟨(some 25), none, (.ld (.tmp 24) 1)⟩, ⟨(some 26), none, (.mov (.tmp 2))⟩, ⟨(some 27), none, (.idx (.tmp 25) (.tmp 26) 2)⟩, ⟨(some 28), none, (.lda (.tmp 27) 2)⟩, ⟨(some 29), none, (.call ⟨(.invoke (.tmp 23) "fenberry/late.end"), (List.toArray [(.tmp 28)]), (List.toArray [24])⟩ false)⟩, ⟨(some 30), none, (.lda (.tmp 8) 0)⟩, ⟨(some 31), none, (.pur ⟨(some 31), (.makeInterface 102 (.tmp 30)), 20, "", (List.toArray []), none⟩)⟩, ⟨(some 32), none, (.addo (.tmp 5) 2)⟩, ⟨(some 33), none, (.lda (.tmp 32) 2)⟩, ⟨(some 34), none, (.addo (.tmp 5) 0)⟩, ⟨(some 35), none, (.ld (.tmp 34) 1)⟩, ⟨(some 36), none, (.mov (.tmp 2))⟩, ⟨(some 37), none, (.idx (.tmp 35) (.tmp 36) 2)⟩, ⟨(some 38), none, (.lda (.tmp 37) 2)⟩, ⟨(some 39), none, (.call ⟨(.invoke (.tmp 31) "fenberry/late.used"), (List.toArray [(.tmp 33), (.tmp 38)]), (List.toArray [24, 24])⟩ false)⟩, ⟨(some 40), none, (.ari .sub (.tmp 29) (.tmp 39))⟩, ⟨(some 41), none, (.ari .add (.tmp 21) (.tmp 40))⟩, ⟨(some 42), none, (.nilc (.tmp 18))⟩, ⟨(some 43), none, (.addo (.tmp 42) 0)⟩, ⟨none, none, (.st (.tmp 43) (.tmp 41))⟩] [67108863, 33554431, 16777215, 8388607, 4194288, 2097136, 983040, 458752, 0, 65536, 0, 16384, 0, 4096, 0, 2032, 960, 448, 0, 64, 0, 16, 0, 7, 3, 1, 0])
  (.seq (.dreg [⟨(some 44), none, (.mov (.tmp 0))⟩, ⟨(some 45), none, (.mov (.tmp 0))⟩, ⟨(some 46), none, (.nilc (.tmp 45))⟩, ⟨(some 47), none, (.addo (.tmp 46) 0)⟩, ⟨(some 48), none, (.ld (.tmp 47) 1)⟩, ⟨(some 49), none, (.mm false (.const (.int .i64 0)) (.tmp 48))⟩, ⟨(some 50), none, (.addo (.tmp 5) 8)⟩, ⟨(some 51), none, (.ld (.tmp 50) 1)⟩, ⟨(some 52), none, (.mm true (.tmp 49) (.tmp 51))⟩, ⟨(some 53), none, (.nilc (.tmp 44))⟩, ⟨(some 54), none, (.addo (.tmp 53) 0)⟩, ⟨none, none, (.st (.tmp 54) (.tmp 52))⟩] [2047, 1023, 511, 254, 64, 0, 30, 14, 6, 2, 0, 0])
  (.seq (.dreg [⟨(some 55), none, (.mov (.tmp 0))⟩, ⟨(some 56), none, (.nilc (.tmp 55))⟩, ⟨(some 57), none, (.addo (.tmp 56) 0)⟩, ⟨(some 58), none, (.ld (.tmp 57) 1)⟩, ⟨(some 59), none, (.addo (.tmp 5) 11)⟩, ⟨(some 60), none, (.ld (.tmp 59) 1)⟩, ⟨(some 61), none, (.cmp .lss (.tmp 58) (.tmp 60))⟩] [63, 16, 0, 7, 3, 1, 0])
  (.cond (.tmp 61) (.reg [⟨(some 62), none, (.mov (.tmp 0))⟩, ⟨(some 63), none, (.nilc (.tmp 62))⟩, ⟨(some 64), none, (.addo (.tmp 63) 1)⟩, ⟨(some 65), none, (.ld (.tmp 64) 1)⟩, ⟨(some 66), none, (.ari .add (.tmp 65) (.const (.int .i64 1)))⟩, ⟨(some 67), none, (.nilc (.tmp 62))⟩, ⟨(some 68), none, (.addo (.tmp 67) 1)⟩, ⟨none, none, (.st (.tmp 68) (.tmp 66))⟩])
  .skip)))))))
theorem L80 : low Try.prog Try.f80.ntmps (at_ Try.f80 []) = some R80 := by kernel_rfl
theorem N81 : Try.f81.ntmps = 9 := by kernel_rfl
theorem Z81 : Try.f81.results.toList = ((List.toArray [(.tmp 4)]) : Array ResultVar).toList := by kernel_rfl
theorem B81 : Try.f81.body = some (at_ Try.f81 []) := by kernel_rfl
noncomputable def R81 : RC := (.seq (.reg [⟨(some 4), none, (.mov (.const (.bool false)))⟩])
  (.seq (.reg [⟨(some 5), none, (.mov (.tmp 0))⟩, ⟨(some 6), none, (.mov (.tmp 1))⟩, ⟨(some 7), none, (.call ⟨(.value (.func 85)), (List.toArray [(.tmp 5), (.tmp 6)]), (List.toArray [22, 117])⟩ true)⟩, ⟨(some 8), none, (.cmp .geq (.tmp 7) (.const (.int .i64 0)))⟩, ⟨(some 4), none, (.mov (.tmp 8))⟩])
  .ret))
theorem L81 : low Try.prog Try.f81.ntmps (at_ Try.f81 []) = some R81 := by kernel_rfl
theorem N82 : Try.f82.ntmps = 8 := by kernel_rfl
theorem Z82 : Try.f82.results.toList = ((List.toArray [(.tmp 3)]) : Array ResultVar).toList := by kernel_rfl
theorem B82 : Try.f82.body = some (at_ Try.f82 []) := by kernel_rfl
noncomputable def R82 : RC := (.seq (.reg [⟨(some 2), none, (.box 24 (.tmp 0))⟩, ⟨(some 3), none, (.mov (.const (.bool false)))⟩])
  (.seq (.reg [⟨(some 4), none, (.lda (.tmp 2) 2)⟩, ⟨(some 5), none, (.ld (.tmp 1) 1)⟩, ⟨(some 6), none, (.call ⟨(.value (.func 72)), (List.toArray [(.tmp 4), (.tmp 5)]), (List.toArray [24, 3])⟩ true)⟩, ⟨(some 7), none, (.pur ⟨(some 7), (.unOp .not 4 (.tmp 6)), 4, "", (List.toArray []), none⟩)⟩, ⟨(some 3), none, (.mov (.tmp 7))⟩])
  .ret))
theorem L82 : low Try.prog Try.f82.ntmps (at_ Try.f82 []) = some R82 := by kernel_rfl
theorem N85 : Try.f85.ntmps = 19 := by kernel_rfl
theorem Z85 : Try.f85.results.toList = ((List.toArray [(.tmp 4)]) : Array ResultVar).toList := by kernel_rfl
theorem B85 : Try.f85.body = some (at_ Try.f85 []) := by kernel_rfl
noncomputable def R85 : RC := (.seq (.reg [⟨(some 4), none, (.mov (.const (.int .i64 0)))⟩])
  (.seq (.seq (.reg [⟨(some 6), none, (.mov (.tmp 0))⟩, ⟨(some 7), none, (.len (.tmp 6))⟩, ⟨(some 8), none, (.mov (.const (.int .i64 0)))⟩])
  (.block 0 (.other (at_ Try.f85 [1, 0, 1, 0]))))
  (.seq (.reg [⟨(some 4), none, (.mov (.const (.int .i64 (-1))))⟩])
  .ret)))
theorem L85 : low Try.prog Try.f85.ntmps (at_ Try.f85 []) = some R85 := by kernel_rfl
theorem E85_1 : at_ Try.f85 [1, 0, 1, 0] = .loop (at_ Try.f85 [1, 0, 1, 0, 0]) := by kernel_rfl
noncomputable def R85x1 : RC := (.seq (.reg [⟨(some 9), none, (.cmp .lss (.tmp 8) (.tmp 7))⟩])
  (.seq (.cond (.tmp 9) .skip
  (.exit 0))
  (.seq (.block 1 (.seq (.reg [⟨(some 10), none, (.mov (.tmp 8))⟩, ⟨(some 5), none, (.mov (.tmp 10))⟩])
  (.seq (.reg [⟨(some 11), none, (.mov (.tmp 1))⟩, ⟨(some 12), none, (.mov (.tmp 0))⟩, ⟨(some 13), none, (.mov (.tmp 5))⟩, ⟨(some 14), none, (.idx (.tmp 12) (.tmp 13) 2)⟩, ⟨(some 15), none, (.lda (.tmp 14) 2)⟩, ⟨(some 16), none, (.call ⟨(.value (.tmp 11)), (List.toArray [(.tmp 15)]), (List.toArray [24])⟩ true)⟩])
  (.cond (.tmp 16) (.seq (.reg [⟨(some 17), none, (.mov (.tmp 5))⟩, ⟨(some 4), none, (.mov (.tmp 17))⟩])
  .ret)
  .skip))))
  (.reg [⟨(some 18), none, (.ari .add (.tmp 8) (.const (.int .i64 1)))⟩, ⟨(some 8), none, (.mov (.tmp 18))⟩]))))
theorem L85x1 : low Try.prog Try.f85.ntmps (at_ Try.f85 [1, 0, 1, 0, 0]) = some R85x1 := by kernel_rfl
theorem N102 : Try.f102.ntmps = 7 := by kernel_rfl
theorem Z102 : Try.f102.results.toList = ((List.toArray [(.tmp 4)]) : Array ResultVar).toList := by kernel_rfl
theorem B102 : Try.f102.body = some (at_ Try.f102 []) := by kernel_rfl
noncomputable def R102 : RC := (.seq (.reg [⟨(some 2), none, (.box 100 (.tmp 0))⟩, ⟨(some 3), none, (.box 24 (.tmp 1))⟩, ⟨(some 4), none, (.mov (.const (.int .i64 0)))⟩])
  (.seq (.reg [⟨(some 5), none, (.addo (.tmp 3) 0)⟩, ⟨(some 6), none, (.ld (.tmp 5) 1)⟩, ⟨(some 4), none, (.mov (.tmp 6))⟩])
  .ret))
theorem L102 : low Try.prog Try.f102.ntmps (at_ Try.f102 []) = some R102 := by kernel_rfl
theorem N103 : Try.f103.ntmps = 14 := by kernel_rfl
theorem Z103 : Try.f103.results.toList = ((List.toArray [(.tmp 6)]) : Array ResultVar).toList := by kernel_rfl
theorem B103 : Try.f103.body = some (at_ Try.f103 []) := by kernel_rfl
noncomputable def R103 : RC := (.seq (.reg [⟨(some 3), none, (.box 100 (.tmp 0))⟩, ⟨(some 4), none, (.box 24 (.tmp 1))⟩, ⟨(some 5), none, (.box 24 (.tmp 2))⟩, ⟨(some 6), none, (.mov (.const (.int .i64 0)))⟩])
  (.seq (.reg [⟨(some 7), none, (.addo (.tmp 4) 1)⟩, ⟨(some 8), none, (.ld (.tmp 7) 1)⟩, ⟨(some 9), none, (.addo (.tmp 5) 1)⟩, ⟨(some 10), none, (.ld (.tmp 9) 1)⟩, ⟨(some 11), none, (.ari .mul (.tmp 8) (.tmp 10))⟩, ⟨(some 12), none, (.ari .add (.tmp 11) (.const (.int .i64 99)))⟩, ⟨(some 13), none, (.ari .quo (.tmp 12) (.const (.int .i64 100)))⟩, ⟨(some 6), none, (.mov (.tmp 13))⟩])
  .ret))
theorem L103 : low Try.prog Try.f103.ntmps (at_ Try.f103 []) = some R103 := by kernel_rfl
theorem N104 : Try.f104.ntmps = 7 := by kernel_rfl
theorem Z104 : Try.f104.results.toList = ((List.toArray [(.tmp 4)]) : Array ResultVar).toList := by kernel_rfl
theorem B104 : Try.f104.body = some (at_ Try.f104 []) := by kernel_rfl
noncomputable def R104 : RC := (.seq (.reg [⟨(some 2), none, (.box 102 (.tmp 0))⟩, ⟨(some 3), none, (.box 24 (.tmp 1))⟩, ⟨(some 4), none, (.mov (.const (.int .i64 0)))⟩])
  (.seq (.reg [⟨(some 5), none, (.addo (.tmp 3) 1)⟩, ⟨(some 6), none, (.ld (.tmp 5) 1)⟩, ⟨(some 4), none, (.mov (.tmp 6))⟩])
  .ret))
theorem L104 : low Try.prog Try.f104.ntmps (at_ Try.f104 []) = some R104 := by kernel_rfl
theorem N105 : Try.f105.ntmps = 13 := by kernel_rfl
theorem Z105 : Try.f105.results.toList = ((List.toArray [(.tmp 6)]) : Array ResultVar).toList := by kernel_rfl
theorem B105 : Try.f105.body = some (at_ Try.f105 []) := by kernel_rfl
noncomputable def R105 : RC := (.seq (.reg [⟨(some 3), none, (.box 102 (.tmp 0))⟩, ⟨(some 4), none, (.box 24 (.tmp 1))⟩, ⟨(some 5), none, (.box 24 (.tmp 2))⟩, ⟨(some 6), none, (.mov (.const (.int .i64 0)))⟩])
  (.seq (.reg [⟨(some 7), none, (.addo (.tmp 4) 0)⟩, ⟨(some 8), none, (.ld (.tmp 7) 1)⟩, ⟨(some 9), none, (.addo (.tmp 5) 0)⟩, ⟨(some 10), none, (.ld (.tmp 9) 1)⟩, ⟨(some 11), none, (.ari .mul (.tmp 8) (.tmp 10))⟩, ⟨(some 12), none, (.ari .quo (.tmp 11) (.const (.int .i64 100)))⟩, ⟨(some 6), none, (.mov (.tmp 12))⟩])
  .ret))
theorem L105 : low Try.prog Try.f105.ntmps (at_ Try.f105 []) = some R105 := by kernel_rfl
end Go.Ax

import Derived.Test.YtfdapdcfnognfaaAxW4
import Derived.Test.YtfdapdcfnognfaaChecked
set_option linter.all false
/-! What 'low' makes of the functions (written by program). -/
namespace Go.Ax
open Go Go.RowKit Go.Proofs
theorem N8 : Try.f8.ntmps = 173 := by kernel_rfl
theorem Z8 : Try.f8.results.toList = ((List.toArray [(.tmp 8)]) : Array ResultVar).toList := by kernel_rfl
theorem B8 : Try.f8.body = some (at_ Try.f8 []) := by kernel_rfl
noncomputable def R8 : RC := (.seq (.reg [⟨(some 4), none, (.box 25 (.tmp 0))⟩, ⟨(some 7), none, (.box 73 (.tmp 3))⟩, ⟨(some 8), none, (.mov (.const (.bool false)))⟩])
  (.seq (.seq (.reg [⟨(some 27), none, (.mov (.tmp 2))⟩, ⟨(some 28), none, (.call ⟨(.value (.func 24)), (List.toArray [(.tmp 27), (.const (.int .i64 24))]), (List.toArray [47, 3])⟩ true)⟩, ⟨(some 29), none, (.mov (.tmp 28))⟩, ⟨(some 30), (some (29, false)), (.lda (.tmp 4) 2)⟩, ⟨(some 31), (some (29, false)), (.mov (.tmp 1))⟩, ⟨(some 32), (some (29, false)), (.mov (.tmp 2))⟩, ⟨(some 33), (some (29, false)), (.call ⟨(.value (.func 14)), (List.toArray [(.tmp 30), (.tmp 31), (.tmp 32)]), (List.toArray [25, 26, 47])⟩ true)⟩, ⟨(some 34), none, (.pur ⟨(some 34), (.pick (.tmp 29) (.const (.bool true)) (.tmp 33)), 4, "", (List.toArray []), none⟩)⟩, ⟨(some 35), none, (.mov (.tmp 34))⟩, ⟨(some 36), (some (35, false)), (.ld (.tmp 7) 1)⟩, ⟨(some 37), (some (35, false)), (.len (.tmp 36))⟩, ⟨(some 38), (some (35, false)), (.cmpb .eql (.tmp 37) (.const (.int .i64 0)))⟩, ⟨(some 39), none, (.pur ⟨(some 39), (.pick (.tmp 35) (.const (.bool true)) (.tmp 38)), 4, "", (List.toArray []), none⟩)⟩])
  (.cond (.tmp 39) (.seq (.reg [⟨(some 40), none, (.call ⟨(.value (.func 15)), (List.toArray []), (List.toArray [])⟩ true)⟩, ⟨(some 8), none, (.mov (.tmp 40))⟩])
  .ret)
  .skip))
  (.seq (.reg [⟨(some 42), none, (.lda (.tmp 4) 2)⟩, ⟨(some 43), none, (.mov (.tmp 1))⟩, ⟨(some 44), none, (.mov (.tmp 2))⟩, ⟨(some 45), none, (.call ⟨(.value (.func 25)), (List.toArray [(.tmp 42), (.tmp 43), (.tmp 44)]), (List.toArray [25, 26, 47])⟩ true)⟩, ⟨(some 41), none, (.mov (.tmp 45))⟩, ⟨(some 46), none, (.pur ⟨(some 46), (.extract (.tmp 41) 0), 26, "", (List.toArray []), none⟩)⟩, ⟨(some 47), none, (.pur ⟨(some 47), (.extract (.tmp 41) 1), 37, "", (List.toArray []), none⟩)⟩, ⟨(some 48), none, (.pur ⟨(some 48), (.extract (.tmp 41) 2), 38, "", (List.toArray []), none⟩)⟩, ⟨(some 10), none, (.alc 37 [(.int .i64 0), (.int .i64 0), (.int .i64 0), (.int .i64 0), (.int .i64 0), (.int .i64 0), (.int .i64 0), (.int .i64 0)])⟩, ⟨(some 9), none, (.mov (.tmp 46))⟩, ⟨none, none, (.sta (.tmp 10) (.tmp 47) 8)⟩, ⟨(some 11), none, (.mov (.tmp 48))⟩])
  (.seq (.seq (.reg [⟨(some 49), none, (.mov (.tmp 11))⟩, ⟨(some 50), none, (.cmp .neq (.tmp 49) (.const (.int .i64 0)))⟩])
  (.cond (.tmp 50) (.seq (.reg [⟨(some 51), none, (.call ⟨(.value (.func 15)), (List.toArray []), (List.toArray [])⟩ true)⟩, ⟨(some 8), none, (.mov (.tmp 51))⟩])
  .ret)
  .skip))
  (.seq (.seq (.reg [⟨(some 52), none, (.lda (.tmp 4) 2)⟩, ⟨(some 53), none, (.call ⟨(.value (.func 32)), (List.toArray [(.tmp 52)]), (List.toArray [25])⟩ true)⟩, ⟨(some 54), none, (.pur ⟨(some 54), (.unOp .not 4 (.tmp 53)), 4, "", (List.toArray []), none⟩)⟩, ⟨(some 55), none, (.mov (.tmp 54))⟩, ⟨(some 56), (some (55, false)), (.lda (.tmp 4) 2)⟩, ⟨(some 57), (some (55, false)), (.mov (.tmp 1))⟩, ⟨(some 58), (some (55, false)), (.call ⟨(.value (.func 33)), (List.toArray [(.tmp 56), (.tmp 57)]), (List.toArray [25, 26])⟩ true)⟩, ⟨(some 59), (some (55, false)), (.pur ⟨(some 59), (.unOp .not 4 (.tmp 58)), 4, "", (List.toArray []), none⟩)⟩, ⟨(some 60), none, (.pur ⟨(some 60), (.pick (.tmp 55) (.const (.bool true)) (.tmp 59)), 4, "", (List.toArray []), none⟩)⟩])
  (.cond (.tmp 60) (.seq (.reg [⟨(some 8), none, (.mov (.const (.bool false)))⟩])
  .ret)
  .skip))
  (.seq (.reg [⟨(some 12), none, (.alc 3 [(.int .i64 0)])⟩, ⟨none, none, (.st (.tmp 12) (.const (.int .i64 0)))⟩])
  (.seq (.reg [⟨(some 61), none, (.pur ⟨(some 61), (.makeFunc (.func 37) (List.toArray []) (List.toArray [(.tmp 7), (.tmp 12)])), 75, "", (List.toArray []), none⟩)⟩, ⟨(some 13), none, (.mov (.tmp 61))⟩])
  (.seq (.reg [⟨(some 14), none, (.mov (.const (.slice none 0 0)))⟩])
  (.seq (.seq (.reg [⟨(some 62), none, (.mov (.tmp 1))⟩, ⟨(some 63), none, (.len (.tmp 62))⟩, ⟨(some 64), none, (.mov (.const (.int .i64 0)))⟩])
  (.block 0 (.other (at_ Try.f8 [1, 1, 1, 1, 1, 1, 1, 1, 0, 1, 0]))))
  (.seq (.reg [⟨(some 17), none, (.mov (.const (.slice none 0 0)))⟩])
  (.seq (.seq (.reg [⟨(some 82), none, (.mov (.tmp 2))⟩, ⟨(some 83), none, (.len (.tmp 82))⟩, ⟨(some 84), none, (.mov (.const (.int .i64 0)))⟩])
  (.block 2 (.other (at_ Try.f8 [1, 1, 1, 1, 1, 1, 1, 1, 1, 1, 0, 1, 0]))))
  (.seq (.reg [⟨(some 112), none, (.lda (.tmp 4) 2)⟩, ⟨(some 113), none, (.mov (.tmp 14))⟩, ⟨(some 114), none, (.mov (.tmp 17))⟩, ⟨(some 115), none, (.call ⟨(.value (.func 25)), (List.toArray [(.tmp 112), (.tmp 113), (.tmp 114)]), (List.toArray [25, 26, 47])⟩ true)⟩, ⟨(some 111), none, (.mov (.tmp 115))⟩, ⟨(some 116), none, (.pur ⟨(some 116), (.extract (.tmp 111) 0), 26, "", (List.toArray []), none⟩)⟩, ⟨(some 117), none, (.pur ⟨(some 117), (.extract (.tmp 111) 1), 37, "", (List.toArray []), none⟩)⟩, ⟨(some 118), none, (.pur ⟨(some 118), (.extract (.tmp 111) 2), 38, "", (List.toArray []), none⟩)⟩, ⟨(some 24), none, (.alc 37 [(.int .i64 0), (.int .i64 0), (.int .i64 0), (.int .i64 0), (.int .i64 0), (.int .i64 0), (.int .i64 0), (.int .i64 0)])⟩, ⟨(some 23), none, (.mov (.tmp 116))⟩, ⟨none, none, (.sta (.tmp 24) (.tmp 117) 8)⟩, ⟨(some 25), none, (.mov (.tmp 118))⟩])
  (.seq (.seq (.reg [⟨(some 119), none, (.mov (.tmp 25))⟩, ⟨(some 120), none, (.cmpb .neq (.tmp 119) (.const (.int .i64 0)))⟩, ⟨(some 121), none, (.mov (.tmp 120))⟩, ⟨(some 122), (some (121, false)), (.mov (.tmp 23))⟩, ⟨(some 123), (some (121, false)), (.len (.tmp 122))⟩, ⟨(some 124), (some (121, false)), (.mov (.tmp 9))⟩, ⟨(some 125), (some (121, false)), (.len (.tmp 124))⟩, ⟨(some 126), (some (121, false)), (.cmpb .neq (.tmp 123) (.tmp 125))⟩, ⟨(some 127), none, (.pur ⟨(some 127), (.pick (.tmp 121) (.const (.bool true)) (.tmp 126)), 4, "", (List.toArray []), none⟩)⟩])
  (.cond (.tmp 127) (.seq (.reg [⟨(some 8), none, (.mov (.const (.bool false)))⟩])
  .ret)
  .skip))
  (.seq (.seq (.reg [⟨(some 128), none, (.mov (.tmp 9))⟩, ⟨(some 129), none, (.len (.tmp 128))⟩, ⟨(some 130), none, (.mov (.const (.int .i64 0)))⟩])
  (.block 6 (.other (at_ Try.f8 [1, 1, 1, 1, 1, 1, 1, 1, 1, 1, 1, 1, 1, 0, 1, 0]))))
  (.seq (.reg [⟨(some 144), none, (.addo (.tmp 24) 0)⟩, ⟨(some 145), none, (.lda (.tmp 144) 2)⟩, ⟨(some 146), none, (.addo (.tmp 10) 0)⟩, ⟨(some 147), none, (.lda (.tmp 146) 2)⟩, ⟨(some 148), none, (.call ⟨(.value (.func 38)), (List.toArray [(.tmp 145), (.tmp 147)]), (List.toArray [35, 35])⟩ true)⟩, ⟨(some 149), none, (.mov (.tmp 148))⟩, ⟨(some 150), (some (149, true)), (.addo (.tmp 24) 2)⟩, ⟨(some 151), (some (149, true)), (.lda (.tmp 150) 2)⟩, ⟨(some 152), (some (149, true)), (.addo (.tmp 10) 2)⟩, ⟨(some 153), (some (149, true)), (.lda (.tmp 152) 2)⟩, ⟨(some 154), (some (149, true)), (.call ⟨(.value (.func 38)), (List.toArray [(.tmp 151), (.tmp 153)]), (List.toArray [35, 35])⟩ true)⟩, ⟨(some 155), none, (.pur ⟨(some 155), (.pick (.tmp 149) (.tmp 154) (.const (.bool false))), 4, "", (List.toArray []), none⟩)⟩, ⟨(some 156), none, (.mov (.tmp 155))⟩, ⟨(some 157), (some (156, true)), (.addo (.tmp 24) 4)⟩, ⟨(some 158), (some (156, true)), (.lda (.tmp 157) 2)⟩, ⟨(some 159), (some (156, true)), (.addo (.tmp 10) 4)⟩, ⟨(some 160), (some (156, true)), (.lda (.tmp 159) 2)⟩, ⟨(some 161), (some (156, true)), (.call ⟨(.value (.func 38)), (List.toArray [(.tmp 158), (.tmp 160)]), (List.toArray [35, 35])⟩ true)⟩, ⟨(some 162), none, (.pur ⟨(some 162), (.pick (.tmp 156) (.tmp 161) (.const (.bool false))), 4, "", (List.toArray []), none⟩)⟩, ⟨(some 163), none, (.mov (.tmp 162))⟩, ⟨(some 164), (some (163, true)), (.addo (.tmp 24) 6)⟩, ⟨(some 165), (some (163, true)), (.lda (.tmp 164) 2)⟩, ⟨(some 166), (some (163, true)), (.addo (.tmp 10) 6)⟩, ⟨(some 167), (some (163, true)), (.lda (.tmp 166) 2)⟩, ⟨(some 168), (some (163, true)), (.call ⟨(.value (.func 38)), (List.toArray [(.tmp 165), (.tmp 167)]), (List.toArray [35, 35])⟩ true)⟩, ⟨(some 169), none, (.pur ⟨(some 169), (.pick (.tmp 163) (.tmp 168) (.const (.bool false))), 4, "", (List.toArray []), none⟩)⟩, ⟨(some 170), none, (.mov (.tmp 169))⟩, ⟨(some 171), (some (170, true)), (.call ⟨(.value (.func 15)), (List.toArray []), (List.toArray [])⟩ true)⟩, ⟨(some 172), none, (.pur ⟨(some 172), (.pick (.tmp 170) (.tmp 171) (.const (.bool false))), 4, "", (List.toArray []), none⟩)⟩, ⟨(some 8), none, (.mov (.tmp 172))⟩])
  .ret)))))))))))))))
theorem L8 : low Try.prog Try.f8.ntmps (at_ Try.f8 []) = some R8 := by kernel_rfl
theorem E8_1 : at_ Try.f8 [1, 1, 1, 1, 1, 1, 1, 1, 0, 1, 0] = .loop (at_ Try.f8 [1, 1, 1, 1, 1, 1, 1, 1, 0, 1, 0, 0]) := by kernel_rfl
noncomputable def R8x1 : RC := (.seq (.reg [⟨(some 65), none, (.cmp .lss (.tmp 64) (.tmp 63))⟩])
  (.seq (.cond (.tmp 65) .skip
  (.exit 0))
  (.seq (.block 1 (.seq (.reg [⟨(some 66), none, (.mov (.tmp 64))⟩, ⟨(some 67), none, (.idx (.tmp 62) (.tmp 64) 2)⟩, ⟨(some 68), none, (.lda (.tmp 67) 2)⟩, ⟨(some 16), none, (.alc 35 [(.int .i64 0), (.int .i64 0)])⟩, ⟨(some 15), none, (.mov (.tmp 66))⟩, ⟨none, none, (.sta (.tmp 16) (.tmp 68) 2)⟩])
  (.dreg [⟨(some 69), none, (.mov (.tmp 14))⟩, ⟨(some 70), none, (.mov (.tmp 13))⟩, ⟨(some 71), none, (.lda (.tmp 16) 2)⟩, ⟨(some 72), none, (.addo (.tmp 4) 0)⟩, ⟨(some 73), none, (.ld (.tmp 72) 1)⟩, ⟨(some 74), none, (.mov (.tmp 15))⟩, ⟨(some 75), none, (.idx (.tmp 73) (.tmp 74) 4)⟩, ⟨(some 76), none, (.addo (.tmp 75) 0)⟩, ⟨(some 77), none, (.ld (.tmp 76) 1)⟩, ⟨(some 78), none, (.call ⟨(.value (.tmp 70)), (List.toArray [(.tmp 71), (.tmp 77)]), (List.toArray [35, 3])⟩ true)⟩, ⟨(some 79), none, (.mem ⟨(some 79), (.buildSlice 26 1 (List.toArray [(0, (.tmp 78))])), 26, "", (List.toArray []), none⟩)⟩, ⟨(some 80), none, (.mem ⟨(some 80), (.call ⟨(.builtin .append), (List.toArray [(.tmp 69), (.tmp 79)]), (List.toArray [26, 26])⟩), 26, "", (List.toArray []), none⟩)⟩, ⟨(some 14), none, (.mov (.tmp 80))⟩] [4095, 2047, 1022, 510, 248, 120, 56, 0, 8, 0, 0, 0, 0])))
  (.reg [⟨(some 81), none, (.ari .add (.tmp 64) (.const (.int .i64 1)))⟩, ⟨(some 64), none, (.mov (.tmp 81))⟩]))))
theorem L8x1 : low Try.prog Try.f8.ntmps (at_ Try.f8 [1, 1, 1, 1, 1, 1, 1, 1, 0, 1, 0, 0]) = some R8x1 := by kernel_rfl
theorem E8_2 : at_ Try.f8 [1, 1, 1, 1, 1, 1, 1, 1, 1, 1, 0, 1, 0] = .loop (at_ Try.f8 [1, 1, 1, 1, 1, 1, 1, 1, 1, 1, 0, 1, 0, 0]) := by kernel_rfl
noncomputable def R8x2 : RC := (.seq (.reg [⟨(some 85), none, (.cmp .lss (.tmp 84) (.tmp 83))⟩])
  (.seq (.cond (.tmp 85) .skip
  (.exit 2))
  (.seq (.block 3 (.seq (.reg [⟨(some 86), none, (.idx (.tmp 82) (.tmp 84) 3)⟩, ⟨(some 87), none, (.lda (.tmp 86) 3)⟩, ⟨(some 19), none, (.alc 30 [(.slice none 0 0), (.slice none 0 0), (.slice none 0 0)])⟩, ⟨none, none, (.sta (.tmp 19) (.tmp 87) 3)⟩])
  (.seq (.reg [⟨(some 88), none, (.addo (.tmp 19) 1)⟩, ⟨(some 89), none, (.ld (.tmp 88) 1)⟩, ⟨(some 20), none, (.mov (.tmp 89))⟩])
  (.seq (.reg [⟨(some 90), none, (.addo (.tmp 19) 1)⟩, ⟨none, none, (.st (.tmp 90) (.const (.slice none 0 0)))⟩])
  (.seq (.seq (.reg [⟨(some 91), none, (.mov (.tmp 20))⟩, ⟨(some 92), none, (.len (.tmp 91))⟩, ⟨(some 93), none, (.mov (.const (.int .i64 0)))⟩])
  (.block 4 (.other (at_ Try.f8 [1, 1, 1, 1, 1, 1, 1, 1, 1, 1, 0, 1, 0, 0, 1, 1, 0, 0, 1, 1, 1, 0, 1, 0]))))
  (.reg [⟨(some 106), none, (.mov (.tmp 17))⟩, ⟨(some 107), none, (.lda (.tmp 19) 3)⟩, ⟨(some 108), none, (.mem ⟨(some 108), (.buildSlice 47 1 (List.toArray [(0, (.tmp 107))])), 47, "", (List.toArray []), none⟩)⟩, ⟨(some 109), none, (.mem ⟨(some 109), (.call ⟨(.builtin .append), (List.toArray [(.tmp 106), (.tmp 108)]), (List.toArray [47, 47])⟩), 47, "", (List.toArray []), none⟩)⟩, ⟨(some 17), none, (.mov (.tmp 109))⟩]))))))
  (.reg [⟨(some 110), none, (.ari .add (.tmp 84) (.const (.int .i64 1)))⟩, ⟨(some 84), none, (.mov (.tmp 110))⟩]))))
theorem L8x2 : low Try.prog Try.f8.ntmps (at_ Try.f8 [1, 1, 1, 1, 1, 1, 1, 1, 1, 1, 0, 1, 0, 0]) = some R8x2 := by kernel_rfl
theorem E8_3 : at_ Try.f8 [1, 1, 1, 1, 1, 1, 1, 1, 1, 1, 0, 1, 0, 0, 1, 1, 0, 0, 1, 1, 1, 0, 1, 0] = .loop (at_ Try.f8 [1, 1, 1, 1, 1, 1, 1, 1, 1, 1, 0, 1, 0, 0, 1, 1, 0, 0, 1, 1, 1, 0, 1, 0, 0]) := by kernel_rfl
noncomputable def R8x3 : RC := (.seq (.reg [⟨(some 94), none, (.cmp .lss (.tmp 93) (.tmp 92))⟩])
  (.seq (.cond (.tmp 94) .skip
  (.exit 4))
  (.seq (.block 5 (.seq (.reg [⟨(some 95), none, (.idx (.tmp 91) (.tmp 93) 2)⟩, ⟨(some 96), none, (.lda (.tmp 95) 2)⟩, ⟨(some 22), none, (.alc 35 [(.int .i64 0), (.int .i64 0)])⟩, ⟨none, none, (.sta (.tmp 22) (.tmp 96) 2)⟩])
  (.dreg [⟨(some 97), none, (.addo (.tmp 19) 1)⟩, ⟨(some 98), none, (.ld (.tmp 97) 1)⟩, ⟨(some 99), none, (.mov (.tmp 13))⟩, ⟨(some 100), none, (.lda (.tmp 22) 2)⟩, ⟨(some 101), none, (.call ⟨(.value (.tmp 99)), (List.toArray [(.tmp 100), (.const (.int .i64 68719476736))]), (List.toArray [35, 3])⟩ false)⟩, ⟨(some 102), none, (.mem ⟨(some 102), (.buildSlice 26 1 (List.toArray [(0, (.tmp 101))])), 26, "", (List.toArray []), none⟩)⟩, ⟨(some 103), none, (.mem ⟨(some 103), (.call ⟨(.builtin .append), (List.toArray [(.tmp 98), (.tmp 102)]), (List.toArray [26, 26])⟩), 26, "", (List.toArray []), none⟩)⟩, ⟨(some 104), none, (.addo (.tmp 19) 1)⟩, ⟨none, none, (.st (.tmp 104) (.tmp 103))⟩] [255, 127, 63, 28, 12, 0, 0, 1, 0])))
  (.reg [⟨(some 105), none, (.ari .add (.tmp 93) (.const (.int .i64 1)))⟩, ⟨(some 93), none, (.mov (.tmp 105))⟩]))))
theorem L8x3 : low Try.prog Try.f8.ntmps (at_ Try.f8 [1, 1, 1, 1, 1, 1, 1, 1, 1, 1, 0, 1, 0, 0, 1, 1, 0, 0, 1, 1, 1, 0, 1, 0, 0]) = some R8x3 := by kernel_rfl
theorem E8_4 : at_ Try.f8 [1, 1, 1, 1, 1, 1, 1, 1, 1, 1, 1, 1, 1, 0, 1, 0] = .loop (at_ Try.f8 [1, 1, 1, 1, 1, 1, 1, 1, 1, 1, 1, 1, 1, 0, 1, 0, 0]) := by kernel_rfl
noncomputable def R8x4 : RC := (.seq (.reg [⟨(some 131), none, (.cmp .lss (.tmp 130) (.tmp 129))⟩])
  (.seq (.cond (.tmp 131) .skip
  (.exit 6))
  (.seq (.block 7 (.seq (.reg [⟨(some 132), none, (.mov (.tmp 130))⟩, ⟨(some 26), none, (.mov (.tmp 132))⟩])
  (.seq (.dreg [⟨(some 133), none, (.mov (.tmp 23))⟩, ⟨(some 134), none, (.mov (.tmp 26))⟩, ⟨(some 135), none, (.idx (.tmp 133) (.tmp 134) 2)⟩, ⟨(some 136), none, (.lda (.tmp 135) 2)⟩, ⟨(some 137), none, (.mov (.tmp 9))⟩, ⟨(some 138), none, (.mov (.tmp 26))⟩, ⟨(some 139), none, (.idx (.tmp 137) (.tmp 138) 2)⟩, ⟨(some 140), none, (.lda (.tmp 139) 2)⟩, ⟨(some 141), none, (.call ⟨(.value (.func 38)), (List.toArray [(.tmp 136), (.tmp 140)]), (List.toArray [35, 35])⟩ true)⟩, ⟨(some 142), none, (.pur ⟨(some 142), (.unOp .not 4 (.tmp 141)), 4, "", (List.toArray []), none⟩)⟩] [511, 255, 112, 48, 0, 0, 7, 3, 0, 0])
  (.cond (.tmp 142) (.seq (.reg [⟨(some 8), none, (.mov (.const (.bool false)))⟩])
  .ret)
  .skip))))
  (.reg [⟨(some 143), none, (.ari .add (.tmp 130) (.const (.int .i64 1)))⟩, ⟨(some 130), none, (.mov (.tmp 143))⟩]))))
theorem L8x4 : low Try.prog Try.f8.ntmps (at_ Try.f8 [1, 1, 1, 1, 1, 1, 1, 1, 1, 1, 1, 1, 1, 0, 1, 0, 0]) = some R8x4 := by kernel_rfl
theorem N24 : Try.f24.ntmps = 19 := by kernel_rfl
theorem Z24 : Try.f24.results.toList = ((List.toArray [(.tmp 4)]) : Array ResultVar).toList := by kernel_rfl
theorem B24 : Try.f24.body = some (at_ Try.f24 []) := by kernel_rfl
noncomputable def R24 : RC := (.seq (.reg [⟨(some 4), none, (.mov (.const (.bool false)))⟩])
  (.seq (.reg [⟨(some 5), none, (.mov (.tmp 0))⟩, ⟨(some 6), none, (.len (.tmp 5))⟩, ⟨(some 7), none, (.mov (.tmp 1))⟩, ⟨(some 8), none, (.cmpb .gtr (.tmp 6) (.tmp 7))⟩, ⟨(some 9), none, (.mov (.tmp 8))⟩, ⟨(some 10), (some (9, true)), (.mov (.tmp 0))⟩, ⟨(some 11), (some (9, true)), (.len (.tmp 10))⟩, ⟨(some 12), (some (9, true)), (.cmpb .leq (.tmp 11) (.const (.int .i64 200)))⟩, ⟨(some 13), none, (.pur ⟨(some 13), (.pick (.tmp 9) (.tmp 12) (.const (.bool false))), 4, "", (List.toArray []), none⟩)⟩, ⟨(some 14), none, (.mov (.tmp 13))⟩, ⟨(some 15), (some (14, false)), (.mov (.tmp 0))⟩, ⟨(some 16), (some (14, false)), (.len (.tmp 15))⟩, ⟨(some 17), (some (14, false)), (.cmpb .gtr (.tmp 16) (.const (.int .i64 205)))⟩, ⟨(some 18), none, (.pur ⟨(some 18), (.pick (.tmp 14) (.const (.bool true)) (.tmp 17)), 4, "", (List.toArray []), none⟩)⟩, ⟨(some 4), none, (.mov (.tmp 18))⟩])
  .ret))
theorem L24 : low Try.prog Try.f24.ntmps (at_ Try.f24 []) = some R24 := by kernel_rfl
theorem N10 : Try.f10.ntmps = 197 := by kernel_rfl
theorem Z10 : Try.f10.results.toList = ((List.toArray [(.tmp 8)]) : Array ResultVar).toList := by kernel_rfl
theorem B10 : Try.f10.body = some (at_ Try.f10 []) := by kernel_rfl
noncomputable def R10 : RC := (.seq (.reg [⟨(some 4), none, (.box 25 (.tmp 0))⟩, ⟨(some 7), none, (.box 61 (.tmp 3))⟩, ⟨(some 8), none, (.mov (.const (.bool false)))⟩])
  (.seq (.seq (.reg [⟨(some 31), none, (.mov (.tmp 2))⟩, ⟨(some 32), none, (.call ⟨(.value (.func 24)), (List.toArray [(.tmp 31), (.const (.int .i64 24))]), (List.toArray [47, 3])⟩ true)⟩, ⟨(some 33), none, (.mov (.tmp 32))⟩, ⟨(some 34), (some (33, false)), (.lda (.tmp 4) 2)⟩, ⟨(some 35), (some (33, false)), (.mov (.tmp 1))⟩, ⟨(some 36), (some (33, false)), (.mov (.tmp 2))⟩, ⟨(some 37), (some (33, false)), (.call ⟨(.value (.func 14)), (List.toArray [(.tmp 34), (.tmp 35), (.tmp 36)]), (List.toArray [25, 26, 47])⟩ true)⟩, ⟨(some 38), none, (.pur ⟨(some 38), (.pick (.tmp 33) (.const (.bool true)) (.tmp 37)), 4, "", (List.toArray []), none⟩)⟩, ⟨(some 39), none, (.mov (.tmp 38))⟩, ⟨(some 40), (some (39, false)), (.ld (.tmp 7) 1)⟩, ⟨(some 41), (some (39, false)), (.len (.tmp 40))⟩, ⟨(some 42), (some (39, false)), (.cmpb .eql (.tmp 41) (.const (.int .i64 0)))⟩, ⟨(some 43), none, (.pur ⟨(some 43), (.pick (.tmp 39) (.const (.bool true)) (.tmp 42)), 4, "", (List.toArray []), none⟩)⟩])
  (.cond (.tmp 43) (.seq (.reg [⟨(some 44), none, (.call ⟨(.value (.func 15)), (List.toArray []), (List.toArray [])⟩ true)⟩, ⟨(some 8), none, (.mov (.tmp 44))⟩])
  .ret)
  .skip))
  (.seq (.reg [⟨(some 46), none, (.lda (.tmp 4) 2)⟩, ⟨(some 47), none, (.mov (.tmp 1))⟩, ⟨(some 48), none, (.mov (.tmp 2))⟩, ⟨(some 49), none, (.call ⟨(.value (.func 25)), (List.toArray [(.tmp 46), (.tmp 47), (.tmp 48)]), (List.toArray [25, 26, 47])⟩ true)⟩, ⟨(some 45), none, (.mov (.tmp 49))⟩, ⟨(some 50), none, (.pur ⟨(some 50), (.extract (.tmp 45) 0), 26, "", (List.toArray []), none⟩)⟩, ⟨(some 51), none, (.pur ⟨(some 51), (.extract (.tmp 45) 1), 37, "", (List.toArray []), none⟩)⟩, ⟨(some 52), none, (.pur ⟨(some 52), (.extract (.tmp 45) 2), 38, "", (List.toArray []), none⟩)⟩, ⟨(some 10), none, (.alc 37 [(.int .i64 0), (.int .i64 0), (.int .i64 0), (.int .i64 0), (.int .i64 0), (.int .i64 0), (.int .i64 0), (.int .i64 0)])⟩, ⟨(some 9), none, (.mov (.tmp 50))⟩, ⟨none, none, (.sta (.tmp 10) (.tmp 51) 8)⟩, ⟨(some 11), none, (.mov (.tmp 52))⟩])
  (.seq (.seq (.reg [⟨(some 53), none, (.mov (.tmp 11))⟩, ⟨(some 54), none, (.cmp .neq (.tmp 53) (.const (.int .i64 0)))⟩])
  (.cond (.tmp 54) (.seq (.reg [⟨(some 55), none, (.call ⟨(.value (.func 15)), (List.toArray []), (List.toArray [])⟩ true)⟩, ⟨(some 8), none, (.mov (.tmp 55))⟩])
  .ret)
  .skip))
  (.seq (.seq (.reg [⟨(some 56), none, (.lda (.tmp 4) 2)⟩, ⟨(some 57), none, (.call ⟨(.value (.func 32)), (List.toArray [(.tmp 56)]), (List.toArray [25])⟩ true)⟩, ⟨(some 58), none, (.pur ⟨(some 58), (.unOp .not 4 (.tmp 57)), 4, "", (List.toArray []), none⟩)⟩, ⟨(some 59), none, (.mov (.tmp 58))⟩, ⟨(some 60), (some (59, false)), (.lda (.tmp 4) 2)⟩, ⟨(some 61), (some (59, false)), (.mov (.tmp 1))⟩, ⟨(some 62), (some (59, false)), (.call ⟨(.value (.func 33)), (List.toArray [(.tmp 60), (.tmp 61)]), (List.toArray [25, 26])⟩ true)⟩, ⟨(some 63), (some (59, false)), (.pur ⟨(some 63), (.unOp .not 4 (.tmp 62)), 4, "", (List.toArray []), none⟩)⟩, ⟨(some 64), none, (.pur ⟨(some 64), (.pick (.tmp 59) (.const (.bool true)) (.tmp 63)), 4, "", (List.toArray []), none⟩)⟩])
  (.cond (.tmp 64) (.seq (.reg [⟨(some 8), none, (.mov (.const (.bool false)))⟩])
  .ret)
  .skip))
  (.seq (.reg [⟨(some 12), none, (.alc 3 [(.int .i64 0)])⟩, ⟨none, none, (.st (.tmp 12) (.const (.int .i64 0)))⟩])
  (.seq (.reg [⟨(some 65), none, (.pur ⟨(some 65), (.makeFunc (.func 40) (List.toArray []) (List.toArray [(.tmp 7), (.tmp 12)])), 83, "", (List.toArray []), none⟩)⟩, ⟨(some 13), none, (.mov (.tmp 65))⟩])
  (.seq (.reg [⟨(some 66), none, (.addo (.tmp 4) 1)⟩, ⟨(some 67), none, (.ld (.tmp 66) 1)⟩, ⟨(some 68), none, (.pur ⟨(some 68), (.build 25 (List.toArray [(1, (.tmp 67))])), 25, "", (List.toArray []), none⟩)⟩, ⟨(some 14), none, (.alc 25 [(.slice none 0 0), (.slice none 0 0)])⟩, ⟨none, none, (.sta (.tmp 14) (.tmp 68) 2)⟩])
  (.seq (.seq (.reg [⟨(some 69), none, (.addo (.tmp 4) 0)⟩, ⟨(some 70), none, (.ld (.tmp 69) 1)⟩, ⟨(some 71), none, (.len (.tmp 70))⟩, ⟨(some 72), none, (.mov (.const (.int .i64 0)))⟩])
  (.block 0 (.other (at_ Try.f10 [1, 1, 1, 1, 1, 1, 1, 1, 0, 1, 0]))))
  (.seq (.reg [⟨(some 17), none, (.mov (.const (.slice none 0 0)))⟩])
  (.seq (.seq (.reg [⟨(some 88), none, (.mov (.tmp 1))⟩, ⟨(some 89), none, (.len (.tmp 88))⟩, ⟨(some 90), none, (.mov (.const (.int .i64 0)))⟩])
  (.block 2 (.other (at_ Try.f10 [1, 1, 1, 1, 1, 1, 1, 1, 1, 1, 0, 1, 0]))))
  (.seq (.reg [⟨(some 20), none, (.mov (.const (.slice none 0 0)))⟩])
  (.seq (.seq (.reg [⟨(some 101), none, (.mov (.tmp 2))⟩, ⟨(some 102), none, (.len (.tmp 101))⟩, ⟨(some 103), none, (.mov (.const (.int .i64 0)))⟩])
  (.block 4 (.other (at_ Try.f10 [1, 1, 1, 1, 1, 1, 1, 1, 1, 1, 1, 1, 0, 1, 0]))))
  (.seq (.reg [⟨(some 131), none, (.lda (.tmp 14) 2)⟩, ⟨(some 132), none, (.mov (.tmp 17))⟩, ⟨(some 133), none, (.mov (.tmp 20))⟩, ⟨(some 134), none, (.call ⟨(.value (.func 25)), (List.toArray [(.tmp 131), (.tmp 132), (.tmp 133)]), (List.toArray [25, 26, 47])⟩ true)⟩, ⟨(some 130), none, (.mov (.tmp 134))⟩, ⟨(some 135), none, (.pur ⟨(some 135), (.extract (.tmp 130) 0), 26, "", (List.toArray []), none⟩)⟩, ⟨(some 136), none, (.pur ⟨(some 136), (.extract (.tmp 130) 1), 37, "", (List.toArray []), none⟩)⟩, ⟨(some 137), none, (.pur ⟨(some 137), (.extract (.tmp 130) 2), 38, "", (List.toArray []), none⟩)⟩, ⟨(some 27), none, (.alc 37 [(.int .i64 0), (.int .i64 0), (.int .i64 0), (.int .i64 0), (.int .i64 0), (.int .i64 0), (.int .i64 0), (.int .i64 0)])⟩, ⟨(some 26), none, (.mov (.tmp 135))⟩, ⟨none, none, (.sta (.tmp 27) (.tmp 136) 8)⟩, ⟨(some 28), none, (.mov (.tmp 137))⟩])
  (.seq (.seq (.reg [⟨(some 138), none, (.mov (.tmp 28))⟩, ⟨(some 139), none, (.cmpb .neq (.tmp 138) (.const (.int .i64 0)))⟩, ⟨(some 140), none, (.mov (.tmp 139))⟩, ⟨(some 141), (some (140, false)), (.mov (.tmp 26))⟩, ⟨(some 142), (some (140, false)), (.len (.tmp 141))⟩, ⟨(some 143), (some (140, false)), (.mov (.tmp 9))⟩, ⟨(some 144), (some (140, false)), (.len (.tmp 143))⟩, ⟨(some 145), (some (140, false)), (.cmpb .neq (.tmp 142) (.tmp 144))⟩, ⟨(some 146), none, (.pur ⟨(some 146), (.pick (.tmp 140) (.const (.bool true)) (.tmp 145)), 4, "", (List.toArray []), none⟩)⟩])
  (.cond (.tmp 146) (.seq (.reg [⟨(some 8), none, (.mov (.const (.bool false)))⟩])
  .ret)
  .skip))
  (.seq (.reg [⟨(some 29), none, (.mov (.func 41))⟩])
  (.seq (.seq (.reg [⟨(some 147), none, (.mov (.tmp 9))⟩, ⟨(some 148), none, (.len (.tmp 147))⟩, ⟨(some 149), none, (.mov (.const (.int .i64 0)))⟩])
  (.block 8 (.other (at_ Try.f10 [1, 1, 1, 1, 1, 1, 1, 1, 1, 1, 1, 1, 1, 1, 1, 1, 0, 1, 0]))))
  (.seq (.reg [⟨(some 164), none, (.mov (.tmp 29))⟩, ⟨(some 165), none, (.addo (.tmp 27) 0)⟩, ⟨(some 166), none, (.lda (.tmp 165) 2)⟩, ⟨(some 167), none, (.addo (.tmp 10) 0)⟩, ⟨(some 168), none, (.lda (.tmp 167) 2)⟩, ⟨(some 169), none, (.call ⟨(.value (.tmp 164)), (List.toArray [(.tmp 166), (.tmp 168)]), (List.toArray [35, 35])⟩ true)⟩, ⟨(some 170), none, (.mov (.tmp 169))⟩, ⟨(some 171), (some (170, true)), (.mov (.tmp 29))⟩, ⟨(some 172), (some (170, true)), (.addo (.tmp 27) 2)⟩, ⟨(some 173), (some (170, true)), (.lda (.tmp 172) 2)⟩, ⟨(some 174), (some (170, true)), (.addo (.tmp 10) 2)⟩, ⟨(some 175), (some (170, true)), (.lda (.tmp 174) 2)⟩, ⟨(some 176), (some (170, true)), (.call ⟨(.value (.tmp 171)), (List.toArray [(.tmp 173), (.tmp 175)]), (List.toArray [35, 35])⟩ true)⟩, ⟨(some 177), none, (.pur ⟨(some 177), (.pick (.tmp 170) (.tmp 176) (.const (.bool false))), 4, "", (List.toArray []), none⟩)⟩, ⟨(some 178), none, (.mov (.tmp 177))⟩, ⟨(some 179), (some (178, true)), (.mov (.tmp 29))⟩, ⟨(some 180), (some (178, true)), (.addo (.tmp 27) 4)⟩, ⟨(some 181), (some (178, true)), (.lda (.tmp 180) 2)⟩, ⟨(some 182), (some (178, true)), (.addo (.tmp 10) 4)⟩, ⟨(some 183), (some (178, true)), (.lda (.tmp 182) 2)⟩, ⟨(some 184), (some (178, true)), (.call ⟨(.value (.tmp 179)), (List.toArray [(.tmp 181), (.tmp 183)]), (List.toArray [35, 35])⟩ true)⟩, ⟨(some 185), none, (.pur ⟨(some 185), (.pick (.tmp 178) (.tmp 184) (.const (.bool false))), 4, "", (List.toArray []), none⟩)⟩, ⟨(some 186), none, (.mov (.tmp 185))⟩, ⟨(some 187), (some (186, true)), (.mov (.tmp 29))⟩, ⟨(some 188), (some (186, true)), (.addo (.tmp 27) 6)⟩, ⟨(some 189), (some (186, true)), (.lda (.tmp 188) 2)⟩, ⟨(some 190), (some (186, true)), (.addo (.tmp 10) 6)⟩, ⟨(some 191), (some (186, true)), (.lda (.tmp 190) 2)⟩, ⟨(some 192), (some (186, true)), (.call ⟨(.value (.tmp 187)), (List.toArray [(.tmp 189), (.tmp 191)]), (List.toArray [35, 35])⟩ true)⟩, ⟨(some 193), none, (.pur ⟨(some 193), (.pick (.tmp 186) (.tmp 192) (.const (.bool false))), 4, "", (List.toArray []), none⟩)⟩, ⟨(some 194), none, (.mov (.tmp 193))⟩, ⟨(some 195), (some (194, true)), (.call ⟨(.value (.func 15)), (List.toArray []), (List.toArray [])⟩ true)⟩, ⟨(some 196), none, (.pur ⟨(some 196), (.pick (.tmp 194) (.tmp 195) (.const (.bool false))), 4, "", (List.toArray []), none⟩)⟩, ⟨(some 8), none, (.mov (.tmp 196))⟩])
  .ret))))))))))))))))))
theorem L10 : low Try.prog Try.f10.ntmps (at_ Try.f10 []) = some R10 := by kernel_rfl
theorem E10_1 : at_ Try.f10 [1, 1, 1, 1, 1, 1, 1, 1, 0, 1, 0] = .loop (at_ Try.f10 [1, 1, 1, 1, 1, 1, 1, 1, 0, 1, 0, 0]) := by kernel_rfl
noncomputable def R10x1 : RC := (.seq (.reg [⟨(some 73), none, (.cmp .lss (.tmp 72) (.tmp 71))⟩])
  (.seq (.cond (.tmp 73) .skip
  (.exit 0))
  (.seq (.block 1 (.seq (.reg [⟨(some 74), none, (.idx (.tmp 70) (.tmp 72) 4)⟩, ⟨(some 75), none, (.lda (.tmp 74) 4)⟩, ⟨(some 16), none, (.alc 71 [(.int .i64 0), (.int .i64 0), (.int .i64 0), (.int .i64 0)])⟩, ⟨none, none, (.sta (.tmp 16) (.tmp 75) 4)⟩])
  (.seq (.reg [⟨(some 76), none, (.mov (.tmp 13))⟩, ⟨(some 77), none, (.addo (.tmp 16) 1)⟩, ⟨(some 78), none, (.lda (.tmp 77) 2)⟩, ⟨(some 79), none, (.call ⟨(.value (.tmp 76)), (List.toArray [(.tmp 78)]), (List.toArray [35])⟩ true)⟩, ⟨(some 80), none, (.addo (.tmp 16) 1)⟩, ⟨none, none, (.sta (.tmp 80) (.tmp 79) 2)⟩])
  (.reg [⟨(some 81), none, (.addo (.tmp 14) 0)⟩, ⟨(some 82), none, (.ld (.tmp 81) 1)⟩, ⟨(some 83), none, (.lda (.tmp 16) 4)⟩, ⟨(some 84), none, (.mem ⟨(some 84), (.buildSlice 22 1 (List.toArray [(0, (.tmp 83))])), 22, "", (List.toArray []), none⟩)⟩, ⟨(some 85), none, (.mem ⟨(some 85), (.call ⟨(.builtin .append), (List.toArray [(.tmp 82), (.tmp 84)]), (List.toArray [22, 22])⟩), 22, "", (List.toArray []), none⟩)⟩, ⟨(some 86), none, (.addo (.tmp 14) 0)⟩, ⟨none, none, (.st (.tmp 86) (.tmp 85))⟩]))))
  (.reg [⟨(some 87), none, (.ari .add (.tmp 72) (.const (.int .i64 1)))⟩, ⟨(some 72), none, (.mov (.tmp 87))⟩]))))
theorem L10x1 : low Try.prog Try.f10.ntmps (at_ Try.f10 [1, 1, 1, 1, 1, 1, 1, 1, 0, 1, 0, 0]) = some R10x1 := by kernel_rfl
theorem E10_2 : at_ Try.f10 [1, 1, 1, 1, 1, 1, 1, 1, 1, 1, 0, 1, 0] = .loop (at_ Try.f10 [1, 1, 1, 1, 1, 1, 1, 1, 1, 1, 0, 1, 0, 0]) := by kernel_rfl
noncomputable def R10x2 : RC := (.seq (.reg [⟨(some 91), none, (.cmp .lss (.tmp 90) (.tmp 89))⟩])
  (.seq (.cond (.tmp 91) .skip
  (.exit 2))
  (.seq (.block 3 (.seq (.reg [⟨(some 92), none, (.idx (.tmp 88) (.tmp 90) 2)⟩, ⟨(some 93), none, (.lda (.tmp 92) 2)⟩, ⟨(some 19), none, (.alc 35 [(.int .i64 0), (.int .i64 0)])⟩, ⟨none, none, (.sta (.tmp 19) (.tmp 93) 2)⟩])
  (.reg [⟨(some 94), none, (.mov (.tmp 17))⟩, ⟨(some 95), none, (.mov (.tmp 13))⟩, ⟨(some 96), none, (.lda (.tmp 19) 2)⟩, ⟨(some 97), none, (.call ⟨(.value (.tmp 95)), (List.toArray [(.tmp 96)]), (List.toArray [35])⟩ true)⟩, ⟨(some 98), none, (.mem ⟨(some 98), (.buildSlice 26 1 (List.toArray [(0, (.tmp 97))])), 26, "", (List.toArray []), none⟩)⟩, ⟨(some 99), none, (.mem ⟨(some 99), (.call ⟨(.builtin .append), (List.toArray [(.tmp 94), (.tmp 98)]), (List.toArray [26, 26])⟩), 26, "", (List.toArray []), none⟩)⟩, ⟨(some 17), none, (.mov (.tmp 99))⟩])))
  (.reg [⟨(some 100), none, (.ari .add (.tmp 90) (.const (.int .i64 1)))⟩, ⟨(some 90), none, (.mov (.tmp 100))⟩]))))
theorem L10x2 : low Try.prog Try.f10.ntmps (at_ Try.f10 [1, 1, 1, 1, 1, 1, 1, 1, 1, 1, 0, 1, 0, 0]) = some R10x2 := by kernel_rfl
theorem E10_3 : at_ Try.f10 [1, 1, 1, 1, 1, 1, 1, 1, 1, 1, 1, 1, 0, 1, 0] = .loop (at_ Try.f10 [1, 1, 1, 1, 1, 1, 1, 1, 1, 1, 1, 1, 0, 1, 0, 0]) := by kernel_rfl
noncomputable def R10x3 : RC := (.seq (.reg [⟨(some 104), none, (.cmp .lss (.tmp 103) (.tmp 102))⟩])
  (.seq (.cond (.tmp 104) .skip
  (.exit 4))
  (.seq (.block 5 (.seq (.reg [⟨(some 105), none, (.idx (.tmp 101) (.tmp 103) 3)⟩, ⟨(some 106), none, (.lda (.tmp 105) 3)⟩, ⟨(some 22), none, (.alc 30 [(.slice none 0 0), (.slice none 0 0), (.slice none 0 0)])⟩, ⟨none, none, (.sta (.tmp 22) (.tmp 106) 3)⟩])
  (.seq (.reg [⟨(some 107), none, (.addo (.tmp 22) 1)⟩, ⟨(some 108), none, (.ld (.tmp 107) 1)⟩, ⟨(some 23), none, (.mov (.tmp 108))⟩])
  (.seq (.reg [⟨(some 109), none, (.addo (.tmp 22) 1)⟩, ⟨none, none, (.st (.tmp 109) (.const (.slice none 0 0)))⟩])
  (.seq (.seq (.reg [⟨(some 110), none, (.mov (.tmp 23))⟩, ⟨(some 111), none, (.len (.tmp 110))⟩, ⟨(some 112), none, (.mov (.const (.int .i64 0)))⟩])
  (.block 6 (.other (at_ Try.f10 [1, 1, 1, 1, 1, 1, 1, 1, 1, 1, 1, 1, 0, 1, 0, 0, 1, 1, 0, 0, 1, 1, 1, 0, 1, 0]))))
  (.reg [⟨(some 125), none, (.mov (.tmp 20))⟩, ⟨(some 126), none, (.lda (.tmp 22) 3)⟩, ⟨(some 127), none, (.mem ⟨(some 127), (.buildSlice 47 1 (List.toArray [(0, (.tmp 126))])), 47, "", (List.toArray []), none⟩)⟩, ⟨(some 128), none, (.mem ⟨(some 128), (.call ⟨(.builtin .append), (List.toArray [(.tmp 125), (.tmp 127)]), (List.toArray [47, 47])⟩), 47, "", (List.toArray []), none⟩)⟩, ⟨(some 20), none, (.mov (.tmp 128))⟩]))))))
  (.reg [⟨(some 129), none, (.ari .add (.tmp 103) (.const (.int .i64 1)))⟩, ⟨(some 103), none, (.mov (.tmp 129))⟩]))))
theorem L10x3 : low Try.prog Try.f10.ntmps (at_ Try.f10 [1, 1, 1, 1, 1, 1, 1, 1, 1, 1, 1, 1, 0, 1, 0, 0]) = some R10x3 := by kernel_rfl
theorem E10_4 : at_ Try.f10 [1, 1, 1, 1, 1, 1, 1, 1, 1, 1, 1, 1, 0, 1, 0, 0, 1, 1, 0, 0, 1, 1, 1, 0, 1, 0] = .loop (at_ Try.f10 [1, 1, 1, 1, 1, 1, 1, 1, 1, 1, 1, 1, 0, 1, 0, 0, 1, 1, 0, 0, 1, 1, 1, 0, 1, 0, 0]) := by kernel_rfl
noncomputable def R10x4 : RC := (.seq (.reg [⟨(some 113), none, (.cmp .lss (.tmp 112) (.tmp 111))⟩])
  (.seq (.cond (.tmp 113) .skip
  (.exit 6))
  (.seq (.block 7 (.seq (.reg [⟨(some 114), none, (.idx (.tmp 110) (.tmp 112) 2)⟩, ⟨(some 115), none, (.lda (.tmp 114) 2)⟩, ⟨(some 25), none, (.alc 35 [(.int .i64 0), (.int .i64 0)])⟩, ⟨none, none, (.sta (.tmp 25) (.tmp 115) 2)⟩])
  (.dreg [⟨(some 116), none, (.addo (.tmp 22) 1)⟩, ⟨(some 117), none, (.ld (.tmp 116) 1)⟩, ⟨(some 118), none, (.mov (.tmp 13))⟩, ⟨(some 119), none, (.lda (.tmp 25) 2)⟩, ⟨(some 120), none, (.call ⟨(.value (.tmp 118)), (List.toArray [(.tmp 119)]), (List.toArray [35])⟩ false)⟩, ⟨(some 121), none, (.mem ⟨(some 121), (.buildSlice 26 1 (List.toArray [(0, (.tmp 120))])), 26, "", (List.toArray []), none⟩)⟩, ⟨(some 122), none, (.mem ⟨(some 122), (.call ⟨(.builtin .append), (List.toArray [(.tmp 117), (.tmp 121)]), (List.toArray [26, 26])⟩), 26, "", (List.toArray []), none⟩)⟩, ⟨(some 123), none, (.addo (.tmp 22) 1)⟩, ⟨none, none, (.st (.tmp 123) (.tmp 122))⟩] [255, 127, 63, 28, 12, 0, 0, 1, 0])))
  (.reg [⟨(some 124), none, (.ari .add (.tmp 112) (.const (.int .i64 1)))⟩, ⟨(some 112), none, (.mov (.tmp 124))⟩]))))
theorem L10x4 : low Try.prog Try.f10.ntmps (at_ Try.f10 [1, 1, 1, 1, 1, 1, 1, 1, 1, 1, 1, 1, 0, 1, 0, 0, 1, 1, 0, 0, 1, 1, 1, 0, 1, 0, 0]) = some R10x4 := by kernel_rfl
theorem E10_5 : at_ Try.f10 [1, 1, 1, 1, 1, 1, 1, 1, 1, 1, 1, 1, 1, 1, 1, 1, 0, 1, 0] = .loop (at_ Try.f10 [1, 1, 1, 1, 1, 1, 1, 1, 1, 1, 1, 1, 1, 1, 1, 1, 0, 1, 0, 0]) := by kernel_rfl
noncomputable def R10x5 : RC := (.seq (.reg [⟨(some 150), none, (.cmp .lss (.tmp 149) (.tmp 148))⟩])
  (.seq (.cond (.tmp 150) .skip
  (.exit 8))
  (.seq (.block 9 (.seq (.reg [⟨(some 151), none, (.mov (.tmp 149))⟩, ⟨(some 30), none, (.mov (.tmp 151))⟩])
  (.seq (.dreg [⟨(some 152), none, (.mov (.tmp 29))⟩, ⟨(some 153), none, (.mov (.tmp 26))⟩, ⟨(some 154), none, (.mov (.tmp 30))⟩, ⟨(some 155), none, (.idx (.tmp 153) (.tmp 154) 2)⟩, ⟨(some 156), none, (.lda (.tmp 155) 2)⟩, ⟨(some 157), none, (.mov (.tmp 9))⟩, ⟨(some 158), none, (.mov (.tmp 30))⟩, ⟨(some 159), none, (.idx (.tmp 157) (.tmp 158) 2)⟩, ⟨(some 160), none, (.lda (.tmp 159) 2)⟩, ⟨(some 161), none, (.call ⟨(.value (.tmp 152)), (List.toArray [(.tmp 156), (.tmp 160)]), (List.toArray [35, 35])⟩ true)⟩, ⟨(some 162), none, (.pur ⟨(some 162), (.unOp .not 4 (.tmp 161)), 4, "", (List.toArray []), none⟩)⟩] [1023, 511, 224, 96, 0, 0, 14, 6, 0, 0, 0])
  (.cond (.tmp 162) (.seq (.reg [⟨(some 8), none, (.mov (.const (.bool false)))⟩])
  .ret)
  .skip))))
  (.reg [⟨(some 163), none, (.ari .add (.tmp 149) (.const (.int .i64 1)))⟩, ⟨(some 149), none, (.mov (.tmp 163))⟩]))))
theorem L10x5 : low Try.prog Try.f10.ntmps (at_ Try.f10 [1, 1, 1, 1, 1, 1, 1, 1, 1, 1, 1, 1, 1, 1, 1, 1, 0, 1, 0, 0]) = some R10x5 := by kernel_rfl
end Go.Ax

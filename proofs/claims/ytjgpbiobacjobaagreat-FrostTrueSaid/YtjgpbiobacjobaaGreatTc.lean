import Derived.Test.YtjgpbiobacjobaaGreatTb
set_option linter.all false
/-
  Frost: the law FrostEnds (written by program).
-/
namespace Go.Ax
open Go Go.RowKit Go.Proofs

noncomputable def R8x1t53 : RC := (.dreg [⟨(some 53), none, (.addo (.tmp 6) 2)⟩, ⟨(some 54), none, (.ld (.tmp 53) 1)⟩, ⟨(some 55), none, (.addo (.tmp 1) 3)⟩, ⟨(some 56), none, (.ld (.tmp 55) 1)⟩, ⟨(some 57), none, (.addo (.tmp 6) 0)⟩, ⟨(some 58), none, (.ld (.tmp 57) 1)⟩, ⟨(some 59), none, (.idx (.tmp 56) (.tmp 58) 2)⟩, ⟨(some 60), none, (.addo (.tmp 59) 1)⟩, ⟨(some 61), none, (.ld (.tmp 60) 1)⟩, ⟨(some 62), none, (.ari .sub (.tmp 54) (.tmp 61))⟩, ⟨(some 63), none, (.addo (.tmp 6) 2)⟩, ⟨(some 64), none, (.ld (.tmp 63) 1)⟩, ⟨(some 65), none, (.addo (.tmp 1) 3)⟩, ⟨(some 66), none, (.ld (.tmp 65) 1)⟩, ⟨(some 67), none, (.addo (.tmp 6) 0)⟩, ⟨(some 68), none, (.ld (.tmp 67) 1)⟩, ⟨(some 69), none, (.idx (.tmp 66) (.tmp 68) 2)⟩, ⟨(some 70), none, (.addo (.tmp 69) 0)⟩, ⟨(some 71), none, (.ld (.tmp 70) 1)⟩, ⟨(some 72), none, (.ari .sub (.tmp 64) (.tmp 71))⟩, ⟨(some 7), none, (.mov (.tmp 62))⟩, ⟨(some 8), none, (.mov (.tmp 72))⟩] [2097151, 1023, 523264, 258048, 126976, 61440, 16384, 0, 4096, 0, 1024, 0, 511, 252, 124, 60, 16, 0, 4, 0, 1, 0])
theorem L8x1t53 : low Tryz.prog 270 (at_ Tryz.f8 [1, 1, 1, 0, 1, 0, 1, 0, 1, 0, 0, 1, 1, 0, 0, 1, 0]) = some R8x1t53 := by kernel_rfl
noncomputable def R8x1e : RC := (.reg [⟨(some 145), none, (.ari .add (.tmp 49) (.const (.int .i64 1)))⟩, ⟨(some 49), none, (.mov (.tmp 145))⟩])
theorem L8x1e : low Tryz.prog 270 (at_ Tryz.f8 [1, 1, 1, 0, 1, 0, 1, 0, 1, 0, 0, 1, 1, 1]) = some R8x1e := by kernel_rfl
noncomputable def R8x1v : RC := (.seq (.reg [⟨(some 50), none, (.cmp .lss (.tmp 49) (.tmp 48))⟩])
  (.seq (.cond (.tmp 50) .skip
  (.exit 0))
  (.seq (.block 1 (.seq (.reg [⟨(some 51), none, (.idx (.tmp 47) (.tmp 49) 3)⟩, ⟨(some 52), none, (.lda (.tmp 51) 3)⟩, ⟨(some 6), none, (.alc 57 [(.int .i64 0), (.int .i64 0), (.int .i64 0)])⟩, ⟨none, none, (.sta (.tmp 6) (.tmp 52) 3)⟩])
  (.seq (.other (at_ Tryz.f8 [1, 1, 1, 0, 1, 0, 1, 0, 1, 0, 0, 1, 1, 0, 0, 1, 0]))
  (.seq (.seq (.reg [⟨(some 73), none, (.mov (.tmp 7))⟩, ⟨(some 74), none, (.cmpb .gtr (.tmp 73) (.const (.int .i64 5000)))⟩, ⟨(some 75), none, (.mov (.tmp 74))⟩, ⟨(some 76), (some (75, false)), (.mov (.tmp 8))⟩, ⟨(some 77), (some (75, false)), (.cmpb .lss (.tmp 76) (.const (.int .i64 (-5000))))⟩, ⟨(some 78), none, (.pur ⟨(some 78), (.pick (.tmp 75) (.const (.bool true)) (.tmp 77)), 4, "", (List.toArray []), none⟩)⟩])
  (.cond (.tmp 78) (.seq (.reg [⟨(some 79), none, (.mov (.tmp 3))⟩, ⟨(some 80), none, (.len (.tmp 79))⟩, ⟨(some 81), none, (.cmpb .eql (.tmp 80) (.const (.int .i64 0)))⟩, ⟨(some 82), none, (.mov (.tmp 81))⟩, ⟨(some 83), (some (82, true)), (.call ⟨(.value (.func 16)), (List.toArray []), (List.toArray [])⟩ true)⟩, ⟨(some 84), none, (.pur ⟨(some 84), (.pick (.tmp 82) (.tmp 83) (.const (.bool false))), 4, "", (List.toArray []), none⟩)⟩, ⟨(some 2), none, (.mov (.tmp 84))⟩])
  .ret)
  .skip))
  (.seq (.reg [⟨(some 85), none, (.addo (.tmp 1) 4)⟩, ⟨(some 86), none, (.ld (.tmp 85) 1)⟩, ⟨(some 87), none, (.len (.tmp 86))⟩, ⟨(some 88), none, (.mov (.const (.int .i64 0)))⟩])
  (.block 2 (.other (at_ Tryz.f8 [1, 1, 1, 0, 1, 0, 1, 0, 1, 0, 0, 1, 1, 0, 0, 1, 1, 1, 1, 0]))))))))
  (.other (at_ Tryz.f8 [1, 1, 1, 0, 1, 0, 1, 0, 1, 0, 0, 1, 1, 1])))))
theorem V8x1 : LV Tryz.prog 270 (at_ Tryz.f8 [1, 1, 1, 0, 1, 0, 1, 0, 1, 0, 0]) R8x1v := by
  have e : at_ Tryz.f8 [1, 1, 1, 0, 1, 0, 1, 0, 1, 0, 0] = (.seq (at_ Tryz.f8 [1, 1, 1, 0, 1, 0, 1, 0, 1, 0, 0, 0]) (.seq (at_ Tryz.f8 [1, 1, 1, 0, 1, 0, 1, 0, 1, 0, 0, 1, 0]) (.seq (.block 1 (.seq (at_ Tryz.f8 [1, 1, 1, 0, 1, 0, 1, 0, 1, 0, 0, 1, 1, 0, 0, 0]) (.seq (at_ Tryz.f8 [1, 1, 1, 0, 1, 0, 1, 0, 1, 0, 0, 1, 1, 0, 0, 1, 0]) (at_ Tryz.f8 [1, 1, 1, 0, 1, 0, 1, 0, 1, 0, 0, 1, 1, 0, 0, 1, 1])))) (at_ Tryz.f8 [1, 1, 1, 0, 1, 0, 1, 0, 1, 0, 0, 1, 1, 1])))) := by kernel_rfl
  rw [e]
  exact (.seq (.low (by kernel_rfl)) (.seq (.low (by kernel_rfl)) (.seq (.block 1 (.seq (.low (by kernel_rfl)) (.seq (.other _) (.low (by kernel_rfl))))) (.other _))))

noncomputable def R8x2t92 : RC := (.dreg [⟨(some 92), none, (.addo (.tmp 10) 2)⟩, ⟨(some 93), none, (.ld (.tmp 92) 1)⟩, ⟨(some 94), none, (.addo (.tmp 1) 3)⟩, ⟨(some 95), none, (.ld (.tmp 94) 1)⟩, ⟨(some 96), none, (.addo (.tmp 10) 0)⟩, ⟨(some 97), none, (.ld (.tmp 96) 1)⟩, ⟨(some 98), none, (.idx (.tmp 95) (.tmp 97) 2)⟩, ⟨(some 99), none, (.addo (.tmp 98) 1)⟩, ⟨(some 100), none, (.ld (.tmp 99) 1)⟩, ⟨(some 101), none, (.ari .sub (.tmp 93) (.tmp 100))⟩, ⟨(some 11), none, (.mov (.tmp 101))⟩] [1023, 511, 252, 124, 60, 16, 0, 4, 0, 1, 0])
theorem L8x2t92 : low Tryz.prog 270 (at_ Tryz.f8 [1, 1, 1, 0, 1, 0, 1, 0, 1, 0, 0, 1, 1, 0, 0, 1, 1, 1, 1, 0, 0, 1, 1, 0, 0, 1, 0]) = some R8x2t92 := by kernel_rfl
noncomputable def R8x2t107 : RC := (.dreg [⟨(some 107), none, (.mov (.tmp 12))⟩, ⟨(some 108), none, (.cmpb .geq (.tmp 107) (.const (.int .i64 0)))⟩, ⟨(some 109), none, (.mov (.tmp 108))⟩, ⟨(some 110), (some (109, true)), (.mov (.tmp 11))⟩, ⟨(some 111), (some (109, true)), (.mov (.tmp 8))⟩, ⟨(some 112), (some (109, true)), (.addo (.tmp 1) 2)⟩, ⟨(some 113), (some (109, true)), (.ld (.tmp 112) 1)⟩, ⟨(some 114), (some (109, true)), (.mov (.tmp 12))⟩, ⟨(some 115), (some (109, true)), (.ari .mul (.tmp 113) (.tmp 114))⟩, ⟨(some 116), (some (109, true)), (.ari .add (.tmp 111) (.tmp 115))⟩, ⟨(some 117), (some (109, true)), (.cmpb .gtr (.tmp 110) (.tmp 116))⟩, ⟨(some 118), (some (109, true)), (.mov (.tmp 117))⟩, ⟨(some 119), (some (118, false)), (.mov (.tmp 7))⟩, ⟨(some 120), (some (118, false)), (.addo (.tmp 10) 2)⟩, ⟨(some 121), (some (118, false)), (.ld (.tmp 120) 1)⟩, ⟨(some 122), (some (118, false)), (.addo (.tmp 1) 3)⟩, ⟨(some 123), (some (118, false)), (.ld (.tmp 122) 1)⟩, ⟨(some 124), (some (118, false)), (.addo (.tmp 10) 0)⟩, ⟨(some 125), (some (118, false)), (.ld (.tmp 124) 1)⟩, ⟨(some 126), (some (118, false)), (.idx (.tmp 123) (.tmp 125) 2)⟩, ⟨(some 127), (some (118, false)), (.addo (.tmp 126) 0)⟩, ⟨(some 128), (some (118, false)), (.ld (.tmp 127) 1)⟩, ⟨(some 129), (some (118, false)), (.ari .sub (.tmp 121) (.tmp 128))⟩, ⟨(some 130), (some (118, false)), (.addo (.tmp 1) 1)⟩, ⟨(some 131), (some (118, false)), (.ld (.tmp 130) 1)⟩, ⟨(some 132), (some (118, false)), (.mov (.tmp 12))⟩, ⟨(some 133), (some (118, false)), (.ari .mul (.tmp 131) (.tmp 132))⟩, ⟨(some 134), (some (118, false)), (.ari .add (.tmp 129) (.tmp 133))⟩, ⟨(some 135), (some (118, false)), (.cmpb .gtr (.tmp 119) (.tmp 134))⟩, ⟨(some 136), (some (109, true)), (.pur ⟨(some 136), (.pick (.tmp 118) (.const (.bool true)) (.tmp 135)), 4, "", (List.toArray []), none⟩)⟩, ⟨(some 137), none, (.pur ⟨(some 137), (.pick (.tmp 109) (.tmp 136) (.const (.bool false))), 4, "", (List.toArray []), none⟩)⟩] [1073741823, 536870911, 268435455, 134213631, 58724351, 4095, 8392703, 4095, 4190207, 2068479, 1019903, 495615, 135167, 4095, 36863, 4095, 12287, 4095, 4095, 2047, 1023, 503, 231, 7, 39, 7, 7, 7, 3, 1, 0])
theorem L8x2t107 : low Tryz.prog 270 (at_ Tryz.f8 [1, 1, 1, 0, 1, 0, 1, 0, 1, 0, 0, 1, 1, 0, 0, 1, 1, 1, 1, 0, 0, 1, 1, 0, 0, 1, 1, 1, 0]) = some R8x2t107 := by kernel_rfl
noncomputable def R8x2e : RC := (.reg [⟨(some 144), none, (.ari .add (.tmp 88) (.const (.int .i64 1)))⟩, ⟨(some 88), none, (.mov (.tmp 144))⟩])
theorem L8x2e : low Tryz.prog 270 (at_ Tryz.f8 [1, 1, 1, 0, 1, 0, 1, 0, 1, 0, 0, 1, 1, 0, 0, 1, 1, 1, 1, 0, 0, 1, 1, 1]) = some R8x2e := by kernel_rfl
noncomputable def R8x2v : RC := (.seq (.reg [⟨(some 89), none, (.cmp .lss (.tmp 88) (.tmp 87))⟩])
  (.seq (.cond (.tmp 89) .skip
  (.exit 2))
  (.seq (.block 3 (.seq (.reg [⟨(some 90), none, (.idx (.tmp 86) (.tmp 88) 3)⟩, ⟨(some 91), none, (.lda (.tmp 90) 3)⟩, ⟨(some 10), none, (.alc 57 [(.int .i64 0), (.int .i64 0), (.int .i64 0)])⟩, ⟨none, none, (.sta (.tmp 10) (.tmp 91) 3)⟩])
  (.seq (.other (at_ Tryz.f8 [1, 1, 1, 0, 1, 0, 1, 0, 1, 0, 0, 1, 1, 0, 0, 1, 1, 1, 1, 0, 0, 1, 1, 0, 0, 1, 0]))
  (.seq (.reg [⟨(some 102), none, (.addo (.tmp 10) 1)⟩, ⟨(some 103), none, (.ld (.tmp 102) 1)⟩, ⟨(some 104), none, (.addo (.tmp 6) 1)⟩, ⟨(some 105), none, (.ld (.tmp 104) 1)⟩, ⟨(some 106), none, (.ari .sub (.tmp 103) (.tmp 105))⟩, ⟨(some 12), none, (.mov (.tmp 106))⟩])
  (.seq (.other (at_ Tryz.f8 [1, 1, 1, 0, 1, 0, 1, 0, 1, 0, 0, 1, 1, 0, 0, 1, 1, 1, 1, 0, 0, 1, 1, 0, 0, 1, 1, 1, 0]))
  (.cond (.tmp 137) (.seq (.reg [⟨(some 138), none, (.mov (.tmp 3))⟩, ⟨(some 139), none, (.len (.tmp 138))⟩, ⟨(some 140), none, (.cmpb .eql (.tmp 139) (.const (.int .i64 0)))⟩, ⟨(some 141), none, (.mov (.tmp 140))⟩, ⟨(some 142), (some (141, true)), (.call ⟨(.value (.func 16)), (List.toArray []), (List.toArray [])⟩ true)⟩, ⟨(some 143), none, (.pur ⟨(some 143), (.pick (.tmp 141) (.tmp 142) (.const (.bool false))), 4, "", (List.toArray []), none⟩)⟩, ⟨(some 2), none, (.mov (.tmp 143))⟩])
  .ret)
  .skip))))))
  (.other (at_ Tryz.f8 [1, 1, 1, 0, 1, 0, 1, 0, 1, 0, 0, 1, 1, 0, 0, 1, 1, 1, 1, 0, 0, 1, 1, 1])))))
theorem V8x2 : LV Tryz.prog 270 (at_ Tryz.f8 [1, 1, 1, 0, 1, 0, 1, 0, 1, 0, 0, 1, 1, 0, 0, 1, 1, 1, 1, 0, 0]) R8x2v := by
  have e : at_ Tryz.f8 [1, 1, 1, 0, 1, 0, 1, 0, 1, 0, 0, 1, 1, 0, 0, 1, 1, 1, 1, 0, 0] = (.seq (at_ Tryz.f8 [1, 1, 1, 0, 1, 0, 1, 0, 1, 0, 0, 1, 1, 0, 0, 1, 1, 1, 1, 0, 0, 0]) (.seq (at_ Tryz.f8 [1, 1, 1, 0, 1, 0, 1, 0, 1, 0, 0, 1, 1, 0, 0, 1, 1, 1, 1, 0, 0, 1, 0]) (.seq (.block 3 (.seq (at_ Tryz.f8 [1, 1, 1, 0, 1, 0, 1, 0, 1, 0, 0, 1, 1, 0, 0, 1, 1, 1, 1, 0, 0, 1, 1, 0, 0, 0]) (.seq (at_ Tryz.f8 [1, 1, 1, 0, 1, 0, 1, 0, 1, 0, 0, 1, 1, 0, 0, 1, 1, 1, 1, 0, 0, 1, 1, 0, 0, 1, 0]) (.seq (at_ Tryz.f8 [1, 1, 1, 0, 1, 0, 1, 0, 1, 0, 0, 1, 1, 0, 0, 1, 1, 1, 1, 0, 0, 1, 1, 0, 0, 1, 1, 0]) (.seq (at_ Tryz.f8 [1, 1, 1, 0, 1, 0, 1, 0, 1, 0, 0, 1, 1, 0, 0, 1, 1, 1, 1, 0, 0, 1, 1, 0, 0, 1, 1, 1, 0]) (at_ Tryz.f8 [1, 1, 1, 0, 1, 0, 1, 0, 1, 0, 0, 1, 1, 0, 0, 1, 1, 1, 1, 0, 0, 1, 1, 0, 0, 1, 1, 1, 1])))))) (at_ Tryz.f8 [1, 1, 1, 0, 1, 0, 1, 0, 1, 0, 0, 1, 1, 0, 0, 1, 1, 1, 1, 0, 0, 1, 1, 1])))) := by kernel_rfl
  rw [e]
  exact (.seq (.low (by kernel_rfl)) (.seq (.low (by kernel_rfl)) (.seq (.block 3 (.seq (.low (by kernel_rfl)) (.seq (.other _) (.seq (.low (by kernel_rfl)) (.seq (.other _) (.low (by kernel_rfl))))))) (.other _))))

noncomputable def R8x3t173 : RC := (.dreg [⟨(some 173), none, (.mov (.tmp 13))⟩, ⟨(some 174), none, (.cmpb .gtr (.tmp 173) (.const (.int .i64 0)))⟩, ⟨(some 175), none, (.mov (.tmp 174))⟩, ⟨(some 176), (some (175, true)), (.addo (.tmp 14) 0)⟩, ⟨(some 177), (some (175, true)), (.ld (.tmp 176) 1)⟩, ⟨(some 178), (some (175, true)), (.mov (.tmp 3))⟩, ⟨(some 179), (some (175, true)), (.mov (.tmp 13))⟩, ⟨(some 180), (some (175, true)), (.ari .sub (.tmp 179) (.const (.int .i64 1)))⟩, ⟨(some 181), (some (175, true)), (.idx (.tmp 178) (.tmp 180) 2)⟩, ⟨(some 182), (some (175, true)), (.addo (.tmp 181) 0)⟩, ⟨(some 183), (some (175, true)), (.ld (.tmp 182) 1)⟩, ⟨(some 184), (some (175, true)), (.addo (.tmp 1) 1)⟩, ⟨(some 185), (some (175, true)), (.ld (.tmp 184) 1)⟩, ⟨(some 186), (some (175, true)), (.ari .sub (.tmp 183) (.tmp 185))⟩, ⟨(some 187), (some (175, true)), (.cmpb .lss (.tmp 177) (.tmp 186))⟩, ⟨(some 188), (some (175, true)), (.mov (.tmp 187))⟩, ⟨(some 189), (some (188, false)), (.addo (.tmp 14) 0)⟩, ⟨(some 190), (some (188, false)), (.ld (.tmp 189) 1)⟩, ⟨(some 191), (some (188, false)), (.mov (.tmp 3))⟩, ⟨(some 192), (some (188, false)), (.mov (.tmp 13))⟩, ⟨(some 193), (some (188, false)), (.ari .sub (.tmp 192) (.const (.int .i64 1)))⟩, ⟨(some 194), (some (188, false)), (.idx (.tmp 191) (.tmp 193) 2)⟩, ⟨(some 195), (some (188, false)), (.addo (.tmp 194) 0)⟩, ⟨(some 196), (some (188, false)), (.ld (.tmp 195) 1)⟩, ⟨(some 197), (some (188, false)), (.addo (.tmp 1) 2)⟩, ⟨(some 198), (some (188, false)), (.ld (.tmp 197) 1)⟩, ⟨(some 199), (some (188, false)), (.ari .add (.tmp 196) (.tmp 198))⟩, ⟨(some 200), (some (188, false)), (.cmpb .gtr (.tmp 190) (.tmp 199))⟩, ⟨(some 201), (some (175, true)), (.pur ⟨(some 201), (.pick (.tmp 188) (.const (.bool true)) (.tmp 200)), 4, "", (List.toArray []), none⟩)⟩, ⟨(some 202), (some (175, true)), (.mov (.tmp 201))⟩, ⟨(some 203), (some (202, false)), (.addo (.tmp 14) 1)⟩, ⟨(some 204), (some (202, false)), (.ld (.tmp 203) 1)⟩, ⟨(some 205), (some (202, false)), (.mov (.tmp 3))⟩, ⟨(some 206), (some (202, false)), (.mov (.tmp 13))⟩, ⟨(some 207), (some (202, false)), (.ari .sub (.tmp 206) (.const (.int .i64 1)))⟩, ⟨(some 208), (some (202, false)), (.idx (.tmp 205) (.tmp 207) 2)⟩, ⟨(some 209), (some (202, false)), (.addo (.tmp 208) 1)⟩, ⟨(some 210), (some (202, false)), (.ld (.tmp 209) 1)⟩, ⟨(some 211), (some (202, false)), (.addo (.tmp 1) 1)⟩, ⟨(some 212), (some (202, false)), (.ld (.tmp 211) 1)⟩, ⟨(some 213), (some (202, false)), (.ari .sub (.tmp 210) (.tmp 212))⟩, ⟨(some 214), (some (202, false)), (.cmpb .lss (.tmp 204) (.tmp 213))⟩, ⟨(some 215), (some (175, true)), (.pur ⟨(some 215), (.pick (.tmp 202) (.const (.bool true)) (.tmp 214)), 4, "", (List.toArray []), none⟩)⟩, ⟨(some 216), (some (175, true)), (.mov (.tmp 215))⟩, ⟨(some 217), (some (216, false)), (.addo (.tmp 14) 1)⟩, ⟨(some 218), (some (216, false)), (.ld (.tmp 217) 1)⟩, ⟨(some 219), (some (216, false)), (.mov (.tmp 3))⟩, ⟨(some 220), (some (216, false)), (.mov (.tmp 13))⟩, ⟨(some 221), (some (216, false)), (.ari .sub (.tmp 220) (.const (.int .i64 1)))⟩, ⟨(some 222), (some (216, false)), (.idx (.tmp 219) (.tmp 221) 2)⟩, ⟨(some 223), (some (216, false)), (.addo (.tmp 222) 1)⟩, ⟨(some 224), (some (216, false)), (.ld (.tmp 223) 1)⟩, ⟨(some 225), (some (216, false)), (.addo (.tmp 1) 2)⟩, ⟨(some 226), (some (216, false)), (.ld (.tmp 225) 1)⟩, ⟨(some 227), (some (216, false)), (.ari .add (.tmp 224) (.tmp 226))⟩, ⟨(some 228), (some (216, false)), (.cmpb .gtr (.tmp 218) (.tmp 227))⟩, ⟨(some 229), (some (175, true)), (.pur ⟨(some 229), (.pick (.tmp 216) (.const (.bool true)) (.tmp 228)), 4, "", (List.toArray []), none⟩)⟩, ⟨(some 230), none, (.pur ⟨(some 230), (.pick (.tmp 175) (.tmp 229) (.const (.bool false))), 4, "", (List.toArray []), none⟩)⟩] [144115188075855871, 72057594037927935, 36028797018963967, 17961621951348735, 4521191813414911, 17592186044415, 2199023255551999, 1073123348709375, 510173395288063, 158329674399743, 17592186044415, 17592186044415, 35184372088831, 17592186044415, 8796093022207, 4398046511103, 2199023255551, 1096290402303, 275951648767, 1073741823, 134217727999, 65498251263, 31138512895, 9663676415, 1073741823, 1073741823, 2147483647, 1073741823, 536870911, 268435455, 134217727, 66912255, 16842751, 65535, 8191999, 3997695, 1900543, 589823, 65535, 65535, 131071, 65535, 32767, 16383, 8167, 2055, 7, 999, 487, 231, 71, 7, 7, 15, 7, 3, 1, 0])
theorem L8x3t173 : low Tryz.prog 270 (at_ Tryz.f8 [1, 1, 1, 1, 1, 0, 1, 0, 0, 1, 1, 0, 0, 1, 1, 0]) = some R8x3t173 := by kernel_rfl
noncomputable def R8x3e : RC := (.reg [⟨(some 231), none, (.ari .add (.tmp 153) (.const (.int .i64 1)))⟩, ⟨(some 153), none, (.mov (.tmp 231))⟩])
theorem L8x3e : low Tryz.prog 270 (at_ Tryz.f8 [1, 1, 1, 1, 1, 0, 1, 0, 0, 1, 1, 1]) = some R8x3e := by kernel_rfl
noncomputable def R8x3v : RC := (.seq (.reg [⟨(some 154), none, (.cmp .lss (.tmp 153) (.tmp 152))⟩])
  (.seq (.cond (.tmp 154) .skip
  (.exit 4))
  (.seq (.block 5 (.seq (.reg [⟨(some 155), none, (.mov (.tmp 153))⟩, ⟨(some 156), none, (.idx (.tmp 151) (.tmp 153) 2)⟩, ⟨(some 157), none, (.lda (.tmp 156) 2)⟩, ⟨(some 14), none, (.alc 48 [(.int .i64 0), (.int .i64 0)])⟩, ⟨(some 13), none, (.mov (.tmp 155))⟩, ⟨none, none, (.sta (.tmp 14) (.tmp 157) 2)⟩])
  (.seq (.seq (.reg [⟨(some 158), none, (.addo (.tmp 14) 0)⟩, ⟨(some 159), none, (.ld (.tmp 158) 1)⟩, ⟨(some 160), none, (.cmpb .lss (.tmp 159) (.const (.int .i64 (-5000))))⟩, ⟨(some 161), none, (.mov (.tmp 160))⟩, ⟨(some 162), (some (161, false)), (.addo (.tmp 14) 0)⟩, ⟨(some 163), (some (161, false)), (.ld (.tmp 162) 1)⟩, ⟨(some 164), (some (161, false)), (.addo (.tmp 14) 1)⟩, ⟨(some 165), (some (161, false)), (.ld (.tmp 164) 1)⟩, ⟨(some 166), (some (161, false)), (.cmpb .gtr (.tmp 163) (.tmp 165))⟩, ⟨(some 167), none, (.pur ⟨(some 167), (.pick (.tmp 161) (.const (.bool true)) (.tmp 166)), 4, "", (List.toArray []), none⟩)⟩, ⟨(some 168), none, (.mov (.tmp 167))⟩, ⟨(some 169), (some (168, false)), (.addo (.tmp 14) 1)⟩, ⟨(some 170), (some (168, false)), (.ld (.tmp 169) 1)⟩, ⟨(some 171), (some (168, false)), (.cmpb .gtr (.tmp 170) (.const (.int .i64 5000)))⟩, ⟨(some 172), none, (.pur ⟨(some 172), (.pick (.tmp 168) (.const (.bool true)) (.tmp 171)), 4, "", (List.toArray []), none⟩)⟩])
  (.cond (.tmp 172) (.seq (.reg [⟨(some 2), none, (.mov (.const (.bool false)))⟩])
  .ret)
  .skip))
  (.seq (.other (at_ Tryz.f8 [1, 1, 1, 1, 1, 0, 1, 0, 0, 1, 1, 0, 0, 1, 1, 0]))
  (.cond (.tmp 230) (.seq (.reg [⟨(some 2), none, (.mov (.const (.bool false)))⟩])
  .ret)
  .skip)))))
  (.other (at_ Tryz.f8 [1, 1, 1, 1, 1, 0, 1, 0, 0, 1, 1, 1])))))
theorem V8x3 : LV Tryz.prog 270 (at_ Tryz.f8 [1, 1, 1, 1, 1, 0, 1, 0, 0]) R8x3v := by
  have e : at_ Tryz.f8 [1, 1, 1, 1, 1, 0, 1, 0, 0] = (.seq (at_ Tryz.f8 [1, 1, 1, 1, 1, 0, 1, 0, 0, 0]) (.seq (at_ Tryz.f8 [1, 1, 1, 1, 1, 0, 1, 0, 0, 1, 0]) (.seq (.block 5 (.seq (at_ Tryz.f8 [1, 1, 1, 1, 1, 0, 1, 0, 0, 1, 1, 0, 0, 0]) (.seq (at_ Tryz.f8 [1, 1, 1, 1, 1, 0, 1, 0, 0, 1, 1, 0, 0, 1, 0]) (.seq (at_ Tryz.f8 [1, 1, 1, 1, 1, 0, 1, 0, 0, 1, 1, 0, 0, 1, 1, 0]) (at_ Tryz.f8 [1, 1, 1, 1, 1, 0, 1, 0, 0, 1, 1, 0, 0, 1, 1, 1]))))) (at_ Tryz.f8 [1, 1, 1, 1, 1, 0, 1, 0, 0, 1, 1, 1])))) := by kernel_rfl
  rw [e]
  exact (.seq (.low (by kernel_rfl)) (.seq (.low (by kernel_rfl)) (.seq (.block 5 (.seq (.low (by kernel_rfl)) (.seq (.low (by kernel_rfl)) (.seq (.other _) (.low (by kernel_rfl)))))) (.other _))))

noncomputable def R8x4t239 : RC := (.dreg [⟨(some 239), none, (.mov (.tmp 3))⟩, ⟨(some 240), none, (.addo (.tmp 16) 1)⟩, ⟨(some 241), none, (.ld (.tmp 240) 1)⟩, ⟨(some 242), none, (.idx (.tmp 239) (.tmp 241) 2)⟩, ⟨(some 243), none, (.lda (.tmp 242) 2)⟩, ⟨(some 244), none, (.addo (.tmp 1) 3)⟩, ⟨(some 245), none, (.ld (.tmp 244) 1)⟩, ⟨(some 246), none, (.addo (.tmp 16) 0)⟩, ⟨(some 247), none, (.ld (.tmp 246) 1)⟩, ⟨(some 248), none, (.idx (.tmp 245) (.tmp 247) 2)⟩, ⟨(some 249), none, (.lda (.tmp 248) 2)⟩, ⟨(some 17), none, (.alc 48 [(.int .i64 0), (.int .i64 0)])⟩, ⟨(some 18), none, (.alc 48 [(.int .i64 0), (.int .i64 0)])⟩, ⟨none, none, (.sta (.tmp 17) (.tmp 243) 2)⟩, ⟨none, none, (.sta (.tmp 18) (.tmp 249) 2)⟩] [16383, 6175, 0, 0, 992, 480, 128, 0, 32, 0, 15, 7, 2, 0, 0])
theorem L8x4t239 : low Tryz.prog 270 (at_ Tryz.f8 [1, 1, 1, 1, 1, 1, 0, 1, 0, 0, 1, 1, 0, 0, 1, 0]) = some R8x4t239 := by kernel_rfl
noncomputable def R8x4e : RC := (.reg [⟨(some 268), none, (.ari .add (.tmp 235) (.const (.int .i64 1)))⟩, ⟨(some 235), none, (.mov (.tmp 268))⟩])
theorem L8x4e : low Tryz.prog 270 (at_ Tryz.f8 [1, 1, 1, 1, 1, 1, 0, 1, 0, 0, 1, 1, 1]) = some R8x4e := by kernel_rfl
noncomputable def R8x4v : RC := (.seq (.reg [⟨(some 236), none, (.cmp .lss (.tmp 235) (.tmp 234))⟩])
  (.seq (.cond (.tmp 236) .skip
  (.exit 6))
  (.seq (.block 7 (.seq (.reg [⟨(some 237), none, (.idx (.tmp 233) (.tmp 235) 3)⟩, ⟨(some 238), none, (.lda (.tmp 237) 3)⟩, ⟨(some 16), none, (.alc 57 [(.int .i64 0), (.int .i64 0), (.int .i64 0)])⟩, ⟨none, none, (.sta (.tmp 16) (.tmp 238) 3)⟩])
  (.seq (.other (at_ Tryz.f8 [1, 1, 1, 1, 1, 1, 0, 1, 0, 0, 1, 1, 0, 0, 1, 0]))
  (.seq (.reg [⟨(some 250), none, (.addo (.tmp 17) 0)⟩, ⟨(some 251), none, (.ld (.tmp 250) 1)⟩, ⟨(some 252), none, (.addo (.tmp 16) 2)⟩, ⟨(some 253), none, (.ld (.tmp 252) 1)⟩, ⟨(some 254), none, (.addo (.tmp 18) 1)⟩, ⟨(some 255), none, (.ld (.tmp 254) 1)⟩, ⟨(some 256), none, (.ari .sub (.tmp 253) (.tmp 255))⟩, ⟨(some 257), none, (.cmpb .lss (.tmp 251) (.tmp 256))⟩, ⟨(some 258), none, (.mov (.tmp 257))⟩, ⟨(some 259), (some (258, false)), (.addo (.tmp 17) 1)⟩, ⟨(some 260), (some (258, false)), (.ld (.tmp 259) 1)⟩, ⟨(some 261), (some (258, false)), (.addo (.tmp 16) 2)⟩, ⟨(some 262), (some (258, false)), (.ld (.tmp 261) 1)⟩, ⟨(some 263), (some (258, false)), (.addo (.tmp 18) 0)⟩, ⟨(some 264), (some (258, false)), (.ld (.tmp 263) 1)⟩, ⟨(some 265), (some (258, false)), (.ari .sub (.tmp 262) (.tmp 264))⟩, ⟨(some 266), (some (258, false)), (.cmpb .gtr (.tmp 260) (.tmp 265))⟩, ⟨(some 267), none, (.pur ⟨(some 267), (.pick (.tmp 258) (.const (.bool true)) (.tmp 266)), 4, "", (List.toArray []), none⟩)⟩])
  (.cond (.tmp 267) (.seq (.reg [⟨(some 2), none, (.mov (.const (.bool false)))⟩])
  .ret)
  .skip)))))
  (.other (at_ Tryz.f8 [1, 1, 1, 1, 1, 1, 0, 1, 0, 0, 1, 1, 1])))))
theorem V8x4 : LV Tryz.prog 270 (at_ Tryz.f8 [1, 1, 1, 1, 1, 1, 0, 1, 0, 0]) R8x4v := by
  have e : at_ Tryz.f8 [1, 1, 1, 1, 1, 1, 0, 1, 0, 0] = (.seq (at_ Tryz.f8 [1, 1, 1, 1, 1, 1, 0, 1, 0, 0, 0]) (.seq (at_ Tryz.f8 [1, 1, 1, 1, 1, 1, 0, 1, 0, 0, 1, 0]) (.seq (.block 7 (.seq (at_ Tryz.f8 [1, 1, 1, 1, 1, 1, 0, 1, 0, 0, 1, 1, 0, 0, 0]) (.seq (at_ Tryz.f8 [1, 1, 1, 1, 1, 1, 0, 1, 0, 0, 1, 1, 0, 0, 1, 0]) (at_ Tryz.f8 [1, 1, 1, 1, 1, 1, 0, 1, 0, 0, 1, 1, 0, 0, 1, 1])))) (at_ Tryz.f8 [1, 1, 1, 1, 1, 1, 0, 1, 0, 0, 1, 1, 1])))) := by kernel_rfl
  rw [e]
  exact (.seq (.low (by kernel_rfl)) (.seq (.low (by kernel_rfl)) (.seq (.block 7 (.seq (.low (by kernel_rfl)) (.seq (.other _) (.low (by kernel_rfl))))) (.other _))))


section
variable {P : Program} {kn : FuncId → Option Bool} {lo n : Nat} {masks : List Nat} {r : List RO} {ks : List Kd} {S : Rg} {H : Hp} {K : Rg → Hp → Prop} {d : Option Nat} {x y : Operand}
theorem wD_geq {a b : Int} (t : Bool) (hx : evS S x = some (.int .i64 a)) (hy : evS S y = some (.int .i64 b)) (ht : decide (a ≥ b) = t) (h : wDraw P kn lo n masks r (.pure :: ks) (putS S d (.bool t)) H K) : wDraw P kn lo n masks (⟨d, none, .cmpb .geq x y⟩ :: r) ks S H K := by
  simp only [wDraw, wRO, wRI, hx, hy]; intro u hu; rw [ht] at hu; subst hu; exact h
theorem wD_gu {g : Nat} {t : Bool} {ri : RI} (hg : lk S g = some undef) (h : wDraw P kn lo n masks r (.pure :: ks) (putS S d undef) H K) : wDraw P kn lo n masks (⟨d, some (g, t), ri⟩ :: r) ks S H K := by
  simp only [wDraw, wRO, hg]; exact h
end
section
variable {kn : FuncId → Option Bool} {lo : Nat} {H : Hp}
/-- what a reading tells, out of what the sensors are -/
theorem Ng.at_s {g : Ng} {r : Rdg} {k : Nat} {p : Int × Int} (hk : r.sensor = (k : Int)) (hp : g.ss[k]? = some p) : g.lowR r = r.value - p.2 ∧ g.highR r = r.value - p.1 := by
  have : r.sensor.toNat = k := by omega
  unfold Ng.lowR Ng.highR
  rw [this]
  simp only [List.getD, hp, Option.getD_some, and_self]
theorem Ng.sensor {g : Ng} (v : g.Vd) {r : Rdg} (hr : r ∈ g.rs) : ∃ k : Nat, r.sensor = (k : Int) ∧ k < g.sn ∧ ∃ p, g.ss[k]? = some p ∧ (-5000 ≤ p.1 ∧ p.1 ≤ p.2 ∧ p.2 ≤ 5000) ∧ (0 ≤ r.slot ∧ r.slot < g.slots) ∧ (-5000 ≤ r.value ∧ r.value ≤ 5000) := by
  obtain ⟨⟨h1, h2⟩, h3, h4⟩ := v.r r hr
  obtain ⟨k, hk⟩ := Int.eq_ofNat_of_zero_le h1
  have hlt : k < g.sn := by omega
  obtain ⟨p, hp⟩ := get_some (l := g.ss) (i := k) (by rw [v.sn]; exact hlt)
  exact ⟨k, hk, hlt, p, hp, v.s p (List.mem_of_getElem? hp), h3, h4⟩
/-- the inner loop, of those that have no course -/
theorem ends_inner (hkn : kn 16 = some true) {g : Ng} (v : g.Vd) {sb rb : Nat} (esa : g.sa = some ⟨sb, 0, none⟩) (era : g.ra = some ⟨rb, 0, none⟩) {b1 b6 : Nat} {x : Rdg} {p : Int × Int} {i : Nat} (hx : x ∈ g.rs) {kx : Nat} (hkx : x.sensor = (kx : Int)) (hpx : g.ss[kx]? = some p) {S : Rg} {K : Exit → Rg → Hp → Prop}
    (d1 : Cl H b1 g.v) (c6 : Cl H b6 x.v) (hs : Rd H sb (spc g.ss)) (hr : Rd H rb (rdc g.rs)) (hlo : lo ≤ H.next)
    (hS : Subs [(1, pt b1), (3, .slice none 0 0), (6, pt b6), (7, iv (x.value - p.2)), (8, iv (x.value - p.1)), (47, .slice (some ⟨rb, 0, none⟩) g.rn g.rcap), (48, iv (g.rn : Int)), (49, iv (i : Int)), (86, .slice (some ⟨rb, 0, none⟩) g.rn g.rcap), (87, iv (g.rn : Int)), (88, iv ((0 : Nat) : Int))] S)
    (hfin : ∀ S' H', lk S' 2 = some (.bool true) → K .ret S' H') (hK : ∀ S' H', Keep H H' [] → (∀ b ∈ g.rs, ¬ g.badB x b) → Subs [(1, pt b1), (3, .slice none 0 0), (47, .slice (some ⟨rb, 0, none⟩) g.rn g.rcap), (48, iv (g.rn : Int)), (49, iv (i : Int))] S' → K (.exit 2) S' H') :
    Tri Tryz.prog kn lo 270 false (at_ Tryz.f8 [1, 1, 1, 0, 1, 0, 1, 0, 1, 0, 0, 1, 1, 0, 0, 1, 1, 1, 1, 0]) S H K := by
  have al : ∀ (H9 : Hp) (K : Value → Hp → Prop), K (.bool true) H9 → ∃ v H', CallsX Tryz.prog kn lo (.fn (.func 16) #[]) [] H9 v H' ∧ K v H' := fun H9 K h => ⟨_, _, callX_known hkn, h⟩
  have hrl := v.rl
  have hrb := v.r200
  have f := v.f
  have ri := v.ri
  have n96 := v.n96
  have hsl := v.sl
  refine loop_lv E8_2 V8x2 (fun j : Nat => [(1, pt b1), (3, .slice none 0 0), (6, pt b6), (7, iv (x.value - p.2)), (8, iv (x.value - p.1)), (47, .slice (some ⟨rb, 0, none⟩) g.rn g.rcap), (48, iv (g.rn : Int)), (49, iv (i : Int)), (86, .slice (some ⟨rb, 0, none⟩) g.rn g.rcap), (87, iv (g.rn : Int)), (88, iv (j : Int))])
    (fun k j H' => j + k = g.rn ∧ Keep H H' [] ∧ ∀ b ∈ g.rs.take j, ¬ g.badB x b) g.rn 0 ⟨by omega, Keep.refl _ _, fun b hb => by simp at hb⟩ hS ?_
  rintro kk j H9 ⟨hjk, hkj, hnb⟩
  have hm9 := hkj.1
  refine And.intro (fun hlt => ?_) (fun hge => ?_)
  · have hj : j < g.rn := by simpa using hlt
    obtain ⟨y, hy⟩ := get_some (l := g.rs) (i := j) (by omega)
    have hr9 := hkj.rd hr (by simp)
    refine Exists.intro j (And.intro rfl (And.intro hj ?_))
    refine Exists.intro _ (Exists.intro _ (And.intro hr9.of (And.intro (row_flat (f := Rdg.v) (fun _ _ => rfl) hy) ?_)))
    intro H10 hH10; obtain ⟨k10, n10, c10⟩ := new_facts hH10; clear hH10
    obtain ⟨_, e10, l10, g10⟩ := id c10
    refine Exists.intro _ (Exists.intro _ (Exists.intro _ (And.intro g10 (And.intro (by omega) (And.intro rfl (And.intro rfl (And.intro (by simp) ?_)))))))
    intro H11 hH11; obtain ⟨k11, n11, c11⟩ := up_facts c10 hH11; clear hH11
    have c11 : Cl H11 H9.next y.v := c11
    have k911 : Keep H9 H11 [] := k10.new k11 (fun b hb => .inr (by simp at hb; omega))
    have kA := hkj.trans k911
    have d11 : Cl H11 b1 [iv g.slots, iv g.fall, iv g.rise, .slice (some ⟨sb, 0, none⟩) g.sn g.scap, .slice g.ra g.rn g.rcap] := by have := kA.cl d1 (by simp); rw [← esa]; exact this
    have c611 := kA.cl c6 (by simp)
    have hsc11 := kA.rd hs (by simp)
    obtain ⟨k2, hk3, hk4, p2, hp2, pb, sb2, vb⟩ := Ng.sensor v (List.mem_of_getElem? hy)
    obtain ⟨kx', hkx', _, px', hpx', pbx, sbx, vbx⟩ := Ng.sensor v hx
    obtain rfl : kx' = kx := by omega
    rw [hpx] at hpx'; cases hpx'
    obtain ⟨lx, hix⟩ := Ng.at_s hkx hpx
    obtain ⟨ly, hiy⟩ := Ng.at_s hk3 hp2
    refine tri_piece (S0 := [(1, pt b1), (3, .slice none 0 0), (6, pt b6), (7, iv (x.value - p.2)), (8, iv (x.value - p.1)), (47, .slice (some ⟨rb, 0, none⟩) g.rn g.rcap), (48, iv (g.rn : Int)), (49, iv (i : Int)), (10, pt H9.next), (86, .slice (some ⟨rb, 0, none⟩) g.rn g.rcap), (87, iv (g.rn : Int)), (88, iv (j : Int))]) L8x2t92 ⟨rfl, rfl, rfl, rfl, rfl, rfl, rfl, rfl, rfl, rfl, rfl, rfl, trivial⟩ ?_
    refine wD_dreg ?_
    refine wD_addo (b := H9.next) (o := 0) rfl ?_
    refine wD_ld (b := H9.next) (o := 0 + 2) (v := iv (y.value)) rfl c11.rd rfl ?_
    refine wD_addo (b := b1) (o := 0) rfl ?_
    refine wD_ld (b := b1) (o := 0 + 3) (v := .slice (some ⟨sb, 0, none⟩) g.sn g.scap) rfl d11.rd rfl ?_
    refine wD_addo (b := H9.next) (o := 0) rfl ?_
    refine wD_ld (b := H9.next) (o := 0 + 0) (v := iv (y.sensor)) rfl c11.rd rfl ?_
    refine wD_idx (b := sb) (o := 0) (k := k2) (j := y.sensor) rfl rfl hk3 hk4 ?_
    refine wD_addo (b := sb) (o := 0 + k2 * 2) rfl ?_
    refine wD_ld (b := sb) (o := 0 + k2 * 2 + 1) (v := iv (p2.2)) rfl hsc11 (span_get (l := p2.1) (h := p2.2) hp2).2 ?_
    refine wD_sub (a := y.value) (b := p2.2) rfl rfl ⟨by omega, by omega⟩ ?_
    refine wD_mov (v := iv (y.value - (p2.2))) rfl ?_
    refine wD_end (by repeat' first | exact True.intro | exact (fun h => h) | refine And.intro ?_ ?_) ?_
    refine Exists.intro _ (Exists.intro _ (And.intro c11.of (And.intro (show _ = some (iv y.slot) from rfl) ?_)))
    refine Exists.intro _ (Exists.intro _ (And.intro c611.of (And.intro (show _ = some (iv x.slot) from rfl) ?_)))
    refine And.intro ⟨by omega, by omega⟩ ?_
    have hdm : y.slot - x.slot ≤ 96 ∧ -96 ≤ y.slot - x.slot := by omega
    have go : ¬ g.badB x y → ∀ S' : Rg, Subs [(1, pt b1), (3, .slice none 0 0), (6, pt b6), (7, iv (x.value - p.2)), (8, iv (x.value - p.1)), (47, .slice (some ⟨rb, 0, none⟩) g.rn g.rcap), (48, iv (g.rn : Int)), (49, iv (i : Int)), (86, .slice (some ⟨rb, 0, none⟩) g.rn g.rcap), (87, iv (g.rn : Int)), (88, iv (j : Int))] S' →
        Tri Tryz.prog kn lo 270 false (at_ Tryz.f8 [1, 1, 1, 0, 1, 0, 1, 0, 1, 0, 0, 1, 1, 0, 0, 1, 1, 1, 1, 0, 0, 1, 1, 1]) S' H11 fun e S' H' => match e with | .normal => ∃ k' a', k' < kk ∧ (a' + k' = g.rn ∧ Keep H H' [] ∧ ∀ b ∈ g.rs.take a', ¬ g.badB x b) ∧ Subs [(1, pt b1), (3, .slice none 0 0), (6, pt b6), (7, iv (x.value - p.2)), (8, iv (x.value - p.1)), (47, .slice (some ⟨rb, 0, none⟩) g.rn g.rcap), (48, iv (g.rn : Int)), (49, iv (i : Int)), (86, .slice (some ⟨rb, 0, none⟩) g.rn g.rcap), (87, iv (g.rn : Int)), (88, iv (a' : Int))] S' | e => K e S' H' := fun hb S' hS' => by
      refine tri_piece L8x2e hS' ?_
      refine And.intro (show InR ((j : Int) + 1) from ⟨by omega, by omega⟩) ?_
      refine ⟨kk - 1, j + 1, by omega, ⟨by omega, kA, fun b hb' => ?_⟩, rfl, rfl, rfl, rfl, rfl, rfl, rfl, rfl, rfl, rfl, rfl, trivial⟩
      rw [List.take_add_one, hy] at hb'
      simp only [Option.toList_some, List.mem_append, List.mem_singleton] at hb'
      rcases hb' with q | rfl
      · exact hnb b q
      · exact hb
    refine tri_piece (S0 := [(1, pt b1), (3, .slice none 0 0), (6, pt b6), (7, iv (x.value - p.2)), (8, iv (x.value - p.1)), (47, .slice (some ⟨rb, 0, none⟩) g.rn g.rcap), (48, iv (g.rn : Int)), (49, iv (i : Int)), (10, pt H9.next), (11, iv (y.value - p2.2)), (12, iv (y.slot - x.slot)), (86, .slice (some ⟨rb, 0, none⟩) g.rn g.rcap), (87, iv (g.rn : Int)), (88, iv (j : Int))]) L8x2t107 ⟨rfl, rfl, rfl, rfl, rfl, rfl, rfl, rfl, rfl, rfl, rfl, rfl, rfl, rfl, trivial⟩ ?_
    cases hd : decide (y.slot - x.slot ≥ 0) with
    | false =>
      refine wD_dreg ?_
      refine wD_mov (v := iv (y.slot - x.slot)) rfl ?_
      refine wD_geq false (a := y.slot - x.slot) (b := 0) rfl rfl hd ?_
      refine wD_mov (v := .bool false) rfl ?_
      refine wD_gs rfl ?_
      refine wD_gs rfl ?_
      refine wD_gs rfl ?_
      refine wD_gs rfl ?_
      refine wD_gs rfl ?_
      refine wD_gs rfl ?_
      refine wD_gs rfl ?_
      refine wD_gs rfl ?_
      refine wD_gs rfl ?_
      refine wD_gu rfl ?_
      refine wD_gu rfl ?_
      refine wD_gu rfl ?_
      refine wD_gu rfl ?_
      refine wD_gu rfl ?_
      refine wD_gu rfl ?_
      refine wD_gu rfl ?_
      refine wD_gu rfl ?_
      refine wD_gu rfl ?_
      refine wD_gu rfl ?_
      refine wD_gu rfl ?_
      refine wD_gu rfl ?_
      refine wD_gu rfl ?_
      refine wD_gu rfl ?_
      refine wD_gu rfl ?_
      refine wD_gu rfl ?_
      refine wD_gu rfl ?_
      refine wD_gs rfl ?_
      refine wD_pur (v := .bool false) rfl rfl ?_
      refine wD_end (by repeat' first | exact True.intro | exact (fun h => h) | refine And.intro ?_ ?_) ?_
      refine condF ?_
      refine go (fun h => ?_) _ ⟨rfl, rfl, rfl, rfl, rfl, rfl, rfl, rfl, rfl, rfl, rfl, trivial⟩
      have := of_decide_eq_false hd
      exact this h.1
    | true =>
      have hd0 := of_decide_eq_true hd
      have m1 : 0 ≤ g.rise * (y.slot - x.slot) ∧ g.rise * (y.slot - x.slot) ≤ 10000000 := mul_bound ri (by omega)
      have m2 : 0 ≤ g.fall * (y.slot - x.slot) ∧ g.fall * (y.slot - x.slot) ≤ 10000000 := mul_bound f (by omega)
      cases hc : decide (y.value - p2.2 > (x.value - p.1) + (g.rise * (y.slot - x.slot))) with
      | true =>
        refine wD_dreg ?_
        refine wD_mov (v := iv (y.slot - x.slot)) rfl ?_
        refine wD_geq true (a := y.slot - x.slot) (b := 0) rfl rfl hd ?_
        refine wD_mov (v := .bool true) rfl ?_
        refine wD_g rfl (wD_mov (v := iv (y.value - p2.2)) rfl ?_)
        refine wD_g rfl (wD_mov (v := iv (x.value - p.1)) rfl ?_)
        refine wD_g rfl (wD_addo (b := b1) (o := 0) rfl ?_)
        refine wD_g rfl (wD_ld (b := b1) (o := 0 + 2) (v := iv (g.rise)) rfl d11.rd rfl ?_)
        refine wD_g rfl (wD_mov (v := iv (y.slot - x.slot)) rfl ?_)
        refine wD_g rfl (wD_mul (a := g.rise) (b := y.slot - x.slot) rfl rfl ⟨by omega, by omega⟩ ?_)
        refine wD_g rfl (wD_add (a := x.value - p.1) (b := g.rise * (y.slot - x.slot)) rfl rfl ⟨by omega, by omega⟩ ?_)
        refine wD_g rfl (wD_gtr true (a := y.value - p2.2) (b := (x.value - p.1) + (g.rise * (y.slot - x.slot))) rfl rfl hc ?_)
        refine wD_g rfl (wD_mov (v := .bool true) rfl ?_)
        refine wD_gs rfl ?_
        refine wD_gs rfl ?_
        refine wD_gs rfl ?_
        refine wD_gs rfl ?_
        refine wD_gs rfl ?_
        refine wD_gs rfl ?_
        refine wD_gs rfl ?_
        refine wD_gs rfl ?_
        refine wD_gs rfl ?_
        refine wD_gs rfl ?_
        refine wD_gs rfl ?_
        refine wD_gs rfl ?_
        refine wD_gs rfl ?_
        refine wD_gs rfl ?_
        refine wD_gs rfl ?_
        refine wD_gs rfl ?_
        refine wD_gs rfl ?_
        refine wD_g rfl (wD_pur (v := .bool true) rfl rfl ?_)
        refine wD_pur (v := .bool true) rfl rfl ?_
        refine wD_end (by repeat' first | exact True.intro | exact (fun h => h) | refine And.intro ?_ ?_) ?_
        refine condT ?_
        intro t9 h9; cases t9
        · cases h9
        refine al _ _ ?_
        refine And.intro rfl (Exists.intro (.bool true) (And.intro rfl ?_))
        exact hfin _ _ rfl
      | false =>
        cases he : decide (x.value - p.2 > (y.value - (p2.1)) + (g.fall * (y.slot - x.slot))) with
        | true =>
          refine wD_dreg ?_
          refine wD_mov (v := iv (y.slot - x.slot)) rfl ?_
          refine wD_geq true (a := y.slot - x.slot) (b := 0) rfl rfl hd ?_
          refine wD_mov (v := .bool true) rfl ?_
          refine wD_g rfl (wD_mov (v := iv (y.value - p2.2)) rfl ?_)
          refine wD_g rfl (wD_mov (v := iv (x.value - p.1)) rfl ?_)
          refine wD_g rfl (wD_addo (b := b1) (o := 0) rfl ?_)
          refine wD_g rfl (wD_ld (b := b1) (o := 0 + 2) (v := iv (g.rise)) rfl d11.rd rfl ?_)
          refine wD_g rfl (wD_mov (v := iv (y.slot - x.slot)) rfl ?_)
          refine wD_g rfl (wD_mul (a := g.rise) (b := y.slot - x.slot) rfl rfl ⟨by omega, by omega⟩ ?_)
          refine wD_g rfl (wD_add (a := x.value - p.1) (b := g.rise * (y.slot - x.slot)) rfl rfl ⟨by omega, by omega⟩ ?_)
          refine wD_g rfl (wD_gtr false (a := y.value - p2.2) (b := (x.value - p.1) + (g.rise * (y.slot - x.slot))) rfl rfl hc ?_)
          refine wD_g rfl (wD_mov (v := .bool false) rfl ?_)
          refine wD_g rfl (wD_mov (v := iv (x.value - p.2)) rfl ?_)
          refine wD_g rfl (wD_addo (b := H9.next) (o := 0) rfl ?_)
          refine wD_g rfl (wD_ld (b := H9.next) (o := 0 + 2) (v := iv (y.value)) rfl c11.rd rfl ?_)
          refine wD_g rfl (wD_addo (b := b1) (o := 0) rfl ?_)
          refine wD_g rfl (wD_ld (b := b1) (o := 0 + 3) (v := .slice (some ⟨sb, 0, none⟩) g.sn g.scap) rfl d11.rd rfl ?_)
          refine wD_g rfl (wD_addo (b := H9.next) (o := 0) rfl ?_)
          refine wD_g rfl (wD_ld (b := H9.next) (o := 0 + 0) (v := iv (y.sensor)) rfl c11.rd rfl ?_)
          refine wD_g rfl (wD_idx (b := sb) (o := 0) (k := k2) (j := y.sensor) rfl rfl hk3 hk4 ?_)
          refine wD_g rfl (wD_addo (b := sb) (o := 0 + k2 * 2) rfl ?_)
          refine wD_g rfl (wD_ld (b := sb) (o := 0 + k2 * 2 + 0) (v := iv (p2.1)) rfl hsc11 (span_get (l := p2.1) (h := p2.2) hp2).1 ?_)
          refine wD_g rfl (wD_sub (a := y.value) (b := p2.1) rfl rfl ⟨by omega, by omega⟩ ?_)
          refine wD_g rfl (wD_addo (b := b1) (o := 0) rfl ?_)
          refine wD_g rfl (wD_ld (b := b1) (o := 0 + 1) (v := iv (g.fall)) rfl d11.rd rfl ?_)
          refine wD_g rfl (wD_mov (v := iv (y.slot - x.slot)) rfl ?_)
          refine wD_g rfl (wD_mul (a := g.fall) (b := y.slot - x.slot) rfl rfl ⟨by omega, by omega⟩ ?_)
          refine wD_g rfl (wD_add (a := y.value - (p2.1)) (b := g.fall * (y.slot - x.slot)) rfl rfl ⟨by omega, by omega⟩ ?_)
          refine wD_g rfl (wD_gtr true (a := x.value - p.2) (b := (y.value - (p2.1)) + (g.fall * (y.slot - x.slot))) rfl rfl he ?_)
          refine wD_g rfl (wD_pur (v := .bool true) rfl rfl ?_)
          refine wD_pur (v := .bool true) rfl rfl ?_
          refine wD_end (by repeat' first | exact True.intro | exact (fun h => h) | refine And.intro ?_ ?_) ?_
          refine condT ?_
          intro t9 h9; cases t9
          · cases h9
          refine al _ _ ?_
          refine And.intro rfl (Exists.intro (.bool true) (And.intro rfl ?_))
          exact hfin _ _ rfl
        | false =>
          refine wD_dreg ?_
          refine wD_mov (v := iv (y.slot - x.slot)) rfl ?_
          refine wD_geq true (a := y.slot - x.slot) (b := 0) rfl rfl hd ?_
          refine wD_mov (v := .bool true) rfl ?_
          refine wD_g rfl (wD_mov (v := iv (y.value - p2.2)) rfl ?_)
          refine wD_g rfl (wD_mov (v := iv (x.value - p.1)) rfl ?_)
          refine wD_g rfl (wD_addo (b := b1) (o := 0) rfl ?_)
          refine wD_g rfl (wD_ld (b := b1) (o := 0 + 2) (v := iv (g.rise)) rfl d11.rd rfl ?_)
          refine wD_g rfl (wD_mov (v := iv (y.slot - x.slot)) rfl ?_)
          refine wD_g rfl (wD_mul (a := g.rise) (b := y.slot - x.slot) rfl rfl ⟨by omega, by omega⟩ ?_)
          refine wD_g rfl (wD_add (a := x.value - p.1) (b := g.rise * (y.slot - x.slot)) rfl rfl ⟨by omega, by omega⟩ ?_)
          refine wD_g rfl (wD_gtr false (a := y.value - p2.2) (b := (x.value - p.1) + (g.rise * (y.slot - x.slot))) rfl rfl hc ?_)
          refine wD_g rfl (wD_mov (v := .bool false) rfl ?_)
          refine wD_g rfl (wD_mov (v := iv (x.value - p.2)) rfl ?_)
          refine wD_g rfl (wD_addo (b := H9.next) (o := 0) rfl ?_)
          refine wD_g rfl (wD_ld (b := H9.next) (o := 0 + 2) (v := iv (y.value)) rfl c11.rd rfl ?_)
          refine wD_g rfl (wD_addo (b := b1) (o := 0) rfl ?_)
          refine wD_g rfl (wD_ld (b := b1) (o := 0 + 3) (v := .slice (some ⟨sb, 0, none⟩) g.sn g.scap) rfl d11.rd rfl ?_)
          refine wD_g rfl (wD_addo (b := H9.next) (o := 0) rfl ?_)
          refine wD_g rfl (wD_ld (b := H9.next) (o := 0 + 0) (v := iv (y.sensor)) rfl c11.rd rfl ?_)
          refine wD_g rfl (wD_idx (b := sb) (o := 0) (k := k2) (j := y.sensor) rfl rfl hk3 hk4 ?_)
          refine wD_g rfl (wD_addo (b := sb) (o := 0 + k2 * 2) rfl ?_)
          refine wD_g rfl (wD_ld (b := sb) (o := 0 + k2 * 2 + 0) (v := iv (p2.1)) rfl hsc11 (span_get (l := p2.1) (h := p2.2) hp2).1 ?_)
          refine wD_g rfl (wD_sub (a := y.value) (b := p2.1) rfl rfl ⟨by omega, by omega⟩ ?_)
          refine wD_g rfl (wD_addo (b := b1) (o := 0) rfl ?_)
          refine wD_g rfl (wD_ld (b := b1) (o := 0 + 1) (v := iv (g.fall)) rfl d11.rd rfl ?_)
          refine wD_g rfl (wD_mov (v := iv (y.slot - x.slot)) rfl ?_)
          refine wD_g rfl (wD_mul (a := g.fall) (b := y.slot - x.slot) rfl rfl ⟨by omega, by omega⟩ ?_)
          refine wD_g rfl (wD_add (a := y.value - (p2.1)) (b := g.fall * (y.slot - x.slot)) rfl rfl ⟨by omega, by omega⟩ ?_)
          refine wD_g rfl (wD_gtr false (a := x.value - p.2) (b := (y.value - (p2.1)) + (g.fall * (y.slot - x.slot))) rfl rfl he ?_)
          refine wD_g rfl (wD_pur (v := .bool false) rfl rfl ?_)
          refine wD_pur (v := .bool false) rfl rfl ?_
          refine wD_end (by repeat' first | exact True.intro | exact (fun h => h) | refine And.intro ?_ ?_) ?_
          refine condF ?_
          refine go (fun h => ?_) _ ⟨rfl, rfl, rfl, rfl, rfl, rfl, rfl, rfl, rfl, rfl, rfl, trivial⟩
          have z1 := of_decide_eq_false hc
          have z2 := of_decide_eq_false he
          obtain ⟨_, h⟩ := h
          rw [lx, hix, ly, hiy] at h
          rcases h with h | h
          · exact z1 h
          · exact z2 h
  · have hj : ¬ j < g.rn := by simpa using hge
    rw [List.take_of_length_le (by omega)] at hnb
    exact hK _ _ hkj hnb ⟨rfl, rfl, rfl, rfl, rfl, trivial⟩
end
end Go.Ax
/-
  Frost: the law FrostEnds, the other loops (written by program).
-/
namespace Go.Ax
open Go Go.RowKit Go.Proofs

section
variable {kn : FuncId → Option Bool} {lo : Nat} {H : Hp}
theorem ends_outer (hkn : kn 16 = some true) {g : Ng} (v : g.Vd) {b1 : Nat} {S : Rg} {K : Exit → Rg → Hp → Prop}
    (d1 : Cl H b1 g.v) (hs : Sl H g.sa g.sn g.scap (spc g.ss)) (hr : Sl H g.ra g.rn g.rcap (rdc g.rs)) (hlo : lo ≤ H.next)
    (hS : Subs [(1, pt b1), (3, .slice none 0 0), (47, .slice g.ra g.rn g.rcap), (48, iv (g.rn : Int)), (49, iv ((0 : Nat) : Int))] S)
    (hfin : ∀ S' H', lk S' 2 = some (.bool true) → K .ret S' H') (hK : ∀ S' H', Keep H H' [] → (∀ a ∈ g.rs, ¬ g.badA a ∧ ∀ b ∈ g.rs, ¬ g.badB a b) → K (.exit 0) S' H') :
    Tri Tryz.prog kn lo 270 false (at_ Tryz.f8 [1, 1, 1, 0, 1, 0, 1, 0, 1, 0]) S H K := by
  have al : ∀ (H9 : Hp) (K : Value → Hp → Prop), K (.bool true) H9 → ∃ v H', CallsX Tryz.prog kn lo (.fn (.func 16) #[]) [] H9 v H' ∧ K v H' := fun H9 K h => ⟨_, _, callX_known hkn, h⟩
  have hrl := v.rl
  have hrb := v.r200
  have hsnl := v.sn
  refine loop_lv E8_1 V8x1 (fun i : Nat => [(1, pt b1), (3, .slice none 0 0), (47, .slice g.ra g.rn g.rcap), (48, iv (g.rn : Int)), (49, iv (i : Int))])
    (fun k i H' => i + k = g.rn ∧ Keep H H' [] ∧ ∀ a ∈ g.rs.take i, ¬ g.badA a ∧ ∀ b ∈ g.rs, ¬ g.badB a b) g.rn 0 ⟨by omega, Keep.refl _ _, fun b hb => by simp at hb⟩ hS ?_
  rintro kk i H5 ⟨hik, hki, hna⟩
  have hm5 := hki.1
  refine And.intro (fun hlt => ?_) (fun hge => ?_)
  · have hi : i < g.rn := by simpa using hlt
    obtain ⟨x, hx⟩ := get_some (l := g.rs) (i := i) (by omega)
    have hxm := List.mem_of_getElem? hx
    obtain ⟨k, hk, hk2, p, hp, pb, slb, vb⟩ := Ng.sensor v hxm
    obtain ⟨lx, hix⟩ := Ng.at_s hk hp
    rcases hr with ⟨_, h0, _⟩ | ⟨rb, era, hrd, _⟩
    · omega
    rcases hs with ⟨_, h0, _⟩ | ⟨sb, esa, hsd, _⟩
    · omega
    have hr5 := hki.rd hrd (by simp)
    rw [era]
    refine Exists.intro i (And.intro rfl (And.intro hi ?_))
    refine Exists.intro _ (Exists.intro _ (And.intro hr5.of (And.intro (row_flat (f := Rdg.v) (fun _ _ => rfl) hx) ?_)))
    intro H6 hH6; obtain ⟨k6, n6, c6⟩ := new_facts hH6; clear hH6
    obtain ⟨_, e6, l6, g6⟩ := id c6
    refine Exists.intro _ (Exists.intro _ (Exists.intro _ (And.intro g6 (And.intro (by omega) (And.intro rfl (And.intro rfl (And.intro (by simp) ?_)))))))
    intro H7 hH7; obtain ⟨k7, n7, c7⟩ := up_facts c6 hH7; clear hH7
    have c7 : Cl H7 H5.next x.v := c7
    have k57 : Keep H5 H7 [] := k6.new k7 (fun b hb => .inr (by simp at hb; omega))
    have kA := hki.trans k57
    have d7' := kA.cl d1 (by simp)
    have d7 : Cl H7 b1 [iv g.slots, iv g.fall, iv g.rise, .slice (some ⟨sb, 0, none⟩) g.sn g.scap, .slice g.ra g.rn g.rcap] := by rw [← esa]; exact d7'
    have hsc7 := kA.rd hsd (by simp)
    have hrd7 := kA.rd hrd (by simp)
    refine tri_piece (S0 := [(1, pt b1), (3, .slice none 0 0), (6, pt H5.next), (47, .slice (some ⟨rb, 0, none⟩) g.rn g.rcap), (48, iv (g.rn : Int)), (49, iv (i : Int))]) L8x1t53 ⟨rfl, rfl, rfl, rfl, rfl, rfl, trivial⟩ ?_
    refine wD_dreg ?_
    refine wD_addo (b := H5.next) (o := 0) rfl ?_
    refine wD_ld (b := H5.next) (o := 0 + 2) (v := iv (x.value)) rfl c7.rd rfl ?_
    refine wD_addo (b := b1) (o := 0) rfl ?_
    refine wD_ld (b := b1) (o := 0 + 3) (v := .slice (some ⟨sb, 0, none⟩) g.sn g.scap) rfl d7.rd rfl ?_
    refine wD_addo (b := H5.next) (o := 0) rfl ?_
    refine wD_ld (b := H5.next) (o := 0 + 0) (v := iv (x.sensor)) rfl c7.rd rfl ?_
    refine wD_idx (b := sb) (o := 0) (k := k) (j := x.sensor) rfl rfl hk hk2 ?_
    refine wD_addo (b := sb) (o := 0 + k * 2) rfl ?_
    refine wD_ld (b := sb) (o := 0 + k * 2 + 1) (v := iv (p.2)) rfl hsc7 (span_get (l := p.1) (h := p.2) hp).2 ?_
    refine wD_sub (a := x.value) (b := p.2) rfl rfl ⟨by omega, by omega⟩ ?_
    refine wD_addo (b := H5.next) (o := 0) rfl ?_
    refine wD_ld (b := H5.next) (o := 0 + 2) (v := iv (x.value)) rfl c7.rd rfl ?_
    refine wD_addo (b := b1) (o := 0) rfl ?_
    refine wD_ld (b := b1) (o := 0 + 3) (v := .slice (some ⟨sb, 0, none⟩) g.sn g.scap) rfl d7.rd rfl ?_
    refine wD_addo (b := H5.next) (o := 0) rfl ?_
    refine wD_ld (b := H5.next) (o := 0 + 0) (v := iv (x.sensor)) rfl c7.rd rfl ?_
    refine wD_idx (b := sb) (o := 0) (k := k) (j := x.sensor) rfl rfl hk hk2 ?_
    refine wD_addo (b := sb) (o := 0 + k * 2) rfl ?_
    refine wD_ld (b := sb) (o := 0 + k * 2 + 0) (v := iv (p.1)) rfl hsc7 (span_get (l := p.1) (h := p.2) hp).1 ?_
    refine wD_sub (a := x.value) (b := p.1) rfl rfl ⟨by omega, by omega⟩ ?_
    refine wD_mov (v := iv (x.value - (p.2))) rfl ?_
    refine wD_mov (v := iv (x.value - (p.1))) rfl ?_
    refine wD_end (by repeat' first | exact True.intro | exact (fun h => h) | refine And.intro ?_ ?_) ?_
    have hm57 := kA.1
    intro t1 h1; cases t1
    rotate_left
    · refine And.intro rfl (Exists.intro (.bool true) (And.intro rfl ?_))
      refine condT ?_
      intro t9 h9; cases t9
      · cases h9
      refine al _ _ ?_
      refine And.intro rfl (Exists.intro (.bool true) (And.intro rfl ?_))
      exact hfin _ _ rfl
    intro t2 h2; cases t2
    rotate_left
    · refine And.intro rfl (Exists.intro (.bool true) (And.intro rfl ?_))
      refine condT ?_
      intro t9 h9; cases t9
      · cases h9
      refine al _ _ ?_
      refine And.intro rfl (Exists.intro (.bool true) (And.intro rfl ?_))
      exact hfin _ _ rfl
    refine And.intro rfl (Exists.intro (.bool false) (And.intro rfl ?_))
    refine condF ?_
    refine Exists.intro _ (Exists.intro _ (And.intro d7'.of (And.intro (show _ = some (.slice g.ra g.rn g.rcap) from rfl) ?_)))
    rw [era]
    have hnA : ¬ g.badA x := fun h => by
      have z1 := of_decide_eq_false h1
      have z2 := of_decide_eq_false h2
      unfold Ng.badA at h
      rw [lx, hix] at h
      rcases h with h | h
      · exact z1 h
      · exact z2 h
    refine ends_inner (i := i) hkn v esa era hxm hk hp d7' c7 hsc7 hrd7 (by omega) ⟨rfl, rfl, rfl, rfl, rfl, rfl, rfl, rfl, rfl, rfl, rfl, trivial⟩ (fun S' H' h => hfin S' H' h) (fun S' H' kB hnb hS' => ?_)
    refine tri_piece (S0 := [(1, pt b1), (3, .slice none 0 0), (47, .slice (some ⟨rb, 0, none⟩) g.rn g.rcap), (48, iv (g.rn : Int)), (49, iv (i : Int))]) L8x1e hS' ?_
    refine And.intro (show InR ((i : Int) + 1) from ⟨by omega, by omega⟩) ?_
    refine ⟨kk - 1, i + 1, by omega, ⟨by omega, kA.trans kB, fun b hb' => ?_⟩, rfl, rfl, rfl, rfl, rfl, trivial⟩
    rw [List.take_add_one, hx] at hb'
    simp only [Option.toList_some, List.mem_append, List.mem_singleton] at hb'
    rcases hb' with q | rfl
    · exact hna b q
    · exact ⟨hnA, hnb⟩
  · have hi : ¬ i < g.rn := by simpa using hge
    rw [List.take_of_length_le (by omega)] at hna
    exact hK _ _ hki hna
/-- each end is a course -/
theorem ends_rise {g : Ng} (v : g.Vd) (hhas : g.has = true) {b1 b : Nat} {S : Rg} {K : Exit → Rg → Hp → Prop}
    (d1 : Cl H b1 g.v) (cb : Cl H b (spc g.spans)) (hlo : lo ≤ H.next)
    (hS : Subs [(1, pt b1), (3, slv b g.n g.n), (151, slv b g.n g.n), (152, iv (g.n : Int)), (153, iv ((0 : Nat) : Int))] S)
    (hK : ∀ S' H', Keep H H' [] → Subs [(1, pt b1), (3, slv b g.n g.n)] S' → K (.exit 4) S' H') :
    Tri Tryz.prog kn lo 270 false (at_ Tryz.f8 [1, 1, 1, 1, 1, 0, 1, 0]) S H K := by
  have n96 := v.n96
  have f := v.f
  have ri := v.ri
  refine loop_lv E8_3 V8x3 (fun i : Nat => [(1, pt b1), (3, slv b g.n g.n), (151, slv b g.n g.n), (152, iv (g.n : Int)), (153, iv (i : Int))])
    (fun k i H' => i + k = g.n ∧ Keep H H' []) g.n 0 ⟨by omega, Keep.refl _ _⟩ hS ?_
  rintro kk i H5 ⟨hik, hki⟩
  have hm5 := hki.1
  refine And.intro (fun hlt => ?_) (fun hge => ?_)
  · have hi : i < g.n := by simpa using hlt
    have hx := g.spans_get i hi
    have cb5 := hki.cl cb (by simp)
    obtain ⟨e1, e2⟩ := ends_in (g := g) i
    have e3 := has_le hhas hi
    generalize hxe : (g.least i, g.great i) = x at hx
    have x1 : x.1 = g.least i := by rw [← hxe]
    have x2 : x.2 = g.great i := by rw [← hxe]
    refine Exists.intro i (And.intro rfl (And.intro hi ?_))
    refine Exists.intro _ (Exists.intro _ (And.intro cb5.of (And.intro (spc_row hx) ?_)))
    intro H6 hH6; obtain ⟨k6, n6, c6⟩ := new_facts hH6; clear hH6
    obtain ⟨_, e6, l6, g6⟩ := id c6
    refine Exists.intro _ (Exists.intro _ (Exists.intro _ (And.intro g6 (And.intro (by omega) (And.intro rfl (And.intro rfl (And.intro (by simp) ?_)))))))
    intro H7 hH7; obtain ⟨k7, n7, c7⟩ := up_facts c6 hH7; clear hH7
    have c7 : Cl H7 H5.next [iv x.1, iv x.2] := c7
    have k57 : Keep H5 H7 [] := k6.new k7 (fun b hb => .inr (by simp at hb; omega))
    have kA := hki.trans k57
    have d7 : Cl H7 b1 [iv g.slots, iv g.fall, iv g.rise, .slice g.sa g.sn g.scap, .slice g.ra g.rn g.rcap] := kA.cl d1 (by simp)
    have cb7 := kA.cl cb (by simp)
    refine Exists.intro _ (Exists.intro _ (And.intro c7.of (And.intro (show _ = some (iv x.1) from rfl) ?_)))
    intro t1 h1; cases t1
    rotate_left
    · have := of_decide_eq_true h1; omega
    refine Exists.intro _ (Exists.intro _ (And.intro c7.of (And.intro (show _ = some (iv x.1) from rfl) ?_)))
    refine Exists.intro _ (Exists.intro _ (And.intro c7.of (And.intro (show _ = some (iv x.2) from rfl) ?_)))
    intro t2 h2; cases t2
    rotate_left
    · have := of_decide_eq_true h2; omega
    refine And.intro rfl (Exists.intro (.bool false) (And.intro rfl ?_))
    refine Exists.intro _ (Exists.intro _ (And.intro c7.of (And.intro (show _ = some (iv x.2) from rfl) ?_)))
    intro t3 h3; cases t3
    rotate_left
    · have := of_decide_eq_true h3; omega
    refine And.intro rfl (Exists.intro (.bool false) (And.intro rfl ?_))
    refine condF ?_
    have nxt : ∀ S' : Rg, Subs [(1, pt b1), (3, slv b g.n g.n), (151, slv b g.n g.n), (152, iv (g.n : Int)), (153, iv (i : Int))] S' → Tri Tryz.prog kn lo 270 false (at_ Tryz.f8 [1, 1, 1, 1, 1, 0, 1, 0, 0, 1, 1, 1]) S' H7 fun e S' H' => match e with | .normal => ∃ k' a', k' < kk ∧ (a' + k' = g.n ∧ Keep H H' []) ∧ Subs [(1, pt b1), (3, slv b g.n g.n), (151, slv b g.n g.n), (152, iv (g.n : Int)), (153, iv (a' : Int))] S' | e => K e S' H' := fun S' hS' => by
      refine tri_piece L8x3e hS' ?_
      refine And.intro (show InR ((i : Int) + 1) from ⟨by omega, by omega⟩) ?_
      exact ⟨kk - 1, i + 1, by omega, ⟨by omega, kA⟩, rfl, rfl, rfl, rfl, rfl, trivial⟩
    refine tri_piece (S0 := [(1, pt b1), (3, slv b g.n g.n), (13, iv (i : Int)), (14, pt H5.next), (151, slv b g.n g.n), (152, iv (g.n : Int)), (153, iv (i : Int))]) L8x3t173 ⟨rfl, rfl, rfl, rfl, rfl, rfl, rfl, trivial⟩ ?_
    cases hi0 : decide ((i : Int) > 0) with
    | false =>
      refine wD_dreg ?_
      refine wD_mov (v := iv ((i : Int))) rfl ?_
      refine wD_gtr false (a := (i : Int)) (b := 0) rfl rfl hi0 ?_
      refine wD_mov (v := .bool false) rfl ?_
      refine wD_gs rfl ?_
      refine wD_gs rfl ?_
      refine wD_gs rfl ?_
      refine wD_gs rfl ?_
      refine wD_gs rfl ?_
      refine wD_gs rfl ?_
      refine wD_gs rfl ?_
      refine wD_gs rfl ?_
      refine wD_gs rfl ?_
      refine wD_gs rfl ?_
      refine wD_gs rfl ?_
      refine wD_gs rfl ?_
      refine wD_gs rfl ?_
      refine wD_gu rfl ?_
      refine wD_gu rfl ?_
      refine wD_gu rfl ?_
      refine wD_gu rfl ?_
      refine wD_gu rfl ?_
      refine wD_gu rfl ?_
      refine wD_gu rfl ?_
      refine wD_gu rfl ?_
      refine wD_gu rfl ?_
      refine wD_gu rfl ?_
      refine wD_gu rfl ?_
      refine wD_gu rfl ?_
      refine wD_gs rfl ?_
      refine wD_gs rfl ?_
      refine wD_gu rfl ?_
      refine wD_gu rfl ?_
      refine wD_gu rfl ?_
      refine wD_gu rfl ?_
      refine wD_gu rfl ?_
      refine wD_gu rfl ?_
      refine wD_gu rfl ?_
      refine wD_gu rfl ?_
      refine wD_gu rfl ?_
      refine wD_gu rfl ?_
      refine wD_gu rfl ?_
      refine wD_gu rfl ?_
      refine wD_gs rfl ?_
      refine wD_gs rfl ?_
      refine wD_gu rfl ?_
      refine wD_gu rfl ?_
      refine wD_gu rfl ?_
      refine wD_gu rfl ?_
      refine wD_gu rfl ?_
      refine wD_gu rfl ?_
      refine wD_gu rfl ?_
      refine wD_gu rfl ?_
      refine wD_gu rfl ?_
      refine wD_gu rfl ?_
      refine wD_gu rfl ?_
      refine wD_gu rfl ?_
      refine wD_gs rfl ?_
      refine wD_pur (v := .bool false) rfl rfl ?_
      refine wD_end (by repeat' first | exact True.intro | exact (fun h => h) | refine And.intro ?_ ?_) ?_
      refine condF ?_
      exact nxt _ ⟨rfl, rfl, rfl, rfl, rfl, trivial⟩
    | true =>
      have hi1 := of_decide_eq_true hi0
      obtain ⟨m, rfl⟩ : ∃ m, i = m + 1 := ⟨i - 1, by omega⟩
      have hu0 := g.spans_get m (by omega)
      obtain ⟨e4, e5⟩ := ends_in (g := g) m
      have e6 := has_le hhas (show m < g.n by omega)
      have ls := least_step v m
      have gs := great_step v m
      generalize hue : (g.least m, g.great m) = u at hu0
      have u1 : u.1 = g.least m := by rw [← hue]
      have u2 : u.2 = g.great m := by rw [← hue]
      have hu := hu0
      have hm : ((m + 1 : Nat) : Int) - (1) = (m : Int) := by omega
      have hm2 : m < g.n := by omega
      have q1 : decide (x.1 < (u.1) - (g.fall)) = false := decide_eq_false (by omega)
      have q2 : decide (x.1 > (u.1) + (g.rise)) = false := decide_eq_false (by omega)
      have q3 : decide (x.2 < (u.2) - (g.fall)) = false := decide_eq_false (by omega)
      have q4 : decide (x.2 > (u.2) + (g.rise)) = false := decide_eq_false (by omega)
      refine wD_dreg ?_
      refine wD_mov (v := iv (((m + 1 : Nat) : Int))) rfl ?_
      refine wD_gtr true (a := ((m + 1 : Nat) : Int)) (b := 0) rfl rfl hi0 ?_
      refine wD_mov (v := .bool true) rfl ?_
      refine wD_g rfl (wD_addo (b := H5.next) (o := 0) rfl ?_)
      refine wD_g rfl (wD_ld (b := H5.next) (o := 0 + 0) (v := iv (x.1)) rfl c7.rd rfl ?_)
      refine wD_g rfl (wD_mov (v := .slice (some ⟨b, 0, none⟩) g.n g.n) rfl ?_)
      refine wD_g rfl (wD_mov (v := iv (((m + 1 : Nat) : Int))) rfl ?_)
      refine wD_g rfl (wD_sub (a := ((m + 1 : Nat) : Int)) (b := 1) rfl rfl ⟨by omega, by omega⟩ ?_)
      refine wD_g rfl (wD_idx (b := b) (o := 0) (k := m) (j := (((m + 1 : Nat) : Int)) - (1)) rfl rfl hm hm2 ?_)
      refine wD_g rfl (wD_addo (b := b) (o := 0 + m * 2) rfl ?_)
      refine wD_g rfl (wD_ld (b := b) (o := 0 + m * 2 + 0) (v := iv (u.1)) rfl cb7.rd (span_get (l := u.1) (h := u.2) hu).1 ?_)
      refine wD_g rfl (wD_addo (b := b1) (o := 0) rfl ?_)
      refine wD_g rfl (wD_ld (b := b1) (o := 0 + 1) (v := iv (g.fall)) rfl d7.rd rfl ?_)
      refine wD_g rfl (wD_sub (a := u.1) (b := g.fall) rfl rfl ⟨by omega, by omega⟩ ?_)
      refine wD_g rfl (wD_lss false (a := x.1) (b := (u.1) - (g.fall)) rfl rfl q1 ?_)
      refine wD_g rfl (wD_mov (v := .bool false) rfl ?_)
      refine wD_g rfl (wD_addo (b := H5.next) (o := 0) rfl ?_)
      refine wD_g rfl (wD_ld (b := H5.next) (o := 0 + 0) (v := iv (x.1)) rfl c7.rd rfl ?_)
      refine wD_g rfl (wD_mov (v := .slice (some ⟨b, 0, none⟩) g.n g.n) rfl ?_)
      refine wD_g rfl (wD_mov (v := iv (((m + 1 : Nat) : Int))) rfl ?_)
      refine wD_g rfl (wD_sub (a := ((m + 1 : Nat) : Int)) (b := 1) rfl rfl ⟨by omega, by omega⟩ ?_)
      refine wD_g rfl (wD_idx (b := b) (o := 0) (k := m) (j := (((m + 1 : Nat) : Int)) - (1)) rfl rfl hm hm2 ?_)
      refine wD_g rfl (wD_addo (b := b) (o := 0 + m * 2) rfl ?_)
      refine wD_g rfl (wD_ld (b := b) (o := 0 + m * 2 + 0) (v := iv (u.1)) rfl cb7.rd (span_get (l := u.1) (h := u.2) hu).1 ?_)
      refine wD_g rfl (wD_addo (b := b1) (o := 0) rfl ?_)
      refine wD_g rfl (wD_ld (b := b1) (o := 0 + 2) (v := iv (g.rise)) rfl d7.rd rfl ?_)
      refine wD_g rfl (wD_add (a := u.1) (b := g.rise) rfl rfl ⟨by omega, by omega⟩ ?_)
      refine wD_g rfl (wD_gtr false (a := x.1) (b := (u.1) + (g.rise)) rfl rfl q2 ?_)
      refine wD_g rfl (wD_pur (v := .bool false) rfl rfl ?_)
      refine wD_g rfl (wD_mov (v := .bool false) rfl ?_)
      refine wD_g rfl (wD_addo (b := H5.next) (o := 0) rfl ?_)
      refine wD_g rfl (wD_ld (b := H5.next) (o := 0 + 1) (v := iv (x.2)) rfl c7.rd rfl ?_)
      refine wD_g rfl (wD_mov (v := .slice (some ⟨b, 0, none⟩) g.n g.n) rfl ?_)
      refine wD_g rfl (wD_mov (v := iv (((m + 1 : Nat) : Int))) rfl ?_)
      refine wD_g rfl (wD_sub (a := ((m + 1 : Nat) : Int)) (b := 1) rfl rfl ⟨by omega, by omega⟩ ?_)
      refine wD_g rfl (wD_idx (b := b) (o := 0) (k := m) (j := (((m + 1 : Nat) : Int)) - (1)) rfl rfl hm hm2 ?_)
      refine wD_g rfl (wD_addo (b := b) (o := 0 + m * 2) rfl ?_)
      refine wD_g rfl (wD_ld (b := b) (o := 0 + m * 2 + 1) (v := iv (u.2)) rfl cb7.rd (span_get (l := u.1) (h := u.2) hu).2 ?_)
      refine wD_g rfl (wD_addo (b := b1) (o := 0) rfl ?_)
      refine wD_g rfl (wD_ld (b := b1) (o := 0 + 1) (v := iv (g.fall)) rfl d7.rd rfl ?_)
      refine wD_g rfl (wD_sub (a := u.2) (b := g.fall) rfl rfl ⟨by omega, by omega⟩ ?_)
      refine wD_g rfl (wD_lss false (a := x.2) (b := (u.2) - (g.fall)) rfl rfl q3 ?_)
      refine wD_g rfl (wD_pur (v := .bool false) rfl rfl ?_)
      refine wD_g rfl (wD_mov (v := .bool false) rfl ?_)
      refine wD_g rfl (wD_addo (b := H5.next) (o := 0) rfl ?_)
      refine wD_g rfl (wD_ld (b := H5.next) (o := 0 + 1) (v := iv (x.2)) rfl c7.rd rfl ?_)
      refine wD_g rfl (wD_mov (v := .slice (some ⟨b, 0, none⟩) g.n g.n) rfl ?_)
      refine wD_g rfl (wD_mov (v := iv (((m + 1 : Nat) : Int))) rfl ?_)
      refine wD_g rfl (wD_sub (a := ((m + 1 : Nat) : Int)) (b := 1) rfl rfl ⟨by omega, by omega⟩ ?_)
      refine wD_g rfl (wD_idx (b := b) (o := 0) (k := m) (j := (((m + 1 : Nat) : Int)) - (1)) rfl rfl hm hm2 ?_)
      refine wD_g rfl (wD_addo (b := b) (o := 0 + m * 2) rfl ?_)
      refine wD_g rfl (wD_ld (b := b) (o := 0 + m * 2 + 1) (v := iv (u.2)) rfl cb7.rd (span_get (l := u.1) (h := u.2) hu).2 ?_)
      refine wD_g rfl (wD_addo (b := b1) (o := 0) rfl ?_)
      refine wD_g rfl (wD_ld (b := b1) (o := 0 + 2) (v := iv (g.rise)) rfl d7.rd rfl ?_)
      refine wD_g rfl (wD_add (a := u.2) (b := g.rise) rfl rfl ⟨by omega, by omega⟩ ?_)
      refine wD_g rfl (wD_gtr false (a := x.2) (b := (u.2) + (g.rise)) rfl rfl q4 ?_)
      refine wD_g rfl (wD_pur (v := .bool false) rfl rfl ?_)
      refine wD_pur (v := .bool false) rfl rfl ?_
      refine wD_end (by repeat' first | exact True.intro | exact (fun h => h) | refine And.intro ?_ ?_) ?_
      refine condF ?_
      exact nxt _ ⟨rfl, rfl, rfl, rfl, rfl, trivial⟩
  · have hi : ¬ i < g.n := by simpa using hge
    exact hK _ _ hki ⟨rfl, rfl, trivial⟩
/-- each reading is within -/
theorem ends_read {g : Ng} (v : g.Vd) {b1 b : Nat} {S : Rg} {K : Exit → Rg → Hp → Prop}
    (d1 : Cl H b1 g.v) (cb : Cl H b (spc g.spans)) (hs : Sl H g.sa g.sn g.scap (spc g.ss)) (hr : Sl H g.ra g.rn g.rcap (rdc g.rs)) (hlo : lo ≤ H.next)
    (hS : Subs [(1, pt b1), (3, slv b g.n g.n), (233, .slice g.ra g.rn g.rcap), (234, iv (g.rn : Int)), (235, iv ((0 : Nat) : Int))] S)
    (hK : ∀ S' H', Keep H H' [] → K (.exit 6) S' H') :
    Tri Tryz.prog kn lo 270 false (at_ Tryz.f8 [1, 1, 1, 1, 1, 1, 0, 1, 0]) S H K := by
  have hrl := v.rl
  have hrb := v.r200
  have hsl := v.sl
  refine loop_lv E8_4 V8x4 (fun i : Nat => [(1, pt b1), (3, slv b g.n g.n), (233, .slice g.ra g.rn g.rcap), (234, iv (g.rn : Int)), (235, iv (i : Int))])
    (fun k i H' => i + k = g.rn ∧ Keep H H' []) g.rn 0 ⟨by omega, Keep.refl _ _⟩ hS ?_
  rintro kk i H5 ⟨hik, hki⟩
  have hm5 := hki.1
  refine And.intro (fun hlt => ?_) (fun hge => ?_)
  · have hi : i < g.rn := by simpa using hlt
    obtain ⟨x, hx⟩ := get_some (l := g.rs) (i := i) (by omega)
    have hxm := List.mem_of_getElem? hx
    obtain ⟨k, hk, hk2, p, hp, pb, slb, vb⟩ := Ng.sensor v hxm
    obtain ⟨lx, hix⟩ := Ng.at_s hk hp
    obtain ⟨q, hq⟩ := Int.eq_ofNat_of_zero_le slb.1
    have hqn : q < g.n := by omega
    have hu := g.spans_get q hqn
    obtain ⟨in1, in2⟩ := read_in v hxm hq
    generalize hue : (g.least q, g.great q) = u at hu
    have u1 : u.1 = g.least q := by rw [← hue]
    have u2 : u.2 = g.great q := by rw [← hue]
    rcases hr with ⟨_, h0, _⟩ | ⟨rb, era, hrd, _⟩
    · omega
    rcases hs with ⟨_, h0, _⟩ | ⟨sb, esa, hsd, _⟩
    · omega
    have hr5 := hki.rd hrd (by simp)
    rw [era]
    refine Exists.intro i (And.intro rfl (And.intro hi ?_))
    refine Exists.intro _ (Exists.intro _ (And.intro hr5.of (And.intro (row_flat (f := Rdg.v) (fun _ _ => rfl) hx) ?_)))
    intro H6 hH6; obtain ⟨k6, n6, c6⟩ := new_facts hH6; clear hH6
    obtain ⟨_, e6, l6, g6⟩ := id c6
    refine Exists.intro _ (Exists.intro _ (Exists.intro _ (And.intro g6 (And.intro (by omega) (And.intro rfl (And.intro rfl (And.intro (by simp) ?_)))))))
    intro H7 hH7; obtain ⟨k7, n7, c7⟩ := up_facts c6 hH7; clear hH7
    have c7 : Cl H7 H5.next x.v := c7
    have k57 : Keep H5 H7 [] := k6.new k7 (fun b hb => .inr (by simp at hb; omega))
    have kA := hki.trans k57
    have mA := kA.1
    have d7' := kA.cl d1 (by simp)
    have d7 : Cl H7 b1 [iv g.slots, iv g.fall, iv g.rise, .slice (some ⟨sb, 0, none⟩) g.sn g.scap, .slice g.ra g.rn g.rcap] := by rw [← esa]; exact d7'
    have cb7 := kA.cl cb (by simp)
    have hsc7 := kA.rd hsd (by simp)
    have lb1 := d7.lt
    have lbb := cb7.lt
    have lsb := hsc7.lt
    refine tri_piece (S0 := [(1, pt b1), (3, slv b g.n g.n), (16, pt H5.next), (233, .slice (some ⟨rb, 0, none⟩) g.rn g.rcap), (234, iv (g.rn : Int)), (235, iv (i : Int))]) L8x4t239 ⟨rfl, rfl, rfl, rfl, rfl, rfl, trivial⟩ ?_
    refine wD_dreg ?_
    refine wD_mov (v := slv b g.n g.n) rfl ?_
    refine wD_addo (b := H5.next) (o := 0) rfl ?_
    refine wD_ld (b := H5.next) (o := 0 + 1) (v := iv x.slot) rfl c7.rd rfl ?_
    refine wD_idx (b := b) (o := 0) (k := q) (j := x.slot) rfl rfl hq hqn ?_
    refine wD_lda (b := b) (o := 0 + q * 2) rfl cb7.rd (spc_row hu) ?_
    refine wD_addo (b := b1) (o := 0) rfl ?_
    refine wD_ld (b := b1) (o := 0 + 3) (v := .slice (some ⟨sb, 0, none⟩) g.sn g.scap) rfl d7.rd rfl ?_
    refine wD_addo (b := H5.next) (o := 0) rfl ?_
    refine wD_ld (b := H5.next) (o := 0 + 0) (v := iv x.sensor) rfl c7.rd rfl ?_
    refine wD_idx (b := sb) (o := 0) (k := k) (j := x.sensor) rfl rfl hk hk2 ?_
    refine wD_lda (b := sb) (o := 0 + k * 2) rfl hsc7 (spc_row hp) ?_
    refine wD_alc ?_
    intro H8 k8 n8 c8
    refine wD_alc ?_
    intro H9 k9 n9 c9
    have l7 := c7.lt
    refine wD_sta (b := H7.next) (o := 0) (v := .agg #[iv u.1, iv u.2]) rfl rfl (k9.cl c8 (by simp)) (by omega) rfl rfl (by simp) ?_
    intro H10 k10 n10 c10
    refine wD_sta (b := H8.next) (o := 0) (v := .agg #[iv p.1, iv p.2]) rfl rfl (k10.cl c9 (by simp; omega)) (by omega) rfl rfl (by simp) ?_
    intro H11 k11 n11 c11
    have c11 : Cl H11 H8.next [iv p.1, iv p.2] := c11
    have c10 : Cl H11 H7.next [iv u.1, iv u.2] := k11.cl c10 (by simp; omega)
    have k711 : Keep H7 H11 [] := ((k8.trans k9).new k10 (fun b hb => .inr (by simp at hb; omega))).new k11 (fun b hb => .inr (by simp at hb; omega))
    have c711 := k711.cl c7 (by simp)
    refine wD_end (by repeat' first | exact True.intro | exact (fun h => h) | refine And.intro ?_ ?_ | (intro h; have h : (_ : Nat) = _ := h; omega)) ?_
    refine Exists.intro _ (Exists.intro _ (And.intro c10.of (And.intro (show _ = some (iv u.1) from rfl) ?_)))
    refine Exists.intro _ (Exists.intro _ (And.intro c711.of (And.intro (show _ = some (iv x.value) from rfl) ?_)))
    refine Exists.intro _ (Exists.intro _ (And.intro c11.of (And.intro (show _ = some (iv p.2) from rfl) ?_)))
    refine And.intro ⟨by omega, by omega⟩ ?_
    intro t1 h1; cases t1
    rotate_left
    · have := of_decide_eq_true h1; omega
    refine Exists.intro _ (Exists.intro _ (And.intro c10.of (And.intro (show _ = some (iv u.2) from rfl) ?_)))
    refine Exists.intro _ (Exists.intro _ (And.intro c711.of (And.intro (show _ = some (iv x.value) from rfl) ?_)))
    refine Exists.intro _ (Exists.intro _ (And.intro c11.of (And.intro (show _ = some (iv p.1) from rfl) ?_)))
    refine And.intro ⟨by omega, by omega⟩ ?_
    intro t2 h2; cases t2
    rotate_left
    · have := of_decide_eq_true h2; omega
    refine And.intro rfl (Exists.intro (.bool false) (And.intro rfl ?_))
    refine condF ?_
    refine tri_piece (S0 := [(1, pt b1), (3, slv b g.n g.n), (233, .slice (some ⟨rb, 0, none⟩) g.rn g.rcap), (234, iv (g.rn : Int)), (235, iv (i : Int))]) L8x4e ⟨rfl, rfl, rfl, rfl, rfl, trivial⟩ ?_
    refine And.intro (show InR ((i : Int) + 1) from ⟨by omega, by omega⟩) ?_
    exact ⟨kk - 1, i + 1, by omega, ⟨by omega, kA.trans k711⟩, rfl, rfl, rfl, rfl, rfl, trivial⟩
  · exact hK _ _ hki
end
end Go.Ax
/-
  Frost: the law FrostEnds, whatever the night.
-/
namespace Go.Ax
open Go Go.RowKit Go.Proofs

noncomputable def R8r : RC := (.seq (.seq (.reg [⟨(some 232), none, (.addo (.tmp 1) 4)⟩, ⟨(some 233), none, (.ld (.tmp 232) 1)⟩, ⟨(some 234), none, (.len (.tmp 233))⟩, ⟨(some 235), none, (.mov (.const (.int .i64 0)))⟩])
  (.block 6 (.other (at_ Tryz.f8 [1, 1, 1, 1, 1, 1, 0, 1, 0]))))
  (.seq (.reg [⟨(some 269), none, (.call ⟨(.value (.func 16)), (List.toArray []), (List.toArray [])⟩ true)⟩, ⟨(some 2), none, (.mov (.tmp 269))⟩])
  .ret))
theorem L8r : low Tryz.prog 270 (at_ Tryz.f8 [1, 1, 1, 1, 1, 1]) = some R8r := by kernel_rfl
noncomputable def R8v : RC := (.seq (.reg [⟨(some 1), none, (.box 25 (.tmp 0))⟩, ⟨(some 2), none, (.mov (.const (.bool false)))⟩])
  (.seq (.seq (.reg [⟨(some 19), none, (.lda (.tmp 1) 5)⟩, ⟨(some 20), none, (.call ⟨(.value (.func 15)), (List.toArray [(.tmp 19), (.const (.slice none 0 0)), (.const (.int .i64 0))]), (List.toArray [25, 35, 3])⟩ true)⟩])
  (.cond (.tmp 20) (.seq (.reg [⟨(some 21), none, (.call ⟨(.value (.func 16)), (List.toArray []), (List.toArray [])⟩ true)⟩, ⟨(some 2), none, (.mov (.tmp 21))⟩])
  .ret)
  .skip))
  (.seq (.reg [⟨(some 23), none, (.lda (.tmp 1) 5)⟩, ⟨(some 24), none, (.call ⟨(.value (.func 17)), (List.toArray [(.tmp 23)]), (List.toArray [25])⟩ true)⟩, ⟨(some 22), none, (.mov (.tmp 24))⟩, ⟨(some 25), none, (.pur ⟨(some 25), (.extract (.tmp 22) 0), 22, "", (List.toArray []), none⟩)⟩, ⟨(some 26), none, (.pur ⟨(some 26), (.extract (.tmp 22) 1), 28, "", (List.toArray []), none⟩)⟩, ⟨(some 3), none, (.mov (.tmp 25))⟩, ⟨(some 4), none, (.mov (.tmp 26))⟩])
  (.seq (.seq (.reg [⟨(some 27), none, (.mov (.tmp 4))⟩, ⟨(some 28), none, (.cmp .neq (.tmp 27) (.const (.int .i64 0)))⟩])
  (.cond (.tmp 28) (.seq (.seq (.reg [⟨(some 29), none, (.mov (.tmp 4))⟩, ⟨(some 30), none, (.cmp .neq (.tmp 29) (.const (.int .i64 6)))⟩])
  (.cond (.tmp 30) (.seq (.reg [⟨(some 31), none, (.mov (.tmp 3))⟩, ⟨(some 32), none, (.len (.tmp 31))⟩, ⟨(some 33), none, (.cmpb .eql (.tmp 32) (.const (.int .i64 0)))⟩, ⟨(some 34), none, (.mov (.tmp 33))⟩, ⟨(some 35), (some (34, true)), (.mov (.tmp 4))⟩, ⟨(some 36), (some (34, true)), (.cmpb .eql (.tmp 35) (.const (.int .i64 1)))⟩, ⟨(some 37), none, (.pur ⟨(some 37), (.pick (.tmp 34) (.tmp 36) (.const (.bool false))), 4, "", (List.toArray []), none⟩)⟩, ⟨(some 38), none, (.mov (.tmp 37))⟩, ⟨(some 39), (some (38, true)), (.lda (.tmp 1) 5)⟩, ⟨(some 40), (some (38, true)), (.call ⟨(.value (.func 32)), (List.toArray [(.tmp 39)]), (List.toArray [25])⟩ true)⟩, ⟨(some 41), (some (38, true)), (.pur ⟨(some 41), (.unOp .not 4 (.tmp 40)), 4, "", (List.toArray []), none⟩)⟩, ⟨(some 42), none, (.pur ⟨(some 42), (.pick (.tmp 38) (.tmp 41) (.const (.bool false))), 4, "", (List.toArray []), none⟩)⟩, ⟨(some 43), none, (.mov (.tmp 42))⟩, ⟨(some 44), (some (43, true)), (.call ⟨(.value (.func 16)), (List.toArray []), (List.toArray [])⟩ true)⟩, ⟨(some 45), none, (.pur ⟨(some 45), (.pick (.tmp 43) (.tmp 44) (.const (.bool false))), 4, "", (List.toArray []), none⟩)⟩, ⟨(some 2), none, (.mov (.tmp 45))⟩])
  .ret)
  .skip))
  (.seq (.seq (.reg [⟨(some 46), none, (.addo (.tmp 1) 4)⟩, ⟨(some 47), none, (.ld (.tmp 46) 1)⟩, ⟨(some 48), none, (.len (.tmp 47))⟩, ⟨(some 49), none, (.mov (.const (.int .i64 0)))⟩])
  (.block 0 (.other (at_ Tryz.f8 [1, 1, 1, 0, 1, 0, 1, 0, 1, 0]))))
  (.seq (.reg [⟨(some 2), none, (.mov (.const (.bool false)))⟩])
  .ret)))
  .skip))
  (.seq (.seq (.reg [⟨(some 146), none, (.mov (.tmp 3))⟩, ⟨(some 147), none, (.len (.tmp 146))⟩, ⟨(some 148), none, (.addo (.tmp 1) 0)⟩, ⟨(some 149), none, (.ld (.tmp 148) 1)⟩, ⟨(some 150), none, (.cmp .neq (.tmp 147) (.tmp 149))⟩])
  (.cond (.tmp 150) (.seq (.reg [⟨(some 2), none, (.mov (.const (.bool false)))⟩])
  .ret)
  .skip))
  (.seq (.seq (.reg [⟨(some 151), none, (.mov (.tmp 3))⟩, ⟨(some 152), none, (.len (.tmp 151))⟩, ⟨(some 153), none, (.mov (.const (.int .i64 0)))⟩])
  (.block 4 (.other (at_ Tryz.f8 [1, 1, 1, 1, 1, 0, 1, 0]))))
  (.other (at_ Tryz.f8 [1, 1, 1, 1, 1, 1]))))))))
theorem V8 : LV Tryz.prog 270 (at_ Tryz.f8 []) R8v := by
  have e : at_ Tryz.f8 [] = (.seq (at_ Tryz.f8 [0]) (.seq (at_ Tryz.f8 [1, 0]) (.seq (at_ Tryz.f8 [1, 1, 0]) (.seq (at_ Tryz.f8 [1, 1, 1, 0]) (.seq (at_ Tryz.f8 [1, 1, 1, 1, 0]) (.seq (at_ Tryz.f8 [1, 1, 1, 1, 1, 0]) (at_ Tryz.f8 [1, 1, 1, 1, 1, 1]))))))) := by kernel_rfl
  rw [e]
  exact (.seq (.low (by kernel_rfl)) (.seq (.low (by kernel_rfl)) (.seq (.low (by kernel_rfl)) (.seq (.low (by kernel_rfl)) (.seq (.low (by kernel_rfl)) (.seq (.low (by kernel_rfl)) (.other _)))))))
section
variable {kn : FuncId → Option Bool} {lo : Nat} {H : Hp}
theorem law_ends (hkn : kn 16 = some true) {g : Ng} (hgn : g.n = g.slots.toNat) (hs : Sl H g.sa g.sn g.scap (spc g.ss)) (hr : Sl H g.ra g.rn g.rcap (rdc g.rs)) (hsn : g.ss.length = g.sn) (hrn : g.rs.length = g.rn) (hlo : lo ≤ H.next) :
    ∃ H', FnX Tryz.prog kn lo 8 [.agg g.v.toArray] H (.bool true) H' := by
  have key := fnX_lv (kn := kn) (lo := lo) (H := H) (args := [.agg g.v.toArray]) (Q := fun v H' => v = .bool true) Tryz.func8 B8 N8 Z8 V8 (by simp) ?_
  · obtain ⟨v, H', hf, rfl⟩ := key; exact ⟨H', hf⟩
  have al : ∀ (H9 : Hp) (K : Value → Hp → Prop), K (.bool true) H9 → ∃ v H', CallsX Tryz.prog kn lo (.fn (.func 16) #[]) [] H9 v H' ∧ K v H' := fun H9 K h => ⟨_, _, callX_known hkn, h⟩
  have hfin : ∀ (S' : Rg) (H' : Hp), lk S' 2 = some (.bool true) → (match Exit.ret with | .normal => True | .ret => True | _ => False) ∧ ∃ vs, resS Tryz.prog S' H' [.tmp 2] = some vs ∧ retV vs = .bool true := fun S' H' h => ⟨trivial, [.bool true], by simp only [resS, h], rfl⟩
  intro H1 hH1; obtain ⟨k1, n1, c1⟩ := new_facts hH1; clear hH1
  have c1 : Cl H1 H.next g.v := c1
  have hlo1 : lo ≤ H1.next := by have := k1.1; omega
  refine Exists.intro _ (Exists.intro _ (And.intro c1.of (And.intro (show row 5 g.v 0 = some g.v from rfl) ?_)))
  refine callB great15_ok ?_
  intro t2 H2 h2 k2
  have k12 := k1.trans k2
  have c2 := k2.cl c1 (by simp)
  cases t2
  rotate_left
  · refine condT ?_
    refine al _ _ ?_
    exact hfin _ _ rfl
  refine condF ?_
  have hok : g.ok = true → g.slots = (g.n : Int) := fun h => by
    have : inB g.slots 1 96 = true := by
      simp only [Ng.ok, Bool.and_eq_true] at h
      exact h.1.1.1.1.1.1
    simp only [inB, Bool.and_eq_true, decide_eq_true_eq] at this
    omega
  have hlo2 : lo ≤ H2.next := by have := k12.1; omega
  obtain ⟨w, H3, f3, k3, hcase⟩ := tm_ok (kn := kn) (lo := lo) (g := g) (H := H2) hok (k12.sl0 hs) (k12.sl0 hr) hsn hrn hlo2
  refine Exists.intro _ (Exists.intro _ (And.intro c2.of (And.intro (show row 5 g.v 0 = some g.v from rfl) ?_)))
  refine Exists.intro _ (Exists.intro _ (And.intro (callX_args f3) ?_))
  have k13 := k12.trans k3
  have c3 := k3.cl c2 (by simp)
  have hlo3 : lo ≤ H3.next := by have := k13.1; omega
  rcases hcase with ⟨ho, ha, b, rfl, hb, cb⟩ | ⟨ho, ha, rfl⟩ | ⟨ho, rfl⟩
  · have v := Ng.vd ho (hok ho) hsn hrn
    refine And.intro rfl (Exists.intro (slv b g.n g.n) (And.intro (by kernel_rfl) ?_))
    refine And.intro rfl (Exists.intro (iv 0) (And.intro (by kernel_rfl) ?_))
    refine condF ?_
    refine Exists.intro _ (Exists.intro _ (And.intro c3.of (And.intro (show _ = some (iv g.slots) from rfl) ?_)))
    have hlen : (((g.n : Nat) : Int) != g.slots) = false := by rw [v.sl]; simp
    refine And.intro (fun h => by rw [hlen] at h; cases h) (fun _ => ?_)
    refine ends_rise v ha c3 cb hlo3 ⟨rfl, rfl, rfl, rfl, rfl, trivial⟩ (fun S4 H4 k4 hS4 => ?_)
    refine tri_piece L8r hS4 ?_
    have k14 := k13.trans k4
    have c4 := k4.cl c3 (by simp)
    refine Exists.intro _ (Exists.intro _ (And.intro c4.of (And.intro (show _ = some (.slice g.ra g.rn g.rcap) from rfl) ?_)))
    refine ends_read v c4 (k4.cl cb (by simp)) (k14.sl0 hs) (k14.sl0 hr) (by have := k4.1; omega) ⟨rfl, rfl, rfl, rfl, rfl, trivial⟩ (fun S5 H5 k5 => ?_)
    refine al _ _ ?_
    exact hfin _ _ rfl
  · have v := Ng.vd ho (hok ho) hsn hrn
    refine And.intro rfl (Exists.intro (.slice none 0 0) (And.intro (by kernel_rfl) ?_))
    refine And.intro rfl (Exists.intro (iv 6) (And.intro (by kernel_rfl) ?_))
    refine condT ?_
    refine condF ?_
    refine Exists.intro _ (Exists.intro _ (And.intro c3.of (And.intro (show _ = some (.slice g.ra g.rn g.rcap) from rfl) ?_)))
    refine ends_outer hkn v c3 (k13.sl0 hs) (k13.sl0 hr) hlo3 ⟨rfl, rfl, rfl, rfl, rfl, trivial⟩ (fun S' H' h => hfin S' H' h) (fun S' H' _ hno => ?_)
    rcases no_course v ha with ⟨a, q, bad⟩ | ⟨a, q, b, q2, bad⟩
    · exact absurd bad (hno a q).1
    · exact absurd bad ((hno a q).2 b q2)
  · refine And.intro rfl (Exists.intro (.slice none 0 0) (And.intro (by kernel_rfl) ?_))
    refine And.intro rfl (Exists.intro (iv 1) (And.intro (by kernel_rfl) ?_))
    refine condT ?_
    refine condT ?_
    intro t5 h5; cases t5
    · cases h5
    intro t6 h6; cases t6
    · cases h6
    refine And.intro rfl (Exists.intro (.bool true) (And.intro rfl ?_))
    refine Exists.intro _ (Exists.intro _ (And.intro c3.of (And.intro (show row 5 g.v 0 = some g.v from rfl) ?_)))
    refine callB (refnight_ok (k13.sl0 hs) (k13.sl0 hr) hsn hrn hlo3) ?_
    intro t4 H4 h4 k4
    obtain rfl : t4 = false := by rw [← h4, ho]
    refine And.intro rfl (Exists.intro (.bool true) (And.intro rfl ?_))
    refine And.intro rfl (Exists.intro (.bool true) (And.intro rfl ?_))
    refine al _ _ ?_
    refine And.intro rfl (Exists.intro (.bool true) (And.intro rfl ?_))
    exact hfin _ _ rfl
end
end Go.Ax

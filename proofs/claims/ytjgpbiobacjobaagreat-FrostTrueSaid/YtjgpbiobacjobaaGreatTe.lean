import Derived.Test.YtjgpbiobacjobaaGreatTd
import Derived.Test.YtjgpbiobacjobaaGreatAxW8
import Derived.Test.YtjgpbiobacjobaaGreatChecked
set_option linter.all false
/-! What 'low' makes of FrostTrue and what it calls (written by program). -/
namespace Go.Ax
open Go Go.RowKit Go.Proofs
theorem N36 : Tryz.f36.ntmps = 17 := by kernel_rfl
theorem Z36 : Tryz.f36.results.toList = ((List.toArray [(.tmp 4)]) : Array ResultVar).toList := by kernel_rfl
theorem B36 : Tryz.f36.body = some (at_ Tryz.f36 []) := by kernel_rfl
noncomputable def R36 : RC := (.seq (.reg [⟨(some 2), none, (.box 48 (.tmp 0))⟩, ⟨(some 4), none, (.mov (.const (.int .i64 0)))⟩])
  (.seq (.dreg [⟨(some 5), none, (.addo (.tmp 2) 0)⟩, ⟨(some 6), none, (.ld (.tmp 5) 1)⟩, ⟨(some 7), none, (.mov (.tmp 1))⟩, ⟨(some 8), none, (.pur ⟨(some 8), (.convert 67 3 (.tmp 7)), 3, "", (List.toArray []), none⟩)⟩, ⟨(some 9), none, (.addo (.tmp 2) 1)⟩, ⟨(some 10), none, (.ld (.tmp 9) 1)⟩, ⟨(some 11), none, (.addo (.tmp 2) 0)⟩, ⟨(some 12), none, (.ld (.tmp 11) 1)⟩, ⟨(some 13), none, (.ari .sub (.tmp 10) (.tmp 12))⟩, ⟨(some 14), none, (.ari .add (.tmp 13) (.const (.int .i64 1)))⟩, ⟨(some 15), none, (.ari .rem (.tmp 8) (.tmp 14))⟩, ⟨(some 16), none, (.ari .add (.tmp 6) (.tmp 15))⟩, ⟨(some 4), none, (.mov (.tmp 16))⟩] [4095, 2047, 1020, 496, 240, 64, 0, 16, 0, 4, 0, 1, 0])
  .ret))
theorem L36 : low Tryz.prog Tryz.f36.ntmps (at_ Tryz.f36 []) = some R36 := by kernel_rfl
theorem N33 : Tryz.f33.ntmps = 100 := by kernel_rfl
theorem Z33 : Tryz.f33.results.toList = ((List.toArray [(.tmp 6), (.cell 7 25), (.tmp 8)]) : Array ResultVar).toList := by kernel_rfl
theorem B33 : Tryz.f33.body = some (at_ Tryz.f33 []) := by kernel_rfl
noncomputable def R33 : RC := (.seq (.reg [⟨(some 3), none, (.box 25 (.tmp 0))⟩, ⟨(some 6), none, (.mov (.const (.slice none 0 0)))⟩, ⟨(some 7), none, (.alc 25 [(.int .i64 0), (.int .i64 0), (.int .i64 0), (.slice none 0 0), (.slice none 0 0)])⟩, ⟨(some 8), none, (.mov (.const (.bool false)))⟩])
  (.seq (.reg [⟨(some 15), none, (.mov (.tmp 1))⟩, ⟨(some 16), none, (.pur ⟨(some 16), (.convert 54 3 (.tmp 15)), 3, "", (List.toArray []), none⟩)⟩, ⟨(some 17), none, (.mm true (.const (.int .i64 4000)) (.tmp 16))⟩, ⟨(some 18), none, (.mm false (.const (.int .i64 (-4000))) (.tmp 17))⟩, ⟨(some 9), none, (.mov (.tmp 18))⟩])
  (.seq (.reg [⟨(some 10), none, (.mov (.const (.slice none 0 0)))⟩])
  (.seq (.seq (.reg [⟨(some 19), none, (.addo (.tmp 3) 0)⟩, ⟨(some 20), none, (.ld (.tmp 19) 1)⟩, ⟨(some 21), none, (.mov (.const (.int .i64 0)))⟩])
  (.block 0 (.other (at_ Tryz.f33 [1, 1, 1, 0, 1, 0]))))
  (.seq (.reg [⟨(some 50), none, (.lda (.tmp 3) 5)⟩, ⟨(some 12), none, (.alc 25 [(.int .i64 0), (.int .i64 0), (.int .i64 0), (.slice none 0 0), (.slice none 0 0)])⟩, ⟨none, none, (.sta (.tmp 12) (.tmp 50) 5)⟩])
  (.seq (.reg [⟨(some 51), none, (.addo (.tmp 12) 4)⟩, ⟨none, none, (.st (.tmp 51) (.const (.slice none 0 0)))⟩])
  (.seq (.seq (.reg [⟨(some 52), none, (.addo (.tmp 3) 4)⟩, ⟨(some 53), none, (.ld (.tmp 52) 1)⟩, ⟨(some 54), none, (.len (.tmp 53))⟩, ⟨(some 55), none, (.mov (.const (.int .i64 0)))⟩])
  (.block 2 (.other (at_ Tryz.f33 [1, 1, 1, 1, 1, 1, 0, 1, 0]))))
  (.seq (.dreg [⟨(some 98), none, (.mov (.tmp 10))⟩, ⟨(some 99), none, (.lda (.tmp 12) 5)⟩, ⟨(some 6), none, (.mov (.tmp 98))⟩, ⟨none, none, (.sta (.tmp 7) (.tmp 99) 5)⟩, ⟨(some 8), none, (.mov (.const (.bool true)))⟩] [15, 7, 1, 0, 0])
  .ret))))))))
theorem L33 : low Tryz.prog Tryz.f33.ntmps (at_ Tryz.f33 []) = some R33 := by kernel_rfl
theorem E33_1 : at_ Tryz.f33 [1, 1, 1, 0, 1, 0] = .loop (at_ Tryz.f33 [1, 1, 1, 0, 1, 0, 0]) := by kernel_rfl
noncomputable def R33x1 : RC := (.seq (.reg [⟨(some 22), none, (.cmp .lss (.tmp 21) (.tmp 20))⟩])
  (.seq (.cond (.tmp 22) .skip
  (.exit 0))
  (.seq (.block 1 (.seq (.reg [⟨(some 23), none, (.mov (.tmp 21))⟩, ⟨(some 11), none, (.mov (.tmp 23))⟩])
  (.seq (.seq (.reg [⟨(some 24), none, (.mov (.tmp 11))⟩, ⟨(some 25), none, (.cmp .gtr (.tmp 24) (.const (.int .i64 0)))⟩])
  (.cond (.tmp 25) (.dreg [⟨(some 26), none, (.mov (.tmp 9))⟩, ⟨(some 27), none, (.addo (.tmp 3) 1)⟩, ⟨(some 28), none, (.ld (.tmp 27) 1)⟩, ⟨(some 29), none, (.ari .sub (.tmp 26) (.tmp 28))⟩, ⟨(some 30), none, (.mm false (.const (.int .i64 (-5000))) (.tmp 29))⟩, ⟨(some 31), none, (.mov (.tmp 9))⟩, ⟨(some 32), none, (.addo (.tmp 3) 2)⟩, ⟨(some 33), none, (.ld (.tmp 32) 1)⟩, ⟨(some 34), none, (.ari .add (.tmp 31) (.tmp 33))⟩, ⟨(some 35), none, (.mm true (.const (.int .i64 5000)) (.tmp 34))⟩, ⟨(some 36), none, (.pur ⟨(some 36), (.build 48 (List.toArray [(0, (.tmp 30)), (1, (.tmp 35))])), 48, "", (List.toArray []), none⟩)⟩, ⟨(some 37), none, (.mov (.tmp 2))⟩, ⟨(some 38), none, (.mov (.tmp 11))⟩, ⟨(some 39), none, (.mov (.tmp 2))⟩, ⟨(some 40), none, (.len (.tmp 39))⟩, ⟨(some 41), none, (.ari .rem (.tmp 38) (.tmp 40))⟩, ⟨(some 42), none, (.idx (.tmp 37) (.tmp 41) 1)⟩, ⟨(some 43), none, (.ld (.tmp 42) 1)⟩, ⟨(some 44), none, (.call ⟨(.value (.func 36)), (List.toArray [(.tmp 36), (.tmp 43)]), (List.toArray [48, 67])⟩ true)⟩, ⟨(some 9), none, (.mov (.tmp 44))⟩] [524287, 262143, 129024, 63488, 28672, 8192, 0, 0, 0, 1023, 480, 224, 64, 0, 0, 15, 7, 2, 0, 0])
  .skip))
  (.reg [⟨(some 45), none, (.mov (.tmp 10))⟩, ⟨(some 46), none, (.mov (.tmp 9))⟩, ⟨(some 47), none, (.mem ⟨(some 47), (.buildSlice 36 1 (List.toArray [(0, (.tmp 46))])), 36, "", (List.toArray []), none⟩)⟩, ⟨(some 48), none, (.mem ⟨(some 48), (.call ⟨(.builtin .append), (List.toArray [(.tmp 45), (.tmp 47)]), (List.toArray [36, 36])⟩), 36, "", (List.toArray []), none⟩)⟩, ⟨(some 10), none, (.mov (.tmp 48))⟩]))))
  (.reg [⟨(some 49), none, (.ari .add (.tmp 21) (.const (.int .i64 1)))⟩, ⟨(some 21), none, (.mov (.tmp 49))⟩]))))
theorem L33x1 : low Tryz.prog Tryz.f33.ntmps (at_ Tryz.f33 [1, 1, 1, 0, 1, 0, 0]) = some R33x1 := by kernel_rfl
theorem E33_2 : at_ Tryz.f33 [1, 1, 1, 1, 1, 1, 0, 1, 0] = .loop (at_ Tryz.f33 [1, 1, 1, 1, 1, 1, 0, 1, 0, 0]) := by kernel_rfl
noncomputable def R33x2 : RC := (.seq (.reg [⟨(some 56), none, (.cmp .lss (.tmp 55) (.tmp 54))⟩])
  (.seq (.cond (.tmp 56) .skip
  (.exit 2))
  (.seq (.block 3 (.seq (.reg [⟨(some 57), none, (.mov (.tmp 55))⟩, ⟨(some 58), none, (.idx (.tmp 53) (.tmp 55) 3)⟩, ⟨(some 59), none, (.lda (.tmp 58) 3)⟩, ⟨(some 14), none, (.alc 57 [(.int .i64 0), (.int .i64 0), (.int .i64 0)])⟩, ⟨(some 13), none, (.mov (.tmp 57))⟩, ⟨none, none, (.sta (.tmp 14) (.tmp 59) 3)⟩])
  (.seq (.dreg [⟨(some 60), none, (.mov (.tmp 10))⟩, ⟨(some 61), none, (.addo (.tmp 14) 1)⟩, ⟨(some 62), none, (.ld (.tmp 61) 1)⟩, ⟨(some 63), none, (.idx (.tmp 60) (.tmp 62) 1)⟩, ⟨(some 64), none, (.ld (.tmp 63) 1)⟩, ⟨(some 65), none, (.addo (.tmp 3) 3)⟩, ⟨(some 66), none, (.ld (.tmp 65) 1)⟩, ⟨(some 67), none, (.addo (.tmp 14) 0)⟩, ⟨(some 68), none, (.ld (.tmp 67) 1)⟩, ⟨(some 69), none, (.idx (.tmp 66) (.tmp 68) 2)⟩, ⟨(some 70), none, (.lda (.tmp 69) 2)⟩, ⟨(some 71), none, (.mov (.tmp 2))⟩, ⟨(some 72), none, (.mov (.tmp 13))⟩, ⟨(some 73), none, (.ari .add (.tmp 72) (.const (.int .i64 1)))⟩, ⟨(some 74), none, (.mov (.tmp 2))⟩, ⟨(some 75), none, (.len (.tmp 74))⟩, ⟨(some 76), none, (.ari .rem (.tmp 73) (.tmp 75))⟩, ⟨(some 77), none, (.idx (.tmp 71) (.tmp 76) 1)⟩, ⟨(some 78), none, (.ld (.tmp 77) 1)⟩, ⟨(some 79), none, (.call ⟨(.value (.func 36)), (List.toArray [(.tmp 70), (.tmp 78)]), (List.toArray [48, 67])⟩ false)⟩, ⟨(some 80), none, (.ari .add (.tmp 64) (.tmp 79))⟩, ⟨(some 81), none, (.addo (.tmp 14) 2)⟩, ⟨none, none, (.st (.tmp 81) (.tmp 80))⟩] [4194303, 2097151, 1048575, 524256, 260096, 129024, 61440, 16384, 0, 4096, 0, 0, 992, 480, 128, 0, 32, 0, 15, 7, 2, 0, 0])
  (.seq (.seq (.reg [⟨(some 82), none, (.addo (.tmp 14) 2)⟩, ⟨(some 83), none, (.ld (.tmp 82) 1)⟩, ⟨(some 84), none, (.cmpb .lss (.tmp 83) (.const (.int .i64 (-5000))))⟩, ⟨(some 85), none, (.mov (.tmp 84))⟩, ⟨(some 86), (some (85, false)), (.addo (.tmp 14) 2)⟩, ⟨(some 87), (some (85, false)), (.ld (.tmp 86) 1)⟩, ⟨(some 88), (some (85, false)), (.cmpb .gtr (.tmp 87) (.const (.int .i64 5000)))⟩, ⟨(some 89), none, (.pur ⟨(some 89), (.pick (.tmp 85) (.const (.bool true)) (.tmp 88)), 4, "", (List.toArray []), none⟩)⟩])
  (.cond (.tmp 89) (.seq (.dreg [⟨(some 90), none, (.lda (.tmp 3) 5)⟩, ⟨(some 6), none, (.mov (.const (.slice none 0 0)))⟩, ⟨none, none, (.sta (.tmp 7) (.tmp 90) 5)⟩, ⟨(some 8), none, (.mov (.const (.bool false)))⟩] [7, 3, 0, 0])
  .ret)
  .skip))
  (.reg [⟨(some 91), none, (.addo (.tmp 12) 4)⟩, ⟨(some 92), none, (.ld (.tmp 91) 1)⟩, ⟨(some 93), none, (.lda (.tmp 14) 3)⟩, ⟨(some 94), none, (.mem ⟨(some 94), (.buildSlice 23 1 (List.toArray [(0, (.tmp 93))])), 23, "", (List.toArray []), none⟩)⟩, ⟨(some 95), none, (.mem ⟨(some 95), (.call ⟨(.builtin .append), (List.toArray [(.tmp 92), (.tmp 94)]), (List.toArray [23, 23])⟩), 23, "", (List.toArray []), none⟩)⟩, ⟨(some 96), none, (.addo (.tmp 12) 4)⟩, ⟨none, none, (.st (.tmp 96) (.tmp 95))⟩])))))
  (.reg [⟨(some 97), none, (.ari .add (.tmp 55) (.const (.int .i64 1)))⟩, ⟨(some 55), none, (.mov (.tmp 97))⟩]))))
theorem L33x2 : low Tryz.prog Tryz.f33.ntmps (at_ Tryz.f33 [1, 1, 1, 1, 1, 1, 0, 1, 0, 0]) = some R33x2 := by kernel_rfl
theorem N7 : Tryz.f7.ntmps = 145 := by kernel_rfl
theorem Z7 : Tryz.f7.results.toList = ((List.toArray [(.tmp 8)]) : Array ResultVar).toList := by kernel_rfl
theorem B7 : Tryz.f7.body = some (at_ Tryz.f7 []) := by kernel_rfl
noncomputable def R7 : RC := (.seq (.reg [⟨(some 4), none, (.box 25 (.tmp 0))⟩, ⟨(some 7), none, (.box 57 (.tmp 3))⟩, ⟨(some 8), none, (.mov (.const (.bool false)))⟩])
  (.seq (.seq (.reg [⟨(some 20), none, (.lda (.tmp 4) 5)⟩, ⟨(some 21), none, (.call ⟨(.value (.func 15)), (List.toArray [(.tmp 20), (.const (.slice none 0 0)), (.const (.int .i64 0))]), (List.toArray [25, 35, 3])⟩ true)⟩, ⟨(some 22), none, (.mov (.tmp 21))⟩, ⟨(some 23), (some (22, false)), (.mov (.tmp 2))⟩, ⟨(some 24), (some (22, false)), (.len (.tmp 23))⟩, ⟨(some 25), (some (22, false)), (.cmpb .eql (.tmp 24) (.const (.int .i64 0)))⟩, ⟨(some 26), none, (.pur ⟨(some 26), (.pick (.tmp 22) (.const (.bool true)) (.tmp 25)), 4, "", (List.toArray []), none⟩)⟩, ⟨(some 27), none, (.mov (.tmp 26))⟩, ⟨(some 28), (some (27, false)), (.lda (.tmp 4) 5)⟩, ⟨(some 29), (some (27, false)), (.call ⟨(.value (.func 32)), (List.toArray [(.tmp 28)]), (List.toArray [25])⟩ true)⟩, ⟨(some 30), (some (27, false)), (.pur ⟨(some 30), (.unOp .not 4 (.tmp 29)), 4, "", (List.toArray []), none⟩)⟩, ⟨(some 31), none, (.pur ⟨(some 31), (.pick (.tmp 27) (.const (.bool true)) (.tmp 30)), 4, "", (List.toArray []), none⟩)⟩])
  (.cond (.tmp 31) (.seq (.reg [⟨(some 32), none, (.call ⟨(.value (.func 16)), (List.toArray []), (List.toArray [])⟩ true)⟩, ⟨(some 8), none, (.mov (.tmp 32))⟩])
  .ret)
  .skip))
  (.seq (.reg [⟨(some 34), none, (.lda (.tmp 4) 5)⟩, ⟨(some 35), none, (.mov (.tmp 1))⟩, ⟨(some 36), none, (.mov (.tmp 2))⟩, ⟨(some 37), none, (.call ⟨(.value (.func 33)), (List.toArray [(.tmp 34), (.tmp 35), (.tmp 36)]), (List.toArray [25, 54, 55])⟩ true)⟩, ⟨(some 33), none, (.mov (.tmp 37))⟩, ⟨(some 38), none, (.pur ⟨(some 38), (.extract (.tmp 33) 0), 36, "", (List.toArray []), none⟩)⟩, ⟨(some 39), none, (.pur ⟨(some 39), (.extract (.tmp 33) 1), 25, "", (List.toArray []), none⟩)⟩, ⟨(some 40), none, (.pur ⟨(some 40), (.extract (.tmp 33) 2), 4, "", (List.toArray []), none⟩)⟩, ⟨(some 10), none, (.alc 25 [(.int .i64 0), (.int .i64 0), (.int .i64 0), (.slice none 0 0), (.slice none 0 0)])⟩, ⟨(some 9), none, (.mov (.tmp 38))⟩, ⟨none, none, (.sta (.tmp 10) (.tmp 39) 5)⟩, ⟨(some 11), none, (.mov (.tmp 40))⟩])
  (.seq (.seq (.reg [⟨(some 41), none, (.mov (.tmp 11))⟩, ⟨(some 42), none, (.pur ⟨(some 42), (.unOp .not 4 (.tmp 41)), 4, "", (List.toArray []), none⟩)⟩])
  (.cond (.tmp 42) (.seq (.reg [⟨(some 43), none, (.call ⟨(.value (.func 16)), (List.toArray []), (List.toArray [])⟩ true)⟩, ⟨(some 8), none, (.mov (.tmp 43))⟩])
  .ret)
  .skip))
  (.seq (.reg [⟨(some 45), none, (.lda (.tmp 10) 5)⟩, ⟨(some 46), none, (.call ⟨(.value (.func 17)), (List.toArray [(.tmp 45)]), (List.toArray [25])⟩ true)⟩, ⟨(some 44), none, (.mov (.tmp 46))⟩, ⟨(some 47), none, (.pur ⟨(some 47), (.extract (.tmp 44) 0), 22, "", (List.toArray []), none⟩)⟩, ⟨(some 48), none, (.pur ⟨(some 48), (.extract (.tmp 44) 1), 28, "", (List.toArray []), none⟩)⟩, ⟨(some 12), none, (.mov (.tmp 47))⟩, ⟨(some 13), none, (.mov (.tmp 48))⟩])
  (.seq (.seq (.reg [⟨(some 49), none, (.mov (.tmp 13))⟩, ⟨(some 50), none, (.cmpb .neq (.tmp 49) (.const (.int .i64 0)))⟩, ⟨(some 51), none, (.mov (.tmp 50))⟩, ⟨(some 52), (some (51, false)), (.mov (.tmp 12))⟩, ⟨(some 53), (some (51, false)), (.len (.tmp 52))⟩, ⟨(some 54), (some (51, false)), (.addo (.tmp 4) 0)⟩, ⟨(some 55), (some (51, false)), (.ld (.tmp 54) 1)⟩, ⟨(some 56), (some (51, false)), (.cmpb .neq (.tmp 53) (.tmp 55))⟩, ⟨(some 57), none, (.pur ⟨(some 57), (.pick (.tmp 51) (.const (.bool true)) (.tmp 56)), 4, "", (List.toArray []), none⟩)⟩])
  (.cond (.tmp 57) (.seq (.reg [⟨(some 8), none, (.mov (.const (.bool false)))⟩])
  .ret)
  .skip))
  (.seq (.seq (.reg [⟨(some 58), none, (.mov (.tmp 12))⟩, ⟨(some 59), none, (.len (.tmp 58))⟩, ⟨(some 60), none, (.mov (.const (.int .i64 0)))⟩])
  (.block 0 (.other (at_ Tryz.f7 [1, 1, 1, 1, 1, 1, 0, 1, 0]))))
  (.seq (.dreg [⟨(some 82), none, (.mem ⟨(some 82), (.buildSlice 23 0 (List.toArray [])), 23, "", (List.toArray []), none⟩)⟩, ⟨(some 83), none, (.addo (.tmp 10) 4)⟩, ⟨(some 84), none, (.ld (.tmp 83) 1)⟩, ⟨(some 85), none, (.mem ⟨(some 85), (.call ⟨(.builtin .append), (List.toArray [(.tmp 82), (.tmp 84)]), (List.toArray [23, 23])⟩), 23, "", (List.toArray []), none⟩)⟩, ⟨(some 86), none, (.lda (.tmp 7) 3)⟩, ⟨(some 87), none, (.mem ⟨(some 87), (.buildSlice 23 1 (List.toArray [(0, (.tmp 86))])), 23, "", (List.toArray []), none⟩)⟩, ⟨(some 88), none, (.mem ⟨(some 88), (.call ⟨(.builtin .append), (List.toArray [(.tmp 85), (.tmp 87)]), (List.toArray [23, 23])⟩), 23, "", (List.toArray []), none⟩)⟩, ⟨(some 89), none, (.addo (.tmp 10) 4)⟩, ⟨none, none, (.st (.tmp 89) (.tmp 88))⟩] [255, 127, 63, 16, 0, 7, 2, 0, 0])
  (.seq (.reg [⟨(some 91), none, (.lda (.tmp 10) 5)⟩, ⟨(some 92), none, (.call ⟨(.value (.func 17)), (List.toArray [(.tmp 91)]), (List.toArray [25])⟩ true)⟩, ⟨(some 90), none, (.mov (.tmp 92))⟩, ⟨(some 93), none, (.pur ⟨(some 93), (.extract (.tmp 90) 0), 22, "", (List.toArray []), none⟩)⟩, ⟨(some 94), none, (.pur ⟨(some 94), (.extract (.tmp 90) 1), 28, "", (List.toArray []), none⟩)⟩, ⟨(some 16), none, (.mov (.tmp 93))⟩, ⟨(some 17), none, (.mov (.tmp 94))⟩])
  (.seq (.seq (.reg [⟨(some 95), none, (.mov (.tmp 17))⟩, ⟨(some 96), none, (.cmp .neq (.tmp 95) (.const (.int .i64 0)))⟩])
  (.cond (.tmp 96) (.seq (.reg [⟨(some 97), none, (.mov (.tmp 17))⟩, ⟨(some 98), none, (.cmpb .eql (.tmp 97) (.const (.int .i64 1)))⟩, ⟨(some 99), none, (.mov (.tmp 98))⟩, ⟨(some 100), (some (99, false)), (.mov (.tmp 17))⟩, ⟨(some 101), (some (99, false)), (.cmpb .eql (.tmp 100) (.const (.int .i64 6)))⟩, ⟨(some 102), none, (.pur ⟨(some 102), (.pick (.tmp 99) (.const (.bool true)) (.tmp 101)), 4, "", (List.toArray []), none⟩)⟩, ⟨(some 103), none, (.mov (.tmp 102))⟩, ⟨(some 104), (some (103, true)), (.call ⟨(.value (.func 16)), (List.toArray []), (List.toArray [])⟩ true)⟩, ⟨(some 105), none, (.pur ⟨(some 105), (.pick (.tmp 103) (.tmp 104) (.const (.bool false))), 4, "", (List.toArray []), none⟩)⟩, ⟨(some 8), none, (.mov (.tmp 105))⟩])
  .ret)
  .skip))
  (.seq (.seq (.reg [⟨(some 106), none, (.mov (.tmp 16))⟩, ⟨(some 107), none, (.len (.tmp 106))⟩, ⟨(some 108), none, (.addo (.tmp 4) 0)⟩, ⟨(some 109), none, (.ld (.tmp 108) 1)⟩, ⟨(some 110), none, (.cmp .neq (.tmp 107) (.tmp 109))⟩])
  (.cond (.tmp 110) (.seq (.reg [⟨(some 8), none, (.mov (.const (.bool false)))⟩])
  .ret)
  .skip))
  (.seq (.seq (.reg [⟨(some 111), none, (.mov (.tmp 16))⟩, ⟨(some 112), none, (.len (.tmp 111))⟩, ⟨(some 113), none, (.mov (.const (.int .i64 0)))⟩])
  (.block 2 (.other (at_ Tryz.f7 [1, 1, 1, 1, 1, 1, 1, 1, 1, 1, 1, 0, 1, 0]))))
  (.seq (.reg [⟨(some 144), none, (.call ⟨(.value (.func 16)), (List.toArray []), (List.toArray [])⟩ true)⟩, ⟨(some 8), none, (.mov (.tmp 144))⟩])
  .ret)))))))))))))
theorem L7 : low Tryz.prog Tryz.f7.ntmps (at_ Tryz.f7 []) = some R7 := by kernel_rfl
theorem E7_1 : at_ Tryz.f7 [1, 1, 1, 1, 1, 1, 0, 1, 0] = .loop (at_ Tryz.f7 [1, 1, 1, 1, 1, 1, 0, 1, 0, 0]) := by kernel_rfl
noncomputable def R7x1 : RC := (.seq (.reg [⟨(some 61), none, (.cmp .lss (.tmp 60) (.tmp 59))⟩])
  (.seq (.cond (.tmp 61) .skip
  (.exit 0))
  (.seq (.block 1 (.seq (.reg [⟨(some 62), none, (.mov (.tmp 60))⟩, ⟨(some 63), none, (.idx (.tmp 58) (.tmp 60) 2)⟩, ⟨(some 64), none, (.lda (.tmp 63) 2)⟩, ⟨(some 15), none, (.alc 48 [(.int .i64 0), (.int .i64 0)])⟩, ⟨(some 14), none, (.mov (.tmp 62))⟩, ⟨none, none, (.sta (.tmp 15) (.tmp 64) 2)⟩])
  (.seq (.dreg [⟨(some 65), none, (.mov (.tmp 9))⟩, ⟨(some 66), none, (.mov (.tmp 14))⟩, ⟨(some 67), none, (.idx (.tmp 65) (.tmp 66) 1)⟩, ⟨(some 68), none, (.ld (.tmp 67) 1)⟩, ⟨(some 69), none, (.addo (.tmp 15) 0)⟩, ⟨(some 70), none, (.ld (.tmp 69) 1)⟩, ⟨(some 71), none, (.cmpb .lss (.tmp 68) (.tmp 70))⟩, ⟨(some 72), none, (.mov (.tmp 71))⟩, ⟨(some 73), (some (72, false)), (.mov (.tmp 9))⟩, ⟨(some 74), (some (72, false)), (.mov (.tmp 14))⟩, ⟨(some 75), (some (72, false)), (.idx (.tmp 73) (.tmp 74) 1)⟩, ⟨(some 76), (some (72, false)), (.ld (.tmp 75) 1)⟩, ⟨(some 77), (some (72, false)), (.addo (.tmp 15) 1)⟩, ⟨(some 78), (some (72, false)), (.ld (.tmp 77) 1)⟩, ⟨(some 79), (some (72, false)), (.cmpb .gtr (.tmp 76) (.tmp 78))⟩, ⟨(some 80), none, (.pur ⟨(some 80), (.pick (.tmp 72) (.const (.bool true)) (.tmp 79)), 4, "", (List.toArray []), none⟩)⟩] [32767, 16383, 4351, 255, 2047, 1023, 255, 255, 127, 63, 16, 0, 7, 3, 0, 0])
  (.cond (.tmp 80) (.seq (.reg [⟨(some 8), none, (.mov (.const (.bool false)))⟩])
  .ret)
  .skip))))
  (.reg [⟨(some 81), none, (.ari .add (.tmp 60) (.const (.int .i64 1)))⟩, ⟨(some 60), none, (.mov (.tmp 81))⟩]))))
theorem L7x1 : low Tryz.prog Tryz.f7.ntmps (at_ Tryz.f7 [1, 1, 1, 1, 1, 1, 0, 1, 0, 0]) = some R7x1 := by kernel_rfl
theorem E7_2 : at_ Tryz.f7 [1, 1, 1, 1, 1, 1, 1, 1, 1, 1, 1, 0, 1, 0] = .loop (at_ Tryz.f7 [1, 1, 1, 1, 1, 1, 1, 1, 1, 1, 1, 0, 1, 0, 0]) := by kernel_rfl
noncomputable def R7x2 : RC := (.seq (.reg [⟨(some 114), none, (.cmp .lss (.tmp 113) (.tmp 112))⟩])
  (.seq (.cond (.tmp 114) .skip
  (.exit 2))
  (.seq (.block 3 (.seq (.reg [⟨(some 115), none, (.mov (.tmp 113))⟩, ⟨(some 116), none, (.idx (.tmp 111) (.tmp 113) 2)⟩, ⟨(some 117), none, (.lda (.tmp 116) 2)⟩, ⟨(some 19), none, (.alc 48 [(.int .i64 0), (.int .i64 0)])⟩, ⟨(some 18), none, (.mov (.tmp 115))⟩, ⟨none, none, (.sta (.tmp 19) (.tmp 117) 2)⟩])
  (.seq (.dreg [⟨(some 118), none, (.addo (.tmp 19) 0)⟩, ⟨(some 119), none, (.ld (.tmp 118) 1)⟩, ⟨(some 120), none, (.mov (.tmp 12))⟩, ⟨(some 121), none, (.mov (.tmp 18))⟩, ⟨(some 122), none, (.idx (.tmp 120) (.tmp 121) 2)⟩, ⟨(some 123), none, (.addo (.tmp 122) 0)⟩, ⟨(some 124), none, (.ld (.tmp 123) 1)⟩, ⟨(some 125), none, (.cmpb .lss (.tmp 119) (.tmp 124))⟩, ⟨(some 126), none, (.mov (.tmp 125))⟩, ⟨(some 127), (some (126, false)), (.addo (.tmp 19) 1)⟩, ⟨(some 128), (some (126, false)), (.ld (.tmp 127) 1)⟩, ⟨(some 129), (some (126, false)), (.mov (.tmp 12))⟩, ⟨(some 130), (some (126, false)), (.mov (.tmp 18))⟩, ⟨(some 131), (some (126, false)), (.idx (.tmp 129) (.tmp 130) 2)⟩, ⟨(some 132), (some (126, false)), (.addo (.tmp 131) 1)⟩, ⟨(some 133), (some (126, false)), (.ld (.tmp 132) 1)⟩, ⟨(some 134), (some (126, false)), (.cmpb .gtr (.tmp 128) (.tmp 133))⟩, ⟨(some 135), none, (.pur ⟨(some 135), (.pick (.tmp 126) (.const (.bool true)) (.tmp 134)), 4, "", (List.toArray []), none⟩)⟩, ⟨(some 136), none, (.mov (.tmp 135))⟩, ⟨(some 137), (some (136, false)), (.addo (.tmp 19) 0)⟩, ⟨(some 138), (some (136, false)), (.ld (.tmp 137) 1)⟩, ⟨(some 139), (some (136, false)), (.addo (.tmp 19) 1)⟩, ⟨(some 140), (some (136, false)), (.ld (.tmp 139) 1)⟩, ⟨(some 141), (some (136, false)), (.cmpb .gtr (.tmp 138) (.tmp 140))⟩, ⟨(some 142), none, (.pur ⟨(some 142), (.pick (.tmp 136) (.const (.bool true)) (.tmp 141)), 4, "", (List.toArray []), none⟩)⟩] [16777215, 8388607, 2621439, 524287, 1048575, 524287, 262143, 131071, 65535, 31231, 14847, 6655, 511, 511, 1023, 511, 255, 127, 60, 28, 12, 0, 0, 1, 0])
  (.cond (.tmp 142) (.seq (.reg [⟨(some 8), none, (.mov (.const (.bool false)))⟩])
  .ret)
  .skip))))
  (.reg [⟨(some 143), none, (.ari .add (.tmp 113) (.const (.int .i64 1)))⟩, ⟨(some 113), none, (.mov (.tmp 143))⟩]))))
theorem L7x2 : low Tryz.prog Tryz.f7.ntmps (at_ Tryz.f7 [1, 1, 1, 1, 1, 1, 1, 1, 1, 1, 1, 0, 1, 0, 0]) = some R7x2 := by kernel_rfl
end Go.Ax
/-
  Frost, for FrostTrue: a course by remainders, and the readings that it shows: the numbers.
-/
namespace Go.Ax
open Go Go.RowKit Go.Proofs

/-- a number of a span by a remainder -/
def inn (l h m : Int) : Int := l + m % (h - l + 1)
theorem inn_in {l h m : Int} (hle : l ≤ h) : l ≤ inn l h m ∧ inn l h m ≤ h := by
  unfold inn
  have h1 := Int.emod_nonneg m (show h - l + 1 ≠ 0 by omega)
  have h2 := Int.emod_lt_of_pos m (show 0 < h - l + 1 by omega)
  omega
def remAt (us : List Nat) (i : Nat) : Int := (us.getD (i % us.length) 0 : Nat)
/-- the course -/
def Ng.cs (g : Ng) (f : Int) (us : List Nat) : Nat → Int
  | 0 => max (-4000) (min 4000 f)
  | i + 1 => inn (max (-5000) (g.cs f us i - g.fall)) (min 5000 (g.cs f us i + g.rise)) (remAt us (i + 1))
def Ng.bias (g : Ng) (r : Rdg) : Int × Int := g.ss.getD r.sensor.toNat (0, 0)
/-- the i-th reading as the course has it -/
def Ng.seen (g : Ng) (f : Int) (us : List Nat) (i : Nat) (r : Rdg) : Rdg := ⟨r.sensor, r.slot, g.cs f us r.slot.toNat + inn (g.bias r).1 (g.bias r).2 (remAt us (i + 1))⟩
def Ng.seens (g : Ng) (f : Int) (us : List Nat) : List Rdg := g.rs.mapIdx (g.seen f us)
/-- the night with other readings -/
def Ng.withR (g : Ng) (a : Option Addr) (n c : Nat) (l : List Rdg) : Ng := { g with ra := a, rn := n, rcap := c, rs := l }
section
variable {g : Ng} {f : Int} {us : List Nat}
theorem Ng.cs_in (v : g.Vd) : ∀ i, -5000 ≤ g.cs f us i ∧ g.cs f us i ≤ 5000
  | 0 => by unfold Ng.cs; omega
  | i + 1 => by
    have ih := Ng.cs_in v i
    have fa := v.f; have r := v.ri
    unfold Ng.cs
    have := inn_in (l := max (-5000) (g.cs f us i - g.fall)) (h := min 5000 (g.cs f us i + g.rise)) (m := remAt us (i + 1)) (by omega)
    omega
theorem Ng.cs_step (v : g.Vd) (i : Nat) : g.cs f us i - g.fall ≤ g.cs f us (i + 1) ∧ g.cs f us (i + 1) ≤ g.cs f us i + g.rise := by
  have ih := Ng.cs_in (f := f) (us := us) v i
  have fa := v.f; have r := v.ri
  have e : g.cs f us (i + 1) = inn (max (-5000) (g.cs f us i - g.fall)) (min 5000 (g.cs f us i + g.rise)) (remAt us (i + 1)) := by rw [Ng.cs]
  have := inn_in (l := max (-5000) (g.cs f us i - g.fall)) (h := min 5000 (g.cs f us i + g.rise)) (m := remAt us (i + 1)) (by omega)
  omega
theorem Ng.cs_far (v : g.Vd) (i : Nat) : ∀ d : Nat, g.cs f us i - (d : Int) * g.fall ≤ g.cs f us (i + d) ∧ g.cs f us (i + d) ≤ g.cs f us i + (d : Int) * g.rise
  | 0 => by simp
  | d + 1 => by
    have ih := Ng.cs_far v i d
    have st := Ng.cs_step (f := f) (us := us) v (i + d)
    have e : ((d + 1 : Nat) : Int) = (d : Int) + 1 := by omega
    rw [e, Int.add_mul, Int.add_mul, Int.one_mul, Int.one_mul]
    have e2 : i + (d + 1) = i + d + 1 := by omega
    rw [e2]
    omega
theorem Ng.cs_dist (v : g.Vd) (s t : Nat) : g.cs f us s ≤ g.cs f us t + max 0 ((s : Int) - (t : Int)) * g.rise + max 0 ((t : Int) - (s : Int)) * g.fall ∧ g.cs f us t ≤ g.cs f us s + max 0 ((s : Int) - (t : Int)) * g.fall + max 0 ((t : Int) - (s : Int)) * g.rise := by
  rcases Nat.le_total s t with h | h
  · obtain ⟨d, rfl⟩ := Nat.exists_eq_add_of_le h
    have := Ng.cs_far (f := f) (us := us) v s d
    have e1 : max 0 ((s : Int) - ((s + d : Nat) : Int)) = 0 := by omega
    have e2 : max 0 (((s + d : Nat) : Int) - (s : Int)) = (d : Int) := by omega
    rw [e1, e2]
    simp only [Int.zero_mul]
    omega
  · obtain ⟨d, rfl⟩ := Nat.exists_eq_add_of_le h
    have := Ng.cs_far (f := f) (us := us) v t d
    have e1 : max 0 ((t : Int) - ((t + d : Nat) : Int)) = 0 := by omega
    have e2 : max 0 (((t + d : Nat) : Int) - (t : Int)) = (d : Int) := by omega
    rw [e1, e2]
    simp only [Int.zero_mul]
    omega
theorem seens_len : (g.seens f us).length = g.rs.length := by simp [Ng.seens]
theorem seens_get {i : Nat} {r : Rdg} (h : g.rs[i]? = some r) : (g.seens f us)[i]? = some (g.seen f us i r) := by
  simp [Ng.seens, List.getElem?_mapIdx, h]
theorem seens_mem {x : Rdg} (h : x ∈ g.seens f us) : ∃ i r, g.rs[i]? = some r ∧ x = g.seen f us i r := by
  obtain ⟨i, hi⟩ := List.getElem?_of_mem h
  have hl := get_lt hi
  rw [seens_len] at hl
  obtain ⟨r, hr⟩ := get_some hl
  rw [seens_get hr] at hi
  cases hi
  exact ⟨i, r, hr, rfl⟩
theorem seens_take {i : Nat} {r : Rdg} (h : g.rs[i]? = some r) : (g.seens f us).take (i + 1) = (g.seens f us).take i ++ [g.seen f us i r] := by
  rw [List.take_add_one, seens_get h]; rfl
theorem bias_in (v : g.Vd) {r : Rdg} (hr : r ∈ g.rs) : (g.bias r).1 ≤ (g.bias r).2 := by
  have h := (v.r r hr).1
  obtain ⟨k, hk⟩ := Int.eq_ofNat_of_zero_le h.1
  have hk2 : k < g.ss.length := by have := v.sn; omega
  have hm : g.bias r ∈ g.ss := by
    unfold Ng.bias
    rw [hk]
    show g.ss.getD k (0, 0) ∈ g.ss
    rw [List.getD_eq_getElem?_getD, List.getElem?_eq_getElem hk2]
    exact List.getElem_mem hk2
  exact (v.s _ hm).2.1
/-- no reading of the course asks what the course is not -/
theorem seen_al (v : g.Vd) {i : Nat} {r : Rdg} (hr : g.rs[i]? = some r) (t : Nat) : g.alLo (g.seen f us i r) t ≤ g.cs f us t ∧ g.cs f us t ≤ g.alHi (g.seen f us i r) t := by
  have hm := List.mem_of_getElem? hr
  have hb := inn_in (m := remAt us (i + 1)) (bias_in v hm)
  have hs := (v.r r hm).2.1
  obtain ⟨s, hs2⟩ := Int.eq_ofNat_of_zero_le hs.1
  have d := Ng.cs_dist (f := f) (us := us) v s t
  have e : r.slot.toNat = s := by omega
  unfold Ng.alLo Ng.alHi Ng.seen
  simp only [e]
  have e2 : (g.ss.getD r.sensor.toNat (0, 0)) = g.bias r := rfl
  simp only [e2, hs2]
  generalize g.bias r = b at *
  generalize inn b.1 b.2 (remAt us (i + 1)) = z at *
  generalize max 0 ((s : Int) - (t : Int)) * g.rise = p1 at *
  generalize max 0 ((s : Int) - (t : Int)) * g.fall = p2 at *
  generalize max 0 ((t : Int) - (s : Int)) * g.rise = p3 at *
  generalize max 0 ((t : Int) - (s : Int)) * g.fall = p4 at *
  have hs3 : ((s : Nat) : Int) = (Int.ofNat s) := rfl
  simp only [Int.ofNat_eq_natCast] at *
  omega
theorem withR_least {a : Option Addr} {n c : Nat} {l : List Rdg} (t : Nat) : (g.withR a n c l).least t = l.foldl (fun b r => max b (g.alLo r t)) (-5000) := rfl
theorem withR_great {a : Option Addr} {n c : Nat} {l : List Rdg} (t : Nat) : (g.withR a n c l).great t = l.foldl (fun b r => min b (g.alHi r t)) 5000 := rfl
/-- the course lies within the bounds -/
theorem course_in (v : g.Vd) {a : Option Addr} {n c : Nat} (t : Nat) : (g.withR a n c (g.seens f us)).least t ≤ g.cs f us t ∧ g.cs f us t ≤ (g.withR a n c (g.seens f us)).great t := by
  rw [withR_least, withR_great]
  have hin := Ng.cs_in (f := f) (us := us) v t
  constructor
  · rcases (fold_max (fun r => g.alLo r (t : Int)) (g.seens f us) (-5000)).2.2 with q | ⟨r, hr, q⟩
    · omega
    · obtain ⟨i, x, hx, rfl⟩ := seens_mem hr
      have := (seen_al (f := f) (us := us) v hx t).1
      omega
  · rcases (fold_min (fun r => g.alHi r (t : Int)) (g.seens f us) 5000).2.2 with q | ⟨r, hr, q⟩
    · omega
    · obtain ⟨i, x, hx, rfl⟩ := seens_mem hr
      have := (seen_al (f := f) (us := us) v hx t).2
      omega
/-- one more reading -/
theorem more_least {a b : Option Addr} {n c m d : Nat} {l : List Rdg} {x : Rdg} (t : Nat) : (g.withR a n c l).least t ≤ (g.withR b m d (l ++ [x])).least t ∧ (g.withR b m d (l ++ [x])).great t ≤ (g.withR a n c l).great t := by
  simp only [withR_least, withR_great, List.foldl_append, List.foldl_cons, List.foldl_nil]
  omega
theorem course_has (v : g.Vd) {a : Option Addr} {n c : Nat} : (g.withR a n c (g.seens f us)).has = true := by
  refine has_of fun j hj => ?_
  have := course_in (f := f) (us := us) v (a := a) (n := n) (c := c) j
  omega
/-- whether the course shows no more than a sensor can -/
def Ng.shows (g : Ng) (f : Int) (us : List Nat) : Bool := (g.seens f us).all fun r => inB r.value (-5000) 5000
theorem course_ok {a : Option Addr} {n c : Nat} (hok : g.ok = true) (hl : g.rs.length = g.rn) (hn : n = g.rn) (hs : g.shows f us = true) : (g.withR a n c (g.seens f us)).ok = true := by
  simp only [Ng.ok, Bool.and_eq_true] at hok ⊢
  obtain ⟨⟨⟨⟨⟨⟨h1, h2⟩, h3⟩, h4⟩, h5⟩, h6⟩, h7⟩ := hok
  subst hn
  refine ⟨⟨⟨⟨⟨⟨h1, h2⟩, h3⟩, h4⟩, h5⟩, h6⟩, ?_⟩
  show (g.seens f us).all (rdgB g.sn g.slots) = true
  rw [List.all_eq_true] at h7 ⊢
  intro x hx
  obtain ⟨i, r, hr, rfl⟩ := seens_mem hx
  have h8 := h7 r (List.mem_of_getElem? hr)
  have h9 := List.all_eq_true.1 hs _ hx
  simp only [rdgB, Bool.and_eq_true] at h8 ⊢
  exact ⟨h8.1, h9⟩
end
end Go.Ax
/-
  Frost, for FrostTrue: a number of a span by a remainder (36; written by program).
-/
namespace Go.Ax
open Go Go.RowKit Go.Proofs

theorem conv_32 (x : Nat) (h2 : x ≤ 4294967295) {S : Rg} {n : Nat} {o : Operand} {d : Option Nat} (hx : evS S o = some (.int .u32 (x : Int))) : pureOp Tryz.prog (frS n S) ⟨d, .convert 67 3 o, 3, "", #[], none⟩ = some (iv x) := by
  have e : ∀ y : Int, prun Tryz.prog (Go.convert 67 3 (.int .u32 y)) = some (.int .i64 (IntKind.i64.wrap y)) := fun y => by kernel_rfl
  unfold pureOp
  simp only [ev_frS, hx, flat, flat1, cond_true, e, wrap_i64 (x := (x : Int)) ⟨(by omega), (by omega)⟩]
def u32s (l : List Nat) : List Value := l.map fun (n : Nat) => Value.int .u32 ((n : Nat) : Int)
theorem u32_get {us : List Nat} {i : Nat} (h : i < us.length) : (u32s us)[0 + i * 1]? = some (.int .u32 ((us.getD i 0 : Nat) : Int)) := by
  rw [Nat.zero_add, Nat.mul_one]; simp [u32s, List.getD, h]
section
variable {kn : FuncId → Option Bool} {lo : Nat} {H : Hp}
theorem inner_ok {l h : Int} {x : Nat} (hs : -1000000 ≤ l ∧ l ≤ h ∧ h ≤ 1000000) (hx : x ≤ 4294967295) : ∃ H', FnX Tryz.prog kn lo 36 [spv l h, .int .u32 (x : Int)] H (iv (inn l h x)) H' ∧ Keep H H' [] := by
  have key := fnX_low (kn := kn) (lo := lo) (H := H) (args := [spv l h, .int .u32 (x : Int)]) (Q := fun v H' => v = iv (inn l h x) ∧ Keep H H' []) Tryz.func36 B36 N36 Z36 L36 (by simp) ?_
  · obtain ⟨v, H', h, rfl, q⟩ := key; exact ⟨H', h, q⟩
  have hk := Keep.refl H []
  have h1 := Int.emod_nonneg (x : Int) (b := h - l + 1) (by omega)
  have h2 := Int.emod_lt_of_pos (x : Int) (b := h - l + 1) (by omega)
  intro H1 hH1; obtain ⟨kH1, nH1, c1⟩ := new_facts hH1; clear hH1
  have mH1 := kH1.1
  have hk := hk.trans kH1
  have c1 : Cl H1 H.next [iv l, iv h] := c1
  refine wD_seq ?_
  refine wD_addo (b := H.next) (o := 0) rfl ?_
  refine wD_ld (b := H.next) (o := 0) (v := iv l) rfl c1.rd rfl ?_
  refine wD_mov (v := .int .u32 (x : Int)) rfl ?_
  refine wD_pur (v := iv (x : Int)) rfl (conv_32 x hx rfl) ?_
  refine wD_addo (b := H.next) (o := 0) rfl ?_
  refine wD_ld (b := H.next) (o := 1) (v := iv h) rfl c1.rd rfl ?_
  refine wD_addo (b := H.next) (o := 0) rfl ?_
  refine wD_ld (b := H.next) (o := 0) (v := iv l) rfl c1.rd rfl ?_
  refine wD_sub (a := h) (b := l) rfl rfl ⟨by omega, by omega⟩ ?_
  refine wD_add (a := h - l) (b := 1) rfl rfl ⟨by omega, by omega⟩ ?_
  refine wD_rem (a := (x : Int)) (b := (h - l) + 1) rfl rfl (by omega) (by omega) ⟨by omega, by omega⟩ ⟨by omega, by omega⟩ ?_
  refine wD_add (a := l) (b := (x : Int) % ((h - l) + 1)) rfl rfl ⟨by omega, by omega⟩ ?_
  refine wD_mov (v := iv (l + ((x : Int) % ((h - l) + 1)))) rfl ?_
  refine wD_end (by repeat' first | exact True.intro | exact (fun h => h) | refine And.intro ?_ ?_ | (intro h; have h : (_ : Nat) = _ := h; omega)) ?_
  exact And.intro trivial (Exists.intro _ (And.intro rfl ⟨rfl, hk⟩))
end
end Go.Ax
/-
  Frost, for FrostTrue: a course by remainders (33; written by program).
-/
namespace Go.Ax
open Go Go.RowKit Go.Proofs

theorem conv_16 (x : Int) (h2 : -32768 ≤ x ∧ x ≤ 32767) {S : Rg} {n : Nat} {o : Operand} {d : Option Nat} (hx : evS S o = some (.int .i16 x)) : pureOp Tryz.prog (frS n S) ⟨d, .convert 54 3 o, 3, "", #[], none⟩ = some (iv x) := by
  have e : ∀ y : Int, prun Tryz.prog (Go.convert 54 3 (.int .i16 y)) = some (.int .i64 (IntKind.i64.wrap y)) := fun y => by kernel_rfl
  unfold pureOp
  simp only [ev_frS, hx, flat, flat1, cond_true, e, wrap_i64 (x := x) ⟨(by omega), (by omega)⟩]
theorem u36 : Tryz.prog.underlying 36 = some (.slice 3) := by kernel_rfl
theorem u23 : Tryz.prog.underlying 23 = some (.slice 57) := by kernel_rfl
theorem rdc_len (rs : List Rdg) : (rdc rs).length = rs.length * 3 := by
  unfold rdc
  rw [flat_len (size := 3) (fun _ _ => rfl)]
theorem u32_le {us : List Nat} (h : ∀ n ∈ us, n ≤ 4294967295) (i : Nat) : us.getD i 0 ≤ 4294967295 := by
  rcases Nat.lt_or_ge i us.length with q | q
  · rw [List.getD_eq_getElem?_getD, List.getElem?_eq_getElem q]; exact h _ (List.getElem_mem q)
  · rw [List.getD_eq_getElem?_getD, List.getElem?_eq_none q]; simp
theorem cs_get {n s : Nat} {F : Nat → Int} (h : s < n) : ((List.range n).map F)[s]? = some (F s) := by simp [h]
theorem Ng.cs_pos {g : Ng} {f : Int} {us : List Nat} {i : Nat} (h : 0 < i) : inn (max (-5000) (g.cs f us (i - 1) - g.fall)) (min 5000 (g.cs f us (i - 1) + g.rise)) ((us.getD (i % us.length) 0 : Nat) : Int) = g.cs f us i := by
  obtain ⟨j, rfl⟩ : ∃ j, i = j + 1 := ⟨i - 1, by omega⟩
  rw [Nat.add_sub_cancel, Ng.cs]; rfl
theorem Acc.keepW {lo f : Nat} {e : TypeId} {H H1 : Hp} {v : Value} {n x : Nat} {cs : List Value} (h : Acc lo f e H v n cs) (k : Keep H H1 [x]) (hx : x < f) : Acc lo f e H1 v n cs :=
  h.imp id fun ⟨b, e1, h0, hf, hl, hn, hg⟩ => ⟨b, e1, h0, hf, hl, Nat.lt_of_lt_of_le hn k.1, by rw [k.2 b hn (by simp; omega)]; exact hg⟩
theorem i25 : ∃ i, Tryz.prog.info? 25 = some i ∧ i.size = 5 := by
  have h : (Tryz.prog.info? 25).map (fun i => i.size) = some 5 := by kernel_rfl
  cases e : Tryz.prog.info? 25 with
  | none => rw [e] at h; cases h
  | some i => rw [e] at h; simp at h; exact ⟨i, rfl, h⟩
theorem load_agg {P : Program} {t : TypeId} {n : Nat} (ht : isAggB P t = some true) (hi : ∃ i, P.info? t = some i ∧ i.size = n) {H : Hp} {b : Nat} {cs : List Value} (h : Rd H b cs) (hl : cs.length = n) : loadV P H t ⟨b, 0, none⟩ = some (.agg cs.toArray) := by
  obtain ⟨i, h1, h2⟩ := hi
  have hr : row i.size cs 0 = some cs := by
    unfold row
    rw [h2, ← hl]
    simp [beq_eq]
  unfold loadV
  simp only [h.of, ht, h1, hr]
theorem a25 : isAggB Tryz.prog 25 = some true := by kernel_rfl
theorem res_mid {S : Rg} {H : Hp} {v u : Value} {x : Nat} {cs : List Value} (ha : lk S 6 = some v) (hb : lk S 7 = some (.pointer (some ⟨x, 0, none⟩))) (hc : lk S 8 = some u) (hl : cs.length = 5) (h : Cl H x cs) :
    resS Tryz.prog S H [.tmp 6, .cell 7 25, .tmp 8] = some [v, .agg cs.toArray, u] := by
  simp only [resS, ha, hb, hc, load_agg a25 i25 h.rd hl]
theorem Sl.old {H : Hp} {a : Option Addr} {n c : Nat} {cs : List Value} (h : Sl H a n c cs) (b : Nat) (e : a = some ⟨b, 0, none⟩) : b < H.next := by
  rcases h with ⟨h | h, _⟩ | ⟨b', e', h, _⟩
  · rw [h] at e; cases e
  · rw [h] at e; cases e
  · rw [e'] at e; cases e; exact h.lt
/-- what lies below f stays -/
def KeepB (f : Nat) (H H1 : Hp) : Prop := H.next ≤ H1.next ∧ ∀ b, b < f → H1.t.get b = H.t.get b
theorem KeepB.keep {f : Nat} {F H H1 : Hp} {l : List Nat} (h : KeepB f H H1) (k : Keep F H l) (hf : F.next ≤ f) : Keep F H1 l :=
  ⟨Nat.le_trans k.1 h.1, fun b hb hl => (h.2 b (Nat.lt_of_lt_of_le hb hf)).trans (k.2 b hb hl)⟩
theorem KeepB.cl {f : Nat} {H H1 : Hp} {b : Nat} {cs : List Value} (h : KeepB f H H1) (hc : Cl H b cs) (hb : b < f) : Cl H1 b cs := by
  obtain ⟨h1, e, lz, h2⟩ := hc
  exact ⟨Nat.lt_of_lt_of_le h1 h.1, e, lz, by rw [h.2 b hb]; exact h2⟩
theorem KeepB.rd {f : Nat} {H H1 : Hp} {b : Nat} {cs : List Value} (h : KeepB f H H1) (hc : Rd H b cs) (hb : b < f) : Rd H1 b cs := by
  obtain ⟨h1, h2⟩ := hc
  exact ⟨Nat.lt_of_lt_of_le h1 h.1, by unfold cellsOf at h2 ⊢; rw [h.2 b hb]; exact h2⟩
theorem heap_append_below {P : Program} {lo : Nat} {H : Hp} {t0 t1 e ep : TypeId} {size k cap2 f : Nat} {a : Option Addr} {v : Value} {cs news : List Value} (he : sliceElem P t0 = some (e, size)) (ht : P.underlying t1 = some (.slice ep))
    (hs : Sl H a 1 cap2 news) (hl : news.length = 1 * size) (hz : 0 < size) (hone : news.all one = true) (hcl : cs.length = k * size) (hk : k < 1000) (ha : Acc lo f e H v k cs) (hlo : lo ≤ H.next) (hf : f ≤ H.next) :
    ∃ H1 kd, (∀ (n : Nat) (S : Rg) (d : Option Tmp) (x y : Operand) (ty : TypeId) (p : String), evS S x = some v → evS S y = some (.slice a 1 cap2) → heapOp P lo (frS n S) H ⟨d, .call ⟨.builtin .append, #[x, y], #[t0, t1]⟩, ty, p, #[], none⟩ = some (.val (.slice (some ⟨H.next, 0, none⟩) (k + 1) (k + 1)) H1, kd)) ∧ (kd = .heavy ∨ ∃ b, kd = .store b ∧ f ≤ b) ∧
      Acc lo f e H1 (.slice (some ⟨H.next, 0, none⟩) (k + 1) (k + 1)) (k + 1) (cs ++ news) ∧ KeepB f H H1 := by
  obtain ⟨H1, kd, h1, h2, h3, h4⟩ := heap_append_one he ht hs hl hz hone hcl hk ha hlo hf
  refine ⟨H1, kd, h1, h2, h3, ?_⟩
  have h5 := h4 { H with next := f } rfl ⟨hf, fun b _ _ => rfl⟩
  refine ⟨?_, fun b hb => h5.2 b hb (by simp)⟩
  rcases h3 with ⟨h0, _⟩ | ⟨b, e, _, _, _, hn, _⟩
  · omega
  · cases e; omega
/-- what course answers -/
def Ng.CsR (g : Ng) (f : Int) (us : List Nat) (H : Hp) (w : Value) (H' : Hp) : Prop :=
  (g.shows f us = false ∧ w = .tuple #[.slice none 0 0, .agg g.v.toArray, .bool false]) ∨
  (g.shows f us = true ∧ ∃ tb a c, w = .tuple #[slv tb g.n g.n, .agg (g.withR a g.rn c (g.seens f us)).v.toArray, .bool true] ∧ H.next ≤ tb ∧ Rd H' tb (ints ((List.range g.n).map (g.cs f us))) ∧ Sl H' a g.rn c (rdc (g.seens f us)))
section
variable {kn : FuncId → Option Bool} {lo : Nat} {H : Hp}
theorem course_runs {g : Ng} {f : Int} {us : List Nat} {yb ycap : Nat} (v : g.Vd) (h1 : 1 ≤ g.n) (hf : -32768 ≤ f ∧ f ≤ 32767) (hus : ∀ n ∈ us, n ≤ 4294967295) (hu0 : 0 < us.length) (hu2 : us.length ≤ 9223372036854775807) (hy : Rd H yb (u32s us)) (hs : Sl H g.sa g.sn g.scap (spc g.ss)) (hr : Sl H g.ra g.rn g.rcap (rdc g.rs)) (hlo : lo ≤ H.next) :
    ∃ w H', FnX Tryz.prog kn lo 33 [.agg g.v.toArray, .int .i16 f, slv yb us.length ycap] H w H' ∧ Keep H H' [] ∧ g.CsR f us H w H' := by
  refine fnX_low (kn := kn) (lo := lo) (H := H) (args := [.agg g.v.toArray, .int .i16 f, slv yb us.length ycap]) (Q := fun w H' => Keep H H' [] ∧ g.CsR f us H w H') Tryz.func33 B33 N33 Z33 L33 (by simp) ?_
  have hk := Keep.refl H []
  have lty := hy.lt
  have fs : ∀ b, g.sa = some ⟨b, 0, none⟩ → b < H.next := hs.old
  have fr : ∀ b, g.ra = some ⟨b, 0, none⟩ → b < H.next := hr.old
  have hsl0 := v.sl
  have hrl := v.rl
  have hrb := v.r200
  have hn96 := v.n96
  have hfa := v.f
  have hri := v.ri
  have hf : -32768 ≤ f ∧ f ≤ 32767 := hf
  intro H1 hH1; obtain ⟨kH1, nH1, c1⟩ := new_facts hH1; clear hH1
  have mH1 := kH1.1
  have hk := hk.trans kH1
  have hy := kH1.rd hy (by simp)
  have hs := kH1.sl0 hs
  have hr := kH1.sl0 hr
  have c1 : Cl H1 H.next [iv g.slots, iv g.fall, iv g.rise, .slice g.sa g.sn g.scap, .slice g.ra g.rn g.rcap] := c1
  intro H2 hH2; obtain ⟨kH2, nH2, c2⟩ := new_facts hH2; clear hH2
  have c2 : Cl H2 H1.next [iv 0, iv 0, iv 0, .slice none 0 0, .slice none 0 0] := c2
  have mH2 := kH2.1
  have hk := hk.trans kH2
  have hy := kH2.rd hy (by simp)
  have hs := kH2.sl0 hs
  have hr := kH2.sl0 hr
  have c1 := kH2.cl c1 (by simp)
  refine And.intro rfl (Exists.intro (iv f) (And.intro (conv_16 f hf rfl) ?_))
  refine Exists.intro _ (Exists.intro _ (And.intro c1.of (And.intro (show _ = some (iv g.slots) from rfl) ?_)))
  refine loop_low (fn := Tryz.f33) E33_1 N33 L33x1 (fun x : Value × Nat => [(2, .slice (some ⟨yb, 0, none⟩) us.length ycap), (3, pt H.next), (7, pt H1.next), (9, iv (g.cs f us (x.2 - 1))), (10, x.1), (20, iv g.slots), (21, iv (x.2 : Int))])
    (fun k x H' => x.2 + k = g.n ∧ Keep H2 H' [] ∧ Acc lo H2.next 3 H' x.1 x.2 (ints ((List.range x.2).map (g.cs f us)))) g.n (.slice none 0 0, 0) ⟨by omega, Keep.refl _ _, .inl ⟨rfl, rfl, rfl⟩⟩ ⟨rfl, rfl, rfl, rfl, rfl, rfl, rfl, trivial⟩ ?_
  rintro k ⟨wv, i⟩ L1 ⟨hik, hki, hacc⟩
  simp only at hik hacc
  have hm := hki.1
  have hk := hk.trans hki
  have hy := hki.rd hy (by simp)
  have hs := hki.sl0 hs
  have hr := hki.sl0 hr
  have c1 := hki.cl c1 (by simp)
  have c2 := hki.cl c2 (by simp)
  have ki := Keep.refl L1 []
  have kb := hki
  have ub := hus; have lb1 := c1.lt; have lb2 := c2.lt
  have hp1 := Ng.cs_in (f := f) (us := us) v (i - 1)
  refine And.intro (fun q1 => ?_) (fun q1 => ?_)
  · have q1 : (i : Int) < g.slots := of_decide_eq_true q1
    refine And.intro (fun q2 => ?_) (fun q2 => ?_)
    · have q2 : (i : Int) > 0 := of_decide_eq_true q2
      have hst := Ng.cs_pos (g := g) (f := f) (us := us) (i := i) (by omega)
      refine wD_seq ?_
      refine wD_mov (v := iv (g.cs f us (i - 1))) rfl ?_
      refine wD_addo (b := H.next) (o := 0) rfl ?_
      refine wD_ld (b := H.next) (o := 1) (v := iv g.fall) rfl c1.rd rfl ?_
      refine wD_sub (a := g.cs f us (i - 1)) (b := g.fall) rfl rfl ⟨by omega, by omega⟩ ?_
      refine wD_mm (a := -5000) (b := (g.cs f us (i - 1)) - g.fall) rfl rfl ?_
      refine wD_mov (v := iv (g.cs f us (i - 1))) rfl ?_
      refine wD_addo (b := H.next) (o := 0) rfl ?_
      refine wD_ld (b := H.next) (o := 2) (v := iv g.rise) rfl c1.rd rfl ?_
      refine wD_add (a := g.cs f us (i - 1)) (b := g.rise) rfl rfl ⟨by omega, by omega⟩ ?_
      refine wD_mm (a := 5000) (b := (g.cs f us (i - 1)) + g.rise) rfl rfl ?_
      refine wD_pur (v := .agg #[iv (max (-5000) ((g.cs f us (i - 1)) - g.fall)), iv (min 5000 ((g.cs f us (i - 1)) + g.rise))]) rfl (by kernel_rfl) ?_
      refine wD_mov (v := .slice (some ⟨yb, 0, none⟩) us.length ycap) rfl ?_
      refine wD_mov (v := iv (i : Int)) rfl ?_
      refine wD_mov (v := .slice (some ⟨yb, 0, none⟩) us.length ycap) rfl ?_
      refine wD_len (m := us.length) rfl ?_
      refine wD_rem (a := (i : Int)) (b := (us.length : Int)) rfl rfl (by omega) (by omega) ⟨by omega, by omega⟩ ⟨by omega, by omega⟩ ?_
      refine wD_idx (b := yb) (o := 0) (k := i % us.length) (j := (i : Int) % (us.length : Int)) rfl rfl (Int.natCast_emod i us.length).symm (Nat.mod_lt _ hu0) ?_
      refine wD_ld (b := yb) (o := 0 + (i % us.length) * 1) (v := .int .u32 ((us.getD (i % us.length) 0 : Nat) : Int)) rfl hy (u32_get (Nat.mod_lt _ hu0)) ?_
      obtain ⟨H3, fH3, kH3⟩ := inner_ok (kn := kn) (lo := lo) (H := L1) (l := max (-5000) ((g.cs f us (i - 1)) - g.fall)) (h := min 5000 ((g.cs f us (i - 1)) + g.rise)) (x := us.getD (i % us.length) 0) ⟨by omega, by omega, by omega⟩ (u32_le hus _)
      rw [hst] at fH3
      refine wD_callf (vs := [spv (max (-5000) ((g.cs f us (i - 1)) - g.fall)) (min 5000 ((g.cs f us (i - 1)) + g.rise)), .int .u32 ((us.getD (i % us.length) 0 : Nat) : Int)]) rfl (callX_args fH3) ?_
      have mH3 := kH3.1
      have hk := hk.trans kH3
      have hy := kH3.rd hy (by simp)
      have hs := kH3.sl0 hs
      have hr := kH3.sl0 hr
      have c1 := kH3.cl c1 (by simp)
      have c2 := kH3.cl c2 (by simp)
      have ki := ki.trans kH3
      have kb := kb.trans kH3
      refine wD_mov (v := iv (g.cs f us i)) rfl ?_
      refine wD_end (by repeat' first | exact True.intro | exact (fun h => h) | refine And.intro ?_ ?_ | (intro h; have h : (_ : Nat) = _ := h; omega)) ?_
      obtain ⟨H4, hH4⟩ : ∃ H4, H3.new (.cells [iv (g.cs f us i)] 3 false) = H4 := ⟨_, rfl⟩
      refine And.intro rfl (Or.inr (And.intro (by kernel_rfl) (Exists.intro _ (Exists.intro H4 (Exists.intro _ (And.intro ((heap_build1 (v := iv (g.cs f us i)) se36 z3 rfl rfl rfl (by decide)).trans (by rw [← hH4]; rfl)) (And.intro (fun b e => by cases e) ?_)))))))
      obtain ⟨kH4, nH4, c4⟩ := new_facts hH4; clear hH4
      have c4 : Cl H4 H3.next [iv (g.cs f us i)] := c4
      have mH4 := kH4.1
      have hk := hk.trans kH4
      have hy := kH4.rd hy (by simp)
      have hs := kH4.sl0 hs
      have hr := kH4.sl0 hr
      have c1 := kH4.cl c1 (by simp)
      have c2 := kH4.cl c2 (by simp)
      have ki := ki.trans kH4
      have kb := kb.trans kH4
      obtain ⟨H5, kdH5, eH5, dH5, aH5, kbH5⟩ := heap_append_below (P := Tryz.prog) (lo := lo) (k := i) (t1 := 36) se36 u36 (c4.sl (Nat.le_refl 1)) rfl (by decide) rfl (by rw [ints_len]; simp) (by omega) (hacc.keep ki) (by omega) (by omega)
      refine And.intro rfl (Or.inr (And.intro (by cases wv <;> kernel_rfl) (Exists.intro _ (Exists.intro H5 (Exists.intro _ (And.intro (eH5 _ _ _ _ _ _ _ rfl rfl) (And.intro (reg_ok dH5 _) ?_)))))))
      have kb := kbH5.keep kb (by omega)
      have mH5 := kbH5.1
      refine And.intro ⟨by omega, by omega⟩ ?_
      refine ⟨k - 1, (_, i + 1), by omega, ⟨by show i + 1 + (k - 1) = g.n; omega, kb, ?_⟩, rfl, rfl, rfl, rfl, rfl, rfl, rfl, trivial⟩
      show Acc _ _ _ _ _ (i + 1) (ints ((List.range (i + 1)).map (g.cs f us)))
      have e : ints ((List.range (i + 1)).map (g.cs f us)) = ints ((List.range i).map (g.cs f us)) ++ [iv (g.cs f us i)] := by
        rw [List.range_succ]; simp [ints]
      rw [e]; exact aH5
    · have q2 : ¬ ((i : Int) > 0) := of_decide_eq_false q2
      obtain ⟨H6, hH6⟩ : ∃ H6, L1.new (.cells [iv (g.cs f us (i - 1))] 3 false) = H6 := ⟨_, rfl⟩
      refine And.intro rfl (Or.inr (And.intro (by kernel_rfl) (Exists.intro _ (Exists.intro H6 (Exists.intro _ (And.intro ((heap_build1 (v := iv (g.cs f us (i - 1))) se36 z3 rfl rfl rfl (by decide)).trans (by rw [← hH6]; rfl)) (And.intro (fun b e => by cases e) ?_)))))))
      obtain ⟨kH6, nH6, c6⟩ := new_facts hH6; clear hH6
      have c6 : Cl H6 L1.next [iv (g.cs f us (i - 1))] := c6
      have mH6 := kH6.1
      have hk := hk.trans kH6
      have hy := kH6.rd hy (by simp)
      have hs := kH6.sl0 hs
      have hr := kH6.sl0 hr
      have c1 := kH6.cl c1 (by simp)
      have c2 := kH6.cl c2 (by simp)
      have ki := ki.trans kH6
      have kb := kb.trans kH6
      obtain ⟨H7, kdH7, eH7, dH7, aH7, kbH7⟩ := heap_append_below (P := Tryz.prog) (lo := lo) (k := i) (t1 := 36) se36 u36 (c6.sl (Nat.le_refl 1)) rfl (by decide) rfl (by rw [ints_len]; simp) (by omega) (hacc.keep ki) (by omega) (by omega)
      refine And.intro rfl (Or.inr (And.intro (by cases wv <;> kernel_rfl) (Exists.intro _ (Exists.intro H7 (Exists.intro _ (And.intro (eH7 _ _ _ _ _ _ _ rfl rfl) (And.intro (reg_ok dH7 _) ?_)))))))
      have kb := kbH7.keep kb (by omega)
      have mH7 := kbH7.1
      refine And.intro ⟨by omega, by omega⟩ ?_
      refine ⟨k - 1, (_, i + 1), by omega, ⟨by show i + 1 + (k - 1) = g.n; omega, kb, ?_⟩, rfl, rfl, rfl, by rw [show i + 1 - 1 = i - 1 by omega]; rfl, rfl, rfl, rfl, trivial⟩
      show Acc _ _ _ _ _ (i + 1) (ints ((List.range (i + 1)).map (g.cs f us)))
      have e : ints ((List.range (i + 1)).map (g.cs f us)) = ints ((List.range i).map (g.cs f us)) ++ [iv (g.cs f us (i - 1))] := by
        have : i = 0 := by omega
        subst this; rfl
      rw [e]; exact aH7
  · have q1 : ¬ ((i : Int) < g.slots) := of_decide_eq_false q1
    have hin : i = g.n := by have := v.sl; omega
    subst hin
    obtain ⟨tb, ht⟩ : ∃ tb, wv = slv tb g.n g.n ∧ H2.next ≤ tb ∧ Cl L1 tb (ints ((List.range g.n).map (g.cs f us))) := by
      rcases hacc with ⟨h0, _⟩ | ⟨b, h1, h2, h3, h4, h5, h6⟩
      · omega
      · exact ⟨b, h1, by omega, h5, _, _, h6⟩
    obtain ⟨rfl, htb, ct⟩ := ht
    clear hacc
    have ltb := ct.lt
    refine Exists.intro _ (Exists.intro _ (And.intro c1.of (And.intro (show row 5 _ _ = some [iv g.slots, iv g.fall, iv g.rise, .slice g.sa g.sn g.scap, .slice g.ra g.rn g.rcap] from rfl) ?_)))
    intro H8 hH8; obtain ⟨kH8, nH8, c8⟩ := new_facts hH8; clear hH8
    have c8 : Cl H8 L1.next [iv 0, iv 0, iv 0, .slice none 0 0, .slice none 0 0] := c8
    have mH8 := kH8.1
    have hk := hk.trans kH8
    have hy := kH8.rd hy (by simp)
    have hs := kH8.sl0 hs
    have hr := kH8.sl0 hr
    have c1 := kH8.cl c1 (by simp)
    have c2 := kH8.cl c2 (by simp)
    have ct := kH8.cl ct (by simp)
    obtain ⟨_, eH9, lH9, gH9⟩ := id c8
    refine Exists.intro _ (Exists.intro _ (Exists.intro _ (And.intro gH9 (And.intro (by omega) (And.intro rfl (And.intro rfl (And.intro (by simp) ?_)))))))
    intro H9 hH9; obtain ⟨kH9, nH9, sH9⟩ := up_facts c8 hH9; clear hH9
    have mH9 := kH9.1
    have hk := hk.new kH9 (fun b hb => by simp at hb ⊢; omega)
    have hy := kH9.rd hy (by first | (simp; done) | (simp; omega))
    have hs := kH9.sl hs (fun b e => by have := fs b e; first | (simp; done) | (simp; omega))
    have hr := kH9.sl hr (fun b e => by have := fr b e; first | (simp; done) | (simp; omega))
    have c1 := kH9.cl c1 (by first | (simp; done) | (simp; omega))
    have c2 := kH9.cl c2 (by first | (simp; done) | (simp; omega))
    have ct := kH9.cl ct (by first | (simp; done) | (simp; omega))
    have c8 : Cl H9 L1.next [iv g.slots, iv g.fall, iv g.rise, .slice g.sa g.sn g.scap, .slice g.ra g.rn g.rcap] := sH9
    obtain ⟨_, eH10, lH10, gH10⟩ := id c8
    refine Exists.intro _ (Exists.intro _ (Exists.intro _ (And.intro gH10 (And.intro (by omega) (And.intro rfl (And.intro rfl (And.intro (by simp) ?_)))))))
    intro H10 hH10; obtain ⟨kH10, nH10, sH10⟩ := up_facts c8 hH10; clear hH10
    have mH10 := kH10.1
    have hk := hk.new kH10 (fun b hb => by simp at hb ⊢; omega)
    have hy := kH10.rd hy (by first | (simp; done) | (simp; omega))
    have hs := kH10.sl hs (fun b e => by have := fs b e; first | (simp; done) | (simp; omega))
    have hr := kH10.sl hr (fun b e => by have := fr b e; first | (simp; done) | (simp; omega))
    have c1 := kH10.cl c1 (by first | (simp; done) | (simp; omega))
    have c2 := kH10.cl c2 (by first | (simp; done) | (simp; omega))
    have ct := kH10.cl ct (by first | (simp; done) | (simp; omega))
    have c8 : Cl H10 L1.next [iv g.slots, iv g.fall, iv g.rise, .slice g.sa g.sn g.scap, .slice none 0 0] := sH10
    refine Exists.intro _ (Exists.intro _ (And.intro c1.of (And.intro (show _ = some (.slice g.ra g.rn g.rcap) from rfl) ?_)))
    refine loop_low (fn := Tryz.f33) E33_2 N33 L33x2 (fun x : Value × Nat => [(2, .slice (some ⟨yb, 0, none⟩) us.length ycap), (3, pt H.next), (7, pt H1.next), (10, .slice (some ⟨tb, 0, none⟩) g.n g.n), (12, pt L1.next), (53, .slice g.ra g.rn g.rcap), (54, iv (g.rn : Int)), (55, iv (x.2 : Int))])
      (fun k x H' => x.2 + k = g.rn ∧ Keep H10 H' [L1.next] ∧ Cl H' L1.next [iv g.slots, iv g.fall, iv g.rise, .slice g.sa g.sn g.scap, x.1] ∧ Acc lo H10.next 57 H' x.1 x.2 (rdc ((g.seens f us).take x.2)) ∧ ((g.seens f us).take x.2).all (fun r => inB r.value (-5000) 5000) = true) g.rn (.slice none 0 0, 0) ⟨by omega, Keep.refl _ _, c8, .inl ⟨rfl, rfl, rfl⟩, rfl⟩ ⟨rfl, rfl, rfl, rfl, rfl, rfl, rfl, rfl, trivial⟩ ?_
    rintro k ⟨wv, i⟩ L2 ⟨hik2, hki2, c12, hacc2, hsh⟩
    simp only at hik2 c12 hacc2 hsh
    have hm2 := hki2.1
    have lt12 := c12.lt
    have hk := hk.new hki2 (fun b hb => by simp at hb ⊢; omega)
    have hy := hki2.rd hy (by first | (simp; done) | (simp; omega))
    have hs := hki2.sl hs (fun b e => by have := fs b e; first | (simp; done) | (simp; omega))
    have hr := hki2.sl hr (fun b e => by have := fr b e; first | (simp; done) | (simp; omega))
    have c1 := hki2.cl c1 (by first | (simp; done) | (simp; omega))
    have c2 := hki2.cl c2 (by first | (simp; done) | (simp; omega))
    have ct := hki2.cl ct (by first | (simp; done) | (simp; omega))
    have ki := Keep.refl L2 []
    have kb := hki2
    refine And.intro (fun q3 => ?_) (fun q3 => ?_)
    · have q3 : (i : Int) < (g.rn : Int) := of_decide_eq_true q3
      have hi : i < g.rn := by omega
      obtain ⟨x, hx⟩ := get_some (l := g.rs) (i := i) (by have := v.rl; omega)
      have hxm := List.mem_of_getElem? hx
      obtain ⟨ks, hks, hk2, p, hp, pb, slb, vb⟩ := Ng.sensor v hxm
      obtain ⟨s, hsl⟩ := Int.eq_ofNat_of_zero_le slb.1
      have hsn : s < g.n := by have := v.sl; omega
      have hbias : g.bias x = p := by unfold Ng.bias; rw [hks]; simp [List.getD, hp]
      have hps := bias_in v hxm
      rw [hbias] at hps
      have hseen : (g.seen f us i x).value = g.cs f us s + inn p.1 p.2 ((us.getD ((i + 1) % us.length) 0 : Nat) : Int) := by
        unfold Ng.seen; rw [hbias, hsl]; rfl
      have hcs := Ng.cs_in (f := f) (us := us) v s
      have hin := inn_in (m := ((us.getD ((i + 1) % us.length) 0 : Nat) : Int)) hps
      have fs2 := fs; have fr2 := fr
      rcases hr with ⟨_, h0, _⟩ | ⟨rb, era, hrd, _⟩
      · omega
      rcases hs with ⟨_, h0, _⟩ | ⟨sb, esa, hsd, _⟩
      · omega
      have lrb := fr rb era; have lsb := fs sb esa
      rw [era]
      refine Exists.intro i (And.intro rfl (And.intro hi ?_))
      refine Exists.intro _ (Exists.intro _ (And.intro hrd.of (And.intro (row_flat (f := Rdg.v) (fun _ _ => rfl) hx) ?_)))
      intro H11 hH11; obtain ⟨kH11, nH11, c11⟩ := new_facts hH11; clear hH11
      have c11 : Cl H11 L2.next [iv 0, iv 0, iv 0] := c11
      have mH11 := kH11.1
      have hk := hk.trans kH11
      have hy := kH11.rd hy (by simp)
      have c1 := kH11.cl c1 (by simp)
      have c2 := kH11.cl c2 (by simp)
      have ct := kH11.cl ct (by simp)
      have ki := ki.trans kH11
      have kb := kb.trans (kH11.mono (by simp))
      have c12 := kH11.cl c12 (by simp)
      have hrd := kH11.rd hrd (by simp)
      have hsd := kH11.rd hsd (by simp)
      obtain ⟨_, eH12, lH12, gH12⟩ := id c11
      refine Exists.intro _ (Exists.intro _ (Exists.intro _ (And.intro gH12 (And.intro (by omega) (And.intro rfl (And.intro rfl (And.intro (by simp) ?_)))))))
      intro H12 hH12; obtain ⟨kH12, nH12, sH12⟩ := up_facts c11 hH12; clear hH12
      have mH12 := kH12.1
      have hk := hk.new kH12 (fun b hb => by simp at hb ⊢; omega)
      have hy := kH12.rd hy (by first | (simp; done) | (simp; omega))
      have c1 := kH12.cl c1 (by first | (simp; done) | (simp; omega))
      have c2 := kH12.cl c2 (by first | (simp; done) | (simp; omega))
      have ct := kH12.cl ct (by first | (simp; done) | (simp; omega))
      have ki := ki.new kH12 (fun b hb => by simp at hb ⊢; omega)
      have kb := kb.new kH12 (fun b hb => by simp at hb ⊢; omega)
      have c12 := kH12.cl c12 (by first | (simp; done) | (simp; omega))
      have hrd := kH12.rd hrd (by first | (simp; done) | (simp; omega))
      have hsd := kH12.rd hsd (by first | (simp; done) | (simp; omega))
      have c11 : Cl H12 L2.next [iv x.sensor, iv x.slot, iv x.value] := sH12
      refine wD_seq ?_
      refine wD_mov (v := .slice (some ⟨tb, 0, none⟩) g.n g.n) rfl ?_
      refine wD_addo (b := L2.next) (o := 0) rfl ?_
      refine wD_ld (b := L2.next) (o := 1) (v := iv x.slot) rfl c11.rd rfl ?_
      refine wD_idx (b := tb) (o := 0) (k := s) (j := x.slot) rfl rfl hsl hsn ?_
      refine wD_ld (b := tb) (o := 0 + s * 1) (v := iv (g.cs f us s)) rfl ct.rd (ints_at (cs_get (by omega))) ?_
      refine wD_addo (b := H.next) (o := 0) rfl ?_
      refine wD_ld (b := H.next) (o := 3) (v := .slice (some ⟨sb, 0, none⟩) g.sn g.scap) rfl c1.rd (by rw [← esa]; rfl) ?_
      refine wD_addo (b := L2.next) (o := 0) rfl ?_
      refine wD_ld (b := L2.next) (o := 0) (v := iv x.sensor) rfl c11.rd rfl ?_
      refine wD_idx (b := sb) (o := 0) (k := ks) (j := x.sensor) rfl rfl hks hk2 ?_
      refine wD_lda (b := sb) (o := 0 + ks * 2) rfl hsd (spc_row hp) ?_
      refine wD_mov (v := .slice (some ⟨yb, 0, none⟩) us.length ycap) rfl ?_
      refine wD_mov (v := iv (i : Int)) rfl ?_
      refine wD_add (a := (i : Int)) (b := 1) rfl rfl ⟨by omega, by omega⟩ ?_
      refine wD_mov (v := .slice (some ⟨yb, 0, none⟩) us.length ycap) rfl ?_
      refine wD_len (m := us.length) rfl ?_
      refine wD_rem (a := (i : Int) + 1) (b := (us.length : Int)) rfl rfl (by omega) (by omega) ⟨by omega, by omega⟩ ⟨by omega, by omega⟩ ?_
      refine wD_idx (b := yb) (o := 0) (k := (i + 1) % us.length) (j := ((i : Int) + 1) % (us.length : Int)) rfl rfl (by rw [Int.natCast_emod]; rfl) (Nat.mod_lt _ hu0) ?_
      refine wD_ld (b := yb) (o := 0 + ((i + 1) % us.length) * 1) (v := .int .u32 ((us.getD ((i + 1) % us.length) 0 : Nat) : Int)) rfl hy (u32_get (Nat.mod_lt _ hu0)) ?_
      obtain ⟨H13, fH13, kH13⟩ := inner_ok (kn := kn) (lo := H12.next) (H := H12) (l := p.1) (h := p.2) (x := us.getD ((i + 1) % us.length) 0) ⟨by omega, by omega, by omega⟩ (u32_le hus _)
      refine wD_callh (vs := [spv p.1 p.2, .int .u32 ((us.getD ((i + 1) % us.length) 0 : Nat) : Int)]) rfl (by kernel_rfl) (callX_args fH13) ?_
      have mH13 := kH13.1
      have hk := hk.trans kH13
      have hy := kH13.rd hy (by simp)
      have c1 := kH13.cl c1 (by simp)
      have c2 := kH13.cl c2 (by simp)
      have ct := kH13.cl ct (by simp)
      have ki := ki.trans kH13
      have kb := kb.trans (kH13.mono (by simp))
      have c12 := kH13.cl c12 (by simp)
      have hrd := kH13.rd hrd (by simp)
      have hsd := kH13.rd hsd (by simp)
      have c11 := kH13.cl c11 (by simp)
      refine wD_add (a := g.cs f us s) (b := inn p.1 p.2 ((us.getD ((i + 1) % us.length) 0 : Nat) : Int)) rfl rfl ⟨by omega, by omega⟩ ?_
      refine wD_addo (b := L2.next) (o := 0) rfl ?_
      refine wD_st (b := L2.next) (o := 2) rfl rfl c11 (by omega) rfl rfl (by simp) ?_
      intro H14 kH14 nH14 sH14
      have mH14 := kH14.1
      have hk := hk.new kH14 (fun b hb => by simp at hb ⊢; omega)
      have hy := kH14.rd hy (by first | (simp; done) | (simp; omega))
      have c1 := kH14.cl c1 (by first | (simp; done) | (simp; omega))
      have c2 := kH14.cl c2 (by first | (simp; done) | (simp; omega))
      have ct := kH14.cl ct (by first | (simp; done) | (simp; omega))
      have ki := ki.new kH14 (fun b hb => by simp at hb ⊢; omega)
      have kb := kb.new kH14 (fun b hb => by simp at hb ⊢; omega)
      have c12 := kH14.cl c12 (by first | (simp; done) | (simp; omega))
      have hrd := kH14.rd hrd (by first | (simp; done) | (simp; omega))
      have hsd := kH14.rd hsd (by first | (simp; done) | (simp; omega))
      have c11 : Cl H14 L2.next [iv x.sensor, iv x.slot, iv ((g.cs f us s) + (inn p.1 p.2 ((us.getD ((i + 1) % us.length) 0 : Nat) : Int)))] := sH14
      refine wD_end (by repeat' first | exact True.intro | exact (fun h => h) | refine And.intro ?_ ?_ | (intro h; have h : (_ : Nat) = _ := h; omega)) ?_
      refine Exists.intro _ (Exists.intro _ (And.intro c11.of (And.intro (show _ = some (iv ((g.cs f us s) + (inn p.1 p.2 ((us.getD ((i + 1) % us.length) 0 : Nat) : Int)))) from rfl) ?_)))
      intro t4 g4; cases t4
      · have g4 : ¬ (((g.cs f us s) + (inn p.1 p.2 ((us.getD ((i + 1) % us.length) 0 : Nat) : Int))) < (-5000)) := of_decide_eq_false g4
        refine Exists.intro _ (Exists.intro _ (And.intro c11.of (And.intro (show _ = some (iv ((g.cs f us s) + (inn p.1 p.2 ((us.getD ((i + 1) % us.length) 0 : Nat) : Int)))) from rfl) ?_)))
        intro t5 g5; cases t5
        · have g5 : ¬ (((g.cs f us s) + (inn p.1 p.2 ((us.getD ((i + 1) % us.length) 0 : Nat) : Int))) > 5000) := of_decide_eq_false g5
          refine And.intro rfl (Exists.intro (.bool false) (And.intro rfl ?_))
          refine condF ?_
          refine Exists.intro _ (Exists.intro _ (And.intro c12.of (And.intro (show _ = some (wv) from rfl) ?_)))
          refine Exists.intro _ (Exists.intro _ (And.intro c11.of (And.intro (show row 3 _ _ = some [iv x.sensor, iv x.slot, iv ((g.cs f us s) + (inn p.1 p.2 ((us.getD ((i + 1) % us.length) 0 : Nat) : Int)))] from rfl) ?_)))
          obtain ⟨H15, hH15⟩ : ∃ H15, H14.new (.cells [iv x.sensor, iv x.slot, iv ((g.cs f us s) + (inn p.1 p.2 ((us.getD ((i + 1) % us.length) 0 : Nat) : Int)))] 57 false) = H15 := ⟨_, rfl⟩
          refine And.intro rfl (Or.inr (And.intro (by kernel_rfl) (Exists.intro _ (Exists.intro H15 (Exists.intro _ (And.intro ((heap_build1 (v := .agg #[iv x.sensor, iv x.slot, iv ((g.cs f us s) + (inn p.1 p.2 ((us.getD ((i + 1) % us.length) 0 : Nat) : Int)))]) se23 z57 rfl rfl rfl (by decide)).trans (by rw [← hH15]; rfl)) (And.intro (fun b e => by cases e) ?_)))))))
          obtain ⟨kH15, nH15, c15⟩ := new_facts hH15; clear hH15
          have c15 : Cl H15 H14.next [iv x.sensor, iv x.slot, iv ((g.cs f us s) + (inn p.1 p.2 ((us.getD ((i + 1) % us.length) 0 : Nat) : Int)))] := c15
          have mH15 := kH15.1
          have hk := hk.trans kH15
          have hy := kH15.rd hy (by simp)
          have c1 := kH15.cl c1 (by simp)
          have c2 := kH15.cl c2 (by simp)
          have ct := kH15.cl ct (by simp)
          have ki := ki.trans kH15
          have kb := kb.trans (kH15.mono (by simp))
          have c12 := kH15.cl c12 (by simp)
          have hrd := kH15.rd hrd (by simp)
          have hsd := kH15.rd hsd (by simp)
          have c11 := kH15.cl c11 (by simp)
          obtain ⟨H16, kdH16, eH16, dH16, aH16, kbH16⟩ := heap_append_below (P := Tryz.prog) (lo := lo) (k := i) (t1 := 23) se23 u23 (c15.sl (Nat.le_refl 1)) rfl (by decide) rfl (by rw [rdc_len, List.length_take, seens_len]; have := v.rl; omega) (by omega) (hacc2.keep ki) (by omega) (by omega)
          refine And.intro rfl (Or.inr (And.intro (by cases wv <;> kernel_rfl) (Exists.intro _ (Exists.intro H16 (Exists.intro _ (And.intro (eH16 _ _ _ _ _ _ _ rfl rfl) (And.intro (reg_ok dH16 _) ?_)))))))
          have kb := kbH16.keep kb (by omega)
          have c12 := kbH16.cl c12 (by omega)
          have mH16 := kbH16.1
          obtain ⟨_, eH17, lH17, gH17⟩ := id c12
          refine Exists.intro _ (Exists.intro _ (Exists.intro _ (And.intro gH17 (And.intro (by omega) (And.intro rfl (And.intro rfl (And.intro (by simp) ?_)))))))
          intro H17 hH17; obtain ⟨kH17, nH17, sH17⟩ := up_facts c12 hH17; clear hH17
          have mH17 := kH17.1
          have kb := kb.new kH17 (fun b hb => by simp at hb ⊢; omega)
          have c12 : Cl H17 L1.next [iv g.slots, iv g.fall, iv g.rise, .slice g.sa g.sn g.scap, .slice (some ⟨H15.next, 0, none⟩) (i + 1) (i + 1)] := sH17
          refine And.intro ⟨by omega, by omega⟩ ?_
          refine ⟨k - 1, (_, i + 1), by omega, ⟨by show i + 1 + (k - 1) = g.rn; omega, kb, c12, ?_, ?_⟩, rfl, rfl, rfl, rfl, rfl, rfl, rfl, rfl, trivial⟩
          · have e : rdc ((g.seens f us).take (i + 1)) = rdc ((g.seens f us).take i) ++ (g.seen f us i x).v := by rw [seens_take hx]; simp [rdc]
            show Acc _ _ _ _ _ (i + 1) (rdc ((g.seens f us).take (i + 1)))
            have ev : (g.seen f us i x).v = [iv x.sensor, iv x.slot, iv (g.cs f us s + inn p.1 p.2 ((us.getD ((i + 1) % us.length) 0 : Nat) : Int))] := by show [iv x.sensor, iv x.slot, iv (g.seen f us i x).value] = _; rw [hseen]
            rw [e, ev]; exact aH16.keepW kH17 (by omega)
          · show ((g.seens f us).take (i + 1)).all (fun r => inB r.value (-5000) 5000) = true
            rw [all_step (seens_get hx), hsh]; simp only [Bool.true_and, inB, Bool.and_eq_true, decide_eq_true_eq]; show -5000 ≤ (g.seen f us i x).value ∧ (g.seen f us i x).value ≤ 5000; rw [hseen]; omega
        · have g5 : ((g.cs f us s) + (inn p.1 p.2 ((us.getD ((i + 1) % us.length) 0 : Nat) : Int))) > 5000 := of_decide_eq_true g5
          refine And.intro rfl (Exists.intro (.bool true) (And.intro rfl ?_))
          refine condT ?_
          have hbad : g.shows f us = false := all_fail (seens_get hx) (by rw [hseen]; simp only [inB, Bool.and_eq_false_iff, decide_eq_false_iff_not]; omega)
          refine wD_seq ?_
          refine wD_lda (b := H.next) (o := 0) rfl c1.rd (show row 5 _ _ = some [iv g.slots, iv g.fall, iv g.rise, .slice g.sa g.sn g.scap, .slice g.ra g.rn g.rcap] from rfl) ?_
          refine wD_mov (v := .slice none 0 0) rfl ?_
          refine wD_sta (b := H1.next) (o := 0) rfl rfl c2 (by omega) rfl rfl (by simp) ?_
          intro H18 kH18 nH18 sH18
          have mH18 := kH18.1
          have hk := hk.new kH18 (fun b hb => by simp at hb ⊢; omega)
          have hy := kH18.rd hy (by first | (simp; done) | (simp; omega))
          have c1 := kH18.cl c1 (by first | (simp; done) | (simp; omega))
          have ct := kH18.cl ct (by first | (simp; done) | (simp; omega))
          have c12 := kH18.cl c12 (by first | (simp; done) | (simp; omega))
          have hrd := kH18.rd hrd (by first | (simp; done) | (simp; omega))
          have hsd := kH18.rd hsd (by first | (simp; done) | (simp; omega))
          have c11 := kH18.cl c11 (by first | (simp; done) | (simp; omega))
          have c2 : Cl H18 H1.next [iv g.slots, iv g.fall, iv g.rise, .slice g.sa g.sn g.scap, .slice g.ra g.rn g.rcap] := sH18
          refine wD_mov (v := .bool false) rfl ?_
          refine wD_end (by repeat' first | exact True.intro | exact (fun h => h) | refine And.intro ?_ ?_ | (intro h; have h : (_ : Nat) = _ := h; omega)) ?_
          exact And.intro trivial (Exists.intro _ (And.intro (res_mid rfl rfl rfl rfl c2) ⟨hk, Or.inl ⟨hbad, rfl⟩⟩))
      · have g4 : ((g.cs f us s) + (inn p.1 p.2 ((us.getD ((i + 1) % us.length) 0 : Nat) : Int))) < (-5000) := of_decide_eq_true g4
        refine And.intro rfl (Exists.intro (.bool true) (And.intro rfl ?_))
        refine condT ?_
        have hbad : g.shows f us = false := all_fail (seens_get hx) (by rw [hseen]; simp only [inB, Bool.and_eq_false_iff, decide_eq_false_iff_not]; omega)
        refine wD_seq ?_
        refine wD_lda (b := H.next) (o := 0) rfl c1.rd (show row 5 _ _ = some [iv g.slots, iv g.fall, iv g.rise, .slice g.sa g.sn g.scap, .slice g.ra g.rn g.rcap] from rfl) ?_
        refine wD_mov (v := .slice none 0 0) rfl ?_
        refine wD_sta (b := H1.next) (o := 0) rfl rfl c2 (by omega) rfl rfl (by simp) ?_
        intro H19 kH19 nH19 sH19
        have mH19 := kH19.1
        have hk := hk.new kH19 (fun b hb => by simp at hb ⊢; omega)
        have hy := kH19.rd hy (by first | (simp; done) | (simp; omega))
        have c1 := kH19.cl c1 (by first | (simp; done) | (simp; omega))
        have ct := kH19.cl ct (by first | (simp; done) | (simp; omega))
        have c12 := kH19.cl c12 (by first | (simp; done) | (simp; omega))
        have hrd := kH19.rd hrd (by first | (simp; done) | (simp; omega))
        have hsd := kH19.rd hsd (by first | (simp; done) | (simp; omega))
        have c11 := kH19.cl c11 (by first | (simp; done) | (simp; omega))
        have c2 : Cl H19 H1.next [iv g.slots, iv g.fall, iv g.rise, .slice g.sa g.sn g.scap, .slice g.ra g.rn g.rcap] := sH19
        refine wD_mov (v := .bool false) rfl ?_
        refine wD_end (by repeat' first | exact True.intro | exact (fun h => h) | refine And.intro ?_ ?_ | (intro h; have h : (_ : Nat) = _ := h; omega)) ?_
        exact And.intro trivial (Exists.intro _ (And.intro (res_mid rfl rfl rfl rfl c2) ⟨hk, Or.inl ⟨hbad, rfl⟩⟩))
    · have q3 : ¬ ((i : Int) < (g.rn : Int)) := of_decide_eq_false q3
      have hin : i = g.rn := by omega
      subst hin
      rw [List.take_of_length_le (by rw [seens_len, v.rl]; exact Nat.le_refl _)] at hacc2 hsh
      have hall : g.shows f us = true := hsh
      obtain ⟨ra2, rc2, rfl, hsl, fge⟩ := hacc2.sl
      refine wD_seq ?_
      refine wD_mov (v := .slice (some ⟨tb, 0, none⟩) g.n g.n) rfl ?_
      refine wD_lda (b := L1.next) (o := 0) rfl c12.rd (show row 5 _ _ = some [iv g.slots, iv g.fall, iv g.rise, .slice g.sa g.sn g.scap, .slice ra2 g.rn rc2] from rfl) ?_
      refine wD_mov (v := .slice (some ⟨tb, 0, none⟩) g.n g.n) rfl ?_
      refine wD_sta (b := H1.next) (o := 0) rfl rfl c2 (by omega) rfl rfl (by simp) ?_
      intro H20 kH20 nH20 sH20
      have mH20 := kH20.1
      have hk := hk.new kH20 (fun b hb => by simp at hb ⊢; omega)
      have hy := kH20.rd hy (by first | (simp; done) | (simp; omega))
      have hs := kH20.sl hs (fun b e => by have := fs b e; first | (simp; done) | (simp; omega))
      have hr := kH20.sl hr (fun b e => by have := fr b e; first | (simp; done) | (simp; omega))
      have c1 := kH20.cl c1 (by first | (simp; done) | (simp; omega))
      have ct := kH20.cl ct (by first | (simp; done) | (simp; omega))
      have c12 := kH20.cl c12 (by first | (simp; done) | (simp; omega))
      have hsl := kH20.sl hsl (fun b e => by have := fge b e; first | (simp; done) | (simp; omega))
      have c2 : Cl H20 H1.next [iv g.slots, iv g.fall, iv g.rise, .slice g.sa g.sn g.scap, .slice ra2 g.rn rc2] := sH20
      refine wD_mov (v := .bool true) rfl ?_
      refine wD_end (by repeat' first | exact True.intro | exact (fun h => h) | refine And.intro ?_ ?_ | (intro h; have h : (_ : Nat) = _ := h; omega)) ?_
      exact And.intro trivial (Exists.intro _ (And.intro (res_mid rfl rfl rfl rfl c2) ⟨hk, Or.inr ⟨hall, tb, _, _, rfl, by omega, ct.rd, hsl⟩⟩))
end
end Go.Ax
/-
  Frost: the law FrostTrue, whatever the input (written by program).
-/
namespace Go.Ax
open Go Go.RowKit Go.Proofs

theorem new_get {H H1 : Hp} {o : Ob} (h : H.new o = H1) : H1.t.get H.next = some o := by
  subst h
  show (H.t.set H.next _).get H.next = _
  rw [Tr.get_set, if_pos rfl]
theorem KeepB.sl {f : Nat} {H H1 : Hp} {a : Option Addr} {n c : Nat} {cs : List Value} (h : KeepB f H H1) (hc : Sl H a n c cs) (hb : ∀ b, a = some ⟨b, 0, none⟩ → b < f) : Sl H1 a n c cs :=
  hc.imp id fun ⟨b, e, r, q⟩ => ⟨b, e, h.rd r (hb b e), q⟩
theorem rdc_app (l : List Rdg) (x : Rdg) : rdc (l ++ [x]) = rdc l ++ x.v := by simp [rdc]
/-- What append has made out of a new block without elements: nothing, or a block that is full. -/
def AccB (b0 lo f : Nat) (e : TypeId) (H : Hp) (v : Value) (n : Nat) (cs : List Value) : Prop :=
  (n = 0 ∧ cs = [] ∧ v = .slice (some ⟨b0, 0, none⟩) 0 0 ∧ b0 < H.next ∧ ∃ e0, H.t.get b0 = some (.cells [] e0 false)) ∨ ∃ b, v = .slice (some ⟨b, 0, none⟩) n n ∧ 0 < n ∧ f ≤ b ∧ lo ≤ b ∧ b < H.next ∧ H.t.get b = some (.cells cs e true)
theorem AccB.keep {b0 lo f : Nat} {e : TypeId} {H H1 : Hp} {v : Value} {n : Nat} {cs : List Value} (h : AccB b0 lo f e H v n cs) (k : Keep H H1 []) : AccB b0 lo f e H1 v n cs :=
  h.imp (fun ⟨h1, h2, h3, h4, e0, h5⟩ => ⟨h1, h2, h3, Nat.lt_of_lt_of_le h4 k.1, e0, by rw [k.2 b0 h4 (by simp)]; exact h5⟩) fun ⟨b, e1, h0, hf, hl, hn, hg⟩ => ⟨b, e1, h0, hf, hl, Nat.lt_of_lt_of_le hn k.1, by rw [k.2 b hn (by simp)]; exact hg⟩
section
variable {P : Program} {lo : Nat}
theorem heap_append_first {H : Hp} {t0 t1 e ep e0 : TypeId} {size m cap b0 f : Nat} {a : Option Addr} {cs : List Value} (he : sliceElem P t0 = some (e, size)) (ht : P.underlying t1 = some (.slice ep)) (hs : Sl H a m cap cs) (hl : cs.length = m * size) (hm : m ≤ 1000) (hz : 0 < size)
    (h0 : H.t.get b0 = some (.cells [] e0 false)) (hb : b0 < H.next) (hlo : lo ≤ H.next) (hf : f ≤ H.next) (hfb : f ≤ b0) :
    ∃ v H1 kd, (∀ (n : Nat) (S : Rg) (d : Option Tmp) (x y : Operand) (ty : TypeId) (p : String), evS S x = some (.slice (some ⟨b0, 0, none⟩) 0 0) → evS S y = some (.slice a m cap) → heapOp P lo (frS n S) H ⟨d, .call ⟨.builtin .append, #[x, y], #[t0, t1]⟩, ty, p, #[], none⟩ = some (.val v H1, kd)) ∧ (kd = .pure ∨ kd = .heavy) ∧
      AccB b0 lo f e H1 v m cs ∧ Keep H H1 [] := by
  rcases Nat.eq_zero_or_pos m with rfl | hp
  · have hc : cs = [] := by cases cs with | nil => rfl | cons _ _ => simp at hl
    exact ⟨_, H, .pure, fun n S d x y ty p hx hy => heap_append_none he ht hx hy hs (by rw [hl]; simp), .inl rfl, .inl ⟨rfl, hc, rfl, hb, e0, h0⟩, Keep.refl _ _⟩
  · exact ⟨_, _, .heavy, fun n S d x y ty p hx hy => heap_append_empty he ht h0 hx hy hs hl (by omega) hp, .inr rfl, .inr ⟨H.next, rfl, hp, hf, hlo, (new_facts rfl).2.2.1, new_get rfl⟩, (new_facts rfl).1⟩
theorem heap_append_next {H : Hp} {t0 t1 e ep : TypeId} {size k cap2 f b0 : Nat} {a : Option Addr} {v : Value} {cs news : List Value} (he : sliceElem P t0 = some (e, size)) (ht : P.underlying t1 = some (.slice ep))
    (hs : Sl H a 1 cap2 news) (hl : news.length = 1 * size) (hz : 0 < size) (hone : news.all one = true) (hcl : cs.length = k * size) (hk : k < 1000) (ha : AccB b0 lo f e H v k cs) (hlo : lo ≤ H.next) (hf : f ≤ H.next) :
    ∃ H1 kd, (∀ (n : Nat) (S : Rg) (d : Option Tmp) (x y : Operand) (ty : TypeId) (p : String), evS S x = some v → evS S y = some (.slice a 1 cap2) → heapOp P lo (frS n S) H ⟨d, .call ⟨.builtin .append, #[x, y], #[t0, t1]⟩, ty, p, #[], none⟩ = some (.val (.slice (some ⟨H.next, 0, none⟩) (k + 1) (k + 1)) H1, kd)) ∧ (kd = .heavy ∨ ∃ b, kd = .store b ∧ f ≤ b) ∧
      Acc lo f e H1 (.slice (some ⟨H.next, 0, none⟩) (k + 1) (k + 1)) (k + 1) (cs ++ news) ∧ KeepB f H H1 := by
  rcases ha with ⟨rfl, rfl, rfl, hb, e0, h0⟩ | ha
  · refine ⟨_, .heavy, fun n S d x y ty p hx hy => heap_append_empty he ht h0 hx hy hs hl (by decide) (by decide), .inl rfl, .inr ⟨H.next, rfl, by omega, hf, hlo, (new_facts rfl).2.2.1, new_get rfl⟩, ?_⟩
    exact ⟨(new_facts rfl).1.1, fun b hb => (new_facts rfl).1.2 b (by omega) (by simp)⟩
  · exact heap_append_below he ht hs hl hz hone hcl hk (.inr ha) hlo hf
end
section
variable {kn : FuncId → Option Bool} {lo : Nat} {H : Hp}
theorem law_true (hkn : kn 16 = some true) {g : Ng} {f : Int} {us : List Nat} {ya : Option Addr} {ycap : Nat} {x : Rdg} (hgn : g.n = g.slots.toNat) (hs : Sl H g.sa g.sn g.scap (spc g.ss)) (hr : Sl H g.ra g.rn g.rcap (rdc g.rs)) (hsn : g.ss.length = g.sn) (hrn : g.rs.length = g.rn)
    (hf : -32768 ≤ f ∧ f ≤ 32767) (hus : ∀ n ∈ us, n ≤ 4294967295) (hu2 : us.length ≤ 9223372036854775807) (hy : Sl H ya us.length ycap (u32s us)) (hlo : lo ≤ H.next) :
    ∃ H', FnX Tryz.prog kn lo 7 [.agg g.v.toArray, .int .i16 f, .slice ya us.length ycap, .agg x.v.toArray] H (.bool true) H' := by
  have key := fnX_low (kn := kn) (lo := lo) (H := H) (args := [.agg g.v.toArray, .int .i16 f, .slice ya us.length ycap, .agg x.v.toArray]) (Q := fun v H' => v = .bool true) Tryz.func7 B7 N7 Z7 L7 (by simp) ?_
  · obtain ⟨v, H', hf, rfl⟩ := key; exact ⟨H', hf⟩
  have al : ∀ (H9 : Hp) (K : Value → Hp → Prop), K (.bool true) H9 → ∃ v H', CallsX Tryz.prog kn lo (.fn (.func 16) #[]) [] H9 v H' ∧ K v H' := fun H9 K h => ⟨_, _, callX_known hkn, h⟩
  have hok1 : g.ok = true → g.slots = (g.n : Int) ∧ 1 ≤ g.n := fun h => by
    have : inB g.slots 1 96 = true := by
      simp only [Ng.ok, Bool.and_eq_true] at h
      exact h.1.1.1.1.1.1
    simp only [inB, Bool.and_eq_true, decide_eq_true_eq] at this
    omega
  have hk := Keep.refl H []
  have fs : ∀ b, g.sa = some ⟨b, 0, none⟩ → b < H.next := hs.old
  have fr : ∀ b, g.ra = some ⟨b, 0, none⟩ → b < H.next := hr.old
  have fy : ∀ b, ya = some ⟨b, 0, none⟩ → b < H.next := hy.old
  intro H1 hH1; obtain ⟨kH1, nH1, c1⟩ := new_facts hH1; clear hH1
  have mH1 := kH1.1
  have hk := hk.trans kH1
  have hy := kH1.sl0 hy
  have hs := kH1.sl0 hs
  have hr := kH1.sl0 hr
  have c1 : Cl H1 H.next [iv g.slots, iv g.fall, iv g.rise, .slice g.sa g.sn g.scap, .slice g.ra g.rn g.rcap] := c1
  intro H2 hH2; obtain ⟨kH2, nH2, c2⟩ := new_facts hH2; clear hH2
  have mH2 := kH2.1
  have hk := hk.trans kH2
  have hy := kH2.sl0 hy
  have hs := kH2.sl0 hs
  have hr := kH2.sl0 hr
  have c1 := kH2.cl c1 (by simp)
  have c2 : Cl H2 H1.next [iv x.sensor, iv x.slot, iv x.value] := c2
  refine Exists.intro _ (Exists.intro _ (And.intro c1.of (And.intro (show row 5 _ _ = some [iv g.slots, iv g.fall, iv g.rise, .slice g.sa g.sn g.scap, .slice g.ra g.rn g.rcap] from rfl) ?_)))
  refine callB (great15_ok) ?_
  intro tH3 H3 hH3 kH3
  have mH3 := kH3.1
  have hk := hk.trans kH3
  have hy := kH3.sl0 hy
  have hs := kH3.sl0 hs
  have hr := kH3.sl0 hr
  have c1 := kH3.cl c1 (by simp)
  have c2 := kH3.cl c2 (by simp)
  cases tH3
  · intro t1 g1; cases t1
    · have g1 : ¬ ((us.length : Int) = 0) := by simpa using g1
      refine And.intro rfl (Exists.intro (.bool false) (And.intro rfl ?_))
      refine Exists.intro _ (Exists.intro _ (And.intro c1.of (And.intro (show row 5 _ _ = some [iv g.slots, iv g.fall, iv g.rise, .slice g.sa g.sn g.scap, .slice g.ra g.rn g.rcap] from rfl) ?_)))
      refine callB (refnight_ok (lo := lo) hs hr hsn hrn (by omega)) ?_
      intro tH4 H4 hH4 kH4
      have mH4 := kH4.1
      have hk := hk.trans kH4
      have hy := kH4.sl0 hy
      have hs := kH4.sl0 hs
      have hr := kH4.sl0 hr
      have c1 := kH4.cl c1 (by simp)
      have c2 := kH4.cl c2 (by simp)
      cases tH4
      · refine And.intro rfl (Exists.intro (.bool true) (And.intro rfl ?_))
        refine And.intro rfl (Exists.intro (.bool true) (And.intro rfl ?_))
        refine condT ?_
        refine al _ _ ?_
        exact And.intro trivial (Exists.intro _ (And.intro rfl rfl))
      · have hok : g.ok = true := hH4
        have hsl := hok1 hok
        have v := Ng.vd hok hsl.1 hsn hrn
        have hsl0 := v.sl; have hrl := v.rl; have hrb := v.r200; have hn96 := v.n96; have hfa := v.f; have hri := v.ri
        rcases hy with ⟨_, h0, _⟩ | ⟨yb, eya, hyr, _⟩
        · omega
        subst eya
        have lty := hyr.lt
        refine And.intro rfl (Exists.intro (.bool false) (And.intro rfl ?_))
        refine And.intro rfl (Exists.intro (.bool false) (And.intro rfl ?_))
        refine condF ?_
        refine Exists.intro _ (Exists.intro _ (And.intro c1.of (And.intro (show row 5 _ _ = some [iv g.slots, iv g.fall, iv g.rise, .slice g.sa g.sn g.scap, .slice g.ra g.rn g.rcap] from rfl) ?_)))
        obtain ⟨wH5, H5, fH5, kH5, hc⟩ := course_runs (kn := kn) (lo := lo) (H := H4) (g := g) (f := f) (us := us) v hsl.2 hf hus (by omega) hu2 hyr hs hr (by omega)
        have mH5 := kH5.1
        have hk := hk.trans kH5
        have hs := kH5.sl0 hs
        have hr := kH5.sl0 hr
        have c1 := kH5.cl c1 (by simp)
        have c2 := kH5.cl c2 (by simp)
        have hyr := kH5.rd hyr (by simp)
        rcases hc with ⟨hsh, rfl⟩ | ⟨hsh, tb, ra, rc, rfl, htb, ct, hsr⟩
        · refine Exists.intro _ (Exists.intro _ (And.intro (callX_args fH5) ?_))
          refine And.intro rfl (Exists.intro (.slice none 0 0) (And.intro (by kernel_rfl) ?_))
          refine And.intro rfl (Exists.intro (.agg g.v.toArray) (And.intro (by kernel_rfl) ?_))
          refine And.intro rfl (Exists.intro (.bool false) (And.intro (by kernel_rfl) ?_))
          intro H6 hH6; obtain ⟨kH6, nH6, c6⟩ := new_facts hH6; clear hH6
          have c6 : Cl H6 H5.next [iv 0, iv 0, iv 0, .slice none 0 0, .slice none 0 0] := c6
          have mH6 := kH6.1
          have hk := hk.trans kH6
          have hs := kH6.sl0 hs
          have hr := kH6.sl0 hr
          have c1 := kH6.cl c1 (by simp)
          have c2 := kH6.cl c2 (by simp)
          have hyr := kH6.rd hyr (by simp)
          obtain ⟨_, eH7, lH7, gH7⟩ := id c6
          refine Exists.intro _ (Exists.intro _ (Exists.intro _ (And.intro gH7 (And.intro (by omega) (And.intro rfl (And.intro rfl (And.intro (by simp) ?_)))))))
          intro H7 hH7; obtain ⟨kH7, nH7, sH7⟩ := up_facts c6 hH7; clear hH7
          have mH7 := kH7.1
          have hk := hk.new kH7 (fun b hb => by simp at hb ⊢; omega)
          have hs := kH7.sl hs (fun b e => by have := fs b e; first | (simp; done) | (simp; omega))
          have hr := kH7.sl hr (fun b e => by have := fr b e; first | (simp; done) | (simp; omega))
          have c1 := kH7.cl c1 (by first | (simp; done) | (simp; omega))
          have c2 := kH7.cl c2 (by first | (simp; done) | (simp; omega))
          have hyr := kH7.rd hyr (by first | (simp; done) | (simp; omega))
          have c6 : Cl H7 H5.next [iv g.slots, iv g.fall, iv g.rise, .slice g.sa g.sn g.scap, .slice g.ra g.rn g.rcap] := sH7
          refine And.intro rfl (Exists.intro (.bool true) (And.intro rfl ?_))
          refine condT ?_
          refine al _ _ ?_
          exact And.intro trivial (Exists.intro _ (And.intro rfl rfl))
        · have ltb := ct.lt; have fsr : ∀ b, ra = some ⟨b, 0, none⟩ → b < H5.next := hsr.old
          refine Exists.intro _ (Exists.intro _ (And.intro (callX_args fH5) ?_))
          refine And.intro rfl (Exists.intro (.slice (some ⟨tb, 0, none⟩) g.n g.n) (And.intro (by kernel_rfl) ?_))
          refine And.intro rfl (Exists.intro (.agg (g.withR ra g.rn rc (g.seens f us)).v.toArray) (And.intro (by kernel_rfl) ?_))
          refine And.intro rfl (Exists.intro (.bool true) (And.intro (by kernel_rfl) ?_))
          intro H8 hH8; obtain ⟨kH8, nH8, c8⟩ := new_facts hH8; clear hH8
          have c8 : Cl H8 H5.next [iv 0, iv 0, iv 0, .slice none 0 0, .slice none 0 0] := c8
          have mH8 := kH8.1
          have hk := hk.trans kH8
          have hs := kH8.sl0 hs
          have hr := kH8.sl0 hr
          have c1 := kH8.cl c1 (by simp)
          have c2 := kH8.cl c2 (by simp)
          have hyr := kH8.rd hyr (by simp)
          have ct := kH8.rd ct (by simp)
          have hsr := kH8.sl0 hsr
          obtain ⟨_, eH9, lH9, gH9⟩ := id c8
          refine Exists.intro _ (Exists.intro _ (Exists.intro _ (And.intro gH9 (And.intro (by omega) (And.intro rfl (And.intro rfl (And.intro (by simp) ?_)))))))
          intro H9 hH9; obtain ⟨kH9, nH9, sH9⟩ := up_facts c8 hH9; clear hH9
          have mH9 := kH9.1
          have hk := hk.new kH9 (fun b hb => by simp at hb ⊢; omega)
          have hs := kH9.sl hs (fun b e => by have := fs b e; first | (simp; done) | (simp; omega))
          have hr := kH9.sl hr (fun b e => by have := fr b e; first | (simp; done) | (simp; omega))
          have c1 := kH9.cl c1 (by first | (simp; done) | (simp; omega))
          have c2 := kH9.cl c2 (by first | (simp; done) | (simp; omega))
          have hyr := kH9.rd hyr (by first | (simp; done) | (simp; omega))
          have ct := kH9.rd ct (by first | (simp; done) | (simp; omega))
          have hsr := kH9.sl hsr (fun b e => by have := fsr b e; first | (simp; done) | (simp; omega))
          have c8 : Cl H9 H5.next [iv g.slots, iv g.fall, iv g.rise, .slice g.sa g.sn g.scap, .slice ra g.rn rc] := sH9
          refine And.intro rfl (Exists.intro (.bool false) (And.intro rfl ?_))
          refine condF ?_
          refine Exists.intro _ (Exists.intro _ (And.intro c8.of (And.intro (show row 5 _ _ = some [iv g.slots, iv g.fall, iv g.rise, .slice g.sa g.sn g.scap, .slice ra g.rn rc] from rfl) ?_)))
          obtain ⟨wH10, H10, fH10, kH10, hc⟩ := tm_ok (kn := kn) (lo := lo) (g := (g.withR ra g.rn rc (g.seens f us))) (H := H9) (fun _ => hsl.1) hs hsr hsn (by show (g.seens f us).length = g.rn; rw [seens_len]; exact hrn) (by omega)
          have mH10 := kH10.1
          have hk := hk.trans kH10
          have hs := kH10.sl0 hs
          have hr := kH10.sl0 hr
          have c1 := kH10.cl c1 (by simp)
          have c2 := kH10.cl c2 (by simp)
          have hyr := kH10.rd hyr (by simp)
          have ct := kH10.rd ct (by simp)
          have hsr := kH10.sl0 hsr
          have c8 := kH10.cl c8 (by simp)
          obtain ⟨hh, b, rfl, lb, cb⟩ : (g.withR ra g.rn rc (g.seens f us)).has = true ∧ ∃ b, wH10 = .tuple #[slv b g.n g.n, iv 0] ∧ H9.next ≤ b ∧ Cl H10 b (spc (g.withR ra g.rn rc (g.seens f us)).spans) := by
            rcases hc with ⟨_, hh, b, rfl, lb, cb⟩ | ⟨_, hh, _⟩ | ⟨hh, _⟩
            · exact ⟨hh, b, rfl, lb, cb⟩
            · rw [course_has v] at hh; cases hh
            · rw [course_ok hok hrl rfl hsh] at hh; cases hh
          have ltb2 := cb.lt
          refine Exists.intro _ (Exists.intro _ (And.intro (callX_args fH10) ?_))
          refine And.intro rfl (Exists.intro (.slice (some ⟨b, 0, none⟩) g.n g.n) (And.intro (by kernel_rfl) ?_))
          refine And.intro rfl (Exists.intro (iv 0) (And.intro (by kernel_rfl) ?_))
          intro t2 g2; obtain rfl : t2 = false := by rw [← g2]; rfl
          refine Exists.intro _ (Exists.intro _ (And.intro c1.of (And.intro (show _ = some (iv g.slots) from rfl) ?_)))
          intro t3 g3; cases t3
          · have g3 : ¬ ((g.n : Int) ≠ g.slots) := by simpa using g3
            refine And.intro rfl (Exists.intro (.bool false) (And.intro rfl ?_))
            refine condF ?_
            refine loop_low (fn := Tryz.f7) E7_1 N7 L7x1 (fun i : Nat => [(4, pt H.next), (7, pt H1.next), (9, .slice (some ⟨tb, 0, none⟩) g.n g.n), (10, pt H5.next), (12, .slice (some ⟨b, 0, none⟩) g.n g.n), (58, .slice (some ⟨b, 0, none⟩) g.n g.n), (59, iv (g.n : Int)), (60, iv (i : Int))])
              (fun k i H' => i + k = g.n ∧ Keep H10 H' []) g.n 0 ⟨by omega, Keep.refl _ _⟩ ⟨rfl, rfl, rfl, rfl, rfl, rfl, rfl, rfl, trivial⟩ ?_
            rintro k i L1 ⟨hik, hki⟩
            have hm := hki.1
            have hk := hk.trans hki
            have hs := hki.sl0 hs
            have hr := hki.sl0 hr
            have c1 := hki.cl c1 (by simp)
            have c2 := hki.cl c2 (by simp)
            have hyr := hki.rd hyr (by simp)
            have ct := hki.rd ct (by simp)
            have hsr := hki.sl0 hsr
            have c8 := hki.cl c8 (by simp)
            have cb := hki.cl cb (by simp)
            have kb := hki
            refine And.intro (fun q4 => ?_) (fun q4 => ?_)
            · have q4 : (i : Int) < (g.n : Int) := of_decide_eq_true q4
              have hn_i : i < g.n := by omega
              have hci := course_in (f := f) (us := us) v (a := ra) (n := g.rn) (c := rc) i
              refine Exists.intro i (And.intro rfl (And.intro hn_i ?_))
              refine Exists.intro _ (Exists.intro _ (And.intro cb.of (And.intro (spc_row ((g.withR ra g.rn rc (g.seens f us)).spans_get i hn_i)) ?_)))
              intro H11 hH11; obtain ⟨kH11, nH11, c11⟩ := new_facts hH11; clear hH11
              have c11 : Cl H11 L1.next [iv 0, iv 0] := c11
              have mH11 := kH11.1
              have hk := hk.trans kH11
              have hs := kH11.sl0 hs
              have hr := kH11.sl0 hr
              have c1 := kH11.cl c1 (by simp)
              have c2 := kH11.cl c2 (by simp)
              have hyr := kH11.rd hyr (by simp)
              have ct := kH11.rd ct (by simp)
              have hsr := kH11.sl0 hsr
              have c8 := kH11.cl c8 (by simp)
              have cb := kH11.cl cb (by simp)
              have kb := kb.trans kH11
              obtain ⟨_, eH12, lH12, gH12⟩ := id c11
              refine Exists.intro _ (Exists.intro _ (Exists.intro _ (And.intro gH12 (And.intro (by omega) (And.intro rfl (And.intro rfl (And.intro (by simp) ?_)))))))
              intro H12 hH12; obtain ⟨kH12, nH12, sH12⟩ := up_facts c11 hH12; clear hH12
              have mH12 := kH12.1
              have hk := hk.new kH12 (fun b hb => by simp at hb ⊢; omega)
              have hs := kH12.sl hs (fun b e => by have := fs b e; first | (simp; done) | (simp; omega))
              have hr := kH12.sl hr (fun b e => by have := fr b e; first | (simp; done) | (simp; omega))
              have c1 := kH12.cl c1 (by first | (simp; done) | (simp; omega))
              have c2 := kH12.cl c2 (by first | (simp; done) | (simp; omega))
              have hyr := kH12.rd hyr (by first | (simp; done) | (simp; omega))
              have ct := kH12.rd ct (by first | (simp; done) | (simp; omega))
              have hsr := kH12.sl hsr (fun b e => by have := fsr b e; first | (simp; done) | (simp; omega))
              have c8 := kH12.cl c8 (by first | (simp; done) | (simp; omega))
              have cb := kH12.cl cb (by first | (simp; done) | (simp; omega))
              have kb := kb.new kH12 (fun b hb => by simp at hb ⊢; omega)
              have c11 : Cl H12 L1.next [iv ((g.withR ra g.rn rc (g.seens f us)).least i), iv ((g.withR ra g.rn rc (g.seens f us)).great i)] := sH12
              refine wD_seq ?_
              refine wD_mov (v := .slice (some ⟨tb, 0, none⟩) g.n g.n) rfl ?_
              refine wD_mov (v := iv (i : Int)) rfl ?_
              refine wD_idx (b := tb) (o := 0) (k := i) (j := (i : Int)) rfl rfl rfl hn_i ?_
              refine wD_ld (b := tb) (o := 0 + i * 1) (v := iv (g.cs f us i)) rfl ct (ints_at (cs_get (by omega))) ?_
              refine wD_addo (b := L1.next) (o := 0) rfl ?_
              refine wD_ld (b := L1.next) (o := 0) (v := iv ((g.withR ra g.rn rc (g.seens f us)).least i)) rfl c11.rd rfl ?_
              refine wD_lss (a := g.cs f us i) (b := (g.withR ra g.rn rc (g.seens f us)).least i) false rfl rfl (decide_eq_false (by omega)) ?_
              refine wD_mov (v := .bool false) rfl ?_
              refine wD_g rfl (wD_mov (v := .slice (some ⟨tb, 0, none⟩) g.n g.n) rfl ?_)
              refine wD_g rfl (wD_mov (v := iv (i : Int)) rfl ?_)
              refine wD_g rfl (wD_idx (b := tb) (o := 0) (k := i) (j := (i : Int)) rfl rfl rfl hn_i ?_)
              refine wD_g rfl (wD_ld (b := tb) (o := 0 + i * 1) (v := iv (g.cs f us i)) rfl ct (ints_at (cs_get (by omega))) ?_)
              refine wD_g rfl (wD_addo (b := L1.next) (o := 0) rfl ?_)
              refine wD_g rfl (wD_ld (b := L1.next) (o := 1) (v := iv ((g.withR ra g.rn rc (g.seens f us)).great i)) rfl c11.rd rfl ?_)
              refine wD_g rfl (wD_gtr (a := g.cs f us i) (b := (g.withR ra g.rn rc (g.seens f us)).great i) false rfl rfl (decide_eq_false (by omega)) ?_)
              refine wD_pur (v := .bool false) rfl rfl ?_
              refine wD_end (by repeat' first | exact True.intro | exact (fun h => h) | refine And.intro ?_ ?_ | (intro h; have h : (_ : Nat) = _ := h; omega)) ?_
              refine condF ?_
              refine And.intro ⟨by omega, by omega⟩ ?_
              exact ⟨k - 1, i + 1, by omega, ⟨by omega, kb⟩, rfl, rfl, rfl, rfl, rfl, rfl, rfl, rfl, trivial⟩
            · have q4 : ¬ ((i : Int) < (g.n : Int)) := of_decide_eq_false q4
              refine wD_seq ?_
              obtain ⟨H13, hH13⟩ : ∃ H13, L1.new (.cells [] 57 false) = H13 := ⟨_, rfl⟩
              refine wD_memh (H' := H13) (k := .heavy) rfl (by kernel_rfl) ((heap_build0 se23 z57).trans (by rw [hH13])) (fun b e => by cases e) ?_
              have g82 := new_get hH13
              obtain ⟨kH13, nH13, _⟩ := new_facts hH13; clear hH13
              have mH13 := kH13.1
              have hk := hk.trans kH13
              have hs := kH13.sl0 hs
              have hr := kH13.sl0 hr
              have c1 := kH13.cl c1 (by simp)
              have c2 := kH13.cl c2 (by simp)
              have hyr := kH13.rd hyr (by simp)
              have ct := kH13.rd ct (by simp)
              have hsr := kH13.sl0 hsr
              have c8 := kH13.cl c8 (by simp)
              have cb := kH13.cl cb (by simp)
              refine wD_addo (b := H5.next) (o := 0) rfl ?_
              refine wD_ld (b := H5.next) (o := 4) (v := .slice ra g.rn rc) rfl c8.rd rfl ?_
              obtain ⟨v85, H14, kd85, e85, d85, a85, kH14⟩ := heap_append_first (P := Tryz.prog) (lo := lo) (t1 := 23) (f := L1.next) se23 u23 hsr (by rw [rdc_len, seens_len, hrn]) (by omega) (by decide) g82 (by omega) (by omega) (by omega) (by omega)
              refine wD_memh rfl (by cases ra <;> kernel_rfl) (e85 _ _ _ _ _ _ _ rfl rfl) (by rcases d85 with rfl | rfl <;> intro b e <;> cases e) ?_
              have mH14 := kH14.1
              have hk := hk.trans kH14
              have hs := kH14.sl0 hs
              have hr := kH14.sl0 hr
              have c1 := kH14.cl c1 (by simp)
              have c2 := kH14.cl c2 (by simp)
              have hyr := kH14.rd hyr (by simp)
              have ct := kH14.rd ct (by simp)
              have hsr := kH14.sl0 hsr
              have c8 := kH14.cl c8 (by simp)
              have cb := kH14.cl cb (by simp)
              refine wD_lda (b := H1.next) (o := 0) rfl c2.rd (show row 3 _ _ = some [iv x.sensor, iv x.slot, iv x.value] from rfl) ?_
              obtain ⟨H15, hH15⟩ : ∃ H15, H14.new (.cells [iv x.sensor, iv x.slot, iv x.value] 57 false) = H15 := ⟨_, rfl⟩
              refine wD_memh (H' := H15) (k := .heavy) rfl (by kernel_rfl) ((heap_build1 (v := .agg #[iv x.sensor, iv x.slot, iv x.value]) se23 z57 rfl rfl rfl (by decide)).trans (by rw [← hH15]; rfl)) (fun b e => by cases e) ?_
              obtain ⟨kH15, nH15, c15⟩ := new_facts hH15; clear hH15
              have c15 : Cl H15 H14.next [iv x.sensor, iv x.slot, iv x.value] := c15
              have mH15 := kH15.1
              have hk := hk.trans kH15
              have hs := kH15.sl0 hs
              have hr := kH15.sl0 hr
              have c1 := kH15.cl c1 (by simp)
              have c2 := kH15.cl c2 (by simp)
              have hyr := kH15.rd hyr (by simp)
              have ct := kH15.rd ct (by simp)
              have hsr := kH15.sl0 hsr
              have c8 := kH15.cl c8 (by simp)
              have cb := kH15.cl cb (by simp)
              obtain ⟨H16, kd88, e88, d88, a88, kbH16⟩ := heap_append_next (P := Tryz.prog) (lo := lo) (t1 := 23) se23 u23 (c15.sl (Nat.le_refl 1)) rfl (by decide) rfl (by rw [rdc_len, seens_len, hrn]) (by omega) (a85.keep kH15) (by omega) (by omega)
              refine wD_memh rfl (by cases v85 <;> kernel_rfl) (e88 _ _ _ _ _ _ _ rfl rfl) (reg_ok d88 _) ?_
              have hk := kbH16.keep hk (by omega)
              have hs := kbH16.sl hs (fun b e => by have := fs b e; omega)
              have hr := kbH16.sl hr (fun b e => by have := fr b e; omega)
              have c1 := kbH16.cl c1 (by omega)
              have c2 := kbH16.cl c2 (by omega)
              have hyr := kbH16.rd hyr (by omega)
              have ct := kbH16.rd ct (by omega)
              have hsr := kbH16.sl hsr (fun b e => by have := fsr b e; omega)
              have c8 := kbH16.cl c8 (by omega)
              have cb := kbH16.cl cb (by omega)
              have mH16 := kbH16.1
              obtain ⟨hnew, hnewb⟩ : Sl H16 (some ⟨H15.next, 0, none⟩) (g.rn + 1) (g.rn + 1) (rdc (g.seens f us ++ [x])) ∧ H15.next < H16.next := by
                obtain ⟨a, c, e, q, _⟩ := a88.sl; cases e; rw [rdc_app]; refine ⟨q, ?_⟩
                exact q.old _ rfl
              have fnew : ∀ b, (some ⟨H15.next, 0, none⟩ : Option Addr) = some ⟨b, 0, none⟩ → L1.next ≤ b ∧ b < H16.next := fun b e => by cases e; omega
              refine wD_addo (b := H5.next) (o := 0) rfl ?_
              refine wD_st (b := H5.next) (o := 4) rfl rfl c8 (by omega) rfl rfl (by simp) ?_
              intro H17 kH17 nH17 sH17
              have mH17 := kH17.1
              have hk := hk.new kH17 (fun b hb => by simp at hb ⊢; omega)
              have hs := kH17.sl hs (fun b e => by have := fs b e; first | (simp; done) | (simp; omega))
              have hr := kH17.sl hr (fun b e => by have := fr b e; first | (simp; done) | (simp; omega))
              have c1 := kH17.cl c1 (by first | (simp; done) | (simp; omega))
              have c2 := kH17.cl c2 (by first | (simp; done) | (simp; omega))
              have hyr := kH17.rd hyr (by first | (simp; done) | (simp; omega))
              have ct := kH17.rd ct (by first | (simp; done) | (simp; omega))
              have hsr := kH17.sl hsr (fun b e => by have := fsr b e; first | (simp; done) | (simp; omega))
              have cb := kH17.cl cb (by first | (simp; done) | (simp; omega))
              have hnew := kH17.sl hnew (fun b e => by have := fnew b e; first | (simp; done) | (simp; omega))
              have c8 : Cl H17 H5.next [iv g.slots, iv g.fall, iv g.rise, .slice g.sa g.sn g.scap, .slice (some ⟨H15.next, 0, none⟩) (g.rn + 1) (g.rn + 1)] := sH17
              refine wD_end (by rcases d85 with rfl | rfl <;> rcases d88 with rfl | ⟨b88, rfl, hb88⟩ <;> repeat' first | exact True.intro | exact (fun h => h) | refine And.intro ?_ ?_ | (intro h; have h : (_ : Nat) = _ := h; omega)) ?_
              refine Exists.intro _ (Exists.intro _ (And.intro c8.of (And.intro (show row 5 _ _ = some [iv g.slots, iv g.fall, iv g.rise, .slice g.sa g.sn g.scap, .slice (some ⟨H15.next, 0, none⟩) (g.rn + 1) (g.rn + 1)] from rfl) ?_)))
              obtain ⟨wH18, H18, fH18, kH18, hc⟩ := tm_ok (kn := kn) (lo := lo) (g := (g.withR (some ⟨H15.next, 0, none⟩) (g.rn + 1) (g.rn + 1) (g.seens f us ++ [x]))) (H := H17) (fun _ => hsl.1) hs hnew hsn (by show (g.seens f us ++ [x]).length = g.rn + 1; rw [List.length_append, seens_len, hrn]; rfl) (by omega)
              have mH18 := kH18.1
              have hk := hk.trans kH18
              have hs := kH18.sl0 hs
              have hr := kH18.sl0 hr
              have c1 := kH18.cl c1 (by simp)
              have c2 := kH18.cl c2 (by simp)
              have hyr := kH18.rd hyr (by simp)
              have ct := kH18.rd ct (by simp)
              have hsr := kH18.sl0 hsr
              have cb := kH18.cl cb (by simp)
              have hnew := kH18.sl0 hnew
              have c8 := kH18.cl c8 (by simp)
              rcases hc with ⟨_, hh2, b2, rfl, lb2, cb2⟩ | ⟨_, _, rfl⟩ | ⟨_, rfl⟩
              · have ltb3 := cb2.lt
                refine Exists.intro _ (Exists.intro _ (And.intro (callX_args fH18) ?_))
                refine And.intro rfl (Exists.intro (.slice (some ⟨b2, 0, none⟩) g.n g.n) (And.intro (by kernel_rfl) ?_))
                refine And.intro rfl (Exists.intro (iv 0) (And.intro (by kernel_rfl) ?_))
                refine condF ?_
                refine Exists.intro _ (Exists.intro _ (And.intro c1.of (And.intro (show _ = some (iv g.slots) from rfl) ?_)))
                refine And.intro (fun q5 => ?_) (fun q5 => ?_)
                · have q5 : (g.n : Int) ≠ g.slots := by simpa using q5
                  exact absurd v.sl.symm q5
                · have q5 : ¬ ((g.n : Int) ≠ g.slots) := by simpa using q5
                  refine loop_low (fn := Tryz.f7) E7_2 N7 L7x2 (fun i : Nat => [(12, .slice (some ⟨b, 0, none⟩) g.n g.n), (111, .slice (some ⟨b2, 0, none⟩) g.n g.n), (112, iv (g.n : Int)), (113, iv (i : Int))])
                    (fun k i H' => i + k = g.n ∧ Keep H18 H' []) g.n 0 ⟨by omega, Keep.refl _ _⟩ ⟨rfl, rfl, rfl, rfl, trivial⟩ ?_
                  rintro k i L2 ⟨hik, hki⟩
                  have hm := hki.1
                  have hk := hk.trans hki
                  have hs := hki.sl0 hs
                  have hr := hki.sl0 hr
                  have c1 := hki.cl c1 (by simp)
                  have c2 := hki.cl c2 (by simp)
                  have hyr := hki.rd hyr (by simp)
                  have ct := hki.rd ct (by simp)
                  have hsr := hki.sl0 hsr
                  have cb := hki.cl cb (by simp)
                  have hnew := hki.sl0 hnew
                  have c8 := hki.cl c8 (by simp)
                  have cb2 := hki.cl cb2 (by simp)
                  have kb := hki
                  refine And.intro (fun q6 => ?_) (fun q6 => ?_)
                  · have q6 : (i : Int) < (g.n : Int) := of_decide_eq_true q6
                    have hn_i : i < g.n := by omega
                    have hmo := more_least (g := g) (a := ra) (b := (some ⟨H15.next, 0, none⟩)) (n := g.rn) (c := rc) (m := g.rn + 1) (d := g.rn + 1) (l := g.seens f us) (x := x) i
                    have hle := has_le hh2 hn_i
                    refine Exists.intro i (And.intro rfl (And.intro hn_i ?_))
                    refine Exists.intro _ (Exists.intro _ (And.intro cb2.of (And.intro (spc_row ((g.withR (some ⟨H15.next, 0, none⟩) (g.rn + 1) (g.rn + 1) (g.seens f us ++ [x])).spans_get i hn_i)) ?_)))
                    intro H19 hH19; obtain ⟨kH19, nH19, c19⟩ := new_facts hH19; clear hH19
                    have c19 : Cl H19 L2.next [iv 0, iv 0] := c19
                    have mH19 := kH19.1
                    have hk := hk.trans kH19
                    have hs := kH19.sl0 hs
                    have hr := kH19.sl0 hr
                    have c1 := kH19.cl c1 (by simp)
                    have c2 := kH19.cl c2 (by simp)
                    have hyr := kH19.rd hyr (by simp)
                    have ct := kH19.rd ct (by simp)
                    have hsr := kH19.sl0 hsr
                    have cb := kH19.cl cb (by simp)
                    have hnew := kH19.sl0 hnew
                    have c8 := kH19.cl c8 (by simp)
                    have cb2 := kH19.cl cb2 (by simp)
                    have kb := kb.trans kH19
                    obtain ⟨_, eH20, lH20, gH20⟩ := id c19
                    refine Exists.intro _ (Exists.intro _ (Exists.intro _ (And.intro gH20 (And.intro (by omega) (And.intro rfl (And.intro rfl (And.intro (by simp) ?_)))))))
                    intro H20 hH20; obtain ⟨kH20, nH20, sH20⟩ := up_facts c19 hH20; clear hH20
                    have mH20 := kH20.1
                    have hk := hk.new kH20 (fun b hb => by simp at hb ⊢; omega)
                    have hs := kH20.sl hs (fun b e => by have := fs b e; first | (simp; done) | (simp; omega))
                    have hr := kH20.sl hr (fun b e => by have := fr b e; first | (simp; done) | (simp; omega))
                    have c1 := kH20.cl c1 (by first | (simp; done) | (simp; omega))
                    have c2 := kH20.cl c2 (by first | (simp; done) | (simp; omega))
                    have hyr := kH20.rd hyr (by first | (simp; done) | (simp; omega))
                    have ct := kH20.rd ct (by first | (simp; done) | (simp; omega))
                    have hsr := kH20.sl hsr (fun b e => by have := fsr b e; first | (simp; done) | (simp; omega))
                    have cb := kH20.cl cb (by first | (simp; done) | (simp; omega))
                    have hnew := kH20.sl hnew (fun b e => by have := fnew b e; first | (simp; done) | (simp; omega))
                    have c8 := kH20.cl c8 (by first | (simp; done) | (simp; omega))
                    have cb2 := kH20.cl cb2 (by first | (simp; done) | (simp; omega))
                    have kb := kb.new kH20 (fun b hb => by simp at hb ⊢; omega)
                    have c19 : Cl H20 L2.next [iv ((g.withR (some ⟨H15.next, 0, none⟩) (g.rn + 1) (g.rn + 1) (g.seens f us ++ [x])).least i), iv ((g.withR (some ⟨H15.next, 0, none⟩) (g.rn + 1) (g.rn + 1) (g.seens f us ++ [x])).great i)] := sH20
                    refine wD_seq ?_
                    refine wD_addo (b := L2.next) (o := 0) rfl ?_
                    refine wD_ld (b := L2.next) (o := 0) (v := iv ((g.withR (some ⟨H15.next, 0, none⟩) (g.rn + 1) (g.rn + 1) (g.seens f us ++ [x])).least i)) rfl c19.rd rfl ?_
                    refine wD_mov (v := .slice (some ⟨b, 0, none⟩) g.n g.n) rfl ?_
                    refine wD_mov (v := iv (i : Int)) rfl ?_
                    refine wD_idx (b := b) (o := 0) (k := i) (j := (i : Int)) rfl rfl rfl hn_i ?_
                    refine wD_addo (b := b) (o := 0 + i * 2) rfl ?_
                    refine wD_ld (b := b) (o := 0 + i * 2) (v := iv ((g.withR ra g.rn rc (g.seens f us)).least i)) rfl cb.rd (span_get ((g.withR ra g.rn rc (g.seens f us)).spans_get i hn_i)).1 ?_
                    refine wD_lss (a := (g.withR (some ⟨H15.next, 0, none⟩) (g.rn + 1) (g.rn + 1) (g.seens f us ++ [x])).least i) (b := (g.withR ra g.rn rc (g.seens f us)).least i) false rfl rfl (decide_eq_false (by omega)) ?_
                    refine wD_mov (v := .bool false) rfl ?_
                    refine wD_g rfl (wD_addo (b := L2.next) (o := 0) rfl ?_)
                    refine wD_g rfl (wD_ld (b := L2.next) (o := 1) (v := iv ((g.withR (some ⟨H15.next, 0, none⟩) (g.rn + 1) (g.rn + 1) (g.seens f us ++ [x])).great i)) rfl c19.rd rfl ?_)
                    refine wD_g rfl (wD_mov (v := .slice (some ⟨b, 0, none⟩) g.n g.n) rfl ?_)
                    refine wD_g rfl (wD_mov (v := iv (i : Int)) rfl ?_)
                    refine wD_g rfl (wD_idx (b := b) (o := 0) (k := i) (j := (i : Int)) rfl rfl rfl hn_i ?_)
                    refine wD_g rfl (wD_addo (b := b) (o := 0 + i * 2) rfl ?_)
                    refine wD_g rfl (wD_ld (b := b) (o := 0 + i * 2 + 1) (v := iv ((g.withR ra g.rn rc (g.seens f us)).great i)) rfl cb.rd (span_get ((g.withR ra g.rn rc (g.seens f us)).spans_get i hn_i)).2 ?_)
                    refine wD_g rfl (wD_gtr (a := (g.withR (some ⟨H15.next, 0, none⟩) (g.rn + 1) (g.rn + 1) (g.seens f us ++ [x])).great i) (b := (g.withR ra g.rn rc (g.seens f us)).great i) false rfl rfl (decide_eq_false (by omega)) ?_)
                    refine wD_pur (v := .bool false) rfl rfl ?_
                    refine wD_mov (v := .bool false) rfl ?_
                    refine wD_g rfl (wD_addo (b := L2.next) (o := 0) rfl ?_)
                    refine wD_g rfl (wD_ld (b := L2.next) (o := 0) (v := iv ((g.withR (some ⟨H15.next, 0, none⟩) (g.rn + 1) (g.rn + 1) (g.seens f us ++ [x])).least i)) rfl c19.rd rfl ?_)
                    refine wD_g rfl (wD_addo (b := L2.next) (o := 0) rfl ?_)
                    refine wD_g rfl (wD_ld (b := L2.next) (o := 1) (v := iv ((g.withR (some ⟨H15.next, 0, none⟩) (g.rn + 1) (g.rn + 1) (g.seens f us ++ [x])).great i)) rfl c19.rd rfl ?_)
                    refine wD_g rfl (wD_gtr (a := (g.withR (some ⟨H15.next, 0, none⟩) (g.rn + 1) (g.rn + 1) (g.seens f us ++ [x])).least i) (b := (g.withR (some ⟨H15.next, 0, none⟩) (g.rn + 1) (g.rn + 1) (g.seens f us ++ [x])).great i) false rfl rfl (decide_eq_false (by omega)) ?_)
                    refine wD_pur (v := .bool false) rfl rfl ?_
                    refine wD_end (by repeat' first | exact True.intro | exact (fun h => h) | refine And.intro ?_ ?_ | (intro h; have h : (_ : Nat) = _ := h; omega)) ?_
                    refine condF ?_
                    refine And.intro ⟨by omega, by omega⟩ ?_
                    exact ⟨k - 1, i + 1, by omega, ⟨by omega, kb⟩, rfl, rfl, rfl, rfl, trivial⟩
                  · have q6 : ¬ ((i : Int) < (g.n : Int)) := of_decide_eq_false q6
                    refine al _ _ ?_
                    exact And.intro trivial (Exists.intro _ (And.intro rfl rfl))
              · refine Exists.intro _ (Exists.intro _ (And.intro (callX_args fH18) ?_))
                refine And.intro rfl (Exists.intro (.slice none 0 0) (And.intro (by kernel_rfl) ?_))
                refine And.intro rfl (Exists.intro (iv 6) (And.intro (by kernel_rfl) ?_))
                refine condT ?_
                intro t7 g7; obtain rfl : t7 = false := by rw [← g7]; rfl
                intro t8 g8; obtain rfl : t8 = true := by rw [← g8]; rfl
                refine And.intro rfl (Exists.intro (.bool true) (And.intro rfl ?_))
                refine al _ _ ?_
                refine And.intro rfl (Exists.intro (.bool true) (And.intro rfl ?_))
                exact And.intro trivial (Exists.intro _ (And.intro rfl rfl))
              · refine Exists.intro _ (Exists.intro _ (And.intro (callX_args fH18) ?_))
                refine And.intro rfl (Exists.intro (.slice none 0 0) (And.intro (by kernel_rfl) ?_))
                refine And.intro rfl (Exists.intro (iv 1) (And.intro (by kernel_rfl) ?_))
                refine condT ?_
                intro t9 g9; obtain rfl : t9 = true := by rw [← g9]; rfl
                refine And.intro rfl (Exists.intro (.bool true) (And.intro rfl ?_))
                refine al _ _ ?_
                refine And.intro rfl (Exists.intro (.bool true) (And.intro rfl ?_))
                exact And.intro trivial (Exists.intro _ (And.intro rfl rfl))
          · have g3 : (g.n : Int) ≠ g.slots := by simpa using g3
            exact absurd v.sl.symm g3
    · have g1 : (us.length : Int) = 0 := by simpa using g1
      refine And.intro rfl (Exists.intro (.bool true) (And.intro rfl ?_))
      refine And.intro rfl (Exists.intro (.bool true) (And.intro rfl ?_))
      refine condT ?_
      refine al _ _ ?_
      exact And.intro trivial (Exists.intro _ (And.intro rfl rfl))
  · refine And.intro rfl (Exists.intro (.bool true) (And.intro rfl ?_))
    refine And.intro rfl (Exists.intro (.bool true) (And.intro rfl ?_))
    refine condT ?_
    refine al _ _ ?_
    exact And.intro trivial (Exists.intro _ (And.intro rfl rfl))
end
end Go.Ax

import Derived.Test.YtjgpbiobacjobaaGreatAxW8
import Derived.Test.YtjgpbiobacjobaaGreatRa
import Derived.Test.YtjgpbiobacjobaaGreatChecked
import Derived.Test.YtjgpbiobacjobaaGreatTc
set_option linter.all false
/-! What 'low' makes of FrostTemps and what it calls (written by program). -/
namespace Go.Ax
open Go Go.RowKit Go.Proofs
theorem N18 : Tryz.f18.ntmps = 17 := by kernel_rfl
theorem Z18 : Tryz.f18.results.toList = ((List.toArray [(.tmp 2), (.tmp 3)]) : Array ResultVar).toList := by kernel_rfl
theorem B18 : Tryz.f18.body = some (at_ Tryz.f18 []) := by kernel_rfl
noncomputable def R18 : RC := (.seq (.reg [⟨(some 1), none, (.box 25 (.tmp 0))⟩, ⟨(some 2), none, (.mov (.const (.slice none 0 0)))⟩, ⟨(some 3), none, (.mov (.const (.int .i64 0)))⟩])
  (.seq (.seq (.reg [⟨(some 6), none, (.lda (.tmp 1) 5)⟩, ⟨(some 7), none, (.call ⟨(.value (.func 32)), (List.toArray [(.tmp 6)]), (List.toArray [25])⟩ true)⟩, ⟨(some 8), none, (.pur ⟨(some 8), (.unOp .not 4 (.tmp 7)), 4, "", (List.toArray []), none⟩)⟩])
  (.cond (.tmp 8) (.seq (.reg [⟨(some 2), none, (.mov (.const (.slice none 0 0)))⟩, ⟨(some 3), none, (.mov (.const (.int .i64 1)))⟩])
  .ret)
  .skip))
  (.seq (.reg [⟨(some 10), none, (.lda (.tmp 1) 5)⟩, ⟨(some 11), none, (.call ⟨(.value (.func 41)), (List.toArray [(.tmp 10)]), (List.toArray [25])⟩ true)⟩, ⟨(some 9), none, (.mov (.tmp 11))⟩, ⟨(some 12), none, (.pur ⟨(some 12), (.extract (.tmp 9) 0), 22, "", (List.toArray []), none⟩)⟩, ⟨(some 13), none, (.pur ⟨(some 13), (.extract (.tmp 9) 1), 4, "", (List.toArray []), none⟩)⟩, ⟨(some 4), none, (.mov (.tmp 12))⟩, ⟨(some 5), none, (.mov (.tmp 13))⟩])
  (.seq (.seq (.reg [⟨(some 14), none, (.mov (.tmp 5))⟩, ⟨(some 15), none, (.pur ⟨(some 15), (.unOp .not 4 (.tmp 14)), 4, "", (List.toArray []), none⟩)⟩])
  (.cond (.tmp 15) (.seq (.reg [⟨(some 2), none, (.mov (.const (.slice none 0 0)))⟩, ⟨(some 3), none, (.mov (.const (.int .i64 6)))⟩])
  .ret)
  .skip))
  (.seq (.reg [⟨(some 16), none, (.mov (.tmp 4))⟩, ⟨(some 2), none, (.mov (.tmp 16))⟩, ⟨(some 3), none, (.mov (.const (.int .i64 0)))⟩])
  .ret)))))
theorem L18 : low Tryz.prog Tryz.f18.ntmps (at_ Tryz.f18 []) = some R18 := by kernel_rfl
theorem N19 : Tryz.f19.ntmps = 61 := by kernel_rfl
theorem Z19 : Tryz.f19.results.toList = ((List.toArray [(.cell 10 3), (.cell 11 28)]) : Array ResultVar).toList := by kernel_rfl
theorem B19 : Tryz.f19.body = some (at_ Tryz.f19 []) := by kernel_rfl
noncomputable def R19 : RC := (.seq (.reg [⟨(some 5), none, (.box 25 (.tmp 0))⟩, ⟨(some 8), none, (.box 3 (.tmp 3))⟩, ⟨(some 9), none, (.box 3 (.tmp 4))⟩, ⟨(some 10), none, (.alc 3 [(.int .i64 0)])⟩, ⟨(some 11), none, (.alc 28 [(.int .i64 0)])⟩])
  (.seq (.reg [⟨(some 17), none, (.lda (.tmp 5) 5)⟩, ⟨(some 18), none, (.call ⟨(.value (.func 17)), (List.toArray [(.tmp 17)]), (List.toArray [25])⟩ true)⟩, ⟨(some 16), none, (.mov (.tmp 18))⟩, ⟨(some 19), none, (.pur ⟨(some 19), (.extract (.tmp 16) 0), 22, "", (List.toArray []), none⟩)⟩, ⟨(some 20), none, (.pur ⟨(some 20), (.extract (.tmp 16) 1), 28, "", (List.toArray []), none⟩)⟩, ⟨(some 12), none, (.alc 22 [(.slice none 0 0)])⟩, ⟨none, none, (.st (.tmp 12) (.tmp 19))⟩, ⟨(some 13), none, (.mov (.tmp 20))⟩])
  (.seq (.seq (.reg [⟨(some 21), none, (.mov (.tmp 13))⟩, ⟨(some 22), none, (.cmp .neq (.tmp 21) (.const (.int .i64 0)))⟩])
  (.cond (.tmp 22) (.seq (.reg [⟨(some 23), none, (.mov (.tmp 13))⟩, ⟨none, none, (.st (.tmp 10) (.const (.int .i64 0)))⟩, ⟨none, none, (.st (.tmp 11) (.tmp 23))⟩])
  .ret)
  .skip))
  (.seq (.seq (.reg [⟨(some 24), none, (.mov (.tmp 1))⟩, ⟨(some 25), none, (.mov (.tmp 2))⟩, ⟨(some 26), none, (.call ⟨(.value (.func 42)), (List.toArray [(.tmp 24), (.const (.int .i64 0)), (.tmp 25)]), (List.toArray [3, 3, 3])⟩ true)⟩, ⟨(some 27), none, (.pur ⟨(some 27), (.unOp .not 4 (.tmp 26)), 4, "", (List.toArray []), none⟩)⟩, ⟨(some 28), none, (.mov (.tmp 27))⟩, ⟨(some 29), (some (28, false)), (.mov (.tmp 2))⟩, ⟨(some 30), (some (28, false)), (.addo (.tmp 5) 0)⟩, ⟨(some 31), (some (28, false)), (.ld (.tmp 30) 1)⟩, ⟨(some 32), (some (28, false)), (.cmpb .geq (.tmp 29) (.tmp 31))⟩, ⟨(some 33), none, (.pur ⟨(some 33), (.pick (.tmp 28) (.const (.bool true)) (.tmp 32)), 4, "", (List.toArray []), none⟩)⟩, ⟨(some 34), none, (.mov (.tmp 33))⟩, ⟨(some 35), (some (34, false)), (.ld (.tmp 8) 1)⟩, ⟨(some 36), (some (34, false)), (.call ⟨(.value (.func 43)), (List.toArray [(.tmp 35)]), (List.toArray [3])⟩ true)⟩, ⟨(some 37), (some (34, false)), (.pur ⟨(some 37), (.unOp .not 4 (.tmp 36)), 4, "", (List.toArray []), none⟩)⟩, ⟨(some 38), none, (.pur ⟨(some 38), (.pick (.tmp 34) (.const (.bool true)) (.tmp 37)), 4, "", (List.toArray []), none⟩)⟩, ⟨(some 39), none, (.mov (.tmp 38))⟩, ⟨(some 40), (some (39, false)), (.ld (.tmp 9) 1)⟩, ⟨(some 41), (some (39, false)), (.call ⟨(.value (.func 43)), (List.toArray [(.tmp 40)]), (List.toArray [3])⟩ true)⟩, ⟨(some 42), (some (39, false)), (.pur ⟨(some 42), (.unOp .not 4 (.tmp 41)), 4, "", (List.toArray []), none⟩)⟩, ⟨(some 43), none, (.pur ⟨(some 43), (.pick (.tmp 39) (.const (.bool true)) (.tmp 42)), 4, "", (List.toArray []), none⟩)⟩])
  (.cond (.tmp 43) (.seq (.reg [⟨none, none, (.st (.tmp 10) (.const (.int .i64 0)))⟩, ⟨none, none, (.st (.tmp 11) (.const (.int .i64 2)))⟩])
  .ret)
  .skip))
  (.seq (.reg [⟨(some 14), none, (.alc 3 [(.int .i64 0)])⟩, ⟨none, none, (.st (.tmp 14) (.const (.int .i64 0)))⟩])
  (.seq (.seq (.reg [⟨(some 44), none, (.mov (.tmp 1))⟩, ⟨(some 45), none, (.mov (.tmp 2))⟩, ⟨(some 46), none, (.call ⟨(.value (.func 44)), (List.toArray [(.tmp 44), (.tmp 45)]), (List.toArray [3, 3])⟩ true)⟩])
  (.block 0 (.other (at_ Tryz.f19 [1, 1, 1, 1, 1, 0, 1, 0]))))
  (.seq (.reg [⟨none, none, (.st (.tmp 10) (.const (.int .i64 0)))⟩, ⟨none, none, (.st (.tmp 11) (.const (.int .i64 4)))⟩])
  .ret)))))))
theorem L19 : low Tryz.prog Tryz.f19.ntmps (at_ Tryz.f19 []) = some R19 := by kernel_rfl
theorem E19_1 : at_ Tryz.f19 [1, 1, 1, 1, 1, 0, 1, 0] = .rangeFunc (.tmp 46) ((List.toArray [47])) (at_ Tryz.f19 [1, 1, 1, 1, 1, 0, 1, 0, 0]) (at_ Tryz.f19 [1, 1, 1, 1, 1, 0, 1, 0, 1]) := by kernel_rfl
noncomputable def R19x1 : RC := (.reg [⟨(some 15), none, (.mov (.tmp 47))⟩])
theorem L19x1 : low Tryz.prog Tryz.f19.ntmps (at_ Tryz.f19 [1, 1, 1, 1, 1, 0, 1, 0, 0]) = some R19x1 := by kernel_rfl
noncomputable def R19x2 : RC := (.block 1 (.seq (.seq (.reg [⟨(some 48), none, (.ld (.tmp 12) 1)⟩, ⟨(some 49), none, (.mov (.tmp 15))⟩, ⟨(some 50), none, (.idx (.tmp 48) (.tmp 49) 2)⟩, ⟨(some 51), none, (.addo (.tmp 50) 0)⟩, ⟨(some 52), none, (.ld (.tmp 51) 1)⟩, ⟨(some 53), none, (.cmp .leq (.tmp 52) (.const (.int .i64 0)))⟩])
  (.cond (.tmp 53) (.reg [⟨(some 54), none, (.ld (.tmp 14) 1)⟩, ⟨(some 55), none, (.ld (.tmp 8) 1)⟩, ⟨(some 56), none, (.ari .add (.tmp 54) (.tmp 55))⟩, ⟨none, none, (.st (.tmp 14) (.tmp 56))⟩])
  .skip))
  (.seq (.reg [⟨(some 57), none, (.ld (.tmp 14) 1)⟩, ⟨(some 58), none, (.ld (.tmp 9) 1)⟩, ⟨(some 59), none, (.cmp .gtr (.tmp 57) (.tmp 58))⟩])
  (.cond (.tmp 59) (.seq (.reg [⟨(some 60), none, (.mov (.tmp 15))⟩, ⟨none, none, (.st (.tmp 10) (.tmp 60))⟩, ⟨none, none, (.st (.tmp 11) (.const (.int .i64 0)))⟩])
  .ret)
  .skip))))
theorem L19x2 : low Tryz.prog Tryz.f19.ntmps (at_ Tryz.f19 [1, 1, 1, 1, 1, 0, 1, 0, 1]) = some R19x2 := by kernel_rfl
theorem N20 : Tryz.f20.ntmps = 67 := by kernel_rfl
theorem Z20 : Tryz.f20.results.toList = ((List.toArray [(.tmp 10), (.tmp 11)]) : Array ResultVar).toList := by kernel_rfl
theorem B20 : Tryz.f20.body = some (at_ Tryz.f20 []) := by kernel_rfl
noncomputable def R20 : RC := (.seq (.reg [⟨(some 5), none, (.box 25 (.tmp 0))⟩, ⟨(some 10), none, (.mov (.const (.int .i64 0)))⟩, ⟨(some 11), none, (.mov (.const (.int .i64 0)))⟩])
  (.seq (.seq (.reg [⟨(some 16), none, (.lda (.tmp 5) 5)⟩, ⟨(some 17), none, (.call ⟨(.value (.func 32)), (List.toArray [(.tmp 16)]), (List.toArray [25])⟩ true)⟩, ⟨(some 18), none, (.pur ⟨(some 18), (.unOp .not 4 (.tmp 17)), 4, "", (List.toArray []), none⟩)⟩])
  (.cond (.tmp 18) (.seq (.reg [⟨(some 10), none, (.mov (.const (.int .i64 0)))⟩, ⟨(some 11), none, (.mov (.const (.int .i64 1)))⟩])
  .ret)
  .skip))
  (.seq (.reg [⟨(some 20), none, (.lda (.tmp 5) 5)⟩, ⟨(some 21), none, (.call ⟨(.value (.func 41)), (List.toArray [(.tmp 20)]), (List.toArray [25])⟩ true)⟩, ⟨(some 19), none, (.mov (.tmp 21))⟩, ⟨(some 22), none, (.pur ⟨(some 22), (.extract (.tmp 19) 0), 22, "", (List.toArray []), none⟩)⟩, ⟨(some 23), none, (.pur ⟨(some 23), (.extract (.tmp 19) 1), 4, "", (List.toArray []), none⟩)⟩, ⟨(some 12), none, (.mov (.tmp 22))⟩, ⟨(some 13), none, (.mov (.tmp 23))⟩])
  (.seq (.seq (.reg [⟨(some 24), none, (.mov (.tmp 13))⟩, ⟨(some 25), none, (.pur ⟨(some 25), (.unOp .not 4 (.tmp 24)), 4, "", (List.toArray []), none⟩)⟩])
  (.cond (.tmp 25) (.seq (.reg [⟨(some 10), none, (.mov (.const (.int .i64 0)))⟩, ⟨(some 11), none, (.mov (.const (.int .i64 6)))⟩])
  .ret)
  .skip))
  (.seq (.seq (.reg [⟨(some 26), none, (.mov (.tmp 2))⟩, ⟨(some 27), none, (.addo (.tmp 5) 0)⟩, ⟨(some 28), none, (.ld (.tmp 27) 1)⟩, ⟨(some 29), none, (.ari .sub (.tmp 28) (.const (.int .i64 1)))⟩, ⟨(some 30), none, (.call ⟨(.value (.func 45)), (List.toArray [(.tmp 26), (.const (.int .i64 0)), (.tmp 29)]), (List.toArray [3, 3, 3])⟩ true)⟩, ⟨(some 31), none, (.pur ⟨(some 31), (.unOp .not 4 (.tmp 30)), 4, "", (List.toArray []), none⟩)⟩, ⟨(some 32), none, (.mov (.tmp 31))⟩, ⟨(some 33), (some (32, false)), (.mov (.tmp 1))⟩, ⟨(some 34), (some (32, false)), (.mov (.tmp 2))⟩, ⟨(some 35), (some (32, false)), (.call ⟨(.value (.func 45)), (List.toArray [(.tmp 33), (.const (.int .i64 0)), (.tmp 34)]), (List.toArray [3, 3, 3])⟩ true)⟩, ⟨(some 36), (some (32, false)), (.pur ⟨(some 36), (.unOp .not 4 (.tmp 35)), 4, "", (List.toArray []), none⟩)⟩, ⟨(some 37), none, (.pur ⟨(some 37), (.pick (.tmp 32) (.const (.bool true)) (.tmp 36)), 4, "", (List.toArray []), none⟩)⟩, ⟨(some 38), none, (.mov (.tmp 37))⟩, ⟨(some 39), (some (38, false)), (.mov (.tmp 3))⟩, ⟨(some 40), (some (38, false)), (.call ⟨(.value (.func 45)), (List.toArray [(.tmp 39), (.const (.int .i64 0)), (.const (.int .i64 1099511627776))]), (List.toArray [3, 3, 3])⟩ true)⟩, ⟨(some 41), (some (38, false)), (.pur ⟨(some 41), (.unOp .not 4 (.tmp 40)), 4, "", (List.toArray []), none⟩)⟩, ⟨(some 42), none, (.pur ⟨(some 42), (.pick (.tmp 38) (.const (.bool true)) (.tmp 41)), 4, "", (List.toArray []), none⟩)⟩, ⟨(some 43), none, (.mov (.tmp 42))⟩, ⟨(some 44), (some (43, false)), (.mov (.tmp 4))⟩, ⟨(some 45), (some (43, false)), (.call ⟨(.value (.func 45)), (List.toArray [(.tmp 44), (.const (.int .i64 0)), (.const (.int .i64 1099511627776))]), (List.toArray [3, 3, 3])⟩ true)⟩, ⟨(some 46), (some (43, false)), (.pur ⟨(some 46), (.unOp .not 4 (.tmp 45)), 4, "", (List.toArray []), none⟩)⟩, ⟨(some 47), none, (.pur ⟨(some 47), (.pick (.tmp 43) (.const (.bool true)) (.tmp 46)), 4, "", (List.toArray []), none⟩)⟩])
  (.cond (.tmp 47) (.seq (.reg [⟨(some 10), none, (.mov (.const (.int .i64 0)))⟩, ⟨(some 11), none, (.mov (.const (.int .i64 2)))⟩])
  .ret)
  .skip))
  (.seq (.reg [⟨(some 14), none, (.mov (.const (.int .i64 0)))⟩])
  (.seq (.seq (.reg [⟨(some 48), none, (.mov (.tmp 1))⟩, ⟨(some 15), none, (.mov (.tmp 48))⟩])
  (.block 0 (.other (at_ Tryz.f20 [1, 1, 1, 1, 1, 1, 0, 1, 0]))))
  (.seq (.reg [⟨(some 10), none, (.mov (.const (.int .i64 0)))⟩, ⟨(some 11), none, (.mov (.const (.int .i64 4)))⟩])
  .ret))))))))
theorem L20 : low Tryz.prog Tryz.f20.ntmps (at_ Tryz.f20 []) = some R20 := by kernel_rfl
theorem E20_1 : at_ Tryz.f20 [1, 1, 1, 1, 1, 1, 0, 1, 0] = .loop (at_ Tryz.f20 [1, 1, 1, 1, 1, 1, 0, 1, 0, 0]) := by kernel_rfl
noncomputable def R20x1 : RC := (.seq (.seq (.reg [⟨(some 49), none, (.mov (.tmp 15))⟩, ⟨(some 50), none, (.mov (.tmp 2))⟩, ⟨(some 51), none, (.cmp .leq (.tmp 49) (.tmp 50))⟩])
  (.cond (.tmp 51) .skip
  (.exit 0)))
  (.seq (.block 1 (.seq (.seq (.reg [⟨(some 54), none, (.mov (.tmp 12))⟩, ⟨(some 55), none, (.mov (.tmp 15))⟩, ⟨(some 56), none, (.idx (.tmp 54) (.tmp 55) 2)⟩, ⟨(some 57), none, (.addo (.tmp 56) 0)⟩, ⟨(some 58), none, (.ld (.tmp 57) 1)⟩, ⟨(some 59), none, (.cmp .leq (.tmp 58) (.const (.int .i64 0)))⟩])
  (.cond (.tmp 59) (.reg [⟨(some 60), none, (.mov (.tmp 14))⟩, ⟨(some 61), none, (.mov (.tmp 3))⟩, ⟨(some 62), none, (.ari .add (.tmp 60) (.tmp 61))⟩, ⟨(some 14), none, (.mov (.tmp 62))⟩])
  .skip))
  (.seq (.reg [⟨(some 63), none, (.mov (.tmp 14))⟩, ⟨(some 64), none, (.mov (.tmp 4))⟩, ⟨(some 65), none, (.cmp .gtr (.tmp 63) (.tmp 64))⟩])
  (.cond (.tmp 65) (.seq (.reg [⟨(some 66), none, (.mov (.tmp 15))⟩, ⟨(some 10), none, (.mov (.tmp 66))⟩, ⟨(some 11), none, (.mov (.const (.int .i64 0)))⟩])
  .ret)
  .skip))))
  (.reg [⟨(some 52), none, (.mov (.tmp 15))⟩, ⟨(some 53), none, (.ari .add (.tmp 52) (.const (.int .i64 1)))⟩, ⟨(some 15), none, (.mov (.tmp 53))⟩])))
theorem L20x1 : low Tryz.prog Tryz.f20.ntmps (at_ Tryz.f20 [1, 1, 1, 1, 1, 1, 0, 1, 0, 0]) = some R20x1 := by kernel_rfl
theorem N21 : Tryz.f21.ntmps = 26 := by kernel_rfl
theorem Z21 : Tryz.f21.results.toList = ((List.toArray [(.tmp 4)]) : Array ResultVar).toList := by kernel_rfl
theorem B21 : Tryz.f21.body = some (at_ Tryz.f21 []) := by kernel_rfl
noncomputable def R21 : RC := (.seq (.reg [⟨(some 4), none, (.mov (.const (.bool false)))⟩])
  (.seq (.seq (.reg [⟨(some 6), none, (.mov (.tmp 0))⟩, ⟨(some 7), none, (.len (.tmp 6))⟩, ⟨(some 8), none, (.mov (.tmp 1))⟩, ⟨(some 9), none, (.len (.tmp 8))⟩, ⟨(some 10), none, (.cmp .neq (.tmp 7) (.tmp 9))⟩])
  (.cond (.tmp 10) (.seq (.reg [⟨(some 4), none, (.mov (.const (.bool false)))⟩])
  .ret)
  .skip))
  (.seq (.seq (.reg [⟨(some 5), none, (.mov (.const (.int .i64 0)))⟩])
  (.block 0 (.other (at_ Tryz.f21 [1, 1, 0, 1, 0]))))
  (.seq (.reg [⟨(some 4), none, (.mov (.const (.bool true)))⟩])
  .ret))))
theorem L21 : low Tryz.prog Tryz.f21.ntmps (at_ Tryz.f21 []) = some R21 := by kernel_rfl
theorem E21_1 : at_ Tryz.f21 [1, 1, 0, 1, 0] = .loop (at_ Tryz.f21 [1, 1, 0, 1, 0, 0]) := by kernel_rfl
noncomputable def R21x1 : RC := (.seq (.seq (.reg [⟨(some 11), none, (.mov (.tmp 5))⟩, ⟨(some 12), none, (.mov (.tmp 0))⟩, ⟨(some 13), none, (.len (.tmp 12))⟩, ⟨(some 14), none, (.cmp .lss (.tmp 11) (.tmp 13))⟩])
  (.cond (.tmp 14) .skip
  (.exit 0)))
  (.seq (.block 1 (.seq (.dreg [⟨(some 17), none, (.mov (.tmp 0))⟩, ⟨(some 18), none, (.mov (.tmp 5))⟩, ⟨(some 19), none, (.idx (.tmp 17) (.tmp 18) 2)⟩, ⟨(some 20), none, (.lda (.tmp 19) 2)⟩, ⟨(some 21), none, (.mov (.tmp 1))⟩, ⟨(some 22), none, (.mov (.tmp 5))⟩, ⟨(some 23), none, (.idx (.tmp 21) (.tmp 22) 2)⟩, ⟨(some 24), none, (.lda (.tmp 23) 2)⟩, ⟨(some 25), none, (.pur ⟨(some 25), (.binOp .neq 48 (.tmp 20) (.tmp 24) 48), 4, "", (List.toArray []), none⟩)⟩] [255, 112, 48, 0, 0, 7, 3, 0, 0])
  (.cond (.tmp 25) (.seq (.reg [⟨(some 4), none, (.mov (.const (.bool false)))⟩])
  .ret)
  .skip)))
  (.reg [⟨(some 15), none, (.mov (.tmp 5))⟩, ⟨(some 16), none, (.ari .add (.tmp 15) (.const (.int .i64 1)))⟩, ⟨(some 5), none, (.mov (.tmp 16))⟩])))
theorem L21x1 : low Tryz.prog Tryz.f21.ntmps (at_ Tryz.f21 [1, 1, 0, 1, 0, 0]) = some R21x1 := by kernel_rfl
theorem N41 : Tryz.f41.ntmps = 117 := by kernel_rfl
theorem Z41 : Tryz.f41.results.toList = ((List.toArray [(.tmp 2), (.tmp 3)]) : Array ResultVar).toList := by kernel_rfl
theorem B41 : Tryz.f41.body = some (at_ Tryz.f41 []) := by kernel_rfl
noncomputable def R41 : RC := (.seq (.reg [⟨(some 1), none, (.box 25 (.tmp 0))⟩, ⟨(some 2), none, (.mov (.const (.slice none 0 0)))⟩, ⟨(some 3), none, (.mov (.const (.bool false)))⟩])
  (.seq (.reg [⟨(some 4), none, (.mov (.const (.slice none 0 0)))⟩])
  (.seq (.seq (.reg [⟨(some 5), none, (.mov (.const (.int .i64 0)))⟩])
  (.block 0 (.other (at_ Tryz.f41 [1, 1, 0, 1, 0]))))
  (.seq (.reg [⟨(some 116), none, (.mov (.tmp 4))⟩, ⟨(some 2), none, (.mov (.tmp 116))⟩, ⟨(some 3), none, (.mov (.const (.bool true)))⟩])
  .ret))))
theorem L41 : low Tryz.prog Tryz.f41.ntmps (at_ Tryz.f41 []) = some R41 := by kernel_rfl
theorem E41_1 : at_ Tryz.f41 [1, 1, 0, 1, 0] = .loop (at_ Tryz.f41 [1, 1, 0, 1, 0, 0]) := by kernel_rfl
noncomputable def R41x1 : RC := (.seq (.seq (.reg [⟨(some 10), none, (.mov (.tmp 5))⟩, ⟨(some 11), none, (.addo (.tmp 1) 0)⟩, ⟨(some 12), none, (.ld (.tmp 11) 1)⟩, ⟨(some 13), none, (.cmp .lss (.tmp 10) (.tmp 12))⟩])
  (.cond (.tmp 13) .skip
  (.exit 0)))
  (.seq (.block 1 (.seq (.reg [⟨(some 16), none, (.pur ⟨(some 16), (.build 48 (List.toArray [(0, (.const (.int .i64 (-5000)))), (1, (.const (.int .i64 5000)))])), 48, "", (List.toArray []), none⟩)⟩, ⟨(some 6), none, (.alc 48 [(.int .i64 0), (.int .i64 0)])⟩, ⟨none, none, (.sta (.tmp 6) (.tmp 16) 2)⟩])
  (.seq (.seq (.reg [⟨(some 7), none, (.mov (.const (.int .i64 0)))⟩])
  (.block 2 (.other (at_ Tryz.f41 [1, 1, 0, 1, 0, 0, 1, 0, 0, 1, 0, 1, 0]))))
  (.seq (.seq (.reg [⟨(some 107), none, (.addo (.tmp 6) 0)⟩, ⟨(some 108), none, (.ld (.tmp 107) 1)⟩, ⟨(some 109), none, (.addo (.tmp 6) 1)⟩, ⟨(some 110), none, (.ld (.tmp 109) 1)⟩, ⟨(some 111), none, (.cmp .gtr (.tmp 108) (.tmp 110))⟩])
  (.cond (.tmp 111) (.seq (.reg [⟨(some 2), none, (.mov (.const (.slice none 0 0)))⟩, ⟨(some 3), none, (.mov (.const (.bool false)))⟩])
  .ret)
  .skip))
  (.reg [⟨(some 112), none, (.mov (.tmp 4))⟩, ⟨(some 113), none, (.lda (.tmp 6) 2)⟩, ⟨(some 114), none, (.mem ⟨(some 114), (.buildSlice 22 1 (List.toArray [(0, (.tmp 113))])), 22, "", (List.toArray []), none⟩)⟩, ⟨(some 115), none, (.mem ⟨(some 115), (.call ⟨(.builtin .append), (List.toArray [(.tmp 112), (.tmp 114)]), (List.toArray [22, 22])⟩), 22, "", (List.toArray []), none⟩)⟩, ⟨(some 4), none, (.mov (.tmp 115))⟩])))))
  (.reg [⟨(some 14), none, (.mov (.tmp 5))⟩, ⟨(some 15), none, (.ari .add (.tmp 14) (.const (.int .i64 1)))⟩, ⟨(some 5), none, (.mov (.tmp 15))⟩])))
theorem L41x1 : low Tryz.prog Tryz.f41.ntmps (at_ Tryz.f41 [1, 1, 0, 1, 0, 0]) = some R41x1 := by kernel_rfl
theorem E41_2 : at_ Tryz.f41 [1, 1, 0, 1, 0, 0, 1, 0, 0, 1, 0, 1, 0] = .loop (at_ Tryz.f41 [1, 1, 0, 1, 0, 0, 1, 0, 0, 1, 0, 1, 0, 0]) := by kernel_rfl
noncomputable def R41x2 : RC := (.seq (.seq (.reg [⟨(some 17), none, (.mov (.tmp 7))⟩, ⟨(some 18), none, (.addo (.tmp 1) 4)⟩, ⟨(some 19), none, (.ld (.tmp 18) 1)⟩, ⟨(some 20), none, (.len (.tmp 19))⟩, ⟨(some 21), none, (.cmp .lss (.tmp 17) (.tmp 20))⟩])
  (.cond (.tmp 21) .skip
  (.exit 2)))
  (.seq (.block 3 (.seq (.reg [⟨(some 24), none, (.addo (.tmp 1) 4)⟩, ⟨(some 25), none, (.ld (.tmp 24) 1)⟩, ⟨(some 26), none, (.mov (.tmp 7))⟩, ⟨(some 27), none, (.idx (.tmp 25) (.tmp 26) 3)⟩, ⟨(some 28), none, (.lda (.tmp 27) 3)⟩, ⟨(some 8), none, (.alc 57 [(.int .i64 0), (.int .i64 0), (.int .i64 0)])⟩, ⟨none, none, (.sta (.tmp 8) (.tmp 28) 3)⟩])
  (.seq (.reg [⟨(some 29), none, (.addo (.tmp 1) 3)⟩, ⟨(some 30), none, (.ld (.tmp 29) 1)⟩, ⟨(some 31), none, (.addo (.tmp 8) 0)⟩, ⟨(some 32), none, (.ld (.tmp 31) 1)⟩, ⟨(some 33), none, (.idx (.tmp 30) (.tmp 32) 2)⟩, ⟨(some 34), none, (.lda (.tmp 33) 2)⟩, ⟨(some 9), none, (.alc 48 [(.int .i64 0), (.int .i64 0)])⟩, ⟨none, none, (.sta (.tmp 9) (.tmp 34) 2)⟩])
  (.seq (.reg [⟨(some 35), none, (.addo (.tmp 8) 1)⟩, ⟨(some 36), none, (.ld (.tmp 35) 1)⟩, ⟨(some 37), none, (.mov (.tmp 5))⟩, ⟨(some 38), none, (.cmp .leq (.tmp 36) (.tmp 37))⟩])
  (.cond (.tmp 38) (.seq (.reg [⟨(some 39), none, (.addo (.tmp 6) 0)⟩, ⟨(some 40), none, (.ld (.tmp 39) 1)⟩, ⟨(some 41), none, (.addo (.tmp 8) 2)⟩, ⟨(some 42), none, (.ld (.tmp 41) 1)⟩, ⟨(some 43), none, (.addo (.tmp 9) 1)⟩, ⟨(some 44), none, (.ld (.tmp 43) 1)⟩, ⟨(some 45), none, (.ari .sub (.tmp 42) (.tmp 44))⟩, ⟨(some 46), none, (.addo (.tmp 1) 1)⟩, ⟨(some 47), none, (.ld (.tmp 46) 1)⟩, ⟨(some 48), none, (.mov (.tmp 5))⟩, ⟨(some 49), none, (.addo (.tmp 8) 1)⟩, ⟨(some 50), none, (.ld (.tmp 49) 1)⟩, ⟨(some 51), none, (.ari .sub (.tmp 48) (.tmp 50))⟩, ⟨(some 52), none, (.ari .mul (.tmp 47) (.tmp 51))⟩, ⟨(some 53), none, (.ari .sub (.tmp 45) (.tmp 52))⟩, ⟨(some 54), none, (.mm false (.tmp 40) (.tmp 53))⟩, ⟨(some 55), none, (.addo (.tmp 6) 0)⟩, ⟨none, none, (.st (.tmp 55) (.tmp 54))⟩])
  (.reg [⟨(some 56), none, (.addo (.tmp 6) 1)⟩, ⟨(some 57), none, (.ld (.tmp 56) 1)⟩, ⟨(some 58), none, (.addo (.tmp 8) 2)⟩, ⟨(some 59), none, (.ld (.tmp 58) 1)⟩, ⟨(some 60), none, (.addo (.tmp 9) 0)⟩, ⟨(some 61), none, (.ld (.tmp 60) 1)⟩, ⟨(some 62), none, (.ari .sub (.tmp 59) (.tmp 61))⟩, ⟨(some 63), none, (.addo (.tmp 1) 2)⟩, ⟨(some 64), none, (.ld (.tmp 63) 1)⟩, ⟨(some 65), none, (.mov (.tmp 5))⟩, ⟨(some 66), none, (.addo (.tmp 8) 1)⟩, ⟨(some 67), none, (.ld (.tmp 66) 1)⟩, ⟨(some 68), none, (.ari .sub (.tmp 65) (.tmp 67))⟩, ⟨(some 69), none, (.ari .mul (.tmp 64) (.tmp 68))⟩, ⟨(some 70), none, (.ari .add (.tmp 62) (.tmp 69))⟩, ⟨(some 71), none, (.mm true (.tmp 57) (.tmp 70))⟩, ⟨(some 72), none, (.addo (.tmp 6) 1)⟩, ⟨none, none, (.st (.tmp 72) (.tmp 71))⟩]))
  (.seq (.reg [⟨(some 73), none, (.addo (.tmp 6) 0)⟩, ⟨(some 74), none, (.ld (.tmp 73) 1)⟩, ⟨(some 75), none, (.addo (.tmp 8) 2)⟩, ⟨(some 76), none, (.ld (.tmp 75) 1)⟩, ⟨(some 77), none, (.addo (.tmp 9) 1)⟩, ⟨(some 78), none, (.ld (.tmp 77) 1)⟩, ⟨(some 79), none, (.ari .sub (.tmp 76) (.tmp 78))⟩, ⟨(some 80), none, (.addo (.tmp 1) 2)⟩, ⟨(some 81), none, (.ld (.tmp 80) 1)⟩, ⟨(some 82), none, (.addo (.tmp 8) 1)⟩, ⟨(some 83), none, (.ld (.tmp 82) 1)⟩, ⟨(some 84), none, (.mov (.tmp 5))⟩, ⟨(some 85), none, (.ari .sub (.tmp 83) (.tmp 84))⟩, ⟨(some 86), none, (.ari .mul (.tmp 81) (.tmp 85))⟩, ⟨(some 87), none, (.ari .sub (.tmp 79) (.tmp 86))⟩, ⟨(some 88), none, (.mm false (.tmp 74) (.tmp 87))⟩, ⟨(some 89), none, (.addo (.tmp 6) 0)⟩, ⟨none, none, (.st (.tmp 89) (.tmp 88))⟩])
  (.reg [⟨(some 90), none, (.addo (.tmp 6) 1)⟩, ⟨(some 91), none, (.ld (.tmp 90) 1)⟩, ⟨(some 92), none, (.addo (.tmp 8) 2)⟩, ⟨(some 93), none, (.ld (.tmp 92) 1)⟩, ⟨(some 94), none, (.addo (.tmp 9) 0)⟩, ⟨(some 95), none, (.ld (.tmp 94) 1)⟩, ⟨(some 96), none, (.ari .sub (.tmp 93) (.tmp 95))⟩, ⟨(some 97), none, (.addo (.tmp 1) 1)⟩, ⟨(some 98), none, (.ld (.tmp 97) 1)⟩, ⟨(some 99), none, (.addo (.tmp 8) 1)⟩, ⟨(some 100), none, (.ld (.tmp 99) 1)⟩, ⟨(some 101), none, (.mov (.tmp 5))⟩, ⟨(some 102), none, (.ari .sub (.tmp 100) (.tmp 101))⟩, ⟨(some 103), none, (.ari .mul (.tmp 98) (.tmp 102))⟩, ⟨(some 104), none, (.ari .add (.tmp 96) (.tmp 103))⟩, ⟨(some 105), none, (.mm true (.tmp 91) (.tmp 104))⟩, ⟨(some 106), none, (.addo (.tmp 6) 1)⟩, ⟨none, none, (.st (.tmp 106) (.tmp 105))⟩])))))))
  (.reg [⟨(some 22), none, (.mov (.tmp 7))⟩, ⟨(some 23), none, (.ari .add (.tmp 22) (.const (.int .i64 1)))⟩, ⟨(some 7), none, (.mov (.tmp 23))⟩])))
theorem L41x2 : low Tryz.prog Tryz.f41.ntmps (at_ Tryz.f41 [1, 1, 0, 1, 0, 0, 1, 0, 0, 1, 0, 1, 0, 0]) = some R41x2 := by kernel_rfl
theorem N3 : Tryz.f3.ntmps = 71 := by kernel_rfl
theorem Z3 : Tryz.f3.results.toList = ((List.toArray [(.tmp 10)]) : Array ResultVar).toList := by kernel_rfl
theorem B3 : Tryz.f3.body = some (at_ Tryz.f3 []) := by kernel_rfl
noncomputable def R3 : RC := (.seq (.reg [⟨(some 5), none, (.box 25 (.tmp 0))⟩, ⟨(some 10), none, (.mov (.const (.bool false)))⟩])
  (.seq (.seq (.reg [⟨(some 19), none, (.lda (.tmp 5) 5)⟩, ⟨(some 20), none, (.call ⟨(.value (.func 15)), (List.toArray [(.tmp 19), (.const (.slice none 0 0)), (.const (.int .i64 0))]), (List.toArray [25, 35, 3])⟩ true)⟩])
  (.cond (.tmp 20) (.seq (.reg [⟨(some 21), none, (.call ⟨(.value (.func 16)), (List.toArray []), (List.toArray [])⟩ true)⟩, ⟨(some 10), none, (.mov (.tmp 21))⟩])
  .ret)
  .skip))
  (.seq (.reg [⟨(some 23), none, (.lda (.tmp 5) 5)⟩, ⟨(some 24), none, (.call ⟨(.value (.func 17)), (List.toArray [(.tmp 23)]), (List.toArray [25])⟩ true)⟩, ⟨(some 22), none, (.mov (.tmp 24))⟩, ⟨(some 25), none, (.pur ⟨(some 25), (.extract (.tmp 22) 0), 22, "", (List.toArray []), none⟩)⟩, ⟨(some 26), none, (.pur ⟨(some 26), (.extract (.tmp 22) 1), 28, "", (List.toArray []), none⟩)⟩, ⟨(some 11), none, (.mov (.tmp 25))⟩, ⟨(some 12), none, (.mov (.tmp 26))⟩])
  (.seq (.reg [⟨(some 28), none, (.lda (.tmp 5) 5)⟩, ⟨(some 29), none, (.call ⟨(.value (.func 18)), (List.toArray [(.tmp 28)]), (List.toArray [25])⟩ true)⟩, ⟨(some 27), none, (.mov (.tmp 29))⟩, ⟨(some 30), none, (.pur ⟨(some 30), (.extract (.tmp 27) 0), 22, "", (List.toArray []), none⟩)⟩, ⟨(some 31), none, (.pur ⟨(some 31), (.extract (.tmp 27) 1), 28, "", (List.toArray []), none⟩)⟩, ⟨(some 13), none, (.mov (.tmp 30))⟩, ⟨(some 14), none, (.mov (.tmp 31))⟩])
  (.seq (.reg [⟨(some 33), none, (.lda (.tmp 5) 5)⟩, ⟨(some 34), none, (.mov (.tmp 1))⟩, ⟨(some 35), none, (.mov (.tmp 2))⟩, ⟨(some 36), none, (.mov (.tmp 3))⟩, ⟨(some 37), none, (.mov (.tmp 4))⟩, ⟨(some 38), none, (.call ⟨(.value (.func 19)), (List.toArray [(.tmp 33), (.tmp 34), (.tmp 35), (.tmp 36), (.tmp 37)]), (List.toArray [25, 3, 3, 3, 3])⟩ true)⟩, ⟨(some 32), none, (.mov (.tmp 38))⟩, ⟨(some 39), none, (.pur ⟨(some 39), (.extract (.tmp 32) 0), 3, "", (List.toArray []), none⟩)⟩, ⟨(some 40), none, (.pur ⟨(some 40), (.extract (.tmp 32) 1), 28, "", (List.toArray []), none⟩)⟩, ⟨(some 15), none, (.mov (.tmp 39))⟩, ⟨(some 16), none, (.mov (.tmp 40))⟩])
  (.seq (.reg [⟨(some 42), none, (.lda (.tmp 5) 5)⟩, ⟨(some 43), none, (.mov (.tmp 1))⟩, ⟨(some 44), none, (.mov (.tmp 2))⟩, ⟨(some 45), none, (.mov (.tmp 3))⟩, ⟨(some 46), none, (.mov (.tmp 4))⟩, ⟨(some 47), none, (.call ⟨(.value (.func 20)), (List.toArray [(.tmp 42), (.tmp 43), (.tmp 44), (.tmp 45), (.tmp 46)]), (List.toArray [25, 3, 3, 3, 3])⟩ true)⟩, ⟨(some 41), none, (.mov (.tmp 47))⟩, ⟨(some 48), none, (.pur ⟨(some 48), (.extract (.tmp 41) 0), 3, "", (List.toArray []), none⟩)⟩, ⟨(some 49), none, (.pur ⟨(some 49), (.extract (.tmp 41) 1), 28, "", (List.toArray []), none⟩)⟩, ⟨(some 17), none, (.mov (.tmp 48))⟩, ⟨(some 18), none, (.mov (.tmp 49))⟩])
  (.seq (.reg [⟨(some 50), none, (.mov (.tmp 11))⟩, ⟨(some 51), none, (.mov (.tmp 13))⟩, ⟨(some 52), none, (.call ⟨(.value (.func 21)), (List.toArray [(.tmp 50), (.tmp 51)]), (List.toArray [22, 22])⟩ true)⟩, ⟨(some 53), none, (.mov (.tmp 52))⟩, ⟨(some 54), (some (53, true)), (.mov (.tmp 12))⟩, ⟨(some 55), (some (53, true)), (.mov (.tmp 14))⟩, ⟨(some 56), (some (53, true)), (.cmpb .eql (.tmp 54) (.tmp 55))⟩, ⟨(some 57), none, (.pur ⟨(some 57), (.pick (.tmp 53) (.tmp 56) (.const (.bool false))), 4, "", (List.toArray []), none⟩)⟩, ⟨(some 58), none, (.mov (.tmp 57))⟩, ⟨(some 59), (some (58, true)), (.mov (.tmp 15))⟩, ⟨(some 60), (some (58, true)), (.mov (.tmp 17))⟩, ⟨(some 61), (some (58, true)), (.cmpb .eql (.tmp 59) (.tmp 60))⟩, ⟨(some 62), none, (.pur ⟨(some 62), (.pick (.tmp 58) (.tmp 61) (.const (.bool false))), 4, "", (List.toArray []), none⟩)⟩, ⟨(some 63), none, (.mov (.tmp 62))⟩, ⟨(some 64), (some (63, true)), (.mov (.tmp 16))⟩, ⟨(some 65), (some (63, true)), (.mov (.tmp 18))⟩, ⟨(some 66), (some (63, true)), (.cmpb .eql (.tmp 64) (.tmp 65))⟩, ⟨(some 67), none, (.pur ⟨(some 67), (.pick (.tmp 63) (.tmp 66) (.const (.bool false))), 4, "", (List.toArray []), none⟩)⟩, ⟨(some 68), none, (.mov (.tmp 67))⟩, ⟨(some 69), (some (68, true)), (.call ⟨(.value (.func 16)), (List.toArray []), (List.toArray [])⟩ true)⟩, ⟨(some 70), none, (.pur ⟨(some 70), (.pick (.tmp 68) (.tmp 69) (.const (.bool false))), 4, "", (List.toArray []), none⟩)⟩, ⟨(some 10), none, (.mov (.tmp 70))⟩])
  .ret)))))))
theorem L3 : low Tryz.prog Tryz.f3.ntmps (at_ Tryz.f3 []) = some R3 := by kernel_rfl
end Go.Ax
/-
  Frost, for FrostTemps: the document's temperatures of a slot (41, the inner loop; written by program).
-/
namespace Go.Ax
open Go Go.RowKit Go.Proofs

/-- the bounds of a slot by the first readings -/
def Ng.lo_ (g : Ng) (t i : Nat) : Int := (g.rs.take i).foldl (fun b r => max b (g.alLo r t)) (-5000)
def Ng.hi_ (g : Ng) (t i : Nat) : Int := (g.rs.take i).foldl (fun b r => min b (g.alHi r t)) 5000
section
variable {g : Ng} {t i : Nat} {x : Rdg} {p : Int × Int}
theorem lo_step (hx : g.rs[i]? = some x) (lx : g.lowR x = x.value - p.2) : g.lo_ t (i + 1) = max (g.lo_ t i) (g.alLo x t) := by
  unfold Ng.lo_
  rw [List.take_add_one, hx]
  simp [List.foldl_append]
theorem hi_step (hx : g.rs[i]? = some x) (lx : g.highR x = x.value - p.1) : g.hi_ t (i + 1) = min (g.hi_ t i) (g.alHi x t) := by
  unfold Ng.hi_
  rw [List.take_add_one, hx]
  simp [List.foldl_append]
theorem alLo_b' (h : x.slot ≤ (t : Int)) : g.alLo x t = g.lowR x - g.fall * ((t : Int) - x.slot) := by
  unfold Ng.alLo Ng.lowR
  have e1 : max 0 (x.slot - (t : Int)) = 0 := by omega
  have e2 : max 0 ((t : Int) - x.slot) = (t : Int) - x.slot := by omega
  rw [e1, e2, Int.zero_mul, Int.mul_comm]; omega
theorem alHi_b' (h : x.slot ≤ (t : Int)) : g.alHi x t = g.highR x + g.rise * ((t : Int) - x.slot) := by
  unfold Ng.alHi Ng.highR
  have e1 : max 0 (x.slot - (t : Int)) = 0 := by omega
  have e2 : max 0 ((t : Int) - x.slot) = (t : Int) - x.slot := by omega
  rw [e1, e2, Int.zero_mul, Int.mul_comm]; omega
theorem alLo_a' (h : ¬ x.slot ≤ (t : Int)) : g.alLo x t = g.lowR x - g.rise * (x.slot - (t : Int)) := by
  unfold Ng.alLo Ng.lowR
  have e1 : max 0 (x.slot - (t : Int)) = x.slot - (t : Int) := by omega
  have e2 : max 0 ((t : Int) - x.slot) = 0 := by omega
  rw [e1, e2, Int.zero_mul, Int.mul_comm]; omega
theorem alHi_a' (h : ¬ x.slot ≤ (t : Int)) : g.alHi x t = g.highR x + g.fall * (x.slot - (t : Int)) := by
  unfold Ng.alHi Ng.highR
  have e1 : max 0 (x.slot - (t : Int)) = x.slot - (t : Int) := by omega
  have e2 : max 0 ((t : Int) - x.slot) = 0 := by omega
  rw [e1, e2, Int.zero_mul, Int.mul_comm]; omega
theorem lo_all (v : g.Vd) : g.lo_ t g.rn = g.least t := by
  unfold Ng.lo_ Ng.least
  rw [List.take_of_length_le (by have := v.rl; omega)]
theorem hi_all (v : g.Vd) : g.hi_ t g.rn = g.great t := by
  unfold Ng.hi_ Ng.great
  rw [List.take_of_length_le (by have := v.rl; omega)]
end
section
variable {kn : FuncId → Option Bool} {lo : Nat} {H : Hp}
theorem rt_inner {g : Ng} (v : g.Vd) {b1 b6 t f : Nat} {acc : Value} (ht : t < g.n) {S : Rg} {K : Exit → Rg → Hp → Prop}
    (d1 : Cl H b1 g.v) (c6 : Cl H b6 [iv (-5000), iv 5000]) (hs : Sl H g.sa g.sn g.scap (spc g.ss)) (hr : Sl H g.ra g.rn g.rcap (rdc g.rs)) (hl6 : lo ≤ b6) (hlo : lo ≤ H.next)
    (f1 : b1 < f) (fs : ∀ b, g.sa = some ⟨b, 0, none⟩ → b < f) (fr : ∀ b, g.ra = some ⟨b, 0, none⟩ → b < f) (f6 : f ≤ b6)
    (hS : Subs [(1, pt b1), (4, acc), (5, iv (t : Int)), (6, pt b6), (7, iv ((0 : Nat) : Int))] S)
    (hK : ∀ S' H', Keep H H' [b6] → Cl H' b6 [iv (g.least t), iv (g.great t)] → Subs [(1, pt b1), (4, acc), (5, iv (t : Int)), (6, pt b6)] S' → K (.exit 2) S' H') :
    Tri Tryz.prog kn lo 117 false (at_ Tryz.f41 [1, 1, 0, 1, 0, 0, 1, 0, 0, 1, 0, 1, 0]) S H K := by
  have hrl := v.rl
  have hrb := v.r200
  have hsl := v.sl
  have hn96 := v.n96
  have hfa := v.f
  have hri := v.ri
  refine loop_low (fn := Tryz.f41) E41_2 N41 L41x2 (fun i : Nat => [(1, pt b1), (4, acc), (5, iv (t : Int)), (6, pt b6), (7, iv (i : Int))])
    (fun k i H' => i + k = g.rn ∧ Keep H H' [b6] ∧ Cl H' b6 [iv (g.lo_ t i), iv (g.hi_ t i)]) g.rn 0 ⟨by omega, ⟨Nat.le_refl _, fun _ _ _ => rfl⟩, c6⟩ hS ?_
  rintro kk i H5 ⟨hik, hki, c6⟩
  have hm5 := hki.1
  have d5 := hki.cl d1 (by simp; omega)
  have lb6 := c6.lt
  refine Exists.intro _ (Exists.intro _ (And.intro d5.of (And.intro (show _ = some (.slice g.ra g.rn g.rcap) from rfl) ?_)))
  refine And.intro (fun hlt => ?_) (fun hge => ?_)
  · have hi : i < g.rn := by simpa using hlt
    obtain ⟨x, hx⟩ := get_some (l := g.rs) (i := i) (by omega)
    have hxm := List.mem_of_getElem? hx
    obtain ⟨k, hk, hk2, p, hp, pb, slb, vb⟩ := Ng.sensor v hxm
    obtain ⟨lx, hix⟩ := Ng.at_s hk hp
    rcases hr with ⟨_, h0, _⟩ | ⟨rb, era, hrd, _⟩
    · omega
    rcases hs with ⟨_, h0, _⟩ | ⟨sb, esa, hsd, _⟩
    · omega
    have lsb := fs sb esa
    have lrb := fr rb era
    have hr5 := hki.rd hrd (by simp; omega)
    have hs5 := hki.rd hsd (by simp; omega)
    refine Exists.intro _ (Exists.intro _ (And.intro d5.of (And.intro (show _ = some (.slice g.ra g.rn g.rcap) from rfl) ?_)))
    rw [era]
    refine Exists.intro i (And.intro rfl (And.intro hi ?_))
    refine Exists.intro _ (Exists.intro _ (And.intro hr5.of (And.intro (row_flat (f := Rdg.v) (fun _ _ => rfl) hx) ?_)))
    intro H6 hH6; obtain ⟨k6, n6, c7⟩ := new_facts hH6; clear hH6
    obtain ⟨_, e7, l7, g7⟩ := id c7
    refine Exists.intro _ (Exists.intro _ (Exists.intro _ (And.intro g7 (And.intro (by omega) (And.intro rfl (And.intro rfl (And.intro (by simp) ?_)))))))
    intro H7 hH7; obtain ⟨k7, n7, c7⟩ := up_facts c7 hH7; clear hH7
    have c7 : Cl H7 H5.next x.v := c7
    have k57 : Keep H5 H7 [] := k6.new k7 (fun b hb => .inr (by simp at hb; omega))
    have d7 := k57.cl d5 (by simp)
    have hs7 := k57.rd hs5 (by simp)
    refine Exists.intro _ (Exists.intro _ (And.intro d7.of (And.intro (show _ = some (.slice g.sa g.sn g.scap) from rfl) ?_)))
    rw [esa]
    refine Exists.intro _ (Exists.intro _ (And.intro c7.of (And.intro (show _ = some (iv x.sensor) from rfl) ?_)))
    refine Exists.intro k (And.intro hk (And.intro hk2 ?_))
    refine Exists.intro _ (Exists.intro _ (And.intro hs7.of (And.intro (spc_row hp) ?_)))
    intro H8 hH8; obtain ⟨k8, n8, c9⟩ := new_facts hH8; clear hH8
    obtain ⟨_, e9, l9, g9⟩ := id c9
    refine Exists.intro _ (Exists.intro _ (Exists.intro _ (And.intro g9 (And.intro (by omega) (And.intro rfl (And.intro rfl (And.intro (by simp) ?_)))))))
    intro H9 hH9; obtain ⟨k9, n9, c9⟩ := up_facts c9 hH9; clear hH9
    have c9 : Cl H9 H7.next [iv p.1, iv p.2] := c9
    have k79 : Keep H7 H9 [] := k8.new k9 (fun b hb => .inr (by simp at hb; omega))
    have k59 : Keep H5 H9 [] := k57.trans k79
    have c7 := k79.cl c7 (by simp)
    have d7 := k79.cl d7 (by simp)
    have c6 := k59.cl c6 (by simp)
    refine Exists.intro _ (Exists.intro _ (And.intro c7.of (And.intro (show _ = some (iv x.slot) from rfl) ?_)))
    obtain ⟨q, hq⟩ := Int.eq_ofNat_of_zero_le slb.1
    have alLo_b : x.slot ≤ (t : Int) → g.alLo x t = x.value - p.2 - g.fall * ((t : Int) - x.slot) := fun h => by rw [alLo_b' h, lx]
    have alHi_b : x.slot ≤ (t : Int) → g.alHi x t = x.value - p.1 + g.rise * ((t : Int) - x.slot) := fun h => by rw [alHi_b' h, hix]
    have alLo_a : ¬ x.slot ≤ (t : Int) → g.alLo x t = x.value - p.2 - g.rise * (x.slot - (t : Int)) := fun h => by rw [alLo_a' h, lx]
    have alHi_a : ¬ x.slot ≤ (t : Int) → g.alHi x t = x.value - p.1 + g.fall * (x.slot - (t : Int)) := fun h => by rw [alHi_a' h, hix]
    generalize hl : g.lo_ t i = l at c6
    generalize hh : g.hi_ t i = h at c6
    refine And.intro (fun hle => ?_) (fun hgt => ?_)
    · have hcmp : x.slot ≤ (t : Int) := by simpa using hle
      have mf := mul_bound (a := g.fall) (b := (t : Int) - x.slot) ⟨by omega, by omega⟩ ⟨by omega, by omega⟩
      have mr := mul_bound (a := g.rise) (b := (t : Int) - x.slot) ⟨by omega, by omega⟩ ⟨by omega, by omega⟩
      refine Exists.intro _ (Exists.intro _ (And.intro c6.of (And.intro (show _ = some (iv l) from rfl) ?_)))
      refine Exists.intro _ (Exists.intro _ (And.intro c7.of (And.intro (show _ = some (iv x.value) from rfl) ?_)))
      refine Exists.intro _ (Exists.intro _ (And.intro c9.of (And.intro (show _ = some (iv p.2) from rfl) ?_)))
      refine And.intro ⟨by omega, by omega⟩ ?_
      refine Exists.intro _ (Exists.intro _ (And.intro d7.of (And.intro (show _ = some (iv g.fall) from rfl) ?_)))
      refine Exists.intro _ (Exists.intro _ (And.intro c7.of (And.intro (show _ = some (iv x.slot) from rfl) ?_)))
      refine And.intro ⟨by omega, by omega⟩ ?_
      refine And.intro ⟨by omega, by omega⟩ ?_
      refine And.intro ⟨by omega, by omega⟩ ?_
      obtain ⟨_, e10, l10, g10⟩ := id c6
      refine Exists.intro _ (Exists.intro _ (Exists.intro _ (And.intro g10 (And.intro (by omega) (And.intro rfl (And.intro rfl (And.intro (by simp) ?_)))))))
      intro H10 hH10; obtain ⟨k10, n10, c10⟩ := up_facts c6 hH10; clear hH10
      have c10 : Cl H10 b6 [iv (max l (x.value - p.2 - g.fall * ((t : Int) - x.slot))), iv h] := c10
      have ne7 : H5.next ∉ [b6] := by simp; omega
      have ne9 : H7.next ∉ [b6] := by simp; omega
      have ne1 : b1 ∉ [b6] := by simp; omega
      have c7 := k10.cl c7 ne7
      have c9 := k10.cl c9 ne9
      have d7 := k10.cl d7 ne1
      refine Exists.intro _ (Exists.intro _ (And.intro c10.of (And.intro (show _ = some (iv h) from rfl) ?_)))
      refine Exists.intro _ (Exists.intro _ (And.intro c7.of (And.intro (show _ = some (iv x.value) from rfl) ?_)))
      refine Exists.intro _ (Exists.intro _ (And.intro c9.of (And.intro (show _ = some (iv p.1) from rfl) ?_)))
      refine And.intro ⟨by omega, by omega⟩ ?_
      refine Exists.intro _ (Exists.intro _ (And.intro d7.of (And.intro (show _ = some (iv g.rise) from rfl) ?_)))
      refine Exists.intro _ (Exists.intro _ (And.intro c7.of (And.intro (show _ = some (iv x.slot) from rfl) ?_)))
      refine And.intro ⟨by omega, by omega⟩ ?_
      refine And.intro ⟨by omega, by omega⟩ ?_
      refine And.intro ⟨by omega, by omega⟩ ?_
      obtain ⟨_, e11, l11, g11⟩ := id c10
      refine Exists.intro _ (Exists.intro _ (Exists.intro _ (And.intro g11 (And.intro (by omega) (And.intro rfl (And.intro rfl (And.intro (by simp) ?_)))))))
      intro H11 hH11; obtain ⟨k11, n11, c11⟩ := up_facts c10 hH11; clear hH11
      have c11 : Cl H11 b6 [iv (max l (x.value - p.2 - g.fall * ((t : Int) - x.slot))), iv (min h (x.value - p.1 + g.rise * ((t : Int) - x.slot)))] := c11
      refine And.intro ⟨by omega, by omega⟩ ?_
      have el : max l (x.value - p.2 - g.fall * ((t : Int) - x.slot)) = g.lo_ t (i + 1) := by rw [lo_step hx lx, hl, alLo_b hcmp]
      have eh : min h (x.value - p.1 + g.rise * ((t : Int) - x.slot)) = g.hi_ t (i + 1) := by rw [hi_step hx hix, hh, alHi_b hcmp]
      rw [el, eh] at c11
      exact ⟨kk - 1, i + 1, by omega, ⟨by omega, hki.trans ((k59.mono (by simp)).trans (k10.trans k11)), c11⟩, rfl, rfl, rfl, rfl, rfl, trivial⟩
    · have hcmp : ¬ x.slot ≤ (t : Int) := by simpa using hgt
      have mf := mul_bound (a := g.fall) (b := x.slot - (t : Int)) ⟨by omega, by omega⟩ ⟨by omega, by omega⟩
      have mr := mul_bound (a := g.rise) (b := x.slot - (t : Int)) ⟨by omega, by omega⟩ ⟨by omega, by omega⟩
      refine Exists.intro _ (Exists.intro _ (And.intro c6.of (And.intro (show _ = some (iv l) from rfl) ?_)))
      refine Exists.intro _ (Exists.intro _ (And.intro c7.of (And.intro (show _ = some (iv x.value) from rfl) ?_)))
      refine Exists.intro _ (Exists.intro _ (And.intro c9.of (And.intro (show _ = some (iv p.2) from rfl) ?_)))
      refine And.intro ⟨by omega, by omega⟩ ?_
      refine Exists.intro _ (Exists.intro _ (And.intro d7.of (And.intro (show _ = some (iv g.rise) from rfl) ?_)))
      refine Exists.intro _ (Exists.intro _ (And.intro c7.of (And.intro (show _ = some (iv x.slot) from rfl) ?_)))
      refine And.intro ⟨by omega, by omega⟩ ?_
      refine And.intro ⟨by omega, by omega⟩ ?_
      refine And.intro ⟨by omega, by omega⟩ ?_
      obtain ⟨_, e10, l10, g10⟩ := id c6
      refine Exists.intro _ (Exists.intro _ (Exists.intro _ (And.intro g10 (And.intro (by omega) (And.intro rfl (And.intro rfl (And.intro (by simp) ?_)))))))
      intro H10 hH10; obtain ⟨k10, n10, c10⟩ := up_facts c6 hH10; clear hH10
      have c10 : Cl H10 b6 [iv (max l (x.value - p.2 - g.rise * (x.slot - (t : Int)))), iv h] := c10
      have ne7 : H5.next ∉ [b6] := by simp; omega
      have ne9 : H7.next ∉ [b6] := by simp; omega
      have ne1 : b1 ∉ [b6] := by simp; omega
      have c7 := k10.cl c7 ne7
      have c9 := k10.cl c9 ne9
      have d7 := k10.cl d7 ne1
      refine Exists.intro _ (Exists.intro _ (And.intro c10.of (And.intro (show _ = some (iv h) from rfl) ?_)))
      refine Exists.intro _ (Exists.intro _ (And.intro c7.of (And.intro (show _ = some (iv x.value) from rfl) ?_)))
      refine Exists.intro _ (Exists.intro _ (And.intro c9.of (And.intro (show _ = some (iv p.1) from rfl) ?_)))
      refine And.intro ⟨by omega, by omega⟩ ?_
      refine Exists.intro _ (Exists.intro _ (And.intro d7.of (And.intro (show _ = some (iv g.fall) from rfl) ?_)))
      refine Exists.intro _ (Exists.intro _ (And.intro c7.of (And.intro (show _ = some (iv x.slot) from rfl) ?_)))
      refine And.intro ⟨by omega, by omega⟩ ?_
      refine And.intro ⟨by omega, by omega⟩ ?_
      refine And.intro ⟨by omega, by omega⟩ ?_
      obtain ⟨_, e11, l11, g11⟩ := id c10
      refine Exists.intro _ (Exists.intro _ (Exists.intro _ (And.intro g11 (And.intro (by omega) (And.intro rfl (And.intro rfl (And.intro (by simp) ?_)))))))
      intro H11 hH11; obtain ⟨k11, n11, c11⟩ := up_facts c10 hH11; clear hH11
      have c11 : Cl H11 b6 [iv (max l (x.value - p.2 - g.rise * (x.slot - (t : Int)))), iv (min h (x.value - p.1 + g.fall * (x.slot - (t : Int))))] := c11
      refine And.intro ⟨by omega, by omega⟩ ?_
      have el : max l (x.value - p.2 - g.rise * (x.slot - (t : Int))) = g.lo_ t (i + 1) := by rw [lo_step hx lx, hl, alLo_a hcmp]
      have eh : min h (x.value - p.1 + g.fall * (x.slot - (t : Int))) = g.hi_ t (i + 1) := by rw [hi_step hx hix, hh, alHi_a hcmp]
      rw [el, eh] at c11
      exact ⟨kk - 1, i + 1, by omega, ⟨by omega, hki.trans ((k59.mono (by simp)).trans (k10.trans k11)), c11⟩, rfl, rfl, rfl, rfl, rfl, trivial⟩
  · have hi : ¬ i < g.rn := by simpa using hge
    have e : i = g.rn := by omega
    subst e
    rw [lo_all v, hi_all v] at c6
    exact hK _ _ hki c6 ⟨rfl, rfl, rfl, rfl, trivial⟩
end
end Go.Ax
/-
  Frost, for FrostTemps: the document's temperatures (41, 18; written by program).
-/
namespace Go.Ax
open Go Go.RowKit Go.Proofs

/-- What append has made so far, one by one: nothing, or a block that is full. -/
def Acc (lo f : Nat) (e : TypeId) (H : Hp) (v : Value) (n : Nat) (cs : List Value) : Prop :=
  (n = 0 ∧ cs = [] ∧ v = .slice none 0 0) ∨ ∃ b, v = .slice (some ⟨b, 0, none⟩) n n ∧ 0 < n ∧ f ≤ b ∧ lo ≤ b ∧ b < H.next ∧ H.t.get b = some (.cells cs e true)
theorem Acc.sl {lo f : Nat} {e : TypeId} {H : Hp} {v : Value} {n : Nat} {cs : List Value} (h : Acc lo f e H v n cs) : ∃ a cap, v = .slice a n cap ∧ Sl H a n cap cs ∧ ∀ b, a = some ⟨b, 0, none⟩ → f ≤ b := by
  rcases h with ⟨rfl, rfl, rfl⟩ | ⟨b, rfl, h0, hf, hl, hn, hg⟩
  · exact ⟨none, 0, rfl, .inl ⟨.inl rfl, rfl, rfl, rfl⟩, fun b e => by cases e⟩
  · refine ⟨_, _, rfl, .inr ⟨b, rfl, ⟨hn, ?_⟩, Nat.le_refl _⟩, fun b e => by cases e; exact hf⟩
    unfold cellsOf; rw [hg]
theorem Acc.keep {lo f : Nat} {e : TypeId} {H H1 : Hp} {v : Value} {n : Nat} {cs : List Value} (h : Acc lo f e H v n cs) (k : Keep H H1 []) : Acc lo f e H1 v n cs :=
  h.imp id fun ⟨b, e1, h0, hf, hl, hn, hg⟩ => ⟨b, e1, h0, hf, hl, Nat.lt_of_lt_of_le hn k.1, by rw [k.2 b hn (by simp)]; exact hg⟩
section
variable {P : Program} {lo : Nat}
theorem heap_append_one {H : Hp} {t0 t1 e ep : TypeId} {size k cap2 f : Nat} {a : Option Addr} {v : Value} {cs news : List Value} (he : sliceElem P t0 = some (e, size)) (ht : P.underlying t1 = some (.slice ep))
    (hs : Sl H a 1 cap2 news) (hl : news.length = 1 * size) (hz : 0 < size) (hone : news.all one = true) (hcl : cs.length = k * size) (hk : k < 1000) (ha : Acc lo f e H v k cs) (hlo : lo ≤ H.next) (hf : f ≤ H.next) :
    ∃ H1 kd, (∀ (n : Nat) (S : Rg) (d : Option Tmp) (x y : Operand) (ty : TypeId) (p : String), evS S x = some v → evS S y = some (.slice a 1 cap2) → heapOp P lo (frS n S) H ⟨d, .call ⟨.builtin .append, #[x, y], #[t0, t1]⟩, ty, p, #[], none⟩ = some (.val (.slice (some ⟨H.next, 0, none⟩) (k + 1) (k + 1)) H1, kd)) ∧ (kd = .heavy ∨ ∃ b, kd = .store b ∧ f ≤ b) ∧
      Acc lo f e H1 (.slice (some ⟨H.next, 0, none⟩) (k + 1) (k + 1)) (k + 1) (cs ++ news) ∧ (∀ F : Hp, F.next = f → Keep F H [] → Keep F H1 []) := by
  rcases ha with ⟨rfl, rfl, rfl⟩ | ⟨b, rfl, h0, hb, hlb, hn, hg⟩
  · refine ⟨H.new (.cells news e true), .heavy, ?_, .inl rfl, ?_, ?_⟩
    · intro n S d x y ty p hx hy
      unfold heapOp
      simp only [evs, ev_frS, hx, hy, builtinV, List.getElem?_toArray, List.getElem?_cons_zero, List.getElem?_cons_succ, he, ht, src_of hs hl, appendV]
      rfl
    · refine .inr ⟨H.next, rfl, by omega, hf, hlo, Nat.lt_succ_self _, ?_⟩
      show (H.t.set H.next _).get H.next = _
      rw [Tr.get_set, if_pos rfl]; rfl
    · intro F hF kF
      exact kF.trans (new_facts rfl).1
  · have h1 : Nat.ble (0 + (k + 1) * size) cs.length = false := by
      cases h : Nat.ble (0 + (k + 1) * size) cs.length with
      | false => rfl
      | true => have := Nat.le_of_ble_eq_true h; rw [hcl, Nat.succ_mul] at this; omega
    have h2 : Nat.beq (0 + k * size) cs.length = true := by rw [hcl, Nat.zero_add]; exact Nat.beq_refl _
    have h3 : Nat.ble (k + 1) 1048576 = true := Nat.ble_eq_true_of_le (by omega)
    have h4 : Nat.beq e e = true := Nat.beq_refl e
    refine ⟨({ H with t := H.t.set b .dead } : Hp).new (.cells (cs ++ news) e true), .store b, ?_, .inr ⟨b, rfl, hb⟩, ?_, ?_⟩
    · intro n S d x y ty p hx hy
      unfold heapOp
      simp only [evs, ev_frS, hx, hy, builtinV, List.getElem?_toArray, List.getElem?_cons_zero, List.getElem?_cons_succ, he, ht, src_of hs hl, appendV, hg, h1, h2, h3, h4, hone, Nat.ble_eq_true_of_le hlb, Bool.and_self, cond_true, cond_false, List.drop_zero, show Nat.beq 1 0 = false from rfl]
    · refine .inr ⟨H.next, rfl, by omega, hf, hlo, Nat.lt_succ_self _, ?_⟩
      show ((H.t.set b .dead).set H.next _).get H.next = _
      rw [Tr.get_set, if_pos rfl]
    · intro F hF kF
      refine ⟨Nat.le_trans kF.1 (Nat.le_succ _), fun c hc _ => ?_⟩
      have := kF.1
      show ((H.t.set b .dead).set H.next _).get c = _
      rw [Tr.get_set, if_neg (by omega), Tr.get_set, if_neg (by omega)]
      exact kF.2 c hc (by simp)
end
theorem reg_ok {kd : Kd} {f : Nat} (h : kd = .heavy ∨ ∃ b, kd = .store b ∧ f ≤ b) (n : Nat) : ∀ b, kd = .read b → b < n := by
  rcases h with rfl | ⟨b, rfl, _⟩ <;> intro c e <;> cases e
noncomputable def R41x1c : RC := (.seq (.seq (.reg [⟨(some 107), none, (.addo (.tmp 6) 0)⟩, ⟨(some 108), none, (.ld (.tmp 107) 1)⟩, ⟨(some 109), none, (.addo (.tmp 6) 1)⟩, ⟨(some 110), none, (.ld (.tmp 109) 1)⟩, ⟨(some 111), none, (.cmp .gtr (.tmp 108) (.tmp 110))⟩])
  (.cond (.tmp 111) (.seq (.reg [⟨(some 2), none, (.mov (.const (.slice none 0 0)))⟩, ⟨(some 3), none, (.mov (.const (.bool false)))⟩])
  .ret)
  .skip))
  (.reg [⟨(some 112), none, (.mov (.tmp 4))⟩, ⟨(some 113), none, (.lda (.tmp 6) 2)⟩, ⟨(some 114), none, (.mem ⟨(some 114), (.buildSlice 22 1 (List.toArray [(0, (.tmp 113))])), 22, "", (List.toArray []), none⟩)⟩, ⟨(some 115), none, (.mem ⟨(some 115), (.call ⟨(.builtin .append), (List.toArray [(.tmp 112), (.tmp 114)]), (List.toArray [22, 22])⟩), 22, "", (List.toArray []), none⟩)⟩, ⟨(some 4), none, (.mov (.tmp 115))⟩]))
theorem L41x1c : low Tryz.prog 117 (at_ Tryz.f41 [1, 1, 0, 1, 0, 0, 1, 0, 0, 1, 1]) = some R41x1c := by kernel_rfl
noncomputable def R41x1v : RC := (.seq (.seq (.reg [⟨(some 10), none, (.mov (.tmp 5))⟩, ⟨(some 11), none, (.addo (.tmp 1) 0)⟩, ⟨(some 12), none, (.ld (.tmp 11) 1)⟩, ⟨(some 13), none, (.cmp .lss (.tmp 10) (.tmp 12))⟩])
  (.cond (.tmp 13) .skip
  (.exit 0)))
  (.seq (.block 1 (.seq (.reg [⟨(some 16), none, (.pur ⟨(some 16), (.build 48 (List.toArray [(0, (.const (.int .i64 (-5000)))), (1, (.const (.int .i64 5000)))])), 48, "", (List.toArray []), none⟩)⟩, ⟨(some 6), none, (.alc 48 [(.int .i64 0), (.int .i64 0)])⟩, ⟨none, none, (.sta (.tmp 6) (.tmp 16) 2)⟩])
  (.seq (.seq (.reg [⟨(some 7), none, (.mov (.const (.int .i64 0)))⟩])
  (.block 2 (.other (at_ Tryz.f41 [1, 1, 0, 1, 0, 0, 1, 0, 0, 1, 0, 1, 0]))))
  (.other (at_ Tryz.f41 [1, 1, 0, 1, 0, 0, 1, 0, 0, 1, 1])))))
  (.reg [⟨(some 14), none, (.mov (.tmp 5))⟩, ⟨(some 15), none, (.ari .add (.tmp 14) (.const (.int .i64 1)))⟩, ⟨(some 5), none, (.mov (.tmp 15))⟩])))
theorem V41x1 : LV Tryz.prog 117 (at_ Tryz.f41 [1, 1, 0, 1, 0, 0]) R41x1v := by
  have e : (at_ Tryz.f41 [1, 1, 0, 1, 0, 0]) = (.seq (at_ Tryz.f41 [1, 1, 0, 1, 0, 0, 0]) (.seq (.block 1 (.seq (at_ Tryz.f41 [1, 1, 0, 1, 0, 0, 1, 0, 0, 0]) (.seq (at_ Tryz.f41 [1, 1, 0, 1, 0, 0, 1, 0, 0, 1, 0]) (at_ Tryz.f41 [1, 1, 0, 1, 0, 0, 1, 0, 0, 1, 1])))) (at_ Tryz.f41 [1, 1, 0, 1, 0, 0, 1, 1]))) := by kernel_rfl
  rw [e]
  exact (.seq (.low (by kernel_rfl)) (.seq (.block 1 (.seq (.low (by kernel_rfl)) (.seq (.low (by kernel_rfl)) (.other _)))) (.low (by kernel_rfl))))
theorem u22 : Tryz.prog.underlying 22 = some (.slice 48) := by kernel_rfl
theorem has_of {g : Ng} (h : ∀ j, j < g.n → g.least j ≤ g.great j) : g.has = true := by
  unfold Ng.has
  rw [List.all_eq_true]
  intro p hp
  obtain ⟨t, ht, rfl⟩ := g.mem_spans hp
  have := h t ht
  simp only [Bool.not_eq_true', decide_eq_false_iff_not]
  omega
theorem spc_len (ss : List (Int × Int)) : (spc ss).length = ss.length * 2 := by
  unfold spc
  rw [flat_len (size := 2) (fun _ _ => rfl)]
section
variable {kn : FuncId → Option Bool} {lo : Nat} {H : Hp}
theorem rt_outer {g : Ng} (v : g.Vd) {b1 : Nat} {S : Rg} {K : Exit → Rg → Hp → Prop}
    (d1 : Cl H b1 g.v) (hs : Sl H g.sa g.sn g.scap (spc g.ss)) (hr : Sl H g.ra g.rn g.rcap (rdc g.rs)) (hlo : lo ≤ H.next)
    (hS : Subs [(1, pt b1), (4, .slice none 0 0), (5, iv ((0 : Nat) : Int))] S)
    (hbad : ∀ S' H', g.has = false → Keep H H' [] → lk S' 2 = some (.slice none 0 0) → lk S' 3 = some (.bool false) → K .ret S' H')
    (hok : ∀ w S' H', g.has = true → Keep H H' [] → Acc lo H.next 48 H' w g.n (spc g.spans) → Subs [(4, w)] S' → K (.exit 0) S' H') :
    Tri Tryz.prog kn lo 117 false (at_ Tryz.f41 [1, 1, 0, 1, 0]) S H K := by
  have hsl := v.sl
  have hn96 := v.n96
  have lb1 := d1.lt
  have fs : ∀ b, g.sa = some ⟨b, 0, none⟩ → b < H.next := fun b e => by
    rcases hs with ⟨h | h, _⟩ | ⟨b', e', h, _⟩
    · rw [h] at e; cases e
    · rw [h] at e; cases e
    · rw [e'] at e; cases e; exact h.lt
  have fr : ∀ b, g.ra = some ⟨b, 0, none⟩ → b < H.next := fun b e => by
    rcases hr with ⟨h | h, _⟩ | ⟨b', e', h, _⟩
    · rw [h] at e; cases e
    · rw [h] at e; cases e
    · rw [e'] at e; cases e; exact h.lt
  refine loop_lv E41_1 V41x1 (fun x : Value × Nat => [(1, pt b1), (4, x.1), (5, iv (x.2 : Int))])
    (fun k x H' => x.2 + k = g.n ∧ Keep H H' [] ∧ Acc lo H.next 48 H' x.1 x.2 (spc (g.spans.take x.2)) ∧ ∀ j, j < x.2 → g.least j ≤ g.great j) g.n (.slice none 0 0, 0) ⟨by omega, Keep.refl _ _, .inl ⟨rfl, rfl, rfl⟩, fun j hj => by omega⟩ hS ?_
  rintro kk ⟨w, t⟩ H5 ⟨hik, hki, hacc, hall⟩
  simp only at hik hacc hall
  have hm5 := hki.1
  have d5 := hki.cl d1 (by simp)
  refine Exists.intro _ (Exists.intro _ (And.intro d5.of (And.intro (show _ = some (iv g.slots) from rfl) ?_)))
  refine And.intro (fun hlt => ?_) (fun hge => ?_)
  · have ht : t < g.n := by have := of_decide_eq_true hlt; omega
    refine And.intro rfl (Exists.intro _ (And.intro (pure_span (lo := 0) rfl rfl) ?_))
    intro H6 hH6; obtain ⟨k6, n6, c7⟩ := new_facts hH6; clear hH6
    obtain ⟨_, e7, l7, g7⟩ := id c7
    refine Exists.intro _ (Exists.intro _ (Exists.intro _ (And.intro g7 (And.intro (by omega) (And.intro rfl (And.intro rfl (And.intro (by simp) ?_)))))))
    intro H7 hH7; obtain ⟨k7, n7, c7⟩ := up_facts c7 hH7; clear hH7
    have c7 : Cl H7 H5.next [iv (-5000), iv 5000] := c7
    have k57 : Keep H5 H7 [] := k6.new k7 (fun b hb => .inr (by simp at hb; omega))
    have k07 := hki.trans k57
    refine rt_inner v ht (f := H5.next) (k57.cl d5 (by simp)) c7 (k07.sl0 hs) (k07.sl0 hr) (by omega) (by omega) (by omega) (fun b e => by have := fs b e; omega) (fun b e => by have := fr b e; omega) (Nat.le_refl _) ⟨rfl, rfl, rfl, rfl, rfl, trivial⟩ (fun S8 H8 k8 c8 hS8 => ?_)
    have k58 : Keep H5 H8 [] := k57.new k8 (fun b hb => .inr (by simp at hb; omega))
    have k08 := hki.trans k58
    refine tri_piece L41x1c hS8 ?_
    refine Exists.intro _ (Exists.intro _ (And.intro c8.of (And.intro (show _ = some (iv (g.least t)) from rfl) ?_)))
    refine Exists.intro _ (Exists.intro _ (And.intro c8.of (And.intro (show _ = some (iv (g.great t)) from rfl) ?_)))
    refine And.intro (fun hgt => ?_) (fun hle => ?_)
    · have hgt : g.least t > g.great t := of_decide_eq_true hgt
      refine hbad _ _ ?_ k08 rfl rfl
      cases hh : g.has with
      | false => rfl
      | true => have := has_le hh ht; omega
    have hle : g.least t ≤ g.great t := by have := of_decide_eq_false hle; omega
    refine Exists.intro _ (Exists.intro _ (And.intro c8.of (And.intro (show row 2 [iv (g.least t), iv (g.great t)] 0 = some [iv (g.least t), iv (g.great t)] from rfl) ?_)))
    obtain ⟨H3, hH3⟩ : ∃ H3, H8.new (.cells [iv (g.least t), iv (g.great t)] 48 false) = H3 := ⟨_, rfl⟩
    refine And.intro rfl (Or.inr (And.intro rfl (Exists.intro _ (Exists.intro H3 (Exists.intro _ (And.intro ((heap_build1 (v := .agg #[iv (g.least t), iv (g.great t)]) se22 z48 rfl rfl rfl (by decide)).trans (by rw [← hH3]; rfl)) (And.intro (fun b e => by cases e) ?_)))))))
    obtain ⟨k3, n3, c3⟩ := new_facts hH3
    clear hH3
    have hsl3 : Sl H3 (some ⟨H8.next, 0, none⟩) 1 1 [iv (g.least t), iv (g.great t)] := .inr ⟨H8.next, rfl, c3.rd, Nat.le_refl _⟩
    have k53 := k58.trans k3
    have hn58 := k58.1
    have hspl := g.spans_len
    obtain ⟨H4, kd, h4, hkd, acc4, kk4⟩ := heap_append_one (P := Tryz.prog) (lo := lo) (k := t) (t1 := 22) se22 u22 hsl3 rfl (by decide) rfl (by rw [spc_len, List.length_take]; omega) (by omega) (hacc.keep k53) (by omega) (by omega)
    refine And.intro rfl (Or.inr (And.intro (by cases w <;> kernel_rfl) (Exists.intro _ (Exists.intro H4 (Exists.intro _ (And.intro (h4 _ _ _ _ _ _ _ rfl rfl) (And.intro (reg_ok hkd _) ?_)))))))
    refine And.intro (show InR ((t : Int) + 1) from ⟨by omega, by omega⟩) ?_
    refine ⟨kk - 1, (_, t + 1), by omega, ⟨by show t + 1 + (kk - 1) = g.n; omega, kk4 H rfl (hki.trans k53), ?_, fun j hj => ?_⟩, rfl, rfl, rfl, trivial⟩
    · have e : spc (g.spans.take (t + 1)) = spc (g.spans.take t) ++ [iv (g.least t), iv (g.great t)] := by
        rw [List.take_add_one, g.spans_get t ht]
        simp [spc]
      show Acc _ _ _ _ _ (t + 1) (spc (g.spans.take (t + 1)))
      rw [e]
      exact acc4
    · have hj : j < t + 1 := hj
      rcases Nat.lt_or_ge j t with q | q
      · exact hall j q
      · have : j = t := by omega
        subst this; exact hle
  · have ht : ¬ t < g.n := by have := of_decide_eq_false hge; omega
    have e : t = g.n := by omega
    subst e
    rw [List.take_of_length_le (by rw [g.spans_len]; exact Nat.le_refl _)] at hacc
    exact hok w _ _ (has_of hall) hki hacc ⟨rfl, trivial⟩
end
end Go.Ax
/-
  Frost, for FrostTemps: the document's Temps (41, 18; written by program).
-/
namespace Go.Ax
open Go Go.RowKit Go.Proofs

noncomputable def R41r : RC := (.seq (.reg [⟨(some 116), none, (.mov (.tmp 4))⟩, ⟨(some 2), none, (.mov (.tmp 116))⟩, ⟨(some 3), none, (.mov (.const (.bool true)))⟩])
  .ret)
theorem L41r : low Tryz.prog 117 (at_ Tryz.f41 [1, 1, 1]) = some R41r := by kernel_rfl
noncomputable def R41v : RC := (.seq (.reg [⟨(some 1), none, (.box 25 (.tmp 0))⟩, ⟨(some 2), none, (.mov (.const (.slice none 0 0)))⟩, ⟨(some 3), none, (.mov (.const (.bool false)))⟩])
  (.seq (.reg [⟨(some 4), none, (.mov (.const (.slice none 0 0)))⟩])
  (.seq (.seq (.reg [⟨(some 5), none, (.mov (.const (.int .i64 0)))⟩])
  (.block 0 (.other (at_ Tryz.f41 [1, 1, 0, 1, 0]))))
  (.other (at_ Tryz.f41 [1, 1, 1])))))
theorem V41 : LV Tryz.prog 117 (at_ Tryz.f41 []) R41v := by
  have e : (at_ Tryz.f41 []) = (.seq (at_ Tryz.f41 [0]) (.seq (at_ Tryz.f41 [1, 0]) (.seq (at_ Tryz.f41 [1, 1, 0]) (at_ Tryz.f41 [1, 1, 1])))) := by kernel_rfl
  rw [e]
  exact (.seq (.low (by kernel_rfl)) (.seq (.low (by kernel_rfl)) (.seq (.low (by kernel_rfl)) (.other _))))
section
variable {kn : FuncId → Option Bool} {lo : Nat} {H : Hp}
/-- what the document's temps answers -/
def Ng.Rt (g : Ng) (H : Hp) (w : Value) (H' : Hp) : Prop :=
  (g.has = true ∧ ∃ b, w = .tuple #[slv b g.n g.n, .bool true] ∧ H.next ≤ b ∧ Cl H' b (spc g.spans)) ∨ (g.has = false ∧ w = .tuple #[.slice none 0 0, .bool false])
theorem rt_ok {g : Ng} (v : g.Vd) (h1 : 1 ≤ g.n) (hs : Sl H g.sa g.sn g.scap (spc g.ss)) (hr : Sl H g.ra g.rn g.rcap (rdc g.rs)) (hlo : lo ≤ H.next) :
    ∃ w H', FnX Tryz.prog kn lo 41 [.agg g.v.toArray] H w H' ∧ Keep H H' [] ∧ g.Rt H w H' := by
  refine fnX_lv (kn := kn) (lo := lo) (H := H) (args := [.agg g.v.toArray]) (Q := fun w H' => Keep H H' [] ∧ g.Rt H w H') Tryz.func41 B41 N41 Z41 V41 (by simp) ?_
  intro H1 hH1; obtain ⟨k1, n1, c1⟩ := new_facts hH1; clear hH1
  have c1 : Cl H1 H.next g.v := c1
  refine rt_outer v c1 (k1.sl0 hs) (k1.sl0 hr) (by omega) ⟨rfl, rfl, rfl, trivial⟩ (fun S' H' hh k a b => ?_) (fun w S' H' hh k acc hS' => ?_)
  · exact And.intro trivial (Exists.intro _ (And.intro (by simp only [resS, a, b]; rfl) ⟨k1.trans k, Or.inr ⟨hh, rfl⟩⟩))
  · refine tri_piece L41r hS' ?_
    rcases acc with ⟨h0, _⟩ | ⟨b, rfl, h0, hf, hl, hn, hg⟩
    · omega
    exact And.intro trivial (Exists.intro _ (And.intro rfl ⟨k1.trans k, Or.inl ⟨hh, b, rfl, by omega, hn, 48, true, hg⟩⟩))
theorem rtm_ok {g : Ng} (hn : g.ok = true → g.slots = (g.n : Int)) (hs : Sl H g.sa g.sn g.scap (spc g.ss)) (hr : Sl H g.ra g.rn g.rcap (rdc g.rs)) (hsn : g.ss.length = g.sn) (hrn : g.rs.length = g.rn) (hlo : lo ≤ H.next) :
    ∃ w H', FnX Tryz.prog kn lo 18 [.agg g.v.toArray] H w H' ∧ Keep H H' [] ∧ g.Tm H w H' := by
  refine fnX_low (kn := kn) (lo := lo) (H := H) (args := [.agg g.v.toArray]) (Q := fun w H' => Keep H H' [] ∧ g.Tm H w H') Tryz.func18 B18 N18 Z18 L18 (by simp) ?_
  intro H1 hH1; obtain ⟨k1, n1, c1⟩ := new_facts hH1; clear hH1
  have c1 : Cl H1 H.next g.v := c1
  refine Exists.intro _ (Exists.intro _ (And.intro c1.of (And.intro (show row 5 g.v 0 = some g.v from rfl) ?_)))
  have hlo1 : lo ≤ H1.next := by have := k1.1; omega
  refine callB (refnight_ok (k1.sl0 hs) (k1.sl0 hr) hsn hrn hlo1) ?_
  intro t2 H2 h2 k2
  have k12 := k1.trans k2
  have c2 := k2.cl c1 (by simp)
  refine And.intro rfl (Exists.intro (.bool (!t2)) (And.intro rfl ?_))
  cases t2
  · refine condT ?_
    exact And.intro trivial (Exists.intro _ (And.intro rfl ⟨k12, Or.inr (Or.inr ⟨h2, rfl⟩)⟩))
  refine condF ?_
  have v := Ng.vd h2 (hn h2) hsn hrn
  have h1n : 1 ≤ g.n := by
    have : inB g.slots 1 96 = true := by
      simp only [Ng.ok, Bool.and_eq_true] at h2
      exact h2.1.1.1.1.1.1
    simp only [inB, Bool.and_eq_true, decide_eq_true_eq] at this
    have := hn h2
    omega
  obtain ⟨w, H3, f3, k3, hcase⟩ := rt_ok (kn := kn) (lo := lo) v h1n (k12.sl0 hs) (k12.sl0 hr) (by have := k12.1; omega)
  refine Exists.intro _ (Exists.intro _ (And.intro c2.of (And.intro (show row 5 g.v 0 = some g.v from rfl) ?_)))
  refine Exists.intro _ (Exists.intro _ (And.intro (callX_args f3) ?_))
  have k13 := k12.trans k3
  rcases hcase with ⟨ha, b, rfl, hb, c3⟩ | ⟨ha, rfl⟩
  · refine And.intro rfl (Exists.intro (slv b g.n g.n) (And.intro (by kernel_rfl) ?_))
    refine And.intro rfl (Exists.intro (.bool true) (And.intro (by kernel_rfl) ?_))
    refine And.intro rfl (Exists.intro (.bool false) (And.intro rfl ?_))
    refine condF ?_
    exact And.intro trivial (Exists.intro _ (And.intro rfl ⟨k13, Or.inl ⟨h2, ha, b, rfl, by have := k12.1; omega, c3⟩⟩))
  · refine And.intro rfl (Exists.intro (.slice none 0 0) (And.intro (by kernel_rfl) ?_))
    refine And.intro rfl (Exists.intro (.bool false) (And.intro (by kernel_rfl) ?_))
    refine And.intro rfl (Exists.intro (.bool true) (And.intro rfl ?_))
    refine condT ?_
    exact And.intro trivial (Exists.intro _ (And.intro rfl ⟨k13, Or.inr (Or.inl ⟨h2, ha, rfl⟩)⟩))
end
end Go.Ax
/-
  Frost, for FrostTemps: the document's Ice (20; written by program).
-/
namespace Go.Ax
open Go Go.RowKit Go.Proofs

/-- the slots of Ice, one by one: how many are left, which one, how much ice -/
def iceL (sp : List (Int × Int)) (gain limit : Int) : Nat → Nat → Int → Int × Int
  | 0, _, _ => (0, 4)
  | k + 1, i, ice => if (if (sp.getD i (0, 0)).1 ≤ 0 then ice + gain else ice) > limit then ((i : Int), 0) else iceL sp gain limit k (i + 1) (if (sp.getD i (0, 0)).1 ≤ 0 then ice + gain else ice)
def rngB (g : Ng) (a b gain limit : Int) : Bool := inB b 0 (g.slots - 1) && inB a 0 b && inB gain 0 1099511627776 && inB limit 0 1099511627776
def iceV (g : Ng) (a b gain limit : Int) : Int × Int :=
  if g.ok = true then if g.has = true then if rngB g a b gain limit = true then iceL g.spans gain limit (b - a + 1).toNat a.toNat 0 else (0, 2) else (0, 6) else (0, 1)
section
variable {kn : FuncId → Option Bool} {lo : Nat} {H : Hp}
theorem ice20_ok {g : Ng} {a b gain limit : Int} (hn : g.ok = true → g.slots = (g.n : Int)) (hs : Sl H g.sa g.sn g.scap (spc g.ss)) (hr : Sl H g.ra g.rn g.rcap (rdc g.rs)) (hsn : g.ss.length = g.sn) (hrn : g.rs.length = g.rn) (hlo : lo ≤ H.next) :
    ∃ H', FnX Tryz.prog kn lo 20 [.agg g.v.toArray, iv a, iv b, iv gain, iv limit] H (.tuple #[iv (iceV g a b gain limit).1, iv (iceV g a b gain limit).2]) H' ∧ Keep H H' [] := by
  have key := fnX_low (kn := kn) (lo := lo) (H := H) (args := [.agg g.v.toArray, iv a, iv b, iv gain, iv limit]) (Q := fun w H' => w = .tuple #[iv (iceV g a b gain limit).1, iv (iceV g a b gain limit).2] ∧ Keep H H' []) Tryz.func20 B20 N20 Z20 L20 (by simp) ?_
  · obtain ⟨w, H', h, rfl, q⟩ := key; exact ⟨H', h, q⟩
  have done : ∀ (x y : Int) (H9 : Hp), Keep H H9 [] → iceV g a b gain limit = (x, y) → retV [iv x, iv y] = .tuple #[iv (iceV g a b gain limit).1, iv (iceV g a b gain limit).2] ∧ Keep H H9 [] := fun x y H9 k h => ⟨by rw [h]; rfl, k⟩
  intro H1 hH1; obtain ⟨k1, n1, c1⟩ := new_facts hH1; clear hH1
  have c1 : Cl H1 H.next g.v := c1
  refine Exists.intro _ (Exists.intro _ (And.intro c1.of (And.intro (show row 5 g.v 0 = some g.v from rfl) ?_)))
  have hlo1 : lo ≤ H1.next := by have := k1.1; omega
  refine callB (refnight_ok (k1.sl0 hs) (k1.sl0 hr) hsn hrn hlo1) ?_
  intro t2 H2 h2 k2
  have k02 := k1.trans k2
  have c2 := k2.cl c1 (by simp)
  refine And.intro rfl (Exists.intro (.bool (!t2)) (And.intro rfl ?_))
  cases t2
  · refine condT ?_
    exact And.intro trivial (Exists.intro _ (And.intro rfl (done _ _ H2 k02 (by unfold iceV; rw [h2]; rfl))))
  refine condF ?_
  have v := Ng.vd h2 (hn h2) hsn hrn
  have h1n : 1 ≤ g.n := by
    have : inB g.slots 1 96 = true := by
      simp only [Ng.ok, Bool.and_eq_true] at h2
      exact h2.1.1.1.1.1.1
    simp only [inB, Bool.and_eq_true, decide_eq_true_eq] at this
    have := hn h2
    omega
  obtain ⟨w, H3, f3, k3, hcase⟩ := rt_ok (kn := kn) (lo := lo) v h1n (k02.sl0 hs) (k02.sl0 hr) (by have := k02.1; omega)
  refine Exists.intro _ (Exists.intro _ (And.intro c2.of (And.intro (show row 5 g.v 0 = some g.v from rfl) ?_)))
  refine Exists.intro _ (Exists.intro _ (And.intro (callX_args f3) ?_))
  have k03 := k02.trans k3
  have c3 := k3.cl c2 (by simp)
  rcases hcase with ⟨ha, sb, rfl, hb, cb⟩ | ⟨ha, rfl⟩
  rotate_left
  · refine And.intro rfl (Exists.intro (.slice none 0 0) (And.intro (by kernel_rfl) ?_))
    refine And.intro rfl (Exists.intro (.bool false) (And.intro (by kernel_rfl) ?_))
    refine And.intro rfl (Exists.intro (.bool true) (And.intro rfl ?_))
    refine condT ?_
    exact And.intro trivial (Exists.intro _ (And.intro rfl (done _ _ H3 k03 (by unfold iceV; rw [h2, ha]; rfl))))
  refine And.intro rfl (Exists.intro (slv sb g.n g.n) (And.intro (by kernel_rfl) ?_))
  refine And.intro rfl (Exists.intro (.bool true) (And.intro (by kernel_rfl) ?_))
  refine And.intro rfl (Exists.intro (.bool false) (And.intro rfl ?_))
  refine condF ?_
  have hsl := v.sl
  have hn96 := v.n96
  have k05 := k03
  have kb5 := Keep.refl H3 []
  refine Exists.intro _ (Exists.intro _ (And.intro c3.of (And.intro (show _ = some (iv g.slots) from rfl) ?_)))
  refine And.intro ⟨by omega, by omega⟩ ?_
  refine callB in45_ok ?_
  intro t6 H6 h6 k6
  have k06 := k05.trans k6
  have kb6 := kb5.trans k6
  refine And.intro rfl (Exists.intro (.bool (!t6)) (And.intro rfl ?_))
  cases t6
  · repeat (refine And.intro rfl (Exists.intro (.bool true) (And.intro rfl ?_)))
    refine condT ?_
    exact And.intro trivial (Exists.intro _ (And.intro rfl (done _ _ H6 k06 (by unfold iceV rngB; rw [h2, ha]; simp only [h6, Bool.and_false, Bool.false_and, if_true, if_false, Bool.false_eq_true, reduceIte]))))
  refine callB in45_ok ?_
  intro t7 H7 h7 k7
  have k07 := k06.trans k7
  have kb7 := kb6.trans k7
  refine And.intro rfl (Exists.intro (.bool (!t7)) (And.intro rfl ?_))
  refine And.intro rfl (Exists.intro (.bool (!t7)) (And.intro rfl ?_))
  cases t7
  · repeat (refine And.intro rfl (Exists.intro (.bool true) (And.intro rfl ?_)))
    refine condT ?_
    exact And.intro trivial (Exists.intro _ (And.intro rfl (done _ _ H7 k07 (by unfold iceV rngB; rw [h2, ha]; simp only [h6, h7, Bool.and_false, Bool.false_and, if_true, if_false, Bool.false_eq_true, reduceIte]))))
  refine callB in45_ok ?_
  intro t8 H8 h8 k8
  have k08 := k07.trans k8
  have kb8 := kb7.trans k8
  refine And.intro rfl (Exists.intro (.bool (!t8)) (And.intro rfl ?_))
  refine And.intro rfl (Exists.intro (.bool (!t8)) (And.intro rfl ?_))
  cases t8
  · repeat (refine And.intro rfl (Exists.intro (.bool true) (And.intro rfl ?_)))
    refine condT ?_
    exact And.intro trivial (Exists.intro _ (And.intro rfl (done _ _ H8 k08 (by unfold iceV rngB; rw [h2, ha]; simp only [h6, h7, h8, Bool.and_false, Bool.false_and, if_true, if_false, Bool.false_eq_true, reduceIte]))))
  refine callB in45_ok ?_
  intro t9 H9 h9 k9
  have k09 := k08.trans k9
  have kb9 := kb8.trans k9
  refine And.intro rfl (Exists.intro (.bool (!t9)) (And.intro rfl ?_))
  refine And.intro rfl (Exists.intro (.bool (!t9)) (And.intro rfl ?_))
  cases t9
  · refine condT ?_
    exact And.intro trivial (Exists.intro _ (And.intro rfl (done _ _ H9 k09 (by unfold iceV rngB; rw [h2, ha]; simp only [h6, h7, h8, h9, Bool.and_false, if_true, Bool.false_eq_true, reduceIte]))))
  refine condF ?_
  have hR : iceV g a b gain limit = iceL g.spans gain limit (b - a + 1).toNat a.toNat 0 := by
    unfold iceV rngB; rw [h2, ha]; simp only [h6, h7, h8, h9, Bool.and_true, if_true, reduceIte]
  simp only [inB, Bool.and_eq_true, decide_eq_true_eq] at h6 h7 h8 h9
  have cb9 := kb9.cl cb (by simp)
  obtain ⟨a, rfl⟩ := Int.eq_ofNat_of_zero_le h7.1
  have hslen := g.spans_len
  refine loop_low (fn := Tryz.f20) E20_1 N20 L20x1 (fun x : Nat × Int => [(2, iv b), (3, iv gain), (4, iv limit), (12, slv sb g.n g.n), (14, iv x.2), (15, iv (x.1 : Int))])
    (fun k x H' => (x.1 : Int) + k = b + 1 ∧ (0 ≤ x.2 ∧ x.2 ≤ limit) ∧ Keep H9 H' [] ∧ iceV g a b gain limit = iceL g.spans gain limit k x.1 x.2) (b - a + 1).toNat (a, 0) ⟨by simp only; omega, by simp only; omega, Keep.refl _ _, hR⟩ ⟨rfl, rfl, rfl, rfl, rfl, rfl, trivial⟩ ?_
  rintro kk ⟨i, ice⟩ H5 ⟨hik, hice, hki, hv⟩
  simp only at hik hice hv
  refine And.intro (fun hle => ?_) (fun hgt => ?_)
  · have hi : (i : Int) ≤ b := by simpa using hle
    obtain ⟨kk, rfl⟩ : ∃ k, kk = k + 1 := ⟨kk - 1, by omega⟩
    have hin : i < g.n := by omega
    have hp := g.spans_get i hin
    generalize hpe : (g.least i, g.great i) = p at hp
    have cb5 := hki.cl cb9 (by simp)
    have hget : (g.spans.getD i (0, 0)) = p := by simp [List.getD, hp]
    simp only [iceL, hget] at hv
    have k05 := k09.trans hki
    refine Exists.intro i (And.intro rfl (And.intro hin ?_))
    refine Exists.intro _ (Exists.intro _ (And.intro cb5.of (And.intro (span_get (k := i) (l := p.1) (h := p.2) hp).1 ?_)))
    refine And.intro (fun hlt => ?_) (fun hnl => ?_)
    · have hp1 : p.1 ≤ 0 := by simpa using hlt
      rw [if_pos hp1] at hv
      refine And.intro ⟨by omega, by omega⟩ ?_
      refine And.intro (fun hg => ?_) (fun hg => ?_)
      · have hg : ice + gain > limit := of_decide_eq_true hg
        rw [if_pos hg] at hv
        exact And.intro trivial (Exists.intro _ (And.intro rfl (done _ _ H5 k05 hv)))
      · have hg : ¬ ice + gain > limit := of_decide_eq_false hg
        rw [if_neg hg] at hv
        refine And.intro ⟨by omega, by omega⟩ ?_
        exact ⟨kk, (i + 1, ice + gain), by omega, ⟨by simp only; omega, by simp only; omega, hki, hv⟩, rfl, rfl, rfl, rfl, rfl, rfl, trivial⟩
    · have hp1 : ¬ p.1 ≤ 0 := by simpa using hnl
      rw [if_neg hp1] at hv
      refine And.intro (fun hg => ?_) (fun hg => ?_)
      · have hg : ice > limit := of_decide_eq_true hg
        omega
      · have hg : ¬ ice > limit := of_decide_eq_false hg
        rw [if_neg hg] at hv
        refine And.intro ⟨by omega, by omega⟩ ?_
        exact ⟨kk, (i + 1, ice), by omega, ⟨by simp only; omega, by simp only; omega, hki, hv⟩, rfl, rfl, rfl, rfl, rfl, rfl, trivial⟩
  · have hi : ¬ (i : Int) ≤ b := by simpa using hgt
    obtain rfl : kk = 0 := by omega
    exact And.intro trivial (Exists.intro _ (And.intro rfl (done _ _ H5 (k09.trans hki) hv)))
end
end Go.Ax
/-
  Frost, for FrostTemps: a round of Ice (19; written by program).
-/
namespace Go.Ax
open Go Go.RowKit Go.Proofs

noncomputable def R19t : RC := (.seq (.reg [⟨(some 57), none, (.ld (.tmp 14) 1)⟩, ⟨(some 58), none, (.ld (.tmp 9) 1)⟩, ⟨(some 59), none, (.cmp .gtr (.tmp 57) (.tmp 58))⟩])
  (.cond (.tmp 59) (.seq (.reg [⟨(some 60), none, (.mov (.tmp 15))⟩, ⟨none, none, (.st (.tmp 10) (.tmp 60))⟩, ⟨none, none, (.st (.tmp 11) (.const (.int .i64 0)))⟩])
  .ret)
  .skip))
theorem L19t : low Tryz.prog 61 (at_ Tryz.f19 [1, 1, 1, 1, 1, 0, 1, 0, 1, 0, 1]) = some R19t := by kernel_rfl
noncomputable def R19x2v : RC := (.block 1 (.seq (.seq (.reg [⟨(some 48), none, (.ld (.tmp 12) 1)⟩, ⟨(some 49), none, (.mov (.tmp 15))⟩, ⟨(some 50), none, (.idx (.tmp 48) (.tmp 49) 2)⟩, ⟨(some 51), none, (.addo (.tmp 50) 0)⟩, ⟨(some 52), none, (.ld (.tmp 51) 1)⟩, ⟨(some 53), none, (.cmp .leq (.tmp 52) (.const (.int .i64 0)))⟩])
  (.cond (.tmp 53) (.reg [⟨(some 54), none, (.ld (.tmp 14) 1)⟩, ⟨(some 55), none, (.ld (.tmp 8) 1)⟩, ⟨(some 56), none, (.ari .add (.tmp 54) (.tmp 55))⟩, ⟨none, none, (.st (.tmp 14) (.tmp 56))⟩])
  .skip))
  (.other (at_ Tryz.f19 [1, 1, 1, 1, 1, 0, 1, 0, 1, 0, 1]))))
theorem V19x2 : LV Tryz.prog 61 (at_ Tryz.f19 [1, 1, 1, 1, 1, 0, 1, 0, 1]) R19x2v := by
  have e : (at_ Tryz.f19 [1, 1, 1, 1, 1, 0, 1, 0, 1]) = (.block 1 (.seq (at_ Tryz.f19 [1, 1, 1, 1, 1, 0, 1, 0, 1, 0, 0]) (at_ Tryz.f19 [1, 1, 1, 1, 1, 0, 1, 0, 1, 0, 1]))) := by kernel_rfl
  rw [e]
  exact (.block 1 (.seq (.low (by kernel_rfl)) (.other _)))
noncomputable abbrev asg19 : Code := at_ Tryz.f19 [1, 1, 1, 1, 1, 0, 1, 0, 0]
noncomputable abbrev body19 : Code := at_ Tryz.f19 [1, 1, 1, 1, 1, 0, 1, 0, 1]
section
variable {kn : FuncId → Option Bool} {lo : Nat} {H : Hp}
/-- The slots from one to another one; the loop may end early. -/
theorem iterE_ok {l b1 b2 i0 : Nat} {b : Int} (J : Nat → Hp → Prop) (D : Hp → Prop) (hb : b ≤ 1000) (h0 : (i0 : Int) ≤ b + 1) (h1 : Rd H b1 [iv (i0 : Int)]) (hJ0 : J i0 H) (hJe : ∀ i H, J i H → Rd H b2 [iv b])
    (step : ∀ (i : Nat) H, (i : Int) ≤ b → J i H → ∃ t H', CallsX Tryz.prog kn lo (.fn (.yield l) #[]) [iv i] H (.bool t) H' ∧ (bif t then J (i + 1) H' else D H')) :
    ∃ H', FnX Tryz.prog kn lo 67 [.func (.yield l) #[] #[], pt b1, pt b2] H unit H' ∧ ((∃ i : Nat, (i : Int) = b + 1 ∧ J i H') ∨ D H') := by
  have key := fnX_low (kn := kn) (lo := lo) (H := H) (args := [.func (.yield l) #[] #[], pt b1, pt b2]) (Q := fun v H' => v = unit ∧ ((∃ i : Nat, (i : Int) = b + 1 ∧ J i H') ∨ D H')) Tryz.func67 B67 N67 Z67 L67 (by simp) ?_
  · obtain ⟨v, H', h, rfl, q⟩ := key; exact ⟨H', h, q⟩
  refine Exists.intro _ (Exists.intro _ (And.intro h1.of (And.intro rfl ?_)))
  refine loop_low (fn := Tryz.f67) E67_1 N67 L67x1 (fun i : Nat => [(0, .func (.yield l) #[] #[]), (2, pt b2), (4, iv i)])
    (fun k i H' => (i : Int) + k = b + 1 ∧ J i H') (b + 1 - i0).toNat i0 ⟨by omega, hJ0⟩ ⟨rfl, rfl, rfl, trivial⟩ ?_
  rintro k i H1 ⟨hik, hJ⟩
  refine Exists.intro _ (Exists.intro _ (And.intro (hJe i H1 hJ).of (And.intro rfl ?_)))
  refine And.intro (fun hle => ?_) (fun hgt => ?_)
  · have hi : (i : Int) ≤ b := by simpa using hle
    obtain ⟨t, H2, h2, j2⟩ := step i H1 hi hJ
    refine Exists.intro _ (Exists.intro _ (And.intro h2 ?_))
    refine And.intro rfl (Exists.intro (.bool (!t)) (And.intro rfl ?_))
    cases t
    · refine condT ?_
      exact And.intro trivial (Exists.intro _ (And.intro rfl ⟨rfl, .inr j2⟩))
    · refine condF ?_
      refine And.intro ⟨by omega, by omega⟩ ?_
      exact ⟨k - 1, i + 1, by omega, ⟨by omega, j2⟩, rfl, rfl, rfl, trivial⟩
  · have hi : ¬ (i : Int) ≤ b := by simpa using hgt
    exact And.intro trivial (Exists.intro _ (And.intro rfl ⟨rfl, .inl ⟨i, by omega, hJ⟩⟩))
end
structure IX where
  g8 : Nat
  g9 : Nat
  r10 : Nat
  r11 : Nat
  sb : Nat
  t12 : Nat
  i14 : Nat
  b2 : Nat
  r : Nat
abbrev S19 (X : IX) : Rg := [(8, pt X.g8), (9, pt X.g9), (10, pt X.r10), (11, pt X.r11), (12, pt X.t12), (14, pt X.i14)]
/-- the blocks, in the order in which they were made -/
structure IG (X : IX) (lo : Nat) (H0 : Hp) : Prop where
  o0 : H0.next ≤ X.g8
  ol : lo ≤ X.g8
  o1 : X.g8 < X.g9
  o2 : X.g9 < X.r10
  o3 : X.r10 < X.r11
  o4 : X.r11 < X.sb
  o5 : X.sb < X.t12
  o6 : X.t12 < X.i14
  o7 : X.i14 < X.b2
  o8 : X.b2 < X.r
/-- what the law of a call is -/
structure IC where
  g : Ng
  a : Int
  b : Int
  gain : Int
  limit : Int
structure IJ (X : IX) (c : IC) (lo : Nat) (H0 : Hp) (i : Nat) (H' : Hp) : Prop where
  c8 : Rd H' X.g8 [iv c.gain]
  c9 : Rd H' X.g9 [iv c.limit]
  c12 : Rd H' X.t12 [slv X.sb c.g.n c.g.n]
  cs : Rd H' X.sb (spc c.g.spans)
  c10 : ∃ x, Cl H' X.r10 [iv x]
  c11 : ∃ x, Cl H' X.r11 [iv x]
  c14 : ∃ ice, Cl H' X.i14 [iv ice] ∧ (0 ≤ ice ∧ ice ≤ c.limit) ∧ iceV c.g c.a c.b c.gain c.limit = iceL c.g.spans c.gain c.limit (c.b + 1 - i).toNat i ice
  i2 : Rd H' X.b2 [iv c.b]
  lp : Lp Tryz.prog H' (X.r + 1) .ready none 61 (S19 X) [47] asg19 body19 X.r
  ll : X.r + 1 < H'.next
  dfr : H'.t.get X.r = some (.dfr (some []))
  kp : Keep H0 H' []
structure ID (X : IX) (c : IC) (H0 : Hp) (H' : Hp) : Prop where
  res : ∃ x y, Cl H' X.r10 [iv x] ∧ Cl H' X.r11 [iv y] ∧ iceV c.g c.a c.b c.gain c.limit = (x, y)
  lp : Lp Tryz.prog H' (X.r + 1) .done (some .ret) 61 (S19 X) [47] asg19 body19 X.r
  ll : X.r + 1 < H'.next
  dfr : H'.t.get X.r = some (.dfr (some []))
  kp : Keep H0 H' []
section
variable {kn : FuncId → Option Bool} {lo : Nat} {H : Hp}
theorem ice_tail {X : IX} {S : Rg} {K : Exit → Rg → Hp → Prop} {i : Nat} {ice limit x10 x11 : Int} (h14 : Cl H X.i14 [iv ice]) (h9 : Rd H X.g9 [iv limit]) (h10 : Cl H X.r10 [iv x10]) (h11 : Cl H X.r11 [iv x11]) (o10 : lo ≤ X.r10) (o11 : lo ≤ X.r11) (ne : X.r10 ≠ X.r11)
    (hS : Subs [(9, pt X.g9), (10, pt X.r10), (11, pt X.r11), (14, pt X.i14), (15, iv (i : Int))] S)
    (hret : ∀ S' H', ice > limit → Keep H H' [X.r10, X.r11] → H'.next = H.next → Cl H' X.r10 [iv (i : Int)] → Cl H' X.r11 [iv 0] → K .ret S' H') (hnor : ∀ S', ¬ ice > limit → K .normal S' H) :
    Tri Tryz.prog kn lo 61 true (at_ Tryz.f19 [1, 1, 1, 1, 1, 0, 1, 0, 1, 0, 1]) S H K := by
  refine tri_piece L19t hS ?_
  refine Exists.intro _ (Exists.intro _ (And.intro h14.of (And.intro (show _ = some (iv ice) from rfl) ?_)))
  refine Exists.intro _ (Exists.intro _ (And.intro h9.of (And.intro (show _ = some (iv limit) from rfl) ?_)))
  refine And.intro (fun hg => ?_) (fun hg => ?_)
  · have hg : ice > limit := of_decide_eq_true hg
    obtain ⟨_, e1, l1, g1⟩ := id h10
    refine Exists.intro _ (Exists.intro _ (Exists.intro _ (And.intro g1 (And.intro (by omega) (And.intro rfl (And.intro rfl (And.intro (by simp) ?_)))))))
    intro H1 hH1; obtain ⟨k1, n1, c1⟩ := up_facts h10 hH1; clear hH1
    have c1 : Cl H1 X.r10 [iv (i : Int)] := c1
    have h11' := k1.cl h11 (by simpa using ne.symm)
    obtain ⟨_, e2, l2, g2⟩ := id h11'
    refine Exists.intro _ (Exists.intro _ (Exists.intro _ (And.intro g2 (And.intro (by omega) (And.intro rfl (And.intro rfl (And.intro (by simp) ?_)))))))
    intro H2 hH2; obtain ⟨k2, n2, c2⟩ := up_facts h11' hH2; clear hH2
    have c2 : Cl H2 X.r11 [iv 0] := c2
    have kk : Keep H H2 [X.r10, X.r11] := (k1.mono (by simp)).trans (k2.mono (by simp))
    exact hret _ _ hg kk (by omega) (k2.cl c1 (by simpa using ne)) c2
  · exact hnor _ (of_decide_eq_false hg)
theorem ice_round {X : IX} {c : IC} {H0 : Hp} (G : IG X lo H0) (hg : 0 ≤ c.gain ∧ c.gain ≤ 1099511627776) (hl : 0 ≤ c.limit ∧ c.limit ≤ 1099511627776) {i : Nat} {H1 : Hp} (hib : (i : Int) ≤ c.b) (hbn : c.b < c.g.n) (hn96 : c.g.n ≤ 96) (j : IJ X c lo H0 i H1) :
    ∃ t H', CallsX Tryz.prog kn lo (.fn (.yield (X.r + 1)) #[]) [iv i] H1 (.bool t) H' ∧ (bif t then IJ X c lo H0 (i + 1) H' else ID X c H0 H') := by
  have L1 : low Tryz.prog 61 asg19 = some R19x1 := N19 ▸ L19x1
  obtain ⟨o0, ol, o1, o2, o3, o4, o5, o6, o7, o8⟩ := G
  refine yield_ok (kn := kn) (P := Tryz.prog) (lo := lo) (S1 := (47, iv i) :: S19 X) (args := [iv i]) (Q := fun t H' => bif t then IJ X c lo H0 (i + 1) H' else ID X c H0 H') j.lp (by omega) (by rfl) rfl (wC_sound true _ L1 ?_)
  refine And.intro trivial (And.intro j.lp ?_)
  intro H4 s4
  have k4 := s4.keep
  have lp4 := s4.lp j.lp
  have hn4 : H4.next = H1.next := s4.1
  have ll := j.ll
  have nl : ∀ x, x < X.r + 1 → x ∉ [X.r + 1] := fun x hx => by simp; omega
  have d8 := k4.rd j.c8 (nl _ (by omega))
  have d9 := k4.rd j.c9 (nl _ (by omega))
  have d12 := k4.rd j.c12 (nl _ (by omega))
  have ds := k4.rd j.cs (nl _ (by omega))
  obtain ⟨x10, d10⟩ := j.c10
  obtain ⟨x11, d11⟩ := j.c11
  have d10 := k4.cl d10 (nl _ (by omega))
  have d11 := k4.cl d11 (nl _ (by omega))
  obtain ⟨ice, d14, hice, hv⟩ := j.c14
  have d14 := k4.cl d14 (nl _ (by omega))
  have di2 := k4.rd j.i2 (nl _ (by omega))
  have ddf : H4.t.get X.r = some (.dfr (some [])) := by rw [k4.2 X.r (by omega) (nl _ (by omega))]; exact j.dfr
  have kp4 : Keep H0 H4 [] := j.kp.new k4 (fun b hb => .inr (by simp at hb; omega))
  have hin : i < c.g.n := by omega
  have hp := c.g.spans_get i hin
  generalize hpe : (c.g.least i, c.g.great i) = p at hp
  have hget : (c.g.spans.getD i (0, 0)) = p := by simp [List.getD, hp]
  obtain ⟨kk, hkk⟩ : ∃ kk, (c.b + 1 - i).toNat = kk + 1 := ⟨(c.b - i).toNat, by omega⟩
  have hkk2 : (c.b + 1 - ((i + 1 : Nat) : Int)).toNat = kk := by omega
  rw [hkk] at hv
  simp only [iceL, hget] at hv
  rw [← hkk2] at hv
  -- the second half, whatever the ice is now
  have rest : ∀ (H5 : Hp) (S5 : Rg) (ice1 : Int), Keep H4 H5 [X.i14] → H5.next = H4.next → Cl H5 X.i14 [iv ice1] → 0 ≤ ice1 → (if p.1 ≤ 0 then ice + c.gain else ice) = ice1 →
      Subs [(9, pt X.g9), (10, pt X.r10), (11, pt X.r11), (14, pt X.i14), (15, iv (i : Int))] S5 →
      Tri Tryz.prog kn lo 61 true (at_ Tryz.f19 [1, 1, 1, 1, 1, 0, 1, 0, 1, 0, 1]) S5 H5 (fun e S3 H3 => Lp Tryz.prog H3 (X.r + 1) .busy none 61 (S19 X) [47] asg19 body19 X.r ∧
        (match e with | .normal => ∀ H4, SetLp H3 (X.r + 1) .ready none H4 → IJ X c lo H0 (i + 1) H4 | .ret => ∀ H4, SetLp H3 (X.r + 1) .done (some .ret) H4 → ID X c H0 H4 | _ => False)) := by
    intro H5 S5 ice1 k5 n5 c14 hi0 he hS5
    rw [he] at hv
    have e8 := k5.rd d8 (by simp; omega)
    have e9 := k5.rd d9 (by simp; omega)
    have e12 := k5.rd d12 (by simp; omega)
    have es := k5.rd ds (by simp; omega)
    have e10 := k5.cl d10 (by simp; omega)
    have e11 := k5.cl d11 (by simp; omega)
    have ei2 := k5.rd di2 (by simp; omega)
    have edf : H5.t.get X.r = some (.dfr (some [])) := by rw [k5.2 X.r (by omega) (by simp; omega)]; exact ddf
    have kp5 : Keep H0 H5 [] := kp4.new k5 (fun b hb => .inr (by simp at hb; omega))
    have lp5 := lp4.keep k5 (by omega) (by simp; omega)
    refine ice_tail c14 e9 e10 e11 (by omega) (by omega) (by omega) hS5 (fun S6 H6 hgt k6 n6 f10 f11 => ?_) (fun S6 hgt => ?_)
    · rw [if_pos hgt] at hv
      have lp6 := lp5.keep k6 (by omega) (by simp; omega)
      refine ⟨lp6, fun H7 s7 => ?_⟩
      have k7 := s7.keep
      have hn7 : H7.next = H6.next := s7.1
      refine ⟨⟨_, _, k7.cl f10 (nl _ (by omega)), k7.cl f11 (nl _ (by omega)), hv⟩, s7.lp lp6, by omega, ?_, ?_⟩
      · rw [k7.2 X.r (by omega) (nl _ (by omega)), k6.2 X.r (by omega) (by simp; omega)]; exact edf
      · exact (kp5.new k6 (fun b hb => .inr (by simp at hb; omega))).new k7 (fun b hb => .inr (by simp at hb; omega))
    · rw [if_neg hgt] at hv
      refine ⟨lp5, fun H7 s7 => ?_⟩
      have k7 := s7.keep
      have hn7 : H7.next = H5.next := s7.1
      refine ⟨k7.rd e8 (nl _ (by omega)), k7.rd e9 (nl _ (by omega)), k7.rd e12 (nl _ (by omega)), k7.rd es (nl _ (by omega)), ⟨_, k7.cl e10 (nl _ (by omega))⟩, ⟨_, k7.cl e11 (nl _ (by omega))⟩, ⟨ice1, k7.cl c14 (nl _ (by omega)), by omega, hv⟩, k7.rd ei2 (nl _ (by omega)), s7.lp lp5, by omega, ?_, ?_⟩
      · rw [k7.2 X.r (by omega) (nl _ (by omega))]; exact edf
      · exact kp5.new k7 (fun b hb => .inr (by simp at hb; omega))
  refine tri_lv V19x2 (S0 := (15, iv i) :: S19 X) ⟨rfl, rfl, rfl, rfl, rfl, rfl, rfl, trivial⟩ ?_
  refine Exists.intro _ (Exists.intro _ (And.intro d12.of (And.intro (show _ = some (slv X.sb c.g.n c.g.n) from rfl) ?_)))
  refine Exists.intro i (And.intro rfl (And.intro hin ?_))
  refine Exists.intro _ (Exists.intro _ (And.intro ds.of (And.intro (span_get (k := i) (l := p.1) (h := p.2) hp).1 ?_)))
  refine And.intro (fun hlt => ?_) (fun hnl => ?_)
  · have hp1 : p.1 ≤ 0 := by simpa using hlt
    refine Exists.intro _ (Exists.intro _ (And.intro d14.of (And.intro (show _ = some (iv ice) from rfl) ?_)))
    refine Exists.intro _ (Exists.intro _ (And.intro d8.of (And.intro (show _ = some (iv c.gain) from rfl) ?_)))
    refine And.intro ⟨by omega, by omega⟩ ?_
    obtain ⟨_, e5, l5, g5⟩ := id d14
    refine Exists.intro _ (Exists.intro _ (Exists.intro _ (And.intro g5 (And.intro (by omega) (And.intro rfl (And.intro rfl (And.intro (by simp) ?_)))))))
    intro H5 hH5; obtain ⟨k5, n5, c5⟩ := up_facts d14 hH5; clear hH5
    have c5 : Cl H5 X.i14 [iv (ice + c.gain)] := c5
    exact Tri.mono (rest H5 _ (ice + c.gain) k5 n5 c5 (by omega) (if_pos hp1) ⟨rfl, rfl, rfl, rfl, rfl, trivial⟩) (fun e S3 H3 h => by cases e with | normal => exact h | ret => exact h | _ => exact h.2.elim)
  · have hp1 : ¬ p.1 ≤ 0 := by simpa using hnl
    exact Tri.mono (rest H4 _ ice ⟨Nat.le_refl _, fun _ _ _ => rfl⟩ rfl d14 hice.1 (if_neg hp1) ⟨rfl, rfl, rfl, rfl, rfl, trivial⟩) (fun e S3 H3 h => by cases e with | normal => exact h | ret => exact h | _ => exact h.2.elim)
end
end Go.Ax
/-
  Frost, for FrostTemps: Ice (19; written by program).
-/
namespace Go.Ax
open Go Go.RowKit Go.Proofs

theorem a3 : isAggB Tryz.prog 3 = some false := by kernel_rfl
section
variable {kn : FuncId → Option Bool} {lo : Nat} {H : Hp}
theorem ice19_ok {g : Ng} {a b gain limit : Int} (hn : g.ok = true → g.slots = (g.n : Int)) (hs : Sl H g.sa g.sn g.scap (spc g.ss)) (hr : Sl H g.ra g.rn g.rcap (rdc g.rs)) (hsn : g.ss.length = g.sn) (hrn : g.rs.length = g.rn) (hlo : lo ≤ H.next) :
    ∃ H', FnX Tryz.prog kn lo 19 [.agg g.v.toArray, iv a, iv b, iv gain, iv limit] H (.tuple #[iv (iceV g a b gain limit).1, iv (iceV g a b gain limit).2]) H' ∧ Keep H H' [] := by
  have key := fnX_lowR (kn := kn) (lo := lo) (H := H) (args := [.agg g.v.toArray, iv a, iv b, iv gain, iv limit]) (Q := fun w H' => w = .tuple #[iv (iceV g a b gain limit).1, iv (iceV g a b gain limit).2] ∧ Keep H H' []) Tryz.func19 B19 N19 Z19 L19 (by simp) ?_
  · obtain ⟨w, H', h, rfl, q⟩ := key; exact ⟨H', h, q⟩
  have done : ∀ (x y : Int) (H9 : Hp), Keep H H9 [] → iceV g a b gain limit = (x, y) → retV [iv x, iv y] = .tuple #[iv (iceV g a b gain limit).1, iv (iceV g a b gain limit).2] ∧ Keep H H9 [] := fun x y H9 k h => ⟨by rw [h]; rfl, k⟩
  intro y hy
  refine TriR.lowR hy ?_
  intro H1 hH1; obtain ⟨k1, n1, c1⟩ := new_facts hH1; clear hH1
  have c1 : Cl H1 H.next g.v := c1
  intro H2 hH2; obtain ⟨k2, n2, c2⟩ := new_facts hH2; clear hH2
  have c2 : Cl H2 H1.next [iv gain] := c2
  intro H3 hH3; obtain ⟨k3, n3, c3⟩ := new_facts hH3; clear hH3
  have c3 : Cl H3 H2.next [iv limit] := c3
  intro H4 hH4; obtain ⟨k4, n4, c4⟩ := new_facts hH4; clear hH4
  have c4 : Cl H4 H3.next [iv 0] := c4
  intro H5 hH5; obtain ⟨k5, n5, c5⟩ := new_facts hH5; clear hH5
  have c5 : Cl H5 H4.next [iv 0] := c5
  have k05 : Keep H H5 [] := k1.trans (k2.trans (k3.trans (k4.trans k5)))
  have d1 := (k2.trans (k3.trans (k4.trans k5))).cl c1 (by simp)
  have d2 := (k3.trans (k4.trans k5)).cl c2 (by simp)
  have d3 := (k4.trans k5).cl c3 (by simp)
  have d4 := k5.cl c4 (by simp)
  intro y hy
  refine TriR.lowR hy ?_
  refine Exists.intro _ (Exists.intro _ (And.intro d1.of (And.intro (show row 5 g.v 0 = some g.v from rfl) ?_)))
  obtain ⟨w, H6, f6, k6, hcase⟩ := tm_ok (kn := kn) (lo := lo) (g := g) (H := H5) hn (k05.sl0 hs) (k05.sl0 hr) hsn hrn (by omega)
  refine Exists.intro _ (Exists.intro _ (And.intro (callX_args f6) ?_))
  have m6 := k6.1
  have k06 := k05.trans k6
  have bad : ∀ (e : Int), e ≠ 0 → w = .tuple #[.slice none 0 0, iv e] → iceV g a b gain limit = (0, e) → ∀ (K : Prop), K ∨ True := fun _ _ _ _ _ => .inr trivial
  clear bad
  rcases hcase with ⟨ho, ha, sb, rfl, hb, cb⟩ | hbad
  rotate_left
  · obtain ⟨e, he0, hwe, heq⟩ : ∃ e : Int, e ≠ 0 ∧ w = .tuple #[.slice none 0 0, iv e] ∧ iceV g a b gain limit = (0, e) := by
      rcases hbad with ⟨ho, ha, h⟩ | ⟨ho, h⟩
      · exact ⟨6, by decide, h, by unfold iceV; rw [ho, ha]; rfl⟩
      · exact ⟨1, by decide, h, by unfold iceV; rw [ho]; rfl⟩
    subst hwe
    refine And.intro rfl (Exists.intro (.slice none 0 0) (And.intro (by kernel_rfl) ?_))
    refine And.intro rfl (Exists.intro (iv e) (And.intro (by kernel_rfl) ?_))
    intro H7 hH7; obtain ⟨k7, n7, c7⟩ := new_facts hH7; clear hH7
    have c7 : Cl H7 H6.next [.slice none 0 0] := c7
    obtain ⟨_, e8, l8, g8⟩ := id c7
    refine Exists.intro _ (Exists.intro _ (Exists.intro _ (And.intro g8 (And.intro (by omega) (And.intro rfl (And.intro rfl (And.intro (by simp) ?_)))))))
    intro H8 hH8; obtain ⟨k8, n8, c8⟩ := up_facts c7 hH8; clear hH8
    have c8 : Cl H8 H6.next [.slice none 0 0] := c8
    have k68 : Keep H6 H8 [] := k7.new k8 (fun b hb => .inr (by simp at hb; omega))
    have k58 := k6.trans k68
    have e4 := k58.cl d4 (by simp)
    have e5 := k58.cl c5 (by simp)
    intro y hy
    refine TriR.lowR hy ?_
    have hne : (e != 0) = true := by simpa using he0
    refine And.intro (fun _ => ?_) (fun h => by rw [hne] at h; cases h)
    obtain ⟨_, e90, l90, g90⟩ := id e4
    refine Exists.intro _ (Exists.intro _ (Exists.intro _ (And.intro g90 (And.intro (by omega) (And.intro rfl (And.intro rfl (And.intro (by simp) ?_)))))))
    intro R9 hR9; obtain ⟨k90, n90, c90⟩ := up_facts e4 hR9; clear hR9
    have c90 : Cl R9 H3.next [iv (0)] := c90
    have c11' := k90.cl e5 (by simp; omega)
    obtain ⟨_, e91, l91, g91⟩ := id c11'
    refine Exists.intro _ (Exists.intro _ (Exists.intro _ (And.intro g91 (And.intro (by omega) (And.intro rfl (And.intro rfl (And.intro (by simp) ?_)))))))
    intro Q9 hQ9; obtain ⟨k91, n91, c91⟩ := up_facts c11' hQ9; clear hQ9
    have c91 : Cl Q9 H4.next [iv (e)] := c91
    have kk := ((k05.trans k58).new k90 (fun b hb => .inr (by simp at hb; omega))).new k91 (fun b hb => .inr (by simp at hb; omega))
    have c10' := k91.cl c90 (by simp; omega)
    exact And.intro trivial (Or.inl ⟨rfl, _, res2 rfl rfl a3 a28 c10'.rd c91.rd, done _ _ _ kk heq⟩)
  refine And.intro rfl (Exists.intro (slv sb g.n g.n) (And.intro (by kernel_rfl) ?_))
  refine And.intro rfl (Exists.intro (iv 0) (And.intro (by kernel_rfl) ?_))
  intro H7 hH7; obtain ⟨k7, n7, c7⟩ := new_facts hH7; clear hH7
  have c7 : Cl H7 H6.next [.slice none 0 0] := c7
  obtain ⟨_, e8, l8, g8⟩ := id c7
  refine Exists.intro _ (Exists.intro _ (Exists.intro _ (And.intro g8 (And.intro (by omega) (And.intro rfl (And.intro rfl (And.intro (by simp) ?_)))))))
  intro H8 hH8; obtain ⟨k8, n8, c8⟩ := up_facts c7 hH8; clear hH8
  have c8 : Cl H8 H6.next [slv sb g.n g.n] := c8
  have k68 : Keep H6 H8 [] := k7.new k8 (fun b hb => .inr (by simp at hb; omega))
  have k58 := k6.trans k68
  have k08 := k05.trans k58
  have lsb := cb.lt
  have e1 := k58.cl d1 (by simp)
  have e2 := k58.cl d2 (by simp)
  have e3 := k58.cl d3 (by simp)
  have e4 := k58.cl d4 (by simp)
  have e5 := k58.cl c5 (by simp)
  have eb := k68.cl cb (by simp)
  have v := Ng.vd ho (hn ho) hsn hrn
  have hsl := v.sl
  have hn96 := v.n96
  intro y hy
  refine TriR.lowR hy ?_
  refine condF ?_
  intro y hy
  refine TriR.lowR hy ?_
  have out : ∀ (H9 : Hp), Keep H8 H9 [] → rngB g a b gain limit = false → ∀ (S9 : Rg), lk S9 10 = some (pt H3.next) → lk S9 11 = some (pt H4.next) → True := fun _ _ _ _ _ _ => trivial
  clear out
  have hbadr : rngB g a b gain limit = false → iceV g a b gain limit = (0, 2) := fun h => by unfold iceV; rw [ho, ha, h]; rfl
  refine callB within_ok ?_
  intro t1 J1 h1 m1
  have kJ1 := k08.trans m1
  refine And.intro rfl (Exists.intro (.bool (!t1)) (And.intro rfl ?_))
  cases t1
  · repeat (refine And.intro rfl (Exists.intro (.bool true) (And.intro rfl ?_)))
    refine condT ?_
    have g4 := m1.cl e4 (by simp)
    have g5 := m1.cl e5 (by simp)
    have hm := m1.1
    obtain ⟨_, e90, l90, g90⟩ := id g4
    refine Exists.intro _ (Exists.intro _ (Exists.intro _ (And.intro g90 (And.intro (by omega) (And.intro rfl (And.intro rfl (And.intro (by simp) ?_)))))))
    intro R9 hR9; obtain ⟨k90, n90, c90⟩ := up_facts g4 hR9; clear hR9
    have c90 : Cl R9 H3.next [iv (0)] := c90
    have c11' := k90.cl g5 (by simp; omega)
    obtain ⟨_, e91, l91, g91⟩ := id c11'
    refine Exists.intro _ (Exists.intro _ (Exists.intro _ (And.intro g91 (And.intro (by omega) (And.intro rfl (And.intro rfl (And.intro (by simp) ?_)))))))
    intro Q9 hQ9; obtain ⟨k91, n91, c91⟩ := up_facts c11' hQ9; clear hQ9
    have c91 : Cl Q9 H4.next [iv (2)] := c91
    have kk := (kJ1.new k90 (fun b hb => .inr (by simp at hb; omega))).new k91 (fun b hb => .inr (by simp at hb; omega))
    have c10' := k91.cl c90 (by simp; omega)
    exact And.intro trivial (Or.inl ⟨rfl, _, res2 rfl rfl a3 a28 c10'.rd c91.rd, done _ _ _ kk (hbadr (by unfold rngB; rw [h1]; simp))⟩)
  have g1 := m1.cl e1 (by simp)
  refine Exists.intro _ (Exists.intro _ (And.intro g1.of (And.intro (show _ = some (iv g.slots) from rfl) ?_)))
  intro t2 h2; cases t2
  rotate_left
  · repeat (refine And.intro rfl (Exists.intro (.bool true) (And.intro rfl ?_)))
    refine condT ?_
    have g4 := m1.cl e4 (by simp)
    have g5 := m1.cl e5 (by simp)
    have hm := m1.1
    have hge := of_decide_eq_true h2
    obtain ⟨_, e90, l90, g90⟩ := id g4
    refine Exists.intro _ (Exists.intro _ (Exists.intro _ (And.intro g90 (And.intro (by omega) (And.intro rfl (And.intro rfl (And.intro (by simp) ?_)))))))
    intro R9 hR9; obtain ⟨k90, n90, c90⟩ := up_facts g4 hR9; clear hR9
    have c90 : Cl R9 H3.next [iv (0)] := c90
    have c11' := k90.cl g5 (by simp; omega)
    obtain ⟨_, e91, l91, g91⟩ := id c11'
    refine Exists.intro _ (Exists.intro _ (Exists.intro _ (And.intro g91 (And.intro (by omega) (And.intro rfl (And.intro rfl (And.intro (by simp) ?_)))))))
    intro Q9 hQ9; obtain ⟨k91, n91, c91⟩ := up_facts c11' hQ9; clear hQ9
    have c91 : Cl Q9 H4.next [iv (2)] := c91
    have kk := (kJ1.new k90 (fun b hb => .inr (by simp at hb; omega))).new k91 (fun b hb => .inr (by simp at hb; omega))
    have c10' := k91.cl c90 (by simp; omega)
    exact And.intro trivial (Or.inl ⟨rfl, _, res2 rfl rfl a3 a28 c10'.rd c91.rd, done _ _ _ kk (hbadr (by unfold rngB; rw [show inB b 0 (g.slots - 1) = false by simp [inB]; omega]; rfl))⟩)
  have hlt := of_decide_eq_false h2
  refine And.intro rfl (Exists.intro (.bool false) (And.intro rfl ?_))
  have g2 := m1.cl e2 (by simp)
  refine Exists.intro _ (Exists.intro _ (And.intro g2.of (And.intro (show _ = some (iv gain) from rfl) ?_)))
  refine callB amount_ok ?_
  intro t3 J3 h3 m3
  have m13 := m1.trans m3
  have kJ3 := k08.trans m13
  refine And.intro rfl (Exists.intro (.bool (!t3)) (And.intro rfl ?_))
  refine And.intro rfl (Exists.intro (.bool (!t3)) (And.intro rfl ?_))
  cases t3
  · repeat (refine And.intro rfl (Exists.intro (.bool true) (And.intro rfl ?_)))
    refine condT ?_
    have g4 := m13.cl e4 (by simp)
    have g5 := m13.cl e5 (by simp)
    have hm := m13.1
    obtain ⟨_, e90, l90, g90⟩ := id g4
    refine Exists.intro _ (Exists.intro _ (Exists.intro _ (And.intro g90 (And.intro (by omega) (And.intro rfl (And.intro rfl (And.intro (by simp) ?_)))))))
    intro R9 hR9; obtain ⟨k90, n90, c90⟩ := up_facts g4 hR9; clear hR9
    have c90 : Cl R9 H3.next [iv (0)] := c90
    have c11' := k90.cl g5 (by simp; omega)
    obtain ⟨_, e91, l91, g91⟩ := id c11'
    refine Exists.intro _ (Exists.intro _ (Exists.intro _ (And.intro g91 (And.intro (by omega) (And.intro rfl (And.intro rfl (And.intro (by simp) ?_)))))))
    intro Q9 hQ9; obtain ⟨k91, n91, c91⟩ := up_facts c11' hQ9; clear hQ9
    have c91 : Cl Q9 H4.next [iv (2)] := c91
    have kk := (kJ3.new k90 (fun b hb => .inr (by simp at hb; omega))).new k91 (fun b hb => .inr (by simp at hb; omega))
    have c10' := k91.cl c90 (by simp; omega)
    exact And.intro trivial (Or.inl ⟨rfl, _, res2 rfl rfl a3 a28 c10'.rd c91.rd, done _ _ _ kk (hbadr (by unfold rngB; rw [h3]; simp))⟩)
  have g3 := m13.cl e3 (by simp)
  refine Exists.intro _ (Exists.intro _ (And.intro g3.of (And.intro (show _ = some (iv limit) from rfl) ?_)))
  refine callB amount_ok ?_
  intro t4 J4 h4 m4
  have m14 := m13.trans m4
  have kJ4 := k08.trans m14
  refine And.intro rfl (Exists.intro (.bool (!t4)) (And.intro rfl ?_))
  refine And.intro rfl (Exists.intro (.bool (!t4)) (And.intro rfl ?_))
  cases t4
  · refine condT ?_
    have g4 := m14.cl e4 (by simp)
    have g5 := m14.cl e5 (by simp)
    have hm := m14.1
    obtain ⟨_, e90, l90, g90⟩ := id g4
    refine Exists.intro _ (Exists.intro _ (Exists.intro _ (And.intro g90 (And.intro (by omega) (And.intro rfl (And.intro rfl (And.intro (by simp) ?_)))))))
    intro R9 hR9; obtain ⟨k90, n90, c90⟩ := up_facts g4 hR9; clear hR9
    have c90 : Cl R9 H3.next [iv (0)] := c90
    have c11' := k90.cl g5 (by simp; omega)
    obtain ⟨_, e91, l91, g91⟩ := id c11'
    refine Exists.intro _ (Exists.intro _ (Exists.intro _ (And.intro g91 (And.intro (by omega) (And.intro rfl (And.intro rfl (And.intro (by simp) ?_)))))))
    intro Q9 hQ9; obtain ⟨k91, n91, c91⟩ := up_facts c11' hQ9; clear hQ9
    have c91 : Cl Q9 H4.next [iv (2)] := c91
    have kk := (kJ4.new k90 (fun b hb => .inr (by simp at hb; omega))).new k91 (fun b hb => .inr (by simp at hb; omega))
    have c10' := k91.cl c90 (by simp; omega)
    exact And.intro trivial (Or.inl ⟨rfl, _, res2 rfl rfl a3 a28 c10'.rd c91.rd, done _ _ _ kk (hbadr (by unfold rngB; rw [h4]; simp))⟩)
  refine condF ?_
  have hrng : rngB g a b gain limit = true := by
    have e : inB b 0 (g.slots - 1) = true := by
      simp only [inB, Bool.and_eq_true, decide_eq_true_eq] at h1 ⊢
      omega
    unfold rngB
    rw [e, h1, h3, h4]; rfl
  have hR : iceV g a b gain limit = iceL g.spans gain limit (b - a + 1).toNat a.toNat 0 := by
    unfold iceV; rw [ho, ha, hrng]; rfl
  simp only [inB, Bool.and_eq_true, decide_eq_true_eq] at h1 h3 h4
  obtain ⟨a, rfl⟩ := Int.eq_ofNat_of_zero_le h1.1
  have hm14 := m14.1
  intro y hy
  refine TriR.lowR hy ?_
  intro H9 hH9; obtain ⟨k9, n9, c9⟩ := new_facts hH9; clear hH9
  have c9 : Cl H9 J4.next [iv 0] := c9
  obtain ⟨_, e10, l10, g10⟩ := id c9
  refine Exists.intro _ (Exists.intro _ (Exists.intro _ (And.intro g10 (And.intro (by omega) (And.intro rfl (And.intro rfl (And.intro (by simp) ?_)))))))
  intro H10 hH10; obtain ⟨k10, n10, c10⟩ := up_facts c9 hH10; clear hH10
  have c10 : Cl H10 J4.next [iv 0] := c10
  have m49 : Keep J4 H10 [] := k9.new k10 (fun b hb => .inr (by simp at hb; omega))
  intro y hy
  refine TriR.lowL hy ?_
  intro z hz
  refine TriR.lowR hz ?_
  obtain ⟨b1, b2, H11, h11, k11, hb1, hb2, u1, u2⟩ := slots_ok (kn := kn) (lo := lo) (H := H10) (a := (a : Int)) (b := b)
  refine Exists.intro _ (Exists.intro _ (And.intro (callX_args h11) ?_))
  intro y hy
  refine TriR.lowB hy ?_
  rw [E19_1]
  refine TriR.range rfl ?_
  intro H12 k12 n12 hd hlp
  have m411 := m49.trans k11
  have m412 := m411.trans k12
  have m812 := m14.trans m412
  have k012 := k08.trans m812
  have lt1 := u1.lt
  have lt2 := u2.lt
  have hm11 := k11.1
  have hm49 := m49.1
  let X : IX := ⟨H1.next, H2.next, H3.next, H4.next, sb, H6.next, J4.next, b2, H11.next⟩
  let c : IC := ⟨g, a, b, gain, limit⟩
  have G : IG X lo H := ⟨by show H.next ≤ H1.next; omega, by show lo ≤ H1.next; omega, by show H1.next < H2.next; omega, by show H2.next < H3.next; omega, by show H3.next < H4.next; omega, by show H4.next < sb; omega, by show sb < H6.next; omega, by show H6.next < J4.next; omega, by show J4.next < b2; omega, by show b2 < H11.next; omega⟩
  have j0 : IJ X c lo H a H12 := by
    refine ⟨(m812.cl e2 (by simp)).rd, (m812.cl e3 (by simp)).rd, ((m14.trans m412).cl c8 (by simp)).rd, (m812.cl eb (by simp)).rd, ⟨_, m812.cl e4 (by simp)⟩, ⟨_, m812.cl e5 (by simp)⟩, ⟨0, (k11.trans k12).cl c10 (by simp), ⟨Int.le_refl _, h4.1⟩, ?_⟩, k12.rd u2.rd (by simp), hlp.weak ⟨rfl, rfl, rfl, rfl, rfl, rfl, trivial⟩, by show H11.next + 1 < H12.next; omega, hd, k012⟩
    show iceV g a b gain limit = iceL g.spans gain limit (b + 1 - a).toNat a 0
    rw [hR]
    congr 1
    omega
  obtain ⟨H13, h13, hend⟩ := iterE_ok (kn := kn) (lo := lo) (H := H12) (l := H11.next + 1) (b1 := b1) (b2 := b2) (i0 := a) (b := b) (fun i H' => IJ X c lo H i H') (fun H' => ID X c H H') (by omega) (by omega) (k12.rd u1.rd (by simp)) j0 (fun i H j => j.i2) (fun i H1 hi j => ice_round G h3 h4 hi (by show b < (g.n : Int); omega) hn96 j)
  refine Exists.intro _ (Exists.intro H13 (And.intro (callX_func rfl (by simpa using h13)) ?_))
  rcases hend with ⟨i, hi, j⟩ | dn
  · refine ⟨.ready, none, _, j.lp, by simp, ?_⟩
    intro H14 s14
    have k14 := s14.keep
    have hn14 : H14.next = H13.next := s14.1
    have ll := j.ll
    have ll : H11.next + 1 < H13.next := ll
    have kH : Keep H H14 [] := j.kp.new k14 (fun b hb => .inr (by simp at hb; omega))
    obtain ⟨x10, q10⟩ := j.c10
    obtain ⟨x11, q11⟩ := j.c11
    have q10 : Cl H13 H3.next [iv x10] := q10
    have q11 : Cl H13 H4.next [iv x11] := q11
    have q10 := k14.cl q10 (by simp; omega)
    have q11 := k14.cl q11 (by simp; omega)
    obtain ⟨ice, _, _, hv⟩ := j.c14
    have hv : iceV g a b gain limit = iceL g.spans gain limit (b + 1 - i).toNat i ice := hv
    rw [show (b + 1 - (i : Int)).toNat = 0 by omega] at hv
    have hv : iceV g a b gain limit = (0, 4) := hv
    have dj : H14.t.get H11.next = some (.dfr (some [])) := by
      rw [k14.2 H11.next (by omega) (by simp)]; exact j.dfr
    obtain ⟨_, e90, l90, g90⟩ := id q10
    refine Exists.intro _ (Exists.intro _ (Exists.intro _ (And.intro g90 (And.intro (by omega) (And.intro rfl (And.intro rfl (And.intro (by simp) ?_)))))))
    intro R9 hR9; obtain ⟨k90, n90, c90⟩ := up_facts q10 hR9; clear hR9
    have c90 : Cl R9 H3.next [iv 0] := c90
    have q11' := k90.cl q11 (by simp; omega)
    obtain ⟨_, e91, l91, g91⟩ := id q11'
    refine Exists.intro _ (Exists.intro _ (Exists.intro _ (And.intro g91 (And.intro (by omega) (And.intro rfl (And.intro rfl (And.intro (by simp) ?_)))))))
    intro Q9 hQ9; obtain ⟨k91, n91, c91⟩ := up_facts q11' hQ9; clear hQ9
    have c91 : Cl Q9 H4.next [iv 4] := c91
    have q10' := k91.cl c90 (by simp; omega)
    have kk := (kH.new k90 (fun b hb => .inr (by simp at hb; omega))).new k91 (fun b hb => .inr (by simp at hb; omega))
    have dj2 : Q9.t.get H11.next = some (.dfr (some [])) := by
      rw [k91.2 H11.next (by omega) (by simp; omega), k90.2 H11.next (by omega) (by simp; omega)]; exact dj
    refine And.intro trivial (Or.inr ⟨H11.next, rfl, by omega, dj2, fun H15 hn15 hs15 => ?_⟩)
    have k15 : Keep Q9 H15 [H11.next] := ⟨by omega, fun b _ hb => hs15 b (by simpa using hb)⟩
    exact ⟨_, res2 rfl rfl a3 a28 (k15.cl q10' (by simp; omega)).rd (k15.cl c91 (by simp; omega)).rd, done _ _ _ (kk.new k15 (fun b hb => .inr (by simp at hb; omega))) hv⟩
  · refine ⟨.done, some .ret, _, dn.lp, by simp, ?_⟩
    intro H14 s14
    have k14 := s14.keep
    have hn14 : H14.next = H13.next := s14.1
    have ll := dn.ll
    have ll : H11.next + 1 < H13.next := ll
    have kH : Keep H H14 [] := dn.kp.new k14 (fun b hb => .inr (by simp at hb; omega))
    obtain ⟨x, y, q10, q11, hv⟩ := dn.res
    have q10 : Cl H13 H3.next [iv x] := q10
    have q11 : Cl H13 H4.next [iv y] := q11
    have q10 := k14.cl q10 (by simp; omega)
    have q11 := k14.cl q11 (by simp; omega)
    have dj : H14.t.get H11.next = some (.dfr (some [])) := by
      rw [k14.2 H11.next (by omega) (by simp)]; exact dn.dfr
    refine And.intro trivial (Or.inr ⟨H11.next, rfl, by omega, dj, fun H15 hn15 hs15 => ?_⟩)
    have k15 : Keep H14 H15 [H11.next] := ⟨by omega, fun b _ hb => hs15 b (by simpa using hb)⟩
    exact ⟨_, res2 rfl rfl a3 a28 (k15.cl q10 (by simp; omega)).rd (k15.cl q11 (by simp; omega)).rd, done _ _ _ (kH.new k15 (fun b hb => .inr (by simp at hb; omega))) hv⟩
end
end Go.Ax
/-
  Frost: FrostTemps, whatever the night (written by program).
-/
namespace Go.Ax
open Go Go.RowKit Go.Proofs

theorem prun_bind {P : Program} {α β : Type} (f : α → Sem β) : ∀ (x : Sem α), prun P (x >>= f) = match prun P x with | some a => prun P (f a) | none => none := by
  intro x
  induction x with
  | pure a => rfl
  | program k ih => exact ih P
  | _ => rfl
theorem prun_pure {P : Program} {α : Type} (a : α) : prun P (pure a) = some a := rfl
theorem prun_und : prun Tryz.prog (underlying 3) = some (.int .i64) := by kernel_rfl
theorem prun_eqi (d : Nat) (a b : Int) : prun Tryz.prog (Op.equalIn (d + 1) 3 (iv a) (iv b)) = some (a == b) := by
  rw [Op.equalIn]
  rw [prun_bind, prun_und]
  rfl
theorem prun_und48 : prun Tryz.prog (underlying 48) = some (.struct #[⟨"Lo", 3, 0, false, "", "", 0⟩, ⟨"Hi", 3, 1, false, "", "", 8⟩]) := by kernel_rfl
theorem st48 : Tryz.prog.stoodInHeld 48 = false := by kernel_rfl
theorem prun_part0 (a b : Int) : prun Tryz.prog (part 3 #[iv a, iv b] 0) = some (iv a) := by kernel_rfl
theorem prun_part1 (a b : Int) : prun Tryz.prog (part 3 #[iv a, iv b] 1) = some (iv b) := by kernel_rfl
theorem prun_eq48 (d : Nat) (a b c e : Int) : prun Tryz.prog (Op.equalIn (d + 2) 48 (.agg #[iv a, iv b]) (.agg #[iv c, iv e])) = some (a == c && b == e) := by
  rw [Op.equalIn]
  rw [prun_bind, prun_und48]
  simp only []
  rw [prun_bind]
  rw [show prun Tryz.prog program = some Tryz.prog from rfl]
  simp only [st48]
  simp only [Bool.false_eq_true, if_false, ↓reduceIte]
  rw [← Array.forIn_toList]
  simp only [List.forIn_cons, List.forIn_nil]
  rw [if_pos (by decide), if_pos (by decide)]
  simp only [prun_bind, prun_part0, prun_part1, prun_eqi]
  generalize (a == c) = u
  cases u
  · simp only [Bool.not_false, ↓reduceIte, prun_pure, Bool.false_and]
  · simp only [Bool.not_true, Bool.false_eq_true, ↓reduceIte, prun_pure, prun_bind, prun_part0, prun_part1, prun_eqi, Bool.true_and]
    generalize (b == e) = w
    cases w
    · simp only [Bool.not_false, ↓reduceIte, prun_pure]
    · simp only [Bool.not_true, Bool.false_eq_true, ↓reduceIte, prun_pure]
theorem md : Op.maxDepth = 9998 + 2 := by decide
theorem eg48 : Tryz.prog.eqGuardType Tryz.prog.depth 48 = false := by kernel_rfl
/-- two spans, whether they are other ones -/
theorem pure_neq48 {n : Nat} {S : Rg} {d : Option Tmp} {x y : Operand} {p : String} {a b c e : Int} (hx : evS S x = some (.agg #[iv a, iv b])) (hy : evS S y = some (.agg #[iv c, iv e])) :
    pureOp Tryz.prog (frS n S) ⟨d, .binOp .neq 48 x y 48, 4, p, #[], none⟩ = some (.bool (!(a == c && b == e))) := by
  have key : prun Tryz.prog (do eqGuard .neq 48 x y (.agg #[iv a, iv b]) (.agg #[iv c, iv e]); binOp .neq 48 (.agg #[iv a, iv b]) (.agg #[iv c, iv e])) = some (.bool (!(a == c && b == e))) := by
    rw [prun_bind]
    have hg : prun Tryz.prog (eqGuard .neq 48 x y (.agg #[iv a, iv b]) (.agg #[iv c, iv e])) = some () := by kernel_rfl
    rw [hg]
    clear hg
    have hb : binOp .neq 48 (.agg #[iv a, iv b]) (.agg #[iv c, iv e]) = (Op.equal 48 (.agg #[iv a, iv b]) (.agg #[iv c, iv e]) >>= fun r => pure (.bool (!r))) := by kernel_rfl
    simp only [hb]
    rw [prun_bind]
    have heq : Op.equal 48 (.agg #[iv a, iv b]) (.agg #[iv c, iv e]) = Op.equalIn (9998 + 2) 48 (.agg #[iv a, iv b]) (.agg #[iv c, iv e]) := congrArg (fun n => Op.equalIn n 48 (.agg #[iv a, iv b]) (.agg #[iv c, iv e])) md
    rw [heq, prun_eq48]
    rfl
  unfold pureOp
  simp only [ev_frS, hx, hy]
  rw [show (flat (.agg #[iv a, iv b]) && flat (.agg #[iv c, iv e])) = true from rfl, cond_true, key]
  rfl
section
variable {kn : FuncId → Option Bool} {lo : Nat} {H : Hp}
theorem same_ok {a1 a2 : Option Addr} {n c1 c2 : Nat} {ss : List (Int × Int)} (h1 : Sl H a1 n c1 (spc ss)) (h2 : Sl H a2 n c2 (spc ss)) (hl : ss.length = n) (hn : n ≤ 1000) :
    ∃ H', FnX Tryz.prog kn lo 21 [.slice a1 n c1, .slice a2 n c2] H (.bool true) H' ∧ Keep H H' [] := by
  have key := fnX_low (kn := kn) (lo := lo) (H := H) (args := [.slice a1 n c1, .slice a2 n c2]) (Q := fun w H' => w = .bool true ∧ Keep H H' []) Tryz.func21 B21 N21 Z21 L21 (by simp) ?_
  · obtain ⟨w, H', h, rfl, q⟩ := key; exact ⟨H', h, q⟩
  have hne : ((n : Int) != (n : Int)) = false := by simp
  refine And.intro (fun h => by rw [hne] at h; cases h) (fun _ => ?_)
  refine loop_low (fn := Tryz.f21) E21_1 N21 L21x1 (fun i : Nat => [(0, .slice a1 n c1), (1, .slice a2 n c2), (5, iv (i : Int))])
    (fun k i H' => i + k = n ∧ Keep H H' []) n 0 ⟨by omega, Keep.refl _ _⟩ ⟨rfl, rfl, rfl, trivial⟩ ?_
  rintro kk i H5 ⟨hik, hki⟩
  refine And.intro (fun hlt => ?_) (fun hge => ?_)
  · have hi : i < n := by simpa using hlt
    obtain ⟨p, hp⟩ := get_some (l := ss) (i := i) (by omega)
    rcases h1 with ⟨_, h0, _⟩ | ⟨x1, rfl, q1, _⟩
    · omega
    rcases h2 with ⟨_, h0, _⟩ | ⟨x2, rfl, q2, _⟩
    · omega
    have q1 := hki.rd q1 (by simp)
    have q2 := hki.rd q2 (by simp)
    refine wD_seq ?_
    refine wD_mov (v := .slice (some ⟨x1, 0, none⟩) n c1) rfl ?_
    refine wD_mov (v := iv (i : Int)) rfl ?_
    refine wD_idx (b := x1) (o := 0) (k := i) (j := (i : Int)) rfl rfl rfl hi ?_
    refine wD_lda (b := x1) (o := 0 + i * 2) rfl q1 (spc_row hp) ?_
    refine wD_mov (v := .slice (some ⟨x2, 0, none⟩) n c2) rfl ?_
    refine wD_mov (v := iv (i : Int)) rfl ?_
    refine wD_idx (b := x2) (o := 0) (k := i) (j := (i : Int)) rfl rfl rfl hi ?_
    refine wD_lda (b := x2) (o := 0 + i * 2) rfl q2 (spc_row hp) ?_
    refine wD_pur (v := .bool false) rfl ((pure_neq48 (a := p.1) (b := p.2) (c := p.1) (e := p.2) rfl rfl).trans (by simp)) ?_
    refine wD_end (by repeat' first | exact True.intro | exact (fun h => h) | refine And.intro ?_ ?_ | (intro h; have h : (_ : Nat) = _ := h; omega)) ?_
    refine condF ?_
    refine And.intro ⟨by omega, by omega⟩ ?_
    exact ⟨kk - 1, i + 1, by omega, ⟨by omega, hki⟩, rfl, rfl, rfl, trivial⟩
  · exact And.intro trivial (Exists.intro _ (And.intro rfl ⟨rfl, hki⟩))
theorem Ng.Tm.both {g : Ng} {H1 H2 H3 H4 : Hp} {w1 w2 : Value} (h1 : g.Tm H1 w1 H2) (h2 : g.Tm H3 w2 H4) (k : Keep H2 H4 []) (hn : g.ok = true → g.n ≤ 1000) :
    ∃ a1 m c1 a2 c2 e, ∃ ss : List (Int × Int), w1 = .tuple #[.slice a1 m c1, iv e] ∧ w2 = .tuple #[.slice a2 m c2, iv e] ∧ Sl H4 a1 m c1 (spc ss) ∧ Sl H4 a2 m c2 (spc ss) ∧ ss.length = m ∧ m ≤ 1000 := by
  have nil : Sl H4 none 0 0 (spc []) := .inl ⟨.inl rfl, rfl, rfl, rfl⟩
  rcases h1 with ⟨o1, p1, b1, e1, _, q1⟩ | ⟨o1, p1, e1⟩ | ⟨o1, e1⟩ <;> rcases h2 with ⟨o2, p2, b2, e2, _, q2⟩ | ⟨o2, p2, e2⟩ | ⟨o2, e2⟩
  · exact ⟨_, _, _, _, _, _, g.spans, e1, e2, (k.cl q1 (by simp)).sl (Nat.le_refl _), q2.sl (Nat.le_refl _), g.spans_len, hn o1⟩
  · rw [p1] at p2; cases p2
  · rw [o1] at o2; cases o2
  · rw [p1] at p2; cases p2
  · exact ⟨_, _, _, _, _, _, [], e1, e2, nil, nil, rfl, by decide⟩
  · rw [o1] at o2; cases o2
  · rw [o1] at o2; cases o2
  · rw [o1] at o2; cases o2
  · exact ⟨_, _, _, _, _, _, [], e1, e2, nil, nil, rfl, by decide⟩
theorem law_temps (hkn : kn 16 = some true) {g : Ng} {a b gain limit : Int} (hgn : g.n = g.slots.toNat) (hs : Sl H g.sa g.sn g.scap (spc g.ss)) (hr : Sl H g.ra g.rn g.rcap (rdc g.rs)) (hsn : g.ss.length = g.sn) (hrn : g.rs.length = g.rn) (hlo : lo ≤ H.next) :
    ∃ H', FnX Tryz.prog kn lo 3 [.agg g.v.toArray, iv a, iv b, iv gain, iv limit] H (.bool true) H' := by
  have key := fnX_low (kn := kn) (lo := lo) (H := H) (args := [.agg g.v.toArray, iv a, iv b, iv gain, iv limit]) (Q := fun v H' => v = .bool true) Tryz.func3 B3 N3 Z3 L3 (by simp) ?_
  · obtain ⟨v, H', hf, rfl⟩ := key; exact ⟨H', hf⟩
  have al : ∀ (H9 : Hp) (K : Value → Hp → Prop), K (.bool true) H9 → ∃ v H', CallsX Tryz.prog kn lo (.fn (.func 16) #[]) [] H9 v H' ∧ K v H' := fun H9 K h => ⟨_, _, callX_known hkn, h⟩
  intro H1 hH1; obtain ⟨k1, n1, c1⟩ := new_facts hH1; clear hH1
  have c1 : Cl H1 H.next g.v := c1
  refine Exists.intro _ (Exists.intro _ (And.intro c1.of (And.intro (show row 5 g.v 0 = some g.v from rfl) ?_)))
  refine callB great15_ok ?_
  intro t2 H2 h2 k2
  have k12 := k1.trans k2
  have c2 := k2.cl c1 (by simp)
  cases t2
  rotate_left
  · refine condT ?_
    refine al _ _ ?_
    exact And.intro trivial (Exists.intro _ (And.intro rfl rfl))
  refine condF ?_
  have hok : g.ok = true → g.slots = (g.n : Int) := fun h => by
    have : inB g.slots 1 96 = true := by
      simp only [Ng.ok, Bool.and_eq_true] at h
      exact h.1.1.1.1.1.1
    simp only [inB, Bool.and_eq_true, decide_eq_true_eq] at this
    omega
  have hok2 : g.ok = true → g.n ≤ 1000 := fun h => by
    have : inB g.slots 1 96 = true := by
      simp only [Ng.ok, Bool.and_eq_true] at h
      exact h.1.1.1.1.1.1
    simp only [inB, Bool.and_eq_true, decide_eq_true_eq] at this
    omega
  obtain ⟨w, H3, f3, k3, hcase⟩ := tm_ok (kn := kn) (lo := lo) (g := g) (H := H2) hok (k12.sl0 hs) (k12.sl0 hr) hsn hrn (by have := k12.1; omega)
  have k13 := k12.trans k3
  have c3 := k3.cl c2 (by simp)
  obtain ⟨w2, H4, f4, k4, hcase2⟩ := rtm_ok (kn := kn) (lo := lo) (g := g) (H := H3) hok (k13.sl0 hs) (k13.sl0 hr) hsn hrn (by have := k13.1; omega)
  have k14 := k13.trans k4
  have c4 := k4.cl c3 (by simp)
  obtain ⟨a1, m, c1', a2, c2', e, ss, rfl, rfl, s1, s2, hl, hm⟩ := hcase.both hcase2 k4 hok2
  refine Exists.intro _ (Exists.intro _ (And.intro c2.of (And.intro (show row 5 g.v 0 = some g.v from rfl) ?_)))
  refine Exists.intro _ (Exists.intro _ (And.intro (callX_args f3) ?_))
  refine And.intro rfl (Exists.intro (.slice a1 m c1') (And.intro (by cases a1 <;> kernel_rfl) ?_))
  refine And.intro rfl (Exists.intro (iv e) (And.intro (by cases a1 <;> kernel_rfl) ?_))
  refine Exists.intro _ (Exists.intro _ (And.intro c3.of (And.intro (show row 5 g.v 0 = some g.v from rfl) ?_)))
  refine Exists.intro _ (Exists.intro _ (And.intro (callX_args f4) ?_))
  refine And.intro rfl (Exists.intro (.slice a2 m c2') (And.intro (by cases a2 <;> kernel_rfl) ?_))
  refine And.intro rfl (Exists.intro (iv e) (And.intro (by cases a2 <;> kernel_rfl) ?_))
  obtain ⟨H5, f5, k5⟩ := ice19_ok (kn := kn) (lo := lo) (g := g) (a := a) (b := b) (gain := gain) (limit := limit) (H := H4) hok (k14.sl0 hs) (k14.sl0 hr) hsn hrn (by have := k14.1; omega)
  have k15 := k14.trans k5
  have c5 := k5.cl c4 (by simp)
  obtain ⟨H6, f6, k6⟩ := ice20_ok (kn := kn) (lo := lo) (g := g) (a := a) (b := b) (gain := gain) (limit := limit) (H := H5) hok (k15.sl0 hs) (k15.sl0 hr) hsn hrn (by have := k15.1; omega)
  have k46 := k5.trans k6
  generalize hx : (iceV g a b gain limit).1 = x at f5 f6
  generalize hy : (iceV g a b gain limit).2 = y at f5 f6
  refine Exists.intro _ (Exists.intro _ (And.intro c4.of (And.intro (show row 5 g.v 0 = some g.v from rfl) ?_)))
  refine Exists.intro _ (Exists.intro _ (And.intro (callX_args f5) ?_))
  refine And.intro rfl (Exists.intro (iv x) (And.intro (by kernel_rfl) ?_))
  refine And.intro rfl (Exists.intro (iv y) (And.intro (by kernel_rfl) ?_))
  refine Exists.intro _ (Exists.intro _ (And.intro c5.of (And.intro (show row 5 g.v 0 = some g.v from rfl) ?_)))
  refine Exists.intro _ (Exists.intro _ (And.intro (callX_args f6) ?_))
  refine And.intro rfl (Exists.intro (iv x) (And.intro (by kernel_rfl) ?_))
  refine And.intro rfl (Exists.intro (iv y) (And.intro (by kernel_rfl) ?_))
  refine callB (same_ok (k46.sl0 s1) (k46.sl0 s2) hl hm) ?_
  intro t7 H7 h7 k7
  subst h7
  intro t8 h8; cases t8
  · simp at h8
  refine And.intro rfl (Exists.intro (.bool true) (And.intro rfl ?_))
  intro t9 h9; cases t9
  · simp at h9
  refine And.intro rfl (Exists.intro (.bool true) (And.intro rfl ?_))
  intro t10 h10; cases t10
  · simp at h10
  refine And.intro rfl (Exists.intro (.bool true) (And.intro rfl ?_))
  refine al _ _ ?_
  refine And.intro rfl (Exists.intro (.bool true) (And.intro rfl ?_))
  exact And.intro trivial (Exists.intro _ (And.intro rfl rfl))
end
end Go.Ax

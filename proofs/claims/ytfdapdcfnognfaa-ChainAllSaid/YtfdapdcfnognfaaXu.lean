import Derived.Test.YtfdapdcfnognfaaAxW8
import Derived.Test.YtfdapdcfnognfaaAxR
import Derived.Test.YtfdapdcfnognfaaXb
import Derived.Test.YtfdapdcfnognfaaXr
set_option linter.all false
namespace Go.Ax
open Go Go.RowKit Go.Proofs
theorem N29 : Try.f29.ntmps = 39 := by kernel_rfl
theorem Z29 : Try.f29.results.toList = ((List.toArray [(.tmp 10), (.tmp 11)]) : Array ResultVar).toList := by kernel_rfl
theorem B29 : Try.f29.body = some (at_ Try.f29 []) := by kernel_rfl
noncomputable def R29 : RC := (.seq (.reg [⟨(some 5), none, (.box 25 (.tmp 0))⟩, ⟨(some 6), none, (.box 26 (.tmp 1))⟩, ⟨(some 7), none, (.box 47 (.tmp 2))⟩, ⟨(some 8), none, (.box 33 (.tmp 3))⟩, ⟨(some 9), none, (.box 3 (.tmp 4))⟩, ⟨(some 10), none, (.mov (.const (.int .i64 0)))⟩, ⟨(some 11), none, (.mov (.const (.int .i64 0)))⟩])
  (.seq (.seq (.reg [⟨(some 14), none, (.lda (.tmp 5) 2)⟩, ⟨(some 15), none, (.ld (.tmp 6) 1)⟩, ⟨(some 16), none, (.ld (.tmp 7) 1)⟩, ⟨(some 17), none, (.call ⟨(.value (.func 44)), (List.toArray [(.tmp 14), (.tmp 15), (.tmp 16)]), (List.toArray [25, 26, 47])⟩ true)⟩, ⟨(some 12), none, (.mov (.tmp 17))⟩])
  (.seq (.reg [⟨(some 18), none, (.mov (.tmp 12))⟩, ⟨(some 19), none, (.cmp .neq (.tmp 18) (.const (.int .i64 0)))⟩])
  (.cond (.tmp 19) (.seq (.reg [⟨(some 20), none, (.mov (.tmp 12))⟩, ⟨(some 10), none, (.mov (.const (.int .i64 0)))⟩, ⟨(some 11), none, (.mov (.tmp 20))⟩])
  .ret)
  .skip)))
  (.seq (.seq (.reg [⟨(some 21), none, (.lda (.tmp 5) 2)⟩, ⟨(some 22), none, (.ld (.tmp 8) 1)⟩, ⟨(some 23), none, (.call ⟨(.value (.func 58)), (List.toArray [(.tmp 21), (.tmp 22)]), (List.toArray [25, 33])⟩ true)⟩, ⟨(some 24), none, (.pur ⟨(some 24), (.unOp .not 4 (.tmp 23)), 4, "", (List.toArray []), none⟩)⟩, ⟨(some 25), none, (.mov (.tmp 24))⟩, ⟨(some 26), (some (25, false)), (.ld (.tmp 9) 1)⟩, ⟨(some 27), (some (25, false)), (.addo (.tmp 5) 0)⟩, ⟨(some 28), (some (25, false)), (.ld (.tmp 27) 1)⟩, ⟨(some 29), (some (25, false)), (.len (.tmp 28))⟩, ⟨(some 30), (some (25, false)), (.call ⟨(.value (.func 61)), (List.toArray [(.tmp 26), (.tmp 29)]), (List.toArray [3, 3])⟩ true)⟩, ⟨(some 31), (some (25, false)), (.pur ⟨(some 31), (.unOp .not 4 (.tmp 30)), 4, "", (List.toArray []), none⟩)⟩, ⟨(some 32), none, (.pur ⟨(some 32), (.pick (.tmp 25) (.const (.bool true)) (.tmp 31)), 4, "", (List.toArray []), none⟩)⟩])
  (.cond (.tmp 32) (.seq (.reg [⟨(some 10), none, (.mov (.const (.int .i64 0)))⟩, ⟨(some 11), none, (.mov (.const (.int .i64 2)))⟩])
  .ret)
  .skip))
  (.seq (.reg [⟨(some 33), none, (.pur ⟨(some 33), (.makeFunc (.func 62) (List.toArray []) (List.toArray [(.tmp 9), (.tmp 5), (.tmp 6), (.tmp 7), (.tmp 8)])), 88, "", (List.toArray []), none⟩)⟩, ⟨(some 13), none, (.alc 88 [.nilFunc])⟩, ⟨none, none, (.st (.tmp 13) (.tmp 33))⟩])
  (.seq (.seq (.reg [⟨(some 34), none, (.ld (.tmp 13) 1)⟩, ⟨(some 35), none, (.call ⟨(.value (.tmp 34)), (List.toArray [(.const (.int .i64 0))]), (List.toArray [3])⟩ true)⟩, ⟨(some 36), none, (.pur ⟨(some 36), (.unOp .not 4 (.tmp 35)), 4, "", (List.toArray []), none⟩)⟩])
  (.cond (.tmp 36) (.seq (.reg [⟨(some 10), none, (.mov (.const (.int .i64 0)))⟩, ⟨(some 11), none, (.mov (.const (.int .i64 4)))⟩])
  .ret)
  .skip))
  (.seq (.reg [⟨(some 37), none, (.pur ⟨(some 37), (.makeFunc (.func 65) (List.toArray []) (List.toArray [(.tmp 13)])), 88, "", (List.toArray []), none⟩)⟩, ⟨(some 38), none, (.call ⟨(.value (.func 64)), (List.toArray [(.const (.int .i64 68719476736)), (.tmp 37)]), (List.toArray [3, 88])⟩ true)⟩, ⟨(some 10), none, (.mov (.tmp 38))⟩, ⟨(some 11), none, (.mov (.const (.int .i64 0)))⟩])
  .ret))))))
theorem L29 : low Try.prog Try.f29.ntmps (at_ Try.f29 []) = some R29 := by kernel_rfl
theorem N62 : Try.f62.ntmps = 23 := by kernel_rfl
theorem Z62 : Try.f62.results.toList = ((List.toArray [(.tmp 7)]) : Array ResultVar).toList := by kernel_rfl
theorem B62 : Try.f62.body = some (at_ Try.f62 []) := by kernel_rfl
noncomputable def R62 : RC := (.seq (.reg [⟨(some 7), none, (.mov (.const (.bool false)))⟩])
  (.seq (.reg [⟨(some 9), none, (.ld (.tmp 1) 1)⟩, ⟨(some 10), none, (.mov (.tmp 0))⟩, ⟨(some 11), none, (.pur ⟨(some 11), (.build 86 (List.toArray [(0, (.tmp 9)), (1, (.tmp 10))])), 86, "", (List.toArray []), none⟩)⟩, ⟨(some 8), none, (.alc 86 [(.int .i64 0), (.int .i64 0)])⟩, ⟨none, none, (.sta (.tmp 8) (.tmp 11) 2)⟩])
  (.seq (.dreg [⟨(some 12), none, (.lda (.tmp 2) 2)⟩, ⟨(some 13), none, (.ld (.tmp 3) 1)⟩, ⟨(some 14), none, (.pur ⟨(some 14), (.build 101 (List.toArray [])), 101, "", (List.toArray []), none⟩)⟩, ⟨(some 15), none, (.pur ⟨(some 15), (.makeInterface 101 (.tmp 14)), 105, "", (List.toArray []), none⟩)⟩, ⟨(some 16), none, (.call ⟨(.value (.func 51)), (List.toArray [(.tmp 12), (.tmp 13), (.tmp 15)]), (List.toArray [25, 26, 105])⟩ false)⟩, ⟨(some 17), none, (.ld (.tmp 4) 1)⟩, ⟨(some 18), none, (.lda (.tmp 8) 2)⟩, ⟨(some 19), none, (.mem ⟨(some 19), (.buildSlice 28 1 (List.toArray [(0, (.tmp 18))])), 28, "", (List.toArray []), none⟩)⟩, ⟨(some 20), none, (.call ⟨(.value (.func 59)), (List.toArray [(.tmp 17), (.tmp 19)]), (List.toArray [47, 28])⟩ false)⟩, ⟨(some 21), none, (.ld (.tmp 5) 1)⟩, ⟨(some 22), none, (.call ⟨(.value (.func 63)), (List.toArray [(.tmp 16), (.tmp 20), (.tmp 21)]), (List.toArray [90, 114, 33])⟩ true)⟩, ⟨(some 7), none, (.mov (.tmp 22))⟩] [2047, 1023, 0, 255, 64, 0, 0, 15, 4, 0, 0, 0])
  .ret)))
theorem L62 : low Try.prog Try.f62.ntmps (at_ Try.f62 []) = some R62 := by kernel_rfl
theorem N64 : Try.f64.ntmps = 26 := by kernel_rfl
theorem Z64 : Try.f64.results.toList = ((List.toArray [(.tmp 4)]) : Array ResultVar).toList := by kernel_rfl
theorem B64 : Try.f64.body = some (at_ Try.f64 []) := by kernel_rfl
noncomputable def R64 : RC := (.seq (.reg [⟨(some 4), none, (.mov (.const (.int .i64 0)))⟩])
  (.seq (.reg [⟨(some 8), none, (.mov (.tmp 0))⟩, ⟨(some 5), none, (.mov (.const (.int .i64 0)))⟩, ⟨(some 6), none, (.mov (.tmp 8))⟩])
  (.seq (.block 0 (.other (at_ Try.f64 [1, 1, 0, 0])))
  (.seq (.reg [⟨(some 25), none, (.mov (.tmp 5))⟩, ⟨(some 4), none, (.mov (.tmp 25))⟩])
  .ret))))
theorem L64 : low Try.prog Try.f64.ntmps (at_ Try.f64 []) = some R64 := by kernel_rfl
theorem E64_1 : at_ Try.f64 [1, 1, 0, 0] = .loop (at_ Try.f64 [1, 1, 0, 0, 0]) := by kernel_rfl
noncomputable def R64x1 : RC := (.seq (.seq (.reg [⟨(some 9), none, (.mov (.tmp 5))⟩, ⟨(some 10), none, (.mov (.tmp 6))⟩, ⟨(some 11), none, (.cmp .lss (.tmp 9) (.tmp 10))⟩])
  (.cond (.tmp 11) .skip
  (.exit 0)))
  (.block 1 (.seq (.reg [⟨(some 12), none, (.mov (.tmp 5))⟩, ⟨(some 13), none, (.mov (.tmp 6))⟩, ⟨(some 14), none, (.ari .add (.tmp 12) (.tmp 13))⟩, ⟨(some 15), none, (.pur ⟨(some 15), (.convert 3 138 (.tmp 14)), 138, "", (List.toArray []), none⟩)⟩, ⟨(some 16), none, (.pur ⟨(some 16), (.binOp .shr 138 (.tmp 15) (.const (.int .u64 1)) 138), 138, "", (List.toArray []), none⟩)⟩, ⟨(some 17), none, (.pur ⟨(some 17), (.convert 138 3 (.tmp 16)), 3, "", (List.toArray []), none⟩)⟩, ⟨(some 7), none, (.mov (.tmp 17))⟩])
  (.seq (.reg [⟨(some 18), none, (.mov (.tmp 1))⟩, ⟨(some 19), none, (.mov (.tmp 7))⟩, ⟨(some 20), none, (.call ⟨(.value (.tmp 18)), (List.toArray [(.tmp 19)]), (List.toArray [3])⟩ true)⟩, ⟨(some 21), none, (.pur ⟨(some 21), (.unOp .not 4 (.tmp 20)), 4, "", (List.toArray []), none⟩)⟩])
  (.cond (.tmp 21) (.reg [⟨(some 22), none, (.mov (.tmp 7))⟩, ⟨(some 23), none, (.ari .add (.tmp 22) (.const (.int .i64 1)))⟩, ⟨(some 5), none, (.mov (.tmp 23))⟩])
  (.reg [⟨(some 24), none, (.mov (.tmp 7))⟩, ⟨(some 6), none, (.mov (.tmp 24))⟩]))))))
theorem L64x1 : low Try.prog Try.f64.ntmps (at_ Try.f64 [1, 1, 0, 0, 0]) = some R64x1 := by kernel_rfl
theorem N65 : Try.f65.ntmps = 9 := by kernel_rfl
theorem Z65 : Try.f65.results.toList = ((List.toArray [(.tmp 3)]) : Array ResultVar).toList := by kernel_rfl
theorem B65 : Try.f65.body = some (at_ Try.f65 []) := by kernel_rfl
noncomputable def R65 : RC := (.seq (.reg [⟨(some 3), none, (.mov (.const (.bool false)))⟩])
  (.seq (.reg [⟨(some 4), none, (.ld (.tmp 1) 1)⟩, ⟨(some 5), none, (.mov (.tmp 0))⟩, ⟨(some 6), none, (.ari .add (.tmp 5) (.const (.int .i64 1)))⟩, ⟨(some 7), none, (.call ⟨(.value (.tmp 4)), (List.toArray [(.tmp 6)]), (List.toArray [3])⟩ true)⟩, ⟨(some 8), none, (.pur ⟨(some 8), (.unOp .not 4 (.tmp 7)), 4, "", (List.toArray []), none⟩)⟩, ⟨(some 3), none, (.mov (.tmp 8))⟩])
  .ret))
theorem L65 : low Try.prog Try.f65.ntmps (at_ Try.f65 []) = some R65 := by kernel_rfl
theorem N63 : Try.f63.ntmps = 31 := by kernel_rfl
theorem Z63 : Try.f63.results.toList = ((List.toArray [(.cell 6 4)]) : Array ResultVar).toList := by kernel_rfl
theorem B63 : Try.f63.body = some (at_ Try.f63 []) := by kernel_rfl
theorem N83 : Try.f83.ntmps = 3 := by kernel_rfl
theorem Z83 : Try.f83.results.toList = ((List.toArray []) : Array ResultVar).toList := by kernel_rfl
theorem B83 : Try.f83.body = some (at_ Try.f83 []) := by kernel_rfl

noncomputable def R63a : RC := (.reg [⟨(some 3), none, (.box 90 (.tmp 0))⟩, ⟨(some 5), none, (.box 33 (.tmp 2))⟩, ⟨(some 6), none, (.alc 4 [(.bool false)])⟩])
theorem L63a : low Try.prog Try.f63.ntmps (at_ Try.f63 [0]) = some R63a := by kernel_rfl
noncomputable def R63b : RC := (.reg [⟨(some 11), none, (.ld (.tmp 3) 1)⟩, ⟨(some 12), none, (.nilc (.tmp 11))⟩, ⟨(some 13), none, (.addo (.tmp 12) 4)⟩, ⟨none, none, (.st (.tmp 13) (.const (.bool true)))⟩])
theorem L63b : low Try.prog Try.f63.ntmps (at_ Try.f63 [1, 0]) = some R63b := by kernel_rfl
noncomputable def R63c : RC := (.reg [⟨(some 15), none, (.mov (.tmp 1))⟩])
theorem L63c : low Try.prog Try.f63.ntmps (at_ Try.f63 [1, 1, 1, 0, 0]) = some R63c := by kernel_rfl
noncomputable def R63d : RC := (.reg [⟨(some 8), none, (.alc 30 [(.slice none 0 0), (.slice none 0 0), (.slice none 0 0)])⟩, ⟨none, none, (.sta (.tmp 8) (.tmp 17) 3)⟩])
theorem L63d : low Try.prog Try.f63.ntmps (at_ Try.f63 [1, 1, 1, 0, 1, 0, 0]) = some R63d := by kernel_rfl
noncomputable def R63e : RC := (.seq (.reg [⟨none, none, (.st (.tmp 6) (.const (.bool true)))⟩])
  .ret)
theorem L63e : low Try.prog Try.f63.ntmps (at_ Try.f63 [1, 1, 1, 1]) = some R63e := by kernel_rfl
noncomputable def R63g : RC := (.seq (.dreg [⟨(some 22), none, (.ld (.tmp 3) 1)⟩, ⟨(some 23), none, (.nilc (.tmp 22))⟩, ⟨(some 24), none, (.addo (.tmp 23) 3)⟩, ⟨(some 25), none, (.ld (.tmp 24) 1)⟩, ⟨(some 26), none, (.ld (.tmp 5) 1)⟩, ⟨(some 27), none, (.call ⟨(.value (.func 54)), (List.toArray [(.tmp 25), (.tmp 26)]), (List.toArray [33, 33])⟩ true)⟩, ⟨(some 21), none, (.mov (.tmp 27))⟩, ⟨(some 28), none, (.pur ⟨(some 28), (.extract (.tmp 21) 0), 3, "", (List.toArray []), none⟩)⟩, ⟨(some 29), none, (.pur ⟨(some 29), (.extract (.tmp 21) 1), 4, "", (List.toArray []), none⟩)⟩, ⟨(some 9), none, (.mov (.tmp 28))⟩, ⟨(some 10), none, (.mov (.tmp 29))⟩] [1023, 255, 127, 127, 63, 31, 0, 7, 3, 1, 0])
  (.seq (.reg [⟨(some 30), none, (.mov (.tmp 10))⟩])
  (.cond (.tmp 30) (.seq (.reg [⟨none, none, (.st (.tmp 6) (.const (.bool false)))⟩])
  .ret)
  .skip)))
noncomputable def R63v : RC := (.block 1 (.seq (.other (at_ Try.f63 [1, 1, 1, 0, 1, 0, 1, 0, 0])) R63g))
theorem V63 : LV Try.prog 31 (at_ Try.f63 [1, 1, 1, 0, 1, 0, 1]) R63v := by
  have e : at_ Try.f63 [1, 1, 1, 0, 1, 0, 1] = .block 1 (.seq (at_ Try.f63 [1, 1, 1, 0, 1, 0, 1, 0, 0]) (at_ Try.f63 [1, 1, 1, 0, 1, 0, 1, 0, 1])) := by kernel_rfl
  rw [e]
  exact .block 1 (.seq (.other _) (.low (by kernel_rfl)))
theorem S63a : at_ Try.f63 [] = .seq (at_ Try.f63 [0]) (at_ Try.f63 [1]) := by kernel_rfl
theorem S63b : at_ Try.f63 [1] = .seq (at_ Try.f63 [1, 0]) (at_ Try.f63 [1, 1]) := by kernel_rfl
theorem S63c : at_ Try.f63 [1, 1] = .seq (at_ Try.f63 [1, 1, 0]) (at_ Try.f63 [1, 1, 1]) := by kernel_rfl
theorem S63d : at_ Try.f63 [1, 1, 1] = .seq (at_ Try.f63 [1, 1, 1, 0]) (at_ Try.f63 [1, 1, 1, 1]) := by kernel_rfl
theorem S63e : at_ Try.f63 [1, 1, 1, 0] = .seq (at_ Try.f63 [1, 1, 1, 0, 0]) (at_ Try.f63 [1, 1, 1, 0, 1]) := by kernel_rfl
theorem S63f : at_ Try.f63 [1, 1, 1, 0, 1] = .block 0 (at_ Try.f63 [1, 1, 1, 0, 1, 0]) := by kernel_rfl
theorem S63r : at_ Try.f63 [1, 1, 1, 0, 1, 0] = .rangeFunc (.tmp 15) (List.toArray [16, 17]) (at_ Try.f63 [1, 1, 1, 0, 1, 0, 0]) (at_ Try.f63 [1, 1, 1, 0, 1, 0, 1]) := by kernel_rfl
/-- the operations of a region -/
noncomputable def opsOf : Code → Array Oper
  | .region _ ops _ => ops
  | _ => #[]
theorem D63 : at_ Try.f63 [1, 1, 0] = .region 2 (opsOf (at_ Try.f63 [1, 1, 0])) false := by kernel_rfl
theorem P63 : lowRPs Try.prog 31 (opsOf (at_ Try.f63 [1, 1, 0])).toList (opsOf (at_ Try.f63 [1, 1, 0])).toList = some [(.ro ⟨(some 14), none, (.pur ⟨(some 14), (.makeFunc (.func 83) (List.toArray []) (List.toArray [(.tmp 6)])), 1, "", (List.toArray []), none⟩)⟩), (.dfr none ⟨(.value (.tmp 14)), (List.toArray []), (List.toArray [])⟩)] := by kernel_rfl
theorem D63p : at_ Try.f63 [1, 1, 1, 0, 1, 0, 1, 0, 0] = .region 5 (opsOf (at_ Try.f63 [1, 1, 1, 0, 1, 0, 1, 0, 0])) false := by kernel_rfl
theorem P63p : lowRPs Try.prog 31 (opsOf (at_ Try.f63 [1, 1, 1, 0, 1, 0, 1, 0, 0])).toList (opsOf (at_ Try.f63 [1, 1, 1, 0, 1, 0, 1, 0, 0])).toList = some [(.ro ⟨(some 18), none, (.ld (.tmp 3) 1)⟩), (.ro ⟨(some 19), none, (.lda (.tmp 8) 3)⟩), (.ro ⟨(some 20), none, (.call ⟨(.value (.func 53)), (List.toArray [(.tmp 18), (.tmp 19)]), (List.toArray [90, 30])⟩ true)⟩)] := by kernel_rfl

noncomputable def R77v : RC := (.seq (.reg [⟨(some 3), none, (.box 86 (.tmp 1))⟩])
  (.seq (.dreg [⟨(some 5), none, (.addo (.tmp 3) 1)⟩, ⟨(some 6), none, (.ld (.tmp 5) 1)⟩, ⟨(some 7), none, (.mov (.tmp 0))⟩, ⟨(some 8), none, (.nilc (.tmp 7))⟩, ⟨(some 9), none, (.addo (.tmp 8) 3)⟩, ⟨(some 10), none, (.ld (.tmp 9) 1)⟩, ⟨(some 11), none, (.addo (.tmp 3) 0)⟩, ⟨(some 12), none, (.ld (.tmp 11) 1)⟩, ⟨(some 13), none, (.idx (.tmp 10) (.tmp 12) 1)⟩, ⟨(some 14), none, (.ld (.tmp 13) 1)⟩, ⟨(some 15), none, (.mm true (.tmp 6) (.tmp 14))⟩, ⟨(some 4), none, (.mov (.tmp 15))⟩] [2047, 1023, 508, 252, 64, 0, 28, 12, 4, 0, 1, 0])
  (.seq (.seq (.reg [⟨(some 16), none, (.mov (.tmp 0))⟩, ⟨(some 17), none, (.nilc (.tmp 16))⟩, ⟨(some 18), none, (.addo (.tmp 17) 4)⟩, ⟨(some 19), none, (.ld (.tmp 18) 1)⟩, ⟨(some 20), none, (.mov (.tmp 19))⟩, ⟨(some 21), (some (20, true)), (.mov (.tmp 4))⟩, ⟨(some 22), (some (20, true)), (.addo (.tmp 3) 1)⟩, ⟨(some 23), (some (20, true)), (.ld (.tmp 22) 1)⟩, ⟨(some 24), (some (20, true)), (.cmpb .lss (.tmp 21) (.tmp 23))⟩, ⟨(some 25), none, (.pur ⟨(some 25), (.pick (.tmp 20) (.tmp 24) (.const (.bool false))), 4, "", (List.toArray []), none⟩)⟩])
  (.cond (.tmp 25) (.other (at_ Try.f77 [1, 1, 0, 1, 0]))
  .skip))
  (.seq (.dreg [⟨(some 28), none, (.mov (.tmp 0))⟩, ⟨(some 29), none, (.nilc (.tmp 28))⟩, ⟨(some 30), none, (.addo (.tmp 29) 3)⟩, ⟨(some 31), none, (.ld (.tmp 30) 1)⟩, ⟨(some 32), none, (.addo (.tmp 3) 0)⟩, ⟨(some 33), none, (.ld (.tmp 32) 1)⟩, ⟨(some 34), none, (.idx (.tmp 31) (.tmp 33) 1)⟩, ⟨(some 35), none, (.ld (.tmp 34) 1)⟩, ⟨(some 36), none, (.mov (.tmp 4))⟩, ⟨(some 37), none, (.ari .sub (.tmp 35) (.tmp 36))⟩, ⟨(some 38), none, (.idx (.tmp 31) (.tmp 33) 1)⟩, ⟨none, none, (.st (.tmp 38) (.tmp 37))⟩] [2047, 1023, 511, 0, 127, 63, 16, 0, 7, 3, 1, 0])
  (.reg [⟨(some 39), none, (.mov (.tmp 0))⟩, ⟨(some 40), none, (.nilc (.tmp 39))⟩, ⟨(some 41), none, (.addo (.tmp 40) 8)⟩, ⟨(some 42), none, (.ld (.tmp 41) 1)⟩, ⟨(some 43), none, (.mov (.tmp 4))⟩, ⟨(some 44), none, (.ari .add (.tmp 42) (.tmp 43))⟩, ⟨(some 45), none, (.nilc (.tmp 39))⟩, ⟨(some 46), none, (.addo (.tmp 45) 8)⟩, ⟨none, none, (.st (.tmp 46) (.tmp 44))⟩])))))
theorem V77 : LV Try.prog 47 (at_ Try.f77 []) R77v := by
  have e : at_ Try.f77 [] = .seq (at_ Try.f77 [0]) (.seq (at_ Try.f77 [1, 0]) (.seq (.seq (at_ Try.f77 [1, 1, 0, 0]) (.cond (.tmp 25) (at_ Try.f77 [1, 1, 0, 1, 0]) (at_ Try.f77 [1, 1, 0, 1, 1]))) (at_ Try.f77 [1, 1, 1]))) := by kernel_rfl
  rw [e]
  exact .seq (.low (by kernel_rfl)) (.seq (.low (by kernel_rfl)) (.seq (.seq (.low (by kernel_rfl)) (.cond _ (.other _) (.low (by kernel_rfl)))) (.low (by kernel_rfl))))
theorem D77 : at_ Try.f77 [1, 1, 0, 1, 0] = .region 3 (opsOf (at_ Try.f77 [1, 1, 0, 1, 0])) false := by kernel_rfl
theorem P77 : lowRPs Try.prog 47 (opsOf (at_ Try.f77 [1, 1, 0, 1, 0])).toList (opsOf (at_ Try.f77 [1, 1, 0, 1, 0])).toList = some [(.ro ⟨(some 26), none, (.pur ⟨(some 26), (.build 141 (List.toArray [])), 141, "", (List.toArray []), none⟩)⟩), (.ro ⟨(some 27), none, (.pur ⟨(some 27), (.makeInterface 141 (.tmp 26)), 20, "", (List.toArray []), none⟩)⟩), (.pan (.tmp 27))] := by kernel_rfl
noncomputable def R53v : RC := (.seq (.reg [⟨(some 86), none, (.cmp .lss (.tmp 85) (.tmp 84))⟩])
  (.seq (.cond (.tmp 86) .skip
  (.exit 6))
  (.seq (.block 7 (.seq (.reg [⟨(some 87), none, (.idx (.tmp 83) (.tmp 85) 2)⟩, ⟨(some 88), none, (.lda (.tmp 87) 2)⟩, ⟨(some 11), none, (.alc 86 [(.int .i64 0), (.int .i64 0)])⟩, ⟨none, none, (.sta (.tmp 11) (.tmp 88) 2)⟩])
  (.other (at_ Try.f53 [1, 1, 1, 1, 0, 1, 0, 0, 1, 1, 0, 0, 1]))))
  (.reg [⟨(some 92), none, (.ari .add (.tmp 85) (.const (.int .i64 1)))⟩, ⟨(some 85), none, (.mov (.tmp 92))⟩]))))
theorem V53 : LV Try.prog 167 (at_ Try.f53 [1, 1, 1, 1, 0, 1, 0, 0]) R53v := by
  have e : at_ Try.f53 [1, 1, 1, 1, 0, 1, 0, 0] = .seq (at_ Try.f53 [1, 1, 1, 1, 0, 1, 0, 0, 0]) (.seq (at_ Try.f53 [1, 1, 1, 1, 0, 1, 0, 0, 1, 0]) (.seq (.block 7 (.seq (at_ Try.f53 [1, 1, 1, 1, 0, 1, 0, 0, 1, 1, 0, 0, 0]) (at_ Try.f53 [1, 1, 1, 1, 0, 1, 0, 0, 1, 1, 0, 0, 1]))) (at_ Try.f53 [1, 1, 1, 1, 0, 1, 0, 0, 1, 1, 1]))) := by kernel_rfl
  rw [e]
  exact .seq (.low (by kernel_rfl)) (.seq (.low (by kernel_rfl)) (.seq (.block 7 (.seq (.low (by kernel_rfl)) (.other _))) (.low (by kernel_rfl))))
theorem D53 : at_ Try.f53 [1, 1, 1, 1, 0, 1, 0, 0, 1, 1, 0, 0, 1] = .region 20 (opsOf (at_ Try.f53 [1, 1, 1, 1, 0, 1, 0, 0, 1, 1, 0, 0, 1])) false := by kernel_rfl
theorem P53 : lowRPs Try.prog 167 (opsOf (at_ Try.f53 [1, 1, 1, 1, 0, 1, 0, 0, 1, 1, 0, 0, 1])).toList (opsOf (at_ Try.f53 [1, 1, 1, 1, 0, 1, 0, 0, 1, 1, 0, 0, 1])).toList = some [(.ro ⟨(some 89), none, (.mov (.tmp 0))⟩), (.ro ⟨(some 90), none, (.lda (.tmp 11) 2)⟩), (.ro ⟨(some 91), none, (.call ⟨(.value (.func 77)), (List.toArray [(.tmp 89), (.tmp 90)]), (List.toArray [90, 86])⟩ true)⟩)] := by kernel_rfl
theorem S83 : at_ Try.f83 [] = .seq (at_ Try.f83 [0]) (at_ Try.f83 [1]) := by kernel_rfl
theorem C83 : at_ Try.f83 [1] = .cond (.tmp 2) (at_ Try.f83 [1, 0]) (at_ Try.f83 [1, 1]) := by kernel_rfl
theorem K83 : at_ Try.f83 [1, 1] = .skip := by kernel_rfl
theorem D83a : at_ Try.f83 [0] = .region 0 (opsOf (at_ Try.f83 [0])) false := by kernel_rfl
theorem Q83a : lowRQs Try.prog 3 (opsOf (at_ Try.f83 [0])).toList (opsOf (at_ Try.f83 [0])).toList = some [(.rcv (some 1)), (.ro ⟨(some 2), none, (.pur ⟨(some 2), (.binOp .neq 20 (.tmp 1) (.const .nilIface) 20), 4, "", (List.toArray []), none⟩)⟩)] := by kernel_rfl
theorem D83b : at_ Try.f83 [1, 0] = .region 1 (opsOf (at_ Try.f83 [1, 0])) false := by kernel_rfl
theorem Q83b : lowRQs Try.prog 3 (opsOf (at_ Try.f83 [1, 0])).toList (opsOf (at_ Try.f83 [1, 0])).toList = some [(.ro ⟨none, none, (.st (.tmp 0) (.const (.bool false)))⟩)] := by kernel_rfl
noncomputable def R81v : RC := (.seq (.reg [⟨(some 9), none, (.cmp .lss (.tmp 8) (.tmp 7))⟩])
  (.seq (.cond (.tmp 9) .skip
  (.exit 0))
  (.seq (.block 1 (.seq (.reg [⟨(some 10), none, (.mov (.tmp 8))⟩, ⟨(some 11), none, (.idx (.tmp 6) (.tmp 8) 3)⟩, ⟨(some 12), none, (.lda (.tmp 11) 3)⟩, ⟨(some 5), none, (.alc 30 [(.slice none 0 0), (.slice none 0 0), (.slice none 0 0)])⟩, ⟨(some 4), none, (.mov (.tmp 10))⟩, ⟨none, none, (.sta (.tmp 5) (.tmp 12) 3)⟩])
  (.seq (.reg [⟨(some 13), none, (.addo (.tmp 5) 2)⟩, ⟨(some 14), none, (.ld (.tmp 13) 1)⟩, ⟨(some 15), none, (.ld (.tmp 2) 1)⟩, ⟨(some 16), none, (.mem ⟨(some 16), (.buildSlice 142 2 (List.toArray [(0, (.tmp 14)), (1, (.tmp 15))])), 142, "", (List.toArray []), none⟩)⟩, ⟨(some 17), none, (.call ⟨(.value (.func 82)), (List.toArray [(.tmp 16)]), (List.toArray [142])⟩ true)⟩, ⟨(some 18), none, (.addo (.tmp 5) 2)⟩, ⟨none, none, (.st (.tmp 18) (.tmp 17))⟩])
  (.seq (.other (at_ Try.f81 [1, 0, 0, 1, 1, 0, 0, 1, 1, 0]))
  (.cond (.tmp 23) .ret
  .skip)))))
  (.reg [⟨(some 24), none, (.ari .add (.tmp 8) (.const (.int .i64 1)))⟩, ⟨(some 8), none, (.mov (.tmp 24))⟩]))))
theorem V81 : LV Try.prog 25 (at_ Try.f81 [1, 0, 0]) R81v := by
  have e : at_ Try.f81 [1, 0, 0] = .seq (at_ Try.f81 [1, 0, 0, 0]) (.seq (at_ Try.f81 [1, 0, 0, 1, 0]) (.seq (.block 1 (.seq (at_ Try.f81 [1, 0, 0, 1, 1, 0, 0, 0]) (.seq (at_ Try.f81 [1, 0, 0, 1, 1, 0, 0, 1, 0]) (.seq (at_ Try.f81 [1, 0, 0, 1, 1, 0, 0, 1, 1, 0]) (at_ Try.f81 [1, 0, 0, 1, 1, 0, 0, 1, 1, 1]))))) (at_ Try.f81 [1, 0, 0, 1, 1, 1]))) := by kernel_rfl
  rw [e]
  exact .seq (.low (by kernel_rfl)) (.seq (.low (by kernel_rfl)) (.seq (.block 1 (.seq (.low (by kernel_rfl)) (.seq (.low (by kernel_rfl)) (.seq (.other _) (.low (by kernel_rfl)))))) (.low (by kernel_rfl))))
theorem D81 : at_ Try.f81 [1, 0, 0, 1, 1, 0, 0, 1, 1, 0] = .region 4 (opsOf (at_ Try.f81 [1, 0, 0, 1, 1, 0, 0, 1, 1, 0])) false := by kernel_rfl
theorem P81 : lowRPs Try.prog 25 (opsOf (at_ Try.f81 [1, 0, 0, 1, 1, 0, 0, 1, 1, 0])).toList (opsOf (at_ Try.f81 [1, 0, 0, 1, 1, 0, 0, 1, 1, 0])).toList = some [(.ro ⟨(some 19), none, (.mov (.tmp 0))⟩), (.ro ⟨(some 20), none, (.mov (.tmp 4))⟩), (.ro ⟨(some 21), none, (.lda (.tmp 5) 3)⟩), (.ro ⟨(some 22), none, (.call ⟨(.value (.tmp 19)), (List.toArray [(.tmp 20), (.tmp 21)]), (List.toArray [3, 30])⟩ true)⟩), (.ro ⟨(some 23), none, (.pur ⟨(some 23), (.unOp .not 4 (.tmp 22)), 4, "", (List.toArray []), none⟩)⟩)] := by kernel_rfl
end Go.Ax
namespace Go.Ax
open Go Go.RowKit Go.Proofs
/-- the panic of a take that is short -/
abbrev shortV : Value := .iface 141 (.agg #[])
section
variable {kn : FuncId → Option Bool} {lo : Nat} {H : Hp}
theorem takeZ {c : Nat} {C : Co} {ws : List Int} {t : Tk} (hs : C.strict = true)
    (hc : Cl H c C.cells) (hw : Cl H C.wb (ints ws)) (hne : c ≠ C.wb) (hlc : lo ≤ c) (hlw : lo ≤ C.wb) (hn : ws.length = C.n) (h1 : 0 ≤ t.pond) (h2 : t.pond < C.n)
    (b1 : InR (ws.getD t.pond.toNat 0 - takeL ws t)) (b2 : InR (C.taken + takeL ws t)) :
    (∃ v H', FnX Try.prog kn lo 77 [pt c, .agg t.v.toArray] H v H' ∧ t.amount ≤ ws.getD t.pond.toNat 0 ∧ v = unit ∧ Cl H' c { C with taken := C.taken + takeL ws t }.cells ∧ Cl H' C.wb (ints (ws.set t.pond.toNat (ws.getD t.pond.toNat 0 - takeL ws t))) ∧ Keep H H' [c, C.wb]) ∨
    ∃ v H', FnP Try.prog kn lo 77 [pt c, .agg t.v.toArray] H v H' ∧ v = shortV ∧ ws.getD t.pond.toNat 0 < t.amount ∧ Keep H H' [] := by
  obtain ⟨bd, pd, gt, wb, n, cap, strict, came, seeped, river, taken⟩ := C
  simp only at hs hw hne hlw hn h2 b2 ⊢
  subst hs
  have h2' : t.pond.toNat < n := by omega
  refine fn_lv (kn := kn) (lo := lo) (H := H) (args := [pt c, .agg t.v.toArray]) (Q := fun v H' => t.amount ≤ ws.getD t.pond.toNat 0 ∧ v = unit ∧ Cl H' c (Co.mk bd pd gt wb n cap true came seeped river (taken + takeL ws t)).cells ∧ Cl H' wb (ints (ws.set t.pond.toNat (ws.getD t.pond.toNat 0 - takeL ws t))) ∧ Keep H H' [c, wb])
    (Z := fun v H' => v = shortV ∧ ws.getD t.pond.toNat 0 < t.amount ∧ Keep H H' []) Try.func77 B77 N77 Z77 V77 (by simp) ?_
  intro H1 hH1
  obtain ⟨k1, n1, c1⟩ := new_facts hH1
  have hc1 := k1.cl hc (by simp)
  have hw1 := k1.cl hw (by simp)
  refine Exists.intro _ (Exists.intro _ (And.intro c1.of (And.intro rfl (And.intro c1.lt ?_))))
  refine Exists.intro _ (Exists.intro _ (And.intro hc1.of (And.intro rfl (And.intro hc1.lt ?_))))
  refine Exists.intro _ (Exists.intro _ (And.intro c1.of (And.intro rfl (And.intro c1.lt ?_))))
  refine Exists.intro t.pond.toNat (And.intro (by omega) (And.intro h2' ?_))
  refine Exists.intro _ (Exists.intro _ (And.intro hw1.of (And.intro (by rw [Nat.zero_add, Nat.mul_one]; exact ints_get (by omega)) (And.intro hw1.lt ?_))))
  refine And.intro (by repeat' first | exact True.intro | exact (fun h => h) | refine And.intro ?_ ?_) ?_
  refine Exists.intro _ (Exists.intro _ (And.intro hc1.of (And.intro rfl ?_)))
  refine Exists.intro _ (Exists.intro _ (And.intro c1.of (And.intro rfl ?_)))
  intro t1 ht1
  refine And.intro rfl (Exists.intro _ (And.intro rfl ?_))
  have hb : decide (takeL ws t < t.amount) = t1 := ht1
  cases t1
  · refine condF ?_
    have hle : t.amount ≤ ws.getD t.pond.toNat 0 := by
      have : ¬ takeL ws t < t.amount := by simpa using hb
      unfold takeL at this; omega
    refine Exists.intro _ (Exists.intro _ (And.intro hc1.of (And.intro rfl (And.intro hc1.lt ?_))))
    refine Exists.intro _ (Exists.intro _ (And.intro c1.of (And.intro rfl (And.intro c1.lt ?_))))
    refine Exists.intro t.pond.toNat (And.intro (by omega) (And.intro h2' ?_))
    refine Exists.intro _ (Exists.intro _ (And.intro hw1.of (And.intro (by rw [Nat.zero_add, Nat.mul_one]; exact ints_get (by omega)) (And.intro hw1.lt ?_))))
    refine And.intro b1 ?_
    refine Exists.intro t.pond.toNat (And.intro (by omega) (And.intro h2' ?_))
    obtain ⟨hwl, ew, lw, hwg⟩ := id hw1
    refine Exists.intro _ (Exists.intro _ (Exists.intro _ (And.intro hwg (And.intro hlw (And.intro rfl (And.intro rfl (And.intro (by rw [ints_len]; omega) ?_)))))))
    intro H2 hH2
    rw [Nat.zero_add, Nat.mul_one] at hH2
    obtain ⟨k2, n2, hw2⟩ := up_facts hw1 hH2
    have hc2 := k2.cl hc1 (by simpa using hne)
    refine And.intro (by repeat' first | exact True.intro | exact (fun h => h) | refine And.intro ?_ ?_) ?_
    refine Exists.intro _ (Exists.intro _ (And.intro hc2.of (And.intro rfl ?_)))
    refine And.intro b2 ?_
    obtain ⟨hcl, ec, lc, hcg⟩ := id hc2
    refine Exists.intro _ (Exists.intro _ (Exists.intro _ (And.intro hcg (And.intro hlc (And.intro rfl (And.intro rfl (And.intro (by simp [Co.cells]) ?_)))))))
    intro H3 hH3
    obtain ⟨k3, n3, hc3⟩ := up_facts hc2 hH3
    refine Or.inr (And.intro (.inl rfl) (Exists.intro _ (And.intro rfl ⟨hle, rfl, hc3, ?_, (k1.mono (by simp)).trans ((k2.mono (by simp)).trans (k3.mono (by simp)))⟩)))
    rw [← ints_set]
    exact k3.cl hw2 (by simp; omega)
  · refine condT ?_
    have hlt : ws.getD t.pond.toNat 0 < t.amount := by
      have : takeL ws t < t.amount := by simpa using hb
      unfold takeL at this; omega
    refine tri_reg D77 P77 ?_
    refine Or.inl (And.intro rfl (Exists.intro (Value.agg #[]) (And.intro (by kernel_rfl) ?_)))
    refine Or.inl (And.intro rfl (Exists.intro (Value.iface 141 (.agg #[])) (And.intro (by kernel_rfl) ?_)))
    exact And.intro rfl (Or.inl (Exists.intro _ (And.intro rfl (And.intro rfl (And.intro hlt k1)))))

/-- Every take gets all. -/
def satB : List Tk → St → Bool
  | [], _ => true
  | t :: r, s => decide (t.amount ≤ s.ws.getD t.pond.toNat 0) && satB r (takeS s t)
theorem satB_take : ∀ (l : List Tk) (i : Nat) (x : Tk) (s : St), l[i]? = some x → satB (l.take i) s = true → satB (l.take (i + 1)) s = decide (x.amount ≤ ((l.take i).foldl takeS s).ws.getD x.pond.toNat 0)
  | [], i, x, s, h, _ => by simp at h
  | t :: r, 0, x, s, h, _ => by
    simp at h; subst h
    simp [satB]
  | t :: r, i + 1, x, s, h, hs => by
    simp only [List.take_succ_cons, satB, Bool.and_eq_true, List.foldl_cons] at hs ⊢
    rw [hs.1, Bool.true_and]
    exact satB_take r i x (takeS s t) (by simpa using h) hs.2
theorem satB_pre : ∀ (l : List Tk) (i : Nat) (s : St), satB l s = true → satB (l.take i) s = true
  | [], i, s, h => by simp [satB]
  | t :: r, 0, s, h => rfl
  | t :: r, i + 1, s, h => by
    simp only [List.take_succ_cons, satB, Bool.and_eq_true] at h ⊢
    exact ⟨h.1, satB_pre r i _ h.2⟩

theorem pass_takesZ {X : PX} (o : X.Ok lo) (hst : X.strict = true) {H : Hp} {gs : List Gt} {s : St} {S : Rg} {K : Exit → Rg → Hp → Prop} (h : X.At lo H gs s) (hlo : lo ≤ H.next)
    (hv : ∀ t ∈ X.ts, 0 ≤ t.pond ∧ t.pond < X.n)
    (hv2 : ∀ i t, X.ts[i]? = some t → TakeOk ((X.ts.take i).foldl takeS s) t)
    (hS : Subs [(0, pt X.c), (3, pt X.hb), (83, .slice X.ta X.tn X.tcap), (84, iv X.tn), (85, iv 0)] S)
    (hP : ∀ S' H1, satB X.ts s = false → Keep H H1 X.W → K (pan1 shortV) S' H1)
    (hK : ∀ H1, satB X.ts s = true → X.At lo H1 gs (X.ts.foldl takeS s) → Keep H H1 X.W → K (.exit 6) [(86, .bool (decide ((X.tn : Int) < X.tn))), (0, pt X.c), (3, pt X.hb), (83, .slice X.ta X.tn X.tcap), (84, iv X.tn), (85, iv X.tn)] H1) :
    Tri Try.prog kn lo 167 false (at_ Try.f53 [1, 1, 1, 1, 0, 1, 0]) S H K := by
  refine loop_lv E53_4 V53 (fun i : Nat => [(0, pt X.c), (3, pt X.hb), (83, .slice X.ta X.tn X.tcap), (84, iv X.tn), (85, iv i)])
    (fun k i H1 => i + k = X.tn ∧ X.At lo H1 gs ((X.ts.take i).foldl takeS s) ∧ satB (X.ts.take i) s = true ∧ Keep H H1 X.W) X.tn 0 ⟨by omega, by simpa using h, rfl, Keep.refl _ _⟩ hS ?_
  rintro k i H1 ⟨hik, ha, hsat, hk⟩
  have := o.nt
  have hlt2 := o.lt
  refine And.intro (fun hlt => ?_) (fun hge => ?_)
  · have hi : i < X.tn := by simpa using hlt
    have hta := ha.hts
    rcases hta with ⟨_, h0, _⟩ | ⟨tb, eta, htc, _⟩
    · omega
    obtain ⟨x, hx⟩ := get_some (l := X.ts) (i := i) (by omega)
    obtain ⟨v1, v2⟩ := hv x (List.mem_of_getElem? hx)
    obtain ⟨b1, b2⟩ := hv2 i x hx
    have hsn := satB_take X.ts i x s hx hsat
    generalize hs1 : (X.ts.take i).foldl takeS s = s1 at *
    have hlw := ha.lws
    rw [eta]
    refine Exists.intro i (And.intro rfl (And.intro hi ?_))
    refine Exists.intro _ (Exists.intro _ (And.intro htc.of (And.intro (row_flat (f := Tk.v) (fun _ _ => rfl) hx) ?_)))
    intro H2 hH2
    obtain ⟨k2, n2, c2⟩ := new_facts hH2
    obtain ⟨_, e2, l2, g2⟩ := id c2
    have hkn := hk.1
    refine Exists.intro _ (Exists.intro _ (Exists.intro _ (And.intro g2 (And.intro (by omega) (And.intro rfl (And.intro rfl (And.intro (by simp) ?_)))))))
    intro H3 hH3
    obtain ⟨k3, n3, c3⟩ := up_facts c2 hH3
    have k13 : Keep H1 H3 [] := k2.new k3 (by simp)
    have ha3 := ha.keep0 k13
    have hn13 := k13.1
    refine tri_reg D53 P53 ?_
    refine Or.inl ?_
    refine Or.inl (Exists.intro _ (Exists.intro _ (And.intro c3.of (And.intro (show row 2 _ _ = some x.v from rfl) ?_))))
    rcases takeZ (kn := kn) (lo := lo) (C := X.co s1) (t := x) hst ha3.hc ha3.hw o.ne o.lc o.lw hlw v1 v2 b1 b2 with ⟨v, H4, h4, hle, rfl, hc4, hw4, k4⟩ | ⟨v, H4, h4, rfl, hlt4, k4⟩
    · refine Or.inl (Exists.intro _ (Exists.intro _ (And.intro (callX_args h4) ?_)))
      refine And.intro rfl ?_
      refine And.intro ⟨by omega, by omega⟩ ?_
      have hat : X.At lo H4 gs (takeS s1 x) := ha3.step o k4 hc4 hw4 (by simp [takeS, hlw])
      refine ⟨k - 1, i + 1, by omega, ⟨by omega, ?_, by rw [hsn]; simpa using hle, ?_⟩, rfl, rfl, rfl, rfl, rfl, trivial⟩
      · rw [take_step hx, hs1]; exact hat
      · exact (hk.trans (k13.mono (by simp))).trans (k4.mono fun b q => by simp [PX.W, PX.co] at q ⊢; omega)
    · refine Or.inr (Exists.intro _ (Exists.intro H4 (And.intro (callP_args h4) ?_)))
      refine And.intro rfl (hP _ H4 ?_ ((hk.trans (k13.mono (by simp))).trans (k4.mono (by simp))))
      cases hq : satB X.ts s with
      | false => rfl
      | true =>
        have := satB_pre X.ts (i + 1) s hq
        rw [hsn] at this
        have := of_decide_eq_true this; omega
  · have hi : ¬ i < X.tn := by simpa using hge
    have hin : i = X.tn := by omega
    subst hin
    rw [List.take_of_length_le (by omega)] at ha hsat
    exact hK H1 hsat ha hk
end
end Go.Ax
namespace Go.Ax
open Go Go.RowKit Go.Proofs
section
variable {kn : FuncId → Option Bool} {lo : Nat} {X : PX} {H : Hp}
theorem pass_okZ (o : X.Ok lo) (hst : X.strict = true) {gs : List Gt} {s : St} (h : X.At0 lo H gs s) (hlo : lo ≤ H.next) (hhb : X.hb = H.next) (sf : X.Safe gs s) :
    (∃ v H', FnX Try.prog kn lo 53 [pt X.c, .agg X.hour.toArray] H v H' ∧ v = unit ∧ satB X.ts (gatesS (boardsS X gs) (comesS X s)) = true ∧ X.At0 lo H' (boardsS X gs) (hourS X gs s) ∧ Keep H H' X.W) ∨
    ∃ v H', FnP Try.prog kn lo 53 [pt X.c, .agg X.hour.toArray] H v H' ∧ v = shortV ∧ satB X.ts (gatesS (boardsS X gs) (comesS X s)) = false ∧ Keep H H' X.W := by
  refine fn_lv (kn := kn) (lo := lo) (H := H) (args := [pt X.c, .agg X.hour.toArray]) (Q := fun v H' => v = unit ∧ satB X.ts (gatesS (boardsS X gs) (comesS X s)) = true ∧ X.At0 lo H' (boardsS X gs) (hourS X gs s) ∧ Keep H H' X.W)
    (Z := fun v H' => v = shortV ∧ satB X.ts (gatesS (boardsS X gs) (comesS X s)) = false ∧ Keep H H' X.W) Try.func53 B53 N53 Z53 (.low (by rw [← N53]; exact L53)) (by simp) ?_
  intro H1 hH1
  obtain ⟨k1, n1, c1⟩ := new_facts hH1
  rw [← hhb] at c1
  have at1 : X.At lo H1 gs s := h.at k1 c1.rd
  rw [← hhb]
  refine Exists.intro _ (Exists.intro _ (And.intro at1.hh.of (And.intro rfl ?_)))
  refine pass_boards o at1 (by omega) sf.vb ⟨rfl, rfl, rfl, rfl, rfl, trivial⟩ ?_
  intro H2 at2 k2
  -- what comes
  refine Exists.intro _ (Exists.intro _ (And.intro at2.hc.of (And.intro rfl (And.intro at2.hc.lt ?_))))
  refine And.intro rfl (Exists.intro _ (And.intro rfl ?_))
  refine Exists.intro _ (Exists.intro _ (And.intro at2.hh.of (And.intro rfl (And.intro at2.hh.lt ?_))))
  have hn2 := k2.1
  obtain ⟨cb, H3, h3, k3, hcb, c3⟩ := ends_ok (kn := kn) (lo := lo) (H := H2) (g := X.g) at2.hcs o.lcs o.nc (by omega)
  refine Exists.intro _ (Exists.intro _ (And.intro (callX_args h3) ?_))
  refine And.intro (by repeat' first | exact True.intro | exact (fun h => h) | refine And.intro ?_ ?_) ?_
  have at3 := at2.keep0 k3
  have hn3 := k3.1
  have hcW : cb ∉ X.W := by
    have h1 := at2.hc.lt
    have h2 := at2.hw.lt
    intro q
    simp only [PX.W, List.mem_cons] at q
    rcases q with q | q | q
    · omega
    · omega
    · rcases at2.hg with ⟨e, _⟩ | ⟨gb, e, _, hc⟩
      · rw [e] at q; simp [gl] at q
      · rw [mem_gl e] at q; have := hc.lt; simp at q; omega
  have hlE : (endS X.g X.cs).length = X.cn := by simp [endS, o.lcs]
  refine pass_comes o at3 (by omega) c3 hcW hlE sf.cn sf.s1 ⟨rfl, rfl, rfl, rfl, rfl, trivial⟩ ?_
  intro H4 at4 k4
  refine Exists.intro _ (Exists.intro _ (And.intro at4.hc.of (And.intro rfl ?_)))
  have hn4 := k4.1
  refine pass_gates o at4 (by omega) sf.vg sf.s2 ⟨rfl, rfl, rfl, rfl, rfl, trivial⟩ ?_
  intro H5 at5 k5
  refine Exists.intro _ (Exists.intro _ (And.intro at5.hh.of (And.intro rfl ?_)))
  have hn5 := k5.1
  refine pass_takesZ o hst at5 (by omega) sf.vt sf.s3 ⟨rfl, rfl, rfl, rfl, rfl, trivial⟩ (fun S' H6 hsat k6 => ?_) ?_
  · exact Or.inl (Exists.intro _ (And.intro rfl (And.intro rfl (And.intro hsat ((k1.mono (by simp)).trans (k2.trans ((k3.mono (by simp)).trans (k4.trans (k5.trans k6)))))))))
  intro H6 hsat at6 k6
  refine Exists.intro _ (Exists.intro _ (And.intro at6.hc.of (And.intro rfl ?_)))
  have hn6 := k6.1
  refine pass_seeps o at6 (by omega) sf.pn sf.s4 ⟨rfl, rfl, rfl, rfl, trivial⟩ ?_
  intro H7 at7 k7
  refine Exists.intro _ (Exists.intro _ (And.intro at7.hc.of (And.intro rfl ?_)))
  have hn7 := k7.1
  refine pass_spills o at7 (by omega) sf.pn sf.vp sf.s5 ⟨rfl, rfl, rfl, rfl, trivial⟩ ?_
  intro H8 at8 k8
  refine Or.inr (And.intro (.inl rfl) (Exists.intro _ (And.intro rfl ⟨rfl, hsat, at8.at0, ?_⟩)))
  exact (k1.mono (by simp)).trans (k2.trans ((k3.mono (by simp)).trans (k4.trans (k5.trans (k6.trans (k7.trans k8))))))
end
/-- A strict course in the heap; it lies at L or above. -/
structure CrsZ (c : Ch) (g : Bool) (L : Nat) (p : Wh) (H : Hp) (gs : List Gt) (s : St) : Prop where
  hc : Cl H p.k (Co.mk (bdv g) (.slice c.pa c.pn c.pcap) (.slice p.ga c.gn p.gcap) p.wb c.wn c.wn true s.came s.seeped s.river s.taken).cells
  hw : Cl H p.wb (ints s.ws)
  hg : Own L H p.ga c.gn (gtc gs)
  hp : Sl H c.pa c.pn c.pcap (pdc c.ponds)
  lg : gs.length = c.gn
  lws : s.ws.length = c.wn
  lk : L ≤ p.k
  lw : L ≤ p.wb
  ne : p.k ≠ p.wb
  gc : p.k ∉ gl p.ga
  gw : p.wb ∉ gl p.ga
  op : ∀ b, c.pa = some ⟨b, 0, none⟩ → b < L
theorem CrsZ.off {c : Ch} {g : Bool} {L : Nat} {p : Wh} {H : Hp} {gs : List Gt} {s : St} (h : CrsZ c g L p H gs s) {b : Nat} (hb : b < L) : b ∉ p.W := by
  intro q
  simp only [Wh.W, List.mem_cons] at q
  have h1 := h.lk; have h2 := h.lw
  rcases q with q | q | q
  · omega
  · omega
  · rcases h.hg with ⟨e, _⟩ | ⟨gb, e, hl, _⟩
    · rw [e] at q; simp [gl] at q
    · rw [mem_gl e] at q; simp at q; omega
theorem CrsZ.offNew {c : Ch} {g : Bool} {L : Nat} {p : Wh} {H : Hp} {gs : List Gt} {s : St} (h : CrsZ c g L p H gs s) {b : Nat} (hb : H.next ≤ b) : b ∉ p.W := by
  intro q
  simp only [Wh.W, List.mem_cons] at q
  have h1 := h.hc.lt; have h2 := h.hw.lt
  rcases q with q | q | q
  · omega
  · omega
  · rcases h.hg with ⟨e, _⟩ | ⟨gb, e, hl, hcl⟩
    · rw [e] at q; simp [gl] at q
    · rw [mem_gl e] at q; have := hcl.lt; simp at q; omega
theorem CrsZ.keep {c : Ch} {g : Bool} {L : Nat} {p : Wh} {H H1 : Hp} {gs : List Gt} {s : St} (h : CrsZ c g L p H gs s) (k : Keep H H1 []) : CrsZ c g L p H1 gs s :=
  ⟨k.cl h.hc (by simp), k.cl h.hw (by simp), h.hg.keep k (fun _ _ => by simp), k.sl0 h.hp, h.lg, h.lws, h.lk, h.lw, h.ne, h.gc, h.gw, h.op⟩

theorem CrsZ.keepW {c : Ch} {g : Bool} {L : Nat} {p : Wh} {H H1 : Hp} {gs : List Gt} {s : St} {w : List Nat} (h : CrsZ c g L p H gs s) (k : Keep H H1 w) (hw : ∀ b, b ∈ w → b ∉ p.W) (hp : Off w c.pa) : CrsZ c g L p H1 gs s := by
  have a : p.k ∉ w := fun q => hw _ q (by simp [Wh.W])
  have b : p.wb ∉ w := fun q => hw _ q (by simp [Wh.W])
  exact ⟨k.cl h.hc a, k.cl h.hw b, h.hg.keep k (fun b e q => hw _ q (by simp [Wh.W, mem_gl e])), k.sl h.hp hp, h.lg, h.lws, h.lk, h.lw, h.ne, h.gc, h.gw, h.op⟩


/-- In an hour every take gets all. -/
def satF (c : Ch) (g : Bool) (h : Hr) (gs : List Gt) (s : St) : Bool := satB h.ts (gatesS (boardsF h gs) (comesS (mkX c h ⟨0, 0, none, 0⟩ g 0) s))
section
variable {kn : FuncId → Option Bool} {lo : Nat} {H : Hp}
theorem crs_passZ {c : Ch} {g : Bool} {L : Nat} {p : Wh} {gs : List Gt} {s : St} {h : Hr} {B : Int} (hc : CrsZ c g L p H gs s) (v : c.Vd) (ha : h.At H) (hob : Off p.W h.ba) (hoc : Off p.W h.ca) (hot : Off p.W h.ta)
    (hv : hourW h c.pn c.gn = true) (hgs : gs.all (fun g => gateB g c.pn) = true) (hA : Ahead c.ponds B s) (hB : B ≤ 1152921504606846976) (hB0 : 0 ≤ B) (hlo : lo ≤ H.next) (hlo2 : lo ≤ L) :
    (∃ H', FnX Try.prog kn lo 53 [pt p.k, .agg h.v.toArray] H unit H' ∧ satF c g h gs s = true ∧ CrsZ c g L p H' (boardsF h gs) (hourF c g h gs s) ∧ Keep H H' p.W ∧ Ahead c.ponds (B + perHour) (hourF c g h gs s) ∧ (boardsF h gs).all (fun g => gateB g c.pn) = true) ∨
    ∃ v H', FnP Try.prog kn lo 53 [pt p.k, .agg h.v.toArray] H v H' ∧ v = shortV ∧ satF c g h gs s = false ∧ Keep H H' p.W := by
  have hX : (mkX c h p g H.next).W = p.W := rfl
  simp only [hourW, Bool.and_eq_true] at hv
  obtain ⟨⟨⟨⟨⟨v1, v2⟩, v3⟩, v4⟩, v5⟩, v6⟩ := hv
  have hbn : h.bn ≤ 32 := by simp at v1; omega
  have hcn : h.cn = c.pn := by simp at v2; omega
  have htn : h.tn ≤ 40 := by simp at v3; omega
  have h16 := v.h16; have hwp := v.wp; have h32 := v.h32
  obtain ⟨sf, ah, gg, gl'⟩ := hour_safe (X := mkX c h p g H.next) (gs := gs) (s := s) (B := B) (by show c.wn = c.ponds.length; rw [v.lp, v.wp]) (by show c.wn ≤ 16; omega) (by show c.pn = c.wn; omega) (by show h.cn = c.wn; omega) (by show c.gn = gs.length; rw [hc.lg]) ha.lc
    (by show c.ponds.zipIdx.all (fun p => pondB p.1 p.2 c.wn) = true; rw [hwp]; exact v.p) (by show gs.all (fun g => gateB g c.wn) = true; rw [hwp]; exact hgs) v4 v5 (by show h.ts.all (fun t => indexB t.pond c.wn && waterB t.amount) = true; rw [hwp]; exact v6) hA hB hB0
  have o : ({ mkX c h p g H.next with strict := true } : PX).Ok lo := ⟨hc.ne, hc.gc, hc.gw, hc.offNew (Nat.le_refl _), Nat.le_trans hlo2 hc.lk, Nat.le_trans hlo2 hc.lw, fun b e => hc.off (hc.op b e), hob, hoc, hot, v.lp, ha.lb, ha.lc, ha.lt, by show c.wn ≤ 1000; omega, by show c.pn ≤ 1000; omega, by show c.gn ≤ 1000; omega, by show h.bn ≤ 1000; omega, by show h.cn ≤ 1000; omega, by show h.tn ≤ 1000; omega⟩
  have at0 : ({ mkX c h p g H.next with strict := true } : PX).At0 lo H gs s := ⟨hc.hc, hc.hw, hc.hg.mono hlo2, hc.hp, ha.b, ha.c, ha.t, hc.lg, hc.lws⟩
  have sf' : ({ mkX c h p g H.next with strict := true } : PX).Safe gs s := ⟨sf.vb, sf.vg, sf.vt, sf.vp, sf.cn, sf.pn, sf.s1, sf.s2, sf.s3, sf.s4, sf.s5⟩
  rcases pass_okZ (kn := kn) o rfl at0 hlo rfl sf' with ⟨v, H', hf, rfl, hsat, at1, k1⟩ | ⟨v, H', hf, hv, hsat, k1⟩
  rotate_left
  · exact .inr ⟨v, H', hf, hv, hsat, k1⟩
  refine .inl ⟨H', hf, hsat, ?_, k1, ah, ?_⟩
  · have hgo : Own L H' p.ga c.gn (gtc (boardsF h gs)) := by
      rcases at1.hg with q | ⟨b, e, hl, hcl⟩
      · exact .inl q
      · rcases hc.hg with ⟨e', _⟩ | ⟨b', e', hl', _⟩
        · have : p.ga = some ⟨b, 0, none⟩ := e
          rw [e'] at this; cases this
        · have : p.ga = some ⟨b, 0, none⟩ := e
          rw [e'] at this; cases this
          exact .inr ⟨_, e', hl', hcl⟩
    exact ⟨at1.hc, at1.hw, hgo, at1.hp, by rw [show boardsF h gs = boardsS (mkX c h p g H.next) gs from rfl, gl', hc.lg], at1.lws, hc.lk, hc.lw, hc.ne, hc.gc, hc.gw, hc.op⟩
  · have e : (mkX c h p g H.next).n = c.wn := rfl
    rw [e, hwp] at gg
    exact gg
end
end Go.Ax
namespace Go.Ax
open Go Go.RowKit Go.Proofs
theorem putRow_midZ : ∀ (z vs pre post : List Value), z.length = vs.length → putRow (pre ++ (z ++ post)) pre.length vs = pre ++ (vs ++ post)
  | [], [], pre, post, _ => by simp [putRow]
  | x :: z, v :: vs, pre, post, h => by
    simp only [putRow]
    have e : (pre ++ (x :: z ++ post)).set pre.length v = (pre ++ [v]) ++ (z ++ post) := by simp
    rw [e]
    have := putRow_midZ z vs (pre ++ [v]) post (by simpa using h)
    simp only [List.length_append, List.length_singleton] at this
    rw [this]; simp
  | [], _ :: _, _, _, h => by simp at h
  | _ :: _, [], _, _, h => by simp at h
section
variable {P : Program} {lo : Nat}
/-- append in place, to a loose block -/
theorem heap_append_room {n : Nat} {S : Rg} {H : Hp} {d : Option Tmp} {t0 t1 e ep ty : TypeId} {x y : Operand} {p : String} {size n0 m cap cap2 b : Nat} {a : Option Addr} {cs z pre post : List Value} (he : sliceElem P t0 = some (e, size)) (ht : P.underlying t1 = some (.slice ep)) (h0 : H.t.get b = some (.cells (pre ++ (z ++ post)) e true)) (hpre : pre.length = n0 * size) (hz : z.length = m * size)
    (hx : evS S x = some (.slice (some ⟨b, 0, none⟩) n0 cap)) (hy : evS S y = some (.slice a m cap2)) (hs : Sl H a m cap2 cs) (hl : cs.length = m * size) (hone : cs.all one = true) (hm : n0 + m ≤ 1048576) (hm0 : 0 < m) (hlo : lo ≤ b) :
    heapOp P lo (frS n S) H ⟨d, .call ⟨.builtin .append, #[x, y], #[t0, t1]⟩, ty, p, #[], none⟩ = some (.val (.slice (some ⟨b, 0, none⟩) (n0 + m) cap) (H.up b (.cells (pre ++ (cs ++ post)) e true)), .store b) := by
  have h1 : Nat.beq m 0 = false := by rw [beq_eq]; simp; omega
  have hp := putRow_midZ z cs pre post (by rw [hz, hl])
  rw [hpre] at hp
  have h3 : Nat.ble ((n0 + m) * size) (pre ++ (z ++ post)).length = true := Nat.ble_eq_true_of_le (by simp only [List.length_append, hpre, hz, Nat.add_mul]; omega)
  unfold heapOp
  simp only [evs, ev_frS, hx, hy, builtinV, List.getElem?_toArray, List.getElem?_cons_zero, List.getElem?_cons_succ, he, ht, src_of hs hl, appendV, h0, Nat.zero_add, Nat.ble_eq_true_of_le hm, h1, cond_true, cond_false, Nat.beq_refl, Nat.ble_eq_true_of_le hlo, hone, Bool.and_self, hp, h3]
  rfl
/-- append of nothing -/
theorem heap_append_zero2 {n : Nat} {S : Rg} {H : Hp} {d : Option Tmp} {t0 t1 e ep ty : TypeId} {x y : Operand} {p : String} {size m cap cap2 : Nat} {ad : Addr} {a : Option Addr} (he : sliceElem P t0 = some (e, size)) (ht : P.underlying t1 = some (.slice ep))
    (hx : evS S x = some (.slice (some ad) m cap)) (hy : evS S y = some (.slice a 0 cap2)) (hs : Sl H a 0 cap2 []) (hm : m ≤ 1048576) :
    heapOp P lo (frS n S) H ⟨d, .call ⟨.builtin .append, #[x, y], #[t0, t1]⟩, ty, p, #[], none⟩ = some (.val (.slice (some ad) m cap) H, .pure) := by
  unfold heapOp
  simp only [evs, ev_frS, hx, hy, builtinV, List.getElem?_toArray, List.getElem?_cons_zero, List.getElem?_cons_succ, he, ht, src_of (size := size) hs (by simp), Nat.beq_refl, cond_true, appendV, Nat.add_zero, Nat.ble_eq_true_of_le hm]
end
theorem tkc_app (l m : List Tk) : tkc (l ++ m) = tkc l ++ tkc m := by simp [tkc]

section
variable {kn : FuncId → Option Bool} {lo : Nat} {H : Hp}
theorem concat2_ok {bb tn tcap mcap : Nat} {ta ma : Option Addr} {ts : List Tk} {m0 : Tk} (hbb : Rd H bb [.slice ta tn tcap, .slice ma 1 mcap]) (ht : Sl H ta tn tcap (tkc ts)) (hl : ts.length = tn) (hm : Sl H ma 1 mcap (tkc [m0])) (hn : tn ≤ 999) (hlo : lo ≤ H.next) :
    ∃ a' cap' H', FnX Try.prog kn lo 82 [.slice (some ⟨bb, 0, none⟩) 2 2] H (.slice a' (tn + 1) cap') H' ∧ Keep H H' [] ∧ Sl H' a' (tn + 1) cap' (tkc (ts ++ [m0])) ∧ ∀ b, a' = some ⟨b, 0, none⟩ → H.next ≤ b := by
  have key := fnX_low (kn := kn) (lo := lo) (H := H) (args := [.slice (some ⟨bb, 0, none⟩) 2 2]) (Q := fun v H' => ∃ a' cap', v = .slice a' (tn + 1) cap' ∧ Keep H H' [] ∧ Sl H' a' (tn + 1) cap' (tkc (ts ++ [m0])) ∧ ∀ b, a' = some ⟨b, 0, none⟩ → H.next ≤ b) Try.func82 B82 N82 Z82 L82 (by simp) ?_
  · obtain ⟨v, H', h, a', cap', rfl, q⟩ := key; exact ⟨a', cap', H', h, q⟩
  have hlen := tkc_len ts
  let sz : Nat → Nat := fun i => if i = 0 then 0 else if i = 1 then tn else tn + 1
  refine loop_low (fn := Try.f82) E82_1 N82 L82x1 (fun i : Nat => [(0, .slice (some ⟨bb, 0, none⟩) 2 2), (3, iv (sz i)), (9, .slice (some ⟨bb, 0, none⟩) 2 2), (10, iv ((2 : Nat) : Int)), (11, iv i)])
    (fun k i H' => i + k = 2 ∧ H' = H) 2 0 ⟨by omega, rfl⟩ ⟨rfl, rfl, rfl, rfl, rfl, trivial⟩ ?_
  rintro k i H' ⟨hik, rfl⟩
  refine And.intro (fun hlt => ?_) (fun hge => ?_)
  · have hi : i < 2 := by have := of_decide_eq_true (show decide ((i : Int) < ((2 : Nat) : Int)) = true from hlt); omega
    refine Exists.intro i (And.intro rfl (And.intro hi ?_))
    rcases Nat.eq_zero_or_pos i with h0 | h0
    · subst h0
      refine Exists.intro _ (Exists.intro (.slice ta tn tcap) (And.intro hbb.of (And.intro rfl ?_)))
      refine And.intro (show InR (((0 : Nat) : Int) + (tn : Int)) from ⟨by omega, by omega⟩) ?_
      refine And.intro (fun h => absurd (of_decide_eq_true (show decide (((0 : Nat) : Int) + (tn : Int) < 0) = true from h)) (by omega)) (fun _ => ?_)
      refine And.intro ⟨by omega, by omega⟩ ?_
      refine ⟨1, 1, by omega, ⟨by omega, rfl⟩, rfl, ?_, rfl, rfl, rfl, trivial⟩
      show some (iv (((0 : Nat) : Int) + (tn : Int))) = some (iv ((sz 1 : Nat) : Int))
      simp [sz]
    · have hi1 : i = 1 := by omega
      subst hi1
      refine Exists.intro _ (Exists.intro (.slice ma 1 mcap) (And.intro hbb.of (And.intro rfl ?_)))
      refine And.intro (show InR ((tn : Int) + ((1 : Nat) : Int)) from ⟨by omega, by omega⟩) ?_
      refine And.intro (fun h => absurd (of_decide_eq_true (show decide ((tn : Int) + ((1 : Nat) : Int) < 0) = true from h)) (by omega)) (fun _ => ?_)
      refine And.intro ⟨by omega, by omega⟩ ?_
      refine ⟨0, 2, by omega, ⟨by omega, rfl⟩, rfl, ?_, rfl, rfl, rfl, trivial⟩
      show some (iv ((tn : Int) + ((1 : Nat) : Int))) = some (iv ((sz 2 : Nat) : Int))
      simp [sz]
  have hi2 : i = 2 := by have := of_decide_eq_false (show decide ((i : Int) < ((2 : Nat) : Int)) = false from hge); omega
  subst hi2
  obtain ⟨r0, H1, h1, k1, hr0⟩ := grow_ok (kn := kn) (lo := lo) (H := H') (m := tn + 1) (by omega)
  refine Exists.intro _ (Exists.intro _ (And.intro (callX_args h1) ?_))
  have hbb1 := k1.rd hbb (by simp)
  rcases hr0 with ⟨hm0, rfl⟩ | ⟨hm0, cs0, rfl, hlt1, hg1, hcs0⟩
  · omega
  refine loop_low (fn := Try.f82) E82_2 N82 L82x2 (fun i : Nat => [(6, .slice (some ⟨H'.next, 0, none⟩) (sz i) (tn + 1)), (25, .slice (some ⟨bb, 0, none⟩) 2 2), (26, iv ((2 : Nat) : Int)), (27, iv i)])
    (fun k i H3 => i + k = 2 ∧ Keep H' H3 [] ∧ H'.next < H3.next ∧ ∃ pre z post, H3.t.get H'.next = some (.cells (tkc pre ++ (z ++ post)) 86 true) ∧
      ((i = 0 ∧ pre = [] ∧ z.length = tn * 2 ∧ post.length = 2) ∨ (i = 1 ∧ pre = ts ∧ z.length = 2 ∧ post = []) ∨ (i = 2 ∧ pre = ts ++ [m0] ∧ z = [] ∧ post = []))) 2 0 ⟨by omega, k1, hlt1, [], cs0.take (tn * 2), cs0.drop (tn * 2), by simpa [tkc] using hg1, .inl ⟨rfl, rfl, by simp; omega, by simp; omega⟩⟩ ⟨rfl, rfl, rfl, rfl, trivial⟩ ?_
  rintro k i H3 ⟨hik, k3, hlt3, pre, z, post, hg3, hcase⟩
  have hbb3 := k3.rd hbb (by simp)
  have ht3 := k3.sl0 ht
  have hm3 := k3.sl0 hm
  refine And.intro (fun hlt => ?_) (fun hge => ?_)
  · have hi : i < 2 := by have := of_decide_eq_true (show decide ((i : Int) < ((2 : Nat) : Int)) = true from hlt); omega
    refine Exists.intro i (And.intro rfl (And.intro hi ?_))
    rcases hcase with ⟨rfl, rfl, hz, hp⟩ | ⟨rfl, rfl, hz, rfl⟩ | ⟨rfl, _⟩
    · refine Exists.intro _ (Exists.intro (.slice ta tn tcap) (And.intro hbb3.of (And.intro rfl ?_)))
      rcases Nat.eq_zero_or_pos tn with ht0 | ht0
      · have hts : ts = [] := List.eq_nil_of_length_eq_zero (by omega)
        subst ht0
        refine And.intro rfl (Or.inr (And.intro (by kernel_rfl) (Exists.intro _ (Exists.intro H3 (Exists.intro _ (And.intro (heap_append_zero2 se28 u28 rfl rfl (by rw [hts] at ht3; exact ht3) (by show sz 0 ≤ 1048576; simp [sz])) (And.intro (fun b e => by cases e) ?_)))))))
        refine And.intro ⟨by omega, by omega⟩ ?_
        have hz0 : z = [] := List.eq_nil_of_length_eq_zero (by omega)
        subst hz0
        refine ⟨1, 1, by omega, ⟨by omega, k3, hlt3, [], post, [], by simpa using hg3, .inr (.inl ⟨rfl, hts.symm, hp, rfl⟩)⟩, rfl, rfl, rfl, rfl, trivial⟩
      · obtain ⟨H4, hH4⟩ : ∃ H4, H3.up H'.next (.cells (tkc [] ++ (tkc ts ++ post)) 86 true) = H4 := ⟨_, rfl⟩
        refine And.intro rfl (Or.inr (And.intro (by kernel_rfl) (Exists.intro (.slice (some ⟨H'.next, 0, none⟩) (0 + tn) (tn + 1)) (Exists.intro H4 (Exists.intro (.store H'.next) (And.intro ((heap_append_room (n0 := 0) se28 u28 hg3 rfl (by rw [hz]) rfl rfl ht3 (by rw [hlen, hl]) (tkc_one ts) (by omega) ht0 hlo).trans (by rw [hH4])) (And.intro (fun b e => by cases e) ?_)))))))
        refine And.intro ⟨by omega, by omega⟩ ?_
        obtain ⟨k4, n4, c4⟩ := up_facts ⟨hlt3, _, _, hg3⟩ hH4
        have hg4 : H4.t.get H'.next = some (.cells (tkc [] ++ (tkc ts ++ post)) 86 true) := by rw [← hH4]; simp [Hp.up, Tr.get_set]
        refine ⟨1, 1, by omega, ⟨by omega, k3.new k4 (by simp), by omega, ts, post, [], by simpa [tkc] using hg4, .inr (.inl ⟨rfl, rfl, hp, rfl⟩)⟩, ?_, rfl, rfl, rfl, trivial⟩
        show some (Value.slice (some ⟨H'.next, 0, none⟩) (0 + tn) (tn + 1)) = some (.slice (some ⟨H'.next, 0, none⟩) (sz 1) (tn + 1))
        simp [sz]
    · refine Exists.intro _ (Exists.intro (.slice ma 1 mcap) (And.intro hbb3.of (And.intro rfl ?_)))
      obtain ⟨H4, hH4⟩ : ∃ H4, H3.up H'.next (.cells (tkc pre ++ (tkc [m0] ++ [])) 86 true) = H4 := ⟨_, rfl⟩
      refine And.intro rfl (Or.inr (And.intro (by kernel_rfl) (Exists.intro (.slice (some ⟨H'.next, 0, none⟩) (tn + 1) (tn + 1)) (Exists.intro H4 (Exists.intro (.store H'.next) (And.intro ((heap_append_room (n0 := tn) se28 u28 hg3 (by rw [hlen, hl]) (by rw [hz]) rfl rfl hm3 rfl (tkc_one [m0]) (by omega) (by omega) hlo).trans (by rw [hH4])) (And.intro (fun b e => by cases e) ?_)))))))
      refine And.intro ⟨by omega, by omega⟩ ?_
      obtain ⟨k4, n4, c4⟩ := up_facts ⟨hlt3, _, _, hg3⟩ hH4
      have hg4 : H4.t.get H'.next = some (.cells (tkc pre ++ (tkc [m0] ++ [])) 86 true) := by rw [← hH4]; simp [Hp.up, Tr.get_set]
      exact ⟨0, 2, by omega, ⟨by omega, k3.new k4 (by simp), by omega, pre ++ [m0], [], [], by rw [tkc_app]; simpa using hg4, .inr (.inr ⟨rfl, rfl, rfl, rfl⟩)⟩, rfl, rfl, rfl, rfl, trivial⟩
    · omega
  · have hi2 : i = 2 := by have := of_decide_eq_false (show decide ((i : Int) < ((2 : Nat) : Int)) = false from hge); omega
    subst hi2
    rcases hcase with ⟨h, _⟩ | ⟨h, _⟩ | ⟨_, rfl, rfl, rfl⟩
    · omega
    · omega
    exact And.intro trivial (Exists.intro _ (And.intro rfl ⟨some ⟨H'.next, 0, none⟩, tn + 1, rfl, k3, .inr ⟨H'.next, rfl, (show Cl H3 H'.next (tkc (ts ++ [m0])) from ⟨hlt3, _, _, by simpa using hg3⟩).rd, Nat.le_refl _⟩, fun b e => by cases e; exact Nat.le_refl _⟩))
end
end Go.Ax
namespace Go.Ax
open Go Go.RowKit Go.Proofs
/-- The hour that is yielded: its takes lie anew, with one more. -/
def Hr.more (h : Hr) (m : Tk) (a : Option Addr) (cap : Nat) : Hr := { h with ta := a, tn := h.tn + 1, tcap := cap, ts := h.ts ++ [m] }
structure HrsM (b1 b2 : Nat) (la : Option Addr) (ln lcap : Nat) (hs : List Hr) (ma : Option Addr) (mcap : Nat) (m : Tk) (H : Hp) : Prop where
  c1 : Rd H b1 [.slice la ln lcap]
  c2 : Rd H b2 [.slice ma 1 mcap]
  l : Sl H la ln lcap (hrc hs)
  ln : hs.length = ln
  h : ∀ h ∈ hs, h.At H
  m : Sl H ma 1 mcap (tkc [m])
theorem HrsM.keep {b1 b2 : Nat} {la : Option Addr} {ln lcap : Nat} {hs : List Hr} {ma : Option Addr} {mcap : Nat} {m : Tk} {H H1 : Hp} (a : HrsM b1 b2 la ln lcap hs ma mcap m H) (k : Keep H H1 []) : HrsM b1 b2 la ln lcap hs ma mcap m H1 :=
  ⟨k.rd a.c1 (by simp), k.rd a.c2 (by simp), k.sl0 a.l, a.ln, fun x hx => (a.h x hx).keep k, k.sl0 a.m⟩

section
variable {kn : FuncId → Option Bool} {lo : Nat} {H : Hp}
theorem hours2_ok {la ma : Option Addr} {ln lcap mn mcap : Nat} : ∃ b1 b2 H', FnX Try.prog kn lo 59 [.slice la ln lcap, .slice ma mn mcap] H (.func (.func 81) #[] #[pt b1, pt b2]) H' ∧ Keep H H' [] ∧ H.next ≤ b1 ∧ H.next ≤ b2 ∧ Rd H' b1 [.slice la ln lcap] ∧ Rd H' b2 [.slice ma mn mcap] := by
  have key := fnX_low (kn := kn) (lo := lo) (H := H) (args := [.slice la ln lcap, .slice ma mn mcap]) (Q := fun v H' => ∃ b1 b2, v = .func (.func 81) #[] #[pt b1, pt b2] ∧ Keep H H' [] ∧ H.next ≤ b1 ∧ H.next ≤ b2 ∧ Rd H' b1 [.slice la ln lcap] ∧ Rd H' b2 [.slice ma mn mcap]) Try.func59 B59 N59 Z59 L59 (by simp) ?_
  · obtain ⟨v, H', h, b1, b2, rfl, q⟩ := key; exact ⟨b1, b2, H', h, q⟩
  intro H1 hH1
  obtain ⟨k1, n1, c1⟩ := new_facts hH1
  clear hH1
  intro H2 hH2
  obtain ⟨k2, n2, c2⟩ := new_facts hH2
  clear hH2
  refine And.intro rfl (Exists.intro _ (And.intro rfl ?_))
  exact And.intro trivial (Exists.intro _ (And.intro rfl ⟨H.next, H1.next, rfl, k1.trans k2, Nat.le_refl _, k1.1, (k2.cl c1 (by simp)).rd, c2.rd⟩))
/-- The hours, one by one: J holds ahead of the i-th one, Jf behind one that ends the range, Jp behind one that panics. -/
theorem hrs_okP {l b1 b2 : Nat} {la ma : Option Addr} {ln lcap mcap : Nat} {hs : List Hr} {m0 : Tk} (J : Nat → Hp → Prop) (Jf : Hp → Prop) (Jp : Value → Hp → Prop) (hlb : ln ≤ 1000) (hJ0 : J 0 H) (hJe : ∀ i H, J i H → HrsM b1 b2 la ln lcap hs ma mcap m0 H ∧ lo ≤ H.next) (hJk : ∀ i H H1, J i H → Keep H H1 [] → J i H1) (htn : ∀ h ∈ hs, h.tn ≤ 999)
    (step : ∀ i h a cap H, hs[i]? = some h → J i H → (h.more m0 a cap).At H → (∀ b, a = some ⟨b, 0, none⟩ → ∃ H0, J i H0 ∧ H0.next ≤ b) → (∃ t H', CallsX Try.prog kn lo (.fn (.yield l) #[]) [iv i, .agg (h.more m0 a cap).v.toArray] H (.bool t) H' ∧ (t = true → J (i + 1) H') ∧ (t = false → Jf H')) ∨ ∃ v H', CallsP Try.prog kn lo (.fn (.yield l) #[]) [iv i, .agg (h.more m0 a cap).v.toArray] H v H' ∧ Jp v H') :
    (∃ v H', FnX Try.prog kn lo 81 [.func (.yield l) #[] #[], pt b1, pt b2] H v H' ∧ v = unit ∧ (J ln H' ∨ Jf H')) ∨ ∃ v H', FnP Try.prog kn lo 81 [.func (.yield l) #[] #[], pt b1, pt b2] H v H' ∧ Jp v H' := by
  refine fn_lv (kn := kn) (lo := lo) (H := H) (args := [.func (.yield l) #[] #[], pt b1, pt b2]) (Q := fun v H' => v = unit ∧ (J ln H' ∨ Jf H')) (Z := Jp) Try.func81 B81 N81 Z81 (.low (by rw [← N81]; exact L81)) (by simp) ?_
  refine Exists.intro _ (Exists.intro _ (And.intro (hJe 0 H hJ0).1.c1.of (And.intro rfl ?_)))
  refine loop_lv E81_1 V81 (fun i : Nat => [(0, .func (.yield l) #[] #[]), (2, pt b2), (6, .slice la ln lcap), (7, iv ln), (8, iv i)])
    (fun k i H' => i + k = ln ∧ J i H') ln 0 ⟨by omega, hJ0⟩ ⟨rfl, rfl, rfl, rfl, rfl, trivial⟩ ?_
  rintro k i H1 ⟨hik, hJ⟩
  refine And.intro (fun hlt => ?_) (fun hge => ?_)
  · have hi : i < ln := by simpa using hlt
    obtain ⟨he, hlo1⟩ := hJe i H1 hJ
    have hll := he.l
    rcases hll with ⟨_, h0, _⟩ | ⟨lb, ela, hlc, _⟩
    · omega
    obtain ⟨x, hx⟩ := get_some (l := hs) (i := i) (by rw [he.ln]; omega)
    rw [ela]
    refine Exists.intro i (And.intro rfl (And.intro hi ?_))
    refine Exists.intro _ (Exists.intro _ (And.intro hlc.of (And.intro (row_flat (f := Hr.v) (fun _ _ => rfl) hx) ?_)))
    intro H2 hH2
    obtain ⟨k2, n2, c2⟩ := new_facts hH2
    obtain ⟨_, e2, l2, g2⟩ := id c2
    refine Exists.intro _ (Exists.intro _ (Exists.intro _ (And.intro g2 (And.intro hlo1 (And.intro rfl (And.intro rfl (And.intro (by simp) ?_)))))))
    intro H3 hH3
    obtain ⟨k3, n3, c3⟩ := up_facts c2 hH3
    have c3 : Cl H3 H1.next x.v := c3
    have k13 : Keep H1 H3 [] := k2.new k3 (by simp)
    have he3 := he.keep k13
    refine Exists.intro _ (Exists.intro _ (And.intro c3.of (And.intro rfl ?_)))
    refine Exists.intro _ (Exists.intro _ (And.intro he3.c2.of (And.intro rfl ?_)))
    refine And.intro rfl (Or.inr (And.intro rfl (Exists.intro (.slice (some ⟨H3.next, 0, none⟩) 2 2) (Exists.intro (H3.new (.cells [.slice x.ta x.tn x.tcap, .slice ma 1 mcap] 28 false)) (Exists.intro .heavy (And.intro (by kernel_rfl) (And.intro (fun b e => by cases e) ?_)))))))
    generalize hH4 : H3.new (.cells [.slice x.ta x.tn x.tcap, .slice ma 1 mcap] 28 false) = H4
    obtain ⟨k4, n4, c4⟩ := new_facts hH4
    have he4 := he3.keep k4
    have hxm := List.mem_of_getElem? hx
    have hxa := he4.h x hxm
    have hn13 := k13.1
    have hn34 := k4.1
    obtain ⟨a', cap', H5, h5, k5, s5, o5⟩ := concat2_ok (kn := kn) (lo := lo) (H := H4) c4.rd hxa.t hxa.lt he4.m (htn x hxm) (by omega)
    refine Exists.intro _ (Exists.intro _ (And.intro (callX_args h5) ?_))
    have c5 := k5.cl (k4.cl c3 (by simp)) (by simp)
    obtain ⟨_, e5, l5, g5⟩ := id c5
    refine Exists.intro _ (Exists.intro _ (Exists.intro _ (And.intro g5 (And.intro hlo1 (And.intro rfl (And.intro rfl (And.intro (by simp [Hr.v]) ?_)))))))
    intro H6 hH6
    obtain ⟨k6, n6, c6⟩ := up_facts c5 hH6
    have c6 : Cl H6 H1.next (x.more m0 a' cap').v := c6
    have k16 : Keep H1 H6 [] := (k13.trans (k4.trans k5)).new k6 (by simp)
    refine tri_reg D81 P81 ?_
    refine Or.inl ?_
    refine Or.inl ?_
    refine Or.inl (Exists.intro _ (Exists.intro _ (And.intro c6.of (And.intro (show row 3 _ _ = some (x.more m0 a' cap').v from rfl) ?_))))
    have hJ6 := hJk i H1 H6 hJ k16
    have hx6 := (hJe i H6 hJ6).1.h x hxm
    have hlt1 := c2.lt
    have hat : (x.more m0 a' cap').At H6 := ⟨hx6.b, hx6.c, k6.sl s5 (fun b e => by have := o5 b e; simp; omega), hx6.lb, hx6.lc, by simp [Hr.more, hx6.lt]⟩
    rcases step i x a' cap' H6 hx hJ6 hat (fun b e => ⟨H1, hJ, by have := o5 b e; omega⟩) with ⟨t, H7, h7, ht1, ht2⟩ | ⟨v, H7, h7, hp7⟩
    rotate_left
    · exact Or.inr (Exists.intro v (Exists.intro H7 (And.intro h7 (And.intro rfl (Or.inl (Exists.intro v (And.intro rfl hp7)))))))
    refine Or.inl (Exists.intro _ (Exists.intro _ (And.intro h7 ?_)))
    refine Or.inl (And.intro rfl (Exists.intro (.bool (!t)) (And.intro rfl ?_)))
    refine And.intro rfl ?_
    cases t
    · refine And.intro (fun _ => ?_) (fun h => by cases h)
      exact Or.inr (And.intro (.inr rfl) (Exists.intro _ (And.intro rfl ⟨rfl, .inr (ht2 rfl)⟩)))
    · refine And.intro (fun h => by cases h) (fun _ => ?_)
      refine And.intro ⟨by omega, by omega⟩ ?_
      exact ⟨k - 1, i + 1, by omega, ⟨by omega, ht1 rfl⟩, rfl, rfl, rfl, rfl, rfl, trivial⟩
  · have hi : ¬ i < ln := by simpa using hge
    have hin : i = ln := by omega
    subst hin
    exact Or.inr (And.intro (.inl rfl) (Exists.intro _ (And.intro rfl ⟨rfl, .inl hJ⟩)))
end
end Go.Ax
namespace Go.Ax
open Go Go.RowKit Go.Proofs
/-- Does all go well? By plain data. -/
def goGo (c : Ch) (ms : List Int) (m : Tk) : List Gt → St → List Hr → Bool
  | _, _, [] => true
  | gs, s, h :: r => satF c false (h.more m none 0) gs s && match firstB (hourF c false (h.more m none 0) gs s).ws ms 0 with
    | some _ => false
    | none => goGo c ms m (boardsF h gs) (hourF c false (h.more m none 0) gs s) r
theorem goGo_drop {c : Ch} {ms : List Int} {m : Tk} {gs : List Gt} {s : St} {hs : List Hr} {i : Nat} {h : Hr} (hx : hs[i]? = some h) : goGo c ms m gs s (hs.drop i) = (satF c false (h.more m none 0) gs s && match firstB (hourF c false (h.more m none 0) gs s).ws ms 0 with
    | some _ => false
    | none => goGo c ms m (boardsF h gs) (hourF c false (h.more m none 0) gs s) (hs.drop (i + 1))) := by
  have hi := get_lt hx
  rw [List.drop_eq_getElem_cons hi]
  rw [List.getElem?_eq_getElem hi] at hx
  cases hx
  rfl
def foM (c : Ch) (hs : List Hr) (m : Tk) (i : Nat) : List Gt × St := (hs.take i).foldl (fun x h => (boardsF h x.1, hourF c false (h.more m none 0) x.1 x.2)) (c.gs, s0 false c)

structure GW where
  b1 : Nat
  b2 : Nat
  b3 : Nat
  b5 : Nat
  b6 : Nat
  r : Nat
def GW.all (x : GW) : List Nat := [x.b1, x.b2, x.b3, x.b5, x.b6, x.r]
structure GQ where
  c : Ch
  la : Option Addr
  ln : Nat
  lcap : Nat
  hs : List Hr
  ma : Option Addr
  mn : Nat
  mcap : Nat
  ms : List Int
  ea : Option Addr
  ecap : Nat
  m : Tk
structure GQ.Off (q : GQ) (w : List Nat) : Prop where
  p : Go.Ax.Off w q.c.pa
  l : Go.Ax.Off w q.la
  m : Go.Ax.Off w q.ma
  e : Go.Ax.Off w q.ea
  h : ∀ h ∈ q.hs, Go.Ax.Off w h.ba ∧ Go.Ax.Off w h.ca ∧ Go.Ax.Off w h.ta
def GQ.go (q : GQ) : Bool := goGo q.c q.ms q.m q.c.gs (s0 false q.c) q.hs
structure GE (q : GQ) (x : GW) (p : Wh) (H : Hp) : Prop where
  hrs : HrsM x.b1 x.b2 q.la q.ln q.lcap q.hs q.ea q.ecap q.m H
  b3 : Rd H x.b3 [pt p.k]
  b5 : Rd H x.b5 [.slice q.ma q.mn q.mcap]
  ms : Sl H q.ma q.mn q.mcap (ints q.ms)
  b6 : ∃ v, Cl H x.b6 [v]
  dfr : x.r < H.next ∧ H.t.get x.r = some (.dfr (some []))
theorem GE.keep {q : GQ} {x : GW} {p : Wh} {H H1 : Hp} {w : List Nat} (h : GE q x p H) (k : Keep H H1 w) (o : q.Off w) (hx : ∀ b ∈ x.all, b ∉ w) : GE q x p H1 := by
  have m : ∀ b, b ∈ x.all → b ∉ w := hx
  refine ⟨⟨k.rd h.hrs.c1 (m _ (by simp [GW.all])), k.rd h.hrs.c2 (m _ (by simp [GW.all])), k.sl h.hrs.l o.l, h.hrs.ln, fun y hy => ?_, k.sl h.hrs.m o.e⟩, k.rd h.b3 (m _ (by simp [GW.all])), k.rd h.b5 (m _ (by simp [GW.all])), k.sl h.ms o.m, ?_, ?_⟩
  · have a := h.hrs.h y hy
    obtain ⟨o1, o2, o3⟩ := o.h y hy
    exact ⟨k.sl a.b o1, k.sl a.c o2, k.sl a.t o3, a.lb, a.lc, a.lt⟩
  · obtain ⟨v, hv⟩ := h.b6; exact ⟨v, k.cl hv (m _ (by simp [GW.all]))⟩
  · exact ⟨Nat.lt_of_lt_of_le h.dfr.1 k.1, by rw [k.2 _ h.dfr.1 (m _ (by simp [GW.all]))]; exact h.dfr.2⟩
theorem offG_nil (q : GQ) : q.Off [] := ⟨fun _ _ => by simp, fun _ _ => by simp, fun _ _ => by simp, fun _ _ => by simp, fun _ _ => ⟨fun _ _ => by simp, fun _ _ => by simp, fun _ _ => by simp⟩⟩

noncomputable abbrev asg63 : Code := at_ Try.f63 [1, 1, 1, 0, 1, 0, 0]
noncomputable abbrev body63 : Code := at_ Try.f63 [1, 1, 1, 0, 1, 0, 1]
abbrev S63 (x : GW) : Rg := [(3, pt x.b3), (5, pt x.b5), (6, pt x.b6)]
structure GJ (lo : Nat) (H : Hp) (q : GQ) (L : Nat) (p : Wh) (x : GW) (l : Nat) (i : Nat) (H' : Hp) : Prop where
  crs : CrsZ q.c false L p H' (foM q.c q.hs q.m i).1 (foM q.c q.hs q.m i).2
  ah : Ahead q.c.ponds (i * perHour) (foM q.c q.hs q.m i).2
  gts : (foM q.c q.hs q.m i).1.all (fun g => gateB g q.c.pn) = true
  go : q.go = goGo q.c q.ms q.m (foM q.c q.hs q.m i).1 (foM q.c q.hs q.m i).2 (q.hs.drop i)
  le : GE q x p H'
  lp : Lp Try.prog H' l .ready none 31 (S63 x) [16, 17] asg63 body63 x.r
  ll : l < H'.next
  lo : lo ≤ H'.next
  kp : Keep H H' p.W
structure GF (H : Hp) (q : GQ) (p : Wh) (x : GW) (l : Nat) (H' : Hp) : Prop where
  go : q.go = false
  b6 : Cl H' x.b6 [.bool false]
  dfr : x.r < H'.next ∧ H'.t.get x.r = some (.dfr (some []))
  lp : Lp Try.prog H' l .done (some .ret) 31 (S63 x) [16, 17] asg63 body63 x.r
  kp : Keep H H' p.W
structure GP (H : Hp) (q : GQ) (p : Wh) (x : GW) (H' : Hp) : Prop where
  go : q.go = false
  b6 : ∃ v, Cl H' x.b6 [v]
  dfr : x.r < H'.next ∧ H'.t.get x.r = some (.dfr (some []))
  kp : Keep H H' p.W
/-- What does not change while the hours pass. -/
structure GC (lo : Nat) (H : Hp) (q : GQ) (L : Nat) (p : Wh) (x : GW) (l : Nat) : Prop where
  vd : q.c.Vd
  ln : q.ln ≤ 200
  hl : q.hs.length = q.ln
  hv : ∀ h ∈ q.hs, hourB h q.c.pn q.c.gn = true
  mn : q.mn = q.c.pn
  ml : q.ms.length = q.mn
  loL : lo ≤ L
  Hl : H.next ≤ l
  Lol : lo ≤ l
  xl : ∀ b ∈ x.all, b ≠ l
  xW : ∀ b ∈ x.all, b ∉ p.W
  lW : l ∉ p.W
  x6 : lo ≤ x.b6 ∧ H.next ≤ x.b6
  r6 : x.r ≠ x.b6
  oW : q.Off p.W
  ol : q.Off [l]
  m1 : indexB q.m.pond q.c.pn = true
  m2 : waterB q.m.amount = true

theorem more_W {h : Hr} {pn gn : Nat} {m : Tk} {a : Option Addr} {cap : Nat} (hv : hourB h pn gn = true) (h1 : indexB m.pond pn = true) (h2 : waterB m.amount = true) : hourW (h.more m a cap) pn gn = true := by
  simp only [hourB, Bool.and_eq_true] at hv
  obtain ⟨⟨⟨⟨⟨v1, v2⟩, v3⟩, v4⟩, v5⟩, v6⟩ := hv
  have htn : h.tn ≤ 32 := by simp at v3; omega
  simp only [hourW, Hr.more, Bool.and_eq_true]
  refine ⟨⟨⟨⟨⟨v1, v2⟩, ?_⟩, v4⟩, v5⟩, ?_⟩
  · simp; omega
  · rw [List.all_append, v6]; simp [h1, h2]

section
variable {kn : FuncId → Option Bool} {lo L l : Nat} {H : Hp} {q : GQ} {p : Wh} {x : GW}
theorem GJ.keep0 {i : Nat} {H1 H2 : Hp} (j : GJ lo H q L p x l i H1) (k : Keep H1 H2 []) : GJ lo H q L p x l i H2 :=
  ⟨j.crs.keep k, j.ah, j.gts, j.go, j.le.keep k (offG_nil q) (fun _ _ => by simp), j.lp.keep k j.ll (by simp), Nat.lt_of_lt_of_le j.ll k.1, Nat.le_trans j.lo k.1, j.kp.trans (k.mono (by simp))⟩
theorem suff_round (C : GC lo H q L p x l) {i : Nat} {h : Hr} {a : Option Addr} {cap : Nat} {H1 : Hp} (hx : q.hs[i]? = some h) (j : GJ lo H q L p x l i H1) (ha : (h.more q.m a cap).At H1) (hoff : ∀ b, a = some ⟨b, 0, none⟩ → ∃ H0, GJ lo H q L p x l i H0 ∧ H0.next ≤ b) :
    (∃ t H', CallsX Try.prog kn lo (.fn (.yield l) #[]) [iv i, .agg (h.more q.m a cap).v.toArray] H1 (.bool t) H' ∧ (t = true → GJ lo H q L p x l (i + 1) H') ∧ (t = false → GF H q p x l H')) ∨
    ∃ v H', CallsP Try.prog kn lo (.fn (.yield l) #[]) [iv i, .agg (h.more q.m a cap).v.toArray] H1 v H' ∧ v = shortV ∧ GP H q p x H' := by
  have hi := get_lt hx
  have hlq := C.hl
  have hln := C.ln
  have L1 : low Try.prog 31 asg63 = some R63d := N63 ▸ L63d
  have hLl := C.Lol
  have hloL := C.loL
  have hHl := C.Hl
  refine yield_okP (S1 := (17, .agg (h.more q.m a cap).v.toArray) :: (16, iv i) :: S63 x) (Q := fun t H' => (t = true → GJ lo H q L p x l (i + 1) H') ∧ (t = false → GF H q p x l H')) (Z := fun v H' => v = shortV ∧ GP H q p x H') j.lp (by omega) (by rfl) rfl (wC_sound true _ L1 ?_)
  intro H2 hH2
  obtain ⟨k2, n2, c2⟩ := new_facts hH2
  obtain ⟨_, e2, l2, g2⟩ := id c2
  refine Exists.intro _ (Exists.intro _ (Exists.intro _ (And.intro g2 (And.intro j.lo (And.intro rfl (And.intro rfl (And.intro (by simp) ?_)))))))
  intro H3 hH3
  obtain ⟨k3, n3, c3⟩ := up_facts c2 hH3
  have c3 : Cl H3 H1.next (h.more q.m a cap).v := c3
  have k13 : Keep H1 H3 [] := k2.new k3 (by simp)
  have j3 := j.keep0 k13
  refine And.intro trivial (And.intro j3.lp ?_)
  intro H4 s4
  have k4 := s4.keep
  have lp4 := s4.lp j3.lp
  have hn13 := k13.1
  have hn4 : H4.next = H3.next := s4.1
  have ne1l : H1.next ≠ l := by have := j.ll; omega
  have crs4 : CrsZ q.c false L p H4 (foM q.c q.hs q.m i).1 (foM q.c q.hs q.m i).2 := j3.crs.keepW k4 (fun b hb => by simp at hb; subst hb; exact C.lW) C.ol.p
  have le4 : GE q x p H4 := j3.le.keep k4 C.ol (fun b hb => by simpa using C.xl b hb)
  have c4 := k4.cl c3 (by simpa using ne1l)
  have hat4 : (h.more q.m a cap).At H4 := by
    have h0 := ha.keep k13
    obtain ⟨o1, o2, _⟩ := C.ol.h h (List.mem_of_getElem? hx)
    refine ⟨k4.sl h0.b o1, k4.sl h0.c o2, k4.sl h0.t (fun b e => ?_), h0.lb, h0.lc, h0.lt⟩
    obtain ⟨H0, j0, hb⟩ := hoff b e
    have := j0.ll
    simp; omega
  refine wC_lv V63 ?_
  refine tri_reg D63p P63p ?_
  refine Or.inl (Exists.intro _ (Exists.intro _ (And.intro le4.b3.of (And.intro rfl ?_))))
  refine Or.inl (Exists.intro _ (Exists.intro _ (And.intro c4.of (And.intro (show row 3 _ _ = some (h.more q.m a cap).v from rfl) ?_))))
  obtain ⟨o1, o2, _⟩ := C.oW.h h (List.mem_of_getElem? hx)
  have hoT : Off p.W (h.more q.m a cap).ta := fun b e => by
    obtain ⟨H0, j0, hb⟩ := hoff b e
    exact j0.crs.offNew hb
  have hlo4 : lo ≤ H4.next := by have := j.lo; omega
  have hB : (i : Int) * perHour ≤ 1152921504606846976 := by rw [perHour_eq]; omega
  have hB0 : 0 ≤ (i : Int) * perHour := by rw [perHour_eq]; omega
  have hgo := j.go
  rw [goGo_drop hx] at hgo
  have hll4 : l < H4.next := by have := j3.ll; omega
  have k04 : Keep H H4 p.W := (j3.kp).new k4 (fun b hb => .inr (by simp at hb; omega))
  rcases crs_passZ (kn := kn) (lo := lo) crs4 C.vd hat4 o1 o2 hoT (more_W (C.hv h (List.mem_of_getElem? hx)) C.m1 C.m2) j.gts j.ah hB hB0 hlo4 hloL with ⟨H5, h5, hsat, crs5, k5, ah5, gts5⟩ | ⟨v, H5, h5, rfl, hsat, k5⟩
  rotate_left
  · refine Or.inr (Exists.intro _ (Exists.intro H5 (And.intro (callP_args h5) ?_)))
    have lp5 : Lp Try.prog H5 l .busy none 31 (S63 x) [16, 17] asg63 body63 x.r := lp4.keep k5 hll4 C.lW
    have le5 := le4.keep k5 C.oW C.xW
    have hsat : satF q.c false (h.more q.m none 0) (foM q.c q.hs q.m i).1 (foM q.c q.hs q.m i).2 = false := hsat
    rw [hsat] at hgo
    exact And.intro rfl (And.intro lp5 (Or.inl (Exists.intro _ (And.intro rfl ⟨rfl, hgo, le5.b6, le5.dfr, k04.trans k5⟩))))
  have hsat : satF q.c false (h.more q.m none 0) (foM q.c q.hs q.m i).1 (foM q.c q.hs q.m i).2 = true := hsat
  rw [hsat, Bool.true_and] at hgo
  refine Or.inl (Exists.intro _ (Exists.intro _ (And.intro (callX_args h5) ?_)))
  refine And.intro rfl ?_
  have hfo : foM q.c q.hs q.m (i + 1) = (boardsF h (foM q.c q.hs q.m i).1, hourF q.c false (h.more q.m none 0) (foM q.c q.hs q.m i).1 (foM q.c q.hs q.m i).2) := take_step hx
  have crs5 : CrsZ q.c false L p H5 (foM q.c q.hs q.m (i + 1)).1 (foM q.c q.hs q.m (i + 1)).2 := by rw [hfo]; exact crs5
  have ah5 : Ahead q.c.ponds ((i + 1 : Nat) * perHour) (foM q.c q.hs q.m (i + 1)).2 := by
    rw [hfo]
    have e : ((i + 1 : Nat) : Int) * perHour = i * perHour + perHour := by rw [Int.natCast_add, Int.add_mul]; simp
    rw [e]; exact ah5
  have gts5 : (foM q.c q.hs q.m (i + 1)).1.all (fun g => gateB g q.c.pn) = true := by rw [hfo]; exact gts5
  have le5 := le4.keep k5 C.oW C.xW
  have lp5 : Lp Try.prog H5 l .busy none 31 (S63 x) [16, 17] asg63 body63 x.r := lp4.keep k5 hll4 C.lW
  have hn5 := k5.1
  have k05 : Keep H H5 p.W := k04.trans k5
  refine Exists.intro _ (Exists.intro _ (And.intro le5.b3.of (And.intro rfl (And.intro le5.b3.lt ?_))))
  refine Exists.intro _ (Exists.intro _ (And.intro crs5.hc.of (And.intro rfl (And.intro crs5.hc.lt ?_))))
  refine Exists.intro _ (Exists.intro _ (And.intro le5.b5.of (And.intro rfl (And.intro le5.b5.lt ?_))))
  have hms := le5.ms
  have v1 := C.vd.h1; have v2 := C.vd.wp; have v3 := C.mn; have v4 := C.vd.h16
  rcases hms with ⟨_, h0, _⟩ | ⟨mb, ema, hmr, _⟩
  · omega
  have hlw : (foM q.c q.hs q.m (i + 1)).2.ws.length = q.c.wn := crs5.lws
  obtain ⟨H6, h6, k6⟩ : ∃ H6, FnX Try.prog kn lo 54 [slv p.wb q.c.wn q.c.wn, .slice q.ma q.mn q.mcap] H5 (fbV (foM q.c q.hs q.m (i + 1)).2.ws q.ms) H6 ∧ Keep H5 H6 [] := by
    rw [ema, show q.mn = q.c.wn by omega]
    exact fb_rd crs5.hw.rd hmr hlw (by have := C.ml; omega) (by omega)
  refine Exists.intro _ (Exists.intro _ (And.intro (callX_args h6) ?_))
  have crs6 := crs5.keep k6
  have le6 := le5.keep k6 (offG_nil q) (fun _ _ => by simp)
  have hl5 : l < H5.next := by omega
  have lp6 := lp5.keep k6 hl5 (by simp)
  have k06 : Keep H H6 p.W := k05.trans (k6.mono (by simp))
  have hn6 := k6.1
  have e2 : (hourF q.c false (h.more q.m none 0) (foM q.c q.hs q.m i).1 (foM q.c q.hs q.m i).2) = (foM q.c q.hs q.m (i + 1)).2 := by rw [hfo]
  have e1 : boardsF h (foM q.c q.hs q.m i).1 = (foM q.c q.hs q.m (i + 1)).1 := by rw [hfo]
  rw [e1, e2] at hgo
  cases hf : firstB (foM q.c q.hs q.m (i + 1)).2.ws q.ms 0 with
  | none =>
    rw [show fbV (foM q.c q.hs q.m (i + 1)).2.ws q.ms = .tuple #[iv 0, .bool false] by unfold fbV; rw [hf]]
    rw [hf] at hgo
    refine And.intro rfl (Exists.intro _ (And.intro rfl ?_))
    refine And.intro rfl (Exists.intro _ (And.intro rfl ?_))
    refine And.intro (by repeat' first | exact True.intro | exact (fun h => h) | refine And.intro ?_ ?_) ?_
    refine condF ?_
    refine And.intro lp6 (Or.inr ?_)
    intro H7 s7
    refine ⟨fun _ => ?_, fun e => by cases e⟩
    have k7 := s7.keep
    have hn7 : H7.next = H6.next := s7.1
    exact ⟨crs6.keepW k7 (fun b hb => by simp at hb; subst hb; exact C.lW) C.ol.p, ah5, gts5, hgo, le6.keep k7 C.ol (fun b hb => by simpa using C.xl b hb), s7.lp lp6, by omega, by omega, k06.new k7 (fun b hb => .inr (by simp at hb; omega))⟩
  | some pp =>
    rw [show fbV (foM q.c q.hs q.m (i + 1)).2.ws q.ms = .tuple #[iv pp, .bool true] by unfold fbV; rw [hf]]
    rw [hf] at hgo
    refine And.intro rfl (Exists.intro _ (And.intro rfl ?_))
    refine And.intro rfl (Exists.intro _ (And.intro rfl ?_))
    refine And.intro (by repeat' first | exact True.intro | exact (fun h => h) | refine And.intro ?_ ?_) ?_
    refine condT ?_
    obtain ⟨x6, y6⟩ := C.x6
    obtain ⟨w6, r6⟩ := le6.b6
    obtain ⟨_, ea, la, ga⟩ := id r6
    refine Exists.intro _ (Exists.intro _ (Exists.intro _ (And.intro ga (And.intro x6 (And.intro rfl (And.intro rfl (And.intro (by simp) ?_)))))))
    intro H7 hH7
    obtain ⟨k7, n7, c7⟩ := up_facts r6 hH7
    have xl6 := C.xl x.b6 (by simp [GW.all])
    have xlr := C.xl x.r (by simp [GW.all])
    have hr6 := C.r6
    have lp7 := lp6.keep k7 (by omega) (by simpa using xl6.symm)
    refine And.intro lp7 (Or.inr ?_)
    intro H8 s8
    refine ⟨fun e => (by cases e), fun _ => ?_⟩
    have k8 := s8.keep
    have hd := le6.dfr
    refine ⟨hgo, k8.cl c7 (by simpa using xl6), ⟨?_, ?_⟩, s8.lp lp7, ?_⟩
    · have := k7.1; have := k8.1; omega
    · rw [k8.2 _ (by have := k7.1; omega) (by simpa using xlr), k7.2 _ hd.1 (by simpa using hr6)]
      exact hd.2
    · exact (k06.new k7 (fun b hb => .inr (by simp at hb; omega))).new k8 (fun b hb => .inr (by simp at hb; omega))
end
end Go.Ax
namespace Go.Ax
open Go Go.RowKit Go.Proofs
section
variable {kn : FuncId → Option Bool} {lo : Nat} {H : Hp}
theorem def83_none {b : Nat} {v : Value} (hb : Cl H b [v]) : DefX Try.prog kn lo 83 [pt b] H none none H := by
  have key : ∃ H', DefX Try.prog kn lo 83 [pt b] H none none H' ∧ H' = H := ?_
  · obtain ⟨H', h, rfl⟩ := key; exact h
  refine defX_of (P := Try.prog) (kn := kn) (lo := lo) (args := [pt b]) (H := H) (p := none) (p' := none) (Q := fun H' => H' = H) Try.func83 B83 (by rw [N83]; simp) (by rw [Z83]) ?_
  rw [N83]
  refine TriQ.seq S83 (TriQ.reg D83a Q83a ?_)
  refine And.intro rfl (Exists.intro (.bool false) (And.intro (by kernel_rfl) ?_))
  refine TriQ.cond C83 (t := false) rfl (fun e => by cases e) (fun _ => TriQ.skip K83 ?_)
  exact ⟨.inl rfl, rfl, rfl⟩
theorem def83_some {b : Nat} {v : Value} (hb : Cl H b [v]) (hlo : lo ≤ b) : ∃ H', DefX Try.prog kn lo 83 [pt b] H (some (shortV, false)) (some (shortV, true)) H' ∧ Cl H' b [.bool false] ∧ Keep H H' [b] := by
  refine defX_of (P := Try.prog) (kn := kn) (lo := lo) (args := [pt b]) (H := H) (Q := fun H' => Cl H' b [.bool false] ∧ Keep H H' [b]) Try.func83 B83 (by rw [N83]; simp) (by rw [Z83]) ?_
  rw [N83]
  refine TriQ.seq S83 (TriQ.reg D83a Q83a ?_)
  refine And.intro rfl (Exists.intro (.bool true) (And.intro (by kernel_rfl) ?_))
  refine TriQ.cond C83 (t := true) rfl (fun _ => TriQ.reg D83b Q83b ?_) (fun e => by cases e)
  obtain ⟨_, ea, la, ga⟩ := id hb
  refine Exists.intro _ (Exists.intro _ (Exists.intro _ (And.intro ga (And.intro hlo (And.intro rfl (And.intro rfl (And.intro (by simp) ?_)))))))
  intro H7 hH7
  obtain ⟨k7, n7, c7⟩ := up_facts hb hH7
  exact ⟨.inl rfl, rfl, c7, k7⟩

/-- suffices: whether all goes well -/
theorem suff_ok {q : GQ} {L : Nat} {p : Wh} {b1 b2 : Nat} (crs : Crs q.c false L p H q.c.gs (s0 false q.c)) (vd : q.c.Vd) (hrs : HrsM b1 b2 q.la q.ln q.lcap q.hs q.ea q.ecap q.m H) (ms : Sl H q.ma q.mn q.mcap (ints q.ms)) (ln : q.ln ≤ 200) (hv : ∀ h ∈ q.hs, hourB h q.c.pn q.c.gn = true) (mn : q.mn = q.c.pn) (ml : q.ms.length = q.mn)
    (hlo : lo ≤ H.next) (loL : lo ≤ L) (w1 : b1 ∉ p.W) (w2 : b2 ∉ p.W) (oW : q.Off p.W) (m1 : indexB q.m.pond q.c.pn = true) (m2 : waterB q.m.amount = true) :
    ∃ H', FnX Try.prog kn lo 63 [pt p.k, .func (.func 81) #[] #[pt b1, pt b2], .slice q.ma q.mn q.mcap] H (.bool q.go) H' ∧ Keep H H' p.W := by
  have key := fnX_of_triD (P := Try.prog) (kn := kn) (lo := lo) (H := H) (args := [pt p.k, .func (.func 81) #[] #[pt b1, pt b2], .slice q.ma q.mn q.mcap]) (Q := fun v H' => v = .bool q.go ∧ Keep H H' p.W) Try.func63 B63 (by rw [N63]; simp) ?_
  · obtain ⟨v, H', h, rfl, k⟩ := key; exact ⟨H', h, k⟩
  rw [N63, Z63]
  have La : low Try.prog 31 (at_ Try.f63 [0]) = some R63a := N63 ▸ L63a
  have Lb : low Try.prog 31 (at_ Try.f63 [1, 0]) = some R63b := N63 ▸ L63b
  have Lc : low Try.prog 31 (at_ Try.f63 [1, 1, 1, 0, 0]) = some R63c := N63 ▸ L63c
  have Le : low Try.prog 31 (at_ Try.f63 [1, 1, 1, 1]) = some R63e := N63 ▸ L63e
  refine TriR.seqRR S63a (TriR.of (wC_sound false _ La ?_))
  intro H1 hH1; obtain ⟨k1, n1, c1⟩ := new_facts hH1; clear hH1
  intro H2 hH2; obtain ⟨k2, n2, c2⟩ := new_facts hH2; clear hH2
  intro H3 hH3; obtain ⟨k3, n3, c3⟩ := new_facts hH3; clear hH3
  have k03 : Keep H H3 [] := k1.trans (k2.trans k3)
  have c1 := k3.cl (k2.cl c1 (by simp)) (by simp)
  have c2 := k3.cl c2 (by simp)
  have crs3 := crs.keep k03
  refine TriR.seqRR S63b (TriR.of (wC_sound false _ Lb ?_))
  refine Exists.intro _ (Exists.intro _ (And.intro c1.of (And.intro rfl ?_)))
  have hlk := crs.lk
  have hpk := crs.hc.lt
  obtain ⟨_, e3, l3, g3⟩ := id crs3.hc
  refine Exists.intro _ (Exists.intro _ (Exists.intro _ (And.intro g3 (And.intro (by omega) (And.intro rfl (And.intro rfl (And.intro (by simp [Co.cells]) ?_)))))))
  intro H4 hH4
  obtain ⟨k4, n4, c4⟩ := up_facts crs3.hc hH4
  have hn03 := k03.1
  have crs4 : CrsZ q.c false L p H4 q.c.gs (s0 false q.c) := by
    refine ⟨c4, k4.cl crs3.hw (by simpa using crs.ne.symm), crs3.hg.keep k4 (fun b e => ?_), k4.sl crs3.hp (fun b e => by have := crs.op b e; simp; omega), crs.lg, crs.lws, crs.lk, crs.lw, crs.ne, crs.gc, crs.gw, crs.op⟩
    have := crs.gc
    rw [mem_gl e] at this
    simp at this ⊢; omega
  have hpW : p.k ∈ p.W := by simp [Wh.W]
  have k04 : Keep H H4 p.W := (k03.mono (by simp)).trans (k4.mono (by simp [Wh.W]))
  have nW : ∀ b, H.next ≤ b → b ∉ p.W := fun b hb => crs.offNew hb
  refine TriR.seqRR S63c (triR_reg D63 P63 ?_)
  refine Or.inl (And.intro rfl (Exists.intro (.func (.func 83) #[] #[pt H2.next]) (And.intro rfl ?_)))
  refine And.intro rfl ?_
  refine TriR.seqRR S63d (TriR.seqRR S63e (TriR.of (wC_sound false _ Lc ?_)))
  rw [S63f]
  refine TriR.block ?_
  refine TriR.rangeP S63r rfl ?_
  intro H5 k5 n5 hd hlp
  have hn5 := k5.1
  have hn4 : H4.next = H3.next := n4
  let X : GW := ⟨b1, b2, H.next, H1.next, H2.next, H4.next⟩
  have e1 := hrs.c1.lt; have e2 := hrs.c2.lt
  have k05 : Keep H H5 p.W := k04.trans (k5.mono (by simp))
  have k35 : Keep H3 H5 [p.k] := k4.trans (k5.mono (by simp))
  have c1' : Cl H5 H.next [pt p.k] := k35.cl c1 (by simp; omega)
  have c2' : Cl H5 H1.next [.slice q.ma q.mn q.mcap] := k35.cl c2 (by simp; omega)
  have c3' : Cl H5 H2.next [.bool false] := k35.cl c3 (by simp; omega)
  have xall : ∀ b, b ∈ X.all → b = b1 ∨ b = b2 ∨ (H.next ≤ b ∧ b ≤ H4.next) := by
    intro b hb
    simp only [GW.all, X, List.mem_cons, List.not_mem_nil, or_false] at hb
    omega
  have C : GC lo H q L p X (H4.next + 1) := by
    refine ⟨vd, ln, hrs.ln, hv, mn, ml, loL, by omega, by omega, fun b hb => ?_, fun b hb => ?_, nW _ (by omega), ⟨by show lo ≤ H2.next; omega, by show H.next ≤ H2.next; omega⟩, by show H4.next ≠ H2.next; omega, oW, ?_, m1, m2⟩
    · have := xall b hb; omega
    · rcases xall b hb with w | w | w
      · rw [w]; exact w1
      · rw [w]; exact w2
      · exact nW b w.1
    · refine ⟨fun b e => ?_, fun b e => ?_, fun b e => ?_, fun b e => ?_, fun h hm => ⟨fun b e => ?_, fun b e => ?_, fun b e => ?_⟩⟩
      · have := crs.hp.lt b e; simp; omega
      · have := hrs.l.lt b e; simp; omega
      · have := ms.lt b e; simp; omega
      · have := hrs.m.lt b e; simp; omega
      · have := (hrs.h h hm).b.lt b e; simp; omega
      · have := (hrs.h h hm).c.lt b e; simp; omega
      · have := (hrs.h h hm).t.lt b e; simp; omega
  have le5 : GE q X p H5 := by
    refine ⟨⟨k05.rd hrs.c1 w1, k05.rd hrs.c2 w2, k05.sl hrs.l oW.l, hrs.ln, fun y hy => ?_, k05.sl hrs.m oW.e⟩, c1'.rd, c2'.rd, k05.sl ms oW.m, ⟨_, c3'⟩, by show H4.next < H5.next; omega, hd⟩
    have a := hrs.h y hy
    obtain ⟨o1, o2, o3⟩ := oW.h y hy
    exact ⟨k05.sl a.b o1, k05.sl a.c o2, k05.sl a.t o3, a.lb, a.lc, a.lt⟩
  have j0 : GJ lo H q L p X (H4.next + 1) 0 H5 := by
    refine ⟨crs4.keep k5, ?_, vd.g, rfl, le5, hlp.weak ⟨rfl, rfl, rfl, trivial⟩, by omega, by omega, k05⟩
    have := vd.ahead false
    simpa [foM] using this
  have hend := hrs_okP (kn := kn) (lo := lo) (H := H5) (l := H4.next + 1) (b1 := b1) (b2 := b2) (la := q.la) (ln := q.ln) (lcap := q.lcap) (hs := q.hs) (ma := q.ea) (mcap := q.ecap) (m0 := q.m) (GJ lo H q L p X (H4.next + 1)) (GF H q p X (H4.next + 1)) (fun v H' => v = shortV ∧ GP H q p X H') (by omega) j0 (fun i H' j => ⟨j.le.hrs, j.lo⟩) (fun i H1 H2 j k => j.keep0 k) (fun h hm' => by
    have := hv h hm'
    simp [hourB] at this; omega) (fun i h a cap H' hx j ha hoff => suff_round C hx j ha hoff)
  have fin : ∀ H6 : Hp, GP H q p X H6 → ∀ H7 : Hp, H7.next = H6.next → (∀ b, b ≠ H4.next → H7.t.get b = H6.t.get b) → ∃ H8, DefX Try.prog kn lo 83 [pt H2.next] H7 (some (shortV, false)) (some (shortV, true)) H8 ∧ Rd H8 H2.next [.bool q.go] ∧ Keep H H8 p.W := by
    intro H6 g H7 hn7 hs7
    have k7 : Keep H6 H7 [H4.next] := ⟨by omega, fun b _ hb => hs7 b (by simpa using hb)⟩
    obtain ⟨v6, r6⟩ := g.b6
    have r7 : Cl H7 H2.next [v6] := k7.cl r6 (by simp; omega)
    obtain ⟨H8, h8, c8, k8⟩ := def83_some (kn := kn) (lo := lo) r7 (by omega)
    refine ⟨H8, h8, by rw [g.go]; exact c8.rd, ?_⟩
    exact (g.kp.new k7 (fun b hb => .inr (by simp at hb; omega))).new k8 (fun b hb => .inr (by simp at hb; omega))
  have fin0 : ∀ (H6 H7 : Hp) (v : Value), v = .bool q.go → Cl H6 H2.next [v] → Keep H H6 p.W → H7.next = H6.next → (∀ b, b ≠ H4.next → H7.t.get b = H6.t.get b) → DefX Try.prog kn lo 83 [pt H2.next] H7 none none H7 ∧ Rd H7 H2.next [.bool q.go] ∧ Keep H H7 p.W := by
    rintro H6 H7 v rfl r6 kp hn7 hs7
    have k7 : Keep H6 H7 [H4.next] := ⟨by omega, fun b _ hb => hs7 b (by simpa using hb)⟩
    have r7 := k7.cl r6 (by simp; omega)
    exact ⟨def83_none r7, r7.rd, kp.new k7 (fun b hb => .inr (by simp at hb; omega))⟩
  have hres : ∀ (S : Rg) (H8 : Hp), lk S 6 = some (pt H2.next) → Rd H8 H2.next [.bool q.go] → resS Try.prog S H8 [.cell 6 4] = some [.bool q.go] := by
    intro S H8 h1 h2
    simp only [resS, h1, load_one (show isAggB Try.prog 4 = some false by kernel_rfl) h2]
  rcases hend with ⟨v, H6, h6, rfl, j | f⟩ | ⟨v, H6, h6, rfl, g⟩
  · refine Or.inl ⟨_, H6, callX_func rfl (by simpa using h6), .ready, none, _, j.lp, by simp, ?_⟩
    intro H7 s7
    have k7 := s7.keep
    have le7 := j.le.keep k7 C.ol (fun b hb => by simpa using C.xl b hb)
    have hgo : q.go = true := by
      have hg := j.go
      rw [List.drop_eq_nil_of_le (by rw [hrs.ln]; omega)] at hg
      exact hg
    refine TriR.of (wC_sound false _ Le ?_)
    obtain ⟨v6, r6⟩ := le7.b6
    obtain ⟨_, ea, la, ga⟩ := id r6
    refine Exists.intro _ (Exists.intro _ (Exists.intro _ (And.intro ga (And.intro (by show lo ≤ H2.next; omega) (And.intro rfl (And.intro rfl (And.intro (by simp) ?_)))))))
    intro H8 hH8
    obtain ⟨k8, n8, c8⟩ := up_facts r6 hH8
    have hd8 : H8.t.get H4.next = some (.dfr (some [])) := by
      have hd7 := le7.dfr
      rw [k8.2 _ hd7.1 (by show H4.next ∉ [H2.next]; simp; omega)]
      exact hd7.2
    have kp8 : Keep H H8 p.W := (j.kp.new k7 (fun b hb => .inr (by simp at hb; omega))).new k8 (fun b hb => .inr (by have hb : b = H2.next := (by simpa using hb); omega))
    refine ⟨H4.next, 83, #[pt H2.next], rfl, by omega, hd8, fun H9 hn9 hs9 => Or.inl ⟨.inr rfl, H9, ?_⟩⟩
    obtain ⟨d9, r9, k9⟩ := fin0 H8 H9 (.bool true) (by rw [hgo]) c8 kp8 hn9 hs9
    exact ⟨d9, _, hres _ _ rfl r9, rfl, k9⟩
  · refine Or.inl ⟨_, H6, callX_func rfl (by simpa using h6), .done, some .ret, _, f.lp, by simp, ?_⟩
    intro H7 s7
    have k7 := s7.keep
    have hd7 : H7.t.get H4.next = some (.dfr (some [])) := by
      have hd := f.dfr
      rw [k7.2 _ hd.1 (by show H4.next ∉ [H4.next + 1]; simp)]
      exact hd.2
    have c7 : Cl H7 H2.next [.bool false] := k7.cl f.b6 (by show H2.next ∉ [H4.next + 1]; simp; omega)
    have kp7 : Keep H H7 p.W := f.kp.new k7 (fun b hb => .inr (by simp at hb; omega))
    refine ⟨H4.next, 83, #[pt H2.next], rfl, by omega, hd7, fun H9 hn9 hs9 => Or.inl ⟨.inr rfl, H9, ?_⟩⟩
    obtain ⟨d9, r9, k9⟩ := fin0 H7 H9 (.bool false) (by rw [f.go]) c7 kp7 hn9 hs9
    exact ⟨d9, _, hres _ _ rfl r9, rfl, k9⟩
  · refine Or.inr ⟨_, H6, callP_func rfl (by simpa using h6), ?_⟩
    have hd6 : H6.t.get H4.next = some (.dfr (some [])) := g.dfr.2
    refine ⟨H4.next, 83, #[pt H2.next], rfl, by omega, hd6, fun H9 hn9 hs9 => Or.inr ⟨shortV, rfl, ?_⟩⟩
    obtain ⟨H10, d10, r10, k10⟩ := fin H6 g H9 hn9 hs9
    exact ⟨H10, d10, _, hres _ _ rfl r10, rfl, k10⟩
end
end Go.Ax
namespace Go.Ax
open Go Go.RowKit Go.Proofs
theorem wrap_u64 {x : Int} (h1 : 0 ≤ x) (h2 : x < 9223372036854775808) : IntKind.u64.wrap x = x := by
  unfold IntKind.wrap IntKind.bits IntKind.signed
  simp
  omega
theorem conv_u (x : Int) (h1 : 0 ≤ x) (h2 : x < 9223372036854775808) {S : Rg} {n : Nat} {o : Operand} {d : Option Nat} (hx : evS S o = some (.int .i64 x)) : pureOp Try.prog (frS n S) ⟨d, .convert 3 138 o, 138, "", #[], none⟩ = some (.int .u64 x) := by
  have e : prun Try.prog (Go.convert 3 138 (.int .i64 x)) = some (.int .u64 (IntKind.u64.wrap x)) := by kernel_rfl
  unfold pureOp
  simp only [ev_frS, hx, flat, flat1, cond_true, e, wrap_u64 h1 h2]
theorem conv_i (x : Int) (h1 : 0 ≤ x) (h2 : x < 9223372036854775808) {S : Rg} {n : Nat} {o : Operand} {d : Option Nat} (hx : evS S o = some (.int .u64 x)) : pureOp Try.prog (frS n S) ⟨d, .convert 138 3 o, 3, "", #[], none⟩ = some (.int .i64 x) := by
  have e : prun Try.prog (Go.convert 138 3 (.int .u64 x)) = some (.int .i64 (IntKind.i64.wrap x)) := by kernel_rfl
  unfold pureOp
  simp only [ev_frS, hx, flat, flat1, cond_true, e, wrap_i64 ⟨(by omega), h2⟩]
theorem half_u (x : Int) (h1 : 0 ≤ x) {S : Rg} {n : Nat} {o : Operand} {d : Option Nat} (hx : evS S o = some (.int .u64 x)) : pureOp Try.prog (frS n S) ⟨d, .binOp .shr 138 o (.const (.int .u64 1)) 138, 138, "", #[], none⟩ = some (.int .u64 (x / 2)) := by
  have e : prun Try.prog (do eqGuard .shr 138 o (.const (.int .u64 1)) (.int .u64 x) (.int .u64 1); Go.binOp .shr 138 (.int .u64 x) (.int .u64 1)) = some (.int .u64 (x.fdiv 2)) := by rfl
  unfold pureOp
  have hc : evS S (.const (.int .u64 1)) = some (.int .u64 1) := rfl
  simp only [ev_frS, hx, hc, flat, flat1, cond_true, Bool.and_self, e]
  rw [Int.fdiv_eq_ediv_of_nonneg x (by omega)]

section
variable {kn : FuncId → Option Bool} {lo : Nat} {H : Hp}
theorem search_ok {n be : Nat} (g : Nat → Bool) (hn : n ≤ 1099511627776) (hf : ∀ k H1, Keep H H1 [] → k < n → ∃ H2, CallsX Try.prog kn lo (.fn (.func 65) #[pt be]) [iv k] H1 (.bool (!g (k + 1))) H2 ∧ Keep H1 H2 []) :
    ∃ (m : Nat) (H' : Hp), FnX Try.prog kn lo 64 [iv n, .func (.func 65) #[] #[pt be]] H (iv m) H' ∧ Keep H H' [] ∧ m ≤ n ∧ (m = 0 ∨ g m = true) ∧ (m = n ∨ g (m + 1) = false) := by
  have key := fnX_low (kn := kn) (lo := lo) (H := H) (args := [iv n, .func (.func 65) #[] #[pt be]]) (Q := fun v H' => ∃ m : Nat, v = iv m ∧ Keep H H' [] ∧ m ≤ n ∧ (m = 0 ∨ g m = true) ∧ (m = n ∨ g (m + 1) = false)) Try.func64 B64 N64 Z64 L64 (by simp) ?_
  · obtain ⟨v, H', h, m, rfl, q⟩ := key; exact ⟨m, H', h, q⟩
  refine loop_low (fn := Try.f64) E64_1 N64 L64x1 (fun a : Nat × Nat => [(1, .func (.func 65) #[] #[pt be]), (5, iv a.1), (6, iv a.2)])
    (fun k a H1 => k = a.2 - a.1 ∧ a.1 ≤ a.2 ∧ a.2 ≤ n ∧ (a.1 = 0 ∨ g a.1 = true) ∧ (a.2 = n ∨ g (a.2 + 1) = false) ∧ Keep H H1 []) (n - 0) (0, n) ⟨rfl, Nat.zero_le _, Nat.le_refl _, .inl rfl, .inl rfl, Keep.refl _ _⟩ ⟨rfl, rfl, rfl, trivial⟩ ?_
  rintro k ⟨i, j⟩ H1 ⟨rfl, hij, hjn, hi, hj, hk⟩
  simp only at hij hjn hi hj
  refine And.intro (fun hlt => ?_) (fun hge => ?_)
  · have hlt : i < j := by have := of_decide_eq_true (show decide ((i : Int) < (j : Int)) = true from hlt); omega
    refine And.intro (show InR ((i : Int) + j) from ⟨by omega, by omega⟩) ?_
    refine And.intro rfl (Exists.intro _ (And.intro (conv_u ((i : Int) + j) (by omega) (by omega) rfl) ?_))
    refine And.intro rfl (Exists.intro _ (And.intro (half_u ((i : Int) + j) (by omega) rfl) ?_))
    refine And.intro rfl (Exists.intro _ (And.intro (conv_i (((i : Int) + j) / 2) (by omega) (by omega) rfl) ?_))
    have e : ((i : Int) + j) / 2 = (((i + j) / 2 : Nat) : Int) := by omega
    rw [e]
    have h1 : i ≤ (i + j) / 2 := by omega
    have h2 : (i + j) / 2 < j := by omega
    generalize (i + j) / 2 = h at h1 h2
    obtain ⟨H2, f2, k2⟩ := hf h H1 hk (by omega)
    refine Exists.intro _ (Exists.intro _ (And.intro f2 ?_))
    refine And.intro rfl (Exists.intro (.bool (!(!g (h + 1)))) (And.intro rfl ?_))
    rw [Bool.not_not]
    cases hg : g (h + 1) with
    | true =>
      refine condT ?_
      refine And.intro ⟨by omega, by omega⟩ ?_
      refine ⟨j - (h + 1), (h + 1, j), by simp only; omega, ⟨rfl, by simp only; omega, hjn, .inr hg, hj, hk.trans k2⟩, rfl, ?_, rfl, trivial⟩
      show some (iv ((h : Int) + 1)) = some (iv ((h + 1 : Nat) : Int))
      simp
    | false =>
      refine condF ?_
      exact ⟨h - i, (i, h), by simp only; omega, ⟨rfl, h1, by simp only; omega, hi, .inr hg, hk.trans k2⟩, rfl, rfl, rfl, trivial⟩
  · have hge : ¬ i < j := by have := of_decide_eq_false (show decide ((i : Int) < (j : Int)) = false from hge); omega
    have hij : i = j := by omega
    subst hij
    exact And.intro trivial (Exists.intro _ (And.intro rfl ⟨i, rfl, hk, hjn, hi, hj⟩))
end
end Go.Ax
namespace Go.Ax
open Go Go.RowKit Go.Proofs
structure MQ where
  c : Ch
  la : Option Addr
  ln : Nat
  lcap : Nat
  hs : List Hr
  ma : Option Addr
  mn : Nat
  mcap : Nat
  ms : List Int
  pond : Int
def MQ.g (q : MQ) (a : Nat) : Bool := goGo q.c q.ms ⟨q.pond, a⟩ q.c.gs (s0 false q.c) q.hs
structure MQ.At (q : MQ) (H : Hp) : Prop where
  c : q.c.At H
  l : Sl H q.la q.ln q.lcap (hrc q.hs)
  ln : q.hs.length = q.ln
  h : ∀ h ∈ q.hs, h.At H
  m : Sl H q.ma q.mn q.mcap (ints q.ms)
  ml : q.ms.length = q.mn
theorem MQ.At.keep {q : MQ} {H H1 : Hp} (a : q.At H) (k : Keep H H1 []) : q.At H1 := ⟨a.c.keep k, k.sl0 a.l, a.ln, fun h hm => (a.h h hm).keep k, k.sl0 a.m, a.ml⟩
/-- What Most has seen to before. -/
structure MQ.Vd (q : MQ) : Prop where
  c : q.c.Vd
  ln : q.ln ≤ 200
  hv : ∀ h ∈ q.hs, hourB h q.c.pn q.c.gn = true
  mn : q.mn = q.c.pn
  p : indexB q.pond q.c.pn = true
/-- The arguments of Most, boxed. -/
structure MB (q : MQ) (bc bw bl bm bp : Nat) (H : Hp) : Prop where
  c : Rd H bc [.slice q.c.pa q.c.pn q.c.pcap, .slice q.c.ga q.c.gn q.c.gcap]
  w : Rd H bw [q.c.wv]
  l : Rd H bl [.slice q.la q.ln q.lcap]
  m : Rd H bm [.slice q.ma q.mn q.mcap]
  p : Rd H bp [iv q.pond]
theorem MB.keep {q : MQ} {bc bw bl bm bp : Nat} {H H1 : Hp} (a : MB q bc bw bl bm bp H) (k : Keep H H1 []) : MB q bc bw bl bm bp H1 := ⟨k.rd a.c (by simp), k.rd a.w (by simp), k.rd a.l (by simp), k.rd a.m (by simp), k.rd a.p (by simp)⟩
theorem Crs.geL {c : Ch} {g : Bool} {L : Nat} {p : Wh} {H : Hp} {gs : List Gt} {s : St} (h : Crs c g L p H gs s) {b : Nat} (hb : b ∈ p.W) : L ≤ b := by
  rcases Nat.lt_or_ge b L with w | w
  · exact absurd hb (h.off w)
  · exact w

section
variable {kn : FuncId → Option Bool} {lo : Nat} {H : Hp}
theorem enough_ok {q : MQ} {bc bw bl bm bp : Nat} {a : Nat} (hq : q.At H) (v : q.Vd) (hb : MB q bc bw bl bm bp H) (ha : a ≤ 68719476736) (hlo : lo ≤ H.next) :
    ∃ H', FnX Try.prog kn lo 62 [iv a, pt bp, pt bc, pt bw, pt bl, pt bm] H (.bool (q.g a)) H' ∧ Keep H H' [] := by
  have key := fnX_low (kn := kn) (lo := lo) (H := H) (args := [iv a, pt bp, pt bc, pt bw, pt bl, pt bm]) (Q := fun v H' => v = .bool (q.g a) ∧ Keep H H' []) Try.func62 B62 N62 Z62 L62 (by simp) ?_
  · obtain ⟨v, H', h, rfl, k⟩ := key; exact ⟨H', h, k⟩
  refine Exists.intro _ (Exists.intro _ (And.intro hb.p.of (And.intro rfl ?_)))
  refine And.intro rfl (Exists.intro (.agg #[iv q.pond, iv a]) (And.intro (by kernel_rfl) ?_))
  intro H1 hH1
  obtain ⟨k1, n1, c1⟩ := new_facts hH1
  obtain ⟨_, e1, l1, g1⟩ := id c1
  refine Exists.intro _ (Exists.intro _ (Exists.intro _ (And.intro g1 (And.intro (by omega) (And.intro rfl (And.intro rfl (And.intro (by simp) ?_)))))))
  intro H2 hH2
  obtain ⟨k2, n2, c2⟩ := up_facts c1 hH2
  have c2 : Cl H2 H.next [iv q.pond, iv a] := c2
  have k02 : Keep H H2 [] := k1.new k2 (by simp)
  have hb2 := hb.keep k02
  have hq2 := hq.keep k02
  have hn02 := k02.1
  refine Exists.intro _ (Exists.intro _ (And.intro hb2.c.of (And.intro (show row 2 [_, _] _ = some [.slice q.c.pa q.c.pn q.c.pcap, .slice q.c.ga q.c.gn q.c.gcap] from rfl) (And.intro hb2.c.lt ?_))))
  refine Exists.intro _ (Exists.intro _ (And.intro hb2.w.of (And.intro rfl (And.intro hb2.w.lt ?_))))
  refine And.intro rfl (Exists.intro (.agg #[.bool false]) (And.intro (by kernel_rfl) ?_))
  refine And.intro rfl (Exists.intro (bdv false) (And.intro (by kernel_rfl) ?_))
  obtain ⟨p, H3, h3, k3, crs⟩ := crs_start (kn := kn) (lo := H2.next) (H := H2) (g := false) hq2.c v.c
  refine Exists.intro _ (Exists.intro _ (And.intro (callX_args h3) ?_))
  have hb3 := hb2.keep k3
  have hn3 := k3.1
  refine Exists.intro _ (Exists.intro _ (And.intro hb3.l.of (And.intro rfl (And.intro hb3.l.lt ?_))))
  have c3 := k3.cl c2 (by simp)
  refine Exists.intro _ (Exists.intro _ (And.intro c3.of (And.intro (show row 2 [_, _] _ = some [iv q.pond, iv a] from rfl) (And.intro c3.lt ?_))))
  obtain ⟨H4, hH4⟩ : ∃ H4, H3.new (.cells [iv q.pond, iv a] 86 false) = H4 := ⟨_, rfl⟩
  refine And.intro rfl (Or.inr (And.intro (by kernel_rfl) (Exists.intro (.slice (some ⟨H3.next, 0, none⟩) 1 1) (Exists.intro H4 (Exists.intro .heavy (And.intro ((heap_build1 (v := .agg #[iv q.pond, iv a]) se28 z86 rfl rfl rfl (by decide)).trans (by rw [← hH4]; rfl)) (And.intro (fun b e => by cases e) ?_)))))))
  obtain ⟨k4, n4, c4⟩ := new_facts hH4
  obtain ⟨b1, b2, H5, h5, k5, hb1, hb2', d1, d2⟩ := hours2_ok (kn := kn) (lo := H4.next) (H := H4) (la := q.la) (ln := q.ln) (lcap := q.lcap) (ma := some ⟨H3.next, 0, none⟩) (mn := 1) (mcap := 1)
  refine Exists.intro _ (Exists.intro _ (And.intro (callX_args h5) ?_))
  have k35 := k4.trans k5
  have hb5 := hb3.keep k35
  refine Exists.intro _ (Exists.intro _ (And.intro hb5.m.of (And.intro rfl (And.intro hb5.m.lt ?_))))
  have k25 := k3.trans k35
  have k05 := k02.trans k25
  have hq5 := hq.keep k05
  have hn4 := k4.1
  have hn5 := k5.1
  have crs5 := crs.keep k35
  have lt0 : ∀ b, b < H.next → b ∉ p.W := fun b h => crs.off (by omega)
  let G : GQ := ⟨q.c, q.la, q.ln, q.lcap, q.hs, q.ma, q.mn, q.mcap, q.ms, some ⟨H3.next, 0, none⟩, 1, ⟨q.pond, a⟩⟩
  obtain ⟨H6, h6, k6⟩ := suff_ok (kn := kn) (lo := lo) (H := H5) (q := G) (L := H2.next) (p := p) (b1 := b1) (b2 := b2) crs5 v.c ⟨d1, d2, hq5.l, hq.ln, hq5.h, .inr ⟨H3.next, rfl, (k5.cl c4 (by simp)).rd, Nat.le_refl _⟩⟩ hq5.m v.ln v.hv v.mn hq.ml
    (by omega) (by omega) (crs.offNew (by omega)) (crs.offNew (by omega)) ⟨fun b e => lt0 b (hq.c.p.lt b e), fun b e => lt0 b (hq.l.lt b e), fun b e => lt0 b (hq.m.lt b e), fun b e => by cases e; exact crs.offNew (Nat.le_refl _), fun h hm => ⟨fun b e => lt0 b ((hq.h h hm).b.lt b e), fun b e => lt0 b ((hq.h h hm).c.lt b e), fun b e => lt0 b ((hq.h h hm).t.lt b e)⟩⟩ v.p (by show waterB ((a : Nat) : Int) = true; simp only [waterB, Bool.and_eq_true, decide_eq_true_eq]; omega)
  refine Exists.intro _ (Exists.intro _ (And.intro (callX_args h6) ?_))
  refine And.intro (by repeat' first | exact True.intro | exact (fun h => h) | refine And.intro ?_ ?_) ?_
  refine And.intro trivial (Exists.intro _ (And.intro rfl ⟨rfl, ?_⟩))
  exact k05.new k6 (fun b hb => .inr (by have := crs.geL hb; omega))
/-- the closure that Search asks -/
theorem most2_ok {q : MQ} {bc bw bl bm bp be : Nat} {a : Nat} (hq : q.At H) (v : q.Vd) (hb : MB q bc bw bl bm bp H) (he : Rd H be [.func (.func 62) #[] #[pt bp, pt bc, pt bw, pt bl, pt bm]]) (ha : a < 68719476736) (hlo : lo ≤ H.next) :
    ∃ H', FnX Try.prog kn lo 65 [iv a, pt be] H (.bool (!q.g (a + 1))) H' ∧ Keep H H' [] := by
  have key := fnX_low (kn := kn) (lo := lo) (H := H) (args := [iv a, pt be]) (Q := fun v H' => v = .bool (!q.g (a + 1)) ∧ Keep H H' []) Try.func65 B65 N65 Z65 L65 (by simp) ?_
  · obtain ⟨v, H', h, rfl, k⟩ := key; exact ⟨H', h, k⟩
  refine Exists.intro _ (Exists.intro _ (And.intro he.of (And.intro rfl ?_)))
  refine And.intro (show InR ((a : Int) + 1) from ⟨by omega, by omega⟩) ?_
  obtain ⟨H1, h1, k1⟩ := enough_ok (kn := kn) (lo := lo) (a := a + 1) hq v hb (by omega) hlo
  rw [show ((a : Int) + 1) = ((a + 1 : Nat) : Int) by simp]
  refine Exists.intro _ (Exists.intro _ (And.intro (callX_func rfl (by simpa using h1)) ?_))
  refine And.intro rfl (Exists.intro (.bool (!q.g (a + 1))) (And.intro rfl ?_))
  exact And.intro trivial (Exists.intro _ (And.intro rfl ⟨rfl, k1⟩))
end
end Go.Ax
namespace Go.Ax
open Go Go.RowKit Go.Proofs
/-- All goes well with so much, and not with one litre more. -/
def MQ.is (q : MQ) (m : Nat) : Prop := m ≤ 68719476736 ∧ q.g m = true ∧ (m = 68719476736 ∨ q.g (m + 1) = false)
def MQ.args (q : MQ) : Bool := leastB q.c.ponds q.ms q.c.pn q.mn && indexB q.pond q.c.pn
/-- What Most returns. -/
def MQ.res (q : MQ) (n e : Int) : Prop :=
  (checkE q.c q.hs q.ln ≠ 0 ∧ n = 0 ∧ e = checkE q.c q.hs q.ln) ∨ (checkE q.c q.hs q.ln = 0 ∧ q.args = false ∧ n = 0 ∧ e = 2) ∨ (checkE q.c q.hs q.ln = 0 ∧ q.args = true ∧ q.g 0 = false ∧ n = 0 ∧ e = 4) ∨
    (checkE q.c q.hs q.ln = 0 ∧ q.args = true ∧ e = 0 ∧ ∃ m : Nat, n = m ∧ q.is m)
theorem MQ.vd {q : MQ} {H : Hp} (hq : q.At H) (he : checkE q.c q.hs q.ln = 0) (ha : q.args = true) : q.Vd := by
  have hok : q.c.ok = true ∧ q.ln ≤ 200 ∧ ∀ h ∈ q.hs, hourB h q.c.pn q.c.gn = true := by
    unfold checkE at he
    split at he
    · omega
    · rename_i w
      split at he
      · rename_i w2
        simp only [Bool.and_eq_true] at w2
        exact ⟨w2.1, by omega, List.all_eq_true.1 w2.2⟩
      · omega
  obtain ⟨ok1, ok2, ok3⟩ := hok
  simp only [MQ.args, Bool.and_eq_true] at ha
  refine ⟨Ch.vd ok1 hq.c.lp hq.c.lg hq.c.lw, ok2, ok3, ?_, ha.2⟩
  have ht := ha.1
  simp only [leastB, Bool.and_eq_true] at ht
  have := ht.1; simp at this; omega

section
variable {kn : FuncId → Option Bool} {lo : Nat} {H : Hp}
theorem most_ok {q : MQ} (hq : q.At H) (hlo : lo ≤ H.next) :
    ∃ n e H', FnX Try.prog kn lo 29 [q.c.cv, q.c.wv, .slice q.la q.ln q.lcap, .slice q.ma q.mn q.mcap, iv q.pond] H (.tuple #[iv n, iv e]) H' ∧ Keep H H' [] ∧ q.res n e := by
  have key := fnX_low (kn := kn) (lo := lo) (H := H) (args := [q.c.cv, q.c.wv, .slice q.la q.ln q.lcap, .slice q.ma q.mn q.mcap, iv q.pond]) (Q := fun v H' => ∃ n e, v = .tuple #[iv n, iv e] ∧ Keep H H' [] ∧ q.res n e) Try.func29 B29 N29 Z29 L29 (by simp) ?_
  · obtain ⟨v, H', h, n, e, rfl, k⟩ := key; exact ⟨n, e, H', h, k⟩
  intro H1 hH1; obtain ⟨k1, n1, c1⟩ := new_facts hH1; clear hH1
  intro H2 hH2; obtain ⟨k2, n2, c2⟩ := new_facts hH2; clear hH2
  intro H3 hH3; obtain ⟨k3, n3, c3⟩ := new_facts hH3; clear hH3
  intro H4 hH4; obtain ⟨k4, n4, c4⟩ := new_facts hH4; clear hH4
  intro H5 hH5; obtain ⟨k5, n5, c5⟩ := new_facts hH5; clear hH5
  have k05 : Keep H H5 [] := k1.trans (k2.trans (k3.trans (k4.trans k5)))
  have hb5 : MB q H.next H1.next H2.next H3.next H4.next H5 := ⟨(k5.cl (k4.cl (k3.cl (k2.cl c1 (by simp)) (by simp)) (by simp)) (by simp)).rd, (k5.cl (k4.cl (k3.cl c2 (by simp)) (by simp)) (by simp)).rd, (k5.cl (k4.cl c3 (by simp)) (by simp)).rd, (k5.cl c4 (by simp)).rd, c5.rd⟩
  have hq5 := hq.keep k05
  have hn05 := k05.1
  refine Exists.intro _ (Exists.intro _ (And.intro hb5.c.of (And.intro (show row 2 [_, _] _ = some [.slice q.c.pa q.c.pn q.c.pcap, .slice q.c.ga q.c.gn q.c.gcap] from rfl) ?_)))
  refine Exists.intro _ (Exists.intro _ (And.intro hb5.w.of (And.intro rfl ?_)))
  refine Exists.intro _ (Exists.intro _ (And.intro hb5.l.of (And.intro rfl ?_)))
  obtain ⟨H6, h6, k6⟩ := check_ok (kn := kn) (lo := lo) (H := H5) hq5.c hq5.l hq.ln hq5.h (by omega)
  refine Exists.intro _ (Exists.intro _ (And.intro (callX_args h6) ?_))
  have k06 := k05.trans k6
  by_cases he : checkE q.c q.hs q.ln = 0
  rotate_left
  · refine And.intro (fun _ => ?_) (fun w => absurd (show checkE q.c q.hs q.ln = 0 by simpa using w) he)
    exact And.intro trivial (Exists.intro _ (And.intro rfl ⟨0, _, rfl, k06, .inl ⟨he, rfl, rfl⟩⟩))
  refine And.intro (fun w => absurd he (show checkE q.c q.hs q.ln ≠ 0 by simpa using w)) (fun _ => ?_)
  have hb6 := hb5.keep k6
  have hq6 := hq.keep k06
  have hn6 := k6.1
  have h16 : q.c.pn ≤ 16 := by
    unfold checkE at he
    split at he
    · omega
    · split at he
      · rename_i w2
        simp only [Bool.and_eq_true] at w2
        exact (Ch.vd w2.1 hq.c.lp hq.c.lg hq.c.lw).h16
      · omega
  refine Exists.intro _ (Exists.intro _ (And.intro hb6.c.of (And.intro (show row 2 [_, _] _ = some [.slice q.c.pa q.c.pn q.c.pcap, .slice q.c.ga q.c.gn q.c.gcap] from rfl) ?_)))
  refine Exists.intro _ (Exists.intro _ (And.intro hb6.m.of (And.intro rfl ?_)))
  refine callB (least_ok (lo := lo) hq6.c.p hq6.c.lp hq6.m hq.ml (by omega) (by omega)) ?_
  intro t H7 ht k7
  refine And.intro rfl (Exists.intro (.bool (!t)) (And.intro rfl ?_))
  cases t
  · refine And.intro rfl (Exists.intro (.bool true) (And.intro rfl ?_))
    refine condT ?_
    exact And.intro trivial (Exists.intro _ (And.intro rfl ⟨0, 2, rfl, k06.trans k7, .inr (.inl ⟨he, by unfold MQ.args; rw [ht]; rfl, rfl, rfl⟩)⟩))
  have hb7 := hb6.keep k7
  have hn7 := k7.1
  refine Exists.intro _ (Exists.intro _ (And.intro hb7.p.of (And.intro rfl ?_)))
  refine Exists.intro _ (Exists.intro _ (And.intro hb7.c.of (And.intro rfl ?_)))
  refine callB (index_ok (lo := lo)) ?_
  intro u H8 hu k8
  refine And.intro rfl (Exists.intro (.bool (!u)) (And.intro rfl ?_))
  refine And.intro rfl (Exists.intro (.bool (!u)) (And.intro rfl ?_))
  have k08 := (k06.trans k7).trans k8
  cases u
  · refine condT ?_
    exact And.intro trivial (Exists.intro _ (And.intro rfl ⟨0, 2, rfl, k08, .inr (.inl ⟨he, by unfold MQ.args; rw [ht, hu]; rfl, rfl, rfl⟩)⟩))
  refine condF ?_
  have ha : q.args = true := by unfold MQ.args; rw [ht, hu]; rfl
  have v := MQ.vd hq he ha
  have hb8 := hb7.keep k8
  have hn8 := k8.1
  refine And.intro rfl (Exists.intro (.func (.func 62) #[] #[pt H4.next, pt H.next, pt H1.next, pt H2.next, pt H3.next]) (And.intro rfl ?_))
  intro H9 hH9
  obtain ⟨k9, n9, c9⟩ := new_facts hH9
  obtain ⟨_, e9, l9, g9⟩ := id c9
  refine Exists.intro _ (Exists.intro _ (Exists.intro _ (And.intro g9 (And.intro (by omega) (And.intro rfl (And.intro rfl (And.intro (by simp) ?_)))))))
  intro H10 hH10
  obtain ⟨k10, n10, c10⟩ := up_facts c9 hH10
  have c10 : Cl H10 H8.next [.func (.func 62) #[] #[pt H4.next, pt H.next, pt H1.next, pt H2.next, pt H3.next]] := c10
  have k810 : Keep H8 H10 [] := k9.new k10 (by simp)
  have k010 := k08.trans k810
  have hb10 := hb8.keep k810
  have hq10 := hq.keep k010
  have hn10 := k810.1
  refine Exists.intro _ (Exists.intro _ (And.intro c10.of (And.intro rfl ?_)))
  obtain ⟨H11, h11, k11⟩ := enough_ok (kn := kn) (lo := lo) (H := H10) (a := 0) hq10 v hb10 (by omega) (by omega)
  refine Exists.intro _ (Exists.intro _ (And.intro (callX_func rfl (by simpa using h11)) ?_))
  refine And.intro rfl (Exists.intro (.bool (!q.g 0)) (And.intro rfl ?_))
  cases hg : q.g 0 with
  | false =>
    refine condT ?_
    exact And.intro trivial (Exists.intro _ (And.intro rfl ⟨0, 4, rfl, k010.trans k11, .inr (.inr (.inl ⟨he, ha, hg, rfl, rfl⟩))⟩))
  | true =>
    refine condF ?_
    refine And.intro rfl (Exists.intro (.func (.func 65) #[] #[pt H8.next]) (And.intro rfl ?_))
    have hn11 := k11.1
    have c11 := k11.cl c10 (by simp)
    obtain ⟨m, H12, h12, k12, m1, m2, m3⟩ := search_ok (kn := kn) (lo := lo) (H := H11) (n := 68719476736) (be := H8.next) q.g (by omega) (fun k H1' kk hk => by
      have hb' := (hb10.keep k11).keep kk
      have hq' := (hq10.keep k11).keep kk
      obtain ⟨H2', h2, k2'⟩ := most2_ok (kn := kn) (lo := lo) (H := H1') (a := k) hq' v hb' (kk.cl c11 (by simp)).rd hk (by have := kk.1; omega)
      exact ⟨H2', callX_func rfl (by simpa using h2), k2'⟩)
    refine Exists.intro _ (Exists.intro _ (And.intro (callX_args h12) ?_))
    refine And.intro trivial (Exists.intro _ (And.intro rfl ⟨(m : Int), 0, rfl, (k010.trans k11).trans k12, .inr (.inr (.inr ⟨he, ha, rfl, m, rfl, m1, ?_, m3⟩))⟩))
    rcases m2 with rfl | h
    · exact hg
    · exact h
end
end Go.Ax

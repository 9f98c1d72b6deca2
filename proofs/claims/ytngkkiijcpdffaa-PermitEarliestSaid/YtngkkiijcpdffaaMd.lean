import Derived.Test.YtngkkiijcpdffaaMc
import Derived.Test.YtngkkiijcpdffaaChecked
set_option linter.all false
/-! What 'low' makes of functions of pool (written by program). -/
namespace Go.Ax
open Go Go.RowKit Go.Proofs
noncomputable def qB:List Value:=match Ym Try.prog 115 with | some z=>z.cells.toList | none=>[]
theorem N9:Try.f9.ntmps=231:=by kernel_rfl
theorem Z9:Try.f9.results.toList=(#[(.tmp 18)]:Array ResultVar).toList:=by kernel_rfl
theorem B9:Try.f9.body=some (at_ Try.f9 []):=by kernel_rfl
noncomputable def R9:RC:=(.seq (.reg [oF 18])
 (.seq (.seq (.reg [oM 30 0,oW 31 30,oB 32 .gtr 31 20,oM 33 32,oG 34 33 false 1,⟨some 35,some (33,false),(.len (.tmp 34))⟩,oBg 36 33 false .gtr 35 40,oO 37 33 36,oM 38 37,oG 39 38 false 7,⟨some 40,some (38,false),(.len (.tmp 39))⟩,oBg 41 38 false .eql 40 0,oO 42 38 41])
 (.cond (.tmp 42) (.seq (.reg [oC 43 11 #[] #[],oM 18 43])
 .ret)
 .skip))
 (.seq (.reg [oM 45 0,oM 46 1,oM 47 2,oM 48 3,oM 49 4,oM 50 5,oM 51 6,oC 52 22 #[(.tmp 45),(.tmp 46),(.tmp 47),(.tmp 48),(.tmp 49),(.tmp 50),(.tmp 51)] #[42,43,3,3,3,3,3],oM 44 52,oE 53 44 0 42,oE 54 44 1 24,oM 19 53,oM 20 54])
 (.seq (.seq (.reg [oM 55 20,oB 56 .neq 55 0,oM 57 56,oG 58 57 true 20,oBg 59 57 true .neq 58 4,oA 60 57 59])
 (.cond (.tmp 60) (.seq (.reg [oM 61 19,oW 62 61,oB 63 .eql 62 0,oM 64 63,oH 65 64 true 11 #[] #[],oA 66 64 65,oM 18 66])
 .ret)
 .skip))
 (.seq (.seq (.reg [oM 67 3, oB 68 .lss 67 1, oM 69 68, oG 70 69 false 5, oBg 71 69 false .lss 70 0, oO 72 69 71, oM 73 72, oG 74 73 false 5, oBg 75 73 false .gtr 74 16384, oO 76 73 75, oM 77 76, oG 78 77 false 20, oBg 79 77 false .eql 78 0, oG 80 77 false 79, oG 81 80 true 0, oG 82 80 true 19, oG 83 80 true 1, oG 84 80 true 2, oG 85 80 true 3, oG 86 80 true 4, oG 87 80 true 5, oG 88 80 true 6, oH 89 80 true 28 #[(.tmp 81), (.tmp 82), (.tmp 83), (.tmp 84), (.tmp 85), (.tmp 86), (.tmp 87), (.tmp 88)] #[42, 42, 43, 3, 3, 3, 3, 3], oV 90 80 true 89, ⟨some 91, some (77, false), (.pur ⟨some 91, (.pick (.tmp 80) (.tmp 90) (.const (.bool false))), 4, "", #[], none⟩)⟩, oO 92 77 91, oM 93 92, oG 94 93 false 20, oBg 95 93 false .neq 94 0, oG 96 93 false 95, oG 97 96 true 19, ⟨some 98, some (96, true), (.len (.tmp 97))⟩, oBg 99 96 true .gtr 98 0, ⟨some 100, some (93, false), (.pur ⟨some 100, (.pick (.tmp 96) (.tmp 99) (.const (.bool false))), 4, "", #[], none⟩)⟩, oO 101 93 100])
 (.cond (.tmp 101) (.seq (.reg [oF 18])
 .ret)
 .skip))
 (.seq (.reg [⟨some 21,none,.mov (.const (.slice none 0 0))⟩])
 (.seq (.reg [oM 102 5,oM 22 102])
 (.seq (.seq (.reg [oN 23 0])
 (.block 0 (.other (at_ Try.f9 [1,1,1,1,1,1,1,0,1,0]))))
 (.seq (.seq (.reg [oM 128 0,oM 129 21,oM 130 1,oM 131 2,oM 132 3,oM 133 4,oM 134 5,oM 135 6,oC 136 28 #[(.tmp 128),(.tmp 129),(.tmp 130),(.tmp 131),(.tmp 132),(.tmp 133),(.tmp 134),(.tmp 135)] #[42,42,43,3,3,3,3,3]])
 (.cond (.tmp 136) (.seq (.seq (.reg [oM 137 20,oQ 138 .neq 137 0])
 (.cond (.tmp 138) (.seq (.reg [oF 18])
 .ret)
 .skip))
 (.seq (.reg [oN 24 0])
 (.block 2 (.other (at_ Try.f9 [1,1,1,1,1,1,1,1,0,1,0,1,1,0])))))
 .skip))
 (.seq (.seq (.reg [oM 154 20,oB 155 .neq 154 0,oM 156 155,oG 157 156 false 0,⟨some 158,some (156,false),(.len (.tmp 157))⟩,oBg 159 156 false .eql 158 0,oO 160 156 159])
 (.cond (.tmp 160) (.seq (.reg [oC 161 11 #[] #[],oM 18 161])
 .ret)
 .skip))
 (.seq (.reg [oM 163 0, oM 164 1, oM 165 2, oM 166 3, oM 167 4, oM 168 8, ⟨some 169, none, (.pur ⟨some 169, (.convert 59 3 (.tmp 168)), 3, "", #[], none⟩)⟩, oS 170 .add 167 169, ⟨some 171, none, (.mm true (.const (.int .i64 72057594037927936)) (.tmp 170))⟩, oM 172 5, oM 173 6, oC 174 22 #[(.tmp 163), (.tmp 164), (.tmp 165), (.tmp 166), (.tmp 171), (.tmp 172), (.tmp 173)] #[42, 43, 3, 3, 3, 3, 3], oM 162 174, oE 175 162 0 42, oE 176 162 1 24, oM 25 175, oM 26 176])
 (.seq (.reg [oM 178 0, oM 179 0, oW 180 179, oR 181 .sub 180 1, ⟨some 182, none, (.mem ⟨some 182, (.slice 42 (.tmp 178) none (some (.tmp 181)) none), 42, "", #[], none⟩)⟩, oM 183 1, oM 184 2, oM 185 3, oM 186 4, oM 187 5, oM 188 6, oC 189 22 #[(.tmp 182), (.tmp 183), (.tmp 184), (.tmp 185), (.tmp 186), (.tmp 187), (.tmp 188)] #[42, 43, 3, 3, 3, 3, 3], oM 177 189, oE 190 177 0 42, oE 191 177 1 24, oM 27 190, oM 28 191])
 (.seq (.seq (.reg [oM 192 26, oB 193 .neq 192 0, oM 194 193, oG 195 194 false 28, oBg 196 194 false .neq 195 0, oO 197 194 196, oM 198 197, oG 199 198 false 25, ⟨some 200, some (198, false), (.len (.tmp 199))⟩, oG 201 198 false 19, ⟨some 202, some (198, false), (.len (.tmp 201))⟩, ⟨some 203, some (198, false), (.cmpb .neq (.tmp 200) (.tmp 202))⟩, oO 204 198 203, oM 205 204, oG 206 205 false 27, oG 207 205 false 19, oG 208 205 false 19, ⟨some 209, some (205, false), (.len (.tmp 208))⟩, ⟨some 210, some (205, false), .ari .sub (.tmp 209) (.const (.int .i64 1))⟩, ⟨some 211, some (205, false), (.mem ⟨some 211, (.slice 42 (.tmp 207) none (some (.tmp 210)) none), 42, "", #[], none⟩)⟩, oH 212 205 false 24 #[(.tmp 206), (.tmp 211)] #[42, 42], oV 213 205 false 212, oO 214 205 213])
 (.cond (.tmp 214) (.seq (.reg [oF 18])
 .ret)
 .skip))
 (.seq (.seq (.reg [oN 29 0])
 (.block 4 (.other (at_ Try.f9 [1,1,1,1,1,1,1,1,1,1,1,1,1,0,1,0]))))
 (.seq (.reg [oC 230 11 #[] #[],oM 18 230])
 .ret)))))))))))))))
theorem L9:low Try.prog Try.f9.ntmps (at_ Try.f9 [])=some R9:=by kernel_rfl
theorem Zb0:at_ Try.f9 [1,1,1,1,1,1,1,0,1,0]=.loop (at_ Try.f9 [1,1,1,1,1,1,1,0,1,0,0]):=by kernel_rfl
noncomputable def R9x1:RC:=(.seq (.seq (.reg [oM 103 23,oM 104 0,oW 105 104,⟨some 106,none,(.cmp .lss (.tmp 103) (.tmp 105))⟩])
 (.cond (.tmp 106) .skip
 (.exit 0)))
 (.seq (.block 1 (.seq (.reg [oM 109 22, oM 110 7, oM 111 23, oM 112 7, oW 113 112, oS 114 .rem 111 113, oI 115 110 114 1, oL 116 115 1, ⟨some 117, none, (.pur ⟨some 117, (.convert 5 3 (.tmp 116)), 3, "", #[], none⟩)⟩, oM 118 3, oR 119 .add 118 3, oS 120 .rem 117 119, oS 121 .add 109 120, oM 22 121])
 (.seq (.reg [oM 122 21, oM 123 22, ⟨some 124, none, (.mem ⟨some 124, (.buildSlice 42 1 #[(0, (.tmp 123))]), 42, "", #[], none⟩)⟩, ⟨some 125, none, (.mem ⟨some 125, (.call ⟨(.builtin .append), #[(.tmp 122), (.tmp 124)], #[42, 42]⟩), 42, "", #[], none⟩)⟩, oM 21 125])
 (.reg [oM 126 22,oR 127 .add 126 1,oM 22 127]))))
 (.reg [oM 107 23,oR 108 .add 107 1,oM 23 108])))
theorem Zcd:low Try.prog Try.f9.ntmps (at_ Try.f9 [1,1,1,1,1,1,1,0,1,0,0])=some R9x1:=by kernel_rfl
theorem Zcf:at_ Try.f9 [1,1,1,1,1,1,1,1,0,1,0,1,1,0]=.loop (at_ Try.f9 [1,1,1,1,1,1,1,1,0,1,0,1,1,0,0]):=by kernel_rfl
noncomputable def R9x2:RC:=(.seq (.seq (.reg [oM 139 24,oM 140 21,oW 141 140,⟨some 142,none,(.cmp .lss (.tmp 139) (.tmp 141))⟩])
 (.cond (.tmp 142) .skip
 (.exit 2)))
 (.seq (.block 3 (.seq (.dreg [oM 145 21,oM 146 24,oI 147 145 146 1,oL 148 147 1,oM 149 19,oM 150 24,oI 151 149 150 1,oL 152 151 1,⟨some 153,none,(.cmp .lss (.tmp 148) (.tmp 152))⟩] [255,112,48,0,0,7,3,0,0])
 (.cond (.tmp 153) (.seq (.reg [oF 18])
 .ret)
 .skip)))
 (.reg [oM 143 24,oR 144 .add 143 1,oM 24 144])))
theorem Zcj:low Try.prog Try.f9.ntmps (at_ Try.f9 [1,1,1,1,1,1,1,1,0,1,0,1,1,0,0])=some R9x2:=by kernel_rfl
theorem Zch:at_ Try.f9 [1,1,1,1,1,1,1,1,1,1,1,1,1,0,1,0]=.loop (at_ Try.f9 [1,1,1,1,1,1,1,1,1,1,1,1,1,0,1,0,0]):=by kernel_rfl
noncomputable def R9x3:RC:=(.seq (.seq (.reg [oM 215 29,oM 216 25,oW 217 216,⟨some 218,none,(.cmp .lss (.tmp 215) (.tmp 217))⟩])
 (.cond (.tmp 218) .skip
 (.exit 4)))
 (.seq (.block 5 (.seq (.dreg [oM 221 25,oM 222 29,oI 223 221 222 1,oL 224 223 1,oM 225 19,oM 226 29,oI 227 225 226 1,oL 228 227 1,⟨some 229,none,(.cmp .gtr (.tmp 224) (.tmp 228))⟩] [255,112,48,0,0,7,3,0,0])
 (.cond (.tmp 229) (.seq (.reg [oF 18])
 .ret)
 .skip)))
 (.reg [oM 219 29,oR 220 .add 219 1,oM 29 220])))
theorem Zcb:low Try.prog Try.f9.ntmps (at_ Try.f9 [1,1,1,1,1,1,1,1,1,1,1,1,1,0,1,0,0])=some R9x3:=by kernel_rfl
theorem N11:Try.f11.ntmps=118:=by kernel_rfl
theorem Z11:Try.f11.results.toList=(#[(.tmp 0)]:Array ResultVar).toList:=by kernel_rfl
theorem B11:Try.f11.body=some (at_ Try.f11 []):=by kernel_rfl
noncomputable def R11:RC:=(.seq (.reg [oF 0])
 (.seq (.reg [oC 16 30 #[] #[],oC 17 12 #[(.tmp 16),(.const (.int .i64 6)),(.const (.int .i64 150000))] #[22,3,3],oM 15 17,oE 18 15 0 3,oE 19 15 1 3,oE 20 15 2 24,oM 1 18,oM 2 19,oM 3 20])
 (.seq (.reg [oC 22 30 #[] #[],oC 23 14 #[(.tmp 22),(.const (.int .i64 6)),(.const (.int .i64 250000)),(.const (.int .i64 13))] #[22,3,3,3],oM 21 23,oE 24 21 0 3,oE 25 21 1 24,oM 4 24,oM 5 25])
 (.seq (.reg [oC 27 31 #[(.const (.int .i64 1000)), (.const (.int .i64 2000))] #[3, 3], oC 28 31 #[(.const (.int .i64 10000)), (.const (.int .i64 11000))] #[3, 3], ⟨some 29, none, (.pur ⟨some 29, (.build 33 #[(0, (.tmp 27)), (1, (.tmp 28))]), 33, "", #[], none⟩)⟩, oC 30 31 #[(.const (.int .i64 500)), (.const (.int .i64 500))] #[3, 3], oC 31 31 #[(.const (.int .i64 20000)), (.const (.int .i64 20000))] #[3, 3], ⟨some 32, none, (.pur ⟨some 32, (.build 33 #[(0, (.tmp 30)), (1, (.tmp 31))]), 33, "", #[], none⟩)⟩, oC 33 16 #[(.tmp 29), (.tmp 32)] #[33, 33], oM 26 33, oE 34 26 0 31, oE 35 26 1 24, ⟨some 6, none, (.alc 31 [(.int .i64 0), (.int .i64 0)])⟩, ⟨none, none, (.sta (.tmp 6) (.tmp 34) 2)⟩, oM 7 35])
 (.seq (.reg [oC 37 31 #[(.const (.int .i64 1000)), (.const (.int .i64 2000))] #[3, 3], oC 38 31 #[(.const (.int .i64 10000)), (.const (.int .i64 11000))] #[3, 3], ⟨some 39, none, (.pur ⟨some 39, (.build 33 #[(0, (.tmp 37)), (1, (.tmp 38))]), 33, "", #[], none⟩)⟩, oC 40 31 #[(.const (.int .i64 20000)), (.const (.int .i64 20000))] #[3, 3], oC 41 18 #[(.tmp 39), (.tmp 40), (.const (.int .i64 13000))] #[33, 31, 3], oM 36 41, oE 42 36 0 3, oE 43 36 1 24, oM 8 42, oM 9 43])
 (.seq (.reg [⟨some 45, none, (.mem ⟨some 45, (.buildSlice 42 3 #[(0, (.const (.int .i64 60))), (1, (.const (.int .i64 60))), (2, (.const (.int .i64 60)))]), 42, "", #[], none⟩)⟩, ⟨some 46, none, .pur ⟨some 46, (.build 68 #[(0, (.const (.int .i64 4))), (1, (.const (.int .i64 8))), (2, (.const (.int .i64 9)))]), 68, "", #[], none⟩⟩, ⟨some 47, none, (.mem ⟨some 47, (.buildSlice 43 1 #[(0, (.tmp 46))]), 43, "", #[], none⟩)⟩, oC 48 22 #[(.tmp 45), (.tmp 47), (.const (.int .i64 4)), (.const (.int .i64 3)), (.const (.int .i64 100)), (.const (.int .i64 5)), (.const (.int .i64 20))] #[42, 43, 3, 3, 3, 3, 3], oM 44 48, oE 49 44 0 42, oE 50 44 1 24, oM 10 49, oM 11 50])
 (.seq (.reg [oC 52 31 #[(.const (.int .i64 1000)), (.const (.int .i64 1100))] #[3, 3], oC 53 31 #[(.const (.int .i64 500)), (.const (.int .i64 500))] #[3, 3], oC 54 31 #[(.const (.int .i64 200)), (.const (.int .i64 300))] #[3, 3], oC 55 31 #[(.const (.int .i64 40)), (.const (.int .i64 50))] #[3, 3], oC 56 31 #[(.const (.int .i64 10)), (.const (.int .i64 12))] #[3, 3], ⟨some 57, none, (.pur ⟨some 57, (.build 35 #[(0, (.tmp 52)), (1, (.tmp 53)), (2, (.tmp 54)), (3, (.tmp 55)), (4, (.tmp 56))]), 35, "", #[], none⟩)⟩, oC 58 20 #[(.tmp 57)] #[35], oM 51 58, oE 59 51 0 31, oE 60 51 1 31, oE 61 51 2 24, ⟨some 12, none, (.alc 31 [(.int .i64 0), (.int .i64 0)])⟩, ⟨some 13, none, (.alc 31 [(.int .i64 0), (.int .i64 0)])⟩, ⟨none, none, (.sta (.tmp 12) (.tmp 59) 2)⟩, ⟨none, none, (.sta (.tmp 13) (.tmp 60) 2)⟩, oM 14 61])
 (.seq (.seq (.dreg [oM 62 1, oB 63 .neq 62 15, oM 64 63, oG 65 64 false 2, oBg 66 64 false .neq 65 15, oO 67 64 66, oM 68 67, oG 69 68 false 3, oBg 70 68 false .neq 69 0, oO 71 68 70, oM 72 71, oG 73 72 false 4, oBg 74 72 false .neq 73 48000, oO 75 72 74, oM 76 75, oG 77 76 false 5, oBg 78 76 false .neq 77 0, oO 79 76 78, oM 80 79, ⟨some 81, some (80, false), .lda (.tmp 6) 2⟩, ⟨some 82, some (80, false), .call ⟨(.value (.func 31)), #[(.const (.int .i64 12000)), (.const (.int .i64 14000))], #[3, 3]⟩ false⟩, ⟨some 83, some (80, false), (.pur ⟨some 83, (.binOp .neq 31 (.tmp 81) (.tmp 82) 31), 4, "", #[], none⟩)⟩, oO 84 80 83, oM 85 84, oG 86 85 false 7, oBg 87 85 false .neq 86 0, oO 88 85 87, oM 89 88, oG 90 89 false 8, oBg 91 89 false .neq 90 285, oO 92 89 91, oM 93 92, oG 94 93 false 9, oBg 95 93 false .neq 94 0, oO 96 93 95] [17179869183, 8589934591, 4294967295, 2147483647, 1073741823, 536870911, 268435455, 134217727, 67108863, 33554431, 16777215, 8388607, 4194303, 2097151, 524287, 524287, 262143, 131071, 65535, 32767, 16383, 8191, 4095, 2047, 1023, 511, 255, 127, 63, 31, 15, 7, 3, 1, 0])
 (.cond (.tmp 96) (.seq (.reg [oF 0])
 .ret)
 .skip))
 (.seq (.dreg [oM 97 10, ⟨some 98, none, (.mem ⟨some 98, (.buildSlice 42 3 #[(0, (.const (.int .i64 5))), (1, (.const (.int .i64 10))), (2, (.const (.int .i64 13)))]), 42, "", #[], none⟩)⟩, oC 99 24 #[(.tmp 97), (.tmp 98)] #[42, 42], oM 100 99, oG 101 100 true 11, oBg 102 100 true .eql 101 0, oA 103 100 102, oM 104 103, ⟨some 105, some (104, true), .lda (.tmp 12) 2⟩, ⟨some 106, some (104, true), .call ⟨(.value (.func 31)), #[(.const (.int .i64 600)), (.const (.int .i64 1000))], #[3, 3]⟩ false⟩, ⟨some 107, some (104, true), (.pur ⟨some 107, (.binOp .eql 31 (.tmp 105) (.tmp 106) 31), 4, "", #[], none⟩)⟩, oA 108 104 107, oM 109 108, ⟨some 110, some (109, true), (.lda (.tmp 13) 2)⟩, ⟨some 111, some (109, true), .call ⟨(.value (.func 31)), #[(.const (.int .i64 400)), (.const (.int .i64 600))], #[3, 3]⟩ false⟩, ⟨some 112, some (109, true), (.pur ⟨some 112, (.binOp .eql 31 (.tmp 110) (.tmp 111) 31), 4, "", #[], none⟩)⟩, oA 113 109 112, oM 114 113, oG 115 114 true 14, oBg 116 114 true .eql 115 0, oA 117 114 116, oM 0 117] [2097151, 1048575, 524287, 262143, 131071, 65535, 32767, 8191, 8191, 4095, 2047, 1023, 255, 255, 127, 63, 31, 15, 7, 3, 0, 0])
 .ret)))))))))
theorem L11:low Try.prog Try.f11.ntmps (at_ Try.f11 [])=some R11:=by kernel_rfl
theorem N12:Try.f12.ntmps=41:=by kernel_rfl
theorem Z12:Try.f12.results.toList=(#[(.tmp 6),(.tmp 7),(.tmp 8)]:Array ResultVar).toList:=by kernel_rfl
theorem B12:Try.f12.body=some (at_ Try.f12 []):=by kernel_rfl
noncomputable def R12:RC:=(.seq (.reg [oN 6 0,oN 7 0,oN 8 0])
 (.seq (.seq (.reg [oM 11 0,oC 12 32 #[(.tmp 11)] #[22],oU 13 12])
 (.cond (.tmp 13) (.seq (.reg [oN 6 0,oN 7 0,oN 8 1])
 .ret)
 .skip))
 (.seq (.seq (.reg [oM 14 1,oC 15 33 #[(.tmp 14),(.const (.int .i64 366))] #[3,3],oU 16 15,oM 17 16,oG 18 17 false 2,oH 19 17 false 34 #[(.tmp 18),(.const (.int .i64 72057594037927936))] #[3,3],oV 20 17 false 19,oO 21 17 20])
 (.cond (.tmp 21) (.seq (.reg [oN 6 0,oN 7 0,oN 8 2])
 .ret)
 .skip))
 (.seq (.reg [oC 23 35 #[] #[],oM 22 23,oE 24 22 0 71,oE 25 22 1 71,oM 9 24,oM 10 25])
 (.seq (.reg [oM 26 0,oM 27 10,oC 28 37 #[(.tmp 26),(.tmp 27)] #[22,71],oM 29 1,oM 30 2,oC 31 36 #[(.tmp 28),(.tmp 29),(.tmp 30)] #[75,3,3],oM 7 31])
 (.seq (.seq (.reg [oM 32 7,⟨some 33,none,(.cmp .eql (.tmp 32) (.const (.int .i64 (-1))))⟩])
 (.cond (.tmp 33) (.seq (.reg [oN 6 0,oN 7 0,oN 8 4])
 .ret)
 .skip))
 (.seq (.reg [oM 34 0,oM 35 9,oC 36 37 #[(.tmp 34),(.tmp 35)] #[22,71],oM 37 1,oM 38 2,oC 39 36 #[(.tmp 36),(.tmp 37),(.tmp 38)] #[75,3,3],oM 40 7,oM 6 39,oM 7 40,oN 8 0])
 .ret)))))))
theorem L12:low Try.prog Try.f12.ntmps (at_ Try.f12 [])=some R12:=by kernel_rfl
theorem N14:Try.f14.ntmps=52:=by kernel_rfl
theorem Z14:Try.f14.results.toList=(#[(.tmp 8),(.tmp 9)]:Array ResultVar).toList:=by kernel_rfl
theorem B14:Try.f14.body=some (at_ Try.f14 []):=by kernel_rfl
noncomputable def R14:RC:=(.seq (.reg [oN 8 0,oN 9 0])
 (.seq (.seq (.reg [oM 14 0,oC 15 32 #[(.tmp 14)] #[22],oU 16 15])
 (.cond (.tmp 16) (.seq (.reg [oN 8 0,oN 9 1])
 .ret)
 .skip))
 (.seq (.seq (.reg [oM 17 1,oC 18 33 #[(.tmp 17),(.const (.int .i64 366))] #[3,3],oU 19 18,oM 20 19,oG 21 20 false 2,oH 22 20 false 34 #[(.tmp 21),(.const (.int .i64 72057594037927936))] #[3,3],oV 23 20 false 22,oO 24 20 23,oM 25 24,oG 26 25 false 3,oH 27 25 false 34 #[(.tmp 26),(.const (.int .i64 16384))] #[3,3],oV 28 25 false 27,oO 29 25 28])
 (.cond (.tmp 29) (.seq (.reg [oN 8 0,oN 9 2])
 .ret)
 .skip))
 (.seq (.reg [oM 30 0, oM 31 3, ⟨some 32, none, .pur ⟨some 32, (.build 52 #[(0, (.tmp 31))]), 52, "", #[], none⟩⟩, ⟨some 33, none, (.mem ⟨some 33, (.buildSlice 22 1 #[(0, (.tmp 32))]), 22, "", #[], none⟩)⟩, ⟨some 34, none, (.mem ⟨some 34, (.buildSlice 101 2 #[(0, (.tmp 30)), (1, (.tmp 33))]), 101, "", #[], none⟩)⟩, oC 35 40 #[(.tmp 34)] #[101], oM 10 35])
 (.seq (.reg [oC 37 35 #[] #[],oM 36 37,oE 38 36 0 71,oE 39 36 1 71,oM 11 38,oM 12 39])
 (.seq (.reg [oM 40 10,oM 41 12,oC 42 37 #[(.tmp 40),(.tmp 41)] #[22,71],oM 43 1,oM 44 3,oC 45 41 #[(.tmp 42),(.tmp 43),(.tmp 44)] #[75,3,3],oM 13 45])
 (.seq (.seq (.reg [oM 46 13,oM 47 2,⟨some 48,none,(.cmp .gtr (.tmp 46) (.tmp 47))⟩])
 (.cond (.tmp 48) (.seq (.reg [oN 8 0,oN 9 12])
 .ret)
 .skip))
 (.seq (.reg [oM 49 2,oM 50 13,oS 51 .sub 49 50,oM 8 51,oN 9 0])
 .ret))))))))
theorem L14:low Try.prog Try.f14.ntmps (at_ Try.f14 [])=some R14:=by kernel_rfl
theorem N16:Try.f16.ntmps=29:=by kernel_rfl
theorem Z16:Try.f16.results.toList=(#[(.cell 4 31),(.tmp 5)]:Array ResultVar).toList:=by kernel_rfl
theorem B16:Try.f16.body=some (at_ Try.f16 []):=by kernel_rfl
noncomputable def R16:RC:=(.seq (.reg [oK 2 33 0,oK 3 33 1,⟨some 4,none,(.alc 31 [(.int .i64 0),(.int .i64 0)])⟩,oN 5 0])
 (.seq (.seq (.reg [oD 6 2 4,oC 7 42 #[(.tmp 6)] #[33],oU 8 7,oM 9 8,⟨some 10,some (9,false),(.lda (.tmp 3) 4)⟩,oH 11 9 false 42 #[(.tmp 10)] #[33],oV 12 9 false 11,oO 13 9 12])
 (.cond (.tmp 13) (.seq (.reg [⟨some 14, none, .pur ⟨some 14, (.build 31 #[]), 31, "", #[], none⟩⟩, ⟨none, none, (.sta (.tmp 4) (.tmp 14) 2)⟩, oN 5 1])
 .ret)
 .skip))
 (.seq (.seq (.reg [oJ 15 2 0,oJ 16 15 0,oL 17 16 1,oB 18 .eql 17 0,oM 19 18,⟨some 20,some (19,true),(.addo (.tmp 3) 0)⟩,⟨some 21,some (19,true),(.addo (.tmp 20) 0)⟩,oLg 22 19 true 21 1,oBg 23 19 true .eql 22 0,oA 24 19 23])
 (.cond (.tmp 24) (.seq (.reg [⟨some 25, none, .pur ⟨some 25, (.build 31 #[]), 31, "", #[], none⟩⟩, ⟨none, none, (.sta (.tmp 4) (.tmp 25) 2)⟩, oN 5 10])
 .ret)
 .skip))
 (.seq (.reg [oD 26 2 4,oD 27 3 4,oC 28 43 #[(.tmp 26),(.tmp 27)] #[33,33],⟨none,none,(.sta (.tmp 4) (.tmp 28) 2)⟩,oN 5 0])
 .ret))))
theorem L16:low Try.prog Try.f16.ntmps (at_ Try.f16 [])=some R16:=by kernel_rfl
theorem N18:Try.f18.ntmps=28:=by kernel_rfl
theorem Z18:Try.f18.results.toList=(#[(.tmp 6),(.tmp 7)]:Array ResultVar).toList:=by kernel_rfl
theorem B18:Try.f18.body=some (at_ Try.f18 []):=by kernel_rfl
noncomputable def R18:RC:=(.seq (.reg [oK 3 33 0,oK 4 31 1,oN 6 0,oN 7 0])
 (.seq (.seq (.reg [oD 8 3 4,oC 9 42 #[(.tmp 8)] #[33],oU 10 9,oM 11 10,⟨some 12,some (11,false),(.lda (.tmp 4) 2)⟩,oH 13 11 false 44 #[(.tmp 12),(.const (.int .i64 40000))] #[31,3],oV 14 11 false 13,oO 15 11 14])
 (.cond (.tmp 15) (.seq (.reg [oN 6 0,oN 7 1])
 .ret)
 .skip))
 (.seq (.seq (.reg [oM 16 2,oC 17 34 #[(.tmp 16),(.const (.int .i64 40000))] #[3,3],oU 18 17])
 (.cond (.tmp 18) (.seq (.reg [oN 6 0,oN 7 2])
 .ret)
 .skip))
 (.seq (.seq (.reg [oJ 19 3 2,oJ 20 19 1,oL 21 20 1,oM 22 2,⟨some 23,none,(.cmp .gtr (.tmp 21) (.tmp 22))⟩])
 (.cond (.tmp 23) (.seq (.reg [oN 6 0,oN 7 12])
 .ret)
 .skip))
 (.seq (.reg [oD 24 3 4,oD 25 4 2,oM 26 2,oC 27 45 #[(.tmp 24),(.tmp 25),(.tmp 26)] #[33,31,3],oM 6 27,oN 7 0])
 .ret)))))
theorem L18:low Try.prog Try.f18.ntmps (at_ Try.f18 [])=some R18:=by kernel_rfl
theorem N20:Try.f20.ntmps=22:=by kernel_rfl
theorem Z20:Try.f20.results.toList=(#[(.cell 2 31),(.cell 3 31),(.tmp 4)]:Array ResultVar).toList:=by kernel_rfl
theorem B20:Try.f20.body=some (at_ Try.f20 []):=by kernel_rfl
noncomputable def R20:RC:=(.seq (.reg [oK 1 35 0,⟨some 2,none,(.alc 31 [(.int .i64 0),(.int .i64 0)])⟩,⟨some 3,none,(.alc 31 [(.int .i64 0),(.int .i64 0)])⟩,oN 4 0])
 (.seq (.seq (.reg [oD 5 1 10,oC 6 47 #[(.tmp 5)] #[35],oU 7 6])
 (.cond (.tmp 7) (.seq (.reg [⟨some 8, none, .pur ⟨some 8, (.build 31 #[]), 31, "", #[], none⟩⟩, ⟨some 9, none, .pur ⟨some 9, (.build 31 #[]), 31, "", #[], none⟩⟩, ⟨none, none, (.sta (.tmp 2) (.tmp 8) 2)⟩, ⟨none, none, (.sta (.tmp 3) (.tmp 9) 2)⟩, oN 4 1])
 .ret)
 .skip))
 (.seq (.reg [oD 11 1 10,oC 12 48 #[(.tmp 11)] #[35],oM 10 12,oE 13 10 0 31,oE 14 10 1 31,⟨none,none,(.sta (.tmp 2) (.tmp 13) 2)⟩,⟨none,none,(.sta (.tmp 3) (.tmp 14) 2)⟩])
 (.seq (.seq (.reg [oJ 15 2 1,oL 16 15 1,oQ 17 .lss 16 0])
 (.cond (.tmp 17) (.seq (.reg [⟨some 18, none, .pur ⟨some 18, (.build 31 #[]), 31, "", #[], none⟩⟩, ⟨some 19, none, .pur ⟨some 19, (.build 31 #[]), 31, "", #[], none⟩⟩, ⟨none, none, (.sta (.tmp 2) (.tmp 18) 2)⟩, ⟨none, none, (.sta (.tmp 3) (.tmp 19) 2)⟩, oN 4 4])
 .ret)
 .skip))
 (.seq (.dreg [oD 20 2 2,oD 21 3 2,⟨none,none,(.sta (.tmp 2) (.tmp 20) 2)⟩,⟨none,none,(.sta (.tmp 3) (.tmp 21) 2)⟩,oN 4 0] [15,7,1,0,0])
 .ret)))))
theorem L20:low Try.prog Try.f20.ntmps (at_ Try.f20 [])=some R20:=by kernel_rfl
theorem N22:Try.f22.ntmps=59:=by kernel_rfl
theorem Z22:Try.f22.results.toList=(#[(.tmp 14),(.tmp 15)]:Array ResultVar).toList:=by kernel_rfl
theorem B22:Try.f22.body=some (at_ Try.f22 []):=by kernel_rfl
noncomputable def R22:RC:=(.seq (.reg [⟨some 14,none,(.mov (.const (.slice none 0 0)))⟩,oN 15 0])
 (.seq (.seq (.reg [oM 16 0,oW 17 16,oQ 18 .gtr 17 64])
 (.cond (.tmp 18) (.seq (.reg [⟨some 14,none,(.mov (.const (.slice none 0 0)))⟩,oN 15 3])
 .ret)
 .skip))
 (.seq (.seq (.reg [oM 19 1,oC 20 49 #[(.tmp 19)] #[43],oU 21 20])
 (.cond (.tmp 21) (.seq (.reg [⟨some 14,none,(.mov (.const (.slice none 0 0)))⟩,oN 15 1])
 .ret)
 .skip))
 (.seq (.seq (.reg [oM 22 0,oC 23 50 #[(.tmp 22),(.const (.int .i64 72057594037927936))] #[42,3],oU 24 23,oM 25 24,oG 26 25 false 4,oH 27 25 false 34 #[(.tmp 26),(.const (.int .i64 72057594037927936))] #[3,3],oV 28 25 false 27,oO 29 25 28,oM 30 29,oG 31 30 false 2,oH 32 30 false 34 #[(.tmp 31),(.const (.int .i64 63))] #[3,3],oV 33 30 false 32,oO 34 30 33])
 (.cond (.tmp 34) (.seq (.reg [⟨some 14,none,(.mov (.const (.slice none 0 0)))⟩,oN 15 2])
 .ret)
 .skip))
 (.seq (.seq (.reg [oM 35 3,oC 36 33 #[(.tmp 35),(.const (.int .i64 366))] #[3,3],oU 37 36,oM 38 37,oG 39 38 false 5,oH 40 38 false 34 #[(.tmp 39),(.const (.int .i64 16384))] #[3,3],oV 41 38 false 40,oO 42 38 41,oM 43 42,oG 44 43 false 6,oH 45 43 false 34 #[(.tmp 44),(.const (.int .i64 16384))] #[3,3],oV 46 43 false 45,oO 47 43 46])
 (.cond (.tmp 47) (.seq (.reg [⟨some 14,none,(.mov (.const (.slice none 0 0)))⟩,oN 15 2])
 .ret)
 .skip))
 (.seq (.reg [oM 48 0,oM 49 1,oM 50 2,oM 51 5,oM 52 6,oC 53 52 #[(.tmp 49),(.tmp 50),(.tmp 51),(.tmp 52)] #[43,3,3,3],oM 54 3,oM 55 4,oC 56 51 #[(.tmp 48),(.tmp 53),(.tmp 54),(.tmp 55)] #[42,42,3,3],oE 57 56 0 42,oE 58 56 1 24,oM 14 57,oM 15 58])
 .ret))))))
theorem L22:low Try.prog Try.f22.ntmps (at_ Try.f22 [])=some R22:=by kernel_rfl
theorem N24:Try.f24.ntmps=26:=by kernel_rfl
theorem Z24:Try.f24.results.toList=(#[(.tmp 4)]:Array ResultVar).toList:=by kernel_rfl
theorem B24:Try.f24.body=some (at_ Try.f24 []):=by kernel_rfl
noncomputable def R24:RC:=(.seq (.reg [oF 4])
 (.seq (.seq (.reg [oM 6 0,oW 7 6,oM 8 1,oW 9 8,⟨some 10,none,(.cmp .neq (.tmp 7) (.tmp 9))⟩])
 (.cond (.tmp 10) (.seq (.reg [oF 4])
 .ret)
 .skip))
 (.seq (.seq (.reg [oN 5 0])
 (.block 0 (.other (at_ Try.f24 [1,1,0,1,0]))))
 (.seq (.reg [⟨some 4,none,.mov (.const (.bool true))⟩])
 .ret))))
theorem L24:low Try.prog Try.f24.ntmps (at_ Try.f24 [])=some R24:=by kernel_rfl
theorem ZeZ:at_ Try.f24 [1,1,0,1,0]=.loop (at_ Try.f24 [1,1,0,1,0,0]):=by kernel_rfl
noncomputable def R24x1:RC:=(.seq (.seq (.reg [oM 11 5,oM 12 0,oW 13 12,⟨some 14,none,(.cmp .lss (.tmp 11) (.tmp 13))⟩])
 (.cond (.tmp 14) .skip
 (.exit 0)))
 (.seq (.block 1 (.seq (.dreg [oM 17 0,oM 18 5,oI 19 17 18 1,oL 20 19 1,oM 21 1,oM 22 5,oI 23 21 22 1,oL 24 23 1,⟨some 25,none,(.cmp .neq (.tmp 20) (.tmp 24))⟩] [255,112,48,0,0,7,3,0,0])
 (.cond (.tmp 25) (.seq (.reg [oF 4])
 .ret)
 .skip)))
 (.reg [oM 15 5,oR 16 .add 15 1,oM 5 16])))
theorem Zev:low Try.prog Try.f24.ntmps (at_ Try.f24 [1,1,0,1,0,0])=some R24x1:=by kernel_rfl
theorem N28:Try.f28.ntmps=96:=by kernel_rfl
theorem Z28:Try.f28.results.toList=(#[(.tmp 16)]:Array ResultVar).toList:=by kernel_rfl
theorem B28:Try.f28.body=some (at_ Try.f28 []):=by kernel_rfl
noncomputable def R28:RC:=(.seq (.reg [oF 16])
 (.seq (.seq (.reg [oM 20 1,oW 21 20,oM 22 0,oW 23 22,⟨some 24,none,(.cmp .neq (.tmp 21) (.tmp 23))⟩])
 (.cond (.tmp 24) (.seq (.reg [oF 16])
 .ret)
 .skip))
 (.seq (.seq (.reg [oN 17 0])
 (.block 0 (.other (at_ Try.f28 [1,1,0,1,0]))))
 (.seq (.reg [⟨some 16,none,.mov (.const (.bool true))⟩])
 .ret))))
theorem L28:low Try.prog Try.f28.ntmps (at_ Try.f28 [])=some R28:=by kernel_rfl
theorem Zfp:at_ Try.f28 [1,1,0,1,0]=.loop (at_ Try.f28 [1,1,0,1,0,0]):=by kernel_rfl
noncomputable def R28x1:RC:=(.seq (.seq (.reg [oM 25 17,oM 26 1,oW 27 26,⟨some 28,none,(.cmp .lss (.tmp 25) (.tmp 27))⟩])
 (.cond (.tmp 28) .skip
 (.exit 0)))
 (.seq (.block 1 (.seq (.seq (.dreg [oM 31 1, oM 32 17, oI 33 31 32 1, oL 34 33 1, oM 35 6, ⟨some 36, none, (.cmpb .lss (.tmp 34) (.tmp 35))⟩, oM 37 36, oG 38 37 false 1, oG 39 37 false 17, oIg 40 37 false 38 39 1, oLg 41 37 false 40 1, oG 42 37 false 7, ⟨some 43, some (37, false), (.cmpb .gtr (.tmp 41) (.tmp 42))⟩, oO 44 37 43, oM 45 44, oG 46 45 false 17, oBg 47 45 false .gtr 46 0, oG 48 45 false 47, oG 49 48 true 1, oG 50 48 true 17, oIg 51 48 true 49 50 1, oLg 52 48 true 51 1, oG 53 48 true 1, oG 54 48 true 17, ⟨some 55, some (48, true), (.ari .sub (.tmp 54) (.const (.int .i64 1)))⟩, oIg 56 48 true 53 55 1, oLg 57 48 true 56 1, ⟨some 58, some (48, true), (.cmpb .leq (.tmp 52) (.tmp 57))⟩, ⟨some 59, some (45, false), (.pur ⟨some 59, (.pick (.tmp 48) (.tmp 58) (.const (.bool false))), 4, "", #[], none⟩)⟩, oO 60 45 59, oM 61 60, oG 62 61 false 2, oG 63 61 false 3, oG 64 61 false 1, oG 65 61 false 17, oIg 66 61 false 64 65 1, oLg 67 61 false 66 1, oH 68 61 false 54 #[(.tmp 62), (.tmp 63), (.tmp 67)] #[43, 3, 3], oV 69 61 false 68, oO 70 61 69] [549755813887, 274877906943, 137438953471, 62277025791, 27917287423, 2147483647, 2147483647, 2147483647, 2147483647, 1073741823, 536870911, 268435455, 134217727, 63176703, 29622271, 8650751, 262143, 262143, 2097151, 1048575, 262143, 262143, 131071, 65535, 32767, 16383, 8191, 4095, 127, 1023, 511, 127, 127, 63, 31, 0, 7, 3, 0, 0])
 (.cond (.tmp 70) (.seq (.reg [oF 16])
 .ret)
 .skip))
 (.seq (.reg [oN 18 0])
 (.seq (.seq (.reg [oN 19 0])
 (.block 2 (.other (at_ Try.f28 [1,1,0,1,0,0,1,0,0,1,1,0,1,0]))))
 (.seq (.reg [oM 93 18,oM 94 5,⟨some 95,none,(.cmp .gtr (.tmp 93) (.tmp 94))⟩])
 (.cond (.tmp 95) (.seq (.reg [oF 16])
 .ret)
 .skip))))))
 (.reg [oM 29 17,oR 30 .add 29 1,oM 17 30])))
theorem ZeY:low Try.prog Try.f28.ntmps (at_ Try.f28 [1,1,0,1,0,0])=some R28x1:=by kernel_rfl
theorem ZcQ:at_ Try.f28 [1,1,0,1,0,0,1,0,0,1,1,0,1,0]=.loop (at_ Try.f28 [1,1,0,1,0,0,1,0,0,1,1,0,1,0,0]):=by kernel_rfl
noncomputable def R28x2:RC:=(.seq (.seq (.reg [oM 71 19,oM 72 17,⟨some 73,none,(.cmp .leq (.tmp 71) (.tmp 72))⟩])
 (.cond (.tmp 73) .skip
 (.exit 2)))
 (.seq (.block 3 (.seq (.dreg [oM 76 1,oM 77 19,oI 78 76 77 1,oL 79 78 1,oM 80 1,oM 81 17,oI 82 80 81 1,oL 83 82 1,oM 84 4,oS 85 .sub 83 84,⟨some 86,none,(.cmp .gtr (.tmp 79) (.tmp 85))⟩] [1023,496,0,112,48,0,0,7,3,0,0])
 (.cond (.tmp 86) (.reg [oM 87 18,oM 88 0,oM 89 19,oI 90 88 89 1,oL 91 90 1,oS 92 .add 87 91,oM 18 92])
 .skip)))
 (.reg [oM 74 19,oR 75 .add 74 1,oM 19 75])))
theorem ZcU:low Try.prog Try.f28.ntmps (at_ Try.f28 [1,1,0,1,0,0,1,0,0,1,1,0,1,0,0])=some R28x2:=by kernel_rfl
theorem N30:Try.f30.ntmps=11:=by kernel_rfl
theorem Z30:Try.f30.results.toList=(#[(.tmp 0)]:Array ResultVar).toList:=by kernel_rfl
theorem B30:Try.f30.body=some (at_ Try.f30 []):=by kernel_rfl
noncomputable def R30:RC:=(.seq (.reg [⟨some 0,none,.mov (.const (.slice none 0 0))⟩])
 (.seq (.reg [oC 1 31 #[(.const (.int .i64 1000)), (.const (.int .i64 1200))] #[3, 3], oC 2 31 #[(.const (.int .i64 50)), (.const (.int .i64 60))] #[3, 3], ⟨some 3, none, (.pur ⟨some 3, (.build 52 #[(0, (.const (.int .i64 10))), (1, (.tmp 1)), (2, (.tmp 2))]), 52, "", #[], none⟩)⟩, oC 4 31 #[(.const (.int .i64 500)), (.const (.int .i64 500))] #[3, 3], oC 5 31 #[(.const (.int .i64 100)), (.const (.int .i64 100))] #[3, 3], ⟨some 6, none, (.pur ⟨some 6, (.build 52 #[(0, (.const (.int .i64 12))), (1, (.tmp 4)), (2, (.tmp 5))]), 52, "", #[], none⟩)⟩, oC 7 31 #[(.const (.int .i64 2000)), (.const (.int .i64 2000))] #[3, 3], oC 8 31 #[(.const (.int .i64 30)), (.const (.int .i64 40))] #[3, 3], ⟨some 9, none, (.pur ⟨some 9, (.build 52 #[(0, (.const (.int .i64 15))), (1, (.tmp 7)), (2, (.tmp 8))]), 52, "", #[], none⟩)⟩, ⟨some 10, none, (.mem ⟨some 10, (.buildSlice 22 3 #[(0, (.tmp 3)), (1, (.tmp 6)), (2, (.tmp 9))]), 22, "", #[], none⟩)⟩, oM 0 10])
 .ret))
theorem L30:low Try.prog Try.f30.ntmps (at_ Try.f30 [])=some R30:=by kernel_rfl
theorem N31:Try.f31.ntmps=8:=by kernel_rfl
theorem Z31:Try.f31.results.toList=(#[(.cell 4 31)]:Array ResultVar).toList:=by kernel_rfl
theorem B31:Try.f31.body=some (at_ Try.f31 []):=by kernel_rfl
noncomputable def R31:RC:=(.seq (.reg [⟨some 4,none,(.alc 31 [(.int .i64 0),(.int .i64 0)])⟩])
 (.seq (.reg [oM 5 0, oM 6 1, ⟨some 7, none, .pur ⟨some 7, (.build 31 #[(0, (.tmp 5)), (1, (.tmp 6))]), 31, "", #[], none⟩⟩, ⟨none, none, (.sta (.tmp 4) (.tmp 7) 2)⟩])
 .ret))
theorem L31:low Try.prog Try.f31.ntmps (at_ Try.f31 [])=some R31:=by kernel_rfl
theorem N32:Try.f32.ntmps=11:=by kernel_rfl
theorem Z32:Try.f32.results.toList=(#[(.tmp 2)]:Array ResultVar).toList:=by kernel_rfl
theorem B32:Try.f32.body=some (at_ Try.f32 []):=by kernel_rfl
noncomputable def R32:RC:=(.seq (.reg [oF 2])
 (.seq (.reg [oM 3 0,oW 4 3,oB 5 .leq 4 64,oM 6 5,oG 7 6 true 0,oH 8 6 true 55 #[(.tmp 7),(.func 56)] #[22,91],oV 9 6 true 8,oA 10 6 9,oM 2 10])
 .ret))
theorem L32:low Try.prog Try.f32.ntmps (at_ Try.f32 [])=some R32:=by kernel_rfl
theorem N33:Try.f33.ntmps=12:=by kernel_rfl
theorem Z33:Try.f33.results.toList=(#[(.tmp 4)]:Array ResultVar).toList:=by kernel_rfl
theorem B33:Try.f33.body=some (at_ Try.f33 []):=by kernel_rfl
noncomputable def R33:RC:=(.seq (.reg [oF 4])
 (.seq (.reg [oM 5 0,⟨some 6,none,(.cmpb .leq (.const (.int .i64 1)) (.tmp 5))⟩,oM 7 6,oG 8 7 true 0,oG 9 7 true 1,⟨some 10,some (7,true),(.cmpb .leq (.tmp 8) (.tmp 9))⟩,oA 11 7 10,oM 4 11])
 .ret))
theorem L33:low Try.prog Try.f33.ntmps (at_ Try.f33 [])=some R33:=by kernel_rfl
theorem N34:Try.f34.ntmps=12:=by kernel_rfl
theorem Z34:Try.f34.results.toList=(#[(.tmp 4)]:Array ResultVar).toList:=by kernel_rfl
theorem B34:Try.f34.body=some (at_ Try.f34 []):=by kernel_rfl
noncomputable def R34:RC:=(.seq (.reg [oF 4])
 (.seq (.reg [oM 5 0,⟨some 6,none,(.cmpb .leq (.const (.int .i64 0)) (.tmp 5))⟩,oM 7 6,oG 8 7 true 0,oG 9 7 true 1,⟨some 10,some (7,true),(.cmpb .leq (.tmp 8) (.tmp 9))⟩,oA 11 7 10,oM 4 11])
 .ret))
theorem L34:low Try.prog Try.f34.ntmps (at_ Try.f34 [])=some R34:=by kernel_rfl
theorem N35:Try.f35.ntmps=2:=by kernel_rfl
theorem Z35:Try.f35.results.toList=(#[(.tmp 0),(.tmp 1)]:Array ResultVar).toList:=by kernel_rfl
theorem B35:Try.f35.body=some (at_ Try.f35 []):=by kernel_rfl
noncomputable def R35:RC:=(.seq (.reg [⟨some 0,none,.mov (.const .nilFunc)⟩,⟨some 1,none,.mov (.const .nilFunc)⟩])
 (.seq (.reg [⟨some 0,none,.mov (.func 57)⟩,⟨some 1,none,.mov (.func 58)⟩])
 .ret))
theorem L35:low Try.prog Try.f35.ntmps (at_ Try.f35 [])=some R35:=by kernel_rfl
theorem N36:Try.f36.ntmps=26:=by kernel_rfl
theorem Z36:Try.f36.results.toList=(#[(.tmp 6)]:Array ResultVar).toList:=by kernel_rfl
theorem B36:Try.f36.body=some (at_ Try.f36 []):=by kernel_rfl
noncomputable def R36:RC:=(.seq (.reg [oN 6 0])
 (.seq (.reg [oM 10 1, ⟨some 11, none, .pur ⟨some 11, (.build 93 #[(0, (.tmp 10))]), 93, "", #[], none⟩⟩, ⟨some 7, none, (.alc 93 [(.int .i64 0), (.slice none 0 0)])⟩, ⟨none, none, (.sta (.tmp 7) (.tmp 11) 2)⟩])
 (.seq (.seq (.reg [oM 12 0,oW 13 12,oN 14 0])
 (.block 0 (.other (at_ Try.f36 [1,1,0,1,0]))))
 (.seq (.reg [⟨some 6,none,.mov (.const (.int .i64 (-1)))⟩])
 .ret))))
theorem L36:low Try.prog Try.f36.ntmps (at_ Try.f36 [])=some R36:=by kernel_rfl
theorem Zd5:at_ Try.f36 [1,1,0,1,0]=.loop (at_ Try.f36 [1,1,0,1,0,0]):=by kernel_rfl
noncomputable def R36x1:RC:=(.seq (.reg [⟨some 15,none,(.cmp .lss (.tmp 14) (.tmp 13))⟩])
 (.seq (.cond (.tmp 15) .skip
 (.exit 0))
 (.seq (.block 1 (.seq (.reg [oI 16 12 14 2,oD 17 16 2,⟨some 9,none,(.alc 95 [(.int .i64 0),(.int .i64 0)])⟩,⟨none,none,(.sta (.tmp 9) (.tmp 17) 2)⟩])
 (.seq (.reg [oD 18 9 2,oC 19 59 #[(.tmp 7),(.tmp 18)] #[93,95]])
 (.seq (.reg [oC 20 60 #[(.tmp 7)] #[93],oM 21 2,⟨some 22,none,(.cmp .gtr (.tmp 20) (.tmp 21))⟩])
 (.cond (.tmp 22) (.seq (.reg [oJ 23 9 0,oL 24 23 1,oM 6 24])
 .ret)
 .skip)))))
 (.reg [oR 25 .add 14 1,oM 14 25]))))
theorem Zes:low Try.prog Try.f36.ntmps (at_ Try.f36 [1,1,0,1,0,0])=some R36x1:=by kernel_rfl
theorem N37:Try.f37.ntmps=33:=by kernel_rfl
theorem Z37:Try.f37.results.toList=(#[(.tmp 4)]:Array ResultVar).toList:=by kernel_rfl
theorem B37:Try.f37.body=some (at_ Try.f37 []):=by kernel_rfl
noncomputable def R37:RC:=(.seq (.reg [⟨some 4,none,.mov (.const (.slice none 0 0))⟩])
 (.seq (.reg [⟨some 5,none,.mov (.const (.slice none 0 0))⟩])
 (.seq (.seq (.reg [oM 8 0,oW 9 8,oN 10 0])
 (.block 0 (.other (at_ Try.f37 [1,1,0,1,0]))))
 (.seq (.reg [oM 30 5,oC 31 61 #[(.tmp 30),(.func 62)] #[75,100]])
 (.seq (.reg [oM 32 5,oM 4 32])
 .ret)))))
theorem L37:low Try.prog Try.f37.ntmps (at_ Try.f37 [])=some R37:=by kernel_rfl
theorem Zer:at_ Try.f37 [1,1,0,1,0]=.loop (at_ Try.f37 [1,1,0,1,0,0]):=by kernel_rfl
noncomputable def R37x1:RC:=(.seq (.reg [⟨some 11,none,(.cmp .lss (.tmp 10) (.tmp 9))⟩])
 (.seq (.cond (.tmp 11) .skip
 (.exit 0))
 (.seq (.block 1 (.seq (.reg [oI 12 8 10 5,oD 13 12 5,⟨some 7,none,(.alc 52 [(.int .i64 0),(.int .i64 0),(.int .i64 0),(.int .i64 0),(.int .i64 0)])⟩,⟨none,none,(.sta (.tmp 7) (.tmp 13) 5)⟩])
 (.dreg [oM 14 5, oJ 15 7 0, oL 16 15 1, oM 17 1, oJ 18 7 1, oD 19 18 2, ⟨some 20, none, (.call ⟨(.value (.tmp 17)), #[(.tmp 19)], #[31]⟩ false)⟩, oM 21 1, oJ 22 7 3, oD 23 22 2, ⟨some 24, none, (.call ⟨(.value (.tmp 21)), #[(.tmp 23)], #[31]⟩ false)⟩, oS 25 .mul 20 24, ⟨some 26, none, (.pur ⟨some 26, (.build 95 #[(0, (.tmp 16)), (1, (.tmp 25))]), 95, "", #[], none⟩)⟩, ⟨some 27, none, (.mem ⟨some 27, (.buildSlice 75 1 #[(0, (.tmp 26))]), 75, "", #[], none⟩)⟩, ⟨some 28, none, (.mem ⟨some 28, (.call ⟨(.builtin .append), #[(.tmp 14), (.tmp 27)], #[75, 75]⟩), 75, "", #[], none⟩)⟩, oM 5 28] [32767, 16383, 8190, 4094, 2040, 1016, 256, 0, 0, 56, 16, 0, 0, 2, 0, 0])))
 (.reg [oR 29 .add 10 1,oM 10 29]))))
theorem ZeW:low Try.prog Try.f37.ntmps (at_ Try.f37 [1,1,0,1,0,0])=some R37x1:=by kernel_rfl
theorem N38:Try.f38.ntmps=15:=by kernel_rfl
theorem Z38:Try.f38.results.toList=(#[(.tmp 6)]:Array ResultVar).toList:=by kernel_rfl
theorem B38:Try.f38.body=some (at_ Try.f38 []):=by kernel_rfl
noncomputable def R38:RC:=(.seq (.reg [oF 6])
 (.seq (.reg [oM 7 1,oM 8 0,⟨some 9,none,(.cmpb .leq (.tmp 7) (.tmp 8))⟩,oM 10 9,oG 11 10 true 0,oG 12 10 true 2,⟨some 13,some (10,true),(.cmpb .leq (.tmp 11) (.tmp 12))⟩,oA 14 10 13,oM 6 14])
 .ret))
theorem L38:low Try.prog Try.f38.ntmps (at_ Try.f38 [])=some R38:=by kernel_rfl
theorem N40:Try.f40.ntmps=36:=by kernel_rfl
theorem Z40:Try.f40.results.toList=(#[(.tmp 2)]:Array ResultVar).toList:=by kernel_rfl
theorem B40:Try.f40.body=some (at_ Try.f40 []):=by kernel_rfl
noncomputable def R40:RC:=(.seq (.reg [⟨some 2,none,.mov (.const (.slice none 0 0))⟩])
 (.seq (.reg [oN 3 0])
 (.seq (.seq (.reg [oM 9 0,oW 10 9,oN 11 0])
 (.block 0 (.other (at_ Try.f40 [1,1,0,1,0]))))
 (.seq (.reg [oM 23 3,oC 24 64 #[(.const (.slice none 0 0)),(.tmp 23)] #[22,3],oM 6 24])
 (.seq (.seq (.reg [oM 25 0,oW 26 25,oN 27 0])
 (.block 2 (.other (at_ Try.f40 [1,1,1,1,0,1,0]))))
 (.seq (.reg [oM 35 6,oM 2 35])
 .ret))))))
theorem L40:low Try.prog Try.f40.ntmps (at_ Try.f40 [])=some R40:=by kernel_rfl
theorem Zfa:at_ Try.f40 [1,1,0,1,0]=.loop (at_ Try.f40 [1,1,0,1,0,0]):=by kernel_rfl
noncomputable def R40x1:RC:=(.seq (.reg [⟨some 12,none,(.cmp .lss (.tmp 11) (.tmp 10))⟩])
 (.seq (.cond (.tmp 12) .skip
 (.exit 0))
 (.seq (.block 1 (.seq (.reg [oI 13 9 11 1,oL 14 13 1,oM 5 14])
 (.seq (.reg [oM 15 3,oM 16 5,oW 17 16,oS 18 .add 15 17,oM 3 18])
 (.seq (.reg [oM 19 3,oQ 20 .lss 19 0])
 (.cond (.tmp 20) (.reg [⟨some 21, none, .pur ⟨some 21, (.makeInterface 9 (.const (.string (.mk #[108, 101, 110, 32, 111, 117, 116, 32, 111, 102, 32, 114, 97, 110, 103, 101])))), 20, "", #[], none⟩⟩, ⟨none, none, .dead⟩])
 .skip)))))
 (.reg [oR 22 .add 11 1,oM 11 22]))))
theorem ZdW:low Try.prog Try.f40.ntmps (at_ Try.f40 [1,1,0,1,0,0])=some R40x1:=by kernel_rfl
theorem Zfg:at_ Try.f40 [1,1,1,1,0,1,0]=.loop (at_ Try.f40 [1,1,1,1,0,1,0,0]):=by kernel_rfl
noncomputable def R40x2:RC:=(.seq (.reg [⟨some 28,none,(.cmp .lss (.tmp 27) (.tmp 26))⟩])
 (.seq (.cond (.tmp 28) .skip
 (.exit 2))
 (.seq (.block 3 (.seq (.reg [oI 29 25 27 1,oL 30 29 1,oM 8 30])
 (.reg [oM 31 6, oM 32 8, ⟨some 33, none, (.mem ⟨some 33, (.call ⟨(.builtin .append), #[(.tmp 31), (.tmp 32)], #[22, 22]⟩), 22, "", #[], none⟩)⟩, oM 6 33])))
 (.reg [oR 34 .add 27 1,oM 27 34]))))
theorem Zfj:low Try.prog Try.f40.ntmps (at_ Try.f40 [1,1,1,1,0,1,0,0])=some R40x2:=by kernel_rfl
theorem N41:Try.f41.ntmps=38:=by kernel_rfl
theorem Z41:Try.f41.results.toList=(#[(.tmp 6)]:Array ResultVar).toList:=by kernel_rfl
theorem B41:Try.f41.body=some (at_ Try.f41 []):=by kernel_rfl
noncomputable def R41:RC:=(.seq (.reg [oN 6 0])
 (.seq (.reg [oM 11 1, ⟨some 12, none, .pur ⟨some 12, (.build 93 #[(0, (.tmp 11))]), 93, "", #[], none⟩⟩, ⟨some 7, none, (.alc 93 [(.int .i64 0), (.slice none 0 0)])⟩, ⟨none, none, (.sta (.tmp 7) (.tmp 12) 2)⟩])
 (.seq (.reg [oN 8 0])
 (.seq (.seq (.reg [oM 13 0,oW 14 13,oN 15 0])
 (.block 0 (.other (at_ Try.f41 [1,1,1,0,1,0]))))
 (.seq (.reg [oM 37 8,oM 6 37])
 .ret)))))
theorem L41:low Try.prog Try.f41.ntmps (at_ Try.f41 [])=some R41:=by kernel_rfl
theorem Zed:at_ Try.f41 [1,1,1,0,1,0]=.loop (at_ Try.f41 [1,1,1,0,1,0,0]):=by kernel_rfl
noncomputable def R41x1:RC:=(.seq (.reg [⟨some 16,none,(.cmp .lss (.tmp 15) (.tmp 14))⟩])
 (.seq (.cond (.tmp 16) .skip
 (.exit 0))
 (.seq (.block 1 (.seq (.reg [oI 17 13 15 2,oD 18 17 2,⟨some 10,none,(.alc 95 [(.int .i64 0),(.int .i64 0)])⟩,⟨none,none,(.sta (.tmp 10) (.tmp 18) 2)⟩])
 (.seq (.reg [oD 19 10 2,oC 20 59 #[(.tmp 7),(.tmp 19)] #[93,95]])
 (.seq (.reg [oJ 21 10 0,oL 22 21 1,oM 23 2,⟨some 24,none,(.cmpb .geq (.tmp 22) (.tmp 23))⟩,oM 25 24,⟨some 26,some (25,true),(.addo (.tmp 10) 0)⟩,oLg 27 25 true 26 1,oG 28 25 true 2,oG 29 25 true 1,⟨some 30,some (25,true),(.ari .add (.tmp 28) (.tmp 29))⟩,⟨some 31,some (25,true),(.cmpb .lss (.tmp 27) (.tmp 30))⟩,oA 32 25 31])
 (.cond (.tmp 32) (.reg [oM 33 8,oC 34 60 #[(.tmp 7)] #[93],⟨some 35,none,(.mm false (.tmp 33) (.tmp 34))⟩,oM 8 35])
 .skip)))))
 (.reg [oR 36 .add 15 1,oM 15 36]))))
theorem Zec:low Try.prog Try.f41.ntmps (at_ Try.f41 [1,1,1,0,1,0,0])=some R41x1:=by kernel_rfl
theorem N42:Try.f42.ntmps=11:=by kernel_rfl
theorem Z42:Try.f42.results.toList=(#[(.tmp 2)]:Array ResultVar).toList:=by kernel_rfl
theorem B42:Try.f42.body=some (at_ Try.f42 []):=by kernel_rfl
noncomputable def R42:RC:=(.seq (.reg [oK 1 33 0,oF 2])
 (.seq (.reg [oJ 3 1 0,oD 4 3 2,oC 5 44 #[(.tmp 4),(.const (.int .i64 1073741824))] #[31,3],oM 6 5,⟨some 7,some (6,true),(.addo (.tmp 1) 2)⟩,⟨some 8,some (6,true),(.lda (.tmp 7) 2)⟩,oH 9 6 true 44 #[(.tmp 8),(.const (.int .i64 40000))] #[31,3],oA 10 6 9,oM 2 10])
 .ret))
theorem L42:low Try.prog Try.f42.ntmps (at_ Try.f42 [])=some R42:=by kernel_rfl
theorem N43:Try.f43.ntmps=80:=by kernel_rfl
theorem Z43:Try.f43.results.toList=(#[(.cell 4 31)]:Array ResultVar).toList:=by kernel_rfl
theorem B43:Try.f43.body=some (at_ Try.f43 []):=by kernel_rfl
noncomputable def R43:RC:=(.seq (.reg [oK 2 33 0,oK 3 33 1,⟨some 4,none,(.alc 31 [(.int .i64 0),(.int .i64 0)])⟩])
 (.seq (.reg [oC 14 35 #[] #[],oM 13 14,oE 15 13 0 71,oE 16 13 1 71,oM 5 15,oM 6 16])
 (.seq (.reg [⟨some 17, none, .pur ⟨some 17, (.build 31 #[(0, (.const (.int .i64 40000)))]), 31, "", #[], none⟩⟩, ⟨some 7, none, (.alc 31 [(.int .i64 0), (.int .i64 0)])⟩, ⟨none, none, (.sta (.tmp 7) (.tmp 17) 2)⟩])
 (.seq (.seq (.reg [oJ 18 2 0,oD 19 18 2,oJ 20 3 0,oD 21 20 2,oC 22 65 #[(.tmp 19),(.tmp 21)] #[31,31],oN 23 0])
 (.block 0 (.other (at_ Try.f43 [1,1,1,0,1,0]))))
 (.seq (.reg [oD 79 7 2,⟨none,none,(.sta (.tmp 4) (.tmp 79) 2)⟩])
 .ret)))))
theorem L43:low Try.prog Try.f43.ntmps (at_ Try.f43 [])=some R43:=by kernel_rfl
theorem Ze3:at_ Try.f43 [1,1,1,0,1,0]=.loop (at_ Try.f43 [1,1,1,0,1,0,0]):=by kernel_rfl
noncomputable def R43x1:RC:=(.seq (.reg [oQ 24 .lss 23 4])
 (.seq (.cond (.tmp 24) .skip
 (.exit 0))
 (.seq (.block 1 (.seq (.reg [⟨some 25, none, .pur ⟨some 25, (.index 105 (.tmp 22) (.tmp 23)), 104, "", #[], none⟩⟩, ⟨some 9, none, (.alc 104 [(.int .i64 0), (.int .i64 0)])⟩, ⟨none, none, (.sta (.tmp 9) (.tmp 25) 2)⟩])
 (.seq (.reg [oJ 26 9 0,oL 27 26 1,oJ 28 9 1,oL 29 28 1,oS 30 .add 27 29,oM 10 30])
 (.seq (.dreg [oJ 31 9 0,oL 32 31 1,oM 33 5,oJ 34 2 2,oD 35 34 2,⟨some 36,none,(.call ⟨(.value (.tmp 33)),#[(.tmp 35)],#[31]⟩ false)⟩,oS 37 .mul 32 36,oJ 38 9 1,oL 39 38 1,oM 40 5,oJ 41 3 2,oD 42 41 2,⟨some 43,none,(.call ⟨(.value (.tmp 40)),#[(.tmp 42)],#[31]⟩ false)⟩,oS 44 .mul 39 43,oS 45 .add 37 44,oM 11 45] [32767,16383,8124,3644,1024,0,0,128,0,63,28,8,0,0,1,0])
 (.seq (.dreg [oJ 46 9 0,oL 47 46 1,oM 48 6,oJ 49 2 2,oD 50 49 2,⟨some 51,none,(.call ⟨(.value (.tmp 48)),#[(.tmp 50)],#[31]⟩ false)⟩,oS 52 .mul 47 51,oJ 53 9 1,oL 54 53 1,oM 55 6,oJ 56 3 2,oD 57 56 2,⟨some 58,none,(.call ⟨(.value (.tmp 55)),#[(.tmp 57)],#[31]⟩ false)⟩,oS 59 .mul 54 58,oS 60 .add 52 59,oM 12 60] [32767,16383,8124,3644,1024,0,0,128,0,63,28,8,0,0,1,0])
 (.seq (.dreg [oJ 61 7 0,oL 62 61 1,oM 63 11,oM 64 10,oS 65 .quo 63 64,⟨some 66,none,(.mm true (.tmp 62) (.tmp 65))⟩,oJ 67 7 0,⟨none,none,.st (.tmp 67) (.tmp 66)⟩] [127,63,31,12,0,0,1,0])
 (.dreg [oJ 68 7 1,oL 69 68 1,oM 70 12,oM 71 10,oS 72 .add 70 71,oR 73 .sub 72 1,oM 74 10,oS 75 .quo 73 74,⟨some 76,none,(.mm false (.tmp 69) (.tmp 75))⟩,oJ 77 7 1,⟨none,none,.st (.tmp 77) (.tmp 76)⟩] [1023,511,255,124,0,28,12,0,0,1,0])))))))
 (.reg [oR 78 .add 23 1,oM 23 78]))))
theorem Zew:low Try.prog Try.f43.ntmps (at_ Try.f43 [1,1,1,0,1,0,0])=some R43x1:=by kernel_rfl
theorem N44:Try.f44.ntmps=21:=by kernel_rfl
theorem Z44:Try.f44.results.toList=(#[(.tmp 4)]:Array ResultVar).toList:=by kernel_rfl
theorem B44:Try.f44.body=some (at_ Try.f44 []):=by kernel_rfl
noncomputable def R44:RC:=(.seq (.reg [oK 2 31 0,oF 4])
 (.seq (.reg [oJ 5 2 0,oL 6 5 1,⟨some 7,none,(.cmpb .leq (.const (.int .i64 0)) (.tmp 6))⟩,oM 8 7,⟨some 9,some (8,true),(.addo (.tmp 2) 0)⟩,oLg 10 8 true 9 1,⟨some 11,some (8,true),(.addo (.tmp 2) 1)⟩,oLg 12 8 true 11 1,⟨some 13,some (8,true),(.cmpb .leq (.tmp 10) (.tmp 12))⟩,oA 14 8 13,oM 15 14,⟨some 16,some (15,true),(.addo (.tmp 2) 1)⟩,oLg 17 15 true 16 1,oG 18 15 true 1,⟨some 19,some (15,true),(.cmpb .leq (.tmp 17) (.tmp 18))⟩,oA 20 15 19,oM 4 20])
 .ret))
theorem L44:low Try.prog Try.f44.ntmps (at_ Try.f44 [])=some R44:=by kernel_rfl
theorem N45:Try.f45.ntmps=28:=by kernel_rfl
theorem Z45:Try.f45.results.toList=(#[(.tmp 6)]:Array ResultVar).toList:=by kernel_rfl
theorem B45:Try.f45.body=some (at_ Try.f45 []):=by kernel_rfl
noncomputable def R45:RC:=(.seq (.reg [oK 3 33 0,oK 4 31 1,oN 6 0])
 (.seq (.seq (.reg [oJ 8 4 1,oL 9 8 1,oM 10 2,⟨some 11,none,(.cmp .leq (.tmp 9) (.tmp 10))⟩])
 (.cond (.tmp 11) (.seq (.reg [oN 6 1073741824])
 .ret)
 .skip))
 (.seq (.reg [oJ 12 3 0,oJ 13 12 0,oL 14 13 1,oM 15 2,oJ 16 3 2,oJ 17 16 1,oL 18 17 1,oS 19 .sub 15 18,oS 20 .mul 14 19,oM 7 20])
 (.seq (.reg [oM 21 7,oJ 22 4 1,oL 23 22 1,oM 24 2,oS 25 .sub 23 24,oS 26 .quo 21 25,⟨some 27,none,(.mm true (.const (.int .i64 1073741824)) (.tmp 26))⟩,oM 6 27])
 .ret))))
theorem L45:low Try.prog Try.f45.ntmps (at_ Try.f45 [])=some R45:=by kernel_rfl
theorem N47:Try.f47.ntmps=27:=by kernel_rfl
theorem Z47:Try.f47.results.toList=(#[(.tmp 2)]:Array ResultVar).toList:=by kernel_rfl
theorem B47:Try.f47.body=some (at_ Try.f47 []):=by kernel_rfl
noncomputable def R47:RC:=(.seq (.reg [oK 1 35 0,oF 2])
 (.seq (.seq (.reg [oJ 5 1 0, oD 6 5 2, oJ 7 1 2, oD 8 7 2, oJ 9 1 4, oD 10 9 2, ⟨some 11, none, (.pur ⟨some 11, (.build 107 #[(0, (.tmp 6)), (1, (.tmp 8)), (2, (.tmp 10))]), 107, "", #[], none⟩)⟩, oN 12 0])
 (.block 0 (.other (at_ Try.f47 [1,0,1,0]))))
 (.seq (.reg [oJ 19 1 6,oD 20 19 2,oC 21 44 #[(.tmp 20),(.const (.int .i64 1073741824))] #[31,3],oM 22 21,⟨some 23,some (22,true),(.addo (.tmp 1) 8)⟩,⟨some 24,some (22,true),(.lda (.tmp 23) 2)⟩,oH 25 22 true 44 #[(.tmp 24),(.const (.int .i64 1000))] #[31,3],oA 26 22 25,oM 2 26])
 .ret)))
theorem L47:low Try.prog Try.f47.ntmps (at_ Try.f47 [])=some R47:=by kernel_rfl
theorem ZeD:at_ Try.f47 [1,0,1,0]=.loop (at_ Try.f47 [1,0,1,0,0]):=by kernel_rfl
noncomputable def R47x1:RC:=(.seq (.reg [oQ 13 .lss 12 3])
 (.seq (.cond (.tmp 13) .skip
 (.exit 0))
 (.seq (.block 1 (.seq (.reg [⟨some 14, none, .pur ⟨some 14, (.index 107 (.tmp 11) (.tmp 12)), 31, "", #[], none⟩⟩, ⟨some 4, none, (.alc 31 [(.int .i64 0), (.int .i64 0)])⟩, ⟨none, none, (.sta (.tmp 4) (.tmp 14) 2)⟩])
 (.seq (.reg [oD 15 4 2,oC 16 44 #[(.tmp 15),(.const (.int .i64 1099511627776))] #[31,3],oU 17 16])
 (.cond (.tmp 17) (.seq (.reg [oF 2])
 .ret)
 .skip))))
 (.reg [oR 18 .add 12 1,oM 12 18]))))
theorem Zee:low Try.prog Try.f47.ntmps (at_ Try.f47 [1,0,1,0,0])=some R47x1:=by kernel_rfl
theorem N48:Try.f48.ntmps=33:=by kernel_rfl
theorem Z48:Try.f48.results.toList=(#[(.cell 2 31),(.cell 3 31)]:Array ResultVar).toList:=by kernel_rfl
theorem B48:Try.f48.body=some (at_ Try.f48 []):=by kernel_rfl
noncomputable def R48:RC:=(.seq (.reg [oK 1 35 0,⟨some 2,none,(.alc 31 [(.int .i64 0),(.int .i64 0)])⟩,⟨some 3,none,(.alc 31 [(.int .i64 0),(.int .i64 0)])⟩])
 (.seq (.reg [oC 9 35 #[] #[],oM 8 9,oE 10 8 0 71,oE 11 8 1 71,oM 4 10,oM 5 11])
 (.seq (.reg [⟨some 12, none, (.pur ⟨some 12, (.makeFunc (.func 66) #[] #[(.tmp 1)]), 108, "", #[], none⟩)⟩, oM 6 12])
 (.seq (.reg [oM 13 6, oM 14 4, ⟨some 15, none, (.call ⟨(.value (.tmp 13)), #[(.tmp 14)], #[71]⟩ true)⟩, oM 16 6, oM 17 5, ⟨some 18, none, (.call ⟨(.value (.tmp 16)), #[(.tmp 17)], #[71]⟩ true)⟩, ⟨some 19, none, .pur ⟨some 19, (.build 31 #[(0, (.tmp 15)), (1, (.tmp 18))]), 31, "", #[], none⟩⟩, ⟨none, none, (.sta (.tmp 3) (.tmp 19) 2)⟩])
 (.seq (.reg [⟨some 20, none, (.pur ⟨some 20, (.makeFunc (.func 67) #[] #[(.tmp 1), (.tmp 3)]), 109, "", #[], none⟩)⟩, oM 7 20])
 (.seq (.reg [oM 21 7, oM 22 4, oM 23 5, ⟨some 24, none, .call ⟨(.value (.tmp 21)), #[(.tmp 22), (.tmp 23)], #[71, 71]⟩ true⟩, ⟨some 25, none, (.mm false (.const (.int .i64 0)) (.tmp 24))⟩, oM 26 7, oM 27 5, oM 28 4, ⟨some 29, none, .call ⟨(.value (.tmp 26)), #[(.tmp 27), (.tmp 28)], #[71, 71]⟩ true⟩, ⟨some 30, none, .pur ⟨some 30, (.build 31 #[(0, (.tmp 25)), (1, (.tmp 29))]), 31, "", #[], none⟩⟩, ⟨none, none, (.sta (.tmp 2) (.tmp 30) 2)⟩])
 (.seq (.dreg [oD 31 2 2,oD 32 3 2,⟨none,none,(.sta (.tmp 2) (.tmp 31) 2)⟩,⟨none,none,(.sta (.tmp 3) (.tmp 32) 2)⟩] [7,1,0,0])
 .ret)))))))
theorem L48:low Try.prog Try.f48.ntmps (at_ Try.f48 [])=some R48:=by kernel_rfl
theorem N49:Try.f49.ntmps=11:=by kernel_rfl
theorem Z49:Try.f49.results.toList=(#[(.tmp 2)]:Array ResultVar).toList:=by kernel_rfl
theorem B49:Try.f49.body=some (at_ Try.f49 []):=by kernel_rfl
noncomputable def R49:RC:=(.seq (.reg [oF 2])
 (.seq (.reg [oM 3 0,oW 4 3,oB 5 .leq 4 32,oM 6 5,oG 7 6 true 0,oH 8 6 true 68 #[(.tmp 7),(.func 69)] #[43,111],oV 9 6 true 8,oA 10 6 9,oM 2 10])
 .ret))
theorem L49:low Try.prog Try.f49.ntmps (at_ Try.f49 [])=some R49:=by kernel_rfl
theorem N50:Try.f50.ntmps=9:=by kernel_rfl
theorem Z50:Try.f50.results.toList=(#[(.tmp 4)]:Array ResultVar).toList:=by kernel_rfl
theorem B50:Try.f50.body=some (at_ Try.f50 []):=by kernel_rfl
noncomputable def R50:RC:=(.seq (.reg [oK 3 3 1,oF 4])
 (.seq (.reg [oM 5 0, ⟨some 6, none, (.pur ⟨some 6, (.makeFunc (.func 71) #[] #[(.tmp 3)]), 113, "", #[], none⟩)⟩, oC 7 70 #[(.tmp 5), (.tmp 6)] #[42, 113], oU 8 7, oM 4 8])
 .ret))
theorem L50:low Try.prog Try.f50.ntmps (at_ Try.f50 [])=some R50:=by kernel_rfl
theorem N51:Try.f51.ntmps=53:=by kernel_rfl
theorem Z51:Try.f51.results.toList=(#[(.tmp 8),(.tmp 9)]:Array ResultVar).toList:=by kernel_rfl
theorem B51:Try.f51.body=some (at_ Try.f51 []):=by kernel_rfl
noncomputable def R51:RC:=(.seq (.reg [⟨some 8,none,(.mov (.const (.slice none 0 0)))⟩,oN 9 0])
 (.scp (.seq (.reg [oM 16 2, ⟨some 17, none, .pur ⟨some 17, (.build 93 #[(0, (.tmp 16))]), 93, "", #[], none⟩⟩, ⟨some 10, none, (.alc 93 [(.int .i64 0), (.slice none 0 0)])⟩, ⟨none, none, (.sta (.tmp 10) (.tmp 17) 2)⟩])
 (.seq (.reg [⟨some 11,none,.mov (.const (.slice none 0 0))⟩])
 (.seq .skip
 (.seq (.seq (.reg [oM 18 0,oW 19 18,oN 20 0])
 (.block 0 (.other (at_ Try.f51 [1,0,1,1,1,0,1,0]))))
 (.seq (.reg [oM 52 11,oM 8 52,oN 9 0])
 .ret)))))))
theorem L51:low Try.prog Try.f51.ntmps (at_ Try.f51 [])=some R51:=by kernel_rfl
theorem Zff:at_ Try.f51 [1,0,1,1,1,0,1,0]=.loop (at_ Try.f51 [1,0,1,1,1,0,1,0,0]):=by kernel_rfl
noncomputable def R51x1:RC:=(.seq (.reg [⟨some 21,none,(.cmp .lss (.tmp 20) (.tmp 19))⟩])
 (.seq (.cond (.tmp 21) .skip
 (.exit 0))
 (.seq (.block 1 (.seq (.reg [oI 22 18 20 1,oL 23 22 1,oM 13 23])
 (.seq (.seq (.reg [oM 24 1,oW 25 24,oN 26 0])
 (.block 2 (.other (at_ Try.f51 [1,0,1,1,1,0,1,0,0,1,1,0,0,1,0,1,0]))))
 (.seq (.reg [⟨some 8,none,(.mov (.const (.slice none 0 0)))⟩,oN 9 4])
 .ret))))
 (.reg [oR 51 .add 20 1,oM 20 51]))))
theorem Ze9:low Try.prog Try.f51.ntmps (at_ Try.f51 [1,0,1,1,1,0,1,0,0])=some R51x1:=by kernel_rfl
theorem Zet:at_ Try.f51 [1,0,1,1,1,0,1,0,0,1,1,0,0,1,0,1,0]=.loop (at_ Try.f51 [1,0,1,1,1,0,1,0,0,1,1,0,0,1,0,1,0,0]):=by kernel_rfl
noncomputable def R51x2:RC:=(.seq (.reg [⟨some 27,none,(.cmp .lss (.tmp 26) (.tmp 25))⟩])
 (.seq (.cond (.tmp 27) .skip
 (.exit 2))
 (.seq (.block 3 (.seq (.reg [oM 28 26,oI 29 24 26 1,oL 30 29 1,oM 14 28,oM 15 30])
 (.seq (.reg [oM 31 15,oC 32 72 #[(.tmp 10),(.tmp 31)] #[93,3]])
 (.seq (.seq (.reg [oC 33 60 #[(.tmp 10)] #[93],oM 34 13,oS 35 .add 33 34,oM 36 3,⟨some 37,none,(.cmp .gtr (.tmp 35) (.tmp 36))⟩])
 (.cond (.tmp 37) (.exit 3)
 .skip))
 (.seq (.reg [oM 38 15, oM 39 13, ⟨some 40, none, (.pur ⟨some 40, (.build 95 #[(0, (.tmp 38)), (1, (.tmp 39))]), 95, "", #[], none⟩)⟩, oC 41 59 #[(.tmp 10), (.tmp 40)] #[93, 95]])
 (.seq (.reg [oM 42 11, oM 43 15, ⟨some 44, none, (.mem ⟨some 44, (.buildSlice 42 1 #[(0, (.tmp 43))]), 42, "", #[], none⟩)⟩, ⟨some 45, none, (.mem ⟨some 45, (.call ⟨(.builtin .append), #[(.tmp 42), (.tmp 44)], #[42, 42]⟩), 42, "", #[], none⟩)⟩, oM 11 45])
 (.seq (.reg [oM 46 1, oM 47 14, oR 48 .add 47 1, ⟨some 49, none, (.mem ⟨some 49, (.slice 42 (.tmp 46) (some (.tmp 48)) none none), 42, "", #[], none⟩)⟩, oM 1 49])
 (.exit 1))))))))
 (.reg [oR 50 .add 26 1,oM 26 50]))))
theorem Zfd:low Try.prog Try.f51.ntmps (at_ Try.f51 [1,0,1,1,1,0,1,0,0,1,1,0,0,1,0,1,0,0])=some R51x2:=by kernel_rfl
theorem N52:Try.f52.ntmps=34:=by kernel_rfl
theorem Z52:Try.f52.results.toList=(#[(.tmp 8)]:Array ResultVar).toList:=by kernel_rfl
theorem B52:Try.f52.body=some (at_ Try.f52 []):=by kernel_rfl
noncomputable def R52:RC:=(.seq (.reg [⟨some 8,none,.mov (.const (.slice none 0 0))⟩])
 (.seq (.reg [⟨some 9,none,(.alc 115 qB)⟩])
 (.seq (.seq (.reg [oM 13 0,oM 14 1,oC 15 73 #[(.tmp 13),(.tmp 14)] #[43,3]])
 (.block 0 (.other (at_ Try.f52 [1,1,0,1,0]))))
 (.seq (.reg [⟨some 11,none,.mov (.const (.slice none 0 0))⟩])
 (.seq (.seq (.reg [oM 19 2,oM 12 19])
 (.block 2 (.other (at_ Try.f52 [1,1,1,1,0,1,0]))))
 (.seq (.reg [oM 33 11,oM 8 33])
 .ret))))))
theorem L52:low Try.prog Try.f52.ntmps (at_ Try.f52 [])=some R52:=by kernel_rfl
theorem Zfb:at_ Try.f52 [1,1,0,1,0]=.rangeFunc (.tmp 15) (#[16]) (at_ Try.f52 [1,1,0,1,0,0]) (at_ Try.f52 [1,1,0,1,0,1]):=by kernel_rfl
noncomputable def R52x1:RC:=(.reg [oM 10 16])
theorem Ze8:low Try.prog Try.f52.ntmps (at_ Try.f52 [1,1,0,1,0,0])=some R52x1:=by kernel_rfl
noncomputable def R52x2:RC:=(.block 1 (.reg [oM 17 10,⟨some 18,none,(.idxa (.tmp 9) (.tmp 17) 16385 1)⟩,⟨none,none,.st (.tmp 18) (.const (.bool true))⟩]))
theorem Zeq:low Try.prog Try.f52.ntmps (at_ Try.f52 [1,1,0,1,0,1])=some R52x2:=by kernel_rfl
theorem ZeG:at_ Try.f52 [1,1,1,1,0,1,0]=.loop (at_ Try.f52 [1,1,1,1,0,1,0,0]):=by kernel_rfl
noncomputable def R52x3:RC:=(.seq (.seq (.reg [oM 20 12,oM 21 3,⟨some 22,none,(.cmp .leq (.tmp 20) (.tmp 21))⟩])
 (.cond (.tmp 22) .skip
 (.exit 2)))
 (.seq (.block 3 (.seq (.reg [oM 25 12,⟨some 26,none,(.idxa (.tmp 9) (.tmp 25) 16385 1)⟩,oL 27 26 1,oU 28 27])
 (.cond (.tmp 28) (.reg [oM 29 11, oM 30 12, ⟨some 31, none, (.mem ⟨some 31, (.buildSlice 42 1 #[(0, (.tmp 30))]), 42, "", #[], none⟩)⟩, ⟨some 32, none, (.mem ⟨some 32, (.call ⟨(.builtin .append), #[(.tmp 29), (.tmp 31)], #[42, 42]⟩), 42, "", #[], none⟩)⟩, oM 11 32])
 .skip)))
 (.reg [oM 23 12,oR 24 .add 23 1,oM 12 24])))
theorem ZdY:low Try.prog Try.f52.ntmps (at_ Try.f52 [1,1,1,1,0,1,0,0])=some R52x3:=by kernel_rfl
theorem N54:Try.f54.ntmps=35:=by kernel_rfl
theorem Z54:Try.f54.results.toList=(#[(.tmp 6)]:Array ResultVar).toList:=by kernel_rfl
theorem B54:Try.f54.body=some (at_ Try.f54 []):=by kernel_rfl
noncomputable def R54:RC:=(.seq (.reg [oF 6])
 (.seq (.seq (.reg [oN 7 0])
 (.block 0 (.other (at_ Try.f54 [1,0,1,0]))))
 (.seq (.reg [⟨some 6,none,.mov (.const (.bool true))⟩])
 .ret)))
theorem L54:low Try.prog Try.f54.ntmps (at_ Try.f54 [])=some R54:=by kernel_rfl
theorem ZeF:at_ Try.f54 [1,0,1,0]=.loop (at_ Try.f54 [1,0,1,0,0]):=by kernel_rfl
noncomputable def R54x1:RC:=(.seq (.seq (.reg [oM 8 7,oM 9 0,oW 10 9,⟨some 11,none,(.cmp .lss (.tmp 8) (.tmp 10))⟩])
 (.cond (.tmp 11) .skip
 (.exit 0)))
 (.seq (.block 1 (.seq (.dreg [oM 14 0,oM 15 7,oI 16 14 15 3,oJ 17 16 0,oL 18 17 1,oM 19 1,⟨some 20,none,(.cmpb .eql (.tmp 18) (.tmp 19))⟩,oM 21 20,oG 22 21 true 2,oG 23 21 true 0,oG 24 21 true 7,oIg 25 21 true 23 24 3,⟨some 26,some (21,true),(.addo (.tmp 25) 1)⟩,oLg 27 21 true 26 1,oG 28 21 true 0,oG 29 21 true 7,oIg 30 21 true 28 29 3,⟨some 31,some (21,true),(.addo (.tmp 30) 2)⟩,oLg 32 21 true 31 1,oH 33 21 true 38 #[(.tmp 22),(.tmp 27),(.tmp 32)] #[3,3,3],oA 34 21 33] [1048575,524287,246015,114943,49407,255,255,7935,3839,1791,255,255,255,127,63,0,15,7,3,0,0])
 (.cond (.tmp 34) (.seq (.reg [oF 6])
 .ret)
 .skip)))
 (.reg [oM 12 7,oR 13 .add 12 1,oM 7 13])))
theorem Zep:low Try.prog Try.f54.ntmps (at_ Try.f54 [1,0,1,0,0])=some R54x1:=by kernel_rfl
theorem N55:Try.f55.ntmps=9:=by kernel_rfl
theorem Z55:Try.f55.results.toList=(#[(.tmp 4)]:Array ResultVar).toList:=by kernel_rfl
theorem B55:Try.f55.body=some (at_ Try.f55 []):=by kernel_rfl
noncomputable def R55:RC:=(.seq (.reg [oF 4])
 (.seq (.reg [oM 5 0,oM 6 1,oC 7 74 #[(.tmp 5),(.tmp 6)] #[22,91],oQ 8 .geq 7 0,oM 4 8])
 .ret))
theorem L55:low Try.prog Try.f55.ntmps (at_ Try.f55 [])=some R55:=by kernel_rfl
theorem N56:Try.f56.ntmps=19:=by kernel_rfl
theorem Z56:Try.f56.results.toList=(#[(.tmp 2)]:Array ResultVar).toList:=by kernel_rfl
theorem B56:Try.f56.body=some (at_ Try.f56 []):=by kernel_rfl
noncomputable def R56:RC:=(.seq (.reg [oK 1 52 0,oF 2])
 (.seq (.reg [oJ 3 1 0,oL 4 3 1,oC 5 34 #[(.tmp 4),(.const (.int .i64 16384))] #[3,3],oU 6 5,oM 7 6,⟨some 8,some (7,false),(.addo (.tmp 1) 1)⟩,⟨some 9,some (7,false),(.lda (.tmp 8) 2)⟩,oH 10 7 false 44 #[(.tmp 9),(.const (.int .i64 1073741824))] #[31,3],oV 11 7 false 10,oO 12 7 11,oM 13 12,⟨some 14,some (13,false),(.addo (.tmp 1) 3)⟩,⟨some 15,some (13,false),(.lda (.tmp 14) 2)⟩,oH 16 13 false 44 #[(.tmp 15),(.const (.int .i64 100000))] #[31,3],oV 17 13 false 16,oO 18 13 17,oM 2 18])
 .ret))
theorem L56:low Try.prog Try.f56.ntmps (at_ Try.f56 [])=some R56:=by kernel_rfl
theorem N57:Try.f57.ntmps=5:=by kernel_rfl
theorem Z57:Try.f57.results.toList=(#[(.tmp 2)]:Array ResultVar).toList:=by kernel_rfl
theorem B57:Try.f57.body=some (at_ Try.f57 []):=by kernel_rfl
noncomputable def R57:RC:=(.seq (.reg [oK 1 31 0,oN 2 0])
 (.seq (.reg [oJ 3 1 0,oL 4 3 1,oM 2 4])
 .ret))
theorem L57:low Try.prog Try.f57.ntmps (at_ Try.f57 [])=some R57:=by kernel_rfl
theorem N58:Try.f58.ntmps=5:=by kernel_rfl
theorem Z58:Try.f58.results.toList=(#[(.tmp 2)]:Array ResultVar).toList:=by kernel_rfl
theorem B58:Try.f58.body=some (at_ Try.f58 []):=by kernel_rfl
noncomputable def R58:RC:=(.seq (.reg [oK 1 31 0,oN 2 0])
 (.seq (.reg [oJ 3 1 1,oL 4 3 1,oM 2 4])
 .ret))
theorem L58:low Try.prog Try.f58.ntmps (at_ Try.f58 [])=some R58:=by kernel_rfl
theorem N59:Try.f59.ntmps=18:=by kernel_rfl
theorem Z59:Try.f59.results.toList=(#[]:Array ResultVar).toList:=by kernel_rfl
theorem B59:Try.f59.body=some (at_ Try.f59 []):=by kernel_rfl
noncomputable def R59:RC:=(.seq (.reg [oK 3 95 1])
 (.seq (.reg [oM 4 0,oJ 5 3 0,oL 6 5 1,oC 7 72 #[(.tmp 4),(.tmp 6)] #[120,3]])
 (.dreg [oM 8 0, oM 9 0, ⟨some 10, none, (.nilc (.tmp 9))⟩, oJ 11 10 1, oL 12 11 1, oD 13 3 2, ⟨some 14, none, (.mem ⟨some 14, (.buildSlice 75 1 #[(0, (.tmp 13))]), 75, "", #[], none⟩)⟩, ⟨some 15, none, (.mem ⟨some 15, (.call ⟨(.builtin .append), #[(.tmp 12), (.tmp 14)], #[75, 75]⟩), 75, "", #[], none⟩)⟩, ⟨some 16, none, (.nilc (.tmp 8))⟩, oJ 17 16 1, ⟨none, none, .st (.tmp 17) (.tmp 15)⟩] [1023, 511, 255, 126, 32, 0, 14, 6, 2, 0, 0])))
theorem L59:low Try.prog Try.f59.ntmps (at_ Try.f59 [])=some R59:=by kernel_rfl
theorem N60:Try.f60.ntmps=8:=by kernel_rfl
theorem Z60:Try.f60.results.toList=(#[(.tmp 2)]:Array ResultVar).toList:=by kernel_rfl
theorem B60:Try.f60.body=some (at_ Try.f60 []):=by kernel_rfl
noncomputable def R60:RC:=(.seq (.reg [oN 2 0])
 (.seq (.reg [oM 3 0,⟨some 4,none,(.nilc (.tmp 3))⟩,oJ 5 4 1,oL 6 5 1,oC 7 75 #[(.tmp 6),(.func 76)] #[75,122],oM 2 7])
 .ret))
theorem L60:low Try.prog Try.f60.ntmps (at_ Try.f60 [])=some R60:=by kernel_rfl
theorem N61:Try.f61.ntmps=9:=by kernel_rfl
theorem Z61:Try.f61.results.toList=(#[]:Array ResultVar).toList:=by kernel_rfl
theorem B61:Try.f61.body=some (at_ Try.f61 []):=by kernel_rfl
noncomputable def R61:RC:=(.reg [oM 4 0,oM 5 0,oW 6 5,oM 7 1,oC 8 77 #[(.tmp 4),(.tmp 6),(.tmp 7)] #[75,3,100]])
theorem L61:low Try.prog Try.f61.ntmps (at_ Try.f61 [])=some R61:=by kernel_rfl
theorem N62:Try.f62.ntmps=10:=by kernel_rfl
theorem Z62:Try.f62.results.toList=(#[(.tmp 4)]:Array ResultVar).toList:=by kernel_rfl
theorem B62:Try.f62.body=some (at_ Try.f62 []):=by kernel_rfl
noncomputable def R62:RC:=(.seq (.reg [oK 2 95 0,oK 3 95 1,oN 4 0])
 (.seq (.reg [oJ 5 2 0,oL 6 5 1,oJ 7 3 0,oL 8 7 1,oC 9 63 #[(.tmp 6),(.tmp 8)] #[3,3],oM 4 9])
 .ret))
theorem L62:low Try.prog Try.f62.ntmps (at_ Try.f62 [])=some R62:=by kernel_rfl
theorem N63:Try.f63.ntmps=20:=by kernel_rfl
theorem Z63:Try.f63.results.toList=(#[(.tmp 4)]:Array ResultVar).toList:=by kernel_rfl
theorem B63:Try.f63.body=some (at_ Try.f63 []):=by kernel_rfl
noncomputable def R63:RC:=(.seq (.reg [oN 4 0])
 (.seq (.reg [oM 7 0,oC 8 78 #[(.tmp 7)] #[3],oM 5 8])
 (.seq (.reg [oM 9 1,oC 10 78 #[(.tmp 9)] #[3],oM 6 10])
 (.seq (.seq (.reg [oM 11 5])
 (.cond (.tmp 11) (.seq (.seq (.reg [oM 12 6])
 (.cond (.tmp 12) (.seq (.reg [oN 4 0])
 .ret)
 .skip))
 (.seq (.reg [⟨some 4,none,.mov (.const (.int .i64 (-1)))⟩])
 .ret))
 .skip))
 (.seq (.seq (.reg [oM 13 6])
 (.cond (.tmp 13) (.seq (.reg [oN 4 1])
 .ret)
 .skip))
 (.seq (.seq (.reg [oM 14 0,oM 15 1,⟨some 16,none,(.cmp .lss (.tmp 14) (.tmp 15))⟩])
 (.cond (.tmp 16) (.seq (.reg [⟨some 4,none,.mov (.const (.int .i64 (-1)))⟩])
 .ret)
 .skip))
 (.seq (.seq (.reg [oM 17 0,oM 18 1,⟨some 19,none,(.cmp .gtr (.tmp 17) (.tmp 18))⟩])
 (.cond (.tmp 19) (.seq (.reg [oN 4 1])
 .ret)
 .skip))
 (.seq (.reg [oN 4 0])
 .ret))))))))
theorem L63:low Try.prog Try.f63.ntmps (at_ Try.f63 [])=some R63:=by kernel_rfl
theorem N64:Try.f64.ntmps=27:=by kernel_rfl
theorem Z64:Try.f64.results.toList=(#[(.tmp 4)]:Array ResultVar).toList:=by kernel_rfl
theorem B64:Try.f64.body=some (at_ Try.f64 []):=by kernel_rfl
noncomputable def R64:RC:=(.seq (.reg [⟨some 4,none,.mov (.const (.slice none 0 0))⟩])
 (.seq (.seq (.reg [oM 5 1,oQ 6 .lss 5 0])
 (.cond (.tmp 6) (.reg [⟨some 7, none, .pur ⟨some 7, (.makeInterface 9 (.const (.string (.mk #[99, 97, 110, 110, 111, 116, 32, 98, 101, 32, 110, 101, 103, 97, 116, 105, 118, 101])))), 20, "", #[], none⟩⟩, ⟨none, none, .dead⟩])
 .skip))
 (.seq (.seq (.reg [oM 8 1, oM 9 0, ⟨some 10, none, (.mem ⟨some 10, (.call ⟨(.builtin .cap), #[(.tmp 9)], #[22]⟩), 3, "", #[], none⟩)⟩, oM 11 0, oW 12 11, oS 13 .sub 10 12, oS 14 .sub 8 13, oM 1 14])
 (.seq (.reg [oM 15 1,oQ 16 .gtr 15 0])
 (.cond (.tmp 16) (.reg [oM 17 0, oM 18 0, ⟨some 19, none, (.mem ⟨some 19, (.call ⟨(.builtin .cap), #[(.tmp 18)], #[22]⟩), 3, "", #[], none⟩)⟩, ⟨some 20, none, (.mem ⟨some 20, (.slice 22 (.tmp 17) none (some (.tmp 19)) none), 22, "", #[], none⟩)⟩, oM 21 1, ⟨some 22, none, (.mem ⟨some 22, (.call ⟨(.builtin .append), #[(.tmp 20), (.tmp 21)], #[22, 3]⟩), 22, "", #[], none⟩)⟩, oM 23 0, oW 24 23, ⟨some 25, none, (.mem ⟨some 25, (.slice 22 (.tmp 22) none (some (.tmp 24)) none), 22, "", #[], none⟩)⟩, oM 0 25])
 .skip)))
 (.seq (.reg [oM 26 0,oM 4 26])
 .ret))))
theorem L64:low Try.prog Try.f64.ntmps (at_ Try.f64 [])=some R64:=by kernel_rfl
theorem N65:Try.f65.ntmps=26:=by kernel_rfl
theorem Z65:Try.f65.results.toList=(#[(.cell 4 105)]:Array ResultVar).toList:=by kernel_rfl
theorem B65:Try.f65.body=some (at_ Try.f65 []):=by kernel_rfl
noncomputable def R65:RC:=(.seq (.reg [oK 2 31 0,oK 3 31 1,⟨some 4,none,(.alc 105 [(.int .i64 0),(.int .i64 0),(.int .i64 0),(.int .i64 0),(.int .i64 0),(.int .i64 0),(.int .i64 0),(.int .i64 0)])⟩])
 (.seq (.reg [oJ 5 2 0, oL 6 5 1, oJ 7 3 0, oL 8 7 1, ⟨some 9, none, (.pur ⟨some 9, (.build 104 #[(0, (.tmp 6)), (1, (.tmp 8))]), 104, "", #[], none⟩)⟩, oJ 10 2 0, oL 11 10 1, oJ 12 3 1, oL 13 12 1, ⟨some 14, none, (.pur ⟨some 14, (.build 104 #[(0, (.tmp 11)), (1, (.tmp 13))]), 104, "", #[], none⟩)⟩, oJ 15 2 1, oL 16 15 1, oJ 17 3 0, oL 18 17 1, ⟨some 19, none, (.pur ⟨some 19, (.build 104 #[(0, (.tmp 16)), (1, (.tmp 18))]), 104, "", #[], none⟩)⟩, oJ 20 2 1, oL 21 20 1, oJ 22 3 1, oL 23 22 1, ⟨some 24, none, (.pur ⟨some 24, (.build 104 #[(0, (.tmp 21)), (1, (.tmp 23))]), 104, "", #[], none⟩)⟩, ⟨some 25, none, .pur ⟨some 25, (.build 105 #[(0, (.tmp 9)), (1, (.tmp 14)), (2, (.tmp 19)), (3, (.tmp 24))]), 105, "", #[], none⟩⟩, ⟨none, none, (.sta (.tmp 4) (.tmp 25) 8)⟩])
 .ret))
theorem L65:low Try.prog Try.f65.ntmps (at_ Try.f65 [])=some R65:=by kernel_rfl
theorem N66:Try.f66.ntmps=13:=by kernel_rfl
theorem Z66:Try.f66.results.toList=(#[(.tmp 3)]:Array ResultVar).toList:=by kernel_rfl
theorem B66:Try.f66.body=some (at_ Try.f66 []):=by kernel_rfl
noncomputable def R66:RC:=(.seq (.reg [oN 3 0])
 (.seq (.dreg [oM 4 0,oJ 5 1 6,oD 6 5 2,⟨some 7,none,(.call ⟨(.value (.tmp 4)),#[(.tmp 6)],#[31]⟩ false)⟩,oM 8 0,oJ 9 1 8,oD 10 9 2,⟨some 11,none,(.call ⟨(.value (.tmp 8)),#[(.tmp 10)],#[31]⟩ true)⟩,oS 12 .mul 7 11,oM 3 12] [511,255,127,32,0,0,7,2,0,0])
 .ret))
theorem L66:low Try.prog Try.f66.ntmps (at_ Try.f66 [])=some R66:=by kernel_rfl
theorem N67:Try.f67.ntmps=25:=by kernel_rfl
theorem Z67:Try.f67.results.toList=(#[(.tmp 6)]:Array ResultVar).toList:=by kernel_rfl
theorem B67:Try.f67.body=some (at_ Try.f67 []):=by kernel_rfl
noncomputable def R67:RC:=(.seq (.reg [oN 6 0])
 (.seq (.dreg [oM 7 0,oJ 8 2 0,oD 9 8 2,⟨some 10,none,(.call ⟨(.value (.tmp 7)),#[(.tmp 9)],#[31]⟩ false)⟩,oM 11 0,oJ 12 2 2,oD 13 12 2,⟨some 14,none,(.call ⟨(.value (.tmp 11)),#[(.tmp 13)],#[31]⟩ false)⟩,oS 15 .add 10 14,oM 16 1,oJ 17 2 4,oD 18 17 2,⟨some 19,none,(.call ⟨(.value (.tmp 16)),#[(.tmp 18)],#[31]⟩ false)⟩,oS 20 .sub 15 19,oM 21 1,oD 22 3 2,⟨some 23,none,(.call ⟨(.value (.tmp 21)),#[(.tmp 22)],#[31]⟩ true)⟩,oS 24 .sub 20 23,oM 6 24] [262143,131071,57087,0,0,8191,3839,1024,0,0,255,127,32,0,0,7,2,0,0])
 .ret))
theorem L67:low Try.prog Try.f67.ntmps (at_ Try.f67 [])=some R67:=by kernel_rfl
theorem N68:Try.f68.ntmps=9:=by kernel_rfl
theorem Z68:Try.f68.results.toList=(#[(.tmp 4)]:Array ResultVar).toList:=by kernel_rfl
theorem B68:Try.f68.body=some (at_ Try.f68 []):=by kernel_rfl
noncomputable def R68:RC:=(.seq (.reg [oF 4])
 (.seq (.reg [oM 5 0,oM 6 1,oC 7 79 #[(.tmp 5),(.tmp 6)] #[43,111],oQ 8 .geq 7 0,oM 4 8])
 .ret))
theorem L68:low Try.prog Try.f68.ntmps (at_ Try.f68 [])=some R68:=by kernel_rfl
theorem N69:Try.f69.ntmps=16:=by kernel_rfl
theorem Z69:Try.f69.results.toList=(#[(.tmp 2)]:Array ResultVar).toList:=by kernel_rfl
theorem B69:Try.f69.body=some (at_ Try.f69 []):=by kernel_rfl
noncomputable def R69:RC:=(.seq (.reg [oK 1 68 0,oF 2])
 (.seq (.reg [oJ 3 1 0, oL 4 3 1, oC 5 34 #[(.tmp 4), (.const (.int .i64 63))] #[3, 3], oU 6 5, oM 7 6, ⟨some 8, some (7, false), (.addo (.tmp 1) 1)⟩, oLg 9 7 false 8 1, ⟨some 10, some (7, false), (.addo (.tmp 1) 2)⟩, oLg 11 7 false 10 1, ⟨some 12, some (7, false), (.pur ⟨some 12, (.build 31 #[(0, (.tmp 9)), (1, (.tmp 11))]), 31, "", #[], none⟩)⟩, oH 13 7 false 44 #[(.tmp 12), (.const (.int .i64 16384))] #[31, 3], oV 14 7 false 13, oO 15 7 14, oM 2 15])
 .ret))
theorem L69:low Try.prog Try.f69.ntmps (at_ Try.f69 [])=some R69:=by kernel_rfl
theorem N70:Try.f70.ntmps=9:=by kernel_rfl
theorem Z70:Try.f70.results.toList=(#[(.tmp 4)]:Array ResultVar).toList:=by kernel_rfl
theorem B70:Try.f70.body=some (at_ Try.f70 []):=by kernel_rfl
noncomputable def R70:RC:=(.seq (.reg [oF 4])
 (.seq (.reg [oM 5 0,oM 6 1,oC 7 80 #[(.tmp 5),(.tmp 6)] #[42,113],oQ 8 .geq 7 0,oM 4 8])
 .ret))
theorem L70:low Try.prog Try.f70.ntmps (at_ Try.f70 [])=some R70:=by kernel_rfl
theorem N71:Try.f71.ntmps=8:=by kernel_rfl
theorem Z71:Try.f71.results.toList=(#[(.tmp 3)]:Array ResultVar).toList:=by kernel_rfl
theorem B71:Try.f71.body=some (at_ Try.f71 []):=by kernel_rfl
noncomputable def R71:RC:=(.seq (.reg [oF 3])
 (.seq (.reg [oM 4 0,oL 5 1 1,oC 6 34 #[(.tmp 4),(.tmp 5)] #[3,3],oU 7 6,oM 3 7])
 .ret))
theorem L71:low Try.prog Try.f71.ntmps (at_ Try.f71 [])=some R71:=by kernel_rfl
theorem N72:Try.f72.ntmps=34:=by kernel_rfl
theorem Z72:Try.f72.results.toList=(#[]:Array ResultVar).toList:=by kernel_rfl
theorem B72:Try.f72.body=some (at_ Try.f72 []):=by kernel_rfl
noncomputable def R72:RC:=(.block 0 (.other (at_ Try.f72 [0])))
theorem L72:low Try.prog Try.f72.ntmps (at_ Try.f72 [])=some R72:=by kernel_rfl
theorem ZdX:at_ Try.f72 [0]=.loop (at_ Try.f72 [0,0]):=by kernel_rfl
noncomputable def R72x1:RC:=(.seq (.seq (.dreg [oM 4 0,⟨some 5,none,(.nilc (.tmp 4))⟩,oJ 6 5 1,oL 7 6 1,oW 8 7,oB 9 .gtr 8 0,oM 10 9,oG 11 10 true 0,⟨some 12,some (10,true),(.nilc (.tmp 11))⟩,⟨some 13,some (10,true),(.addo (.tmp 12) 1)⟩,oLg 14 10 true 13 1,⟨some 15,some (10,true),.idx (.tmp 14) (.const (.int .i64 0)) 2⟩,⟨some 16,some (10,true),(.addo (.tmp 15) 0)⟩,oLg 17 10 true 16 1,oG 18 10 true 1,oG 19 10 true 0,⟨some 20,some (10,true),(.nilc (.tmp 19))⟩,⟨some 21,some (10,true),(.addo (.tmp 20) 0)⟩,oLg 22 10 true 21 1,⟨some 23,some (10,true),.ari .sub (.tmp 18) (.tmp 22)⟩,⟨some 24,some (10,true),(.cmpb .leq (.tmp 17) (.tmp 23))⟩,oA 25 10 24] [2097151,1048575,508031,229503,98431,32895,127,127,8191,4095,2047,1023,511,255,127,63,31,15,7,3,1,0])
 (.cond (.tmp 25) .skip
 (.exit 0)))
 (.block 1 (.reg [oM 26 0, oM 27 0, ⟨some 28, none, (.nilc (.tmp 27))⟩, oJ 29 28 1, oL 30 29 1, ⟨some 31, none, (.mem ⟨some 31, (.slice 75 (.tmp 30) (some (.const (.int .i64 1))) none none), 75, "", #[], none⟩)⟩, ⟨some 32, none, (.nilc (.tmp 26))⟩, oJ 33 32 1, ⟨none, none, .st (.tmp 33) (.tmp 31)⟩])))
theorem ZeI:low Try.prog Try.f72.ntmps (at_ Try.f72 [0,0])=some R72x1:=by kernel_rfl
theorem N73:Try.f73.ntmps=6:=by kernel_rfl
theorem Z73:Try.f73.results.toList=(#[(.tmp 4)]:Array ResultVar).toList:=by kernel_rfl
theorem B73:Try.f73.body=some (at_ Try.f73 []):=by kernel_rfl
noncomputable def R73:RC:=(.seq (.reg [oK 2 43 0,oK 3 3 1,⟨some 4,none,.mov (.const .nilFunc)⟩])
 (.seq (.reg [⟨some 5, none, (.pur ⟨some 5, (.makeFunc (.func 81) #[] #[(.tmp 2), (.tmp 3)]), 116, "", #[], none⟩)⟩, oM 4 5])
 .ret))
theorem L73:low Try.prog Try.f73.ntmps (at_ Try.f73 [])=some R73:=by kernel_rfl
theorem N74:Try.f74.ntmps=19:=by kernel_rfl
theorem Z74:Try.f74.results.toList=(#[(.tmp 4)]:Array ResultVar).toList:=by kernel_rfl
theorem B74:Try.f74.body=some (at_ Try.f74 []):=by kernel_rfl
noncomputable def R74:RC:=(.seq (.reg [oN 4 0])
 (.seq (.seq (.reg [oM 6 0,oW 7 6,oN 8 0])
 (.block 0 (.other (at_ Try.f74 [1,0,1,0]))))
 (.seq (.reg [⟨some 4,none,.mov (.const (.int .i64 (-1)))⟩])
 .ret)))
theorem L74:low Try.prog Try.f74.ntmps (at_ Try.f74 [])=some R74:=by kernel_rfl
theorem Ze0:at_ Try.f74 [1,0,1,0]=.loop (at_ Try.f74 [1,0,1,0,0]):=by kernel_rfl
noncomputable def R74x1:RC:=(.seq (.reg [⟨some 9,none,(.cmp .lss (.tmp 8) (.tmp 7))⟩])
 (.seq (.cond (.tmp 9) .skip
 (.exit 0))
 (.seq (.block 1 (.seq (.reg [oM 10 8,oM 5 10])
 (.seq (.reg [oM 11 1,oM 12 0,oM 13 5,oI 14 12 13 5,oD 15 14 5,⟨some 16,none,.call ⟨(.value (.tmp 11)),#[(.tmp 15)],#[52]⟩ true⟩])
 (.cond (.tmp 16) (.seq (.reg [oM 17 5,oM 4 17])
 .ret)
 .skip))))
 (.reg [oR 18 .add 8 1,oM 8 18]))))
theorem ZeH:low Try.prog Try.f74.ntmps (at_ Try.f74 [1,0,1,0,0])=some R74x1:=by kernel_rfl
theorem N75:Try.f75.ntmps=21:=by kernel_rfl
theorem Z75:Try.f75.results.toList=(#[(.tmp 4)]:Array ResultVar).toList:=by kernel_rfl
theorem B75:Try.f75.body=some (at_ Try.f75 []):=by kernel_rfl
noncomputable def R75:RC:=(.seq (.reg [oN 4 0])
 (.seq (.reg [oN 5 0])
 (.seq (.seq (.reg [oM 8 0,oW 9 8,oN 10 0])
 (.block 0 (.other (at_ Try.f75 [1,1,0,1,0]))))
 (.seq (.reg [oM 20 5,oM 4 20])
 .ret))))
theorem L75:low Try.prog Try.f75.ntmps (at_ Try.f75 [])=some R75:=by kernel_rfl
theorem Zeb:at_ Try.f75 [1,1,0,1,0]=.loop (at_ Try.f75 [1,1,0,1,0,0]):=by kernel_rfl
noncomputable def R75x1:RC:=(.seq (.reg [⟨some 11,none,(.cmp .lss (.tmp 10) (.tmp 9))⟩])
 (.seq (.cond (.tmp 11) .skip
 (.exit 0))
 (.seq (.block 1 (.seq (.reg [oI 12 8 10 2,oD 13 12 2,⟨some 7,none,(.alc 95 [(.int .i64 0),(.int .i64 0)])⟩,⟨none,none,(.sta (.tmp 7) (.tmp 13) 2)⟩])
 (.reg [oM 14 5,oM 15 1,oD 16 7 2,⟨some 17,none,(.call ⟨(.value (.tmp 15)),#[(.tmp 16)],#[95]⟩ true)⟩,oS 18 .add 14 17,oM 5 18])))
 (.reg [oR 19 .add 10 1,oM 10 19]))))
theorem ZeP:low Try.prog Try.f75.ntmps (at_ Try.f75 [1,1,0,1,0,0])=some R75x1:=by kernel_rfl
theorem N76:Try.f76.ntmps=5:=by kernel_rfl
theorem Z76:Try.f76.results.toList=(#[(.tmp 2)]:Array ResultVar).toList:=by kernel_rfl
theorem B76:Try.f76.body=some (at_ Try.f76 []):=by kernel_rfl
noncomputable def R76:RC:=(.seq (.reg [oK 1 95 0,oN 2 0])
 (.seq (.reg [oJ 3 1 1,oL 4 3 1,oM 2 4])
 .ret))
theorem L76:low Try.prog Try.f76.ntmps (at_ Try.f76 [])=some R76:=by kernel_rfl
theorem N77:Try.f77.ntmps=63:=by kernel_rfl
theorem Z77:Try.f77.results.toList=(#[]:Array ResultVar).toList:=by kernel_rfl
theorem B77:Try.f77.body=some (at_ Try.f77 []):=by kernel_rfl
noncomputable def R77:RC:=(.seq (.reg [oN 6 20])
 (.seq (.reg [oM 10 6,oN 7 0,oM 8 10])
 (.seq (.block 0 (.other (at_ Try.f77 [1,1,0,0])))
 (.seq (.reg [oM 23 0,oM 24 7,oM 25 1,oM 26 2,oC 27 82 #[(.tmp 23),(.tmp 24),(.tmp 25),(.tmp 26)] #[75,3,3,100]])
 (.block 2 (.other (at_ Try.f77 [1,1,1,1,0])))))))
theorem L77:low Try.prog Try.f77.ntmps (at_ Try.f77 [])=some R77:=by kernel_rfl
theorem ZcR:at_ Try.f77 [1,1,0,0]=.loop (at_ Try.f77 [1,1,0,0,0]):=by kernel_rfl
noncomputable def R77x1:RC:=(.seq (.seq (.reg [oM 11 8,oM 12 1,⟨some 13,none,(.cmp .leq (.tmp 11) (.tmp 12))⟩])
 (.cond (.tmp 13) .skip
 (.exit 0)))
 (.block 1 (.seq (.reg [oM 14 0,oM 15 7,oM 16 8,oM 17 2,oC 18 82 #[(.tmp 14),(.tmp 15),(.tmp 16),(.tmp 17)] #[75,3,3,100]])
 (.seq (.reg [oM 19 8,oM 7 19])
 (.reg [oM 20 8,oM 21 6,oS 22 .add 20 21,oM 8 22])))))
theorem ZcI:low Try.prog Try.f77.ntmps (at_ Try.f77 [1,1,0,0,0])=some R77x1:=by kernel_rfl
theorem ZcO:at_ Try.f77 [1,1,1,1,0]=.loop (at_ Try.f77 [1,1,1,1,0,0]):=by kernel_rfl
noncomputable def R77x2:RC:=(.seq (.seq (.reg [oM 28 6,oM 29 1,⟨some 30,none,(.cmp .lss (.tmp 28) (.tmp 29))⟩])
 (.cond (.tmp 30) .skip
 (.exit 2)))
 (.block 3 (.seq (.reg [oM 31 6,⟨some 32,none,(.ari .mul (.const (.int .i64 2)) (.tmp 31))⟩,oN 7 0,oM 8 32])
 (.seq (.block 4 (.other (at_ Try.f77 [1,1,1,1,0,0,1,0,1,0,0])))
 (.seq (.seq (.reg [oM 49 7,oM 50 6,oS 51 .add 49 50,oM 9 51])
 (.seq (.reg [oM 52 9,oM 53 1,⟨some 54,none,(.cmp .lss (.tmp 52) (.tmp 53))⟩])
 (.cond (.tmp 54) (.reg [oM 55 0,oM 56 7,oM 57 9,oM 58 1,oM 59 2,oC 60 83 #[(.tmp 55),(.tmp 56),(.tmp 57),(.tmp 58),(.tmp 59)] #[75,3,3,3,100]])
 .skip)))
 (.reg [oM 61 6,oR 62 .mul 61 2,oM 6 62]))))))
theorem ZcF:low Try.prog Try.f77.ntmps (at_ Try.f77 [1,1,1,1,0,0])=some R77x2:=by kernel_rfl
theorem Zd4:at_ Try.f77 [1,1,1,1,0,0,1,0,1,0,0]=.loop (at_ Try.f77 [1,1,1,1,0,0,1,0,1,0,0,0]):=by kernel_rfl
noncomputable def R77x3:RC:=(.seq (.seq (.reg [oM 33 8,oM 34 1,⟨some 35,none,(.cmp .leq (.tmp 33) (.tmp 34))⟩])
 (.cond (.tmp 35) .skip
 (.exit 4)))
 (.block 5 (.seq (.reg [oM 36 0,oM 37 7,oM 38 7,oM 39 6,oS 40 .add 38 39,oM 41 8,oM 42 2,oC 43 83 #[(.tmp 36),(.tmp 37),(.tmp 40),(.tmp 41),(.tmp 42)] #[75,3,3,3,100]])
 (.seq (.reg [oM 44 8,oM 7 44])
 (.reg [oM 45 8,oM 46 6,⟨some 47,none,(.ari .mul (.const (.int .i64 2)) (.tmp 46))⟩,oS 48 .add 45 47,oM 8 48])))))
theorem Ze4:low Try.prog Try.f77.ntmps (at_ Try.f77 [1,1,1,1,0,0,1,0,1,0,0,0])=some R77x3:=by kernel_rfl
theorem N78:Try.f78.ntmps=6:=by kernel_rfl
theorem Z78:Try.f78.results.toList=(#[(.tmp 2)]:Array ResultVar).toList:=by kernel_rfl
theorem B78:Try.f78.body=some (at_ Try.f78 []):=by kernel_rfl
noncomputable def R78:RC:=(.seq (.reg [oF 2])
 (.seq (.reg [oM 3 0,oM 4 0,⟨some 5,none,(.cmp .neq (.tmp 3) (.tmp 4))⟩,oM 2 5])
 .ret))
theorem L78:low Try.prog Try.f78.ntmps (at_ Try.f78 [])=some R78:=by kernel_rfl
theorem N79:Try.f79.ntmps=19:=by kernel_rfl
theorem Z79:Try.f79.results.toList=(#[(.tmp 4)]:Array ResultVar).toList:=by kernel_rfl
theorem B79:Try.f79.body=some (at_ Try.f79 []):=by kernel_rfl
noncomputable def R79:RC:=(.seq (.reg [oN 4 0])
 (.seq (.seq (.reg [oM 6 0,oW 7 6,oN 8 0])
 (.block 0 (.other (at_ Try.f79 [1,0,1,0]))))
 (.seq (.reg [⟨some 4,none,.mov (.const (.int .i64 (-1)))⟩])
 .ret)))
theorem L79:low Try.prog Try.f79.ntmps (at_ Try.f79 [])=some R79:=by kernel_rfl
theorem ZeA:at_ Try.f79 [1,0,1,0]=.loop (at_ Try.f79 [1,0,1,0,0]):=by kernel_rfl
noncomputable def R79x1:RC:=(.seq (.reg [⟨some 9,none,(.cmp .lss (.tmp 8) (.tmp 7))⟩])
 (.seq (.cond (.tmp 9) .skip
 (.exit 0))
 (.seq (.block 1 (.seq (.reg [oM 10 8,oM 5 10])
 (.seq (.reg [oM 11 1,oM 12 0,oM 13 5,oI 14 12 13 3,oD 15 14 3,⟨some 16,none,.call ⟨(.value (.tmp 11)),#[(.tmp 15)],#[68]⟩ true⟩])
 (.cond (.tmp 16) (.seq (.reg [oM 17 5,oM 4 17])
 .ret)
 .skip))))
 (.reg [oR 18 .add 8 1,oM 8 18]))))
theorem Ze5:low Try.prog Try.f79.ntmps (at_ Try.f79 [1,0,1,0,0])=some R79x1:=by kernel_rfl
theorem N80:Try.f80.ntmps=19:=by kernel_rfl
theorem Z80:Try.f80.results.toList=(#[(.tmp 4)]:Array ResultVar).toList:=by kernel_rfl
theorem B80:Try.f80.body=some (at_ Try.f80 []):=by kernel_rfl
noncomputable def R80:RC:=(.seq (.reg [oN 4 0])
 (.seq (.seq (.reg [oM 6 0,oW 7 6,oN 8 0])
 (.block 0 (.other (at_ Try.f80 [1,0,1,0]))))
 (.seq (.reg [⟨some 4,none,.mov (.const (.int .i64 (-1)))⟩])
 .ret)))
theorem L80:low Try.prog Try.f80.ntmps (at_ Try.f80 [])=some R80:=by kernel_rfl
theorem Zfl:at_ Try.f80 [1,0,1,0]=.loop (at_ Try.f80 [1,0,1,0,0]):=by kernel_rfl
noncomputable def R80x1:RC:=(.seq (.reg [⟨some 9,none,(.cmp .lss (.tmp 8) (.tmp 7))⟩])
 (.seq (.cond (.tmp 9) .skip
 (.exit 0))
 (.seq (.block 1 (.seq (.reg [oM 10 8,oM 5 10])
 (.seq (.reg [oM 11 1,oM 12 0,oM 13 5,oI 14 12 13 1,oL 15 14 1,⟨some 16,none,.call ⟨(.value (.tmp 11)),#[(.tmp 15)],#[3]⟩ true⟩])
 (.cond (.tmp 16) (.seq (.reg [oM 17 5,oM 4 17])
 .ret)
 .skip))))
 (.reg [oR 18 .add 8 1,oM 8 18]))))
theorem ZeT:low Try.prog Try.f80.ntmps (at_ Try.f80 [1,0,1,0,0])=some R80x1:=by kernel_rfl
theorem N81:Try.f81.ntmps=32:=by kernel_rfl
theorem Z81:Try.f81.results.toList=(#[]:Array ResultVar).toList:=by kernel_rfl
theorem B81:Try.f81.body=some (at_ Try.f81 []):=by kernel_rfl
noncomputable def R81:RC:=(.seq (.reg [oL 7 1 1,oW 8 7,oN 9 0])
 (.block 0 (.other (at_ Try.f81 [1,0]))))
theorem L81:low Try.prog Try.f81.ntmps (at_ Try.f81 [])=some R81:=by kernel_rfl
theorem Zex:at_ Try.f81 [1,0]=.loop (at_ Try.f81 [1,0,0]):=by kernel_rfl
noncomputable def R81x1:RC:=(.seq (.reg [⟨some 10,none,(.cmp .lss (.tmp 9) (.tmp 8))⟩])
 (.seq (.cond (.tmp 10) .skip
 (.exit 0))
 (.seq (.block 1 (.seq (.reg [oI 11 7 9 3,oD 12 11 3,⟨some 5,none,(.alc 68 [(.int .i64 0),(.int .i64 0),(.int .i64 0)])⟩,⟨none,none,(.sta (.tmp 5) (.tmp 12) 3)⟩])
 (.seq (.reg [oJ 13 5 1,oL 14 13 1,oM 6 14])
 (.block 2 (.other (at_ Try.f81 [1,0,0,1,1,0,0,1,1,0]))))))
 (.reg [oR 31 .add 9 1,oM 9 31]))))
theorem Zd0:low Try.prog Try.f81.ntmps (at_ Try.f81 [1,0,0])=some R81x1:=by kernel_rfl
theorem ZeE:at_ Try.f81 [1,0,0,1,1,0,0,1,1,0]=.loop (at_ Try.f81 [1,0,0,1,1,0,0,1,1,0,0]):=by kernel_rfl
noncomputable def R81x2:RC:=(.seq (.seq (.reg [oJ 15 5 0,oL 16 15 1,oL 17 2 1,⟨some 18,none,(.cmpb .eql (.tmp 16) (.tmp 17))⟩,oM 19 18,oG 20 19 true 6,⟨some 21,some (19,true),(.addo (.tmp 5) 2)⟩,oLg 22 19 true 21 1,⟨some 23,some (19,true),(.cmpb .leq (.tmp 20) (.tmp 22))⟩,oA 24 19 23])
 (.cond (.tmp 24) .skip
 (.exit 2)))
 (.seq (.block 3 (.seq (.reg [oM 27 0,oM 28 6,⟨some 29,none,(.call ⟨(.value (.tmp 27)),#[(.tmp 28)],#[3]⟩ true)⟩,oU 30 29])
 (.cond (.tmp 30) .ret
 .skip)))
 (.reg [oM 25 6,oR 26 .add 25 1,oM 6 26])))
theorem Zeg:low Try.prog Try.f81.ntmps (at_ Try.f81 [1,0,0,1,1,0,0,1,1,0,0])=some R81x2:=by kernel_rfl
theorem N82:Try.f82.ntmps=53:=by kernel_rfl
theorem Z82:Try.f82.results.toList=(#[]:Array ResultVar).toList:=by kernel_rfl
theorem B82:Try.f82.body=some (at_ Try.f82 []):=by kernel_rfl
noncomputable def R82:RC:=(.seq (.reg [oM 10 1,oR 11 .add 10 1,oM 8 11])
 (.block 0 (.other (at_ Try.f82 [1,0]))))
theorem L82:low Try.prog Try.f82.ntmps (at_ Try.f82 [])=some R82:=by kernel_rfl
theorem ZcH:at_ Try.f82 [1,0]=.loop (at_ Try.f82 [1,0,0]):=by kernel_rfl
noncomputable def R82x1:RC:=(.seq (.seq (.reg [oM 12 8,oM 13 2,⟨some 14,none,(.cmp .lss (.tmp 12) (.tmp 13))⟩])
 (.cond (.tmp 14) .skip
 (.exit 0)))
 (.seq (.block 1 (.seq (.reg [oM 17 8,oM 9 17])
 (.block 2 (.other (at_ Try.f82 [1,0,0,1,0,0,1,0])))))
 (.reg [oM 15 8,oR 16 .add 15 1,oM 8 16])))
theorem Zc5:low Try.prog Try.f82.ntmps (at_ Try.f82 [1,0,0])=some R82x1:=by kernel_rfl
theorem Zd7:at_ Try.f82 [1,0,0,1,0,0,1,0]=.loop (at_ Try.f82 [1,0,0,1,0,0,1,0,0]):=by kernel_rfl
noncomputable def R82x2:RC:=(.seq (.seq (.dreg [oM 18 9,oM 19 1,⟨some 20,none,(.cmpb .gtr (.tmp 18) (.tmp 19))⟩,oM 21 20,oG 22 21 true 3,oG 23 21 true 0,oG 24 21 true 9,oIg 25 21 true 23 24 2,⟨some 26,some (21,true),(.lda (.tmp 25) 2)⟩,oG 27 21 true 0,oG 28 21 true 9,⟨some 29,some (21,true),(.ari .sub (.tmp 28) (.const (.int .i64 1)))⟩,oIg 30 21 true 27 29 2,⟨some 31,some (21,true),(.lda (.tmp 30) 2)⟩,⟨some 32,some (21,true),(.call ⟨(.value (.tmp 22)),#[(.tmp 26),(.tmp 31)],#[95,95]⟩ true)⟩,oBg 33 21 true .lss 32 0,oA 34 21 33] [65535,32767,16383,7695,3599,1039,15,15,239,111,15,15,15,7,3,0,0])
 (.cond (.tmp 34) .skip
 (.exit 2)))
 (.seq (.block 3 (.dreg [oM 37 0,oM 38 9,oM 39 0,oM 40 9,oR 41 .sub 40 1,oM 42 0,oM 43 9,oR 44 .sub 43 1,oI 45 42 44 2,oD 46 45 2,oM 47 0,oM 48 9,oI 49 47 48 2,oD 50 49 2,oI 51 37 38 2,⟨none,none,(.sta (.tmp 51) (.tmp 46) 2)⟩,oI 52 39 41 2,⟨none,none,(.sta (.tmp 52) (.tmp 50) 2)⟩] [131071,65535,32739,16355,7168,3072,0,0,480,224,64,0,0,8,0,0,0,0]))
 (.reg [oM 35 9,oR 36 .sub 35 1,oM 9 36])))
theorem Zfm:low Try.prog Try.f82.ntmps (at_ Try.f82 [1,0,0,1,0,0,1,0,0])=some R82x2:=by kernel_rfl
theorem N83:Try.f83.ntmps=220:=by kernel_rfl
theorem Z83:Try.f83.results.toList=(#[]:Array ResultVar).toList:=by kernel_rfl
theorem B83:Try.f83.body=some (at_ Try.f83 []):=by kernel_rfl
theorem Zd6:at_ Try.f83 [0,1,0,1,1,0,0]=.loop (at_ Try.f83 [0,1,0,1,1,0,0,0]):=by kernel_rfl
noncomputable def R83x1:RC:=(.seq (.seq (.reg [oM 31 10,oM 32 11,⟨some 33,none,(.cmp .lss (.tmp 31) (.tmp 32))⟩])
 (.cond (.tmp 33) .skip
 (.exit 0)))
 (.block 1 (.seq (.reg [oM 34 10, oM 35 11, oS 36 .add 34 35, ⟨some 37, none, .pur ⟨some 37, (.convert 3 128 (.tmp 36)), 128, "", #[], none⟩⟩, ⟨some 38, none, .pur ⟨some 38, (.binOp .shr 128 (.tmp 37) (.const (.int .u64 1)) 128), 128, "", #[], none⟩⟩, ⟨some 39, none, (.pur ⟨some 39, (.convert 128 3 (.tmp 38)), 3, "", #[], none⟩)⟩, oM 12 39])
 (.seq (.dreg [oM 40 4,oM 41 0,oM 42 12,oI 43 41 42 2,oD 44 43 2,oM 45 0,oM 46 1,oI 47 45 46 2,oD 48 47 2,⟨some 49,none,(.call ⟨(.value (.tmp 40)),#[(.tmp 44),(.tmp 48)],#[95,95]⟩ true)⟩,oQ 50 .lss 49 0] [1023,511,224,96,0,0,14,6,0,0,0])
 (.cond (.tmp 50) (.reg [oM 51 12,oR 52 .add 51 1,oM 10 52])
 (.reg [oM 53 12,oM 11 53]))))))
theorem Zek:low Try.prog Try.f83.ntmps (at_ Try.f83 [0,1,0,1,1,0,0,0])=some R83x1:=by kernel_rfl
theorem Zd1:at_ Try.f83 [0,1,0,1,1,1,0,1,0]=.loop (at_ Try.f83 [0,1,0,1,1,1,0,1,0,0]):=by kernel_rfl
noncomputable def R83x2:RC:=(.seq (.seq (.reg [oM 55 13,oM 56 10,oR 57 .sub 56 1,⟨some 58,none,(.cmp .lss (.tmp 55) (.tmp 57))⟩])
 (.cond (.tmp 58) .skip
 (.exit 2)))
 (.seq (.block 3 (.dreg [oM 61 0,oM 62 13,oM 63 0,oM 64 13,oR 65 .add 64 1,oM 66 0,oM 67 13,oR 68 .add 67 1,oI 69 66 68 2,oD 70 69 2,oM 71 0,oM 72 13,oI 73 71 72 2,oD 74 73 2,oI 75 61 62 2,⟨none,none,(.sta (.tmp 75) (.tmp 70) 2)⟩,oI 76 63 65 2,⟨none,none,(.sta (.tmp 76) (.tmp 74) 2)⟩] [131071,65535,32739,16355,7168,3072,0,0,480,224,64,0,0,8,0,0,0,0]))
 (.reg [oM 59 13,oR 60 .add 59 1,oM 13 60])))
theorem Zfr:low Try.prog Try.f83.ntmps (at_ Try.f83 [0,1,0,1,1,1,0,1,0,0])=some R83x2:=by kernel_rfl
theorem ZeS:at_ Try.f83 [1,0,1,0,1,1,0,0]=.loop (at_ Try.f83 [1,0,1,0,1,1,0,0,0]):=by kernel_rfl
noncomputable def R83x3:RC:=(.seq (.seq (.reg [oM 83 14,oM 84 15,⟨some 85,none,(.cmp .lss (.tmp 83) (.tmp 84))⟩])
 (.cond (.tmp 85) .skip
 (.exit 4)))
 (.block 5 (.seq (.reg [oM 86 14, oM 87 15, oS 88 .add 86 87, ⟨some 89, none, .pur ⟨some 89, (.convert 3 128 (.tmp 88)), 128, "", #[], none⟩⟩, ⟨some 90, none, .pur ⟨some 90, (.binOp .shr 128 (.tmp 89) (.const (.int .u64 1)) 128), 128, "", #[], none⟩⟩, ⟨some 91, none, (.pur ⟨some 91, (.convert 128 3 (.tmp 90)), 3, "", #[], none⟩)⟩, oM 16 91])
 (.seq (.dreg [oM 92 4,oM 93 0,oM 94 2,oI 95 93 94 2,oD 96 95 2,oM 97 0,oM 98 16,oI 99 97 98 2,oD 100 99 2,⟨some 101,none,(.call ⟨(.value (.tmp 92)),#[(.tmp 96),(.tmp 100)],#[95,95]⟩ true)⟩,oQ 102 .lss 101 0,oU 103 102] [2047,1023,511,224,96,0,0,14,6,0,0,0])
 (.cond (.tmp 103) (.reg [oM 104 16,oR 105 .add 104 1,oM 14 105])
 (.reg [oM 106 16,oM 15 106]))))))
theorem Ze2:low Try.prog Try.f83.ntmps (at_ Try.f83 [1,0,1,0,1,1,0,0,0])=some R83x3:=by kernel_rfl
theorem ZeU:at_ Try.f83 [1,0,1,0,1,1,1,0,1,0]=.loop (at_ Try.f83 [1,0,1,0,1,1,1,0,1,0,0]):=by kernel_rfl
noncomputable def R83x4:RC:=(.seq (.seq (.reg [oM 108 17,oM 109 14,⟨some 110,none,(.cmp .gtr (.tmp 108) (.tmp 109))⟩])
 (.cond (.tmp 110) .skip
 (.exit 6)))
 (.seq (.block 7 (.dreg [oM 113 0,oM 114 17,oM 115 0,oM 116 17,oR 117 .sub 116 1,oM 118 0,oM 119 17,oR 120 .sub 119 1,oI 121 118 120 2,oD 122 121 2,oM 123 0,oM 124 17,oI 125 123 124 2,oD 126 125 2,oI 127 113 114 2,⟨none,none,(.sta (.tmp 127) (.tmp 122) 2)⟩,oI 128 115 117 2,⟨none,none,(.sta (.tmp 128) (.tmp 126) 2)⟩] [131071,65535,32739,16355,7168,3072,0,0,480,224,64,0,0,8,0,0,0,0]))
 (.reg [oM 111 17,oR 112 .sub 111 1,oM 17 112])))
theorem Zel:low Try.prog Try.f83.ntmps (at_ Try.f83 [1,0,1,0,1,1,1,0,1,0,0])=some R83x4:=by kernel_rfl
theorem ZeL:at_ Try.f83 [1,1,1,1,1,1,1,0,0]=.loop (at_ Try.f83 [1,1,1,1,1,1,1,0,0,0]):=by kernel_rfl
noncomputable def R83x5:RC:=(.seq (.seq (.reg [oM 149 20,oM 150 21,⟨some 151,none,(.cmp .lss (.tmp 149) (.tmp 150))⟩])
 (.cond (.tmp 151) .skip
 (.exit 8)))
 (.block 9 (.seq (.reg [oM 152 20, oM 153 21, oS 154 .add 152 153, ⟨some 155, none, .pur ⟨some 155, (.convert 3 128 (.tmp 154)), 128, "", #[], none⟩⟩, ⟨some 156, none, .pur ⟨some 156, (.binOp .shr 128 (.tmp 155) (.const (.int .u64 1)) 128), 128, "", #[], none⟩⟩, ⟨some 157, none, (.pur ⟨some 157, (.convert 128 3 (.tmp 156)), 3, "", #[], none⟩)⟩, oM 23 157])
 (.seq (.dreg [oM 158 4,oM 159 0,oM 160 22,oM 161 23,oS 162 .sub 160 161,oI 163 159 162 2,oD 164 163 2,oM 165 0,oM 166 23,oI 167 165 166 2,oD 168 167 2,⟨some 169,none,(.call ⟨(.value (.tmp 158)),#[(.tmp 164),(.tmp 168)],#[95,95]⟩ true)⟩,oQ 170 .lss 169 0,oU 171 170] [8191,4095,2047,896,384,0,0,62,30,12,0,0,0,0])
 (.cond (.tmp 171) (.reg [oM 172 23,oR 173 .add 172 1,oM 20 173])
 (.reg [oM 174 23,oM 21 174]))))))
theorem Ze7:low Try.prog Try.f83.ntmps (at_ Try.f83 [1,1,1,1,1,1,1,0,0,0])=some R83x5:=by kernel_rfl
theorem N84:Try.f84.ntmps=58:=by kernel_rfl
theorem Z84:Try.f84.results.toList=(#[]:Array ResultVar).toList:=by kernel_rfl
theorem B84:Try.f84.body=some (at_ Try.f84 []):=by kernel_rfl
noncomputable def R84:RC:=(.seq (.reg [oM 12 2,oM 13 1,oS 14 .sub 12 13,oM 10 14])
 (.seq (.reg [oM 15 3,oM 16 2,oS 17 .sub 15 16,oM 11 17])
 (.seq (.block 0 (.other (at_ Try.f84 [1,1,0,0])))
 (.reg [oM 50 0,oM 51 2,oM 52 10,oS 53 .sub 51 52,oM 54 2,oM 55 10,oM 56 4,oC 57 85 #[(.tmp 50),(.tmp 53),(.tmp 54),(.tmp 55),(.tmp 56)] #[75,3,3,3,100]]))))
theorem L84:low Try.prog Try.f84.ntmps (at_ Try.f84 [])=some R84:=by kernel_rfl
theorem Zd3:at_ Try.f84 [1,1,0,0]=.loop (at_ Try.f84 [1,1,0,0,0]):=by kernel_rfl
noncomputable def R84x1:RC:=(.seq (.seq (.reg [oM 18 10,oM 19 11,⟨some 20,none,(.cmp .neq (.tmp 18) (.tmp 19))⟩])
 (.cond (.tmp 20) .skip
 (.exit 0)))
 (.block 1 (.seq (.reg [oM 21 10,oM 22 11,⟨some 23,none,(.cmp .gtr (.tmp 21) (.tmp 22))⟩])
 (.cond (.tmp 23) (.seq (.reg [oM 24 0,oM 25 2,oM 26 10,oS 27 .sub 25 26,oM 28 2,oM 29 11,oM 30 4,oC 31 85 #[(.tmp 24),(.tmp 27),(.tmp 28),(.tmp 29),(.tmp 30)] #[75,3,3,3,100]])
 (.reg [oM 32 10,oM 33 11,oS 34 .sub 32 33,oM 10 34]))
 (.seq (.reg [oM 35 0,oM 36 2,oM 37 10,oS 38 .sub 36 37,oM 39 2,oM 40 11,oS 41 .add 39 40,oM 42 10,oS 43 .sub 41 42,oM 44 10,oM 45 4,oC 46 85 #[(.tmp 35),(.tmp 38),(.tmp 43),(.tmp 44),(.tmp 45)] #[75,3,3,3,100]])
 (.reg [oM 47 11,oM 48 10,oS 49 .sub 47 48,oM 11 49]))))))
theorem Zd2:low Try.prog Try.f84.ntmps (at_ Try.f84 [1,1,0,0,0])=some R84x1:=by kernel_rfl
theorem N85:Try.f85.ntmps=38:=by kernel_rfl
theorem Z85:Try.f85.results.toList=(#[]:Array ResultVar).toList:=by kernel_rfl
theorem B85:Try.f85.body=some (at_ Try.f85 []):=by kernel_rfl
noncomputable def R85:RC:=(.seq (.reg [oN 10 0])
 (.block 0 (.other (at_ Try.f85 [1,0]))))
theorem L85:low Try.prog Try.f85.ntmps (at_ Try.f85 [])=some R85:=by kernel_rfl
theorem ZeC:at_ Try.f85 [1,0]=.loop (at_ Try.f85 [1,0,0]):=by kernel_rfl
noncomputable def R85x1:RC:=(.seq (.seq (.reg [oM 11 10,oM 12 3,⟨some 13,none,(.cmp .lss (.tmp 11) (.tmp 12))⟩])
 (.cond (.tmp 13) .skip
 (.exit 0)))
 (.seq (.block 1 (.dreg [oM 16 0,oM 17 1,oM 18 10,oS 19 .add 17 18,oM 20 0,oM 21 2,oM 22 10,oS 23 .add 21 22,oM 24 0,oM 25 2,oM 26 10,oS 27 .add 25 26,oI 28 24 27 2,oD 29 28 2,oM 30 0,oM 31 1,oM 32 10,oS 33 .add 31 32,oI 34 30 33 2,oD 35 34 2,oI 36 16 19 2,⟨none,none,(.sta (.tmp 36) (.tmp 29) 2)⟩,oI 37 20 23 2,⟨none,none,(.sta (.tmp 37) (.tmp 35) 2)⟩] [8388607,4194303,2096911,1048335,507904,245760,98304,0,0,0,7936,3840,1536,0,0,0,96,0,0,0,6,0,0,0]))
 (.reg [oM 14 10,oR 15 .add 14 1,oM 10 15])))
theorem ZdZ:low Try.prog Try.f85.ntmps (at_ Try.f85 [1,0,0])=some R85x1:=by kernel_rfl
end Go.Ax

/-! Sorting: swaps,what is put in another order,heaps (no program in it). -/
namespace Go.Ax
section
variable {β:Type}
def upd (g:Nat→β) (k:Nat) (v:β):Nat→β:=fun x=>if x=k then v else g x
def swp (g:Nat→β) (i j:Nat):Nat→β:=upd (upd g i (g j)) j (g i)
theorem Va (g:Nat→β) (i j k:Nat):swp g i j k=if k=j then g i else if k=i then g j else g k:=rfl
theorem Qg {g:Nat→β} {i j:Nat}:swp g i j i=g j:=by
 rw [Va];by_cases h:i=j
 ·rw [if_pos h,h]
 ·rw [if_neg h,if_pos rfl]
theorem jw {g:Nat→β} {i j:Nat}:swp g i j j=g i:=by rw [Va,if_pos rfl]
theorem Ve {g:Nat→β} {i j k:Nat} (h1:k≠i) (h2:k≠j):swp g i j k=g k:=by rw [Va,if_neg h2,if_neg h1]
theorem Zbg {g:Nat→β} {i:Nat}:swp g i i=g:=by
 funext k;rw [Va];by_cases h:k=i
 ·rw [if_pos h,h]
 ·rw [if_neg h,if_neg h]
theorem Za0 {g:Nat→β} {i j:Nat}:swp g i j=swp g j i:=by
 funext k;rw [Va,Va];by_cases h:k=j
 ·by_cases h2:k=i
  ·rw [if_pos h,if_pos h2,← h,← h2]
  ·rw [if_pos h,if_neg h2,if_pos h]
 ·by_cases h2:k=i
  ·rw [if_neg h,if_pos h2,if_pos h2]
  ·rw [if_neg h,if_neg h2,if_neg h2,if_neg h]
def rg (g:Nat→β) (a b:Nat):List β:=(List.range' a (b - a)).map g
theorem VI {g:Nat→β} {a m b:Nat} (h1:a≤m) (h2:m≤b):rg g a b=rg g a m ++ rg g m b:=by
 unfold rg
 rw [← List.map_append]
 congr 1
 have:b - a=(m - a)+(b - m):=by omega
 rw [this,← List.range'_append_1,show a+(m - a)=m by omega]
theorem Zbp {g g':Nat→β} {a b:Nat} (h:∀ i,a≤i→i < b→g' i=g i):rg g' a b=rg g a b:=by
 unfold rg
 refine List.map_congr_left fun i hi=>?_
 rw [List.mem_range'_1] at hi
 exact h i hi.1 (by omega)
theorem Zbz {g:Nat→β} {a b:Nat} {x:β}:x∈rg g a b↔∃ i,a≤i∧i < b∧g i=x:=by
 unfold rg
 rw [List.mem_map]
 constructor
 ·rintro ⟨i,hi,e⟩;rw [List.mem_range'_1] at hi;exact ⟨i,hi.1,by omega,e⟩
 ·rintro ⟨i,h1,h2,e⟩;exact ⟨i,List.mem_range'_1.2 ⟨h1,by omega⟩,e⟩
theorem zs {g:Nat→β} {a:Nat}:rg g a (a+1)=[g a]:=by
 unfold rg;rw [show a+1 - a=1 by omega];rfl
structure PRm (a b:Nat) (g g':Nat→β):Prop where
 out:∀ i,(i < a∨b≤i)→g' i=g i
 perm:(rg g' a b).Perm (rg g a b)
theorem PRm.refl (a b:Nat) (g:Nat→β):PRm a b g g:=⟨fun _ _=>rfl,.refl _⟩
theorem PRm.trans {a b:Nat} {g g' g'':Nat→β} (h:PRm a b g g') (k:PRm a b g' g''):PRm a b g g'':=⟨fun i hi=>(k.out i hi).trans (h.out i hi),k.perm.trans h.perm⟩
theorem PRm.mem {a b:Nat} {g g':Nat→β} (h:PRm a b g g') {i:Nat} (h1:a≤i) (h2:i < b):∃ j,a≤j∧j < b∧g' i=g j:=by
 have:g' i∈rg g a b:=h.perm.mem_iff.1 (Zbz.2 ⟨i,h1,h2,rfl⟩)
 obtain ⟨j,a1,a2,e⟩:=Zbz.1 this
 exact ⟨j,a1,a2,e.symm⟩
theorem PRm.mono {a b a' b':Nat} {g g':Nat→β} (h:PRm a b g g') (ha:a'≤a) (hab:a≤b) (hb:b≤b'):PRm a' b' g g':=by
 refine ⟨fun i hi=>h.out i (by omega),?_⟩
 rw [VI (m:=a) ha (by omega),VI (g:=g) (m:=a) ha (by omega),VI (a:=a) (m:=b) hab hb,VI (g:=g) (a:=a) (m:=b) hab hb]
 rw [Zbp (g:=g) (g':=g') (a:=a') (fun i _ hi=>h.out i (.inl hi)),Zbp (g:=g) (g':=g') (a:=b) (fun i hi _=>h.out i (.inr hi))]
 exact List.Perm.append_left _ (List.Perm.append_right _ h.perm)
theorem PRm.swap_lt {i j:Nat} {g:Nat→β} (h:i < j):PRm i (j+1) g (swp g i j):=by
 refine ⟨fun k hk=>Ve (by omega) (by omega),?_⟩
 rw [VI (m:=i+1) (by omega) (by omega),VI (g:=g) (m:=i+1) (by omega) (by omega),VI (a:=i+1) (m:=j) (by omega) (by omega),VI (g:=g) (a:=i+1) (m:=j) (by omega) (by omega)]
 rw [zs,zs,zs,zs,Qg,jw,Zbp (g:=g) (g':=swp g i j) (a:=i+1) (fun k h1 h2=>Ve (by omega) (by omega))]
 generalize rg g (i+1) j=m
 have e1:([g j] ++ (m ++ [g i])).Perm (m ++ [g i] ++ [g j]):=List.perm_append_comm
 have e2:([g i] ++ (m ++ [g j])).Perm (m ++ [g j] ++ [g i]):=List.perm_append_comm
 refine e1.trans (List.Perm.trans ?_ e2.symm)
 rw [List.append_assoc,List.append_assoc]
 exact List.Perm.append_left _ (List.Perm.swap _ _ [])
theorem PRm.swap {a b i j:Nat} {g:Nat→β} (h1:a≤i) (h2:i < b) (h3:a≤j) (h4:j < b):PRm a b g (swp g i j):=by
 rcases Nat.lt_trichotomy i j with h | h | h
 ·exact (PRm.swap_lt h).mono h1 (by omega) (by omega)
 ·subst h;rw [Zbg];exact .refl _ _ _
 ·rw [Za0];exact (PRm.swap_lt h).mono h3 (by omega) (by omega)
section
variable (r:β→Int)
def Ord (A B a b:Nat) (g:Nat→β):Prop:=∀ i j,A≤i→i≤j→j < B→(i < a∨b≤j)→r (g i)≤r (g j)
def Low (a b:Nat) (g:Nat→β):Prop:=∀ i,0 < a→a≤i→i < b→r (g (a - 1))≤r (g i)
def Sor (a b:Nat) (g:Nat→β):Prop:=∀ i j,a≤i→i≤j→j < b→r (g i)≤r (g j)
variable {r} {A B a b:Nat} {g g':Nat→β}
theorem Ord.all (h:Ord r A B a b g) (hs:Sor r a b g):Sor r A B g:=fun i j h1 h2 h3=>by
 by_cases q:i < a∨b≤j
 ·exact h i j h1 h2 h3 q
 ·exact hs i j (by omega) h2 (by omega)
theorem Ord.perm (h:Ord r A B a b g) (p:PRm a b g g') (hA:A≤a) (hB:b≤B):Ord r A B a b g':=by
 intro i j h1 h2 h3 h4
 rcases h4 with h4 | h4
 ·rw [p.out i (.inl h4)]
  by_cases q:j < a∨b≤j
  ·rw [p.out j q];exact h i j h1 h2 h3 (.inl h4)
  ·obtain ⟨k,k1,k2,e⟩:=p.mem (i:=j) (by omega) (by omega)
   rw [e];exact h i k h1 (by omega) (by omega) (.inl h4)
 ·rw [p.out j (.inr h4)]
  by_cases q:i < a∨b≤i
  ·rw [p.out i q];exact h i j h1 h2 h3 (.inr h4)
  ·obtain ⟨k,k1,k2,e⟩:=p.mem (i:=i) (by omega) (by omega)
   rw [e];exact h k j (by omega) (by omega) h3 (.inr h4)
theorem Low.perm (h:Low r a b g) (p:PRm a b g g'):Low r a b g':=by
 intro i h0 h1 h2
 rw [p.out (a - 1) (by omega)]
 obtain ⟨k,k1,k2,e⟩:=p.mem h1 h2
 rw [e];exact h k h0 k1 k2
theorem Ord.low (h:Ord r A B a b g) (h0:Low r A B g) (hA:A≤a) (hB:b≤B):Low r a b g:=by
 intro i q h1 h2
 rcases Nat.lt_or_ge A a with h3 | h3
 ·exact h (a - 1) i (by omega) (by omega) (by omega) (.inl (by omega))
 ·have:A=a:=by omega
  subst this;exact h0 i q h1 (by omega)
def ZeJ (r:β→Int) (a b m:Nat) (g:Nat→β):Prop:=(∀ i,a≤i→i < m→r (g i)≤r (g m))∧∀ i,m < i→i < b→r (g m)≤r (g i)
theorem Ord.right {m:Nat} (h:Ord r A B a b g) (p:ZeJ r a b m g) (hA:A≤a) (hB:b≤B) (h1:a≤m) (h2:m < b) (hs:Sor r a m g):Ord r A B (m+1) b g:=by
 intro i j q1 q2 q3 q4
 by_cases q:i < a∨b≤j
 ·exact h i j q1 q2 q3 q
 ·have hi:i < m+1:=by omega
  rcases Nat.lt_trichotomy j m with c | c | c
  ·exact hs i j (by omega) q2 c
  ·subst c
   rcases Nat.lt_or_ge i j with d | d
   ·exact p.1 i (by omega) d
   ·have:i=j:=by omega
    rw [this];omega
  ·have x:=p.2 j c (by omega)
   rcases Nat.lt_or_ge i m with d | d
   ·have:=p.1 i (by omega) d;omega
   ·have:i=m:=by omega
    rw [this];exact x
theorem Ord.left {m:Nat} (h:Ord r A B a b g) (p:ZeJ r a b m g) (hA:A≤a) (hB:b≤B) (h1:a≤m) (h2:m < b) (hs:Sor r (m+1) b g):Ord r A B a m g:=by
 intro i j q1 q2 q3 q4
 by_cases q:i < a∨b≤j
 ·exact h i j q1 q2 q3 q
 ·have hj:m≤j:=by omega
  rcases Nat.lt_trichotomy i m with c | c | c
  ·have x:=p.1 i (by omega) c
   rcases Nat.lt_or_ge m j with d | d
   ·have:=p.2 j d (by omega);omega
   ·have:j=m:=by omega
    rw [this];exact x
  ·subst c
   rcases Nat.lt_or_ge i j with d | d
   ·exact p.2 j d (by omega)
   ·have:i=j:=by omega
    rw [this];omega
  ·exact hs i j (by omega) q2 (by omega)
theorem Ord.equal {m:Nat} (h:Ord r A B a b g) (hA:A≤a) (hB:b≤B) (hm:m≤b) (hl:∀ i,a≤i→i < m→∀ j,a≤j→j < b→r (g i)≤r (g j)):Ord r A B m b g:=by
 intro i j q1 q2 q3 q4
 by_cases q:i < a∨b≤j
 ·exact h i j q1 q2 q3 q
 ·exact hl i (by omega) (by omega) j (by omega) (by omega)
/-! Heaps. -/
def Hea (r:β→Int) (f lo hi x:Nat) (g:Nat→β):Prop:=∀ i c,lo≤i→(c=2 * i+1∨c=2 * i+2)→c < hi→i≠x→r (g (f+c))≤r (g (f+i))
def Gra (r:β→Int) (f lo hi x:Nat) (g:Nat→β):Prop:=∀ i c,lo≤i→(x=2 * i+1∨x=2 * i+2)→(c=2 * x+1∨c=2 * x+2)→c < hi→r (g (f+c))≤r (g (f+i))
theorem Hea.step {f lo hi x c:Nat} (h:Hea r f lo hi x g) (hg:Gra r f lo hi x g) (hlx:lo≤x) (hc:c=2 * x+1∨c=2 * x+2) (hch:c < hi) (hm:∀ c',(c'=2 * x+1∨c'=2 * x+2)→c' < hi→r (g (f+c'))≤r (g (f+c))) (hx:r (g (f+x))≤r (g (f+c))) :
  Hea r f lo hi c (swp g (f+x) (f+c))∧Gra r f lo hi c (swp g (f+x) (f+c)):=by
 constructor
 ·intro i d h1 h2 h3 h4
  by_cases e1:i=x
  ·subst e1
   rw [Qg]
   by_cases e2:d=c
   ·subst e2;rw [jw];exact hx
   ·rw [Ve (by omega) (by omega)];exact hm d h2 h3
  ·rw [Ve (k:=f+i) (by omega) (by omega)]
   by_cases e2:d=x
   ·subst e2;rw [Qg];exact hg i c h1 h2 hc hch
   ·rw [Ve (by omega) (by omega)];exact h i d h1 h2 h3 e1
 ·intro i d h1 h2 h3 h4
  have e1:i=x:=by omega
  subst e1
  rw [Qg,Ve (by omega) (by omega)]
  exact h c d (by omega) h3 h4 (by omega)
theorem Hea.full {f lo hi x:Nat} (h:Hea r f lo hi x g) (hm:∀ c,(c=2 * x+1∨c=2 * x+2)→c < hi→r (g (f+c))≤r (g (f+x))):∀ i c,lo≤i→(c=2 * i+1∨c=2 * i+2)→c < hi→r (g (f+c))≤r (g (f+i)):=fun i c h1 h2 h3=>by
 by_cases e:i=x
 ·subst e;exact hm c h2 h3
 ·exact h i c h1 h2 h3 e
def Hp_ (r:β→Int) (f lo hi:Nat) (g:Nat→β):Prop:=∀ i c,lo≤i→(c=2 * i+1∨c=2 * i+2)→c < hi→r (g (f+c))≤r (g (f+i))
theorem Hp_.top {f hi:Nat} (h:Hp_ r f 0 hi g):∀ j,j < hi→r (g (f+j))≤r (g (f+0)):=by
 intro j
 induction j using Nat.strongRecOn with
 | ind j ih=>
  intro hj
  rcases Nat.eq_zero_or_pos j with e | e
  ·subst e;omega
  ·have h1:=ih ((j - 1) / 2) (by omega) (by omega)
   have h2:=h ((j - 1) / 2) j (by omega) (by omega) hj
   omega
end
end
end Go.Ax

/-! Sorting that keeps the order of what has the same key: places as_ names of elements. -/
namespace Go.Ax
open Go Go.RowKit
noncomputable section
def Lk (key:Nat→Int) (x y:Nat):Prop:=key x < key y∨(key x=key y∧x < y)
theorem Lk.trans {key:Nat→Int} {x y z:Nat} (h:Lk key x y) (k:Lk key y z):Lk key x z:=by unfold Lk at *;omega
theorem Lk.of_not {key:Nat→Int} {x y:Nat} (h:¬ key x < key y) (hl:y < x):Lk key y x:=by unfold Lk;omega
theorem Lk.lt {key:Nat→Int} {x y:Nat} (h:key x < key y):Lk key x y:=.inl h
def So (key:Nat→Int) (a b:Nat) (g:Nat→Nat):Prop:=∀ i j,a≤i→i < j→j < b→Lk key (g i) (g j)
def Cr (a m b:Nat) (g:Nat→Nat):Prop:=∀ i j,a≤i→i < m→m≤j→j < b→g i < g j
section
variable {key:Nat→Int} {a b m n:Nat} {g g':Nat→Nat}
theorem So.le (h:So key a b g) {i j:Nat} (h1:a≤i) (h2:i≤j) (h3:j < b):key (g i)≤key (g j):=by
 rcases Nat.lt_or_ge i j with q | q
 ·have:=h i j h1 q h3;unfold Lk at this;omega
 ·rw [show i=j by omega];omega
theorem So.mono (h:So key a b g) {a' b':Nat} (h1:a≤a') (h2:b'≤b):So key a' b' g:=fun i j q1 q2 q3=>h i j (by omega) q2 (by omega)
theorem So.eq (h:So key a b g) (e:∀ i,a≤i→i < b→g' i=g i):So key a b g':=fun i j q1 q2 q3=>by rw [e i q1 (by omega),e j (by omega) q3];exact h i j q1 q2 q3
theorem So.join (h1:So key a m g) (h2:So key m b g) (hc:∀ i j,a≤i→i < m→m≤j→j < b→Lk key (g i) (g j)):So key a b g:=fun i j q1 q2 q3=>by
 rcases Nat.lt_or_ge j m with c | c
 ·exact h1 i j q1 q2 c
 ·rcases Nat.lt_or_ge i m with d | d
  ·exact hc i j q1 d c q3
  ·exact h2 i j d q2 q3
/-! Insertion. -/
structure Inl (key:Nat→Int) (a i j:Nat) (g:Nat→Nat):Prop where
 so:∀ p q,a≤p→p < q→q≤i→p≠j→q≠j→Lk key (g p) (g q)
 lt:∀ q,j < q→q≤i→key (g j) < key (g q)
 mx:∀ q,a≤q→q≤i→q≠j→g q < g j
 aj:a≤j
 ji:j≤i
theorem Inl.init {i:Nat} (h:So key a i g) (hm:∀ q,a≤q→q < i→g q < g i) (ha:a≤i):Inl key a i i g:=
 ⟨fun p q h1 h2 h3 h4 h5=>h p q h1 h2 (by omega),fun q h1 h2=>by omega,fun q h1 h2 h3=>hm q h1 (by omega),ha,Nat.le_refl _⟩
theorem Inl.step {i j:Nat} (h:Inl key a i j g) (hj:a < j) (hl:key (g j) < key (g (j - 1))):Inl key a i (j - 1) (swp g j (j - 1)):=by
 have h0:=h.aj
 have h1:=h.ji
 have hlt:=h.lt
 have hso:=h.so
 have hmx:=h.mx
 refine ⟨fun p q a1 a2 a3 a4 a5=>?_,fun q a1 a2=>?_,fun q a1 a2 a3=>?_,by omega,by omega⟩
 ·by_cases e1:p=j
  ·subst e1
   rw [Qg,Ve (by omega) (by omega)];exact hso (p - 1) q (by omega) (by omega) a3 (by omega) (by omega)
  ·by_cases e2:q=j
   ·subst e2
    rw [Qg,Ve (by omega) (by omega)];exact hso p (q - 1) a1 (by omega) (by omega) (by omega) (by omega)
   ·rw [Ve (by omega) (by omega),Ve (by omega) (by omega)];exact hso p q a1 a2 a3 e1 e2
 ·rw [jw]
  by_cases e2:q=j
  ·subst e2;rw [Qg];exact hl
  ·rw [Ve (by omega) (by omega)];exact hlt q (by omega) a2
 ·rw [jw]
  by_cases e2:q=j
  ·subst e2;rw [Qg];exact hmx (q - 1) (by omega) (by omega) (by omega)
  ·rw [Ve (by omega) (by omega)];exact hmx q a1 a2 e2
theorem Inl.done {i j:Nat} (h:Inl key a i j g) (hd:a < j→¬ key (g j) < key (g (j - 1))):So key a (i+1) g:=by
 have h0:=h.aj
 have h1:=h.ji
 have hlt:=h.lt
 have hso:=h.so
 have hmx:=h.mx
 intro p q a1 a2 a3
 by_cases e1:p=j
 ·subst e1;exact .lt (hlt q (by omega) (by omega))
 ·by_cases e2:q=j
  ·subst e2
   have c1:=hd (by omega)
   have c0:Lk key (g (q - 1)) (g q):=.of_not c1 (hmx (q - 1) (by omega) (by omega) (by omega))
   rcases Nat.lt_or_ge p (q - 1) with c | c
   ·exact (hso p (q - 1) a1 c (by omega) e1 (by omega)).trans c0
   ·rw [show p=q - 1 by omega];exact c0
  ·exact hso p q a1 a2 (by omega) e1 e2
theorem So.one:So key a (a+1) g:=fun p q h1 h2 h3=>by omega
theorem So.none (h:b≤a):So key a b g:=fun p q h1 h2 h3=>by omega
/-! Ranges swapped,and turned. -/
def swr (g:Nat→Nat) (a b n:Nat):Nat→Nat:=fun k=>if a≤k∧k < a+n then g (k - a+b) else if b≤k∧k < b+n then g (k - b+a) else g k
theorem zO:swr g a b 0=g:=by funext k;unfold swr;rw [if_neg (by omega),if_neg (by omega)]
theorem zX {i:Nat} (h:a+n≤b) (hi:i < n):swp (swr g a b i) (a+i) (b+i)=swr g a b (i+1):=by
 funext k
 rw [Va]
 unfold swr
 by_cases e1:k=b+i
 ·subst e1
  rw [if_pos rfl,if_neg (by omega),if_neg (by omega),if_neg (by omega),if_pos (by omega)]
  congr 1;omega
 ·rw [if_neg e1]
  by_cases e2:k=a+i
  ·subst e2
   rw [if_pos rfl,if_neg (by omega),if_neg (by omega),if_pos (by omega)]
   congr 1;omega
  ·rw [if_neg e2]
   by_cases c1:a≤k∧k < a+i
   ·rw [if_pos c1,if_pos (show a≤k∧k < a+(i+1) by omega)]
   ·by_cases c2:b≤k∧k < b+i
    ·rw [if_neg c1,if_pos c2,if_neg (show ¬ (a≤k∧k < a+(i+1)) by omega),if_pos (show b≤k∧k < b+(i+1) by omega)]
    ·rw [if_neg c1,if_neg c2,if_neg (show ¬ (a≤k∧k < a+(i+1)) by omega),if_neg (show ¬ (b≤k∧k < b+(i+1)) by omega)]
def rot (g:Nat→Nat) (a m b:Nat):Nat→Nat:=fun k=>if a≤k∧k < a+(b - m) then g (k - a+m) else if a+(b - m)≤k∧k < b then g (k - (b - m)) else g k
theorem ZaK {i j:Nat} (hj:j < i) (hi:i≤m):rot g (m - i) m (m+j)=rot (swr g (m - i) m j) (m - (i - j)) m (m+j):=by
 funext k
 unfold rot swr
 by_cases c1:m - i≤k∧k < m - i+(m+j - m)
 ·rw [if_pos c1,if_neg (by omega),if_neg (by omega),if_pos (by omega)]
 ·rw [if_neg c1]
  by_cases c2:m - i+(m+j - m)≤k∧k < m+j
  ·rw [if_pos c2]
   by_cases c3:m - (i - j)≤k∧k < m - (i - j)+(m+j - m)
   ·rw [if_pos c3,if_neg (by omega),if_pos (by omega)]
    congr 1;omega
   ·rw [if_neg c3,if_pos (by omega),if_neg (by omega),if_neg (by omega)]
  ·rw [if_neg c2,if_neg (by omega),if_neg (by omega),if_neg (by omega),if_neg (by omega)]
theorem j6 {i j:Nat} (hj:i < j) (hi:i≤m):rot g (m - i) m (m+j)=rot (swr g (m - i) (m+j - i) i) (m - i) m (m+(j - i)):=by
 funext k
 unfold rot
 by_cases c1:m - i≤k∧k < m - i+(m+j - m)
 ·rw [if_pos c1]
  by_cases c3:m - i≤k∧k < m - i+(m+(j - i) - m)
  ·rw [if_pos c3]
   unfold swr
   rw [if_neg (show ¬ (m - i≤k - (m - i)+m∧k - (m - i)+m < m - i+i) by omega),if_neg (show ¬ (m+j - i≤k - (m - i)+m∧k - (m - i)+m < m+j - i+i) by omega)]
  ·rw [if_neg c3]
   by_cases c5:m - i+(m+(j - i) - m)≤k∧k < m+(j - i)
   ·rw [if_pos c5]
    unfold swr
    rw [if_pos (show m - i≤k - (m+(j - i) - m)∧k - (m+(j - i) - m) < m - i+i by omega)]
    congr 1;omega
   ·omega
 ·rw [if_neg c1]
  by_cases c2:m - i+(m+j - m)≤k∧k < m+j
  ·rw [if_pos c2,if_neg (show ¬ (m - i≤k∧k < m - i+(m+(j - i) - m)) by omega),if_neg (show ¬ (m - i+(m+(j - i) - m)≤k∧k < m+(j - i)) by omega)]
   unfold swr
   rw [if_neg (show ¬ (m - i≤k∧k < m - i+i) by omega),if_pos (show m+j - i≤k∧k < m+j - i+i by omega)]
   congr 1;omega
  ·rw [if_neg c2,if_neg (show ¬ (m - i≤k∧k < m - i+(m+(j - i) - m)) by omega),if_neg (show ¬ (m - i+(m+(j - i) - m)≤k∧k < m+(j - i)) by omega)]
   unfold swr
   rw [if_neg (show ¬ (m - i≤k∧k < m - i+i) by omega),if_neg (show ¬ (m+j - i≤k∧k < m+j - i+i) by omega)]
theorem Zbc {i:Nat} (hi:i≤m):swr g (m - i) m i=rot g (m - i) m (m+i):=by
 funext k
 unfold rot
 by_cases c1:m - i≤k∧k < m - i+(m+i - m)
 ·rw [if_pos c1]
  unfold swr
  rw [if_pos (show m - i≤k∧k < m - i+i by omega)]
 ·rw [if_neg c1]
  by_cases c2:m - i+(m+i - m)≤k∧k < m+i
  ·rw [if_pos c2]
   unfold swr
   rw [if_neg (show ¬ (m - i≤k∧k < m - i+i) by omega),if_pos (show m≤k∧k < m+i by omega)]
   congr 1;omega
  ·rw [if_neg c2]
   unfold swr
   rw [if_neg (show ¬ (m - i≤k∧k < m - i+i) by omega),if_neg (show ¬ (m≤k∧k < m+i) by omega)]
/-! One element brought to its place,by swaps with its neighbours. -/
def mvR (g:Nat→Nat) (a k:Nat):Nat→Nat:=fun j=>if a≤j∧j < k then g (j+1) else if j=k then g a else g j
theorem yH:mvR g a a=g:=by
 funext j;unfold mvR;rw [if_neg (by omega)];split
 ·rename_i e;rw [e]
 ·rfl
theorem yE {k:Nat} (h:a≤k):swp (mvR g a k) k (k+1)=mvR g a (k+1):=by
 funext j
 rw [Va]
 unfold mvR
 by_cases e1:j=k+1
 ·subst e1;rw [if_pos rfl,if_neg (by omega),if_pos rfl,if_neg (by omega),if_pos rfl]
 ·rw [if_neg e1]
  by_cases e2:j=k
  ·subst e2;rw [if_pos rfl,if_neg (by omega),if_neg (by omega),if_pos (by omega)]
  ·rw [if_neg e2]
   by_cases c:a≤j∧j < k
   ·rw [if_pos c,if_pos (by omega)]
   ·rw [if_neg c,if_neg (by omega),if_neg (by omega),if_neg (by omega)]
def mvL (g:Nat→Nat) (m k:Nat):Nat→Nat:=fun j=>if k < j∧j≤m then g (j - 1) else if j=k then g m else g j
theorem yn:mvL g m m=g:=by
 funext j;unfold mvL;rw [if_neg (by omega)];split
 ·rename_i e;rw [e]
 ·rfl
theorem zJ {k:Nat} (h:k≤m) (h0:0 < k):swp (mvL g m k) k (k - 1)=mvL g m (k - 1):=by
 funext j
 rw [Va]
 unfold mvL
 by_cases e1:j=k - 1
 ·subst e1;rw [if_pos rfl,if_neg (by omega),if_pos rfl,if_neg (by omega),if_pos rfl]
 ·rw [if_neg e1]
  by_cases e2:j=k
  ·subst e2;rw [if_pos rfl,if_neg (by omega),if_neg (by omega),if_pos (by omega)]
  ·rw [if_neg e2]
   by_cases c:k < j∧j≤m
   ·rw [if_pos c,if_pos (by omega)]
   ·rw [if_neg c,if_neg (by omega),if_neg (by omega),if_neg (by omega)]
theorem jM {i:Nat} (h2:So key (a+1) b g) (hc:Cr a (a+1) b g) (h1:a+1≤i) (hi:i≤b) (hl:∀ p,a+1≤p→p < i→key (g p) < key (g a)) (hr:∀ p,i≤p→p < b→¬ key (g p) < key (g a)):So key a b (mvR g a (i - 1)):=by
 intro x y q1 q2 q3
 unfold mvR
 by_cases c1:a≤x∧x < i - 1
 ·rw [if_pos c1]
  by_cases c2:a≤y∧y < i - 1
  ·rw [if_pos c2];exact h2 _ _ (by omega) (by omega) (by omega)
  ·rw [if_neg c2]
   by_cases c3:y=i - 1
   ·rw [if_pos c3];exact .lt (hl _ (by omega) (by omega))
   ·rw [if_neg c3];exact h2 _ _ (by omega) (by omega) (by omega)
 ·rw [if_neg c1]
  rw [if_neg (show ¬ (a≤y∧y < i - 1) by omega),if_neg (show ¬ y=i - 1 by omega)]
  by_cases c3:x=i - 1
  ·rw [if_pos c3];exact .of_not (hr y (by omega) q3) (hc a y (Nat.le_refl _) (by omega) (by omega) q3)
  ·rw [if_neg c3];exact h2 _ _ (by omega) (by omega) (by omega)
theorem Za4 {i:Nat} (h1:So key a m g) (hc:Cr a m (m+1) g) (hai:a≤i) (hi:i≤m) (hl:∀ p,a≤p→p < i→¬ key (g m) < key (g p)) (hr:∀ p,i≤p→p < m→key (g m) < key (g p)):So key a (m+1) (mvL g m i):=by
 intro x y q1 q2 q3
 unfold mvL
 by_cases c1:i < y∧y≤m
 ·rw [if_pos c1]
  by_cases c2:i < x∧x≤m
  ·rw [if_pos c2];exact h1 _ _ (by omega) (by omega) (by omega)
  ·rw [if_neg c2]
   by_cases c3:x=i
   ·rw [if_pos c3];exact .lt (hr _ (by omega) (by omega))
   ·rw [if_neg c3]
    exact h1 _ _ (by omega) (by omega) (by omega)
 ·rw [if_neg c1,if_neg (show ¬ (i < x∧x≤m) by omega),if_neg (show ¬ x=i by omega)]
  by_cases c3:y=i
  ·rw [if_pos c3];exact .of_not (hl x q1 (by omega)) (hc x m q1 (by omega) (Nat.le_refl _) (by omega))
  ·rw [if_neg c3];exact h1 _ _ (by omega) (by omega) (by omega)
structure Ze1 (key:Nat→Int) (a m b s e:Nat) (g:Nat→Nat):Prop where
 l:a≤s
 sm:s≤m
 me:m≤e
 eb:e≤b
 low:s=a∨e=b∨Lk key (g (s - 1)) (g e)
 up:s=m∨e=m∨Lk key (g (e - 1)) (g s)
theorem So.le' (h:So key a b g) {i j:Nat} (h1:a≤i) (h2:i≤j) (h3:j < b) {z:Nat} (k:Lk key (g j) z):Lk key (g i) z:=by
 rcases Nat.lt_or_ge i j with q | q
 ·exact (h i j h1 q h3).trans k
 ·rw [show i=j by omega];exact k
theorem So.ge' (h:So key a b g) {i j:Nat} (h1:a≤i) (h2:i≤j) (h3:j < b) {z:Nat} (k:Lk key z (g i)):Lk key z (g j):=by
 rcases Nat.lt_or_ge i j with q | q
 ·exact k.trans (h i j h1 q h3)
 ·rw [← show i=j by omega];exact k
structure Pts (key:Nat→Int) (a s d e b:Nat) (g:Nat→Nat):Prop where
 p1:So key a s g
 p2:So key s d g
 p3:So key d e g
 p4:So key e b g
 c1:Cr a s d g
 c2:Cr d e b g
 x:∀ i j,a≤i→i < d→d≤j→j < b→Lk key (g i) (g j)
theorem Zci {s e:Nat} (h1:So key a m g) (h2:So key m b g) (hc:Cr a m b g) (k:Ze1 key a m b s e g):Pts key a s (s+(e - m)) e b (rot g s m e):=by
 have hl:=k.l
 have hsm:=k.sm
 have hme:=k.me
 have heb:=k.eb
 have r1:∀ i,i < s→rot g s m e i=g i:=fun i hi=>by unfold rot;rw [if_neg (by omega),if_neg (by omega)]
 have r2:∀ i,s≤i→i < s+(e - m)→rot g s m e i=g (i - s+m):=fun i a1 a2=>by unfold rot;rw [if_pos ⟨a1,a2⟩]
 have r3:∀ i,s+(e - m)≤i→i < e→rot g s m e i=g (i - (e - m)):=fun i a1 a2=>by unfold rot;rw [if_neg (by omega),if_pos ⟨a1,a2⟩]
 have r4:∀ i,e≤i→rot g s m e i=g i:=fun i hi=>by unfold rot;rw [if_neg (by omega),if_neg (by omega)]
 refine ⟨fun i j q1 q2 q3=>?_,fun i j q1 q2 q3=>?_,fun i j q1 q2 q3=>?_,fun i j q1 q2 q3=>?_,fun i j q1 q2 q3 q4=>?_,fun i j q1 q2 q3 q4=>?_,fun i j q1 q2 q3 q4=>?_⟩
 ·rw [r1 i (by omega),r1 j (by omega)];exact h1 i j q1 q2 (by omega)
 ·rw [r2 i (by omega) (by omega),r2 j (by omega) (by omega)];exact h2 _ _ (by omega) (by omega) (by omega)
 ·rw [r3 i (by omega) (by omega),r3 j (by omega) (by omega)];exact h1 _ _ (by omega) (by omega) (by omega)
 ·rw [r4 i (by omega),r4 j (by omega)];exact h2 i j (by omega) q2 q3
 ·rw [r1 i (by omega),r2 j (by omega) (by omega)];exact hc _ _ (by omega) (by omega) (by omega) (by omega)
 ·rw [r3 i (by omega) (by omega),r4 j (by omega)];exact hc _ _ (by omega) (by omega) (by omega) (by omega)
 ·rcases Nat.lt_or_ge i s with c | c
  ·rw [r1 i c]
   rcases Nat.lt_or_ge j e with d | d
   ·rw [r3 j (by omega) d];exact h1 _ _ q1 (by omega) (by omega)
   ·rw [r4 j d]
    rcases k.low with z | z | z
    ·omega
    ·omega
    ·exact h1.le' q1 (by omega) (show s - 1 < m by omega) (h2.ge' hme d q4 z)
  ·rw [r2 i c q2]
   rcases Nat.lt_or_ge j e with d | d
   ·rw [r3 j (by omega) d]
    rcases k.up with z | z | z
    ·omega
    ·omega
    ·exact h2.le' (by omega) (by omega) (show e - 1 < b by omega) (h1.ge' hl (show s≤j - (e - m) by omega) (by omega) z)
   ·rw [r4 j d];exact h2 _ _ (by omega) (by omega) q4
theorem Pts.done {s d e:Nat} (h:Pts key a s d e b g) {g1 g2:Nat→Nat} (ha:a≤d) (hb:d≤b) (p1:PRm a d g g1) (s1:So key a d g1) (p2:PRm d b g1 g2) (s2:So key d b g2):So key a b g2:=by
 refine So.join (m:=d) (s1.eq fun i h1 h2=>p2.out i (.inl h2)) s2 fun i j q1 q2 q3 q4=>?_
 obtain ⟨y,y1,y2,ey⟩:=p2.mem q3 q4
 rw [p2.out i (.inl q2),ey]
 obtain ⟨x,x1,x2,ex⟩:=p1.mem q1 q2
 rw [ex,p1.out y (.inr y1)]
 exact h.x x y x1 x2 y1 y2
theorem Pts.right {s d e:Nat} (h:Pts key a s d e b g) {g1:Nat→Nat} (p1:PRm a d g g1) (hde:d≤e):So key d e g1∧So key e b g1∧Cr d e b g1:=by
 have e1:∀ i,d≤i→g1 i=g i:=fun i hi=>p1.out i (.inr hi)
 exact ⟨h.p3.eq fun i h1 _=>e1 i h1,h.p4.eq fun i h1 _=>e1 i (by omega),fun i j q1 q2 q3 q4=>by rw [e1 i q1,e1 j (by omega)];exact h.c2 i j q1 q2 q3 q4⟩
/-! Blocks. -/
structure Bk (key:Nat→Int) (bs a n:Nat) (g:Nat→Nat):Prop where
 so:∀ i j,a≤i→i < j→j < n→i / bs=j / bs→Lk key (g i) (g j)
 lb:∀ i,a≤i→i < n→g i / bs=i / bs
def Bs (bs:Nat):Prop:=bs=20∨bs=40∨bs=80
theorem Bk.part {bs n:Nat} (h:Bk key bs a n g) (hb:Bs bs) (ha:a % bs=0) {m b:Nat} (hm:m=a+bs) (hmb:m≤b) (hb2:b≤a+2 * bs) (hn:b≤n):So key a m g∧So key m b g∧Cr a m b g:=by
 have so:=h.so
 have lb:=h.lb
 subst hm
 refine ⟨fun i j q1 q2 q3=>so i j q1 q2 (by omega) ?_,fun i j q1 q2 q3=>so i j (by omega) q2 (by omega) ?_,fun i j q1 q2 q3 q4=>?_⟩
 ·rcases hb with rfl | rfl | rfl<;>omega
 ·rcases hb with rfl | rfl | rfl<;>omega
 ·have l1:=lb i q1 (by omega)
  have l2:=lb j (by omega) (by omega)
  rcases hb with rfl | rfl | rfl<;>omega
structure Bk2 (key:Nat→Int) (bs a n:Nat) (g:Nat→Nat):Prop where
 lo:Bk key (2 * bs) 0 a g
 hi:Bk key bs a n g
theorem Bk2.init {bs n:Nat} (h:Bk key bs 0 n g):Bk2 key bs 0 n g:=⟨⟨fun i j h1 h2 h3=>by omega,fun i h1 h2=>by omega⟩,h⟩
theorem Bk2.step {bs n:Nat} (h:Bk2 key bs a n g) (hb:Bs bs) (ha:a % (2 * bs)=0) {b:Nat} (hb1:a≤b) (hb2:b≤a+2 * bs) (hn:b≤n) (p:PRm a b g g') (s:So key a b g'):Bk key (2 * bs) 0 b g':=by
 obtain ⟨l1,l2⟩:=h.lo
 obtain ⟨u1,u2⟩:=h.hi
 refine ⟨fun i j q1 q2 q3 q4=>?_,fun i q1 q2=>?_⟩
 ·rcases Nat.lt_or_ge j a with c | c
  ·rw [p.out i (.inl (by omega)),p.out j (.inl c)];exact l1 i j q1 q2 c q4
  ·rcases Nat.lt_or_ge i a with d | d
   ·exfalso;rcases hb with rfl | rfl | rfl<;>omega
   ·exact s i j d q2 q3
 ·rcases Nat.lt_or_ge i a with c | c
  ·rw [p.out i (.inl c)];exact l2 i q1 c
  ·obtain ⟨k,k1,k2,e⟩:=p.mem c q2
   rw [e]
   have:=u2 k k1 (by omega)
   rcases hb with rfl | rfl | rfl<;>omega
theorem Bk2.next {bs n:Nat} (h:Bk2 key bs a n g) (hb:Bs bs) (ha:a % (2 * bs)=0) {b:Nat} (hb2:b=a+2 * bs) (hn:b≤n) (p:PRm a b g g') (s:So key a b g'):Bk2 key bs b n g'∧b % (2 * bs)=0:=by
 refine ⟨⟨h.step hb ha (by omega) (by omega) hn p s,fun i j q1 q2 q3 q4=>?_,fun i q1 q2=>?_⟩,by rcases hb with rfl | rfl | rfl<;>omega⟩
 ·rw [p.out i (.inr q1),p.out j (.inr (by omega))];exact h.hi.so i j (by omega) q2 q3 q4
 ·rw [p.out i (.inr q1)];exact h.hi.lb i (by omega) q2
theorem Bk2.last {bs n:Nat} (h:Bk2 key bs a n g) (hb:Bs bs) (ha:a % (2 * bs)=0) (han:a≤n) (hn:n≤a+bs):Bk key (2 * bs) 0 n g:=
 h.step hb ha han (by omega) (Nat.le_refl _) (PRm.refl _ _ _) fun i j q1 q2 q3=>h.hi.so i j q1 q2 q3 (by rcases hb with rfl | rfl | rfl<;>omega)
theorem Bk.all {bs n:Nat} (h:Bk key bs 0 n g) (hn:n≤bs):So key 0 n g:=fun i j q1 q2 q3=>h.so i j q1 q2 q3 (by rw [Nat.div_eq_of_lt (by omega),Nat.div_eq_of_lt (by omega)])
structure Bk0 (key:Nat→Int) (a n:Nat) (g:Nat→Nat):Prop where
 lo:Bk key 20 0 a g
 out:∀ i,a≤i→g i=i
theorem Bk0.init (n:Nat):Bk0 key 0 n fun i=>i:=⟨⟨fun i j h1 h2 h3=>by omega,fun i h1 h2=>by omega⟩,fun i _=>rfl⟩
theorem Bk0.ids {n:Nat} (h:Bk0 key a n g):∀ i j,a≤i→i < j→g i < g j:=fun i j q1 q2=>by rw [h.out i q1,h.out j (by omega)];exact q2
theorem Bk0.step {n b:Nat} (h:Bk0 key a n g) (ha:a % 20=0) (hab:a≤b) (hb:b≤a+20) (p:PRm a b g g') (s:So key a b g'):Bk0 key b n g':=by
 obtain ⟨l1,l2⟩:=h.lo
 refine ⟨⟨fun i j q1 q2 q3 q4=>?_,fun i q1 q2=>?_⟩,fun i q=>by rw [p.out i (.inr q),h.out i (by omega)]⟩
 ·rcases Nat.lt_or_ge j a with c | c
  ·rw [p.out i (.inl (by omega)),p.out j (.inl c)];exact l1 i j q1 q2 c q4
  ·rcases Nat.lt_or_ge i a with d | d
   ·omega
   ·exact s i j d q2 q3
 ·rcases Nat.lt_or_ge i a with c | c
  ·rw [p.out i (.inl c)];exact l2 i q1 c
  ·obtain ⟨k,k1,k2,e⟩:=p.mem c q2
   rw [e,h.out k k1];omega
theorem Bk0.low {n:Nat} (h:Bk0 key a n g) (hn:n≤a):Bk key 20 0 n g:=⟨fun i j q1 q2 q3 q4=>h.lo.so i j q1 q2 (by omega) q4,fun i q1 q2=>h.lo.lb i q1 (by omega)⟩
end
/-! Cells: the elements' rows,by the places where they stood. -/
def cG (f:Nat→List Value) (n:Nat) (g:Nat→Nat):List Value:=((List.range n).map g).flatMap f
section
variable {f:Nat→List Value} {z n k:Nat} {g:Nat→Nat}
theorem ZdP (h:k < n):((List.range n).map g)[k]? = some (g k):=by simp [h]
theorem Vv (hf:∀ x,(f x).length=z):(cG f n g).length=n * z:=by
 unfold cG;rw [Uk fun x _=>hf x];simp
theorem Xn (hf:∀ x,(f x).length=z) (h:k < n):row z (cG f n g) (0+k * z)=some (f (g k)):=Vt (fun x _=>hf x) (ZdP h)
theorem Zdj {x:Nat}:(List.range n).map (upd g k x)=((List.range n).map g).set k x:=by
 refine List.ext_getElem? fun i=>?_
 rw [List.getElem?_set]
 by_cases e:k=i
 ·subst e
  rcases Nat.lt_or_ge k n with q | q
  ·simp [upd,q]
  ·simp [q]
 ·rw [if_neg e]
  have e2:¬ i=k:=fun q=>e q.symm
  rcases Nat.lt_or_ge i n with q | q
  ·simp [upd,q,e2]
  ·simp [q]
theorem KO {α:Type} {f:α→List Value} {size:Nat}:∀ {l:List α} (_:∀ x,(f x).length=size) {i:Nat} {x:α},i < l.length→ZG (l.flatMap f) (0+i * size) (f x)=(l.set i x).flatMap f
 | [],_,i,x,h=>by simp at h
 | y :: l,hf,0,x,h=>by
  have key:∀ (a b c:List Value) (d:List Value),a.length=b.length→ZG (d ++ a ++ c) d.length b=d ++ b ++ c:=by
   intro a
   induction a with
   | nil=>intro b c d h;cases b with
    | nil=>simp [ZG]
    | cons _ _=>simp at h
   | cons u a ih=>
    intro b c d h
    cases b with
    | nil=>simp at h
    | cons v b=>
     simp only [ZG]
     have e:(d ++ u :: a ++ c).set d.length v=(d ++ [v]) ++ a ++ c:=by simp
     rw [e]
     have:=ih b c (d ++ [v]) (by simpa using h)
     simp only [List.length_append,List.length_singleton] at this
     rw [this];simp
  have:=key (f y) (f x) (l.flatMap f) [] (by rw [hf,hf])
  simpa using this
 | y :: l,hf,i+1,x,h=>by
  have ih:=KO (l:=l) hf (i:=i) (x:=x) (by simpa using h)
  have key:∀ (b a c:List Value) (k:Nat),ZG (a ++ c) (a.length+k) b=a ++ ZG c k b:=by
   intro b
   induction b with
   | nil=>intro a c k;simp [ZG]
   | cons v b ih=>
    intro a c k
    simp only [ZG]
    rw [List.set_append_right _ _ (by omega),show a.length+k - a.length=k by omega,← ih,Nat.add_assoc]
  have e:=key (f x) (f y) (l.flatMap f) (i * size)
  rw [hf y] at e
  rw [List.flatMap_cons,List.set_cons_succ,List.flatMap_cons,← ih,Nat.zero_add,Nat.zero_add,Nat.succ_mul,Nat.add_comm (i * size) size,e]
theorem Vh (hf:∀ x,(f x).length=z) (h:k < n) {x:Nat}:ZG (cG f n g) (0+k * z) (f x)=cG f n (upd g k x):=by
 unfold cG
 rw [Zdj]
 exact KO hf (by simpa using h)
end
def J6 (H:Hp) (b:Nat):Option (TypeId × Bool):=match H.t.get b with | some (.cells _ e l)=>some (e,l) | _=>none
structure KT (bd:Nat) (H H':Hp):Prop where
 le:H.next≤H'.next
 b:bd < H.next
 kp:Zk H H' [bd]
 tg:J6 H' bd=J6 H bd
theorem KT.refl {bd:Nat} {H:Hp} (h:bd < H.next):KT bd H H:=⟨Nat.le_refl _,h,Zk.refl _ _,rfl⟩
theorem KT.trans {bd:Nat} {H H1 H2:Hp} (h:KT bd H H1) (k:KT bd H1 H2):KT bd H H2:=⟨Nat.le_trans h.le k.le,h.b,h.kp.trans k.kp,k.tg.trans h.tg⟩
theorem KT.keep {bd:Nat} {H H1 H2:Hp} (h:KT bd H H1) (k:Zk H1 H2 []):KT bd H H2:=
 ⟨Nat.le_trans h.le k.1,h.b,h.kp.trans (k.mono (by simp)),by unfold J6;rw [k.2 bd (Nat.lt_of_lt_of_le h.b h.le) (by simp)];exact h.tg⟩
theorem KT.put {bd:Nat} {H H1 H2:Hp} (h:KT bd H H1) (k:Zk H1 H2 [bd]) (t:J6 H2 bd=J6 H1 bd):KT bd H H2:=⟨Nat.le_trans h.le k.1,h.b,h.kp.trans k,t.trans h.tg⟩
theorem ZdK {H H1:Hp} {b:Nat} {cs cs':List Value} {e:TypeId} {l:Bool} (g:H.t.get b=some (.cells cs e l)) (h:H.up b (.cells cs' e l)=H1):J6 H1 b=J6 H b:=by
 subst h
 unfold J6
 show (match (H.t.set b _).get b with | some (.cells _ e l)=>some (e,l) | _=>none)=_
 rw [Tr.get_set,if_pos rfl,g]
section
variable {P:Program} {kn:Kn} {lo n:Nat} {masks:List Nat} {ks:List Kd} {r:List RO} {S:Rg} {H:Hp} {K:Rg→Hp→Prop} {d:Option Nat} {x y:Operand}
theorem WC {b o m:Nat} {cs:List Value} {v:Value} (hx:evS S x=some (.pointer (some ⟨b,o,none⟩))) (hy:evS S y=some v) (hc:Cl H b cs) (hl:lo≤b) (hm:v.cells.toList.length=m) (h1:v.cells.toList.all one=true) (ho:o+m≤cs.length)
  (h:∀ H1,Zk H H1 [b]→H1.next=H.next→Cl H1 b (ZG cs o v.cells.toList)→J6 H1 b=J6 H b→Zq P kn lo n masks r (.store b :: ks) (ZR S d undef) H1 K):Zq P kn lo n masks (⟨d,none,.sta x y m⟩ :: r) ks S H K:=by
 simp only [Zq,wRO,wRI,hx,hy]
 obtain ⟨_,e,l,g⟩:=id hc
 exact ⟨cs,e,l,g,hl,hm,h1,ho,fun H1 hH1=>by obtain ⟨a,b,c⟩:=WS hc hH1;exact h H1 a b c (ZdK g hH1)⟩
end
def Ke (P:Program) (kn:Kn) (lo bd:Nat) (F:FuncId) (caps:Array Value) (e:Nat→Value) (n:Nat) (key:Nat→Int) (H0:Hp):Prop:=
 ∀ H,Zk H0 H [bd]→∀ x y,x < n→y < n→∃ r H',Xb P kn lo (.fn (.func F) caps) [e x,e y] H (iv r) H'∧Zk H H' []∧(r < 0↔key x < key y)
theorem Ke.from {P:Program} {kn:Kn} {lo bd:Nat} {F:FuncId} {caps:Array Value} {e:Nat→Value} {n:Nat} {key:Nat→Int} {H0 H1:Hp} (h:Ke P kn lo bd F caps e n key H0) (k:Zk H0 H1 [bd]):Ke P kn lo bd F caps e n key H1:=fun H q=>h H (k.trans q)
end
end Go.Ax

/-
 Pool: what is valid (written by program).
-/
namespace Go.Ax
open Go Go.RowKit Go.Proofs

theorem JM:∃ i,Try.prog.info? 31=some i∧i.size=2:=by
 have h:(Try.prog.info? 31).map (fun i=>i.size)=some 2:=by kernel_rfl
 cases e:Try.prog.info? 31 with
 | none=>rw [e] at h;cases h
 | some i=>rw [e] at h;simp at h;exact ⟨i,rfl,h⟩
theorem a31:Xz Try.prog 31=some true:=by kernel_rfl
theorem ZeN:∃ i,Try.prog.info? 52=some i∧i.size=5:=by
 have h:(Try.prog.info? 52).map (fun i=>i.size)=some 5:=by kernel_rfl
 cases e:Try.prog.info? 52 with
 | none=>rw [e] at h;cases h
 | some i=>rw [e] at h;simp at h;exact ⟨i,rfl,h⟩
theorem Zfx:∃ i,Try.prog.info? 95=some i∧i.size=2:=by
 have h:(Try.prog.info? 95).map (fun i=>i.size)=some 2:=by kernel_rfl
 cases e:Try.prog.info? 95 with
 | none=>rw [e] at h;cases h
 | some i=>rw [e] at h;simp at h;exact ⟨i,rfl,h⟩
theorem ZeK:∃ i,Try.prog.info? 105=some i∧i.size=8:=by
 have h:(Try.prog.info? 105).map (fun i=>i.size)=some 8:=by kernel_rfl
 cases e:Try.prog.info? 105 with
 | none=>rw [e] at h;cases h
 | some i=>rw [e] at h;simp at h;exact ⟨i,rfl,h⟩
theorem Zfw:Xz Try.prog 105=some true:=by kernel_rfl
theorem JT {P:Program} {S:Rg} {H:Hp} {a x n:Nat} {t:TypeId} {cs:List Value} (ha:lk S a=some (.pointer (some ⟨x,0,none⟩))) (h1:Xz P t=some true) (hi:∃ i,P.info? t=some i∧i.size=n) (hl:cs.length=n) (h:Cl H x cs):Wk P S H [.cell a t]=some [.agg cs.toArray]:=by
 simp only [Wk,ha,WN h1 hi h.rd hl]
def inB (n a b:Int):Bool:=decide (a≤n) && decide (n≤b)
theorem Y5 {n a b:Int} (h:inB n a b=true):a≤n∧n≤b:=by simpa [inB] using h
theorem Wn {n a b:Int} (h:inB n a b=false):¬ (a≤n∧n≤b):=by
 intro q;simp [inB] at h;omega
theorem zg {α:Type} {l:List α} {i:Nat} {z:α} (h:i < l.length):l[i]? = some (l.getD i z):=by
 rw [List.getD_eq_getElem?_getD,List.getElem?_eq_getElem h];rfl
theorem VT {α:Type} {l:List α} {p:α→Bool} {z:α} (h:∀ j,j < l.length→p (l.getD j z)=false):l.any p=false:=by
 rw [List.any_eq_false]
 intro x hx
 obtain ⟨i,hi,e⟩:=List.mem_iff_getElem.1 hx
 have:=h i hi
 rw [List.getD_eq_getElem?_getD,List.getElem?_eq_getElem hi] at this
 simp at this
 rw [← e,this];simp
theorem Uy {α:Type} {l:List α} {p:α→Bool} {z:α} {j:Nat} (hj:j < l.length) (h:p (l.getD j z)=true):l.any p=true:=by
 rw [List.any_eq_true]
 rw [List.getD_eq_getElem?_getD,List.getElem?_eq_getElem hj] at h
 exact ⟨_,List.getElem_mem hj,h⟩
structure Dc where
 d:Int
 wl:Int
 wh:Int
 cl:Int
 ch:Int
def Dc.z:Dc:=⟨0,0,0,0,0⟩
def Dc.f (p:Dc):List Value:=[iv p.d,iv p.wl,iv p.wh,iv p.cl,iv p.ch]
structure Ns where
 r:Int
 a:Int
 b:Int
def Ns.z:Ns:=⟨0,0,0⟩
def Ns.f (p:Ns):List Value:=[iv p.r,iv p.a,iv p.b]
structure Fw where
 wl:Int
 wh:Int
 tl:Int
 th:Int
def Fw.z:Fw:=⟨0,0,0,0⟩
def Fw.f (p:Fw):List Value:=[iv p.wl,iv p.wh,iv p.tl,iv p.th]
structure Ph where
 bl:Int
 bh:Int
 il:Int
 ih:Int
 ol:Int
 oh:Int
 rl:Int
 rh:Int
 cl:Int
 ch:Int
def Ph.z:Ph:=⟨0,0,0,0,0,0,0,0,0,0⟩
def Ph.f (p:Ph):List Value:=[iv p.bl,iv p.bh,iv p.il,iv p.ih,iv p.ol,iv p.oh,iv p.rl,iv p.rh,iv p.cl,iv p.ch]
structure Po where
 d:Int
 l:Int
def Po.z:Po:=⟨0,0⟩
def Po.f (p:Po):List Value:=[iv p.d,iv p.l]
def dcc (l:List Dc):List Value:=l.flatMap Dc.f
theorem jf {l:List Dc}:(dcc l).length=l.length * 5:=Uk fun _ _=>rfl
theorem zR {l:List Dc} {i:Nat} (h:i < l.length):row 5 (dcc l) (0+i * 5)=some (l.getD i Dc.z).f:=Vt (f:=Dc.f) (fun _ _=>rfl) (zg h)
def nsc (l:List Ns):List Value:=l.flatMap Ns.f
theorem Jk {l:List Ns} {i:Nat} (h:i < l.length):row 3 (nsc l) (0+i * 3)=some (l.getD i Ns.z).f:=Vt (f:=Ns.f) (fun _ _=>rfl) (zg h)
theorem K9 {l:List Ns} {i j:Nat} {v:Value} (h:i < l.length) (hj:(l.getD i Ns.z).f[j]? = some v):(nsc l)[0+i * 3+j]? = some v:=jF (Jk h) hj
def poc (l:List Po):List Value:=l.flatMap Po.f
theorem zq {l:List Po}:(poc l).length=l.length * 2:=Uk fun _ _=>rfl
theorem Us {l:List Po} {i:Nat} (h:i < l.length):row 2 (poc l) (0+i * 2)=some (l.getD i Po.z).f:=Vt (f:=Po.f) (fun _ _=>rfl) (zg h)
theorem Zcx {l:List Po} {i j:Nat} {v:Value} (h:i < l.length) (hj:(l.getD i Po.z).f[j]? = some v):(poc l)[0+i * 2+j]? = some v:=jF (Us h) hj
def spB (l h m:Int):Bool:=decide (0≤l) && decide (l≤h) && decide (h≤m)
theorem XJ {l h m:Int} (q:spB l h m=true):0≤l∧l≤h∧h≤m:=by simp [spB] at q;omega
theorem UG {l h m:Int} (q:spB l h m=false):¬ (0≤l∧l≤h∧h≤m):=by intro p;simp [spB] at q;omega
def vF (f:Fw):Bool:=spB f.wl f.wh 1073741824 && spB f.tl f.th 40000
def Xo (d:Dc):Bool:=!inB d.d 0 16384 || !spB d.wl d.wh 1073741824 || !spB d.cl d.ch 100000
def X0 (n:Ns):Bool:=!inB n.r 0 63 || !spB n.a n.b 16384
def vP (x:Ph):Bool:=spB x.bl x.bh 1099511627776 && spB x.il x.ih 1099511627776 && spB x.ol x.oh 1099511627776 && spB x.rl x.rh 1073741824 && spB x.cl x.ch 1000
def XG (m n:Int):Bool:=!inB n 0 m
def vD (ds:List Dc):Bool:=decide (ds.length≤64) && !ds.any Xo
def vN (ns:List Ns):Bool:=decide (ns.length≤32) && !ns.any X0
theorem ZbJ {f:Fw} (h:vF f=true):(0≤f.wl∧f.wl≤f.wh∧f.wh≤1073741824)∧0≤f.tl∧f.tl≤f.th∧f.th≤40000:=by
 simp only [vF,Bool.and_eq_true] at h
 exact ⟨XJ h.1,XJ h.2⟩
theorem Za2 {d:Dc} (h:Xo d=false):(0≤d.d∧d.d≤16384)∧(0≤d.wl∧d.wl≤d.wh∧d.wh≤1073741824)∧0≤d.cl∧d.cl≤d.ch∧d.ch≤100000:=by
 simp only [Xo,Bool.or_eq_false_iff,Bool.not_eq_false'] at h
 exact ⟨Y5 h.1.1,XJ h.1.2,XJ h.2⟩
theorem ZdF {d:Ns} (h:X0 d=false):(0≤d.r∧d.r≤63)∧0≤d.a∧d.a≤d.b∧d.b≤16384:=by
 simp only [X0,Bool.or_eq_false_iff,Bool.not_eq_false'] at h
 exact ⟨Y5 h.1,XJ h.2⟩
theorem ZbR {x:Ph} (h:vP x=true):(0≤x.bl∧x.bl≤x.bh∧x.bh≤1099511627776)∧(0≤x.il∧x.il≤x.ih∧x.ih≤1099511627776)∧(0≤x.ol∧x.ol≤x.oh∧x.oh≤1099511627776)∧(0≤x.rl∧x.rl≤x.rh∧x.rh≤1073741824)∧0≤x.cl∧x.cl≤x.ch∧x.ch≤1000:=by
 simp only [vP,Bool.and_eq_true] at h
 exact ⟨XJ h.1.1.1.1,XJ h.1.1.1.2,XJ h.1.1.2,XJ h.1.2,XJ h.2⟩
theorem Zea {ds:List Dc} (h:vD ds=true):ds.length≤64∧ds.any Xo=false:=by
 simpa only [vD,Bool.and_eq_true,decide_eq_true_eq,Bool.not_eq_true'] using h
theorem ZfE {ds:List Ns} (h:vN ds=true):ds.length≤32∧ds.any X0=false:=by
 simpa only [vN,Bool.and_eq_true,decide_eq_true_eq,Bool.not_eq_true'] using h
section
variable {kn:Kn} {lo:Nat} {H:Hp}
theorem XH {n m:Int}:∃ H',FnX Try.prog kn lo 34 [iv n,iv m] H (.bool (inB n 0 m)) H'∧Zk H H' []:=by
 have key:=Zp (kn:=kn) (lo:=lo) (H:=H) (args:=[iv n,iv m]) (Q:=fun w H'=>w=.bool (inB n 0 m)∧Zk H H' []) Try.func34 B34 N34 Z34 L34 (by simp) ?_
 ·obtain ⟨w,H',h,rfl,q⟩:=key;exact ⟨H',h,q⟩
 repeat' first
  | (intro t ht;cases t)
  | exact And.intro trivial (Exists.intro _ (And.intro rfl ⟨by simp_all [V1,inB]<;>(intros;omega),Zk.refl _ _⟩))
  | refine And.intro rfl (Exists.intro _ (And.intro rfl ?_))
theorem zb {n m:Int}:∃ H',FnX Try.prog kn lo 33 [iv n,iv m] H (.bool (inB n 1 m)) H'∧Zk H H' []:=by
 have key:=Zp (kn:=kn) (lo:=lo) (H:=H) (args:=[iv n,iv m]) (Q:=fun w H'=>w=.bool (inB n 1 m)∧Zk H H' []) Try.func33 B33 N33 Z33 L33 (by simp) ?_
 ·obtain ⟨w,H',h,rfl,q⟩:=key;exact ⟨H',h,q⟩
 repeat' first
  | (intro t ht;cases t)
  | exact And.intro trivial (Exists.intro _ (And.intro rfl ⟨by simp_all [V1,inB]<;>(intros;omega),Zk.refl _ _⟩))
  | refine And.intro rfl (Exists.intro _ (And.intro rfl ?_))
theorem Zcl {n a m:Int}:∃ H',FnX Try.prog kn lo 38 [iv n,iv a,iv m] H (.bool (inB n a m)) H'∧Zk H H' []:=by
 have key:=Zp (kn:=kn) (lo:=lo) (H:=H) (args:=[iv n,iv a,iv m]) (Q:=fun w H'=>w=.bool (inB n a m)∧Zk H H' []) Try.func38 B38 N38 Z38 L38 (by simp) ?_
 ·obtain ⟨w,H',h,rfl,q⟩:=key;exact ⟨H',h,q⟩
 repeat' first
  | (intro t ht;cases t)
  | exact And.intro trivial (Exists.intro _ (And.intro rfl ⟨by simp_all [V1,inB]<;>(intros;omega),Zk.refl _ _⟩))
  | refine And.intro rfl (Exists.intro _ (And.intro rfl ?_))
theorem Wc {l h m:Int} (hlo:lo≤H.next):∃ H',FnX Try.prog kn lo 44 [.agg #[iv l,iv h],iv m] H (.bool (spB l h m)) H'∧Zk H H' []:=by
 have key:=Zp (kn:=kn) (lo:=lo) (H:=H) (args:=[.agg #[iv l,iv h],iv m]) (Q:=fun w H'=>w=.bool (spB l h m)∧Zk H H' []) Try.func44 B44 N44 Z44 L44 (by simp) ?_
 ·obtain ⟨w,H',h,rfl,q⟩:=key;exact ⟨H',h,q⟩
 have hk:=Zk.refl H []
 refine Zc<|Yw (v:=.agg #[iv l,iv h]) rfl ?_
 intro H1 kH1 nH1 c1
 have c1:Cl H1 H.next [iv l,iv h]:=c1
 have mH1:=kH1.1
 have hk:=hk.trans kH1
 refine Za rfl<|Zb<|Zc<|Zu (b:=H.next) (o:=0) rfl<|ZP (b:=H.next) (o:=0) (v:=iv l) rfl c1.rd rfl<|WJ (a:=0) (b:=l) rfl rfl ?_
 intro t1 g1;cases t1
 ·have g1:¬ (0≤l):=of_decide_eq_false g1
  refine Za rfl<|Zh rfl<|Zh rfl<|Zh rfl<|Zh rfl<|Zh rfl<|Zd (v:=.bool false) rfl rfl<|Za rfl<|Zh rfl<|Zh rfl<|Zh rfl<|Zh rfl<|Zd (v:=.bool false) rfl rfl<|Za rfl<|Zb ?_
  exact And.intro trivial (Exists.intro _ (And.intro rfl ⟨congrArg Value.bool (show false=(spB l h m) from (by symm;unfold spB;simp_all<;>omega)),hk⟩))
 ·have g1:0≤l:=of_decide_eq_true g1
  refine Za rfl ?_
  refine Zl rfl (Zu (b:=H.next) (o:=0) rfl ?_)
  refine Zl rfl (ZP (b:=H.next) (o:=0) (v:=iv l) rfl c1.rd rfl ?_)
  refine Zl rfl (Zu (b:=H.next) (o:=0) rfl ?_)
  refine Zl rfl (ZP (b:=H.next) (o:=1) (v:=iv h) rfl c1.rd rfl ?_)
  refine Zl rfl (WJ (a:=l) (b:=h) rfl rfl ?_)
  intro t2 g2;cases t2
  ·have g2:¬ (l≤h):=of_decide_eq_false g2
   refine Zd (v:=.bool false) rfl rfl<|Za rfl<|Zh rfl<|Zh rfl<|Zh rfl<|Zh rfl<|Zd (v:=.bool false) rfl rfl<|Za rfl<|Zb ?_
   exact And.intro trivial (Exists.intro _ (And.intro rfl ⟨congrArg Value.bool (show false=(spB l h m) from (by symm;unfold spB;simp_all<;>omega)),hk⟩))
  ·have g2:l≤h:=of_decide_eq_true g2
   refine Zd (v:=.bool true) rfl rfl<|Za rfl ?_
   refine Zl rfl (Zu (b:=H.next) (o:=0) rfl ?_)
   refine Zl rfl (ZP (b:=H.next) (o:=1) (v:=iv h) rfl c1.rd rfl ?_)
   refine Zl rfl (Za rfl ?_)
   refine Zl rfl (WJ (a:=h) (b:=m) rfl rfl ?_)
   intro t3 g3;cases t3
   ·have g3:¬ (h≤m):=of_decide_eq_false g3
    refine Zd (v:=.bool false) rfl rfl<|Za rfl<|Zb ?_
    exact And.intro trivial (Exists.intro _ (And.intro rfl ⟨congrArg Value.bool (show false=(spB l h m) from (by symm;unfold spB;simp_all<;>omega)),hk⟩))
   ·have g3:h≤m:=of_decide_eq_true g3
    refine Zd (v:=.bool true) rfl rfl<|Za rfl<|Zb ?_
    exact And.intro trivial (Exists.intro _ (And.intro rfl ⟨congrArg Value.bool (show true=(spB l h m) from (by symm;unfold spB;simp_all<;>omega)),hk⟩))
theorem Zba {f:Fw} (hlo:lo≤H.next):∃ H',FnX Try.prog kn lo 42 [.agg (Fw.f f).toArray] H (.bool (vF f)) H'∧Zk H H' []:=by
 have key:=Zp (kn:=kn) (lo:=lo) (H:=H) (args:=[.agg (Fw.f f).toArray]) (Q:=fun w H'=>w=.bool (vF f)∧Zk H H' []) Try.func42 B42 N42 Z42 L42 (by simp) ?_
 ·obtain ⟨w,H',h,rfl,q⟩:=key;exact ⟨H',h,q⟩
 have hk:=Zk.refl H []
 refine Zc<|Yw (v:=.agg (Fw.f f).toArray) rfl ?_
 intro H1 kH1 nH1 c1
 have c1:Cl H1 H.next [iv f.wl,iv f.wh,iv f.tl,iv f.th]:=c1
 have mH1:=kH1.1
 have hk:=hk.trans kH1
 refine Za rfl<|Zb<|Zc<|Zu (b:=H.next) (o:=0) rfl<|Z4 (b:=H.next) (o:=0) rfl c1.rd (show row 2 _ _=some [iv f.wl,iv f.wh] from rfl)<|ZD rfl (Wc (by omega)) ?_
 intro tH2 H2 hH2 kH2
 have mH2:=kH2.1
 have hk:=hk.trans kH2
 have c1:=kH2.cl c1 (by simp)
 cases tH2
 ·have thH2:spB f.wl f.wh 1073741824=false:=hH2
  have uhH2:=UG thH2
  refine Za rfl<|Zh rfl<|Zh rfl<|Zh rfl<|Zd (v:=.bool false) rfl rfl<|Za rfl<|Zb ?_
  exact And.intro trivial (Exists.intro _ (And.intro rfl ⟨congrArg Value.bool (show false=(vF f) from (by symm;simp only [vF, *];try rfl)),hk⟩))
 ·have thH2:spB f.wl f.wh 1073741824=true:=hH2
  have uhH2:=XJ thH2
  refine Za rfl ?_
  refine Zl rfl (Zu (b:=H.next) (o:=0) rfl ?_)
  refine Zl rfl (Z4 (b:=H.next) (o:=2) rfl c1.rd (show row 2 _ _=some [iv f.tl,iv f.th] from rfl) ?_)
  refine Zl rfl (ZD rfl (Wc (by omega)) ?_)
  intro tH3 H3 hH3 kH3
  have mH3:=kH3.1
  have hk:=hk.trans kH3
  have c1:=kH3.cl c1 (by simp)
  cases tH3
  ·have thH3:spB f.tl f.th 40000=false:=hH3
   have uhH3:=UG thH3
   refine Zd (v:=.bool false) rfl rfl<|Za rfl<|Zb ?_
   exact And.intro trivial (Exists.intro _ (And.intro rfl ⟨congrArg Value.bool (show false=(vF f) from (by symm;simp only [vF, *];try rfl)),hk⟩))
  ·have thH3:spB f.tl f.th 40000=true:=hH3
   have uhH3:=XJ thH3
   refine Zd (v:=.bool true) rfl rfl<|Za rfl<|Zb ?_
   exact And.intro trivial (Exists.intro _ (And.intro rfl ⟨congrArg Value.bool (show true=(vF f) from (by symm;simp only [vF, *];try rfl)),hk⟩))
theorem Zb2 {d:Dc} (hlo:lo≤H.next):∃ H',FnX Try.prog kn lo 56 [.agg (Dc.f d).toArray] H (.bool (Xo d)) H'∧Zk H H' []:=by
 have key:=Zp (kn:=kn) (lo:=lo) (H:=H) (args:=[.agg (Dc.f d).toArray]) (Q:=fun w H'=>w=.bool (Xo d)∧Zk H H' []) Try.func56 B56 N56 Z56 L56 (by simp) ?_
 ·obtain ⟨w,H',h,rfl,q⟩:=key;exact ⟨H',h,q⟩
 have hk:=Zk.refl H []
 refine Zc<|Yw (v:=.agg (Dc.f d).toArray) rfl ?_
 intro H1 kH1 nH1 c1
 have c1:Cl H1 H.next [iv d.d,iv d.wl,iv d.wh,iv d.cl,iv d.ch]:=c1
 have mH1:=kH1.1
 have hk:=hk.trans kH1
 refine Za rfl<|Zb<|Zc<|Zu (b:=H.next) (o:=0) rfl<|ZP (b:=H.next) (o:=0) (v:=iv d.d) rfl c1.rd rfl<|ZD rfl (XH) ?_
 intro tH2 H2 hH2 kH2
 have mH2:=kH2.1
 have hk:=hk.trans kH2
 have c1:=kH2.cl c1 (by simp)
 cases tH2
 ·have thH2:inB d.d 0 16384=false:=hH2
  have uhH2:=Wn thH2
  refine Zd (v:=.bool true) rfl rfl<|Za rfl<|Zh rfl<|Zh rfl<|Zh rfl<|Zh rfl<|Zd (v:=.bool true) rfl rfl<|Za rfl<|Zh rfl<|Zh rfl<|Zh rfl<|Zh rfl<|Zd (v:=.bool true) rfl rfl<|Za rfl<|Zb ?_
  exact And.intro trivial (Exists.intro _ (And.intro rfl ⟨congrArg Value.bool (show true=(Xo d) from (by symm;simp only [Xo, *];try rfl)),hk⟩))
 ·have thH2:inB d.d 0 16384=true:=hH2
  have uhH2:=Y5 thH2
  refine Zd (v:=.bool false) rfl rfl<|Za rfl ?_
  refine Zl rfl (Zu (b:=H.next) (o:=0) rfl ?_)
  refine Zl rfl (Z4 (b:=H.next) (o:=1) rfl c1.rd (show row 2 _ _=some [iv d.wl,iv d.wh] from rfl) ?_)
  refine Zl rfl (ZD rfl (Wc (by omega)) ?_)
  intro tH3 H3 hH3 kH3
  have mH3:=kH3.1
  have hk:=hk.trans kH3
  have c1:=kH3.cl c1 (by simp)
  cases tH3
  ·have thH3:spB d.wl d.wh 1073741824=false:=hH3
   have uhH3:=UG thH3
   refine Zl rfl (Zd (v:=.bool true) rfl rfl ?_)
   refine Zd (v:=.bool true) rfl rfl<|Za rfl<|Zh rfl<|Zh rfl<|Zh rfl<|Zh rfl<|Zd (v:=.bool true) rfl rfl<|Za rfl<|Zb ?_
   exact And.intro trivial (Exists.intro _ (And.intro rfl ⟨congrArg Value.bool (show true=(Xo d) from (by symm;simp only [Xo, *];try rfl)),hk⟩))
  ·have thH3:spB d.wl d.wh 1073741824=true:=hH3
   have uhH3:=XJ thH3
   refine Zl rfl (Zd (v:=.bool false) rfl rfl ?_)
   refine Zd (v:=.bool false) rfl rfl<|Za rfl ?_
   refine Zl rfl (Zu (b:=H.next) (o:=0) rfl ?_)
   refine Zl rfl (Z4 (b:=H.next) (o:=3) rfl c1.rd (show row 2 _ _=some [iv d.cl,iv d.ch] from rfl) ?_)
   refine Zl rfl (ZD rfl (Wc (by omega)) ?_)
   intro tH4 H4 hH4 kH4
   have mH4:=kH4.1
   have hk:=hk.trans kH4
   have c1:=kH4.cl c1 (by simp)
   cases tH4
   ·have thH4:spB d.cl d.ch 100000=false:=hH4
    have uhH4:=UG thH4
    refine Zl rfl (Zd (v:=.bool true) rfl rfl ?_)
    refine Zd (v:=.bool true) rfl rfl<|Za rfl<|Zb ?_
    exact And.intro trivial (Exists.intro _ (And.intro rfl ⟨congrArg Value.bool (show true=(Xo d) from (by symm;simp only [Xo, *];try rfl)),hk⟩))
   ·have thH4:spB d.cl d.ch 100000=true:=hH4
    have uhH4:=XJ thH4
    refine Zl rfl (Zd (v:=.bool false) rfl rfl ?_)
    refine Zd (v:=.bool false) rfl rfl<|Za rfl<|Zb ?_
    exact And.intro trivial (Exists.intro _ (And.intro rfl ⟨congrArg Value.bool (show false=(Xo d) from (by symm;simp only [Xo, *];try rfl)),hk⟩))
theorem ZbP {d:Ns} (hlo:lo≤H.next):∃ H',FnX Try.prog kn lo 69 [.agg (Ns.f d).toArray] H (.bool (X0 d)) H'∧Zk H H' []:=by
 have key:=Zp (kn:=kn) (lo:=lo) (H:=H) (args:=[.agg (Ns.f d).toArray]) (Q:=fun w H'=>w=.bool (X0 d)∧Zk H H' []) Try.func69 B69 N69 Z69 L69 (by simp) ?_
 ·obtain ⟨w,H',h,rfl,q⟩:=key;exact ⟨H',h,q⟩
 have hk:=Zk.refl H []
 refine Zc<|Yw (v:=.agg (Ns.f d).toArray) rfl ?_
 intro H1 kH1 nH1 c1
 have c1:Cl H1 H.next [iv d.r,iv d.a,iv d.b]:=c1
 have mH1:=kH1.1
 have hk:=hk.trans kH1
 refine Za rfl<|Zb<|Zc<|Zu (b:=H.next) (o:=0) rfl<|ZP (b:=H.next) (o:=0) (v:=iv d.r) rfl c1.rd rfl<|ZD rfl (XH) ?_
 intro tH2 H2 hH2 kH2
 have mH2:=kH2.1
 have hk:=hk.trans kH2
 have c1:=kH2.cl c1 (by simp)
 cases tH2
 ·have thH2:inB d.r 0 63=false:=hH2
  have uhH2:=Wn thH2
  refine Zd (v:=.bool true) rfl rfl<|Za rfl<|Zh rfl<|Zh rfl<|Zh rfl<|Zh rfl<|Zh rfl<|Zh rfl<|Zh rfl<|Zd (v:=.bool true) rfl rfl<|Za rfl<|Zb ?_
  exact And.intro trivial (Exists.intro _ (And.intro rfl ⟨congrArg Value.bool (show true=(X0 d) from (by symm;simp only [X0, *];try rfl)),hk⟩))
 ·have thH2:inB d.r 0 63=true:=hH2
  have uhH2:=Y5 thH2
  refine Zd (v:=.bool false) rfl rfl<|Za rfl ?_
  refine Zl rfl (Zu (b:=H.next) (o:=0) rfl ?_)
  refine Zl rfl (ZP (b:=H.next) (o:=1) (v:=iv d.a) rfl c1.rd rfl ?_)
  refine Zl rfl (Zu (b:=H.next) (o:=0) rfl ?_)
  refine Zl rfl (ZP (b:=H.next) (o:=2) (v:=iv d.b) rfl c1.rd rfl ?_)
  refine Zl rfl (Zd (v:=.agg #[iv d.a,iv d.b]) rfl (by kernel_rfl) ?_)
  refine Zl rfl (ZD rfl (Wc (by omega)) ?_)
  intro tH3 H3 hH3 kH3
  have mH3:=kH3.1
  have hk:=hk.trans kH3
  have c1:=kH3.cl c1 (by simp)
  cases tH3
  ·have thH3:spB d.a d.b 16384=false:=hH3
   have uhH3:=UG thH3
   refine Zl rfl (Zd (v:=.bool true) rfl rfl ?_)
   refine Zd (v:=.bool true) rfl rfl<|Za rfl<|Zb ?_
   exact And.intro trivial (Exists.intro _ (And.intro rfl ⟨congrArg Value.bool (show true=(X0 d) from (by symm;simp only [X0, *];try rfl)),hk⟩))
  ·have thH3:spB d.a d.b 16384=true:=hH3
   have uhH3:=XJ thH3
   refine Zl rfl (Zd (v:=.bool false) rfl rfl ?_)
   refine Zd (v:=.bool false) rfl rfl<|Za rfl<|Zb ?_
   exact And.intro trivial (Exists.intro _ (And.intro rfl ⟨congrArg Value.bool (show false=(X0 d) from (by symm;simp only [X0, *];try rfl)),hk⟩))
theorem Zcr {ds:List Dc} {sa:Option Addr} {n cap:Nat} (hs:Sl H sa n cap (dcc ds)) (hl:ds.length=n) (hn:n≤1000000) (hlo:lo≤H.next):∃ x H',FnX Try.prog kn lo 74 [.slice sa n cap,.func (.func 56) #[] #[]] H (iv x) H'∧decide (x ≥ 0)=ds.any Xo∧Zk H H' []:=by
 have key:=Zp (kn:=kn) (lo:=lo) (H:=H) (args:=[.slice sa n cap,.func (.func 56) #[] #[]]) (Q:=fun w H'=>∃ x,w=iv x∧decide (x ≥ 0)=ds.any Xo∧Zk H H' []) Try.func74 B74 N74 Z74 L74 (by simp) ?_
 ·obtain ⟨w,H',h,x,rfl,r⟩:=key;exact ⟨x,H',h,r⟩
 have hk:=Zk.refl H []
 have fs:=hs.old
 refine Zc<|Za rfl<|Zb<|Zc<|Za rfl<|Zv (m:=n) rfl<|Za rfl<|Zb ?_
 refine Zt (fn:=Try.f74) Ze0 N74 ZeH (fun i:Nat=>[(0,.slice sa n cap),(1,.func (.func 56) #[] #[]),(7,iv (n:Int)),(8,iv (i:Int))])
  (fun k i H'=>i+k=n∧Zk H H' []∧Sl H' sa n cap (dcc ds)∧∀ j,j < i→Xo (ds.getD j Dc.z)=false) n 0 ⟨by omega,hk,hs,fun j h=>absurd h (by omega)⟩ ⟨rfl,rfl,rfl,rfl,trivial⟩ ?_
 rintro k i L1 ⟨hik,hk,hs,hall⟩
 have mk:=hk.1
 refine Zc<|Zx (a:=(i:Int)) (b:=(n:Int)) rfl rfl<|Zb ?_
 refine And.intro (fun q1=>?_) (fun q1=>?_)
 ·have q1:(i:Int) < (n:Int):=of_decide_eq_true q1
  have hi:i < n:=by omega
  have fs:=hs.old
  rcases id hs with ⟨_,h0s,_⟩ | ⟨sb,es,rs,_⟩
  ·omega
  have ls:=rs.1
  first | refine Zj ?_ | skip
  refine Zc<|Za rfl<|Za rfl<|Zb<|Zc<|Za rfl<|Za rfl<|Za rfl<|YS (b:=sb) (o:=0) (k:=i) (j:=(i:Int)) (by rw [← es];rfl) rfl rfl hi<|Z4 (b:=sb) (o:=0+i * 5) rfl rs (zR (by omega))<|ZD rfl (Zb2 (by omega)) ?_
  intro tH1 H1 hH1 kH1
  have mH1:=kH1.1
  have hk:=hk.trans kH1
  have hs:=kH1.sl0 hs
  have rs:=kH1.rd rs (by simp)
  cases tH1
  ·have hb:Xo (ds.getD i Dc.z)=false:=hH1
   refine Zb<|ZQ ?_
   first | refine Zj ?_ | skip
   show Zn _ _ _ _ _ _ _ _
   refine Zo (a:=(i:Int)) (b:=1) rfl rfl ⟨by omega,by omega⟩<|Za rfl<|Zb ?_
   exact ⟨k - 1,i+1,by omega,⟨by omega,hk,hs,fun j hj=>by rcases Nat.lt_or_ge j i with c | c;exact hall j c;rw [show j=i by omega];exact hb⟩,rfl,rfl,rfl,rfl,trivial⟩
  ·have hb:Xo (ds.getD i Dc.z)=true:=hH1
   refine Zb<|ZK<|Zc<|Za rfl<|Za rfl<|Zb ?_
   exact And.intro trivial (Exists.intro _ (And.intro rfl ⟨(i:Int),rfl,by rw [Uy (z:=Dc.z) (j:=i) (by omega) hb];exact decide_eq_true (by omega),hk⟩))
 ·have q1:¬ ((i:Int) < (n:Int)):=of_decide_eq_false q1
  refine Zc<|Za rfl<|Zb ?_
  exact And.intro trivial (Exists.intro _ (And.intro rfl ⟨-1,rfl,by rw [VT (z:=Dc.z) (fun j hj=>hall j (by omega))];rfl,hk⟩))
theorem ZbM {ns:List Ns} {sa:Option Addr} {n cap:Nat} (hs:Sl H sa n cap (nsc ns)) (hl:ns.length=n) (hn:n≤1000000) (hlo:lo≤H.next):∃ x H',FnX Try.prog kn lo 79 [.slice sa n cap,.func (.func 69) #[] #[]] H (iv x) H'∧decide (x ≥ 0)=ns.any X0∧Zk H H' []:=by
 have key:=Zp (kn:=kn) (lo:=lo) (H:=H) (args:=[.slice sa n cap,.func (.func 69) #[] #[]]) (Q:=fun w H'=>∃ x,w=iv x∧decide (x ≥ 0)=ns.any X0∧Zk H H' []) Try.func79 B79 N79 Z79 L79 (by simp) ?_
 ·obtain ⟨w,H',h,x,rfl,r⟩:=key;exact ⟨x,H',h,r⟩
 have hk:=Zk.refl H []
 have fs:=hs.old
 refine Zc<|Za rfl<|Zb<|Zc<|Za rfl<|Zv (m:=n) rfl<|Za rfl<|Zb ?_
 refine Zt (fn:=Try.f79) ZeA N79 Ze5 (fun i:Nat=>[(0,.slice sa n cap),(1,.func (.func 69) #[] #[]),(7,iv (n:Int)),(8,iv (i:Int))])
  (fun k i H'=>i+k=n∧Zk H H' []∧Sl H' sa n cap (nsc ns)∧∀ j,j < i→X0 (ns.getD j Ns.z)=false) n 0 ⟨by omega,hk,hs,fun j h=>absurd h (by omega)⟩ ⟨rfl,rfl,rfl,rfl,trivial⟩ ?_
 rintro k i L1 ⟨hik,hk,hs,hall⟩
 have mk:=hk.1
 refine Zc<|Zx (a:=(i:Int)) (b:=(n:Int)) rfl rfl<|Zb ?_
 refine And.intro (fun q1=>?_) (fun q1=>?_)
 ·have q1:(i:Int) < (n:Int):=of_decide_eq_true q1
  have hi:i < n:=by omega
  have fs:=hs.old
  rcases id hs with ⟨_,h0s,_⟩ | ⟨sb,es,rs,_⟩
  ·omega
  have ls:=rs.1
  first | refine Zj ?_ | skip
  refine Zc<|Za rfl<|Za rfl<|Zb<|Zc<|Za rfl<|Za rfl<|Za rfl<|YS (b:=sb) (o:=0) (k:=i) (j:=(i:Int)) (by rw [← es];rfl) rfl rfl hi<|Z4 (b:=sb) (o:=0+i * 3) rfl rs (Jk (by omega))<|ZD rfl (ZbP (by omega)) ?_
  intro tH1 H1 hH1 kH1
  have mH1:=kH1.1
  have hk:=hk.trans kH1
  have hs:=kH1.sl0 hs
  have rs:=kH1.rd rs (by simp)
  cases tH1
  ·have hb:X0 (ns.getD i Ns.z)=false:=hH1
   refine Zb<|ZQ ?_
   first | refine Zj ?_ | skip
   show Zn _ _ _ _ _ _ _ _
   refine Zo (a:=(i:Int)) (b:=1) rfl rfl ⟨by omega,by omega⟩<|Za rfl<|Zb ?_
   exact ⟨k - 1,i+1,by omega,⟨by omega,hk,hs,fun j hj=>by rcases Nat.lt_or_ge j i with c | c;exact hall j c;rw [show j=i by omega];exact hb⟩,rfl,rfl,rfl,rfl,trivial⟩
  ·have hb:X0 (ns.getD i Ns.z)=true:=hH1
   refine Zb<|ZK<|Zc<|Za rfl<|Za rfl<|Zb ?_
   exact And.intro trivial (Exists.intro _ (And.intro rfl ⟨(i:Int),rfl,by rw [Uy (z:=Ns.z) (j:=i) (by omega) hb];exact decide_eq_true (by omega),hk⟩))
 ·have q1:¬ ((i:Int) < (n:Int)):=of_decide_eq_false q1
  refine Zc<|Za rfl<|Zb ?_
  exact And.intro trivial (Exists.intro _ (And.intro rfl ⟨-1,rfl,by rw [VT (z:=Ns.z) (fun j hj=>hall j (by omega))];rfl,hk⟩))
theorem Zb1 {ds:List Dc} {sa:Option Addr} {n cap:Nat} (hs:Sl H sa n cap (dcc ds)) (hl:ds.length=n) (hn:n≤1000000) (hlo:lo≤H.next):∃ H',FnX Try.prog kn lo 55 [.slice sa n cap,.func (.func 56) #[] #[]] H (.bool (ds.any Xo)) H'∧Zk H H' []:=by
 have key:=Zp (kn:=kn) (lo:=lo) (H:=H) (args:=[.slice sa n cap,.func (.func 56) #[] #[]]) (Q:=fun w H'=>w=.bool (ds.any Xo)∧Zk H H' []) Try.func55 B55 N55 Z55 L55 (by simp) ?_
 ·obtain ⟨w,H',h,rfl,q⟩:=key;exact ⟨H',h,q⟩
 have hk:=Zk.refl H []
 refine Zc<|Za rfl<|Zb<|Zc<|Za rfl<|Za rfl ?_
 obtain ⟨x,H1,fH1,hx,kH1⟩:=Zcr (kn:=kn) (lo:=lo) (H:=H) hs hl hn (by omega)
 refine Zi (vs:=[.slice sa n cap,.func (.func 56) #[] #[]]) rfl (Ze fH1) ?_
 have mH1:=kH1.1
 have hk:=hk.trans kH1
 refine Jo (a:=x) (b:=0) rfl rfl<|Za rfl<|Zb ?_
 exact And.intro trivial (Exists.intro _ (And.intro rfl ⟨congrArg Value.bool hx,hk⟩))
theorem ZbN {ns:List Ns} {sa:Option Addr} {n cap:Nat} (hs:Sl H sa n cap (nsc ns)) (hl:ns.length=n) (hn:n≤1000000) (hlo:lo≤H.next):∃ H',FnX Try.prog kn lo 68 [.slice sa n cap,.func (.func 69) #[] #[]] H (.bool (ns.any X0)) H'∧Zk H H' []:=by
 have key:=Zp (kn:=kn) (lo:=lo) (H:=H) (args:=[.slice sa n cap,.func (.func 69) #[] #[]]) (Q:=fun w H'=>w=.bool (ns.any X0)∧Zk H H' []) Try.func68 B68 N68 Z68 L68 (by simp) ?_
 ·obtain ⟨w,H',h,rfl,q⟩:=key;exact ⟨H',h,q⟩
 have hk:=Zk.refl H []
 refine Zc<|Za rfl<|Zb<|Zc<|Za rfl<|Za rfl ?_
 obtain ⟨x,H1,fH1,hx,kH1⟩:=ZbM (kn:=kn) (lo:=lo) (H:=H) hs hl hn (by omega)
 refine Zi (vs:=[.slice sa n cap,.func (.func 69) #[] #[]]) rfl (Ze fH1) ?_
 have mH1:=kH1.1
 have hk:=hk.trans kH1
 refine Jo (a:=x) (b:=0) rfl rfl<|Za rfl<|Zb ?_
 exact And.intro trivial (Exists.intro _ (And.intro rfl ⟨congrArg Value.bool hx,hk⟩))
theorem ZcT {ds:List Dc} {sa:Option Addr} {n cap:Nat} (hs:Sl H sa n cap (dcc ds)) (hl:ds.length=n) (hn:n≤1000000) (hlo:lo≤H.next):∃ H',FnX Try.prog kn lo 32 [.slice sa n cap] H (.bool (vD ds)) H'∧Zk H H' []:=by
 have key:=Zp (kn:=kn) (lo:=lo) (H:=H) (args:=[.slice sa n cap]) (Q:=fun w H'=>w=.bool (vD ds)∧Zk H H' []) Try.func32 B32 N32 Z32 L32 (by simp) ?_
 ·obtain ⟨w,H',h,rfl,q⟩:=key;exact ⟨H',h,q⟩
 have fs:=hs.old
 have hk:=Zk.refl H []
 refine Zc<|Za rfl<|Zb<|Zc<|Za rfl<|Zv (m:=n) rfl<|WJ (a:=(n:Int)) (b:=64) rfl rfl ?_
 intro t1 g1;cases t1
 ·have g1:¬ ((n:Int)≤64):=of_decide_eq_false g1
  refine Za rfl<|Zh rfl<|Zh rfl<|Zh rfl<|Zd (v:=.bool false) rfl rfl<|Za rfl<|Zb ?_
  exact And.intro trivial (Exists.intro _ (And.intro rfl ⟨congrArg Value.bool (show false=(vD ds) from (by symm;unfold vD;rw [hl];generalize ds.any Xo=qq at *;simp_all<;>omega)),hk⟩))
 ·have g1:(n:Int)≤64:=of_decide_eq_true g1
  refine Za rfl ?_
  refine Zl rfl (Za rfl ?_)
  refine Zl rfl (ZD rfl (Zb1 hs hl hn (by omega)) ?_)
  intro tH1 H1 hH1 kH1
  have mH1:=kH1.1
  have hk:=hk.trans kH1
  have hs:=kH1.sl0 hs
  cases tH1
  ·have hany:ds.any Xo=false:=hH1
   refine Zl rfl (Zd (v:=.bool true) rfl rfl ?_)
   refine Zd (v:=.bool true) rfl rfl<|Za rfl<|Zb ?_
   exact And.intro trivial (Exists.intro _ (And.intro rfl ⟨congrArg Value.bool (show true=(vD ds) from (by symm;unfold vD;rw [hl];generalize ds.any Xo=qq at *;simp_all<;>omega)),hk⟩))
  ·have hany:ds.any Xo=true:=hH1
   refine Zl rfl (Zd (v:=.bool false) rfl rfl ?_)
   refine Zd (v:=.bool false) rfl rfl<|Za rfl<|Zb ?_
   exact And.intro trivial (Exists.intro _ (And.intro rfl ⟨congrArg Value.bool (show false=(vD ds) from (by symm;unfold vD;rw [hl];generalize ds.any Xo=qq at *;simp_all<;>omega)),hk⟩))
theorem ZeB {ns:List Ns} {sa:Option Addr} {n cap:Nat} (hs:Sl H sa n cap (nsc ns)) (hl:ns.length=n) (hn:n≤1000000) (hlo:lo≤H.next):∃ H',FnX Try.prog kn lo 49 [.slice sa n cap] H (.bool (vN ns)) H'∧Zk H H' []:=by
 have key:=Zp (kn:=kn) (lo:=lo) (H:=H) (args:=[.slice sa n cap]) (Q:=fun w H'=>w=.bool (vN ns)∧Zk H H' []) Try.func49 B49 N49 Z49 L49 (by simp) ?_
 ·obtain ⟨w,H',h,rfl,q⟩:=key;exact ⟨H',h,q⟩
 have fs:=hs.old
 have hk:=Zk.refl H []
 refine Zc<|Za rfl<|Zb<|Zc<|Za rfl<|Zv (m:=n) rfl<|WJ (a:=(n:Int)) (b:=32) rfl rfl ?_
 intro t1 g1;cases t1
 ·have g1:¬ ((n:Int)≤32):=of_decide_eq_false g1
  refine Za rfl<|Zh rfl<|Zh rfl<|Zh rfl<|Zd (v:=.bool false) rfl rfl<|Za rfl<|Zb ?_
  exact And.intro trivial (Exists.intro _ (And.intro rfl ⟨congrArg Value.bool (show false=(vN ns) from (by symm;unfold vN;rw [hl];generalize ns.any X0=qq at *;simp_all<;>omega)),hk⟩))
 ·have g1:(n:Int)≤32:=of_decide_eq_true g1
  refine Za rfl ?_
  refine Zl rfl (Za rfl ?_)
  refine Zl rfl (ZD rfl (ZbN hs hl hn (by omega)) ?_)
  intro tH1 H1 hH1 kH1
  have mH1:=kH1.1
  have hk:=hk.trans kH1
  have hs:=kH1.sl0 hs
  cases tH1
  ·have hany:ns.any X0=false:=hH1
   refine Zl rfl (Zd (v:=.bool true) rfl rfl ?_)
   refine Zd (v:=.bool true) rfl rfl<|Za rfl<|Zb ?_
   exact And.intro trivial (Exists.intro _ (And.intro rfl ⟨congrArg Value.bool (show true=(vN ns) from (by symm;unfold vN;rw [hl];generalize ns.any X0=qq at *;simp_all<;>omega)),hk⟩))
  ·have hany:ns.any X0=true:=hH1
   refine Zl rfl (Zd (v:=.bool false) rfl rfl ?_)
   refine Zd (v:=.bool false) rfl rfl<|Za rfl<|Zb ?_
   exact And.intro trivial (Exists.intro _ (And.intro rfl ⟨congrArg Value.bool (show false=(vN ns) from (by symm;unfold vN;rw [hl];generalize ns.any X0=qq at *;simp_all<;>omega)),hk⟩))
end
end Go.Ax

/-! Windows over portions: what a window that goes on holds,and the loads of all windows. -/
namespace Go.Ax
open Go Go.RowKit
def ps:List Po→Int
 | []=>0
 | p :: l=>p.l+ps l
theorem WU:∀ {a b:List Po},ps (a ++ b)=ps a+ps b
 | [],b=>by simp [ps]
 | p :: a,b=>by simp only [List.cons_append,ps,WU];omega
theorem XW {α:Type} {l:List α} {i:Nat} {z:α} (h:i < l.length):l.drop i=l.getD i z :: l.drop (i+1):=by
 rw [List.drop_eq_getElem_cons h,List.getD_eq_getElem?_getD,List.getElem?_eq_getElem h];rfl
theorem Wi {α:Type} {l:List α} {i:Nat} {z:α} (h:i < l.length):l.take (i+1)=l.take i ++ [l.getD i z]:=by
 rw [List.take_add_one,List.getD_eq_getElem?_getD,List.getElem?_eq_getElem h];rfl
theorem Vy {α:Type} {l:List α} {x z:α} (h:x∈l):∃ i,i < l.length∧l.getD i z=x:=by
 obtain ⟨i,hi,e⟩:=List.mem_iff_getElem.1 h
 exact ⟨i,hi,by rw [List.getD_eq_getElem?_getD,List.getElem?_eq_getElem hi];exact e⟩
theorem YA {α:Type} {l:List α} {z:α} {i:Nat} (h:i < l.length):l.getD i z∈l:=by
 rw [List.getD_eq_getElem?_getD,List.getElem?_eq_getElem h];exact List.getElem_mem h
theorem ZbO {l:List Po} {i:Nat} (h:i < l.length):ps (l.take (i+1))=ps (l.take i)+(l.getD i Po.z).l:=by
 rw [Wi (z:=Po.z) h,WU];simp [ps]
def Vl (l:List Po):Prop:=∀ p,p∈l→0≤p.l∧p.l≤72057594037927936
theorem Vl.sub {a b:List Po} (h:Vl b) (k:∀ p,p∈a→p∈b):Vl a:=fun p hp=>h p (k p hp)
theorem jB:∀ {l:List Po},(∀ p,p∈l→0≤p.l)→0≤ps l
 | [],_=>Int.le_refl 0
 | p :: l,h=>by have:=h p (by simp);have:=jB (l:=l) fun q hq=>h q (by simp [hq]);simp only [ps];omega
theorem jy:∀ {l:List Po},Vl l→ps l≤(l.length:Int) * 72057594037927936
 | [],_=>by simp [ps]
 | p :: l,h=>by have:=h p (by simp);have:=jy (l:=l) fun q hq=>h q (by simp [hq]);simp only [ps,List.length_cons];omega
theorem ZbS {a b:List Po} (h:a.Perm b):ps a=ps b:=by
 induction h with
 | nil=>rfl
 | cons x _ ih=>simp only [ps,ih]
 | swap x y l=>simp only [ps];omega
 | trans _ _ h1 h2=>exact h1.trans h2
theorem UM {l:List Po} {f g:Po→Bool} (h:∀ p,p∈l→0≤p.l) (k:∀ p,p∈l→f p=true→g p=true):ps (l.filter f)≤ps (l.filter g):=by
 induction l with
 | nil=>simp [ps]
 | cons p l ih=>
  have h0:=h p (by simp)
  have ih:=ih (fun q hq=>h q (by simp [hq])) fun q hq=>k q (by simp [hq])
  by_cases hf:f p=true
  ·rw [List.filter_cons_of_pos hf,List.filter_cons_of_pos (k p (by simp) hf)];simp only [ps];omega
  ·rw [List.filter_cons_of_neg hf]
   by_cases hg:g p=true
   ·rw [List.filter_cons_of_pos hg];simp only [ps];omega
   ·rw [List.filter_cons_of_neg hg];exact ih
def inW (days D:Int) (p:Po):Bool:=decide (D - days < p.d) && decide (p.d≤D)
theorem QT {days D:Int} {p:Po}:inW days D p=true↔D - days < p.d∧p.d≤D:=by unfold inW;rw [Bool.and_eq_true,decide_eq_true_eq,decide_eq_true_eq]
def yg (c:Int) (p:Po):Bool:=decide (c < p.d)
theorem YD {c:Int} {p:Po}:yg c p=true↔c < p.d:=decide_eq_true_iff
theorem ZbH {l:List Po} {k:Nat} {f:Po→Bool}:ps (l.filter f)=ps ((l.take k).filter f)+ps ((l.drop k).filter f):=by
 rw [← WU,← List.filter_append,List.take_append_drop]
def XP (l:List Po) (days D:Int):Int:=ps (l.filter (inW days D))
theorem KD {a b:List Po} {days D:Int} (h:a.Perm b):XP a days D=XP b days D:=ZbS (h.filter _)
theorem jY {l:List Po} {days D d:Int}:XP (l ++ [⟨d,0⟩]) days D=XP l days D:=by
 unfold XP
 rw [List.filter_append,WU]
 by_cases h:inW days D ⟨d,0⟩=true
 ·rw [List.filter_cons_of_pos h];simp [ps]
 ·rw [List.filter_cons_of_neg h];simp [ps]
theorem Zan {l:List Po} {days D:Int} (h:∀ p,p∈l→D < p.d):XP l days D=0:=by
 unfold XP
 have:l.filter (inW days D)=[]:=by
  rw [List.filter_eq_nil_iff]
  intro p hp q
  have:=h p hp
  have:=QT.1 q
  omega
 rw [this];rfl
theorem Zcc {l:List Po} {days D:Int} (h:Vl l):XP l days D≤(l.length:Int) * 72057594037927936:=by
 have h1:=jy (l:=l.filter (inW days D)) (h.sub fun p hp=>(List.mem_filter.1 hp).1)
 have h2:=List.length_filter_le (inW days D) l
 unfold XP
 omega
/-! The window that goes on. -/
def old (c:Int) (p:Po):Bool:=decide (p.d≤c)
def win (qs:List Po) (days:Int):Nat→List Po
 | 0=>[]
 | i+1=>(win qs days i).dropWhile (old ((qs.getD i Po.z).d - days)) ++ [qs.getD i Po.z]
theorem Uw {qs:List Po} {days:Int}:∀ {i:Nat},i≤qs.length→(∀ p,p∈win qs days i→p∈qs)∧(win qs days i).length≤i
 | 0,_=>⟨fun p hp=>by simp [win] at hp,Nat.le_refl 0⟩
 | i+1,h=>by
  obtain ⟨h1,h2⟩:=Uw (qs:=qs) (days:=days) (i:=i) (by omega)
  have hs:=List.dropWhile_suffix (l:=win qs days i) (old ((qs.getD i Po.z).d - days))
  refine ⟨fun p hp=>?_,?_⟩
  ·simp only [win,List.mem_append,List.mem_singleton] at hp
   rcases hp with hp | rfl
   ·exact h1 p (hs.subset hp)
   ·exact YA (by omega)
  ·have:=hs.length_le
   simp only [win,List.length_append,List.length_singleton];omega
def Srt (l:List Po):Prop:=l.Pairwise fun a b=>a.d≤b.d
theorem QW {c:Int}:∀ {l:List Po},Srt l→l.dropWhile (old c)=l.filter (yg c)
 | [],_=>rfl
 | p :: l,h=>by
  obtain ⟨h1,h2⟩:=List.pairwise_cons.1 h
  by_cases hp:p.d≤c
  ·rw [List.dropWhile_cons_of_pos (by simp [old,hp]),List.filter_cons_of_neg (fun q=>by have:=YD.1 q;omega)];exact QW h2
  ·rw [List.dropWhile_cons_of_neg (by simp [old,hp]),List.filter_cons_of_pos (YD.2 (by omega))]
   congr 1
   symm
   rw [List.filter_eq_self]
   intro q hq
   have:=h1 q hq
   exact YD.2 (by omega)
theorem Srt.le {l:List Po} (h:Srt l) {i j:Nat} (hij:i≤j) (hj:j < l.length):(l.getD i Po.z).d≤(l.getD j Po.z).d:=by
 rcases Nat.lt_or_ge i j with q | q
 ·have:=List.pairwise_iff_getElem.1 h i j (by omega) hj q
  rw [List.getD_eq_getElem?_getD,List.getElem?_eq_getElem (by omega),List.getD_eq_getElem?_getD,List.getElem?_eq_getElem hj]
  exact this
 ·rw [show i=j by omega];exact Int.le_refl _
theorem Srt.take {l:List Po} (h:Srt l) {k:Nat}:Srt (l.take k):=List.Pairwise.sublist (List.take_sublist k l) h
theorem qG {qs:List Po} {days:Int} (h:Srt qs) (hd:1≤days):∀ {i:Nat},i < qs.length→win qs days (i+1)=(qs.take (i+1)).filter (yg ((qs.getD i Po.z).d - days))
 | 0,hi=>by
  rw [Wi (z:=Po.z) hi]
  simp only [win,List.dropWhile_nil,List.nil_append,List.take_zero]
  rw [List.filter_cons_of_pos (YD.2 (by omega))];rfl
 | i+1,hi=>by
  have ih:=qG h hd (i:=i) (by omega)
  have hle:=h.le (i:=i) (j:=i+1) (by omega) hi
  have hs:Srt (win qs days (i+1)):=by rw [ih];exact List.Pairwise.sublist List.filter_sublist h.take
  rw [win,QW hs,ih,List.filter_filter,Wi (z:=Po.z) hi,List.filter_append]
  congr 1
  ·refine List.filter_congr fun p _=>?_
   rw [Bool.eq_iff_iff,Bool.and_eq_true,YD,YD]
   omega
  ·rw [List.filter_cons_of_pos (YD.2 (by omega))];rfl
theorem Zbq {qs:List Po} {days:Int} (h:Srt qs) (hd:1≤days) (hv:∀ p,p∈qs→0≤p.l) {i:Nat} (hi:i < qs.length):ps (win qs days (i+1))≤XP qs days (qs.getD i Po.z).d:=by
 rw [qG h hd hi]
 unfold XP
 have h1:ps ((qs.take (i+1)).filter (yg ((qs.getD i Po.z).d - days)))≤ps ((qs.take (i+1)).filter (inW days (qs.getD i Po.z).d)):=by
  refine UM (fun p hp=>hv p (List.mem_of_mem_take hp)) fun p hp hq=>?_
  obtain ⟨j,hj,rfl⟩:=Vy (z:=Po.z) hp
  have hj2:j≤i:=by simp at hj;omega
  have e2:(qs.take (i+1)).getD j Po.z=qs.getD j Po.z:=by
   rw [List.getD_eq_getElem?_getD,List.getElem?_take,if_pos (by omega),← List.getD_eq_getElem?_getD]
  rw [e2] at hq ⊢
  have:=h.le hj2 hi
  have:=YD.1 hq
  exact QT.2 ⟨by omega,by omega⟩
 have h2:0≤ps ((qs.drop (i+1)).filter (inW days (qs.getD i Po.z).d)):=jB fun p hp=>hv p (List.mem_of_mem_drop (List.mem_filter.1 hp).1)
 rw [ZbH (k:=i+1) (l:=qs)]
 omega
theorem qh {qs:List Po} {days:Int} (h:Srt qs) (hd:1≤days) (hv:∀ p,p∈qs→0≤p.l) {D:Int} (hD:∃ q,q∈qs∧q.d≤D):∃ i,i < qs.length∧(qs.getD i Po.z).d≤D∧(∀ q,q∈qs→q.d≤D→q.d≤(qs.getD i Po.z).d)∧XP qs days D≤ps (win qs days (i+1)):=by
 have key:∀ n,n≤qs.length→(∀ j,j < n→D < (qs.getD (qs.length - 1 - j) Po.z).d)→(∃ i,i < qs.length∧(qs.getD i Po.z).d≤D∧∀ j,i < j→j < qs.length→D < (qs.getD j Po.z).d):=by
  intro n
  induction hn:qs.length - n generalizing n with
  | zero=>
   intro h1 h2
   obtain ⟨q,hq,hqD⟩:=hD
   obtain ⟨j,hj,rfl⟩:=Vy (z:=Po.z) hq
   have:=h2 (qs.length - 1 - j) (by omega)
   rw [show qs.length - 1 - (qs.length - 1 - j)=j by omega] at this
   omega
  | succ m ih=>
   intro h1 h2
   by_cases c:(qs.getD (qs.length - 1 - n) Po.z).d≤D
   ·refine ⟨qs.length - 1 - n,by omega,c,fun j hj1 hj2=>?_⟩
    have:=h2 (qs.length - 1 - j) (by omega)
    rw [show qs.length - 1 - (qs.length - 1 - j)=j by omega] at this
    exact this
   ·refine ih (n+1) (by omega) (by omega) fun j hj=>?_
    rcases Nat.lt_or_ge j n with q | q
    ·exact h2 j q
    ·rw [show j=n by omega];omega
 obtain ⟨i,hi,hiD,hlast⟩:=key 0 (Nat.zero_le _) fun j hj=>absurd hj (Nat.not_lt_zero j)
 refine ⟨i,hi,hiD,fun q hq hqD=>?_,?_⟩
 ·obtain ⟨j,hj,rfl⟩:=Vy (z:=Po.z) hq
  rcases Nat.lt_or_ge i j with c | c
  ·have:=hlast j c hj;omega
  ·exact h.le c hi
 ·rw [qG h hd hi]
  unfold XP
  have h2:(qs.drop (i+1)).filter (inW days D)=[]:=by
   rw [List.filter_eq_nil_iff]
   intro p hp
   obtain ⟨j,hj,rfl⟩:=Vy (z:=Po.z) hp
   have e2:(qs.drop (i+1)).getD j Po.z=qs.getD (i+1+j) Po.z:=by
    rw [List.getD_eq_getElem?_getD,List.getElem?_drop,← List.getD_eq_getElem?_getD]
   rw [e2]
   have:=hlast (i+1+j) (by omega) (by simp at hj;omega)
   intro q
   have:=QT.1 q
   omega
  rw [ZbH (k:=i+1) (l:=qs),h2,show ps []=0 from rfl,Int.add_zero]
  refine UM (fun p hp=>hv p (List.mem_of_mem_take hp)) fun p hp hq=>?_
  have:=QT.1 hq
  exact YD.2 (by omega)
/-! The first day above a limit. -/
def Fa (qs:List Po) (days limit r:Int):Prop:=
 (r = -1∧∀ j,j < qs.length→ps (win qs days (j+1))≤limit)∨∃ i,i < qs.length∧r=(qs.getD i Po.z).d∧limit < ps (win qs days (i+1))∧∀ j,j < i→ps (win qs days (j+1))≤limit
def Qw (l:List Po) (days limit cur:Int) (p:Po):Int:=if limit < XP l days p.d∧(cur < 0∨p.d < cur) then p.d else cur
def fab (l:List Po) (days limit:Int):Int:=l.foldl (Qw l days limit) (-1)
theorem qS {l:List Po} {days limit:Int} (hd:∀ p,p∈l→0≤p.d):∀ {k:Nat},k≤l.length→
  ((l.take k).foldl (Qw l days limit) (-1) = -1∧∀ p,p∈l.take k→XP l days p.d≤limit)∨
  ∃ p,p∈l.take k∧(l.take k).foldl (Qw l days limit) (-1)=p.d∧limit < XP l days p.d∧∀ q,q∈l.take k→limit < XP l days q.d→p.d≤q.d
 | 0,_=>.inl ⟨rfl,fun p hp=>by simp at hp⟩
 | k+1,h=>by
  have ih:=qS hd (l:=l) (days:=days) (limit:=limit) (k:=k) (by omega)
  have hm:l.getD k Po.z∈l:=YA (by omega)
  have h0:=hd _ hm
  rw [Wi (z:=Po.z) (by omega),List.foldl_append]
  simp only [List.foldl_cons,List.foldl_nil,List.mem_append,List.mem_singleton]
  by_cases hw:limit < XP l days (l.getD k Po.z).d
  ·rcases ih with ⟨e,h1⟩ | ⟨p,hp,e,h1,h2⟩
   ·rw [e]
    refine .inr ⟨_,.inr rfl,by unfold Qw;rw [if_pos ⟨hw,.inl (by omega)⟩],hw,fun q hq hq2=>?_⟩
    rcases hq with hq | rfl
    ·have:=h1 q hq;omega
    ·exact Int.le_refl _
   ·rw [e]
    have hp0:=hd p (List.mem_of_mem_take hp)
    by_cases hlt:(l.getD k Po.z).d < p.d
    ·refine .inr ⟨_,.inr rfl,by unfold Qw;rw [if_pos ⟨hw,.inr hlt⟩],hw,fun q hq hq2=>?_⟩
     rcases hq with hq | rfl
     ·have:=h2 q hq hq2;omega
     ·exact Int.le_refl _
    ·refine .inr ⟨p,.inl hp,by unfold Qw;rw [if_neg (by omega)],h1,fun q hq hq2=>?_⟩
     rcases hq with hq | rfl
     ·exact h2 q hq hq2
     ·omega
  ·have e2:∀ c,Qw l days limit c (l.getD k Po.z)=c:=fun c=>by unfold Qw;rw [if_neg (fun q=>hw q.1)]
   rw [e2]
   rcases ih with ⟨e,h1⟩ | ⟨p,hp,e,h1,h2⟩
   ·refine .inl ⟨e,fun q hq=>?_⟩
    rcases hq with hq | rfl
    ·exact h1 q hq
    ·omega
   ·refine .inr ⟨p,.inl hp,e,h1,fun q hq hq2=>?_⟩
    rcases hq with hq | rfl
    ·exact h2 q hq hq2
    ·exact absurd hq2 hw
theorem ZaO {l:List Po} {days limit:Int} (hd:∀ p,p∈l→0≤p.d) :
  (fab l days limit = -1∧∀ p,p∈l→XP l days p.d≤limit)∨
  ∃ p,p∈l∧fab l days limit=p.d∧limit < XP l days p.d∧∀ q,q∈l→limit < XP l days q.d→p.d≤q.d:=by
 have:=qS hd (limit:=limit) (days:=days) (k:=l.length) (Nat.le_refl _)
 rwa [List.take_length] at this
theorem Zbx {qs l:List Po} {days limit r:Int} (hp:qs.Perm l) (hs:Srt qs) (hd:1≤days) (hv:∀ p,p∈qs→0≤p.l) (h0:∀ p,p∈l→0≤p.d) (hl:0≤limit) (h:Fa qs days limit r):r=fab l days limit:=by
 have hw:∀ D,XP l days D=XP qs days D:=fun D=>(KD hp).symm
 have hD:∀ D,limit < XP qs days D→∃ q,q∈qs∧q.d≤D:=fun D hD=>Classical.byContradiction fun c=>by
  have:=Zan (l:=qs) (days:=days) (D:=D) fun p hp=>by
   rcases Int.lt_or_le D p.d with q | q
   ·exact q
   ·exact absurd ⟨p,hp,q⟩ c
  omega
 have spec:=ZaO (l:=l) (days:=days) (limit:=limit) h0
 rcases h with ⟨rfl,h1⟩ | ⟨i,hi,rfl,h1,h2⟩
 ·rcases spec with ⟨e,_⟩ | ⟨p,hpl,e,h2,_⟩
  ·exact e.symm
  ·rw [hw] at h2
   obtain ⟨i,hi,_,_,h3⟩:=qh hs hd hv (hD _ h2)
   have:=h1 i hi
   omega
 ·have h3:=Zbq hs hd hv hi
  have hm:qs.getD i Po.z∈l:=hp.subset (YA hi)
  rcases spec with ⟨e,k1⟩ | ⟨p,hpl,e,k1,k2⟩
  ·have:=k1 _ hm;rw [hw] at this;omega
  ·have q1:=k2 _ hm (by rw [hw];omega)
   rw [hw] at k1
   obtain ⟨j,hj,k3,_,k4⟩:=qh hs hd hv (hD _ k1)
   have:i≤j:=Nat.le_of_not_lt fun c=>by have:=h2 j c;omega
   have:=hs.le this hj
   omega
/-! The greatest load of windows with a day. -/
def gm (qs:List Po) (days day:Int):Nat→Int
 | 0=>0
 | i+1=>if day≤(qs.getD i Po.z).d∧(qs.getD i Po.z).d < day+days then max (gm qs days day i) (ps (win qs days (i+1))) else gm qs days day i
def gmx (l:List Po) (days day:Int):Nat→Int
 | 0=>0
 | k+1=>max (gmx l days day k) (XP l days (day+k))
theorem Zbd {l:List Po} {days day:Int}:∀ {k j:Nat},j < k→XP l days (day+j)≤gmx l days day k
 | 0,j,h=>absurd h (Nat.not_lt_zero j)
 | k+1,j,h=>by
  simp only [gmx]
  rcases Nat.lt_or_ge j k with q | q
  ·have:=Zbd (l:=l) (days:=days) (day:=day) q;omega
  ·rw [show j=k by omega];omega
theorem yR {l:List Po} {days day:Int}:∀ {k:Nat},0≤gmx l days day k
 | 0=>Int.le_refl 0
 | k+1=>by have:=yR (l:=l) (days:=days) (day:=day) (k:=k);simp only [gmx];omega
theorem yX {l:List Po} {days day m:Int} (h0:0≤m):∀ {k:Nat},(∀ j,j < k→XP l days (day+j)≤m)→gmx l days day k≤m
 | 0,_=>h0
 | k+1,h=>by
  have:=yX (l:=l) (days:=days) (day:=day) h0 (k:=k) fun j hj=>h j (by omega)
  have:=h k (by omega)
  simp only [gmx];omega
theorem Zc3 {qs:List Po} {days day:Int}:∀ {k:Nat},0≤gm qs days day k
 | 0=>Int.le_refl 0
 | k+1=>by
  have:=Zc3 (qs:=qs) (days:=days) (day:=day) (k:=k)
  simp only [gm];split<;>omega
theorem ZcN {qs:List Po} {days day:Int}:∀ {k i:Nat},i < k→day≤(qs.getD i Po.z).d→(qs.getD i Po.z).d < day+days→ps (win qs days (i+1))≤gm qs days day k
 | 0,i,h,_,_=>absurd h (Nat.not_lt_zero i)
 | k+1,i,h,h1,h2=>by
  simp only [gm]
  rcases Nat.lt_or_ge i k with q | q
  ·have:=ZcN (qs:=qs) (days:=days) (day:=day) q h1 h2
   split<;>omega
  ·obtain rfl:i=k:=by omega
   rw [if_pos ⟨h1,h2⟩];omega
theorem ZcL {qs:List Po} {days day m:Int} (h0:0≤m):∀ {k:Nat},(∀ i,i < k→day≤(qs.getD i Po.z).d→(qs.getD i Po.z).d < day+days→ps (win qs days (i+1))≤m)→gm qs days day k≤m
 | 0,_=>h0
 | k+1,h=>by
  have ih:=ZcL (qs:=qs) (days:=days) (day:=day) h0 (k:=k) fun i hi=>h i (by omega)
  simp only [gm]
  split
  ·rename_i q;have:=h k (by omega) q.1 q.2;omega
  ·exact ih
theorem Zdk {qs l:List Po} {days day:Int} {n:Nat} (hp:qs.Perm (l ++ [⟨day,0⟩])) (hs:Srt qs) (hd:1≤days) (hn:(n:Int)=days) (hv:∀ p,p∈qs→0≤p.l):gm qs days day qs.length=gmx l days day n:=by
 have hw:∀ D,XP qs days D=XP l days D:=fun D=>(KD hp).trans jY
 refine Int.le_antisymm ?_ ?_
 ·refine ZcL yR fun i hi h1 h2=>?_
  have h3:=Zbq hs hd hv hi
  rw [hw] at h3
  obtain ⟨j,hj⟩:∃ j:Nat,(qs.getD i Po.z).d=day+j:=⟨((qs.getD i Po.z).d - day).toNat,by omega⟩
  have:=Zbd (l:=l) (days:=days) (day:=day) (k:=n) (j:=j) (by omega)
  rw [hj] at h3
  omega
 ·refine yX Zc3 fun j hj=>?_
  have hmem:(⟨day,0⟩:Po)∈qs:=hp.symm.subset (by simp)
  obtain ⟨i,hi,h1,h2,h3⟩:=qh hs hd hv (D:=day+j) ⟨_,hmem,by simp only [];omega⟩
  have h4:=h2 _ hmem (by simp only [];omega)
  simp only [] at h4
  rw [hw] at h3
  have:=ZcN (qs:=qs) (days:=days) (day:=day) hi h4 (by omega)
  omega
end Go.Ax

/-! Steps of drawn regions where what is only read lies low (written by program,out of the others). -/
namespace Go.Ax
open Go Go.RowKit
section
variable {P:Program} {kn:Kn} {lo n:Nat} {masks:List Nat} {r:List RO} {ks:List Kd} {S:Rg} {H:Hp} {K:Rg→Hp→Prop} {d:Option Nat} {x y:Operand} {rd:Bool} {a b:Int}
end
end Go.Ax

/-! Lists that append makes side by side;blocks that do not move. -/
namespace Go.Ax
open Go Go.RowKit

def bkv:Value→Option Nat
 | .slice (some ⟨b,_,_⟩) _ _=>some b
 | _=>none
def Ap (v w:Value):Prop:=∀ b c,bkv v=some b→bkv w=some c→b≠c
theorem Ap.symm {v w:Value} (h:Ap v w):Ap w v:=fun b c h1 h2 e=>h c b h2 h1 e.symm
def AcL (lo f:Nat) (e:TypeId) (H:Hp) (l:List (Value × Nat × List Value)):Prop:=(∀ x∈l,Acc lo f e H x.1 x.2.1 x.2.2)∧l.Pairwise fun x y=>Ap x.1 y.1
theorem AcL.keep {lo f:Nat} {e:TypeId} {H H1:Hp} {l:List (Value × Nat × List Value)} (h:AcL lo f e H l) (k:Zk H H1 []):AcL lo f e H1 l:=⟨fun x hx=>(h.1 x hx).keep k,h.2⟩
theorem AcL.keepW {lo f:Nat} {e:TypeId} {H H1:Hp} {l:List (Value × Nat × List Value)} (h:AcL lo f e H l) {x:Nat} (k:Zk H H1 [x]) (hx:x < f):AcL lo f e H1 l:=⟨fun y hy=>(h.1 y hy).keepW k hx,h.2⟩
def Sc (H:Hp) (b:Nat) (cs:List Value):Prop:=b < H.next∧∃ e,H.t.get b=some (.cells cs e false)
theorem Sc.cl {H:Hp} {b:Nat} {cs:List Value} (h:Sc H b cs):Cl H b cs:=by
 obtain ⟨h1,e,h2⟩:=h;exact ⟨h1,e,false,h2⟩
theorem Sc.lt {H:Hp} {b:Nat} {cs:List Value} (h:Sc H b cs):b < H.next:=h.1
theorem Zk.sc {H H1:Hp} {l:List Nat} (k:Zk H H1 l) {b:Nat} {cs:List Value} (h:Sc H b cs) (hl:b ∉ l):Sc H1 b cs:=by
 obtain ⟨h1,e,h2⟩:=h;exact ⟨Nat.lt_of_lt_of_le h1 k.1,e,by rw [k.2 b h1 hl];exact h2⟩
theorem XK.sc {f:Nat} {H H1:Hp} (k:XK f H H1) {b:Nat} {cs:List Value} (h:Sc H b cs) (hl:b < f):Sc H1 b cs:=by
 obtain ⟨h1,e,h2⟩:=h;exact ⟨Nat.lt_of_lt_of_le h1 k.1,e,by rw [k.2 b hl];exact h2⟩
def Fx (H:Hp) (b:Nat) (cs:List Value):Prop:=b < H.next∧(H.t.get b=some (.ro cs)∨(∃ e,H.t.get b=some (.cells cs e false))∨H.t.get b=some (.cells cs 3 true))
theorem Fx.rd {H:Hp} {b:Nat} {cs:List Value} (h:Fx H b cs):Rd H b cs:=by
 obtain ⟨h1,h2 | ⟨e,h2⟩ | h2⟩:=h<;>exact ⟨h1,by unfold cellsOf;rw [h2]⟩
theorem Fx.lt {H:Hp} {b:Nat} {cs:List Value} (h:Fx H b cs):b < H.next:=h.1
theorem Zk.fx {H H1:Hp} {l:List Nat} (k:Zk H H1 l) {b:Nat} {cs:List Value} (h:Fx H b cs) (hl:b ∉ l):Fx H1 b cs:=
 ⟨Nat.lt_of_lt_of_le h.1 k.1,by rw [k.2 b h.1 hl];exact h.2⟩
theorem XK.fx {f:Nat} {H H1:Hp} (k:XK f H H1) {b:Nat} {cs:List Value} (h:Fx H b cs) (hl:b < f):Fx H1 b cs:=
 ⟨Nat.lt_of_lt_of_le h.1 k.1,by rw [k.2 b hl];exact h.2⟩
theorem Sc.fx {H:Hp} {b:Nat} {cs:List Value} (h:Sc H b cs):Fx H b cs:=⟨h.1,.inr (.inl h.2)⟩
end Go.Ax

/-! Queues: what is left of what append made,when the first ones are left behind;and append to it. -/
namespace Go.Ax
open Go Go.RowKit
def YO:Option Addr→List Nat
 | some a=>[a.block]
 | none=>[]
def Qu (lo f:Nat) (e:TypeId) (H:Hp) (a:Option Addr) (n c:Nat) (cs:List Value):Prop:=
 (a=none∧n=0∧c=0∧cs=[])∨
 (n=0∧c=0∧cs=[]∧∃ b o c0,a=some ⟨b,o,some 0⟩∧f≤b∧lo≤b∧b < H.next∧H.t.get b=some (.cells c0 e true))∨
 ∃ b o c0,a=some ⟨b,o,none⟩∧0 < n∧f≤b∧lo≤b∧b < H.next∧H.t.get b=some (.cells c0 e true)∧o≤c0.length∧c0.drop o=cs
theorem Qu.nil {lo f:Nat} {e:TypeId} {H:Hp}:Qu lo f e H none 0 0 []:=.inl ⟨rfl,rfl,rfl,rfl⟩
theorem Qu.blk {lo f:Nat} {e:TypeId} {H:Hp} {a:Option Addr} {n c:Nat} {cs:List Value} (h:Qu lo f e H a n c cs):∀ x,x∈YO a→f≤x∧lo≤x∧x < H.next:=by
 intro x hx
 rcases h with ⟨rfl,_⟩ | ⟨_,_,_,b,o,c0,rfl,h1,h2,h3,_⟩ | ⟨b,o,c0,rfl,_,h1,h2,h3,_⟩
 ·simp [YO] at hx
 ·simp [YO] at hx;subst hx;exact ⟨h1,h2,h3⟩
 ·simp [YO] at hx;subst hx;exact ⟨h1,h2,h3⟩
theorem Qu.keep {lo f:Nat} {e:TypeId} {H H1:Hp} {a:Option Addr} {n c:Nat} {cs:List Value} {W:List Nat} (h:Qu lo f e H a n c cs) (k:Zk H H1 W) (hw:∀ x,x∈YO a→x ∉ W):Qu lo f e H1 a n c cs:=by
 rcases h with h | ⟨h1,h2,h3,b,o,c0,rfl,q1,q2,q3,q4⟩ | ⟨b,o,c0,rfl,h0,q1,q2,q3,q4,q5,q6⟩
 ·exact .inl h
 ·exact .inr (.inl ⟨h1,h2,h3,b,o,c0,rfl,q1,q2,Nat.lt_of_lt_of_le q3 k.1,by rw [k.2 b q3 (hw b (by simp [YO]))];exact q4⟩)
 ·exact .inr (.inr ⟨b,o,c0,rfl,h0,q1,q2,Nat.lt_of_lt_of_le q3 k.1,by rw [k.2 b q3 (hw b (by simp [YO]))];exact q4,q5,q6⟩)
theorem Qu.mono {lo f f':Nat} {e:TypeId} {H:Hp} {a:Option Addr} {n c:Nat} {cs:List Value} (h:Qu lo f e H a n c cs) (hf:f'≤f):Qu lo f' e H a n c cs:=by
 rcases h with h | ⟨h1,h2,h3,b,o,c0,rfl,q1,q⟩ | ⟨b,o,c0,rfl,h0,q1,q⟩
 ·exact .inl h
 ·exact .inr (.inl ⟨h1,h2,h3,b,o,c0,rfl,Nat.le_trans hf q1,q⟩)
 ·exact .inr (.inr ⟨b,o,c0,rfl,h0,Nat.le_trans hf q1,q⟩)
theorem Qu.of_acc {lo f:Nat} {e:TypeId} {H:Hp} {v:Value} {n:Nat} {cs:List Value} (h:Acc lo f e H v n cs):∃ a c,v=.slice a n c∧Qu lo f e H a n c cs:=by
 rcases h with ⟨rfl,rfl,rfl⟩ | ⟨b,rfl,h0,hf,hl,hn,hg⟩
 ·exact ⟨none,0,rfl,.inl ⟨rfl,rfl,rfl,rfl⟩⟩
 ·exact ⟨_,_,rfl,.inr (.inr ⟨b,0,cs,rfl,h0,hf,hl,hn,hg,Nat.zero_le _,rfl⟩)⟩
theorem Qu.pos {lo f:Nat} {e:TypeId} {H:Hp} {a:Option Addr} {n c:Nat} {cs:List Value} (h:Qu lo f e H a n c cs) (h0:0 < n):∃ b o c0,a=some ⟨b,o,none⟩∧f≤b∧lo≤b∧Rd H b c0∧c0.drop o=cs:=by
 rcases h with ⟨_,h,_⟩ | ⟨h,_⟩ | ⟨b,o,c0,rfl,_,q1,q2,q3,q4,q5,q6⟩
 ·omega
 ·omega
 ·exact ⟨b,o,c0,rfl,q1,q2,⟨q3,by unfold cellsOf;rw [q4]⟩,q6⟩
theorem ZbE {m i o:Nat} {c0 cs r:List Value} (h:c0.drop o=cs) (hr:row m cs i=some r):row m c0 (o+i)=some r:=by
 subst h
 unfold row at hr ⊢
 rw [List.drop_drop] at hr
 exact hr
theorem ZbU {i o:Nat} {c0 cs:List Value} {v:Value} (h:c0.drop o=cs) (hr:cs[i]? = some v):c0[o+i]? = some v:=by
 subst h
 rw [List.getElem?_drop] at hr
 exact hr
theorem VD {b o k:Nat}:(⟨b,o,none⟩:Addr).add k=⟨b,o+k,none⟩:=by
 unfold Addr.add
 by_cases h:k=0
 ·simp [h]
 ·simp [h]
theorem UN {P:Program} {lo f:Nat} {H:Hp} {t e:TypeId} {i:TypeInfo} {m c k z:Nat} {j:Int} {a:Option Addr} {cs:List Value} (hu:P.underlying t=some (.slice e)) (hi:P.info? e=some i) (hsz:i.size=z) (hz:0 < z)
  (h:Qu lo f e H a m c cs) (hl:cs.length=m * z) (hj:j=(k:Int)) (hk0:0 < k) (hk:k≤m) :
  ∃ a' c' b,(∀ (n:Nat) (S:Rg) (d:Option Tmp) (x y:Operand) (ty:TypeId) (p:String),evS S x=some (.slice a m c)→evS S y=some (iv j)→Zr P lo (frS n S) H ⟨d,.slice t x (some y) none none,ty,p,#[],none⟩=some (.val (.slice a' (m - k) c') H,.read b))∧b < H.next∧Qu lo f e H a' (m - k) c' (cs.drop (k * z))∧YO a'=YO a:=by
 subst hj
 rcases h with ⟨_,h,_⟩ | ⟨h,_⟩ | ⟨b,o,c0,rfl,h0,q1,q2,q3,q4,q5,q6⟩
 ·omega
 ·omega
 have hz0:Nat.beq z 0=false:=by rw [ZB];exact decide_eq_false (by omega)
 have hk0':Nat.beq k 0=false:=by rw [ZB];exact decide_eq_false (by omega)
 have hle:k * z≤m * z:=Nat.mul_le_mul_right _ hk
 have hcl:cs.length=c0.length - o:=by rw [← q6];simp
 by_cases hkm:k=m
 ·subst hkm
  refine ⟨some ⟨b,o+k * z,some 0⟩,0,b,fun n S d x y ty p hx hy=>?_,q3,?_,rfl⟩
  ·have hb:ZT (frS n S) 0 (some y)=some k:=by unfold ZT;simp only [Z8,hy]
   have hb0:ZT (frS n S) k none=some k:=rfl
   unfold Zr
   simp only [Z8,hx,hu,hi,hb,hb0,q4,hsz,hz0,hk0',Nat.beq_refl,Nat.ble_eq_true_of_le (Nat.le_refl k),Bool.not_false,Bool.not_true,Bool.or_false,Bool.and_self,cond_true,cond_false,Nat.sub_self]
  ·refine .inr (.inl ⟨Nat.sub_self k,rfl,?_,b,_,c0,rfl,q1,q2,q3,q4⟩)
   exact List.drop_eq_nil_of_le (by omega)
 ·have hne:Nat.beq k m=false:=by rw [ZB];exact decide_eq_false hkm
  refine ⟨some ⟨b,o+k * z,none⟩,c - k,b,fun n S d x y ty p hx hy=>?_,q3,?_,rfl⟩
  ·have hb:ZT (frS n S) 0 (some y)=some k:=by unfold ZT;simp only [Z8,hy]
   have hb0:ZT (frS n S) m none=some m:=rfl
   unfold Zr
   simp only [Z8,hx,hu,hi,hb,hb0,q4,hsz,hz0,hne,Nat.beq_refl,Nat.ble_eq_true_of_le (Nat.le_refl m),Nat.ble_eq_true_of_le hk,Bool.not_false,Bool.true_or,Bool.and_self,cond_true,VD]
  ·refine .inr (.inr ⟨b,o+k * z,c0,rfl,by omega,q1,q2,q3,q4,?_,?_⟩)
   ·have:o+k * z≤o+cs.length:=by omega
    omega
   ·rw [← q6,List.drop_drop]
theorem Vs {P:Program} {lo:Nat} {H:Hp} {t0 t1 e ep:TypeId} {size k c cap2 f:Nat} {a a2:Option Addr} {cs news:List Value} (he:Z3 P t0=some (e,size)) (ht:P.underlying t1=some (.slice ep))
  (hs:Sl H a2 1 cap2 news) (hl:news.length=1 * size) (hz:0 < size) (hone:news.all one=true) (hcl:cs.length=k * size) (hk:k < 1000) (ha:Qu lo f e H a k c cs) (hlo:lo≤H.next) (hf:f≤H.next) :
  ∃ H1 kd,(∀ (n:Nat) (S:Rg) (d:Option Tmp) (x y:Operand) (ty:TypeId) (p:String),evS S x=some (.slice a k c)→evS S y=some (.slice a2 1 cap2)→Zr P lo (frS n S) H ⟨d,.call ⟨.builtin .append,#[x,y],#[t0,t1]⟩,ty,p,#[],none⟩=some (.val (.slice (some ⟨H.next,0,none⟩) (k+1) (k+1)) H1,kd))∧(kd=.heavy∨∃ b,kd=.store b∧f≤b∧b∈YO a)∧
   Qu lo f e H1 (some ⟨H.next,0,none⟩) (k+1) (k+1) (cs ++ news)∧Zk H H1 (YO a):=by
 have h3:Nat.ble (k+1) 1048576=true:=Nat.ble_eq_true_of_le (by omega)
 have h4:Nat.beq e e=true:=Nat.beq_refl e
 have fin:∀ b,b < H.next→Zk H (({ H with t:=H.t.set b .dead }:Hp).new (.cells (cs ++ news) e true)) [b]:=fun b hb=>by
  refine ⟨Nat.le_succ _,fun x hx hn=>?_,fun x xs hx hxs=>?_⟩
  ·have hne:x≠b:=by simpa using hn
   show ((H.t.set b .dead).set H.next _).get x=_
   rw [Tr.get_set,if_neg (by omega),Tr.get_set,if_neg hne]
  ·have hxs:((H.t.set b .dead).set H.next (.cells (cs ++ news) e true)).get x=some (.ro xs):=hxs
   have hx:x < H.next+1:=hx
   rw [Tr.get_set] at hxs
   split at hxs
   ·cases hxs
   ·rw [Tr.get_set] at hxs
    split at hxs
    ·cases hxs
    ·exact ⟨by omega,hxs⟩
 have got:∀ T:Tr Ob,(T.set H.next (.cells (cs ++ news) e true)).get H.next=some (.cells (cs ++ news) e true):=fun T=>by rw [Tr.get_set,if_pos rfl]
 rcases ha with ⟨rfl,rfl,rfl,rfl⟩ | ⟨rfl,rfl,rfl,b,o,c0,rfl,hb,hlb,hn,hg⟩ | ⟨b,o,c0,rfl,h0,hb,hlb,hn,hg,ho,hd⟩
 ·refine ⟨H.new (.cells news e true),.heavy,?_,.inl rfl,?_,(Z2 rfl).1.mono (by simp)⟩
  ·intro n S d x y ty p hx hy
   unfold Zr
   simp only [evs,Z8,hx,hy,Yb,List.getElem?_toArray,List.getElem?_cons_zero,List.getElem?_cons_succ,he,ht,W3 hs hl,ZU]
   rfl
  ·exact .inr (.inr ⟨H.next,0,news,rfl,by omega,hf,hlo,Nat.lt_succ_self _,got H.t,Nat.zero_le _,rfl⟩)
 ·refine ⟨({ H with t:=H.t.set b .dead }:Hp).new (.cells news e true),.store b,?_,.inr ⟨b,rfl,hb,by simp [YO]⟩,?_,by simpa [YO] using fin b hn⟩
  ·intro n S d x y ty p hx hy
   unfold Zr
   simp only [evs,Z8,hx,hy,Yb,List.getElem?_toArray,List.getElem?_cons_zero,List.getElem?_cons_succ,he,ht,W3 hs hl,ZU,hg,h3,h4,hone,Nat.ble_eq_true_of_le hlb,Nat.beq_refl,Bool.and_self,cond_true,cond_false,show Nat.beq 1 0=false from rfl,show Nat.ble (0+1) 1048576=true from rfl]
  ·exact .inr (.inr ⟨H.next,0,news,rfl,by omega,hf,hlo,Nat.lt_succ_self _,got (H.t.set b .dead),Nat.zero_le _,rfl⟩)
 ·have hdl:(c0.drop o).length=k * size:=by rw [hd,hcl]
  have hdl2:c0.length - o=k * size:=by rw [← hdl];simp
  have h1:Nat.ble (o+(k+1) * size) c0.length=false:=by
   cases h:Nat.ble (o+(k+1) * size) c0.length with
   | false=>rfl
   | true=>have:=Nat.le_of_ble_eq_true h;rw [Nat.succ_mul] at this;omega
  have h2:Nat.beq (o+k * size) c0.length=true:=by rw [ZB];exact decide_eq_true (by omega)
  refine ⟨({ H with t:=H.t.set b .dead }:Hp).new (.cells (cs ++ news) e true),.store b,?_,.inr ⟨b,rfl,hb,by simp [YO]⟩,?_,by simpa [YO] using fin b hn⟩
  ·intro n S d x y ty p hx hy
   unfold Zr
   simp only [evs,Z8,hx,hy,Yb,List.getElem?_toArray,List.getElem?_cons_zero,List.getElem?_cons_succ,he,ht,W3 hs hl,ZU,hg,h1,h2,h3,h4,hone,Nat.ble_eq_true_of_le hlb,Bool.and_self,cond_true,cond_false,hd,show Nat.beq 1 0=false from rfl]
  ·exact .inr (.inr ⟨H.next,0,cs ++ news,rfl,by omega,hf,hlo,Nat.lt_succ_self _,got (H.t.set b .dead),Nat.zero_le _,rfl⟩)
end Go.Ax

/-
 Pool: sorting: bits (written by program).
-/
namespace Go.Ax
open Go Go.RowKit Go.Proofs

noncomputable section
theorem ivq {x y:Int} (h:x=y):(some (iv x):Option Value)=some (iv y):=by rw [h]
theorem Zby {x:Int} (h:0≤x∧x≤18446744073709551615):IntKind.u64.wrap x=x:=by
 unfold IntKind.wrap IntKind.bits IntKind.signed
 simp
 omega
theorem ZdI {P:Program} {t:TypeId} {x y:Operand} {m d:Nat} (h:d < 64):Ys P (do eqGuard .shr t x y (.int .u64 (m:Int)) (.int .u64 (d:Int));binOp .shr t (.int .u64 (m:Int)) (.int .u64 (d:Int)))=some (.int .u64 ((m / 2 ^ d:Nat):Int)):=by
 show Ys P (Op.shift .shr .u64 (m:Int) .u64 (d:Int))=_
 unfold Op.shift
 rw [if_neg (by omega)]
 show some (Value.int .u64 ((m:Int).fdiv (2 ^ min d 64)))=_
 rw [Nat.min_eq_left (by omega),Int.fdiv_eq_ediv_of_nonneg _ (by exact Int.le_of_lt (Int.pow_pos (by decide)))]
 congr 2
section
variable {n:Nat} {S:Rg} {x y:Operand} {o:Option Tmp} {t t2 ty:TypeId} {p:String}
theorem qL {m d:Nat} (h:d < 64) (hx:evS S x=some (.int .u64 (m:Int))) (hy:evS S y=some (.int .u64 (d:Int))):Zs Try.prog (frS n S) ⟨o,.binOp .shr t x y t2,ty,p,#[],none⟩=some (.int .u64 ((m / 2 ^ d:Nat):Int)):=by
 unfold Zs
 simp only [Z8,hx,hy,Yx,YX,Bool.and_self,cond_true,ZdI h]
end
set_option maxRecDepth 100000 in
theorem Zcu {k:Nat} {S:Rg} {d:Option Tmp} {ty:TypeId} {p:String} {x:Operand} {n:Nat} {j:Int} (h:n < 18446744073709551616) (hx:evS S x=some (iv j)) (hj:j=(n:Int)):Zs Try.prog (frS k S) ⟨d,.convert 3 128 x,ty,p,#[],none⟩=some (.int .u64 (n:Int)):=by
 subst hj
 have e:∀ z:Int,Ys Try.prog (Go.convert 3 128 (.int .i64 z))=some (.int .u64 (IntKind.u64.wrap z)):=fun z=>by kernel_rfl
 unfold Zs
 simp only [Z8,hx,e,Zby (x:=(n:Int)) ⟨by omega,by omega⟩]
 rfl
set_option maxRecDepth 100000 in
theorem Zcw {k:Nat} {S:Rg} {d:Option Tmp} {ty:TypeId} {p:String} {x:Operand} {n:Nat} {j:Int} (h:n < 9223372036854775808) (hx:evS S x=some (.int .u64 j)) (hj:j=(n:Int)):Zs Try.prog (frS k S) ⟨d,.convert 128 3 x,ty,p,#[],none⟩=some (iv (n:Int)):=by
 subst hj
 have e:∀ z:Int,Ys Try.prog (Go.convert 128 3 (.int .u64 z))=some (.int .i64 (IntKind.i64.wrap z)):=fun z=>by kernel_rfl
 unfold Zs
 simp only [Z8,hx,e,wrap_i64 (x:=(n:Int)) ⟨by omega,by omega⟩]
 rfl
set_option maxRecDepth 100000 in
theorem ZbV {k:Nat} {S:Rg} {d:Option Tmp} {ty:TypeId} {p:String} {x:Operand} {n:Nat} {j:Int} (h:n < 256) (hx:evS S x=some (.int .u8 j)) (hj:j=(n:Int)):Zs Try.prog (frS k S) ⟨d,.convert 5 3 x,ty,p,#[],none⟩=some (iv (n:Int)):=by
 subst hj
 have e:∀ z:Int,Ys Try.prog (Go.convert 5 3 (.int .u8 z))=some (.int .i64 (IntKind.i64.wrap z)):=fun z=>by kernel_rfl
 unfold Zs
 simp only [Z8,hx,e,wrap_i64 (x:=(n:Int)) ⟨by omega,by omega⟩]
 rfl
set_option maxRecDepth 100000 in
theorem js {k:Nat} {S:Rg} {d:Option Tmp} {ty:TypeId} {p:String} {x:Operand} {n:Nat} {j:Int} (h:n < 65536) (hx:evS S x=some (.int .u16 j)) (hj:j=(n:Int)):Zs Try.prog (frS k S) ⟨d,.convert 59 3 x,ty,p,#[],none⟩=some (iv (n:Int)):=by
 subst hj
 have e:∀ z:Int,Ys Try.prog (Go.convert 59 3 (.int .u16 z))=some (.int .i64 (IntKind.i64.wrap z)):=fun z=>by kernel_rfl
 unfold Zs
 simp only [Z8,hx,e,wrap_i64 (x:=(n:Int)) ⟨by omega,by omega⟩]
 rfl
end
end Go.Ax

/-
 Pool: sorting that keeps the order: swaps,turns,insertion (written by program).
-/
namespace Go.Ax
open Go Go.RowKit Go.Proofs

noncomputable section
theorem PRm.dom {a b n:Nat} {g g':Nat→Nat} (p:PRm a b g g') (h:∀ k,k < n→g k < n) (hb:b≤n):∀ k,k < n→g' k < n:=fun k hk=>by
 by_cases q:a≤k∧k < b
 ·obtain ⟨j,_,j2,e⟩:=p.mem q.1 q.2
  rw [e];exact h j (by omega)
 ·rw [p.out k (by omega)];exact h k hk
theorem ZdR {a b i:Nat} {g g':Nat→Nat} (p:PRm a i g g') (hid:∀ i j,a≤i→i < j→j < b→g i < g j) (hi:i < b):∀ q,a≤q→q < i→g' q < g' i:=fun q h1 h2=>by
 obtain ⟨j,j1,j2,e⟩:=p.mem h1 h2
 rw [e,p.out i (.inr (Nat.le_refl _))];exact hid j i j1 j2 hi
theorem z8 {g:Nat→Nat} {s m e:Nat} (h:s=m∨e=m) (h1:s≤m) (h2:m≤e):rot g s m e=g:=by
 funext k
 unfold rot
 by_cases c1:s≤k∧k < s+(e - m)
 ·rw [if_pos c1];congr 1;omega
 ·rw [if_neg c1]
  by_cases c2:s+(e - m)≤k∧k < e
  ·rw [if_pos c2];congr 1;omega
  ·rw [if_neg c2]
section
variable {kn:Kn} {lo:Nat} {H:Hp}
set_option maxRecDepth 100000 in
set_option maxHeartbeats 2000000 in
theorem zo (hlo:lo≤H.next) {bd cap n:Nat} {g:Nat→Nat} {v u:Nat→Int} (hlb:lo≤bd) (hn:n≤1000000) (hc:Cl H bd (cG (fun x=>[iv (v x),iv (u x)]) n g)) {cv:Value} {a b c:Nat} (hab:a+c≤b) (hb:b+c≤n):∃ H',FnX Try.prog kn lo 85 [.slice (some ⟨bd,0,none⟩) n cap,iv (a:Int),iv (b:Int),iv (c:Int),cv] H (.tuple #[]) H'∧PRm a (b+c) g (swr g a b c)∧KT bd H H'∧Cl H' bd (cG (fun x=>[iv (v x),iv (u x)]) n (swr g a b c)):=by
 have key_:=Zp (kn:=kn) (lo:=lo) (H:=H) (args:=[.slice (some ⟨bd,0,none⟩) n cap,iv (a:Int),iv (b:Int),iv (c:Int),cv]) (Q:=fun w H'=>w=.tuple #[]∧PRm a (b+c) g (swr g a b c)∧KT bd H H'∧Cl H' bd (cG (fun x=>[iv (v x),iv (u x)]) n (swr g a b c))) Try.func85 B85 N85 Z85 L85 (by simp) ?_
 ·obtain ⟨w,H',h,rfl,r⟩:=key_;exact ⟨H',h,r⟩
 have hk:=KT.refl (H:=H) hc.1
 refine Zc<|Za rfl<|Zb ?_
 refine Zt (fn:=Try.f85) ZeC N85 ZdZ (fun i:Nat=>[(0,.slice (some ⟨bd,0,none⟩) n cap),(1,iv (a:Int)),(2,iv (b:Int)),(3,iv (c:Int)),(10,iv (i:Int))])
  (fun k i H'=>i+k=c∧PRm a (b+c) g (swr g a b i)∧KT bd H H'∧Cl H' bd (cG (fun x=>[iv (v x),iv (u x)]) n (swr g a b i))) c 0 ⟨by omega,by rw [zO];exact PRm.refl _ _ _,hk,by rw [zO];exact hc⟩ ⟨rfl,rfl,rfl,rfl,rfl,trivial⟩ ?_
 rintro k i L1 ⟨hik,hp,hk,hc⟩
 refine Zc<|Za rfl<|Za rfl<|Zx (a:=(i:Int)) (b:=(c:Int)) rfl rfl<|Zb ?_
 refine And.intro (fun q1=>?_) (fun q1=>?_)
 ·have q1:(i:Int) < (c:Int):=of_decide_eq_true q1
  first | refine Zj ?_ | skip
  first | refine Y6 ?_ | refine VS ?_ | refine UR ?_ | (refine Z5 ?_;refine Y6 ?_)
  refine Zg rfl<|Zg rfl<|Zg rfl<|WH (a:=(a:Int)) (b:=(i:Int)) rfl rfl ⟨by omega,by omega⟩<|Zg rfl<|Zg rfl<|Zg rfl<|WH (a:=(b:Int)) (b:=(i:Int)) rfl rfl ⟨by omega,by omega⟩<|Zg rfl<|Zg rfl<|Zg rfl<|WH (a:=(b:Int)) (b:=(i:Int)) rfl rfl ⟨by omega,by omega⟩<|ZC (b:=bd) (o:=0) (k:=b+i) (j:=(b:Int)+(i:Int)) rfl rfl (by omega) (by omega)<|Z1 (b:=bd) (o:=0+(b+i) * 2) rfl hc.rd (Xn (z:=2) (fun _=>rfl) (by omega))<|Zg rfl<|Zg rfl<|Zg rfl<|WH (a:=(a:Int)) (b:=(i:Int)) rfl rfl ⟨by omega,by omega⟩<|ZC (b:=bd) (o:=0) (k:=a+i) (j:=(a:Int)+(i:Int)) rfl rfl (by omega) (by omega)<|Z1 (b:=bd) (o:=0+(a+i) * 2) rfl hc.rd (Xn (z:=2) (fun _=>rfl) (by omega))<|ZC (b:=bd) (o:=0) (k:=a+i) (j:=(a:Int)+(i:Int)) rfl rfl (by omega) (by omega)<|WC (b:=bd) (o:=0+(a+i) * 2) rfl rfl hc hlb rfl rfl (by rw [Vv (z:=2) (fun _=>rfl)];omega) ?_
  intro H1 kH1 nH1 sH1 tH1
  have mH1:=kH1.1
  have hk:=hk.put kH1 tH1
  have hc:Cl H1 bd (cG (fun x=>[iv (v x),iv (u x)]) n (upd (swr g a b i) (a+i) ((swr g a b i) (b+i)))):=by rw [← Vh (z:=2) (fun _=>rfl) (by omega)];exact sH1
  refine ZC (b:=bd) (o:=0) (k:=b+i) (j:=(b:Int)+(i:Int)) rfl rfl (by omega) (by omega)<|WC (b:=bd) (o:=0+(b+i) * 2) rfl rfl hc hlb rfl rfl (by rw [Vv (z:=2) (fun _=>rfl)];omega) ?_
  intro H2 kH2 nH2 sH2 tH2
  have mH2:=kH2.1
  have hk:=hk.put kH2 tH2
  have hc:Cl H2 bd (cG (fun x=>[iv (v x),iv (u x)]) n (upd (upd (swr g a b i) (a+i) ((swr g a b i) (b+i))) (b+i) ((swr g a b i) (a+i)))):=by rw [← Vh (z:=2) (fun _=>rfl) (by omega)];exact sH2
  have hc:Cl H2 bd (cG (fun x=>[iv (v x),iv (u x)]) n (swp (swr g a b i) (a+i) (b+i))):=hc
  refine ZL (by repeat' first | exact True.intro | exact (fun h=>h) | refine And.intro ?_ ?_ | (intro h;have h:(_:Nat)=_:=h;omega)) ?_
  show Zn _ _ _ _ _ _ _ _
  refine Za rfl<|Zo (a:=(i:Int)) (b:=1) rfl rfl ⟨by omega,by omega⟩<|Za rfl<|Zb ?_
  rw [zX hab (by omega)] at hc
  exact ⟨k - 1,i+1,by omega,⟨by omega,by rw [← zX hab (by omega)];exact hp.trans (PRm.swap (by omega) (by omega) (by omega) (by omega)),hk,hc⟩,rfl,rfl,rfl,rfl,ivq (by omega),trivial⟩
 ·have q1:¬ ((i:Int) < (c:Int)):=of_decide_eq_false q1
  first | (refine Zy ?_;show wC _ _ _ _ _ _ _ _ _) | skip
  obtain rfl:i=c:=by omega
  exact And.intro trivial (Exists.intro _ (And.intro rfl ⟨rfl,hp,hk,hc⟩))
set_option maxRecDepth 100000 in
set_option maxHeartbeats 2000000 in
theorem ZcA (hlo:lo≤H.next) {bd cap n:Nat} {g:Nat→Nat} {v u:Nat→Int} (hlb:lo≤bd) (hn:n≤1000000) (hc:Cl H bd (cG (fun x=>[iv (v x),iv (u x)]) n g)) {cv:Value} {a m b:Nat} (ham:a < m) (hmb:m < b) (hb:b≤n):∃ H',FnX Try.prog kn lo 84 [.slice (some ⟨bd,0,none⟩) n cap,iv (a:Int),iv (m:Int),iv (b:Int),cv] H (.tuple #[]) H'∧PRm a b g (rot g a m b)∧KT bd H H'∧Cl H' bd (cG (fun x=>[iv (v x),iv (u x)]) n (rot g a m b)):=by
 have key_:=Zp (kn:=kn) (lo:=lo) (H:=H) (args:=[.slice (some ⟨bd,0,none⟩) n cap,iv (a:Int),iv (m:Int),iv (b:Int),cv]) (Q:=fun w H'=>w=.tuple #[]∧PRm a b g (rot g a m b)∧KT bd H H'∧Cl H' bd (cG (fun x=>[iv (v x),iv (u x)]) n (rot g a m b))) Try.func84 B84 N84 Z84 L84 (by simp) ?_
 ·obtain ⟨w,H',h,rfl,r⟩:=key_;exact ⟨H',h,r⟩
 have hk:=KT.refl (H:=H) hc.1
 refine Zc<|Za rfl<|Za rfl<|Yl (a:=(m:Int)) (b:=(a:Int)) rfl rfl ⟨by omega,by omega⟩<|Za rfl<|Zb<|Zc<|Za rfl<|Za rfl<|Yl (a:=(b:Int)) (b:=(m:Int)) rfl rfl ⟨by omega,by omega⟩<|Za rfl<|Zb ?_
 refine Zt (fn:=Try.f84) Zd3 N84 Zd2 (fun x:Nat × Nat=>[(0,.slice (some ⟨bd,0,none⟩) n cap),(2,iv (m:Int)),(4,cv),(10,iv (x.1:Int)),(11,iv (x.2:Int))])
  (fun k x H'=>k=x.1+x.2∧0 < x.1∧0 < x.2∧x.1≤m - a∧x.2≤b - m∧∃ g',rot g' (m - x.1) m (m+x.2)=rot g a m b∧PRm a b g g'∧KT bd H H'∧Cl H' bd (cG (fun x=>[iv (v x),iv (u x)]) n g')) _ (m - a,b - m) ⟨rfl,by simp only [];omega,by simp only [];omega,Nat.le_refl _,Nat.le_refl _,g,by simp only [];rw [show m - (m - a)=a by omega,show m+(b - m)=b by omega],PRm.refl _ _ _,hk,hc⟩ ⟨rfl,rfl,rfl,ivq (by simp only [];omega),ivq (by simp only [];omega),trivial⟩ ?_
 rintro k ⟨i,j⟩ L1 ⟨rfl,hi1,hj1,hi2,hj2,gx,hr,hp,hk,hc⟩
 simp only [] at hi1 hj1 hi2 hj2 hr
 refine Zc<|Za rfl<|Za rfl<|X6 (a:=(i:Int)) (b:=(j:Int)) rfl rfl<|Zb ?_
 refine And.intro (fun q1=>?_) (fun q1=>?_)
 ·have q1:(i:Int)≠(j:Int):=by simpa using q1
  first | refine Zj ?_ | skip
  refine Zc<|Za rfl<|Za rfl<|Y2 (a:=(i:Int)) (b:=(j:Int)) rfl rfl<|Zb ?_
  refine And.intro (fun q2=>?_) (fun q2=>?_)
  ·have q2:(i:Int) > (j:Int):=of_decide_eq_true q2
   refine Zc<|Za rfl<|Za rfl<|Za rfl<|Yl (a:=(m:Int)) (b:=(i:Int)) rfl rfl ⟨by omega,by omega⟩<|Za rfl<|Za rfl<|Za rfl ?_
   obtain ⟨H1,fH1,pH1,kH1,cH1⟩:=zo (kn:=kn) (lo:=lo) (H:=L1) (by have:=hk.1;omega) hlb hn (cap:=cap) hc (cv:=cv) (a:=m - i) (b:=m) (c:=j) (by omega) (by omega)
   refine Zi (vs:=[.slice (some ⟨bd,0,none⟩) n cap,iv ((m:Int) - (i:Int)),iv (m:Int),iv (j:Int),cv]) rfl (by have q:=Ze fH1;rw [show ((m - i:Nat):Int)=(m:Int) - (i:Int) by omega] at q;exact q) ?_
   have mH1:=kH1.1
   have hk:=hk.trans kH1
   have hc:=cH1
   have hp:=hp.trans (pH1.mono (by omega) (by omega) (by omega))
   refine Zb ?_
   show Zn _ _ _ _ _ _ _ _
   refine Za rfl<|Za rfl<|Yl (a:=(i:Int)) (b:=(j:Int)) rfl rfl ⟨by omega,by omega⟩<|Za rfl<|Zb ?_
   rw [ZaK (i:=i) (j:=j) (by omega) (by omega)] at hr
   exact ⟨_,(i - j,j),by simp only [];omega,⟨rfl,by omega,by omega,by simp only [];omega,by omega,_,hr,hp,hk,hc⟩,rfl,rfl,rfl,ivq (by simp only [];omega),rfl,trivial⟩
  ·have q2:¬ ((i:Int) > (j:Int)):=of_decide_eq_false q2
   refine Zc<|Za rfl<|Za rfl<|Za rfl<|Yl (a:=(m:Int)) (b:=(i:Int)) rfl rfl ⟨by omega,by omega⟩<|Za rfl<|Za rfl<|Zo (a:=(m:Int)) (b:=(j:Int)) rfl rfl ⟨by omega,by omega⟩<|Za rfl<|Yl (a:=(m:Int)+(j:Int)) (b:=(i:Int)) rfl rfl ⟨by omega,by omega⟩<|Za rfl<|Za rfl ?_
   obtain ⟨H2,fH2,pH2,kH2,cH2⟩:=zo (kn:=kn) (lo:=lo) (H:=L1) (by have:=hk.1;omega) hlb hn (cap:=cap) hc (cv:=cv) (a:=m - i) (b:=(m+j) - i) (c:=i) (by omega) (by omega)
   refine Zi (vs:=[.slice (some ⟨bd,0,none⟩) n cap,iv ((m:Int) - (i:Int)),iv (((m:Int)+(j:Int)) - (i:Int)),iv (i:Int),cv]) rfl (by have q:=Ze fH2;rw [show ((m - i:Nat):Int)=(m:Int) - (i:Int) by omega] at q;rw [show (((m+j) - i:Nat):Int)=((m:Int)+(j:Int)) - (i:Int) by omega] at q;exact q) ?_
   have mH2:=kH2.1
   have hk:=hk.trans kH2
   have hc:=cH2
   have hp:=hp.trans (pH2.mono (by omega) (by omega) (by omega))
   refine Zb ?_
   show Zn _ _ _ _ _ _ _ _
   refine Za rfl<|Za rfl<|Yl (a:=(j:Int)) (b:=(i:Int)) rfl rfl ⟨by omega,by omega⟩<|Za rfl<|Zb ?_
   rw [j6 (i:=i) (j:=j) (by omega) (by omega)] at hr
   exact ⟨_,(i,j - i),by simp only [];omega,⟨rfl,by omega,by omega,by omega,by simp only [];omega,_,hr,hp,hk,hc⟩,rfl,rfl,rfl,rfl,ivq (by simp only [];omega),trivial⟩
 ·have q1:¬ ((i:Int)≠(j:Int)):=by simpa using q1
  first | (refine Zy ?_;show wC _ _ _ _ _ _ _ _ _) | skip
  show Zn _ _ _ _ _ _ _ _
  refine Za rfl<|Za rfl<|Za rfl<|Yl (a:=(m:Int)) (b:=(i:Int)) rfl rfl ⟨by omega,by omega⟩<|Za rfl<|Za rfl<|Za rfl ?_
  obtain ⟨H3,fH3,pH3,kH3,cH3⟩:=zo (kn:=kn) (lo:=lo) (H:=L1) (by have:=hk.1;omega) hlb hn (cap:=cap) hc (cv:=cv) (a:=m - i) (b:=m) (c:=i) (by omega) (by omega)
  refine Zi (vs:=[.slice (some ⟨bd,0,none⟩) n cap,iv ((m:Int) - (i:Int)),iv (m:Int),iv (i:Int),cv]) rfl (by have q:=Ze fH3;rw [show ((m - i:Nat):Int)=(m:Int) - (i:Int) by omega] at q;exact q) ?_
  have mH3:=kH3.1
  have hk:=hk.trans kH3
  have hc:=cH3
  have hp:=hp.trans (pH3.mono (by omega) (by omega) (by omega))
  refine Zb ?_
  obtain rfl:i=j:=by omega
  rw [Zbc (by omega),hr] at hc hp
  exact And.intro trivial (Exists.intro _ (And.intro rfl ⟨rfl,hp,hk,hc⟩))
set_option maxRecDepth 100000 in
set_option maxHeartbeats 2000000 in
theorem qM (hlo:lo≤H.next) {bd cap n:Nat} {g:Nat→Nat} {v u:Nat→Int} (hlb:lo≤bd) (hn:n≤1000000) (hc:Cl H bd (cG (fun x=>[iv (v x),iv (u x)]) n g)) (hd:∀ k,k < n→g k < n) {fc:FuncId} {caps:Array Value} {key:Nat→Int} (hcmp:Ke Try.prog kn lo bd fc caps (fun x=>.agg #[iv (v x),iv (u x)]) n key H) {a b:Nat} (hab:a≤b) (hb:b≤n) (hid:∀ i j,a≤i→i < j→j < b→g i < g j):∃ H' g',FnX Try.prog kn lo 82 [.slice (some ⟨bd,0,none⟩) n cap,iv (a:Int),iv (b:Int),.func (.func fc) #[] caps] H (.tuple #[]) H'∧PRm a b g g'∧So key a b g'∧KT bd H H'∧Cl H' bd (cG (fun x=>[iv (v x),iv (u x)]) n g'):=by
 have key_:=Zp (kn:=kn) (lo:=lo) (H:=H) (args:=[.slice (some ⟨bd,0,none⟩) n cap,iv (a:Int),iv (b:Int),.func (.func fc) #[] caps]) (Q:=fun w H'=>w=.tuple #[]∧∃ g',PRm a b g g'∧So key a b g'∧KT bd H H'∧Cl H' bd (cG (fun x=>[iv (v x),iv (u x)]) n g')) Try.func82 B82 N82 Z82 L82 (by simp) ?_
 ·obtain ⟨w,H',h,rfl,g',r⟩:=key_;exact ⟨H',g',h,r⟩
 have hk:=KT.refl (H:=H) hc.1
 refine Zc<|Za rfl<|Zo (a:=(a:Int)) (b:=1) rfl rfl ⟨by omega,by omega⟩<|Za rfl<|Zb ?_
 refine Zt (fn:=Try.f82) ZcH N82 Zc5 (fun i:Nat=>[(0,.slice (some ⟨bd,0,none⟩) n cap),(1,iv (a:Int)),(2,iv (b:Int)),(3,.func (.func fc) #[] caps),(8,iv (i:Int))])
  (fun k i H'=>k=b+1 - i∧a+1≤i∧∃ g':Nat→Nat,PRm a (min i b) g g'∧So key a i g'∧KT bd H H'∧Cl H' bd (cG (fun x=>[iv (v x),iv (u x)]) n g')) _ (a+1) ⟨rfl,Nat.le_refl _,g,PRm.refl _ _ _,So.one,hk,hc⟩ ⟨rfl,rfl,rfl,rfl,ivq (by omega),trivial⟩ ?_
 rintro k i L1 ⟨rfl,hi1,gx1,hp,hs,hk,hc⟩
 refine Zc<|Za rfl<|Za rfl<|Zx (a:=(i:Int)) (b:=(b:Int)) rfl rfl<|Zb ?_
 refine And.intro (fun q1=>?_) (fun q1=>?_)
 ·have q1:(i:Int) < (b:Int):=of_decide_eq_true q1
  first | refine Zj ?_ | skip
  refine Zc<|Za rfl<|Za rfl<|Zb ?_
  rw [Nat.min_eq_left (by omega)] at hp
  have hib:i < b:=by omega
  refine Zt (fn:=Try.f82) Zd7 N82 Zfm (fun j:Nat=>[(0,.slice (some ⟨bd,0,none⟩) n cap),(1,iv (a:Int)),(2,iv (b:Int)),(3,.func (.func fc) #[] caps),(8,iv (i:Int)),(9,iv (j:Int))])
   (fun k j H'=>k=j+1∧∃ g':Nat→Nat,PRm a (i+1) g g'∧Inl key a i j g'∧KT bd H H'∧Cl H' bd (cG (fun x=>[iv (v x),iv (u x)]) n g')) _ i ⟨rfl,gx1,hp.mono (Nat.le_refl _) (by omega) (by omega),Inl.init hs (ZdR hp hid hib) (by omega),hk,hc⟩ ⟨rfl,rfl,rfl,rfl,rfl,rfl,trivial⟩ ?_
  rintro k j L2 ⟨rfl,gx2,hp,hin,hk,hc⟩
  have qaj:=hin.aj;have qji:=hin.ji;have hdm:=hp.dom hd (by omega)
  refine Yq<|Zg rfl<|Zg rfl<|UB (a:=(j:Int)) (b:=(a:Int)) rfl rfl ?_
  intro t2 g2;cases t2
  ·have g2:¬ ((j:Int) > (a:Int)):=of_decide_eq_false g2
   refine Zg rfl<|Zz rfl<|Zz rfl<|Zz rfl<|Zz rfl<|Zz rfl<|Zz rfl<|Zz rfl<|Zz rfl<|Zz rfl<|Zz rfl<|Zz rfl<|Zz rfl<|ZH (v:=.bool false) rfl rfl ?_
   refine ZL (by repeat' first | exact True.intro | exact (fun h=>h) | refine And.intro ?_ ?_ | (intro h;have h:(_:Nat)=_:=h;omega)) ?_
   refine ZQ ?_
   first | (refine Zy ?_;show wC _ _ _ _ _ _ _ _ _) | skip
   show Zn _ _ _ _ _ _ _ _
   refine Za rfl<|Zo (a:=(i:Int)) (b:=1) rfl rfl ⟨by omega,by omega⟩<|Za rfl<|Zb ?_
   exact ⟨_,i+1,by omega,⟨rfl,by omega,gx2,by rw [Nat.min_eq_left (by omega)];exact hp,hin.done (fun h=>by omega),hk,hc⟩,rfl,rfl,rfl,rfl,ivq (by omega),trivial⟩
  ·have g2:(j:Int) > (a:Int):=of_decide_eq_true g2
   refine Zg rfl ?_
   refine ZE rfl (Zg rfl ?_)
   refine ZE rfl (Zg rfl ?_)
   refine ZE rfl (Zg rfl ?_)
   refine ZE rfl (ZC (b:=bd) (o:=0) (k:=j) (j:=(j:Int)) rfl rfl (by omega) (by omega) ?_)
   refine ZE rfl (Z1 (b:=bd) (o:=0+j * 2) rfl hc.rd (Xn (z:=2) (fun _=>rfl) (by omega)) ?_)
   refine ZE rfl (Zg rfl ?_)
   refine ZE rfl (Zg rfl ?_)
   refine ZE rfl (XT (a:=(j:Int)) (b:=1) rfl rfl ⟨by omega,by omega⟩ ?_)
   refine ZE rfl (ZC (b:=bd) (o:=0) (k:=j - 1) (j:=(j:Int) - 1) rfl rfl (by omega) (by omega) ?_)
   refine ZE rfl (Z1 (b:=bd) (o:=0+(j - 1) * 2) rfl hc.rd (Xn (z:=2) (fun _=>rfl) (by omega)) ?_)
   obtain ⟨rH1,H1,fH1,kH1,qH1⟩:=hcmp L2 hk.kp (gx2 j) (gx2 (j - 1)) (hdm _ (by omega)) (hdm _ (by omega))
   refine ZE rfl (Wt (vs:=[.agg #[iv (v (gx2 j)),iv (u (gx2 j))],.agg #[iv (v (gx2 (j - 1))),iv (u (gx2 (j - 1)))]]) rfl fH1 ?_)
   have mH1:=kH1.1
   have hc:=kH1.cl hc (by simp)
   have hk:=hk.keep kH1
   refine ZE rfl (yh (a:=rH1) (b:=0) rfl rfl ?_)
   intro t3 g3;cases t3
   ·have g3:¬ (rH1 < 0):=of_decide_eq_false g3
    refine ZH (v:=.bool false) rfl rfl ?_
    refine ZL (by repeat' first | exact True.intro | exact (fun h=>h) | refine And.intro ?_ ?_ | (intro h;have h:(_:Nat)=_:=h;omega)) ?_
    refine ZQ ?_
    first | (refine Zy ?_;show wC _ _ _ _ _ _ _ _ _) | skip
    show Zn _ _ _ _ _ _ _ _
    refine Za rfl<|Zo (a:=(i:Int)) (b:=1) rfl rfl ⟨by omega,by omega⟩<|Za rfl<|Zb ?_
    exact ⟨_,i+1,by omega,⟨rfl,by omega,gx2,by rw [Nat.min_eq_left (by omega)];exact hp,hin.done (fun h=>by omega),hk,hc⟩,rfl,rfl,rfl,rfl,ivq (by omega),trivial⟩
   ·have g3:rH1 < 0:=of_decide_eq_true g3
    refine ZH (v:=.bool true) rfl rfl ?_
    refine ZL (by repeat' first | exact True.intro | exact (fun h=>h) | refine And.intro ?_ ?_ | (intro h;have h:(_:Nat)=_:=h;omega)) ?_
    refine ZK ?_
    first | refine Zj ?_ | skip
    first | refine Y6 ?_ | refine VS ?_ | refine UR ?_ | (refine Z5 ?_;refine Y6 ?_)
    refine Zg rfl<|Zg rfl<|Zg rfl<|Zg rfl<|XT (a:=(j:Int)) (b:=1) rfl rfl ⟨by omega,by omega⟩<|Zg rfl<|Zg rfl<|XT (a:=(j:Int)) (b:=1) rfl rfl ⟨by omega,by omega⟩<|ZC (b:=bd) (o:=0) (k:=j - 1) (j:=(j:Int) - 1) rfl rfl (by omega) (by omega)<|Z1 (b:=bd) (o:=0+(j - 1) * 2) rfl hc.rd (Xn (z:=2) (fun _=>rfl) (by omega))<|Zg rfl<|Zg rfl<|ZC (b:=bd) (o:=0) (k:=j) (j:=(j:Int)) rfl rfl (by omega) (by omega)<|Z1 (b:=bd) (o:=0+j * 2) rfl hc.rd (Xn (z:=2) (fun _=>rfl) (by omega))<|ZC (b:=bd) (o:=0) (k:=j) (j:=(j:Int)) rfl rfl (by omega) (by omega)<|WC (b:=bd) (o:=0+j * 2) rfl rfl hc hlb rfl rfl (by rw [Vv (z:=2) (fun _=>rfl)];omega) ?_
    intro H2 kH2 nH2 sH2 tH2
    have mH2:=kH2.1
    have hk:=hk.put kH2 tH2
    have hc:Cl H2 bd (cG (fun x=>[iv (v x),iv (u x)]) n (upd gx2 j (gx2 (j - 1)))):=by rw [← Vh (z:=2) (fun _=>rfl) (by omega)];exact sH2
    refine ZC (b:=bd) (o:=0) (k:=j - 1) (j:=(j:Int) - 1) rfl rfl (by omega) (by omega)<|WC (b:=bd) (o:=0+(j - 1) * 2) rfl rfl hc hlb rfl rfl (by rw [Vv (z:=2) (fun _=>rfl)];omega) ?_
    intro H3 kH3 nH3 sH3 tH3
    have mH3:=kH3.1
    have hk:=hk.put kH3 tH3
    have hc:Cl H3 bd (cG (fun x=>[iv (v x),iv (u x)]) n (upd (upd gx2 j (gx2 (j - 1))) (j - 1) (gx2 j))):=by rw [← Vh (z:=2) (fun _=>rfl) (by omega)];exact sH3
    have hc:Cl H3 bd (cG (fun x=>[iv (v x),iv (u x)]) n (swp gx2 j (j - 1))):=hc
    refine ZL (by repeat' first | exact True.intro | exact (fun h=>h) | refine And.intro ?_ ?_ | (intro h;have h:(_:Nat)=_:=h;omega)) ?_
    show Zn _ _ _ _ _ _ _ _
    refine Za rfl<|Yl (a:=(j:Int)) (b:=1) rfl rfl ⟨by omega,by omega⟩<|Za rfl<|Zb ?_
    exact ⟨_,j - 1,by omega,⟨rfl,_,hp.trans (PRm.swap (by omega) (by omega) (by omega) (by omega)),hin.step (by omega) (by omega),hk,hc⟩,rfl,rfl,rfl,rfl,rfl,ivq (by omega),trivial⟩
 ·have q1:¬ ((i:Int) < (b:Int)):=of_decide_eq_false q1
  first | (refine Zy ?_;show wC _ _ _ _ _ _ _ _ _) | skip
  exact And.intro trivial (Exists.intro _ (And.intro rfl ⟨rfl,gx1,by rw [Nat.min_eq_right (by omega)] at hp;exact hp,hs.mono (Nat.le_refl _) (by omega),hk,hc⟩))
end
end
end Go.Ax


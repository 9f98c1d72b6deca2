import Derived.Test.YtngkkiijcpdffaaMd
set_option linter.all false
/-
 Pool: sorting that keeps the order: merging in place (written by program).
-/
namespace Go.Ax
open Go Go.RowKit Go.Proofs

noncomputable section
noncomputable def R83v:RC:=(.seq (.seq (.reg [oM 25 2,oM 26 1,oS 27 .sub 25 26,oQ 28 .eql 27 1])
 (.cond (.tmp 28) (.seq (.reg [oM 29 2,oM 10 29])
 (.seq (.reg [oM 30 3,oM 11 30])
 (.seq (.block 0 (.other (at_ Try.f83 [0,1,0,1,1,0,0])))
 (.seq (.seq (.reg [oM 54 1,oM 13 54])
 (.block 2 (.other (at_ Try.f83 [0,1,0,1,1,1,0,1,0]))))
 .ret))))
 .skip))
 (.seq (.seq (.reg [oM 77 3,oM 78 2,oS 79 .sub 77 78,oQ 80 .eql 79 1])
 (.cond (.tmp 80) (.seq (.reg [oM 81 1,oM 14 81])
 (.seq (.reg [oM 82 2,oM 15 82])
 (.seq (.block 4 (.other (at_ Try.f83 [1,0,1,0,1,1,0,0])))
 (.seq (.seq (.reg [oM 107 2,oM 17 107])
 (.block 6 (.other (at_ Try.f83 [1,0,1,0,1,1,1,0,1,0]))))
 .ret))))
 .skip))
 (.seq (.reg [oM 129 1, oM 130 3, oS 131 .add 129 130, ⟨some 132, none, (.pur ⟨some 132, (.convert 3 128 (.tmp 131)), 128, "", #[], none⟩)⟩, ⟨some 133, none, (.pur ⟨some 133, (.binOp .shr 128 (.tmp 132) (.const (.int .u64 1)) 128), 128, "", #[], none⟩)⟩, ⟨some 134, none, (.pur ⟨some 134, (.convert 128 3 (.tmp 133)), 3, "", #[], none⟩)⟩, oM 18 134])
 (.seq (.reg [oM 135 18,oM 136 2,oS 137 .add 135 136,oM 19 137])
 (.seq (.reg [oN 20 0,oN 21 0])
 (.seq (.seq (.reg [oM 138 2,oM 139 18,⟨some 140,none,(.cmp .gtr (.tmp 138) (.tmp 139))⟩])
 (.cond (.tmp 140) (.seq (.reg [oM 141 19,oM 142 3,oS 143 .sub 141 142,oM 20 143])
 (.reg [oM 144 18,oM 21 144]))
 (.seq (.reg [oM 145 1,oM 20 145])
 (.reg [oM 146 2,oM 21 146]))))
 (.other (at_ Try.f83 [1,1,1,1,1,1]))))))))
theorem V83:LV Try.prog 220 (at_ Try.f83 []) R83v:=by
 have e:at_ Try.f83 []=(.seq (at_ Try.f83 [0]) (.seq (at_ Try.f83 [1,0]) (.seq (at_ Try.f83 [1,1,0]) (.seq (at_ Try.f83 [1,1,1,0]) (.seq (at_ Try.f83 [1,1,1,1,0]) (.seq (at_ Try.f83 [1,1,1,1,1,0]) (at_ Try.f83 [1,1,1,1,1,1]))))))):=by kernel_rfl
 rw [e]
 exact (.seq (.low (by kernel_rfl)) (.seq (.low (by kernel_rfl)) (.seq (.low (by kernel_rfl)) (.seq (.low (by kernel_rfl)) (.seq (.low (by kernel_rfl)) (.seq (.low (by kernel_rfl)) (.other _)))))))
noncomputable def R83Gv:RC:=(.seq (.reg [oM 147 19,oR 148 .sub 147 1,oM 22 148])
 (.seq (.block 8 (.other (at_ Try.f83 [1,1,1,1,1,1,1,0,0])))
 (.seq (.reg [oM 175 19,oM 176 20,oS 177 .sub 175 176,oM 24 177])
 (.seq (.other (at_ Try.f83 [1,1,1,1,1,1,1,1,1,0]))
 (.seq (.other (at_ Try.f83 [1,1,1,1,1,1,1,1,1,1,0]))
 (.other (at_ Try.f83 [1,1,1,1,1,1,1,1,1,1,1])))))))
theorem ZeR:LV Try.prog 220 (at_ Try.f83 [1,1,1,1,1,1]) R83Gv:=by
 have e:at_ Try.f83 [1,1,1,1,1,1]=(.seq (at_ Try.f83 [1,1,1,1,1,1,0]) (.seq (at_ Try.f83 [1,1,1,1,1,1,1,0]) (.seq (at_ Try.f83 [1,1,1,1,1,1,1,1,0]) (.seq (at_ Try.f83 [1,1,1,1,1,1,1,1,1,0]) (.seq (at_ Try.f83 [1,1,1,1,1,1,1,1,1,1,0]) (at_ Try.f83 [1,1,1,1,1,1,1,1,1,1,1])))))):=by kernel_rfl
 rw [e]
 exact (.seq (.low (by kernel_rfl)) (.seq (.low (by kernel_rfl)) (.seq (.low (by kernel_rfl)) (.seq (.other _) (.seq (.other _) (.other _))))))
noncomputable def R83A:RC:=(.seq (.reg [oM 178 20,oM 179 2,⟨some 180,none,(.cmpb .lss (.tmp 178) (.tmp 179))⟩,oM 181 180,oG 182 181 true 2,oG 183 181 true 24,⟨some 184,(some (181,true)),(.cmpb .lss (.tmp 182) (.tmp 183))⟩,oA 185 181 184])
 (.cond (.tmp 185) (.reg [oM 186 0,oM 187 20,oM 188 2,oM 189 24,oM 190 4,oC 191 84 #[(.tmp 186),(.tmp 187),(.tmp 188),(.tmp 189),(.tmp 190)] #[75,3,3,3,100]])
 .skip))
theorem ZeQ:low Try.prog 220 (at_ Try.f83 [1,1,1,1,1,1,1,1,1,0])=some R83A:=by kernel_rfl
noncomputable def R83B:RC:=(.seq (.reg [oM 192 1,oM 193 20,⟨some 194,none,(.cmpb .lss (.tmp 192) (.tmp 193))⟩,oM 195 194,oG 196 195 true 20,oG 197 195 true 18,⟨some 198,(some (195,true)),(.cmpb .lss (.tmp 196) (.tmp 197))⟩,oA 199 195 198])
 (.cond (.tmp 199) (.reg [oM 200 0,oM 201 1,oM 202 20,oM 203 18,oM 204 4,oC 205 83 #[(.tmp 200),(.tmp 201),(.tmp 202),(.tmp 203),(.tmp 204)] #[75,3,3,3,100]])
 .skip))
theorem ZeS:low Try.prog 220 (at_ Try.f83 [1,1,1,1,1,1,1,1,1,1,0])=some R83B:=by kernel_rfl
noncomputable def R83C:RC:=(.seq (.reg [oM 206 18,oM 207 24,⟨some 208,none,(.cmpb .lss (.tmp 206) (.tmp 207))⟩,oM 209 208,oG 210 209 true 24,oG 211 209 true 3,⟨some 212,(some (209,true)),(.cmpb .lss (.tmp 210) (.tmp 211))⟩,oA 213 209 212])
 (.cond (.tmp 213) (.reg [oM 214 0,oM 215 18,oM 216 24,oM 217 3,oM 218 4,oC 219 83 #[(.tmp 214),(.tmp 215),(.tmp 216),(.tmp 217),(.tmp 218)] #[75,3,3,3,100]])
 .skip))
theorem ZeK:low Try.prog 220 (at_ Try.f83 [1,1,1,1,1,1,1,1,1,1,1])=some R83C:=by kernel_rfl
section
variable {kn:Kn} {lo:Nat} {H:Hp}
set_option maxRecDepth 100000 in
set_option maxHeartbeats 2000000 in
theorem ZdE {bd cap n:Nat} {g:Nat→Nat} {v u:Nat→Int} {Hr:Hp} (hlb:lo≤bd) (hn:n≤1000000) (hlo:lo≤Hr.next) (hk:KT bd Hr H) (hc:Cl H bd (cG (fun x=>[iv (v x),iv (u x)]) n g)) {fc:FuncId} {caps:Array Value} {a m b mid s e:Nat} (hsm:s≤m) (hme:m≤e) (heb:e≤n) {S:Rg} {K:Exit→Rg→Hp→Prop} (hS:VM [(0,.slice (some ⟨bd,0,none⟩) n cap),(1,iv (a:Int)),(2,iv (m:Int)),(3,iv (b:Int)),(4,.func (.func fc) #[] caps),(18,iv (mid:Int)),(20,iv (s:Int)),(24,iv (e:Int))] S) (hN:∀ H' S',PRm s e g (rot g s m e)→KT bd Hr H'→Cl H' bd (cG (fun x=>[iv (v x),iv (u x)]) n (rot g s m e))→VM [(0,.slice (some ⟨bd,0,none⟩) n cap),(1,iv (a:Int)),(2,iv (m:Int)),(3,iv (b:Int)),(4,.func (.func fc) #[] caps),(18,iv (mid:Int)),(20,iv (s:Int)),(24,iv (e:Int))] S'→K .normal S' H'):Tri Try.prog kn lo 220 false (at_ Try.f83 [1,1,1,1,1,1,1,1,1,0]) S H K:=by
 refine UO ZeQ hS ?_
 refine Zc<|Za rfl<|Za rfl<|Yk (a:=(s:Int)) (b:=(m:Int)) rfl rfl ?_
 intro t1 g1;cases t1
 ·have g1:¬ ((s:Int) < (m:Int)):=of_decide_eq_false g1
  refine Za rfl<|Zg rfl<|Zg rfl<|Zg rfl<|Zd (v:=.bool false) rfl rfl<|Zb<|ZK ?_
  first | refine Zj ?_ | skip
  have er:=z5 (g:=g) (s:=s) (m:=m) (e:=e) (by omega) (by omega) (by omega)
  exact hN _ _ (by rw [er];exact PRm.refl _ _ _) hk (by rw [er];exact hc) ⟨rfl,rfl,rfl,rfl,rfl,rfl,rfl,rfl,trivial⟩
 ·have g1:(s:Int) < (m:Int):=of_decide_eq_true g1
  refine Za rfl ?_
  refine Zm rfl (Za rfl ?_)
  refine Zm rfl (Za rfl ?_)
  refine Zm rfl (Yk (a:=(m:Int)) (b:=(e:Int)) rfl rfl ?_)
  intro t2 g2;cases t2
  ·have g2:¬ ((m:Int) < (e:Int)):=of_decide_eq_false g2
   refine Zd (v:=.bool false) rfl rfl<|Zb<|ZK ?_
   first | refine Zj ?_ | skip
   have er:=z5 (g:=g) (s:=s) (m:=m) (e:=e) (by omega) (by omega) (by omega)
   exact hN _ _ (by rw [er];exact PRm.refl _ _ _) hk (by rw [er];exact hc) ⟨rfl,rfl,rfl,rfl,rfl,rfl,rfl,rfl,trivial⟩
  ·have g2:(m:Int) < (e:Int):=of_decide_eq_true g2
   refine Zd (v:=.bool true) rfl rfl<|Zb<|ZN ?_
   show Zo _ _ _ _ _ _ _ _
   refine Za rfl<|Za rfl<|Za rfl<|Za rfl<|Za rfl ?_
   obtain ⟨H1,fH1,pH1,kH1,cH1⟩:=ZbB (kn:=kn) (lo:=lo) (H:=H) (by have:=hk.1;omega) hlb hn (cap:=cap) hc (cv:=.func (.func fc) #[] caps) (a:=s) (m:=m) (b:=e) (by omega) (by omega) (by omega)
   refine Zi (vs:=[.slice (some ⟨bd,0,none⟩) n cap,iv (s:Int),iv (m:Int),iv (e:Int),.func (.func fc) #[] caps]) rfl (Zf fH1) ?_
   have mH1:=kH1.1
   have hk:=hk.trans kH1
   have hc:=cH1
   refine Zb ?_
   exact hN _ _ pH1 hk hc ⟨rfl,rfl,rfl,rfl,rfl,rfl,rfl,rfl,trivial⟩
set_option maxRecDepth 100000 in
set_option maxHeartbeats 2000000 in
theorem ZdF {bd cap n:Nat} {g:Nat→Nat} {v u:Nat→Int} {Hr:Hp} (hlb:lo≤bd) (hn:n≤1000000) (hlo:lo≤Hr.next) (hk:KT bd Hr H) (hc:Cl H bd (cG (fun x=>[iv (v x),iv (u x)]) n g)) {fc:FuncId} {caps:Array Value} {M a m b mid s e:Nat} {key:Nat→Int} (ih:∀ (H1:Hp) (a m b:Nat) (g:Nat→Nat),KT bd Hr H1→a < m→m < b→b≤n→b - a < M→(∀ k,k < n→g k < n)→So key a m g→So key m b g→Cr a m b g→Cl H1 bd (cG (fun x=>[iv (v x),iv (u x)]) n g)→∃ H' g',FnX Try.prog kn lo 83 [.slice (some ⟨bd,0,none⟩) n cap,iv (a:Int),iv (m:Int),iv (b:Int),.func (.func fc) #[] caps] H1 (.tuple #[]) H'∧PRm a b g g'∧So key a b g'∧KT bd H1 H'∧Cl H' bd (cG (fun x=>[iv (v x),iv (u x)]) n g')) (h1:a≤s) (h2:s≤mid) (hz:mid≤n) (hM:mid - a < M) (hd:∀ k,k < n→g k < n) (hp1:So key a s g) (hp2:So key s mid g) (hcr:Cr a s mid g) {S:Rg} {K:Exit→Rg→Hp→Prop} (hS:VM [(0,.slice (some ⟨bd,0,none⟩) n cap),(1,iv (a:Int)),(2,iv (m:Int)),(3,iv (b:Int)),(4,.func (.func fc) #[] caps),(18,iv (mid:Int)),(20,iv (s:Int)),(24,iv (e:Int))] S) (hN:∀ H' S' g',PRm a mid g g'→So key a mid g'→KT bd Hr H'→Cl H' bd (cG (fun x=>[iv (v x),iv (u x)]) n g')→VM [(0,.slice (some ⟨bd,0,none⟩) n cap),(1,iv (a:Int)),(2,iv (m:Int)),(3,iv (b:Int)),(4,.func (.func fc) #[] caps),(18,iv (mid:Int)),(20,iv (s:Int)),(24,iv (e:Int))] S'→K .normal S' H'):Tri Try.prog kn lo 220 false (at_ Try.f83 [1,1,1,1,1,1,1,1,1,1,0]) S H K:=by
 refine UO ZeS hS ?_
 refine Zc<|Za rfl<|Za rfl<|Yk (a:=(a:Int)) (b:=(s:Int)) rfl rfl ?_
 intro t1 g1;cases t1
 ·have g1:¬ ((a:Int) < (s:Int)):=of_decide_eq_false g1
  refine Za rfl<|Zg rfl<|Zg rfl<|Zg rfl<|Zd (v:=.bool false) rfl rfl<|Zb<|ZK ?_
  first | refine Zj ?_ | skip
  exact hN _ _ g (PRm.refl _ _ _) (by rcases Nat.lt_or_ge a s with c | c;exact hp1.mono (Nat.le_refl _) (by omega);exact hp2.mono (by omega) (Nat.le_refl _)) hk hc ⟨rfl,rfl,rfl,rfl,rfl,rfl,rfl,rfl,trivial⟩
 ·have g1:(a:Int) < (s:Int):=of_decide_eq_true g1
  refine Za rfl ?_
  refine Zm rfl (Za rfl ?_)
  refine Zm rfl (Za rfl ?_)
  refine Zm rfl (Yk (a:=(s:Int)) (b:=(mid:Int)) rfl rfl ?_)
  intro t2 g2;cases t2
  ·have g2:¬ ((s:Int) < (mid:Int)):=of_decide_eq_false g2
   refine Zd (v:=.bool false) rfl rfl<|Zb<|ZK ?_
   first | refine Zj ?_ | skip
   exact hN _ _ g (PRm.refl _ _ _) (by rcases Nat.lt_or_ge a s with c | c;exact hp1.mono (Nat.le_refl _) (by omega);exact hp2.mono (by omega) (Nat.le_refl _)) hk hc ⟨rfl,rfl,rfl,rfl,rfl,rfl,rfl,rfl,trivial⟩
  ·have g2:(s:Int) < (mid:Int):=of_decide_eq_true g2
   refine Zd (v:=.bool true) rfl rfl<|Zb<|ZN ?_
   show Zo _ _ _ _ _ _ _ _
   refine Za rfl<|Za rfl<|Za rfl<|Za rfl<|Za rfl ?_
   obtain ⟨H1,gH1,fH1,pH1,sH1,kH1,cH1⟩:=ih H a s mid g hk (by omega) (by omega) (by omega) (by omega) hd hp1 hp2 hcr hc
   refine Zi (vs:=[.slice (some ⟨bd,0,none⟩) n cap,iv (a:Int),iv (s:Int),iv (mid:Int),.func (.func fc) #[] caps]) rfl (Zf fH1) ?_
   have mH1:=kH1.1
   have hk:=hk.trans kH1
   have hc:=cH1
   refine Zb ?_
   exact hN _ _ _ pH1 sH1 hk hc ⟨rfl,rfl,rfl,rfl,rfl,rfl,rfl,rfl,trivial⟩
set_option maxRecDepth 100000 in
set_option maxHeartbeats 2000000 in
theorem ZdB {bd cap n:Nat} {g:Nat→Nat} {v u:Nat→Int} {Hr:Hp} (hlb:lo≤bd) (hn:n≤1000000) (hlo:lo≤Hr.next) (hk:KT bd Hr H) (hc:Cl H bd (cG (fun x=>[iv (v x),iv (u x)]) n g)) {fc:FuncId} {caps:Array Value} {M a m b mid s e:Nat} {key:Nat→Int} (ih:∀ (H1:Hp) (a m b:Nat) (g:Nat→Nat),KT bd Hr H1→a < m→m < b→b≤n→b - a < M→(∀ k,k < n→g k < n)→So key a m g→So key m b g→Cr a m b g→Cl H1 bd (cG (fun x=>[iv (v x),iv (u x)]) n g)→∃ H' g',FnX Try.prog kn lo 83 [.slice (some ⟨bd,0,none⟩) n cap,iv (a:Int),iv (m:Int),iv (b:Int),.func (.func fc) #[] caps] H1 (.tuple #[]) H'∧PRm a b g g'∧So key a b g'∧KT bd H1 H'∧Cl H' bd (cG (fun x=>[iv (v x),iv (u x)]) n g')) (h1:mid≤e) (h2:e≤b) (hz:b≤n) (hM:b - mid < M) (hd:∀ k,k < n→g k < n) (hp1:So key mid e g) (hp2:So key e b g) (hcr:Cr mid e b g) {S:Rg} {K:Exit→Rg→Hp→Prop} (hS:VM [(0,.slice (some ⟨bd,0,none⟩) n cap),(1,iv (a:Int)),(2,iv (m:Int)),(3,iv (b:Int)),(4,.func (.func fc) #[] caps),(18,iv (mid:Int)),(20,iv (s:Int)),(24,iv (e:Int))] S) (hN:∀ H' S' g',PRm mid b g g'→So key mid b g'→KT bd Hr H'→Cl H' bd (cG (fun x=>[iv (v x),iv (u x)]) n g')→VM [(0,.slice (some ⟨bd,0,none⟩) n cap),(1,iv (a:Int)),(2,iv (m:Int)),(3,iv (b:Int)),(4,.func (.func fc) #[] caps),(18,iv (mid:Int)),(20,iv (s:Int)),(24,iv (e:Int))] S'→K .normal S' H'):Tri Try.prog kn lo 220 false (at_ Try.f83 [1,1,1,1,1,1,1,1,1,1,1]) S H K:=by
 refine UO ZeK hS ?_
 refine Zc<|Za rfl<|Za rfl<|Yk (a:=(mid:Int)) (b:=(e:Int)) rfl rfl ?_
 intro t1 g1;cases t1
 ·have g1:¬ ((mid:Int) < (e:Int)):=of_decide_eq_false g1
  refine Za rfl<|Zg rfl<|Zg rfl<|Zg rfl<|Zd (v:=.bool false) rfl rfl<|Zb<|ZK ?_
  first | refine Zj ?_ | skip
  exact hN _ _ g (PRm.refl _ _ _) (by rcases Nat.lt_or_ge mid e with c | c;exact hp1.mono (Nat.le_refl _) (by omega);exact hp2.mono (by omega) (Nat.le_refl _)) hk hc ⟨rfl,rfl,rfl,rfl,rfl,rfl,rfl,rfl,trivial⟩
 ·have g1:(mid:Int) < (e:Int):=of_decide_eq_true g1
  refine Za rfl ?_
  refine Zm rfl (Za rfl ?_)
  refine Zm rfl (Za rfl ?_)
  refine Zm rfl (Yk (a:=(e:Int)) (b:=(b:Int)) rfl rfl ?_)
  intro t2 g2;cases t2
  ·have g2:¬ ((e:Int) < (b:Int)):=of_decide_eq_false g2
   refine Zd (v:=.bool false) rfl rfl<|Zb<|ZK ?_
   first | refine Zj ?_ | skip
   exact hN _ _ g (PRm.refl _ _ _) (by rcases Nat.lt_or_ge mid e with c | c;exact hp1.mono (Nat.le_refl _) (by omega);exact hp2.mono (by omega) (Nat.le_refl _)) hk hc ⟨rfl,rfl,rfl,rfl,rfl,rfl,rfl,rfl,trivial⟩
  ·have g2:(e:Int) < (b:Int):=of_decide_eq_true g2
   refine Zd (v:=.bool true) rfl rfl<|Zb<|ZN ?_
   show Zo _ _ _ _ _ _ _ _
   refine Za rfl<|Za rfl<|Za rfl<|Za rfl<|Za rfl ?_
   obtain ⟨H1,gH1,fH1,pH1,sH1,kH1,cH1⟩:=ih H mid e b g hk (by omega) (by omega) (by omega) (by omega) hd hp1 hp2 hcr hc
   refine Zi (vs:=[.slice (some ⟨bd,0,none⟩) n cap,iv (mid:Int),iv (e:Int),iv (b:Int),.func (.func fc) #[] caps]) rfl (Zf fH1) ?_
   have mH1:=kH1.1
   have hk:=hk.trans kH1
   have hc:=cH1
   refine Zb ?_
   exact hN _ _ _ pH1 sH1 hk hc ⟨rfl,rfl,rfl,rfl,rfl,rfl,rfl,rfl,trivial⟩
set_option maxRecDepth 100000 in
set_option maxHeartbeats 2000000 in
theorem Zcd {bd cap n:Nat} {g:Nat→Nat} {v u:Nat→Int} {Hr:Hp} (hlb:lo≤bd) (hn:n≤1000000) (hlo:lo≤Hr.next) (hk:KT bd Hr H) (hc:Cl H bd (cG (fun x=>[iv (v x),iv (u x)]) n g)) {fc:FuncId} {caps:Array Value} {M a m b mid nn s0 r0:Nat} {key:Nat→Int} (ih:∀ (H1:Hp) (a m b:Nat) (g:Nat→Nat),KT bd Hr H1→a < m→m < b→b≤n→b - a < M→(∀ k,k < n→g k < n)→So key a m g→So key m b g→Cr a m b g→Cl H1 bd (cG (fun x=>[iv (v x),iv (u x)]) n g)→∃ H' g',FnX Try.prog kn lo 83 [.slice (some ⟨bd,0,none⟩) n cap,iv (a:Int),iv (m:Int),iv (b:Int),.func (.func fc) #[] caps] H1 (.tuple #[]) H'∧PRm a b g g'∧So key a b g'∧KT bd H1 H'∧Cl H' bd (cG (fun x=>[iv (v x),iv (u x)]) n g')) (hcmp:JD Try.prog kn lo bd fc caps (fun x=>.agg #[iv (v x),iv (u x)]) n key Hr) (ham:a < m) (hmb:m < b) (hb:b≤n) (hM:b - a≤M) (hmid:mid=(a+b) / 2) (hnn:nn=mid+m) (hs0:(mid < m∧s0+b=nn∧r0=mid)∨(m≤mid∧s0=a∧r0=m)) (h2:2≤m - a) (hd:∀ k,k < n→g k < n) (hp1:So key a m g) (hp2:So key m b g) (hcr:Cr a m b g) {S:Rg} {K:Exit→Rg→Hp→Prop} (hS:VM [(0,.slice (some ⟨bd,0,none⟩) n cap),(1,iv (a:Int)),(2,iv (m:Int)),(3,iv (b:Int)),(4,.func (.func fc) #[] caps),(18,iv (mid:Int)),(19,iv (nn:Int)),(20,iv (s0:Int)),(21,iv (r0:Int))] S) (hN:∀ H' S' g',PRm a b g g'→So key a b g'→KT bd Hr H'→Cl H' bd (cG (fun x=>[iv (v x),iv (u x)]) n g')→K .normal S' H'):Tri Try.prog kn lo 220 false (at_ Try.f83 [1,1,1,1,1,1]) S H K:=by
 refine Zcy ZeR hS ?_
 refine Zc<|Za rfl<|YC (a:=(nn:Int)) (b:=1) rfl rfl ⟨by omega,by omega⟩<|Za rfl<|Zb ?_
 obtain ⟨pp,hpp⟩:∃ pp,pp+1=nn:=⟨nn - 1,by omega⟩
 refine ZA (fn:=Try.f83) ZdD N83 Zdi (fun x:Nat × Nat=>[(0,.slice (some ⟨bd,0,none⟩) n cap),(1,iv (a:Int)),(2,iv (m:Int)),(3,iv (b:Int)),(4,.func (.func fc) #[] caps),(18,iv (mid:Int)),(19,iv (nn:Int)),(20,iv (x.1:Int)),(21,iv (x.2:Int)),(22,iv (pp:Int))])
  (fun k x H'=>k=x.2 - x.1∧s0≤x.1∧x.1≤x.2∧x.2≤r0∧(x.1=s0∨¬ key (g (pp - (x.1 - 1))) < key (g (x.1 - 1)))∧(x.2=r0∨key (g (pp - x.2)) < key (g x.2))∧KT bd Hr H'∧Cl H' bd (cG (fun x=>[iv (v x),iv (u x)]) n g)) _ (s0,r0) ⟨rfl,Nat.le_refl _,by simp only [];omega,Nat.le_refl _,.inl rfl,.inl rfl,hk,hc⟩ ⟨rfl,rfl,rfl,rfl,rfl,rfl,rfl,rfl,rfl,ivq (by omega),trivial⟩ ?_
 rintro k ⟨s,r⟩ L1 ⟨rfl,hs1,hs2,hs3,hlw,hup,hk,hc⟩
 simp only [] at hs1 hs2 hs3 hlw hup
 have hdm:=hd
 refine Zc<|Za rfl<|Za rfl<|ZB (a:=(s:Int)) (b:=(r:Int)) rfl rfl<|Zb ?_
 refine And.intro (fun q1=>?_) (fun q1=>?_)
 ·have q1:(s:Int) < (r:Int):=of_decide_eq_true q1
  first | refine Zj ?_ | skip
  refine Zc<|Za rfl<|Za rfl<|Zt (a:=(s:Int)) (b:=(r:Int)) rfl rfl ⟨by omega,by omega⟩ ?_
  obtain ⟨h1,eh1⟩:∃ h:Nat,h=(s+r) / 2:=⟨_,rfl⟩
  refine Zd (v:=.int .u64 ((s+r:Nat):Int)) rfl (ZbP (n:=s+r) (j:=(s:Int)+(r:Int)) (by omega) rfl (by omega))<|Zd (v:=.int .u64 ((h1:Nat):Int)) rfl (by rw [eh1];exact qG (m:=s+r) (d:=1) (by decide) rfl rfl)<|Zd (v:=iv (h1:Int)) rfl (Zbq (n:=h1) (j:=(h1:Int)) (by omega) rfl rfl)<|Za rfl<|Zb<|Xu<|Zk rfl<|Zk rfl<|Zk rfl<|Zk rfl<|Wx (a:=(pp:Int)) (b:=(h1:Int)) rfl rfl ⟨by omega,by omega⟩<|Yb (b:=bd) (o:=0) (k:=pp - h1) (j:=(pp:Int) - (h1:Int)) rfl rfl (by omega) (by omega)<|ZU (b:=bd) (o:=0+(pp - h1) * 2) rfl hc.rd (Xf (z:=2) (fun _=>rfl) (by omega))<|Zk rfl<|Zk rfl<|Yb (b:=bd) (o:=0) (k:=h1) (j:=(h1:Int)) rfl rfl (by omega) (by omega)<|ZU (b:=bd) (o:=0+h1 * 2) rfl hc.rd (Xf (z:=2) (fun _=>rfl) (by omega)) ?_
  obtain ⟨rH1,H1,fH1,kH1,qH1⟩:=hcmp L1 hk.kp (g (pp - h1)) (g h1) (hdm _ (by omega)) (hdm _ (by omega))
  refine Wh (vs:=[.agg #[iv (v (g (pp - h1))),iv (u (g (pp - h1)))],.agg #[iv (v (g h1)),iv (u (g h1))]]) rfl fH1 ?_
  have mH1:=kH1.1
  have hc:=kH1.cl hc (by simp)
  have hk:=hk.keep kH1
  refine QT (a:=rH1) (b:=0) rfl rfl<|Yy (v:=.bool (!(decide (rH1 < 0)))) rfl rfl ?_
  refine Yo (by repeat' first | exact True.intro | exact (fun h=>h) | refine And.intro ?_ ?_ | (intro h;have h:(_:Nat)=_:=h;omega)) ?_
  refine And.intro (fun q2=>?_) (fun q2=>?_)
  ·have q2:¬ (rH1 < 0):=by simpa using q2
   show Zo _ _ _ _ _ _ _ _
   refine Za rfl<|Zt (a:=(h1:Int)) (b:=1) rfl rfl ⟨by omega,by omega⟩<|Za rfl<|Zb ?_
   exact ⟨_,(h1+1,r),by simp only [];omega,⟨rfl,by simp only [];omega,by simp only [];omega,hs3,.inr (by simp only [];rw [show h1+1 - 1=h1 by omega];exact fun hh=>by have:=qH1.2 hh;omega),hup,hk,hc⟩,rfl,rfl,rfl,rfl,rfl,rfl,rfl,ivq (by simp only [];omega),rfl,rfl,trivial⟩
  ·have q2:¬ (¬ (rH1 < 0)):=by simpa using q2
   show Zo _ _ _ _ _ _ _ _
   refine Za rfl<|Za rfl<|Zb ?_
   exact ⟨_,(s,h1),by simp only [];omega,⟨rfl,hs1,by simp only [];omega,by simp only [];omega,hlw,.inr (qH1.1 (by omega)),hk,hc⟩,rfl,rfl,rfl,rfl,rfl,rfl,rfl,rfl,ivq (by simp only []),rfl,trivial⟩
 ·have q1:¬ ((s:Int) < (r:Int)):=of_decide_eq_false q1
  first | (refine ZC ?_;show wC _ _ _ _ _ _ _ _ _) | skip
  refine Zc<|Za rfl<|Za rfl<|YC (a:=(nn:Int)) (b:=(s:Int)) rfl rfl ⟨by omega,by omega⟩<|Za rfl<|Zb ?_
  obtain rfl:s=r:=by omega
  obtain ⟨e,he⟩:∃ e,e+s=nn:=⟨nn - s,by omega⟩
  have hcut:ZeG key a m b s e g:=by
   refine ⟨by omega,by omega,by omega,by omega,?_,?_⟩
   ·by_cases z:s=s0
    ·rcases hs0 with ⟨z1,z2,z3⟩ | ⟨z1,z2,z3⟩
     ·exact .inr (.inl (by omega))
     ·exact .inl (by omega)
    ·have y:=hlw.resolve_left z
     rw [show pp - (s - 1)=e by omega] at y
     exact .inr (.inr (.of_not y (hcr (s - 1) e (by omega) (by omega) (by omega) (by omega))))
   ·by_cases z:s=r0
    ·rcases hs0 with ⟨z1,z2,z3⟩ | ⟨z1,z2,z3⟩
     ·exact .inr (.inl (by omega))
     ·exact .inl (by omega)
    ·have y:=hup.resolve_left z
     rw [show pp - s=e - 1 by omega] at y
     exact .inr (.inr (.lt y))
  have hpt:=Zbn hp1 hp2 hcr hcut
  rw [show s+(e - m)=mid by have:=hcut.me;omega] at hpt
  have hbe:=hcut.eb;have hbm:=hcut.sm;have hbl:=hcut.l;have hbn:=hcut.me
  refine ZdE hlb hn hlo hk hc (mid:=mid) (b:=b) hbm hbn (by omega) (by exact ⟨rfl,rfl,rfl,rfl,rfl,rfl,rfl,ivq (by omega),trivial⟩) ?_
  intro HA SA_ pA kA cA sA
  have pA2:=pA.mono hbl (by omega) hbe
  have hdA:=pA2.dom hd hb
  refine ZdF hlb hn hlo kA cA ih (by omega) (by omega) (by omega) (by omega) hdA hpt.p1 hpt.p2 hpt.c1 sA ?_
  intro HB SB gB pB oB kB cB sB
  have hdB:=pB.dom hdA (by omega)
  obtain ⟨r1,r2,r3⟩:=hpt.right pB (by omega)
  refine ZdB hlb hn hlo kB cB ih (by omega) (by omega) hb (by omega) hdB r1 r2 r3 sB ?_
  intro HC SC gC pC oC kC cC sC
  exact hN _ _ gC (pA2.trans ((pB.mono (Nat.le_refl _) (by omega) (by omega)).trans (pC.mono (by omega) (by omega) (Nat.le_refl _)))) (hpt.done (by omega) (by omega) pB oB pC oC) kC cC
set_option maxRecDepth 100000 in
set_option maxHeartbeats 2000000 in
theorem jE (hlo:lo≤H.next) {bd cap n M:Nat} {g:Nat→Nat} {v u:Nat→Int} {Hr:Hp} (hlb:lo≤bd) (hn:n≤1000000) (hk0:KT bd Hr H) (hc:Cl H bd (cG (fun x=>[iv (v x),iv (u x)]) n g)) {fc:FuncId} {caps:Array Value} {key:Nat→Int} (ih:∀ (H1:Hp) (a m b:Nat) (g:Nat→Nat),KT bd Hr H1→a < m→m < b→b≤n→b - a < M→(∀ k,k < n→g k < n)→So key a m g→So key m b g→Cr a m b g→Cl H1 bd (cG (fun x=>[iv (v x),iv (u x)]) n g)→∃ H' g',FnX Try.prog kn lo 83 [.slice (some ⟨bd,0,none⟩) n cap,iv (a:Int),iv (m:Int),iv (b:Int),.func (.func fc) #[] caps] H1 (.tuple #[]) H'∧PRm a b g g'∧So key a b g'∧KT bd H1 H'∧Cl H' bd (cG (fun x=>[iv (v x),iv (u x)]) n g')) (hcmp0:JD Try.prog kn lo bd fc caps (fun x=>.agg #[iv (v x),iv (u x)]) n key Hr) {a m b:Nat} (ham:a < m) (hmb:m < b) (hb:b≤n) (hM:b - a≤M) (hd:∀ k,k < n→g k < n) (hp1:So key a m g) (hp2:So key m b g) (hcr:Cr a m b g) :
  ∃ H' g',FnX Try.prog kn lo 83 [.slice (some ⟨bd,0,none⟩) n cap,iv (a:Int),iv (m:Int),iv (b:Int),.func (.func fc) #[] caps] H (.tuple #[]) H'∧PRm a b g g'∧So key a b g'∧KT bd H H'∧Cl H' bd (cG (fun x=>[iv (v x),iv (u x)]) n g'):=by
 have key_:=ZcT (kn:=kn) (lo:=lo) (H:=H) (args:=[.slice (some ⟨bd,0,none⟩) n cap,iv (a:Int),iv (m:Int),iv (b:Int),.func (.func fc) #[] caps]) (Q:=fun w H'=>w=.tuple #[]∧∃ g',PRm a b g g'∧So key a b g'∧KT bd H H'∧Cl H' bd (cG (fun x=>[iv (v x),iv (u x)]) n g')) Try.func83 B83 N83 Z83 V83 (by simp) ?_
 ·obtain ⟨w,H',h,rfl,g',r⟩:=key_;exact ⟨H',g',h,r⟩
 have hk:=KT.refl (H:=H) hc.1
 have hcmp:=hcmp0.from hk0.kp
 refine Zc<|Za rfl<|Za rfl<|YC (a:=(m:Int)) (b:=(a:Int)) rfl rfl ⟨by omega,by omega⟩<|QB (a:=(m:Int) - (a:Int)) (b:=1) rfl rfl<|Zb ?_
 refine And.intro (fun q1=>?_) (fun q1=>?_)
 ·have q1:((m:Int) - (a:Int))=1:=by simpa using q1
  refine Zc<|Za rfl<|Za rfl<|Zb<|Zc<|Za rfl<|Za rfl<|Zb ?_
  refine ZA (fn:=Try.f83) ZdN N83 Zen (fun x:Nat × Nat=>[(0,.slice (some ⟨bd,0,none⟩) n cap),(1,iv (a:Int)),(2,iv (m:Int)),(3,iv (b:Int)),(4,.func (.func fc) #[] caps),(10,iv (x.1:Int)),(11,iv (x.2:Int))])
   (fun k x H'=>k=x.2 - x.1∧m≤x.1∧x.1≤x.2∧x.2≤b∧(∀ p,m≤p→p < x.1→key (g p) < key (g a))∧(∀ p,x.2≤p→p < b→¬ key (g p) < key (g a))∧KT bd H H'∧Cl H' bd (cG (fun x=>[iv (v x),iv (u x)]) n g)) _ (m,b) ⟨rfl,Nat.le_refl _,by simp only [];omega,Nat.le_refl _,fun p p1 p2=>absurd p2 (by simp only [];omega),fun p p1 p2=>absurd p2 (by simp only [] at p1;omega),hk,hc⟩ ⟨rfl,rfl,rfl,rfl,rfl,rfl,rfl,trivial⟩ ?_
  rintro k ⟨i,j⟩ L1 ⟨rfl,hi1,hi2,hi3,hlw,hup,hk,hc⟩
  simp only [] at hi1 hi2 hi3 hlw hup
  have hdm:=hd
  refine Zc<|Za rfl<|Za rfl<|ZB (a:=(i:Int)) (b:=(j:Int)) rfl rfl<|Zb ?_
  refine And.intro (fun q2=>?_) (fun q2=>?_)
  ·have q2:(i:Int) < (j:Int):=of_decide_eq_true q2
   first | refine Zj ?_ | skip
   refine Zc<|Za rfl<|Za rfl<|Zt (a:=(i:Int)) (b:=(j:Int)) rfl rfl ⟨by omega,by omega⟩ ?_
   obtain ⟨h2,eh2⟩:∃ h:Nat,h=(i+j) / 2:=⟨_,rfl⟩
   refine Zd (v:=.int .u64 ((i+j:Nat):Int)) rfl (ZbP (n:=i+j) (j:=(i:Int)+(j:Int)) (by omega) rfl (by omega))<|Zd (v:=.int .u64 ((h2:Nat):Int)) rfl (by rw [eh2];exact qG (m:=i+j) (d:=1) (by decide) rfl rfl)<|Zd (v:=iv (h2:Int)) rfl (Zbq (n:=h2) (j:=(h2:Int)) (by omega) rfl rfl)<|Za rfl<|Zb<|Xu<|Zk rfl<|Zk rfl<|Zk rfl<|Yb (b:=bd) (o:=0) (k:=h2) (j:=(h2:Int)) rfl rfl (by omega) (by omega)<|ZU (b:=bd) (o:=0+h2 * 2) rfl hc.rd (Xf (z:=2) (fun _=>rfl) (by omega))<|Zk rfl<|Zk rfl<|Yb (b:=bd) (o:=0) (k:=a) (j:=(a:Int)) rfl rfl (by omega) (by omega)<|ZU (b:=bd) (o:=0+a * 2) rfl hc.rd (Xf (z:=2) (fun _=>rfl) (by omega)) ?_
   obtain ⟨rH1,H1,fH1,kH1,qH1⟩:=hcmp L1 hk.kp (g h2) (g a) (hdm _ (by omega)) (hdm _ (by omega))
   refine Wh (vs:=[.agg #[iv (v (g h2)),iv (u (g h2))],.agg #[iv (v (g a)),iv (u (g a))]]) rfl fH1 ?_
   have mH1:=kH1.1
   have hc:=kH1.cl hc (by simp)
   have hk:=hk.keep kH1
   refine QT (a:=rH1) (b:=0) rfl rfl ?_
   refine Yo (by repeat' first | exact True.intro | exact (fun h=>h) | refine And.intro ?_ ?_ | (intro h;have h:(_:Nat)=_:=h;omega)) ?_
   refine And.intro (fun q3=>?_) (fun q3=>?_)
   ·have q3:rH1 < 0:=of_decide_eq_true q3
    show Zo _ _ _ _ _ _ _ _
    refine Za rfl<|Zt (a:=(h2:Int)) (b:=1) rfl rfl ⟨by omega,by omega⟩<|Za rfl<|Zb ?_
    exact ⟨_,(h2+1,j),by simp only [];omega,⟨rfl,by simp only [];omega,by simp only [];omega,hi3,fun p p1 p2=>by have z:=qH1.1 (by omega);have y:=hp2.le (i:=p) (j:=h2) (by omega) (by omega) (by omega);omega,hup,hk,hc⟩,rfl,rfl,rfl,rfl,rfl,ivq (by simp only [];omega),rfl,trivial⟩
   ·have q3:¬ (rH1 < 0):=of_decide_eq_false q3
    show Zo _ _ _ _ _ _ _ _
    refine Za rfl<|Za rfl<|Zb ?_
    exact ⟨_,(i,h2),by simp only [];omega,⟨rfl,hi1,by simp only [];omega,by simp only [];omega,hlw,fun p p1 p2 hh=>by have y:=hp2.le (i:=h2) (j:=p) (by omega) p1 (by omega);have z:=qH1.2 (by omega);omega,hk,hc⟩,rfl,rfl,rfl,rfl,rfl,rfl,ivq (by simp only []),trivial⟩
  ·have q2:¬ ((i:Int) < (j:Int)):=of_decide_eq_false q2
   first | (refine ZC ?_;show wC _ _ _ _ _ _ _ _ _) | skip
   refine Zc<|Za rfl<|Za rfl<|Zb ?_
   obtain rfl:i=j:=by omega
   obtain rfl:m=a+1:=by omega
   refine ZA (fn:=Try.f83) ZdL N83 Zdr (fun t:Nat=>[(0,.slice (some ⟨bd,0,none⟩) n cap),(10,iv (i:Int)),(13,iv (t:Int))])
    (fun k t H'=>k+t=i - 1∧a≤t∧PRm a b g (mvR g a t)∧KT bd H H'∧Cl H' bd (cG (fun x=>[iv (v x),iv (u x)]) n (mvR g a t))) (i - 1 - a) a ⟨by omega,Nat.le_refl _,by rw [zx];exact PRm.refl _ _ _,hk,by rw [zx];exact hc⟩ ⟨rfl,rfl,rfl,trivial⟩ ?_
   rintro k t L2 ⟨hkt,ht,hp,hk,hc⟩
   refine Zc<|Za rfl<|Za rfl<|YC (a:=(i:Int)) (b:=1) rfl rfl ⟨by omega,by omega⟩<|ZB (a:=(t:Int)) (b:=(i:Int) - 1) rfl rfl<|Zb ?_
   refine And.intro (fun q4=>?_) (fun q4=>?_)
   ·have q4:(t:Int) < ((i:Int) - 1):=of_decide_eq_true q4
    first | refine Zj ?_ | skip
    first | refine YM ?_ | refine WN ?_ | refine V1 ?_ | (refine XS ?_;refine YM ?_)
    refine Zk rfl<|Zk rfl<|Zk rfl<|Zk rfl<|X3 (a:=(t:Int)) (b:=1) rfl rfl ⟨by omega,by omega⟩<|Zk rfl<|Zk rfl<|X3 (a:=(t:Int)) (b:=1) rfl rfl ⟨by omega,by omega⟩<|Yb (b:=bd) (o:=0) (k:=t+1) (j:=(t:Int)+1) rfl rfl (by omega) (by omega)<|ZU (b:=bd) (o:=0+(t+1) * 2) rfl hc.rd (Xf (z:=2) (fun _=>rfl) (by omega))<|Zk rfl<|Zk rfl<|Yb (b:=bd) (o:=0) (k:=t) (j:=(t:Int)) rfl rfl (by omega) (by omega)<|ZU (b:=bd) (o:=0+t * 2) rfl hc.rd (Xf (z:=2) (fun _=>rfl) (by omega))<|Yb (b:=bd) (o:=0) (k:=t) (j:=(t:Int)) rfl rfl (by omega) (by omega)<|Wq (b:=bd) (o:=0+t * 2) rfl rfl hc hlb rfl rfl (by rw [Vt (z:=2) (fun _=>rfl)];omega) ?_
    intro H2 kH2 nH2 sH2 tH2
    have mH2:=kH2.1
    have hk:=hk.put kH2 tH2
    have hc:Cl H2 bd (cG (fun x=>[iv (v x),iv (u x)]) n (upd (mvR g a t) t ((mvR g a t) (t+1)))):=by rw [← Vo (z:=2) (fun _=>rfl) (by omega)];exact sH2
    refine Yb (b:=bd) (o:=0) (k:=t+1) (j:=(t:Int)+1) rfl rfl (by omega) (by omega)<|Wq (b:=bd) (o:=0+(t+1) * 2) rfl rfl hc hlb rfl rfl (by rw [Vt (z:=2) (fun _=>rfl)];omega) ?_
    intro H3 kH3 nH3 sH3 tH3
    have mH3:=kH3.1
    have hk:=hk.put kH3 tH3
    have hc:Cl H3 bd (cG (fun x=>[iv (v x),iv (u x)]) n (upd (upd (mvR g a t) t ((mvR g a t) (t+1))) (t+1) ((mvR g a t) t))):=by rw [← Vo (z:=2) (fun _=>rfl) (by omega)];exact sH3
    have hc:Cl H3 bd (cG (fun x=>[iv (v x),iv (u x)]) n (swp (mvR g a t) t (t+1))):=hc
    refine Yo (by repeat' first | exact True.intro | exact (fun h=>h) | refine And.intro ?_ ?_ | (intro h;have h:(_:Nat)=_:=h;omega)) ?_
    show Zo _ _ _ _ _ _ _ _
    refine Za rfl<|Zt (a:=(t:Int)) (b:=1) rfl rfl ⟨by omega,by omega⟩<|Za rfl<|Zb ?_
    rw [zY (by omega)] at hc
    exact ⟨k - 1,t+1,by omega,⟨by omega,by omega,by rw [← zY (by omega)];exact hp.trans (PRm.swap (by omega) (by omega) (by omega) (by omega)),hk,hc⟩,rfl,rfl,ivq (by omega),trivial⟩
   ·have q4:¬ ((t:Int) < ((i:Int) - 1)):=of_decide_eq_false q4
    first | (refine ZC ?_;show wC _ _ _ _ _ _ _ _ _) | skip
    have eti:t=i - 1:=by omega
    rw [eti] at hp hc
    exact And.intro trivial (Exists.intro _ (And.intro rfl ⟨rfl,_,hp,jy hp2 hcr hi1 hi3 hlw hup,hk,hc⟩))
 ·have q1:¬ (((m:Int) - (a:Int))=1):=by simpa using q1
  first | refine Zj ?_ | skip
  refine Zc<|Za rfl<|Za rfl<|YC (a:=(b:Int)) (b:=(m:Int)) rfl rfl ⟨by omega,by omega⟩<|QB (a:=(b:Int) - (m:Int)) (b:=1) rfl rfl<|Zb ?_
  refine And.intro (fun q5=>?_) (fun q5=>?_)
  ·have q5:((b:Int) - (m:Int))=1:=by simpa using q5
   refine Zc<|Za rfl<|Za rfl<|Zb<|Zc<|Za rfl<|Za rfl<|Zb ?_
   refine ZA (fn:=Try.f83) Zer N83 Zd9 (fun x:Nat × Nat=>[(0,.slice (some ⟨bd,0,none⟩) n cap),(1,iv (a:Int)),(2,iv (m:Int)),(3,iv (b:Int)),(4,.func (.func fc) #[] caps),(14,iv (x.1:Int)),(15,iv (x.2:Int))])
    (fun k x H'=>k=x.2 - x.1∧a≤x.1∧x.1≤x.2∧x.2≤m∧(∀ p,a≤p→p < x.1→¬ key (g m) < key (g p))∧(∀ p,x.2≤p→p < m→key (g m) < key (g p))∧KT bd H H'∧Cl H' bd (cG (fun x=>[iv (v x),iv (u x)]) n g)) _ (a,m) ⟨rfl,Nat.le_refl _,by simp only [];omega,Nat.le_refl _,fun p p1 p2=>absurd p2 (by simp only [];omega),fun p p1 p2=>absurd p2 (by simp only [] at p1;omega),hk,hc⟩ ⟨rfl,rfl,rfl,rfl,rfl,rfl,rfl,trivial⟩ ?_
   rintro k ⟨i,j⟩ L1 ⟨rfl,hi1,hi2,hi3,hlw,hup,hk,hc⟩
   simp only [] at hi1 hi2 hi3 hlw hup
   have hdm:=hd
   refine Zc<|Za rfl<|Za rfl<|ZB (a:=(i:Int)) (b:=(j:Int)) rfl rfl<|Zb ?_
   refine And.intro (fun q6=>?_) (fun q6=>?_)
   ·have q6:(i:Int) < (j:Int):=of_decide_eq_true q6
    first | refine Zj ?_ | skip
    refine Zc<|Za rfl<|Za rfl<|Zt (a:=(i:Int)) (b:=(j:Int)) rfl rfl ⟨by omega,by omega⟩ ?_
    obtain ⟨h3,eh3⟩:∃ h:Nat,h=(i+j) / 2:=⟨_,rfl⟩
    refine Zd (v:=.int .u64 ((i+j:Nat):Int)) rfl (ZbP (n:=i+j) (j:=(i:Int)+(j:Int)) (by omega) rfl (by omega))<|Zd (v:=.int .u64 ((h3:Nat):Int)) rfl (by rw [eh3];exact qG (m:=i+j) (d:=1) (by decide) rfl rfl)<|Zd (v:=iv (h3:Int)) rfl (Zbq (n:=h3) (j:=(h3:Int)) (by omega) rfl rfl)<|Za rfl<|Zb<|Xu<|Zk rfl<|Zk rfl<|Zk rfl<|Yb (b:=bd) (o:=0) (k:=m) (j:=(m:Int)) rfl rfl (by omega) (by omega)<|ZU (b:=bd) (o:=0+m * 2) rfl hc.rd (Xf (z:=2) (fun _=>rfl) (by omega))<|Zk rfl<|Zk rfl<|Yb (b:=bd) (o:=0) (k:=h3) (j:=(h3:Int)) rfl rfl (by omega) (by omega)<|ZU (b:=bd) (o:=0+h3 * 2) rfl hc.rd (Xf (z:=2) (fun _=>rfl) (by omega)) ?_
    obtain ⟨rH4,H4,fH4,kH4,qH4⟩:=hcmp L1 hk.kp (g m) (g h3) (hdm _ (by omega)) (hdm _ (by omega))
    refine Wh (vs:=[.agg #[iv (v (g m)),iv (u (g m))],.agg #[iv (v (g h3)),iv (u (g h3))]]) rfl fH4 ?_
    have mH4:=kH4.1
    have hc:=kH4.cl hc (by simp)
    have hk:=hk.keep kH4
    refine QT (a:=rH4) (b:=0) rfl rfl<|Yy (v:=.bool (!(decide (rH4 < 0)))) rfl rfl ?_
    refine Yo (by repeat' first | exact True.intro | exact (fun h=>h) | refine And.intro ?_ ?_ | (intro h;have h:(_:Nat)=_:=h;omega)) ?_
    refine And.intro (fun q7=>?_) (fun q7=>?_)
    ·have q7:¬ (rH4 < 0):=by simpa using q7
     show Zo _ _ _ _ _ _ _ _
     refine Za rfl<|Zt (a:=(h3:Int)) (b:=1) rfl rfl ⟨by omega,by omega⟩<|Za rfl<|Zb ?_
     exact ⟨_,(h3+1,j),by simp only [];omega,⟨rfl,by simp only [];omega,by simp only [];omega,hi3,fun p p1 p2 hh=>by have y:=hp1.le (i:=p) (j:=h3) p1 (by omega) (by omega);have z:=qH4.2 (by omega);omega,hup,hk,hc⟩,rfl,rfl,rfl,rfl,rfl,ivq (by simp only [];omega),rfl,trivial⟩
    ·have q7:¬ (¬ (rH4 < 0)):=by simpa using q7
     show Zo _ _ _ _ _ _ _ _
     refine Za rfl<|Za rfl<|Zb ?_
     exact ⟨_,(i,h3),by simp only [];omega,⟨rfl,hi1,by simp only [];omega,by simp only [];omega,hlw,fun p p1 p2=>by have z:=qH4.1 (by omega);have y:=hp1.le (i:=h3) (j:=p) (by omega) p1 (by omega);omega,hk,hc⟩,rfl,rfl,rfl,rfl,rfl,rfl,ivq (by simp only []),trivial⟩
   ·have q6:¬ ((i:Int) < (j:Int)):=of_decide_eq_false q6
    first | (refine ZC ?_;show wC _ _ _ _ _ _ _ _ _) | skip
    refine Zc<|Za rfl<|Za rfl<|Zb ?_
    obtain rfl:i=j:=by omega
    obtain rfl:b=m+1:=by omega
    refine ZA (fn:=Try.f83) ZdO N83 ZdW (fun t:Nat=>[(0,.slice (some ⟨bd,0,none⟩) n cap),(14,iv (i:Int)),(17,iv (t:Int))])
     (fun k t H'=>k=t∧i≤t∧t≤m∧PRm a (m+1) g (mvL g m t)∧KT bd H H'∧Cl H' bd (cG (fun x=>[iv (v x),iv (u x)]) n (mvL g m t))) m m ⟨rfl,by omega,Nat.le_refl _,by rw [zS];exact PRm.refl _ _ _,hk,by rw [zS];exact hc⟩ ⟨rfl,rfl,rfl,trivial⟩ ?_
    rintro k t L2 ⟨hkt,ht,ht2,hp,hk,hc⟩
    refine Zc<|Za rfl<|Za rfl<|YW (a:=(t:Int)) (b:=(i:Int)) rfl rfl<|Zb ?_
    refine And.intro (fun q8=>?_) (fun q8=>?_)
    ·have q8:(t:Int) > (i:Int):=of_decide_eq_true q8
     first | refine Zj ?_ | skip
     first | refine YM ?_ | refine WN ?_ | refine V1 ?_ | (refine XS ?_;refine YM ?_)
     refine Zk rfl<|Zk rfl<|Zk rfl<|Zk rfl<|Wx (a:=(t:Int)) (b:=1) rfl rfl ⟨by omega,by omega⟩<|Zk rfl<|Zk rfl<|Wx (a:=(t:Int)) (b:=1) rfl rfl ⟨by omega,by omega⟩<|Yb (b:=bd) (o:=0) (k:=t - 1) (j:=(t:Int) - 1) rfl rfl (by omega) (by omega)<|ZU (b:=bd) (o:=0+(t - 1) * 2) rfl hc.rd (Xf (z:=2) (fun _=>rfl) (by omega))<|Zk rfl<|Zk rfl<|Yb (b:=bd) (o:=0) (k:=t) (j:=(t:Int)) rfl rfl (by omega) (by omega)<|ZU (b:=bd) (o:=0+t * 2) rfl hc.rd (Xf (z:=2) (fun _=>rfl) (by omega))<|Yb (b:=bd) (o:=0) (k:=t) (j:=(t:Int)) rfl rfl (by omega) (by omega)<|Wq (b:=bd) (o:=0+t * 2) rfl rfl hc hlb rfl rfl (by rw [Vt (z:=2) (fun _=>rfl)];omega) ?_
     intro H5 kH5 nH5 sH5 tH5
     have mH5:=kH5.1
     have hk:=hk.put kH5 tH5
     have hc:Cl H5 bd (cG (fun x=>[iv (v x),iv (u x)]) n (upd (mvL g m t) t ((mvL g m t) (t - 1)))):=by rw [← Vo (z:=2) (fun _=>rfl) (by omega)];exact sH5
     refine Yb (b:=bd) (o:=0) (k:=t - 1) (j:=(t:Int) - 1) rfl rfl (by omega) (by omega)<|Wq (b:=bd) (o:=0+(t - 1) * 2) rfl rfl hc hlb rfl rfl (by rw [Vt (z:=2) (fun _=>rfl)];omega) ?_
     intro H6 kH6 nH6 sH6 tH6
     have mH6:=kH6.1
     have hk:=hk.put kH6 tH6
     have hc:Cl H6 bd (cG (fun x=>[iv (v x),iv (u x)]) n (upd (upd (mvL g m t) t ((mvL g m t) (t - 1))) (t - 1) ((mvL g m t) t))):=by rw [← Vo (z:=2) (fun _=>rfl) (by omega)];exact sH6
     have hc:Cl H6 bd (cG (fun x=>[iv (v x),iv (u x)]) n (swp (mvL g m t) t (t - 1))):=hc
     refine Yo (by repeat' first | exact True.intro | exact (fun h=>h) | refine And.intro ?_ ?_ | (intro h;have h:(_:Nat)=_:=h;omega)) ?_
     show Zo _ _ _ _ _ _ _ _
     refine Za rfl<|YC (a:=(t:Int)) (b:=1) rfl rfl ⟨by omega,by omega⟩<|Za rfl<|Zb ?_
     rw [zs (by omega) (by omega)] at hc
     exact ⟨t - 1,t - 1,by omega,⟨rfl,by omega,by omega,by rw [← zs (by omega) (by omega)];exact hp.trans (PRm.swap (by omega) (by omega) (by omega) (by omega)),hk,hc⟩,rfl,rfl,ivq (by omega),trivial⟩
    ·have q8:¬ ((t:Int) > (i:Int)):=of_decide_eq_false q8
     first | (refine ZC ?_;show wC _ _ _ _ _ _ _ _ _) | skip
     have eti:t=i:=by omega
     rw [eti] at hp hc
     exact And.intro trivial (Exists.intro _ (And.intro rfl ⟨rfl,_,hp,ZaX hp1 hcr hi1 hi3 hlw hup,hk,hc⟩))
  ·have q5:¬ (((b:Int) - (m:Int))=1):=by simpa using q5
   first | refine Zj ?_ | skip
   refine Zc<|Za rfl<|Za rfl<|Zt (a:=(a:Int)) (b:=(b:Int)) rfl rfl ⟨by omega,by omega⟩ ?_
   obtain ⟨h4,eh4⟩:∃ h:Nat,h=(a+b) / 2:=⟨_,rfl⟩
   refine Zd (v:=.int .u64 ((a+b:Nat):Int)) rfl (ZbP (n:=a+b) (j:=(a:Int)+(b:Int)) (by omega) rfl (by omega))<|Zd (v:=.int .u64 ((h4:Nat):Int)) rfl (by rw [eh4];exact qG (m:=a+b) (d:=1) (by decide) rfl rfl)<|Zd (v:=iv (h4:Int)) rfl (Zbq (n:=h4) (j:=(h4:Int)) (by omega) rfl rfl)<|Za rfl<|Zb<|Zc<|Za rfl<|Za rfl<|Zt (a:=(h4:Int)) (b:=(m:Int)) rfl rfl ⟨by omega,by omega⟩<|Za rfl<|Zb<|Zc<|Za rfl<|Za rfl<|Zb<|Zc<|Za rfl<|Za rfl<|YW (a:=(m:Int)) (b:=(h4:Int)) rfl rfl<|Zb ?_
   refine And.intro (fun q9=>?_) (fun q9=>?_)
   ·have q9:(m:Int) > (h4:Int):=of_decide_eq_true q9
    refine Zc<|Za rfl<|Za rfl<|YC (a:=(h4:Int)+(m:Int)) (b:=(b:Int)) rfl rfl ⟨by omega,by omega⟩<|Za rfl<|Zb<|Zc<|Za rfl<|Za rfl<|Zb ?_
    refine Zcd (mid:=h4) (nn:=h4+m) (s0:=(h4+m) - b) (r0:=h4) hlb hn hlo hk hc (fun H1 a m b g k=>ih H1 a m b g (hk0.trans k)) hcmp ham hmb hb hM eh4 rfl (.inl ⟨by omega,by omega,rfl⟩) (by omega) hd hp1 hp2 hcr (by exact ⟨rfl,rfl,rfl,rfl,rfl,rfl,ivq (by omega),ivq (by omega),ivq (by omega),trivial⟩) ?_
    intro H' S' g' p' s' k' c'
    exact And.intro trivial (Exists.intro _ (And.intro rfl ⟨rfl,g',p',s',k',c'⟩))
   ·have q9:¬ ((m:Int) > (h4:Int)):=of_decide_eq_false q9
    refine Zc<|Za rfl<|Za rfl<|Zb<|Zc<|Za rfl<|Za rfl<|Zb ?_
    refine Zcd (mid:=h4) (nn:=h4+m) (s0:=a) (r0:=m) hlb hn hlo hk hc (fun H1 a m b g k=>ih H1 a m b g (hk0.trans k)) hcmp ham hmb hb hM eh4 rfl (.inr ⟨by omega,rfl,rfl⟩) (by omega) hd hp1 hp2 hcr (by exact ⟨rfl,rfl,rfl,rfl,rfl,rfl,ivq (by omega),ivq (by omega),ivq (by omega),trivial⟩) ?_
    intro H' S' g' p' s' k' c'
    exact And.intro trivial (Exists.intro _ (And.intro rfl ⟨rfl,g',p',s',k',c'⟩))
theorem Kx {bd cap n:Nat} {v u:Nat→Int} {Hr:Hp} (hlo:lo≤Hr.next) (hlb:lo≤bd) (hn:n≤1000000) {fc:FuncId} {caps:Array Value} {key:Nat→Int} (hcmp:JD Try.prog kn lo bd fc caps (fun x=>.agg #[iv (v x),iv (u x)]) n key Hr):∀ (M:Nat) (H1:Hp) (a m b:Nat) (g:Nat→Nat),KT bd Hr H1→a < m→m < b→b≤n→b - a < M→(∀ k,k < n→g k < n)→So key a m g→So key m b g→Cr a m b g→Cl H1 bd (cG (fun x=>[iv (v x),iv (u x)]) n g)→∃ H' g',FnX Try.prog kn lo 83 [.slice (some ⟨bd,0,none⟩) n cap,iv (a:Int),iv (m:Int),iv (b:Int),.func (.func fc) #[] caps] H1 (.tuple #[]) H'∧PRm a b g g'∧So key a b g'∧KT bd H1 H'∧Cl H' bd (cG (fun x=>[iv (v x),iv (u x)]) n g')
 | 0,_,_,_,_,_,_,_,_,_,h,_,_,_,_,_=>absurd h (Nat.not_lt_zero _)
 | M+1,_,_,_,_,_,hk,ham,hmb,hb,hM,hd,hp1,hp2,hcr,hc=>jE (Nat.le_trans hlo hk.1) hlb hn hk hc (Kx hlo hlb hn hcmp M) hcmp ham hmb hb (Nat.le_of_lt_succ hM) hd hp1 hp2 hcr
end
end
end Go.Ax

/-
 Pool: sorting that keeps the order: blocks (written by program).
-/
namespace Go.Ax
open Go Go.RowKit Go.Proofs

noncomputable section
theorem Bk.init2 {key:Nat→Int} {bs n:Nat} {g:Nat→Nat} (h:Bk key bs 0 n g):Bk2 key bs 0 n g:=Bk2.init h
theorem ZeF {bs a:Nat} (hb:Bs bs) (h:a % (2 * bs)=0):a % bs=0:=by rcases hb with rfl | rfl | rfl<;>omega
section
variable {kn:Kn} {lo:Nat} {H:Hp}
set_option maxRecDepth 100000 in
set_option maxHeartbeats 2000000 in
theorem yG (hlo:lo≤H.next) {bd cap n:Nat} {v u:Nat→Int} (hlb:lo≤bd) (hn:n≤160) (hc:Cl H bd (cG (fun x=>[iv (v x),iv (u x)]) n fun i=>i)) {fc:FuncId} {caps:Array Value} {key:Nat→Int} (hcmp:JD Try.prog kn lo bd fc caps (fun x=>.agg #[iv (v x),iv (u x)]) n key H):∃ H' g',FnX Try.prog kn lo 77 [.slice (some ⟨bd,0,none⟩) n cap,iv (n:Int),.func (.func fc) #[] caps] H (.tuple #[]) H'∧PRm 0 n (fun i=>i) g'∧So key 0 n g'∧KT bd H H'∧Cl H' bd (cG (fun x=>[iv (v x),iv (u x)]) n g'):=by
 have key_:=Zp (kn:=kn) (lo:=lo) (H:=H) (args:=[.slice (some ⟨bd,0,none⟩) n cap,iv (n:Int),.func (.func fc) #[] caps]) (Q:=fun w H'=>w=.tuple #[]∧∃ g',PRm 0 n (fun i=>i) g'∧So key 0 n g'∧KT bd H H'∧Cl H' bd (cG (fun x=>[iv (v x),iv (u x)]) n g')) Try.func77 B77 N77 Z77 L77 (by simp) ?_
 ·obtain ⟨w,H',h,rfl,g',r⟩:=key_;exact ⟨H',g',h,r⟩
 have hk:=KT.refl (H:=H) hc.1
 refine Zc<|Za rfl<|Zb<|Zc<|Za rfl<|Za rfl<|Za rfl<|Zb ?_
 refine ZA (fn:=Try.f77) Zct N77 Zb5 (fun a:Nat=>[(0,.slice (some ⟨bd,0,none⟩) n cap),(1,iv (n:Int)),(2,.func (.func fc) #[] caps),(6,iv 20),(7,iv (a:Int)),(8,iv ((a:Int)+20))])
  (fun k a H'=>k=n - a∧a % 20=0∧a≤n∧∃ g',Bk0 key a n g'∧PRm 0 n (fun i=>i) g'∧KT bd H H'∧Cl H' bd (cG (fun x=>[iv (v x),iv (u x)]) n g')) _ 0 ⟨rfl,rfl,Nat.zero_le _,fun i=>i,Bk0.init n,PRm.refl _ _ _,hk,hc⟩ ⟨rfl,rfl,rfl,rfl,rfl,rfl,trivial⟩ ?_
 rintro k a L1 ⟨rfl,ha,han,gx,hB,hp,hk,hc⟩
 refine Zc<|Za rfl<|Za rfl<|Wc (a:=((a:Int)+20)) (b:=(n:Int)) rfl rfl<|Zb ?_
 refine And.intro (fun q1=>?_) (fun q1=>?_)
 ·have q1:((a:Int)+20)≤(n:Int):=of_decide_eq_true q1
  first | refine Zj ?_ | skip
  refine Zc<|Za rfl<|Za rfl<|Za rfl<|Za rfl ?_
  obtain ⟨H1,gH1,fH1,pH1,sH1,kH1,cH1⟩:=qk (kn:=kn) (lo:=lo) (H:=L1) (by have:=hk.1;omega) hlb (by omega) (cap:=cap) hc (hp.dom (fun k q=>q) (Nat.le_refl _)) (hcmp.from hk.kp) (a:=a) (b:=(a+20)) (by omega) (by omega) (fun i j q1 q2 q3=>hB.ids i j q1 q2)
  refine Zi (vs:=[.slice (some ⟨bd,0,none⟩) n cap,iv (a:Int),iv ((a:Int)+20),.func (.func fc) #[] caps]) rfl (by have q:=Zf fH1;rw [show (((a+20):Nat):Int)=((a:Int)+20) by omega] at q;exact q) ?_
  have mH1:=kH1.1
  have hk:=hk.trans kH1
  have hc:=cH1
  have hp:=hp.trans (pH1.mono (by omega) (by omega) (by omega))
  have hB:=hB.step ha (by omega) (by omega) pH1 sH1
  refine Zb<|Zc<|Za rfl<|Za rfl<|Zb ?_
  show Zo _ _ _ _ _ _ _ _
  refine Za rfl<|Za rfl<|Zt (a:=((a:Int)+20)) (b:=20) rfl rfl ⟨by omega,by omega⟩<|Za rfl<|Zb ?_
  exact ⟨_,a+20,by omega,⟨rfl,by omega,by omega,_,hB,hp,hk,hc⟩,rfl,rfl,rfl,rfl,ivq (by omega),ivq (by omega),trivial⟩
 ·have q1:¬ (((a:Int)+20)≤(n:Int)):=of_decide_eq_false q1
  first | (refine ZC ?_;show wC _ _ _ _ _ _ _ _ _) | skip
  refine Zc<|Za rfl<|Za rfl<|Za rfl<|Za rfl ?_
  obtain ⟨H2,gH2,fH2,pH2,sH2,kH2,cH2⟩:=qk (kn:=kn) (lo:=lo) (H:=L1) (by have:=hk.1;omega) hlb (by omega) (cap:=cap) hc (hp.dom (fun k q=>q) (Nat.le_refl _)) (hcmp.from hk.kp) (a:=a) (b:=n) (by omega) (by omega) (fun i j q1 q2 q3=>hB.ids i j q1 q2)
  refine Zi (vs:=[.slice (some ⟨bd,0,none⟩) n cap,iv (a:Int),iv (n:Int),.func (.func fc) #[] caps]) rfl (Zf fH2) ?_
  have mH2:=kH2.1
  have hk:=hk.trans kH2
  have hc:=cH2
  have hp:=hp.trans (pH2.mono (by omega) (by omega) (by omega))
  have hB:=hB.step ha (by omega) (by omega) pH2 sH2
  refine Zb ?_
  have hB:=hB.low (Nat.le_refl _)
  refine ZA (fn:=Try.f77) Zcm N77 Zb2 (fun bs:Nat=>[(0,.slice (some ⟨bd,0,none⟩) n cap),(1,iv (n:Int)),(2,.func (.func fc) #[] caps),(6,iv (bs:Int))])
   (fun k bs H'=>k=400 - bs∧(Bs bs∨bs=160)∧∃ g',Bk key bs 0 n g'∧PRm 0 n (fun i=>i) g'∧KT bd H H'∧Cl H' bd (cG (fun x=>[iv (v x),iv (u x)]) n g')) _ 20 ⟨rfl,.inl (.inl rfl),_,hB,hp,hk,hc⟩ ⟨rfl,rfl,rfl,rfl,trivial⟩ ?_
  rintro k bs L2 ⟨rfl,hbs,gy,hB,hp,hk,hc⟩
  refine Zc<|Za rfl<|Za rfl<|ZB (a:=(bs:Int)) (b:=(n:Int)) rfl rfl<|Zb ?_
  refine And.intro (fun q2=>?_) (fun q2=>?_)
  ·have q2:(bs:Int) < (n:Int):=of_decide_eq_true q2
   first | refine Zj ?_ | skip
   refine Zc<|Za rfl<|Q2 (a:=2) (b:=(bs:Int)) rfl rfl ⟨by omega,by omega⟩<|Za rfl<|Za rfl<|Zb ?_
   have hbs:Bs bs:=hbs.resolve_right (by omega)
   have hb0:20≤bs:=by unfold Bs at hbs;omega
   have hB:=hB.init2
   refine ZA (fn:=Try.f77) ZdA N77 Zem (fun a:Nat=>[(0,.slice (some ⟨bd,0,none⟩) n cap),(1,iv (n:Int)),(2,.func (.func fc) #[] caps),(6,iv (bs:Int)),(7,iv (a:Int)),(8,iv ((a:Int)+2 * (bs:Int)))])
    (fun k a H'=>k=n - a∧a % (2 * bs)=0∧a≤n∧∃ g',Bk2 key bs a n g'∧PRm 0 n (fun i=>i) g'∧KT bd H H'∧Cl H' bd (cG (fun x=>[iv (v x),iv (u x)]) n g')) _ 0 ⟨rfl,Nat.zero_mod _,Nat.zero_le _,_,hB,hp,hk,hc⟩ ⟨rfl,rfl,rfl,rfl,rfl,ivq (by omega),trivial⟩ ?_
   rintro k a L3 ⟨rfl,ha,han,gz,hB,hp,hk,hc⟩
   refine Zc<|Za rfl<|Za rfl<|Wc (a:=((a:Int)+2 * (bs:Int))) (b:=(n:Int)) rfl rfl<|Zb ?_
   refine And.intro (fun q3=>?_) (fun q3=>?_)
   ·have q3:((a:Int)+2 * (bs:Int))≤(n:Int):=of_decide_eq_true q3
    first | refine Zj ?_ | skip
    refine Zc<|Za rfl<|Za rfl<|Za rfl<|Za rfl<|Zt (a:=(a:Int)) (b:=(bs:Int)) rfl rfl ⟨by omega,by omega⟩<|Za rfl<|Za rfl ?_
    obtain ⟨q1H3,q2H3,q3H3⟩:=hB.hi.part hbs (ZeF hbs ha) (m:=a+bs) (b:=(a+2 * bs)) (by omega) (by omega) (by omega) (by omega)
    obtain ⟨H3,gH3,fH3,pH3,sH3,kH3,cH3⟩:=Kx (kn:=kn) (lo:=lo) hlo hlb (by omega) (cap:=cap) hcmp ((a+2 * bs) - a+1) L3 (a) (a+bs) ((a+2 * bs)) gz hk (by omega) (by omega) (by omega) (by omega) (hp.dom (fun k q=>q) (Nat.le_refl _)) q1H3 q2H3 q3H3 hc
    refine Zi (vs:=[.slice (some ⟨bd,0,none⟩) n cap,iv (a:Int),iv ((a:Int)+(bs:Int)),iv ((a:Int)+2 * (bs:Int)),.func (.func fc) #[] caps]) rfl (by have q:=Zf fH3;rw [show ((a+bs:Nat):Int)=(a:Int)+(bs:Int) by omega] at q;rw [show (((a+2 * bs):Nat):Int)=((a:Int)+2 * (bs:Int)) by omega] at q;exact q) ?_
    have mH3:=kH3.1
    have hk:=hk.trans kH3
    have hc:=cH3
    have hp:=hp.trans (pH3.mono (by omega) (by omega) (by omega))
    refine Zb<|Zc<|Za rfl<|Za rfl<|Zb ?_
    show Zo _ _ _ _ _ _ _ _
    refine Za rfl<|Za rfl<|Q2 (a:=2) (b:=(bs:Int)) rfl rfl ⟨by omega,by omega⟩<|Zt (a:=((a:Int)+2 * (bs:Int))) (b:=2 * (bs:Int)) rfl rfl ⟨by omega,by omega⟩<|Za rfl<|Zb ?_
    obtain ⟨hB,ha⟩:=hB.next hbs ha (b:=a+2 * bs) rfl (by omega) pH3 sH3
    exact ⟨_,a+2 * bs,by omega,⟨rfl,ha,by omega,_,hB,hp,hk,hc⟩,rfl,rfl,rfl,rfl,ivq (by omega),ivq (by omega),trivial⟩
   ·have q3:¬ (((a:Int)+2 * (bs:Int))≤(n:Int)):=of_decide_eq_false q3
    first | (refine ZC ?_;show wC _ _ _ _ _ _ _ _ _) | skip
    refine Zc<|Za rfl<|Za rfl<|Zt (a:=(a:Int)) (b:=(bs:Int)) rfl rfl ⟨by omega,by omega⟩<|Za rfl<|Zb<|Zc<|Za rfl<|Za rfl<|ZB (a:=(a:Int)+(bs:Int)) (b:=(n:Int)) rfl rfl<|Zb ?_
    refine And.intro (fun q4=>?_) (fun q4=>?_)
    ·have q4:((a:Int)+(bs:Int)) < (n:Int):=of_decide_eq_true q4
     refine Zc<|Za rfl<|Za rfl<|Za rfl<|Za rfl<|Za rfl ?_
     obtain ⟨q1H4,q2H4,q3H4⟩:=hB.hi.part hbs (ZeF hbs ha) (m:=a+bs) (b:=n) (by omega) (by omega) (by omega) (by omega)
     obtain ⟨H4,gH4,fH4,pH4,sH4,kH4,cH4⟩:=Kx (kn:=kn) (lo:=lo) hlo hlb (by omega) (cap:=cap) hcmp (n - a+1) L3 (a) (a+bs) (n) gz hk (by omega) (by omega) (by omega) (by omega) (hp.dom (fun k q=>q) (Nat.le_refl _)) q1H4 q2H4 q3H4 hc
     refine Zi (vs:=[.slice (some ⟨bd,0,none⟩) n cap,iv (a:Int),iv ((a:Int)+(bs:Int)),iv (n:Int),.func (.func fc) #[] caps]) rfl (by have q:=Zf fH4;rw [show ((a+bs:Nat):Int)=(a:Int)+(bs:Int) by omega] at q;exact q) ?_
     have mH4:=kH4.1
     have hk:=hk.trans kH4
     have hc:=cH4
     have hp:=hp.trans (pH4.mono (by omega) (by omega) (by omega))
     refine Zb ?_
     show Zo _ _ _ _ _ _ _ _
     have hB2:=hB.step hbs ha (by omega) (by omega) (Nat.le_refl _) pH4 sH4
     refine Za rfl<|Q2 (a:=(bs:Int)) (b:=2) rfl rfl ⟨by omega,by omega⟩<|Za rfl<|Zb ?_
     exact ⟨_,2 * bs,by unfold Bs at hbs;omega,⟨rfl,by unfold Bs at hbs ⊢;omega,_,hB2,hp,hk,hc⟩,rfl,rfl,rfl,ivq (by omega),trivial⟩
    ·have q4:¬ (((a:Int)+(bs:Int)) < (n:Int)):=of_decide_eq_false q4
     have hB2:=hB.last hbs ha han (by omega)
     first | refine Zj ?_ | skip
     show Zo _ _ _ _ _ _ _ _
     refine Za rfl<|Q2 (a:=(bs:Int)) (b:=2) rfl rfl ⟨by omega,by omega⟩<|Za rfl<|Zb ?_
     exact ⟨_,2 * bs,by unfold Bs at hbs;omega,⟨rfl,by unfold Bs at hbs ⊢;omega,_,hB2,hp,hk,hc⟩,rfl,rfl,rfl,ivq (by omega),trivial⟩
  ·have q2:¬ ((bs:Int) < (n:Int)):=of_decide_eq_false q2
   first | (refine ZC ?_;show wC _ _ _ _ _ _ _ _ _) | skip
   exact And.intro trivial (Exists.intro _ (And.intro rfl ⟨rfl,gy,hp,hB.all (by omega),hk,hc⟩))
set_option maxRecDepth 100000 in
set_option maxHeartbeats 2000000 in
theorem ZbN (hlo:lo≤H.next) {bd cap n:Nat} {v u:Nat→Int} (hlb:lo≤bd) (hn:n≤160) (hc:Cl H bd (cG (fun x=>[iv (v x),iv (u x)]) n fun i=>i)) {fc:FuncId} {caps:Array Value} {key:Nat→Int} (hcmp:JD Try.prog kn lo bd fc caps (fun x=>.agg #[iv (v x),iv (u x)]) n key H):∃ H' g',FnX Try.prog kn lo 61 [.slice (some ⟨bd,0,none⟩) n cap,.func (.func fc) #[] caps] H (.tuple #[]) H'∧PRm 0 n (fun i=>i) g'∧So key 0 n g'∧KT bd H H'∧Cl H' bd (cG (fun x=>[iv (v x),iv (u x)]) n g'):=by
 have key_:=Zp (kn:=kn) (lo:=lo) (H:=H) (args:=[.slice (some ⟨bd,0,none⟩) n cap,.func (.func fc) #[] caps]) (Q:=fun w H'=>w=.tuple #[]∧∃ g',PRm 0 n (fun i=>i) g'∧So key 0 n g'∧KT bd H H'∧Cl H' bd (cG (fun x=>[iv (v x),iv (u x)]) n g')) Try.func61 B61 N61 Z61 L61 (by simp) ?_
 ·obtain ⟨w,H',h,rfl,g',r⟩:=key_;exact ⟨H',g',h,r⟩
 have hk:=KT.refl (H:=H) hc.1
 show Zo _ _ _ _ _ _ _ _
 refine Za rfl<|Za rfl<|Yd (m:=n) rfl<|Za rfl ?_
 obtain ⟨H1,gH1,fH1,pH1,sH1,kH1,cH1⟩:=yG (kn:=kn) (lo:=lo) (H:=H) hlo hlb hn (cap:=cap) hc hcmp
 refine Zi (vs:=[.slice (some ⟨bd,0,none⟩) n cap,iv (n:Int),.func (.func fc) #[] caps]) rfl (Zf fH1) ?_
 have hk:=kH1;have hc:=cH1
 refine Zb ?_
 exact And.intro trivial (Exists.intro _ (And.intro rfl ⟨rfl,gH1,pH1,sH1,hk,hc⟩))
theorem ZaZ {cv:Value}:∃ H',FnX Try.prog kn lo 82 [.slice none 0 0,iv 0,iv 0,cv] H (.tuple #[]) H'∧Zh H H' []:=by
 have key_:=Zp (kn:=kn) (lo:=lo) (H:=H) (args:=[.slice none 0 0,iv 0,iv 0,cv]) (Q:=fun w H'=>w=.tuple #[]∧Zh H H' []) Try.func82 B82 N82 Z82 L82 (by simp) ?_
 ·obtain ⟨w,H',h,rfl,r⟩:=key_;exact ⟨H',h,r⟩
 have hk:=Zh.refl H []
 refine Zc<|Za rfl<|Zt (a:=0) (b:=1) rfl rfl ⟨by omega,by omega⟩<|Za rfl<|Zb ?_
 refine ZA (fn:=Try.f82) Zcb N82 Zci (fun _:Unit=>[(0,.slice none 0 0),(2,iv 0),(8,iv 1)])
  (fun k _ H'=>Zh H H' []) 0 () hk ⟨rfl,rfl,rfl,trivial⟩ ?_
 rintro k _ L1 hq
 have hk:=hq
 refine Zc<|Za rfl<|Za rfl<|ZB (a:=1) (b:=0) rfl rfl<|Zb<|ZK ?_
 first | (refine ZC ?_;show wC _ _ _ _ _ _ _ _ _) | skip
 exact And.intro trivial (Exists.intro _ (And.intro rfl ⟨rfl,hk⟩))
theorem zP {cv:Value}:∃ H',FnX Try.prog kn lo 77 [.slice none 0 0,iv 0,cv] H (.tuple #[]) H'∧Zh H H' []:=by
 have key_:=Zp (kn:=kn) (lo:=lo) (H:=H) (args:=[.slice none 0 0,iv 0,cv]) (Q:=fun w H'=>w=.tuple #[]∧Zh H H' []) Try.func77 B77 N77 Z77 L77 (by simp) ?_
 ·obtain ⟨w,H',h,rfl,r⟩:=key_;exact ⟨H',h,r⟩
 have hk:=Zh.refl H []
 refine Zc<|Za rfl<|Zb<|Zc<|Za rfl<|Za rfl<|Za rfl<|Zb ?_
 refine ZA (fn:=Try.f77) Zct N77 Zb5 (fun _:Unit=>[(0,.slice none 0 0),(1,iv 0),(2,cv),(6,iv 20),(7,iv 0),(8,iv 20)])
  (fun k _ H'=>Zh H H' []) 0 () hk ⟨rfl,rfl,rfl,rfl,rfl,rfl,trivial⟩ ?_
 rintro k _ L1 hq
 have hk:=hq
 refine Zc<|Za rfl<|Za rfl<|Wc (a:=20) (b:=0) rfl rfl<|Zb<|ZK ?_
 first | (refine ZC ?_;show wC _ _ _ _ _ _ _ _ _) | skip
 refine Zc<|Za rfl<|Za rfl<|Za rfl<|Za rfl ?_
 obtain ⟨H1,fH1,kH1⟩:=ZaZ (kn:=kn) (lo:=lo) (H:=L1) (cv:=cv)
 refine Zi (vs:=[.slice none 0 0,iv 0,iv 0,cv]) rfl (Zf fH1) ?_
 have mH1:=kH1.1
 have hk:=hk.trans kH1
 refine Zb ?_
 refine ZA (fn:=Try.f77) Zcm N77 Zb2 (fun _:Unit=>[(0,.slice none 0 0),(1,iv 0),(2,cv),(6,iv 20)])
  (fun k _ H'=>Zh H H' []) 0 () hk ⟨rfl,rfl,rfl,rfl,trivial⟩ ?_
 rintro k _ L2 hq
 have hk:=hq
 refine Zc<|Za rfl<|Za rfl<|ZB (a:=20) (b:=0) rfl rfl<|Zb<|ZK ?_
 first | (refine ZC ?_;show wC _ _ _ _ _ _ _ _ _) | skip
 exact And.intro trivial (Exists.intro _ (And.intro rfl ⟨rfl,hk⟩))
theorem Zbc {cv:Value}:∃ H',FnX Try.prog kn lo 61 [.slice none 0 0,cv] H (.tuple #[]) H'∧Zh H H' []:=by
 have key_:=Zp (kn:=kn) (lo:=lo) (H:=H) (args:=[.slice none 0 0,cv]) (Q:=fun w H'=>w=.tuple #[]∧Zh H H' []) Try.func61 B61 N61 Z61 L61 (by simp) ?_
 ·obtain ⟨w,H',h,rfl,r⟩:=key_;exact ⟨H',h,r⟩
 have hk:=Zh.refl H []
 show Zo _ _ _ _ _ _ _ _
 refine Za rfl<|Za rfl<|Yd (m:=0) rfl<|Za rfl ?_
 obtain ⟨H1,fH1,kH1⟩:=zP (kn:=kn) (lo:=lo) (H:=H) (cv:=cv)
 refine Zi (vs:=[.slice none 0 0,iv 0,cv]) rfl (Zf fH1) ?_
 have mH1:=kH1.1
 have hk:=hk.trans kH1
 refine Zb ?_
 exact And.intro trivial (Exists.intro _ (And.intro rfl ⟨rfl,hk⟩))
end
end
end Go.Ax

/-
 Pool: ends of spans,days compared,the window (written by program).
-/
namespace Go.Ax
open Go Go.RowKit Go.Proofs

noncomputable section
section
variable {kn:Kn} {lo:Nat} {H:Hp}
theorem Za0 (x:Int):∃ H',FnX Try.prog kn lo 78 [iv x] H (.bool false) H'∧Zh H H' []:=by
 have key:=Zp (kn:=kn) (lo:=lo) (H:=H) (args:=[iv x]) (Q:=fun w H'=>w=.bool false∧Zh H H' []) Try.func78 B78 N78 Z78 L78 (by simp) ?_
 ·obtain ⟨w,H',h,rfl,q⟩:=key;exact ⟨H',h,q⟩
 refine Zc (Za rfl (Zb (Zc (Za rfl (Za rfl (Jj rfl rfl (Za rfl (Zb ?_))))))))
 exact ⟨True.intro,[.bool (x != x)],rfl,by show Value.bool (x != x)=_;simp,Zh.refl _ _⟩
theorem Jp {a b:Int} (hlo:lo≤H.next):∃ H',FnX Try.prog kn lo 57 [.agg #[iv a,iv b]] H (iv a) H'∧Zh H H' []:=by
 have key:=Zp (kn:=kn) (lo:=lo) (H:=H) (args:=[.agg #[iv a,iv b]]) (Q:=fun w H'=>w=(iv a)∧Zh H H' []) Try.func57 B57 N57 Z57 L57 (by simp) ?_
 ·obtain ⟨w,H',h,rfl,q⟩:=key;exact ⟨H',h,q⟩
 have hk:=Zh.refl H []
 refine Zc<|Yl (v:=.agg #[iv a,iv b]) rfl ?_
 intro H1 kH1 nH1 c1
 have c1:Cl H1 H.next [iv a,iv b]:=c1
 have mH1:=kH1.1
 have hk:=hk.trans kH1
 refine Za rfl<|Zb<|Zc<|Zn (b:=H.next) (o:=0) rfl<|Zy (b:=H.next) (o:=0) (v:=iv a) rfl c1.rd rfl<|Za rfl<|Zb ?_
 exact And.intro trivial (Exists.intro _ (And.intro rfl ⟨rfl,hk⟩))
theorem QJ {a b:Int} (hlo:lo≤H.next):∃ H',FnX Try.prog kn lo 58 [.agg #[iv a,iv b]] H (iv b) H'∧Zh H H' []:=by
 have key:=Zp (kn:=kn) (lo:=lo) (H:=H) (args:=[.agg #[iv a,iv b]]) (Q:=fun w H'=>w=(iv b)∧Zh H H' []) Try.func58 B58 N58 Z58 L58 (by simp) ?_
 ·obtain ⟨w,H',h,rfl,q⟩:=key;exact ⟨H',h,q⟩
 have hk:=Zh.refl H []
 refine Zc<|Yl (v:=.agg #[iv a,iv b]) rfl ?_
 intro H1 kH1 nH1 c1
 have c1:Cl H1 H.next [iv a,iv b]:=c1
 have mH1:=kH1.1
 have hk:=hk.trans kH1
 refine Za rfl<|Zb<|Zc<|Zn (b:=H.next) (o:=0) rfl<|Zy (b:=H.next) (o:=1) (v:=iv b) rfl c1.rd rfl<|Za rfl<|Zb ?_
 exact And.intro trivial (Exists.intro _ (And.intro rfl ⟨rfl,hk⟩))
theorem YR {f:FuncId} {v:Value} {H':Hp} (hk:kn.b f=none) (h:FnX Try.prog kn lo f [] H v H') (hs:XH f=false:=by rfl):Xe Try.prog kn lo (.fn (.func f) #[]) [] H v H':=
 Y7 (by show (bif Nat.beq 0 0 then kn.b f else none)=none;rw [hk];rfl) (by simpa using h) hs
structure Tk (kn:Kn) (fid:Nat) (g:Int→Int→Int):Prop where
 sp:XH fid=false
 ok:∀ (lo:Nat) (H:Hp) (a b:Int),lo≤H.next→∃ H',FnX Try.prog kn lo fid [.agg #[iv a,iv b]] H (iv (g a b)) H'∧Zh H H' []
 bd:∀ a b:Int,a≤b→a≤g a b∧g a b≤b
def gLo:Int→Int→Int:=fun a _=>a
def gHi:Int→Int→Int:=fun _ b=>b
theorem KD:∀ a b:Int,a≤b→a≤gLo a b∧gLo a b≤b:=fun _ _ h=>⟨Int.le_refl _,h⟩
theorem UG:∀ a b:Int,a≤b→a≤gHi a b∧gHi a b≤b:=fun _ _ h=>⟨h,Int.le_refl _⟩
theorem ZbF:Tk kn 57 gLo:=⟨rfl,fun _ _ _ _ h=>Jp h,fun _ _ h=>⟨Int.le_refl _,h⟩⟩
theorem Zac:Tk kn 58 gHi:=⟨rfl,fun _ _ _ _ h=>QJ h,fun _ _ h=>⟨h,Int.le_refl _⟩⟩
theorem Qo  : ∃ H',FnX Try.prog kn lo 35 [] H (.tuple #[.func (.func 57) #[] #[],.func (.func 58) #[] #[]]) H'∧Zh H H' []:=by
 have key:=Zp (kn:=kn) (lo:=lo) (H:=H) (args:=[]) (Q:=fun w H'=>w=(.tuple #[.func (.func 57) #[] #[],.func (.func 58) #[] #[]])∧Zh H H' []) Try.func35 B35 N35 Z35 L35 (by simp) ?_
 ·obtain ⟨w,H',h,rfl,q⟩:=key;exact ⟨H',h,q⟩
 have hk:=Zh.refl H []
 refine Zc<|Za rfl<|Za rfl<|Zb<|Zc<|Za rfl<|Za rfl<|Zb ?_
 exact And.intro trivial (Exists.intro _ (And.intro rfl ⟨rfl,hk⟩))
theorem Zc5 {x y:Int}:∃ r H',FnX Try.prog kn lo 63 [iv x,iv y] H (iv r) H'∧Zh H H' []∧(r < 0↔x < y):=by
 have key:=Zp (kn:=kn) (lo:=lo) (H:=H) (args:=[iv x,iv y]) (Q:=fun w H'=>∃ r,w=iv r∧Zh H H' []∧(r < 0↔x < y)) Try.func63 B63 N63 Z63 L63 (by simp) ?_
 ·obtain ⟨w,H',h,r,rfl,q⟩:=key;exact ⟨r,H',h,q⟩
 have hk:=Zh.refl H []
 refine Zc<|Za rfl<|Zb<|Zc<|Za rfl ?_
 obtain ⟨H1,fH1,kH1⟩:=Za0 (kn:=kn) (lo:=lo) (H:=H) (x)
 refine Zi (vs:=[iv (x)]) rfl (Zf fH1) ?_
 have mH1:=kH1.1
 have hk:=hk.trans kH1
 refine Za rfl<|Zb<|Zc<|Za rfl ?_
 obtain ⟨H2,fH2,kH2⟩:=Za0 (kn:=kn) (lo:=lo) (H:=H1) (y)
 refine Zi (vs:=[iv (y)]) rfl (Zf fH2) ?_
 have mH2:=kH2.1
 have hk:=hk.trans kH2
 refine Za rfl<|Zb<|Zc<|Za rfl<|Zb<|ZK ?_
 first | refine Zj ?_ | skip
 refine Zc<|Za rfl<|Zb<|ZK ?_
 first | refine Zj ?_ | skip
 refine Zc<|Za rfl<|Za rfl<|ZB (a:=x) (b:=y) rfl rfl<|Zb ?_
 refine And.intro (fun q1=>?_) (fun q1=>?_)
 ·have q1:x < y:=of_decide_eq_true q1
  refine Zc<|Za rfl<|Zb ?_
  exact And.intro trivial (Exists.intro _ (And.intro rfl ⟨-1,rfl,hk,by omega⟩))
 ·have q1:¬ (x < y):=of_decide_eq_false q1
  first | refine Zj ?_ | skip
  refine Zc<|Za rfl<|Za rfl<|YW (a:=x) (b:=y) rfl rfl<|Zb ?_
  refine And.intro (fun q2=>?_) (fun q2=>?_)
  ·have q2:x > y:=of_decide_eq_true q2
   refine Zc<|Za rfl<|Zb ?_
   exact And.intro trivial (Exists.intro _ (And.intro rfl ⟨1,rfl,hk,by omega⟩))
  ·have q2:¬ (x > y):=of_decide_eq_false q2
   first | refine Zj ?_ | skip
   refine Zc<|Za rfl<|Zb ?_
   exact And.intro trivial (Exists.intro _ (And.intro rfl ⟨0,rfl,hk,by omega⟩))
theorem Zbh {x y u v:Int} (hlo:lo≤H.next):∃ r H',FnX Try.prog kn lo 62 [.agg #[iv x,iv u],.agg #[iv y,iv v]] H (iv r) H'∧Zh H H' []∧(r < 0↔x < y):=by
 have key:=Zp (kn:=kn) (lo:=lo) (H:=H) (args:=[.agg #[iv x,iv u],.agg #[iv y,iv v]]) (Q:=fun w H'=>∃ r,w=iv r∧Zh H H' []∧(r < 0↔x < y)) Try.func62 B62 N62 Z62 L62 (by simp) ?_
 ·obtain ⟨w,H',h,r,rfl,q⟩:=key;exact ⟨r,H',h,q⟩
 have hk:=Zh.refl H []
 refine Zc<|Yl (v:=.agg #[iv x,iv u]) rfl ?_
 intro H1 kH1 nH1 c1
 have c1:Cl H1 H.next [iv x,iv u]:=c1
 have mH1:=kH1.1
 have hk:=hk.trans kH1
 refine Yl (v:=.agg #[iv y,iv v]) rfl ?_
 intro H2 kH2 nH2 c2
 have c2:Cl H2 H1.next [iv y,iv v]:=c2
 have mH2:=kH2.1
 have hk:=hk.trans kH2
 have c1:=kH2.cl c1 (by simp)
 refine Za rfl<|Zb<|Zc<|Zn (b:=H.next) (o:=0) rfl<|Zy (b:=H.next) (o:=0) (v:=iv x) rfl c1.rd rfl<|Zn (b:=H1.next) (o:=0) rfl<|Zy (b:=H1.next) (o:=0) (v:=iv y) rfl c2.rd rfl ?_
 obtain ⟨r,H3,fH3,kH3,hr⟩:=Zc5 (kn:=kn) (lo:=lo) (H:=H2) (x:=x) (y:=y)
 refine Zi (vs:=[iv (x),iv (y)]) rfl (Zf fH3) ?_
 have mH3:=kH3.1
 have hk:=hk.trans kH3
 have c1:=kH3.cl c1 (by simp)
 have c2:=kH3.cl c2 (by simp)
 refine Za rfl<|Zb ?_
 exact And.intro trivial (Exists.intro _ (And.intro rfl ⟨r,rfl,hk,hr⟩))
theorem jM {d l:Int} (hlo:lo≤H.next):∃ H',FnX Try.prog kn lo 76 [.agg #[iv d,iv l]] H (iv l) H'∧Zh H H' []:=by
 have key:=Zp (kn:=kn) (lo:=lo) (H:=H) (args:=[.agg #[iv d,iv l]]) (Q:=fun w H'=>w=(iv l)∧Zh H H' []) Try.func76 B76 N76 Z76 L76 (by simp) ?_
 ·obtain ⟨w,H',h,rfl,q⟩:=key;exact ⟨H',h,q⟩
 have hk:=Zh.refl H []
 refine Zc<|Yl (v:=.agg #[iv d,iv l]) rfl ?_
 intro H1 kH1 nH1 c1
 have c1:Cl H1 H.next [iv d,iv l]:=c1
 have mH1:=kH1.1
 have hk:=hk.trans kH1
 refine Za rfl<|Zb<|Zc<|Zn (b:=H.next) (o:=0) rfl<|Zy (b:=H.next) (o:=1) (v:=iv l) rfl c1.rd rfl<|Za rfl<|Zb ?_
 exact And.intro trivial (Exists.intro _ (And.intro rfl ⟨rfl,hk⟩))
theorem zC {i o j:Nat} {c0 cs:List Value} {v:Value} (h:c0.drop o=cs) (hr:cs[i]? = some v) (e:j=o+i):c0[j]? = some v:=e ▸ Zbv h hr
theorem jp {m i o j:Nat} {c0 cs r:List Value} (h:c0.drop o=cs) (hr:row m cs i=some r) (e:j=o+i):row m c0 j=some r:=e ▸ j7 h hr
theorem ZcG {f:Nat} {qa:Option Addr} {n c:Nat} {xs:List Po} (hq:Qu lo f 95 H qa n c (poc xs)) (hl:xs.length=n) (hn:n≤100) (hv:Vl xs) (hlo:lo≤H.next):∃ H',FnX Try.prog kn lo 75 [.slice qa n c,.func (.func 76) #[] #[]] H (iv (ps xs)) H'∧Zh H H' []:=by
 have key:=Zp (kn:=kn) (lo:=lo) (H:=H) (args:=[.slice qa n c,.func (.func 76) #[] #[]]) (Q:=fun w H'=>w=(iv (ps xs))∧Zh H H' []) Try.func75 B75 N75 Z75 L75 (by simp) ?_
 ·obtain ⟨w,H',h,rfl,q⟩:=key;exact ⟨H',h,q⟩
 have hk:=Zh.refl H []
 refine Zc<|Za rfl<|Zb<|Zc<|Za rfl<|Zb<|Zc<|Za rfl<|Yd (m:=n) rfl<|Za rfl<|Zb ?_
 refine ZA (fn:=Try.f75) Zek N75 ZdQ (fun i:Nat=>[(1,.func (.func 76) #[] #[]),(8,.slice qa n c),(9,iv (n:Int)),(10,iv (i:Int)),(5,iv (ps (xs.take i)))])
  (fun k i H'=>i+k=n∧Zh H H' []∧Qu lo f 95 H' qa n c (poc xs)) n 0 ⟨by omega,hk,hq⟩ ⟨rfl,rfl,rfl,rfl,rfl,trivial⟩ ?_
 rintro k i L1 ⟨hik,hk,hq⟩
 have mk:=hk.1
 have hqb:=hq.blk
 refine Zc<|ZB (a:=(i:Int)) (b:=(n:Int)) rfl rfl<|Zb ?_
 refine And.intro (fun q1=>?_) (fun q1=>?_)
 ·have q1:(i:Int) < (n:Int):=of_decide_eq_true q1
  have hi:i < n:=by omega
  obtain ⟨qb,qo,q0,eq_,fq,lq,rq,dq⟩:=hq.pos (by omega)
  have hqq:=hqb qb (by rw [eq_];simp [YJ])
  have hb1:=hv _ (Xi (z:=Po.z) (l:=xs) (i:=i) (by omega))
  have hb2:=zD (l:=xs.take i) fun p hp=>(hv p (List.mem_of_mem_take hp)).1
  have hb3:=qK (l:=xs.take i) (hv.sub fun p hp=>List.mem_of_mem_take hp)
  have hb4:(xs.take i).length≤100:=by simp;omega
  first | refine Zj ?_ | skip
  refine Zc<|Z0 (b:=qb) (o:=qo) (k:=i) (j:=(i:Int)) (by rw [← eq_];rfl) rfl rfl hi<|ZP (b:=qb) (o:=qo+i * 2) rfl rq (jp dq (V6 (l:=xs) (i:=i) (by omega)) (by omega))<|Yq ?_
  intro H1 kH1 nH1 c1
  have c1:Cl H1 L1.next [iv 0,iv 0]:=c1
  have mH1:=kH1.1
  have hk:=hk.trans kH1
  have hq:=hq.keep kH1 (fun x hx=>by have:=hqb x hx;simp)
  have rq:=kH1.rd rq (by simp)
  refine Z6 (b:=L1.next) (o:=0) rfl rfl c1 (by omega) rfl rfl (by simp) ?_
  intro H2 kH2 nH2 sH2
  have mH2:=kH2.1
  have hk:=hk.new kH2 (fun b hb=>by simp at hb ⊢;omega)
  have hq:=hq.keep kH2 (fun x hx=>by have:=hqb x hx;simp;omega)
  have rq:=kH2.rd rq (by first | (simp;done) | (simp;omega))
  have c1:Cl H2 L1.next [iv ((xs.getD i Po.z).d),iv ((xs.getD i Po.z).l)]:=sH2
  refine Zb ?_
  show Zo _ _ _ _ _ _ _ _
  refine Za rfl<|Za rfl<|ZP (b:=L1.next) (o:=0) rfl c1.rd (show row 2 _ _=some [iv ((xs.getD i Po.z).d),iv ((xs.getD i Po.z).l)] from rfl) ?_
  obtain ⟨H3,fH3,kH3⟩:=jM (kn:=kn) (lo:=lo) (H:=H2) (d:=(xs.getD i Po.z).d) (l:=(xs.getD i Po.z).l) (by omega)
  refine Zi (vs:=[.agg #[iv (xs.getD i Po.z).d,iv (xs.getD i Po.z).l]]) rfl (Zf fH3) ?_
  have mH3:=kH3.1
  have hk:=hk.trans kH3
  have hq:=hq.keep kH3 (fun x hx=>by have:=hqb x hx;simp)
  have rq:=kH3.rd rq (by simp)
  have c1:=kH3.cl c1 (by simp)
  refine Zt (a:=(ps (xs.take i))) (b:=(xs.getD i Po.z).l) rfl rfl ⟨by omega,by omega⟩<|Za rfl<|Zb ?_
  show Zo _ _ _ _ _ _ _ _
  refine Zt (a:=(i:Int)) (b:=1) rfl rfl ⟨by omega,by omega⟩<|Za rfl<|Zb ?_
  exact ⟨k - 1,i+1,by omega,⟨by omega,hk,hq⟩,rfl,rfl,rfl,ivq (by omega),ivq (by rw [ZbT (by omega)]),trivial⟩
 ·have q1:¬ ((i:Int) < (n:Int)):=of_decide_eq_false q1
  refine Zc<|Za rfl<|Za rfl<|Zb ?_
  have ein:xs.take i=xs:=List.take_of_length_le (by omega)
  exact And.intro trivial (Exists.intro _ (And.intro rfl ⟨congrArg iv (by rw [ein]),hk⟩))
end
end
end Go.Ax

/-
 Pool: the window: its load,goOn,letOut (written by program).
-/
namespace Go.Ax
open Go Go.RowKit Go.Proofs

noncomputable section
theorem Zbz:ZV Try.prog 75=some (95,2):=by kernel_rfl
theorem Zdl:Ye Try.prog 95=some (.agg #[iv 0,iv 0]):=by kernel_rfl
theorem Zc9:Try.prog.underlying 75=some (.slice 95):=by kernel_rfl
theorem qc {α:Type} {z:α} {P:α→Bool}:∀ {l:List α},0 < l.length→P (l.getD 0 z)=true→(l.drop 1).dropWhile P=l.dropWhile P
 | [],h,_=>absurd h (Nat.lt_irrefl 0)
 | x :: l,_,hp=>by
  have hp:P x=true:=hp
  rw [List.dropWhile_cons_of_pos hp];rfl
theorem yB {α:Type} {z:α} {P:α→Bool}:∀ {l:List α},0 < l.length→P (l.getD 0 z)=false→l.dropWhile P=l
 | [],h,_=>absurd h (Nat.lt_irrefl 0)
 | x :: l,_,hp=>by
  have hp:P x=false:=hp
  rw [List.dropWhile_cons_of_neg (by rw [hp];simp)]
theorem jj:∀ {l:List Po},(poc l).drop (1 * 2)=poc (l.drop 1)
 | []=>rfl
 | _ :: _=>rfl
theorem qv {a b:List Po}:poc (a ++ b)=poc a ++ poc b:=by unfold poc;rw [List.flatMap_append]
def Dy (l:List Po):Prop:=∀ p,p∈l→0≤p.d∧p.d≤16384
theorem Dy.sub {a b:List Po} (h:Dy b) (k:∀ p,p∈a→p∈b):Dy a:=fun p hp=>h p (k p hp)
section
variable {kn:Kn} {lo:Nat} {H:Hp}
theorem Q9 {f wb:Nat} {qa:Option Addr} {n c:Nat} {xs:List Po} {days:Int} (cw:Cl H wb [iv days,.slice qa n c]) (hq:Qu lo f 95 H qa n c (poc xs)) (hl:xs.length=n) (hn:n≤100) (hwf:wb < f) (hlw:lo≤wb) (hlo:lo≤H.next) (hv:Vl xs):∃ H',FnX Try.prog kn lo 60 [pt wb] H (iv (ps xs)) H'∧Zh H H' []:=by
 have key:=Zp (kn:=kn) (lo:=lo) (H:=H) (args:=[pt wb]) (Q:=fun w H'=>w=(iv (ps xs))∧Zh H H' []) Try.func60 B60 N60 Z60 L60 (by simp) ?_
 ·obtain ⟨w,H',h,rfl,q⟩:=key;exact ⟨H',h,q⟩
 have hqb:=hq.blk
 have hk:=Zh.refl H []
 refine Zc<|Za rfl<|Zb<|Zc<|Za rfl<|KC (a:=⟨wb,0,none⟩) rfl<|Zn (b:=wb) (o:=0) rfl<|Zy (b:=wb) (o:=1) (v:=.slice qa n c) rfl cw.rd rfl ?_
 obtain ⟨H1,fH1,kH1⟩:=ZcG (kn:=kn) (lo:=lo) (H:=H) hq hl hn hv (by omega)
 refine Zi (vs:=[.slice qa n c,.func (.func 76) #[] #[]]) rfl (Zf fH1) ?_
 have mH1:=kH1.1
 have hk:=hk.trans kH1
 have cw:=kH1.cl cw (by simp)
 have hq:=hq.keep kH1 (fun x hx=>by have:=hqb x hx;simp)
 refine Za rfl<|Zb ?_
 exact And.intro trivial (Exists.intro _ (And.intro rfl ⟨rfl,hk⟩))
set_option maxRecDepth 100000 in
set_option maxHeartbeats 2000000 in
theorem qM {f wb:Nat} {qa:Option Addr} {n c:Nat} {xs:List Po} {days:Int} (cw:Cl H wb [iv days,.slice qa n c]) (hq:Qu lo f 95 H qa n c (poc xs)) (hl:xs.length=n) (hn:n≤100) (hwf:wb < f) (hlw:lo≤wb) (hlo:lo≤H.next) (hy:Dy xs) {D:Int} (hD:0≤D∧D≤16384) (hdy:1≤days∧days≤366):∃ H' qa' n' c',FnX Try.prog kn lo 72 [pt wb,iv D] H (.tuple #[]) H'∧Zh H H' [wb]∧Cl H' wb [iv days,.slice qa' n' c']∧Qu lo f 95 H' qa' n' c' (poc (xs.dropWhile (old (D - days))))∧(xs.dropWhile (old (D - days))).length=n'∧YJ qa'=YJ qa:=by
 have key:=Zp (kn:=kn) (lo:=lo) (H:=H) (args:=[pt wb,iv D]) (Q:=fun w H'=>w=.tuple #[]∧∃ qa' n' c',Zh H H' [wb]∧Cl H' wb [iv days,.slice qa' n' c']∧Qu lo f 95 H' qa' n' c' (poc (xs.dropWhile (old (D - days))))∧(xs.dropWhile (old (D - days))).length=n'∧YJ qa'=YJ qa) Try.func72 B72 N72 Z72 L72 (by simp) ?_
 ·obtain ⟨w,H',h,rfl,qa',n',c',r⟩:=key;exact ⟨H',qa',n',c',h,r⟩
 have hk:=Zh.refl H [wb]
 refine ZA (fn:=Try.f72) Zev N72 Zds (fun _:Unit=>[(0,pt wb),(1,iv D)])
  (fun k _ H'=>∃ q1 c1 ys,ys.length=k∧Dy ys∧ys.dropWhile (old (D - days))=xs.dropWhile (old (D - days))∧Zh H H' [wb]∧Cl H' wb [iv days,.slice q1 k c1]∧Qu lo f 95 H' q1 k c1 (poc ys)∧YJ q1=YJ qa) n () ⟨qa,c,xs,hl,hy,rfl,hk,cw,hq,rfl⟩ ⟨rfl,rfl,trivial⟩ ?_
 rintro k _ L1 ⟨q1,c1,ys,hy1,hy2,hy3,hk,cw,hq,hab⟩
 have mk:=hk.1;have hqb:=hq.blk
 have hys:=hy2
 refine Xu<|Zk rfl<|V8 (a:=⟨wb,0,none⟩) rfl<|ZH (b:=wb) (o:=0) rfl<|XA (b:=wb) (o:=1) (v:=.slice q1 k c1) rfl cw.rd rfl<|ZcR (m:=k) rfl<|zI (a:=(k:Int)) (b:=0) rfl rfl ?_
 intro t1 g1;cases t1
 ·have g1:¬ ((k:Int) > 0):=of_decide_eq_false g1
  skip
  refine Zk rfl<|YS rfl<|YS rfl<|YS rfl<|YS rfl<|YS rfl<|YS rfl<|YS rfl<|YS rfl<|YS rfl<|YS rfl<|YS rfl<|YS rfl<|YS rfl<|YS rfl<|Yy (v:=.bool false) rfl rfl ?_
  refine Yo (by repeat' first | exact True.intro | exact (fun h=>h) | refine And.intro ?_ ?_ | (intro h;have h:(_:Nat)=_:=h;omega)) ?_
  refine ZK ?_
  first | (refine ZC ?_;show wC _ _ _ _ _ _ _ _ _) | skip
  have he:ys=xs.dropWhile (old (D - days)):=by rw [← hy3];rw [List.eq_nil_of_length_eq_zero (l:=ys) (by omega)];rfl
  rw [he] at hq hy1
  exact And.intro trivial (Exists.intro _ (And.intro rfl ⟨rfl,_,_,_,hk,cw,hq,hy1,hab⟩))
 ·have g1:(k:Int) > 0:=of_decide_eq_true g1
  obtain ⟨qb,qo,q0,eq_,fq,lq,rq,dq⟩:=hq.pos (by omega);have hqq:=hqb qb (by rw [eq_];simp [YJ]);have hd0:=hy2 _ (Xi (z:=Po.z) (l:=ys) (i:=0) (by omega))
  refine Zk rfl ?_
  refine Yr rfl (Zk rfl ?_)
  refine Yr rfl (V8 (a:=⟨wb,0,none⟩) rfl ?_)
  refine Yr rfl (ZH (b:=wb) (o:=0) rfl ?_)
  refine Yr rfl (XA (b:=wb) (o:=1) (v:=.slice q1 k c1) rfl cw.rd rfl ?_)
  refine Yr rfl (Yb (b:=qb) (o:=qo) (k:=0) (j:=0) (by rw [← eq_];rfl) rfl rfl (by omega) ?_)
  refine Yr rfl (ZH (b:=qb) (o:=qo+0 * 2) rfl ?_)
  refine Yr rfl (XA (b:=qb) (o:=qo+0 * 2) (v:=iv ((ys.getD 0 Po.z).d)) rfl rq (zC dq (ZbS (l:=ys) (i:=0) (j:=0) (by omega) rfl) (by omega)) ?_)
  refine Yr rfl (Zk rfl ?_)
  refine Yr rfl (Zk rfl ?_)
  refine Yr rfl (V8 (a:=⟨wb,0,none⟩) rfl ?_)
  refine Yr rfl (ZH (b:=wb) (o:=0) rfl ?_)
  refine Yr rfl (XA (b:=wb) (o:=0) (v:=iv days) rfl cw.rd rfl ?_)
  refine Yr rfl (Wx (a:=D) (b:=days) rfl rfl ⟨by omega,by omega⟩ ?_)
  refine Yr rfl (Zaz (a:=(ys.getD 0 Po.z).d) (b:=D - days) rfl rfl ?_)
  intro t2 g2;cases t2
  ·have g2:¬ (((ys.getD 0 Po.z).d)≤(D - days)):=of_decide_eq_false g2
   have hod:old (D - days) (ys.getD 0 Po.z)=false:=decide_eq_false (by omega)
   refine Yy (v:=.bool false) rfl rfl ?_
   refine Yo (by repeat' first | exact True.intro | exact (fun h=>h) | refine And.intro ?_ ?_ | (intro h;have h:(_:Nat)=_:=h;omega)) ?_
   refine ZK ?_
   first | (refine ZC ?_;show wC _ _ _ _ _ _ _ _ _) | skip
   have he:ys=xs.dropWhile (old (D - days)):=by rw [← hy3];exact (yB (by omega) hod).symm
   rw [he] at hq hy1
   exact And.intro trivial (Exists.intro _ (And.intro rfl ⟨rfl,_,_,_,hk,cw,hq,hy1,hab⟩))
  ·have g2:((ys.getD 0 Po.z).d)≤(D - days):=of_decide_eq_true g2
   have hod:old (D - days) (ys.getD 0 Po.z)=true:=decide_eq_true (by omega)
   refine Yy (v:=.bool true) rfl rfl ?_
   refine Yo (by repeat' first | exact True.intro | exact (fun h=>h) | refine And.intro ?_ ?_ | (intro h;have h:(_:Nat)=_:=h;omega)) ?_
   refine ZN ?_
   first | refine Zj ?_ | skip
   show Zo _ _ _ _ _ _ _ _
   refine Za rfl<|Za rfl<|KC (a:=⟨wb,0,none⟩) rfl<|Zn (b:=wb) (o:=0) rfl<|Zy (b:=wb) (o:=1) (v:=.slice q1 k c1) rfl cw.rd rfl ?_
   obtain ⟨i95,hi95,hs95⟩:=ZeU
   obtain ⟨q2,c2,b2,hs2,hb2,hq2,hab2⟩:=Uz (lo:=lo) (k:=1) (j:=1) Zc9 hi95 hs95 (by omega) hq (by rw [Kz,hy1]) rfl (by omega) (by omega)
   refine YD (k:=.read b2) rfl (by kernel_rfl) (hs2 _ _ _ _ _ _ _ rfl rfl) (fun b e=>by cases e;exact hb2) ?_
   have hq:=hq2;have hqb:=hq.blk
   refine KC (a:=⟨wb,0,none⟩) rfl<|Zn (b:=wb) (o:=0) rfl<|Zcp (b:=wb) (o:=1) rfl rfl cw (by omega) rfl rfl (by simp) ?_
   intro H1 kH1 nH1 sH1
   have mH1:=kH1.1
   have hk:=hk.trans kH1
   have hq:=hq.keep kH1 (fun x hx=>by have:=hqb x hx;simp;omega)
   have rq:=kH1.rd rq (by first | (simp;done) | (simp;omega))
   have cw:Cl H1 wb [iv days,.slice q2 (k - 1) c2]:=sH1
   refine Zb ?_
   exact ⟨k - 1,(),by omega,⟨q2,c2,ys.drop 1,by rw [List.length_drop,hy1],hy2.sub fun p hp=>List.mem_of_mem_drop hp,by rw [qc (by omega) hod,hy3],hk,cw,by rw [← jj];exact hq,hab2.trans hab⟩,rfl,rfl,trivial⟩
set_option maxRecDepth 100000 in
set_option maxHeartbeats 2000000 in
theorem UU {f wb:Nat} {qa:Option Addr} {n c:Nat} {xs:List Po} {days:Int} (cw:Cl H wb [iv days,.slice qa n c]) (hq:Qu lo f 95 H qa n c (poc xs)) (hl:xs.length=n) (hn:n≤100) (hwf:wb < f) (hlw:lo≤wb) (hlo:lo≤H.next) (hy:Dy xs) (hfH:f≤H.next) {p:Po} (hD:0≤p.d∧p.d≤16384) (hdy:1≤days∧days≤366):∃ H' qa' n' c',FnX Try.prog kn lo 59 [pt wb,.agg (Po.f p).toArray] H (.tuple #[]) H'∧Zh H H' (wb :: YJ qa)∧Cl H' wb [iv days,.slice qa' n' c']∧Qu lo f 95 H' qa' n' c' (poc (xs.dropWhile (old (p.d - days)) ++ [p]))∧(xs.dropWhile (old (p.d - days)) ++ [p]).length=n'∧∀ x,x∈YJ qa'→H.next≤x:=by
 have key:=Zp (kn:=kn) (lo:=lo) (H:=H) (args:=[pt wb,.agg (Po.f p).toArray]) (Q:=fun w H'=>w=.tuple #[]∧∃ qa' n' c',Zh H H' (wb :: YJ qa)∧Cl H' wb [iv days,.slice qa' n' c']∧Qu lo f 95 H' qa' n' c' (poc (xs.dropWhile (old (p.d - days)) ++ [p]))∧(xs.dropWhile (old (p.d - days)) ++ [p]).length=n'∧∀ x,x∈YJ qa'→H.next≤x) Try.func59 B59 N59 Z59 L59 (by simp) ?_
 ·obtain ⟨w,H',h,rfl,qa',n',c',r⟩:=key;exact ⟨H',qa',n',c',h,r⟩
 have hk:=Zh.refl H (wb :: YJ qa)
 have hqb:=hq.blk
 refine Zc<|Yl (v:=.agg (Po.f p).toArray) rfl ?_
 intro H1 kH1 nH1 c1
 have c1:Cl H1 H.next [iv p.d,iv p.l]:=c1
 have mH1:=kH1.1
 have hk:=hk.trans (kH1.mono (by simp))
 have cw:=kH1.cl cw (by simp)
 have hq:=hq.keep kH1 (fun x hx=>by have:=hqb x hx;simp)
 refine Zb<|Zc<|Za rfl<|Zn (b:=H.next) (o:=0) rfl<|Zy (b:=H.next) (o:=0) (v:=iv p.d) rfl c1.rd rfl ?_
 obtain ⟨H2,q1,n1,cc1,fH2,kH2,cw,hq,hl1,hab⟩:=qM (kn:=kn) (lo:=lo) (H:=H1) cw hq hl hn hwf hlw (by omega) hy (D:=p.d) (by omega) hdy
 refine Zi (vs:=[pt wb,iv p.d]) rfl (Zf fH2) ?_
 have hk:=hk.new kH2 (fun x hx=>.inl (by simp at hx;subst hx;simp))
 have mH2:=kH2.1
 have c1:=kH2.cl c1 (by first | (simp;done) | (simp;omega))
 have hqb:=hq.blk
 have hn1:n1≤100:=by rw [← hl1];exact Nat.le_trans (List.dropWhile_suffix _).length_le (by omega)
 refine Zb ?_
 first | refine YM ?_ | (refine XS ?_;refine YM ?_)
 refine Zk rfl<|Zk rfl<|V8 (a:=⟨wb,0,none⟩) rfl<|ZH (b:=wb) (o:=0) rfl<|XA (b:=wb) (o:=1) (v:=.slice q1 n1 cc1) rfl cw.rd rfl<|ZU (b:=H.next) (o:=0) rfl c1.rd (show row 2 _ _=some [iv p.d,iv p.l] from rfl) ?_
 obtain ⟨H3,hH3⟩:∃ H3,H2.new (.cells [iv p.d,iv p.l] 95 false)=H3:=⟨_,rfl⟩
 refine UC (H':=H3) (k:=.heavy) rfl (by kernel_rfl) ((Xz (v:=.agg (Po.f p).toArray) Zbz Zdl rfl rfl rfl (by decide)).trans (by rw [← hH3];rfl)) (fun b e=>by cases e) ?_
 obtain ⟨kH3,nH3,c3⟩:=Yg hH3;clear hH3
 have c3:Cl H3 H2.next [iv p.d,iv p.l]:=c3
 have mH3:=kH3.1
 have c1:=kH3.cl c1 (by simp)
 have hk:=hk.trans (kH3.mono (by simp))
 have cw:=kH3.cl cw (by simp)
 have hq:=hq.keep kH3 (fun x hx=>by have:=hqb x hx;simp)
 obtain ⟨H4,kdH4,eH4,dH4,aH4,kbH4⟩:=VD (P:=Try.prog) (lo:=lo) (t1:=75) Zbz Zc9 (c3.sl (Nat.le_refl 1)) rfl (by decide) rfl (by rw [Kz,hl1]) (by omega) hq (by omega) (f:=f) (by omega)
 refine UC (k:=kdH4) rfl (by kernel_rfl) (eH4 _ _ _ _ _ _ _ rfl rfl) (by intro x hx;rcases dH4 with q | ⟨bH4,q,_⟩<;>rw [q] at hx<;>cases hx) ?_
 have mH4:=kbH4.1
 have hk:=hk.new kbH4 (fun x hx=>.inl (by rw [hab] at hx;simp [hx]))
 have cw:=kbH4.cl cw (fun hx=>by have:=hqb _ hx;omega)
 have hq:=aH4
 have hqb:∀ x,x∈YJ (some (⟨H3.next,0,none⟩:Addr))→f≤x∧lo≤x∧x < H4.next:=hq.blk
 have hfresh:H.next≤H3.next:=by omega
 refine V8 (a:=⟨wb,0,none⟩) rfl<|ZH (b:=wb) (o:=0) rfl<|Zbb (b:=wb) (o:=1) rfl rfl cw (by omega) rfl rfl (by simp) ?_
 intro H5 kH5 nH5 sH5
 have mH5:=kH5.1
 have hk:=hk.new kH5 (fun x hx=>.inl (by simp at hx;subst hx;simp))
 have hq:=hq.keep kH5 (fun x hx=>by have:=hqb x hx;simp;omega)
 have cw:Cl H5 wb [iv days,.slice (some ⟨H3.next,0,none⟩) (n1+1) (n1+1)]:=sH5
 refine Yo (by rcases dH4 with rfl | ⟨bH4,rfl,hbH4,hcH4⟩<;>repeat' first | exact True.intro | exact (fun h=>h) | refine And.intro ?_ ?_ | (intro h;have h:(_:Nat)=_:=h;omega)) ?_
 exact And.intro trivial (Exists.intro _ (And.intro rfl ⟨rfl,_,_,_,hk,cw,by rw [qv];exact hq,by rw [List.length_append,hl1];rfl,fun x hx=>by simp [YJ] at hx;omega⟩))
end
end
end Go.Ax

/-
 Pool: portions by rising day (written by program).
-/
namespace Go.Ax
open Go Go.RowKit Go.Proofs

noncomputable section
def poD (g:Int→Int→Int) (d:Dc):Po:=⟨d.d,g d.wl d.wh * g d.cl d.ch⟩
def prt (g:Int→Int→Int) (ds:List Dc):List Po:=ds.map (poD g)
theorem Zx {g:Int→Int→Int} {ds:List Dc}:(prt g ds).length=ds.length:=by simp [prt]
theorem ZL {g:Int→Int→Int} {ds:List Dc} {i:Nat} (h:i < ds.length):(prt g ds).getD i Po.z=poD g (ds.getD i Dc.z):=by
 simp [prt,List.getD_eq_getElem?_getD,h]
theorem XM {x y X Y:Int} (h1:0≤x) (h2:x≤X) (h3:0≤y) (h4:y≤Y):0≤x * y∧x * y≤X * Y:=
 ⟨Int.mul_nonneg h1 h3,Int.mul_le_mul h2 h4 h3 (by omega)⟩
theorem Wj {α:Type} {z:α} {l:List α} {P:α→Prop} (h:∀ x,x∈l→P x) {i:Nat} (hi:i < l.length):P (l.getD i z):=h _ (Xi hi)
theorem VJ {α:Type} {l:List α} {p:α→Bool} (h:l.any p=false):∀ x,x∈l→p x=false:=by
 rw [List.any_eq_false] at h
 intro x hx
 simpa using h x hx
theorem Qv {g:Int→Int→Int} (hg:∀ a b:Int,a≤b→a≤g a b∧g a b≤b) {d:Dc} (h:YI d=false):0≤g d.wl d.wh * g d.cl d.ch∧g d.wl d.wh * g d.cl d.ch≤107374182400000:=by
 obtain ⟨_,⟨h1,h2,h3⟩,h4,h5,h6⟩:=KK h
 have a:=hg d.wl d.wh h2
 have b:=hg d.cl d.ch h5
 have:=XM (x:=g d.wl d.wh) (y:=g d.cl d.ch) (X:=1073741824) (Y:=100000) (by omega) (by omega) (by omega) (by omega)
 omega
theorem U8 {g:Int→Int→Int} (hg:∀ a b:Int,a≤b→a≤g a b∧g a b≤b) {ds:List Dc} (h:∀ d,d∈ds→YI d=false):Vl (prt g ds):=by
 intro p hp
 obtain ⟨d,hd,rfl⟩:=List.mem_map.1 hp
 have:=Qv hg (h d hd)
 show 0≤_ * _∧_ * _≤_
 omega
theorem V4 {g:Int→Int→Int} {ds:List Dc} (h:∀ d,d∈ds→YI d=false):Dy (prt g ds):=by
 intro p hp
 obtain ⟨d,hd,rfl⟩:=List.mem_map.1 hp
 exact (KK (h d hd)).1
theorem Zb6 {l:List Po} {n:Nat} {g:Nat→Nat}:cG (fun x=>[iv (l.getD x Po.z).d,iv (l.getD x Po.z).l]) n g=poc ((List.range n).map fun i=>l.getD (g i) Po.z):=by
 unfold cG poc
 rw [List.flatMap_map,List.flatMap_map];rfl
theorem Jt {α:Type} {l:List α} {z:α}:((List.range l.length).map fun i=>l.getD i z)=l:=by
 refine List.ext_getElem? fun i=>?_
 rcases Nat.lt_or_ge i l.length with q | q
 ·simp [q]
 ·simp [q]
theorem js {l:List Po} {g:Nat→Nat} (p:PRm 0 l.length (fun i=>i) g) (s:So (fun x=>(l.getD x Po.z).d) 0 l.length g):((List.range l.length).map fun i=>l.getD (g i) Po.z).Perm l∧Srt ((List.range l.length).map fun i=>l.getD (g i) Po.z):=by
 constructor
 ·have h:=p.perm.map fun x=>l.getD x Po.z
  unfold rg at h
  rw [Nat.sub_zero,← List.range_eq_range',List.map_map,List.map_map] at h
  have e:(List.range l.length).map ((fun x=>l.getD x Po.z) ∘ fun i=>i)=l:=Jt
  rw [e] at h
  exact h
 ·unfold Srt
  rw [List.pairwise_iff_getElem]
  intro i j hi hj hij
  simp only [List.length_map,List.length_range] at hi hj
  simp only [List.getElem_map,List.getElem_range]
  exact s.le (Nat.zero_le i) (Nat.le_of_lt hij) hj
section
variable {kn:Kn} {lo:Nat} {H:Hp}
set_option maxRecDepth 100000 in
set_option maxHeartbeats 2000000 in
theorem Wv {ds:List Dc} {sa:Option Addr} {n cap:Nat} (hs:Sl H sa n cap (dcc ds)) (hl:ds.length=n) (hn:n≤100) (hbd:∀ d,d∈ds→YI d=false) (hlo:lo≤H.next) {fid:Nat} {g:Int→Int→Int} (htk:Tk kn fid g):∃ a c qs H',FnX Try.prog kn lo 37 [.slice sa n cap,.func (.func fid) #[] #[]] H (.slice a n c) H'∧Zh H H' []∧Sl H' a n c (poc qs)∧qs.Perm (prt g ds)∧Srt qs∧∀ b,a=some ⟨b,0,none⟩→H.next≤b:=by
 have key:=Zp (kn:=kn) (lo:=lo) (H:=H) (args:=[.slice sa n cap,.func (.func fid) #[] #[]]) (Q:=fun w H'=>∃ a c qs,w=.slice a n c∧Zh H H' []∧Sl H' a n c (poc qs)∧qs.Perm (prt g ds)∧Srt qs∧∀ b,a=some ⟨b,0,none⟩→H.next≤b) Try.func37 B37 N37 Z37 L37 (by simp) ?_
 ·obtain ⟨w,H',h,a,c,qs,rfl,r⟩:=key;exact ⟨a,c,qs,H',h,r⟩
 have hk:=Zh.refl H []
 have fs:=hs.old
 refine Zc<|Za rfl<|Zb<|Zc<|Za rfl<|Zb<|Zc<|Za rfl<|Yd (m:=n) rfl<|Za rfl<|Zb ?_
 refine ZA (fn:=Try.f37) Zd1 N37 Zdk (fun z:Nat × Value=>[(1,.func (.func fid) #[] #[]),(5,z.2),(8,.slice sa n cap),(9,iv (n:Int)),(10,iv (z.1:Int))])
  (fun k z H'=>z.1+k=n∧Zh H H' []∧Sl H' sa n cap (dcc ds)∧Acc lo H.next 95 H' z.2 z.1 (poc ((prt g ds).take z.1))) n (0,.slice none 0 0) ⟨by simp,hk,hs,.inl ⟨rfl,rfl,rfl⟩⟩ ⟨rfl,rfl,rfl,rfl,rfl,trivial⟩ ?_
 rintro k ⟨i,wv⟩ L1 ⟨hik,hk,hs,hacc⟩
 simp only [] at hik hacc
 have mk:=hk.1;have kacc:=Zh.refl L1 []
 refine Zc<|ZB (a:=(i:Int)) (b:=(n:Int)) rfl rfl<|Zb ?_
 refine And.intro (fun q1=>?_) (fun q1=>?_)
 ·have q1:(i:Int) < (n:Int):=of_decide_eq_true q1
  have hi:i < n:=by omega
  rcases id hs with ⟨_,h0s,_⟩ | ⟨sb,es,rs,_⟩
  ·omega
  have ls:=rs.1
  have lsb2:=fs sb es
  have hbi:=Wj (z:=Dc.z) hbd (show i < ds.length by omega);have hmul:=Qv htk.bd hbi
  first | refine Zj ?_ | skip
  refine Zc<|Z0 (b:=sb) (o:=0) (k:=i) (j:=(i:Int)) (by rw [← es];rfl) rfl rfl hi<|ZP (b:=sb) (o:=0+i * 5) rfl rs (Uk (by omega))<|Yq ?_
  intro H1 kH1 nH1 c1
  have c1:Cl H1 L1.next [iv 0,iv 0,iv 0,iv 0,iv 0]:=c1
  have mH1:=kH1.1
  have hk:=hk.trans kH1
  have hs:=kH1.sl0 hs
  have kacc:=kacc.trans kH1
  have rs:=kH1.rd rs (by simp)
  refine Z6 (b:=L1.next) (o:=0) rfl rfl c1 (by omega) rfl rfl (by simp) ?_
  intro H2 kH2 nH2 sH2
  have mH2:=kH2.1
  have hk:=hk.new kH2 (fun b hb=>by simp at hb ⊢;omega)
  have hs:=kH2.sl hs (fun b e=>by have:=fs b e;first | (simp;done) | (simp;omega))
  have kacc:=kacc.new kH2 (fun b hb=>by simp at hb ⊢;omega)
  have rs:=kH2.rd rs (by first | (simp;done) | (simp;omega))
  have c1:Cl H2 L1.next [iv ((ds.getD i Dc.z).d),iv ((ds.getD i Dc.z).wl),iv ((ds.getD i Dc.z).wh),iv ((ds.getD i Dc.z).cl),iv ((ds.getD i Dc.z).ch)]:=sH2
  refine Zb ?_
  first | refine YM ?_ | refine WN ?_ | refine V1 ?_ | (refine XS ?_;refine YM ?_)
  refine Zk rfl<|ZH (b:=L1.next) (o:=0) rfl<|XA (b:=L1.next) (o:=0) (v:=iv ((ds.getD i Dc.z).d)) rfl c1.rd rfl<|Zk rfl<|ZH (b:=L1.next) (o:=0) rfl<|ZU (b:=L1.next) (o:=1) rfl c1.rd (show row 2 _ _=some [iv ((ds.getD i Dc.z).wl),iv ((ds.getD i Dc.z).wh)] from rfl) ?_
  obtain ⟨H3,fH3,kH3⟩:=htk.ok H2.next H2 ((ds.getD i Dc.z).wl) ((ds.getD i Dc.z).wh) (Nat.le_refl _)
  refine YP (vs:=[.agg #[iv ((ds.getD i Dc.z).wl),iv ((ds.getD i Dc.z).wh)]]) rfl rfl (Zf fH3 htk.sp) ?_
  have mH3:=kH3.1
  have hk:=hk.trans kH3
  have hs:=kH3.sl0 hs
  have kacc:=kacc.trans kH3
  have rs:=kH3.rd rs (by simp)
  have c1:=kH3.cl c1 (by simp)
  refine Zk rfl<|ZH (b:=L1.next) (o:=0) rfl<|ZU (b:=L1.next) (o:=3) rfl c1.rd (show row 2 _ _=some [iv ((ds.getD i Dc.z).cl),iv ((ds.getD i Dc.z).ch)] from rfl) ?_
  obtain ⟨H4,fH4,kH4⟩:=htk.ok H3.next H3 ((ds.getD i Dc.z).cl) ((ds.getD i Dc.z).ch) (Nat.le_refl _)
  refine YP (vs:=[.agg #[iv ((ds.getD i Dc.z).cl),iv ((ds.getD i Dc.z).ch)]]) rfl rfl (Zf fH4 htk.sp) ?_
  have mH4:=kH4.1
  have hk:=hk.trans kH4
  have hs:=kH4.sl0 hs
  have kacc:=kacc.trans kH4
  have rs:=kH4.rd rs (by simp)
  have c1:=kH4.cl c1 (by simp)
  refine Va (a:=g ((ds.getD i Dc.z).wl) ((ds.getD i Dc.z).wh)) (b:=g ((ds.getD i Dc.z).cl) ((ds.getD i Dc.z).ch)) rfl rfl ⟨by omega,by omega⟩<|Yy (v:=.agg #[iv ((ds.getD i Dc.z).d),iv ((g ((ds.getD i Dc.z).wl) ((ds.getD i Dc.z).wh)) * (g ((ds.getD i Dc.z).cl) ((ds.getD i Dc.z).ch)))]) rfl (by kernel_rfl) ?_
  obtain ⟨H5,hH5⟩:∃ H5,H4.new (.cells [iv ((ds.getD i Dc.z).d),iv ((g ((ds.getD i Dc.z).wl) ((ds.getD i Dc.z).wh)) * (g ((ds.getD i Dc.z).cl) ((ds.getD i Dc.z).ch)))] 95 false)=H5:=⟨_,rfl⟩
  refine UC (H':=H5) (k:=.heavy) rfl (by kernel_rfl) ((Xz (v:=.agg #[iv ((ds.getD i Dc.z).d),iv ((g ((ds.getD i Dc.z).wl) ((ds.getD i Dc.z).wh)) * (g ((ds.getD i Dc.z).cl) ((ds.getD i Dc.z).ch)))]) Zbz Zdl rfl rfl rfl (by decide)).trans (by rw [← hH5];rfl)) (fun b e=>by cases e) ?_
  obtain ⟨kH5,nH5,c5⟩:=Yg hH5;clear hH5
  have c5:Cl H5 H4.next [iv ((ds.getD i Dc.z).d),iv ((g ((ds.getD i Dc.z).wl) ((ds.getD i Dc.z).wh)) * (g ((ds.getD i Dc.z).cl) ((ds.getD i Dc.z).ch)))]:=c5
  have mH5:=kH5.1
  have hk:=hk.trans kH5
  have hs:=kH5.sl0 hs
  have kacc:=kacc.trans kH5
  have rs:=kH5.rd rs (by simp)
  have c1:=kH5.cl c1 (by simp)
  obtain ⟨H6,kdH6,eH6,dH6,aH6,kbH6⟩:=V7 (P:=Try.prog) (lo:=lo) (k:=i) (t1:=75) Zbz Zc9 (c5.sl (Nat.le_refl 1)) rfl (by decide) rfl (by rw [Kz,List.length_take,Zx];omega) (by omega) (hacc.keep kacc) (by omega) (by omega)
  refine UC (k:=kdH6) rfl (by cases wv<;>kernel_rfl) (eH6 _ _ _ _ _ _ _ rfl rfl) (Za2 dH6 _) ?_
  have hk:=kbH6.keep hk (by omega)
  have hs:=kbH6.sl hs (fun b e=>by have:=fs b e;omega)
  have mH6:=kbH6.1
  refine Zk rfl ?_
  refine Yo (by rcases dH6 with rfl | ⟨bH6,rfl,hbH6⟩<;>repeat' first | exact True.intro | exact (fun h=>h) | refine And.intro ?_ ?_ | (intro h;have h:(_:Nat)=_:=h;omega)) ?_
  show Zo _ _ _ _ _ _ _ _
  refine Zt (a:=(i:Int)) (b:=1) rfl rfl ⟨by omega,by omega⟩<|Za rfl<|Zb ?_
  have hU:(prt g ds).take (i+1)=(prt g ds).take i ++ [poD g (ds.getD i Dc.z)]:=by rw [Xd (z:=Po.z) (by rw [Zx];omega),ZL (by omega)]
  have hacc2:Acc lo H.next 95 H6 (.slice (some ⟨H5.next,0,none⟩) (i+1) (i+1)) (i+1) (poc ((prt g ds).take (i+1))):=by rw [hU,qv];exact aH6
  exact ⟨k - 1,(i+1,_),by omega,⟨by simp only [];omega,hk,hs,hacc2⟩,rfl,rfl,rfl,rfl,rfl,trivial⟩
 ·have q1:¬ ((i:Int) < (n:Int)):=of_decide_eq_false q1
  have ein:i=n:=by omega
  rw [ein,← hl,← Zx (g:=g),List.take_length,Zx,hl] at hacc
  rcases hacc with ⟨q0,q1,rfl⟩ | ⟨bd,rfl,q0,q1,q2,q3,q4⟩
  ·have hd0:ds=[]:=List.eq_nil_of_length_eq_zero (by omega)
   first | (refine ZC ?_;show wC _ _ _ _ _ _ _ _ _) | skip
   refine Zc<|Za rfl ?_
   obtain ⟨H7,fH7,kH7⟩:=Zbc (kn:=kn) (lo:=lo) (H:=L1) (cv:=.func (.func 62) #[] #[])
   refine Zi (vs:=[.slice none 0 0,.func (.func 62) #[] #[]]) rfl (Zf fH7) ?_
   have mH7:=kH7.1
   have hk:=hk.trans kH7
   have hs:=kH7.sl0 hs
   have kacc:=kacc.trans kH7
   refine Zb<|Zc<|Za rfl<|Za rfl<|Zb ?_
   exact And.intro trivial (Exists.intro _ (And.intro rfl ⟨none,0,[],by rw [show n=0 by omega];rfl,hk,.inl ⟨.inl rfl,by omega,rfl,rfl⟩,by rw [hd0];exact .refl _,List.Pairwise.nil,fun b e=>by cases e⟩))
  ·first | (refine ZC ?_;show wC _ _ _ _ _ _ _ _ _) | skip
   refine Zc<|Za rfl ?_
   have hpl:(prt g ds).length=n:=by rw [Zx,hl]
   have hcc:Cl L1 bd (cG (fun x=>[iv ((prt g ds).getD x Po.z).d,iv ((prt g ds).getD x Po.z).l]) n fun i=>i):=by rw [Zb6,← hpl,Jt];exact ⟨q3,_,_,q4⟩
   have hcmp:JD Try.prog kn lo bd 62 #[] (fun x=>.agg #[iv ((prt g ds).getD x Po.z).d,iv ((prt g ds).getD x Po.z).l]) n (fun x=>((prt g ds).getD x Po.z).d) L1:=fun H1 k1 x y _ _=>by have:=k1.1;obtain ⟨r,H2,h1,h2,h3⟩:=Zbh (kn:=kn) (lo:=lo) (H:=H1) (x:=((prt g ds).getD x Po.z).d) (y:=((prt g ds).getD y Po.z).d) (u:=((prt g ds).getD x Po.z).l) (v:=((prt g ds).getD y Po.z).l) (by omega);exact ⟨r,H2,Zf h1,h2,h3⟩
   obtain ⟨H8,gH8,fH8,pH8,sH8,kH8,cH8⟩:=ZbN (kn:=kn) (lo:=lo) (H:=L1) (by omega) (cap:=n) (by omega) (by omega) hcc hcmp
   refine Zi (vs:=[.slice (some ⟨bd,0,none⟩) n n,.func (.func 62) #[] #[]]) rfl (Zf fH8) ?_
   have hk:=hk.new kH8.kp (fun x hx=>.inr (by simp at hx;omega))
   refine Zb<|Zc<|Za rfl<|Za rfl<|Zb ?_
   have hso:=js (l:=prt g ds) (g:=gH8) (by rw [hpl];exact pH8) (by rw [hpl];exact sH8)
   rw [hpl] at hso
   rw [Zb6] at cH8
   exact And.intro trivial (Exists.intro _ (And.intro rfl ⟨_,n,_,rfl,hk,.inr ⟨bd,rfl,cH8.rd,Nat.le_refl _⟩,hso.1,hso.2,fun b e=>by cases e;omega⟩))
end
end
end Go.Ax

/-
 Pool: firstAbove,greatestFrom,Passed (written by program).
-/
namespace Go.Ax
open Go Go.RowKit Go.Proofs

noncomputable section
section
variable {kn:Kn} {lo:Nat} {H:Hp}
set_option maxRecDepth 100000 in
set_option maxHeartbeats 2000000 in
theorem VS {qs:List Po} {sa:Option Addr} {n cap:Nat} {days:Int} (hs:Sl H sa n cap (poc qs)) (hl:qs.length=n) (hn:n≤90) (hv:Vl qs) (hy:Dy qs) (hdy:1≤days∧days≤366) (hlo:lo≤H.next) {limit:Int}:∃ r H',FnX Try.prog kn lo 36 [.slice sa n cap,iv days,iv limit] H (iv r) H'∧Zh H H' []∧Fa qs days limit r:=by
 have key:=Zp (kn:=kn) (lo:=lo) (H:=H) (args:=[.slice sa n cap,iv days,iv limit]) (Q:=fun w H'=>∃ r,w=iv r∧Zh H H' []∧Fa qs days limit r) Try.func36 B36 N36 Z36 L36 (by simp) ?_
 ·obtain ⟨w,H',h,r,rfl,q⟩:=key;exact ⟨r,H',h,q⟩
 have hk:=Zh.refl H []
 have fs:=hs.old
 refine Zc<|Za rfl<|Zb<|Zc<|Za rfl<|Zd (v:=.agg #[iv days,.slice none 0 0]) rfl (by kernel_rfl)<|Yq ?_
 intro H1 kH1 nH1 c1
 have c1:Cl H1 H.next [iv 0,.slice none 0 0]:=c1
 have mH1:=kH1.1
 have hk:=hk.trans kH1
 have hs:=kH1.sl0 hs
 refine Z6 (b:=H.next) (o:=0) rfl rfl c1 (by omega) rfl rfl (by simp) ?_
 intro H2 kH2 nH2 sH2
 have mH2:=kH2.1
 have hk:=hk.new kH2 (fun b hb=>by simp at hb ⊢;omega)
 have hs:=kH2.sl hs (fun b e=>by have:=fs b e;first | (simp;done) | (simp;omega))
 have c1:Cl H2 H.next [iv days,.slice none 0 0]:=sH2
 refine Zb<|Zc<|Za rfl<|Yd (m:=n) rfl<|Za rfl<|Zb ?_
 refine ZA (fn:=Try.f36) Zej N36 Zdq (fun i:Nat=>[(1,iv days),(2,iv limit),(7,pt H.next),(12,.slice sa n cap),(13,iv (n:Int)),(14,iv (i:Int))])
  (fun k i H'=>i+k=n∧Zh H H' []∧H.next < H'.next∧Sl H' sa n cap (poc qs)∧(∃ q1 c1,Cl H' H.next [iv days,.slice q1 (win qs days i).length c1]∧Qu lo (H.next+1) 95 H' q1 (win qs days i).length c1 (poc (win qs days i)))∧∀ j,j < i→ps (win qs days (j+1))≤limit) n 0 ⟨by omega,hk,by omega,hs,⟨none,0,c1,Qu.nil⟩,fun j h=>absurd h (Nat.not_lt_zero j)⟩ ⟨rfl,rfl,rfl,rfl,rfl,rfl,trivial⟩ ?_
 rintro k i L1 ⟨hik,hk,hnx,hs,⟨q1,c1,cw,hq⟩,hall⟩
 have mk:=hk.1;have hqb:=hq.blk
 have hws:=Us (qs:=qs) (days:=days) (i:=i) (by omega);have hwl:=hws.2
 refine Zc<|ZB (a:=(i:Int)) (b:=(n:Int)) rfl rfl<|Zb ?_
 refine And.intro (fun q1=>?_) (fun q1=>?_)
 ·have q1:(i:Int) < (n:Int):=of_decide_eq_true q1
  have hi:i < n:=by omega
  rcases id hs with ⟨_,h0s,_⟩ | ⟨sb,es,rs,_⟩
  ·omega
  have ls:=rs.1
  have lsb2:=fs sb es
  have hvi:=Wj (z:=Po.z) hv (show i < qs.length by omega);have hyi:=Wj (z:=Po.z) hy (show i < qs.length by omega)
  first | refine Zj ?_ | skip
  refine Zc<|Z0 (b:=sb) (o:=0) (k:=i) (j:=(i:Int)) (by rw [← es];rfl) rfl rfl hi<|ZP (b:=sb) (o:=0+i * 2) rfl rs (V6 (by omega))<|Yq ?_
  intro H3 kH3 nH3 c3
  have c3:Cl H3 L1.next [iv 0,iv 0]:=c3
  have mH3:=kH3.1
  have hk:=hk.trans kH3
  have hs:=kH3.sl0 hs
  have cw:=kH3.cl cw (by simp)
  have hq:=hq.keep kH3 (fun x hx=>by have:=hqb x hx;simp)
  have rs:=kH3.rd rs (by simp)
  refine Z6 (b:=L1.next) (o:=0) rfl rfl c3 (by omega) rfl rfl (by simp) ?_
  intro H4 kH4 nH4 sH4
  have mH4:=kH4.1
  have hk:=hk.new kH4 (fun b hb=>by simp at hb ⊢;omega)
  have hs:=kH4.sl hs (fun b e=>by have:=fs b e;first | (simp;done) | (simp;omega))
  have cw:=kH4.cl cw (by first | (simp;done) | (simp;omega))
  have hq:=hq.keep kH4 (fun x hx=>by have:=hqb x hx;simp;omega)
  have rs:=kH4.rd rs (by first | (simp;done) | (simp;omega))
  have c3:Cl H4 L1.next [iv ((qs.getD i Po.z).d),iv ((qs.getD i Po.z).l)]:=sH4
  refine Zb<|Zc<|ZP (b:=L1.next) (o:=0) rfl c3.rd (show row 2 _ _=some [iv ((qs.getD i Po.z).d),iv ((qs.getD i Po.z).l)] from rfl) ?_
  obtain ⟨H5,q2,n2,c2,fH5,kH5,cw,hq,hl2,hfr⟩:=UU (kn:=kn) (lo:=lo) (H:=H4) cw hq rfl (by omega) (by omega) (by omega) (by omega) (hy.sub hws.1) (by omega) (p:=(qs.getD i Po.z)) hyi hdy
  refine Zi (vs:=[pt H.next,.agg (Po.f (qs.getD i Po.z)).toArray]) rfl (Zf fH5) ?_
  have hk:=hk.new kH5 (fun x hx=>.inr (by rcases List.mem_cons.1 hx with e | hx;omega;(have:=hqb _ hx;omega)))
  have hs:=kH5.sl hs (fun x e0 hx=>by have:=fs x e0;rcases List.mem_cons.1 hx with e | hx;omega;(have:=hqb _ hx;omega))
  have rs:=kH5.rd rs (fun hx=>by rcases List.mem_cons.1 hx with e | hx;omega;(have:=hqb _ hx;omega))
  have c3:=kH5.cl c3 (fun hx=>by rcases List.mem_cons.1 hx with e | hx;omega;(have:=hqb _ hx;omega))
  have mH5:=kH5.1
  subst hl2
  have cw:Cl H5 H.next [iv days,.slice q2 (win qs days (i+1)).length c2]:=cw
  have hq:Qu lo (H.next+1) 95 H5 q2 (win qs days (i+1)).length c2 (poc (win qs days (i+1))):=hq
  have hqb:=hq.blk
  have hws2:=Us (qs:=qs) (days:=days) (i:=i+1) (by omega);have hwl2:=hws2.2
  refine Zb<|Zc ?_
  obtain ⟨H6,fH6,kH6⟩:=Q9 (kn:=kn) (lo:=lo) (H:=H5) cw hq rfl (by omega) (by omega) (by omega) (by omega) (hv.sub hws2.1)
  refine Zi (vs:=[pt H.next]) rfl (Zf fH6) ?_
  have mH6:=kH6.1
  have hk:=hk.trans kH6
  have hs:=kH6.sl0 hs
  have rs:=kH6.rd rs (by simp)
  have c3:=kH6.cl c3 (by simp)
  have cw:=kH6.cl cw (by simp)
  have hq:=hq.keep kH6 (fun x hx=>by have:=hqb x hx;simp)
  refine Za rfl<|YW (a:=(ps (win qs days (i+1)))) (b:=limit) rfl rfl<|Zb ?_
  refine And.intro (fun q2=>?_) (fun q2=>?_)
  ·have q2:(ps (win qs days (i+1))) > limit:=of_decide_eq_true q2
   refine Zc<|Zn (b:=L1.next) (o:=0) rfl<|Zy (b:=L1.next) (o:=0) (v:=iv ((qs.getD i Po.z).d)) rfl c3.rd rfl<|Za rfl<|Zb ?_
   exact And.intro trivial (Exists.intro _ (And.intro rfl ⟨_,rfl,hk,.inr ⟨i,by omega,rfl,by omega,hall⟩⟩))
  ·have q2:¬ ((ps (win qs days (i+1))) > limit):=of_decide_eq_false q2
   first | refine Zj ?_ | skip
   show Zo _ _ _ _ _ _ _ _
   refine Zt (a:=(i:Int)) (b:=1) rfl rfl ⟨by omega,by omega⟩<|Za rfl<|Zb ?_
   exact ⟨k - 1,i+1,by omega,⟨by omega,hk,by omega,hs,⟨_,_,cw,hq⟩,fun j hj=>by rcases Nat.lt_or_ge j i with c | c;exact hall j c;rw [show j=i by omega];omega⟩,rfl,rfl,rfl,rfl,rfl,ivq (by omega),trivial⟩
 ·have q1:¬ ((i:Int) < (n:Int)):=of_decide_eq_false q1
  first | (refine ZC ?_;show wC _ _ _ _ _ _ _ _ _) | skip
  refine Zc<|Za rfl<|Zb ?_
  exact And.intro trivial (Exists.intro _ (And.intro rfl ⟨_,rfl,hk,.inl ⟨rfl,fun j hj=>hall j (by omega)⟩⟩))
set_option maxRecDepth 100000 in
set_option maxHeartbeats 2000000 in
theorem Qn {qs:List Po} {sa:Option Addr} {n cap:Nat} {days:Int} (hs:Sl H sa n cap (poc qs)) (hl:qs.length=n) (hn:n≤90) (hv:Vl qs) (hy:Dy qs) (hdy:1≤days∧days≤366) (hlo:lo≤H.next) {day:Int} (hday:0≤day∧day≤16384):∃ r H',FnX Try.prog kn lo 41 [.slice sa n cap,iv days,iv day] H (iv r) H'∧Zh H H' []∧r=gm qs days day n:=by
 have key:=Zp (kn:=kn) (lo:=lo) (H:=H) (args:=[.slice sa n cap,iv days,iv day]) (Q:=fun w H'=>∃ r,w=iv r∧Zh H H' []∧r=gm qs days day n) Try.func41 B41 N41 Z41 L41 (by simp) ?_
 ·obtain ⟨w,H',h,r,rfl,q⟩:=key;exact ⟨r,H',h,q⟩
 have hk:=Zh.refl H []
 have fs:=hs.old
 refine Zc<|Za rfl<|Zb<|Zc<|Za rfl<|Zd (v:=.agg #[iv days,.slice none 0 0]) rfl (by kernel_rfl)<|Yq ?_
 intro H1 kH1 nH1 c1
 have c1:Cl H1 H.next [iv 0,.slice none 0 0]:=c1
 have mH1:=kH1.1
 have hk:=hk.trans kH1
 have hs:=kH1.sl0 hs
 refine Z6 (b:=H.next) (o:=0) rfl rfl c1 (by omega) rfl rfl (by simp) ?_
 intro H2 kH2 nH2 sH2
 have mH2:=kH2.1
 have hk:=hk.new kH2 (fun b hb=>by simp at hb ⊢;omega)
 have hs:=kH2.sl hs (fun b e=>by have:=fs b e;first | (simp;done) | (simp;omega))
 have c1:Cl H2 H.next [iv days,.slice none 0 0]:=sH2
 refine Zb<|Zc<|Za rfl<|Zb<|Zc<|Za rfl<|Yd (m:=n) rfl<|Za rfl<|Zb ?_
 refine ZA (fn:=Try.f41) Zdu N41 Zeb (fun i:Nat=>[(1,iv days),(2,iv day),(7,pt H.next),(13,.slice sa n cap),(14,iv (n:Int)),(15,iv (i:Int)),(8,iv (gm qs days day i))])
  (fun k i H'=>i+k=n∧Zh H H' []∧H.next < H'.next∧Sl H' sa n cap (poc qs)∧(∃ q1 c1,Cl H' H.next [iv days,.slice q1 (win qs days i).length c1]∧Qu lo (H.next+1) 95 H' q1 (win qs days i).length c1 (poc (win qs days i)))∧True) n 0 ⟨by omega,hk,by omega,hs,⟨none,0,c1,Qu.nil⟩,trivial⟩ ⟨rfl,rfl,rfl,rfl,rfl,rfl,rfl,trivial⟩ ?_
 rintro k i L1 ⟨hik,hk,hnx,hs,⟨q1,c1,cw,hq⟩,_⟩
 have mk:=hk.1;have hqb:=hq.blk
 have hws:=Us (qs:=qs) (days:=days) (i:=i) (by omega);have hwl:=hws.2
 refine Zc<|ZB (a:=(i:Int)) (b:=(n:Int)) rfl rfl<|Zb ?_
 refine And.intro (fun q1=>?_) (fun q1=>?_)
 ·have q1:(i:Int) < (n:Int):=of_decide_eq_true q1
  have hi:i < n:=by omega
  rcases id hs with ⟨_,h0s,_⟩ | ⟨sb,es,rs,_⟩
  ·omega
  have ls:=rs.1
  have lsb2:=fs sb es
  have hvi:=Wj (z:=Po.z) hv (show i < qs.length by omega);have hyi:=Wj (z:=Po.z) hy (show i < qs.length by omega)
  first | refine Zj ?_ | skip
  refine Zc<|Z0 (b:=sb) (o:=0) (k:=i) (j:=(i:Int)) (by rw [← es];rfl) rfl rfl hi<|ZP (b:=sb) (o:=0+i * 2) rfl rs (V6 (by omega))<|Yq ?_
  intro H3 kH3 nH3 c3
  have c3:Cl H3 L1.next [iv 0,iv 0]:=c3
  have mH3:=kH3.1
  have hk:=hk.trans kH3
  have hs:=kH3.sl0 hs
  have cw:=kH3.cl cw (by simp)
  have hq:=hq.keep kH3 (fun x hx=>by have:=hqb x hx;simp)
  have rs:=kH3.rd rs (by simp)
  refine Z6 (b:=L1.next) (o:=0) rfl rfl c3 (by omega) rfl rfl (by simp) ?_
  intro H4 kH4 nH4 sH4
  have mH4:=kH4.1
  have hk:=hk.new kH4 (fun b hb=>by simp at hb ⊢;omega)
  have hs:=kH4.sl hs (fun b e=>by have:=fs b e;first | (simp;done) | (simp;omega))
  have cw:=kH4.cl cw (by first | (simp;done) | (simp;omega))
  have hq:=hq.keep kH4 (fun x hx=>by have:=hqb x hx;simp;omega)
  have rs:=kH4.rd rs (by first | (simp;done) | (simp;omega))
  have c3:Cl H4 L1.next [iv ((qs.getD i Po.z).d),iv ((qs.getD i Po.z).l)]:=sH4
  refine Zb<|Zc<|ZP (b:=L1.next) (o:=0) rfl c3.rd (show row 2 _ _=some [iv ((qs.getD i Po.z).d),iv ((qs.getD i Po.z).l)] from rfl) ?_
  obtain ⟨H5,q2,n2,c2,fH5,kH5,cw,hq,hl2,hfr⟩:=UU (kn:=kn) (lo:=lo) (H:=H4) cw hq rfl (by omega) (by omega) (by omega) (by omega) (hy.sub hws.1) (by omega) (p:=(qs.getD i Po.z)) hyi hdy
  refine Zi (vs:=[pt H.next,.agg (Po.f (qs.getD i Po.z)).toArray]) rfl (Zf fH5) ?_
  have hk:=hk.new kH5 (fun x hx=>.inr (by rcases List.mem_cons.1 hx with e | hx;omega;(have:=hqb _ hx;omega)))
  have hs:=kH5.sl hs (fun x e0 hx=>by have:=fs x e0;rcases List.mem_cons.1 hx with e | hx;omega;(have:=hqb _ hx;omega))
  have rs:=kH5.rd rs (fun hx=>by rcases List.mem_cons.1 hx with e | hx;omega;(have:=hqb _ hx;omega))
  have c3:=kH5.cl c3 (fun hx=>by rcases List.mem_cons.1 hx with e | hx;omega;(have:=hqb _ hx;omega))
  have mH5:=kH5.1
  subst hl2
  have cw:Cl H5 H.next [iv days,.slice q2 (win qs days (i+1)).length c2]:=cw
  have hq:Qu lo (H.next+1) 95 H5 q2 (win qs days (i+1)).length c2 (poc (win qs days (i+1))):=hq
  have hqb:=hq.blk
  have hws2:=Us (qs:=qs) (days:=days) (i:=i+1) (by omega);have hwl2:=hws2.2
  refine Zb<|Zc<|Zn (b:=L1.next) (o:=0) rfl<|Zy (b:=L1.next) (o:=0) (v:=iv ((qs.getD i Po.z).d)) rfl c3.rd rfl<|Za rfl<|yh (a:=(qs.getD i Po.z).d) (b:=day) rfl rfl ?_
  intro t2 g2;cases t2
  ·have g2:¬ (((qs.getD i Po.z).d) ≥ day):=of_decide_eq_false g2
   refine Za rfl<|Zg rfl<|Zg rfl<|Zg rfl<|Zg rfl<|Zg rfl<|Zg rfl<|Zd (v:=.bool false) rfl rfl<|Zb<|ZK ?_
   first | refine Zj ?_ | skip
   show Zo _ _ _ _ _ _ _ _
   refine Zt (a:=(i:Int)) (b:=1) rfl rfl ⟨by omega,by omega⟩<|Za rfl<|Zb ?_
   exact ⟨k - 1,i+1,by omega,⟨by omega,hk,by omega,hs,⟨_,_,cw,hq⟩,trivial⟩,rfl,rfl,rfl,rfl,rfl,ivq (by omega),ivq (by show _=(if day≤(qs.getD i Po.z).d∧(qs.getD i Po.z).d < day+days then max (gm qs days day i) (ps (win qs days (i+1))) else gm qs days day i);rw [if_neg (by omega)]),trivial⟩
  ·have g2:((qs.getD i Po.z).d) ≥ day:=of_decide_eq_true g2
   refine Za rfl ?_
   refine Zm rfl (Zn (b:=L1.next) (o:=0) rfl ?_)
   refine Zm rfl (Zy (b:=L1.next) (o:=0) (v:=iv ((qs.getD i Po.z).d)) rfl c3.rd rfl ?_)
   refine Zm rfl (Za rfl ?_)
   refine Zm rfl (Za rfl ?_)
   refine Zm rfl (Zt (a:=day) (b:=days) rfl rfl ⟨by omega,by omega⟩ ?_)
   refine Zm rfl (Yk (a:=(qs.getD i Po.z).d) (b:=day+days) rfl rfl ?_)
   intro t3 g3;cases t3
   ·have g3:¬ (((qs.getD i Po.z).d) < (day+days)):=of_decide_eq_false g3
    refine Zd (v:=.bool false) rfl rfl<|Zb<|ZK ?_
    first | refine Zj ?_ | skip
    show Zo _ _ _ _ _ _ _ _
    refine Zt (a:=(i:Int)) (b:=1) rfl rfl ⟨by omega,by omega⟩<|Za rfl<|Zb ?_
    exact ⟨k - 1,i+1,by omega,⟨by omega,hk,by omega,hs,⟨_,_,cw,hq⟩,trivial⟩,rfl,rfl,rfl,rfl,rfl,ivq (by omega),ivq (by show _=(if day≤(qs.getD i Po.z).d∧(qs.getD i Po.z).d < day+days then max (gm qs days day i) (ps (win qs days (i+1))) else gm qs days day i);rw [if_neg (by omega)]),trivial⟩
   ·have g3:((qs.getD i Po.z).d) < (day+days):=of_decide_eq_true g3
    refine Zd (v:=.bool true) rfl rfl<|Zb<|ZN ?_
    show Zo _ _ _ _ _ _ _ _
    refine Za rfl ?_
    obtain ⟨H6,fH6,kH6⟩:=Q9 (kn:=kn) (lo:=lo) (H:=H5) cw hq rfl (by omega) (by omega) (by omega) (by omega) (hv.sub hws2.1)
    refine Zi (vs:=[pt H.next]) rfl (Zf fH6) ?_
    have mH6:=kH6.1
    have hk:=hk.trans kH6
    have hs:=kH6.sl0 hs
    have rs:=kH6.rd rs (by simp)
    have c3:=kH6.cl c3 (by simp)
    have cw:=kH6.cl cw (by simp)
    have hq:=hq.keep kH6 (fun x hx=>by have:=hqb x hx;simp)
    refine qC (a:=(gm qs days day i)) (b:=(ps (win qs days (i+1)))) rfl rfl<|Za rfl<|Zb ?_
    show Zo _ _ _ _ _ _ _ _
    refine Zt (a:=(i:Int)) (b:=1) rfl rfl ⟨by omega,by omega⟩<|Za rfl<|Zb ?_
    exact ⟨k - 1,i+1,by omega,⟨by omega,hk,by omega,hs,⟨_,_,cw,hq⟩,trivial⟩,rfl,rfl,rfl,rfl,rfl,ivq (by omega),ivq (by show _=(if day≤(qs.getD i Po.z).d∧(qs.getD i Po.z).d < day+days then max (gm qs days day i) (ps (win qs days (i+1))) else gm qs days day i);rw [if_pos ⟨by omega,by omega⟩];try rfl),trivial⟩
 ·have q1:¬ ((i:Int) < (n:Int)):=of_decide_eq_false q1
  first | (refine ZC ?_;show wC _ _ _ _ _ _ _ _ _) | skip
  refine Zc<|Za rfl<|Za rfl<|Zb ?_
  obtain rfl:i=n:=by omega
  exact And.intro trivial (Exists.intro _ (And.intro rfl ⟨_,rfl,hk,rfl⟩))
end
end
end Go.Ax

/-
 Pool: Passed,and the document of it (written by program).
-/
namespace Go.Ax
open Go Go.RowKit Go.Proofs

noncomputable section
def paT (ds:List Dc) (days limit:Int):Int × Int × Int:=
 if vD ds=false then (0,0,1) else if inB days 1 366=false∨inB limit 0 72057594037927936=false then (0,0,2) else if fab (prt gHi ds) days limit = -1 then (0,0,4) else (fab (prt gLo ds) days limit,fab (prt gHi ds) days limit,0)
section
variable {ds:List Dc} {days limit:Int}
theorem Zb1 (h:vD ds=false):paT ds days limit=(0,0,1):=by unfold paT;rw [if_pos h]
theorem qZ (h:vD ds=true) (k:inB days 1 366=false∨inB limit 0 72057594037927936=false):paT ds days limit=(0,0,2):=by unfold paT;rw [if_neg (by rw [h];decide),if_pos k]
theorem ZbZ (h:vD ds=true) (k:inB days 1 366=true) (k2:inB limit 0 72057594037927936=true) (q:fab (prt gHi ds) days limit = -1):paT ds days limit=(0,0,4):=by unfold paT;rw [if_neg (by rw [h];decide),if_neg (by rw [k,k2];decide),if_pos q]
theorem Zcn (h:vD ds=true) (k:inB days 1 366=true) (k2:inB limit 0 72057594037927936=true) (q:¬ fab (prt gHi ds) days limit = -1):paT ds days limit=(fab (prt gLo ds) days limit,fab (prt gHi ds) days limit,0):=by unfold paT;rw [if_neg (by rw [h];decide),if_neg (by rw [k,k2];decide),if_neg q]
theorem Ww {a b c:Int} (h:paT ds days limit=(a,b,c)):(Value.tuple #[iv a,iv b,iv c])=.tuple #[iv (paT ds days limit).1,iv (paT ds days limit).2.1,iv (paT ds days limit).2.2]:=by rw [h]
end
def Zv (l:List Po) (days limit:Int) (i:Nat):Int:=(l.take i).foldl (VQ l days limit) (-1)
theorem Z7 {l:List Po} {days limit:Int} {i:Nat} (h:i < l.length):Zv l days limit (i+1)=VQ l days limit (Zv l days limit i) (l.getD i Po.z):=by
 unfold Zv
 rw [Xd (z:=Po.z) h,List.foldl_append];rfl
theorem zn {l:List Po} {days limit:Int}:Zv l days limit l.length=fab l days limit:=by unfold Zv fab;rw [List.take_length]
section
variable {kn:Kn} {lo:Nat} {H:Hp}
set_option maxRecDepth 100000 in
set_option maxHeartbeats 1000000 in
theorem Kf {ds:List Dc} {sa:Option Addr} {n cap:Nat} (hs:Sl H sa n cap (dcc ds)) (hl:ds.length=n) (hn:n≤1000000) (hlo:lo≤H.next) (h35:kn.b 35=none) {days limit:Int}:∃ H',FnX Try.prog kn lo 12 [.slice sa n cap,iv days,iv limit] H (.tuple #[iv (paT ds days limit).1,iv (paT ds days limit).2.1,iv (paT ds days limit).2.2]) H'∧Zh H H' []:=by
 have key:=Zp (kn:=kn) (lo:=lo) (H:=H) (args:=[.slice sa n cap,iv days,iv limit]) (Q:=fun w H'=>w=(.tuple #[iv (paT ds days limit).1,iv (paT ds days limit).2.1,iv (paT ds days limit).2.2])∧Zh H H' []) Try.func12 B12 N12 Z12 L12 (by simp) ?_
 ·obtain ⟨w,H',h,rfl,q⟩:=key;exact ⟨H',h,q⟩
 have hk:=Zh.refl H []
 have fs:=hs.old
 refine Zc<|Za rfl<|Za rfl<|Za rfl<|Zb<|Zc<|Za rfl<|Zu rfl (Zch hs hl hn (by omega)) ?_
 intro tH1 H1 hH1 kH1
 have mH1:=kH1.1
 have hk:=hk.trans kH1
 have hs:=kH1.sl0 hs
 cases tH1
 ·have hvd:vD ds=false:=hH1
  refine Zd (v:=.bool true) rfl rfl<|Zb<|ZN<|Zc<|Za rfl<|Za rfl<|Za rfl<|Zb ?_
  exact And.intro trivial (Exists.intro _ (And.intro rfl ⟨Ww (Zb1 hvd),hk⟩))
 ·have hvd:vD ds=true:=hH1
  obtain ⟨hl64,hany⟩:=Zbm hvd
  have hbd:=VJ hany
  refine Zd (v:=.bool false) rfl rfl<|Zb<|ZK ?_
  first | refine Zj ?_ | skip
  refine Zc<|Za rfl<|Zu rfl (K5) ?_
  intro tH2 H2 hH2 kH2
  have mH2:=kH2.1
  have hk:=hk.trans kH2
  have hs:=kH2.sl0 hs
  cases tH2
  ·have thH2:inB days 1 366=false:=hH2
   have uhH2:=Xh thH2
   refine Zd (v:=.bool true) rfl rfl<|Za rfl<|Zg rfl<|Zg rfl<|Zg rfl<|Zd (v:=.bool true) rfl rfl<|Zb<|ZN<|Zc<|Za rfl<|Za rfl<|Za rfl<|Zb ?_
   exact And.intro trivial (Exists.intro _ (And.intro rfl ⟨Ww (qZ hvd (by first | exact .inl (by assumption) | exact .inr (by assumption))),hk⟩))
  ·have thH2:inB days 1 366=true:=hH2
   have uhH2:=Y0 thH2
   refine Zd (v:=.bool false) rfl rfl<|Za rfl ?_
   refine Zm rfl (Za rfl ?_)
   refine Zm rfl (Zu rfl (XG) ?_)
   intro tH3 H3 hH3 kH3
   have mH3:=kH3.1
   have hk:=hk.trans kH3
   have hs:=kH3.sl0 hs
   cases tH3
   ·have thH3:inB limit 0 72057594037927936=false:=hH3
    have uhH3:=Xh thH3
    refine Zm rfl (Zd (v:=.bool true) rfl rfl ?_)
    refine Zd (v:=.bool true) rfl rfl<|Zb<|ZN<|Zc<|Za rfl<|Za rfl<|Za rfl<|Zb ?_
    exact And.intro trivial (Exists.intro _ (And.intro rfl ⟨Ww (qZ hvd (by first | exact .inl (by assumption) | exact .inr (by assumption))),hk⟩))
   ·have thH3:inB limit 0 72057594037927936=true:=hH3
    have uhH3:=Y0 thH3
    refine Zm rfl (Zd (v:=.bool false) rfl rfl ?_)
    refine Zd (v:=.bool false) rfl rfl<|Zb<|ZK ?_
    first | refine Zj ?_ | skip
    refine Zc ?_
    obtain ⟨H4,fH4,kH4⟩:=Qo (kn:=kn) (lo:=lo) (H:=H3)
    refine Zi (vs:=[]) rfl (YR h35 fH4) ?_
    have mH4:=kH4.1
    have hk:=hk.trans kH4
    have hs:=kH4.sl0 hs
    refine Za rfl<|Zd (v:=.func (.func 57) #[] #[]) rfl (by kernel_rfl)<|Zd (v:=.func (.func 58) #[] #[]) rfl (by kernel_rfl)<|Za rfl<|Za rfl<|Zb<|Zc<|Za rfl<|Za rfl ?_
    obtain ⟨aH5,cH5,qsH5,H5,fH5,kH5,hsH5,hpH5,hoH5,hbH5⟩:=Wv (kn:=kn) (lo:=lo) (H:=H4) hs hl (by omega) hbd (by omega) Zac
    refine Zi (vs:=[.slice sa n cap,.func (.func 58) #[] #[]]) rfl (Zf fH5) ?_
    have mH5:=kH5.1
    have hk:=hk.trans kH5
    have hs:=kH5.sl0 hs
    have fsH5:=hsH5.old;have hnH5:qsH5.length=n:=by rw [hpH5.length_eq,Zx,hl]
    have hvH5:Vl qsH5:=(U8 UG hbd (g:=gHi)).sub fun p hp=>hpH5.subset hp
    have hyH5:Dy qsH5:=(V4 hbd (g:=gHi)).sub fun p hp=>hpH5.subset hp
    refine Za rfl<|Za rfl ?_
    obtain ⟨rH6,H6,fH6,kH6,hFH6⟩:=VS (kn:=kn) (lo:=lo) (H:=H5) hsH5 hnH5 (by omega) hvH5 hyH5 (days:=days) (by omega) (by omega) (limit:=limit)
    refine Zi (vs:=[.slice aH5 n cH5,iv days,iv limit]) rfl (Zf fH6) ?_
    have mH6:=kH6.1
    have hk:=hk.trans kH6
    have hs:=kH6.sl0 hs
    have hsH5:=kH6.sl0 hsH5
    obtain rfl:rH6=fab (prt gHi ds) days limit:=Zab hpH5 hoH5 (by omega) (fun p hp=>(hvH5 p hp).1) (fun p hp=>(V4 hbd p hp).1) (by omega) hFH6
    refine Za rfl<|Zb<|Zc<|Za rfl<|QB (a:=(fab (prt gHi ds) days limit)) (b:=-1) rfl rfl<|Zb ?_
    refine And.intro (fun q1=>?_) (fun q1=>?_)
    ·have q1:(fab (prt gHi ds) days limit)=(-1):=by simpa using q1
     refine Zc<|Za rfl<|Za rfl<|Za rfl<|Zb ?_
     exact And.intro trivial (Exists.intro _ (And.intro rfl ⟨Ww (ZbZ hvd (by assumption) (by assumption) (by omega)),hk⟩))
    ·have q1:¬ ((fab (prt gHi ds) days limit)=(-1)):=by simpa using q1
     first | refine Zj ?_ | skip
     refine Zc<|Za rfl<|Za rfl ?_
     obtain ⟨aH7,cH7,qsH7,H7,fH7,kH7,hsH7,hpH7,hoH7,hbH7⟩:=Wv (kn:=kn) (lo:=lo) (H:=H6) hs hl (by omega) hbd (by omega) ZbF
     refine Zi (vs:=[.slice sa n cap,.func (.func 57) #[] #[]]) rfl (Zf fH7) ?_
     have mH7:=kH7.1
     have hk:=hk.trans kH7
     have hs:=kH7.sl0 hs
     have hsH5:=kH7.sl0 hsH5
     have fsH7:=hsH7.old;have hnH7:qsH7.length=n:=by rw [hpH7.length_eq,Zx,hl]
     have hvH7:Vl qsH7:=(U8 KD hbd (g:=gLo)).sub fun p hp=>hpH7.subset hp
     have hyH7:Dy qsH7:=(V4 hbd (g:=gLo)).sub fun p hp=>hpH7.subset hp
     refine Za rfl<|Za rfl ?_
     obtain ⟨rH8,H8,fH8,kH8,hFH8⟩:=VS (kn:=kn) (lo:=lo) (H:=H7) hsH7 hnH7 (by omega) hvH7 hyH7 (days:=days) (by omega) (by omega) (limit:=limit)
     refine Zi (vs:=[.slice aH7 n cH7,iv days,iv limit]) rfl (Zf fH8) ?_
     have mH8:=kH8.1
     have hk:=hk.trans kH8
     have hs:=kH8.sl0 hs
     have hsH5:=kH8.sl0 hsH5
     have hsH7:=kH8.sl0 hsH7
     obtain rfl:rH8=fab (prt gLo ds) days limit:=Zab hpH7 hoH7 (by omega) (fun p hp=>(hvH7 p hp).1) (fun p hp=>(V4 hbd p hp).1) (by omega) hFH8
     refine Za rfl<|Za rfl<|Za rfl<|Za rfl<|Zb ?_
     exact And.intro trivial (Exists.intro _ (And.intro rfl ⟨Ww (Zcn hvd (by assumption) (by assumption) (by omega)),hk⟩))
set_option maxRecDepth 100000 in
set_option maxHeartbeats 1000000 in
theorem qy {ds:List Dc} {sa:Option Addr} {n cap:Nat} (hs:Sl H sa n cap (dcc ds)) (hl:ds.length=n) (hn:n≤1000000) (hlo:lo≤H.next):∃ H',FnX Try.prog kn lo 25 [.slice sa n cap] H (.bool (vD ds)) H'∧Zh H H' []:=by
 have key:=Zp (kn:=kn) (lo:=lo) (H:=H) (args:=[.slice sa n cap]) (Q:=fun w H'=>w=(.bool (vD ds))∧Zh H H' []) Try.func25 B25 N25 Z25 L25 (by simp) ?_
 ·obtain ⟨w,H',h,rfl,q⟩:=key;exact ⟨H',h,q⟩
 have hk:=Zh.refl H []
 have fs:=hs.old
 refine Zc<|Za rfl<|Zb<|Zc<|Za rfl<|Zb ?_
 refine ZA (fn:=Try.f25) ZeH N25 Zd0 (fun i:Nat=>[(0,.slice sa n cap),(3,iv (i:Int))])
  (fun k i H'=>i+k=n∧Zh H H' []∧Sl H' sa n cap (dcc ds)∧∀ j,j < i→YI (ds.getD j Dc.z)=false) n 0 ⟨by omega,hk,hs,fun j h=>absurd h (Nat.not_lt_zero j)⟩ ⟨rfl,rfl,trivial⟩ ?_
 rintro k i L1 ⟨hik,hk,hs,hall⟩
 have mk:=hk.1
 refine Zc<|Za rfl<|Za rfl<|Yd (m:=n) rfl<|Yk (a:=(i:Int)) (b:=(n:Int)) rfl rfl ?_
 intro t1 g1;cases t1
 ·have g1:¬ ((i:Int) < (n:Int)):=of_decide_eq_false g1
  refine Za rfl<|Zg rfl<|Zg rfl<|Zd (v:=.bool false) rfl rfl<|Zb<|ZK ?_
  first | (refine ZC ?_;show wC _ _ _ _ _ _ _ _ _) | skip
  refine Zc<|Za rfl<|Yd (m:=n) rfl<|Wc (a:=(n:Int)) (b:=64) rfl rfl<|Za rfl<|Zb ?_
  have hvf:vD ds=decide ((n:Int)≤64):=by
   unfold vD
   by_cases q:n≤64
   ·rw [WG (z:=Dc.z) (fun j hj=>hall j (by omega)),hl,decide_eq_true q,decide_eq_true (show (n:Int)≤64 by omega)];rfl
   ·rw [hl,decide_eq_false q,decide_eq_false (show ¬ (n:Int)≤64 by omega)];rfl
  exact And.intro trivial (Exists.intro _ (And.intro rfl ⟨congrArg Value.bool hvf.symm,hk⟩))
 ·have g1:(i:Int) < (n:Int):=of_decide_eq_true g1
  refine Za rfl ?_
  refine Zm rfl (Za rfl ?_)
  refine Zm rfl (XD (a:=(i:Int)) (b:=64) rfl rfl ?_)
  intro t2 g2;cases t2
  ·have g2:¬ ((i:Int)≤64):=of_decide_eq_false g2
   refine Zd (v:=.bool false) rfl rfl<|Zb<|ZK ?_
   first | (refine ZC ?_;show wC _ _ _ _ _ _ _ _ _) | skip
   refine Zc<|Za rfl<|Yd (m:=n) rfl<|Wc (a:=(n:Int)) (b:=64) rfl rfl<|Za rfl<|Zb ?_
   have hvf:vD ds=decide ((n:Int)≤64):=by
    unfold vD
    by_cases q:n≤64
    ·rw [WG (z:=Dc.z) (fun j hj=>hall j (by omega)),hl,decide_eq_true q,decide_eq_true (show (n:Int)≤64 by omega)];rfl
    ·rw [hl,decide_eq_false q,decide_eq_false (show ¬ (n:Int)≤64 by omega)];rfl
   exact And.intro trivial (Exists.intro _ (And.intro rfl ⟨congrArg Value.bool hvf.symm,hk⟩))
  ·have g2:(i:Int)≤64:=of_decide_eq_true g2
   refine Zd (v:=.bool true) rfl rfl<|Zb<|ZN ?_
   have hi:i < n:=by omega
   rcases id hs with ⟨_,h0s,_⟩ | ⟨sb,es,rs,_⟩
   ·omega
   have ls:=rs.1
   have lsb2:=fs sb es
   first | refine Zj ?_ | skip
   refine Zc<|Za rfl<|Za rfl<|Z0 (b:=sb) (o:=0) (k:=i) (j:=(i:Int)) (by rw [← es];rfl) rfl rfl hi<|Zn (b:=sb) (o:=0+i * 5) rfl<|Zy (b:=sb) (o:=0+i * 5) (v:=iv ((ds.getD i Dc.z).d)) rfl rs (Yj (l:=ds) (i:=i) (j:=0) (by omega) rfl)<|Zu rfl (WW) ?_
   intro tH1 H1 hH1 kH1
   have mH1:=kH1.1
   have hk:=hk.trans kH1
   have hs:=kH1.sl0 hs
   have rs:=kH1.rd rs (by simp)
   cases tH1
   ·have thH1:inB ((ds.getD i Dc.z).d) 0 16384=false:=hH1
    have uhH1:=Xh thH1
    refine Zd (v:=.bool true) rfl rfl<|Za rfl<|Zg rfl<|Zg rfl<|Zg rfl<|Zg rfl<|Zg rfl<|Zg rfl<|Zg rfl<|Zd (v:=.bool true) rfl rfl<|Za rfl<|Zg rfl<|Zg rfl<|Zg rfl<|Zg rfl<|Zg rfl<|Zg rfl<|Zg rfl<|Zd (v:=.bool true) rfl rfl<|Zb<|ZN<|Zc<|Za rfl<|Zb ?_
    have hb:YI (ds.getD i Dc.z)=true:=by simp only [YI, *];try rfl
    have hvf:vD ds=false:=by unfold vD;rw [WK (z:=Dc.z) (j:=i) (by omega) hb];simp
    exact And.intro trivial (Exists.intro _ (And.intro rfl ⟨congrArg Value.bool hvf.symm,hk⟩))
   ·have thH1:inB ((ds.getD i Dc.z).d) 0 16384=true:=hH1
    have uhH1:=Y0 thH1
    refine Zd (v:=.bool false) rfl rfl<|Za rfl ?_
    refine Zm rfl (Za rfl ?_)
    refine Zm rfl (Za rfl ?_)
    refine Zm rfl (Z0 (b:=sb) (o:=0) (k:=i) (j:=(i:Int)) (by rw [← es];rfl) rfl rfl hi ?_)
    refine Zm rfl (Zn (b:=sb) (o:=0+i * 5) rfl ?_)
    refine Zm rfl (ZP (b:=sb) (o:=0+i * 5+1) rfl rs (yc (l:=ds) (i:=i) (j:=1) (m:=2) (by omega) rfl) ?_)
    refine Zm rfl (Zu rfl (qR (by omega)) ?_)
    intro tH2 H2 hH2 kH2
    have mH2:=kH2.1
    have hk:=hk.trans kH2
    have hs:=kH2.sl0 hs
    have rs:=kH2.rd rs (by simp)
    cases tH2
    ·have thH2:spB ((ds.getD i Dc.z).wl) ((ds.getD i Dc.z).wh) 1073741824=false:=hH2
     have uhH2:=Vc thH2
     refine Zm rfl (Zd (v:=.bool true) rfl rfl ?_)
     refine Zd (v:=.bool true) rfl rfl<|Za rfl<|Zg rfl<|Zg rfl<|Zg rfl<|Zg rfl<|Zg rfl<|Zg rfl<|Zg rfl<|Zd (v:=.bool true) rfl rfl<|Zb<|ZN<|Zc<|Za rfl<|Zb ?_
     have hb:YI (ds.getD i Dc.z)=true:=by simp only [YI, *];try rfl
     have hvf:vD ds=false:=by unfold vD;rw [WK (z:=Dc.z) (j:=i) (by omega) hb];simp
     exact And.intro trivial (Exists.intro _ (And.intro rfl ⟨congrArg Value.bool hvf.symm,hk⟩))
    ·have thH2:spB ((ds.getD i Dc.z).wl) ((ds.getD i Dc.z).wh) 1073741824=true:=hH2
     have uhH2:=Xm thH2
     refine Zm rfl (Zd (v:=.bool false) rfl rfl ?_)
     refine Zd (v:=.bool false) rfl rfl<|Za rfl ?_
     refine Zm rfl (Za rfl ?_)
     refine Zm rfl (Za rfl ?_)
     refine Zm rfl (Z0 (b:=sb) (o:=0) (k:=i) (j:=(i:Int)) (by rw [← es];rfl) rfl rfl hi ?_)
     refine Zm rfl (Zn (b:=sb) (o:=0+i * 5) rfl ?_)
     refine Zm rfl (ZP (b:=sb) (o:=0+i * 5+3) rfl rs (yc (l:=ds) (i:=i) (j:=3) (m:=2) (by omega) rfl) ?_)
     refine Zm rfl (Zu rfl (qR (by omega)) ?_)
     intro tH3 H3 hH3 kH3
     have mH3:=kH3.1
     have hk:=hk.trans kH3
     have hs:=kH3.sl0 hs
     have rs:=kH3.rd rs (by simp)
     cases tH3
     ·have thH3:spB ((ds.getD i Dc.z).cl) ((ds.getD i Dc.z).ch) 100000=false:=hH3
      have uhH3:=Vc thH3
      refine Zm rfl (Zd (v:=.bool true) rfl rfl ?_)
      refine Zd (v:=.bool true) rfl rfl<|Zb<|ZN<|Zc<|Za rfl<|Zb ?_
      have hb:YI (ds.getD i Dc.z)=true:=by simp only [YI, *];try rfl
      have hvf:vD ds=false:=by unfold vD;rw [WK (z:=Dc.z) (j:=i) (by omega) hb];simp
      exact And.intro trivial (Exists.intro _ (And.intro rfl ⟨congrArg Value.bool hvf.symm,hk⟩))
     ·have thH3:spB ((ds.getD i Dc.z).cl) ((ds.getD i Dc.z).ch) 100000=true:=hH3
      have uhH3:=Xm thH3
      refine Zm rfl (Zd (v:=.bool false) rfl rfl ?_)
      refine Zd (v:=.bool false) rfl rfl<|Zb<|ZK ?_
      first | refine Zj ?_ | skip
      show Zo _ _ _ _ _ _ _ _
      refine Za rfl<|Zt (a:=(i:Int)) (b:=1) rfl rfl ⟨by omega,by omega⟩<|Za rfl<|Zb ?_
      have hb:YI (ds.getD i Dc.z)=false:=by simp only [YI, *];try rfl
      exact ⟨k - 1,i+1,by omega,⟨by omega,hk,hs,fun j hj=>by rcases Nat.lt_or_ge j i with c | c;exact hall j c;rw [show j=i by omega];exact hb⟩,rfl,ivq (by omega),trivial⟩
set_option maxRecDepth 100000 in
set_option maxHeartbeats 1000000 in
theorem Q4 {ds:List Dc} {sa:Option Addr} {n cap:Nat} (hs:Sl H sa n cap (dcc ds)) (hl:ds.length=n) (hn:n≤70) (hlo:lo≤H.next) (hbd:∀ d,d∈ds→YI d=false) {days D:Int} (hd1:1≤days∧days≤366) (hD:0≤D∧D≤20000):∃ H',FnX Try.prog kn lo 39 [.slice sa n cap,iv days,iv D] H (.agg #[iv (ZG (prt gLo ds) days D),iv (ZG (prt gHi ds) days D)]) H'∧Zh H H' []:=by
 have key:=Zp (kn:=kn) (lo:=lo) (H:=H) (args:=[.slice sa n cap,iv days,iv D]) (Q:=fun w H'=>w=(.agg #[iv (ZG (prt gLo ds) days D),iv (ZG (prt gHi ds) days D)])∧Zh H H' []) Try.func39 B39 N39 Z39 L39 (by simp) ?_
 ·obtain ⟨w,H',h,rfl,q⟩:=key;exact ⟨H',h,q⟩
 have hk:=Zh.refl H []
 have fs:=hs.old
 refine Zc<|Yq ?_
 intro H1 kH1 nH1 c1
 have c1:Cl H1 H.next [iv 0,iv 0]:=c1
 have mH1:=kH1.1
 have hk:=hk.trans kH1
 have hs:=kH1.sl0 hs
 refine Zb<|Zc<|Yq ?_
 intro H2 kH2 nH2 c2
 have c2:Cl H2 H1.next [iv 0,iv 0]:=c2
 have mH2:=kH2.1
 have hk:=hk.trans kH2
 have hs:=kH2.sl0 hs
 have c1:=kH2.cl c1 (by simp)
 refine Zb<|Zc<|Za rfl<|Zb ?_
 refine ZA (fn:=Try.f39) ZdC N39 Zeh (fun i:Nat=>[(0,.slice sa n cap),(1,iv days),(2,iv D),(6,pt H.next),(7,pt H1.next),(8,iv (i:Int))])
  (fun k i H'=>i+k=n∧Zh H H' []∧H1.next < H'.next∧Sl H' sa n cap (dcc ds)∧Cl H' H.next [iv 0,iv 0]∧Cl H' H1.next [iv (wsp (prt gLo ds) days D i),iv (wsp (prt gHi ds) days D i)]) n 0 ⟨by omega,hk,by omega,hs,c1,by rw [za,za];exact c2⟩ ⟨rfl,rfl,rfl,rfl,rfl,rfl,trivial⟩ ?_
 rintro k i L1 ⟨hik,hk,hnx,hs,c6,c7⟩
 have mk:=hk.1
 have hhgLo:=Zao (days:=days) (D:=D) (k:=i) (U8 KD hbd (g:=gLo));have hjgLo:=ZaQ (days:=days) (D:=D) (k:=i) (U8 KD hbd (g:=gLo));rw [Zx,hl] at hhgLo
 have hhgHi:=Zao (days:=days) (D:=D) (k:=i) (U8 UG hbd (g:=gHi));have hjgHi:=ZaQ (days:=days) (D:=D) (k:=i) (U8 UG hbd (g:=gHi));rw [Zx,hl] at hhgHi
 refine Zc<|Za rfl<|Za rfl<|Yd (m:=n) rfl<|ZB (a:=(i:Int)) (b:=(n:Int)) rfl rfl<|Zb ?_
 refine And.intro (fun q1=>?_) (fun q1=>?_)
 ·have q1:(i:Int) < (n:Int):=of_decide_eq_true q1
  have hi:i < n:=by omega
  rcases id hs with ⟨_,h0s,_⟩ | ⟨sb,es,rs,_⟩
  ·omega
  have ls:=rs.1
  have lsb2:=fs sb es
  have hbi:=Wj (z:=Dc.z) hbd (show i < ds.length by omega);have hmA:=Qv KD hbi;have hmB:=Qv UG hbi;have hbt:=KK hbi;simp only [gLo,gHi] at hmA hmB
  first | refine Zj ?_ | skip
  refine Zc<|Za rfl<|Za rfl<|Z0 (b:=sb) (o:=0) (k:=i) (j:=(i:Int)) (by rw [← es];rfl) rfl rfl hi<|Zn (b:=sb) (o:=0+i * 5) rfl<|Zy (b:=sb) (o:=0+i * 5) (v:=iv ((ds.getD i Dc.z).d)) rfl rs (Yj (l:=ds) (i:=i) (j:=0) (by omega) rfl)<|Za rfl<|Za rfl<|YC (a:=D) (b:=days) rfl rfl ⟨by omega,by omega⟩<|Zt (a:=D - days) (b:=1) rfl rfl ⟨by omega,by omega⟩<|Za rfl<|Zu rfl (WW) ?_
  intro tH3 H3 hH3 kH3
  have mH3:=kH3.1
  have hk:=hk.trans kH3
  have hs:=kH3.sl0 hs
  have c6:=kH3.cl c6 (by simp)
  have c7:=kH3.cl c7 (by simp)
  have rs:=kH3.rd rs (by simp)
  cases tH3
  ·have thH3:inB ((ds.getD i Dc.z).d) ((D - days)+1) D=false:=hH3
   have uhH3:=Xh thH3
   refine Zb<|ZK ?_
   first | refine Zj ?_ | skip
   show Zo _ _ _ _ _ _ _ _
   refine Za rfl<|Zt (a:=(i:Int)) (b:=1) rfl rfl ⟨by omega,by omega⟩<|Za rfl<|Zb ?_
   have e1:=qJ (l:=prt gLo ds) (days:=days) (D:=D) (k:=i) (by rw [Zx];omega) (by rw [ZL (by omega)];show ¬ (_ < (ds.getD i Dc.z).d∧(ds.getD i Dc.z).d≤_);omega)
   have e2:=qJ (l:=prt gHi ds) (days:=days) (D:=D) (k:=i) (by rw [Zx];omega) (by rw [ZL (by omega)];show ¬ (_ < (ds.getD i Dc.z).d∧(ds.getD i Dc.z).d≤_);omega)
   exact ⟨k - 1,i+1,by omega,⟨by omega,hk,by omega,hs,c6,by rw [e1,e2];exact c7⟩,rfl,rfl,rfl,rfl,rfl,ivq (by omega),trivial⟩
  ·have thH3:inB ((ds.getD i Dc.z).d) ((D - days)+1) D=true:=hH3
   have uhH3:=Y0 thH3
   refine Zb<|ZN ?_
   first | refine YM ?_ | refine WN ?_ | refine V1 ?_ | (refine XS ?_;refine YM ?_)
   refine ZH (b:=H1.next) (o:=0) rfl<|XA (b:=H1.next) (o:=0) (v:=iv (wsp (prt gLo ds) days D i)) rfl c7.rd rfl<|Zk rfl<|Zk rfl<|Yb (b:=sb) (o:=0) (k:=i) (j:=(i:Int)) (by rw [← es];rfl) rfl rfl hi<|ZH (b:=sb) (o:=0+i * 5) rfl<|ZH (b:=sb) (o:=0+i * 5+1) rfl<|XA (b:=sb) (o:=0+i * 5+1) (v:=iv ((ds.getD i Dc.z).wl)) rfl rs (Yj (l:=ds) (i:=i) (j:=1) (by omega) rfl)<|Zk rfl<|Zk rfl<|Yb (b:=sb) (o:=0) (k:=i) (j:=(i:Int)) (by rw [← es];rfl) rfl rfl hi<|ZH (b:=sb) (o:=0+i * 5) rfl<|ZH (b:=sb) (o:=0+i * 5+3) rfl<|XA (b:=sb) (o:=0+i * 5+3) (v:=iv ((ds.getD i Dc.z).cl)) rfl rs (Yj (l:=ds) (i:=i) (j:=3) (by omega) rfl)<|Va (a:=(ds.getD i Dc.z).wl) (b:=(ds.getD i Dc.z).cl) rfl rfl ⟨by omega,by omega⟩<|X3 (a:=(wsp (prt gLo ds) days D i)) (b:=((ds.getD i Dc.z).wl) * ((ds.getD i Dc.z).cl)) rfl rfl ⟨by omega,by omega⟩<|ZH (b:=H1.next) (o:=0) rfl<|XA (b:=H1.next) (o:=1) (v:=iv (wsp (prt gHi ds) days D i)) rfl c7.rd rfl<|Zk rfl<|Zk rfl<|Yb (b:=sb) (o:=0) (k:=i) (j:=(i:Int)) (by rw [← es];rfl) rfl rfl hi<|ZH (b:=sb) (o:=0+i * 5) rfl<|ZH (b:=sb) (o:=0+i * 5+1) rfl<|XA (b:=sb) (o:=0+i * 5+2) (v:=iv ((ds.getD i Dc.z).wh)) rfl rs (Yj (l:=ds) (i:=i) (j:=2) (by omega) rfl)<|Zk rfl<|Zk rfl<|Yb (b:=sb) (o:=0) (k:=i) (j:=(i:Int)) (by rw [← es];rfl) rfl rfl hi<|ZH (b:=sb) (o:=0+i * 5) rfl<|ZH (b:=sb) (o:=0+i * 5+3) rfl<|XA (b:=sb) (o:=0+i * 5+4) (v:=iv ((ds.getD i Dc.z).ch)) rfl rs (Yj (l:=ds) (i:=i) (j:=4) (by omega) rfl)<|Va (a:=(ds.getD i Dc.z).wh) (b:=(ds.getD i Dc.z).ch) rfl rfl ⟨by omega,by omega⟩<|X3 (a:=(wsp (prt gHi ds) days D i)) (b:=((ds.getD i Dc.z).wh) * ((ds.getD i Dc.z).ch)) rfl rfl ⟨by omega,by omega⟩<|Yy (v:=.agg #[iv ((wsp (prt gLo ds) days D i)+(((ds.getD i Dc.z).wl) * ((ds.getD i Dc.z).cl))),iv ((wsp (prt gHi ds) days D i)+(((ds.getD i Dc.z).wh) * ((ds.getD i Dc.z).ch)))]) rfl (by kernel_rfl)<|Q7 (b:=H1.next) (o:=0) rfl rfl c7 (by omega) rfl rfl (by simp) ?_
   intro H4 kH4 nH4 sH4
   have mH4:=kH4.1
   have hk:=hk.new kH4 (fun b hb=>by simp at hb ⊢;omega)
   have hs:=kH4.sl hs (fun b e=>by have:=fs b e;first | (simp;done) | (simp;omega))
   have c6:=kH4.cl c6 (by first | (simp;done) | (simp;omega))
   have rs:=kH4.rd rs (by first | (simp;done) | (simp;omega))
   have c7:Cl H4 H1.next [iv ((wsp (prt gLo ds) days D i)+(((ds.getD i Dc.z).wl) * ((ds.getD i Dc.z).cl))),iv ((wsp (prt gHi ds) days D i)+(((ds.getD i Dc.z).wh) * ((ds.getD i Dc.z).ch)))]:=sH4
   refine Yo (by repeat' first | exact True.intro | exact (fun h=>h) | refine And.intro ?_ ?_ | (intro h;have h:(_:Nat)=_:=h;omega)) ?_
   show Zo _ _ _ _ _ _ _ _
   refine Za rfl<|Zt (a:=(i:Int)) (b:=1) rfl rfl ⟨by omega,by omega⟩<|Za rfl<|Zb ?_
   have e1:=ZaL (l:=prt gLo ds) (days:=days) (D:=D) (k:=i) (by rw [Zx];omega) (by rw [ZL (by omega)];show _ < (ds.getD i Dc.z).d;omega) (by rw [ZL (by omega)];show (ds.getD i Dc.z).d≤_;omega);rw [ZL (by omega)] at e1
   have e2:=ZaL (l:=prt gHi ds) (days:=days) (D:=D) (k:=i) (by rw [Zx];omega) (by rw [ZL (by omega)];show _ < (ds.getD i Dc.z).d;omega) (by rw [ZL (by omega)];show (ds.getD i Dc.z).d≤_;omega);rw [ZL (by omega)] at e2
   exact ⟨k - 1,i+1,by omega,⟨by omega,hk,by omega,hs,c6,by rw [e1,e2];exact c7⟩,rfl,rfl,rfl,rfl,rfl,ivq (by omega),trivial⟩
 ·have q1:¬ ((i:Int) < (n:Int)):=of_decide_eq_false q1
  first | (refine ZC ?_;show wC _ _ _ _ _ _ _ _ _) | skip
  refine Zc<|ZP (b:=H1.next) (o:=0) rfl c7.rd (show row 2 _ _=some [iv (wsp (prt gLo ds) days D i),iv (wsp (prt gHi ds) days D i)] from rfl)<|Z6 (b:=H.next) (o:=0) rfl rfl c6 (by omega) rfl rfl (by simp) ?_
  intro H5 kH5 nH5 sH5
  have mH5:=kH5.1
  have hk:=hk.new kH5 (fun b hb=>by simp at hb ⊢;omega)
  have hs:=kH5.sl hs (fun b e=>by have:=fs b e;first | (simp;done) | (simp;omega))
  have c7:=kH5.cl c7 (by first | (simp;done) | (simp;omega))
  have c6:Cl H5 H.next [iv (wsp (prt gLo ds) days D i),iv (wsp (prt gHi ds) days D i)]:=sH5
  refine Zb ?_
  obtain rfl:i=n:=by omega
  have e1:=ja (l:=prt gLo ds) (days:=days) (D:=D);have e2:=ja (l:=prt gHi ds) (days:=days) (D:=D);rw [Zx,hl] at e1 e2
  exact And.intro trivial (Exists.intro _ (And.intro (Uo rfl a31 Qi rfl c6) ⟨by rw [e1,e2];rfl,hk⟩))
set_option maxRecDepth 100000 in
set_option maxHeartbeats 1000000 in
theorem KG {ds:List Dc} {sa:Option Addr} {n cap:Nat} (hs:Sl H sa n cap (dcc ds)) (hl:ds.length=n) (hn:n≤1000000) (hlo:lo≤H.next) {days limit:Int}:∃ H',FnX Try.prog kn lo 13 [.slice sa n cap,iv days,iv limit] H (.tuple #[iv (paT ds days limit).1,iv (paT ds days limit).2.1,iv (paT ds days limit).2.2]) H'∧Zh H H' []:=by
 have key:=Zp (kn:=kn) (lo:=lo) (H:=H) (args:=[.slice sa n cap,iv days,iv limit]) (Q:=fun w H'=>w=(.tuple #[iv (paT ds days limit).1,iv (paT ds days limit).2.1,iv (paT ds days limit).2.2])∧Zh H H' []) Try.func13 B13 N13 Z13 L13 (by simp) ?_
 ·obtain ⟨w,H',h,rfl,q⟩:=key;exact ⟨H',h,q⟩
 have hk:=Zh.refl H []
 have fs:=hs.old
 refine Zc<|Za rfl<|Za rfl<|Za rfl<|Zb<|Zc<|Za rfl<|Zu rfl (qy hs hl hn (by omega)) ?_
 intro tH1 H1 hH1 kH1
 have mH1:=kH1.1
 have hk:=hk.trans kH1
 have hs:=kH1.sl0 hs
 cases tH1
 ·have hvd:vD ds=false:=hH1
  refine Zd (v:=.bool true) rfl rfl<|Zb<|ZN<|Zc<|Za rfl<|Za rfl<|Za rfl<|Zb ?_
  exact And.intro trivial (Exists.intro _ (And.intro rfl ⟨Ww (Zb1 hvd),hk⟩))
 ·have hvd:vD ds=true:=hH1
  obtain ⟨hl64,hany⟩:=Zbm hvd
  have hbd:=VJ hany
  refine Zd (v:=.bool false) rfl rfl<|Zb<|ZK ?_
  first | refine Zj ?_ | skip
  refine Zc<|Za rfl<|Zu rfl (WW) ?_
  intro tH2 H2 hH2 kH2
  have mH2:=kH2.1
  have hk:=hk.trans kH2
  have hs:=kH2.sl0 hs
  cases tH2
  ·have thH2:inB days 1 366=false:=hH2
   have uhH2:=Xh thH2
   refine Zd (v:=.bool true) rfl rfl<|Za rfl<|Zg rfl<|Zg rfl<|Zg rfl<|Zd (v:=.bool true) rfl rfl<|Zb<|ZN<|Zc<|Za rfl<|Za rfl<|Za rfl<|Zb ?_
   exact And.intro trivial (Exists.intro _ (And.intro rfl ⟨Ww (qZ hvd (by first | exact .inl (by assumption) | exact .inr (by assumption))),hk⟩))
  ·have thH2:inB days 1 366=true:=hH2
   have uhH2:=Y0 thH2
   refine Zd (v:=.bool false) rfl rfl<|Za rfl ?_
   refine Zm rfl (Za rfl ?_)
   refine Zm rfl (Zu rfl (WW) ?_)
   intro tH3 H3 hH3 kH3
   have mH3:=kH3.1
   have hk:=hk.trans kH3
   have hs:=kH3.sl0 hs
   cases tH3
   ·have thH3:inB limit 0 72057594037927936=false:=hH3
    have uhH3:=Xh thH3
    refine Zm rfl (Zd (v:=.bool true) rfl rfl ?_)
    refine Zd (v:=.bool true) rfl rfl<|Zb<|ZN<|Zc<|Za rfl<|Za rfl<|Za rfl<|Zb ?_
    exact And.intro trivial (Exists.intro _ (And.intro rfl ⟨Ww (qZ hvd (by first | exact .inl (by assumption) | exact .inr (by assumption))),hk⟩))
   ·have thH3:inB limit 0 72057594037927936=true:=hH3
    have uhH3:=Y0 thH3
    refine Zm rfl (Zd (v:=.bool false) rfl rfl ?_)
    refine Zd (v:=.bool false) rfl rfl<|Zb<|ZK ?_
    first | refine Zj ?_ | skip
    refine Zc<|Za rfl<|Za rfl<|Zb<|Zc<|Za rfl<|Zb ?_
    refine ZA (fn:=Try.f13) Zd7 N13 Zet (fun i:Nat=>[(0,.slice sa n cap),(1,iv days),(2,iv limit),(9,iv (Zv (prt gLo ds) days limit i)),(10,iv (Zv (prt gHi ds) days limit i)),(11,iv (i:Int))])
     (fun k i H'=>i+k=n∧Zh H H' []∧Sl H' sa n cap (dcc ds)) n 0 ⟨by omega,hk,hs⟩ ⟨rfl,rfl,rfl,rfl,rfl,rfl,trivial⟩ ?_
    rintro k i L1 ⟨hik,hk,hs⟩
    have mk:=hk.1
    refine Zc<|Za rfl<|Za rfl<|Yd (m:=n) rfl<|ZB (a:=(i:Int)) (b:=(n:Int)) rfl rfl<|Zb ?_
    refine And.intro (fun q1=>?_) (fun q1=>?_)
    ·have q1:(i:Int) < (n:Int):=of_decide_eq_true q1
     have hi:i < n:=by omega
     rcases id hs with ⟨_,h0s,_⟩ | ⟨sb,es,rs,_⟩
     ·omega
     have ls:=rs.1
     have lsb2:=fs sb es
     have hbi:=Wj (z:=Dc.z) hbd (show i < ds.length by omega);have hbt:=KK hbi
     first | refine Zj ?_ | skip
     refine Zc<|Za rfl<|Za rfl<|Za rfl<|Za rfl<|Z0 (b:=sb) (o:=0) (k:=i) (j:=(i:Int)) (by rw [← es];rfl) rfl rfl hi<|Zn (b:=sb) (o:=0+i * 5) rfl<|Zy (b:=sb) (o:=0+i * 5) (v:=iv ((ds.getD i Dc.z).d)) rfl rs (Yj (l:=ds) (i:=i) (j:=0) (by omega) rfl) ?_
     obtain ⟨H4,fH4,kH4⟩:=Q4 (kn:=kn) (lo:=lo) (H:=L1) hs hl (by omega) (by omega) hbd (days:=days) (D:=(ds.getD i Dc.z).d) (by omega) (by omega)
     refine Zi (vs:=[.slice sa n cap,iv days,iv ((ds.getD i Dc.z).d)]) rfl (Zf fH4) ?_
     have mH4:=kH4.1
     have hk:=hk.trans kH4
     have hs:=kH4.sl0 hs
     have rs:=kH4.rd rs (by simp)
     refine Yq ?_
     intro H5 kH5 nH5 c5
     have c5:Cl H5 H4.next [iv 0,iv 0]:=c5
     have mH5:=kH5.1
     have hk:=hk.trans kH5
     have hs:=kH5.sl0 hs
     have rs:=kH5.rd rs (by simp)
     refine Z6 (b:=H4.next) (o:=0) rfl rfl c5 (by omega) rfl rfl (by simp) ?_
     intro H6 kH6 nH6 sH6
     have mH6:=kH6.1
     have hk:=hk.new kH6 (fun b hb=>by simp at hb ⊢;omega)
     have hs:=kH6.sl hs (fun b e=>by have:=fs b e;first | (simp;done) | (simp;omega))
     have rs:=kH6.rd rs (by first | (simp;done) | (simp;omega))
     have c5:Cl H6 H4.next [iv (ZG (prt gLo ds) days ((ds.getD i Dc.z).d)),iv (ZG (prt gHi ds) days ((ds.getD i Dc.z).d))]:=sH6
     refine Zb<|Zc<|Zn (b:=H4.next) (o:=0) rfl<|Zy (b:=H4.next) (o:=0) (v:=iv (ZG (prt gLo ds) days ((ds.getD i Dc.z).d))) rfl c5.rd rfl<|Za rfl<|Vu (a:=(ZG (prt gLo ds) days ((ds.getD i Dc.z).d))) (b:=limit) rfl rfl ?_
     intro t2 g2;cases t2
     ·have g2:¬ ((ZG (prt gLo ds) days ((ds.getD i Dc.z).d)) > limit):=of_decide_eq_false g2
      refine Za rfl<|Zg rfl<|Zg rfl<|Zg rfl<|Yu rfl<|Yu rfl<|Yu rfl<|Yu rfl<|Yu rfl<|Yu rfl<|Yu rfl<|Zg rfl<|Zd (v:=.bool false) rfl rfl<|Zb<|ZK ?_
      first | refine Zj ?_ | skip
      refine Zc<|Zn (b:=H4.next) (o:=0) rfl<|Zy (b:=H4.next) (o:=1) (v:=iv (ZG (prt gHi ds) days ((ds.getD i Dc.z).d))) rfl c5.rd rfl<|Za rfl<|Vu (a:=(ZG (prt gHi ds) days ((ds.getD i Dc.z).d))) (b:=limit) rfl rfl ?_
      intro t3 g3;cases t3
      ·have g3:¬ ((ZG (prt gHi ds) days ((ds.getD i Dc.z).d)) > limit):=of_decide_eq_false g3
       refine Za rfl<|Zg rfl<|Zg rfl<|Zg rfl<|Yu rfl<|Yu rfl<|Yu rfl<|Yu rfl<|Yu rfl<|Yu rfl<|Yu rfl<|Zg rfl<|Zd (v:=.bool false) rfl rfl<|Zb<|ZK ?_
       first | refine Zj ?_ | skip
       show Zo _ _ _ _ _ _ _ _
       refine Za rfl<|Zt (a:=(i:Int)) (b:=1) rfl rfl ⟨by omega,by omega⟩<|Za rfl<|Zb ?_
       exact ⟨k - 1,i+1,by omega,⟨by omega,hk,hs⟩,rfl,rfl,rfl,ivq (by rw [Z7 (by rw [Zx];omega),ZL (by omega)];show _=(if limit < ZG (prt gLo ds) days (ds.getD i Dc.z).d∧((Zv (prt gLo ds) days limit i) < 0∨(ds.getD i Dc.z).d < (Zv (prt gLo ds) days limit i)) then (ds.getD i Dc.z).d else (Zv (prt gLo ds) days limit i));split<;>omega),ivq (by rw [Z7 (by rw [Zx];omega),ZL (by omega)];show _=(if limit < ZG (prt gHi ds) days (ds.getD i Dc.z).d∧((Zv (prt gHi ds) days limit i) < 0∨(ds.getD i Dc.z).d < (Zv (prt gHi ds) days limit i)) then (ds.getD i Dc.z).d else (Zv (prt gHi ds) days limit i));split<;>omega),ivq (by omega),trivial⟩
      ·have g3:(ZG (prt gHi ds) days ((ds.getD i Dc.z).d)) > limit:=of_decide_eq_true g3
       refine Za rfl ?_
       refine Zm rfl (Za rfl ?_)
       refine Zm rfl (Yk (a:=(Zv (prt gHi ds) days limit i)) (b:=0) rfl rfl ?_)
       intro t4 g4;cases t4
       ·have g4:¬ ((Zv (prt gHi ds) days limit i) < 0):=of_decide_eq_false g4
        refine Zm rfl (Za rfl ?_)
        refine Zm rfl (Za rfl ?_)
        refine Zm rfl (Za rfl ?_)
        refine Zm rfl (Z0 (b:=sb) (o:=0) (k:=i) (j:=(i:Int)) (by rw [← es];rfl) rfl rfl hi ?_)
        refine Zm rfl (Zn (b:=sb) (o:=0+i * 5) rfl ?_)
        refine Zm rfl (Zy (b:=sb) (o:=0+i * 5) (v:=iv ((ds.getD i Dc.z).d)) rfl rs (Yj (l:=ds) (i:=i) (j:=0) (by omega) rfl) ?_)
        refine Zm rfl (Za rfl ?_)
        refine Zm rfl (Yk (a:=(ds.getD i Dc.z).d) (b:=(Zv (prt gHi ds) days limit i)) rfl rfl ?_)
        intro t5 g5;cases t5
        ·have g5:¬ (((ds.getD i Dc.z).d) < (Zv (prt gHi ds) days limit i)):=of_decide_eq_false g5
         refine Zm rfl (Zd (v:=.bool false) rfl rfl ?_)
         refine Zd (v:=.bool false) rfl rfl<|Zb<|ZK ?_
         first | refine Zj ?_ | skip
         show Zo _ _ _ _ _ _ _ _
         refine Za rfl<|Zt (a:=(i:Int)) (b:=1) rfl rfl ⟨by omega,by omega⟩<|Za rfl<|Zb ?_
         exact ⟨k - 1,i+1,by omega,⟨by omega,hk,hs⟩,rfl,rfl,rfl,ivq (by rw [Z7 (by rw [Zx];omega),ZL (by omega)];show _=(if limit < ZG (prt gLo ds) days (ds.getD i Dc.z).d∧((Zv (prt gLo ds) days limit i) < 0∨(ds.getD i Dc.z).d < (Zv (prt gLo ds) days limit i)) then (ds.getD i Dc.z).d else (Zv (prt gLo ds) days limit i));split<;>omega),ivq (by rw [Z7 (by rw [Zx];omega),ZL (by omega)];show _=(if limit < ZG (prt gHi ds) days (ds.getD i Dc.z).d∧((Zv (prt gHi ds) days limit i) < 0∨(ds.getD i Dc.z).d < (Zv (prt gHi ds) days limit i)) then (ds.getD i Dc.z).d else (Zv (prt gHi ds) days limit i));split<;>omega),ivq (by omega),trivial⟩
        ·have g5:((ds.getD i Dc.z).d) < (Zv (prt gHi ds) days limit i):=of_decide_eq_true g5
         refine Zm rfl (Zd (v:=.bool true) rfl rfl ?_)
         refine Zd (v:=.bool true) rfl rfl<|Zb<|ZN ?_
         show Zo _ _ _ _ _ _ _ _
         refine Za rfl<|Za rfl<|Z0 (b:=sb) (o:=0) (k:=i) (j:=(i:Int)) (by rw [← es];rfl) rfl rfl hi<|Zn (b:=sb) (o:=0+i * 5) rfl<|Zy (b:=sb) (o:=0+i * 5) (v:=iv ((ds.getD i Dc.z).d)) rfl rs (Yj (l:=ds) (i:=i) (j:=0) (by omega) rfl)<|Za rfl<|Zb ?_
         show Zo _ _ _ _ _ _ _ _
         refine Za rfl<|Zt (a:=(i:Int)) (b:=1) rfl rfl ⟨by omega,by omega⟩<|Za rfl<|Zb ?_
         exact ⟨k - 1,i+1,by omega,⟨by omega,hk,hs⟩,rfl,rfl,rfl,ivq (by rw [Z7 (by rw [Zx];omega),ZL (by omega)];show _=(if limit < ZG (prt gLo ds) days (ds.getD i Dc.z).d∧((Zv (prt gLo ds) days limit i) < 0∨(ds.getD i Dc.z).d < (Zv (prt gLo ds) days limit i)) then (ds.getD i Dc.z).d else (Zv (prt gLo ds) days limit i));split<;>omega),ivq (by rw [Z7 (by rw [Zx];omega),ZL (by omega)];show _=(if limit < ZG (prt gHi ds) days (ds.getD i Dc.z).d∧((Zv (prt gHi ds) days limit i) < 0∨(ds.getD i Dc.z).d < (Zv (prt gHi ds) days limit i)) then (ds.getD i Dc.z).d else (Zv (prt gHi ds) days limit i));split<;>omega),ivq (by omega),trivial⟩
       ·have g4:(Zv (prt gHi ds) days limit i) < 0:=of_decide_eq_true g4
        refine Zm rfl (Za rfl ?_)
        refine Zg rfl<|Zg rfl<|Zg rfl<|Zg rfl<|Zg rfl<|Zg rfl<|Zg rfl ?_
        refine Zm rfl (Zd (v:=.bool true) rfl rfl ?_)
        refine Zd (v:=.bool true) rfl rfl<|Zb<|ZN ?_
        show Zo _ _ _ _ _ _ _ _
        refine Za rfl<|Za rfl<|Z0 (b:=sb) (o:=0) (k:=i) (j:=(i:Int)) (by rw [← es];rfl) rfl rfl hi<|Zn (b:=sb) (o:=0+i * 5) rfl<|Zy (b:=sb) (o:=0+i * 5) (v:=iv ((ds.getD i Dc.z).d)) rfl rs (Yj (l:=ds) (i:=i) (j:=0) (by omega) rfl)<|Za rfl<|Zb ?_
        show Zo _ _ _ _ _ _ _ _
        refine Za rfl<|Zt (a:=(i:Int)) (b:=1) rfl rfl ⟨by omega,by omega⟩<|Za rfl<|Zb ?_
        exact ⟨k - 1,i+1,by omega,⟨by omega,hk,hs⟩,rfl,rfl,rfl,ivq (by rw [Z7 (by rw [Zx];omega),ZL (by omega)];show _=(if limit < ZG (prt gLo ds) days (ds.getD i Dc.z).d∧((Zv (prt gLo ds) days limit i) < 0∨(ds.getD i Dc.z).d < (Zv (prt gLo ds) days limit i)) then (ds.getD i Dc.z).d else (Zv (prt gLo ds) days limit i));split<;>omega),ivq (by rw [Z7 (by rw [Zx];omega),ZL (by omega)];show _=(if limit < ZG (prt gHi ds) days (ds.getD i Dc.z).d∧((Zv (prt gHi ds) days limit i) < 0∨(ds.getD i Dc.z).d < (Zv (prt gHi ds) days limit i)) then (ds.getD i Dc.z).d else (Zv (prt gHi ds) days limit i));split<;>omega),ivq (by omega),trivial⟩
     ·have g2:(ZG (prt gLo ds) days ((ds.getD i Dc.z).d)) > limit:=of_decide_eq_true g2
      refine Za rfl ?_
      refine Zm rfl (Za rfl ?_)
      refine Zm rfl (Yk (a:=(Zv (prt gLo ds) days limit i)) (b:=0) rfl rfl ?_)
      intro t6 g6;cases t6
      ·have g6:¬ ((Zv (prt gLo ds) days limit i) < 0):=of_decide_eq_false g6
       refine Zm rfl (Za rfl ?_)
       refine Zm rfl (Za rfl ?_)
       refine Zm rfl (Za rfl ?_)
       refine Zm rfl (Z0 (b:=sb) (o:=0) (k:=i) (j:=(i:Int)) (by rw [← es];rfl) rfl rfl hi ?_)
       refine Zm rfl (Zn (b:=sb) (o:=0+i * 5) rfl ?_)
       refine Zm rfl (Zy (b:=sb) (o:=0+i * 5) (v:=iv ((ds.getD i Dc.z).d)) rfl rs (Yj (l:=ds) (i:=i) (j:=0) (by omega) rfl) ?_)
       refine Zm rfl (Za rfl ?_)
       refine Zm rfl (Yk (a:=(ds.getD i Dc.z).d) (b:=(Zv (prt gLo ds) days limit i)) rfl rfl ?_)
       intro t7 g7;cases t7
       ·have g7:¬ (((ds.getD i Dc.z).d) < (Zv (prt gLo ds) days limit i)):=of_decide_eq_false g7
        refine Zm rfl (Zd (v:=.bool false) rfl rfl ?_)
        refine Zd (v:=.bool false) rfl rfl<|Zb<|ZK ?_
        first | refine Zj ?_ | skip
        refine Zc<|Zn (b:=H4.next) (o:=0) rfl<|Zy (b:=H4.next) (o:=1) (v:=iv (ZG (prt gHi ds) days ((ds.getD i Dc.z).d))) rfl c5.rd rfl<|Za rfl<|Vu (a:=(ZG (prt gHi ds) days ((ds.getD i Dc.z).d))) (b:=limit) rfl rfl ?_
        intro t8 g8;cases t8
        ·have g8:¬ ((ZG (prt gHi ds) days ((ds.getD i Dc.z).d)) > limit):=of_decide_eq_false g8
         refine Za rfl<|Zg rfl<|Zg rfl<|Zg rfl<|Yu rfl<|Yu rfl<|Yu rfl<|Yu rfl<|Yu rfl<|Yu rfl<|Yu rfl<|Zg rfl<|Zd (v:=.bool false) rfl rfl<|Zb<|ZK ?_
         first | refine Zj ?_ | skip
         show Zo _ _ _ _ _ _ _ _
         refine Za rfl<|Zt (a:=(i:Int)) (b:=1) rfl rfl ⟨by omega,by omega⟩<|Za rfl<|Zb ?_
         exact ⟨k - 1,i+1,by omega,⟨by omega,hk,hs⟩,rfl,rfl,rfl,ivq (by rw [Z7 (by rw [Zx];omega),ZL (by omega)];show _=(if limit < ZG (prt gLo ds) days (ds.getD i Dc.z).d∧((Zv (prt gLo ds) days limit i) < 0∨(ds.getD i Dc.z).d < (Zv (prt gLo ds) days limit i)) then (ds.getD i Dc.z).d else (Zv (prt gLo ds) days limit i));split<;>omega),ivq (by rw [Z7 (by rw [Zx];omega),ZL (by omega)];show _=(if limit < ZG (prt gHi ds) days (ds.getD i Dc.z).d∧((Zv (prt gHi ds) days limit i) < 0∨(ds.getD i Dc.z).d < (Zv (prt gHi ds) days limit i)) then (ds.getD i Dc.z).d else (Zv (prt gHi ds) days limit i));split<;>omega),ivq (by omega),trivial⟩
        ·have g8:(ZG (prt gHi ds) days ((ds.getD i Dc.z).d)) > limit:=of_decide_eq_true g8
         refine Za rfl ?_
         refine Zm rfl (Za rfl ?_)
         refine Zm rfl (Yk (a:=(Zv (prt gHi ds) days limit i)) (b:=0) rfl rfl ?_)
         intro t9 g9;cases t9
         ·have g9:¬ ((Zv (prt gHi ds) days limit i) < 0):=of_decide_eq_false g9
          refine Zm rfl (Za rfl ?_)
          refine Zm rfl (Za rfl ?_)
          refine Zm rfl (Za rfl ?_)
          refine Zm rfl (Z0 (b:=sb) (o:=0) (k:=i) (j:=(i:Int)) (by rw [← es];rfl) rfl rfl hi ?_)
          refine Zm rfl (Zn (b:=sb) (o:=0+i * 5) rfl ?_)
          refine Zm rfl (Zy (b:=sb) (o:=0+i * 5) (v:=iv ((ds.getD i Dc.z).d)) rfl rs (Yj (l:=ds) (i:=i) (j:=0) (by omega) rfl) ?_)
          refine Zm rfl (Za rfl ?_)
          refine Zm rfl (Yk (a:=(ds.getD i Dc.z).d) (b:=(Zv (prt gHi ds) days limit i)) rfl rfl ?_)
          intro t10 g10;cases t10
          ·have g10:¬ (((ds.getD i Dc.z).d) < (Zv (prt gHi ds) days limit i)):=of_decide_eq_false g10
           refine Zm rfl (Zd (v:=.bool false) rfl rfl ?_)
           refine Zd (v:=.bool false) rfl rfl<|Zb<|ZK ?_
           first | refine Zj ?_ | skip
           show Zo _ _ _ _ _ _ _ _
           refine Za rfl<|Zt (a:=(i:Int)) (b:=1) rfl rfl ⟨by omega,by omega⟩<|Za rfl<|Zb ?_
           exact ⟨k - 1,i+1,by omega,⟨by omega,hk,hs⟩,rfl,rfl,rfl,ivq (by rw [Z7 (by rw [Zx];omega),ZL (by omega)];show _=(if limit < ZG (prt gLo ds) days (ds.getD i Dc.z).d∧((Zv (prt gLo ds) days limit i) < 0∨(ds.getD i Dc.z).d < (Zv (prt gLo ds) days limit i)) then (ds.getD i Dc.z).d else (Zv (prt gLo ds) days limit i));split<;>omega),ivq (by rw [Z7 (by rw [Zx];omega),ZL (by omega)];show _=(if limit < ZG (prt gHi ds) days (ds.getD i Dc.z).d∧((Zv (prt gHi ds) days limit i) < 0∨(ds.getD i Dc.z).d < (Zv (prt gHi ds) days limit i)) then (ds.getD i Dc.z).d else (Zv (prt gHi ds) days limit i));split<;>omega),ivq (by omega),trivial⟩
          ·have g10:((ds.getD i Dc.z).d) < (Zv (prt gHi ds) days limit i):=of_decide_eq_true g10
           refine Zm rfl (Zd (v:=.bool true) rfl rfl ?_)
           refine Zd (v:=.bool true) rfl rfl<|Zb<|ZN ?_
           show Zo _ _ _ _ _ _ _ _
           refine Za rfl<|Za rfl<|Z0 (b:=sb) (o:=0) (k:=i) (j:=(i:Int)) (by rw [← es];rfl) rfl rfl hi<|Zn (b:=sb) (o:=0+i * 5) rfl<|Zy (b:=sb) (o:=0+i * 5) (v:=iv ((ds.getD i Dc.z).d)) rfl rs (Yj (l:=ds) (i:=i) (j:=0) (by omega) rfl)<|Za rfl<|Zb ?_
           show Zo _ _ _ _ _ _ _ _
           refine Za rfl<|Zt (a:=(i:Int)) (b:=1) rfl rfl ⟨by omega,by omega⟩<|Za rfl<|Zb ?_
           exact ⟨k - 1,i+1,by omega,⟨by omega,hk,hs⟩,rfl,rfl,rfl,ivq (by rw [Z7 (by rw [Zx];omega),ZL (by omega)];show _=(if limit < ZG (prt gLo ds) days (ds.getD i Dc.z).d∧((Zv (prt gLo ds) days limit i) < 0∨(ds.getD i Dc.z).d < (Zv (prt gLo ds) days limit i)) then (ds.getD i Dc.z).d else (Zv (prt gLo ds) days limit i));split<;>omega),ivq (by rw [Z7 (by rw [Zx];omega),ZL (by omega)];show _=(if limit < ZG (prt gHi ds) days (ds.getD i Dc.z).d∧((Zv (prt gHi ds) days limit i) < 0∨(ds.getD i Dc.z).d < (Zv (prt gHi ds) days limit i)) then (ds.getD i Dc.z).d else (Zv (prt gHi ds) days limit i));split<;>omega),ivq (by omega),trivial⟩
         ·have g9:(Zv (prt gHi ds) days limit i) < 0:=of_decide_eq_true g9
          refine Zm rfl (Za rfl ?_)
          refine Zg rfl<|Zg rfl<|Zg rfl<|Zg rfl<|Zg rfl<|Zg rfl<|Zg rfl ?_
          refine Zm rfl (Zd (v:=.bool true) rfl rfl ?_)
          refine Zd (v:=.bool true) rfl rfl<|Zb<|ZN ?_
          show Zo _ _ _ _ _ _ _ _
          refine Za rfl<|Za rfl<|Z0 (b:=sb) (o:=0) (k:=i) (j:=(i:Int)) (by rw [← es];rfl) rfl rfl hi<|Zn (b:=sb) (o:=0+i * 5) rfl<|Zy (b:=sb) (o:=0+i * 5) (v:=iv ((ds.getD i Dc.z).d)) rfl rs (Yj (l:=ds) (i:=i) (j:=0) (by omega) rfl)<|Za rfl<|Zb ?_
          show Zo _ _ _ _ _ _ _ _
          refine Za rfl<|Zt (a:=(i:Int)) (b:=1) rfl rfl ⟨by omega,by omega⟩<|Za rfl<|Zb ?_
          exact ⟨k - 1,i+1,by omega,⟨by omega,hk,hs⟩,rfl,rfl,rfl,ivq (by rw [Z7 (by rw [Zx];omega),ZL (by omega)];show _=(if limit < ZG (prt gLo ds) days (ds.getD i Dc.z).d∧((Zv (prt gLo ds) days limit i) < 0∨(ds.getD i Dc.z).d < (Zv (prt gLo ds) days limit i)) then (ds.getD i Dc.z).d else (Zv (prt gLo ds) days limit i));split<;>omega),ivq (by rw [Z7 (by rw [Zx];omega),ZL (by omega)];show _=(if limit < ZG (prt gHi ds) days (ds.getD i Dc.z).d∧((Zv (prt gHi ds) days limit i) < 0∨(ds.getD i Dc.z).d < (Zv (prt gHi ds) days limit i)) then (ds.getD i Dc.z).d else (Zv (prt gHi ds) days limit i));split<;>omega),ivq (by omega),trivial⟩
       ·have g7:((ds.getD i Dc.z).d) < (Zv (prt gLo ds) days limit i):=of_decide_eq_true g7
        refine Zm rfl (Zd (v:=.bool true) rfl rfl ?_)
        refine Zd (v:=.bool true) rfl rfl<|Zb<|ZN<|Zc<|Za rfl<|Za rfl<|Z0 (b:=sb) (o:=0) (k:=i) (j:=(i:Int)) (by rw [← es];rfl) rfl rfl hi<|Zn (b:=sb) (o:=0+i * 5) rfl<|Zy (b:=sb) (o:=0+i * 5) (v:=iv ((ds.getD i Dc.z).d)) rfl rs (Yj (l:=ds) (i:=i) (j:=0) (by omega) rfl)<|Za rfl<|Zb<|Zc<|Zn (b:=H4.next) (o:=0) rfl<|Zy (b:=H4.next) (o:=1) (v:=iv (ZG (prt gHi ds) days ((ds.getD i Dc.z).d))) rfl c5.rd rfl<|Za rfl<|Vu (a:=(ZG (prt gHi ds) days ((ds.getD i Dc.z).d))) (b:=limit) rfl rfl ?_
        intro t11 g11;cases t11
        ·have g11:¬ ((ZG (prt gHi ds) days ((ds.getD i Dc.z).d)) > limit):=of_decide_eq_false g11
         refine Za rfl<|Zg rfl<|Zg rfl<|Zg rfl<|Yu rfl<|Yu rfl<|Yu rfl<|Yu rfl<|Yu rfl<|Yu rfl<|Yu rfl<|Zg rfl<|Zd (v:=.bool false) rfl rfl<|Zb<|ZK ?_
         first | refine Zj ?_ | skip
         show Zo _ _ _ _ _ _ _ _
         refine Za rfl<|Zt (a:=(i:Int)) (b:=1) rfl rfl ⟨by omega,by omega⟩<|Za rfl<|Zb ?_
         exact ⟨k - 1,i+1,by omega,⟨by omega,hk,hs⟩,rfl,rfl,rfl,ivq (by rw [Z7 (by rw [Zx];omega),ZL (by omega)];show _=(if limit < ZG (prt gLo ds) days (ds.getD i Dc.z).d∧((Zv (prt gLo ds) days limit i) < 0∨(ds.getD i Dc.z).d < (Zv (prt gLo ds) days limit i)) then (ds.getD i Dc.z).d else (Zv (prt gLo ds) days limit i));split<;>omega),ivq (by rw [Z7 (by rw [Zx];omega),ZL (by omega)];show _=(if limit < ZG (prt gHi ds) days (ds.getD i Dc.z).d∧((Zv (prt gHi ds) days limit i) < 0∨(ds.getD i Dc.z).d < (Zv (prt gHi ds) days limit i)) then (ds.getD i Dc.z).d else (Zv (prt gHi ds) days limit i));split<;>omega),ivq (by omega),trivial⟩
        ·have g11:(ZG (prt gHi ds) days ((ds.getD i Dc.z).d)) > limit:=of_decide_eq_true g11
         refine Za rfl ?_
         refine Zm rfl (Za rfl ?_)
         refine Zm rfl (Yk (a:=(Zv (prt gHi ds) days limit i)) (b:=0) rfl rfl ?_)
         intro t12 g12;cases t12
         ·have g12:¬ ((Zv (prt gHi ds) days limit i) < 0):=of_decide_eq_false g12
          refine Zm rfl (Za rfl ?_)
          refine Zm rfl (Za rfl ?_)
          refine Zm rfl (Za rfl ?_)
          refine Zm rfl (Z0 (b:=sb) (o:=0) (k:=i) (j:=(i:Int)) (by rw [← es];rfl) rfl rfl hi ?_)
          refine Zm rfl (Zn (b:=sb) (o:=0+i * 5) rfl ?_)
          refine Zm rfl (Zy (b:=sb) (o:=0+i * 5) (v:=iv ((ds.getD i Dc.z).d)) rfl rs (Yj (l:=ds) (i:=i) (j:=0) (by omega) rfl) ?_)
          refine Zm rfl (Za rfl ?_)
          refine Zm rfl (Yk (a:=(ds.getD i Dc.z).d) (b:=(Zv (prt gHi ds) days limit i)) rfl rfl ?_)
          intro t13 g13;cases t13
          ·have g13:¬ (((ds.getD i Dc.z).d) < (Zv (prt gHi ds) days limit i)):=of_decide_eq_false g13
           refine Zm rfl (Zd (v:=.bool false) rfl rfl ?_)
           refine Zd (v:=.bool false) rfl rfl<|Zb<|ZK ?_
           first | refine Zj ?_ | skip
           show Zo _ _ _ _ _ _ _ _
           refine Za rfl<|Zt (a:=(i:Int)) (b:=1) rfl rfl ⟨by omega,by omega⟩<|Za rfl<|Zb ?_
           exact ⟨k - 1,i+1,by omega,⟨by omega,hk,hs⟩,rfl,rfl,rfl,ivq (by rw [Z7 (by rw [Zx];omega),ZL (by omega)];show _=(if limit < ZG (prt gLo ds) days (ds.getD i Dc.z).d∧((Zv (prt gLo ds) days limit i) < 0∨(ds.getD i Dc.z).d < (Zv (prt gLo ds) days limit i)) then (ds.getD i Dc.z).d else (Zv (prt gLo ds) days limit i));split<;>omega),ivq (by rw [Z7 (by rw [Zx];omega),ZL (by omega)];show _=(if limit < ZG (prt gHi ds) days (ds.getD i Dc.z).d∧((Zv (prt gHi ds) days limit i) < 0∨(ds.getD i Dc.z).d < (Zv (prt gHi ds) days limit i)) then (ds.getD i Dc.z).d else (Zv (prt gHi ds) days limit i));split<;>omega),ivq (by omega),trivial⟩
          ·have g13:((ds.getD i Dc.z).d) < (Zv (prt gHi ds) days limit i):=of_decide_eq_true g13
           refine Zm rfl (Zd (v:=.bool true) rfl rfl ?_)
           refine Zd (v:=.bool true) rfl rfl<|Zb<|ZN ?_
           show Zo _ _ _ _ _ _ _ _
           refine Za rfl<|Za rfl<|Z0 (b:=sb) (o:=0) (k:=i) (j:=(i:Int)) (by rw [← es];rfl) rfl rfl hi<|Zn (b:=sb) (o:=0+i * 5) rfl<|Zy (b:=sb) (o:=0+i * 5) (v:=iv ((ds.getD i Dc.z).d)) rfl rs (Yj (l:=ds) (i:=i) (j:=0) (by omega) rfl)<|Za rfl<|Zb ?_
           show Zo _ _ _ _ _ _ _ _
           refine Za rfl<|Zt (a:=(i:Int)) (b:=1) rfl rfl ⟨by omega,by omega⟩<|Za rfl<|Zb ?_
           exact ⟨k - 1,i+1,by omega,⟨by omega,hk,hs⟩,rfl,rfl,rfl,ivq (by rw [Z7 (by rw [Zx];omega),ZL (by omega)];show _=(if limit < ZG (prt gLo ds) days (ds.getD i Dc.z).d∧((Zv (prt gLo ds) days limit i) < 0∨(ds.getD i Dc.z).d < (Zv (prt gLo ds) days limit i)) then (ds.getD i Dc.z).d else (Zv (prt gLo ds) days limit i));split<;>omega),ivq (by rw [Z7 (by rw [Zx];omega),ZL (by omega)];show _=(if limit < ZG (prt gHi ds) days (ds.getD i Dc.z).d∧((Zv (prt gHi ds) days limit i) < 0∨(ds.getD i Dc.z).d < (Zv (prt gHi ds) days limit i)) then (ds.getD i Dc.z).d else (Zv (prt gHi ds) days limit i));split<;>omega),ivq (by omega),trivial⟩
         ·have g12:(Zv (prt gHi ds) days limit i) < 0:=of_decide_eq_true g12
          refine Zm rfl (Za rfl ?_)
          refine Zg rfl<|Zg rfl<|Zg rfl<|Zg rfl<|Zg rfl<|Zg rfl<|Zg rfl ?_
          refine Zm rfl (Zd (v:=.bool true) rfl rfl ?_)
          refine Zd (v:=.bool true) rfl rfl<|Zb<|ZN ?_
          show Zo _ _ _ _ _ _ _ _
          refine Za rfl<|Za rfl<|Z0 (b:=sb) (o:=0) (k:=i) (j:=(i:Int)) (by rw [← es];rfl) rfl rfl hi<|Zn (b:=sb) (o:=0+i * 5) rfl<|Zy (b:=sb) (o:=0+i * 5) (v:=iv ((ds.getD i Dc.z).d)) rfl rs (Yj (l:=ds) (i:=i) (j:=0) (by omega) rfl)<|Za rfl<|Zb ?_
          show Zo _ _ _ _ _ _ _ _
          refine Za rfl<|Zt (a:=(i:Int)) (b:=1) rfl rfl ⟨by omega,by omega⟩<|Za rfl<|Zb ?_
          exact ⟨k - 1,i+1,by omega,⟨by omega,hk,hs⟩,rfl,rfl,rfl,ivq (by rw [Z7 (by rw [Zx];omega),ZL (by omega)];show _=(if limit < ZG (prt gLo ds) days (ds.getD i Dc.z).d∧((Zv (prt gLo ds) days limit i) < 0∨(ds.getD i Dc.z).d < (Zv (prt gLo ds) days limit i)) then (ds.getD i Dc.z).d else (Zv (prt gLo ds) days limit i));split<;>omega),ivq (by rw [Z7 (by rw [Zx];omega),ZL (by omega)];show _=(if limit < ZG (prt gHi ds) days (ds.getD i Dc.z).d∧((Zv (prt gHi ds) days limit i) < 0∨(ds.getD i Dc.z).d < (Zv (prt gHi ds) days limit i)) then (ds.getD i Dc.z).d else (Zv (prt gHi ds) days limit i));split<;>omega),ivq (by omega),trivial⟩
      ·have g6:(Zv (prt gLo ds) days limit i) < 0:=of_decide_eq_true g6
       refine Zm rfl (Za rfl ?_)
       refine Zg rfl<|Zg rfl<|Zg rfl<|Zg rfl<|Zg rfl<|Zg rfl<|Zg rfl ?_
       refine Zm rfl (Zd (v:=.bool true) rfl rfl ?_)
       refine Zd (v:=.bool true) rfl rfl<|Zb<|ZN<|Zc<|Za rfl<|Za rfl<|Z0 (b:=sb) (o:=0) (k:=i) (j:=(i:Int)) (by rw [← es];rfl) rfl rfl hi<|Zn (b:=sb) (o:=0+i * 5) rfl<|Zy (b:=sb) (o:=0+i * 5) (v:=iv ((ds.getD i Dc.z).d)) rfl rs (Yj (l:=ds) (i:=i) (j:=0) (by omega) rfl)<|Za rfl<|Zb<|Zc<|Zn (b:=H4.next) (o:=0) rfl<|Zy (b:=H4.next) (o:=1) (v:=iv (ZG (prt gHi ds) days ((ds.getD i Dc.z).d))) rfl c5.rd rfl<|Za rfl<|Vu (a:=(ZG (prt gHi ds) days ((ds.getD i Dc.z).d))) (b:=limit) rfl rfl ?_
       intro t14 g14;cases t14
       ·have g14:¬ ((ZG (prt gHi ds) days ((ds.getD i Dc.z).d)) > limit):=of_decide_eq_false g14
        refine Za rfl<|Zg rfl<|Zg rfl<|Zg rfl<|Yu rfl<|Yu rfl<|Yu rfl<|Yu rfl<|Yu rfl<|Yu rfl<|Yu rfl<|Zg rfl<|Zd (v:=.bool false) rfl rfl<|Zb<|ZK ?_
        first | refine Zj ?_ | skip
        show Zo _ _ _ _ _ _ _ _
        refine Za rfl<|Zt (a:=(i:Int)) (b:=1) rfl rfl ⟨by omega,by omega⟩<|Za rfl<|Zb ?_
        exact ⟨k - 1,i+1,by omega,⟨by omega,hk,hs⟩,rfl,rfl,rfl,ivq (by rw [Z7 (by rw [Zx];omega),ZL (by omega)];show _=(if limit < ZG (prt gLo ds) days (ds.getD i Dc.z).d∧((Zv (prt gLo ds) days limit i) < 0∨(ds.getD i Dc.z).d < (Zv (prt gLo ds) days limit i)) then (ds.getD i Dc.z).d else (Zv (prt gLo ds) days limit i));split<;>omega),ivq (by rw [Z7 (by rw [Zx];omega),ZL (by omega)];show _=(if limit < ZG (prt gHi ds) days (ds.getD i Dc.z).d∧((Zv (prt gHi ds) days limit i) < 0∨(ds.getD i Dc.z).d < (Zv (prt gHi ds) days limit i)) then (ds.getD i Dc.z).d else (Zv (prt gHi ds) days limit i));split<;>omega),ivq (by omega),trivial⟩
       ·have g14:(ZG (prt gHi ds) days ((ds.getD i Dc.z).d)) > limit:=of_decide_eq_true g14
        refine Za rfl ?_
        refine Zm rfl (Za rfl ?_)
        refine Zm rfl (Yk (a:=(Zv (prt gHi ds) days limit i)) (b:=0) rfl rfl ?_)
        intro t15 g15;cases t15
        ·have g15:¬ ((Zv (prt gHi ds) days limit i) < 0):=of_decide_eq_false g15
         refine Zm rfl (Za rfl ?_)
         refine Zm rfl (Za rfl ?_)
         refine Zm rfl (Za rfl ?_)
         refine Zm rfl (Z0 (b:=sb) (o:=0) (k:=i) (j:=(i:Int)) (by rw [← es];rfl) rfl rfl hi ?_)
         refine Zm rfl (Zn (b:=sb) (o:=0+i * 5) rfl ?_)
         refine Zm rfl (Zy (b:=sb) (o:=0+i * 5) (v:=iv ((ds.getD i Dc.z).d)) rfl rs (Yj (l:=ds) (i:=i) (j:=0) (by omega) rfl) ?_)
         refine Zm rfl (Za rfl ?_)
         refine Zm rfl (Yk (a:=(ds.getD i Dc.z).d) (b:=(Zv (prt gHi ds) days limit i)) rfl rfl ?_)
         intro t16 g16;cases t16
         ·have g16:¬ (((ds.getD i Dc.z).d) < (Zv (prt gHi ds) days limit i)):=of_decide_eq_false g16
          refine Zm rfl (Zd (v:=.bool false) rfl rfl ?_)
          refine Zd (v:=.bool false) rfl rfl<|Zb<|ZK ?_
          first | refine Zj ?_ | skip
          show Zo _ _ _ _ _ _ _ _
          refine Za rfl<|Zt (a:=(i:Int)) (b:=1) rfl rfl ⟨by omega,by omega⟩<|Za rfl<|Zb ?_
          exact ⟨k - 1,i+1,by omega,⟨by omega,hk,hs⟩,rfl,rfl,rfl,ivq (by rw [Z7 (by rw [Zx];omega),ZL (by omega)];show _=(if limit < ZG (prt gLo ds) days (ds.getD i Dc.z).d∧((Zv (prt gLo ds) days limit i) < 0∨(ds.getD i Dc.z).d < (Zv (prt gLo ds) days limit i)) then (ds.getD i Dc.z).d else (Zv (prt gLo ds) days limit i));split<;>omega),ivq (by rw [Z7 (by rw [Zx];omega),ZL (by omega)];show _=(if limit < ZG (prt gHi ds) days (ds.getD i Dc.z).d∧((Zv (prt gHi ds) days limit i) < 0∨(ds.getD i Dc.z).d < (Zv (prt gHi ds) days limit i)) then (ds.getD i Dc.z).d else (Zv (prt gHi ds) days limit i));split<;>omega),ivq (by omega),trivial⟩
         ·have g16:((ds.getD i Dc.z).d) < (Zv (prt gHi ds) days limit i):=of_decide_eq_true g16
          refine Zm rfl (Zd (v:=.bool true) rfl rfl ?_)
          refine Zd (v:=.bool true) rfl rfl<|Zb<|ZN ?_
          show Zo _ _ _ _ _ _ _ _
          refine Za rfl<|Za rfl<|Z0 (b:=sb) (o:=0) (k:=i) (j:=(i:Int)) (by rw [← es];rfl) rfl rfl hi<|Zn (b:=sb) (o:=0+i * 5) rfl<|Zy (b:=sb) (o:=0+i * 5) (v:=iv ((ds.getD i Dc.z).d)) rfl rs (Yj (l:=ds) (i:=i) (j:=0) (by omega) rfl)<|Za rfl<|Zb ?_
          show Zo _ _ _ _ _ _ _ _
          refine Za rfl<|Zt (a:=(i:Int)) (b:=1) rfl rfl ⟨by omega,by omega⟩<|Za rfl<|Zb ?_
          exact ⟨k - 1,i+1,by omega,⟨by omega,hk,hs⟩,rfl,rfl,rfl,ivq (by rw [Z7 (by rw [Zx];omega),ZL (by omega)];show _=(if limit < ZG (prt gLo ds) days (ds.getD i Dc.z).d∧((Zv (prt gLo ds) days limit i) < 0∨(ds.getD i Dc.z).d < (Zv (prt gLo ds) days limit i)) then (ds.getD i Dc.z).d else (Zv (prt gLo ds) days limit i));split<;>omega),ivq (by rw [Z7 (by rw [Zx];omega),ZL (by omega)];show _=(if limit < ZG (prt gHi ds) days (ds.getD i Dc.z).d∧((Zv (prt gHi ds) days limit i) < 0∨(ds.getD i Dc.z).d < (Zv (prt gHi ds) days limit i)) then (ds.getD i Dc.z).d else (Zv (prt gHi ds) days limit i));split<;>omega),ivq (by omega),trivial⟩
        ·have g15:(Zv (prt gHi ds) days limit i) < 0:=of_decide_eq_true g15
         refine Zm rfl (Za rfl ?_)
         refine Zg rfl<|Zg rfl<|Zg rfl<|Zg rfl<|Zg rfl<|Zg rfl<|Zg rfl ?_
         refine Zm rfl (Zd (v:=.bool true) rfl rfl ?_)
         refine Zd (v:=.bool true) rfl rfl<|Zb<|ZN ?_
         show Zo _ _ _ _ _ _ _ _
         refine Za rfl<|Za rfl<|Z0 (b:=sb) (o:=0) (k:=i) (j:=(i:Int)) (by rw [← es];rfl) rfl rfl hi<|Zn (b:=sb) (o:=0+i * 5) rfl<|Zy (b:=sb) (o:=0+i * 5) (v:=iv ((ds.getD i Dc.z).d)) rfl rs (Yj (l:=ds) (i:=i) (j:=0) (by omega) rfl)<|Za rfl<|Zb ?_
         show Zo _ _ _ _ _ _ _ _
         refine Za rfl<|Zt (a:=(i:Int)) (b:=1) rfl rfl ⟨by omega,by omega⟩<|Za rfl<|Zb ?_
         exact ⟨k - 1,i+1,by omega,⟨by omega,hk,hs⟩,rfl,rfl,rfl,ivq (by rw [Z7 (by rw [Zx];omega),ZL (by omega)];show _=(if limit < ZG (prt gLo ds) days (ds.getD i Dc.z).d∧((Zv (prt gLo ds) days limit i) < 0∨(ds.getD i Dc.z).d < (Zv (prt gLo ds) days limit i)) then (ds.getD i Dc.z).d else (Zv (prt gLo ds) days limit i));split<;>omega),ivq (by rw [Z7 (by rw [Zx];omega),ZL (by omega)];show _=(if limit < ZG (prt gHi ds) days (ds.getD i Dc.z).d∧((Zv (prt gHi ds) days limit i) < 0∨(ds.getD i Dc.z).d < (Zv (prt gHi ds) days limit i)) then (ds.getD i Dc.z).d else (Zv (prt gHi ds) days limit i));split<;>omega),ivq (by omega),trivial⟩
    ·have q1:¬ ((i:Int) < (n:Int)):=of_decide_eq_false q1
     obtain rfl:i=n:=by omega
     have e1:=zn (l:=prt gLo ds) (days:=days) (limit:=limit);have e2:=zn (l:=prt gHi ds) (days:=days) (limit:=limit);rw [Zx,hl] at e1 e2;have hfs:=zV (l:=prt gHi ds) (days:=days) (limit:=limit) (fun p hp=>(V4 hbd p hp).1);have hfm:fab (prt gHi ds) days limit = -1∨0≤fab (prt gHi ds) days limit:=by rcases hfs with ⟨q,_⟩ | ⟨p,hp,q,_⟩;exact .inl q;(have:=(V4 hbd p hp).1;exact .inr (by omega))
     first | (refine ZC ?_;show wC _ _ _ _ _ _ _ _ _) | skip
     refine Zc<|Za rfl<|ZB (a:=(Zv (prt gHi ds) days limit i)) (b:=0) rfl rfl<|Zb ?_
     refine And.intro (fun q17=>?_) (fun q17=>?_)
     ·have q17:(Zv (prt gHi ds) days limit i) < 0:=of_decide_eq_true q17
      refine Zc<|Za rfl<|Za rfl<|Za rfl<|Zb ?_
      exact And.intro trivial (Exists.intro _ (And.intro rfl ⟨Ww (ZbZ hvd (by assumption) (by assumption) (by omega)),hk⟩))
     ·have q17:¬ ((Zv (prt gHi ds) days limit i) < 0):=of_decide_eq_false q17
      first | refine Zj ?_ | skip
      refine Zc<|Za rfl<|Za rfl<|Za rfl<|Za rfl<|Za rfl<|Zb ?_
      exact And.intro trivial (Exists.intro _ (And.intro rfl ⟨Ww ((by rw [e1,e2];exact Zcn hvd (by assumption) (by assumption) (by omega))),hk⟩))
end
end
end Go.Ax


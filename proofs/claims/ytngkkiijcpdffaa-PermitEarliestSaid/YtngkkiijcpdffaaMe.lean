import Derived.Test.YtngkkiijcpdffaaMd
set_option linter.all false
/-
 Pool: sorting that keeps the order: merging in place (written by program).
-/
namespace Go.Ax
open Go Go.RowKit Go.Proofs

noncomputable section
noncomputable def R83v:RC:=(.seq (.seq (.reg [oM 25 2,oM 26 1,oS 27 .sub 25 26,oQ 28 .eql 27 1])
 (.cond (.tmp 28) (.seq (.reg [oM 29 2,oM 10 29])
 (.seq (.reg [oM 30 3,oM 11 30])
 (.seq (.block 0 (.other (at_ Try.f83 [0,1,0,1,1,0,0])))
 (.seq (.seq (.reg [oM 54 1,oM 13 54])
 (.block 2 (.other (at_ Try.f83 [0,1,0,1,1,1,0,1,0]))))
 .ret))))
 .skip))
 (.seq (.seq (.reg [oM 77 3,oM 78 2,oS 79 .sub 77 78,oQ 80 .eql 79 1])
 (.cond (.tmp 80) (.seq (.reg [oM 81 1,oM 14 81])
 (.seq (.reg [oM 82 2,oM 15 82])
 (.seq (.block 4 (.other (at_ Try.f83 [1,0,1,0,1,1,0,0])))
 (.seq (.seq (.reg [oM 107 2,oM 17 107])
 (.block 6 (.other (at_ Try.f83 [1,0,1,0,1,1,1,0,1,0]))))
 .ret))))
 .skip))
 (.seq (.reg [oM 129 1, oM 130 3, oS 131 .add 129 130, ⟨some 132, none, (.pur ⟨some 132, (.convert 3 128 (.tmp 131)), 128, "", #[], none⟩)⟩, ⟨some 133, none, (.pur ⟨some 133, (.binOp .shr 128 (.tmp 132) (.const (.int .u64 1)) 128), 128, "", #[], none⟩)⟩, ⟨some 134, none, (.pur ⟨some 134, (.convert 128 3 (.tmp 133)), 3, "", #[], none⟩)⟩, oM 18 134])
 (.seq (.reg [oM 135 18,oM 136 2,oS 137 .add 135 136,oM 19 137])
 (.seq (.reg [oN 20 0,oN 21 0])
 (.seq (.seq (.reg [oM 138 2,oM 139 18,⟨some 140,none,(.cmp .gtr (.tmp 138) (.tmp 139))⟩])
 (.cond (.tmp 140) (.seq (.reg [oM 141 19,oM 142 3,oS 143 .sub 141 142,oM 20 143])
 (.reg [oM 144 18,oM 21 144]))
 (.seq (.reg [oM 145 1,oM 20 145])
 (.reg [oM 146 2,oM 21 146]))))
 (.other (at_ Try.f83 [1,1,1,1,1,1]))))))))
theorem V83:LV Try.prog 220 (at_ Try.f83 []) R83v:=by
 have e:at_ Try.f83 []=(.seq (at_ Try.f83 [0]) (.seq (at_ Try.f83 [1,0]) (.seq (at_ Try.f83 [1,1,0]) (.seq (at_ Try.f83 [1,1,1,0]) (.seq (at_ Try.f83 [1,1,1,1,0]) (.seq (at_ Try.f83 [1,1,1,1,1,0]) (at_ Try.f83 [1,1,1,1,1,1]))))))):=by kernel_rfl
 rw [e]
 exact (.seq (.low (by kernel_rfl)) (.seq (.low (by kernel_rfl)) (.seq (.low (by kernel_rfl)) (.seq (.low (by kernel_rfl)) (.seq (.low (by kernel_rfl)) (.seq (.low (by kernel_rfl)) (.other _)))))))
noncomputable def R83Gv:RC:=(.seq (.reg [oM 147 19,oR 148 .sub 147 1,oM 22 148])
 (.seq (.block 8 (.other (at_ Try.f83 [1,1,1,1,1,1,1,0,0])))
 (.seq (.reg [oM 175 19,oM 176 20,oS 177 .sub 175 176,oM 24 177])
 (.seq (.other (at_ Try.f83 [1,1,1,1,1,1,1,1,1,0]))
 (.seq (.other (at_ Try.f83 [1,1,1,1,1,1,1,1,1,1,0]))
 (.other (at_ Try.f83 [1,1,1,1,1,1,1,1,1,1,1])))))))
theorem Zfv:LV Try.prog 220 (at_ Try.f83 [1,1,1,1,1,1]) R83Gv:=by
 have e:at_ Try.f83 [1,1,1,1,1,1]=(.seq (at_ Try.f83 [1,1,1,1,1,1,0]) (.seq (at_ Try.f83 [1,1,1,1,1,1,1,0]) (.seq (at_ Try.f83 [1,1,1,1,1,1,1,1,0]) (.seq (at_ Try.f83 [1,1,1,1,1,1,1,1,1,0]) (.seq (at_ Try.f83 [1,1,1,1,1,1,1,1,1,1,0]) (at_ Try.f83 [1,1,1,1,1,1,1,1,1,1,1])))))):=by kernel_rfl
 rw [e]
 exact (.seq (.low (by kernel_rfl)) (.seq (.low (by kernel_rfl)) (.seq (.low (by kernel_rfl)) (.seq (.other _) (.seq (.other _) (.other _))))))
noncomputable def R83A:RC:=(.seq (.reg [oM 178 20,oM 179 2,⟨some 180,none,(.cmpb .lss (.tmp 178) (.tmp 179))⟩,oM 181 180,oG 182 181 true 2,oG 183 181 true 24,⟨some 184,(some (181,true)),(.cmpb .lss (.tmp 182) (.tmp 183))⟩,oA 185 181 184])
 (.cond (.tmp 185) (.reg [oM 186 0,oM 187 20,oM 188 2,oM 189 24,oM 190 4,oC 191 84 #[(.tmp 186),(.tmp 187),(.tmp 188),(.tmp 189),(.tmp 190)] #[75,3,3,3,100]])
 .skip))
theorem ZfB:low Try.prog 220 (at_ Try.f83 [1,1,1,1,1,1,1,1,1,0])=some R83A:=by kernel_rfl
noncomputable def R83B:RC:=(.seq (.reg [oM 192 1,oM 193 20,⟨some 194,none,(.cmpb .lss (.tmp 192) (.tmp 193))⟩,oM 195 194,oG 196 195 true 20,oG 197 195 true 18,⟨some 198,(some (195,true)),(.cmpb .lss (.tmp 196) (.tmp 197))⟩,oA 199 195 198])
 (.cond (.tmp 199) (.reg [oM 200 0,oM 201 1,oM 202 20,oM 203 18,oM 204 4,oC 205 83 #[(.tmp 200),(.tmp 201),(.tmp 202),(.tmp 203),(.tmp 204)] #[75,3,3,3,100]])
 .skip))
theorem Zfu:low Try.prog 220 (at_ Try.f83 [1,1,1,1,1,1,1,1,1,1,0])=some R83B:=by kernel_rfl
noncomputable def R83C:RC:=(.seq (.reg [oM 206 18,oM 207 24,⟨some 208,none,(.cmpb .lss (.tmp 206) (.tmp 207))⟩,oM 209 208,oG 210 209 true 24,oG 211 209 true 3,⟨some 212,(some (209,true)),(.cmpb .lss (.tmp 210) (.tmp 211))⟩,oA 213 209 212])
 (.cond (.tmp 213) (.reg [oM 214 0,oM 215 18,oM 216 24,oM 217 3,oM 218 4,oC 219 83 #[(.tmp 214),(.tmp 215),(.tmp 216),(.tmp 217),(.tmp 218)] #[75,3,3,3,100]])
 .skip))
theorem ZfD:low Try.prog 220 (at_ Try.f83 [1,1,1,1,1,1,1,1,1,1,1])=some R83C:=by kernel_rfl
section
variable {kn:Kn} {lo:Nat} {H:Hp}
set_option maxRecDepth 100000 in
set_option maxHeartbeats 2000000 in
theorem ZeR {bd cap n:Nat} {g:Nat→Nat} {v u:Nat→Int} {Hr:Hp} (hlb:lo≤bd) (hn:n≤1000000) (hlo:lo≤Hr.next) (hk:KT bd Hr H) (hc:Cl H bd (cG (fun x=>[iv (v x),iv (u x)]) n g)) {fc:FuncId} {caps:Array Value} {a m b mid s e:Nat} (hsm:s≤m) (hme:m≤e) (heb:e≤n) {S:Rg} {K:Exit→Rg→Hp→Prop} (hS:V0 [(0,.slice (some ⟨bd,0,none⟩) n cap),(1,iv (a:Int)),(2,iv (m:Int)),(3,iv (b:Int)),(4,.func (.func fc) #[] caps),(18,iv (mid:Int)),(20,iv (s:Int)),(24,iv (e:Int))] S) (hN:∀ H' S',PRm s e g (rot g s m e)→KT bd Hr H'→Cl H' bd (cG (fun x=>[iv (v x),iv (u x)]) n (rot g s m e))→V0 [(0,.slice (some ⟨bd,0,none⟩) n cap),(1,iv (a:Int)),(2,iv (m:Int)),(3,iv (b:Int)),(4,.func (.func fc) #[] caps),(18,iv (mid:Int)),(20,iv (s:Int)),(24,iv (e:Int))] S'→K .normal S' H'):Tri Try.prog kn lo 220 false (at_ Try.f83 [1,1,1,1,1,1,1,1,1,0]) S H K:=by
 refine U1 ZfB hS ?_
 refine Zc<|Za rfl<|Za rfl<|Xc (a:=(s:Int)) (b:=(m:Int)) rfl rfl ?_
 intro t1 g1;cases t1
 ·have g1:¬ ((s:Int) < (m:Int)):=of_decide_eq_false g1
  refine Za rfl<|Zh rfl<|Zh rfl<|Zh rfl<|Zd (v:=.bool false) rfl rfl<|Zb<|ZQ ?_
  first | refine Zj ?_ | skip
  have er:=z8 (g:=g) (s:=s) (m:=m) (e:=e) (by omega) (by omega) (by omega)
  exact hN _ _ (by rw [er];exact PRm.refl _ _ _) hk (by rw [er];exact hc) ⟨rfl,rfl,rfl,rfl,rfl,rfl,rfl,rfl,trivial⟩
 ·have g1:(s:Int) < (m:Int):=of_decide_eq_true g1
  refine Za rfl ?_
  refine Zl rfl (Za rfl ?_)
  refine Zl rfl (Za rfl ?_)
  refine Zl rfl (Xc (a:=(m:Int)) (b:=(e:Int)) rfl rfl ?_)
  intro t2 g2;cases t2
  ·have g2:¬ ((m:Int) < (e:Int)):=of_decide_eq_false g2
   refine Zd (v:=.bool false) rfl rfl<|Zb<|ZQ ?_
   first | refine Zj ?_ | skip
   have er:=z8 (g:=g) (s:=s) (m:=m) (e:=e) (by omega) (by omega) (by omega)
   exact hN _ _ (by rw [er];exact PRm.refl _ _ _) hk (by rw [er];exact hc) ⟨rfl,rfl,rfl,rfl,rfl,rfl,rfl,rfl,trivial⟩
  ·have g2:(m:Int) < (e:Int):=of_decide_eq_true g2
   refine Zd (v:=.bool true) rfl rfl<|Zb<|ZK ?_
   show Zn _ _ _ _ _ _ _ _
   refine Za rfl<|Za rfl<|Za rfl<|Za rfl<|Za rfl ?_
   obtain ⟨H1,fH1,pH1,kH1,cH1⟩:=ZcA (kn:=kn) (lo:=lo) (H:=H) (by have:=hk.1;omega) hlb hn (cap:=cap) hc (cv:=.func (.func fc) #[] caps) (a:=s) (m:=m) (b:=e) (by omega) (by omega) (by omega)
   refine Zi (vs:=[.slice (some ⟨bd,0,none⟩) n cap,iv (s:Int),iv (m:Int),iv (e:Int),.func (.func fc) #[] caps]) rfl (Ze fH1) ?_
   have mH1:=kH1.1
   have hk:=hk.trans kH1
   have hc:=cH1
   refine Zb ?_
   exact hN _ _ pH1 hk hc ⟨rfl,rfl,rfl,rfl,rfl,rfl,rfl,rfl,trivial⟩
set_option maxRecDepth 100000 in
set_option maxHeartbeats 2000000 in
theorem ZeQ {bd cap n:Nat} {g:Nat→Nat} {v u:Nat→Int} {Hr:Hp} (hlb:lo≤bd) (hn:n≤1000000) (hlo:lo≤Hr.next) (hk:KT bd Hr H) (hc:Cl H bd (cG (fun x=>[iv (v x),iv (u x)]) n g)) {fc:FuncId} {caps:Array Value} {M a m b mid s e:Nat} {key:Nat→Int} (ih:∀ (H1:Hp) (a m b:Nat) (g:Nat→Nat),KT bd Hr H1→a < m→m < b→b≤n→b - a < M→(∀ k,k < n→g k < n)→So key a m g→So key m b g→Cr a m b g→Cl H1 bd (cG (fun x=>[iv (v x),iv (u x)]) n g)→∃ H' g',FnX Try.prog kn lo 83 [.slice (some ⟨bd,0,none⟩) n cap,iv (a:Int),iv (m:Int),iv (b:Int),.func (.func fc) #[] caps] H1 (.tuple #[]) H'∧PRm a b g g'∧So key a b g'∧KT bd H1 H'∧Cl H' bd (cG (fun x=>[iv (v x),iv (u x)]) n g')) (h1:a≤s) (h2:s≤mid) (hz:mid≤n) (hM:mid - a < M) (hd:∀ k,k < n→g k < n) (hp1:So key a s g) (hp2:So key s mid g) (hcr:Cr a s mid g) {S:Rg} {K:Exit→Rg→Hp→Prop} (hS:V0 [(0,.slice (some ⟨bd,0,none⟩) n cap),(1,iv (a:Int)),(2,iv (m:Int)),(3,iv (b:Int)),(4,.func (.func fc) #[] caps),(18,iv (mid:Int)),(20,iv (s:Int)),(24,iv (e:Int))] S) (hN:∀ H' S' g',PRm a mid g g'→So key a mid g'→KT bd Hr H'→Cl H' bd (cG (fun x=>[iv (v x),iv (u x)]) n g')→V0 [(0,.slice (some ⟨bd,0,none⟩) n cap),(1,iv (a:Int)),(2,iv (m:Int)),(3,iv (b:Int)),(4,.func (.func fc) #[] caps),(18,iv (mid:Int)),(20,iv (s:Int)),(24,iv (e:Int))] S'→K .normal S' H'):Tri Try.prog kn lo 220 false (at_ Try.f83 [1,1,1,1,1,1,1,1,1,1,0]) S H K:=by
 refine U1 Zfu hS ?_
 refine Zc<|Za rfl<|Za rfl<|Xc (a:=(a:Int)) (b:=(s:Int)) rfl rfl ?_
 intro t1 g1;cases t1
 ·have g1:¬ ((a:Int) < (s:Int)):=of_decide_eq_false g1
  refine Za rfl<|Zh rfl<|Zh rfl<|Zh rfl<|Zd (v:=.bool false) rfl rfl<|Zb<|ZQ ?_
  first | refine Zj ?_ | skip
  exact hN _ _ g (PRm.refl _ _ _) (by rcases Nat.lt_or_ge a s with c | c;exact hp1.mono (Nat.le_refl _) (by omega);exact hp2.mono (by omega) (Nat.le_refl _)) hk hc ⟨rfl,rfl,rfl,rfl,rfl,rfl,rfl,rfl,trivial⟩
 ·have g1:(a:Int) < (s:Int):=of_decide_eq_true g1
  refine Za rfl ?_
  refine Zl rfl (Za rfl ?_)
  refine Zl rfl (Za rfl ?_)
  refine Zl rfl (Xc (a:=(s:Int)) (b:=(mid:Int)) rfl rfl ?_)
  intro t2 g2;cases t2
  ·have g2:¬ ((s:Int) < (mid:Int)):=of_decide_eq_false g2
   refine Zd (v:=.bool false) rfl rfl<|Zb<|ZQ ?_
   first | refine Zj ?_ | skip
   exact hN _ _ g (PRm.refl _ _ _) (by rcases Nat.lt_or_ge a s with c | c;exact hp1.mono (Nat.le_refl _) (by omega);exact hp2.mono (by omega) (Nat.le_refl _)) hk hc ⟨rfl,rfl,rfl,rfl,rfl,rfl,rfl,rfl,trivial⟩
  ·have g2:(s:Int) < (mid:Int):=of_decide_eq_true g2
   refine Zd (v:=.bool true) rfl rfl<|Zb<|ZK ?_
   show Zn _ _ _ _ _ _ _ _
   refine Za rfl<|Za rfl<|Za rfl<|Za rfl<|Za rfl ?_
   obtain ⟨H1,gH1,fH1,pH1,sH1,kH1,cH1⟩:=ih H a s mid g hk (by omega) (by omega) (by omega) (by omega) hd hp1 hp2 hcr hc
   refine Zi (vs:=[.slice (some ⟨bd,0,none⟩) n cap,iv (a:Int),iv (s:Int),iv (mid:Int),.func (.func fc) #[] caps]) rfl (Ze fH1) ?_
   have mH1:=kH1.1
   have hk:=hk.trans kH1
   have hc:=cH1
   refine Zb ?_
   exact hN _ _ _ pH1 sH1 hk hc ⟨rfl,rfl,rfl,rfl,rfl,rfl,rfl,rfl,trivial⟩
set_option maxRecDepth 100000 in
set_option maxHeartbeats 2000000 in
theorem Zeo {bd cap n:Nat} {g:Nat→Nat} {v u:Nat→Int} {Hr:Hp} (hlb:lo≤bd) (hn:n≤1000000) (hlo:lo≤Hr.next) (hk:KT bd Hr H) (hc:Cl H bd (cG (fun x=>[iv (v x),iv (u x)]) n g)) {fc:FuncId} {caps:Array Value} {M a m b mid s e:Nat} {key:Nat→Int} (ih:∀ (H1:Hp) (a m b:Nat) (g:Nat→Nat),KT bd Hr H1→a < m→m < b→b≤n→b - a < M→(∀ k,k < n→g k < n)→So key a m g→So key m b g→Cr a m b g→Cl H1 bd (cG (fun x=>[iv (v x),iv (u x)]) n g)→∃ H' g',FnX Try.prog kn lo 83 [.slice (some ⟨bd,0,none⟩) n cap,iv (a:Int),iv (m:Int),iv (b:Int),.func (.func fc) #[] caps] H1 (.tuple #[]) H'∧PRm a b g g'∧So key a b g'∧KT bd H1 H'∧Cl H' bd (cG (fun x=>[iv (v x),iv (u x)]) n g')) (h1:mid≤e) (h2:e≤b) (hz:b≤n) (hM:b - mid < M) (hd:∀ k,k < n→g k < n) (hp1:So key mid e g) (hp2:So key e b g) (hcr:Cr mid e b g) {S:Rg} {K:Exit→Rg→Hp→Prop} (hS:V0 [(0,.slice (some ⟨bd,0,none⟩) n cap),(1,iv (a:Int)),(2,iv (m:Int)),(3,iv (b:Int)),(4,.func (.func fc) #[] caps),(18,iv (mid:Int)),(20,iv (s:Int)),(24,iv (e:Int))] S) (hN:∀ H' S' g',PRm mid b g g'→So key mid b g'→KT bd Hr H'→Cl H' bd (cG (fun x=>[iv (v x),iv (u x)]) n g')→V0 [(0,.slice (some ⟨bd,0,none⟩) n cap),(1,iv (a:Int)),(2,iv (m:Int)),(3,iv (b:Int)),(4,.func (.func fc) #[] caps),(18,iv (mid:Int)),(20,iv (s:Int)),(24,iv (e:Int))] S'→K .normal S' H'):Tri Try.prog kn lo 220 false (at_ Try.f83 [1,1,1,1,1,1,1,1,1,1,1]) S H K:=by
 refine U1 ZfD hS ?_
 refine Zc<|Za rfl<|Za rfl<|Xc (a:=(mid:Int)) (b:=(e:Int)) rfl rfl ?_
 intro t1 g1;cases t1
 ·have g1:¬ ((mid:Int) < (e:Int)):=of_decide_eq_false g1
  refine Za rfl<|Zh rfl<|Zh rfl<|Zh rfl<|Zd (v:=.bool false) rfl rfl<|Zb<|ZQ ?_
  first | refine Zj ?_ | skip
  exact hN _ _ g (PRm.refl _ _ _) (by rcases Nat.lt_or_ge mid e with c | c;exact hp1.mono (Nat.le_refl _) (by omega);exact hp2.mono (by omega) (Nat.le_refl _)) hk hc ⟨rfl,rfl,rfl,rfl,rfl,rfl,rfl,rfl,trivial⟩
 ·have g1:(mid:Int) < (e:Int):=of_decide_eq_true g1
  refine Za rfl ?_
  refine Zl rfl (Za rfl ?_)
  refine Zl rfl (Za rfl ?_)
  refine Zl rfl (Xc (a:=(e:Int)) (b:=(b:Int)) rfl rfl ?_)
  intro t2 g2;cases t2
  ·have g2:¬ ((e:Int) < (b:Int)):=of_decide_eq_false g2
   refine Zd (v:=.bool false) rfl rfl<|Zb<|ZQ ?_
   first | refine Zj ?_ | skip
   exact hN _ _ g (PRm.refl _ _ _) (by rcases Nat.lt_or_ge mid e with c | c;exact hp1.mono (Nat.le_refl _) (by omega);exact hp2.mono (by omega) (Nat.le_refl _)) hk hc ⟨rfl,rfl,rfl,rfl,rfl,rfl,rfl,rfl,trivial⟩
  ·have g2:(e:Int) < (b:Int):=of_decide_eq_true g2
   refine Zd (v:=.bool true) rfl rfl<|Zb<|ZK ?_
   show Zn _ _ _ _ _ _ _ _
   refine Za rfl<|Za rfl<|Za rfl<|Za rfl<|Za rfl ?_
   obtain ⟨H1,gH1,fH1,pH1,sH1,kH1,cH1⟩:=ih H mid e b g hk (by omega) (by omega) (by omega) (by omega) hd hp1 hp2 hcr hc
   refine Zi (vs:=[.slice (some ⟨bd,0,none⟩) n cap,iv (mid:Int),iv (e:Int),iv (b:Int),.func (.func fc) #[] caps]) rfl (Ze fH1) ?_
   have mH1:=kH1.1
   have hk:=hk.trans kH1
   have hc:=cH1
   refine Zb ?_
   exact hN _ _ _ pH1 sH1 hk hc ⟨rfl,rfl,rfl,rfl,rfl,rfl,rfl,rfl,trivial⟩
set_option maxRecDepth 100000 in
set_option maxHeartbeats 2000000 in
theorem ZcX {bd cap n:Nat} {g:Nat→Nat} {v u:Nat→Int} {Hr:Hp} (hlb:lo≤bd) (hn:n≤1000000) (hlo:lo≤Hr.next) (hk:KT bd Hr H) (hc:Cl H bd (cG (fun x=>[iv (v x),iv (u x)]) n g)) {fc:FuncId} {caps:Array Value} {M a m b mid nn s0 r0:Nat} {key:Nat→Int} (ih:∀ (H1:Hp) (a m b:Nat) (g:Nat→Nat),KT bd Hr H1→a < m→m < b→b≤n→b - a < M→(∀ k,k < n→g k < n)→So key a m g→So key m b g→Cr a m b g→Cl H1 bd (cG (fun x=>[iv (v x),iv (u x)]) n g)→∃ H' g',FnX Try.prog kn lo 83 [.slice (some ⟨bd,0,none⟩) n cap,iv (a:Int),iv (m:Int),iv (b:Int),.func (.func fc) #[] caps] H1 (.tuple #[]) H'∧PRm a b g g'∧So key a b g'∧KT bd H1 H'∧Cl H' bd (cG (fun x=>[iv (v x),iv (u x)]) n g')) (hcmp:Ke Try.prog kn lo bd fc caps (fun x=>.agg #[iv (v x),iv (u x)]) n key Hr) (ham:a < m) (hmb:m < b) (hb:b≤n) (hM:b - a≤M) (hmid:mid=(a+b) / 2) (hnn:nn=mid+m) (hs0:(mid < m∧s0+b=nn∧r0=mid)∨(m≤mid∧s0=a∧r0=m)) (h2:2≤m - a) (hd:∀ k,k < n→g k < n) (hp1:So key a m g) (hp2:So key m b g) (hcr:Cr a m b g) {S:Rg} {K:Exit→Rg→Hp→Prop} (hS:V0 [(0,.slice (some ⟨bd,0,none⟩) n cap),(1,iv (a:Int)),(2,iv (m:Int)),(3,iv (b:Int)),(4,.func (.func fc) #[] caps),(18,iv (mid:Int)),(19,iv (nn:Int)),(20,iv (s0:Int)),(21,iv (r0:Int))] S) (hN:∀ H' S' g',PRm a b g g'→So key a b g'→KT bd Hr H'→Cl H' bd (cG (fun x=>[iv (v x),iv (u x)]) n g')→K .normal S' H'):Tri Try.prog kn lo 220 false (at_ Try.f83 [1,1,1,1,1,1]) S H K:=by
 refine ZdC Zfv hS ?_
 refine Zc<|Za rfl<|Yl (a:=(nn:Int)) (b:=1) rfl rfl ⟨by omega,by omega⟩<|Za rfl<|Zb ?_
 obtain ⟨pp,hpp⟩:∃ pp,pp+1=nn:=⟨nn - 1,by omega⟩
 refine Zt (fn:=Try.f83) ZeL N83 Ze7 (fun x:Nat × Nat=>[(0,.slice (some ⟨bd,0,none⟩) n cap),(1,iv (a:Int)),(2,iv (m:Int)),(3,iv (b:Int)),(4,.func (.func fc) #[] caps),(18,iv (mid:Int)),(19,iv (nn:Int)),(20,iv (x.1:Int)),(21,iv (x.2:Int)),(22,iv (pp:Int))])
  (fun k x H'=>k=x.2 - x.1∧s0≤x.1∧x.1≤x.2∧x.2≤r0∧(x.1=s0∨¬ key (g (pp - (x.1 - 1))) < key (g (x.1 - 1)))∧(x.2=r0∨key (g (pp - x.2)) < key (g x.2))∧KT bd Hr H'∧Cl H' bd (cG (fun x=>[iv (v x),iv (u x)]) n g)) _ (s0,r0) ⟨rfl,Nat.le_refl _,by simp only [];omega,Nat.le_refl _,.inl rfl,.inl rfl,hk,hc⟩ ⟨rfl,rfl,rfl,rfl,rfl,rfl,rfl,rfl,rfl,ivq (by omega),trivial⟩ ?_
 rintro k ⟨s,r⟩ L1 ⟨rfl,hs1,hs2,hs3,hlw,hup,hk,hc⟩
 simp only [] at hs1 hs2 hs3 hlw hup
 have hdm:=hd
 refine Zc<|Za rfl<|Za rfl<|Zx (a:=(s:Int)) (b:=(r:Int)) rfl rfl<|Zb ?_
 refine And.intro (fun q1=>?_) (fun q1=>?_)
 ·have q1:(s:Int) < (r:Int):=of_decide_eq_true q1
  first | refine Zj ?_ | skip
  refine Zc<|Za rfl<|Za rfl<|Zo (a:=(s:Int)) (b:=(r:Int)) rfl rfl ⟨by omega,by omega⟩ ?_
  obtain ⟨h1,eh1⟩:∃ h:Nat,h=(s+r) / 2:=⟨_,rfl⟩
  refine Zd (v:=.int .u64 ((s+r:Nat):Int)) rfl (Zcu (n:=s+r) (j:=(s:Int)+(r:Int)) (by omega) rfl (by omega))<|Zd (v:=.int .u64 ((h1:Nat):Int)) rfl (by rw [eh1];exact qL (m:=s+r) (d:=1) (by decide) rfl rfl)<|Zd (v:=iv (h1:Int)) rfl (Zcw (n:=h1) (j:=(h1:Int)) (by omega) rfl rfl)<|Za rfl<|Zb<|Yq<|Zg rfl<|Zg rfl<|Zg rfl<|Zg rfl<|XT (a:=(pp:Int)) (b:=(h1:Int)) rfl rfl ⟨by omega,by omega⟩<|ZC (b:=bd) (o:=0) (k:=pp - h1) (j:=(pp:Int) - (h1:Int)) rfl rfl (by omega) (by omega)<|Z1 (b:=bd) (o:=0+(pp - h1) * 2) rfl hc.rd (Xn (z:=2) (fun _=>rfl) (by omega))<|Zg rfl<|Zg rfl<|ZC (b:=bd) (o:=0) (k:=h1) (j:=(h1:Int)) rfl rfl (by omega) (by omega)<|Z1 (b:=bd) (o:=0+h1 * 2) rfl hc.rd (Xn (z:=2) (fun _=>rfl) (by omega)) ?_
  obtain ⟨rH1,H1,fH1,kH1,qH1⟩:=hcmp L1 hk.kp (g (pp - h1)) (g h1) (hdm _ (by omega)) (hdm _ (by omega))
  refine Wt (vs:=[.agg #[iv (v (g (pp - h1))),iv (u (g (pp - h1)))],.agg #[iv (v (g h1)),iv (u (g h1))]]) rfl fH1 ?_
  have mH1:=kH1.1
  have hc:=kH1.cl hc (by simp)
  have hk:=hk.keep kH1
  refine Wp (a:=rH1) (b:=0) rfl rfl<|ZH (v:=.bool (!(decide (rH1 < 0)))) rfl rfl ?_
  refine ZL (by repeat' first | exact True.intro | exact (fun h=>h) | refine And.intro ?_ ?_ | (intro h;have h:(_:Nat)=_:=h;omega)) ?_
  refine And.intro (fun q2=>?_) (fun q2=>?_)
  ·have q2:¬ (rH1 < 0):=by simpa using q2
   show Zn _ _ _ _ _ _ _ _
   refine Za rfl<|Zo (a:=(h1:Int)) (b:=1) rfl rfl ⟨by omega,by omega⟩<|Za rfl<|Zb ?_
   exact ⟨_,(h1+1,r),by simp only [];omega,⟨rfl,by simp only [];omega,by simp only [];omega,hs3,.inr (by simp only [];rw [show h1+1 - 1=h1 by omega];exact fun hh=>by have:=qH1.2 hh;omega),hup,hk,hc⟩,rfl,rfl,rfl,rfl,rfl,rfl,rfl,ivq (by simp only [];omega),rfl,rfl,trivial⟩
  ·have q2:¬ (¬ (rH1 < 0)):=by simpa using q2
   show Zn _ _ _ _ _ _ _ _
   refine Za rfl<|Za rfl<|Zb ?_
   exact ⟨_,(s,h1),by simp only [];omega,⟨rfl,hs1,by simp only [];omega,by simp only [];omega,hlw,.inr (qH1.1 (by omega)),hk,hc⟩,rfl,rfl,rfl,rfl,rfl,rfl,rfl,rfl,ivq (by simp only []),rfl,trivial⟩
 ·have q1:¬ ((s:Int) < (r:Int)):=of_decide_eq_false q1
  first | (refine Zy ?_;show wC _ _ _ _ _ _ _ _ _) | skip
  refine Zc<|Za rfl<|Za rfl<|Yl (a:=(nn:Int)) (b:=(s:Int)) rfl rfl ⟨by omega,by omega⟩<|Za rfl<|Zb ?_
  obtain rfl:s=r:=by omega
  obtain ⟨e,he⟩:∃ e,e+s=nn:=⟨nn - s,by omega⟩
  have hcut:Ze1 key a m b s e g:=by
   refine ⟨by omega,by omega,by omega,by omega,?_,?_⟩
   ·by_cases z:s=s0
    ·rcases hs0 with ⟨z1,z2,z3⟩ | ⟨z1,z2,z3⟩
     ·exact .inr (.inl (by omega))
     ·exact .inl (by omega)
    ·have y:=hlw.resolve_left z
     rw [show pp - (s - 1)=e by omega] at y
     exact .inr (.inr (.of_not y (hcr (s - 1) e (by omega) (by omega) (by omega) (by omega))))
   ·by_cases z:s=r0
    ·rcases hs0 with ⟨z1,z2,z3⟩ | ⟨z1,z2,z3⟩
     ·exact .inr (.inl (by omega))
     ·exact .inl (by omega)
    ·have y:=hup.resolve_left z
     rw [show pp - s=e - 1 by omega] at y
     exact .inr (.inr (.lt y))
  have hpt:=Zci hp1 hp2 hcr hcut
  rw [show s+(e - m)=mid by have:=hcut.me;omega] at hpt
  have hbe:=hcut.eb;have hbm:=hcut.sm;have hbl:=hcut.l;have hbn:=hcut.me
  refine ZeR hlb hn hlo hk hc (mid:=mid) (b:=b) hbm hbn (by omega) (by exact ⟨rfl,rfl,rfl,rfl,rfl,rfl,rfl,ivq (by omega),trivial⟩) ?_
  intro HA SA_ pA kA cA sA
  have pA2:=pA.mono hbl (by omega) hbe
  have hdA:=pA2.dom hd hb
  refine ZeQ hlb hn hlo kA cA ih (by omega) (by omega) (by omega) (by omega) hdA hpt.p1 hpt.p2 hpt.c1 sA ?_
  intro HB SB gB pB oB kB cB sB
  have hdB:=pB.dom hdA (by omega)
  obtain ⟨r1,r2,r3⟩:=hpt.right pB (by omega)
  refine Zeo hlb hn hlo kB cB ih (by omega) (by omega) hb (by omega) hdB r1 r2 r3 sB ?_
  intro HC SC gC pC oC kC cC sC
  exact hN _ _ gC (pA2.trans ((pB.mono (Nat.le_refl _) (by omega) (by omega)).trans (pC.mono (by omega) (by omega) (Nat.le_refl _)))) (hpt.done (by omega) (by omega) pB oB pC oC) kC cC
set_option maxRecDepth 100000 in
set_option maxHeartbeats 2000000 in
theorem Zap (hlo:lo≤H.next) {bd cap n M:Nat} {g:Nat→Nat} {v u:Nat→Int} {Hr:Hp} (hlb:lo≤bd) (hn:n≤1000000) (hk0:KT bd Hr H) (hc:Cl H bd (cG (fun x=>[iv (v x),iv (u x)]) n g)) {fc:FuncId} {caps:Array Value} {key:Nat→Int} (ih:∀ (H1:Hp) (a m b:Nat) (g:Nat→Nat),KT bd Hr H1→a < m→m < b→b≤n→b - a < M→(∀ k,k < n→g k < n)→So key a m g→So key m b g→Cr a m b g→Cl H1 bd (cG (fun x=>[iv (v x),iv (u x)]) n g)→∃ H' g',FnX Try.prog kn lo 83 [.slice (some ⟨bd,0,none⟩) n cap,iv (a:Int),iv (m:Int),iv (b:Int),.func (.func fc) #[] caps] H1 (.tuple #[]) H'∧PRm a b g g'∧So key a b g'∧KT bd H1 H'∧Cl H' bd (cG (fun x=>[iv (v x),iv (u x)]) n g')) (hcmp0:Ke Try.prog kn lo bd fc caps (fun x=>.agg #[iv (v x),iv (u x)]) n key Hr) {a m b:Nat} (ham:a < m) (hmb:m < b) (hb:b≤n) (hM:b - a≤M) (hd:∀ k,k < n→g k < n) (hp1:So key a m g) (hp2:So key m b g) (hcr:Cr a m b g) :
  ∃ H' g',FnX Try.prog kn lo 83 [.slice (some ⟨bd,0,none⟩) n cap,iv (a:Int),iv (m:Int),iv (b:Int),.func (.func fc) #[] caps] H (.tuple #[]) H'∧PRm a b g g'∧So key a b g'∧KT bd H H'∧Cl H' bd (cG (fun x=>[iv (v x),iv (u x)]) n g'):=by
 have key_:=Zdo (kn:=kn) (lo:=lo) (H:=H) (args:=[.slice (some ⟨bd,0,none⟩) n cap,iv (a:Int),iv (m:Int),iv (b:Int),.func (.func fc) #[] caps]) (Q:=fun w H'=>w=.tuple #[]∧∃ g',PRm a b g g'∧So key a b g'∧KT bd H H'∧Cl H' bd (cG (fun x=>[iv (v x),iv (u x)]) n g')) Try.func83 B83 N83 Z83 V83 (by simp) ?_
 ·obtain ⟨w,H',h,rfl,g',r⟩:=key_;exact ⟨H',g',h,r⟩
 have hk:=KT.refl (H:=H) hc.1
 have hcmp:=hcmp0.from hk0.kp
 refine Zc<|Za rfl<|Za rfl<|Yl (a:=(m:Int)) (b:=(a:Int)) rfl rfl ⟨by omega,by omega⟩<|Jy (a:=(m:Int) - (a:Int)) (b:=1) rfl rfl<|Zb ?_
 refine And.intro (fun q1=>?_) (fun q1=>?_)
 ·have q1:((m:Int) - (a:Int))=1:=by simpa using q1
  refine Zc<|Za rfl<|Za rfl<|Zb<|Zc<|Za rfl<|Za rfl<|Zb ?_
  refine Zt (fn:=Try.f83) Zd6 N83 Zek (fun x:Nat × Nat=>[(0,.slice (some ⟨bd,0,none⟩) n cap),(1,iv (a:Int)),(2,iv (m:Int)),(3,iv (b:Int)),(4,.func (.func fc) #[] caps),(10,iv (x.1:Int)),(11,iv (x.2:Int))])
   (fun k x H'=>k=x.2 - x.1∧m≤x.1∧x.1≤x.2∧x.2≤b∧(∀ p,m≤p→p < x.1→key (g p) < key (g a))∧(∀ p,x.2≤p→p < b→¬ key (g p) < key (g a))∧KT bd H H'∧Cl H' bd (cG (fun x=>[iv (v x),iv (u x)]) n g)) _ (m,b) ⟨rfl,Nat.le_refl _,by simp only [];omega,Nat.le_refl _,fun p p1 p2=>absurd p2 (by simp only [];omega),fun p p1 p2=>absurd p2 (by simp only [] at p1;omega),hk,hc⟩ ⟨rfl,rfl,rfl,rfl,rfl,rfl,rfl,trivial⟩ ?_
  rintro k ⟨i,j⟩ L1 ⟨rfl,hi1,hi2,hi3,hlw,hup,hk,hc⟩
  simp only [] at hi1 hi2 hi3 hlw hup
  have hdm:=hd
  refine Zc<|Za rfl<|Za rfl<|Zx (a:=(i:Int)) (b:=(j:Int)) rfl rfl<|Zb ?_
  refine And.intro (fun q2=>?_) (fun q2=>?_)
  ·have q2:(i:Int) < (j:Int):=of_decide_eq_true q2
   first | refine Zj ?_ | skip
   refine Zc<|Za rfl<|Za rfl<|Zo (a:=(i:Int)) (b:=(j:Int)) rfl rfl ⟨by omega,by omega⟩ ?_
   obtain ⟨h2,eh2⟩:∃ h:Nat,h=(i+j) / 2:=⟨_,rfl⟩
   refine Zd (v:=.int .u64 ((i+j:Nat):Int)) rfl (Zcu (n:=i+j) (j:=(i:Int)+(j:Int)) (by omega) rfl (by omega))<|Zd (v:=.int .u64 ((h2:Nat):Int)) rfl (by rw [eh2];exact qL (m:=i+j) (d:=1) (by decide) rfl rfl)<|Zd (v:=iv (h2:Int)) rfl (Zcw (n:=h2) (j:=(h2:Int)) (by omega) rfl rfl)<|Za rfl<|Zb<|Yq<|Zg rfl<|Zg rfl<|Zg rfl<|ZC (b:=bd) (o:=0) (k:=h2) (j:=(h2:Int)) rfl rfl (by omega) (by omega)<|Z1 (b:=bd) (o:=0+h2 * 2) rfl hc.rd (Xn (z:=2) (fun _=>rfl) (by omega))<|Zg rfl<|Zg rfl<|ZC (b:=bd) (o:=0) (k:=a) (j:=(a:Int)) rfl rfl (by omega) (by omega)<|Z1 (b:=bd) (o:=0+a * 2) rfl hc.rd (Xn (z:=2) (fun _=>rfl) (by omega)) ?_
   obtain ⟨rH1,H1,fH1,kH1,qH1⟩:=hcmp L1 hk.kp (g h2) (g a) (hdm _ (by omega)) (hdm _ (by omega))
   refine Wt (vs:=[.agg #[iv (v (g h2)),iv (u (g h2))],.agg #[iv (v (g a)),iv (u (g a))]]) rfl fH1 ?_
   have mH1:=kH1.1
   have hc:=kH1.cl hc (by simp)
   have hk:=hk.keep kH1
   refine Wp (a:=rH1) (b:=0) rfl rfl ?_
   refine ZL (by repeat' first | exact True.intro | exact (fun h=>h) | refine And.intro ?_ ?_ | (intro h;have h:(_:Nat)=_:=h;omega)) ?_
   refine And.intro (fun q3=>?_) (fun q3=>?_)
   ·have q3:rH1 < 0:=of_decide_eq_true q3
    show Zn _ _ _ _ _ _ _ _
    refine Za rfl<|Zo (a:=(h2:Int)) (b:=1) rfl rfl ⟨by omega,by omega⟩<|Za rfl<|Zb ?_
    exact ⟨_,(h2+1,j),by simp only [];omega,⟨rfl,by simp only [];omega,by simp only [];omega,hi3,fun p p1 p2=>by have z:=qH1.1 (by omega);have y:=hp2.le (i:=p) (j:=h2) (by omega) (by omega) (by omega);omega,hup,hk,hc⟩,rfl,rfl,rfl,rfl,rfl,ivq (by simp only [];omega),rfl,trivial⟩
   ·have q3:¬ (rH1 < 0):=of_decide_eq_false q3
    show Zn _ _ _ _ _ _ _ _
    refine Za rfl<|Za rfl<|Zb ?_
    exact ⟨_,(i,h2),by simp only [];omega,⟨rfl,hi1,by simp only [];omega,by simp only [];omega,hlw,fun p p1 p2 hh=>by have y:=hp2.le (i:=h2) (j:=p) (by omega) p1 (by omega);have z:=qH1.2 (by omega);omega,hk,hc⟩,rfl,rfl,rfl,rfl,rfl,rfl,ivq (by simp only []),trivial⟩
  ·have q2:¬ ((i:Int) < (j:Int)):=of_decide_eq_false q2
   first | (refine Zy ?_;show wC _ _ _ _ _ _ _ _ _) | skip
   refine Zc<|Za rfl<|Za rfl<|Zb ?_
   obtain rfl:i=j:=by omega
   obtain rfl:m=a+1:=by omega
   refine Zt (fn:=Try.f83) Zd1 N83 Zfr (fun t:Nat=>[(0,.slice (some ⟨bd,0,none⟩) n cap),(10,iv (i:Int)),(13,iv (t:Int))])
    (fun k t H'=>k+t=i - 1∧a≤t∧PRm a b g (mvR g a t)∧KT bd H H'∧Cl H' bd (cG (fun x=>[iv (v x),iv (u x)]) n (mvR g a t))) (i - 1 - a) a ⟨by omega,Nat.le_refl _,by rw [yH];exact PRm.refl _ _ _,hk,by rw [yH];exact hc⟩ ⟨rfl,rfl,rfl,trivial⟩ ?_
   rintro k t L2 ⟨hkt,ht,hp,hk,hc⟩
   refine Zc<|Za rfl<|Za rfl<|Yl (a:=(i:Int)) (b:=1) rfl rfl ⟨by omega,by omega⟩<|Zx (a:=(t:Int)) (b:=(i:Int) - 1) rfl rfl<|Zb ?_
   refine And.intro (fun q4=>?_) (fun q4=>?_)
   ·have q4:(t:Int) < ((i:Int) - 1):=of_decide_eq_true q4
    first | refine Zj ?_ | skip
    first | refine Y6 ?_ | refine VS ?_ | refine UR ?_ | (refine Z5 ?_;refine Y6 ?_)
    refine Zg rfl<|Zg rfl<|Zg rfl<|Zg rfl<|WH (a:=(t:Int)) (b:=1) rfl rfl ⟨by omega,by omega⟩<|Zg rfl<|Zg rfl<|WH (a:=(t:Int)) (b:=1) rfl rfl ⟨by omega,by omega⟩<|ZC (b:=bd) (o:=0) (k:=t+1) (j:=(t:Int)+1) rfl rfl (by omega) (by omega)<|Z1 (b:=bd) (o:=0+(t+1) * 2) rfl hc.rd (Xn (z:=2) (fun _=>rfl) (by omega))<|Zg rfl<|Zg rfl<|ZC (b:=bd) (o:=0) (k:=t) (j:=(t:Int)) rfl rfl (by omega) (by omega)<|Z1 (b:=bd) (o:=0+t * 2) rfl hc.rd (Xn (z:=2) (fun _=>rfl) (by omega))<|ZC (b:=bd) (o:=0) (k:=t) (j:=(t:Int)) rfl rfl (by omega) (by omega)<|WC (b:=bd) (o:=0+t * 2) rfl rfl hc hlb rfl rfl (by rw [Vv (z:=2) (fun _=>rfl)];omega) ?_
    intro H2 kH2 nH2 sH2 tH2
    have mH2:=kH2.1
    have hk:=hk.put kH2 tH2
    have hc:Cl H2 bd (cG (fun x=>[iv (v x),iv (u x)]) n (upd (mvR g a t) t ((mvR g a t) (t+1)))):=by rw [← Vh (z:=2) (fun _=>rfl) (by omega)];exact sH2
    refine ZC (b:=bd) (o:=0) (k:=t+1) (j:=(t:Int)+1) rfl rfl (by omega) (by omega)<|WC (b:=bd) (o:=0+(t+1) * 2) rfl rfl hc hlb rfl rfl (by rw [Vv (z:=2) (fun _=>rfl)];omega) ?_
    intro H3 kH3 nH3 sH3 tH3
    have mH3:=kH3.1
    have hk:=hk.put kH3 tH3
    have hc:Cl H3 bd (cG (fun x=>[iv (v x),iv (u x)]) n (upd (upd (mvR g a t) t ((mvR g a t) (t+1))) (t+1) ((mvR g a t) t))):=by rw [← Vh (z:=2) (fun _=>rfl) (by omega)];exact sH3
    have hc:Cl H3 bd (cG (fun x=>[iv (v x),iv (u x)]) n (swp (mvR g a t) t (t+1))):=hc
    refine ZL (by repeat' first | exact True.intro | exact (fun h=>h) | refine And.intro ?_ ?_ | (intro h;have h:(_:Nat)=_:=h;omega)) ?_
    show Zn _ _ _ _ _ _ _ _
    refine Za rfl<|Zo (a:=(t:Int)) (b:=1) rfl rfl ⟨by omega,by omega⟩<|Za rfl<|Zb ?_
    rw [yE (by omega)] at hc
    exact ⟨k - 1,t+1,by omega,⟨by omega,by omega,by rw [← yE (by omega)];exact hp.trans (PRm.swap (by omega) (by omega) (by omega) (by omega)),hk,hc⟩,rfl,rfl,ivq (by omega),trivial⟩
   ·have q4:¬ ((t:Int) < ((i:Int) - 1)):=of_decide_eq_false q4
    first | (refine Zy ?_;show wC _ _ _ _ _ _ _ _ _) | skip
    have eti:t=i - 1:=by omega
    rw [eti] at hp hc
    exact And.intro trivial (Exists.intro _ (And.intro rfl ⟨rfl,_,hp,jM hp2 hcr hi1 hi3 hlw hup,hk,hc⟩))
 ·have q1:¬ (((m:Int) - (a:Int))=1):=by simpa using q1
  first | refine Zj ?_ | skip
  refine Zc<|Za rfl<|Za rfl<|Yl (a:=(b:Int)) (b:=(m:Int)) rfl rfl ⟨by omega,by omega⟩<|Jy (a:=(b:Int) - (m:Int)) (b:=1) rfl rfl<|Zb ?_
  refine And.intro (fun q5=>?_) (fun q5=>?_)
  ·have q5:((b:Int) - (m:Int))=1:=by simpa using q5
   refine Zc<|Za rfl<|Za rfl<|Zb<|Zc<|Za rfl<|Za rfl<|Zb ?_
   refine Zt (fn:=Try.f83) ZeS N83 Ze2 (fun x:Nat × Nat=>[(0,.slice (some ⟨bd,0,none⟩) n cap),(1,iv (a:Int)),(2,iv (m:Int)),(3,iv (b:Int)),(4,.func (.func fc) #[] caps),(14,iv (x.1:Int)),(15,iv (x.2:Int))])
    (fun k x H'=>k=x.2 - x.1∧a≤x.1∧x.1≤x.2∧x.2≤m∧(∀ p,a≤p→p < x.1→¬ key (g m) < key (g p))∧(∀ p,x.2≤p→p < m→key (g m) < key (g p))∧KT bd H H'∧Cl H' bd (cG (fun x=>[iv (v x),iv (u x)]) n g)) _ (a,m) ⟨rfl,Nat.le_refl _,by simp only [];omega,Nat.le_refl _,fun p p1 p2=>absurd p2 (by simp only [];omega),fun p p1 p2=>absurd p2 (by simp only [] at p1;omega),hk,hc⟩ ⟨rfl,rfl,rfl,rfl,rfl,rfl,rfl,trivial⟩ ?_
   rintro k ⟨i,j⟩ L1 ⟨rfl,hi1,hi2,hi3,hlw,hup,hk,hc⟩
   simp only [] at hi1 hi2 hi3 hlw hup
   have hdm:=hd
   refine Zc<|Za rfl<|Za rfl<|Zx (a:=(i:Int)) (b:=(j:Int)) rfl rfl<|Zb ?_
   refine And.intro (fun q6=>?_) (fun q6=>?_)
   ·have q6:(i:Int) < (j:Int):=of_decide_eq_true q6
    first | refine Zj ?_ | skip
    refine Zc<|Za rfl<|Za rfl<|Zo (a:=(i:Int)) (b:=(j:Int)) rfl rfl ⟨by omega,by omega⟩ ?_
    obtain ⟨h3,eh3⟩:∃ h:Nat,h=(i+j) / 2:=⟨_,rfl⟩
    refine Zd (v:=.int .u64 ((i+j:Nat):Int)) rfl (Zcu (n:=i+j) (j:=(i:Int)+(j:Int)) (by omega) rfl (by omega))<|Zd (v:=.int .u64 ((h3:Nat):Int)) rfl (by rw [eh3];exact qL (m:=i+j) (d:=1) (by decide) rfl rfl)<|Zd (v:=iv (h3:Int)) rfl (Zcw (n:=h3) (j:=(h3:Int)) (by omega) rfl rfl)<|Za rfl<|Zb<|Yq<|Zg rfl<|Zg rfl<|Zg rfl<|ZC (b:=bd) (o:=0) (k:=m) (j:=(m:Int)) rfl rfl (by omega) (by omega)<|Z1 (b:=bd) (o:=0+m * 2) rfl hc.rd (Xn (z:=2) (fun _=>rfl) (by omega))<|Zg rfl<|Zg rfl<|ZC (b:=bd) (o:=0) (k:=h3) (j:=(h3:Int)) rfl rfl (by omega) (by omega)<|Z1 (b:=bd) (o:=0+h3 * 2) rfl hc.rd (Xn (z:=2) (fun _=>rfl) (by omega)) ?_
    obtain ⟨rH4,H4,fH4,kH4,qH4⟩:=hcmp L1 hk.kp (g m) (g h3) (hdm _ (by omega)) (hdm _ (by omega))
    refine Wt (vs:=[.agg #[iv (v (g m)),iv (u (g m))],.agg #[iv (v (g h3)),iv (u (g h3))]]) rfl fH4 ?_
    have mH4:=kH4.1
    have hc:=kH4.cl hc (by simp)
    have hk:=hk.keep kH4
    refine Wp (a:=rH4) (b:=0) rfl rfl<|ZH (v:=.bool (!(decide (rH4 < 0)))) rfl rfl ?_
    refine ZL (by repeat' first | exact True.intro | exact (fun h=>h) | refine And.intro ?_ ?_ | (intro h;have h:(_:Nat)=_:=h;omega)) ?_
    refine And.intro (fun q7=>?_) (fun q7=>?_)
    ·have q7:¬ (rH4 < 0):=by simpa using q7
     show Zn _ _ _ _ _ _ _ _
     refine Za rfl<|Zo (a:=(h3:Int)) (b:=1) rfl rfl ⟨by omega,by omega⟩<|Za rfl<|Zb ?_
     exact ⟨_,(h3+1,j),by simp only [];omega,⟨rfl,by simp only [];omega,by simp only [];omega,hi3,fun p p1 p2 hh=>by have y:=hp1.le (i:=p) (j:=h3) p1 (by omega) (by omega);have z:=qH4.2 (by omega);omega,hup,hk,hc⟩,rfl,rfl,rfl,rfl,rfl,ivq (by simp only [];omega),rfl,trivial⟩
    ·have q7:¬ (¬ (rH4 < 0)):=by simpa using q7
     show Zn _ _ _ _ _ _ _ _
     refine Za rfl<|Za rfl<|Zb ?_
     exact ⟨_,(i,h3),by simp only [];omega,⟨rfl,hi1,by simp only [];omega,by simp only [];omega,hlw,fun p p1 p2=>by have z:=qH4.1 (by omega);have y:=hp1.le (i:=h3) (j:=p) (by omega) p1 (by omega);omega,hk,hc⟩,rfl,rfl,rfl,rfl,rfl,rfl,ivq (by simp only []),trivial⟩
   ·have q6:¬ ((i:Int) < (j:Int)):=of_decide_eq_false q6
    first | (refine Zy ?_;show wC _ _ _ _ _ _ _ _ _) | skip
    refine Zc<|Za rfl<|Za rfl<|Zb ?_
    obtain rfl:i=j:=by omega
    obtain rfl:b=m+1:=by omega
    refine Zt (fn:=Try.f83) ZeU N83 Zel (fun t:Nat=>[(0,.slice (some ⟨bd,0,none⟩) n cap),(14,iv (i:Int)),(17,iv (t:Int))])
     (fun k t H'=>k=t∧i≤t∧t≤m∧PRm a (m+1) g (mvL g m t)∧KT bd H H'∧Cl H' bd (cG (fun x=>[iv (v x),iv (u x)]) n (mvL g m t))) m m ⟨rfl,by omega,Nat.le_refl _,by rw [yn];exact PRm.refl _ _ _,hk,by rw [yn];exact hc⟩ ⟨rfl,rfl,rfl,trivial⟩ ?_
    rintro k t L2 ⟨hkt,ht,ht2,hp,hk,hc⟩
    refine Zc<|Za rfl<|Za rfl<|Y2 (a:=(t:Int)) (b:=(i:Int)) rfl rfl<|Zb ?_
    refine And.intro (fun q8=>?_) (fun q8=>?_)
    ·have q8:(t:Int) > (i:Int):=of_decide_eq_true q8
     first | refine Zj ?_ | skip
     first | refine Y6 ?_ | refine VS ?_ | refine UR ?_ | (refine Z5 ?_;refine Y6 ?_)
     refine Zg rfl<|Zg rfl<|Zg rfl<|Zg rfl<|XT (a:=(t:Int)) (b:=1) rfl rfl ⟨by omega,by omega⟩<|Zg rfl<|Zg rfl<|XT (a:=(t:Int)) (b:=1) rfl rfl ⟨by omega,by omega⟩<|ZC (b:=bd) (o:=0) (k:=t - 1) (j:=(t:Int) - 1) rfl rfl (by omega) (by omega)<|Z1 (b:=bd) (o:=0+(t - 1) * 2) rfl hc.rd (Xn (z:=2) (fun _=>rfl) (by omega))<|Zg rfl<|Zg rfl<|ZC (b:=bd) (o:=0) (k:=t) (j:=(t:Int)) rfl rfl (by omega) (by omega)<|Z1 (b:=bd) (o:=0+t * 2) rfl hc.rd (Xn (z:=2) (fun _=>rfl) (by omega))<|ZC (b:=bd) (o:=0) (k:=t) (j:=(t:Int)) rfl rfl (by omega) (by omega)<|WC (b:=bd) (o:=0+t * 2) rfl rfl hc hlb rfl rfl (by rw [Vv (z:=2) (fun _=>rfl)];omega) ?_
     intro H5 kH5 nH5 sH5 tH5
     have mH5:=kH5.1
     have hk:=hk.put kH5 tH5
     have hc:Cl H5 bd (cG (fun x=>[iv (v x),iv (u x)]) n (upd (mvL g m t) t ((mvL g m t) (t - 1)))):=by rw [← Vh (z:=2) (fun _=>rfl) (by omega)];exact sH5
     refine ZC (b:=bd) (o:=0) (k:=t - 1) (j:=(t:Int) - 1) rfl rfl (by omega) (by omega)<|WC (b:=bd) (o:=0+(t - 1) * 2) rfl rfl hc hlb rfl rfl (by rw [Vv (z:=2) (fun _=>rfl)];omega) ?_
     intro H6 kH6 nH6 sH6 tH6
     have mH6:=kH6.1
     have hk:=hk.put kH6 tH6
     have hc:Cl H6 bd (cG (fun x=>[iv (v x),iv (u x)]) n (upd (upd (mvL g m t) t ((mvL g m t) (t - 1))) (t - 1) ((mvL g m t) t))):=by rw [← Vh (z:=2) (fun _=>rfl) (by omega)];exact sH6
     have hc:Cl H6 bd (cG (fun x=>[iv (v x),iv (u x)]) n (swp (mvL g m t) t (t - 1))):=hc
     refine ZL (by repeat' first | exact True.intro | exact (fun h=>h) | refine And.intro ?_ ?_ | (intro h;have h:(_:Nat)=_:=h;omega)) ?_
     show Zn _ _ _ _ _ _ _ _
     refine Za rfl<|Yl (a:=(t:Int)) (b:=1) rfl rfl ⟨by omega,by omega⟩<|Za rfl<|Zb ?_
     rw [zJ (by omega) (by omega)] at hc
     exact ⟨t - 1,t - 1,by omega,⟨rfl,by omega,by omega,by rw [← zJ (by omega) (by omega)];exact hp.trans (PRm.swap (by omega) (by omega) (by omega) (by omega)),hk,hc⟩,rfl,rfl,ivq (by omega),trivial⟩
    ·have q8:¬ ((t:Int) > (i:Int)):=of_decide_eq_false q8
     first | (refine Zy ?_;show wC _ _ _ _ _ _ _ _ _) | skip
     have eti:t=i:=by omega
     rw [eti] at hp hc
     exact And.intro trivial (Exists.intro _ (And.intro rfl ⟨rfl,_,hp,Za4 hp1 hcr hi1 hi3 hlw hup,hk,hc⟩))
  ·have q5:¬ (((b:Int) - (m:Int))=1):=by simpa using q5
   first | refine Zj ?_ | skip
   refine Zc<|Za rfl<|Za rfl<|Zo (a:=(a:Int)) (b:=(b:Int)) rfl rfl ⟨by omega,by omega⟩ ?_
   obtain ⟨h4,eh4⟩:∃ h:Nat,h=(a+b) / 2:=⟨_,rfl⟩
   refine Zd (v:=.int .u64 ((a+b:Nat):Int)) rfl (Zcu (n:=a+b) (j:=(a:Int)+(b:Int)) (by omega) rfl (by omega))<|Zd (v:=.int .u64 ((h4:Nat):Int)) rfl (by rw [eh4];exact qL (m:=a+b) (d:=1) (by decide) rfl rfl)<|Zd (v:=iv (h4:Int)) rfl (Zcw (n:=h4) (j:=(h4:Int)) (by omega) rfl rfl)<|Za rfl<|Zb<|Zc<|Za rfl<|Za rfl<|Zo (a:=(h4:Int)) (b:=(m:Int)) rfl rfl ⟨by omega,by omega⟩<|Za rfl<|Zb<|Zc<|Za rfl<|Za rfl<|Zb<|Zc<|Za rfl<|Za rfl<|Y2 (a:=(m:Int)) (b:=(h4:Int)) rfl rfl<|Zb ?_
   refine And.intro (fun q9=>?_) (fun q9=>?_)
   ·have q9:(m:Int) > (h4:Int):=of_decide_eq_true q9
    refine Zc<|Za rfl<|Za rfl<|Yl (a:=(h4:Int)+(m:Int)) (b:=(b:Int)) rfl rfl ⟨by omega,by omega⟩<|Za rfl<|Zb<|Zc<|Za rfl<|Za rfl<|Zb ?_
    refine ZcX (mid:=h4) (nn:=h4+m) (s0:=(h4+m) - b) (r0:=h4) hlb hn hlo hk hc (fun H1 a m b g k=>ih H1 a m b g (hk0.trans k)) hcmp ham hmb hb hM eh4 rfl (.inl ⟨by omega,by omega,rfl⟩) (by omega) hd hp1 hp2 hcr (by exact ⟨rfl,rfl,rfl,rfl,rfl,rfl,ivq (by omega),ivq (by omega),ivq (by omega),trivial⟩) ?_
    intro H' S' g' p' s' k' c'
    exact And.intro trivial (Exists.intro _ (And.intro rfl ⟨rfl,g',p',s',k',c'⟩))
   ·have q9:¬ ((m:Int) > (h4:Int)):=of_decide_eq_false q9
    refine Zc<|Za rfl<|Za rfl<|Zb<|Zc<|Za rfl<|Za rfl<|Zb ?_
    refine ZcX (mid:=h4) (nn:=h4+m) (s0:=a) (r0:=m) hlb hn hlo hk hc (fun H1 a m b g k=>ih H1 a m b g (hk0.trans k)) hcmp ham hmb hb hM eh4 rfl (.inr ⟨by omega,rfl,rfl⟩) (by omega) hd hp1 hp2 hcr (by exact ⟨rfl,rfl,rfl,rfl,rfl,rfl,ivq (by omega),ivq (by omega),ivq (by omega),trivial⟩) ?_
    intro H' S' g' p' s' k' c'
    exact And.intro trivial (Exists.intro _ (And.intro rfl ⟨rfl,g',p',s',k',c'⟩))
theorem K8 {bd cap n:Nat} {v u:Nat→Int} {Hr:Hp} (hlo:lo≤Hr.next) (hlb:lo≤bd) (hn:n≤1000000) {fc:FuncId} {caps:Array Value} {key:Nat→Int} (hcmp:Ke Try.prog kn lo bd fc caps (fun x=>.agg #[iv (v x),iv (u x)]) n key Hr):∀ (M:Nat) (H1:Hp) (a m b:Nat) (g:Nat→Nat),KT bd Hr H1→a < m→m < b→b≤n→b - a < M→(∀ k,k < n→g k < n)→So key a m g→So key m b g→Cr a m b g→Cl H1 bd (cG (fun x=>[iv (v x),iv (u x)]) n g)→∃ H' g',FnX Try.prog kn lo 83 [.slice (some ⟨bd,0,none⟩) n cap,iv (a:Int),iv (m:Int),iv (b:Int),.func (.func fc) #[] caps] H1 (.tuple #[]) H'∧PRm a b g g'∧So key a b g'∧KT bd H1 H'∧Cl H' bd (cG (fun x=>[iv (v x),iv (u x)]) n g')
 | 0,_,_,_,_,_,_,_,_,_,h,_,_,_,_,_=>absurd h (Nat.not_lt_zero _)
 | M+1,_,_,_,_,_,hk,ham,hmb,hb,hM,hd,hp1,hp2,hcr,hc=>Zap (Nat.le_trans hlo hk.1) hlb hn hk hc (K8 hlo hlb hn hcmp M) hcmp ham hmb hb (Nat.le_of_lt_succ hM) hd hp1 hp2 hcr
end
end
end Go.Ax

/-
 Pool: sorting that keeps the order: blocks (written by program).
-/
namespace Go.Ax
open Go Go.RowKit Go.Proofs

noncomputable section
theorem Bk.init2 {key:Nat→Int} {bs n:Nat} {g:Nat→Nat} (h:Bk key bs 0 n g):Bk2 key bs 0 n g:=Bk2.init h
theorem Zeu {bs a:Nat} (hb:Bs bs) (h:a % (2 * bs)=0):a % bs=0:=by rcases hb with rfl | rfl | rfl<;>omega
section
variable {kn:Kn} {lo:Nat} {H:Hp}
set_option maxRecDepth 100000 in
set_option maxHeartbeats 2000000 in
theorem qm (hlo:lo≤H.next) {bd cap n:Nat} {v u:Nat→Int} (hlb:lo≤bd) (hn:n≤160) (hc:Cl H bd (cG (fun x=>[iv (v x),iv (u x)]) n fun i=>i)) {fc:FuncId} {caps:Array Value} {key:Nat→Int} (hcmp:Ke Try.prog kn lo bd fc caps (fun x=>.agg #[iv (v x),iv (u x)]) n key H):∃ H' g',FnX Try.prog kn lo 77 [.slice (some ⟨bd,0,none⟩) n cap,iv (n:Int),.func (.func fc) #[] caps] H (.tuple #[]) H'∧PRm 0 n (fun i=>i) g'∧So key 0 n g'∧KT bd H H'∧Cl H' bd (cG (fun x=>[iv (v x),iv (u x)]) n g'):=by
 have key_:=Zp (kn:=kn) (lo:=lo) (H:=H) (args:=[.slice (some ⟨bd,0,none⟩) n cap,iv (n:Int),.func (.func fc) #[] caps]) (Q:=fun w H'=>w=.tuple #[]∧∃ g',PRm 0 n (fun i=>i) g'∧So key 0 n g'∧KT bd H H'∧Cl H' bd (cG (fun x=>[iv (v x),iv (u x)]) n g')) Try.func77 B77 N77 Z77 L77 (by simp) ?_
 ·obtain ⟨w,H',h,rfl,g',r⟩:=key_;exact ⟨H',g',h,r⟩
 have hk:=KT.refl (H:=H) hc.1
 refine Zc<|Za rfl<|Zb<|Zc<|Za rfl<|Za rfl<|Za rfl<|Zb ?_
 refine Zt (fn:=Try.f77) ZcR N77 ZcI (fun a:Nat=>[(0,.slice (some ⟨bd,0,none⟩) n cap),(1,iv (n:Int)),(2,.func (.func fc) #[] caps),(6,iv 20),(7,iv (a:Int)),(8,iv ((a:Int)+20))])
  (fun k a H'=>k=n - a∧a % 20=0∧a≤n∧∃ g',Bk0 key a n g'∧PRm 0 n (fun i=>i) g'∧KT bd H H'∧Cl H' bd (cG (fun x=>[iv (v x),iv (u x)]) n g')) _ 0 ⟨rfl,rfl,Nat.zero_le _,fun i=>i,Bk0.init n,PRm.refl _ _ _,hk,hc⟩ ⟨rfl,rfl,rfl,rfl,rfl,rfl,trivial⟩ ?_
 rintro k a L1 ⟨rfl,ha,han,gx,hB,hp,hk,hc⟩
 refine Zc<|Za rfl<|Za rfl<|Wq (a:=((a:Int)+20)) (b:=(n:Int)) rfl rfl<|Zb ?_
 refine And.intro (fun q1=>?_) (fun q1=>?_)
 ·have q1:((a:Int)+20)≤(n:Int):=of_decide_eq_true q1
  first | refine Zj ?_ | skip
  refine Zc<|Za rfl<|Za rfl<|Za rfl<|Za rfl ?_
  obtain ⟨H1,gH1,fH1,pH1,sH1,kH1,cH1⟩:=qM (kn:=kn) (lo:=lo) (H:=L1) (by have:=hk.1;omega) hlb (by omega) (cap:=cap) hc (hp.dom (fun k q=>q) (Nat.le_refl _)) (hcmp.from hk.kp) (a:=a) (b:=(a+20)) (by omega) (by omega) (fun i j q1 q2 q3=>hB.ids i j q1 q2)
  refine Zi (vs:=[.slice (some ⟨bd,0,none⟩) n cap,iv (a:Int),iv ((a:Int)+20),.func (.func fc) #[] caps]) rfl (by have q:=Ze fH1;rw [show (((a+20):Nat):Int)=((a:Int)+20) by omega] at q;exact q) ?_
  have mH1:=kH1.1
  have hk:=hk.trans kH1
  have hc:=cH1
  have hp:=hp.trans (pH1.mono (by omega) (by omega) (by omega))
  have hB:=hB.step ha (by omega) (by omega) pH1 sH1
  refine Zb<|Zc<|Za rfl<|Za rfl<|Zb ?_
  show Zn _ _ _ _ _ _ _ _
  refine Za rfl<|Za rfl<|Zo (a:=((a:Int)+20)) (b:=20) rfl rfl ⟨by omega,by omega⟩<|Za rfl<|Zb ?_
  exact ⟨_,a+20,by omega,⟨rfl,by omega,by omega,_,hB,hp,hk,hc⟩,rfl,rfl,rfl,rfl,ivq (by omega),ivq (by omega),trivial⟩
 ·have q1:¬ (((a:Int)+20)≤(n:Int)):=of_decide_eq_false q1
  first | (refine Zy ?_;show wC _ _ _ _ _ _ _ _ _) | skip
  refine Zc<|Za rfl<|Za rfl<|Za rfl<|Za rfl ?_
  obtain ⟨H2,gH2,fH2,pH2,sH2,kH2,cH2⟩:=qM (kn:=kn) (lo:=lo) (H:=L1) (by have:=hk.1;omega) hlb (by omega) (cap:=cap) hc (hp.dom (fun k q=>q) (Nat.le_refl _)) (hcmp.from hk.kp) (a:=a) (b:=n) (by omega) (by omega) (fun i j q1 q2 q3=>hB.ids i j q1 q2)
  refine Zi (vs:=[.slice (some ⟨bd,0,none⟩) n cap,iv (a:Int),iv (n:Int),.func (.func fc) #[] caps]) rfl (Ze fH2) ?_
  have mH2:=kH2.1
  have hk:=hk.trans kH2
  have hc:=cH2
  have hp:=hp.trans (pH2.mono (by omega) (by omega) (by omega))
  have hB:=hB.step ha (by omega) (by omega) pH2 sH2
  refine Zb ?_
  have hB:=hB.low (Nat.le_refl _)
  refine Zt (fn:=Try.f77) ZcO N77 ZcF (fun bs:Nat=>[(0,.slice (some ⟨bd,0,none⟩) n cap),(1,iv (n:Int)),(2,.func (.func fc) #[] caps),(6,iv (bs:Int))])
   (fun k bs H'=>k=400 - bs∧(Bs bs∨bs=160)∧∃ g',Bk key bs 0 n g'∧PRm 0 n (fun i=>i) g'∧KT bd H H'∧Cl H' bd (cG (fun x=>[iv (v x),iv (u x)]) n g')) _ 20 ⟨rfl,.inl (.inl rfl),_,hB,hp,hk,hc⟩ ⟨rfl,rfl,rfl,rfl,trivial⟩ ?_
  rintro k bs L2 ⟨rfl,hbs,gy,hB,hp,hk,hc⟩
  refine Zc<|Za rfl<|Za rfl<|Zx (a:=(bs:Int)) (b:=(n:Int)) rfl rfl<|Zb ?_
  refine And.intro (fun q2=>?_) (fun q2=>?_)
  ·have q2:(bs:Int) < (n:Int):=of_decide_eq_true q2
   first | refine Zj ?_ | skip
   refine Zc<|Za rfl<|JE (a:=2) (b:=(bs:Int)) rfl rfl ⟨by omega,by omega⟩<|Za rfl<|Za rfl<|Zb ?_
   have hbs:Bs bs:=hbs.resolve_right (by omega)
   have hb0:20≤bs:=by unfold Bs at hbs;omega
   have hB:=hB.init2
   refine Zt (fn:=Try.f77) Zd4 N77 Ze4 (fun a:Nat=>[(0,.slice (some ⟨bd,0,none⟩) n cap),(1,iv (n:Int)),(2,.func (.func fc) #[] caps),(6,iv (bs:Int)),(7,iv (a:Int)),(8,iv ((a:Int)+2 * (bs:Int)))])
    (fun k a H'=>k=n - a∧a % (2 * bs)=0∧a≤n∧∃ g',Bk2 key bs a n g'∧PRm 0 n (fun i=>i) g'∧KT bd H H'∧Cl H' bd (cG (fun x=>[iv (v x),iv (u x)]) n g')) _ 0 ⟨rfl,Nat.zero_mod _,Nat.zero_le _,_,hB,hp,hk,hc⟩ ⟨rfl,rfl,rfl,rfl,rfl,ivq (by omega),trivial⟩ ?_
   rintro k a L3 ⟨rfl,ha,han,gz,hB,hp,hk,hc⟩
   refine Zc<|Za rfl<|Za rfl<|Wq (a:=((a:Int)+2 * (bs:Int))) (b:=(n:Int)) rfl rfl<|Zb ?_
   refine And.intro (fun q3=>?_) (fun q3=>?_)
   ·have q3:((a:Int)+2 * (bs:Int))≤(n:Int):=of_decide_eq_true q3
    first | refine Zj ?_ | skip
    refine Zc<|Za rfl<|Za rfl<|Za rfl<|Za rfl<|Zo (a:=(a:Int)) (b:=(bs:Int)) rfl rfl ⟨by omega,by omega⟩<|Za rfl<|Za rfl ?_
    obtain ⟨q1H3,q2H3,q3H3⟩:=hB.hi.part hbs (Zeu hbs ha) (m:=a+bs) (b:=(a+2 * bs)) (by omega) (by omega) (by omega) (by omega)
    obtain ⟨H3,gH3,fH3,pH3,sH3,kH3,cH3⟩:=K8 (kn:=kn) (lo:=lo) hlo hlb (by omega) (cap:=cap) hcmp ((a+2 * bs) - a+1) L3 (a) (a+bs) ((a+2 * bs)) gz hk (by omega) (by omega) (by omega) (by omega) (hp.dom (fun k q=>q) (Nat.le_refl _)) q1H3 q2H3 q3H3 hc
    refine Zi (vs:=[.slice (some ⟨bd,0,none⟩) n cap,iv (a:Int),iv ((a:Int)+(bs:Int)),iv ((a:Int)+2 * (bs:Int)),.func (.func fc) #[] caps]) rfl (by have q:=Ze fH3;rw [show ((a+bs:Nat):Int)=(a:Int)+(bs:Int) by omega] at q;rw [show (((a+2 * bs):Nat):Int)=((a:Int)+2 * (bs:Int)) by omega] at q;exact q) ?_
    have mH3:=kH3.1
    have hk:=hk.trans kH3
    have hc:=cH3
    have hp:=hp.trans (pH3.mono (by omega) (by omega) (by omega))
    refine Zb<|Zc<|Za rfl<|Za rfl<|Zb ?_
    show Zn _ _ _ _ _ _ _ _
    refine Za rfl<|Za rfl<|JE (a:=2) (b:=(bs:Int)) rfl rfl ⟨by omega,by omega⟩<|Zo (a:=((a:Int)+2 * (bs:Int))) (b:=2 * (bs:Int)) rfl rfl ⟨by omega,by omega⟩<|Za rfl<|Zb ?_
    obtain ⟨hB,ha⟩:=hB.next hbs ha (b:=a+2 * bs) rfl (by omega) pH3 sH3
    exact ⟨_,a+2 * bs,by omega,⟨rfl,ha,by omega,_,hB,hp,hk,hc⟩,rfl,rfl,rfl,rfl,ivq (by omega),ivq (by omega),trivial⟩
   ·have q3:¬ (((a:Int)+2 * (bs:Int))≤(n:Int)):=of_decide_eq_false q3
    first | (refine Zy ?_;show wC _ _ _ _ _ _ _ _ _) | skip
    refine Zc<|Za rfl<|Za rfl<|Zo (a:=(a:Int)) (b:=(bs:Int)) rfl rfl ⟨by omega,by omega⟩<|Za rfl<|Zb<|Zc<|Za rfl<|Za rfl<|Zx (a:=(a:Int)+(bs:Int)) (b:=(n:Int)) rfl rfl<|Zb ?_
    refine And.intro (fun q4=>?_) (fun q4=>?_)
    ·have q4:((a:Int)+(bs:Int)) < (n:Int):=of_decide_eq_true q4
     refine Zc<|Za rfl<|Za rfl<|Za rfl<|Za rfl<|Za rfl ?_
     obtain ⟨q1H4,q2H4,q3H4⟩:=hB.hi.part hbs (Zeu hbs ha) (m:=a+bs) (b:=n) (by omega) (by omega) (by omega) (by omega)
     obtain ⟨H4,gH4,fH4,pH4,sH4,kH4,cH4⟩:=K8 (kn:=kn) (lo:=lo) hlo hlb (by omega) (cap:=cap) hcmp (n - a+1) L3 (a) (a+bs) (n) gz hk (by omega) (by omega) (by omega) (by omega) (hp.dom (fun k q=>q) (Nat.le_refl _)) q1H4 q2H4 q3H4 hc
     refine Zi (vs:=[.slice (some ⟨bd,0,none⟩) n cap,iv (a:Int),iv ((a:Int)+(bs:Int)),iv (n:Int),.func (.func fc) #[] caps]) rfl (by have q:=Ze fH4;rw [show ((a+bs:Nat):Int)=(a:Int)+(bs:Int) by omega] at q;exact q) ?_
     have mH4:=kH4.1
     have hk:=hk.trans kH4
     have hc:=cH4
     have hp:=hp.trans (pH4.mono (by omega) (by omega) (by omega))
     refine Zb ?_
     show Zn _ _ _ _ _ _ _ _
     have hB2:=hB.step hbs ha (by omega) (by omega) (Nat.le_refl _) pH4 sH4
     refine Za rfl<|JE (a:=(bs:Int)) (b:=2) rfl rfl ⟨by omega,by omega⟩<|Za rfl<|Zb ?_
     exact ⟨_,2 * bs,by unfold Bs at hbs;omega,⟨rfl,by unfold Bs at hbs ⊢;omega,_,hB2,hp,hk,hc⟩,rfl,rfl,rfl,ivq (by omega),trivial⟩
    ·have q4:¬ (((a:Int)+(bs:Int)) < (n:Int)):=of_decide_eq_false q4
     have hB2:=hB.last hbs ha han (by omega)
     first | refine Zj ?_ | skip
     show Zn _ _ _ _ _ _ _ _
     refine Za rfl<|JE (a:=(bs:Int)) (b:=2) rfl rfl ⟨by omega,by omega⟩<|Za rfl<|Zb ?_
     exact ⟨_,2 * bs,by unfold Bs at hbs;omega,⟨rfl,by unfold Bs at hbs ⊢;omega,_,hB2,hp,hk,hc⟩,rfl,rfl,rfl,ivq (by omega),trivial⟩
  ·have q2:¬ ((bs:Int) < (n:Int)):=of_decide_eq_false q2
   first | (refine Zy ?_;show wC _ _ _ _ _ _ _ _ _) | skip
   exact And.intro trivial (Exists.intro _ (And.intro rfl ⟨rfl,gy,hp,hB.all (by omega),hk,hc⟩))
set_option maxRecDepth 100000 in
set_option maxHeartbeats 2000000 in
theorem ZbW (hlo:lo≤H.next) {bd cap n:Nat} {v u:Nat→Int} (hlb:lo≤bd) (hn:n≤160) (hc:Cl H bd (cG (fun x=>[iv (v x),iv (u x)]) n fun i=>i)) {fc:FuncId} {caps:Array Value} {key:Nat→Int} (hcmp:Ke Try.prog kn lo bd fc caps (fun x=>.agg #[iv (v x),iv (u x)]) n key H):∃ H' g',FnX Try.prog kn lo 61 [.slice (some ⟨bd,0,none⟩) n cap,.func (.func fc) #[] caps] H (.tuple #[]) H'∧PRm 0 n (fun i=>i) g'∧So key 0 n g'∧KT bd H H'∧Cl H' bd (cG (fun x=>[iv (v x),iv (u x)]) n g'):=by
 have key_:=Zp (kn:=kn) (lo:=lo) (H:=H) (args:=[.slice (some ⟨bd,0,none⟩) n cap,.func (.func fc) #[] caps]) (Q:=fun w H'=>w=.tuple #[]∧∃ g',PRm 0 n (fun i=>i) g'∧So key 0 n g'∧KT bd H H'∧Cl H' bd (cG (fun x=>[iv (v x),iv (u x)]) n g')) Try.func61 B61 N61 Z61 L61 (by simp) ?_
 ·obtain ⟨w,H',h,rfl,g',r⟩:=key_;exact ⟨H',g',h,r⟩
 have hk:=KT.refl (H:=H) hc.1
 show Zn _ _ _ _ _ _ _ _
 refine Za rfl<|Za rfl<|Zv (m:=n) rfl<|Za rfl ?_
 obtain ⟨H1,gH1,fH1,pH1,sH1,kH1,cH1⟩:=qm (kn:=kn) (lo:=lo) (H:=H) hlo hlb hn (cap:=cap) hc hcmp
 refine Zi (vs:=[.slice (some ⟨bd,0,none⟩) n cap,iv (n:Int),.func (.func fc) #[] caps]) rfl (Ze fH1) ?_
 have hk:=kH1;have hc:=cH1
 refine Zb ?_
 exact And.intro trivial (Exists.intro _ (And.intro rfl ⟨rfl,gH1,pH1,sH1,hk,hc⟩))
theorem Zau {cv:Value}:∃ H',FnX Try.prog kn lo 82 [.slice none 0 0,iv 0,iv 0,cv] H (.tuple #[]) H'∧Zk H H' []:=by
 have key_:=Zp (kn:=kn) (lo:=lo) (H:=H) (args:=[.slice none 0 0,iv 0,iv 0,cv]) (Q:=fun w H'=>w=.tuple #[]∧Zk H H' []) Try.func82 B82 N82 Z82 L82 (by simp) ?_
 ·obtain ⟨w,H',h,rfl,r⟩:=key_;exact ⟨H',h,r⟩
 have hk:=Zk.refl H []
 refine Zc<|Za rfl<|Zo (a:=0) (b:=1) rfl rfl ⟨by omega,by omega⟩<|Za rfl<|Zb ?_
 refine Zt (fn:=Try.f82) ZcH N82 Zc5 (fun _:Unit=>[(0,.slice none 0 0),(2,iv 0),(8,iv 1)])
  (fun k _ H'=>Zk H H' []) 0 () hk ⟨rfl,rfl,rfl,trivial⟩ ?_
 rintro k _ L1 hq
 have hk:=hq
 refine Zc<|Za rfl<|Za rfl<|Zx (a:=1) (b:=0) rfl rfl<|Zb<|ZQ ?_
 first | (refine Zy ?_;show wC _ _ _ _ _ _ _ _ _) | skip
 exact And.intro trivial (Exists.intro _ (And.intro rfl ⟨rfl,hk⟩))
theorem zQ {cv:Value}:∃ H',FnX Try.prog kn lo 77 [.slice none 0 0,iv 0,cv] H (.tuple #[]) H'∧Zk H H' []:=by
 have key_:=Zp (kn:=kn) (lo:=lo) (H:=H) (args:=[.slice none 0 0,iv 0,cv]) (Q:=fun w H'=>w=.tuple #[]∧Zk H H' []) Try.func77 B77 N77 Z77 L77 (by simp) ?_
 ·obtain ⟨w,H',h,rfl,r⟩:=key_;exact ⟨H',h,r⟩
 have hk:=Zk.refl H []
 refine Zc<|Za rfl<|Zb<|Zc<|Za rfl<|Za rfl<|Za rfl<|Zb ?_
 refine Zt (fn:=Try.f77) ZcR N77 ZcI (fun _:Unit=>[(0,.slice none 0 0),(1,iv 0),(2,cv),(6,iv 20),(7,iv 0),(8,iv 20)])
  (fun k _ H'=>Zk H H' []) 0 () hk ⟨rfl,rfl,rfl,rfl,rfl,rfl,trivial⟩ ?_
 rintro k _ L1 hq
 have hk:=hq
 refine Zc<|Za rfl<|Za rfl<|Wq (a:=20) (b:=0) rfl rfl<|Zb<|ZQ ?_
 first | (refine Zy ?_;show wC _ _ _ _ _ _ _ _ _) | skip
 refine Zc<|Za rfl<|Za rfl<|Za rfl<|Za rfl ?_
 obtain ⟨H1,fH1,kH1⟩:=Zau (kn:=kn) (lo:=lo) (H:=L1) (cv:=cv)
 refine Zi (vs:=[.slice none 0 0,iv 0,iv 0,cv]) rfl (Ze fH1) ?_
 have mH1:=kH1.1
 have hk:=hk.trans kH1
 refine Zb ?_
 refine Zt (fn:=Try.f77) ZcO N77 ZcF (fun _:Unit=>[(0,.slice none 0 0),(1,iv 0),(2,cv),(6,iv 20)])
  (fun k _ H'=>Zk H H' []) 0 () hk ⟨rfl,rfl,rfl,rfl,trivial⟩ ?_
 rintro k _ L2 hq
 have hk:=hq
 refine Zc<|Za rfl<|Za rfl<|Zx (a:=20) (b:=0) rfl rfl<|Zb<|ZQ ?_
 first | (refine Zy ?_;show wC _ _ _ _ _ _ _ _ _) | skip
 exact And.intro trivial (Exists.intro _ (And.intro rfl ⟨rfl,hk⟩))
theorem Zbi {cv:Value}:∃ H',FnX Try.prog kn lo 61 [.slice none 0 0,cv] H (.tuple #[]) H'∧Zk H H' []:=by
 have key_:=Zp (kn:=kn) (lo:=lo) (H:=H) (args:=[.slice none 0 0,cv]) (Q:=fun w H'=>w=.tuple #[]∧Zk H H' []) Try.func61 B61 N61 Z61 L61 (by simp) ?_
 ·obtain ⟨w,H',h,rfl,r⟩:=key_;exact ⟨H',h,r⟩
 have hk:=Zk.refl H []
 show Zn _ _ _ _ _ _ _ _
 refine Za rfl<|Za rfl<|Zv (m:=0) rfl<|Za rfl ?_
 obtain ⟨H1,fH1,kH1⟩:=zQ (kn:=kn) (lo:=lo) (H:=H) (cv:=cv)
 refine Zi (vs:=[.slice none 0 0,iv 0,cv]) rfl (Ze fH1) ?_
 have mH1:=kH1.1
 have hk:=hk.trans kH1
 refine Zb ?_
 exact And.intro trivial (Exists.intro _ (And.intro rfl ⟨rfl,hk⟩))
end
end
end Go.Ax

/-
 Pool: ends of spans,days compared,the window (written by program).
-/
namespace Go.Ax
open Go Go.RowKit Go.Proofs

noncomputable section
section
variable {kn:Kn} {lo:Nat} {H:Hp}
theorem Za6 (x:Int):∃ H',FnX Try.prog kn lo 78 [iv x] H (.bool false) H'∧Zk H H' []:=by
 have key:=Zp (kn:=kn) (lo:=lo) (H:=H) (args:=[iv x]) (Q:=fun w H'=>w=.bool false∧Zk H H' []) Try.func78 B78 N78 Z78 L78 (by simp) ?_
 ·obtain ⟨w,H',h,rfl,q⟩:=key;exact ⟨H',h,q⟩
 refine Zc (Za rfl (Zb (Zc (Za rfl (Za rfl (X6 rfl rfl (Za rfl (Zb ?_))))))))
 exact ⟨True.intro,[.bool (x != x)],rfl,by show Value.bool (x != x)=_;simp,Zk.refl _ _⟩
theorem Q1 {a b:Int} (hlo:lo≤H.next):∃ H',FnX Try.prog kn lo 57 [.agg #[iv a,iv b]] H (iv a) H'∧Zk H H' []:=by
 have key:=Zp (kn:=kn) (lo:=lo) (H:=H) (args:=[.agg #[iv a,iv b]]) (Q:=fun w H'=>w=(iv a)∧Zk H H' []) Try.func57 B57 N57 Z57 L57 (by simp) ?_
 ·obtain ⟨w,H',h,rfl,q⟩:=key;exact ⟨H',h,q⟩
 have hk:=Zk.refl H []
 refine Zc<|Yw (v:=.agg #[iv a,iv b]) rfl ?_
 intro H1 kH1 nH1 c1
 have c1:Cl H1 H.next [iv a,iv b]:=c1
 have mH1:=kH1.1
 have hk:=hk.trans kH1
 refine Za rfl<|Zb<|Zc<|Zu (b:=H.next) (o:=0) rfl<|ZP (b:=H.next) (o:=0) (v:=iv a) rfl c1.rd rfl<|Za rfl<|Zb ?_
 exact And.intro trivial (Exists.intro _ (And.intro rfl ⟨rfl,hk⟩))
theorem Je {a b:Int} (hlo:lo≤H.next):∃ H',FnX Try.prog kn lo 58 [.agg #[iv a,iv b]] H (iv b) H'∧Zk H H' []:=by
 have key:=Zp (kn:=kn) (lo:=lo) (H:=H) (args:=[.agg #[iv a,iv b]]) (Q:=fun w H'=>w=(iv b)∧Zk H H' []) Try.func58 B58 N58 Z58 L58 (by simp) ?_
 ·obtain ⟨w,H',h,rfl,q⟩:=key;exact ⟨H',h,q⟩
 have hk:=Zk.refl H []
 refine Zc<|Yw (v:=.agg #[iv a,iv b]) rfl ?_
 intro H1 kH1 nH1 c1
 have c1:Cl H1 H.next [iv a,iv b]:=c1
 have mH1:=kH1.1
 have hk:=hk.trans kH1
 refine Za rfl<|Zb<|Zc<|Zu (b:=H.next) (o:=0) rfl<|ZP (b:=H.next) (o:=1) (v:=iv b) rfl c1.rd rfl<|Za rfl<|Zb ?_
 exact And.intro trivial (Exists.intro _ (And.intro rfl ⟨rfl,hk⟩))
theorem ZF {f:FuncId} {v:Value} {H':Hp} (hk:kn.b f=none) (h:FnX Try.prog kn lo f [] H v H') (hs:Xs f=false:=by rfl):Xb Try.prog kn lo (.fn (.func f) #[]) [] H v H':=
 Xa (by show (bif Nat.beq 0 0 then kn.b f else none)=none;rw [hk];rfl) (by simpa using h) hs
structure Tk (kn:Kn) (fid:Nat) (g:Int→Int→Int):Prop where
 sp:Xs fid=false
 ok:∀ (lo:Nat) (H:Hp) (a b:Int),lo≤H.next→∃ H',FnX Try.prog kn lo fid [.agg #[iv a,iv b]] H (iv (g a b)) H'∧Zk H H' []
 bd:∀ a b:Int,a≤b→a≤g a b∧g a b≤b
def gLo:Int→Int→Int:=fun a _=>a
def gHi:Int→Int→Int:=fun _ b=>b
theorem Zdl:∀ a b:Int,a≤b→a≤gLo a b∧gLo a b≤b:=fun _ _ h=>⟨Int.le_refl _,h⟩
theorem qx:∀ a b:Int,a≤b→a≤gHi a b∧gHi a b≤b:=fun _ _ h=>⟨h,Int.le_refl _⟩
theorem Zck:Tk kn 57 gLo:=⟨rfl,fun _ _ _ _ h=>Q1 h,fun _ _ h=>⟨Int.le_refl _,h⟩⟩
theorem ZaB:Tk kn 58 gHi:=⟨rfl,fun _ _ _ _ h=>Je h,fun _ _ h=>⟨h,Int.le_refl _⟩⟩
theorem QK  : ∃ H',FnX Try.prog kn lo 35 [] H (.tuple #[.func (.func 57) #[] #[],.func (.func 58) #[] #[]]) H'∧Zk H H' []:=by
 have key:=Zp (kn:=kn) (lo:=lo) (H:=H) (args:=[]) (Q:=fun w H'=>w=(.tuple #[.func (.func 57) #[] #[],.func (.func 58) #[] #[]])∧Zk H H' []) Try.func35 B35 N35 Z35 L35 (by simp) ?_
 ·obtain ⟨w,H',h,rfl,q⟩:=key;exact ⟨H',h,q⟩
 have hk:=Zk.refl H []
 refine Zc<|Za rfl<|Za rfl<|Zb<|Zc<|Za rfl<|Za rfl<|Zb ?_
 exact And.intro trivial (Exists.intro _ (And.intro rfl ⟨rfl,hk⟩))
theorem ZdD {x y:Int}:∃ r H',FnX Try.prog kn lo 63 [iv x,iv y] H (iv r) H'∧Zk H H' []∧(r < 0↔x < y):=by
 have key:=Zp (kn:=kn) (lo:=lo) (H:=H) (args:=[iv x,iv y]) (Q:=fun w H'=>∃ r,w=iv r∧Zk H H' []∧(r < 0↔x < y)) Try.func63 B63 N63 Z63 L63 (by simp) ?_
 ·obtain ⟨w,H',h,r,rfl,q⟩:=key;exact ⟨r,H',h,q⟩
 have hk:=Zk.refl H []
 refine Zc<|Za rfl<|Zb<|Zc<|Za rfl ?_
 obtain ⟨H1,fH1,kH1⟩:=Za6 (kn:=kn) (lo:=lo) (H:=H) (x)
 refine Zi (vs:=[iv (x)]) rfl (Ze fH1) ?_
 have mH1:=kH1.1
 have hk:=hk.trans kH1
 refine Za rfl<|Zb<|Zc<|Za rfl ?_
 obtain ⟨H2,fH2,kH2⟩:=Za6 (kn:=kn) (lo:=lo) (H:=H1) (y)
 refine Zi (vs:=[iv (y)]) rfl (Ze fH2) ?_
 have mH2:=kH2.1
 have hk:=hk.trans kH2
 refine Za rfl<|Zb<|Zc<|Za rfl<|Zb<|ZQ ?_
 first | refine Zj ?_ | skip
 refine Zc<|Za rfl<|Zb<|ZQ ?_
 first | refine Zj ?_ | skip
 refine Zc<|Za rfl<|Za rfl<|Zx (a:=x) (b:=y) rfl rfl<|Zb ?_
 refine And.intro (fun q1=>?_) (fun q1=>?_)
 ·have q1:x < y:=of_decide_eq_true q1
  refine Zc<|Za rfl<|Zb ?_
  exact And.intro trivial (Exists.intro _ (And.intro rfl ⟨-1,rfl,hk,by omega⟩))
 ·have q1:¬ (x < y):=of_decide_eq_false q1
  first | refine Zj ?_ | skip
  refine Zc<|Za rfl<|Za rfl<|Y2 (a:=x) (b:=y) rfl rfl<|Zb ?_
  refine And.intro (fun q2=>?_) (fun q2=>?_)
  ·have q2:x > y:=of_decide_eq_true q2
   refine Zc<|Za rfl<|Zb ?_
   exact And.intro trivial (Exists.intro _ (And.intro rfl ⟨1,rfl,hk,by omega⟩))
  ·have q2:¬ (x > y):=of_decide_eq_false q2
   first | refine Zj ?_ | skip
   refine Zc<|Za rfl<|Zb ?_
   exact And.intro trivial (Exists.intro _ (And.intro rfl ⟨0,rfl,hk,by omega⟩))
theorem Zb7 {x y u v:Int} (hlo:lo≤H.next):∃ r H',FnX Try.prog kn lo 62 [.agg #[iv x,iv u],.agg #[iv y,iv v]] H (iv r) H'∧Zk H H' []∧(r < 0↔x < y):=by
 have key:=Zp (kn:=kn) (lo:=lo) (H:=H) (args:=[.agg #[iv x,iv u],.agg #[iv y,iv v]]) (Q:=fun w H'=>∃ r,w=iv r∧Zk H H' []∧(r < 0↔x < y)) Try.func62 B62 N62 Z62 L62 (by simp) ?_
 ·obtain ⟨w,H',h,r,rfl,q⟩:=key;exact ⟨r,H',h,q⟩
 have hk:=Zk.refl H []
 refine Zc<|Yw (v:=.agg #[iv x,iv u]) rfl ?_
 intro H1 kH1 nH1 c1
 have c1:Cl H1 H.next [iv x,iv u]:=c1
 have mH1:=kH1.1
 have hk:=hk.trans kH1
 refine Yw (v:=.agg #[iv y,iv v]) rfl ?_
 intro H2 kH2 nH2 c2
 have c2:Cl H2 H1.next [iv y,iv v]:=c2
 have mH2:=kH2.1
 have hk:=hk.trans kH2
 have c1:=kH2.cl c1 (by simp)
 refine Za rfl<|Zb<|Zc<|Zu (b:=H.next) (o:=0) rfl<|ZP (b:=H.next) (o:=0) (v:=iv x) rfl c1.rd rfl<|Zu (b:=H1.next) (o:=0) rfl<|ZP (b:=H1.next) (o:=0) (v:=iv y) rfl c2.rd rfl ?_
 obtain ⟨r,H3,fH3,kH3,hr⟩:=ZdD (kn:=kn) (lo:=lo) (H:=H2) (x:=x) (y:=y)
 refine Zi (vs:=[iv (x),iv (y)]) rfl (Ze fH3) ?_
 have mH3:=kH3.1
 have hk:=hk.trans kH3
 have c1:=kH3.cl c1 (by simp)
 have c2:=kH3.cl c2 (by simp)
 refine Za rfl<|Zb ?_
 exact And.intro trivial (Exists.intro _ (And.intro rfl ⟨r,rfl,hk,hr⟩))
theorem j3 {d l:Int} (hlo:lo≤H.next):∃ H',FnX Try.prog kn lo 76 [.agg #[iv d,iv l]] H (iv l) H'∧Zk H H' []:=by
 have key:=Zp (kn:=kn) (lo:=lo) (H:=H) (args:=[.agg #[iv d,iv l]]) (Q:=fun w H'=>w=(iv l)∧Zk H H' []) Try.func76 B76 N76 Z76 L76 (by simp) ?_
 ·obtain ⟨w,H',h,rfl,q⟩:=key;exact ⟨H',h,q⟩
 have hk:=Zk.refl H []
 refine Zc<|Yw (v:=.agg #[iv d,iv l]) rfl ?_
 intro H1 kH1 nH1 c1
 have c1:Cl H1 H.next [iv d,iv l]:=c1
 have mH1:=kH1.1
 have hk:=hk.trans kH1
 refine Za rfl<|Zb<|Zc<|Zu (b:=H.next) (o:=0) rfl<|ZP (b:=H.next) (o:=1) (v:=iv l) rfl c1.rd rfl<|Za rfl<|Zb ?_
 exact And.intro trivial (Exists.intro _ (And.intro rfl ⟨rfl,hk⟩))
theorem yr {i o j:Nat} {c0 cs:List Value} {v:Value} (h:c0.drop o=cs) (hr:cs[i]? = some v) (e:j=o+i):c0[j]? = some v:=e ▸ ZbU h hr
theorem jQ {m i o j:Nat} {c0 cs r:List Value} (h:c0.drop o=cs) (hr:row m cs i=some r) (e:j=o+i):row m c0 j=some r:=e ▸ ZbE h hr
theorem Zdq {f:Nat} {qa:Option Addr} {n c:Nat} {xs:List Po} (hq:Qu lo f 95 H qa n c (poc xs)) (hl:xs.length=n) (hn:n≤100) (hv:Vl xs) (hlo:lo≤H.next):∃ H',FnX Try.prog kn lo 75 [.slice qa n c,.func (.func 76) #[] #[]] H (iv (ps xs)) H'∧Zk H H' []:=by
 have key:=Zp (kn:=kn) (lo:=lo) (H:=H) (args:=[.slice qa n c,.func (.func 76) #[] #[]]) (Q:=fun w H'=>w=(iv (ps xs))∧Zk H H' []) Try.func75 B75 N75 Z75 L75 (by simp) ?_
 ·obtain ⟨w,H',h,rfl,q⟩:=key;exact ⟨H',h,q⟩
 have hk:=Zk.refl H []
 refine Zc<|Za rfl<|Zb<|Zc<|Za rfl<|Zb<|Zc<|Za rfl<|Zv (m:=n) rfl<|Za rfl<|Zb ?_
 refine Zt (fn:=Try.f75) Zeb N75 ZeP (fun i:Nat=>[(1,.func (.func 76) #[] #[]),(8,.slice qa n c),(9,iv (n:Int)),(10,iv (i:Int)),(5,iv (ps (xs.take i)))])
  (fun k i H'=>i+k=n∧Zk H H' []∧Qu lo f 95 H' qa n c (poc xs)) n 0 ⟨by omega,hk,hq⟩ ⟨rfl,rfl,rfl,rfl,rfl,trivial⟩ ?_
 rintro k i L1 ⟨hik,hk,hq⟩
 have mk:=hk.1
 have hqb:=hq.blk
 refine Zc<|Zx (a:=(i:Int)) (b:=(n:Int)) rfl rfl<|Zb ?_
 refine And.intro (fun q1=>?_) (fun q1=>?_)
 ·have q1:(i:Int) < (n:Int):=of_decide_eq_true q1
  have hi:i < n:=by omega
  obtain ⟨qb,qo,q0,eq_,fq,lq,rq,dq⟩:=hq.pos (by omega)
  have hqq:=hqb qb (by rw [eq_];simp [YO])
  have hb1:=hv _ (YA (z:=Po.z) (l:=xs) (i:=i) (by omega))
  have hb2:=jB (l:=xs.take i) fun p hp=>(hv p (List.mem_of_mem_take hp)).1
  have hb3:=jy (l:=xs.take i) (hv.sub fun p hp=>List.mem_of_mem_take hp)
  have hb4:(xs.take i).length≤100:=by simp;omega
  first | refine Zj ?_ | skip
  refine Zc<|YS (b:=qb) (o:=qo) (k:=i) (j:=(i:Int)) (by rw [← eq_];rfl) rfl rfl hi<|Z4 (b:=qb) (o:=qo+i * 2) rfl rq (jQ dq (Us (l:=xs) (i:=i) (by omega)) (by omega))<|YF ?_
  intro H1 kH1 nH1 c1
  have c1:Cl H1 L1.next [iv 0,iv 0]:=c1
  have mH1:=kH1.1
  have hk:=hk.trans kH1
  have hq:=hq.keep kH1 (fun x hx=>by have:=hqb x hx;simp)
  have rq:=kH1.rd rq (by simp)
  refine Yk (b:=L1.next) (o:=0) rfl rfl c1 (by omega) rfl rfl (by simp) ?_
  intro H2 kH2 nH2 sH2
  have mH2:=kH2.1
  have hk:=hk.new kH2 (fun b hb=>by simp at hb ⊢;omega)
  have hq:=hq.keep kH2 (fun x hx=>by have:=hqb x hx;simp;omega)
  have rq:=kH2.rd rq (by first | (simp;done) | (simp;omega))
  have c1:Cl H2 L1.next [iv ((xs.getD i Po.z).d),iv ((xs.getD i Po.z).l)]:=sH2
  refine Zb ?_
  show Zn _ _ _ _ _ _ _ _
  refine Za rfl<|Za rfl<|Z4 (b:=L1.next) (o:=0) rfl c1.rd (show row 2 _ _=some [iv ((xs.getD i Po.z).d),iv ((xs.getD i Po.z).l)] from rfl) ?_
  obtain ⟨H3,fH3,kH3⟩:=j3 (kn:=kn) (lo:=lo) (H:=H2) (d:=(xs.getD i Po.z).d) (l:=(xs.getD i Po.z).l) (by omega)
  refine Zi (vs:=[.agg #[iv (xs.getD i Po.z).d,iv (xs.getD i Po.z).l]]) rfl (Ze fH3) ?_
  have mH3:=kH3.1
  have hk:=hk.trans kH3
  have hq:=hq.keep kH3 (fun x hx=>by have:=hqb x hx;simp)
  have rq:=kH3.rd rq (by simp)
  have c1:=kH3.cl c1 (by simp)
  refine Zo (a:=(ps (xs.take i))) (b:=(xs.getD i Po.z).l) rfl rfl ⟨by omega,by omega⟩<|Za rfl<|Zb ?_
  show Zn _ _ _ _ _ _ _ _
  refine Zo (a:=(i:Int)) (b:=1) rfl rfl ⟨by omega,by omega⟩<|Za rfl<|Zb ?_
  exact ⟨k - 1,i+1,by omega,⟨by omega,hk,hq⟩,rfl,rfl,rfl,ivq (by omega),ivq (by rw [ZbO (by omega)]),trivial⟩
 ·have q1:¬ ((i:Int) < (n:Int)):=of_decide_eq_false q1
  refine Zc<|Za rfl<|Za rfl<|Zb ?_
  have ein:xs.take i=xs:=List.take_of_length_le (by omega)
  exact And.intro trivial (Exists.intro _ (And.intro rfl ⟨congrArg iv (by rw [ein]),hk⟩))
end
end
end Go.Ax

/-
 Pool: the window: its load,goOn,letOut (written by program).
-/
namespace Go.Ax
open Go Go.RowKit Go.Proofs

noncomputable section
theorem Zb5:Z3 Try.prog 75=some (95,2):=by kernel_rfl
theorem Zd8:Ym Try.prog 95=some (.agg #[iv 0,iv 0]):=by kernel_rfl
theorem Zdd:Try.prog.underlying 75=some (.slice 95):=by kernel_rfl
theorem yS {α:Type} {z:α} {P:α→Bool}:∀ {l:List α},0 < l.length→P (l.getD 0 z)=true→(l.drop 1).dropWhile P=l.dropWhile P
 | [],h,_=>absurd h (Nat.lt_irrefl 0)
 | x :: l,_,hp=>by
  have hp:P x=true:=hp
  rw [List.dropWhile_cons_of_pos hp];rfl
theorem y8 {α:Type} {z:α} {P:α→Bool}:∀ {l:List α},0 < l.length→P (l.getD 0 z)=false→l.dropWhile P=l
 | [],h,_=>absurd h (Nat.lt_irrefl 0)
 | x :: l,_,hp=>by
  have hp:P x=false:=hp
  rw [List.dropWhile_cons_of_neg (by rw [hp];simp)]
theorem jS:∀ {l:List Po},(poc l).drop (1 * 2)=poc (l.drop 1)
 | []=>rfl
 | _ :: _=>rfl
theorem jA {a b:List Po}:poc (a ++ b)=poc a ++ poc b:=by unfold poc;rw [List.flatMap_append]
def Dy (l:List Po):Prop:=∀ p,p∈l→0≤p.d∧p.d≤16384
theorem Dy.sub {a b:List Po} (h:Dy b) (k:∀ p,p∈a→p∈b):Dy a:=fun p hp=>h p (k p hp)
section
variable {kn:Kn} {lo:Nat} {H:Hp}
theorem Jp {f wb:Nat} {qa:Option Addr} {n c:Nat} {xs:List Po} {days:Int} (cw:Cl H wb [iv days,.slice qa n c]) (hq:Qu lo f 95 H qa n c (poc xs)) (hl:xs.length=n) (hn:n≤100) (hwf:wb < f) (hlw:lo≤wb) (hlo:lo≤H.next) (hv:Vl xs):∃ H',FnX Try.prog kn lo 60 [pt wb] H (iv (ps xs)) H'∧Zk H H' []:=by
 have key:=Zp (kn:=kn) (lo:=lo) (H:=H) (args:=[pt wb]) (Q:=fun w H'=>w=(iv (ps xs))∧Zk H H' []) Try.func60 B60 N60 Z60 L60 (by simp) ?_
 ·obtain ⟨w,H',h,rfl,q⟩:=key;exact ⟨H',h,q⟩
 have hqb:=hq.blk
 have hk:=Zk.refl H []
 refine Zc<|Za rfl<|Zb<|Zc<|Za rfl<|zk (a:=⟨wb,0,none⟩) rfl<|Zu (b:=wb) (o:=0) rfl<|ZP (b:=wb) (o:=1) (v:=.slice qa n c) rfl cw.rd rfl ?_
 obtain ⟨H1,fH1,kH1⟩:=Zdq (kn:=kn) (lo:=lo) (H:=H) hq hl hn hv (by omega)
 refine Zi (vs:=[.slice qa n c,.func (.func 76) #[] #[]]) rfl (Ze fH1) ?_
 have mH1:=kH1.1
 have hk:=hk.trans kH1
 have cw:=kH1.cl cw (by simp)
 have hq:=hq.keep kH1 (fun x hx=>by have:=hqb x hx;simp)
 refine Za rfl<|Zb ?_
 exact And.intro trivial (Exists.intro _ (And.intro rfl ⟨rfl,hk⟩))
set_option maxRecDepth 100000 in
set_option maxHeartbeats 2000000 in
theorem jJ {f wb:Nat} {qa:Option Addr} {n c:Nat} {xs:List Po} {days:Int} (cw:Cl H wb [iv days,.slice qa n c]) (hq:Qu lo f 95 H qa n c (poc xs)) (hl:xs.length=n) (hn:n≤100) (hwf:wb < f) (hlw:lo≤wb) (hlo:lo≤H.next) (hy:Dy xs) {D:Int} (hD:0≤D∧D≤16384) (hdy:1≤days∧days≤366):∃ H' qa' n' c',FnX Try.prog kn lo 72 [pt wb,iv D] H (.tuple #[]) H'∧Zk H H' [wb]∧Cl H' wb [iv days,.slice qa' n' c']∧Qu lo f 95 H' qa' n' c' (poc (xs.dropWhile (old (D - days))))∧(xs.dropWhile (old (D - days))).length=n'∧YO qa'=YO qa:=by
 have key:=Zp (kn:=kn) (lo:=lo) (H:=H) (args:=[pt wb,iv D]) (Q:=fun w H'=>w=.tuple #[]∧∃ qa' n' c',Zk H H' [wb]∧Cl H' wb [iv days,.slice qa' n' c']∧Qu lo f 95 H' qa' n' c' (poc (xs.dropWhile (old (D - days))))∧(xs.dropWhile (old (D - days))).length=n'∧YO qa'=YO qa) Try.func72 B72 N72 Z72 L72 (by simp) ?_
 ·obtain ⟨w,H',h,rfl,qa',n',c',r⟩:=key;exact ⟨H',qa',n',c',h,r⟩
 have hk:=Zk.refl H [wb]
 refine Zt (fn:=Try.f72) ZdX N72 ZeI (fun _:Unit=>[(0,pt wb),(1,iv D)])
  (fun k _ H'=>∃ q1 c1 ys,ys.length=k∧Dy ys∧ys.dropWhile (old (D - days))=xs.dropWhile (old (D - days))∧Zk H H' [wb]∧Cl H' wb [iv days,.slice q1 k c1]∧Qu lo f 95 H' q1 k c1 (poc ys)∧YO q1=YO qa) n () ⟨qa,c,xs,hl,hy,rfl,hk,cw,hq,rfl⟩ ⟨rfl,rfl,trivial⟩ ?_
 rintro k _ L1 ⟨q1,c1,ys,hy1,hy2,hy3,hk,cw,hq,hab⟩
 have mk:=hk.1;have hqb:=hq.blk
 have hys:=hy2
 refine Yq<|Zg rfl<|Uz (a:=⟨wb,0,none⟩) rfl<|ZX (b:=wb) (o:=0) rfl<|Yf (b:=wb) (o:=1) (v:=.slice q1 k c1) rfl cw.rd rfl<|Zdv (m:=k) rfl<|UB (a:=(k:Int)) (b:=0) rfl rfl ?_
 intro t1 g1;cases t1
 ·have g1:¬ ((k:Int) > 0):=of_decide_eq_false g1
  skip
  refine Zg rfl<|Zz rfl<|Zz rfl<|Zz rfl<|Zz rfl<|Zz rfl<|Zz rfl<|Zz rfl<|Zz rfl<|Zz rfl<|Zz rfl<|Zz rfl<|Zz rfl<|Zz rfl<|Zz rfl<|ZH (v:=.bool false) rfl rfl ?_
  refine ZL (by repeat' first | exact True.intro | exact (fun h=>h) | refine And.intro ?_ ?_ | (intro h;have h:(_:Nat)=_:=h;omega)) ?_
  refine ZQ ?_
  first | (refine Zy ?_;show wC _ _ _ _ _ _ _ _ _) | skip
  have he:ys=xs.dropWhile (old (D - days)):=by rw [← hy3];rw [List.eq_nil_of_length_eq_zero (l:=ys) (by omega)];rfl
  rw [he] at hq hy1
  exact And.intro trivial (Exists.intro _ (And.intro rfl ⟨rfl,_,_,_,hk,cw,hq,hy1,hab⟩))
 ·have g1:(k:Int) > 0:=of_decide_eq_true g1
  obtain ⟨qb,qo,q0,eq_,fq,lq,rq,dq⟩:=hq.pos (by omega);have hqq:=hqb qb (by rw [eq_];simp [YO]);have hd0:=hy2 _ (YA (z:=Po.z) (l:=ys) (i:=0) (by omega))
  refine Zg rfl ?_
  refine ZE rfl (Zg rfl ?_)
  refine ZE rfl (Uz (a:=⟨wb,0,none⟩) rfl ?_)
  refine ZE rfl (ZX (b:=wb) (o:=0) rfl ?_)
  refine ZE rfl (Yf (b:=wb) (o:=1) (v:=.slice q1 k c1) rfl cw.rd rfl ?_)
  refine ZE rfl (ZC (b:=qb) (o:=qo) (k:=0) (j:=0) (by rw [← eq_];rfl) rfl rfl (by omega) ?_)
  refine ZE rfl (ZX (b:=qb) (o:=qo+0 * 2) rfl ?_)
  refine ZE rfl (Yf (b:=qb) (o:=qo+0 * 2) (v:=iv ((ys.getD 0 Po.z).d)) rfl rq (yr dq (Zcx (l:=ys) (i:=0) (j:=0) (by omega) rfl) (by omega)) ?_)
  refine ZE rfl (Zg rfl ?_)
  refine ZE rfl (Zg rfl ?_)
  refine ZE rfl (Uz (a:=⟨wb,0,none⟩) rfl ?_)
  refine ZE rfl (ZX (b:=wb) (o:=0) rfl ?_)
  refine ZE rfl (Yf (b:=wb) (o:=0) (v:=iv days) rfl cw.rd rfl ?_)
  refine ZE rfl (XT (a:=D) (b:=days) rfl rfl ⟨by omega,by omega⟩ ?_)
  refine ZE rfl (yI (a:=(ys.getD 0 Po.z).d) (b:=D - days) rfl rfl ?_)
  intro t2 g2;cases t2
  ·have g2:¬ (((ys.getD 0 Po.z).d)≤(D - days)):=of_decide_eq_false g2
   have hod:old (D - days) (ys.getD 0 Po.z)=false:=decide_eq_false (by omega)
   refine ZH (v:=.bool false) rfl rfl ?_
   refine ZL (by repeat' first | exact True.intro | exact (fun h=>h) | refine And.intro ?_ ?_ | (intro h;have h:(_:Nat)=_:=h;omega)) ?_
   refine ZQ ?_
   first | (refine Zy ?_;show wC _ _ _ _ _ _ _ _ _) | skip
   have he:ys=xs.dropWhile (old (D - days)):=by rw [← hy3];exact (y8 (by omega) hod).symm
   rw [he] at hq hy1
   exact And.intro trivial (Exists.intro _ (And.intro rfl ⟨rfl,_,_,_,hk,cw,hq,hy1,hab⟩))
  ·have g2:((ys.getD 0 Po.z).d)≤(D - days):=of_decide_eq_true g2
   have hod:old (D - days) (ys.getD 0 Po.z)=true:=decide_eq_true (by omega)
   refine ZH (v:=.bool true) rfl rfl ?_
   refine ZL (by repeat' first | exact True.intro | exact (fun h=>h) | refine And.intro ?_ ?_ | (intro h;have h:(_:Nat)=_:=h;omega)) ?_
   refine ZK ?_
   first | refine Zj ?_ | skip
   show Zn _ _ _ _ _ _ _ _
   refine Za rfl<|Za rfl<|zk (a:=⟨wb,0,none⟩) rfl<|Zu (b:=wb) (o:=0) rfl<|ZP (b:=wb) (o:=1) (v:=.slice q1 k c1) rfl cw.rd rfl ?_
   obtain ⟨i95,hi95,hs95⟩:=Zfx
   obtain ⟨q2,c2,b2,hs2,hb2,hq2,hab2⟩:=UN (lo:=lo) (k:=1) (j:=1) Zdd hi95 hs95 (by omega) hq (by rw [zq,hy1]) rfl (by omega) (by omega)
   refine ZN (k:=.read b2) rfl (by kernel_rfl) (hs2 _ _ _ _ _ _ _ rfl rfl) (fun b e=>by cases e;exact hb2) ?_
   have hq:=hq2;have hqb:=hq.blk
   refine zk (a:=⟨wb,0,none⟩) rfl<|Zu (b:=wb) (o:=0) rfl<|ZcW (b:=wb) (o:=1) rfl rfl cw (by omega) rfl rfl (by simp) ?_
   intro H1 kH1 nH1 sH1
   have mH1:=kH1.1
   have hk:=hk.trans kH1
   have hq:=hq.keep kH1 (fun x hx=>by have:=hqb x hx;simp;omega)
   have rq:=kH1.rd rq (by first | (simp;done) | (simp;omega))
   have cw:Cl H1 wb [iv days,.slice q2 (k - 1) c2]:=sH1
   refine Zb ?_
   exact ⟨k - 1,(),by omega,⟨q2,c2,ys.drop 1,by rw [List.length_drop,hy1],hy2.sub fun p hp=>List.mem_of_mem_drop hp,by rw [yS (by omega) hod,hy3],hk,cw,by rw [← jS];exact hq,hab2.trans hab⟩,rfl,rfl,trivial⟩
set_option maxRecDepth 100000 in
set_option maxHeartbeats 2000000 in
theorem U0 {f wb:Nat} {qa:Option Addr} {n c:Nat} {xs:List Po} {days:Int} (cw:Cl H wb [iv days,.slice qa n c]) (hq:Qu lo f 95 H qa n c (poc xs)) (hl:xs.length=n) (hn:n≤100) (hwf:wb < f) (hlw:lo≤wb) (hlo:lo≤H.next) (hy:Dy xs) (hfH:f≤H.next) {p:Po} (hD:0≤p.d∧p.d≤16384) (hdy:1≤days∧days≤366):∃ H' qa' n' c',FnX Try.prog kn lo 59 [pt wb,.agg (Po.f p).toArray] H (.tuple #[]) H'∧Zk H H' (wb :: YO qa)∧Cl H' wb [iv days,.slice qa' n' c']∧Qu lo f 95 H' qa' n' c' (poc (xs.dropWhile (old (p.d - days)) ++ [p]))∧(xs.dropWhile (old (p.d - days)) ++ [p]).length=n'∧∀ x,x∈YO qa'→H.next≤x:=by
 have key:=Zp (kn:=kn) (lo:=lo) (H:=H) (args:=[pt wb,.agg (Po.f p).toArray]) (Q:=fun w H'=>w=.tuple #[]∧∃ qa' n' c',Zk H H' (wb :: YO qa)∧Cl H' wb [iv days,.slice qa' n' c']∧Qu lo f 95 H' qa' n' c' (poc (xs.dropWhile (old (p.d - days)) ++ [p]))∧(xs.dropWhile (old (p.d - days)) ++ [p]).length=n'∧∀ x,x∈YO qa'→H.next≤x) Try.func59 B59 N59 Z59 L59 (by simp) ?_
 ·obtain ⟨w,H',h,rfl,qa',n',c',r⟩:=key;exact ⟨H',qa',n',c',h,r⟩
 have hk:=Zk.refl H (wb :: YO qa)
 have hqb:=hq.blk
 refine Zc<|Yw (v:=.agg (Po.f p).toArray) rfl ?_
 intro H1 kH1 nH1 c1
 have c1:Cl H1 H.next [iv p.d,iv p.l]:=c1
 have mH1:=kH1.1
 have hk:=hk.trans (kH1.mono (by simp))
 have cw:=kH1.cl cw (by simp)
 have hq:=hq.keep kH1 (fun x hx=>by have:=hqb x hx;simp)
 refine Zb<|Zc<|Za rfl<|Zu (b:=H.next) (o:=0) rfl<|ZP (b:=H.next) (o:=0) (v:=iv p.d) rfl c1.rd rfl ?_
 obtain ⟨H2,q1,n1,cc1,fH2,kH2,cw,hq,hl1,hab⟩:=jJ (kn:=kn) (lo:=lo) (H:=H1) cw hq hl hn hwf hlw (by omega) hy (D:=p.d) (by omega) hdy
 refine Zi (vs:=[pt wb,iv p.d]) rfl (Ze fH2) ?_
 have hk:=hk.new kH2 (fun x hx=>.inl (by simp at hx;subst hx;simp))
 have mH2:=kH2.1
 have c1:=kH2.cl c1 (by first | (simp;done) | (simp;omega))
 have hqb:=hq.blk
 have hn1:n1≤100:=by rw [← hl1];exact Nat.le_trans (List.dropWhile_suffix _).length_le (by omega)
 refine Zb ?_
 first | refine Y6 ?_ | (refine Z5 ?_;refine Y6 ?_)
 refine Zg rfl<|Zg rfl<|Uz (a:=⟨wb,0,none⟩) rfl<|ZX (b:=wb) (o:=0) rfl<|Yf (b:=wb) (o:=1) (v:=.slice q1 n1 cc1) rfl cw.rd rfl<|Z1 (b:=H.next) (o:=0) rfl c1.rd (show row 2 _ _=some [iv p.d,iv p.l] from rfl) ?_
 obtain ⟨H3,hH3⟩:∃ H3,H2.new (.cells [iv p.d,iv p.l] 95 false)=H3:=⟨_,rfl⟩
 refine Ui (H':=H3) (k:=.heavy) rfl (by kernel_rfl) ((YE (v:=.agg (Po.f p).toArray) Zb5 Zd8 rfl rfl rfl (by decide)).trans (by rw [← hH3];rfl)) (fun b e=>by cases e) ?_
 obtain ⟨kH3,nH3,c3⟩:=Z2 hH3;clear hH3
 have c3:Cl H3 H2.next [iv p.d,iv p.l]:=c3
 have mH3:=kH3.1
 have c1:=kH3.cl c1 (by simp)
 have hk:=hk.trans (kH3.mono (by simp))
 have cw:=kH3.cl cw (by simp)
 have hq:=hq.keep kH3 (fun x hx=>by have:=hqb x hx;simp)
 obtain ⟨H4,kdH4,eH4,dH4,aH4,kbH4⟩:=Vs (P:=Try.prog) (lo:=lo) (t1:=75) Zb5 Zdd (c3.sl (Nat.le_refl 1)) rfl (by decide) rfl (by rw [zq,hl1]) (by omega) hq (by omega) (f:=f) (by omega)
 refine Ui (k:=kdH4) rfl (by kernel_rfl) (eH4 _ _ _ _ _ _ _ rfl rfl) (by intro x hx;rcases dH4 with q | ⟨bH4,q,_⟩<;>rw [q] at hx<;>cases hx) ?_
 have mH4:=kbH4.1
 have hk:=hk.new kbH4 (fun x hx=>.inl (by rw [hab] at hx;simp [hx]))
 have cw:=kbH4.cl cw (fun hx=>by have:=hqb _ hx;omega)
 have hq:=aH4
 have hqb:∀ x,x∈YO (some (⟨H3.next,0,none⟩:Addr))→f≤x∧lo≤x∧x < H4.next:=hq.blk
 have hfresh:H.next≤H3.next:=by omega
 refine Uz (a:=⟨wb,0,none⟩) rfl<|ZX (b:=wb) (o:=0) rfl<|ZaG (b:=wb) (o:=1) rfl rfl cw (by omega) rfl rfl (by simp) ?_
 intro H5 kH5 nH5 sH5
 have mH5:=kH5.1
 have hk:=hk.new kH5 (fun x hx=>.inl (by simp at hx;subst hx;simp))
 have hq:=hq.keep kH5 (fun x hx=>by have:=hqb x hx;simp;omega)
 have cw:Cl H5 wb [iv days,.slice (some ⟨H3.next,0,none⟩) (n1+1) (n1+1)]:=sH5
 refine ZL (by rcases dH4 with rfl | ⟨bH4,rfl,hbH4,hcH4⟩<;>repeat' first | exact True.intro | exact (fun h=>h) | refine And.intro ?_ ?_ | (intro h;have h:(_:Nat)=_:=h;omega)) ?_
 exact And.intro trivial (Exists.intro _ (And.intro rfl ⟨rfl,_,_,_,hk,cw,by rw [jA];exact hq,by rw [List.length_append,hl1];rfl,fun x hx=>by simp [YO] at hx;omega⟩))
end
end
end Go.Ax

/-
 Pool: portions by rising day (written by program).
-/
namespace Go.Ax
open Go Go.RowKit Go.Proofs

noncomputable section
def poD (g:Int→Int→Int) (d:Dc):Po:=⟨d.d,g d.wl d.wh * g d.cl d.ch⟩
def prt (g:Int→Int→Int) (ds:List Dc):List Po:=ds.map (poD g)
theorem Wf {g:Int→Int→Int} {ds:List Dc}:(prt g ds).length=ds.length:=by simp [prt]
theorem Zdg {g:Int→Int→Int} {ds:List Dc} {i:Nat} (h:i < ds.length):(prt g ds).getD i Po.z=poD g (ds.getD i Dc.z):=by
 simp [prt,List.getD_eq_getElem?_getD,h]
theorem XV {x y X Y:Int} (h1:0≤x) (h2:x≤X) (h3:0≤y) (h4:y≤Y):0≤x * y∧x * y≤X * Y:=
 ⟨Int.mul_nonneg h1 h3,Int.mul_le_mul h2 h4 h3 (by omega)⟩
theorem Vw {α:Type} {z:α} {l:List α} {P:α→Prop} (h:∀ x,x∈l→P x) {i:Nat} (hi:i < l.length):P (l.getD i z):=h _ (YA hi)
theorem QU {α:Type} {l:List α} {p:α→Bool} (h:l.any p=false):∀ x,x∈l→p x=false:=by
 rw [List.any_eq_false] at h
 intro x hx
 simpa using h x hx
theorem qN {g:Int→Int→Int} (hg:∀ a b:Int,a≤b→a≤g a b∧g a b≤b) {d:Dc} (h:Xo d=false):0≤g d.wl d.wh * g d.cl d.ch∧g d.wl d.wh * g d.cl d.ch≤107374182400000:=by
 obtain ⟨_,⟨h1,h2,h3⟩,h4,h5,h6⟩:=Za2 h
 have a:=hg d.wl d.wh h2
 have b:=hg d.cl d.ch h5
 have:=XV (x:=g d.wl d.wh) (y:=g d.cl d.ch) (X:=1073741824) (Y:=100000) (by omega) (by omega) (by omega) (by omega)
 omega
theorem jh {g:Int→Int→Int} (hg:∀ a b:Int,a≤b→a≤g a b∧g a b≤b) {ds:List Dc} (h:∀ d,d∈ds→Xo d=false):Vl (prt g ds):=by
 intro p hp
 obtain ⟨d,hd,rfl⟩:=List.mem_map.1 hp
 have:=qN hg (h d hd)
 show 0≤_ * _∧_ * _≤_
 omega
theorem JH {g:Int→Int→Int} {ds:List Dc} (h:∀ d,d∈ds→Xo d=false):Dy (prt g ds):=by
 intro p hp
 obtain ⟨d,hd,rfl⟩:=List.mem_map.1 hp
 exact (Za2 (h d hd)).1
theorem ZcZ {l:List Po} {n:Nat} {g:Nat→Nat}:cG (fun x=>[iv (l.getD x Po.z).d,iv (l.getD x Po.z).l]) n g=poc ((List.range n).map fun i=>l.getD (g i) Po.z):=by
 unfold cG poc
 rw [List.flatMap_map,List.flatMap_map];rfl
theorem Q3 {α:Type} {l:List α} {z:α}:((List.range l.length).map fun i=>l.getD i z)=l:=by
 refine List.ext_getElem? fun i=>?_
 rcases Nat.lt_or_ge i l.length with q | q
 ·simp [q]
 ·simp [q]
theorem Zac {l:List Po} {g:Nat→Nat} (p:PRm 0 l.length (fun i=>i) g) (s:So (fun x=>(l.getD x Po.z).d) 0 l.length g):((List.range l.length).map fun i=>l.getD (g i) Po.z).Perm l∧Srt ((List.range l.length).map fun i=>l.getD (g i) Po.z):=by
 constructor
 ·have h:=p.perm.map fun x=>l.getD x Po.z
  unfold rg at h
  rw [Nat.sub_zero,← List.range_eq_range',List.map_map,List.map_map] at h
  have e:(List.range l.length).map ((fun x=>l.getD x Po.z) ∘ fun i=>i)=l:=Q3
  rw [e] at h
  exact h
 ·unfold Srt
  rw [List.pairwise_iff_getElem]
  intro i j hi hj hij
  simp only [List.length_map,List.length_range] at hi hj
  simp only [List.getElem_map,List.getElem_range]
  exact s.le (Nat.zero_le i) (Nat.le_of_lt hij) hj
section
variable {kn:Kn} {lo:Nat} {H:Hp}
set_option maxRecDepth 100000 in
set_option maxHeartbeats 2000000 in
theorem WE {ds:List Dc} {sa:Option Addr} {n cap:Nat} (hs:Sl H sa n cap (dcc ds)) (hl:ds.length=n) (hn:n≤100) (hbd:∀ d,d∈ds→Xo d=false) (hlo:lo≤H.next) {fid:Nat} {g:Int→Int→Int} (htk:Tk kn fid g):∃ a c qs H',FnX Try.prog kn lo 37 [.slice sa n cap,.func (.func fid) #[] #[]] H (.slice a n c) H'∧Zk H H' []∧Sl H' a n c (poc qs)∧qs.Perm (prt g ds)∧Srt qs∧∀ b,a=some ⟨b,0,none⟩→H.next≤b:=by
 have key:=Zp (kn:=kn) (lo:=lo) (H:=H) (args:=[.slice sa n cap,.func (.func fid) #[] #[]]) (Q:=fun w H'=>∃ a c qs,w=.slice a n c∧Zk H H' []∧Sl H' a n c (poc qs)∧qs.Perm (prt g ds)∧Srt qs∧∀ b,a=some ⟨b,0,none⟩→H.next≤b) Try.func37 B37 N37 Z37 L37 (by simp) ?_
 ·obtain ⟨w,H',h,a,c,qs,rfl,r⟩:=key;exact ⟨a,c,qs,H',h,r⟩
 have hk:=Zk.refl H []
 have fs:=hs.old
 refine Zc<|Za rfl<|Zb<|Zc<|Za rfl<|Zb<|Zc<|Za rfl<|Zv (m:=n) rfl<|Za rfl<|Zb ?_
 refine Zt (fn:=Try.f37) Zer N37 ZeW (fun z:Nat × Value=>[(1,.func (.func fid) #[] #[]),(5,z.2),(8,.slice sa n cap),(9,iv (n:Int)),(10,iv (z.1:Int))])
  (fun k z H'=>z.1+k=n∧Zk H H' []∧Sl H' sa n cap (dcc ds)∧Acc lo H.next 95 H' z.2 z.1 (poc ((prt g ds).take z.1))) n (0,.slice none 0 0) ⟨by simp,hk,hs,.inl ⟨rfl,rfl,rfl⟩⟩ ⟨rfl,rfl,rfl,rfl,rfl,trivial⟩ ?_
 rintro k ⟨i,wv⟩ L1 ⟨hik,hk,hs,hacc⟩
 simp only [] at hik hacc
 have mk:=hk.1;have kacc:=Zk.refl L1 []
 refine Zc<|Zx (a:=(i:Int)) (b:=(n:Int)) rfl rfl<|Zb ?_
 refine And.intro (fun q1=>?_) (fun q1=>?_)
 ·have q1:(i:Int) < (n:Int):=of_decide_eq_true q1
  have hi:i < n:=by omega
  rcases id hs with ⟨_,h0s,_⟩ | ⟨sb,es,rs,_⟩
  ·omega
  have ls:=rs.1
  have lsb2:=fs sb es
  have hbi:=Vw (z:=Dc.z) hbd (show i < ds.length by omega);have hmul:=qN htk.bd hbi
  first | refine Zj ?_ | skip
  refine Zc<|YS (b:=sb) (o:=0) (k:=i) (j:=(i:Int)) (by rw [← es];rfl) rfl rfl hi<|Z4 (b:=sb) (o:=0+i * 5) rfl rs (zR (by omega))<|YF ?_
  intro H1 kH1 nH1 c1
  have c1:Cl H1 L1.next [iv 0,iv 0,iv 0,iv 0,iv 0]:=c1
  have mH1:=kH1.1
  have hk:=hk.trans kH1
  have hs:=kH1.sl0 hs
  have kacc:=kacc.trans kH1
  have rs:=kH1.rd rs (by simp)
  refine Yk (b:=L1.next) (o:=0) rfl rfl c1 (by omega) rfl rfl (by simp) ?_
  intro H2 kH2 nH2 sH2
  have mH2:=kH2.1
  have hk:=hk.new kH2 (fun b hb=>by simp at hb ⊢;omega)
  have hs:=kH2.sl hs (fun b e=>by have:=fs b e;first | (simp;done) | (simp;omega))
  have kacc:=kacc.new kH2 (fun b hb=>by simp at hb ⊢;omega)
  have rs:=kH2.rd rs (by first | (simp;done) | (simp;omega))
  have c1:Cl H2 L1.next [iv ((ds.getD i Dc.z).d),iv ((ds.getD i Dc.z).wl),iv ((ds.getD i Dc.z).wh),iv ((ds.getD i Dc.z).cl),iv ((ds.getD i Dc.z).ch)]:=sH2
  refine Zb ?_
  first | refine Y6 ?_ | refine VS ?_ | refine UR ?_ | (refine Z5 ?_;refine Y6 ?_)
  refine Zg rfl<|ZX (b:=L1.next) (o:=0) rfl<|Yf (b:=L1.next) (o:=0) (v:=iv ((ds.getD i Dc.z).d)) rfl c1.rd rfl<|Zg rfl<|ZX (b:=L1.next) (o:=0) rfl<|Z1 (b:=L1.next) (o:=1) rfl c1.rd (show row 2 _ _=some [iv ((ds.getD i Dc.z).wl),iv ((ds.getD i Dc.z).wh)] from rfl) ?_
  obtain ⟨H3,fH3,kH3⟩:=htk.ok H2.next H2 ((ds.getD i Dc.z).wl) ((ds.getD i Dc.z).wh) (Nat.le_refl _)
  refine YV (vs:=[.agg #[iv ((ds.getD i Dc.z).wl),iv ((ds.getD i Dc.z).wh)]]) rfl rfl (Ze fH3 htk.sp) ?_
  have mH3:=kH3.1
  have hk:=hk.trans kH3
  have hs:=kH3.sl0 hs
  have kacc:=kacc.trans kH3
  have rs:=kH3.rd rs (by simp)
  have c1:=kH3.cl c1 (by simp)
  refine Zg rfl<|ZX (b:=L1.next) (o:=0) rfl<|Z1 (b:=L1.next) (o:=3) rfl c1.rd (show row 2 _ _=some [iv ((ds.getD i Dc.z).cl),iv ((ds.getD i Dc.z).ch)] from rfl) ?_
  obtain ⟨H4,fH4,kH4⟩:=htk.ok H3.next H3 ((ds.getD i Dc.z).cl) ((ds.getD i Dc.z).ch) (Nat.le_refl _)
  refine YV (vs:=[.agg #[iv ((ds.getD i Dc.z).cl),iv ((ds.getD i Dc.z).ch)]]) rfl rfl (Ze fH4 htk.sp) ?_
  have mH4:=kH4.1
  have hk:=hk.trans kH4
  have hs:=kH4.sl0 hs
  have kacc:=kacc.trans kH4
  have rs:=kH4.rd rs (by simp)
  have c1:=kH4.cl c1 (by simp)
  refine UY (a:=g ((ds.getD i Dc.z).wl) ((ds.getD i Dc.z).wh)) (b:=g ((ds.getD i Dc.z).cl) ((ds.getD i Dc.z).ch)) rfl rfl ⟨by omega,by omega⟩<|ZH (v:=.agg #[iv ((ds.getD i Dc.z).d),iv ((g ((ds.getD i Dc.z).wl) ((ds.getD i Dc.z).wh)) * (g ((ds.getD i Dc.z).cl) ((ds.getD i Dc.z).ch)))]) rfl (by kernel_rfl) ?_
  obtain ⟨H5,hH5⟩:∃ H5,H4.new (.cells [iv ((ds.getD i Dc.z).d),iv ((g ((ds.getD i Dc.z).wl) ((ds.getD i Dc.z).wh)) * (g ((ds.getD i Dc.z).cl) ((ds.getD i Dc.z).ch)))] 95 false)=H5:=⟨_,rfl⟩
  refine Ui (H':=H5) (k:=.heavy) rfl (by kernel_rfl) ((YE (v:=.agg #[iv ((ds.getD i Dc.z).d),iv ((g ((ds.getD i Dc.z).wl) ((ds.getD i Dc.z).wh)) * (g ((ds.getD i Dc.z).cl) ((ds.getD i Dc.z).ch)))]) Zb5 Zd8 rfl rfl rfl (by decide)).trans (by rw [← hH5];rfl)) (fun b e=>by cases e) ?_
  obtain ⟨kH5,nH5,c5⟩:=Z2 hH5;clear hH5
  have c5:Cl H5 H4.next [iv ((ds.getD i Dc.z).d),iv ((g ((ds.getD i Dc.z).wl) ((ds.getD i Dc.z).wh)) * (g ((ds.getD i Dc.z).cl) ((ds.getD i Dc.z).ch)))]:=c5
  have mH5:=kH5.1
  have hk:=hk.trans kH5
  have hs:=kH5.sl0 hs
  have kacc:=kacc.trans kH5
  have rs:=kH5.rd rs (by simp)
  have c1:=kH5.cl c1 (by simp)
  obtain ⟨H6,kdH6,eH6,dH6,aH6,kbH6⟩:=YJ (P:=Try.prog) (lo:=lo) (k:=i) (t1:=75) Zb5 Zdd (c5.sl (Nat.le_refl 1)) rfl (by decide) rfl (by rw [zq,List.length_take,Wf];omega) (by omega) (hacc.keep kacc) (by omega) (by omega)
  refine Ui (k:=kdH6) rfl (by cases wv<;>kernel_rfl) (eH6 _ _ _ _ _ _ _ rfl rfl) (UT dH6 _) ?_
  have hk:=kbH6.keep hk (by omega)
  have hs:=kbH6.sl hs (fun b e=>by have:=fs b e;omega)
  have mH6:=kbH6.1
  refine Zg rfl ?_
  refine ZL (by rcases dH6 with rfl | ⟨bH6,rfl,hbH6⟩<;>repeat' first | exact True.intro | exact (fun h=>h) | refine And.intro ?_ ?_ | (intro h;have h:(_:Nat)=_:=h;omega)) ?_
  show Zn _ _ _ _ _ _ _ _
  refine Zo (a:=(i:Int)) (b:=1) rfl rfl ⟨by omega,by omega⟩<|Za rfl<|Zb ?_
  have hU:(prt g ds).take (i+1)=(prt g ds).take i ++ [poD g (ds.getD i Dc.z)]:=by rw [Wi (z:=Po.z) (by rw [Wf];omega),Zdg (by omega)]
  have hacc2:Acc lo H.next 95 H6 (.slice (some ⟨H5.next,0,none⟩) (i+1) (i+1)) (i+1) (poc ((prt g ds).take (i+1))):=by rw [hU,jA];exact aH6
  exact ⟨k - 1,(i+1,_),by omega,⟨by simp only [];omega,hk,hs,hacc2⟩,rfl,rfl,rfl,rfl,rfl,trivial⟩
 ·have q1:¬ ((i:Int) < (n:Int)):=of_decide_eq_false q1
  have ein:i=n:=by omega
  rw [ein,← hl,← Wf (g:=g),List.take_length,Wf,hl] at hacc
  rcases hacc with ⟨q0,q1,rfl⟩ | ⟨bd,rfl,q0,q1,q2,q3,q4⟩
  ·have hd0:ds=[]:=List.eq_nil_of_length_eq_zero (by omega)
   first | (refine Zy ?_;show wC _ _ _ _ _ _ _ _ _) | skip
   refine Zc<|Za rfl ?_
   obtain ⟨H7,fH7,kH7⟩:=Zbi (kn:=kn) (lo:=lo) (H:=L1) (cv:=.func (.func 62) #[] #[])
   refine Zi (vs:=[.slice none 0 0,.func (.func 62) #[] #[]]) rfl (Ze fH7) ?_
   have mH7:=kH7.1
   have hk:=hk.trans kH7
   have hs:=kH7.sl0 hs
   have kacc:=kacc.trans kH7
   refine Zb<|Zc<|Za rfl<|Za rfl<|Zb ?_
   exact And.intro trivial (Exists.intro _ (And.intro rfl ⟨none,0,[],by rw [show n=0 by omega];rfl,hk,.inl ⟨.inl rfl,by omega,rfl,rfl⟩,by rw [hd0];exact .refl _,List.Pairwise.nil,fun b e=>by cases e⟩))
  ·first | (refine Zy ?_;show wC _ _ _ _ _ _ _ _ _) | skip
   refine Zc<|Za rfl ?_
   have hpl:(prt g ds).length=n:=by rw [Wf,hl]
   have hcc:Cl L1 bd (cG (fun x=>[iv ((prt g ds).getD x Po.z).d,iv ((prt g ds).getD x Po.z).l]) n fun i=>i):=by rw [ZcZ,← hpl,Q3];exact ⟨q3,_,_,q4⟩
   have hcmp:Ke Try.prog kn lo bd 62 #[] (fun x=>.agg #[iv ((prt g ds).getD x Po.z).d,iv ((prt g ds).getD x Po.z).l]) n (fun x=>((prt g ds).getD x Po.z).d) L1:=fun H1 k1 x y _ _=>by have:=k1.1;obtain ⟨r,H2,h1,h2,h3⟩:=Zb7 (kn:=kn) (lo:=lo) (H:=H1) (x:=((prt g ds).getD x Po.z).d) (y:=((prt g ds).getD y Po.z).d) (u:=((prt g ds).getD x Po.z).l) (v:=((prt g ds).getD y Po.z).l) (by omega);exact ⟨r,H2,Ze h1,h2,h3⟩
   obtain ⟨H8,gH8,fH8,pH8,sH8,kH8,cH8⟩:=ZbW (kn:=kn) (lo:=lo) (H:=L1) (by omega) (cap:=n) (by omega) (by omega) hcc hcmp
   refine Zi (vs:=[.slice (some ⟨bd,0,none⟩) n n,.func (.func 62) #[] #[]]) rfl (Ze fH8) ?_
   have hk:=hk.new kH8.kp (fun x hx=>.inr (by simp at hx;omega))
   refine Zb<|Zc<|Za rfl<|Za rfl<|Zb ?_
   have hso:=Zac (l:=prt g ds) (g:=gH8) (by rw [hpl];exact pH8) (by rw [hpl];exact sH8)
   rw [hpl] at hso
   rw [ZcZ] at cH8
   exact And.intro trivial (Exists.intro _ (And.intro rfl ⟨_,n,_,rfl,hk,.inr ⟨bd,rfl,cH8.rd,Nat.le_refl _⟩,hso.1,hso.2,fun b e=>by cases e;omega⟩))
end
end
end Go.Ax

/-
 Pool: firstAbove,greatestFrom,Passed (written by program).
-/
namespace Go.Ax
open Go Go.RowKit Go.Proofs

noncomputable section
section
variable {kn:Kn} {lo:Nat} {H:Hp}
set_option maxRecDepth 100000 in
set_option maxHeartbeats 2000000 in
theorem V4 {qs:List Po} {sa:Option Addr} {n cap:Nat} {days:Int} (hs:Sl H sa n cap (poc qs)) (hl:qs.length=n) (hn:n≤90) (hv:Vl qs) (hy:Dy qs) (hdy:1≤days∧days≤366) (hlo:lo≤H.next) {limit:Int}:∃ r H',FnX Try.prog kn lo 36 [.slice sa n cap,iv days,iv limit] H (iv r) H'∧Zk H H' []∧Fa qs days limit r:=by
 have key:=Zp (kn:=kn) (lo:=lo) (H:=H) (args:=[.slice sa n cap,iv days,iv limit]) (Q:=fun w H'=>∃ r,w=iv r∧Zk H H' []∧Fa qs days limit r) Try.func36 B36 N36 Z36 L36 (by simp) ?_
 ·obtain ⟨w,H',h,r,rfl,q⟩:=key;exact ⟨r,H',h,q⟩
 have hk:=Zk.refl H []
 have fs:=hs.old
 refine Zc<|Za rfl<|Zb<|Zc<|Za rfl<|Zd (v:=.agg #[iv days,.slice none 0 0]) rfl (by kernel_rfl)<|YF ?_
 intro H1 kH1 nH1 c1
 have c1:Cl H1 H.next [iv 0,.slice none 0 0]:=c1
 have mH1:=kH1.1
 have hk:=hk.trans kH1
 have hs:=kH1.sl0 hs
 refine Yk (b:=H.next) (o:=0) rfl rfl c1 (by omega) rfl rfl (by simp) ?_
 intro H2 kH2 nH2 sH2
 have mH2:=kH2.1
 have hk:=hk.new kH2 (fun b hb=>by simp at hb ⊢;omega)
 have hs:=kH2.sl hs (fun b e=>by have:=fs b e;first | (simp;done) | (simp;omega))
 have c1:Cl H2 H.next [iv days,.slice none 0 0]:=sH2
 refine Zb<|Zc<|Za rfl<|Zv (m:=n) rfl<|Za rfl<|Zb ?_
 refine Zt (fn:=Try.f36) Zd5 N36 Zes (fun i:Nat=>[(1,iv days),(2,iv limit),(7,pt H.next),(12,.slice sa n cap),(13,iv (n:Int)),(14,iv (i:Int))])
  (fun k i H'=>i+k=n∧Zk H H' []∧H.next < H'.next∧Sl H' sa n cap (poc qs)∧(∃ q1 c1,Cl H' H.next [iv days,.slice q1 (win qs days i).length c1]∧Qu lo (H.next+1) 95 H' q1 (win qs days i).length c1 (poc (win qs days i)))∧∀ j,j < i→ps (win qs days (j+1))≤limit) n 0 ⟨by omega,hk,by omega,hs,⟨none,0,c1,Qu.nil⟩,fun j h=>absurd h (Nat.not_lt_zero j)⟩ ⟨rfl,rfl,rfl,rfl,rfl,rfl,trivial⟩ ?_
 rintro k i L1 ⟨hik,hk,hnx,hs,⟨q1,c1,cw,hq⟩,hall⟩
 have mk:=hk.1;have hqb:=hq.blk
 have hws:=Uw (qs:=qs) (days:=days) (i:=i) (by omega);have hwl:=hws.2
 refine Zc<|Zx (a:=(i:Int)) (b:=(n:Int)) rfl rfl<|Zb ?_
 refine And.intro (fun q1=>?_) (fun q1=>?_)
 ·have q1:(i:Int) < (n:Int):=of_decide_eq_true q1
  have hi:i < n:=by omega
  rcases id hs with ⟨_,h0s,_⟩ | ⟨sb,es,rs,_⟩
  ·omega
  have ls:=rs.1
  have lsb2:=fs sb es
  have hvi:=Vw (z:=Po.z) hv (show i < qs.length by omega);have hyi:=Vw (z:=Po.z) hy (show i < qs.length by omega)
  first | refine Zj ?_ | skip
  refine Zc<|YS (b:=sb) (o:=0) (k:=i) (j:=(i:Int)) (by rw [← es];rfl) rfl rfl hi<|Z4 (b:=sb) (o:=0+i * 2) rfl rs (Us (by omega))<|YF ?_
  intro H3 kH3 nH3 c3
  have c3:Cl H3 L1.next [iv 0,iv 0]:=c3
  have mH3:=kH3.1
  have hk:=hk.trans kH3
  have hs:=kH3.sl0 hs
  have cw:=kH3.cl cw (by simp)
  have hq:=hq.keep kH3 (fun x hx=>by have:=hqb x hx;simp)
  have rs:=kH3.rd rs (by simp)
  refine Yk (b:=L1.next) (o:=0) rfl rfl c3 (by omega) rfl rfl (by simp) ?_
  intro H4 kH4 nH4 sH4
  have mH4:=kH4.1
  have hk:=hk.new kH4 (fun b hb=>by simp at hb ⊢;omega)
  have hs:=kH4.sl hs (fun b e=>by have:=fs b e;first | (simp;done) | (simp;omega))
  have cw:=kH4.cl cw (by first | (simp;done) | (simp;omega))
  have hq:=hq.keep kH4 (fun x hx=>by have:=hqb x hx;simp;omega)
  have rs:=kH4.rd rs (by first | (simp;done) | (simp;omega))
  have c3:Cl H4 L1.next [iv ((qs.getD i Po.z).d),iv ((qs.getD i Po.z).l)]:=sH4
  refine Zb<|Zc<|Z4 (b:=L1.next) (o:=0) rfl c3.rd (show row 2 _ _=some [iv ((qs.getD i Po.z).d),iv ((qs.getD i Po.z).l)] from rfl) ?_
  obtain ⟨H5,q2,n2,c2,fH5,kH5,cw,hq,hl2,hfr⟩:=U0 (kn:=kn) (lo:=lo) (H:=H4) cw hq rfl (by omega) (by omega) (by omega) (by omega) (hy.sub hws.1) (by omega) (p:=(qs.getD i Po.z)) hyi hdy
  refine Zi (vs:=[pt H.next,.agg (Po.f (qs.getD i Po.z)).toArray]) rfl (Ze fH5) ?_
  have hk:=hk.new kH5 (fun x hx=>.inr (by rcases List.mem_cons.1 hx with e | hx;omega;(have:=hqb _ hx;omega)))
  have hs:=kH5.sl hs (fun x e0 hx=>by have:=fs x e0;rcases List.mem_cons.1 hx with e | hx;omega;(have:=hqb _ hx;omega))
  have rs:=kH5.rd rs (fun hx=>by rcases List.mem_cons.1 hx with e | hx;omega;(have:=hqb _ hx;omega))
  have c3:=kH5.cl c3 (fun hx=>by rcases List.mem_cons.1 hx with e | hx;omega;(have:=hqb _ hx;omega))
  have mH5:=kH5.1
  subst hl2
  have cw:Cl H5 H.next [iv days,.slice q2 (win qs days (i+1)).length c2]:=cw
  have hq:Qu lo (H.next+1) 95 H5 q2 (win qs days (i+1)).length c2 (poc (win qs days (i+1))):=hq
  have hqb:=hq.blk
  have hws2:=Uw (qs:=qs) (days:=days) (i:=i+1) (by omega);have hwl2:=hws2.2
  refine Zb<|Zc ?_
  obtain ⟨H6,fH6,kH6⟩:=Jp (kn:=kn) (lo:=lo) (H:=H5) cw hq rfl (by omega) (by omega) (by omega) (by omega) (hv.sub hws2.1)
  refine Zi (vs:=[pt H.next]) rfl (Ze fH6) ?_
  have mH6:=kH6.1
  have hk:=hk.trans kH6
  have hs:=kH6.sl0 hs
  have rs:=kH6.rd rs (by simp)
  have c3:=kH6.cl c3 (by simp)
  have cw:=kH6.cl cw (by simp)
  have hq:=hq.keep kH6 (fun x hx=>by have:=hqb x hx;simp)
  refine Za rfl<|Y2 (a:=(ps (win qs days (i+1)))) (b:=limit) rfl rfl<|Zb ?_
  refine And.intro (fun q2=>?_) (fun q2=>?_)
  ·have q2:(ps (win qs days (i+1))) > limit:=of_decide_eq_true q2
   refine Zc<|Zu (b:=L1.next) (o:=0) rfl<|ZP (b:=L1.next) (o:=0) (v:=iv ((qs.getD i Po.z).d)) rfl c3.rd rfl<|Za rfl<|Zb ?_
   exact And.intro trivial (Exists.intro _ (And.intro rfl ⟨_,rfl,hk,.inr ⟨i,by omega,rfl,by omega,hall⟩⟩))
  ·have q2:¬ ((ps (win qs days (i+1))) > limit):=of_decide_eq_false q2
   first | refine Zj ?_ | skip
   show Zn _ _ _ _ _ _ _ _
   refine Zo (a:=(i:Int)) (b:=1) rfl rfl ⟨by omega,by omega⟩<|Za rfl<|Zb ?_
   exact ⟨k - 1,i+1,by omega,⟨by omega,hk,by omega,hs,⟨_,_,cw,hq⟩,fun j hj=>by rcases Nat.lt_or_ge j i with c | c;exact hall j c;rw [show j=i by omega];omega⟩,rfl,rfl,rfl,rfl,rfl,ivq (by omega),trivial⟩
 ·have q1:¬ ((i:Int) < (n:Int)):=of_decide_eq_false q1
  first | (refine Zy ?_;show wC _ _ _ _ _ _ _ _ _) | skip
  refine Zc<|Za rfl<|Zb ?_
  exact And.intro trivial (Exists.intro _ (And.intro rfl ⟨_,rfl,hk,.inl ⟨rfl,fun j hj=>hall j (by omega)⟩⟩))
set_option maxRecDepth 100000 in
set_option maxHeartbeats 2000000 in
theorem QA {qs:List Po} {sa:Option Addr} {n cap:Nat} {days:Int} (hs:Sl H sa n cap (poc qs)) (hl:qs.length=n) (hn:n≤90) (hv:Vl qs) (hy:Dy qs) (hdy:1≤days∧days≤366) (hlo:lo≤H.next) {day:Int} (hday:0≤day∧day≤16384):∃ r H',FnX Try.prog kn lo 41 [.slice sa n cap,iv days,iv day] H (iv r) H'∧Zk H H' []∧r=gm qs days day n:=by
 have key:=Zp (kn:=kn) (lo:=lo) (H:=H) (args:=[.slice sa n cap,iv days,iv day]) (Q:=fun w H'=>∃ r,w=iv r∧Zk H H' []∧r=gm qs days day n) Try.func41 B41 N41 Z41 L41 (by simp) ?_
 ·obtain ⟨w,H',h,r,rfl,q⟩:=key;exact ⟨r,H',h,q⟩
 have hk:=Zk.refl H []
 have fs:=hs.old
 refine Zc<|Za rfl<|Zb<|Zc<|Za rfl<|Zd (v:=.agg #[iv days,.slice none 0 0]) rfl (by kernel_rfl)<|YF ?_
 intro H1 kH1 nH1 c1
 have c1:Cl H1 H.next [iv 0,.slice none 0 0]:=c1
 have mH1:=kH1.1
 have hk:=hk.trans kH1
 have hs:=kH1.sl0 hs
 refine Yk (b:=H.next) (o:=0) rfl rfl c1 (by omega) rfl rfl (by simp) ?_
 intro H2 kH2 nH2 sH2
 have mH2:=kH2.1
 have hk:=hk.new kH2 (fun b hb=>by simp at hb ⊢;omega)
 have hs:=kH2.sl hs (fun b e=>by have:=fs b e;first | (simp;done) | (simp;omega))
 have c1:Cl H2 H.next [iv days,.slice none 0 0]:=sH2
 refine Zb<|Zc<|Za rfl<|Zb<|Zc<|Za rfl<|Zv (m:=n) rfl<|Za rfl<|Zb ?_
 refine Zt (fn:=Try.f41) Zed N41 Zec (fun i:Nat=>[(1,iv days),(2,iv day),(7,pt H.next),(13,.slice sa n cap),(14,iv (n:Int)),(15,iv (i:Int)),(8,iv (gm qs days day i))])
  (fun k i H'=>i+k=n∧Zk H H' []∧H.next < H'.next∧Sl H' sa n cap (poc qs)∧(∃ q1 c1,Cl H' H.next [iv days,.slice q1 (win qs days i).length c1]∧Qu lo (H.next+1) 95 H' q1 (win qs days i).length c1 (poc (win qs days i)))∧True) n 0 ⟨by omega,hk,by omega,hs,⟨none,0,c1,Qu.nil⟩,trivial⟩ ⟨rfl,rfl,rfl,rfl,rfl,rfl,rfl,trivial⟩ ?_
 rintro k i L1 ⟨hik,hk,hnx,hs,⟨q1,c1,cw,hq⟩,_⟩
 have mk:=hk.1;have hqb:=hq.blk
 have hws:=Uw (qs:=qs) (days:=days) (i:=i) (by omega);have hwl:=hws.2
 refine Zc<|Zx (a:=(i:Int)) (b:=(n:Int)) rfl rfl<|Zb ?_
 refine And.intro (fun q1=>?_) (fun q1=>?_)
 ·have q1:(i:Int) < (n:Int):=of_decide_eq_true q1
  have hi:i < n:=by omega
  rcases id hs with ⟨_,h0s,_⟩ | ⟨sb,es,rs,_⟩
  ·omega
  have ls:=rs.1
  have lsb2:=fs sb es
  have hvi:=Vw (z:=Po.z) hv (show i < qs.length by omega);have hyi:=Vw (z:=Po.z) hy (show i < qs.length by omega)
  first | refine Zj ?_ | skip
  refine Zc<|YS (b:=sb) (o:=0) (k:=i) (j:=(i:Int)) (by rw [← es];rfl) rfl rfl hi<|Z4 (b:=sb) (o:=0+i * 2) rfl rs (Us (by omega))<|YF ?_
  intro H3 kH3 nH3 c3
  have c3:Cl H3 L1.next [iv 0,iv 0]:=c3
  have mH3:=kH3.1
  have hk:=hk.trans kH3
  have hs:=kH3.sl0 hs
  have cw:=kH3.cl cw (by simp)
  have hq:=hq.keep kH3 (fun x hx=>by have:=hqb x hx;simp)
  have rs:=kH3.rd rs (by simp)
  refine Yk (b:=L1.next) (o:=0) rfl rfl c3 (by omega) rfl rfl (by simp) ?_
  intro H4 kH4 nH4 sH4
  have mH4:=kH4.1
  have hk:=hk.new kH4 (fun b hb=>by simp at hb ⊢;omega)
  have hs:=kH4.sl hs (fun b e=>by have:=fs b e;first | (simp;done) | (simp;omega))
  have cw:=kH4.cl cw (by first | (simp;done) | (simp;omega))
  have hq:=hq.keep kH4 (fun x hx=>by have:=hqb x hx;simp;omega)
  have rs:=kH4.rd rs (by first | (simp;done) | (simp;omega))
  have c3:Cl H4 L1.next [iv ((qs.getD i Po.z).d),iv ((qs.getD i Po.z).l)]:=sH4
  refine Zb<|Zc<|Z4 (b:=L1.next) (o:=0) rfl c3.rd (show row 2 _ _=some [iv ((qs.getD i Po.z).d),iv ((qs.getD i Po.z).l)] from rfl) ?_
  obtain ⟨H5,q2,n2,c2,fH5,kH5,cw,hq,hl2,hfr⟩:=U0 (kn:=kn) (lo:=lo) (H:=H4) cw hq rfl (by omega) (by omega) (by omega) (by omega) (hy.sub hws.1) (by omega) (p:=(qs.getD i Po.z)) hyi hdy
  refine Zi (vs:=[pt H.next,.agg (Po.f (qs.getD i Po.z)).toArray]) rfl (Ze fH5) ?_
  have hk:=hk.new kH5 (fun x hx=>.inr (by rcases List.mem_cons.1 hx with e | hx;omega;(have:=hqb _ hx;omega)))
  have hs:=kH5.sl hs (fun x e0 hx=>by have:=fs x e0;rcases List.mem_cons.1 hx with e | hx;omega;(have:=hqb _ hx;omega))
  have rs:=kH5.rd rs (fun hx=>by rcases List.mem_cons.1 hx with e | hx;omega;(have:=hqb _ hx;omega))
  have c3:=kH5.cl c3 (fun hx=>by rcases List.mem_cons.1 hx with e | hx;omega;(have:=hqb _ hx;omega))
  have mH5:=kH5.1
  subst hl2
  have cw:Cl H5 H.next [iv days,.slice q2 (win qs days (i+1)).length c2]:=cw
  have hq:Qu lo (H.next+1) 95 H5 q2 (win qs days (i+1)).length c2 (poc (win qs days (i+1))):=hq
  have hqb:=hq.blk
  have hws2:=Uw (qs:=qs) (days:=days) (i:=i+1) (by omega);have hwl2:=hws2.2
  refine Zb<|Zc<|Zu (b:=L1.next) (o:=0) rfl<|ZP (b:=L1.next) (o:=0) (v:=iv ((qs.getD i Po.z).d)) rfl c3.rd rfl<|Za rfl<|ZaF (a:=(qs.getD i Po.z).d) (b:=day) rfl rfl ?_
  intro t2 g2;cases t2
  ·have g2:¬ (((qs.getD i Po.z).d) ≥ day):=of_decide_eq_false g2
   refine Za rfl<|Zh rfl<|Zh rfl<|Zh rfl<|Zh rfl<|Zh rfl<|Zh rfl<|Zd (v:=.bool false) rfl rfl<|Zb<|ZQ ?_
   first | refine Zj ?_ | skip
   show Zn _ _ _ _ _ _ _ _
   refine Zo (a:=(i:Int)) (b:=1) rfl rfl ⟨by omega,by omega⟩<|Za rfl<|Zb ?_
   exact ⟨k - 1,i+1,by omega,⟨by omega,hk,by omega,hs,⟨_,_,cw,hq⟩,trivial⟩,rfl,rfl,rfl,rfl,rfl,ivq (by omega),ivq (by show _=(if day≤(qs.getD i Po.z).d∧(qs.getD i Po.z).d < day+days then max (gm qs days day i) (ps (win qs days (i+1))) else gm qs days day i);rw [if_neg (by omega)]),trivial⟩
  ·have g2:((qs.getD i Po.z).d) ≥ day:=of_decide_eq_true g2
   refine Za rfl ?_
   refine Zl rfl (Zu (b:=L1.next) (o:=0) rfl ?_)
   refine Zl rfl (ZP (b:=L1.next) (o:=0) (v:=iv ((qs.getD i Po.z).d)) rfl c3.rd rfl ?_)
   refine Zl rfl (Za rfl ?_)
   refine Zl rfl (Za rfl ?_)
   refine Zl rfl (Zo (a:=day) (b:=days) rfl rfl ⟨by omega,by omega⟩ ?_)
   refine Zl rfl (Xc (a:=(qs.getD i Po.z).d) (b:=day+days) rfl rfl ?_)
   intro t3 g3;cases t3
   ·have g3:¬ (((qs.getD i Po.z).d) < (day+days)):=of_decide_eq_false g3
    refine Zd (v:=.bool false) rfl rfl<|Zb<|ZQ ?_
    first | refine Zj ?_ | skip
    show Zn _ _ _ _ _ _ _ _
    refine Zo (a:=(i:Int)) (b:=1) rfl rfl ⟨by omega,by omega⟩<|Za rfl<|Zb ?_
    exact ⟨k - 1,i+1,by omega,⟨by omega,hk,by omega,hs,⟨_,_,cw,hq⟩,trivial⟩,rfl,rfl,rfl,rfl,rfl,ivq (by omega),ivq (by show _=(if day≤(qs.getD i Po.z).d∧(qs.getD i Po.z).d < day+days then max (gm qs days day i) (ps (win qs days (i+1))) else gm qs days day i);rw [if_neg (by omega)]),trivial⟩
   ·have g3:((qs.getD i Po.z).d) < (day+days):=of_decide_eq_true g3
    refine Zd (v:=.bool true) rfl rfl<|Zb<|ZK ?_
    show Zn _ _ _ _ _ _ _ _
    refine Za rfl ?_
    obtain ⟨H6,fH6,kH6⟩:=Jp (kn:=kn) (lo:=lo) (H:=H5) cw hq rfl (by omega) (by omega) (by omega) (by omega) (hv.sub hws2.1)
    refine Zi (vs:=[pt H.next]) rfl (Ze fH6) ?_
    have mH6:=kH6.1
    have hk:=hk.trans kH6
    have hs:=kH6.sl0 hs
    have rs:=kH6.rd rs (by simp)
    have c3:=kH6.cl c3 (by simp)
    have cw:=kH6.cl cw (by simp)
    have hq:=hq.keep kH6 (fun x hx=>by have:=hqb x hx;simp)
    refine JI (a:=(gm qs days day i)) (b:=(ps (win qs days (i+1)))) rfl rfl<|Za rfl<|Zb ?_
    show Zn _ _ _ _ _ _ _ _
    refine Zo (a:=(i:Int)) (b:=1) rfl rfl ⟨by omega,by omega⟩<|Za rfl<|Zb ?_
    exact ⟨k - 1,i+1,by omega,⟨by omega,hk,by omega,hs,⟨_,_,cw,hq⟩,trivial⟩,rfl,rfl,rfl,rfl,rfl,ivq (by omega),ivq (by show _=(if day≤(qs.getD i Po.z).d∧(qs.getD i Po.z).d < day+days then max (gm qs days day i) (ps (win qs days (i+1))) else gm qs days day i);rw [if_pos ⟨by omega,by omega⟩];try rfl),trivial⟩
 ·have q1:¬ ((i:Int) < (n:Int)):=of_decide_eq_false q1
  first | (refine Zy ?_;show wC _ _ _ _ _ _ _ _ _) | skip
  refine Zc<|Za rfl<|Za rfl<|Zb ?_
  obtain rfl:i=n:=by omega
  exact And.intro trivial (Exists.intro _ (And.intro rfl ⟨_,rfl,hk,rfl⟩))
end
end
end Go.Ax

/-
 Pool: Passed,and the document of it (written by program).
-/
namespace Go.Ax
open Go Go.RowKit Go.Proofs

noncomputable section
def paT (ds:List Dc) (days limit:Int):Int × Int × Int:=
 if vD ds=false then (0,0,1) else if inB days 1 366=false∨inB limit 0 72057594037927936=false then (0,0,2) else if fab (prt gHi ds) days limit = -1 then (0,0,4) else (fab (prt gLo ds) days limit,fab (prt gHi ds) days limit,0)
section
variable {ds:List Dc} {days limit:Int}
theorem Zey (h:vD ds=false):paT ds days limit=(0,0,1):=by unfold paT;rw [if_pos h]
theorem Zc6 (h:vD ds=true) (k:inB days 1 366=false∨inB limit 0 72057594037927936=false):paT ds days limit=(0,0,2):=by unfold paT;rw [if_neg (by rw [h];decide),if_pos k]
theorem ZeX (h:vD ds=true) (k:inB days 1 366=true) (k2:inB limit 0 72057594037927936=true) (q:fab (prt gHi ds) days limit = -1):paT ds days limit=(0,0,4):=by unfold paT;rw [if_neg (by rw [h];decide),if_neg (by rw [k,k2];decide),if_pos q]
theorem Zfn (h:vD ds=true) (k:inB days 1 366=true) (k2:inB limit 0 72057594037927936=true) (q:¬ fab (prt gHi ds) days limit = -1):paT ds days limit=(fab (prt gLo ds) days limit,fab (prt gHi ds) days limit,0):=by unfold paT;rw [if_neg (by rw [h];decide),if_neg (by rw [k,k2];decide),if_neg q]
theorem Jf {a b c:Int} (h:paT ds days limit=(a,b,c)):(Value.tuple #[iv a,iv b,iv c])=.tuple #[iv (paT ds days limit).1,iv (paT ds days limit).2.1,iv (paT ds days limit).2.2]:=by rw [h]
end
section
variable {kn:Kn} {lo:Nat} {H:Hp}
set_option maxRecDepth 100000 in
set_option maxHeartbeats 1000000 in
theorem Zal {ds:List Dc} {sa:Option Addr} {n cap:Nat} (hs:Sl H sa n cap (dcc ds)) (hl:ds.length=n) (hn:n≤1000000) (hlo:lo≤H.next) (h35:kn.b 35=none) {days limit:Int}:∃ H',FnX Try.prog kn lo 12 [.slice sa n cap,iv days,iv limit] H (.tuple #[iv (paT ds days limit).1,iv (paT ds days limit).2.1,iv (paT ds days limit).2.2]) H'∧Zk H H' []:=by
 have key:=Zp (kn:=kn) (lo:=lo) (H:=H) (args:=[.slice sa n cap,iv days,iv limit]) (Q:=fun w H'=>w=(.tuple #[iv (paT ds days limit).1,iv (paT ds days limit).2.1,iv (paT ds days limit).2.2])∧Zk H H' []) Try.func12 B12 N12 Z12 L12 (by simp) ?_
 ·obtain ⟨w,H',h,rfl,q⟩:=key;exact ⟨H',h,q⟩
 have hk:=Zk.refl H []
 have fs:=hs.old
 refine Zc<|Za rfl<|Za rfl<|Za rfl<|Zb<|Zc<|Za rfl<|ZD rfl (ZcT hs hl hn (by omega)) ?_
 intro tH1 H1 hH1 kH1
 have mH1:=kH1.1
 have hk:=hk.trans kH1
 have hs:=kH1.sl0 hs
 cases tH1
 ·have hvd:vD ds=false:=hH1
  refine Zd (v:=.bool true) rfl rfl<|Zb<|ZK<|Zc<|Za rfl<|Za rfl<|Za rfl<|Zb ?_
  exact And.intro trivial (Exists.intro _ (And.intro rfl ⟨Jf (Zey hvd),hk⟩))
 ·have hvd:vD ds=true:=hH1
  obtain ⟨hl64,hany⟩:=Zea hvd
  have hbd:=QU hany
  refine Zd (v:=.bool false) rfl rfl<|Zb<|ZQ ?_
  first | refine Zj ?_ | skip
  refine Zc<|Za rfl<|ZD rfl (zb) ?_
  intro tH2 H2 hH2 kH2
  have mH2:=kH2.1
  have hk:=hk.trans kH2
  have hs:=kH2.sl0 hs
  cases tH2
  ·have thH2:inB days 1 366=false:=hH2
   have uhH2:=Wn thH2
   refine Zd (v:=.bool true) rfl rfl<|Za rfl<|Zh rfl<|Zh rfl<|Zh rfl<|Zd (v:=.bool true) rfl rfl<|Zb<|ZK<|Zc<|Za rfl<|Za rfl<|Za rfl<|Zb ?_
   exact And.intro trivial (Exists.intro _ (And.intro rfl ⟨Jf (Zc6 hvd (by first | exact .inl (by assumption) | exact .inr (by assumption))),hk⟩))
  ·have thH2:inB days 1 366=true:=hH2
   have uhH2:=Y5 thH2
   refine Zd (v:=.bool false) rfl rfl<|Za rfl ?_
   refine Zl rfl (Za rfl ?_)
   refine Zl rfl (ZD rfl (XH) ?_)
   intro tH3 H3 hH3 kH3
   have mH3:=kH3.1
   have hk:=hk.trans kH3
   have hs:=kH3.sl0 hs
   cases tH3
   ·have thH3:inB limit 0 72057594037927936=false:=hH3
    have uhH3:=Wn thH3
    refine Zl rfl (Zd (v:=.bool true) rfl rfl ?_)
    refine Zd (v:=.bool true) rfl rfl<|Zb<|ZK<|Zc<|Za rfl<|Za rfl<|Za rfl<|Zb ?_
    exact And.intro trivial (Exists.intro _ (And.intro rfl ⟨Jf (Zc6 hvd (by first | exact .inl (by assumption) | exact .inr (by assumption))),hk⟩))
   ·have thH3:inB limit 0 72057594037927936=true:=hH3
    have uhH3:=Y5 thH3
    refine Zl rfl (Zd (v:=.bool false) rfl rfl ?_)
    refine Zd (v:=.bool false) rfl rfl<|Zb<|ZQ ?_
    first | refine Zj ?_ | skip
    refine Zc ?_
    obtain ⟨H4,fH4,kH4⟩:=QK (kn:=kn) (lo:=lo) (H:=H3)
    refine Zi (vs:=[]) rfl (ZF h35 fH4) ?_
    have mH4:=kH4.1
    have hk:=hk.trans kH4
    have hs:=kH4.sl0 hs
    refine Za rfl<|Zd (v:=.func (.func 57) #[] #[]) rfl (by kernel_rfl)<|Zd (v:=.func (.func 58) #[] #[]) rfl (by kernel_rfl)<|Za rfl<|Za rfl<|Zb<|Zc<|Za rfl<|Za rfl ?_
    obtain ⟨aH5,cH5,qsH5,H5,fH5,kH5,hsH5,hpH5,hoH5,hbH5⟩:=WE (kn:=kn) (lo:=lo) (H:=H4) hs hl (by omega) hbd (by omega) ZaB
    refine Zi (vs:=[.slice sa n cap,.func (.func 58) #[] #[]]) rfl (Ze fH5) ?_
    have mH5:=kH5.1
    have hk:=hk.trans kH5
    have hs:=kH5.sl0 hs
    have fsH5:=hsH5.old;have hnH5:qsH5.length=n:=by rw [hpH5.length_eq,Wf,hl]
    have hvH5:Vl qsH5:=(jh qx hbd (g:=gHi)).sub fun p hp=>hpH5.subset hp
    have hyH5:Dy qsH5:=(JH hbd (g:=gHi)).sub fun p hp=>hpH5.subset hp
    refine Za rfl<|Za rfl ?_
    obtain ⟨rH6,H6,fH6,kH6,hFH6⟩:=V4 (kn:=kn) (lo:=lo) (H:=H5) hsH5 hnH5 (by omega) hvH5 hyH5 (days:=days) (by omega) (by omega) (limit:=limit)
    refine Zi (vs:=[.slice aH5 n cH5,iv days,iv limit]) rfl (Ze fH6) ?_
    have mH6:=kH6.1
    have hk:=hk.trans kH6
    have hs:=kH6.sl0 hs
    have hsH5:=kH6.sl0 hsH5
    obtain rfl:rH6=fab (prt gHi ds) days limit:=Zbx hpH5 hoH5 (by omega) (fun p hp=>(hvH5 p hp).1) (fun p hp=>(JH hbd p hp).1) (by omega) hFH6
    refine Za rfl<|Zb<|Zc<|Za rfl<|Jy (a:=(fab (prt gHi ds) days limit)) (b:=-1) rfl rfl<|Zb ?_
    refine And.intro (fun q1=>?_) (fun q1=>?_)
    ·have q1:(fab (prt gHi ds) days limit)=(-1):=by simpa using q1
     refine Zc<|Za rfl<|Za rfl<|Za rfl<|Zb ?_
     exact And.intro trivial (Exists.intro _ (And.intro rfl ⟨Jf (ZeX hvd (by assumption) (by assumption) (by omega)),hk⟩))
    ·have q1:¬ ((fab (prt gHi ds) days limit)=(-1)):=by simpa using q1
     first | refine Zj ?_ | skip
     refine Zc<|Za rfl<|Za rfl ?_
     obtain ⟨aH7,cH7,qsH7,H7,fH7,kH7,hsH7,hpH7,hoH7,hbH7⟩:=WE (kn:=kn) (lo:=lo) (H:=H6) hs hl (by omega) hbd (by omega) Zck
     refine Zi (vs:=[.slice sa n cap,.func (.func 57) #[] #[]]) rfl (Ze fH7) ?_
     have mH7:=kH7.1
     have hk:=hk.trans kH7
     have hs:=kH7.sl0 hs
     have hsH5:=kH7.sl0 hsH5
     have fsH7:=hsH7.old;have hnH7:qsH7.length=n:=by rw [hpH7.length_eq,Wf,hl]
     have hvH7:Vl qsH7:=(jh Zdl hbd (g:=gLo)).sub fun p hp=>hpH7.subset hp
     have hyH7:Dy qsH7:=(JH hbd (g:=gLo)).sub fun p hp=>hpH7.subset hp
     refine Za rfl<|Za rfl ?_
     obtain ⟨rH8,H8,fH8,kH8,hFH8⟩:=V4 (kn:=kn) (lo:=lo) (H:=H7) hsH7 hnH7 (by omega) hvH7 hyH7 (days:=days) (by omega) (by omega) (limit:=limit)
     refine Zi (vs:=[.slice aH7 n cH7,iv days,iv limit]) rfl (Ze fH8) ?_
     have mH8:=kH8.1
     have hk:=hk.trans kH8
     have hs:=kH8.sl0 hs
     have hsH5:=kH8.sl0 hsH5
     have hsH7:=kH8.sl0 hsH7
     obtain rfl:rH8=fab (prt gLo ds) days limit:=Zbx hpH7 hoH7 (by omega) (fun p hp=>(hvH7 p hp).1) (fun p hp=>(JH hbd p hp).1) (by omega) hFH8
     refine Za rfl<|Za rfl<|Za rfl<|Za rfl<|Zb ?_
     exact And.intro trivial (Exists.intro _ (And.intro rfl ⟨Jf (Zfn hvd (by assumption) (by assumption) (by omega)),hk⟩))
end
end
end Go.Ax

/-
 Pool: waters mixed,what a river takes,phosphorus (written by program).
-/
namespace Go.Ax
open Go Go.RowKit Go.Proofs

noncomputable section
theorem JK {P:Program} {S:Rg} {H:Hp} {a x n b:Nat} {t:TypeId} {cs:List Value} {v:Value} (ha:lk S a=some (.pointer (some ⟨x,0,none⟩))) (h1:Xz P t=some true) (hi:∃ i,P.info? t=some i∧i.size=n) (hl:cs.length=n) (h:Cl H x cs) (hb:lk S b=some v):Wk P S H [.cell a t,.tmp b]=some [.agg cs.toArray,v]:=by
 simp only [Wk,ha,hb,WN h1 hi h.rd hl]
theorem Zdb {P:Program} {S:Rg} {H:Hp} {a a2 x x2 n:Nat} {t:TypeId} {cs cs2:List Value} (ha:lk S a=some (.pointer (some ⟨x,0,none⟩))) (ha2:lk S a2=some (.pointer (some ⟨x2,0,none⟩))) (h1:Xz P t=some true) (hi:∃ i,P.info? t=some i∧i.size=n) (hl:cs.length=n) (hl2:cs2.length=n) (h:Cl H x cs) (h2:Cl H x2 cs2):Wk P S H [.cell a t,.cell a2 t]=some [.agg cs.toArray,.agg cs2.toArray]:=by
 simp only [Wk,ha,ha2,WN h1 hi h.rd hl,WN h1 hi h2.rd hl2]
theorem KW {P:Program} {S:Rg} {H:Hp} {a a2 x x2 n b:Nat} {t:TypeId} {cs cs2:List Value} {v:Value} (ha:lk S a=some (.pointer (some ⟨x,0,none⟩))) (ha2:lk S a2=some (.pointer (some ⟨x2,0,none⟩))) (h1:Xz P t=some true) (hi:∃ i,P.info? t=some i∧i.size=n) (hl:cs.length=n) (hl2:cs2.length=n) (h:Cl H x cs) (h2:Cl H x2 cs2) (hb:lk S b=some v):Wk P S H [.cell a t,.cell a2 t,.tmp b]=some [.agg cs.toArray,.agg cs2.toArray,v]:=by
 simp only [Wk,ha,ha2,hb,WN h1 hi h.rd hl,WN h1 hi h2.rd hl2]
def cnx (a:Fw):Nat→Int | 0=>a.wl | 1=>a.wl | _=>a.wh
def cny (b:Fw):Nat→Int | 0=>b.wl | 1=>b.wh | 2=>b.wl | _=>b.wh
def clA (a b:Fw) (k:Nat):Int:=(cnx a k * a.tl+cny b k * b.tl) / (cnx a k+cny b k)
def chA (a b:Fw) (k:Nat):Int:=(cnx a k * a.th+cny b k * b.th+(cnx a k+cny b k) - 1) / (cnx a k+cny b k)
def mLo (a b:Fw):Nat→Int | 0=>40000 | k+1=>min (mLo a b k) (clA a b k)
def mHi (a b:Fw):Nat→Int | 0=>0 | k+1=>max (mHi a b k) (chA a b k)
theorem Zbr {n s m:Int} (h0:0≤n) (hs:0 < s) (h:n < (m+1) * s):0≤n / s∧n / s≤m:=by
 refine ⟨Int.ediv_nonneg h0 (by omega),?_⟩
 have:=Int.ediv_lt_of_lt_mul hs h
 omega
theorem ZdT {a:Fw} (h:vF a=true) (k:Nat):0≤a.wl∧a.wl≤cnx a k∧cnx a k≤a.wh∧a.wh≤1073741824:=by
 obtain ⟨⟨h1,h2,h3⟩,_⟩:=ZbJ h
 unfold cnx
 split<;>omega
theorem ZdS {a:Fw} (h:vF a=true) (k:Nat):0≤a.wl∧a.wl≤cny a k∧cny a k≤a.wh∧a.wh≤1073741824:=by
 obtain ⟨⟨h1,h2,h3⟩,_⟩:=ZbJ h
 unfold cny
 split<;>omega
theorem Za5 {a b:Fw} (ha:vF a=true) (hb:vF b=true) (hz:¬ (a.wl=0∧b.wl=0)) (k:Nat) :
  0≤cnx a k∧cnx a k≤1073741824∧0≤cny b k∧cny b k≤1073741824∧0 < cnx a k+cny b k∧
  0≤cnx a k * a.tl∧cnx a k * a.tl≤42949672960000∧0≤cny b k * b.tl∧cny b k * b.tl≤42949672960000∧
  0≤cnx a k * a.th∧cnx a k * a.th≤42949672960000∧0≤cny b k * b.th∧cny b k * b.th≤42949672960000∧
  0≤clA a b k∧clA a b k≤40000∧0≤chA a b k∧chA a b k≤40000:=by
 have h1:=ZdT ha k
 have h2:=ZdS hb k
 obtain ⟨_,h3,h4,h5⟩:=ZbJ ha
 obtain ⟨_,h6,h7,h8⟩:=ZbJ hb
 have p1:=XV (x:=cnx a k) (y:=a.tl) (X:=1073741824) (Y:=40000) (by omega) (by omega) (by omega) (by omega)
 have p2:=XV (x:=cny b k) (y:=b.tl) (X:=1073741824) (Y:=40000) (by omega) (by omega) (by omega) (by omega)
 have p3:=XV (x:=cnx a k) (y:=a.th) (X:=1073741824) (Y:=40000) (by omega) (by omega) (by omega) (by omega)
 have p4:=XV (x:=cny b k) (y:=b.th) (X:=1073741824) (Y:=40000) (by omega) (by omega) (by omega) (by omega)
 have q1:=(XV (x:=cnx a k) (y:=a.tl) (X:=cnx a k) (Y:=40000) (by omega) (by omega) (by omega) (by omega)).2
 have q2:=(XV (x:=cny b k) (y:=b.tl) (X:=cny b k) (Y:=40000) (by omega) (by omega) (by omega) (by omega)).2
 have q3:=(XV (x:=cnx a k) (y:=a.th) (X:=cnx a k) (Y:=40000) (by omega) (by omega) (by omega) (by omega)).2
 have q4:=(XV (x:=cny b k) (y:=b.th) (X:=cny b k) (Y:=40000) (by omega) (by omega) (by omega) (by omega)).2
 have d1:=Zbr (n:=cnx a k * a.tl+cny b k * b.tl) (s:=cnx a k+cny b k) (m:=40000) (by omega) (by omega) (by omega)
 have d2:=Zbr (n:=cnx a k * a.th+cny b k * b.th+(cnx a k+cny b k) - 1) (s:=cnx a k+cny b k) (m:=40000) (by omega) (by omega) (by omega)
 unfold clA chA
 omega
def mxT (a b:Fw):(Int × Int) × Int:=if vF a=false∨vF b=false then ((0,0),1) else if a.wl=0∧b.wl=0 then ((0,0),10) else ((mLo a b 4,mHi a b 4),0)
def moT (a:Fw) (l h limit:Int):Int × Int:=if vF a=false∨spB l h 40000=false then (0,1) else if inB limit 0 40000=false then (0,2) else if limit < a.th then (0,12) else if h≤limit then (1073741824,0) else (min 1073741824 (a.wl * (limit - a.th) / (h - limit)),0)
def baT (x:Ph):(Int × Int) × (Int × Int) × Int:=if vP x=false then ((0,0),(0,0),1) else if x.bh+x.ih - x.ol - x.rl * x.cl < 0 then ((0,0),(0,0),4) else ((max 0 (x.bl+x.il - x.oh - x.rh * x.ch),x.bh+x.ih - x.ol - x.rl * x.cl),(x.rl * x.cl,x.rh * x.ch),0)
theorem ZcD {a b:Fw} (h:vF a=false∨vF b=false):mxT a b=((0,0),1):=by unfold mxT;rw [if_pos h]
theorem ZdJ {a b:Fw} (h:vF a=true) (k:vF b=true) (q:a.wl=0∧b.wl=0):mxT a b=((0,0),10):=by unfold mxT;rw [if_neg (by rw [h,k];decide),if_pos q]
theorem ZcV {a b:Fw} (h:vF a=true) (k:vF b=true) (q:¬ (a.wl=0∧b.wl=0)):mxT a b=((mLo a b 4,mHi a b 4),0):=by unfold mxT;rw [if_neg (by rw [h,k];decide),if_neg q]
theorem JD {a b:Fw} {l h e:Int} (q:mxT a b=((l,h),e)):(Value.tuple #[.agg #[iv l,iv h],iv e])=.tuple #[.agg #[iv (mxT a b).1.1,iv (mxT a b).1.2],iv (mxT a b).2]:=by rw [q]
theorem JS {a:Fw} {l h limit n e:Int} (q:moT a l h limit=(n,e)):(Value.tuple #[iv n,iv e])=.tuple #[iv (moT a l h limit).1,iv (moT a l h limit).2]:=by rw [q]
theorem ZcM {a:Fw} {l h limit:Int} (q:vF a=false∨spB l h 40000=false):moT a l h limit=(0,1):=by unfold moT;rw [if_pos q]
theorem ZeM {a:Fw} {l h limit:Int} (q:vF a=true) (q2:spB l h 40000=true) (r:inB limit 0 40000=false):moT a l h limit=(0,2):=by unfold moT;rw [if_neg (by rw [q,q2];decide),if_pos r]
theorem Zdn {a:Fw} {l h limit:Int} (q:vF a=true) (q2:spB l h 40000=true) (r:inB limit 0 40000=true) (s:limit < a.th):moT a l h limit=(0,12):=by unfold moT;rw [if_neg (by rw [q,q2];decide),if_neg (by rw [r];decide),if_pos s]
def moV (a:Fw) (h limit:Int):Int:=if h≤limit then 1073741824 else min 1073741824 (a.wl * (limit - a.th) / (h - limit))
theorem Zfc {a:Fw} {l h limit:Int} (q:vF a=true) (q2:spB l h 40000=true) (r:inB limit 0 40000=true) (s:¬ limit < a.th):moT a l h limit=(moV a h limit,0):=by unfold moT moV;rw [if_neg (by rw [q,q2];decide),if_neg (by rw [r];decide),if_neg s];split<;>rfl
theorem Ze6 {x:Ph} (h:vP x=false):baT x=((0,0),(0,0),1):=by unfold baT;rw [if_pos h]
theorem Zfo {x:Ph} (h:vP x=true) (q:x.bh+x.ih - x.ol - x.rl * x.cl < 0):baT x=((0,0),(0,0),4):=by unfold baT;rw [if_neg (by rw [h];decide),if_pos q]
theorem Zfh {x:Ph} (h:vP x=true) (q:¬ x.bh+x.ih - x.ol - x.rl * x.cl < 0):baT x=((max 0 (x.bl+x.il - x.oh - x.rh * x.ch),x.bh+x.ih - x.ol - x.rl * x.cl),(x.rl * x.cl,x.rh * x.ch),0):=by unfold baT;rw [if_neg (by rw [h];decide),if_neg q]
theorem yP {x:Ph} {a b c d e:Int} (q:baT x=((a,b),(c,d),e)):(Value.tuple #[.agg #[iv a,iv b],.agg #[iv c,iv d],iv e])=.tuple #[.agg #[iv (baT x).1.1,iv (baT x).1.2],.agg #[iv (baT x).2.1.1,iv (baT x).2.1.2],iv (baT x).2.2]:=by rw [q]
theorem yv {x:Ph} (h:vP x=true):0≤x.rl * x.cl∧x.rl * x.cl≤x.rh * x.ch∧x.rh * x.ch≤1073741824000:=by
 obtain ⟨_,_,_,⟨h1,h2,h3⟩,h4,h5,h6⟩:=ZbR h
 have a:=XV (x:=x.rl) (y:=x.cl) (X:=x.rh) (Y:=x.ch) (by omega) (by omega) (by omega) (by omega)
 have b:=XV (x:=x.rh) (y:=x.ch) (X:=1073741824) (Y:=1000) (by omega) (by omega) (by omega) (by omega)
 omega
theorem Zbt {n:Nat} {S:Rg} {d:Option Tmp} {x y:Operand} {p:String} {ty:TypeId} {a b:Fw} {i:Nat} (hx:evS S x=some (.agg #[iv a.wl,iv b.wl,iv a.wl,iv b.wh,iv a.wh,iv b.wl,iv a.wh,iv b.wh])) (hy:evS S y=some (iv (i:Int))) (hi:i < 4):Zs Try.prog (frS n S) ⟨d,.index 105 x y,ty,p,#[],none⟩=some (.agg #[iv (cnx a i),iv (cny b i)]):=by
 unfold Zs
 simp only [Z8,hx,hy]
 rcases i with _ | _ | _ | _ | i
 ·kernel_rfl
 ·kernel_rfl
 ·kernel_rfl
 ·kernel_rfl
 ·omega
def phl (x:Ph):Nat→Int | 0=>x.bl | 1=>x.il | _=>x.ol
def phh (x:Ph):Nat→Int | 0=>x.bh | 1=>x.ih | _=>x.oh
theorem ZaD {n:Nat} {S:Rg} {d:Option Tmp} {a y:Operand} {p:String} {ty:TypeId} {x:Ph} {i:Nat} (hx:evS S a=some (.agg #[iv x.bl,iv x.bh,iv x.il,iv x.ih,iv x.ol,iv x.oh])) (hy:evS S y=some (iv (i:Int))) (hi:i < 3):Zs Try.prog (frS n S) ⟨d,.index 107 a y,ty,p,#[],none⟩=some (.agg #[iv (phl x i),iv (phh x i)]):=by
 unfold Zs
 simp only [Z8,hx,hy]
 rcases i with _ | _ | _ | i
 ·kernel_rfl
 ·kernel_rfl
 ·kernel_rfl
 ·omega
section
variable {kn:Kn} {lo:Nat} {H:Hp}
set_option maxRecDepth 100000 in
set_option maxHeartbeats 1000000 in
theorem qu {al ah bl bh:Int} (hlo:lo≤H.next):∃ H',FnX Try.prog kn lo 65 [.agg #[iv al,iv ah],.agg #[iv bl,iv bh]] H (.agg #[iv al,iv bl,iv al,iv bh,iv ah,iv bl,iv ah,iv bh]) H'∧Zk H H' []:=by
 have key:=Zp (kn:=kn) (lo:=lo) (H:=H) (args:=[.agg #[iv al,iv ah],.agg #[iv bl,iv bh]]) (Q:=fun w H'=>w=(.agg #[iv al,iv bl,iv al,iv bh,iv ah,iv bl,iv ah,iv bh])∧Zk H H' []) Try.func65 B65 N65 Z65 L65 (by simp) ?_
 ·obtain ⟨w,H',h,rfl,q⟩:=key;exact ⟨H',h,q⟩
 have hk:=Zk.refl H []
 refine Zc<|Yw (v:=.agg #[iv al,iv ah]) rfl ?_
 intro H1 kH1 nH1 c1
 have c1:Cl H1 H.next [iv al,iv ah]:=c1
 have mH1:=kH1.1
 have hk:=hk.trans kH1
 refine Yw (v:=.agg #[iv bl,iv bh]) rfl ?_
 intro H2 kH2 nH2 c2
 have c2:Cl H2 H1.next [iv bl,iv bh]:=c2
 have mH2:=kH2.1
 have hk:=hk.trans kH2
 have c1:=kH2.cl c1 (by simp)
 refine YF ?_
 intro H3 kH3 nH3 c3
 have c3:Cl H3 H2.next [iv 0,iv 0,iv 0,iv 0,iv 0,iv 0,iv 0,iv 0]:=c3
 have mH3:=kH3.1
 have hk:=hk.trans kH3
 have c1:=kH3.cl c1 (by simp)
 have c2:=kH3.cl c2 (by simp)
 refine Zb<|Zc<|Zu (b:=H.next) (o:=0) rfl<|ZP (b:=H.next) (o:=0) (v:=iv al) rfl c1.rd rfl<|Zu (b:=H1.next) (o:=0) rfl<|ZP (b:=H1.next) (o:=0) (v:=iv bl) rfl c2.rd rfl<|Zd (v:=.agg #[iv al,iv bl]) rfl (by kernel_rfl)<|Zu (b:=H.next) (o:=0) rfl<|ZP (b:=H.next) (o:=0) (v:=iv al) rfl c1.rd rfl<|Zu (b:=H1.next) (o:=0) rfl<|ZP (b:=H1.next) (o:=1) (v:=iv bh) rfl c2.rd rfl<|Zd (v:=.agg #[iv al,iv bh]) rfl (by kernel_rfl)<|Zu (b:=H.next) (o:=0) rfl<|ZP (b:=H.next) (o:=1) (v:=iv ah) rfl c1.rd rfl<|Zu (b:=H1.next) (o:=0) rfl<|ZP (b:=H1.next) (o:=0) (v:=iv bl) rfl c2.rd rfl<|Zd (v:=.agg #[iv ah,iv bl]) rfl (by kernel_rfl)<|Zu (b:=H.next) (o:=0) rfl<|ZP (b:=H.next) (o:=1) (v:=iv ah) rfl c1.rd rfl<|Zu (b:=H1.next) (o:=0) rfl<|ZP (b:=H1.next) (o:=1) (v:=iv bh) rfl c2.rd rfl<|Zd (v:=.agg #[iv ah,iv bh]) rfl (by kernel_rfl)<|Zd (v:=.agg #[iv al,iv bl,iv al,iv bh,iv ah,iv bl,iv ah,iv bh]) rfl (by kernel_rfl)<|Yk (b:=H2.next) (o:=0) rfl rfl c3 (by omega) rfl rfl (by simp) ?_
 intro H4 kH4 nH4 sH4
 have mH4:=kH4.1
 have hk:=hk.new kH4 (fun b hb=>by simp at hb ⊢;omega)
 have c1:=kH4.cl c1 (by first | (simp;done) | (simp;omega))
 have c2:=kH4.cl c2 (by first | (simp;done) | (simp;omega))
 have c3:Cl H4 H2.next [iv al,iv bl,iv al,iv bh,iv ah,iv bl,iv ah,iv bh]:=sH4
 refine Zb ?_
 exact And.intro trivial (Exists.intro _ (And.intro (JT rfl Zfw ZeK rfl c3) ⟨rfl,hk⟩))
set_option maxRecDepth 100000 in
set_option maxHeartbeats 2000000 in
theorem zT (h35:kn.b 35=none) {a b:Fw} (ha:vF a=true) (hb:vF b=true) (hz:¬ (a.wl=0∧b.wl=0)) (hlo:lo≤H.next):∃ H',FnX Try.prog kn lo 43 [.agg (Fw.f a).toArray,.agg (Fw.f b).toArray] H (.agg #[iv (mLo a b 4),iv (mHi a b 4)]) H'∧Zk H H' []:=by
 have key:=Zp (kn:=kn) (lo:=lo) (H:=H) (args:=[.agg (Fw.f a).toArray,.agg (Fw.f b).toArray]) (Q:=fun w H'=>w=(.agg #[iv (mLo a b 4),iv (mHi a b 4)])∧Zk H H' []) Try.func43 B43 N43 Z43 L43 (by simp) ?_
 ·obtain ⟨w,H',h,rfl,q⟩:=key;exact ⟨H',h,q⟩
 have hk:=Zk.refl H []
 refine Zc<|Yw (v:=.agg (Fw.f a).toArray) rfl ?_
 intro H1 kH1 nH1 c1
 have c1:Cl H1 H.next [iv a.wl,iv a.wh,iv a.tl,iv a.th]:=c1
 have mH1:=kH1.1
 have hk:=hk.trans kH1
 refine Yw (v:=.agg (Fw.f b).toArray) rfl ?_
 intro H2 kH2 nH2 c2
 have c2:Cl H2 H1.next [iv b.wl,iv b.wh,iv b.tl,iv b.th]:=c2
 have mH2:=kH2.1
 have hk:=hk.trans kH2
 have c1:=kH2.cl c1 (by simp)
 refine YF ?_
 intro H3 kH3 nH3 c3
 have c3:Cl H3 H2.next [iv 0,iv 0]:=c3
 have mH3:=kH3.1
 have hk:=hk.trans kH3
 have c1:=kH3.cl c1 (by simp)
 have c2:=kH3.cl c2 (by simp)
 refine Zb<|Zc ?_
 obtain ⟨H4,fH4,kH4⟩:=QK (kn:=kn) (lo:=lo) (H:=H3)
 refine Zi (vs:=[]) rfl (ZF h35 fH4) ?_
 have mH4:=kH4.1
 have hk:=hk.trans kH4
 have c1:=kH4.cl c1 (by simp)
 have c2:=kH4.cl c2 (by simp)
 have c3:=kH4.cl c3 (by simp)
 refine Za rfl<|Zd (v:=.func (.func 57) #[] #[]) rfl (by kernel_rfl)<|Zd (v:=.func (.func 58) #[] #[]) rfl (by kernel_rfl)<|Za rfl<|Za rfl<|Zb<|Zc<|Zd (v:=.agg #[iv 40000,iv 0]) rfl (by kernel_rfl)<|YF ?_
 intro H5 kH5 nH5 c5
 have c5:Cl H5 H4.next [iv 0,iv 0]:=c5
 have mH5:=kH5.1
 have hk:=hk.trans kH5
 have c1:=kH5.cl c1 (by simp)
 have c2:=kH5.cl c2 (by simp)
 have c3:=kH5.cl c3 (by simp)
 refine Yk (b:=H4.next) (o:=0) rfl rfl c5 (by omega) rfl rfl (by simp) ?_
 intro H6 kH6 nH6 sH6
 have mH6:=kH6.1
 have hk:=hk.new kH6 (fun b hb=>by simp at hb ⊢;omega)
 have c1:=kH6.cl c1 (by first | (simp;done) | (simp;omega))
 have c2:=kH6.cl c2 (by first | (simp;done) | (simp;omega))
 have c3:=kH6.cl c3 (by first | (simp;done) | (simp;omega))
 have c5:Cl H6 H4.next [iv 40000,iv 0]:=sH6
 refine Zb<|Zc<|Zu (b:=H.next) (o:=0) rfl<|Z4 (b:=H.next) (o:=0) rfl c1.rd (show row 2 _ _=some [iv a.wl,iv a.wh] from rfl)<|Zu (b:=H1.next) (o:=0) rfl<|Z4 (b:=H1.next) (o:=0) rfl c2.rd (show row 2 _ _=some [iv b.wl,iv b.wh] from rfl) ?_
 obtain ⟨H7,fH7,kH7⟩:=qu (kn:=kn) (lo:=lo) (H:=H6) (al:=a.wl) (ah:=a.wh) (bl:=b.wl) (bh:=b.wh) (by omega)
 refine Zi (vs:=[.agg #[iv a.wl,iv a.wh],.agg #[iv b.wl,iv b.wh]]) rfl (Ze fH7) ?_
 have mH7:=kH7.1
 have hk:=hk.trans kH7
 have c1:=kH7.cl c1 (by simp)
 have c2:=kH7.cl c2 (by simp)
 have c3:=kH7.cl c3 (by simp)
 have c5:=kH7.cl c5 (by simp)
 refine Za rfl<|Zb ?_
 refine Zt (fn:=Try.f43) Ze3 N43 Zew (fun i:Nat=>[(2,pt H.next),(3,pt H1.next),(4,pt H2.next),(5,.func (.func 57) #[] #[]),(6,.func (.func 58) #[] #[]),(7,pt H4.next),(22,.agg #[iv a.wl,iv b.wl,iv a.wl,iv b.wh,iv a.wh,iv b.wl,iv a.wh,iv b.wh]),(23,iv (i:Int))])
  (fun k i H'=>i+k=4∧Zk H H' []∧H4.next < H'.next∧Cl H' H.next [iv a.wl,iv a.wh,iv a.tl,iv a.th]∧Cl H' H1.next [iv b.wl,iv b.wh,iv b.tl,iv b.th]∧Cl H' H2.next [iv 0,iv 0]∧Cl H' H4.next [iv (mLo a b i),iv (mHi a b i)]) 4 0 ⟨by omega,hk,by omega,c1,c2,c3,c5⟩ ⟨rfl,rfl,rfl,rfl,rfl,rfl,rfl,rfl,trivial⟩ ?_
 rintro k i L1 ⟨hik,hk,hnx,ca,cb,cr,cw⟩
 have mk:=hk.1;have hm:=Za5 ha hb hz i
 refine Zc<|Zx (a:=(i:Int)) (b:=4) rfl rfl<|Zb ?_
 refine And.intro (fun q1=>?_) (fun q1=>?_)
 ·have q1:(i:Int) < 4:=of_decide_eq_true q1
  have hi:i < 4:=by omega
  first | refine Zj ?_ | skip
  refine Zc<|Zd (v:=.agg #[iv (cnx a i),iv (cny b i)]) rfl (Zbt rfl rfl hi)<|YF ?_
  intro H8 kH8 nH8 c8
  have c8:Cl H8 L1.next [iv 0,iv 0]:=c8
  have mH8:=kH8.1
  have hk:=hk.trans kH8
  have ca:=kH8.cl ca (by simp)
  have cb:=kH8.cl cb (by simp)
  have cr:=kH8.cl cr (by simp)
  have cw:=kH8.cl cw (by simp)
  refine Yk (b:=L1.next) (o:=0) rfl rfl c8 (by omega) rfl rfl (by simp) ?_
  intro H9 kH9 nH9 sH9
  have mH9:=kH9.1
  have hk:=hk.new kH9 (fun b hb=>by simp at hb ⊢;omega)
  have ca:=kH9.cl ca (by first | (simp;done) | (simp;omega))
  have cb:=kH9.cl cb (by first | (simp;done) | (simp;omega))
  have cr:=kH9.cl cr (by first | (simp;done) | (simp;omega))
  have cw:=kH9.cl cw (by first | (simp;done) | (simp;omega))
  have c8:Cl H9 L1.next [iv (cnx a i),iv (cny b i)]:=sH9
  refine Zb<|Zc<|Zu (b:=L1.next) (o:=0) rfl<|ZP (b:=L1.next) (o:=0) (v:=iv (cnx a i)) rfl c8.rd rfl<|Zu (b:=L1.next) (o:=0) rfl<|ZP (b:=L1.next) (o:=1) (v:=iv (cny b i)) rfl c8.rd rfl<|Zo (a:=(cnx a i)) (b:=(cny b i)) rfl rfl ⟨by omega,by omega⟩<|Za rfl<|Zb<|Yq<|ZX (b:=L1.next) (o:=0) rfl<|Yf (b:=L1.next) (o:=0) (v:=iv (cnx a i)) rfl c8.rd rfl<|Zg rfl<|ZX (b:=H.next) (o:=0) rfl<|Z1 (b:=H.next) (o:=2) rfl ca.rd (show row 2 _ _=some [iv a.tl,iv a.th] from rfl) ?_
  obtain ⟨H10,fH10,kH10⟩:=Q1 (kn:=kn) (lo:=H9.next) (H:=H9) (a:=a.tl) (b:=a.th) (Nat.le_refl _)
  refine YV (vs:=[.agg #[iv (a.tl),iv (a.th)]]) rfl rfl (Ze fH10) ?_
  have mH10:=kH10.1
  have hk:=hk.trans kH10
  have ca:=kH10.cl ca (by simp)
  have cb:=kH10.cl cb (by simp)
  have cr:=kH10.cl cr (by simp)
  have cw:=kH10.cl cw (by simp)
  have c8:=kH10.cl c8 (by simp)
  refine UY (a:=(cnx a i)) (b:=a.tl) rfl rfl ⟨by omega,by omega⟩<|ZX (b:=L1.next) (o:=0) rfl<|Yf (b:=L1.next) (o:=1) (v:=iv (cny b i)) rfl c8.rd rfl<|Zg rfl<|ZX (b:=H1.next) (o:=0) rfl<|Z1 (b:=H1.next) (o:=2) rfl cb.rd (show row 2 _ _=some [iv b.tl,iv b.th] from rfl) ?_
  obtain ⟨H11,fH11,kH11⟩:=Q1 (kn:=kn) (lo:=H10.next) (H:=H10) (a:=b.tl) (b:=b.th) (Nat.le_refl _)
  refine YV (vs:=[.agg #[iv (b.tl),iv (b.th)]]) rfl rfl (Ze fH11) ?_
  have mH11:=kH11.1
  have hk:=hk.trans kH11
  have ca:=kH11.cl ca (by simp)
  have cb:=kH11.cl cb (by simp)
  have cr:=kH11.cl cr (by simp)
  have cw:=kH11.cl cw (by simp)
  have c8:=kH11.cl c8 (by simp)
  refine UY (a:=(cny b i)) (b:=b.tl) rfl rfl ⟨by omega,by omega⟩<|WH (a:=(cnx a i) * a.tl) (b:=(cny b i) * b.tl) rfl rfl ⟨by omega,by omega⟩<|Zg rfl ?_
  refine ZL (by repeat' first | exact True.intro | exact (fun h=>h) | refine And.intro ?_ ?_ | (intro h;have h:(_:Nat)=_:=h;omega)) ?_
  refine Yq<|ZX (b:=L1.next) (o:=0) rfl<|Yf (b:=L1.next) (o:=0) (v:=iv (cnx a i)) rfl c8.rd rfl<|Zg rfl<|ZX (b:=H.next) (o:=0) rfl<|Z1 (b:=H.next) (o:=2) rfl ca.rd (show row 2 _ _=some [iv a.tl,iv a.th] from rfl) ?_
  obtain ⟨H12,fH12,kH12⟩:=Je (kn:=kn) (lo:=H11.next) (H:=H11) (a:=a.tl) (b:=a.th) (Nat.le_refl _)
  refine YV (vs:=[.agg #[iv (a.tl),iv (a.th)]]) rfl rfl (Ze fH12) ?_
  have mH12:=kH12.1
  have hk:=hk.trans kH12
  have ca:=kH12.cl ca (by simp)
  have cb:=kH12.cl cb (by simp)
  have cr:=kH12.cl cr (by simp)
  have cw:=kH12.cl cw (by simp)
  have c8:=kH12.cl c8 (by simp)
  refine UY (a:=(cnx a i)) (b:=a.th) rfl rfl ⟨by omega,by omega⟩<|ZX (b:=L1.next) (o:=0) rfl<|Yf (b:=L1.next) (o:=1) (v:=iv (cny b i)) rfl c8.rd rfl<|Zg rfl<|ZX (b:=H1.next) (o:=0) rfl<|Z1 (b:=H1.next) (o:=2) rfl cb.rd (show row 2 _ _=some [iv b.tl,iv b.th] from rfl) ?_
  obtain ⟨H13,fH13,kH13⟩:=Je (kn:=kn) (lo:=H12.next) (H:=H12) (a:=b.tl) (b:=b.th) (Nat.le_refl _)
  refine YV (vs:=[.agg #[iv (b.tl),iv (b.th)]]) rfl rfl (Ze fH13) ?_
  have mH13:=kH13.1
  have hk:=hk.trans kH13
  have ca:=kH13.cl ca (by simp)
  have cb:=kH13.cl cb (by simp)
  have cr:=kH13.cl cr (by simp)
  have cw:=kH13.cl cw (by simp)
  have c8:=kH13.cl c8 (by simp)
  refine UY (a:=(cny b i)) (b:=b.th) rfl rfl ⟨by omega,by omega⟩<|WH (a:=(cnx a i) * a.th) (b:=(cny b i) * b.th) rfl rfl ⟨by omega,by omega⟩<|Zg rfl ?_
  refine ZL (by repeat' first | exact True.intro | exact (fun h=>h) | refine And.intro ?_ ?_ | (intro h;have h:(_:Nat)=_:=h;omega)) ?_
  refine Yq<|ZX (b:=H4.next) (o:=0) rfl<|Yf (b:=H4.next) (o:=0) (v:=iv (mLo a b i)) rfl cw.rd rfl<|Zg rfl<|Zg rfl<|Zax (a:=((cnx a i) * a.tl)+((cny b i) * b.tl)) (b:=(cnx a i)+(cny b i)) rfl rfl (by omega) (by omega) ⟨by omega,by omega⟩<|Zc0 (a:=(mLo a b i)) (b:=(((cnx a i) * a.tl)+((cny b i) * b.tl)) / ((cnx a i)+(cny b i))) rfl rfl<|ZX (b:=H4.next) (o:=0) rfl<|ZaG (b:=H4.next) (o:=0) rfl rfl cw (by omega) rfl rfl (by simp) ?_
  intro H14 kH14 nH14 sH14
  have mH14:=kH14.1
  have hk:=hk.new kH14 (fun b hb=>by simp at hb ⊢;omega)
  have ca:=kH14.cl ca (by first | (simp;done) | (simp;omega))
  have cb:=kH14.cl cb (by first | (simp;done) | (simp;omega))
  have cr:=kH14.cl cr (by first | (simp;done) | (simp;omega))
  have c8:=kH14.cl c8 (by first | (simp;done) | (simp;omega))
  have cw:Cl H14 H4.next [iv (min (mLo a b i) ((((cnx a i) * a.tl)+((cny b i) * b.tl)) / ((cnx a i)+(cny b i)))),iv (mHi a b i)]:=sH14
  refine ZL (by repeat' first | exact True.intro | exact (fun h=>h) | refine And.intro ?_ ?_ | (intro h;have h:(_:Nat)=_:=h;omega)) ?_
  first | refine Y6 ?_ | refine VS ?_ | refine UR ?_ | (refine Z5 ?_;refine Y6 ?_)
  refine ZX (b:=H4.next) (o:=0) rfl<|Yf (b:=H4.next) (o:=1) (v:=iv (mHi a b i)) rfl cw.rd rfl<|Zg rfl<|Zg rfl<|WH (a:=((cnx a i) * a.th)+((cny b i) * b.th)) (b:=(cnx a i)+(cny b i)) rfl rfl ⟨by omega,by omega⟩<|XT (a:=(((cnx a i) * a.th)+((cny b i) * b.th))+((cnx a i)+(cny b i))) (b:=1) rfl rfl ⟨by omega,by omega⟩<|Zg rfl<|Zax (a:=((((cnx a i) * a.th)+((cny b i) * b.th))+((cnx a i)+(cny b i))) - 1) (b:=(cnx a i)+(cny b i)) rfl rfl (by omega) (by omega) ⟨by omega,by omega⟩<|Zc0 (a:=(mHi a b i)) (b:=(((((cnx a i) * a.th)+((cny b i) * b.th))+((cnx a i)+(cny b i))) - 1) / ((cnx a i)+(cny b i))) rfl rfl<|ZX (b:=H4.next) (o:=0) rfl<|ZaG (b:=H4.next) (o:=1) rfl rfl cw (by omega) rfl rfl (by simp) ?_
  intro H15 kH15 nH15 sH15
  have mH15:=kH15.1
  have hk:=hk.new kH15 (fun b hb=>by simp at hb ⊢;omega)
  have ca:=kH15.cl ca (by first | (simp;done) | (simp;omega))
  have cb:=kH15.cl cb (by first | (simp;done) | (simp;omega))
  have cr:=kH15.cl cr (by first | (simp;done) | (simp;omega))
  have c8:=kH15.cl c8 (by first | (simp;done) | (simp;omega))
  have cw:Cl H15 H4.next [iv (min (mLo a b i) ((((cnx a i) * a.tl)+((cny b i) * b.tl)) / ((cnx a i)+(cny b i)))),iv (max (mHi a b i) ((((((cnx a i) * a.th)+((cny b i) * b.th))+((cnx a i)+(cny b i))) - 1) / ((cnx a i)+(cny b i))))]:=sH15
  refine ZL (by repeat' first | exact True.intro | exact (fun h=>h) | refine And.intro ?_ ?_ | (intro h;have h:(_:Nat)=_:=h;omega)) ?_
  show Zn _ _ _ _ _ _ _ _
  refine Zo (a:=(i:Int)) (b:=1) rfl rfl ⟨by omega,by omega⟩<|Za rfl<|Zb ?_
  exact ⟨k - 1,i+1,by omega,⟨by omega,hk,by omega,ca,cb,cr,cw⟩,rfl,rfl,rfl,rfl,rfl,rfl,rfl,ivq (by omega),trivial⟩
 ·have q1:¬ ((i:Int) < 4):=of_decide_eq_false q1
  first | (refine Zy ?_;show wC _ _ _ _ _ _ _ _ _) | skip
  refine Zc<|Z4 (b:=H4.next) (o:=0) rfl cw.rd (show row 2 _ _=some [iv (mLo a b i),iv (mHi a b i)] from rfl)<|Yk (b:=H2.next) (o:=0) rfl rfl cr (by omega) rfl rfl (by simp) ?_
  intro H16 kH16 nH16 sH16
  have mH16:=kH16.1
  have hk:=hk.new kH16 (fun b hb=>by simp at hb ⊢;omega)
  have ca:=kH16.cl ca (by first | (simp;done) | (simp;omega))
  have cb:=kH16.cl cb (by first | (simp;done) | (simp;omega))
  have cw:=kH16.cl cw (by first | (simp;done) | (simp;omega))
  have cr:Cl H16 H2.next [iv (mLo a b i),iv (mHi a b i)]:=sH16
  refine Zb ?_
  obtain rfl:i=4:=by omega
  exact And.intro trivial (Exists.intro _ (And.intro (JT rfl a31 JM rfl cr) ⟨rfl,hk⟩))
set_option maxRecDepth 100000 in
set_option maxHeartbeats 1000000 in
theorem Zc8 (h35:kn.b 35=none) {a b:Fw} (hlo:lo≤H.next):∃ H',FnX Try.prog kn lo 16 [.agg (Fw.f a).toArray,.agg (Fw.f b).toArray] H (.tuple #[.agg #[iv (mxT a b).1.1,iv (mxT a b).1.2],iv (mxT a b).2]) H'∧Zk H H' []:=by
 have key:=Zp (kn:=kn) (lo:=lo) (H:=H) (args:=[.agg (Fw.f a).toArray,.agg (Fw.f b).toArray]) (Q:=fun w H'=>w=(.tuple #[.agg #[iv (mxT a b).1.1,iv (mxT a b).1.2],iv (mxT a b).2])∧Zk H H' []) Try.func16 B16 N16 Z16 L16 (by simp) ?_
 ·obtain ⟨w,H',h,rfl,q⟩:=key;exact ⟨H',h,q⟩
 have hk:=Zk.refl H []
 refine Zc<|Yw (v:=.agg (Fw.f a).toArray) rfl ?_
 intro H1 kH1 nH1 c1
 have c1:Cl H1 H.next [iv a.wl,iv a.wh,iv a.tl,iv a.th]:=c1
 have mH1:=kH1.1
 have hk:=hk.trans kH1
 refine Yw (v:=.agg (Fw.f b).toArray) rfl ?_
 intro H2 kH2 nH2 c2
 have c2:Cl H2 H1.next [iv b.wl,iv b.wh,iv b.tl,iv b.th]:=c2
 have mH2:=kH2.1
 have hk:=hk.trans kH2
 have c1:=kH2.cl c1 (by simp)
 refine YF ?_
 intro H3 kH3 nH3 c3
 have c3:Cl H3 H2.next [iv 0,iv 0]:=c3
 have mH3:=kH3.1
 have hk:=hk.trans kH3
 have c1:=kH3.cl c1 (by simp)
 have c2:=kH3.cl c2 (by simp)
 refine Za rfl<|Zb<|Zc<|Z4 (b:=H.next) (o:=0) rfl c1.rd (show row 4 _ _=some [iv a.wl,iv a.wh,iv a.tl,iv a.th] from rfl)<|ZD rfl (Zba (f:=a) (by omega)) ?_
 intro tH4 H4 hH4 kH4
 have mH4:=kH4.1
 have hk:=hk.trans kH4
 have c1:=kH4.cl c1 (by simp)
 have c2:=kH4.cl c2 (by simp)
 have c3:=kH4.cl c3 (by simp)
 cases tH4
 ·have hva:vF a=false:=hH4
  refine Zd (v:=.bool true) rfl rfl<|Za rfl<|Zh rfl<|Zh rfl<|Zh rfl<|Zd (v:=.bool true) rfl rfl<|Zb<|ZK<|Zc<|Zd (v:=.agg #[iv 0,iv 0]) rfl (by kernel_rfl)<|Yk (b:=H2.next) (o:=0) rfl rfl c3 (by omega) rfl rfl (by simp) ?_
  intro H5 kH5 nH5 sH5
  have mH5:=kH5.1
  have hk:=hk.new kH5 (fun b hb=>by simp at hb ⊢;omega)
  have c1:=kH5.cl c1 (by first | (simp;done) | (simp;omega))
  have c2:=kH5.cl c2 (by first | (simp;done) | (simp;omega))
  have c3:Cl H5 H2.next [iv 0,iv 0]:=sH5
  refine Za rfl<|Zb ?_
  exact And.intro trivial (Exists.intro _ (And.intro (JK rfl a31 JM rfl c3 rfl) ⟨JD (ZcD (by first | exact .inl (by assumption) | exact .inr (by assumption))),hk⟩))
 ·have hva:vF a=true:=hH4
  refine Zd (v:=.bool false) rfl rfl<|Za rfl ?_
  refine Zl rfl (Z4 (b:=H1.next) (o:=0) rfl c2.rd (show row 4 _ _=some [iv b.wl,iv b.wh,iv b.tl,iv b.th] from rfl) ?_)
  refine Zl rfl (ZD rfl (Zba (f:=b) (by omega)) ?_)
  intro tH6 H6 hH6 kH6
  have mH6:=kH6.1
  have hk:=hk.trans kH6
  have c1:=kH6.cl c1 (by simp)
  have c2:=kH6.cl c2 (by simp)
  have c3:=kH6.cl c3 (by simp)
  cases tH6
  ·have hvb:vF b=false:=hH6
   refine Zl rfl (Zd (v:=.bool true) rfl rfl ?_)
   refine Zd (v:=.bool true) rfl rfl<|Zb<|ZK<|Zc<|Zd (v:=.agg #[iv 0,iv 0]) rfl (by kernel_rfl)<|Yk (b:=H2.next) (o:=0) rfl rfl c3 (by omega) rfl rfl (by simp) ?_
   intro H7 kH7 nH7 sH7
   have mH7:=kH7.1
   have hk:=hk.new kH7 (fun b hb=>by simp at hb ⊢;omega)
   have c1:=kH7.cl c1 (by first | (simp;done) | (simp;omega))
   have c2:=kH7.cl c2 (by first | (simp;done) | (simp;omega))
   have c3:Cl H7 H2.next [iv 0,iv 0]:=sH7
   refine Za rfl<|Zb ?_
   exact And.intro trivial (Exists.intro _ (And.intro (JK rfl a31 JM rfl c3 rfl) ⟨JD (ZcD (by first | exact .inl (by assumption) | exact .inr (by assumption))),hk⟩))
  ·have hvb:vF b=true:=hH6
   refine Zl rfl (Zd (v:=.bool false) rfl rfl ?_)
   refine Zd (v:=.bool false) rfl rfl<|Zb<|ZQ ?_
   first | refine Zj ?_ | skip
   refine Zc<|Zu (b:=H.next) (o:=0) rfl<|Zu (b:=H.next) (o:=0) rfl<|ZP (b:=H.next) (o:=0) (v:=iv a.wl) rfl c1.rd rfl<|Xe (a:=a.wl) (b:=0) rfl rfl ?_
   intro t1 g1;cases t1
   ·have g1:¬ (a.wl=0):=by simpa using g1
    refine Za rfl<|Zh rfl<|Zh rfl<|Zh rfl<|Zh rfl<|Zd (v:=.bool false) rfl rfl<|Zb<|ZQ ?_
    first | refine Zj ?_ | skip
    refine Zc<|Z4 (b:=H.next) (o:=0) rfl c1.rd (show row 4 _ _=some [iv a.wl,iv a.wh,iv a.tl,iv a.th] from rfl)<|Z4 (b:=H1.next) (o:=0) rfl c2.rd (show row 4 _ _=some [iv b.wl,iv b.wh,iv b.tl,iv b.th] from rfl) ?_
    obtain ⟨H8,fH8,kH8⟩:=zT (kn:=kn) (lo:=lo) (H:=H6) h35 hva hvb (by omega) (by omega)
    refine Zi (vs:=[.agg (Fw.f a).toArray,.agg (Fw.f b).toArray]) rfl (Ze fH8) ?_
    have mH8:=kH8.1
    have hk:=hk.trans kH8
    have c1:=kH8.cl c1 (by simp)
    have c2:=kH8.cl c2 (by simp)
    have c3:=kH8.cl c3 (by simp)
    refine Yk (b:=H2.next) (o:=0) rfl rfl c3 (by omega) rfl rfl (by simp) ?_
    intro H9 kH9 nH9 sH9
    have mH9:=kH9.1
    have hk:=hk.new kH9 (fun b hb=>by simp at hb ⊢;omega)
    have c1:=kH9.cl c1 (by first | (simp;done) | (simp;omega))
    have c2:=kH9.cl c2 (by first | (simp;done) | (simp;omega))
    have c3:Cl H9 H2.next [iv (mLo a b 4),iv (mHi a b 4)]:=sH9
    refine Za rfl<|Zb ?_
    exact And.intro trivial (Exists.intro _ (And.intro (JK rfl a31 JM rfl c3 rfl) ⟨JD (ZcV hva hvb (by omega)),hk⟩))
   ·have g1:a.wl=0:=by simpa using g1
    refine Za rfl ?_
    refine Zl rfl (Zu (b:=H1.next) (o:=0) rfl ?_)
    refine Zl rfl (Zu (b:=H1.next) (o:=0) rfl ?_)
    refine Zl rfl (ZP (b:=H1.next) (o:=0) (v:=iv b.wl) rfl c2.rd rfl ?_)
    refine Zl rfl (Xe (a:=b.wl) (b:=0) rfl rfl ?_)
    intro t2 g2;cases t2
    ·have g2:¬ (b.wl=0):=by simpa using g2
     refine Zd (v:=.bool false) rfl rfl<|Zb<|ZQ ?_
     first | refine Zj ?_ | skip
     refine Zc<|Z4 (b:=H.next) (o:=0) rfl c1.rd (show row 4 _ _=some [iv a.wl,iv a.wh,iv a.tl,iv a.th] from rfl)<|Z4 (b:=H1.next) (o:=0) rfl c2.rd (show row 4 _ _=some [iv b.wl,iv b.wh,iv b.tl,iv b.th] from rfl) ?_
     obtain ⟨H10,fH10,kH10⟩:=zT (kn:=kn) (lo:=lo) (H:=H6) h35 hva hvb (by omega) (by omega)
     refine Zi (vs:=[.agg (Fw.f a).toArray,.agg (Fw.f b).toArray]) rfl (Ze fH10) ?_
     have mH10:=kH10.1
     have hk:=hk.trans kH10
     have c1:=kH10.cl c1 (by simp)
     have c2:=kH10.cl c2 (by simp)
     have c3:=kH10.cl c3 (by simp)
     refine Yk (b:=H2.next) (o:=0) rfl rfl c3 (by omega) rfl rfl (by simp) ?_
     intro H11 kH11 nH11 sH11
     have mH11:=kH11.1
     have hk:=hk.new kH11 (fun b hb=>by simp at hb ⊢;omega)
     have c1:=kH11.cl c1 (by first | (simp;done) | (simp;omega))
     have c2:=kH11.cl c2 (by first | (simp;done) | (simp;omega))
     have c3:Cl H11 H2.next [iv (mLo a b 4),iv (mHi a b 4)]:=sH11
     refine Za rfl<|Zb ?_
     exact And.intro trivial (Exists.intro _ (And.intro (JK rfl a31 JM rfl c3 rfl) ⟨JD (ZcV hva hvb (by omega)),hk⟩))
    ·have g2:b.wl=0:=by simpa using g2
     refine Zd (v:=.bool true) rfl rfl<|Zb<|ZK<|Zc<|Zd (v:=.agg #[iv 0,iv 0]) rfl (by kernel_rfl)<|Yk (b:=H2.next) (o:=0) rfl rfl c3 (by omega) rfl rfl (by simp) ?_
     intro H12 kH12 nH12 sH12
     have mH12:=kH12.1
     have hk:=hk.new kH12 (fun b hb=>by simp at hb ⊢;omega)
     have c1:=kH12.cl c1 (by first | (simp;done) | (simp;omega))
     have c2:=kH12.cl c2 (by first | (simp;done) | (simp;omega))
     have c3:Cl H12 H2.next [iv 0,iv 0]:=sH12
     refine Za rfl<|Zb ?_
     exact And.intro trivial (Exists.intro _ (And.intro (JK rfl a31 JM rfl c3 rfl) ⟨JD (ZdJ hva hvb (by omega)),hk⟩))
set_option maxRecDepth 100000 in
set_option maxHeartbeats 1000000 in
theorem ZbF {a:Fw} {l h limit:Int} (hva:vF a=true) (hsp:0≤l∧l≤h∧h≤40000) (hlim:0≤limit∧limit≤40000) (hth:¬ limit < a.th) (hlo:lo≤H.next):∃ H',FnX Try.prog kn lo 45 [.agg (Fw.f a).toArray,.agg #[iv l,iv h],iv limit] H (iv (moV a h limit)) H'∧Zk H H' []:=by
 have key:=Zp (kn:=kn) (lo:=lo) (H:=H) (args:=[.agg (Fw.f a).toArray,.agg #[iv l,iv h],iv limit]) (Q:=fun w H'=>w=(iv (moV a h limit))∧Zk H H' []) Try.func45 B45 N45 Z45 L45 (by simp) ?_
 ·obtain ⟨w,H',h,rfl,q⟩:=key;exact ⟨H',h,q⟩
 have hk:=Zk.refl H []
 obtain ⟨⟨hw1,hw2,hw3⟩,ht1,ht2,ht3⟩:=ZbJ hva
 have hm:=XV (x:=a.wl) (y:=limit - a.th) (X:=1073741824) (Y:=40000) (by omega) (by omega) (by omega) (by omega)
 refine Zc<|Yw (v:=.agg (Fw.f a).toArray) rfl ?_
 intro H1 kH1 nH1 c1
 have c1:Cl H1 H.next [iv a.wl,iv a.wh,iv a.tl,iv a.th]:=c1
 have mH1:=kH1.1
 have hk:=hk.trans kH1
 refine Yw (v:=.agg #[iv l,iv h]) rfl ?_
 intro H2 kH2 nH2 c2
 have c2:Cl H2 H1.next [iv l,iv h]:=c2
 have mH2:=kH2.1
 have hk:=hk.trans kH2
 have c1:=kH2.cl c1 (by simp)
 refine Za rfl<|Zb<|Zc<|Zu (b:=H1.next) (o:=0) rfl<|ZP (b:=H1.next) (o:=1) (v:=iv h) rfl c2.rd rfl<|Za rfl<|Wq (a:=h) (b:=limit) rfl rfl<|Zb ?_
 refine And.intro (fun q1=>?_) (fun q1=>?_)
 ·have q1:h≤limit:=of_decide_eq_true q1
  refine Zc<|Za rfl<|Zb ?_
  exact And.intro trivial (Exists.intro _ (And.intro rfl ⟨congrArg iv (by unfold moV;rw [if_pos (by omega)];try rfl),hk⟩))
 ·have q1:¬ (h≤limit):=of_decide_eq_false q1
  first | refine Zj ?_ | skip
  refine Zc<|Zu (b:=H.next) (o:=0) rfl<|Zu (b:=H.next) (o:=0) rfl<|ZP (b:=H.next) (o:=0) (v:=iv a.wl) rfl c1.rd rfl<|Za rfl<|Zu (b:=H.next) (o:=0) rfl<|Zu (b:=H.next) (o:=2) rfl<|ZP (b:=H.next) (o:=3) (v:=iv a.th) rfl c1.rd rfl<|Yl (a:=limit) (b:=a.th) rfl rfl ⟨by omega,by omega⟩<|JE (a:=a.wl) (b:=limit - a.th) rfl rfl ⟨by omega,by omega⟩<|Za rfl<|Zb<|Zc<|Za rfl<|Zu (b:=H1.next) (o:=0) rfl<|ZP (b:=H1.next) (o:=1) (v:=iv h) rfl c2.rd rfl<|Za rfl<|Yl (a:=h) (b:=limit) rfl rfl ⟨by omega,by omega⟩<|ZdA (a:=a.wl * (limit - a.th)) (b:=h - limit) rfl rfl (by omega) (by omega) ⟨by omega,by omega⟩<|JI (a:=1073741824) (b:=(a.wl * (limit - a.th)) / (h - limit)) rfl rfl<|Za rfl<|Zb ?_
  exact And.intro trivial (Exists.intro _ (And.intro rfl ⟨congrArg iv (by unfold moV;rw [if_neg (by omega)];try rfl),hk⟩))
set_option maxRecDepth 100000 in
set_option maxHeartbeats 1000000 in
theorem Zct {a:Fw} {l h limit:Int} (hlo:lo≤H.next):∃ H',FnX Try.prog kn lo 18 [.agg (Fw.f a).toArray,.agg #[iv l,iv h],iv limit] H (.tuple #[iv (moT a l h limit).1,iv (moT a l h limit).2]) H'∧Zk H H' []:=by
 have key:=Zp (kn:=kn) (lo:=lo) (H:=H) (args:=[.agg (Fw.f a).toArray,.agg #[iv l,iv h],iv limit]) (Q:=fun w H'=>w=(.tuple #[iv (moT a l h limit).1,iv (moT a l h limit).2])∧Zk H H' []) Try.func18 B18 N18 Z18 L18 (by simp) ?_
 ·obtain ⟨w,H',h,rfl,q⟩:=key;exact ⟨H',h,q⟩
 have hk:=Zk.refl H []
 refine Zc<|Yw (v:=.agg (Fw.f a).toArray) rfl ?_
 intro H1 kH1 nH1 c1
 have c1:Cl H1 H.next [iv a.wl,iv a.wh,iv a.tl,iv a.th]:=c1
 have mH1:=kH1.1
 have hk:=hk.trans kH1
 refine Yw (v:=.agg #[iv l,iv h]) rfl ?_
 intro H2 kH2 nH2 c2
 have c2:Cl H2 H1.next [iv l,iv h]:=c2
 have mH2:=kH2.1
 have hk:=hk.trans kH2
 have c1:=kH2.cl c1 (by simp)
 refine Za rfl<|Za rfl<|Zb<|Zc<|Z4 (b:=H.next) (o:=0) rfl c1.rd (show row 4 _ _=some [iv a.wl,iv a.wh,iv a.tl,iv a.th] from rfl)<|ZD rfl (Zba (f:=a) (by omega)) ?_
 intro tH3 H3 hH3 kH3
 have mH3:=kH3.1
 have hk:=hk.trans kH3
 have c1:=kH3.cl c1 (by simp)
 have c2:=kH3.cl c2 (by simp)
 cases tH3
 ·have hva:vF a=false:=hH3
  refine Zd (v:=.bool true) rfl rfl<|Za rfl<|Zh rfl<|Zh rfl<|Zh rfl<|Zd (v:=.bool true) rfl rfl<|Zb<|ZK<|Zc<|Za rfl<|Za rfl<|Zb ?_
  exact And.intro trivial (Exists.intro _ (And.intro rfl ⟨JS (ZcM (by first | exact .inl (by assumption) | exact .inr (by assumption))),hk⟩))
 ·have hva:vF a=true:=hH3
  refine Zd (v:=.bool false) rfl rfl<|Za rfl ?_
  refine Zl rfl (Z4 (b:=H1.next) (o:=0) rfl c2.rd (show row 2 _ _=some [iv l,iv h] from rfl) ?_)
  refine Zl rfl (ZD rfl (Wc (by omega)) ?_)
  intro tH4 H4 hH4 kH4
  have mH4:=kH4.1
  have hk:=hk.trans kH4
  have c1:=kH4.cl c1 (by simp)
  have c2:=kH4.cl c2 (by simp)
  cases tH4
  ·have hvs:spB l h 40000=false:=hH4
   have hvu:=UG hvs
   refine Zl rfl (Zd (v:=.bool true) rfl rfl ?_)
   refine Zd (v:=.bool true) rfl rfl<|Zb<|ZK<|Zc<|Za rfl<|Za rfl<|Zb ?_
   exact And.intro trivial (Exists.intro _ (And.intro rfl ⟨JS (ZcM (by first | exact .inl (by assumption) | exact .inr (by assumption))),hk⟩))
  ·have hvs:spB l h 40000=true:=hH4
   have hvu:=XJ hvs
   refine Zl rfl (Zd (v:=.bool false) rfl rfl ?_)
   refine Zd (v:=.bool false) rfl rfl<|Zb<|ZQ ?_
   first | refine Zj ?_ | skip
   refine Zc<|Za rfl<|ZD rfl (XH) ?_
   intro tH5 H5 hH5 kH5
   have mH5:=kH5.1
   have hk:=hk.trans kH5
   have c1:=kH5.cl c1 (by simp)
   have c2:=kH5.cl c2 (by simp)
   cases tH5
   ·have hvl:inB limit 0 40000=false:=hH5
    have hvm:=Wn hvl
    refine Zd (v:=.bool true) rfl rfl<|Zb<|ZK<|Zc<|Za rfl<|Za rfl<|Zb ?_
    exact And.intro trivial (Exists.intro _ (And.intro rfl ⟨JS (ZeM hva hvs hvl),hk⟩))
   ·have hvl:inB limit 0 40000=true:=hH5
    have hvm:=Y5 hvl
    refine Zd (v:=.bool false) rfl rfl<|Zb<|ZQ ?_
    first | refine Zj ?_ | skip
    refine Zc<|Zu (b:=H.next) (o:=0) rfl<|Zu (b:=H.next) (o:=2) rfl<|ZP (b:=H.next) (o:=3) (v:=iv a.th) rfl c1.rd rfl<|Za rfl<|Y2 (a:=a.th) (b:=limit) rfl rfl<|Zb ?_
    refine And.intro (fun q1=>?_) (fun q1=>?_)
    ·have q1:a.th > limit:=of_decide_eq_true q1
     refine Zc<|Za rfl<|Za rfl<|Zb ?_
     exact And.intro trivial (Exists.intro _ (And.intro rfl ⟨JS (Zdn hva hvs hvl (by omega)),hk⟩))
    ·have q1:¬ (a.th > limit):=of_decide_eq_false q1
     first | refine Zj ?_ | skip
     refine Zc<|Z4 (b:=H.next) (o:=0) rfl c1.rd (show row 4 _ _=some [iv a.wl,iv a.wh,iv a.tl,iv a.th] from rfl)<|Z4 (b:=H1.next) (o:=0) rfl c2.rd (show row 2 _ _=some [iv l,iv h] from rfl)<|Za rfl ?_
     obtain ⟨H6,fH6,kH6⟩:=ZbF (kn:=kn) (lo:=lo) (H:=H5) (a:=a) (l:=l) (h:=h) (limit:=limit) hva hvu hvm (by omega) (by omega)
     refine Zi (vs:=[.agg (Fw.f a).toArray,.agg #[iv l,iv h],iv limit]) rfl (Ze fH6) ?_
     have mH6:=kH6.1
     have hk:=hk.trans kH6
     have c1:=kH6.cl c1 (by simp)
     have c2:=kH6.cl c2 (by simp)
     refine Za rfl<|Za rfl<|Zb ?_
     exact And.intro trivial (Exists.intro _ (And.intro rfl ⟨JS (Zfc hva hvs hvl (by omega)),hk⟩))
set_option maxRecDepth 100000 in
set_option maxHeartbeats 1000000 in
theorem Zef {x:Ph} (hlo:lo≤H.next):∃ H',FnX Try.prog kn lo 47 [.agg (Ph.f x).toArray] H (.bool (vP x)) H'∧Zk H H' []:=by
 have key:=Zp (kn:=kn) (lo:=lo) (H:=H) (args:=[.agg (Ph.f x).toArray]) (Q:=fun w H'=>w=(.bool (vP x))∧Zk H H' []) Try.func47 B47 N47 Z47 L47 (by simp) ?_
 ·obtain ⟨w,H',h,rfl,q⟩:=key;exact ⟨H',h,q⟩
 have hk:=Zk.refl H []
 refine Zc<|Yw (v:=.agg (Ph.f x).toArray) rfl ?_
 intro H1 kH1 nH1 c1
 have c1:Cl H1 H.next [iv x.bl,iv x.bh,iv x.il,iv x.ih,iv x.ol,iv x.oh,iv x.rl,iv x.rh,iv x.cl,iv x.ch]:=c1
 have mH1:=kH1.1
 have hk:=hk.trans kH1
 refine Za rfl<|Zb<|Zc<|Zu (b:=H.next) (o:=0) rfl<|Z4 (b:=H.next) (o:=0) rfl c1.rd (show row 2 _ _=some [iv x.bl,iv x.bh] from rfl)<|Zu (b:=H.next) (o:=0) rfl<|Z4 (b:=H.next) (o:=2) rfl c1.rd (show row 2 _ _=some [iv x.il,iv x.ih] from rfl)<|Zu (b:=H.next) (o:=0) rfl<|Z4 (b:=H.next) (o:=4) rfl c1.rd (show row 2 _ _=some [iv x.ol,iv x.oh] from rfl)<|Zd (v:=.agg #[iv x.bl,iv x.bh,iv x.il,iv x.ih,iv x.ol,iv x.oh]) rfl (by kernel_rfl)<|Za rfl<|Zb ?_
 refine Zt (fn:=Try.f47) ZeD N47 Zee (fun i:Nat=>[(1,pt H.next),(11,.agg #[iv x.bl,iv x.bh,iv x.il,iv x.ih,iv x.ol,iv x.oh]),(12,iv (i:Int))])
  (fun k i H'=>i+k=3∧Zk H H' []∧H.next < H'.next∧Cl H' H.next [iv x.bl,iv x.bh,iv x.il,iv x.ih,iv x.ol,iv x.oh,iv x.rl,iv x.rh,iv x.cl,iv x.ch]∧∀ j,j < i→spB (phl x j) (phh x j) 1099511627776=true) 3 0 ⟨by omega,hk,by omega,c1,fun j h=>absurd h (Nat.not_lt_zero j)⟩ ⟨rfl,rfl,rfl,trivial⟩ ?_
 rintro k i L1 ⟨hik,hk,hnx,cx,hall⟩
 have mk:=hk.1
 refine Zc<|Zx (a:=(i:Int)) (b:=3) rfl rfl<|Zb ?_
 refine And.intro (fun q1=>?_) (fun q1=>?_)
 ·have q1:(i:Int) < 3:=of_decide_eq_true q1
  have hi:i < 3:=by omega
  first | refine Zj ?_ | skip
  refine Zc<|Zd (v:=.agg #[iv (phl x i),iv (phh x i)]) rfl (ZaD rfl rfl hi)<|YF ?_
  intro H2 kH2 nH2 c2
  have c2:Cl H2 L1.next [iv 0,iv 0]:=c2
  have mH2:=kH2.1
  have hk:=hk.trans kH2
  have cx:=kH2.cl cx (by simp)
  refine Yk (b:=L1.next) (o:=0) rfl rfl c2 (by omega) rfl rfl (by simp) ?_
  intro H3 kH3 nH3 sH3
  have mH3:=kH3.1
  have hk:=hk.new kH3 (fun b hb=>by simp at hb ⊢;omega)
  have cx:=kH3.cl cx (by first | (simp;done) | (simp;omega))
  have c2:Cl H3 L1.next [iv (phl x i),iv (phh x i)]:=sH3
  refine Zb<|Zc<|Z4 (b:=L1.next) (o:=0) rfl c2.rd (show row 2 _ _=some [iv (phl x i),iv (phh x i)] from rfl)<|ZD rfl (Wc (by omega)) ?_
  intro tH4 H4 hH4 kH4
  have mH4:=kH4.1
  have hk:=hk.trans kH4
  have cx:=kH4.cl cx (by simp)
  have c2:=kH4.cl c2 (by simp)
  cases tH4
  ·have thH4:spB (phl x i) (phh x i) 1099511627776=false:=hH4
   have uhH4:=UG thH4
   refine Zd (v:=.bool true) rfl rfl<|Zb<|ZK<|Zc<|Za rfl<|Zb ?_
   have hvf:vP x=false:=by
    cases hq:vP x with
    | false=>rfl
    | true=>
     exfalso
     simp only [vP,Bool.and_eq_true] at hq
     obtain ⟨⟨⟨⟨q0,q1⟩,q2⟩,_⟩,_⟩:=hq
     rcases i with _ | _ | _ | i
     ·simp only [phl,phh,Nat.zero_add] at *;simp_all
     ·simp only [phl,phh,Nat.zero_add] at *;simp_all
     ·simp only [phl,phh,Nat.zero_add] at *;simp_all
     ·omega
   exact And.intro trivial (Exists.intro _ (And.intro rfl ⟨congrArg Value.bool hvf.symm,hk⟩))
  ·have thH4:spB (phl x i) (phh x i) 1099511627776=true:=hH4
   have uhH4:=XJ thH4
   refine Zd (v:=.bool false) rfl rfl<|Zb<|ZQ ?_
   first | refine Zj ?_ | skip
   show Zn _ _ _ _ _ _ _ _
   refine Zo (a:=(i:Int)) (b:=1) rfl rfl ⟨by omega,by omega⟩<|Za rfl<|Zb ?_
   exact ⟨k - 1,i+1,by omega,⟨by omega,hk,by omega,cx,fun j hj=>by rcases Nat.lt_or_ge j i with c | c;exact hall j c;rw [show j=i by omega];assumption⟩,rfl,rfl,ivq (by omega),trivial⟩
 ·have q1:¬ ((i:Int) < 3):=of_decide_eq_false q1
  have p0:=hall 0 (by omega);have p1:=hall 1 (by omega);have p2:=hall 2 (by omega);simp only [phl,phh] at p0 p1 p2
  first | (refine Zy ?_;show wC _ _ _ _ _ _ _ _ _) | skip
  refine Zc<|Zu (b:=H.next) (o:=0) rfl<|Z4 (b:=H.next) (o:=6) rfl cx.rd (show row 2 _ _=some [iv x.rl,iv x.rh] from rfl)<|ZD rfl (Wc (by omega)) ?_
  intro tH5 H5 hH5 kH5
  have mH5:=kH5.1
  have hk:=hk.trans kH5
  have cx:=kH5.cl cx (by simp)
  cases tH5
  ·have thH5:spB x.rl x.rh 1073741824=false:=hH5
   have uhH5:=UG thH5
   refine Za rfl<|Zh rfl<|Zh rfl<|Zh rfl<|Zd (v:=.bool false) rfl rfl<|Za rfl<|Zb ?_
   exact And.intro trivial (Exists.intro _ (And.intro rfl ⟨congrArg Value.bool (show false=vP x from (by symm;simp only [vP, *];try rfl)),hk⟩))
  ·have thH5:spB x.rl x.rh 1073741824=true:=hH5
   have uhH5:=XJ thH5
   refine Za rfl ?_
   refine Zl rfl (Zu (b:=H.next) (o:=0) rfl ?_)
   refine Zl rfl (Z4 (b:=H.next) (o:=8) rfl cx.rd (show row 2 _ _=some [iv x.cl,iv x.ch] from rfl) ?_)
   refine Zl rfl (ZD rfl (Wc (by omega)) ?_)
   intro tH6 H6 hH6 kH6
   have mH6:=kH6.1
   have hk:=hk.trans kH6
   have cx:=kH6.cl cx (by simp)
   cases tH6
   ·have thH6:spB x.cl x.ch 1000=false:=hH6
    have uhH6:=UG thH6
    refine Zd (v:=.bool false) rfl rfl<|Za rfl<|Zb ?_
    exact And.intro trivial (Exists.intro _ (And.intro rfl ⟨congrArg Value.bool (show false=vP x from (by symm;simp only [vP, *];try rfl)),hk⟩))
   ·have thH6:spB x.cl x.ch 1000=true:=hH6
    have uhH6:=XJ thH6
    refine Zd (v:=.bool true) rfl rfl<|Za rfl<|Zb ?_
    exact And.intro trivial (Exists.intro _ (And.intro rfl ⟨congrArg Value.bool (show true=vP x from (by symm;simp only [vP, *];try rfl)),hk⟩))
set_option maxRecDepth 100000 in
set_option maxHeartbeats 1000000 in
theorem zK {fid:Nat} {g:Int→Int→Int} (htk:Tk kn fid g) {x:Ph} {xb:Nat} (hv:vP x=true) (cx:Cl H xb [iv x.bl,iv x.bh,iv x.il,iv x.ih,iv x.ol,iv x.oh,iv x.rl,iv x.rh,iv x.cl,iv x.ch]) (hlo:lo≤H.next):∃ H',FnX Try.prog kn lo 66 [.func (.func fid) #[] #[],pt xb] H (iv (g x.rl x.rh * g x.cl x.ch)) H'∧Zk H H' []:=by
 have key:=Zp (kn:=kn) (lo:=lo) (H:=H) (args:=[.func (.func fid) #[] #[],pt xb]) (Q:=fun w H'=>w=(iv (g x.rl x.rh * g x.cl x.ch))∧Zk H H' []) Try.func66 B66 N66 Z66 L66 (by simp) ?_
 ·obtain ⟨w,H',h,rfl,q⟩:=key;exact ⟨H',h,q⟩
 have hk:=Zk.refl H []
 obtain ⟨_,_,_,⟨hr1,hr2,hr3⟩,hc1,hc2,hc3⟩:=ZbR hv
 have hg1:=htk.bd x.rl x.rh hr2
 have hg2:=htk.bd x.cl x.ch hc2
 have hm:=XV (x:=g x.rl x.rh) (y:=g x.cl x.ch) (X:=1073741824) (Y:=1000) (by omega) (by omega) (by omega) (by omega)
 refine Zc<|Za rfl<|Zb<|Yq<|Zg rfl<|ZX (b:=xb) (o:=0) rfl<|Z1 (b:=xb) (o:=6) rfl cx.rd (show row 2 _ _=some [iv x.rl,iv x.rh] from rfl) ?_
 obtain ⟨H1,fH1,kH1⟩:=htk.ok H.next H (x.rl) (x.rh) (Nat.le_refl _)
 refine YV (vs:=[.agg #[iv (x.rl),iv (x.rh)]]) rfl rfl (Ze fH1 htk.sp) ?_
 have mH1:=kH1.1
 have hk:=hk.trans kH1
 have cx:=kH1.cl cx (by simp)
 refine Zg rfl<|ZX (b:=xb) (o:=0) rfl<|Z1 (b:=xb) (o:=8) rfl cx.rd (show row 2 _ _=some [iv x.cl,iv x.ch] from rfl) ?_
 obtain ⟨H2,fH2,kH2⟩:=htk.ok lo H1 (x.cl) (x.ch) (by omega)
 refine Wt (vs:=[.agg #[iv (x.cl),iv (x.ch)]]) rfl (Ze fH2 htk.sp) ?_
 have mH2:=kH2.1
 have hk:=hk.trans kH2
 have cx:=kH2.cl cx (by simp)
 refine UY (a:=(g x.rl x.rh)) (b:=(g x.cl x.ch)) rfl rfl ⟨by omega,by omega⟩<|Zg rfl ?_
 refine ZL (by repeat' first | exact True.intro | exact (fun h=>h) | refine And.intro ?_ ?_ | (intro h;have h:(_:Nat)=_:=h;omega)) ?_
 exact And.intro trivial (Exists.intro _ (And.intro rfl ⟨rfl,hk⟩))
set_option maxRecDepth 100000 in
set_option maxHeartbeats 1000000 in
theorem JG {fid fid2:Nat} {g g2:Int→Int→Int} (htk:Tk kn fid g) (htk2:Tk kn fid2 g2) {x:Ph} {xb bb:Nat} {r1 r2:Int} (hv:vP x=true) (hr:0≤r1∧r1≤r2∧r2≤1073741824000) (cx:Cl H xb [iv x.bl,iv x.bh,iv x.il,iv x.ih,iv x.ol,iv x.oh,iv x.rl,iv x.rh,iv x.cl,iv x.ch]) (cb:Cl H bb [iv r1,iv r2]) (hlo:lo≤H.next):∃ H',FnX Try.prog kn lo 67 [.func (.func fid) #[] #[],.func (.func fid2) #[] #[],pt xb,pt bb] H (iv (g x.bl x.bh+g x.il x.ih - g2 x.ol x.oh - g2 r1 r2)) H'∧Zk H H' []:=by
 have key:=Zp (kn:=kn) (lo:=lo) (H:=H) (args:=[.func (.func fid) #[] #[],.func (.func fid2) #[] #[],pt xb,pt bb]) (Q:=fun w H'=>w=(iv (g x.bl x.bh+g x.il x.ih - g2 x.ol x.oh - g2 r1 r2))∧Zk H H' []) Try.func67 B67 N67 Z67 L67 (by simp) ?_
 ·obtain ⟨w,H',h,rfl,q⟩:=key;exact ⟨H',h,q⟩
 have hk:=Zk.refl H []
 obtain ⟨⟨hb1,hb2,hb3⟩,⟨hi1,hi2,hi3⟩,⟨ho1,ho2,ho3⟩,_⟩:=ZbR hv
 have hg1:=htk.bd x.bl x.bh hb2
 have hg2:=htk.bd x.il x.ih hi2
 have hg3:=htk2.bd x.ol x.oh ho2
 have hg4:=htk2.bd r1 r2 hr.2.1
 refine Zc<|Za rfl<|Zb<|Yq<|Zg rfl<|ZX (b:=xb) (o:=0) rfl<|Z1 (b:=xb) (o:=0) rfl cx.rd (show row 2 _ _=some [iv x.bl,iv x.bh] from rfl) ?_
 obtain ⟨H1,fH1,kH1⟩:=htk.ok H.next H (x.bl) (x.bh) (Nat.le_refl _)
 refine YV (vs:=[.agg #[iv (x.bl),iv (x.bh)]]) rfl rfl (Ze fH1 htk.sp) ?_
 have mH1:=kH1.1
 have hk:=hk.trans kH1
 have cx:=kH1.cl cx (by simp)
 have cb:=kH1.cl cb (by simp)
 refine Zg rfl<|ZX (b:=xb) (o:=0) rfl<|Z1 (b:=xb) (o:=2) rfl cx.rd (show row 2 _ _=some [iv x.il,iv x.ih] from rfl) ?_
 obtain ⟨H2,fH2,kH2⟩:=htk.ok H1.next H1 (x.il) (x.ih) (Nat.le_refl _)
 refine YV (vs:=[.agg #[iv (x.il),iv (x.ih)]]) rfl rfl (Ze fH2 htk.sp) ?_
 have mH2:=kH2.1
 have hk:=hk.trans kH2
 have cx:=kH2.cl cx (by simp)
 have cb:=kH2.cl cb (by simp)
 refine WH (a:=(g x.bl x.bh)) (b:=(g x.il x.ih)) rfl rfl ⟨by omega,by omega⟩<|Zg rfl<|ZX (b:=xb) (o:=0) rfl<|Z1 (b:=xb) (o:=4) rfl cx.rd (show row 2 _ _=some [iv x.ol,iv x.oh] from rfl) ?_
 obtain ⟨H3,fH3,kH3⟩:=htk2.ok H2.next H2 (x.ol) (x.oh) (Nat.le_refl _)
 refine YV (vs:=[.agg #[iv (x.ol),iv (x.oh)]]) rfl rfl (Ze fH3 htk2.sp) ?_
 have mH3:=kH3.1
 have hk:=hk.trans kH3
 have cx:=kH3.cl cx (by simp)
 have cb:=kH3.cl cb (by simp)
 refine XT (a:=(g x.bl x.bh)+(g x.il x.ih)) (b:=(g2 x.ol x.oh)) rfl rfl ⟨by omega,by omega⟩<|Zg rfl<|Z1 (b:=bb) (o:=0) rfl cb.rd (show row 2 _ _=some [iv r1,iv r2] from rfl) ?_
 obtain ⟨H4,fH4,kH4⟩:=htk2.ok lo H3 (r1) (r2) (by omega)
 refine Wt (vs:=[.agg #[iv (r1),iv (r2)]]) rfl (Ze fH4 htk2.sp) ?_
 have mH4:=kH4.1
 have hk:=hk.trans kH4
 have cx:=kH4.cl cx (by simp)
 have cb:=kH4.cl cb (by simp)
 refine XT (a:=((g x.bl x.bh)+(g x.il x.ih)) - (g2 x.ol x.oh)) (b:=(g2 r1 r2)) rfl rfl ⟨by omega,by omega⟩<|Zg rfl ?_
 refine ZL (by repeat' first | exact True.intro | exact (fun h=>h) | refine And.intro ?_ ?_ | (intro h;have h:(_:Nat)=_:=h;omega)) ?_
 exact And.intro trivial (Exists.intro _ (And.intro rfl ⟨rfl,hk⟩))
set_option maxRecDepth 100000 in
set_option maxHeartbeats 1000000 in
theorem zh (h35:kn.b 35=none) {x:Ph} (hv:vP x=true) (hlo:lo≤H.next):∃ H',FnX Try.prog kn lo 48 [.agg (Ph.f x).toArray] H (.tuple #[.agg #[iv (max 0 (x.bl+x.il - x.oh - x.rh * x.ch)),iv (x.bh+x.ih - x.ol - x.rl * x.cl)],.agg #[iv (x.rl * x.cl),iv (x.rh * x.ch)]]) H'∧Zk H H' []:=by
 have key:=Zp (kn:=kn) (lo:=lo) (H:=H) (args:=[.agg (Ph.f x).toArray]) (Q:=fun w H'=>w=(.tuple #[.agg #[iv (max 0 (x.bl+x.il - x.oh - x.rh * x.ch)),iv (x.bh+x.ih - x.ol - x.rl * x.cl)],.agg #[iv (x.rl * x.cl),iv (x.rh * x.ch)]])∧Zk H H' []) Try.func48 B48 N48 Z48 L48 (by simp) ?_
 ·obtain ⟨w,H',h,rfl,q⟩:=key;exact ⟨H',h,q⟩
 have hk:=Zk.refl H []
 have hp:=yv hv
 refine Zc<|Yw (v:=.agg (Ph.f x).toArray) rfl ?_
 intro H1 kH1 nH1 c1
 have c1:Cl H1 H.next [iv x.bl,iv x.bh,iv x.il,iv x.ih,iv x.ol,iv x.oh,iv x.rl,iv x.rh,iv x.cl,iv x.ch]:=c1
 have mH1:=kH1.1
 have hk:=hk.trans kH1
 refine YF ?_
 intro H2 kH2 nH2 c2
 have c2:Cl H2 H1.next [iv 0,iv 0]:=c2
 have mH2:=kH2.1
 have hk:=hk.trans kH2
 have c1:=kH2.cl c1 (by simp)
 refine YF ?_
 intro H3 kH3 nH3 c3
 have c3:Cl H3 H2.next [iv 0,iv 0]:=c3
 have mH3:=kH3.1
 have hk:=hk.trans kH3
 have c1:=kH3.cl c1 (by simp)
 have c2:=kH3.cl c2 (by simp)
 refine Zb<|Zc ?_
 obtain ⟨H4,fH4,kH4⟩:=QK (kn:=kn) (lo:=lo) (H:=H3)
 refine Zi (vs:=[]) rfl (ZF h35 fH4) ?_
 have mH4:=kH4.1
 have hk:=hk.trans kH4
 have c1:=kH4.cl c1 (by simp)
 have c2:=kH4.cl c2 (by simp)
 have c3:=kH4.cl c3 (by simp)
 refine Za rfl<|Zd (v:=.func (.func 57) #[] #[]) rfl (by kernel_rfl)<|Zd (v:=.func (.func 58) #[] #[]) rfl (by kernel_rfl)<|Za rfl<|Za rfl<|Zb<|Zc<|Zd (v:=.func (.func 66) #[] #[pt H.next]) rfl (by kernel_rfl)<|Za rfl<|Zb<|Zc<|Za rfl<|Za rfl ?_
 obtain ⟨H5,fH5,kH5⟩:=zK (kn:=kn) (lo:=lo) (H:=H4) Zck hv c1 (by omega)
 refine Zi (vs:=[.func (.func 57) #[] #[]]) rfl (Xa rfl (by simpa using fH5)) ?_
 have mH5:=kH5.1
 have hk:=hk.trans kH5
 have c1:=kH5.cl c1 (by simp)
 have c2:=kH5.cl c2 (by simp)
 have c3:=kH5.cl c3 (by simp)
 refine Za rfl<|Za rfl ?_
 obtain ⟨H6,fH6,kH6⟩:=zK (kn:=kn) (lo:=lo) (H:=H5) ZaB hv c1 (by omega)
 refine Zi (vs:=[.func (.func 58) #[] #[]]) rfl (Xa rfl (by simpa using fH6)) ?_
 have mH6:=kH6.1
 have hk:=hk.trans kH6
 have c1:=kH6.cl c1 (by simp)
 have c2:=kH6.cl c2 (by simp)
 have c3:=kH6.cl c3 (by simp)
 refine Zd (v:=.agg #[iv (x.rl * x.cl),iv (x.rh * x.ch)]) rfl (by kernel_rfl)<|Yk (b:=H2.next) (o:=0) rfl rfl c3 (by omega) rfl rfl (by simp) ?_
 intro H7 kH7 nH7 sH7
 have mH7:=kH7.1
 have hk:=hk.new kH7 (fun b hb=>by simp at hb ⊢;omega)
 have c1:=kH7.cl c1 (by first | (simp;done) | (simp;omega))
 have c2:=kH7.cl c2 (by first | (simp;done) | (simp;omega))
 have c3:Cl H7 H2.next [iv (x.rl * x.cl),iv (x.rh * x.ch)]:=sH7
 refine Zb<|Zc<|Zd (v:=.func (.func 67) #[] #[pt H.next,pt H2.next]) rfl (by kernel_rfl)<|Za rfl<|Zb<|Zc<|Za rfl<|Za rfl<|Za rfl ?_
 obtain ⟨H8,fH8,kH8⟩:=JG (kn:=kn) (lo:=lo) (H:=H7) Zck ZaB hv ⟨hp.1,hp.2.1,hp.2.2⟩ c1 c3 (by omega)
 refine Zi (vs:=[.func (.func 57) #[] #[],.func (.func 58) #[] #[]]) rfl (Xa rfl (by simpa using fH8)) ?_
 have mH8:=kH8.1
 have hk:=hk.trans kH8
 have c1:=kH8.cl c1 (by simp)
 have c2:=kH8.cl c2 (by simp)
 have c3:=kH8.cl c3 (by simp)
 refine JI (a:=0) (b:=(x.bl+x.il - x.oh - x.rh * x.ch)) rfl rfl<|Za rfl<|Za rfl<|Za rfl ?_
 obtain ⟨H9,fH9,kH9⟩:=JG (kn:=kn) (lo:=lo) (H:=H8) ZaB Zck hv ⟨hp.1,hp.2.1,hp.2.2⟩ c1 c3 (by omega)
 refine Zi (vs:=[.func (.func 58) #[] #[],.func (.func 57) #[] #[]]) rfl (Xa rfl (by simpa using fH9)) ?_
 have mH9:=kH9.1
 have hk:=hk.trans kH9
 have c1:=kH9.cl c1 (by simp)
 have c2:=kH9.cl c2 (by simp)
 have c3:=kH9.cl c3 (by simp)
 refine Zd (v:=.agg #[iv (max 0 (x.bl+x.il - x.oh - x.rh * x.ch)),iv (x.bh+x.ih - x.ol - x.rl * x.cl)]) rfl (by kernel_rfl)<|Yk (b:=H1.next) (o:=0) rfl rfl c2 (by omega) rfl rfl (by simp) ?_
 intro H10 kH10 nH10 sH10
 have mH10:=kH10.1
 have hk:=hk.new kH10 (fun b hb=>by simp at hb ⊢;omega)
 have c1:=kH10.cl c1 (by first | (simp;done) | (simp;omega))
 have c3:=kH10.cl c3 (by first | (simp;done) | (simp;omega))
 have c2:Cl H10 H1.next [iv (max 0 (x.bl+x.il - x.oh - x.rh * x.ch)),iv (x.bh+x.ih - x.ol - x.rl * x.cl)]:=sH10
 refine Zb<|Yq<|Z1 (b:=H1.next) (o:=0) rfl c2.rd (show row 2 _ _=some [iv (max 0 (x.bl+x.il - x.oh - x.rh * x.ch)),iv (x.bh+x.ih - x.ol - x.rl * x.cl)] from rfl)<|Z1 (b:=H2.next) (o:=0) rfl c3.rd (show row 2 _ _=some [iv (x.rl * x.cl),iv (x.rh * x.ch)] from rfl)<|zd (b:=H1.next) (o:=0) rfl rfl c2 (by omega) rfl rfl (by simp) ?_
 intro H11 kH11 nH11 sH11
 have mH11:=kH11.1
 have hk:=hk.new kH11 (fun b hb=>by simp at hb ⊢;omega)
 have c1:=kH11.cl c1 (by first | (simp;done) | (simp;omega))
 have c3:=kH11.cl c3 (by first | (simp;done) | (simp;omega))
 have c2:Cl H11 H1.next [iv (max 0 (x.bl+x.il - x.oh - x.rh * x.ch)),iv (x.bh+x.ih - x.ol - x.rl * x.cl)]:=sH11
 refine zd (b:=H2.next) (o:=0) rfl rfl c3 (by omega) rfl rfl (by simp) ?_
 intro H12 kH12 nH12 sH12
 have mH12:=kH12.1
 have hk:=hk.new kH12 (fun b hb=>by simp at hb ⊢;omega)
 have c1:=kH12.cl c1 (by first | (simp;done) | (simp;omega))
 have c2:=kH12.cl c2 (by first | (simp;done) | (simp;omega))
 have c3:Cl H12 H2.next [iv (x.rl * x.cl),iv (x.rh * x.ch)]:=sH12
 refine ZL (by repeat' first | exact True.intro | exact (fun h=>h) | refine And.intro ?_ ?_ | (intro h;have h:(_:Nat)=_:=h;omega)) ?_
 exact And.intro trivial (Exists.intro _ (And.intro (Zdb rfl rfl a31 JM rfl rfl c2 c3) ⟨rfl,hk⟩))
set_option maxRecDepth 100000 in
set_option maxHeartbeats 1000000 in
theorem qA (h35:kn.b 35=none) {x:Ph} (hlo:lo≤H.next):∃ H',FnX Try.prog kn lo 20 [.agg (Ph.f x).toArray] H (.tuple #[.agg #[iv (baT x).1.1,iv (baT x).1.2],.agg #[iv (baT x).2.1.1,iv (baT x).2.1.2],iv (baT x).2.2]) H'∧Zk H H' []:=by
 have key:=Zp (kn:=kn) (lo:=lo) (H:=H) (args:=[.agg (Ph.f x).toArray]) (Q:=fun w H'=>w=(.tuple #[.agg #[iv (baT x).1.1,iv (baT x).1.2],.agg #[iv (baT x).2.1.1,iv (baT x).2.1.2],iv (baT x).2.2])∧Zk H H' []) Try.func20 B20 N20 Z20 L20 (by simp) ?_
 ·obtain ⟨w,H',h,rfl,q⟩:=key;exact ⟨H',h,q⟩
 have hk:=Zk.refl H []
 refine Zc<|Yw (v:=.agg (Ph.f x).toArray) rfl ?_
 intro H1 kH1 nH1 c1
 have c1:Cl H1 H.next [iv x.bl,iv x.bh,iv x.il,iv x.ih,iv x.ol,iv x.oh,iv x.rl,iv x.rh,iv x.cl,iv x.ch]:=c1
 have mH1:=kH1.1
 have hk:=hk.trans kH1
 refine YF ?_
 intro H2 kH2 nH2 c2
 have c2:Cl H2 H1.next [iv 0,iv 0]:=c2
 have mH2:=kH2.1
 have hk:=hk.trans kH2
 have c1:=kH2.cl c1 (by simp)
 refine YF ?_
 intro H3 kH3 nH3 c3
 have c3:Cl H3 H2.next [iv 0,iv 0]:=c3
 have mH3:=kH3.1
 have hk:=hk.trans kH3
 have c1:=kH3.cl c1 (by simp)
 have c2:=kH3.cl c2 (by simp)
 refine Za rfl<|Zb<|Zc<|Z4 (b:=H.next) (o:=0) rfl c1.rd (show row 10 _ _=some [iv x.bl,iv x.bh,iv x.il,iv x.ih,iv x.ol,iv x.oh,iv x.rl,iv x.rh,iv x.cl,iv x.ch] from rfl)<|ZD rfl (Zef (x:=x) (by omega)) ?_
 intro tH4 H4 hH4 kH4
 have mH4:=kH4.1
 have hk:=hk.trans kH4
 have c1:=kH4.cl c1 (by simp)
 have c2:=kH4.cl c2 (by simp)
 have c3:=kH4.cl c3 (by simp)
 cases tH4
 ·have hv:vP x=false:=hH4
  refine Zd (v:=.bool true) rfl rfl<|Zb<|ZK<|Zc<|Zd (v:=.agg #[iv 0,iv 0]) rfl (by kernel_rfl)<|Zd (v:=.agg #[iv 0,iv 0]) rfl (by kernel_rfl)<|Yk (b:=H1.next) (o:=0) rfl rfl c2 (by omega) rfl rfl (by simp) ?_
  intro H5 kH5 nH5 sH5
  have mH5:=kH5.1
  have hk:=hk.new kH5 (fun b hb=>by simp at hb ⊢;omega)
  have c1:=kH5.cl c1 (by first | (simp;done) | (simp;omega))
  have c3:=kH5.cl c3 (by first | (simp;done) | (simp;omega))
  have c2:Cl H5 H1.next [iv 0,iv 0]:=sH5
  refine Yk (b:=H2.next) (o:=0) rfl rfl c3 (by omega) rfl rfl (by simp) ?_
  intro H6 kH6 nH6 sH6
  have mH6:=kH6.1
  have hk:=hk.new kH6 (fun b hb=>by simp at hb ⊢;omega)
  have c1:=kH6.cl c1 (by first | (simp;done) | (simp;omega))
  have c2:=kH6.cl c2 (by first | (simp;done) | (simp;omega))
  have c3:Cl H6 H2.next [iv 0,iv 0]:=sH6
  refine Za rfl<|Zb ?_
  exact And.intro trivial (Exists.intro _ (And.intro (KW rfl rfl a31 JM rfl rfl c2 c3 rfl) ⟨yP (Ze6 hv),hk⟩))
 ·have hv:vP x=true:=hH4
  obtain ⟨⟨hb1,hb2,hb3⟩,⟨hi1,hi2,hi3⟩,⟨ho1,ho2,ho3⟩,_⟩:=ZbR hv;have hp:=yv hv
  refine Zd (v:=.bool false) rfl rfl<|Zb<|ZQ ?_
  first | refine Zj ?_ | skip
  refine Zc<|Z4 (b:=H.next) (o:=0) rfl c1.rd (show row 10 _ _=some [iv x.bl,iv x.bh,iv x.il,iv x.ih,iv x.ol,iv x.oh,iv x.rl,iv x.rh,iv x.cl,iv x.ch] from rfl) ?_
  obtain ⟨H7,fH7,kH7⟩:=zh (kn:=kn) (lo:=lo) (H:=H4) h35 hv (by omega)
  refine Zi (vs:=[.agg (Ph.f x).toArray]) rfl (Ze fH7) ?_
  have mH7:=kH7.1
  have hk:=hk.trans kH7
  have c1:=kH7.cl c1 (by simp)
  have c2:=kH7.cl c2 (by simp)
  have c3:=kH7.cl c3 (by simp)
  refine Za rfl<|Zd (v:=.agg #[iv (max 0 (x.bl+x.il - x.oh - x.rh * x.ch)),iv (x.bh+x.ih - x.ol - x.rl * x.cl)]) rfl (by kernel_rfl)<|Zd (v:=.agg #[iv (x.rl * x.cl),iv (x.rh * x.ch)]) rfl (by kernel_rfl)<|Yk (b:=H1.next) (o:=0) rfl rfl c2 (by omega) rfl rfl (by simp) ?_
  intro H8 kH8 nH8 sH8
  have mH8:=kH8.1
  have hk:=hk.new kH8 (fun b hb=>by simp at hb ⊢;omega)
  have c1:=kH8.cl c1 (by first | (simp;done) | (simp;omega))
  have c3:=kH8.cl c3 (by first | (simp;done) | (simp;omega))
  have c2:Cl H8 H1.next [iv (max 0 (x.bl+x.il - x.oh - x.rh * x.ch)),iv (x.bh+x.ih - x.ol - x.rl * x.cl)]:=sH8
  refine Yk (b:=H2.next) (o:=0) rfl rfl c3 (by omega) rfl rfl (by simp) ?_
  intro H9 kH9 nH9 sH9
  have mH9:=kH9.1
  have hk:=hk.new kH9 (fun b hb=>by simp at hb ⊢;omega)
  have c1:=kH9.cl c1 (by first | (simp;done) | (simp;omega))
  have c2:=kH9.cl c2 (by first | (simp;done) | (simp;omega))
  have c3:Cl H9 H2.next [iv (x.rl * x.cl),iv (x.rh * x.ch)]:=sH9
  refine Zb<|Zc<|Zu (b:=H1.next) (o:=0) rfl<|ZP (b:=H1.next) (o:=1) (v:=iv (x.bh+x.ih - x.ol - x.rl * x.cl)) rfl c2.rd rfl<|Zx (a:=(x.bh+x.ih - x.ol - x.rl * x.cl)) (b:=0) rfl rfl<|Zb ?_
  refine And.intro (fun q1=>?_) (fun q1=>?_)
  ·have q1:(x.bh+x.ih - x.ol - x.rl * x.cl) < 0:=of_decide_eq_true q1
   refine Zc<|Zd (v:=.agg #[iv 0,iv 0]) rfl (by kernel_rfl)<|Zd (v:=.agg #[iv 0,iv 0]) rfl (by kernel_rfl)<|Yk (b:=H1.next) (o:=0) rfl rfl c2 (by omega) rfl rfl (by simp) ?_
   intro H10 kH10 nH10 sH10
   have mH10:=kH10.1
   have hk:=hk.new kH10 (fun b hb=>by simp at hb ⊢;omega)
   have c1:=kH10.cl c1 (by first | (simp;done) | (simp;omega))
   have c3:=kH10.cl c3 (by first | (simp;done) | (simp;omega))
   have c2:Cl H10 H1.next [iv 0,iv 0]:=sH10
   refine Yk (b:=H2.next) (o:=0) rfl rfl c3 (by omega) rfl rfl (by simp) ?_
   intro H11 kH11 nH11 sH11
   have mH11:=kH11.1
   have hk:=hk.new kH11 (fun b hb=>by simp at hb ⊢;omega)
   have c1:=kH11.cl c1 (by first | (simp;done) | (simp;omega))
   have c2:=kH11.cl c2 (by first | (simp;done) | (simp;omega))
   have c3:Cl H11 H2.next [iv 0,iv 0]:=sH11
   refine Za rfl<|Zb ?_
   exact And.intro trivial (Exists.intro _ (And.intro (KW rfl rfl a31 JM rfl rfl c2 c3 rfl) ⟨yP (Zfo hv (by omega)),hk⟩))
  ·have q1:¬ ((x.bh+x.ih - x.ol - x.rl * x.cl) < 0):=of_decide_eq_false q1
   first | refine Zj ?_ | skip
   refine Yq<|Z1 (b:=H1.next) (o:=0) rfl c2.rd (show row 2 _ _=some [iv (max 0 (x.bl+x.il - x.oh - x.rh * x.ch)),iv (x.bh+x.ih - x.ol - x.rl * x.cl)] from rfl)<|Z1 (b:=H2.next) (o:=0) rfl c3.rd (show row 2 _ _=some [iv (x.rl * x.cl),iv (x.rh * x.ch)] from rfl)<|zd (b:=H1.next) (o:=0) rfl rfl c2 (by omega) rfl rfl (by simp) ?_
   intro H12 kH12 nH12 sH12
   have mH12:=kH12.1
   have hk:=hk.new kH12 (fun b hb=>by simp at hb ⊢;omega)
   have c1:=kH12.cl c1 (by first | (simp;done) | (simp;omega))
   have c3:=kH12.cl c3 (by first | (simp;done) | (simp;omega))
   have c2:Cl H12 H1.next [iv (max 0 (x.bl+x.il - x.oh - x.rh * x.ch)),iv (x.bh+x.ih - x.ol - x.rl * x.cl)]:=sH12
   refine zd (b:=H2.next) (o:=0) rfl rfl c3 (by omega) rfl rfl (by simp) ?_
   intro H13 kH13 nH13 sH13
   have mH13:=kH13.1
   have hk:=hk.new kH13 (fun b hb=>by simp at hb ⊢;omega)
   have c1:=kH13.cl c1 (by first | (simp;done) | (simp;omega))
   have c2:=kH13.cl c2 (by first | (simp;done) | (simp;omega))
   have c3:Cl H13 H2.next [iv (x.rl * x.cl),iv (x.rh * x.ch)]:=sH13
   refine Zg rfl ?_
   refine ZL (by repeat' first | exact True.intro | exact (fun h=>h) | refine And.intro ?_ ?_ | (intro h;have h:(_:Nat)=_:=h;omega)) ?_
   exact And.intro trivial (Exists.intro _ (And.intro (KW rfl rfl a31 JM rfl rfl c2 c3 rfl) ⟨yP (Zfh hv (by omega)),hk⟩))
end
end
end Go.Ax

/-
 Pool: the document's Mix (written by program).
-/
namespace Go.Ax
open Go Go.RowKit Go.Proofs

noncomputable section
theorem UV:Z3 Try.prog 42=some (3,1):=by kernel_rfl
theorem zo3:Ym Try.prog 3=some (iv 0):=by kernel_rfl
theorem J8:Try.prog.underlying 42=some (.slice 3):=by kernel_rfl
theorem Zas:Z3 Try.prog 22=some (52,5):=by kernel_rfl
theorem Zdh:Ym Try.prog 52=some (.agg #[iv 0,iv 0,iv 0,iv 0,iv 0]):=by kernel_rfl
theorem Zay:Try.prog.underlying 22=some (.slice 52):=by kernel_rfl
theorem Zfs:Z3 Try.prog 101=some (22,1):=by kernel_rfl
theorem Zfy:Ym Try.prog 22=some (.slice none 0 0):=by kernel_rfl
theorem ZfC:Z3 Try.prog 43=some (68,3):=by kernel_rfl
theorem Zfz:Ym Try.prog 68=some (.agg #[iv 0,iv 0,iv 0]):=by kernel_rfl
theorem z0 {lo n:Nat} {S:Rg} {H:Hp} {d:Option Tmp} {ty:TypeId} {p:String} {x y z:Operand} {a b c:Int} (hx:evS S x=some (iv a)) (hy:evS S y=some (iv b)) (hz:evS S z=some (iv c)) :
  Zr Try.prog lo (frS n S) H ⟨d,.buildSlice 42 3 #[(0,x),(1,y),(2,z)],ty,p,#[],none⟩=some (.val (.slice (some ⟨H.next,0,none⟩) 3 3) (H.new (.cells [iv a,iv b,iv c] 3 false)),.heavy):=by
 unfold Zr
 simp only [YH,Z8,hx,hy,hz,UV,zo3]
 rfl
theorem ZaL {lo n:Nat} {S:Rg} {H:Hp} {d:Option Tmp} {ty:TypeId} {p:String} {x y:Operand} {a a2:Option Addr} {m c m2 c2:Nat} (hx:evS S x=some (.slice a m c)) (hy:evS S y=some (.slice a2 m2 c2)) :
  Zr Try.prog lo (frS n S) H ⟨d,.buildSlice 101 2 #[(0,x),(1,y)],ty,p,#[],none⟩=some (.val (.slice (some ⟨H.next,0,none⟩) 2 2) (H.new (.cells [.slice a m c,.slice a2 m2 c2] 22 false)),.heavy):=by
 unfold Zr
 simp only [YH,Z8,hx,hy,Zfs,Zfy]
 rfl
theorem Zbk {lo n:Nat} {S:Rg} {H:Hp} {d:Option Tmp} {ty:TypeId} {p:String} {x y z:Operand} {a b c:Dc} (hx:evS S x=some (.agg a.f.toArray)) (hy:evS S y=some (.agg b.f.toArray)) (hz:evS S z=some (.agg c.f.toArray)) :
  Zr Try.prog lo (frS n S) H ⟨d,.buildSlice 22 3 #[(0,x),(1,y),(2,z)],ty,p,#[],none⟩=some (.val (.slice (some ⟨H.next,0,none⟩) 3 3) (H.new (.cells (dcc [a,b,c]) 52 false)),.heavy):=by
 unfold Zr
 simp only [YH,Z8,hx,hy,hz,Zas,Zdh]
 rfl
section
variable {kn:Kn} {lo:Nat} {H:Hp}
end
end
end Go.Ax

/-
 Pool: lists joined;Allow,and the document of it (written by program).
-/
namespace Go.Ax
open Go Go.RowKit Go.Proofs

noncomputable section
theorem UW {z:List Value}:∀ {n:Nat},(ZJ z n).length=n * z.length
 | 0=>by simp [ZJ]
 | n+1=>by rw [ZJ,List.length_append,UW,Nat.succ_mul];omega
theorem Qr:∀ (z v pre post:List Value),z.length=v.length→ZG (pre ++ z ++ post) pre.length v=pre ++ v ++ post
 | [],[],pre,post,_=>by simp [ZG]
 | [],_ :: _,_,_,h=>by simp at h
 | _ :: _,[],_,_,h=>by simp at h
 | y :: z,v :: vs,pre,post,h=>by
  have e:(pre ++ (y :: z) ++ post).set pre.length v=(pre ++ [v]) ++ z ++ post:=by
   rw [List.append_assoc,List.set_append_right _ _ (Nat.le_refl _),Nat.sub_self,List.cons_append,List.set_cons_zero]
   simp
  rw [ZG,e]
  have:=Qr z vs (pre ++ [v]) post (by simpa using h)
  rw [List.length_append] at this
  rw [show pre.length+1=pre.length + [v].length from rfl,this]
  simp
theorem qc {Z A B:List Value} (h:Z.length=A.length+B.length):ZG (ZG Z 0 A) A.length B=A ++ B:=by
 have e:Z=Z.take A.length ++ Z.drop A.length:=(List.take_append_drop _ _).symm
 have h1:(Z.take A.length).length=A.length:=by simp;omega
 have h2:ZG Z 0 A=A ++ Z.drop A.length:=by
  have:=Qr (Z.take A.length) A [] (Z.drop A.length) h1
  simpa using this
 rw [h2]
 exact V7 (Z.drop A.length) B A (by simp;omega)
theorem Uu {lo n:Nat} {S:Rg} {H:Hp} {d:Option Tmp} {ty:TypeId} {p:String} {x:Operand} (hx:evS S x=some (.slice none 0 0)):Zr Try.prog lo (frS n S) H ⟨d,.call ⟨.builtin .cap,#[x],#[22]⟩,ty,p,#[],none⟩=some (.val (iv 0) H,.pure):=by
 unfold Zr
 simp only [evs,Z8,hx,Yb,List.getElem?_toArray,List.getElem?_cons_zero,Zay]
 rfl
theorem Jv {lo n:Nat} {S:Rg} {H:Hp} {d:Option Tmp} {ty:TypeId} {p:String} {x y:Operand} (hx:evS S x=some (.slice none 0 0)) (hy:evS S y=some (iv 0)):Zr Try.prog lo (frS n S) H ⟨d,.slice 22 x none (some y) none,ty,p,#[],none⟩=some (.val (.slice none 0 0) H,.pure):=by
 obtain ⟨i,hi,_⟩:=ZeN
 have hb:ZT (frS n S) 0 (some y)=some 0:=by unfold ZT;simp only [Z8,hy]
 have hb0:ZT (frS n S) 0 none=some 0:=rfl
 unfold Zr
 simp only [Z8,hx,Zay,hi,hb,hb0]
 rfl
theorem QE {lo n:Nat} {S:Rg} {H:Hp} {d:Option Tmp} {ty:TypeId} {p:String} {x y:Operand} {b m c:Nat} {cs:List Value} (hg:H.t.get b=some (.cells cs 52 true)) (hx:evS S x=some (.slice (some ⟨b,0,none⟩) m c)) (hy:evS S y=some (iv 0)):Zr Try.prog lo (frS n S) H ⟨d,.slice 22 x none (some y) none,ty,p,#[],none⟩=some (.val (.slice (some ⟨b,0,none⟩) 0 c) H,.read b):=by
 obtain ⟨i,hi,hs⟩:=ZeN
 have hb:ZT (frS n S) m (some y)=some 0:=by unfold ZT;simp only [Z8,hy]
 have hb0:ZT (frS n S) 0 none=some 0:=rfl
 unfold Zr
 simp only [Z8,hx,Zay,hi,hb,hb0,hg,hs,Nat.beq_refl,Nat.ble_eq_true_of_le (Nat.zero_le m),Nat.ble_eq_true_of_le (Nat.le_refl 0),show Nat.beq 5 0=false from rfl,Bool.not_false,Bool.or_true,Bool.and_self,cond_true,Nat.zero_mul,VD,Nat.sub_zero,Nat.add_zero]
theorem UQ {lo n:Nat} {S:Rg} {H:Hp} {d:Option Tmp} {ty:TypeId} {p:String} {x y:Operand} {m:Nat} {j:Int} (hx:evS S x=some (.slice none 0 0)) (hy:evS S y=some (iv j)) (hj:j=(m:Int)) (hm:0 < m) (hm2:m≤1000):Zr Try.prog lo (frS n S) H ⟨d,.call ⟨.builtin .append,#[x,y],#[22,3]⟩,ty,p,#[],none⟩=some (.val (.slice (some ⟨H.next,0,none⟩) m m) (H.new (.cells (ZJ [iv 0,iv 0,iv 0,iv 0,iv 0] m) 52 true)),.heavy):=by
 subst hj
 have h3:Nat.ble m 1048576=true:=Nat.ble_eq_true_of_le (by omega)
 have h0:Nat.beq m 0=false:=by rw [ZB];exact decide_eq_false (by omega)
 unfold Zr
 simp only [evs,Z8,hx,hy,Yb,List.getElem?_toArray,List.getElem?_cons_zero,List.getElem?_cons_succ,Zas,Try.underlying3,Zdh,show ((m:Nat):Int)=Int.ofNat m from rfl,h3,cond_true,ZU,YX,Nat.beq_refl,Bool.and_self,h0,cond_false]
 rfl
theorem Vi {lo:Nat} {H:Hp} {b m k N c2:Nat} {a2:Option Addr} {cs news:List Value} (hg:H.t.get b=some (.cells cs 52 true)) (hbn:b < H.next) (hlb:lo≤b) (hcl:cs.length=N * 5) (hs:Sl H a2 k c2 news) (hl:news.length=k * 5) (hone:news.all one=true) (hmk:m+k≤N) (hN:N≤1000) :
  ∃ H1 kd,(∀ (n:Nat) (S:Rg) (d:Option Tmp) (x y:Operand) (ty:TypeId) (p:String),evS S x=some (.slice (some ⟨b,0,none⟩) m N)→evS S y=some (.slice a2 k c2)→Zr Try.prog lo (frS n S) H ⟨d,.call ⟨.builtin .append,#[x,y],#[22,22]⟩,ty,p,#[],none⟩=some (.val (.slice (some ⟨b,0,none⟩) (m+k) N) H1,kd))∧(∀ c,kd=.read c→c < H.next)∧
   H1.t.get b=some (.cells (ZG cs (m * 5) news) 52 true)∧Zk H H1 [b]∧H1.next=H.next:=by
 have h3:Nat.ble (m+k) 1048576=true:=Nat.ble_eq_true_of_le (by omega)
 by_cases h0:k=0
 ·subst h0
  have hn:news=[]:=List.eq_nil_of_length_eq_zero (by simpa using hl)
  subst hn
  rw [Nat.add_zero] at h3
  refine ⟨H,.pure,fun n S d x y ty p hx hy=>?_,(fun c e=>by cases e),hg,Zk.refl H [b],rfl⟩
  unfold Zr
  simp only [evs,Z8,hx,hy,Yb,List.getElem?_toArray,List.getElem?_cons_zero,List.getElem?_cons_succ,Zas,Zay,W3 hs hl,ZU,h3,cond_true,Nat.beq_refl,Nat.add_zero]
 ·have hk0:Nat.beq k 0=false:=by rw [ZB];exact decide_eq_false h0
  have hle:(m+k) * 5≤N * 5:=Nat.mul_le_mul_right _ hmk
  refine ⟨H.up b (.cells (ZG cs (m * 5) news) 52 true),.store b,fun n S d x y ty p hx hy=>?_,(fun c e=>by cases e),?_,(WS ⟨hbn,_,_,hg⟩ rfl).1,rfl⟩
  ·unfold Zr
   simp only [evs,Z8,hx,hy,Yb,List.getElem?_toArray,List.getElem?_cons_zero,List.getElem?_cons_succ,Zas,Zay,W3 hs hl,ZU,h3,cond_true,cond_false,hk0,hg,hone,Nat.ble_eq_true_of_le hlb,Nat.beq_refl,Nat.zero_add,Nat.ble_eq_true_of_le (show (m+k) * 5≤cs.length by omega),Bool.and_self]
   rfl
  ·show (H.t.set b _).get b=_
   rw [Tr.get_set,if_pos rfl]
def lnF (n:Nat):Nat→Nat | 0=>0 | 1=>n | _=>n+1
def ccF (n:Nat) (ds:List Dc) (x:Dc):Nat→List Value | 0=>ZJ [iv 0,iv 0,iv 0,iv 0,iv 0] (n+1) | 1=>ZG (ZJ [iv 0,iv 0,iv 0,iv 0,iv 0] (n+1)) (0 * 5) (dcc ds) | _=>ZG (ZG (ZJ [iv 0,iv 0,iv 0,iv 0,iv 0] (n+1)) (0 * 5) (dcc ds)) (n * 5) (Dc.f x)
theorem jt {n:Nat} {ds:List Dc} {x:Dc} (i:Nat):(ccF n ds x i).length=(n+1) * 5:=by
 unfold ccF
 split<;>simp only [WD,UW]<;>rfl
theorem Zcy {n:Nat} {ds:List Dc} {x:Dc} (h:ds.length=n):ccF n ds x 2=dcc (ds ++ [x]):=by
 have e:dcc (ds ++ [x])=dcc ds ++ Dc.f x:=by unfold dcc;rw [List.flatMap_append];simp
 rw [e]
 show ZG (ZG _ (0 * 5) (dcc ds)) (n * 5) (Dc.f x)=_
 have hl:(dcc ds).length=n * 5:=by rw [jf,h]
 rw [← hl,Nat.zero_mul]
 refine qc ?_
 rw [UW,hl]
 show (n+1) * 5=n * 5+5
 omega
theorem qU:∀ {ds:List Dc},(dcc ds).all one=true
 | []=>rfl
 | d :: ds=>by
  have ih:=qU (ds:=ds)
  show (Dc.f d ++ dcc ds).all one=true
  rw [List.all_append,ih];rfl
def alT (ds:List Dc) (days limit day:Int):Int × Int:=
 if vD ds=false then (0,1) else if inB days 1 366=false∨inB limit 0 72057594037927936=false∨inB day 0 16384=false then (0,2) else if limit < gmx (prt gHi ds) days day days.toNat then (0,12) else (limit - gmx (prt gHi ds) days day days.toNat,0)
section
variable {ds:List Dc} {days limit day:Int}
theorem Zen (h:vD ds=false):alT ds days limit day=(0,1):=by unfold alT;rw [if_pos h]
theorem Zaw (h:vD ds=true) (k:inB days 1 366=false∨inB limit 0 72057594037927936=false∨inB day 0 16384=false):alT ds days limit day=(0,2):=by unfold alT;rw [if_neg (by rw [h];decide),if_pos k]
theorem ZdM (h:vD ds=true) (k:inB days 1 366=true) (k2:inB limit 0 72057594037927936=true) (k3:inB day 0 16384=true) (q:limit < gmx (prt gHi ds) days day days.toNat):alT ds days limit day=(0,12):=by unfold alT;rw [if_neg (by rw [h];decide),if_neg (by rw [k,k2,k3];decide),if_pos q]
theorem Zd9 (h:vD ds=true) (k:inB days 1 366=true) (k2:inB limit 0 72057594037927936=true) (k3:inB day 0 16384=true) (q:¬ limit < gmx (prt gHi ds) days day days.toNat):alT ds days limit day=(limit - gmx (prt gHi ds) days day days.toNat,0):=by unfold alT;rw [if_neg (by rw [h];decide),if_neg (by rw [k,k2,k3];decide),if_neg q]
theorem U6 {a b:Int} (h:alT ds days limit day=(a,b)):(Value.tuple #[iv a,iv b])=.tuple #[iv (alT ds days limit day).1,iv (alT ds days limit day).2]:=by rw [h]
end
theorem Zdu {ds:List Dc} {days day:Int} (h:∀ d,d∈ds→Xo d=false) (hl:ds.length≤70) {k:Nat}:0≤gmx (prt gHi ds) days day k∧gmx (prt gHi ds) days day k≤5044031582654955520:=by
 refine ⟨yR,yX (by omega) fun j _=>?_⟩
 have h1:=Zcc (l:=prt gHi ds) (days:=days) (D:=day+j) (jh qx h)
 rw [Wf] at h1
 omega
section
variable {kn:Kn} {lo:Nat} {H:Hp}
set_option maxRecDepth 100000 in
theorem ZcC {n:Nat} {j:Int} (hj:j=(n:Int)+1) (hn:n≤100) (hlo:lo≤H.next):∃ b H',FnX Try.prog kn lo 64 [.slice none 0 0,iv j] H (.slice (some ⟨b,0,none⟩) 0 (n+1)) H'∧Zk H H' []∧H.next≤b∧b < H'.next∧H'.t.get b=some (.cells (ZJ [iv 0,iv 0,iv 0,iv 0,iv 0] (n+1)) 52 true):=by
 have key:=Zp (kn:=kn) (lo:=lo) (H:=H) (args:=[.slice none 0 0,iv j]) (Q:=fun w H'=>∃ b,w=.slice (some ⟨b,0,none⟩) 0 (n+1)∧Zk H H' []∧H.next≤b∧b < H'.next∧H'.t.get b=some (.cells (ZJ [iv 0,iv 0,iv 0,iv 0,iv 0] (n+1)) 52 true)) Try.func64 B64 N64 Z64 L64 (by simp) ?_
 ·obtain ⟨w,H',h,b,rfl,q⟩:=key;exact ⟨b,H',h,q⟩
 have hk:=Zk.refl H []
 refine Zc<|Za rfl<|Zb<|Zc<|Za rfl<|Zx (a:=j) (b:=0) rfl rfl<|Zb ?_
 refine And.intro (fun q1=>?_) (fun q1=>?_)
 ·have q1:j < 0:=of_decide_eq_true q1
  omega
 ·have q1:¬ (j < 0):=of_decide_eq_false q1
  first | refine Zj ?_ | skip
  refine Zc<|Za rfl<|Za rfl<|ZN (k:=.pure) rfl (by kernel_rfl) (Uu rfl) (fun b e=>by cases e)<|Za rfl<|Zv (m:=0) rfl<|Yl (a:=0) (b:=0) rfl rfl ⟨by omega,by omega⟩<|Yl (a:=j) (b:=0 - 0) rfl rfl ⟨by omega,by omega⟩<|Za rfl<|Zb<|Zc<|Za rfl<|Y2 (a:=j - (0 - 0)) (b:=0) rfl rfl<|Zb ?_
  refine And.intro (fun q2=>?_) (fun q2=>?_)
  ·have q2:(j - (0 - 0)) > 0:=of_decide_eq_true q2
   refine Zc<|Za rfl<|Za rfl<|ZN (k:=.pure) rfl (by kernel_rfl) (Uu rfl) (fun b e=>by cases e)<|ZN (k:=.pure) rfl (by kernel_rfl) (Jv rfl rfl) (fun b e=>by cases e)<|Za rfl ?_
   obtain ⟨H1,hH1⟩:∃ H1,H.new (.cells (ZJ [iv 0,iv 0,iv 0,iv 0,iv 0] (n+1)) 52 true)=H1:=⟨_,rfl⟩
   refine ZN (H':=H1) (k:=.heavy) rfl (by kernel_rfl) ((UQ (m:=n+1) (j:=j - (0 - 0)) rfl rfl (by omega) (by omega) (by omega)).trans (by rw [← hH1])) (fun b e=>by cases e) ?_
   have hg:=Zcz hH1
   obtain ⟨kH1,nH1,cH1⟩:=Z2 hH1;clear hH1
   have mH1:=kH1.1
   have hk:=hk.trans kH1
   refine Za rfl<|Zv (m:=0) rfl<|ZN (k:=.read H.next) rfl (by kernel_rfl) (QE hg rfl rfl) (fun b e=>by cases e;omega)<|Za rfl<|Zb<|Zc<|Za rfl<|Za rfl<|Zb ?_
   exact And.intro trivial (Exists.intro _ (And.intro rfl ⟨H.next,rfl,hk,by omega,by omega,hg⟩))
  ·have q2:¬ ((j - (0 - 0)) > 0):=of_decide_eq_false q2
   omega
set_option maxRecDepth 100000 in
set_option maxHeartbeats 2000000 in
theorem jX {ds:List Dc} {x:Dc} {sa:Option Addr} {n cap ob x1:Nat} (co:Cl H ob [.slice sa n cap,.slice (some ⟨x1,0,none⟩) 1 1]) (cx:Cl H x1 [iv x.d,iv x.wl,iv x.wh,iv x.cl,iv x.ch]) (hs:Sl H sa n cap (dcc ds)) (hl:ds.length=n) (hn:n≤100) (hlo:lo≤H.next):∃ b H',FnX Try.prog kn lo 40 [.slice (some ⟨ob,0,none⟩) 2 2] H (.slice (some ⟨b,0,none⟩) (n+1) (n+1)) H'∧Zk H H' []∧Rd H' b (dcc (ds ++ [x]))∧H.next≤b:=by
 have key:=Zp (kn:=kn) (lo:=lo) (H:=H) (args:=[.slice (some ⟨ob,0,none⟩) 2 2]) (Q:=fun w H'=>∃ b,w=.slice (some ⟨b,0,none⟩) (n+1) (n+1)∧Zk H H' []∧Rd H' b (dcc (ds ++ [x]))∧H.next≤b) Try.func40 B40 N40 Z40 L40 (by simp) ?_
 ·obtain ⟨w,H',h,b,rfl,q⟩:=key;exact ⟨b,H',h,q⟩
 have hk:=Zk.refl H []
 have fs:=hs.old
 have lob:=co.lt
 have lx1:=cx.lt
 refine Zc<|Za rfl<|Zb<|Zc<|Za rfl<|Zb<|Zc<|Za rfl<|Zv (m:=2) rfl<|Za rfl<|Zb ?_
 refine Zt (fn:=Try.f40) Zfa N40 ZdW (fun i:Nat=>[(0,.slice (some ⟨ob,0,none⟩) 2 2),(3,iv (lnF n i:Int)),(9,.slice (some ⟨ob,0,none⟩) 2 2),(10,iv 2),(11,iv (i:Int))])
  (fun k i H'=>i+k=2∧Zk H H' []∧Cl H' ob [.slice sa n cap,.slice (some ⟨x1,0,none⟩) 1 1]∧Cl H' x1 [iv x.d,iv x.wl,iv x.wh,iv x.cl,iv x.ch]∧Sl H' sa n cap (dcc ds)) 2 0 ⟨by omega,hk,co,cx,hs⟩ ⟨rfl,rfl,rfl,rfl,rfl,trivial⟩ ?_
 rintro k i L1 ⟨hik,hk,co,cx,hs⟩
 have mk:=hk.1
 refine Zc<|Zx (a:=(i:Int)) (b:=2) rfl rfl<|Zb ?_
 refine And.intro (fun q1=>?_) (fun q1=>?_)
 ·have q1:(i:Int) < 2:=of_decide_eq_true q1
  obtain rfl | rfl:i=0∨i=1:=by omega
  ·first | refine Zj ?_ | skip
   refine Zc<|YS (b:=ob) (o:=0) (k:=0) (j:=0) rfl rfl rfl (by omega)<|ZP (b:=ob) (o:=0+0 * 1) (v:=.slice sa n cap) rfl co.rd rfl<|Za rfl<|Zb<|Zc<|Za rfl<|Za rfl<|Zv (m:=n) rfl<|Zo (a:=0) (b:=(n:Int)) rfl rfl ⟨by omega,by omega⟩<|Za rfl<|Zb<|Zc<|Za rfl<|Zx (a:=0+(n:Int)) (b:=0) rfl rfl<|Zb ?_
   refine And.intro (fun q2=>?_) (fun q2=>?_)
   ·have q2:(0+(n:Int)) < 0:=of_decide_eq_true q2
    omega
   ·have q2:¬ ((0+(n:Int)) < 0):=of_decide_eq_false q2
    first | refine Zj ?_ | skip
    show Zn _ _ _ _ _ _ _ _
    refine Zo (a:=0) (b:=1) rfl rfl ⟨by omega,by omega⟩<|Za rfl<|Zb ?_
    exact ⟨k - 1,1,by omega,⟨by omega,hk,co,cx,hs⟩,rfl,ivq (by simp only [lnF];omega),rfl,rfl,ivq (by omega),trivial⟩
  ·first | refine Zj ?_ | skip
   refine Zc<|YS (b:=ob) (o:=0) (k:=1) (j:=1) rfl rfl rfl (by omega)<|ZP (b:=ob) (o:=0+1 * 1) (v:=.slice (some ⟨x1,0,none⟩) 1 1) rfl co.rd rfl<|Za rfl<|Zb<|Zc<|Za rfl<|Za rfl<|Zv (m:=1) rfl<|Zo (a:=(n:Int)) (b:=1) rfl rfl ⟨by omega,by omega⟩<|Za rfl<|Zb<|Zc<|Za rfl<|Zx (a:=(n:Int)+1) (b:=0) rfl rfl<|Zb ?_
   refine And.intro (fun q3=>?_) (fun q3=>?_)
   ·have q3:((n:Int)+1) < 0:=of_decide_eq_true q3
    omega
   ·have q3:¬ (((n:Int)+1) < 0):=of_decide_eq_false q3
    first | refine Zj ?_ | skip
    show Zn _ _ _ _ _ _ _ _
    refine Zo (a:=1) (b:=1) rfl rfl ⟨by omega,by omega⟩<|Za rfl<|Zb ?_
    exact ⟨k - 1,2,by omega,⟨by omega,hk,co,cx,hs⟩,rfl,ivq (by simp only [lnF];omega),rfl,rfl,ivq (by omega),trivial⟩
 ·have q1:¬ ((i:Int) < 2):=of_decide_eq_false q1
  obtain rfl:i=2:=by omega
  first | (refine Zy ?_;show wC _ _ _ _ _ _ _ _ _) | skip
  refine Zc<|Za rfl ?_
  obtain ⟨bb,H1,fH1,kH1,hbb,hbn,hg⟩:=ZcC (kn:=kn) (lo:=lo) (H:=L1) (n:=n) (j:=(lnF n 2:Int)) (by simp only [lnF];omega) hn (by omega)
  refine Zi (vs:=[.slice none 0 0,iv (lnF n 2:Int)]) rfl (Ze fH1) ?_
  have mH1:=kH1.1
  have hk:=hk.trans kH1
  have co:=kH1.cl co (by simp)
  have cx:=kH1.cl cx (by simp)
  have hs:=kH1.sl0 hs
  refine Za rfl<|Zb<|Zc<|Za rfl<|Zv (m:=2) rfl<|Za rfl<|Zb ?_
  refine Zt (fn:=Try.f40) Zfg N40 Zfj (fun i:Nat=>[(6,.slice (some ⟨bb,0,none⟩) (lnF n i) (n+1)),(25,.slice (some ⟨ob,0,none⟩) 2 2),(26,iv 2),(27,iv (i:Int))])
   (fun k i H'=>i+k=2∧Zk H H' []∧Cl H' ob [.slice sa n cap,.slice (some ⟨x1,0,none⟩) 1 1]∧Cl H' x1 [iv x.d,iv x.wl,iv x.wh,iv x.cl,iv x.ch]∧Sl H' sa n cap (dcc ds)∧bb < H'.next∧H'.t.get bb=some (.cells (ccF n ds x i) 52 true)) 2 0 ⟨by omega,hk,co,cx,hs,hbn,hg⟩ ⟨rfl,rfl,rfl,rfl,trivial⟩ ?_
  rintro k i L2 ⟨hik,hk,co,cx,hs,hbn,hg⟩
  have mk:=hk.1
  refine Zc<|Zx (a:=(i:Int)) (b:=2) rfl rfl<|Zb ?_
  refine And.intro (fun q4=>?_) (fun q4=>?_)
  ·have q4:(i:Int) < 2:=of_decide_eq_true q4
   obtain rfl | rfl:i=0∨i=1:=by omega
   ·first | refine Zj ?_ | skip
    refine Zc<|YS (b:=ob) (o:=0) (k:=0) (j:=0) rfl rfl rfl (by omega)<|ZP (b:=ob) (o:=0+0 * 1) (v:=.slice sa n cap) rfl co.rd rfl<|Za rfl<|Zb ?_
    show Zn _ _ _ _ _ _ _ _
    refine Za rfl<|Za rfl ?_
    obtain ⟨H2,kdH2,eH2,dH2,hg,kH2,nH2⟩:=Vi (lo:=lo) (m:=0) (N:=n+1) hg (by omega) (by omega) (jt _) hs (by rw [jf,hl]) qU (by omega) (by omega)
    refine ZN (k:=kdH2) rfl (by kernel_rfl) (eH2 _ _ _ _ _ _ _ rfl rfl) dH2 ?_
    have hk:=hk.new kH2 (fun b hb=>by simp at hb ⊢;omega)
    have co:=kH2.cl co (by simp;omega)
    have cx:=kH2.cl cx (by simp;omega)
    have hs:=kH2.sl hs (fun b e=>by have:=fs b e;simp;omega)
    refine Za rfl<|Zb ?_
    show Zn _ _ _ _ _ _ _ _
    refine Zo (a:=0) (b:=1) rfl rfl ⟨by omega,by omega⟩<|Za rfl<|Zb ?_
    exact ⟨k - 1,1,by omega,⟨by omega,hk,co,cx,hs,by omega,hg⟩,by show some (Value.slice _ (0+n) _)=_;rw [Nat.zero_add];rfl,rfl,rfl,ivq (by omega),trivial⟩
   ·first | refine Zj ?_ | skip
    refine Zc<|YS (b:=ob) (o:=0) (k:=1) (j:=1) rfl rfl rfl (by omega)<|ZP (b:=ob) (o:=0+1 * 1) (v:=.slice (some ⟨x1,0,none⟩) 1 1) rfl co.rd rfl<|Za rfl<|Zb ?_
    show Zn _ _ _ _ _ _ _ _
    refine Za rfl<|Za rfl ?_
    obtain ⟨H3,kdH3,eH3,dH3,hg,kH3,nH3⟩:=Vi (lo:=lo) (m:=n) (N:=n+1) hg (by omega) (by omega) (jt _) (cx.sl (Nat.le_refl 1)) rfl rfl (by omega) (by omega)
    refine ZN (k:=kdH3) rfl (by kernel_rfl) (eH3 _ _ _ _ _ _ _ rfl rfl) dH3 ?_
    have hk:=hk.new kH3 (fun b hb=>by simp at hb ⊢;omega)
    have co:=kH3.cl co (by simp;omega)
    have cx:=kH3.cl cx (by simp;omega)
    have hs:=kH3.sl hs (fun b e=>by have:=fs b e;simp;omega)
    refine Za rfl<|Zb ?_
    show Zn _ _ _ _ _ _ _ _
    refine Zo (a:=1) (b:=1) rfl rfl ⟨by omega,by omega⟩<|Za rfl<|Zb ?_
    exact ⟨k - 1,2,by omega,⟨by omega,hk,co,cx,hs,by omega,hg⟩,rfl,rfl,rfl,ivq (by omega),trivial⟩
  ·have q4:¬ ((i:Int) < 2):=of_decide_eq_false q4
   obtain rfl:i=2:=by omega
   first | (refine Zy ?_;show wC _ _ _ _ _ _ _ _ _) | skip
   refine Zc<|Za rfl<|Za rfl<|Zb ?_
   exact And.intro trivial (Exists.intro _ (And.intro rfl ⟨bb,rfl,hk,⟨hbn,by unfold cellsOf;rw [hg,Zcy hl]⟩,by omega⟩))
set_option maxRecDepth 100000 in
set_option maxHeartbeats 1000000 in
theorem Zat {ds:List Dc} {sa:Option Addr} {n cap:Nat} (hs:Sl H sa n cap (dcc ds)) (hl:ds.length=n) (hn:n≤1000000) (hlo:lo≤H.next) (h35:kn.b 35=none) {days limit day:Int}:∃ H',FnX Try.prog kn lo 14 [.slice sa n cap,iv days,iv limit,iv day] H (.tuple #[iv (alT ds days limit day).1,iv (alT ds days limit day).2]) H'∧Zk H H' []:=by
 have key:=Zp (kn:=kn) (lo:=lo) (H:=H) (args:=[.slice sa n cap,iv days,iv limit,iv day]) (Q:=fun w H'=>w=(.tuple #[iv (alT ds days limit day).1,iv (alT ds days limit day).2])∧Zk H H' []) Try.func14 B14 N14 Z14 L14 (by simp) ?_
 ·obtain ⟨w,H',h,rfl,q⟩:=key;exact ⟨H',h,q⟩
 have hk:=Zk.refl H []
 have fs:=hs.old
 refine Zc<|Za rfl<|Za rfl<|Zb<|Zc<|Za rfl<|ZD rfl (ZcT hs hl hn (by omega)) ?_
 intro tH1 H1 hH1 kH1
 have mH1:=kH1.1
 have hk:=hk.trans kH1
 have hs:=kH1.sl0 hs
 cases tH1
 ·have hvd:vD ds=false:=hH1
  refine Zd (v:=.bool true) rfl rfl<|Zb<|ZK<|Zc<|Za rfl<|Za rfl<|Zb ?_
  exact And.intro trivial (Exists.intro _ (And.intro rfl ⟨U6 (Zen hvd),hk⟩))
 ·have hvd:vD ds=true:=hH1
  obtain ⟨hl64,hany⟩:=Zea hvd
  have hbd:=QU hany
  refine Zd (v:=.bool false) rfl rfl<|Zb<|ZQ ?_
  first | refine Zj ?_ | skip
  refine Zc<|Za rfl<|ZD rfl (zb) ?_
  intro tH2 H2 hH2 kH2
  have mH2:=kH2.1
  have hk:=hk.trans kH2
  have hs:=kH2.sl0 hs
  cases tH2
  ·have thH2:inB days 1 366=false:=hH2
   have uhH2:=Wn thH2
   refine Zd (v:=.bool true) rfl rfl<|Za rfl<|Zh rfl<|Zh rfl<|Zh rfl<|Zd (v:=.bool true) rfl rfl<|Za rfl<|Zh rfl<|Zh rfl<|Zh rfl<|Zd (v:=.bool true) rfl rfl<|Zb<|ZK<|Zc<|Za rfl<|Za rfl<|Zb ?_
   exact And.intro trivial (Exists.intro _ (And.intro rfl ⟨U6 (Zaw hvd (by first | exact .inl (by assumption) | exact .inr (.inl (by assumption)) | exact .inr (.inr (by assumption)))),hk⟩))
  ·have thH2:inB days 1 366=true:=hH2
   have uhH2:=Y5 thH2
   refine Zd (v:=.bool false) rfl rfl<|Za rfl ?_
   refine Zl rfl (Za rfl ?_)
   refine Zl rfl (ZD rfl (XH) ?_)
   intro tH3 H3 hH3 kH3
   have mH3:=kH3.1
   have hk:=hk.trans kH3
   have hs:=kH3.sl0 hs
   cases tH3
   ·have thH3:inB limit 0 72057594037927936=false:=hH3
    have uhH3:=Wn thH3
    refine Zl rfl (Zd (v:=.bool true) rfl rfl ?_)
    refine Zd (v:=.bool true) rfl rfl<|Za rfl<|Zh rfl<|Zh rfl<|Zh rfl<|Zd (v:=.bool true) rfl rfl<|Zb<|ZK<|Zc<|Za rfl<|Za rfl<|Zb ?_
    exact And.intro trivial (Exists.intro _ (And.intro rfl ⟨U6 (Zaw hvd (by first | exact .inl (by assumption) | exact .inr (.inl (by assumption)) | exact .inr (.inr (by assumption)))),hk⟩))
   ·have thH3:inB limit 0 72057594037927936=true:=hH3
    have uhH3:=Y5 thH3
    refine Zl rfl (Zd (v:=.bool false) rfl rfl ?_)
    refine Zd (v:=.bool false) rfl rfl<|Za rfl ?_
    refine Zl rfl (Za rfl ?_)
    refine Zl rfl (ZD rfl (XH) ?_)
    intro tH4 H4 hH4 kH4
    have mH4:=kH4.1
    have hk:=hk.trans kH4
    have hs:=kH4.sl0 hs
    cases tH4
    ·have thH4:inB day 0 16384=false:=hH4
     have uhH4:=Wn thH4
     refine Zl rfl (Zd (v:=.bool true) rfl rfl ?_)
     refine Zd (v:=.bool true) rfl rfl<|Zb<|ZK<|Zc<|Za rfl<|Za rfl<|Zb ?_
     exact And.intro trivial (Exists.intro _ (And.intro rfl ⟨U6 (Zaw hvd (by first | exact .inl (by assumption) | exact .inr (.inl (by assumption)) | exact .inr (.inr (by assumption)))),hk⟩))
    ·have thH4:inB day 0 16384=true:=hH4
     have uhH4:=Y5 thH4
     refine Zl rfl (Zd (v:=.bool false) rfl rfl ?_)
     refine Zd (v:=.bool false) rfl rfl<|Zb<|ZQ ?_
     first | refine Zj ?_ | skip
     refine Zc<|Za rfl<|Za rfl<|Zd (v:=.agg #[iv day,iv 0,iv 0,iv 0,iv 0]) rfl (by kernel_rfl) ?_
     obtain ⟨H5,hH5⟩:∃ H5,H4.new (.cells [iv day,iv 0,iv 0,iv 0,iv 0] 52 false)=H5:=⟨_,rfl⟩
     refine ZN (H':=H5) (k:=.heavy) rfl (by kernel_rfl) ((YE (v:=.agg #[iv day,iv 0,iv 0,iv 0,iv 0]) Zas Zdh rfl rfl rfl (by decide)).trans (by rw [← hH5];rfl)) (fun b e=>by cases e) ?_
     obtain ⟨kH5,nH5,c5⟩:=Z2 hH5;clear hH5
     have c5:Cl H5 H4.next [iv day,iv 0,iv 0,iv 0,iv 0]:=c5
     have mH5:=kH5.1
     have hk:=hk.trans kH5
     have hs:=kH5.sl0 hs
     obtain ⟨H6,hH6⟩:∃ H6,H5.new (.cells [.slice sa n cap,.slice (some ⟨H4.next,0,none⟩) 1 1] 22 false)=H6:=⟨_,rfl⟩
     refine ZN (H':=H6) (k:=.heavy) rfl (by kernel_rfl) ((ZaL (a:=sa) (m:=n) (c:=cap) (a2:=some ⟨H4.next,0,none⟩) (m2:=1) (c2:=1) rfl rfl).trans (by rw [← hH6])) (fun b e=>by cases e) ?_
     obtain ⟨kH6,nH6,c6⟩:=Z2 hH6;clear hH6
     have c6:Cl H6 H5.next [.slice sa n cap,.slice (some ⟨H4.next,0,none⟩) 1 1]:=c6
     have mH6:=kH6.1
     have hk:=hk.trans kH6
     have hs:=kH6.sl0 hs
     have c5:=kH6.cl c5 (by simp)
     obtain ⟨nb,H7,fH7,kH7,hnb,hnl⟩:=jX (kn:=kn) (lo:=lo) (H:=H6) (x:=⟨day,0,0,0,0⟩) c6 c5 hs hl (by omega) (by omega)
     refine Zi (vs:=[.slice (some ⟨H5.next,0,none⟩) 2 2]) rfl (Ze fH7) ?_
     have mH7:=kH7.1
     have hk:=hk.trans kH7
     have hs:=kH7.sl0 hs
     have c5:=kH7.cl c5 (by simp)
     have c6:=kH7.cl c6 (by simp)
     have hs2:Sl H7 (some ⟨nb,0,none⟩) (n+1) (n+1) (dcc (ds ++ [⟨day,0,0,0,0⟩])):=.inr ⟨nb,rfl,hnb,Nat.le_refl _⟩
     have hbd2:∀ d,d∈ds ++ [(⟨day,0,0,0,0⟩:Dc)]→Xo d=false:=fun d hd=>by rcases List.mem_append.1 hd with q | q;exact hbd d q;rw [List.mem_singleton] at q;subst q;simp [Xo,inB,spB];omega
     have fs2:∀ b,some (⟨nb,0,none⟩:Addr)=some ⟨b,0,none⟩→b < H7.next:=hs2.old
     refine Za rfl<|Zb<|Zc ?_
     obtain ⟨H8,fH8,kH8⟩:=QK (kn:=kn) (lo:=lo) (H:=H7)
     refine Zi (vs:=[]) rfl (ZF h35 fH8) ?_
     have mH8:=kH8.1
     have hk:=hk.trans kH8
     have hs:=kH8.sl0 hs
     have c5:=kH8.cl c5 (by simp)
     have c6:=kH8.cl c6 (by simp)
     have hs2:=kH8.sl0 hs2
     refine Za rfl<|Zd (v:=.func (.func 57) #[] #[]) rfl (by kernel_rfl)<|Zd (v:=.func (.func 58) #[] #[]) rfl (by kernel_rfl)<|Za rfl<|Za rfl<|Zb<|Zc<|Za rfl<|Za rfl ?_
     obtain ⟨aH9,cH9,qsH9,H9,fH9,kH9,hsH9,hpH9,hoH9,hbH9⟩:=WE (kn:=kn) (lo:=lo) (H:=H8) hs2 (by rw [List.length_append,hl];rfl) (by omega) hbd2 (by omega) ZaB
     refine Zi (vs:=[.slice (some ⟨nb,0,none⟩) (n+1) (n+1),.func (.func 58) #[] #[]]) rfl (Ze fH9) ?_
     have mH9:=kH9.1
     have hk:=hk.trans kH9
     have hs:=kH9.sl0 hs
     have c5:=kH9.cl c5 (by simp)
     have c6:=kH9.cl c6 (by simp)
     have hs2:=kH9.sl0 hs2
     have fsH9:=hsH9.old;have hnH9:qsH9.length=n+1:=by rw [hpH9.length_eq,Wf,List.length_append,hl];rfl
     have hvH9:Vl qsH9:=(jh qx hbd2).sub fun p hp=>hpH9.subset hp
     have hyH9:Dy qsH9:=(JH hbd2 (g:=gHi)).sub fun p hp=>hpH9.subset hp
     have hpp:prt gHi (ds ++ [(⟨day,0,0,0,0⟩:Dc)])=prt gHi ds ++ [⟨day,0⟩]:=by unfold prt;rw [List.map_append];rfl
     refine Za rfl<|Za rfl ?_
     obtain ⟨rH10,H10,fH10,kH10,hFH10⟩:=QA (kn:=kn) (lo:=lo) (H:=H9) hsH9 hnH9 (by omega) hvH9 hyH9 (days:=days) (by omega) (by omega) (day:=day) (by omega)
     refine Zi (vs:=[.slice aH9 (n+1) cH9,iv days,iv day]) rfl (Ze fH10) ?_
     have mH10:=kH10.1
     have hk:=hk.trans kH10
     have hs:=kH10.sl0 hs
     have c5:=kH10.cl c5 (by simp)
     have c6:=kH10.cl c6 (by simp)
     have hs2:=kH10.sl0 hs2
     have hsH9:=kH10.sl0 hsH9
     rw [hpp] at hpH9;rw [← hnH9,Zdk (l:=prt gHi ds) (n:=days.toNat) hpH9 hoH9 (by omega) (by omega) (fun p hp=>(hvH9 p hp).1)] at hFH10;subst hFH10;have hgx:=Zdu (days:=days) (day:=day) (k:=days.toNat) hbd (by omega)
     refine Za rfl<|Zb<|Zc<|Za rfl<|Za rfl<|Y2 (a:=(gmx (prt gHi ds) days day days.toNat)) (b:=limit) rfl rfl<|Zb ?_
     refine And.intro (fun q1=>?_) (fun q1=>?_)
     ·have q1:(gmx (prt gHi ds) days day days.toNat) > limit:=of_decide_eq_true q1
      refine Zc<|Za rfl<|Za rfl<|Zb ?_
      exact And.intro trivial (Exists.intro _ (And.intro rfl ⟨U6 (ZdM hvd (by assumption) (by assumption) (by assumption) (by omega)),hk⟩))
     ·have q1:¬ ((gmx (prt gHi ds) days day days.toNat) > limit):=of_decide_eq_false q1
      first | refine Zj ?_ | skip
      refine Zc<|Za rfl<|Za rfl<|Yl (a:=limit) (b:=(gmx (prt gHi ds) days day days.toNat)) rfl rfl ⟨by omega,by omega⟩<|Za rfl<|Za rfl<|Zb ?_
      exact And.intro trivial (Exists.intro _ (And.intro rfl ⟨U6 (Zd9 hvd (by assumption) (by assumption) (by assumption) (by omega)),hk⟩))
end
end
end Go.Ax

/-! The array of the days that are closed. -/
namespace Go.Ax
open Go Go.RowKit Go.Proofs
def isF:Value→Bool | .bool false=>true | _=>false
theorem zP:qB.length=16385:=by kernel_rfl
theorem ZbA:qB.all isF=true:=by kernel_rfl
theorem Zbh {i:Nat} (h:i < 16385):qB[i]? = some (.bool false):=by
 have hi:i < qB.length:=by rw [zP];exact h
 rw [List.getElem?_eq_getElem hi]
 have:=List.all_eq_true.1 ZbA _ (List.getElem_mem hi)
 revert this
 cases qB[i] with
 | bool b=>cases b<;>simp [isF]
 | _=>simp [isF]
def cB (n:Nat) (g:Nat→Bool):List Value:=(List.range n).map fun k=>.bool (g k)
theorem Zbl {n:Nat} {g:Nat→Bool}:(cB n g).length=n:=by simp [cB]
theorem Zc1 {n k:Nat} {g:Nat→Bool} (h:k < n):(cB n g)[0+k * 1]? = some (.bool (g k)):=by
 rw [Nat.mul_one,Nat.zero_add];simp [cB,h]
def qw (g:Nat→Bool) (k:Nat):Nat→Bool:=fun j=>if j=k then true else g j
theorem ZdL {n k:Nat} {g:Nat→Bool} (h:k < n):(cB n g).set (0+k * 1) (.bool true)=cB n (qw g k):=by
 rw [Nat.mul_one,Nat.zero_add]
 refine List.ext_getElem? fun i=>?_
 rw [List.getElem?_set]
 unfold cB qw
 by_cases e:k=i
 ·subst e;simp [h]
 ·have e2:¬ i=k:=fun q=>e q.symm
  simp only [e,if_false,List.getElem?_map]
  rcases Nat.lt_or_ge i n with q | q
  ·simp [List.getElem?_range,q,e2]
  ·simp [List.getElem?_eq_none,q]
theorem Zcg:qB=cB 16385 fun _=>false:=by
 refine List.ext_getElem? fun i=>?_
 rcases Nat.lt_or_ge i 16385 with q | q
 ·rw [Zbh q]
  have:=Zc1 (n:=16385) (g:=fun _=>false) q
  rw [Nat.mul_one,Nat.zero_add] at this
  exact this.symm
 ·rw [List.getElem?_eq_none (by rw [zP];exact q),List.getElem?_eq_none (by rw [Zbl];exact q)]
end Go.Ax


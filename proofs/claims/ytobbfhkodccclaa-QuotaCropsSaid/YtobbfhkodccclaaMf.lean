import Derived.Test.YtobbfhkodccclaaMe
set_option linter.all false
/-
 Pool: sorting that keeps the order: merging in place (written by program).
-/
namespace Go.Ax
open Go Go.RowKit Go.Proofs

noncomputable section
noncomputable def R97v:RC:=(.seq (.seq (.reg [oM 25 2,oM 26 1,oS 27 .sub 25 26,oQ 28 .eql 27 1])
 (.cond (.tmp 28) (.seq (.reg [oM 29 2,oM 10 29])
 (.seq (.reg [oM 30 3,oM 11 30])
 (.seq (.block 0 (.other (at_ Try.f97 [0,1,0,1,1,0,0])))
 (.seq (.seq (.reg [oM 54 1,oM 13 54])
 (.block 2 (.other (at_ Try.f97 [0,1,0,1,1,1,0,1,0]))))
 .ret))))
 .skip))
 (.seq (.seq (.reg [oM 77 3,oM 78 2,oS 79 .sub 77 78,oQ 80 .eql 79 1])
 (.cond (.tmp 80) (.seq (.reg [oM 81 1,oM 14 81])
 (.seq (.reg [oM 82 2,oM 15 82])
 (.seq (.block 4 (.other (at_ Try.f97 [1,0,1,0,1,1,0,0])))
 (.seq (.seq (.reg [oM 107 2,oM 17 107])
 (.block 6 (.other (at_ Try.f97 [1,0,1,0,1,1,1,0,1,0]))))
 .ret))))
 .skip))
 (.seq (.reg [oM 129 1, oM 130 3, oS 131 .add 129 130, ⟨some 132, none, (.pur ⟨some 132, (.convert 3 109 (.tmp 131)), 109, "", #[], none⟩)⟩, ⟨some 133, none, (.pur ⟨some 133, (.binOp .shr 109 (.tmp 132) (.const (.int .u64 1)) 109), 109, "", #[], none⟩)⟩, ⟨some 134, none, (.pur ⟨some 134, (.convert 109 3 (.tmp 133)), 3, "", #[], none⟩)⟩, oM 18 134])
 (.seq (.reg [oM 135 18,oM 136 2,oS 137 .add 135 136,oM 19 137])
 (.seq (.reg [oN 20 0,oN 21 0])
 (.seq (.seq (.reg [oM 138 2,oM 139 18,⟨some 140,none,(.cmp .gtr (.tmp 138) (.tmp 139))⟩])
 (.cond (.tmp 140) (.seq (.reg [oM 141 19,oM 142 3,oS 143 .sub 141 142,oM 20 143])
 (.reg [oM 144 18,oM 21 144]))
 (.seq (.reg [oM 145 1,oM 20 145])
 (.reg [oM 146 2,oM 21 146]))))
 (.other (at_ Try.f97 [1,1,1,1,1,1]))))))))
theorem V97:LV Try.prog 220 (at_ Try.f97 []) R97v:=by
 have e:at_ Try.f97 []=(.seq (at_ Try.f97 [0]) (.seq (at_ Try.f97 [1,0]) (.seq (at_ Try.f97 [1,1,0]) (.seq (at_ Try.f97 [1,1,1,0]) (.seq (at_ Try.f97 [1,1,1,1,0]) (.seq (at_ Try.f97 [1,1,1,1,1,0]) (at_ Try.f97 [1,1,1,1,1,1]))))))):=by kernel_rfl
 rw [e]
 exact (.seq (.low (by kernel_rfl)) (.seq (.low (by kernel_rfl)) (.seq (.low (by kernel_rfl)) (.seq (.low (by kernel_rfl)) (.seq (.low (by kernel_rfl)) (.seq (.low (by kernel_rfl)) (.other _)))))))
noncomputable def R97Gv:RC:=(.seq (.reg [oM 147 19,oR 148 .sub 147 1,oM 22 148])
 (.seq (.block 8 (.other (at_ Try.f97 [1,1,1,1,1,1,1,0,0])))
 (.seq (.reg [oM 175 19,oM 176 20,oS 177 .sub 175 176,oM 24 177])
 (.seq (.other (at_ Try.f97 [1,1,1,1,1,1,1,1,1,0]))
 (.seq (.other (at_ Try.f97 [1,1,1,1,1,1,1,1,1,1,0]))
 (.other (at_ Try.f97 [1,1,1,1,1,1,1,1,1,1,1])))))))
theorem ZjI:LV Try.prog 220 (at_ Try.f97 [1,1,1,1,1,1]) R97Gv:=by
 have e:at_ Try.f97 [1,1,1,1,1,1]=(.seq (at_ Try.f97 [1,1,1,1,1,1,0]) (.seq (at_ Try.f97 [1,1,1,1,1,1,1,0]) (.seq (at_ Try.f97 [1,1,1,1,1,1,1,1,0]) (.seq (at_ Try.f97 [1,1,1,1,1,1,1,1,1,0]) (.seq (at_ Try.f97 [1,1,1,1,1,1,1,1,1,1,0]) (at_ Try.f97 [1,1,1,1,1,1,1,1,1,1,1])))))):=by kernel_rfl
 rw [e]
 exact (.seq (.low (by kernel_rfl)) (.seq (.low (by kernel_rfl)) (.seq (.low (by kernel_rfl)) (.seq (.other _) (.seq (.other _) (.other _))))))
noncomputable def R97A:RC:=(.seq (.reg [oM 178 20,oM 179 2,⟨some 180,none,(.cmpb .lss (.tmp 178) (.tmp 179))⟩,oM 181 180,oG 182 181 true 2,oG 183 181 true 24,⟨some 184,(some (181,true)),(.cmpb .lss (.tmp 182) (.tmp 183))⟩,oA 185 181 184])
 (.cond (.tmp 185) (.reg [oM 186 0,oM 187 20,oM 188 2,oM 189 24,oM 190 4,oC 191 104 #[(.tmp 186),(.tmp 187),(.tmp 188),(.tmp 189),(.tmp 190)] #[67,3,3,3,106]])
 .skip))
theorem Zj1:low Try.prog 220 (at_ Try.f97 [1,1,1,1,1,1,1,1,1,0])=some R97A:=by kernel_rfl
noncomputable def R97B:RC:=(.seq (.reg [oM 192 1,oM 193 20,⟨some 194,none,(.cmpb .lss (.tmp 192) (.tmp 193))⟩,oM 195 194,oG 196 195 true 20,oG 197 195 true 18,⟨some 198,(some (195,true)),(.cmpb .lss (.tmp 196) (.tmp 197))⟩,oA 199 195 198])
 (.cond (.tmp 199) (.reg [oM 200 0,oM 201 1,oM 202 20,oM 203 18,oM 204 4,oC 205 97 #[(.tmp 200),(.tmp 201),(.tmp 202),(.tmp 203),(.tmp 204)] #[67,3,3,3,106]])
 .skip))
theorem ZjN:low Try.prog 220 (at_ Try.f97 [1,1,1,1,1,1,1,1,1,1,0])=some R97B:=by kernel_rfl
noncomputable def R97C:RC:=(.seq (.reg [oM 206 18,oM 207 24,⟨some 208,none,(.cmpb .lss (.tmp 206) (.tmp 207))⟩,oM 209 208,oG 210 209 true 24,oG 211 209 true 3,⟨some 212,(some (209,true)),(.cmpb .lss (.tmp 210) (.tmp 211))⟩,oA 213 209 212])
 (.cond (.tmp 213) (.reg [oM 214 0,oM 215 18,oM 216 24,oM 217 3,oM 218 4,oC 219 97 #[(.tmp 214),(.tmp 215),(.tmp 216),(.tmp 217),(.tmp 218)] #[67,3,3,3,106]])
 .skip))
theorem Zkk:low Try.prog 220 (at_ Try.f97 [1,1,1,1,1,1,1,1,1,1,1])=some R97C:=by kernel_rfl
section
variable {kn:Kn} {lo:Nat} {H:Hp}
set_option maxRecDepth 100000 in
set_option maxHeartbeats 2000000 in
theorem ZhN {bd cap n:Nat} {g:Nat→Nat} {v:Nat→Int} {Hr:Hp} (hlb:lo≤bd) (hn:n≤1000000) (hlo:lo≤Hr.next) (hk:KT bd Hr H) (hc:Cl H bd (cG (fun x=>[iv (v x)]) n g)) {fc:FuncId} {caps:Array Value} {a m b mid s e:Nat} (hsm:s≤m) (hme:m≤e) (heb:e≤n) {S:Rg} {K:Exit→Rg→Hp→Prop} (hS:WM [(0,.slice (some ⟨bd,0,none⟩) n cap),(1,iv (a:Int)),(2,iv (m:Int)),(3,iv (b:Int)),(4,.func (.func fc) #[] caps),(18,iv (mid:Int)),(20,iv (s:Int)),(24,iv (e:Int))] S) (hN:∀ H' S',PRm s e g (rot g s m e)→KT bd Hr H'→Cl H' bd (cG (fun x=>[iv (v x)]) n (rot g s m e))→WM [(0,.slice (some ⟨bd,0,none⟩) n cap),(1,iv (a:Int)),(2,iv (m:Int)),(3,iv (b:Int)),(4,.func (.func fc) #[] caps),(18,iv (mid:Int)),(20,iv (s:Int)),(24,iv (e:Int))] S'→K .normal S' H'):Tri Try.prog kn lo 220 false (at_ Try.f97 [1,1,1,1,1,1,1,1,1,0]) S H K:=by
 refine W2 Zj1 hS ?_
 refine Zc<|Za rfl<|Za rfl<|Xi (a:=(s:Int)) (b:=(m:Int)) rfl rfl ?_
 intro t1 g1;cases t1
 ·have g1:¬ ((s:Int) < (m:Int)):=of_decide_eq_false g1
  refine Za rfl<|Zp rfl<|Zp rfl<|Zp rfl<|Zg (v:=.bool false) rfl rfl<|Zb<|ZQ ?_
  first | refine Zl ?_ | skip
  have er:=Jq (g:=g) (s:=s) (m:=m) (e:=e) (by omega) (by omega) (by omega)
  exact hN _ _ (by rw [er];exact PRm.refl _ _ _) hk (by rw [er];exact hc) ⟨rfl,rfl,rfl,rfl,rfl,rfl,rfl,rfl,trivial⟩
 ·have g1:(s:Int) < (m:Int):=of_decide_eq_true g1
  refine Za rfl ?_
  refine ZK rfl (Za rfl ?_)
  refine ZK rfl (Za rfl ?_)
  refine ZK rfl (Xi (a:=(m:Int)) (b:=(e:Int)) rfl rfl ?_)
  intro t2 g2;cases t2
  ·have g2:¬ ((m:Int) < (e:Int)):=of_decide_eq_false g2
   refine Zg (v:=.bool false) rfl rfl<|Zb<|ZQ ?_
   first | refine Zl ?_ | skip
   have er:=Jq (g:=g) (s:=s) (m:=m) (e:=e) (by omega) (by omega) (by omega)
   exact hN _ _ (by rw [er];exact PRm.refl _ _ _) hk (by rw [er];exact hc) ⟨rfl,rfl,rfl,rfl,rfl,rfl,rfl,rfl,trivial⟩
  ·have g2:(m:Int) < (e:Int):=of_decide_eq_true g2
   refine Zg (v:=.bool true) rfl rfl<|Zb<|YN ?_
   show Zq _ _ _ _ _ _ _ _
   refine Za rfl<|Za rfl<|Za rfl<|Za rfl<|Za rfl ?_
   obtain ⟨H1,fH1,pH1,kH1,cH1⟩:=Zfx (kn:=kn) (lo:=lo) (H:=H) (by have:=hk.1;omega) hlb hn (cap:=cap) hc (cv:=.func (.func fc) #[] caps) (a:=s) (m:=m) (b:=e) (by omega) (by omega) (by omega)
   refine Zx (vs:=[.slice (some ⟨bd,0,none⟩) n cap,iv (s:Int),iv (m:Int),iv (e:Int),.func (.func fc) #[] caps]) rfl (Zi fH1) ?_
   have mH1:=kH1.1
   have hk:=hk.trans kH1
   have hc:=cH1
   refine Zb ?_
   exact hN _ _ pH1 hk hc ⟨rfl,rfl,rfl,rfl,rfl,rfl,rfl,rfl,trivial⟩
set_option maxRecDepth 100000 in
set_option maxHeartbeats 2000000 in
theorem Zjp {bd cap n:Nat} {g:Nat→Nat} {v:Nat→Int} {Hr:Hp} (hlb:lo≤bd) (hn:n≤1000000) (hlo:lo≤Hr.next) (hk:KT bd Hr H) (hc:Cl H bd (cG (fun x=>[iv (v x)]) n g)) {fc:FuncId} {caps:Array Value} {M a m b mid s e:Nat} {key:Nat→Int} (ih:∀ (H1:Hp) (a m b:Nat) (g:Nat→Nat),KT bd Hr H1→a < m→m < b→b≤n→b - a < M→(∀ k,k < n→g k < n)→So key a m g→So key m b g→Cr a m b g→Cl H1 bd (cG (fun x=>[iv (v x)]) n g)→∃ H' g',FnX Try.prog kn lo 97 [.slice (some ⟨bd,0,none⟩) n cap,iv (a:Int),iv (m:Int),iv (b:Int),.func (.func fc) #[] caps] H1 (.tuple #[]) H'∧PRm a b g g'∧So key a b g'∧KT bd H1 H'∧Cl H' bd (cG (fun x=>[iv (v x)]) n g')) (h1:a≤s) (h2:s≤mid) (hz:mid≤n) (hM:mid - a < M) (hd:∀ k,k < n→g k < n) (hp1:So key a s g) (hp2:So key s mid g) (hcr:Cr a s mid g) {S:Rg} {K:Exit→Rg→Hp→Prop} (hS:WM [(0,.slice (some ⟨bd,0,none⟩) n cap),(1,iv (a:Int)),(2,iv (m:Int)),(3,iv (b:Int)),(4,.func (.func fc) #[] caps),(18,iv (mid:Int)),(20,iv (s:Int)),(24,iv (e:Int))] S) (hN:∀ H' S' g',PRm a mid g g'→So key a mid g'→KT bd Hr H'→Cl H' bd (cG (fun x=>[iv (v x)]) n g')→WM [(0,.slice (some ⟨bd,0,none⟩) n cap),(1,iv (a:Int)),(2,iv (m:Int)),(3,iv (b:Int)),(4,.func (.func fc) #[] caps),(18,iv (mid:Int)),(20,iv (s:Int)),(24,iv (e:Int))] S'→K .normal S' H'):Tri Try.prog kn lo 220 false (at_ Try.f97 [1,1,1,1,1,1,1,1,1,1,0]) S H K:=by
 refine W2 ZjN hS ?_
 refine Zc<|Za rfl<|Za rfl<|Xi (a:=(a:Int)) (b:=(s:Int)) rfl rfl ?_
 intro t1 g1;cases t1
 ·have g1:¬ ((a:Int) < (s:Int)):=of_decide_eq_false g1
  refine Za rfl<|Zp rfl<|Zp rfl<|Zp rfl<|Zg (v:=.bool false) rfl rfl<|Zb<|ZQ ?_
  first | refine Zl ?_ | skip
  exact hN _ _ g (PRm.refl _ _ _) (by rcases Nat.lt_or_ge a s with c | c;exact hp1.mono (Nat.le_refl _) (by omega);exact hp2.mono (by omega) (Nat.le_refl _)) hk hc ⟨rfl,rfl,rfl,rfl,rfl,rfl,rfl,rfl,trivial⟩
 ·have g1:(a:Int) < (s:Int):=of_decide_eq_true g1
  refine Za rfl ?_
  refine ZK rfl (Za rfl ?_)
  refine ZK rfl (Za rfl ?_)
  refine ZK rfl (Xi (a:=(s:Int)) (b:=(mid:Int)) rfl rfl ?_)
  intro t2 g2;cases t2
  ·have g2:¬ ((s:Int) < (mid:Int)):=of_decide_eq_false g2
   refine Zg (v:=.bool false) rfl rfl<|Zb<|ZQ ?_
   first | refine Zl ?_ | skip
   exact hN _ _ g (PRm.refl _ _ _) (by rcases Nat.lt_or_ge a s with c | c;exact hp1.mono (Nat.le_refl _) (by omega);exact hp2.mono (by omega) (Nat.le_refl _)) hk hc ⟨rfl,rfl,rfl,rfl,rfl,rfl,rfl,rfl,trivial⟩
  ·have g2:(s:Int) < (mid:Int):=of_decide_eq_true g2
   refine Zg (v:=.bool true) rfl rfl<|Zb<|YN ?_
   show Zq _ _ _ _ _ _ _ _
   refine Za rfl<|Za rfl<|Za rfl<|Za rfl<|Za rfl ?_
   obtain ⟨H1,gH1,fH1,pH1,sH1,kH1,cH1⟩:=ih H a s mid g hk (by omega) (by omega) (by omega) (by omega) hd hp1 hp2 hcr hc
   refine Zx (vs:=[.slice (some ⟨bd,0,none⟩) n cap,iv (a:Int),iv (s:Int),iv (mid:Int),.func (.func fc) #[] caps]) rfl (Zi fH1) ?_
   have mH1:=kH1.1
   have hk:=hk.trans kH1
   have hc:=cH1
   refine Zb ?_
   exact hN _ _ _ pH1 sH1 hk hc ⟨rfl,rfl,rfl,rfl,rfl,rfl,rfl,rfl,trivial⟩
set_option maxRecDepth 100000 in
set_option maxHeartbeats 2000000 in
theorem Zi5 {bd cap n:Nat} {g:Nat→Nat} {v:Nat→Int} {Hr:Hp} (hlb:lo≤bd) (hn:n≤1000000) (hlo:lo≤Hr.next) (hk:KT bd Hr H) (hc:Cl H bd (cG (fun x=>[iv (v x)]) n g)) {fc:FuncId} {caps:Array Value} {M a m b mid s e:Nat} {key:Nat→Int} (ih:∀ (H1:Hp) (a m b:Nat) (g:Nat→Nat),KT bd Hr H1→a < m→m < b→b≤n→b - a < M→(∀ k,k < n→g k < n)→So key a m g→So key m b g→Cr a m b g→Cl H1 bd (cG (fun x=>[iv (v x)]) n g)→∃ H' g',FnX Try.prog kn lo 97 [.slice (some ⟨bd,0,none⟩) n cap,iv (a:Int),iv (m:Int),iv (b:Int),.func (.func fc) #[] caps] H1 (.tuple #[]) H'∧PRm a b g g'∧So key a b g'∧KT bd H1 H'∧Cl H' bd (cG (fun x=>[iv (v x)]) n g')) (h1:mid≤e) (h2:e≤b) (hz:b≤n) (hM:b - mid < M) (hd:∀ k,k < n→g k < n) (hp1:So key mid e g) (hp2:So key e b g) (hcr:Cr mid e b g) {S:Rg} {K:Exit→Rg→Hp→Prop} (hS:WM [(0,.slice (some ⟨bd,0,none⟩) n cap),(1,iv (a:Int)),(2,iv (m:Int)),(3,iv (b:Int)),(4,.func (.func fc) #[] caps),(18,iv (mid:Int)),(20,iv (s:Int)),(24,iv (e:Int))] S) (hN:∀ H' S' g',PRm mid b g g'→So key mid b g'→KT bd Hr H'→Cl H' bd (cG (fun x=>[iv (v x)]) n g')→WM [(0,.slice (some ⟨bd,0,none⟩) n cap),(1,iv (a:Int)),(2,iv (m:Int)),(3,iv (b:Int)),(4,.func (.func fc) #[] caps),(18,iv (mid:Int)),(20,iv (s:Int)),(24,iv (e:Int))] S'→K .normal S' H'):Tri Try.prog kn lo 220 false (at_ Try.f97 [1,1,1,1,1,1,1,1,1,1,1]) S H K:=by
 refine W2 Zkk hS ?_
 refine Zc<|Za rfl<|Za rfl<|Xi (a:=(mid:Int)) (b:=(e:Int)) rfl rfl ?_
 intro t1 g1;cases t1
 ·have g1:¬ ((mid:Int) < (e:Int)):=of_decide_eq_false g1
  refine Za rfl<|Zp rfl<|Zp rfl<|Zp rfl<|Zg (v:=.bool false) rfl rfl<|Zb<|ZQ ?_
  first | refine Zl ?_ | skip
  exact hN _ _ g (PRm.refl _ _ _) (by rcases Nat.lt_or_ge mid e with c | c;exact hp1.mono (Nat.le_refl _) (by omega);exact hp2.mono (by omega) (Nat.le_refl _)) hk hc ⟨rfl,rfl,rfl,rfl,rfl,rfl,rfl,rfl,trivial⟩
 ·have g1:(mid:Int) < (e:Int):=of_decide_eq_true g1
  refine Za rfl ?_
  refine ZK rfl (Za rfl ?_)
  refine ZK rfl (Za rfl ?_)
  refine ZK rfl (Xi (a:=(e:Int)) (b:=(b:Int)) rfl rfl ?_)
  intro t2 g2;cases t2
  ·have g2:¬ ((e:Int) < (b:Int)):=of_decide_eq_false g2
   refine Zg (v:=.bool false) rfl rfl<|Zb<|ZQ ?_
   first | refine Zl ?_ | skip
   exact hN _ _ g (PRm.refl _ _ _) (by rcases Nat.lt_or_ge mid e with c | c;exact hp1.mono (Nat.le_refl _) (by omega);exact hp2.mono (by omega) (Nat.le_refl _)) hk hc ⟨rfl,rfl,rfl,rfl,rfl,rfl,rfl,rfl,trivial⟩
  ·have g2:(e:Int) < (b:Int):=of_decide_eq_true g2
   refine Zg (v:=.bool true) rfl rfl<|Zb<|YN ?_
   show Zq _ _ _ _ _ _ _ _
   refine Za rfl<|Za rfl<|Za rfl<|Za rfl<|Za rfl ?_
   obtain ⟨H1,gH1,fH1,pH1,sH1,kH1,cH1⟩:=ih H mid e b g hk (by omega) (by omega) (by omega) (by omega) hd hp1 hp2 hcr hc
   refine Zx (vs:=[.slice (some ⟨bd,0,none⟩) n cap,iv (mid:Int),iv (e:Int),iv (b:Int),.func (.func fc) #[] caps]) rfl (Zi fH1) ?_
   have mH1:=kH1.1
   have hk:=hk.trans kH1
   have hc:=cH1
   refine Zb ?_
   exact hN _ _ _ pH1 sH1 hk hc ⟨rfl,rfl,rfl,rfl,rfl,rfl,rfl,rfl,trivial⟩
set_option maxRecDepth 100000 in
set_option maxHeartbeats 2000000 in
theorem Zge {bd cap n:Nat} {g:Nat→Nat} {v:Nat→Int} {Hr:Hp} (hlb:lo≤bd) (hn:n≤1000000) (hlo:lo≤Hr.next) (hk:KT bd Hr H) (hc:Cl H bd (cG (fun x=>[iv (v x)]) n g)) {fc:FuncId} {caps:Array Value} {M a m b mid nn s0 r0:Nat} {key:Nat→Int} (ih:∀ (H1:Hp) (a m b:Nat) (g:Nat→Nat),KT bd Hr H1→a < m→m < b→b≤n→b - a < M→(∀ k,k < n→g k < n)→So key a m g→So key m b g→Cr a m b g→Cl H1 bd (cG (fun x=>[iv (v x)]) n g)→∃ H' g',FnX Try.prog kn lo 97 [.slice (some ⟨bd,0,none⟩) n cap,iv (a:Int),iv (m:Int),iv (b:Int),.func (.func fc) #[] caps] H1 (.tuple #[]) H'∧PRm a b g g'∧So key a b g'∧KT bd H1 H'∧Cl H' bd (cG (fun x=>[iv (v x)]) n g')) (hcmp:Uq Try.prog kn lo bd fc caps (fun x=>iv (v x)) n key Hr) (ham:a < m) (hmb:m < b) (hb:b≤n) (hM:b - a≤M) (hmid:mid=(a+b) / 2) (hnn:nn=mid+m) (hs0:(mid < m∧s0+b=nn∧r0=mid)∨(m≤mid∧s0=a∧r0=m)) (h2:2≤m - a) (hd:∀ k,k < n→g k < n) (hp1:So key a m g) (hp2:So key m b g) (hcr:Cr a m b g) {S:Rg} {K:Exit→Rg→Hp→Prop} (hS:WM [(0,.slice (some ⟨bd,0,none⟩) n cap),(1,iv (a:Int)),(2,iv (m:Int)),(3,iv (b:Int)),(4,.func (.func fc) #[] caps),(18,iv (mid:Int)),(19,iv (nn:Int)),(20,iv (s0:Int)),(21,iv (r0:Int))] S) (hN:∀ H' S' g',PRm a b g g'→So key a b g'→KT bd Hr H'→Cl H' bd (cG (fun x=>[iv (v x)]) n g')→K .normal S' H'):Tri Try.prog kn lo 220 false (at_ Try.f97 [1,1,1,1,1,1]) S H K:=by
 refine ZcX ZjI hS ?_
 refine Zc<|Za rfl<|Z8 (a:=(nn:Int)) (b:=1) rfl rfl ⟨by omega,by omega⟩<|Za rfl<|Zb ?_
 obtain ⟨pp,hpp⟩:∃ pp,pp+1=nn:=⟨nn - 1,by omega⟩
 refine ZA (fn:=Try.f97) Ziq N97 Zh7 (fun x:Nat × Nat=>[(0,.slice (some ⟨bd,0,none⟩) n cap),(1,iv (a:Int)),(2,iv (m:Int)),(3,iv (b:Int)),(4,.func (.func fc) #[] caps),(18,iv (mid:Int)),(19,iv (nn:Int)),(20,iv (x.1:Int)),(21,iv (x.2:Int)),(22,iv (pp:Int))])
  (fun k x H'=>k=x.2 - x.1∧s0≤x.1∧x.1≤x.2∧x.2≤r0∧(x.1=s0∨¬ key (g (pp - (x.1 - 1))) < key (g (x.1 - 1)))∧(x.2=r0∨key (g (pp - x.2)) < key (g x.2))∧KT bd Hr H'∧Cl H' bd (cG (fun x=>[iv (v x)]) n g)) _ (s0,r0) ⟨rfl,Nat.le_refl _,by simp only [];omega,Nat.le_refl _,.inl rfl,.inl rfl,hk,hc⟩ ⟨rfl,rfl,rfl,rfl,rfl,rfl,rfl,rfl,rfl,ivq (by omega),trivial⟩ ?_
 rintro k ⟨s,r⟩ L1 ⟨rfl,hs1,hs2,hs3,hlw,hup,hk,hc⟩
 simp only [] at hs1 hs2 hs3 hlw hup
 have hdm:=hd
 refine Zc<|Za rfl<|Za rfl<|ZM (a:=(s:Int)) (b:=(r:Int)) rfl rfl<|Zb ?_
 refine And.intro (fun q1=>?_) (fun q1=>?_)
 ·have q1:(s:Int) < (r:Int):=of_decide_eq_true q1
  first | refine Zl ?_ | skip
  refine Zc<|Za rfl<|Za rfl<|ZB (a:=(s:Int)) (b:=(r:Int)) rfl rfl ⟨by omega,by omega⟩ ?_
  obtain ⟨h1,eh1⟩:∃ h:Nat,h=(s+r) / 2:=⟨_,rfl⟩
  refine Zg (v:=.int .u64 ((s+r:Nat):Int)) rfl (zv (n:=s+r) (j:=(s:Int)+(r:Int)) (by omega) rfl (by omega))<|Zg (v:=.int .u64 ((h1:Nat):Int)) rfl (by rw [eh1];exact Qn (m:=s+r) (d:=1) (by decide) rfl rfl)<|Zg (v:=iv (h1:Int)) rfl (qH (n:=h1) (j:=(h1:Int)) (by omega) rfl rfl)<|Za rfl<|Zb<|Y0<|Ze rfl<|Ze rfl<|Ze rfl<|Ze rfl<|Xd (a:=(pp:Int)) (b:=(h1:Int)) rfl rfl ⟨by omega,by omega⟩<|Zw (b:=bd) (o:=0) (k:=pp - h1) (j:=(pp:Int) - (h1:Int)) rfl rfl (by omega) (by omega)<|ZD (b:=bd) (o:=0+(pp - h1) * 1) (v:=iv (v (g (pp - h1)))) rfl hc.rd (WT (fun _=>rfl) (by omega) rfl)<|Ze rfl<|Ze rfl<|Zw (b:=bd) (o:=0) (k:=h1) (j:=(h1:Int)) rfl rfl (by omega) (by omega)<|ZD (b:=bd) (o:=0+h1 * 1) (v:=iv (v (g h1))) rfl hc.rd (WT (fun _=>rfl) (by omega) rfl) ?_
  obtain ⟨rH1,H1,fH1,kH1,qH1⟩:=hcmp L1 hk.kp (g (pp - h1)) (g h1) (hdm _ (by omega)) (hdm _ (by omega))
  refine Yy (vs:=[iv (v (g (pp - h1))),iv (v (g h1))]) rfl fH1 ?_
  have mH1:=kH1.1
  have hc:=kH1.cl hc (by simp)
  have hk:=hk.keep kH1
  refine W8 (a:=rH1) (b:=0) rfl rfl<|ZR (v:=.bool (!(decide (rH1 < 0)))) rfl rfl ?_
  refine ZJ (by repeat' first | exact True.intro | exact (fun h=>h) | refine And.intro ?_ ?_ | (intro h;have h:(_:Nat)=_:=h;omega)) ?_
  refine And.intro (fun q2=>?_) (fun q2=>?_)
  ·have q2:¬ (rH1 < 0):=by simpa using q2
   show Zq _ _ _ _ _ _ _ _
   refine Za rfl<|ZB (a:=(h1:Int)) (b:=1) rfl rfl ⟨by omega,by omega⟩<|Za rfl<|Zb ?_
   exact ⟨_,(h1+1,r),by simp only [];omega,⟨rfl,by simp only [];omega,by simp only [];omega,hs3,.inr (by simp only [];rw [show h1+1 - 1=h1 by omega];exact fun hh=>by have:=qH1.2 hh;omega),hup,hk,hc⟩,rfl,rfl,rfl,rfl,rfl,rfl,rfl,ivq (by simp only [];omega),rfl,rfl,trivial⟩
  ·have q2:¬ (¬ (rH1 < 0)):=by simpa using q2
   show Zq _ _ _ _ _ _ _ _
   refine Za rfl<|Za rfl<|Zb ?_
   exact ⟨_,(s,h1),by simp only [];omega,⟨rfl,hs1,by simp only [];omega,by simp only [];omega,hlw,.inr (qH1.1 (by omega)),hk,hc⟩,rfl,rfl,rfl,rfl,rfl,rfl,rfl,rfl,ivq (by simp only []),rfl,trivial⟩
 ·have q1:¬ ((s:Int) < (r:Int)):=of_decide_eq_false q1
  first | (refine ZE ?_;show wC _ _ _ _ _ _ _ _ _) | skip
  refine Zc<|Za rfl<|Za rfl<|Z8 (a:=(nn:Int)) (b:=(s:Int)) rfl rfl ⟨by omega,by omega⟩<|Za rfl<|Zb ?_
  obtain rfl:s=r:=by omega
  obtain ⟨e,he⟩:∃ e,e+s=nn:=⟨nn - s,by omega⟩
  have hcut:Zhw key a m b s e g:=by
   refine ⟨by omega,by omega,by omega,by omega,?_,?_⟩
   ·by_cases z:s=s0
    ·rcases hs0 with ⟨z1,z2,z3⟩ | ⟨z1,z2,z3⟩
     ·exact .inr (.inl (by omega))
     ·exact .inl (by omega)
    ·have y:=hlw.resolve_left z
     rw [show pp - (s - 1)=e by omega] at y
     exact .inr (.inr (.of_not y (hcr (s - 1) e (by omega) (by omega) (by omega) (by omega))))
   ·by_cases z:s=r0
    ·rcases hs0 with ⟨z1,z2,z3⟩ | ⟨z1,z2,z3⟩
     ·exact .inr (.inl (by omega))
     ·exact .inl (by omega)
    ·have y:=hup.resolve_left z
     rw [show pp - s=e - 1 by omega] at y
     exact .inr (.inr (.lt y))
  have hpt:=ZbK hp1 hp2 hcr hcut
  rw [show s+(e - m)=mid by have:=hcut.me;omega] at hpt
  have hbe:=hcut.eb;have hbm:=hcut.sm;have hbl:=hcut.l;have hbn:=hcut.me
  refine ZhN hlb hn hlo hk hc (mid:=mid) (b:=b) hbm hbn (by omega) (by exact ⟨rfl,rfl,rfl,rfl,rfl,rfl,rfl,ivq (by omega),trivial⟩) ?_
  intro HA SA_ pA kA cA sA
  have pA2:=pA.mono hbl (by omega) hbe
  have hdA:=pA2.dom hd hb
  refine Zjp hlb hn hlo kA cA ih (by omega) (by omega) (by omega) (by omega) hdA hpt.p1 hpt.p2 hpt.c1 sA ?_
  intro HB SB gB pB oB kB cB sB
  have hdB:=pB.dom hdA (by omega)
  obtain ⟨r1,r2,r3⟩:=hpt.right pB (by omega)
  refine Zi5 hlb hn hlo kB cB ih (by omega) (by omega) hb (by omega) hdB r1 r2 r3 sB ?_
  intro HC SC gC pC oC kC cC sC
  exact hN _ _ gC (pA2.trans ((pB.mono (Nat.le_refl _) (by omega) (by omega)).trans (pC.mono (by omega) (by omega) (Nat.le_refl _)))) (hpt.done (by omega) (by omega) pB oB pC oC) kC cC
set_option maxRecDepth 100000 in
set_option maxHeartbeats 2000000 in
theorem ZcG (hlo:lo≤H.next) {bd cap n M:Nat} {g:Nat→Nat} {v:Nat→Int} {Hr:Hp} (hlb:lo≤bd) (hn:n≤1000000) (hk0:KT bd Hr H) (hc:Cl H bd (cG (fun x=>[iv (v x)]) n g)) {fc:FuncId} {caps:Array Value} {key:Nat→Int} (ih:∀ (H1:Hp) (a m b:Nat) (g:Nat→Nat),KT bd Hr H1→a < m→m < b→b≤n→b - a < M→(∀ k,k < n→g k < n)→So key a m g→So key m b g→Cr a m b g→Cl H1 bd (cG (fun x=>[iv (v x)]) n g)→∃ H' g',FnX Try.prog kn lo 97 [.slice (some ⟨bd,0,none⟩) n cap,iv (a:Int),iv (m:Int),iv (b:Int),.func (.func fc) #[] caps] H1 (.tuple #[]) H'∧PRm a b g g'∧So key a b g'∧KT bd H1 H'∧Cl H' bd (cG (fun x=>[iv (v x)]) n g')) (hcmp0:Uq Try.prog kn lo bd fc caps (fun x=>iv (v x)) n key Hr) {a m b:Nat} (ham:a < m) (hmb:m < b) (hb:b≤n) (hM:b - a≤M) (hd:∀ k,k < n→g k < n) (hp1:So key a m g) (hp2:So key m b g) (hcr:Cr a m b g) :
  ∃ H' g',FnX Try.prog kn lo 97 [.slice (some ⟨bd,0,none⟩) n cap,iv (a:Int),iv (m:Int),iv (b:Int),.func (.func fc) #[] caps] H (.tuple #[]) H'∧PRm a b g g'∧So key a b g'∧KT bd H H'∧Cl H' bd (cG (fun x=>[iv (v x)]) n g'):=by
 have key_:=ZdJ (kn:=kn) (lo:=lo) (H:=H) (args:=[.slice (some ⟨bd,0,none⟩) n cap,iv (a:Int),iv (m:Int),iv (b:Int),.func (.func fc) #[] caps]) (Q:=fun w H'=>w=.tuple #[]∧∃ g',PRm a b g g'∧So key a b g'∧KT bd H H'∧Cl H' bd (cG (fun x=>[iv (v x)]) n g')) Try.func97 B97 N97 Z97 V97 (by simp) ?_
 ·obtain ⟨w,H',h,rfl,g',r⟩:=key_;exact ⟨H',g',h,r⟩
 have hk:=KT.refl (H:=H) hc.1
 have hcmp:=hcmp0.from hk0.kp
 refine Zc<|Za rfl<|Za rfl<|Z8 (a:=(m:Int)) (b:=(a:Int)) rfl rfl ⟨by omega,by omega⟩<|Jx (a:=(m:Int) - (a:Int)) (b:=1) rfl rfl<|Zb ?_
 refine And.intro (fun q1=>?_) (fun q1=>?_)
 ·have q1:((m:Int) - (a:Int))=1:=by simpa using q1
  refine Zc<|Za rfl<|Za rfl<|Zb<|Zc<|Za rfl<|Za rfl<|Zb ?_
  refine ZA (fn:=Try.f97) ZhK N97 Zjj (fun x:Nat × Nat=>[(0,.slice (some ⟨bd,0,none⟩) n cap),(1,iv (a:Int)),(2,iv (m:Int)),(3,iv (b:Int)),(4,.func (.func fc) #[] caps),(10,iv (x.1:Int)),(11,iv (x.2:Int))])
   (fun k x H'=>k=x.2 - x.1∧m≤x.1∧x.1≤x.2∧x.2≤b∧(∀ p,m≤p→p < x.1→key (g p) < key (g a))∧(∀ p,x.2≤p→p < b→¬ key (g p) < key (g a))∧KT bd H H'∧Cl H' bd (cG (fun x=>[iv (v x)]) n g)) _ (m,b) ⟨rfl,Nat.le_refl _,by simp only [];omega,Nat.le_refl _,fun p p1 p2=>absurd p2 (by simp only [];omega),fun p p1 p2=>absurd p2 (by simp only [] at p1;omega),hk,hc⟩ ⟨rfl,rfl,rfl,rfl,rfl,rfl,rfl,trivial⟩ ?_
  rintro k ⟨i,j⟩ L1 ⟨rfl,hi1,hi2,hi3,hlw,hup,hk,hc⟩
  simp only [] at hi1 hi2 hi3 hlw hup
  have hdm:=hd
  refine Zc<|Za rfl<|Za rfl<|ZM (a:=(i:Int)) (b:=(j:Int)) rfl rfl<|Zb ?_
  refine And.intro (fun q2=>?_) (fun q2=>?_)
  ·have q2:(i:Int) < (j:Int):=of_decide_eq_true q2
   first | refine Zl ?_ | skip
   refine Zc<|Za rfl<|Za rfl<|ZB (a:=(i:Int)) (b:=(j:Int)) rfl rfl ⟨by omega,by omega⟩ ?_
   obtain ⟨h2,eh2⟩:∃ h:Nat,h=(i+j) / 2:=⟨_,rfl⟩
   refine Zg (v:=.int .u64 ((i+j:Nat):Int)) rfl (zv (n:=i+j) (j:=(i:Int)+(j:Int)) (by omega) rfl (by omega))<|Zg (v:=.int .u64 ((h2:Nat):Int)) rfl (by rw [eh2];exact Qn (m:=i+j) (d:=1) (by decide) rfl rfl)<|Zg (v:=iv (h2:Int)) rfl (qH (n:=h2) (j:=(h2:Int)) (by omega) rfl rfl)<|Za rfl<|Zb<|Y0<|Ze rfl<|Ze rfl<|Ze rfl<|Zw (b:=bd) (o:=0) (k:=h2) (j:=(h2:Int)) rfl rfl (by omega) (by omega)<|ZD (b:=bd) (o:=0+h2 * 1) (v:=iv (v (g h2))) rfl hc.rd (WT (fun _=>rfl) (by omega) rfl)<|Ze rfl<|Ze rfl<|Zw (b:=bd) (o:=0) (k:=a) (j:=(a:Int)) rfl rfl (by omega) (by omega)<|ZD (b:=bd) (o:=0+a * 1) (v:=iv (v (g a))) rfl hc.rd (WT (fun _=>rfl) (by omega) rfl) ?_
   obtain ⟨rH1,H1,fH1,kH1,qH1⟩:=hcmp L1 hk.kp (g h2) (g a) (hdm _ (by omega)) (hdm _ (by omega))
   refine Yy (vs:=[iv (v (g h2)),iv (v (g a))]) rfl fH1 ?_
   have mH1:=kH1.1
   have hc:=kH1.cl hc (by simp)
   have hk:=hk.keep kH1
   refine W8 (a:=rH1) (b:=0) rfl rfl ?_
   refine ZJ (by repeat' first | exact True.intro | exact (fun h=>h) | refine And.intro ?_ ?_ | (intro h;have h:(_:Nat)=_:=h;omega)) ?_
   refine And.intro (fun q3=>?_) (fun q3=>?_)
   ·have q3:rH1 < 0:=of_decide_eq_true q3
    show Zq _ _ _ _ _ _ _ _
    refine Za rfl<|ZB (a:=(h2:Int)) (b:=1) rfl rfl ⟨by omega,by omega⟩<|Za rfl<|Zb ?_
    exact ⟨_,(h2+1,j),by simp only [];omega,⟨rfl,by simp only [];omega,by simp only [];omega,hi3,fun p p1 p2=>by have z:=qH1.1 (by omega);have y:=hp2.le (i:=p) (j:=h2) (by omega) (by omega) (by omega);omega,hup,hk,hc⟩,rfl,rfl,rfl,rfl,rfl,ivq (by simp only [];omega),rfl,trivial⟩
   ·have q3:¬ (rH1 < 0):=of_decide_eq_false q3
    show Zq _ _ _ _ _ _ _ _
    refine Za rfl<|Za rfl<|Zb ?_
    exact ⟨_,(i,h2),by simp only [];omega,⟨rfl,hi1,by simp only [];omega,by simp only [];omega,hlw,fun p p1 p2 hh=>by have y:=hp2.le (i:=h2) (j:=p) (by omega) p1 (by omega);have z:=qH1.2 (by omega);omega,hk,hc⟩,rfl,rfl,rfl,rfl,rfl,rfl,ivq (by simp only []),trivial⟩
  ·have q2:¬ ((i:Int) < (j:Int)):=of_decide_eq_false q2
   first | (refine ZE ?_;show wC _ _ _ _ _ _ _ _ _) | skip
   refine Zc<|Za rfl<|Za rfl<|Zb ?_
   obtain rfl:i=j:=by omega
   obtain rfl:m=a+1:=by omega
   refine ZA (fn:=Try.f97) ZiR N97 ZhR (fun t:Nat=>[(0,.slice (some ⟨bd,0,none⟩) n cap),(10,iv (i:Int)),(13,iv (t:Int))])
    (fun k t H'=>k+t=i - 1∧a≤t∧PRm a b g (mvR g a t)∧KT bd H H'∧Cl H' bd (cG (fun x=>[iv (v x)]) n (mvR g a t))) (i - 1 - a) a ⟨by omega,Nat.le_refl _,by rw [Jm];exact PRm.refl _ _ _,hk,by rw [Jm];exact hc⟩ ⟨rfl,rfl,rfl,trivial⟩ ?_
   rintro k t L2 ⟨hkt,ht,hp,hk,hc⟩
   refine Zc<|Za rfl<|Za rfl<|Z8 (a:=(i:Int)) (b:=1) rfl rfl ⟨by omega,by omega⟩<|ZM (a:=(t:Int)) (b:=(i:Int) - 1) rfl rfl<|Zb ?_
   refine And.intro (fun q4=>?_) (fun q4=>?_)
   ·have q4:(t:Int) < ((i:Int) - 1):=of_decide_eq_true q4
    first | refine Zl ?_ | skip
    first | refine Yc ?_ | refine WB ?_ | refine VC ?_ | (refine YV ?_;refine Yc ?_)
    refine Ze rfl<|Ze rfl<|Ze rfl<|Ze rfl<|X5 (a:=(t:Int)) (b:=1) rfl rfl ⟨by omega,by omega⟩<|Ze rfl<|Ze rfl<|X5 (a:=(t:Int)) (b:=1) rfl rfl ⟨by omega,by omega⟩<|Zw (b:=bd) (o:=0) (k:=t+1) (j:=(t:Int)+1) rfl rfl (by omega) (by omega)<|ZD (b:=bd) (o:=0+(t+1) * 1) (v:=iv (v ((mvR g a t) (t+1)))) rfl hc.rd (WT (fun _=>rfl) (by omega) rfl)<|Ze rfl<|Ze rfl<|Zw (b:=bd) (o:=0) (k:=t) (j:=(t:Int)) rfl rfl (by omega) (by omega)<|ZD (b:=bd) (o:=0+t * 1) (v:=iv (v ((mvR g a t) t))) rfl hc.rd (WT (fun _=>rfl) (by omega) rfl)<|Zw (b:=bd) (o:=0) (k:=t) (j:=(t:Int)) rfl rfl (by omega) (by omega)<|UT (b:=bd) (o:=0+t * 1) rfl rfl hc hlb rfl rfl (by rw [XS (z:=1) (fun _=>rfl)];omega) ?_
    intro H2 kH2 nH2 sH2 tH2
    have mH2:=kH2.1
    have hk:=hk.put kH2 tH2
    have hc:Cl H2 bd (cG (fun x=>[iv (v x)]) n (upd (mvR g a t) t ((mvR g a t) (t+1)))):=by rw [← UM (fun _=>rfl) (by omega) rfl];exact sH2
    refine Zw (b:=bd) (o:=0) (k:=t+1) (j:=(t:Int)+1) rfl rfl (by omega) (by omega)<|UT (b:=bd) (o:=0+(t+1) * 1) rfl rfl hc hlb rfl rfl (by rw [XS (z:=1) (fun _=>rfl)];omega) ?_
    intro H3 kH3 nH3 sH3 tH3
    have mH3:=kH3.1
    have hk:=hk.put kH3 tH3
    have hc:Cl H3 bd (cG (fun x=>[iv (v x)]) n (upd (upd (mvR g a t) t ((mvR g a t) (t+1))) (t+1) ((mvR g a t) t))):=by rw [← UM (fun _=>rfl) (by omega) rfl];exact sH3
    have hc:Cl H3 bd (cG (fun x=>[iv (v x)]) n (swp (mvR g a t) t (t+1))):=hc
    refine ZJ (by repeat' first | exact True.intro | exact (fun h=>h) | refine And.intro ?_ ?_ | (intro h;have h:(_:Nat)=_:=h;omega)) ?_
    show Zq _ _ _ _ _ _ _ _
    refine Za rfl<|ZB (a:=(t:Int)) (b:=1) rfl rfl ⟨by omega,by omega⟩<|Za rfl<|Zb ?_
    rw [QP (by omega)] at hc
    exact ⟨k - 1,t+1,by omega,⟨by omega,by omega,by rw [← QP (by omega)];exact hp.trans (PRm.swap (by omega) (by omega) (by omega) (by omega)),hk,hc⟩,rfl,rfl,ivq (by omega),trivial⟩
   ·have q4:¬ ((t:Int) < ((i:Int) - 1)):=of_decide_eq_false q4
    first | (refine ZE ?_;show wC _ _ _ _ _ _ _ _ _) | skip
    have eti:t=i - 1:=by omega
    rw [eti] at hp hc
    exact And.intro trivial (Exists.intro _ (And.intro rfl ⟨rfl,_,hp,yy hp2 hcr hi1 hi3 hlw hup,hk,hc⟩))
 ·have q1:¬ (((m:Int) - (a:Int))=1):=by simpa using q1
  first | refine Zl ?_ | skip
  refine Zc<|Za rfl<|Za rfl<|Z8 (a:=(b:Int)) (b:=(m:Int)) rfl rfl ⟨by omega,by omega⟩<|Jx (a:=(b:Int) - (m:Int)) (b:=1) rfl rfl<|Zb ?_
  refine And.intro (fun q5=>?_) (fun q5=>?_)
  ·have q5:((b:Int) - (m:Int))=1:=by simpa using q5
   refine Zc<|Za rfl<|Za rfl<|Zb<|Zc<|Za rfl<|Za rfl<|Zb ?_
   refine ZA (fn:=Try.f97) ZhY N97 Zjx (fun x:Nat × Nat=>[(0,.slice (some ⟨bd,0,none⟩) n cap),(1,iv (a:Int)),(2,iv (m:Int)),(3,iv (b:Int)),(4,.func (.func fc) #[] caps),(14,iv (x.1:Int)),(15,iv (x.2:Int))])
    (fun k x H'=>k=x.2 - x.1∧a≤x.1∧x.1≤x.2∧x.2≤m∧(∀ p,a≤p→p < x.1→¬ key (g m) < key (g p))∧(∀ p,x.2≤p→p < m→key (g m) < key (g p))∧KT bd H H'∧Cl H' bd (cG (fun x=>[iv (v x)]) n g)) _ (a,m) ⟨rfl,Nat.le_refl _,by simp only [];omega,Nat.le_refl _,fun p p1 p2=>absurd p2 (by simp only [];omega),fun p p1 p2=>absurd p2 (by simp only [] at p1;omega),hk,hc⟩ ⟨rfl,rfl,rfl,rfl,rfl,rfl,rfl,trivial⟩ ?_
   rintro k ⟨i,j⟩ L1 ⟨rfl,hi1,hi2,hi3,hlw,hup,hk,hc⟩
   simp only [] at hi1 hi2 hi3 hlw hup
   have hdm:=hd
   refine Zc<|Za rfl<|Za rfl<|ZM (a:=(i:Int)) (b:=(j:Int)) rfl rfl<|Zb ?_
   refine And.intro (fun q6=>?_) (fun q6=>?_)
   ·have q6:(i:Int) < (j:Int):=of_decide_eq_true q6
    first | refine Zl ?_ | skip
    refine Zc<|Za rfl<|Za rfl<|ZB (a:=(i:Int)) (b:=(j:Int)) rfl rfl ⟨by omega,by omega⟩ ?_
    obtain ⟨h3,eh3⟩:∃ h:Nat,h=(i+j) / 2:=⟨_,rfl⟩
    refine Zg (v:=.int .u64 ((i+j:Nat):Int)) rfl (zv (n:=i+j) (j:=(i:Int)+(j:Int)) (by omega) rfl (by omega))<|Zg (v:=.int .u64 ((h3:Nat):Int)) rfl (by rw [eh3];exact Qn (m:=i+j) (d:=1) (by decide) rfl rfl)<|Zg (v:=iv (h3:Int)) rfl (qH (n:=h3) (j:=(h3:Int)) (by omega) rfl rfl)<|Za rfl<|Zb<|Y0<|Ze rfl<|Ze rfl<|Ze rfl<|Zw (b:=bd) (o:=0) (k:=m) (j:=(m:Int)) rfl rfl (by omega) (by omega)<|ZD (b:=bd) (o:=0+m * 1) (v:=iv (v (g m))) rfl hc.rd (WT (fun _=>rfl) (by omega) rfl)<|Ze rfl<|Ze rfl<|Zw (b:=bd) (o:=0) (k:=h3) (j:=(h3:Int)) rfl rfl (by omega) (by omega)<|ZD (b:=bd) (o:=0+h3 * 1) (v:=iv (v (g h3))) rfl hc.rd (WT (fun _=>rfl) (by omega) rfl) ?_
    obtain ⟨rH4,H4,fH4,kH4,qH4⟩:=hcmp L1 hk.kp (g m) (g h3) (hdm _ (by omega)) (hdm _ (by omega))
    refine Yy (vs:=[iv (v (g m)),iv (v (g h3))]) rfl fH4 ?_
    have mH4:=kH4.1
    have hc:=kH4.cl hc (by simp)
    have hk:=hk.keep kH4
    refine W8 (a:=rH4) (b:=0) rfl rfl<|ZR (v:=.bool (!(decide (rH4 < 0)))) rfl rfl ?_
    refine ZJ (by repeat' first | exact True.intro | exact (fun h=>h) | refine And.intro ?_ ?_ | (intro h;have h:(_:Nat)=_:=h;omega)) ?_
    refine And.intro (fun q7=>?_) (fun q7=>?_)
    ·have q7:¬ (rH4 < 0):=by simpa using q7
     show Zq _ _ _ _ _ _ _ _
     refine Za rfl<|ZB (a:=(h3:Int)) (b:=1) rfl rfl ⟨by omega,by omega⟩<|Za rfl<|Zb ?_
     exact ⟨_,(h3+1,j),by simp only [];omega,⟨rfl,by simp only [];omega,by simp only [];omega,hi3,fun p p1 p2 hh=>by have y:=hp1.le (i:=p) (j:=h3) p1 (by omega) (by omega);have z:=qH4.2 (by omega);omega,hup,hk,hc⟩,rfl,rfl,rfl,rfl,rfl,ivq (by simp only [];omega),rfl,trivial⟩
    ·have q7:¬ (¬ (rH4 < 0)):=by simpa using q7
     show Zq _ _ _ _ _ _ _ _
     refine Za rfl<|Za rfl<|Zb ?_
     exact ⟨_,(i,h3),by simp only [];omega,⟨rfl,hi1,by simp only [];omega,by simp only [];omega,hlw,fun p p1 p2=>by have z:=qH4.1 (by omega);have y:=hp1.le (i:=h3) (j:=p) (by omega) p1 (by omega);omega,hk,hc⟩,rfl,rfl,rfl,rfl,rfl,rfl,ivq (by simp only []),trivial⟩
   ·have q6:¬ ((i:Int) < (j:Int)):=of_decide_eq_false q6
    first | (refine ZE ?_;show wC _ _ _ _ _ _ _ _ _) | skip
    refine Zc<|Za rfl<|Za rfl<|Zb ?_
    obtain rfl:i=j:=by omega
    obtain rfl:b=m+1:=by omega
    refine ZA (fn:=Try.f97) ZhE N97 ZhW (fun t:Nat=>[(0,.slice (some ⟨bd,0,none⟩) n cap),(14,iv (i:Int)),(17,iv (t:Int))])
     (fun k t H'=>k=t∧i≤t∧t≤m∧PRm a (m+1) g (mvL g m t)∧KT bd H H'∧Cl H' bd (cG (fun x=>[iv (v x)]) n (mvL g m t))) m m ⟨rfl,by omega,Nat.le_refl _,by rw [Jz];exact PRm.refl _ _ _,hk,by rw [Jz];exact hc⟩ ⟨rfl,rfl,rfl,trivial⟩ ?_
    rintro k t L2 ⟨hkt,ht,ht2,hp,hk,hc⟩
    refine Zc<|Za rfl<|Za rfl<|Vo (a:=(t:Int)) (b:=(i:Int)) rfl rfl<|Zb ?_
    refine And.intro (fun q8=>?_) (fun q8=>?_)
    ·have q8:(t:Int) > (i:Int):=of_decide_eq_true q8
     first | refine Zl ?_ | skip
     first | refine Yc ?_ | refine WB ?_ | refine VC ?_ | (refine YV ?_;refine Yc ?_)
     refine Ze rfl<|Ze rfl<|Ze rfl<|Ze rfl<|Xd (a:=(t:Int)) (b:=1) rfl rfl ⟨by omega,by omega⟩<|Ze rfl<|Ze rfl<|Xd (a:=(t:Int)) (b:=1) rfl rfl ⟨by omega,by omega⟩<|Zw (b:=bd) (o:=0) (k:=t - 1) (j:=(t:Int) - 1) rfl rfl (by omega) (by omega)<|ZD (b:=bd) (o:=0+(t - 1) * 1) (v:=iv (v ((mvL g m t) (t - 1)))) rfl hc.rd (WT (fun _=>rfl) (by omega) rfl)<|Ze rfl<|Ze rfl<|Zw (b:=bd) (o:=0) (k:=t) (j:=(t:Int)) rfl rfl (by omega) (by omega)<|ZD (b:=bd) (o:=0+t * 1) (v:=iv (v ((mvL g m t) t))) rfl hc.rd (WT (fun _=>rfl) (by omega) rfl)<|Zw (b:=bd) (o:=0) (k:=t) (j:=(t:Int)) rfl rfl (by omega) (by omega)<|UT (b:=bd) (o:=0+t * 1) rfl rfl hc hlb rfl rfl (by rw [XS (z:=1) (fun _=>rfl)];omega) ?_
     intro H5 kH5 nH5 sH5 tH5
     have mH5:=kH5.1
     have hk:=hk.put kH5 tH5
     have hc:Cl H5 bd (cG (fun x=>[iv (v x)]) n (upd (mvL g m t) t ((mvL g m t) (t - 1)))):=by rw [← UM (fun _=>rfl) (by omega) rfl];exact sH5
     refine Zw (b:=bd) (o:=0) (k:=t - 1) (j:=(t:Int) - 1) rfl rfl (by omega) (by omega)<|UT (b:=bd) (o:=0+(t - 1) * 1) rfl rfl hc hlb rfl rfl (by rw [XS (z:=1) (fun _=>rfl)];omega) ?_
     intro H6 kH6 nH6 sH6 tH6
     have mH6:=kH6.1
     have hk:=hk.put kH6 tH6
     have hc:Cl H6 bd (cG (fun x=>[iv (v x)]) n (upd (upd (mvL g m t) t ((mvL g m t) (t - 1))) (t - 1) ((mvL g m t) t))):=by rw [← UM (fun _=>rfl) (by omega) rfl];exact sH6
     have hc:Cl H6 bd (cG (fun x=>[iv (v x)]) n (swp (mvL g m t) t (t - 1))):=hc
     refine ZJ (by repeat' first | exact True.intro | exact (fun h=>h) | refine And.intro ?_ ?_ | (intro h;have h:(_:Nat)=_:=h;omega)) ?_
     show Zq _ _ _ _ _ _ _ _
     refine Za rfl<|Z8 (a:=(t:Int)) (b:=1) rfl rfl ⟨by omega,by omega⟩<|Za rfl<|Zb ?_
     rw [Jd (by omega) (by omega)] at hc
     exact ⟨t - 1,t - 1,by omega,⟨rfl,by omega,by omega,by rw [← Jd (by omega) (by omega)];exact hp.trans (PRm.swap (by omega) (by omega) (by omega) (by omega)),hk,hc⟩,rfl,rfl,ivq (by omega),trivial⟩
    ·have q8:¬ ((t:Int) > (i:Int)):=of_decide_eq_false q8
     first | (refine ZE ?_;show wC _ _ _ _ _ _ _ _ _) | skip
     have eti:t=i:=by omega
     rw [eti] at hp hc
     exact And.intro trivial (Exists.intro _ (And.intro rfl ⟨rfl,_,hp,js hp1 hcr hi1 hi3 hlw hup,hk,hc⟩))
  ·have q5:¬ (((b:Int) - (m:Int))=1):=by simpa using q5
   first | refine Zl ?_ | skip
   refine Zc<|Za rfl<|Za rfl<|ZB (a:=(a:Int)) (b:=(b:Int)) rfl rfl ⟨by omega,by omega⟩ ?_
   obtain ⟨h4,eh4⟩:∃ h:Nat,h=(a+b) / 2:=⟨_,rfl⟩
   refine Zg (v:=.int .u64 ((a+b:Nat):Int)) rfl (zv (n:=a+b) (j:=(a:Int)+(b:Int)) (by omega) rfl (by omega))<|Zg (v:=.int .u64 ((h4:Nat):Int)) rfl (by rw [eh4];exact Qn (m:=a+b) (d:=1) (by decide) rfl rfl)<|Zg (v:=iv (h4:Int)) rfl (qH (n:=h4) (j:=(h4:Int)) (by omega) rfl rfl)<|Za rfl<|Zb<|Zc<|Za rfl<|Za rfl<|ZB (a:=(h4:Int)) (b:=(m:Int)) rfl rfl ⟨by omega,by omega⟩<|Za rfl<|Zb<|Zc<|Za rfl<|Za rfl<|Zb<|Zc<|Za rfl<|Za rfl<|Vo (a:=(m:Int)) (b:=(h4:Int)) rfl rfl<|Zb ?_
   refine And.intro (fun q9=>?_) (fun q9=>?_)
   ·have q9:(m:Int) > (h4:Int):=of_decide_eq_true q9
    refine Zc<|Za rfl<|Za rfl<|Z8 (a:=(h4:Int)+(m:Int)) (b:=(b:Int)) rfl rfl ⟨by omega,by omega⟩<|Za rfl<|Zb<|Zc<|Za rfl<|Za rfl<|Zb ?_
    refine Zge (mid:=h4) (nn:=h4+m) (s0:=(h4+m) - b) (r0:=h4) hlb hn hlo hk hc (fun H1 a m b g k=>ih H1 a m b g (hk0.trans k)) hcmp ham hmb hb hM eh4 rfl (.inl ⟨by omega,by omega,rfl⟩) (by omega) hd hp1 hp2 hcr (by exact ⟨rfl,rfl,rfl,rfl,rfl,rfl,ivq (by omega),ivq (by omega),ivq (by omega),trivial⟩) ?_
    intro H' S' g' p' s' k' c'
    exact And.intro trivial (Exists.intro _ (And.intro rfl ⟨rfl,g',p',s',k',c'⟩))
   ·have q9:¬ ((m:Int) > (h4:Int)):=of_decide_eq_false q9
    refine Zc<|Za rfl<|Za rfl<|Zb<|Zc<|Za rfl<|Za rfl<|Zb ?_
    refine Zge (mid:=h4) (nn:=h4+m) (s0:=a) (r0:=m) hlb hn hlo hk hc (fun H1 a m b g k=>ih H1 a m b g (hk0.trans k)) hcmp ham hmb hb hM eh4 rfl (.inr ⟨by omega,rfl,rfl⟩) (by omega) hd hp1 hp2 hcr (by exact ⟨rfl,rfl,rfl,rfl,rfl,rfl,ivq (by omega),ivq (by omega),ivq (by omega),trivial⟩) ?_
    intro H' S' g' p' s' k' c'
    exact And.intro trivial (Exists.intro _ (And.intro rfl ⟨rfl,g',p',s',k',c'⟩))
theorem qu {bd cap n:Nat} {v:Nat→Int} {Hr:Hp} (hlo:lo≤Hr.next) (hlb:lo≤bd) (hn:n≤1000000) {fc:FuncId} {caps:Array Value} {key:Nat→Int} (hcmp:Uq Try.prog kn lo bd fc caps (fun x=>iv (v x)) n key Hr):∀ (M:Nat) (H1:Hp) (a m b:Nat) (g:Nat→Nat),KT bd Hr H1→a < m→m < b→b≤n→b - a < M→(∀ k,k < n→g k < n)→So key a m g→So key m b g→Cr a m b g→Cl H1 bd (cG (fun x=>[iv (v x)]) n g)→∃ H' g',FnX Try.prog kn lo 97 [.slice (some ⟨bd,0,none⟩) n cap,iv (a:Int),iv (m:Int),iv (b:Int),.func (.func fc) #[] caps] H1 (.tuple #[]) H'∧PRm a b g g'∧So key a b g'∧KT bd H1 H'∧Cl H' bd (cG (fun x=>[iv (v x)]) n g')
 | 0,_,_,_,_,_,_,_,_,_,h,_,_,_,_,_=>absurd h (Nat.not_lt_zero _)
 | M+1,_,_,_,_,_,hk,ham,hmb,hb,hM,hd,hp1,hp2,hcr,hc=>ZcG (Nat.le_trans hlo hk.1) hlb hn hk hc (qu hlo hlb hn hcmp M) hcmp ham hmb hb (Nat.le_of_lt_succ hM) hd hp1 hp2 hcr
end
end
end Go.Ax

/-
 Pool: sorting that keeps the order: blocks (written by program).
-/
namespace Go.Ax
open Go Go.RowKit Go.Proofs

noncomputable section
theorem Bk.init2 {key:Nat→Int} {bs n:Nat} {g:Nat→Nat} (h:Bk key bs 0 n g):Bk2 key bs 0 n g:=Bk2.init h
theorem ZeQ {bs a:Nat} (hb:Bs bs) (h:a % (2 * bs)=0):a % bs=0:=by rcases hb with rfl | rfl | rfl<;>omega
section
variable {kn:Kn} {lo:Nat} {H:Hp}
set_option maxRecDepth 100000 in
set_option maxHeartbeats 2000000 in
theorem Zax (hlo:lo≤H.next) {bd cap n:Nat} {v:Nat→Int} (hlb:lo≤bd) (hn:n≤160) (hc:Cl H bd (cG (fun x=>[iv (v x)]) n fun i=>i)) {fc:FuncId} {caps:Array Value} {key:Nat→Int} (hcmp:Uq Try.prog kn lo bd fc caps (fun x=>iv (v x)) n key H):∃ H' g',FnX Try.prog kn lo 82 [.slice (some ⟨bd,0,none⟩) n cap,iv (n:Int),.func (.func fc) #[] caps] H (.tuple #[]) H'∧PRm 0 n (fun i=>i) g'∧So key 0 n g'∧KT bd H H'∧Cl H' bd (cG (fun x=>[iv (v x)]) n g'):=by
 have key_:=Zs (kn:=kn) (lo:=lo) (H:=H) (args:=[.slice (some ⟨bd,0,none⟩) n cap,iv (n:Int),.func (.func fc) #[] caps]) (Q:=fun w H'=>w=.tuple #[]∧∃ g',PRm 0 n (fun i=>i) g'∧So key 0 n g'∧KT bd H H'∧Cl H' bd (cG (fun x=>[iv (v x)]) n g')) Try.func82 B82 N82 Z82 L82 (by simp) ?_
 ·obtain ⟨w,H',h,rfl,g',r⟩:=key_;exact ⟨H',g',h,r⟩
 have hk:=KT.refl (H:=H) hc.1
 refine Zc<|Za rfl<|Zb<|Zc<|Za rfl<|Za rfl<|Za rfl<|Zb ?_
 refine ZA (fn:=Try.f82) Zh2 N82 Zjc (fun a:Nat=>[(0,.slice (some ⟨bd,0,none⟩) n cap),(1,iv (n:Int)),(2,.func (.func fc) #[] caps),(6,iv 20),(7,iv (a:Int)),(8,iv ((a:Int)+20))])
  (fun k a H'=>k=n - a∧a % 20=0∧a≤n∧∃ g',Bk0 key a n g'∧PRm 0 n (fun i=>i) g'∧KT bd H H'∧Cl H' bd (cG (fun x=>[iv (v x)]) n g')) _ 0 ⟨rfl,rfl,Nat.zero_le _,fun i=>i,Bk0.init n,PRm.refl _ _ _,hk,hc⟩ ⟨rfl,rfl,rfl,rfl,rfl,rfl,trivial⟩ ?_
 rintro k a L1 ⟨rfl,ha,han,gx,hB,hp,hk,hc⟩
 refine Zc<|Za rfl<|Za rfl<|Wl (a:=((a:Int)+20)) (b:=(n:Int)) rfl rfl<|Zb ?_
 refine And.intro (fun q1=>?_) (fun q1=>?_)
 ·have q1:((a:Int)+20)≤(n:Int):=of_decide_eq_true q1
  first | refine Zl ?_ | skip
  refine Zc<|Za rfl<|Za rfl<|Za rfl<|Za rfl ?_
  obtain ⟨H1,gH1,fH1,pH1,sH1,kH1,cH1⟩:=ZbI (kn:=kn) (lo:=lo) (H:=L1) (by have:=hk.1;omega) hlb (by omega) (cap:=cap) hc (hp.dom (fun k q=>q) (Nat.le_refl _)) (hcmp.from hk.kp) (a:=a) (b:=(a+20)) (by omega) (by omega) (fun i j q1 q2 q3=>hB.ids i j q1 q2)
  refine Zx (vs:=[.slice (some ⟨bd,0,none⟩) n cap,iv (a:Int),iv ((a:Int)+20),.func (.func fc) #[] caps]) rfl (by have q:=Zi fH1;rw [show (((a+20):Nat):Int)=((a:Int)+20) by omega] at q;exact q) ?_
  have mH1:=kH1.1
  have hk:=hk.trans kH1
  have hc:=cH1
  have hp:=hp.trans (pH1.mono (by omega) (by omega) (by omega))
  have hB:=hB.step ha (by omega) (by omega) pH1 sH1
  refine Zb<|Zc<|Za rfl<|Za rfl<|Zb ?_
  show Zq _ _ _ _ _ _ _ _
  refine Za rfl<|Za rfl<|ZB (a:=((a:Int)+20)) (b:=20) rfl rfl ⟨by omega,by omega⟩<|Za rfl<|Zb ?_
  exact ⟨_,a+20,by omega,⟨rfl,by omega,by omega,_,hB,hp,hk,hc⟩,rfl,rfl,rfl,rfl,ivq (by omega),ivq (by omega),trivial⟩
 ·have q1:¬ (((a:Int)+20)≤(n:Int)):=of_decide_eq_false q1
  first | (refine ZE ?_;show wC _ _ _ _ _ _ _ _ _) | skip
  refine Zc<|Za rfl<|Za rfl<|Za rfl<|Za rfl ?_
  obtain ⟨H2,gH2,fH2,pH2,sH2,kH2,cH2⟩:=ZbI (kn:=kn) (lo:=lo) (H:=L1) (by have:=hk.1;omega) hlb (by omega) (cap:=cap) hc (hp.dom (fun k q=>q) (Nat.le_refl _)) (hcmp.from hk.kp) (a:=a) (b:=n) (by omega) (by omega) (fun i j q1 q2 q3=>hB.ids i j q1 q2)
  refine Zx (vs:=[.slice (some ⟨bd,0,none⟩) n cap,iv (a:Int),iv (n:Int),.func (.func fc) #[] caps]) rfl (Zi fH2) ?_
  have mH2:=kH2.1
  have hk:=hk.trans kH2
  have hc:=cH2
  have hp:=hp.trans (pH2.mono (by omega) (by omega) (by omega))
  have hB:=hB.step ha (by omega) (by omega) pH2 sH2
  refine Zb ?_
  have hB:=hB.low (Nat.le_refl _)
  refine ZA (fn:=Try.f82) ZhJ N82 Zjs (fun bs:Nat=>[(0,.slice (some ⟨bd,0,none⟩) n cap),(1,iv (n:Int)),(2,.func (.func fc) #[] caps),(6,iv (bs:Int))])
   (fun k bs H'=>k=400 - bs∧(Bs bs∨bs=160)∧∃ g',Bk key bs 0 n g'∧PRm 0 n (fun i=>i) g'∧KT bd H H'∧Cl H' bd (cG (fun x=>[iv (v x)]) n g')) _ 20 ⟨rfl,.inl (.inl rfl),_,hB,hp,hk,hc⟩ ⟨rfl,rfl,rfl,rfl,trivial⟩ ?_
  rintro k bs L2 ⟨rfl,hbs,gy,hB,hp,hk,hc⟩
  refine Zc<|Za rfl<|Za rfl<|ZM (a:=(bs:Int)) (b:=(n:Int)) rfl rfl<|Zb ?_
  refine And.intro (fun q2=>?_) (fun q2=>?_)
  ·have q2:(bs:Int) < (n:Int):=of_decide_eq_true q2
   first | refine Zl ?_ | skip
   refine Zc<|Za rfl<|V6 (a:=2) (b:=(bs:Int)) rfl rfl ⟨by omega,by omega⟩<|Za rfl<|Za rfl<|Zb ?_
   have hbs:Bs bs:=hbs.resolve_right (by omega)
   have hb0:20≤bs:=by unfold Bs at hbs;omega
   have hB:=hB.init2
   refine ZA (fn:=Try.f82) Zi7 N82 Zjv (fun a:Nat=>[(0,.slice (some ⟨bd,0,none⟩) n cap),(1,iv (n:Int)),(2,.func (.func fc) #[] caps),(6,iv (bs:Int)),(7,iv (a:Int)),(8,iv ((a:Int)+2 * (bs:Int)))])
    (fun k a H'=>k=n - a∧a % (2 * bs)=0∧a≤n∧∃ g',Bk2 key bs a n g'∧PRm 0 n (fun i=>i) g'∧KT bd H H'∧Cl H' bd (cG (fun x=>[iv (v x)]) n g')) _ 0 ⟨rfl,Nat.zero_mod _,Nat.zero_le _,_,hB,hp,hk,hc⟩ ⟨rfl,rfl,rfl,rfl,rfl,ivq (by omega),trivial⟩ ?_
   rintro k a L3 ⟨rfl,ha,han,gz,hB,hp,hk,hc⟩
   refine Zc<|Za rfl<|Za rfl<|Wl (a:=((a:Int)+2 * (bs:Int))) (b:=(n:Int)) rfl rfl<|Zb ?_
   refine And.intro (fun q3=>?_) (fun q3=>?_)
   ·have q3:((a:Int)+2 * (bs:Int))≤(n:Int):=of_decide_eq_true q3
    first | refine Zl ?_ | skip
    refine Zc<|Za rfl<|Za rfl<|Za rfl<|Za rfl<|ZB (a:=(a:Int)) (b:=(bs:Int)) rfl rfl ⟨by omega,by omega⟩<|Za rfl<|Za rfl ?_
    obtain ⟨q1H3,q2H3,q3H3⟩:=hB.hi.part hbs (ZeQ hbs ha) (m:=a+bs) (b:=(a+2 * bs)) (by omega) (by omega) (by omega) (by omega)
    obtain ⟨H3,gH3,fH3,pH3,sH3,kH3,cH3⟩:=qu (kn:=kn) (lo:=lo) hlo hlb (by omega) (cap:=cap) hcmp ((a+2 * bs) - a+1) L3 (a) (a+bs) ((a+2 * bs)) gz hk (by omega) (by omega) (by omega) (by omega) (hp.dom (fun k q=>q) (Nat.le_refl _)) q1H3 q2H3 q3H3 hc
    refine Zx (vs:=[.slice (some ⟨bd,0,none⟩) n cap,iv (a:Int),iv ((a:Int)+(bs:Int)),iv ((a:Int)+2 * (bs:Int)),.func (.func fc) #[] caps]) rfl (by have q:=Zi fH3;rw [show ((a+bs:Nat):Int)=(a:Int)+(bs:Int) by omega] at q;rw [show (((a+2 * bs):Nat):Int)=((a:Int)+2 * (bs:Int)) by omega] at q;exact q) ?_
    have mH3:=kH3.1
    have hk:=hk.trans kH3
    have hc:=cH3
    have hp:=hp.trans (pH3.mono (by omega) (by omega) (by omega))
    refine Zb<|Zc<|Za rfl<|Za rfl<|Zb ?_
    show Zq _ _ _ _ _ _ _ _
    refine Za rfl<|Za rfl<|V6 (a:=2) (b:=(bs:Int)) rfl rfl ⟨by omega,by omega⟩<|ZB (a:=((a:Int)+2 * (bs:Int))) (b:=2 * (bs:Int)) rfl rfl ⟨by omega,by omega⟩<|Za rfl<|Zb ?_
    obtain ⟨hB,ha⟩:=hB.next hbs ha (b:=a+2 * bs) rfl (by omega) pH3 sH3
    exact ⟨_,a+2 * bs,by omega,⟨rfl,ha,by omega,_,hB,hp,hk,hc⟩,rfl,rfl,rfl,rfl,ivq (by omega),ivq (by omega),trivial⟩
   ·have q3:¬ (((a:Int)+2 * (bs:Int))≤(n:Int)):=of_decide_eq_false q3
    first | (refine ZE ?_;show wC _ _ _ _ _ _ _ _ _) | skip
    refine Zc<|Za rfl<|Za rfl<|ZB (a:=(a:Int)) (b:=(bs:Int)) rfl rfl ⟨by omega,by omega⟩<|Za rfl<|Zb<|Zc<|Za rfl<|Za rfl<|ZM (a:=(a:Int)+(bs:Int)) (b:=(n:Int)) rfl rfl<|Zb ?_
    refine And.intro (fun q4=>?_) (fun q4=>?_)
    ·have q4:((a:Int)+(bs:Int)) < (n:Int):=of_decide_eq_true q4
     refine Zc<|Za rfl<|Za rfl<|Za rfl<|Za rfl<|Za rfl ?_
     obtain ⟨q1H4,q2H4,q3H4⟩:=hB.hi.part hbs (ZeQ hbs ha) (m:=a+bs) (b:=n) (by omega) (by omega) (by omega) (by omega)
     obtain ⟨H4,gH4,fH4,pH4,sH4,kH4,cH4⟩:=qu (kn:=kn) (lo:=lo) hlo hlb (by omega) (cap:=cap) hcmp (n - a+1) L3 (a) (a+bs) (n) gz hk (by omega) (by omega) (by omega) (by omega) (hp.dom (fun k q=>q) (Nat.le_refl _)) q1H4 q2H4 q3H4 hc
     refine Zx (vs:=[.slice (some ⟨bd,0,none⟩) n cap,iv (a:Int),iv ((a:Int)+(bs:Int)),iv (n:Int),.func (.func fc) #[] caps]) rfl (by have q:=Zi fH4;rw [show ((a+bs:Nat):Int)=(a:Int)+(bs:Int) by omega] at q;exact q) ?_
     have mH4:=kH4.1
     have hk:=hk.trans kH4
     have hc:=cH4
     have hp:=hp.trans (pH4.mono (by omega) (by omega) (by omega))
     refine Zb ?_
     show Zq _ _ _ _ _ _ _ _
     have hB2:=hB.step hbs ha (by omega) (by omega) (Nat.le_refl _) pH4 sH4
     refine Za rfl<|V6 (a:=(bs:Int)) (b:=2) rfl rfl ⟨by omega,by omega⟩<|Za rfl<|Zb ?_
     exact ⟨_,2 * bs,by unfold Bs at hbs;omega,⟨rfl,by unfold Bs at hbs ⊢;omega,_,hB2,hp,hk,hc⟩,rfl,rfl,rfl,ivq (by omega),trivial⟩
    ·have q4:¬ (((a:Int)+(bs:Int)) < (n:Int)):=of_decide_eq_false q4
     have hB2:=hB.last hbs ha han (by omega)
     first | refine Zl ?_ | skip
     show Zq _ _ _ _ _ _ _ _
     refine Za rfl<|V6 (a:=(bs:Int)) (b:=2) rfl rfl ⟨by omega,by omega⟩<|Za rfl<|Zb ?_
     exact ⟨_,2 * bs,by unfold Bs at hbs;omega,⟨rfl,by unfold Bs at hbs ⊢;omega,_,hB2,hp,hk,hc⟩,rfl,rfl,rfl,ivq (by omega),trivial⟩
  ·have q2:¬ ((bs:Int) < (n:Int)):=of_decide_eq_false q2
   first | (refine ZE ?_;show wC _ _ _ _ _ _ _ _ _) | skip
   exact And.intro trivial (Exists.intro _ (And.intro rfl ⟨rfl,gy,hp,hB.all (by omega),hk,hc⟩))
set_option maxRecDepth 100000 in
set_option maxHeartbeats 2000000 in
theorem ZbH (hlo:lo≤H.next) {bd cap n:Nat} {v:Nat→Int} (hlb:lo≤bd) (hn:n≤160) (hc:Cl H bd (cG (fun x=>[iv (v x)]) n fun i=>i)) {fc:FuncId} {caps:Array Value} {key:Nat→Int} (hcmp:Uq Try.prog kn lo bd fc caps (fun x=>iv (v x)) n key H):∃ H' g',FnX Try.prog kn lo 73 [.slice (some ⟨bd,0,none⟩) n cap,.func (.func fc) #[] caps] H (.tuple #[]) H'∧PRm 0 n (fun i=>i) g'∧So key 0 n g'∧KT bd H H'∧Cl H' bd (cG (fun x=>[iv (v x)]) n g'):=by
 have key_:=Zs (kn:=kn) (lo:=lo) (H:=H) (args:=[.slice (some ⟨bd,0,none⟩) n cap,.func (.func fc) #[] caps]) (Q:=fun w H'=>w=.tuple #[]∧∃ g',PRm 0 n (fun i=>i) g'∧So key 0 n g'∧KT bd H H'∧Cl H' bd (cG (fun x=>[iv (v x)]) n g')) Try.func73 B73 N73 Z73 L73 (by simp) ?_
 ·obtain ⟨w,H',h,rfl,g',r⟩:=key_;exact ⟨H',g',h,r⟩
 have hk:=KT.refl (H:=H) hc.1
 show Zq _ _ _ _ _ _ _ _
 refine Za rfl<|Za rfl<|Yz (m:=n) rfl<|Za rfl ?_
 obtain ⟨H1,gH1,fH1,pH1,sH1,kH1,cH1⟩:=Zax (kn:=kn) (lo:=lo) (H:=H) hlo hlb hn (cap:=cap) hc hcmp
 refine Zx (vs:=[.slice (some ⟨bd,0,none⟩) n cap,iv (n:Int),.func (.func fc) #[] caps]) rfl (Zi fH1) ?_
 have hk:=kH1;have hc:=cH1
 refine Zb ?_
 exact And.intro trivial (Exists.intro _ (And.intro rfl ⟨rfl,gH1,pH1,sH1,hk,hc⟩))
end
end
end Go.Ax

/-
 Pool: sorting that keeps the order: swaps,turns,insertion (written by program).
-/
namespace Go.Ax
open Go Go.RowKit Go.Proofs

noncomputable section
section
variable {kn:Kn} {lo:Nat} {H:Hp}
set_option maxRecDepth 100000 in
set_option maxHeartbeats 2000000 in
theorem yW (hlo:lo≤H.next) {bd cap n:Nat} {g:Nat→Nat} {v u:Nat→Int} (hlb:lo≤bd) (hn:n≤1000000) (hc:Cl H bd (cG (fun x=>[iv (v x),iv (u x)]) n g)) {cv:Value} {a b c:Nat} (hab:a+c≤b) (hb:b+c≤n):∃ H',FnX Try.prog kn lo 105 [.slice (some ⟨bd,0,none⟩) n cap,iv (a:Int),iv (b:Int),iv (c:Int),cv] H (.tuple #[]) H'∧PRm a (b+c) g (swr g a b c)∧KT bd H H'∧Cl H' bd (cG (fun x=>[iv (v x),iv (u x)]) n (swr g a b c)):=by
 have key_:=Zs (kn:=kn) (lo:=lo) (H:=H) (args:=[.slice (some ⟨bd,0,none⟩) n cap,iv (a:Int),iv (b:Int),iv (c:Int),cv]) (Q:=fun w H'=>w=.tuple #[]∧PRm a (b+c) g (swr g a b c)∧KT bd H H'∧Cl H' bd (cG (fun x=>[iv (v x),iv (u x)]) n (swr g a b c))) Try.func105 Zkz ZhS Zks ZjO (by simp) ?_
 ·obtain ⟨w,H',h,rfl,r⟩:=key_;exact ⟨H',h,r⟩
 have hk:=KT.refl (H:=H) hc.1
 refine Zc<|Za rfl<|Zb ?_
 refine ZA (fn:=Try.f105) ZgP ZhS Zgx (fun i:Nat=>[(0,.slice (some ⟨bd,0,none⟩) n cap),(1,iv (a:Int)),(2,iv (b:Int)),(3,iv (c:Int)),(10,iv (i:Int))])
  (fun k i H'=>i+k=c∧PRm a (b+c) g (swr g a b i)∧KT bd H H'∧Cl H' bd (cG (fun x=>[iv (v x),iv (u x)]) n (swr g a b i))) c 0 ⟨by omega,by rw [Ji];exact PRm.refl _ _ _,hk,by rw [Ji];exact hc⟩ ⟨rfl,rfl,rfl,rfl,rfl,trivial⟩ ?_
 rintro k i L1 ⟨hik,hp,hk,hc⟩
 refine Zc<|Za rfl<|Za rfl<|ZM (a:=(i:Int)) (b:=(c:Int)) rfl rfl<|Zb ?_
 refine And.intro (fun q1=>?_) (fun q1=>?_)
 ·have q1:(i:Int) < (c:Int):=of_decide_eq_true q1
  first | refine Zl ?_ | skip
  first | refine Yc ?_ | refine WB ?_ | refine VC ?_ | (refine YV ?_;refine Yc ?_)
  refine Ze rfl<|Ze rfl<|Ze rfl<|X5 (a:=(a:Int)) (b:=(i:Int)) rfl rfl ⟨by omega,by omega⟩<|Ze rfl<|Ze rfl<|Ze rfl<|X5 (a:=(b:Int)) (b:=(i:Int)) rfl rfl ⟨by omega,by omega⟩<|Ze rfl<|Ze rfl<|Ze rfl<|X5 (a:=(b:Int)) (b:=(i:Int)) rfl rfl ⟨by omega,by omega⟩<|Zw (b:=bd) (o:=0) (k:=b+i) (j:=(b:Int)+(i:Int)) rfl rfl (by omega) (by omega)<|YF (b:=bd) (o:=0+(b+i) * 2) rfl hc.rd (XH (z:=2) (fun _=>rfl) (by omega))<|Ze rfl<|Ze rfl<|Ze rfl<|X5 (a:=(a:Int)) (b:=(i:Int)) rfl rfl ⟨by omega,by omega⟩<|Zw (b:=bd) (o:=0) (k:=a+i) (j:=(a:Int)+(i:Int)) rfl rfl (by omega) (by omega)<|YF (b:=bd) (o:=0+(a+i) * 2) rfl hc.rd (XH (z:=2) (fun _=>rfl) (by omega))<|Zw (b:=bd) (o:=0) (k:=a+i) (j:=(a:Int)+(i:Int)) rfl rfl (by omega) (by omega)<|Vx (b:=bd) (o:=0+(a+i) * 2) rfl rfl hc hlb rfl rfl (by rw [XS (z:=2) (fun _=>rfl)];omega) ?_
  intro H1 kH1 nH1 sH1 tH1
  have mH1:=kH1.1
  have hk:=hk.put kH1 tH1
  have hc:Cl H1 bd (cG (fun x=>[iv (v x),iv (u x)]) n (upd (swr g a b i) (a+i) ((swr g a b i) (b+i)))):=by rw [← Uc (z:=2) (fun _=>rfl) (by omega)];exact sH1
  refine Zw (b:=bd) (o:=0) (k:=b+i) (j:=(b:Int)+(i:Int)) rfl rfl (by omega) (by omega)<|Vx (b:=bd) (o:=0+(b+i) * 2) rfl rfl hc hlb rfl rfl (by rw [XS (z:=2) (fun _=>rfl)];omega) ?_
  intro H2 kH2 nH2 sH2 tH2
  have mH2:=kH2.1
  have hk:=hk.put kH2 tH2
  have hc:Cl H2 bd (cG (fun x=>[iv (v x),iv (u x)]) n (upd (upd (swr g a b i) (a+i) ((swr g a b i) (b+i))) (b+i) ((swr g a b i) (a+i)))):=by rw [← Uc (z:=2) (fun _=>rfl) (by omega)];exact sH2
  have hc:Cl H2 bd (cG (fun x=>[iv (v x),iv (u x)]) n (swp (swr g a b i) (a+i) (b+i))):=hc
  refine ZJ (by repeat' first | exact True.intro | exact (fun h=>h) | refine And.intro ?_ ?_ | (intro h;have h:(_:Nat)=_:=h;omega)) ?_
  show Zq _ _ _ _ _ _ _ _
  refine Za rfl<|ZB (a:=(i:Int)) (b:=1) rfl rfl ⟨by omega,by omega⟩<|Za rfl<|Zb ?_
  rw [Jw hab (by omega)] at hc
  exact ⟨k - 1,i+1,by omega,⟨by omega,by rw [← Jw hab (by omega)];exact hp.trans (PRm.swap (by omega) (by omega) (by omega) (by omega)),hk,hc⟩,rfl,rfl,rfl,rfl,ivq (by omega),trivial⟩
 ·have q1:¬ ((i:Int) < (c:Int)):=of_decide_eq_false q1
  first | (refine ZE ?_;show wC _ _ _ _ _ _ _ _ _) | skip
  obtain rfl:i=c:=by omega
  exact And.intro trivial (Exists.intro _ (And.intro rfl ⟨rfl,hp,hk,hc⟩))
set_option maxRecDepth 100000 in
set_option maxHeartbeats 2000000 in
theorem ZeH (hlo:lo≤H.next) {bd cap n:Nat} {g:Nat→Nat} {v u:Nat→Int} (hlb:lo≤bd) (hn:n≤1000000) (hc:Cl H bd (cG (fun x=>[iv (v x),iv (u x)]) n g)) {cv:Value} {a m b:Nat} (ham:a < m) (hmb:m < b) (hb:b≤n):∃ H',FnX Try.prog kn lo 98 [.slice (some ⟨bd,0,none⟩) n cap,iv (a:Int),iv (m:Int),iv (b:Int),cv] H (.tuple #[]) H'∧PRm a b g (rot g a m b)∧KT bd H H'∧Cl H' bd (cG (fun x=>[iv (v x),iv (u x)]) n (rot g a m b)):=by
 have key_:=Zs (kn:=kn) (lo:=lo) (H:=H) (args:=[.slice (some ⟨bd,0,none⟩) n cap,iv (a:Int),iv (m:Int),iv (b:Int),cv]) (Q:=fun w H'=>w=.tuple #[]∧PRm a b g (rot g a m b)∧KT bd H H'∧Cl H' bd (cG (fun x=>[iv (v x),iv (u x)]) n (rot g a m b))) Try.func98 B98 N98 Z98 L98 (by simp) ?_
 ·obtain ⟨w,H',h,rfl,r⟩:=key_;exact ⟨H',h,r⟩
 have hk:=KT.refl (H:=H) hc.1
 refine Zc<|Za rfl<|Za rfl<|Z8 (a:=(m:Int)) (b:=(a:Int)) rfl rfl ⟨by omega,by omega⟩<|Za rfl<|Zb<|Zc<|Za rfl<|Za rfl<|Z8 (a:=(b:Int)) (b:=(m:Int)) rfl rfl ⟨by omega,by omega⟩<|Za rfl<|Zb ?_
 refine ZA (fn:=Try.f98) Ziw N98 Zjb (fun x:Nat × Nat=>[(0,.slice (some ⟨bd,0,none⟩) n cap),(2,iv (m:Int)),(4,cv),(10,iv (x.1:Int)),(11,iv (x.2:Int))])
  (fun k x H'=>k=x.1+x.2∧0 < x.1∧0 < x.2∧x.1≤m - a∧x.2≤b - m∧∃ g',rot g' (m - x.1) m (m+x.2)=rot g a m b∧PRm a b g g'∧KT bd H H'∧Cl H' bd (cG (fun x=>[iv (v x),iv (u x)]) n g')) _ (m - a,b - m) ⟨rfl,by simp only [];omega,by simp only [];omega,Nat.le_refl _,Nat.le_refl _,g,by simp only [];rw [show m - (m - a)=a by omega,show m+(b - m)=b by omega],PRm.refl _ _ _,hk,hc⟩ ⟨rfl,rfl,rfl,ivq (by simp only [];omega),ivq (by simp only [];omega),trivial⟩ ?_
 rintro k ⟨i,j⟩ L1 ⟨rfl,hi1,hj1,hi2,hj2,gx,hr,hp,hk,hc⟩
 simp only [] at hi1 hj1 hi2 hj2 hr
 refine Zc<|Za rfl<|Za rfl<|UO (a:=(i:Int)) (b:=(j:Int)) rfl rfl<|Zb ?_
 refine And.intro (fun q1=>?_) (fun q1=>?_)
 ·have q1:(i:Int)≠(j:Int):=by simpa using q1
  first | refine Zl ?_ | skip
  refine Zc<|Za rfl<|Za rfl<|Vo (a:=(i:Int)) (b:=(j:Int)) rfl rfl<|Zb ?_
  refine And.intro (fun q2=>?_) (fun q2=>?_)
  ·have q2:(i:Int) > (j:Int):=of_decide_eq_true q2
   refine Zc<|Za rfl<|Za rfl<|Za rfl<|Z8 (a:=(m:Int)) (b:=(i:Int)) rfl rfl ⟨by omega,by omega⟩<|Za rfl<|Za rfl<|Za rfl ?_
   obtain ⟨H1,fH1,pH1,kH1,cH1⟩:=yW (kn:=kn) (lo:=lo) (H:=L1) (by have:=hk.1;omega) hlb hn (cap:=cap) hc (cv:=cv) (a:=m - i) (b:=m) (c:=j) (by omega) (by omega)
   refine Zx (vs:=[.slice (some ⟨bd,0,none⟩) n cap,iv ((m:Int) - (i:Int)),iv (m:Int),iv (j:Int),cv]) rfl (by have q:=Zi fH1;rw [show ((m - i:Nat):Int)=(m:Int) - (i:Int) by omega] at q;exact q) ?_
   have mH1:=kH1.1
   have hk:=hk.trans kH1
   have hc:=cH1
   have hp:=hp.trans (pH1.mono (by omega) (by omega) (by omega))
   refine Zb ?_
   show Zq _ _ _ _ _ _ _ _
   refine Za rfl<|Za rfl<|Z8 (a:=(i:Int)) (b:=(j:Int)) rfl rfl ⟨by omega,by omega⟩<|Za rfl<|Zb ?_
   rw [jk (i:=i) (j:=j) (by omega) (by omega)] at hr
   exact ⟨_,(i - j,j),by simp only [];omega,⟨rfl,by omega,by omega,by simp only [];omega,by omega,_,hr,hp,hk,hc⟩,rfl,rfl,rfl,ivq (by simp only [];omega),rfl,trivial⟩
  ·have q2:¬ ((i:Int) > (j:Int)):=of_decide_eq_false q2
   refine Zc<|Za rfl<|Za rfl<|Za rfl<|Z8 (a:=(m:Int)) (b:=(i:Int)) rfl rfl ⟨by omega,by omega⟩<|Za rfl<|Za rfl<|ZB (a:=(m:Int)) (b:=(j:Int)) rfl rfl ⟨by omega,by omega⟩<|Za rfl<|Z8 (a:=(m:Int)+(j:Int)) (b:=(i:Int)) rfl rfl ⟨by omega,by omega⟩<|Za rfl<|Za rfl ?_
   obtain ⟨H2,fH2,pH2,kH2,cH2⟩:=yW (kn:=kn) (lo:=lo) (H:=L1) (by have:=hk.1;omega) hlb hn (cap:=cap) hc (cv:=cv) (a:=m - i) (b:=(m+j) - i) (c:=i) (by omega) (by omega)
   refine Zx (vs:=[.slice (some ⟨bd,0,none⟩) n cap,iv ((m:Int) - (i:Int)),iv (((m:Int)+(j:Int)) - (i:Int)),iv (i:Int),cv]) rfl (by have q:=Zi fH2;rw [show ((m - i:Nat):Int)=(m:Int) - (i:Int) by omega] at q;rw [show (((m+j) - i:Nat):Int)=((m:Int)+(j:Int)) - (i:Int) by omega] at q;exact q) ?_
   have mH2:=kH2.1
   have hk:=hk.trans kH2
   have hc:=cH2
   have hp:=hp.trans (pH2.mono (by omega) (by omega) (by omega))
   refine Zb ?_
   show Zq _ _ _ _ _ _ _ _
   refine Za rfl<|Za rfl<|Z8 (a:=(j:Int)) (b:=(i:Int)) rfl rfl ⟨by omega,by omega⟩<|Za rfl<|Zb ?_
   rw [yz (i:=i) (j:=j) (by omega) (by omega)] at hr
   exact ⟨_,(i,j - i),by simp only [];omega,⟨rfl,by omega,by omega,by omega,by simp only [];omega,_,hr,hp,hk,hc⟩,rfl,rfl,rfl,rfl,ivq (by simp only [];omega),trivial⟩
 ·have q1:¬ ((i:Int)≠(j:Int)):=by simpa using q1
  first | (refine ZE ?_;show wC _ _ _ _ _ _ _ _ _) | skip
  show Zq _ _ _ _ _ _ _ _
  refine Za rfl<|Za rfl<|Za rfl<|Z8 (a:=(m:Int)) (b:=(i:Int)) rfl rfl ⟨by omega,by omega⟩<|Za rfl<|Za rfl<|Za rfl ?_
  obtain ⟨H3,fH3,pH3,kH3,cH3⟩:=yW (kn:=kn) (lo:=lo) (H:=L1) (by have:=hk.1;omega) hlb hn (cap:=cap) hc (cv:=cv) (a:=m - i) (b:=m) (c:=i) (by omega) (by omega)
  refine Zx (vs:=[.slice (some ⟨bd,0,none⟩) n cap,iv ((m:Int) - (i:Int)),iv (m:Int),iv (i:Int),cv]) rfl (by have q:=Zi fH3;rw [show ((m - i:Nat):Int)=(m:Int) - (i:Int) by omega] at q;exact q) ?_
  have mH3:=kH3.1
  have hk:=hk.trans kH3
  have hc:=cH3
  have hp:=hp.trans (pH3.mono (by omega) (by omega) (by omega))
  refine Zb ?_
  obtain rfl:i=j:=by omega
  rw [ju (by omega),hr] at hc hp
  exact And.intro trivial (Exists.intro _ (And.intro rfl ⟨rfl,hp,hk,hc⟩))
set_option maxRecDepth 100000 in
set_option maxHeartbeats 2000000 in
theorem ZbX (hlo:lo≤H.next) {bd cap n:Nat} {g:Nat→Nat} {v u:Nat→Int} (hlb:lo≤bd) (hn:n≤1000000) (hc:Cl H bd (cG (fun x=>[iv (v x),iv (u x)]) n g)) (hd:∀ k,k < n→g k < n) {fc:FuncId} {caps:Array Value} {key:Nat→Int} (hcmp:Uq Try.prog kn lo bd fc caps (fun x=>.agg #[iv (v x),iv (u x)]) n key H) {a b:Nat} (hab:a≤b) (hb:b≤n) (hid:∀ i j,a≤i→i < j→j < b→g i < g j):∃ H' g',FnX Try.prog kn lo 83 [.slice (some ⟨bd,0,none⟩) n cap,iv (a:Int),iv (b:Int),.func (.func fc) #[] caps] H (.tuple #[]) H'∧PRm a b g g'∧So key a b g'∧KT bd H H'∧Cl H' bd (cG (fun x=>[iv (v x),iv (u x)]) n g'):=by
 have key_:=Zs (kn:=kn) (lo:=lo) (H:=H) (args:=[.slice (some ⟨bd,0,none⟩) n cap,iv (a:Int),iv (b:Int),.func (.func fc) #[] caps]) (Q:=fun w H'=>w=.tuple #[]∧∃ g',PRm a b g g'∧So key a b g'∧KT bd H H'∧Cl H' bd (cG (fun x=>[iv (v x),iv (u x)]) n g')) Try.func83 B83 N83 Z83 L83 (by simp) ?_
 ·obtain ⟨w,H',h,rfl,g',r⟩:=key_;exact ⟨H',g',h,r⟩
 have hk:=KT.refl (H:=H) hc.1
 refine Zc<|Za rfl<|ZB (a:=(a:Int)) (b:=1) rfl rfl ⟨by omega,by omega⟩<|Za rfl<|Zb ?_
 refine ZA (fn:=Try.f83) Zgn N83 Zgi (fun i:Nat=>[(0,.slice (some ⟨bd,0,none⟩) n cap),(1,iv (a:Int)),(2,iv (b:Int)),(3,.func (.func fc) #[] caps),(8,iv (i:Int))])
  (fun k i H'=>k=b+1 - i∧a+1≤i∧∃ g':Nat→Nat,PRm a (min i b) g g'∧So key a i g'∧KT bd H H'∧Cl H' bd (cG (fun x=>[iv (v x),iv (u x)]) n g')) _ (a+1) ⟨rfl,Nat.le_refl _,g,PRm.refl _ _ _,So.one,hk,hc⟩ ⟨rfl,rfl,rfl,rfl,ivq (by omega),trivial⟩ ?_
 rintro k i L1 ⟨rfl,hi1,gx1,hp,hs,hk,hc⟩
 refine Zc<|Za rfl<|Za rfl<|ZM (a:=(i:Int)) (b:=(b:Int)) rfl rfl<|Zb ?_
 refine And.intro (fun q1=>?_) (fun q1=>?_)
 ·have q1:(i:Int) < (b:Int):=of_decide_eq_true q1
  first | refine Zl ?_ | skip
  refine Zc<|Za rfl<|Za rfl<|Zb ?_
  rw [Nat.min_eq_left (by omega)] at hp
  have hib:i < b:=by omega
  refine ZA (fn:=Try.f83) Zi0 N83 Zjd (fun j:Nat=>[(0,.slice (some ⟨bd,0,none⟩) n cap),(1,iv (a:Int)),(2,iv (b:Int)),(3,.func (.func fc) #[] caps),(8,iv (i:Int)),(9,iv (j:Int))])
   (fun k j H'=>k=j+1∧∃ g':Nat→Nat,PRm a (i+1) g g'∧Inl key a i j g'∧KT bd H H'∧Cl H' bd (cG (fun x=>[iv (v x),iv (u x)]) n g')) _ i ⟨rfl,gx1,hp.mono (Nat.le_refl _) (by omega) (by omega),Inl.init hs (Zdo hp hid hib) (by omega),hk,hc⟩ ⟨rfl,rfl,rfl,rfl,rfl,rfl,trivial⟩ ?_
  rintro k j L2 ⟨rfl,gx2,hp,hin,hk,hc⟩
  have qaj:=hin.aj;have qji:=hin.ji;have hdm:=hp.dom hd (by omega)
  refine Y0<|Ze rfl<|Ze rfl<|VF (a:=(j:Int)) (b:=(a:Int)) rfl rfl ?_
  intro t2 g2;cases t2
  ·have g2:¬ ((j:Int) > (a:Int)):=of_decide_eq_false g2
   refine Ze rfl<|Zz rfl<|Zz rfl<|Zz rfl<|Zz rfl<|Zz rfl<|Zz rfl<|Zz rfl<|Zz rfl<|Zz rfl<|Zz rfl<|Zz rfl<|Zz rfl<|ZR (v:=.bool false) rfl rfl ?_
   refine ZJ (by repeat' first | exact True.intro | exact (fun h=>h) | refine And.intro ?_ ?_ | (intro h;have h:(_:Nat)=_:=h;omega)) ?_
   refine ZQ ?_
   first | (refine ZE ?_;show wC _ _ _ _ _ _ _ _ _) | skip
   show Zq _ _ _ _ _ _ _ _
   refine Za rfl<|ZB (a:=(i:Int)) (b:=1) rfl rfl ⟨by omega,by omega⟩<|Za rfl<|Zb ?_
   exact ⟨_,i+1,by omega,⟨rfl,by omega,gx2,by rw [Nat.min_eq_left (by omega)];exact hp,hin.done (fun h=>by omega),hk,hc⟩,rfl,rfl,rfl,rfl,ivq (by omega),trivial⟩
  ·have g2:(j:Int) > (a:Int):=of_decide_eq_true g2
   refine Ze rfl ?_
   refine Zr rfl (Ze rfl ?_)
   refine Zr rfl (Ze rfl ?_)
   refine Zr rfl (Ze rfl ?_)
   refine Zr rfl (Zw (b:=bd) (o:=0) (k:=j) (j:=(j:Int)) rfl rfl (by omega) (by omega) ?_)
   refine Zr rfl (YF (b:=bd) (o:=0+j * 2) rfl hc.rd (XH (z:=2) (fun _=>rfl) (by omega)) ?_)
   refine Zr rfl (Ze rfl ?_)
   refine Zr rfl (Ze rfl ?_)
   refine Zr rfl (Xd (a:=(j:Int)) (b:=1) rfl rfl ⟨by omega,by omega⟩ ?_)
   refine Zr rfl (Zw (b:=bd) (o:=0) (k:=j - 1) (j:=(j:Int) - 1) rfl rfl (by omega) (by omega) ?_)
   refine Zr rfl (YF (b:=bd) (o:=0+(j - 1) * 2) rfl hc.rd (XH (z:=2) (fun _=>rfl) (by omega)) ?_)
   obtain ⟨rH1,H1,fH1,kH1,qH1⟩:=hcmp L2 hk.kp (gx2 j) (gx2 (j - 1)) (hdm _ (by omega)) (hdm _ (by omega))
   refine Zr rfl (Yy (vs:=[.agg #[iv (v (gx2 j)),iv (u (gx2 j))],.agg #[iv (v (gx2 (j - 1))),iv (u (gx2 (j - 1)))]]) rfl fH1 ?_)
   have mH1:=kH1.1
   have hc:=kH1.cl hc (by simp)
   have hk:=hk.keep kH1
   refine Zr rfl (VL (a:=rH1) (b:=0) rfl rfl ?_)
   intro t3 g3;cases t3
   ·have g3:¬ (rH1 < 0):=of_decide_eq_false g3
    refine ZR (v:=.bool false) rfl rfl ?_
    refine ZJ (by repeat' first | exact True.intro | exact (fun h=>h) | refine And.intro ?_ ?_ | (intro h;have h:(_:Nat)=_:=h;omega)) ?_
    refine ZQ ?_
    first | (refine ZE ?_;show wC _ _ _ _ _ _ _ _ _) | skip
    show Zq _ _ _ _ _ _ _ _
    refine Za rfl<|ZB (a:=(i:Int)) (b:=1) rfl rfl ⟨by omega,by omega⟩<|Za rfl<|Zb ?_
    exact ⟨_,i+1,by omega,⟨rfl,by omega,gx2,by rw [Nat.min_eq_left (by omega)];exact hp,hin.done (fun h=>by omega),hk,hc⟩,rfl,rfl,rfl,rfl,ivq (by omega),trivial⟩
   ·have g3:rH1 < 0:=of_decide_eq_true g3
    refine ZR (v:=.bool true) rfl rfl ?_
    refine ZJ (by repeat' first | exact True.intro | exact (fun h=>h) | refine And.intro ?_ ?_ | (intro h;have h:(_:Nat)=_:=h;omega)) ?_
    refine YN ?_
    first | refine Zl ?_ | skip
    first | refine Yc ?_ | refine WB ?_ | refine VC ?_ | (refine YV ?_;refine Yc ?_)
    refine Ze rfl<|Ze rfl<|Ze rfl<|Ze rfl<|Xd (a:=(j:Int)) (b:=1) rfl rfl ⟨by omega,by omega⟩<|Ze rfl<|Ze rfl<|Xd (a:=(j:Int)) (b:=1) rfl rfl ⟨by omega,by omega⟩<|Zw (b:=bd) (o:=0) (k:=j - 1) (j:=(j:Int) - 1) rfl rfl (by omega) (by omega)<|YF (b:=bd) (o:=0+(j - 1) * 2) rfl hc.rd (XH (z:=2) (fun _=>rfl) (by omega))<|Ze rfl<|Ze rfl<|Zw (b:=bd) (o:=0) (k:=j) (j:=(j:Int)) rfl rfl (by omega) (by omega)<|YF (b:=bd) (o:=0+j * 2) rfl hc.rd (XH (z:=2) (fun _=>rfl) (by omega))<|Zw (b:=bd) (o:=0) (k:=j) (j:=(j:Int)) rfl rfl (by omega) (by omega)<|Vx (b:=bd) (o:=0+j * 2) rfl rfl hc hlb rfl rfl (by rw [XS (z:=2) (fun _=>rfl)];omega) ?_
    intro H2 kH2 nH2 sH2 tH2
    have mH2:=kH2.1
    have hk:=hk.put kH2 tH2
    have hc:Cl H2 bd (cG (fun x=>[iv (v x),iv (u x)]) n (upd gx2 j (gx2 (j - 1)))):=by rw [← Uc (z:=2) (fun _=>rfl) (by omega)];exact sH2
    refine Zw (b:=bd) (o:=0) (k:=j - 1) (j:=(j:Int) - 1) rfl rfl (by omega) (by omega)<|Vx (b:=bd) (o:=0+(j - 1) * 2) rfl rfl hc hlb rfl rfl (by rw [XS (z:=2) (fun _=>rfl)];omega) ?_
    intro H3 kH3 nH3 sH3 tH3
    have mH3:=kH3.1
    have hk:=hk.put kH3 tH3
    have hc:Cl H3 bd (cG (fun x=>[iv (v x),iv (u x)]) n (upd (upd gx2 j (gx2 (j - 1))) (j - 1) (gx2 j))):=by rw [← Uc (z:=2) (fun _=>rfl) (by omega)];exact sH3
    have hc:Cl H3 bd (cG (fun x=>[iv (v x),iv (u x)]) n (swp gx2 j (j - 1))):=hc
    refine ZJ (by repeat' first | exact True.intro | exact (fun h=>h) | refine And.intro ?_ ?_ | (intro h;have h:(_:Nat)=_:=h;omega)) ?_
    show Zq _ _ _ _ _ _ _ _
    refine Za rfl<|Z8 (a:=(j:Int)) (b:=1) rfl rfl ⟨by omega,by omega⟩<|Za rfl<|Zb ?_
    exact ⟨_,j - 1,by omega,⟨rfl,_,hp.trans (PRm.swap (by omega) (by omega) (by omega) (by omega)),hin.step (by omega) (by omega),hk,hc⟩,rfl,rfl,rfl,rfl,rfl,ivq (by omega),trivial⟩
 ·have q1:¬ ((i:Int) < (b:Int)):=of_decide_eq_false q1
  first | (refine ZE ?_;show wC _ _ _ _ _ _ _ _ _) | skip
  exact And.intro trivial (Exists.intro _ (And.intro rfl ⟨rfl,gx1,by rw [Nat.min_eq_right (by omega)] at hp;exact hp,hs.mono (Nat.le_refl _) (by omega),hk,hc⟩))
end
end
end Go.Ax

/-
 Pool: sorting that keeps the order: merging in place (written by program).
-/
namespace Go.Ax
open Go Go.RowKit Go.Proofs

noncomputable section
noncomputable def R84v:RC:=(.seq (.seq (.reg [oM 25 2,oM 26 1,oS 27 .sub 25 26,oQ 28 .eql 27 1])
 (.cond (.tmp 28) (.seq (.reg [oM 29 2,oM 10 29])
 (.seq (.reg [oM 30 3,oM 11 30])
 (.seq (.block 0 (.other (at_ Try.f84 [0,1,0,1,1,0,0])))
 (.seq (.seq (.reg [oM 54 1,oM 13 54])
 (.block 2 (.other (at_ Try.f84 [0,1,0,1,1,1,0,1,0]))))
 .ret))))
 .skip))
 (.seq (.seq (.reg [oM 77 3,oM 78 2,oS 79 .sub 77 78,oQ 80 .eql 79 1])
 (.cond (.tmp 80) (.seq (.reg [oM 81 1,oM 14 81])
 (.seq (.reg [oM 82 2,oM 15 82])
 (.seq (.block 4 (.other (at_ Try.f84 [1,0,1,0,1,1,0,0])))
 (.seq (.seq (.reg [oM 107 2,oM 17 107])
 (.block 6 (.other (at_ Try.f84 [1,0,1,0,1,1,1,0,1,0]))))
 .ret))))
 .skip))
 (.seq (.reg [oM 129 1, oM 130 3, oS 131 .add 129 130, ⟨some 132, none, (.pur ⟨some 132, (.convert 3 109 (.tmp 131)), 109, "", #[], none⟩)⟩, ⟨some 133, none, (.pur ⟨some 133, (.binOp .shr 109 (.tmp 132) (.const (.int .u64 1)) 109), 109, "", #[], none⟩)⟩, ⟨some 134, none, (.pur ⟨some 134, (.convert 109 3 (.tmp 133)), 3, "", #[], none⟩)⟩, oM 18 134])
 (.seq (.reg [oM 135 18,oM 136 2,oS 137 .add 135 136,oM 19 137])
 (.seq (.reg [oN 20 0,oN 21 0])
 (.seq (.seq (.reg [oM 138 2,oM 139 18,⟨some 140,none,(.cmp .gtr (.tmp 138) (.tmp 139))⟩])
 (.cond (.tmp 140) (.seq (.reg [oM 141 19,oM 142 3,oS 143 .sub 141 142,oM 20 143])
 (.reg [oM 144 18,oM 21 144]))
 (.seq (.reg [oM 145 1,oM 20 145])
 (.reg [oM 146 2,oM 21 146]))))
 (.other (at_ Try.f84 [1,1,1,1,1,1]))))))))
theorem V84:LV Try.prog 220 (at_ Try.f84 []) R84v:=by
 have e:at_ Try.f84 []=(.seq (at_ Try.f84 [0]) (.seq (at_ Try.f84 [1,0]) (.seq (at_ Try.f84 [1,1,0]) (.seq (at_ Try.f84 [1,1,1,0]) (.seq (at_ Try.f84 [1,1,1,1,0]) (.seq (at_ Try.f84 [1,1,1,1,1,0]) (at_ Try.f84 [1,1,1,1,1,1]))))))):=by kernel_rfl
 rw [e]
 exact (.seq (.low (by kernel_rfl)) (.seq (.low (by kernel_rfl)) (.seq (.low (by kernel_rfl)) (.seq (.low (by kernel_rfl)) (.seq (.low (by kernel_rfl)) (.seq (.low (by kernel_rfl)) (.other _)))))))
noncomputable def R84Gv:RC:=(.seq (.reg [oM 147 19,oR 148 .sub 147 1,oM 22 148])
 (.seq (.block 8 (.other (at_ Try.f84 [1,1,1,1,1,1,1,0,0])))
 (.seq (.reg [oM 175 19,oM 176 20,oS 177 .sub 175 176,oM 24 177])
 (.seq (.other (at_ Try.f84 [1,1,1,1,1,1,1,1,1,0]))
 (.seq (.other (at_ Try.f84 [1,1,1,1,1,1,1,1,1,1,0]))
 (.other (at_ Try.f84 [1,1,1,1,1,1,1,1,1,1,1])))))))
theorem Zkw:LV Try.prog 220 (at_ Try.f84 [1,1,1,1,1,1]) R84Gv:=by
 have e:at_ Try.f84 [1,1,1,1,1,1]=(.seq (at_ Try.f84 [1,1,1,1,1,1,0]) (.seq (at_ Try.f84 [1,1,1,1,1,1,1,0]) (.seq (at_ Try.f84 [1,1,1,1,1,1,1,1,0]) (.seq (at_ Try.f84 [1,1,1,1,1,1,1,1,1,0]) (.seq (at_ Try.f84 [1,1,1,1,1,1,1,1,1,1,0]) (at_ Try.f84 [1,1,1,1,1,1,1,1,1,1,1])))))):=by kernel_rfl
 rw [e]
 exact (.seq (.low (by kernel_rfl)) (.seq (.low (by kernel_rfl)) (.seq (.low (by kernel_rfl)) (.seq (.other _) (.seq (.other _) (.other _))))))
noncomputable def R84A:RC:=(.seq (.reg [oM 178 20,oM 179 2,⟨some 180,none,(.cmpb .lss (.tmp 178) (.tmp 179))⟩,oM 181 180,oG 182 181 true 2,oG 183 181 true 24,⟨some 184,(some (181,true)),(.cmpb .lss (.tmp 182) (.tmp 183))⟩,oA 185 181 184])
 (.cond (.tmp 185) (.reg [oM 186 0,oM 187 20,oM 188 2,oM 189 24,oM 190 4,oC 191 98 #[(.tmp 186),(.tmp 187),(.tmp 188),(.tmp 189),(.tmp 190)] #[60,3,3,3,107]])
 .skip))
theorem Zkr:low Try.prog 220 (at_ Try.f84 [1,1,1,1,1,1,1,1,1,0])=some R84A:=by kernel_rfl
noncomputable def R84B:RC:=(.seq (.reg [oM 192 1,oM 193 20,⟨some 194,none,(.cmpb .lss (.tmp 192) (.tmp 193))⟩,oM 195 194,oG 196 195 true 20,oG 197 195 true 18,⟨some 198,(some (195,true)),(.cmpb .lss (.tmp 196) (.tmp 197))⟩,oA 199 195 198])
 (.cond (.tmp 199) (.reg [oM 200 0,oM 201 1,oM 202 20,oM 203 18,oM 204 4,oC 205 84 #[(.tmp 200),(.tmp 201),(.tmp 202),(.tmp 203),(.tmp 204)] #[60,3,3,3,107]])
 .skip))
theorem Zki:low Try.prog 220 (at_ Try.f84 [1,1,1,1,1,1,1,1,1,1,0])=some R84B:=by kernel_rfl
noncomputable def R84C:RC:=(.seq (.reg [oM 206 18,oM 207 24,⟨some 208,none,(.cmpb .lss (.tmp 206) (.tmp 207))⟩,oM 209 208,oG 210 209 true 24,oG 211 209 true 3,⟨some 212,(some (209,true)),(.cmpb .lss (.tmp 210) (.tmp 211))⟩,oA 213 209 212])
 (.cond (.tmp 213) (.reg [oM 214 0,oM 215 18,oM 216 24,oM 217 3,oM 218 4,oC 219 84 #[(.tmp 214),(.tmp 215),(.tmp 216),(.tmp 217),(.tmp 218)] #[60,3,3,3,107]])
 .skip))
theorem Zj4:low Try.prog 220 (at_ Try.f84 [1,1,1,1,1,1,1,1,1,1,1])=some R84C:=by kernel_rfl
section
variable {kn:Kn} {lo:Nat} {H:Hp}
set_option maxRecDepth 100000 in
set_option maxHeartbeats 2000000 in
theorem ZhH {bd cap n:Nat} {g:Nat→Nat} {v u:Nat→Int} {Hr:Hp} (hlb:lo≤bd) (hn:n≤1000000) (hlo:lo≤Hr.next) (hk:KT bd Hr H) (hc:Cl H bd (cG (fun x=>[iv (v x),iv (u x)]) n g)) {fc:FuncId} {caps:Array Value} {a m b mid s e:Nat} (hsm:s≤m) (hme:m≤e) (heb:e≤n) {S:Rg} {K:Exit→Rg→Hp→Prop} (hS:WM [(0,.slice (some ⟨bd,0,none⟩) n cap),(1,iv (a:Int)),(2,iv (m:Int)),(3,iv (b:Int)),(4,.func (.func fc) #[] caps),(18,iv (mid:Int)),(20,iv (s:Int)),(24,iv (e:Int))] S) (hN:∀ H' S',PRm s e g (rot g s m e)→KT bd Hr H'→Cl H' bd (cG (fun x=>[iv (v x),iv (u x)]) n (rot g s m e))→WM [(0,.slice (some ⟨bd,0,none⟩) n cap),(1,iv (a:Int)),(2,iv (m:Int)),(3,iv (b:Int)),(4,.func (.func fc) #[] caps),(18,iv (mid:Int)),(20,iv (s:Int)),(24,iv (e:Int))] S'→K .normal S' H'):Tri Try.prog kn lo 220 false (at_ Try.f84 [1,1,1,1,1,1,1,1,1,0]) S H K:=by
 refine W2 Zkr hS ?_
 refine Zc<|Za rfl<|Za rfl<|Xi (a:=(s:Int)) (b:=(m:Int)) rfl rfl ?_
 intro t1 g1;cases t1
 ·have g1:¬ ((s:Int) < (m:Int)):=of_decide_eq_false g1
  refine Za rfl<|Zp rfl<|Zp rfl<|Zp rfl<|Zg (v:=.bool false) rfl rfl<|Zb<|ZQ ?_
  first | refine Zl ?_ | skip
  have er:=Jq (g:=g) (s:=s) (m:=m) (e:=e) (by omega) (by omega) (by omega)
  exact hN _ _ (by rw [er];exact PRm.refl _ _ _) hk (by rw [er];exact hc) ⟨rfl,rfl,rfl,rfl,rfl,rfl,rfl,rfl,trivial⟩
 ·have g1:(s:Int) < (m:Int):=of_decide_eq_true g1
  refine Za rfl ?_
  refine ZK rfl (Za rfl ?_)
  refine ZK rfl (Za rfl ?_)
  refine ZK rfl (Xi (a:=(m:Int)) (b:=(e:Int)) rfl rfl ?_)
  intro t2 g2;cases t2
  ·have g2:¬ ((m:Int) < (e:Int)):=of_decide_eq_false g2
   refine Zg (v:=.bool false) rfl rfl<|Zb<|ZQ ?_
   first | refine Zl ?_ | skip
   have er:=Jq (g:=g) (s:=s) (m:=m) (e:=e) (by omega) (by omega) (by omega)
   exact hN _ _ (by rw [er];exact PRm.refl _ _ _) hk (by rw [er];exact hc) ⟨rfl,rfl,rfl,rfl,rfl,rfl,rfl,rfl,trivial⟩
  ·have g2:(m:Int) < (e:Int):=of_decide_eq_true g2
   refine Zg (v:=.bool true) rfl rfl<|Zb<|YN ?_
   show Zq _ _ _ _ _ _ _ _
   refine Za rfl<|Za rfl<|Za rfl<|Za rfl<|Za rfl ?_
   obtain ⟨H1,fH1,pH1,kH1,cH1⟩:=ZeH (kn:=kn) (lo:=lo) (H:=H) (by have:=hk.1;omega) hlb hn (cap:=cap) hc (cv:=.func (.func fc) #[] caps) (a:=s) (m:=m) (b:=e) (by omega) (by omega) (by omega)
   refine Zx (vs:=[.slice (some ⟨bd,0,none⟩) n cap,iv (s:Int),iv (m:Int),iv (e:Int),.func (.func fc) #[] caps]) rfl (Zi fH1) ?_
   have mH1:=kH1.1
   have hk:=hk.trans kH1
   have hc:=cH1
   refine Zb ?_
   exact hN _ _ pH1 hk hc ⟨rfl,rfl,rfl,rfl,rfl,rfl,rfl,rfl,trivial⟩
set_option maxRecDepth 100000 in
set_option maxHeartbeats 2000000 in
theorem Zi3 {bd cap n:Nat} {g:Nat→Nat} {v u:Nat→Int} {Hr:Hp} (hlb:lo≤bd) (hn:n≤1000000) (hlo:lo≤Hr.next) (hk:KT bd Hr H) (hc:Cl H bd (cG (fun x=>[iv (v x),iv (u x)]) n g)) {fc:FuncId} {caps:Array Value} {M a m b mid s e:Nat} {key:Nat→Int} (ih:∀ (H1:Hp) (a m b:Nat) (g:Nat→Nat),KT bd Hr H1→a < m→m < b→b≤n→b - a < M→(∀ k,k < n→g k < n)→So key a m g→So key m b g→Cr a m b g→Cl H1 bd (cG (fun x=>[iv (v x),iv (u x)]) n g)→∃ H' g',FnX Try.prog kn lo 84 [.slice (some ⟨bd,0,none⟩) n cap,iv (a:Int),iv (m:Int),iv (b:Int),.func (.func fc) #[] caps] H1 (.tuple #[]) H'∧PRm a b g g'∧So key a b g'∧KT bd H1 H'∧Cl H' bd (cG (fun x=>[iv (v x),iv (u x)]) n g')) (h1:a≤s) (h2:s≤mid) (hz:mid≤n) (hM:mid - a < M) (hd:∀ k,k < n→g k < n) (hp1:So key a s g) (hp2:So key s mid g) (hcr:Cr a s mid g) {S:Rg} {K:Exit→Rg→Hp→Prop} (hS:WM [(0,.slice (some ⟨bd,0,none⟩) n cap),(1,iv (a:Int)),(2,iv (m:Int)),(3,iv (b:Int)),(4,.func (.func fc) #[] caps),(18,iv (mid:Int)),(20,iv (s:Int)),(24,iv (e:Int))] S) (hN:∀ H' S' g',PRm a mid g g'→So key a mid g'→KT bd Hr H'→Cl H' bd (cG (fun x=>[iv (v x),iv (u x)]) n g')→WM [(0,.slice (some ⟨bd,0,none⟩) n cap),(1,iv (a:Int)),(2,iv (m:Int)),(3,iv (b:Int)),(4,.func (.func fc) #[] caps),(18,iv (mid:Int)),(20,iv (s:Int)),(24,iv (e:Int))] S'→K .normal S' H'):Tri Try.prog kn lo 220 false (at_ Try.f84 [1,1,1,1,1,1,1,1,1,1,0]) S H K:=by
 refine W2 Zki hS ?_
 refine Zc<|Za rfl<|Za rfl<|Xi (a:=(a:Int)) (b:=(s:Int)) rfl rfl ?_
 intro t1 g1;cases t1
 ·have g1:¬ ((a:Int) < (s:Int)):=of_decide_eq_false g1
  refine Za rfl<|Zp rfl<|Zp rfl<|Zp rfl<|Zg (v:=.bool false) rfl rfl<|Zb<|ZQ ?_
  first | refine Zl ?_ | skip
  exact hN _ _ g (PRm.refl _ _ _) (by rcases Nat.lt_or_ge a s with c | c;exact hp1.mono (Nat.le_refl _) (by omega);exact hp2.mono (by omega) (Nat.le_refl _)) hk hc ⟨rfl,rfl,rfl,rfl,rfl,rfl,rfl,rfl,trivial⟩
 ·have g1:(a:Int) < (s:Int):=of_decide_eq_true g1
  refine Za rfl ?_
  refine ZK rfl (Za rfl ?_)
  refine ZK rfl (Za rfl ?_)
  refine ZK rfl (Xi (a:=(s:Int)) (b:=(mid:Int)) rfl rfl ?_)
  intro t2 g2;cases t2
  ·have g2:¬ ((s:Int) < (mid:Int)):=of_decide_eq_false g2
   refine Zg (v:=.bool false) rfl rfl<|Zb<|ZQ ?_
   first | refine Zl ?_ | skip
   exact hN _ _ g (PRm.refl _ _ _) (by rcases Nat.lt_or_ge a s with c | c;exact hp1.mono (Nat.le_refl _) (by omega);exact hp2.mono (by omega) (Nat.le_refl _)) hk hc ⟨rfl,rfl,rfl,rfl,rfl,rfl,rfl,rfl,trivial⟩
  ·have g2:(s:Int) < (mid:Int):=of_decide_eq_true g2
   refine Zg (v:=.bool true) rfl rfl<|Zb<|YN ?_
   show Zq _ _ _ _ _ _ _ _
   refine Za rfl<|Za rfl<|Za rfl<|Za rfl<|Za rfl ?_
   obtain ⟨H1,gH1,fH1,pH1,sH1,kH1,cH1⟩:=ih H a s mid g hk (by omega) (by omega) (by omega) (by omega) hd hp1 hp2 hcr hc
   refine Zx (vs:=[.slice (some ⟨bd,0,none⟩) n cap,iv (a:Int),iv (s:Int),iv (mid:Int),.func (.func fc) #[] caps]) rfl (Zi fH1) ?_
   have mH1:=kH1.1
   have hk:=hk.trans kH1
   have hc:=cH1
   refine Zb ?_
   exact hN _ _ _ pH1 sH1 hk hc ⟨rfl,rfl,rfl,rfl,rfl,rfl,rfl,rfl,trivial⟩
set_option maxRecDepth 100000 in
set_option maxHeartbeats 2000000 in
theorem Zh3 {bd cap n:Nat} {g:Nat→Nat} {v u:Nat→Int} {Hr:Hp} (hlb:lo≤bd) (hn:n≤1000000) (hlo:lo≤Hr.next) (hk:KT bd Hr H) (hc:Cl H bd (cG (fun x=>[iv (v x),iv (u x)]) n g)) {fc:FuncId} {caps:Array Value} {M a m b mid s e:Nat} {key:Nat→Int} (ih:∀ (H1:Hp) (a m b:Nat) (g:Nat→Nat),KT bd Hr H1→a < m→m < b→b≤n→b - a < M→(∀ k,k < n→g k < n)→So key a m g→So key m b g→Cr a m b g→Cl H1 bd (cG (fun x=>[iv (v x),iv (u x)]) n g)→∃ H' g',FnX Try.prog kn lo 84 [.slice (some ⟨bd,0,none⟩) n cap,iv (a:Int),iv (m:Int),iv (b:Int),.func (.func fc) #[] caps] H1 (.tuple #[]) H'∧PRm a b g g'∧So key a b g'∧KT bd H1 H'∧Cl H' bd (cG (fun x=>[iv (v x),iv (u x)]) n g')) (h1:mid≤e) (h2:e≤b) (hz:b≤n) (hM:b - mid < M) (hd:∀ k,k < n→g k < n) (hp1:So key mid e g) (hp2:So key e b g) (hcr:Cr mid e b g) {S:Rg} {K:Exit→Rg→Hp→Prop} (hS:WM [(0,.slice (some ⟨bd,0,none⟩) n cap),(1,iv (a:Int)),(2,iv (m:Int)),(3,iv (b:Int)),(4,.func (.func fc) #[] caps),(18,iv (mid:Int)),(20,iv (s:Int)),(24,iv (e:Int))] S) (hN:∀ H' S' g',PRm mid b g g'→So key mid b g'→KT bd Hr H'→Cl H' bd (cG (fun x=>[iv (v x),iv (u x)]) n g')→WM [(0,.slice (some ⟨bd,0,none⟩) n cap),(1,iv (a:Int)),(2,iv (m:Int)),(3,iv (b:Int)),(4,.func (.func fc) #[] caps),(18,iv (mid:Int)),(20,iv (s:Int)),(24,iv (e:Int))] S'→K .normal S' H'):Tri Try.prog kn lo 220 false (at_ Try.f84 [1,1,1,1,1,1,1,1,1,1,1]) S H K:=by
 refine W2 Zj4 hS ?_
 refine Zc<|Za rfl<|Za rfl<|Xi (a:=(mid:Int)) (b:=(e:Int)) rfl rfl ?_
 intro t1 g1;cases t1
 ·have g1:¬ ((mid:Int) < (e:Int)):=of_decide_eq_false g1
  refine Za rfl<|Zp rfl<|Zp rfl<|Zp rfl<|Zg (v:=.bool false) rfl rfl<|Zb<|ZQ ?_
  first | refine Zl ?_ | skip
  exact hN _ _ g (PRm.refl _ _ _) (by rcases Nat.lt_or_ge mid e with c | c;exact hp1.mono (Nat.le_refl _) (by omega);exact hp2.mono (by omega) (Nat.le_refl _)) hk hc ⟨rfl,rfl,rfl,rfl,rfl,rfl,rfl,rfl,trivial⟩
 ·have g1:(mid:Int) < (e:Int):=of_decide_eq_true g1
  refine Za rfl ?_
  refine ZK rfl (Za rfl ?_)
  refine ZK rfl (Za rfl ?_)
  refine ZK rfl (Xi (a:=(e:Int)) (b:=(b:Int)) rfl rfl ?_)
  intro t2 g2;cases t2
  ·have g2:¬ ((e:Int) < (b:Int)):=of_decide_eq_false g2
   refine Zg (v:=.bool false) rfl rfl<|Zb<|ZQ ?_
   first | refine Zl ?_ | skip
   exact hN _ _ g (PRm.refl _ _ _) (by rcases Nat.lt_or_ge mid e with c | c;exact hp1.mono (Nat.le_refl _) (by omega);exact hp2.mono (by omega) (Nat.le_refl _)) hk hc ⟨rfl,rfl,rfl,rfl,rfl,rfl,rfl,rfl,trivial⟩
  ·have g2:(e:Int) < (b:Int):=of_decide_eq_true g2
   refine Zg (v:=.bool true) rfl rfl<|Zb<|YN ?_
   show Zq _ _ _ _ _ _ _ _
   refine Za rfl<|Za rfl<|Za rfl<|Za rfl<|Za rfl ?_
   obtain ⟨H1,gH1,fH1,pH1,sH1,kH1,cH1⟩:=ih H mid e b g hk (by omega) (by omega) (by omega) (by omega) hd hp1 hp2 hcr hc
   refine Zx (vs:=[.slice (some ⟨bd,0,none⟩) n cap,iv (mid:Int),iv (e:Int),iv (b:Int),.func (.func fc) #[] caps]) rfl (Zi fH1) ?_
   have mH1:=kH1.1
   have hk:=hk.trans kH1
   have hc:=cH1
   refine Zb ?_
   exact hN _ _ _ pH1 sH1 hk hc ⟨rfl,rfl,rfl,rfl,rfl,rfl,rfl,rfl,trivial⟩
set_option maxRecDepth 100000 in
set_option maxHeartbeats 2000000 in
theorem Zgr {bd cap n:Nat} {g:Nat→Nat} {v u:Nat→Int} {Hr:Hp} (hlb:lo≤bd) (hn:n≤1000000) (hlo:lo≤Hr.next) (hk:KT bd Hr H) (hc:Cl H bd (cG (fun x=>[iv (v x),iv (u x)]) n g)) {fc:FuncId} {caps:Array Value} {M a m b mid nn s0 r0:Nat} {key:Nat→Int} (ih:∀ (H1:Hp) (a m b:Nat) (g:Nat→Nat),KT bd Hr H1→a < m→m < b→b≤n→b - a < M→(∀ k,k < n→g k < n)→So key a m g→So key m b g→Cr a m b g→Cl H1 bd (cG (fun x=>[iv (v x),iv (u x)]) n g)→∃ H' g',FnX Try.prog kn lo 84 [.slice (some ⟨bd,0,none⟩) n cap,iv (a:Int),iv (m:Int),iv (b:Int),.func (.func fc) #[] caps] H1 (.tuple #[]) H'∧PRm a b g g'∧So key a b g'∧KT bd H1 H'∧Cl H' bd (cG (fun x=>[iv (v x),iv (u x)]) n g')) (hcmp:Uq Try.prog kn lo bd fc caps (fun x=>.agg #[iv (v x),iv (u x)]) n key Hr) (ham:a < m) (hmb:m < b) (hb:b≤n) (hM:b - a≤M) (hmid:mid=(a+b) / 2) (hnn:nn=mid+m) (hs0:(mid < m∧s0+b=nn∧r0=mid)∨(m≤mid∧s0=a∧r0=m)) (h2:2≤m - a) (hd:∀ k,k < n→g k < n) (hp1:So key a m g) (hp2:So key m b g) (hcr:Cr a m b g) {S:Rg} {K:Exit→Rg→Hp→Prop} (hS:WM [(0,.slice (some ⟨bd,0,none⟩) n cap),(1,iv (a:Int)),(2,iv (m:Int)),(3,iv (b:Int)),(4,.func (.func fc) #[] caps),(18,iv (mid:Int)),(19,iv (nn:Int)),(20,iv (s0:Int)),(21,iv (r0:Int))] S) (hN:∀ H' S' g',PRm a b g g'→So key a b g'→KT bd Hr H'→Cl H' bd (cG (fun x=>[iv (v x),iv (u x)]) n g')→K .normal S' H'):Tri Try.prog kn lo 220 false (at_ Try.f84 [1,1,1,1,1,1]) S H K:=by
 refine ZcX Zkw hS ?_
 refine Zc<|Za rfl<|Z8 (a:=(nn:Int)) (b:=1) rfl rfl ⟨by omega,by omega⟩<|Za rfl<|Zb ?_
 obtain ⟨pp,hpp⟩:∃ pp,pp+1=nn:=⟨nn - 1,by omega⟩
 refine ZA (fn:=Try.f84) ZiO N84 Zja (fun x:Nat × Nat=>[(0,.slice (some ⟨bd,0,none⟩) n cap),(1,iv (a:Int)),(2,iv (m:Int)),(3,iv (b:Int)),(4,.func (.func fc) #[] caps),(18,iv (mid:Int)),(19,iv (nn:Int)),(20,iv (x.1:Int)),(21,iv (x.2:Int)),(22,iv (pp:Int))])
  (fun k x H'=>k=x.2 - x.1∧s0≤x.1∧x.1≤x.2∧x.2≤r0∧(x.1=s0∨¬ key (g (pp - (x.1 - 1))) < key (g (x.1 - 1)))∧(x.2=r0∨key (g (pp - x.2)) < key (g x.2))∧KT bd Hr H'∧Cl H' bd (cG (fun x=>[iv (v x),iv (u x)]) n g)) _ (s0,r0) ⟨rfl,Nat.le_refl _,by simp only [];omega,Nat.le_refl _,.inl rfl,.inl rfl,hk,hc⟩ ⟨rfl,rfl,rfl,rfl,rfl,rfl,rfl,rfl,rfl,ivq (by omega),trivial⟩ ?_
 rintro k ⟨s,r⟩ L1 ⟨rfl,hs1,hs2,hs3,hlw,hup,hk,hc⟩
 simp only [] at hs1 hs2 hs3 hlw hup
 have hdm:=hd
 refine Zc<|Za rfl<|Za rfl<|ZM (a:=(s:Int)) (b:=(r:Int)) rfl rfl<|Zb ?_
 refine And.intro (fun q1=>?_) (fun q1=>?_)
 ·have q1:(s:Int) < (r:Int):=of_decide_eq_true q1
  first | refine Zl ?_ | skip
  refine Zc<|Za rfl<|Za rfl<|ZB (a:=(s:Int)) (b:=(r:Int)) rfl rfl ⟨by omega,by omega⟩ ?_
  obtain ⟨h5,eh5⟩:∃ h:Nat,h=(s+r) / 2:=⟨_,rfl⟩
  refine Zg (v:=.int .u64 ((s+r:Nat):Int)) rfl (zv (n:=s+r) (j:=(s:Int)+(r:Int)) (by omega) rfl (by omega))<|Zg (v:=.int .u64 ((h5:Nat):Int)) rfl (by rw [eh5];exact Qn (m:=s+r) (d:=1) (by decide) rfl rfl)<|Zg (v:=iv (h5:Int)) rfl (qH (n:=h5) (j:=(h5:Int)) (by omega) rfl rfl)<|Za rfl<|Zb<|Y0<|Ze rfl<|Ze rfl<|Ze rfl<|Ze rfl<|Xd (a:=(pp:Int)) (b:=(h5:Int)) rfl rfl ⟨by omega,by omega⟩<|Zw (b:=bd) (o:=0) (k:=pp - h5) (j:=(pp:Int) - (h5:Int)) rfl rfl (by omega) (by omega)<|YF (b:=bd) (o:=0+(pp - h5) * 2) rfl hc.rd (XH (z:=2) (fun _=>rfl) (by omega))<|Ze rfl<|Ze rfl<|Zw (b:=bd) (o:=0) (k:=h5) (j:=(h5:Int)) rfl rfl (by omega) (by omega)<|YF (b:=bd) (o:=0+h5 * 2) rfl hc.rd (XH (z:=2) (fun _=>rfl) (by omega)) ?_
  obtain ⟨rH1,H1,fH1,kH1,qH1⟩:=hcmp L1 hk.kp (g (pp - h5)) (g h5) (hdm _ (by omega)) (hdm _ (by omega))
  refine Yy (vs:=[.agg #[iv (v (g (pp - h5))),iv (u (g (pp - h5)))],.agg #[iv (v (g h5)),iv (u (g h5))]]) rfl fH1 ?_
  have mH1:=kH1.1
  have hc:=kH1.cl hc (by simp)
  have hk:=hk.keep kH1
  refine W8 (a:=rH1) (b:=0) rfl rfl<|ZR (v:=.bool (!(decide (rH1 < 0)))) rfl rfl ?_
  refine ZJ (by repeat' first | exact True.intro | exact (fun h=>h) | refine And.intro ?_ ?_ | (intro h;have h:(_:Nat)=_:=h;omega)) ?_
  refine And.intro (fun q2=>?_) (fun q2=>?_)
  ·have q2:¬ (rH1 < 0):=by simpa using q2
   show Zq _ _ _ _ _ _ _ _
   refine Za rfl<|ZB (a:=(h5:Int)) (b:=1) rfl rfl ⟨by omega,by omega⟩<|Za rfl<|Zb ?_
   exact ⟨_,(h5+1,r),by simp only [];omega,⟨rfl,by simp only [];omega,by simp only [];omega,hs3,.inr (by simp only [];rw [show h5+1 - 1=h5 by omega];exact fun hh=>by have:=qH1.2 hh;omega),hup,hk,hc⟩,rfl,rfl,rfl,rfl,rfl,rfl,rfl,ivq (by simp only [];omega),rfl,rfl,trivial⟩
  ·have q2:¬ (¬ (rH1 < 0)):=by simpa using q2
   show Zq _ _ _ _ _ _ _ _
   refine Za rfl<|Za rfl<|Zb ?_
   exact ⟨_,(s,h5),by simp only [];omega,⟨rfl,hs1,by simp only [];omega,by simp only [];omega,hlw,.inr (qH1.1 (by omega)),hk,hc⟩,rfl,rfl,rfl,rfl,rfl,rfl,rfl,rfl,ivq (by simp only []),rfl,trivial⟩
 ·have q1:¬ ((s:Int) < (r:Int)):=of_decide_eq_false q1
  first | (refine ZE ?_;show wC _ _ _ _ _ _ _ _ _) | skip
  refine Zc<|Za rfl<|Za rfl<|Z8 (a:=(nn:Int)) (b:=(s:Int)) rfl rfl ⟨by omega,by omega⟩<|Za rfl<|Zb ?_
  obtain rfl:s=r:=by omega
  obtain ⟨e,he⟩:∃ e,e+s=nn:=⟨nn - s,by omega⟩
  have hcut:Zhw key a m b s e g:=by
   refine ⟨by omega,by omega,by omega,by omega,?_,?_⟩
   ·by_cases z:s=s0
    ·rcases hs0 with ⟨z1,z2,z3⟩ | ⟨z1,z2,z3⟩
     ·exact .inr (.inl (by omega))
     ·exact .inl (by omega)
    ·have y:=hlw.resolve_left z
     rw [show pp - (s - 1)=e by omega] at y
     exact .inr (.inr (.of_not y (hcr (s - 1) e (by omega) (by omega) (by omega) (by omega))))
   ·by_cases z:s=r0
    ·rcases hs0 with ⟨z1,z2,z3⟩ | ⟨z1,z2,z3⟩
     ·exact .inr (.inl (by omega))
     ·exact .inl (by omega)
    ·have y:=hup.resolve_left z
     rw [show pp - s=e - 1 by omega] at y
     exact .inr (.inr (.lt y))
  have hpt:=ZbK hp1 hp2 hcr hcut
  rw [show s+(e - m)=mid by have:=hcut.me;omega] at hpt
  have hbe:=hcut.eb;have hbm:=hcut.sm;have hbl:=hcut.l;have hbn:=hcut.me
  refine ZhH hlb hn hlo hk hc (mid:=mid) (b:=b) hbm hbn (by omega) (by exact ⟨rfl,rfl,rfl,rfl,rfl,rfl,rfl,ivq (by omega),trivial⟩) ?_
  intro HA SA_ pA kA cA sA
  have pA2:=pA.mono hbl (by omega) hbe
  have hdA:=pA2.dom hd hb
  refine Zi3 hlb hn hlo kA cA ih (by omega) (by omega) (by omega) (by omega) hdA hpt.p1 hpt.p2 hpt.c1 sA ?_
  intro HB SB gB pB oB kB cB sB
  have hdB:=pB.dom hdA (by omega)
  obtain ⟨r1,r2,r3⟩:=hpt.right pB (by omega)
  refine Zh3 hlb hn hlo kB cB ih (by omega) (by omega) hb (by omega) hdB r1 r2 r3 sB ?_
  intro HC SC gC pC oC kC cC sC
  exact hN _ _ gC (pA2.trans ((pB.mono (Nat.le_refl _) (by omega) (by omega)).trans (pC.mono (by omega) (by omega) (Nat.le_refl _)))) (hpt.done (by omega) (by omega) pB oB pC oC) kC cC
set_option maxRecDepth 100000 in
set_option maxHeartbeats 2000000 in
theorem ZcJ (hlo:lo≤H.next) {bd cap n M:Nat} {g:Nat→Nat} {v u:Nat→Int} {Hr:Hp} (hlb:lo≤bd) (hn:n≤1000000) (hk0:KT bd Hr H) (hc:Cl H bd (cG (fun x=>[iv (v x),iv (u x)]) n g)) {fc:FuncId} {caps:Array Value} {key:Nat→Int} (ih:∀ (H1:Hp) (a m b:Nat) (g:Nat→Nat),KT bd Hr H1→a < m→m < b→b≤n→b - a < M→(∀ k,k < n→g k < n)→So key a m g→So key m b g→Cr a m b g→Cl H1 bd (cG (fun x=>[iv (v x),iv (u x)]) n g)→∃ H' g',FnX Try.prog kn lo 84 [.slice (some ⟨bd,0,none⟩) n cap,iv (a:Int),iv (m:Int),iv (b:Int),.func (.func fc) #[] caps] H1 (.tuple #[]) H'∧PRm a b g g'∧So key a b g'∧KT bd H1 H'∧Cl H' bd (cG (fun x=>[iv (v x),iv (u x)]) n g')) (hcmp0:Uq Try.prog kn lo bd fc caps (fun x=>.agg #[iv (v x),iv (u x)]) n key Hr) {a m b:Nat} (ham:a < m) (hmb:m < b) (hb:b≤n) (hM:b - a≤M) (hd:∀ k,k < n→g k < n) (hp1:So key a m g) (hp2:So key m b g) (hcr:Cr a m b g) :
  ∃ H' g',FnX Try.prog kn lo 84 [.slice (some ⟨bd,0,none⟩) n cap,iv (a:Int),iv (m:Int),iv (b:Int),.func (.func fc) #[] caps] H (.tuple #[]) H'∧PRm a b g g'∧So key a b g'∧KT bd H H'∧Cl H' bd (cG (fun x=>[iv (v x),iv (u x)]) n g'):=by
 have key_:=ZdJ (kn:=kn) (lo:=lo) (H:=H) (args:=[.slice (some ⟨bd,0,none⟩) n cap,iv (a:Int),iv (m:Int),iv (b:Int),.func (.func fc) #[] caps]) (Q:=fun w H'=>w=.tuple #[]∧∃ g',PRm a b g g'∧So key a b g'∧KT bd H H'∧Cl H' bd (cG (fun x=>[iv (v x),iv (u x)]) n g')) Try.func84 B84 N84 Z84 V84 (by simp) ?_
 ·obtain ⟨w,H',h,rfl,g',r⟩:=key_;exact ⟨H',g',h,r⟩
 have hk:=KT.refl (H:=H) hc.1
 have hcmp:=hcmp0.from hk0.kp
 refine Zc<|Za rfl<|Za rfl<|Z8 (a:=(m:Int)) (b:=(a:Int)) rfl rfl ⟨by omega,by omega⟩<|Jx (a:=(m:Int) - (a:Int)) (b:=1) rfl rfl<|Zb ?_
 refine And.intro (fun q1=>?_) (fun q1=>?_)
 ·have q1:((m:Int) - (a:Int))=1:=by simpa using q1
  refine Zc<|Za rfl<|Za rfl<|Zb<|Zc<|Za rfl<|Za rfl<|Zb ?_
  refine ZA (fn:=Try.f84) Ziv N84 Zip (fun x:Nat × Nat=>[(0,.slice (some ⟨bd,0,none⟩) n cap),(1,iv (a:Int)),(2,iv (m:Int)),(3,iv (b:Int)),(4,.func (.func fc) #[] caps),(10,iv (x.1:Int)),(11,iv (x.2:Int))])
   (fun k x H'=>k=x.2 - x.1∧m≤x.1∧x.1≤x.2∧x.2≤b∧(∀ p,m≤p→p < x.1→key (g p) < key (g a))∧(∀ p,x.2≤p→p < b→¬ key (g p) < key (g a))∧KT bd H H'∧Cl H' bd (cG (fun x=>[iv (v x),iv (u x)]) n g)) _ (m,b) ⟨rfl,Nat.le_refl _,by simp only [];omega,Nat.le_refl _,fun p p1 p2=>absurd p2 (by simp only [];omega),fun p p1 p2=>absurd p2 (by simp only [] at p1;omega),hk,hc⟩ ⟨rfl,rfl,rfl,rfl,rfl,rfl,rfl,trivial⟩ ?_
  rintro k ⟨i,j⟩ L1 ⟨rfl,hi1,hi2,hi3,hlw,hup,hk,hc⟩
  simp only [] at hi1 hi2 hi3 hlw hup
  have hdm:=hd
  refine Zc<|Za rfl<|Za rfl<|ZM (a:=(i:Int)) (b:=(j:Int)) rfl rfl<|Zb ?_
  refine And.intro (fun q2=>?_) (fun q2=>?_)
  ·have q2:(i:Int) < (j:Int):=of_decide_eq_true q2
   first | refine Zl ?_ | skip
   refine Zc<|Za rfl<|Za rfl<|ZB (a:=(i:Int)) (b:=(j:Int)) rfl rfl ⟨by omega,by omega⟩ ?_
   obtain ⟨h6,eh6⟩:∃ h:Nat,h=(i+j) / 2:=⟨_,rfl⟩
   refine Zg (v:=.int .u64 ((i+j:Nat):Int)) rfl (zv (n:=i+j) (j:=(i:Int)+(j:Int)) (by omega) rfl (by omega))<|Zg (v:=.int .u64 ((h6:Nat):Int)) rfl (by rw [eh6];exact Qn (m:=i+j) (d:=1) (by decide) rfl rfl)<|Zg (v:=iv (h6:Int)) rfl (qH (n:=h6) (j:=(h6:Int)) (by omega) rfl rfl)<|Za rfl<|Zb<|Y0<|Ze rfl<|Ze rfl<|Ze rfl<|Zw (b:=bd) (o:=0) (k:=h6) (j:=(h6:Int)) rfl rfl (by omega) (by omega)<|YF (b:=bd) (o:=0+h6 * 2) rfl hc.rd (XH (z:=2) (fun _=>rfl) (by omega))<|Ze rfl<|Ze rfl<|Zw (b:=bd) (o:=0) (k:=a) (j:=(a:Int)) rfl rfl (by omega) (by omega)<|YF (b:=bd) (o:=0+a * 2) rfl hc.rd (XH (z:=2) (fun _=>rfl) (by omega)) ?_
   obtain ⟨rH1,H1,fH1,kH1,qH1⟩:=hcmp L1 hk.kp (g h6) (g a) (hdm _ (by omega)) (hdm _ (by omega))
   refine Yy (vs:=[.agg #[iv (v (g h6)),iv (u (g h6))],.agg #[iv (v (g a)),iv (u (g a))]]) rfl fH1 ?_
   have mH1:=kH1.1
   have hc:=kH1.cl hc (by simp)
   have hk:=hk.keep kH1
   refine W8 (a:=rH1) (b:=0) rfl rfl ?_
   refine ZJ (by repeat' first | exact True.intro | exact (fun h=>h) | refine And.intro ?_ ?_ | (intro h;have h:(_:Nat)=_:=h;omega)) ?_
   refine And.intro (fun q3=>?_) (fun q3=>?_)
   ·have q3:rH1 < 0:=of_decide_eq_true q3
    show Zq _ _ _ _ _ _ _ _
    refine Za rfl<|ZB (a:=(h6:Int)) (b:=1) rfl rfl ⟨by omega,by omega⟩<|Za rfl<|Zb ?_
    exact ⟨_,(h6+1,j),by simp only [];omega,⟨rfl,by simp only [];omega,by simp only [];omega,hi3,fun p p1 p2=>by have z:=qH1.1 (by omega);have y:=hp2.le (i:=p) (j:=h6) (by omega) (by omega) (by omega);omega,hup,hk,hc⟩,rfl,rfl,rfl,rfl,rfl,ivq (by simp only [];omega),rfl,trivial⟩
   ·have q3:¬ (rH1 < 0):=of_decide_eq_false q3
    show Zq _ _ _ _ _ _ _ _
    refine Za rfl<|Za rfl<|Zb ?_
    exact ⟨_,(i,h6),by simp only [];omega,⟨rfl,hi1,by simp only [];omega,by simp only [];omega,hlw,fun p p1 p2 hh=>by have y:=hp2.le (i:=h6) (j:=p) (by omega) p1 (by omega);have z:=qH1.2 (by omega);omega,hk,hc⟩,rfl,rfl,rfl,rfl,rfl,rfl,ivq (by simp only []),trivial⟩
  ·have q2:¬ ((i:Int) < (j:Int)):=of_decide_eq_false q2
   first | (refine ZE ?_;show wC _ _ _ _ _ _ _ _ _) | skip
   refine Zc<|Za rfl<|Za rfl<|Zb ?_
   obtain rfl:i=j:=by omega
   obtain rfl:m=a+1:=by omega
   refine ZA (fn:=Try.f84) Zjm N84 Zjg (fun t:Nat=>[(0,.slice (some ⟨bd,0,none⟩) n cap),(10,iv (i:Int)),(13,iv (t:Int))])
    (fun k t H'=>k+t=i - 1∧a≤t∧PRm a b g (mvR g a t)∧KT bd H H'∧Cl H' bd (cG (fun x=>[iv (v x),iv (u x)]) n (mvR g a t))) (i - 1 - a) a ⟨by omega,Nat.le_refl _,by rw [Jm];exact PRm.refl _ _ _,hk,by rw [Jm];exact hc⟩ ⟨rfl,rfl,rfl,trivial⟩ ?_
   rintro k t L2 ⟨hkt,ht,hp,hk,hc⟩
   refine Zc<|Za rfl<|Za rfl<|Z8 (a:=(i:Int)) (b:=1) rfl rfl ⟨by omega,by omega⟩<|ZM (a:=(t:Int)) (b:=(i:Int) - 1) rfl rfl<|Zb ?_
   refine And.intro (fun q4=>?_) (fun q4=>?_)
   ·have q4:(t:Int) < ((i:Int) - 1):=of_decide_eq_true q4
    first | refine Zl ?_ | skip
    first | refine Yc ?_ | refine WB ?_ | refine VC ?_ | (refine YV ?_;refine Yc ?_)
    refine Ze rfl<|Ze rfl<|Ze rfl<|Ze rfl<|X5 (a:=(t:Int)) (b:=1) rfl rfl ⟨by omega,by omega⟩<|Ze rfl<|Ze rfl<|X5 (a:=(t:Int)) (b:=1) rfl rfl ⟨by omega,by omega⟩<|Zw (b:=bd) (o:=0) (k:=t+1) (j:=(t:Int)+1) rfl rfl (by omega) (by omega)<|YF (b:=bd) (o:=0+(t+1) * 2) rfl hc.rd (XH (z:=2) (fun _=>rfl) (by omega))<|Ze rfl<|Ze rfl<|Zw (b:=bd) (o:=0) (k:=t) (j:=(t:Int)) rfl rfl (by omega) (by omega)<|YF (b:=bd) (o:=0+t * 2) rfl hc.rd (XH (z:=2) (fun _=>rfl) (by omega))<|Zw (b:=bd) (o:=0) (k:=t) (j:=(t:Int)) rfl rfl (by omega) (by omega)<|Vx (b:=bd) (o:=0+t * 2) rfl rfl hc hlb rfl rfl (by rw [XS (z:=2) (fun _=>rfl)];omega) ?_
    intro H2 kH2 nH2 sH2 tH2
    have mH2:=kH2.1
    have hk:=hk.put kH2 tH2
    have hc:Cl H2 bd (cG (fun x=>[iv (v x),iv (u x)]) n (upd (mvR g a t) t ((mvR g a t) (t+1)))):=by rw [← Uc (z:=2) (fun _=>rfl) (by omega)];exact sH2
    refine Zw (b:=bd) (o:=0) (k:=t+1) (j:=(t:Int)+1) rfl rfl (by omega) (by omega)<|Vx (b:=bd) (o:=0+(t+1) * 2) rfl rfl hc hlb rfl rfl (by rw [XS (z:=2) (fun _=>rfl)];omega) ?_
    intro H3 kH3 nH3 sH3 tH3
    have mH3:=kH3.1
    have hk:=hk.put kH3 tH3
    have hc:Cl H3 bd (cG (fun x=>[iv (v x),iv (u x)]) n (upd (upd (mvR g a t) t ((mvR g a t) (t+1))) (t+1) ((mvR g a t) t))):=by rw [← Uc (z:=2) (fun _=>rfl) (by omega)];exact sH3
    have hc:Cl H3 bd (cG (fun x=>[iv (v x),iv (u x)]) n (swp (mvR g a t) t (t+1))):=hc
    refine ZJ (by repeat' first | exact True.intro | exact (fun h=>h) | refine And.intro ?_ ?_ | (intro h;have h:(_:Nat)=_:=h;omega)) ?_
    show Zq _ _ _ _ _ _ _ _
    refine Za rfl<|ZB (a:=(t:Int)) (b:=1) rfl rfl ⟨by omega,by omega⟩<|Za rfl<|Zb ?_
    rw [QP (by omega)] at hc
    exact ⟨k - 1,t+1,by omega,⟨by omega,by omega,by rw [← QP (by omega)];exact hp.trans (PRm.swap (by omega) (by omega) (by omega) (by omega)),hk,hc⟩,rfl,rfl,ivq (by omega),trivial⟩
   ·have q4:¬ ((t:Int) < ((i:Int) - 1)):=of_decide_eq_false q4
    first | (refine ZE ?_;show wC _ _ _ _ _ _ _ _ _) | skip
    have eti:t=i - 1:=by omega
    rw [eti] at hp hc
    exact And.intro trivial (Exists.intro _ (And.intro rfl ⟨rfl,_,hp,yy hp2 hcr hi1 hi3 hlw hup,hk,hc⟩))
 ·have q1:¬ (((m:Int) - (a:Int))=1):=by simpa using q1
  first | refine Zl ?_ | skip
  refine Zc<|Za rfl<|Za rfl<|Z8 (a:=(b:Int)) (b:=(m:Int)) rfl rfl ⟨by omega,by omega⟩<|Jx (a:=(b:Int) - (m:Int)) (b:=1) rfl rfl<|Zb ?_
  refine And.intro (fun q5=>?_) (fun q5=>?_)
  ·have q5:((b:Int) - (m:Int))=1:=by simpa using q5
   refine Zc<|Za rfl<|Za rfl<|Zb<|Zc<|Za rfl<|Za rfl<|Zb ?_
   refine ZA (fn:=Try.f84) Zh1 N84 Zi4 (fun x:Nat × Nat=>[(0,.slice (some ⟨bd,0,none⟩) n cap),(1,iv (a:Int)),(2,iv (m:Int)),(3,iv (b:Int)),(4,.func (.func fc) #[] caps),(14,iv (x.1:Int)),(15,iv (x.2:Int))])
    (fun k x H'=>k=x.2 - x.1∧a≤x.1∧x.1≤x.2∧x.2≤m∧(∀ p,a≤p→p < x.1→¬ key (g m) < key (g p))∧(∀ p,x.2≤p→p < m→key (g m) < key (g p))∧KT bd H H'∧Cl H' bd (cG (fun x=>[iv (v x),iv (u x)]) n g)) _ (a,m) ⟨rfl,Nat.le_refl _,by simp only [];omega,Nat.le_refl _,fun p p1 p2=>absurd p2 (by simp only [];omega),fun p p1 p2=>absurd p2 (by simp only [] at p1;omega),hk,hc⟩ ⟨rfl,rfl,rfl,rfl,rfl,rfl,rfl,trivial⟩ ?_
   rintro k ⟨i,j⟩ L1 ⟨rfl,hi1,hi2,hi3,hlw,hup,hk,hc⟩
   simp only [] at hi1 hi2 hi3 hlw hup
   have hdm:=hd
   refine Zc<|Za rfl<|Za rfl<|ZM (a:=(i:Int)) (b:=(j:Int)) rfl rfl<|Zb ?_
   refine And.intro (fun q6=>?_) (fun q6=>?_)
   ·have q6:(i:Int) < (j:Int):=of_decide_eq_true q6
    first | refine Zl ?_ | skip
    refine Zc<|Za rfl<|Za rfl<|ZB (a:=(i:Int)) (b:=(j:Int)) rfl rfl ⟨by omega,by omega⟩ ?_
    obtain ⟨h7,eh7⟩:∃ h:Nat,h=(i+j) / 2:=⟨_,rfl⟩
    refine Zg (v:=.int .u64 ((i+j:Nat):Int)) rfl (zv (n:=i+j) (j:=(i:Int)+(j:Int)) (by omega) rfl (by omega))<|Zg (v:=.int .u64 ((h7:Nat):Int)) rfl (by rw [eh7];exact Qn (m:=i+j) (d:=1) (by decide) rfl rfl)<|Zg (v:=iv (h7:Int)) rfl (qH (n:=h7) (j:=(h7:Int)) (by omega) rfl rfl)<|Za rfl<|Zb<|Y0<|Ze rfl<|Ze rfl<|Ze rfl<|Zw (b:=bd) (o:=0) (k:=m) (j:=(m:Int)) rfl rfl (by omega) (by omega)<|YF (b:=bd) (o:=0+m * 2) rfl hc.rd (XH (z:=2) (fun _=>rfl) (by omega))<|Ze rfl<|Ze rfl<|Zw (b:=bd) (o:=0) (k:=h7) (j:=(h7:Int)) rfl rfl (by omega) (by omega)<|YF (b:=bd) (o:=0+h7 * 2) rfl hc.rd (XH (z:=2) (fun _=>rfl) (by omega)) ?_
    obtain ⟨rH4,H4,fH4,kH4,qH4⟩:=hcmp L1 hk.kp (g m) (g h7) (hdm _ (by omega)) (hdm _ (by omega))
    refine Yy (vs:=[.agg #[iv (v (g m)),iv (u (g m))],.agg #[iv (v (g h7)),iv (u (g h7))]]) rfl fH4 ?_
    have mH4:=kH4.1
    have hc:=kH4.cl hc (by simp)
    have hk:=hk.keep kH4
    refine W8 (a:=rH4) (b:=0) rfl rfl<|ZR (v:=.bool (!(decide (rH4 < 0)))) rfl rfl ?_
    refine ZJ (by repeat' first | exact True.intro | exact (fun h=>h) | refine And.intro ?_ ?_ | (intro h;have h:(_:Nat)=_:=h;omega)) ?_
    refine And.intro (fun q7=>?_) (fun q7=>?_)
    ·have q7:¬ (rH4 < 0):=by simpa using q7
     show Zq _ _ _ _ _ _ _ _
     refine Za rfl<|ZB (a:=(h7:Int)) (b:=1) rfl rfl ⟨by omega,by omega⟩<|Za rfl<|Zb ?_
     exact ⟨_,(h7+1,j),by simp only [];omega,⟨rfl,by simp only [];omega,by simp only [];omega,hi3,fun p p1 p2 hh=>by have y:=hp1.le (i:=p) (j:=h7) p1 (by omega) (by omega);have z:=qH4.2 (by omega);omega,hup,hk,hc⟩,rfl,rfl,rfl,rfl,rfl,ivq (by simp only [];omega),rfl,trivial⟩
    ·have q7:¬ (¬ (rH4 < 0)):=by simpa using q7
     show Zq _ _ _ _ _ _ _ _
     refine Za rfl<|Za rfl<|Zb ?_
     exact ⟨_,(i,h7),by simp only [];omega,⟨rfl,hi1,by simp only [];omega,by simp only [];omega,hlw,fun p p1 p2=>by have z:=qH4.1 (by omega);have y:=hp1.le (i:=h7) (j:=p) (by omega) p1 (by omega);omega,hk,hc⟩,rfl,rfl,rfl,rfl,rfl,rfl,ivq (by simp only []),trivial⟩
   ·have q6:¬ ((i:Int) < (j:Int)):=of_decide_eq_false q6
    first | (refine ZE ?_;show wC _ _ _ _ _ _ _ _ _) | skip
    refine Zc<|Za rfl<|Za rfl<|Zb ?_
    obtain rfl:i=j:=by omega
    obtain rfl:b=m+1:=by omega
    refine ZA (fn:=Try.f84) Zi1 N84 Zjf (fun t:Nat=>[(0,.slice (some ⟨bd,0,none⟩) n cap),(14,iv (i:Int)),(17,iv (t:Int))])
     (fun k t H'=>k=t∧i≤t∧t≤m∧PRm a (m+1) g (mvL g m t)∧KT bd H H'∧Cl H' bd (cG (fun x=>[iv (v x),iv (u x)]) n (mvL g m t))) m m ⟨rfl,by omega,Nat.le_refl _,by rw [Jz];exact PRm.refl _ _ _,hk,by rw [Jz];exact hc⟩ ⟨rfl,rfl,rfl,trivial⟩ ?_
    rintro k t L2 ⟨hkt,ht,ht2,hp,hk,hc⟩
    refine Zc<|Za rfl<|Za rfl<|Vo (a:=(t:Int)) (b:=(i:Int)) rfl rfl<|Zb ?_
    refine And.intro (fun q8=>?_) (fun q8=>?_)
    ·have q8:(t:Int) > (i:Int):=of_decide_eq_true q8
     first | refine Zl ?_ | skip
     first | refine Yc ?_ | refine WB ?_ | refine VC ?_ | (refine YV ?_;refine Yc ?_)
     refine Ze rfl<|Ze rfl<|Ze rfl<|Ze rfl<|Xd (a:=(t:Int)) (b:=1) rfl rfl ⟨by omega,by omega⟩<|Ze rfl<|Ze rfl<|Xd (a:=(t:Int)) (b:=1) rfl rfl ⟨by omega,by omega⟩<|Zw (b:=bd) (o:=0) (k:=t - 1) (j:=(t:Int) - 1) rfl rfl (by omega) (by omega)<|YF (b:=bd) (o:=0+(t - 1) * 2) rfl hc.rd (XH (z:=2) (fun _=>rfl) (by omega))<|Ze rfl<|Ze rfl<|Zw (b:=bd) (o:=0) (k:=t) (j:=(t:Int)) rfl rfl (by omega) (by omega)<|YF (b:=bd) (o:=0+t * 2) rfl hc.rd (XH (z:=2) (fun _=>rfl) (by omega))<|Zw (b:=bd) (o:=0) (k:=t) (j:=(t:Int)) rfl rfl (by omega) (by omega)<|Vx (b:=bd) (o:=0+t * 2) rfl rfl hc hlb rfl rfl (by rw [XS (z:=2) (fun _=>rfl)];omega) ?_
     intro H5 kH5 nH5 sH5 tH5
     have mH5:=kH5.1
     have hk:=hk.put kH5 tH5
     have hc:Cl H5 bd (cG (fun x=>[iv (v x),iv (u x)]) n (upd (mvL g m t) t ((mvL g m t) (t - 1)))):=by rw [← Uc (z:=2) (fun _=>rfl) (by omega)];exact sH5
     refine Zw (b:=bd) (o:=0) (k:=t - 1) (j:=(t:Int) - 1) rfl rfl (by omega) (by omega)<|Vx (b:=bd) (o:=0+(t - 1) * 2) rfl rfl hc hlb rfl rfl (by rw [XS (z:=2) (fun _=>rfl)];omega) ?_
     intro H6 kH6 nH6 sH6 tH6
     have mH6:=kH6.1
     have hk:=hk.put kH6 tH6
     have hc:Cl H6 bd (cG (fun x=>[iv (v x),iv (u x)]) n (upd (upd (mvL g m t) t ((mvL g m t) (t - 1))) (t - 1) ((mvL g m t) t))):=by rw [← Uc (z:=2) (fun _=>rfl) (by omega)];exact sH6
     have hc:Cl H6 bd (cG (fun x=>[iv (v x),iv (u x)]) n (swp (mvL g m t) t (t - 1))):=hc
     refine ZJ (by repeat' first | exact True.intro | exact (fun h=>h) | refine And.intro ?_ ?_ | (intro h;have h:(_:Nat)=_:=h;omega)) ?_
     show Zq _ _ _ _ _ _ _ _
     refine Za rfl<|Z8 (a:=(t:Int)) (b:=1) rfl rfl ⟨by omega,by omega⟩<|Za rfl<|Zb ?_
     rw [Jd (by omega) (by omega)] at hc
     exact ⟨t - 1,t - 1,by omega,⟨rfl,by omega,by omega,by rw [← Jd (by omega) (by omega)];exact hp.trans (PRm.swap (by omega) (by omega) (by omega) (by omega)),hk,hc⟩,rfl,rfl,ivq (by omega),trivial⟩
    ·have q8:¬ ((t:Int) > (i:Int)):=of_decide_eq_false q8
     first | (refine ZE ?_;show wC _ _ _ _ _ _ _ _ _) | skip
     have eti:t=i:=by omega
     rw [eti] at hp hc
     exact And.intro trivial (Exists.intro _ (And.intro rfl ⟨rfl,_,hp,js hp1 hcr hi1 hi3 hlw hup,hk,hc⟩))
  ·have q5:¬ (((b:Int) - (m:Int))=1):=by simpa using q5
   first | refine Zl ?_ | skip
   refine Zc<|Za rfl<|Za rfl<|ZB (a:=(a:Int)) (b:=(b:Int)) rfl rfl ⟨by omega,by omega⟩ ?_
   obtain ⟨h8,eh8⟩:∃ h:Nat,h=(a+b) / 2:=⟨_,rfl⟩
   refine Zg (v:=.int .u64 ((a+b:Nat):Int)) rfl (zv (n:=a+b) (j:=(a:Int)+(b:Int)) (by omega) rfl (by omega))<|Zg (v:=.int .u64 ((h8:Nat):Int)) rfl (by rw [eh8];exact Qn (m:=a+b) (d:=1) (by decide) rfl rfl)<|Zg (v:=iv (h8:Int)) rfl (qH (n:=h8) (j:=(h8:Int)) (by omega) rfl rfl)<|Za rfl<|Zb<|Zc<|Za rfl<|Za rfl<|ZB (a:=(h8:Int)) (b:=(m:Int)) rfl rfl ⟨by omega,by omega⟩<|Za rfl<|Zb<|Zc<|Za rfl<|Za rfl<|Zb<|Zc<|Za rfl<|Za rfl<|Vo (a:=(m:Int)) (b:=(h8:Int)) rfl rfl<|Zb ?_
   refine And.intro (fun q9=>?_) (fun q9=>?_)
   ·have q9:(m:Int) > (h8:Int):=of_decide_eq_true q9
    refine Zc<|Za rfl<|Za rfl<|Z8 (a:=(h8:Int)+(m:Int)) (b:=(b:Int)) rfl rfl ⟨by omega,by omega⟩<|Za rfl<|Zb<|Zc<|Za rfl<|Za rfl<|Zb ?_
    refine Zgr (mid:=h8) (nn:=h8+m) (s0:=(h8+m) - b) (r0:=h8) hlb hn hlo hk hc (fun H1 a m b g k=>ih H1 a m b g (hk0.trans k)) hcmp ham hmb hb hM eh8 rfl (.inl ⟨by omega,by omega,rfl⟩) (by omega) hd hp1 hp2 hcr (by exact ⟨rfl,rfl,rfl,rfl,rfl,rfl,ivq (by omega),ivq (by omega),ivq (by omega),trivial⟩) ?_
    intro H' S' g' p' s' k' c'
    exact And.intro trivial (Exists.intro _ (And.intro rfl ⟨rfl,g',p',s',k',c'⟩))
   ·have q9:¬ ((m:Int) > (h8:Int)):=of_decide_eq_false q9
    refine Zc<|Za rfl<|Za rfl<|Zb<|Zc<|Za rfl<|Za rfl<|Zb ?_
    refine Zgr (mid:=h8) (nn:=h8+m) (s0:=a) (r0:=m) hlb hn hlo hk hc (fun H1 a m b g k=>ih H1 a m b g (hk0.trans k)) hcmp ham hmb hb hM eh8 rfl (.inr ⟨by omega,rfl,rfl⟩) (by omega) hd hp1 hp2 hcr (by exact ⟨rfl,rfl,rfl,rfl,rfl,rfl,ivq (by omega),ivq (by omega),ivq (by omega),trivial⟩) ?_
    intro H' S' g' p' s' k' c'
    exact And.intro trivial (Exists.intro _ (And.intro rfl ⟨rfl,g',p',s',k',c'⟩))
theorem qi {bd cap n:Nat} {v u:Nat→Int} {Hr:Hp} (hlo:lo≤Hr.next) (hlb:lo≤bd) (hn:n≤1000000) {fc:FuncId} {caps:Array Value} {key:Nat→Int} (hcmp:Uq Try.prog kn lo bd fc caps (fun x=>.agg #[iv (v x),iv (u x)]) n key Hr):∀ (M:Nat) (H1:Hp) (a m b:Nat) (g:Nat→Nat),KT bd Hr H1→a < m→m < b→b≤n→b - a < M→(∀ k,k < n→g k < n)→So key a m g→So key m b g→Cr a m b g→Cl H1 bd (cG (fun x=>[iv (v x),iv (u x)]) n g)→∃ H' g',FnX Try.prog kn lo 84 [.slice (some ⟨bd,0,none⟩) n cap,iv (a:Int),iv (m:Int),iv (b:Int),.func (.func fc) #[] caps] H1 (.tuple #[]) H'∧PRm a b g g'∧So key a b g'∧KT bd H1 H'∧Cl H' bd (cG (fun x=>[iv (v x),iv (u x)]) n g')
 | 0,_,_,_,_,_,_,_,_,_,h,_,_,_,_,_=>absurd h (Nat.not_lt_zero _)
 | M+1,_,_,_,_,_,hk,ham,hmb,hb,hM,hd,hp1,hp2,hcr,hc=>ZcJ (Nat.le_trans hlo hk.1) hlb hn hk hc (qi hlo hlb hn hcmp M) hcmp ham hmb hb (Nat.le_of_lt_succ hM) hd hp1 hp2 hcr
end
end
end Go.Ax

/-
 Pool: sorting that keeps the order: blocks (written by program).
-/
namespace Go.Ax
open Go Go.RowKit Go.Proofs

noncomputable section
section
variable {kn:Kn} {lo:Nat} {H:Hp}
set_option maxRecDepth 100000 in
set_option maxHeartbeats 2000000 in
theorem Za6 (hlo:lo≤H.next) {bd cap n:Nat} {v u:Nat→Int} (hlb:lo≤bd) (hn:n≤160) (hc:Cl H bd (cG (fun x=>[iv (v x),iv (u x)]) n fun i=>i)) {fc:FuncId} {caps:Array Value} {key:Nat→Int} (hcmp:Uq Try.prog kn lo bd fc caps (fun x=>.agg #[iv (v x),iv (u x)]) n key H):∃ H' g',FnX Try.prog kn lo 75 [.slice (some ⟨bd,0,none⟩) n cap,iv (n:Int),.func (.func fc) #[] caps] H (.tuple #[]) H'∧PRm 0 n (fun i=>i) g'∧So key 0 n g'∧KT bd H H'∧Cl H' bd (cG (fun x=>[iv (v x),iv (u x)]) n g'):=by
 have key_:=Zs (kn:=kn) (lo:=lo) (H:=H) (args:=[.slice (some ⟨bd,0,none⟩) n cap,iv (n:Int),.func (.func fc) #[] caps]) (Q:=fun w H'=>w=.tuple #[]∧∃ g',PRm 0 n (fun i=>i) g'∧So key 0 n g'∧KT bd H H'∧Cl H' bd (cG (fun x=>[iv (v x),iv (u x)]) n g')) Try.func75 B75 N75 Z75 L75 (by simp) ?_
 ·obtain ⟨w,H',h,rfl,g',r⟩:=key_;exact ⟨H',g',h,r⟩
 have hk:=KT.refl (H:=H) hc.1
 refine Zc<|Za rfl<|Zb<|Zc<|Za rfl<|Za rfl<|Za rfl<|Zb ?_
 refine ZA (fn:=Try.f75) ZfU N75 Zf3 (fun a:Nat=>[(0,.slice (some ⟨bd,0,none⟩) n cap),(1,iv (n:Int)),(2,.func (.func fc) #[] caps),(6,iv 20),(7,iv (a:Int)),(8,iv ((a:Int)+20))])
  (fun k a H'=>k=n - a∧a % 20=0∧a≤n∧∃ g',Bk0 key a n g'∧PRm 0 n (fun i=>i) g'∧KT bd H H'∧Cl H' bd (cG (fun x=>[iv (v x),iv (u x)]) n g')) _ 0 ⟨rfl,rfl,Nat.zero_le _,fun i=>i,Bk0.init n,PRm.refl _ _ _,hk,hc⟩ ⟨rfl,rfl,rfl,rfl,rfl,rfl,trivial⟩ ?_
 rintro k a L1 ⟨rfl,ha,han,gx,hB,hp,hk,hc⟩
 refine Zc<|Za rfl<|Za rfl<|Wl (a:=((a:Int)+20)) (b:=(n:Int)) rfl rfl<|Zb ?_
 refine And.intro (fun q1=>?_) (fun q1=>?_)
 ·have q1:((a:Int)+20)≤(n:Int):=of_decide_eq_true q1
  first | refine Zl ?_ | skip
  refine Zc<|Za rfl<|Za rfl<|Za rfl<|Za rfl ?_
  obtain ⟨H1,gH1,fH1,pH1,sH1,kH1,cH1⟩:=ZbX (kn:=kn) (lo:=lo) (H:=L1) (by have:=hk.1;omega) hlb (by omega) (cap:=cap) hc (hp.dom (fun k q=>q) (Nat.le_refl _)) (hcmp.from hk.kp) (a:=a) (b:=(a+20)) (by omega) (by omega) (fun i j q1 q2 q3=>hB.ids i j q1 q2)
  refine Zx (vs:=[.slice (some ⟨bd,0,none⟩) n cap,iv (a:Int),iv ((a:Int)+20),.func (.func fc) #[] caps]) rfl (by have q:=Zi fH1;rw [show (((a+20):Nat):Int)=((a:Int)+20) by omega] at q;exact q) ?_
  have mH1:=kH1.1
  have hk:=hk.trans kH1
  have hc:=cH1
  have hp:=hp.trans (pH1.mono (by omega) (by omega) (by omega))
  have hB:=hB.step ha (by omega) (by omega) pH1 sH1
  refine Zb<|Zc<|Za rfl<|Za rfl<|Zb ?_
  show Zq _ _ _ _ _ _ _ _
  refine Za rfl<|Za rfl<|ZB (a:=((a:Int)+20)) (b:=20) rfl rfl ⟨by omega,by omega⟩<|Za rfl<|Zb ?_
  exact ⟨_,a+20,by omega,⟨rfl,by omega,by omega,_,hB,hp,hk,hc⟩,rfl,rfl,rfl,rfl,ivq (by omega),ivq (by omega),trivial⟩
 ·have q1:¬ (((a:Int)+20)≤(n:Int)):=of_decide_eq_false q1
  first | (refine ZE ?_;show wC _ _ _ _ _ _ _ _ _) | skip
  refine Zc<|Za rfl<|Za rfl<|Za rfl<|Za rfl ?_
  obtain ⟨H2,gH2,fH2,pH2,sH2,kH2,cH2⟩:=ZbX (kn:=kn) (lo:=lo) (H:=L1) (by have:=hk.1;omega) hlb (by omega) (cap:=cap) hc (hp.dom (fun k q=>q) (Nat.le_refl _)) (hcmp.from hk.kp) (a:=a) (b:=n) (by omega) (by omega) (fun i j q1 q2 q3=>hB.ids i j q1 q2)
  refine Zx (vs:=[.slice (some ⟨bd,0,none⟩) n cap,iv (a:Int),iv (n:Int),.func (.func fc) #[] caps]) rfl (Zi fH2) ?_
  have mH2:=kH2.1
  have hk:=hk.trans kH2
  have hc:=cH2
  have hp:=hp.trans (pH2.mono (by omega) (by omega) (by omega))
  have hB:=hB.step ha (by omega) (by omega) pH2 sH2
  refine Zb ?_
  have hB:=hB.low (Nat.le_refl _)
  refine ZA (fn:=Try.f75) ZfW N75 Zgf (fun bs:Nat=>[(0,.slice (some ⟨bd,0,none⟩) n cap),(1,iv (n:Int)),(2,.func (.func fc) #[] caps),(6,iv (bs:Int))])
   (fun k bs H'=>k=400 - bs∧(Bs bs∨bs=160)∧∃ g',Bk key bs 0 n g'∧PRm 0 n (fun i=>i) g'∧KT bd H H'∧Cl H' bd (cG (fun x=>[iv (v x),iv (u x)]) n g')) _ 20 ⟨rfl,.inl (.inl rfl),_,hB,hp,hk,hc⟩ ⟨rfl,rfl,rfl,rfl,trivial⟩ ?_
  rintro k bs L2 ⟨rfl,hbs,gy,hB,hp,hk,hc⟩
  refine Zc<|Za rfl<|Za rfl<|ZM (a:=(bs:Int)) (b:=(n:Int)) rfl rfl<|Zb ?_
  refine And.intro (fun q2=>?_) (fun q2=>?_)
  ·have q2:(bs:Int) < (n:Int):=of_decide_eq_true q2
   first | refine Zl ?_ | skip
   refine Zc<|Za rfl<|V6 (a:=2) (b:=(bs:Int)) rfl rfl ⟨by omega,by omega⟩<|Za rfl<|Za rfl<|Zb ?_
   have hbs:Bs bs:=hbs.resolve_right (by omega)
   have hb0:20≤bs:=by unfold Bs at hbs;omega
   have hB:=hB.init2
   refine ZA (fn:=Try.f75) Zji N75 ZiV (fun a:Nat=>[(0,.slice (some ⟨bd,0,none⟩) n cap),(1,iv (n:Int)),(2,.func (.func fc) #[] caps),(6,iv (bs:Int)),(7,iv (a:Int)),(8,iv ((a:Int)+2 * (bs:Int)))])
    (fun k a H'=>k=n - a∧a % (2 * bs)=0∧a≤n∧∃ g',Bk2 key bs a n g'∧PRm 0 n (fun i=>i) g'∧KT bd H H'∧Cl H' bd (cG (fun x=>[iv (v x),iv (u x)]) n g')) _ 0 ⟨rfl,Nat.zero_mod _,Nat.zero_le _,_,hB,hp,hk,hc⟩ ⟨rfl,rfl,rfl,rfl,rfl,ivq (by omega),trivial⟩ ?_
   rintro k a L3 ⟨rfl,ha,han,gz,hB,hp,hk,hc⟩
   refine Zc<|Za rfl<|Za rfl<|Wl (a:=((a:Int)+2 * (bs:Int))) (b:=(n:Int)) rfl rfl<|Zb ?_
   refine And.intro (fun q3=>?_) (fun q3=>?_)
   ·have q3:((a:Int)+2 * (bs:Int))≤(n:Int):=of_decide_eq_true q3
    first | refine Zl ?_ | skip
    refine Zc<|Za rfl<|Za rfl<|Za rfl<|Za rfl<|ZB (a:=(a:Int)) (b:=(bs:Int)) rfl rfl ⟨by omega,by omega⟩<|Za rfl<|Za rfl ?_
    obtain ⟨q1H3,q2H3,q3H3⟩:=hB.hi.part hbs (ZeQ hbs ha) (m:=a+bs) (b:=(a+2 * bs)) (by omega) (by omega) (by omega) (by omega)
    obtain ⟨H3,gH3,fH3,pH3,sH3,kH3,cH3⟩:=qi (kn:=kn) (lo:=lo) hlo hlb (by omega) (cap:=cap) hcmp ((a+2 * bs) - a+1) L3 (a) (a+bs) ((a+2 * bs)) gz hk (by omega) (by omega) (by omega) (by omega) (hp.dom (fun k q=>q) (Nat.le_refl _)) q1H3 q2H3 q3H3 hc
    refine Zx (vs:=[.slice (some ⟨bd,0,none⟩) n cap,iv (a:Int),iv ((a:Int)+(bs:Int)),iv ((a:Int)+2 * (bs:Int)),.func (.func fc) #[] caps]) rfl (by have q:=Zi fH3;rw [show ((a+bs:Nat):Int)=(a:Int)+(bs:Int) by omega] at q;rw [show (((a+2 * bs):Nat):Int)=((a:Int)+2 * (bs:Int)) by omega] at q;exact q) ?_
    have mH3:=kH3.1
    have hk:=hk.trans kH3
    have hc:=cH3
    have hp:=hp.trans (pH3.mono (by omega) (by omega) (by omega))
    refine Zb<|Zc<|Za rfl<|Za rfl<|Zb ?_
    show Zq _ _ _ _ _ _ _ _
    refine Za rfl<|Za rfl<|V6 (a:=2) (b:=(bs:Int)) rfl rfl ⟨by omega,by omega⟩<|ZB (a:=((a:Int)+2 * (bs:Int))) (b:=2 * (bs:Int)) rfl rfl ⟨by omega,by omega⟩<|Za rfl<|Zb ?_
    obtain ⟨hB,ha⟩:=hB.next hbs ha (b:=a+2 * bs) rfl (by omega) pH3 sH3
    exact ⟨_,a+2 * bs,by omega,⟨rfl,ha,by omega,_,hB,hp,hk,hc⟩,rfl,rfl,rfl,rfl,ivq (by omega),ivq (by omega),trivial⟩
   ·have q3:¬ (((a:Int)+2 * (bs:Int))≤(n:Int)):=of_decide_eq_false q3
    first | (refine ZE ?_;show wC _ _ _ _ _ _ _ _ _) | skip
    refine Zc<|Za rfl<|Za rfl<|ZB (a:=(a:Int)) (b:=(bs:Int)) rfl rfl ⟨by omega,by omega⟩<|Za rfl<|Zb<|Zc<|Za rfl<|Za rfl<|ZM (a:=(a:Int)+(bs:Int)) (b:=(n:Int)) rfl rfl<|Zb ?_
    refine And.intro (fun q4=>?_) (fun q4=>?_)
    ·have q4:((a:Int)+(bs:Int)) < (n:Int):=of_decide_eq_true q4
     refine Zc<|Za rfl<|Za rfl<|Za rfl<|Za rfl<|Za rfl ?_
     obtain ⟨q1H4,q2H4,q3H4⟩:=hB.hi.part hbs (ZeQ hbs ha) (m:=a+bs) (b:=n) (by omega) (by omega) (by omega) (by omega)
     obtain ⟨H4,gH4,fH4,pH4,sH4,kH4,cH4⟩:=qi (kn:=kn) (lo:=lo) hlo hlb (by omega) (cap:=cap) hcmp (n - a+1) L3 (a) (a+bs) (n) gz hk (by omega) (by omega) (by omega) (by omega) (hp.dom (fun k q=>q) (Nat.le_refl _)) q1H4 q2H4 q3H4 hc
     refine Zx (vs:=[.slice (some ⟨bd,0,none⟩) n cap,iv (a:Int),iv ((a:Int)+(bs:Int)),iv (n:Int),.func (.func fc) #[] caps]) rfl (by have q:=Zi fH4;rw [show ((a+bs:Nat):Int)=(a:Int)+(bs:Int) by omega] at q;exact q) ?_
     have mH4:=kH4.1
     have hk:=hk.trans kH4
     have hc:=cH4
     have hp:=hp.trans (pH4.mono (by omega) (by omega) (by omega))
     refine Zb ?_
     show Zq _ _ _ _ _ _ _ _
     have hB2:=hB.step hbs ha (by omega) (by omega) (Nat.le_refl _) pH4 sH4
     refine Za rfl<|V6 (a:=(bs:Int)) (b:=2) rfl rfl ⟨by omega,by omega⟩<|Za rfl<|Zb ?_
     exact ⟨_,2 * bs,by unfold Bs at hbs;omega,⟨rfl,by unfold Bs at hbs ⊢;omega,_,hB2,hp,hk,hc⟩,rfl,rfl,rfl,ivq (by omega),trivial⟩
    ·have q4:¬ (((a:Int)+(bs:Int)) < (n:Int)):=of_decide_eq_false q4
     have hB2:=hB.last hbs ha han (by omega)
     first | refine Zl ?_ | skip
     show Zq _ _ _ _ _ _ _ _
     refine Za rfl<|V6 (a:=(bs:Int)) (b:=2) rfl rfl ⟨by omega,by omega⟩<|Za rfl<|Zb ?_
     exact ⟨_,2 * bs,by unfold Bs at hbs;omega,⟨rfl,by unfold Bs at hbs ⊢;omega,_,hB2,hp,hk,hc⟩,rfl,rfl,rfl,ivq (by omega),trivial⟩
  ·have q2:¬ ((bs:Int) < (n:Int)):=of_decide_eq_false q2
   first | (refine ZE ?_;show wC _ _ _ _ _ _ _ _ _) | skip
   exact And.intro trivial (Exists.intro _ (And.intro rfl ⟨rfl,gy,hp,hB.all (by omega),hk,hc⟩))
set_option maxRecDepth 100000 in
set_option maxHeartbeats 2000000 in
theorem Zfk (hlo:lo≤H.next) {bd cap n:Nat} {v u:Nat→Int} (hlb:lo≤bd) (hn:n≤160) (hc:Cl H bd (cG (fun x=>[iv (v x),iv (u x)]) n fun i=>i)) {fc:FuncId} {caps:Array Value} {key:Nat→Int} (hcmp:Uq Try.prog kn lo bd fc caps (fun x=>.agg #[iv (v x),iv (u x)]) n key H):∃ H' g',FnX Try.prog kn lo 62 [.slice (some ⟨bd,0,none⟩) n cap,.func (.func fc) #[] caps] H (.tuple #[]) H'∧PRm 0 n (fun i=>i) g'∧So key 0 n g'∧KT bd H H'∧Cl H' bd (cG (fun x=>[iv (v x),iv (u x)]) n g'):=by
 have key_:=Zs (kn:=kn) (lo:=lo) (H:=H) (args:=[.slice (some ⟨bd,0,none⟩) n cap,.func (.func fc) #[] caps]) (Q:=fun w H'=>w=.tuple #[]∧∃ g',PRm 0 n (fun i=>i) g'∧So key 0 n g'∧KT bd H H'∧Cl H' bd (cG (fun x=>[iv (v x),iv (u x)]) n g')) Try.func62 B62 N62 Z62 L62 (by simp) ?_
 ·obtain ⟨w,H',h,rfl,g',r⟩:=key_;exact ⟨H',g',h,r⟩
 have hk:=KT.refl (H:=H) hc.1
 show Zq _ _ _ _ _ _ _ _
 refine Za rfl<|Za rfl<|Yz (m:=n) rfl<|Za rfl ?_
 obtain ⟨H1,gH1,fH1,pH1,sH1,kH1,cH1⟩:=Za6 (kn:=kn) (lo:=lo) (H:=H) hlo hlb hn (cap:=cap) hc hcmp
 refine Zx (vs:=[.slice (some ⟨bd,0,none⟩) n cap,iv (n:Int),.func (.func fc) #[] caps]) rfl (Zi fH1) ?_
 have hk:=kH1;have hc:=cH1
 refine Zb ?_
 exact And.intro trivial (Exists.intro _ (And.intro rfl ⟨rfl,gH1,pH1,sH1,hk,hc⟩))
theorem Zd3 {cv:Value}:∃ H',FnX Try.prog kn lo 83 [.slice none 0 0,iv 0,iv 0,cv] H (.tuple #[]) H'∧Keep H H' []:=by
 have key_:=Zs (kn:=kn) (lo:=lo) (H:=H) (args:=[.slice none 0 0,iv 0,iv 0,cv]) (Q:=fun w H'=>w=.tuple #[]∧Keep H H' []) Try.func83 B83 N83 Z83 L83 (by simp) ?_
 ·obtain ⟨w,H',h,rfl,r⟩:=key_;exact ⟨H',h,r⟩
 have hk:=Keep.refl H []
 refine Zc<|Za rfl<|ZB (a:=0) (b:=1) rfl rfl ⟨by omega,by omega⟩<|Za rfl<|Zb ?_
 refine ZA (fn:=Try.f83) Zgn N83 Zgi (fun _:Unit=>[(0,.slice none 0 0),(2,iv 0),(8,iv 1)])
  (fun k _ H'=>Keep H H' []) 0 () hk ⟨rfl,rfl,rfl,trivial⟩ ?_
 rintro k _ L1 hq
 have hk:=hq
 refine Zc<|Za rfl<|Za rfl<|ZM (a:=1) (b:=0) rfl rfl<|Zb<|ZQ ?_
 first | (refine ZE ?_;show wC _ _ _ _ _ _ _ _ _) | skip
 exact And.intro trivial (Exists.intro _ (And.intro rfl ⟨rfl,hk⟩))
theorem jD {cv:Value}:∃ H',FnX Try.prog kn lo 75 [.slice none 0 0,iv 0,cv] H (.tuple #[]) H'∧Keep H H' []:=by
 have key_:=Zs (kn:=kn) (lo:=lo) (H:=H) (args:=[.slice none 0 0,iv 0,cv]) (Q:=fun w H'=>w=.tuple #[]∧Keep H H' []) Try.func75 B75 N75 Z75 L75 (by simp) ?_
 ·obtain ⟨w,H',h,rfl,r⟩:=key_;exact ⟨H',h,r⟩
 have hk:=Keep.refl H []
 refine Zc<|Za rfl<|Zb<|Zc<|Za rfl<|Za rfl<|Za rfl<|Zb ?_
 refine ZA (fn:=Try.f75) ZfU N75 Zf3 (fun _:Unit=>[(0,.slice none 0 0),(1,iv 0),(2,cv),(6,iv 20),(7,iv 0),(8,iv 20)])
  (fun k _ H'=>Keep H H' []) 0 () hk ⟨rfl,rfl,rfl,rfl,rfl,rfl,trivial⟩ ?_
 rintro k _ L1 hq
 have hk:=hq
 refine Zc<|Za rfl<|Za rfl<|Wl (a:=20) (b:=0) rfl rfl<|Zb<|ZQ ?_
 first | (refine ZE ?_;show wC _ _ _ _ _ _ _ _ _) | skip
 refine Zc<|Za rfl<|Za rfl<|Za rfl<|Za rfl ?_
 obtain ⟨H1,fH1,kH1⟩:=Zd3 (kn:=kn) (lo:=lo) (H:=L1) (cv:=cv)
 refine Zx (vs:=[.slice none 0 0,iv 0,iv 0,cv]) rfl (Zi fH1) ?_
 have mH1:=kH1.1
 have hk:=hk.trans kH1
 refine Zb ?_
 refine ZA (fn:=Try.f75) ZfW N75 Zgf (fun _:Unit=>[(0,.slice none 0 0),(1,iv 0),(2,cv),(6,iv 20)])
  (fun k _ H'=>Keep H H' []) 0 () hk ⟨rfl,rfl,rfl,rfl,trivial⟩ ?_
 rintro k _ L2 hq
 have hk:=hq
 refine Zc<|Za rfl<|Za rfl<|ZM (a:=20) (b:=0) rfl rfl<|Zb<|ZQ ?_
 first | (refine ZE ?_;show wC _ _ _ _ _ _ _ _ _) | skip
 exact And.intro trivial (Exists.intro _ (And.intro rfl ⟨rfl,hk⟩))
theorem Zes {cv:Value}:∃ H',FnX Try.prog kn lo 62 [.slice none 0 0,cv] H (.tuple #[]) H'∧Keep H H' []:=by
 have key_:=Zs (kn:=kn) (lo:=lo) (H:=H) (args:=[.slice none 0 0,cv]) (Q:=fun w H'=>w=.tuple #[]∧Keep H H' []) Try.func62 B62 N62 Z62 L62 (by simp) ?_
 ·obtain ⟨w,H',h,rfl,r⟩:=key_;exact ⟨H',h,r⟩
 have hk:=Keep.refl H []
 show Zq _ _ _ _ _ _ _ _
 refine Za rfl<|Za rfl<|Yz (m:=0) rfl<|Za rfl ?_
 obtain ⟨H1,fH1,kH1⟩:=jD (kn:=kn) (lo:=lo) (H:=H) (cv:=cv)
 refine Zx (vs:=[.slice none 0 0,iv 0,cv]) rfl (Zi fH1) ?_
 have mH1:=kH1.1
 have hk:=hk.trans kH1
 refine Zb ?_
 exact And.intro trivial (Exists.intro _ (And.intro rfl ⟨rfl,hk⟩))
end
end
end Go.Ax

/-
 Pool: who is compared how;sorting by a number (64,48,61,66,63,74,47,60,46,53) (written by program).
-/
namespace Go.Ax
open Go Go.RowKit Go.Proofs

noncomputable section
theorem Zgd {n:Nat} {S:Rg} {x:Operand} {d:Option Tmp} {ty:TypeId} {p:String} {z:Int} (h1:-4611686018427387904≤z) (h2:z≤4611686018427387904) (hx:evS S x=some (iv z)):Zn Try.prog (frS n S) ⟨d,.unOp .neg 3 x,ty,p,#[],none⟩=some (iv (-z)):=by
 have e:∀ y:Int,ZH Try.prog (Op.unary .neg (.int .i64 y))=some (.int .i64 (IntKind.i64.wrap (0 - y))):=fun y=>by kernel_rfl
 unfold Zn
 simp only [Yo,hx,Z0,Xs,cond_true,e]
 rw [wrap_i64 (x:=0 - z) ⟨by omega,by omega⟩,Int.zero_sub]
def Qd {α:Type} (l:List α) (d:α) (s:Nat→Nat):List α:=(List.range l.length).map fun i=>l.getD (s i) d
theorem jl {α:Type} {l:List α} {d:α} {s:Nat→Nat}:(Qd l d s).length=l.length:=by simp [Qd]
theorem ZeT {α:Type} {l:List α} {d:α}:Qd l d (fun i=>i)=l:=by
 refine List.ext_getElem? fun i=>?_
 rcases Nat.lt_or_ge i l.length with q | q
 ·simp [Qd,q]
 ·simp [Qd,q]
theorem yM {α:Type} {l:List α} {d:α} {s:Nat→Nat} (p:PRm 0 l.length (fun i=>i) s):(Qd l d s).Perm l:=by
 have e:∀ g:Nat→Nat,Qd l d g=(rg g 0 l.length).map fun i=>l.getD i d:=fun g=>by
  unfold Qd rg
  rw [List.map_map,List.range_eq_range']
  rfl
 have:=p.perm.map fun i=>l.getD i d
 rw [← e,← e,ZeT] at this
 exact this
theorem Ks {α:Type} {l:List α} {d:α} {s:Nat→Nat} {f:α→Int} (h:So (fun i=>f (l.getD i d)) 0 l.length s):(Qd l d s).Pairwise fun a b=>f a≤f b:=by
 rw [List.pairwise_iff_getElem]
 intro i j hi hj hij
 rw [jl] at hi hj
 have:f (l.getD (s i) d) < f (l.getD (s j) d)∨(f (l.getD (s i) d)=f (l.getD (s j) d)∧s i < s j):=h i j (Nat.zero_le _) hij hj
 simp only [Qd,List.getElem_map,List.getElem_range]
 omega
theorem zw {α:Type} {l:List α} {d:α} {s:Nat→Nat} {e:α→List Value}:cG (fun i=>e (l.getD i d)) l.length s=(Qd l d s).flatMap e:=by
 unfold cG Qd
 rw [List.flatMap_map,List.flatMap_map]
section
variable {kn:Kn} {lo:Nat} {H:Hp}
theorem Qp {x y:Int}:∃ r H',FnX Try.prog kn lo 64 [iv x,iv y] H (iv r) H'∧(r < 0↔x < y)∧Keep H H' []:=by
 have key:=Zs (kn:=kn) (lo:=lo) (H:=H) (args:=[iv x,iv y]) (Q:=fun w H'=>∃ r,w=iv r∧(r < 0↔x < y)∧Keep H H' []) Try.func64 B64 N64 Z64 L64 (by simp) ?_
 ·obtain ⟨w,H',h,r,rfl,q⟩:=key;exact ⟨r,H',h,q⟩
 have hk:=Keep.refl H []
 refine Zc<|Za rfl<|Zb<|Zc<|Za rfl ?_
 obtain ⟨H1,fH1,kH1⟩:=ZaB (kn:=kn) (lo:=lo) (H:=H) (x)
 refine Zx (vs:=[iv (x)]) rfl (Zi fH1) ?_
 have mH1:=kH1.1
 have hk:=hk.trans kH1
 refine Za rfl<|Zb<|Zc<|Za rfl ?_
 obtain ⟨H2,fH2,kH2⟩:=ZaB (kn:=kn) (lo:=lo) (H:=H1) (y)
 refine Zx (vs:=[iv (y)]) rfl (Zi fH2) ?_
 have mH2:=kH2.1
 have hk:=hk.trans kH2
 refine Za rfl<|Zb<|Zc<|Za rfl<|Zb<|ZQ ?_
 first | refine Zl ?_ | skip
 refine Zc<|Za rfl<|Zb<|ZQ ?_
 first | refine Zl ?_ | skip
 refine Zc<|Za rfl<|Za rfl<|ZM (a:=x) (b:=y) rfl rfl<|Zb ?_
 refine And.intro (fun q1=>?_) (fun q1=>?_)
 ·have q1:x < y:=of_decide_eq_true q1
  refine Zc<|Za rfl<|Zb ?_
  exact And.intro trivial (Exists.intro _ (And.intro rfl ⟨-1,rfl,by omega,hk⟩))
 ·have q1:¬ (x < y):=of_decide_eq_false q1
  first | refine Zl ?_ | skip
  refine Zc<|Za rfl<|Za rfl<|Vo (a:=x) (b:=y) rfl rfl<|Zb ?_
  refine And.intro (fun q2=>?_) (fun q2=>?_)
  ·have q2:x > y:=of_decide_eq_true q2
   refine Zc<|Za rfl<|Zb ?_
   exact And.intro trivial (Exists.intro _ (And.intro rfl ⟨1,rfl,by omega,hk⟩))
  ·have q2:¬ (x > y):=of_decide_eq_false q2
   first | refine Zl ?_ | skip
   refine Zc<|Za rfl<|Zb ?_
   exact And.intro trivial (Exists.intro _ (And.intro rfl ⟨0,rfl,by omega,hk⟩))
theorem jR {a b:Int} (hlo:lo≤H.next):∃ H',FnX Try.prog kn lo 48 [.agg #[iv a,iv b]] H (iv a) H'∧Keep H H' []:=by
 have key:=Zs (kn:=kn) (lo:=lo) (H:=H) (args:=[.agg #[iv a,iv b]]) (Q:=fun w H'=>w=iv a∧Keep H H' []) Try.func48 B48 N48 Z48 L48 (by simp) ?_
 ·obtain ⟨w,H',h,rfl,q⟩:=key;exact ⟨H',h,q⟩
 have hk:=Keep.refl H []
 refine Zc<|Y5 (v:=.agg #[iv a,iv b]) rfl ?_
 intro H1 kH1 nH1 c1
 have c1:Cl H1 H.next [iv a,iv b]:=c1
 have mH1:=kH1.1
 have hk:=hk.trans kH1
 refine Za rfl<|Zb<|Zc<|ZI (b:=H.next) (o:=0) rfl<|Yi (b:=H.next) (o:=0) (v:=iv a) rfl c1.rd rfl<|Za rfl<|Zb ?_
 exact And.intro trivial (Exists.intro _ (And.intro rfl ⟨rfl,hk⟩))
theorem Zaq {a:Int} (h0:0≤a) (h1:a≤1099511627776):∃ H',FnX Try.prog kn lo 61 [iv a] H (iv (-a)) H'∧Keep H H' []:=by
 have key:=Zs (kn:=kn) (lo:=lo) (H:=H) (args:=[iv a]) (Q:=fun w H'=>w=iv (-a)∧Keep H H' []) Try.func61 B61 N61 Z61 L61 (by simp) ?_
 ·obtain ⟨w,H',h,rfl,q⟩:=key;exact ⟨H',h,q⟩
 have hk:=Keep.refl H []
 refine Zc<|Za rfl<|Zb<|Zc<|Za rfl<|Zg (v:=iv (-(a))) rfl (Zgd (z:=a) (by omega) (by omega) rfl)<|Za rfl<|Zb ?_
 exact And.intro trivial (Exists.intro _ (And.intro rfl ⟨rfl,hk⟩))
set_option maxRecDepth 100000 in
theorem jj {ms:List Mb} {sa:Option Addr} {n cap:Nat} (hs:Sl H sa n cap (mbc ms)) (hl:ms.length=n) (hn:n≤400) (hm:∀ m∈ms,okM m) {tot all:Int} (ht0:0≤tot) (ht1:tot≤1048576) (ha0:0 < all) (ha1:all≤439804651110400) {t1 t2 t3:Nat} (r1:Rd H t1 [iv tot]) (r2:Rd H t2 [.slice sa n cap]) (r3:Rd H t3 [iv all]) (hlo:lo≤H.next) {x:Nat} (hx:x < n):∃ H',FnX Try.prog kn lo 66 [iv (x:Int),.pointer (some ⟨t1,0,none⟩),.pointer (some ⟨t2,0,none⟩),.pointer (some ⟨t3,0,none⟩)] H (iv (-(tot * (ms.getD x Mb.z).b % all))) H'∧Keep H H' []:=by
 have key:=Zs (kn:=kn) (lo:=lo) (H:=H) (args:=[iv (x:Int),.pointer (some ⟨t1,0,none⟩),.pointer (some ⟨t2,0,none⟩),.pointer (some ⟨t3,0,none⟩)]) (Q:=fun w H'=>w=iv (-(tot * (ms.getD x Mb.z).b % all))∧Keep H H' []) Try.func66 B66 N66 Z66 L66 (by simp) ?_
 ·obtain ⟨w,H',h,rfl,q⟩:=key;exact ⟨H',h,q⟩
 have hk:=Keep.refl H []
 have fs:=hs.old
 have l1:=r1.1;have l2:=r2.1;have l3:=r3.1
 refine Zc<|Za rfl<|Zb<|Y0<|ZD (b:=t1) (o:=0) (v:=iv tot) rfl r1 rfl<|ZD (b:=t2) (o:=0) (v:=.slice sa n cap) rfl r2 rfl<|Ze rfl ?_
 rcases id hs with ⟨_,h0s,_⟩ | ⟨sb,es,rs,_⟩
 ·omega
 have ls:=rs.1
 have hmi:=Xz (z:=Mb.z) hm (show x < ms.length by omega);obtain ⟨hm1,hm2,hm3,hm4⟩:=hmi;have hmul:=Zc1 ht0 ht1 hm3 hm4
 refine Zw (b:=sb) (o:=0) (k:=x) (j:=(x:Int)) (by rw [← es];rfl) rfl rfl hx<|ZC (b:=sb) (o:=0+x * 2) rfl<|ZD (b:=sb) (o:=0+x * 2+1) (v:=iv ((ms.getD x Mb.z).b)) rfl rs (Zfo (l:=ms) (i:=x) (j:=1) (by omega) rfl)<|Zdt (a:=tot) (b:=(ms.getD x Mb.z).b) rfl rfl ⟨by omega,by omega⟩<|ZD (b:=t3) (o:=0) (v:=iv all) rfl r3 rfl<|Zhp (a:=tot * ((ms.getD x Mb.z).b)) (b:=all) rfl rfl (by omega) (by omega) ⟨by omega,by omega⟩ ⟨by omega,by omega⟩ ?_
 have hrm:=Int.emod_nonneg (tot * (ms.getD x Mb.z).b) (show all≠0 by omega);have hrn:=Int.emod_lt_of_pos (tot * (ms.getD x Mb.z).b) ha0
 refine ZR (v:=iv (-((tot * ((ms.getD x Mb.z).b)) % all))) rfl (Zgd (z:=(tot * ((ms.getD x Mb.z).b)) % all) (by omega) (by omega) rfl)<|Ze rfl ?_
 refine ZJ (by repeat' first | exact True.intro | exact (fun h=>h) | refine And.intro ?_ ?_ | (intro h;have h:(_:Nat)=_:=h;omega)) ?_
 exact And.intro trivial (Exists.intro _ (And.intro rfl ⟨rfl,hk⟩))
set_option maxRecDepth 100000 in
theorem ZeK {cb:Nat} (rc:Rd H cb [.func (.func 48) #[] #[]]) (hlo:lo≤H.next) {a b c d:Int}:∃ r H',FnX Try.prog kn lo 63 [.agg #[iv a,iv b],.agg #[iv c,iv d],.pointer (some ⟨cb,0,none⟩)] H (iv r) H'∧(r < 0↔a < c)∧Keep H H' []:=by
 have key:=Zs (kn:=kn) (lo:=lo) (H:=H) (args:=[.agg #[iv a,iv b],.agg #[iv c,iv d],.pointer (some ⟨cb,0,none⟩)]) (Q:=fun w H'=>∃ r,w=iv r∧(r < 0↔a < c)∧Keep H H' []) Try.func63 B63 N63 Z63 L63 (by simp) ?_
 ·obtain ⟨w,H',h,r,rfl,q⟩:=key;exact ⟨r,H',h,q⟩
 have hk:=Keep.refl H []
 have lc:=rc.1
 refine Zc<|Y5 (v:=.agg #[iv a,iv b]) rfl ?_
 intro H1 kH1 nH1 c1
 have c1:Cl H1 H.next [iv a,iv b]:=c1
 have mH1:=kH1.1
 have hk:=hk.trans kH1
 have rc:=kH1.rd rc (by simp)
 refine Y5 (v:=.agg #[iv c,iv d]) rfl ?_
 intro H2 kH2 nH2 c2
 have c2:Cl H2 H1.next [iv c,iv d]:=c2
 have mH2:=kH2.1
 have hk:=hk.trans kH2
 have rc:=kH2.rd rc (by simp)
 have c1:=kH2.cl c1 (by simp)
 refine Za rfl<|Zb<|Y0<|ZD (b:=cb) (o:=0) (v:=.func (.func 48) #[] #[]) rfl rc rfl<|YF (b:=H.next) (o:=0) rfl c1.rd (show row 2 _ _=some [iv a,iv b] from rfl) ?_
 obtain ⟨H3,fH3,kH3⟩:=jR (kn:=kn) (lo:=H2.next) (H:=H2) (a:=a) (b:=b) (Nat.le_refl _)
 refine WO (vs:=[.agg #[iv a,iv b]]) rfl rfl (YK rfl (by simpa using fH3)) ?_
 have mH3:=kH3.1
 have hk:=hk.trans kH3
 have rc:=kH3.rd rc (by simp)
 have c1:=kH3.cl c1 (by simp)
 have c2:=kH3.cl c2 (by simp)
 refine ZD (b:=cb) (o:=0) (v:=.func (.func 48) #[] #[]) rfl rc rfl<|YF (b:=H1.next) (o:=0) rfl c2.rd (show row 2 _ _=some [iv c,iv d] from rfl) ?_
 obtain ⟨H4,fH4,kH4⟩:=jR (kn:=kn) (lo:=lo) (H:=H3) (a:=c) (b:=d) (by omega)
 refine Yy (vs:=[.agg #[iv c,iv d]]) rfl (YK rfl (by simpa using fH4)) ?_
 have mH4:=kH4.1
 have hk:=hk.trans kH4
 have rc:=kH4.rd rc (by simp)
 have c1:=kH4.cl c1 (by simp)
 have c2:=kH4.cl c2 (by simp)
 obtain ⟨rH5,H5,fH5,hr,kH5⟩:=Qp (kn:=kn) (lo:=lo) (H:=H4) (x:=a) (y:=c)
 refine Yy (vs:=[iv (a),iv (c)]) rfl (Zi fH5) ?_
 have mH5:=kH5.1
 have hk:=hk.trans kH5
 have rc:=kH5.rd rc (by simp)
 have c1:=kH5.cl c1 (by simp)
 have c2:=kH5.cl c2 (by simp)
 refine Ze rfl ?_
 refine ZJ (by repeat' first | exact True.intro | exact (fun h=>h) | refine And.intro ?_ ?_ | (intro h;have h:(_:Nat)=_:=h;omega)) ?_
 exact And.intro trivial (Exists.intro _ (And.intro rfl ⟨_,rfl,by omega,hk⟩))
set_option maxRecDepth 100000 in
theorem ZfN {cb:Nat} (rc:Rd H cb [.func (.func 61) #[] #[]]) (hlo:lo≤H.next) {a b:Int} (h1:0≤a∧a≤1099511627776) (h2:0≤b∧b≤1099511627776):∃ r H',FnX Try.prog kn lo 74 [iv a,iv b,.pointer (some ⟨cb,0,none⟩)] H (iv r) H'∧(r < 0↔-a < -b)∧Keep H H' []:=by
 have key:=Zs (kn:=kn) (lo:=lo) (H:=H) (args:=[iv a,iv b,.pointer (some ⟨cb,0,none⟩)]) (Q:=fun w H'=>∃ r,w=iv r∧(r < 0↔-a < -b)∧Keep H H' []) Try.func74 B74 N74 Z74 L74 (by simp) ?_
 ·obtain ⟨w,H',h,r,rfl,q⟩:=key;exact ⟨r,H',h,q⟩
 have hk:=Keep.refl H []
 have lc:=rc.1
 refine Zc<|Za rfl<|Zb<|Y0<|ZD (b:=cb) (o:=0) (v:=.func (.func 61) #[] #[]) rfl rc rfl<|Ze rfl ?_
 obtain ⟨H1,fH1,kH1⟩:=Zaq (kn:=kn) (lo:=H.next) (H:=H) (a:=a) (by omega) (by omega)
 refine WO (vs:=[iv a]) rfl rfl (YK rfl (by simpa using fH1)) ?_
 have mH1:=kH1.1
 have hk:=hk.trans kH1
 have rc:=kH1.rd rc (by simp)
 refine ZD (b:=cb) (o:=0) (v:=.func (.func 61) #[] #[]) rfl rc rfl<|Ze rfl ?_
 obtain ⟨H2,fH2,kH2⟩:=Zaq (kn:=kn) (lo:=lo) (H:=H1) (a:=b) (by omega) (by omega)
 refine Yy (vs:=[iv b]) rfl (YK rfl (by simpa using fH2)) ?_
 have mH2:=kH2.1
 have hk:=hk.trans kH2
 have rc:=kH2.rd rc (by simp)
 obtain ⟨rH3,H3,fH3,hr,kH3⟩:=Qp (kn:=kn) (lo:=lo) (H:=H2) (x:=(-a)) (y:=(-b))
 refine Yy (vs:=[iv ((-a)),iv ((-b))]) rfl (Zi fH3) ?_
 have mH3:=kH3.1
 have hk:=hk.trans kH3
 have rc:=kH3.rd rc (by simp)
 refine Ze rfl ?_
 refine ZJ (by repeat' first | exact True.intro | exact (fun h=>h) | refine And.intro ?_ ?_ | (intro h;have h:(_:Nat)=_:=h;omega)) ?_
 exact And.intro trivial (Exists.intro _ (And.intro rfl ⟨_,rfl,by omega,hk⟩))
set_option maxRecDepth 100000 in
theorem Ze1 {ms:List Mb} {sa:Option Addr} {n cap:Nat} (hs:Sl H sa n cap (mbc ms)) (hl:ms.length=n) (hn:n≤400) (hm:∀ m∈ms,okM m) {tot all:Int} (ht0:0≤tot) (ht1:tot≤1048576) (ha0:0 < all) (ha1:all≤439804651110400) {t1 t2 t3:Nat} (r1:Rd H t1 [iv tot]) (r2:Rd H t2 [.slice sa n cap]) (r3:Rd H t3 [iv all]) {cb:Nat} (rc:Rd H cb [.func (.func 66) #[] #[.pointer (some ⟨t1,0,none⟩),.pointer (some ⟨t2,0,none⟩),.pointer (some ⟨t3,0,none⟩)]]) (hlo:lo≤H.next) {x y:Nat} (hx:x < n) (hy:y < n):∃ r H',FnX Try.prog kn lo 74 [iv (x:Int),iv (y:Int),.pointer (some ⟨cb,0,none⟩)] H (iv r) H'∧(r < 0↔-(tot * (ms.getD x Mb.z).b % all) < -(tot * (ms.getD y Mb.z).b % all))∧Keep H H' []:=by
 have key:=Zs (kn:=kn) (lo:=lo) (H:=H) (args:=[iv (x:Int),iv (y:Int),.pointer (some ⟨cb,0,none⟩)]) (Q:=fun w H'=>∃ r,w=iv r∧(r < 0↔-(tot * (ms.getD x Mb.z).b % all) < -(tot * (ms.getD y Mb.z).b % all))∧Keep H H' []) Try.func74 B74 N74 Z74 L74 (by simp) ?_
 ·obtain ⟨w,H',h,r,rfl,q⟩:=key;exact ⟨r,H',h,q⟩
 have hk:=Keep.refl H []
 have fs:=hs.old
 have lc:=rc.1;have l1:=r1.1;have l2:=r2.1;have l3:=r3.1
 refine Zc<|Za rfl<|Zb<|Y0<|ZD (b:=cb) (o:=0) (v:=.func (.func 66) #[] #[.pointer (some ⟨t1,0,none⟩),.pointer (some ⟨t2,0,none⟩),.pointer (some ⟨t3,0,none⟩)]) rfl rc rfl<|Ze rfl ?_
 obtain ⟨H1,fH1,kH1⟩:=jj (kn:=kn) (lo:=H.next) (H:=H) hs hl hn hm ht0 ht1 ha0 ha1 r1 r2 r3 (Nat.le_refl _) (x:=x) (by omega)
 refine WO (vs:=[iv (x:Int)]) rfl rfl (YK rfl (by simpa using fH1)) ?_
 have mH1:=kH1.1
 have hk:=hk.trans kH1
 have hs:=kH1.sl0 hs
 have rc:=kH1.rd rc (by simp)
 have r1:=kH1.rd r1 (by simp)
 have r2:=kH1.rd r2 (by simp)
 have r3:=kH1.rd r3 (by simp)
 refine ZD (b:=cb) (o:=0) (v:=.func (.func 66) #[] #[.pointer (some ⟨t1,0,none⟩),.pointer (some ⟨t2,0,none⟩),.pointer (some ⟨t3,0,none⟩)]) rfl rc rfl<|Ze rfl ?_
 obtain ⟨H2,fH2,kH2⟩:=jj (kn:=kn) (lo:=lo) (H:=H1) hs hl hn hm ht0 ht1 ha0 ha1 r1 r2 r3 (by omega) (x:=y) (by omega)
 refine Yy (vs:=[iv (y:Int)]) rfl (YK rfl (by simpa using fH2)) ?_
 have mH2:=kH2.1
 have hk:=hk.trans kH2
 have hs:=kH2.sl0 hs
 have rc:=kH2.rd rc (by simp)
 have r1:=kH2.rd r1 (by simp)
 have r2:=kH2.rd r2 (by simp)
 have r3:=kH2.rd r3 (by simp)
 obtain ⟨rH3,H3,fH3,hr,kH3⟩:=Qp (kn:=kn) (lo:=lo) (H:=H2) (x:=(-(tot * (ms.getD x Mb.z).b % all))) (y:=(-(tot * (ms.getD y Mb.z).b % all)))
 refine Yy (vs:=[iv ((-(tot * (ms.getD x Mb.z).b % all))),iv ((-(tot * (ms.getD y Mb.z).b % all)))]) rfl (Zi fH3) ?_
 have mH3:=kH3.1
 have hk:=hk.trans kH3
 have hs:=kH3.sl0 hs
 have rc:=kH3.rd rc (by simp)
 have r1:=kH3.rd r1 (by simp)
 have r2:=kH3.rd r2 (by simp)
 have r3:=kH3.rd r3 (by simp)
 refine Ze rfl ?_
 refine ZJ (by repeat' first | exact True.intro | exact (fun h=>h) | refine And.intro ?_ ?_ | (intro h;have h:(_:Nat)=_:=h;omega)) ?_
 exact And.intro trivial (Exists.intro _ (And.intro rfl ⟨_,rfl,by omega,hk⟩))
end
end
end Go.Ax

/-
 Pool: members,amounts,indexes sorted;best;who is cut off most (47,60,46,53) (written by program).
-/
namespace Go.Ax
open Go Go.RowKit Go.Proofs

noncomputable section
theorem y0:∀ xs:List Int,xs.flatMap (fun x=>[iv x])=cI xs
 | []=>rfl
 | x :: l=>by rw [List.flatMap_cons,y0 l];rfl
def idx (n:Nat):List Int:=(List.range n).map fun i:Nat=>(i:Int)
theorem ZfZ {n:Nat}:idx (n+1)=idx n ++ [(n:Int)]:=by unfold idx;rw [List.range_succ,List.map_append];rfl
theorem qX {n:Nat}:(idx n).length=n:=by simp [idx]
theorem JZ {n:Nat}:cG (fun x=>[iv (x:Int)]) n (fun i=>i)=cI (idx n):=by
 unfold cG idx cI
 rw [List.map_map,List.flatMap_map]
 induction (List.range n) with
 | nil=>rfl
 | cons a l ih=>rw [List.flatMap_cons,ih];rfl
def JT (n:Nat) (s:Nat→Nat):List Int:=(List.range n).map fun i:Nat=>(s i:Int)
theorem jx {n:Nat} {s:Nat→Nat}:(JT n s).length=n:=by simp [JT]
theorem Zfl {n i:Nat} {s:Nat→Nat} (h:i < n):(JT n s).getD i 0=(s i:Int):=by
 unfold JT;rw [List.getD_eq_getElem?_getD,List.getElem?_map,List.getElem?_range h];rfl
theorem ZaX {n:Nat} {s:Nat→Nat}:cG (fun x=>[iv (x:Int)]) n s=cI (JT n s):=by
 unfold cG JT cI
 rw [List.map_map,List.flatMap_map]
 induction (List.range n) with
 | nil=>rfl
 | cons a l ih=>rw [List.flatMap_cons,ih];rfl
theorem ZbO {H:Hp} {b:Nat} {cs:List Value} {t:TypeId × Bool} (h:Cl H b cs) (q:Qe H b=some t):H.t.get b=some (.cells cs t.1 t.2):=by
 obtain ⟨_,e,l,g⟩:=h
 unfold Qe at q
 rw [g] at q
 cases q;exact g
theorem ZbN {H:Hp} {b:Nat} {cs:List Value} {e:TypeId} {l:Bool} (h:H.t.get b=some (.cells cs e l)):Qe H b=some (e,l):=by unfold Qe;rw [h]
section
variable {kn:Kn} {lo:Nat} {H:Hp}
set_option maxRecDepth 100000 in
theorem Zdp {ms:List Mb} {bd cap:Nat} (hlb:lo≤bd) (hn160:ms.length≤160) (hc:Cl H bd (mbc ms)) (hlo:lo≤H.next):∃ s H',FnX Try.prog kn lo 47 [.slice (some ⟨bd,0,none⟩) ms.length cap,.func (.func 48) #[] #[]] H (.tuple #[]) H'∧PRm 0 ms.length (fun i=>i) s∧So (fun i=>(ms.getD i Mb.z).g) 0 ms.length s∧KT bd H H'∧Cl H' bd (mbc (Qd ms Mb.z s)):=by
 have key:=Zs (kn:=kn) (lo:=lo) (H:=H) (args:=[.slice (some ⟨bd,0,none⟩) ms.length cap,.func (.func 48) #[] #[]]) (Q:=fun w H'=>w=.tuple #[]∧∃ s,PRm 0 ms.length (fun i=>i) s∧So (fun i=>(ms.getD i Mb.z).g) 0 ms.length s∧KT bd H H'∧Cl H' bd (mbc (Qd ms Mb.z s))) Try.func47 B47 N47 Z47 L47 (by simp) ?_
 ·obtain ⟨w,H',h,rfl,s,r⟩:=key;exact ⟨s,H',h,r⟩
 have hk:=KT.refl (H:=H) hc.1
 refine Zc<|Y5 (v:=.func (.func 48) #[] #[]) rfl ?_
 intro H1 kH1 nH1 c1
 have c1:Cl H1 H.next [.func (.func 48) #[] #[]]:=c1
 have mH1:=kH1.1
 have hk:=hk.keep kH1
 have hc:=kH1.cl hc (by simp)
 refine Zb ?_
 show Zq _ _ _ _ _ _ _ _
 refine Za rfl<|Zg (v:=.func (.func 63) #[] #[pt H.next]) rfl (by kernel_rfl) ?_
 obtain ⟨cb,ecb⟩:∃ cb,cb=H.next:=⟨_,rfl⟩
 have hbd:=hk.b
 have hecb:bd < cb:=by omega
 rw [← ecb] at c1 ⊢
 have hlcb:=c1.1
 have hcm:Uq Try.prog kn lo bd 63 #[.pointer (some ⟨cb,0,none⟩)] (fun x=>.agg #[iv (ms.getD x Mb.z).g,iv (ms.getD x Mb.z).b]) ms.length (fun i=>(ms.getD i Mb.z).g) H1:=fun HH kH x y hx hy=>by
  have mH:=kH.1
  obtain ⟨r,H9,f9,hr,k9⟩:=ZeK (kn:=kn) (lo:=lo) (H:=HH) (kH.rd c1.rd (by simp;omega)) (by omega) (a:=(ms.getD x Mb.z).g) (b:=(ms.getD x Mb.z).b) (c:=(ms.getD y Mb.z).g) (d:=(ms.getD y Mb.z).b)
  exact ⟨r,H9,YK rfl (by simpa using f9),k9,hr⟩
 obtain ⟨H2,s,fH2,pH2,sH2,kH2,cH2⟩:=Zfk (kn:=kn) (lo:=lo) (H:=H1) (bd:=bd) (n:=ms.length) (v:=fun i=>(ms.getD i Mb.z).g) (u:=fun i=>(ms.getD i Mb.z).b) (by omega) hlb hn160 (cap:=cap) (by have e:=Zgu (l:=ms) (d:=Mb.z) (e:=Mb.f);unfold mbc at hc;rw [← e] at hc;exact hc) hcm
 refine Zx (vs:=[.slice (some ⟨bd,0,none⟩) ms.length cap,.func (.func 63) #[] #[.pointer (some ⟨cb,0,none⟩)]]) rfl (Zi fH2) ?_
 have hk:=hk.trans kH2
 refine Zb ?_
 have hcz:Cl H2 bd (mbc (Qd ms Mb.z s)):=by unfold mbc;rw [← zw];exact cH2
 exact And.intro trivial (Exists.intro _ (And.intro rfl ⟨rfl,s,pH2,sH2,hk,hcz⟩))
set_option maxRecDepth 100000 in
theorem Zdn {xs:List Int} {bd cap:Nat} (hlb:lo≤bd) (hn160:xs.length≤160) (hc:Cl H bd (cI xs)) (hlo:lo≤H.next) (hx0:∀ a∈xs,0≤a∧a≤1099511627776):∃ H',FnX Try.prog kn lo 60 [.slice (some ⟨bd,0,none⟩) xs.length cap,.func (.func 61) #[] #[]] H (.tuple #[]) H'∧KT bd H H'∧Cl H' bd (cI (dsc xs)):=by
 have key:=Zs (kn:=kn) (lo:=lo) (H:=H) (args:=[.slice (some ⟨bd,0,none⟩) xs.length cap,.func (.func 61) #[] #[]]) (Q:=fun w H'=>w=.tuple #[]∧KT bd H H'∧Cl H' bd (cI (dsc xs))) Try.func60 B60 N60 Z60 L60 (by simp) ?_
 ·obtain ⟨w,H',h,rfl,r⟩:=key;exact ⟨H',h,r⟩
 have hk:=KT.refl (H:=H) hc.1
 refine Zc<|Y5 (v:=.func (.func 61) #[] #[]) rfl ?_
 intro H1 kH1 nH1 c1
 have c1:Cl H1 H.next [.func (.func 61) #[] #[]]:=c1
 have mH1:=kH1.1
 have hk:=hk.keep kH1
 have hc:=kH1.cl hc (by simp)
 refine Zb ?_
 show Zq _ _ _ _ _ _ _ _
 refine Za rfl<|Zg (v:=.func (.func 74) #[] #[pt H.next]) rfl (by kernel_rfl) ?_
 obtain ⟨cb,ecb⟩:∃ cb,cb=H.next:=⟨_,rfl⟩
 have hbd:=hk.b
 have hecb:bd < cb:=by omega
 rw [← ecb] at c1 ⊢
 have hlcb:=c1.1
 have hcm:Uq Try.prog kn lo bd 74 #[.pointer (some ⟨cb,0,none⟩)] (fun x=>iv (xs.getD x 0)) xs.length (fun i=>-(xs.getD i 0)) H1:=fun HH kH x y hx hy=>by
  have mH:=kH.1
  obtain ⟨r,H9,f9,hr,k9⟩:=ZfN (kn:=kn) (lo:=lo) (H:=HH) (kH.rd c1.rd (by simp;omega)) (by omega) (a:=xs.getD x 0) (b:=xs.getD y 0) (qG hx0 hx) (qG hx0 hy)
  exact ⟨r,H9,YK rfl (by simpa using f9),k9,hr⟩
 obtain ⟨H2,s,fH2,pH2,sH2,kH2,cH2⟩:=ZbH (kn:=kn) (lo:=lo) (H:=H1) (bd:=bd) (n:=xs.length) (v:=fun i=>xs.getD i 0) (by omega) hlb hn160 (cap:=cap) (by have e:=Zgu (l:=xs) (d:=0) (e:=fun x=>[iv x]);rw [y0] at e;rw [← e] at hc;exact hc) hcm
 refine Zx (vs:=[.slice (some ⟨bd,0,none⟩) xs.length cap,.func (.func 74) #[] #[.pointer (some ⟨cb,0,none⟩)]]) rfl (Zi fH2) ?_
 have hk:=hk.trans kH2
 refine Zb ?_
 have hys:Qd xs 0 s=dsc xs:=Zd4 (yM pH2) ((Ks (f:=fun x:Int=>-x) sH2).imp fun h=>by omega)
 have hcz:Cl H2 bd (cI (dsc xs)):=by rw [← hys,← y0,← zw];exact cH2
 exact And.intro trivial (Exists.intro _ (And.intro rfl ⟨rfl,hk,hcz⟩))
set_option maxRecDepth 100000 in
theorem ZcL {ms:List Mb} {sa:Option Addr} {n cap:Nat} (hs:Sl H sa n cap (mbc ms)) (hl:ms.length=n) (hn:n≤400) (hm:∀ m∈ms,okM m) {tot all:Int} (ht0:0≤tot) (ht1:tot≤1048576) (ha0:0 < all) (ha1:all≤439804651110400) {t1 t2 t3:Nat} (r1:Rd H t1 [iv tot]) (r2:Rd H t2 [.slice sa n cap]) (r3:Rd H t3 [iv all]) {bd capd:Nat} (hlb:lo≤bd) (hn160:n≤160) (hc:Cl H bd (cI (idx n))) (hlo:lo≤H.next) (hb1:t1≠bd) (hb2:t2≠bd) (hb3:t3≠bd) (hb4:∀ b,sa=some ⟨b,0,none⟩→b≠bd):∃ s H',FnX Try.prog kn lo 60 [.slice (some ⟨bd,0,none⟩) n capd,.func (.func 66) #[] #[.pointer (some ⟨t1,0,none⟩),.pointer (some ⟨t2,0,none⟩),.pointer (some ⟨t3,0,none⟩)]] H (.tuple #[]) H'∧PRm 0 n (fun i=>i) s∧So (fun x=>-(tot * (ms.getD x Mb.z).b % all)) 0 n s∧KT bd H H'∧Cl H' bd (cI (JT n s)):=by
 have key:=Zs (kn:=kn) (lo:=lo) (H:=H) (args:=[.slice (some ⟨bd,0,none⟩) n capd,.func (.func 66) #[] #[.pointer (some ⟨t1,0,none⟩),.pointer (some ⟨t2,0,none⟩),.pointer (some ⟨t3,0,none⟩)]]) (Q:=fun w H'=>w=.tuple #[]∧∃ s,PRm 0 n (fun i=>i) s∧So (fun x=>-(tot * (ms.getD x Mb.z).b % all)) 0 n s∧KT bd H H'∧Cl H' bd (cI (JT n s))) Try.func60 B60 N60 Z60 L60 (by simp) ?_
 ·obtain ⟨w,H',h,rfl,s,r⟩:=key;exact ⟨s,H',h,r⟩
 have hk:=KT.refl (H:=H) hc.1
 have fs:=hs.old
 refine Zc<|Y5 (v:=.func (.func 66) #[] #[.pointer (some ⟨t1,0,none⟩),.pointer (some ⟨t2,0,none⟩),.pointer (some ⟨t3,0,none⟩)]) rfl ?_
 intro H1 kH1 nH1 c1
 have c1:Cl H1 H.next [.func (.func 66) #[] #[.pointer (some ⟨t1,0,none⟩),.pointer (some ⟨t2,0,none⟩),.pointer (some ⟨t3,0,none⟩)]]:=c1
 have mH1:=kH1.1
 have hk:=hk.keep kH1
 have hc:=kH1.cl hc (by simp)
 have hs:=kH1.sl0 hs
 have r1:=kH1.rd r1 (by simp)
 have r2:=kH1.rd r2 (by simp)
 have r3:=kH1.rd r3 (by simp)
 refine Zb ?_
 show Zq _ _ _ _ _ _ _ _
 refine Za rfl<|Zg (v:=.func (.func 74) #[] #[pt H.next]) rfl (by kernel_rfl) ?_
 obtain ⟨cb,ecb⟩:∃ cb,cb=H.next:=⟨_,rfl⟩
 have hbd:=hk.b
 have hecb:bd < cb:=by omega
 rw [← ecb] at c1 ⊢
 have hlcb:=c1.1
 have hcm:Uq Try.prog kn lo bd 74 #[.pointer (some ⟨cb,0,none⟩)] (fun x=>iv (x:Int)) n (fun x=>-(tot * (ms.getD x Mb.z).b % all)) H1:=fun HH kH x y hx hy=>by
  have mH:=kH.1
  obtain ⟨r,H9,f9,hr,k9⟩:=Ze1 (kn:=kn) (lo:=lo) (H:=HH) (kH.sl hs (fun b e=>by have:=hb4 b e;simp;omega)) hl hn hm ht0 ht1 ha0 ha1 (kH.rd r1 (by simp;omega)) (kH.rd r2 (by simp;omega)) (kH.rd r3 (by simp;omega)) (kH.rd c1.rd (by simp;omega)) (by omega) hx hy
  exact ⟨r,H9,YK rfl (by simpa using f9),k9,hr⟩
 obtain ⟨H2,s,fH2,pH2,sH2,kH2,cH2⟩:=ZbH (kn:=kn) (lo:=lo) (H:=H1) (bd:=bd) (n:=n) (v:=fun i=>(i:Int)) (by omega) hlb hn160 (cap:=capd) (by rw [← JZ] at hc;exact hc) hcm
 refine Zx (vs:=[.slice (some ⟨bd,0,none⟩) n capd,.func (.func 74) #[] #[.pointer (some ⟨cb,0,none⟩)]]) rfl (Zi fH2) ?_
 have hk:=hk.trans kH2
 refine Zb ?_
 exact And.intro trivial (Exists.intro _ (And.intro rfl ⟨rfl,s,pH2,sH2,hk,by rw [← ZaX];exact cH2⟩))
set_option maxRecDepth 100000 in
theorem ZeC {xs:List Int} {bd k:Nat} (hlb:lo≤bd) (hl:xs.length=k) (h0:0 < k) (hn160:k≤160) (hc:Cl H bd (cI xs)) (hg:H.t.get bd=some (.cells (cI xs) 3 true)) (hlo:lo≤H.next) (hx0:∀ a∈xs,0≤a∧a≤1099511627776) {mb:Int} (hm1:1≤mb) (hm2:mb≤1000):∃ H',FnX Try.prog kn lo 46 [.slice (some ⟨bd,0,none⟩) k k,iv mb] H (.slice (some ⟨bd,0,none⟩) (min mb.toNat k) k) H'∧KT bd H H'∧Cl H' bd (cI (dsc xs)):=by
 have key:=Zs (kn:=kn) (lo:=lo) (H:=H) (args:=[.slice (some ⟨bd,0,none⟩) k k,iv mb]) (Q:=fun w H'=>w=.slice (some ⟨bd,0,none⟩) (min mb.toNat k) k∧KT bd H H'∧Cl H' bd (cI (dsc xs))) Try.func46 B46 N46 Z46 L46 (by simp) ?_
 ·obtain ⟨w,H',h,rfl,q⟩:=key;exact ⟨H',h,q⟩
 have hk:=KT.refl (H:=H) hc.1
 refine Zc<|Za rfl<|Zb<|Zc<|Za rfl ?_
 obtain ⟨H1,fH1,kH1,cH1⟩:=Zdn (kn:=kn) (lo:=lo) (H:=H) (cap:=k) hlb (by omega) hc (by omega) hx0
 rw [hl] at fH1
 refine Zx (vs:=[.slice (some ⟨bd,0,none⟩) k k,.func (.func 61) #[] #[]]) rfl (Zi fH1) ?_
 have hk:=hk.trans kH1
 refine Zb<|Zc<|Za rfl<|Za rfl<|Za rfl<|Yz (m:=k) rfl ?_
 obtain ⟨M,eM⟩:∃ M,M=min mb.toNat k:=⟨_,rfl⟩
 have hM:min mb (k:Int)=(M:Int):=by omega
 refine ZiD (a:=mb) (b:=(k:Int)) rfl rfl ?_
 show Zq _ _ _ _ _ (Zy _ _ (iv (min mb (k:Int)))) _ _
 rw [hM]
 have hgt:=ZbO cH1 (kH1.tg.trans (ZbN hg))
 have hacz:Acc lo 0 3 H1 (.slice (some ⟨bd,0,none⟩) k k) k (cI (dsc xs)):=.inr ⟨bd,rfl,h0,by omega,hlb,cH1.1,hgt⟩
 obtain ⟨tv,kdt,et,dt,_,ta,htv,hts,hta⟩:=jo (lo:=lo) (k:=M) hacz (by rw [V7,hl]) (by omega)
 have hta:=hta h0;cases hta;subst htv
 refine X0 (v:=.slice (some ⟨bd,0,none⟩) M k) (H':=H1) (k:=kdt) rfl rfl (et _ _ _ _ _ _ _ rfl rfl) (by rcases dt with rfl | ⟨bR,rfl,hbR⟩;exact (fun b e=>by cases e);exact (fun b e=>by cases e;exact hbR))<|Za rfl<|Zb ?_
 exact And.intro trivial (Exists.intro _ (And.intro rfl ⟨by rw [← eM];rfl,hk,cH1⟩))
set_option maxRecDepth 100000 in
set_option maxHeartbeats 1000000 in
theorem ZeU {ms:List Mb} {sa:Option Addr} {n cap:Nat} (hs:Sl H sa n cap (mbc ms)) (hl:ms.length=n) (hn:n≤400) (hlo:lo≤H.next) (hm:∀ m∈ms,okM m) (hn160:n≤160) (h0:0 < n) {tot:Int} (ht0:0≤tot) (ht1:tot≤1048576) (ha0:0 < YL ms) (ha1:YL ms≤439804651110400):∃ (s:Nat→Nat) (bd:Nat) (H':Hp),FnX Try.prog kn lo 53 [.slice sa n cap,iv tot] H (.slice (some ⟨bd,0,none⟩) n n) H'∧PRm 0 n (fun i=>i) s∧So (fun x=>-(tot * (ms.getD x Mb.z).b % YL ms)) 0 n s∧H.next≤bd∧lo≤bd∧bd < H'.next∧H'.t.get bd=some (.cells (cI (JT n s)) 3 true)∧Keep H H' []:=by
 have key:=Zs (kn:=kn) (lo:=lo) (H:=H) (args:=[.slice sa n cap,iv tot]) (Q:=fun w H'=>∃ (s:Nat→Nat) (bd:Nat),w=.slice (some ⟨bd,0,none⟩) n n∧PRm 0 n (fun i=>i) s∧So (fun x=>-(tot * (ms.getD x Mb.z).b % YL ms)) 0 n s∧H.next≤bd∧lo≤bd∧bd < H'.next∧H'.t.get bd=some (.cells (cI (JT n s)) 3 true)∧Keep H H' []) Try.func53 B53 N53 Z53 L53 (by simp) ?_
 ·obtain ⟨w,H',h,s,bd,rfl,r⟩:=key;exact ⟨s,bd,H',h,r⟩
 have hk:=Keep.refl H []
 have fs:=hs.old
 refine Zc<|Y5 (v:=.slice sa n cap) rfl ?_
 intro H1 kH1 nH1 c1
 have c1:Cl H1 H.next [.slice sa n cap]:=c1
 have mH1:=kH1.1
 have hk:=hk.trans kH1
 have hs:=kH1.sl0 hs
 refine Y5 (v:=iv tot) rfl ?_
 intro H2 kH2 nH2 c2
 have c2:Cl H2 H1.next [iv tot]:=c2
 have mH2:=kH2.1
 have hk:=hk.trans kH2
 have hs:=kH2.sl0 hs
 have c1:=kH2.cl c1 (by simp)
 refine Za rfl<|Zb<|Zc<|Yi (b:=H.next) (o:=0) (v:=.slice sa n cap) rfl c1.rd rfl ?_
 obtain ⟨H3,fH3,kH3⟩:=JC (kn:=kn) (lo:=lo) (H:=H2) hs hl hn (by omega) hm
 refine Zx (vs:=[.slice sa n cap]) rfl (Zi fH3) ?_
 have mH3:=kH3.1
 have hk:=hk.trans kH3
 have hs:=kH3.sl0 hs
 have c1:=kH3.cl c1 (by simp)
 have c2:=kH3.cl c2 (by simp)
 refine WQ ?_
 intro H4 kH4 nH4 c4
 have c4:Cl H4 H3.next [iv 0]:=c4
 have mH4:=kH4.1
 have hk:=hk.trans kH4
 have hs:=kH4.sl0 hs
 have c1:=kH4.cl c1 (by simp)
 have c2:=kH4.cl c2 (by simp)
 refine ZdU (b:=H3.next) (o:=0) rfl rfl c4 (by omega) rfl rfl (by simp) ?_
 intro H5 kH5 nH5 sH5
 have mH5:=kH5.1
 have hk:=hk.new kH5 (fun b hb=>by simp at hb ⊢;omega)
 have hs:=kH5.sl hs (fun b e=>by have:=fs b e;first | (simp;done) | (simp;omega))
 have c1:=kH5.cl c1 (by first | (simp;done) | (simp;omega))
 have c2:=kH5.cl c2 (by first | (simp;done) | (simp;omega))
 have c4:Cl H5 H3.next [iv (YL ms)]:=sH5
 refine Zb<|Zc<|Za rfl<|Zb<|Zc<|Yi (b:=H.next) (o:=0) (v:=.slice sa n cap) rfl c1.rd rfl<|Yz (m:=n) rfl<|Za rfl<|Zb ?_
 refine ZA (fn:=Try.f53) Zim N53 Zh5 (fun z:Nat × Value=>[(2,pt H.next),(3,pt H1.next),(5,pt H3.next),(6,z.2),(11,iv (n:Int)),(12,iv (z.1:Int))])
  (fun k z H'=>z.1+k=n∧Keep H H' []∧H5.next≤H'.next∧Sl H' sa n cap (mbc ms)∧Cl H' H.next [.slice sa n cap]∧Cl H' H1.next [iv tot]∧Cl H' H3.next [iv (YL ms)]∧Acc lo H5.next 3 H' z.2 z.1 (cI (idx z.1))) n (0,.slice none 0 0) ⟨by simp,hk,Nat.le_refl _,hs,c1,c2,c4,.inl ⟨rfl,rfl,rfl⟩⟩ ⟨rfl,rfl,rfl,rfl,rfl,rfl,trivial⟩ ?_
 rintro k ⟨i,wv⟩ L1 ⟨hik,hk,hnx,hs,r2,r1,r3,hacc⟩
 simp only [] at hik hacc
 have mk:=hk.1;have kacc:=Keep.refl L1 []
 refine Zc<|ZM (a:=(i:Int)) (b:=(n:Int)) rfl rfl<|Zb ?_
 refine And.intro (fun q1=>?_) (fun q1=>?_)
 ·have q1:(i:Int) < (n:Int):=of_decide_eq_true q1
  first | refine Zl ?_ | skip
  refine Zc<|Za rfl<|Za rfl<|Zb ?_
  show Zq _ _ _ _ _ _ _ _
  refine Za rfl<|Za rfl ?_
  obtain ⟨H6,hH6⟩:∃ H6,L1.new (.cells [iv (i:Int)] 3 false)=H6:=⟨_,rfl⟩
  refine X0 (H':=H6) (k:=.heavy) rfl (by kernel_rfl) ((Xj (v:=iv (i:Int)) ZeO zo3 rfl rfl rfl (by decide)).trans (by rw [← hH6];rfl)) (fun b e=>by cases e) ?_
  obtain ⟨kH6,nH6,c6⟩:=ZO hH6;clear hH6
  have c6:Cl H6 L1.next [iv (i:Int)]:=c6
  have mH6:=kH6.1
  have hk:=hk.trans kH6
  have hs:=kH6.sl0 hs
  have r2:=kH6.cl r2 (by simp)
  have r1:=kH6.cl r1 (by simp)
  have r3:=kH6.cl r3 (by simp)
  have kacc:=kacc.trans kH6
  obtain ⟨H7,kdH7,eH7,dH7,aH7,kbH7⟩:=Yu (P:=Try.prog) (lo:=lo) (k:=i) (t1:=67) ZeO Zfp (c6.sl (Nat.le_refl 1)) rfl (by decide) rfl (by rw [qY,qX];omega) (by omega) (hacc.keep kacc) (by omega) (by omega)
  refine X0 (k:=kdH7) rfl (by cases wv<;>kernel_rfl) (eH7 _ _ _ _ _ _ _ rfl rfl) (Qs dH7 _) ?_
  have hk:=kbH7.keep hk (by omega)
  have hs:=kbH7.sl hs (fun b e=>by have:=fs b e;omega)
  have r2:=kbH7.cl r2 (by omega)
  have r1:=kbH7.cl r1 (by omega)
  have r3:=kbH7.cl r3 (by omega)
  have mH7:=kbH7.1
  refine Za rfl<|Zb ?_
  show Zq _ _ _ _ _ _ _ _
  refine ZB (a:=(i:Int)) (b:=1) rfl rfl ⟨by omega,by omega⟩<|Za rfl<|Zb ?_
  have hacc2:Acc lo H5.next 3 H7 (.slice (some ⟨H6.next,0,none⟩) (i+1) (i+1)) (i+1) (cI (idx (i+1))):=by rw [ZfZ];unfold cI at *;rw [List.map_append];exact aH7
  exact ⟨k - 1,(i+1,_),by omega,⟨by simp only [];omega,hk,by omega,hs,r2,r1,r3,hacc2⟩,rfl,rfl,rfl,rfl,rfl,rfl,trivial⟩
 ·have q1:¬ ((i:Int) < (n:Int)):=of_decide_eq_false q1
  have ein:i=n:=by omega
  rcases hacc with ⟨q0,_⟩ | ⟨bd,rfl,q0,q1,q2,q3,q4⟩
  ·exfalso;omega
  rw [ein] at q0 q4 ⊢
  first | (refine ZE ?_;show wC _ _ _ _ _ _ _ _ _) | skip
  refine Zc<|Za rfl<|Zg (v:=.func (.func 66) #[] #[pt H1.next,pt H.next,pt H3.next]) rfl (by kernel_rfl) ?_
  obtain ⟨s,H8,fH8,pH8,sH8,kH8,cH8⟩:=ZcL (kn:=kn) (lo:=lo) (H:=L1) (capd:=n) hs hl hn hm ht0 ht1 ha0 ha1 (t1:=H1.next) (t2:=H.next) (t3:=H3.next) r1.rd r2.rd r3.rd (bd:=bd) (by omega) hn160 (by rw [← JZ];exact ⟨q3,3,true,by rw [JZ];exact q4⟩) (by omega) (by omega) (by omega) (by omega) (fun b e=>by have:=fs b e;omega)
  refine Zx (vs:=[.slice (some ⟨bd,0,none⟩) n n,.func (.func 66) #[] #[.pointer (some ⟨H1.next,0,none⟩),.pointer (some ⟨H.next,0,none⟩),.pointer (some ⟨H3.next,0,none⟩)]]) rfl (Zi fH8)<|Zb<|Zc<|Za rfl<|Za rfl<|Zb ?_
  exact And.intro trivial (Exists.intro _ (And.intro rfl ⟨s,bd,rfl,pH8,sH8,by omega,by omega,cH8.1,ZbO cH8 (kH8.tg.trans (ZbN q4)),hk.new kH8.kp (fun b hb=>.inr (by simp at hb;omega))⟩))
end
end
end Go.Ax

/-
 Pool: shares (32) (written by program).
-/
namespace Go.Ax
open Go Go.RowKit Go.Proofs

noncomputable section
def shQ (ms:List Mb) (tot:Int) (m:Mb):Qt:=⟨m.g,m.b,tot * m.b / YL ms⟩
def shP (ms:List Mb) (tot:Int):List Qt:=ms.map (shQ ms tot)
def shJ (ms:List Mb) (tot:Int) (s:Nat→Nat) (j:Nat):List Qt:=(List.range ms.length).map fun i=>⟨(ms.getD i Mb.z).g,(ms.getD i Mb.z).b,tot * (ms.getD i Mb.z).b / YL ms+(if i∈(List.range j).map s then 1 else 0)⟩
theorem ZfY {ms:List Mb} {tot:Int} {s:Nat→Nat}:shJ ms tot s 0=shP ms tot:=by
 unfold shJ shP
 refine List.ext_getElem? fun i=>?_
 rcases Nat.lt_or_ge i ms.length with q | q
 ·simp [q,shQ]
 ·simp [q]
theorem Qa {ms:List Mb} {tot:Int} {s:Nat→Nat} {j:Nat}:(shJ ms tot s j).length=ms.length:=by simp [shJ]
theorem Zev {ms:List Mb} {tot:Int} {s:Nat→Nat} {j i:Nat} (h:i < ms.length):(shJ ms tot s j).getD i Qt.z=⟨(ms.getD i Mb.z).g,(ms.getD i Mb.z).b,tot * (ms.getD i Mb.z).b / YL ms+(if i∈(List.range j).map s then 1 else 0)⟩:=by
 unfold shJ;rw [List.getD_eq_getElem?_getD,List.getElem?_map,List.getElem?_range h];rfl
theorem Zb5 {n:Nat} {s:Nat→Nat} (p:PRm 0 n (fun i=>i) s) {i j:Nat} (hi:i < n) (hj:j < n) (e:s i=s j):i=j:=by
 have hid:rg (fun i:Nat=>i) 0 n=List.range n:=by unfold rg;rw [List.range_eq_range'];simp
 have h:=p.perm
 rw [hid] at h
 have hn:(rg s 0 n).Nodup:=h.nodup_iff.2 List.nodup_range
 have key:∀ i j,i < j→j < n→s i≠s j:=by
  intro i j hij hj e
  have:=(List.pairwise_iff_getElem.1 hn) i j (by rw [Zau];omega) (by rw [Zau];omega) hij
  apply this
  simp only [rg,List.getElem_map,List.getElem_range']
  simpa using e
 rcases Nat.lt_trichotomy i j with q | q | q
 ·exact absurd e (key i j q hj)
 ·exact q
 ·exact absurd e.symm (key j i q hi)
theorem qP {n:Nat} {s:Nat→Nat} (p:PRm 0 n (fun i=>i) s) {i:Nat} (hi:i < n):s i < n:=p.dom (fun k h=>h) (Nat.le_refl _) i hi
theorem ZjC {ms:List Mb} {tot:Int} {s:Nat→Nat} {j:Nat} (p:PRm 0 ms.length (fun i=>i) s) (hj:j < ms.length):(shJ ms tot s j).set (s j) ⟨(ms.getD (s j) Mb.z).g,(ms.getD (s j) Mb.z).b,tot * (ms.getD (s j) Mb.z).b / YL ms+1⟩=shJ ms tot s (j+1):=by
 refine List.ext_getElem? fun i=>?_
 rw [List.getElem?_set,Qa]
 rcases Nat.lt_or_ge i ms.length with q | q
 ·by_cases e:s j=i
  ·rw [if_pos e,if_pos (by omega),← e]
   unfold shJ
   rw [List.getElem?_map,List.getElem?_range (by omega)]
   simp only [Option.map_some]
   rw [if_pos (show s j∈(List.range (j+1)).map s from List.mem_map.2 ⟨j,by simp,rfl⟩)]
  ·rw [if_neg e]
   unfold shJ
   rw [List.getElem?_map,List.getElem?_map,List.getElem?_range q]
   simp only [Option.map_some]
   have:i∈(List.range (j+1)).map s↔i∈(List.range j).map s:=by
    rw [List.range_succ,List.map_append,List.mem_append]
    simp only [List.map_cons,List.map_nil,List.mem_singleton]
    constructor
    ·rintro (h | h)
     ·exact h
     ·exact absurd h.symm e
    ·exact fun h=>.inl h
   simp only [this]
 ·rw [if_neg (by have:=qP p hj;omega),List.getElem?_eq_none (by rw [Qa];exact q),List.getElem?_eq_none (by rw [Qa];exact q)]
theorem ZeR {ms:List Mb} {tot:Int} {s:Nat→Nat} {j:Nat} (p:PRm 0 ms.length (fun i=>i) s) (hj:j < ms.length):((shJ ms tot s j).getD (s j) Qt.z).a=tot * (ms.getD (s j) Mb.z).b / YL ms:=by
 rw [Zev (qP p hj)]
 have:s j ∉ (List.range j).map s:=by
  intro h
  obtain ⟨i,hi,e⟩:=List.mem_map.1 h
  have hi:=List.mem_range.1 hi
  have:=Zb5 p (i:=i) (j:=j) (by omega) hj e
  omega
 simp only [if_neg this]
 omega
theorem ZeL {l:List Qt} {i:Nat} {v:Int} (h:i < l.length):(qtc l).set (0+i * 3+2) (iv v)=qtc (l.set i ⟨(l.getD i Qt.z).g,(l.getD i Qt.z).b,v⟩):=
 jq (f:=Qt.f) (fun _ _=>rfl) (Ua h) (by decide) rfl
def Ql (ms:List Mb) (tot:Int):Int:=tot - UQ (shP ms tot)
def bI (ms:List Mb) (x:Int):Int:=(ms.getD x.toNat Mb.z).b
theorem K8 {ms:List Mb} {F:Mb→Int}:∀ n,n≤ms.length→YJ (fun x=>F (ms.getD x.toNat Mb.z)) (idx n)=YJ (fun x=>x) ((ms.take n).map F)
 | 0,_=>rfl
 | n+1,h=>by
  rw [ZfZ,Jf,K8 n (by omega),Xu (z:=Mb.z) (by omega),List.map_append,Jf]
  simp [YJ]
theorem Zdi {ms:List Mb}:YJ (bI ms) (idx ms.length)=YL ms:=by
 have:=K8 (ms:=ms) (F:=fun m=>m.b) ms.length (Nat.le_refl _)
 rw [List.take_length] at this
 exact this
theorem ZdA {ms:List Mb} {tot:Int}:ZaE tot (YL ms) (bI ms) (idx ms.length)=Ql ms tot:=by
 have:=K8 (ms:=ms) (F:=fun m=>tot * m.b / YL ms) ms.length (Nat.le_refl _)
 rw [List.take_length] at this
 unfold ZaE Ql UQ shP
 rw [List.map_map]
 show tot - YJ (fun x=>tot * (ms.getD x.toNat Mb.z).b / YL ms) _=_
 rw [this]
 rfl
theorem jt {ms:List Mb} {tot:Int} (ha:0 < YL ms):0≤Ql ms tot∧Ql ms tot≤ms.length:=by
 have h0:0 < (idx ms.length).length:=by
  rw [qX]
  rcases Nat.eq_zero_or_pos ms.length with e | e
  ·exfalso
   have:ms=[]:=List.eq_nil_of_length_eq_zero e
   subst this
   exact absurd ha (by decide)
  ·exact e
 have:=Zfz (total:=tot) (b:=bI ms) ha Zdi
 rw [ZdA,jz] at this
 have h2:=List.length_filter_le (fun g=>decide (0 < cut tot (YL ms) (bI ms g))) (idx ms.length)
 rw [qX] at h2
 omega
theorem ql:∀ {l:List Int},(∀ a∈l,0≤a)→0≤YJ (fun x=>x) l
 | [],_=>Int.le_refl _
 | y :: l,h=>by
  have h0:=h y List.mem_cons_self
  have:=ql (l:=l) fun a ha=>h a (List.mem_cons_of_mem _ ha)
  simp only [YJ];omega
theorem Kc:∀ {l:List Int},(∀ a∈l,0≤a)→∀ x∈l,x≤YJ (fun x=>x) l
 | y :: l,h,x,hx=>by
  have h0:=h y List.mem_cons_self
  have hr:0≤YJ (fun x=>x) l:=by
   exact ql (fun a ha=>h a (List.mem_cons_of_mem _ ha))
  simp only [YJ]
  rcases List.mem_cons.1 hx with e | e
  ·omega
  ·have:=Kc (fun a ha=>h a (List.mem_cons_of_mem _ ha)) x e;omega
theorem Zdd {ms:List Mb} {tot:Int} (hm:∀ m∈ms,okM m) (ht0:0≤tot) (ht1:tot≤1048576) (ha:0 < YL ms):∀ q∈shP ms tot,okQ q:=by
 intro q hq
 obtain ⟨m,hmm,e⟩:=List.mem_map.1 hq
 have k:=hm m hmm
 have hb:m.b≤YL ms:=by
  have:=Kc (l:=ms.map (·.b)) (fun a ha=>(ZbR hm a ha).1) m.b (List.mem_map.2 ⟨m,hmm,rfl⟩)
  exact this
 rw [← e]
 have h1:0≤tot * m.b:=Int.mul_nonneg ht0 k.2.2.1
 have h2:tot * m.b≤tot * YL ms:=Int.mul_le_mul_of_nonneg_left hb ht0
 constructor
 ·exact Int.ediv_nonneg h1 (by omega)
 ·have:tot * m.b / YL ms≤tot:=Int.ediv_le_of_le_mul ha h2
  show tot * m.b / YL ms≤2199023255552
  omega
section
variable {kn:Kn} {lo:Nat} {H:Hp}
set_option maxRecDepth 100000 in
set_option maxHeartbeats 1000000 in
theorem jE {ms:List Mb} {sa:Option Addr} {n cap:Nat} (hs:Sl H sa n cap (mbc ms)) (hl:ms.length=n) (hn:n≤400) (hlo:lo≤H.next) (hm:∀ m∈ms,okM m) (hn160:n≤160) (h0:0 < n) {tot:Int} (ht0:0≤tot) (ht1:tot≤1048576) (ha0:0 < YL ms) (ha1:YL ms≤439804651110400):∃ (s:Nat→Nat) (qb:Nat) (H':Hp),FnX Try.prog kn lo 32 [.slice sa n cap,iv tot] H (.slice (some ⟨qb,0,none⟩) n n) H'∧PRm 0 n (fun i=>i) s∧So (fun x=>-(tot * (ms.getD x Mb.z).b % YL ms)) 0 n s∧H.next≤qb∧Cl H' qb (qtc (shJ ms tot s (Ql ms tot).toNat))∧Keep H H' []:=by
 have key:=Zs (kn:=kn) (lo:=lo) (H:=H) (args:=[.slice sa n cap,iv tot]) (Q:=fun w H'=>∃ (s:Nat→Nat) (qb:Nat),w=.slice (some ⟨qb,0,none⟩) n n∧PRm 0 n (fun i=>i) s∧So (fun x=>-(tot * (ms.getD x Mb.z).b % YL ms)) 0 n s∧H.next≤qb∧Cl H' qb (qtc (shJ ms tot s (Ql ms tot).toNat))∧Keep H H' []) Try.func32 B32 N32 Z32 L32 (by simp) ?_
 ·obtain ⟨w,H',h,s,qb,rfl,r⟩:=key;exact ⟨s,qb,H',h,r⟩
 have hk:=Keep.refl H []
 have fs:=hs.old
 refine Zc<|Za rfl<|Zb<|Zc<|Za rfl ?_
 obtain ⟨H1,fH1,kH1⟩:=JC (kn:=kn) (lo:=lo) (H:=H) hs hl hn (by omega) hm
 refine Zx (vs:=[.slice sa n cap]) rfl (Zi fH1) ?_
 have mH1:=kH1.1
 have hk:=hk.trans kH1
 have hs:=kH1.sl0 hs
 refine Za rfl<|Zb<|Zc<|Za rfl<|Zb<|Zc<|Za rfl<|Yz (m:=n) rfl<|Za rfl<|Zb ?_
 refine ZA (fn:=Try.f32) Zjt N32 Zhy (fun z:Nat × Value=>[(0,.slice sa n cap),(1,iv tot),(5,iv (YL ms)),(6,z.2),(13,.slice sa n cap),(14,iv (n:Int)),(15,iv (z.1:Int))])
  (fun k z H'=>z.1+k=n∧Keep H H' []∧H1.next≤H'.next∧Sl H' sa n cap (mbc ms)∧Acc lo H1.next 44 H' z.2 ((ms.take z.1).map (shQ ms tot)).length (qtc ((ms.take z.1).map (shQ ms tot)))) n (0,.slice none 0 0) ⟨by simp,hk,Nat.le_refl _,hs,.inl ⟨rfl,rfl,rfl⟩⟩ ⟨rfl,rfl,rfl,rfl,rfl,rfl,rfl,trivial⟩ ?_
 rintro k ⟨i,wv⟩ L1 ⟨hik,hk,hnx,hs,hacc⟩
 simp only [] at hik hacc
 have mk:=hk.1;have kacc:=Keep.refl L1 [];have hql:((ms.take i).map (shQ ms tot)).length=i:=by rw [List.length_map,List.length_take];omega
 refine Zc<|ZM (a:=(i:Int)) (b:=(n:Int)) rfl rfl<|Zb ?_
 refine And.intro (fun q1=>?_) (fun q1=>?_)
 ·have q1:(i:Int) < (n:Int):=of_decide_eq_true q1
  have hi:i < n:=by omega
  rcases id hs with ⟨_,h0s,_⟩ | ⟨sb,es,rs,_⟩
  ·omega
  have ls:=rs.1
  have lsb2:=fs sb es
  have hmi:=Xz (z:=Mb.z) hm (show i < ms.length by omega);obtain ⟨hm1,hm2,hm3,hm4⟩:=hmi;have hmul:=Zc1 ht0 ht1 hm3 hm4
  first | refine Zl ?_ | skip
  refine Zc<|WP (b:=sb) (o:=0) (k:=i) (j:=(i:Int)) (by rw [← es];rfl) rfl rfl hi<|Wo (b:=sb) (o:=0+i * 2) rfl rs (Q6 (by omega))<|WQ ?_
  intro H2 kH2 nH2 c2
  have c2:Cl H2 L1.next [iv 0,iv 0]:=c2
  have mH2:=kH2.1
  have hk:=hk.trans kH2
  have hs:=kH2.sl0 hs
  have kacc:=kacc.trans kH2
  have rs:=kH2.rd rs (by simp)
  refine Vc (b:=L1.next) (o:=0) rfl rfl c2 (by omega) rfl rfl (by simp) ?_
  intro H3 kH3 nH3 sH3
  have mH3:=kH3.1
  have hk:=hk.new kH3 (fun b hb=>by simp at hb ⊢;omega)
  have hs:=kH3.sl hs (fun b e=>by have:=fs b e;first | (simp;done) | (simp;omega))
  have kacc:=kacc.new kH3 (fun b hb=>by simp at hb ⊢;omega)
  have rs:=kH3.rd rs (by first | (simp;done) | (simp;omega))
  have c2:Cl H3 L1.next [iv ((ms.getD i Mb.z).g),iv ((ms.getD i Mb.z).b)]:=sH3
  refine Zb ?_
  first | refine Yc ?_ | refine WB ?_ | refine VC ?_ | (refine YV ?_;refine Yc ?_)
  refine Ze rfl<|ZC (b:=L1.next) (o:=0) rfl<|ZD (b:=L1.next) (o:=0) (v:=iv ((ms.getD i Mb.z).g)) rfl c2.rd rfl<|ZC (b:=L1.next) (o:=0) rfl<|ZD (b:=L1.next) (o:=1) (v:=iv ((ms.getD i Mb.z).b)) rfl c2.rd rfl<|Ze rfl<|ZC (b:=L1.next) (o:=0) rfl<|ZD (b:=L1.next) (o:=1) (v:=iv ((ms.getD i Mb.z).b)) rfl c2.rd rfl<|Zdt (a:=tot) (b:=(ms.getD i Mb.z).b) rfl rfl ⟨by omega,by omega⟩<|Ze rfl<|Zhu (a:=tot * ((ms.getD i Mb.z).b)) (b:=(YL ms)) rfl rfl (by omega) (by omega) ⟨by omega,by omega⟩<|ZR (v:=.agg #[iv ((ms.getD i Mb.z).g),iv ((ms.getD i Mb.z).b),iv ((tot * ((ms.getD i Mb.z).b)) / (YL ms))]) rfl (by kernel_rfl) ?_
  obtain ⟨H4,hH4⟩:∃ H4,H3.new (.cells [iv ((ms.getD i Mb.z).g),iv ((ms.getD i Mb.z).b),iv ((tot * ((ms.getD i Mb.z).b)) / (YL ms))] 44 false)=H4:=⟨_,rfl⟩
  refine Je (H':=H4) (k:=.heavy) rfl (by kernel_rfl) ((Xj (v:=.agg #[iv ((ms.getD i Mb.z).g),iv ((ms.getD i Mb.z).b),iv ((tot * ((ms.getD i Mb.z).b)) / (YL ms))]) ZfB ZhT rfl rfl rfl (by decide)).trans (by rw [← hH4];rfl)) (fun b e=>by cases e) ?_
  obtain ⟨kH4,nH4,c4⟩:=ZO hH4;clear hH4
  have c4:Cl H4 H3.next [iv ((ms.getD i Mb.z).g),iv ((ms.getD i Mb.z).b),iv ((tot * ((ms.getD i Mb.z).b)) / (YL ms))]:=c4
  have mH4:=kH4.1
  have hk:=hk.trans kH4
  have hs:=kH4.sl0 hs
  have kacc:=kacc.trans kH4
  have rs:=kH4.rd rs (by simp)
  have c2:=kH4.cl c2 (by simp)
  obtain ⟨H5,kdH5,eH5,dH5,aH5,kbH5⟩:=Yu (P:=Try.prog) (lo:=lo) (k:=((ms.take i).map (shQ ms tot)).length) (t1:=27) ZfB ZiF (c4.sl (Nat.le_refl 1)) rfl (by decide) rfl (by rw [yT]) (by omega) (hacc.keep kacc) (by omega) (by omega)
  refine Je (k:=kdH5) rfl (by cases wv<;>kernel_rfl) (eH5 _ _ _ _ _ _ _ rfl rfl) (Qs dH5 _) ?_
  have hk:=kbH5.keep hk (by omega)
  have hs:=kbH5.sl hs (fun b e=>by have:=fs b e;omega)
  have mH5:=kbH5.1
  refine Ze rfl ?_
  refine ZJ (by rcases dH5 with rfl | ⟨bH5,rfl,hbH5⟩<;>repeat' first | exact True.intro | exact (fun h=>h) | refine And.intro ?_ ?_ | (intro h;have h:(_:Nat)=_:=h;omega)) ?_
  show Zq _ _ _ _ _ _ _ _
  refine ZB (a:=(i:Int)) (b:=1) rfl rfl ⟨by omega,by omega⟩<|Za rfl<|Zb ?_
  have hU:ms.take (i+1)=ms.take i ++ [(ms.getD i Mb.z)]:=Xu (by omega)
  have hacc2:Acc lo H1.next 44 H5 (.slice (some ⟨H4.next,0,none⟩) (((ms.take i).map (shQ ms tot)).length+1) (((ms.take i).map (shQ ms tot)).length+1)) ((ms.take (i+1)).map (shQ ms tot)).length (qtc ((ms.take (i+1)).map (shQ ms tot))):=by unfold qtc at *;rw [hU,List.map_append,List.flatMap_append,List.length_append];exact aH5
  exact ⟨k - 1,(i+1,_),by omega,⟨by simp only [];omega,hk,by omega,hs,hacc2⟩,rfl,rfl,rfl,rfl,rfl,rfl,rfl,trivial⟩
 ·have q1:¬ ((i:Int) < (n:Int)):=of_decide_eq_false q1
  have ein:i=n:=by omega
  rw [ein,← hl,List.take_length] at hacc
  have hshl:(ms.map (shQ ms tot)).length=n:=by rw [List.length_map,hl]
  rw [hshl] at hacc
  rcases hacc with ⟨q0,_⟩ | ⟨qb,rfl,q0,q1,q2,q3,q4⟩
  ·exfalso;omega
  have hq:Cl L1 qb (qtc (shJ ms tot (fun i=>i) 0)):=⟨q3,44,true,by rw [ZfY];exact q4⟩
  have hq:Cl L1 qb (qtc (shP ms tot)):=⟨q3,44,true,q4⟩
  first | (refine ZE ?_;show wC _ _ _ _ _ _ _ _ _) | skip
  refine Zc<|Za rfl<|Za rfl ?_
  obtain ⟨s,ib,H6,fH6,hp,hso,hib1,hib2,hib3,hib4,kH6⟩:=ZeU (kn:=kn) (lo:=lo) (H:=L1) hs hl hn (by omega) hm hn160 h0 ht0 ht1 ha0 ha1
  refine Zx (vs:=[.slice sa n cap,iv tot]) rfl (Zi fH6) ?_
  have mH6:=kH6.1
  have hk:=hk.trans kH6
  have hs:=kH6.sl0 hs
  have hq:=kH6.cl hq (by simp)
  have hib:Acc lo 0 3 H6 (.slice (some ⟨ib,0,none⟩) n n) n (cI (JT n s)):=.inr ⟨ib,rfl,h0,by omega,hib2,hib3,hib4⟩
  refine Za rfl<|Za rfl ?_
  have hqs:Sl H6 (some ⟨qb,0,none⟩) n n (qtc (shP ms tot)):=.inr ⟨qb,rfl,hq.rd,Nat.le_refl _⟩
  obtain ⟨H7,fH7,kH7⟩:=Kq (kn:=kn) (lo:=lo) (H:=H6) hqs (by unfold shP;exact hshl) hn (by omega) (Zdd hm ht0 ht1 ha0)
  refine Zx (vs:=[.slice (some ⟨qb,0,none⟩) n n]) rfl (Zi fH7) ?_
  have mH7:=kH7.1
  have hk:=hk.trans kH7
  have hs:=kH7.sl0 hs
  have hq:=kH7.cl hq (by simp)
  have hib:=hib.keep kH7
  have hmk:=jt (tot:=tot) ha0;have hmd:Ql ms tot=tot - UQ (shP ms tot):=rfl;have haa:0≤UQ (shP ms tot):=ql fun a ha=>(ZcS (Zdd hm ht0 ht1 ha0) a ha).1
  refine Z8 (a:=tot) (b:=(UQ (shP ms tot))) rfl rfl ⟨by omega,by omega⟩ ?_
  obtain ⟨K,eK⟩:∃ K:Nat,K=(Ql ms tot).toNat:=⟨_,rfl⟩
  have hK:tot - UQ (shP ms tot)=(K:Int):=by omega
  rw [hK]
  obtain ⟨tv,kdt,et,dt,_,ta,htv,hts,hta⟩:=jo (lo:=lo) (k:=K) hib (by rw [jx]) (by omega)
  have hta:=hta h0;cases hta;subst htv
  refine X0 (v:=.slice (some ⟨ib,0,none⟩) K n) (H':=H7) (k:=kdt) rfl rfl (et _ _ _ _ _ _ _ rfl rfl) (by rcases dt with rfl | ⟨bR,rfl,hbR⟩;exact (fun b e=>by cases e);exact (fun b e=>by cases e;exact hbR)) ?_
  have hri:Rd H7 ib (cI (JT n s)):=by rcases hib with ⟨z,_⟩ | ⟨z,ez,_,_,_,z1,z2⟩;omega;cases ez;exact ⟨z1,by unfold cellsOf;rw [z2]⟩
  refine Yz (m:=K) rfl<|Za rfl<|Zb ?_
  have hq:Cl H7 qb (qtc (shJ ms tot s 0)):=by rw [ZfY];exact hq
  refine ZA (fn:=Try.f32) Zh0 N32 Ziz (fun j:Nat=>[(6,.slice (some ⟨qb,0,none⟩) n n),(41,.slice (some ⟨ib,0,none⟩) K n),(42,iv (K:Int)),(43,iv (j:Int))])
   (fun k j H'=>j+k=K∧Keep H H' []∧H7.next≤H'.next∧Rd H' ib (cI (JT n s))∧Cl H' qb (qtc (shJ ms tot s j))) K 0 ⟨by omega,hk,Nat.le_refl _,hri,hq⟩ ⟨rfl,rfl,rfl,rfl,trivial⟩ ?_
  rintro k j L2 ⟨hjk,hk,hnx2,hri,hq⟩
  have mk:=hk.1
  refine Zc<|ZM (a:=(j:Int)) (b:=(K:Int)) rfl rfl<|Zb ?_
  refine And.intro (fun q2=>?_) (fun q2=>?_)
  ·have q2:(j:Int) < (K:Int):=of_decide_eq_true q2
   have hjn:j < n:=by omega
   have hsj:=qP hp hjn;have hij:=Zfl (s:=s) hjn
   have hpl:PRm 0 ms.length (fun i=>i) s:=hl.symm ▸ hp
   have hnot:=ZeR (tot:=tot) hpl (by omega:j < ms.length)
   have hmi:=Xz (z:=Mb.z) hm (show s j < ms.length by omega);obtain ⟨hm1,hm2,hm3,hm4⟩:=hmi;have hmul:=Zc1 ht0 ht1 hm3 hm4;have hqd:=Int.ediv_nonneg hmul.1 (show 0≤YL ms by omega);have hqe:=Int.ediv_le_self (YL ms) hmul.1
   first | refine Zl ?_ | skip
   refine Zc<|WP (b:=ib) (o:=0) (k:=j) (j:=(j:Int)) rfl rfl rfl (by omega)<|Yi (b:=ib) (o:=0+j * 1) (v:=iv (s j:Int)) rfl hri (by rw [← hij];exact Zaw (by rw [jx];omega))<|Za rfl<|Zb ?_
   show Zq _ _ _ _ _ _ _ _
   refine Za rfl<|Za rfl<|WP (b:=qb) (o:=0) (k:=s j) (j:=(s j:Int)) rfl rfl rfl (by omega)<|ZI (b:=qb) (o:=0+(s j) * 3) rfl<|Yi (b:=qb) (o:=0+(s j) * 3+2) (v:=iv (((shJ ms tot s j).getD (s j) Qt.z).a)) rfl hq.rd (Y3 (l:=shJ ms tot s j) (i:=(s j)) (j:=2) (by rw [Qa];omega) rfl)<|ZB (a:=((shJ ms tot s j).getD (s j) Qt.z).a) (b:=1) rfl rfl ⟨by omega,by omega⟩<|WP (b:=qb) (o:=0) (k:=s j) (j:=(s j:Int)) rfl rfl rfl (by omega)<|ZI (b:=qb) (o:=0+(s j) * 3) rfl<|ZdU (b:=qb) (o:=0+s j * 3+2) rfl rfl hq (by omega) rfl rfl (by rw [yT,Qa];omega) ?_
   intro H8 kH8 nH8 sH8
   have mH8:=kH8.1
   have hq:Cl H8 qb (qtc (shJ ms tot s (j+1))):=by rw [← ZjC hpl (by omega:j < ms.length)];rw [ZeL (by rw [Qa];omega),hnot,Zev (by omega)] at sH8;exact sH8
   have hk:=hk.new kH8 (fun b hb=>.inr (by simp at hb;omega))
   have hri:=kH8.rd hri (by simp;omega)
   refine Zb ?_
   show Zq _ _ _ _ _ _ _ _
   refine ZB (a:=(j:Int)) (b:=1) rfl rfl ⟨by omega,by omega⟩<|Za rfl<|Zb ?_
   exact ⟨k - 1,j+1,by omega,⟨by omega,hk,by omega,hri,hq⟩,rfl,rfl,rfl,rfl,trivial⟩
  ·have q2:¬ ((j:Int) < (K:Int)):=of_decide_eq_false q2
   first | (refine ZE ?_;show wC _ _ _ _ _ _ _ _ _) | skip
   refine Zc<|Za rfl<|Za rfl<|Zb ?_
   have ejK:j=K:=by omega
   rw [ejK,eK] at hq
   exact And.intro trivial (Exists.intro _ (And.intro rfl ⟨s,qb,rfl,hp,hso,by omega,hq,hk⟩))
end
end
end Go.Ax

/-
 Pool: gather: the amounts of each grower,in a map (44) (written by program).
-/
namespace Go.Ax
open Go Go.RowKit Go.Proofs

noncomputable section
section
variable {P:Program} {kn:Kn} {lo n:Nat} {r:List RO} {S:Rg} {H:Hp} {K:Rg→Hp→Prop} {d:Option Nat} {rd:Bool} {masks:List Nat}
theorem qy {ops:List RO} {c:RC} {K:Exit→Rg→Hp→Prop} (h:Zu P kn lo n masks ops [] S H fun S' H'=>wCM P kn lo n rd c S' H' K):wCM P kn lo n rd (.seq (.dreg ops masks) c) S H K:=.inl h
theorem jB {ops:List RO} {K:Exit→Rg→Hp→Prop} (h:Zu P kn lo n masks ops [] S H fun S' H'=>K .normal S' H'):wCM P kn lo n rd (.dreg ops masks) S H K:=.inl h
theorem Zc5 {id:Nat} {ops:List RO} {K:Exit→Rg→Hp→Prop} (h:Zu P kn lo n masks ops [] S H fun S' H'=>K .normal S' H'):wCM P kn lo n rd (.block id (.dreg ops masks)) S H K:=.inl h
theorem Zdm {id:Nat} {ops:List RO} {c:RC} {K:Exit→Rg→Hp→Prop} (h:Zu P kn lo n masks ops [] S H fun S' H'=>wCM P kn lo n rd c S' H' K):wCM P kn lo n rd (.seq (.block id (.dreg ops masks)) c) S H K:=.inl h
theorem XX (s:Snd P kn) {c:Call} {f:FuncId} {v:Value} {args:List Value} {t0:Bool} (ht:YO S c=some (.fn (.func f) #[],v :: args)) (h:∃ H',FnX P kn lo f (v :: args) H (.bool t0) H'∧Keep H H' [])
  (hk:∀ t H',t0=t→Keep H H' []→Zm P kn lo n r (Zy S d (.bool t)) H' K) (hs:WI f=false:=by rfl):Zm P kn lo n (⟨d,none,.call c true⟩ :: r) S H K:=by
 obtain ⟨H',hf,k⟩:=h
 exact Z6 s ht (Zi hf hs) (hk t0 H' rfl k)
end
theorem JR {P:Program} {lo:Nat} {H:Hp} {t0 t1 e ep:TypeId} {size k cap2 f:Nat} {a:Option Addr} {v:Value} {cs news:List Value} (he:ZS P t0=some (e,size)) (ht:P.underlying t1=some (.slice ep))
  (hs:Sl H a 1 cap2 news) (hl:news.length=1 * size) (hz:0 < size) (hone:news.all one=true) (hcl:cs.length=k * size) (hk:k < 1000) (ha:Acc lo f e H v k cs) (hlo:lo≤H.next) (hf:f≤H.next) :
  ∃ H1 kd,(∀ (n:Nat) (S:Rg) (d:Option Tmp) (x y:Operand) (ty:TypeId) (p:String),evS S x=some v→evS S y=some (.slice a 1 cap2)→Zv P lo (frS n S) H ⟨d,.call ⟨.builtin .append,#[x,y],#[t0,t1]⟩,ty,p,#[],none⟩=some (.val (.slice (some ⟨H.next,0,none⟩) (k+1) (k+1)) H1,kd))∧(kd=.heavy∨∃ b,kd=.store b∧f≤b∧bkv v=some b)∧
   Acc lo f e H1 (.slice (some ⟨H.next,0,none⟩) (k+1) (k+1)) (k+1) (cs ++ news)∧YZ f H H1∧(∀ (w:Value) (m:Nat) (ds:List Value),Acc lo f e H w m ds→Ap v w→Acc lo f e H1 w m ds):=by
 rcases ha with ⟨rfl,rfl,rfl⟩ | ⟨b,rfl,h0,hb,hlb,hn,hg⟩
 ·refine ⟨H.new (.cells news e true),.heavy,?_,.inl rfl,?_,YZ.of (ZO rfl).1 hf,fun w m ds hw _=>hw.keep (ZO rfl).1⟩
  ·intro n S d x y ty p hx hy
   unfold Zv
   simp only [evs,Yo,hx,hy,Ys,List.getElem?_toArray,List.getElem?_cons_zero,List.getElem?_cons_succ,he,ht,UK hs hl,Z5]
   rfl
  ·refine .inr ⟨H.next,rfl,by omega,hf,hlo,Nat.lt_succ_self _,?_⟩
   show (H.t.set H.next _).get H.next=_
   rw [Tr.get_set,if_pos rfl];rfl
 ·have h1:Nat.ble (0+(k+1) * size) cs.length=false:=by
   cases h:Nat.ble (0+(k+1) * size) cs.length with
   | false=>rfl
   | true=>have:=Nat.le_of_ble_eq_true h;rw [hcl,Nat.succ_mul] at this;omega
  have h2:Nat.beq (0+k * size) cs.length=true:=by rw [hcl,Nat.zero_add];exact Nat.beq_refl _
  have h3:Nat.ble (k+1) 1048576=true:=Nat.ble_eq_true_of_le (by omega)
  have h4:Nat.beq e e=true:=Nat.beq_refl e
  refine ⟨({ H with t:=H.t.set b .dead }:Hp).new (.cells (cs ++ news) e true),.store b,?_,.inr ⟨b,rfl,hb,rfl⟩,?_,?_,?_⟩
  ·intro n S d x y ty p hx hy
   unfold Zv
   simp only [evs,Yo,hx,hy,Ys,List.getElem?_toArray,List.getElem?_cons_zero,List.getElem?_cons_succ,he,ht,UK hs hl,Z5,hg,h1,h2,h3,h4,hone,Nat.ble_eq_true_of_le hlb,Bool.and_self,cond_true,cond_false,List.drop_zero,show Nat.beq 1 0=false from rfl]
  ·refine .inr ⟨H.next,rfl,by omega,hf,hlo,Nat.lt_succ_self _,?_⟩
   show ((H.t.set b .dead).set H.next _).get H.next=_
   rw [Tr.get_set,if_pos rfl]
  ·exact K6 hb hf
  ·intro w m ds hw hap
   rcases hw with h | ⟨b2,rfl,q1,q2,q3,q4,q5⟩
   ·exact .inl h
   ·have hne:b≠b2:=hap b b2 rfl rfl
    refine .inr ⟨b2,rfl,q1,q2,q3,Nat.lt_succ_of_lt q4,?_⟩
    show ((H.t.set b .dead).set H.next _).get b2=_
    rw [Tr.get_set,if_neg (by omega),Tr.get_set,if_neg (fun e=>hne e.symm)]
    exact q5
section
variable {P:Program} {lo:Nat} {H:Hp} {α:Type} [DecidableEq α] {enc:α→Value}
theorem Zbl {tm tk te:TypeId} (k:XP P tk enc) (hu:P.underlying tm=some (.map tk te)) {b c:Nat} {L:ML α} {a:α} {v:Value} (hm:Mqa enc H b L c) (hl:lo≤b) :
  ∃ H',(∀ (S:Rg) (n:Nat) x y w dd ty p,evS S x=some (.map (some b))→evS S y=some (enc a)→evS S w=some v→Zv P lo (frS n S) H ⟨dd,.mapUpdate tm x y w,ty,p,#[],none⟩=some (.skip H',.store b))∧Keep H H' [b]∧H'.next=H.next∧Mqa enc H' b (Xo a v c L) (Y8 a c L):=by
 obtain ⟨k1,k2⟩:=Q4 (H:=H) (b:=b) (o:=.mq (mEs enc (Xo a v c L)) (Y8 a c L)) (fun cs e=>by cases e)
 exact ⟨_,fun S n x y w dd ty p hx hy hw=>Zcc k hu hx hy hw hm hl,k1,rfl,hm.1,k2⟩
theorem YZ.mqa {f:Nat} {H H1:Hp} {b:Nat} {L:ML α} {c:Nat} (k:YZ f H H1) (h:Mqa enc H b L c) (hb:b < f):Mqa enc H1 b L c:=⟨Nat.lt_of_lt_of_le h.1 k.le,by rw [k.same b hb];exact h.2⟩
theorem Acc.keepB {lo f f2:Nat} {e:TypeId} {H H1:Hp} {v:Value} {n:Nat} {cs:List Value} (h:Acc lo f e H v n cs) (k:YZ f2 H H1) (hx:∀ b,bkv v=some b→b < f2):Acc lo f e H1 v n cs:=
 h.imp id fun ⟨b,e1,h0,hf,hl,hn,hg⟩=>⟨b,e1,h0,hf,hl,Nat.lt_of_lt_of_le hn k.le,by rw [k.same b (hx b (by rw [e1];rfl))];exact hg⟩
theorem Acc.keepN {lo f:Nat} {e:TypeId} {H H1:Hp} {v:Value} {n bd:Nat} {cs:List Value} (h:Acc lo f e H v n cs) (k:Keep H H1 [bd]) (hx:∀ b,bkv v=some b→b≠bd):Acc lo f e H1 v n cs:=
 h.imp id fun ⟨b,e1,h0,hf,hl,hn,hg⟩=>⟨b,e1,h0,hf,hl,Nat.lt_of_lt_of_le hn k.1,by rw [k.2 b hn (by have:=hx b (by rw [e1];rfl);simpa using this)];exact hg⟩
theorem Acc.lt {lo f:Nat} {e:TypeId} {H:Hp} {v:Value} {n:Nat} {cs:List Value} (h:Acc lo f e H v n cs) (b:Nat) (hb:bkv v=some b):b < H.next:=by
 rcases h with ⟨_,_,rfl⟩ | ⟨b2,rfl,_,_,_,hn,_⟩
 ·cases hb
 ·cases hb;exact hn
end
theorem Zgh:Try.prog.underlying 80=some (.map 3 67):=by kernel_rfl
theorem Zhk:ZH Try.prog (zeroValue 67)=some (.slice none 0 0):=by kernel_rfl
structure Gat (lo f:Nat) (g:Gl) (cs:List Cp) (H:Hp) (L:ML Int) (c:Nat):Prop where
 wf:WfA L c
 key:∀ x,(Yg x L).isSome=true↔ZN g x cs≠[]
 val:∀ x v,Yg x L=some v→Acc lo f 3 H v (ZN g x cs).length (cI (ZN g x cs))
 ap:∀ x y v w,x≠y→Yg x L=some v→Yg y L=some w→Ap v w
theorem Gat.nil {lo f:Nat} {g:Gl} {H:Hp}:Gat lo f g [] H [] 0:=⟨WfA.nil,fun x=>by simp [Yg,ZN],(fun x v h=>by cases h),(fun x y v w _ h=>by cases h)⟩
theorem Gat.keep {lo f:Nat} {g:Gl} {cs:List Cp} {H H1:Hp} {L:ML Int} {c:Nat} (h:Gat lo f g cs H L c) (k:Keep H H1 []):Gat lo f g cs H1 L c:=⟨h.wf,h.key,fun x v e=>(h.val x v e).keep k,h.ap⟩
theorem Gat.keepW {lo f b:Nat} {g:Gl} {cs:List Cp} {H H1:Hp} {L:ML Int} {c:Nat} (h:Gat lo f g cs H L c) (k:Keep H H1 [b]) (hb:b < f):Gat lo f g cs H1 L c:=⟨h.wf,h.key,fun x v e=>(h.val x v e).keepW k hb,h.ap⟩
theorem Gat.at' {lo f:Nat} {g:Gl} {cs:List Cp} {H:Hp} {L:ML Int} {c:Nat} (h:Gat lo f g cs H L c) (x:Int):Acc lo f 3 H ((Yg x L).getD (.slice none 0 0)) (ZN g x cs).length (cI (ZN g x cs)):=by
 cases e:Yg x L with
 | some v=>exact h.val x v e
 | none=>
  have:ZN g x cs=[]:=Classical.byContradiction fun q=>by have:=(h.key x).2 q;rw [e] at this;cases this
  rw [this];exact .inl ⟨rfl,rfl,rfl⟩
theorem Zhv {g:Gl} {x:Int} {c:Cp} (h:inY g c=false):okX g x c=false:=by simp [okX,h]
theorem Zhf {g:Gl} {x:Int} {c:Cp} (h:c.r≠x):okX g x c=false:=by simp [okX,h]
theorem Gat.no {lo f:Nat} {g:Gl} {cs:List Cp} {i:Nat} {H:Hp} {L:ML Int} {c:Nat} (h:Gat lo f g (cs.take i) H L c) (hi:i < cs.length) (hy:inY g (cs.getD i Cp.z)=false):Gat lo f g (cs.take (i+1)) H L c:=by
 have e:∀ x,ZN g x (cs.take (i+1))=ZN g x (cs.take i):=fun x=>Vt hi (Zhv hy)
 exact ⟨h.wf,fun x=>by rw [e];exact h.key x,fun x v q=>by rw [e];exact h.val x v q,h.ap⟩
theorem Gat.yes {lo f:Nat} {g:Gl} {cs:List Cp} {i:Nat} {H H1:Hp} {L:ML Int} {c j1 j2:Nat} (h:Gat lo f g (cs.take i) H L c) (hi:i < cs.length) (hy:inY g (cs.getD i Cp.z)=true) {v0:Value} (e0:v0=(Yg (cs.getD i Cp.z).r L).getD (.slice none 0 0))
  (q3:Acc lo f 3 H1 (.slice (some ⟨H.next,0,none⟩) j1 j2) ((ZN g (cs.getD i Cp.z).r (cs.take i)).length+1) (cI (ZN g (cs.getD i Cp.z).r (cs.take i)) ++ [iv (cs.getD i Cp.z).a]))
  (q5:∀ (w:Value) (m:Nat) (ds:List Value),Acc lo f 3 H w m ds→Ap v0 w→Acc lo f 3 H1 w m ds) :
  Gat lo f g (cs.take (i+1)) H1 (Xo (cs.getD i Cp.z).r (.slice (some ⟨H.next,0,none⟩) j1 j2) c L) (Y8 (cs.getD i Cp.z).r c L):=by
 have e1:ZN g (cs.getD i Cp.z).r (cs.take (i+1))=ZN g (cs.getD i Cp.z).r (cs.take i) ++ [(cs.getD i Cp.z).a]:=Va hi (by unfold okX;rw [hy];simp)
 have e2:∀ x,x≠(cs.getD i Cp.z).r→ZN g x (cs.take (i+1))=ZN g x (cs.take i):=fun x hx=>Vt hi (Zhf fun q=>hx q.symm)
 have ha:∀ y w,y≠(cs.getD i Cp.z).r→Yg y L=some w→Ap v0 w:=by
  intro y w hy e
  cases q:Yg (cs.getD i Cp.z).r L with
  | none=>rw [q] at e0;subst e0;intro b c h;cases h
  | some u=>rw [q] at e0;subst e0;exact h.ap _ _ _ _ (fun q=>hy q.symm) q e
 refine ⟨h.wf.put _ _,fun x=>?_,fun x v e=>?_,fun x y v w hxy ex ey=>?_⟩
 ·rw [V8]
  split
  ·rename_i q;subst q;rw [e1];simp
  ·rename_i q;rw [e2 x q];exact h.key x
 ·rw [V8] at e
  split at e
  ·rename_i q;subst q;cases e;rw [e1,List.length_append];unfold cI at *;rw [List.map_append];exact q3
  ·rename_i q;rw [e2 x q];exact q5 _ _ _ (h.val x v e) (ha x v q e)
 ·rw [V8] at ex ey
  split at ex
  ·rename_i q;subst q;cases ex
   rw [if_neg (fun q=>hxy q.symm)] at ey
   exact (h.val y w ey).ap _ _
  ·split at ey
   ·cases ey;exact ((h.val x v ex).ap _ _).symm
   ·exact h.ap x y v w hxy ex ey
theorem UB {L:ML Int} {x:Int}:(Yg x L).isSome=true↔x∈L.map (·.1):=KS
theorem Gat.len {lo f:Nat} {g:Gl} {cs:List Cp} {H:Hp} {L:ML Int} {c:Nat} (h:Gat lo f g cs H L c):L.length≤cs.length:=by
 have:=XN (D:=L.map (·.1)) (L:=cs.map (·.r)) h.wf.keys fun x hx=>by
  obtain ⟨c,hc,e,_⟩:=Q3.1 ((h.key x).1 (UB.2 hx))
  exact List.mem_map.2 ⟨c,hc,e⟩
 simpa using this
section
variable {kn:Kn} {lo:Nat} {H:Hp}
set_option maxRecDepth 100000 in
set_option maxHeartbeats 1000000 in
theorem Zcx (s:Snd Try.prog kn) {cs:List Cp} {sa:Option Addr} {n cap:Nat} {g:Gl} (hs:Sl H sa n cap (cpc cs)) (hl:cs.length=n) (hn:n≤260) (hb:cs.any YM=false) (hg:vG g=true) (hlo:lo≤H.next) :
  FnM Try.prog lo 44 [.slice sa n cap,.agg (Gl.f g).toArray] H fun v H'=>∃ mb L c f,v=.map (some mb)∧H.next≤mb∧mb < f∧f≤H'.next∧Mqa iv H' mb L c∧Gat lo f g cs H' L c∧Keep H H' []:=by
 refine WZ s Try.func44 B44 N44 Z44 L44 (by simp) ?_
 have hk:=Keep.refl H []
 have fs:=hs.old
 have hgt:=zf hg
 refine Zk<|UJ (v:=.agg (Gl.f g).toArray) rfl ?_
 intro H1 kH1 nH1 c1
 have c1:Cl H1 H.next [iv g.y,iv g.k,iv g.b,iv g.p]:=c1
 have mH1:=kH1.1
 have hk:=hk.trans kH1
 have hs:=kH1.sl0 hs
 refine Zd rfl<|Zh<|Zk<|jZ (enc:=iv) ?_
 intro H2 kH2 nH2 hmq
 have mH2:=kH2.1
 have hk:=hk.trans kH2
 have hs:=kH2.sl0 hs
 have c1:=kH2.cl c1 (by simp)
 refine Zd rfl<|Zh<|Zk<|Zd rfl<|XR (m:=n) rfl<|Zd rfl<|Zh ?_
 refine XL s (fn:=Try.f44) ZiX N44 Zit (fun i:Nat=>[(3,pt H.next),(5,.map (some H1.next)),(9,.slice sa n cap),(10,iv (n:Int)),(11,iv (i:Int))])
  (fun k i H'=>i+k=n∧Keep H H' []∧H2.next≤H'.next∧Sl H' sa n cap (cpc cs)∧Cl H' H.next [iv g.y,iv g.k,iv g.b,iv g.p]∧∃ L c,Mqa iv H' H1.next L c∧Gat lo H2.next g (cs.take i) H' L c) n 0 ⟨by omega,hk,Nat.le_refl _,hs,c1,[],0,hmq,Gat.nil⟩ ⟨rfl,rfl,rfl,rfl,rfl,trivial⟩ ?_
 rintro k i L1 ⟨hik,hk,hnx,hs,cg,L,c,hmq,hG⟩
 have mk:=hk.1;have kacc:=Keep.refl L1 []
 refine Zk<|Vf (a:=(i:Int)) (b:=(n:Int)) rfl rfl<|Zh ?_
 refine And.intro (fun q1=>?_) (fun q1=>?_)
 ·have q1:(i:Int) < (n:Int):=of_decide_eq_true q1
  have hi:i < n:=by omega
  rcases id hs with ⟨_,h0s,_⟩ | ⟨sb,es,rs,_⟩
  ·omega
  have ls:=rs.1
  have lsb2:=fs sb es
  have hcx:=Qz (Za2 (z:=Cp.z) hb (show i < cs.length by omega))
  have hla:=zN (g:=g) (x:=(cs.getD i Cp.z).r) (cs:=cs.take i)
  rw [List.length_take] at hla
  first | refine ZV ?_ | skip
  refine Zk<|Qx (b:=sb) (o:=0) (k:=i) (j:=(i:Int)) (by rw [← es];rfl) rfl rfl hi<|Y1 (b:=sb) (o:=0+i * 3) rfl rs (W9 (by omega))<|qx ?_
  intro H3 kH3 nH3 c3
  have c3:Cl H3 L1.next [iv 0,iv 0,iv 0]:=c3
  have mH3:=kH3.1
  have hk:=hk.trans kH3
  have hs:=kH3.sl0 hs
  have cg:=kH3.cl cg (by simp)
  have kacc:=kacc.trans kH3
  have rs:=kH3.rd rs (by simp)
  refine qU (b:=L1.next) (o:=0) rfl rfl c3 (by omega) rfl rfl (by simp) ?_
  intro H4 kH4 nH4 sH4
  have mH4:=kH4.1
  have hk:=hk.new kH4 (fun b hb=>by simp at hb ⊢;omega)
  have hs:=kH4.sl hs (fun b e=>by have:=fs b e;first | (simp;done) | (simp;omega))
  have cg:=kH4.cl cg (by first | (simp;done) | (simp;omega))
  have kacc:=kacc.new kH4 (fun b hb=>by simp at hb ⊢;omega)
  have rs:=kH4.rd rs (by first | (simp;done) | (simp;omega))
  have c3:Cl H4 L1.next [iv ((cs.getD i Cp.z).r),iv ((cs.getD i Cp.z).y),iv ((cs.getD i Cp.z).a)]:=sH4
  refine Zh<|Zk<|YS (b:=L1.next) (o:=0) rfl<|XQ (b:=L1.next) (o:=1) (v:=iv ((cs.getD i Cp.z).y)) rfl c3.rd rfl<|YS (b:=H.next) (o:=0) rfl<|XQ (b:=H.next) (o:=0) (v:=iv g.y) rfl cg.rd rfl<|YS (b:=H.next) (o:=0) rfl<|XQ (b:=H.next) (o:=1) (v:=iv g.k) rfl cg.rd rfl<|ZgJ (a:=g.y) (b:=g.k) rfl rfl ⟨by omega,by omega⟩<|ZdL (a:=(cs.getD i Cp.z).y) (b:=g.y - g.k) rfl rfl ?_
  intro t2 g2;cases t2
  ·have g2:¬ (((cs.getD i Cp.z).y) ≥ (g.y - g.k)):=of_decide_eq_false g2
   refine Zd rfl<|XU rfl<|XU rfl<|XU rfl<|XU rfl<|XU rfl<|Zo (v:=.bool false) rfl rfl<|Zh<|ZQ ?_
   first | refine ZV ?_ | skip
   show Zm _ _ _ _ _ _ _ _
   refine YY (a:=(i:Int)) (b:=1) rfl rfl ⟨by omega,by omega⟩<|Zd rfl<|Zh ?_
   have hyn:inY g (cs.getD i Cp.z)=false:=by simp only [inY,Bool.and_eq_false_iff,decide_eq_false_iff_not];omega
   exact ⟨k - 1,i+1,by omega,⟨by omega,hk,by omega,hs,cg,L,c,kacc.mqa hmq (by simp),(hG.keep kacc).no (by omega) hyn⟩,rfl,rfl,rfl,rfl,rfl,trivial⟩
  ·have g2:((cs.getD i Cp.z).y) ≥ (g.y - g.k):=of_decide_eq_true g2
   refine Zd rfl ?_
   refine YH rfl (YS (b:=L1.next) (o:=0) rfl ?_)
   refine YH rfl (XQ (b:=L1.next) (o:=1) (v:=iv ((cs.getD i Cp.z).y)) rfl c3.rd rfl ?_)
   refine YH rfl (YS (b:=H.next) (o:=0) rfl ?_)
   refine YH rfl (XQ (b:=H.next) (o:=0) (v:=iv g.y) rfl cg.rd rfl ?_)
   refine YH rfl (Zag (a:=(cs.getD i Cp.z).y) (b:=g.y) rfl rfl ?_)
   intro t3 g3;cases t3
   ·have g3:¬ (((cs.getD i Cp.z).y) < g.y):=of_decide_eq_false g3
    refine Zo (v:=.bool false) rfl rfl<|Zh<|ZQ ?_
    first | refine ZV ?_ | skip
    show Zm _ _ _ _ _ _ _ _
    refine YY (a:=(i:Int)) (b:=1) rfl rfl ⟨by omega,by omega⟩<|Zd rfl<|Zh ?_
    have hyn:inY g (cs.getD i Cp.z)=false:=by simp only [inY,Bool.and_eq_false_iff,decide_eq_false_iff_not];omega
    exact ⟨k - 1,i+1,by omega,⟨by omega,hk,by omega,hs,cg,L,c,kacc.mqa hmq (by simp),(hG.keep kacc).no (by omega) hyn⟩,rfl,rfl,rfl,rfl,rfl,trivial⟩
   ·have g3:((cs.getD i Cp.z).y) < g.y:=of_decide_eq_true g3
    refine Zo (v:=.bool true) rfl rfl<|Zh<|YN ?_
    first | refine jB ?_ | refine Zc5 ?_ | refine Zdm ?_ | (refine YV ?_;refine jB ?_)
    refine Ze rfl<|ZC (b:=L1.next) (o:=0) rfl<|ZD (b:=L1.next) (o:=0) (v:=iv ((cs.getD i Cp.z).r)) rfl c3.rd rfl<|Ze rfl<|ZC (b:=L1.next) (o:=0) rfl<|ZD (b:=L1.next) (o:=0) (v:=iv ((cs.getD i Cp.z).r)) rfl c3.rd rfl ?_
    obtain ⟨wv,ewv⟩:∃ wv,wv=(Yg (cs.getD i Cp.z).r L).getD (.slice none 0 0):=⟨_,rfl⟩
    have hmq1:=kacc.mqa hmq (by simp)
    refine Je (v:=wv) (H':=H4) (k:=.read H1.next) (yd rfl rfl) rfl ((QC yP Zgh Zhk rfl rfl rfl hmq1 false).trans (by rw [ewv];rfl)) (fun q e=>by cases e;exact hmq1.1)<|ZC (b:=L1.next) (o:=0) rfl<|ZD (b:=L1.next) (o:=2) (v:=iv ((cs.getD i Cp.z).a)) rfl c3.rd rfl ?_
    obtain ⟨H5,hH5⟩:∃ H5,H4.new (.cells [iv ((cs.getD i Cp.z).a)] 3 false)=H5:=⟨_,rfl⟩
    refine Je (H':=H5) (k:=.heavy) rfl (by kernel_rfl) ((Xj (v:=iv ((cs.getD i Cp.z).a)) ZeO zo3 rfl rfl rfl (by decide)).trans (by rw [← hH5];rfl)) (fun b e=>by cases e) ?_
    obtain ⟨kH5,nH5,c5⟩:=ZO hH5;clear hH5
    have c5:Cl H5 H4.next [iv ((cs.getD i Cp.z).a)]:=c5
    have mH5:=kH5.1
    have hk:=hk.trans kH5
    have hs:=kH5.sl0 hs
    have cg:=kH5.cl cg (by simp)
    have kacc:=kacc.trans kH5
    have rs:=kH5.rd rs (by simp)
    have c3:=kH5.cl c3 (by simp)
    have hG1:=hG.keep kacc
    have hmq1:=kacc.mqa hmq (by simp)
    have hat:=hG1.at' (cs.getD i Cp.z).r
    rw [← ewv] at hat
    have hat0:∀ b,bkv wv=some b→b < L1.next:=by rw [ewv];exact (hG.at' (cs.getD i Cp.z).r).lt
    obtain ⟨H6,kdH6,eH6,dH6,aH6,kbH6,oth⟩:=JR (P:=Try.prog) (lo:=lo) (k:=(ZN g (cs.getD i Cp.z).r (cs.take i)).length) (t1:=67) ZeO Zfp (c5.sl (Nat.le_refl 1)) rfl (by decide) rfl (by rw [qY,Nat.mul_one]) (by omega) hat (by omega) (by omega)
    have dH6:kdH6=.heavy∨∃ b,kdH6=.store b∧H2.next≤b∧b < L1.next:=dH6.imp id fun ⟨b,x,y,z⟩=>⟨b,x,y,hat0 b z⟩
    refine Je (k:=kdH6) rfl (by cases wv<;>kernel_rfl) (eH6 _ _ _ _ _ _ _ rfl rfl) (Qs (dH6.imp id fun ⟨b,x,y,_⟩=>⟨b,x,y⟩) _) ?_
    have hk:=kbH6.keep hk (by omega)
    have hs:=kbH6.sl hs (fun b e=>by have:=fs b e;omega)
    have cg:=kbH6.cl cg (by omega)
    have mH6:=kbH6.1
    have hmq1:=kbH6.mqa hmq1 (by omega)
    have hyy:inY g (cs.getD i Cp.z)=true:=by simp only [inY,Bool.and_eq_true,decide_eq_true_eq];omega
    have hG1:=hG1.yes (by omega) hyy ewv aH6 oth
    obtain ⟨H7,fH7,kH7,nH7,hmq2⟩:=Zbl (P:=Try.prog) (lo:=lo) (H:=H6) yP Zgh (a:=(cs.getD i Cp.z).r) (v:=.slice (some ⟨H5.next,0,none⟩) ((ZN g (cs.getD i Cp.z).r (cs.take i)).length+1) ((ZN g (cs.getD i Cp.z).r (cs.take i)).length+1)) hmq1 (by omega)
    refine Ze8 (b:=H1.next) (Zgo rfl rfl rfl) rfl (fH7 _ _ _ _ _ _ _ _ rfl rfl rfl) ?_
    have mH7:=kH7.1
    have hk:=hk.new kH7 (fun b hb=>by simp at hb ⊢;omega)
    have hs:=kH7.sl hs (fun b e=>by have:=fs b e;first | (simp;done) | (simp;omega))
    have cg:=kH7.cl cg (by first | (simp;done) | (simp;omega))
    have hG2:=hG1.keepW kH7 (by omega)
    refine ZJ (by rcases dH6 with rfl | ⟨bH6,rfl,hbH6,hvH6⟩<;>repeat' first | exact True.intro | exact (fun h=>h) | refine And.intro ?_ ?_ | (intro h;have h:(_:Nat)=_:=h;omega)) ?_
    show Zm _ _ _ _ _ _ _ _
    refine YY (a:=(i:Int)) (b:=1) rfl rfl ⟨by omega,by omega⟩<|Zd rfl<|Zh ?_
    exact ⟨k - 1,i+1,by omega,⟨by omega,hk,by omega,hs,cg,_,_,hmq2,hG2⟩,rfl,rfl,rfl,rfl,rfl,trivial⟩
 ·have q1:¬ ((i:Int) < (n:Int)):=of_decide_eq_false q1
  first | (refine X2 ?_;show wCM _ _ _ _ _ _ _ _ _) | skip
  refine Zk<|Zd rfl<|Zd rfl<|Zh ?_
  have e:i=n:=by omega
  rw [e,← hl,List.take_length] at hG
  exact And.intro trivial (Exists.intro _ (And.intro rfl ⟨H1.next,L,c,H2.next,rfl,by omega,by omega,by omega,hmq,hG,hk⟩))
end
end
end Go.Ax

/-
 Pool: membersOf: who counts,with the base,by number (26) (written by program).
-/
namespace Go.Ax
open Go Go.RowKit Go.Proofs

noncomputable section
section
variable {P:Program} {kn:Kn} {lo n:Nat}
theorem U1 {rd:Bool} {x y:RC} {S:Rg} {H:Hp} {K:Exit→Rg→Hp→Prop} (h:wCM P kn lo n rd x S H fun e S' H'=>match e with | .normal=>wCM P kn lo n rd y S' H' K | e=>K e S' H'):wCM P kn lo n rd (.seq x y) S H K:=h
theorem zF {rd:Bool} {id:Nat} {b:RC} {S:Rg} {H:Hp} {K:Exit→Rg→Hp→Prop} (h:wCM P kn lo n rd b S H fun e S' H'=>match e with | .exit j=>(bif Nat.beq j id then K .normal S' H' else K (.exit j) S' H') | e=>K e S' H'):wCM P kn lo n rd (.block id b) S H K:=h
theorem K2 {rd:Bool} {c:Code} {S:Rg} {H:Hp} {K:Exit→Rg→Hp→Prop} (h:Yn P lo n rd c S H K):wCM P kn lo n rd (.other c) S H K:=h
theorem Xa {o:RO} {S:Rg} {H:Hp} {K:Rg→Hp→Prop} (h:Zm P kn lo n [o] S H K):Xx P kn lo n S H o K:=h
theorem KD.own {ops:List RO} {V:Nat→Value} {done:Nat→Bool} {S S':Rg} (h:KD ops V done S S') (i:Nat) {d:Nat} {v:Value} (hi:(ops[i]?).map (·.dst)=some (some d)) (hd:done i=true) (hv:V i=v):lk S' d=some v:=by
 cases ho:ops[i]? with
 | none=>rw [ho] at hi;cases hi
 | some o=>rw [ho] at hi;rw [← hv];exact h.1 i o d ho (by simpa using hi) hd
theorem KD.old {ops:List RO} {V:Nat→Value} {done:Nat→Bool} {S S':Rg} (h:KD ops V done S S') {j:Nat} {v:Value} (hv:lk S j=some v) (hj:(ops.all fun o=>!(o.dst == some j))=true):lk S' j=some v:=
 h.2 j v hv fun o ho e=>by have:=List.all_eq_true.1 hj o ho;rw [e] at this;simp at this
end
def mbY (g:Gl) (cs:List Cp) (y:Int × Value × Nat):Mb:=⟨y.1,bs g cs y.1⟩
theorem qF {α:Type}:∀ {L:ML α},(L.map (·.1)).Nodup→∀ p q,p∈L→q∈L→p.1=q.1→p=q
 | a :: l,hn,p,q,hp,hq,e=>by
  simp only [List.map_cons,List.nodup_cons] at hn
  rcases List.mem_cons.1 hp with rfl | hp'<;>rcases List.mem_cons.1 hq with rfl | hq'
  ·rfl
  ·exact absurd (List.mem_map.2 ⟨q,hq',e.symm⟩:p.1∈l.map (·.1)) hn.1
  ·exact absurd (List.mem_map.2 ⟨p,hp',e⟩:q.1∈l.map (·.1)) hn.1
  ·exact qF hn.2 p q hp' hq' e
theorem Gat.app {lo f:Nat} {g:Gl} {cs:List Cp} {H:Hp} {L:ML Int} {c:Nat} (h:Gat lo f g cs H L c) {y z:Int × Value × Nat} (hy:y∈L) (hz:z∈L) (e:y≠z):Ap y.2.1 z.2.1:=
 h.ap y.1 z.1 _ _ (fun q=>e (qF h.wf.keys y z hy hz q)) (Q8 h.wf y hy) (Q8 h.wf z hz)
theorem Gat.ne {lo f:Nat} {g:Gl} {cs:List Cp} {H:Hp} {L:ML Int} {c:Nat} (h:Gat lo f g cs H L c) {y:Int × Value × Nat} (hy:y∈L):ZN g y.1 cs≠[]:=(h.key y.1).1 (UB.2 (List.mem_map.2 ⟨y,hy,rfl⟩))
theorem zM {α β:Type} {f:α→β}:∀ {l:List α},l.Nodup→(∀ a∈l,∀ b∈l,f a=f b→a=b)→(l.map f).Nodup
 | [],_,_=>List.nodup_nil
 | a :: l,h,k=>by
  rw [List.nodup_cons] at h
  rw [List.map_cons,List.nodup_cons]
  refine ⟨fun q=>?_,zM h.2 fun x hx y hy=>k x (List.mem_cons_of_mem _ hx) y (List.mem_cons_of_mem _ hy)⟩
  obtain ⟨b,hb,e⟩:=List.mem_map.1 q
  have:=k a List.mem_cons_self b (List.mem_cons_of_mem _ hb) e.symm
  subst this;exact h.1 hb
theorem Zc6 {lo f:Nat} {g:Gl} {cs:List Cp} {H:Hp} {L:ML Int} {c:Nat} (h:Gat lo f g cs H L c) (hb:cs.any YM=false) {D:ML Int} (hn:D.Nodup) (hD:∀ y,y∈D↔y∈L) {ms:List Mb} (hp:ms.Perm (D.map (mbY g cs))) (hs:ms.Pairwise fun a b=>a.g≤b.g):ms=mbL g cs:=by
 have hg:(ms.map (·.g)).Nodup:=by
  refine (hp.map (·.g)).nodup_iff.2 ?_
  rw [List.map_map]
  exact zM hn fun a ha b hb e=>qF h.wf.keys a b ((hD a).1 ha) ((hD b).1 hb) e
 have hs2:ms.Pairwise fun a b=>a.g < b.g:=by
  have h2:ms.Pairwise fun a b=>a.g≠b.g:=List.pairwise_map.1 hg
  exact (hs.and h2).imp fun q=>by omega
 refine ZeW hs2 UW fun m=>?_
 rw [hp.mem_iff,KM hb,List.mem_map]
 constructor
 ·rintro ⟨y,hy,rfl⟩;exact ⟨h.ne ((hD y).1 hy),rfl⟩
 ·rintro ⟨h1,h2⟩
  obtain ⟨y,hy,e⟩:=List.mem_map.1 (UB.1 ((h.key m.g).2 h1))
  refine ⟨y,(hD y).2 hy,?_⟩
  unfold mbY;rw [e,← h2]
theorem ZiQ:ZS Try.prog 60=some (79,2):=by kernel_rfl
theorem ZjZ:Yt Try.prog 79=some (.agg #[iv 0,iv 0]):=by kernel_rfl
theorem ZkC:Try.prog.underlying 60=some (.slice 79):=by kernel_rfl
theorem ZgG {g:Gl} {cs:List Cp} {x:Int} {k:Nat} (h:(ZN g x cs).length=k):top (min g.b.toNat k) (dsc (ZN g x cs)) / ((min g.b.toNat k:Nat):Int)=bs g cs x:=by
 unfold bs avg
 rw [V7,h]
 congr 1
 unfold top
 congr 1
 rw [List.take_eq_take_iff,V7,h]
 omega
section
variable {kn:Kn} {lo:Nat} {H:Hp}
theorem Zck:∃ H',FnX Try.prog kn lo 47 [.slice none 0 0,.func (.func 48) #[] #[]] H (.tuple #[]) H'∧Keep H H' []:=by
 have key:=Zs (kn:=kn) (lo:=lo) (H:=H) (args:=[.slice none 0 0,.func (.func 48) #[] #[]]) (Q:=fun w H'=>w=.tuple #[]∧Keep H H' []) Try.func47 B47 N47 Z47 L47 (by simp) ?_
 ·obtain ⟨w,H',h,rfl,r⟩:=key;exact ⟨H',h,r⟩
 have hk:=Keep.refl H []
 refine Zc<|Y5 (v:=.func (.func 48) #[] #[]) rfl ?_
 intro H1 kH1 nH1 c1
 have c1:Cl H1 H.next [.func (.func 48) #[] #[]]:=c1
 have mH1:=kH1.1
 have hk:=hk.trans kH1
 refine Zb ?_
 show Zq _ _ _ _ _ _ _ _
 refine Za rfl<|Zg (v:=.func (.func 63) #[] #[pt H.next]) rfl (by kernel_rfl) ?_
 obtain ⟨H2,fH2,kH2⟩:=Zes (kn:=kn) (lo:=lo) (H:=H1) (cv:=.func (.func 63) #[] #[.pointer (some ⟨H.next,0,none⟩)])
 refine Zx (vs:=[.slice none 0 0,.func (.func 63) #[] #[.pointer (some ⟨H.next,0,none⟩)]]) rfl (Zi fH2) ?_
 have mH2:=kH2.1
 have hk:=hk.trans kH2
 have c1:=kH2.cl c1 (by simp)
 refine Zb ?_
 exact And.intro trivial (Exists.intro _ (And.intro rfl ⟨rfl,hk⟩))
theorem Acc.low_b {lo f:Nat} {e:TypeId} {H:Hp} {v:Value} {n:Nat} {cs:List Value} (h:Acc lo f e H v n cs) (b:Nat) (hb:bkv v=some b):f≤b∧b < H.next:=by
 rcases h with ⟨_,_,rfl⟩ | ⟨b2,rfl,_,q,_,hn,_⟩
 ·cases hb
 ·cases hb;exact ⟨q,hn⟩
theorem YZ.ita {f:Nat} {H H1:Hp} {it m c:Nat} {D:ML Int} (k:YZ f H H1) (h:Ita H it m c D) (hb:it < f):Ita H1 it m c D:=⟨Nat.lt_of_lt_of_le h.1 k.le,by rw [k.same it hb];exact h.2⟩
set_option maxRecDepth 100000 in
set_option maxHeartbeats 1000000 in
theorem WX (s:Snd Try.prog kn) {cs:List Cp} {sa:Option Addr} {n cap:Nat} {g:Gl} (hs:Sl H sa n cap (cpc cs)) (hl:cs.length=n) (hn:n≤100) (hb:cs.any YM=false) (hg:vG g=true) (hlo:lo≤H.next) :
  FnM Try.prog lo 26 [.slice sa n cap,.agg (Gl.f g).toArray] H fun v H'=>Keep H H' []∧∃ a cap,v=.slice a (mbL g cs).length cap∧Sl H' a (mbL g cs).length cap (mbc (mbL g cs)):=by
 refine WZ s Try.func26 B26 N26 Z26 L26 (by simp) ?_
 have hk:=Keep.refl H []
 have fs:=hs.old
 have hgt:=zf hg
 refine Zk<|UJ (v:=.agg (Gl.f g).toArray) rfl ?_
 intro H1 kH1 nH1 c1
 have c1:Cl H1 H.next [iv g.y,iv g.k,iv g.b,iv g.p]:=c1
 have mH1:=kH1.1
 have hk:=hk.trans kH1
 have hs:=kH1.sl0 hs
 refine Zd rfl<|Zh<|Zk<|Zd rfl<|Zh<|Zk<|Zd rfl<|Y1 (b:=H.next) (o:=0) rfl c1.rd (show row 4 _ _=some [iv g.y,iv g.k,iv g.b,iv g.p] from rfl)<|YR (t:=.fn (.func 44) #[]) rfl (Ye s.hN (Zcx (H:=H1) s hs hl (by omega) hb hg (by omega))) ?_
 rintro _ H2 ⟨mb,L,c,f,rfl,hmb1,hmb2,hf,hmq,hG,kH2⟩
 have mH2:=kH2.1
 have hk:=hk.trans kH2
 have hs:=kH2.sl0 hs
 have c1:=kH2.cl c1 (by simp)
 have hlt:∀ y∈L,∀ b,bkv y.2.1=some b→b < H2.next:=fun y hy=>(hG.val _ _ (Q8 hG.wf y hy)).lt
 refine ZbC rfl hmq ?_
 intro H3 kH3 nH3 iH3
 have mH3:=kH3.1
 have hk:=hk.trans kH3
 have hs:=kH3.sl0 hs
 have c1:=kH3.cl c1 (by simp)
 have hmq:=kH3.mqa hmq (by simp)
 have hG:=hG.keep kH3
 refine Zh ?_
 obtain ⟨it,eit⟩:∃ it,it=H2.next:=⟨_,rfl⟩
 have hit:=iH3
 rw [← eit] at hit
 have hne:mb≠it:=by omega
 have hoit:H.next≤it:=by omega
 rw [← eit] at hlt
 have hLn:=hG.len
 have hU0:∀ y∈L,y ∉ ([]:ML Int)→Acc lo f 3 H3 y.2.1 (ZN g y.1 cs).length (cI (ZN g y.1 cs)):=fun y hy _=>hG.val _ _ (Q8 hG.wf y hy)
 refine XL s (fn:=Try.f26) Zif N26 ZiB (fun z:ML Int × Value=>[(3,.pointer (some ⟨H.next,0,none⟩)),(5,z.2),(11,.pointer (some ⟨it,0,none⟩))])
  (fun k z H'=>k=L.length - z.1.length∧z.1.Nodup∧(∀ y∈z.1,y∈L)∧Keep H H' []∧H3.next≤H'.next∧Ita H' it mb c z.1∧Mqa iv H' mb L c∧Cl H' H.next [iv g.y,iv g.k,iv g.b,iv g.p]∧(∀ y∈L,y ∉ z.1→Acc lo f 3 H' y.2.1 (ZN g y.1 cs).length (cI (ZN g y.1 cs)))∧Acc lo H3.next 79 H' z.2 z.1.length (mbc (z.1.map (mbY g cs)))) _ ([],.slice none 0 0) ⟨rfl,List.nodup_nil,(fun y h=>by cases h),hk,Nat.le_refl _,hit,hmq,c1,hU0,.inl ⟨rfl,rfl,rfl⟩⟩ ⟨rfl,rfl,by rw [eit];rfl,True.intro⟩ ?_
 rintro k ⟨D,wv⟩ L1 ⟨hkk,hnd,hD,hk,f2,i2,m2,cg,hU,hacc⟩
 simp only [] at hkk hnd hD i2 hU hacc
 refine Zk (ZbZ rfl i2 m2 hG.wf hD yP.fl (by omega) (fun hall=>?_) (fun y hy hny G3 k3 n3 i3=>?_))
 ·refine Zo (v:=.bool false) rfl (by kernel_rfl) (Zh (U1 (Jv (t:=false) rfl (fun h=>by cases h) fun _=>X2 ?_)))
  show wCM _ _ _ _ _ _ _ _ _
  have hDL:∀ y,y∈D↔y∈L:=fun y=>⟨hD y,hall y⟩
  have hDn:=XN hnd hD
  rcases hacc with ⟨hz0,_,rfl⟩ | ⟨bd,rfl,hz0,hbd1,hbd2,hbd3,hbd4⟩
  ·refine Zk<|Zd rfl ?_
   obtain ⟨H4,fH4,kH4⟩:=Zck (kn:=kn) (lo:=lo) (H:=L1)
   refine Z6 s (vs:=[.slice none 0 0,.func (.func 48) #[] #[]]) rfl (Zi fH4) ?_
   have mH4:=kH4.1
   have hk:=hk.trans kH4
   have hD0:D=[]:=List.eq_nil_of_length_eq_zero hz0
   subst hD0
   have hms:=Zc6 hG hb hnd hDL (ms:=[]) (.refl _) List.Pairwise.nil
   refine Zh<|Zk<|Zd rfl<|Zd rfl<|Zh ?_
   exact And.intro trivial (Exists.intro _ (And.intro rfl ⟨hk,none,0,by rw [← hms];rfl,by rw [← hms];exact .inl ⟨.inl rfl,rfl,rfl,rfl⟩⟩))
  ·refine Zk<|Zd rfl ?_
   have hml:(D.map (mbY g cs)).length=D.length:=by rw [List.length_map]
   obtain ⟨σ,H5,fH5,hpr,hso,ktH5,czH5⟩:=Zdp (kn:=kn) (lo:=lo) (H:=L1) (ms:=D.map (mbY g cs)) (bd:=bd) (cap:=D.length) hbd2 (by omega) ⟨hbd3,79,true,hbd4⟩ (by omega)
   rw [hml] at fH5
   refine Z6 s (vs:=[.slice (some ⟨bd,0,none⟩) D.length D.length,.func (.func 48) #[] #[]]) rfl (Zi fH5) ?_
   have hk:=hk.new ktH5.kp (fun b hb=>.inr (by simp at hb;omega))
   have mH5:=ktH5.kp.1
   have hms:=Zc6 hG hb hnd hDL (yM hpr) (Ks (f:=fun m:Mb=>m.g) hso)
   have hdl:D.length=(mbL g cs).length:=by rw [← hms,jl,hml]
   rw [hms] at czH5
   refine Zh<|Zk<|Zd rfl<|Zd rfl<|Zh ?_
   exact And.intro trivial (Exists.intro _ (And.intro rfl ⟨hk,some ⟨bd,0,none⟩,D.length,by rw [← hdl];rfl,.inr ⟨bd,rfl,czH5.rd,by omega⟩⟩))
 ·have hay:=hU y hy hny
  rcases hay with ⟨ha0,_⟩ | ⟨bd,ev,ha0,hf1,hlb,hbn,hgb⟩
  ·exact absurd (List.eq_nil_of_length_eq_zero ha0) (hG.ne hy)
  have hbl:=hlt y hy bd (by rw [ev];rfl)
  obtain ⟨K,eK⟩:∃ K,K=(ZN g y.1 cs).length:=⟨_,rfl⟩
  rw [← eK] at ev ha0
  have m3:Mqa iv G3 mb L c:=k3.mqa m2 (by simpa using hne)
  have hsub:∀ x∈D ++ [y],x∈L:=fun x hx=>by
   rcases List.mem_append.1 hx with h | h
   ·exact hD x h
   ·simp at h;rw [h];exact hy
  have hnd2:(D ++ [y]).Nodup:=List.nodup_append.2 ⟨hnd,by simp,fun a ha b hb e=>hny (by simp at hb;rw [← hb,← e];exact ha)⟩
  have hlen2:(D ++ [y]).length=D.length+1:=by simp
  have hDL:=XN hnd2 hsub
  have hKn:=zN (g:=g) (x:=y.1) (cs:=cs)
  have hain:=Kz (g:=g) (x:=y.1) hb
  have hgb3:G3.t.get bd=some (.cells (cI (ZN g y.1 cs)) 3 true):=by rw [k3.2 bd hbn (by simp;omega)];exact hgb
  have cb3:Cl G3 bd (cI (ZN g y.1 cs)):=⟨by omega,3,true,hgb3⟩
  have cg3:=k3.cl cg (by simp;omega)
  have hk:=hk.new k3 (fun b hb=>.inr (by simp at hb;omega))
  obtain ⟨G4,f4,kt4,c4⟩:=ZeC (kn:=kn) (lo:=lo) (H:=G3) (bd:=bd) (xs:=(ZN g y.1 cs)) (k:=K) hlb eK.symm ha0 (by omega) cb3 hgb3 (by omega) hain (mb:=g.b) (by omega) (by omega)
  have k4:=kt4.kp
  have mH4:=k4.1
  have cg4:=k4.cl cg3 (by simp;omega)
  have hsl4:Sl G4 (some ⟨bd,0,none⟩) (min g.b.toNat K) K (cI (dsc (ZN g y.1 cs))):=.inr ⟨bd,rfl,c4.rd,by omega⟩
  obtain ⟨G5,f5,k5⟩:=ZaH (kn:=kn) (lo:=lo) (H:=G4) hsl4 (by omega) (by rw [V7];omega) (by rw [V7];omega) (by omega) (Zgw hb)
  rw [ZgG eK.symm] at f5
  have mH5:=k5.1
  have k45:Keep G3 G5 [bd]:=k4.trans (k5.mono (by simp))
  have hk:=hk.new k45 (fun b hb=>.inr (by simp at hb;omega))
  have hacc5:Acc lo H3.next 79 G5 wv D.length (mbc (D.map (mbY g cs))):=(hacc.keepW k3 (by omega)).keepW k45 (by omega)
  refine Zo (v:=.bool true) rfl (by kernel_rfl) (Zh (U1 (Jv (t:=true) rfl (fun _=>ZV ?_) fun h=>by cases h)))
  refine zF (Zk (Zbs rfl i3 m3 hG.wf hy yP.fl ?_))
  rw [ev]
  refine Zo (v:=iv y.1) rfl (by kernel_rfl) (Zo (v:=.slice (some ⟨bd,0,none⟩) K K) rfl (by kernel_rfl) (Zd rfl (Zd rfl (Zh ?_))))
  refine ZdN (Zd rfl (Zd rfl (Zd rfl (YS rfl (XQ (v:=iv g.b) rfl cg3.rd rfl ?_)))))
  refine Z6 s (vs:=[.slice (some ⟨bd,0,none⟩) K K,iv g.b]) rfl (Zi f4)<|Z6 s (vs:=[.slice (some ⟨bd,0,none⟩) (min g.b.toNat K) K]) rfl (Zi f5)<|Zo (v:=.agg #[iv y.1,iv (bs g cs y.1)]) rfl (by kernel_rfl) ?_
  have kacc:=Keep.refl G5 []
  obtain ⟨H6,hH6⟩:∃ H6,G5.new (.cells [iv y.1,iv (bs g cs y.1)] 79 false)=H6:=⟨_,rfl⟩
  refine Xm (H':=H6) (k:=.heavy) rfl (by kernel_rfl) ((Xj (v:=.agg #[iv y.1,iv (bs g cs y.1)]) ZiQ ZjZ rfl rfl rfl (by decide)).trans (by rw [← hH6];rfl)) (fun b e=>by cases e) ?_
  obtain ⟨kH6,nH6,c6⟩:=ZO hH6;clear hH6
  have c6:Cl H6 G5.next [iv y.1,iv (bs g cs y.1)]:=c6
  have mH6:=kH6.1
  have hk:=hk.trans kH6
  have kacc:=kacc.trans kH6
  obtain ⟨H7,kdH7,eH7,dH7,aH7,kbH7⟩:=Yu (P:=Try.prog) (lo:=lo) (k:=D.length) (t1:=60) ZiQ ZkC (c6.sl (Nat.le_refl 1)) rfl (by decide) rfl (by rw [Zfb,List.length_map]) (by omega) (hacc5.keep kacc) (by omega) (by omega)
  refine Xm (k:=kdH7) rfl (by cases wv<;>kernel_rfl) (eH7 _ _ _ _ _ _ _ rfl rfl) (Qs dH7 _) ?_
  have hk:=kbH7.keep hk (by omega)
  have mH7:=kbH7.1
  have ka:YZ H3.next G5 H7:=⟨Nat.le_trans kH6.1 kbH7.1,fun b q=>(kbH7.2 b q).trans (kH6.2 b (by omega) (by simp)),fun b cs q1 q2=>(kbH7.3 b cs q1 q2).elim fun x y=>kH6.3 b cs x y⟩
  refine Zd rfl (Zh ?_)
  have hU2:∀ z∈L,z ∉ D ++ [y]→Acc lo f 3 H7 z.2.1 (ZN g z.1 cs).length (cI (ZN g z.1 cs)):=fun z hz hnz=>by
   have hzy:z≠y:=fun e=>hnz (by rw [e];simp)
   have q1:=(hU z hz (fun e=>hnz (by simp [e]))).keepN k3 (fun b q=>by have:=hG.val _ _ (Q8 hG.wf z hz);have:=hlt z hz b q;have:=(hU z hz (fun e=>hnz (by simp [e]))).low_b b q;omega)
   exact (q1.keepN k45 (fun b q=>hG.app hz hy hzy b bd q (by rw [ev];rfl))).keepB ka (fun b q=>by have:=hlt z hz b q;omega)
  have i5:Ita H7 it mb c (D ++ [y]):=ka.ita (k45.ita i3 (by simp;omega)) (by omega)
  have m5:Mqa iv H7 mb L c:=ka.mqa (k45.mqa m3 (by simp;omega)) (by omega)
  have cg5:=ka.cl (k45.cl cg3 (by simp;omega)) (by omega)
  refine ⟨_,(D ++ [y],_),by simp only [hlen2];omega,⟨rfl,hnd2,hsub,hk,by omega,i5,m5,cg5,hU2,?_⟩,rfl,rfl,rfl,True.intro⟩
  simp only []
  rw [hlen2]
  unfold mbc
  rw [List.map_append,List.flatMap_append]
  exact aH7
end
end
end Go.Ax


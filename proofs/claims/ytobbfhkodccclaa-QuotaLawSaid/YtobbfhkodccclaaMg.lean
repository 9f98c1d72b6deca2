import Derived.Test.YtobbfhkodccclaaMf
import Derived.Test.YtobbfhkodccclaaRows
set_option linter.all false
/-
 Pool: sorting: insertion sort,and in part (written by program).
-/
namespace Go.Ax
open Go Go.RowKit Go.Proofs

noncomputable section
structure zy (a i j:Nat) (g:Nat→Int):Prop where
 so:∀ p q,a≤p→p≤q→q≤i→p≠j→q≠j→g p≤g q
 lt:∀ q,j < q→q≤i→g j≤g q
 aj:a≤j
 ji:j≤i
theorem zy.init {a i:Nat} {g:Nat→Int} (h:Sor (fun x:Int=>x) a i g) (ha:a≤i):zy a i i g:=⟨fun p q h1 h2 h3 h4 h5=>h p q h1 h2 (by omega),fun q h1 h2=>by omega,ha,Nat.le_refl _⟩
theorem zy.step {a i j:Nat} {g:Nat→Int} (h:zy a i j g) (hj:a < j) (hl:g j < g (j - 1)):zy a i (j - 1) (swp g j (j - 1)):=by
 have h0:=h.aj
 have h1:=h.ji
 have hlt:=h.lt
 have hso:=h.so
 refine ⟨fun p q a1 a2 a3 a4 a5=>?_,fun q a1 a2=>?_,by omega,by omega⟩
 ·by_cases e1:p=j
  ·subst e1
   rw [V7]
   by_cases e2:q=p
   ·subst e2;rw [V7];exact Int.le_refl _
   ·rw [Wb (by omega) (by omega)];exact hso (p - 1) q (by omega) (by omega) a3 (by omega) (by omega)
  ·by_cases e2:q=j
   ·subst e2
    rw [V7,Wb (by omega) (by omega)];exact hso p (q - 1) a1 (by omega) (by omega) (by omega) (by omega)
   ·rw [Wb (by omega) (by omega),Wb (by omega) (by omega)];exact hso p q a1 a2 a3 e1 e2
 ·rw [qW]
  by_cases e2:q=j
  ·subst e2;rw [V7];omega
  ·rw [Wb (by omega) (by omega)];exact hlt q (by omega) a2
theorem zy.done {a i j:Nat} {g:Nat→Int} (h:zy a i j g) (hd:a < j→¬ g j < g (j - 1)):Sor (fun x:Int=>x) a (i+1) g:=by
 have h0:=h.aj
 have h1:=h.ji
 have hlt:=h.lt
 have hso:=h.so
 intro p q a1 a2 a3
 show g p≤g q
 by_cases e1:p=j
 ·subst e1
  by_cases e2:q=p
  ·subst e2;exact Int.le_refl _
  ·exact hlt q (by omega) (by omega)
 ·by_cases e2:q=j
  ·subst e2
   have c1:=hd (by omega)
   have c2:g p≤g (q - 1):=hso p (q - 1) a1 (by omega) (by omega) e1 (by omega)
   omega
  ·exact hso p q a1 a2 (by omega) e1 e2
theorem Sor.one {a:Nat} {g:Nat→Int}:Sor (fun x:Int=>x) a (a+1) g:=fun p q h1 h2 h3=>by rw [show p=q by omega];exact Int.le_refl _
theorem Sor.next {a i:Nat} {g:Nat→Int} (h:Sor (fun x:Int=>x) a i g) (hi:a < i) (hl:¬ g i < g (i - 1)):Sor (fun x:Int=>x) a (i+1) g:=(zy.init h (by omega)).done fun _=>hl
theorem Sor.swap {a i j k:Nat} {g:Nat→Int} (h:Sor (fun x:Int=>x) a i g) (hj:i≤j) (hk:i≤k):Sor (fun x:Int=>x) a i (swp g j k):=fun p q h1 h2 h3=>by
 show swp g j k p≤swp g j k q
 rw [Wb (by omega) (by omega),Wb (by omega) (by omega)];exact h p q h1 h2 h3
section
variable {kn:Kn} {lo:Nat} {H:Hp}
theorem Zeq (hlo:lo≤H.next) {bd cap n:Nat} {g:Nat→Int} (hlb:lo≤bd) (hn:n≤1000000) (hc:Cl H bd (cF n g)) {a b:Nat} (hab:a≤b) (hb:b≤n):∃ H' g',FnX Try.prog kn lo 85 [.slice (some ⟨bd,0,none⟩) n cap,iv (a:Int),iv (b:Int)] H (.tuple #[]) H'∧PRm a b g g'∧Sor (fun x:Int=>x) a b g'∧Keep H H' [bd]∧Cl H' bd (cF n g'):=by
 have key:=Zr (kn:=kn) (lo:=lo) (H:=H) (args:=[.slice (some ⟨bd,0,none⟩) n cap,iv (a:Int),iv (b:Int)]) (Q:=fun w H'=>w=.tuple #[]∧∃ g':Nat→Int,PRm a b g g'∧Sor (fun x:Int=>x) a b g'∧Keep H H' [bd]∧Cl H' bd (cF n g')) Try.func85 B85 N85 Z85 L85 (by simp) ?_
 ·obtain ⟨w,H',h,rfl,g',r⟩:=key;exact ⟨H',g',h,r⟩
 have hk:=Keep.refl H [bd]
 refine Zc<|Za rfl<|Zy (a:=(a:Int)) (b:=1) rfl rfl ⟨by omega,by omega⟩<|Za rfl<|Zb ?_
 refine Zx (fn:=Try.f85) Zfa N85 Zfw (fun i:Nat=>[(0,.slice (some ⟨bd,0,none⟩) n cap),(1,iv (a:Int)),(2,iv (b:Int)),(6,iv (i:Int))])
  (fun k i H'=>k=b+1 - i∧a+1≤i∧(i≤b∨i=a+1)∧∃ g':Nat→Int,PRm a b g g'∧Sor (fun x:Int=>x) a i g'∧Keep H H' [bd]∧Cl H' bd (cF n g')) _ (a+1) ⟨rfl,Nat.le_refl _,.inr rfl,g,PRm.refl _ _ _,Sor.one,hk,hc⟩ ⟨rfl,rfl,rfl,ivq (by omega),trivial⟩ ?_
 rintro k i L1 ⟨rfl,hi1,hi2,gx1,hp,hs,hk,hc⟩
 refine Zc<|Za rfl<|Za rfl<|ZF (a:=(i:Int)) (b:=(b:Int)) rfl rfl<|Zb ?_
 refine And.intro (fun q1=>?_) (fun q1=>?_)
 ·have q1:(i:Int) < (b:Int):=of_decide_eq_true q1
  first | refine Zl ?_ | skip
  refine Zc<|Za rfl<|Za rfl<|Zb ?_
  have hib:i < b:=by omega
  refine Zx (fn:=Try.f85) Zg2 N85 ZhA (fun j:Nat=>[(0,.slice (some ⟨bd,0,none⟩) n cap),(1,iv (a:Int)),(2,iv (b:Int)),(6,iv (i:Int)),(7,iv (j:Int))])
   (fun k j H'=>k=j+1∧∃ g':Nat→Int,PRm a b g g'∧zy a i j g'∧Keep H H' [bd]∧Cl H' bd (cF n g')) _ i ⟨rfl,gx1,hp,zy.init hs (by omega),hk,hc⟩ ⟨rfl,rfl,rfl,rfl,rfl,trivial⟩ ?_
  rintro k j L2 ⟨rfl,gx2,hp,hin,hk,hc⟩
  have qaj:=hin.aj;have qji:=hin.ji
  refine YV<|Zf rfl<|Zf rfl<|Kq (a:=(j:Int)) (b:=(a:Int)) rfl rfl ?_
  intro t2 g2;cases t2
  ·have g2:¬ ((j:Int) > (a:Int)):=of_decide_eq_false g2
   refine Zf rfl<|Yz rfl<|Yz rfl<|Yz rfl<|Yz rfl<|Yz rfl<|Yz rfl<|Yz rfl<|Yz rfl<|Yz rfl<|Yz rfl<|XF (v:=.bool false) rfl rfl ?_
   refine ZN (by repeat' first | exact True.intro | exact (fun h=>h) | refine And.intro ?_ ?_ | (intro h;have h:(_:Nat)=_:=h;omega)) ?_
   refine ZR ?_
   first | (refine ZC ?_;show wC _ _ _ _ _ _ _ _ _) | skip
   show Zp _ _ _ _ _ _ _ _
   refine Za rfl<|Zy (a:=(i:Int)) (b:=1) rfl rfl ⟨by omega,by omega⟩<|Za rfl<|Zb ?_
   exact ⟨_,i+1,by omega,⟨rfl,by omega,by omega,gx2,hp,hin.done (fun h=>by omega),hk,hc⟩,rfl,rfl,rfl,ivq (by omega),trivial⟩
  ·have g2:(j:Int) > (a:Int):=of_decide_eq_true g2
   refine Zf rfl ?_
   refine Xz rfl (Zf rfl ?_)
   refine Xz rfl (Zf rfl ?_)
   refine Xz rfl (Zz (b:=bd) (o:=0) (k:=j) (j:=(j:Int)) rfl rfl (by omega) (by omega) ?_)
   refine Xz rfl (ZP (b:=bd) (o:=0+j * 1) (v:=iv (gx2 j)) rfl hc.rd (Zbh (by omega)) ?_)
   refine Xz rfl (Zf rfl ?_)
   refine Xz rfl (Zf rfl ?_)
   refine Xz rfl (Xk (a:=(j:Int)) (b:=1) rfl rfl ⟨by omega,by omega⟩ ?_)
   refine Xz rfl (Zz (b:=bd) (o:=0) (k:=j - 1) (j:=(j:Int) - 1) rfl rfl (by omega) (by omega) ?_)
   refine Xz rfl (ZP (b:=bd) (o:=0+(j - 1) * 1) (v:=iv (gx2 (j - 1))) rfl hc.rd (Zbh (by omega)) ?_)
   obtain ⟨H1,fH1,kH1⟩:=Ze1 (kn:=kn) (lo:=lo) (H:=L2) (gx2 j) (gx2 (j - 1))
   refine Xz rfl (Yr (vs:=[iv (gx2 j),iv (gx2 (j - 1))]) rfl (Zh fH1) ?_)
   have mH1:=kH1.1
   have hc:=kH1.cl hc (by simp)
   have hk:=hk.trans (kH1.mono (by simp))
   refine XF (v:=.bool (decide (gx2 j < gx2 (j - 1)))) rfl rfl ?_
   refine ZN (by repeat' first | exact True.intro | exact (fun h=>h) | refine And.intro ?_ ?_ | (intro h;have h:(_:Nat)=_:=h;omega)) ?_
   refine And.intro (fun q3=>?_) (fun q3=>?_)
   ·have q3:gx2 j < gx2 (j - 1):=of_decide_eq_true q3
    first | refine Zl ?_ | skip
    first | refine Z2 ?_ | refine Wm ?_ | refine Vt ?_ | (refine YO ?_;refine Z2 ?_)
    refine Zf rfl<|Zf rfl<|Zf rfl<|Zf rfl<|Xk (a:=(j:Int)) (b:=1) rfl rfl ⟨by omega,by omega⟩<|Zf rfl<|Zf rfl<|Xk (a:=(j:Int)) (b:=1) rfl rfl ⟨by omega,by omega⟩<|Zz (b:=bd) (o:=0) (k:=j - 1) (j:=(j:Int) - 1) rfl rfl (by omega) (by omega)<|ZP (b:=bd) (o:=0+(j - 1) * 1) (v:=iv (gx2 (j - 1))) rfl hc.rd (Zbh (by omega))<|Zf rfl<|Zf rfl<|Zz (b:=bd) (o:=0) (k:=j) (j:=(j:Int)) rfl rfl (by omega) (by omega)<|ZP (b:=bd) (o:=0+j * 1) (v:=iv (gx2 j)) rfl hc.rd (Zbh (by omega))<|Zz (b:=bd) (o:=0) (k:=j) (j:=(j:Int)) rfl rfl (by omega) (by omega)<|Ze6 (b:=bd) (o:=0+j * 1) rfl rfl hc hlb rfl rfl (by rw [Zcw];omega) ?_
    intro H2 kH2 nH2 sH2
    have mH2:=kH2.1
    have hk:=hk.trans kH2
    rw [ZdP (by omega)] at sH2
    have hc:=sH2
    refine Zz (b:=bd) (o:=0) (k:=j - 1) (j:=(j:Int) - 1) rfl rfl (by omega) (by omega)<|Ze6 (b:=bd) (o:=0+(j - 1) * 1) rfl rfl hc hlb rfl rfl (by rw [Zcw];omega) ?_
    intro H3 kH3 nH3 sH3
    have mH3:=kH3.1
    have hk:=hk.trans kH3
    rw [ZdP (by omega)] at sH3
    have hc:=sH3
    have hc:Cl H3 bd (cF n (swp gx2 j (j - 1))):=hc
    refine ZN (by repeat' first | exact True.intro | exact (fun h=>h) | refine And.intro ?_ ?_ | (intro h;have h:(_:Nat)=_:=h;omega)) ?_
    show Zp _ _ _ _ _ _ _ _
    refine Za rfl<|ZZ (a:=(j:Int)) (b:=1) rfl rfl ⟨by omega,by omega⟩<|Za rfl<|Zb ?_
    exact ⟨_,j - 1,by omega,⟨rfl,_,hp.trans (PRm.swap (by omega) (by omega) (by omega) (by omega)),hin.step (by omega) (by omega),hk,hc⟩,rfl,rfl,rfl,rfl,ivq (by omega),trivial⟩
   ·have q3:¬ (gx2 j < gx2 (j - 1)):=of_decide_eq_false q3
    first | (refine ZC ?_;show wC _ _ _ _ _ _ _ _ _) | skip
    show Zp _ _ _ _ _ _ _ _
    refine Za rfl<|Zy (a:=(i:Int)) (b:=1) rfl rfl ⟨by omega,by omega⟩<|Za rfl<|Zb ?_
    exact ⟨_,i+1,by omega,⟨rfl,by omega,by omega,gx2,hp,hin.done (fun h=>by omega),hk,hc⟩,rfl,rfl,rfl,ivq (by omega),trivial⟩
 ·have q1:¬ ((i:Int) < (b:Int)):=of_decide_eq_false q1
  first | (refine ZC ?_;show wC _ _ _ _ _ _ _ _ _) | skip
  exact And.intro trivial (Exists.intro _ (And.intro rfl ⟨rfl,gx1,hp,fun p q h1 h2 h3=>hs p q h1 h2 (by omega),hk,hc⟩))
end
section
variable {kn:Kn} {lo:Nat} {H:Hp}
end
end
end Go.Ax

/-! Sorting: what pdqsort does to at most twelve. -/
namespace Go.Ax
open Go Go.RowKit Go.Proofs
noncomputable section
section
variable {kn:Kn} {lo:Nat} {H:Hp}
set_option maxRecDepth 100000 in
set_option maxHeartbeats 2000000 in
theorem ZgG {bd cap n:Nat} (hlb:lo≤bd) (hn2:n < 13):∀ (M:Nat) (H:Hp) (A B:Nat) (g:Nat→Int) (l:Nat),lo≤H.next→A≤B→B≤n→B - A < M→l≤64→Cl H bd (cF n g)→Low (fun x:Int=>x) A B g→∃ H' g',FnX Try.prog kn lo 80 [.slice (some ⟨bd,0,none⟩) n cap,iv (A:Int),iv (B:Int),iv (l:Int)] H (.tuple #[]) H'∧PRm A B g g'∧Sor (fun x:Int=>x) A B g'∧Keep H H' [bd]∧Cl H' bd (cF n g'):=by
 intro M H A B g l hlo hAB hBn hM hl hc h0
 have key:=Zr (kn:=kn) (lo:=lo) (H:=H) (args:=[.slice (some ⟨bd,0,none⟩) n cap,iv (A:Int),iv (B:Int),iv (l:Int)]) (Q:=fun w H'=>w=.tuple #[]∧∃ g':Nat→Int,PRm A B g g'∧Sor (fun x:Int=>x) A B g'∧Keep H H' [bd]∧Cl H' bd (cF n g')) Try.func80 B80 N80 Z80 L80 (by simp) ?_
 ·obtain ⟨w,H',h,rfl,g',q⟩:=key;exact ⟨H',g',h,q⟩
 obtain ⟨H1,g1,h1,p1,s1,k1,c1⟩:=Zeq (kn:=kn) (lo:=lo) (H:=H) hlo (cap:=cap) hlb (by omega) hc hAB hBn
 refine Zc (Za rfl (Zb (Zc (Za rfl (Zb (WY (Q5 ?_)))))))
 refine Zx Zfk N80 Zfm (fun _:Unit=>[(0,.slice (some ⟨bd,0,none⟩) n cap),(1,iv (A:Int)),(2,iv (B:Int))]) (fun k _ H'=>H'=H) 0 () rfl ⟨rfl,rfl,rfl,True.intro⟩ ?_
 rintro k _ H2 rfl
 refine WY (Zc (Za rfl (Za rfl (ZZ (a:=(B:Int)) (b:=(A:Int)) rfl rfl ⟨by omega,by omega⟩ (Za rfl (Zb ?_))))))
 refine Wq (Zc (Za rfl (W2 (a:=(B:Int) - (A:Int)) (b:=12) rfl rfl (Zb ?_))))
 refine Wo (t:=true) (by show some (Value.bool (decide ((B:Int) - (A:Int)≤12)))=_;rw [decide_eq_true (by omega)]) (fun _=>?_) (fun h=>by cases h)
 refine Zc (Za rfl (Za rfl (Za rfl (Zs (vs:=[.slice (some ⟨bd,0,none⟩) n cap,iv (A:Int),iv (B:Int)]) rfl (Zh h1) (Zb ?_)))))
 exact ⟨True.intro,[],rfl,rfl,g1,p1,s1,k1,c1⟩
end
end
end Go.Ax

/-
 Pool: the keys of a map,sorted (72,79,70,71,56,57) (written by program).
-/
namespace Go.Ax
open Go Go.RowKit Go.Proofs

noncomputable section
theorem _root_.Go.Ax.Keep.mqa0 {α:Type} [DecidableEq α] {enc:α→Value} {H H1:Hp} (k:Keep H H1 []) {b:Nat} {L:ML α} {c:Nat} (h:Mqa enc H b L c):Mqa enc H1 b L c:=k.mqa h (by simp)
structure Y1 (f:Nat) (W:List Nat) (H H':Hp):Prop where
 le:H.next≤H'.next
 same:∀ b,b < f→b ∉ W→H'.t.get b=H.t.get b
 rox:∀ b cs,b < H'.next→H'.t.get b=some (.ro cs)→b < H.next∧H.t.get b=some (.ro cs)
theorem Y1.trans {f:Nat} {W:List Nat} {H H1 H2:Hp} (h:Y1 f W H H1) (k:Y1 f W H1 H2):Y1 f W H H2:=
 ⟨Nat.le_trans h.1 k.1,fun b hb hw=>(k.2 b hb hw).trans (h.2 b hb hw),fun b cs hb hg=>(k.3 b cs hb hg).elim fun x y=>h.3 b cs x y⟩
theorem Y1.low {f f':Nat} {W:List Nat} {H H1:Hp} (h:Y1 f W H H1) (hf:f'≤f):Y1 f' W H H1:=⟨h.1,fun b hb hw=>h.2 b (Nat.lt_of_lt_of_le hb hf) hw,h.3⟩
theorem Y1.of {f:Nat} {W l:List Nat} {H H1:Hp} (h:Keep H H1 l) (hf:f≤H.next) (hl:∀ b∈l,b∈W∨f≤b):Y1 f W H H1:=
 ⟨h.1,fun b hb hw=>h.2 b (Nat.lt_of_lt_of_le hb hf) fun q=>(hl b q).elim (fun x=>hw x) (fun x=>by omega),h.3⟩
theorem Y1.mqa {α:Type} [DecidableEq α] {enc:α→Value} {f:Nat} {W:List Nat} {H H1:Hp} (k:Y1 f W H H1) {b:Nat} {L:ML α} {c:Nat} (h:Mqa enc H b L c) (hb:b < f) (hw:b ∉ W):Mqa enc H1 b L c:=⟨Nat.lt_of_lt_of_le h.1 k.le,by rw [k.same b hb hw];exact h.2⟩
theorem Y1.ita {α:Type} {f:Nat} {W:List Nat} {H H1:Hp} (k:Y1 f W H H1) {r m c:Nat} {D:ML α} (h:Ita H r m c D) (hb:r < f) (hw:r ∉ W):Ita H1 r m c D:=⟨Nat.lt_of_lt_of_le h.1 k.le,by rw [k.same r hb hw];exact h.2⟩
section
variable {kn:Kn} {lo:Nat} {H:Hp}
set_option maxRecDepth 100000 in
theorem ZeS (s:Snd Try.prog kn) {W:List Nat} {Y:Nat→ML Int→Hp→Prop} (hlo:lo≤H.next) {bm m c l:Nat} {L:ML Int} (hbm:Rd H bm [.map (some m)]) (hm:Mqa iv H m L c) (hw:WfA L c) (hW:∀ b∈W,b < H.next∧b≠m)
  (h0:∀ H1,Keep H H1 []→H1.next=H.next+1→Y (H.next+1) [] H1)
  (hy:∀ D x H1,H.next+1≤H1.next→D.length < L.length→x∈L→Y (H.next+1) D H1→XY Try.prog lo (.fn (.yield l) #[]) [iv x.1] H1 fun v H2=>v=.bool true∧Y1 (H.next+1) W H1 H2∧Y (H.next+1) (D ++ [x]) H2)
  (hyk:∀ D H1 H2,Y (H.next+1) D H1→Keep H1 H2 [H.next]→H2.next=H1.next→Y (H.next+1) D H2) :
  FnM Try.prog lo 72 [.func (.yield l) #[] #[],.pointer (some ⟨bm,0,none⟩)] H fun v H'=>v=.tuple #[]∧Y1 H.next W H H'∧∃ D:ML Int,D.Perm L∧Y (H.next+1) D H':=by
 have hnW:H.next ∉ W:=fun q=>by have:=(hW _ q).1;omega
 have hmW:m ∉ W:=fun q=>(hW _ q).2 rfl
 refine WP s Try.func72 B72 N72 Z72 L72 (by simp) ?_
 refine Zm (WB rfl hbm rfl (Za7 rfl hm fun H1 k1 n1 i1=>Zi (zr (K6 ?_))))
 refine Wl s Zhf N72 ZgK (fun _:ML Int=>[(0,.func (.yield l) #[] #[]),(5,.pointer (some ⟨H.next,0,none⟩))])
  (fun k D H'=>k=L.length - D.length∧D.Nodup∧(∀ y∈D,y∈L)∧Y1 H.next W H H'∧Ita H' H.next m c D∧Mqa iv H' m L c∧Y (H.next+1) D H'∧H.next+1≤H'.next) _ [] ⟨rfl,List.nodup_nil,(fun y h=>by cases h),Y1.of k1 (Nat.le_refl _) (by simp),i1,k1.mqa0 hm,h0 H1 k1 n1,by omega⟩ ⟨rfl,rfl,True.intro⟩ ?_
 rintro k D H2 ⟨rfl,hn,hD,k2,i2,m2,y2,l2⟩
 have hne:m≠H.next:=Nat.ne_of_lt hm.1
 refine Zm (ZaS rfl i2 m2 hw hD ym.fl hlo (fun hall=>?_) (fun y hyL hny H3 k3 n3 i3=>?_))
 ·refine Zk (v:=.bool false) rfl (by kernel_rfl) (Zi (UM (Q2 (t:=false) rfl (fun h=>by cases h) fun _=>Vd ?_)))
  exact ⟨True.intro,[],rfl,rfl,k2,D,VL hn hw.nodup fun x=>⟨hD x,hall x⟩,y2⟩
 ·have hsub:∀ x∈D ++ [y],x∈L:=fun x hx=>by
   rcases List.mem_append.1 hx with h | h
   ·exact hD x h
   ·simp at h;rw [h];exact hyL
  have hnd:(D ++ [y]).Nodup:=List.nodup_append.2 ⟨hn,by simp,fun a ha b hb e=>hny (by simp at hb;rw [← hb,← e];exact ha)⟩
  have hlen:(D ++ [y]).length=D.length+1:=by simp
  have hDL:D.length < L.length:=by have:=Xy hnd hsub;omega
  have m3:Mqa iv H3 m L c:=k3.mqa m2 (by simpa using hne)
  refine Zk (v:=.bool true) rfl (by kernel_rfl) (Zi (UM (Q2 (t:=true) rfl (fun _=>Z8 ?_) fun h=>by cases h)))
  refine zr (Zm (Za3 rfl i3 m3 hw hyL ym.fl (Zk (v:=iv y.1) rfl (by kernel_rfl) (Zd rfl (Zi ?_)))))
  refine Zm (Zd rfl (Zd rfl (YA rfl (hy D y H3 (by omega) hDL hyL (hyk D H2 H3 y2 k3 n3)) ?_)))
  rintro v H4 ⟨rfl,k4,y4⟩
  refine Zk (v:=.bool false) rfl (by kernel_rfl) (Zi (Q2 (t:=false) rfl (fun h=>by cases h) fun _=>Z8 ?_))
  have k24:Y1 H.next W H H4:=k2.trans ((Y1.of k3 (by omega) (by simp)).trans (k4.low (by omega)))
  exact ⟨_,D ++ [y],by rw [hlen];omega,⟨rfl,hnd,hsub,k24,k4.ita i3 (by omega) hnW,k4.mqa m3 (by have:=hm.1;omega) hmW,y4,by have:=k4.le;omega⟩,rfl,rfl,True.intro⟩
theorem ZhH:ZT Try.prog 67=some (3,1):=by kernel_rfl
theorem ZhS:Try.prog.underlying 67=some (.slice 3):=by kernel_rfl
def ApY (lo b2 l rr:Nat) (asg body:Code) (S0:Rg) (f:Nat) (D:ML Int) (H:Hp):Prop:=
 Lp Try.prog H l .ready none 13 S0 [7] asg body rr∧l < f∧b2 < l∧f≤H.next∧H.t.get rr=some (.dfr (some []))∧rr < l∧b2≠rr∧∃ v,Cl H b2 [v]∧one v=true∧v.cells.toList=[v]∧Acc lo f 3 H v D.length (D.map fun x=>iv x.1)
theorem YR.lp {P:Program} {f:Nat} {H H1:Hp} {l:Nat} {st:LoopState} {pe:Option Code} {n:Nat} {S:Rg} {ps:List Tmp} {asg body:Code} {r:Nat} (k:YR f H H1) (h:Lp P H l st pe n S ps asg body r) (hl:l < f):Lp P H1 l st pe n S ps asg body r:=by
 obtain ⟨fn,T,g,q⟩:=h
 exact ⟨fn,T,by rw [k.same _ hl];exact g,q⟩
set_option maxRecDepth 100000 in
set_option maxHeartbeats 1000000 in
theorem yD (s:Snd Try.prog kn) (hlo:lo≤H.next) {bm m c:Nat} {L:ML Int} (hbm:Rd H bm [.map (some m)]) (hm:Mqa iv H m L c) (hw:WfA L c) (hL:L.length≤12) :
  FnM Try.prog lo 79 [.slice none 0 0,.func (.func 72) #[] #[.pointer (some ⟨bm,0,none⟩)]] H fun v H'=>Keep H H' []∧∃ D:ML Int,D.Perm L∧Acc lo H.next 3 H' v D.length (D.map fun x=>iv x.1):=by
 refine Zdr s Try.func79 B79 N79 Z79 L79 (by simp) ?_
 refine Ke (qm (Uz rfl fun H1 k1 n1 c1=>Zd rfl (Zi ?_)))
 refine Ke (Ke (qm (Zd rfl (Zi (ZbJ (ZbW ?_))))))
 rw [ZhU]
 refine YM.range rfl fun H2 k2 n2 g2 l2=>?_
 have hb2:H.next < H1.next:=by omega
 have c2:Cl H2 H.next [.slice none 0 0]:=k2.cl c1 (by simp)
 have hbm2:Rd H2 bm [.map (some m)]:=k2.rd (k1.rd hbm (by simp)) (by simp)
 have hm2:Mqa iv H2 m L c:=k2.mqa0 (k1.mqa0 hm)
 have k12:Keep H H2 []:=k1.new k2 (by simp)
 generalize hasg:at_ Try.f79 [1,0,1,0,0]=asg at l2
 generalize hbody:at_ Try.f79 [1,0,1,0,1]=body at l2
 generalize hS0:(Zt (Zt (Zt (VB [Value.slice none 0 0,Value.func (Fn.func 72) #[] #[Value.pointer (some { block:=bm,off:=0 })]] 0) (some 2) (Value.pointer (some { block:=H.next,off:=0 }))) (some 4) (Value.slice none 0 0)) (some 6) (Value.func (Fn.func 72) #[] #[Value.pointer (some { block:=bm,off:=0 })]))=S0 at l2
 have hf:=ZeS (kn:=kn) (lo:=lo) s (H:=H2) (W:=[H.next,H1.next+1]) (Y:=ApY lo H.next (H1.next+1) H1.next asg body S0) (l:=H1.next+1) (by omega) hbm2 hm2 hw (by
   intro b hb
   have:=hm.1
   simp at hb
   rcases hb with rfl | rfl<;>omega) (fun H3 k3 n3=>?_) (fun D x H3 hn hD hx hY=>?_) (fun D H3 H4 hY k4 n4=>?_)
 ·refine ⟨_,zk s.hN (by simpa using hf),fun v H3 hQ=>?_⟩
  obtain ⟨_,k3,D,hD,l3,hlf,hbl,hfn,hdf,hrl,hbr,v3,c3,h1,h2,a3⟩:=hQ
  refine ⟨.ready,none,S0,l3,by simp,fun H4 hset=>?_⟩
  have k4:=hset.keep
  have c4:Cl H4 H.next [v3]:=k4.cl c3 (by simp;omega)
  subst hS0
  refine Ke (qm (WB rfl c4.rd rfl (Zd rfl (Zi (ZeW ⟨True.intro,.inr ⟨H1.next,rfl,by omega,?_,fun H5 n5 k5=>⟨[v3],rfl,?_,D,hD,?_⟩⟩⟩)))))
  ·rw [k4.same H1.next (by omega) (by simp)];exact hdf
  ·refine ⟨by have:=k12.le;have:=k3.le;have:=k4.le;have:=k5.le;omega,fun b hb _=>?_,fun b cs hb hg=>?_⟩
   ·rw [k5.same b (by have:=k12.le;have:=k3.le;have:=k4.le;omega) (by simp;omega),k4.same b (by have:=k12.le;have:=k3.le;omega) (by simp;omega),k3.same b (by have:=k12.le;omega) (by simp;omega),k12.same b hb (by simp)]
   ·obtain ⟨q1,g1⟩:=k5.rox b cs hb hg
    obtain ⟨q2,g2⟩:=k4.rox b cs q1 g1
    obtain ⟨q3,g3⟩:=k3.rox b cs q2 g2
    exact k12.rox b cs q3 g3
  ·have a4:=a3.keepW k4 (by omega)
   have a5:=a4.keepW k5 (by omega)
   exact a5.imp id fun ⟨b,e1,e2,e3,e4⟩=>⟨b,e1,e2,by have:=k12.le;omega,e4⟩
 ·exact ⟨l2.keep k3 (by omega) (by simp),by omega,by omega,by omega,by rw [k3.same H1.next (by omega) (by simp)];exact g2,by omega,by omega,_,k3.cl c2 (by simp),rfl,rfl,.inl ⟨rfl,rfl,rfl⟩⟩
 ·obtain ⟨l3,hlf,hbl,hfn,hdf,hrl,hbr,v3,c3,h1,h2',a3⟩:=hY
  have hmono:=k12.le
  subst hasg hbody
  have hb:J3 [7] [iv x.1] S0=some ((7,iv x.1) :: S0):=rfl
  refine (Zgj s.hm l3 (by omega) (by decide) hb (Q:=fun b H'=>b=true∧Y1 (H2.next+1) [H.next,H1.next+1] H3 H'∧ApY lo H.next (H1.next+1) H1.next (at_ Try.f79 [1,0,1,0,0]) (at_ Try.f79 [1,0,1,0,1]) S0 (H2.next+1) (D ++ [x]) H') ?_).mono fun v H' ⟨b,e,q1,q2,q3⟩=>⟨by rw [e,q1],q2,q3⟩
  have hN:Try.f79.ntmps=13:=N79
  refine Ya (kn:=kn) s _ (by rw [← hN];exact Zhm) (Zce (Zd rfl (Zi ⟨True.intro,l3,fun H4 hset=>?_⟩)))
  have k4:=hset.keep
  have n4:H4.next=H3.next:=hset.1
  have l4:=hset.lp l3
  have c4:Cl H4 H.next [v3]:=k4.cl c3 (by simp;omega)
  have a4:=a3.keepW k4 hlf
  subst hS0
  refine Ya (kn:=kn) s _ (by rw [← hN];exact Ziq) (ZfM (WB rfl c4.rd rfl (Zd rfl ?_)))
  refine Wf rfl rfl (Xu (v:=iv x.1) ZhH zo3 rfl rfl rfl (by decide)) (fun q e=>by cases e) ?_
  obtain ⟨k5,n5,c5⟩:=ZL (H:=H4) (cs:=[iv x.1]) (e:=3) (l:=false) rfl
  have hlen:(D.map fun x=>iv x.1).length=D.length * 1:=by simp
  obtain ⟨H6,kd,e6,d6,a6,kb6⟩:=YB (P:=Try.prog) (lo:=lo) (k:=D.length) (t1:=67) (f:=H2.next+1) ZhH ZhS (c5.sl (Nat.le_refl 1)) rfl (by decide) rfl hlen (by omega) (a4.keep k5) (by omega) (by omega)
  refine Wf (k:=kd) rfl (by kernel_rfl) (e6 _ _ _ _ _ _ _ rfl rfl) (fun q e=>by rcases d6 with rfl | ⟨b6,rfl,hb6⟩<;>cases e) ?_
  have c6:Cl H6 H.next [v3]:=kb6.cl (k5.cl c4 (by simp)) (by omega)
  have l6:=kb6.lp (l4.keep k5 (by omega) (by simp)) (by omega)
  have m6:=kb6.le
  have kf6:Y1 (H2.next+1) [H.next,H1.next+1] H3 H6:=((Y1.of k4 (by omega) (by simp)).trans (Y1.of k5 (by omega) (by simp))).trans ⟨kb6.le,fun b hb _=>kb6.same b hb,kb6.rox⟩
  refine ZfF rfl rfl c6 hlo rfl rfl (by simp) fun H7 k7 n7 c7=>Zi ⟨l6.keep k7 (by omega) (by simp;omega),fun H8 hset8=>⟨rfl,?_,?_⟩⟩
  ·exact (kf6.trans (Y1.of k7 (by omega) (by simp))).trans (Y1.of hset8.keep (by omega) (by simp))
  ·have k8:=hset8.keep
   have n8:H8.next=H7.next:=hset8.1
   have kf8:=(kf6.trans (Y1.of k7 (by omega) (by simp))).trans (Y1.of (f:=H2.next+1) (W:=[H.next,H1.next+1]) k8 (by omega) (by simp))
   have a8:=(a6.keepW k7 (by omega)).keepW k8 (by omega)
   refine ⟨hset8.lp (l6.keep k7 (by omega) (by simp;omega)),hlf,hbl,by omega,by rw [kf8.same H1.next (by omega) (by simp;omega)];exact hdf,hrl,hbr,_,k8.cl c7 (by simp;omega),rfl,rfl,?_⟩
   simpa using a8
 ·obtain ⟨l3,hlf,hbl,hfn,hdf,hrl,hbr,v3,c3,h1,h2',a3⟩:=hY
  exact ⟨l3.keep k4 (by omega) (by simp;omega),hlf,hbl,by omega,by rw [k4.same H1.next (by omega) (by simp;omega)];exact hdf,hrl,hbr,v3,k4.cl c3 (by simp;omega),h1,h2',a3.keepW k4 (by omega)⟩
theorem ZaB (s:Snd Try.prog kn) (hlo:lo≤H.next) {bm m c:Nat} {L:ML Int} (hbm:Rd H bm [.map (some m)]) (hm:Mqa iv H m L c) (hw:WfA L c) (hL:L.length≤12) :
  FnM Try.prog lo 70 [.func (.func 72) #[] #[.pointer (some ⟨bm,0,none⟩)]] H fun v H'=>Keep H H' []∧∃ D:ML Int,D.Perm L∧Acc lo H.next 3 H' v D.length (D.map fun x=>iv x.1):=by
 refine WP s Try.func70 B70 N70 Z70 L70 (by simp) ?_
 refine Zm (Zd rfl (Zi (Zm (Zd rfl (YA (t:=.fn (.func 79) #[]) rfl (ZV s.hN (yD s hlo hbm hm hw hL)) fun v H1 hq=>Zd rfl (Zi (yE ⟨True.intro,[v],rfl,hq⟩)))))))
theorem Zcp (m:Nat):∃ H',FnX Try.prog kn lo 57 [.map (some m)] H (.func (.func 72) #[] #[.pointer (some ⟨H.next,0,none⟩)]) H'∧Keep H H' []∧Rd H' H.next [.map (some m)]:=by
 have key:=Zr (kn:=kn) (lo:=lo) (H:=H) (args:=[.map (some m)]) (Q:=fun w H'=>w=.func (.func 72) #[] #[.pointer (some ⟨H.next,0,none⟩)]∧Keep H H' []∧Rd H' H.next [.map (some m)]) Try.func57 B57 N57 Z57 L57 (by simp) ?_
 ·obtain ⟨w,H',h,rfl,q⟩:=key;exact ⟨H',h,q⟩
 refine Zc (Y7 rfl fun H1 k1 n1 c1=>Za rfl (Zb ?_))
 refine Zc (Zg (v:=.func (.func 72) #[] #[.pointer (some ⟨H.next,0,none⟩)]) rfl (by kernel_rfl) (Za rfl (Zb ?_)))
 exact ⟨True.intro,[.func (.func 72) #[] #[.pointer (some ⟨H.next,0,none⟩)]],rfl,rfl,k1,c1.rd⟩
theorem Zey:∃ H',FnX Try.prog kn lo 85 [.slice none 0 0,iv 0,iv 0] H (.tuple #[]) H'∧Keep H H' []:=by
 have key:=Zr (kn:=kn) (lo:=lo) (H:=H) (args:=[.slice none 0 0,iv 0,iv 0]) (Q:=fun w H'=>w=.tuple #[]∧Keep H H' []) Try.func85 B85 N85 Z85 L85 (by simp) ?_
 ·obtain ⟨w,H',h,rfl,q⟩:=key;exact ⟨H',h,q⟩
 refine Zc (Za rfl (Zy (a:=0) (b:=1) rfl rfl ⟨by omega,by omega⟩ (Za rfl (Zb (WY (Q5 ?_))))))
 refine Zx Zfa N85 Zfw (fun _:Unit=>[(2,iv 0),(6,iv 1)]) (fun k _ H'=>H'=H) 0 () rfl ⟨rfl,rfl,True.intro⟩ ?_
 rintro k _ H1 rfl
 refine Wq (Zc (Za rfl (Za rfl (ZF (a:=1) (b:=0) rfl rfl (Zb (Wo (t:=false) rfl (fun h=>by cases h) fun _=>ZC ?_))))))
 exact ⟨True.intro,[],rfl,rfl,Keep.refl _ _⟩
theorem ZeB {lim:Int}:∃ H',FnX Try.prog kn lo 80 [.slice none 0 0,iv 0,iv 0,iv lim] H (.tuple #[]) H'∧Keep H H' []:=by
 have key:=Zr (kn:=kn) (lo:=lo) (H:=H) (args:=[.slice none 0 0,iv 0,iv 0,iv lim]) (Q:=fun w H'=>w=.tuple #[]∧Keep H H' []) Try.func80 B80 N80 Z80 L80 (by simp) ?_
 ·obtain ⟨w,H',h,rfl,q⟩:=key;exact ⟨H',h,q⟩
 obtain ⟨H1,h1,k1⟩:=Zey (kn:=kn) (lo:=lo) (H:=H)
 refine Zc (Za rfl (Zb (Zc (Za rfl (Zb (WY (Q5 ?_)))))))
 refine Zx Zfk N80 Zfm (fun _:Unit=>[(0,.slice none 0 0),(1,iv 0),(2,iv 0)]) (fun k _ H'=>H'=H) 0 () rfl ⟨rfl,rfl,rfl,True.intro⟩ ?_
 rintro k _ H2 rfl
 refine WY (Zc (Za rfl (Za rfl (ZZ (a:=0) (b:=0) rfl rfl ⟨by omega,by omega⟩ (Za rfl (Zb ?_))))))
 refine Wq (Zc (Za rfl (W2 (a:=0 - 0) (b:=12) rfl rfl (Zb ?_))))
 refine Wo (t:=true) rfl (fun _=>?_) (fun h=>by cases h)
 refine Zc (Za rfl (Za rfl (Za rfl (Zs rfl (Zh h1) (Zb ?_)))))
 exact ⟨True.intro,[],rfl,rfl,k1⟩
theorem Zfb (xs:List Int):cF xs.length (fun i=>xs.getD i 0)=xs.map iv:=Zh0

theorem ZeX (hlo:lo≤H.next) {bd cap:Nat} {xs:List Int} (hlb:lo≤bd) (hn:xs.length < 13) (hc:Cl H bd (cI xs)) :
  ∃ H',FnX Try.prog kn lo 71 [.slice (some ⟨bd,0,none⟩) xs.length cap] H (.tuple #[]) H'∧Keep H H' [bd]∧∃ ys,ys.Perm xs∧ys.Pairwise (·≤·)∧Cl H' bd (cI ys):=by
 have key:=Zr (kn:=kn) (lo:=lo) (H:=H) (args:=[.slice (some ⟨bd,0,none⟩) xs.length cap]) (Q:=fun w H'=>w=.tuple #[]∧Keep H H' [bd]∧∃ ys,ys.Perm xs∧ys.Pairwise (·≤·)∧Cl H' bd (cI ys)) Try.func71 B71 N71 Z71 L71 (by simp) ?_
 ·obtain ⟨w,H',h,rfl,q⟩:=key;exact ⟨H',h,q⟩
 obtain ⟨H1,h1,k1⟩:=Zck (kn:=kn) (lo:=lo) (H:=H) (n:=xs.length) (by omega)
 have hbl:=ZeQ (n:=xs.length) (by omega)
 have hc1:Cl H1 bd (cF xs.length (fun i=>xs.getD i 0)):=by rw [Zfb];exact k1.cl hc (by simp)
 obtain ⟨H2,g2,h2,p2,s2,k2,c2⟩:=ZgG (kn:=kn) (lo:=lo) (bd:=bd) (cap:=cap) (n:=xs.length) hlb hn (xs.length+1) H1 0 xs.length (fun i=>xs.getD i 0) (Qp xs.length) (by have:=k1.le;omega) (Nat.zero_le _) (Nat.le_refl _) (by omega) (by omega) hc1 (fun i h0=>by omega)
 refine Zc (Za rfl (YG rfl (Za rfl (Zb ?_))))
 refine KQ (Za rfl (Za rfl (Za rfl (Zg (v:=.int .u64 xs.length) rfl (K5 (n:=xs.length) (j:=(xs.length:Int)) (by omega) rfl rfl) (Zs rfl (Zh h1) (Zs (vs:=[.slice (some ⟨bd,0,none⟩) xs.length cap,iv 0,iv (xs.length:Int),iv (Qp xs.length:Int)]) rfl (Zh h2) (Zb ?_)))))))
 refine ⟨True.intro,[],rfl,rfl,(k1.mono (by simp)).trans k2,rg g2 0 xs.length,?_,?_,?_⟩
 ·refine p2.perm.trans ?_
  have:(rg (fun i=>xs.getD i 0) 0 xs.length)=xs:=by
   have e:=ZfD (n:=xs.length) (g:=fun i=>xs.getD i 0)
   rw [Zfb] at e
   exact (List.map_inj_right (f:=iv) (fun a b h=>by cases h;rfl)).1 e.symm
  rw [this]
 ·rw [List.pairwise_iff_getElem]
  intro i j hi hj hij
  simp only [Zat] at hi hj
  have q:=s2 i j (by omega) (by omega) (by omega)
  simpa [rg] using q
 ·show Cl H2 bd ((rg g2 0 xs.length).map iv)
  rw [← ZfD];exact c2
theorem Zdy:∃ H',FnX Try.prog kn lo 71 [.slice none 0 0] H (.tuple #[]) H'∧Keep H H' []:=by
 have key:=Zr (kn:=kn) (lo:=lo) (H:=H) (args:=[.slice none 0 0]) (Q:=fun w H'=>w=.tuple #[]∧Keep H H' []) Try.func71 B71 N71 Z71 L71 (by simp) ?_
 ·obtain ⟨w,H',h,rfl,q⟩:=key;exact ⟨H',h,q⟩
 obtain ⟨H1,h1,k1⟩:=Zck (kn:=kn) (lo:=lo) (H:=H) (n:=0) (by omega)
 obtain ⟨H2,h2,k2⟩:=ZeB (kn:=kn) (lo:=lo) (H:=H1) (lim:=(Qp 0:Int))
 refine Zc (Za rfl (YG (m:=0) rfl (Za rfl (Zb ?_))))
 refine KQ (Za rfl (Za rfl (Za rfl (Zg (v:=.int .u64 ((0:Nat):Int)) rfl (K5 (n:=0) (j:=((0:Nat):Int)) (by omega) rfl rfl) (Zs rfl (Zh h1) (Zs (vs:=[.slice none 0 0,iv 0,iv 0,iv (Qp 0:Int)]) rfl (Zh h2) (Zb ?_)))))))
 exact ⟨True.intro,[],rfl,rfl,k1.trans k2⟩
theorem ZbS (s:Snd Try.prog kn) (hlo:lo≤H.next) {bm m c:Nat} {L:ML Int} (hbm:Rd H bm [.map (some m)]) (hm:Mqa iv H m L c) (hw:WfA L c) (hL:L.length≤12) :
  FnM Try.prog lo 56 [.func (.func 72) #[] #[.pointer (some ⟨bm,0,none⟩)]] H fun v H'=>Keep H H' []∧∃ a ys cap,v=.slice a ys.length cap∧Sl H' a ys.length cap (cI ys)∧ys.Pairwise (·≤·)∧ys.Perm (L.map (·.1)):=by
 refine WP s Try.func56 B56 N56 Z56 L56 (by simp) ?_
 refine Zm (Zd rfl (Zi (Zm (Zd rfl (YA (t:=.fn (.func 70) #[]) rfl (ZV s.hN (ZaB s hlo hbm hm hw hL)) ?_)))))
 rintro v H1 ⟨k1,D,hD,ha⟩
 have hDl:=hD.length_eq
 rcases ha with ⟨h0,h01,rfl⟩ | ⟨b,rfl,_,hb,hlb,hbn,hg⟩
 ·obtain ⟨H2,h2,k2⟩:=Zdy (kn:=kn) (lo:=lo) (H:=H1)
  have hL0:L=[]:=List.eq_nil_of_length_eq_zero (by omega)
  subst hL0
  refine Zd rfl (Zi (Zm (Zd rfl (Z3 s rfl (Zh h2) (Zi ?_)))))
  refine Zm (Zd rfl (Zd rfl (Zi (yE ⟨True.intro,[.slice none 0 0],rfl,k1.trans k2,none,[],0,rfl,.inl ⟨.inl rfl,rfl,rfl,rfl⟩,List.Pairwise.nil,.refl _⟩))))
 have hc:Cl H1 b (cI (D.map (·.1))):=⟨hbn,3,true,by rw [hg];simp [cI,Function.comp_def]⟩
 have hlen:(D.map (·.1)).length=D.length:=by simp
 obtain ⟨H2,h2,k2,ys,hp,hs,hc2⟩:=ZeX (kn:=kn) (lo:=lo) (H:=H1) (cap:=D.length) (by have:=k1.le;omega) hlb (by rw [hlen];omega) hc
 rw [hlen] at h2
 have hyl:ys.length=D.length:=by rw [hp.length_eq,hlen]
 refine Zd rfl (Zi (Zm (Zd rfl (Z3 s rfl (Zh h2) (Zi ?_)))))
 refine Zm (Zd rfl (Zd rfl (Zi (yE ⟨True.intro,[.slice (some ⟨b,0,none⟩) D.length D.length],rfl,k1.new k2 (fun x hx=>.inr (by simp at hx;omega)),some ⟨b,0,none⟩,ys,D.length,by rw [hyl];rfl,.inr ⟨b,rfl,hc2.rd,by omega⟩,hs,?_⟩))))
 exact hp.trans (hD.map _)
end
end
end Go.Ax

/-
 Pool: the book: what events do (no program in it),and where it lies (written by program).
-/
namespace Go.Ax
open Go Go.RowKit Go.Proofs

noncomputable section
def fI (al:List Ac) (x:Int):Option Nat:=al.findIdx? fun a=>decide (a.g=x)
theorem Kg {al:List Ac} {x:Int} {i:Nat} (h:fI al x=some i):i < al.length∧(al.getD i Ac.z).g=x:=by
 unfold fI at h
 rw [List.findIdx?_eq_some_iff_getElem] at h
 obtain ⟨hi,h1,_⟩:=h
 refine ⟨hi,?_⟩
 rw [List.getD_eq_getElem?_getD,List.getElem?_eq_getElem hi]
 exact of_decide_eq_true h1
def stp (al:List Ac) (v:Ev):List Ac × Int:=
 if okE v=false then (al,1) else
 match fI al v.g with
 | none=>(al,4)
 | some i=>
  if v.k=0 then (al.set i ⟨(al.getD i Ac.z).g,(al.getD i Ac.z).q,(al.getD i Ac.z).u+min v.a ((al.getD i Ac.z).q - (al.getD i Ac.z).u),(al.getD i Ac.z).x+(v.a - min v.a ((al.getD i Ac.z).q - (al.getD i Ac.z).u))⟩,0) else
  match fI al v.t with
  | none=>(al,4)
  | some j=>if i=j then (al,5) else if (al.getD i Ac.z).q - (al.getD i Ac.z).u < v.a then (al,10) else
    ((al.set i ⟨(al.getD i Ac.z).g,(al.getD i Ac.z).q - v.a,(al.getD i Ac.z).u,(al.getD i Ac.z).x⟩).set j ⟨(al.getD j Ac.z).g,(al.getD j Ac.z).q+v.a,(al.getD j Ac.z).u,(al.getD j Ac.z).x⟩,0)
theorem yI {al:List Ac} {v:Ev} (h:okE v=false):stp al v=(al,1):=by unfold stp;rw [if_pos h]
theorem KJ {al:List Ac} {v:Ev} (h:okE v=true) (h1:fI al v.g=none):stp al v=(al,4):=by unfold stp;rw [if_neg (by rw [h];simp),h1]
theorem Jy {al:List Ac} {v:Ev} {i:Nat} (h:okE v=true) (h1:fI al v.g=some i) (hk:v.k=0):stp al v=(al.set i ⟨(al.getD i Ac.z).g,(al.getD i Ac.z).q,(al.getD i Ac.z).u+min v.a ((al.getD i Ac.z).q - (al.getD i Ac.z).u),(al.getD i Ac.z).x+(v.a - min v.a ((al.getD i Ac.z).q - (al.getD i Ac.z).u))⟩,0):=by unfold stp;rw [if_neg (by rw [h];simp),h1];simp only [];rw [if_pos hk]
theorem JD {al:List Ac} {v:Ev} {i:Nat} (h:okE v=true) (h1:fI al v.g=some i) (hk:v.k≠0) (h2:fI al v.t=none):stp al v=(al,4):=by unfold stp;rw [if_neg (by rw [h];simp),h1];simp only [];rw [if_neg hk,h2]
theorem Jw {al:List Ac} {v:Ev} {i:Nat} (h:okE v=true) (h1:fI al v.g=some i) (hk:v.k≠0) (h2:fI al v.t=some i):stp al v=(al,5):=by unfold stp;rw [if_neg (by rw [h];simp),h1];simp only [];rw [if_neg hk,h2];simp only [if_true]
theorem Jt {al:List Ac} {v:Ev} {i j:Nat} (h:okE v=true) (h1:fI al v.g=some i) (hk:v.k≠0) (h2:fI al v.t=some j) (hij:i≠j) (hs:(al.getD i Ac.z).q - (al.getD i Ac.z).u < v.a):stp al v=(al,10):=by unfold stp;rw [if_neg (by rw [h];simp),h1];simp only [];rw [if_neg hk,h2];simp only [];rw [if_neg hij,if_pos hs]
theorem JE {al:List Ac} {v:Ev} {i j:Nat} (h:okE v=true) (h1:fI al v.g=some i) (hk:v.k≠0) (h2:fI al v.t=some j) (hij:i≠j) (hs:¬ (al.getD i Ac.z).q - (al.getD i Ac.z).u < v.a):stp al v=((al.set i ⟨(al.getD i Ac.z).g,(al.getD i Ac.z).q - v.a,(al.getD i Ac.z).u,(al.getD i Ac.z).x⟩).set j ⟨(al.getD j Ac.z).g,(al.getD j Ac.z).q+v.a,(al.getD j Ac.z).u,(al.getD j Ac.z).x⟩,0):=by unfold stp;rw [if_neg (by rw [h];simp),h1];simp only [];rw [if_neg hk,h2];simp only [];rw [if_neg hij,if_neg hs]
def Ua (B:Int) (a:Ac):Prop:=0≤a.u∧a.u≤a.q∧a.q≤B∧0≤a.x∧a.x≤B
theorem Ua.mono {B C:Int} {a:Ac} (h:Ua B a) (hb:B≤C):Ua C a:=by unfold Ua at *;omega
theorem yl {α:Type} {l:List α} {i:Nat} {v:α} {p:α→Prop} (h:∀ a∈l,p a) (hv:p v):∀ a∈l.set i v,p a:=fun a ha=>by
 rcases List.mem_or_eq_of_mem_set ha with h1 | h1
 ·exact h a h1
 ·rw [h1];exact hv
theorem Zgp {al:List Ac} {v:Ev} {B:Int} (h:∀ a∈al,Ua B a) (hB:0≤B):∀ a∈(stp al v).1,Ua (B+1099511627776) a:=by
 have hm:∀ a∈al,Ua (B+1099511627776) a:=fun a ha=>(h a ha).mono (by omega)
 cases he:okE v with
 | false=>rw [yI he];exact hm
 | true=>
  have ht:=Zfy he
  cases h1:fI al v.g with
  | none=>rw [KJ he h1];exact hm
  | some i=>
   have ai:=Xt (z:=Ac.z) h (Kg h1).1
   by_cases hk:v.k=0
   ·rw [Jy he h1 hk]
    refine yl hm ?_
    unfold Ua at *
    simp only []
    omega
   ·cases h2:fI al v.t with
    | none=>rw [JD he h1 hk h2];exact hm
    | some j=>
     have aj:=Xt (z:=Ac.z) h (Kg h2).1
     by_cases hij:i=j
     ·subst hij;rw [Jw he h1 hk h2];exact hm
     ·by_cases hs:(al.getD i Ac.z).q - (al.getD i Ac.z).u < v.a
      ·rw [Jt he h1 hk h2 hij hs];exact hm
      ·rw [JE he h1 hk h2 hij hs]
       refine yl (yl hm ?_) ?_<;>(unfold Ua at *;simp only [];omega)
theorem Qc {α β:Type} {f:α→β} {l:List α} {i:Nat} {v z:α} (h:f v=f (l.getD i z)):(l.set i v).map f=l.map f:=by
 refine List.ext_getElem? fun j=>?_
 rw [List.getElem?_map,List.getElem?_map,List.getElem?_set]
 by_cases q:i=j
 ·subst q
  rw [if_pos rfl]
  split
  ·rename_i hl
   rw [List.getElem?_eq_getElem hl,Option.map_some,Option.map_some,h,List.getD_eq_getElem?_getD,List.getElem?_eq_getElem hl];rfl
  ·rename_i hl
   rw [List.getElem?_eq_none (by omega)]
 ·rw [if_neg q]
theorem Vo {α:Type} {l:List α} {i j:Nat} {v z:α} (h:i≠j):(l.set i v).getD j z=l.getD j z:=by
 rw [List.getD_eq_getElem?_getD,List.getD_eq_getElem?_getD,List.getElem?_set_ne h]
theorem J0 {α:Type} {l:List α} {i:Nat} {v z:α} (h:i < l.length):(l.set i v).getD i z=v:=by
 rw [List.getD_eq_getElem?_getD,List.getElem?_set_self h];rfl
theorem Zei {al:List Ac} {v:Ev}:(stp al v).1.map (·.g)=al.map (·.g):=by
 cases he:okE v with
 | false=>rw [yI he]
 | true=>
  cases h1:fI al v.g with
  | none=>rw [KJ he h1]
  | some i=>
   by_cases hk:v.k=0
   ·rw [Jy he h1 hk];exact Qc (z:=Ac.z) rfl
   ·cases h2:fI al v.t with
    | none=>rw [JD he h1 hk h2]
    | some j=>
     by_cases hij:i=j
     ·subst hij;rw [Jw he h1 hk h2]
     ·by_cases hs:(al.getD i Ac.z).q - (al.getD i Ac.z).u < v.a
      ·rw [Jt he h1 hk h2 hij hs]
      ·rw [JE he h1 hk h2 hij hs]
       refine (Qc (f:=fun a:Ac=>a.g) (z:=Ac.z) ?_).trans (Qc (f:=fun a:Ac=>a.g) (z:=Ac.z) ?_)
       ·rw [Vo hij]
       ·rfl
def stA (al:List Ac) (vs:List Ev):Nat→List Ac
 | 0=>al
 | k+1=>(stp (stA al vs k) (vs.getD k Ev.z)).1
theorem yz {al:List Ac} {vs:List Ev}:∀ k,(stA al vs k).map (·.g)=al.map (·.g)
 | 0=>rfl
 | k+1=>Zei.trans (yz k)
theorem QN {al:List Ac} {vs:List Ev} (k:Nat):(stA al vs k).length=al.length:=by
 have:=congrArg List.length (yz (al:=al) (vs:=vs) k)
 simpa using this
theorem ZdO {al:List Ac} {vs:List Ev} (h:∀ a∈al,Ua 1099511627776 a):∀ k:Nat,∀ a∈stA al vs k,Ua (1099511627776 * ((k:Int)+1)) a
 | 0=>fun a ha=>(h a ha).mono (by omega)
 | k+1=>fun a ha=>(Zgp (ZdO h k) (by omega) a ha).mono (by omega)
def Ply (al:List Ac) (vs:List Ev) (n:Nat) (e:Int):Prop:=
 n≤vs.length∧(∀ j,j < n→(stp (stA al vs j) (vs.getD j Ev.z)).2=0)∧((n=vs.length∧e=0)∨(n < vs.length∧e=(stp (stA al vs n) (vs.getD n Ev.z)).2∧e≠0))
theorem Ply.uniq {al:List Ac} {vs:List Ev} {n n':Nat} {e e':Int} (h:Ply al vs n e) (h':Ply al vs n' e'):n=n'∧e=e':=by
 have key:∀ {n n':Nat} {e e':Int},Ply al vs n e→Ply al vs n' e'→¬ n < n':=by
  intro n n' e e' h h' q
  have h1:=h'.2.1 n q
  rcases h.2.2 with ⟨a,_⟩ | ⟨a,b,c⟩
  ·have:=h'.1;omega
  ·exact c (b.trans h1)
 have e1:n=n':=by have:=key h h';have:=key h' h;omega
 subst e1
 refine ⟨rfl,?_⟩
 rcases h.2.2 with ⟨a,b⟩ | ⟨a,b,c⟩<;>rcases h'.2.2 with ⟨a',b'⟩ | ⟨a',b',c'⟩
 ·rw [b,b']
 ·omega
 ·omega
 ·rw [b,b']
structure Bok (lo f mb:Nat) (L:ML Int) (c:Nat) (P:Nat→Nat) (al:List Ac) (H:Hp):Prop where
 mq:Mqa iv H mb L c
 wf:WfA L c
 val:∀ i,i < al.length→Z7 (al.getD i Ac.z).g L=some (.pointer (some ⟨P i,0,none⟩))
 no:∀ x,(∀ i,i < al.length→(al.getD i Ac.z).g≠x)→Z7 x L=none
 cl:∀ i,i < al.length→Sc H (P i) (Ac.f (al.getD i Ac.z))
 inj:∀ i j,i < al.length→j < al.length→P i=P j→i=j
 lw:∀ i,i < al.length→lo≤P i∧f≤P i∧P i≠mb
 lm:lo≤mb∧f≤mb
theorem Bok.keep {lo f mb:Nat} {L:ML Int} {c:Nat} {P:Nat→Nat} {al:List Ac} {H H1:Hp} (h:Bok lo f mb L c P al H) (k:Keep H H1 []):Bok lo f mb L c P al H1:=
 ⟨k.mqa0 h.mq,h.wf,h.val,h.no,fun i hi=>k.sc (h.cl i hi) (by simp),h.inj,h.lw,h.lm⟩
theorem Bok.keepW {lo f mb b:Nat} {L:ML Int} {c:Nat} {P:Nat→Nat} {al:List Ac} {H H1:Hp} (h:Bok lo f mb L c P al H) (k:Keep H H1 [b]) (h1:mb≠b) (h2:∀ i,i < al.length→P i≠b):Bok lo f mb L c P al H1:=
 ⟨k.mqa h.mq (by simpa using h1),h.wf,h.val,h.no,fun i hi=>k.sc (h.cl i hi) (by simpa using h2 i hi),h.inj,h.lw,h.lm⟩
theorem Bok.set {lo f mb i:Nat} {L:ML Int} {c:Nat} {P:Nat→Nat} {al:List Ac} {H H1:Hp} {a:Ac} (h:Bok lo f mb L c P al H) (hi:i < al.length) (k:Keep H H1 [P i]) (hc:Sc H1 (P i) (Ac.f a)) (hg:a.g=(al.getD i Ac.z).g):Bok lo f mb L c P (al.set i a) H1:=by
 have hat:∀ j,((al.set i a).getD j Ac.z).g=(al.getD j Ac.z).g:=fun j=>by
  by_cases q:i=j
  ·subst q;rw [J0 hi,hg]
  ·rw [Vo q]
 refine ⟨k.mqa h.mq (by simpa using ((h.lw i hi).2.2).symm),h.wf,fun j hj=>?_,fun x hx=>h.no x fun j hj=>?_,fun j hj=>?_,fun j j' hj hj'=>?_,fun j hj=>?_,h.lm⟩<;>(try rw [List.length_set] at hj)
 ·rw [hat];exact h.val j hj
 ·have:=hx j (by rw [List.length_set];exact hj);rw [hat] at this;exact this
 ·by_cases q:i=j
  ·subst q;rw [J0 hi];exact hc
  ·rw [Vo q];exact k.sc (h.cl j hj) (by simp;exact fun e=>q (h.inj i j hi hj e.symm))
 ·rw [List.length_set] at hj';exact h.inj j j' hj hj'
 ·exact h.lw j hj
theorem Zan {P:Program} {kn:Kn} {lo n:Nat} {masks:List Nat} {r:List RO} {ks:List Kd} {S:Rg} {H:Hp} {K:Rg→Hp→Prop} {d:Option Nat} {x y:Operand} {b o:Nat} {cs:List Value} {v:Value} (hx:evS S x=some (.pointer (some ⟨b,o,none⟩))) (hy:evS S y=some v) (hc:Sc H b cs) (hl:lo≤b) (hv:v.cells.toList=[v]) (h1:one v=true) (ho:o < cs.length)
  (h:∀ H1,Keep H H1 [b]→H1.next=H.next→Sc H1 b (cs.set o v)→Zv P kn lo n masks r (.store b :: ks) (Zt S d undef) H1 K):Zv P kn lo n masks (⟨d,none,.st x y⟩ :: r) ks S H K:=by
 simp only [Zv,wRO,wRI,hx,hy]
 obtain ⟨_,e,g⟩:=id hc
 exact ⟨cs,e,false,g,hl,hv,h1,ho,fun H1 hH1=>by obtain ⟨a,b,c⟩:=Zfn hc hH1;exact h H1 a b c⟩
end
end Go.Ax

/-
 Pool: an account,what is left of it (77,78);a load brought (68) (written by program).
-/
namespace Go.Ax
open Go Go.RowKit Go.Proofs

noncomputable section
noncomputable def V6:Code→Array Oper
 | .region _ ops _=>ops
 | _=>#[]
section
variable {P:Program} {kn:Kn} {lo n:Nat} {rd:Bool} {r:List RP} {S:Rg} {H:Hp} {D:List Deferred} {d:Option Nat} {x y:Operand} {K:Exit→Rg→Hp→List Deferred→Prop}
theorem Zgd {v:Value} (hx:evS S x=some v) (h:Vl P kn lo n rd r (Zt S d v) H D K):Vl P kn lo n rd (.ro ⟨d,none,.mov x⟩ :: r) S H D K:=.inl (by simp only [wRO,wRI,hx];exact h)
theorem Zgw {o:Oper} {v:Value} (hd:W7 S o.op.operands.toList=true) (hv:Zn P (frS n S) o=some v) (h:Vl P kn lo n rd r (Zt S d v) H D K):Vl P kn lo n rd (.ro ⟨d,none,.pur o⟩ :: r) S H D K:=.inl ⟨hd,v,hv,h⟩
end
section
variable {P:Program} {kn:Kn} {lo n:Nat} {masks:List Nat} {r:List RO} {ks:List Kd} {S:Rg} {H:Hp} {d:Option Nat} {x y:Operand} {K:Value→Hp→Prop}
end
theorem Zdw:Try.prog.underlying 69=some (.map 3 91):=by kernel_rfl
theorem Zcf:ZB Try.prog (zeroValue 91)=some (.pointer none):=by kernel_rfl
section
variable {kn:Kn} {lo:Nat} {H:Hp}
theorem ZdN {mb c:Nat} {L:ML Int} (hq:Mqa iv H mb L c) {x:Int} {p:Nat} (hg:Z7 x L=some (.pointer (some ⟨p,0,none⟩))):∃ H',FnX Try.prog kn lo 77 [.map (some mb),iv x] H (.pointer (some ⟨p,0,none⟩)) H'∧Keep H H' []:=by
 have key:=Zr (kn:=kn) (lo:=lo) (H:=H) (args:=[.map (some mb),iv x]) (Q:=fun w H'=>w=.pointer (some ⟨p,0,none⟩)∧Keep H H' []) Try.func77 B77 N77 Z77 L77 (by simp) ?_
 ·obtain ⟨w,H',h,rfl,q⟩:=key;exact ⟨H',h,q⟩
 have hk:=Keep.refl H []
 refine Zc<|Za rfl<|Zb<|Zc<|Za rfl<|Za rfl<|XQ (v:=.tuple #[.pointer (some ⟨p,0,none⟩),.bool true]) (H':=H) (k:=.read mb) (yk rfl rfl) rfl ((Qn ym Zdw Zcf rfl rfl rfl hq true).trans (by rw [hg];rfl)) (fun q e=>by cases e;exact hq.1)<|Za rfl<|Zg (v:=pt p) rfl (by kernel_rfl)<|Zg (v:=.bool true) rfl (by kernel_rfl)<|Za rfl<|Za rfl<|Zb<|Zc<|Za rfl<|Zg (v:=.bool false) rfl rfl<|Zb<|ZR ?_
 first | refine Zl ?_ | skip
 refine Zc<|Za rfl<|Za rfl<|Zb ?_
 exact And.intro trivial (Exists.intro _ (And.intro rfl ⟨rfl,hk⟩))
theorem Zbx {p:Nat} {a:Ac} (ca:Cl H p [iv a.g,iv a.q,iv a.u,iv a.x]) {Bd:Int} (ha:Ua Bd a) (hB:Bd≤329853488332800):∃ H',FnX Try.prog kn lo 78 [.pointer (some ⟨p,0,none⟩)] H (iv (a.q - a.u)) H'∧Keep H H' []:=by
 have key:=Zr (kn:=kn) (lo:=lo) (H:=H) (args:=[.pointer (some ⟨p,0,none⟩)]) (Q:=fun w H'=>w=iv (a.q - a.u)∧Keep H H' []) Try.func78 B78 N78 Z78 L78 (by simp) ?_
 ·obtain ⟨w,H',h,rfl,q⟩:=key;exact ⟨H',h,q⟩
 have hk:=Keep.refl H []
 obtain ⟨ha1,ha2,ha3,ha4,ha5⟩:=ha
 refine Zc<|Za rfl<|Zb<|YV<|Zf rfl<|Ve (a:=⟨p,0,none⟩) rfl<|Yl (b:=p) (o:=0) rfl<|ZP (b:=p) (o:=1) (v:=iv a.q) rfl ca.rd rfl<|Zf rfl<|Ve (a:=⟨p,0,none⟩) rfl<|Yl (b:=p) (o:=0) rfl<|ZP (b:=p) (o:=2) (v:=iv a.u) rfl ca.rd rfl<|Xk (a:=a.q) (b:=a.u) rfl rfl ⟨by omega,by omega⟩<|Zf rfl ?_
 refine ZN (by repeat' first | exact True.intro | exact (fun h=>h) | refine And.intro ?_ ?_ | (intro h;have h:(_:Nat)=_:=h;omega)) ?_
 exact And.intro trivial (Exists.intro _ (And.intro rfl ⟨rfl,hk⟩))
set_option maxRecDepth 100000 in
theorem Zdh {f mb c:Nat} {L:ML Int} {Pp:Nat→Nat} {al:List Ac} (hB:Bok lo f mb L c Pp al H) {v:Ev} {i:Nat} (hi:i < al.length) (hx:(al.getD i Ac.z).g=v.g) {Bd:Int} (hac:Ua Bd (al.getD i Ac.z)) (hBd:Bd≤329853488332800) (hv1:1≤v.a) (hv2:v.a≤1099511627776) (hlo:lo≤H.next):∃ H',FnX Try.prog kn lo 68 [.map (some mb),.agg (Ev.f v).toArray] H (.tuple #[]) H'∧Bok lo f mb L c Pp (al.set i ⟨(al.getD i Ac.z).g,(al.getD i Ac.z).q,(al.getD i Ac.z).u+min v.a ((al.getD i Ac.z).q - (al.getD i Ac.z).u),(al.getD i Ac.z).x+(v.a - min v.a ((al.getD i Ac.z).q - (al.getD i Ac.z).u))⟩) H'∧Keep H H' [Pp i]:=by
 have key:=Zr (kn:=kn) (lo:=lo) (H:=H) (args:=[.map (some mb),.agg (Ev.f v).toArray]) (Q:=fun w H'=>w=.tuple #[]∧Bok lo f mb L c Pp (al.set i ⟨(al.getD i Ac.z).g,(al.getD i Ac.z).q,(al.getD i Ac.z).u+min v.a ((al.getD i Ac.z).q - (al.getD i Ac.z).u),(al.getD i Ac.z).x+(v.a - min v.a ((al.getD i Ac.z).q - (al.getD i Ac.z).u))⟩) H'∧Keep H H' [Pp i]) Try.func68 B68 N68 Z68 L68 (by simp) ?_
 ·obtain ⟨w,H',h,rfl,q⟩:=key;exact ⟨H',h,q⟩
 obtain ⟨a,ea⟩:∃ a,a=al.getD i Ac.z:=⟨_,rfl⟩
 obtain ⟨pi,epi⟩:∃ pi,pi=Pp i:=⟨_,rfl⟩
 have hval:=hB.val i hi
 rw [hx,← epi] at hval
 have spi:Sc H pi [iv a.g,iv a.q,iv a.u,iv a.x]:=by rw [epi,ea];exact hB.cl i hi
 have ca:=spi.cl
 have hlw:=hB.lw i hi
 rw [← epi] at hlw
 have hmq:=hB.mq
 have lmb:=hmq.1
 have lpi:=ca.1
 rw [← ea] at hac
 obtain ⟨ha1,ha2,ha3,ha4,ha5⟩:=id hac
 have hk:=Keep.refl H [pi]
 refine Zc<|Y7 (v:=.agg (Ev.f v).toArray) rfl ?_
 intro H1 kH1 nH1 c1
 have c1:Cl H1 H.next [iv v.k,iv v.g,iv v.t,iv v.a]:=c1
 have mH1:=kH1.1
 have hk:=(show Keep H H1 [pi] from hk.trans (kH1.mono (by simp)))
 have hmq:=kH1.mqa hmq (by simp)
 have spi:=kH1.sc spi (by simp)
 have ca:=kH1.cl ca (by simp)
 refine Zb<|Zc<|Za rfl<|ZK (b:=H.next) (o:=0) rfl<|Yq (b:=H.next) (o:=1) (v:=iv v.g) rfl c1.rd rfl ?_
 obtain ⟨H2,fH2,kH2⟩:=ZdN (kn:=kn) (lo:=lo) (H:=H1) hmq hval
 refine Zs (vs:=[.map (some mb),iv v.g]) rfl (Zh fH2) ?_
 have mH2:=kH2.1
 have hk:=(show Keep H H2 [pi] from hk.trans (kH2.mono (by simp)))
 have hmq:=kH2.mqa hmq (by simp)
 have spi:=kH2.sc spi (by simp)
 have ca:=kH2.cl ca (by simp)
 have c1:=kH2.cl c1 (by simp)
 refine Za rfl<|Zb<|YV<|Yl (b:=H.next) (o:=0) rfl<|ZP (b:=H.next) (o:=3) (v:=iv v.a) rfl c1.rd rfl<|Zf rfl ?_
 obtain ⟨H3,fH3,kH3⟩:=Zbx (kn:=kn) (lo:=H2.next) (H:=H2) ca hac hBd
 refine WE (vs:=[.pointer (some ⟨pi,0,none⟩)]) rfl rfl (Zh fH3) ?_
 have mH3:=kH3.1
 have hk:=(show Keep H H3 [pi] from hk.trans (kH3.mono (by simp)))
 have hmq:=kH3.mqa hmq (by simp)
 have spi:=kH3.sc spi (by simp)
 have ca:=kH3.cl ca (by simp)
 have c1:=kH3.cl c1 (by simp)
 refine Zha (a:=v.a) (b:=(a.q - a.u)) rfl rfl<|Zf rfl ?_
 refine ZN (by repeat' first | exact True.intro | exact (fun h=>h) | refine And.intro ?_ ?_ | (intro h;have h:(_:Nat)=_:=h;omega)) ?_
 refine Zc<|Za rfl<|Za4 (a:=⟨pi,0,none⟩) rfl<|ZK (b:=pi) (o:=0) rfl<|Yq (b:=pi) (o:=2) (v:=iv a.u) rfl ca.rd rfl<|Za rfl<|Zy (a:=a.u) (b:=min v.a (a.q - a.u)) rfl rfl ⟨by omega,by omega⟩<|Za4 (a:=⟨pi,0,none⟩) rfl<|ZK (b:=pi) (o:=0) rfl<|ZfZ (b:=pi) (o:=2) rfl rfl spi (by omega) rfl rfl (by simp) ?_
 intro H4 kH4 nH4 sH4
 have mH4:=kH4.1
 have hk:=(show Keep H H4 [pi] from by first | exact hk.trans kH4 | exact hk.trans (kH4.mono (by simp)) | exact hk.new kH4 (fun b hb=>by simp at hb ⊢;omega))
 have hmq:=kH4.mqa hmq (by simp;omega)
 have c1:=kH4.cl c1 (by first | (simp;done) | (simp;omega))
 have spi:Sc H4 pi [iv a.g,iv a.q,iv (a.u+(min v.a (a.q - a.u))),iv a.x]:=sH4
 have ca:=spi.cl
 refine Zb ?_
 first | refine Z2 ?_ | (refine YO ?_;refine Z2 ?_)
 refine Zf rfl<|Ve (a:=⟨pi,0,none⟩) rfl<|Yl (b:=pi) (o:=0) rfl<|ZP (b:=pi) (o:=3) (v:=iv a.x) rfl ca.rd rfl<|Yl (b:=H.next) (o:=0) rfl<|ZP (b:=H.next) (o:=3) (v:=iv v.a) rfl c1.rd rfl<|Zf rfl<|Xk (a:=v.a) (b:=min v.a (a.q - a.u)) rfl rfl ⟨by omega,by omega⟩<|XU (a:=a.x) (b:=v.a - (min v.a (a.q - a.u))) rfl rfl ⟨by omega,by omega⟩<|Ve (a:=⟨pi,0,none⟩) rfl<|Yl (b:=pi) (o:=0) rfl<|Zan (b:=pi) (o:=3) rfl rfl spi (by omega) rfl rfl (by simp) ?_
 intro H5 kH5 nH5 sH5
 have mH5:=kH5.1
 have hk:=(show Keep H H5 [pi] from by first | exact hk.trans kH5 | exact hk.trans (kH5.mono (by simp)) | exact hk.new kH5 (fun b hb=>by simp at hb ⊢;omega))
 have hmq:=kH5.mqa hmq (by simp;omega)
 have c1:=kH5.cl c1 (by first | (simp;done) | (simp;omega))
 have spi:Sc H5 pi [iv a.g,iv a.q,iv (a.u+(min v.a (a.q - a.u))),iv (a.x+(v.a - (min v.a (a.q - a.u))))]:=sH5
 have ca:=spi.cl
 refine ZN (by repeat' first | exact True.intro | exact (fun h=>h) | refine And.intro ?_ ?_ | (intro h;have h:(_:Nat)=_:=h;omega)) ?_
 have hset:=hB.set hi (epi ▸ hk) (a:=⟨a.g,a.q,a.u+(min v.a (a.q - a.u)),a.x+(v.a - (min v.a (a.q - a.u)))⟩) (by rw [← epi];exact spi) (by rw [← ea])
 exact And.intro trivial (Exists.intro _ (And.intro rfl ⟨rfl,by rw [← ea];exact hset,epi ▸ hk⟩))
end
end
end Go.Ax

/-
 Pool: a quota leased (69) (written by program).
-/
namespace Go.Ax
open Go Go.RowKit Go.Proofs

noncomputable section
theorem Zfp:Try.prog.underlying 91=some (.pointer 47):=by kernel_rfl
theorem Zc3 {lo n:Nat} {H:Hp} {S:Rg} {x y:Operand} {d:Option Tmp} {ty:TypeId} {s:String} {p q:Nat} {cs ds:List Value} (hx:evS S x=some (.pointer (some ⟨p,0,none⟩))) (hy:evS S y=some (.pointer (some ⟨q,0,none⟩))) (hp:Sc H p cs) (hq:Sc H q ds) :
  Zu Try.prog lo (frS n S) H ⟨d,.binOp .eql 91 x y 91,ty,s,#[],none⟩=some (.val (.bool (Nat.beq p q)) H,.heavy):=by
 obtain ⟨_,e1,g1⟩:=hp
 obtain ⟨_,e2,g2⟩:=hq
 obtain ⟨i,hi,hs⟩:=ZiS
 have hz:Nat.beq i.size 0=false:=by rw [hs];rfl
 have key:KE Try.prog H 91 (.pointer (some ⟨p,0,none⟩)) (.pointer (some ⟨q,0,none⟩))=some (Nat.beq p q):=by
  unfold KE
  simp only [Zfp,hi,g1,g2,hz,cond_false]
 unfold Zu
 simp only [Ym,hx,hy,key]
theorem ZcA {n:Nat} {S:Rg} {x y:Operand} {d:Option Tmp} {ty:TypeId} {s:String} {p q:Nat} (hx:evS S x=some (.pointer (some ⟨p,0,none⟩))) (hy:evS S y=some (.pointer (some ⟨q,0,none⟩))):Zn Try.prog (frS n S) ⟨d,.binOp .eql 91 x y 91,ty,s,#[],none⟩=none:=by
 have hd:Vr Try.prog 91 (.pointer (some ⟨p,0,none⟩)) (.pointer (some ⟨q,0,none⟩))=false:=by
  unfold Vr
  simp only [Zfp]
 unfold Zn
 simp only [Ym,hx,hy,show ZS (.pointer (some ⟨p,0,none⟩))=false from rfl,Bool.false_and,cond_false,hd]
section
variable {kn:Kn} {lo:Nat} {H:Hp}
set_option maxRecDepth 100000 in
theorem ZdJ {f mb c:Nat} {L:ML Int} {Pp:Nat→Nat} {al:List Ac} (hB:Bok lo f mb L c Pp al H) {v:Ev} {i:Nat} (hi:i < al.length) (hx:(al.getD i Ac.z).g=v.g) {Bd:Int} (hac:Ua Bd (al.getD i Ac.z)) (hBd:Bd≤329853488332800) (hv1:1≤v.a) (hv2:v.a≤1099511627776) (hlo:lo≤H.next) (hs:¬ (al.getD i Ac.z).q - (al.getD i Ac.z).u < v.a) {j:Nat} (hj:j < al.length) (hy:(al.getD j Ac.z).g=v.t) (hbc:Ua Bd (al.getD j Ac.z)) (hij:i≠j):∃ H',FnX Try.prog kn lo 69 [.map (some mb),.agg (Ev.f v).toArray] H (.tuple #[]) H'∧Bok lo f mb L c Pp ((al.set i ⟨(al.getD i Ac.z).g,(al.getD i Ac.z).q - v.a,(al.getD i Ac.z).u,(al.getD i Ac.z).x⟩).set j ⟨(al.getD j Ac.z).g,(al.getD j Ac.z).q+v.a,(al.getD j Ac.z).u,(al.getD j Ac.z).x⟩) H'∧Keep H H' [Pp i,Pp j]:=by
 have key:=Zr (kn:=kn) (lo:=lo) (H:=H) (args:=[.map (some mb),.agg (Ev.f v).toArray]) (Q:=fun w H'=>w=.tuple #[]∧Bok lo f mb L c Pp ((al.set i ⟨(al.getD i Ac.z).g,(al.getD i Ac.z).q - v.a,(al.getD i Ac.z).u,(al.getD i Ac.z).x⟩).set j ⟨(al.getD j Ac.z).g,(al.getD j Ac.z).q+v.a,(al.getD j Ac.z).u,(al.getD j Ac.z).x⟩) H'∧Keep H H' [Pp i,Pp j]) Try.func69 B69 N69 Z69 L69 (by simp) ?_
 ·obtain ⟨w,H',h,rfl,q⟩:=key;exact ⟨H',h,q⟩
 obtain ⟨a,ea⟩:∃ a,a=al.getD i Ac.z:=⟨_,rfl⟩
 obtain ⟨pi,epi⟩:∃ pi,pi=Pp i:=⟨_,rfl⟩
 have hval:=hB.val i hi
 rw [hx,← epi] at hval
 have spi:Sc H pi [iv a.g,iv a.q,iv a.u,iv a.x]:=by rw [epi,ea];exact hB.cl i hi
 have ca:=spi.cl
 have hlw:=hB.lw i hi
 rw [← epi] at hlw
 have hmq:=hB.mq
 have lmb:=hmq.1
 have lpi:=ca.1
 rw [← ea] at hac
 obtain ⟨ha1,ha2,ha3,ha4,ha5⟩:=id hac
 obtain ⟨b,eb⟩:∃ b,b=al.getD j Ac.z:=⟨_,rfl⟩
 obtain ⟨pj,epj⟩:∃ pj,pj=Pp j:=⟨_,rfl⟩
 have hval2:=hB.val j hj
 rw [hy,← epj] at hval2
 have spj:Sc H pj [iv b.g,iv b.q,iv b.u,iv b.x]:=by rw [epj,eb];exact hB.cl j hj
 have cb:=spj.cl
 have hlw2:=hB.lw j hj
 rw [← epj] at hlw2
 have lpj:=cb.1
 rw [← eb] at hbc
 obtain ⟨hb1,hb2,hb3,hb4,hb5⟩:=id hbc
 have hpq:pi≠pj:=fun z=>hij (hB.inj i j hi hj (by rw [← epi,← epj];exact z))
 have hbq:Nat.beq pi pj=false:=by
  cases hb:Nat.beq pi pj with
  | false=>rfl
  | true=>exact absurd (Nat.eq_of_beq_eq_true hb) hpq
 rw [← ea] at hs
 have hk:=Keep.refl H [pi,pj]
 have kb:=Keep.refl H []
 refine Zc<|Y7 (v:=.agg (Ev.f v).toArray) rfl ?_
 intro H1 kH1 nH1 c1
 have c1:Cl H1 H.next [iv v.k,iv v.g,iv v.t,iv v.a]:=c1
 have mH1:=kH1.1
 have hk:=(show Keep H H1 [pi,pj] from hk.trans (kH1.mono (by simp)))
 have hmq:=kH1.mqa hmq (by simp)
 have spi:=kH1.sc spi (by simp)
 have ca:=kH1.cl ca (by simp)
 have spj:=kH1.sc spj (by simp)
 have cb:=kH1.cl cb (by simp)
 have kb:=kb.trans kH1
 refine Zb<|YV<|Zf rfl<|Yl (b:=H.next) (o:=0) rfl<|ZP (b:=H.next) (o:=1) (v:=iv v.g) rfl c1.rd rfl ?_
 obtain ⟨H2,fH2,kH2⟩:=ZdN (kn:=kn) (lo:=H1.next) (H:=H1) hmq hval
 refine WE (vs:=[.map (some mb),iv v.g]) rfl rfl (Zh fH2) ?_
 have mH2:=kH2.1
 have hk:=(show Keep H H2 [pi,pj] from hk.trans (kH2.mono (by simp)))
 have hmq:=kH2.mqa hmq (by simp)
 have spi:=kH2.sc spi (by simp)
 have ca:=kH2.cl ca (by simp)
 have spj:=kH2.sc spj (by simp)
 have cb:=kH2.cl cb (by simp)
 have kb:=kb.trans kH2
 have c1:=kH2.cl c1 (by simp)
 refine Zf rfl<|Yl (b:=H.next) (o:=0) rfl<|ZP (b:=H.next) (o:=2) (v:=iv v.t) rfl c1.rd rfl ?_
 obtain ⟨H3,fH3,kH3⟩:=ZdN (kn:=kn) (lo:=lo) (H:=H2) hmq hval2
 refine Yr (vs:=[.map (some mb),iv v.t]) rfl (Zh fH3) ?_
 have mH3:=kH3.1
 have hk:=(show Keep H H3 [pi,pj] from hk.trans (kH3.mono (by simp)))
 have hmq:=kH3.mqa hmq (by simp)
 have spi:=kH3.sc spi (by simp)
 have ca:=kH3.cl ca (by simp)
 have spj:=kH3.sc spj (by simp)
 have cb:=kH3.cl cb (by simp)
 have kb:=kb.trans kH3
 have c1:=kH3.cl c1 (by simp)
 refine Zf rfl<|Zf rfl ?_
 refine ZN (by repeat' first | exact True.intro | exact (fun h=>h) | refine And.intro ?_ ?_ | (intro h;have h:(_:Nat)=_:=h;omega)) ?_
 refine Zc<|Za rfl<|Za rfl<|XQ (v:=.bool (Nat.beq pi pj)) (H':=H3) (k:=.heavy) (yk rfl rfl) (ZcA rfl rfl) (Zc3 rfl rfl spi spj) (fun q e=>by cases e) ?_
 rw [show Nat.beq pi pj=false from hbq]
 refine Zb<|ZR ?_
 first | refine Zl ?_ | skip
 refine YV<|Zf rfl ?_
 obtain ⟨H4,fH4,kH4⟩:=Zbx (kn:=kn) (lo:=H3.next) (H:=H3) ca hac hBd
 refine WE (vs:=[.pointer (some ⟨pi,0,none⟩)]) rfl rfl (Zh fH4) ?_
 have mH4:=kH4.1
 have hk:=(show Keep H H4 [pi,pj] from hk.trans (kH4.mono (by simp)))
 have hmq:=kH4.mqa hmq (by simp)
 have spi:=kH4.sc spi (by simp)
 have ca:=kH4.cl ca (by simp)
 have spj:=kH4.sc spj (by simp)
 have cb:=kH4.cl cb (by simp)
 have kb:=kb.trans kH4
 have c1:=kH4.cl c1 (by simp)
 refine Yl (b:=H.next) (o:=0) rfl<|ZP (b:=H.next) (o:=3) (v:=iv v.a) rfl c1.rd rfl<|Vc (a:=(a.q - a.u)) (b:=v.a) rfl rfl ?_
 refine ZN (by repeat' first | exact True.intro | exact (fun h=>h) | refine And.intro ?_ ?_ | (intro h;have h:(_:Nat)=_:=h;omega)) ?_
 refine And.intro (fun q1=>?_) (fun q1=>?_)
 ·have q1:(a.q - a.u) < v.a:=of_decide_eq_true q1
  exfalso;omega
 ·have q1:¬ ((a.q - a.u) < v.a):=of_decide_eq_false q1
  first | refine Zl ?_ | skip
  refine YV<|Zf rfl<|Ve (a:=⟨pi,0,none⟩) rfl<|Yl (b:=pi) (o:=0) rfl<|ZP (b:=pi) (o:=1) (v:=iv a.q) rfl ca.rd rfl<|Yl (b:=H.next) (o:=0) rfl<|ZP (b:=H.next) (o:=3) (v:=iv v.a) rfl c1.rd rfl<|Xk (a:=a.q) (b:=v.a) rfl rfl ⟨by omega,by omega⟩<|Ve (a:=⟨pi,0,none⟩) rfl<|Yl (b:=pi) (o:=0) rfl ?_
  have hBk:=hB.keep kb
  refine Zan (b:=pi) (o:=1) rfl rfl spi (by omega) rfl rfl (by simp) ?_
  intro H5 kH5 nH5 sH5
  have mH5:=kH5.1
  have hk:=(show Keep H H5 [pi,pj] from by first | exact hk.trans kH5 | exact hk.trans (kH5.mono (by simp)) | exact hk.new kH5 (fun b hb=>by simp at hb ⊢;omega))
  have hmq:=kH5.mqa hmq (by simp;omega)
  have spj:=kH5.sc spj (by simp;omega)
  have cb:=kH5.cl cb (by first | (simp;done) | (simp;omega))
  have c1:=kH5.cl c1 (by first | (simp;done) | (simp;omega))
  have spi:Sc H5 pi [iv a.g,iv (a.q - v.a),iv a.u,iv a.x]:=sH5
  have ca:=spi.cl
  have hB1:=hBk.set hi (epi ▸ kH5) (a:=⟨a.g,a.q - v.a,a.u,a.x⟩) (by rw [← epi];exact spi) (by rw [← ea])
  have kx:=Keep.refl H5 []
  refine ZN (by repeat' first | exact True.intro | exact (fun h=>h) | refine And.intro ?_ ?_ | (intro h;have h:(_:Nat)=_:=h;omega)) ?_
  first | refine Z2 ?_ | (refine YO ?_;refine Z2 ?_)
  refine Zf rfl<|Ve (a:=⟨pj,0,none⟩) rfl<|Yl (b:=pj) (o:=0) rfl<|ZP (b:=pj) (o:=1) (v:=iv b.q) rfl cb.rd rfl<|Yl (b:=H.next) (o:=0) rfl<|ZP (b:=H.next) (o:=3) (v:=iv v.a) rfl c1.rd rfl<|XU (a:=b.q) (b:=v.a) rfl rfl ⟨by omega,by omega⟩<|Ve (a:=⟨pj,0,none⟩) rfl<|Yl (b:=pj) (o:=0) rfl<|Zan (b:=pj) (o:=1) rfl rfl spj (by omega) rfl rfl (by simp) ?_
  intro H6 kH6 nH6 sH6
  have mH6:=kH6.1
  have hk:=(show Keep H H6 [pi,pj] from by first | exact hk.trans kH6 | exact hk.trans (kH6.mono (by simp)) | exact hk.new kH6 (fun b hb=>by simp at hb ⊢;omega))
  have hmq:=kH6.mqa hmq (by simp;omega)
  have c1:=kH6.cl c1 (by first | (simp;done) | (simp;omega))
  have spi:=kH6.sc spi (by simp;omega)
  have ca:=kH6.cl ca (by first | (simp;done) | (simp;omega))
  have spj:Sc H6 pj [iv b.g,iv (b.q+v.a),iv b.u,iv b.x]:=sH6
  have cb:=spj.cl
  have hfin:=(hB1.keep kx).set (by rw [List.length_set];exact hj) (epj ▸ kH6) (a:=⟨b.g,b.q+v.a,b.u,b.x⟩) (by rw [← epj];exact spj) (by rw [Vo hij,← eb])
  rw [ea,eb] at hfin
  refine ZN (by repeat' first | exact True.intro | exact (fun h=>h) | refine And.intro ?_ ?_ | (intro h;have h:(_:Nat)=_:=h;omega)) ?_
  exact And.intro trivial (Exists.intro _ (And.intro rfl ⟨rfl,hfin,epi ▸ epj ▸ hk⟩))
end
end
end Go.Ax

/-
 Pool: what happens (55) (written by program).
-/
namespace Go.Ax
open Go Go.RowKit Go.Proofs

noncomputable section
def YL (Pp:Nat→Nat) (n:Nat) (H H':Hp):Prop:=∃ l,Keep H H' l∧∀ b∈l,∃ i,i < n∧b=Pp i
theorem YL.of {Pp:Nat→Nat} {n:Nat} {H H':Hp} (k:Keep H H' []):YL Pp n H H':=⟨[],k,fun b h=>by cases h⟩
theorem YL.trans {Pp:Nat→Nat} {n:Nat} {H H1 H2:Hp} (h:YL Pp n H H1) (k:YL Pp n H1 H2):YL Pp n H H2:=by
 obtain ⟨l,h1,h2⟩:=h
 obtain ⟨m,k1,k2⟩:=k
 refine ⟨l ++ m,(h1.mono (fun x hx=>by simp [hx])).trans (k1.mono (fun x hx=>by simp [hx])),fun b hb=>?_⟩
 rcases List.mem_append.1 hb with q | q
 ·exact h2 b q
 ·exact k2 b q
theorem YL.cl {Pp:Nat→Nat} {n:Nat} {H H1:Hp} (h:YL Pp n H H1) {b:Nat} {cs:List Value} (c:Cl H b cs) (hb:∀ i,i < n→Pp i≠b):Cl H1 b cs:=by
 obtain ⟨l,h1,h2⟩:=h
 exact h1.cl c fun q=>by obtain ⟨i,hi,e⟩:=h2 b q;exact hb i hi e.symm
theorem YL.le {Pp:Nat→Nat} {n:Nat} {H H1:Hp} (h:YL Pp n H H1):H.next≤H1.next:=by obtain ⟨l,h1,_⟩:=h;exact h1.1
theorem YL.sl {Pp:Nat→Nat} {n:Nat} {H H1:Hp} (h:YL Pp n H H1) {a:Option Addr} {m cap:Nat} {cs:List Value} (c:Sl H a m cap cs) (hb:∀ b,a=some ⟨b,0,none⟩→∀ i,i < n→Pp i≠b):Sl H1 a m cap cs:=by
 obtain ⟨l,h1,h2⟩:=h
 exact h1.sl c fun b e q=>by obtain ⟨i,hi,e2⟩:=h2 b q;exact hb b e i hi e2.symm
theorem YL.keep {Pp:Nat→Nat} {n:Nat} {H0 H H1:Hp} (h:YL Pp n H H1) (k:Keep H0 H []) (hb:∀ i,i < n→H0.next≤Pp i):Keep H0 H1 []:=by
 obtain ⟨l,h1,h2⟩:=h
 exact k.new h1 fun b q=>by obtain ⟨i,hi,e⟩:=h2 b q;have:=hb i hi;right;omega
section
variable {kn:Kn} {lo:Nat} {H:Hp}
set_option maxRecDepth 100000 in
theorem ZeT {f mb c:Nat} {L:ML Int} {Pp:Nat→Nat} {al':List Ac} {v:Ev} (hok:okE v=true) (hvk:v.k=((0:Nat):Int)) (hlo:lo≤H.next) {m:Nat}
  (hcall:∀ H1,Keep H H1 []→∃ H2,FnX Try.prog kn lo 68 [.map (some mb),.agg (Ev.f v).toArray] H1 (.tuple #[]) H2∧Bok lo f mb L c Pp al' H2∧YL Pp m H1 H2) :
  ∃ H',FnX Try.prog kn lo 55 [.map (some mb),.agg (Ev.f v).toArray] H (.tuple #[]) H'∧Bok lo f mb L c Pp al' H'∧YL Pp m H H':=by
 have key:=Zr (kn:=kn) (lo:=lo) (H:=H) (args:=[.map (some mb),.agg (Ev.f v).toArray]) (Q:=fun w H'=>w=.tuple #[]∧Bok lo f mb L c Pp al' H'∧YL Pp m H H') Try.func55 B55 N55 Z55 L55 (by simp) ?_
 ·obtain ⟨w,H',h,rfl,q⟩:=key;exact ⟨H',h,q⟩
 have hk:=Keep.refl H []
 refine Zc<|Y7 (v:=.agg (Ev.f v).toArray) rfl ?_
 intro H1 kH1 nH1 c1
 have c1:Cl H1 H.next [iv v.k,iv v.g,iv v.t,iv v.a]:=c1
 have mH1:=kH1.1
 have hk:=hk.trans kH1
 refine Zb<|Zc<|WF (b:=H.next) (o:=0) rfl c1.rd (show row 4 _ _=some [iv v.k,iv v.g,iv v.t,iv v.a] from rfl) ?_
 obtain ⟨H2,fH2,kH2⟩:=Zbr (kn:=kn) (lo:=lo) (H:=H1) (e:=v) (by omega)
 rw [hok] at fH2
 refine Zs (v:=.bool false) (vs:=[.agg (Ev.f v).toArray]) rfl (Zh fH2) ?_
 have mH2:=kH2.1
 have hk:=hk.trans kH2
 have c1:=kH2.cl c1 (by simp)
 refine Zb<|ZR ?_
 first | refine Zl ?_ | skip
 refine Zc<|Za rfl<|Zg (v:=.func (.func 68) #[.map (some mb)] #[]) rfl (by kernel_rfl)<|Za rfl<|Zg (v:=.func (.func 69) #[.map (some mb)] #[]) rfl (by kernel_rfl)<|Zg (v:=.agg #[.func (.func 68) #[.map (some mb)] #[],.func (.func 69) #[.map (some mb)] #[]]) rfl (by kernel_rfl)<|W0 ?_
 intro H3 kH3 nH3 c3
 have c3:Cl H3 H2.next [.nilFunc,.nilFunc]:=c3
 have mH3:=kH3.1
 have hk:=hk.trans kH3
 have c1:=kH3.cl c1 (by simp)
 refine Vs (b:=H2.next) (o:=0) rfl rfl c3 (by omega) rfl rfl (by simp) ?_
 intro H4 kH4 nH4 sH4
 have mH4:=kH4.1
 have hk:=hk.new kH4 (fun b hb=>by simp at hb ⊢;omega)
 have c1:=kH4.cl c1 (by first | (simp;done) | (simp;omega))
 have c3:Cl H4 H2.next [.func (.func 68) #[.map (some mb)] #[],.func (.func 69) #[.map (some mb)] #[]]:=sH4
 refine Zb ?_
 first | refine Z2 ?_ | (refine YO ?_;refine Z2 ?_)
 refine Yl (b:=H.next) (o:=0) rfl<|ZP (b:=H.next) (o:=0) (v:=iv v.k) rfl c1.rd rfl<|Zbv (b:=H2.next) (o:=0) (k:=0) (j:=v.k) rfl rfl hvk (by decide)<|ZP (b:=H2.next) (o:=0) (v:=.func (.func 68) #[.map (some mb)] #[]) rfl c3.rd rfl<|YJ (b:=H.next) (o:=0) rfl c1.rd (show row 4 _ _=some [iv v.k,iv v.g,iv v.t,iv v.a] from rfl) ?_
 obtain ⟨H5,fH5,hb2,kp2⟩:=hcall H4 hk
 refine Yr (vs:=[.map (some mb),.agg (Ev.f v).toArray]) rfl (Zh fH5) ?_
 have mx:=kp2.le
 refine ZN (by repeat' first | exact True.intro | exact (fun h=>h) | refine And.intro ?_ ?_ | (intro h;have h:(_:Nat)=_:=h;omega)) ?_
 exact And.intro trivial (Exists.intro _ (And.intro rfl ⟨rfl,hb2,(YL.of hk).trans kp2⟩))
set_option maxRecDepth 100000 in
theorem Zet {f mb c:Nat} {L:ML Int} {Pp:Nat→Nat} {al':List Ac} {v:Ev} (hok:okE v=true) (hvk:v.k=((1:Nat):Int)) (hlo:lo≤H.next) {m:Nat}
  (hcall:∀ H1,Keep H H1 []→∃ H2,FnX Try.prog kn lo 69 [.map (some mb),.agg (Ev.f v).toArray] H1 (.tuple #[]) H2∧Bok lo f mb L c Pp al' H2∧YL Pp m H1 H2) :
  ∃ H',FnX Try.prog kn lo 55 [.map (some mb),.agg (Ev.f v).toArray] H (.tuple #[]) H'∧Bok lo f mb L c Pp al' H'∧YL Pp m H H':=by
 have key:=Zr (kn:=kn) (lo:=lo) (H:=H) (args:=[.map (some mb),.agg (Ev.f v).toArray]) (Q:=fun w H'=>w=.tuple #[]∧Bok lo f mb L c Pp al' H'∧YL Pp m H H') Try.func55 B55 N55 Z55 L55 (by simp) ?_
 ·obtain ⟨w,H',h,rfl,q⟩:=key;exact ⟨H',h,q⟩
 have hk:=Keep.refl H []
 refine Zc<|Y7 (v:=.agg (Ev.f v).toArray) rfl ?_
 intro H1 kH1 nH1 c1
 have c1:Cl H1 H.next [iv v.k,iv v.g,iv v.t,iv v.a]:=c1
 have mH1:=kH1.1
 have hk:=hk.trans kH1
 refine Zb<|Zc<|WF (b:=H.next) (o:=0) rfl c1.rd (show row 4 _ _=some [iv v.k,iv v.g,iv v.t,iv v.a] from rfl) ?_
 obtain ⟨H2,fH2,kH2⟩:=Zbr (kn:=kn) (lo:=lo) (H:=H1) (e:=v) (by omega)
 rw [hok] at fH2
 refine Zs (v:=.bool false) (vs:=[.agg (Ev.f v).toArray]) rfl (Zh fH2) ?_
 have mH2:=kH2.1
 have hk:=hk.trans kH2
 have c1:=kH2.cl c1 (by simp)
 refine Zb<|ZR ?_
 first | refine Zl ?_ | skip
 refine Zc<|Za rfl<|Zg (v:=.func (.func 68) #[.map (some mb)] #[]) rfl (by kernel_rfl)<|Za rfl<|Zg (v:=.func (.func 69) #[.map (some mb)] #[]) rfl (by kernel_rfl)<|Zg (v:=.agg #[.func (.func 68) #[.map (some mb)] #[],.func (.func 69) #[.map (some mb)] #[]]) rfl (by kernel_rfl)<|W0 ?_
 intro H3 kH3 nH3 c3
 have c3:Cl H3 H2.next [.nilFunc,.nilFunc]:=c3
 have mH3:=kH3.1
 have hk:=hk.trans kH3
 have c1:=kH3.cl c1 (by simp)
 refine Vs (b:=H2.next) (o:=0) rfl rfl c3 (by omega) rfl rfl (by simp) ?_
 intro H4 kH4 nH4 sH4
 have mH4:=kH4.1
 have hk:=hk.new kH4 (fun b hb=>by simp at hb ⊢;omega)
 have c1:=kH4.cl c1 (by first | (simp;done) | (simp;omega))
 have c3:Cl H4 H2.next [.func (.func 68) #[.map (some mb)] #[],.func (.func 69) #[.map (some mb)] #[]]:=sH4
 refine Zb ?_
 first | refine Z2 ?_ | (refine YO ?_;refine Z2 ?_)
 refine Yl (b:=H.next) (o:=0) rfl<|ZP (b:=H.next) (o:=0) (v:=iv v.k) rfl c1.rd rfl<|Zbv (b:=H2.next) (o:=0) (k:=1) (j:=v.k) rfl rfl hvk (by decide)<|ZP (b:=H2.next) (o:=1) (v:=.func (.func 69) #[.map (some mb)] #[]) rfl c3.rd rfl<|YJ (b:=H.next) (o:=0) rfl c1.rd (show row 4 _ _=some [iv v.k,iv v.g,iv v.t,iv v.a] from rfl) ?_
 obtain ⟨H5,fH5,hb2,kp2⟩:=hcall H4 hk
 refine Yr (vs:=[.map (some mb),.agg (Ev.f v).toArray]) rfl (Zh fH5) ?_
 have mx:=kp2.le
 refine ZN (by repeat' first | exact True.intro | exact (fun h=>h) | refine And.intro ?_ ?_ | (intro h;have h:(_:Nat)=_:=h;omega)) ?_
 exact And.intro trivial (Exists.intro _ (And.intro rfl ⟨rfl,hb2,(YL.of hk).trans kp2⟩))
theorem ZbX {f mb c:Nat} {L:ML Int} {Pp:Nat→Nat} {al:List Ac} (hB:Bok lo f mb L c Pp al H) {v:Ev} {Bd:Int} (hac:∀ a∈al,Ua Bd a) (hBd:Bd≤329853488332800) (hlo:lo≤H.next) (h0:(stp al v).2=0) :
  ∃ H',FnX Try.prog kn lo 55 [.map (some mb),.agg (Ev.f v).toArray] H (.tuple #[]) H'∧Bok lo f mb L c Pp (stp al v).1 H'∧YL Pp al.length H H':=by
 cases he:okE v with
 | false=>rw [yI he] at h0;cases h0
 | true=>
  have ht:=Zfy he
  cases h1:fI al v.g with
  | none=>rw [KJ he h1] at h0;cases h0
  | some i=>
   obtain ⟨hi,hx⟩:=Kg h1
   have ai:=Xt (z:=Ac.z) hac hi
   by_cases hk0:v.k=0
   ·rw [Jy he h1 hk0]
    refine ZeT he hk0 hlo fun H1 k1=>?_
    obtain ⟨H2,f2,b2,k2⟩:=Zdh (kn:=kn) (lo:=lo) (H:=H1) (hB.keep k1) hi hx ai hBd ht.2.2.2.1 ht.2.2.2.2 (by have:=k1.1;omega)
    exact ⟨H2,f2,b2,[Pp i],k2,fun b hb=>⟨i,hi,by simpa using hb⟩⟩
   ·cases h2:fI al v.t with
    | none=>rw [JD he h1 hk0 h2] at h0;cases h0
    | some j=>
     obtain ⟨hj,hy⟩:=Kg h2
     have aj:=Xt (z:=Ac.z) hac hj
     by_cases hij:i=j
     ·subst hij;rw [Jw he h1 hk0 h2] at h0;cases h0
     ·by_cases hs:(al.getD i Ac.z).q - (al.getD i Ac.z).u < v.a
      ·rw [Jt he h1 hk0 h2 hij hs] at h0;cases h0
      ·rw [JE he h1 hk0 h2 hij hs]
       have hk1:v.k=((1:Nat):Int):=by rcases ht.1 with z | z;exact absurd z hk0;exact z.1
       refine Zet he hk1 hlo fun H1 k1=>?_
       obtain ⟨H2,f2,b2,k2⟩:=ZdJ (kn:=kn) (lo:=lo) (H:=H1) (hB.keep k1) hi hx ai hBd ht.2.2.2.1 ht.2.2.2.2 (by have:=k1.1;omega) hs hj hy aj hij
       exact ⟨H2,f2,b2,[Pp i,Pp j],k2,fun b hb=>by
        simp at hb
        rcases hb with e | e
        ·exact ⟨i,hi,e⟩
        ·exact ⟨j,hj,e⟩⟩
end
end
end Go.Ax

/-
 Pool: events are played (34,54) (written by program).
-/
namespace Go.Ax
open Go Go.RowKit Go.Proofs

noncomputable section
theorem N34:Try.f34.ntmps=22:=by kernel_rfl
theorem Z34:Try.f34.results.toList=((List.toArray [(.tmp 4),(.cell 5 28)]):Array ResultVar).toList:=by kernel_rfl
theorem B34:Try.f34.body=some (at_ Try.f34 []):=by kernel_rfl
def R34x1:RC:=(.seq (.seq (.reg [oM 9 1,oW 10 9,oN 11 0])
 (.block 0 (.other (at_ Try.f34 [1,1,0,1,0]))))
 (.seq (.reg [oM 21 4,oM 4 21,⟨none,none,(.st (.tmp 5) (.const (.int .i64 0)))⟩])
 .ret))
theorem ZgP:low Try.prog 22 (at_ Try.f34 [1,1])=some R34x1:=by kernel_rfl
theorem ZhL:at_ Try.f34 [1,1,0,1,0]=.loop (at_ Try.f34 [1,1,0,1,0,0]):=by kernel_rfl
def R34x2:RC:=(.seq (.reg [⟨some 12,none,(.cmp .lss (.tmp 11) (.tmp 10))⟩])
 (.seq (.cond (.tmp 12) .skip
 (.exit 0))
 (.seq (.block 1 (.seq (.reg [oI 13 9 11 4,oD 14 13 4,⟨some 7,none,(.alc 49 [(.int .i64 0),(.int .i64 0),(.int .i64 0),(.int .i64 0)])⟩,⟨none,none,(.sta (.tmp 7) (.tmp 14) 4)⟩])
 (.seq (.reg [oM 15 0,oD 16 7 4,oC 17 55 #[(.tmp 15),(.tmp 16)] #[69,49]])
 (.reg [oM 18 4,oR 19 .add 18 1,oM 4 19]))))
 (.reg [oR 20 .add 11 1,oM 11 20]))))
theorem Ziw:low Try.prog Try.f34.ntmps (at_ Try.f34 [1,1,0,1,0,0])=some R34x2:=by kernel_rfl
theorem Zi9:at_ Try.f34 []=.seq (at_ Try.f34 [0]) (at_ Try.f34 [1]):=by kernel_rfl
theorem Zjr:at_ Try.f34 [1]=.seq (at_ Try.f34 [1,0]) (at_ Try.f34 [1,1]):=by kernel_rfl
theorem Zjn:at_ Try.f34 [0]=.region 0 (V6 (at_ Try.f34 [0])) false:=by kernel_rfl
theorem Zjj:Qj Try.prog 22 (V6 (at_ Try.f34 [0])).toList (V6 (at_ Try.f34 [0])).toList=some [(.ro ⟨(some 4),none,(.mov (.const (.int .i64 0)))⟩),(.ro ⟨(some 5),none,(.alc 28 [(.int .i64 0)])⟩)]:=by kernel_rfl
theorem ZiU:at_ Try.f34 [1,0]=.region 1 (V6 (at_ Try.f34 [1,0])) false:=by kernel_rfl
theorem Zjb : Qj Try.prog 22 (V6 (at_ Try.f34 [1, 0])).toList (V6 (at_ Try.f34 [1, 0])).toList = some [(.ro ⟨(some 8), none, (.pur ⟨(some 8), (.makeFunc (.func 54) (List.toArray []) (List.toArray [(.tmp 5)])), 1, "", (List.toArray []), none⟩)⟩), (.dfr none ⟨(.value (.tmp 8)), (List.toArray []), (List.toArray [])⟩)] := by kernel_rfl
theorem Zi0:at_ Try.f54 []=.seq (at_ Try.f54 [0]) (at_ Try.f54 [1]):=by kernel_rfl
theorem Zjc:at_ Try.f54 [1]=.seq (at_ Try.f54 [1,0]) (at_ Try.f54 [1,1]):=by kernel_rfl
theorem C54:at_ Try.f54 [1,1]=.cond (.tmp 8) (at_ Try.f54 [1,1,0]) (at_ Try.f54 [1,1,1]):=by kernel_rfl
theorem K54:at_ Try.f54 [1,1,1]=.skip:=by kernel_rfl
theorem Zi8:at_ Try.f54 [0]=.region 0 (V6 (at_ Try.f54 [0])) false:=by kernel_rfl
theorem Zi5 : Qk Try.prog 10 (V6 (at_ Try.f54 [0])).toList (V6 (at_ Try.f54 [0])).toList = some [(.rcv (some 4)), (.ro ⟨(some 5), none, (.pur ⟨(some 5), (.typeAssert (.tmp 4) 20 28 true), 92, "", (List.toArray []), none⟩)⟩), (.ro ⟨(some 3), none, (.mov (.tmp 5))⟩), (.ro ⟨(some 6), none, (.pur ⟨(some 6), (.extract (.tmp 3) 0), 28, "", (List.toArray []), none⟩)⟩), (.ro ⟨(some 7), none, (.pur ⟨(some 7), (.extract (.tmp 3) 1), 4, "", (List.toArray []), none⟩)⟩), (.ro ⟨(some 1), none, (.mov (.tmp 6))⟩), (.ro ⟨(some 2), none, (.mov (.tmp 7))⟩)] := by kernel_rfl
theorem Zjq:at_ Try.f54 [1,0]=.region 1 (V6 (at_ Try.f54 [1,0])) false:=by kernel_rfl
theorem Zjw:Qk Try.prog 10 (V6 (at_ Try.f54 [1,0])).toList (V6 (at_ Try.f54 [1,0])).toList=some [(.ro ⟨(some 8),none,(.mov (.tmp 2))⟩)]:=by kernel_rfl
theorem a28:X3 Try.prog 28=some false:=by kernel_rfl
theorem Zf2 {P:Program} {S:Rg} {H:Hp} {a b y:Nat} {u:TypeId} {w v:Value} (ha:lk S a=some w) (hb:lk S b=some (.pointer (some ⟨y,0,none⟩))) (h2:X3 P u=some false) (h':Cl H y [v]) :
  Wg P S H [.tmp a,.cell b u]=some [w,v]:=by
 simp only [Wg,ha,hb,ZcN h2 h'.rd]
theorem Zf7 {P:Program} {kn:Kn} {lo n:Nat} {rd:Bool} {r:List RP} {S:Rg} {H:Hp} {D:List Deferred} {d:Option Nat} {K:Exit→Rg→Hp→List Deferred→Prop} {e:TypeId} {z:List Value} (h:∀ H1,Keep H H1 []→H1.next=H.next+1→Cl H1 H.next z→Vl P kn lo n rd r (Zt S d (.pointer (some ⟨H.next,0,none⟩))) H1 D K):Vl P kn lo n rd (.ro ⟨d,none,.alc e z⟩ :: r) S H D K:=.inl (by
 simp only [wRO,wRI]
 intro H1 hH1
 obtain ⟨k1,n1,c1⟩:=ZL hH1
 exact h H1 k1 n1 c1)
theorem YL.new {Pp:Nat→Nat} {n b:Nat} {H H1 H2:Hp} (h:YL Pp n H H1) (k:Keep H1 H2 [b]) (hb:H.next≤b):YL Pp n H H2:=by
 obtain ⟨l,h1,h2⟩:=h
 exact ⟨l,h1.new k (fun x hx=>.inr (by simp at hx;omega)),h2⟩
section
variable {kn:Kn} {lo:Nat} {H:Hp}
theorem Zaq {b:Nat}:ZdD Try.prog kn lo 54 [.pointer (some ⟨b,0,none⟩)] H none none H:=by
 have key:∃ H',ZdD Try.prog kn lo 54 [.pointer (some ⟨b,0,none⟩)] H none none H'∧H'=H:=?_
 ·obtain ⟨H',h,rfl⟩:=key;exact h
 refine Zer (P:=Try.prog) (kn:=kn) (lo:=lo) (args:=[.pointer (some ⟨b,0,none⟩)]) (H:=H) (p:=none) (p':=none) (Q:=fun H'=>H'=H) Try.func54 B54 (by rw [N54];simp) (by rw [Z54]) ?_
 rw [N54]
 refine VV.seq Zi0 (VV.reg Zi8 Zi5 ?_)
 refine And.intro rfl (Exists.intro (.tuple #[iv 0,.bool false]) (And.intro (by kernel_rfl) ?_))
 refine And.intro rfl (Exists.intro (iv 0) (And.intro (by kernel_rfl) ?_))
 refine And.intro rfl (Exists.intro (.bool false) (And.intro (by kernel_rfl) ?_))
 refine VV.seq Zjc (VV.reg Zjq Zjw ?_)
 refine VV.cond C54 (t:=false) rfl (fun e=>by cases e) (fun _=>VV.skip K54 ?_)
 exact ⟨.inl rfl,rfl,rfl⟩
set_option maxRecDepth 100000 in
set_option maxHeartbeats 1000000 in
theorem Zep {f mb c:Nat} {L:ML Int} {Pp:Nat→Nat} {al:List Ac} (hB:Bok lo f mb L c Pp al H) {vs:List Ev} {ea:Option Addr} {m ecap:Nat} (hs:Sl H ea m ecap (evc vs)) (hm:vs.length=m) (hm2:m≤256) (hal:∀ a∈al,Ua 1099511627776 a) (hok:∀ j,j < m→(stp (stA al vs j) (vs.getD j Ev.z)).2=0) {H0:Hp} (hF:H0.next≤H.next) (hP0':∀ i,i < al.length→H0.next≤Pp i) (hold:∀ b,ea=some ⟨b,0,none⟩→b < H0.next) (hlo:lo≤H0.next):∃ H',FnX Try.prog kn lo 34 [.map (some mb),.slice ea m ecap] H (.tuple #[iv m,iv 0]) H'∧Bok lo f mb L c Pp (stA al vs m) H'∧YL Pp al.length H H':=by
 have key:=jH (P:=Try.prog) (kn:=kn) (lo:=lo) (args:=[.map (some mb),.slice ea m ecap]) (H:=H) (Q:=fun w H'=>w=.tuple #[iv m,iv 0]∧Bok lo f mb L c Pp (stA al vs m) H'∧YL Pp al.length H H') Try.func34 B34 (by rw [N34];simp) ?_
 ·obtain ⟨w,H',h,rfl,q⟩:=key;exact ⟨H',h,q⟩
 rw [N34,Z34]
 have hup:∀ i,i < al.length→Pp i < H.next:=fun i hi=>(hB.cl i hi).1
 have hmb:=hB.mq.1
 have hlow:∀ i,i < al.length→H0.next≤Pp i:=hP0'
 have fs:∀ b,ea=some ⟨b,0,none⟩→b < H0.next:=hold
 refine V4.seqRR Zi9 (jj Zjn Zjj ?_)
 refine Zgd rfl (Zf7 fun H1 k1 n1 c1=>?_)
 refine V4.seqRR Zjr (jj ZiU Zjb ?_)
 refine Zgw (v:=.func (.func 54) #[] #[.pointer (some ⟨H.next,0,none⟩)]) rfl (by kernel_rfl) ?_
 refine And.intro rfl ?_
 have hB:=hB.keep k1
 have hs:=k1.sl0 hs
 have ce:Cl H1 H.next [iv 0]:=c1
 have m1:=k1.1
 refine V4.of (Y3 _ _ ZgP ?_)
 refine Zc<|Za rfl<|YG (m:=m) rfl<|Za rfl<|Zb ?_
 refine Zx (fn:=Try.f34) ZhL N34 Ziw (fun i:Nat=>[(0,.map (some mb)),(4,iv (i:Int)),(5,pt H.next),(9,.slice ea m ecap),(10,iv (m:Int)),(11,iv (i:Int))])
  (fun k i H'=>i+k=m∧YL Pp al.length H1 H'∧Bok lo f mb L c Pp (stA al vs i) H'∧Cl H' H.next [iv 0]∧Sl H' ea m ecap (evc vs)) m 0 ⟨by omega,YL.of (Keep.refl _ _),hB,ce,hs⟩ ⟨rfl,rfl,rfl,rfl,rfl,rfl,trivial⟩ ?_
 rintro k i L1 ⟨hik,kp,hB,ce,hs⟩
 have mL:=kp.le;have kacc:=Keep.refl L1 []
 refine Zc<|ZF (a:=(i:Int)) (b:=(m:Int)) rfl rfl<|Zb ?_
 refine And.intro (fun q1=>?_) (fun q1=>?_)
 ·have q1:(i:Int) < (m:Int):=of_decide_eq_true q1
  have hi:i < m:=by omega
  rcases id hs with ⟨_,h0s,_⟩ | ⟨sb,es,rs,_⟩
  ·omega
  have ls:=rs.1
  have lsb2:=fs sb es
  first | refine Zl ?_ | skip
  refine Zc<|W8 (b:=sb) (o:=0) (k:=i) (j:=(i:Int)) (by rw [← es];rfl) rfl rfl hi<|WF (b:=sb) (o:=0+i * 4) rfl rs (Zc8 (by omega))<|W0 ?_
  intro H2 kH2 nH2 c2
  have c2:Cl H2 L1.next [iv 0,iv 0,iv 0,iv 0]:=c2
  have mH2:=kH2.1
  have kacc:=kacc.trans kH2
  have ce:=kH2.cl ce (by simp)
  have hs:=kH2.sl0 hs
  have hB:=hB.keep kH2
  have rs:=kH2.rd rs (by simp)
  refine Vs (b:=L1.next) (o:=0) rfl rfl c2 (by omega) rfl rfl (by simp) ?_
  intro H3 kH3 nH3 sH3
  have mH3:=kH3.1
  have kacc:=kacc.new kH3 (fun b hb=>by simp at hb ⊢;omega)
  have ce:=kH3.cl ce (by first | (simp;done) | (simp;omega))
  have hs:=kH3.sl hs (fun b e=>by have:=fs b e;first | (simp;done) | (simp;omega))
  have hB:=hB.keepW kH3 (by omega) (fun j hj=>by have:=hup j (by rw [QN] at hj;exact hj);omega)
  have rs:=kH3.rd rs (by first | (simp;done) | (simp;omega))
  have c2:Cl H3 L1.next [iv ((vs.getD i Ev.z).k),iv ((vs.getD i Ev.z).g),iv ((vs.getD i Ev.z).t),iv ((vs.getD i Ev.z).a)]:=sH3
  refine Zb<|Zc<|Za rfl<|WF (b:=L1.next) (o:=0) rfl c2.rd (show row 4 _ _=some [iv ((vs.getD i Ev.z).k),iv ((vs.getD i Ev.z).g),iv ((vs.getD i Ev.z).t),iv ((vs.getD i Ev.z).a)] from rfl) ?_
  have hac:=ZdO (vs:=vs) hal i
  obtain ⟨H4,fH4,hB2,kq⟩:=ZbX (kn:=kn) (lo:=lo) (H:=H3) hB hac (by omega) (by omega) (hok i hi)
  refine Zs (vs:=[.map (some mb),.agg (Ev.f (vs.getD i Ev.z)).toArray]) rfl (Zh fH4) ?_
  rw [QN] at kq
  have kp2:=(kp.trans (YL.of kacc)).trans kq
  have mH4:=kq.le
  have ce:=kq.cl ce (fun j hj=>by have:=hup j hj;omega)
  have hs:=kq.sl hs (fun b e j hj=>by have:=fs b e;have:=hlow j hj;omega)
  refine Zb ?_
  show Zp _ _ _ _ _ _ _ _
  refine Za rfl<|Zy (a:=(i:Int)) (b:=1) rfl rfl ⟨by omega,by omega⟩<|Za rfl<|Zb ?_
  show Zp _ _ _ _ _ _ _ _
  refine Zy (a:=(i:Int)) (b:=1) rfl rfl ⟨by omega,by omega⟩<|Za rfl<|Zb ?_
  exact ⟨k - 1,i+1,by omega,⟨by omega,kp2,hB2,ce,hs⟩,rfl,rfl,rfl,rfl,rfl,rfl,trivial⟩
 ·have q1:¬ ((i:Int) < (m:Int)):=of_decide_eq_false q1
  have kfin:=(YL.of k1).trans kp
  first | (refine ZC ?_;show wC _ _ _ _ _ _ _ _ _) | skip
  refine Zc<|Za rfl<|Za rfl<|ZcB (b:=H.next) (o:=0) rfl rfl ce (by omega) rfl rfl (by simp) ?_
  intro H5 kH5 nH5 sH5
  have mH5:=kH5.1
  have hs:=kH5.sl hs (fun b e=>by have:=fs b e;first | (simp;done) | (simp;omega))
  have hB:=hB.keepW kH5 (by omega) (fun j hj=>by have:=hup j (by rw [QN] at hj;exact hj);omega)
  have kfin:=kfin.new kH5 (by omega)
  have ce:Cl H5 H.next [iv 0]:=sH5
  refine Zb ?_
  have eim:i=m:=by omega
  subst eim
  exact ⟨54,#[.pointer (some ⟨H.next,0,none⟩)],rfl,Or.inl ⟨Or.inr rfl,H5,Zaq,_,Zf2 rfl rfl a28 ce,rfl,hB,kfin⟩⟩
end
end
end Go.Ax

/-
 Pool: the book opened;all accounts (33,35) (written by program).
-/
namespace Go.Ax
open Go Go.RowKit Go.Proofs

noncomputable section
theorem ZeG {P:Program} {kn:Kn} {lo n:Nat} {r:List RO} {S:Rg} {H:Hp} {K:Rg→Hp→Prop} {d:Option Nat} {x:Operand} {e:TypeId} {v:Value} (hx:evS S x=some v) (h:∀ H1,Keep H H1 []→H1.next=H.next+1→Sc H1 H.next v.cells.toList→Zo P kn lo n r (Zt S d (.pointer (some ⟨H.next,0,none⟩))) H1 K):Zo P kn lo n (⟨d,none,.box e x⟩ :: r) S H K:=by
 simp only [Zo,Xf,Xh,wRI,hx]
 intro H1 hH1
 obtain ⟨k1,n1,_⟩:=ZL hH1
 exact h H1 k1 n1 (ZfW hH1)
def acQ (q:Qt):Ac:=⟨q.g,q.a,0,0⟩
def acs (l:List Qt):List Ac:=l.map acQ
theorem Kf {l:List Qt}:(acs l).length=l.length:=by simp [acs]
theorem Zcq {l:List Qt} {i:Nat} (h:i < l.length):(acs l).getD i Ac.z=acQ (l.getD i Qt.z):=by
 unfold acs
 rw [List.getD_eq_getElem?_getD,List.getElem?_map,List.getD_eq_getElem?_getD,List.getElem?_eq_getElem h];rfl
theorem Zb9 {α:Type} {l:List α} {i j:Nat} {z:α} (h:j < i):(l.take i).getD j z=l.getD j z:=by
 rw [List.getD_eq_getElem?_getD,List.getD_eq_getElem?_getD,List.getElem?_take,if_pos h]
theorem Uq {α:Type} {l:List α} {i:Nat} {a z:α} (h:i < l.length):(l ++ [a]).getD i z=l.getD i z:=by
 rw [List.getD_eq_getElem?_getD,List.getD_eq_getElem?_getD,List.getElem?_append_left h]
theorem Um {α:Type} {l:List α} {a z:α}:(l ++ [a]).getD l.length z=a:=by
 rw [List.getD_eq_getElem?_getD,List.getElem?_append_right (Nat.le_refl _)];simp
theorem Bok.nil {lo f mb:Nat} {P:Nat→Nat} {H:Hp} (h:Mqa iv H mb ([]:ML Int) 0) (h1:lo≤mb) (h2:f≤mb):Bok lo f mb [] 0 P [] H:=
 ⟨h,WfA.nil,(fun i h=>by cases h),(fun x _=>rfl),(fun i h=>by cases h),(fun i j h=>by cases h),(fun i h=>by cases h),h1,h2⟩
theorem Bok.add {lo f mb b:Nat} {L:ML Int} {c:Nat} {P:Nat→Nat} {al:List Ac} {H H1 H2:Hp} {a:Ac} (h:Bok lo f mb L c P al H) (k1:Keep H H1 []) (hs:Sc H1 b (Ac.f a)) (hb:H.next≤b) (hlb:lo≤b) (hf:f≤b) (hno:∀ i,i < al.length→(al.getD i Ac.z).g≠a.g)
  (k2:Keep H1 H2 [mb]) (hm:Mqa iv H2 mb (Y6 a.g (.pointer (some ⟨b,0,none⟩)) c L) (YY a.g c L)):Bok lo f mb (Y6 a.g (.pointer (some ⟨b,0,none⟩)) c L) (YY a.g c L) (fun j=>if j=al.length then b else P j) (al ++ [a]) H2:=by
 have hmb:=h.mq.1
 have hP:∀ i,i < al.length→P i < H.next:=fun i hi=>(h.cl i hi).1
 refine ⟨hm,h.wf.put _ _,fun j hj=>?_,fun x hx=>?_,fun j hj=>?_,fun i j hi hj e=>?_,fun j hj=>?_,h.lm⟩<;>(try rw [List.length_append,List.length_singleton] at hj)
 ·by_cases q:j=al.length
  ·subst q;rw [Um,VK,if_pos rfl];simp
  ·have hj2:j < al.length:=by omega
   rw [Uq hj2,VK,if_neg (hno j hj2),h.val j hj2]
   simp [q]
 ·have h1:=hx al.length (by simp)
  rw [Um] at h1
  rw [VK,if_neg (fun e=>h1 e.symm)]
  exact h.no x fun i hi=>by have:=hx i (by simp;omega);rw [Uq hi] at this;exact this
 ·by_cases q:j=al.length
  ·subst q;rw [Um,if_pos rfl];exact k2.sc hs (by simp;omega)
  ·have hj2:j < al.length:=by omega
   rw [Uq hj2,if_neg q]
   exact k2.sc (k1.sc (h.cl j hj2) (by simp)) (by have:=(h.lw j hj2).2.2;simpa using this)
 ·rw [List.length_append,List.length_singleton] at hi
  by_cases q:i=al.length<;>by_cases q2:j=al.length
  ·omega
  ·rw [if_pos q,if_neg q2] at e;have:=hP j (by omega);omega
  ·rw [if_neg q,if_pos q2] at e;have:=hP i (by omega);omega
  ·rw [if_neg q,if_neg q2] at e;exact h.inj i j (by omega) (by omega) e
 ·by_cases q:j=al.length
  ·rw [if_pos q];exact ⟨hlb,hf,by omega⟩
  ·rw [if_neg q];exact h.lw j (by omega)
theorem Bok.keys {lo f mb:Nat} {L:ML Int} {c:Nat} {P:Nat→Nat} {al:List Ac} {H:Hp} (h:Bok lo f mb L c P al H) (hr:(al.map (·.g)).Pairwise (· < ·)) {ys:List Int} (hp:ys.Perm (L.map (·.1))) (hs:ys.Pairwise (·≤·)):ys=al.map (·.g):=by
 have hn:(al.map (·.g)).Nodup:=hr.imp fun q e=>by omega
 have hmem:∀ x,x∈L.map (·.1)↔x∈al.map (·.g):=fun x=>by
  rw [← Ut]
  constructor
  ·intro q
   refine Classical.byContradiction fun z=>?_
   rw [h.no x fun i hi e=>z (List.mem_map.2 ⟨al.getD i Ac.z,by rw [List.getD_eq_getElem?_getD,List.getElem?_eq_getElem hi];exact List.getElem_mem hi,e⟩)] at q
   cases q
  ·intro q
   obtain ⟨a,ha,e⟩:=List.mem_map.1 q
   obtain ⟨i,hi,e2⟩:=List.mem_iff_getElem.1 ha
   have:=h.val i hi
   rw [List.getD_eq_getElem?_getD,List.getElem?_eq_getElem hi] at this
   have e3:((some al[i]).getD Ac.z).g=x:=by rw [e2];exact e
   rw [e3] at this
   rw [this];rfl
 have hp2:ys.Perm (al.map (·.g)):=hp.trans (VL h.wf.keys hn hmem)
 exact List.Perm.eq_of_pairwise (le:=fun x y:Int=>x≤y) (fun x y _ _ h1 h2=>by omega) hs (hr.imp fun q=>by omega) hp2
theorem Bok.len {lo f mb:Nat} {L:ML Int} {c:Nat} {P:Nat→Nat} {al:List Ac} {H:Hp} (h:Bok lo f mb L c P al H):L.length≤al.length:=by
 have:=Xy (D:=L.map (·.1)) (L:=al.map (·.g)) h.wf.keys fun x hx=>by
  refine Classical.byContradiction fun z=>?_
  have q:=Ut.2 hx
  rw [h.no x fun i hi e=>z (List.mem_map.2 ⟨al.getD i Ac.z,by rw [List.getD_eq_getElem?_getD,List.getElem?_eq_getElem hi];exact List.getElem_mem hi,e⟩)] at q
  cases q
 simpa using this
theorem ZhI:ZT Try.prog 37=some (47,4):=by kernel_rfl
theorem Zi2:Yt Try.prog 47=some (.agg #[iv 0,iv 0,iv 0,iv 0]):=by kernel_rfl
theorem ZiP:Try.prog.underlying 37=some (.slice 47):=by kernel_rfl
section
variable {kn:Kn} {lo:Nat} {H:Hp}
set_option maxRecDepth 100000 in
set_option maxHeartbeats 1000000 in
theorem Zex (s:Snd Try.prog kn) {qs:List Qt} {sa:Option Addr} {n cap:Nat} (hs:Sl H sa n cap (qtc qs)) (hl:qs.length=n) (hn:n≤260) (hd:∀ i j,i < j→j < n→(qs.getD i Qt.z).g≠(qs.getD j Qt.z).g) (hlo:lo≤H.next) :
  FnM Try.prog lo 33 [.slice sa n cap] H fun v H'=>∃ mb L c Pp,v=.map (some mb)∧Bok lo H.next mb L c Pp (acs qs) H'∧Keep H H' []:=by
 refine WP s Try.func33 B33 N33 Z33 L33 (by simp) ?_
 have hk:=Keep.refl H []
 have fs:=hs.old
 refine Zm<|Zd rfl<|Zi<|Zm<|qJ (enc:=iv) ?_
 intro H1 kH1 nH1 hmq
 have mH1:=kH1.1
 have hk:=hk.trans kH1
 have hs:=kH1.sl0 hs
 refine Zd rfl<|Zi<|Zm<|Zd rfl<|Jz (m:=n) rfl<|Zd rfl<|Zi ?_
 refine Wl s (fn:=Try.f33) ZhD N33 Zhg (fun i:Nat=>[(3,.map (some H.next)),(7,.slice sa n cap),(8,iv (n:Int)),(9,iv (i:Int))])
  (fun k i H'=>i+k=n∧Keep H H' []∧H1.next≤H'.next∧Sl H' sa n cap (qtc qs)∧∃ L c Pp,Bok lo H.next H.next L c Pp ((acs qs).take i) H') n 0 ⟨by omega,hk,Nat.le_refl _,hs,[],0,(fun _=>0),Bok.nil hmq hlo (Nat.le_refl _)⟩ ⟨rfl,rfl,rfl,rfl,trivial⟩ ?_
 rintro k i L1 ⟨hik,hk,hnx,hs,L,c,Pp,hB⟩
 have mk:=hk.1;have kacc:=Keep.refl L1 []
 refine Zm<|UG (a:=(i:Int)) (b:=(n:Int)) rfl rfl<|Zi ?_
 refine And.intro (fun q1=>?_) (fun q1=>?_)
 ·have q1:(i:Int) < (n:Int):=of_decide_eq_true q1
  have hi:i < n:=by omega
  rcases id hs with ⟨_,h0s,_⟩ | ⟨sb,es,rs,_⟩
  ·omega
  have ls:=rs.1
  have lsb2:=fs sb es
  first | refine Z8 ?_ | skip
  refine Zm<|yn (b:=sb) (o:=0) (k:=i) (j:=(i:Int)) (by rw [← es];rfl) rfl rfl hi<|YW (b:=sb) (o:=0+i * 3) rfl rs (Up (by omega))<|qz ?_
  intro H2 kH2 nH2 c2
  have c2:Cl H2 L1.next [iv 0,iv 0,iv 0]:=c2
  have mH2:=kH2.1
  have hk:=hk.trans kH2
  have hs:=kH2.sl0 hs
  have kacc:=kacc.trans kH2
  have rs:=kH2.rd rs (by simp)
  refine qd (b:=L1.next) (o:=0) rfl rfl c2 (by omega) rfl rfl (by simp) ?_
  intro H3 kH3 nH3 sH3
  have mH3:=kH3.1
  have hk:=hk.new kH3 (fun b hb=>by simp at hb ⊢;omega)
  have hs:=kH3.sl hs (fun b e=>by have:=fs b e;first | (simp;done) | (simp;omega))
  have kacc:=kacc.new kH3 (fun b hb=>by simp at hb ⊢;omega)
  have rs:=kH3.rd rs (by first | (simp;done) | (simp;omega))
  have c2:Cl H3 L1.next [iv ((qs.getD i Qt.z).g),iv ((qs.getD i Qt.z).b),iv ((qs.getD i Qt.z).a)]:=sH3
  refine Zi ?_
  show Zo _ _ _ _ _ _ _ _
  refine Zd rfl<|Xn (b:=L1.next) (o:=0) rfl<|WB (b:=L1.next) (o:=0) (v:=iv ((qs.getD i Qt.z).g)) rfl c2.rd rfl<|Xn (b:=L1.next) (o:=0) rfl<|WB (b:=L1.next) (o:=0) (v:=iv ((qs.getD i Qt.z).g)) rfl c2.rd rfl<|Xn (b:=L1.next) (o:=0) rfl<|WB (b:=L1.next) (o:=2) (v:=iv ((qs.getD i Qt.z).a)) rfl c2.rd rfl<|Zk (v:=.agg #[iv ((qs.getD i Qt.z).g),iv ((qs.getD i Qt.z).a),iv 0,iv 0]) rfl (by kernel_rfl)<|ZeG rfl ?_
  intro H4 kH4 nH4 sb2
  have mH4:=kH4.1
  have hk:=hk.trans kH4
  have hs:=kH4.sl0 hs
  have kacc:=kacc.trans kH4
  have rs:=kH4.rd rs (by simp)
  have c2:=kH4.cl c2 (by simp)
  have hmq1:=(hB.keep kacc).mq
  refine ZeJ (enc:=iv) ym Zdw (a:=(qs.getD i Qt.z).g) rfl rfl rfl hmq1 (by omega) ?_
  intro H5 kH5 nH5 mq2
  have mH5:=kH5.1
  have htl:((acs qs).take i).length=i:=by rw [List.length_take,Kf];omega
  have hB2:=hB.add (b:=H3.next) (a:=acQ (qs.getD i Qt.z)) kacc (by exact sb2) (by omega) (by omega) (by omega) (fun j hj=>by rw [htl] at hj;rw [Zb9 hj,Zcq (by omega)];exact hd j i hj (by omega)) kH5 mq2
  have htk:(acs qs).take (i+1)=(acs qs).take i ++ [acQ (qs.getD i Qt.z)]:=by rw [Xj (z:=Ac.z) (by rw [Kf];omega),Zcq (by omega)]
  rw [← htk] at hB2
  have hk:=hk.new kH5 (fun b hb=>by simp at hb ⊢;omega)
  have hs:=kH5.sl hs (fun b e=>by have:=fs b e;first | (simp;done) | (simp;omega))
  have rs:=kH5.rd rs (by first | (simp;done) | (simp;omega))
  have c2:=kH5.cl c2 (by first | (simp;done) | (simp;omega))
  refine Zi ?_
  show Zo _ _ _ _ _ _ _ _
  refine WG (a:=(i:Int)) (b:=1) rfl rfl ⟨by omega,by omega⟩<|Zd rfl<|Zi ?_
  exact ⟨k - 1,i+1,by omega,⟨by omega,hk,by omega,hs,_,_,_,hB2⟩,rfl,rfl,rfl,rfl,trivial⟩
 ·have q1:¬ ((i:Int) < (n:Int)):=of_decide_eq_false q1
  first | (refine Vd ?_;show wCM _ _ _ _ _ _ _ _ _) | skip
  refine Zm<|Zd rfl<|Zd rfl<|Zi ?_
  have e:i=n:=by omega
  rw [e,List.take_of_length_le (by rw [Kf];omega)] at hB
  exact And.intro trivial (Exists.intro _ (And.intro rfl ⟨H.next,L,c,Pp,rfl,hB,hk⟩))
theorem Bok.keepB {lo f f2 mb:Nat} {L:ML Int} {c:Nat} {P:Nat→Nat} {al:List Ac} {H H1:Hp} (h:Bok lo f mb L c P al H) (k:YR f2 H H1) (h1:mb < f2) (h2:∀ i,i < al.length→P i < f2):Bok lo f mb L c P al H1:=
 ⟨k.mqa h.mq h1,h.wf,h.val,h.no,fun i hi=>k.sc (h.cl i hi) (h2 i hi),h.inj,h.lw,h.lm⟩
set_option maxRecDepth 100000 in
set_option maxHeartbeats 1000000 in
theorem je (s:Snd Try.prog kn) {f mb c:Nat} {L:ML Int} {Pp:Nat→Nat} {al:List Ac} (hB:Bok lo f mb L c Pp al H) (hr:(al.map (·.g)).Pairwise (· < ·)) (hal:al.length≤12) (hlo:lo≤H.next) :
  FnM Try.prog lo 35 [.map (some mb)] H fun v H'=>Acc lo H.next 47 H' v al.length (acc al)∧Keep H H' []:=by
 refine WP s Try.func35 B35 N35 Z35 L35 (by simp) ?_
 have hk:=Keep.refl H []
 have hB0:=hB
 refine Zm<|Zd rfl<|Zi<|Zm<|Zd rfl<|Zi<|Zm<|Zd rfl ?_
 obtain ⟨H1,fH1,kH1,kb⟩:=Zcp (kn:=kn) (lo:=lo) (H:=H) mb
 refine Z3 s (vs:=[.map (some mb)]) rfl (Zh fH1) ?_
 have mH1:=kH1.1
 have hk:=hk.trans kH1
 have hB:=hB.keep kH1
 have hLl:=hB.len
 refine YA (t:=.fn (.func 56) #[]) rfl (ZV s.hN (ZbS (H:=H1) s (by omega) kb hB.mq hB.wf (by omega))) ?_
 rintro _ H2 ⟨kH2,ya,ys,ycap,rfl,hy,hsrt,hperm⟩
 have mH2:=kH2.1
 have hk:=hk.trans kH2
 have hB:=hB.keep kH2
 have hys:=hB.keys hr hperm hsrt
 have fy:=hy.old
 have hyl:ys.length=al.length:=by rw [hys,List.length_map]
 rw [hyl] at hy ⊢
 have hyi:∀ i,i < al.length→ys.getD i 0=(al.getD i Ac.z).g:=fun i hi=>by rw [hys];exact KM (z:=Ac.z) hi
 obtain ⟨N,eN⟩:∃ N,N=al.length:=⟨_,rfl⟩
 rw [← eN] at hy ⊢
 refine Jz (m:=N) rfl<|Zd rfl<|Zi ?_
 refine Wl s (fn:=Try.f35) ZgU N35 Zh2 (fun z:Nat × Value=>[(0,.map (some mb)),(3,z.2),(8,.slice ya N ycap),(9,iv (N:Int)),(10,iv (z.1:Int))])
  (fun k z H'=>z.1+k=N∧Keep H H' []∧H2.next≤H'.next∧Sl H' ya N ycap (cI ys)∧Bok lo f mb L c Pp al H'∧Acc lo H2.next 47 H' z.2 z.1 (acc (al.take z.1))) N (0,.slice none 0 0) ⟨by simp,hk,Nat.le_refl _,hy,hB,.inl ⟨rfl,rfl,rfl⟩⟩ ⟨rfl,rfl,rfl,rfl,rfl,trivial⟩ ?_
 rintro k ⟨i,wv⟩ L1 ⟨hik,hk,hnx,hy,hB,hacc⟩
 have mk:=hk.1;have kacc:=Keep.refl L1 []
 simp only [] at hik hacc
 refine Zm<|UG (a:=(i:Int)) (b:=(N:Int)) rfl rfl<|Zi ?_
 refine And.intro (fun q1=>?_) (fun q1=>?_)
 ·have q1:(i:Int) < (N:Int):=of_decide_eq_true q1
  have hi:i < N:=by omega
  rcases id hy with ⟨_,h0s,_⟩ | ⟨sb,es,rs,_⟩
  ·omega
  have ls:=rs.1
  have lsb2:=fy sb es
  have hval:=hB.val i (by omega)
  have hPi:=(hB.cl i (by omega)).1;have hPx:=hB0.cl i (by omega)
  have hPl:=hPx.1
  first | refine Z8 ?_ | skip
  refine Zm<|yn (b:=sb) (o:=0) (k:=i) (j:=(i:Int)) (by rw [← es];rfl) rfl rfl hi<|WB (b:=sb) (o:=0+i * 1) (v:=iv ((al.getD i Ac.z).g)) rfl rs (by rw [← hyi i (by omega)];exact Zaa (by omega))<|Zd rfl<|Zi ?_
  show Zo _ _ _ _ _ _ _ _
  refine Zd rfl<|Zd rfl<|Zd rfl ?_
  obtain ⟨pi,epi⟩:∃ pi,pi=Pp i:=⟨_,rfl⟩
  rw [← epi] at hval hPl
  have ca:Cl L1 pi (Ac.f (al.getD i Ac.z)):=by rw [epi];exact (hB.cl i (by omega)).cl
  refine Wf (v:=.pointer (some ⟨pi,0,none⟩)) (H':=L1) (k:=.read mb) (yk rfl rfl) rfl ((Qn ym Zdw Zcf rfl rfl rfl hB.mq false).trans (by rw [hval];rfl)) (fun q e=>by cases e;exact hB.mq.1)<|Zej (a:=⟨pi,0,none⟩) rfl<|YW (b:=pi) (o:=0) rfl ca.rd (show row 4 _ _=some [iv ((al.getD i Ac.z).g),iv ((al.getD i Ac.z).q),iv ((al.getD i Ac.z).u),iv ((al.getD i Ac.z).x)] from rfl) ?_
  obtain ⟨H3,hH3⟩:∃ H3,L1.new (.cells [iv ((al.getD i Ac.z).g),iv ((al.getD i Ac.z).q),iv ((al.getD i Ac.z).u),iv ((al.getD i Ac.z).x)] 47 false)=H3:=⟨_,rfl⟩
  refine Wf (H':=H3) (k:=.heavy) rfl (by kernel_rfl) ((Xu (v:=.agg (Ac.f (al.getD i Ac.z)).toArray) ZhI Zi2 rfl rfl rfl (by decide)).trans (by rw [← hH3];rfl)) (fun b e=>by cases e) ?_
  obtain ⟨kH3,nH3,c3⟩:=ZL hH3;clear hH3
  have c3:Cl H3 L1.next [iv ((al.getD i Ac.z).g),iv ((al.getD i Ac.z).q),iv ((al.getD i Ac.z).u),iv ((al.getD i Ac.z).x)]:=c3
  have mH3:=kH3.1
  have hk:=hk.trans kH3
  have kacc:=kacc.trans kH3
  have hy:=kH3.sl0 hy
  have hB:=hB.keep kH3
  have rs:=kH3.rd rs (by simp)
  have ca:=kH3.cl ca (by simp)
  have kB:=kacc
  obtain ⟨H4,kdH4,eH4,dH4,aH4,kbH4⟩:=YB (P:=Try.prog) (lo:=lo) (k:=i) (t1:=37) ZhI ZiP (c3.sl (Nat.le_refl 1)) rfl (by decide) rfl (by rw [Zeu,List.length_take];omega) (by omega) (hacc.keep kacc) (by omega) (by omega)
  refine Wf (k:=kdH4) rfl (by cases wv<;>kernel_rfl) (eH4 _ _ _ _ _ _ _ rfl rfl) (Jj dH4 _) ?_
  have hk:=kbH4.keep hk (by omega)
  have hy:=kbH4.sl hy (fun b e=>by have:=fy b e;omega)
  have mH4:=kbH4.1
  have hB:=hB.keepB kbH4 (by have:=hB0.mq.1;omega) (fun j hj=>by have:=(hB0.cl j hj).1;omega)
  refine Zd rfl<|Zi ?_
  show Zo _ _ _ _ _ _ _ _
  refine WG (a:=(i:Int)) (b:=1) rfl rfl ⟨by omega,by omega⟩<|Zd rfl<|Zi ?_
  have hU:al.take (i+1)=al.take i ++ [al.getD i Ac.z]:=Xj (by omega)
  have hacc2:Acc lo H2.next 47 H4 (.slice (some ⟨H3.next,0,none⟩) (i+1) (i+1)) (i+1) (acc (al.take (i+1))):=by rw [hU];unfold acc;rw [List.flatMap_append];exact aH4
  exact ⟨k - 1,(i+1,_),by omega,⟨by simp only [];omega,hk,by omega,hy,hB,hacc2⟩,rfl,rfl,rfl,rfl,rfl,trivial⟩
 ·have q1:¬ ((i:Int) < (N:Int)):=of_decide_eq_false q1
  first | (refine Vd ?_;show wCM _ _ _ _ _ _ _ _ _) | skip
  refine Zm<|Zd rfl<|Zd rfl<|Zi ?_
  have e:i=N:=by omega
  have ht:al.take N=al:=by rw [eN,List.take_length]
  rw [e,ht] at hacc
  exact And.intro trivial (Exists.intro _ (And.intro rfl ⟨hacc.low (by omega),hk⟩))
end
end
end Go.Ax

/-
 Pool: Play,where all events can be (18) (written by program).
-/
namespace Go.Ax
open Go Go.RowKit Go.Proofs

noncomputable section
noncomputable def R18D:RC:=(.dreg [oM 21 0,oD 22 4 4,⟨some 23,none,(.call ⟨(.value (.func 26)),#[(.tmp 21),(.tmp 22)],#[22,24]⟩ false)⟩,oJ 24 4 3,oL 25 24 1,oC 26 25 #[(.tmp 23),(.tmp 25)] #[60,3],oC 27 33 #[(.tmp 26)] #[27],oM 9 27] [127,63,31,8,0,3,0,0])
theorem Zjf:low Try.prog 41 (at_ Try.f18 [1,1,1,0])=some R18D:=by kernel_rfl
noncomputable def R18v:RC:=(.seq (.reg [oK 4 24 1,⟨some 6,none,(.mov (.const (.slice none 0 0)))⟩,oN 7 0,oN 8 0])
 (.seq (.seq (.reg [oM 10 0,oC 11 23 #[(.tmp 10)] #[22],oU 12 11,oM 13 12,⟨some 14,(some (13,false)),(.lda (.tmp 4) 4)⟩,oH 15 13 false 24 #[(.tmp 14)] #[24],oV 16 13 false 15,oO 17 13 16])
 (.cond (.tmp 17) (.seq (.reg [⟨some 6,none,(.mov (.const (.slice none 0 0)))⟩,oN 7 0,oN 8 1])
 .ret)
 .skip))
 (.seq (.seq (.reg [oM 18 2,oW 19 18,oQ 20 .gtr 19 256])
 (.cond (.tmp 20) (.seq (.reg [⟨some 6,none,(.mov (.const (.slice none 0 0)))⟩,oN 7 0,oN 8 3])
 .ret)
 .skip))
 (.seq (.other (at_ Try.f18 [1,1,1,0]))
 (.seq (.reg [oM 29 9,oM 30 2,oC 31 34 #[(.tmp 29),(.tmp 30)] #[69,36],oM 28 31,oE 32 28 0 3,oE 33 28 1 28,oM 7 32,oM 8 33])
 (.seq (.seq (.reg [oM 34 8,oQ 35 .neq 34 0])
 (.cond (.tmp 35) (.seq (.reg [oM 36 7,oM 37 8,⟨some 6,none,(.mov (.const (.slice none 0 0)))⟩,oM 7 36,oM 8 37])
 .ret)
 .skip))
 (.seq (.reg [oM 38 9,oC 39 35 #[(.tmp 38)] #[69],oM 40 7,oM 6 39,oM 7 40,oN 8 0])
 .ret)))))))
theorem V18:LV Try.prog 41 (at_ Try.f18 []) R18v:=by
 have e:at_ Try.f18 []=(.seq (at_ Try.f18 [0]) (.seq (at_ Try.f18 [1,0]) (.seq (at_ Try.f18 [1,1,0]) (.seq (at_ Try.f18 [1,1,1,0]) (at_ Try.f18 [1,1,1,1]))))):=by kernel_rfl
 rw [e]
 exact (.seq (.low (by kernel_rfl)) (.seq (.low (by kernel_rfl)) (.seq (.low (by kernel_rfl)) (.seq (.other _) (.low (by kernel_rfl))))))
theorem ZgH {ms:List Mb} {p:Int} (h:∀ m∈ms,okM m) (h0:0≤p) (h1:p≤1000):∀ a∈acs (qtL p ms),Ua 1099511627776 a:=by
 intro a ha
 obtain ⟨q,hq,e⟩:=List.mem_map.1 ha
 obtain ⟨m,hm,e2⟩:=List.mem_map.1 hq
 have k:=h m hm
 have m1:0≤m.b * p:=Int.mul_nonneg k.2.2.1 h0
 have m2:m.b * p≤m.b * 1000:=Int.mul_le_mul_of_nonneg_left h1 k.2.2.1
 have m3:m.b * p / 1000≤m.b:=Int.ediv_le_of_le_mul (by decide) m2
 have m4:0≤m.b * p / 1000:=Int.ediv_nonneg m1 (by decide)
 rw [← e,← e2]
 have:=k.2.2.2
 refine ⟨Int.le_refl _,m4,?_,Int.le_refl _,?_⟩
 ·show m.b * p / 1000≤_;omega
 ·show (0:Int)≤_;omega
theorem Zh1 {p:Int} {ms:List Mb}:(acs (qtL p ms)).map (·.g)=ms.map (·.g):=by
 unfold acs qtL
 rw [List.map_map,List.map_map]
 exact List.map_congr_left fun m _=>rfl
theorem Zcs {ms:List Mb} (h:ms.Pairwise fun a b=>a.g < b.g):(ms.map (·.g)).Pairwise (· < ·):=List.pairwise_map.2 h
theorem ZeN {p:Int} {ms:List Mb} (h:ms.Pairwise fun a b=>a.g < b.g):∀ i j,i < j→j < ms.length→((qtL p ms).getD i Qt.z).g≠((qtL p ms).getD j Qt.z).g:=by
 intro i j hij hj e
 rw [zp (by omega),zp hj] at e
 have:=(List.pairwise_iff_getElem.1 h) i j (by omega) hj hij
 have e2:(ms.getD i Mb.z).g=(ms.getD j Mb.z).g:=e
 rw [List.getD_eq_getElem?_getD,List.getD_eq_getElem?_getD,List.getElem?_eq_getElem (by omega),List.getElem?_eq_getElem hj] at e2
 have e3:ms[i].g=ms[j].g:=e2
 omega
section
variable {kn:Kn} {lo:Nat} {H:Hp}
set_option maxRecDepth 100000 in
set_option maxHeartbeats 1000000 in
theorem Zcz (s:Snd Try.prog kn) {cs:List Cp} {sa:Option Addr} {n cap:Nat} (hs:Sl H sa n cap (cpc cs)) (hl:cs.length=n) (hn:n≤400) (hlo:lo≤H.next) (hmn:yN n=false) {g:Gl} (hvA0:vA cs g=true) (h12:(mbL g cs).length≤12) {vs:List Ev} {ea:Option Addr} {m ecap:Nat} (he:Sl H ea m ecap (evc vs)) (hm:vs.length=m) (hm2:m≤256) (hok:∀ j,j < m→(stp (stA (acs (qtL g.p (mbL g cs))) vs j) (vs.getD j Ev.z)).2=0) :
  FnM Try.prog lo 18 [.slice sa n cap,.agg (Gl.f g).toArray,.slice ea m ecap] H fun v H'=>∃ u,v=.tuple #[u,iv m,iv 0]∧Acc lo H.next 47 H' u (acs (qtL g.p (mbL g cs))).length (acc (stA (acs (qtL g.p (mbL g cs))) vs m))∧Keep H H' []:=by
 refine Zcu s Try.func18 B18 N18 Z18 V18 (by simp) ?_
 have hk:=Keep.refl H []
 have fs:=hs.old
 have fe:=he.old
 refine Zm<|Uz (v:=.agg (Gl.f g).toArray) rfl ?_
 intro H1 kH1 nH1 c1
 have c1:Cl H1 H.next [iv g.y,iv g.k,iv g.b,iv g.p]:=c1
 have mH1:=kH1.1
 have hk:=hk.trans kH1
 have hs:=kH1.sl0 hs
 have he:=kH1.sl0 he
 refine Zd rfl<|Zd rfl<|Zd rfl<|Zi<|Zm<|Zd rfl<|XM s rfl (ZaT hs hl (by omega) (by omega)) ?_
 intro tH2 H2 hH2 kH2
 have mH2:=kH2.1
 have hk:=hk.trans kH2
 have hs:=kH2.sl0 hs
 have he:=kH2.sl0 he
 have c1:=kH2.cl c1 (by simp)
 cases tH2
 ·have qvC:=hH2
  refine Zk (v:=.bool true) rfl rfl<|Zd rfl<|X5 rfl<|X5 rfl<|X5 rfl<|Zk (v:=.bool true) rfl rfl<|Zi ?_
  exact absurd hvA0 (by first | (rw [V5 qvC qvG];simp) | (unfold vA;rw [qvC];simp))
 ·have qvC:=hH2
  refine Zk (v:=.bool false) rfl rfl<|Zd rfl ?_
  refine Yd rfl (YW (b:=H.next) (o:=0) rfl c1.rd (show row 4 _ _=some [iv g.y,iv g.k,iv g.b,iv g.p] from rfl) ?_)
  refine Yd rfl (XM s rfl (Za1 (g:=g) (by omega)) ?_)
  intro tH3 H3 hH3 kH3
  have mH3:=kH3.1
  have hk:=hk.trans kH3
  have hs:=kH3.sl0 hs
  have he:=kH3.sl0 he
  have c1:=kH3.cl c1 (by simp)
  cases tH3
  ·have qvG:=hH3
   refine Yd rfl (Zk (v:=.bool true) rfl rfl ?_)
   refine Zk (v:=.bool true) rfl rfl<|Zi ?_
   exact absurd hvA0 (by first | (rw [V5 qvC qvG];simp) | (unfold vA;rw [qvC];simp))
  ·have qvG:=hH3
   refine Yd rfl (Zk (v:=.bool false) rfl rfl ?_)
   refine Zk (v:=.bool false) rfl rfl<|Zi<|ZR ?_
   first | refine Z8 ?_ | skip
   refine Zm<|Zd rfl<|Jz (m:=m) rfl<|KV (a:=(m:Int)) (b:=256) rfl rfl<|Zi ?_
   refine And.intro (fun q1=>?_) (fun q1=>?_)
   ·have q1:(m:Int) > 256:=of_decide_eq_true q1
    exfalso;omega
   ·have q1:¬ ((m:Int) > 256):=of_decide_eq_false q1
    first | refine Z8 ?_ | skip
    have hvA:vA cs g=true:=V5 qvC qvG
    have hb:=(KA hvA).1;have hg:=(KA hvA).2;have hsm:=QJ hmn (by have:=(ZbF qvC).1;omega)
    have hgt:=qO hg;have hmlen:=UR (g:=g) hb;have hmok:=Kw hb hg
    refine UM (K6 ?_)
    have hxl:lo≤H3.next:=by omega
    refine zD s Zjf (S0:=[(0,.slice sa n cap),(2,.slice ea m ecap),(4,.pointer (some ⟨H.next,0,none⟩))]) ⟨rfl,rfl,rfl,trivial⟩ (fun done V H'=>Keep H3 H' []∧(done 0=true→V 0=.slice sa n cap)∧(done 1=true→V 1=.agg (Gl.f g).toArray)∧(done 2=true→∃ a cp,V 2=.slice a (mbL g cs).length cp∧Sl H' a (mbL g cs).length cp (mbc (mbL g cs)))∧(done 3=true→V 3=.pointer (some ⟨H.next,0+3,none⟩))∧(done 4=true→V 4=iv g.p)∧(done 5=true→Acc lo H3.next 44 H' (V 5) (qtL g.p (mbL g cs)).length (qtc (qtL g.p (mbL g cs))))∧(done 6=true→∃ mb L c Pp f,V 6=.map (some mb)∧H3.next≤f∧Bok lo f mb L c Pp (acs (qtL g.p (mbL g cs))) H')∧(done 7=true→∃ mb L c Pp f,V 7=.map (some mb)∧H3.next≤f∧Bok lo f mb L c Pp (acs (qtL g.p (mbL g cs))) H')) (fun _=>iv 0) (by decide) ⟨Keep.refl _ _,(fun h=>by cases h),(fun h=>by cases h),(fun h=>by cases h),(fun h=>by cases h),(fun h=>by cases h),(fun h=>by cases h),(fun h=>by cases h),(fun h=>by cases h)⟩ ⟨?_,?_,?_,?_,?_,?_,?_,?_,True.intro⟩ (fun done V H9 hd hp=>?_)
    ·rintro done V S' H' hd hm ⟨k,p0,p1,p2,p3,p4,p5,p6,p7⟩ kd
     exact Y0 (Zd (kd.old rfl rfl) (Zi ⟨_,rfl,k,fun _=>rfl,p1,p2,p3,p4,p5,p6,p7⟩))
    ·rintro done V S' H' hd hm ⟨k,p0,p1,p2,p3,p4,p5,p6,p7⟩ kd
     exact Y0 (YW (b:=H.next) (o:=0) (kd.old rfl rfl) (k.rd c1.rd (by simp)) rfl (Zi ⟨_,rfl,k,p0,fun _=>rfl,p2,p3,p4,p5,p6,p7⟩))
    ·rintro done V S' H' hd hm ⟨k,p0,p1,p2,p3,p4,p5,p6,p7⟩ kd
     have mk:=k.1
     have h14:lk S' 21=some (.slice sa n cap):=kd.own 0 rfl (hm 0 (by decide)) (p0 (hm 0 (by decide)))
     have h15:lk S' 22=some (.agg (Gl.f g).toArray):=kd.own 1 rfl (hm 1 (by decide)) (p1 (hm 1 (by decide)))
     refine Y0 (YA (t:=.fn (.func 26) #[]) (vs:=[.slice sa n cap,.agg (Gl.f g).toArray]) (by simp only [YH,zq,evS,h14,h15];rfl) (ZV s.hN (WN (H:=H') s (k.sl0 hs) hl hsm hb hg (by omega))) ?_)
     rintro _ H2 ⟨k2,a,cp,rfl,hs2⟩
     exact Zi ⟨_,rfl,k.trans k2,p0,p1,fun _=>⟨a,cp,rfl,hs2⟩,p3,p4,fun h=>(p5 h).keep k2,fun h=>(by obtain ⟨mb,L,c,Pp,f,e,hf,hb⟩:=p6 h;exact ⟨mb,L,c,Pp,f,e,hf,hb.keep k2⟩),fun h=>(by obtain ⟨mb,L,c,Pp,f,e,hf,hb⟩:=p7 h;exact ⟨mb,L,c,Pp,f,e,hf,hb.keep k2⟩)⟩
    ·rintro done V S' H' hd hm ⟨k,p0,p1,p2,p3,p4,p5,p6,p7⟩ kd
     exact Y0 (Xn (b:=H.next) (o:=0) (kd.old rfl rfl) (Zi ⟨_,rfl,k,p0,p1,p2,fun _=>rfl,p4,p5,p6,p7⟩))
    ·rintro done V S' H' hd hm ⟨k,p0,p1,p2,p3,p4,p5,p6,p7⟩ kd
     exact Y0 (WB (b:=H.next) (o:=0+3) (v:=iv g.p) (kd.own 3 rfl (hm 3 (by decide)) (p3 (hm 3 (by decide)))) (k.rd c1.rd (by simp)) rfl (Zi ⟨_,rfl,k,p0,p1,p2,p3,fun _=>rfl,p5,p6,p7⟩))
    ·rintro done V S' H' hd hm ⟨k,p0,p1,p2,p3,p4,p5,p6,p7⟩ kd
     have mk:=k.1
     obtain ⟨a,cp,e2,s2⟩:=p2 (hm 2 (by decide))
     have h16:lk S' 23=some (.slice a (mbL g cs).length cp):=kd.own 2 rfl (hm 2 (by decide)) e2
     have h18:lk S' 25=some (iv g.p):=kd.own 4 rfl (hm 4 (by decide)) (p4 (hm 4 (by decide)))
     obtain ⟨v,H2,f2,a2,k2⟩:=Ud (kn:=kn) (lo:=lo) (H:=H') s2 rfl (by omega) (by omega) hmok (p:=g.p) (by omega) (by omega)
     exact Y0 (Z3 s (t:=.fn (.func 25) #[]) (vs:=[.slice a (mbL g cs).length cp,iv g.p]) (by simp only [YH,zq,evS,h16,h18];rfl) (Zh f2) (Zi ⟨v,rfl,k.trans k2,p0,p1,fun h=>(by obtain ⟨a,cp,e,q⟩:=p2 h;exact ⟨a,cp,e,k2.sl0 q⟩),p3,p4,fun _=>a2.low (by omega),fun h=>(by obtain ⟨mb,L,c,Pp,f,e,hf,hb⟩:=p6 h;exact ⟨mb,L,c,Pp,f,e,hf,hb.keep k2⟩),fun h=>(by obtain ⟨mb,L,c,Pp,f,e,hf,hb⟩:=p7 h;exact ⟨mb,L,c,Pp,f,e,hf,hb.keep k2⟩)⟩))
    ·rintro done V S' H' hd hm ⟨k,p0,p1,p2,p3,p4,p5,p6,p7⟩ kd
     have mk:=k.1
     have h26:lk S' 26=some (V 5):=kd.own 5 rfl (hm 5 (by decide)) rfl
     obtain ⟨qa,qcap,e5,hqs,_⟩:=(p5 (hm 5 (by decide))).sl
     rw [WR] at e5 hqs
     rw [e5] at h26
     refine Y0 (YA (t:=.fn (.func 33) #[]) (vs:=[.slice qa (mbL g cs).length qcap]) (by simp only [YH,zq,evS,h26];rfl) (ZV s.hN (Zex (H:=H') s hqs WR (by omega) (ZeN QV) (by omega))) ?_)
     rintro _ H2 ⟨mb,L,c,Pp,rfl,hb2,k2⟩
     exact Zi ⟨_,rfl,k.trans k2,p0,p1,fun h=>(by obtain ⟨a,cp,e,q⟩:=p2 h;exact ⟨a,cp,e,k2.sl0 q⟩),p3,p4,fun h=>(p5 h).keep k2,fun _=>⟨mb,L,c,Pp,H'.next,rfl,mk,hb2⟩,fun h=>(by obtain ⟨mb,L,c,Pp,f,e,hf,hb⟩:=p7 h;exact ⟨mb,L,c,Pp,f,e,hf,hb.keep k2⟩)⟩
    ·rintro done V S' H' hd hm ⟨k,p0,p1,p2,p3,p4,p5,p6,p7⟩ kd
     exact Y0 (Zd (kd.own 6 rfl (hm 6 (by decide)) rfl) (Zi ⟨V 6,rfl,k,p0,p1,p2,p3,p4,p5,p6,fun _=>p6 (hm 6 (by decide))⟩))
    obtain ⟨k9,_,_,_,_,_,_,_,p7⟩:=hp
    obtain ⟨mb,L,c,Pp,f,e7,hf,hB⟩:=p7 (hd 7 (by decide))
    have m9:=k9.1
    have hPx:∀ i,i < (acs (qtL g.p (mbL g cs))).length→H3.next≤Pp i:=fun i hi=>Nat.le_trans hf (hB.lw i hi).2.1
    have hal:=ZgH hmok (p:=g.p) (by omega) (by omega)
    have hk0:=hk
    have he:=k9.sl0 he
    have halen:(acs (qtL g.p (mbL g cs))).length=(mbL g cs).length:=by rw [Kf,WR]
    show wCM _ _ _ _ _ _ _ _ _
    refine Zm<|Zd rfl<|Zd rfl ?_
    obtain ⟨H4,fH4,hB2,kp2⟩:=Zep (kn:=kn) (lo:=lo) (H:=H9) hB he hm hm2 hal hok (H0:=H3) m9 hPx (fun b e=>by have:=fe b e;omega) hxl
    rw [← e7] at fH4
    refine Z3 s (vs:=[V 7,.slice ea m ecap]) rfl (Zh fH4) ?_
    have hkx:=kp2.keep k9 hPx
    have mH4:=kp2.le
    refine Zd rfl<|Zk (v:=iv (m:Int)) rfl (by kernel_rfl)<|Zk (v:=iv 0) rfl (by kernel_rfl)<|Zd rfl<|Zd rfl<|Zi<|Zm<|Zd rfl<|QC (a:=0) (b:=0) rfl rfl<|Zi<|ZR ?_
    first | refine Z8 ?_ | skip
    refine Zm<|Zd rfl ?_
    have hrise:((stA (acs (qtL g.p (mbL g cs))) vs m).map (·.g)).Pairwise (· < ·):=by rw [yz,Zh1];exact Zcs QV
    refine YA (t:=.fn (.func 35) #[]) (vs:=[V 7]) rfl (ZV s.hN (by rw [e7];exact je (H:=H4) s hB2 hrise (by rw [QN];omega) (by omega))) ?_
    rintro av H5 ⟨hav,kH5⟩
    have mH5:=kH5.1
    refine Zd rfl<|Zd rfl<|Zd rfl<|Zd rfl<|Zi ?_
    rw [QN] at hav
    exact And.intro trivial (Exists.intro _ (And.intro rfl ⟨av,rfl,hav.low (by omega),hk0.trans (hkx.trans kH5)⟩))
end
end
end Go.Ax

/-
 Pool: lists compared (17,20);the example of the document (22) (written by program).
-/
namespace Go.Ax
open Go Go.RowKit Go.Proofs

noncomputable section
theorem Zga:Try.prog.underlying 44=some (.struct (Qd Try.prog 44)):=by kernel_rfl
theorem ZjB : (Qd Try.prog 44).toList.map (fun f => (f.type, f.offset, f.name == "_")) = [(3, 0, false), (3, 1, false), (3, 2, false)] := by kernel_rfl
theorem Zi3:Program.stoodInHeld Try.prog 44=false:=by kernel_rfl
set_option maxRecDepth 100000 in
theorem Zjg {d:Nat} (a0 a1 a2:Int):ZB Try.prog (Op.equalIn (d+2) 44 (.agg #[iv a0,iv a1,iv a2]) (.agg #[iv a0,iv a1,iv a2]))=some true:=by
 have h:=Jk (d:=d+1) (xs:=#[iv a0,iv a1,iv a2]) (ys:=#[iv a0,iv a1,iv a2]) (Wa Zga) Zi3 (fun _=>true) (by
   intro q hq
   have h : (q.type, q.offset, q.name == "_") ∈ [(3, 0, false), (3, 1, false), (3, 2, false)] := by rw [← ZjB]; exact List.mem_map.mpr ⟨q, hq, rfl⟩
   simp only [List.mem_cons,List.not_mem_nil,or_false,Prod.mk.injEq] at h
   have one:∀ x:Int,ZB Try.prog (Op.equalIn (d+1) 3 (iv x) (iv x))=some true:=fun x=>by rw [y7];simp
   rcases h with ⟨h1,h2,h3⟩ | ⟨h1,h2,h3⟩ | ⟨h1,h2,h3⟩<;>(refine ⟨by intro e;rw [e] at h3;simp at h3,?_⟩;rw [h1,h2])
   ·exact ⟨iv a0,iv a0,by kernel_rfl,by kernel_rfl,one a0⟩
   ·exact ⟨iv a1,iv a1,by kernel_rfl,by kernel_rfl,one a1⟩
   ·exact ⟨iv a2,iv a2,by kernel_rfl,by kernel_rfl,one a2⟩)
 rw [show d+2=d+1+1 from rfl,h]
 simp
set_option maxRecDepth 100000 in
theorem ZhO {n:Nat} {S:Rg} {d:Option Tmp} {x y:Operand} {p:String} {ty:TypeId} {a0 a1 a2:Int} (hx:evS S x=some (.agg #[iv a0,iv a1,iv a2])) (hy:evS S y=some (.agg #[iv a0,iv a1,iv a2])):Zn Try.prog (frS n S) ⟨d,.binOp .neq 44 x y 44,ty,p,#[],none⟩=some (.bool false):=by
 have key:ZB Try.prog (do eqGuard .neq 44 x y (.agg #[iv a0,iv a1,iv a2]) (.agg #[iv a0,iv a1,iv a2]);binOp .neq 44 (.agg #[iv a0,iv a1,iv a2]) (.agg #[iv a0,iv a1,iv a2]))=some (.bool false):=by
  rw [Yu,show ZB Try.prog (eqGuard .neq 44 x y (.agg #[iv a0,iv a1,iv a2]) (.agg #[iv a0,iv a1,iv a2]))=some () from by kernel_rfl,Option.bind_some]
  show ZB Try.prog (do pure (Value.bool (!(← Op.equalIn (9998+2) 44 (.agg #[iv a0,iv a1,iv a2]) (.agg #[iv a0,iv a1,iv a2])))))=_
  rw [Yu,Zjg];rfl
 unfold Zn
 simp only [Ym,hx,hy,show ZS (.agg #[iv a0,iv a1,iv a2])=true from rfl,Bool.and_self,cond_true,key]
 rfl
theorem Zgu:Try.prog.underlying 47=some (.struct (Qd Try.prog 47)):=by kernel_rfl
theorem Zjl : (Qd Try.prog 47).toList.map (fun f => (f.type, f.offset, f.name == "_")) = [(3, 0, false), (3, 1, false), (3, 2, false), (3, 3, false)] := by kernel_rfl
theorem Zje:Program.stoodInHeld Try.prog 47=false:=by kernel_rfl
set_option maxRecDepth 100000 in
theorem Zjt {d:Nat} (a0 a1 a2 a3:Int):ZB Try.prog (Op.equalIn (d+2) 47 (.agg #[iv a0,iv a1,iv a2,iv a3]) (.agg #[iv a0,iv a1,iv a2,iv a3]))=some true:=by
 have h:=Jk (d:=d+1) (xs:=#[iv a0,iv a1,iv a2,iv a3]) (ys:=#[iv a0,iv a1,iv a2,iv a3]) (Wa Zgu) Zje (fun _=>true) (by
   intro q hq
   have h : (q.type, q.offset, q.name == "_") ∈ [(3, 0, false), (3, 1, false), (3, 2, false), (3, 3, false)] := by rw [← Zjl]; exact List.mem_map.mpr ⟨q, hq, rfl⟩
   simp only [List.mem_cons,List.not_mem_nil,or_false,Prod.mk.injEq] at h
   have one:∀ x:Int,ZB Try.prog (Op.equalIn (d+1) 3 (iv x) (iv x))=some true:=fun x=>by rw [y7];simp
   rcases h with ⟨h1,h2,h3⟩ | ⟨h1,h2,h3⟩ | ⟨h1,h2,h3⟩ | ⟨h1,h2,h3⟩<;>(refine ⟨by intro e;rw [e] at h3;simp at h3,?_⟩;rw [h1,h2])
   ·exact ⟨iv a0,iv a0,by kernel_rfl,by kernel_rfl,one a0⟩
   ·exact ⟨iv a1,iv a1,by kernel_rfl,by kernel_rfl,one a1⟩
   ·exact ⟨iv a2,iv a2,by kernel_rfl,by kernel_rfl,one a2⟩
   ·exact ⟨iv a3,iv a3,by kernel_rfl,by kernel_rfl,one a3⟩)
 rw [show d+2=d+1+1 from rfl,h]
 simp
set_option maxRecDepth 100000 in
theorem ZhQ {n:Nat} {S:Rg} {d:Option Tmp} {x y:Operand} {p:String} {ty:TypeId} {a0 a1 a2 a3:Int} (hx:evS S x=some (.agg #[iv a0,iv a1,iv a2,iv a3])) (hy:evS S y=some (.agg #[iv a0,iv a1,iv a2,iv a3])):Zn Try.prog (frS n S) ⟨d,.binOp .neq 47 x y 47,ty,p,#[],none⟩=some (.bool false):=by
 have key:ZB Try.prog (do eqGuard .neq 47 x y (.agg #[iv a0,iv a1,iv a2,iv a3]) (.agg #[iv a0,iv a1,iv a2,iv a3]);binOp .neq 47 (.agg #[iv a0,iv a1,iv a2,iv a3]) (.agg #[iv a0,iv a1,iv a2,iv a3]))=some (.bool false):=by
  rw [Yu,show ZB Try.prog (eqGuard .neq 47 x y (.agg #[iv a0,iv a1,iv a2,iv a3]) (.agg #[iv a0,iv a1,iv a2,iv a3]))=some () from by kernel_rfl,Option.bind_some]
  show ZB Try.prog (do pure (Value.bool (!(← Op.equalIn (9998+2) 47 (.agg #[iv a0,iv a1,iv a2,iv a3]) (.agg #[iv a0,iv a1,iv a2,iv a3])))))=_
  rw [Yu,Zjt];rfl
 unfold Zn
 simp only [Ym,hx,hy,show ZS (.agg #[iv a0,iv a1,iv a2,iv a3])=true from rfl,Bool.and_self,cond_true,key]
 rfl
theorem Zf9 {P:Program} {S:Rg} {H:Hp} {a b x n:Nat} {t:TypeId} {cs:List Value} {v:Value} (ha:lk S a=some v) (hb:lk S b=some (.pointer (some ⟨x,0,none⟩))) (h1:X3 P t=some true) (hi:∃ i,P.info? t=some i∧i.size=n) (hl:cs.length=n) (h:Cl H x cs):Wg P S H [.tmp a,.cell b t]=some [v,.agg cs.toArray]:=by
 simp only [Wg,ha,hb,Zc4 h1 hi h.rd hl]
def cs0:List Cp:=[⟨3,2022,1000⟩,⟨3,2023,1400⟩,⟨3,2024,900⟩,⟨3,2025,1301⟩,⟨8,2024,500⟩,⟨8,2021,9999⟩,⟨5,2020,700⟩]
def g0:Gl:=⟨2026,4,2,850⟩
section
variable {kn:Kn} {lo:Nat} {H:Hp}
set_option maxRecDepth 100000 in
theorem ju {l:List Qt} {pa pb:Option Addr} {cap1 cap2:Nat} (ha:Sl H pa l.length cap1 (qtc l)) (hb:Sl H pb l.length cap2 (qtc l)) (hlen:l.length≤1000000):∃ H',FnX Try.prog kn lo 17 [.slice pa l.length cap1,.slice pb l.length cap2] H (.bool true) H'∧Keep H H' []:=by
 have key:=Zr (kn:=kn) (lo:=lo) (H:=H) (args:=[.slice pa l.length cap1,.slice pb l.length cap2]) (Q:=fun w H'=>w=.bool true∧Keep H H' []) Try.func17 B17 N17 Z17 L17 (by simp) ?_
 ·obtain ⟨w,H',h,rfl,q⟩:=key;exact ⟨H',h,q⟩
 have hk:=Keep.refl H []
 have fa:=ha.old
 have fb:=hb.old
 refine Zc<|Za rfl<|Zb<|Zc<|Za rfl<|YG (m:=l.length) rfl<|Za rfl<|YG (m:=l.length) rfl<|Us (a:=(l.length:Int)) (b:=(l.length:Int)) rfl rfl ?_
 rw [show ((l.length:Int) != (l.length:Int))=false by simp]
 refine Zb<|ZR ?_
 first | refine Zl ?_ | skip
 refine Zc<|Za rfl<|Zb ?_
 refine Zx (fn:=Try.f17) ZhF N17 ZgV (fun i:Nat=>[(0,.slice pa l.length cap1),(1,.slice pb l.length cap2),(5,iv (i:Int))])
  (fun k i H'=>i+k=l.length∧Keep H H' []∧Sl H' pa l.length cap1 (qtc l)∧Sl H' pb l.length cap2 (qtc l)) l.length 0 ⟨by omega,hk,ha,hb⟩ ⟨rfl,rfl,rfl,trivial⟩ ?_
 rintro k i L1 ⟨hik,hk,ha,hb⟩
 have mk:=hk.1
 refine Zc<|Za rfl<|Za rfl<|YG (m:=l.length) rfl<|ZF (a:=(i:Int)) (b:=(l.length:Int)) rfl rfl<|Zb ?_
 refine And.intro (fun q1=>?_) (fun q1=>?_)
 ·have q1:(i:Int) < (l.length:Int):=of_decide_eq_true q1
  have hi:i < l.length:=by omega
  rcases id ha with ⟨_,h0s,_⟩ | ⟨sb,es,rs,_⟩
  ·omega
  have ls:=rs.1
  rcases id hb with ⟨_,h0t,_⟩ | ⟨tb,et,rt,_⟩
  ·omega
  have lt:=rt.1
  first | refine Zl ?_ | skip
  refine YV<|Zf rfl<|Zf rfl<|Zz (b:=sb) (o:=0) (k:=i) (j:=(i:Int)) (by rw [← es];rfl) rfl rfl hi<|YJ (b:=sb) (o:=0+i * 3) rfl rs (Up (by omega))<|Zf rfl<|Zf rfl<|Zz (b:=tb) (o:=0) (k:=i) (j:=(i:Int)) (by rw [← et];rfl) rfl rfl hi<|YJ (b:=tb) (o:=0+i * 3) rfl rt (Up (by omega))<|XF (v:=.bool false) rfl (ZhO (a0:=(l.getD i Qt.z).g) (a1:=(l.getD i Qt.z).b) (a2:=(l.getD i Qt.z).a) rfl rfl) ?_
  refine ZN (by repeat' first | exact True.intro | exact (fun h=>h) | refine And.intro ?_ ?_ | (intro h;have h:(_:Nat)=_:=h;omega)) ?_
  refine ZR ?_
  first | refine Zl ?_ | skip
  show Zp _ _ _ _ _ _ _ _
  refine Za rfl<|Zy (a:=(i:Int)) (b:=1) rfl rfl ⟨by omega,by omega⟩<|Za rfl<|Zb ?_
  exact ⟨k - 1,i+1,by omega,⟨by omega,hk,ha,hb⟩,rfl,rfl,rfl,trivial⟩
 ·have q1:¬ ((i:Int) < (l.length:Int)):=of_decide_eq_false q1
  refine Zc<|Za rfl<|Zb ?_
  exact And.intro trivial (Exists.intro _ (And.intro rfl ⟨rfl,hk⟩))
set_option maxRecDepth 100000 in
theorem Zds {l:List Ac} {pa pb:Option Addr} {cap1 cap2:Nat} (ha:Sl H pa l.length cap1 (acc l)) (hb:Sl H pb l.length cap2 (acc l)) (hlen:l.length≤1000000):∃ H',FnX Try.prog kn lo 20 [.slice pa l.length cap1,.slice pb l.length cap2] H (.bool true) H'∧Keep H H' []:=by
 have key:=Zr (kn:=kn) (lo:=lo) (H:=H) (args:=[.slice pa l.length cap1,.slice pb l.length cap2]) (Q:=fun w H'=>w=.bool true∧Keep H H' []) Try.func20 B20 N20 Z20 L20 (by simp) ?_
 ·obtain ⟨w,H',h,rfl,q⟩:=key;exact ⟨H',h,q⟩
 have hk:=Keep.refl H []
 have fa:=ha.old
 have fb:=hb.old
 refine Zc<|Za rfl<|Zb<|Zc<|Za rfl<|YG (m:=l.length) rfl<|Za rfl<|YG (m:=l.length) rfl<|Us (a:=(l.length:Int)) (b:=(l.length:Int)) rfl rfl ?_
 rw [show ((l.length:Int) != (l.length:Int))=false by simp]
 refine Zb<|ZR ?_
 first | refine Zl ?_ | skip
 refine Zc<|Za rfl<|Zb ?_
 refine Zx (fn:=Try.f20) ZgL N20 Ziz (fun i:Nat=>[(0,.slice pa l.length cap1),(1,.slice pb l.length cap2),(5,iv (i:Int))])
  (fun k i H'=>i+k=l.length∧Keep H H' []∧Sl H' pa l.length cap1 (acc l)∧Sl H' pb l.length cap2 (acc l)) l.length 0 ⟨by omega,hk,ha,hb⟩ ⟨rfl,rfl,rfl,trivial⟩ ?_
 rintro k i L1 ⟨hik,hk,ha,hb⟩
 have mk:=hk.1
 refine Zc<|Za rfl<|Za rfl<|YG (m:=l.length) rfl<|ZF (a:=(i:Int)) (b:=(l.length:Int)) rfl rfl<|Zb ?_
 refine And.intro (fun q1=>?_) (fun q1=>?_)
 ·have q1:(i:Int) < (l.length:Int):=of_decide_eq_true q1
  have hi:i < l.length:=by omega
  rcases id ha with ⟨_,h0s,_⟩ | ⟨sb,es,rs,_⟩
  ·omega
  have ls:=rs.1
  rcases id hb with ⟨_,h0t,_⟩ | ⟨tb,et,rt,_⟩
  ·omega
  have lt:=rt.1
  first | refine Zl ?_ | skip
  refine YV<|Zf rfl<|Zf rfl<|Zz (b:=sb) (o:=0) (k:=i) (j:=(i:Int)) (by rw [← es];rfl) rfl rfl hi<|YJ (b:=sb) (o:=0+i * 4) rfl rs (js (by omega))<|Zf rfl<|Zf rfl<|Zz (b:=tb) (o:=0) (k:=i) (j:=(i:Int)) (by rw [← et];rfl) rfl rfl hi<|YJ (b:=tb) (o:=0+i * 4) rfl rt (js (by omega))<|XF (v:=.bool false) rfl (ZhQ (a0:=(l.getD i Ac.z).g) (a1:=(l.getD i Ac.z).q) (a2:=(l.getD i Ac.z).u) (a3:=(l.getD i Ac.z).x) rfl rfl) ?_
  refine ZN (by repeat' first | exact True.intro | exact (fun h=>h) | refine And.intro ?_ ?_ | (intro h;have h:(_:Nat)=_:=h;omega)) ?_
  refine ZR ?_
  first | refine Zl ?_ | skip
  show Zp _ _ _ _ _ _ _ _
  refine Za rfl<|Zy (a:=(i:Int)) (b:=1) rfl rfl ⟨by omega,by omega⟩<|Za rfl<|Zb ?_
  exact ⟨k - 1,i+1,by omega,⟨by omega,hk,ha,hb⟩,rfl,rfl,rfl,trivial⟩
 ·have q1:¬ ((i:Int) < (l.length:Int)):=of_decide_eq_false q1
  refine Zc<|Za rfl<|Zb ?_
  exact And.intro trivial (Exists.intro _ (And.intro rfl ⟨rfl,hk⟩))
set_option maxRecDepth 100000 in
theorem ZbV (hlo:lo≤H.next):∃ sa H',FnX Try.prog kn lo 22 [] H (.tuple #[.slice sa 7 7,.agg (Gl.f g0).toArray]) H'∧Sl H' sa 7 7 (cpc cs0)∧Keep H H' []:=by
 have key:=Zr (kn:=kn) (lo:=lo) (H:=H) (args:=[]) (Q:=fun w H'=>∃ sa,w=.tuple #[.slice sa 7 7,.agg (Gl.f g0).toArray]∧Sl H' sa 7 7 (cpc cs0)∧Keep H H' []) Try.func22 B22 N22 Z22 L22 (by simp) ?_
 ·obtain ⟨w,H',h,sa,rfl,r⟩:=key;exact ⟨sa,H',h,r⟩
 have hk:=Keep.refl H []
 refine Zc<|Za rfl<|W0 ?_
 intro H1 kH1 nH1 c1
 have c1:Cl H1 H.next [iv 0,iv 0,iv 0,iv 0]:=c1
 have mH1:=kH1.1
 have hk:=hk.trans kH1
 refine Zb<|Zc<|Zg (v:=.agg #[iv 3,iv 2022,iv 1000]) rfl (by kernel_rfl)<|Zg (v:=.agg #[iv 3,iv 2023,iv 1400]) rfl (by kernel_rfl)<|Zg (v:=.agg #[iv 3,iv 2024,iv 900]) rfl (by kernel_rfl)<|Zg (v:=.agg #[iv 3,iv 2025,iv 1301]) rfl (by kernel_rfl)<|Zg (v:=.agg #[iv 8,iv 2024,iv 500]) rfl (by kernel_rfl)<|Zg (v:=.agg #[iv 8,iv 2021,iv 9999]) rfl (by kernel_rfl)<|Zg (v:=.agg #[iv 5,iv 2020,iv 700]) rfl (by kernel_rfl) ?_
 obtain ⟨H2,hH2⟩:∃ H2,H1.new (.cells [iv 3,iv 2022,iv 1000,iv 3,iv 2023,iv 1400,iv 3,iv 2024,iv 900,iv 3,iv 2025,iv 1301,iv 8,iv 2024,iv 500,iv 8,iv 2021,iv 9999,iv 5,iv 2020,iv 700] 52 false)=H2:=⟨_,rfl⟩
 refine XQ (v:=.slice (some ⟨H1.next,0,none⟩) 7 7) (H':=H2) (k:=.heavy) rfl (by kernel_rfl) (Eq.trans (by kernel_rfl:_=some (Rs.val (.slice (some ⟨H1.next,0,none⟩) 7 7) (H1.new (.cells [iv 3,iv 2022,iv 1000,iv 3,iv 2023,iv 1400,iv 3,iv 2024,iv 900,iv 3,iv 2025,iv 1301,iv 8,iv 2024,iv 500,iv 8,iv 2021,iv 9999,iv 5,iv 2020,iv 700] 52 false)),Kd.heavy)) (by rw [hH2])) (fun b e=>by cases e) ?_
 obtain ⟨kH2,nH2,cU⟩:=ZL hH2;clear hH2
 have mH2:=kH2.1
 have hk:=hk.trans kH2
 have c1:=kH2.cl c1 (by simp)
 refine Za rfl<|Zb<|Zc<|Za rfl<|Zg (v:=.agg #[iv 2026,iv 4,iv 2,iv 850]) rfl (by kernel_rfl)<|Za rfl<|Vs (b:=H.next) (o:=0) rfl rfl c1 (by omega) rfl rfl (by simp) ?_
 intro H3 kH3 nH3 sH3
 have mH3:=kH3.1
 have hk:=hk.new kH3 (fun b hb=>by simp at hb ⊢;omega)
 have cU:=kH3.cl cU (by first | (simp;done) | (simp;omega))
 have c1:Cl H3 H.next [iv 2026,iv 4,iv 2,iv 850]:=sH3
 refine Zb ?_
 exact And.intro trivial (Exists.intro _ (And.intro (Zf9 rfl rfl a24 Zi4 rfl c1) ⟨_,rfl,.inr ⟨_,rfl,cU.rd,Nat.le_refl _⟩,hk⟩))
end
end
end Go.Ax

/-
 Pool: the examples of the document hold (10) (written by program).
-/
namespace Go.Ax
open Go Go.RowKit Go.Proofs

noncomputable section
def q0:List Qt:=[⟨3,1350,1147⟩,⟨8,500,425⟩]
def s0:List Qt:=[⟨3,1350,73⟩,⟨8,500,27⟩]
def a0:List Ac:=[⟨3,1247,1247,53⟩,⟨8,325,325,75⟩]
def ev0:List Ev:=[⟨0,3,0,1000⟩,⟨1,8,3,100⟩,⟨0,3,0,300⟩,⟨0,8,0,400⟩]
theorem awv:vA cs0 g0=true:=by kernel_rfl
theorem awm:mbL g0 cs0=[⟨3,1350⟩,⟨8,500⟩]:=by kernel_rfl
theorem aw1:quL cs0 g0=q0∧quE cs0 g0=0:=by
 unfold quL quE
 rw [if_pos awv,if_pos awv,awm]
 exact ⟨by kernel_rfl,rfl⟩
theorem aw0:∀ m∈mbL g0 cs0,okM m:=by
 rw [awm]
 intro m hm
 simp only [List.mem_cons,List.not_mem_nil,or_false] at hm
 rcases hm with rfl | rfl<;>(unfold okM;simp)
theorem aw2:PcS cs0 g0 1500 811 0:=by
 unfold PcS
 rw [if_pos awv,if_pos (by kernel_rfl)]
 have e1:tot (mbL g0 cs0) 811=1499:=by rw [awm];kernel_rfl
 have e2:tot (mbL g0 cs0) 812=1502:=by rw [awm];kernel_rfl
 refine ⟨rfl,811,rfl,by decide,by omega,fun j hj hd=>?_⟩
 rcases Nat.lt_or_ge 811 j with q | q
 ·have:=qY aw0 (show 812≤j from q);omega
 ·exact q
theorem aw4:ShS cs0 g0 100 s0 0:=by
 unfold ShS
 rw [if_pos awv,if_pos (by kernel_rfl),awm,if_neg (by
  intro h
  have:YD [⟨3,1350⟩,⟨8,500⟩]=1850:=by kernel_rfl
  omega)]
 refine ⟨rfl,[0],⟨by simp,fun p hp=>?_,fun p hp q hq hn=>?_⟩,by kernel_rfl,by kernel_rfl⟩
 ·simp at hp;subst hp;simp
 ·simp at hp hn;subst hp
  have hq1:q=1:=by simp at hq;omega
  subst hq1
  have e1:ZfO [⟨3,1350⟩,⟨8,500⟩] 100 0 = -1800:=by kernel_rfl
  have e2:ZfO [⟨3,1350⟩,⟨8,500⟩] 100 1 = -50:=by kernel_rfl
  left;omega
def al0:List Ac:=acs (qtL g0.p (mbL g0 cs0))
theorem ZcJ:al0=[⟨3,1147,0,0⟩,⟨8,425,0,0⟩]:=by unfold al0;rw [awm];kernel_rfl
theorem aw3:stA al0 ev0 4=a0∧al0.length=2:=by rw [ZcJ];exact ⟨by kernel_rfl,rfl⟩
theorem Zi6:∀ j,j < 4→(stp (stA al0 ev0 j) (ev0.getD j Ev.z)).2=0:=by
 rw [ZcJ]
 have h0:(stp (stA [⟨3,1147,0,0⟩,⟨8,425,0,0⟩] ev0 0) (ev0.getD 0 Ev.z)).2=0:=by kernel_rfl
 have h1:(stp (stA [⟨3,1147,0,0⟩,⟨8,425,0,0⟩] ev0 1) (ev0.getD 1 Ev.z)).2=0:=by kernel_rfl
 have h2:(stp (stA [⟨3,1147,0,0⟩,⟨8,425,0,0⟩] ev0 2) (ev0.getD 2 Ev.z)).2=0:=by kernel_rfl
 have h3:(stp (stA [⟨3,1147,0,0⟩,⟨8,425,0,0⟩] ev0 3) (ev0.getD 3 Ev.z)).2=0:=by kernel_rfl
 intro j hj
 have hj:j=0∨j=1∨j=2∨j=3:=by omega
 rcases hj with rfl | rfl | rfl | rfl
 ·exact h0
 ·exact h1
 ·exact h2
 ·exact h3
abbrev kn0:Kn:=⟨fun _=>none,fun _ _ _ _=>none⟩
section
variable {lo:Nat} {H:Hp}
set_option maxRecDepth 100000 in
set_option maxHeartbeats 2000000 in
theorem awake_C (s:Snd Try.prog kn0) (hlo:lo≤H.next):FnC Try.prog lo 10 [] H fun v _=>v=.bool true:=by
 refine Zbf s Try.func10 B10 N10 Z10 L10 (by simp) ?_
 have hk:=Keep.refl H []
 refine Zm<|Zd rfl<|Zi<|Zm ?_
 obtain ⟨sa,H1,fH1,hs,kH1⟩:=ZbV (kn:=kn0) (lo:=lo) (H:=H) (by omega)
 refine Z3 s (vs:=[]) rfl (YF rfl (by simpa using fH1)) ?_
 have mH1:=kH1.1
 have hk:=hk.trans kH1
 have fs:=hs.old
 refine Zd rfl<|Zk (v:=.slice sa 7 7) rfl (by kernel_rfl)<|Zk (v:=.agg (Gl.f g0).toArray) rfl (by kernel_rfl)<|qz ?_
 intro H2 kH2 nH2 c2
 have c2:Cl H2 H1.next [iv 0,iv 0,iv 0,iv 0]:=c2
 have mH2:=kH2.1
 have hk:=hk.trans kH2
 have hs:=kH2.sl0 hs
 refine Zd rfl<|qd (b:=H1.next) (o:=0) rfl rfl c2 (by omega) rfl rfl (by simp) ?_
 intro H3 kH3 nH3 sH3
 have mH3:=kH3.1
 have hk:=hk.new kH3 (fun b hb=>by simp at hb ⊢;omega)
 have hs:=kH3.sl hs (fun b e=>by have:=fs b e;first | (simp;done) | (simp;omega))
 have c2:Cl H3 H1.next [iv g0.y,iv g0.k,iv g0.b,iv g0.p]:=sH3
 refine Zi<|Zm<|Zd rfl<|YW (b:=H1.next) (o:=0) rfl c2.rd (show row 4 _ _=some [iv g0.y,iv g0.k,iv g0.b,iv g0.p] from rfl)<|YA (t:=.fn (.func 11) #[]) (vs:=[.slice sa 7 7,.agg (Gl.f g0).toArray]) rfl (ZV s.hN (yg (H:=H3) s hs rfl (by omega) (by omega) rfl)) ?_
 rintro _ H4 ⟨uq,rfl,hu,kH4⟩
 rw [aw1.1] at hu
 rw [aw1.2]
 have mH4:=kH4.1
 have hk:=hk.trans kH4
 have hs:=kH4.sl0 hs
 have c2:=kH4.cl c2 (by simp)
 obtain ⟨qa,qcap,rfl,hq,_⟩:=hu.sl
 have fq:=hq.old
 refine Zd rfl<|Zk (v:=.slice qa q0.length qcap) rfl (by kernel_rfl)<|Zk (v:=iv 0) rfl (by kernel_rfl)<|Zd rfl<|Zd rfl<|Zi<|Zm<|Zd rfl<|YW (b:=H1.next) (o:=0) rfl c2.rd (show row 4 _ _=some [iv g0.y,iv g0.k,iv g0.b,iv g0.p] from rfl)<|YA (t:=.fn (.func 13) #[]) (vs:=[.slice sa 7 7,.agg (Gl.f g0).toArray,iv 1500]) rfl (ZV s.hN (VW (H:=H4) s hs rfl (by omega) (by omega) rfl)) ?_
 rintro _ H5 ⟨up,ue,rfl,hpc,kH5⟩
 obtain ⟨e1,e2⟩:=hpc.uniq aw2
 rw [e1,e2]
 have mH5:=kH5.1
 have hk:=hk.trans kH5
 have hs:=kH5.sl0 hs
 have c2:=kH5.cl c2 (by simp)
 have hq:=kH5.sl0 hq
 refine Zd rfl<|Zk (v:=iv 811) rfl (by kernel_rfl)<|Zk (v:=iv 0) rfl (by kernel_rfl)<|Zd rfl<|Zd rfl<|Zi<|Zm<|Zd rfl<|YW (b:=H1.next) (o:=0) rfl c2.rd (show row 4 _ _=some [iv g0.y,iv g0.k,iv g0.b,iv g0.p] from rfl)<|Zk (v:=.agg #[iv 0,iv 3,iv 0,iv 1000]) rfl (by kernel_rfl)<|Zk (v:=.agg #[iv 1,iv 8,iv 3,iv 100]) rfl (by kernel_rfl)<|Zk (v:=.agg #[iv 0,iv 3,iv 0,iv 300]) rfl (by kernel_rfl)<|Zk (v:=.agg #[iv 0,iv 8,iv 0,iv 400]) rfl (by kernel_rfl) ?_
 obtain ⟨H6,hH6⟩:∃ H6,H5.new (.cells [iv 0,iv 3,iv 0,iv 1000,iv 1,iv 8,iv 3,iv 100,iv 0,iv 3,iv 0,iv 300,iv 0,iv 8,iv 0,iv 400] 49 false)=H6:=⟨_,rfl⟩
 refine Wf (v:=.slice (some ⟨H5.next,0,none⟩) 4 4) (H':=H6) (k:=.heavy) rfl (by kernel_rfl) (Eq.trans (by kernel_rfl:_=some (Rs.val (.slice (some ⟨H5.next,0,none⟩) 4 4) (H5.new (.cells [iv 0,iv 3,iv 0,iv 1000,iv 1,iv 8,iv 3,iv 100,iv 0,iv 3,iv 0,iv 300,iv 0,iv 8,iv 0,iv 400] 49 false)),Kd.heavy)) (by rw [hH6])) (fun b e=>by cases e) ?_
 obtain ⟨kH6,nH6,cE⟩:=ZL hH6;clear hH6
 have mH6:=kH6.1
 have hk:=hk.trans kH6
 have hs:=kH6.sl0 hs
 have c2:=kH6.cl c2 (by simp)
 have hq:=kH6.sl0 hq
 refine YA (t:=.fn (.func 18) #[]) (vs:=[.slice sa 7 7,.agg (Gl.f g0).toArray,.slice (some ⟨H5.next,0,none⟩) 4 4]) rfl (ZV s.hN (Zcz (H:=H6) s hs rfl (by omega) (by omega) rfl awv (by rw [awm];decide) (vs:=ev0) (.inr ⟨_,rfl,cE.rd,Nat.le_refl _⟩) rfl (by omega) Zi6)) ?_
 rintro _ H7 ⟨ua,rfl,hua,kH7⟩
 have e3:acs (qtL g0.p (mbL g0 cs0))=al0:=rfl
 rw [e3,aw3.1,aw3.2] at hua
 have mH7:=kH7.1
 have hk:=hk.trans kH7
 have hs:=kH7.sl0 hs
 have c2:=kH7.cl c2 (by simp)
 have hq:=kH7.sl0 hq
 have cE:=kH7.cl cE (by simp)
 obtain ⟨pa,pcap,rfl,hpy,_⟩:=hua.sl
 have fp:=hpy.old
 refine Zd rfl<|Zk (v:=.slice pa 2 pcap) rfl (by kernel_rfl)<|Zk (v:=iv ((4:Nat):Int)) rfl (by kernel_rfl)<|Zk (v:=iv 0) rfl (by kernel_rfl)<|Zd rfl<|Zd rfl<|Zd rfl<|Zi<|Zm<|Zd rfl<|YW (b:=H1.next) (o:=0) rfl c2.rd (show row 4 _ _=some [iv g0.y,iv g0.k,iv g0.b,iv g0.p] from rfl)<|YA (t:=.fn (.func 15) #[]) (vs:=[.slice sa 7 7,.agg (Gl.f g0).toArray,iv 100]) rfl (ZV s.hN (ZbU (H:=H7) s hs rfl (by omega) (by omega) rfl)) ?_
 rintro _ H8 ⟨us,ls,es2,rfl,hsh,hsl,kH8⟩
 obtain ⟨e4,e5⟩:=hsh.uniq aw4
 rw [e4] at hsl
 rw [e5]
 have mH8:=kH8.1
 have hk:=hk.trans kH8
 have hs:=kH8.sl0 hs
 have c2:=kH8.cl c2 (by simp)
 have hq:=kH8.sl0 hq
 have cE:=kH8.cl cE (by simp)
 have hpy:=kH8.sl0 hpy
 obtain ⟨ra,rcap,rfl,hr⟩:=hsl
 have fr:=hr.old
 refine Zd rfl<|Zk (v:=.slice ra s0.length rcap) rfl (by kernel_rfl)<|Zk (v:=iv 0) rfl (by kernel_rfl)<|Zd rfl<|Zd rfl<|Zi<|Zm<|Zd rfl<|Zk (v:=.agg #[iv 3,iv 1350,iv 1147]) rfl (by kernel_rfl)<|Zk (v:=.agg #[iv 8,iv 500,iv 425]) rfl (by kernel_rfl) ?_
 obtain ⟨H9,hH9⟩:∃ H9,H8.new (.cells [iv 3,iv 1350,iv 1147,iv 8,iv 500,iv 425] 44 false)=H9:=⟨_,rfl⟩
 refine Wf (v:=.slice (some ⟨H8.next,0,none⟩) 2 2) (H':=H9) (k:=.heavy) rfl (by kernel_rfl) (Eq.trans (by kernel_rfl:_=some (Rs.val (.slice (some ⟨H8.next,0,none⟩) 2 2) (H8.new (.cells [iv 3,iv 1350,iv 1147,iv 8,iv 500,iv 425] 44 false)),Kd.heavy)) (by rw [hH9])) (fun b e=>by cases e) ?_
 obtain ⟨kH9,nH9,cQ⟩:=ZL hH9;clear hH9
 have mH9:=kH9.1
 have hk:=hk.trans kH9
 have hs:=kH9.sl0 hs
 have c2:=kH9.cl c2 (by simp)
 have hq:=kH9.sl0 hq
 have cE:=kH9.cl cE (by simp)
 have hpy:=kH9.sl0 hpy
 have hr:=kH9.sl0 hr
 obtain ⟨H10,fH10,kH10⟩:=ju (kn:=kn0) (lo:=lo) (H:=H9) (l:=q0) hq (pb:=some ⟨H8.next,0,none⟩) (cap2:=2) (.inr ⟨_,rfl,cQ.rd,Nat.le_refl _⟩) (by decide)
 refine Z3 s (v:=.bool true) (vs:=[.slice qa q0.length qcap,.slice (some ⟨H8.next,0,none⟩) 2 2]) rfl (Zh fH10) ?_
 have mH10:=kH10.1
 have hk:=hk.trans kH10
 have hs:=kH10.sl0 hs
 have c2:=kH10.cl c2 (by simp)
 have hq:=kH10.sl0 hq
 have cE:=kH10.cl cE (by simp)
 have hpy:=kH10.sl0 hpy
 have hr:=kH10.sl0 hr
 have cQ:=kH10.cl cQ (by simp)
 refine Zk (v:=.bool false) rfl rfl<|Zd rfl ?_
 refine Yd rfl (Zd rfl ?_)
 refine Yd rfl (Vw (a:=(0:Int)) (b:=(0:Int)) rfl rfl ?_)
 intro t11 ht11
 have t11e:t11=false:=by rw [← ht11];simp
 subst t11e
 refine Zk (v:=.bool false) rfl rfl<|Zd rfl ?_
 refine Yd rfl (Zd rfl ?_)
 refine Yd rfl (Vw (a:=(811:Int)) (b:=(811:Int)) rfl rfl ?_)
 intro t12 ht12
 have t12e:t12=false:=by rw [← ht12];simp
 subst t12e
 refine Zk (v:=.bool false) rfl rfl<|Zd rfl ?_
 refine Yd rfl (Zd rfl ?_)
 refine Yd rfl (Vw (a:=(0:Int)) (b:=(0:Int)) rfl rfl ?_)
 intro t13 ht13
 have t13e:t13=false:=by rw [← ht13];simp
 subst t13e
 refine Zk (v:=.bool false) rfl rfl<|Zi<|ZR ?_
 first | refine Z8 ?_ | skip
 refine Zm<|Zd rfl<|Zk (v:=.agg #[iv 3,iv 1247,iv 1247,iv 53]) rfl (by kernel_rfl)<|Zk (v:=.agg #[iv 8,iv 325,iv 325,iv 75]) rfl (by kernel_rfl) ?_
 obtain ⟨H14,hH14⟩:∃ H14,H10.new (.cells [iv 3,iv 1247,iv 1247,iv 53,iv 8,iv 325,iv 325,iv 75] 47 false)=H14:=⟨_,rfl⟩
 refine Wf (v:=.slice (some ⟨H10.next,0,none⟩) 2 2) (H':=H14) (k:=.heavy) rfl (by kernel_rfl) (Eq.trans (by kernel_rfl:_=some (Rs.val (.slice (some ⟨H10.next,0,none⟩) 2 2) (H10.new (.cells [iv 3,iv 1247,iv 1247,iv 53,iv 8,iv 325,iv 325,iv 75] 47 false)),Kd.heavy)) (by rw [hH14])) (fun b e=>by cases e) ?_
 obtain ⟨kH14,nH14,cA⟩:=ZL hH14;clear hH14
 have mH14:=kH14.1
 have hk:=hk.trans kH14
 have hs:=kH14.sl0 hs
 have c2:=kH14.cl c2 (by simp)
 have hq:=kH14.sl0 hq
 have cE:=kH14.cl cE (by simp)
 have hpy:=kH14.sl0 hpy
 have hr:=kH14.sl0 hr
 have cQ:=kH14.cl cQ (by simp)
 obtain ⟨H15,fH15,kH15⟩:=Zds (kn:=kn0) (lo:=lo) (H:=H14) (l:=a0) (pa:=pa) (cap1:=pcap) hpy (pb:=some ⟨H10.next,0,none⟩) (cap2:=2) (.inr ⟨_,rfl,cA.rd,Nat.le_refl _⟩) (by decide)
 refine Z3 s (v:=.bool true) (vs:=[.slice pa 2 pcap,.slice (some ⟨H10.next,0,none⟩) 2 2]) rfl (Zh fH15) ?_
 have mH15:=kH15.1
 have hk:=hk.trans kH15
 have hs:=kH15.sl0 hs
 have c2:=kH15.cl c2 (by simp)
 have hq:=kH15.sl0 hq
 have cE:=kH15.cl cE (by simp)
 have hpy:=kH15.sl0 hpy
 have hr:=kH15.sl0 hr
 have cQ:=kH15.cl cQ (by simp)
 have cA:=kH15.cl cA (by simp)
 refine Zk (v:=.bool false) rfl rfl<|Zd rfl ?_
 refine Yd rfl (Zd rfl ?_)
 refine Yd rfl (Vw (a:=(4:Int)) (b:=(4:Int)) rfl rfl ?_)
 intro t16 ht16
 have t16e:t16=false:=by rw [← ht16];simp
 subst t16e
 refine Zk (v:=.bool false) rfl rfl<|Zd rfl ?_
 refine Yd rfl (Zd rfl ?_)
 refine Yd rfl (Vw (a:=(0:Int)) (b:=(0:Int)) rfl rfl ?_)
 intro t17 ht17
 have t17e:t17=false:=by rw [← ht17];simp
 subst t17e
 refine Zk (v:=.bool false) rfl rfl<|Zi<|ZR ?_
 first | refine Z8 ?_ | skip
 refine Zm<|Zd rfl<|Zk (v:=.agg #[iv 3,iv 1350,iv 73]) rfl (by kernel_rfl)<|Zk (v:=.agg #[iv 8,iv 500,iv 27]) rfl (by kernel_rfl) ?_
 obtain ⟨H18,hH18⟩:∃ H18,H15.new (.cells [iv 3,iv 1350,iv 73,iv 8,iv 500,iv 27] 44 false)=H18:=⟨_,rfl⟩
 refine Wf (v:=.slice (some ⟨H15.next,0,none⟩) 2 2) (H':=H18) (k:=.heavy) rfl (by kernel_rfl) (Eq.trans (by kernel_rfl:_=some (Rs.val (.slice (some ⟨H15.next,0,none⟩) 2 2) (H15.new (.cells [iv 3,iv 1350,iv 73,iv 8,iv 500,iv 27] 44 false)),Kd.heavy)) (by rw [hH18])) (fun b e=>by cases e) ?_
 obtain ⟨kH18,nH18,cS⟩:=ZL hH18;clear hH18
 have mH18:=kH18.1
 have hk:=hk.trans kH18
 have hs:=kH18.sl0 hs
 have c2:=kH18.cl c2 (by simp)
 have hq:=kH18.sl0 hq
 have cE:=kH18.cl cE (by simp)
 have hpy:=kH18.sl0 hpy
 have hr:=kH18.sl0 hr
 have cQ:=kH18.cl cQ (by simp)
 have cA:=kH18.cl cA (by simp)
 obtain ⟨H19,fH19,kH19⟩:=ju (kn:=kn0) (lo:=lo) (H:=H18) (l:=s0) hr (pb:=some ⟨H15.next,0,none⟩) (cap2:=2) (.inr ⟨_,rfl,cS.rd,Nat.le_refl _⟩) (by decide)
 refine Z3 s (v:=.bool true) (vs:=[.slice ra s0.length rcap,.slice (some ⟨H15.next,0,none⟩) 2 2]) rfl (Zh fH19) ?_
 have mH19:=kH19.1
 have hk:=hk.trans kH19
 have hs:=kH19.sl0 hs
 have c2:=kH19.cl c2 (by simp)
 have hq:=kH19.sl0 hq
 have cE:=kH19.cl cE (by simp)
 have hpy:=kH19.sl0 hpy
 have hr:=kH19.sl0 hr
 have cQ:=kH19.cl cQ (by simp)
 have cA:=kH19.cl cA (by simp)
 have cS:=kH19.cl cS (by simp)
 refine Zd rfl ?_
 refine Yd rfl (Zd rfl ?_)
 refine Yd rfl (XL (a:=(0:Int)) (b:=(0:Int)) rfl rfl ?_)
 intro t20 ht20
 have t20e:t20=true:=by rw [← ht20];simp
 subst t20e
 refine Zk (v:=.bool true) rfl rfl<|Zd rfl<|Zi ?_
 exact And.intro trivial (Exists.intro _ (And.intro rfl rfl))
end
end
end Go.Ax

/-
 Proved here: 'awake',the closed part that every law of quota ends in,returns true in every world,whatever is drawn,and leaves what lay below as_ it was. Conditions: none.
 It has no arguments;it is worked out by the contracts of the functions that it calls (K25).
-/
namespace Go.Ax
open Go Go.RowKit
theorem known_one {P:Program} {g:FuncId} {t:Bool} (hb:((P.funcs[g]?).bind (fun fn=>fn.body)).isSome=true) (hc:∀ w,Calls P g #[] w fun e w'=>e=.returned (.bool t)∧Below w.heap.size w w') :
  Known P ⟨fun f=>bif Nat.beq f g then some t else none,fun _ _ _ _=>none⟩:=by
 refine ⟨?_,fun f lo args H v H' _ h=>by cases h⟩
 intro f b h
 obtain ⟨hf,h1⟩:=Ze h
 clear h
 have hf:=Nat.eq_of_beq_eq_true hf
 subst hf
 cases h1
 refine ⟨?_,hc⟩
 cases hx:P.funcs[f]? with
 | none=>rw [hx] at hb;cases hb
 | some fn=>
  rw [hx] at hb
  cases hy:fn.body with
  | none=>rw [Option.bind_some,hy] at hb;cases hb
  | some c=>exact ⟨fn,c,rfl,hy⟩
theorem known_nothing {P:Program}:Known P ⟨fun _=>none,fun _ _ _ _=>none⟩:=⟨y0.nothing P,fun f lo args H v H' _ h=>by cases h⟩
end Go.Ax
namespace Go.Proofs.Ytobbfhkodccclaa.alive
open Go.RowKit
theorem Zfi:Try.prog.follows .mixedOrders=true:=by kernel_rfl
theorem ZaL : (Try.prog.funcs.toList.all fun fn => !(fn.name == "runtime.NumGoroutine")) = true := by kernel_rfl
theorem Zbk:Go.Ax.NoCount Try.prog:=fun f fn h=>by
 have h2:=List.all_eq_true.1 ZaL fn (by
  have:=Array.mem_of_getElem? h
  simpa using this)
 simpa using h2
theorem call (w:World):Calls Try.prog 10 #[] w fun e w'=>e=.returned (.bool true)∧Below w.heap.size w w':=
 Go.Ax.closed_callC (Go.Ax.awake_C ⟨Zfi,Zbk,Go.Ax.known_nothing⟩ (Nat.zero_le _)) w
theorem K2:Go.Ax.Known Try.prog ⟨fun f=>bif Nat.beq f 10 then some true else none,fun _ _ _ _=>none⟩:=Go.Ax.known_one (by kernel_rfl) call
theorem snd:Go.Ax.Snd Try.prog ⟨fun f=>bif Nat.beq f 10 then some true else none,fun _ _ _ _=>none⟩:=⟨Zfi,Zbk,K2⟩
end Go.Proofs.Ytobbfhkodccclaa.alive

/-
 Pool: the law QuotaBases,whatever the input (written by program).
-/
namespace Go.Ax
open Go Go.RowKit Go.Proofs

noncomputable section
theorem ShS.len {cs:List Cp} {g:Gl} {tot e:Int} {l:List Qt} (h:ShS cs g tot l e):l.length≤cs.length:=by
 unfold ShS at h
 split at h
 ·rename_i hv
  split at h
  ·split at h
   ·rw [h.1];simp
   ·obtain ⟨_,ps,_,_,el⟩:=h
    rw [el,yZ];exact UR (KA hv).1
  ·rw [h.1];simp
 ·rw [h.1];simp
section
variable {kn:Kn} {lo:Nat} {H:Hp}
end
end
end Go.Ax

/-
 Pool: the law QuotaLaw,whatever the input: maths and the program (written by program).
-/
namespace Go.Ax
open Go Go.RowKit Go.Proofs

noncomputable section
theorem PcS.cases {cs:List Cp} {g:Gl} {dm v e:Int} (h:PcS cs g dm v e) :
  (v=0∧e=1∧vA cs g=false)∨(v=0∧e=2∧vA cs g=true∧inB dm 0 1099511627776=false)∨(∃ m:Nat,v=m∧e=0∧vA cs g=true∧inB dm 0 1099511627776=true∧Mx (mbL g cs) dm m):=by
 unfold PcS at h
 split at h<;>rename_i hv
 ·split at h<;>rename_i hd
  ·obtain ⟨h1,m,h2,h3⟩:=h;exact .inr (.inr ⟨m,h2,h1,hv,hd,h3⟩)
  ·exact .inr (.inl ⟨h.1,h.2,hv,by simpa using hd⟩)
 ·exact .inl ⟨h.1,h.2,by simpa using hv⟩
theorem jV {ms:List Mb} {dm:Int} {m i:Nat} (h:Mx ms dm m) (hi:i < 2) (hp:(m:Int)+(i:Int)≤1000):Xr (qtL ((m:Int)+(i:Int)) ms)≤dm↔i=0:=by
 have e:Xr (qtL ((m:Int)+(i:Int)) ms)=tot ms (m+i):=by unfold tot;rw [Int.natCast_add]
 rw [e]
 constructor
 ·intro q;have:=h.2.2 (m+i) (by omega) q;omega
 ·rintro rfl;exact h.2.1
theorem ZiN {cs:List Cp} {g:Gl} {p:Int} (hv:vA cs g=true) (hp:0≤p∧p≤1000):vA cs ⟨g.y,g.k,g.b,p⟩=true:=by
 unfold vA vG at hv ⊢
 simp only [Bool.and_eq_true] at hv ⊢
 exact ⟨hv.1,hv.2.1,by unfold inB;simp;omega⟩
set_option maxRecDepth 100000 in
theorem Zfq {k:Nat} {S:Rg} {d:Option Tmp} {ty:TypeId} {p:String} {x:Operand} {y:Int} (h:0≤y∧y≤4294967295) (hx:evS S x=some (.int .u32 y)):Zn Try.prog (frS k S) ⟨d,.convert 42 3 x,ty,p,#[],none⟩=some (iv y):=by
 have e:∀ z:Int,ZB Try.prog (Go.convert 42 3 (.int .u32 z))=some (.int .i64 (IntKind.i64.wrap z)):=fun z=>by kernel_rfl
 unfold Zn
 simp only [Ym,hx,e,wrap_i64 (x:=y) ⟨by omega,by omega⟩]
 rfl
section
variable {kn:Kn} {lo:Nat} {H:Hp}
set_option maxRecDepth 100000 in
set_option maxHeartbeats 4000000 in
theorem ZeK (s:Snd Try.prog kn) (hkn:kn.b 10=some true) {cs:List Cp} {sa:Option Addr} {n cap:Nat} (hs:Sl H sa n cap (cpc cs)) (hl:cs.length=n) {g:Gl} {dm y:Int} (hy:0≤y∧y≤4294967295) (hlo:lo≤H.next):FnC Try.prog lo 5 [.slice sa n cap,.agg (Gl.f g).toArray,iv dm,.int .u32 y] H fun v _=>v=.bool true:=by
 refine Zbf s Try.func5 B5 N5 Z5 L5 (by simp) ?_
 have hk:=Keep.refl H []
 have fs:=hs.old
 refine Zm<|Uz (v:=.agg (Gl.f g).toArray) rfl ?_
 intro H1 kH1 nH1 c1
 have c1:Cl H1 H.next [iv g.y,iv g.k,iv g.b,iv g.p]:=c1
 have mH1:=kH1.1
 have hk:=hk.trans kH1
 have hs:=kH1.sl0 hs
 refine Zd rfl<|Zi<|Zm<|Zd rfl<|Jz (m:=n) rfl<|KV (a:=(n:Int)) (b:=100) rfl rfl<|Zi ?_
 refine And.intro (fun q1=>?_) (fun q1=>?_)
 ·have q1:(n:Int) > 100:=of_decide_eq_true q1
  refine Zm<|Z3 s (vs:=[]) rfl (WC hkn)<|Zd rfl<|Zi ?_
  exact And.intro trivial (Exists.intro _ (And.intro rfl rfl))
 ·have q1:¬ ((n:Int) > 100):=of_decide_eq_false q1
  have hmn:yN n=false:=Zgn (by omega)
  first | refine Z8 ?_ | skip
  refine Zm<|Zd rfl<|YW (b:=H.next) (o:=0) rfl c1.rd (show row 4 _ _=some [iv g.y,iv g.k,iv g.b,iv g.p] from rfl)<|Zd rfl<|YA (t:=.fn (.func 13) #[]) (vs:=[.slice sa n cap,.agg (Gl.f g).toArray,iv dm]) rfl (ZV s.hN (VW (H:=H1) s hs hl (by omega) (by omega) hmn (dm:=dm))) ?_
  rintro _ H2 ⟨up,ue,rfl,hpc,kH2⟩
  have mH2:=kH2.1
  have hk:=hk.trans kH2
  have hs:=kH2.sl0 hs
  have c1:=kH2.cl c1 (by simp)
  rcases hpc.cases with ⟨rfl,rfl,hvA⟩ | ⟨rfl,rfl,hvA,hdm⟩ | ⟨m,rfl,rfl,hvA,hdm,hmx⟩
  ·refine Zd rfl<|Zk (v:=iv 0) rfl (by kernel_rfl)<|Zk (v:=iv 1) rfl (by kernel_rfl)<|Zd rfl<|Zd rfl<|Zi<|Zm<|Zd rfl<|QC (a:=1) (b:=0) rfl rfl ?_
   rw [show ((1:Int) != (0:Int))=true from by simp]
   refine Zi<|Xm<|Zm<|Zd rfl<|XL (a:=0) (b:=0) rfl rfl ?_
   intro t3 ht3
   have t3e:t3=true:=by rw [← ht3];exact (by simp)
   subst t3e
   refine Zd rfl ?_
   refine Yd rfl (Zd rfl ?_)
   refine Yd rfl (XL (a:=1) (b:=1) rfl rfl ?_)
   intro t4 ht4
   have t4e:t4=true:=by rw [← ht4];exact (by simp)
   subst t4e
   refine Yd rfl (Zd rfl ?_)
   refine X5 rfl<|X5 rfl ?_
   refine Yd rfl (Zk (v:=.bool true) rfl rfl ?_)
   refine Zk (v:=.bool true) rfl rfl<|Zd rfl ?_
   refine Yd rfl (Z3 s (vs:=[]) rfl (WC hkn) ?_)
   refine Zk (v:=.bool true) rfl rfl<|Zd rfl<|Zi ?_
   exact And.intro trivial (Exists.intro _ (And.intro rfl rfl))
  ·refine Zd rfl<|Zk (v:=iv 0) rfl (by kernel_rfl)<|Zk (v:=iv 2) rfl (by kernel_rfl)<|Zd rfl<|Zd rfl<|Zi<|Zm<|Zd rfl<|QC (a:=2) (b:=0) rfl rfl ?_
   rw [show ((2:Int) != (0:Int))=true from by simp]
   refine Zi<|Xm<|Zm<|Zd rfl<|XL (a:=0) (b:=0) rfl rfl ?_
   intro t5 ht5
   have t5e:t5=true:=by rw [← ht5];exact (by simp)
   subst t5e
   refine Zd rfl ?_
   refine Yd rfl (Zd rfl ?_)
   refine Yd rfl (XL (a:=2) (b:=1) rfl rfl ?_)
   intro t6 ht6
   have t6e:t6=false:=by rw [← ht6];exact (by simp)
   subst t6e
   refine Yd rfl (Zd rfl ?_)
   refine Yd rfl (Zd rfl ?_)
   refine Yd rfl (XL (a:=2) (b:=2) rfl rfl ?_)
   intro t7 ht7
   have t7e:t7=true:=by rw [← ht7];exact (by simp)
   subst t7e
   refine Yd rfl (Zk (v:=.bool true) rfl rfl ?_)
   refine Zk (v:=.bool true) rfl rfl<|Zd rfl ?_
   refine Yd rfl (Z3 s (vs:=[]) rfl (WC hkn) ?_)
   refine Zk (v:=.bool true) rfl rfl<|Zd rfl<|Zi ?_
   exact And.intro trivial (Exists.intro _ (And.intro rfl rfl))
  ·have hdmu:=YQ hdm
   have hb:=(KA hvA).1;have hg:=(KA hvA).2;have hgt:=qO hg;have hmlen:=UR (g:=g) hb;have hmok:=Kw hb hg;have hsm:=(ZbF (by unfold vA at hvA;simp only [Bool.and_eq_true] at hvA;exact hvA.1)).1
   have hm1:=hmx.1
   refine Zd rfl<|Zk (v:=iv (m:Int)) rfl (by kernel_rfl)<|Zk (v:=iv 0) rfl (by kernel_rfl)<|Zd rfl<|Zd rfl<|Zi<|Zm<|Zd rfl<|QC (a:=0) (b:=0) rfl rfl ?_
   rw [show ((0:Int) != (0:Int))=false from by simp]
   refine Zi<|ZR ?_
   first | refine Z8 ?_ | skip
   refine Zm<|Zd rfl<|Kt (a:=(m:Int)) (b:=0) rfl rfl ?_
   intro t8 ht8
   have t8e:t8=false:=by rw [← ht8];exact (decide_eq_false (by omega))
   subst t8e
   refine Zd rfl ?_
   refine Yd rfl (Zd rfl ?_)
   refine Yd rfl (ZcS (a:=(m:Int)) (b:=1000) rfl rfl ?_)
   intro t9 ht9
   have t9e:t9=false:=by rw [← ht9];exact (decide_eq_false (by omega))
   subst t9e
   refine Zk (v:=.bool false) rfl rfl<|Zd rfl ?_
   refine Yd rfl (Zd rfl ?_)
   refine Yd rfl (Kt (a:=dm) (b:=0) rfl rfl ?_)
   intro t10 ht10
   have t10e:t10=false:=by rw [← ht10];exact (decide_eq_false (by omega))
   subst t10e
   refine Zk (v:=.bool false) rfl rfl<|Zi<|ZR ?_
   first | refine Z8 ?_ | skip
   refine Zm<|Zd rfl<|Zi ?_
   refine Wl s (fn:=Try.f5) ZiQ N5 Zjp (fun i:Nat=>[(0,.slice sa n cap),(2,iv dm),(3,.int .u32 y),(5,pt H.next),(9,iv (m:Int)),(11,iv (i:Int))])
    (fun k i H'=>i+k=2∧Keep H H' []∧Sl H' sa n cap (cpc cs)∧Cl H' H.next [iv g.y,iv g.k,iv g.b,iv g.p]) 2 0 ⟨by omega,hk,hs,c1⟩ ⟨rfl,rfl,rfl,rfl,rfl,rfl,trivial⟩ ?_
   rintro k i L1 ⟨hik,hk,hs,c1⟩
   have mk:=hk.1;have mc:=c1.1
   refine Zm<|Zd rfl<|UG (a:=(i:Int)) (b:=2) rfl rfl<|Zi ?_
   refine And.intro (fun q2=>?_) (fun q2=>?_)
   ·have q2:(i:Int) < 2:=of_decide_eq_true q2
    first | refine Z8 ?_ | skip
    refine Zm<|YW (b:=H.next) (o:=0) rfl c1.rd (show row 4 _ _=some [iv g.y,iv g.k,iv g.b,iv g.p] from rfl)<|qz ?_
    intro H11 kH11 nH11 c11
    have c11:Cl H11 L1.next [iv 0,iv 0,iv 0,iv 0]:=c11
    have mH11:=kH11.1
    have hk:=hk.trans kH11
    have hs:=kH11.sl0 hs
    have c1:=kH11.cl c1 (by simp)
    refine qd (b:=L1.next) (o:=0) rfl rfl c11 (by omega) rfl rfl (by simp) ?_
    intro H12 kH12 nH12 sH12
    have mH12:=kH12.1
    have hk:=hk.new kH12 (fun b hb=>by simp at hb ⊢;omega)
    have hs:=kH12.sl hs (fun b e=>by have:=fs b e;first | (simp;done) | (simp;omega))
    have c1:=kH12.cl c1 (by first | (simp;done) | (simp;omega))
    have c11:Cl H12 L1.next [iv g.y,iv g.k,iv g.b,iv g.p]:=sH12
    refine Zi<|Zm<|Zd rfl<|Zd rfl<|WG (a:=(m:Int)) (b:=(i:Int)) rfl rfl ⟨by omega,by omega⟩<|Xn (b:=L1.next) (o:=0) rfl<|ZfF (b:=L1.next) (o:=3) rfl rfl c11 (by omega) rfl rfl (by simp) ?_
    intro H13 kH13 nH13 sH13
    have mH13:=kH13.1
    have hk:=hk.new kH13 (fun b hb=>by simp at hb ⊢;omega)
    have hs:=kH13.sl hs (fun b e=>by have:=fs b e;first | (simp;done) | (simp;omega))
    have c1:=kH13.cl c1 (by first | (simp;done) | (simp;omega))
    have c11:Cl H13 L1.next [iv g.y,iv g.k,iv g.b,iv ((m:Int)+(i:Int))]:=sH13
    refine Zi<|Zm<|Xn (b:=L1.next) (o:=0) rfl<|WB (b:=L1.next) (o:=3) (v:=iv ((m:Int)+(i:Int))) rfl c11.rd rfl<|KV (a:=(m:Int)+(i:Int)) (b:=1000) rfl rfl<|Zi ?_
    refine And.intro (fun q3=>?_) (fun q3=>?_)
    ·have q3:((m:Int)+(i:Int)) > 1000:=of_decide_eq_true q3
     first | (refine Vd ?_;show wCM _ _ _ _ _ _ _ _ _) | skip
     refine Zm<|Zd rfl<|YW (b:=H.next) (o:=0) rfl c1.rd (show row 4 _ _=some [iv g.y,iv g.k,iv g.b,iv g.p] from rfl)<|Zd rfl<|Zd rfl<|Zk (v:=iv y) rfl (Zfq hy rfl)<|WG (a:=dm) (b:=y) rfl rfl ⟨by omega,by omega⟩<|Zfv (a:=1099511627776) (b:=dm+y) rfl rfl<|YA (t:=.fn (.func 13) #[]) (vs:=[.slice sa n cap,.agg (Gl.f g).toArray,iv (min 1099511627776 (dm+y))]) rfl (ZV s.hN (VW (H:=H13) s hs hl (by omega) (by omega) hmn (dm:=min 1099511627776 (dm+y)))) ?_
     rintro _ H14 ⟨up2,ue2,rfl,hpc2,kH14⟩
     have mH14:=kH14.1
     have hk:=hk.trans kH14
     have hs:=kH14.sl0 hs
     have c1:=kH14.cl c1 (by simp)
     have c11:=kH14.cl c11 (by simp)
     obtain ⟨m2,rfl,rfl,hmx2⟩:∃ m2:Nat,up2=m2∧ue2=0∧Mx (mbL g cs) _ m2:=by
      rcases hpc2.cases with ⟨_,_,h⟩ | ⟨_,_,_,h⟩ | ⟨m2,h1,h2,_,_,h3⟩
      ·rw [hvA] at h;cases h
      ·have:=XJ h;omega
      ·exact ⟨m2,h1,h2,h3⟩
     have hge:m≤m2:=hmx2.2.2 m hmx.1 (by have:=hmx.2.1;omega)
     refine Zd rfl<|Zk (v:=iv (m2:Int)) rfl (by kernel_rfl)<|Zk (v:=iv 0) rfl (by kernel_rfl)<|Zd rfl<|Zd rfl<|Zi<|Zm<|Zd rfl<|XL (a:=0) (b:=0) rfl rfl ?_
     intro t15 ht15
     have t15e:t15=true:=by rw [← ht15];exact (by simp)
     subst t15e
     refine Zd rfl ?_
     refine Yd rfl (Zd rfl ?_)
     refine Yd rfl (Zd rfl ?_)
     refine Yd rfl (KR (a:=(m2:Int)) (b:=(m:Int)) rfl rfl ?_)
     intro t16 ht16
     have t16e:t16=true:=by rw [← ht16];exact (decide_eq_true (by omega))
     subst t16e
     refine Zk (v:=.bool true) rfl rfl<|Zd rfl ?_
     refine Yd rfl (Z3 s (vs:=[]) rfl (WC hkn) ?_)
     refine Zk (v:=.bool true) rfl rfl<|Zd rfl<|Zi ?_
     exact And.intro trivial (Exists.intro _ (And.intro rfl rfl))
    ·have q3:¬ (((m:Int)+(i:Int)) > 1000):=of_decide_eq_false q3
     first | refine Z8 ?_ | skip
     refine Zm<|Zd rfl<|YW (b:=L1.next) (o:=0) rfl c11.rd (show row 4 _ _=some [iv g.y,iv g.k,iv g.b,iv ((m:Int)+(i:Int))] from rfl) ?_
     have hvA2:vA cs ⟨g.y,g.k,g.b,(m:Int)+(i:Int)⟩=true:=ZiN hvA ⟨by omega,by omega⟩
     refine YA (t:=.fn (.func 11) #[]) (vs:=[.slice sa n cap,.agg (Gl.f ⟨g.y,g.k,g.b,(m:Int)+(i:Int)⟩).toArray]) rfl (ZV s.hN (yg (H:=H13) s hs hl (by omega) (by omega) hmn (g:=⟨g.y,g.k,g.b,(m:Int)+(i:Int)⟩))) ?_
     rintro _ H17 ⟨uq,rfl,hu,kH17⟩
     have mH17:=kH17.1
     have hk:=hk.trans kH17
     have hs:=kH17.sl0 hs
     have c1:=kH17.cl c1 (by simp)
     have c11:=kH17.cl c11 (by simp)
     have hqE:quE cs ⟨g.y,g.k,g.b,(m:Int)+(i:Int)⟩=0:=by unfold quE;rw [hvA2];rfl
     have hqL:quL cs ⟨g.y,g.k,g.b,(m:Int)+(i:Int)⟩=(qtL ((m:Int)+(i:Int)) (mbL g cs)):=by unfold quL;rw [if_pos hvA2];rfl
     rw [hqE]
     rw [hqL,WR] at hu
     obtain ⟨qa,qcap,rfl,hq,_⟩:=hu.sl
     have fq:=hq.old
     have hqok:=ZdR (p:=(m:Int)+(i:Int)) hmok (by omega) (by omega)
     refine Zd rfl<|Zk (v:=.slice qa ((mbL g cs).length) qcap) rfl (by kernel_rfl)<|Zk (v:=iv 0) rfl (by kernel_rfl)<|Zd rfl<|Zd rfl<|Zi<|Zm<|Zd rfl<|Zi<|Zm<|Zd rfl<|Zi ?_
     refine Wl s (fn:=Try.f5) Zji N5 Zjd (fun j:Nat=>[(0,.slice sa n cap),(2,iv dm),(3,.int .u32 y),(5,pt H.next),(9,iv (m:Int)),(11,iv (i:Int)),(13,.slice qa ((mbL g cs).length) qcap),(14,iv 0),(15,iv (Xr ((qtL ((m:Int)+(i:Int)) (mbL g cs)).take j))),(16,iv (j:Int))])
      (fun k j H'=>j+k=(mbL g cs).length∧Keep H H' []∧Sl H' sa n cap (cpc cs)∧Sl H' qa (mbL g cs).length qcap (qtc (qtL ((m:Int)+(i:Int)) (mbL g cs)))∧Cl H' H.next [iv g.y,iv g.k,iv g.b,iv g.p]) (mbL g cs).length 0 ⟨by omega,hk,hs,hq,c1⟩ ⟨rfl,rfl,rfl,rfl,rfl,rfl,rfl,rfl,rfl,rfl,trivial⟩ ?_
     rintro k2 j L2 ⟨hjk,hk,hs,hq,c1⟩
     have mk:=hk.1;have mc:=c1.1
     refine Zm<|Zd rfl<|Zd rfl<|Jz (m:=(mbL g cs).length) rfl<|UG (a:=(j:Int)) (b:=((mbL g cs).length:Int)) rfl rfl<|Zi ?_
     refine And.intro (fun q4=>?_) (fun q4=>?_)
     ·have q4:(j:Int) < ((mbL g cs).length:Int):=of_decide_eq_true q4
      have hj:j < (mbL g cs).length:=by omega
      rcases id hq with ⟨_,h0s,_⟩ | ⟨sb,es,rs,_⟩
      ·omega
      have ls:=rs.1
      have lsb2:=fq sb es
      have hal:=Zew hqok j (by rw [WR];omega)
      have hok1:=Xt (z:=Qt.z) hqok (i:=j) (by rw [WR];omega)
      rw [zp (by omega)] at hok1
      have hok1:0≤((mbL g cs).getD j Mb.z).b * ((m:Int)+(i:Int)) / 1000∧((mbL g cs).getD j Mb.z).b * ((m:Int)+(i:Int)) / 1000≤2199023255552:=hok1
      first | refine Z8 ?_ | skip
      show Zo _ _ _ _ _ _ _ _
      refine Zd rfl<|Zd rfl<|Zd rfl<|yn (b:=sb) (o:=0) (k:=j) (j:=(j:Int)) (by rw [← es];rfl) rfl rfl hj<|Xn (b:=sb) (o:=0+j * 3) rfl<|WB (b:=sb) (o:=0+j * 3+2) (v:=iv (((mbL g cs).getD j Mb.z).b * ((m:Int)+(i:Int)) / 1000)) rfl rs (by have:=Zbm (l:=(qtL ((m:Int)+(i:Int)) (mbL g cs))) (i:=j) (j:=2) (by rw [WR];omega) rfl;rw [zp (by omega)] at this;exact this)<|WG (a:=(Xr ((qtL ((m:Int)+(i:Int)) (mbL g cs)).take j))) (b:=(((mbL g cs).getD j Mb.z).b * ((m:Int)+(i:Int)) / 1000)) rfl rfl ⟨by omega,by omega⟩<|Zd rfl<|Zi ?_
      show Zo _ _ _ _ _ _ _ _
      refine Zd rfl<|WG (a:=(j:Int)) (b:=1) rfl rfl ⟨by omega,by omega⟩<|Zd rfl<|Zi ?_
      exact ⟨k2 - 1,j+1,by omega,⟨by omega,hk,hs,hq,c1⟩,rfl,rfl,rfl,rfl,rfl,rfl,rfl,rfl,by rw [ZfK (by omega)];rfl,rfl,trivial⟩
     ·have q4:¬ ((j:Int) < ((mbL g cs).length:Int)):=of_decide_eq_false q4
      have ejM:j=(mbL g cs).length:=by omega
      rw [ejM,show Xr ((qtL ((m:Int)+(i:Int)) (mbL g cs)).take (mbL g cs).length)=Xr (qtL ((m:Int)+(i:Int)) (mbL g cs)) from by rw [List.take_of_length_le (by rw [WR];exact Nat.le_refl _)]]
      first | (refine Vd ?_;show wCM _ _ _ _ _ _ _ _ _) | skip
      refine Zm<|Zd rfl<|Vw (a:=0) (b:=0) rfl rfl ?_
      intro t18 ht18
      have t18e:t18=false:=by rw [← ht18];exact (by simp)
      subst t18e
      refine Zd rfl ?_
      refine Yd rfl (Zd rfl ?_)
      refine Yd rfl (Zd rfl ?_)
      refine Yd rfl (Zcv (a:=(Xr (qtL ((m:Int)+(i:Int)) (mbL g cs)))) (b:=dm) rfl rfl ?_)
      intro t5 g5;cases t5
      ·have g5:¬ ((Xr (qtL ((m:Int)+(i:Int)) (mbL g cs)))≤dm):=of_decide_eq_false g5
       have hi1:¬ i=0:=fun e=>g5 ((jV hmx (by omega) (by omega)).2 e)
       refine Yd rfl (Zd rfl ?_)
       refine Yd rfl (XL (a:=(i:Int)) (b:=0) rfl rfl ?_)
       intro t6 g6;cases t6
       ·have g6:¬ ((i:Int)=0):=by simpa using g6
        refine Yd rfl (Zk (v:=.bool false) rfl rfl ?_)
        refine Zk (v:=.bool false) rfl rfl<|Zi<|ZR ?_
        first | refine Z8 ?_ | skip
        show Zo _ _ _ _ _ _ _ _
        refine Zd rfl<|WG (a:=(i:Int)) (b:=1) rfl rfl ⟨by omega,by omega⟩<|Zd rfl<|Zi ?_
        exact ⟨k - 1,i+1,by omega,⟨by omega,hk,hs,c1⟩,rfl,rfl,rfl,rfl,rfl,rfl,trivial⟩
       ·have g6:(i:Int)=0:=by simpa using g6
        omega
      ·have g5:(Xr (qtL ((m:Int)+(i:Int)) (mbL g cs)))≤dm:=of_decide_eq_true g5
       have hi0:=(jV hmx (by omega) (by omega)).1 g5
       refine Yd rfl (Zd rfl ?_)
       refine Yd rfl (XL (a:=(i:Int)) (b:=0) rfl rfl ?_)
       intro t7 g7;cases t7
       ·have g7:¬ ((i:Int)=0):=by simpa using g7
        omega
       ·have g7:(i:Int)=0:=by simpa using g7
        refine Yd rfl (Zk (v:=.bool false) rfl rfl ?_)
        refine Zk (v:=.bool false) rfl rfl<|Zi<|ZR ?_
        first | refine Z8 ?_ | skip
        show Zo _ _ _ _ _ _ _ _
        refine Zd rfl<|WG (a:=(i:Int)) (b:=1) rfl rfl ⟨by omega,by omega⟩<|Zd rfl<|Zi ?_
        exact ⟨k - 1,i+1,by omega,⟨by omega,hk,hs,c1⟩,rfl,rfl,rfl,rfl,rfl,rfl,trivial⟩
   ·have q2:¬ ((i:Int) < 2):=of_decide_eq_false q2
    first | (refine Vd ?_;show wCM _ _ _ _ _ _ _ _ _) | skip
    refine Zm<|Zd rfl<|YW (b:=H.next) (o:=0) rfl c1.rd (show row 4 _ _=some [iv g.y,iv g.k,iv g.b,iv g.p] from rfl)<|Zd rfl<|Zd rfl<|Zk (v:=iv y) rfl (Zfq hy rfl)<|WG (a:=dm) (b:=y) rfl rfl ⟨by omega,by omega⟩<|Zfv (a:=1099511627776) (b:=dm+y) rfl rfl<|YA (t:=.fn (.func 13) #[]) (vs:=[.slice sa n cap,.agg (Gl.f g).toArray,iv (min 1099511627776 (dm+y))]) rfl (ZV s.hN (VW (H:=L1) s hs hl (by omega) (by omega) hmn (dm:=min 1099511627776 (dm+y)))) ?_
    rintro _ H19 ⟨up2,ue2,rfl,hpc2,kH19⟩
    have mH19:=kH19.1
    have hk:=hk.trans kH19
    have hs:=kH19.sl0 hs
    have c1:=kH19.cl c1 (by simp)
    obtain ⟨m2,rfl,rfl,hmx2⟩:∃ m2:Nat,up2=m2∧ue2=0∧Mx (mbL g cs) _ m2:=by
     rcases hpc2.cases with ⟨_,_,h⟩ | ⟨_,_,_,h⟩ | ⟨m2,h1,h2,_,_,h3⟩
     ·rw [hvA] at h;cases h
     ·have:=XJ h;omega
     ·exact ⟨m2,h1,h2,h3⟩
    have hge:m≤m2:=hmx2.2.2 m hmx.1 (by have:=hmx.2.1;omega)
    refine Zd rfl<|Zk (v:=iv (m2:Int)) rfl (by kernel_rfl)<|Zk (v:=iv 0) rfl (by kernel_rfl)<|Zd rfl<|Zd rfl<|Zi<|Zm<|Zd rfl<|XL (a:=0) (b:=0) rfl rfl ?_
    intro t20 ht20
    have t20e:t20=true:=by rw [← ht20];exact (by simp)
    subst t20e
    refine Zd rfl ?_
    refine Yd rfl (Zd rfl ?_)
    refine Yd rfl (Zd rfl ?_)
    refine Yd rfl (KR (a:=(m2:Int)) (b:=(m:Int)) rfl rfl ?_)
    intro t21 ht21
    have t21e:t21=true:=by rw [← ht21];exact (decide_eq_true (by omega))
    subst t21e
    refine Zk (v:=.bool true) rfl rfl<|Zd rfl ?_
    refine Yd rfl (Z3 s (vs:=[]) rfl (WC hkn) ?_)
    refine Zk (v:=.bool true) rfl rfl<|Zd rfl<|Zi ?_
    exact And.intro trivial (Exists.intro _ (And.intro rfl rfl))
end
end
end Go.Ax

/-! What is ZS as_ arguments. -/
namespace Go.Ax
open Go Go.RowKit Go.Proofs Go.ChangeShapes Go.WideShapes Go.Deep

theorem qw {P:Program} (pre:List Imp) {w:World} (h:∀ x∈pre,∀ (i:Nat) v,x.cs[i]? = some v→w.cell? ⟨x.blk,x.off+i,none⟩=some v∧Xg v=true) :
  ∃ (r:Ren) (H:Hp),Rel P r w.heap.size H w∧(∀ b loc,r b=some loc→b < H.next)∧(∀ (b:Nat) x,pre[b]? = some x→b < H.next∧r b=some ⟨x.blk,x.off,none⟩∧H.t.get b=some (.ro x.cs)):=by
 obtain ⟨r,H,h1,h2,h3,h4,h5⟩:=Zcr (P:=P) pre [] w h (fun x hx=>by simp at hx)
 refine ⟨r,H,h1,h3,fun b x hx=>?_⟩
 have:=K4 hx
 obtain ⟨a,c⟩:=h5 b x (by simpa using hx)
 exact ⟨by rw [h2];simpa using this,a,c⟩
end Go.Ax


import Derived.Test.YtngkkiijcpdffaaMe
import Derived.Test.YtngkkiijcpdffaaChecked
import Derived.Deep.Slices
import Derived.Deep.Fields
import Derived.ChangeSame
set_option linter.all false
/-
 Pool: the document's Mix (written by program).
-/
namespace Go.Ax
open Go Go.RowKit Go.Proofs

noncomputable section
theorem jq:ZW Try.prog 42=some (3,1):=by kernel_rfl
theorem zo3:Yf Try.prog 3=some (iv 0):=by kernel_rfl
theorem ZcL:Try.prog.underlying 42=some (.slice 3):=by kernel_rfl
theorem j7:ZW Try.prog 22=some (52,5):=by kernel_rfl
theorem Zc4:Yf Try.prog 52=some (.agg #[iv 0,iv 0,iv 0,iv 0,iv 0]):=by kernel_rfl
theorem Zag:Try.prog.underlying 22=some (.slice 52):=by kernel_rfl
theorem Zds:ZW Try.prog 101=some (22,1):=by kernel_rfl
theorem ZeO:Yf Try.prog 22=some (.slice none 0 0):=by kernel_rfl
theorem ZeF:ZW Try.prog 43=some (68,3):=by kernel_rfl
theorem ZeH:Yf Try.prog 68=some (.agg #[iv 0,iv 0,iv 0]):=by kernel_rfl
theorem K9 {lo n:Nat} {S:Rg} {H:Hp} {d:Option Tmp} {ty:TypeId} {p:String} {x y:Operand} {a b:Int} (hx:evS S x=some (iv a)) (hy:evS S y=some (iv b)) :
  Zr Try.prog lo (frS n S) H ⟨d,.buildSlice 42 2 #[(0,x),(1,y)],ty,p,#[],none⟩=some (.val (.slice (some ⟨H.next,0,none⟩) 2 2) (H.new (.cells [iv a,iv b] 3 false)),.heavy):=by
 unfold Zr
 simp only [Yu,Yd,hx,hy,jq,zo3]
 rfl
theorem zm {lo n:Nat} {S:Rg} {H:Hp} {d:Option Tmp} {ty:TypeId} {p:String} {x y z:Operand} {a b c:Int} (hx:evS S x=some (iv a)) (hy:evS S y=some (iv b)) (hz:evS S z=some (iv c)) :
  Zr Try.prog lo (frS n S) H ⟨d,.buildSlice 42 3 #[(0,x),(1,y),(2,z)],ty,p,#[],none⟩=some (.val (.slice (some ⟨H.next,0,none⟩) 3 3) (H.new (.cells [iv a,iv b,iv c] 3 false)),.heavy):=by
 unfold Zr
 simp only [Yu,Yd,hx,hy,hz,jq,zo3]
 rfl
theorem Za6 {lo n:Nat} {S:Rg} {H:Hp} {d:Option Tmp} {ty:TypeId} {p:String} {x y:Operand} {a a2:Option Addr} {m c m2 c2:Nat} (hx:evS S x=some (.slice a m c)) (hy:evS S y=some (.slice a2 m2 c2)) :
  Zr Try.prog lo (frS n S) H ⟨d,.buildSlice 101 2 #[(0,x),(1,y)],ty,p,#[],none⟩=some (.val (.slice (some ⟨H.next,0,none⟩) 2 2) (H.new (.cells [.slice a m c,.slice a2 m2 c2] 22 false)),.heavy):=by
 unfold Zr
 simp only [Yu,Yd,hx,hy,Zds,ZeO]
 rfl
theorem Zab {lo n:Nat} {S:Rg} {H:Hp} {d:Option Tmp} {ty:TypeId} {p:String} {x y z:Operand} {a b c:Dc} (hx:evS S x=some (.agg a.f.toArray)) (hy:evS S y=some (.agg b.f.toArray)) (hz:evS S z=some (.agg c.f.toArray)) :
  Zr Try.prog lo (frS n S) H ⟨d,.buildSlice 22 3 #[(0,x),(1,y),(2,z)],ty,p,#[],none⟩=some (.val (.slice (some ⟨H.next,0,none⟩) 3 3) (H.new (.cells (dcc [a,b,c]) 52 false)),.heavy):=by
 unfold Zr
 simp only [Yu,Yd,hx,hy,hz,j7,Zc4]
 rfl
section
variable {kn:Kn} {lo:Nat} {H:Hp}
set_option maxRecDepth 100000 in
set_option maxHeartbeats 4000000 in
theorem jc {a b:Fw} (hlo:lo≤H.next):∃ H',FnX Try.prog kn lo 17 [.agg (Fw.f a).toArray,.agg (Fw.f b).toArray] H (.tuple #[.agg #[iv (mxT a b).1.1,iv (mxT a b).1.2],iv (mxT a b).2]) H'∧Zi H H' []:=by
 have key:=Zp (kn:=kn) (lo:=lo) (H:=H) (args:=[.agg (Fw.f a).toArray,.agg (Fw.f b).toArray]) (Q:=fun w H'=>w=(.tuple #[.agg #[iv (mxT a b).1.1,iv (mxT a b).1.2],iv (mxT a b).2])∧Zi H H' []) Try.func17 B17 N17 Z17 L17 (by simp) ?_
 ·obtain ⟨w,H',h,rfl,q⟩:=key;exact ⟨H',h,q⟩
 have hk:=Zi.refl H []
 refine Zc<|ZS (v:=.agg (Fw.f a).toArray) rfl ?_
 intro H1 kH1 nH1 c1
 have c1:Cl H1 H.next [iv a.wl,iv a.wh,iv a.tl,iv a.th]:=c1
 have mH1:=kH1.1
 have hk:=hk.trans kH1
 refine ZS (v:=.agg (Fw.f b).toArray) rfl ?_
 intro H2 kH2 nH2 c2
 have c2:Cl H2 H1.next [iv b.wl,iv b.wh,iv b.tl,iv b.th]:=c2
 have mH2:=kH2.1
 have hk:=hk.trans kH2
 have c1:=kH2.cl c1 (by simp)
 refine ZY ?_
 intro H3 kH3 nH3 c3
 have c3:Cl H3 H2.next [iv 0,iv 0]:=c3
 have mH3:=kH3.1
 have hk:=hk.trans kH3
 have c1:=kH3.cl c1 (by simp)
 have c2:=kH3.cl c2 (by simp)
 refine Za rfl<|Zb<|Zc<|Zx (b:=H.next) (o:=0) rfl c1.rd (show row 4 _ _=some [iv a.wl,iv a.wh,iv a.tl,iv a.th] from rfl)<|Zt rfl (Kx (f:=a) (by omega)) ?_
 intro tH4 H4 hH4 kH4
 have mH4:=kH4.1
 have hk:=hk.trans kH4
 have c1:=kH4.cl c1 (by simp)
 have c2:=kH4.cl c2 (by simp)
 have c3:=kH4.cl c3 (by simp)
 cases tH4
 ·have hva:vF a=false:=hH4
  refine Zd (v:=.bool true) rfl rfl<|Za rfl<|Zl rfl<|Zl rfl<|Zl rfl<|Zd (v:=.bool true) rfl rfl<|Zb<|ZT<|Zc<|Zd (v:=.agg #[iv 0,iv 0]) rfl (by kernel_rfl)<|ZH (b:=H2.next) (o:=0) rfl rfl c3 (by omega) rfl rfl (by simp) ?_
  intro H5 kH5 nH5 sH5
  have mH5:=kH5.1
  have hk:=hk.new kH5 (fun b hb=>by simp at hb ⊢;omega)
  have c1:=kH5.cl c1 (by first | (simp;done) | (simp;omega))
  have c2:=kH5.cl c2 (by first | (simp;done) | (simp;omega))
  have c3:Cl H5 H2.next [iv 0,iv 0]:=sH5
  refine Za rfl<|Zb ?_
  exact And.intro trivial (Exists.intro _ (And.intro (WQ rfl a31 W8 rfl c3 rfl) ⟨WR (qf (by first | exact .inl (by assumption) | exact .inr (by assumption))),hk⟩))
 ·have hva:vF a=true:=hH4
  refine Zd (v:=.bool false) rfl rfl<|Za rfl ?_
  refine Zo rfl (Zx (b:=H1.next) (o:=0) rfl c2.rd (show row 4 _ _=some [iv b.wl,iv b.wh,iv b.tl,iv b.th] from rfl) ?_)
  refine Zo rfl (Zt rfl (Kx (f:=b) (by omega)) ?_)
  intro tH6 H6 hH6 kH6
  have mH6:=kH6.1
  have hk:=hk.trans kH6
  have c1:=kH6.cl c1 (by simp)
  have c2:=kH6.cl c2 (by simp)
  have c3:=kH6.cl c3 (by simp)
  cases tH6
  ·have hvb:vF b=false:=hH6
   refine Zo rfl (Zd (v:=.bool true) rfl rfl ?_)
   refine Zd (v:=.bool true) rfl rfl<|Zb<|ZT<|Zc<|Zd (v:=.agg #[iv 0,iv 0]) rfl (by kernel_rfl)<|ZH (b:=H2.next) (o:=0) rfl rfl c3 (by omega) rfl rfl (by simp) ?_
   intro H7 kH7 nH7 sH7
   have mH7:=kH7.1
   have hk:=hk.new kH7 (fun b hb=>by simp at hb ⊢;omega)
   have c1:=kH7.cl c1 (by first | (simp;done) | (simp;omega))
   have c2:=kH7.cl c2 (by first | (simp;done) | (simp;omega))
   have c3:Cl H7 H2.next [iv 0,iv 0]:=sH7
   refine Za rfl<|Zb ?_
   exact And.intro trivial (Exists.intro _ (And.intro (WQ rfl a31 W8 rfl c3 rfl) ⟨WR (qf (by first | exact .inl (by assumption) | exact .inr (by assumption))),hk⟩))
  ·have hvb:vF b=true:=hH6
   refine Zo rfl (Zd (v:=.bool false) rfl rfl ?_)
   refine Zd (v:=.bool false) rfl rfl<|Zb<|ZO ?_
   obtain ⟨⟨za1,za2,za3⟩,za4,za5,za6⟩:=zJ hva;obtain ⟨⟨zb1,zb2,zb3⟩,zb4,zb5,zb6⟩:=zJ hvb
   first | refine Zk ?_ | skip
   refine Zc<|Zh (b:=H.next) (o:=0) rfl<|Zh (b:=H.next) (o:=0) rfl<|Zy (b:=H.next) (o:=0) (v:=iv a.wl) rfl c1.rd rfl<|Zh (b:=H1.next) (o:=0) rfl<|Zh (b:=H1.next) (o:=0) rfl<|Zy (b:=H1.next) (o:=0) (v:=iv b.wl) rfl c2.rd rfl<|Zw (a:=a.wl) (b:=b.wl) rfl rfl ⟨by omega,by omega⟩<|XQ (a:=a.wl+b.wl) (b:=0) rfl rfl<|Zb ?_
   refine And.intro (fun q1=>?_) (fun q1=>?_)
   ·have q1:(a.wl+b.wl)=0:=by simpa using q1
    refine Zc<|Zd (v:=.agg #[iv 0,iv 0]) rfl (by kernel_rfl)<|ZH (b:=H2.next) (o:=0) rfl rfl c3 (by omega) rfl rfl (by simp) ?_
    intro H8 kH8 nH8 sH8
    have mH8:=kH8.1
    have hk:=hk.new kH8 (fun b hb=>by simp at hb ⊢;omega)
    have c1:=kH8.cl c1 (by first | (simp;done) | (simp;omega))
    have c2:=kH8.cl c2 (by first | (simp;done) | (simp;omega))
    have c3:Cl H8 H2.next [iv 0,iv 0]:=sH8
    refine Za rfl<|Zb ?_
    exact And.intro trivial (Exists.intro _ (And.intro (WQ rfl a31 W8 rfl c3 rfl) ⟨WR (Zaq hva hvb (by omega)),hk⟩))
   ·have q1:¬ ((a.wl+b.wl)=0):=by simpa using q1
    first | refine Zk ?_ | skip
    refine Zc<|Za rfl<|Zb<|Zc<|ZY ?_
    intro H9 kH9 nH9 c9
    have c9:Cl H9 H6.next [iv 0,iv 0]:=c9
    have mH9:=kH9.1
    have hk:=hk.trans kH9
    have c1:=kH9.cl c1 (by simp)
    have c2:=kH9.cl c2 (by simp)
    have c3:=kH9.cl c3 (by simp)
    refine Zb<|Yg<|Zq (b:=H.next) (o:=0) rfl<|Zq (b:=H.next) (o:=0) rfl<|ZI (b:=H.next) (o:=0) (v:=iv a.wl) rfl c1.rd rfl<|Zq (b:=H.next) (o:=0) rfl<|Zq (b:=H.next) (o:=0) rfl<|ZI (b:=H.next) (o:=1) (v:=iv a.wh) rfl c1.rd rfl ?_
    obtain ⟨H10,hH10⟩:∃ H10,H9.new (.cells [iv a.wl,iv a.wh] 3 false)=H10:=⟨_,rfl⟩
    refine W4 (H':=H10) (k:=.heavy) rfl (by kernel_rfl) ((K9 (a:=a.wl) (b:=a.wh) rfl rfl).trans (by rw [← hH10])) (fun b e=>by cases e) ?_
    obtain ⟨kH10,nH10,c10⟩:=Z7 hH10;clear hH10
    have c10:Cl H10 H9.next [iv a.wl,iv a.wh]:=c10
    have mH10:=kH10.1
    have hk:=hk.trans kH10
    have c1:=kH10.cl c1 (by simp)
    have c2:=kH10.cl c2 (by simp)
    have c3:=kH10.cl c3 (by simp)
    have c9:=kH10.cl c9 (by simp)
    refine Zq (b:=H1.next) (o:=0) rfl<|Zq (b:=H1.next) (o:=0) rfl<|ZI (b:=H1.next) (o:=0) (v:=iv b.wl) rfl c2.rd rfl<|Zq (b:=H1.next) (o:=0) rfl<|Zq (b:=H1.next) (o:=0) rfl<|ZI (b:=H1.next) (o:=1) (v:=iv b.wh) rfl c2.rd rfl ?_
    obtain ⟨H11,hH11⟩:∃ H11,H10.new (.cells [iv b.wl,iv b.wh] 3 false)=H11:=⟨_,rfl⟩
    refine W4 (H':=H11) (k:=.heavy) rfl (by kernel_rfl) ((K9 (a:=b.wl) (b:=b.wh) rfl rfl).trans (by rw [← hH11])) (fun b e=>by cases e) ?_
    obtain ⟨kH11,nH11,c11⟩:=Z7 hH11;clear hH11
    have c11:Cl H11 H10.next [iv b.wl,iv b.wh]:=c11
    have mH11:=kH11.1
    have hk:=hk.trans kH11
    have c1:=kH11.cl c1 (by simp)
    have c2:=kH11.cl c2 (by simp)
    have c3:=kH11.cl c3 (by simp)
    have c9:=kH11.cl c9 (by simp)
    have c10:=kH11.cl c10 (by simp)
    refine Zf rfl<|Zf rfl ?_
    refine ZL (by repeat' first | exact True.intro | exact (fun h=>h) | refine And.intro ?_ ?_ | (intro h;have h:(_:Nat)=_:=h;omega)) ?_
    refine Zc<|Za rfl<|Zb ?_
    have hz:¬ (a.wl=0∧b.wl=0):=by omega
    refine ZA (fn:=Try.f17) Zer N17 ZdT (fun i:Nat=>[(2,pt H.next),(3,pt H1.next),(4,pt H2.next),(7,pt H6.next),(8,.slice (some ⟨H9.next,0,none⟩) 2 2),(9,.slice (some ⟨H10.next,0,none⟩) 2 2),(6,.bool (decide (i=0))),(10,iv (i:Int))])
     (fun k i H'=>i+k=2∧Zi H H' []∧H11.next≤H'.next∧Cl H' H.next [iv a.wl,iv a.wh,iv a.tl,iv a.th]∧Cl H' H1.next [iv b.wl,iv b.wh,iv b.tl,iv b.th]∧Cl H' H2.next [iv 0,iv 0]∧Cl H' H9.next [iv a.wl,iv a.wh]∧Cl H' H10.next [iv b.wl,iv b.wh]∧Cl H' H6.next [iv (rLo a b (2 * i)),iv (rHi a b (2 * i))]) 2 0 ⟨by omega,hk,Nat.le_refl _,c1,c2,c3,c10,c11,c9⟩ ⟨rfl,rfl,rfl,rfl,rfl,rfl,rfl,rfl,trivial⟩ ?_
    rintro k i L1 ⟨hik,hk,hnx,ca,cb,cr,cx,cy,cw⟩
    have mk:=hk.1
    refine Zc<|Za rfl<|ZC (a:=(i:Int)) (b:=2) rfl rfl<|Zb ?_
    refine And.intro (fun q2=>?_) (fun q2=>?_)
    ·have q2:(i:Int) < 2:=of_decide_eq_true q2
     first | refine Zk ?_ | skip
     refine Zc<|Za rfl<|Zb ?_
     have hi:i < 2:=by omega
     refine ZA (fn:=Try.f17) ZdK N17 Zdw (fun j:Nat=>[(2,pt H.next),(3,pt H1.next),(4,pt H2.next),(7,pt H6.next),(8,.slice (some ⟨H9.next,0,none⟩) 2 2),(9,.slice (some ⟨H10.next,0,none⟩) 2 2),(6,.bool (decide (i+j=0))),(10,iv (i:Int)),(11,iv (j:Int))])
      (fun m j H'=>j+m=2∧Zi H H' []∧H11.next≤H'.next∧Cl H' H.next [iv a.wl,iv a.wh,iv a.tl,iv a.th]∧Cl H' H1.next [iv b.wl,iv b.wh,iv b.tl,iv b.th]∧Cl H' H2.next [iv 0,iv 0]∧Cl H' H9.next [iv a.wl,iv a.wh]∧Cl H' H10.next [iv b.wl,iv b.wh]∧Cl H' H6.next [iv (rLo a b (2 * i+j)),iv (rHi a b (2 * i+j))]) 2 0 ⟨by omega,hk,hnx,ca,cb,cr,cx,cy,cw⟩ ⟨rfl,rfl,rfl,rfl,rfl,rfl,rfl,rfl,rfl,trivial⟩ ?_
     rintro m j L2 ⟨hjm,hk,hnx,ca,cb,cr,cx,cy,cw⟩
     have mk:=hk.1
     refine Zc<|Za rfl<|ZC (a:=(j:Int)) (b:=2) rfl rfl<|Zb ?_
     refine And.intro (fun q3=>?_) (fun q3=>?_)
     ·have q3:(j:Int) < 2:=of_decide_eq_true q3
      have hj:j < 2:=by omega
      obtain ⟨rfl,rfl⟩ | ⟨rfl,rfl⟩ | ⟨rfl,rfl⟩ | ⟨rfl,rfl⟩:(i=0∧j=0)∨(i=0∧j=1)∨(i=1∧j=0)∨(i=1∧j=1):=by omega
      ·have hm:=Vs hva hvb hz 0;simp only [cnx,cny,clA,chA] at hm;have cw:Cl L2 H6.next [iv (rLo a b 0),iv (rHi a b 0)]:=cw
       first | refine Zk ?_ | skip
       refine Yg<|Zf rfl<|Zf rfl<|ZB (b:=H9.next) (o:=0) (k:=0) (j:=0) rfl rfl rfl (by omega)<|ZI (b:=H9.next) (o:=0+0 * 1) (v:=iv a.wl) rfl cx.rd rfl<|Zf rfl<|Zf rfl<|ZB (b:=H10.next) (o:=0) (k:=0) (j:=0) rfl rfl rfl (by omega)<|ZI (b:=H10.next) (o:=0+0 * 1) (v:=iv b.wl) rfl cy.rd rfl<|Yp (a:=a.wl) (b:=b.wl) rfl rfl ⟨by omega,by omega⟩<|Zf rfl ?_
       refine ZL (by repeat' first | exact True.intro | exact (fun h=>h) | refine And.intro ?_ ?_ | (intro h;have h:(_:Nat)=_:=h;omega)) ?_
       refine Zc<|Za rfl<|XQ (a:=a.wl+b.wl) (b:=0) rfl rfl<|Zb ?_
       refine And.intro (fun q4=>?_) (fun q4=>?_)
       ·have q4:(a.wl+b.wl)=0:=by simpa using q4
        omega
       ·have q4:¬ ((a.wl+b.wl)=0):=by simpa using q4
        first | refine Zk ?_ | skip
        refine Yg<|Zf rfl<|Zf rfl<|ZB (b:=H9.next) (o:=0) (k:=0) (j:=0) rfl rfl rfl (by omega)<|ZI (b:=H9.next) (o:=0+0 * 1) (v:=iv a.wl) rfl cx.rd rfl<|Zq (b:=H.next) (o:=0) rfl<|Zq (b:=H.next) (o:=2) rfl<|ZI (b:=H.next) (o:=2) (v:=iv a.tl) rfl ca.rd rfl<|YA (a:=a.wl) (b:=a.tl) rfl rfl ⟨by omega,by omega⟩<|Zf rfl<|Zf rfl<|ZB (b:=H10.next) (o:=0) (k:=0) (j:=0) rfl rfl rfl (by omega)<|ZI (b:=H10.next) (o:=0+0 * 1) (v:=iv b.wl) rfl cy.rd rfl<|Zq (b:=H1.next) (o:=0) rfl<|Zq (b:=H1.next) (o:=2) rfl<|ZI (b:=H1.next) (o:=2) (v:=iv b.tl) rfl cb.rd rfl<|YA (a:=b.wl) (b:=b.tl) rfl rfl ⟨by omega,by omega⟩<|Yp (a:=a.wl * a.tl) (b:=b.wl * b.tl) rfl rfl ⟨by omega,by omega⟩<|Zf rfl<|Wv (a:=(a.wl * a.tl)+(b.wl * b.tl)) (b:=a.wl+b.wl) rfl rfl (by omega) (by omega) ⟨by omega,by omega⟩<|Zf rfl ?_
        refine ZL (by repeat' first | exact True.intro | exact (fun h=>h) | refine And.intro ?_ ?_ | (intro h;have h:(_:Nat)=_:=h;omega)) ?_
        refine Yg<|Zf rfl<|Zf rfl<|ZB (b:=H9.next) (o:=0) (k:=0) (j:=0) rfl rfl rfl (by omega)<|ZI (b:=H9.next) (o:=0+0 * 1) (v:=iv a.wl) rfl cx.rd rfl<|Zq (b:=H.next) (o:=0) rfl<|Zq (b:=H.next) (o:=2) rfl<|ZI (b:=H.next) (o:=3) (v:=iv a.th) rfl ca.rd rfl<|YA (a:=a.wl) (b:=a.th) rfl rfl ⟨by omega,by omega⟩<|Zf rfl<|Zf rfl<|ZB (b:=H10.next) (o:=0) (k:=0) (j:=0) rfl rfl rfl (by omega)<|ZI (b:=H10.next) (o:=0+0 * 1) (v:=iv b.wl) rfl cy.rd rfl<|Zq (b:=H1.next) (o:=0) rfl<|Zq (b:=H1.next) (o:=2) rfl<|ZI (b:=H1.next) (o:=3) (v:=iv b.th) rfl cb.rd rfl<|YA (a:=b.wl) (b:=b.th) rfl rfl ⟨by omega,by omega⟩<|Yp (a:=a.wl * a.th) (b:=b.wl * b.th) rfl rfl ⟨by omega,by omega⟩<|Zf rfl<|Yp (a:=(a.wl * a.th)+(b.wl * b.th)) (b:=a.wl+b.wl) rfl rfl ⟨by omega,by omega⟩<|XC (a:=((a.wl * a.th)+(b.wl * b.th))+(a.wl+b.wl)) (b:=1) rfl rfl ⟨by omega,by omega⟩<|Zf rfl<|Wv (a:=(((a.wl * a.th)+(b.wl * b.th))+(a.wl+b.wl)) - 1) (b:=a.wl+b.wl) rfl rfl (by omega) (by omega) ⟨by omega,by omega⟩<|Zf rfl ?_
        refine ZL (by repeat' first | exact True.intro | exact (fun h=>h) | refine And.intro ?_ ?_ | (intro h;have h:(_:Nat)=_:=h;omega)) ?_
        refine Zc<|Za rfl<|Za rfl<|Zl rfl<|Zl rfl<|Zl rfl<|Zl rfl<|Zd (v:=.bool true) rfl rfl<|Zb<|ZT<|Zc<|Za rfl<|Zh (b:=H6.next) (o:=0) rfl<|WK (b:=H6.next) (o:=0) rfl rfl cw (by omega) rfl rfl (by simp) ?_
        intro H12 kH12 nH12 sH12
        have mH12:=kH12.1
        have hk:=hk.new kH12 (fun b hb=>by simp at hb ⊢;omega)
        have ca:=kH12.cl ca (by first | (simp;done) | (simp;omega))
        have cb:=kH12.cl cb (by first | (simp;done) | (simp;omega))
        have cr:=kH12.cl cr (by first | (simp;done) | (simp;omega))
        have cx:=kH12.cl cx (by first | (simp;done) | (simp;omega))
        have cy:=kH12.cl cy (by first | (simp;done) | (simp;omega))
        have cw:Cl H12 H6.next [iv (((a.wl * a.tl)+(b.wl * b.tl)) / (a.wl+b.wl)),iv (rHi a b 0)]:=sH12
        refine Zb<|Zc<|Za rfl<|Za rfl<|Zl rfl<|Zl rfl<|Zl rfl<|Zl rfl<|Zd (v:=.bool true) rfl rfl<|Zb<|ZT<|Zc<|Za rfl<|Zh (b:=H6.next) (o:=0) rfl<|WK (b:=H6.next) (o:=1) rfl rfl cw (by omega) rfl rfl (by simp) ?_
        intro H13 kH13 nH13 sH13
        have mH13:=kH13.1
        have hk:=hk.new kH13 (fun b hb=>by simp at hb ⊢;omega)
        have ca:=kH13.cl ca (by first | (simp;done) | (simp;omega))
        have cb:=kH13.cl cb (by first | (simp;done) | (simp;omega))
        have cr:=kH13.cl cr (by first | (simp;done) | (simp;omega))
        have cx:=kH13.cl cx (by first | (simp;done) | (simp;omega))
        have cy:=kH13.cl cy (by first | (simp;done) | (simp;omega))
        have cw:Cl H13 H6.next [iv (((a.wl * a.tl)+(b.wl * b.tl)) / (a.wl+b.wl)),iv (((((a.wl * a.th)+(b.wl * b.th))+(a.wl+b.wl)) - 1) / (a.wl+b.wl))]:=sH13
        refine Zb ?_
        show Zn _ _ _ _ _ _ _ _
        refine Za rfl<|Zb ?_
        show Zn _ _ _ _ _ _ _ _
        refine Za rfl<|Zw (a:=0) (b:=1) rfl rfl ⟨by omega,by omega⟩<|Za rfl<|Zb ?_
        have e1:rLo a b 1=((a.wl * a.tl)+(b.wl * b.tl)) / (a.wl+b.wl):=by simp only [rLo,mLo,clA,cnx,cny] at *;omega
        have e2:rHi a b 1=((((a.wl * a.th)+(b.wl * b.th))+(a.wl+b.wl)) - 1) / (a.wl+b.wl):=by simp only [rHi,mHi,chA,cnx,cny] at *;omega
        exact ⟨m - 1,1,by omega,⟨by omega,hk,by omega,ca,cb,cr,cx,cy,by show Cl _ _ [iv (rLo a b 1),iv (rHi a b 1)];rw [e1,e2];exact cw⟩,rfl,rfl,rfl,rfl,rfl,rfl,rfl,rfl,ivq (by omega),trivial⟩
      ·have hm:=Vs hva hvb hz 1;simp only [cnx,cny,clA,chA] at hm;have cw:Cl L2 H6.next [iv (rLo a b 1),iv (rHi a b 1)]:=cw
       first | refine Zk ?_ | skip
       refine Yg<|Zf rfl<|Zf rfl<|ZB (b:=H9.next) (o:=0) (k:=0) (j:=0) rfl rfl rfl (by omega)<|ZI (b:=H9.next) (o:=0+0 * 1) (v:=iv a.wl) rfl cx.rd rfl<|Zf rfl<|Zf rfl<|ZB (b:=H10.next) (o:=0) (k:=1) (j:=1) rfl rfl rfl (by omega)<|ZI (b:=H10.next) (o:=0+1 * 1) (v:=iv b.wh) rfl cy.rd rfl<|Yp (a:=a.wl) (b:=b.wh) rfl rfl ⟨by omega,by omega⟩<|Zf rfl ?_
       refine ZL (by repeat' first | exact True.intro | exact (fun h=>h) | refine And.intro ?_ ?_ | (intro h;have h:(_:Nat)=_:=h;omega)) ?_
       refine Zc<|Za rfl<|XQ (a:=a.wl+b.wh) (b:=0) rfl rfl<|Zb ?_
       refine And.intro (fun q5=>?_) (fun q5=>?_)
       ·have q5:(a.wl+b.wh)=0:=by simpa using q5
        omega
       ·have q5:¬ ((a.wl+b.wh)=0):=by simpa using q5
        first | refine Zk ?_ | skip
        refine Yg<|Zf rfl<|Zf rfl<|ZB (b:=H9.next) (o:=0) (k:=0) (j:=0) rfl rfl rfl (by omega)<|ZI (b:=H9.next) (o:=0+0 * 1) (v:=iv a.wl) rfl cx.rd rfl<|Zq (b:=H.next) (o:=0) rfl<|Zq (b:=H.next) (o:=2) rfl<|ZI (b:=H.next) (o:=2) (v:=iv a.tl) rfl ca.rd rfl<|YA (a:=a.wl) (b:=a.tl) rfl rfl ⟨by omega,by omega⟩<|Zf rfl<|Zf rfl<|ZB (b:=H10.next) (o:=0) (k:=1) (j:=1) rfl rfl rfl (by omega)<|ZI (b:=H10.next) (o:=0+1 * 1) (v:=iv b.wh) rfl cy.rd rfl<|Zq (b:=H1.next) (o:=0) rfl<|Zq (b:=H1.next) (o:=2) rfl<|ZI (b:=H1.next) (o:=2) (v:=iv b.tl) rfl cb.rd rfl<|YA (a:=b.wh) (b:=b.tl) rfl rfl ⟨by omega,by omega⟩<|Yp (a:=a.wl * a.tl) (b:=b.wh * b.tl) rfl rfl ⟨by omega,by omega⟩<|Zf rfl<|Wv (a:=(a.wl * a.tl)+(b.wh * b.tl)) (b:=a.wl+b.wh) rfl rfl (by omega) (by omega) ⟨by omega,by omega⟩<|Zf rfl ?_
        refine ZL (by repeat' first | exact True.intro | exact (fun h=>h) | refine And.intro ?_ ?_ | (intro h;have h:(_:Nat)=_:=h;omega)) ?_
        refine Yg<|Zf rfl<|Zf rfl<|ZB (b:=H9.next) (o:=0) (k:=0) (j:=0) rfl rfl rfl (by omega)<|ZI (b:=H9.next) (o:=0+0 * 1) (v:=iv a.wl) rfl cx.rd rfl<|Zq (b:=H.next) (o:=0) rfl<|Zq (b:=H.next) (o:=2) rfl<|ZI (b:=H.next) (o:=3) (v:=iv a.th) rfl ca.rd rfl<|YA (a:=a.wl) (b:=a.th) rfl rfl ⟨by omega,by omega⟩<|Zf rfl<|Zf rfl<|ZB (b:=H10.next) (o:=0) (k:=1) (j:=1) rfl rfl rfl (by omega)<|ZI (b:=H10.next) (o:=0+1 * 1) (v:=iv b.wh) rfl cy.rd rfl<|Zq (b:=H1.next) (o:=0) rfl<|Zq (b:=H1.next) (o:=2) rfl<|ZI (b:=H1.next) (o:=3) (v:=iv b.th) rfl cb.rd rfl<|YA (a:=b.wh) (b:=b.th) rfl rfl ⟨by omega,by omega⟩<|Yp (a:=a.wl * a.th) (b:=b.wh * b.th) rfl rfl ⟨by omega,by omega⟩<|Zf rfl<|Yp (a:=(a.wl * a.th)+(b.wh * b.th)) (b:=a.wl+b.wh) rfl rfl ⟨by omega,by omega⟩<|XC (a:=((a.wl * a.th)+(b.wh * b.th))+(a.wl+b.wh)) (b:=1) rfl rfl ⟨by omega,by omega⟩<|Zf rfl<|Wv (a:=(((a.wl * a.th)+(b.wh * b.th))+(a.wl+b.wh)) - 1) (b:=a.wl+b.wh) rfl rfl (by omega) (by omega) ⟨by omega,by omega⟩<|Zf rfl ?_
        refine ZL (by repeat' first | exact True.intro | exact (fun h=>h) | refine And.intro ?_ ?_ | (intro h;have h:(_:Nat)=_:=h;omega)) ?_
        refine Zc<|Za rfl<|Za rfl ?_
        refine Zo rfl (Za rfl ?_)
        refine Zo rfl (Zh (b:=H6.next) (o:=0) rfl ?_)
        refine Zo rfl (Zy (b:=H6.next) (o:=0) (v:=iv (rLo a b 1)) rfl cw.rd rfl ?_)
        refine Zo rfl (Xf (a:=((a.wl * a.tl)+(b.wh * b.tl)) / (a.wl+b.wh)) (b:=(rLo a b 1)) rfl rfl ?_)
        intro t6 g6;cases t6
        ·have g6:¬ ((((a.wl * a.tl)+(b.wh * b.tl)) / (a.wl+b.wh)) < (rLo a b 1)):=of_decide_eq_false g6
         refine Zd (v:=.bool false) rfl rfl<|Zb<|ZO ?_
         first | refine Zk ?_ | skip
         refine Zc<|Za rfl<|Za rfl ?_
         refine Zo rfl (Za rfl ?_)
         refine Zo rfl (Zh (b:=H6.next) (o:=0) rfl ?_)
         refine Zo rfl (Zy (b:=H6.next) (o:=1) (v:=iv (rHi a b 1)) rfl cw.rd rfl ?_)
         refine Zo rfl (WJ (a:=((((a.wl * a.th)+(b.wh * b.th))+(a.wl+b.wh)) - 1) / (a.wl+b.wh)) (b:=(rHi a b 1)) rfl rfl ?_)
         intro t7 g7;cases t7
         ·have g7:¬ ((((((a.wl * a.th)+(b.wh * b.th))+(a.wl+b.wh)) - 1) / (a.wl+b.wh)) > (rHi a b 1)):=of_decide_eq_false g7
          refine Zd (v:=.bool false) rfl rfl<|Zb<|ZO ?_
          first | refine Zk ?_ | skip
          show Zn _ _ _ _ _ _ _ _
          refine Za rfl<|Zb ?_
          show Zn _ _ _ _ _ _ _ _
          refine Za rfl<|Zw (a:=1) (b:=1) rfl rfl ⟨by omega,by omega⟩<|Za rfl<|Zb ?_
          have e1:rLo a b 2=(rLo a b 1):=by simp only [rLo,mLo,clA,cnx,cny] at *;omega
          have e2:rHi a b 2=(rHi a b 1):=by simp only [rHi,mHi,chA,cnx,cny] at *;omega
          exact ⟨m - 1,2,by omega,⟨by omega,hk,by omega,ca,cb,cr,cx,cy,by show Cl _ _ [iv (rLo a b 2),iv (rHi a b 2)];rw [e1,e2];exact cw⟩,rfl,rfl,rfl,rfl,rfl,rfl,rfl,rfl,ivq (by omega),trivial⟩
         ·have g7:(((((a.wl * a.th)+(b.wh * b.th))+(a.wl+b.wh)) - 1) / (a.wl+b.wh)) > (rHi a b 1):=of_decide_eq_true g7
          refine Zd (v:=.bool true) rfl rfl<|Zb<|ZT<|Zc<|Za rfl<|Zh (b:=H6.next) (o:=0) rfl<|WK (b:=H6.next) (o:=1) rfl rfl cw (by omega) rfl rfl (by simp) ?_
          intro H14 kH14 nH14 sH14
          have mH14:=kH14.1
          have hk:=hk.new kH14 (fun b hb=>by simp at hb ⊢;omega)
          have ca:=kH14.cl ca (by first | (simp;done) | (simp;omega))
          have cb:=kH14.cl cb (by first | (simp;done) | (simp;omega))
          have cr:=kH14.cl cr (by first | (simp;done) | (simp;omega))
          have cx:=kH14.cl cx (by first | (simp;done) | (simp;omega))
          have cy:=kH14.cl cy (by first | (simp;done) | (simp;omega))
          have cw:Cl H14 H6.next [iv (rLo a b 1),iv (((((a.wl * a.th)+(b.wh * b.th))+(a.wl+b.wh)) - 1) / (a.wl+b.wh))]:=sH14
          refine Zb ?_
          show Zn _ _ _ _ _ _ _ _
          refine Za rfl<|Zb ?_
          show Zn _ _ _ _ _ _ _ _
          refine Za rfl<|Zw (a:=1) (b:=1) rfl rfl ⟨by omega,by omega⟩<|Za rfl<|Zb ?_
          have e1:rLo a b 2=(rLo a b 1):=by simp only [rLo,mLo,clA,cnx,cny] at *;omega
          have e2:rHi a b 2=((((a.wl * a.th)+(b.wh * b.th))+(a.wl+b.wh)) - 1) / (a.wl+b.wh):=by simp only [rHi,mHi,chA,cnx,cny] at *;omega
          exact ⟨m - 1,2,by omega,⟨by omega,hk,by omega,ca,cb,cr,cx,cy,by show Cl _ _ [iv (rLo a b 2),iv (rHi a b 2)];rw [e1,e2];exact cw⟩,rfl,rfl,rfl,rfl,rfl,rfl,rfl,rfl,ivq (by omega),trivial⟩
        ·have g6:(((a.wl * a.tl)+(b.wh * b.tl)) / (a.wl+b.wh)) < (rLo a b 1):=of_decide_eq_true g6
         refine Zd (v:=.bool true) rfl rfl<|Zb<|ZT<|Zc<|Za rfl<|Zh (b:=H6.next) (o:=0) rfl<|WK (b:=H6.next) (o:=0) rfl rfl cw (by omega) rfl rfl (by simp) ?_
         intro H15 kH15 nH15 sH15
         have mH15:=kH15.1
         have hk:=hk.new kH15 (fun b hb=>by simp at hb ⊢;omega)
         have ca:=kH15.cl ca (by first | (simp;done) | (simp;omega))
         have cb:=kH15.cl cb (by first | (simp;done) | (simp;omega))
         have cr:=kH15.cl cr (by first | (simp;done) | (simp;omega))
         have cx:=kH15.cl cx (by first | (simp;done) | (simp;omega))
         have cy:=kH15.cl cy (by first | (simp;done) | (simp;omega))
         have cw:Cl H15 H6.next [iv (((a.wl * a.tl)+(b.wh * b.tl)) / (a.wl+b.wh)),iv (rHi a b 1)]:=sH15
         refine Zb<|Zc<|Za rfl<|Za rfl ?_
         refine Zo rfl (Za rfl ?_)
         refine Zo rfl (Zh (b:=H6.next) (o:=0) rfl ?_)
         refine Zo rfl (Zy (b:=H6.next) (o:=1) (v:=iv (rHi a b 1)) rfl cw.rd rfl ?_)
         refine Zo rfl (WJ (a:=((((a.wl * a.th)+(b.wh * b.th))+(a.wl+b.wh)) - 1) / (a.wl+b.wh)) (b:=(rHi a b 1)) rfl rfl ?_)
         intro t8 g8;cases t8
         ·have g8:¬ ((((((a.wl * a.th)+(b.wh * b.th))+(a.wl+b.wh)) - 1) / (a.wl+b.wh)) > (rHi a b 1)):=of_decide_eq_false g8
          refine Zd (v:=.bool false) rfl rfl<|Zb<|ZO ?_
          first | refine Zk ?_ | skip
          show Zn _ _ _ _ _ _ _ _
          refine Za rfl<|Zb ?_
          show Zn _ _ _ _ _ _ _ _
          refine Za rfl<|Zw (a:=1) (b:=1) rfl rfl ⟨by omega,by omega⟩<|Za rfl<|Zb ?_
          have e1:rLo a b 2=((a.wl * a.tl)+(b.wh * b.tl)) / (a.wl+b.wh):=by simp only [rLo,mLo,clA,cnx,cny] at *;omega
          have e2:rHi a b 2=(rHi a b 1):=by simp only [rHi,mHi,chA,cnx,cny] at *;omega
          exact ⟨m - 1,2,by omega,⟨by omega,hk,by omega,ca,cb,cr,cx,cy,by show Cl _ _ [iv (rLo a b 2),iv (rHi a b 2)];rw [e1,e2];exact cw⟩,rfl,rfl,rfl,rfl,rfl,rfl,rfl,rfl,ivq (by omega),trivial⟩
         ·have g8:(((((a.wl * a.th)+(b.wh * b.th))+(a.wl+b.wh)) - 1) / (a.wl+b.wh)) > (rHi a b 1):=of_decide_eq_true g8
          refine Zd (v:=.bool true) rfl rfl<|Zb<|ZT<|Zc<|Za rfl<|Zh (b:=H6.next) (o:=0) rfl<|WK (b:=H6.next) (o:=1) rfl rfl cw (by omega) rfl rfl (by simp) ?_
          intro H16 kH16 nH16 sH16
          have mH16:=kH16.1
          have hk:=hk.new kH16 (fun b hb=>by simp at hb ⊢;omega)
          have ca:=kH16.cl ca (by first | (simp;done) | (simp;omega))
          have cb:=kH16.cl cb (by first | (simp;done) | (simp;omega))
          have cr:=kH16.cl cr (by first | (simp;done) | (simp;omega))
          have cx:=kH16.cl cx (by first | (simp;done) | (simp;omega))
          have cy:=kH16.cl cy (by first | (simp;done) | (simp;omega))
          have cw:Cl H16 H6.next [iv (((a.wl * a.tl)+(b.wh * b.tl)) / (a.wl+b.wh)),iv (((((a.wl * a.th)+(b.wh * b.th))+(a.wl+b.wh)) - 1) / (a.wl+b.wh))]:=sH16
          refine Zb ?_
          show Zn _ _ _ _ _ _ _ _
          refine Za rfl<|Zb ?_
          show Zn _ _ _ _ _ _ _ _
          refine Za rfl<|Zw (a:=1) (b:=1) rfl rfl ⟨by omega,by omega⟩<|Za rfl<|Zb ?_
          have e1:rLo a b 2=((a.wl * a.tl)+(b.wh * b.tl)) / (a.wl+b.wh):=by simp only [rLo,mLo,clA,cnx,cny] at *;omega
          have e2:rHi a b 2=((((a.wl * a.th)+(b.wh * b.th))+(a.wl+b.wh)) - 1) / (a.wl+b.wh):=by simp only [rHi,mHi,chA,cnx,cny] at *;omega
          exact ⟨m - 1,2,by omega,⟨by omega,hk,by omega,ca,cb,cr,cx,cy,by show Cl _ _ [iv (rLo a b 2),iv (rHi a b 2)];rw [e1,e2];exact cw⟩,rfl,rfl,rfl,rfl,rfl,rfl,rfl,rfl,ivq (by omega),trivial⟩
      ·have hm:=Vs hva hvb hz 2;simp only [cnx,cny,clA,chA] at hm;have cw:Cl L2 H6.next [iv (rLo a b 2),iv (rHi a b 2)]:=cw
       first | refine Zk ?_ | skip
       refine Yg<|Zf rfl<|Zf rfl<|ZB (b:=H9.next) (o:=0) (k:=1) (j:=1) rfl rfl rfl (by omega)<|ZI (b:=H9.next) (o:=0+1 * 1) (v:=iv a.wh) rfl cx.rd rfl<|Zf rfl<|Zf rfl<|ZB (b:=H10.next) (o:=0) (k:=0) (j:=0) rfl rfl rfl (by omega)<|ZI (b:=H10.next) (o:=0+0 * 1) (v:=iv b.wl) rfl cy.rd rfl<|Yp (a:=a.wh) (b:=b.wl) rfl rfl ⟨by omega,by omega⟩<|Zf rfl ?_
       refine ZL (by repeat' first | exact True.intro | exact (fun h=>h) | refine And.intro ?_ ?_ | (intro h;have h:(_:Nat)=_:=h;omega)) ?_
       refine Zc<|Za rfl<|XQ (a:=a.wh+b.wl) (b:=0) rfl rfl<|Zb ?_
       refine And.intro (fun q9=>?_) (fun q9=>?_)
       ·have q9:(a.wh+b.wl)=0:=by simpa using q9
        omega
       ·have q9:¬ ((a.wh+b.wl)=0):=by simpa using q9
        first | refine Zk ?_ | skip
        refine Yg<|Zf rfl<|Zf rfl<|ZB (b:=H9.next) (o:=0) (k:=1) (j:=1) rfl rfl rfl (by omega)<|ZI (b:=H9.next) (o:=0+1 * 1) (v:=iv a.wh) rfl cx.rd rfl<|Zq (b:=H.next) (o:=0) rfl<|Zq (b:=H.next) (o:=2) rfl<|ZI (b:=H.next) (o:=2) (v:=iv a.tl) rfl ca.rd rfl<|YA (a:=a.wh) (b:=a.tl) rfl rfl ⟨by omega,by omega⟩<|Zf rfl<|Zf rfl<|ZB (b:=H10.next) (o:=0) (k:=0) (j:=0) rfl rfl rfl (by omega)<|ZI (b:=H10.next) (o:=0+0 * 1) (v:=iv b.wl) rfl cy.rd rfl<|Zq (b:=H1.next) (o:=0) rfl<|Zq (b:=H1.next) (o:=2) rfl<|ZI (b:=H1.next) (o:=2) (v:=iv b.tl) rfl cb.rd rfl<|YA (a:=b.wl) (b:=b.tl) rfl rfl ⟨by omega,by omega⟩<|Yp (a:=a.wh * a.tl) (b:=b.wl * b.tl) rfl rfl ⟨by omega,by omega⟩<|Zf rfl<|Wv (a:=(a.wh * a.tl)+(b.wl * b.tl)) (b:=a.wh+b.wl) rfl rfl (by omega) (by omega) ⟨by omega,by omega⟩<|Zf rfl ?_
        refine ZL (by repeat' first | exact True.intro | exact (fun h=>h) | refine And.intro ?_ ?_ | (intro h;have h:(_:Nat)=_:=h;omega)) ?_
        refine Yg<|Zf rfl<|Zf rfl<|ZB (b:=H9.next) (o:=0) (k:=1) (j:=1) rfl rfl rfl (by omega)<|ZI (b:=H9.next) (o:=0+1 * 1) (v:=iv a.wh) rfl cx.rd rfl<|Zq (b:=H.next) (o:=0) rfl<|Zq (b:=H.next) (o:=2) rfl<|ZI (b:=H.next) (o:=3) (v:=iv a.th) rfl ca.rd rfl<|YA (a:=a.wh) (b:=a.th) rfl rfl ⟨by omega,by omega⟩<|Zf rfl<|Zf rfl<|ZB (b:=H10.next) (o:=0) (k:=0) (j:=0) rfl rfl rfl (by omega)<|ZI (b:=H10.next) (o:=0+0 * 1) (v:=iv b.wl) rfl cy.rd rfl<|Zq (b:=H1.next) (o:=0) rfl<|Zq (b:=H1.next) (o:=2) rfl<|ZI (b:=H1.next) (o:=3) (v:=iv b.th) rfl cb.rd rfl<|YA (a:=b.wl) (b:=b.th) rfl rfl ⟨by omega,by omega⟩<|Yp (a:=a.wh * a.th) (b:=b.wl * b.th) rfl rfl ⟨by omega,by omega⟩<|Zf rfl<|Yp (a:=(a.wh * a.th)+(b.wl * b.th)) (b:=a.wh+b.wl) rfl rfl ⟨by omega,by omega⟩<|XC (a:=((a.wh * a.th)+(b.wl * b.th))+(a.wh+b.wl)) (b:=1) rfl rfl ⟨by omega,by omega⟩<|Zf rfl<|Wv (a:=(((a.wh * a.th)+(b.wl * b.th))+(a.wh+b.wl)) - 1) (b:=a.wh+b.wl) rfl rfl (by omega) (by omega) ⟨by omega,by omega⟩<|Zf rfl ?_
        refine ZL (by repeat' first | exact True.intro | exact (fun h=>h) | refine And.intro ?_ ?_ | (intro h;have h:(_:Nat)=_:=h;omega)) ?_
        refine Zc<|Za rfl<|Za rfl ?_
        refine Zo rfl (Za rfl ?_)
        refine Zo rfl (Zh (b:=H6.next) (o:=0) rfl ?_)
        refine Zo rfl (Zy (b:=H6.next) (o:=0) (v:=iv (rLo a b 2)) rfl cw.rd rfl ?_)
        refine Zo rfl (Xf (a:=((a.wh * a.tl)+(b.wl * b.tl)) / (a.wh+b.wl)) (b:=(rLo a b 2)) rfl rfl ?_)
        intro t10 g10;cases t10
        ·have g10:¬ ((((a.wh * a.tl)+(b.wl * b.tl)) / (a.wh+b.wl)) < (rLo a b 2)):=of_decide_eq_false g10
         refine Zd (v:=.bool false) rfl rfl<|Zb<|ZO ?_
         first | refine Zk ?_ | skip
         refine Zc<|Za rfl<|Za rfl ?_
         refine Zo rfl (Za rfl ?_)
         refine Zo rfl (Zh (b:=H6.next) (o:=0) rfl ?_)
         refine Zo rfl (Zy (b:=H6.next) (o:=1) (v:=iv (rHi a b 2)) rfl cw.rd rfl ?_)
         refine Zo rfl (WJ (a:=((((a.wh * a.th)+(b.wl * b.th))+(a.wh+b.wl)) - 1) / (a.wh+b.wl)) (b:=(rHi a b 2)) rfl rfl ?_)
         intro t11 g11;cases t11
         ·have g11:¬ ((((((a.wh * a.th)+(b.wl * b.th))+(a.wh+b.wl)) - 1) / (a.wh+b.wl)) > (rHi a b 2)):=of_decide_eq_false g11
          refine Zd (v:=.bool false) rfl rfl<|Zb<|ZO ?_
          first | refine Zk ?_ | skip
          show Zn _ _ _ _ _ _ _ _
          refine Za rfl<|Zb ?_
          show Zn _ _ _ _ _ _ _ _
          refine Za rfl<|Zw (a:=0) (b:=1) rfl rfl ⟨by omega,by omega⟩<|Za rfl<|Zb ?_
          have e1:rLo a b 3=(rLo a b 2):=by simp only [rLo,mLo,clA,cnx,cny] at *;omega
          have e2:rHi a b 3=(rHi a b 2):=by simp only [rHi,mHi,chA,cnx,cny] at *;omega
          exact ⟨m - 1,1,by omega,⟨by omega,hk,by omega,ca,cb,cr,cx,cy,by show Cl _ _ [iv (rLo a b 3),iv (rHi a b 3)];rw [e1,e2];exact cw⟩,rfl,rfl,rfl,rfl,rfl,rfl,rfl,rfl,ivq (by omega),trivial⟩
         ·have g11:(((((a.wh * a.th)+(b.wl * b.th))+(a.wh+b.wl)) - 1) / (a.wh+b.wl)) > (rHi a b 2):=of_decide_eq_true g11
          refine Zd (v:=.bool true) rfl rfl<|Zb<|ZT<|Zc<|Za rfl<|Zh (b:=H6.next) (o:=0) rfl<|WK (b:=H6.next) (o:=1) rfl rfl cw (by omega) rfl rfl (by simp) ?_
          intro H17 kH17 nH17 sH17
          have mH17:=kH17.1
          have hk:=hk.new kH17 (fun b hb=>by simp at hb ⊢;omega)
          have ca:=kH17.cl ca (by first | (simp;done) | (simp;omega))
          have cb:=kH17.cl cb (by first | (simp;done) | (simp;omega))
          have cr:=kH17.cl cr (by first | (simp;done) | (simp;omega))
          have cx:=kH17.cl cx (by first | (simp;done) | (simp;omega))
          have cy:=kH17.cl cy (by first | (simp;done) | (simp;omega))
          have cw:Cl H17 H6.next [iv (rLo a b 2),iv (((((a.wh * a.th)+(b.wl * b.th))+(a.wh+b.wl)) - 1) / (a.wh+b.wl))]:=sH17
          refine Zb ?_
          show Zn _ _ _ _ _ _ _ _
          refine Za rfl<|Zb ?_
          show Zn _ _ _ _ _ _ _ _
          refine Za rfl<|Zw (a:=0) (b:=1) rfl rfl ⟨by omega,by omega⟩<|Za rfl<|Zb ?_
          have e1:rLo a b 3=(rLo a b 2):=by simp only [rLo,mLo,clA,cnx,cny] at *;omega
          have e2:rHi a b 3=((((a.wh * a.th)+(b.wl * b.th))+(a.wh+b.wl)) - 1) / (a.wh+b.wl):=by simp only [rHi,mHi,chA,cnx,cny] at *;omega
          exact ⟨m - 1,1,by omega,⟨by omega,hk,by omega,ca,cb,cr,cx,cy,by show Cl _ _ [iv (rLo a b 3),iv (rHi a b 3)];rw [e1,e2];exact cw⟩,rfl,rfl,rfl,rfl,rfl,rfl,rfl,rfl,ivq (by omega),trivial⟩
        ·have g10:(((a.wh * a.tl)+(b.wl * b.tl)) / (a.wh+b.wl)) < (rLo a b 2):=of_decide_eq_true g10
         refine Zd (v:=.bool true) rfl rfl<|Zb<|ZT<|Zc<|Za rfl<|Zh (b:=H6.next) (o:=0) rfl<|WK (b:=H6.next) (o:=0) rfl rfl cw (by omega) rfl rfl (by simp) ?_
         intro H18 kH18 nH18 sH18
         have mH18:=kH18.1
         have hk:=hk.new kH18 (fun b hb=>by simp at hb ⊢;omega)
         have ca:=kH18.cl ca (by first | (simp;done) | (simp;omega))
         have cb:=kH18.cl cb (by first | (simp;done) | (simp;omega))
         have cr:=kH18.cl cr (by first | (simp;done) | (simp;omega))
         have cx:=kH18.cl cx (by first | (simp;done) | (simp;omega))
         have cy:=kH18.cl cy (by first | (simp;done) | (simp;omega))
         have cw:Cl H18 H6.next [iv (((a.wh * a.tl)+(b.wl * b.tl)) / (a.wh+b.wl)),iv (rHi a b 2)]:=sH18
         refine Zb<|Zc<|Za rfl<|Za rfl ?_
         refine Zo rfl (Za rfl ?_)
         refine Zo rfl (Zh (b:=H6.next) (o:=0) rfl ?_)
         refine Zo rfl (Zy (b:=H6.next) (o:=1) (v:=iv (rHi a b 2)) rfl cw.rd rfl ?_)
         refine Zo rfl (WJ (a:=((((a.wh * a.th)+(b.wl * b.th))+(a.wh+b.wl)) - 1) / (a.wh+b.wl)) (b:=(rHi a b 2)) rfl rfl ?_)
         intro t12 g12;cases t12
         ·have g12:¬ ((((((a.wh * a.th)+(b.wl * b.th))+(a.wh+b.wl)) - 1) / (a.wh+b.wl)) > (rHi a b 2)):=of_decide_eq_false g12
          refine Zd (v:=.bool false) rfl rfl<|Zb<|ZO ?_
          first | refine Zk ?_ | skip
          show Zn _ _ _ _ _ _ _ _
          refine Za rfl<|Zb ?_
          show Zn _ _ _ _ _ _ _ _
          refine Za rfl<|Zw (a:=0) (b:=1) rfl rfl ⟨by omega,by omega⟩<|Za rfl<|Zb ?_
          have e1:rLo a b 3=((a.wh * a.tl)+(b.wl * b.tl)) / (a.wh+b.wl):=by simp only [rLo,mLo,clA,cnx,cny] at *;omega
          have e2:rHi a b 3=(rHi a b 2):=by simp only [rHi,mHi,chA,cnx,cny] at *;omega
          exact ⟨m - 1,1,by omega,⟨by omega,hk,by omega,ca,cb,cr,cx,cy,by show Cl _ _ [iv (rLo a b 3),iv (rHi a b 3)];rw [e1,e2];exact cw⟩,rfl,rfl,rfl,rfl,rfl,rfl,rfl,rfl,ivq (by omega),trivial⟩
         ·have g12:(((((a.wh * a.th)+(b.wl * b.th))+(a.wh+b.wl)) - 1) / (a.wh+b.wl)) > (rHi a b 2):=of_decide_eq_true g12
          refine Zd (v:=.bool true) rfl rfl<|Zb<|ZT<|Zc<|Za rfl<|Zh (b:=H6.next) (o:=0) rfl<|WK (b:=H6.next) (o:=1) rfl rfl cw (by omega) rfl rfl (by simp) ?_
          intro H19 kH19 nH19 sH19
          have mH19:=kH19.1
          have hk:=hk.new kH19 (fun b hb=>by simp at hb ⊢;omega)
          have ca:=kH19.cl ca (by first | (simp;done) | (simp;omega))
          have cb:=kH19.cl cb (by first | (simp;done) | (simp;omega))
          have cr:=kH19.cl cr (by first | (simp;done) | (simp;omega))
          have cx:=kH19.cl cx (by first | (simp;done) | (simp;omega))
          have cy:=kH19.cl cy (by first | (simp;done) | (simp;omega))
          have cw:Cl H19 H6.next [iv (((a.wh * a.tl)+(b.wl * b.tl)) / (a.wh+b.wl)),iv (((((a.wh * a.th)+(b.wl * b.th))+(a.wh+b.wl)) - 1) / (a.wh+b.wl))]:=sH19
          refine Zb ?_
          show Zn _ _ _ _ _ _ _ _
          refine Za rfl<|Zb ?_
          show Zn _ _ _ _ _ _ _ _
          refine Za rfl<|Zw (a:=0) (b:=1) rfl rfl ⟨by omega,by omega⟩<|Za rfl<|Zb ?_
          have e1:rLo a b 3=((a.wh * a.tl)+(b.wl * b.tl)) / (a.wh+b.wl):=by simp only [rLo,mLo,clA,cnx,cny] at *;omega
          have e2:rHi a b 3=((((a.wh * a.th)+(b.wl * b.th))+(a.wh+b.wl)) - 1) / (a.wh+b.wl):=by simp only [rHi,mHi,chA,cnx,cny] at *;omega
          exact ⟨m - 1,1,by omega,⟨by omega,hk,by omega,ca,cb,cr,cx,cy,by show Cl _ _ [iv (rLo a b 3),iv (rHi a b 3)];rw [e1,e2];exact cw⟩,rfl,rfl,rfl,rfl,rfl,rfl,rfl,rfl,ivq (by omega),trivial⟩
      ·have hm:=Vs hva hvb hz 3;simp only [cnx,cny,clA,chA] at hm;have cw:Cl L2 H6.next [iv (rLo a b 3),iv (rHi a b 3)]:=cw
       first | refine Zk ?_ | skip
       refine Yg<|Zf rfl<|Zf rfl<|ZB (b:=H9.next) (o:=0) (k:=1) (j:=1) rfl rfl rfl (by omega)<|ZI (b:=H9.next) (o:=0+1 * 1) (v:=iv a.wh) rfl cx.rd rfl<|Zf rfl<|Zf rfl<|ZB (b:=H10.next) (o:=0) (k:=1) (j:=1) rfl rfl rfl (by omega)<|ZI (b:=H10.next) (o:=0+1 * 1) (v:=iv b.wh) rfl cy.rd rfl<|Yp (a:=a.wh) (b:=b.wh) rfl rfl ⟨by omega,by omega⟩<|Zf rfl ?_
       refine ZL (by repeat' first | exact True.intro | exact (fun h=>h) | refine And.intro ?_ ?_ | (intro h;have h:(_:Nat)=_:=h;omega)) ?_
       refine Zc<|Za rfl<|XQ (a:=a.wh+b.wh) (b:=0) rfl rfl<|Zb ?_
       refine And.intro (fun q13=>?_) (fun q13=>?_)
       ·have q13:(a.wh+b.wh)=0:=by simpa using q13
        omega
       ·have q13:¬ ((a.wh+b.wh)=0):=by simpa using q13
        first | refine Zk ?_ | skip
        refine Yg<|Zf rfl<|Zf rfl<|ZB (b:=H9.next) (o:=0) (k:=1) (j:=1) rfl rfl rfl (by omega)<|ZI (b:=H9.next) (o:=0+1 * 1) (v:=iv a.wh) rfl cx.rd rfl<|Zq (b:=H.next) (o:=0) rfl<|Zq (b:=H.next) (o:=2) rfl<|ZI (b:=H.next) (o:=2) (v:=iv a.tl) rfl ca.rd rfl<|YA (a:=a.wh) (b:=a.tl) rfl rfl ⟨by omega,by omega⟩<|Zf rfl<|Zf rfl<|ZB (b:=H10.next) (o:=0) (k:=1) (j:=1) rfl rfl rfl (by omega)<|ZI (b:=H10.next) (o:=0+1 * 1) (v:=iv b.wh) rfl cy.rd rfl<|Zq (b:=H1.next) (o:=0) rfl<|Zq (b:=H1.next) (o:=2) rfl<|ZI (b:=H1.next) (o:=2) (v:=iv b.tl) rfl cb.rd rfl<|YA (a:=b.wh) (b:=b.tl) rfl rfl ⟨by omega,by omega⟩<|Yp (a:=a.wh * a.tl) (b:=b.wh * b.tl) rfl rfl ⟨by omega,by omega⟩<|Zf rfl<|Wv (a:=(a.wh * a.tl)+(b.wh * b.tl)) (b:=a.wh+b.wh) rfl rfl (by omega) (by omega) ⟨by omega,by omega⟩<|Zf rfl ?_
        refine ZL (by repeat' first | exact True.intro | exact (fun h=>h) | refine And.intro ?_ ?_ | (intro h;have h:(_:Nat)=_:=h;omega)) ?_
        refine Yg<|Zf rfl<|Zf rfl<|ZB (b:=H9.next) (o:=0) (k:=1) (j:=1) rfl rfl rfl (by omega)<|ZI (b:=H9.next) (o:=0+1 * 1) (v:=iv a.wh) rfl cx.rd rfl<|Zq (b:=H.next) (o:=0) rfl<|Zq (b:=H.next) (o:=2) rfl<|ZI (b:=H.next) (o:=3) (v:=iv a.th) rfl ca.rd rfl<|YA (a:=a.wh) (b:=a.th) rfl rfl ⟨by omega,by omega⟩<|Zf rfl<|Zf rfl<|ZB (b:=H10.next) (o:=0) (k:=1) (j:=1) rfl rfl rfl (by omega)<|ZI (b:=H10.next) (o:=0+1 * 1) (v:=iv b.wh) rfl cy.rd rfl<|Zq (b:=H1.next) (o:=0) rfl<|Zq (b:=H1.next) (o:=2) rfl<|ZI (b:=H1.next) (o:=3) (v:=iv b.th) rfl cb.rd rfl<|YA (a:=b.wh) (b:=b.th) rfl rfl ⟨by omega,by omega⟩<|Yp (a:=a.wh * a.th) (b:=b.wh * b.th) rfl rfl ⟨by omega,by omega⟩<|Zf rfl<|Yp (a:=(a.wh * a.th)+(b.wh * b.th)) (b:=a.wh+b.wh) rfl rfl ⟨by omega,by omega⟩<|XC (a:=((a.wh * a.th)+(b.wh * b.th))+(a.wh+b.wh)) (b:=1) rfl rfl ⟨by omega,by omega⟩<|Zf rfl<|Wv (a:=(((a.wh * a.th)+(b.wh * b.th))+(a.wh+b.wh)) - 1) (b:=a.wh+b.wh) rfl rfl (by omega) (by omega) ⟨by omega,by omega⟩<|Zf rfl ?_
        refine ZL (by repeat' first | exact True.intro | exact (fun h=>h) | refine And.intro ?_ ?_ | (intro h;have h:(_:Nat)=_:=h;omega)) ?_
        refine Zc<|Za rfl<|Za rfl ?_
        refine Zo rfl (Za rfl ?_)
        refine Zo rfl (Zh (b:=H6.next) (o:=0) rfl ?_)
        refine Zo rfl (Zy (b:=H6.next) (o:=0) (v:=iv (rLo a b 3)) rfl cw.rd rfl ?_)
        refine Zo rfl (Xf (a:=((a.wh * a.tl)+(b.wh * b.tl)) / (a.wh+b.wh)) (b:=(rLo a b 3)) rfl rfl ?_)
        intro t14 g14;cases t14
        ·have g14:¬ ((((a.wh * a.tl)+(b.wh * b.tl)) / (a.wh+b.wh)) < (rLo a b 3)):=of_decide_eq_false g14
         refine Zd (v:=.bool false) rfl rfl<|Zb<|ZO ?_
         first | refine Zk ?_ | skip
         refine Zc<|Za rfl<|Za rfl ?_
         refine Zo rfl (Za rfl ?_)
         refine Zo rfl (Zh (b:=H6.next) (o:=0) rfl ?_)
         refine Zo rfl (Zy (b:=H6.next) (o:=1) (v:=iv (rHi a b 3)) rfl cw.rd rfl ?_)
         refine Zo rfl (WJ (a:=((((a.wh * a.th)+(b.wh * b.th))+(a.wh+b.wh)) - 1) / (a.wh+b.wh)) (b:=(rHi a b 3)) rfl rfl ?_)
         intro t15 g15;cases t15
         ·have g15:¬ ((((((a.wh * a.th)+(b.wh * b.th))+(a.wh+b.wh)) - 1) / (a.wh+b.wh)) > (rHi a b 3)):=of_decide_eq_false g15
          refine Zd (v:=.bool false) rfl rfl<|Zb<|ZO ?_
          first | refine Zk ?_ | skip
          show Zn _ _ _ _ _ _ _ _
          refine Za rfl<|Zb ?_
          show Zn _ _ _ _ _ _ _ _
          refine Za rfl<|Zw (a:=1) (b:=1) rfl rfl ⟨by omega,by omega⟩<|Za rfl<|Zb ?_
          have e1:rLo a b 4=(rLo a b 3):=by simp only [rLo,mLo,clA,cnx,cny] at *;omega
          have e2:rHi a b 4=(rHi a b 3):=by simp only [rHi,mHi,chA,cnx,cny] at *;omega
          exact ⟨m - 1,2,by omega,⟨by omega,hk,by omega,ca,cb,cr,cx,cy,by show Cl _ _ [iv (rLo a b 4),iv (rHi a b 4)];rw [e1,e2];exact cw⟩,rfl,rfl,rfl,rfl,rfl,rfl,rfl,rfl,ivq (by omega),trivial⟩
         ·have g15:(((((a.wh * a.th)+(b.wh * b.th))+(a.wh+b.wh)) - 1) / (a.wh+b.wh)) > (rHi a b 3):=of_decide_eq_true g15
          refine Zd (v:=.bool true) rfl rfl<|Zb<|ZT<|Zc<|Za rfl<|Zh (b:=H6.next) (o:=0) rfl<|WK (b:=H6.next) (o:=1) rfl rfl cw (by omega) rfl rfl (by simp) ?_
          intro H20 kH20 nH20 sH20
          have mH20:=kH20.1
          have hk:=hk.new kH20 (fun b hb=>by simp at hb ⊢;omega)
          have ca:=kH20.cl ca (by first | (simp;done) | (simp;omega))
          have cb:=kH20.cl cb (by first | (simp;done) | (simp;omega))
          have cr:=kH20.cl cr (by first | (simp;done) | (simp;omega))
          have cx:=kH20.cl cx (by first | (simp;done) | (simp;omega))
          have cy:=kH20.cl cy (by first | (simp;done) | (simp;omega))
          have cw:Cl H20 H6.next [iv (rLo a b 3),iv (((((a.wh * a.th)+(b.wh * b.th))+(a.wh+b.wh)) - 1) / (a.wh+b.wh))]:=sH20
          refine Zb ?_
          show Zn _ _ _ _ _ _ _ _
          refine Za rfl<|Zb ?_
          show Zn _ _ _ _ _ _ _ _
          refine Za rfl<|Zw (a:=1) (b:=1) rfl rfl ⟨by omega,by omega⟩<|Za rfl<|Zb ?_
          have e1:rLo a b 4=(rLo a b 3):=by simp only [rLo,mLo,clA,cnx,cny] at *;omega
          have e2:rHi a b 4=((((a.wh * a.th)+(b.wh * b.th))+(a.wh+b.wh)) - 1) / (a.wh+b.wh):=by simp only [rHi,mHi,chA,cnx,cny] at *;omega
          exact ⟨m - 1,2,by omega,⟨by omega,hk,by omega,ca,cb,cr,cx,cy,by show Cl _ _ [iv (rLo a b 4),iv (rHi a b 4)];rw [e1,e2];exact cw⟩,rfl,rfl,rfl,rfl,rfl,rfl,rfl,rfl,ivq (by omega),trivial⟩
        ·have g14:(((a.wh * a.tl)+(b.wh * b.tl)) / (a.wh+b.wh)) < (rLo a b 3):=of_decide_eq_true g14
         refine Zd (v:=.bool true) rfl rfl<|Zb<|ZT<|Zc<|Za rfl<|Zh (b:=H6.next) (o:=0) rfl<|WK (b:=H6.next) (o:=0) rfl rfl cw (by omega) rfl rfl (by simp) ?_
         intro H21 kH21 nH21 sH21
         have mH21:=kH21.1
         have hk:=hk.new kH21 (fun b hb=>by simp at hb ⊢;omega)
         have ca:=kH21.cl ca (by first | (simp;done) | (simp;omega))
         have cb:=kH21.cl cb (by first | (simp;done) | (simp;omega))
         have cr:=kH21.cl cr (by first | (simp;done) | (simp;omega))
         have cx:=kH21.cl cx (by first | (simp;done) | (simp;omega))
         have cy:=kH21.cl cy (by first | (simp;done) | (simp;omega))
         have cw:Cl H21 H6.next [iv (((a.wh * a.tl)+(b.wh * b.tl)) / (a.wh+b.wh)),iv (rHi a b 3)]:=sH21
         refine Zb<|Zc<|Za rfl<|Za rfl ?_
         refine Zo rfl (Za rfl ?_)
         refine Zo rfl (Zh (b:=H6.next) (o:=0) rfl ?_)
         refine Zo rfl (Zy (b:=H6.next) (o:=1) (v:=iv (rHi a b 3)) rfl cw.rd rfl ?_)
         refine Zo rfl (WJ (a:=((((a.wh * a.th)+(b.wh * b.th))+(a.wh+b.wh)) - 1) / (a.wh+b.wh)) (b:=(rHi a b 3)) rfl rfl ?_)
         intro t16 g16;cases t16
         ·have g16:¬ ((((((a.wh * a.th)+(b.wh * b.th))+(a.wh+b.wh)) - 1) / (a.wh+b.wh)) > (rHi a b 3)):=of_decide_eq_false g16
          refine Zd (v:=.bool false) rfl rfl<|Zb<|ZO ?_
          first | refine Zk ?_ | skip
          show Zn _ _ _ _ _ _ _ _
          refine Za rfl<|Zb ?_
          show Zn _ _ _ _ _ _ _ _
          refine Za rfl<|Zw (a:=1) (b:=1) rfl rfl ⟨by omega,by omega⟩<|Za rfl<|Zb ?_
          have e1:rLo a b 4=((a.wh * a.tl)+(b.wh * b.tl)) / (a.wh+b.wh):=by simp only [rLo,mLo,clA,cnx,cny] at *;omega
          have e2:rHi a b 4=(rHi a b 3):=by simp only [rHi,mHi,chA,cnx,cny] at *;omega
          exact ⟨m - 1,2,by omega,⟨by omega,hk,by omega,ca,cb,cr,cx,cy,by show Cl _ _ [iv (rLo a b 4),iv (rHi a b 4)];rw [e1,e2];exact cw⟩,rfl,rfl,rfl,rfl,rfl,rfl,rfl,rfl,ivq (by omega),trivial⟩
         ·have g16:(((((a.wh * a.th)+(b.wh * b.th))+(a.wh+b.wh)) - 1) / (a.wh+b.wh)) > (rHi a b 3):=of_decide_eq_true g16
          refine Zd (v:=.bool true) rfl rfl<|Zb<|ZT<|Zc<|Za rfl<|Zh (b:=H6.next) (o:=0) rfl<|WK (b:=H6.next) (o:=1) rfl rfl cw (by omega) rfl rfl (by simp) ?_
          intro H22 kH22 nH22 sH22
          have mH22:=kH22.1
          have hk:=hk.new kH22 (fun b hb=>by simp at hb ⊢;omega)
          have ca:=kH22.cl ca (by first | (simp;done) | (simp;omega))
          have cb:=kH22.cl cb (by first | (simp;done) | (simp;omega))
          have cr:=kH22.cl cr (by first | (simp;done) | (simp;omega))
          have cx:=kH22.cl cx (by first | (simp;done) | (simp;omega))
          have cy:=kH22.cl cy (by first | (simp;done) | (simp;omega))
          have cw:Cl H22 H6.next [iv (((a.wh * a.tl)+(b.wh * b.tl)) / (a.wh+b.wh)),iv (((((a.wh * a.th)+(b.wh * b.th))+(a.wh+b.wh)) - 1) / (a.wh+b.wh))]:=sH22
          refine Zb ?_
          show Zn _ _ _ _ _ _ _ _
          refine Za rfl<|Zb ?_
          show Zn _ _ _ _ _ _ _ _
          refine Za rfl<|Zw (a:=1) (b:=1) rfl rfl ⟨by omega,by omega⟩<|Za rfl<|Zb ?_
          have e1:rLo a b 4=((a.wh * a.tl)+(b.wh * b.tl)) / (a.wh+b.wh):=by simp only [rLo,mLo,clA,cnx,cny] at *;omega
          have e2:rHi a b 4=((((a.wh * a.th)+(b.wh * b.th))+(a.wh+b.wh)) - 1) / (a.wh+b.wh):=by simp only [rHi,mHi,chA,cnx,cny] at *;omega
          exact ⟨m - 1,2,by omega,⟨by omega,hk,by omega,ca,cb,cr,cx,cy,by show Cl _ _ [iv (rLo a b 4),iv (rHi a b 4)];rw [e1,e2];exact cw⟩,rfl,rfl,rfl,rfl,rfl,rfl,rfl,rfl,ivq (by omega),trivial⟩
     ·have q3:¬ ((j:Int) < 2):=of_decide_eq_false q3
      obtain rfl:j=2:=by omega
      first | (refine ZF ?_;show wC _ _ _ _ _ _ _ _ _) | skip
      show Zn _ _ _ _ _ _ _ _
      refine Za rfl<|Zw (a:=(i:Int)) (b:=1) rfl rfl ⟨by omega,by omega⟩<|Za rfl<|Zb ?_
      exact ⟨k - 1,i+1,by omega,⟨by omega,hk,hnx,ca,cb,cr,cx,cy,by rw [show 2 * (i+1)=2 * i+2 by omega];exact cw⟩,rfl,rfl,rfl,rfl,rfl,rfl,by rw [show decide (i+1=0)=decide (i+2=0) by simp];rfl,ivq (by omega),trivial⟩
    ·have q2:¬ ((i:Int) < 2):=of_decide_eq_false q2
     first | (refine ZF ?_;show wC _ _ _ _ _ _ _ _ _) | skip
     refine Zc<|Zx (b:=H6.next) (o:=0) rfl cw.rd (show row 2 _ _=some [iv (rLo a b (2 * i)),iv (rHi a b (2 * i))] from rfl)<|ZH (b:=H2.next) (o:=0) rfl rfl cr (by omega) rfl rfl (by simp) ?_
     intro H23 kH23 nH23 sH23
     have mH23:=kH23.1
     have hk:=hk.new kH23 (fun b hb=>by simp at hb ⊢;omega)
     have ca:=kH23.cl ca (by first | (simp;done) | (simp;omega))
     have cb:=kH23.cl cb (by first | (simp;done) | (simp;omega))
     have cx:=kH23.cl cx (by first | (simp;done) | (simp;omega))
     have cy:=kH23.cl cy (by first | (simp;done) | (simp;omega))
     have cw:=kH23.cl cw (by first | (simp;done) | (simp;omega))
     have cr:Cl H23 H2.next [iv (rLo a b (2 * i)),iv (rHi a b (2 * i))]:=sH23
     refine Za rfl<|Zb ?_
     obtain rfl:i=2:=by omega
     exact And.intro trivial (Exists.intro _ (And.intro (WQ rfl a31 W8 rfl cr rfl) ⟨WR (jT hva hvb (by omega)),hk⟩))
end
end
end Go.Ax

/-
 Pool: lists joined;Allow,and the document of it (written by program).
-/
namespace Go.Ax
open Go Go.RowKit Go.Proofs

noncomputable section
theorem UV {z:List Value}:∀ {n:Nat},(ZG z n).length=n * z.length
 | 0=>by simp [ZG]
 | n+1=>by rw [ZG,List.length_append,UV,Nat.succ_mul];omega
theorem U1:∀ (z v pre post:List Value),z.length=v.length→ZD (pre ++ z ++ post) pre.length v=pre ++ v ++ post
 | [],[],pre,post,_=>by simp [ZD]
 | [],_ :: _,_,_,h=>by simp at h
 | _ :: _,[],_,_,h=>by simp at h
 | y :: z,v :: vs,pre,post,h=>by
  have e:(pre ++ (y :: z) ++ post).set pre.length v=(pre ++ [v]) ++ z ++ post:=by
   rw [List.append_assoc,List.set_append_right _ _ (Nat.le_refl _),Nat.sub_self,List.cons_append,List.set_cons_zero]
   simp
  rw [ZD,e]
  have:=U1 z vs (pre ++ [v]) post (by simpa using h)
  rw [List.length_append] at this
  rw [show pre.length+1=pre.length + [v].length from rfl,this]
  simp
theorem yD {Z A B:List Value} (h:Z.length=A.length+B.length):ZD (ZD Z 0 A) A.length B=A ++ B:=by
 have e:Z=Z.take A.length ++ Z.drop A.length:=(List.take_append_drop _ _).symm
 have h1:(Z.take A.length).length=A.length:=by simp;omega
 have h2:ZD Z 0 A=A ++ Z.drop A.length:=by
  have:=U1 (Z.take A.length) A [] (Z.drop A.length) h1
  simpa using this
 rw [h2]
 exact VU (Z.drop A.length) B A (by simp;omega)
theorem Uk {lo n:Nat} {S:Rg} {H:Hp} {d:Option Tmp} {ty:TypeId} {p:String} {x:Operand} (hx:evS S x=some (.slice none 0 0)):Zr Try.prog lo (frS n S) H ⟨d,.call ⟨.builtin .cap,#[x],#[22]⟩,ty,p,#[],none⟩=some (.val (iv 0) H,.pure):=by
 unfold Zr
 simp only [evs,Yd,hx,Z2,List.getElem?_toArray,List.getElem?_cons_zero,Zag]
 rfl
theorem Jw {lo n:Nat} {S:Rg} {H:Hp} {d:Option Tmp} {ty:TypeId} {p:String} {x y:Operand} (hx:evS S x=some (.slice none 0 0)) (hy:evS S y=some (iv 0)):Zr Try.prog lo (frS n S) H ⟨d,.slice 22 x none (some y) none,ty,p,#[],none⟩=some (.val (.slice none 0 0) H,.pure):=by
 obtain ⟨i,hi,_⟩:=Zdd
 have hb:ZX (frS n S) 0 (some y)=some 0:=by unfold ZX;simp only [Yd,hy]
 have hb0:ZX (frS n S) 0 none=some 0:=rfl
 unfold Zr
 simp only [Yd,hx,Zag,hi,hb,hb0]
 rfl
theorem Qj {lo n:Nat} {S:Rg} {H:Hp} {d:Option Tmp} {ty:TypeId} {p:String} {x y:Operand} {b m c:Nat} {cs:List Value} (hg:H.t.get b=some (.cells cs 52 true)) (hx:evS S x=some (.slice (some ⟨b,0,none⟩) m c)) (hy:evS S y=some (iv 0)):Zr Try.prog lo (frS n S) H ⟨d,.slice 22 x none (some y) none,ty,p,#[],none⟩=some (.val (.slice (some ⟨b,0,none⟩) 0 c) H,.read b):=by
 obtain ⟨i,hi,hs⟩:=Zdd
 have hb:ZX (frS n S) m (some y)=some 0:=by unfold ZX;simp only [Yd,hy]
 have hb0:ZX (frS n S) 0 none=some 0:=rfl
 unfold Zr
 simp only [Yd,hx,Zag,hi,hb,hb0,hg,hs,Nat.beq_refl,Nat.ble_eq_true_of_le (Nat.zero_le m),Nat.ble_eq_true_of_le (Nat.le_refl 0),show Nat.beq 5 0=false from rfl,Bool.not_false,Bool.or_true,Bool.and_self,cond_true,Nat.zero_mul,zY,Nat.sub_zero,Nat.add_zero]
theorem V7 {lo n:Nat} {S:Rg} {H:Hp} {d:Option Tmp} {ty:TypeId} {p:String} {x y:Operand} {m:Nat} {j:Int} (hx:evS S x=some (.slice none 0 0)) (hy:evS S y=some (iv j)) (hj:j=(m:Int)) (hm:0 < m) (hm2:m≤1000):Zr Try.prog lo (frS n S) H ⟨d,.call ⟨.builtin .append,#[x,y],#[22,3]⟩,ty,p,#[],none⟩=some (.val (.slice (some ⟨H.next,0,none⟩) m m) (H.new (.cells (ZG [iv 0,iv 0,iv 0,iv 0,iv 0] m) 52 true)),.heavy):=by
 subst hj
 have h3:Nat.ble m 1048576=true:=Nat.ble_eq_true_of_le (by omega)
 have h0:Nat.beq m 0=false:=by rw [Zz];exact decide_eq_false (by omega)
 unfold Zr
 simp only [evs,Yd,hx,hy,Z2,List.getElem?_toArray,List.getElem?_cons_zero,List.getElem?_cons_succ,j7,Try.underlying3,Zc4,show ((m:Nat):Int)=Int.ofNat m from rfl,h3,cond_true,ZN,YQ,Nat.beq_refl,Bool.and_self,h0,cond_false]
 rfl
theorem Vy {lo:Nat} {H:Hp} {b m k N c2:Nat} {a2:Option Addr} {cs news:List Value} (hg:H.t.get b=some (.cells cs 52 true)) (hbn:b < H.next) (hlb:lo≤b) (hcl:cs.length=N * 5) (hs:Sl H a2 k c2 news) (hl:news.length=k * 5) (hone:news.all one=true) (hmk:m+k≤N) (hN:N≤1000) :
  ∃ H1 kd,(∀ (n:Nat) (S:Rg) (d:Option Tmp) (x y:Operand) (ty:TypeId) (p:String),evS S x=some (.slice (some ⟨b,0,none⟩) m N)→evS S y=some (.slice a2 k c2)→Zr Try.prog lo (frS n S) H ⟨d,.call ⟨.builtin .append,#[x,y],#[22,22]⟩,ty,p,#[],none⟩=some (.val (.slice (some ⟨b,0,none⟩) (m+k) N) H1,kd))∧(∀ c,kd=.read c→c < H.next)∧
   H1.t.get b=some (.cells (ZD cs (m * 5) news) 52 true)∧Zi H H1 [b]∧H1.next=H.next:=by
 have h3:Nat.ble (m+k) 1048576=true:=Nat.ble_eq_true_of_le (by omega)
 by_cases h0:k=0
 ·subst h0
  have hn:news=[]:=List.eq_nil_of_length_eq_zero (by simpa using hl)
  subst hn
  rw [Nat.add_zero] at h3
  refine ⟨H,.pure,fun n S d x y ty p hx hy=>?_,(fun c e=>by cases e),hg,Zi.refl H [b],rfl⟩
  unfold Zr
  simp only [evs,Yd,hx,hy,Z2,List.getElem?_toArray,List.getElem?_cons_zero,List.getElem?_cons_succ,j7,Zag,WO hs hl,ZN,h3,cond_true,Nat.beq_refl,Nat.add_zero]
 ·have hk0:Nat.beq k 0=false:=by rw [Zz];exact decide_eq_false h0
  have hle:(m+k) * 5≤N * 5:=Nat.mul_le_mul_right _ hmk
  refine ⟨H.up b (.cells (ZD cs (m * 5) news) 52 true),.store b,fun n S d x y ty p hx hy=>?_,(fun c e=>by cases e),?_,(WE ⟨hbn,_,_,hg⟩ rfl).1,rfl⟩
  ·unfold Zr
   simp only [evs,Yd,hx,hy,Z2,List.getElem?_toArray,List.getElem?_cons_zero,List.getElem?_cons_succ,j7,Zag,WO hs hl,ZN,h3,cond_true,cond_false,hk0,hg,hone,Nat.ble_eq_true_of_le hlb,Nat.beq_refl,Nat.zero_add,Nat.ble_eq_true_of_le (show (m+k) * 5≤cs.length by omega),Bool.and_self]
   rfl
  ·show (H.t.set b _).get b=_
   rw [Tr.get_set,if_pos rfl]
def lnF (n:Nat):Nat→Nat | 0=>0 | 1=>n | _=>n+1
def ccF (n:Nat) (ds:List Dc) (x:Dc):Nat→List Value | 0=>ZG [iv 0,iv 0,iv 0,iv 0,iv 0] (n+1) | 1=>ZD (ZG [iv 0,iv 0,iv 0,iv 0,iv 0] (n+1)) (0 * 5) (dcc ds) | _=>ZD (ZD (ZG [iv 0,iv 0,iv 0,iv 0,iv 0] (n+1)) (0 * 5) (dcc ds)) (n * 5) (Dc.f x)
theorem qM {n:Nat} {ds:List Dc} {x:Dc} (i:Nat):(ccF n ds x i).length=(n+1) * 5:=by
 unfold ccF
 split<;>simp only [Wu,UV]<;>rfl
theorem Zby {n:Nat} {ds:List Dc} {x:Dc} (h:ds.length=n):ccF n ds x 2=dcc (ds ++ [x]):=by
 have e:dcc (ds ++ [x])=dcc ds ++ Dc.f x:=by unfold dcc;rw [List.flatMap_append];simp
 rw [e]
 show ZD (ZD _ (0 * 5) (dcc ds)) (n * 5) (Dc.f x)=_
 have hl:(dcc ds).length=n * 5:=by rw [qA,h]
 rw [← hl,Nat.zero_mul]
 refine yD ?_
 rw [UV,hl]
 show (n+1) * 5=n * 5+5
 omega
theorem qy:∀ {ds:List Dc},(dcc ds).all one=true
 | []=>rfl
 | d :: ds=>by
  have ih:=qy (ds:=ds)
  show (Dc.f d ++ dcc ds).all one=true
  rw [List.all_append,ih];rfl
def alT (ds:List Dc) (days limit day:Int):Int × Int:=
 if vD ds=false then (0,1) else if inB days 1 366=false∨inB limit 0 72057594037927936=false∨inB day 0 16384=false then (0,2) else if limit < gmx (prt gHi ds) days day days.toNat then (0,12) else (limit - gmx (prt gHi ds) days day days.toNat,0)
section
variable {ds:List Dc} {days limit day:Int}
theorem Zex (h:vD ds=false):alT ds days limit day=(0,1):=by unfold alT;rw [if_pos h]
theorem jZ (h:vD ds=true) (k:inB days 1 366=false∨inB limit 0 72057594037927936=false∨inB day 0 16384=false):alT ds days limit day=(0,2):=by unfold alT;rw [if_neg (by rw [h];decide),if_pos k]
theorem Zc2 (h:vD ds=true) (k:inB days 1 366=true) (k2:inB limit 0 72057594037927936=true) (k3:inB day 0 16384=true) (q:limit < gmx (prt gHi ds) days day days.toNat):alT ds days limit day=(0,12):=by unfold alT;rw [if_neg (by rw [h];decide),if_neg (by rw [k,k2,k3];decide),if_pos q]
theorem Zdi (h:vD ds=true) (k:inB days 1 366=true) (k2:inB limit 0 72057594037927936=true) (k3:inB day 0 16384=true) (q:¬ limit < gmx (prt gHi ds) days day days.toNat):alT ds days limit day=(limit - gmx (prt gHi ds) days day days.toNat,0):=by unfold alT;rw [if_neg (by rw [h];decide),if_neg (by rw [k,k2,k3];decide),if_neg q]
theorem UJ {a b:Int} (h:alT ds days limit day=(a,b)):(Value.tuple #[iv a,iv b])=.tuple #[iv (alT ds days limit day).1,iv (alT ds days limit day).2]:=by rw [h]
end
theorem Zcw {ds:List Dc} {days day:Int} (h:∀ d,d∈ds→Y8 d=false) (hl:ds.length≤70) {k:Nat}:0≤gmx (prt gHi ds) days day k∧gmx (prt gHi ds) days day k≤5044031582654955520:=by
 refine ⟨yk,yh (by omega) fun j _=>?_⟩
 have h1:=Zbm (l:=prt gHi ds) (days:=days) (D:=day+j) (y7 yo h)
 rw [X4] at h1
 omega
section
variable {kn:Kn} {lo:Nat} {H:Hp}
set_option maxRecDepth 100000 in
theorem Zbf {n:Nat} {j:Int} (hj:j=(n:Int)+1) (hn:n≤100) (hlo:lo≤H.next):∃ b H',FnX Try.prog kn lo 64 [.slice none 0 0,iv j] H (.slice (some ⟨b,0,none⟩) 0 (n+1)) H'∧Zi H H' []∧H.next≤b∧b < H'.next∧H'.t.get b=some (.cells (ZG [iv 0,iv 0,iv 0,iv 0,iv 0] (n+1)) 52 true):=by
 have key:=Zp (kn:=kn) (lo:=lo) (H:=H) (args:=[.slice none 0 0,iv j]) (Q:=fun w H'=>∃ b,w=.slice (some ⟨b,0,none⟩) 0 (n+1)∧Zi H H' []∧H.next≤b∧b < H'.next∧H'.t.get b=some (.cells (ZG [iv 0,iv 0,iv 0,iv 0,iv 0] (n+1)) 52 true)) Try.func64 B64 N64 Z64 L64 (by simp) ?_
 ·obtain ⟨w,H',h,b,rfl,q⟩:=key;exact ⟨b,H',h,q⟩
 have hk:=Zi.refl H []
 refine Zc<|Za rfl<|Zb<|Zc<|Za rfl<|ZC (a:=j) (b:=0) rfl rfl<|Zb ?_
 refine And.intro (fun q1=>?_) (fun q1=>?_)
 ·have q1:j < 0:=of_decide_eq_true q1
  omega
 ·have q1:¬ (j < 0):=of_decide_eq_false q1
  first | refine Zk ?_ | skip
  refine Zc<|Za rfl<|Za rfl<|Yz (k:=.pure) rfl (by kernel_rfl) (Uk rfl) (fun b e=>by cases e)<|Za rfl<|Yx (m:=0) rfl<|Yl (a:=0) (b:=0) rfl rfl ⟨by omega,by omega⟩<|Yl (a:=j) (b:=0 - 0) rfl rfl ⟨by omega,by omega⟩<|Za rfl<|Zb<|Zc<|Za rfl<|Y2 (a:=j - (0 - 0)) (b:=0) rfl rfl<|Zb ?_
  refine And.intro (fun q2=>?_) (fun q2=>?_)
  ·have q2:(j - (0 - 0)) > 0:=of_decide_eq_true q2
   refine Zc<|Za rfl<|Za rfl<|Yz (k:=.pure) rfl (by kernel_rfl) (Uk rfl) (fun b e=>by cases e)<|Yz (k:=.pure) rfl (by kernel_rfl) (Jw rfl rfl) (fun b e=>by cases e)<|Za rfl ?_
   obtain ⟨H1,hH1⟩:∃ H1,H.new (.cells (ZG [iv 0,iv 0,iv 0,iv 0,iv 0] (n+1)) 52 true)=H1:=⟨_,rfl⟩
   refine Yz (H':=H1) (k:=.heavy) rfl (by kernel_rfl) ((V7 (m:=n+1) (j:=j - (0 - 0)) rfl rfl (by omega) (by omega) (by omega)).trans (by rw [← hH1])) (fun b e=>by cases e) ?_
   have hg:=Zbl hH1
   obtain ⟨kH1,nH1,cH1⟩:=Z7 hH1;clear hH1
   have mH1:=kH1.1
   have hk:=hk.trans kH1
   refine Za rfl<|Yx (m:=0) rfl<|Yz (k:=.read H.next) rfl (by kernel_rfl) (Qj hg rfl rfl) (fun b e=>by cases e;omega)<|Za rfl<|Zb<|Zc<|Za rfl<|Za rfl<|Zb ?_
   exact And.intro trivial (Exists.intro _ (And.intro rfl ⟨H.next,rfl,hk,by omega,by omega,hg⟩))
  ·have q2:¬ ((j - (0 - 0)) > 0):=of_decide_eq_false q2
   omega
set_option maxRecDepth 100000 in
set_option maxHeartbeats 2000000 in
theorem ja {ds:List Dc} {x:Dc} {sa:Option Addr} {n cap ob x1:Nat} (co:Cl H ob [.slice sa n cap,.slice (some ⟨x1,0,none⟩) 1 1]) (cx:Cl H x1 [iv x.d,iv x.wl,iv x.wh,iv x.cl,iv x.ch]) (hs:Sl H sa n cap (dcc ds)) (hl:ds.length=n) (hn:n≤100) (hlo:lo≤H.next):∃ b H',FnX Try.prog kn lo 40 [.slice (some ⟨ob,0,none⟩) 2 2] H (.slice (some ⟨b,0,none⟩) (n+1) (n+1)) H'∧Zi H H' []∧Rd H' b (dcc (ds ++ [x]))∧H.next≤b:=by
 have key:=Zp (kn:=kn) (lo:=lo) (H:=H) (args:=[.slice (some ⟨ob,0,none⟩) 2 2]) (Q:=fun w H'=>∃ b,w=.slice (some ⟨b,0,none⟩) (n+1) (n+1)∧Zi H H' []∧Rd H' b (dcc (ds ++ [x]))∧H.next≤b) Try.func40 B40 N40 Z40 L40 (by simp) ?_
 ·obtain ⟨w,H',h,b,rfl,q⟩:=key;exact ⟨b,H',h,q⟩
 have hk:=Zi.refl H []
 have fs:=hs.old
 have lob:=co.lt
 have lx1:=cx.lt
 refine Zc<|Za rfl<|Zb<|Zc<|Za rfl<|Zb<|Zc<|Za rfl<|Yx (m:=2) rfl<|Za rfl<|Zb ?_
 refine ZA (fn:=Try.f40) Zda N40 Zed (fun i:Nat=>[(0,.slice (some ⟨ob,0,none⟩) 2 2),(3,iv (lnF n i:Int)),(9,.slice (some ⟨ob,0,none⟩) 2 2),(10,iv 2),(11,iv (i:Int))])
  (fun k i H'=>i+k=2∧Zi H H' []∧Cl H' ob [.slice sa n cap,.slice (some ⟨x1,0,none⟩) 1 1]∧Cl H' x1 [iv x.d,iv x.wl,iv x.wh,iv x.cl,iv x.ch]∧Sl H' sa n cap (dcc ds)) 2 0 ⟨by omega,hk,co,cx,hs⟩ ⟨rfl,rfl,rfl,rfl,rfl,trivial⟩ ?_
 rintro k i L1 ⟨hik,hk,co,cx,hs⟩
 have mk:=hk.1
 refine Zc<|ZC (a:=(i:Int)) (b:=2) rfl rfl<|Zb ?_
 refine And.intro (fun q1=>?_) (fun q1=>?_)
 ·have q1:(i:Int) < 2:=of_decide_eq_true q1
  obtain rfl | rfl:i=0∨i=1:=by omega
  ·first | refine Zk ?_ | skip
   refine Zc<|Xt (b:=ob) (o:=0) (k:=0) (j:=0) rfl rfl rfl (by omega)<|Zy (b:=ob) (o:=0+0 * 1) (v:=.slice sa n cap) rfl co.rd rfl<|Za rfl<|Zb<|Zc<|Za rfl<|Za rfl<|Yx (m:=n) rfl<|Zw (a:=0) (b:=(n:Int)) rfl rfl ⟨by omega,by omega⟩<|Za rfl<|Zb<|Zc<|Za rfl<|ZC (a:=0+(n:Int)) (b:=0) rfl rfl<|Zb ?_
   refine And.intro (fun q2=>?_) (fun q2=>?_)
   ·have q2:(0+(n:Int)) < 0:=of_decide_eq_true q2
    omega
   ·have q2:¬ ((0+(n:Int)) < 0):=of_decide_eq_false q2
    first | refine Zk ?_ | skip
    show Zn _ _ _ _ _ _ _ _
    refine Zw (a:=0) (b:=1) rfl rfl ⟨by omega,by omega⟩<|Za rfl<|Zb ?_
    exact ⟨k - 1,1,by omega,⟨by omega,hk,co,cx,hs⟩,rfl,ivq (by simp only [lnF];omega),rfl,rfl,ivq (by omega),trivial⟩
  ·first | refine Zk ?_ | skip
   refine Zc<|Xt (b:=ob) (o:=0) (k:=1) (j:=1) rfl rfl rfl (by omega)<|Zy (b:=ob) (o:=0+1 * 1) (v:=.slice (some ⟨x1,0,none⟩) 1 1) rfl co.rd rfl<|Za rfl<|Zb<|Zc<|Za rfl<|Za rfl<|Yx (m:=1) rfl<|Zw (a:=(n:Int)) (b:=1) rfl rfl ⟨by omega,by omega⟩<|Za rfl<|Zb<|Zc<|Za rfl<|ZC (a:=(n:Int)+1) (b:=0) rfl rfl<|Zb ?_
   refine And.intro (fun q3=>?_) (fun q3=>?_)
   ·have q3:((n:Int)+1) < 0:=of_decide_eq_true q3
    omega
   ·have q3:¬ (((n:Int)+1) < 0):=of_decide_eq_false q3
    first | refine Zk ?_ | skip
    show Zn _ _ _ _ _ _ _ _
    refine Zw (a:=1) (b:=1) rfl rfl ⟨by omega,by omega⟩<|Za rfl<|Zb ?_
    exact ⟨k - 1,2,by omega,⟨by omega,hk,co,cx,hs⟩,rfl,ivq (by simp only [lnF];omega),rfl,rfl,ivq (by omega),trivial⟩
 ·have q1:¬ ((i:Int) < 2):=of_decide_eq_false q1
  obtain rfl:i=2:=by omega
  first | (refine ZF ?_;show wC _ _ _ _ _ _ _ _ _) | skip
  refine Zc<|Za rfl ?_
  obtain ⟨bb,H1,fH1,kH1,hbb,hbn,hg⟩:=Zbf (kn:=kn) (lo:=lo) (H:=L1) (n:=n) (j:=(lnF n 2:Int)) (by simp only [lnF];omega) hn (by omega)
  refine Zj (vs:=[.slice none 0 0,iv (lnF n 2:Int)]) rfl (Zg fH1) ?_
  have mH1:=kH1.1
  have hk:=hk.trans kH1
  have co:=kH1.cl co (by simp)
  have cx:=kH1.cl cx (by simp)
  have hs:=kH1.sl0 hs
  refine Za rfl<|Zb<|Zc<|Za rfl<|Yx (m:=2) rfl<|Za rfl<|Zb ?_
  refine ZA (fn:=Try.f40) Zdv N40 Zdx (fun i:Nat=>[(6,.slice (some ⟨bb,0,none⟩) (lnF n i) (n+1)),(25,.slice (some ⟨ob,0,none⟩) 2 2),(26,iv 2),(27,iv (i:Int))])
   (fun k i H'=>i+k=2∧Zi H H' []∧Cl H' ob [.slice sa n cap,.slice (some ⟨x1,0,none⟩) 1 1]∧Cl H' x1 [iv x.d,iv x.wl,iv x.wh,iv x.cl,iv x.ch]∧Sl H' sa n cap (dcc ds)∧bb < H'.next∧H'.t.get bb=some (.cells (ccF n ds x i) 52 true)) 2 0 ⟨by omega,hk,co,cx,hs,hbn,hg⟩ ⟨rfl,rfl,rfl,rfl,trivial⟩ ?_
  rintro k i L2 ⟨hik,hk,co,cx,hs,hbn,hg⟩
  have mk:=hk.1
  refine Zc<|ZC (a:=(i:Int)) (b:=2) rfl rfl<|Zb ?_
  refine And.intro (fun q4=>?_) (fun q4=>?_)
  ·have q4:(i:Int) < 2:=of_decide_eq_true q4
   obtain rfl | rfl:i=0∨i=1:=by omega
   ·first | refine Zk ?_ | skip
    refine Zc<|Xt (b:=ob) (o:=0) (k:=0) (j:=0) rfl rfl rfl (by omega)<|Zy (b:=ob) (o:=0+0 * 1) (v:=.slice sa n cap) rfl co.rd rfl<|Za rfl<|Zb ?_
    show Zn _ _ _ _ _ _ _ _
    refine Za rfl<|Za rfl ?_
    obtain ⟨H2,kdH2,eH2,dH2,hg,kH2,nH2⟩:=Vy (lo:=lo) (m:=0) (N:=n+1) hg (by omega) (by omega) (qM _) hs (by rw [qA,hl]) qy (by omega) (by omega)
    refine Yz (k:=kdH2) rfl (by kernel_rfl) (eH2 _ _ _ _ _ _ _ rfl rfl) dH2 ?_
    have hk:=hk.new kH2 (fun b hb=>by simp at hb ⊢;omega)
    have co:=kH2.cl co (by simp;omega)
    have cx:=kH2.cl cx (by simp;omega)
    have hs:=kH2.sl hs (fun b e=>by have:=fs b e;simp;omega)
    refine Za rfl<|Zb ?_
    show Zn _ _ _ _ _ _ _ _
    refine Zw (a:=0) (b:=1) rfl rfl ⟨by omega,by omega⟩<|Za rfl<|Zb ?_
    exact ⟨k - 1,1,by omega,⟨by omega,hk,co,cx,hs,by omega,hg⟩,by show some (Value.slice _ (0+n) _)=_;rw [Nat.zero_add];rfl,rfl,rfl,ivq (by omega),trivial⟩
   ·first | refine Zk ?_ | skip
    refine Zc<|Xt (b:=ob) (o:=0) (k:=1) (j:=1) rfl rfl rfl (by omega)<|Zy (b:=ob) (o:=0+1 * 1) (v:=.slice (some ⟨x1,0,none⟩) 1 1) rfl co.rd rfl<|Za rfl<|Zb ?_
    show Zn _ _ _ _ _ _ _ _
    refine Za rfl<|Za rfl ?_
    obtain ⟨H3,kdH3,eH3,dH3,hg,kH3,nH3⟩:=Vy (lo:=lo) (m:=n) (N:=n+1) hg (by omega) (by omega) (qM _) (cx.sl (Nat.le_refl 1)) rfl rfl (by omega) (by omega)
    refine Yz (k:=kdH3) rfl (by kernel_rfl) (eH3 _ _ _ _ _ _ _ rfl rfl) dH3 ?_
    have hk:=hk.new kH3 (fun b hb=>by simp at hb ⊢;omega)
    have co:=kH3.cl co (by simp;omega)
    have cx:=kH3.cl cx (by simp;omega)
    have hs:=kH3.sl hs (fun b e=>by have:=fs b e;simp;omega)
    refine Za rfl<|Zb ?_
    show Zn _ _ _ _ _ _ _ _
    refine Zw (a:=1) (b:=1) rfl rfl ⟨by omega,by omega⟩<|Za rfl<|Zb ?_
    exact ⟨k - 1,2,by omega,⟨by omega,hk,co,cx,hs,by omega,hg⟩,rfl,rfl,rfl,ivq (by omega),trivial⟩
  ·have q4:¬ ((i:Int) < 2):=of_decide_eq_false q4
   obtain rfl:i=2:=by omega
   first | (refine ZF ?_;show wC _ _ _ _ _ _ _ _ _) | skip
   refine Zc<|Za rfl<|Za rfl<|Zb ?_
   exact And.intro trivial (Exists.intro _ (And.intro rfl ⟨bb,rfl,hk,⟨hbn,by unfold cellsOf;rw [hg,Zby hl]⟩,by omega⟩))
set_option maxRecDepth 100000 in
set_option maxHeartbeats 1000000 in
theorem Zaf {ds:List Dc} {sa:Option Addr} {n cap:Nat} (hs:Sl H sa n cap (dcc ds)) (hl:ds.length=n) (hn:n≤1000000) (hlo:lo≤H.next) (h35:kn.b 35=none) {days limit day:Int}:∃ H',FnX Try.prog kn lo 14 [.slice sa n cap,iv days,iv limit,iv day] H (.tuple #[iv (alT ds days limit day).1,iv (alT ds days limit day).2]) H'∧Zi H H' []:=by
 have key:=Zp (kn:=kn) (lo:=lo) (H:=H) (args:=[.slice sa n cap,iv days,iv limit,iv day]) (Q:=fun w H'=>w=(.tuple #[iv (alT ds days limit day).1,iv (alT ds days limit day).2])∧Zi H H' []) Try.func14 B14 N14 Z14 L14 (by simp) ?_
 ·obtain ⟨w,H',h,rfl,q⟩:=key;exact ⟨H',h,q⟩
 have hk:=Zi.refl H []
 have fs:=hs.old
 refine Zc<|Za rfl<|Za rfl<|Zb<|Zc<|Za rfl<|Zt rfl (Zcp hs hl hn (by omega)) ?_
 intro tH1 H1 hH1 kH1
 have mH1:=kH1.1
 have hk:=hk.trans kH1
 have hs:=kH1.sl0 hs
 cases tH1
 ·have hvd:vD ds=false:=hH1
  refine Zd (v:=.bool true) rfl rfl<|Zb<|ZT<|Zc<|Za rfl<|Za rfl<|Zb ?_
  exact And.intro trivial (Exists.intro _ (And.intro rfl ⟨UJ (Zex hvd),hk⟩))
 ·have hvd:vD ds=true:=hH1
  obtain ⟨hl64,hany⟩:=Zei hvd
  have hbd:=Qp hany
  refine Zd (v:=.bool false) rfl rfl<|Zb<|ZO ?_
  first | refine Zk ?_ | skip
  refine Zc<|Za rfl<|Zt rfl (KC) ?_
  intro tH2 H2 hH2 kH2
  have mH2:=kH2.1
  have hk:=hk.trans kH2
  have hs:=kH2.sl0 hs
  cases tH2
  ·have thH2:inB days 1 366=false:=hH2
   have uhH2:=Wj thH2
   refine Zd (v:=.bool true) rfl rfl<|Za rfl<|Zl rfl<|Zl rfl<|Zl rfl<|Zd (v:=.bool true) rfl rfl<|Za rfl<|Zl rfl<|Zl rfl<|Zl rfl<|Zd (v:=.bool true) rfl rfl<|Zb<|ZT<|Zc<|Za rfl<|Za rfl<|Zb ?_
   exact And.intro trivial (Exists.intro _ (And.intro rfl ⟨UJ (jZ hvd (by first | exact .inl (by assumption) | exact .inr (.inl (by assumption)) | exact .inr (.inr (by assumption)))),hk⟩))
  ·have thH2:inB days 1 366=true:=hH2
   have uhH2:=XG thH2
   refine Zd (v:=.bool false) rfl rfl<|Za rfl ?_
   refine Zo rfl (Za rfl ?_)
   refine Zo rfl (Zt rfl (XD) ?_)
   intro tH3 H3 hH3 kH3
   have mH3:=kH3.1
   have hk:=hk.trans kH3
   have hs:=kH3.sl0 hs
   cases tH3
   ·have thH3:inB limit 0 72057594037927936=false:=hH3
    have uhH3:=Wj thH3
    refine Zo rfl (Zd (v:=.bool true) rfl rfl ?_)
    refine Zd (v:=.bool true) rfl rfl<|Za rfl<|Zl rfl<|Zl rfl<|Zl rfl<|Zd (v:=.bool true) rfl rfl<|Zb<|ZT<|Zc<|Za rfl<|Za rfl<|Zb ?_
    exact And.intro trivial (Exists.intro _ (And.intro rfl ⟨UJ (jZ hvd (by first | exact .inl (by assumption) | exact .inr (.inl (by assumption)) | exact .inr (.inr (by assumption)))),hk⟩))
   ·have thH3:inB limit 0 72057594037927936=true:=hH3
    have uhH3:=XG thH3
    refine Zo rfl (Zd (v:=.bool false) rfl rfl ?_)
    refine Zd (v:=.bool false) rfl rfl<|Za rfl ?_
    refine Zo rfl (Za rfl ?_)
    refine Zo rfl (Zt rfl (XD) ?_)
    intro tH4 H4 hH4 kH4
    have mH4:=kH4.1
    have hk:=hk.trans kH4
    have hs:=kH4.sl0 hs
    cases tH4
    ·have thH4:inB day 0 16384=false:=hH4
     have uhH4:=Wj thH4
     refine Zo rfl (Zd (v:=.bool true) rfl rfl ?_)
     refine Zd (v:=.bool true) rfl rfl<|Zb<|ZT<|Zc<|Za rfl<|Za rfl<|Zb ?_
     exact And.intro trivial (Exists.intro _ (And.intro rfl ⟨UJ (jZ hvd (by first | exact .inl (by assumption) | exact .inr (.inl (by assumption)) | exact .inr (.inr (by assumption)))),hk⟩))
    ·have thH4:inB day 0 16384=true:=hH4
     have uhH4:=XG thH4
     refine Zo rfl (Zd (v:=.bool false) rfl rfl ?_)
     refine Zd (v:=.bool false) rfl rfl<|Zb<|ZO ?_
     first | refine Zk ?_ | skip
     refine Zc<|Za rfl<|Za rfl<|Zd (v:=.agg #[iv day,iv 0,iv 0,iv 0,iv 0]) rfl (by kernel_rfl) ?_
     obtain ⟨H5,hH5⟩:∃ H5,H4.new (.cells [iv day,iv 0,iv 0,iv 0,iv 0] 52 false)=H5:=⟨_,rfl⟩
     refine Yz (H':=H5) (k:=.heavy) rfl (by kernel_rfl) ((Xq (v:=.agg #[iv day,iv 0,iv 0,iv 0,iv 0]) j7 Zc4 rfl rfl rfl (by decide)).trans (by rw [← hH5];rfl)) (fun b e=>by cases e) ?_
     obtain ⟨kH5,nH5,c5⟩:=Z7 hH5;clear hH5
     have c5:Cl H5 H4.next [iv day,iv 0,iv 0,iv 0,iv 0]:=c5
     have mH5:=kH5.1
     have hk:=hk.trans kH5
     have hs:=kH5.sl0 hs
     obtain ⟨H6,hH6⟩:∃ H6,H5.new (.cells [.slice sa n cap,.slice (some ⟨H4.next,0,none⟩) 1 1] 22 false)=H6:=⟨_,rfl⟩
     refine Yz (H':=H6) (k:=.heavy) rfl (by kernel_rfl) ((Za6 (a:=sa) (m:=n) (c:=cap) (a2:=some ⟨H4.next,0,none⟩) (m2:=1) (c2:=1) rfl rfl).trans (by rw [← hH6])) (fun b e=>by cases e) ?_
     obtain ⟨kH6,nH6,c6⟩:=Z7 hH6;clear hH6
     have c6:Cl H6 H5.next [.slice sa n cap,.slice (some ⟨H4.next,0,none⟩) 1 1]:=c6
     have mH6:=kH6.1
     have hk:=hk.trans kH6
     have hs:=kH6.sl0 hs
     have c5:=kH6.cl c5 (by simp)
     obtain ⟨nb,H7,fH7,kH7,hnb,hnl⟩:=ja (kn:=kn) (lo:=lo) (H:=H6) (x:=⟨day,0,0,0,0⟩) c6 c5 hs hl (by omega) (by omega)
     refine Zj (vs:=[.slice (some ⟨H5.next,0,none⟩) 2 2]) rfl (Zg fH7) ?_
     have mH7:=kH7.1
     have hk:=hk.trans kH7
     have hs:=kH7.sl0 hs
     have c5:=kH7.cl c5 (by simp)
     have c6:=kH7.cl c6 (by simp)
     have hs2:Sl H7 (some ⟨nb,0,none⟩) (n+1) (n+1) (dcc (ds ++ [⟨day,0,0,0,0⟩])):=.inr ⟨nb,rfl,hnb,Nat.le_refl _⟩
     have hbd2:∀ d,d∈ds ++ [(⟨day,0,0,0,0⟩:Dc)]→Y8 d=false:=fun d hd=>by rcases List.mem_append.1 hd with q | q;exact hbd d q;rw [List.mem_singleton] at q;subst q;simp [Y8,inB,spB];omega
     have fs2:∀ b,some (⟨nb,0,none⟩:Addr)=some ⟨b,0,none⟩→b < H7.next:=hs2.old
     refine Za rfl<|Zb<|Zc ?_
     obtain ⟨H8,fH8,kH8⟩:=Qv (kn:=kn) (lo:=lo) (H:=H7)
     refine Zj (vs:=[]) rfl (YV h35 fH8) ?_
     have mH8:=kH8.1
     have hk:=hk.trans kH8
     have hs:=kH8.sl0 hs
     have c5:=kH8.cl c5 (by simp)
     have c6:=kH8.cl c6 (by simp)
     have hs2:=kH8.sl0 hs2
     refine Za rfl<|Zd (v:=.func (.func 57) #[] #[]) rfl (by kernel_rfl)<|Zd (v:=.func (.func 58) #[] #[]) rfl (by kernel_rfl)<|Za rfl<|Za rfl<|Zb<|Zc<|Za rfl<|Za rfl ?_
     obtain ⟨aH9,cH9,qsH9,H9,fH9,kH9,hsH9,hpH9,hoH9,hbH9⟩:=Ws (kn:=kn) (lo:=lo) (H:=H8) hs2 (by rw [List.length_append,hl];rfl) (by omega) hbd2 (by omega) Zad
     refine Zj (vs:=[.slice (some ⟨nb,0,none⟩) (n+1) (n+1),.func (.func 58) #[] #[]]) rfl (Zg fH9) ?_
     have mH9:=kH9.1
     have hk:=hk.trans kH9
     have hs:=kH9.sl0 hs
     have c5:=kH9.cl c5 (by simp)
     have c6:=kH9.cl c6 (by simp)
     have hs2:=kH9.sl0 hs2
     have fsH9:=hsH9.old;have hnH9:qsH9.length=n+1:=by rw [hpH9.length_eq,X4,List.length_append,hl];rfl
     have hvH9:Vl qsH9:=(y7 yo hbd2).sub fun p hp=>hpH9.subset hp
     have hyH9:Dy qsH9:=(QH hbd2 (g:=gHi)).sub fun p hp=>hpH9.subset hp
     have hpp:prt gHi (ds ++ [(⟨day,0,0,0,0⟩:Dc)])=prt gHi ds ++ [⟨day,0⟩]:=by unfold prt;rw [List.map_append];rfl
     refine Za rfl<|Za rfl ?_
     obtain ⟨rH10,H10,fH10,kH10,hFH10⟩:=Ql (kn:=kn) (lo:=lo) (H:=H9) hsH9 hnH9 (by omega) hvH9 hyH9 (days:=days) (by omega) (by omega) (day:=day) (by omega)
     refine Zj (vs:=[.slice aH9 (n+1) cH9,iv days,iv day]) rfl (Zg fH10) ?_
     have mH10:=kH10.1
     have hk:=hk.trans kH10
     have hs:=kH10.sl0 hs
     have c5:=kH10.cl c5 (by simp)
     have c6:=kH10.cl c6 (by simp)
     have hs2:=kH10.sl0 hs2
     have hsH9:=kH10.sl0 hsH9
     rw [hpp] at hpH9;rw [← hnH9,Zcz (l:=prt gHi ds) (n:=days.toNat) hpH9 hoH9 (by omega) (by omega) (fun p hp=>(hvH9 p hp).1)] at hFH10;subst hFH10;have hgx:=Zcw (days:=days) (day:=day) (k:=days.toNat) hbd (by omega)
     refine Za rfl<|Zb<|Zc<|Za rfl<|Za rfl<|Y2 (a:=(gmx (prt gHi ds) days day days.toNat)) (b:=limit) rfl rfl<|Zb ?_
     refine And.intro (fun q1=>?_) (fun q1=>?_)
     ·have q1:(gmx (prt gHi ds) days day days.toNat) > limit:=of_decide_eq_true q1
      refine Zc<|Za rfl<|Za rfl<|Zb ?_
      exact And.intro trivial (Exists.intro _ (And.intro rfl ⟨UJ (Zc2 hvd (by assumption) (by assumption) (by assumption) (by omega)),hk⟩))
     ·have q1:¬ ((gmx (prt gHi ds) days day days.toNat) > limit):=of_decide_eq_false q1
      first | refine Zk ?_ | skip
      refine Zc<|Za rfl<|Za rfl<|Yl (a:=limit) (b:=(gmx (prt gHi ds) days day days.toNat)) rfl rfl ⟨by omega,by omega⟩<|Za rfl<|Za rfl<|Zb ?_
      exact And.intro trivial (Exists.intro _ (And.intro rfl ⟨UJ (Zdi hvd (by assumption) (by assumption) (by assumption) (by omega)),hk⟩))
end
end
end Go.Ax

/-! The array of the days that are closed. -/
namespace Go.Ax
open Go Go.RowKit Go.Proofs
def isF:Value→Bool | .bool false=>true | _=>false
theorem zN:yd.length=16385:=by kernel_rfl
theorem ZaE:yd.all isF=true:=by kernel_rfl
theorem Zar {i:Nat} (h:i < 16385):yd[i]? = some (.bool false):=by
 have hi:i < yd.length:=by rw [zN];exact h
 rw [List.getElem?_eq_getElem hi]
 have:=List.all_eq_true.1 ZaE _ (List.getElem_mem hi)
 revert this
 cases yd[i] with
 | bool b=>cases b<;>simp [isF]
 | _=>simp [isF]
def cB (n:Nat) (g:Nat→Bool):List Value:=(List.range n).map fun k=>.bool (g k)
theorem ZaK {n:Nat} {g:Nat→Bool}:(cB n g).length=n:=by simp [cB]
theorem Zcj {n k:Nat} {g:Nat→Bool} (h:k < n):(cB n g)[0+k * 1]? = some (.bool (g k)):=by
 rw [Nat.mul_one,Nat.zero_add];simp [cB,h]
def yE (g:Nat→Bool) (k:Nat):Nat→Bool:=fun j=>if j=k then true else g j
theorem ZcS {n k:Nat} {g:Nat→Bool} (h:k < n):(cB n g).set (0+k * 1) (.bool true)=cB n (yE g k):=by
 rw [Nat.mul_one,Nat.zero_add]
 refine List.ext_getElem? fun i=>?_
 rw [List.getElem?_set]
 unfold cB yE
 by_cases e:k=i
 ·subst e;simp [h]
 ·have e2:¬ i=k:=fun q=>e q.symm
  simp only [e,if_false,List.getElem?_map]
  rcases Nat.lt_or_ge i n with q | q
  ·simp [List.getElem?_range,q,e2]
  ·simp [List.getElem?_eq_none,q]
theorem ZbH:yd=cB 16385 fun _=>false:=by
 refine List.ext_getElem? fun i=>?_
 rcases Nat.lt_or_ge i 16385 with q | q
 ·rw [Zar q]
  have:=Zcj (n:=16385) (g:=fun _=>false) q
  rw [Nat.mul_one,Nat.zero_add] at this
  exact this.symm
 ·rw [List.getElem?_eq_none (by rw [zN];exact q),List.getElem?_eq_none (by rw [ZaK];exact q)]
end Go.Ax

/-
 Pool: days that are open (written by program).
-/
namespace Go.Ax
open Go Go.RowKit Go.Proofs

noncomputable section
def cI (l:List Int):List Value:=l.map iv
theorem yT {l:List Int}:(cI l).length=l.length:=by simp [cI]
theorem ZaG {a b:List Int}:cI (a ++ b)=cI a ++ cI b:=by simp [cI]
theorem zT {l:List Int} {i:Nat} (h:i < l.length):(cI l)[0+i * 1]? = some (iv (l.getD i 0)):=by
 rw [Nat.mul_one,Nat.zero_add];simp [cI,h]
def nsB (reach D:Int) (n:Ns):Bool:=decide (n.r=reach) && inB D n.a n.b
def frB (ns:List Ns) (reach D:Int):Bool:=!ns.any (nsB reach D)
def cls (ns:List Ns) (reach:Int) (i:Nat):Nat→Bool:=fun k=>(ns.take i).any (nsB reach k)
def z0 (ns:List Ns) (reach:Int) (i:Nat) (d:Int):Nat→Bool:=fun k=>cls ns reach i k || (decide ((ns.getD i Ns.z).r=reach) && decide ((ns.getD i Ns.z).a≤k) && decide ((k:Int) < d))
theorem jS {ns:List Ns} {reach:Int}:cls ns reach 0=fun _=>false:=by funext k;simp [cls]
theorem Zdk {ns:List Ns} {reach:Int} {i:Nat} (h:i < ns.length):cls ns reach (i+1)=fun k=>cls ns reach i k || nsB reach k (ns.getD i Ns.z):=by
 funext k
 unfold cls
 rw [X6 (z:=Ns.z) h,List.any_append,List.any_cons,List.any_nil,Bool.or_false]
theorem yF {ns:List Ns} {reach:Int} {i:Nat}:z0 ns reach i (ns.getD i Ns.z).a=cls ns reach i:=by
 funext k
 unfold z0
 have:(decide ((ns.getD i Ns.z).a≤(k:Int)) && decide ((k:Int) < (ns.getD i Ns.z).a))=false:=by
  rw [Bool.and_eq_false_iff,decide_eq_false_iff_not,decide_eq_false_iff_not];omega
 rw [Bool.and_assoc,this,Bool.and_false,Bool.or_false]
theorem jd {ns:List Ns} {reach d:Int} {i:Nat} (hr:(ns.getD i Ns.z).r=reach) (ha:(ns.getD i Ns.z).a≤d) (h0:0≤d):z0 ns reach i (d+1)=yE (z0 ns reach i d) d.toNat:=by
 funext k
 unfold yE z0
 by_cases e:k=d.toNat
 ·rw [if_pos e,decide_eq_true hr,decide_eq_true (show (ns.getD i Ns.z).a≤(k:Int) by omega),decide_eq_true (show (k:Int) < d+1 by omega)];simp
 ·rw [if_neg e]
  have:decide ((k:Int) < d+1)=decide ((k:Int) < d):=by
   by_cases q:(k:Int) < d
   ·rw [decide_eq_true q,decide_eq_true (show (k:Int) < d+1 by omega)]
   ·rw [decide_eq_false q,decide_eq_false (show ¬ (k:Int) < d+1 by omega)]
  rw [this]
theorem JU {ns:List Ns} {reach d:Int} {i:Nat} (h:i < ns.length) (hd:(ns.getD i Ns.z).r=reach→d=(ns.getD i Ns.z).b+1):z0 ns reach i d=cls ns reach (i+1):=by
 rw [Zdk h]
 funext k
 unfold z0 nsB inB
 by_cases hr:(ns.getD i Ns.z).r=reach
 ·have:decide ((k:Int) < d)=decide ((k:Int)≤(ns.getD i Ns.z).b):=by
   rw [hd hr]
   by_cases q:(k:Int)≤(ns.getD i Ns.z).b
   ·rw [decide_eq_true q,decide_eq_true (show (k:Int) < (ns.getD i Ns.z).b+1 by omega)]
   ·rw [decide_eq_false q,decide_eq_false (show ¬ (k:Int) < (ns.getD i Ns.z).b+1 by omega)]
  rw [this,Bool.and_assoc]
 ·rw [decide_eq_false hr];simp
theorem zE {ns:List Ns} {reach D:Int} (h:0≤D):(!cls ns reach ns.length D.toNat)=frB ns reach D:=by
 unfold cls frB
 rw [List.take_length,show ((D.toNat:Nat):Int)=D by omega]
theorem Acc.lowf {lo f f':Nat} {e:TypeId} {H:Hp} {v:Value} {n:Nat} {cs:List Value} (h:Acc lo f e H v n cs) (hf:f'≤f):Acc lo f' e H v n cs:=
 h.imp id fun ⟨b,e1,h0,h2,r⟩=>⟨b,e1,h0,Nat.le_trans hf h2,r⟩
def opl (ns:List Ns) (reach frm:Int):Nat→List Int
 | 0=>[]
 | k+1=>if frB ns reach (frm+k) then opl ns reach frm k ++ [frm+k] else opl ns reach frm k
theorem K4 {ns:List Ns} {reach frm:Int}:∀ {k:Nat},(opl ns reach frm k).length≤k
 | 0=>Nat.le_refl 0
 | k+1=>by
  have:=K4 (ns:=ns) (reach:=reach) (frm:=frm) (k:=k)
  unfold opl
  split
  ·rw [List.length_append,List.length_singleton];omega
  ·omega
section
variable {P:Program} {lo:Nat}
theorem Qo {H:Hp} {t0 t1 e ep:TypeId} {size k cap2 f:Nat} {a:Option Addr} {v:Value} {cs news:List Value} (he:ZW P t0=some (e,size)) (ht:P.underlying t1=some (.slice ep))
  (hs:Sl H a 1 cap2 news) (hl:news.length=1 * size) (hz:0 < size) (hone:news.all one=true) (hcl:cs.length=k * size) (hk:k < 1000000) (ha:Acc lo f e H v k cs) (hlo:lo≤H.next) (hf:f≤H.next) :
  ∃ H1 kd,(∀ (n:Nat) (S:Rg) (d:Option Tmp) (x y:Operand) (ty:TypeId) (p:String),evS S x=some v→evS S y=some (.slice a 1 cap2)→Zr P lo (frS n S) H ⟨d,.call ⟨.builtin .append,#[x,y],#[t0,t1]⟩,ty,p,#[],none⟩=some (.val (.slice (some ⟨H.next,0,none⟩) (k+1) (k+1)) H1,kd))∧(kd=.heavy∨∃ b,kd=.store b∧f≤b)∧
   Acc lo f e H1 (.slice (some ⟨H.next,0,none⟩) (k+1) (k+1)) (k+1) (cs ++ news)∧XV f H H1:=by
 rcases ha with ⟨rfl,rfl,rfl⟩ | ⟨b,rfl,h0,hb,hlb,hn,hg⟩
 ·refine ⟨H.new (.cells news e true),.heavy,?_,.inl rfl,?_,?_⟩
  ·intro n S d x y ty p hx hy
   unfold Zr
   simp only [evs,Yd,hx,hy,Z2,List.getElem?_toArray,List.getElem?_cons_zero,List.getElem?_cons_succ,he,ht,WO hs hl,ZN]
   rfl
  ·refine .inr ⟨H.next,rfl,by omega,hf,hlo,Nat.lt_succ_self _,?_⟩
   show (H.t.set H.next _).get H.next=_
   rw [Tr.get_set,if_pos rfl];rfl
  ·exact XV.of (Z7 rfl).1 hf
 ·have h1:Nat.ble (0+(k+1) * size) cs.length=false:=by
   cases h:Nat.ble (0+(k+1) * size) cs.length with
   | false=>rfl
   | true=>have:=Nat.le_of_ble_eq_true h;rw [hcl,Nat.succ_mul] at this;omega
  have h2:Nat.beq (0+k * size) cs.length=true:=by rw [hcl,Nat.zero_add];exact Nat.beq_refl _
  have h3:Nat.ble (k+1) 1048576=true:=Nat.ble_eq_true_of_le (by omega)
  have h4:Nat.beq e e=true:=Nat.beq_refl e
  refine ⟨({ H with t:=H.t.set b .dead }:Hp).new (.cells (cs ++ news) e true),.store b,?_,.inr ⟨b,rfl,hb⟩,?_,?_⟩
  ·intro n S d x y ty p hx hy
   unfold Zr
   simp only [evs,Yd,hx,hy,Z2,List.getElem?_toArray,List.getElem?_cons_zero,List.getElem?_cons_succ,he,ht,WO hs hl,ZN,hg,h1,h2,h3,h4,hone,Nat.ble_eq_true_of_le hlb,Bool.and_self,cond_true,cond_false,List.drop_zero,show Nat.beq 1 0=false from rfl]
  ·refine .inr ⟨H.next,rfl,by omega,hf,hlo,Nat.lt_succ_self _,?_⟩
   show ((H.t.set b .dead).set H.next _).get H.next=_
   rw [Tr.get_set,if_pos rfl]
  ·refine ⟨Nat.le_succ _,fun c hc=>?_,fun c xs hc hx=>?_⟩
   ·show ((H.t.set b .dead).set H.next _).get c=_
    rw [Tr.get_set,if_neg (by omega),Tr.get_set,if_neg (by omega)]
   ·have hx:((H.t.set b .dead).set H.next (.cells (cs ++ news) e true)).get c=some (.ro xs):=hx
    have hc:c < H.next+1:=hc
    rw [Tr.get_set] at hx
    split at hx
    ·cases hx
    ·rw [Tr.get_set] at hx
     split at hx
     ·cases hx
     ·exact ⟨by omega,hx⟩
end
section
variable {kn:Kn} {lo:Nat} {H:Hp}
theorem jl {na:Option Addr} {nn ncap:Nat} {reach:Int} (hlo:lo≤H.next):∃ H',FnX Try.prog kn lo 73 [.slice na nn ncap,iv reach] H (.func (.func 81) #[] #[pt H.next,pt (H.next+1)]) H'∧Rd H' H.next [.slice na nn ncap]∧Rd H' (H.next+1) [iv reach]∧H'.next=H.next+2∧Zi H H' []:=by
 have key:=Zp (kn:=kn) (lo:=lo) (H:=H) (args:=[.slice na nn ncap,iv reach]) (Q:=fun w H'=>w=(.func (.func 81) #[] #[pt H.next,pt (H.next+1)])∧Rd H' H.next [.slice na nn ncap]∧Rd H' (H.next+1) [iv reach]∧H'.next=H.next+2∧Zi H H' []) Try.func73 B73 N73 Z73 L73 (by simp) ?_
 ·obtain ⟨w,H',h,rfl,q⟩:=key;exact ⟨H',h,q⟩
 refine Zc (ZS (v:=.slice na nn ncap) rfl fun H1 k1 n1 c1=>ZS (v:=iv reach) rfl fun H2 k2 n2 c2=>Za rfl (Zb ?_))
 rw [n1] at c2
 refine Zc (Zd (v:=.func (.func 81) #[] #[pt H.next,pt H1.next]) rfl (by kernel_rfl) (Za rfl (Zb ?_)))
 exact ⟨True.intro,[.func (.func 81) #[] #[pt H.next,pt H1.next]],rfl,by rw [n1];rfl,(k2.cl c1 (by simp)).rd,c2.rd,by omega,k1.trans k2⟩
set_option maxRecDepth 100000 in
theorem jF {J:(Nat→Bool)→Hp→Prop} {base:Nat} {Wy:List Nat} {l bL bG nn ncap:Nat} {na:Option Addr} {ns:List Ns} {reach:Int} (hm:ns.length=nn) (hm2:nn≤1000000) (hbd:ns.any XP=false) (hlb:lo≤base) (hW:∀ x∈Wy,x < base) (jm:∀ g H1 H2 W,J g H1→Zi H1 H2 W→(∀ x∈W,base≤x)→J g H2)
  (je:∀ g H1,J g H1→Rd H1 bL [.slice na nn ncap]∧Rd H1 bG [iv reach]∧Sl H1 na nn ncap (nsc ns)∧bL < base∧bG < base∧∀ b,na=some ⟨b,0,none⟩→b < base)
  (step:∀ g d H1,0≤d→d≤16384→J g H1→base≤H1.next→∃ H2,Xb Try.prog kn lo (.fn (.yield l) #[]) [iv d] H1 (.bool true) H2∧J (yE g d.toNat) H2∧Zi H1 H2 Wy)
  (hbn:base≤H.next) (hJ:J (fun _=>false) H) :
  ∃ H',FnX Try.prog kn lo 81 [.func (.yield l) #[] #[],pt bL,pt bG] H Zej H'∧J (cls ns reach ns.length) H':=by
 have key:=Zp (kn:=kn) (lo:=lo) (H:=H) (args:=[.func (.yield l) #[] #[],pt bL,pt bG]) (Q:=fun w H'=>w=Zej∧J (cls ns reach ns.length) H') Try.func81 B81 N81 Z81 L81 (by simp) ?_
 ·obtain ⟨w,H',h,rfl,q⟩:=key;exact ⟨H',h,q⟩
 obtain ⟨rL,rG,hs,lL,lG,fb⟩:=je _ _ hJ
 have fs:=hs.old
 refine Zc<|Zy (b:=bL) (o:=0) (v:=.slice na nn ncap) rfl rL rfl<|Yx (m:=nn) rfl<|Za rfl<|Zb ?_
 refine ZA (fn:=Try.f81) Zeh N81 ZdA (fun i:Nat=>[(0,.func (.yield l) #[] #[]),(1,pt bL),(2,pt bG),(7,.slice na nn ncap),(8,iv (nn:Int)),(9,iv (i:Int))])
  (fun k i H'=>i+k=nn∧J (cls ns reach i) H'∧base≤H'.next) nn 0 ⟨by omega,by rw [jS];exact hJ,hbn⟩ ⟨rfl,rfl,rfl,rfl,rfl,rfl,trivial⟩ ?_
 rintro k i L1 ⟨hik,hJ,hbn⟩
 obtain ⟨rL,rG,hs,lL,lG,fb⟩:=je _ _ hJ;have fs:=hs.old
 refine Zc<|ZC (a:=(i:Int)) (b:=(nn:Int)) rfl rfl<|Zb ?_
 refine And.intro (fun q1=>?_) (fun q1=>?_)
 ·have q1:(i:Int) < (nn:Int):=of_decide_eq_true q1
  have hi:i < nn:=by omega
  rcases id hs with ⟨_,h0s,_⟩ | ⟨sb,es,rs,_⟩
  ·omega
  have ls:=rs.1
  have lsb2:=fs sb es;have lsb3:=fb sb es;have hbi:=ZcN (Qp hbd _ (Xg (z:=Ns.z) (l:=ns) (i:=i) (by omega)))
  first | refine Zk ?_ | skip
  refine Zc<|Xt (b:=sb) (o:=0) (k:=i) (j:=(i:Int)) (by rw [← es];rfl) rfl rfl hi<|Zx (b:=sb) (o:=0+i * 3) rfl rs (zq (by omega))<|ZY ?_
  intro H1 kH1 nH1 c1
  have c1:Cl H1 L1.next [iv 0,iv 0,iv 0]:=c1
  have mH1:=kH1.1
  have hJ:=jm _ _ _ _ hJ kH1 (fun x hx=>by first | (simp at hx;done) | (simp at hx;omega))
  have rL:=kH1.rd rL (by simp)
  have rG:=kH1.rd rG (by simp)
  have hs:=kH1.sl0 hs
  have rs:=kH1.rd rs (by simp)
  refine ZH (b:=L1.next) (o:=0) rfl rfl c1 (by omega) rfl rfl (by simp) ?_
  intro H2 kH2 nH2 sH2
  have mH2:=kH2.1
  have hJ:=jm _ _ _ _ hJ kH2 (fun x hx=>by first | (simp at hx;done) | (simp at hx;omega))
  have rL:=kH2.rd rL (by first | (simp;done) | (simp;omega))
  have rG:=kH2.rd rG (by first | (simp;done) | (simp;omega))
  have hs:=kH2.sl hs (fun b e=>by have:=fs b e;first | (simp;done) | (simp;omega))
  have rs:=kH2.rd rs (by first | (simp;done) | (simp;omega))
  have c1:Cl H2 L1.next [iv ((ns.getD i Ns.z).r),iv ((ns.getD i Ns.z).a),iv ((ns.getD i Ns.z).b)]:=sH2
  refine Zb<|Zc<|Zh (b:=L1.next) (o:=0) rfl<|Zy (b:=L1.next) (o:=1) (v:=iv ((ns.getD i Ns.z).a)) rfl c1.rd rfl<|Za rfl<|Zb ?_
  rw [← yF] at hJ
  refine ZA (fn:=Try.f81) Zes N81 Zdg (fun d:Int=>[(0,.func (.yield l) #[] #[]),(1,pt bL),(2,pt bG),(5,pt L1.next),(6,iv d),(7,.slice na nn ncap),(8,iv (nn:Int)),(9,iv (i:Int))])
   (fun k d H'=>(ns.getD i Ns.z).a≤d∧d≤(ns.getD i Ns.z).b+1∧k=((ns.getD i Ns.z).b+1 - d).toNat∧J (z0 ns reach i d) H'∧L1.next < H'.next∧base≤L1.next∧Cl H' L1.next [iv (ns.getD i Ns.z).r,iv (ns.getD i Ns.z).a,iv (ns.getD i Ns.z).b]) _ (ns.getD i Ns.z).a ⟨by omega,by omega,rfl,hJ,by omega,by omega,c1⟩ ⟨rfl,rfl,rfl,rfl,rfl,rfl,rfl,rfl,trivial⟩ ?_
  rintro k2 d L2 ⟨hd1,hd2,rfl,hJ,hnx,hb5,c5⟩
  obtain ⟨rL,rG,hs,lL,lG,fb⟩:=je _ _ hJ;have fs:=hs.old
  refine Zc<|Zh (b:=L1.next) (o:=0) rfl<|Zy (b:=L1.next) (o:=0) (v:=iv ((ns.getD i Ns.z).r)) rfl c5.rd rfl<|Zy (b:=bG) (o:=0) (v:=iv reach) rfl rG rfl<|Ju (a:=(ns.getD i Ns.z).r) (b:=reach) rfl rfl ?_
  intro t2 g2;cases t2
  ·have g2:¬ (((ns.getD i Ns.z).r)=reach):=by simpa using g2
   refine Za rfl<|Zl rfl<|Zl rfl<|Zl rfl<|Zl rfl<|Zd (v:=.bool false) rfl rfl<|Zb<|ZO ?_
   rw [JU (by omega) (fun q=>by omega)] at hJ
   first | (refine ZF ?_;show wC _ _ _ _ _ _ _ _ _) | skip
   show Zn _ _ _ _ _ _ _ _
   refine Zw (a:=(i:Int)) (b:=1) rfl rfl ⟨by omega,by omega⟩<|Za rfl<|Zb ?_
   exact ⟨k - 1,i+1,by omega,⟨by omega,hJ,by omega⟩,rfl,rfl,rfl,rfl,rfl,ivq (by omega),trivial⟩
  ·have g2:((ns.getD i Ns.z).r)=reach:=by simpa using g2
   refine Za rfl ?_
   refine Zo rfl (Za rfl ?_)
   refine Zo rfl (Zh (b:=L1.next) (o:=0) rfl ?_)
   refine Zo rfl (Zy (b:=L1.next) (o:=2) (v:=iv ((ns.getD i Ns.z).b)) rfl c5.rd rfl ?_)
   refine Zo rfl (XW (a:=d) (b:=(ns.getD i Ns.z).b) rfl rfl ?_)
   intro t3 g3;cases t3
   ·have g3:¬ (d≤((ns.getD i Ns.z).b)):=of_decide_eq_false g3
    refine Zd (v:=.bool false) rfl rfl<|Zb<|ZO ?_
    rw [JU (by omega) (fun q=>by omega)] at hJ
    first | (refine ZF ?_;show wC _ _ _ _ _ _ _ _ _) | skip
    show Zn _ _ _ _ _ _ _ _
    refine Zw (a:=(i:Int)) (b:=1) rfl rfl ⟨by omega,by omega⟩<|Za rfl<|Zb ?_
    exact ⟨k - 1,i+1,by omega,⟨by omega,hJ,by omega⟩,rfl,rfl,rfl,rfl,rfl,ivq (by omega),trivial⟩
   ·have g3:d≤((ns.getD i Ns.z).b):=of_decide_eq_true g3
    refine Zd (v:=.bool true) rfl rfl<|Zb<|ZT ?_
    first | refine Zk ?_ | skip
    refine Zc<|Za rfl<|Za rfl ?_
    obtain ⟨H3,fH3,hJ,kH3⟩:=step _ d L2 (by omega) (by omega) hJ (by omega)
    refine Zj (vs:=[iv d]) rfl fH3 ?_
    have mH3:=kH3.1;have c5:=kH3.cl c5 (fun hx=>by have:=hW _ hx;omega)
    refine Zd (v:=.bool false) rfl rfl<|Zb<|ZO ?_
    first | refine Zk ?_ | skip
    show Zn _ _ _ _ _ _ _ _
    refine Za rfl<|Zw (a:=d) (b:=1) rfl rfl ⟨by omega,by omega⟩<|Za rfl<|Zb ?_
    exact ⟨_,d+1,by omega,⟨by omega,by omega,rfl,by rw [jd (by omega) (by omega) (by omega)];exact hJ,by omega,by omega,c5⟩,rfl,rfl,rfl,rfl,ivq (by omega),rfl,rfl,rfl,trivial⟩
 ·have q1:¬ ((i:Int) < (nn:Int)):=of_decide_eq_false q1
  first | (refine ZF ?_;show wC _ _ _ _ _ _ _ _ _) | skip
  have e:i=ns.length:=by omega
  exact And.intro trivial (Exists.intro _ (And.intro rfl ⟨rfl,by rw [← e];exact hJ⟩))
abbrev y0:Code:=at_ Try.f52 [1,1,0,1,0,0]
abbrev K5:Code:=at_ Try.f52 [1,1,0,1,0,1]
abbrev S52 (h:Nat):Rg:=[(9,pt h)]
structure J52 (ns:List Ns) (reach:Int) (na:Option Addr) (nn ncap:Nat) (H0:Hp) (g:Nat→Bool) (H':Hp):Prop where
 acc:Cl H' H0.next (cB 16385 g)
 rL:Rd H' (H0.next+1) [.slice na nn ncap]
 rG:Rd H' (H0.next+2) [iv reach]
 lp:Lp Try.prog H' (H0.next+4) .ready none 34 (S52 H0.next) [16] y0 K5 (H0.next+3)
 dfr:H'.t.get (H0.next+3)=some (.dfr (some []))
 ll:H0.next+5≤H'.next
 kp:Zi H0 H' []
section
variable {ns:List Ns} {reach:Int} {na:Option Addr} {nn ncap:Nat} {H0:Hp}
theorem J52.keep {g:Nat→Bool} {H1 H2:Hp} (j:J52 ns reach na nn ncap H0 g H1) {W:List Nat} (kk:Zi H1 H2 W) (hW:∀ b∈W,H0.next+5≤b):J52 ns reach na nn ncap H0 g H2:=by
 have nw:∀ x,x < H0.next+5→x ∉ W:=fun x hx q=>by have:=hW x q;omega
 have ll:=j.ll
 exact ⟨kk.cl j.acc (nw _ (by omega)),kk.rd j.rL (nw _ (by omega)),kk.rd j.rG (nw _ (by omega)),j.lp.keep kk (by omega) (nw _ (by omega)),by rw [kk.2 _ (by omega) (nw _ (by omega))];exact j.dfr,Nat.le_trans j.ll kk.1,j.kp.new kk (fun b q=>.inr (by have:=hW b q;omega))⟩
set_option maxRecDepth 100000 in
theorem Zbj (hlo:lo≤H0.next) {g:Nat→Bool} {d:Int} (hd0:0≤d) (hd1:d≤16384) (j:J52 ns reach na nn ncap H0 g H) (hnx:H0.next+5≤H.next) :
  ∃ H',Xb Try.prog kn lo (.fn (.yield (H0.next+4)) #[]) [iv d] H (.bool true) H'∧J52 ns reach na nn ncap H0 (yE g d.toNat) H'∧Zi H H' [H0.next,H0.next+4]:=by
 have L1:low Try.prog 34 y0=some R52x1:=N52 ▸ ZdI
 have L2:low Try.prog 34 K5=some R52x2:=N52 ▸ Zeb
 have key:=ZaH (kn:=kn) (P:=Try.prog) (lo:=lo) (S1:=(16,iv d) :: S52 H0.next) (args:=[iv d]) (Q:=fun t H'=>t=true∧J52 ns reach na nn ncap H0 (yE g d.toNat) H'∧Zi H H' [H0.next,H0.next+4]) j.lp (by omega) (by rfl) rfl (YD true _ L1 ?_)
 ·obtain ⟨t,H',h,rfl,q⟩:=key;exact ⟨H',h,q⟩
 have ll:=j.ll
 refine KP<|Za rfl<|Zb ?_
 refine And.intro trivial (And.intro j.lp ?_)
 intro H3 s3
 have k3:=s3.keep
 have hn3:H3.next=H.next:=s3.1
 have lp3:=s3.lp j.lp
 have nl:∀ x,x≠H0.next+4→x ∉ [H0.next+4]:=fun x hx=>by simpa using hx
 have ca:=k3.cl j.acc (nl _ (by omega))
 refine YD true _ L2 ?_
 refine ZcP<|Za rfl<|qc (b:=H0.next) (o:=0) (k:=d.toNat) (j:=d) rfl rfl (by omega) (by omega)<|WK (b:=H0.next) (o:=0+d.toNat * 1) rfl rfl ca (by omega) rfl rfl (by rw [ZaK];omega) ?_
 intro H4 k4 n4 c4
 rw [ZcS (by omega)] at c4
 have m4:=k4.1
 refine Zb ?_
 have lp4:=lp3.keep k4 (by omega) (by simp)
 refine ⟨lp4,fun H5 s5=>?_⟩
 have k5:=s5.keep
 have hn5:H5.next=H4.next:=s5.1
 have k05:Zi H H5 [H0.next,H0.next+4]:=((k3.mono (by simp)).trans (k4.mono (by simp))).trans (k5.mono (by simp))
 have n3:∀ x,x≠H0.next→x≠H0.next+4→x ∉ [H0.next,H0.next+4]:=fun x h1 h2=>by simp;omega
 exact ⟨rfl,⟨k5.cl c4 (nl _ (by omega)),k05.rd j.rL (n3 _ (by omega) (by omega)),k05.rd j.rG (n3 _ (by omega) (by omega)),s5.lp lp4,by rw [k05.2 _ (by omega) (n3 _ (by omega) (by omega))];exact j.dfr,by omega,j.kp.new k05 (fun b q=>.inr (by simp at q;omega))⟩,k05⟩
end
set_option maxRecDepth 100000 in
set_option maxHeartbeats 2000000 in
theorem zw {ns:List Ns} {reach frm to_:Int} {na:Option Addr} {nn ncap:Nat} (hs:Sl H na nn ncap (nsc ns)) (hl:ns.length=nn) (hn:nn≤1000) (hbd:ns.any XP=false) (hf:0≤frm∧frm≤16384) (ht:0≤to_∧to_≤16384) (hlo:lo≤H.next) :
  ∃ v H',FnX Try.prog kn lo 52 [.slice na nn ncap,iv reach,iv frm,iv to_] H v H'∧Acc lo H.next 3 H' v (opl ns reach frm (to_+1 - frm).toNat).length (cI (opl ns reach frm (to_+1 - frm).toNat))∧Zi H H' []:=by
 refine ZaD (kn:=kn) (lo:=lo) (H:=H) (args:=[.slice na nn ncap,iv reach,iv frm,iv to_]) (Q:=fun w H'=>Acc lo H.next 3 H' w (opl ns reach frm (to_+1 - frm).toNat).length (cI (opl ns reach frm (to_+1 - frm).toNat))∧Zi H H' []) Try.func52 B52 N52 Z52 L52 (by simp) ?_
 intro y hy
 refine YU.lowR hy ?_
 refine KP<|Za rfl<|Zb ?_
 intro y hy
 refine YU.lowR hy ?_
 refine KP<|ZY ?_
 intro H1 k1 n1 c1
 rw [ZbH] at c1
 refine Zb ?_
 intro y hy
 refine YU.lowL hy ?_
 intro z hz
 refine YU.lowR hz ?_
 refine KP<|Za rfl<|Za rfl ?_
 obtain ⟨H5,f5,g1,g2,n5,k5⟩:=jl (kn:=kn) (lo:=lo) (H:=H1) (na:=na) (nn:=nn) (ncap:=ncap) (reach:=reach) (by omega)
 refine Zj (vs:=[.slice na nn ncap,iv reach]) rfl (Zg f5)<|Zb ?_
 intro y hy
 refine YU.lowB hy ?_
 rw [Zem]
 refine YU.range rfl ?_
 intro H7 k7 n7 hdf hlp
 have e5:H5.next=H.next+3:=by omega
 have hlp:Lp Try.prog H7 (H5.next+1) .ready none 34 [(9,pt H.next)] [16] y0 K5 H5.next:=hlp.weak ⟨rfl,trivial⟩
 rw [e5] at hlp hdf n7
 have k17:Zi H1 H7 []:=k5.trans k7
 have k07:Zi H H7 []:=k1.trans k17
 have d1:=k17.cl c1 (by simp)
 rw [n1] at g1 g2
 have fs0:=hs.old
 have j0:J52 ns reach na nn ncap H (fun _=>false) H7:=⟨d1,k7.rd g1 (by simp),k7.rd g2 (by simp),hlp,hdf,by omega,k07⟩
 obtain ⟨H8,f8,j8⟩:=jF (kn:=kn) (lo:=lo) (H:=H7) (J:=J52 ns reach na nn ncap H) (base:=H.next+5) (Wy:=[H.next,H.next+4]) (l:=H.next+4) (bL:=H.next+1) (bG:=H.next+2) (na:=na) (nn:=nn) (ncap:=ncap) (ns:=ns) (reach:=reach) hl (by omega) hbd (by omega) (fun x hx=>by simp at hx;omega)
  (fun g H1 H2 W j kk hw=>j.keep kk hw) (fun g H1 j=>⟨j.rL,j.rG,j.kp.sl0 hs,by omega,by omega,fun b e=>by have:=fs0 b e;omega⟩)
  (fun g d H1 h1 h2 j hb=>Zbj hlo h1 h2 j hb) (by omega) j0
 refine Exists.intro _ (Exists.intro H8 (And.intro (Y3 rfl (by rw [n1,e5];simpa using f8)) ?_))
 have lp8:Lp Try.prog H8 (H5.next+1) .ready none 34 (S52 H.next) [16] y0 K5 H5.next:=by rw [e5];exact j8.lp
 refine ⟨.ready,none,_,lp8,by simp,?_⟩
 intro H9 s9
 have k9:=s9.keep
 have hn9:H9.next=H8.next:=s9.1
 rw [e5] at k9
 have ll:=j8.ll
 have nl:∀ x,x≠H.next+4→x ∉ [H.next+3+1]:=fun x hx=>by simp;omega
 have hd:H9.t.get (H.next+3)=some (.dfr (some [])):=by rw [k9.2 _ (by omega) (nl _ (by omega))];exact j8.dfr
 have ca:=k9.cl j8.acc (nl _ (by omega))
 have hk:Zi H H9 []:=j8.kp.new k9 (fun b q=>.inr (by simp at q;omega))
 refine Zc<|Za rfl<|Zb<|Zc<|Za rfl<|Za rfl<|Zb ?_
 refine ZA (fn:=Try.f52) Zef N52 ZdW (fun z:Nat × Value=>[(2,iv frm),(3,iv to_),(9,pt H.next),(11,z.2),(12,iv (frm+(z.1:Int)))])
  (fun k z H'=>z.1≤(to_+1 - frm).toNat∧k=(to_+1 - frm).toNat - z.1∧Zi H H' []∧H9.next≤H'.next∧Cl H' H.next (cB 16385 (cls ns reach ns.length))∧H'.t.get (H.next+3)=some (.dfr (some []))∧Acc lo H9.next 3 H' z.2 (opl ns reach frm z.1).length (cI (opl ns reach frm z.1))) _ (0,.slice none 0 0) ⟨Nat.zero_le _,rfl,hk,Nat.le_refl _,ca,hd,.inl ⟨rfl,rfl,rfl⟩⟩ ⟨rfl,rfl,rfl,rfl,ivq (by simp only [];omega),trivial⟩ ?_
 rintro k ⟨i,wv⟩ L1 ⟨hi1,hi2,hk,hnx,ca,hd,hacc⟩
 simp only [] at hi1 hi2 hacc;have mk:=hk.1;have kacc:=Zi.refl L1 [];have hol:=K4 (ns:=ns) (reach:=reach) (frm:=frm) (k:=i)
 refine Zc<|Za rfl<|Za rfl<|WD (a:=(frm+(i:Int))) (b:=to_) rfl rfl<|Zb ?_
 refine And.intro (fun q1=>?_) (fun q1=>?_)
 ·have q1:(frm+(i:Int))≤to_:=of_decide_eq_true q1
  first | refine Zk ?_ | skip
  refine Zc<|Za rfl<|qc (b:=H.next) (o:=0) (k:=(frm+(i:Int)).toNat) (j:=(frm+(i:Int))) rfl rfl (by omega) (by omega)<|Zy (b:=H.next) (o:=0+((frm+(i:Int)).toNat) * 1) (v:=.bool (cls ns reach ns.length ((frm+(i:Int)).toNat))) rfl ca.rd (Zcj (by omega))<|Zd (v:=.bool (!(cls ns reach ns.length ((frm+(i:Int)).toNat)))) rfl rfl<|Zb ?_
  refine And.intro (fun q2=>?_) (fun q2=>?_)
  ·have q2:¬ (cls ns reach ns.length ((frm+(i:Int)).toNat)=true):=by simpa using q2
   have hfr:frB ns reach (frm+(i:Int))=true:=by rw [← zE (by omega)];simpa using q2
   show Zn _ _ _ _ _ _ _ _
   refine Za rfl<|Za rfl ?_
   obtain ⟨H1,hH1⟩:∃ H1,L1.new (.cells [iv (frm+(i:Int))] 3 false)=H1:=⟨_,rfl⟩
   refine Yz (H':=H1) (k:=.heavy) rfl (by kernel_rfl) ((Xq (v:=iv (frm+(i:Int))) jq zo3 rfl rfl rfl (by decide)).trans (by rw [← hH1];rfl)) (fun b e=>by cases e) ?_
   obtain ⟨kH1,nH1,c1⟩:=Z7 hH1;clear hH1
   have c1:Cl H1 L1.next [iv (frm+(i:Int))]:=c1
   have mH1:=kH1.1
   have hk:=hk.trans kH1
   have ca:=kH1.cl ca (by simp)
   have hd:=(show H1.t.get (H.next+3)=some (.dfr (some [])) from by rw [kH1.2 _ (by omega) (by first | (simp;done) | (simp;omega))];exact hd)
   have kacc:=kacc.trans kH1
   obtain ⟨H2,kdH2,eH2,dH2,aH2,kbH2⟩:=Qo (P:=Try.prog) (lo:=lo) (k:=(opl ns reach frm i).length) (t1:=42) jq ZcL (c1.sl (Nat.le_refl 1)) rfl (by decide) rfl (by rw [yT];omega) (by omega) (hacc.keep kacc) (by omega) (by omega)
   refine Yz (k:=kdH2) rfl (by cases wv<;>kernel_rfl) (eH2 _ _ _ _ _ _ _ rfl rfl) (Za4 dH2 _) ?_
   have hk:=kbH2.keep hk (by omega)
   have ca:=kbH2.cl ca (by omega)
   have hd:=(show H2.t.get (H.next+3)=some (.dfr (some [])) from by rw [kbH2.2 _ (by omega)];exact hd)
   have mH2:=kbH2.1
   refine Za rfl<|Zb ?_
   show Zn _ _ _ _ _ _ _ _
   refine Za rfl<|Zw (a:=(frm+(i:Int))) (b:=1) rfl rfl ⟨by omega,by omega⟩<|Za rfl<|Zb ?_
   have hU:opl ns reach frm (i+1)=opl ns reach frm i ++ [frm+(i:Int)]:=by show (if frB ns reach (frm+i) then _ else _)=_;rw [if_pos hfr]
   have hacc2:Acc lo H9.next 3 H2 (.slice (some ⟨H1.next,0,none⟩) ((opl ns reach frm i).length+1) ((opl ns reach frm i).length+1)) (opl ns reach frm (i+1)).length (cI (opl ns reach frm (i+1))):=by rw [hU,List.length_append,ZaG];exact aH2
   exact ⟨_,(i+1,_),by omega,⟨by simp only [];omega,rfl,hk,by omega,ca,hd,hacc2⟩,rfl,rfl,rfl,rfl,ivq (by simp only [];omega),trivial⟩
  ·have q2:¬ (¬ (cls ns reach ns.length ((frm+(i:Int)).toNat)=true)):=by simpa using q2
   have hfr:frB ns reach (frm+(i:Int))=false:=by rw [← zE (by omega)];simpa using q2
   first | refine Zk ?_ | skip
   show Zn _ _ _ _ _ _ _ _
   refine Za rfl<|Zw (a:=(frm+(i:Int))) (b:=1) rfl rfl ⟨by omega,by omega⟩<|Za rfl<|Zb ?_
   have hU:opl ns reach frm (i+1)=opl ns reach frm i:=by show (if frB ns reach (frm+i) then _ else _)=_;rw [if_neg (by rw [hfr];simp)]
   exact ⟨_,(i+1,_),by omega,⟨by simp only [];omega,rfl,hk,by omega,ca,hd,by simp only [];rw [hU];exact hacc⟩,rfl,rfl,rfl,rfl,ivq (by simp only [];omega),trivial⟩
 ·have q1:¬ ((frm+(i:Int))≤to_):=of_decide_eq_false q1
  first | (refine ZF ?_;show wC _ _ _ _ _ _ _ _ _) | skip
  refine Zc<|Za rfl<|Za rfl<|Zb ?_
  have ein:i=(to_+1 - frm).toNat:=by omega
  rw [ein] at hacc
  refine And.intro trivial (Or.inr ⟨H.next+3,by rw [e5],by omega,hd,fun H12 hn12 hk12=>?_⟩)
  exact ⟨_,rfl,(hacc.keepW hk12 (by omega)).lowf (by omega),hk.new hk12 (fun b q=>.inr (by simp at q;omega))⟩
end
end
end Go.Ax

/-! Waiting loads: each as_ early as_ it can be. -/
namespace Go.Ax
open Go Go.RowKit
def WV (days limit:Int) (h:List Po) (l:Int):List Int→Option (Int × List Int)
 | []=>none
 | D :: os=>if l+ps (h.filter (yg (D - days)))≤limit then some (D,os) else WV days limit h l os
def Wh (days limit:Int):List Po→List Int→List Int→Option (List Int)
 | _,_,[]=>some []
 | h,os,l :: ls=>match WV days limit h l os with
  | none=>none
  | some (D,os')=>(Wh days limit (h ++ [⟨D,l⟩]) os' ls).map (D :: ·)
def scE:Option (List Int)→List Int × Int
 | some p=>(p,0)
 | none=>([],4)
section
variable {days limit:Int}
theorem Za2 {h:List Po} {l D:Int} {os:List Int} (q:l+ps (h.filter (yg (D - days)))≤limit):WV days limit h l (D :: os)=some (D,os):=by unfold WV;rw [if_pos q]
theorem Zbw {h:List Po} {l D:Int} {os:List Int} (q:¬ l+ps (h.filter (yg (D - days)))≤limit):WV days limit h l (D :: os)=WV days limit h l os:=by
 rw [WV,if_neg q]
theorem zs {h:List Po} {os os' ls:List Int} {l D:Int} (hf:WV days limit h l os=some (D,os')) :
  (Wh days limit h os (l :: ls)).map (h.map (·.d) ++ ·)=(Wh days limit (h ++ [⟨D,l⟩]) os' ls).map ((h ++ [(⟨D,l⟩:Po)]).map (·.d) ++ ·):=by
 rw [Wh,hf]
 simp only []
 cases Wh days limit (h ++ [⟨D,l⟩]) os' ls with
 | none=>rfl
 | some p=>simp
theorem Zal {h:List Po} {os ls:List Int} {l:Int} (hf:WV days limit h l os=none):Wh days limit h os (l :: ls)=none:=by
 rw [Wh,hf]
theorem qg {h:List Po} {os:List Int}:(Wh days limit h os []).map (h.map (·.d) ++ ·)=some (h.map (·.d)):=by simp [Wh]
theorem jE {os ls:List Int}:(Wh days limit [] os ls).map (([]:List Po).map (·.d) ++ ·)=Wh days limit [] os ls:=by
 cases Wh days limit [] os ls<;>rfl
end
theorem Zen {h:List Po} {c c':Int} (hc:c≤c'):(h.filter (yg c)).filter (yg c')=h.filter (yg c'):=by
 rw [List.filter_filter]
 refine List.filter_congr fun p _=>?_
 rw [Bool.eq_iff_iff,Bool.and_eq_true,Xi,Xi]
 omega
theorem qj {h:List Po} {c c':Int} (hs:Srt h) (hc:c≤c'):(h.filter (yg c)).dropWhile (old c')=h.filter (yg c'):=by
 rw [Jo (List.Pairwise.sublist List.filter_sublist hs),Zen hc]
theorem Zbh {h:List Po} {c D l:Int} (hD:c < D):(h ++ [(⟨D,l⟩:Po)]).filter (yg c)=h.filter (yg c) ++ [⟨D,l⟩]:=by
 rw [List.filter_append,List.filter_cons_of_pos (Xi.2 hD)];rfl
theorem Srt.snoc {h:List Po} {D l:Int} (hs:Srt h) (hd:∀ p,p∈h→p.d≤D):Srt (h ++ [⟨D,l⟩]):=by
 unfold Srt
 rw [List.pairwise_append]
 exact ⟨hs,List.pairwise_singleton _ _,fun a ha b hb=>by rw [List.mem_singleton] at hb;subst hb;exact hd a ha⟩
def op (ns:List Ns) (reach:Int) (day:Int):Nat→List Int
 | 0=>[]
 | n+1=>if frB ns reach day then day :: op ns reach (day+1) n else op ns reach (day+1) n
theorem qC {ns:List Ns} {reach:Int}:∀ {n:Nat} {day:Int},op ns reach day (n+1)=op ns reach day n ++ (if frB ns reach (day+n) then [day+n] else [])
 | 0,day=>by
  show (if frB ns reach day then day :: op ns reach (day+1) 0 else op ns reach (day+1) 0)=_
  simp [op]
 | n+1,day=>by
  have ih:=qC (ns:=ns) (reach:=reach) (n:=n) (day:=day+1)
  have e:day+1+(n:Int)=day+((n+1:Nat):Int):=by omega
  rw [e] at ih
  rw [op,ih,op]
  split<;>simp
theorem Kw {ns:List Ns} {reach frm:Int}:∀ {k:Nat},opl ns reach frm k=op ns reach frm k
 | 0=>rfl
 | k+1=>by
  rw [qC,← Kw (k:=k)]
  show (if frB ns reach (frm+k) then opl ns reach frm k ++ [frm+k] else opl ns reach frm k)=_
  split<;>simp
theorem qE {ns:List Ns} {reach:Int}:∀ {n:Nat} {day D:Int},D∈op ns reach day n→day≤D∧D < day+n∧frB ns reach D=true
 | 0,_,_,h=>by simp [op] at h
 | n+1,day,D,h=>by
  rw [op] at h
  by_cases q:frB ns reach day=true
  ·rw [if_pos q] at h
   rcases List.mem_cons.1 h with rfl | h
   ·exact ⟨Int.le_refl _,by omega,q⟩
   ·have:=qE h;exact ⟨by omega,by omega,this.2.2⟩
  ·rw [if_neg q] at h
   have:=qE h;exact ⟨by omega,by omega,this.2.2⟩
theorem ZaM {ns:List Ns} {reach:Int}:∀ {n:Nat} {day:Int},(op ns reach day n).Pairwise (· < ·)
 | 0,_=>List.Pairwise.nil
 | n+1,day=>by
  rw [op]
  split
  ·exact List.pairwise_cons.2 ⟨fun D hD=>by have:=qE hD;omega,ZaM⟩
  ·exact ZaM
end Go.Ax

/-
 Pool: waiting: earliest,Schedule (written by program).
-/
namespace Go.Ax
open Go Go.RowKit Go.Proofs

noncomputable section
theorem i3s:∃ i,Try.prog.info? 3=some i∧i.size=1:=by
 have h:(Try.prog.info? 3).map (fun i=>i.size)=some 1:=by kernel_rfl
 cases e:Try.prog.info? 3 with
 | none=>rw [e] at h;cases h
 | some i=>rw [e] at h;simp at h;exact ⟨i,rfl,h⟩
theorem Acc.keepL {lo f:Nat} {e:TypeId} {H H1:Hp} {v:Value} {n:Nat} {cs:List Value} {W:List Nat} (h:Acc lo f e H v n cs) (k:Zi H H1 W) (hw:∀ b,b∈(bkv v).toList→b ∉ W):Acc lo f e H1 v n cs:=
 h.imp id fun ⟨b,e1,h0,hf,hl,hn,hg⟩=>⟨b,e1,h0,hf,hl,Nat.lt_of_lt_of_le hn k.1,by rw [k.2 b hn (hw b (by rw [e1];simp [bkv]))];exact hg⟩
theorem Acc.blk {lo f:Nat} {e:TypeId} {H:Hp} {v:Value} {n:Nat} {cs:List Value} (h:Acc lo f e H v n cs):∀ x,x∈(bkv v).toList→f≤x∧x < H.next:=by
 intro x hx
 rcases h with ⟨_,_,rfl⟩ | ⟨b,rfl,_,h2,_,h3,_⟩
 ·simp [bkv] at hx
 ·simp [bkv] at hx;subst hx;exact ⟨h2,h3⟩
theorem jV {l:List Int} {k:Nat}:(cI l).drop (k * 1)=cI (l.drop k):=by rw [Nat.mul_one];simp [cI]
structure Sst (days limit:Int) (loads os0:List Int) (h:List Po) (os:List Int) (cc:Int) (i:Nat):Prop where
 len:h.length=i
 srt:Srt h
 vl:Vl h
 dy:Dy h
 osd:∀ D,D∈os→0≤D∧D≤16384
 up:os.Pairwise (· < ·)
 cc:∀ D,D∈os→cc≤D - days
 lt:∀ p,p∈h→∀ D,D∈os→p.d≤D
 tot:(Wh days limit h os (loads.drop i)).map (h.map (·.d) ++ ·)=Wh days limit [] os0 loads
section
variable {days limit:Int} {loads os0 os:List Int} {h:List Po} {cc:Int} {i j:Nat}
theorem qG {os:List Int} (hu:os.Pairwise (· < ·)) {j:Nat} (hj:j < os.length):∀ D,D∈os.drop (j+1)→os.getD j 0 < D:=by
 intro D hD
 have h1:(os.drop j).Pairwise (· < ·):=List.Pairwise.sublist (List.drop_sublist j os) hu
 rw [XI (z:=0) hj] at h1
 exact (List.pairwise_cons.1 h1).1 D hD
theorem Sst.next (s:Sst days limit loads os0 h os cc i) (hd:1≤days) (hi:i < loads.length) (hj:j < os.length) (hl:0≤loads.getD i 0∧loads.getD i 0≤72057594037927936)
  (hf:WV days limit h (loads.getD i 0) os=WV days limit h (loads.getD i 0) (os.drop j)) (hc:loads.getD i 0+ps (h.filter (yg (os.getD j 0 - days)))≤limit) :
  Sst days limit loads os0 (h ++ [⟨os.getD j 0,loads.getD i 0⟩]) (os.drop (j+1)) (os.getD j 0 - days) (i+1):=by
 have hD:os.getD j 0∈os:=Xg hj
 have hup:=qG s.up hj
 have hsub:∀ D,D∈os.drop (j+1)→D∈os:=fun D q=>List.mem_of_mem_drop q
 have e1:WV days limit h (loads.getD i 0) os=some (os.getD j 0,os.drop (j+1)):=by
  rw [hf,XI (z:=0) hj,Za2 hc]
 refine ⟨by rw [List.length_append,s.len];rfl,s.srt.snoc fun p hp=>s.lt p hp _ hD,fun p hp=>?_,fun p hp=>?_,fun D q=>s.osd D (hsub D q),List.Pairwise.sublist (List.drop_sublist _ _) s.up,fun D q=>by have:=hup D q;omega,fun p hp D q=>?_,?_⟩
 ·rcases List.mem_append.1 hp with q | q
  ·exact s.vl p q
  ·rw [List.mem_singleton] at q;subst q;exact hl
 ·rcases List.mem_append.1 hp with q | q
  ·exact s.dy p q
  ·rw [List.mem_singleton] at q;subst q;exact s.osd _ hD
 ·rcases List.mem_append.1 hp with r | r
  ·exact s.lt p r D (hsub D q)
  ·rw [List.mem_singleton] at r;subst r;exact Int.le_of_lt (hup D q)
 ·rw [← s.tot,XI (z:=0) hi,zs e1]
theorem Sst.none (s:Sst days limit loads os0 h os cc i) (hi:i < loads.length) (hf:WV days limit h (loads.getD i 0) os=none):scE (Wh days limit [] os0 loads)=([],4):=by
 rw [← s.tot,XI (z:=0) hi,Zal hf];rfl
theorem Sst.done (s:Sst days limit loads os0 h os cc i) (hi:i=loads.length):scE (Wh days limit [] os0 loads)=(h.map (·.d),0):=by
 rw [← s.tot,hi,List.drop_length,qg];rfl
end
section
variable {kn:Kn} {lo:Nat} {H:Hp}
set_option maxRecDepth 100000 in
theorem ZbO {x m:Int} {mb:Nat} (cm:Rd H mb [iv m]) (hlo:lo≤H.next):∃ H',FnX Try.prog kn lo 71 [iv x,pt mb] H (.bool (Wi m x)) H'∧Zi H H' []:=by
 have key:=Zp (kn:=kn) (lo:=lo) (H:=H) (args:=[iv x,pt mb]) (Q:=fun w H'=>w=(.bool (Wi m x))∧Zi H H' []) Try.func71 B71 N71 Z71 L71 (by simp) ?_
 ·obtain ⟨w,H',h,rfl,q⟩:=key;exact ⟨H',h,q⟩
 have hk:=Zi.refl H []
 refine Zc<|Za rfl<|Zb<|Zc<|Za rfl<|Zy (b:=mb) (o:=0) (v:=iv m) rfl cm rfl<|Zt rfl (XD) ?_
 intro tH1 H1 hH1 kH1
 have mH1:=kH1.1
 have hk:=hk.trans kH1
 have cm:=kH1.rd cm (by simp)
 cases tH1
 ·have thH1:inB x 0 m=false:=hH1
  have uhH1:=Wj thH1
  refine Zd (v:=.bool true) rfl rfl<|Za rfl<|Zb ?_
  exact And.intro trivial (Exists.intro _ (And.intro rfl ⟨congrArg Value.bool (show true=Wi m x from (by symm;simp only [Wi, *];try rfl)),hk⟩))
 ·have thH1:inB x 0 m=true:=hH1
  have uhH1:=XG thH1
  refine Zd (v:=.bool false) rfl rfl<|Za rfl<|Zb ?_
  exact And.intro trivial (Exists.intro _ (And.intro rfl ⟨congrArg Value.bool (show false=Wi m x from (by symm;simp only [Wi, *];try rfl)),hk⟩))
theorem Zbi {loads:List Int} {la:Option Addr} {n lcap:Nat} (hs:Sl H la n lcap (cI loads)) (hl:loads.length=n) (hn:n≤1000000) {m:Int} {mb:Nat} (cm:Rd H mb [iv m]) (hlo:lo≤H.next):∃ x H',FnX Try.prog kn lo 80 [.slice la n lcap,.func (.func 71) #[] #[pt mb]] H (iv x) H'∧decide (x ≥ 0)=loads.any (Wi m)∧Zi H H' []:=by
 have key:=Zp (kn:=kn) (lo:=lo) (H:=H) (args:=[.slice la n lcap,.func (.func 71) #[] #[pt mb]]) (Q:=fun w H'=>∃ x,w=iv x∧decide (x ≥ 0)=loads.any (Wi m)∧Zi H H' []) Try.func80 B80 N80 Z80 L80 (by simp) ?_
 ·obtain ⟨w,H',h,x,rfl,r⟩:=key;exact ⟨x,H',h,r⟩
 have hk:=Zi.refl H []
 have fs:=hs.old
 refine Zc<|Za rfl<|Zb<|Zc<|Za rfl<|Yx (m:=n) rfl<|Za rfl<|Zb ?_
 refine ZA (fn:=Try.f80) Zdz N80 Zey (fun i:Nat=>[(0,.slice la n lcap),(1,.func (.func 71) #[] #[pt mb]),(7,iv (n:Int)),(8,iv (i:Int))])
  (fun k i H'=>i+k=n∧Zi H H' []∧Sl H' la n lcap (cI loads)∧Rd H' mb [iv m]∧∀ j,j < i→Wi m (loads.getD j 0)=false) n 0 ⟨by omega,hk,hs,cm,fun j h=>absurd h (Nat.not_lt_zero j)⟩ ⟨rfl,rfl,rfl,rfl,trivial⟩ ?_
 rintro k i L1 ⟨hik,hk,hs,cm,hall⟩
 have mk:=hk.1
 refine Zc<|ZC (a:=(i:Int)) (b:=(n:Int)) rfl rfl<|Zb ?_
 refine And.intro (fun q1=>?_) (fun q1=>?_)
 ·have q1:(i:Int) < (n:Int):=of_decide_eq_true q1
  have hi:i < n:=by omega
  rcases id hs with ⟨_,h0s,_⟩ | ⟨sb,es,rs,_⟩
  ·omega
  have ls:=rs.1
  have lsb2:=fs sb es
  first | refine Zk ?_ | skip
  refine Zc<|Za rfl<|Za rfl<|Zb<|Zc<|Za rfl<|Za rfl<|Za rfl<|Xt (b:=sb) (o:=0) (k:=i) (j:=(i:Int)) (by rw [← es];rfl) rfl rfl hi<|Zy (b:=sb) (o:=0+i * 1) (v:=iv (loads.getD i 0)) rfl rs (zT (by omega)) ?_
  obtain ⟨H1,fH1,kH1⟩:=ZbO (kn:=kn) (lo:=lo) (H:=L1) (x:=(loads.getD i 0)) cm (by omega)
  obtain ⟨tH1,eH1⟩:∃ t,t=Wi m (loads.getD i 0):=⟨_,rfl⟩
  rw [← eH1] at fH1
  refine Zj (vs:=[iv (loads.getD i 0)]) rfl (Y3 rfl (by simpa using fH1)) ?_
  have mH1:=kH1.1
  have hk:=hk.trans kH1
  have hs:=kH1.sl0 hs
  have cm:=kH1.rd cm (by simp)
  have rs:=kH1.rd rs (by simp)
  cases tH1
  ·have hb:Wi m (loads.getD i 0)=false:=eH1.symm
   refine Zb<|ZO ?_
   first | refine Zk ?_ | skip
   show Zn _ _ _ _ _ _ _ _
   refine Zw (a:=(i:Int)) (b:=1) rfl rfl ⟨by omega,by omega⟩<|Za rfl<|Zb ?_
   exact ⟨k - 1,i+1,by omega,⟨by omega,hk,hs,cm,fun j hj=>by rcases Nat.lt_or_ge j i with c | c;exact hall j c;rw [show j=i by omega];exact hb⟩,rfl,rfl,rfl,ivq (by omega),trivial⟩
  ·have hb:Wi m (loads.getD i 0)=true:=eH1.symm
   refine Zb<|ZT<|Zc<|Za rfl<|Za rfl<|Zb ?_
   exact And.intro trivial (Exists.intro _ (And.intro rfl ⟨(i:Int),rfl,by rw [QT (z:=0) (j:=i) (by omega) hb];exact decide_eq_true (by omega),hk⟩))
 ·have q1:¬ ((i:Int) < (n:Int)):=of_decide_eq_false q1
  first | (refine ZF ?_;show wC _ _ _ _ _ _ _ _ _) | skip
  refine Zc<|Za rfl<|Zb ?_
  exact And.intro trivial (Exists.intro _ (And.intro rfl ⟨-1,rfl,by rw [UU (z:=0) (fun j hj=>hall j (by omega))];rfl,hk⟩))
set_option maxRecDepth 100000 in
theorem Zbk {loads:List Int} {la:Option Addr} {n lcap:Nat} (hs:Sl H la n lcap (cI loads)) (hl:loads.length=n) (hn:n≤1000000) {m:Int} {mb:Nat} (cm:Rd H mb [iv m]) (hlo:lo≤H.next):∃ H',FnX Try.prog kn lo 70 [.slice la n lcap,.func (.func 71) #[] #[pt mb]] H (.bool (loads.any (Wi m))) H'∧Zi H H' []:=by
 have key:=Zp (kn:=kn) (lo:=lo) (H:=H) (args:=[.slice la n lcap,.func (.func 71) #[] #[pt mb]]) (Q:=fun w H'=>w=(.bool (loads.any (Wi m)))∧Zi H H' []) Try.func70 B70 N70 Z70 L70 (by simp) ?_
 ·obtain ⟨w,H',h,rfl,q⟩:=key;exact ⟨H',h,q⟩
 have hk:=Zi.refl H []
 refine Zc<|Za rfl<|Zb<|Zc<|Za rfl<|Za rfl ?_
 obtain ⟨x,H1,fH1,hx,kH1⟩:=Zbi (kn:=kn) (lo:=lo) (H:=H) hs hl hn cm (by omega)
 refine Zj (vs:=[.slice la n lcap,.func (.func 71) #[] #[pt mb]]) rfl (Zg fH1) ?_
 have mH1:=kH1.1
 have hk:=hk.trans kH1
 refine Qz (a:=x) (b:=0) rfl rfl<|Za rfl<|Zb ?_
 exact And.intro trivial (Exists.intro _ (And.intro rfl ⟨congrArg Value.bool hx,hk⟩))
set_option maxRecDepth 100000 in
theorem jg {loads:List Int} {la:Option Addr} {n lcap:Nat} (hs:Sl H la n lcap (cI loads)) (hl:loads.length=n) (hn:n≤1000000) {m:Int} (hlo:lo≤H.next):∃ H',FnX Try.prog kn lo 50 [.slice la n lcap,iv m] H (.bool (!loads.any (Wi m))) H'∧Zi H H' []:=by
 have key:=Zp (kn:=kn) (lo:=lo) (H:=H) (args:=[.slice la n lcap,iv m]) (Q:=fun w H'=>w=(.bool (!loads.any (Wi m)))∧Zi H H' []) Try.func50 B50 N50 Z50 L50 (by simp) ?_
 ·obtain ⟨w,H',h,rfl,q⟩:=key;exact ⟨H',h,q⟩
 have hk:=Zi.refl H []
 have fs:=hs.old
 refine Zc<|ZS (v:=iv m) rfl ?_
 intro H1 kH1 nH1 c1
 have c1:Cl H1 H.next [iv m]:=c1
 have mH1:=kH1.1
 have hk:=hk.trans kH1
 have hs:=kH1.sl0 hs
 refine Za rfl<|Zb<|Zc<|Za rfl<|Zd (v:=.func (.func 71) #[] #[pt H.next]) rfl (by kernel_rfl) ?_
 obtain ⟨H2,fH2,kH2⟩:=Zbk (kn:=kn) (lo:=lo) (H:=H1) hs hl hn c1.rd (by omega)
 refine Zj (vs:=[.slice la n lcap,.func (.func 71) #[] #[pt H.next]]) rfl (Zg fH2) ?_
 have mH2:=kH2.1
 have hk:=hk.trans kH2
 have hs:=kH2.sl0 hs
 have c1:=kH2.cl c1 (by simp)
 refine Zd (v:=.bool (!(loads.any (Wi m)))) rfl rfl<|Za rfl<|Zb ?_
 exact And.intro trivial (Exists.intro _ (And.intro rfl ⟨rfl,hk⟩))
set_option maxRecDepth 100000 in
set_option maxHeartbeats 4000000 in
theorem zr {loads:List Int} {la:Option Addr} {n lcap:Nat} (hs:Sl H la n lcap (cI loads)) (hl:loads.length=n) (hn:n≤64) {os0:List Int} {oa:Option Addr} {om oc:Nat} {days limit:Int} (ho:Qu lo 0 3 H oa om oc (cI os0)) (hol:os0.length=om) (homx:om≤1000000) (hosd:∀ D,D∈os0→0≤D∧D≤16384) (hup:os0.Pairwise (· < ·)) (hv:∀ l,l∈loads→0≤l∧l≤72057594037927936) (hdy:1≤days∧days≤366) (hlim:0≤limit∧limit≤72057594037927936) (hlo:lo≤H.next) :
  ∃ v pl e H',FnX Try.prog kn lo 51 [.slice la n lcap,.slice oa om oc,iv days,iv limit] H (.tuple #[v,iv e]) H'∧scE (Wh days limit [] os0 loads)=(pl,e)∧Acc lo H.next 3 H' v pl.length (cI pl)∧Zi H H' []:=by
 have key:=Zp (kn:=kn) (lo:=lo) (H:=H) (args:=[.slice la n lcap,.slice oa om oc,iv days,iv limit]) (Q:=fun w H'=>∃ v pl e,w=.tuple #[v,iv e]∧scE (Wh days limit [] os0 loads)=(pl,e)∧Acc lo H.next 3 H' v pl.length (cI pl)∧Zi H H' []) Try.func51 B51 N51 Z51 L51 (by simp) ?_
 ·obtain ⟨w,H',h,v,pl,e,rfl,q⟩:=key;exact ⟨v,pl,e,H',h,q⟩
 have hk:=Zi.refl H []
 have fs:=hs.old
 have hob:∀ x,x∈YF oa→x < H.next:=fun x hx=>(ho.blk x hx).2.2
 refine Zc<|Za rfl<|Za rfl<|Zb ?_
 first | refine Zcr ?_ | refine ZbB ?_
 refine Zc<|Za rfl<|Zd (v:=.agg #[iv days,.slice none 0 0]) rfl (by kernel_rfl)<|ZY ?_
 intro H1 kH1 nH1 c1
 have c1:Cl H1 H.next [iv 0,.slice none 0 0]:=c1
 have mH1:=kH1.1
 have hk:=hk.trans kH1
 have hs:=kH1.sl0 hs
 have ho:=ho.keep kH1 (fun x hx=>by have:=hob x hx;simp)
 refine ZH (b:=H.next) (o:=0) rfl rfl c1 (by omega) rfl rfl (by simp) ?_
 intro H2 kH2 nH2 sH2
 have mH2:=kH2.1
 have hk:=hk.new kH2 (fun b hb=>by simp at hb ⊢;omega)
 have hs:=kH2.sl hs (fun b e=>by have:=fs b e;first | (simp;done) | (simp;omega))
 have ho:=ho.keep kH2 (fun x hx=>by have:=hob x hx;simp;omega)
 have c1:Cl H2 H.next [iv days,.slice none 0 0]:=sH2
 refine Zb<|Zc<|Za rfl<|Zb ?_
 first | refine Zk ?_ | skip
 refine Zc<|Za rfl<|Yx (m:=n) rfl<|Za rfl<|Zb ?_
 refine ZA (fn:=Try.f51) Zde N51 Zep (fun z:Nat × Value × Option Addr × Nat × Nat=>[(1,.slice z.2.2.1 z.2.2.2.1 z.2.2.2.2),(2,iv days),(3,iv limit),(10,pt H.next),(11,z.2.1),(18,.slice la n lcap),(19,iv (n:Int)),(20,iv (z.1:Int))])
  (fun k z H'=>z.1+k=n∧Zi H H' []∧H.next < H'.next∧Sl H' la n lcap (cI loads)∧∃ qa1 c1 h os cc,Cl H' H.next [iv days,.slice qa1 (h.filter (yg cc)).length c1]∧Qu lo (H.next+1) 95 H' qa1 (h.filter (yg cc)).length c1 (poc (h.filter (yg cc)))∧Acc lo (H.next+1) 3 H' z.2.1 h.length (cI (h.map (·.d)))∧Qu lo 0 3 H' z.2.2.1 z.2.2.2.1 z.2.2.2.2 (cI os)∧os.length=z.2.2.2.1∧z.2.2.2.1≤1000000∧(∀ x,x∈YF z.2.2.1→x < H.next)∧(∀ x,x∈YF qa1→x ∉ (bkv z.2.1).toList)∧Sst days limit loads os0 h os cc z.1) n (0,.slice none 0 0,oa,om,oc) ⟨by simp,hk,by omega,hs,none,0,[],os0,-400,c1,Qu.nil,.inl ⟨rfl,rfl,rfl⟩,ho,hol,homx,hob,fun x hx=>by simp [YF] at hx,⟨rfl,List.Pairwise.nil,fun p hp=>by simp at hp,fun p hp=>by simp at hp,hosd,hup,fun D hD=>by have:=hosd D hD;omega,fun p hp=>by simp at hp,jE⟩⟩ ⟨rfl,rfl,rfl,rfl,rfl,rfl,rfl,rfl,trivial⟩ ?_
 rintro k ⟨i,wv,oa,om,oc⟩ L1 ⟨hik,hk,hnx,hs,qa1,c1,h,os,cc,cw,hq,hacc,ho,hol,homx,hob,hdj,s⟩
 simp only [] at hik hacc ho hol homx hob s;have mk:=hk.1;have hqb:=hq.blk;have hab:=hacc.blk;have hhl:=s.len;have hfl:=List.length_filter_le (yg cc) h
 refine Zc<|ZC (a:=(i:Int)) (b:=(n:Int)) rfl rfl<|Zb ?_
 refine And.intro (fun q1=>?_) (fun q1=>?_)
 ·have q1:(i:Int) < (n:Int):=of_decide_eq_true q1
  have hi:i < n:=by omega
  rcases id hs with ⟨_,h0s,_⟩ | ⟨sb,es,rs,_⟩
  ·omega
  have ls:=rs.1
  have lsb2:=fs sb es;have hld:=hv (loads.getD i 0) (Xg (z:=0) (l:=loads) (i:=i) (by omega))
  first | refine Zk ?_ | skip
  refine Zc<|Xt (b:=sb) (o:=0) (k:=i) (j:=(i:Int)) (by rw [← es];rfl) rfl rfl hi<|Zy (b:=sb) (o:=0+i * 1) (v:=iv (loads.getD i 0)) rfl rs (zT (by omega))<|Za rfl<|Zb<|Zc<|Za rfl<|Yx (m:=om) rfl<|Za rfl<|Zb ?_
  refine ZA (fn:=Try.f51) Zeq N51 Zek (fun j:Nat=>[(1,.slice oa om oc),(2,iv days),(3,iv limit),(10,pt H.next),(11,wv),(18,.slice la n lcap),(19,iv (n:Int)),(20,iv (i:Int)),(13,iv (loads.getD i 0)),(24,.slice oa om oc),(25,iv (om:Int)),(26,iv (j:Int))])
   (fun m j H'=>j+m=om∧Zi H H' []∧H.next < H'.next∧Sl H' la n lcap (cI loads)∧(∃ qa2 c2 cc2,Cl H' H.next [iv days,.slice qa2 (h.filter (yg cc2)).length c2]∧Qu lo (H.next+1) 95 H' qa2 (h.filter (yg cc2)).length c2 (poc (h.filter (yg cc2)))∧(∀ x,x∈YF qa2→x ∉ (bkv wv).toList)∧∀ D,D∈os.drop j→cc2≤D - days)∧Acc lo (H.next+1) 3 H' wv h.length (cI (h.map (·.d)))∧Qu lo 0 3 H' oa om oc (cI os)∧WV days limit h (loads.getD i 0) os=WV days limit h (loads.getD i 0) (os.drop j)) om 0 ⟨by omega,hk,by omega,hs,⟨qa1,c1,cc,cw,hq,hdj,fun D hD=>s.cc D (by simpa using hD)⟩,hacc,ho,by simp⟩ ⟨rfl,rfl,rfl,rfl,rfl,rfl,rfl,rfl,rfl,rfl,rfl,rfl,trivial⟩ ?_
  rintro m j L2 ⟨hjm,hk,hnx,hs,⟨qa2,c2,cc2,cw,hq,hdj,hcc2⟩,hacc,ho,hf⟩
  have mk:=hk.1;have hqb:=hq.blk;have hab:=hacc.blk;have hhl:=s.len;have hfl:=List.length_filter_le (yg cc2) h
  refine Zc<|ZC (a:=(j:Int)) (b:=(om:Int)) rfl rfl<|Zb ?_
  refine And.intro (fun q2=>?_) (fun q2=>?_)
  ·have q2:(j:Int) < (om:Int):=of_decide_eq_true q2
   have hj:j < om:=by omega
   obtain ⟨pb,po,p0,ep_,fp,lp,rp,dp⟩:=ho.pos (by omega)
   have hpb:=hob pb (by rw [ep_];simp [YF])
   have hDm:(os.getD j 0)∈os:=Xg (by omega)
   have hDr:=s.osd _ hDm;have hcd:cc2≤(os.getD j 0) - days:=hcc2 _ (by rw [XI (z:=0) (show j < os.length by omega)];simp)
   have hdw:=qj s.srt hcd;have hfl3:=List.length_filter_le (yg ((os.getD j 0) - days)) h
   first | refine Zk ?_ | skip
   refine Zc<|Za rfl<|Xt (b:=pb) (o:=po) (k:=j) (j:=(j:Int)) (by rw [← ep_];rfl) rfl rfl hj<|Zy (b:=pb) (o:=po+j * 1) (v:=iv (os.getD j 0)) rfl rp (zn dp (zT (l:=os) (i:=j) (by omega)) (by omega))<|Za rfl<|Za rfl<|Zb<|Zc<|Za rfl ?_
   obtain ⟨H3,qa3,n3,c3,fH3,kH3,cw,hq,hl3,hab3⟩:=qd (kn:=kn) (lo:=lo) (H:=L2) cw hq rfl (by omega) (by omega) (by omega) (by omega) (s.dy.sub fun p hp=>(List.mem_filter.1 hp).1) (D:=(os.getD j 0)) (by omega) hdy
   refine Zj (vs:=[pt H.next,iv (os.getD j 0)]) rfl (Zg fH3) ?_
   rw [hdw] at hq hl3;subst hl3
   have mH3:=kH3.1
   have hk:=hk.new kH3 (fun b hb=>by simp at hb ⊢;omega)
   have hs:=kH3.sl hs (fun b e=>by have:=fs b e;first | (simp;done) | (simp;omega))
   have hacc:=hacc.keepL kH3 (fun x hx=>by have:=hab x hx;simp;omega)
   have ho:=ho.keep kH3 (fun x hx=>by have:=hob x hx;simp;omega)
   have rp:=kH3.rd rp (by first | (simp;done) | (simp;omega))
   have hqb:=hq.blk;have hdj:∀ x,x∈YF qa3→x ∉ (bkv wv).toList:=fun x hx=>hdj x (by rw [← hab3];exact hx)
   refine Zb<|Zc ?_
   obtain ⟨H4,fH4,kH4⟩:=QE (kn:=kn) (lo:=lo) (H:=H3) cw hq rfl (by omega) (by omega) (by omega) (by omega) (s.vl.sub fun p hp=>(List.mem_filter.1 hp).1)
   refine Zj (vs:=[pt H.next]) rfl (Zg fH4) ?_
   have mH4:=kH4.1
   have hk:=hk.trans kH4
   have hs:=kH4.sl0 hs
   have hacc:=hacc.keepL kH4 (fun x hx=>by have:=hab x hx;simp)
   have ho:=ho.keep kH4 (fun x hx=>by have:=hob x hx;simp)
   have rp:=kH4.rd rp (by simp)
   have cw:=kH4.cl cw (by simp)
   have hq:=hq.keep kH4 (fun x hx=>by have:=hqb x hx;simp)
   have hpl:=qL (l:=(h.filter (yg ((os.getD j 0) - days)))) fun p hp=>(s.vl p (List.mem_filter.1 hp).1).1;have hph:=qO (l:=(h.filter (yg ((os.getD j 0) - days)))) (s.vl.sub fun p hp=>(List.mem_filter.1 hp).1)
   refine Za rfl<|Zw (a:=(ps (h.filter (yg ((os.getD j 0) - days))))) (b:=(loads.getD i 0)) rfl rfl ⟨by omega,by omega⟩<|Za rfl<|Y2 (a:=(ps (h.filter (yg ((os.getD j 0) - days))))+(loads.getD i 0)) (b:=limit) rfl rfl<|Zb ?_
   refine And.intro (fun q3=>?_) (fun q3=>?_)
   ·have q3:((ps (h.filter (yg ((os.getD j 0) - days))))+(loads.getD i 0)) > limit:=of_decide_eq_true q3
    first | (refine ZF ?_;show wC _ _ _ _ _ _ _ _ _) | skip
    show Zn _ _ _ _ _ _ _ _
    refine Zw (a:=(j:Int)) (b:=1) rfl rfl ⟨by omega,by omega⟩<|Za rfl<|Zb ?_
    exact ⟨m - 1,j+1,by omega,⟨by omega,hk,by omega,hs,⟨_,_,(os.getD j 0) - days,cw,hq,hdj,fun D hD=>by have:=qG s.up (by omega) D hD;omega⟩,hacc,ho,by rw [hf,XI (z:=0) (by omega),Zbw (by omega)]⟩,rfl,rfl,rfl,rfl,rfl,rfl,rfl,rfl,rfl,rfl,rfl,ivq (by omega),trivial⟩
   ·have q3:¬ (((ps (h.filter (yg ((os.getD j 0) - days))))+(loads.getD i 0)) > limit):=of_decide_eq_false q3
    first | refine Zk ?_ | skip
    refine Zc<|Za rfl<|Za rfl<|Zd (v:=.agg #[iv (os.getD j 0),iv (loads.getD i 0)]) rfl (by kernel_rfl) ?_
    have habo:=hacc.blk
    obtain ⟨H5,qa4,n4,c4,fH5,kH5,cw,hq,hl4,hfr⟩:=UR (kn:=kn) (lo:=lo) (H:=H4) cw hq rfl (by omega) (by omega) (by omega) (by omega) (s.dy.sub fun p hp=>(List.mem_filter.1 hp).1) (by omega) (p:=(⟨(os.getD j 0),(loads.getD i 0)⟩:Po)) (by exact hDr) hdy
    refine Zj (vs:=[pt H.next,.agg (Po.f (⟨(os.getD j 0),(loads.getD i 0)⟩:Po)).toArray]) rfl (Zg fH5) ?_
    have hd2:(h.filter (yg ((os.getD j 0) - days))).dropWhile (old (((⟨(os.getD j 0),(loads.getD i 0)⟩:Po)).d - days)) ++ [(⟨(os.getD j 0),(loads.getD i 0)⟩:Po)]=(h ++ [(⟨(os.getD j 0),(loads.getD i 0)⟩:Po)]).filter (yg ((os.getD j 0) - days)):=by rw [qj s.srt (Int.le_refl _),Zbh (by omega)]
    rw [hd2] at hq hl4;subst hl4
    have hk:=hk.new kH5 (fun x hx=>.inr (by rcases List.mem_cons.1 hx with e | hx;omega;(have:=hqb _ hx;omega)))
    have hs:=kH5.sl hs (fun x e0 hx=>by have:=fs x e0;rcases List.mem_cons.1 hx with e | hx;omega;(have:=hqb _ hx;omega))
    have ho:=ho.keep kH5 (fun x hx hx2=>by have:=hob x hx;rcases List.mem_cons.1 hx2 with e | hx2;omega;(have:=hqb _ hx2;omega))
    have hacc:=hacc.keepL kH5 (fun x hx hx2=>by have:=hab x hx;rcases List.mem_cons.1 hx2 with e | hx2;omega;exact hdj x hx2 hx)
    have mH5:=kH5.1;have hqb:=hq.blk;have hab:=hacc.blk
    have hdj:∀ x,x∈YF qa4→x ∉ (bkv wv).toList:=fun x hx hx2=>by have:=hfr x hx;have:=habo x hx2;omega
    refine Zb<|Zc<|Za rfl<|Za rfl ?_
    obtain ⟨H6,hH6⟩:∃ H6,H5.new (.cells [iv (os.getD j 0)] 3 false)=H6:=⟨_,rfl⟩
    refine Yz (H':=H6) (k:=.heavy) rfl (by kernel_rfl) ((Xq (v:=iv (os.getD j 0)) jq zo3 rfl rfl rfl (by decide)).trans (by rw [← hH6];rfl)) (fun b e=>by cases e) ?_
    obtain ⟨kH6,nH6,c6⟩:=Z7 hH6;clear hH6
    have c6:Cl H6 H5.next [iv (os.getD j 0)]:=c6
    have mH6:=kH6.1
    have hk:=hk.trans kH6
    have hs:=kH6.sl0 hs
    have hacc:=hacc.keepL kH6 (fun x hx=>by have:=hab x hx;simp)
    have ho:=ho.keep kH6 (fun x hx=>by have:=hob x hx;simp)
    have cw:=kH6.cl cw (by simp)
    have hq:=hq.keep kH6 (fun x hx=>by have:=hqb x hx;simp)
    obtain ⟨ax,cx,hwv,hqa⟩:=Qu.of_acc hacc
    subst hwv
    obtain ⟨H7,kdH7,eH7,dH7,aH7,kbH7⟩:=Vb (P:=Try.prog) (lo:=lo) (t1:=42) jq ZcL (c6.sl (Nat.le_refl 1)) rfl (by decide) rfl (by rw [yT,List.length_map];omega) (by omega) hqa (by omega) (f:=H.next+1) (by omega)
    refine Yz (k:=kdH7) rfl (by kernel_rfl) (eH7 _ _ _ _ _ _ _ rfl rfl) (by intro x hx;rcases dH7 with q | ⟨bH7,q,_⟩<;>rw [q] at hx<;>cases hx) ?_
    have hqn:=hqa.blk;have hdj2:∀ x,x∈YF ax→x∈(bkv (.slice ax h.length cx)).toList:=fun x hx=>by cases ax with | none=>simp [YF] at hx | some a0=>simpa [YF,bkv] using hx
    have hk:=hk.new kbH7 (fun x hx=>.inr (by have:=hqn x hx;omega))
    have hs:=kbH7.sl hs (fun x e0 hx=>by have:=fs x e0;have:=hqn x hx;omega)
    have ho:=ho.keep kbH7 (fun x hx hx2=>by have:=hob x hx;have:=hqn x hx2;omega)
    have cw:=kbH7.cl cw (fun hx=>by have:=hqn _ hx;omega)
    have hq:=hq.keep kbH7 (fun x hx hx2=>hdj x hx (hdj2 x hx2))
    have mH7:=kbH7.1
    have hdj:∀ x,x∈YF qa4→x ∉ (bkv (.slice (some (⟨H6.next,0,none⟩:Addr)) (h.length+1) (h.length+1))).toList:=fun x hx hx2=>by have:=hqb x hx;simp [bkv] at hx2;omega
    have hacc2:Acc lo (H.next+1) 3 H7 (.slice (some ⟨H6.next,0,none⟩) (h.length+1) (h.length+1)) (h ++ [(⟨(os.getD j 0),(loads.getD i 0)⟩:Po)]).length (cI ((h ++ [(⟨(os.getD j 0),(loads.getD i 0)⟩:Po)]).map (·.d))):=by rcases aH7 with ⟨q,_⟩ | ⟨_,_,_,b9,o9,c9,q,_⟩ | ⟨b9,o9,c9,q,q0,qa1,qa2,qa3,qa4,q5,q6⟩<;>cases q;rw [List.drop_zero] at q6;subst q6;exact .inr ⟨H6.next,by rw [List.length_append];rfl,by rw [List.length_append];exact q0,qa1,qa2,qa3,by rw [List.map_append,ZaG];exact qa4⟩
    have hqb:=hq.blk
    refine Za rfl<|Zb<|Zc<|Za rfl<|Za rfl<|Zw (a:=(j:Int)) (b:=1) rfl rfl ⟨by omega,by omega⟩ ?_
    obtain ⟨i3,hi3,hs3⟩:=i3s
    obtain ⟨o2,oc2,ob2,hsl,hb2,ho,hab2⟩:=Uu (lo:=lo) (k:=j+1) (j:=((j:Int)+1)) ZcL hi3 hs3 (by omega) ho (by rw [yT,hol,Nat.mul_one]) (by omega) (by omega) (by omega)
    refine Yz (k:=.read ob2) rfl (by kernel_rfl) (hsl _ _ _ _ _ _ _ rfl rfl) (fun b e=>by cases e;exact hb2) ?_
    rw [jV] at ho;have hob:∀ x,x∈YF o2→x < H.next:=fun x hx=>hob x (by rw [← hab2];exact hx)
    refine Za rfl<|Zb ?_
    first | (refine ZF ?_;show wC _ _ _ _ _ _ _ _ _) | skip
    show Zn _ _ _ _ _ _ _ _
    refine Zw (a:=(i:Int)) (b:=1) rfl rfl ⟨by omega,by omega⟩<|Za rfl<|Zb ?_
    exact ⟨k - 1,(i+1,_,_,_,_),by omega,⟨by simp only [];omega,hk,by omega,hs,_,_,h ++ [⟨(os.getD j 0),(loads.getD i 0)⟩],os.drop (j+1),(os.getD j 0) - days,cw,hq,hacc2,ho,by simp only [];rw [List.length_drop,hol],by simp only [];omega,hob,hdj,s.next (by omega) (by omega) (by omega) hld hf (by omega)⟩,rfl,rfl,rfl,rfl,rfl,rfl,rfl,ivq (by simp only [];omega),trivial⟩
  ·have q2:¬ ((j:Int) < (om:Int)):=of_decide_eq_false q2
   have hfn:WV days limit h (loads.getD i 0) os=none:=by rw [hf,List.drop_eq_nil_of_le (by omega)];rfl
   first | (refine ZF ?_;show wC _ _ _ _ _ _ _ _ _) | skip
   refine Zc<|Za rfl<|Za rfl<|Zb ?_
   exact And.intro trivial (Exists.intro _ (And.intro rfl ⟨_,[],4,rfl,s.none (by omega) hfn,.inl ⟨rfl,rfl,rfl⟩,hk⟩))
 ·have q1:¬ ((i:Int) < (n:Int)):=of_decide_eq_false q1
  first | (refine ZF ?_;show wC _ _ _ _ _ _ _ _ _) | skip
  refine Zc<|Za rfl<|Za rfl<|Za rfl<|Zb ?_
  exact And.intro trivial (Exists.intro _ (And.intro rfl ⟨_,h.map (·.d),0,rfl,s.done (by omega),by rw [List.length_map];exact hacc.lowf (by omega),hk⟩))
end
end
end Go.Ax

/-
 Pool: Schedule,and the document of it (written by program).
-/
namespace Go.Ax
open Go Go.RowKit Go.Proofs

noncomputable section
def seT (loads:List Int) (ns:List Ns) (reach days limit frm to_:Int):List Int × Int:=
 if 64 < loads.length then ([],3) else if vN ns=false then ([],1) else if loads.any (Wi 72057594037927936)=true∨inB limit 0 72057594037927936=false∨inB reach 0 63=false∨inB days 1 366=false∨inB frm 0 16384=false∨inB to_ 0 16384=false then ([],2) else scE (Wh days limit [] (op ns reach frm (to_+1 - frm).toNat) loads)
section
variable {loads:List Int} {ns:List Ns} {reach days limit frm to_:Int}
theorem Zco (h:64 < loads.length):seT loads ns reach days limit frm to_=([],3):=by unfold seT;rw [if_pos h]
theorem Zb1 (h:¬ 64 < loads.length) (k:vN ns=false):seT loads ns reach days limit frm to_=([],1):=by unfold seT;rw [if_neg h,if_pos k]
theorem W5 (h:¬ 64 < loads.length) (k:vN ns=true) (q:loads.any (Wi 72057594037927936)=true∨inB limit 0 72057594037927936=false∨inB reach 0 63=false∨inB days 1 366=false∨inB frm 0 16384=false∨inB to_ 0 16384=false):seT loads ns reach days limit frm to_=([],2):=by unfold seT;rw [if_neg h,if_neg (by rw [k];decide),if_pos q]
theorem Zdj (h:¬ 64 < loads.length) (k:vN ns=true) (q1:loads.any (Wi 72057594037927936)=false) (q2:inB limit 0 72057594037927936=true) (q3:inB reach 0 63=true) (q4:inB days 1 366=true) (q5:inB frm 0 16384=true) (q6:inB to_ 0 16384=true):seT loads ns reach days limit frm to_=scE (Wh days limit [] (op ns reach frm (to_+1 - frm).toNat) loads):=by
 unfold seT;rw [if_neg h,if_neg (by rw [k];decide),if_neg (by rw [q1,q2,q3,q4,q5,q6];decide)]
end
def py (h:List Po) (c:Int) (k:Nat):Int:=ps ((h.take k).filter (yg c))
structure Rst (ns:List Ns) (reach days limit to_:Int) (loads os0:List Int) (h:List Po) (day:Int) (i:Nat):Prop where
 len:h.length=i
 vl:Vl h
 dy:Dy h
 ld:∀ k,k < i→(h.getD k Po.z).l=loads.getD k 0
 tot:(Wh days limit h (op ns reach day (to_+1 - day).toNat) (loads.drop i)).map (h.map (·.d) ++ ·)=Wh days limit [] os0 loads
section
variable {ns:List Ns} {reach days limit to_ day D:Int} {loads os0:List Int} {h:List Po} {i:Nat}
theorem Rst.next (s:Rst ns reach days limit to_ loads os0 h day i) (hi:i < loads.length) (hl:0≤loads.getD i 0∧loads.getD i 0≤72057594037927936) (hD:0≤D∧D≤16384) (hDt:D≤to_) (hfr:frB ns reach D=true)
  (hf:WV days limit h (loads.getD i 0) (op ns reach day (to_+1 - day).toNat)=WV days limit h (loads.getD i 0) (op ns reach D (to_+1 - D).toNat)) (hc:loads.getD i 0+py h (D - days) i≤limit) :
  Rst ns reach days limit to_ loads os0 (h ++ [⟨D,loads.getD i 0⟩]) (D+1) (i+1):=by
 have e0:(to_+1 - D).toNat=(to_+1 - (D+1)).toNat+1:=by omega
 have e1:WV days limit h (loads.getD i 0) (op ns reach day (to_+1 - day).toNat)=some (D,op ns reach (D+1) (to_+1 - (D+1)).toNat):=by
  rw [hf,e0,op,if_pos hfr]
  refine Za2 ?_
  unfold py at hc
  rwa [List.take_of_length_le (by rw [s.len];exact Nat.le_refl _)] at hc
 refine ⟨by rw [List.length_append,s.len];rfl,fun p hp=>?_,fun p hp=>?_,fun k hk=>?_,?_⟩
 ·rcases List.mem_append.1 hp with q | q
  ·exact s.vl p q
  ·rw [List.mem_singleton] at q;subst q;exact hl
 ·rcases List.mem_append.1 hp with q | q
  ·exact s.dy p q
  ·rw [List.mem_singleton] at q;subst q;exact hD
 ·rw [List.getD_eq_getElem?_getD,List.getElem?_append,s.len]
  by_cases q:k < i
  ·rw [if_pos q,← List.getD_eq_getElem?_getD];exact s.ld k q
  ·rw [if_neg q,show k - i=0 by omega,show k=i by omega];rfl
 ·rw [← s.tot,XI (z:=0) hi,zs e1]
theorem Rst.done (s:Rst ns reach days limit to_ loads os0 h day i) (hi:i=loads.length):scE (Wh days limit [] os0 loads)=(h.map (·.d),0):=by
 rw [← s.tot,hi,List.drop_length,qg];rfl
end
section
variable {kn:Kn} {lo:Nat} {H:Hp}
set_option maxRecDepth 100000 in
set_option maxHeartbeats 4000000 in
theorem zk {loads:List Int} {la:Option Addr} {n lcap:Nat} (hs:Sl H la n lcap (cI loads)) (hl:loads.length=n) (hn:n≤1000000) {ns:List Ns} {na:Option Addr} {nn ncap:Nat} (hsn:Sl H na nn ncap (nsc ns)) (hln:ns.length=nn) (hnn:nn≤1000000) {reach days limit frm to_:Int} (h35:kn.b 35=none) (hlo:lo≤H.next):∃ v H',FnX Try.prog kn lo 22 [.slice la n lcap,.slice na nn ncap,iv reach,iv days,iv limit,iv frm,iv to_] H (.tuple #[v,iv (seT loads ns reach days limit frm to_).2]) H'∧Acc lo H.next 3 H' v (seT loads ns reach days limit frm to_).1.length (cI (seT loads ns reach days limit frm to_).1)∧Zi H H' []:=by
 have key:=Zp (kn:=kn) (lo:=lo) (H:=H) (args:=[.slice la n lcap,.slice na nn ncap,iv reach,iv days,iv limit,iv frm,iv to_]) (Q:=fun w H'=>∃ v,w=.tuple #[v,iv (seT loads ns reach days limit frm to_).2]∧Acc lo H.next 3 H' v (seT loads ns reach days limit frm to_).1.length (cI (seT loads ns reach days limit frm to_).1)∧Zi H H' []) Try.func22 B22 N22 Z22 L22 (by simp) ?_
 ·obtain ⟨w,H',h,v,rfl,q⟩:=key;exact ⟨v,H',h,q⟩
 have hk:=Zi.refl H []
 have fs:=hs.old
 have fn:=hsn.old
 refine Zc<|Za rfl<|Za rfl<|Zb<|Zc<|Za rfl<|Yx (m:=n) rfl<|Y2 (a:=(n:Int)) (b:=64) rfl rfl<|Zb ?_
 refine And.intro (fun q1=>?_) (fun q1=>?_)
 ·have q1:(n:Int) > 64:=of_decide_eq_true q1
  refine Zc<|Za rfl<|Za rfl<|Zb ?_
  exact And.intro trivial (Exists.intro _ (And.intro rfl ⟨_,by rw [Zco (by omega)];rfl,by rw [Zco (by omega)];exact .inl ⟨rfl,rfl,rfl⟩,hk⟩))
 ·have q1:¬ ((n:Int) > 64):=of_decide_eq_false q1
  first | refine Zk ?_ | skip
  refine Zc<|Za rfl<|Zt rfl (Zd5 hsn hln hnn (by omega)) ?_
  intro tH1 H1 hH1 kH1
  have mH1:=kH1.1
  have hk:=hk.trans kH1
  have hs:=kH1.sl0 hs
  have hsn:=kH1.sl0 hsn
  cases tH1
  ·have hvn:vN ns=false:=hH1
   refine Zd (v:=.bool true) rfl rfl<|Zb<|ZT<|Zc<|Za rfl<|Za rfl<|Zb ?_
   exact And.intro trivial (Exists.intro _ (And.intro rfl ⟨_,by rw [Zb1 (by omega) hvn];rfl,by rw [Zb1 (by omega) hvn];exact .inl ⟨rfl,rfl,rfl⟩,hk⟩))
  ·have hvn:vN ns=true:=hH1
   obtain ⟨hl32,hanyN⟩:=ZeE hvn
   refine Zd (v:=.bool false) rfl rfl<|Zb<|ZO ?_
   first | refine Zk ?_ | skip
   refine Zc<|Za rfl<|Zt rfl (jg hs hl hn (m:=72057594037927936) (by omega)) ?_
   intro tH2 H2 hH2 kH2
   have mH2:=kH2.1
   have hk:=hk.trans kH2
   have hs:=kH2.sl0 hs
   have hsn:=kH2.sl0 hsn
   cases tH2
   ·have hvi:loads.any (Wi 72057594037927936)=true:=by simpa using hH2
    refine Zd (v:=.bool true) rfl rfl<|Za rfl<|Zl rfl<|Zl rfl<|Zl rfl<|Zd (v:=.bool true) rfl rfl<|Za rfl<|Zl rfl<|Zl rfl<|Zl rfl<|Zd (v:=.bool true) rfl rfl<|Zb<|ZT<|Zc<|Za rfl<|Za rfl<|Zb ?_
    exact And.intro trivial (Exists.intro _ (And.intro rfl ⟨_,by rw [W5 (by omega) hvn (by first | exact .inl (by assumption) | exact .inr (.inl (by assumption)) | exact .inr (.inr (.inl (by assumption))) | exact .inr (.inr (.inr (.inl (by assumption)))) | exact .inr (.inr (.inr (.inr (.inl (by assumption))))) | exact .inr (.inr (.inr (.inr (.inr (by assumption))))))];rfl,by rw [W5 (by omega) hvn (by first | exact .inl (by assumption) | exact .inr (.inl (by assumption)) | exact .inr (.inr (.inl (by assumption))) | exact .inr (.inr (.inr (.inl (by assumption)))) | exact .inr (.inr (.inr (.inr (.inl (by assumption))))) | exact .inr (.inr (.inr (.inr (.inr (by assumption))))))];exact .inl ⟨rfl,rfl,rfl⟩,hk⟩))
   ·have hvi:loads.any (Wi 72057594037927936)=false:=by simpa using hH2
    refine Zd (v:=.bool false) rfl rfl<|Za rfl ?_
    refine Zo rfl (Za rfl ?_)
    refine Zo rfl (Zt rfl (XD) ?_)
    intro tH3 H3 hH3 kH3
    have mH3:=kH3.1
    have hk:=hk.trans kH3
    have hs:=kH3.sl0 hs
    have hsn:=kH3.sl0 hsn
    cases tH3
    ·have thH3:inB limit 0 72057594037927936=false:=hH3
     have uhH3:=Wj thH3
     refine Zo rfl (Zd (v:=.bool true) rfl rfl ?_)
     refine Zd (v:=.bool true) rfl rfl<|Za rfl<|Zl rfl<|Zl rfl<|Zl rfl<|Zd (v:=.bool true) rfl rfl<|Zb<|ZT<|Zc<|Za rfl<|Za rfl<|Zb ?_
     exact And.intro trivial (Exists.intro _ (And.intro rfl ⟨_,by rw [W5 (by omega) hvn (by first | exact .inl (by assumption) | exact .inr (.inl (by assumption)) | exact .inr (.inr (.inl (by assumption))) | exact .inr (.inr (.inr (.inl (by assumption)))) | exact .inr (.inr (.inr (.inr (.inl (by assumption))))) | exact .inr (.inr (.inr (.inr (.inr (by assumption))))))];rfl,by rw [W5 (by omega) hvn (by first | exact .inl (by assumption) | exact .inr (.inl (by assumption)) | exact .inr (.inr (.inl (by assumption))) | exact .inr (.inr (.inr (.inl (by assumption)))) | exact .inr (.inr (.inr (.inr (.inl (by assumption))))) | exact .inr (.inr (.inr (.inr (.inr (by assumption))))))];exact .inl ⟨rfl,rfl,rfl⟩,hk⟩))
    ·have thH3:inB limit 0 72057594037927936=true:=hH3
     have uhH3:=XG thH3
     refine Zo rfl (Zd (v:=.bool false) rfl rfl ?_)
     refine Zd (v:=.bool false) rfl rfl<|Za rfl ?_
     refine Zo rfl (Za rfl ?_)
     refine Zo rfl (Zt rfl (XD) ?_)
     intro tH4 H4 hH4 kH4
     have mH4:=kH4.1
     have hk:=hk.trans kH4
     have hs:=kH4.sl0 hs
     have hsn:=kH4.sl0 hsn
     cases tH4
     ·have thH4:inB reach 0 63=false:=hH4
      have uhH4:=Wj thH4
      refine Zo rfl (Zd (v:=.bool true) rfl rfl ?_)
      refine Zd (v:=.bool true) rfl rfl<|Zb<|ZT<|Zc<|Za rfl<|Za rfl<|Zb ?_
      exact And.intro trivial (Exists.intro _ (And.intro rfl ⟨_,by rw [W5 (by omega) hvn (by first | exact .inl (by assumption) | exact .inr (.inl (by assumption)) | exact .inr (.inr (.inl (by assumption))) | exact .inr (.inr (.inr (.inl (by assumption)))) | exact .inr (.inr (.inr (.inr (.inl (by assumption))))) | exact .inr (.inr (.inr (.inr (.inr (by assumption))))))];rfl,by rw [W5 (by omega) hvn (by first | exact .inl (by assumption) | exact .inr (.inl (by assumption)) | exact .inr (.inr (.inl (by assumption))) | exact .inr (.inr (.inr (.inl (by assumption)))) | exact .inr (.inr (.inr (.inr (.inl (by assumption))))) | exact .inr (.inr (.inr (.inr (.inr (by assumption))))))];exact .inl ⟨rfl,rfl,rfl⟩,hk⟩))
     ·have thH4:inB reach 0 63=true:=hH4
      have uhH4:=XG thH4
      refine Zo rfl (Zd (v:=.bool false) rfl rfl ?_)
      refine Zd (v:=.bool false) rfl rfl<|Zb<|ZO ?_
      first | refine Zk ?_ | skip
      refine Zc<|Za rfl<|Zt rfl (KC) ?_
      intro tH5 H5 hH5 kH5
      have mH5:=kH5.1
      have hk:=hk.trans kH5
      have hs:=kH5.sl0 hs
      have hsn:=kH5.sl0 hsn
      cases tH5
      ·have thH5:inB days 1 366=false:=hH5
       have uhH5:=Wj thH5
       refine Zd (v:=.bool true) rfl rfl<|Za rfl<|Zl rfl<|Zl rfl<|Zl rfl<|Zd (v:=.bool true) rfl rfl<|Za rfl<|Zl rfl<|Zl rfl<|Zl rfl<|Zd (v:=.bool true) rfl rfl<|Zb<|ZT<|Zc<|Za rfl<|Za rfl<|Zb ?_
       exact And.intro trivial (Exists.intro _ (And.intro rfl ⟨_,by rw [W5 (by omega) hvn (by first | exact .inl (by assumption) | exact .inr (.inl (by assumption)) | exact .inr (.inr (.inl (by assumption))) | exact .inr (.inr (.inr (.inl (by assumption)))) | exact .inr (.inr (.inr (.inr (.inl (by assumption))))) | exact .inr (.inr (.inr (.inr (.inr (by assumption))))))];rfl,by rw [W5 (by omega) hvn (by first | exact .inl (by assumption) | exact .inr (.inl (by assumption)) | exact .inr (.inr (.inl (by assumption))) | exact .inr (.inr (.inr (.inl (by assumption)))) | exact .inr (.inr (.inr (.inr (.inl (by assumption))))) | exact .inr (.inr (.inr (.inr (.inr (by assumption))))))];exact .inl ⟨rfl,rfl,rfl⟩,hk⟩))
      ·have thH5:inB days 1 366=true:=hH5
       have uhH5:=XG thH5
       refine Zd (v:=.bool false) rfl rfl<|Za rfl ?_
       refine Zo rfl (Za rfl ?_)
       refine Zo rfl (Zt rfl (XD) ?_)
       intro tH6 H6 hH6 kH6
       have mH6:=kH6.1
       have hk:=hk.trans kH6
       have hs:=kH6.sl0 hs
       have hsn:=kH6.sl0 hsn
       cases tH6
       ·have thH6:inB frm 0 16384=false:=hH6
        have uhH6:=Wj thH6
        refine Zo rfl (Zd (v:=.bool true) rfl rfl ?_)
        refine Zd (v:=.bool true) rfl rfl<|Za rfl<|Zl rfl<|Zl rfl<|Zl rfl<|Zd (v:=.bool true) rfl rfl<|Zb<|ZT<|Zc<|Za rfl<|Za rfl<|Zb ?_
        exact And.intro trivial (Exists.intro _ (And.intro rfl ⟨_,by rw [W5 (by omega) hvn (by first | exact .inl (by assumption) | exact .inr (.inl (by assumption)) | exact .inr (.inr (.inl (by assumption))) | exact .inr (.inr (.inr (.inl (by assumption)))) | exact .inr (.inr (.inr (.inr (.inl (by assumption))))) | exact .inr (.inr (.inr (.inr (.inr (by assumption))))))];rfl,by rw [W5 (by omega) hvn (by first | exact .inl (by assumption) | exact .inr (.inl (by assumption)) | exact .inr (.inr (.inl (by assumption))) | exact .inr (.inr (.inr (.inl (by assumption)))) | exact .inr (.inr (.inr (.inr (.inl (by assumption))))) | exact .inr (.inr (.inr (.inr (.inr (by assumption))))))];exact .inl ⟨rfl,rfl,rfl⟩,hk⟩))
       ·have thH6:inB frm 0 16384=true:=hH6
        have uhH6:=XG thH6
        refine Zo rfl (Zd (v:=.bool false) rfl rfl ?_)
        refine Zd (v:=.bool false) rfl rfl<|Za rfl ?_
        refine Zo rfl (Za rfl ?_)
        refine Zo rfl (Zt rfl (XD) ?_)
        intro tH7 H7 hH7 kH7
        have mH7:=kH7.1
        have hk:=hk.trans kH7
        have hs:=kH7.sl0 hs
        have hsn:=kH7.sl0 hsn
        cases tH7
        ·have thH7:inB to_ 0 16384=false:=hH7
         have uhH7:=Wj thH7
         refine Zo rfl (Zd (v:=.bool true) rfl rfl ?_)
         refine Zd (v:=.bool true) rfl rfl<|Zb<|ZT<|Zc<|Za rfl<|Za rfl<|Zb ?_
         exact And.intro trivial (Exists.intro _ (And.intro rfl ⟨_,by rw [W5 (by omega) hvn (by first | exact .inl (by assumption) | exact .inr (.inl (by assumption)) | exact .inr (.inr (.inl (by assumption))) | exact .inr (.inr (.inr (.inl (by assumption)))) | exact .inr (.inr (.inr (.inr (.inl (by assumption))))) | exact .inr (.inr (.inr (.inr (.inr (by assumption))))))];rfl,by rw [W5 (by omega) hvn (by first | exact .inl (by assumption) | exact .inr (.inl (by assumption)) | exact .inr (.inr (.inl (by assumption))) | exact .inr (.inr (.inr (.inl (by assumption)))) | exact .inr (.inr (.inr (.inr (.inl (by assumption))))) | exact .inr (.inr (.inr (.inr (.inr (by assumption))))))];exact .inl ⟨rfl,rfl,rfl⟩,hk⟩))
        ·have thH7:inB to_ 0 16384=true:=hH7
         have uhH7:=XG thH7
         refine Zo rfl (Zd (v:=.bool false) rfl rfl ?_)
         refine Zd (v:=.bool false) rfl rfl<|Zb<|ZO ?_
         first | refine Zk ?_ | skip
         refine Zc<|Za rfl<|Za rfl<|Za rfl<|Za rfl<|Za rfl ?_
         obtain ⟨vo,H8,fH8,haccO,kH8⟩:=zw (kn:=kn) (lo:=lo) (H:=H7) (reach:=reach) (frm:=frm) (to_:=to_) hsn hln (by omega) hanyN (by omega) (by omega) (by omega)
         obtain ⟨oa,oc,rfl,hqo⟩:=Qu.of_acc haccO;have hqo:=hqo.mono (Nat.zero_le _);rw [Kw] at hqo
         refine Zj (vs:=[.slice na nn ncap,iv reach,iv frm,iv to_]) rfl (Zg fH8) ?_
         have mH8:=kH8.1
         have hk:=hk.trans kH8
         have hs:=kH8.sl0 hs
         have hsn:=kH8.sl0 hsn
         have hol:(op ns reach frm (to_+1 - frm).toNat).length≤16385:=by rw [← Kw];exact Nat.le_trans K4 (by omega)
         rw [Kw]
         refine Za rfl<|Za rfl ?_
         obtain ⟨ve,pl,ee,H9,fH9,hse0,hacc,kH9⟩:=zr (kn:=kn) (lo:=lo) (H:=H8) hs hl (by omega) hqo rfl (by omega) (fun D hD=>by have:=qE hD;omega) ZaM (fun l hl2=>by have:=Qp hvi l hl2;simp only [Wi,Bool.not_eq_false'] at this;exact XG this) (days:=days) (limit:=limit) (by omega) (by omega) (by omega)
         refine Zj (vs:=[.slice la n lcap,.slice oa ((op ns reach frm (to_+1 - frm).toNat).length) oc,iv days,iv limit]) rfl (Zg fH9) ?_
         have mH9:=kH9.1
         have hk:=hk.trans kH9
         have hs:=kH9.sl0 hs
         have hsn:=kH9.sl0 hsn
         have hqo:=hqo.keep kH9 (fun x hx=>by simp)
         have hse:seT loads ns reach days limit frm to_=(pl,ee):=(Zdj (by omega) hvn hvi (by assumption) (by assumption) (by assumption) (by assumption) (by assumption)).trans hse0
         have hacc:=hacc.lowf (f':=H.next) (by omega)
         refine Zd (v:=ve) rfl (by kernel_rfl)<|Zd (v:=iv ee) rfl (by kernel_rfl)<|Za rfl<|Za rfl<|Zb ?_
         exact And.intro trivial (Exists.intro _ (And.intro rfl ⟨_,by rw [hse];rfl,by rw [hse];exact hacc,hk⟩))
set_option maxRecDepth 100000 in
theorem jz {xs:List Int} {a1 a2:Option Addr} {n c1 c2:Nat} (ha:Sl H a1 n c1 (cI xs)) (hb:Sl H a2 n c2 (cI xs)) (hl:xs.length=n) (hn:n≤1000000) (hlo:lo≤H.next):∃ H',FnX Try.prog kn lo 24 [.slice a1 n c1,.slice a2 n c2] H (.bool true) H'∧Zi H H' []:=by
 have key:=Zp (kn:=kn) (lo:=lo) (H:=H) (args:=[.slice a1 n c1,.slice a2 n c2]) (Q:=fun w H'=>w=(.bool true)∧Zi H H' []) Try.func24 B24 N24 Z24 L24 (by simp) ?_
 ·obtain ⟨w,H',h,rfl,q⟩:=key;exact ⟨H',h,q⟩
 have hk:=Zi.refl H []
 have fa:=ha.old
 have fb:=hb.old
 refine Zc<|Za rfl<|Zb<|Zc<|Za rfl<|Yx (m:=n) rfl<|Za rfl<|Yx (m:=n) rfl<|Jl (a:=(n:Int)) (b:=(n:Int)) rfl rfl<|Zb ?_
 refine And.intro (fun q1=>?_) (fun q1=>?_)
 ·have q1:(n:Int)≠(n:Int):=by simpa using q1
  omega
 ·have q1:¬ ((n:Int)≠(n:Int)):=by simpa using q1
  first | refine Zk ?_ | skip
  refine Zc<|Za rfl<|Zb ?_
  refine ZA (fn:=Try.f24) Zdu N24 Zec (fun i:Nat=>[(0,.slice a1 n c1),(1,.slice a2 n c2),(5,iv (i:Int))])
   (fun k i H'=>i+k=n∧Zi H H' []∧Sl H' a1 n c1 (cI xs)∧Sl H' a2 n c2 (cI xs)) n 0 ⟨by omega,hk,ha,hb⟩ ⟨rfl,rfl,rfl,trivial⟩ ?_
  rintro k i L1 ⟨hik,hk,ha,hb⟩
  have mk:=hk.1
  refine Zc<|Za rfl<|Za rfl<|Yx (m:=n) rfl<|ZC (a:=(i:Int)) (b:=(n:Int)) rfl rfl<|Zb ?_
  refine And.intro (fun q2=>?_) (fun q2=>?_)
  ·have q2:(i:Int) < (n:Int):=of_decide_eq_true q2
   have hi:i < n:=by omega
   rcases id ha with ⟨_,h0s,_⟩ | ⟨sb,es,rs,_⟩
   ·omega
   have ls:=rs.1
   rcases id hb with ⟨_,h0t,_⟩ | ⟨tb,et,rt,_⟩
   ·omega
   have lt:=rt.1
   have lsb2:=fa sb es;have ltb2:=fb tb et
   first | refine Zk ?_ | skip
   refine Yg<|Zf rfl<|Zf rfl<|ZB (b:=sb) (o:=0) (k:=i) (j:=(i:Int)) (by rw [← es];rfl) rfl rfl hi<|ZI (b:=sb) (o:=0+i * 1) (v:=iv (xs.getD i 0)) rfl rs (zT (by omega))<|Zf rfl<|Zf rfl<|ZB (b:=tb) (o:=0) (k:=i) (j:=(i:Int)) (by rw [← et];rfl) rfl rfl hi<|ZI (b:=tb) (o:=0+i * 1) (v:=iv (xs.getD i 0)) rfl rt (zT (by omega))<|ZaR (a:=(xs.getD i 0)) (b:=(xs.getD i 0)) rfl rfl ?_
   refine ZL (by repeat' first | exact True.intro | exact (fun h=>h) | refine And.intro ?_ ?_ | (intro h;have h:(_:Nat)=_:=h;omega)) ?_
   refine And.intro (fun q3=>?_) (fun q3=>?_)
   ·have q3:(xs.getD i 0)≠(xs.getD i 0):=by simpa using q3
    omega
   ·have q3:¬ ((xs.getD i 0)≠(xs.getD i 0)):=by simpa using q3
    first | refine Zk ?_ | skip
    show Zn _ _ _ _ _ _ _ _
    refine Za rfl<|Zw (a:=(i:Int)) (b:=1) rfl rfl ⟨by omega,by omega⟩<|Za rfl<|Zb ?_
    exact ⟨k - 1,i+1,by omega,⟨by omega,hk,ha,hb⟩,rfl,rfl,ivq (by omega),trivial⟩
  ·have q2:¬ ((i:Int) < (n:Int)):=of_decide_eq_false q2
   first | (refine ZF ?_;show wC _ _ _ _ _ _ _ _ _) | skip
   refine Zc<|Za rfl<|Zb ?_
   exact And.intro trivial (Exists.intro _ (And.intro rfl ⟨rfl,hk⟩))
end
end
end Go.Ax

/-
 Pool: the examples of the document (written by program).
-/
namespace Go.Ax
open Go Go.RowKit Go.Proofs

noncomputable section
def smp:List Dc:=[⟨10,1000,1200,50,60⟩,⟨12,500,500,100,100⟩,⟨15,2000,2000,30,40⟩]
theorem Zcy:paT smp 6 150000=(15,15,0):=by kernel_rfl
theorem ZcG:alT smp 6 250000 13=(48000,0):=by kernel_rfl
theorem ZcO:mxT ⟨1000,2000,10000,11000⟩ ⟨500,500,20000,20000⟩=((12000,14000),0):=by kernel_rfl
theorem Zcs:moT ⟨1000,2000,10000,11000⟩ 20000 20000 13000=(285,0):=by kernel_rfl
theorem Zc7:seT [60,60,60] [⟨4,8,9⟩] 4 3 100 5 20=([5,10,13],0):=by kernel_rfl
theorem Zc8:baT ⟨1000,1100,500,500,200,300,40,50,10,12⟩=((600,1000),(400,600),0):=by kernel_rfl
section
variable {kn:Kn} {lo:Nat} {H:Hp}
set_option maxRecDepth 100000 in
theorem Ym {a b:Int} (hlo:lo≤H.next):∃ H',FnX Try.prog kn lo 31 [iv a,iv b] H (.agg #[iv a,iv b]) H'∧Zi H H' []:=by
 have key:=Zp (kn:=kn) (lo:=lo) (H:=H) (args:=[iv a,iv b]) (Q:=fun w H'=>w=(.agg #[iv a,iv b])∧Zi H H' []) Try.func31 B31 N31 Z31 L31 (by simp) ?_
 ·obtain ⟨w,H',h,rfl,q⟩:=key;exact ⟨H',h,q⟩
 have hk:=Zi.refl H []
 refine Zc<|ZY ?_
 intro H1 kH1 nH1 c1
 have c1:Cl H1 H.next [iv 0,iv 0]:=c1
 have mH1:=kH1.1
 have hk:=hk.trans kH1
 refine Zb<|Zc<|Za rfl<|Za rfl<|Zd (v:=.agg #[iv a,iv b]) rfl (by kernel_rfl)<|ZH (b:=H.next) (o:=0) rfl rfl c1 (by omega) rfl rfl (by simp) ?_
 intro H2 kH2 nH2 sH2
 have mH2:=kH2.1
 have hk:=hk.new kH2 (fun b hb=>by simp at hb ⊢;omega)
 have c1:Cl H2 H.next [iv a,iv b]:=sH2
 refine Zb ?_
 exact And.intro trivial (Exists.intro _ (And.intro (QF rfl a31 W8 rfl c1) ⟨rfl,hk⟩))
theorem J1 (hlo:lo≤H.next):∃ b H',FnX Try.prog kn lo 30 [] H (.slice (some ⟨b,0,none⟩) 3 3) H'∧Zi H H' []∧H.next≤b∧Rd H' b (dcc smp):=by
 have key:=Zp (kn:=kn) (lo:=lo) (H:=H) (args:=[]) (Q:=fun w H'=>∃ b,w=.slice (some ⟨b,0,none⟩) 3 3∧Zi H H' []∧H.next≤b∧Rd H' b (dcc smp)) Try.func30 B30 N30 Z30 L30 (by simp) ?_
 ·obtain ⟨w,H',h,b,rfl,q⟩:=key;exact ⟨b,H',h,q⟩
 have hk:=Zi.refl H []
 refine Zc<|Za rfl<|Zb<|Zc ?_
 obtain ⟨H1,fH1,kH1⟩:=Ym (kn:=kn) (lo:=lo) (H:=H) (a:=1000) (b:=1200) (by omega)
 refine Zj (vs:=[iv 1000,iv 1200]) rfl (Zg fH1) ?_
 have mH1:=kH1.1
 have hk:=hk.trans kH1
 obtain ⟨H2,fH2,kH2⟩:=Ym (kn:=kn) (lo:=lo) (H:=H1) (a:=50) (b:=60) (by omega)
 refine Zj (vs:=[iv 50,iv 60]) rfl (Zg fH2) ?_
 have mH2:=kH2.1
 have hk:=hk.trans kH2
 refine Zd (v:=.agg #[iv 10,iv 1000,iv 1200,iv 50,iv 60]) rfl (by kernel_rfl) ?_
 obtain ⟨H3,fH3,kH3⟩:=Ym (kn:=kn) (lo:=lo) (H:=H2) (a:=500) (b:=500) (by omega)
 refine Zj (vs:=[iv 500,iv 500]) rfl (Zg fH3) ?_
 have mH3:=kH3.1
 have hk:=hk.trans kH3
 obtain ⟨H4,fH4,kH4⟩:=Ym (kn:=kn) (lo:=lo) (H:=H3) (a:=100) (b:=100) (by omega)
 refine Zj (vs:=[iv 100,iv 100]) rfl (Zg fH4) ?_
 have mH4:=kH4.1
 have hk:=hk.trans kH4
 refine Zd (v:=.agg #[iv 12,iv 500,iv 500,iv 100,iv 100]) rfl (by kernel_rfl) ?_
 obtain ⟨H5,fH5,kH5⟩:=Ym (kn:=kn) (lo:=lo) (H:=H4) (a:=2000) (b:=2000) (by omega)
 refine Zj (vs:=[iv 2000,iv 2000]) rfl (Zg fH5) ?_
 have mH5:=kH5.1
 have hk:=hk.trans kH5
 obtain ⟨H6,fH6,kH6⟩:=Ym (kn:=kn) (lo:=lo) (H:=H5) (a:=30) (b:=40) (by omega)
 refine Zj (vs:=[iv 30,iv 40]) rfl (Zg fH6) ?_
 have mH6:=kH6.1
 have hk:=hk.trans kH6
 refine Zd (v:=.agg #[iv 15,iv 2000,iv 2000,iv 30,iv 40]) rfl (by kernel_rfl) ?_
 obtain ⟨H7,hH7⟩:∃ H7,H6.new (.cells [iv 10,iv 1000,iv 1200,iv 50,iv 60,iv 12,iv 500,iv 500,iv 100,iv 100,iv 15,iv 2000,iv 2000,iv 30,iv 40] 52 false)=H7:=⟨_,rfl⟩
 refine Yz (H':=H7) (k:=.heavy) rfl (by kernel_rfl) ((Zab (a:=⟨10,1000,1200,50,60⟩) (b:=⟨12,500,500,100,100⟩) (c:=⟨15,2000,2000,30,40⟩) rfl rfl rfl).trans (by first | (rw [← hH7];done) | (rw [← hH7];rfl))) (fun b e=>by cases e) ?_
 obtain ⟨kH7,nH7,c7⟩:=Z7 hH7;clear hH7
 have c7:Cl H7 H6.next [iv 10,iv 1000,iv 1200,iv 50,iv 60,iv 12,iv 500,iv 500,iv 100,iv 100,iv 15,iv 2000,iv 2000,iv 30,iv 40]:=c7
 have mH7:=kH7.1
 have hk:=hk.trans kH7
 refine Za rfl<|Zb ?_
 exact And.intro trivial (Exists.intro _ (And.intro rfl ⟨H6.next,rfl,hk,by omega,c7.rd⟩))
set_option maxHeartbeats 4000000 in
set_option maxRecDepth 100000 in
theorem jN (hkn:∀ f,kn.b f=none) (hlo:lo≤H.next):∃ H',FnX Try.prog kn lo 11 [] H (.bool true) H'∧Zi H H' []:=by
 have key:=Zp (kn:=kn) (lo:=lo) (H:=H) (args:=[]) (Q:=fun w H'=>w=(.bool true)∧Zi H H' []) Try.func11 B11 N11 Z11 L11 (by simp) ?_
 ·obtain ⟨w,H',h,rfl,q⟩:=key;exact ⟨H',h,q⟩
 have hk:=Zi.refl H []
 refine Zc<|Za rfl<|Zb<|Zc ?_
 obtain ⟨bz2,H1,fH1,kH1,hbz2,rdz2⟩:=J1 (kn:=kn) (lo:=lo) (H:=H) (by omega)
 refine Zj (vs:=[]) rfl (YV (hkn 30) fH1) ?_
 have mH1:=kH1.1
 have hk:=hk.trans kH1
 have slz2:Sl H1 (some ⟨bz2,0,none⟩) 3 3 (dcc smp):=.inr ⟨bz2,rfl,rdz2,Nat.le_refl _⟩;have fsz2:=slz2.old
 obtain ⟨H3,fH3,kH3⟩:=jh (kn:=kn) (lo:=lo) (H:=H1) slz2 rfl (by omega) (by omega) (hkn 35) (days:=6) (limit:=150000)
 rw [Zcy] at fH3
 refine Zj (vs:=[.slice (some ⟨bz2,0,none⟩) 3 3,iv 6,iv 150000]) rfl (Zg fH3) ?_
 have mH3:=kH3.1
 have hk:=hk.trans kH3
 have slz2:=kH3.sl0 slz2
 refine Za rfl<|Zd (v:=iv 15) rfl (by kernel_rfl)<|Zd (v:=iv 15) rfl (by kernel_rfl)<|Zd (v:=iv 0) rfl (by kernel_rfl)<|Za rfl<|Za rfl<|Za rfl<|Zb<|Zc ?_
 obtain ⟨bz5,H4,fH4,kH4,hbz5,rdz5⟩:=J1 (kn:=kn) (lo:=lo) (H:=H3) (by omega)
 refine Zj (vs:=[]) rfl (YV (hkn 30) fH4) ?_
 have mH4:=kH4.1
 have hk:=hk.trans kH4
 have slz2:=kH4.sl0 slz2
 have slz5:Sl H4 (some ⟨bz5,0,none⟩) 3 3 (dcc smp):=.inr ⟨bz5,rfl,rdz5,Nat.le_refl _⟩;have fsz5:=slz5.old
 obtain ⟨H6,fH6,kH6⟩:=Zaf (kn:=kn) (lo:=lo) (H:=H4) slz5 rfl (by omega) (by omega) (hkn 35) (days:=6) (limit:=250000) (day:=13)
 rw [ZcG] at fH6
 refine Zj (vs:=[.slice (some ⟨bz5,0,none⟩) 3 3,iv 6,iv 250000,iv 13]) rfl (Zg fH6) ?_
 have mH6:=kH6.1
 have hk:=hk.trans kH6
 have slz2:=kH6.sl0 slz2
 have slz5:=kH6.sl0 slz5
 refine Za rfl<|Zd (v:=iv 48000) rfl (by kernel_rfl)<|Zd (v:=iv 0) rfl (by kernel_rfl)<|Za rfl<|Za rfl<|Zb<|Zc ?_
 obtain ⟨H7,fH7,kH7⟩:=Ym (kn:=kn) (lo:=lo) (H:=H6) (a:=1000) (b:=2000) (by omega)
 refine Zj (vs:=[iv 1000,iv 2000]) rfl (Zg fH7) ?_
 have mH7:=kH7.1
 have hk:=hk.trans kH7
 have slz2:=kH7.sl0 slz2
 have slz5:=kH7.sl0 slz5
 obtain ⟨H8,fH8,kH8⟩:=Ym (kn:=kn) (lo:=lo) (H:=H7) (a:=10000) (b:=11000) (by omega)
 refine Zj (vs:=[iv 10000,iv 11000]) rfl (Zg fH8) ?_
 have mH8:=kH8.1
 have hk:=hk.trans kH8
 have slz2:=kH8.sl0 slz2
 have slz5:=kH8.sl0 slz5
 refine Zd (v:=.agg #[iv 1000,iv 2000,iv 10000,iv 11000]) rfl (by kernel_rfl) ?_
 obtain ⟨H9,fH9,kH9⟩:=Ym (kn:=kn) (lo:=lo) (H:=H8) (a:=500) (b:=500) (by omega)
 refine Zj (vs:=[iv 500,iv 500]) rfl (Zg fH9) ?_
 have mH9:=kH9.1
 have hk:=hk.trans kH9
 have slz2:=kH9.sl0 slz2
 have slz5:=kH9.sl0 slz5
 obtain ⟨H10,fH10,kH10⟩:=Ym (kn:=kn) (lo:=lo) (H:=H9) (a:=20000) (b:=20000) (by omega)
 refine Zj (vs:=[iv 20000,iv 20000]) rfl (Zg fH10) ?_
 have mH10:=kH10.1
 have hk:=hk.trans kH10
 have slz2:=kH10.sl0 slz2
 have slz5:=kH10.sl0 slz5
 refine Zd (v:=.agg #[iv 500,iv 500,iv 20000,iv 20000]) rfl (by kernel_rfl) ?_
 obtain ⟨H11,fH11,kH11⟩:=ZaV (kn:=kn) (lo:=lo) (H:=H10) (hkn 35) (a:=(⟨1000,2000,10000,11000⟩:Fw)) (b:=(⟨500,500,20000,20000⟩:Fw)) (by omega)
 rw [ZcO] at fH11
 refine Zj (vs:=[.agg (Fw.f (⟨1000,2000,10000,11000⟩:Fw)).toArray,.agg (Fw.f (⟨500,500,20000,20000⟩:Fw)).toArray]) rfl (Zg fH11) ?_
 have mH11:=kH11.1
 have hk:=hk.trans kH11
 have slz2:=kH11.sl0 slz2
 have slz5:=kH11.sl0 slz5
 refine Za rfl<|Zd (v:=.agg #[iv 12000,iv 14000]) rfl (by kernel_rfl)<|Zd (v:=iv 0) rfl (by kernel_rfl)<|ZY ?_
 intro H12 kH12 nH12 c12
 have c12:Cl H12 H11.next [iv 0,iv 0]:=c12
 have mH12:=kH12.1
 have hk:=hk.trans kH12
 have slz2:=kH12.sl0 slz2
 have slz5:=kH12.sl0 slz5
 refine ZH (b:=H11.next) (o:=0) rfl rfl c12 (by omega) rfl rfl (by simp) ?_
 intro H13 kH13 nH13 sH13
 have mH13:=kH13.1
 have hk:=hk.new kH13 (fun b hb=>by simp at hb ⊢;omega)
 have slz2:=kH13.sl slz2 (fun b e=>by have:=fsz2 b e;first | (simp;done) | (simp;omega))
 have slz5:=kH13.sl slz5 (fun b e=>by have:=fsz5 b e;first | (simp;done) | (simp;omega))
 have c12:Cl H13 H11.next [iv 12000,iv 14000]:=sH13
 refine Za rfl<|Zb<|Zc ?_
 obtain ⟨H14,fH14,kH14⟩:=Ym (kn:=kn) (lo:=lo) (H:=H13) (a:=1000) (b:=2000) (by omega)
 refine Zj (vs:=[iv 1000,iv 2000]) rfl (Zg fH14) ?_
 have mH14:=kH14.1
 have hk:=hk.trans kH14
 have slz2:=kH14.sl0 slz2
 have slz5:=kH14.sl0 slz5
 have c12:=kH14.cl c12 (by simp)
 obtain ⟨H15,fH15,kH15⟩:=Ym (kn:=kn) (lo:=lo) (H:=H14) (a:=10000) (b:=11000) (by omega)
 refine Zj (vs:=[iv 10000,iv 11000]) rfl (Zg fH15) ?_
 have mH15:=kH15.1
 have hk:=hk.trans kH15
 have slz2:=kH15.sl0 slz2
 have slz5:=kH15.sl0 slz5
 have c12:=kH15.cl c12 (by simp)
 refine Zd (v:=.agg #[iv 1000,iv 2000,iv 10000,iv 11000]) rfl (by kernel_rfl) ?_
 obtain ⟨H16,fH16,kH16⟩:=Ym (kn:=kn) (lo:=lo) (H:=H15) (a:=20000) (b:=20000) (by omega)
 refine Zj (vs:=[iv 20000,iv 20000]) rfl (Zg fH16) ?_
 have mH16:=kH16.1
 have hk:=hk.trans kH16
 have slz2:=kH16.sl0 slz2
 have slz5:=kH16.sl0 slz5
 have c12:=kH16.cl c12 (by simp)
 obtain ⟨H17,fH17,kH17⟩:=qS (kn:=kn) (lo:=lo) (H:=H16) (a:=(⟨1000,2000,10000,11000⟩:Fw)) (l:=20000) (h:=20000) (limit:=13000) (by omega)
 rw [Zcs] at fH17
 refine Zj (vs:=[.agg (Fw.f (⟨1000,2000,10000,11000⟩:Fw)).toArray,.agg #[iv 20000,iv 20000],iv 13000]) rfl (Zg fH17) ?_
 have mH17:=kH17.1
 have hk:=hk.trans kH17
 have slz2:=kH17.sl0 slz2
 have slz5:=kH17.sl0 slz5
 have c12:=kH17.cl c12 (by simp)
 refine Za rfl<|Zd (v:=iv 285) rfl (by kernel_rfl)<|Zd (v:=iv 0) rfl (by kernel_rfl)<|Za rfl<|Za rfl<|Zb<|Zc ?_
 obtain ⟨H18,hH18⟩:∃ H18,H17.new (.cells [iv 60,iv 60,iv 60] 3 false)=H18:=⟨_,rfl⟩
 refine Yz (H':=H18) (k:=.heavy) rfl (by kernel_rfl) ((zm (a:=60) (b:=60) (c:=60) rfl rfl rfl).trans (by first | (rw [← hH18];done) | (rw [← hH18];rfl))) (fun b e=>by cases e) ?_
 obtain ⟨kH18,nH18,c18⟩:=Z7 hH18;clear hH18
 have c18:Cl H18 H17.next [iv 60,iv 60,iv 60]:=c18
 have mH18:=kH18.1
 have hk:=hk.trans kH18
 have slz2:=kH18.sl0 slz2
 have slz5:=kH18.sl0 slz5
 have c12:=kH18.cl c12 (by simp)
 refine Zd (v:=.agg #[iv 4,iv 8,iv 9]) rfl (by kernel_rfl) ?_
 obtain ⟨H19,hH19⟩:∃ H19,H18.new (.cells [iv 4,iv 8,iv 9] 68 false)=H19:=⟨_,rfl⟩
 refine Yz (H':=H19) (k:=.heavy) rfl (by kernel_rfl) ((Xq (v:=.agg #[iv 4,iv 8,iv 9]) ZeF ZeH rfl rfl rfl (by decide)).trans (by rw [← hH19];rfl)) (fun b e=>by cases e) ?_
 obtain ⟨kH19,nH19,c19⟩:=Z7 hH19;clear hH19
 have c19:Cl H19 H18.next [iv 4,iv 8,iv 9]:=c19
 have mH19:=kH19.1
 have hk:=hk.trans kH19
 have slz2:=kH19.sl0 slz2
 have slz5:=kH19.sl0 slz5
 have c12:=kH19.cl c12 (by simp)
 have c18:=kH19.cl c18 (by simp)
 obtain ⟨vs_,H20,fH20,hacs,kH20⟩:=zk (kn:=kn) (lo:=lo) (H:=H19) (loads:=[60,60,60]) (la:=some ⟨H17.next,0,none⟩) (n:=3) (lcap:=3) (c18.sl (Nat.le_refl 3)) rfl (by omega) (ns:=[⟨4,8,9⟩]) (na:=some ⟨H18.next,0,none⟩) (nn:=1) (ncap:=1) (c19.sl (Nat.le_refl 1)) rfl (by omega) (reach:=4) (days:=3) (limit:=100) (frm:=5) (to_:=20) (hkn 35) (by omega)
 rw [Zc7] at fH20 hacs
 refine Zj (vs:=[.slice (some ⟨H17.next,0,none⟩) 3 3,.slice (some ⟨H18.next,0,none⟩) 1 1,iv 4,iv 3,iv 100,iv 5,iv 20]) rfl (Zg fH20) ?_
 have mH20:=kH20.1
 have hk:=hk.trans kH20
 have slz2:=kH20.sl0 slz2
 have slz5:=kH20.sl0 slz5
 have c12:=kH20.cl c12 (by simp)
 have c18:=kH20.cl c18 (by simp)
 have c19:=kH20.cl c19 (by simp)
 obtain ⟨sa_,sc_,rfl,hsc,_⟩:=hacs.sl;have fsc:=hsc.old
 refine Za rfl<|Zd (v:=.slice sa_ 3 sc_) rfl (by kernel_rfl)<|Zd (v:=iv 0) rfl (by kernel_rfl)<|Za rfl<|Za rfl<|Zb<|Zc ?_
 obtain ⟨H21,fH21,kH21⟩:=Ym (kn:=kn) (lo:=lo) (H:=H20) (a:=1000) (b:=1100) (by omega)
 refine Zj (vs:=[iv 1000,iv 1100]) rfl (Zg fH21) ?_
 have mH21:=kH21.1
 have hk:=hk.trans kH21
 have slz2:=kH21.sl0 slz2
 have slz5:=kH21.sl0 slz5
 have c12:=kH21.cl c12 (by simp)
 have c18:=kH21.cl c18 (by simp)
 have c19:=kH21.cl c19 (by simp)
 have hsc:=kH21.sl0 hsc
 obtain ⟨H22,fH22,kH22⟩:=Ym (kn:=kn) (lo:=lo) (H:=H21) (a:=500) (b:=500) (by omega)
 refine Zj (vs:=[iv 500,iv 500]) rfl (Zg fH22) ?_
 have mH22:=kH22.1
 have hk:=hk.trans kH22
 have slz2:=kH22.sl0 slz2
 have slz5:=kH22.sl0 slz5
 have c12:=kH22.cl c12 (by simp)
 have c18:=kH22.cl c18 (by simp)
 have c19:=kH22.cl c19 (by simp)
 have hsc:=kH22.sl0 hsc
 obtain ⟨H23,fH23,kH23⟩:=Ym (kn:=kn) (lo:=lo) (H:=H22) (a:=200) (b:=300) (by omega)
 refine Zj (vs:=[iv 200,iv 300]) rfl (Zg fH23) ?_
 have mH23:=kH23.1
 have hk:=hk.trans kH23
 have slz2:=kH23.sl0 slz2
 have slz5:=kH23.sl0 slz5
 have c12:=kH23.cl c12 (by simp)
 have c18:=kH23.cl c18 (by simp)
 have c19:=kH23.cl c19 (by simp)
 have hsc:=kH23.sl0 hsc
 obtain ⟨H24,fH24,kH24⟩:=Ym (kn:=kn) (lo:=lo) (H:=H23) (a:=40) (b:=50) (by omega)
 refine Zj (vs:=[iv 40,iv 50]) rfl (Zg fH24) ?_
 have mH24:=kH24.1
 have hk:=hk.trans kH24
 have slz2:=kH24.sl0 slz2
 have slz5:=kH24.sl0 slz5
 have c12:=kH24.cl c12 (by simp)
 have c18:=kH24.cl c18 (by simp)
 have c19:=kH24.cl c19 (by simp)
 have hsc:=kH24.sl0 hsc
 obtain ⟨H25,fH25,kH25⟩:=Ym (kn:=kn) (lo:=lo) (H:=H24) (a:=10) (b:=12) (by omega)
 refine Zj (vs:=[iv 10,iv 12]) rfl (Zg fH25) ?_
 have mH25:=kH25.1
 have hk:=hk.trans kH25
 have slz2:=kH25.sl0 slz2
 have slz5:=kH25.sl0 slz5
 have c12:=kH25.cl c12 (by simp)
 have c18:=kH25.cl c18 (by simp)
 have c19:=kH25.cl c19 (by simp)
 have hsc:=kH25.sl0 hsc
 refine Zd (v:=.agg #[iv 1000,iv 1100,iv 500,iv 500,iv 200,iv 300,iv 40,iv 50,iv 10,iv 12]) rfl (by kernel_rfl) ?_
 obtain ⟨H26,fH26,kH26⟩:=QC (kn:=kn) (lo:=lo) (H:=H25) (hkn 35) (x:=(⟨1000,1100,500,500,200,300,40,50,10,12⟩:Ph)) (by omega)
 rw [Zc8] at fH26
 refine Zj (vs:=[.agg (Ph.f (⟨1000,1100,500,500,200,300,40,50,10,12⟩:Ph)).toArray]) rfl (Zg fH26) ?_
 have mH26:=kH26.1
 have hk:=hk.trans kH26
 have slz2:=kH26.sl0 slz2
 have slz5:=kH26.sl0 slz5
 have c12:=kH26.cl c12 (by simp)
 have c18:=kH26.cl c18 (by simp)
 have c19:=kH26.cl c19 (by simp)
 have hsc:=kH26.sl0 hsc
 refine Za rfl<|Zd (v:=.agg #[iv 600,iv 1000]) rfl (by kernel_rfl)<|Zd (v:=.agg #[iv 400,iv 600]) rfl (by kernel_rfl)<|Zd (v:=iv 0) rfl (by kernel_rfl)<|ZY ?_
 intro H27 kH27 nH27 c27
 have c27:Cl H27 H26.next [iv 0,iv 0]:=c27
 have mH27:=kH27.1
 have hk:=hk.trans kH27
 have slz2:=kH27.sl0 slz2
 have slz5:=kH27.sl0 slz5
 have c12:=kH27.cl c12 (by simp)
 have c18:=kH27.cl c18 (by simp)
 have c19:=kH27.cl c19 (by simp)
 have hsc:=kH27.sl0 hsc
 refine ZY ?_
 intro H28 kH28 nH28 c28
 have c28:Cl H28 H27.next [iv 0,iv 0]:=c28
 have mH28:=kH28.1
 have hk:=hk.trans kH28
 have slz2:=kH28.sl0 slz2
 have slz5:=kH28.sl0 slz5
 have c12:=kH28.cl c12 (by simp)
 have c18:=kH28.cl c18 (by simp)
 have c19:=kH28.cl c19 (by simp)
 have hsc:=kH28.sl0 hsc
 have c27:=kH28.cl c27 (by simp)
 refine ZH (b:=H26.next) (o:=0) rfl rfl c27 (by omega) rfl rfl (by simp) ?_
 intro H29 kH29 nH29 sH29
 have mH29:=kH29.1
 have hk:=hk.new kH29 (fun b hb=>by simp at hb ⊢;omega)
 have slz2:=kH29.sl slz2 (fun b e=>by have:=fsz2 b e;first | (simp;done) | (simp;omega))
 have slz5:=kH29.sl slz5 (fun b e=>by have:=fsz5 b e;first | (simp;done) | (simp;omega))
 have c12:=kH29.cl c12 (by first | (simp;done) | (simp;omega))
 have c18:=kH29.cl c18 (by first | (simp;done) | (simp;omega))
 have c19:=kH29.cl c19 (by first | (simp;done) | (simp;omega))
 have hsc:=kH29.sl hsc (fun b e=>by have:=fsc b e;first | (simp;done) | (simp;omega))
 have c28:=kH29.cl c28 (by first | (simp;done) | (simp;omega))
 have c27:Cl H29 H26.next [iv 600,iv 1000]:=sH29
 refine ZH (b:=H27.next) (o:=0) rfl rfl c28 (by omega) rfl rfl (by simp) ?_
 intro H30 kH30 nH30 sH30
 have mH30:=kH30.1
 have hk:=hk.new kH30 (fun b hb=>by simp at hb ⊢;omega)
 have slz2:=kH30.sl slz2 (fun b e=>by have:=fsz2 b e;first | (simp;done) | (simp;omega))
 have slz5:=kH30.sl slz5 (fun b e=>by have:=fsz5 b e;first | (simp;done) | (simp;omega))
 have c12:=kH30.cl c12 (by first | (simp;done) | (simp;omega))
 have c18:=kH30.cl c18 (by first | (simp;done) | (simp;omega))
 have c19:=kH30.cl c19 (by first | (simp;done) | (simp;omega))
 have hsc:=kH30.sl hsc (fun b e=>by have:=fsc b e;first | (simp;done) | (simp;omega))
 have c27:=kH30.cl c27 (by first | (simp;done) | (simp;omega))
 have c28:Cl H30 H27.next [iv 400,iv 600]:=sH30
 refine Za rfl<|Zb<|Yg<|Zf rfl<|XS (a:=15) (b:=15) rfl rfl ?_
 intro t1 g1;obtain rfl:t1=false:=by rw [← g1];rfl
 refine Zf rfl ?_
 refine Yq rfl (Zf rfl ?_)
 refine Yq rfl (XS (a:=15) (b:=15) rfl rfl ?_)
 intro t2 g2;obtain rfl:t2=false:=by rw [← g2];rfl
 refine Yt (v:=.bool false) rfl rfl<|Zf rfl ?_
 refine Yq rfl (Zf rfl ?_)
 refine Yq rfl (XS (a:=0) (b:=0) rfl rfl ?_)
 intro t3 g3;obtain rfl:t3=false:=by rw [← g3];rfl
 refine Yt (v:=.bool false) rfl rfl<|Zf rfl ?_
 refine Yq rfl (Zf rfl ?_)
 refine Yq rfl (XS (a:=48000) (b:=48000) rfl rfl ?_)
 intro t4 g4;obtain rfl:t4=false:=by rw [← g4];rfl
 refine Yt (v:=.bool false) rfl rfl<|Zf rfl ?_
 refine Yq rfl (Zf rfl ?_)
 refine Yq rfl (XS (a:=0) (b:=0) rfl rfl ?_)
 intro t5 g5;obtain rfl:t5=false:=by rw [← g5];rfl
 refine Yt (v:=.bool false) rfl rfl<|Zf rfl ?_
 refine Yq rfl (ZP (b:=H11.next) (o:=0) rfl c12.rd (show row 2 _ _=some [iv 12000,iv 14000] from rfl) ?_)
 obtain ⟨H31,fH31,kH31⟩:=Ym (kn:=kn) (lo:=H30.next) (H:=H30) (a:=12000) (b:=14000) (Nat.le_refl _)
 refine Yq rfl (YJ (vs:=[iv 12000,iv 14000]) rfl rfl (Zg fH31) ?_)
 have mH31:=kH31.1
 have hk:=hk.trans kH31
 have slz2:=kH31.sl0 slz2
 have slz5:=kH31.sl0 slz5
 have c12:=kH31.cl c12 (by simp)
 have c18:=kH31.cl c18 (by simp)
 have c19:=kH31.cl c19 (by simp)
 have hsc:=kH31.sl0 hsc
 have c27:=kH31.cl c27 (by simp)
 have c28:=kH31.cl c28 (by simp)
 refine Yq rfl (Yt (v:=.bool false) rfl (by kernel_rfl) ?_)
 refine Yt (v:=.bool false) rfl rfl<|Zf rfl ?_
 refine Yq rfl (Zf rfl ?_)
 refine Yq rfl (XS (a:=0) (b:=0) rfl rfl ?_)
 intro t6 g6;obtain rfl:t6=false:=by rw [← g6];rfl
 refine Yt (v:=.bool false) rfl rfl<|Zf rfl ?_
 refine Yq rfl (Zf rfl ?_)
 refine Yq rfl (XS (a:=285) (b:=285) rfl rfl ?_)
 intro t7 g7;obtain rfl:t7=false:=by rw [← g7];rfl
 refine Yt (v:=.bool false) rfl rfl<|Zf rfl ?_
 refine Yq rfl (Zf rfl ?_)
 refine Yq rfl (XS (a:=0) (b:=0) rfl rfl ?_)
 intro t8 g8;obtain rfl:t8=false:=by rw [← g8];rfl
 refine Yt (v:=.bool false) rfl rfl ?_
 refine ZL (by repeat' first | exact True.intro | exact (fun h=>h) | refine And.intro ?_ ?_ | (intro h;have h:(_:Nat)=_:=h;omega)) ?_
 refine ZO ?_
 first | refine Zk ?_ | skip
 refine Yg<|Zf rfl ?_
 obtain ⟨H32,hH32⟩:∃ H32,H31.new (.cells [iv 5,iv 10,iv 13] 3 false)=H32:=⟨_,rfl⟩
 refine W4 (H':=H32) (k:=.heavy) rfl (by kernel_rfl) ((zm (a:=5) (b:=10) (c:=13) rfl rfl rfl).trans (by first | (rw [← hH32];done) | (rw [← hH32];rfl))) (fun b e=>by cases e) ?_
 obtain ⟨kH32,nH32,c32⟩:=Z7 hH32;clear hH32
 have c32:Cl H32 H31.next [iv 5,iv 10,iv 13]:=c32
 have mH32:=kH32.1
 have hk:=hk.trans kH32
 have slz2:=kH32.sl0 slz2
 have slz5:=kH32.sl0 slz5
 have c12:=kH32.cl c12 (by simp)
 have c18:=kH32.cl c18 (by simp)
 have c19:=kH32.cl c19 (by simp)
 have hsc:=kH32.sl0 hsc
 have c27:=kH32.cl c27 (by simp)
 have c28:=kH32.cl c28 (by simp)
 obtain ⟨H33,fH33,kH33⟩:=jz (kn:=kn) (lo:=lo) (H:=H32) (xs:=[5,10,13]) (n:=3) hsc (c32.sl (Nat.le_refl 3)) rfl (by omega) (by omega)
 refine We (vs:=[.slice sa_ 3 sc_,.slice (some ⟨H31.next,0,none⟩) 3 3]) rfl (Zg fH33) ?_
 have mH33:=kH33.1
 have hk:=hk.trans kH33
 have slz2:=kH33.sl0 slz2
 have slz5:=kH33.sl0 slz5
 have c12:=kH33.cl c12 (by simp)
 have c18:=kH33.cl c18 (by simp)
 have c19:=kH33.cl c19 (by simp)
 have hsc:=kH33.sl0 hsc
 have c27:=kH33.cl c27 (by simp)
 have c28:=kH33.cl c28 (by simp)
 have c32:=kH33.cl c32 (by simp)
 refine Zf rfl ?_
 refine Yq rfl (Zf rfl ?_)
 refine Yq rfl (z6 (a:=0) (b:=0) rfl rfl ?_)
 intro t9 g9;obtain rfl:t9=true:=by rw [← g9];rfl
 refine Yt (v:=.bool true) rfl rfl<|Zf rfl ?_
 refine Yq rfl (ZP (b:=H26.next) (o:=0) rfl c27.rd (show row 2 _ _=some [iv 600,iv 1000] from rfl) ?_)
 obtain ⟨H34,fH34,kH34⟩:=Ym (kn:=kn) (lo:=H33.next) (H:=H33) (a:=600) (b:=1000) (Nat.le_refl _)
 refine Yq rfl (YJ (vs:=[iv 600,iv 1000]) rfl rfl (Zg fH34) ?_)
 have mH34:=kH34.1
 have hk:=hk.trans kH34
 have slz2:=kH34.sl0 slz2
 have slz5:=kH34.sl0 slz5
 have c12:=kH34.cl c12 (by simp)
 have c18:=kH34.cl c18 (by simp)
 have c19:=kH34.cl c19 (by simp)
 have hsc:=kH34.sl0 hsc
 have c27:=kH34.cl c27 (by simp)
 have c28:=kH34.cl c28 (by simp)
 have c32:=kH34.cl c32 (by simp)
 refine Yq rfl (Yt (v:=.bool true) rfl (by kernel_rfl) ?_)
 refine Yt (v:=.bool true) rfl rfl<|Zf rfl ?_
 refine Yq rfl (ZP (b:=H27.next) (o:=0) rfl c28.rd (show row 2 _ _=some [iv 400,iv 600] from rfl) ?_)
 obtain ⟨H35,fH35,kH35⟩:=Ym (kn:=kn) (lo:=H34.next) (H:=H34) (a:=400) (b:=600) (Nat.le_refl _)
 refine Yq rfl (YJ (vs:=[iv 400,iv 600]) rfl rfl (Zg fH35) ?_)
 have mH35:=kH35.1
 have hk:=hk.trans kH35
 have slz2:=kH35.sl0 slz2
 have slz5:=kH35.sl0 slz5
 have c12:=kH35.cl c12 (by simp)
 have c18:=kH35.cl c18 (by simp)
 have c19:=kH35.cl c19 (by simp)
 have hsc:=kH35.sl0 hsc
 have c27:=kH35.cl c27 (by simp)
 have c28:=kH35.cl c28 (by simp)
 have c32:=kH35.cl c32 (by simp)
 refine Yq rfl (Yt (v:=.bool true) rfl (by kernel_rfl) ?_)
 refine Yt (v:=.bool true) rfl rfl<|Zf rfl ?_
 refine Yq rfl (Zf rfl ?_)
 refine Yq rfl (z6 (a:=0) (b:=0) rfl rfl ?_)
 intro t10 g10;obtain rfl:t10=true:=by rw [← g10];rfl
 refine Yt (v:=.bool true) rfl rfl<|Zf rfl ?_
 refine ZL (by repeat' first | exact True.intro | exact (fun h=>h) | refine And.intro ?_ ?_ | (intro h;have h:(_:Nat)=_:=h;omega)) ?_
 exact And.intro trivial (Exists.intro _ (And.intro rfl ⟨rfl,hk⟩))
end
end
end Go.Ax

/-
 Pool: two spans compared (written by program).
-/
namespace Go.Ax
open Go Go.RowKit Go.Proofs

theorem XH {P:Program} {α β:Type} (f:α→Sem β):∀ (x:Sem α),Z9 P (x >>= f)=match Z9 P x with | some a=>Z9 P (f a) | none=>none:=by
 intro x
 induction x with
 | pure a=>rfl
 | program k ih=>exact ih P
 | _=>rfl
theorem VF {P:Program} {α:Type} (a:α):Z9 P (pure a)=some a:=rfl
theorem jO:Z9 Try.prog (underlying 3)=some (.int .i64):=by kernel_rfl
theorem zM (d:Nat) (a b:Int):Z9 Try.prog (Op.equalIn (d+1) 3 (iv a) (iv b))=some (a == b):=by
 rw [Op.equalIn]
 rw [XH,jO]
 rfl
theorem yZ : Z9 Try.prog (underlying 31) = some (.struct #[⟨"Lo", 3, 0, false, "", "", 0⟩, ⟨"Hi", 3, 1, false, "", "", 8⟩]) := by kernel_rfl
theorem ZeJ:Try.prog.stoodInHeld 31=false:=by kernel_rfl
theorem Jr (a b:Int):Z9 Try.prog (part 3 #[iv a,iv b] 0)=some (iv a):=by kernel_rfl
theorem JA (a b:Int):Z9 Try.prog (part 3 #[iv a,iv b] 1)=some (iv b):=by kernel_rfl
theorem jL (d:Nat) (a b c e:Int):Z9 Try.prog (Op.equalIn (d+2) 31 (.agg #[iv a,iv b]) (.agg #[iv c,iv e]))=some (a == c && b == e):=by
 rw [Op.equalIn]
 rw [XH,yZ]
 simp only []
 rw [XH]
 rw [show Z9 Try.prog program=some Try.prog from rfl]
 simp only [ZeJ]
 simp only [Bool.false_eq_true,if_false,↓reduceIte]
 rw [← Array.forIn_toList]
 simp only [List.forIn_cons,List.forIn_nil]
 rw [if_pos (by decide),if_pos (by decide)]
 simp only [XH,Jr,JA,zM]
 generalize (a == c)=u
 cases u
 ·simp only [Bool.not_false,↓reduceIte,VF,Bool.false_and]
 ·simp only [Bool.not_true,Bool.false_eq_true,↓reduceIte,VF,XH,Jr,JA,zM,Bool.true_and]
  generalize (b == e)=w
  cases w
  ·simp only [Bool.not_false,↓reduceIte,VF]
  ·simp only [Bool.not_true,Bool.false_eq_true,↓reduceIte,VF]
theorem md:Op.maxDepth=9998+2:=by decide
theorem VY {n:Nat} {S:Rg} {d:Option Tmp} {x y:Operand} {p:String} {a b c e:Int} (hx:evS S x=some (.agg #[iv a,iv b])) (hy:evS S y=some (.agg #[iv c,iv e])) :
  Zs Try.prog (frS n S) ⟨d,.binOp .eql 31 x y 31,4,p,#[],none⟩=some (.bool (a == c && b == e)):=by
 have key:Z9 Try.prog (do eqGuard .eql 31 x y (.agg #[iv a,iv b]) (.agg #[iv c,iv e]);binOp .eql 31 (.agg #[iv a,iv b]) (.agg #[iv c,iv e]))=some (.bool (a == c && b == e)):=by
  rw [XH]
  have hg:Z9 Try.prog (eqGuard .eql 31 x y (.agg #[iv a,iv b]) (.agg #[iv c,iv e]))=some ():=by kernel_rfl
  rw [hg]
  clear hg
  have hb:binOp .eql 31 (.agg #[iv a,iv b]) (.agg #[iv c,iv e])=(Op.equal 31 (.agg #[iv a,iv b]) (.agg #[iv c,iv e]) >>= fun r=>pure (.bool r)):=by kernel_rfl
  simp only [hb]
  rw [XH]
  have heq:Op.equal 31 (.agg #[iv a,iv b]) (.agg #[iv c,iv e])=Op.equalIn (9998+2) 31 (.agg #[iv a,iv b]) (.agg #[iv c,iv e]):=congrArg (fun n=>Op.equalIn n 31 (.agg #[iv a,iv b]) (.agg #[iv c,iv e])) md
  rw [heq,jL]
  rfl
 unfold Zs
 simp only [Yd,hx,hy]
 rw [show (Yn (.agg #[iv a,iv b]) && Yn (.agg #[iv c,iv e]))=true from rfl,cond_true,key]
 rfl
end Go.Ax

/-
 Pool: the law PermitRivers (written by program).
-/
namespace Go.Ax
open Go Go.RowKit Go.Proofs

section
variable {kn:Kn} {lo:Nat} {H:Hp}
set_option maxRecDepth 100000 in
set_option maxHeartbeats 4000000 in
theorem yl (hkn:∀ f,kn.b f=none) {a b:Fw} {x:Ph} {limit:Int} (hlo:lo≤H.next):∃ H',FnX Try.prog kn lo 4 [.agg (Fw.f a).toArray,.agg (Fw.f b).toArray,iv limit,.agg (Ph.f x).toArray] H (.bool true) H':=by
 have key:=Zp (kn:=kn) (lo:=lo) (H:=H) (args:=[.agg (Fw.f a).toArray,.agg (Fw.f b).toArray,iv limit,.agg (Ph.f x).toArray]) (Q:=fun w H'=>w=.bool true) Try.func4 B4 N4 Z4 L4 (by simp) ?_
 ·obtain ⟨w,H',h,rfl⟩:=key;exact ⟨H',h⟩
 have hk:=Zi.refl H []
 refine Zc ?_
 refine ZS (v:=.agg (Fw.f a).toArray) rfl ?_
 intro H1 kH1 nH1 c1
 have c1:Cl H1 H.next [iv a.wl,iv a.wh,iv a.tl,iv a.th]:=c1
 have mH1:=kH1.1
 have hk:=hk.trans kH1
 refine ZS (v:=.agg (Fw.f b).toArray) rfl ?_
 intro H2 kH2 nH2 c2
 have c2:Cl H2 H1.next [iv b.wl,iv b.wh,iv b.tl,iv b.th]:=c2
 have mH2:=kH2.1
 have hk:=hk.trans kH2
 have c1:=kH2.cl c1 (by simp)
 refine ZS (v:=.agg (Ph.f x).toArray) rfl ?_
 intro H3 kH3 nH3 c3
 have c3:Cl H3 H2.next [iv x.bl,iv x.bh,iv x.il,iv x.ih,iv x.ol,iv x.oh,iv x.rl,iv x.rh,iv x.cl,iv x.ch]:=c3
 have mH3:=kH3.1
 have hk:=hk.trans kH3
 have c1:=kH3.cl c1 (by simp)
 have c2:=kH3.cl c2 (by simp)
 refine Za (v:=.bool false) rfl ?_
 refine Zb ?_
 refine Zc ?_
 refine Zx (b:=H.next) (o:=0) rfl c1.rd (show row 4 _ _=some [iv a.wl,iv a.wh,iv a.tl,iv a.th] from rfl) ?_
 refine Zx (b:=H1.next) (o:=0) rfl c2.rd (show row 4 _ _=some [iv b.wl,iv b.wh,iv b.tl,iv b.th] from rfl) ?_
 obtain ⟨H4,fH4,kH4⟩:=ZaV (kn:=kn) (lo:=lo) (H:=H3) (hkn 35) (a:=a) (b:=b) (by omega)
 refine Zj (vs:=[.agg (Fw.f a).toArray,.agg (Fw.f b).toArray]) rfl (Zg fH4) ?_
 have mH4:=kH4.1
 have hk:=hk.trans kH4
 have c1:=kH4.cl c1 (by simp)
 have c2:=kH4.cl c2 (by simp)
 have c3:=kH4.cl c3 (by simp)
 refine Za (v:=.tuple #[.agg #[iv ((mxT a b).1.1),iv ((mxT a b).1.2)],iv ((mxT a b).2)]) rfl ?_
 refine Zd (v:=.agg #[iv ((mxT a b).1.1),iv ((mxT a b).1.2)]) rfl (by kernel_rfl) ?_
 refine Zd (v:=iv ((mxT a b).2)) rfl (by kernel_rfl) ?_
 refine ZY ?_
 intro H5 kH5 nH5 c5
 have c5:Cl H5 H4.next [iv 0,iv 0]:=c5
 have mH5:=kH5.1
 have hk:=hk.trans kH5
 have c1:=kH5.cl c1 (by simp)
 have c2:=kH5.cl c2 (by simp)
 have c3:=kH5.cl c3 (by simp)
 refine ZH (b:=H4.next) (o:=0) rfl rfl c5 (by omega) rfl rfl (by simp) ?_
 intro H6 kH6 nH6 sH6
 have mH6:=kH6.1
 have hk:=hk.new kH6 (fun b hb=>by simp at hb ⊢;omega)
 have c1:=kH6.cl c1 (by first | (simp;done) | (simp;omega))
 have c2:=kH6.cl c2 (by first | (simp;done) | (simp;omega))
 have c3:=kH6.cl c3 (by first | (simp;done) | (simp;omega))
 have c5:Cl H6 H4.next [iv ((mxT a b).1.1),iv ((mxT a b).1.2)]:=sH6
 refine Za (v:=iv ((mxT a b).2)) rfl ?_
 refine Zb ?_
 refine Zc ?_
 refine Zx (b:=H.next) (o:=0) rfl c1.rd (show row 4 _ _=some [iv a.wl,iv a.wh,iv a.tl,iv a.th] from rfl) ?_
 refine Zx (b:=H1.next) (o:=0) rfl c2.rd (show row 4 _ _=some [iv b.wl,iv b.wh,iv b.tl,iv b.th] from rfl) ?_
 obtain ⟨H7,fH7,kH7⟩:=jc (kn:=kn) (lo:=lo) (H:=H6) (a:=a) (b:=b) (by omega)
 refine Zj (vs:=[.agg (Fw.f a).toArray,.agg (Fw.f b).toArray]) rfl (Zg fH7) ?_
 have mH7:=kH7.1
 have hk:=hk.trans kH7
 have c1:=kH7.cl c1 (by simp)
 have c2:=kH7.cl c2 (by simp)
 have c3:=kH7.cl c3 (by simp)
 have c5:=kH7.cl c5 (by simp)
 refine Za (v:=.tuple #[.agg #[iv ((mxT a b).1.1),iv ((mxT a b).1.2)],iv ((mxT a b).2)]) rfl ?_
 refine Zd (v:=.agg #[iv ((mxT a b).1.1),iv ((mxT a b).1.2)]) rfl (by kernel_rfl) ?_
 refine Zd (v:=iv ((mxT a b).2)) rfl (by kernel_rfl) ?_
 refine ZY ?_
 intro H8 kH8 nH8 c8
 have c8:Cl H8 H7.next [iv 0,iv 0]:=c8
 have mH8:=kH8.1
 have hk:=hk.trans kH8
 have c1:=kH8.cl c1 (by simp)
 have c2:=kH8.cl c2 (by simp)
 have c3:=kH8.cl c3 (by simp)
 have c5:=kH8.cl c5 (by simp)
 refine ZH (b:=H7.next) (o:=0) rfl rfl c8 (by omega) rfl rfl (by simp) ?_
 intro H9 kH9 nH9 sH9
 have mH9:=kH9.1
 have hk:=hk.new kH9 (fun b hb=>by simp at hb ⊢;omega)
 have c1:=kH9.cl c1 (by first | (simp;done) | (simp;omega))
 have c2:=kH9.cl c2 (by first | (simp;done) | (simp;omega))
 have c3:=kH9.cl c3 (by first | (simp;done) | (simp;omega))
 have c5:=kH9.cl c5 (by first | (simp;done) | (simp;omega))
 have c8:Cl H9 H7.next [iv ((mxT a b).1.1),iv ((mxT a b).1.2)]:=sH9
 refine Za (v:=iv ((mxT a b).2)) rfl ?_
 refine Zb ?_
 refine Zc ?_
 refine Zx (b:=H.next) (o:=0) rfl c1.rd (show row 4 _ _=some [iv a.wl,iv a.wh,iv a.tl,iv a.th] from rfl) ?_
 refine Zh (b:=H1.next) (o:=0) rfl ?_
 refine Zx (b:=H1.next) (o:=2) rfl c2.rd (show row 2 _ _=some [iv b.tl,iv b.th] from rfl) ?_
 refine Za (v:=iv limit) rfl ?_
 obtain ⟨H10,fH10,kH10⟩:=qS (kn:=kn) (lo:=lo) (H:=H9) (a:=a) (l:=b.tl) (h:=b.th) (limit:=limit) (by omega)
 refine Zj (vs:=[.agg (Fw.f a).toArray,.agg #[iv b.tl,iv b.th],iv limit]) rfl (Zg fH10) ?_
 have mH10:=kH10.1
 have hk:=hk.trans kH10
 have c1:=kH10.cl c1 (by simp)
 have c2:=kH10.cl c2 (by simp)
 have c3:=kH10.cl c3 (by simp)
 have c5:=kH10.cl c5 (by simp)
 have c8:=kH10.cl c8 (by simp)
 refine Za (v:=.tuple #[iv ((moT a b.tl b.th limit).1),iv ((moT a b.tl b.th limit).2)]) rfl ?_
 refine Zd (v:=iv ((moT a b.tl b.th limit).1)) rfl (by kernel_rfl) ?_
 refine Zd (v:=iv ((moT a b.tl b.th limit).2)) rfl (by kernel_rfl) ?_
 refine Za (v:=iv ((moT a b.tl b.th limit).1)) rfl ?_
 refine Za (v:=iv ((moT a b.tl b.th limit).2)) rfl ?_
 refine Zb ?_
 refine Zc ?_
 refine Zx (b:=H.next) (o:=0) rfl c1.rd (show row 4 _ _=some [iv a.wl,iv a.wh,iv a.tl,iv a.th] from rfl) ?_
 refine Zh (b:=H1.next) (o:=0) rfl ?_
 refine Zx (b:=H1.next) (o:=2) rfl c2.rd (show row 2 _ _=some [iv b.tl,iv b.th] from rfl) ?_
 refine Za (v:=iv limit) rfl ?_
 obtain ⟨H11,fH11,kH11⟩:=yW (kn:=kn) (lo:=lo) (H:=H10) (a:=a) (l:=b.tl) (h:=b.th) (limit:=limit) (by omega)
 refine Zj (vs:=[.agg (Fw.f a).toArray,.agg #[iv b.tl,iv b.th],iv limit]) rfl (Zg fH11) ?_
 have mH11:=kH11.1
 have hk:=hk.trans kH11
 have c1:=kH11.cl c1 (by simp)
 have c2:=kH11.cl c2 (by simp)
 have c3:=kH11.cl c3 (by simp)
 have c5:=kH11.cl c5 (by simp)
 have c8:=kH11.cl c8 (by simp)
 refine Za (v:=.tuple #[iv ((moT a b.tl b.th limit).1),iv ((moT a b.tl b.th limit).2)]) rfl ?_
 refine Zd (v:=iv ((moT a b.tl b.th limit).1)) rfl (by kernel_rfl) ?_
 refine Zd (v:=iv ((moT a b.tl b.th limit).2)) rfl (by kernel_rfl) ?_
 refine Za (v:=iv ((moT a b.tl b.th limit).1)) rfl ?_
 refine Za (v:=iv ((moT a b.tl b.th limit).2)) rfl ?_
 refine Zb ?_
 refine Zc ?_
 refine Zx (b:=H2.next) (o:=0) rfl c3.rd (show row 10 _ _=some [iv x.bl,iv x.bh,iv x.il,iv x.ih,iv x.ol,iv x.oh,iv x.rl,iv x.rh,iv x.cl,iv x.ch] from rfl) ?_
 obtain ⟨H12,fH12,kH12⟩:=QC (kn:=kn) (lo:=lo) (H:=H11) (hkn 35) (x:=x) (by omega)
 refine Zj (vs:=[.agg (Ph.f x).toArray]) rfl (Zg fH12) ?_
 have mH12:=kH12.1
 have hk:=hk.trans kH12
 have c1:=kH12.cl c1 (by simp)
 have c2:=kH12.cl c2 (by simp)
 have c3:=kH12.cl c3 (by simp)
 have c5:=kH12.cl c5 (by simp)
 have c8:=kH12.cl c8 (by simp)
 refine Za (v:=.tuple #[.agg #[iv ((baT x).1.1),iv ((baT x).1.2)],.agg #[iv ((baT x).2.1.1),iv ((baT x).2.1.2)],iv ((baT x).2.2)]) rfl ?_
 refine Zd (v:=.agg #[iv ((baT x).1.1),iv ((baT x).1.2)]) rfl (by kernel_rfl) ?_
 refine Zd (v:=.agg #[iv ((baT x).2.1.1),iv ((baT x).2.1.2)]) rfl (by kernel_rfl) ?_
 refine Zd (v:=iv ((baT x).2.2)) rfl (by kernel_rfl) ?_
 refine ZY ?_
 intro H13 kH13 nH13 c13
 have c13:Cl H13 H12.next [iv 0,iv 0]:=c13
 have mH13:=kH13.1
 have hk:=hk.trans kH13
 have c1:=kH13.cl c1 (by simp)
 have c2:=kH13.cl c2 (by simp)
 have c3:=kH13.cl c3 (by simp)
 have c5:=kH13.cl c5 (by simp)
 have c8:=kH13.cl c8 (by simp)
 refine ZY ?_
 intro H14 kH14 nH14 c14
 have c14:Cl H14 H13.next [iv 0,iv 0]:=c14
 have mH14:=kH14.1
 have hk:=hk.trans kH14
 have c1:=kH14.cl c1 (by simp)
 have c2:=kH14.cl c2 (by simp)
 have c3:=kH14.cl c3 (by simp)
 have c5:=kH14.cl c5 (by simp)
 have c8:=kH14.cl c8 (by simp)
 have c13:=kH14.cl c13 (by simp)
 refine ZH (b:=H12.next) (o:=0) rfl rfl c13 (by omega) rfl rfl (by simp) ?_
 intro H15 kH15 nH15 sH15
 have mH15:=kH15.1
 have hk:=hk.new kH15 (fun b hb=>by simp at hb ⊢;omega)
 have c1:=kH15.cl c1 (by first | (simp;done) | (simp;omega))
 have c2:=kH15.cl c2 (by first | (simp;done) | (simp;omega))
 have c3:=kH15.cl c3 (by first | (simp;done) | (simp;omega))
 have c5:=kH15.cl c5 (by first | (simp;done) | (simp;omega))
 have c8:=kH15.cl c8 (by first | (simp;done) | (simp;omega))
 have c14:=kH15.cl c14 (by first | (simp;done) | (simp;omega))
 have c13:Cl H15 H12.next [iv ((baT x).1.1),iv ((baT x).1.2)]:=sH15
 refine ZH (b:=H13.next) (o:=0) rfl rfl c14 (by omega) rfl rfl (by simp) ?_
 intro H16 kH16 nH16 sH16
 have mH16:=kH16.1
 have hk:=hk.new kH16 (fun b hb=>by simp at hb ⊢;omega)
 have c1:=kH16.cl c1 (by first | (simp;done) | (simp;omega))
 have c2:=kH16.cl c2 (by first | (simp;done) | (simp;omega))
 have c3:=kH16.cl c3 (by first | (simp;done) | (simp;omega))
 have c5:=kH16.cl c5 (by first | (simp;done) | (simp;omega))
 have c8:=kH16.cl c8 (by first | (simp;done) | (simp;omega))
 have c13:=kH16.cl c13 (by first | (simp;done) | (simp;omega))
 have c14:Cl H16 H13.next [iv ((baT x).2.1.1),iv ((baT x).2.1.2)]:=sH16
 refine Za (v:=iv ((baT x).2.2)) rfl ?_
 refine Zb ?_
 refine Zc ?_
 refine Zx (b:=H2.next) (o:=0) rfl c3.rd (show row 10 _ _=some [iv x.bl,iv x.bh,iv x.il,iv x.ih,iv x.ol,iv x.oh,iv x.rl,iv x.rh,iv x.cl,iv x.ch] from rfl) ?_
 obtain ⟨H17,fH17,kH17⟩:=JI (kn:=kn) (lo:=lo) (H:=H16) (x:=x) (by omega)
 refine Zj (vs:=[.agg (Ph.f x).toArray]) rfl (Zg fH17) ?_
 have mH17:=kH17.1
 have hk:=hk.trans kH17
 have c1:=kH17.cl c1 (by simp)
 have c2:=kH17.cl c2 (by simp)
 have c3:=kH17.cl c3 (by simp)
 have c5:=kH17.cl c5 (by simp)
 have c8:=kH17.cl c8 (by simp)
 have c13:=kH17.cl c13 (by simp)
 have c14:=kH17.cl c14 (by simp)
 refine Za (v:=.tuple #[.agg #[iv ((baT x).1.1),iv ((baT x).1.2)],.agg #[iv ((baT x).2.1.1),iv ((baT x).2.1.2)],iv ((baT x).2.2)]) rfl ?_
 refine Zd (v:=.agg #[iv ((baT x).1.1),iv ((baT x).1.2)]) rfl (by kernel_rfl) ?_
 refine Zd (v:=.agg #[iv ((baT x).2.1.1),iv ((baT x).2.1.2)]) rfl (by kernel_rfl) ?_
 refine Zd (v:=iv ((baT x).2.2)) rfl (by kernel_rfl) ?_
 refine ZY ?_
 intro H18 kH18 nH18 c18
 have c18:Cl H18 H17.next [iv 0,iv 0]:=c18
 have mH18:=kH18.1
 have hk:=hk.trans kH18
 have c1:=kH18.cl c1 (by simp)
 have c2:=kH18.cl c2 (by simp)
 have c3:=kH18.cl c3 (by simp)
 have c5:=kH18.cl c5 (by simp)
 have c8:=kH18.cl c8 (by simp)
 have c13:=kH18.cl c13 (by simp)
 have c14:=kH18.cl c14 (by simp)
 refine ZY ?_
 intro H19 kH19 nH19 c19
 have c19:Cl H19 H18.next [iv 0,iv 0]:=c19
 have mH19:=kH19.1
 have hk:=hk.trans kH19
 have c1:=kH19.cl c1 (by simp)
 have c2:=kH19.cl c2 (by simp)
 have c3:=kH19.cl c3 (by simp)
 have c5:=kH19.cl c5 (by simp)
 have c8:=kH19.cl c8 (by simp)
 have c13:=kH19.cl c13 (by simp)
 have c14:=kH19.cl c14 (by simp)
 have c18:=kH19.cl c18 (by simp)
 refine ZH (b:=H17.next) (o:=0) rfl rfl c18 (by omega) rfl rfl (by simp) ?_
 intro H20 kH20 nH20 sH20
 have mH20:=kH20.1
 have hk:=hk.new kH20 (fun b hb=>by simp at hb ⊢;omega)
 have c1:=kH20.cl c1 (by first | (simp;done) | (simp;omega))
 have c2:=kH20.cl c2 (by first | (simp;done) | (simp;omega))
 have c3:=kH20.cl c3 (by first | (simp;done) | (simp;omega))
 have c5:=kH20.cl c5 (by first | (simp;done) | (simp;omega))
 have c8:=kH20.cl c8 (by first | (simp;done) | (simp;omega))
 have c13:=kH20.cl c13 (by first | (simp;done) | (simp;omega))
 have c14:=kH20.cl c14 (by first | (simp;done) | (simp;omega))
 have c19:=kH20.cl c19 (by first | (simp;done) | (simp;omega))
 have c18:Cl H20 H17.next [iv ((baT x).1.1),iv ((baT x).1.2)]:=sH20
 refine ZH (b:=H18.next) (o:=0) rfl rfl c19 (by omega) rfl rfl (by simp) ?_
 intro H21 kH21 nH21 sH21
 have mH21:=kH21.1
 have hk:=hk.new kH21 (fun b hb=>by simp at hb ⊢;omega)
 have c1:=kH21.cl c1 (by first | (simp;done) | (simp;omega))
 have c2:=kH21.cl c2 (by first | (simp;done) | (simp;omega))
 have c3:=kH21.cl c3 (by first | (simp;done) | (simp;omega))
 have c5:=kH21.cl c5 (by first | (simp;done) | (simp;omega))
 have c8:=kH21.cl c8 (by first | (simp;done) | (simp;omega))
 have c13:=kH21.cl c13 (by first | (simp;done) | (simp;omega))
 have c14:=kH21.cl c14 (by first | (simp;done) | (simp;omega))
 have c18:=kH21.cl c18 (by first | (simp;done) | (simp;omega))
 have c19:Cl H21 H18.next [iv ((baT x).2.1.1),iv ((baT x).2.1.2)]:=sH21
 refine Za (v:=iv ((baT x).2.2)) rfl ?_
 refine Zb ?_
 refine Zc ?_
 refine Zx (b:=H4.next) (o:=0) rfl c5.rd (show row 2 _ _=some [iv ((mxT a b).1.1),iv ((mxT a b).1.2)] from rfl) ?_
 refine Zx (b:=H7.next) (o:=0) rfl c8.rd (show row 2 _ _=some [iv ((mxT a b).1.1),iv ((mxT a b).1.2)] from rfl) ?_
 refine Zd (v:=.bool true) rfl ((VY (a:=(mxT a b).1.1) (b:=(mxT a b).1.2) (c:=(mxT a b).1.1) (e:=(mxT a b).1.2) rfl rfl).trans (by simp)) ?_
 refine Za (v:=.bool true) rfl ?_
 refine Zo rfl (Za (v:=iv ((mxT a b).2)) rfl ?_)
 refine Zo rfl (Za (v:=iv ((mxT a b).2)) rfl ?_)
 refine Zo rfl (KB (a:=(mxT a b).2) rfl rfl ?_)
 refine Zd (v:=.bool true) rfl rfl ?_
 refine Za (v:=.bool true) rfl ?_
 refine Zo rfl (Za (v:=iv ((moT a b.tl b.th limit).1)) rfl ?_)
 refine Zo rfl (Za (v:=iv ((moT a b.tl b.th limit).1)) rfl ?_)
 refine Zo rfl (KB (a:=(moT a b.tl b.th limit).1) rfl rfl ?_)
 refine Zd (v:=.bool true) rfl rfl ?_
 refine Za (v:=.bool true) rfl ?_
 refine Zo rfl (Za (v:=iv ((moT a b.tl b.th limit).2)) rfl ?_)
 refine Zo rfl (Za (v:=iv ((moT a b.tl b.th limit).2)) rfl ?_)
 refine Zo rfl (KB (a:=(moT a b.tl b.th limit).2) rfl rfl ?_)
 refine Zd (v:=.bool true) rfl rfl ?_
 refine Za (v:=.bool true) rfl ?_
 refine Zo rfl (Zx (b:=H12.next) (o:=0) rfl c13.rd (show row 2 _ _=some [iv ((baT x).1.1),iv ((baT x).1.2)] from rfl) ?_)
 refine Zo rfl (Zx (b:=H17.next) (o:=0) rfl c18.rd (show row 2 _ _=some [iv ((baT x).1.1),iv ((baT x).1.2)] from rfl) ?_)
 refine Zo rfl (Zd (v:=.bool true) rfl ((VY (a:=(baT x).1.1) (b:=(baT x).1.2) (c:=(baT x).1.1) (e:=(baT x).1.2) rfl rfl).trans (by simp)) ?_)
 refine Zd (v:=.bool true) rfl rfl ?_
 refine Za (v:=.bool true) rfl ?_
 refine Zo rfl (Zx (b:=H13.next) (o:=0) rfl c14.rd (show row 2 _ _=some [iv ((baT x).2.1.1),iv ((baT x).2.1.2)] from rfl) ?_)
 refine Zo rfl (Zx (b:=H18.next) (o:=0) rfl c19.rd (show row 2 _ _=some [iv ((baT x).2.1.1),iv ((baT x).2.1.2)] from rfl) ?_)
 refine Zo rfl (Zd (v:=.bool true) rfl ((VY (a:=(baT x).2.1.1) (b:=(baT x).2.1.2) (c:=(baT x).2.1.1) (e:=(baT x).2.1.2) rfl rfl).trans (by simp)) ?_)
 refine Zd (v:=.bool true) rfl rfl ?_
 refine Za (v:=.bool true) rfl ?_
 refine Zo rfl (Za (v:=iv ((baT x).2.2)) rfl ?_)
 refine Zo rfl (Za (v:=iv ((baT x).2.2)) rfl ?_)
 refine Zo rfl (KB (a:=(baT x).2.2) rfl rfl ?_)
 refine Zd (v:=.bool true) rfl rfl ?_
 refine Za (v:=.bool true) rfl ?_
 obtain ⟨H22,fH22,kH22⟩:=jN (kn:=kn) (lo:=lo) (H:=H21) hkn (by omega)
 refine Zo rfl (Zj (vs:=[]) rfl (YV (hkn 11) fH22) ?_)
 have mH22:=kH22.1
 have hk:=hk.trans kH22
 have c1:=kH22.cl c1 (by simp)
 have c2:=kH22.cl c2 (by simp)
 have c3:=kH22.cl c3 (by simp)
 have c5:=kH22.cl c5 (by simp)
 have c8:=kH22.cl c8 (by simp)
 have c13:=kH22.cl c13 (by simp)
 have c14:=kH22.cl c14 (by simp)
 have c18:=kH22.cl c18 (by simp)
 have c19:=kH22.cl c19 (by simp)
 refine Zd (v:=.bool true) rfl rfl ?_
 refine Za (v:=.bool true) rfl ?_
 refine Zb ?_
 exact And.intro trivial (Exists.intro _ (And.intro rfl rfl))
end
end Go.Ax

namespace Go.Ax
open Go Go.RowKit Go.Proofs Go.ChangeShapes Go.WideShapes Go.Deep

def K8 (P:Program) (t:TypeId):Prop:=∀ (H:Type) (enc:TypeId × Value→H) (w:World) (base:Nat) (spare:Nat→Bool) (held:Bool) (fuel:Nat) (cs:List Value) (x:DataW H × List MemPlace),
 DataW.trod enc P w base spare held fuel t cs=some x→cs.length=P.cellsOf t∧∀ j,j < cs.length→∃ n,cs[j]? = some (.int .i64 n)
theorem K8.int {P:Program} {t:TypeId} (ht:P.underlying t=some (.int .i64)) (hc:P.cellsOf t=1):K8 P t:=by
 intro H enc w base spare held fuel cs x h
 obtain ⟨n,rfl,_⟩:=DataW.trod_int ht h
 refine ⟨by rw [hc];rfl,fun j hj=>⟨n,?_⟩⟩
 have:j=0:=by simp at hj;omega
 subst this;rfl
theorem K8.struct {P:Program} {t:TypeId} {fs:Array Field} (ht:P.underlying t=some (.struct fs)) (hf:∀ f∈fs.toList,K8 P f.type)
  (hcov:((List.range (P.cellsOf t)).all fun j=>fs.toList.any fun f=>decide (f.offset≤j) && decide (j < f.offset+P.cellsOf f.type))=true):K8 P t:=by
 intro H enc w base spare held fuel cs x h
 obtain ⟨xs,n,_,_,hlen,hxl,hg⟩:=DataW.trod_struct ht h
 refine ⟨hlen,fun j hj=>?_⟩
 have h1:=List.all_eq_true.1 hcov j (List.mem_range.2 (by omega))
 obtain ⟨f,hfm,h2⟩:=List.any_eq_true.1 h1
 simp only [Bool.and_eq_true,decide_eq_true_eq] at h2
 obtain ⟨i,hi,hfi⟩:=List.getElem_of_mem hfm
 have hfs:fs[i]? = some f:=by
  rw [← Array.getElem?_toList,List.getElem?_eq_getElem hi,hfi]
 have hi2:i < xs.length:=by simpa [hxl] using hi
 have h3:=hg i f hfs
 rw [List.getElem?_eq_getElem hi2] at h3
 obtain ⟨h4,h5⟩:=hf f hfm _ _ _ _ _ _ _ _ _ h3
 obtain ⟨m,hm⟩:=h5 (j - f.offset) (by omega)
 refine ⟨m,?_⟩
 rw [List.getElem?_take] at hm
 split at hm
 ·rw [List.getElem?_drop,show f.offset+(j - f.offset)=j by omega] at hm;exact hm
 ·cases hm

structure Zbc {α:Type} (w:World) (v:Value) (f:α→List Value) (l:List α) (x:Imp):Prop where
 ok:∀ (i:Nat) u,x.cs[i]? = some u→w.cell? ⟨x.blk,x.off+i,none⟩=some u∧YQ u=true
 cs:x.cs=l.flatMap f
 v:(v=.slice none 0 0∧l=[])∨∃ cap,v=.slice (some ⟨x.blk,x.off,none⟩) l.length cap∧l.length≤cap
theorem Zbc.rel {α:Type} {w:World} {v:Value} {f:α→List Value} {l:List α} {x:Imp} (g:Zbc w v f l x) {r:Ren} {H:Hp} {b:Nat} (hr:r b=some ⟨x.blk,x.off,none⟩) (hb:b < H.next) (hc:cellsOf H b=some x.cs) (hro:H.t.get b=some (.ro x.cs)) :
  ∃ a cap,VR r (.slice a l.length cap) v∧Sl H a l.length cap (l.flatMap f)∧∀ b,a=some ⟨b,0,none⟩→H.t.get b=some (.ro (l.flatMap f)):=by
 rcases g.v with ⟨rfl,rfl⟩ | ⟨cap,rfl,hl⟩
 ·exact ⟨none,0,.nilSlice,.inl ⟨.inl rfl,rfl,rfl,rfl⟩,fun b e=>by cases e⟩
 ·refine ⟨some ⟨b,0,none⟩,cap,?_,.inr ⟨b,rfl,⟨hb,by rw [hc,g.cs]⟩,hl⟩,fun b' e=>by cases e;rw [hro,g.cs]⟩
  have:=VR.slice (o:=0) (n:=l.length) (c:=cap) hr rfl hl
  simpa using this
end Go.Ax

/-! Slices of rows of plain cells,as_ arguments. -/
namespace Go.Ax
open Go Go.RowKit Go.Proofs Go.ChangeShapes Go.WideShapes Go.Deep

theorem K8.row {α:Type} {P:Program} {t:TypeId} {k:Nat} {f:α→List Value} {mk:(Nat→Int)→α} (h:K8 P t) (hc:P.cellsOf t=k) (hmk:∀ N:Nat→Int,f (mk N)=(List.range k).map fun j=>Value.int .i64 (N j))
  {H:Type} {enc:TypeId × Value→H} {w:World} {base:Nat} {spare:Nat→Bool} {held:Bool} (fuel:Nat) (cs:List Value) (x:DataW H × List MemPlace) (hx:DataW.trod enc P w base spare held fuel t cs=some x):∃ y:α,cs=f y∧True:=by
 obtain ⟨h1,h2⟩:=h _ _ _ _ _ _ _ _ _ hx
 have:∃ N:Nat→Int,∀ j,j < cs.length→cs[j]? = some (.int .i64 (N j)):=by
  refine ⟨fun j=>match cs[j]? with | some (.int _ n)=>n | _=>0,fun j hj=>?_⟩
  obtain ⟨n,hn⟩:=h2 j hj
  simp [hn]
 obtain ⟨N,hN⟩:=this
 refine ⟨mk N,?_,trivial⟩
 rw [hmk]
 apply List.ext_getElem?
 intro j
 by_cases hj:j < k
 ·rw [hN j (by omega),List.getElem?_map,List.getElem?_range hj];rfl
 ·rw [List.getElem?_eq_none (by omega),List.getElem?_eq_none (by simp;omega)]
end Go.Ax

/-! Arguments that point to what points: inner slices,rows of slices. -/
namespace Go.Ax
open Go Go.RowKit Go.Proofs Go.ChangeShapes Go.WideShapes Go.Deep

def zv (imps:List Imp):Ren:=fun b=>(imps[b]?).map fun x=>⟨x.blk,x.off,none⟩
theorem Za1 {P:Program} (imps outs:List Imp) (w:World) (h:∀ x∈imps,∀ (i:Nat) v,x.cs[i]? = some v→w.cell? ⟨x.blk,x.off+i,none⟩=some v∧YQ v=true)
  (hcs:∀ x∈outs,∀ (i:Nat) v,x.cs[i]? = some v→∃ v',w.cell? ⟨x.blk,x.off+i,none⟩=some v'∧VR (zv imps) v v') :
  ∃ (r:Ren) (H:Hp),Rel P r w.heap.size H w∧H.next=(imps ++ outs).length∧(∀ b loc,r b=some loc→b < H.next)∧Ren.Le (zv imps) r∧∀ (b:Nat) x,(imps ++ outs)[b]? = some x→r b=some ⟨x.blk,x.off,none⟩∧H.t.get b=some (.ro x.cs):=by
 have hall:∀ x∈imps ++ outs,∀ (i:Nat) v,x.cs[i]? = some v→∃ v',w.cell? ⟨x.blk,x.off+i,none⟩=some v'∧VR (zv imps) v v':=by
  intro x hx i v hv
  rcases List.mem_append.1 hx with hx | hx
  ·obtain ⟨h1,h2⟩:=h x hx i v hv
   exact ⟨v,h1,Us h2⟩
  ·exact hcs x hx i v hv
 obtain ⟨t,ht⟩:=Zcg (fun b=>((imps ++ outs)[b]?).map fun x=>.ro x.cs) (imps ++ outs).length
 have hle:Ren.Le (zv imps) (fun b=>((imps ++ outs)[b]?).map fun x=>⟨x.blk,x.off,none⟩):=fun b loc e=>by
  unfold zv at e
  have hlt:b < imps.length:=by
   rcases Nat.lt_or_ge b imps.length with q | q
   ·exact q
   ·rw [List.getElem?_eq_none q] at e;cases e
  show ((imps ++ outs)[b]?).map _=_
  rw [List.getElem?_append_left hlt];exact e
 have hr:∀ (b:Nat) loc,((imps ++ outs)[b]?).map (fun x=>(⟨x.blk,x.off,none⟩:Loc))=some loc→∃ x,(imps ++ outs)[b]? = some x∧b < (imps ++ outs).length∧loc=⟨x.blk,x.off,none⟩∧t.get b=some (.ro x.cs):=by
  intro b loc e
  cases hx:(imps ++ outs)[b]? with
  | none=>rw [hx] at e;cases e
  | some x=>
   rw [hx] at e
   simp at e
   have hlt:=K6 hx
   exact ⟨x,rfl,hlt,e.symm,by rw [ht,if_pos hlt,hx];rfl⟩
 have low:∀ {g o:Nat} {v:Value},w.cell? ⟨g,o,none⟩=some v→g < w.heap.size:=fun {g o v} hv=>by
  unfold World.cell? at hv
  rcases Nat.lt_or_ge g w.heap.size with q | q
  ·exact q
  ·rw [Array.getElem?_eq_none q] at hv;cases hv
 refine ⟨fun b=>((imps ++ outs)[b]?).map fun x=>⟨x.blk,x.off,none⟩,{ next:=(imps ++ outs).length,t },⟨?_,?_,?_,Nat.le_refl _⟩,rfl,?_,hle,?_⟩
 ·intro b loc e
  obtain ⟨x,hx,hlt,rfl,hg⟩:=hr b loc e
  refine ⟨hlt,?_⟩
  show Dm _ _ _ (t.get b)
  rw [hg]
  cases hc:x.cs with
  | nil=>exact .inl rfl
  | cons v l=>
   obtain ⟨v',h1,_⟩:=hall x (List.mem_of_getElem? hx) 0 v (by rw [hc];rfl)
   exact .inr (low h1)
 ·intro b loc o e eo
  obtain ⟨x,hx,hlt,rfl,hg⟩:=hr b loc e
  rw [hg] at eo;cases eo
  refine ⟨rfl,fun i v ev=>?_⟩
  obtain ⟨v',h1,h2⟩:=hall x (List.mem_of_getElem? hx) i v ev
  unfold World.cell? at h1
  simp only at h1
  split at h1
  ·rename_i C e' f hC
   exact ⟨C,e',f,v',hC,by simpa using h1,h2.mono hle⟩
  ·cases h1
 ·intro b b' loc loc' e e' _ hl _
  obtain ⟨x,hx,hlt,rfl,hg⟩:=hr b loc e
  obtain ⟨o,h1,h2,h3⟩:=hl
  have:t.get b=some o:=h1
  rw [hg] at this;cases this
  cases h3
 ·intro b loc e
  obtain ⟨x,hx,hlt,rfl,hg⟩:=hr b loc e
  exact hlt
 ·intro b x hx
  have hlt:=K6 hx
  refine ⟨by simp only [hx,Option.map_some],?_⟩
  show t.get b=_
  rw [ht,if_pos hlt,hx];rfl

structure Zc0 {α:Type} (w:World) (v:Value) (f:α→List Value) (l:List α) (x:Imp):Prop where
 ok:∀ (i:Nat) u,x.cs[i]? = some u→w.cell? ⟨x.blk,x.off+i,none⟩=some u∧YQ u=true
 cs:x.cs=l.flatMap f
 v:((v=.slice none 0 0∨∃ a',v=.slice (some a') 0 0)∧l=[])∨∃ cap,v=.slice (some ⟨x.blk,x.off,none⟩) l.length cap∧l.length≤cap
theorem Zc0.rel {α:Type} {w:World} {v:Value} {f:α→List Value} {l:List α} {x:Imp} (g:Zc0 w v f l x) {r:Ren} {b:Nat} (hr:r b=some ⟨x.blk,x.off,none⟩) :
  ∃ a cap,VR r (.slice a l.length cap) v∧(∀ y,a=some ⟨y,0,none⟩→y=b)∧∀ H:Hp,b < H.next→H.t.get b=some (.ro x.cs)→Sl H a l.length cap (l.flatMap f):=by
 rcases g.v with ⟨rfl | ⟨a',rfl⟩,rfl⟩ | ⟨cap,rfl,hl⟩
 ·exact ⟨none,0,.nilSlice,fun y e=>by (cases e),fun H _ _=>.inl ⟨.inl rfl,rfl,rfl,rfl⟩⟩
 ·exact ⟨some ⟨0,0,some 0⟩,0,.weird (.inl rfl),fun y e=>by (cases e),fun H _ _=>.inl ⟨.inr rfl,rfl,rfl,rfl⟩⟩
 ·refine ⟨some ⟨b,0,none⟩,cap,?_,fun y e=>by (cases e;rfl),fun H hb hc=>.inr ⟨b,rfl,⟨hb,by unfold cellsOf;rw [hc,g.cs]⟩,hl⟩⟩
  have:=VR.slice (o:=0) (n:=l.length) (c:=cap) hr rfl hl
  simpa using this
structure RV where
 rv:Value
 l:List Int
 x:Imp
def RV.f (r:RV):List Value:=[r.rv]
def RV.Q (w:World) (r:RV):Prop:=Zc0 w r.rv (fun n:Int=>[iv n]) r.l r.x
end Go.Ax

/-! What is Yn as_ arguments. -/
namespace Go.Ax
open Go Go.RowKit Go.Proofs Go.ChangeShapes Go.WideShapes Go.Deep

theorem KJ {P:Program} (pre:List Imp) {w:World} (h:∀ x∈pre,∀ (i:Nat) v,x.cs[i]? = some v→w.cell? ⟨x.blk,x.off+i,none⟩=some v∧YQ v=true) :
  ∃ (r:Ren) (H:Hp),Rel P r w.heap.size H w∧(∀ b loc,r b=some loc→b < H.next)∧(∀ (b:Nat) x,pre[b]? = some x→b < H.next∧r b=some ⟨x.blk,x.off,none⟩∧H.t.get b=some (.ro x.cs)):=by
 obtain ⟨r,H,h1,h2,h3,h4,h5⟩:=Za1 (P:=P) pre [] w h (fun x hx=>by simp at hx)
 refine ⟨r,H,h1,h3,fun b x hx=>?_⟩
 have:=K6 hx
 obtain ⟨a,c⟩:=h5 b x (by simpa using hx)
 exact ⟨by rw [h2];simpa using this,a,c⟩
end Go.Ax


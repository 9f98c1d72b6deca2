import Derived.Test.YtngkkiijcpdffaaMf
import Derived.Test.YtngkkiijcpdffaaChecked
import Derived.Deep.Slices
import Derived.Deep.Fields
import Derived.ChangeSame
set_option linter.all false
/-
 Pool: the law PermitEarliest (written by program).
-/
namespace Go.Ax
open Go Go.RowKit Go.Proofs

theorem YW {lo n:Nat} {S:Rg} {H:Hp} {d:Option Tmp} {ty:TypeId} {p:String} {x y:Operand} {b m c k:Nat} {j:Int} {cs:List Value} (hf:Fx H b cs) (hkm:k≤m) (hmc:m≤c) (hx:evS S x=some (.slice (some ⟨b,0,none⟩) m c)) (hy:evS S y=some (iv j)) (hj:j=(k:Int)):Zr Try.prog lo (frS n S) H ⟨d,.slice 42 x none (some y) none,ty,p,#[],none⟩=some (.val (.slice (some ⟨b,0,none⟩) k c) H,.read b):=by
 subst hj
 obtain ⟨i,hi,hs⟩:=i3z
 have hb:ZT (frS n S) m (some y)=some k:=by unfold ZT;simp only [Z8,hy]
 have hb0:ZT (frS n S) 0 none=some 0:=rfl
 obtain ⟨hbn,hg | ⟨e,hg⟩ | hg⟩:=hf
 ·unfold Zr
  simp only [Z8,hx,J8,hi,hb,hb0,hg,Nat.ble_eq_true_of_le (show k≤c by omega),Nat.ble_eq_true_of_le (Nat.zero_le k),Bool.and_self,cond_true,Nat.zero_mul,VD,Nat.sub_zero,Nat.add_zero]
  cases Nat.beq c 0<;>rfl
 ·unfold Zr
  simp only [Z8,hx,J8,hi,hb,hb0,hg,Nat.ble_eq_true_of_le (show k≤c by omega),Nat.ble_eq_true_of_le (Nat.zero_le k),Bool.and_self,cond_true,Nat.zero_mul,VD,Nat.sub_zero,Nat.add_zero]
  cases Nat.beq c 0<;>rfl
 ·unfold Zr
  simp only [Z8,hx,J8,hi,hb,hb0,hg,hs,Nat.beq_refl,Nat.ble_eq_true_of_le hkm,Nat.ble_eq_true_of_le (Nat.zero_le k),show Nat.beq 1 0=false from rfl,Bool.not_false,Bool.or_true,Bool.and_self,cond_true,Nat.zero_mul,VD,Nat.sub_zero,Nat.add_zero]
def cY (l:List Nat):List Value:=l.map fun n:Nat=>.int .u8 (n:Int)
theorem qR {l:List Nat} {i:Nat} (h:i < l.length):(cY l)[0+i * 1]? = some (.int .u8 ((l.getD i 0:Nat):Int)):=by
 unfold cY
 rw [Nat.zero_add,Nat.mul_one,List.getElem?_map,List.getD_eq_getElem?_getD,List.getElem?_eq_getElem h];rfl
theorem Zcm (l:List Nat):l.flatMap (fun n:Nat=>[Value.int .u8 (n:Int)])=cY l:=by
 induction l with
 | nil=>rfl
 | cons a l ih=>rw [List.flatMap_cons,ih];rfl
theorem Zdm {lo f:Nat} {H:Hp} {v:Value} {n:Nat} {cs:List Value} (h:Acc lo f 3 H v n cs):∀ b m c,v=.slice (some ⟨b,0,none⟩) m c→Fx H b cs:=by
 intro b m c e
 rcases h with ⟨_,_,rfl⟩ | ⟨b2,rfl,_,_,_,h1,h2⟩
 ·cases e
 ·cases e;exact ⟨h1,.inr (.inr h2)⟩
theorem Kr {loads:List Int} (h:loads.any (XG 72057594037927936)=false):∀ j,j < loads.length→0≤loads.getD j 0∧loads.getD j 0≤72057594037927936:=fun j hj=>K2 h _ (YA hj)
theorem Ww {H:Hp} {a:Option Addr} {n m cap:Nat} {cs:List Value} (h:Sl H a n cap cs) (h0:0 < n) (hm:m≤n):Sl H a m cap cs:=by
 rcases h with ⟨_,h1,_⟩ | ⟨b,e,r,q⟩
 ·omega
 ·exact .inr ⟨b,e,r,by omega⟩
theorem Vg {H:Hp} {a:Option Addr} {n cap:Nat} {cs:List Value} (h:Sl H a n cap cs) (h0:0 < n):∃ b,a=some ⟨b,0,none⟩:=by
 rcases h with ⟨_,h1,_⟩ | ⟨b,e,r,q⟩
 ·omega
 ·exact ⟨b,e⟩
theorem Vj {H:Hp} {a:Option Addr} {n cap:Nat} {cs:List Value} (h:Sl H a n cap cs):n≤cap:=by
 rcases h with ⟨_,h1,_⟩ | ⟨b,e,r,q⟩
 ·omega
 ·exact q
section
variable {kn:Kn} {lo:Nat} {H:Hp}
set_option maxRecDepth 100000 in
set_option maxHeartbeats 4000000 in
theorem zA (hkn:∀ f,kn.b f=none) {loads:List Int} {la:Option Addr} {n lcap:Nat} (hs:Sl H la n lcap (cI loads)) (hl:loads.length=n) (hfx:∀ b,la=some ⟨b,0,none⟩→Fx H b (cI loads)) {ns:List Ns} {na:Option Addr} {nn ncap:Nat} (hsn:Sl H na nn ncap (nsc ns)) (hln:ns.length=nn) {reach days limit frm to_:Int} {us:List Nat} {ba:Option Addr} {bn bc:Nat} (hb:Sl H ba bn bc (cY us)) (hbl:us.length=bn) (hbm:bn≤9223372036854775807) (hus:∀ x,x∈us→x≤255) {mj:Int} (hmj:0≤mj∧mj≤65535) (hlo:lo≤H.next):∃ H',FnX Try.prog kn lo 9 [.slice la n lcap,.slice na nn ncap,iv reach,iv days,iv limit,iv frm,iv to_,.slice ba bn bc,.int .u16 mj] H (.bool true) H':=by
 have key:=Zp (kn:=kn) (lo:=lo) (H:=H) (args:=[.slice la n lcap,.slice na nn ncap,iv reach,iv days,iv limit,iv frm,iv to_,.slice ba bn bc,.int .u16 mj]) (Q:=fun w H'=>w=.bool true) Try.func9 B9 N9 Z9 L9 (by simp) ?_
 ·obtain ⟨w,H',h,rfl⟩:=key;exact ⟨H',h⟩
 have hk:=Zk.refl H []
 have fs:=hs.old
 have fn:=hsn.old
 have fb:=hb.old
 obtain ⟨mo,hmo⟩:∃ mo:Nat,mj=(mo:Int):=⟨mj.toNat,by omega⟩
 refine Zc ?_
 refine Za (v:=.bool false) rfl ?_
 refine Zb ?_
 refine Zc ?_
 refine Za (v:=.slice la n lcap) rfl ?_
 refine Zv (m:=n) rfl ?_
 refine WM (a:=(n:Int)) (b:=20) rfl rfl ?_
 intro t1 g1;cases t1
 ·have g1:¬ ((n:Int) > 20):=of_decide_eq_false g1
  refine Za (v:=.bool false) rfl ?_
  refine Zl rfl (Za (v:=.slice na nn ncap) rfl ?_)
  refine Zl rfl (Zv (m:=nn) rfl ?_)
  refine Zl rfl (WM (a:=(nn:Int)) (b:=40) rfl rfl ?_)
  intro t2 g2;cases t2
  ·have g2:¬ ((nn:Int) > 40):=of_decide_eq_false g2
   refine Zd (v:=.bool false) rfl rfl ?_
   refine Za (v:=.bool false) rfl ?_
   refine Zl rfl (Za (v:=.slice ba bn bc) rfl ?_)
   refine Zl rfl (Zv (m:=bn) rfl ?_)
   refine Zl rfl (Xe (a:=(bn:Int)) (b:=0) rfl rfl ?_)
   intro t3 g3;cases t3
   ·have g3:¬ ((bn:Int)=0):=by simpa using g3
    refine Zd (v:=.bool false) rfl rfl ?_
    refine Zb ?_
    refine ZQ ?_
    first | refine Zj ?_ | skip
    refine Zc ?_
    refine Za (v:=.slice la n lcap) rfl ?_
    refine Za (v:=.slice na nn ncap) rfl ?_
    refine Za (v:=iv reach) rfl ?_
    refine Za (v:=iv days) rfl ?_
    refine Za (v:=iv limit) rfl ?_
    refine Za (v:=iv frm) rfl ?_
    refine Za (v:=iv to_) rfl ?_
    obtain ⟨vs1,H1,fH1,hac1,kH1⟩:=XF (kn:=kn) (lo:=lo) (H:=H) hs hl (by omega) hsn hln (by omega) (reach:=reach) (days:=days) (limit:=limit) (frm:=frm) (to_:=to_) (hkn 35) (by omega)
    obtain ⟨p,e,hse⟩:∃ p e,(seT loads ns reach days limit frm to_)=(p,e):=⟨_,_,rfl⟩;rw [hse] at fH1 hac1;have hom:=Zei hse
    refine Zi (vs:=[.slice la n lcap,.slice na nn ncap,iv reach,iv days,iv limit,iv frm,iv to_]) rfl (Ze fH1) ?_
    have mH1:=kH1.1
    have hk:=hk.trans kH1
    have hs:=kH1.sl0 hs
    have hsn:=kH1.sl0 hsn
    have hb:=kH1.sl0 hb
    simp only [] at hac1;have hpf:=Zdm hac1;obtain ⟨sa1,sc1,rfl,hsc1,_⟩:=hac1.sl;have fsc1:=hsc1.old;have hk1:=Zk.refl H1 []
    refine Za (v:=.tuple #[.slice sa1 p.length sc1,iv e]) rfl ?_
    refine Zd (v:=.slice sa1 p.length sc1) rfl (by kernel_rfl) ?_
    refine Zd (v:=iv e) rfl (by kernel_rfl) ?_
    refine Za (v:=.slice sa1 p.length sc1) rfl ?_
    refine Za (v:=iv e) rfl ?_
    refine Zb ?_
    refine Zc ?_
    refine Za (v:=iv e) rfl ?_
    refine ZS (a:=e) (b:=0) rfl rfl ?_
    intro t4 g4;cases t4
    ·have g4:¬ (e≠0):=by simpa using g4
     refine Za (v:=.bool false) rfl ?_
     refine Zh rfl ?_
     refine Zh rfl ?_
     refine Zd (v:=.bool false) rfl rfl ?_
     refine Zb ?_
     refine ZQ ?_
     first | refine Zj ?_ | skip
     refine Zc ?_
     refine Za (v:=iv days) rfl ?_
     refine Xc (a:=days) (b:=1) rfl rfl ?_
     intro t5 g5;cases t5
     ·have g5:¬ (days < 1):=of_decide_eq_false g5
      refine Za (v:=.bool false) rfl ?_
      refine Zl rfl (Za (v:=iv frm) rfl ?_)
      refine Zl rfl (Xc (a:=frm) (b:=0) rfl rfl ?_)
      intro t6 g6;cases t6
      ·have g6:¬ (frm < 0):=of_decide_eq_false g6
       refine Zd (v:=.bool false) rfl rfl ?_
       refine Za (v:=.bool false) rfl ?_
       refine Zl rfl (Za (v:=iv frm) rfl ?_)
       refine Zl rfl (WM (a:=frm) (b:=16384) rfl rfl ?_)
       intro t7 g7;cases t7
       ·have g7:¬ (frm > 16384):=of_decide_eq_false g7
        refine Zd (v:=.bool false) rfl rfl ?_
        refine Za (v:=.bool false) rfl ?_
        refine Zl rfl (Za (v:=iv e) rfl ?_)
        refine Zl rfl (Xe (a:=e) (b:=0) rfl rfl ?_)
        intro t8 g8;cases t8
        ·have g8:¬ (e=0):=by simpa using g8
         refine Zl rfl (Za (v:=.bool false) rfl ?_)
         refine Zh rfl ?_
         refine Zh rfl ?_
         refine Zh rfl ?_
         refine Zh rfl ?_
         refine Zh rfl ?_
         refine Zh rfl ?_
         refine Zh rfl ?_
         refine Zh rfl ?_
         refine Zh rfl ?_
         refine Zh rfl ?_
         refine Zl rfl (Zd (v:=.bool false) rfl rfl ?_)
         refine Zd (v:=.bool false) rfl rfl ?_
         refine Za (v:=.bool false) rfl ?_
         refine Zl rfl (Za (v:=iv e) rfl ?_)
         refine Zl rfl (ZS (a:=e) (b:=0) rfl rfl ?_)
         intro t9 g9;cases t9
         ·have g9:¬ (e≠0):=by simpa using g9
          omega
         ·have g9:e≠0:=by simpa using g9
          refine Zl rfl (Za (v:=.bool true) rfl ?_)
          refine Zl rfl (Za (v:=.slice sa1 p.length sc1) rfl ?_)
          refine Zl rfl (Zv (m:=p.length) rfl ?_)
          refine Zl rfl (WM (a:=(p.length:Int)) (b:=0) rfl rfl ?_)
          intro t10 g10;cases t10
          ·have g10:¬ ((p.length:Int) > 0):=of_decide_eq_false g10
           refine Zl rfl (Zd (v:=.bool false) rfl rfl ?_)
           refine Zd (v:=.bool false) rfl rfl ?_
           refine Zb ?_
           refine ZQ ?_
           first | refine Zj ?_ | skip
           refine Zc ?_
           refine Za (v:=.slice none 0 0) rfl ?_
           refine Zb ?_
           refine Zc ?_
           refine Za (v:=iv frm) rfl ?_
           refine Za (v:=iv frm) rfl ?_
           refine Zb ?_
           refine Zc ?_
           refine Za (v:=iv 0) rfl ?_
           refine Zb ?_
           refine Zt (fn:=Try.f9) Zb0 N9 Zcd (fun z:Nat × Value × Int=>[(0,.slice la n lcap),(1,.slice na nn ncap),(2,iv reach),(3,iv days),(4,iv limit),(5,iv frm),(6,iv to_),(7,.slice ba bn bc),(8,.int .u16 mj),(18,.bool false),(19,.slice sa1 p.length sc1),(20,iv e),(21,z.2.1),(22,iv z.2.2),(23,iv (z.1:Int))])
            (fun k z H'=>z.1+k=n∧Zk H H' []∧Zk H1 H' []∧Sl H' la n lcap (cI loads)∧Sl H' na nn ncap (nsc ns)∧Sl H' ba bn bc (cY us)∧Sl H' sa1 p.length sc1 (cI p)∧(0≤z.2.2∧z.2.2≤16384+400 * (z.1:Int))∧∃ ot:List Int,ot.length=z.1∧Acc lo H1.next 3 H' z.2.1 z.1 (cI ot)) n (0,.slice none 0 0,frm) ⟨by simp,hk,hk1,hs,hsn,hb,hsc1,by simp only [];omega,[],rfl,.inl ⟨rfl,rfl,rfl⟩⟩ ⟨rfl,rfl,rfl,rfl,rfl,rfl,rfl,rfl,rfl,rfl,rfl,rfl,rfl,rfl,rfl,trivial⟩ ?_
           rintro k ⟨i,wv,at_⟩ L1 ⟨hik,hk,hk1,hs,hsn,hb,hsc1,hat,ot,hol,hacc⟩
           simp only [] at hik hacc hat
           have mk:=hk.1;have mk1:=hk1.1;have kacc:=Zk.refl L1 []
           refine Zc ?_
           refine Za (v:=iv (i:Int)) rfl ?_
           refine Za (v:=.slice la n lcap) rfl ?_
           refine Zv (m:=n) rfl ?_
           refine Zx (a:=(i:Int)) (b:=(n:Int)) rfl rfl ?_
           refine Zb ?_
           refine And.intro (fun q11=>?_) (fun q11=>?_)
           ·have q11:(i:Int) < (n:Int):=of_decide_eq_true q11
            have hi:i < n:=by omega
            rcases id hb with ⟨_,h0y,_⟩ | ⟨yb,ey,ry,_⟩
            ·omega
            have ly:=ry.1
            have lyb2:=fb yb ey;simp only [] at hol
            have e1a:=Int.emod_nonneg (i:Int) (b:=(bn:Int)) (by omega);have e1b:=Int.emod_lt_of_pos (i:Int) (b:=(bn:Int)) (by omega)
            have zu:i % bn < us.length:=by rw [hbl];exact Nat.mod_lt _ (by omega)
            obtain ⟨u,eu⟩:∃ u:Nat,us.getD (i % bn) 0=u:=⟨_,rfl⟩;have hu:u≤255:=eu ▸ hus _ (YA (z:=0) zu)
            have e2a:=Int.emod_nonneg (u:Int) (b:=days+3) (by omega);have e2b:=Int.emod_lt_of_pos (u:Int) (b:=days+3) (by omega)
            first | refine Zj ?_ | skip
            refine Zc ?_
            refine Za (v:=iv at_) rfl ?_
            refine Za (v:=.slice ba bn bc) rfl ?_
            refine Za (v:=iv (i:Int)) rfl ?_
            refine Za (v:=.slice ba bn bc) rfl ?_
            refine Zv (m:=bn) rfl ?_
            refine VE (a:=(i:Int)) (b:=(bn:Int)) rfl rfl (by omega) (by omega) ⟨by omega,by omega⟩ ⟨by omega,by omega⟩ ?_
            refine YS (b:=yb) (o:=0) (k:=i % bn) (j:=(i:Int) % (bn:Int)) (by rw [← ey];rfl) rfl (Int.natCast_emod i bn).symm (Nat.mod_lt _ (by omega)) ?_
            refine ZP (b:=yb) (o:=0+(i % bn) * 1) (v:=.int .u8 (u:Int)) rfl ry (by rw [← eu];exact qR zu) ?_
            refine Zd (v:=iv (u:Int)) rfl (ZbV (n:=u) (j:=(u:Int)) (by omega) rfl rfl) ?_
            refine Za (v:=iv days) rfl ?_
            refine Zo (a:=days) (b:=3) rfl rfl ⟨by omega,by omega⟩ ?_
            refine VE (a:=(u:Int)) (b:=days+3) rfl rfl (by omega) (by omega) ⟨by omega,by omega⟩ ⟨by omega,by omega⟩ ?_
            refine Zo (a:=at_) (b:=(u:Int) % (days+3)) rfl rfl ⟨by omega,by omega⟩ ?_
            refine Za (v:=iv (at_+((u:Int) % (days+3)))) rfl ?_
            refine Zb ?_
            refine Zc ?_
            refine Za (v:=wv) rfl ?_
            refine Za (v:=iv (at_+((u:Int) % (days+3)))) rfl ?_
            obtain ⟨H2,hH2⟩:∃ H2,L1.new (.cells [iv (at_+((u:Int) % (days+3)))] 3 false)=H2:=⟨_,rfl⟩
            refine ZN (H':=H2) (k:=.heavy) rfl (by kernel_rfl) ((YE (v:=iv (at_+((u:Int) % (days+3)))) UV zo3 rfl rfl rfl (by decide)).trans (by rw [← hH2];rfl)) (fun b e=>by cases e) ?_
            obtain ⟨kH2,nH2,c2⟩:=Z2 hH2;clear hH2
            have c2:Cl H2 L1.next [iv (at_+((u:Int) % (days+3)))]:=c2
            have mH2:=kH2.1
            have hk:=hk.trans kH2
            have hs:=kH2.sl0 hs
            have hsn:=kH2.sl0 hsn
            have hb:=kH2.sl0 hb
            have hk1:=hk1.trans kH2
            have hsc1:=kH2.sl0 hsc1
            have kacc:=kacc.trans kH2
            have ry:=kH2.rd ry (by simp)
            obtain ⟨H3,kdH3,eH3,dH3,aH3,kbH3⟩:=YJ (P:=Try.prog) (lo:=lo) (k:=i) (t1:=42) UV J8 (c2.sl (Nat.le_refl 1)) rfl (by decide) rfl (by rw [Uf,hol];omega) (by omega) (hacc.keep kacc) (by omega) (by omega)
            refine ZN (k:=kdH3) rfl (by cases wv<;>kernel_rfl) (eH3 _ _ _ _ _ _ _ rfl rfl) (UT dH3 _) ?_
            have hk:=kbH3.keep hk (by omega)
            have hs:=kbH3.sl hs (fun b e=>by have:=fs b e;omega)
            have hsn:=kbH3.sl hsn (fun b e=>by have:=fn b e;omega)
            have hb:=kbH3.sl hb (fun b e=>by have:=fb b e;omega)
            have hk1:=kbH3.keep hk1 (by omega)
            have hsc1:=kbH3.sl hsc1 (fun b e=>by have:=fsc1 b e;omega)
            have mH3:=kbH3.1
            refine Za (v:=.slice (some ⟨H2.next,0,none⟩) (i+1) (i+1)) rfl ?_
            refine Zb ?_
            first | refine Z0 ?_ | refine Xg ?_ | refine YR ?_ | (refine Z5 ?_;refine Z0 ?_)
            refine Za (v:=iv (at_+((u:Int) % (days+3)))) rfl ?_
            refine Zo (a:=at_+((u:Int) % (days+3))) (b:=1) rfl rfl ⟨by omega,by omega⟩ ?_
            refine Za (v:=iv ((at_+((u:Int) % (days+3)))+1)) rfl ?_
            refine Zb ?_
            first | refine Z0 ?_ | refine Xg ?_ | refine YR ?_ | (refine Z5 ?_;refine Z0 ?_)
            refine Za (v:=iv (i:Int)) rfl ?_
            refine Zo (a:=(i:Int)) (b:=1) rfl rfl ⟨by omega,by omega⟩ ?_
            refine Za (v:=iv ((i:Int)+1)) rfl ?_
            refine Zb ?_
            have hacc2:Acc lo H1.next 3 H3 (.slice (some ⟨H2.next,0,none⟩) (i+1) (i+1)) (i+1) (cI (ot ++ [at_+((u:Int) % (days+3))])):=by rw [U8];exact aH3
            exact ⟨k - 1,(i+1,_,(at_+((u:Int) % (days+3)))+1),by omega,⟨by simp only [];omega,hk,hk1,hs,hsn,hb,hsc1,by simp only [];omega,_,by rw [List.length_append,hol];rfl,hacc2⟩,rfl,rfl,rfl,rfl,rfl,rfl,rfl,rfl,rfl,rfl,rfl,rfl,rfl,rfl,ivq (by simp only [];omega),trivial⟩
           ·have q11:¬ ((i:Int) < (n:Int)):=of_decide_eq_false q11
            have ein:i=n:=by omega
            simp only [] at hol;rw [ein] at hacc hol;obtain ⟨oa,oc,rfl,hso,_⟩:=hacc.sl;have fso:=hso.old
            first | (refine Zy ?_;show wC _ _ _ _ _ _ _ _ _) | skip
            refine Zc ?_
            refine Za (v:=.slice la n lcap) rfl ?_
            refine Za (v:=.slice oa n oc) rfl ?_
            refine Za (v:=.slice na nn ncap) rfl ?_
            refine Za (v:=iv reach) rfl ?_
            refine Za (v:=iv days) rfl ?_
            refine Za (v:=iv limit) rfl ?_
            refine Za (v:=iv frm) rfl ?_
            refine Za (v:=iv to_) rfl ?_
            obtain ⟨_,_,hany,_,_,_,_,_,_⟩:=V3 hse (by omega)
            obtain ⟨tg,H4,fH4,hg1,_,kH4⟩:=VW (kn:=kn) (lo:=lo) (H:=L1) hs hl (by omega) hso hol (by omega) hsn hln (by omega) (reach:=reach) (days:=days) (limit:=limit) (frm:=frm) (to_:=to_) (Kr hany) (by omega) (by omega) (by omega) (by omega)
            refine Zi (vs:=[.slice la n lcap,.slice oa n oc,.slice na nn ncap,iv reach,iv days,iv limit,iv frm,iv to_]) rfl (Ze fH4) ?_
            have mH4:=kH4.1
            have hk:=hk.trans kH4
            have hs:=kH4.sl0 hs
            have hsn:=kH4.sl0 hsn
            have hb:=kH4.sl0 hb
            have hk1:=hk1.trans kH4
            have hsc1:=kH4.sl0 hsc1
            have hso:=kH4.sl0 hso
            refine Zb ?_
            refine And.intro (fun q12=>?_) (fun q12=>?_)
            ·have q12:tg=true:=by simpa using q12
             have hgo:=hg1 (by simpa using q12);obtain ⟨he0b,hleo⟩:=UF hse (by omega) hgo;have hlo2:=hleo.len
             refine Zc ?_
             refine Za (v:=iv e) rfl ?_
             refine X6 (a:=e) (b:=0) rfl rfl ?_
             refine Zb ?_
             refine And.intro (fun q13=>?_) (fun q13=>?_)
             ·have q13:e≠0:=by simpa using q13
              omega
             ·have q13:¬ (e≠0):=by simpa using q13
              first | refine Zj ?_ | skip
              refine Zc ?_
              refine Za (v:=iv 0) rfl ?_
              refine Zb ?_
              refine Zt (fn:=Try.f9) Zcf N9 Zcj (fun i:Nat=>[(0,.slice la n lcap),(1,.slice na nn ncap),(2,iv reach),(3,iv days),(4,iv limit),(5,iv frm),(6,iv to_),(7,.slice ba bn bc),(8,.int .u16 mj),(18,.bool false),(19,.slice sa1 p.length sc1),(20,iv e),(21,.slice oa n oc),(24,iv (i:Int))])
               (fun k i H'=>i+k=n∧Zk H H' []∧Zk H1 H' []∧Sl H' la n lcap (cI loads)∧Sl H' na nn ncap (nsc ns)∧Sl H' ba bn bc (cY us)∧Sl H' sa1 p.length sc1 (cI p)∧Sl H' oa n oc (cI ot)) n 0 ⟨by omega,hk,hk1,hs,hsn,hb,hsc1,hso⟩ ⟨rfl,rfl,rfl,rfl,rfl,rfl,rfl,rfl,rfl,rfl,rfl,rfl,rfl,rfl,trivial⟩ ?_
              rintro k i L2 ⟨hik,hk,hk1,hs,hsn,hb,hsc1,hso⟩
              have mk:=hk.1;have mk1:=hk1.1
              refine Zc ?_
              refine Za (v:=iv (i:Int)) rfl ?_
              refine Za (v:=.slice oa n oc) rfl ?_
              refine Zv (m:=n) rfl ?_
              refine Zx (a:=(i:Int)) (b:=(n:Int)) rfl rfl ?_
              refine Zb ?_
              refine And.intro (fun q14=>?_) (fun q14=>?_)
              ·have q14:(i:Int) < (n:Int):=of_decide_eq_true q14
               have hi:i < n:=by omega
               rcases id hso with ⟨_,h0o,_⟩ | ⟨ob,eo,ro,_⟩
               ·omega
               have lo:=ro.1
               rcases id hsc1 with ⟨_,h0q,_⟩ | ⟨qb,eq,rq,_⟩
               ·omega
               have lq:=rq.1
               have lob2:=fso ob eo;have lqb2:=fsc1 qb eq;have hiat:=hleo.at (i:=i) (by omega)
               first | refine Zj ?_ | skip
               refine Yq ?_
               refine Zg (v:=.slice oa n oc) rfl ?_
               refine Zg (v:=iv (i:Int)) rfl ?_
               refine ZC (b:=ob) (o:=0) (k:=i) (j:=(i:Int)) (by rw [← eo];rfl) rfl rfl hi ?_
               refine Yf (b:=ob) (o:=0+i * 1) (v:=iv (ot.getD i 0)) rfl ro (YI (by omega)) ?_
               refine Zg (v:=.slice sa1 p.length sc1) rfl ?_
               refine Zg (v:=iv (i:Int)) rfl ?_
               refine ZC (b:=qb) (o:=0) (k:=i) (j:=(i:Int)) (by rw [← eq];rfl) rfl rfl (by omega) ?_
               refine Yf (b:=qb) (o:=0+i * 1) (v:=iv (p.getD i 0)) rfl rq (YI (by omega)) ?_
               refine Wp (a:=(ot.getD i 0)) (b:=(p.getD i 0)) rfl rfl ?_
               refine ZL (by repeat' first | exact True.intro | exact (fun h=>h) | refine And.intro ?_ ?_ | (intro h;have h:(_:Nat)=_:=h;omega)) ?_
               refine And.intro (fun q15=>?_) (fun q15=>?_)
               ·have q15:(ot.getD i 0) < (p.getD i 0):=of_decide_eq_true q15
                omega
               ·have q15:¬ ((ot.getD i 0) < (p.getD i 0)):=of_decide_eq_false q15
                first | refine Zj ?_ | skip
                first | refine Z0 ?_ | refine Xg ?_ | refine YR ?_ | (refine Z5 ?_;refine Z0 ?_)
                refine Za (v:=iv (i:Int)) rfl ?_
                refine Zo (a:=(i:Int)) (b:=1) rfl rfl ⟨by omega,by omega⟩ ?_
                refine Za (v:=iv ((i:Int)+1)) rfl ?_
                refine Zb ?_
                exact ⟨k - 1,i+1,by omega,⟨by omega,hk,hk1,hs,hsn,hb,hsc1,hso⟩,rfl,rfl,rfl,rfl,rfl,rfl,rfl,rfl,rfl,rfl,rfl,rfl,rfl,ivq (by omega),trivial⟩
              ·have q14:¬ ((i:Int) < (n:Int)):=of_decide_eq_false q14
               first | (refine Zy ?_;show wC _ _ _ _ _ _ _ _ _) | skip
               refine Zc ?_
               refine Za (v:=iv e) rfl ?_
               refine ZS (a:=e) (b:=0) rfl rfl ?_
               intro t16 g16;cases t16
               ·have g16:¬ (e≠0):=by simpa using g16
                omega
               ·have g16:e≠0:=by simpa using g16
                refine Za (v:=.bool true) rfl ?_
                refine Zh rfl ?_
                refine Zh rfl ?_
                refine Zh rfl ?_
                refine Zd (v:=.bool true) rfl rfl ?_
                refine Zb ?_
                refine ZK ?_
                refine Zc ?_
                obtain ⟨H5,fH5,kH5⟩:=Yz (kn:=kn) (lo:=lo) (H:=L2) hkn (by omega)
                refine Zi (vs:=[]) rfl (ZF (hkn 11) fH5) ?_
                have mH5:=kH5.1
                have hk:=hk.trans kH5
                have hs:=kH5.sl0 hs
                have hsn:=kH5.sl0 hsn
                have hb:=kH5.sl0 hb
                have hk1:=hk1.trans kH5
                have hsc1:=kH5.sl0 hsc1
                have hso:=kH5.sl0 hso
                refine Za (v:=.bool true) rfl ?_
                refine Zb ?_
                exact And.intro trivial (Exists.intro _ (And.intro rfl rfl))
            ·have q12:¬ (tg=true):=by simpa using q12
             first | refine Zj ?_ | skip
             refine Zc ?_
             refine Za (v:=iv e) rfl ?_
             refine ZS (a:=e) (b:=0) rfl rfl ?_
             intro t17 g17;cases t17
             ·have g17:¬ (e≠0):=by simpa using g17
              omega
             ·have g17:e≠0:=by simpa using g17
              refine Za (v:=.bool true) rfl ?_
              refine Zh rfl ?_
              refine Zh rfl ?_
              refine Zh rfl ?_
              refine Zd (v:=.bool true) rfl rfl ?_
              refine Zb ?_
              refine ZK ?_
              refine Zc ?_
              obtain ⟨H6,fH6,kH6⟩:=Yz (kn:=kn) (lo:=lo) (H:=H4) hkn (by omega)
              refine Zi (vs:=[]) rfl (ZF (hkn 11) fH6) ?_
              have mH6:=kH6.1
              have hk:=hk.trans kH6
              have hs:=kH6.sl0 hs
              have hsn:=kH6.sl0 hsn
              have hb:=kH6.sl0 hb
              have hk1:=hk1.trans kH6
              have hsc1:=kH6.sl0 hsc1
              have hso:=kH6.sl0 hso
              refine Za (v:=.bool true) rfl ?_
              refine Zb ?_
              exact And.intro trivial (Exists.intro _ (And.intro rfl rfl))
          ·have g10:(p.length:Int) > 0:=of_decide_eq_true g10
           refine Zl rfl (Zd (v:=.bool true) rfl rfl ?_)
           refine Zd (v:=.bool true) rfl rfl ?_
           refine Zb ?_
           refine ZK ?_
           refine Zc ?_
           refine Za (v:=.bool false) rfl ?_
           refine Zb ?_
           exact (show False by omega).elim
        ·have g8:e=0:=by simpa using g8
         refine Zl rfl (Za (v:=.bool true) rfl ?_)
         refine Zl rfl (Za (v:=.slice la n lcap) rfl ?_)
         refine Zl rfl (Za (v:=.slice sa1 p.length sc1) rfl ?_)
         refine Zl rfl (Za (v:=.slice na nn ncap) rfl ?_)
         refine Zl rfl (Za (v:=iv reach) rfl ?_)
         refine Zl rfl (Za (v:=iv days) rfl ?_)
         refine Zl rfl (Za (v:=iv limit) rfl ?_)
         refine Zl rfl (Za (v:=iv frm) rfl ?_)
         refine Zl rfl (Za (v:=iv to_) rfl ?_)
         have he0:e=0:=by omega
         obtain ⟨_,_,hany,_,_,_,_,_,_⟩:=V3 hse (.inl he0);have hpg:=(QI (show (seT loads ns reach days limit frm to_)=(p,0) by rw [hse,he0])).1
         obtain ⟨tH7,H7,fH7,_,htH7,kH7⟩:=VW (kn:=kn) (lo:=lo) (H:=H1) hs hl (by omega) hsc1 rfl (by omega) hsn hln (by omega) (reach:=reach) (days:=days) (limit:=limit) (frm:=frm) (to_:=to_) (Kr hany) (by omega) (by omega) (by omega) (by first | omega | (simp only [cond_true];omega) | (simp only [cond_false];omega));obtain rfl:=htH7 hpg
         refine Zl rfl (Zi (vs:=[.slice la n lcap,.slice sa1 p.length sc1,.slice na nn ncap,iv reach,iv days,iv limit,iv frm,iv to_]) rfl (Ze fH7) ?_)
         have mH7:=kH7.1
         have hk:=hk.trans kH7
         have hs:=kH7.sl0 hs
         have hsn:=kH7.sl0 hsn
         have hb:=kH7.sl0 hb
         have hsc1:=kH7.sl0 hsc1
         have hk1:=hk1.trans kH7
         refine Zl rfl (Zd (v:=.bool false) rfl rfl ?_)
         refine Zl rfl (Zd (v:=.bool false) rfl rfl ?_)
         refine Zd (v:=.bool false) rfl rfl ?_
         refine Za (v:=.bool false) rfl ?_
         refine Zl rfl (Za (v:=iv e) rfl ?_)
         refine Zl rfl (ZS (a:=e) (b:=0) rfl rfl ?_)
         intro t18 g18;cases t18
         ·have g18:¬ (e≠0):=by simpa using g18
          refine Zl rfl (Za (v:=.bool false) rfl ?_)
          refine Zh rfl ?_
          refine Zh rfl ?_
          refine Zh rfl ?_
          refine Zl rfl (Zd (v:=.bool false) rfl rfl ?_)
          refine Zd (v:=.bool false) rfl rfl ?_
          refine Zb ?_
          refine ZQ ?_
          first | refine Zj ?_ | skip
          refine Zc ?_
          refine Za (v:=.slice none 0 0) rfl ?_
          refine Zb ?_
          refine Zc ?_
          refine Za (v:=iv frm) rfl ?_
          refine Za (v:=iv frm) rfl ?_
          refine Zb ?_
          refine Zc ?_
          refine Za (v:=iv 0) rfl ?_
          refine Zb ?_
          refine Zt (fn:=Try.f9) Zb0 N9 Zcd (fun z:Nat × Value × Int=>[(0,.slice la n lcap),(1,.slice na nn ncap),(2,iv reach),(3,iv days),(4,iv limit),(5,iv frm),(6,iv to_),(7,.slice ba bn bc),(8,.int .u16 mj),(18,.bool false),(19,.slice sa1 p.length sc1),(20,iv e),(21,z.2.1),(22,iv z.2.2),(23,iv (z.1:Int))])
           (fun k z H'=>z.1+k=n∧Zk H H' []∧Zk H1 H' []∧Sl H' la n lcap (cI loads)∧Sl H' na nn ncap (nsc ns)∧Sl H' ba bn bc (cY us)∧Sl H' sa1 p.length sc1 (cI p)∧(0≤z.2.2∧z.2.2≤16384+400 * (z.1:Int))∧∃ ot:List Int,ot.length=z.1∧Acc lo H1.next 3 H' z.2.1 z.1 (cI ot)) n (0,.slice none 0 0,frm) ⟨by simp,hk,hk1,hs,hsn,hb,hsc1,by simp only [];omega,[],rfl,.inl ⟨rfl,rfl,rfl⟩⟩ ⟨rfl,rfl,rfl,rfl,rfl,rfl,rfl,rfl,rfl,rfl,rfl,rfl,rfl,rfl,rfl,trivial⟩ ?_
          rintro k ⟨i,wv,at_⟩ L1 ⟨hik,hk,hk1,hs,hsn,hb,hsc1,hat,ot,hol,hacc⟩
          simp only [] at hik hacc hat
          have mk:=hk.1;have mk1:=hk1.1;have kacc:=Zk.refl L1 []
          refine Zc ?_
          refine Za (v:=iv (i:Int)) rfl ?_
          refine Za (v:=.slice la n lcap) rfl ?_
          refine Zv (m:=n) rfl ?_
          refine Zx (a:=(i:Int)) (b:=(n:Int)) rfl rfl ?_
          refine Zb ?_
          refine And.intro (fun q19=>?_) (fun q19=>?_)
          ·have q19:(i:Int) < (n:Int):=of_decide_eq_true q19
           have hi:i < n:=by omega
           rcases id hb with ⟨_,h0y,_⟩ | ⟨yb,ey,ry,_⟩
           ·omega
           have ly:=ry.1
           have lyb2:=fb yb ey;simp only [] at hol
           have e1a:=Int.emod_nonneg (i:Int) (b:=(bn:Int)) (by omega);have e1b:=Int.emod_lt_of_pos (i:Int) (b:=(bn:Int)) (by omega)
           have zu:i % bn < us.length:=by rw [hbl];exact Nat.mod_lt _ (by omega)
           obtain ⟨u,eu⟩:∃ u:Nat,us.getD (i % bn) 0=u:=⟨_,rfl⟩;have hu:u≤255:=eu ▸ hus _ (YA (z:=0) zu)
           have e2a:=Int.emod_nonneg (u:Int) (b:=days+3) (by omega);have e2b:=Int.emod_lt_of_pos (u:Int) (b:=days+3) (by omega)
           first | refine Zj ?_ | skip
           refine Zc ?_
           refine Za (v:=iv at_) rfl ?_
           refine Za (v:=.slice ba bn bc) rfl ?_
           refine Za (v:=iv (i:Int)) rfl ?_
           refine Za (v:=.slice ba bn bc) rfl ?_
           refine Zv (m:=bn) rfl ?_
           refine VE (a:=(i:Int)) (b:=(bn:Int)) rfl rfl (by omega) (by omega) ⟨by omega,by omega⟩ ⟨by omega,by omega⟩ ?_
           refine YS (b:=yb) (o:=0) (k:=i % bn) (j:=(i:Int) % (bn:Int)) (by rw [← ey];rfl) rfl (Int.natCast_emod i bn).symm (Nat.mod_lt _ (by omega)) ?_
           refine ZP (b:=yb) (o:=0+(i % bn) * 1) (v:=.int .u8 (u:Int)) rfl ry (by rw [← eu];exact qR zu) ?_
           refine Zd (v:=iv (u:Int)) rfl (ZbV (n:=u) (j:=(u:Int)) (by omega) rfl rfl) ?_
           refine Za (v:=iv days) rfl ?_
           refine Zo (a:=days) (b:=3) rfl rfl ⟨by omega,by omega⟩ ?_
           refine VE (a:=(u:Int)) (b:=days+3) rfl rfl (by omega) (by omega) ⟨by omega,by omega⟩ ⟨by omega,by omega⟩ ?_
           refine Zo (a:=at_) (b:=(u:Int) % (days+3)) rfl rfl ⟨by omega,by omega⟩ ?_
           refine Za (v:=iv (at_+((u:Int) % (days+3)))) rfl ?_
           refine Zb ?_
           refine Zc ?_
           refine Za (v:=wv) rfl ?_
           refine Za (v:=iv (at_+((u:Int) % (days+3)))) rfl ?_
           obtain ⟨H8,hH8⟩:∃ H8,L1.new (.cells [iv (at_+((u:Int) % (days+3)))] 3 false)=H8:=⟨_,rfl⟩
           refine ZN (H':=H8) (k:=.heavy) rfl (by kernel_rfl) ((YE (v:=iv (at_+((u:Int) % (days+3)))) UV zo3 rfl rfl rfl (by decide)).trans (by rw [← hH8];rfl)) (fun b e=>by cases e) ?_
           obtain ⟨kH8,nH8,c8⟩:=Z2 hH8;clear hH8
           have c8:Cl H8 L1.next [iv (at_+((u:Int) % (days+3)))]:=c8
           have mH8:=kH8.1
           have hk:=hk.trans kH8
           have hs:=kH8.sl0 hs
           have hsn:=kH8.sl0 hsn
           have hb:=kH8.sl0 hb
           have hk1:=hk1.trans kH8
           have hsc1:=kH8.sl0 hsc1
           have kacc:=kacc.trans kH8
           have ry:=kH8.rd ry (by simp)
           obtain ⟨H9,kdH9,eH9,dH9,aH9,kbH9⟩:=YJ (P:=Try.prog) (lo:=lo) (k:=i) (t1:=42) UV J8 (c8.sl (Nat.le_refl 1)) rfl (by decide) rfl (by rw [Uf,hol];omega) (by omega) (hacc.keep kacc) (by omega) (by omega)
           refine ZN (k:=kdH9) rfl (by cases wv<;>kernel_rfl) (eH9 _ _ _ _ _ _ _ rfl rfl) (UT dH9 _) ?_
           have hk:=kbH9.keep hk (by omega)
           have hs:=kbH9.sl hs (fun b e=>by have:=fs b e;omega)
           have hsn:=kbH9.sl hsn (fun b e=>by have:=fn b e;omega)
           have hb:=kbH9.sl hb (fun b e=>by have:=fb b e;omega)
           have hk1:=kbH9.keep hk1 (by omega)
           have hsc1:=kbH9.sl hsc1 (fun b e=>by have:=fsc1 b e;omega)
           have mH9:=kbH9.1
           refine Za (v:=.slice (some ⟨H8.next,0,none⟩) (i+1) (i+1)) rfl ?_
           refine Zb ?_
           first | refine Z0 ?_ | refine Xg ?_ | refine YR ?_ | (refine Z5 ?_;refine Z0 ?_)
           refine Za (v:=iv (at_+((u:Int) % (days+3)))) rfl ?_
           refine Zo (a:=at_+((u:Int) % (days+3))) (b:=1) rfl rfl ⟨by omega,by omega⟩ ?_
           refine Za (v:=iv ((at_+((u:Int) % (days+3)))+1)) rfl ?_
           refine Zb ?_
           first | refine Z0 ?_ | refine Xg ?_ | refine YR ?_ | (refine Z5 ?_;refine Z0 ?_)
           refine Za (v:=iv (i:Int)) rfl ?_
           refine Zo (a:=(i:Int)) (b:=1) rfl rfl ⟨by omega,by omega⟩ ?_
           refine Za (v:=iv ((i:Int)+1)) rfl ?_
           refine Zb ?_
           have hacc2:Acc lo H1.next 3 H9 (.slice (some ⟨H8.next,0,none⟩) (i+1) (i+1)) (i+1) (cI (ot ++ [at_+((u:Int) % (days+3))])):=by rw [U8];exact aH9
           exact ⟨k - 1,(i+1,_,(at_+((u:Int) % (days+3)))+1),by omega,⟨by simp only [];omega,hk,hk1,hs,hsn,hb,hsc1,by simp only [];omega,_,by rw [List.length_append,hol];rfl,hacc2⟩,rfl,rfl,rfl,rfl,rfl,rfl,rfl,rfl,rfl,rfl,rfl,rfl,rfl,rfl,ivq (by simp only [];omega),trivial⟩
          ·have q19:¬ ((i:Int) < (n:Int)):=of_decide_eq_false q19
           have ein:i=n:=by omega
           simp only [] at hol;rw [ein] at hacc hol;obtain ⟨oa,oc,rfl,hso,_⟩:=hacc.sl;have fso:=hso.old
           first | (refine Zy ?_;show wC _ _ _ _ _ _ _ _ _) | skip
           refine Zc ?_
           refine Za (v:=.slice la n lcap) rfl ?_
           refine Za (v:=.slice oa n oc) rfl ?_
           refine Za (v:=.slice na nn ncap) rfl ?_
           refine Za (v:=iv reach) rfl ?_
           refine Za (v:=iv days) rfl ?_
           refine Za (v:=iv limit) rfl ?_
           refine Za (v:=iv frm) rfl ?_
           refine Za (v:=iv to_) rfl ?_
           obtain ⟨_,_,hany,_,_,_,_,_,_⟩:=V3 hse (by omega)
           obtain ⟨tg,H10,fH10,hg1,_,kH10⟩:=VW (kn:=kn) (lo:=lo) (H:=L1) hs hl (by omega) hso hol (by omega) hsn hln (by omega) (reach:=reach) (days:=days) (limit:=limit) (frm:=frm) (to_:=to_) (Kr hany) (by omega) (by omega) (by omega) (by omega)
           refine Zi (vs:=[.slice la n lcap,.slice oa n oc,.slice na nn ncap,iv reach,iv days,iv limit,iv frm,iv to_]) rfl (Ze fH10) ?_
           have mH10:=kH10.1
           have hk:=hk.trans kH10
           have hs:=kH10.sl0 hs
           have hsn:=kH10.sl0 hsn
           have hb:=kH10.sl0 hb
           have hk1:=hk1.trans kH10
           have hsc1:=kH10.sl0 hsc1
           have hso:=kH10.sl0 hso
           refine Zb ?_
           refine And.intro (fun q20=>?_) (fun q20=>?_)
           ·have q20:tg=true:=by simpa using q20
            have hgo:=hg1 (by simpa using q20);obtain ⟨he0b,hleo⟩:=UF hse (by omega) hgo;have hlo2:=hleo.len
            refine Zc ?_
            refine Za (v:=iv e) rfl ?_
            refine X6 (a:=e) (b:=0) rfl rfl ?_
            refine Zb ?_
            refine And.intro (fun q21=>?_) (fun q21=>?_)
            ·have q21:e≠0:=by simpa using q21
             omega
            ·have q21:¬ (e≠0):=by simpa using q21
             first | refine Zj ?_ | skip
             refine Zc ?_
             refine Za (v:=iv 0) rfl ?_
             refine Zb ?_
             refine Zt (fn:=Try.f9) Zcf N9 Zcj (fun i:Nat=>[(0,.slice la n lcap),(1,.slice na nn ncap),(2,iv reach),(3,iv days),(4,iv limit),(5,iv frm),(6,iv to_),(7,.slice ba bn bc),(8,.int .u16 mj),(18,.bool false),(19,.slice sa1 p.length sc1),(20,iv e),(21,.slice oa n oc),(24,iv (i:Int))])
              (fun k i H'=>i+k=n∧Zk H H' []∧Zk H1 H' []∧Sl H' la n lcap (cI loads)∧Sl H' na nn ncap (nsc ns)∧Sl H' ba bn bc (cY us)∧Sl H' sa1 p.length sc1 (cI p)∧Sl H' oa n oc (cI ot)) n 0 ⟨by omega,hk,hk1,hs,hsn,hb,hsc1,hso⟩ ⟨rfl,rfl,rfl,rfl,rfl,rfl,rfl,rfl,rfl,rfl,rfl,rfl,rfl,rfl,trivial⟩ ?_
             rintro k i L2 ⟨hik,hk,hk1,hs,hsn,hb,hsc1,hso⟩
             have mk:=hk.1;have mk1:=hk1.1
             refine Zc ?_
             refine Za (v:=iv (i:Int)) rfl ?_
             refine Za (v:=.slice oa n oc) rfl ?_
             refine Zv (m:=n) rfl ?_
             refine Zx (a:=(i:Int)) (b:=(n:Int)) rfl rfl ?_
             refine Zb ?_
             refine And.intro (fun q22=>?_) (fun q22=>?_)
             ·have q22:(i:Int) < (n:Int):=of_decide_eq_true q22
              have hi:i < n:=by omega
              rcases id hso with ⟨_,h0o,_⟩ | ⟨ob,eo,ro,_⟩
              ·omega
              have lo:=ro.1
              rcases id hsc1 with ⟨_,h0q,_⟩ | ⟨qb,eq,rq,_⟩
              ·omega
              have lq:=rq.1
              have lob2:=fso ob eo;have lqb2:=fsc1 qb eq;have hiat:=hleo.at (i:=i) (by omega)
              first | refine Zj ?_ | skip
              refine Yq ?_
              refine Zg (v:=.slice oa n oc) rfl ?_
              refine Zg (v:=iv (i:Int)) rfl ?_
              refine ZC (b:=ob) (o:=0) (k:=i) (j:=(i:Int)) (by rw [← eo];rfl) rfl rfl hi ?_
              refine Yf (b:=ob) (o:=0+i * 1) (v:=iv (ot.getD i 0)) rfl ro (YI (by omega)) ?_
              refine Zg (v:=.slice sa1 p.length sc1) rfl ?_
              refine Zg (v:=iv (i:Int)) rfl ?_
              refine ZC (b:=qb) (o:=0) (k:=i) (j:=(i:Int)) (by rw [← eq];rfl) rfl rfl (by omega) ?_
              refine Yf (b:=qb) (o:=0+i * 1) (v:=iv (p.getD i 0)) rfl rq (YI (by omega)) ?_
              refine Wp (a:=(ot.getD i 0)) (b:=(p.getD i 0)) rfl rfl ?_
              refine ZL (by repeat' first | exact True.intro | exact (fun h=>h) | refine And.intro ?_ ?_ | (intro h;have h:(_:Nat)=_:=h;omega)) ?_
              refine And.intro (fun q23=>?_) (fun q23=>?_)
              ·have q23:(ot.getD i 0) < (p.getD i 0):=of_decide_eq_true q23
               omega
              ·have q23:¬ ((ot.getD i 0) < (p.getD i 0)):=of_decide_eq_false q23
               first | refine Zj ?_ | skip
               first | refine Z0 ?_ | refine Xg ?_ | refine YR ?_ | (refine Z5 ?_;refine Z0 ?_)
               refine Za (v:=iv (i:Int)) rfl ?_
               refine Zo (a:=(i:Int)) (b:=1) rfl rfl ⟨by omega,by omega⟩ ?_
               refine Za (v:=iv ((i:Int)+1)) rfl ?_
               refine Zb ?_
               exact ⟨k - 1,i+1,by omega,⟨by omega,hk,hk1,hs,hsn,hb,hsc1,hso⟩,rfl,rfl,rfl,rfl,rfl,rfl,rfl,rfl,rfl,rfl,rfl,rfl,rfl,ivq (by omega),trivial⟩
             ·have q22:¬ ((i:Int) < (n:Int)):=of_decide_eq_false q22
              first | (refine Zy ?_;show wC _ _ _ _ _ _ _ _ _) | skip
              refine Zc ?_
              refine Za (v:=iv e) rfl ?_
              refine ZS (a:=e) (b:=0) rfl rfl ?_
              intro t24 g24;cases t24
              ·have g24:¬ (e≠0):=by simpa using g24
               have he0:e=0:=by omega
               refine Za (v:=.bool false) rfl ?_
               refine Zl rfl (Za (v:=.slice la n lcap) rfl ?_)
               refine Zl rfl (Zv (m:=n) rfl ?_)
               refine Zl rfl (Xe (a:=(n:Int)) (b:=0) rfl rfl ?_)
               intro t25 g25;cases t25
               ·have g25:¬ ((n:Int)=0):=by simpa using g25
                refine Zd (v:=.bool false) rfl rfl ?_
                refine Zb ?_
                refine ZQ ?_
                first | refine Zj ?_ | skip
                refine Zc ?_
                refine Za (v:=.slice la n lcap) rfl ?_
                refine Za (v:=.slice na nn ncap) rfl ?_
                refine Za (v:=iv reach) rfl ?_
                refine Za (v:=iv days) rfl ?_
                refine Za (v:=iv limit) rfl ?_
                refine Za (v:=.int .u16 mj) rfl ?_
                refine Zd (v:=iv (mo:Int)) rfl (js (n:=mo) (j:=mj) (by omega) rfl hmo) ?_
                refine Zo (a:=limit) (b:=(mo:Int)) rfl rfl ⟨by omega,by omega⟩ ?_
                refine JI (a:=72057594037927936) (b:=limit+(mo:Int)) rfl rfl ?_
                refine Za (v:=iv frm) rfl ?_
                refine Za (v:=iv to_) rfl ?_
                obtain ⟨a2,hse2,hle2⟩:=QO (l2:=(min 72057594037927936 (limit+(mo:Int)))) (show (seT loads ns reach days limit frm to_)=(p,0) by rw [hse,he0]) (by omega) (by omega);have hl2:=hle2.len
                obtain ⟨vs2,H11,fH11,hac2,kH11⟩:=XF (kn:=kn) (lo:=lo) (H:=L2) hs hl (by omega) hsn hln (by omega) (reach:=reach) (days:=days) (limit:=(min 72057594037927936 (limit+(mo:Int)))) (frm:=frm) (to_:=to_) (hkn 35) (by omega);rw [hse2] at fH11 hac2
                refine Zi (vs:=[.slice la n lcap,.slice na nn ncap,iv reach,iv days,iv (min 72057594037927936 (limit+(mo:Int))),iv frm,iv to_]) rfl (Ze fH11) ?_
                have mH11:=kH11.1
                have hk:=hk.trans kH11
                have hs:=kH11.sl0 hs
                have hsn:=kH11.sl0 hsn
                have hb:=kH11.sl0 hb
                have hk1:=hk1.trans kH11
                have hsc1:=kH11.sl0 hsc1
                have hso:=kH11.sl0 hso
                simp only [] at hac2;obtain ⟨sa2,sc2,rfl,hsc2,_⟩:=hac2.sl;have fsc2:=hsc2.old
                refine Za (v:=.tuple #[.slice sa2 a2.length sc2,iv 0]) rfl ?_
                refine Zd (v:=.slice sa2 a2.length sc2) rfl (by kernel_rfl) ?_
                refine Zd (v:=iv 0) rfl (by kernel_rfl) ?_
                refine Za (v:=.slice sa2 a2.length sc2) rfl ?_
                refine Za (v:=iv 0) rfl ?_
                refine Zb ?_
                refine Zc ?_
                refine Za (v:=.slice la n lcap) rfl ?_
                refine Za (v:=.slice la n lcap) rfl ?_
                refine Zv (m:=n) rfl ?_
                refine Yl (a:=(n:Int)) (b:=1) rfl rfl ⟨by omega,by omega⟩ ?_
                obtain ⟨lb,el⟩:∃ b,la=some ⟨b,0,none⟩:=Vg hs (by omega);have hlf:=hk.fx (hfx lb el) (by simp)
                have hlc:=Vj hs
                refine ZN (v:=.slice la (n - 1) lcap) (H':=H11) (k:=.read lb) rfl (by kernel_rfl) (by rw [el];exact YW (k:=n - 1) (m:=n) hlf (by omega) hlc (by rw [← el];rfl) rfl (by omega)) (fun b e=>by cases e;exact hlf.lt) ?_
                refine Za (v:=.slice na nn ncap) rfl ?_
                refine Za (v:=iv reach) rfl ?_
                refine Za (v:=iv days) rfl ?_
                refine Za (v:=iv limit) rfl ?_
                refine Za (v:=iv frm) rfl ?_
                refine Za (v:=iv to_) rfl ?_
                have hse3:=QN (show (seT loads ns reach days limit frm to_)=(p,0) by rw [hse,he0]) (by omega);rw [hl] at hse3
                obtain ⟨vs3,H12,fH12,hac3,kH12⟩:=XO (kn:=kn) (lo:=lo) (H:=H11) (loads:=loads.take (n - 1)) (mre:=loads.drop (n - 1)) (la:=la) (n:=n - 1) (lcap:=lcap) (by rw [List.take_append_drop];exact Ww hs (by omega) (by omega)) (by rw [List.length_take];omega) (by omega) hsn hln (by omega) (reach:=reach) (days:=days) (limit:=limit) (frm:=frm) (to_:=to_) (hkn 35) (by omega);rw [hse3] at fH12 hac3
                refine Zi (vs:=[.slice la (n - 1) lcap,.slice na nn ncap,iv reach,iv days,iv limit,iv frm,iv to_]) rfl (Ze fH12) ?_
                have mH12:=kH12.1
                have hk:=hk.trans kH12
                have hs:=kH12.sl0 hs
                have hsn:=kH12.sl0 hsn
                have hb:=kH12.sl0 hb
                have hk1:=hk1.trans kH12
                have hsc1:=kH12.sl0 hsc1
                have hso:=kH12.sl0 hso
                have hsc2:=kH12.sl0 hsc2
                simp only [] at hac3;have hl3:(p.take (n - 1)).length=n - 1:=by rw [List.length_take];omega
                rw [hl3] at hac3;obtain ⟨sa3,sc3,rfl,hsc3,_⟩:=hac3.sl;have fsc3:=hsc3.old
                refine Za (v:=.tuple #[.slice sa3 (n - 1) sc3,iv 0]) rfl ?_
                refine Zd (v:=.slice sa3 (n - 1) sc3) rfl (by kernel_rfl) ?_
                refine Zd (v:=iv 0) rfl (by kernel_rfl) ?_
                refine Za (v:=.slice sa3 (n - 1) sc3) rfl ?_
                refine Za (v:=iv 0) rfl ?_
                refine Zb ?_
                refine Zc ?_
                refine Za (v:=iv 0) rfl ?_
                refine ZS (a:=0) (b:=0) rfl rfl ?_
                intro t26 g26;obtain rfl:t26=false:=by rw [← g26];rfl
                refine Za (v:=.bool false) rfl ?_
                refine Zl rfl (Za (v:=iv 0) rfl ?_)
                refine Zl rfl (ZS (a:=0) (b:=0) rfl rfl ?_)
                intro t27 g27;obtain rfl:t27=false:=by rw [← g27];rfl
                refine Zd (v:=.bool false) rfl rfl ?_
                refine Za (v:=.bool false) rfl ?_
                refine Zl rfl (Za (v:=.slice sa2 a2.length sc2) rfl ?_)
                refine Zl rfl (Zv (m:=a2.length) rfl ?_)
                refine Zl rfl (Za (v:=.slice sa1 p.length sc1) rfl ?_)
                refine Zl rfl (Zv (m:=p.length) rfl ?_)
                refine Zl rfl (ZS (a:=(a2.length:Int)) (b:=(p.length:Int)) rfl rfl ?_)
                intro t28 g28;cases t28
                ·have g28:¬ ((a2.length:Int)≠(p.length:Int)):=by simpa using g28
                 refine Zd (v:=.bool false) rfl rfl ?_
                 refine Za (v:=.bool false) rfl ?_
                 refine Zl rfl (Za (v:=.slice sa3 (n - 1) sc3) rfl ?_)
                 refine Zl rfl (Za (v:=.slice sa1 p.length sc1) rfl ?_)
                 refine Zl rfl (Za (v:=.slice sa1 p.length sc1) rfl ?_)
                 refine Zl rfl (Zv (m:=p.length) rfl ?_)
                 refine Zl rfl (Yl (a:=(p.length:Int)) (b:=1) rfl rfl ⟨by omega,by omega⟩ ?_)
                 obtain ⟨pb_,ep_⟩:∃ b,sa1=some ⟨b,0,none⟩:=Vg hsc1 (by omega);have hpfx:=hk1.fx (hpf pb_ _ _ (by rw [ep_])) (by simp)
                 have hpc:=Vj hsc1
                 refine Zl rfl (ZN (v:=.slice sa1 (n - 1) sc1) (H':=H12) (k:=.read pb_) rfl (by kernel_rfl) (by rw [ep_];exact YW (k:=n - 1) (m:=p.length) hpfx (by omega) hpc (by rw [← ep_];rfl) rfl (by omega)) (fun b e=>by cases e;exact hpfx.lt) ?_)
                 obtain ⟨H13,fH13,kH13⟩:=Wm (kn:=kn) (lo:=lo) (H:=H12) (xs:=p.take (n - 1)) (m1:=[]) (m2:=p.drop (n - 1)) (a1:=sa3) (a2:=sa1) (n:=n - 1) (c1:=sc3) (c2:=sc1) (by rw [List.append_nil];exact hsc3) (by rw [List.take_append_drop];exact Ww hsc1 (by omega) (by omega)) hl3 (by omega) (by first | omega | (simp only [cond_true];omega) | (simp only [cond_false];omega))
                 refine Zl rfl (Zi (vs:=[.slice sa3 (n - 1) sc3,.slice sa1 (n - 1) sc1]) rfl (Ze fH13) ?_)
                 have mH13:=kH13.1
                 have hk:=hk.trans kH13
                 have hs:=kH13.sl0 hs
                 have hsn:=kH13.sl0 hsn
                 have hb:=kH13.sl0 hb
                 have hk1:=hk1.trans kH13
                 have hsc1:=kH13.sl0 hsc1
                 have hso:=kH13.sl0 hso
                 have hsc2:=kH13.sl0 hsc2
                 have hsc3:=kH13.sl0 hsc3
                 refine Zl rfl (Zd (v:=.bool false) rfl rfl ?_)
                 refine Zd (v:=.bool false) rfl rfl ?_
                 refine Zb ?_
                 refine ZQ ?_
                 first | refine Zj ?_ | skip
                 refine Zc ?_
                 refine Za (v:=iv 0) rfl ?_
                 refine Zb ?_
                 refine Zt (fn:=Try.f9) Zch N9 Zcb (fun i:Nat=>[(0,.slice la n lcap),(1,.slice na nn ncap),(2,iv reach),(3,iv days),(4,iv limit),(5,iv frm),(6,iv to_),(7,.slice ba bn bc),(8,.int .u16 mj),(18,.bool false),(19,.slice sa1 p.length sc1),(20,iv e),(25,.slice sa2 a2.length sc2),(29,iv (i:Int))])
                  (fun k i H'=>i+k=a2.length∧Zk H H' []∧Zk H1 H' []∧Sl H' la n lcap (cI loads)∧Sl H' na nn ncap (nsc ns)∧Sl H' ba bn bc (cY us)∧Sl H' sa1 p.length sc1 (cI p)∧Sl H' sa2 a2.length sc2 (cI a2)) a2.length 0 ⟨by omega,hk,hk1,hs,hsn,hb,hsc1,hsc2⟩ ⟨rfl,rfl,rfl,rfl,rfl,rfl,rfl,rfl,rfl,rfl,rfl,rfl,rfl,rfl,trivial⟩ ?_
                 rintro k i L4 ⟨hik,hk,hk1,hs,hsn,hb,hsc1,hsc2⟩
                 have mk:=hk.1;have mk1:=hk1.1
                 refine Zc ?_
                 refine Za (v:=iv (i:Int)) rfl ?_
                 refine Za (v:=.slice sa2 a2.length sc2) rfl ?_
                 refine Zv (m:=a2.length) rfl ?_
                 refine Zx (a:=(i:Int)) (b:=(a2.length:Int)) rfl rfl ?_
                 refine Zb ?_
                 refine And.intro (fun q29=>?_) (fun q29=>?_)
                 ·have q29:(i:Int) < (a2.length:Int):=of_decide_eq_true q29
                  have hi:i < a2.length:=by omega
                  rcases id hsc2 with ⟨_,h0o,_⟩ | ⟨ob,eo,ro,_⟩
                  ·omega
                  have lo:=ro.1
                  rcases id hsc1 with ⟨_,h0q,_⟩ | ⟨qb,eq,rq,_⟩
                  ·omega
                  have lq:=rq.1
                  have lob2:=fsc2 ob eo;have lqb2:=fsc1 qb eq;have hiat:=hle2.at (i:=i) (by omega)
                  first | refine Zj ?_ | skip
                  refine Yq ?_
                  refine Zg (v:=.slice sa2 a2.length sc2) rfl ?_
                  refine Zg (v:=iv (i:Int)) rfl ?_
                  refine ZC (b:=ob) (o:=0) (k:=i) (j:=(i:Int)) (by rw [← eo];rfl) rfl rfl hi ?_
                  refine Yf (b:=ob) (o:=0+i * 1) (v:=iv (a2.getD i 0)) rfl ro (YI (by omega)) ?_
                  refine Zg (v:=.slice sa1 p.length sc1) rfl ?_
                  refine Zg (v:=iv (i:Int)) rfl ?_
                  refine ZC (b:=qb) (o:=0) (k:=i) (j:=(i:Int)) (by rw [← eq];rfl) rfl rfl (by omega) ?_
                  refine Yf (b:=qb) (o:=0+i * 1) (v:=iv (p.getD i 0)) rfl rq (YI (by omega)) ?_
                  refine WW (a:=(a2.getD i 0)) (b:=(p.getD i 0)) rfl rfl ?_
                  refine ZL (by repeat' first | exact True.intro | exact (fun h=>h) | refine And.intro ?_ ?_ | (intro h;have h:(_:Nat)=_:=h;omega)) ?_
                  refine And.intro (fun q30=>?_) (fun q30=>?_)
                  ·have q30:(a2.getD i 0) > (p.getD i 0):=of_decide_eq_true q30
                   omega
                  ·have q30:¬ ((a2.getD i 0) > (p.getD i 0)):=of_decide_eq_false q30
                   first | refine Zj ?_ | skip
                   first | refine Z0 ?_ | refine Xg ?_ | refine YR ?_ | (refine Z5 ?_;refine Z0 ?_)
                   refine Za (v:=iv (i:Int)) rfl ?_
                   refine Zo (a:=(i:Int)) (b:=1) rfl rfl ⟨by omega,by omega⟩ ?_
                   refine Za (v:=iv ((i:Int)+1)) rfl ?_
                   refine Zb ?_
                   exact ⟨k - 1,i+1,by omega,⟨by omega,hk,hk1,hs,hsn,hb,hsc1,hsc2⟩,rfl,rfl,rfl,rfl,rfl,rfl,rfl,rfl,rfl,rfl,rfl,rfl,rfl,ivq (by omega),trivial⟩
                 ·have q29:¬ ((i:Int) < (a2.length:Int)):=of_decide_eq_false q29
                  first | (refine Zy ?_;show wC _ _ _ _ _ _ _ _ _) | skip
                  refine Zc ?_
                  obtain ⟨H14,fH14,kH14⟩:=Yz (kn:=kn) (lo:=lo) (H:=L4) hkn (by omega)
                  refine Zi (vs:=[]) rfl (ZF (hkn 11) fH14) ?_
                  have mH14:=kH14.1
                  have hk:=hk.trans kH14
                  have hs:=kH14.sl0 hs
                  have hsn:=kH14.sl0 hsn
                  have hb:=kH14.sl0 hb
                  have hk1:=hk1.trans kH14
                  have hsc1:=kH14.sl0 hsc1
                  have hsc2:=kH14.sl0 hsc2
                  refine Za (v:=.bool true) rfl ?_
                  refine Zb ?_
                  exact And.intro trivial (Exists.intro _ (And.intro rfl rfl))
                ·have g28:(a2.length:Int)≠(p.length:Int):=by simpa using g28
                 refine Zd (v:=.bool true) rfl rfl ?_
                 refine Za (v:=.bool true) rfl ?_
                 refine Zh rfl ?_
                 refine Zh rfl ?_
                 refine Zh rfl ?_
                 refine Zh rfl ?_
                 refine Zh rfl ?_
                 refine Zh rfl ?_
                 refine Zh rfl ?_
                 refine Zh rfl ?_
                 refine Zd (v:=.bool true) rfl rfl ?_
                 refine Zb ?_
                 refine ZK ?_
                 refine Zc ?_
                 refine Za (v:=.bool false) rfl ?_
                 refine Zb ?_
                 exact (show False by omega).elim
               ·have g25:(n:Int)=0:=by simpa using g25
                refine Zd (v:=.bool true) rfl rfl ?_
                refine Zb ?_
                refine ZK ?_
                refine Zc ?_
                obtain ⟨H15,fH15,kH15⟩:=Yz (kn:=kn) (lo:=lo) (H:=L2) hkn (by omega)
                refine Zi (vs:=[]) rfl (ZF (hkn 11) fH15) ?_
                have mH15:=kH15.1
                have hk:=hk.trans kH15
                have hs:=kH15.sl0 hs
                have hsn:=kH15.sl0 hsn
                have hb:=kH15.sl0 hb
                have hk1:=hk1.trans kH15
                have hsc1:=kH15.sl0 hsc1
                have hso:=kH15.sl0 hso
                refine Za (v:=.bool true) rfl ?_
                refine Zb ?_
                exact And.intro trivial (Exists.intro _ (And.intro rfl rfl))
              ·have g24:e≠0:=by simpa using g24
               omega
           ·have q20:¬ (tg=true):=by simpa using q20
            first | refine Zj ?_ | skip
            refine Zc ?_
            refine Za (v:=iv e) rfl ?_
            refine ZS (a:=e) (b:=0) rfl rfl ?_
            intro t31 g31;cases t31
            ·have g31:¬ (e≠0):=by simpa using g31
             have he0:e=0:=by omega
             refine Za (v:=.bool false) rfl ?_
             refine Zl rfl (Za (v:=.slice la n lcap) rfl ?_)
             refine Zl rfl (Zv (m:=n) rfl ?_)
             refine Zl rfl (Xe (a:=(n:Int)) (b:=0) rfl rfl ?_)
             intro t32 g32;cases t32
             ·have g32:¬ ((n:Int)=0):=by simpa using g32
              refine Zd (v:=.bool false) rfl rfl ?_
              refine Zb ?_
              refine ZQ ?_
              first | refine Zj ?_ | skip
              refine Zc ?_
              refine Za (v:=.slice la n lcap) rfl ?_
              refine Za (v:=.slice na nn ncap) rfl ?_
              refine Za (v:=iv reach) rfl ?_
              refine Za (v:=iv days) rfl ?_
              refine Za (v:=iv limit) rfl ?_
              refine Za (v:=.int .u16 mj) rfl ?_
              refine Zd (v:=iv (mo:Int)) rfl (js (n:=mo) (j:=mj) (by omega) rfl hmo) ?_
              refine Zo (a:=limit) (b:=(mo:Int)) rfl rfl ⟨by omega,by omega⟩ ?_
              refine JI (a:=72057594037927936) (b:=limit+(mo:Int)) rfl rfl ?_
              refine Za (v:=iv frm) rfl ?_
              refine Za (v:=iv to_) rfl ?_
              obtain ⟨a2,hse2,hle2⟩:=QO (l2:=(min 72057594037927936 (limit+(mo:Int)))) (show (seT loads ns reach days limit frm to_)=(p,0) by rw [hse,he0]) (by omega) (by omega);have hl2:=hle2.len
              obtain ⟨vs2,H16,fH16,hac2,kH16⟩:=XF (kn:=kn) (lo:=lo) (H:=H10) hs hl (by omega) hsn hln (by omega) (reach:=reach) (days:=days) (limit:=(min 72057594037927936 (limit+(mo:Int)))) (frm:=frm) (to_:=to_) (hkn 35) (by omega);rw [hse2] at fH16 hac2
              refine Zi (vs:=[.slice la n lcap,.slice na nn ncap,iv reach,iv days,iv (min 72057594037927936 (limit+(mo:Int))),iv frm,iv to_]) rfl (Ze fH16) ?_
              have mH16:=kH16.1
              have hk:=hk.trans kH16
              have hs:=kH16.sl0 hs
              have hsn:=kH16.sl0 hsn
              have hb:=kH16.sl0 hb
              have hk1:=hk1.trans kH16
              have hsc1:=kH16.sl0 hsc1
              have hso:=kH16.sl0 hso
              simp only [] at hac2;obtain ⟨sa2,sc2,rfl,hsc2,_⟩:=hac2.sl;have fsc2:=hsc2.old
              refine Za (v:=.tuple #[.slice sa2 a2.length sc2,iv 0]) rfl ?_
              refine Zd (v:=.slice sa2 a2.length sc2) rfl (by kernel_rfl) ?_
              refine Zd (v:=iv 0) rfl (by kernel_rfl) ?_
              refine Za (v:=.slice sa2 a2.length sc2) rfl ?_
              refine Za (v:=iv 0) rfl ?_
              refine Zb ?_
              refine Zc ?_
              refine Za (v:=.slice la n lcap) rfl ?_
              refine Za (v:=.slice la n lcap) rfl ?_
              refine Zv (m:=n) rfl ?_
              refine Yl (a:=(n:Int)) (b:=1) rfl rfl ⟨by omega,by omega⟩ ?_
              obtain ⟨lb,el⟩:∃ b,la=some ⟨b,0,none⟩:=Vg hs (by omega);have hlf:=hk.fx (hfx lb el) (by simp)
              have hlc:=Vj hs
              refine ZN (v:=.slice la (n - 1) lcap) (H':=H16) (k:=.read lb) rfl (by kernel_rfl) (by rw [el];exact YW (k:=n - 1) (m:=n) hlf (by omega) hlc (by rw [← el];rfl) rfl (by omega)) (fun b e=>by cases e;exact hlf.lt) ?_
              refine Za (v:=.slice na nn ncap) rfl ?_
              refine Za (v:=iv reach) rfl ?_
              refine Za (v:=iv days) rfl ?_
              refine Za (v:=iv limit) rfl ?_
              refine Za (v:=iv frm) rfl ?_
              refine Za (v:=iv to_) rfl ?_
              have hse3:=QN (show (seT loads ns reach days limit frm to_)=(p,0) by rw [hse,he0]) (by omega);rw [hl] at hse3
              obtain ⟨vs3,H17,fH17,hac3,kH17⟩:=XO (kn:=kn) (lo:=lo) (H:=H16) (loads:=loads.take (n - 1)) (mre:=loads.drop (n - 1)) (la:=la) (n:=n - 1) (lcap:=lcap) (by rw [List.take_append_drop];exact Ww hs (by omega) (by omega)) (by rw [List.length_take];omega) (by omega) hsn hln (by omega) (reach:=reach) (days:=days) (limit:=limit) (frm:=frm) (to_:=to_) (hkn 35) (by omega);rw [hse3] at fH17 hac3
              refine Zi (vs:=[.slice la (n - 1) lcap,.slice na nn ncap,iv reach,iv days,iv limit,iv frm,iv to_]) rfl (Ze fH17) ?_
              have mH17:=kH17.1
              have hk:=hk.trans kH17
              have hs:=kH17.sl0 hs
              have hsn:=kH17.sl0 hsn
              have hb:=kH17.sl0 hb
              have hk1:=hk1.trans kH17
              have hsc1:=kH17.sl0 hsc1
              have hso:=kH17.sl0 hso
              have hsc2:=kH17.sl0 hsc2
              simp only [] at hac3;have hl3:(p.take (n - 1)).length=n - 1:=by rw [List.length_take];omega
              rw [hl3] at hac3;obtain ⟨sa3,sc3,rfl,hsc3,_⟩:=hac3.sl;have fsc3:=hsc3.old
              refine Za (v:=.tuple #[.slice sa3 (n - 1) sc3,iv 0]) rfl ?_
              refine Zd (v:=.slice sa3 (n - 1) sc3) rfl (by kernel_rfl) ?_
              refine Zd (v:=iv 0) rfl (by kernel_rfl) ?_
              refine Za (v:=.slice sa3 (n - 1) sc3) rfl ?_
              refine Za (v:=iv 0) rfl ?_
              refine Zb ?_
              refine Zc ?_
              refine Za (v:=iv 0) rfl ?_
              refine ZS (a:=0) (b:=0) rfl rfl ?_
              intro t33 g33;obtain rfl:t33=false:=by rw [← g33];rfl
              refine Za (v:=.bool false) rfl ?_
              refine Zl rfl (Za (v:=iv 0) rfl ?_)
              refine Zl rfl (ZS (a:=0) (b:=0) rfl rfl ?_)
              intro t34 g34;obtain rfl:t34=false:=by rw [← g34];rfl
              refine Zd (v:=.bool false) rfl rfl ?_
              refine Za (v:=.bool false) rfl ?_
              refine Zl rfl (Za (v:=.slice sa2 a2.length sc2) rfl ?_)
              refine Zl rfl (Zv (m:=a2.length) rfl ?_)
              refine Zl rfl (Za (v:=.slice sa1 p.length sc1) rfl ?_)
              refine Zl rfl (Zv (m:=p.length) rfl ?_)
              refine Zl rfl (ZS (a:=(a2.length:Int)) (b:=(p.length:Int)) rfl rfl ?_)
              intro t35 g35;cases t35
              ·have g35:¬ ((a2.length:Int)≠(p.length:Int)):=by simpa using g35
               refine Zd (v:=.bool false) rfl rfl ?_
               refine Za (v:=.bool false) rfl ?_
               refine Zl rfl (Za (v:=.slice sa3 (n - 1) sc3) rfl ?_)
               refine Zl rfl (Za (v:=.slice sa1 p.length sc1) rfl ?_)
               refine Zl rfl (Za (v:=.slice sa1 p.length sc1) rfl ?_)
               refine Zl rfl (Zv (m:=p.length) rfl ?_)
               refine Zl rfl (Yl (a:=(p.length:Int)) (b:=1) rfl rfl ⟨by omega,by omega⟩ ?_)
               obtain ⟨pb_,ep_⟩:∃ b,sa1=some ⟨b,0,none⟩:=Vg hsc1 (by omega);have hpfx:=hk1.fx (hpf pb_ _ _ (by rw [ep_])) (by simp)
               have hpc:=Vj hsc1
               refine Zl rfl (ZN (v:=.slice sa1 (n - 1) sc1) (H':=H17) (k:=.read pb_) rfl (by kernel_rfl) (by rw [ep_];exact YW (k:=n - 1) (m:=p.length) hpfx (by omega) hpc (by rw [← ep_];rfl) rfl (by omega)) (fun b e=>by cases e;exact hpfx.lt) ?_)
               obtain ⟨H18,fH18,kH18⟩:=Wm (kn:=kn) (lo:=lo) (H:=H17) (xs:=p.take (n - 1)) (m1:=[]) (m2:=p.drop (n - 1)) (a1:=sa3) (a2:=sa1) (n:=n - 1) (c1:=sc3) (c2:=sc1) (by rw [List.append_nil];exact hsc3) (by rw [List.take_append_drop];exact Ww hsc1 (by omega) (by omega)) hl3 (by omega) (by first | omega | (simp only [cond_true];omega) | (simp only [cond_false];omega))
               refine Zl rfl (Zi (vs:=[.slice sa3 (n - 1) sc3,.slice sa1 (n - 1) sc1]) rfl (Ze fH18) ?_)
               have mH18:=kH18.1
               have hk:=hk.trans kH18
               have hs:=kH18.sl0 hs
               have hsn:=kH18.sl0 hsn
               have hb:=kH18.sl0 hb
               have hk1:=hk1.trans kH18
               have hsc1:=kH18.sl0 hsc1
               have hso:=kH18.sl0 hso
               have hsc2:=kH18.sl0 hsc2
               have hsc3:=kH18.sl0 hsc3
               refine Zl rfl (Zd (v:=.bool false) rfl rfl ?_)
               refine Zd (v:=.bool false) rfl rfl ?_
               refine Zb ?_
               refine ZQ ?_
               first | refine Zj ?_ | skip
               refine Zc ?_
               refine Za (v:=iv 0) rfl ?_
               refine Zb ?_
               refine Zt (fn:=Try.f9) Zch N9 Zcb (fun i:Nat=>[(0,.slice la n lcap),(1,.slice na nn ncap),(2,iv reach),(3,iv days),(4,iv limit),(5,iv frm),(6,iv to_),(7,.slice ba bn bc),(8,.int .u16 mj),(18,.bool false),(19,.slice sa1 p.length sc1),(20,iv e),(25,.slice sa2 a2.length sc2),(29,iv (i:Int))])
                (fun k i H'=>i+k=a2.length∧Zk H H' []∧Zk H1 H' []∧Sl H' la n lcap (cI loads)∧Sl H' na nn ncap (nsc ns)∧Sl H' ba bn bc (cY us)∧Sl H' sa1 p.length sc1 (cI p)∧Sl H' sa2 a2.length sc2 (cI a2)) a2.length 0 ⟨by omega,hk,hk1,hs,hsn,hb,hsc1,hsc2⟩ ⟨rfl,rfl,rfl,rfl,rfl,rfl,rfl,rfl,rfl,rfl,rfl,rfl,rfl,rfl,trivial⟩ ?_
               rintro k i L4 ⟨hik,hk,hk1,hs,hsn,hb,hsc1,hsc2⟩
               have mk:=hk.1;have mk1:=hk1.1
               refine Zc ?_
               refine Za (v:=iv (i:Int)) rfl ?_
               refine Za (v:=.slice sa2 a2.length sc2) rfl ?_
               refine Zv (m:=a2.length) rfl ?_
               refine Zx (a:=(i:Int)) (b:=(a2.length:Int)) rfl rfl ?_
               refine Zb ?_
               refine And.intro (fun q36=>?_) (fun q36=>?_)
               ·have q36:(i:Int) < (a2.length:Int):=of_decide_eq_true q36
                have hi:i < a2.length:=by omega
                rcases id hsc2 with ⟨_,h0o,_⟩ | ⟨ob,eo,ro,_⟩
                ·omega
                have lo:=ro.1
                rcases id hsc1 with ⟨_,h0q,_⟩ | ⟨qb,eq,rq,_⟩
                ·omega
                have lq:=rq.1
                have lob2:=fsc2 ob eo;have lqb2:=fsc1 qb eq;have hiat:=hle2.at (i:=i) (by omega)
                first | refine Zj ?_ | skip
                refine Yq ?_
                refine Zg (v:=.slice sa2 a2.length sc2) rfl ?_
                refine Zg (v:=iv (i:Int)) rfl ?_
                refine ZC (b:=ob) (o:=0) (k:=i) (j:=(i:Int)) (by rw [← eo];rfl) rfl rfl hi ?_
                refine Yf (b:=ob) (o:=0+i * 1) (v:=iv (a2.getD i 0)) rfl ro (YI (by omega)) ?_
                refine Zg (v:=.slice sa1 p.length sc1) rfl ?_
                refine Zg (v:=iv (i:Int)) rfl ?_
                refine ZC (b:=qb) (o:=0) (k:=i) (j:=(i:Int)) (by rw [← eq];rfl) rfl rfl (by omega) ?_
                refine Yf (b:=qb) (o:=0+i * 1) (v:=iv (p.getD i 0)) rfl rq (YI (by omega)) ?_
                refine WW (a:=(a2.getD i 0)) (b:=(p.getD i 0)) rfl rfl ?_
                refine ZL (by repeat' first | exact True.intro | exact (fun h=>h) | refine And.intro ?_ ?_ | (intro h;have h:(_:Nat)=_:=h;omega)) ?_
                refine And.intro (fun q37=>?_) (fun q37=>?_)
                ·have q37:(a2.getD i 0) > (p.getD i 0):=of_decide_eq_true q37
                 omega
                ·have q37:¬ ((a2.getD i 0) > (p.getD i 0)):=of_decide_eq_false q37
                 first | refine Zj ?_ | skip
                 first | refine Z0 ?_ | refine Xg ?_ | refine YR ?_ | (refine Z5 ?_;refine Z0 ?_)
                 refine Za (v:=iv (i:Int)) rfl ?_
                 refine Zo (a:=(i:Int)) (b:=1) rfl rfl ⟨by omega,by omega⟩ ?_
                 refine Za (v:=iv ((i:Int)+1)) rfl ?_
                 refine Zb ?_
                 exact ⟨k - 1,i+1,by omega,⟨by omega,hk,hk1,hs,hsn,hb,hsc1,hsc2⟩,rfl,rfl,rfl,rfl,rfl,rfl,rfl,rfl,rfl,rfl,rfl,rfl,rfl,ivq (by omega),trivial⟩
               ·have q36:¬ ((i:Int) < (a2.length:Int)):=of_decide_eq_false q36
                first | (refine Zy ?_;show wC _ _ _ _ _ _ _ _ _) | skip
                refine Zc ?_
                obtain ⟨H19,fH19,kH19⟩:=Yz (kn:=kn) (lo:=lo) (H:=L4) hkn (by omega)
                refine Zi (vs:=[]) rfl (ZF (hkn 11) fH19) ?_
                have mH19:=kH19.1
                have hk:=hk.trans kH19
                have hs:=kH19.sl0 hs
                have hsn:=kH19.sl0 hsn
                have hb:=kH19.sl0 hb
                have hk1:=hk1.trans kH19
                have hsc1:=kH19.sl0 hsc1
                have hsc2:=kH19.sl0 hsc2
                refine Za (v:=.bool true) rfl ?_
                refine Zb ?_
                exact And.intro trivial (Exists.intro _ (And.intro rfl rfl))
              ·have g35:(a2.length:Int)≠(p.length:Int):=by simpa using g35
               refine Zd (v:=.bool true) rfl rfl ?_
               refine Za (v:=.bool true) rfl ?_
               refine Zh rfl ?_
               refine Zh rfl ?_
               refine Zh rfl ?_
               refine Zh rfl ?_
               refine Zh rfl ?_
               refine Zh rfl ?_
               refine Zh rfl ?_
               refine Zh rfl ?_
               refine Zd (v:=.bool true) rfl rfl ?_
               refine Zb ?_
               refine ZK ?_
               refine Zc ?_
               refine Za (v:=.bool false) rfl ?_
               refine Zb ?_
               exact (show False by omega).elim
             ·have g32:(n:Int)=0:=by simpa using g32
              refine Zd (v:=.bool true) rfl rfl ?_
              refine Zb ?_
              refine ZK ?_
              refine Zc ?_
              obtain ⟨H20,fH20,kH20⟩:=Yz (kn:=kn) (lo:=lo) (H:=H10) hkn (by omega)
              refine Zi (vs:=[]) rfl (ZF (hkn 11) fH20) ?_
              have mH20:=kH20.1
              have hk:=hk.trans kH20
              have hs:=kH20.sl0 hs
              have hsn:=kH20.sl0 hsn
              have hb:=kH20.sl0 hb
              have hk1:=hk1.trans kH20
              have hsc1:=kH20.sl0 hsc1
              have hso:=kH20.sl0 hso
              refine Za (v:=.bool true) rfl ?_
              refine Zb ?_
              exact And.intro trivial (Exists.intro _ (And.intro rfl rfl))
            ·have g31:e≠0:=by simpa using g31
             omega
         ·have g18:e≠0:=by simpa using g18
          omega
       ·have g7:frm > 16384:=of_decide_eq_true g7
        refine Zd (v:=.bool true) rfl rfl ?_
        refine Za (v:=.bool true) rfl ?_
        refine Zh rfl ?_
        refine Zh rfl ?_
        refine Zh rfl ?_
        refine ZA rfl ?_
        refine ZA rfl ?_
        refine ZA rfl ?_
        refine ZA rfl ?_
        refine ZA rfl ?_
        refine ZA rfl ?_
        refine ZA rfl ?_
        refine ZA rfl ?_
        refine ZA rfl ?_
        refine ZA rfl ?_
        refine Zh rfl ?_
        refine Zd (v:=.bool true) rfl rfl ?_
        refine Za (v:=.bool true) rfl ?_
        refine Zh rfl ?_
        refine Zh rfl ?_
        refine Zh rfl ?_
        refine ZA rfl ?_
        refine ZA rfl ?_
        refine ZA rfl ?_
        refine Zh rfl ?_
        refine Zd (v:=.bool true) rfl rfl ?_
        refine Zb ?_
        refine ZK ?_
        refine Zc ?_
        refine Za (v:=.bool false) rfl ?_
        refine Zb ?_
        exact (show False by omega).elim
      ·have g6:frm < 0:=of_decide_eq_true g6
       refine Zd (v:=.bool true) rfl rfl ?_
       refine Za (v:=.bool true) rfl ?_
       refine Zh rfl ?_
       refine Zh rfl ?_
       refine Zd (v:=.bool true) rfl rfl ?_
       refine Za (v:=.bool true) rfl ?_
       refine Zh rfl ?_
       refine Zh rfl ?_
       refine Zh rfl ?_
       refine ZA rfl ?_
       refine ZA rfl ?_
       refine ZA rfl ?_
       refine ZA rfl ?_
       refine ZA rfl ?_
       refine ZA rfl ?_
       refine ZA rfl ?_
       refine ZA rfl ?_
       refine ZA rfl ?_
       refine ZA rfl ?_
       refine Zh rfl ?_
       refine Zd (v:=.bool true) rfl rfl ?_
       refine Za (v:=.bool true) rfl ?_
       refine Zh rfl ?_
       refine Zh rfl ?_
       refine Zh rfl ?_
       refine ZA rfl ?_
       refine ZA rfl ?_
       refine ZA rfl ?_
       refine Zh rfl ?_
       refine Zd (v:=.bool true) rfl rfl ?_
       refine Zb ?_
       refine ZK ?_
       refine Zc ?_
       refine Za (v:=.bool false) rfl ?_
       refine Zb ?_
       exact (show False by omega).elim
     ·have g5:days < 1:=of_decide_eq_true g5
      refine Za (v:=.bool true) rfl ?_
      refine Zh rfl ?_
      refine Zh rfl ?_
      refine Zd (v:=.bool true) rfl rfl ?_
      refine Za (v:=.bool true) rfl ?_
      refine Zh rfl ?_
      refine Zh rfl ?_
      refine Zd (v:=.bool true) rfl rfl ?_
      refine Za (v:=.bool true) rfl ?_
      refine Zh rfl ?_
      refine Zh rfl ?_
      refine Zh rfl ?_
      refine ZA rfl ?_
      refine ZA rfl ?_
      refine ZA rfl ?_
      refine ZA rfl ?_
      refine ZA rfl ?_
      refine ZA rfl ?_
      refine ZA rfl ?_
      refine ZA rfl ?_
      refine ZA rfl ?_
      refine ZA rfl ?_
      refine Zh rfl ?_
      refine Zd (v:=.bool true) rfl rfl ?_
      refine Za (v:=.bool true) rfl ?_
      refine Zh rfl ?_
      refine Zh rfl ?_
      refine Zh rfl ?_
      refine ZA rfl ?_
      refine ZA rfl ?_
      refine ZA rfl ?_
      refine Zh rfl ?_
      refine Zd (v:=.bool true) rfl rfl ?_
      refine Zb ?_
      refine ZK ?_
      refine Zc ?_
      refine Za (v:=.bool false) rfl ?_
      refine Zb ?_
      exact (show False by omega).elim
    ·have g4:e≠0:=by simpa using g4
     refine Za (v:=.bool true) rfl ?_
     refine Zl rfl (Za (v:=iv e) rfl ?_)
     refine Zl rfl (ZS (a:=e) (b:=4) rfl rfl ?_)
     intro t38 g38;cases t38
     ·have g38:¬ (e≠4):=by simpa using g38
      refine Zd (v:=.bool false) rfl rfl ?_
      refine Zb ?_
      refine ZQ ?_
      first | refine Zj ?_ | skip
      refine Zc ?_
      refine Za (v:=iv days) rfl ?_
      refine Xc (a:=days) (b:=1) rfl rfl ?_
      intro t39 g39;cases t39
      ·have g39:¬ (days < 1):=of_decide_eq_false g39
       refine Za (v:=.bool false) rfl ?_
       refine Zl rfl (Za (v:=iv frm) rfl ?_)
       refine Zl rfl (Xc (a:=frm) (b:=0) rfl rfl ?_)
       intro t40 g40;cases t40
       ·have g40:¬ (frm < 0):=of_decide_eq_false g40
        refine Zd (v:=.bool false) rfl rfl ?_
        refine Za (v:=.bool false) rfl ?_
        refine Zl rfl (Za (v:=iv frm) rfl ?_)
        refine Zl rfl (WM (a:=frm) (b:=16384) rfl rfl ?_)
        intro t41 g41;cases t41
        ·have g41:¬ (frm > 16384):=of_decide_eq_false g41
         refine Zd (v:=.bool false) rfl rfl ?_
         refine Za (v:=.bool false) rfl ?_
         refine Zl rfl (Za (v:=iv e) rfl ?_)
         refine Zl rfl (Xe (a:=e) (b:=0) rfl rfl ?_)
         intro t42 g42;cases t42
         ·have g42:¬ (e=0):=by simpa using g42
          refine Zl rfl (Za (v:=.bool false) rfl ?_)
          refine Zh rfl ?_
          refine Zh rfl ?_
          refine Zh rfl ?_
          refine Zh rfl ?_
          refine Zh rfl ?_
          refine Zh rfl ?_
          refine Zh rfl ?_
          refine Zh rfl ?_
          refine Zh rfl ?_
          refine Zh rfl ?_
          refine Zl rfl (Zd (v:=.bool false) rfl rfl ?_)
          refine Zd (v:=.bool false) rfl rfl ?_
          refine Za (v:=.bool false) rfl ?_
          refine Zl rfl (Za (v:=iv e) rfl ?_)
          refine Zl rfl (ZS (a:=e) (b:=0) rfl rfl ?_)
          intro t43 g43;cases t43
          ·have g43:¬ (e≠0):=by simpa using g43
           omega
          ·have g43:e≠0:=by simpa using g43
           refine Zl rfl (Za (v:=.bool true) rfl ?_)
           refine Zl rfl (Za (v:=.slice sa1 p.length sc1) rfl ?_)
           refine Zl rfl (Zv (m:=p.length) rfl ?_)
           refine Zl rfl (WM (a:=(p.length:Int)) (b:=0) rfl rfl ?_)
           intro t44 g44;cases t44
           ·have g44:¬ ((p.length:Int) > 0):=of_decide_eq_false g44
            refine Zl rfl (Zd (v:=.bool false) rfl rfl ?_)
            refine Zd (v:=.bool false) rfl rfl ?_
            refine Zb ?_
            refine ZQ ?_
            first | refine Zj ?_ | skip
            refine Zc ?_
            refine Za (v:=.slice none 0 0) rfl ?_
            refine Zb ?_
            refine Zc ?_
            refine Za (v:=iv frm) rfl ?_
            refine Za (v:=iv frm) rfl ?_
            refine Zb ?_
            refine Zc ?_
            refine Za (v:=iv 0) rfl ?_
            refine Zb ?_
            refine Zt (fn:=Try.f9) Zb0 N9 Zcd (fun z:Nat × Value × Int=>[(0,.slice la n lcap),(1,.slice na nn ncap),(2,iv reach),(3,iv days),(4,iv limit),(5,iv frm),(6,iv to_),(7,.slice ba bn bc),(8,.int .u16 mj),(18,.bool false),(19,.slice sa1 p.length sc1),(20,iv e),(21,z.2.1),(22,iv z.2.2),(23,iv (z.1:Int))])
             (fun k z H'=>z.1+k=n∧Zk H H' []∧Zk H1 H' []∧Sl H' la n lcap (cI loads)∧Sl H' na nn ncap (nsc ns)∧Sl H' ba bn bc (cY us)∧Sl H' sa1 p.length sc1 (cI p)∧(0≤z.2.2∧z.2.2≤16384+400 * (z.1:Int))∧∃ ot:List Int,ot.length=z.1∧Acc lo H1.next 3 H' z.2.1 z.1 (cI ot)) n (0,.slice none 0 0,frm) ⟨by simp,hk,hk1,hs,hsn,hb,hsc1,by simp only [];omega,[],rfl,.inl ⟨rfl,rfl,rfl⟩⟩ ⟨rfl,rfl,rfl,rfl,rfl,rfl,rfl,rfl,rfl,rfl,rfl,rfl,rfl,rfl,rfl,trivial⟩ ?_
            rintro k ⟨i,wv,at_⟩ L1 ⟨hik,hk,hk1,hs,hsn,hb,hsc1,hat,ot,hol,hacc⟩
            simp only [] at hik hacc hat
            have mk:=hk.1;have mk1:=hk1.1;have kacc:=Zk.refl L1 []
            refine Zc ?_
            refine Za (v:=iv (i:Int)) rfl ?_
            refine Za (v:=.slice la n lcap) rfl ?_
            refine Zv (m:=n) rfl ?_
            refine Zx (a:=(i:Int)) (b:=(n:Int)) rfl rfl ?_
            refine Zb ?_
            refine And.intro (fun q45=>?_) (fun q45=>?_)
            ·have q45:(i:Int) < (n:Int):=of_decide_eq_true q45
             have hi:i < n:=by omega
             rcases id hb with ⟨_,h0y,_⟩ | ⟨yb,ey,ry,_⟩
             ·omega
             have ly:=ry.1
             have lyb2:=fb yb ey;simp only [] at hol
             have e1a:=Int.emod_nonneg (i:Int) (b:=(bn:Int)) (by omega);have e1b:=Int.emod_lt_of_pos (i:Int) (b:=(bn:Int)) (by omega)
             have zu:i % bn < us.length:=by rw [hbl];exact Nat.mod_lt _ (by omega)
             obtain ⟨u,eu⟩:∃ u:Nat,us.getD (i % bn) 0=u:=⟨_,rfl⟩;have hu:u≤255:=eu ▸ hus _ (YA (z:=0) zu)
             have e2a:=Int.emod_nonneg (u:Int) (b:=days+3) (by omega);have e2b:=Int.emod_lt_of_pos (u:Int) (b:=days+3) (by omega)
             first | refine Zj ?_ | skip
             refine Zc ?_
             refine Za (v:=iv at_) rfl ?_
             refine Za (v:=.slice ba bn bc) rfl ?_
             refine Za (v:=iv (i:Int)) rfl ?_
             refine Za (v:=.slice ba bn bc) rfl ?_
             refine Zv (m:=bn) rfl ?_
             refine VE (a:=(i:Int)) (b:=(bn:Int)) rfl rfl (by omega) (by omega) ⟨by omega,by omega⟩ ⟨by omega,by omega⟩ ?_
             refine YS (b:=yb) (o:=0) (k:=i % bn) (j:=(i:Int) % (bn:Int)) (by rw [← ey];rfl) rfl (Int.natCast_emod i bn).symm (Nat.mod_lt _ (by omega)) ?_
             refine ZP (b:=yb) (o:=0+(i % bn) * 1) (v:=.int .u8 (u:Int)) rfl ry (by rw [← eu];exact qR zu) ?_
             refine Zd (v:=iv (u:Int)) rfl (ZbV (n:=u) (j:=(u:Int)) (by omega) rfl rfl) ?_
             refine Za (v:=iv days) rfl ?_
             refine Zo (a:=days) (b:=3) rfl rfl ⟨by omega,by omega⟩ ?_
             refine VE (a:=(u:Int)) (b:=days+3) rfl rfl (by omega) (by omega) ⟨by omega,by omega⟩ ⟨by omega,by omega⟩ ?_
             refine Zo (a:=at_) (b:=(u:Int) % (days+3)) rfl rfl ⟨by omega,by omega⟩ ?_
             refine Za (v:=iv (at_+((u:Int) % (days+3)))) rfl ?_
             refine Zb ?_
             refine Zc ?_
             refine Za (v:=wv) rfl ?_
             refine Za (v:=iv (at_+((u:Int) % (days+3)))) rfl ?_
             obtain ⟨H21,hH21⟩:∃ H21,L1.new (.cells [iv (at_+((u:Int) % (days+3)))] 3 false)=H21:=⟨_,rfl⟩
             refine ZN (H':=H21) (k:=.heavy) rfl (by kernel_rfl) ((YE (v:=iv (at_+((u:Int) % (days+3)))) UV zo3 rfl rfl rfl (by decide)).trans (by rw [← hH21];rfl)) (fun b e=>by cases e) ?_
             obtain ⟨kH21,nH21,c21⟩:=Z2 hH21;clear hH21
             have c21:Cl H21 L1.next [iv (at_+((u:Int) % (days+3)))]:=c21
             have mH21:=kH21.1
             have hk:=hk.trans kH21
             have hs:=kH21.sl0 hs
             have hsn:=kH21.sl0 hsn
             have hb:=kH21.sl0 hb
             have hk1:=hk1.trans kH21
             have hsc1:=kH21.sl0 hsc1
             have kacc:=kacc.trans kH21
             have ry:=kH21.rd ry (by simp)
             obtain ⟨H22,kdH22,eH22,dH22,aH22,kbH22⟩:=YJ (P:=Try.prog) (lo:=lo) (k:=i) (t1:=42) UV J8 (c21.sl (Nat.le_refl 1)) rfl (by decide) rfl (by rw [Uf,hol];omega) (by omega) (hacc.keep kacc) (by omega) (by omega)
             refine ZN (k:=kdH22) rfl (by cases wv<;>kernel_rfl) (eH22 _ _ _ _ _ _ _ rfl rfl) (UT dH22 _) ?_
             have hk:=kbH22.keep hk (by omega)
             have hs:=kbH22.sl hs (fun b e=>by have:=fs b e;omega)
             have hsn:=kbH22.sl hsn (fun b e=>by have:=fn b e;omega)
             have hb:=kbH22.sl hb (fun b e=>by have:=fb b e;omega)
             have hk1:=kbH22.keep hk1 (by omega)
             have hsc1:=kbH22.sl hsc1 (fun b e=>by have:=fsc1 b e;omega)
             have mH22:=kbH22.1
             refine Za (v:=.slice (some ⟨H21.next,0,none⟩) (i+1) (i+1)) rfl ?_
             refine Zb ?_
             first | refine Z0 ?_ | refine Xg ?_ | refine YR ?_ | (refine Z5 ?_;refine Z0 ?_)
             refine Za (v:=iv (at_+((u:Int) % (days+3)))) rfl ?_
             refine Zo (a:=at_+((u:Int) % (days+3))) (b:=1) rfl rfl ⟨by omega,by omega⟩ ?_
             refine Za (v:=iv ((at_+((u:Int) % (days+3)))+1)) rfl ?_
             refine Zb ?_
             first | refine Z0 ?_ | refine Xg ?_ | refine YR ?_ | (refine Z5 ?_;refine Z0 ?_)
             refine Za (v:=iv (i:Int)) rfl ?_
             refine Zo (a:=(i:Int)) (b:=1) rfl rfl ⟨by omega,by omega⟩ ?_
             refine Za (v:=iv ((i:Int)+1)) rfl ?_
             refine Zb ?_
             have hacc2:Acc lo H1.next 3 H22 (.slice (some ⟨H21.next,0,none⟩) (i+1) (i+1)) (i+1) (cI (ot ++ [at_+((u:Int) % (days+3))])):=by rw [U8];exact aH22
             exact ⟨k - 1,(i+1,_,(at_+((u:Int) % (days+3)))+1),by omega,⟨by simp only [];omega,hk,hk1,hs,hsn,hb,hsc1,by simp only [];omega,_,by rw [List.length_append,hol];rfl,hacc2⟩,rfl,rfl,rfl,rfl,rfl,rfl,rfl,rfl,rfl,rfl,rfl,rfl,rfl,rfl,ivq (by simp only [];omega),trivial⟩
            ·have q45:¬ ((i:Int) < (n:Int)):=of_decide_eq_false q45
             have ein:i=n:=by omega
             simp only [] at hol;rw [ein] at hacc hol;obtain ⟨oa,oc,rfl,hso,_⟩:=hacc.sl;have fso:=hso.old
             first | (refine Zy ?_;show wC _ _ _ _ _ _ _ _ _) | skip
             refine Zc ?_
             refine Za (v:=.slice la n lcap) rfl ?_
             refine Za (v:=.slice oa n oc) rfl ?_
             refine Za (v:=.slice na nn ncap) rfl ?_
             refine Za (v:=iv reach) rfl ?_
             refine Za (v:=iv days) rfl ?_
             refine Za (v:=iv limit) rfl ?_
             refine Za (v:=iv frm) rfl ?_
             refine Za (v:=iv to_) rfl ?_
             obtain ⟨_,_,hany,_,_,_,_,_,_⟩:=V3 hse (by omega)
             obtain ⟨tg,H23,fH23,hg1,_,kH23⟩:=VW (kn:=kn) (lo:=lo) (H:=L1) hs hl (by omega) hso hol (by omega) hsn hln (by omega) (reach:=reach) (days:=days) (limit:=limit) (frm:=frm) (to_:=to_) (Kr hany) (by omega) (by omega) (by omega) (by omega)
             refine Zi (vs:=[.slice la n lcap,.slice oa n oc,.slice na nn ncap,iv reach,iv days,iv limit,iv frm,iv to_]) rfl (Ze fH23) ?_
             have mH23:=kH23.1
             have hk:=hk.trans kH23
             have hs:=kH23.sl0 hs
             have hsn:=kH23.sl0 hsn
             have hb:=kH23.sl0 hb
             have hk1:=hk1.trans kH23
             have hsc1:=kH23.sl0 hsc1
             have hso:=kH23.sl0 hso
             refine Zb ?_
             refine And.intro (fun q46=>?_) (fun q46=>?_)
             ·have q46:tg=true:=by simpa using q46
              have hgo:=hg1 (by simpa using q46);obtain ⟨he0b,hleo⟩:=UF hse (by omega) hgo;have hlo2:=hleo.len
              refine Zc ?_
              refine Za (v:=iv e) rfl ?_
              refine X6 (a:=e) (b:=0) rfl rfl ?_
              refine Zb ?_
              refine And.intro (fun q47=>?_) (fun q47=>?_)
              ·have q47:e≠0:=by simpa using q47
               omega
              ·have q47:¬ (e≠0):=by simpa using q47
               first | refine Zj ?_ | skip
               refine Zc ?_
               refine Za (v:=iv 0) rfl ?_
               refine Zb ?_
               refine Zt (fn:=Try.f9) Zcf N9 Zcj (fun i:Nat=>[(0,.slice la n lcap),(1,.slice na nn ncap),(2,iv reach),(3,iv days),(4,iv limit),(5,iv frm),(6,iv to_),(7,.slice ba bn bc),(8,.int .u16 mj),(18,.bool false),(19,.slice sa1 p.length sc1),(20,iv e),(21,.slice oa n oc),(24,iv (i:Int))])
                (fun k i H'=>i+k=n∧Zk H H' []∧Zk H1 H' []∧Sl H' la n lcap (cI loads)∧Sl H' na nn ncap (nsc ns)∧Sl H' ba bn bc (cY us)∧Sl H' sa1 p.length sc1 (cI p)∧Sl H' oa n oc (cI ot)) n 0 ⟨by omega,hk,hk1,hs,hsn,hb,hsc1,hso⟩ ⟨rfl,rfl,rfl,rfl,rfl,rfl,rfl,rfl,rfl,rfl,rfl,rfl,rfl,rfl,trivial⟩ ?_
               rintro k i L2 ⟨hik,hk,hk1,hs,hsn,hb,hsc1,hso⟩
               have mk:=hk.1;have mk1:=hk1.1
               refine Zc ?_
               refine Za (v:=iv (i:Int)) rfl ?_
               refine Za (v:=.slice oa n oc) rfl ?_
               refine Zv (m:=n) rfl ?_
               refine Zx (a:=(i:Int)) (b:=(n:Int)) rfl rfl ?_
               refine Zb ?_
               refine And.intro (fun q48=>?_) (fun q48=>?_)
               ·have q48:(i:Int) < (n:Int):=of_decide_eq_true q48
                have hi:i < n:=by omega
                rcases id hso with ⟨_,h0o,_⟩ | ⟨ob,eo,ro,_⟩
                ·omega
                have lo:=ro.1
                rcases id hsc1 with ⟨_,h0q,_⟩ | ⟨qb,eq,rq,_⟩
                ·omega
                have lq:=rq.1
                have lob2:=fso ob eo;have lqb2:=fsc1 qb eq;have hiat:=hleo.at (i:=i) (by omega)
                first | refine Zj ?_ | skip
                refine Yq ?_
                refine Zg (v:=.slice oa n oc) rfl ?_
                refine Zg (v:=iv (i:Int)) rfl ?_
                refine ZC (b:=ob) (o:=0) (k:=i) (j:=(i:Int)) (by rw [← eo];rfl) rfl rfl hi ?_
                refine Yf (b:=ob) (o:=0+i * 1) (v:=iv (ot.getD i 0)) rfl ro (YI (by omega)) ?_
                refine Zg (v:=.slice sa1 p.length sc1) rfl ?_
                refine Zg (v:=iv (i:Int)) rfl ?_
                refine ZC (b:=qb) (o:=0) (k:=i) (j:=(i:Int)) (by rw [← eq];rfl) rfl rfl (by omega) ?_
                refine Yf (b:=qb) (o:=0+i * 1) (v:=iv (p.getD i 0)) rfl rq (YI (by omega)) ?_
                refine Wp (a:=(ot.getD i 0)) (b:=(p.getD i 0)) rfl rfl ?_
                refine ZL (by repeat' first | exact True.intro | exact (fun h=>h) | refine And.intro ?_ ?_ | (intro h;have h:(_:Nat)=_:=h;omega)) ?_
                refine And.intro (fun q49=>?_) (fun q49=>?_)
                ·have q49:(ot.getD i 0) < (p.getD i 0):=of_decide_eq_true q49
                 omega
                ·have q49:¬ ((ot.getD i 0) < (p.getD i 0)):=of_decide_eq_false q49
                 first | refine Zj ?_ | skip
                 first | refine Z0 ?_ | refine Xg ?_ | refine YR ?_ | (refine Z5 ?_;refine Z0 ?_)
                 refine Za (v:=iv (i:Int)) rfl ?_
                 refine Zo (a:=(i:Int)) (b:=1) rfl rfl ⟨by omega,by omega⟩ ?_
                 refine Za (v:=iv ((i:Int)+1)) rfl ?_
                 refine Zb ?_
                 exact ⟨k - 1,i+1,by omega,⟨by omega,hk,hk1,hs,hsn,hb,hsc1,hso⟩,rfl,rfl,rfl,rfl,rfl,rfl,rfl,rfl,rfl,rfl,rfl,rfl,rfl,ivq (by omega),trivial⟩
               ·have q48:¬ ((i:Int) < (n:Int)):=of_decide_eq_false q48
                first | (refine Zy ?_;show wC _ _ _ _ _ _ _ _ _) | skip
                refine Zc ?_
                refine Za (v:=iv e) rfl ?_
                refine ZS (a:=e) (b:=0) rfl rfl ?_
                intro t50 g50;cases t50
                ·have g50:¬ (e≠0):=by simpa using g50
                 omega
                ·have g50:e≠0:=by simpa using g50
                 refine Za (v:=.bool true) rfl ?_
                 refine Zh rfl ?_
                 refine Zh rfl ?_
                 refine Zh rfl ?_
                 refine Zd (v:=.bool true) rfl rfl ?_
                 refine Zb ?_
                 refine ZK ?_
                 refine Zc ?_
                 obtain ⟨H24,fH24,kH24⟩:=Yz (kn:=kn) (lo:=lo) (H:=L2) hkn (by omega)
                 refine Zi (vs:=[]) rfl (ZF (hkn 11) fH24) ?_
                 have mH24:=kH24.1
                 have hk:=hk.trans kH24
                 have hs:=kH24.sl0 hs
                 have hsn:=kH24.sl0 hsn
                 have hb:=kH24.sl0 hb
                 have hk1:=hk1.trans kH24
                 have hsc1:=kH24.sl0 hsc1
                 have hso:=kH24.sl0 hso
                 refine Za (v:=.bool true) rfl ?_
                 refine Zb ?_
                 exact And.intro trivial (Exists.intro _ (And.intro rfl rfl))
             ·have q46:¬ (tg=true):=by simpa using q46
              first | refine Zj ?_ | skip
              refine Zc ?_
              refine Za (v:=iv e) rfl ?_
              refine ZS (a:=e) (b:=0) rfl rfl ?_
              intro t51 g51;cases t51
              ·have g51:¬ (e≠0):=by simpa using g51
               omega
              ·have g51:e≠0:=by simpa using g51
               refine Za (v:=.bool true) rfl ?_
               refine Zh rfl ?_
               refine Zh rfl ?_
               refine Zh rfl ?_
               refine Zd (v:=.bool true) rfl rfl ?_
               refine Zb ?_
               refine ZK ?_
               refine Zc ?_
               obtain ⟨H25,fH25,kH25⟩:=Yz (kn:=kn) (lo:=lo) (H:=H23) hkn (by omega)
               refine Zi (vs:=[]) rfl (ZF (hkn 11) fH25) ?_
               have mH25:=kH25.1
               have hk:=hk.trans kH25
               have hs:=kH25.sl0 hs
               have hsn:=kH25.sl0 hsn
               have hb:=kH25.sl0 hb
               have hk1:=hk1.trans kH25
               have hsc1:=kH25.sl0 hsc1
               have hso:=kH25.sl0 hso
               refine Za (v:=.bool true) rfl ?_
               refine Zb ?_
               exact And.intro trivial (Exists.intro _ (And.intro rfl rfl))
           ·have g44:(p.length:Int) > 0:=of_decide_eq_true g44
            refine Zl rfl (Zd (v:=.bool true) rfl rfl ?_)
            refine Zd (v:=.bool true) rfl rfl ?_
            refine Zb ?_
            refine ZK ?_
            refine Zc ?_
            refine Za (v:=.bool false) rfl ?_
            refine Zb ?_
            exact (show False by omega).elim
         ·have g42:e=0:=by simpa using g42
          refine Zl rfl (Za (v:=.bool true) rfl ?_)
          refine Zl rfl (Za (v:=.slice la n lcap) rfl ?_)
          refine Zl rfl (Za (v:=.slice sa1 p.length sc1) rfl ?_)
          refine Zl rfl (Za (v:=.slice na nn ncap) rfl ?_)
          refine Zl rfl (Za (v:=iv reach) rfl ?_)
          refine Zl rfl (Za (v:=iv days) rfl ?_)
          refine Zl rfl (Za (v:=iv limit) rfl ?_)
          refine Zl rfl (Za (v:=iv frm) rfl ?_)
          refine Zl rfl (Za (v:=iv to_) rfl ?_)
          have he0:e=0:=by omega
          obtain ⟨_,_,hany,_,_,_,_,_,_⟩:=V3 hse (.inl he0);have hpg:=(QI (show (seT loads ns reach days limit frm to_)=(p,0) by rw [hse,he0])).1
          obtain ⟨tH26,H26,fH26,_,htH26,kH26⟩:=VW (kn:=kn) (lo:=lo) (H:=H1) hs hl (by omega) hsc1 rfl (by omega) hsn hln (by omega) (reach:=reach) (days:=days) (limit:=limit) (frm:=frm) (to_:=to_) (Kr hany) (by omega) (by omega) (by omega) (by first | omega | (simp only [cond_true];omega) | (simp only [cond_false];omega));obtain rfl:=htH26 hpg
          refine Zl rfl (Zi (vs:=[.slice la n lcap,.slice sa1 p.length sc1,.slice na nn ncap,iv reach,iv days,iv limit,iv frm,iv to_]) rfl (Ze fH26) ?_)
          have mH26:=kH26.1
          have hk:=hk.trans kH26
          have hs:=kH26.sl0 hs
          have hsn:=kH26.sl0 hsn
          have hb:=kH26.sl0 hb
          have hsc1:=kH26.sl0 hsc1
          have hk1:=hk1.trans kH26
          refine Zl rfl (Zd (v:=.bool false) rfl rfl ?_)
          refine Zl rfl (Zd (v:=.bool false) rfl rfl ?_)
          refine Zd (v:=.bool false) rfl rfl ?_
          refine Za (v:=.bool false) rfl ?_
          refine Zl rfl (Za (v:=iv e) rfl ?_)
          refine Zl rfl (ZS (a:=e) (b:=0) rfl rfl ?_)
          intro t52 g52;cases t52
          ·have g52:¬ (e≠0):=by simpa using g52
           refine Zl rfl (Za (v:=.bool false) rfl ?_)
           refine Zh rfl ?_
           refine Zh rfl ?_
           refine Zh rfl ?_
           refine Zl rfl (Zd (v:=.bool false) rfl rfl ?_)
           refine Zd (v:=.bool false) rfl rfl ?_
           refine Zb ?_
           refine ZQ ?_
           first | refine Zj ?_ | skip
           refine Zc ?_
           refine Za (v:=.slice none 0 0) rfl ?_
           refine Zb ?_
           refine Zc ?_
           refine Za (v:=iv frm) rfl ?_
           refine Za (v:=iv frm) rfl ?_
           refine Zb ?_
           refine Zc ?_
           refine Za (v:=iv 0) rfl ?_
           refine Zb ?_
           refine Zt (fn:=Try.f9) Zb0 N9 Zcd (fun z:Nat × Value × Int=>[(0,.slice la n lcap),(1,.slice na nn ncap),(2,iv reach),(3,iv days),(4,iv limit),(5,iv frm),(6,iv to_),(7,.slice ba bn bc),(8,.int .u16 mj),(18,.bool false),(19,.slice sa1 p.length sc1),(20,iv e),(21,z.2.1),(22,iv z.2.2),(23,iv (z.1:Int))])
            (fun k z H'=>z.1+k=n∧Zk H H' []∧Zk H1 H' []∧Sl H' la n lcap (cI loads)∧Sl H' na nn ncap (nsc ns)∧Sl H' ba bn bc (cY us)∧Sl H' sa1 p.length sc1 (cI p)∧(0≤z.2.2∧z.2.2≤16384+400 * (z.1:Int))∧∃ ot:List Int,ot.length=z.1∧Acc lo H1.next 3 H' z.2.1 z.1 (cI ot)) n (0,.slice none 0 0,frm) ⟨by simp,hk,hk1,hs,hsn,hb,hsc1,by simp only [];omega,[],rfl,.inl ⟨rfl,rfl,rfl⟩⟩ ⟨rfl,rfl,rfl,rfl,rfl,rfl,rfl,rfl,rfl,rfl,rfl,rfl,rfl,rfl,rfl,trivial⟩ ?_
           rintro k ⟨i,wv,at_⟩ L1 ⟨hik,hk,hk1,hs,hsn,hb,hsc1,hat,ot,hol,hacc⟩
           simp only [] at hik hacc hat
           have mk:=hk.1;have mk1:=hk1.1;have kacc:=Zk.refl L1 []
           refine Zc ?_
           refine Za (v:=iv (i:Int)) rfl ?_
           refine Za (v:=.slice la n lcap) rfl ?_
           refine Zv (m:=n) rfl ?_
           refine Zx (a:=(i:Int)) (b:=(n:Int)) rfl rfl ?_
           refine Zb ?_
           refine And.intro (fun q53=>?_) (fun q53=>?_)
           ·have q53:(i:Int) < (n:Int):=of_decide_eq_true q53
            have hi:i < n:=by omega
            rcases id hb with ⟨_,h0y,_⟩ | ⟨yb,ey,ry,_⟩
            ·omega
            have ly:=ry.1
            have lyb2:=fb yb ey;simp only [] at hol
            have e1a:=Int.emod_nonneg (i:Int) (b:=(bn:Int)) (by omega);have e1b:=Int.emod_lt_of_pos (i:Int) (b:=(bn:Int)) (by omega)
            have zu:i % bn < us.length:=by rw [hbl];exact Nat.mod_lt _ (by omega)
            obtain ⟨u,eu⟩:∃ u:Nat,us.getD (i % bn) 0=u:=⟨_,rfl⟩;have hu:u≤255:=eu ▸ hus _ (YA (z:=0) zu)
            have e2a:=Int.emod_nonneg (u:Int) (b:=days+3) (by omega);have e2b:=Int.emod_lt_of_pos (u:Int) (b:=days+3) (by omega)
            first | refine Zj ?_ | skip
            refine Zc ?_
            refine Za (v:=iv at_) rfl ?_
            refine Za (v:=.slice ba bn bc) rfl ?_
            refine Za (v:=iv (i:Int)) rfl ?_
            refine Za (v:=.slice ba bn bc) rfl ?_
            refine Zv (m:=bn) rfl ?_
            refine VE (a:=(i:Int)) (b:=(bn:Int)) rfl rfl (by omega) (by omega) ⟨by omega,by omega⟩ ⟨by omega,by omega⟩ ?_
            refine YS (b:=yb) (o:=0) (k:=i % bn) (j:=(i:Int) % (bn:Int)) (by rw [← ey];rfl) rfl (Int.natCast_emod i bn).symm (Nat.mod_lt _ (by omega)) ?_
            refine ZP (b:=yb) (o:=0+(i % bn) * 1) (v:=.int .u8 (u:Int)) rfl ry (by rw [← eu];exact qR zu) ?_
            refine Zd (v:=iv (u:Int)) rfl (ZbV (n:=u) (j:=(u:Int)) (by omega) rfl rfl) ?_
            refine Za (v:=iv days) rfl ?_
            refine Zo (a:=days) (b:=3) rfl rfl ⟨by omega,by omega⟩ ?_
            refine VE (a:=(u:Int)) (b:=days+3) rfl rfl (by omega) (by omega) ⟨by omega,by omega⟩ ⟨by omega,by omega⟩ ?_
            refine Zo (a:=at_) (b:=(u:Int) % (days+3)) rfl rfl ⟨by omega,by omega⟩ ?_
            refine Za (v:=iv (at_+((u:Int) % (days+3)))) rfl ?_
            refine Zb ?_
            refine Zc ?_
            refine Za (v:=wv) rfl ?_
            refine Za (v:=iv (at_+((u:Int) % (days+3)))) rfl ?_
            obtain ⟨H27,hH27⟩:∃ H27,L1.new (.cells [iv (at_+((u:Int) % (days+3)))] 3 false)=H27:=⟨_,rfl⟩
            refine ZN (H':=H27) (k:=.heavy) rfl (by kernel_rfl) ((YE (v:=iv (at_+((u:Int) % (days+3)))) UV zo3 rfl rfl rfl (by decide)).trans (by rw [← hH27];rfl)) (fun b e=>by cases e) ?_
            obtain ⟨kH27,nH27,c27⟩:=Z2 hH27;clear hH27
            have c27:Cl H27 L1.next [iv (at_+((u:Int) % (days+3)))]:=c27
            have mH27:=kH27.1
            have hk:=hk.trans kH27
            have hs:=kH27.sl0 hs
            have hsn:=kH27.sl0 hsn
            have hb:=kH27.sl0 hb
            have hk1:=hk1.trans kH27
            have hsc1:=kH27.sl0 hsc1
            have kacc:=kacc.trans kH27
            have ry:=kH27.rd ry (by simp)
            obtain ⟨H28,kdH28,eH28,dH28,aH28,kbH28⟩:=YJ (P:=Try.prog) (lo:=lo) (k:=i) (t1:=42) UV J8 (c27.sl (Nat.le_refl 1)) rfl (by decide) rfl (by rw [Uf,hol];omega) (by omega) (hacc.keep kacc) (by omega) (by omega)
            refine ZN (k:=kdH28) rfl (by cases wv<;>kernel_rfl) (eH28 _ _ _ _ _ _ _ rfl rfl) (UT dH28 _) ?_
            have hk:=kbH28.keep hk (by omega)
            have hs:=kbH28.sl hs (fun b e=>by have:=fs b e;omega)
            have hsn:=kbH28.sl hsn (fun b e=>by have:=fn b e;omega)
            have hb:=kbH28.sl hb (fun b e=>by have:=fb b e;omega)
            have hk1:=kbH28.keep hk1 (by omega)
            have hsc1:=kbH28.sl hsc1 (fun b e=>by have:=fsc1 b e;omega)
            have mH28:=kbH28.1
            refine Za (v:=.slice (some ⟨H27.next,0,none⟩) (i+1) (i+1)) rfl ?_
            refine Zb ?_
            first | refine Z0 ?_ | refine Xg ?_ | refine YR ?_ | (refine Z5 ?_;refine Z0 ?_)
            refine Za (v:=iv (at_+((u:Int) % (days+3)))) rfl ?_
            refine Zo (a:=at_+((u:Int) % (days+3))) (b:=1) rfl rfl ⟨by omega,by omega⟩ ?_
            refine Za (v:=iv ((at_+((u:Int) % (days+3)))+1)) rfl ?_
            refine Zb ?_
            first | refine Z0 ?_ | refine Xg ?_ | refine YR ?_ | (refine Z5 ?_;refine Z0 ?_)
            refine Za (v:=iv (i:Int)) rfl ?_
            refine Zo (a:=(i:Int)) (b:=1) rfl rfl ⟨by omega,by omega⟩ ?_
            refine Za (v:=iv ((i:Int)+1)) rfl ?_
            refine Zb ?_
            have hacc2:Acc lo H1.next 3 H28 (.slice (some ⟨H27.next,0,none⟩) (i+1) (i+1)) (i+1) (cI (ot ++ [at_+((u:Int) % (days+3))])):=by rw [U8];exact aH28
            exact ⟨k - 1,(i+1,_,(at_+((u:Int) % (days+3)))+1),by omega,⟨by simp only [];omega,hk,hk1,hs,hsn,hb,hsc1,by simp only [];omega,_,by rw [List.length_append,hol];rfl,hacc2⟩,rfl,rfl,rfl,rfl,rfl,rfl,rfl,rfl,rfl,rfl,rfl,rfl,rfl,rfl,ivq (by simp only [];omega),trivial⟩
           ·have q53:¬ ((i:Int) < (n:Int)):=of_decide_eq_false q53
            have ein:i=n:=by omega
            simp only [] at hol;rw [ein] at hacc hol;obtain ⟨oa,oc,rfl,hso,_⟩:=hacc.sl;have fso:=hso.old
            first | (refine Zy ?_;show wC _ _ _ _ _ _ _ _ _) | skip
            refine Zc ?_
            refine Za (v:=.slice la n lcap) rfl ?_
            refine Za (v:=.slice oa n oc) rfl ?_
            refine Za (v:=.slice na nn ncap) rfl ?_
            refine Za (v:=iv reach) rfl ?_
            refine Za (v:=iv days) rfl ?_
            refine Za (v:=iv limit) rfl ?_
            refine Za (v:=iv frm) rfl ?_
            refine Za (v:=iv to_) rfl ?_
            obtain ⟨_,_,hany,_,_,_,_,_,_⟩:=V3 hse (by omega)
            obtain ⟨tg,H29,fH29,hg1,_,kH29⟩:=VW (kn:=kn) (lo:=lo) (H:=L1) hs hl (by omega) hso hol (by omega) hsn hln (by omega) (reach:=reach) (days:=days) (limit:=limit) (frm:=frm) (to_:=to_) (Kr hany) (by omega) (by omega) (by omega) (by omega)
            refine Zi (vs:=[.slice la n lcap,.slice oa n oc,.slice na nn ncap,iv reach,iv days,iv limit,iv frm,iv to_]) rfl (Ze fH29) ?_
            have mH29:=kH29.1
            have hk:=hk.trans kH29
            have hs:=kH29.sl0 hs
            have hsn:=kH29.sl0 hsn
            have hb:=kH29.sl0 hb
            have hk1:=hk1.trans kH29
            have hsc1:=kH29.sl0 hsc1
            have hso:=kH29.sl0 hso
            refine Zb ?_
            refine And.intro (fun q54=>?_) (fun q54=>?_)
            ·have q54:tg=true:=by simpa using q54
             have hgo:=hg1 (by simpa using q54);obtain ⟨he0b,hleo⟩:=UF hse (by omega) hgo;have hlo2:=hleo.len
             refine Zc ?_
             refine Za (v:=iv e) rfl ?_
             refine X6 (a:=e) (b:=0) rfl rfl ?_
             refine Zb ?_
             refine And.intro (fun q55=>?_) (fun q55=>?_)
             ·have q55:e≠0:=by simpa using q55
              omega
             ·have q55:¬ (e≠0):=by simpa using q55
              first | refine Zj ?_ | skip
              refine Zc ?_
              refine Za (v:=iv 0) rfl ?_
              refine Zb ?_
              refine Zt (fn:=Try.f9) Zcf N9 Zcj (fun i:Nat=>[(0,.slice la n lcap),(1,.slice na nn ncap),(2,iv reach),(3,iv days),(4,iv limit),(5,iv frm),(6,iv to_),(7,.slice ba bn bc),(8,.int .u16 mj),(18,.bool false),(19,.slice sa1 p.length sc1),(20,iv e),(21,.slice oa n oc),(24,iv (i:Int))])
               (fun k i H'=>i+k=n∧Zk H H' []∧Zk H1 H' []∧Sl H' la n lcap (cI loads)∧Sl H' na nn ncap (nsc ns)∧Sl H' ba bn bc (cY us)∧Sl H' sa1 p.length sc1 (cI p)∧Sl H' oa n oc (cI ot)) n 0 ⟨by omega,hk,hk1,hs,hsn,hb,hsc1,hso⟩ ⟨rfl,rfl,rfl,rfl,rfl,rfl,rfl,rfl,rfl,rfl,rfl,rfl,rfl,rfl,trivial⟩ ?_
              rintro k i L2 ⟨hik,hk,hk1,hs,hsn,hb,hsc1,hso⟩
              have mk:=hk.1;have mk1:=hk1.1
              refine Zc ?_
              refine Za (v:=iv (i:Int)) rfl ?_
              refine Za (v:=.slice oa n oc) rfl ?_
              refine Zv (m:=n) rfl ?_
              refine Zx (a:=(i:Int)) (b:=(n:Int)) rfl rfl ?_
              refine Zb ?_
              refine And.intro (fun q56=>?_) (fun q56=>?_)
              ·have q56:(i:Int) < (n:Int):=of_decide_eq_true q56
               have hi:i < n:=by omega
               rcases id hso with ⟨_,h0o,_⟩ | ⟨ob,eo,ro,_⟩
               ·omega
               have lo:=ro.1
               rcases id hsc1 with ⟨_,h0q,_⟩ | ⟨qb,eq,rq,_⟩
               ·omega
               have lq:=rq.1
               have lob2:=fso ob eo;have lqb2:=fsc1 qb eq;have hiat:=hleo.at (i:=i) (by omega)
               first | refine Zj ?_ | skip
               refine Yq ?_
               refine Zg (v:=.slice oa n oc) rfl ?_
               refine Zg (v:=iv (i:Int)) rfl ?_
               refine ZC (b:=ob) (o:=0) (k:=i) (j:=(i:Int)) (by rw [← eo];rfl) rfl rfl hi ?_
               refine Yf (b:=ob) (o:=0+i * 1) (v:=iv (ot.getD i 0)) rfl ro (YI (by omega)) ?_
               refine Zg (v:=.slice sa1 p.length sc1) rfl ?_
               refine Zg (v:=iv (i:Int)) rfl ?_
               refine ZC (b:=qb) (o:=0) (k:=i) (j:=(i:Int)) (by rw [← eq];rfl) rfl rfl (by omega) ?_
               refine Yf (b:=qb) (o:=0+i * 1) (v:=iv (p.getD i 0)) rfl rq (YI (by omega)) ?_
               refine Wp (a:=(ot.getD i 0)) (b:=(p.getD i 0)) rfl rfl ?_
               refine ZL (by repeat' first | exact True.intro | exact (fun h=>h) | refine And.intro ?_ ?_ | (intro h;have h:(_:Nat)=_:=h;omega)) ?_
               refine And.intro (fun q57=>?_) (fun q57=>?_)
               ·have q57:(ot.getD i 0) < (p.getD i 0):=of_decide_eq_true q57
                omega
               ·have q57:¬ ((ot.getD i 0) < (p.getD i 0)):=of_decide_eq_false q57
                first | refine Zj ?_ | skip
                first | refine Z0 ?_ | refine Xg ?_ | refine YR ?_ | (refine Z5 ?_;refine Z0 ?_)
                refine Za (v:=iv (i:Int)) rfl ?_
                refine Zo (a:=(i:Int)) (b:=1) rfl rfl ⟨by omega,by omega⟩ ?_
                refine Za (v:=iv ((i:Int)+1)) rfl ?_
                refine Zb ?_
                exact ⟨k - 1,i+1,by omega,⟨by omega,hk,hk1,hs,hsn,hb,hsc1,hso⟩,rfl,rfl,rfl,rfl,rfl,rfl,rfl,rfl,rfl,rfl,rfl,rfl,rfl,ivq (by omega),trivial⟩
              ·have q56:¬ ((i:Int) < (n:Int)):=of_decide_eq_false q56
               first | (refine Zy ?_;show wC _ _ _ _ _ _ _ _ _) | skip
               refine Zc ?_
               refine Za (v:=iv e) rfl ?_
               refine ZS (a:=e) (b:=0) rfl rfl ?_
               intro t58 g58;cases t58
               ·have g58:¬ (e≠0):=by simpa using g58
                have he0:e=0:=by omega
                refine Za (v:=.bool false) rfl ?_
                refine Zl rfl (Za (v:=.slice la n lcap) rfl ?_)
                refine Zl rfl (Zv (m:=n) rfl ?_)
                refine Zl rfl (Xe (a:=(n:Int)) (b:=0) rfl rfl ?_)
                intro t59 g59;cases t59
                ·have g59:¬ ((n:Int)=0):=by simpa using g59
                 refine Zd (v:=.bool false) rfl rfl ?_
                 refine Zb ?_
                 refine ZQ ?_
                 first | refine Zj ?_ | skip
                 refine Zc ?_
                 refine Za (v:=.slice la n lcap) rfl ?_
                 refine Za (v:=.slice na nn ncap) rfl ?_
                 refine Za (v:=iv reach) rfl ?_
                 refine Za (v:=iv days) rfl ?_
                 refine Za (v:=iv limit) rfl ?_
                 refine Za (v:=.int .u16 mj) rfl ?_
                 refine Zd (v:=iv (mo:Int)) rfl (js (n:=mo) (j:=mj) (by omega) rfl hmo) ?_
                 refine Zo (a:=limit) (b:=(mo:Int)) rfl rfl ⟨by omega,by omega⟩ ?_
                 refine JI (a:=72057594037927936) (b:=limit+(mo:Int)) rfl rfl ?_
                 refine Za (v:=iv frm) rfl ?_
                 refine Za (v:=iv to_) rfl ?_
                 obtain ⟨a2,hse2,hle2⟩:=QO (l2:=(min 72057594037927936 (limit+(mo:Int)))) (show (seT loads ns reach days limit frm to_)=(p,0) by rw [hse,he0]) (by omega) (by omega);have hl2:=hle2.len
                 obtain ⟨vs2,H30,fH30,hac2,kH30⟩:=XF (kn:=kn) (lo:=lo) (H:=L2) hs hl (by omega) hsn hln (by omega) (reach:=reach) (days:=days) (limit:=(min 72057594037927936 (limit+(mo:Int)))) (frm:=frm) (to_:=to_) (hkn 35) (by omega);rw [hse2] at fH30 hac2
                 refine Zi (vs:=[.slice la n lcap,.slice na nn ncap,iv reach,iv days,iv (min 72057594037927936 (limit+(mo:Int))),iv frm,iv to_]) rfl (Ze fH30) ?_
                 have mH30:=kH30.1
                 have hk:=hk.trans kH30
                 have hs:=kH30.sl0 hs
                 have hsn:=kH30.sl0 hsn
                 have hb:=kH30.sl0 hb
                 have hk1:=hk1.trans kH30
                 have hsc1:=kH30.sl0 hsc1
                 have hso:=kH30.sl0 hso
                 simp only [] at hac2;obtain ⟨sa2,sc2,rfl,hsc2,_⟩:=hac2.sl;have fsc2:=hsc2.old
                 refine Za (v:=.tuple #[.slice sa2 a2.length sc2,iv 0]) rfl ?_
                 refine Zd (v:=.slice sa2 a2.length sc2) rfl (by kernel_rfl) ?_
                 refine Zd (v:=iv 0) rfl (by kernel_rfl) ?_
                 refine Za (v:=.slice sa2 a2.length sc2) rfl ?_
                 refine Za (v:=iv 0) rfl ?_
                 refine Zb ?_
                 refine Zc ?_
                 refine Za (v:=.slice la n lcap) rfl ?_
                 refine Za (v:=.slice la n lcap) rfl ?_
                 refine Zv (m:=n) rfl ?_
                 refine Yl (a:=(n:Int)) (b:=1) rfl rfl ⟨by omega,by omega⟩ ?_
                 obtain ⟨lb,el⟩:∃ b,la=some ⟨b,0,none⟩:=Vg hs (by omega);have hlf:=hk.fx (hfx lb el) (by simp)
                 have hlc:=Vj hs
                 refine ZN (v:=.slice la (n - 1) lcap) (H':=H30) (k:=.read lb) rfl (by kernel_rfl) (by rw [el];exact YW (k:=n - 1) (m:=n) hlf (by omega) hlc (by rw [← el];rfl) rfl (by omega)) (fun b e=>by cases e;exact hlf.lt) ?_
                 refine Za (v:=.slice na nn ncap) rfl ?_
                 refine Za (v:=iv reach) rfl ?_
                 refine Za (v:=iv days) rfl ?_
                 refine Za (v:=iv limit) rfl ?_
                 refine Za (v:=iv frm) rfl ?_
                 refine Za (v:=iv to_) rfl ?_
                 have hse3:=QN (show (seT loads ns reach days limit frm to_)=(p,0) by rw [hse,he0]) (by omega);rw [hl] at hse3
                 obtain ⟨vs3,H31,fH31,hac3,kH31⟩:=XO (kn:=kn) (lo:=lo) (H:=H30) (loads:=loads.take (n - 1)) (mre:=loads.drop (n - 1)) (la:=la) (n:=n - 1) (lcap:=lcap) (by rw [List.take_append_drop];exact Ww hs (by omega) (by omega)) (by rw [List.length_take];omega) (by omega) hsn hln (by omega) (reach:=reach) (days:=days) (limit:=limit) (frm:=frm) (to_:=to_) (hkn 35) (by omega);rw [hse3] at fH31 hac3
                 refine Zi (vs:=[.slice la (n - 1) lcap,.slice na nn ncap,iv reach,iv days,iv limit,iv frm,iv to_]) rfl (Ze fH31) ?_
                 have mH31:=kH31.1
                 have hk:=hk.trans kH31
                 have hs:=kH31.sl0 hs
                 have hsn:=kH31.sl0 hsn
                 have hb:=kH31.sl0 hb
                 have hk1:=hk1.trans kH31
                 have hsc1:=kH31.sl0 hsc1
                 have hso:=kH31.sl0 hso
                 have hsc2:=kH31.sl0 hsc2
                 simp only [] at hac3;have hl3:(p.take (n - 1)).length=n - 1:=by rw [List.length_take];omega
                 rw [hl3] at hac3;obtain ⟨sa3,sc3,rfl,hsc3,_⟩:=hac3.sl;have fsc3:=hsc3.old
                 refine Za (v:=.tuple #[.slice sa3 (n - 1) sc3,iv 0]) rfl ?_
                 refine Zd (v:=.slice sa3 (n - 1) sc3) rfl (by kernel_rfl) ?_
                 refine Zd (v:=iv 0) rfl (by kernel_rfl) ?_
                 refine Za (v:=.slice sa3 (n - 1) sc3) rfl ?_
                 refine Za (v:=iv 0) rfl ?_
                 refine Zb ?_
                 refine Zc ?_
                 refine Za (v:=iv 0) rfl ?_
                 refine ZS (a:=0) (b:=0) rfl rfl ?_
                 intro t60 g60;obtain rfl:t60=false:=by rw [← g60];rfl
                 refine Za (v:=.bool false) rfl ?_
                 refine Zl rfl (Za (v:=iv 0) rfl ?_)
                 refine Zl rfl (ZS (a:=0) (b:=0) rfl rfl ?_)
                 intro t61 g61;obtain rfl:t61=false:=by rw [← g61];rfl
                 refine Zd (v:=.bool false) rfl rfl ?_
                 refine Za (v:=.bool false) rfl ?_
                 refine Zl rfl (Za (v:=.slice sa2 a2.length sc2) rfl ?_)
                 refine Zl rfl (Zv (m:=a2.length) rfl ?_)
                 refine Zl rfl (Za (v:=.slice sa1 p.length sc1) rfl ?_)
                 refine Zl rfl (Zv (m:=p.length) rfl ?_)
                 refine Zl rfl (ZS (a:=(a2.length:Int)) (b:=(p.length:Int)) rfl rfl ?_)
                 intro t62 g62;cases t62
                 ·have g62:¬ ((a2.length:Int)≠(p.length:Int)):=by simpa using g62
                  refine Zd (v:=.bool false) rfl rfl ?_
                  refine Za (v:=.bool false) rfl ?_
                  refine Zl rfl (Za (v:=.slice sa3 (n - 1) sc3) rfl ?_)
                  refine Zl rfl (Za (v:=.slice sa1 p.length sc1) rfl ?_)
                  refine Zl rfl (Za (v:=.slice sa1 p.length sc1) rfl ?_)
                  refine Zl rfl (Zv (m:=p.length) rfl ?_)
                  refine Zl rfl (Yl (a:=(p.length:Int)) (b:=1) rfl rfl ⟨by omega,by omega⟩ ?_)
                  obtain ⟨pb_,ep_⟩:∃ b,sa1=some ⟨b,0,none⟩:=Vg hsc1 (by omega);have hpfx:=hk1.fx (hpf pb_ _ _ (by rw [ep_])) (by simp)
                  have hpc:=Vj hsc1
                  refine Zl rfl (ZN (v:=.slice sa1 (n - 1) sc1) (H':=H31) (k:=.read pb_) rfl (by kernel_rfl) (by rw [ep_];exact YW (k:=n - 1) (m:=p.length) hpfx (by omega) hpc (by rw [← ep_];rfl) rfl (by omega)) (fun b e=>by cases e;exact hpfx.lt) ?_)
                  obtain ⟨H32,fH32,kH32⟩:=Wm (kn:=kn) (lo:=lo) (H:=H31) (xs:=p.take (n - 1)) (m1:=[]) (m2:=p.drop (n - 1)) (a1:=sa3) (a2:=sa1) (n:=n - 1) (c1:=sc3) (c2:=sc1) (by rw [List.append_nil];exact hsc3) (by rw [List.take_append_drop];exact Ww hsc1 (by omega) (by omega)) hl3 (by omega) (by first | omega | (simp only [cond_true];omega) | (simp only [cond_false];omega))
                  refine Zl rfl (Zi (vs:=[.slice sa3 (n - 1) sc3,.slice sa1 (n - 1) sc1]) rfl (Ze fH32) ?_)
                  have mH32:=kH32.1
                  have hk:=hk.trans kH32
                  have hs:=kH32.sl0 hs
                  have hsn:=kH32.sl0 hsn
                  have hb:=kH32.sl0 hb
                  have hk1:=hk1.trans kH32
                  have hsc1:=kH32.sl0 hsc1
                  have hso:=kH32.sl0 hso
                  have hsc2:=kH32.sl0 hsc2
                  have hsc3:=kH32.sl0 hsc3
                  refine Zl rfl (Zd (v:=.bool false) rfl rfl ?_)
                  refine Zd (v:=.bool false) rfl rfl ?_
                  refine Zb ?_
                  refine ZQ ?_
                  first | refine Zj ?_ | skip
                  refine Zc ?_
                  refine Za (v:=iv 0) rfl ?_
                  refine Zb ?_
                  refine Zt (fn:=Try.f9) Zch N9 Zcb (fun i:Nat=>[(0,.slice la n lcap),(1,.slice na nn ncap),(2,iv reach),(3,iv days),(4,iv limit),(5,iv frm),(6,iv to_),(7,.slice ba bn bc),(8,.int .u16 mj),(18,.bool false),(19,.slice sa1 p.length sc1),(20,iv e),(25,.slice sa2 a2.length sc2),(29,iv (i:Int))])
                   (fun k i H'=>i+k=a2.length∧Zk H H' []∧Zk H1 H' []∧Sl H' la n lcap (cI loads)∧Sl H' na nn ncap (nsc ns)∧Sl H' ba bn bc (cY us)∧Sl H' sa1 p.length sc1 (cI p)∧Sl H' sa2 a2.length sc2 (cI a2)) a2.length 0 ⟨by omega,hk,hk1,hs,hsn,hb,hsc1,hsc2⟩ ⟨rfl,rfl,rfl,rfl,rfl,rfl,rfl,rfl,rfl,rfl,rfl,rfl,rfl,rfl,trivial⟩ ?_
                  rintro k i L4 ⟨hik,hk,hk1,hs,hsn,hb,hsc1,hsc2⟩
                  have mk:=hk.1;have mk1:=hk1.1
                  refine Zc ?_
                  refine Za (v:=iv (i:Int)) rfl ?_
                  refine Za (v:=.slice sa2 a2.length sc2) rfl ?_
                  refine Zv (m:=a2.length) rfl ?_
                  refine Zx (a:=(i:Int)) (b:=(a2.length:Int)) rfl rfl ?_
                  refine Zb ?_
                  refine And.intro (fun q63=>?_) (fun q63=>?_)
                  ·have q63:(i:Int) < (a2.length:Int):=of_decide_eq_true q63
                   have hi:i < a2.length:=by omega
                   rcases id hsc2 with ⟨_,h0o,_⟩ | ⟨ob,eo,ro,_⟩
                   ·omega
                   have lo:=ro.1
                   rcases id hsc1 with ⟨_,h0q,_⟩ | ⟨qb,eq,rq,_⟩
                   ·omega
                   have lq:=rq.1
                   have lob2:=fsc2 ob eo;have lqb2:=fsc1 qb eq;have hiat:=hle2.at (i:=i) (by omega)
                   first | refine Zj ?_ | skip
                   refine Yq ?_
                   refine Zg (v:=.slice sa2 a2.length sc2) rfl ?_
                   refine Zg (v:=iv (i:Int)) rfl ?_
                   refine ZC (b:=ob) (o:=0) (k:=i) (j:=(i:Int)) (by rw [← eo];rfl) rfl rfl hi ?_
                   refine Yf (b:=ob) (o:=0+i * 1) (v:=iv (a2.getD i 0)) rfl ro (YI (by omega)) ?_
                   refine Zg (v:=.slice sa1 p.length sc1) rfl ?_
                   refine Zg (v:=iv (i:Int)) rfl ?_
                   refine ZC (b:=qb) (o:=0) (k:=i) (j:=(i:Int)) (by rw [← eq];rfl) rfl rfl (by omega) ?_
                   refine Yf (b:=qb) (o:=0+i * 1) (v:=iv (p.getD i 0)) rfl rq (YI (by omega)) ?_
                   refine WW (a:=(a2.getD i 0)) (b:=(p.getD i 0)) rfl rfl ?_
                   refine ZL (by repeat' first | exact True.intro | exact (fun h=>h) | refine And.intro ?_ ?_ | (intro h;have h:(_:Nat)=_:=h;omega)) ?_
                   refine And.intro (fun q64=>?_) (fun q64=>?_)
                   ·have q64:(a2.getD i 0) > (p.getD i 0):=of_decide_eq_true q64
                    omega
                   ·have q64:¬ ((a2.getD i 0) > (p.getD i 0)):=of_decide_eq_false q64
                    first | refine Zj ?_ | skip
                    first | refine Z0 ?_ | refine Xg ?_ | refine YR ?_ | (refine Z5 ?_;refine Z0 ?_)
                    refine Za (v:=iv (i:Int)) rfl ?_
                    refine Zo (a:=(i:Int)) (b:=1) rfl rfl ⟨by omega,by omega⟩ ?_
                    refine Za (v:=iv ((i:Int)+1)) rfl ?_
                    refine Zb ?_
                    exact ⟨k - 1,i+1,by omega,⟨by omega,hk,hk1,hs,hsn,hb,hsc1,hsc2⟩,rfl,rfl,rfl,rfl,rfl,rfl,rfl,rfl,rfl,rfl,rfl,rfl,rfl,ivq (by omega),trivial⟩
                  ·have q63:¬ ((i:Int) < (a2.length:Int)):=of_decide_eq_false q63
                   first | (refine Zy ?_;show wC _ _ _ _ _ _ _ _ _) | skip
                   refine Zc ?_
                   obtain ⟨H33,fH33,kH33⟩:=Yz (kn:=kn) (lo:=lo) (H:=L4) hkn (by omega)
                   refine Zi (vs:=[]) rfl (ZF (hkn 11) fH33) ?_
                   have mH33:=kH33.1
                   have hk:=hk.trans kH33
                   have hs:=kH33.sl0 hs
                   have hsn:=kH33.sl0 hsn
                   have hb:=kH33.sl0 hb
                   have hk1:=hk1.trans kH33
                   have hsc1:=kH33.sl0 hsc1
                   have hsc2:=kH33.sl0 hsc2
                   refine Za (v:=.bool true) rfl ?_
                   refine Zb ?_
                   exact And.intro trivial (Exists.intro _ (And.intro rfl rfl))
                 ·have g62:(a2.length:Int)≠(p.length:Int):=by simpa using g62
                  refine Zd (v:=.bool true) rfl rfl ?_
                  refine Za (v:=.bool true) rfl ?_
                  refine Zh rfl ?_
                  refine Zh rfl ?_
                  refine Zh rfl ?_
                  refine Zh rfl ?_
                  refine Zh rfl ?_
                  refine Zh rfl ?_
                  refine Zh rfl ?_
                  refine Zh rfl ?_
                  refine Zd (v:=.bool true) rfl rfl ?_
                  refine Zb ?_
                  refine ZK ?_
                  refine Zc ?_
                  refine Za (v:=.bool false) rfl ?_
                  refine Zb ?_
                  exact (show False by omega).elim
                ·have g59:(n:Int)=0:=by simpa using g59
                 refine Zd (v:=.bool true) rfl rfl ?_
                 refine Zb ?_
                 refine ZK ?_
                 refine Zc ?_
                 obtain ⟨H34,fH34,kH34⟩:=Yz (kn:=kn) (lo:=lo) (H:=L2) hkn (by omega)
                 refine Zi (vs:=[]) rfl (ZF (hkn 11) fH34) ?_
                 have mH34:=kH34.1
                 have hk:=hk.trans kH34
                 have hs:=kH34.sl0 hs
                 have hsn:=kH34.sl0 hsn
                 have hb:=kH34.sl0 hb
                 have hk1:=hk1.trans kH34
                 have hsc1:=kH34.sl0 hsc1
                 have hso:=kH34.sl0 hso
                 refine Za (v:=.bool true) rfl ?_
                 refine Zb ?_
                 exact And.intro trivial (Exists.intro _ (And.intro rfl rfl))
               ·have g58:e≠0:=by simpa using g58
                omega
            ·have q54:¬ (tg=true):=by simpa using q54
             first | refine Zj ?_ | skip
             refine Zc ?_
             refine Za (v:=iv e) rfl ?_
             refine ZS (a:=e) (b:=0) rfl rfl ?_
             intro t65 g65;cases t65
             ·have g65:¬ (e≠0):=by simpa using g65
              have he0:e=0:=by omega
              refine Za (v:=.bool false) rfl ?_
              refine Zl rfl (Za (v:=.slice la n lcap) rfl ?_)
              refine Zl rfl (Zv (m:=n) rfl ?_)
              refine Zl rfl (Xe (a:=(n:Int)) (b:=0) rfl rfl ?_)
              intro t66 g66;cases t66
              ·have g66:¬ ((n:Int)=0):=by simpa using g66
               refine Zd (v:=.bool false) rfl rfl ?_
               refine Zb ?_
               refine ZQ ?_
               first | refine Zj ?_ | skip
               refine Zc ?_
               refine Za (v:=.slice la n lcap) rfl ?_
               refine Za (v:=.slice na nn ncap) rfl ?_
               refine Za (v:=iv reach) rfl ?_
               refine Za (v:=iv days) rfl ?_
               refine Za (v:=iv limit) rfl ?_
               refine Za (v:=.int .u16 mj) rfl ?_
               refine Zd (v:=iv (mo:Int)) rfl (js (n:=mo) (j:=mj) (by omega) rfl hmo) ?_
               refine Zo (a:=limit) (b:=(mo:Int)) rfl rfl ⟨by omega,by omega⟩ ?_
               refine JI (a:=72057594037927936) (b:=limit+(mo:Int)) rfl rfl ?_
               refine Za (v:=iv frm) rfl ?_
               refine Za (v:=iv to_) rfl ?_
               obtain ⟨a2,hse2,hle2⟩:=QO (l2:=(min 72057594037927936 (limit+(mo:Int)))) (show (seT loads ns reach days limit frm to_)=(p,0) by rw [hse,he0]) (by omega) (by omega);have hl2:=hle2.len
               obtain ⟨vs2,H35,fH35,hac2,kH35⟩:=XF (kn:=kn) (lo:=lo) (H:=H29) hs hl (by omega) hsn hln (by omega) (reach:=reach) (days:=days) (limit:=(min 72057594037927936 (limit+(mo:Int)))) (frm:=frm) (to_:=to_) (hkn 35) (by omega);rw [hse2] at fH35 hac2
               refine Zi (vs:=[.slice la n lcap,.slice na nn ncap,iv reach,iv days,iv (min 72057594037927936 (limit+(mo:Int))),iv frm,iv to_]) rfl (Ze fH35) ?_
               have mH35:=kH35.1
               have hk:=hk.trans kH35
               have hs:=kH35.sl0 hs
               have hsn:=kH35.sl0 hsn
               have hb:=kH35.sl0 hb
               have hk1:=hk1.trans kH35
               have hsc1:=kH35.sl0 hsc1
               have hso:=kH35.sl0 hso
               simp only [] at hac2;obtain ⟨sa2,sc2,rfl,hsc2,_⟩:=hac2.sl;have fsc2:=hsc2.old
               refine Za (v:=.tuple #[.slice sa2 a2.length sc2,iv 0]) rfl ?_
               refine Zd (v:=.slice sa2 a2.length sc2) rfl (by kernel_rfl) ?_
               refine Zd (v:=iv 0) rfl (by kernel_rfl) ?_
               refine Za (v:=.slice sa2 a2.length sc2) rfl ?_
               refine Za (v:=iv 0) rfl ?_
               refine Zb ?_
               refine Zc ?_
               refine Za (v:=.slice la n lcap) rfl ?_
               refine Za (v:=.slice la n lcap) rfl ?_
               refine Zv (m:=n) rfl ?_
               refine Yl (a:=(n:Int)) (b:=1) rfl rfl ⟨by omega,by omega⟩ ?_
               obtain ⟨lb,el⟩:∃ b,la=some ⟨b,0,none⟩:=Vg hs (by omega);have hlf:=hk.fx (hfx lb el) (by simp)
               have hlc:=Vj hs
               refine ZN (v:=.slice la (n - 1) lcap) (H':=H35) (k:=.read lb) rfl (by kernel_rfl) (by rw [el];exact YW (k:=n - 1) (m:=n) hlf (by omega) hlc (by rw [← el];rfl) rfl (by omega)) (fun b e=>by cases e;exact hlf.lt) ?_
               refine Za (v:=.slice na nn ncap) rfl ?_
               refine Za (v:=iv reach) rfl ?_
               refine Za (v:=iv days) rfl ?_
               refine Za (v:=iv limit) rfl ?_
               refine Za (v:=iv frm) rfl ?_
               refine Za (v:=iv to_) rfl ?_
               have hse3:=QN (show (seT loads ns reach days limit frm to_)=(p,0) by rw [hse,he0]) (by omega);rw [hl] at hse3
               obtain ⟨vs3,H36,fH36,hac3,kH36⟩:=XO (kn:=kn) (lo:=lo) (H:=H35) (loads:=loads.take (n - 1)) (mre:=loads.drop (n - 1)) (la:=la) (n:=n - 1) (lcap:=lcap) (by rw [List.take_append_drop];exact Ww hs (by omega) (by omega)) (by rw [List.length_take];omega) (by omega) hsn hln (by omega) (reach:=reach) (days:=days) (limit:=limit) (frm:=frm) (to_:=to_) (hkn 35) (by omega);rw [hse3] at fH36 hac3
               refine Zi (vs:=[.slice la (n - 1) lcap,.slice na nn ncap,iv reach,iv days,iv limit,iv frm,iv to_]) rfl (Ze fH36) ?_
               have mH36:=kH36.1
               have hk:=hk.trans kH36
               have hs:=kH36.sl0 hs
               have hsn:=kH36.sl0 hsn
               have hb:=kH36.sl0 hb
               have hk1:=hk1.trans kH36
               have hsc1:=kH36.sl0 hsc1
               have hso:=kH36.sl0 hso
               have hsc2:=kH36.sl0 hsc2
               simp only [] at hac3;have hl3:(p.take (n - 1)).length=n - 1:=by rw [List.length_take];omega
               rw [hl3] at hac3;obtain ⟨sa3,sc3,rfl,hsc3,_⟩:=hac3.sl;have fsc3:=hsc3.old
               refine Za (v:=.tuple #[.slice sa3 (n - 1) sc3,iv 0]) rfl ?_
               refine Zd (v:=.slice sa3 (n - 1) sc3) rfl (by kernel_rfl) ?_
               refine Zd (v:=iv 0) rfl (by kernel_rfl) ?_
               refine Za (v:=.slice sa3 (n - 1) sc3) rfl ?_
               refine Za (v:=iv 0) rfl ?_
               refine Zb ?_
               refine Zc ?_
               refine Za (v:=iv 0) rfl ?_
               refine ZS (a:=0) (b:=0) rfl rfl ?_
               intro t67 g67;obtain rfl:t67=false:=by rw [← g67];rfl
               refine Za (v:=.bool false) rfl ?_
               refine Zl rfl (Za (v:=iv 0) rfl ?_)
               refine Zl rfl (ZS (a:=0) (b:=0) rfl rfl ?_)
               intro t68 g68;obtain rfl:t68=false:=by rw [← g68];rfl
               refine Zd (v:=.bool false) rfl rfl ?_
               refine Za (v:=.bool false) rfl ?_
               refine Zl rfl (Za (v:=.slice sa2 a2.length sc2) rfl ?_)
               refine Zl rfl (Zv (m:=a2.length) rfl ?_)
               refine Zl rfl (Za (v:=.slice sa1 p.length sc1) rfl ?_)
               refine Zl rfl (Zv (m:=p.length) rfl ?_)
               refine Zl rfl (ZS (a:=(a2.length:Int)) (b:=(p.length:Int)) rfl rfl ?_)
               intro t69 g69;cases t69
               ·have g69:¬ ((a2.length:Int)≠(p.length:Int)):=by simpa using g69
                refine Zd (v:=.bool false) rfl rfl ?_
                refine Za (v:=.bool false) rfl ?_
                refine Zl rfl (Za (v:=.slice sa3 (n - 1) sc3) rfl ?_)
                refine Zl rfl (Za (v:=.slice sa1 p.length sc1) rfl ?_)
                refine Zl rfl (Za (v:=.slice sa1 p.length sc1) rfl ?_)
                refine Zl rfl (Zv (m:=p.length) rfl ?_)
                refine Zl rfl (Yl (a:=(p.length:Int)) (b:=1) rfl rfl ⟨by omega,by omega⟩ ?_)
                obtain ⟨pb_,ep_⟩:∃ b,sa1=some ⟨b,0,none⟩:=Vg hsc1 (by omega);have hpfx:=hk1.fx (hpf pb_ _ _ (by rw [ep_])) (by simp)
                have hpc:=Vj hsc1
                refine Zl rfl (ZN (v:=.slice sa1 (n - 1) sc1) (H':=H36) (k:=.read pb_) rfl (by kernel_rfl) (by rw [ep_];exact YW (k:=n - 1) (m:=p.length) hpfx (by omega) hpc (by rw [← ep_];rfl) rfl (by omega)) (fun b e=>by cases e;exact hpfx.lt) ?_)
                obtain ⟨H37,fH37,kH37⟩:=Wm (kn:=kn) (lo:=lo) (H:=H36) (xs:=p.take (n - 1)) (m1:=[]) (m2:=p.drop (n - 1)) (a1:=sa3) (a2:=sa1) (n:=n - 1) (c1:=sc3) (c2:=sc1) (by rw [List.append_nil];exact hsc3) (by rw [List.take_append_drop];exact Ww hsc1 (by omega) (by omega)) hl3 (by omega) (by first | omega | (simp only [cond_true];omega) | (simp only [cond_false];omega))
                refine Zl rfl (Zi (vs:=[.slice sa3 (n - 1) sc3,.slice sa1 (n - 1) sc1]) rfl (Ze fH37) ?_)
                have mH37:=kH37.1
                have hk:=hk.trans kH37
                have hs:=kH37.sl0 hs
                have hsn:=kH37.sl0 hsn
                have hb:=kH37.sl0 hb
                have hk1:=hk1.trans kH37
                have hsc1:=kH37.sl0 hsc1
                have hso:=kH37.sl0 hso
                have hsc2:=kH37.sl0 hsc2
                have hsc3:=kH37.sl0 hsc3
                refine Zl rfl (Zd (v:=.bool false) rfl rfl ?_)
                refine Zd (v:=.bool false) rfl rfl ?_
                refine Zb ?_
                refine ZQ ?_
                first | refine Zj ?_ | skip
                refine Zc ?_
                refine Za (v:=iv 0) rfl ?_
                refine Zb ?_
                refine Zt (fn:=Try.f9) Zch N9 Zcb (fun i:Nat=>[(0,.slice la n lcap),(1,.slice na nn ncap),(2,iv reach),(3,iv days),(4,iv limit),(5,iv frm),(6,iv to_),(7,.slice ba bn bc),(8,.int .u16 mj),(18,.bool false),(19,.slice sa1 p.length sc1),(20,iv e),(25,.slice sa2 a2.length sc2),(29,iv (i:Int))])
                 (fun k i H'=>i+k=a2.length∧Zk H H' []∧Zk H1 H' []∧Sl H' la n lcap (cI loads)∧Sl H' na nn ncap (nsc ns)∧Sl H' ba bn bc (cY us)∧Sl H' sa1 p.length sc1 (cI p)∧Sl H' sa2 a2.length sc2 (cI a2)) a2.length 0 ⟨by omega,hk,hk1,hs,hsn,hb,hsc1,hsc2⟩ ⟨rfl,rfl,rfl,rfl,rfl,rfl,rfl,rfl,rfl,rfl,rfl,rfl,rfl,rfl,trivial⟩ ?_
                rintro k i L4 ⟨hik,hk,hk1,hs,hsn,hb,hsc1,hsc2⟩
                have mk:=hk.1;have mk1:=hk1.1
                refine Zc ?_
                refine Za (v:=iv (i:Int)) rfl ?_
                refine Za (v:=.slice sa2 a2.length sc2) rfl ?_
                refine Zv (m:=a2.length) rfl ?_
                refine Zx (a:=(i:Int)) (b:=(a2.length:Int)) rfl rfl ?_
                refine Zb ?_
                refine And.intro (fun q70=>?_) (fun q70=>?_)
                ·have q70:(i:Int) < (a2.length:Int):=of_decide_eq_true q70
                 have hi:i < a2.length:=by omega
                 rcases id hsc2 with ⟨_,h0o,_⟩ | ⟨ob,eo,ro,_⟩
                 ·omega
                 have lo:=ro.1
                 rcases id hsc1 with ⟨_,h0q,_⟩ | ⟨qb,eq,rq,_⟩
                 ·omega
                 have lq:=rq.1
                 have lob2:=fsc2 ob eo;have lqb2:=fsc1 qb eq;have hiat:=hle2.at (i:=i) (by omega)
                 first | refine Zj ?_ | skip
                 refine Yq ?_
                 refine Zg (v:=.slice sa2 a2.length sc2) rfl ?_
                 refine Zg (v:=iv (i:Int)) rfl ?_
                 refine ZC (b:=ob) (o:=0) (k:=i) (j:=(i:Int)) (by rw [← eo];rfl) rfl rfl hi ?_
                 refine Yf (b:=ob) (o:=0+i * 1) (v:=iv (a2.getD i 0)) rfl ro (YI (by omega)) ?_
                 refine Zg (v:=.slice sa1 p.length sc1) rfl ?_
                 refine Zg (v:=iv (i:Int)) rfl ?_
                 refine ZC (b:=qb) (o:=0) (k:=i) (j:=(i:Int)) (by rw [← eq];rfl) rfl rfl (by omega) ?_
                 refine Yf (b:=qb) (o:=0+i * 1) (v:=iv (p.getD i 0)) rfl rq (YI (by omega)) ?_
                 refine WW (a:=(a2.getD i 0)) (b:=(p.getD i 0)) rfl rfl ?_
                 refine ZL (by repeat' first | exact True.intro | exact (fun h=>h) | refine And.intro ?_ ?_ | (intro h;have h:(_:Nat)=_:=h;omega)) ?_
                 refine And.intro (fun q71=>?_) (fun q71=>?_)
                 ·have q71:(a2.getD i 0) > (p.getD i 0):=of_decide_eq_true q71
                  omega
                 ·have q71:¬ ((a2.getD i 0) > (p.getD i 0)):=of_decide_eq_false q71
                  first | refine Zj ?_ | skip
                  first | refine Z0 ?_ | refine Xg ?_ | refine YR ?_ | (refine Z5 ?_;refine Z0 ?_)
                  refine Za (v:=iv (i:Int)) rfl ?_
                  refine Zo (a:=(i:Int)) (b:=1) rfl rfl ⟨by omega,by omega⟩ ?_
                  refine Za (v:=iv ((i:Int)+1)) rfl ?_
                  refine Zb ?_
                  exact ⟨k - 1,i+1,by omega,⟨by omega,hk,hk1,hs,hsn,hb,hsc1,hsc2⟩,rfl,rfl,rfl,rfl,rfl,rfl,rfl,rfl,rfl,rfl,rfl,rfl,rfl,ivq (by omega),trivial⟩
                ·have q70:¬ ((i:Int) < (a2.length:Int)):=of_decide_eq_false q70
                 first | (refine Zy ?_;show wC _ _ _ _ _ _ _ _ _) | skip
                 refine Zc ?_
                 obtain ⟨H38,fH38,kH38⟩:=Yz (kn:=kn) (lo:=lo) (H:=L4) hkn (by omega)
                 refine Zi (vs:=[]) rfl (ZF (hkn 11) fH38) ?_
                 have mH38:=kH38.1
                 have hk:=hk.trans kH38
                 have hs:=kH38.sl0 hs
                 have hsn:=kH38.sl0 hsn
                 have hb:=kH38.sl0 hb
                 have hk1:=hk1.trans kH38
                 have hsc1:=kH38.sl0 hsc1
                 have hsc2:=kH38.sl0 hsc2
                 refine Za (v:=.bool true) rfl ?_
                 refine Zb ?_
                 exact And.intro trivial (Exists.intro _ (And.intro rfl rfl))
               ·have g69:(a2.length:Int)≠(p.length:Int):=by simpa using g69
                refine Zd (v:=.bool true) rfl rfl ?_
                refine Za (v:=.bool true) rfl ?_
                refine Zh rfl ?_
                refine Zh rfl ?_
                refine Zh rfl ?_
                refine Zh rfl ?_
                refine Zh rfl ?_
                refine Zh rfl ?_
                refine Zh rfl ?_
                refine Zh rfl ?_
                refine Zd (v:=.bool true) rfl rfl ?_
                refine Zb ?_
                refine ZK ?_
                refine Zc ?_
                refine Za (v:=.bool false) rfl ?_
                refine Zb ?_
                exact (show False by omega).elim
              ·have g66:(n:Int)=0:=by simpa using g66
               refine Zd (v:=.bool true) rfl rfl ?_
               refine Zb ?_
               refine ZK ?_
               refine Zc ?_
               obtain ⟨H39,fH39,kH39⟩:=Yz (kn:=kn) (lo:=lo) (H:=H29) hkn (by omega)
               refine Zi (vs:=[]) rfl (ZF (hkn 11) fH39) ?_
               have mH39:=kH39.1
               have hk:=hk.trans kH39
               have hs:=kH39.sl0 hs
               have hsn:=kH39.sl0 hsn
               have hb:=kH39.sl0 hb
               have hk1:=hk1.trans kH39
               have hsc1:=kH39.sl0 hsc1
               have hso:=kH39.sl0 hso
               refine Za (v:=.bool true) rfl ?_
               refine Zb ?_
               exact And.intro trivial (Exists.intro _ (And.intro rfl rfl))
             ·have g65:e≠0:=by simpa using g65
              omega
          ·have g52:e≠0:=by simpa using g52
           omega
        ·have g41:frm > 16384:=of_decide_eq_true g41
         refine Zd (v:=.bool true) rfl rfl ?_
         refine Za (v:=.bool true) rfl ?_
         refine Zh rfl ?_
         refine Zh rfl ?_
         refine Zh rfl ?_
         refine ZA rfl ?_
         refine ZA rfl ?_
         refine ZA rfl ?_
         refine ZA rfl ?_
         refine ZA rfl ?_
         refine ZA rfl ?_
         refine ZA rfl ?_
         refine ZA rfl ?_
         refine ZA rfl ?_
         refine ZA rfl ?_
         refine Zh rfl ?_
         refine Zd (v:=.bool true) rfl rfl ?_
         refine Za (v:=.bool true) rfl ?_
         refine Zh rfl ?_
         refine Zh rfl ?_
         refine Zh rfl ?_
         refine ZA rfl ?_
         refine ZA rfl ?_
         refine ZA rfl ?_
         refine Zh rfl ?_
         refine Zd (v:=.bool true) rfl rfl ?_
         refine Zb ?_
         refine ZK ?_
         refine Zc ?_
         refine Za (v:=.bool false) rfl ?_
         refine Zb ?_
         exact (show False by omega).elim
       ·have g40:frm < 0:=of_decide_eq_true g40
        refine Zd (v:=.bool true) rfl rfl ?_
        refine Za (v:=.bool true) rfl ?_
        refine Zh rfl ?_
        refine Zh rfl ?_
        refine Zd (v:=.bool true) rfl rfl ?_
        refine Za (v:=.bool true) rfl ?_
        refine Zh rfl ?_
        refine Zh rfl ?_
        refine Zh rfl ?_
        refine ZA rfl ?_
        refine ZA rfl ?_
        refine ZA rfl ?_
        refine ZA rfl ?_
        refine ZA rfl ?_
        refine ZA rfl ?_
        refine ZA rfl ?_
        refine ZA rfl ?_
        refine ZA rfl ?_
        refine ZA rfl ?_
        refine Zh rfl ?_
        refine Zd (v:=.bool true) rfl rfl ?_
        refine Za (v:=.bool true) rfl ?_
        refine Zh rfl ?_
        refine Zh rfl ?_
        refine Zh rfl ?_
        refine ZA rfl ?_
        refine ZA rfl ?_
        refine ZA rfl ?_
        refine Zh rfl ?_
        refine Zd (v:=.bool true) rfl rfl ?_
        refine Zb ?_
        refine ZK ?_
        refine Zc ?_
        refine Za (v:=.bool false) rfl ?_
        refine Zb ?_
        exact (show False by omega).elim
      ·have g39:days < 1:=of_decide_eq_true g39
       refine Za (v:=.bool true) rfl ?_
       refine Zh rfl ?_
       refine Zh rfl ?_
       refine Zd (v:=.bool true) rfl rfl ?_
       refine Za (v:=.bool true) rfl ?_
       refine Zh rfl ?_
       refine Zh rfl ?_
       refine Zd (v:=.bool true) rfl rfl ?_
       refine Za (v:=.bool true) rfl ?_
       refine Zh rfl ?_
       refine Zh rfl ?_
       refine Zh rfl ?_
       refine ZA rfl ?_
       refine ZA rfl ?_
       refine ZA rfl ?_
       refine ZA rfl ?_
       refine ZA rfl ?_
       refine ZA rfl ?_
       refine ZA rfl ?_
       refine ZA rfl ?_
       refine ZA rfl ?_
       refine ZA rfl ?_
       refine Zh rfl ?_
       refine Zd (v:=.bool true) rfl rfl ?_
       refine Za (v:=.bool true) rfl ?_
       refine Zh rfl ?_
       refine Zh rfl ?_
       refine Zh rfl ?_
       refine ZA rfl ?_
       refine ZA rfl ?_
       refine ZA rfl ?_
       refine Zh rfl ?_
       refine Zd (v:=.bool true) rfl rfl ?_
       refine Zb ?_
       refine ZK ?_
       refine Zc ?_
       refine Za (v:=.bool false) rfl ?_
       refine Zb ?_
       exact (show False by omega).elim
     ·have g38:e≠4:=by simpa using g38
      refine Zd (v:=.bool true) rfl rfl ?_
      refine Zb ?_
      refine ZK ?_
      refine Zc ?_
      refine Za (v:=.slice sa1 p.length sc1) rfl ?_
      refine Zv (m:=p.length) rfl ?_
      refine Xe (a:=(p.length:Int)) (b:=0) rfl rfl ?_
      intro t72 g72;cases t72
      ·have g72:¬ ((p.length:Int)=0):=by simpa using g72
       refine Za (v:=.bool false) rfl ?_
       refine Zh rfl ?_
       refine Zd (v:=.bool false) rfl rfl ?_
       refine Za (v:=.bool false) rfl ?_
       refine Zb ?_
       exact (show False by omega).elim
      ·have g72:(p.length:Int)=0:=by simpa using g72
       refine Za (v:=.bool true) rfl ?_
       obtain ⟨H40,fH40,kH40⟩:=Yz (kn:=kn) (lo:=lo) (H:=H1) hkn (by omega)
       refine Zl rfl (Zi (vs:=[]) rfl (ZF (hkn 11) fH40) ?_)
       have mH40:=kH40.1
       have hk:=hk.trans kH40
       have hs:=kH40.sl0 hs
       have hsn:=kH40.sl0 hsn
       have hb:=kH40.sl0 hb
       have hsc1:=kH40.sl0 hsc1
       have hk1:=hk1.trans kH40
       refine Zd (v:=.bool true) rfl rfl ?_
       refine Za (v:=.bool true) rfl ?_
       refine Zb ?_
       exact And.intro trivial (Exists.intro _ (And.intro rfl rfl))
   ·have g3:(bn:Int)=0:=by simpa using g3
    refine Zd (v:=.bool true) rfl rfl ?_
    refine Zb ?_
    refine ZK ?_
    refine Zc ?_
    obtain ⟨H41,fH41,kH41⟩:=Yz (kn:=kn) (lo:=lo) (H:=H) hkn (by omega)
    refine Zi (vs:=[]) rfl (ZF (hkn 11) fH41) ?_
    have mH41:=kH41.1
    have hk:=hk.trans kH41
    have hs:=kH41.sl0 hs
    have hsn:=kH41.sl0 hsn
    have hb:=kH41.sl0 hb
    refine Za (v:=.bool true) rfl ?_
    refine Zb ?_
    exact And.intro trivial (Exists.intro _ (And.intro rfl rfl))
  ·have g2:(nn:Int) > 40:=of_decide_eq_true g2
   refine Zd (v:=.bool true) rfl rfl ?_
   refine Za (v:=.bool true) rfl ?_
   refine Zh rfl ?_
   refine Zh rfl ?_
   refine Zh rfl ?_
   refine Zd (v:=.bool true) rfl rfl ?_
   refine Zb ?_
   refine ZK ?_
   refine Zc ?_
   obtain ⟨H42,fH42,kH42⟩:=Yz (kn:=kn) (lo:=lo) (H:=H) hkn (by omega)
   refine Zi (vs:=[]) rfl (ZF (hkn 11) fH42) ?_
   have mH42:=kH42.1
   have hk:=hk.trans kH42
   have hs:=kH42.sl0 hs
   have hsn:=kH42.sl0 hsn
   have hb:=kH42.sl0 hb
   refine Za (v:=.bool true) rfl ?_
   refine Zb ?_
   exact And.intro trivial (Exists.intro _ (And.intro rfl rfl))
 ·have g1:(n:Int) > 20:=of_decide_eq_true g1
  refine Za (v:=.bool true) rfl ?_
  refine Zh rfl ?_
  refine Zh rfl ?_
  refine Zh rfl ?_
  refine Zd (v:=.bool true) rfl rfl ?_
  refine Za (v:=.bool true) rfl ?_
  refine Zh rfl ?_
  refine Zh rfl ?_
  refine Zh rfl ?_
  refine Zd (v:=.bool true) rfl rfl ?_
  refine Zb ?_
  refine ZK ?_
  refine Zc ?_
  obtain ⟨H43,fH43,kH43⟩:=Yz (kn:=kn) (lo:=lo) (H:=H) hkn (by omega)
  refine Zi (vs:=[]) rfl (ZF (hkn 11) fH43) ?_
  have mH43:=kH43.1
  have hk:=hk.trans kH43
  have hs:=kH43.sl0 hs
  have hsn:=kH43.sl0 hsn
  have hb:=kH43.sl0 hb
  refine Za (v:=.bool true) rfl ?_
  refine Zb ?_
  exact And.intro trivial (Exists.intro _ (And.intro rfl rfl))
end
end Go.Ax

namespace Go.Ax
open Go Go.RowKit Go.Proofs Go.ChangeShapes Go.WideShapes Go.Deep

def JJ (P:Program) (t:TypeId):Prop:=∀ (H:Type) (enc:TypeId × Value→H) (w:World) (base:Nat) (spare:Nat→Bool) (held:Bool) (fuel:Nat) (cs:List Value) (x:DataW H × List MemPlace),
 DataW.trod enc P w base spare held fuel t cs=some x→cs.length=P.cellsOf t∧∀ j,j < cs.length→∃ n,cs[j]? = some (.int .i64 n)
theorem JJ.int {P:Program} {t:TypeId} (ht:P.underlying t=some (.int .i64)) (hc:P.cellsOf t=1):JJ P t:=by
 intro H enc w base spare held fuel cs x h
 obtain ⟨n,rfl,_⟩:=DataW.trod_int ht h
 refine ⟨by rw [hc];rfl,fun j hj=>⟨n,?_⟩⟩
 have:j=0:=by simp at hj;omega
 subst this;rfl
theorem JJ.struct {P:Program} {t:TypeId} {fs:Array Field} (ht:P.underlying t=some (.struct fs)) (hf:∀ f∈fs.toList,JJ P f.type)
  (hcov:((List.range (P.cellsOf t)).all fun j=>fs.toList.any fun f=>decide (f.offset≤j) && decide (j < f.offset+P.cellsOf f.type))=true):JJ P t:=by
 intro H enc w base spare held fuel cs x h
 obtain ⟨xs,n,_,_,hlen,hxl,hg⟩:=DataW.trod_struct ht h
 refine ⟨hlen,fun j hj=>?_⟩
 have h1:=List.all_eq_true.1 hcov j (List.mem_range.2 (by omega))
 obtain ⟨f,hfm,h2⟩:=List.any_eq_true.1 h1
 simp only [Bool.and_eq_true,decide_eq_true_eq] at h2
 obtain ⟨i,hi,hfi⟩:=List.getElem_of_mem hfm
 have hfs:fs[i]? = some f:=by
  rw [← Array.getElem?_toList,List.getElem?_eq_getElem hi,hfi]
 have hi2:i < xs.length:=by simpa [hxl] using hi
 have h3:=hg i f hfs
 rw [List.getElem?_eq_getElem hi2] at h3
 obtain ⟨h4,h5⟩:=hf f hfm _ _ _ _ _ _ _ _ _ h3
 obtain ⟨m,hm⟩:=h5 (j - f.offset) (by omega)
 refine ⟨m,?_⟩
 rw [List.getElem?_take] at hm
 split at hm
 ·rw [List.getElem?_drop,show f.offset+(j - f.offset)=j by omega] at hm;exact hm
 ·cases hm

structure VL {α:Type} (w:World) (v:Value) (f:α→List Value) (l:List α) (x:Imp):Prop where
 ok:∀ (i:Nat) u,x.cs[i]? = some u→w.cell? ⟨x.blk,x.off+i,none⟩=some u∧YX u=true
 cs:x.cs=l.flatMap f
 v:(v=.slice none 0 0∧l=[])∨∃ cap,v=.slice (some ⟨x.blk,x.off,none⟩) l.length cap∧l.length≤cap
theorem JY {α:Type} {f:α→List Value} {k:Nat} (hk:0 < k):∀ {l:List α} (_:∀ x∈l,(f x).length=k) (i:Nat) (u:Value),(l.flatMap f)[i]? = some u→∃ x,l[i / k]? = some x∧(f x)[i % k]? = some u
 | [],_,i,u,h=>by simp at h
 | y :: r,hl,i,u,h=>by
  have hy:=hl y (List.mem_cons_self ..)
  rw [List.flatMap_cons,List.getElem?_append] at h
  split at h
  ·rename_i q
   rw [hy] at q
   refine ⟨y,?_,?_⟩
   ·rw [Nat.div_eq_of_lt q];rfl
   ·rw [Nat.mod_eq_of_lt q];exact h
  ·rename_i q
   rw [hy] at q h
   obtain ⟨x,h1,h2⟩:=JY hk (fun x hx=>hl x (List.mem_cons_of_mem _ hx)) _ u h
   refine ⟨x,?_,?_⟩
   ·rw [Nat.div_eq_sub_div hk (by omega)];exact h1
   ·rw [Nat.mod_eq_sub_mod (by omega)];exact h2
theorem Qh {H:Type} {enc:TypeId × Value→H} {P:Program} {w:World} {base b0:Nat} {r:Reach} {held:Bool} {α:Type} (f:α→List Value) (mk:(Nat→Int)→α) (k:Nat) {t e:TypeId} {fuel:Nat} {v:Value} {x:DataW H × List MemPlace}
  (ht:P.underlying t=some (.slice e)) (hI:JJ P e) (hc:P.cellsOf e=k) (hk:0 < k) (hmk:∀ N:Nat→Int,f (mk N)=(List.range k).map fun j=>Value.int .i64 (N j))
  (hok:Cell.okWide P w r b0 t v) (h:DataW.trod enc P w base (fun _=>true) held fuel t [v]=some x):∃ (l:List α) (y:Imp),VL w v f l y:=by
 rcases open_slice ht h with ⟨h0,_⟩ | ⟨a,len,cap,m,n,D,Pl,hcs,hb,hl,hm,hmm,hx,hi⟩
 ·cases h0
  exact ⟨[],⟨0,0,[]⟩,fun i u e=>by simp at e,rfl,.inl ⟨rfl,rfl⟩⟩
 ·cases hcs
  obtain ⟨blk,off,spot⟩:=a
  have hs:spot=none:=by
   unfold Cell.okWide at hok
   rw [ht] at hok
   unfold Cell.ok at hok
   simp only [ht] at hok
   exact hok.2.2.2.1
  subst hs
  simp only [if_true] at hmm
  subst hmm
  have hcell:∀ i,i < len→∀ j,j < k→∃ n,w.cell? ⟨blk,off+(i * k+j),none⟩=some (.int .i64 n):=by
   intro i hil j hj
   obtain ⟨cs',h1,h2⟩:=hi i (by omega)
   obtain ⟨h3,h4⟩:=hI _ _ _ _ _ _ _ _ _ h2
   obtain ⟨_,h5,h6⟩:=World.cells?_some h1
   obtain ⟨n,hn⟩:=h4 j (by omega)
   refine ⟨n,?_⟩
   have h7:=h6 j (by omega)
   rw [hn,hc,add_add] at h7
   have e:(⟨blk,off,none⟩:Addr).add (i * k+j)=⟨blk,off+(i * k+j),none⟩:=by
    unfold Addr.add
    by_cases q:i * k+j=0
    ·simp [q]
    ·simp
   rw [e] at h7
   exact h7
  refine ⟨(List.range len).map fun i=>mk fun j=>match w.cell? ⟨blk,off+(i * k+j),none⟩ with | some (.int _ n)=>n | _=>0,⟨blk,off,_⟩,?_,rfl,.inr ⟨m,by simp,by simpa using hl⟩⟩
  intro i u hu
  obtain ⟨y,h1,h2⟩:=JY hk (fun y hy=>by
   obtain ⟨i,_,rfl⟩:=List.mem_map.1 hy
   rw [hmk];simp) i u hu
  have hlt:i / k < len:=by
   have:=U2 h1
   simpa using this
  rw [List.getElem?_map,List.getElem?_range hlt] at h1
  simp only [Option.map_some,Option.some.injEq] at h1
  subst h1
  have hj:i % k < k:=Nat.mod_lt _ hk
  rw [hmk,List.getElem?_map,List.getElem?_range hj] at h2
  simp only [Option.map_some,Option.some.injEq] at h2
  obtain ⟨n,hn⟩:=hcell _ hlt _ hj
  rw [hn] at h2
  subst h2
  rw [Nat.div_add_mod' ] at hn
  exact ⟨hn,rfl⟩
theorem VL.rel {α:Type} {w:World} {v:Value} {f:α→List Value} {l:List α} {x:Imp} (g:VL w v f l x) {r:Ren} {H:Hp} {b:Nat} (hr:r b=some ⟨x.blk,x.off,none⟩) (hb:b < H.next) (hc:cellsOf H b=some x.cs) (hro:H.t.get b=some (.ro x.cs)) :
  ∃ a cap,VR r (.slice a l.length cap) v∧Sl H a l.length cap (l.flatMap f)∧∀ b,a=some ⟨b,0,none⟩→H.t.get b=some (.ro (l.flatMap f)):=by
 rcases g.v with ⟨rfl,rfl⟩ | ⟨cap,rfl,hl⟩
 ·exact ⟨none,0,.nilSlice,.inl ⟨.inl rfl,rfl,rfl,rfl⟩,fun b e=>by cases e⟩
 ·refine ⟨some ⟨b,0,none⟩,cap,?_,.inr ⟨b,rfl,⟨hb,by rw [hc,g.cs]⟩,hl⟩,fun b' e=>by cases e;rw [hro,g.cs]⟩
  have:=VR.slice (o:=0) (n:=l.length) (c:=cap) hr rfl hl
  simpa using this
end Go.Ax

/-! Slices of rows of plain cells,as_ arguments. -/
namespace Go.Ax
open Go Go.RowKit Go.Proofs Go.ChangeShapes Go.WideShapes Go.Deep

theorem JJ.row {α:Type} {P:Program} {t:TypeId} {k:Nat} {f:α→List Value} {mk:(Nat→Int)→α} (h:JJ P t) (hc:P.cellsOf t=k) (hmk:∀ N:Nat→Int,f (mk N)=(List.range k).map fun j=>Value.int .i64 (N j))
  {H:Type} {enc:TypeId × Value→H} {w:World} {base:Nat} {spare:Nat→Bool} {held:Bool} (fuel:Nat) (cs:List Value) (x:DataW H × List MemPlace) (hx:DataW.trod enc P w base spare held fuel t cs=some x):∃ y:α,cs=f y∧True:=by
 obtain ⟨h1,h2⟩:=h _ _ _ _ _ _ _ _ _ hx
 have:∃ N:Nat→Int,∀ j,j < cs.length→cs[j]? = some (.int .i64 (N j)):=by
  refine ⟨fun j=>match cs[j]? with | some (.int _ n)=>n | _=>0,fun j hj=>?_⟩
  obtain ⟨n,hn⟩:=h2 j hj
  simp [hn]
 obtain ⟨N,hN⟩:=this
 refine ⟨mk N,?_,trivial⟩
 rw [hmk]
 apply List.ext_getElem?
 intro j
 by_cases hj:j < k
 ·rw [hN j (by omega),List.getElem?_map,List.getElem?_range hj];rfl
 ·rw [List.getElem?_eq_none (by omega),List.getElem?_eq_none (by simp;omega)]
theorem Zcv {w:World} {a:Addr} {v:Value} (h:w.cell? a=some v):a.spot=none:=by
 unfold World.cell? at h
 split at h
 ·cases hs:a.spot with
  | none=>rfl
  | some x=>rw [hs] at h;simp at h
 ·cases h
theorem KU (a:Addr):a.add 0=a:=by unfold Addr.add;simp
theorem KE (b o n:Nat):(⟨b,o,none⟩:Addr).add n=⟨b,o+n,none⟩:=by
 unfold Addr.add
 by_cases q:n=0
 ·simp [q]
 ·simp [q]
theorem Zad {H:Type} {enc:TypeId × Value→H} {P:Program} {w:World} {base:Nat} {held:Bool} {α:Type} {f:α→List Value} {Q:α→Prop} {k:Nat} {t e:TypeId} {fuel:Nat} {v:Value} {x:DataW H × List MemPlace}
  (ht:P.underlying t=some (.slice e)) (hR:∀ (fuel:Nat) (cs:List Value) (x:DataW H × List MemPlace),DataW.trod enc P w base (fun _=>true) held fuel e cs=some x→∃ y:α,cs=f y∧Q y) (hc:P.cellsOf e=k) (hk:0 < k) (hfk:∀ y,(f y).length=k)
  (h:DataW.trod enc P w base (fun _=>true) held fuel t [v]=some x):∃ (l:List α),l.length≤maxLen∧(∀ y∈l,Q y)∧
   (((v=.slice none 0 0∨∃ a',v=.slice (some a') 0 0)∧l=[])∨∃ blk off cap,v=.slice (some ⟨blk,off,none⟩) l.length cap∧l.length≤cap∧∀ (i:Nat) u,(l.flatMap f)[i]? = some u→w.cell? ⟨blk,off+i,none⟩=some u):=by
 rcases open_slice ht h with ⟨h0,_⟩ | ⟨a,len,cap,m,n,D,Pl,hcs,hb,hl,hm,hmm,hx,hi⟩
 ·cases h0
  exact ⟨[],by simp,fun y hy=>by simp at hy,.inl ⟨.inl rfl,rfl⟩⟩
 cases hcs
 simp only [if_true] at hmm
 subst hmm
 rcases Nat.eq_zero_or_pos m with h0 | h0
 ·subst h0
  have:len=0:=by omega
  subst this
  exact ⟨[],by simp,fun y hy=>by simp at hy,.inl ⟨.inr ⟨_,rfl⟩,rfl⟩⟩
 obtain ⟨blk,off,spot⟩:=a
 have hs:spot=none:=by
  obtain ⟨cs',h1,h2⟩:=hi 0 h0
  obtain ⟨y,hy,_⟩:=hR _ _ _ h2
  obtain ⟨_,h5,h6⟩:=World.cells?_some h1
  have h7:=h6 0 (by omega)
  rw [Nat.zero_mul,KU,KU] at h7
  have h8:cs'[0]? = some (cs'[0]'(by omega)):=List.getElem?_eq_getElem _
  rw [h8] at h7
  exact Zcv h7
 subst hs
 have hrow:∀ i,i < len→∃ y:α,Q y∧∀ j,j < k→∃ u,(f y)[j]? = some u∧w.cell? ⟨blk,off+(i * k+j),none⟩=some u:=by
  intro i hil
  obtain ⟨cs',h1,h2⟩:=hi i (by omega)
  obtain ⟨y,rfl,hq⟩:=hR _ _ _ h2
  obtain ⟨_,h5,h6⟩:=World.cells?_some h1
  refine ⟨y,hq,fun j hj=>?_⟩
  have h7:=h6 j (by omega)
  have h8:(f y)[j]? = some ((f y)[j]'(by rw [hfk];exact hj)):=List.getElem?_eq_getElem _
  rw [h8,hc,KE,KE,Nat.add_assoc] at h7
  exact ⟨_,h8,h7⟩
 have key:∀ n,n≤len→∃ l:List α,l.length=n∧(∀ y∈l,Q y)∧∀ (i:Nat) y,l[i]? = some y→∀ j,j < k→∃ u,(f y)[j]? = some u∧w.cell? ⟨blk,off+(i * k+j),none⟩=some u:=by
  intro n
  induction n with
  | zero=>intro _;exact ⟨[],rfl,fun y hy=>by simp at hy,fun i y e=>by simp at e⟩
  | succ n ih=>
   intro hn
   obtain ⟨l,h1,hq,h2⟩:=ih (by omega)
   obtain ⟨y,hyq,hy⟩:=hrow n (by omega)
   refine ⟨l ++ [y],by simp [h1],fun z hz=>?_,fun i z e=>?_⟩
   ·simp only [List.mem_append,List.mem_singleton] at hz
    rcases hz with hz | rfl
    ·exact hq z hz
    ·exact hyq
   rw [List.getElem?_append] at e
   split at e
   ·exact h2 i z e
   ·rename_i q
    have:i=n:=by have:=U2 e;simp at this;omega
    subst this
    rw [h1,Nat.sub_self] at e
    simp at e;subst e
    exact hy
 obtain ⟨l,hl1,hq,hl2⟩:=key len (Nat.le_refl _)
 refine ⟨l,by omega,hq,.inr ⟨blk,off,m,by rw [hl1],by omega,fun i u hu=>?_⟩⟩
 obtain ⟨y,h1,h2⟩:=JY hk (fun y _=>hfk y) i u hu
 have hj:i % k < k:=Nat.mod_lt _ hk
 obtain ⟨u',e1,e2⟩:=hl2 _ y h1 _ hj
 rw [h2] at e1;cases e1
 rw [Nat.div_add_mod'] at e2
 exact e2
theorem ye {H:Type} {enc:TypeId × Value→H} {P:Program} {w:World} {base b0:Nat} {r:Reach} {held:Bool} {α:Type} {f:α→List Value} {Q:α→Prop} {k:Nat} {t e:TypeId} {fuel:Nat} {v:Value} {x:DataW H × List MemPlace}
  (ht:P.underlying t=some (.slice e)) (hR:∀ (fuel:Nat) (cs:List Value) (x:DataW H × List MemPlace),DataW.trod enc P w base (fun _=>true) held fuel e cs=some x→∃ y:α,cs=f y∧Q y) (hc:P.cellsOf e=k) (hk:0 < k) (hfk:∀ y,(f y).length=k) (hflat:∀ y u,u∈f y→YX u=true)
  (hok:Cell.okWide P w r b0 t v) (h:DataW.trod enc P w base (fun _=>true) held fuel t [v]=some x):∃ (l:List α) (y:Imp),VL w v f l y∧l.length≤maxLen∧∀ y∈l,Q y:=by
 obtain ⟨l,h1,h2,⟨h3,rfl⟩ | ⟨blk,off,cap,h3,h4,h5⟩⟩:=Zad ht hR hc hk hfk h
 ·rcases h3 with h3 | ⟨⟨blk,off,spot⟩,rfl⟩
  ·exact ⟨[],⟨0,0,[]⟩,⟨fun i u e=>by simp at e,rfl,.inl ⟨h3,rfl⟩⟩,h1,h2⟩
  ·have hs:spot=none:=by
    unfold Cell.okWide at hok
    rw [ht] at hok
    unfold Cell.ok at hok
    simp only [ht] at hok
    exact hok.2.2.2.1
   subst hs
   exact ⟨[],⟨blk,off,[]⟩,⟨fun i u e=>by simp at e,rfl,.inr ⟨0,rfl,Nat.le_refl 0⟩⟩,h1,h2⟩
 ·refine ⟨l,⟨blk,off,l.flatMap f⟩,⟨fun i u hu=>⟨h5 i u hu,?_⟩,rfl,.inr ⟨cap,h3,h4⟩⟩,h1,h2⟩
  obtain ⟨y,hy,hu'⟩:=List.mem_flatMap.1 (List.mem_of_getElem? hu)
  exact hflat y u hu'
theorem j5:maxLen≤9223372036854775807:=by decide

end Go.Ax

/-! Arguments that point to what points: inner slices,rows of slices. -/
namespace Go.Ax
open Go Go.RowKit Go.Proofs Go.ChangeShapes Go.WideShapes Go.Deep

def yw (imps:List Imp):Ren:=fun b=>(imps[b]?).map fun x=>⟨x.blk,x.off,none⟩
theorem ZaJ {P:Program} (imps outs:List Imp) (w:World) (h:∀ x∈imps,∀ (i:Nat) v,x.cs[i]? = some v→w.cell? ⟨x.blk,x.off+i,none⟩=some v∧YX v=true)
  (hcs:∀ x∈outs,∀ (i:Nat) v,x.cs[i]? = some v→∃ v',w.cell? ⟨x.blk,x.off+i,none⟩=some v'∧VR (yw imps) v v') :
  ∃ (r:Ren) (H:Hp),Rel P r w.heap.size H w∧H.next=(imps ++ outs).length∧(∀ b loc,r b=some loc→b < H.next)∧Ren.Le (yw imps) r∧∀ (b:Nat) x,(imps ++ outs)[b]? = some x→r b=some ⟨x.blk,x.off,none⟩∧H.t.get b=some (.ro x.cs):=by
 have hall:∀ x∈imps ++ outs,∀ (i:Nat) v,x.cs[i]? = some v→∃ v',w.cell? ⟨x.blk,x.off+i,none⟩=some v'∧VR (yw imps) v v':=by
  intro x hx i v hv
  rcases List.mem_append.1 hx with hx | hx
  ·obtain ⟨h1,h2⟩:=h x hx i v hv
   exact ⟨v,h1,Up h2⟩
  ·exact hcs x hx i v hv
 obtain ⟨t,ht⟩:=ZcJ (fun b=>((imps ++ outs)[b]?).map fun x=>.ro x.cs) (imps ++ outs).length
 have hle:Ren.Le (yw imps) (fun b=>((imps ++ outs)[b]?).map fun x=>⟨x.blk,x.off,none⟩):=fun b loc e=>by
  unfold yw at e
  have hlt:b < imps.length:=by
   rcases Nat.lt_or_ge b imps.length with q | q
   ·exact q
   ·rw [List.getElem?_eq_none q] at e;cases e
  show ((imps ++ outs)[b]?).map _=_
  rw [List.getElem?_append_left hlt];exact e
 have hr:∀ (b:Nat) loc,((imps ++ outs)[b]?).map (fun x=>(⟨x.blk,x.off,none⟩:Loc))=some loc→∃ x,(imps ++ outs)[b]? = some x∧b < (imps ++ outs).length∧loc=⟨x.blk,x.off,none⟩∧t.get b=some (.ro x.cs):=by
  intro b loc e
  cases hx:(imps ++ outs)[b]? with
  | none=>rw [hx] at e;cases e
  | some x=>
   rw [hx] at e
   simp at e
   have hlt:=U2 hx
   exact ⟨x,rfl,hlt,e.symm,by rw [ht,if_pos hlt,hx];rfl⟩
 have low:∀ {g o:Nat} {v:Value},w.cell? ⟨g,o,none⟩=some v→g < w.heap.size:=fun {g o v} hv=>by
  unfold World.cell? at hv
  rcases Nat.lt_or_ge g w.heap.size with q | q
  ·exact q
  ·rw [Array.getElem?_eq_none q] at hv;cases hv
 refine ⟨fun b=>((imps ++ outs)[b]?).map fun x=>⟨x.blk,x.off,none⟩,{ next:=(imps ++ outs).length,t },⟨?_,?_,?_,Nat.le_refl _⟩,rfl,?_,hle,?_⟩
 ·intro b loc e
  obtain ⟨x,hx,hlt,rfl,hg⟩:=hr b loc e
  refine ⟨hlt,?_⟩
  show Dm _ _ _ (t.get b)
  rw [hg]
  cases hc:x.cs with
  | nil=>exact .inl rfl
  | cons v l=>
   obtain ⟨v',h1,_⟩:=hall x (List.mem_of_getElem? hx) 0 v (by rw [hc];rfl)
   exact .inr (low h1)
 ·intro b loc o e eo
  obtain ⟨x,hx,hlt,rfl,hg⟩:=hr b loc e
  rw [hg] at eo;cases eo
  refine ⟨rfl,fun i v ev=>?_⟩
  obtain ⟨v',h1,h2⟩:=hall x (List.mem_of_getElem? hx) i v ev
  unfold World.cell? at h1
  simp only at h1
  split at h1
  ·rename_i C e' f hC
   exact ⟨C,e',f,v',hC,by simpa using h1,h2.mono hle⟩
  ·cases h1
 ·intro b b' loc loc' e e' _ hl _
  obtain ⟨x,hx,hlt,rfl,hg⟩:=hr b loc e
  obtain ⟨o,h1,h2,h3⟩:=hl
  have:t.get b=some o:=h1
  rw [hg] at this;cases this
  cases h3
 ·intro b loc e
  obtain ⟨x,hx,hlt,rfl,hg⟩:=hr b loc e
  exact hlt
 ·intro b x hx
  have hlt:=U2 hx
  refine ⟨by simp only [hx,Option.map_some],?_⟩
  show t.get b=_
  rw [ht,if_pos hlt,hx];rfl

structure ZdO {α:Type} (w:World) (v:Value) (f:α→List Value) (l:List α) (x:Imp):Prop where
 ok:∀ (i:Nat) u,x.cs[i]? = some u→w.cell? ⟨x.blk,x.off+i,none⟩=some u∧YX u=true
 cs:x.cs=l.flatMap f
 v:((v=.slice none 0 0∨∃ a',v=.slice (some a') 0 0)∧l=[])∨∃ cap,v=.slice (some ⟨x.blk,x.off,none⟩) l.length cap∧l.length≤cap
theorem ZdO.rel {α:Type} {w:World} {v:Value} {f:α→List Value} {l:List α} {x:Imp} (g:ZdO w v f l x) {r:Ren} {b:Nat} (hr:r b=some ⟨x.blk,x.off,none⟩) :
  ∃ a cap,VR r (.slice a l.length cap) v∧(∀ y,a=some ⟨y,0,none⟩→y=b)∧∀ H:Hp,b < H.next→H.t.get b=some (.ro x.cs)→Sl H a l.length cap (l.flatMap f):=by
 rcases g.v with ⟨rfl | ⟨a',rfl⟩,rfl⟩ | ⟨cap,rfl,hl⟩
 ·exact ⟨none,0,.nilSlice,fun y e=>by (cases e),fun H _ _=>.inl ⟨.inl rfl,rfl,rfl,rfl⟩⟩
 ·exact ⟨some ⟨0,0,some 0⟩,0,.weird (.inl rfl),fun y e=>by (cases e),fun H _ _=>.inl ⟨.inr rfl,rfl,rfl,rfl⟩⟩
 ·refine ⟨some ⟨b,0,none⟩,cap,?_,fun y e=>by (cases e;rfl),fun H hb hc=>.inr ⟨b,rfl,⟨hb,by unfold cellsOf;rw [hc,g.cs]⟩,hl⟩⟩
  have:=VR.slice (o:=0) (n:=l.length) (c:=cap) hr rfl hl
  simpa using this
structure RV where
 rv:Value
 l:List Int
 x:Imp
def RV.f (r:RV):List Value:=[r.rv]
def RV.Q (w:World) (r:RV):Prop:=ZdO w r.rv (fun n:Int=>[iv n]) r.l r.x
end Go.Ax

/-! What is Yx as_ arguments. -/
namespace Go.Ax
open Go Go.RowKit Go.Proofs Go.ChangeShapes Go.WideShapes Go.Deep

theorem zy {P:Program} (pre:List Imp) {w:World} (h:∀ x∈pre,∀ (i:Nat) v,x.cs[i]? = some v→w.cell? ⟨x.blk,x.off+i,none⟩=some v∧YX v=true) :
  ∃ (r:Ren) (H:Hp),Rel P r w.heap.size H w∧(∀ b loc,r b=some loc→b < H.next)∧(∀ (b:Nat) x,pre[b]? = some x→b < H.next∧r b=some ⟨x.blk,x.off,none⟩∧H.t.get b=some (.ro x.cs)):=by
 obtain ⟨r,H,h1,h2,h3,h4,h5⟩:=ZaJ (P:=P) pre [] w h (fun x hx=>by simp at hx)
 refine ⟨r,H,h1,h3,fun b x hx=>?_⟩
 have:=U2 hx
 obtain ⟨a,c⟩:=h5 b x (by simpa using hx)
 exact ⟨by rw [h2];simpa using this,a,c⟩
end Go.Ax


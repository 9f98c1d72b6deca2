import Derived.Test.YtngkkiijcpdffaaMf
set_option linter.all false
/-
 Pool: the law PermitTrue (written by program).
-/
namespace Go.Ax
open Go Go.RowKit Go.Proofs

section
variable {kn:Kn} {lo:Nat} {H:Hp}
set_option maxRecDepth 100000 in
set_option maxHeartbeats 4000000 in
theorem Zbr (hkn:∀ f,kn.b f=none) {ds:List Dc} {sa:Option Addr} {n cap:Nat} (hs:Sl H sa n cap (dcc ds)) (hl:ds.length=n) {days limit:Int} {us:List Nat} {ba:Option Addr} {bn bc:Nat} (hb:Sl H ba bn bc (cU us)) (hbl:us.length=bn) (hbm:bn≤9223372036854775807) (hus:∀ x,x∈us→x≤4294967295) {tj:Int} (htj:0≤tj∧tj≤255) (hlo:lo≤H.next):∃ H',FnX Try.prog kn lo 6 [.slice sa n cap,iv days,iv limit,.slice ba bn bc,.int .u8 tj] H (.bool true) H':=by
 have key:=Zv (kn:=kn) (lo:=lo) (H:=H) (args:=[.slice sa n cap,iv days,iv limit,.slice ba bn bc,.int .u8 tj]) (Q:=fun w H'=>w=.bool true) Try.func6 B6 N6 Z6 L6 (by simp) ?_
 ·obtain ⟨w,H',h,rfl⟩:=key;exact ⟨H',h⟩
 have hk:=Zm.refl H []
 have fs:=hs.old
 have fb:=hb.old
 obtain ⟨tn,htn⟩:∃ tn:Nat,tj=(tn:Int):=⟨tj.toNat,by omega⟩
 refine Zc ?_
 refine Za (v:=.bool false) rfl ?_
 refine Zb ?_
 refine Zc ?_
 refine Za (v:=.slice sa n cap) rfl ?_
 refine ZG (m:=n) rfl ?_
 refine Y3 (a:=(n:Int)) (b:=40) rfl rfl ?_
 intro t1 g1;cases t1
 ·have g1:¬ ((n:Int) > 40):=of_decide_eq_false g1
  refine Za (v:=.bool false) rfl ?_
  refine Zi rfl (Za (v:=.slice ba bn bc) rfl ?_)
  refine Zi rfl (ZG (m:=bn) rfl ?_)
  refine Zi rfl (YT (a:=(bn:Int)) (b:=0) rfl rfl ?_)
  intro t2 g2;cases t2
  ·have g2:¬ ((bn:Int)=0):=by simpa using g2
   refine Zd (v:=.bool false) rfl rfl ?_
   refine Zb ?_
   refine ZJ ?_
   first | refine Zj ?_ | skip
   refine Zc ?_
   refine Za (v:=.slice sa n cap) rfl ?_
   refine Za (v:=iv days) rfl ?_
   refine Za (v:=iv limit) rfl ?_
   obtain ⟨H1,fH1,kH1⟩:=XP (kn:=kn) (lo:=lo) (H:=H) hs hl (by omega) (by omega) (hkn 35) (days:=days) (limit:=limit)
   obtain ⟨S,P,e,hpa⟩:∃ S P e,paT ds days limit=(S,P,e):=⟨_,_,_,rfl⟩;obtain ⟨hal,hE⟩:=Zfa hpa;rw [hpa] at fH1
   refine Zl (vs:=[.slice sa n cap,iv days,iv limit]) rfl (Zh fH1) ?_
   have mH1:=kH1.1
   have hk:=hk.trans kH1
   have hs:=kH1.sl0 hs
   have hb:=kH1.sl0 hb
   refine Za (v:=.tuple #[iv S,iv P,iv e]) rfl ?_
   refine Zd (v:=iv S) rfl (by kernel_rfl) ?_
   refine Zd (v:=iv P) rfl (by kernel_rfl) ?_
   refine Zd (v:=iv e) rfl (by kernel_rfl) ?_
   refine Za (v:=iv S) rfl ?_
   refine Za (v:=iv P) rfl ?_
   refine Za (v:=iv e) rfl ?_
   refine Zb ?_
   refine Zc ?_
   refine Za (v:=iv e) rfl ?_
   refine YU (a:=e) (b:=0) rfl rfl ?_
   intro t3 g3;cases t3
   ·have g3:¬ (e≠0):=by simpa using g3
    refine Za (v:=.bool false) rfl ?_
    refine Ze rfl ?_
    refine Ze rfl ?_
    refine Zd (v:=.bool false) rfl rfl ?_
    refine Zb ?_
    refine ZJ ?_
    first | refine Zj ?_ | skip
    refine Zc ?_
    refine Za (v:=.slice sa n cap) rfl ?_
    refine ZH rfl (jl hs hl (by omega) (by omega)) ?_
    intro tH2 H2 hH2 kH2
    have mH2:=kH2.1
    have hk:=hk.trans kH2
    have hs:=kH2.sl0 hs
    have hb:=kH2.sl0 hb
    cases tH2
    ·have hvd:vD ds=false:=hH2
     have hE2:=hE.resolve_left (by rw [hvd];decide)
     refine Zd (v:=.bool true) rfl rfl ?_
     refine Za (v:=.bool true) rfl ?_
     refine Ze rfl ?_
     refine Ze rfl ?_
     refine Zd (v:=.bool true) rfl rfl ?_
     refine Za (v:=.bool true) rfl ?_
     refine Ze rfl ?_
     refine Ze rfl ?_
     refine Zd (v:=.bool true) rfl rfl ?_
     refine Za (v:=.bool true) rfl ?_
     refine Ze rfl ?_
     refine Ze rfl ?_
     refine Zd (v:=.bool true) rfl rfl ?_
     refine Za (v:=.bool true) rfl ?_
     refine Ze rfl ?_
     refine Ze rfl ?_
     refine Ze rfl ?_
     refine Zk rfl ?_
     refine Zk rfl ?_
     refine Zk rfl ?_
     refine Zk rfl ?_
     refine Zk rfl ?_
     refine Zk rfl ?_
     refine Zk rfl ?_
     refine Zk rfl ?_
     refine Zk rfl ?_
     refine Zk rfl ?_
     refine Zk rfl ?_
     refine Zk rfl ?_
     refine Zk rfl ?_
     refine Zk rfl ?_
     refine Zk rfl ?_
     refine Ze rfl ?_
     refine Zd (v:=.bool true) rfl rfl ?_
     refine Zb ?_
     refine ZO ?_
     refine Zc ?_
     refine Za (v:=.bool false) rfl ?_
     refine Zb ?_
     exact (show False by omega).elim
    ·have hvd:vD ds=true:=hH2
     obtain ⟨hl64,hany⟩:=Za4 hvd
     have hbd:=Vb hany;have hfl:=Q3 (days:=days) (limit:=limit) hbd (q:=gLo);have hfh:=Q3 (days:=days) (limit:=limit) hbd (q:=gHi);have hlh:fab (prt gHi ds) days limit = -1∨fab (prt gLo ds) days limit = -1∨fab (prt gHi ds) days limit≤fab (prt gLo ds) days limit:=(by by_cases c:fab (prt gHi ds) days limit = -1;exact .inl c;exact .inr (yH hbd c))
     refine Zd (v:=.bool false) rfl rfl ?_
     refine Za (v:=.bool false) rfl ?_
     refine Zi rfl (Za (v:=iv days) rfl ?_)
     refine Zi rfl (ZZ (a:=days) (b:=1) rfl rfl ?_)
     intro t4 g4;cases t4
     ·have g4:¬ (days < 1):=of_decide_eq_false g4
      refine Zd (v:=.bool false) rfl rfl ?_
      refine Za (v:=.bool false) rfl ?_
      refine Zi rfl (Za (v:=iv days) rfl ?_)
      refine Zi rfl (Y3 (a:=days) (b:=366) rfl rfl ?_)
      intro t5 g5;cases t5
      ·have g5:¬ (days > 366):=of_decide_eq_false g5
       refine Zd (v:=.bool false) rfl rfl ?_
       refine Za (v:=.bool false) rfl ?_
       refine Zi rfl (Za (v:=iv limit) rfl ?_)
       refine Zi rfl (ZZ (a:=limit) (b:=0) rfl rfl ?_)
       intro t6 g6;cases t6
       ·have g6:¬ (limit < 0):=of_decide_eq_false g6
        refine Zd (v:=.bool false) rfl rfl ?_
        refine Za (v:=.bool false) rfl ?_
        refine Zi rfl (Za (v:=iv e) rfl ?_)
        refine Zi rfl (YT (a:=e) (b:=0) rfl rfl ?_)
        intro t7 g7;cases t7
        ·have g7:¬ (e=0):=by simpa using g7
         refine Zi rfl (Za (v:=.bool false) rfl ?_)
         refine Ze rfl ?_
         refine Ze rfl ?_
         refine Ze rfl ?_
         refine Zk rfl ?_
         refine Zk rfl ?_
         refine Zk rfl ?_
         refine Zk rfl ?_
         refine Zk rfl ?_
         refine Zk rfl ?_
         refine Zk rfl ?_
         refine Ze rfl ?_
         refine Ze rfl ?_
         refine Zk rfl ?_
         refine Zk rfl ?_
         refine Ze rfl ?_
         refine Zi rfl (Zd (v:=.bool false) rfl rfl ?_)
         refine Zd (v:=.bool false) rfl rfl ?_
         refine Zb ?_
         refine ZJ ?_
         first | refine Zj ?_ | skip
         refine Zc ?_
         refine Za (v:=.slice sa n cap) rfl ?_
         refine ZG (m:=n) rfl ?_
         obtain ⟨i3,hi3,hby⟩:=U7
         obtain ⟨H3,hH3⟩:∃ H3,H2.new (.cells (zw (List.replicate n 0)) 3 false)=H3:=⟨_,rfl⟩
         refine ZU (v:=.slice (some ⟨H2.next,0,none⟩) n n) (H':=H3) (k:=.heavy) rfl (by kernel_rfl) ((Xd (m:=n) JP zo3 hi3 hby rfl rfl (by omega)).trans (by rw [hH3])) (fun b e=>by cases e) ?_
         obtain ⟨kH3,nH3,hr⟩:=ZP hH3;clear hH3
         have mH3:=kH3.1
         have hk:=hk.trans kH3
         have hs:=kH3.sl0 hs
         have hb:=kH3.sl0 hb
         obtain ⟨rb,erb⟩:∃ rb,rb=H2.next:=⟨_,rfl⟩
         have hr:Cl H3 rb (cI (tl (fun _=>0) n 0)):=by rw [erb,jX];exact hr
         rw [← erb]
         have hrl:lo≤rb∧H.next≤rb:=by omega
         refine Za (v:=.slice (some ⟨rb,0,none⟩) n n) rfl ?_
         refine Zb ?_
         refine Zc ?_
         refine Za (v:=iv 0) rfl ?_
         refine Zb ?_
         refine Zu (fn:=Try.f6) jN N6 jQ (fun i:Nat=>[(0,.slice sa n cap),(1,iv days),(2,iv limit),(3,.slice ba bn bc),(4,.int .u8 tj),(10,.bool false),(11,iv S),(12,iv P),(13,iv e),(14,.slice (some ⟨rb,0,none⟩) n n),(15,iv (i:Int))])
          (fun k i H'=>i+k=n∧Zm H H' []∧Sl H' sa n cap (dcc ds)∧Sl H' ba bn bc (cU us)∧∃ tf:Nat→Int,(∀ j,j < i→tlo ds j≤tf j∧tf j≤thi ds j)∧Cl H' rb (cI (tl tf n i))) n 0 ⟨by omega,hk,hs,hb,_,fun j hj=>absurd hj (Nat.not_lt_zero j),hr⟩ ⟨rfl,rfl,rfl,rfl,rfl,rfl,rfl,rfl,rfl,rfl,rfl,trivial⟩ ?_
         rintro k i L1 ⟨hik,hk,hs,hb,tf,htf,hr⟩
         have mk:=hk.1
         refine Zc ?_
         refine Za (v:=iv (i:Int)) rfl ?_
         refine Za (v:=.slice sa n cap) rfl ?_
         refine ZG (m:=n) rfl ?_
         refine Zx (a:=(i:Int)) (b:=(n:Int)) rfl rfl ?_
         refine Zb ?_
         refine And.intro (fun q8=>?_) (fun q8=>?_)
         ·have q8:(i:Int) < (n:Int):=of_decide_eq_true q8
          have hxi:i < n:=by omega
          have hi:=hxi
          rcases id hs with ⟨_,h0s,_⟩ | ⟨sb,es,rs,_⟩
          ·omega
          have ls:=rs.1
          have lsb2:=fs sb es
          have hbi:=ZL (z:=Dc.z) hbd (show i < ds.length by omega);obtain ⟨hbt0,hbt1,hbt2⟩:=YW hbi;have hmB:=YI XK hbi;simp only [gHi] at hmB
          rcases id hb with ⟨_,h0y,_⟩ | ⟨yb,ey,ry,_⟩
          ·omega
          have ly:=ry.1
          have lyb2:=fb yb ey
          have e1a:=Int.emod_nonneg (i:Int) (b:=(bn:Int)) (by omega);have e1b:=Int.emod_lt_of_pos (i:Int) (b:=(bn:Int)) (by omega)
          have e2a:=Int.emod_nonneg ((i:Int)+1) (b:=(bn:Int)) (by omega);have e2b:=Int.emod_lt_of_pos ((i:Int)+1) (b:=(bn:Int)) (by omega)
          first | refine Zj ?_ | skip
          first | refine Yj ?_ | refine XI ?_ | refine Wo ?_ | (refine Zo ?_;refine Yj ?_)
          refine Zf (v:=.slice (some ⟨rb,0,none⟩) n n) rfl ?_
          refine Zf (v:=iv (i:Int)) rfl ?_
          refine Zf (v:=.slice sa n cap) rfl ?_
          refine Zf (v:=iv (i:Int)) rfl ?_
          refine Zy (b:=sb) (o:=0) (k:=i) (j:=(i:Int)) (by rw [← es];rfl) rfl rfl hi ?_
          refine Zw (b:=sb) (o:=0+i * 5) rfl ?_
          refine ZT (b:=sb) (o:=0+i * 5+1) rfl rs (YP (l:=ds) (i:=i) (j:=1) (m:=2) (by omega) rfl) ?_
          refine Zf (v:=.slice ba bn bc) rfl ?_
          refine Zf (v:=iv (i:Int)) rfl ?_
          refine Zf (v:=.slice ba bn bc) rfl ?_
          refine X5 (m:=bn) rfl ?_
          refine X7 (a:=(i:Int)) (b:=(bn:Int)) rfl rfl (by omega) (by omega) ⟨by omega,by omega⟩ ⟨by omega,by omega⟩ ?_
          refine Zy (b:=yb) (o:=0) (k:=i % bn) (j:=(i:Int) % (bn:Int)) (by rw [← ey];rfl) rfl (Int.natCast_emod i bn).symm (Nat.mod_lt _ (by omega)) ?_
          have zu1:i % bn < us.length:=by rw [hbl];exact Nat.mod_lt _ (by omega)
          obtain ⟨u1,eu1,hu1⟩:∃ x:Int,((us.getD (i % bn) 0:Nat):Int)=x∧0≤x∧x≤4294967295:=⟨_,rfl,by omega,by have:=hus _ (Yf (z:=0) zu1);omega⟩
          refine Z2 (b:=yb) (o:=0+(i % bn) * 1) (v:=.int .u32 u1) rfl ry (by rw [← eu1];exact Vz zu1) ?_
          obtain ⟨vH4,H4,fH4,bvH4,kH4⟩:=XG (kn:=kn) (lo:=L1.next) (H:=L1) (l:=(ds.getD i Dc.z).wl) (h:=(ds.getD i Dc.z).wh) (j:=u1) hu1 (by omega) (Nat.le_refl _)
          refine Yt (vs:=[.agg #[iv ((ds.getD i Dc.z).wl),iv ((ds.getD i Dc.z).wh)],.int .u32 u1]) rfl rfl (Zh fH4) ?_
          have mH4:=kH4.1
          have hk:=hk.trans kH4
          have hs:=kH4.sl0 hs
          have hb:=kH4.sl0 hb
          have hr:=kH4.cl hr (by simp)
          have rs:=kH4.rd rs (by simp)
          have ry:=kH4.rd ry (by simp)
          refine Zf (v:=.slice sa n cap) rfl ?_
          refine Zf (v:=iv (i:Int)) rfl ?_
          refine Zy (b:=sb) (o:=0) (k:=i) (j:=(i:Int)) (by rw [← es];rfl) rfl rfl hi ?_
          refine Zw (b:=sb) (o:=0+i * 5) rfl ?_
          refine ZT (b:=sb) (o:=0+i * 5+3) rfl rs (YP (l:=ds) (i:=i) (j:=3) (m:=2) (by omega) rfl) ?_
          refine Zf (v:=.slice ba bn bc) rfl ?_
          refine Zf (v:=iv (i:Int)) rfl ?_
          refine Xf (a:=(i:Int)) (b:=1) rfl rfl ⟨by omega,by omega⟩ ?_
          refine Zf (v:=.slice ba bn bc) rfl ?_
          refine X5 (m:=bn) rfl ?_
          refine X7 (a:=(i:Int)+1) (b:=(bn:Int)) rfl rfl (by omega) (by omega) ⟨by omega,by omega⟩ ⟨by omega,by omega⟩ ?_
          refine Zy (b:=yb) (o:=0) (k:=(i+1) % bn) (j:=((i:Int)+1) % (bn:Int)) (by rw [← ey];rfl) rfl (by rw [Int.natCast_emod,Int.natCast_add];rfl) (Nat.mod_lt _ (by omega)) ?_
          have zu2:(i+1) % bn < us.length:=by rw [hbl];exact Nat.mod_lt _ (by omega)
          obtain ⟨u2,eu2,hu2⟩:∃ x:Int,((us.getD ((i+1) % bn) 0:Nat):Int)=x∧0≤x∧x≤4294967295:=⟨_,rfl,by omega,by have:=hus _ (Yf (z:=0) zu2);omega⟩
          refine Z2 (b:=yb) (o:=0+((i+1) % bn) * 1) (v:=.int .u32 u2) rfl ry (by rw [← eu2];exact Vz zu2) ?_
          obtain ⟨vH5,H5,fH5,bvH5,kH5⟩:=XG (kn:=kn) (lo:=lo) (H:=H4) (l:=(ds.getD i Dc.z).cl) (h:=(ds.getD i Dc.z).ch) (j:=u2) hu2 (by omega) (by omega)
          refine Y0 (vs:=[.agg #[iv ((ds.getD i Dc.z).cl),iv ((ds.getD i Dc.z).ch)],.int .u32 u2]) rfl (Zh fH5) ?_
          have mH5:=kH5.1
          have hk:=hk.trans kH5
          have hs:=kH5.sl0 hs
          have hb:=kH5.sl0 hb
          have hr:=kH5.cl hr (by simp)
          have rs:=kH5.rd rs (by simp)
          have ry:=kH5.rd ry (by simp)
          have htv:tlo ds i≤vH4 * vH5∧vH4 * vH5≤thi ds i:=Qs (a:=vH4) (b:=vH5) hbt1.1 bvH4.1 bvH4.2 hbt2.1 bvH5.1 bvH5.2;have htw:=Y9 (x:=vH4) (y:=vH5) (X:=1073741824) (Y:=100000) (by omega) (by omega) (by omega) (by omega)
          refine Wn (a:=vH4) (b:=vH5) rfl rfl ⟨by omega,by omega⟩ ?_
          refine Zy (b:=rb) (o:=0) (k:=i) (j:=(i:Int)) rfl rfl rfl (by omega) ?_
          refine UU (b:=rb) (o:=0+i * 1) rfl rfl hr (by omega) rfl rfl (by rw [Vs,Uq];omega) ?_
          intro H6 kH6 nH6 sH6
          have mH6:=kH6.1;rw [U9,Qk] at sH6;have hr:=sH6
          have hs:=kH6.sl hs (fun b e=>by have:=fs b e;simp;omega);have hb:=kH6.sl hb (fun b e=>by have:=fb b e;simp;omega)
          have hk:=hk.new kH6 (fun b hb=>.inr (by simp at hb;omega))
          refine ZN (by repeat' first | exact True.intro | exact (fun h=>h) | refine And.intro ?_ ?_ | (intro h;have h:(_:Nat)=_:=h;omega)) ?_
          first | refine Zn ?_ | refine ZD ?_ | refine Zs ?_ | (refine Zo ?_;refine Zn ?_)
          refine Za (v:=iv (i:Int)) rfl ?_
          refine Zq (a:=(i:Int)) (b:=1) rfl rfl ⟨by omega,by omega⟩ ?_
          refine Za (v:=iv ((i:Int)+1)) rfl ?_
          refine Zb ?_
          exact ⟨k - 1,i+1,by omega,⟨by omega,hk,hs,hb,_,fun j hj=>by by_cases c:j=i;rw [if_pos c,c];exact htv;rw [if_neg c];exact htf j (by omega),hr⟩,rfl,rfl,rfl,rfl,rfl,rfl,rfl,rfl,rfl,rfl,ivq (by omega),trivial⟩
         ·have q8:¬ ((i:Int) < (n:Int)):=of_decide_eq_false q8
          have ein:i=n:=by omega
          rw [ein] at htf hr
          have htt:∀ j,j < ds.length→tlo ds j≤tf j∧tf j≤thi ds j:=fun j hj=>htf j (by omega)
          have hti:∀ j,j < n→0≤tf j∧tf j≤107374182400000:=fun j hj=>(by have a:=YI Uu (ZL (z:=Dc.z) hbd (show j < ds.length by omega));have b:=YI XK (ZL (z:=Dc.z) hbd (show j < ds.length by omega));have c:=htf j hj;simp only [gLo,gHi] at a b;simp only [tlo,thi] at c;omega)
          first | (refine Zz ?_;show wC _ _ _ _ _ _ _ _ _) | skip
          refine Zc ?_
          refine Za (v:=iv e) rfl ?_
          refine YU (a:=e) (b:=0) rfl rfl ?_
          intro t9 g9;cases t9
          ·have g9:¬ (e≠0):=by simpa using g9
           omega
          ·have g9:e≠0:=by simpa using g9
           refine Za (v:=.bool true) rfl ?_
           refine Ze rfl ?_
           refine Ze rfl ?_
           refine Zd (v:=.bool true) rfl rfl ?_
           refine Za (v:=.bool true) rfl ?_
           refine Zb ?_
           refine Zc ?_
           refine Za (v:=iv 0) rfl ?_
           refine Zb ?_
           refine Zu (fn:=Try.f6) j7 N6 Zat (fun i:Nat=>[(0,.slice sa n cap),(1,iv days),(2,iv limit),(3,.slice ba bn bc),(4,.int .u8 tj),(10,.bool false),(11,iv S),(12,iv P),(13,iv e),(14,.slice (some ⟨rb,0,none⟩) n n),(16,.bool (abF true ds tf days limit S i)),(17,iv (i:Int))])
            (fun k i H'=>i+k=n∧Zm H H' []∧Sl H' sa n cap (dcc ds)∧Sl H' ba bn bc (cU us)∧Cl H' rb (cI (tl tf n n))) n 0 ⟨by omega,hk,hs,hb,hr⟩ ⟨rfl,rfl,rfl,rfl,rfl,rfl,rfl,rfl,rfl,rfl,rfl,rfl,trivial⟩ ?_
           rintro ko i L2 ⟨hik,hk,hs,hb,hr⟩
           have mk:=hk.1
           refine Zc ?_
           refine Za (v:=iv (i:Int)) rfl ?_
           refine Za (v:=.slice sa n cap) rfl ?_
           refine ZG (m:=n) rfl ?_
           refine Zx (a:=(i:Int)) (b:=(n:Int)) rfl rfl ?_
           refine Zb ?_
           refine And.intro (fun q10=>?_) (fun q10=>?_)
           ·have q10:(i:Int) < (n:Int):=of_decide_eq_true q10
            have hxi:i < n:=by omega
            have hi:=hxi
            rcases id hs with ⟨_,h0s,_⟩ | ⟨sb,es,rs,_⟩
            ·omega
            have ls:=rs.1
            have lsb2:=fs sb es
            first | refine Zj ?_ | skip
            refine Zc ?_
            refine Za (v:=iv 0) rfl ?_
            refine Zb ?_
            refine Zc ?_
            refine Za (v:=iv 0) rfl ?_
            refine Zb ?_
            refine Zu (fn:=Try.f6) j6 N6 Zaz (fun k:Nat=>[(0,.slice sa n cap),(1,iv days),(2,iv limit),(3,.slice ba bn bc),(4,.int .u8 tj),(10,.bool false),(11,iv S),(12,iv P),(13,iv e),(14,.slice (some ⟨rb,0,none⟩) n n),(16,.bool (abF true ds tf days limit S i)),(17,iv (i:Int)),(18,iv (ws ds tf days (ds.getD i Dc.z).d k)),(19,iv (k:Int))])
             (fun z k H'=>k+z=n∧Zm H H' []∧Sl H' sa n cap (dcc ds)∧Sl H' ba bn bc (cU us)∧Cl H' rb (cI (tl tf n n))) n 0 ⟨by omega,hk,hs,hb,hr⟩ ⟨rfl,rfl,rfl,rfl,rfl,rfl,rfl,rfl,rfl,rfl,rfl,rfl,rfl,rfl,trivial⟩ ?_
            rintro k3 k L3 ⟨hik3,hk,hs,hb,hr⟩
            have mk:=hk.1;have hwi:=Jc (ds:=ds) (f:=tf) (days:=days) (D:=(ds.getD i Dc.z).d) (m:=107374182400000) (by omega) (k:=k) (fun j hj=>hti j (by omega))
            refine Zc ?_
            refine Za (v:=iv (k:Int)) rfl ?_
            refine Za (v:=.slice sa n cap) rfl ?_
            refine ZG (m:=n) rfl ?_
            refine Zx (a:=(k:Int)) (b:=(n:Int)) rfl rfl ?_
            refine Zb ?_
            refine And.intro (fun q11=>?_) (fun q11=>?_)
            ·have q11:(k:Int) < (n:Int):=of_decide_eq_true q11
             have hxk:k < n:=by omega
             rcases id hs with ⟨_,h0s,_⟩ | ⟨sb,es,rs,_⟩
             ·omega
             have ls:=rs.1
             have lsb2:=fs sb es
             have hbk:=ZL (z:=Dc.z) hbd (show k < ds.length by omega);have hbtk:=YW hbk;have hbi:=ZL (z:=Dc.z) hbd (show i < ds.length by omega);have hbti:=YW hbi;have htk:=hti k (by omega)
             first | refine Zj ?_ | skip
             refine YO ?_
             refine Zf (v:=.slice sa n cap) rfl ?_
             refine Zf (v:=iv (k:Int)) rfl ?_
             refine Zy (b:=sb) (o:=0) (k:=k) (j:=(k:Int)) (by rw [← es];rfl) rfl rfl (by omega) ?_
             refine Zw (b:=sb) (o:=0+k * 5) rfl ?_
             refine Z2 (b:=sb) (o:=0+k * 5) (v:=iv ((ds.getD k Dc.z).d)) rfl rs (Z1 (l:=ds) (i:=k) (j:=0) (by omega) rfl) ?_
             refine Zf (v:=.slice sa n cap) rfl ?_
             refine Zf (v:=iv (i:Int)) rfl ?_
             refine Zy (b:=sb) (o:=0) (k:=i) (j:=(i:Int)) (by rw [← es];rfl) rfl rfl (by omega) ?_
             refine Zw (b:=sb) (o:=0+i * 5) rfl ?_
             refine Z2 (b:=sb) (o:=0+i * 5) (v:=iv ((ds.getD i Dc.z).d)) rfl rs (Z1 (l:=ds) (i:=i) (j:=0) (by omega) rfl) ?_
             refine Zf (v:=iv days) rfl ?_
             refine Xm (a:=(ds.getD i Dc.z).d) (b:=days) rfl rfl ⟨by omega,by omega⟩ ?_
             refine We (a:=(ds.getD k Dc.z).d) (b:=((ds.getD i Dc.z).d) - days) rfl rfl ?_
             intro t12 g12;cases t12
             ·have g12:¬ (((ds.getD k Dc.z).d) > (((ds.getD i Dc.z).d) - days)):=of_decide_eq_false g12
              refine Zf (v:=.bool false) rfl ?_
              refine ZE rfl ?_
              refine ZE rfl ?_
              refine ZE rfl ?_
              refine ZE rfl ?_
              refine ZE rfl ?_
              refine ZE rfl ?_
              refine ZE rfl ?_
              refine ZE rfl ?_
              refine ZE rfl ?_
              refine ZE rfl ?_
              refine ZE rfl ?_
              refine ZW (v:=.bool false) rfl rfl ?_
              refine ZN (by repeat' first | exact True.intro | exact (fun h=>h) | refine And.intro ?_ ?_ | (intro h;have h:(_:Nat)=_:=h;omega)) ?_
              refine ZJ ?_
              first | refine Zj ?_ | skip
              first | refine Zn ?_ | refine ZD ?_ | refine Zs ?_ | (refine Zo ?_;refine Zn ?_)
              refine Za (v:=iv (k:Int)) rfl ?_
              refine Zq (a:=(k:Int)) (b:=1) rfl rfl ⟨by omega,by omega⟩ ?_
              refine Za (v:=iv ((k:Int)+1)) rfl ?_
              refine Zb ?_
              have e3:ws ds tf days (ds.getD i Dc.z).d (k+1)=ws ds tf days (ds.getD i Dc.z).d k:=by show (if _ then _ else _)=_;rw [if_neg (by omega)]
              exact ⟨k3 - 1,k+1,by omega,⟨by omega,hk,hs,hb,hr⟩,rfl,rfl,rfl,rfl,rfl,rfl,rfl,rfl,rfl,rfl,rfl,rfl,ivq e3.symm,ivq (by omega),trivial⟩
             ·have g12:((ds.getD k Dc.z).d) > (((ds.getD i Dc.z).d) - days):=of_decide_eq_true g12
              refine Zf (v:=.bool true) rfl ?_
              refine ZI rfl (Zf (v:=.slice sa n cap) rfl ?_)
              refine ZI rfl (Zf (v:=iv (k:Int)) rfl ?_)
              refine ZI rfl (Zy (b:=sb) (o:=0) (k:=k) (j:=(k:Int)) (by rw [← es];rfl) rfl rfl (by omega) ?_)
              refine ZI rfl (Zw (b:=sb) (o:=0+k * 5) rfl ?_)
              refine ZI rfl (Z2 (b:=sb) (o:=0+k * 5) (v:=iv ((ds.getD k Dc.z).d)) rfl rs (Z1 (l:=ds) (i:=k) (j:=0) (by omega) rfl) ?_)
              refine ZI rfl (Zf (v:=.slice sa n cap) rfl ?_)
              refine ZI rfl (Zf (v:=iv (i:Int)) rfl ?_)
              refine ZI rfl (Zy (b:=sb) (o:=0) (k:=i) (j:=(i:Int)) (by rw [← es];rfl) rfl rfl (by omega) ?_)
              refine ZI rfl (Zw (b:=sb) (o:=0+i * 5) rfl ?_)
              refine ZI rfl (Z2 (b:=sb) (o:=0+i * 5) (v:=iv ((ds.getD i Dc.z).d)) rfl rs (Z1 (l:=ds) (i:=i) (j:=0) (by omega) rfl) ?_)
              refine ZI rfl (WI (a:=(ds.getD k Dc.z).d) (b:=(ds.getD i Dc.z).d) rfl rfl ?_)
              intro t13 g13;cases t13
              ·have g13:¬ (((ds.getD k Dc.z).d)≤((ds.getD i Dc.z).d)):=of_decide_eq_false g13
               refine ZW (v:=.bool false) rfl rfl ?_
               refine ZN (by repeat' first | exact True.intro | exact (fun h=>h) | refine And.intro ?_ ?_ | (intro h;have h:(_:Nat)=_:=h;omega)) ?_
               refine ZJ ?_
               first | refine Zj ?_ | skip
               first | refine Zn ?_ | refine ZD ?_ | refine Zs ?_ | (refine Zo ?_;refine Zn ?_)
               refine Za (v:=iv (k:Int)) rfl ?_
               refine Zq (a:=(k:Int)) (b:=1) rfl rfl ⟨by omega,by omega⟩ ?_
               refine Za (v:=iv ((k:Int)+1)) rfl ?_
               refine Zb ?_
               have e3:ws ds tf days (ds.getD i Dc.z).d (k+1)=ws ds tf days (ds.getD i Dc.z).d k:=by show (if _ then _ else _)=_;rw [if_neg (by omega)]
               exact ⟨k3 - 1,k+1,by omega,⟨by omega,hk,hs,hb,hr⟩,rfl,rfl,rfl,rfl,rfl,rfl,rfl,rfl,rfl,rfl,rfl,rfl,ivq e3.symm,ivq (by omega),trivial⟩
              ·have g13:((ds.getD k Dc.z).d)≤((ds.getD i Dc.z).d):=of_decide_eq_true g13
               refine ZW (v:=.bool true) rfl rfl ?_
               refine ZN (by repeat' first | exact True.intro | exact (fun h=>h) | refine And.intro ?_ ?_ | (intro h;have h:(_:Nat)=_:=h;omega)) ?_
               refine ZO ?_
               first | refine Zn ?_ | refine ZD ?_ | refine Zs ?_ | (refine Zo ?_;refine Zn ?_)
               refine Za (v:=iv (ws ds tf days (ds.getD i Dc.z).d k)) rfl ?_
               refine Za (v:=.slice (some ⟨rb,0,none⟩) n n) rfl ?_
               refine Za (v:=iv (k:Int)) rfl ?_
               refine Z9 (b:=rb) (o:=0) (k:=k) (j:=(k:Int)) rfl rfl rfl (by omega) ?_
               refine ZM (b:=rb) (o:=0+k * 1) (v:=iv (tf k)) rfl hr.rd (KN (by omega)) ?_
               refine Zq (a:=(ws ds tf days (ds.getD i Dc.z).d k)) (b:=(tf k)) rfl rfl ⟨by omega,by omega⟩ ?_
               refine Za (v:=iv ((ws ds tf days (ds.getD i Dc.z).d k)+(tf k))) rfl ?_
               refine Zb ?_
               first | refine Zn ?_ | refine ZD ?_ | refine Zs ?_ | (refine Zo ?_;refine Zn ?_)
               refine Za (v:=iv (k:Int)) rfl ?_
               refine Zq (a:=(k:Int)) (b:=1) rfl rfl ⟨by omega,by omega⟩ ?_
               refine Za (v:=iv ((k:Int)+1)) rfl ?_
               refine Zb ?_
               have e3:ws ds tf days (ds.getD i Dc.z).d (k+1)=ws ds tf days (ds.getD i Dc.z).d k+tf k:=by show (if _ then _ else _)=_;rw [if_pos ⟨by omega,by omega⟩]
               exact ⟨k3 - 1,k+1,by omega,⟨by omega,hk,hs,hb,hr⟩,rfl,rfl,rfl,rfl,rfl,rfl,rfl,rfl,rfl,rfl,rfl,rfl,ivq e3.symm,ivq (by omega),trivial⟩
            ·have q11:¬ ((k:Int) < (n:Int)):=of_decide_eq_false q11
             have ein3:k=n:=by omega
             rw [ein3]
             rcases id hs with ⟨_,h0s,_⟩ | ⟨sb,es,rs,_⟩
             ·omega
             have ls:=rs.1
             have lsb2:=fs sb es;have hi:i < n:=by omega
             have hwb:=(UE (days:=days) (D:=(ds.getD i Dc.z).d) htt).2;rw [hl] at hwb
             have hw1:fab (prt gHi ds) days limit = -1→YC (prt gHi ds) days (ds.getD i Dc.z).d≤limit:=fun c=>Ua hbd c (by omega)
             have hw2:¬ fab (prt gHi ds) days limit = -1→YC (prt gHi ds) days (ds.getD i Dc.z).d≤limit∨fab (prt gHi ds) days limit≤(ds.getD i Dc.z).d:=fun c=>Va hbd c (by omega)
             first | (refine Zz ?_;show wC _ _ _ _ _ _ _ _ _) | skip
             refine Zc ?_
             refine Za (v:=iv (ws ds tf days (ds.getD i Dc.z).d n)) rfl ?_
             refine Za (v:=iv limit) rfl ?_
             refine Y3 (a:=(ws ds tf days (ds.getD i Dc.z).d n)) (b:=limit) rfl rfl ?_
             intro t14 g14;cases t14
             ·have g14:¬ ((ws ds tf days (ds.getD i Dc.z).d n) > limit):=of_decide_eq_false g14
              refine Za (v:=.bool false) rfl ?_
              refine Ze rfl ?_
              refine Ze rfl ?_
              refine Ze rfl ?_
              refine Zk rfl ?_
              refine Zk rfl ?_
              refine Zk rfl ?_
              refine Zk rfl ?_
              refine Zk rfl ?_
              refine Zk rfl ?_
              refine Zk rfl ?_
              refine Ze rfl ?_
              refine Zd (v:=.bool false) rfl rfl ?_
              refine Zb ?_
              refine ZJ ?_
              first | refine Zj ?_ | skip
              first | refine Zn ?_ | refine ZD ?_ | refine Zs ?_ | (refine Zo ?_;refine Zn ?_)
              have hab:abF true ds tf days limit S i=true:=V1
              rw [hab]
              refine Za (v:=.bool true) rfl ?_
              refine Za (v:=.bool true) rfl ?_
              refine Ze rfl ?_
              refine Ze rfl ?_
              refine Ze rfl ?_
              refine Ze rfl ?_
              refine Ze rfl ?_
              refine Ze rfl ?_
              refine Ze rfl ?_
              refine Ze rfl ?_
              refine Zk rfl ?_
              refine Zk rfl ?_
              refine Zk rfl ?_
              refine Ze rfl ?_
              refine Zd (v:=.bool true) rfl rfl ?_
              refine Za (v:=.bool true) rfl ?_
              refine Zb ?_
              first | refine Zn ?_ | refine ZD ?_ | refine Zs ?_ | (refine Zo ?_;refine Zn ?_)
              refine Za (v:=iv (i:Int)) rfl ?_
              refine Zq (a:=(i:Int)) (b:=1) rfl rfl ⟨by omega,by omega⟩ ?_
              refine Za (v:=iv ((i:Int)+1)) rfl ?_
              refine Zb ?_
              have hU:abF true ds tf days limit S (i+1)=true:=by
               show (abF true ds tf days limit S i || (decide ((ds.getD i Dc.z).d=S) && decide (ws ds tf days (ds.getD i Dc.z).d ds.length > limit)))=_
               rw [hab,hl]
               first | rfl | (rw [decide_eq_false (by omega)];rfl) | (rw [decide_eq_true (by omega),decide_eq_true (by omega)];rfl) | (rw [decide_eq_true (by omega),decide_eq_false (by omega)];rfl)
              exact ⟨ko - 1,i+1,by omega,⟨by omega,hk,hs,hb,hr⟩,rfl,rfl,rfl,rfl,rfl,rfl,rfl,rfl,rfl,rfl,by rw [hU];rfl,ivq (by omega),trivial⟩
             ·have g14:(ws ds tf days (ds.getD i Dc.z).d n) > limit:=of_decide_eq_true g14
              refine Za (v:=.bool true) rfl ?_
              refine Zi rfl (Za (v:=iv e) rfl ?_)
              refine Zi rfl (YU (a:=e) (b:=0) rfl rfl ?_)
              intro t15 g15;cases t15
              ·have g15:¬ (e≠0):=by simpa using g15
               omega
              ·have g15:e≠0:=by simpa using g15
               refine Zi rfl (Za (v:=.bool true) rfl ?_)
               refine Ze rfl ?_
               refine Ze rfl ?_
               refine Ze rfl ?_
               refine Ze rfl ?_
               refine Ze rfl ?_
               refine Ze rfl ?_
               refine Ze rfl ?_
               refine Zi rfl (Zd (v:=.bool true) rfl rfl ?_)
               refine Zd (v:=.bool true) rfl rfl ?_
               refine Zb ?_
               refine ZO ?_
               refine Zc ?_
               refine Za (v:=.bool false) rfl ?_
               refine Zb ?_
               exact (show False by omega).elim
           ·have q10:¬ ((i:Int) < (n:Int)):=of_decide_eq_false q10
            have ein2:i=n:=by omega
            rw [ein2]
            have hab:abF true ds tf days limit S n=true:=V1
            rw [hab]
            first | (refine Zz ?_;show wC _ _ _ _ _ _ _ _ _) | skip
            refine Zc ?_
            refine Za (v:=.bool true) rfl ?_
            refine Zd (v:=.bool false) rfl rfl ?_
            refine Zb ?_
            refine ZJ ?_
            first | refine Zj ?_ | skip
            refine Zc ?_
            refine Za (v:=.slice none 0 0) rfl ?_
            refine Zb ?_
            refine Zc ?_
            refine Za (v:=iv 0) rfl ?_
            refine Zb ?_
            refine Zu (fn:=Try.f6) j5 N6 j3 (fun z:Nat × Value=>[(0,.slice sa n cap),(1,iv days),(2,iv limit),(3,.slice ba bn bc),(4,.int .u8 tj),(10,.bool false),(11,iv S),(12,iv P),(13,iv e),(20,z.2),(21,iv (z.1:Int))])
             (fun k z H'=>z.1+k=n∧Zm H H' []∧Sl H' sa n cap (dcc ds)∧Sl H' ba bn bc (cU us)∧Acc lo H.next 52 H' z.2 z.1 (dcc (oth ds tn z.1))) n (0,.slice none 0 0) ⟨by simp,hk,hs,hb,.inl ⟨rfl,rfl,rfl⟩⟩ ⟨rfl,rfl,rfl,rfl,rfl,rfl,rfl,rfl,rfl,rfl,rfl,trivial⟩ ?_
            rintro k ⟨i,wv⟩ L4 ⟨hik,hk,hs,hb,hacc⟩
            simp only [] at hik hacc
            have mk:=hk.1;have kacc:=Zm.refl L4 []
            refine Zc ?_
            refine Za (v:=iv (i:Int)) rfl ?_
            refine Za (v:=.slice sa n cap) rfl ?_
            refine ZG (m:=n) rfl ?_
            refine Zx (a:=(i:Int)) (b:=(n:Int)) rfl rfl ?_
            refine Zb ?_
            refine And.intro (fun q16=>?_) (fun q16=>?_)
            ·have q16:(i:Int) < (n:Int):=of_decide_eq_true q16
             have hxi:i < n:=by omega
             have hi:=hxi
             rcases id hs with ⟨_,h0s,_⟩ | ⟨sb,es,rs,_⟩
             ·omega
             have ls:=rs.1
             have lsb2:=fs sb es
             have e4a:=Int.emod_nonneg ((i:Int)+(tn:Int)) (b:=(n:Int)) (by omega);have e4b:=Int.emod_lt_of_pos ((i:Int)+(tn:Int)) (b:=(n:Int)) (by omega);have hmn:(i+tn) % n < n:=Nat.mod_lt _ (by omega)
             first | refine Zj ?_ | skip
             first | refine Zn ?_ | refine ZD ?_ | refine Zs ?_ | (refine Zo ?_;refine Zn ?_)
             refine Za (v:=wv) rfl ?_
             refine Za (v:=.slice sa n cap) rfl ?_
             refine Za (v:=iv (i:Int)) rfl ?_
             refine Za (v:=.int .u8 tj) rfl ?_
             refine Zd (v:=iv (tn:Int)) rfl (Zag (n:=tn) (j:=tj) (by omega) rfl htn) ?_
             refine Zq (a:=(i:Int)) (b:=(tn:Int)) rfl rfl ⟨by omega,by omega⟩ ?_
             refine Za (v:=.slice sa n cap) rfl ?_
             refine ZG (m:=n) rfl ?_
             refine Qi (a:=(i:Int)+(tn:Int)) (b:=(n:Int)) rfl rfl (by omega) (by omega) ⟨by omega,by omega⟩ ⟨by omega,by omega⟩ ?_
             refine Z9 (b:=sb) (o:=0) (k:=(i+tn) % n) (j:=((i:Int)+(tn:Int)) % (n:Int)) (by rw [← es];rfl) rfl (by rw [Int.natCast_emod,Int.natCast_add]) hmn ?_
             refine ZV (b:=sb) (o:=0+((i+tn) % n) * 5) rfl rs (XC (by omega)) ?_
             obtain ⟨H7,hH7⟩:∃ H7,L4.new (.cells [iv ((ds.getD ((i+tn) % n) Dc.z).d),iv ((ds.getD ((i+tn) % n) Dc.z).wl),iv ((ds.getD ((i+tn) % n) Dc.z).wh),iv ((ds.getD ((i+tn) % n) Dc.z).cl),iv ((ds.getD ((i+tn) % n) Dc.z).ch)] 52 false)=H7:=⟨_,rfl⟩
             refine ZU (H':=H7) (k:=.heavy) rfl (by kernel_rfl) ((Yv (v:=.agg (Dc.f (ds.getD ((i+tn) % n) Dc.z)).toArray) VM zx rfl rfl rfl (by decide)).trans (by rw [← hH7];rfl)) (fun b e=>by cases e) ?_
             obtain ⟨kH7,nH7,c7⟩:=ZP hH7;clear hH7
             have c7:Cl H7 L4.next [iv ((ds.getD ((i+tn) % n) Dc.z).d),iv ((ds.getD ((i+tn) % n) Dc.z).wl),iv ((ds.getD ((i+tn) % n) Dc.z).wh),iv ((ds.getD ((i+tn) % n) Dc.z).cl),iv ((ds.getD ((i+tn) % n) Dc.z).ch)]:=c7
             have mH7:=kH7.1
             have hk:=hk.trans kH7
             have hs:=kH7.sl0 hs
             have hb:=kH7.sl0 hb
             have kacc:=kacc.trans kH7
             have rs:=kH7.rd rs (by simp)
             obtain ⟨H8,kdH8,eH8,dH8,aH8,kbH8⟩:=Yu (P:=Try.prog) (lo:=lo) (k:=i) (t1:=22) VM Jh (c7.sl (Nat.le_refl 1)) rfl (by decide) rfl (by rw [WR,Xg]) (by omega) (hacc.keep kacc) (by omega) (by omega)
             refine ZU (k:=kdH8) rfl (by cases wv<;>kernel_rfl) (eH8 _ _ _ _ _ _ _ rfl rfl) (VF dH8 _) ?_
             have hk:=kbH8.keep hk (by omega)
             have hs:=kbH8.sl hs (fun b e=>by have:=fs b e;omega)
             have hb:=kbH8.sl hb (fun b e=>by have:=fb b e;omega)
             have mH8:=kbH8.1
             refine Za (v:=.slice (some ⟨H7.next,0,none⟩) (i+1) (i+1)) rfl ?_
             refine Zb ?_
             first | refine Zn ?_ | refine ZD ?_ | refine Zs ?_ | (refine Zo ?_;refine Zn ?_)
             refine Za (v:=iv (i:Int)) rfl ?_
             refine Zq (a:=(i:Int)) (b:=1) rfl rfl ⟨by omega,by omega⟩ ?_
             refine Za (v:=iv ((i:Int)+1)) rfl ?_
             refine Zb ?_
             have hacc2:Acc lo H.next 52 H8 (.slice (some ⟨H7.next,0,none⟩) (i+1) (i+1)) (i+1) (dcc (oth ds tn (i+1))):=by rw [K4,V7,hl];exact aH8
             exact ⟨k - 1,(i+1,_),by omega,⟨by simp only [];omega,hk,hs,hb,hacc2⟩,rfl,rfl,rfl,rfl,rfl,rfl,rfl,rfl,rfl,rfl,ivq (by simp only [];omega),trivial⟩
            ·have q16:¬ ((i:Int) < (n:Int)):=of_decide_eq_false q16
             have ein4:i=n:=by omega
             rw [ein4] at hacc;obtain ⟨oa,oc,rfl,hso,_⟩:=hacc.sl;have fso:=hso.old
             first | (refine Zz ?_;show wC _ _ _ _ _ _ _ _ _) | skip
             refine Zc ?_
             refine Za (v:=.slice oa n oc) rfl ?_
             refine Za (v:=iv days) rfl ?_
             refine Za (v:=iv limit) rfl ?_
             have hpp:paT (oth ds tn n) days limit=(S,P,e):=by rw [← hpa,← hl];exact Uc WZ
             obtain ⟨H9,fH9,kH9⟩:=XP (kn:=kn) (lo:=lo) (H:=L4) hso Xg (by omega) (by omega) (hkn 35) (days:=days) (limit:=limit);rw [hpp] at fH9
             refine Zl (vs:=[.slice oa n oc,iv days,iv limit]) rfl (Zh fH9) ?_
             have mH9:=kH9.1
             have hk:=hk.trans kH9
             have hs:=kH9.sl0 hs
             have hb:=kH9.sl0 hb
             have hso:=kH9.sl0 hso
             refine Za (v:=.tuple #[iv S,iv P,iv e]) rfl ?_
             refine Zd (v:=iv S) rfl (by kernel_rfl) ?_
             refine Zd (v:=iv P) rfl (by kernel_rfl) ?_
             refine Zd (v:=iv e) rfl (by kernel_rfl) ?_
             refine Za (v:=iv S) rfl ?_
             refine Za (v:=iv P) rfl ?_
             refine Za (v:=iv e) rfl ?_
             refine Zb ?_
             refine Zc ?_
             refine Za (v:=iv S) rfl ?_
             refine Za (v:=iv S) rfl ?_
             refine Xe (a:=S) rfl rfl ?_
             refine Za (v:=.bool true) rfl ?_
             refine Zi rfl (Za (v:=iv P) rfl ?_)
             refine Zi rfl (Za (v:=iv P) rfl ?_)
             refine Zi rfl (Xe (a:=P) rfl rfl ?_)
             refine Zd (v:=.bool true) rfl rfl ?_
             refine Za (v:=.bool true) rfl ?_
             refine Zi rfl (Za (v:=iv e) rfl ?_)
             refine Zi rfl (Za (v:=iv e) rfl ?_)
             refine Zi rfl (Xe (a:=e) rfl rfl ?_)
             refine Zd (v:=.bool true) rfl rfl ?_
             refine Za (v:=.bool true) rfl ?_
             obtain ⟨H10,fH10,kH10⟩:=XD (kn:=kn) (lo:=lo) (H:=H9) hkn (by omega)
             refine Zi rfl (Zl (vs:=[]) rfl (Z8 (hkn 11) fH10) ?_)
             have mH10:=kH10.1
             have hk:=hk.trans kH10
             have hs:=kH10.sl0 hs
             have hb:=kH10.sl0 hb
             have hso:=kH10.sl0 hso
             refine Zd (v:=.bool true) rfl rfl ?_
             refine Za (v:=.bool true) rfl ?_
             refine Zb ?_
             exact And.intro trivial (Exists.intro _ (And.intro rfl rfl))
        ·have g7:e=0:=by simpa using g7
         refine Zi rfl (Za (v:=.bool true) rfl ?_)
         refine Zi rfl (Za (v:=iv P) rfl ?_)
         refine Zi rfl (ZZ (a:=P) (b:=0) rfl rfl ?_)
         intro t17 g17;cases t17
         ·have g17:¬ (P < 0):=of_decide_eq_false g17
          refine Zi rfl (Za (v:=.bool false) rfl ?_)
          refine Zi rfl (Za (v:=iv S) rfl ?_)
          refine Zi rfl (U5 (a:=S) (b:=0) rfl rfl ?_)
          intro t18 g18;cases t18
          ·have g18:¬ (S ≥ 0):=of_decide_eq_false g18
           refine Zi rfl (Za (v:=.bool false) rfl ?_)
           refine Ze rfl ?_
           refine Ze rfl ?_
           refine Ze rfl ?_
           refine Zi rfl (Zd (v:=.bool false) rfl rfl ?_)
           refine Zi rfl (Zd (v:=.bool false) rfl rfl ?_)
           refine Zi rfl (Za (v:=.bool false) rfl ?_)
           refine Zi rfl (Za (v:=iv S) rfl ?_)
           refine Zi rfl (ZZ (a:=S) (b:=-1) rfl rfl ?_)
           intro t19 g19;cases t19
           ·have g19:¬ (S < (-1)):=of_decide_eq_false g19
            refine Zi rfl (Zd (v:=.bool false) rfl rfl ?_)
            refine Zi rfl (Zd (v:=.bool false) rfl rfl ?_)
            refine Zd (v:=.bool false) rfl rfl ?_
            refine Zb ?_
            refine ZJ ?_
            first | refine Zj ?_ | skip
            refine Zc ?_
            refine Za (v:=.slice sa n cap) rfl ?_
            refine ZG (m:=n) rfl ?_
            obtain ⟨i3,hi3,hby⟩:=U7
            obtain ⟨H11,hH11⟩:∃ H11,H2.new (.cells (zw (List.replicate n 0)) 3 false)=H11:=⟨_,rfl⟩
            refine ZU (v:=.slice (some ⟨H2.next,0,none⟩) n n) (H':=H11) (k:=.heavy) rfl (by kernel_rfl) ((Xd (m:=n) JP zo3 hi3 hby rfl rfl (by omega)).trans (by rw [hH11])) (fun b e=>by cases e) ?_
            obtain ⟨kH11,nH11,hr⟩:=ZP hH11;clear hH11
            have mH11:=kH11.1
            have hk:=hk.trans kH11
            have hs:=kH11.sl0 hs
            have hb:=kH11.sl0 hb
            obtain ⟨rb,erb⟩:∃ rb,rb=H2.next:=⟨_,rfl⟩
            have hr:Cl H11 rb (cI (tl (fun _=>0) n 0)):=by rw [erb,jX];exact hr
            rw [← erb]
            have hrl:lo≤rb∧H.next≤rb:=by omega
            refine Za (v:=.slice (some ⟨rb,0,none⟩) n n) rfl ?_
            refine Zb ?_
            refine Zc ?_
            refine Za (v:=iv 0) rfl ?_
            refine Zb ?_
            refine Zu (fn:=Try.f6) jN N6 jQ (fun i:Nat=>[(0,.slice sa n cap),(1,iv days),(2,iv limit),(3,.slice ba bn bc),(4,.int .u8 tj),(10,.bool false),(11,iv S),(12,iv P),(13,iv e),(14,.slice (some ⟨rb,0,none⟩) n n),(15,iv (i:Int))])
             (fun k i H'=>i+k=n∧Zm H H' []∧Sl H' sa n cap (dcc ds)∧Sl H' ba bn bc (cU us)∧∃ tf:Nat→Int,(∀ j,j < i→tlo ds j≤tf j∧tf j≤thi ds j)∧Cl H' rb (cI (tl tf n i))) n 0 ⟨by omega,hk,hs,hb,_,fun j hj=>absurd hj (Nat.not_lt_zero j),hr⟩ ⟨rfl,rfl,rfl,rfl,rfl,rfl,rfl,rfl,rfl,rfl,rfl,trivial⟩ ?_
            rintro k i L1 ⟨hik,hk,hs,hb,tf,htf,hr⟩
            have mk:=hk.1
            refine Zc ?_
            refine Za (v:=iv (i:Int)) rfl ?_
            refine Za (v:=.slice sa n cap) rfl ?_
            refine ZG (m:=n) rfl ?_
            refine Zx (a:=(i:Int)) (b:=(n:Int)) rfl rfl ?_
            refine Zb ?_
            refine And.intro (fun q20=>?_) (fun q20=>?_)
            ·have q20:(i:Int) < (n:Int):=of_decide_eq_true q20
             have hxi:i < n:=by omega
             have hi:=hxi
             rcases id hs with ⟨_,h0s,_⟩ | ⟨sb,es,rs,_⟩
             ·omega
             have ls:=rs.1
             have lsb2:=fs sb es
             have hbi:=ZL (z:=Dc.z) hbd (show i < ds.length by omega);obtain ⟨hbt0,hbt1,hbt2⟩:=YW hbi;have hmB:=YI XK hbi;simp only [gHi] at hmB
             rcases id hb with ⟨_,h0y,_⟩ | ⟨yb,ey,ry,_⟩
             ·omega
             have ly:=ry.1
             have lyb2:=fb yb ey
             have e1a:=Int.emod_nonneg (i:Int) (b:=(bn:Int)) (by omega);have e1b:=Int.emod_lt_of_pos (i:Int) (b:=(bn:Int)) (by omega)
             have e2a:=Int.emod_nonneg ((i:Int)+1) (b:=(bn:Int)) (by omega);have e2b:=Int.emod_lt_of_pos ((i:Int)+1) (b:=(bn:Int)) (by omega)
             first | refine Zj ?_ | skip
             first | refine Yj ?_ | refine XI ?_ | refine Wo ?_ | (refine Zo ?_;refine Yj ?_)
             refine Zf (v:=.slice (some ⟨rb,0,none⟩) n n) rfl ?_
             refine Zf (v:=iv (i:Int)) rfl ?_
             refine Zf (v:=.slice sa n cap) rfl ?_
             refine Zf (v:=iv (i:Int)) rfl ?_
             refine Zy (b:=sb) (o:=0) (k:=i) (j:=(i:Int)) (by rw [← es];rfl) rfl rfl hi ?_
             refine Zw (b:=sb) (o:=0+i * 5) rfl ?_
             refine ZT (b:=sb) (o:=0+i * 5+1) rfl rs (YP (l:=ds) (i:=i) (j:=1) (m:=2) (by omega) rfl) ?_
             refine Zf (v:=.slice ba bn bc) rfl ?_
             refine Zf (v:=iv (i:Int)) rfl ?_
             refine Zf (v:=.slice ba bn bc) rfl ?_
             refine X5 (m:=bn) rfl ?_
             refine X7 (a:=(i:Int)) (b:=(bn:Int)) rfl rfl (by omega) (by omega) ⟨by omega,by omega⟩ ⟨by omega,by omega⟩ ?_
             refine Zy (b:=yb) (o:=0) (k:=i % bn) (j:=(i:Int) % (bn:Int)) (by rw [← ey];rfl) rfl (Int.natCast_emod i bn).symm (Nat.mod_lt _ (by omega)) ?_
             have zu1:i % bn < us.length:=by rw [hbl];exact Nat.mod_lt _ (by omega)
             obtain ⟨u1,eu1,hu1⟩:∃ x:Int,((us.getD (i % bn) 0:Nat):Int)=x∧0≤x∧x≤4294967295:=⟨_,rfl,by omega,by have:=hus _ (Yf (z:=0) zu1);omega⟩
             refine Z2 (b:=yb) (o:=0+(i % bn) * 1) (v:=.int .u32 u1) rfl ry (by rw [← eu1];exact Vz zu1) ?_
             obtain ⟨vH12,H12,fH12,bvH12,kH12⟩:=XG (kn:=kn) (lo:=L1.next) (H:=L1) (l:=(ds.getD i Dc.z).wl) (h:=(ds.getD i Dc.z).wh) (j:=u1) hu1 (by omega) (Nat.le_refl _)
             refine Yt (vs:=[.agg #[iv ((ds.getD i Dc.z).wl),iv ((ds.getD i Dc.z).wh)],.int .u32 u1]) rfl rfl (Zh fH12) ?_
             have mH12:=kH12.1
             have hk:=hk.trans kH12
             have hs:=kH12.sl0 hs
             have hb:=kH12.sl0 hb
             have hr:=kH12.cl hr (by simp)
             have rs:=kH12.rd rs (by simp)
             have ry:=kH12.rd ry (by simp)
             refine Zf (v:=.slice sa n cap) rfl ?_
             refine Zf (v:=iv (i:Int)) rfl ?_
             refine Zy (b:=sb) (o:=0) (k:=i) (j:=(i:Int)) (by rw [← es];rfl) rfl rfl hi ?_
             refine Zw (b:=sb) (o:=0+i * 5) rfl ?_
             refine ZT (b:=sb) (o:=0+i * 5+3) rfl rs (YP (l:=ds) (i:=i) (j:=3) (m:=2) (by omega) rfl) ?_
             refine Zf (v:=.slice ba bn bc) rfl ?_
             refine Zf (v:=iv (i:Int)) rfl ?_
             refine Xf (a:=(i:Int)) (b:=1) rfl rfl ⟨by omega,by omega⟩ ?_
             refine Zf (v:=.slice ba bn bc) rfl ?_
             refine X5 (m:=bn) rfl ?_
             refine X7 (a:=(i:Int)+1) (b:=(bn:Int)) rfl rfl (by omega) (by omega) ⟨by omega,by omega⟩ ⟨by omega,by omega⟩ ?_
             refine Zy (b:=yb) (o:=0) (k:=(i+1) % bn) (j:=((i:Int)+1) % (bn:Int)) (by rw [← ey];rfl) rfl (by rw [Int.natCast_emod,Int.natCast_add];rfl) (Nat.mod_lt _ (by omega)) ?_
             have zu2:(i+1) % bn < us.length:=by rw [hbl];exact Nat.mod_lt _ (by omega)
             obtain ⟨u2,eu2,hu2⟩:∃ x:Int,((us.getD ((i+1) % bn) 0:Nat):Int)=x∧0≤x∧x≤4294967295:=⟨_,rfl,by omega,by have:=hus _ (Yf (z:=0) zu2);omega⟩
             refine Z2 (b:=yb) (o:=0+((i+1) % bn) * 1) (v:=.int .u32 u2) rfl ry (by rw [← eu2];exact Vz zu2) ?_
             obtain ⟨vH13,H13,fH13,bvH13,kH13⟩:=XG (kn:=kn) (lo:=lo) (H:=H12) (l:=(ds.getD i Dc.z).cl) (h:=(ds.getD i Dc.z).ch) (j:=u2) hu2 (by omega) (by omega)
             refine Y0 (vs:=[.agg #[iv ((ds.getD i Dc.z).cl),iv ((ds.getD i Dc.z).ch)],.int .u32 u2]) rfl (Zh fH13) ?_
             have mH13:=kH13.1
             have hk:=hk.trans kH13
             have hs:=kH13.sl0 hs
             have hb:=kH13.sl0 hb
             have hr:=kH13.cl hr (by simp)
             have rs:=kH13.rd rs (by simp)
             have ry:=kH13.rd ry (by simp)
             have htv:tlo ds i≤vH12 * vH13∧vH12 * vH13≤thi ds i:=Qs (a:=vH12) (b:=vH13) hbt1.1 bvH12.1 bvH12.2 hbt2.1 bvH13.1 bvH13.2;have htw:=Y9 (x:=vH12) (y:=vH13) (X:=1073741824) (Y:=100000) (by omega) (by omega) (by omega) (by omega)
             refine Wn (a:=vH12) (b:=vH13) rfl rfl ⟨by omega,by omega⟩ ?_
             refine Zy (b:=rb) (o:=0) (k:=i) (j:=(i:Int)) rfl rfl rfl (by omega) ?_
             refine UU (b:=rb) (o:=0+i * 1) rfl rfl hr (by omega) rfl rfl (by rw [Vs,Uq];omega) ?_
             intro H14 kH14 nH14 sH14
             have mH14:=kH14.1;rw [U9,Qk] at sH14;have hr:=sH14
             have hs:=kH14.sl hs (fun b e=>by have:=fs b e;simp;omega);have hb:=kH14.sl hb (fun b e=>by have:=fb b e;simp;omega)
             have hk:=hk.new kH14 (fun b hb=>.inr (by simp at hb;omega))
             refine ZN (by repeat' first | exact True.intro | exact (fun h=>h) | refine And.intro ?_ ?_ | (intro h;have h:(_:Nat)=_:=h;omega)) ?_
             first | refine Zn ?_ | refine ZD ?_ | refine Zs ?_ | (refine Zo ?_;refine Zn ?_)
             refine Za (v:=iv (i:Int)) rfl ?_
             refine Zq (a:=(i:Int)) (b:=1) rfl rfl ⟨by omega,by omega⟩ ?_
             refine Za (v:=iv ((i:Int)+1)) rfl ?_
             refine Zb ?_
             exact ⟨k - 1,i+1,by omega,⟨by omega,hk,hs,hb,_,fun j hj=>by by_cases c:j=i;rw [if_pos c,c];exact htv;rw [if_neg c];exact htf j (by omega),hr⟩,rfl,rfl,rfl,rfl,rfl,rfl,rfl,rfl,rfl,rfl,ivq (by omega),trivial⟩
            ·have q20:¬ ((i:Int) < (n:Int)):=of_decide_eq_false q20
             have ein:i=n:=by omega
             rw [ein] at htf hr
             have htt:∀ j,j < ds.length→tlo ds j≤tf j∧tf j≤thi ds j:=fun j hj=>htf j (by omega)
             have hti:∀ j,j < n→0≤tf j∧tf j≤107374182400000:=fun j hj=>(by have a:=YI Uu (ZL (z:=Dc.z) hbd (show j < ds.length by omega));have b:=YI XK (ZL (z:=Dc.z) hbd (show j < ds.length by omega));have c:=htf j hj;simp only [gLo,gHi] at a b;simp only [tlo,thi] at c;omega)
             first | (refine Zz ?_;show wC _ _ _ _ _ _ _ _ _) | skip
             refine Zc ?_
             refine Za (v:=iv e) rfl ?_
             refine YU (a:=e) (b:=0) rfl rfl ?_
             intro t21 g21;cases t21
             ·have g21:¬ (e≠0):=by simpa using g21
              refine Za (v:=.bool false) rfl ?_
              refine Zi rfl (Za (v:=iv S) rfl ?_)
              refine Zi rfl (ZZ (a:=S) (b:=0) rfl rfl ?_)
              intro t22 g22;cases t22
              ·have g22:¬ (S < 0):=of_decide_eq_false g22
               omega
              ·have g22:S < 0:=of_decide_eq_true g22
               refine Zd (v:=.bool true) rfl rfl ?_
               refine Za (v:=.bool true) rfl ?_
               refine Zb ?_
               refine Zc ?_
               refine Za (v:=iv 0) rfl ?_
               refine Zb ?_
               refine Zu (fn:=Try.f6) j7 N6 Zat (fun i:Nat=>[(0,.slice sa n cap),(1,iv days),(2,iv limit),(3,.slice ba bn bc),(4,.int .u8 tj),(10,.bool false),(11,iv S),(12,iv P),(13,iv e),(14,.slice (some ⟨rb,0,none⟩) n n),(16,.bool (abF true ds tf days limit S i)),(17,iv (i:Int))])
                (fun k i H'=>i+k=n∧Zm H H' []∧Sl H' sa n cap (dcc ds)∧Sl H' ba bn bc (cU us)∧Cl H' rb (cI (tl tf n n))) n 0 ⟨by omega,hk,hs,hb,hr⟩ ⟨rfl,rfl,rfl,rfl,rfl,rfl,rfl,rfl,rfl,rfl,rfl,rfl,trivial⟩ ?_
               rintro ko i L2 ⟨hik,hk,hs,hb,hr⟩
               have mk:=hk.1
               refine Zc ?_
               refine Za (v:=iv (i:Int)) rfl ?_
               refine Za (v:=.slice sa n cap) rfl ?_
               refine ZG (m:=n) rfl ?_
               refine Zx (a:=(i:Int)) (b:=(n:Int)) rfl rfl ?_
               refine Zb ?_
               refine And.intro (fun q23=>?_) (fun q23=>?_)
               ·have q23:(i:Int) < (n:Int):=of_decide_eq_true q23
                have hxi:i < n:=by omega
                have hi:=hxi
                rcases id hs with ⟨_,h0s,_⟩ | ⟨sb,es,rs,_⟩
                ·omega
                have ls:=rs.1
                have lsb2:=fs sb es
                first | refine Zj ?_ | skip
                refine Zc ?_
                refine Za (v:=iv 0) rfl ?_
                refine Zb ?_
                refine Zc ?_
                refine Za (v:=iv 0) rfl ?_
                refine Zb ?_
                refine Zu (fn:=Try.f6) j6 N6 Zaz (fun k:Nat=>[(0,.slice sa n cap),(1,iv days),(2,iv limit),(3,.slice ba bn bc),(4,.int .u8 tj),(10,.bool false),(11,iv S),(12,iv P),(13,iv e),(14,.slice (some ⟨rb,0,none⟩) n n),(16,.bool (abF true ds tf days limit S i)),(17,iv (i:Int)),(18,iv (ws ds tf days (ds.getD i Dc.z).d k)),(19,iv (k:Int))])
                 (fun z k H'=>k+z=n∧Zm H H' []∧Sl H' sa n cap (dcc ds)∧Sl H' ba bn bc (cU us)∧Cl H' rb (cI (tl tf n n))) n 0 ⟨by omega,hk,hs,hb,hr⟩ ⟨rfl,rfl,rfl,rfl,rfl,rfl,rfl,rfl,rfl,rfl,rfl,rfl,rfl,rfl,trivial⟩ ?_
                rintro k3 k L3 ⟨hik3,hk,hs,hb,hr⟩
                have mk:=hk.1;have hwi:=Jc (ds:=ds) (f:=tf) (days:=days) (D:=(ds.getD i Dc.z).d) (m:=107374182400000) (by omega) (k:=k) (fun j hj=>hti j (by omega))
                refine Zc ?_
                refine Za (v:=iv (k:Int)) rfl ?_
                refine Za (v:=.slice sa n cap) rfl ?_
                refine ZG (m:=n) rfl ?_
                refine Zx (a:=(k:Int)) (b:=(n:Int)) rfl rfl ?_
                refine Zb ?_
                refine And.intro (fun q24=>?_) (fun q24=>?_)
                ·have q24:(k:Int) < (n:Int):=of_decide_eq_true q24
                 have hxk:k < n:=by omega
                 rcases id hs with ⟨_,h0s,_⟩ | ⟨sb,es,rs,_⟩
                 ·omega
                 have ls:=rs.1
                 have lsb2:=fs sb es
                 have hbk:=ZL (z:=Dc.z) hbd (show k < ds.length by omega);have hbtk:=YW hbk;have hbi:=ZL (z:=Dc.z) hbd (show i < ds.length by omega);have hbti:=YW hbi;have htk:=hti k (by omega)
                 first | refine Zj ?_ | skip
                 refine YO ?_
                 refine Zf (v:=.slice sa n cap) rfl ?_
                 refine Zf (v:=iv (k:Int)) rfl ?_
                 refine Zy (b:=sb) (o:=0) (k:=k) (j:=(k:Int)) (by rw [← es];rfl) rfl rfl (by omega) ?_
                 refine Zw (b:=sb) (o:=0+k * 5) rfl ?_
                 refine Z2 (b:=sb) (o:=0+k * 5) (v:=iv ((ds.getD k Dc.z).d)) rfl rs (Z1 (l:=ds) (i:=k) (j:=0) (by omega) rfl) ?_
                 refine Zf (v:=.slice sa n cap) rfl ?_
                 refine Zf (v:=iv (i:Int)) rfl ?_
                 refine Zy (b:=sb) (o:=0) (k:=i) (j:=(i:Int)) (by rw [← es];rfl) rfl rfl (by omega) ?_
                 refine Zw (b:=sb) (o:=0+i * 5) rfl ?_
                 refine Z2 (b:=sb) (o:=0+i * 5) (v:=iv ((ds.getD i Dc.z).d)) rfl rs (Z1 (l:=ds) (i:=i) (j:=0) (by omega) rfl) ?_
                 refine Zf (v:=iv days) rfl ?_
                 refine Xm (a:=(ds.getD i Dc.z).d) (b:=days) rfl rfl ⟨by omega,by omega⟩ ?_
                 refine We (a:=(ds.getD k Dc.z).d) (b:=((ds.getD i Dc.z).d) - days) rfl rfl ?_
                 intro t25 g25;cases t25
                 ·have g25:¬ (((ds.getD k Dc.z).d) > (((ds.getD i Dc.z).d) - days)):=of_decide_eq_false g25
                  refine Zf (v:=.bool false) rfl ?_
                  refine ZE rfl ?_
                  refine ZE rfl ?_
                  refine ZE rfl ?_
                  refine ZE rfl ?_
                  refine ZE rfl ?_
                  refine ZE rfl ?_
                  refine ZE rfl ?_
                  refine ZE rfl ?_
                  refine ZE rfl ?_
                  refine ZE rfl ?_
                  refine ZE rfl ?_
                  refine ZW (v:=.bool false) rfl rfl ?_
                  refine ZN (by repeat' first | exact True.intro | exact (fun h=>h) | refine And.intro ?_ ?_ | (intro h;have h:(_:Nat)=_:=h;omega)) ?_
                  refine ZJ ?_
                  first | refine Zj ?_ | skip
                  first | refine Zn ?_ | refine ZD ?_ | refine Zs ?_ | (refine Zo ?_;refine Zn ?_)
                  refine Za (v:=iv (k:Int)) rfl ?_
                  refine Zq (a:=(k:Int)) (b:=1) rfl rfl ⟨by omega,by omega⟩ ?_
                  refine Za (v:=iv ((k:Int)+1)) rfl ?_
                  refine Zb ?_
                  have e3:ws ds tf days (ds.getD i Dc.z).d (k+1)=ws ds tf days (ds.getD i Dc.z).d k:=by show (if _ then _ else _)=_;rw [if_neg (by omega)]
                  exact ⟨k3 - 1,k+1,by omega,⟨by omega,hk,hs,hb,hr⟩,rfl,rfl,rfl,rfl,rfl,rfl,rfl,rfl,rfl,rfl,rfl,rfl,ivq e3.symm,ivq (by omega),trivial⟩
                 ·have g25:((ds.getD k Dc.z).d) > (((ds.getD i Dc.z).d) - days):=of_decide_eq_true g25
                  refine Zf (v:=.bool true) rfl ?_
                  refine ZI rfl (Zf (v:=.slice sa n cap) rfl ?_)
                  refine ZI rfl (Zf (v:=iv (k:Int)) rfl ?_)
                  refine ZI rfl (Zy (b:=sb) (o:=0) (k:=k) (j:=(k:Int)) (by rw [← es];rfl) rfl rfl (by omega) ?_)
                  refine ZI rfl (Zw (b:=sb) (o:=0+k * 5) rfl ?_)
                  refine ZI rfl (Z2 (b:=sb) (o:=0+k * 5) (v:=iv ((ds.getD k Dc.z).d)) rfl rs (Z1 (l:=ds) (i:=k) (j:=0) (by omega) rfl) ?_)
                  refine ZI rfl (Zf (v:=.slice sa n cap) rfl ?_)
                  refine ZI rfl (Zf (v:=iv (i:Int)) rfl ?_)
                  refine ZI rfl (Zy (b:=sb) (o:=0) (k:=i) (j:=(i:Int)) (by rw [← es];rfl) rfl rfl (by omega) ?_)
                  refine ZI rfl (Zw (b:=sb) (o:=0+i * 5) rfl ?_)
                  refine ZI rfl (Z2 (b:=sb) (o:=0+i * 5) (v:=iv ((ds.getD i Dc.z).d)) rfl rs (Z1 (l:=ds) (i:=i) (j:=0) (by omega) rfl) ?_)
                  refine ZI rfl (WI (a:=(ds.getD k Dc.z).d) (b:=(ds.getD i Dc.z).d) rfl rfl ?_)
                  intro t26 g26;cases t26
                  ·have g26:¬ (((ds.getD k Dc.z).d)≤((ds.getD i Dc.z).d)):=of_decide_eq_false g26
                   refine ZW (v:=.bool false) rfl rfl ?_
                   refine ZN (by repeat' first | exact True.intro | exact (fun h=>h) | refine And.intro ?_ ?_ | (intro h;have h:(_:Nat)=_:=h;omega)) ?_
                   refine ZJ ?_
                   first | refine Zj ?_ | skip
                   first | refine Zn ?_ | refine ZD ?_ | refine Zs ?_ | (refine Zo ?_;refine Zn ?_)
                   refine Za (v:=iv (k:Int)) rfl ?_
                   refine Zq (a:=(k:Int)) (b:=1) rfl rfl ⟨by omega,by omega⟩ ?_
                   refine Za (v:=iv ((k:Int)+1)) rfl ?_
                   refine Zb ?_
                   have e3:ws ds tf days (ds.getD i Dc.z).d (k+1)=ws ds tf days (ds.getD i Dc.z).d k:=by show (if _ then _ else _)=_;rw [if_neg (by omega)]
                   exact ⟨k3 - 1,k+1,by omega,⟨by omega,hk,hs,hb,hr⟩,rfl,rfl,rfl,rfl,rfl,rfl,rfl,rfl,rfl,rfl,rfl,rfl,ivq e3.symm,ivq (by omega),trivial⟩
                  ·have g26:((ds.getD k Dc.z).d)≤((ds.getD i Dc.z).d):=of_decide_eq_true g26
                   refine ZW (v:=.bool true) rfl rfl ?_
                   refine ZN (by repeat' first | exact True.intro | exact (fun h=>h) | refine And.intro ?_ ?_ | (intro h;have h:(_:Nat)=_:=h;omega)) ?_
                   refine ZO ?_
                   first | refine Zn ?_ | refine ZD ?_ | refine Zs ?_ | (refine Zo ?_;refine Zn ?_)
                   refine Za (v:=iv (ws ds tf days (ds.getD i Dc.z).d k)) rfl ?_
                   refine Za (v:=.slice (some ⟨rb,0,none⟩) n n) rfl ?_
                   refine Za (v:=iv (k:Int)) rfl ?_
                   refine Z9 (b:=rb) (o:=0) (k:=k) (j:=(k:Int)) rfl rfl rfl (by omega) ?_
                   refine ZM (b:=rb) (o:=0+k * 1) (v:=iv (tf k)) rfl hr.rd (KN (by omega)) ?_
                   refine Zq (a:=(ws ds tf days (ds.getD i Dc.z).d k)) (b:=(tf k)) rfl rfl ⟨by omega,by omega⟩ ?_
                   refine Za (v:=iv ((ws ds tf days (ds.getD i Dc.z).d k)+(tf k))) rfl ?_
                   refine Zb ?_
                   first | refine Zn ?_ | refine ZD ?_ | refine Zs ?_ | (refine Zo ?_;refine Zn ?_)
                   refine Za (v:=iv (k:Int)) rfl ?_
                   refine Zq (a:=(k:Int)) (b:=1) rfl rfl ⟨by omega,by omega⟩ ?_
                   refine Za (v:=iv ((k:Int)+1)) rfl ?_
                   refine Zb ?_
                   have e3:ws ds tf days (ds.getD i Dc.z).d (k+1)=ws ds tf days (ds.getD i Dc.z).d k+tf k:=by show (if _ then _ else _)=_;rw [if_pos ⟨by omega,by omega⟩]
                   exact ⟨k3 - 1,k+1,by omega,⟨by omega,hk,hs,hb,hr⟩,rfl,rfl,rfl,rfl,rfl,rfl,rfl,rfl,rfl,rfl,rfl,rfl,ivq e3.symm,ivq (by omega),trivial⟩
                ·have q24:¬ ((k:Int) < (n:Int)):=of_decide_eq_false q24
                 have ein3:k=n:=by omega
                 rw [ein3]
                 rcases id hs with ⟨_,h0s,_⟩ | ⟨sb,es,rs,_⟩
                 ·omega
                 have ls:=rs.1
                 have lsb2:=fs sb es;have hi:i < n:=by omega
                 have hwb:=(UE (days:=days) (D:=(ds.getD i Dc.z).d) htt).2;rw [hl] at hwb
                 have hw1:fab (prt gHi ds) days limit = -1→YC (prt gHi ds) days (ds.getD i Dc.z).d≤limit:=fun c=>Ua hbd c (by omega)
                 have hw2:¬ fab (prt gHi ds) days limit = -1→YC (prt gHi ds) days (ds.getD i Dc.z).d≤limit∨fab (prt gHi ds) days limit≤(ds.getD i Dc.z).d:=fun c=>Va hbd c (by omega)
                 first | (refine Zz ?_;show wC _ _ _ _ _ _ _ _ _) | skip
                 refine Zc ?_
                 refine Za (v:=iv (ws ds tf days (ds.getD i Dc.z).d n)) rfl ?_
                 refine Za (v:=iv limit) rfl ?_
                 refine Y3 (a:=(ws ds tf days (ds.getD i Dc.z).d n)) (b:=limit) rfl rfl ?_
                 intro t27 g27;cases t27
                 ·have g27:¬ ((ws ds tf days (ds.getD i Dc.z).d n) > limit):=of_decide_eq_false g27
                  refine Za (v:=.bool false) rfl ?_
                  refine Ze rfl ?_
                  refine Ze rfl ?_
                  refine Ze rfl ?_
                  refine Zk rfl ?_
                  refine Zk rfl ?_
                  refine Zk rfl ?_
                  refine Zk rfl ?_
                  refine Zk rfl ?_
                  refine Zk rfl ?_
                  refine Zk rfl ?_
                  refine Ze rfl ?_
                  refine Zd (v:=.bool false) rfl rfl ?_
                  refine Zb ?_
                  refine ZJ ?_
                  first | refine Zj ?_ | skip
                  first | refine Zn ?_ | refine ZD ?_ | refine Zs ?_ | (refine Zo ?_;refine Zn ?_)
                  have hab:abF true ds tf days limit S i=true:=V1
                  rw [hab]
                  refine Za (v:=.bool true) rfl ?_
                  refine Za (v:=.bool true) rfl ?_
                  refine Ze rfl ?_
                  refine Ze rfl ?_
                  refine Ze rfl ?_
                  refine Ze rfl ?_
                  refine Ze rfl ?_
                  refine Ze rfl ?_
                  refine Ze rfl ?_
                  refine Ze rfl ?_
                  refine Zk rfl ?_
                  refine Zk rfl ?_
                  refine Zk rfl ?_
                  refine Ze rfl ?_
                  refine Zd (v:=.bool true) rfl rfl ?_
                  refine Za (v:=.bool true) rfl ?_
                  refine Zb ?_
                  first | refine Zn ?_ | refine ZD ?_ | refine Zs ?_ | (refine Zo ?_;refine Zn ?_)
                  refine Za (v:=iv (i:Int)) rfl ?_
                  refine Zq (a:=(i:Int)) (b:=1) rfl rfl ⟨by omega,by omega⟩ ?_
                  refine Za (v:=iv ((i:Int)+1)) rfl ?_
                  refine Zb ?_
                  have hU:abF true ds tf days limit S (i+1)=true:=by
                   show (abF true ds tf days limit S i || (decide ((ds.getD i Dc.z).d=S) && decide (ws ds tf days (ds.getD i Dc.z).d ds.length > limit)))=_
                   rw [hab,hl]
                   first | rfl | (rw [decide_eq_false (by omega)];rfl) | (rw [decide_eq_true (by omega),decide_eq_true (by omega)];rfl) | (rw [decide_eq_true (by omega),decide_eq_false (by omega)];rfl)
                  exact ⟨ko - 1,i+1,by omega,⟨by omega,hk,hs,hb,hr⟩,rfl,rfl,rfl,rfl,rfl,rfl,rfl,rfl,rfl,rfl,by rw [hU];rfl,ivq (by omega),trivial⟩
                 ·have g27:(ws ds tf days (ds.getD i Dc.z).d n) > limit:=of_decide_eq_true g27
                  refine Za (v:=.bool true) rfl ?_
                  refine Zi rfl (Za (v:=iv e) rfl ?_)
                  refine Zi rfl (YU (a:=e) (b:=0) rfl rfl ?_)
                  intro t28 g28;cases t28
                  ·have g28:¬ (e≠0):=by simpa using g28
                   refine Zi rfl (Za (v:=.bool false) rfl ?_)
                   refine Zi rfl (Za (v:=.slice sa n cap) rfl ?_)
                   refine Zi rfl (Za (v:=iv (i:Int)) rfl ?_)
                   refine Zi rfl (Z9 (b:=sb) (o:=0) (k:=i) (j:=(i:Int)) (by rw [← es];rfl) rfl rfl (by omega) ?_)
                   refine Zi rfl (Zr (b:=sb) (o:=0+i * 5) rfl ?_)
                   refine Zi rfl (ZM (b:=sb) (o:=0+i * 5) (v:=iv ((ds.getD i Dc.z).d)) rfl rs (Z1 (l:=ds) (i:=i) (j:=0) (by omega) rfl) ?_)
                   refine Zi rfl (Za (v:=iv P) rfl ?_)
                   refine Zi rfl (ZZ (a:=(ds.getD i Dc.z).d) (b:=P) rfl rfl ?_)
                   intro t29 g29;cases t29
                   ·have g29:¬ (((ds.getD i Dc.z).d) < P):=of_decide_eq_false g29
                    refine Zi rfl (Zd (v:=.bool false) rfl rfl ?_)
                    refine Zd (v:=.bool false) rfl rfl ?_
                    refine Zb ?_
                    refine ZJ ?_
                    first | refine Zj ?_ | skip
                    first | refine Zn ?_ | refine ZD ?_ | refine Zs ?_ | (refine Zo ?_;refine Zn ?_)
                    have hab:abF true ds tf days limit S i=true:=V1
                    rw [hab]
                    refine Za (v:=.bool true) rfl ?_
                    refine Za (v:=.bool true) rfl ?_
                    refine Ze rfl ?_
                    refine Ze rfl ?_
                    refine Ze rfl ?_
                    refine Ze rfl ?_
                    refine Ze rfl ?_
                    refine Ze rfl ?_
                    refine Ze rfl ?_
                    refine Ze rfl ?_
                    refine Zk rfl ?_
                    refine Zk rfl ?_
                    refine Zk rfl ?_
                    refine Ze rfl ?_
                    refine Zd (v:=.bool true) rfl rfl ?_
                    refine Za (v:=.bool true) rfl ?_
                    refine Zb ?_
                    first | refine Zn ?_ | refine ZD ?_ | refine Zs ?_ | (refine Zo ?_;refine Zn ?_)
                    refine Za (v:=iv (i:Int)) rfl ?_
                    refine Zq (a:=(i:Int)) (b:=1) rfl rfl ⟨by omega,by omega⟩ ?_
                    refine Za (v:=iv ((i:Int)+1)) rfl ?_
                    refine Zb ?_
                    have hU:abF true ds tf days limit S (i+1)=true:=by
                     show (abF true ds tf days limit S i || (decide ((ds.getD i Dc.z).d=S) && decide (ws ds tf days (ds.getD i Dc.z).d ds.length > limit)))=_
                     rw [hab,hl]
                     first | rfl | (rw [decide_eq_false (by omega)];rfl) | (rw [decide_eq_true (by omega),decide_eq_true (by omega)];rfl) | (rw [decide_eq_true (by omega),decide_eq_false (by omega)];rfl)
                    exact ⟨ko - 1,i+1,by omega,⟨by omega,hk,hs,hb,hr⟩,rfl,rfl,rfl,rfl,rfl,rfl,rfl,rfl,rfl,rfl,by rw [hU];rfl,ivq (by omega),trivial⟩
                   ·have g29:((ds.getD i Dc.z).d) < P:=of_decide_eq_true g29
                    refine Zi rfl (Zd (v:=.bool true) rfl rfl ?_)
                    refine Zd (v:=.bool true) rfl rfl ?_
                    refine Zb ?_
                    refine ZO ?_
                    refine Zc ?_
                    refine Za (v:=.bool false) rfl ?_
                    refine Zb ?_
                    exact (show False by omega).elim
                  ·have g28:e≠0:=by simpa using g28
                   omega
               ·have q23:¬ ((i:Int) < (n:Int)):=of_decide_eq_false q23
                have ein2:i=n:=by omega
                rw [ein2]
                have hab:abF true ds tf days limit S n=true:=V1
                rw [hab]
                first | (refine Zz ?_;show wC _ _ _ _ _ _ _ _ _) | skip
                refine Zc ?_
                refine Za (v:=.bool true) rfl ?_
                refine Zd (v:=.bool false) rfl rfl ?_
                refine Zb ?_
                refine ZJ ?_
                first | refine Zj ?_ | skip
                refine Zc ?_
                refine Za (v:=.slice none 0 0) rfl ?_
                refine Zb ?_
                refine Zc ?_
                refine Za (v:=iv 0) rfl ?_
                refine Zb ?_
                refine Zu (fn:=Try.f6) j5 N6 j3 (fun z:Nat × Value=>[(0,.slice sa n cap),(1,iv days),(2,iv limit),(3,.slice ba bn bc),(4,.int .u8 tj),(10,.bool false),(11,iv S),(12,iv P),(13,iv e),(20,z.2),(21,iv (z.1:Int))])
                 (fun k z H'=>z.1+k=n∧Zm H H' []∧Sl H' sa n cap (dcc ds)∧Sl H' ba bn bc (cU us)∧Acc lo H.next 52 H' z.2 z.1 (dcc (oth ds tn z.1))) n (0,.slice none 0 0) ⟨by simp,hk,hs,hb,.inl ⟨rfl,rfl,rfl⟩⟩ ⟨rfl,rfl,rfl,rfl,rfl,rfl,rfl,rfl,rfl,rfl,rfl,trivial⟩ ?_
                rintro k ⟨i,wv⟩ L4 ⟨hik,hk,hs,hb,hacc⟩
                simp only [] at hik hacc
                have mk:=hk.1;have kacc:=Zm.refl L4 []
                refine Zc ?_
                refine Za (v:=iv (i:Int)) rfl ?_
                refine Za (v:=.slice sa n cap) rfl ?_
                refine ZG (m:=n) rfl ?_
                refine Zx (a:=(i:Int)) (b:=(n:Int)) rfl rfl ?_
                refine Zb ?_
                refine And.intro (fun q30=>?_) (fun q30=>?_)
                ·have q30:(i:Int) < (n:Int):=of_decide_eq_true q30
                 have hxi:i < n:=by omega
                 have hi:=hxi
                 rcases id hs with ⟨_,h0s,_⟩ | ⟨sb,es,rs,_⟩
                 ·omega
                 have ls:=rs.1
                 have lsb2:=fs sb es
                 have e4a:=Int.emod_nonneg ((i:Int)+(tn:Int)) (b:=(n:Int)) (by omega);have e4b:=Int.emod_lt_of_pos ((i:Int)+(tn:Int)) (b:=(n:Int)) (by omega);have hmn:(i+tn) % n < n:=Nat.mod_lt _ (by omega)
                 first | refine Zj ?_ | skip
                 first | refine Zn ?_ | refine ZD ?_ | refine Zs ?_ | (refine Zo ?_;refine Zn ?_)
                 refine Za (v:=wv) rfl ?_
                 refine Za (v:=.slice sa n cap) rfl ?_
                 refine Za (v:=iv (i:Int)) rfl ?_
                 refine Za (v:=.int .u8 tj) rfl ?_
                 refine Zd (v:=iv (tn:Int)) rfl (Zag (n:=tn) (j:=tj) (by omega) rfl htn) ?_
                 refine Zq (a:=(i:Int)) (b:=(tn:Int)) rfl rfl ⟨by omega,by omega⟩ ?_
                 refine Za (v:=.slice sa n cap) rfl ?_
                 refine ZG (m:=n) rfl ?_
                 refine Qi (a:=(i:Int)+(tn:Int)) (b:=(n:Int)) rfl rfl (by omega) (by omega) ⟨by omega,by omega⟩ ⟨by omega,by omega⟩ ?_
                 refine Z9 (b:=sb) (o:=0) (k:=(i+tn) % n) (j:=((i:Int)+(tn:Int)) % (n:Int)) (by rw [← es];rfl) rfl (by rw [Int.natCast_emod,Int.natCast_add]) hmn ?_
                 refine ZV (b:=sb) (o:=0+((i+tn) % n) * 5) rfl rs (XC (by omega)) ?_
                 obtain ⟨H15,hH15⟩:∃ H15,L4.new (.cells [iv ((ds.getD ((i+tn) % n) Dc.z).d),iv ((ds.getD ((i+tn) % n) Dc.z).wl),iv ((ds.getD ((i+tn) % n) Dc.z).wh),iv ((ds.getD ((i+tn) % n) Dc.z).cl),iv ((ds.getD ((i+tn) % n) Dc.z).ch)] 52 false)=H15:=⟨_,rfl⟩
                 refine ZU (H':=H15) (k:=.heavy) rfl (by kernel_rfl) ((Yv (v:=.agg (Dc.f (ds.getD ((i+tn) % n) Dc.z)).toArray) VM zx rfl rfl rfl (by decide)).trans (by rw [← hH15];rfl)) (fun b e=>by cases e) ?_
                 obtain ⟨kH15,nH15,c15⟩:=ZP hH15;clear hH15
                 have c15:Cl H15 L4.next [iv ((ds.getD ((i+tn) % n) Dc.z).d),iv ((ds.getD ((i+tn) % n) Dc.z).wl),iv ((ds.getD ((i+tn) % n) Dc.z).wh),iv ((ds.getD ((i+tn) % n) Dc.z).cl),iv ((ds.getD ((i+tn) % n) Dc.z).ch)]:=c15
                 have mH15:=kH15.1
                 have hk:=hk.trans kH15
                 have hs:=kH15.sl0 hs
                 have hb:=kH15.sl0 hb
                 have kacc:=kacc.trans kH15
                 have rs:=kH15.rd rs (by simp)
                 obtain ⟨H16,kdH16,eH16,dH16,aH16,kbH16⟩:=Yu (P:=Try.prog) (lo:=lo) (k:=i) (t1:=22) VM Jh (c15.sl (Nat.le_refl 1)) rfl (by decide) rfl (by rw [WR,Xg]) (by omega) (hacc.keep kacc) (by omega) (by omega)
                 refine ZU (k:=kdH16) rfl (by cases wv<;>kernel_rfl) (eH16 _ _ _ _ _ _ _ rfl rfl) (VF dH16 _) ?_
                 have hk:=kbH16.keep hk (by omega)
                 have hs:=kbH16.sl hs (fun b e=>by have:=fs b e;omega)
                 have hb:=kbH16.sl hb (fun b e=>by have:=fb b e;omega)
                 have mH16:=kbH16.1
                 refine Za (v:=.slice (some ⟨H15.next,0,none⟩) (i+1) (i+1)) rfl ?_
                 refine Zb ?_
                 first | refine Zn ?_ | refine ZD ?_ | refine Zs ?_ | (refine Zo ?_;refine Zn ?_)
                 refine Za (v:=iv (i:Int)) rfl ?_
                 refine Zq (a:=(i:Int)) (b:=1) rfl rfl ⟨by omega,by omega⟩ ?_
                 refine Za (v:=iv ((i:Int)+1)) rfl ?_
                 refine Zb ?_
                 have hacc2:Acc lo H.next 52 H16 (.slice (some ⟨H15.next,0,none⟩) (i+1) (i+1)) (i+1) (dcc (oth ds tn (i+1))):=by rw [K4,V7,hl];exact aH16
                 exact ⟨k - 1,(i+1,_),by omega,⟨by simp only [];omega,hk,hs,hb,hacc2⟩,rfl,rfl,rfl,rfl,rfl,rfl,rfl,rfl,rfl,rfl,ivq (by simp only [];omega),trivial⟩
                ·have q30:¬ ((i:Int) < (n:Int)):=of_decide_eq_false q30
                 have ein4:i=n:=by omega
                 rw [ein4] at hacc;obtain ⟨oa,oc,rfl,hso,_⟩:=hacc.sl;have fso:=hso.old
                 first | (refine Zz ?_;show wC _ _ _ _ _ _ _ _ _) | skip
                 refine Zc ?_
                 refine Za (v:=.slice oa n oc) rfl ?_
                 refine Za (v:=iv days) rfl ?_
                 refine Za (v:=iv limit) rfl ?_
                 have hpp:paT (oth ds tn n) days limit=(S,P,e):=by rw [← hpa,← hl];exact Uc WZ
                 obtain ⟨H17,fH17,kH17⟩:=XP (kn:=kn) (lo:=lo) (H:=L4) hso Xg (by omega) (by omega) (hkn 35) (days:=days) (limit:=limit);rw [hpp] at fH17
                 refine Zl (vs:=[.slice oa n oc,iv days,iv limit]) rfl (Zh fH17) ?_
                 have mH17:=kH17.1
                 have hk:=hk.trans kH17
                 have hs:=kH17.sl0 hs
                 have hb:=kH17.sl0 hb
                 have hso:=kH17.sl0 hso
                 refine Za (v:=.tuple #[iv S,iv P,iv e]) rfl ?_
                 refine Zd (v:=iv S) rfl (by kernel_rfl) ?_
                 refine Zd (v:=iv P) rfl (by kernel_rfl) ?_
                 refine Zd (v:=iv e) rfl (by kernel_rfl) ?_
                 refine Za (v:=iv S) rfl ?_
                 refine Za (v:=iv P) rfl ?_
                 refine Za (v:=iv e) rfl ?_
                 refine Zb ?_
                 refine Zc ?_
                 refine Za (v:=iv S) rfl ?_
                 refine Za (v:=iv S) rfl ?_
                 refine Xe (a:=S) rfl rfl ?_
                 refine Za (v:=.bool true) rfl ?_
                 refine Zi rfl (Za (v:=iv P) rfl ?_)
                 refine Zi rfl (Za (v:=iv P) rfl ?_)
                 refine Zi rfl (Xe (a:=P) rfl rfl ?_)
                 refine Zd (v:=.bool true) rfl rfl ?_
                 refine Za (v:=.bool true) rfl ?_
                 refine Zi rfl (Za (v:=iv e) rfl ?_)
                 refine Zi rfl (Za (v:=iv e) rfl ?_)
                 refine Zi rfl (Xe (a:=e) rfl rfl ?_)
                 refine Zd (v:=.bool true) rfl rfl ?_
                 refine Za (v:=.bool true) rfl ?_
                 obtain ⟨H18,fH18,kH18⟩:=XD (kn:=kn) (lo:=lo) (H:=H17) hkn (by omega)
                 refine Zi rfl (Zl (vs:=[]) rfl (Z8 (hkn 11) fH18) ?_)
                 have mH18:=kH18.1
                 have hk:=hk.trans kH18
                 have hs:=kH18.sl0 hs
                 have hb:=kH18.sl0 hb
                 have hso:=kH18.sl0 hso
                 refine Zd (v:=.bool true) rfl rfl ?_
                 refine Za (v:=.bool true) rfl ?_
                 refine Zb ?_
                 exact And.intro trivial (Exists.intro _ (And.intro rfl rfl))
             ·have g21:e≠0:=by simpa using g21
              omega
           ·have g19:S < (-1):=of_decide_eq_true g19
            refine Zi rfl (Zd (v:=.bool true) rfl rfl ?_)
            refine Zi rfl (Zd (v:=.bool true) rfl rfl ?_)
            refine Zd (v:=.bool true) rfl rfl ?_
            refine Zb ?_
            refine ZO ?_
            refine Zc ?_
            refine Za (v:=.bool false) rfl ?_
            refine Zb ?_
            exact (show False by omega).elim
          ·have g18:S ≥ 0:=of_decide_eq_true g18
           refine Zi rfl (Za (v:=.bool true) rfl ?_)
           refine Zi rfl (Za (v:=iv S) rfl ?_)
           refine Zi rfl (Za (v:=iv P) rfl ?_)
           refine Zi rfl (ZZ (a:=S) (b:=P) rfl rfl ?_)
           intro t31 g31;cases t31
           ·have g31:¬ (S < P):=of_decide_eq_false g31
            refine Zi rfl (Zd (v:=.bool false) rfl rfl ?_)
            refine Zi rfl (Zd (v:=.bool false) rfl rfl ?_)
            refine Zi rfl (Za (v:=.bool false) rfl ?_)
            refine Zi rfl (Za (v:=iv S) rfl ?_)
            refine Zi rfl (ZZ (a:=S) (b:=-1) rfl rfl ?_)
            intro t32 g32;cases t32
            ·have g32:¬ (S < (-1)):=of_decide_eq_false g32
             refine Zi rfl (Zd (v:=.bool false) rfl rfl ?_)
             refine Zi rfl (Zd (v:=.bool false) rfl rfl ?_)
             refine Zd (v:=.bool false) rfl rfl ?_
             refine Zb ?_
             refine ZJ ?_
             first | refine Zj ?_ | skip
             refine Zc ?_
             refine Za (v:=.slice sa n cap) rfl ?_
             refine ZG (m:=n) rfl ?_
             obtain ⟨i3,hi3,hby⟩:=U7
             obtain ⟨H19,hH19⟩:∃ H19,H2.new (.cells (zw (List.replicate n 0)) 3 false)=H19:=⟨_,rfl⟩
             refine ZU (v:=.slice (some ⟨H2.next,0,none⟩) n n) (H':=H19) (k:=.heavy) rfl (by kernel_rfl) ((Xd (m:=n) JP zo3 hi3 hby rfl rfl (by omega)).trans (by rw [hH19])) (fun b e=>by cases e) ?_
             obtain ⟨kH19,nH19,hr⟩:=ZP hH19;clear hH19
             have mH19:=kH19.1
             have hk:=hk.trans kH19
             have hs:=kH19.sl0 hs
             have hb:=kH19.sl0 hb
             obtain ⟨rb,erb⟩:∃ rb,rb=H2.next:=⟨_,rfl⟩
             have hr:Cl H19 rb (cI (tl (fun _=>0) n 0)):=by rw [erb,jX];exact hr
             rw [← erb]
             have hrl:lo≤rb∧H.next≤rb:=by omega
             refine Za (v:=.slice (some ⟨rb,0,none⟩) n n) rfl ?_
             refine Zb ?_
             refine Zc ?_
             refine Za (v:=iv 0) rfl ?_
             refine Zb ?_
             refine Zu (fn:=Try.f6) jN N6 jQ (fun i:Nat=>[(0,.slice sa n cap),(1,iv days),(2,iv limit),(3,.slice ba bn bc),(4,.int .u8 tj),(10,.bool false),(11,iv S),(12,iv P),(13,iv e),(14,.slice (some ⟨rb,0,none⟩) n n),(15,iv (i:Int))])
              (fun k i H'=>i+k=n∧Zm H H' []∧Sl H' sa n cap (dcc ds)∧Sl H' ba bn bc (cU us)∧∃ tf:Nat→Int,(∀ j,j < i→tlo ds j≤tf j∧tf j≤thi ds j)∧Cl H' rb (cI (tl tf n i))) n 0 ⟨by omega,hk,hs,hb,_,fun j hj=>absurd hj (Nat.not_lt_zero j),hr⟩ ⟨rfl,rfl,rfl,rfl,rfl,rfl,rfl,rfl,rfl,rfl,rfl,trivial⟩ ?_
             rintro k i L1 ⟨hik,hk,hs,hb,tf,htf,hr⟩
             have mk:=hk.1
             refine Zc ?_
             refine Za (v:=iv (i:Int)) rfl ?_
             refine Za (v:=.slice sa n cap) rfl ?_
             refine ZG (m:=n) rfl ?_
             refine Zx (a:=(i:Int)) (b:=(n:Int)) rfl rfl ?_
             refine Zb ?_
             refine And.intro (fun q33=>?_) (fun q33=>?_)
             ·have q33:(i:Int) < (n:Int):=of_decide_eq_true q33
              have hxi:i < n:=by omega
              have hi:=hxi
              rcases id hs with ⟨_,h0s,_⟩ | ⟨sb,es,rs,_⟩
              ·omega
              have ls:=rs.1
              have lsb2:=fs sb es
              have hbi:=ZL (z:=Dc.z) hbd (show i < ds.length by omega);obtain ⟨hbt0,hbt1,hbt2⟩:=YW hbi;have hmB:=YI XK hbi;simp only [gHi] at hmB
              rcases id hb with ⟨_,h0y,_⟩ | ⟨yb,ey,ry,_⟩
              ·omega
              have ly:=ry.1
              have lyb2:=fb yb ey
              have e1a:=Int.emod_nonneg (i:Int) (b:=(bn:Int)) (by omega);have e1b:=Int.emod_lt_of_pos (i:Int) (b:=(bn:Int)) (by omega)
              have e2a:=Int.emod_nonneg ((i:Int)+1) (b:=(bn:Int)) (by omega);have e2b:=Int.emod_lt_of_pos ((i:Int)+1) (b:=(bn:Int)) (by omega)
              first | refine Zj ?_ | skip
              first | refine Yj ?_ | refine XI ?_ | refine Wo ?_ | (refine Zo ?_;refine Yj ?_)
              refine Zf (v:=.slice (some ⟨rb,0,none⟩) n n) rfl ?_
              refine Zf (v:=iv (i:Int)) rfl ?_
              refine Zf (v:=.slice sa n cap) rfl ?_
              refine Zf (v:=iv (i:Int)) rfl ?_
              refine Zy (b:=sb) (o:=0) (k:=i) (j:=(i:Int)) (by rw [← es];rfl) rfl rfl hi ?_
              refine Zw (b:=sb) (o:=0+i * 5) rfl ?_
              refine ZT (b:=sb) (o:=0+i * 5+1) rfl rs (YP (l:=ds) (i:=i) (j:=1) (m:=2) (by omega) rfl) ?_
              refine Zf (v:=.slice ba bn bc) rfl ?_
              refine Zf (v:=iv (i:Int)) rfl ?_
              refine Zf (v:=.slice ba bn bc) rfl ?_
              refine X5 (m:=bn) rfl ?_
              refine X7 (a:=(i:Int)) (b:=(bn:Int)) rfl rfl (by omega) (by omega) ⟨by omega,by omega⟩ ⟨by omega,by omega⟩ ?_
              refine Zy (b:=yb) (o:=0) (k:=i % bn) (j:=(i:Int) % (bn:Int)) (by rw [← ey];rfl) rfl (Int.natCast_emod i bn).symm (Nat.mod_lt _ (by omega)) ?_
              have zu1:i % bn < us.length:=by rw [hbl];exact Nat.mod_lt _ (by omega)
              obtain ⟨u1,eu1,hu1⟩:∃ x:Int,((us.getD (i % bn) 0:Nat):Int)=x∧0≤x∧x≤4294967295:=⟨_,rfl,by omega,by have:=hus _ (Yf (z:=0) zu1);omega⟩
              refine Z2 (b:=yb) (o:=0+(i % bn) * 1) (v:=.int .u32 u1) rfl ry (by rw [← eu1];exact Vz zu1) ?_
              obtain ⟨vH20,H20,fH20,bvH20,kH20⟩:=XG (kn:=kn) (lo:=L1.next) (H:=L1) (l:=(ds.getD i Dc.z).wl) (h:=(ds.getD i Dc.z).wh) (j:=u1) hu1 (by omega) (Nat.le_refl _)
              refine Yt (vs:=[.agg #[iv ((ds.getD i Dc.z).wl),iv ((ds.getD i Dc.z).wh)],.int .u32 u1]) rfl rfl (Zh fH20) ?_
              have mH20:=kH20.1
              have hk:=hk.trans kH20
              have hs:=kH20.sl0 hs
              have hb:=kH20.sl0 hb
              have hr:=kH20.cl hr (by simp)
              have rs:=kH20.rd rs (by simp)
              have ry:=kH20.rd ry (by simp)
              refine Zf (v:=.slice sa n cap) rfl ?_
              refine Zf (v:=iv (i:Int)) rfl ?_
              refine Zy (b:=sb) (o:=0) (k:=i) (j:=(i:Int)) (by rw [← es];rfl) rfl rfl hi ?_
              refine Zw (b:=sb) (o:=0+i * 5) rfl ?_
              refine ZT (b:=sb) (o:=0+i * 5+3) rfl rs (YP (l:=ds) (i:=i) (j:=3) (m:=2) (by omega) rfl) ?_
              refine Zf (v:=.slice ba bn bc) rfl ?_
              refine Zf (v:=iv (i:Int)) rfl ?_
              refine Xf (a:=(i:Int)) (b:=1) rfl rfl ⟨by omega,by omega⟩ ?_
              refine Zf (v:=.slice ba bn bc) rfl ?_
              refine X5 (m:=bn) rfl ?_
              refine X7 (a:=(i:Int)+1) (b:=(bn:Int)) rfl rfl (by omega) (by omega) ⟨by omega,by omega⟩ ⟨by omega,by omega⟩ ?_
              refine Zy (b:=yb) (o:=0) (k:=(i+1) % bn) (j:=((i:Int)+1) % (bn:Int)) (by rw [← ey];rfl) rfl (by rw [Int.natCast_emod,Int.natCast_add];rfl) (Nat.mod_lt _ (by omega)) ?_
              have zu2:(i+1) % bn < us.length:=by rw [hbl];exact Nat.mod_lt _ (by omega)
              obtain ⟨u2,eu2,hu2⟩:∃ x:Int,((us.getD ((i+1) % bn) 0:Nat):Int)=x∧0≤x∧x≤4294967295:=⟨_,rfl,by omega,by have:=hus _ (Yf (z:=0) zu2);omega⟩
              refine Z2 (b:=yb) (o:=0+((i+1) % bn) * 1) (v:=.int .u32 u2) rfl ry (by rw [← eu2];exact Vz zu2) ?_
              obtain ⟨vH21,H21,fH21,bvH21,kH21⟩:=XG (kn:=kn) (lo:=lo) (H:=H20) (l:=(ds.getD i Dc.z).cl) (h:=(ds.getD i Dc.z).ch) (j:=u2) hu2 (by omega) (by omega)
              refine Y0 (vs:=[.agg #[iv ((ds.getD i Dc.z).cl),iv ((ds.getD i Dc.z).ch)],.int .u32 u2]) rfl (Zh fH21) ?_
              have mH21:=kH21.1
              have hk:=hk.trans kH21
              have hs:=kH21.sl0 hs
              have hb:=kH21.sl0 hb
              have hr:=kH21.cl hr (by simp)
              have rs:=kH21.rd rs (by simp)
              have ry:=kH21.rd ry (by simp)
              have htv:tlo ds i≤vH20 * vH21∧vH20 * vH21≤thi ds i:=Qs (a:=vH20) (b:=vH21) hbt1.1 bvH20.1 bvH20.2 hbt2.1 bvH21.1 bvH21.2;have htw:=Y9 (x:=vH20) (y:=vH21) (X:=1073741824) (Y:=100000) (by omega) (by omega) (by omega) (by omega)
              refine Wn (a:=vH20) (b:=vH21) rfl rfl ⟨by omega,by omega⟩ ?_
              refine Zy (b:=rb) (o:=0) (k:=i) (j:=(i:Int)) rfl rfl rfl (by omega) ?_
              refine UU (b:=rb) (o:=0+i * 1) rfl rfl hr (by omega) rfl rfl (by rw [Vs,Uq];omega) ?_
              intro H22 kH22 nH22 sH22
              have mH22:=kH22.1;rw [U9,Qk] at sH22;have hr:=sH22
              have hs:=kH22.sl hs (fun b e=>by have:=fs b e;simp;omega);have hb:=kH22.sl hb (fun b e=>by have:=fb b e;simp;omega)
              have hk:=hk.new kH22 (fun b hb=>.inr (by simp at hb;omega))
              refine ZN (by repeat' first | exact True.intro | exact (fun h=>h) | refine And.intro ?_ ?_ | (intro h;have h:(_:Nat)=_:=h;omega)) ?_
              first | refine Zn ?_ | refine ZD ?_ | refine Zs ?_ | (refine Zo ?_;refine Zn ?_)
              refine Za (v:=iv (i:Int)) rfl ?_
              refine Zq (a:=(i:Int)) (b:=1) rfl rfl ⟨by omega,by omega⟩ ?_
              refine Za (v:=iv ((i:Int)+1)) rfl ?_
              refine Zb ?_
              exact ⟨k - 1,i+1,by omega,⟨by omega,hk,hs,hb,_,fun j hj=>by by_cases c:j=i;rw [if_pos c,c];exact htv;rw [if_neg c];exact htf j (by omega),hr⟩,rfl,rfl,rfl,rfl,rfl,rfl,rfl,rfl,rfl,rfl,ivq (by omega),trivial⟩
             ·have q33:¬ ((i:Int) < (n:Int)):=of_decide_eq_false q33
              have ein:i=n:=by omega
              rw [ein] at htf hr
              have htt:∀ j,j < ds.length→tlo ds j≤tf j∧tf j≤thi ds j:=fun j hj=>htf j (by omega)
              have hti:∀ j,j < n→0≤tf j∧tf j≤107374182400000:=fun j hj=>(by have a:=YI Uu (ZL (z:=Dc.z) hbd (show j < ds.length by omega));have b:=YI XK (ZL (z:=Dc.z) hbd (show j < ds.length by omega));have c:=htf j hj;simp only [gLo,gHi] at a b;simp only [tlo,thi] at c;omega)
              first | (refine Zz ?_;show wC _ _ _ _ _ _ _ _ _) | skip
              refine Zc ?_
              refine Za (v:=iv e) rfl ?_
              refine YU (a:=e) (b:=0) rfl rfl ?_
              intro t34 g34;cases t34
              ·have g34:¬ (e≠0):=by simpa using g34
               refine Za (v:=.bool false) rfl ?_
               refine Zi rfl (Za (v:=iv S) rfl ?_)
               refine Zi rfl (ZZ (a:=S) (b:=0) rfl rfl ?_)
               intro t35 g35;cases t35
               ·have g35:¬ (S < 0):=of_decide_eq_false g35
                refine Zd (v:=.bool false) rfl rfl ?_
                refine Za (v:=.bool false) rfl ?_
                refine Zb ?_
                refine Zc ?_
                refine Za (v:=iv 0) rfl ?_
                refine Zb ?_
                refine Zu (fn:=Try.f6) j7 N6 Zat (fun i:Nat=>[(0,.slice sa n cap),(1,iv days),(2,iv limit),(3,.slice ba bn bc),(4,.int .u8 tj),(10,.bool false),(11,iv S),(12,iv P),(13,iv e),(14,.slice (some ⟨rb,0,none⟩) n n),(16,.bool (abF false ds tf days limit S i)),(17,iv (i:Int))])
                 (fun k i H'=>i+k=n∧Zm H H' []∧Sl H' sa n cap (dcc ds)∧Sl H' ba bn bc (cU us)∧Cl H' rb (cI (tl tf n n))) n 0 ⟨by omega,hk,hs,hb,hr⟩ ⟨rfl,rfl,rfl,rfl,rfl,rfl,rfl,rfl,rfl,rfl,rfl,rfl,trivial⟩ ?_
                rintro ko i L2 ⟨hik,hk,hs,hb,hr⟩
                have mk:=hk.1
                refine Zc ?_
                refine Za (v:=iv (i:Int)) rfl ?_
                refine Za (v:=.slice sa n cap) rfl ?_
                refine ZG (m:=n) rfl ?_
                refine Zx (a:=(i:Int)) (b:=(n:Int)) rfl rfl ?_
                refine Zb ?_
                refine And.intro (fun q36=>?_) (fun q36=>?_)
                ·have q36:(i:Int) < (n:Int):=of_decide_eq_true q36
                 have hxi:i < n:=by omega
                 have hi:=hxi
                 rcases id hs with ⟨_,h0s,_⟩ | ⟨sb,es,rs,_⟩
                 ·omega
                 have ls:=rs.1
                 have lsb2:=fs sb es
                 first | refine Zj ?_ | skip
                 refine Zc ?_
                 refine Za (v:=iv 0) rfl ?_
                 refine Zb ?_
                 refine Zc ?_
                 refine Za (v:=iv 0) rfl ?_
                 refine Zb ?_
                 refine Zu (fn:=Try.f6) j6 N6 Zaz (fun k:Nat=>[(0,.slice sa n cap),(1,iv days),(2,iv limit),(3,.slice ba bn bc),(4,.int .u8 tj),(10,.bool false),(11,iv S),(12,iv P),(13,iv e),(14,.slice (some ⟨rb,0,none⟩) n n),(16,.bool (abF false ds tf days limit S i)),(17,iv (i:Int)),(18,iv (ws ds tf days (ds.getD i Dc.z).d k)),(19,iv (k:Int))])
                  (fun z k H'=>k+z=n∧Zm H H' []∧Sl H' sa n cap (dcc ds)∧Sl H' ba bn bc (cU us)∧Cl H' rb (cI (tl tf n n))) n 0 ⟨by omega,hk,hs,hb,hr⟩ ⟨rfl,rfl,rfl,rfl,rfl,rfl,rfl,rfl,rfl,rfl,rfl,rfl,rfl,rfl,trivial⟩ ?_
                 rintro k3 k L3 ⟨hik3,hk,hs,hb,hr⟩
                 have mk:=hk.1;have hwi:=Jc (ds:=ds) (f:=tf) (days:=days) (D:=(ds.getD i Dc.z).d) (m:=107374182400000) (by omega) (k:=k) (fun j hj=>hti j (by omega))
                 refine Zc ?_
                 refine Za (v:=iv (k:Int)) rfl ?_
                 refine Za (v:=.slice sa n cap) rfl ?_
                 refine ZG (m:=n) rfl ?_
                 refine Zx (a:=(k:Int)) (b:=(n:Int)) rfl rfl ?_
                 refine Zb ?_
                 refine And.intro (fun q37=>?_) (fun q37=>?_)
                 ·have q37:(k:Int) < (n:Int):=of_decide_eq_true q37
                  have hxk:k < n:=by omega
                  rcases id hs with ⟨_,h0s,_⟩ | ⟨sb,es,rs,_⟩
                  ·omega
                  have ls:=rs.1
                  have lsb2:=fs sb es
                  have hbk:=ZL (z:=Dc.z) hbd (show k < ds.length by omega);have hbtk:=YW hbk;have hbi:=ZL (z:=Dc.z) hbd (show i < ds.length by omega);have hbti:=YW hbi;have htk:=hti k (by omega)
                  first | refine Zj ?_ | skip
                  refine YO ?_
                  refine Zf (v:=.slice sa n cap) rfl ?_
                  refine Zf (v:=iv (k:Int)) rfl ?_
                  refine Zy (b:=sb) (o:=0) (k:=k) (j:=(k:Int)) (by rw [← es];rfl) rfl rfl (by omega) ?_
                  refine Zw (b:=sb) (o:=0+k * 5) rfl ?_
                  refine Z2 (b:=sb) (o:=0+k * 5) (v:=iv ((ds.getD k Dc.z).d)) rfl rs (Z1 (l:=ds) (i:=k) (j:=0) (by omega) rfl) ?_
                  refine Zf (v:=.slice sa n cap) rfl ?_
                  refine Zf (v:=iv (i:Int)) rfl ?_
                  refine Zy (b:=sb) (o:=0) (k:=i) (j:=(i:Int)) (by rw [← es];rfl) rfl rfl (by omega) ?_
                  refine Zw (b:=sb) (o:=0+i * 5) rfl ?_
                  refine Z2 (b:=sb) (o:=0+i * 5) (v:=iv ((ds.getD i Dc.z).d)) rfl rs (Z1 (l:=ds) (i:=i) (j:=0) (by omega) rfl) ?_
                  refine Zf (v:=iv days) rfl ?_
                  refine Xm (a:=(ds.getD i Dc.z).d) (b:=days) rfl rfl ⟨by omega,by omega⟩ ?_
                  refine We (a:=(ds.getD k Dc.z).d) (b:=((ds.getD i Dc.z).d) - days) rfl rfl ?_
                  intro t38 g38;cases t38
                  ·have g38:¬ (((ds.getD k Dc.z).d) > (((ds.getD i Dc.z).d) - days)):=of_decide_eq_false g38
                   refine Zf (v:=.bool false) rfl ?_
                   refine ZE rfl ?_
                   refine ZE rfl ?_
                   refine ZE rfl ?_
                   refine ZE rfl ?_
                   refine ZE rfl ?_
                   refine ZE rfl ?_
                   refine ZE rfl ?_
                   refine ZE rfl ?_
                   refine ZE rfl ?_
                   refine ZE rfl ?_
                   refine ZE rfl ?_
                   refine ZW (v:=.bool false) rfl rfl ?_
                   refine ZN (by repeat' first | exact True.intro | exact (fun h=>h) | refine And.intro ?_ ?_ | (intro h;have h:(_:Nat)=_:=h;omega)) ?_
                   refine ZJ ?_
                   first | refine Zj ?_ | skip
                   first | refine Zn ?_ | refine ZD ?_ | refine Zs ?_ | (refine Zo ?_;refine Zn ?_)
                   refine Za (v:=iv (k:Int)) rfl ?_
                   refine Zq (a:=(k:Int)) (b:=1) rfl rfl ⟨by omega,by omega⟩ ?_
                   refine Za (v:=iv ((k:Int)+1)) rfl ?_
                   refine Zb ?_
                   have e3:ws ds tf days (ds.getD i Dc.z).d (k+1)=ws ds tf days (ds.getD i Dc.z).d k:=by show (if _ then _ else _)=_;rw [if_neg (by omega)]
                   exact ⟨k3 - 1,k+1,by omega,⟨by omega,hk,hs,hb,hr⟩,rfl,rfl,rfl,rfl,rfl,rfl,rfl,rfl,rfl,rfl,rfl,rfl,ivq e3.symm,ivq (by omega),trivial⟩
                  ·have g38:((ds.getD k Dc.z).d) > (((ds.getD i Dc.z).d) - days):=of_decide_eq_true g38
                   refine Zf (v:=.bool true) rfl ?_
                   refine ZI rfl (Zf (v:=.slice sa n cap) rfl ?_)
                   refine ZI rfl (Zf (v:=iv (k:Int)) rfl ?_)
                   refine ZI rfl (Zy (b:=sb) (o:=0) (k:=k) (j:=(k:Int)) (by rw [← es];rfl) rfl rfl (by omega) ?_)
                   refine ZI rfl (Zw (b:=sb) (o:=0+k * 5) rfl ?_)
                   refine ZI rfl (Z2 (b:=sb) (o:=0+k * 5) (v:=iv ((ds.getD k Dc.z).d)) rfl rs (Z1 (l:=ds) (i:=k) (j:=0) (by omega) rfl) ?_)
                   refine ZI rfl (Zf (v:=.slice sa n cap) rfl ?_)
                   refine ZI rfl (Zf (v:=iv (i:Int)) rfl ?_)
                   refine ZI rfl (Zy (b:=sb) (o:=0) (k:=i) (j:=(i:Int)) (by rw [← es];rfl) rfl rfl (by omega) ?_)
                   refine ZI rfl (Zw (b:=sb) (o:=0+i * 5) rfl ?_)
                   refine ZI rfl (Z2 (b:=sb) (o:=0+i * 5) (v:=iv ((ds.getD i Dc.z).d)) rfl rs (Z1 (l:=ds) (i:=i) (j:=0) (by omega) rfl) ?_)
                   refine ZI rfl (WI (a:=(ds.getD k Dc.z).d) (b:=(ds.getD i Dc.z).d) rfl rfl ?_)
                   intro t39 g39;cases t39
                   ·have g39:¬ (((ds.getD k Dc.z).d)≤((ds.getD i Dc.z).d)):=of_decide_eq_false g39
                    refine ZW (v:=.bool false) rfl rfl ?_
                    refine ZN (by repeat' first | exact True.intro | exact (fun h=>h) | refine And.intro ?_ ?_ | (intro h;have h:(_:Nat)=_:=h;omega)) ?_
                    refine ZJ ?_
                    first | refine Zj ?_ | skip
                    first | refine Zn ?_ | refine ZD ?_ | refine Zs ?_ | (refine Zo ?_;refine Zn ?_)
                    refine Za (v:=iv (k:Int)) rfl ?_
                    refine Zq (a:=(k:Int)) (b:=1) rfl rfl ⟨by omega,by omega⟩ ?_
                    refine Za (v:=iv ((k:Int)+1)) rfl ?_
                    refine Zb ?_
                    have e3:ws ds tf days (ds.getD i Dc.z).d (k+1)=ws ds tf days (ds.getD i Dc.z).d k:=by show (if _ then _ else _)=_;rw [if_neg (by omega)]
                    exact ⟨k3 - 1,k+1,by omega,⟨by omega,hk,hs,hb,hr⟩,rfl,rfl,rfl,rfl,rfl,rfl,rfl,rfl,rfl,rfl,rfl,rfl,ivq e3.symm,ivq (by omega),trivial⟩
                   ·have g39:((ds.getD k Dc.z).d)≤((ds.getD i Dc.z).d):=of_decide_eq_true g39
                    refine ZW (v:=.bool true) rfl rfl ?_
                    refine ZN (by repeat' first | exact True.intro | exact (fun h=>h) | refine And.intro ?_ ?_ | (intro h;have h:(_:Nat)=_:=h;omega)) ?_
                    refine ZO ?_
                    first | refine Zn ?_ | refine ZD ?_ | refine Zs ?_ | (refine Zo ?_;refine Zn ?_)
                    refine Za (v:=iv (ws ds tf days (ds.getD i Dc.z).d k)) rfl ?_
                    refine Za (v:=.slice (some ⟨rb,0,none⟩) n n) rfl ?_
                    refine Za (v:=iv (k:Int)) rfl ?_
                    refine Z9 (b:=rb) (o:=0) (k:=k) (j:=(k:Int)) rfl rfl rfl (by omega) ?_
                    refine ZM (b:=rb) (o:=0+k * 1) (v:=iv (tf k)) rfl hr.rd (KN (by omega)) ?_
                    refine Zq (a:=(ws ds tf days (ds.getD i Dc.z).d k)) (b:=(tf k)) rfl rfl ⟨by omega,by omega⟩ ?_
                    refine Za (v:=iv ((ws ds tf days (ds.getD i Dc.z).d k)+(tf k))) rfl ?_
                    refine Zb ?_
                    first | refine Zn ?_ | refine ZD ?_ | refine Zs ?_ | (refine Zo ?_;refine Zn ?_)
                    refine Za (v:=iv (k:Int)) rfl ?_
                    refine Zq (a:=(k:Int)) (b:=1) rfl rfl ⟨by omega,by omega⟩ ?_
                    refine Za (v:=iv ((k:Int)+1)) rfl ?_
                    refine Zb ?_
                    have e3:ws ds tf days (ds.getD i Dc.z).d (k+1)=ws ds tf days (ds.getD i Dc.z).d k+tf k:=by show (if _ then _ else _)=_;rw [if_pos ⟨by omega,by omega⟩]
                    exact ⟨k3 - 1,k+1,by omega,⟨by omega,hk,hs,hb,hr⟩,rfl,rfl,rfl,rfl,rfl,rfl,rfl,rfl,rfl,rfl,rfl,rfl,ivq e3.symm,ivq (by omega),trivial⟩
                 ·have q37:¬ ((k:Int) < (n:Int)):=of_decide_eq_false q37
                  have ein3:k=n:=by omega
                  rw [ein3]
                  rcases id hs with ⟨_,h0s,_⟩ | ⟨sb,es,rs,_⟩
                  ·omega
                  have ls:=rs.1
                  have lsb2:=fs sb es;have hi:i < n:=by omega
                  have hwb:=(UE (days:=days) (D:=(ds.getD i Dc.z).d) htt).2;rw [hl] at hwb
                  have hw1:fab (prt gHi ds) days limit = -1→YC (prt gHi ds) days (ds.getD i Dc.z).d≤limit:=fun c=>Ua hbd c (by omega)
                  have hw2:¬ fab (prt gHi ds) days limit = -1→YC (prt gHi ds) days (ds.getD i Dc.z).d≤limit∨fab (prt gHi ds) days limit≤(ds.getD i Dc.z).d:=fun c=>Va hbd c (by omega)
                  first | (refine Zz ?_;show wC _ _ _ _ _ _ _ _ _) | skip
                  refine Zc ?_
                  refine Za (v:=iv (ws ds tf days (ds.getD i Dc.z).d n)) rfl ?_
                  refine Za (v:=iv limit) rfl ?_
                  refine Y3 (a:=(ws ds tf days (ds.getD i Dc.z).d n)) (b:=limit) rfl rfl ?_
                  intro t40 g40;cases t40
                  ·have g40:¬ ((ws ds tf days (ds.getD i Dc.z).d n) > limit):=of_decide_eq_false g40
                   refine Za (v:=.bool false) rfl ?_
                   refine Ze rfl ?_
                   refine Ze rfl ?_
                   refine Ze rfl ?_
                   refine Zk rfl ?_
                   refine Zk rfl ?_
                   refine Zk rfl ?_
                   refine Zk rfl ?_
                   refine Zk rfl ?_
                   refine Zk rfl ?_
                   refine Zk rfl ?_
                   refine Ze rfl ?_
                   refine Zd (v:=.bool false) rfl rfl ?_
                   refine Zb ?_
                   refine ZJ ?_
                   first | refine Zj ?_ | skip
                   first | refine Zn ?_ | refine ZD ?_ | refine Zs ?_ | (refine Zo ?_;refine Zn ?_)
                   cases hab:abF false ds tf days limit S i
                   ·refine Za (v:=.bool false) rfl ?_
                    refine Za (v:=.bool false) rfl ?_
                    refine Zi rfl (Za (v:=.slice sa n cap) rfl ?_)
                    refine Zi rfl (Za (v:=iv (i:Int)) rfl ?_)
                    refine Zi rfl (Z9 (b:=sb) (o:=0) (k:=i) (j:=(i:Int)) (by rw [← es];rfl) rfl rfl (by omega) ?_)
                    refine Zi rfl (Zr (b:=sb) (o:=0+i * 5) rfl ?_)
                    refine Zi rfl (ZM (b:=sb) (o:=0+i * 5) (v:=iv ((ds.getD i Dc.z).d)) rfl rs (Z1 (l:=ds) (i:=i) (j:=0) (by omega) rfl) ?_)
                    refine Zi rfl (Za (v:=iv S) rfl ?_)
                    refine Zi rfl (YT (a:=(ds.getD i Dc.z).d) (b:=S) rfl rfl ?_)
                    intro t41 g41;cases t41
                    ·have g41:¬ (((ds.getD i Dc.z).d)=S):=by simpa using g41
                     refine Zi rfl (Za (v:=.bool false) rfl ?_)
                     refine Ze rfl ?_
                     refine Ze rfl ?_
                     refine Ze rfl ?_
                     refine Zi rfl (Zd (v:=.bool false) rfl rfl ?_)
                     refine Zd (v:=.bool false) rfl rfl ?_
                     refine Za (v:=.bool false) rfl ?_
                     refine Zb ?_
                     first | refine Zn ?_ | refine ZD ?_ | refine Zs ?_ | (refine Zo ?_;refine Zn ?_)
                     refine Za (v:=iv (i:Int)) rfl ?_
                     refine Zq (a:=(i:Int)) (b:=1) rfl rfl ⟨by omega,by omega⟩ ?_
                     refine Za (v:=iv ((i:Int)+1)) rfl ?_
                     refine Zb ?_
                     have hU:abF false ds tf days limit S (i+1)=false:=by
                      show (abF false ds tf days limit S i || (decide ((ds.getD i Dc.z).d=S) && decide (ws ds tf days (ds.getD i Dc.z).d ds.length > limit)))=_
                      rw [hab,hl]
                      first | rfl | (rw [decide_eq_false (by omega)];rfl) | (rw [decide_eq_true (by omega),decide_eq_true (by omega)];rfl) | (rw [decide_eq_true (by omega),decide_eq_false (by omega)];rfl)
                     exact ⟨ko - 1,i+1,by omega,⟨by omega,hk,hs,hb,hr⟩,rfl,rfl,rfl,rfl,rfl,rfl,rfl,rfl,rfl,rfl,by rw [hU];rfl,ivq (by omega),trivial⟩
                    ·have g41:((ds.getD i Dc.z).d)=S:=by simpa using g41
                     refine Zi rfl (Za (v:=.bool true) rfl ?_)
                     refine Zi rfl (Za (v:=iv (ws ds tf days (ds.getD i Dc.z).d n)) rfl ?_)
                     refine Zi rfl (Za (v:=iv limit) rfl ?_)
                     refine Zi rfl (Y3 (a:=(ws ds tf days (ds.getD i Dc.z).d n)) (b:=limit) rfl rfl ?_)
                     intro t42 g42;cases t42
                     ·have g42:¬ ((ws ds tf days (ds.getD i Dc.z).d n) > limit):=of_decide_eq_false g42
                      refine Zi rfl (Zd (v:=.bool false) rfl rfl ?_)
                      refine Zd (v:=.bool false) rfl rfl ?_
                      refine Za (v:=.bool false) rfl ?_
                      refine Zb ?_
                      first | refine Zn ?_ | refine ZD ?_ | refine Zs ?_ | (refine Zo ?_;refine Zn ?_)
                      refine Za (v:=iv (i:Int)) rfl ?_
                      refine Zq (a:=(i:Int)) (b:=1) rfl rfl ⟨by omega,by omega⟩ ?_
                      refine Za (v:=iv ((i:Int)+1)) rfl ?_
                      refine Zb ?_
                      have hU:abF false ds tf days limit S (i+1)=false:=by
                       show (abF false ds tf days limit S i || (decide ((ds.getD i Dc.z).d=S) && decide (ws ds tf days (ds.getD i Dc.z).d ds.length > limit)))=_
                       rw [hab,hl]
                       first | rfl | (rw [decide_eq_false (by omega)];rfl) | (rw [decide_eq_true (by omega),decide_eq_true (by omega)];rfl) | (rw [decide_eq_true (by omega),decide_eq_false (by omega)];rfl)
                      exact ⟨ko - 1,i+1,by omega,⟨by omega,hk,hs,hb,hr⟩,rfl,rfl,rfl,rfl,rfl,rfl,rfl,rfl,rfl,rfl,by rw [hU];rfl,ivq (by omega),trivial⟩
                     ·have g42:(ws ds tf days (ds.getD i Dc.z).d n) > limit:=of_decide_eq_true g42
                      omega
                   ·refine Za (v:=.bool true) rfl ?_
                    refine Za (v:=.bool true) rfl ?_
                    refine Ze rfl ?_
                    refine Ze rfl ?_
                    refine Ze rfl ?_
                    refine Ze rfl ?_
                    refine Ze rfl ?_
                    refine Ze rfl ?_
                    refine Ze rfl ?_
                    refine Ze rfl ?_
                    refine Zk rfl ?_
                    refine Zk rfl ?_
                    refine Zk rfl ?_
                    refine Ze rfl ?_
                    refine Zd (v:=.bool true) rfl rfl ?_
                    refine Za (v:=.bool true) rfl ?_
                    refine Zb ?_
                    first | refine Zn ?_ | refine ZD ?_ | refine Zs ?_ | (refine Zo ?_;refine Zn ?_)
                    refine Za (v:=iv (i:Int)) rfl ?_
                    refine Zq (a:=(i:Int)) (b:=1) rfl rfl ⟨by omega,by omega⟩ ?_
                    refine Za (v:=iv ((i:Int)+1)) rfl ?_
                    refine Zb ?_
                    have hU:abF false ds tf days limit S (i+1)=true:=by
                     show (abF false ds tf days limit S i || (decide ((ds.getD i Dc.z).d=S) && decide (ws ds tf days (ds.getD i Dc.z).d ds.length > limit)))=_
                     rw [hab,hl]
                     first | rfl | (rw [decide_eq_false (by omega)];rfl) | (rw [decide_eq_true (by omega),decide_eq_true (by omega)];rfl) | (rw [decide_eq_true (by omega),decide_eq_false (by omega)];rfl)
                    exact ⟨ko - 1,i+1,by omega,⟨by omega,hk,hs,hb,hr⟩,rfl,rfl,rfl,rfl,rfl,rfl,rfl,rfl,rfl,rfl,by rw [hU];rfl,ivq (by omega),trivial⟩
                  ·have g40:(ws ds tf days (ds.getD i Dc.z).d n) > limit:=of_decide_eq_true g40
                   refine Za (v:=.bool true) rfl ?_
                   refine Zi rfl (Za (v:=iv e) rfl ?_)
                   refine Zi rfl (YU (a:=e) (b:=0) rfl rfl ?_)
                   intro t43 g43;cases t43
                   ·have g43:¬ (e≠0):=by simpa using g43
                    refine Zi rfl (Za (v:=.bool false) rfl ?_)
                    refine Zi rfl (Za (v:=.slice sa n cap) rfl ?_)
                    refine Zi rfl (Za (v:=iv (i:Int)) rfl ?_)
                    refine Zi rfl (Z9 (b:=sb) (o:=0) (k:=i) (j:=(i:Int)) (by rw [← es];rfl) rfl rfl (by omega) ?_)
                    refine Zi rfl (Zr (b:=sb) (o:=0+i * 5) rfl ?_)
                    refine Zi rfl (ZM (b:=sb) (o:=0+i * 5) (v:=iv ((ds.getD i Dc.z).d)) rfl rs (Z1 (l:=ds) (i:=i) (j:=0) (by omega) rfl) ?_)
                    refine Zi rfl (Za (v:=iv P) rfl ?_)
                    refine Zi rfl (ZZ (a:=(ds.getD i Dc.z).d) (b:=P) rfl rfl ?_)
                    intro t44 g44;cases t44
                    ·have g44:¬ (((ds.getD i Dc.z).d) < P):=of_decide_eq_false g44
                     refine Zi rfl (Zd (v:=.bool false) rfl rfl ?_)
                     refine Zd (v:=.bool false) rfl rfl ?_
                     refine Zb ?_
                     refine ZJ ?_
                     first | refine Zj ?_ | skip
                     first | refine Zn ?_ | refine ZD ?_ | refine Zs ?_ | (refine Zo ?_;refine Zn ?_)
                     cases hab:abF false ds tf days limit S i
                     ·refine Za (v:=.bool false) rfl ?_
                      refine Za (v:=.bool false) rfl ?_
                      refine Zi rfl (Za (v:=.slice sa n cap) rfl ?_)
                      refine Zi rfl (Za (v:=iv (i:Int)) rfl ?_)
                      refine Zi rfl (Z9 (b:=sb) (o:=0) (k:=i) (j:=(i:Int)) (by rw [← es];rfl) rfl rfl (by omega) ?_)
                      refine Zi rfl (Zr (b:=sb) (o:=0+i * 5) rfl ?_)
                      refine Zi rfl (ZM (b:=sb) (o:=0+i * 5) (v:=iv ((ds.getD i Dc.z).d)) rfl rs (Z1 (l:=ds) (i:=i) (j:=0) (by omega) rfl) ?_)
                      refine Zi rfl (Za (v:=iv S) rfl ?_)
                      refine Zi rfl (YT (a:=(ds.getD i Dc.z).d) (b:=S) rfl rfl ?_)
                      intro t45 g45;cases t45
                      ·have g45:¬ (((ds.getD i Dc.z).d)=S):=by simpa using g45
                       refine Zi rfl (Za (v:=.bool false) rfl ?_)
                       refine Ze rfl ?_
                       refine Ze rfl ?_
                       refine Ze rfl ?_
                       refine Zi rfl (Zd (v:=.bool false) rfl rfl ?_)
                       refine Zd (v:=.bool false) rfl rfl ?_
                       refine Za (v:=.bool false) rfl ?_
                       refine Zb ?_
                       first | refine Zn ?_ | refine ZD ?_ | refine Zs ?_ | (refine Zo ?_;refine Zn ?_)
                       refine Za (v:=iv (i:Int)) rfl ?_
                       refine Zq (a:=(i:Int)) (b:=1) rfl rfl ⟨by omega,by omega⟩ ?_
                       refine Za (v:=iv ((i:Int)+1)) rfl ?_
                       refine Zb ?_
                       have hU:abF false ds tf days limit S (i+1)=false:=by
                        show (abF false ds tf days limit S i || (decide ((ds.getD i Dc.z).d=S) && decide (ws ds tf days (ds.getD i Dc.z).d ds.length > limit)))=_
                        rw [hab,hl]
                        first | rfl | (rw [decide_eq_false (by omega)];rfl) | (rw [decide_eq_true (by omega),decide_eq_true (by omega)];rfl) | (rw [decide_eq_true (by omega),decide_eq_false (by omega)];rfl)
                       exact ⟨ko - 1,i+1,by omega,⟨by omega,hk,hs,hb,hr⟩,rfl,rfl,rfl,rfl,rfl,rfl,rfl,rfl,rfl,rfl,by rw [hU];rfl,ivq (by omega),trivial⟩
                      ·have g45:((ds.getD i Dc.z).d)=S:=by simpa using g45
                       refine Zi rfl (Za (v:=.bool true) rfl ?_)
                       refine Zi rfl (Za (v:=iv (ws ds tf days (ds.getD i Dc.z).d n)) rfl ?_)
                       refine Zi rfl (Za (v:=iv limit) rfl ?_)
                       refine Zi rfl (Y3 (a:=(ws ds tf days (ds.getD i Dc.z).d n)) (b:=limit) rfl rfl ?_)
                       intro t46 g46;cases t46
                       ·have g46:¬ ((ws ds tf days (ds.getD i Dc.z).d n) > limit):=of_decide_eq_false g46
                        omega
                       ·have g46:(ws ds tf days (ds.getD i Dc.z).d n) > limit:=of_decide_eq_true g46
                        refine Zi rfl (Zd (v:=.bool true) rfl rfl ?_)
                        refine Zd (v:=.bool true) rfl rfl ?_
                        refine Za (v:=.bool true) rfl ?_
                        refine Zb ?_
                        first | refine Zn ?_ | refine ZD ?_ | refine Zs ?_ | (refine Zo ?_;refine Zn ?_)
                        refine Za (v:=iv (i:Int)) rfl ?_
                        refine Zq (a:=(i:Int)) (b:=1) rfl rfl ⟨by omega,by omega⟩ ?_
                        refine Za (v:=iv ((i:Int)+1)) rfl ?_
                        refine Zb ?_
                        have hU:abF false ds tf days limit S (i+1)=true:=by
                         show (abF false ds tf days limit S i || (decide ((ds.getD i Dc.z).d=S) && decide (ws ds tf days (ds.getD i Dc.z).d ds.length > limit)))=_
                         rw [hab,hl]
                         first | rfl | (rw [decide_eq_false (by omega)];rfl) | (rw [decide_eq_true (by omega),decide_eq_true (by omega)];rfl) | (rw [decide_eq_true (by omega),decide_eq_false (by omega)];rfl)
                        exact ⟨ko - 1,i+1,by omega,⟨by omega,hk,hs,hb,hr⟩,rfl,rfl,rfl,rfl,rfl,rfl,rfl,rfl,rfl,rfl,by rw [hU];rfl,ivq (by omega),trivial⟩
                     ·refine Za (v:=.bool true) rfl ?_
                      refine Za (v:=.bool true) rfl ?_
                      refine Ze rfl ?_
                      refine Ze rfl ?_
                      refine Ze rfl ?_
                      refine Ze rfl ?_
                      refine Ze rfl ?_
                      refine Ze rfl ?_
                      refine Ze rfl ?_
                      refine Ze rfl ?_
                      refine Zk rfl ?_
                      refine Zk rfl ?_
                      refine Zk rfl ?_
                      refine Ze rfl ?_
                      refine Zd (v:=.bool true) rfl rfl ?_
                      refine Za (v:=.bool true) rfl ?_
                      refine Zb ?_
                      first | refine Zn ?_ | refine ZD ?_ | refine Zs ?_ | (refine Zo ?_;refine Zn ?_)
                      refine Za (v:=iv (i:Int)) rfl ?_
                      refine Zq (a:=(i:Int)) (b:=1) rfl rfl ⟨by omega,by omega⟩ ?_
                      refine Za (v:=iv ((i:Int)+1)) rfl ?_
                      refine Zb ?_
                      have hU:abF false ds tf days limit S (i+1)=true:=by
                       show (abF false ds tf days limit S i || (decide ((ds.getD i Dc.z).d=S) && decide (ws ds tf days (ds.getD i Dc.z).d ds.length > limit)))=_
                       rw [hab,hl]
                       first | rfl | (rw [decide_eq_false (by omega)];rfl) | (rw [decide_eq_true (by omega),decide_eq_true (by omega)];rfl) | (rw [decide_eq_true (by omega),decide_eq_false (by omega)];rfl)
                      exact ⟨ko - 1,i+1,by omega,⟨by omega,hk,hs,hb,hr⟩,rfl,rfl,rfl,rfl,rfl,rfl,rfl,rfl,rfl,rfl,by rw [hU];rfl,ivq (by omega),trivial⟩
                    ·have g44:((ds.getD i Dc.z).d) < P:=of_decide_eq_true g44
                     refine Zi rfl (Zd (v:=.bool true) rfl rfl ?_)
                     refine Zd (v:=.bool true) rfl rfl ?_
                     refine Zb ?_
                     refine ZO ?_
                     refine Zc ?_
                     refine Za (v:=.bool false) rfl ?_
                     refine Zb ?_
                     exact (show False by omega).elim
                   ·have g43:e≠0:=by simpa using g43
                    omega
                ·have q36:¬ ((i:Int) < (n:Int)):=of_decide_eq_false q36
                 have ein2:i=n:=by omega
                 rw [ein2]
                 have hab:abF false ds tf days limit S n=true:=by
                  obtain ⟨j,hj,e1,e2⟩:=zz hbd (show ¬ fab (prt gLo ds) days limit = -1 by omega)
                  exact Zbe (j:=j) (by omega) (by omega) (by have:=(UE (days:=days) (D:=(ds.getD j Dc.z).d) htt).1;omega)
                 rw [hab]
                 first | (refine Zz ?_;show wC _ _ _ _ _ _ _ _ _) | skip
                 refine Zc ?_
                 refine Za (v:=.bool true) rfl ?_
                 refine Zd (v:=.bool false) rfl rfl ?_
                 refine Zb ?_
                 refine ZJ ?_
                 first | refine Zj ?_ | skip
                 refine Zc ?_
                 refine Za (v:=.slice none 0 0) rfl ?_
                 refine Zb ?_
                 refine Zc ?_
                 refine Za (v:=iv 0) rfl ?_
                 refine Zb ?_
                 refine Zu (fn:=Try.f6) j5 N6 j3 (fun z:Nat × Value=>[(0,.slice sa n cap),(1,iv days),(2,iv limit),(3,.slice ba bn bc),(4,.int .u8 tj),(10,.bool false),(11,iv S),(12,iv P),(13,iv e),(20,z.2),(21,iv (z.1:Int))])
                  (fun k z H'=>z.1+k=n∧Zm H H' []∧Sl H' sa n cap (dcc ds)∧Sl H' ba bn bc (cU us)∧Acc lo H.next 52 H' z.2 z.1 (dcc (oth ds tn z.1))) n (0,.slice none 0 0) ⟨by simp,hk,hs,hb,.inl ⟨rfl,rfl,rfl⟩⟩ ⟨rfl,rfl,rfl,rfl,rfl,rfl,rfl,rfl,rfl,rfl,rfl,trivial⟩ ?_
                 rintro k ⟨i,wv⟩ L4 ⟨hik,hk,hs,hb,hacc⟩
                 simp only [] at hik hacc
                 have mk:=hk.1;have kacc:=Zm.refl L4 []
                 refine Zc ?_
                 refine Za (v:=iv (i:Int)) rfl ?_
                 refine Za (v:=.slice sa n cap) rfl ?_
                 refine ZG (m:=n) rfl ?_
                 refine Zx (a:=(i:Int)) (b:=(n:Int)) rfl rfl ?_
                 refine Zb ?_
                 refine And.intro (fun q47=>?_) (fun q47=>?_)
                 ·have q47:(i:Int) < (n:Int):=of_decide_eq_true q47
                  have hxi:i < n:=by omega
                  have hi:=hxi
                  rcases id hs with ⟨_,h0s,_⟩ | ⟨sb,es,rs,_⟩
                  ·omega
                  have ls:=rs.1
                  have lsb2:=fs sb es
                  have e4a:=Int.emod_nonneg ((i:Int)+(tn:Int)) (b:=(n:Int)) (by omega);have e4b:=Int.emod_lt_of_pos ((i:Int)+(tn:Int)) (b:=(n:Int)) (by omega);have hmn:(i+tn) % n < n:=Nat.mod_lt _ (by omega)
                  first | refine Zj ?_ | skip
                  first | refine Zn ?_ | refine ZD ?_ | refine Zs ?_ | (refine Zo ?_;refine Zn ?_)
                  refine Za (v:=wv) rfl ?_
                  refine Za (v:=.slice sa n cap) rfl ?_
                  refine Za (v:=iv (i:Int)) rfl ?_
                  refine Za (v:=.int .u8 tj) rfl ?_
                  refine Zd (v:=iv (tn:Int)) rfl (Zag (n:=tn) (j:=tj) (by omega) rfl htn) ?_
                  refine Zq (a:=(i:Int)) (b:=(tn:Int)) rfl rfl ⟨by omega,by omega⟩ ?_
                  refine Za (v:=.slice sa n cap) rfl ?_
                  refine ZG (m:=n) rfl ?_
                  refine Qi (a:=(i:Int)+(tn:Int)) (b:=(n:Int)) rfl rfl (by omega) (by omega) ⟨by omega,by omega⟩ ⟨by omega,by omega⟩ ?_
                  refine Z9 (b:=sb) (o:=0) (k:=(i+tn) % n) (j:=((i:Int)+(tn:Int)) % (n:Int)) (by rw [← es];rfl) rfl (by rw [Int.natCast_emod,Int.natCast_add]) hmn ?_
                  refine ZV (b:=sb) (o:=0+((i+tn) % n) * 5) rfl rs (XC (by omega)) ?_
                  obtain ⟨H23,hH23⟩:∃ H23,L4.new (.cells [iv ((ds.getD ((i+tn) % n) Dc.z).d),iv ((ds.getD ((i+tn) % n) Dc.z).wl),iv ((ds.getD ((i+tn) % n) Dc.z).wh),iv ((ds.getD ((i+tn) % n) Dc.z).cl),iv ((ds.getD ((i+tn) % n) Dc.z).ch)] 52 false)=H23:=⟨_,rfl⟩
                  refine ZU (H':=H23) (k:=.heavy) rfl (by kernel_rfl) ((Yv (v:=.agg (Dc.f (ds.getD ((i+tn) % n) Dc.z)).toArray) VM zx rfl rfl rfl (by decide)).trans (by rw [← hH23];rfl)) (fun b e=>by cases e) ?_
                  obtain ⟨kH23,nH23,c23⟩:=ZP hH23;clear hH23
                  have c23:Cl H23 L4.next [iv ((ds.getD ((i+tn) % n) Dc.z).d),iv ((ds.getD ((i+tn) % n) Dc.z).wl),iv ((ds.getD ((i+tn) % n) Dc.z).wh),iv ((ds.getD ((i+tn) % n) Dc.z).cl),iv ((ds.getD ((i+tn) % n) Dc.z).ch)]:=c23
                  have mH23:=kH23.1
                  have hk:=hk.trans kH23
                  have hs:=kH23.sl0 hs
                  have hb:=kH23.sl0 hb
                  have kacc:=kacc.trans kH23
                  have rs:=kH23.rd rs (by simp)
                  obtain ⟨H24,kdH24,eH24,dH24,aH24,kbH24⟩:=Yu (P:=Try.prog) (lo:=lo) (k:=i) (t1:=22) VM Jh (c23.sl (Nat.le_refl 1)) rfl (by decide) rfl (by rw [WR,Xg]) (by omega) (hacc.keep kacc) (by omega) (by omega)
                  refine ZU (k:=kdH24) rfl (by cases wv<;>kernel_rfl) (eH24 _ _ _ _ _ _ _ rfl rfl) (VF dH24 _) ?_
                  have hk:=kbH24.keep hk (by omega)
                  have hs:=kbH24.sl hs (fun b e=>by have:=fs b e;omega)
                  have hb:=kbH24.sl hb (fun b e=>by have:=fb b e;omega)
                  have mH24:=kbH24.1
                  refine Za (v:=.slice (some ⟨H23.next,0,none⟩) (i+1) (i+1)) rfl ?_
                  refine Zb ?_
                  first | refine Zn ?_ | refine ZD ?_ | refine Zs ?_ | (refine Zo ?_;refine Zn ?_)
                  refine Za (v:=iv (i:Int)) rfl ?_
                  refine Zq (a:=(i:Int)) (b:=1) rfl rfl ⟨by omega,by omega⟩ ?_
                  refine Za (v:=iv ((i:Int)+1)) rfl ?_
                  refine Zb ?_
                  have hacc2:Acc lo H.next 52 H24 (.slice (some ⟨H23.next,0,none⟩) (i+1) (i+1)) (i+1) (dcc (oth ds tn (i+1))):=by rw [K4,V7,hl];exact aH24
                  exact ⟨k - 1,(i+1,_),by omega,⟨by simp only [];omega,hk,hs,hb,hacc2⟩,rfl,rfl,rfl,rfl,rfl,rfl,rfl,rfl,rfl,rfl,ivq (by simp only [];omega),trivial⟩
                 ·have q47:¬ ((i:Int) < (n:Int)):=of_decide_eq_false q47
                  have ein4:i=n:=by omega
                  rw [ein4] at hacc;obtain ⟨oa,oc,rfl,hso,_⟩:=hacc.sl;have fso:=hso.old
                  first | (refine Zz ?_;show wC _ _ _ _ _ _ _ _ _) | skip
                  refine Zc ?_
                  refine Za (v:=.slice oa n oc) rfl ?_
                  refine Za (v:=iv days) rfl ?_
                  refine Za (v:=iv limit) rfl ?_
                  have hpp:paT (oth ds tn n) days limit=(S,P,e):=by rw [← hpa,← hl];exact Uc WZ
                  obtain ⟨H25,fH25,kH25⟩:=XP (kn:=kn) (lo:=lo) (H:=L4) hso Xg (by omega) (by omega) (hkn 35) (days:=days) (limit:=limit);rw [hpp] at fH25
                  refine Zl (vs:=[.slice oa n oc,iv days,iv limit]) rfl (Zh fH25) ?_
                  have mH25:=kH25.1
                  have hk:=hk.trans kH25
                  have hs:=kH25.sl0 hs
                  have hb:=kH25.sl0 hb
                  have hso:=kH25.sl0 hso
                  refine Za (v:=.tuple #[iv S,iv P,iv e]) rfl ?_
                  refine Zd (v:=iv S) rfl (by kernel_rfl) ?_
                  refine Zd (v:=iv P) rfl (by kernel_rfl) ?_
                  refine Zd (v:=iv e) rfl (by kernel_rfl) ?_
                  refine Za (v:=iv S) rfl ?_
                  refine Za (v:=iv P) rfl ?_
                  refine Za (v:=iv e) rfl ?_
                  refine Zb ?_
                  refine Zc ?_
                  refine Za (v:=iv S) rfl ?_
                  refine Za (v:=iv S) rfl ?_
                  refine Xe (a:=S) rfl rfl ?_
                  refine Za (v:=.bool true) rfl ?_
                  refine Zi rfl (Za (v:=iv P) rfl ?_)
                  refine Zi rfl (Za (v:=iv P) rfl ?_)
                  refine Zi rfl (Xe (a:=P) rfl rfl ?_)
                  refine Zd (v:=.bool true) rfl rfl ?_
                  refine Za (v:=.bool true) rfl ?_
                  refine Zi rfl (Za (v:=iv e) rfl ?_)
                  refine Zi rfl (Za (v:=iv e) rfl ?_)
                  refine Zi rfl (Xe (a:=e) rfl rfl ?_)
                  refine Zd (v:=.bool true) rfl rfl ?_
                  refine Za (v:=.bool true) rfl ?_
                  obtain ⟨H26,fH26,kH26⟩:=XD (kn:=kn) (lo:=lo) (H:=H25) hkn (by omega)
                  refine Zi rfl (Zl (vs:=[]) rfl (Z8 (hkn 11) fH26) ?_)
                  have mH26:=kH26.1
                  have hk:=hk.trans kH26
                  have hs:=kH26.sl0 hs
                  have hb:=kH26.sl0 hb
                  have hso:=kH26.sl0 hso
                  refine Zd (v:=.bool true) rfl rfl ?_
                  refine Za (v:=.bool true) rfl ?_
                  refine Zb ?_
                  exact And.intro trivial (Exists.intro _ (And.intro rfl rfl))
               ·have g35:S < 0:=of_decide_eq_true g35
                omega
              ·have g34:e≠0:=by simpa using g34
               omega
            ·have g32:S < (-1):=of_decide_eq_true g32
             refine Zi rfl (Zd (v:=.bool true) rfl rfl ?_)
             refine Zi rfl (Zd (v:=.bool true) rfl rfl ?_)
             refine Zd (v:=.bool true) rfl rfl ?_
             refine Zb ?_
             refine ZO ?_
             refine Zc ?_
             refine Za (v:=.bool false) rfl ?_
             refine Zb ?_
             exact (show False by omega).elim
           ·have g31:S < P:=of_decide_eq_true g31
            refine Zi rfl (Zd (v:=.bool true) rfl rfl ?_)
            refine Zi rfl (Zd (v:=.bool true) rfl rfl ?_)
            refine Zi rfl (Za (v:=.bool true) rfl ?_)
            refine Ze rfl ?_
            refine Ze rfl ?_
            refine Zi rfl (Zd (v:=.bool true) rfl rfl ?_)
            refine Zi rfl (Zd (v:=.bool true) rfl rfl ?_)
            refine Zd (v:=.bool true) rfl rfl ?_
            refine Zb ?_
            refine ZO ?_
            refine Zc ?_
            refine Za (v:=.bool false) rfl ?_
            refine Zb ?_
            exact (show False by omega).elim
         ·have g17:P < 0:=of_decide_eq_true g17
          refine Zi rfl (Za (v:=.bool true) rfl ?_)
          refine Ze rfl ?_
          refine Ze rfl ?_
          refine Ze rfl ?_
          refine Zk rfl ?_
          refine Zk rfl ?_
          refine Zk rfl ?_
          refine Ze rfl ?_
          refine Zi rfl (Zd (v:=.bool true) rfl rfl ?_)
          refine Zi rfl (Za (v:=.bool true) rfl ?_)
          refine Ze rfl ?_
          refine Ze rfl ?_
          refine Zi rfl (Zd (v:=.bool true) rfl rfl ?_)
          refine Zi rfl (Zd (v:=.bool true) rfl rfl ?_)
          refine Zd (v:=.bool true) rfl rfl ?_
          refine Zb ?_
          refine ZO ?_
          refine Zc ?_
          refine Za (v:=.bool false) rfl ?_
          refine Zb ?_
          exact (show False by omega).elim
       ·have g6:limit < 0:=of_decide_eq_true g6
        refine Zd (v:=.bool true) rfl rfl ?_
        refine Za (v:=.bool true) rfl ?_
        refine Ze rfl ?_
        refine Ze rfl ?_
        refine Ze rfl ?_
        refine Zk rfl ?_
        refine Zk rfl ?_
        refine Zk rfl ?_
        refine Zk rfl ?_
        refine Zk rfl ?_
        refine Zk rfl ?_
        refine Zk rfl ?_
        refine Zk rfl ?_
        refine Zk rfl ?_
        refine Zk rfl ?_
        refine Zk rfl ?_
        refine Zk rfl ?_
        refine Zk rfl ?_
        refine Zk rfl ?_
        refine Zk rfl ?_
        refine Ze rfl ?_
        refine Zd (v:=.bool true) rfl rfl ?_
        refine Zb ?_
        refine ZO ?_
        refine Zc ?_
        refine Za (v:=.bool false) rfl ?_
        refine Zb ?_
        exact (show False by omega).elim
      ·have g5:days > 366:=of_decide_eq_true g5
       refine Zd (v:=.bool true) rfl rfl ?_
       refine Za (v:=.bool true) rfl ?_
       refine Ze rfl ?_
       refine Ze rfl ?_
       refine Zd (v:=.bool true) rfl rfl ?_
       refine Za (v:=.bool true) rfl ?_
       refine Ze rfl ?_
       refine Ze rfl ?_
       refine Ze rfl ?_
       refine Zk rfl ?_
       refine Zk rfl ?_
       refine Zk rfl ?_
       refine Zk rfl ?_
       refine Zk rfl ?_
       refine Zk rfl ?_
       refine Zk rfl ?_
       refine Zk rfl ?_
       refine Zk rfl ?_
       refine Zk rfl ?_
       refine Zk rfl ?_
       refine Zk rfl ?_
       refine Zk rfl ?_
       refine Zk rfl ?_
       refine Zk rfl ?_
       refine Ze rfl ?_
       refine Zd (v:=.bool true) rfl rfl ?_
       refine Zb ?_
       refine ZO ?_
       refine Zc ?_
       refine Za (v:=.bool false) rfl ?_
       refine Zb ?_
       exact (show False by omega).elim
     ·have g4:days < 1:=of_decide_eq_true g4
      refine Zd (v:=.bool true) rfl rfl ?_
      refine Za (v:=.bool true) rfl ?_
      refine Ze rfl ?_
      refine Ze rfl ?_
      refine Zd (v:=.bool true) rfl rfl ?_
      refine Za (v:=.bool true) rfl ?_
      refine Ze rfl ?_
      refine Ze rfl ?_
      refine Zd (v:=.bool true) rfl rfl ?_
      refine Za (v:=.bool true) rfl ?_
      refine Ze rfl ?_
      refine Ze rfl ?_
      refine Ze rfl ?_
      refine Zk rfl ?_
      refine Zk rfl ?_
      refine Zk rfl ?_
      refine Zk rfl ?_
      refine Zk rfl ?_
      refine Zk rfl ?_
      refine Zk rfl ?_
      refine Zk rfl ?_
      refine Zk rfl ?_
      refine Zk rfl ?_
      refine Zk rfl ?_
      refine Zk rfl ?_
      refine Zk rfl ?_
      refine Zk rfl ?_
      refine Zk rfl ?_
      refine Ze rfl ?_
      refine Zd (v:=.bool true) rfl rfl ?_
      refine Zb ?_
      refine ZO ?_
      refine Zc ?_
      refine Za (v:=.bool false) rfl ?_
      refine Zb ?_
      exact (show False by omega).elim
   ·have g3:e≠0:=by simpa using g3
    refine Za (v:=.bool true) rfl ?_
    refine Zi rfl (Za (v:=iv e) rfl ?_)
    refine Zi rfl (YU (a:=e) (b:=4) rfl rfl ?_)
    intro t48 g48;cases t48
    ·have g48:¬ (e≠4):=by simpa using g48
     refine Zd (v:=.bool false) rfl rfl ?_
     refine Zb ?_
     refine ZJ ?_
     first | refine Zj ?_ | skip
     refine Zc ?_
     refine Za (v:=.slice sa n cap) rfl ?_
     refine ZH rfl (jl hs hl (by omega) (by omega)) ?_
     intro tH27 H27 hH27 kH27
     have mH27:=kH27.1
     have hk:=hk.trans kH27
     have hs:=kH27.sl0 hs
     have hb:=kH27.sl0 hb
     cases tH27
     ·have hvd:vD ds=false:=hH27
      have hE2:=hE.resolve_left (by rw [hvd];decide)
      refine Zd (v:=.bool true) rfl rfl ?_
      refine Za (v:=.bool true) rfl ?_
      refine Ze rfl ?_
      refine Ze rfl ?_
      refine Zd (v:=.bool true) rfl rfl ?_
      refine Za (v:=.bool true) rfl ?_
      refine Ze rfl ?_
      refine Ze rfl ?_
      refine Zd (v:=.bool true) rfl rfl ?_
      refine Za (v:=.bool true) rfl ?_
      refine Ze rfl ?_
      refine Ze rfl ?_
      refine Zd (v:=.bool true) rfl rfl ?_
      refine Za (v:=.bool true) rfl ?_
      refine Ze rfl ?_
      refine Ze rfl ?_
      refine Ze rfl ?_
      refine Zk rfl ?_
      refine Zk rfl ?_
      refine Zk rfl ?_
      refine Zk rfl ?_
      refine Zk rfl ?_
      refine Zk rfl ?_
      refine Zk rfl ?_
      refine Zk rfl ?_
      refine Zk rfl ?_
      refine Zk rfl ?_
      refine Zk rfl ?_
      refine Zk rfl ?_
      refine Zk rfl ?_
      refine Zk rfl ?_
      refine Zk rfl ?_
      refine Ze rfl ?_
      refine Zd (v:=.bool true) rfl rfl ?_
      refine Zb ?_
      refine ZO ?_
      refine Zc ?_
      refine Za (v:=.bool false) rfl ?_
      refine Zb ?_
      exact (show False by omega).elim
     ·have hvd:vD ds=true:=hH27
      obtain ⟨hl64,hany⟩:=Za4 hvd
      have hbd:=Vb hany;have hfl:=Q3 (days:=days) (limit:=limit) hbd (q:=gLo);have hfh:=Q3 (days:=days) (limit:=limit) hbd (q:=gHi);have hlh:fab (prt gHi ds) days limit = -1∨fab (prt gLo ds) days limit = -1∨fab (prt gHi ds) days limit≤fab (prt gLo ds) days limit:=(by by_cases c:fab (prt gHi ds) days limit = -1;exact .inl c;exact .inr (yH hbd c))
      refine Zd (v:=.bool false) rfl rfl ?_
      refine Za (v:=.bool false) rfl ?_
      refine Zi rfl (Za (v:=iv days) rfl ?_)
      refine Zi rfl (ZZ (a:=days) (b:=1) rfl rfl ?_)
      intro t49 g49;cases t49
      ·have g49:¬ (days < 1):=of_decide_eq_false g49
       refine Zd (v:=.bool false) rfl rfl ?_
       refine Za (v:=.bool false) rfl ?_
       refine Zi rfl (Za (v:=iv days) rfl ?_)
       refine Zi rfl (Y3 (a:=days) (b:=366) rfl rfl ?_)
       intro t50 g50;cases t50
       ·have g50:¬ (days > 366):=of_decide_eq_false g50
        refine Zd (v:=.bool false) rfl rfl ?_
        refine Za (v:=.bool false) rfl ?_
        refine Zi rfl (Za (v:=iv limit) rfl ?_)
        refine Zi rfl (ZZ (a:=limit) (b:=0) rfl rfl ?_)
        intro t51 g51;cases t51
        ·have g51:¬ (limit < 0):=of_decide_eq_false g51
         refine Zd (v:=.bool false) rfl rfl ?_
         refine Za (v:=.bool false) rfl ?_
         refine Zi rfl (Za (v:=iv e) rfl ?_)
         refine Zi rfl (YT (a:=e) (b:=0) rfl rfl ?_)
         intro t52 g52;cases t52
         ·have g52:¬ (e=0):=by simpa using g52
          refine Zi rfl (Za (v:=.bool false) rfl ?_)
          refine Ze rfl ?_
          refine Ze rfl ?_
          refine Ze rfl ?_
          refine Zk rfl ?_
          refine Zk rfl ?_
          refine Zk rfl ?_
          refine Zk rfl ?_
          refine Zk rfl ?_
          refine Zk rfl ?_
          refine Zk rfl ?_
          refine Ze rfl ?_
          refine Ze rfl ?_
          refine Zk rfl ?_
          refine Zk rfl ?_
          refine Ze rfl ?_
          refine Zi rfl (Zd (v:=.bool false) rfl rfl ?_)
          refine Zd (v:=.bool false) rfl rfl ?_
          refine Zb ?_
          refine ZJ ?_
          first | refine Zj ?_ | skip
          refine Zc ?_
          refine Za (v:=.slice sa n cap) rfl ?_
          refine ZG (m:=n) rfl ?_
          obtain ⟨i3,hi3,hby⟩:=U7
          obtain ⟨H28,hH28⟩:∃ H28,H27.new (.cells (zw (List.replicate n 0)) 3 false)=H28:=⟨_,rfl⟩
          refine ZU (v:=.slice (some ⟨H27.next,0,none⟩) n n) (H':=H28) (k:=.heavy) rfl (by kernel_rfl) ((Xd (m:=n) JP zo3 hi3 hby rfl rfl (by omega)).trans (by rw [hH28])) (fun b e=>by cases e) ?_
          obtain ⟨kH28,nH28,hr⟩:=ZP hH28;clear hH28
          have mH28:=kH28.1
          have hk:=hk.trans kH28
          have hs:=kH28.sl0 hs
          have hb:=kH28.sl0 hb
          obtain ⟨rb,erb⟩:∃ rb,rb=H27.next:=⟨_,rfl⟩
          have hr:Cl H28 rb (cI (tl (fun _=>0) n 0)):=by rw [erb,jX];exact hr
          rw [← erb]
          have hrl:lo≤rb∧H.next≤rb:=by omega
          refine Za (v:=.slice (some ⟨rb,0,none⟩) n n) rfl ?_
          refine Zb ?_
          refine Zc ?_
          refine Za (v:=iv 0) rfl ?_
          refine Zb ?_
          refine Zu (fn:=Try.f6) jN N6 jQ (fun i:Nat=>[(0,.slice sa n cap),(1,iv days),(2,iv limit),(3,.slice ba bn bc),(4,.int .u8 tj),(10,.bool false),(11,iv S),(12,iv P),(13,iv e),(14,.slice (some ⟨rb,0,none⟩) n n),(15,iv (i:Int))])
           (fun k i H'=>i+k=n∧Zm H H' []∧Sl H' sa n cap (dcc ds)∧Sl H' ba bn bc (cU us)∧∃ tf:Nat→Int,(∀ j,j < i→tlo ds j≤tf j∧tf j≤thi ds j)∧Cl H' rb (cI (tl tf n i))) n 0 ⟨by omega,hk,hs,hb,_,fun j hj=>absurd hj (Nat.not_lt_zero j),hr⟩ ⟨rfl,rfl,rfl,rfl,rfl,rfl,rfl,rfl,rfl,rfl,rfl,trivial⟩ ?_
          rintro k i L1 ⟨hik,hk,hs,hb,tf,htf,hr⟩
          have mk:=hk.1
          refine Zc ?_
          refine Za (v:=iv (i:Int)) rfl ?_
          refine Za (v:=.slice sa n cap) rfl ?_
          refine ZG (m:=n) rfl ?_
          refine Zx (a:=(i:Int)) (b:=(n:Int)) rfl rfl ?_
          refine Zb ?_
          refine And.intro (fun q53=>?_) (fun q53=>?_)
          ·have q53:(i:Int) < (n:Int):=of_decide_eq_true q53
           have hxi:i < n:=by omega
           have hi:=hxi
           rcases id hs with ⟨_,h0s,_⟩ | ⟨sb,es,rs,_⟩
           ·omega
           have ls:=rs.1
           have lsb2:=fs sb es
           have hbi:=ZL (z:=Dc.z) hbd (show i < ds.length by omega);obtain ⟨hbt0,hbt1,hbt2⟩:=YW hbi;have hmB:=YI XK hbi;simp only [gHi] at hmB
           rcases id hb with ⟨_,h0y,_⟩ | ⟨yb,ey,ry,_⟩
           ·omega
           have ly:=ry.1
           have lyb2:=fb yb ey
           have e1a:=Int.emod_nonneg (i:Int) (b:=(bn:Int)) (by omega);have e1b:=Int.emod_lt_of_pos (i:Int) (b:=(bn:Int)) (by omega)
           have e2a:=Int.emod_nonneg ((i:Int)+1) (b:=(bn:Int)) (by omega);have e2b:=Int.emod_lt_of_pos ((i:Int)+1) (b:=(bn:Int)) (by omega)
           first | refine Zj ?_ | skip
           first | refine Yj ?_ | refine XI ?_ | refine Wo ?_ | (refine Zo ?_;refine Yj ?_)
           refine Zf (v:=.slice (some ⟨rb,0,none⟩) n n) rfl ?_
           refine Zf (v:=iv (i:Int)) rfl ?_
           refine Zf (v:=.slice sa n cap) rfl ?_
           refine Zf (v:=iv (i:Int)) rfl ?_
           refine Zy (b:=sb) (o:=0) (k:=i) (j:=(i:Int)) (by rw [← es];rfl) rfl rfl hi ?_
           refine Zw (b:=sb) (o:=0+i * 5) rfl ?_
           refine ZT (b:=sb) (o:=0+i * 5+1) rfl rs (YP (l:=ds) (i:=i) (j:=1) (m:=2) (by omega) rfl) ?_
           refine Zf (v:=.slice ba bn bc) rfl ?_
           refine Zf (v:=iv (i:Int)) rfl ?_
           refine Zf (v:=.slice ba bn bc) rfl ?_
           refine X5 (m:=bn) rfl ?_
           refine X7 (a:=(i:Int)) (b:=(bn:Int)) rfl rfl (by omega) (by omega) ⟨by omega,by omega⟩ ⟨by omega,by omega⟩ ?_
           refine Zy (b:=yb) (o:=0) (k:=i % bn) (j:=(i:Int) % (bn:Int)) (by rw [← ey];rfl) rfl (Int.natCast_emod i bn).symm (Nat.mod_lt _ (by omega)) ?_
           have zu1:i % bn < us.length:=by rw [hbl];exact Nat.mod_lt _ (by omega)
           obtain ⟨u1,eu1,hu1⟩:∃ x:Int,((us.getD (i % bn) 0:Nat):Int)=x∧0≤x∧x≤4294967295:=⟨_,rfl,by omega,by have:=hus _ (Yf (z:=0) zu1);omega⟩
           refine Z2 (b:=yb) (o:=0+(i % bn) * 1) (v:=.int .u32 u1) rfl ry (by rw [← eu1];exact Vz zu1) ?_
           obtain ⟨vH29,H29,fH29,bvH29,kH29⟩:=XG (kn:=kn) (lo:=L1.next) (H:=L1) (l:=(ds.getD i Dc.z).wl) (h:=(ds.getD i Dc.z).wh) (j:=u1) hu1 (by omega) (Nat.le_refl _)
           refine Yt (vs:=[.agg #[iv ((ds.getD i Dc.z).wl),iv ((ds.getD i Dc.z).wh)],.int .u32 u1]) rfl rfl (Zh fH29) ?_
           have mH29:=kH29.1
           have hk:=hk.trans kH29
           have hs:=kH29.sl0 hs
           have hb:=kH29.sl0 hb
           have hr:=kH29.cl hr (by simp)
           have rs:=kH29.rd rs (by simp)
           have ry:=kH29.rd ry (by simp)
           refine Zf (v:=.slice sa n cap) rfl ?_
           refine Zf (v:=iv (i:Int)) rfl ?_
           refine Zy (b:=sb) (o:=0) (k:=i) (j:=(i:Int)) (by rw [← es];rfl) rfl rfl hi ?_
           refine Zw (b:=sb) (o:=0+i * 5) rfl ?_
           refine ZT (b:=sb) (o:=0+i * 5+3) rfl rs (YP (l:=ds) (i:=i) (j:=3) (m:=2) (by omega) rfl) ?_
           refine Zf (v:=.slice ba bn bc) rfl ?_
           refine Zf (v:=iv (i:Int)) rfl ?_
           refine Xf (a:=(i:Int)) (b:=1) rfl rfl ⟨by omega,by omega⟩ ?_
           refine Zf (v:=.slice ba bn bc) rfl ?_
           refine X5 (m:=bn) rfl ?_
           refine X7 (a:=(i:Int)+1) (b:=(bn:Int)) rfl rfl (by omega) (by omega) ⟨by omega,by omega⟩ ⟨by omega,by omega⟩ ?_
           refine Zy (b:=yb) (o:=0) (k:=(i+1) % bn) (j:=((i:Int)+1) % (bn:Int)) (by rw [← ey];rfl) rfl (by rw [Int.natCast_emod,Int.natCast_add];rfl) (Nat.mod_lt _ (by omega)) ?_
           have zu2:(i+1) % bn < us.length:=by rw [hbl];exact Nat.mod_lt _ (by omega)
           obtain ⟨u2,eu2,hu2⟩:∃ x:Int,((us.getD ((i+1) % bn) 0:Nat):Int)=x∧0≤x∧x≤4294967295:=⟨_,rfl,by omega,by have:=hus _ (Yf (z:=0) zu2);omega⟩
           refine Z2 (b:=yb) (o:=0+((i+1) % bn) * 1) (v:=.int .u32 u2) rfl ry (by rw [← eu2];exact Vz zu2) ?_
           obtain ⟨vH30,H30,fH30,bvH30,kH30⟩:=XG (kn:=kn) (lo:=lo) (H:=H29) (l:=(ds.getD i Dc.z).cl) (h:=(ds.getD i Dc.z).ch) (j:=u2) hu2 (by omega) (by omega)
           refine Y0 (vs:=[.agg #[iv ((ds.getD i Dc.z).cl),iv ((ds.getD i Dc.z).ch)],.int .u32 u2]) rfl (Zh fH30) ?_
           have mH30:=kH30.1
           have hk:=hk.trans kH30
           have hs:=kH30.sl0 hs
           have hb:=kH30.sl0 hb
           have hr:=kH30.cl hr (by simp)
           have rs:=kH30.rd rs (by simp)
           have ry:=kH30.rd ry (by simp)
           have htv:tlo ds i≤vH29 * vH30∧vH29 * vH30≤thi ds i:=Qs (a:=vH29) (b:=vH30) hbt1.1 bvH29.1 bvH29.2 hbt2.1 bvH30.1 bvH30.2;have htw:=Y9 (x:=vH29) (y:=vH30) (X:=1073741824) (Y:=100000) (by omega) (by omega) (by omega) (by omega)
           refine Wn (a:=vH29) (b:=vH30) rfl rfl ⟨by omega,by omega⟩ ?_
           refine Zy (b:=rb) (o:=0) (k:=i) (j:=(i:Int)) rfl rfl rfl (by omega) ?_
           refine UU (b:=rb) (o:=0+i * 1) rfl rfl hr (by omega) rfl rfl (by rw [Vs,Uq];omega) ?_
           intro H31 kH31 nH31 sH31
           have mH31:=kH31.1;rw [U9,Qk] at sH31;have hr:=sH31
           have hs:=kH31.sl hs (fun b e=>by have:=fs b e;simp;omega);have hb:=kH31.sl hb (fun b e=>by have:=fb b e;simp;omega)
           have hk:=hk.new kH31 (fun b hb=>.inr (by simp at hb;omega))
           refine ZN (by repeat' first | exact True.intro | exact (fun h=>h) | refine And.intro ?_ ?_ | (intro h;have h:(_:Nat)=_:=h;omega)) ?_
           first | refine Zn ?_ | refine ZD ?_ | refine Zs ?_ | (refine Zo ?_;refine Zn ?_)
           refine Za (v:=iv (i:Int)) rfl ?_
           refine Zq (a:=(i:Int)) (b:=1) rfl rfl ⟨by omega,by omega⟩ ?_
           refine Za (v:=iv ((i:Int)+1)) rfl ?_
           refine Zb ?_
           exact ⟨k - 1,i+1,by omega,⟨by omega,hk,hs,hb,_,fun j hj=>by by_cases c:j=i;rw [if_pos c,c];exact htv;rw [if_neg c];exact htf j (by omega),hr⟩,rfl,rfl,rfl,rfl,rfl,rfl,rfl,rfl,rfl,rfl,ivq (by omega),trivial⟩
          ·have q53:¬ ((i:Int) < (n:Int)):=of_decide_eq_false q53
           have ein:i=n:=by omega
           rw [ein] at htf hr
           have htt:∀ j,j < ds.length→tlo ds j≤tf j∧tf j≤thi ds j:=fun j hj=>htf j (by omega)
           have hti:∀ j,j < n→0≤tf j∧tf j≤107374182400000:=fun j hj=>(by have a:=YI Uu (ZL (z:=Dc.z) hbd (show j < ds.length by omega));have b:=YI XK (ZL (z:=Dc.z) hbd (show j < ds.length by omega));have c:=htf j hj;simp only [gLo,gHi] at a b;simp only [tlo,thi] at c;omega)
           first | (refine Zz ?_;show wC _ _ _ _ _ _ _ _ _) | skip
           refine Zc ?_
           refine Za (v:=iv e) rfl ?_
           refine YU (a:=e) (b:=0) rfl rfl ?_
           intro t54 g54;cases t54
           ·have g54:¬ (e≠0):=by simpa using g54
            omega
           ·have g54:e≠0:=by simpa using g54
            refine Za (v:=.bool true) rfl ?_
            refine Ze rfl ?_
            refine Ze rfl ?_
            refine Zd (v:=.bool true) rfl rfl ?_
            refine Za (v:=.bool true) rfl ?_
            refine Zb ?_
            refine Zc ?_
            refine Za (v:=iv 0) rfl ?_
            refine Zb ?_
            refine Zu (fn:=Try.f6) j7 N6 Zat (fun i:Nat=>[(0,.slice sa n cap),(1,iv days),(2,iv limit),(3,.slice ba bn bc),(4,.int .u8 tj),(10,.bool false),(11,iv S),(12,iv P),(13,iv e),(14,.slice (some ⟨rb,0,none⟩) n n),(16,.bool (abF true ds tf days limit S i)),(17,iv (i:Int))])
             (fun k i H'=>i+k=n∧Zm H H' []∧Sl H' sa n cap (dcc ds)∧Sl H' ba bn bc (cU us)∧Cl H' rb (cI (tl tf n n))) n 0 ⟨by omega,hk,hs,hb,hr⟩ ⟨rfl,rfl,rfl,rfl,rfl,rfl,rfl,rfl,rfl,rfl,rfl,rfl,trivial⟩ ?_
            rintro ko i L2 ⟨hik,hk,hs,hb,hr⟩
            have mk:=hk.1
            refine Zc ?_
            refine Za (v:=iv (i:Int)) rfl ?_
            refine Za (v:=.slice sa n cap) rfl ?_
            refine ZG (m:=n) rfl ?_
            refine Zx (a:=(i:Int)) (b:=(n:Int)) rfl rfl ?_
            refine Zb ?_
            refine And.intro (fun q55=>?_) (fun q55=>?_)
            ·have q55:(i:Int) < (n:Int):=of_decide_eq_true q55
             have hxi:i < n:=by omega
             have hi:=hxi
             rcases id hs with ⟨_,h0s,_⟩ | ⟨sb,es,rs,_⟩
             ·omega
             have ls:=rs.1
             have lsb2:=fs sb es
             first | refine Zj ?_ | skip
             refine Zc ?_
             refine Za (v:=iv 0) rfl ?_
             refine Zb ?_
             refine Zc ?_
             refine Za (v:=iv 0) rfl ?_
             refine Zb ?_
             refine Zu (fn:=Try.f6) j6 N6 Zaz (fun k:Nat=>[(0,.slice sa n cap),(1,iv days),(2,iv limit),(3,.slice ba bn bc),(4,.int .u8 tj),(10,.bool false),(11,iv S),(12,iv P),(13,iv e),(14,.slice (some ⟨rb,0,none⟩) n n),(16,.bool (abF true ds tf days limit S i)),(17,iv (i:Int)),(18,iv (ws ds tf days (ds.getD i Dc.z).d k)),(19,iv (k:Int))])
              (fun z k H'=>k+z=n∧Zm H H' []∧Sl H' sa n cap (dcc ds)∧Sl H' ba bn bc (cU us)∧Cl H' rb (cI (tl tf n n))) n 0 ⟨by omega,hk,hs,hb,hr⟩ ⟨rfl,rfl,rfl,rfl,rfl,rfl,rfl,rfl,rfl,rfl,rfl,rfl,rfl,rfl,trivial⟩ ?_
             rintro k3 k L3 ⟨hik3,hk,hs,hb,hr⟩
             have mk:=hk.1;have hwi:=Jc (ds:=ds) (f:=tf) (days:=days) (D:=(ds.getD i Dc.z).d) (m:=107374182400000) (by omega) (k:=k) (fun j hj=>hti j (by omega))
             refine Zc ?_
             refine Za (v:=iv (k:Int)) rfl ?_
             refine Za (v:=.slice sa n cap) rfl ?_
             refine ZG (m:=n) rfl ?_
             refine Zx (a:=(k:Int)) (b:=(n:Int)) rfl rfl ?_
             refine Zb ?_
             refine And.intro (fun q56=>?_) (fun q56=>?_)
             ·have q56:(k:Int) < (n:Int):=of_decide_eq_true q56
              have hxk:k < n:=by omega
              rcases id hs with ⟨_,h0s,_⟩ | ⟨sb,es,rs,_⟩
              ·omega
              have ls:=rs.1
              have lsb2:=fs sb es
              have hbk:=ZL (z:=Dc.z) hbd (show k < ds.length by omega);have hbtk:=YW hbk;have hbi:=ZL (z:=Dc.z) hbd (show i < ds.length by omega);have hbti:=YW hbi;have htk:=hti k (by omega)
              first | refine Zj ?_ | skip
              refine YO ?_
              refine Zf (v:=.slice sa n cap) rfl ?_
              refine Zf (v:=iv (k:Int)) rfl ?_
              refine Zy (b:=sb) (o:=0) (k:=k) (j:=(k:Int)) (by rw [← es];rfl) rfl rfl (by omega) ?_
              refine Zw (b:=sb) (o:=0+k * 5) rfl ?_
              refine Z2 (b:=sb) (o:=0+k * 5) (v:=iv ((ds.getD k Dc.z).d)) rfl rs (Z1 (l:=ds) (i:=k) (j:=0) (by omega) rfl) ?_
              refine Zf (v:=.slice sa n cap) rfl ?_
              refine Zf (v:=iv (i:Int)) rfl ?_
              refine Zy (b:=sb) (o:=0) (k:=i) (j:=(i:Int)) (by rw [← es];rfl) rfl rfl (by omega) ?_
              refine Zw (b:=sb) (o:=0+i * 5) rfl ?_
              refine Z2 (b:=sb) (o:=0+i * 5) (v:=iv ((ds.getD i Dc.z).d)) rfl rs (Z1 (l:=ds) (i:=i) (j:=0) (by omega) rfl) ?_
              refine Zf (v:=iv days) rfl ?_
              refine Xm (a:=(ds.getD i Dc.z).d) (b:=days) rfl rfl ⟨by omega,by omega⟩ ?_
              refine We (a:=(ds.getD k Dc.z).d) (b:=((ds.getD i Dc.z).d) - days) rfl rfl ?_
              intro t57 g57;cases t57
              ·have g57:¬ (((ds.getD k Dc.z).d) > (((ds.getD i Dc.z).d) - days)):=of_decide_eq_false g57
               refine Zf (v:=.bool false) rfl ?_
               refine ZE rfl ?_
               refine ZE rfl ?_
               refine ZE rfl ?_
               refine ZE rfl ?_
               refine ZE rfl ?_
               refine ZE rfl ?_
               refine ZE rfl ?_
               refine ZE rfl ?_
               refine ZE rfl ?_
               refine ZE rfl ?_
               refine ZE rfl ?_
               refine ZW (v:=.bool false) rfl rfl ?_
               refine ZN (by repeat' first | exact True.intro | exact (fun h=>h) | refine And.intro ?_ ?_ | (intro h;have h:(_:Nat)=_:=h;omega)) ?_
               refine ZJ ?_
               first | refine Zj ?_ | skip
               first | refine Zn ?_ | refine ZD ?_ | refine Zs ?_ | (refine Zo ?_;refine Zn ?_)
               refine Za (v:=iv (k:Int)) rfl ?_
               refine Zq (a:=(k:Int)) (b:=1) rfl rfl ⟨by omega,by omega⟩ ?_
               refine Za (v:=iv ((k:Int)+1)) rfl ?_
               refine Zb ?_
               have e3:ws ds tf days (ds.getD i Dc.z).d (k+1)=ws ds tf days (ds.getD i Dc.z).d k:=by show (if _ then _ else _)=_;rw [if_neg (by omega)]
               exact ⟨k3 - 1,k+1,by omega,⟨by omega,hk,hs,hb,hr⟩,rfl,rfl,rfl,rfl,rfl,rfl,rfl,rfl,rfl,rfl,rfl,rfl,ivq e3.symm,ivq (by omega),trivial⟩
              ·have g57:((ds.getD k Dc.z).d) > (((ds.getD i Dc.z).d) - days):=of_decide_eq_true g57
               refine Zf (v:=.bool true) rfl ?_
               refine ZI rfl (Zf (v:=.slice sa n cap) rfl ?_)
               refine ZI rfl (Zf (v:=iv (k:Int)) rfl ?_)
               refine ZI rfl (Zy (b:=sb) (o:=0) (k:=k) (j:=(k:Int)) (by rw [← es];rfl) rfl rfl (by omega) ?_)
               refine ZI rfl (Zw (b:=sb) (o:=0+k * 5) rfl ?_)
               refine ZI rfl (Z2 (b:=sb) (o:=0+k * 5) (v:=iv ((ds.getD k Dc.z).d)) rfl rs (Z1 (l:=ds) (i:=k) (j:=0) (by omega) rfl) ?_)
               refine ZI rfl (Zf (v:=.slice sa n cap) rfl ?_)
               refine ZI rfl (Zf (v:=iv (i:Int)) rfl ?_)
               refine ZI rfl (Zy (b:=sb) (o:=0) (k:=i) (j:=(i:Int)) (by rw [← es];rfl) rfl rfl (by omega) ?_)
               refine ZI rfl (Zw (b:=sb) (o:=0+i * 5) rfl ?_)
               refine ZI rfl (Z2 (b:=sb) (o:=0+i * 5) (v:=iv ((ds.getD i Dc.z).d)) rfl rs (Z1 (l:=ds) (i:=i) (j:=0) (by omega) rfl) ?_)
               refine ZI rfl (WI (a:=(ds.getD k Dc.z).d) (b:=(ds.getD i Dc.z).d) rfl rfl ?_)
               intro t58 g58;cases t58
               ·have g58:¬ (((ds.getD k Dc.z).d)≤((ds.getD i Dc.z).d)):=of_decide_eq_false g58
                refine ZW (v:=.bool false) rfl rfl ?_
                refine ZN (by repeat' first | exact True.intro | exact (fun h=>h) | refine And.intro ?_ ?_ | (intro h;have h:(_:Nat)=_:=h;omega)) ?_
                refine ZJ ?_
                first | refine Zj ?_ | skip
                first | refine Zn ?_ | refine ZD ?_ | refine Zs ?_ | (refine Zo ?_;refine Zn ?_)
                refine Za (v:=iv (k:Int)) rfl ?_
                refine Zq (a:=(k:Int)) (b:=1) rfl rfl ⟨by omega,by omega⟩ ?_
                refine Za (v:=iv ((k:Int)+1)) rfl ?_
                refine Zb ?_
                have e3:ws ds tf days (ds.getD i Dc.z).d (k+1)=ws ds tf days (ds.getD i Dc.z).d k:=by show (if _ then _ else _)=_;rw [if_neg (by omega)]
                exact ⟨k3 - 1,k+1,by omega,⟨by omega,hk,hs,hb,hr⟩,rfl,rfl,rfl,rfl,rfl,rfl,rfl,rfl,rfl,rfl,rfl,rfl,ivq e3.symm,ivq (by omega),trivial⟩
               ·have g58:((ds.getD k Dc.z).d)≤((ds.getD i Dc.z).d):=of_decide_eq_true g58
                refine ZW (v:=.bool true) rfl rfl ?_
                refine ZN (by repeat' first | exact True.intro | exact (fun h=>h) | refine And.intro ?_ ?_ | (intro h;have h:(_:Nat)=_:=h;omega)) ?_
                refine ZO ?_
                first | refine Zn ?_ | refine ZD ?_ | refine Zs ?_ | (refine Zo ?_;refine Zn ?_)
                refine Za (v:=iv (ws ds tf days (ds.getD i Dc.z).d k)) rfl ?_
                refine Za (v:=.slice (some ⟨rb,0,none⟩) n n) rfl ?_
                refine Za (v:=iv (k:Int)) rfl ?_
                refine Z9 (b:=rb) (o:=0) (k:=k) (j:=(k:Int)) rfl rfl rfl (by omega) ?_
                refine ZM (b:=rb) (o:=0+k * 1) (v:=iv (tf k)) rfl hr.rd (KN (by omega)) ?_
                refine Zq (a:=(ws ds tf days (ds.getD i Dc.z).d k)) (b:=(tf k)) rfl rfl ⟨by omega,by omega⟩ ?_
                refine Za (v:=iv ((ws ds tf days (ds.getD i Dc.z).d k)+(tf k))) rfl ?_
                refine Zb ?_
                first | refine Zn ?_ | refine ZD ?_ | refine Zs ?_ | (refine Zo ?_;refine Zn ?_)
                refine Za (v:=iv (k:Int)) rfl ?_
                refine Zq (a:=(k:Int)) (b:=1) rfl rfl ⟨by omega,by omega⟩ ?_
                refine Za (v:=iv ((k:Int)+1)) rfl ?_
                refine Zb ?_
                have e3:ws ds tf days (ds.getD i Dc.z).d (k+1)=ws ds tf days (ds.getD i Dc.z).d k+tf k:=by show (if _ then _ else _)=_;rw [if_pos ⟨by omega,by omega⟩]
                exact ⟨k3 - 1,k+1,by omega,⟨by omega,hk,hs,hb,hr⟩,rfl,rfl,rfl,rfl,rfl,rfl,rfl,rfl,rfl,rfl,rfl,rfl,ivq e3.symm,ivq (by omega),trivial⟩
             ·have q56:¬ ((k:Int) < (n:Int)):=of_decide_eq_false q56
              have ein3:k=n:=by omega
              rw [ein3]
              rcases id hs with ⟨_,h0s,_⟩ | ⟨sb,es,rs,_⟩
              ·omega
              have ls:=rs.1
              have lsb2:=fs sb es;have hi:i < n:=by omega
              have hwb:=(UE (days:=days) (D:=(ds.getD i Dc.z).d) htt).2;rw [hl] at hwb
              have hw1:fab (prt gHi ds) days limit = -1→YC (prt gHi ds) days (ds.getD i Dc.z).d≤limit:=fun c=>Ua hbd c (by omega)
              have hw2:¬ fab (prt gHi ds) days limit = -1→YC (prt gHi ds) days (ds.getD i Dc.z).d≤limit∨fab (prt gHi ds) days limit≤(ds.getD i Dc.z).d:=fun c=>Va hbd c (by omega)
              first | (refine Zz ?_;show wC _ _ _ _ _ _ _ _ _) | skip
              refine Zc ?_
              refine Za (v:=iv (ws ds tf days (ds.getD i Dc.z).d n)) rfl ?_
              refine Za (v:=iv limit) rfl ?_
              refine Y3 (a:=(ws ds tf days (ds.getD i Dc.z).d n)) (b:=limit) rfl rfl ?_
              intro t59 g59;cases t59
              ·have g59:¬ ((ws ds tf days (ds.getD i Dc.z).d n) > limit):=of_decide_eq_false g59
               refine Za (v:=.bool false) rfl ?_
               refine Ze rfl ?_
               refine Ze rfl ?_
               refine Ze rfl ?_
               refine Zk rfl ?_
               refine Zk rfl ?_
               refine Zk rfl ?_
               refine Zk rfl ?_
               refine Zk rfl ?_
               refine Zk rfl ?_
               refine Zk rfl ?_
               refine Ze rfl ?_
               refine Zd (v:=.bool false) rfl rfl ?_
               refine Zb ?_
               refine ZJ ?_
               first | refine Zj ?_ | skip
               first | refine Zn ?_ | refine ZD ?_ | refine Zs ?_ | (refine Zo ?_;refine Zn ?_)
               have hab:abF true ds tf days limit S i=true:=V1
               rw [hab]
               refine Za (v:=.bool true) rfl ?_
               refine Za (v:=.bool true) rfl ?_
               refine Ze rfl ?_
               refine Ze rfl ?_
               refine Ze rfl ?_
               refine Ze rfl ?_
               refine Ze rfl ?_
               refine Ze rfl ?_
               refine Ze rfl ?_
               refine Ze rfl ?_
               refine Zk rfl ?_
               refine Zk rfl ?_
               refine Zk rfl ?_
               refine Ze rfl ?_
               refine Zd (v:=.bool true) rfl rfl ?_
               refine Za (v:=.bool true) rfl ?_
               refine Zb ?_
               first | refine Zn ?_ | refine ZD ?_ | refine Zs ?_ | (refine Zo ?_;refine Zn ?_)
               refine Za (v:=iv (i:Int)) rfl ?_
               refine Zq (a:=(i:Int)) (b:=1) rfl rfl ⟨by omega,by omega⟩ ?_
               refine Za (v:=iv ((i:Int)+1)) rfl ?_
               refine Zb ?_
               have hU:abF true ds tf days limit S (i+1)=true:=by
                show (abF true ds tf days limit S i || (decide ((ds.getD i Dc.z).d=S) && decide (ws ds tf days (ds.getD i Dc.z).d ds.length > limit)))=_
                rw [hab,hl]
                first | rfl | (rw [decide_eq_false (by omega)];rfl) | (rw [decide_eq_true (by omega),decide_eq_true (by omega)];rfl) | (rw [decide_eq_true (by omega),decide_eq_false (by omega)];rfl)
               exact ⟨ko - 1,i+1,by omega,⟨by omega,hk,hs,hb,hr⟩,rfl,rfl,rfl,rfl,rfl,rfl,rfl,rfl,rfl,rfl,by rw [hU];rfl,ivq (by omega),trivial⟩
              ·have g59:(ws ds tf days (ds.getD i Dc.z).d n) > limit:=of_decide_eq_true g59
               refine Za (v:=.bool true) rfl ?_
               refine Zi rfl (Za (v:=iv e) rfl ?_)
               refine Zi rfl (YU (a:=e) (b:=0) rfl rfl ?_)
               intro t60 g60;cases t60
               ·have g60:¬ (e≠0):=by simpa using g60
                omega
               ·have g60:e≠0:=by simpa using g60
                refine Zi rfl (Za (v:=.bool true) rfl ?_)
                refine Ze rfl ?_
                refine Ze rfl ?_
                refine Ze rfl ?_
                refine Ze rfl ?_
                refine Ze rfl ?_
                refine Ze rfl ?_
                refine Ze rfl ?_
                refine Zi rfl (Zd (v:=.bool true) rfl rfl ?_)
                refine Zd (v:=.bool true) rfl rfl ?_
                refine Zb ?_
                refine ZO ?_
                refine Zc ?_
                refine Za (v:=.bool false) rfl ?_
                refine Zb ?_
                exact (show False by omega).elim
            ·have q55:¬ ((i:Int) < (n:Int)):=of_decide_eq_false q55
             have ein2:i=n:=by omega
             rw [ein2]
             have hab:abF true ds tf days limit S n=true:=V1
             rw [hab]
             first | (refine Zz ?_;show wC _ _ _ _ _ _ _ _ _) | skip
             refine Zc ?_
             refine Za (v:=.bool true) rfl ?_
             refine Zd (v:=.bool false) rfl rfl ?_
             refine Zb ?_
             refine ZJ ?_
             first | refine Zj ?_ | skip
             refine Zc ?_
             refine Za (v:=.slice none 0 0) rfl ?_
             refine Zb ?_
             refine Zc ?_
             refine Za (v:=iv 0) rfl ?_
             refine Zb ?_
             refine Zu (fn:=Try.f6) j5 N6 j3 (fun z:Nat × Value=>[(0,.slice sa n cap),(1,iv days),(2,iv limit),(3,.slice ba bn bc),(4,.int .u8 tj),(10,.bool false),(11,iv S),(12,iv P),(13,iv e),(20,z.2),(21,iv (z.1:Int))])
              (fun k z H'=>z.1+k=n∧Zm H H' []∧Sl H' sa n cap (dcc ds)∧Sl H' ba bn bc (cU us)∧Acc lo H.next 52 H' z.2 z.1 (dcc (oth ds tn z.1))) n (0,.slice none 0 0) ⟨by simp,hk,hs,hb,.inl ⟨rfl,rfl,rfl⟩⟩ ⟨rfl,rfl,rfl,rfl,rfl,rfl,rfl,rfl,rfl,rfl,rfl,trivial⟩ ?_
             rintro k ⟨i,wv⟩ L4 ⟨hik,hk,hs,hb,hacc⟩
             simp only [] at hik hacc
             have mk:=hk.1;have kacc:=Zm.refl L4 []
             refine Zc ?_
             refine Za (v:=iv (i:Int)) rfl ?_
             refine Za (v:=.slice sa n cap) rfl ?_
             refine ZG (m:=n) rfl ?_
             refine Zx (a:=(i:Int)) (b:=(n:Int)) rfl rfl ?_
             refine Zb ?_
             refine And.intro (fun q61=>?_) (fun q61=>?_)
             ·have q61:(i:Int) < (n:Int):=of_decide_eq_true q61
              have hxi:i < n:=by omega
              have hi:=hxi
              rcases id hs with ⟨_,h0s,_⟩ | ⟨sb,es,rs,_⟩
              ·omega
              have ls:=rs.1
              have lsb2:=fs sb es
              have e4a:=Int.emod_nonneg ((i:Int)+(tn:Int)) (b:=(n:Int)) (by omega);have e4b:=Int.emod_lt_of_pos ((i:Int)+(tn:Int)) (b:=(n:Int)) (by omega);have hmn:(i+tn) % n < n:=Nat.mod_lt _ (by omega)
              first | refine Zj ?_ | skip
              first | refine Zn ?_ | refine ZD ?_ | refine Zs ?_ | (refine Zo ?_;refine Zn ?_)
              refine Za (v:=wv) rfl ?_
              refine Za (v:=.slice sa n cap) rfl ?_
              refine Za (v:=iv (i:Int)) rfl ?_
              refine Za (v:=.int .u8 tj) rfl ?_
              refine Zd (v:=iv (tn:Int)) rfl (Zag (n:=tn) (j:=tj) (by omega) rfl htn) ?_
              refine Zq (a:=(i:Int)) (b:=(tn:Int)) rfl rfl ⟨by omega,by omega⟩ ?_
              refine Za (v:=.slice sa n cap) rfl ?_
              refine ZG (m:=n) rfl ?_
              refine Qi (a:=(i:Int)+(tn:Int)) (b:=(n:Int)) rfl rfl (by omega) (by omega) ⟨by omega,by omega⟩ ⟨by omega,by omega⟩ ?_
              refine Z9 (b:=sb) (o:=0) (k:=(i+tn) % n) (j:=((i:Int)+(tn:Int)) % (n:Int)) (by rw [← es];rfl) rfl (by rw [Int.natCast_emod,Int.natCast_add]) hmn ?_
              refine ZV (b:=sb) (o:=0+((i+tn) % n) * 5) rfl rs (XC (by omega)) ?_
              obtain ⟨H32,hH32⟩:∃ H32,L4.new (.cells [iv ((ds.getD ((i+tn) % n) Dc.z).d),iv ((ds.getD ((i+tn) % n) Dc.z).wl),iv ((ds.getD ((i+tn) % n) Dc.z).wh),iv ((ds.getD ((i+tn) % n) Dc.z).cl),iv ((ds.getD ((i+tn) % n) Dc.z).ch)] 52 false)=H32:=⟨_,rfl⟩
              refine ZU (H':=H32) (k:=.heavy) rfl (by kernel_rfl) ((Yv (v:=.agg (Dc.f (ds.getD ((i+tn) % n) Dc.z)).toArray) VM zx rfl rfl rfl (by decide)).trans (by rw [← hH32];rfl)) (fun b e=>by cases e) ?_
              obtain ⟨kH32,nH32,c32⟩:=ZP hH32;clear hH32
              have c32:Cl H32 L4.next [iv ((ds.getD ((i+tn) % n) Dc.z).d),iv ((ds.getD ((i+tn) % n) Dc.z).wl),iv ((ds.getD ((i+tn) % n) Dc.z).wh),iv ((ds.getD ((i+tn) % n) Dc.z).cl),iv ((ds.getD ((i+tn) % n) Dc.z).ch)]:=c32
              have mH32:=kH32.1
              have hk:=hk.trans kH32
              have hs:=kH32.sl0 hs
              have hb:=kH32.sl0 hb
              have kacc:=kacc.trans kH32
              have rs:=kH32.rd rs (by simp)
              obtain ⟨H33,kdH33,eH33,dH33,aH33,kbH33⟩:=Yu (P:=Try.prog) (lo:=lo) (k:=i) (t1:=22) VM Jh (c32.sl (Nat.le_refl 1)) rfl (by decide) rfl (by rw [WR,Xg]) (by omega) (hacc.keep kacc) (by omega) (by omega)
              refine ZU (k:=kdH33) rfl (by cases wv<;>kernel_rfl) (eH33 _ _ _ _ _ _ _ rfl rfl) (VF dH33 _) ?_
              have hk:=kbH33.keep hk (by omega)
              have hs:=kbH33.sl hs (fun b e=>by have:=fs b e;omega)
              have hb:=kbH33.sl hb (fun b e=>by have:=fb b e;omega)
              have mH33:=kbH33.1
              refine Za (v:=.slice (some ⟨H32.next,0,none⟩) (i+1) (i+1)) rfl ?_
              refine Zb ?_
              first | refine Zn ?_ | refine ZD ?_ | refine Zs ?_ | (refine Zo ?_;refine Zn ?_)
              refine Za (v:=iv (i:Int)) rfl ?_
              refine Zq (a:=(i:Int)) (b:=1) rfl rfl ⟨by omega,by omega⟩ ?_
              refine Za (v:=iv ((i:Int)+1)) rfl ?_
              refine Zb ?_
              have hacc2:Acc lo H.next 52 H33 (.slice (some ⟨H32.next,0,none⟩) (i+1) (i+1)) (i+1) (dcc (oth ds tn (i+1))):=by rw [K4,V7,hl];exact aH33
              exact ⟨k - 1,(i+1,_),by omega,⟨by simp only [];omega,hk,hs,hb,hacc2⟩,rfl,rfl,rfl,rfl,rfl,rfl,rfl,rfl,rfl,rfl,ivq (by simp only [];omega),trivial⟩
             ·have q61:¬ ((i:Int) < (n:Int)):=of_decide_eq_false q61
              have ein4:i=n:=by omega
              rw [ein4] at hacc;obtain ⟨oa,oc,rfl,hso,_⟩:=hacc.sl;have fso:=hso.old
              first | (refine Zz ?_;show wC _ _ _ _ _ _ _ _ _) | skip
              refine Zc ?_
              refine Za (v:=.slice oa n oc) rfl ?_
              refine Za (v:=iv days) rfl ?_
              refine Za (v:=iv limit) rfl ?_
              have hpp:paT (oth ds tn n) days limit=(S,P,e):=by rw [← hpa,← hl];exact Uc WZ
              obtain ⟨H34,fH34,kH34⟩:=XP (kn:=kn) (lo:=lo) (H:=L4) hso Xg (by omega) (by omega) (hkn 35) (days:=days) (limit:=limit);rw [hpp] at fH34
              refine Zl (vs:=[.slice oa n oc,iv days,iv limit]) rfl (Zh fH34) ?_
              have mH34:=kH34.1
              have hk:=hk.trans kH34
              have hs:=kH34.sl0 hs
              have hb:=kH34.sl0 hb
              have hso:=kH34.sl0 hso
              refine Za (v:=.tuple #[iv S,iv P,iv e]) rfl ?_
              refine Zd (v:=iv S) rfl (by kernel_rfl) ?_
              refine Zd (v:=iv P) rfl (by kernel_rfl) ?_
              refine Zd (v:=iv e) rfl (by kernel_rfl) ?_
              refine Za (v:=iv S) rfl ?_
              refine Za (v:=iv P) rfl ?_
              refine Za (v:=iv e) rfl ?_
              refine Zb ?_
              refine Zc ?_
              refine Za (v:=iv S) rfl ?_
              refine Za (v:=iv S) rfl ?_
              refine Xe (a:=S) rfl rfl ?_
              refine Za (v:=.bool true) rfl ?_
              refine Zi rfl (Za (v:=iv P) rfl ?_)
              refine Zi rfl (Za (v:=iv P) rfl ?_)
              refine Zi rfl (Xe (a:=P) rfl rfl ?_)
              refine Zd (v:=.bool true) rfl rfl ?_
              refine Za (v:=.bool true) rfl ?_
              refine Zi rfl (Za (v:=iv e) rfl ?_)
              refine Zi rfl (Za (v:=iv e) rfl ?_)
              refine Zi rfl (Xe (a:=e) rfl rfl ?_)
              refine Zd (v:=.bool true) rfl rfl ?_
              refine Za (v:=.bool true) rfl ?_
              obtain ⟨H35,fH35,kH35⟩:=XD (kn:=kn) (lo:=lo) (H:=H34) hkn (by omega)
              refine Zi rfl (Zl (vs:=[]) rfl (Z8 (hkn 11) fH35) ?_)
              have mH35:=kH35.1
              have hk:=hk.trans kH35
              have hs:=kH35.sl0 hs
              have hb:=kH35.sl0 hb
              have hso:=kH35.sl0 hso
              refine Zd (v:=.bool true) rfl rfl ?_
              refine Za (v:=.bool true) rfl ?_
              refine Zb ?_
              exact And.intro trivial (Exists.intro _ (And.intro rfl rfl))
         ·have g52:e=0:=by simpa using g52
          refine Zi rfl (Za (v:=.bool true) rfl ?_)
          refine Zi rfl (Za (v:=iv P) rfl ?_)
          refine Zi rfl (ZZ (a:=P) (b:=0) rfl rfl ?_)
          intro t62 g62;cases t62
          ·have g62:¬ (P < 0):=of_decide_eq_false g62
           refine Zi rfl (Za (v:=.bool false) rfl ?_)
           refine Zi rfl (Za (v:=iv S) rfl ?_)
           refine Zi rfl (U5 (a:=S) (b:=0) rfl rfl ?_)
           intro t63 g63;cases t63
           ·have g63:¬ (S ≥ 0):=of_decide_eq_false g63
            refine Zi rfl (Za (v:=.bool false) rfl ?_)
            refine Ze rfl ?_
            refine Ze rfl ?_
            refine Ze rfl ?_
            refine Zi rfl (Zd (v:=.bool false) rfl rfl ?_)
            refine Zi rfl (Zd (v:=.bool false) rfl rfl ?_)
            refine Zi rfl (Za (v:=.bool false) rfl ?_)
            refine Zi rfl (Za (v:=iv S) rfl ?_)
            refine Zi rfl (ZZ (a:=S) (b:=-1) rfl rfl ?_)
            intro t64 g64;cases t64
            ·have g64:¬ (S < (-1)):=of_decide_eq_false g64
             refine Zi rfl (Zd (v:=.bool false) rfl rfl ?_)
             refine Zi rfl (Zd (v:=.bool false) rfl rfl ?_)
             refine Zd (v:=.bool false) rfl rfl ?_
             refine Zb ?_
             refine ZJ ?_
             first | refine Zj ?_ | skip
             refine Zc ?_
             refine Za (v:=.slice sa n cap) rfl ?_
             refine ZG (m:=n) rfl ?_
             obtain ⟨i3,hi3,hby⟩:=U7
             obtain ⟨H36,hH36⟩:∃ H36,H27.new (.cells (zw (List.replicate n 0)) 3 false)=H36:=⟨_,rfl⟩
             refine ZU (v:=.slice (some ⟨H27.next,0,none⟩) n n) (H':=H36) (k:=.heavy) rfl (by kernel_rfl) ((Xd (m:=n) JP zo3 hi3 hby rfl rfl (by omega)).trans (by rw [hH36])) (fun b e=>by cases e) ?_
             obtain ⟨kH36,nH36,hr⟩:=ZP hH36;clear hH36
             have mH36:=kH36.1
             have hk:=hk.trans kH36
             have hs:=kH36.sl0 hs
             have hb:=kH36.sl0 hb
             obtain ⟨rb,erb⟩:∃ rb,rb=H27.next:=⟨_,rfl⟩
             have hr:Cl H36 rb (cI (tl (fun _=>0) n 0)):=by rw [erb,jX];exact hr
             rw [← erb]
             have hrl:lo≤rb∧H.next≤rb:=by omega
             refine Za (v:=.slice (some ⟨rb,0,none⟩) n n) rfl ?_
             refine Zb ?_
             refine Zc ?_
             refine Za (v:=iv 0) rfl ?_
             refine Zb ?_
             refine Zu (fn:=Try.f6) jN N6 jQ (fun i:Nat=>[(0,.slice sa n cap),(1,iv days),(2,iv limit),(3,.slice ba bn bc),(4,.int .u8 tj),(10,.bool false),(11,iv S),(12,iv P),(13,iv e),(14,.slice (some ⟨rb,0,none⟩) n n),(15,iv (i:Int))])
              (fun k i H'=>i+k=n∧Zm H H' []∧Sl H' sa n cap (dcc ds)∧Sl H' ba bn bc (cU us)∧∃ tf:Nat→Int,(∀ j,j < i→tlo ds j≤tf j∧tf j≤thi ds j)∧Cl H' rb (cI (tl tf n i))) n 0 ⟨by omega,hk,hs,hb,_,fun j hj=>absurd hj (Nat.not_lt_zero j),hr⟩ ⟨rfl,rfl,rfl,rfl,rfl,rfl,rfl,rfl,rfl,rfl,rfl,trivial⟩ ?_
             rintro k i L1 ⟨hik,hk,hs,hb,tf,htf,hr⟩
             have mk:=hk.1
             refine Zc ?_
             refine Za (v:=iv (i:Int)) rfl ?_
             refine Za (v:=.slice sa n cap) rfl ?_
             refine ZG (m:=n) rfl ?_
             refine Zx (a:=(i:Int)) (b:=(n:Int)) rfl rfl ?_
             refine Zb ?_
             refine And.intro (fun q65=>?_) (fun q65=>?_)
             ·have q65:(i:Int) < (n:Int):=of_decide_eq_true q65
              have hxi:i < n:=by omega
              have hi:=hxi
              rcases id hs with ⟨_,h0s,_⟩ | ⟨sb,es,rs,_⟩
              ·omega
              have ls:=rs.1
              have lsb2:=fs sb es
              have hbi:=ZL (z:=Dc.z) hbd (show i < ds.length by omega);obtain ⟨hbt0,hbt1,hbt2⟩:=YW hbi;have hmB:=YI XK hbi;simp only [gHi] at hmB
              rcases id hb with ⟨_,h0y,_⟩ | ⟨yb,ey,ry,_⟩
              ·omega
              have ly:=ry.1
              have lyb2:=fb yb ey
              have e1a:=Int.emod_nonneg (i:Int) (b:=(bn:Int)) (by omega);have e1b:=Int.emod_lt_of_pos (i:Int) (b:=(bn:Int)) (by omega)
              have e2a:=Int.emod_nonneg ((i:Int)+1) (b:=(bn:Int)) (by omega);have e2b:=Int.emod_lt_of_pos ((i:Int)+1) (b:=(bn:Int)) (by omega)
              first | refine Zj ?_ | skip
              first | refine Yj ?_ | refine XI ?_ | refine Wo ?_ | (refine Zo ?_;refine Yj ?_)
              refine Zf (v:=.slice (some ⟨rb,0,none⟩) n n) rfl ?_
              refine Zf (v:=iv (i:Int)) rfl ?_
              refine Zf (v:=.slice sa n cap) rfl ?_
              refine Zf (v:=iv (i:Int)) rfl ?_
              refine Zy (b:=sb) (o:=0) (k:=i) (j:=(i:Int)) (by rw [← es];rfl) rfl rfl hi ?_
              refine Zw (b:=sb) (o:=0+i * 5) rfl ?_
              refine ZT (b:=sb) (o:=0+i * 5+1) rfl rs (YP (l:=ds) (i:=i) (j:=1) (m:=2) (by omega) rfl) ?_
              refine Zf (v:=.slice ba bn bc) rfl ?_
              refine Zf (v:=iv (i:Int)) rfl ?_
              refine Zf (v:=.slice ba bn bc) rfl ?_
              refine X5 (m:=bn) rfl ?_
              refine X7 (a:=(i:Int)) (b:=(bn:Int)) rfl rfl (by omega) (by omega) ⟨by omega,by omega⟩ ⟨by omega,by omega⟩ ?_
              refine Zy (b:=yb) (o:=0) (k:=i % bn) (j:=(i:Int) % (bn:Int)) (by rw [← ey];rfl) rfl (Int.natCast_emod i bn).symm (Nat.mod_lt _ (by omega)) ?_
              have zu1:i % bn < us.length:=by rw [hbl];exact Nat.mod_lt _ (by omega)
              obtain ⟨u1,eu1,hu1⟩:∃ x:Int,((us.getD (i % bn) 0:Nat):Int)=x∧0≤x∧x≤4294967295:=⟨_,rfl,by omega,by have:=hus _ (Yf (z:=0) zu1);omega⟩
              refine Z2 (b:=yb) (o:=0+(i % bn) * 1) (v:=.int .u32 u1) rfl ry (by rw [← eu1];exact Vz zu1) ?_
              obtain ⟨vH37,H37,fH37,bvH37,kH37⟩:=XG (kn:=kn) (lo:=L1.next) (H:=L1) (l:=(ds.getD i Dc.z).wl) (h:=(ds.getD i Dc.z).wh) (j:=u1) hu1 (by omega) (Nat.le_refl _)
              refine Yt (vs:=[.agg #[iv ((ds.getD i Dc.z).wl),iv ((ds.getD i Dc.z).wh)],.int .u32 u1]) rfl rfl (Zh fH37) ?_
              have mH37:=kH37.1
              have hk:=hk.trans kH37
              have hs:=kH37.sl0 hs
              have hb:=kH37.sl0 hb
              have hr:=kH37.cl hr (by simp)
              have rs:=kH37.rd rs (by simp)
              have ry:=kH37.rd ry (by simp)
              refine Zf (v:=.slice sa n cap) rfl ?_
              refine Zf (v:=iv (i:Int)) rfl ?_
              refine Zy (b:=sb) (o:=0) (k:=i) (j:=(i:Int)) (by rw [← es];rfl) rfl rfl hi ?_
              refine Zw (b:=sb) (o:=0+i * 5) rfl ?_
              refine ZT (b:=sb) (o:=0+i * 5+3) rfl rs (YP (l:=ds) (i:=i) (j:=3) (m:=2) (by omega) rfl) ?_
              refine Zf (v:=.slice ba bn bc) rfl ?_
              refine Zf (v:=iv (i:Int)) rfl ?_
              refine Xf (a:=(i:Int)) (b:=1) rfl rfl ⟨by omega,by omega⟩ ?_
              refine Zf (v:=.slice ba bn bc) rfl ?_
              refine X5 (m:=bn) rfl ?_
              refine X7 (a:=(i:Int)+1) (b:=(bn:Int)) rfl rfl (by omega) (by omega) ⟨by omega,by omega⟩ ⟨by omega,by omega⟩ ?_
              refine Zy (b:=yb) (o:=0) (k:=(i+1) % bn) (j:=((i:Int)+1) % (bn:Int)) (by rw [← ey];rfl) rfl (by rw [Int.natCast_emod,Int.natCast_add];rfl) (Nat.mod_lt _ (by omega)) ?_
              have zu2:(i+1) % bn < us.length:=by rw [hbl];exact Nat.mod_lt _ (by omega)
              obtain ⟨u2,eu2,hu2⟩:∃ x:Int,((us.getD ((i+1) % bn) 0:Nat):Int)=x∧0≤x∧x≤4294967295:=⟨_,rfl,by omega,by have:=hus _ (Yf (z:=0) zu2);omega⟩
              refine Z2 (b:=yb) (o:=0+((i+1) % bn) * 1) (v:=.int .u32 u2) rfl ry (by rw [← eu2];exact Vz zu2) ?_
              obtain ⟨vH38,H38,fH38,bvH38,kH38⟩:=XG (kn:=kn) (lo:=lo) (H:=H37) (l:=(ds.getD i Dc.z).cl) (h:=(ds.getD i Dc.z).ch) (j:=u2) hu2 (by omega) (by omega)
              refine Y0 (vs:=[.agg #[iv ((ds.getD i Dc.z).cl),iv ((ds.getD i Dc.z).ch)],.int .u32 u2]) rfl (Zh fH38) ?_
              have mH38:=kH38.1
              have hk:=hk.trans kH38
              have hs:=kH38.sl0 hs
              have hb:=kH38.sl0 hb
              have hr:=kH38.cl hr (by simp)
              have rs:=kH38.rd rs (by simp)
              have ry:=kH38.rd ry (by simp)
              have htv:tlo ds i≤vH37 * vH38∧vH37 * vH38≤thi ds i:=Qs (a:=vH37) (b:=vH38) hbt1.1 bvH37.1 bvH37.2 hbt2.1 bvH38.1 bvH38.2;have htw:=Y9 (x:=vH37) (y:=vH38) (X:=1073741824) (Y:=100000) (by omega) (by omega) (by omega) (by omega)
              refine Wn (a:=vH37) (b:=vH38) rfl rfl ⟨by omega,by omega⟩ ?_
              refine Zy (b:=rb) (o:=0) (k:=i) (j:=(i:Int)) rfl rfl rfl (by omega) ?_
              refine UU (b:=rb) (o:=0+i * 1) rfl rfl hr (by omega) rfl rfl (by rw [Vs,Uq];omega) ?_
              intro H39 kH39 nH39 sH39
              have mH39:=kH39.1;rw [U9,Qk] at sH39;have hr:=sH39
              have hs:=kH39.sl hs (fun b e=>by have:=fs b e;simp;omega);have hb:=kH39.sl hb (fun b e=>by have:=fb b e;simp;omega)
              have hk:=hk.new kH39 (fun b hb=>.inr (by simp at hb;omega))
              refine ZN (by repeat' first | exact True.intro | exact (fun h=>h) | refine And.intro ?_ ?_ | (intro h;have h:(_:Nat)=_:=h;omega)) ?_
              first | refine Zn ?_ | refine ZD ?_ | refine Zs ?_ | (refine Zo ?_;refine Zn ?_)
              refine Za (v:=iv (i:Int)) rfl ?_
              refine Zq (a:=(i:Int)) (b:=1) rfl rfl ⟨by omega,by omega⟩ ?_
              refine Za (v:=iv ((i:Int)+1)) rfl ?_
              refine Zb ?_
              exact ⟨k - 1,i+1,by omega,⟨by omega,hk,hs,hb,_,fun j hj=>by by_cases c:j=i;rw [if_pos c,c];exact htv;rw [if_neg c];exact htf j (by omega),hr⟩,rfl,rfl,rfl,rfl,rfl,rfl,rfl,rfl,rfl,rfl,ivq (by omega),trivial⟩
             ·have q65:¬ ((i:Int) < (n:Int)):=of_decide_eq_false q65
              have ein:i=n:=by omega
              rw [ein] at htf hr
              have htt:∀ j,j < ds.length→tlo ds j≤tf j∧tf j≤thi ds j:=fun j hj=>htf j (by omega)
              have hti:∀ j,j < n→0≤tf j∧tf j≤107374182400000:=fun j hj=>(by have a:=YI Uu (ZL (z:=Dc.z) hbd (show j < ds.length by omega));have b:=YI XK (ZL (z:=Dc.z) hbd (show j < ds.length by omega));have c:=htf j hj;simp only [gLo,gHi] at a b;simp only [tlo,thi] at c;omega)
              first | (refine Zz ?_;show wC _ _ _ _ _ _ _ _ _) | skip
              refine Zc ?_
              refine Za (v:=iv e) rfl ?_
              refine YU (a:=e) (b:=0) rfl rfl ?_
              intro t66 g66;cases t66
              ·have g66:¬ (e≠0):=by simpa using g66
               refine Za (v:=.bool false) rfl ?_
               refine Zi rfl (Za (v:=iv S) rfl ?_)
               refine Zi rfl (ZZ (a:=S) (b:=0) rfl rfl ?_)
               intro t67 g67;cases t67
               ·have g67:¬ (S < 0):=of_decide_eq_false g67
                omega
               ·have g67:S < 0:=of_decide_eq_true g67
                refine Zd (v:=.bool true) rfl rfl ?_
                refine Za (v:=.bool true) rfl ?_
                refine Zb ?_
                refine Zc ?_
                refine Za (v:=iv 0) rfl ?_
                refine Zb ?_
                refine Zu (fn:=Try.f6) j7 N6 Zat (fun i:Nat=>[(0,.slice sa n cap),(1,iv days),(2,iv limit),(3,.slice ba bn bc),(4,.int .u8 tj),(10,.bool false),(11,iv S),(12,iv P),(13,iv e),(14,.slice (some ⟨rb,0,none⟩) n n),(16,.bool (abF true ds tf days limit S i)),(17,iv (i:Int))])
                 (fun k i H'=>i+k=n∧Zm H H' []∧Sl H' sa n cap (dcc ds)∧Sl H' ba bn bc (cU us)∧Cl H' rb (cI (tl tf n n))) n 0 ⟨by omega,hk,hs,hb,hr⟩ ⟨rfl,rfl,rfl,rfl,rfl,rfl,rfl,rfl,rfl,rfl,rfl,rfl,trivial⟩ ?_
                rintro ko i L2 ⟨hik,hk,hs,hb,hr⟩
                have mk:=hk.1
                refine Zc ?_
                refine Za (v:=iv (i:Int)) rfl ?_
                refine Za (v:=.slice sa n cap) rfl ?_
                refine ZG (m:=n) rfl ?_
                refine Zx (a:=(i:Int)) (b:=(n:Int)) rfl rfl ?_
                refine Zb ?_
                refine And.intro (fun q68=>?_) (fun q68=>?_)
                ·have q68:(i:Int) < (n:Int):=of_decide_eq_true q68
                 have hxi:i < n:=by omega
                 have hi:=hxi
                 rcases id hs with ⟨_,h0s,_⟩ | ⟨sb,es,rs,_⟩
                 ·omega
                 have ls:=rs.1
                 have lsb2:=fs sb es
                 first | refine Zj ?_ | skip
                 refine Zc ?_
                 refine Za (v:=iv 0) rfl ?_
                 refine Zb ?_
                 refine Zc ?_
                 refine Za (v:=iv 0) rfl ?_
                 refine Zb ?_
                 refine Zu (fn:=Try.f6) j6 N6 Zaz (fun k:Nat=>[(0,.slice sa n cap),(1,iv days),(2,iv limit),(3,.slice ba bn bc),(4,.int .u8 tj),(10,.bool false),(11,iv S),(12,iv P),(13,iv e),(14,.slice (some ⟨rb,0,none⟩) n n),(16,.bool (abF true ds tf days limit S i)),(17,iv (i:Int)),(18,iv (ws ds tf days (ds.getD i Dc.z).d k)),(19,iv (k:Int))])
                  (fun z k H'=>k+z=n∧Zm H H' []∧Sl H' sa n cap (dcc ds)∧Sl H' ba bn bc (cU us)∧Cl H' rb (cI (tl tf n n))) n 0 ⟨by omega,hk,hs,hb,hr⟩ ⟨rfl,rfl,rfl,rfl,rfl,rfl,rfl,rfl,rfl,rfl,rfl,rfl,rfl,rfl,trivial⟩ ?_
                 rintro k3 k L3 ⟨hik3,hk,hs,hb,hr⟩
                 have mk:=hk.1;have hwi:=Jc (ds:=ds) (f:=tf) (days:=days) (D:=(ds.getD i Dc.z).d) (m:=107374182400000) (by omega) (k:=k) (fun j hj=>hti j (by omega))
                 refine Zc ?_
                 refine Za (v:=iv (k:Int)) rfl ?_
                 refine Za (v:=.slice sa n cap) rfl ?_
                 refine ZG (m:=n) rfl ?_
                 refine Zx (a:=(k:Int)) (b:=(n:Int)) rfl rfl ?_
                 refine Zb ?_
                 refine And.intro (fun q69=>?_) (fun q69=>?_)
                 ·have q69:(k:Int) < (n:Int):=of_decide_eq_true q69
                  have hxk:k < n:=by omega
                  rcases id hs with ⟨_,h0s,_⟩ | ⟨sb,es,rs,_⟩
                  ·omega
                  have ls:=rs.1
                  have lsb2:=fs sb es
                  have hbk:=ZL (z:=Dc.z) hbd (show k < ds.length by omega);have hbtk:=YW hbk;have hbi:=ZL (z:=Dc.z) hbd (show i < ds.length by omega);have hbti:=YW hbi;have htk:=hti k (by omega)
                  first | refine Zj ?_ | skip
                  refine YO ?_
                  refine Zf (v:=.slice sa n cap) rfl ?_
                  refine Zf (v:=iv (k:Int)) rfl ?_
                  refine Zy (b:=sb) (o:=0) (k:=k) (j:=(k:Int)) (by rw [← es];rfl) rfl rfl (by omega) ?_
                  refine Zw (b:=sb) (o:=0+k * 5) rfl ?_
                  refine Z2 (b:=sb) (o:=0+k * 5) (v:=iv ((ds.getD k Dc.z).d)) rfl rs (Z1 (l:=ds) (i:=k) (j:=0) (by omega) rfl) ?_
                  refine Zf (v:=.slice sa n cap) rfl ?_
                  refine Zf (v:=iv (i:Int)) rfl ?_
                  refine Zy (b:=sb) (o:=0) (k:=i) (j:=(i:Int)) (by rw [← es];rfl) rfl rfl (by omega) ?_
                  refine Zw (b:=sb) (o:=0+i * 5) rfl ?_
                  refine Z2 (b:=sb) (o:=0+i * 5) (v:=iv ((ds.getD i Dc.z).d)) rfl rs (Z1 (l:=ds) (i:=i) (j:=0) (by omega) rfl) ?_
                  refine Zf (v:=iv days) rfl ?_
                  refine Xm (a:=(ds.getD i Dc.z).d) (b:=days) rfl rfl ⟨by omega,by omega⟩ ?_
                  refine We (a:=(ds.getD k Dc.z).d) (b:=((ds.getD i Dc.z).d) - days) rfl rfl ?_
                  intro t70 g70;cases t70
                  ·have g70:¬ (((ds.getD k Dc.z).d) > (((ds.getD i Dc.z).d) - days)):=of_decide_eq_false g70
                   refine Zf (v:=.bool false) rfl ?_
                   refine ZE rfl ?_
                   refine ZE rfl ?_
                   refine ZE rfl ?_
                   refine ZE rfl ?_
                   refine ZE rfl ?_
                   refine ZE rfl ?_
                   refine ZE rfl ?_
                   refine ZE rfl ?_
                   refine ZE rfl ?_
                   refine ZE rfl ?_
                   refine ZE rfl ?_
                   refine ZW (v:=.bool false) rfl rfl ?_
                   refine ZN (by repeat' first | exact True.intro | exact (fun h=>h) | refine And.intro ?_ ?_ | (intro h;have h:(_:Nat)=_:=h;omega)) ?_
                   refine ZJ ?_
                   first | refine Zj ?_ | skip
                   first | refine Zn ?_ | refine ZD ?_ | refine Zs ?_ | (refine Zo ?_;refine Zn ?_)
                   refine Za (v:=iv (k:Int)) rfl ?_
                   refine Zq (a:=(k:Int)) (b:=1) rfl rfl ⟨by omega,by omega⟩ ?_
                   refine Za (v:=iv ((k:Int)+1)) rfl ?_
                   refine Zb ?_
                   have e3:ws ds tf days (ds.getD i Dc.z).d (k+1)=ws ds tf days (ds.getD i Dc.z).d k:=by show (if _ then _ else _)=_;rw [if_neg (by omega)]
                   exact ⟨k3 - 1,k+1,by omega,⟨by omega,hk,hs,hb,hr⟩,rfl,rfl,rfl,rfl,rfl,rfl,rfl,rfl,rfl,rfl,rfl,rfl,ivq e3.symm,ivq (by omega),trivial⟩
                  ·have g70:((ds.getD k Dc.z).d) > (((ds.getD i Dc.z).d) - days):=of_decide_eq_true g70
                   refine Zf (v:=.bool true) rfl ?_
                   refine ZI rfl (Zf (v:=.slice sa n cap) rfl ?_)
                   refine ZI rfl (Zf (v:=iv (k:Int)) rfl ?_)
                   refine ZI rfl (Zy (b:=sb) (o:=0) (k:=k) (j:=(k:Int)) (by rw [← es];rfl) rfl rfl (by omega) ?_)
                   refine ZI rfl (Zw (b:=sb) (o:=0+k * 5) rfl ?_)
                   refine ZI rfl (Z2 (b:=sb) (o:=0+k * 5) (v:=iv ((ds.getD k Dc.z).d)) rfl rs (Z1 (l:=ds) (i:=k) (j:=0) (by omega) rfl) ?_)
                   refine ZI rfl (Zf (v:=.slice sa n cap) rfl ?_)
                   refine ZI rfl (Zf (v:=iv (i:Int)) rfl ?_)
                   refine ZI rfl (Zy (b:=sb) (o:=0) (k:=i) (j:=(i:Int)) (by rw [← es];rfl) rfl rfl (by omega) ?_)
                   refine ZI rfl (Zw (b:=sb) (o:=0+i * 5) rfl ?_)
                   refine ZI rfl (Z2 (b:=sb) (o:=0+i * 5) (v:=iv ((ds.getD i Dc.z).d)) rfl rs (Z1 (l:=ds) (i:=i) (j:=0) (by omega) rfl) ?_)
                   refine ZI rfl (WI (a:=(ds.getD k Dc.z).d) (b:=(ds.getD i Dc.z).d) rfl rfl ?_)
                   intro t71 g71;cases t71
                   ·have g71:¬ (((ds.getD k Dc.z).d)≤((ds.getD i Dc.z).d)):=of_decide_eq_false g71
                    refine ZW (v:=.bool false) rfl rfl ?_
                    refine ZN (by repeat' first | exact True.intro | exact (fun h=>h) | refine And.intro ?_ ?_ | (intro h;have h:(_:Nat)=_:=h;omega)) ?_
                    refine ZJ ?_
                    first | refine Zj ?_ | skip
                    first | refine Zn ?_ | refine ZD ?_ | refine Zs ?_ | (refine Zo ?_;refine Zn ?_)
                    refine Za (v:=iv (k:Int)) rfl ?_
                    refine Zq (a:=(k:Int)) (b:=1) rfl rfl ⟨by omega,by omega⟩ ?_
                    refine Za (v:=iv ((k:Int)+1)) rfl ?_
                    refine Zb ?_
                    have e3:ws ds tf days (ds.getD i Dc.z).d (k+1)=ws ds tf days (ds.getD i Dc.z).d k:=by show (if _ then _ else _)=_;rw [if_neg (by omega)]
                    exact ⟨k3 - 1,k+1,by omega,⟨by omega,hk,hs,hb,hr⟩,rfl,rfl,rfl,rfl,rfl,rfl,rfl,rfl,rfl,rfl,rfl,rfl,ivq e3.symm,ivq (by omega),trivial⟩
                   ·have g71:((ds.getD k Dc.z).d)≤((ds.getD i Dc.z).d):=of_decide_eq_true g71
                    refine ZW (v:=.bool true) rfl rfl ?_
                    refine ZN (by repeat' first | exact True.intro | exact (fun h=>h) | refine And.intro ?_ ?_ | (intro h;have h:(_:Nat)=_:=h;omega)) ?_
                    refine ZO ?_
                    first | refine Zn ?_ | refine ZD ?_ | refine Zs ?_ | (refine Zo ?_;refine Zn ?_)
                    refine Za (v:=iv (ws ds tf days (ds.getD i Dc.z).d k)) rfl ?_
                    refine Za (v:=.slice (some ⟨rb,0,none⟩) n n) rfl ?_
                    refine Za (v:=iv (k:Int)) rfl ?_
                    refine Z9 (b:=rb) (o:=0) (k:=k) (j:=(k:Int)) rfl rfl rfl (by omega) ?_
                    refine ZM (b:=rb) (o:=0+k * 1) (v:=iv (tf k)) rfl hr.rd (KN (by omega)) ?_
                    refine Zq (a:=(ws ds tf days (ds.getD i Dc.z).d k)) (b:=(tf k)) rfl rfl ⟨by omega,by omega⟩ ?_
                    refine Za (v:=iv ((ws ds tf days (ds.getD i Dc.z).d k)+(tf k))) rfl ?_
                    refine Zb ?_
                    first | refine Zn ?_ | refine ZD ?_ | refine Zs ?_ | (refine Zo ?_;refine Zn ?_)
                    refine Za (v:=iv (k:Int)) rfl ?_
                    refine Zq (a:=(k:Int)) (b:=1) rfl rfl ⟨by omega,by omega⟩ ?_
                    refine Za (v:=iv ((k:Int)+1)) rfl ?_
                    refine Zb ?_
                    have e3:ws ds tf days (ds.getD i Dc.z).d (k+1)=ws ds tf days (ds.getD i Dc.z).d k+tf k:=by show (if _ then _ else _)=_;rw [if_pos ⟨by omega,by omega⟩]
                    exact ⟨k3 - 1,k+1,by omega,⟨by omega,hk,hs,hb,hr⟩,rfl,rfl,rfl,rfl,rfl,rfl,rfl,rfl,rfl,rfl,rfl,rfl,ivq e3.symm,ivq (by omega),trivial⟩
                 ·have q69:¬ ((k:Int) < (n:Int)):=of_decide_eq_false q69
                  have ein3:k=n:=by omega
                  rw [ein3]
                  rcases id hs with ⟨_,h0s,_⟩ | ⟨sb,es,rs,_⟩
                  ·omega
                  have ls:=rs.1
                  have lsb2:=fs sb es;have hi:i < n:=by omega
                  have hwb:=(UE (days:=days) (D:=(ds.getD i Dc.z).d) htt).2;rw [hl] at hwb
                  have hw1:fab (prt gHi ds) days limit = -1→YC (prt gHi ds) days (ds.getD i Dc.z).d≤limit:=fun c=>Ua hbd c (by omega)
                  have hw2:¬ fab (prt gHi ds) days limit = -1→YC (prt gHi ds) days (ds.getD i Dc.z).d≤limit∨fab (prt gHi ds) days limit≤(ds.getD i Dc.z).d:=fun c=>Va hbd c (by omega)
                  first | (refine Zz ?_;show wC _ _ _ _ _ _ _ _ _) | skip
                  refine Zc ?_
                  refine Za (v:=iv (ws ds tf days (ds.getD i Dc.z).d n)) rfl ?_
                  refine Za (v:=iv limit) rfl ?_
                  refine Y3 (a:=(ws ds tf days (ds.getD i Dc.z).d n)) (b:=limit) rfl rfl ?_
                  intro t72 g72;cases t72
                  ·have g72:¬ ((ws ds tf days (ds.getD i Dc.z).d n) > limit):=of_decide_eq_false g72
                   refine Za (v:=.bool false) rfl ?_
                   refine Ze rfl ?_
                   refine Ze rfl ?_
                   refine Ze rfl ?_
                   refine Zk rfl ?_
                   refine Zk rfl ?_
                   refine Zk rfl ?_
                   refine Zk rfl ?_
                   refine Zk rfl ?_
                   refine Zk rfl ?_
                   refine Zk rfl ?_
                   refine Ze rfl ?_
                   refine Zd (v:=.bool false) rfl rfl ?_
                   refine Zb ?_
                   refine ZJ ?_
                   first | refine Zj ?_ | skip
                   first | refine Zn ?_ | refine ZD ?_ | refine Zs ?_ | (refine Zo ?_;refine Zn ?_)
                   have hab:abF true ds tf days limit S i=true:=V1
                   rw [hab]
                   refine Za (v:=.bool true) rfl ?_
                   refine Za (v:=.bool true) rfl ?_
                   refine Ze rfl ?_
                   refine Ze rfl ?_
                   refine Ze rfl ?_
                   refine Ze rfl ?_
                   refine Ze rfl ?_
                   refine Ze rfl ?_
                   refine Ze rfl ?_
                   refine Ze rfl ?_
                   refine Zk rfl ?_
                   refine Zk rfl ?_
                   refine Zk rfl ?_
                   refine Ze rfl ?_
                   refine Zd (v:=.bool true) rfl rfl ?_
                   refine Za (v:=.bool true) rfl ?_
                   refine Zb ?_
                   first | refine Zn ?_ | refine ZD ?_ | refine Zs ?_ | (refine Zo ?_;refine Zn ?_)
                   refine Za (v:=iv (i:Int)) rfl ?_
                   refine Zq (a:=(i:Int)) (b:=1) rfl rfl ⟨by omega,by omega⟩ ?_
                   refine Za (v:=iv ((i:Int)+1)) rfl ?_
                   refine Zb ?_
                   have hU:abF true ds tf days limit S (i+1)=true:=by
                    show (abF true ds tf days limit S i || (decide ((ds.getD i Dc.z).d=S) && decide (ws ds tf days (ds.getD i Dc.z).d ds.length > limit)))=_
                    rw [hab,hl]
                    first | rfl | (rw [decide_eq_false (by omega)];rfl) | (rw [decide_eq_true (by omega),decide_eq_true (by omega)];rfl) | (rw [decide_eq_true (by omega),decide_eq_false (by omega)];rfl)
                   exact ⟨ko - 1,i+1,by omega,⟨by omega,hk,hs,hb,hr⟩,rfl,rfl,rfl,rfl,rfl,rfl,rfl,rfl,rfl,rfl,by rw [hU];rfl,ivq (by omega),trivial⟩
                  ·have g72:(ws ds tf days (ds.getD i Dc.z).d n) > limit:=of_decide_eq_true g72
                   refine Za (v:=.bool true) rfl ?_
                   refine Zi rfl (Za (v:=iv e) rfl ?_)
                   refine Zi rfl (YU (a:=e) (b:=0) rfl rfl ?_)
                   intro t73 g73;cases t73
                   ·have g73:¬ (e≠0):=by simpa using g73
                    refine Zi rfl (Za (v:=.bool false) rfl ?_)
                    refine Zi rfl (Za (v:=.slice sa n cap) rfl ?_)
                    refine Zi rfl (Za (v:=iv (i:Int)) rfl ?_)
                    refine Zi rfl (Z9 (b:=sb) (o:=0) (k:=i) (j:=(i:Int)) (by rw [← es];rfl) rfl rfl (by omega) ?_)
                    refine Zi rfl (Zr (b:=sb) (o:=0+i * 5) rfl ?_)
                    refine Zi rfl (ZM (b:=sb) (o:=0+i * 5) (v:=iv ((ds.getD i Dc.z).d)) rfl rs (Z1 (l:=ds) (i:=i) (j:=0) (by omega) rfl) ?_)
                    refine Zi rfl (Za (v:=iv P) rfl ?_)
                    refine Zi rfl (ZZ (a:=(ds.getD i Dc.z).d) (b:=P) rfl rfl ?_)
                    intro t74 g74;cases t74
                    ·have g74:¬ (((ds.getD i Dc.z).d) < P):=of_decide_eq_false g74
                     refine Zi rfl (Zd (v:=.bool false) rfl rfl ?_)
                     refine Zd (v:=.bool false) rfl rfl ?_
                     refine Zb ?_
                     refine ZJ ?_
                     first | refine Zj ?_ | skip
                     first | refine Zn ?_ | refine ZD ?_ | refine Zs ?_ | (refine Zo ?_;refine Zn ?_)
                     have hab:abF true ds tf days limit S i=true:=V1
                     rw [hab]
                     refine Za (v:=.bool true) rfl ?_
                     refine Za (v:=.bool true) rfl ?_
                     refine Ze rfl ?_
                     refine Ze rfl ?_
                     refine Ze rfl ?_
                     refine Ze rfl ?_
                     refine Ze rfl ?_
                     refine Ze rfl ?_
                     refine Ze rfl ?_
                     refine Ze rfl ?_
                     refine Zk rfl ?_
                     refine Zk rfl ?_
                     refine Zk rfl ?_
                     refine Ze rfl ?_
                     refine Zd (v:=.bool true) rfl rfl ?_
                     refine Za (v:=.bool true) rfl ?_
                     refine Zb ?_
                     first | refine Zn ?_ | refine ZD ?_ | refine Zs ?_ | (refine Zo ?_;refine Zn ?_)
                     refine Za (v:=iv (i:Int)) rfl ?_
                     refine Zq (a:=(i:Int)) (b:=1) rfl rfl ⟨by omega,by omega⟩ ?_
                     refine Za (v:=iv ((i:Int)+1)) rfl ?_
                     refine Zb ?_
                     have hU:abF true ds tf days limit S (i+1)=true:=by
                      show (abF true ds tf days limit S i || (decide ((ds.getD i Dc.z).d=S) && decide (ws ds tf days (ds.getD i Dc.z).d ds.length > limit)))=_
                      rw [hab,hl]
                      first | rfl | (rw [decide_eq_false (by omega)];rfl) | (rw [decide_eq_true (by omega),decide_eq_true (by omega)];rfl) | (rw [decide_eq_true (by omega),decide_eq_false (by omega)];rfl)
                     exact ⟨ko - 1,i+1,by omega,⟨by omega,hk,hs,hb,hr⟩,rfl,rfl,rfl,rfl,rfl,rfl,rfl,rfl,rfl,rfl,by rw [hU];rfl,ivq (by omega),trivial⟩
                    ·have g74:((ds.getD i Dc.z).d) < P:=of_decide_eq_true g74
                     refine Zi rfl (Zd (v:=.bool true) rfl rfl ?_)
                     refine Zd (v:=.bool true) rfl rfl ?_
                     refine Zb ?_
                     refine ZO ?_
                     refine Zc ?_
                     refine Za (v:=.bool false) rfl ?_
                     refine Zb ?_
                     exact (show False by omega).elim
                   ·have g73:e≠0:=by simpa using g73
                    omega
                ·have q68:¬ ((i:Int) < (n:Int)):=of_decide_eq_false q68
                 have ein2:i=n:=by omega
                 rw [ein2]
                 have hab:abF true ds tf days limit S n=true:=V1
                 rw [hab]
                 first | (refine Zz ?_;show wC _ _ _ _ _ _ _ _ _) | skip
                 refine Zc ?_
                 refine Za (v:=.bool true) rfl ?_
                 refine Zd (v:=.bool false) rfl rfl ?_
                 refine Zb ?_
                 refine ZJ ?_
                 first | refine Zj ?_ | skip
                 refine Zc ?_
                 refine Za (v:=.slice none 0 0) rfl ?_
                 refine Zb ?_
                 refine Zc ?_
                 refine Za (v:=iv 0) rfl ?_
                 refine Zb ?_
                 refine Zu (fn:=Try.f6) j5 N6 j3 (fun z:Nat × Value=>[(0,.slice sa n cap),(1,iv days),(2,iv limit),(3,.slice ba bn bc),(4,.int .u8 tj),(10,.bool false),(11,iv S),(12,iv P),(13,iv e),(20,z.2),(21,iv (z.1:Int))])
                  (fun k z H'=>z.1+k=n∧Zm H H' []∧Sl H' sa n cap (dcc ds)∧Sl H' ba bn bc (cU us)∧Acc lo H.next 52 H' z.2 z.1 (dcc (oth ds tn z.1))) n (0,.slice none 0 0) ⟨by simp,hk,hs,hb,.inl ⟨rfl,rfl,rfl⟩⟩ ⟨rfl,rfl,rfl,rfl,rfl,rfl,rfl,rfl,rfl,rfl,rfl,trivial⟩ ?_
                 rintro k ⟨i,wv⟩ L4 ⟨hik,hk,hs,hb,hacc⟩
                 simp only [] at hik hacc
                 have mk:=hk.1;have kacc:=Zm.refl L4 []
                 refine Zc ?_
                 refine Za (v:=iv (i:Int)) rfl ?_
                 refine Za (v:=.slice sa n cap) rfl ?_
                 refine ZG (m:=n) rfl ?_
                 refine Zx (a:=(i:Int)) (b:=(n:Int)) rfl rfl ?_
                 refine Zb ?_
                 refine And.intro (fun q75=>?_) (fun q75=>?_)
                 ·have q75:(i:Int) < (n:Int):=of_decide_eq_true q75
                  have hxi:i < n:=by omega
                  have hi:=hxi
                  rcases id hs with ⟨_,h0s,_⟩ | ⟨sb,es,rs,_⟩
                  ·omega
                  have ls:=rs.1
                  have lsb2:=fs sb es
                  have e4a:=Int.emod_nonneg ((i:Int)+(tn:Int)) (b:=(n:Int)) (by omega);have e4b:=Int.emod_lt_of_pos ((i:Int)+(tn:Int)) (b:=(n:Int)) (by omega);have hmn:(i+tn) % n < n:=Nat.mod_lt _ (by omega)
                  first | refine Zj ?_ | skip
                  first | refine Zn ?_ | refine ZD ?_ | refine Zs ?_ | (refine Zo ?_;refine Zn ?_)
                  refine Za (v:=wv) rfl ?_
                  refine Za (v:=.slice sa n cap) rfl ?_
                  refine Za (v:=iv (i:Int)) rfl ?_
                  refine Za (v:=.int .u8 tj) rfl ?_
                  refine Zd (v:=iv (tn:Int)) rfl (Zag (n:=tn) (j:=tj) (by omega) rfl htn) ?_
                  refine Zq (a:=(i:Int)) (b:=(tn:Int)) rfl rfl ⟨by omega,by omega⟩ ?_
                  refine Za (v:=.slice sa n cap) rfl ?_
                  refine ZG (m:=n) rfl ?_
                  refine Qi (a:=(i:Int)+(tn:Int)) (b:=(n:Int)) rfl rfl (by omega) (by omega) ⟨by omega,by omega⟩ ⟨by omega,by omega⟩ ?_
                  refine Z9 (b:=sb) (o:=0) (k:=(i+tn) % n) (j:=((i:Int)+(tn:Int)) % (n:Int)) (by rw [← es];rfl) rfl (by rw [Int.natCast_emod,Int.natCast_add]) hmn ?_
                  refine ZV (b:=sb) (o:=0+((i+tn) % n) * 5) rfl rs (XC (by omega)) ?_
                  obtain ⟨H40,hH40⟩:∃ H40,L4.new (.cells [iv ((ds.getD ((i+tn) % n) Dc.z).d),iv ((ds.getD ((i+tn) % n) Dc.z).wl),iv ((ds.getD ((i+tn) % n) Dc.z).wh),iv ((ds.getD ((i+tn) % n) Dc.z).cl),iv ((ds.getD ((i+tn) % n) Dc.z).ch)] 52 false)=H40:=⟨_,rfl⟩
                  refine ZU (H':=H40) (k:=.heavy) rfl (by kernel_rfl) ((Yv (v:=.agg (Dc.f (ds.getD ((i+tn) % n) Dc.z)).toArray) VM zx rfl rfl rfl (by decide)).trans (by rw [← hH40];rfl)) (fun b e=>by cases e) ?_
                  obtain ⟨kH40,nH40,c40⟩:=ZP hH40;clear hH40
                  have c40:Cl H40 L4.next [iv ((ds.getD ((i+tn) % n) Dc.z).d),iv ((ds.getD ((i+tn) % n) Dc.z).wl),iv ((ds.getD ((i+tn) % n) Dc.z).wh),iv ((ds.getD ((i+tn) % n) Dc.z).cl),iv ((ds.getD ((i+tn) % n) Dc.z).ch)]:=c40
                  have mH40:=kH40.1
                  have hk:=hk.trans kH40
                  have hs:=kH40.sl0 hs
                  have hb:=kH40.sl0 hb
                  have kacc:=kacc.trans kH40
                  have rs:=kH40.rd rs (by simp)
                  obtain ⟨H41,kdH41,eH41,dH41,aH41,kbH41⟩:=Yu (P:=Try.prog) (lo:=lo) (k:=i) (t1:=22) VM Jh (c40.sl (Nat.le_refl 1)) rfl (by decide) rfl (by rw [WR,Xg]) (by omega) (hacc.keep kacc) (by omega) (by omega)
                  refine ZU (k:=kdH41) rfl (by cases wv<;>kernel_rfl) (eH41 _ _ _ _ _ _ _ rfl rfl) (VF dH41 _) ?_
                  have hk:=kbH41.keep hk (by omega)
                  have hs:=kbH41.sl hs (fun b e=>by have:=fs b e;omega)
                  have hb:=kbH41.sl hb (fun b e=>by have:=fb b e;omega)
                  have mH41:=kbH41.1
                  refine Za (v:=.slice (some ⟨H40.next,0,none⟩) (i+1) (i+1)) rfl ?_
                  refine Zb ?_
                  first | refine Zn ?_ | refine ZD ?_ | refine Zs ?_ | (refine Zo ?_;refine Zn ?_)
                  refine Za (v:=iv (i:Int)) rfl ?_
                  refine Zq (a:=(i:Int)) (b:=1) rfl rfl ⟨by omega,by omega⟩ ?_
                  refine Za (v:=iv ((i:Int)+1)) rfl ?_
                  refine Zb ?_
                  have hacc2:Acc lo H.next 52 H41 (.slice (some ⟨H40.next,0,none⟩) (i+1) (i+1)) (i+1) (dcc (oth ds tn (i+1))):=by rw [K4,V7,hl];exact aH41
                  exact ⟨k - 1,(i+1,_),by omega,⟨by simp only [];omega,hk,hs,hb,hacc2⟩,rfl,rfl,rfl,rfl,rfl,rfl,rfl,rfl,rfl,rfl,ivq (by simp only [];omega),trivial⟩
                 ·have q75:¬ ((i:Int) < (n:Int)):=of_decide_eq_false q75
                  have ein4:i=n:=by omega
                  rw [ein4] at hacc;obtain ⟨oa,oc,rfl,hso,_⟩:=hacc.sl;have fso:=hso.old
                  first | (refine Zz ?_;show wC _ _ _ _ _ _ _ _ _) | skip
                  refine Zc ?_
                  refine Za (v:=.slice oa n oc) rfl ?_
                  refine Za (v:=iv days) rfl ?_
                  refine Za (v:=iv limit) rfl ?_
                  have hpp:paT (oth ds tn n) days limit=(S,P,e):=by rw [← hpa,← hl];exact Uc WZ
                  obtain ⟨H42,fH42,kH42⟩:=XP (kn:=kn) (lo:=lo) (H:=L4) hso Xg (by omega) (by omega) (hkn 35) (days:=days) (limit:=limit);rw [hpp] at fH42
                  refine Zl (vs:=[.slice oa n oc,iv days,iv limit]) rfl (Zh fH42) ?_
                  have mH42:=kH42.1
                  have hk:=hk.trans kH42
                  have hs:=kH42.sl0 hs
                  have hb:=kH42.sl0 hb
                  have hso:=kH42.sl0 hso
                  refine Za (v:=.tuple #[iv S,iv P,iv e]) rfl ?_
                  refine Zd (v:=iv S) rfl (by kernel_rfl) ?_
                  refine Zd (v:=iv P) rfl (by kernel_rfl) ?_
                  refine Zd (v:=iv e) rfl (by kernel_rfl) ?_
                  refine Za (v:=iv S) rfl ?_
                  refine Za (v:=iv P) rfl ?_
                  refine Za (v:=iv e) rfl ?_
                  refine Zb ?_
                  refine Zc ?_
                  refine Za (v:=iv S) rfl ?_
                  refine Za (v:=iv S) rfl ?_
                  refine Xe (a:=S) rfl rfl ?_
                  refine Za (v:=.bool true) rfl ?_
                  refine Zi rfl (Za (v:=iv P) rfl ?_)
                  refine Zi rfl (Za (v:=iv P) rfl ?_)
                  refine Zi rfl (Xe (a:=P) rfl rfl ?_)
                  refine Zd (v:=.bool true) rfl rfl ?_
                  refine Za (v:=.bool true) rfl ?_
                  refine Zi rfl (Za (v:=iv e) rfl ?_)
                  refine Zi rfl (Za (v:=iv e) rfl ?_)
                  refine Zi rfl (Xe (a:=e) rfl rfl ?_)
                  refine Zd (v:=.bool true) rfl rfl ?_
                  refine Za (v:=.bool true) rfl ?_
                  obtain ⟨H43,fH43,kH43⟩:=XD (kn:=kn) (lo:=lo) (H:=H42) hkn (by omega)
                  refine Zi rfl (Zl (vs:=[]) rfl (Z8 (hkn 11) fH43) ?_)
                  have mH43:=kH43.1
                  have hk:=hk.trans kH43
                  have hs:=kH43.sl0 hs
                  have hb:=kH43.sl0 hb
                  have hso:=kH43.sl0 hso
                  refine Zd (v:=.bool true) rfl rfl ?_
                  refine Za (v:=.bool true) rfl ?_
                  refine Zb ?_
                  exact And.intro trivial (Exists.intro _ (And.intro rfl rfl))
              ·have g66:e≠0:=by simpa using g66
               omega
            ·have g64:S < (-1):=of_decide_eq_true g64
             refine Zi rfl (Zd (v:=.bool true) rfl rfl ?_)
             refine Zi rfl (Zd (v:=.bool true) rfl rfl ?_)
             refine Zd (v:=.bool true) rfl rfl ?_
             refine Zb ?_
             refine ZO ?_
             refine Zc ?_
             refine Za (v:=.bool false) rfl ?_
             refine Zb ?_
             exact (show False by omega).elim
           ·have g63:S ≥ 0:=of_decide_eq_true g63
            refine Zi rfl (Za (v:=.bool true) rfl ?_)
            refine Zi rfl (Za (v:=iv S) rfl ?_)
            refine Zi rfl (Za (v:=iv P) rfl ?_)
            refine Zi rfl (ZZ (a:=S) (b:=P) rfl rfl ?_)
            intro t76 g76;cases t76
            ·have g76:¬ (S < P):=of_decide_eq_false g76
             refine Zi rfl (Zd (v:=.bool false) rfl rfl ?_)
             refine Zi rfl (Zd (v:=.bool false) rfl rfl ?_)
             refine Zi rfl (Za (v:=.bool false) rfl ?_)
             refine Zi rfl (Za (v:=iv S) rfl ?_)
             refine Zi rfl (ZZ (a:=S) (b:=-1) rfl rfl ?_)
             intro t77 g77;cases t77
             ·have g77:¬ (S < (-1)):=of_decide_eq_false g77
              refine Zi rfl (Zd (v:=.bool false) rfl rfl ?_)
              refine Zi rfl (Zd (v:=.bool false) rfl rfl ?_)
              refine Zd (v:=.bool false) rfl rfl ?_
              refine Zb ?_
              refine ZJ ?_
              first | refine Zj ?_ | skip
              refine Zc ?_
              refine Za (v:=.slice sa n cap) rfl ?_
              refine ZG (m:=n) rfl ?_
              obtain ⟨i3,hi3,hby⟩:=U7
              obtain ⟨H44,hH44⟩:∃ H44,H27.new (.cells (zw (List.replicate n 0)) 3 false)=H44:=⟨_,rfl⟩
              refine ZU (v:=.slice (some ⟨H27.next,0,none⟩) n n) (H':=H44) (k:=.heavy) rfl (by kernel_rfl) ((Xd (m:=n) JP zo3 hi3 hby rfl rfl (by omega)).trans (by rw [hH44])) (fun b e=>by cases e) ?_
              obtain ⟨kH44,nH44,hr⟩:=ZP hH44;clear hH44
              have mH44:=kH44.1
              have hk:=hk.trans kH44
              have hs:=kH44.sl0 hs
              have hb:=kH44.sl0 hb
              obtain ⟨rb,erb⟩:∃ rb,rb=H27.next:=⟨_,rfl⟩
              have hr:Cl H44 rb (cI (tl (fun _=>0) n 0)):=by rw [erb,jX];exact hr
              rw [← erb]
              have hrl:lo≤rb∧H.next≤rb:=by omega
              refine Za (v:=.slice (some ⟨rb,0,none⟩) n n) rfl ?_
              refine Zb ?_
              refine Zc ?_
              refine Za (v:=iv 0) rfl ?_
              refine Zb ?_
              refine Zu (fn:=Try.f6) jN N6 jQ (fun i:Nat=>[(0,.slice sa n cap),(1,iv days),(2,iv limit),(3,.slice ba bn bc),(4,.int .u8 tj),(10,.bool false),(11,iv S),(12,iv P),(13,iv e),(14,.slice (some ⟨rb,0,none⟩) n n),(15,iv (i:Int))])
               (fun k i H'=>i+k=n∧Zm H H' []∧Sl H' sa n cap (dcc ds)∧Sl H' ba bn bc (cU us)∧∃ tf:Nat→Int,(∀ j,j < i→tlo ds j≤tf j∧tf j≤thi ds j)∧Cl H' rb (cI (tl tf n i))) n 0 ⟨by omega,hk,hs,hb,_,fun j hj=>absurd hj (Nat.not_lt_zero j),hr⟩ ⟨rfl,rfl,rfl,rfl,rfl,rfl,rfl,rfl,rfl,rfl,rfl,trivial⟩ ?_
              rintro k i L1 ⟨hik,hk,hs,hb,tf,htf,hr⟩
              have mk:=hk.1
              refine Zc ?_
              refine Za (v:=iv (i:Int)) rfl ?_
              refine Za (v:=.slice sa n cap) rfl ?_
              refine ZG (m:=n) rfl ?_
              refine Zx (a:=(i:Int)) (b:=(n:Int)) rfl rfl ?_
              refine Zb ?_
              refine And.intro (fun q78=>?_) (fun q78=>?_)
              ·have q78:(i:Int) < (n:Int):=of_decide_eq_true q78
               have hxi:i < n:=by omega
               have hi:=hxi
               rcases id hs with ⟨_,h0s,_⟩ | ⟨sb,es,rs,_⟩
               ·omega
               have ls:=rs.1
               have lsb2:=fs sb es
               have hbi:=ZL (z:=Dc.z) hbd (show i < ds.length by omega);obtain ⟨hbt0,hbt1,hbt2⟩:=YW hbi;have hmB:=YI XK hbi;simp only [gHi] at hmB
               rcases id hb with ⟨_,h0y,_⟩ | ⟨yb,ey,ry,_⟩
               ·omega
               have ly:=ry.1
               have lyb2:=fb yb ey
               have e1a:=Int.emod_nonneg (i:Int) (b:=(bn:Int)) (by omega);have e1b:=Int.emod_lt_of_pos (i:Int) (b:=(bn:Int)) (by omega)
               have e2a:=Int.emod_nonneg ((i:Int)+1) (b:=(bn:Int)) (by omega);have e2b:=Int.emod_lt_of_pos ((i:Int)+1) (b:=(bn:Int)) (by omega)
               first | refine Zj ?_ | skip
               first | refine Yj ?_ | refine XI ?_ | refine Wo ?_ | (refine Zo ?_;refine Yj ?_)
               refine Zf (v:=.slice (some ⟨rb,0,none⟩) n n) rfl ?_
               refine Zf (v:=iv (i:Int)) rfl ?_
               refine Zf (v:=.slice sa n cap) rfl ?_
               refine Zf (v:=iv (i:Int)) rfl ?_
               refine Zy (b:=sb) (o:=0) (k:=i) (j:=(i:Int)) (by rw [← es];rfl) rfl rfl hi ?_
               refine Zw (b:=sb) (o:=0+i * 5) rfl ?_
               refine ZT (b:=sb) (o:=0+i * 5+1) rfl rs (YP (l:=ds) (i:=i) (j:=1) (m:=2) (by omega) rfl) ?_
               refine Zf (v:=.slice ba bn bc) rfl ?_
               refine Zf (v:=iv (i:Int)) rfl ?_
               refine Zf (v:=.slice ba bn bc) rfl ?_
               refine X5 (m:=bn) rfl ?_
               refine X7 (a:=(i:Int)) (b:=(bn:Int)) rfl rfl (by omega) (by omega) ⟨by omega,by omega⟩ ⟨by omega,by omega⟩ ?_
               refine Zy (b:=yb) (o:=0) (k:=i % bn) (j:=(i:Int) % (bn:Int)) (by rw [← ey];rfl) rfl (Int.natCast_emod i bn).symm (Nat.mod_lt _ (by omega)) ?_
               have zu1:i % bn < us.length:=by rw [hbl];exact Nat.mod_lt _ (by omega)
               obtain ⟨u1,eu1,hu1⟩:∃ x:Int,((us.getD (i % bn) 0:Nat):Int)=x∧0≤x∧x≤4294967295:=⟨_,rfl,by omega,by have:=hus _ (Yf (z:=0) zu1);omega⟩
               refine Z2 (b:=yb) (o:=0+(i % bn) * 1) (v:=.int .u32 u1) rfl ry (by rw [← eu1];exact Vz zu1) ?_
               obtain ⟨vH45,H45,fH45,bvH45,kH45⟩:=XG (kn:=kn) (lo:=L1.next) (H:=L1) (l:=(ds.getD i Dc.z).wl) (h:=(ds.getD i Dc.z).wh) (j:=u1) hu1 (by omega) (Nat.le_refl _)
               refine Yt (vs:=[.agg #[iv ((ds.getD i Dc.z).wl),iv ((ds.getD i Dc.z).wh)],.int .u32 u1]) rfl rfl (Zh fH45) ?_
               have mH45:=kH45.1
               have hk:=hk.trans kH45
               have hs:=kH45.sl0 hs
               have hb:=kH45.sl0 hb
               have hr:=kH45.cl hr (by simp)
               have rs:=kH45.rd rs (by simp)
               have ry:=kH45.rd ry (by simp)
               refine Zf (v:=.slice sa n cap) rfl ?_
               refine Zf (v:=iv (i:Int)) rfl ?_
               refine Zy (b:=sb) (o:=0) (k:=i) (j:=(i:Int)) (by rw [← es];rfl) rfl rfl hi ?_
               refine Zw (b:=sb) (o:=0+i * 5) rfl ?_
               refine ZT (b:=sb) (o:=0+i * 5+3) rfl rs (YP (l:=ds) (i:=i) (j:=3) (m:=2) (by omega) rfl) ?_
               refine Zf (v:=.slice ba bn bc) rfl ?_
               refine Zf (v:=iv (i:Int)) rfl ?_
               refine Xf (a:=(i:Int)) (b:=1) rfl rfl ⟨by omega,by omega⟩ ?_
               refine Zf (v:=.slice ba bn bc) rfl ?_
               refine X5 (m:=bn) rfl ?_
               refine X7 (a:=(i:Int)+1) (b:=(bn:Int)) rfl rfl (by omega) (by omega) ⟨by omega,by omega⟩ ⟨by omega,by omega⟩ ?_
               refine Zy (b:=yb) (o:=0) (k:=(i+1) % bn) (j:=((i:Int)+1) % (bn:Int)) (by rw [← ey];rfl) rfl (by rw [Int.natCast_emod,Int.natCast_add];rfl) (Nat.mod_lt _ (by omega)) ?_
               have zu2:(i+1) % bn < us.length:=by rw [hbl];exact Nat.mod_lt _ (by omega)
               obtain ⟨u2,eu2,hu2⟩:∃ x:Int,((us.getD ((i+1) % bn) 0:Nat):Int)=x∧0≤x∧x≤4294967295:=⟨_,rfl,by omega,by have:=hus _ (Yf (z:=0) zu2);omega⟩
               refine Z2 (b:=yb) (o:=0+((i+1) % bn) * 1) (v:=.int .u32 u2) rfl ry (by rw [← eu2];exact Vz zu2) ?_
               obtain ⟨vH46,H46,fH46,bvH46,kH46⟩:=XG (kn:=kn) (lo:=lo) (H:=H45) (l:=(ds.getD i Dc.z).cl) (h:=(ds.getD i Dc.z).ch) (j:=u2) hu2 (by omega) (by omega)
               refine Y0 (vs:=[.agg #[iv ((ds.getD i Dc.z).cl),iv ((ds.getD i Dc.z).ch)],.int .u32 u2]) rfl (Zh fH46) ?_
               have mH46:=kH46.1
               have hk:=hk.trans kH46
               have hs:=kH46.sl0 hs
               have hb:=kH46.sl0 hb
               have hr:=kH46.cl hr (by simp)
               have rs:=kH46.rd rs (by simp)
               have ry:=kH46.rd ry (by simp)
               have htv:tlo ds i≤vH45 * vH46∧vH45 * vH46≤thi ds i:=Qs (a:=vH45) (b:=vH46) hbt1.1 bvH45.1 bvH45.2 hbt2.1 bvH46.1 bvH46.2;have htw:=Y9 (x:=vH45) (y:=vH46) (X:=1073741824) (Y:=100000) (by omega) (by omega) (by omega) (by omega)
               refine Wn (a:=vH45) (b:=vH46) rfl rfl ⟨by omega,by omega⟩ ?_
               refine Zy (b:=rb) (o:=0) (k:=i) (j:=(i:Int)) rfl rfl rfl (by omega) ?_
               refine UU (b:=rb) (o:=0+i * 1) rfl rfl hr (by omega) rfl rfl (by rw [Vs,Uq];omega) ?_
               intro H47 kH47 nH47 sH47
               have mH47:=kH47.1;rw [U9,Qk] at sH47;have hr:=sH47
               have hs:=kH47.sl hs (fun b e=>by have:=fs b e;simp;omega);have hb:=kH47.sl hb (fun b e=>by have:=fb b e;simp;omega)
               have hk:=hk.new kH47 (fun b hb=>.inr (by simp at hb;omega))
               refine ZN (by repeat' first | exact True.intro | exact (fun h=>h) | refine And.intro ?_ ?_ | (intro h;have h:(_:Nat)=_:=h;omega)) ?_
               first | refine Zn ?_ | refine ZD ?_ | refine Zs ?_ | (refine Zo ?_;refine Zn ?_)
               refine Za (v:=iv (i:Int)) rfl ?_
               refine Zq (a:=(i:Int)) (b:=1) rfl rfl ⟨by omega,by omega⟩ ?_
               refine Za (v:=iv ((i:Int)+1)) rfl ?_
               refine Zb ?_
               exact ⟨k - 1,i+1,by omega,⟨by omega,hk,hs,hb,_,fun j hj=>by by_cases c:j=i;rw [if_pos c,c];exact htv;rw [if_neg c];exact htf j (by omega),hr⟩,rfl,rfl,rfl,rfl,rfl,rfl,rfl,rfl,rfl,rfl,ivq (by omega),trivial⟩
              ·have q78:¬ ((i:Int) < (n:Int)):=of_decide_eq_false q78
               have ein:i=n:=by omega
               rw [ein] at htf hr
               have htt:∀ j,j < ds.length→tlo ds j≤tf j∧tf j≤thi ds j:=fun j hj=>htf j (by omega)
               have hti:∀ j,j < n→0≤tf j∧tf j≤107374182400000:=fun j hj=>(by have a:=YI Uu (ZL (z:=Dc.z) hbd (show j < ds.length by omega));have b:=YI XK (ZL (z:=Dc.z) hbd (show j < ds.length by omega));have c:=htf j hj;simp only [gLo,gHi] at a b;simp only [tlo,thi] at c;omega)
               first | (refine Zz ?_;show wC _ _ _ _ _ _ _ _ _) | skip
               refine Zc ?_
               refine Za (v:=iv e) rfl ?_
               refine YU (a:=e) (b:=0) rfl rfl ?_
               intro t79 g79;cases t79
               ·have g79:¬ (e≠0):=by simpa using g79
                refine Za (v:=.bool false) rfl ?_
                refine Zi rfl (Za (v:=iv S) rfl ?_)
                refine Zi rfl (ZZ (a:=S) (b:=0) rfl rfl ?_)
                intro t80 g80;cases t80
                ·have g80:¬ (S < 0):=of_decide_eq_false g80
                 refine Zd (v:=.bool false) rfl rfl ?_
                 refine Za (v:=.bool false) rfl ?_
                 refine Zb ?_
                 refine Zc ?_
                 refine Za (v:=iv 0) rfl ?_
                 refine Zb ?_
                 refine Zu (fn:=Try.f6) j7 N6 Zat (fun i:Nat=>[(0,.slice sa n cap),(1,iv days),(2,iv limit),(3,.slice ba bn bc),(4,.int .u8 tj),(10,.bool false),(11,iv S),(12,iv P),(13,iv e),(14,.slice (some ⟨rb,0,none⟩) n n),(16,.bool (abF false ds tf days limit S i)),(17,iv (i:Int))])
                  (fun k i H'=>i+k=n∧Zm H H' []∧Sl H' sa n cap (dcc ds)∧Sl H' ba bn bc (cU us)∧Cl H' rb (cI (tl tf n n))) n 0 ⟨by omega,hk,hs,hb,hr⟩ ⟨rfl,rfl,rfl,rfl,rfl,rfl,rfl,rfl,rfl,rfl,rfl,rfl,trivial⟩ ?_
                 rintro ko i L2 ⟨hik,hk,hs,hb,hr⟩
                 have mk:=hk.1
                 refine Zc ?_
                 refine Za (v:=iv (i:Int)) rfl ?_
                 refine Za (v:=.slice sa n cap) rfl ?_
                 refine ZG (m:=n) rfl ?_
                 refine Zx (a:=(i:Int)) (b:=(n:Int)) rfl rfl ?_
                 refine Zb ?_
                 refine And.intro (fun q81=>?_) (fun q81=>?_)
                 ·have q81:(i:Int) < (n:Int):=of_decide_eq_true q81
                  have hxi:i < n:=by omega
                  have hi:=hxi
                  rcases id hs with ⟨_,h0s,_⟩ | ⟨sb,es,rs,_⟩
                  ·omega
                  have ls:=rs.1
                  have lsb2:=fs sb es
                  first | refine Zj ?_ | skip
                  refine Zc ?_
                  refine Za (v:=iv 0) rfl ?_
                  refine Zb ?_
                  refine Zc ?_
                  refine Za (v:=iv 0) rfl ?_
                  refine Zb ?_
                  refine Zu (fn:=Try.f6) j6 N6 Zaz (fun k:Nat=>[(0,.slice sa n cap),(1,iv days),(2,iv limit),(3,.slice ba bn bc),(4,.int .u8 tj),(10,.bool false),(11,iv S),(12,iv P),(13,iv e),(14,.slice (some ⟨rb,0,none⟩) n n),(16,.bool (abF false ds tf days limit S i)),(17,iv (i:Int)),(18,iv (ws ds tf days (ds.getD i Dc.z).d k)),(19,iv (k:Int))])
                   (fun z k H'=>k+z=n∧Zm H H' []∧Sl H' sa n cap (dcc ds)∧Sl H' ba bn bc (cU us)∧Cl H' rb (cI (tl tf n n))) n 0 ⟨by omega,hk,hs,hb,hr⟩ ⟨rfl,rfl,rfl,rfl,rfl,rfl,rfl,rfl,rfl,rfl,rfl,rfl,rfl,rfl,trivial⟩ ?_
                  rintro k3 k L3 ⟨hik3,hk,hs,hb,hr⟩
                  have mk:=hk.1;have hwi:=Jc (ds:=ds) (f:=tf) (days:=days) (D:=(ds.getD i Dc.z).d) (m:=107374182400000) (by omega) (k:=k) (fun j hj=>hti j (by omega))
                  refine Zc ?_
                  refine Za (v:=iv (k:Int)) rfl ?_
                  refine Za (v:=.slice sa n cap) rfl ?_
                  refine ZG (m:=n) rfl ?_
                  refine Zx (a:=(k:Int)) (b:=(n:Int)) rfl rfl ?_
                  refine Zb ?_
                  refine And.intro (fun q82=>?_) (fun q82=>?_)
                  ·have q82:(k:Int) < (n:Int):=of_decide_eq_true q82
                   have hxk:k < n:=by omega
                   rcases id hs with ⟨_,h0s,_⟩ | ⟨sb,es,rs,_⟩
                   ·omega
                   have ls:=rs.1
                   have lsb2:=fs sb es
                   have hbk:=ZL (z:=Dc.z) hbd (show k < ds.length by omega);have hbtk:=YW hbk;have hbi:=ZL (z:=Dc.z) hbd (show i < ds.length by omega);have hbti:=YW hbi;have htk:=hti k (by omega)
                   first | refine Zj ?_ | skip
                   refine YO ?_
                   refine Zf (v:=.slice sa n cap) rfl ?_
                   refine Zf (v:=iv (k:Int)) rfl ?_
                   refine Zy (b:=sb) (o:=0) (k:=k) (j:=(k:Int)) (by rw [← es];rfl) rfl rfl (by omega) ?_
                   refine Zw (b:=sb) (o:=0+k * 5) rfl ?_
                   refine Z2 (b:=sb) (o:=0+k * 5) (v:=iv ((ds.getD k Dc.z).d)) rfl rs (Z1 (l:=ds) (i:=k) (j:=0) (by omega) rfl) ?_
                   refine Zf (v:=.slice sa n cap) rfl ?_
                   refine Zf (v:=iv (i:Int)) rfl ?_
                   refine Zy (b:=sb) (o:=0) (k:=i) (j:=(i:Int)) (by rw [← es];rfl) rfl rfl (by omega) ?_
                   refine Zw (b:=sb) (o:=0+i * 5) rfl ?_
                   refine Z2 (b:=sb) (o:=0+i * 5) (v:=iv ((ds.getD i Dc.z).d)) rfl rs (Z1 (l:=ds) (i:=i) (j:=0) (by omega) rfl) ?_
                   refine Zf (v:=iv days) rfl ?_
                   refine Xm (a:=(ds.getD i Dc.z).d) (b:=days) rfl rfl ⟨by omega,by omega⟩ ?_
                   refine We (a:=(ds.getD k Dc.z).d) (b:=((ds.getD i Dc.z).d) - days) rfl rfl ?_
                   intro t83 g83;cases t83
                   ·have g83:¬ (((ds.getD k Dc.z).d) > (((ds.getD i Dc.z).d) - days)):=of_decide_eq_false g83
                    refine Zf (v:=.bool false) rfl ?_
                    refine ZE rfl ?_
                    refine ZE rfl ?_
                    refine ZE rfl ?_
                    refine ZE rfl ?_
                    refine ZE rfl ?_
                    refine ZE rfl ?_
                    refine ZE rfl ?_
                    refine ZE rfl ?_
                    refine ZE rfl ?_
                    refine ZE rfl ?_
                    refine ZE rfl ?_
                    refine ZW (v:=.bool false) rfl rfl ?_
                    refine ZN (by repeat' first | exact True.intro | exact (fun h=>h) | refine And.intro ?_ ?_ | (intro h;have h:(_:Nat)=_:=h;omega)) ?_
                    refine ZJ ?_
                    first | refine Zj ?_ | skip
                    first | refine Zn ?_ | refine ZD ?_ | refine Zs ?_ | (refine Zo ?_;refine Zn ?_)
                    refine Za (v:=iv (k:Int)) rfl ?_
                    refine Zq (a:=(k:Int)) (b:=1) rfl rfl ⟨by omega,by omega⟩ ?_
                    refine Za (v:=iv ((k:Int)+1)) rfl ?_
                    refine Zb ?_
                    have e3:ws ds tf days (ds.getD i Dc.z).d (k+1)=ws ds tf days (ds.getD i Dc.z).d k:=by show (if _ then _ else _)=_;rw [if_neg (by omega)]
                    exact ⟨k3 - 1,k+1,by omega,⟨by omega,hk,hs,hb,hr⟩,rfl,rfl,rfl,rfl,rfl,rfl,rfl,rfl,rfl,rfl,rfl,rfl,ivq e3.symm,ivq (by omega),trivial⟩
                   ·have g83:((ds.getD k Dc.z).d) > (((ds.getD i Dc.z).d) - days):=of_decide_eq_true g83
                    refine Zf (v:=.bool true) rfl ?_
                    refine ZI rfl (Zf (v:=.slice sa n cap) rfl ?_)
                    refine ZI rfl (Zf (v:=iv (k:Int)) rfl ?_)
                    refine ZI rfl (Zy (b:=sb) (o:=0) (k:=k) (j:=(k:Int)) (by rw [← es];rfl) rfl rfl (by omega) ?_)
                    refine ZI rfl (Zw (b:=sb) (o:=0+k * 5) rfl ?_)
                    refine ZI rfl (Z2 (b:=sb) (o:=0+k * 5) (v:=iv ((ds.getD k Dc.z).d)) rfl rs (Z1 (l:=ds) (i:=k) (j:=0) (by omega) rfl) ?_)
                    refine ZI rfl (Zf (v:=.slice sa n cap) rfl ?_)
                    refine ZI rfl (Zf (v:=iv (i:Int)) rfl ?_)
                    refine ZI rfl (Zy (b:=sb) (o:=0) (k:=i) (j:=(i:Int)) (by rw [← es];rfl) rfl rfl (by omega) ?_)
                    refine ZI rfl (Zw (b:=sb) (o:=0+i * 5) rfl ?_)
                    refine ZI rfl (Z2 (b:=sb) (o:=0+i * 5) (v:=iv ((ds.getD i Dc.z).d)) rfl rs (Z1 (l:=ds) (i:=i) (j:=0) (by omega) rfl) ?_)
                    refine ZI rfl (WI (a:=(ds.getD k Dc.z).d) (b:=(ds.getD i Dc.z).d) rfl rfl ?_)
                    intro t84 g84;cases t84
                    ·have g84:¬ (((ds.getD k Dc.z).d)≤((ds.getD i Dc.z).d)):=of_decide_eq_false g84
                     refine ZW (v:=.bool false) rfl rfl ?_
                     refine ZN (by repeat' first | exact True.intro | exact (fun h=>h) | refine And.intro ?_ ?_ | (intro h;have h:(_:Nat)=_:=h;omega)) ?_
                     refine ZJ ?_
                     first | refine Zj ?_ | skip
                     first | refine Zn ?_ | refine ZD ?_ | refine Zs ?_ | (refine Zo ?_;refine Zn ?_)
                     refine Za (v:=iv (k:Int)) rfl ?_
                     refine Zq (a:=(k:Int)) (b:=1) rfl rfl ⟨by omega,by omega⟩ ?_
                     refine Za (v:=iv ((k:Int)+1)) rfl ?_
                     refine Zb ?_
                     have e3:ws ds tf days (ds.getD i Dc.z).d (k+1)=ws ds tf days (ds.getD i Dc.z).d k:=by show (if _ then _ else _)=_;rw [if_neg (by omega)]
                     exact ⟨k3 - 1,k+1,by omega,⟨by omega,hk,hs,hb,hr⟩,rfl,rfl,rfl,rfl,rfl,rfl,rfl,rfl,rfl,rfl,rfl,rfl,ivq e3.symm,ivq (by omega),trivial⟩
                    ·have g84:((ds.getD k Dc.z).d)≤((ds.getD i Dc.z).d):=of_decide_eq_true g84
                     refine ZW (v:=.bool true) rfl rfl ?_
                     refine ZN (by repeat' first | exact True.intro | exact (fun h=>h) | refine And.intro ?_ ?_ | (intro h;have h:(_:Nat)=_:=h;omega)) ?_
                     refine ZO ?_
                     first | refine Zn ?_ | refine ZD ?_ | refine Zs ?_ | (refine Zo ?_;refine Zn ?_)
                     refine Za (v:=iv (ws ds tf days (ds.getD i Dc.z).d k)) rfl ?_
                     refine Za (v:=.slice (some ⟨rb,0,none⟩) n n) rfl ?_
                     refine Za (v:=iv (k:Int)) rfl ?_
                     refine Z9 (b:=rb) (o:=0) (k:=k) (j:=(k:Int)) rfl rfl rfl (by omega) ?_
                     refine ZM (b:=rb) (o:=0+k * 1) (v:=iv (tf k)) rfl hr.rd (KN (by omega)) ?_
                     refine Zq (a:=(ws ds tf days (ds.getD i Dc.z).d k)) (b:=(tf k)) rfl rfl ⟨by omega,by omega⟩ ?_
                     refine Za (v:=iv ((ws ds tf days (ds.getD i Dc.z).d k)+(tf k))) rfl ?_
                     refine Zb ?_
                     first | refine Zn ?_ | refine ZD ?_ | refine Zs ?_ | (refine Zo ?_;refine Zn ?_)
                     refine Za (v:=iv (k:Int)) rfl ?_
                     refine Zq (a:=(k:Int)) (b:=1) rfl rfl ⟨by omega,by omega⟩ ?_
                     refine Za (v:=iv ((k:Int)+1)) rfl ?_
                     refine Zb ?_
                     have e3:ws ds tf days (ds.getD i Dc.z).d (k+1)=ws ds tf days (ds.getD i Dc.z).d k+tf k:=by show (if _ then _ else _)=_;rw [if_pos ⟨by omega,by omega⟩]
                     exact ⟨k3 - 1,k+1,by omega,⟨by omega,hk,hs,hb,hr⟩,rfl,rfl,rfl,rfl,rfl,rfl,rfl,rfl,rfl,rfl,rfl,rfl,ivq e3.symm,ivq (by omega),trivial⟩
                  ·have q82:¬ ((k:Int) < (n:Int)):=of_decide_eq_false q82
                   have ein3:k=n:=by omega
                   rw [ein3]
                   rcases id hs with ⟨_,h0s,_⟩ | ⟨sb,es,rs,_⟩
                   ·omega
                   have ls:=rs.1
                   have lsb2:=fs sb es;have hi:i < n:=by omega
                   have hwb:=(UE (days:=days) (D:=(ds.getD i Dc.z).d) htt).2;rw [hl] at hwb
                   have hw1:fab (prt gHi ds) days limit = -1→YC (prt gHi ds) days (ds.getD i Dc.z).d≤limit:=fun c=>Ua hbd c (by omega)
                   have hw2:¬ fab (prt gHi ds) days limit = -1→YC (prt gHi ds) days (ds.getD i Dc.z).d≤limit∨fab (prt gHi ds) days limit≤(ds.getD i Dc.z).d:=fun c=>Va hbd c (by omega)
                   first | (refine Zz ?_;show wC _ _ _ _ _ _ _ _ _) | skip
                   refine Zc ?_
                   refine Za (v:=iv (ws ds tf days (ds.getD i Dc.z).d n)) rfl ?_
                   refine Za (v:=iv limit) rfl ?_
                   refine Y3 (a:=(ws ds tf days (ds.getD i Dc.z).d n)) (b:=limit) rfl rfl ?_
                   intro t85 g85;cases t85
                   ·have g85:¬ ((ws ds tf days (ds.getD i Dc.z).d n) > limit):=of_decide_eq_false g85
                    refine Za (v:=.bool false) rfl ?_
                    refine Ze rfl ?_
                    refine Ze rfl ?_
                    refine Ze rfl ?_
                    refine Zk rfl ?_
                    refine Zk rfl ?_
                    refine Zk rfl ?_
                    refine Zk rfl ?_
                    refine Zk rfl ?_
                    refine Zk rfl ?_
                    refine Zk rfl ?_
                    refine Ze rfl ?_
                    refine Zd (v:=.bool false) rfl rfl ?_
                    refine Zb ?_
                    refine ZJ ?_
                    first | refine Zj ?_ | skip
                    first | refine Zn ?_ | refine ZD ?_ | refine Zs ?_ | (refine Zo ?_;refine Zn ?_)
                    cases hab:abF false ds tf days limit S i
                    ·refine Za (v:=.bool false) rfl ?_
                     refine Za (v:=.bool false) rfl ?_
                     refine Zi rfl (Za (v:=.slice sa n cap) rfl ?_)
                     refine Zi rfl (Za (v:=iv (i:Int)) rfl ?_)
                     refine Zi rfl (Z9 (b:=sb) (o:=0) (k:=i) (j:=(i:Int)) (by rw [← es];rfl) rfl rfl (by omega) ?_)
                     refine Zi rfl (Zr (b:=sb) (o:=0+i * 5) rfl ?_)
                     refine Zi rfl (ZM (b:=sb) (o:=0+i * 5) (v:=iv ((ds.getD i Dc.z).d)) rfl rs (Z1 (l:=ds) (i:=i) (j:=0) (by omega) rfl) ?_)
                     refine Zi rfl (Za (v:=iv S) rfl ?_)
                     refine Zi rfl (YT (a:=(ds.getD i Dc.z).d) (b:=S) rfl rfl ?_)
                     intro t86 g86;cases t86
                     ·have g86:¬ (((ds.getD i Dc.z).d)=S):=by simpa using g86
                      refine Zi rfl (Za (v:=.bool false) rfl ?_)
                      refine Ze rfl ?_
                      refine Ze rfl ?_
                      refine Ze rfl ?_
                      refine Zi rfl (Zd (v:=.bool false) rfl rfl ?_)
                      refine Zd (v:=.bool false) rfl rfl ?_
                      refine Za (v:=.bool false) rfl ?_
                      refine Zb ?_
                      first | refine Zn ?_ | refine ZD ?_ | refine Zs ?_ | (refine Zo ?_;refine Zn ?_)
                      refine Za (v:=iv (i:Int)) rfl ?_
                      refine Zq (a:=(i:Int)) (b:=1) rfl rfl ⟨by omega,by omega⟩ ?_
                      refine Za (v:=iv ((i:Int)+1)) rfl ?_
                      refine Zb ?_
                      have hU:abF false ds tf days limit S (i+1)=false:=by
                       show (abF false ds tf days limit S i || (decide ((ds.getD i Dc.z).d=S) && decide (ws ds tf days (ds.getD i Dc.z).d ds.length > limit)))=_
                       rw [hab,hl]
                       first | rfl | (rw [decide_eq_false (by omega)];rfl) | (rw [decide_eq_true (by omega),decide_eq_true (by omega)];rfl) | (rw [decide_eq_true (by omega),decide_eq_false (by omega)];rfl)
                      exact ⟨ko - 1,i+1,by omega,⟨by omega,hk,hs,hb,hr⟩,rfl,rfl,rfl,rfl,rfl,rfl,rfl,rfl,rfl,rfl,by rw [hU];rfl,ivq (by omega),trivial⟩
                     ·have g86:((ds.getD i Dc.z).d)=S:=by simpa using g86
                      refine Zi rfl (Za (v:=.bool true) rfl ?_)
                      refine Zi rfl (Za (v:=iv (ws ds tf days (ds.getD i Dc.z).d n)) rfl ?_)
                      refine Zi rfl (Za (v:=iv limit) rfl ?_)
                      refine Zi rfl (Y3 (a:=(ws ds tf days (ds.getD i Dc.z).d n)) (b:=limit) rfl rfl ?_)
                      intro t87 g87;cases t87
                      ·have g87:¬ ((ws ds tf days (ds.getD i Dc.z).d n) > limit):=of_decide_eq_false g87
                       refine Zi rfl (Zd (v:=.bool false) rfl rfl ?_)
                       refine Zd (v:=.bool false) rfl rfl ?_
                       refine Za (v:=.bool false) rfl ?_
                       refine Zb ?_
                       first | refine Zn ?_ | refine ZD ?_ | refine Zs ?_ | (refine Zo ?_;refine Zn ?_)
                       refine Za (v:=iv (i:Int)) rfl ?_
                       refine Zq (a:=(i:Int)) (b:=1) rfl rfl ⟨by omega,by omega⟩ ?_
                       refine Za (v:=iv ((i:Int)+1)) rfl ?_
                       refine Zb ?_
                       have hU:abF false ds tf days limit S (i+1)=false:=by
                        show (abF false ds tf days limit S i || (decide ((ds.getD i Dc.z).d=S) && decide (ws ds tf days (ds.getD i Dc.z).d ds.length > limit)))=_
                        rw [hab,hl]
                        first | rfl | (rw [decide_eq_false (by omega)];rfl) | (rw [decide_eq_true (by omega),decide_eq_true (by omega)];rfl) | (rw [decide_eq_true (by omega),decide_eq_false (by omega)];rfl)
                       exact ⟨ko - 1,i+1,by omega,⟨by omega,hk,hs,hb,hr⟩,rfl,rfl,rfl,rfl,rfl,rfl,rfl,rfl,rfl,rfl,by rw [hU];rfl,ivq (by omega),trivial⟩
                      ·have g87:(ws ds tf days (ds.getD i Dc.z).d n) > limit:=of_decide_eq_true g87
                       omega
                    ·refine Za (v:=.bool true) rfl ?_
                     refine Za (v:=.bool true) rfl ?_
                     refine Ze rfl ?_
                     refine Ze rfl ?_
                     refine Ze rfl ?_
                     refine Ze rfl ?_
                     refine Ze rfl ?_
                     refine Ze rfl ?_
                     refine Ze rfl ?_
                     refine Ze rfl ?_
                     refine Zk rfl ?_
                     refine Zk rfl ?_
                     refine Zk rfl ?_
                     refine Ze rfl ?_
                     refine Zd (v:=.bool true) rfl rfl ?_
                     refine Za (v:=.bool true) rfl ?_
                     refine Zb ?_
                     first | refine Zn ?_ | refine ZD ?_ | refine Zs ?_ | (refine Zo ?_;refine Zn ?_)
                     refine Za (v:=iv (i:Int)) rfl ?_
                     refine Zq (a:=(i:Int)) (b:=1) rfl rfl ⟨by omega,by omega⟩ ?_
                     refine Za (v:=iv ((i:Int)+1)) rfl ?_
                     refine Zb ?_
                     have hU:abF false ds tf days limit S (i+1)=true:=by
                      show (abF false ds tf days limit S i || (decide ((ds.getD i Dc.z).d=S) && decide (ws ds tf days (ds.getD i Dc.z).d ds.length > limit)))=_
                      rw [hab,hl]
                      first | rfl | (rw [decide_eq_false (by omega)];rfl) | (rw [decide_eq_true (by omega),decide_eq_true (by omega)];rfl) | (rw [decide_eq_true (by omega),decide_eq_false (by omega)];rfl)
                     exact ⟨ko - 1,i+1,by omega,⟨by omega,hk,hs,hb,hr⟩,rfl,rfl,rfl,rfl,rfl,rfl,rfl,rfl,rfl,rfl,by rw [hU];rfl,ivq (by omega),trivial⟩
                   ·have g85:(ws ds tf days (ds.getD i Dc.z).d n) > limit:=of_decide_eq_true g85
                    refine Za (v:=.bool true) rfl ?_
                    refine Zi rfl (Za (v:=iv e) rfl ?_)
                    refine Zi rfl (YU (a:=e) (b:=0) rfl rfl ?_)
                    intro t88 g88;cases t88
                    ·have g88:¬ (e≠0):=by simpa using g88
                     refine Zi rfl (Za (v:=.bool false) rfl ?_)
                     refine Zi rfl (Za (v:=.slice sa n cap) rfl ?_)
                     refine Zi rfl (Za (v:=iv (i:Int)) rfl ?_)
                     refine Zi rfl (Z9 (b:=sb) (o:=0) (k:=i) (j:=(i:Int)) (by rw [← es];rfl) rfl rfl (by omega) ?_)
                     refine Zi rfl (Zr (b:=sb) (o:=0+i * 5) rfl ?_)
                     refine Zi rfl (ZM (b:=sb) (o:=0+i * 5) (v:=iv ((ds.getD i Dc.z).d)) rfl rs (Z1 (l:=ds) (i:=i) (j:=0) (by omega) rfl) ?_)
                     refine Zi rfl (Za (v:=iv P) rfl ?_)
                     refine Zi rfl (ZZ (a:=(ds.getD i Dc.z).d) (b:=P) rfl rfl ?_)
                     intro t89 g89;cases t89
                     ·have g89:¬ (((ds.getD i Dc.z).d) < P):=of_decide_eq_false g89
                      refine Zi rfl (Zd (v:=.bool false) rfl rfl ?_)
                      refine Zd (v:=.bool false) rfl rfl ?_
                      refine Zb ?_
                      refine ZJ ?_
                      first | refine Zj ?_ | skip
                      first | refine Zn ?_ | refine ZD ?_ | refine Zs ?_ | (refine Zo ?_;refine Zn ?_)
                      cases hab:abF false ds tf days limit S i
                      ·refine Za (v:=.bool false) rfl ?_
                       refine Za (v:=.bool false) rfl ?_
                       refine Zi rfl (Za (v:=.slice sa n cap) rfl ?_)
                       refine Zi rfl (Za (v:=iv (i:Int)) rfl ?_)
                       refine Zi rfl (Z9 (b:=sb) (o:=0) (k:=i) (j:=(i:Int)) (by rw [← es];rfl) rfl rfl (by omega) ?_)
                       refine Zi rfl (Zr (b:=sb) (o:=0+i * 5) rfl ?_)
                       refine Zi rfl (ZM (b:=sb) (o:=0+i * 5) (v:=iv ((ds.getD i Dc.z).d)) rfl rs (Z1 (l:=ds) (i:=i) (j:=0) (by omega) rfl) ?_)
                       refine Zi rfl (Za (v:=iv S) rfl ?_)
                       refine Zi rfl (YT (a:=(ds.getD i Dc.z).d) (b:=S) rfl rfl ?_)
                       intro t90 g90;cases t90
                       ·have g90:¬ (((ds.getD i Dc.z).d)=S):=by simpa using g90
                        refine Zi rfl (Za (v:=.bool false) rfl ?_)
                        refine Ze rfl ?_
                        refine Ze rfl ?_
                        refine Ze rfl ?_
                        refine Zi rfl (Zd (v:=.bool false) rfl rfl ?_)
                        refine Zd (v:=.bool false) rfl rfl ?_
                        refine Za (v:=.bool false) rfl ?_
                        refine Zb ?_
                        first | refine Zn ?_ | refine ZD ?_ | refine Zs ?_ | (refine Zo ?_;refine Zn ?_)
                        refine Za (v:=iv (i:Int)) rfl ?_
                        refine Zq (a:=(i:Int)) (b:=1) rfl rfl ⟨by omega,by omega⟩ ?_
                        refine Za (v:=iv ((i:Int)+1)) rfl ?_
                        refine Zb ?_
                        have hU:abF false ds tf days limit S (i+1)=false:=by
                         show (abF false ds tf days limit S i || (decide ((ds.getD i Dc.z).d=S) && decide (ws ds tf days (ds.getD i Dc.z).d ds.length > limit)))=_
                         rw [hab,hl]
                         first | rfl | (rw [decide_eq_false (by omega)];rfl) | (rw [decide_eq_true (by omega),decide_eq_true (by omega)];rfl) | (rw [decide_eq_true (by omega),decide_eq_false (by omega)];rfl)
                        exact ⟨ko - 1,i+1,by omega,⟨by omega,hk,hs,hb,hr⟩,rfl,rfl,rfl,rfl,rfl,rfl,rfl,rfl,rfl,rfl,by rw [hU];rfl,ivq (by omega),trivial⟩
                       ·have g90:((ds.getD i Dc.z).d)=S:=by simpa using g90
                        refine Zi rfl (Za (v:=.bool true) rfl ?_)
                        refine Zi rfl (Za (v:=iv (ws ds tf days (ds.getD i Dc.z).d n)) rfl ?_)
                        refine Zi rfl (Za (v:=iv limit) rfl ?_)
                        refine Zi rfl (Y3 (a:=(ws ds tf days (ds.getD i Dc.z).d n)) (b:=limit) rfl rfl ?_)
                        intro t91 g91;cases t91
                        ·have g91:¬ ((ws ds tf days (ds.getD i Dc.z).d n) > limit):=of_decide_eq_false g91
                         omega
                        ·have g91:(ws ds tf days (ds.getD i Dc.z).d n) > limit:=of_decide_eq_true g91
                         refine Zi rfl (Zd (v:=.bool true) rfl rfl ?_)
                         refine Zd (v:=.bool true) rfl rfl ?_
                         refine Za (v:=.bool true) rfl ?_
                         refine Zb ?_
                         first | refine Zn ?_ | refine ZD ?_ | refine Zs ?_ | (refine Zo ?_;refine Zn ?_)
                         refine Za (v:=iv (i:Int)) rfl ?_
                         refine Zq (a:=(i:Int)) (b:=1) rfl rfl ⟨by omega,by omega⟩ ?_
                         refine Za (v:=iv ((i:Int)+1)) rfl ?_
                         refine Zb ?_
                         have hU:abF false ds tf days limit S (i+1)=true:=by
                          show (abF false ds tf days limit S i || (decide ((ds.getD i Dc.z).d=S) && decide (ws ds tf days (ds.getD i Dc.z).d ds.length > limit)))=_
                          rw [hab,hl]
                          first | rfl | (rw [decide_eq_false (by omega)];rfl) | (rw [decide_eq_true (by omega),decide_eq_true (by omega)];rfl) | (rw [decide_eq_true (by omega),decide_eq_false (by omega)];rfl)
                         exact ⟨ko - 1,i+1,by omega,⟨by omega,hk,hs,hb,hr⟩,rfl,rfl,rfl,rfl,rfl,rfl,rfl,rfl,rfl,rfl,by rw [hU];rfl,ivq (by omega),trivial⟩
                      ·refine Za (v:=.bool true) rfl ?_
                       refine Za (v:=.bool true) rfl ?_
                       refine Ze rfl ?_
                       refine Ze rfl ?_
                       refine Ze rfl ?_
                       refine Ze rfl ?_
                       refine Ze rfl ?_
                       refine Ze rfl ?_
                       refine Ze rfl ?_
                       refine Ze rfl ?_
                       refine Zk rfl ?_
                       refine Zk rfl ?_
                       refine Zk rfl ?_
                       refine Ze rfl ?_
                       refine Zd (v:=.bool true) rfl rfl ?_
                       refine Za (v:=.bool true) rfl ?_
                       refine Zb ?_
                       first | refine Zn ?_ | refine ZD ?_ | refine Zs ?_ | (refine Zo ?_;refine Zn ?_)
                       refine Za (v:=iv (i:Int)) rfl ?_
                       refine Zq (a:=(i:Int)) (b:=1) rfl rfl ⟨by omega,by omega⟩ ?_
                       refine Za (v:=iv ((i:Int)+1)) rfl ?_
                       refine Zb ?_
                       have hU:abF false ds tf days limit S (i+1)=true:=by
                        show (abF false ds tf days limit S i || (decide ((ds.getD i Dc.z).d=S) && decide (ws ds tf days (ds.getD i Dc.z).d ds.length > limit)))=_
                        rw [hab,hl]
                        first | rfl | (rw [decide_eq_false (by omega)];rfl) | (rw [decide_eq_true (by omega),decide_eq_true (by omega)];rfl) | (rw [decide_eq_true (by omega),decide_eq_false (by omega)];rfl)
                       exact ⟨ko - 1,i+1,by omega,⟨by omega,hk,hs,hb,hr⟩,rfl,rfl,rfl,rfl,rfl,rfl,rfl,rfl,rfl,rfl,by rw [hU];rfl,ivq (by omega),trivial⟩
                     ·have g89:((ds.getD i Dc.z).d) < P:=of_decide_eq_true g89
                      refine Zi rfl (Zd (v:=.bool true) rfl rfl ?_)
                      refine Zd (v:=.bool true) rfl rfl ?_
                      refine Zb ?_
                      refine ZO ?_
                      refine Zc ?_
                      refine Za (v:=.bool false) rfl ?_
                      refine Zb ?_
                      exact (show False by omega).elim
                    ·have g88:e≠0:=by simpa using g88
                     omega
                 ·have q81:¬ ((i:Int) < (n:Int)):=of_decide_eq_false q81
                  have ein2:i=n:=by omega
                  rw [ein2]
                  have hab:abF false ds tf days limit S n=true:=by
                   obtain ⟨j,hj,e1,e2⟩:=zz hbd (show ¬ fab (prt gLo ds) days limit = -1 by omega)
                   exact Zbe (j:=j) (by omega) (by omega) (by have:=(UE (days:=days) (D:=(ds.getD j Dc.z).d) htt).1;omega)
                  rw [hab]
                  first | (refine Zz ?_;show wC _ _ _ _ _ _ _ _ _) | skip
                  refine Zc ?_
                  refine Za (v:=.bool true) rfl ?_
                  refine Zd (v:=.bool false) rfl rfl ?_
                  refine Zb ?_
                  refine ZJ ?_
                  first | refine Zj ?_ | skip
                  refine Zc ?_
                  refine Za (v:=.slice none 0 0) rfl ?_
                  refine Zb ?_
                  refine Zc ?_
                  refine Za (v:=iv 0) rfl ?_
                  refine Zb ?_
                  refine Zu (fn:=Try.f6) j5 N6 j3 (fun z:Nat × Value=>[(0,.slice sa n cap),(1,iv days),(2,iv limit),(3,.slice ba bn bc),(4,.int .u8 tj),(10,.bool false),(11,iv S),(12,iv P),(13,iv e),(20,z.2),(21,iv (z.1:Int))])
                   (fun k z H'=>z.1+k=n∧Zm H H' []∧Sl H' sa n cap (dcc ds)∧Sl H' ba bn bc (cU us)∧Acc lo H.next 52 H' z.2 z.1 (dcc (oth ds tn z.1))) n (0,.slice none 0 0) ⟨by simp,hk,hs,hb,.inl ⟨rfl,rfl,rfl⟩⟩ ⟨rfl,rfl,rfl,rfl,rfl,rfl,rfl,rfl,rfl,rfl,rfl,trivial⟩ ?_
                  rintro k ⟨i,wv⟩ L4 ⟨hik,hk,hs,hb,hacc⟩
                  simp only [] at hik hacc
                  have mk:=hk.1;have kacc:=Zm.refl L4 []
                  refine Zc ?_
                  refine Za (v:=iv (i:Int)) rfl ?_
                  refine Za (v:=.slice sa n cap) rfl ?_
                  refine ZG (m:=n) rfl ?_
                  refine Zx (a:=(i:Int)) (b:=(n:Int)) rfl rfl ?_
                  refine Zb ?_
                  refine And.intro (fun q92=>?_) (fun q92=>?_)
                  ·have q92:(i:Int) < (n:Int):=of_decide_eq_true q92
                   have hxi:i < n:=by omega
                   have hi:=hxi
                   rcases id hs with ⟨_,h0s,_⟩ | ⟨sb,es,rs,_⟩
                   ·omega
                   have ls:=rs.1
                   have lsb2:=fs sb es
                   have e4a:=Int.emod_nonneg ((i:Int)+(tn:Int)) (b:=(n:Int)) (by omega);have e4b:=Int.emod_lt_of_pos ((i:Int)+(tn:Int)) (b:=(n:Int)) (by omega);have hmn:(i+tn) % n < n:=Nat.mod_lt _ (by omega)
                   first | refine Zj ?_ | skip
                   first | refine Zn ?_ | refine ZD ?_ | refine Zs ?_ | (refine Zo ?_;refine Zn ?_)
                   refine Za (v:=wv) rfl ?_
                   refine Za (v:=.slice sa n cap) rfl ?_
                   refine Za (v:=iv (i:Int)) rfl ?_
                   refine Za (v:=.int .u8 tj) rfl ?_
                   refine Zd (v:=iv (tn:Int)) rfl (Zag (n:=tn) (j:=tj) (by omega) rfl htn) ?_
                   refine Zq (a:=(i:Int)) (b:=(tn:Int)) rfl rfl ⟨by omega,by omega⟩ ?_
                   refine Za (v:=.slice sa n cap) rfl ?_
                   refine ZG (m:=n) rfl ?_
                   refine Qi (a:=(i:Int)+(tn:Int)) (b:=(n:Int)) rfl rfl (by omega) (by omega) ⟨by omega,by omega⟩ ⟨by omega,by omega⟩ ?_
                   refine Z9 (b:=sb) (o:=0) (k:=(i+tn) % n) (j:=((i:Int)+(tn:Int)) % (n:Int)) (by rw [← es];rfl) rfl (by rw [Int.natCast_emod,Int.natCast_add]) hmn ?_
                   refine ZV (b:=sb) (o:=0+((i+tn) % n) * 5) rfl rs (XC (by omega)) ?_
                   obtain ⟨H48,hH48⟩:∃ H48,L4.new (.cells [iv ((ds.getD ((i+tn) % n) Dc.z).d),iv ((ds.getD ((i+tn) % n) Dc.z).wl),iv ((ds.getD ((i+tn) % n) Dc.z).wh),iv ((ds.getD ((i+tn) % n) Dc.z).cl),iv ((ds.getD ((i+tn) % n) Dc.z).ch)] 52 false)=H48:=⟨_,rfl⟩
                   refine ZU (H':=H48) (k:=.heavy) rfl (by kernel_rfl) ((Yv (v:=.agg (Dc.f (ds.getD ((i+tn) % n) Dc.z)).toArray) VM zx rfl rfl rfl (by decide)).trans (by rw [← hH48];rfl)) (fun b e=>by cases e) ?_
                   obtain ⟨kH48,nH48,c48⟩:=ZP hH48;clear hH48
                   have c48:Cl H48 L4.next [iv ((ds.getD ((i+tn) % n) Dc.z).d),iv ((ds.getD ((i+tn) % n) Dc.z).wl),iv ((ds.getD ((i+tn) % n) Dc.z).wh),iv ((ds.getD ((i+tn) % n) Dc.z).cl),iv ((ds.getD ((i+tn) % n) Dc.z).ch)]:=c48
                   have mH48:=kH48.1
                   have hk:=hk.trans kH48
                   have hs:=kH48.sl0 hs
                   have hb:=kH48.sl0 hb
                   have kacc:=kacc.trans kH48
                   have rs:=kH48.rd rs (by simp)
                   obtain ⟨H49,kdH49,eH49,dH49,aH49,kbH49⟩:=Yu (P:=Try.prog) (lo:=lo) (k:=i) (t1:=22) VM Jh (c48.sl (Nat.le_refl 1)) rfl (by decide) rfl (by rw [WR,Xg]) (by omega) (hacc.keep kacc) (by omega) (by omega)
                   refine ZU (k:=kdH49) rfl (by cases wv<;>kernel_rfl) (eH49 _ _ _ _ _ _ _ rfl rfl) (VF dH49 _) ?_
                   have hk:=kbH49.keep hk (by omega)
                   have hs:=kbH49.sl hs (fun b e=>by have:=fs b e;omega)
                   have hb:=kbH49.sl hb (fun b e=>by have:=fb b e;omega)
                   have mH49:=kbH49.1
                   refine Za (v:=.slice (some ⟨H48.next,0,none⟩) (i+1) (i+1)) rfl ?_
                   refine Zb ?_
                   first | refine Zn ?_ | refine ZD ?_ | refine Zs ?_ | (refine Zo ?_;refine Zn ?_)
                   refine Za (v:=iv (i:Int)) rfl ?_
                   refine Zq (a:=(i:Int)) (b:=1) rfl rfl ⟨by omega,by omega⟩ ?_
                   refine Za (v:=iv ((i:Int)+1)) rfl ?_
                   refine Zb ?_
                   have hacc2:Acc lo H.next 52 H49 (.slice (some ⟨H48.next,0,none⟩) (i+1) (i+1)) (i+1) (dcc (oth ds tn (i+1))):=by rw [K4,V7,hl];exact aH49
                   exact ⟨k - 1,(i+1,_),by omega,⟨by simp only [];omega,hk,hs,hb,hacc2⟩,rfl,rfl,rfl,rfl,rfl,rfl,rfl,rfl,rfl,rfl,ivq (by simp only [];omega),trivial⟩
                  ·have q92:¬ ((i:Int) < (n:Int)):=of_decide_eq_false q92
                   have ein4:i=n:=by omega
                   rw [ein4] at hacc;obtain ⟨oa,oc,rfl,hso,_⟩:=hacc.sl;have fso:=hso.old
                   first | (refine Zz ?_;show wC _ _ _ _ _ _ _ _ _) | skip
                   refine Zc ?_
                   refine Za (v:=.slice oa n oc) rfl ?_
                   refine Za (v:=iv days) rfl ?_
                   refine Za (v:=iv limit) rfl ?_
                   have hpp:paT (oth ds tn n) days limit=(S,P,e):=by rw [← hpa,← hl];exact Uc WZ
                   obtain ⟨H50,fH50,kH50⟩:=XP (kn:=kn) (lo:=lo) (H:=L4) hso Xg (by omega) (by omega) (hkn 35) (days:=days) (limit:=limit);rw [hpp] at fH50
                   refine Zl (vs:=[.slice oa n oc,iv days,iv limit]) rfl (Zh fH50) ?_
                   have mH50:=kH50.1
                   have hk:=hk.trans kH50
                   have hs:=kH50.sl0 hs
                   have hb:=kH50.sl0 hb
                   have hso:=kH50.sl0 hso
                   refine Za (v:=.tuple #[iv S,iv P,iv e]) rfl ?_
                   refine Zd (v:=iv S) rfl (by kernel_rfl) ?_
                   refine Zd (v:=iv P) rfl (by kernel_rfl) ?_
                   refine Zd (v:=iv e) rfl (by kernel_rfl) ?_
                   refine Za (v:=iv S) rfl ?_
                   refine Za (v:=iv P) rfl ?_
                   refine Za (v:=iv e) rfl ?_
                   refine Zb ?_
                   refine Zc ?_
                   refine Za (v:=iv S) rfl ?_
                   refine Za (v:=iv S) rfl ?_
                   refine Xe (a:=S) rfl rfl ?_
                   refine Za (v:=.bool true) rfl ?_
                   refine Zi rfl (Za (v:=iv P) rfl ?_)
                   refine Zi rfl (Za (v:=iv P) rfl ?_)
                   refine Zi rfl (Xe (a:=P) rfl rfl ?_)
                   refine Zd (v:=.bool true) rfl rfl ?_
                   refine Za (v:=.bool true) rfl ?_
                   refine Zi rfl (Za (v:=iv e) rfl ?_)
                   refine Zi rfl (Za (v:=iv e) rfl ?_)
                   refine Zi rfl (Xe (a:=e) rfl rfl ?_)
                   refine Zd (v:=.bool true) rfl rfl ?_
                   refine Za (v:=.bool true) rfl ?_
                   obtain ⟨H51,fH51,kH51⟩:=XD (kn:=kn) (lo:=lo) (H:=H50) hkn (by omega)
                   refine Zi rfl (Zl (vs:=[]) rfl (Z8 (hkn 11) fH51) ?_)
                   have mH51:=kH51.1
                   have hk:=hk.trans kH51
                   have hs:=kH51.sl0 hs
                   have hb:=kH51.sl0 hb
                   have hso:=kH51.sl0 hso
                   refine Zd (v:=.bool true) rfl rfl ?_
                   refine Za (v:=.bool true) rfl ?_
                   refine Zb ?_
                   exact And.intro trivial (Exists.intro _ (And.intro rfl rfl))
                ·have g80:S < 0:=of_decide_eq_true g80
                 omega
               ·have g79:e≠0:=by simpa using g79
                omega
             ·have g77:S < (-1):=of_decide_eq_true g77
              refine Zi rfl (Zd (v:=.bool true) rfl rfl ?_)
              refine Zi rfl (Zd (v:=.bool true) rfl rfl ?_)
              refine Zd (v:=.bool true) rfl rfl ?_
              refine Zb ?_
              refine ZO ?_
              refine Zc ?_
              refine Za (v:=.bool false) rfl ?_
              refine Zb ?_
              exact (show False by omega).elim
            ·have g76:S < P:=of_decide_eq_true g76
             refine Zi rfl (Zd (v:=.bool true) rfl rfl ?_)
             refine Zi rfl (Zd (v:=.bool true) rfl rfl ?_)
             refine Zi rfl (Za (v:=.bool true) rfl ?_)
             refine Ze rfl ?_
             refine Ze rfl ?_
             refine Zi rfl (Zd (v:=.bool true) rfl rfl ?_)
             refine Zi rfl (Zd (v:=.bool true) rfl rfl ?_)
             refine Zd (v:=.bool true) rfl rfl ?_
             refine Zb ?_
             refine ZO ?_
             refine Zc ?_
             refine Za (v:=.bool false) rfl ?_
             refine Zb ?_
             exact (show False by omega).elim
          ·have g62:P < 0:=of_decide_eq_true g62
           refine Zi rfl (Za (v:=.bool true) rfl ?_)
           refine Ze rfl ?_
           refine Ze rfl ?_
           refine Ze rfl ?_
           refine Zk rfl ?_
           refine Zk rfl ?_
           refine Zk rfl ?_
           refine Ze rfl ?_
           refine Zi rfl (Zd (v:=.bool true) rfl rfl ?_)
           refine Zi rfl (Za (v:=.bool true) rfl ?_)
           refine Ze rfl ?_
           refine Ze rfl ?_
           refine Zi rfl (Zd (v:=.bool true) rfl rfl ?_)
           refine Zi rfl (Zd (v:=.bool true) rfl rfl ?_)
           refine Zd (v:=.bool true) rfl rfl ?_
           refine Zb ?_
           refine ZO ?_
           refine Zc ?_
           refine Za (v:=.bool false) rfl ?_
           refine Zb ?_
           exact (show False by omega).elim
        ·have g51:limit < 0:=of_decide_eq_true g51
         refine Zd (v:=.bool true) rfl rfl ?_
         refine Za (v:=.bool true) rfl ?_
         refine Ze rfl ?_
         refine Ze rfl ?_
         refine Ze rfl ?_
         refine Zk rfl ?_
         refine Zk rfl ?_
         refine Zk rfl ?_
         refine Zk rfl ?_
         refine Zk rfl ?_
         refine Zk rfl ?_
         refine Zk rfl ?_
         refine Zk rfl ?_
         refine Zk rfl ?_
         refine Zk rfl ?_
         refine Zk rfl ?_
         refine Zk rfl ?_
         refine Zk rfl ?_
         refine Zk rfl ?_
         refine Zk rfl ?_
         refine Ze rfl ?_
         refine Zd (v:=.bool true) rfl rfl ?_
         refine Zb ?_
         refine ZO ?_
         refine Zc ?_
         refine Za (v:=.bool false) rfl ?_
         refine Zb ?_
         exact (show False by omega).elim
       ·have g50:days > 366:=of_decide_eq_true g50
        refine Zd (v:=.bool true) rfl rfl ?_
        refine Za (v:=.bool true) rfl ?_
        refine Ze rfl ?_
        refine Ze rfl ?_
        refine Zd (v:=.bool true) rfl rfl ?_
        refine Za (v:=.bool true) rfl ?_
        refine Ze rfl ?_
        refine Ze rfl ?_
        refine Ze rfl ?_
        refine Zk rfl ?_
        refine Zk rfl ?_
        refine Zk rfl ?_
        refine Zk rfl ?_
        refine Zk rfl ?_
        refine Zk rfl ?_
        refine Zk rfl ?_
        refine Zk rfl ?_
        refine Zk rfl ?_
        refine Zk rfl ?_
        refine Zk rfl ?_
        refine Zk rfl ?_
        refine Zk rfl ?_
        refine Zk rfl ?_
        refine Zk rfl ?_
        refine Ze rfl ?_
        refine Zd (v:=.bool true) rfl rfl ?_
        refine Zb ?_
        refine ZO ?_
        refine Zc ?_
        refine Za (v:=.bool false) rfl ?_
        refine Zb ?_
        exact (show False by omega).elim
      ·have g49:days < 1:=of_decide_eq_true g49
       refine Zd (v:=.bool true) rfl rfl ?_
       refine Za (v:=.bool true) rfl ?_
       refine Ze rfl ?_
       refine Ze rfl ?_
       refine Zd (v:=.bool true) rfl rfl ?_
       refine Za (v:=.bool true) rfl ?_
       refine Ze rfl ?_
       refine Ze rfl ?_
       refine Zd (v:=.bool true) rfl rfl ?_
       refine Za (v:=.bool true) rfl ?_
       refine Ze rfl ?_
       refine Ze rfl ?_
       refine Ze rfl ?_
       refine Zk rfl ?_
       refine Zk rfl ?_
       refine Zk rfl ?_
       refine Zk rfl ?_
       refine Zk rfl ?_
       refine Zk rfl ?_
       refine Zk rfl ?_
       refine Zk rfl ?_
       refine Zk rfl ?_
       refine Zk rfl ?_
       refine Zk rfl ?_
       refine Zk rfl ?_
       refine Zk rfl ?_
       refine Zk rfl ?_
       refine Zk rfl ?_
       refine Ze rfl ?_
       refine Zd (v:=.bool true) rfl rfl ?_
       refine Zb ?_
       refine ZO ?_
       refine Zc ?_
       refine Za (v:=.bool false) rfl ?_
       refine Zb ?_
       exact (show False by omega).elim
    ·have g48:e≠4:=by simpa using g48
     refine Zd (v:=.bool true) rfl rfl ?_
     refine Zb ?_
     refine ZO ?_
     refine Zc ?_
     refine Za (v:=iv S) rfl ?_
     refine YT (a:=S) (b:=0) rfl rfl ?_
     intro t93 g93;cases t93
     ·have g93:¬ (S=0):=by simpa using g93
      refine Za (v:=.bool false) rfl ?_
      refine Ze rfl ?_
      refine Ze rfl ?_
      refine Zd (v:=.bool false) rfl rfl ?_
      refine Za (v:=.bool false) rfl ?_
      refine Ze rfl ?_
      refine Ze rfl ?_
      refine Ze rfl ?_
      refine Zk rfl ?_
      refine Zk rfl ?_
      refine Ze rfl ?_
      refine Zd (v:=.bool false) rfl rfl ?_
      refine Za (v:=.bool false) rfl ?_
      refine Ze rfl ?_
      refine Zd (v:=.bool false) rfl rfl ?_
      refine Za (v:=.bool false) rfl ?_
      refine Zb ?_
      exact (show False by omega).elim
     ·have g93:S=0:=by simpa using g93
      refine Za (v:=.bool true) rfl ?_
      refine Zi rfl (Za (v:=iv P) rfl ?_)
      refine Zi rfl (YT (a:=P) (b:=0) rfl rfl ?_)
      intro t94 g94;cases t94
      ·have g94:¬ (P=0):=by simpa using g94
       refine Zd (v:=.bool false) rfl rfl ?_
       refine Za (v:=.bool false) rfl ?_
       refine Ze rfl ?_
       refine Ze rfl ?_
       refine Ze rfl ?_
       refine Zk rfl ?_
       refine Zk rfl ?_
       refine Ze rfl ?_
       refine Zd (v:=.bool false) rfl rfl ?_
       refine Za (v:=.bool false) rfl ?_
       refine Ze rfl ?_
       refine Zd (v:=.bool false) rfl rfl ?_
       refine Za (v:=.bool false) rfl ?_
       refine Zb ?_
       exact (show False by omega).elim
      ·have g94:P=0:=by simpa using g94
       refine Zd (v:=.bool true) rfl rfl ?_
       refine Za (v:=.bool true) rfl ?_
       refine Zi rfl (Za (v:=iv e) rfl ?_)
       refine Zi rfl (YT (a:=e) (b:=1) rfl rfl ?_)
       intro t95 g95;cases t95
       ·have g95:¬ (e=1):=by simpa using g95
        refine Zi rfl (Za (v:=.bool false) rfl ?_)
        refine Zi rfl (Za (v:=iv e) rfl ?_)
        refine Zi rfl (YT (a:=e) (b:=2) rfl rfl ?_)
        intro t96 g96;cases t96
        ·have g96:¬ (e=2):=by simpa using g96
         refine Zi rfl (Zd (v:=.bool false) rfl rfl ?_)
         refine Zd (v:=.bool false) rfl rfl ?_
         refine Za (v:=.bool false) rfl ?_
         refine Ze rfl ?_
         refine Zd (v:=.bool false) rfl rfl ?_
         refine Za (v:=.bool false) rfl ?_
         refine Zb ?_
         exact (show False by omega).elim
        ·have g96:e=2:=by simpa using g96
         refine Zi rfl (Zd (v:=.bool true) rfl rfl ?_)
         refine Zd (v:=.bool true) rfl rfl ?_
         refine Za (v:=.bool true) rfl ?_
         obtain ⟨H52,fH52,kH52⟩:=XD (kn:=kn) (lo:=lo) (H:=H1) hkn (by omega)
         refine Zi rfl (Zl (vs:=[]) rfl (Z8 (hkn 11) fH52) ?_)
         have mH52:=kH52.1
         have hk:=hk.trans kH52
         have hs:=kH52.sl0 hs
         have hb:=kH52.sl0 hb
         refine Zd (v:=.bool true) rfl rfl ?_
         refine Za (v:=.bool true) rfl ?_
         refine Zb ?_
         exact And.intro trivial (Exists.intro _ (And.intro rfl rfl))
       ·have g95:e=1:=by simpa using g95
        refine Zi rfl (Za (v:=.bool true) rfl ?_)
        refine Ze rfl ?_
        refine Ze rfl ?_
        refine Zi rfl (Zd (v:=.bool true) rfl rfl ?_)
        refine Zd (v:=.bool true) rfl rfl ?_
        refine Za (v:=.bool true) rfl ?_
        obtain ⟨H53,fH53,kH53⟩:=XD (kn:=kn) (lo:=lo) (H:=H1) hkn (by omega)
        refine Zi rfl (Zl (vs:=[]) rfl (Z8 (hkn 11) fH53) ?_)
        have mH53:=kH53.1
        have hk:=hk.trans kH53
        have hs:=kH53.sl0 hs
        have hb:=kH53.sl0 hb
        refine Zd (v:=.bool true) rfl rfl ?_
        refine Za (v:=.bool true) rfl ?_
        refine Zb ?_
        exact And.intro trivial (Exists.intro _ (And.intro rfl rfl))
  ·have g2:(bn:Int)=0:=by simpa using g2
   refine Zd (v:=.bool true) rfl rfl ?_
   refine Zb ?_
   refine ZO ?_
   refine Zc ?_
   obtain ⟨H54,fH54,kH54⟩:=XD (kn:=kn) (lo:=lo) (H:=H) hkn (by omega)
   refine Zl (vs:=[]) rfl (Z8 (hkn 11) fH54) ?_
   have mH54:=kH54.1
   have hk:=hk.trans kH54
   have hs:=kH54.sl0 hs
   have hb:=kH54.sl0 hb
   refine Za (v:=.bool true) rfl ?_
   refine Zb ?_
   exact And.intro trivial (Exists.intro _ (And.intro rfl rfl))
 ·have g1:(n:Int) > 40:=of_decide_eq_true g1
  refine Za (v:=.bool true) rfl ?_
  refine Ze rfl ?_
  refine Ze rfl ?_
  refine Ze rfl ?_
  refine Zd (v:=.bool true) rfl rfl ?_
  refine Zb ?_
  refine ZO ?_
  refine Zc ?_
  obtain ⟨H55,fH55,kH55⟩:=XD (kn:=kn) (lo:=lo) (H:=H) hkn (by omega)
  refine Zl (vs:=[]) rfl (Z8 (hkn 11) fH55) ?_
  have mH55:=kH55.1
  have hk:=hk.trans kH55
  have hs:=kH55.sl0 hs
  have hb:=kH55.sl0 hb
  refine Za (v:=.bool true) rfl ?_
  refine Zb ?_
  exact And.intro trivial (Exists.intro _ (And.intro rfl rfl))
end
end Go.Ax


import Derived.Test.YtobbfhkodccclaaMg
set_option linter.all false
/-
 Pool: the law QuotaCrops,whatever the input: the program (written by program).
-/
namespace Go.Ax
open Go Go.RowKit Go.Proofs

noncomputable section
theorem Ze9:ZS Try.prog 22=some (52,3):=by kernel_rfl
theorem ZhO:Try.prog.underlying 22=some (.slice 52):=by kernel_rfl
theorem ZhF:Yt Try.prog 52=some (.agg #[iv 0,iv 0,iv 0]):=by kernel_rfl
theorem Zha {b p:Int} (hb:0≤b) (hp:p≤1000):b * p / 1000≤b:=Int.ediv_le_of_le_mul (by decide) (Int.mul_le_mul_of_nonneg_left hp hb)
theorem Xt0 {g:Gl} {cs:List Cp} {x:Int}:Xt (ZN g x (cs.take 0)) 0 0:=.inl ⟨rfl,rfl,rfl⟩
theorem ZeB {i t n:Nat}:((i:Int)+(t:Int)) % (n:Int)=(((i+t) % n:Nat):Int):=by
 rw [← Int.natCast_add,← Int.natCast_emod]
set_option maxRecDepth 100000 in
theorem Zf2 {k:Nat} {S:Rg} {d:Option Tmp} {ty:TypeId} {p:String} {x:Operand} {y:Int} (h:0≤y∧y≤255) (hx:evS S x=some (.int .u8 y)):Zn Try.prog (frS k S) ⟨d,.convert 5 3 x,ty,p,#[],none⟩=some (iv y):=by
 have e:∀ z:Int,ZH Try.prog (Go.convert 5 3 (.int .u8 z))=some (.int .i64 (IntKind.i64.wrap z)):=fun z=>by kernel_rfl
 unfold Zn
 simp only [Yo,hx,e,wrap_i64 (x:=y) ⟨by omega,by omega⟩]
 rfl
section
variable {kn:Kn} {lo:Nat} {H:Hp}
set_option maxRecDepth 100000 in
set_option maxHeartbeats 8000000 in
theorem Zcu (s:Snd Try.prog kn) (hkn0:kn.b 10=some true) {cs:List Cp} {sa:Option Addr} {n cap:Nat} (hs:Sl H sa n cap (cpc cs)) (hl:cs.length=n) {g:Gl} {y3 y4 y5:Int} (hy3:0≤y3∧y3≤255) (hy4:0≤y4∧y4≤255) (hy5:0≤y5∧y5≤4294967295) (hlo:lo≤H.next):FnC Try.prog lo 7 [.slice sa n cap,.agg (Gl.f g).toArray,.int .u8 y3,.int .u8 y4,.int .u32 y5] H fun v _=>v=.bool true:=by
 refine ZbW s Try.func7 B7 N7 Z7 L7 (by simp) ?_
 obtain ⟨t,rfl⟩:∃ t:Nat,y3=(t:Int):=⟨y3.toNat,by omega⟩
 have hk:=Keep.refl H []
 have fs:=hs.old
 refine Zk<|UJ (v:=.agg (Gl.f g).toArray) rfl ?_
 intro H1 kH1 nH1 c1
 have c1:Cl H1 H.next [iv g.y,iv g.k,iv g.b,iv g.p]:=c1
 have mH1:=kH1.1
 have hk:=hk.trans kH1
 have hs:=kH1.sl0 hs
 refine Zd rfl<|Zh<|Zk<|Zd rfl<|XR (m:=n) rfl<|jm (a:=(n:Int)) (b:=60) rfl rfl<|Zh ?_
 refine And.intro (fun q1=>?_) (fun q1=>?_)
 ·have q1:(n:Int) > 60:=of_decide_eq_true q1
  refine Zk<|Z6 s (vs:=[]) rfl (Vu hkn0)<|Zd rfl<|Zh ?_
  exact And.intro trivial (Exists.intro _ (And.intro rfl rfl))
 ·have q1:¬ ((n:Int) > 60):=of_decide_eq_false q1
  have hmn:qS n=false:=qO (by omega)
  first | refine ZV ?_ | skip
  refine Zk<|Zd rfl<|Y1 (b:=H.next) (o:=0) rfl c1.rd (show row 4 _ _=some [iv g.y,iv g.k,iv g.b,iv g.p] from rfl)<|YR (t:=.fn (.func 11) #[]) (vs:=[.slice sa n cap,.agg (Gl.f g).toArray]) rfl (Ye s.hN (U6 (H:=H1) s hs hl (by omega) (by omega) (qO (by omega)) (g:=g))) ?_
  rintro _ H2 ⟨uq,rfl,hu,kH2⟩
  have mH2:=kH2.1
  have hk:=hk.trans kH2
  have hs:=kH2.sl0 hs
  have c1:=kH2.cl c1 (by simp)
  cases hvA:vA cs g
  ·have hqE:quE cs g=1:=by unfold quE;rw [hvA];rfl
   have hqL:quL cs g=[]:=by unfold quL;rw [hvA];rfl
   rw [hqL] at hu
   rw [hqE]
   obtain ⟨qa,qcap,rfl,hq,_⟩:=hu.sl
   have fq:=hq.old
   refine Zd rfl<|Zo (v:=.slice qa 0 qcap) rfl (by kernel_rfl)<|Zo (v:=iv 1) rfl (by kernel_rfl)<|Zd rfl<|Zd rfl<|Zh<|Zk<|Zd rfl<|zx (a:=1) (b:=0) rfl rfl ?_
   rw [show ((1:Int) != (0:Int))=true from by simp]
   refine Zh<|YN<|Zk<|Zd rfl<|XR (m:=0) rfl<|UU (a:=0) (b:=0) rfl rfl ?_
   intro t3 ht3
   have t3e:t3=true:=by rw [← ht3];exact (by simp)
   subst t3e
   refine Zd rfl ?_
   refine YH rfl (Zd rfl ?_)
   refine YH rfl (UU (a:=1) (b:=1) rfl rfl ?_)
   intro t4 ht4
   have t4e:t4=true:=by rw [← ht4];exact (by simp)
   subst t4e
   refine Zo (v:=.bool true) rfl rfl<|Zd rfl ?_
   refine YH rfl (Z6 s (vs:=[]) rfl (Vu hkn0) ?_)
   refine Zo (v:=.bool true) rfl rfl<|Zd rfl<|Zh ?_
   exact And.intro trivial (Exists.intro _ (And.intro rfl rfl))
  ·have hqE:quE cs g=0:=by unfold quE;rw [hvA];rfl
   have hqL:quL cs g=(qtL g.p (mbL g cs)):=by unfold quL;rw [if_pos hvA]
   have hb:=(zt hvA).1;have hg:=(zt hvA).2;have hgt:=zf hg;have hmlen:=U3 (g:=g) hb;have hmok:=zB hb hg
   rw [hqL,Yb] at hu
   rw [hqE]
   obtain ⟨qa,qcap,rfl,hq,_⟩:=hu.sl
   have fq:=hq.old
   refine Zd rfl<|Zo (v:=.slice qa ((mbL g cs).length) qcap) rfl (by kernel_rfl)<|Zo (v:=iv 0) rfl (by kernel_rfl)<|Zd rfl<|Zd rfl<|Zh<|Zk<|Zd rfl<|zx (a:=0) (b:=0) rfl rfl ?_
   rw [show ((0:Int) != (0:Int))=false from by simp]
   refine Zh<|ZQ ?_
   first | refine ZV ?_ | skip
   refine Zk<|Zd rfl<|Y1 (b:=H.next) (o:=0) rfl c1.rd (show row 4 _ _=some [iv g.y,iv g.k,iv g.b,iv g.p] from rfl) ?_
   obtain ⟨H5,fH5,kH5⟩:=ZjA (kn:=kn) (lo:=lo) (H:=H2) hs hl (by omega) (by omega) (g:=g)
   rw [hvA] at fH5
   refine Z6 s (v:=.bool true) (vs:=[.slice sa n cap,.agg (Gl.f g).toArray]) rfl (Zi fH5) ?_
   have mH5:=kH5.1
   have hk:=hk.trans kH5
   have hs:=kH5.sl0 hs
   have c1:=kH5.cl c1 (by simp)
   have hq:=kH5.sl0 hq
   refine Zo (v:=.bool false) rfl rfl<|Zh<|ZQ ?_
   first | refine ZV ?_ | skip
   refine Zk<|Zd rfl<|Zh ?_
   refine XL s (fn:=Try.f7) Zkx N7 ZjW (fun i:Nat=>[(0,.slice sa n cap),(2,.int .u8 (t:Int)),(3,.int .u8 y4),(4,.int .u32 y5),(6,pt H.next),(11,.slice qa ((mbL g cs).length) qcap),(13,iv (i:Int))])
    (fun k i H'=>i+k=(mbL g cs).length∧Keep H H' []∧H2.next≤H'.next∧Sl H' sa n cap (cpc cs)∧Sl H' qa (mbL g cs).length qcap (qtc (qtL g.p (mbL g cs)))∧Cl H' H.next [iv g.y,iv g.k,iv g.b,iv g.p]) (mbL g cs).length 0 ⟨by omega,hk,by omega,hs,hq,c1⟩ ⟨rfl,rfl,rfl,rfl,rfl,rfl,rfl,trivial⟩ ?_
   rintro k i L1 ⟨hik,hk,hnx,hs,hq,c1⟩
   have mk:=hk.1;have mc:=c1.1
   refine Zk<|Zd rfl<|Zd rfl<|XR (m:=(mbL g cs).length) rfl<|Vf (a:=(i:Int)) (b:=((mbL g cs).length:Int)) rfl rfl<|Zh ?_
   refine And.intro (fun q2=>?_) (fun q2=>?_)
   ·have q2:(i:Int) < ((mbL g cs).length:Int):=of_decide_eq_true q2
    have hi:i < (mbL g cs).length:=by omega
    rcases id hq with ⟨_,h0q,_⟩ | ⟨qb,eq,rq,_⟩
    ·omega
    have lq:=rq.1
    have lqb:=fq qb eq
    rcases id hs with ⟨_,h0s,_⟩ | ⟨sb,es,rs,_⟩
    ·omega
    have ls:=rs.1
    have lsb:=fs sb es
    have hmi:=Xz (z:=Mb.z) hmok hi
    obtain ⟨hm1,hm2,hm3,hm4⟩:=hmi
    have hpl:=Zha hm3 hgt.2.2.2.2.2.2.2
    first | refine ZV ?_ | skip
    refine Zk<|Zd rfl<|Zd rfl<|Zd rfl<|Zh<|Zk<|Zd rfl<|Zh ?_
    refine XL s (fn:=Try.f7) ZjL N7 ZjX (fun p:Nat × Int × Int=>[(0,.slice sa n cap),(2,.int .u8 (t:Int)),(3,.int .u8 y4),(4,.int .u32 y5),(6,pt H.next),(11,.slice qa ((mbL g cs).length) qcap),(13,iv (i:Int)),(14,iv p.2.1),(15,iv p.2.2),(16,iv ((ZN g ((mbL g cs).getD i Mb.z).g (cs.take p.1)).length:Int)),(17,iv (p.1:Int))])
     (fun k p H'=>p.1+k=n∧Keep H H' []∧H2.next≤H'.next∧Sl H' sa n cap (cpc cs)∧Sl H' qa (mbL g cs).length qcap (qtc (qtL g.p (mbL g cs)))∧Cl H' H.next [iv g.y,iv g.k,iv g.b,iv g.p]∧Rd H' qb (qtc (qtL g.p (mbL g cs)))∧Rd H' sb (cpc cs)∧Xt (ZN g ((mbL g cs).getD i Mb.z).g (cs.take p.1)) p.2.1 p.2.2) n (0,0,0) ⟨by simp,hk,by omega,hs,hq,c1,rq,rs,Xt0⟩ ⟨rfl,rfl,rfl,rfl,rfl,rfl,rfl,rfl,rfl,rfl,rfl,trivial⟩ ?_
    rintro k2 ⟨j,le,mo⟩ L2 ⟨hjk,hk,hnx,hs,hq,c1,rq,rs,hx⟩
    have mk:=hk.1;have mc:=c1.1
    simp only [] at hjk hx
    have hal:=zN (g:=g) (x:=((mbL g cs).getD i Mb.z).g) (cs:=cs.take j)
    rw [List.length_take] at hal
    have hxi:=hx.in (B:=1099511627776) (by decide) fun a ha=>Kz hb a (by obtain ⟨c,hc,e⟩:=List.mem_map.1 ha;exact List.mem_map.2 ⟨c,List.mem_filter.2 ⟨List.mem_of_mem_take (List.mem_filter.1 hc).1,(List.mem_filter.1 hc).2⟩,e⟩)
    refine Zk<|Zd rfl<|Zd rfl<|XR (m:=n) rfl<|Vf (a:=(j:Int)) (b:=(n:Int)) rfl rfl<|Zh ?_
    refine And.intro (fun q3=>?_) (fun q3=>?_)
    ·have q3:(j:Int) < (n:Int):=of_decide_eq_true q3
     have hj:j < n:=by omega
     have hcj:=Qz (Za2 (z:=Cp.z) hb (j:=j) (by omega))
     first | refine ZV ?_ | skip
     refine Zk<|Zd rfl<|Zd rfl<|Qx (b:=sb) (o:=0) (k:=j) (j:=(j:Int)) (by rw [← es];rfl) rfl rfl hj<|Y1 (b:=sb) (o:=0+j * 3) rfl rs (W9 (by omega))<|qx ?_
     intro H6 kH6 nH6 c6
     have c6:Cl H6 L2.next [iv 0,iv 0,iv 0]:=c6
     have mH6:=kH6.1
     have hk:=hk.trans kH6
     have hs:=kH6.sl0 hs
     have c1:=kH6.cl c1 (by simp)
     have hq:=kH6.sl0 hq
     have rq:=kH6.rd rq (by simp)
     have rs:=kH6.rd rs (by simp)
     refine qU (b:=L2.next) (o:=0) rfl rfl c6 (by omega) rfl rfl (by simp) ?_
     intro H7 kH7 nH7 sH7
     have mH7:=kH7.1
     have hk:=hk.new kH7 (fun b hb=>by simp at hb ⊢;omega)
     have hs:=kH7.sl hs (fun b e=>by have:=fs b e;first | (simp;done) | (simp;omega))
     have c1:=kH7.cl c1 (by first | (simp;done) | (simp;omega))
     have hq:=kH7.sl hq (fun b e=>by have:=fq b e;first | (simp;done) | (simp;omega))
     have rq:=kH7.rd rq (by first | (simp;done) | (simp;omega))
     have rs:=kH7.rd rs (by first | (simp;done) | (simp;omega))
     have c6:Cl H7 L2.next [iv ((cs.getD j Cp.z).r),iv ((cs.getD j Cp.z).y),iv ((cs.getD j Cp.z).a)]:=sH7
     refine Zh<|qy<|ZC (b:=L2.next) (o:=0) rfl<|ZD (b:=L2.next) (o:=0) (v:=iv ((cs.getD j Cp.z).r)) rfl c6.rd rfl<|Ze rfl<|Ze rfl<|Zw (b:=qb) (o:=0) (k:=i) (j:=(i:Int)) (by rw [← eq];rfl) rfl rfl hi<|ZC (b:=qb) (o:=0+i * 3) rfl<|ZD (b:=qb) (o:=0+i * 3) (v:=iv (((mbL g cs).getD i Mb.z).g)) rfl rq (by have:=Y3 (l:=(qtL g.p (mbL g cs))) (i:=i) (j:=0) (by rw [Yb];omega) rfl;rw [Xg (by omega)] at this;exact this)<|UF (a:=(cs.getD j Cp.z).r) (b:=((mbL g cs).getD i Mb.z).g) rfl rfl ?_
     intro t4 g4;cases t4
     ·have g4:¬ (((cs.getD j Cp.z).r)≠(((mbL g cs).getD i Mb.z).g)):=by simpa using g4
      refine Ze rfl ?_
      refine Zr rfl (ZC (b:=L2.next) (o:=0) rfl ?_)
      refine Zr rfl (ZD (b:=L2.next) (o:=1) (v:=iv ((cs.getD j Cp.z).y)) rfl c6.rd rfl ?_)
      refine Zr rfl (ZC (b:=H.next) (o:=0) rfl ?_)
      refine Zr rfl (ZD (b:=H.next) (o:=0) (v:=iv g.y) rfl c1.rd rfl ?_)
      refine Zr rfl (ZdM (a:=(cs.getD j Cp.z).y) (b:=g.y) rfl rfl ?_)
      intro t5 g5;cases t5
      ·have g5:¬ (((cs.getD j Cp.z).y) ≥ g.y):=of_decide_eq_false g5
       refine ZR (v:=.bool false) rfl rfl<|Ze rfl ?_
       refine Zr rfl (ZC (b:=L2.next) (o:=0) rfl ?_)
       refine Zr rfl (ZD (b:=L2.next) (o:=1) (v:=iv ((cs.getD j Cp.z).y)) rfl c6.rd rfl ?_)
       refine Zr rfl (ZC (b:=H.next) (o:=0) rfl ?_)
       refine Zr rfl (ZD (b:=H.next) (o:=0) (v:=iv g.y) rfl c1.rd rfl ?_)
       refine Zr rfl (ZC (b:=H.next) (o:=0) rfl ?_)
       refine Zr rfl (ZD (b:=H.next) (o:=1) (v:=iv g.k) rfl c1.rd rfl ?_)
       refine Zr rfl (Xd (a:=g.y) (b:=g.k) rfl rfl ⟨by omega,by omega⟩ ?_)
       refine Zr rfl (VL (a:=(cs.getD j Cp.z).y) (b:=g.y - g.k) rfl rfl ?_)
       intro t6 g6;cases t6
       ·have g6:¬ (((cs.getD j Cp.z).y) < (g.y - g.k)):=of_decide_eq_false g6
        refine ZR (v:=.bool false) rfl rfl ?_
        refine ZJ (by repeat' first | exact True.intro | exact (fun h=>h) | refine And.intro ?_ ?_ | (intro h;have h:(_:Nat)=_:=h;omega)) ?_
        refine ZQ ?_
        have hok:okX g ((mbL g cs).getD i Mb.z).g (cs.getD j Cp.z)=true:=by simp only [okX,inY,Bool.and_eq_true,decide_eq_true_eq];omega
        first | refine ZV ?_ | skip
        refine Zk<|Zd rfl<|UU (a:=((ZN g ((mbL g cs).getD i Mb.z).g (cs.take j)).length:Int)) (b:=0) rfl rfl ?_
        intro t7 g7;cases t7
        ·have g7:¬ (((ZN g ((mbL g cs).getD i Mb.z).g (cs.take j)).length:Int)=0):=by simpa using g7
         refine Zd rfl ?_
         refine YH rfl (YS (b:=L2.next) (o:=0) rfl ?_)
         refine YH rfl (XQ (b:=L2.next) (o:=2) (v:=iv ((cs.getD j Cp.z).a)) rfl c6.rd rfl ?_)
         refine YH rfl (Zd rfl ?_)
         refine YH rfl (Zag (a:=(cs.getD j Cp.z).a) (b:=le) rfl rfl ?_)
         intro t8 g8;cases t8
         ·have g8:¬ (((cs.getD j Cp.z).a) < le):=of_decide_eq_false g8
          refine Zo (v:=.bool false) rfl rfl<|Zh<|ZQ ?_
          first | refine ZV ?_ | skip
          refine Zk<|Zd rfl<|YS (b:=L2.next) (o:=0) rfl<|XQ (b:=L2.next) (o:=2) (v:=iv ((cs.getD j Cp.z).a)) rfl c6.rd rfl<|Zbv (a:=mo) (b:=(cs.getD j Cp.z).a) rfl rfl<|Zd rfl<|Zh ?_
          show Zm _ _ _ _ _ _ _ _
          refine Zd rfl<|YY (a:=((ZN g ((mbL g cs).getD i Mb.z).g (cs.take j)).length:Int)) (b:=1) rfl rfl ⟨by omega,by omega⟩<|Zd rfl<|Zh ?_
          show Zm _ _ _ _ _ _ _ _
          refine Zd rfl<|YY (a:=(j:Int)) (b:=1) rfl rfl ⟨by omega,by omega⟩<|Zd rfl<|Zh ?_
          have hX:Xt (ZN g ((mbL g cs).getD i Mb.z).g (cs.take (j+1))) le (max mo ((cs.getD j Cp.z).a)):=by
           rw [Va (by omega) hok]
           first | exact hx.add1 (by omega) (by omega) | exact hx.add2 (by omega) (by omega)
          exact ⟨k2 - 1,(j+1,le,max mo ((cs.getD j Cp.z).a)),by omega,⟨by simp only [];omega,hk,by omega,hs,hq,c1,rq,rs,hX⟩,rfl,rfl,rfl,rfl,rfl,rfl,rfl,rfl,rfl,by simp only [];rw [Va (by omega) hok,List.length_append];rfl,rfl,trivial⟩
         ·have g8:((cs.getD j Cp.z).a) < le:=of_decide_eq_true g8
          refine Zo (v:=.bool true) rfl rfl<|Zh<|YN<|Zk<|YS (b:=L2.next) (o:=0) rfl<|XQ (b:=L2.next) (o:=2) (v:=iv ((cs.getD j Cp.z).a)) rfl c6.rd rfl<|Zd rfl<|Zh<|Zk<|Zd rfl<|YS (b:=L2.next) (o:=0) rfl<|XQ (b:=L2.next) (o:=2) (v:=iv ((cs.getD j Cp.z).a)) rfl c6.rd rfl<|Zbv (a:=mo) (b:=(cs.getD j Cp.z).a) rfl rfl<|Zd rfl<|Zh ?_
          show Zm _ _ _ _ _ _ _ _
          refine Zd rfl<|YY (a:=((ZN g ((mbL g cs).getD i Mb.z).g (cs.take j)).length:Int)) (b:=1) rfl rfl ⟨by omega,by omega⟩<|Zd rfl<|Zh ?_
          show Zm _ _ _ _ _ _ _ _
          refine Zd rfl<|YY (a:=(j:Int)) (b:=1) rfl rfl ⟨by omega,by omega⟩<|Zd rfl<|Zh ?_
          have hX:Xt (ZN g ((mbL g cs).getD i Mb.z).g (cs.take (j+1))) ((cs.getD j Cp.z).a) (max mo ((cs.getD j Cp.z).a)):=by
           rw [Va (by omega) hok]
           first | exact hx.add1 (by omega) (by omega) | exact hx.add2 (by omega) (by omega)
          exact ⟨k2 - 1,(j+1,(cs.getD j Cp.z).a,max mo ((cs.getD j Cp.z).a)),by omega,⟨by simp only [];omega,hk,by omega,hs,hq,c1,rq,rs,hX⟩,rfl,rfl,rfl,rfl,rfl,rfl,rfl,rfl,rfl,by simp only [];rw [Va (by omega) hok,List.length_append];rfl,rfl,trivial⟩
        ·have g7:((ZN g ((mbL g cs).getD i Mb.z).g (cs.take j)).length:Int)=0:=by simpa using g7
         refine Zd rfl<|XU rfl<|XU rfl<|XU rfl<|XU rfl<|Zo (v:=.bool true) rfl rfl<|Zh<|YN<|Zk<|YS (b:=L2.next) (o:=0) rfl<|XQ (b:=L2.next) (o:=2) (v:=iv ((cs.getD j Cp.z).a)) rfl c6.rd rfl<|Zd rfl<|Zh<|Zk<|Zd rfl<|YS (b:=L2.next) (o:=0) rfl<|XQ (b:=L2.next) (o:=2) (v:=iv ((cs.getD j Cp.z).a)) rfl c6.rd rfl<|Zbv (a:=mo) (b:=(cs.getD j Cp.z).a) rfl rfl<|Zd rfl<|Zh ?_
         show Zm _ _ _ _ _ _ _ _
         refine Zd rfl<|YY (a:=((ZN g ((mbL g cs).getD i Mb.z).g (cs.take j)).length:Int)) (b:=1) rfl rfl ⟨by omega,by omega⟩<|Zd rfl<|Zh ?_
         show Zm _ _ _ _ _ _ _ _
         refine Zd rfl<|YY (a:=(j:Int)) (b:=1) rfl rfl ⟨by omega,by omega⟩<|Zd rfl<|Zh ?_
         have hX:Xt (ZN g ((mbL g cs).getD i Mb.z).g (cs.take (j+1))) ((cs.getD j Cp.z).a) (max mo ((cs.getD j Cp.z).a)):=by
          rw [Va (by omega) hok]
          first | exact hx.add1 (by omega) (by omega) | exact hx.add2 (by omega) (by omega)
         exact ⟨k2 - 1,(j+1,(cs.getD j Cp.z).a,max mo ((cs.getD j Cp.z).a)),by omega,⟨by simp only [];omega,hk,by omega,hs,hq,c1,rq,rs,hX⟩,rfl,rfl,rfl,rfl,rfl,rfl,rfl,rfl,rfl,by simp only [];rw [Va (by omega) hok,List.length_append];rfl,rfl,trivial⟩
       ·have g6:((cs.getD j Cp.z).y) < (g.y - g.k):=of_decide_eq_true g6
        refine ZR (v:=.bool true) rfl rfl ?_
        refine ZJ (by repeat' first | exact True.intro | exact (fun h=>h) | refine And.intro ?_ ?_ | (intro h;have h:(_:Nat)=_:=h;omega)) ?_
        refine YN ?_
        have hok:okX g ((mbL g cs).getD i Mb.z).g (cs.getD j Cp.z)=false:=by
         cases hqo:okX g ((mbL g cs).getD i Mb.z).g (cs.getD j Cp.z) with
         | false=>rfl
         | true=>exfalso;simp only [okX,inY,Bool.and_eq_true,decide_eq_true_eq] at hqo;omega
        first | (refine X2 ?_;show wCM _ _ _ _ _ _ _ _ _) | skip
        show Zm _ _ _ _ _ _ _ _
        refine Zd rfl<|YY (a:=(j:Int)) (b:=1) rfl rfl ⟨by omega,by omega⟩<|Zd rfl<|Zh ?_
        have hX:Xt (ZN g ((mbL g cs).getD i Mb.z).g (cs.take (j+1))) le mo:=by rw [Vt (by omega) hok];exact hx
        exact ⟨k2 - 1,(j+1,le,mo),by omega,⟨by simp only [];omega,hk,by omega,hs,hq,c1,rq,rs,hX⟩,rfl,rfl,rfl,rfl,rfl,rfl,rfl,rfl,rfl,by simp only [];rw [Vt (by omega) hok];rfl,rfl,trivial⟩
      ·have g5:((cs.getD j Cp.z).y) ≥ g.y:=of_decide_eq_true g5
       refine ZR (v:=.bool true) rfl rfl<|Ze rfl<|Zz rfl<|Zz rfl<|Zz rfl<|Zz rfl<|Zz rfl<|Zz rfl<|Zz rfl<|Zz rfl<|ZR (v:=.bool true) rfl rfl ?_
       refine ZJ (by repeat' first | exact True.intro | exact (fun h=>h) | refine And.intro ?_ ?_ | (intro h;have h:(_:Nat)=_:=h;omega)) ?_
       refine YN ?_
       have hok:okX g ((mbL g cs).getD i Mb.z).g (cs.getD j Cp.z)=false:=by
        cases hqo:okX g ((mbL g cs).getD i Mb.z).g (cs.getD j Cp.z) with
        | false=>rfl
        | true=>exfalso;simp only [okX,inY,Bool.and_eq_true,decide_eq_true_eq] at hqo;omega
       first | (refine X2 ?_;show wCM _ _ _ _ _ _ _ _ _) | skip
       show Zm _ _ _ _ _ _ _ _
       refine Zd rfl<|YY (a:=(j:Int)) (b:=1) rfl rfl ⟨by omega,by omega⟩<|Zd rfl<|Zh ?_
       have hX:Xt (ZN g ((mbL g cs).getD i Mb.z).g (cs.take (j+1))) le mo:=by rw [Vt (by omega) hok];exact hx
       exact ⟨k2 - 1,(j+1,le,mo),by omega,⟨by simp only [];omega,hk,by omega,hs,hq,c1,rq,rs,hX⟩,rfl,rfl,rfl,rfl,rfl,rfl,rfl,rfl,rfl,by simp only [];rw [Vt (by omega) hok];rfl,rfl,trivial⟩
     ·have g4:((cs.getD j Cp.z).r)≠(((mbL g cs).getD i Mb.z).g):=by simpa using g4
      refine Ze rfl<|Zz rfl<|Zz rfl<|Zz rfl<|Zz rfl<|Zz rfl<|ZR (v:=.bool true) rfl rfl<|Ze rfl<|Zz rfl<|Zz rfl<|Zz rfl<|Zz rfl<|Zz rfl<|Zz rfl<|Zz rfl<|Zz rfl<|ZR (v:=.bool true) rfl rfl ?_
      refine ZJ (by repeat' first | exact True.intro | exact (fun h=>h) | refine And.intro ?_ ?_ | (intro h;have h:(_:Nat)=_:=h;omega)) ?_
      refine YN ?_
      have hok:okX g ((mbL g cs).getD i Mb.z).g (cs.getD j Cp.z)=false:=by
       cases hqo:okX g ((mbL g cs).getD i Mb.z).g (cs.getD j Cp.z) with
       | false=>rfl
       | true=>exfalso;simp only [okX,inY,Bool.and_eq_true,decide_eq_true_eq] at hqo;omega
      first | (refine X2 ?_;show wCM _ _ _ _ _ _ _ _ _) | skip
      show Zm _ _ _ _ _ _ _ _
      refine Zd rfl<|YY (a:=(j:Int)) (b:=1) rfl rfl ⟨by omega,by omega⟩<|Zd rfl<|Zh ?_
      have hX:Xt (ZN g ((mbL g cs).getD i Mb.z).g (cs.take (j+1))) le mo:=by rw [Vt (by omega) hok];exact hx
      exact ⟨k2 - 1,(j+1,le,mo),by omega,⟨by simp only [];omega,hk,by omega,hs,hq,c1,rq,rs,hX⟩,rfl,rfl,rfl,rfl,rfl,rfl,rfl,rfl,rfl,by simp only [];rw [Vt (by omega) hok];rfl,rfl,trivial⟩
    ·have q3:¬ ((j:Int) < (n:Int)):=of_decide_eq_false q3
     have hmb:=ZfR (g:=g) hb hi
     have hj2:cs.take j=cs:=by rw [show j=cs.length by omega,List.take_length]
     have hA:(ZN g ((mbL g cs).getD i Mb.z).g (cs.take j)).length≠0:=by rw [hj2];exact fun q=>hmb.1 (List.eq_nil_of_length_eq_zero q)
     rw [hj2] at hx
     have hbe:=ZdZ hg hmb.1 hx
     rw [← hmb.2] at hbe
     obtain ⟨hbe1,hbe2,hbe3⟩:=hbe
     first | (refine X2 ?_;show wCM _ _ _ _ _ _ _ _ _) | skip
     refine qy<|Ze rfl<|UN (a:=((ZN g ((mbL g cs).getD i Mb.z).g (cs.take j)).length:Int)) (b:=0) rfl rfl ?_
     intro t9 g9;cases t9
     ·have g9:¬ (((ZN g ((mbL g cs).getD i Mb.z).g (cs.take j)).length:Int)=0):=by simpa using g9
      refine Ze rfl ?_
      refine Zr rfl (Ze rfl ?_)
      refine Zr rfl (Ze rfl ?_)
      refine Zr rfl (Zw (b:=qb) (o:=0) (k:=i) (j:=(i:Int)) (by rw [← eq];rfl) rfl rfl hi ?_)
      refine Zr rfl (ZC (b:=qb) (o:=0+i * 3) rfl ?_)
      refine Zr rfl (ZD (b:=qb) (o:=0+i * 3+1) (v:=iv (((mbL g cs).getD i Mb.z).b)) rfl rq (by have:=Y3 (l:=(qtL g.p (mbL g cs))) (i:=i) (j:=1) (by rw [Yb];omega) rfl;rw [Xg (by omega)] at this;exact this) ?_)
      refine Zr rfl (Ze rfl ?_)
      refine Zr rfl (VL (a:=((mbL g cs).getD i Mb.z).b) (b:=le) rfl rfl ?_)
      intro t10 g10;cases t10
      ·have g10:¬ ((((mbL g cs).getD i Mb.z).b) < le):=of_decide_eq_false g10
       refine ZR (v:=.bool false) rfl rfl<|Ze rfl ?_
       refine Zr rfl (Ze rfl ?_)
       refine Zr rfl (Ze rfl ?_)
       refine Zr rfl (Zw (b:=qb) (o:=0) (k:=i) (j:=(i:Int)) (by rw [← eq];rfl) rfl rfl hi ?_)
       refine Zr rfl (ZC (b:=qb) (o:=0+i * 3) rfl ?_)
       refine Zr rfl (ZD (b:=qb) (o:=0+i * 3+1) (v:=iv (((mbL g cs).getD i Mb.z).b)) rfl rq (by have:=Y3 (l:=(qtL g.p (mbL g cs))) (i:=i) (j:=1) (by rw [Yb];omega) rfl;rw [Xg (by omega)] at this;exact this) ?_)
       refine Zr rfl (Ze rfl ?_)
       refine Zr rfl (VF (a:=((mbL g cs).getD i Mb.z).b) (b:=mo) rfl rfl ?_)
       intro t11 g11;cases t11
       ·have g11:¬ ((((mbL g cs).getD i Mb.z).b) > mo):=of_decide_eq_false g11
        refine ZR (v:=.bool false) rfl rfl<|Ze rfl ?_
        refine Zr rfl (Ze rfl ?_)
        refine Zr rfl (Ze rfl ?_)
        refine Zr rfl (Zw (b:=qb) (o:=0) (k:=i) (j:=(i:Int)) (by rw [← eq];rfl) rfl rfl hi ?_)
        refine Zr rfl (ZC (b:=qb) (o:=0+i * 3) rfl ?_)
        refine Zr rfl (ZD (b:=qb) (o:=0+i * 3+2) (v:=iv (((mbL g cs).getD i Mb.z).b * g.p / 1000)) rfl rq (by have:=Y3 (l:=(qtL g.p (mbL g cs))) (i:=i) (j:=2) (by rw [Yb];omega) rfl;rw [Xg (by omega)] at this;exact this) ?_)
        refine Zr rfl (Ze rfl ?_)
        refine Zr rfl (Ze rfl ?_)
        refine Zr rfl (Zw (b:=qb) (o:=0) (k:=i) (j:=(i:Int)) (by rw [← eq];rfl) rfl rfl hi ?_)
        refine Zr rfl (ZC (b:=qb) (o:=0+i * 3) rfl ?_)
        refine Zr rfl (ZD (b:=qb) (o:=0+i * 3+1) (v:=iv (((mbL g cs).getD i Mb.z).b)) rfl rq (by have:=Y3 (l:=(qtL g.p (mbL g cs))) (i:=i) (j:=1) (by rw [Yb];omega) rfl;rw [Xg (by omega)] at this;exact this) ?_)
        refine Zr rfl (VF (a:=(((mbL g cs).getD i Mb.z).b * g.p / 1000)) (b:=((mbL g cs).getD i Mb.z).b) rfl rfl ?_)
        intro t12 g12;cases t12
        ·have g12:¬ ((((mbL g cs).getD i Mb.z).b * g.p / 1000) > (((mbL g cs).getD i Mb.z).b)):=of_decide_eq_false g12
         refine ZR (v:=.bool false) rfl rfl<|Ze rfl ?_
         refine Zr rfl (Ze rfl ?_)
         refine Zr rfl (VF (a:=(i:Int)) (b:=0) rfl rfl ?_)
         intro t13 g13;cases t13
         ·have g13:¬ ((i:Int) > 0):=of_decide_eq_false g13
          refine Zr rfl (Ze rfl ?_)
          refine Zz rfl<|Zz rfl<|Zz rfl<|Zz rfl<|Zz rfl<|Zz rfl<|Zz rfl<|Zz rfl<|Zz rfl<|Zz rfl<|Zz rfl<|Zz rfl ?_
          refine Zr rfl (ZR (v:=.bool false) rfl rfl ?_)
          refine ZR (v:=.bool false) rfl rfl<|Ze rfl ?_
          refine Zr rfl (ZC (b:=H.next) (o:=0) rfl ?_)
          refine Zr rfl (ZD (b:=H.next) (o:=2) (v:=iv g.b) rfl c1.rd rfl ?_)
          refine Zr rfl (UN (a:=g.b) (b:=1) rfl rfl ?_)
          intro t14 g14;cases t14
          ·have g14:¬ (g.b=1):=by simpa using g14
           refine Zr rfl (Ze rfl ?_)
           refine Zz rfl<|Zz rfl<|Zz rfl<|Zz rfl<|Zz rfl<|Zz rfl<|Zz rfl ?_
           refine Zr rfl (ZR (v:=.bool false) rfl rfl ?_)
           refine ZR (v:=.bool false) rfl rfl ?_
           refine ZJ (by repeat' first | exact True.intro | exact (fun h=>h) | refine And.intro ?_ ?_ | (intro h;have h:(_:Nat)=_:=h;omega)) ?_
           refine ZQ ?_
           first | refine ZV ?_ | skip
           show Zm _ _ _ _ _ _ _ _
           refine Zd rfl<|YY (a:=(i:Int)) (b:=1) rfl rfl ⟨by omega,by omega⟩<|Zd rfl<|Zh ?_
           exact ⟨k - 1,i+1,by omega,⟨by omega,hk,by omega,hs,hq,c1⟩,rfl,rfl,rfl,rfl,rfl,rfl,rfl,trivial⟩
          ·have g14:g.b=1:=by simpa using g14
           refine Zr rfl (Ze rfl ?_)
           refine Zr rfl (Ze rfl ?_)
           refine Zr rfl (Ze rfl ?_)
           refine Zr rfl (Zw (b:=qb) (o:=0) (k:=i) (j:=(i:Int)) (by rw [← eq];rfl) rfl rfl hi ?_)
           refine Zr rfl (ZC (b:=qb) (o:=0+i * 3) rfl ?_)
           refine Zr rfl (ZD (b:=qb) (o:=0+i * 3+1) (v:=iv (((mbL g cs).getD i Mb.z).b)) rfl rq (by have:=Y3 (l:=(qtL g.p (mbL g cs))) (i:=i) (j:=1) (by rw [Yb];omega) rfl;rw [Xg (by omega)] at this;exact this) ?_)
           refine Zr rfl (Ze rfl ?_)
           refine Zr rfl (UF (a:=((mbL g cs).getD i Mb.z).b) (b:=mo) rfl rfl ?_)
           intro t15 g15;cases t15
           ·have g15:¬ ((((mbL g cs).getD i Mb.z).b)≠mo):=by simpa using g15
            refine Zr rfl (ZR (v:=.bool false) rfl rfl ?_)
            refine ZR (v:=.bool false) rfl rfl ?_
            refine ZJ (by repeat' first | exact True.intro | exact (fun h=>h) | refine And.intro ?_ ?_ | (intro h;have h:(_:Nat)=_:=h;omega)) ?_
            refine ZQ ?_
            first | refine ZV ?_ | skip
            show Zm _ _ _ _ _ _ _ _
            refine Zd rfl<|YY (a:=(i:Int)) (b:=1) rfl rfl ⟨by omega,by omega⟩<|Zd rfl<|Zh ?_
            exact ⟨k - 1,i+1,by omega,⟨by omega,hk,by omega,hs,hq,c1⟩,rfl,rfl,rfl,rfl,rfl,rfl,rfl,trivial⟩
           ·have g15:(((mbL g cs).getD i Mb.z).b)≠mo:=by simpa using g15
            exact absurd (hbe3 g14) g15
         ·have g13:(i:Int) > 0:=of_decide_eq_true g13
          have hup:=ZiA (g:=g) (cs:=cs) (i:=i - 1) (j:=i) (by omega) hi
          refine Zr rfl (Ze rfl ?_)
          refine Zr rfl (Ze rfl ?_)
          refine Zr rfl (Ze rfl ?_)
          refine Zr rfl (Zw (b:=qb) (o:=0) (k:=i) (j:=(i:Int)) (by rw [← eq];rfl) rfl rfl hi ?_)
          refine Zr rfl (ZC (b:=qb) (o:=0+i * 3) rfl ?_)
          refine Zr rfl (ZD (b:=qb) (o:=0+i * 3) (v:=iv (((mbL g cs).getD i Mb.z).g)) rfl rq (by have:=Y3 (l:=(qtL g.p (mbL g cs))) (i:=i) (j:=0) (by rw [Yb];omega) rfl;rw [Xg (by omega)] at this;exact this) ?_)
          refine Zr rfl (Ze rfl ?_)
          refine Zr rfl (Ze rfl ?_)
          refine Zr rfl (Xd (a:=(i:Int)) (b:=1) rfl rfl ⟨by omega,by omega⟩ ?_)
          refine Zr rfl (Zw (b:=qb) (o:=0) (k:=i - 1) (j:=(i:Int) - 1) (by rw [← eq];rfl) rfl (by omega) (by omega) ?_)
          refine Zr rfl (ZC (b:=qb) (o:=0+(i - 1) * 3) rfl ?_)
          refine Zr rfl (ZD (b:=qb) (o:=0+(i - 1) * 3) (v:=iv (((mbL g cs).getD (i - 1) Mb.z).g)) rfl rq (by have:=Y3 (l:=(qtL g.p (mbL g cs))) (i:=(i - 1)) (j:=0) (by rw [Yb];omega) rfl;rw [Xg (by omega)] at this;exact this) ?_)
          refine Zr rfl (Zc0 (a:=((mbL g cs).getD i Mb.z).g) (b:=((mbL g cs).getD (i - 1) Mb.z).g) rfl rfl ?_)
          intro t16 g16;cases t16
          ·have g16:¬ ((((mbL g cs).getD i Mb.z).g)≤(((mbL g cs).getD (i - 1) Mb.z).g)):=of_decide_eq_false g16
           refine Zr rfl (ZR (v:=.bool false) rfl rfl ?_)
           refine ZR (v:=.bool false) rfl rfl<|Ze rfl ?_
           refine Zr rfl (ZC (b:=H.next) (o:=0) rfl ?_)
           refine Zr rfl (ZD (b:=H.next) (o:=2) (v:=iv g.b) rfl c1.rd rfl ?_)
           refine Zr rfl (UN (a:=g.b) (b:=1) rfl rfl ?_)
           intro t17 g17;cases t17
           ·have g17:¬ (g.b=1):=by simpa using g17
            refine Zr rfl (Ze rfl ?_)
            refine Zz rfl<|Zz rfl<|Zz rfl<|Zz rfl<|Zz rfl<|Zz rfl<|Zz rfl ?_
            refine Zr rfl (ZR (v:=.bool false) rfl rfl ?_)
            refine ZR (v:=.bool false) rfl rfl ?_
            refine ZJ (by repeat' first | exact True.intro | exact (fun h=>h) | refine And.intro ?_ ?_ | (intro h;have h:(_:Nat)=_:=h;omega)) ?_
            refine ZQ ?_
            first | refine ZV ?_ | skip
            show Zm _ _ _ _ _ _ _ _
            refine Zd rfl<|YY (a:=(i:Int)) (b:=1) rfl rfl ⟨by omega,by omega⟩<|Zd rfl<|Zh ?_
            exact ⟨k - 1,i+1,by omega,⟨by omega,hk,by omega,hs,hq,c1⟩,rfl,rfl,rfl,rfl,rfl,rfl,rfl,trivial⟩
           ·have g17:g.b=1:=by simpa using g17
            refine Zr rfl (Ze rfl ?_)
            refine Zr rfl (Ze rfl ?_)
            refine Zr rfl (Ze rfl ?_)
            refine Zr rfl (Zw (b:=qb) (o:=0) (k:=i) (j:=(i:Int)) (by rw [← eq];rfl) rfl rfl hi ?_)
            refine Zr rfl (ZC (b:=qb) (o:=0+i * 3) rfl ?_)
            refine Zr rfl (ZD (b:=qb) (o:=0+i * 3+1) (v:=iv (((mbL g cs).getD i Mb.z).b)) rfl rq (by have:=Y3 (l:=(qtL g.p (mbL g cs))) (i:=i) (j:=1) (by rw [Yb];omega) rfl;rw [Xg (by omega)] at this;exact this) ?_)
            refine Zr rfl (Ze rfl ?_)
            refine Zr rfl (UF (a:=((mbL g cs).getD i Mb.z).b) (b:=mo) rfl rfl ?_)
            intro t18 g18;cases t18
            ·have g18:¬ ((((mbL g cs).getD i Mb.z).b)≠mo):=by simpa using g18
             refine Zr rfl (ZR (v:=.bool false) rfl rfl ?_)
             refine ZR (v:=.bool false) rfl rfl ?_
             refine ZJ (by repeat' first | exact True.intro | exact (fun h=>h) | refine And.intro ?_ ?_ | (intro h;have h:(_:Nat)=_:=h;omega)) ?_
             refine ZQ ?_
             first | refine ZV ?_ | skip
             show Zm _ _ _ _ _ _ _ _
             refine Zd rfl<|YY (a:=(i:Int)) (b:=1) rfl rfl ⟨by omega,by omega⟩<|Zd rfl<|Zh ?_
             exact ⟨k - 1,i+1,by omega,⟨by omega,hk,by omega,hs,hq,c1⟩,rfl,rfl,rfl,rfl,rfl,rfl,rfl,trivial⟩
            ·have g18:(((mbL g cs).getD i Mb.z).b)≠mo:=by simpa using g18
             exact absurd (hbe3 g17) g18
          ·have g16:(((mbL g cs).getD i Mb.z).g)≤(((mbL g cs).getD (i - 1) Mb.z).g):=of_decide_eq_true g16
           omega
        ·have g12:(((mbL g cs).getD i Mb.z).b * g.p / 1000) > (((mbL g cs).getD i Mb.z).b):=of_decide_eq_true g12
         omega
       ·have g11:(((mbL g cs).getD i Mb.z).b) > mo:=of_decide_eq_true g11
        omega
      ·have g10:(((mbL g cs).getD i Mb.z).b) < le:=of_decide_eq_true g10
       omega
     ·have g9:((ZN g ((mbL g cs).getD i Mb.z).g (cs.take j)).length:Int)=0:=by simpa using g9
      omega
   ·have q2:¬ ((i:Int) < ((mbL g cs).length:Int)):=of_decide_eq_false q2
    first | (refine X2 ?_;show wCM _ _ _ _ _ _ _ _ _) | skip
    refine Zk<|Zd rfl<|XR (m:=n) rfl<|jM (a:=(n:Int)) (b:=0) rfl rfl<|Zh ?_
    refine And.intro (fun q19=>?_) (fun q19=>?_)
    ·have q19:(n:Int)=0:=by simpa using q19
     refine Zk<|Zd rfl<|XR (m:=(mbL g cs).length) rfl<|UU (a:=((mbL g cs).length:Int)) (b:=0) rfl rfl ?_
     intro t20 g20;cases t20
     ·have g20:¬ (((mbL g cs).length:Int)=0):=by simpa using g20
      omega
     ·have g20:((mbL g cs).length:Int)=0:=by simpa using g20
      refine Zd rfl ?_
      refine YH rfl (Z6 s (vs:=[]) rfl (Vu hkn0) ?_)
      refine Zo (v:=.bool true) rfl rfl<|Zd rfl<|Zh ?_
      exact And.intro trivial (Exists.intro _ (And.intro rfl rfl))
    ·have q19:¬ ((n:Int)=0):=by simpa using q19
     first | refine ZV ?_ | skip
     refine Zk<|Zd rfl<|Zh<|Zk<|Zd rfl<|Zh ?_
     have mB:H2.next≤L1.next:=hnx
     refine XL s (fn:=Try.f7) ZjS N7 ZjP (fun z:Nat × Value=>[(0,.slice sa n cap),(2,.int .u8 (t:Int)),(3,.int .u8 y4),(4,.int .u32 y5),(6,pt H.next),(11,.slice qa ((mbL g cs).length) qcap),(19,z.2),(20,iv (z.1:Int))])
      (fun k z H'=>z.1+k=n∧Keep H H' []∧L1.next≤H'.next∧Sl H' sa n cap (cpc cs)∧Sl H' qa (mbL g cs).length qcap (qtc (qtL g.p (mbL g cs)))∧Cl H' H.next [iv g.y,iv g.k,iv g.b,iv g.p]∧Acc lo L1.next 52 H' z.2 z.1 (cpc ((JX cs t).take z.1))) n (0,.slice none 0 0) ⟨by simp,hk,by omega,hs,hq,c1,.inl ⟨rfl,rfl,rfl⟩⟩ ⟨rfl,rfl,rfl,rfl,rfl,rfl,rfl,rfl,trivial⟩ ?_
     rintro k ⟨i,wv⟩ L3 ⟨hjk,hk,hnx,hs,hq,c1,hacc⟩
     have mk:=hk.1;have mc:=c1.1
     simp only [] at hjk hacc
     have kacc:=Keep.refl L3 []
     refine Zk<|Zd rfl<|Zd rfl<|XR (m:=n) rfl<|Vf (a:=(i:Int)) (b:=(n:Int)) rfl rfl<|Zh ?_
     refine And.intro (fun q21=>?_) (fun q21=>?_)
     ·have q21:(i:Int) < (n:Int):=of_decide_eq_true q21
      have hi:i < n:=by omega
      rcases id hs with ⟨_,h0s,_⟩ | ⟨sb,es,rs,_⟩
      ·omega
      have ls:=rs.1
      have lsb:=fs sb es
      have hkl:(i+t) % n < n:=Nat.mod_lt _ (by omega)
      first | refine ZV ?_ | skip
      show Zm _ _ _ _ _ _ _ _
      refine Zd rfl<|Zd rfl<|Zd rfl<|Zd rfl<|Zo (v:=iv (t:Int)) rfl (Zf2 ⟨by omega,by omega⟩ rfl)<|YY (a:=(i:Int)) (b:=(t:Int)) rfl rfl ⟨by omega,by omega⟩<|Zd rfl<|XR (m:=n) rfl<|Zdz (a:=(i:Int)+(t:Int)) (b:=(n:Int)) rfl rfl (by omega) (by omega) ⟨by omega,by omega⟩ ⟨by omega,by omega⟩ ?_
      rw [ZeB]
      refine Qx (b:=sb) (o:=0) (k:=((i+t) % n)) (j:=(((i+t) % n:Nat):Int)) (by rw [← es];rfl) rfl rfl hkl<|Y1 (b:=sb) (o:=0+((i+t) % n) * 3) rfl rs (W9 (by omega)) ?_
      obtain ⟨H8,hH8⟩:∃ H8,L3.new (.cells [iv ((cs.getD ((i+t) % n) Cp.z).r),iv ((cs.getD ((i+t) % n) Cp.z).y),iv ((cs.getD ((i+t) % n) Cp.z).a)] 52 false)=H8:=⟨_,rfl⟩
      refine Xm (H':=H8) (k:=.heavy) rfl (by kernel_rfl) ((Xj (v:=.agg (Cp.f (cs.getD ((i+t) % n) Cp.z)).toArray) Ze9 ZhF rfl rfl rfl (by decide)).trans (by rw [← hH8];rfl)) (fun b e=>by cases e) ?_
      obtain ⟨kH8,nH8,c8⟩:=ZO hH8;clear hH8
      have c8:Cl H8 L3.next [iv ((cs.getD ((i+t) % n) Cp.z).r),iv ((cs.getD ((i+t) % n) Cp.z).y),iv ((cs.getD ((i+t) % n) Cp.z).a)]:=c8
      have mH8:=kH8.1
      have hk:=hk.trans kH8
      have hs:=kH8.sl0 hs
      have c1:=kH8.cl c1 (by simp)
      have hq:=kH8.sl0 hq
      have kacc:=kacc.trans kH8
      have rs:=kH8.rd rs (by simp)
      obtain ⟨H9,kdH9,eH9,dH9,aH9,kbH9⟩:=Yu (P:=Try.prog) (lo:=lo) (k:=i) (t1:=22) Ze9 ZhO (c8.sl (Nat.le_refl 1)) rfl (by decide) rfl (by rw [KB,List.length_take,W6];omega) (by omega) (hacc.keep kacc) (by omega) (by omega)
      refine Xm (k:=kdH9) rfl (by cases wv<;>kernel_rfl) (eH9 _ _ _ _ _ _ _ rfl rfl) (Qs dH9 _) ?_
      have hk:=kbH9.keep hk (by omega)
      have hs:=kbH9.sl hs (fun b e=>by have:=fs b e;omega)
      have c1:=kbH9.cl c1 (by omega)
      have hq:=kbH9.sl hq (fun b e=>by have:=fq b e;omega)
      have mH9:=kbH9.1
      refine Zd rfl<|Zh ?_
      show Zm _ _ _ _ _ _ _ _
      refine Zd rfl<|YY (a:=(i:Int)) (b:=1) rfl rfl ⟨by omega,by omega⟩<|Zd rfl<|Zh ?_
      have hacc2:Acc lo L1.next 52 H9 (.slice (some ⟨H8.next,0,none⟩) (i+1) (i+1)) (i+1) (cpc ((JX cs t).take (i+1))):=by rw [Xu (z:=Cp.z) (by rw [W6];omega),Zfw (by omega)];unfold cpc at *;rw [List.flatMap_append];rw [hl];exact aH9
      exact ⟨k - 1,(i+1,_),by omega,⟨by simp only [];omega,hk,by omega,hs,hq,c1,hacc2⟩,rfl,rfl,rfl,rfl,rfl,rfl,rfl,rfl,trivial⟩
     ·have q21:¬ ((i:Int) < (n:Int)):=of_decide_eq_false q21
      have hrl:(JX cs t).take i=JX cs t:=List.take_of_length_le (by rw [W6];omega)
      rw [hrl] at hacc
      obtain ⟨oa,ocap,rfl,ho,_⟩:=hacc.sl
      have fo:=ho.old
      first | (refine X2 ?_;show wCM _ _ _ _ _ _ _ _ _) | skip
      refine Zk<|Zd rfl<|Y1 (b:=H.next) (o:=0) rfl c1.rd (show row 4 _ _=some [iv g.y,iv g.k,iv g.b,iv g.p] from rfl)<|YR (t:=.fn (.func 11) #[]) (vs:=[.slice oa i ocap,.agg (Gl.f g).toArray]) rfl (Ye s.hN (U6 (H:=L3) s ho (by rw [W6];omega) (by omega) (by omega) (qO (by omega)) (g:=g))) ?_
      rintro _ H10 ⟨uq2,rfl,hu2,kH10⟩
      have mH10:=kH10.1
      have hk:=hk.trans kH10
      have hs:=kH10.sl0 hs
      have c1:=kH10.cl c1 (by simp)
      have hq:=kH10.sl0 hq
      have ho:=kH10.sl0 ho
      obtain ⟨ep1,ep2⟩:=ZcW (g:=g) (Zco (ds:=cs) (t:=t))
      rw [ep1,hqL,Yb] at hu2
      rw [ep2,hqE]
      obtain ⟨s2,scap,rfl,hq2,_⟩:=hu2.sl
      have fq2:=hq2.old
      refine Zd rfl<|Zo (v:=.slice s2 ((mbL g cs).length) scap) rfl (by kernel_rfl)<|Zo (v:=iv 0) rfl (by kernel_rfl)<|Zd rfl<|Zd rfl<|Zh<|Zk<|Zd rfl<|Zo (v:=iv y4) rfl (Zf2 hy4 rfl)<|Zd rfl<|XR (m:=n) rfl ?_
      have hrm0:=Int.emod_nonneg y4 (b:=(n:Int)) (by omega)
      have hrm1:=Int.emod_lt_of_pos y4 (b:=(n:Int)) (by omega)
      obtain ⟨kq,hkq⟩:∃ kq:Nat,y4 % (n:Int)=(kq:Int):=⟨(y4 % (n:Int)).toNat,by omega⟩
      have hkn:kq < n:=by omega
      have hkl:kq < cs.length:=by omega
      refine Zdz (a:=y4) (b:=(n:Int)) rfl rfl (by omega) (by omega) ⟨by omega,by omega⟩ ⟨by omega,by omega⟩ ?_
      rw [hkq]
      have hck:=Qz (Za2 (z:=Cp.z) hb (j:=kq) hkl)
      refine Zd rfl<|Zh<|Zk ?_
      obtain ⟨H11,hH11⟩:∃ H11,H10.new (.cells [] 52 false)=H11:=⟨_,rfl⟩
      refine Xm (H':=H11) (k:=.heavy) rfl (by kernel_rfl) ((jS Ze9 ZhF).trans (by rw [hH11])) (fun b e=>by cases e) ?_
      obtain ⟨kH11,nH11,cH11⟩:=ZO hH11
      have gH11:=qz hH11
      have mH11:=kH11.1
      have hk:=hk.trans kH11
      have hs:=kH11.sl0 hs
      have c1:=kH11.cl c1 (by simp)
      have hq:=kH11.sl0 hq
      have ho:=kH11.sl0 ho
      have hq2:=kH11.sl0 hq2
      refine Zd rfl ?_
      obtain ⟨vH12,H12,kdH12,eH12,dH12,acH12,kH12⟩:=Q9 (P:=Try.prog) (lo:=lo) (H:=H11) (f:=H10.next) (t0:=22) (t1:=22) (e:=52) (b0:=H10.next) Ze9 ZhO hs (by rw [KB,hl]) (by omega) (by decide) gH11 (by omega) (by omega) (by omega) (by omega)
      rcases acH12 with ⟨q0,_⟩ | ⟨rb,rfl,_,hrf,hrl2,hrn,hrg⟩
      ·omega
      refine Xm (k:=kdH12) rfl (by kernel_rfl) (eH12 _ _ _ _ _ _ _ rfl rfl) (fun b q=>by rcases dH12 with z | z<;>rw [z] at q<;>cases q) ?_
      have mH12:=kH12.1
      have hk:=hk.trans kH12
      have hs:=kH12.sl0 hs
      have c1:=kH12.cl c1 (by simp)
      have hq:=kH12.sl0 hq
      have ho:=kH12.sl0 ho
      have hq2:=kH12.sl0 hq2
      have crb:Cl H12 rb (cpc cs):=⟨hrn,_,_,hrg⟩
      refine Zd rfl<|Zh<|Zk<|Zd rfl<|Zd rfl<|Zd rfl<|Zd rfl ?_
      rcases id hs with ⟨_,h0u,_⟩ | ⟨ub,eu,ru,_⟩
      ·omega
      have lu:=ru.1
      have lub:=fs ub eu
      refine Qx (b:=ub) (o:=0) (k:=kq) (j:=(kq:Int)) (by rw [← eu];rfl) rfl rfl hkn<|YS (b:=ub) (o:=0+kq * 3) rfl<|XQ (b:=ub) (o:=0+kq * 3+2) (v:=iv ((cs.getD kq Cp.z).a)) rfl ru (KN (l:=cs) (i:=kq) (j:=2) (by omega) rfl)<|Zd rfl<|Zo (v:=iv y5) rfl (Zh6 hy5 rfl)<|YY (a:=(cs.getD kq Cp.z).a) (b:=y5) rfl rfl ⟨by omega,by omega⟩<|Zbv (a:=1099511627776) (b:=((cs.getD kq Cp.z).a)+y5) rfl rfl<|Qx (b:=rb) (o:=0) (k:=kq) (j:=(kq:Int)) rfl rfl rfl hkn<|YS (b:=rb) (o:=0+kq * 3) rfl<|Zf8 (b:=rb) (o:=0+kq * 3+2) (v:=iv (min 1099511627776 ((cs.getD kq Cp.z).a+y5))) rfl rfl crb hrl2 rfl rfl (by rw [KB];omega) ?_
      intro H13 kH13 nH13 sH13
      have mH13:=kH13.1
      have hk:=hk.new kH13 (fun b hb=>by simp at hb ⊢;omega)
      have hs:=kH13.sl hs (fun b e=>by have:=fs b e;first | (simp;done) | (simp;omega))
      have c1:=kH13.cl c1 (by first | (simp;done) | (simp;omega))
      have hq:=kH13.sl hq (fun b e=>by have:=fq b e;first | (simp;done) | (simp;omega))
      have ho:=kH13.sl ho (fun b e=>by have:=fo b e;first | (simp;done) | (simp;omega))
      have hq2:=kH13.sl hq2 (fun b e=>by have:=fq2 b e;first | (simp;done) | (simp;omega))
      have crb:Cl H13 rb (cpc (YP cs kq (min 1099511627776 ((cs.getD kq Cp.z).a+y5)))):=by rw [ZcA hkl];exact sH13
      refine Zh<|Zk<|Zd rfl<|Y1 (b:=H.next) (o:=0) rfl c1.rd (show row 4 _ _=some [iv g.y,iv g.k,iv g.b,iv g.p] from rfl) ?_
      have srb:Sl H13 (some ⟨rb,0,none⟩) n n (cpc (YP cs kq (min 1099511627776 ((cs.getD kq Cp.z).a+y5)))):=crb.sl (Nat.le_refl _)
      have hvA3:=ZgV (v:=(min 1099511627776 ((cs.getD kq Cp.z).a+y5))) hvA hkl (by omega) (by omega)
      refine YR (t:=.fn (.func 11) #[]) (vs:=[.slice (some ⟨rb,0,none⟩) n n,.agg (Gl.f g).toArray]) rfl (Ye s.hN (U6 (H:=H13) s srb (by rw [jV];exact hl) (by omega) (by omega) (qO (by omega)) (g:=g))) ?_
      rintro _ H14 ⟨uq3,rfl,hu3,kH14⟩
      have mH14:=kH14.1
      have hk:=hk.trans kH14
      have hs:=kH14.sl0 hs
      have c1:=kH14.cl c1 (by simp)
      have hq:=kH14.sl0 hq
      have ho:=kH14.sl0 ho
      have hq2:=kH14.sl0 hq2
      have crb:=kH14.cl crb (by simp)
      have hqE3:quE (YP cs kq (min 1099511627776 ((cs.getD kq Cp.z).a+y5))) g=0:=by unfold quE;rw [hvA3];rfl
      have hqL3:quL (YP cs kq (min 1099511627776 ((cs.getD kq Cp.z).a+y5))) g=(qtL g.p (mbL g (YP cs kq (min 1099511627776 ((cs.getD kq Cp.z).a+y5))))):=by unfold quL;rw [if_pos hvA3]
      rw [hqE3]
      rw [hqL3,Yb,XD hkl] at hu3
      obtain ⟨ta,tcap,rfl,ht,_⟩:=hu3.sl
      have ft:=ht.old
      refine Zd rfl<|Zo (v:=.slice ta ((mbL g cs).length) tcap) rfl (by kernel_rfl)<|Zo (v:=iv 0) rfl (by kernel_rfl)<|Zd rfl<|Zd rfl<|Zh<|Zk<|Zd rfl<|WD (a:=0) (b:=0) rfl rfl ?_
      intro t15 ht15
      have t15e:t15=false:=by rw [← ht15];exact (by simp)
      subst t15e
      refine Zd rfl ?_
      refine YH rfl (Zd rfl ?_)
      refine YH rfl (WD (a:=0) (b:=0) rfl rfl ?_)
      intro t16 ht16
      have t16e:t16=false:=by rw [← ht16];exact (by simp)
      subst t16e
      refine Zo (v:=.bool false) rfl rfl<|Zd rfl ?_
      refine YH rfl (Zd rfl ?_)
      refine YH rfl (Zd rfl ?_)
      obtain ⟨H17,fH17,kH17⟩:=K4 (kn:=kn) (lo:=lo) (H:=H14) (l:=(qtL g.p (mbL g cs))) (by rw [Yb];exact hq) (by rw [Yb];exact hq2) (by rw [Yb];omega)
      rw [Yb] at fH17
      refine YH rfl (Z6 s (v:=.bool true) (vs:=[.slice qa (mbL g cs).length qcap,.slice s2 (mbL g cs).length scap]) rfl (Zi fH17) ?_)
      have mH17:=kH17.1
      have hk:=hk.trans kH17
      have hs:=kH17.sl0 hs
      have c1:=kH17.cl c1 (by simp)
      have hq:=kH17.sl0 hq
      have ho:=kH17.sl0 ho
      have hq2:=kH17.sl0 hq2
      have crb:=kH17.cl crb (by simp)
      have ht:=kH17.sl0 ht
      refine YH rfl (Zo (v:=.bool false) rfl rfl ?_)
      refine Zo (v:=.bool false) rfl rfl<|Zd rfl ?_
      refine YH rfl (Zd rfl ?_)
      refine YH rfl (XR (m:=(mbL g cs).length) rfl ?_)
      refine YH rfl (Zd rfl ?_)
      refine YH rfl (XR (m:=(mbL g cs).length) rfl ?_)
      refine YH rfl (WD (a:=((mbL g cs).length:Int)) (b:=((mbL g cs).length:Int)) rfl rfl ?_)
      intro t18 ht18
      have t18e:t18=false:=by rw [← ht18];exact (by simp)
      subst t18e
      refine Zo (v:=.bool false) rfl rfl<|Zh<|ZQ ?_
      first | refine ZV ?_ | skip
      refine Zk<|Zd rfl<|Zh ?_
      refine XL s (fn:=Try.f7) Zkf N7 Zj9 (fun i:Nat=>[(0,.slice sa n cap),(2,.int .u8 (t:Int)),(3,.int .u8 y4),(4,.int .u32 y5),(6,pt H.next),(11,.slice qa ((mbL g cs).length) qcap),(23,iv (kq:Int)),(25,.slice ta ((mbL g cs).length) tcap),(27,iv (i:Int))])
       (fun k i H'=>i+k=(mbL g cs).length∧Keep H H' []∧H2.next≤H'.next∧Sl H' sa n cap (cpc cs)∧Sl H' qa (mbL g cs).length qcap (qtc (qtL g.p (mbL g cs)))∧Cl H' H.next [iv g.y,iv g.k,iv g.b,iv g.p]∧Sl H' ta (mbL g cs).length tcap (qtc (qtL g.p (mbL g (YP cs kq (min 1099511627776 ((cs.getD kq Cp.z).a+y5))))))) (mbL g cs).length 0 ⟨by omega,hk,by omega,hs,hq,c1,ht⟩ ⟨rfl,rfl,rfl,rfl,rfl,rfl,rfl,rfl,rfl,trivial⟩ ?_
      rintro k i L4 ⟨hik,hk,hnx,hs,hq,c1,ht⟩
      have mk:=hk.1;have mc:=c1.1
      refine Zk<|Zd rfl<|Zd rfl<|XR (m:=(mbL g cs).length) rfl<|Vf (a:=(i:Int)) (b:=((mbL g cs).length:Int)) rfl rfl<|Zh ?_
      refine And.intro (fun q22=>?_) (fun q22=>?_)
      ·have q22:(i:Int) < ((mbL g cs).length:Int):=of_decide_eq_true q22
       have hi:i < (mbL g cs).length:=by omega
       rcases id hq with ⟨_,h0q,_⟩ | ⟨qb,eq,rq,_⟩
       ·omega
       have lq:=rq.1
       rcases id ht with ⟨_,h0t,_⟩ | ⟨tb,et,rt,_⟩
       ·omega
       have lt:=rt.1
       rcases id hs with ⟨_,h0s,_⟩ | ⟨sb,es,rs,_⟩
       ·omega
       have ls:=rs.1
       obtain ⟨hb1,hb2,hb3,hb4⟩:=ZdX (v:=(min 1099511627776 ((cs.getD kq Cp.z).a+y5))) hb hg hkl (by omega) hi
       first | refine ZV ?_ | skip
       refine qy<|Ze rfl<|Ze rfl<|Zw (b:=tb) (o:=0) (k:=i) (j:=(i:Int)) (by rw [← et];rfl) rfl rfl hi<|ZC (b:=tb) (o:=0+i * 3) rfl<|ZD (b:=tb) (o:=0+i * 3) (v:=iv (((mbL g (YP cs kq (min 1099511627776 ((cs.getD kq Cp.z).a+y5)))).getD i Mb.z).g)) rfl rt (by have:=Y3 (l:=(qtL g.p (mbL g (YP cs kq (min 1099511627776 ((cs.getD kq Cp.z).a+y5)))))) (i:=i) (j:=0) (by rw [Yb,XD hkl];omega) rfl;rw [Xg (by rw [XD hkl];omega)] at this;exact this)<|Ze rfl<|Ze rfl<|Zw (b:=qb) (o:=0) (k:=i) (j:=(i:Int)) (by rw [← eq];rfl) rfl rfl hi<|ZC (b:=qb) (o:=0+i * 3) rfl<|ZD (b:=qb) (o:=0+i * 3) (v:=iv (((mbL g cs).getD i Mb.z).g)) rfl rq (by have:=Y3 (l:=(qtL g.p (mbL g cs))) (i:=i) (j:=0) (by rw [Yb];omega) rfl;rw [Xg (by omega)] at this;exact this)<|UF (a:=((mbL g (YP cs kq (min 1099511627776 ((cs.getD kq Cp.z).a+y5)))).getD i Mb.z).g) (b:=((mbL g cs).getD i Mb.z).g) rfl rfl ?_
       intro t23 g23;cases t23
       ·have g23:¬ ((((mbL g (YP cs kq (min 1099511627776 ((cs.getD kq Cp.z).a+y5)))).getD i Mb.z).g)≠(((mbL g cs).getD i Mb.z).g)):=by simpa using g23
        refine Ze rfl ?_
        refine Zr rfl (Ze rfl ?_)
        refine Zr rfl (Ze rfl ?_)
        refine Zr rfl (Zw (b:=tb) (o:=0) (k:=i) (j:=(i:Int)) (by rw [← et];rfl) rfl rfl hi ?_)
        refine Zr rfl (ZC (b:=tb) (o:=0+i * 3) rfl ?_)
        refine Zr rfl (ZD (b:=tb) (o:=0+i * 3+1) (v:=iv (((mbL g (YP cs kq (min 1099511627776 ((cs.getD kq Cp.z).a+y5)))).getD i Mb.z).b)) rfl rt (by have:=Y3 (l:=(qtL g.p (mbL g (YP cs kq (min 1099511627776 ((cs.getD kq Cp.z).a+y5)))))) (i:=i) (j:=1) (by rw [Yb,XD hkl];omega) rfl;rw [Xg (by rw [XD hkl];omega)] at this;exact this) ?_)
        refine Zr rfl (Ze rfl ?_)
        refine Zr rfl (Ze rfl ?_)
        refine Zr rfl (Zw (b:=qb) (o:=0) (k:=i) (j:=(i:Int)) (by rw [← eq];rfl) rfl rfl hi ?_)
        refine Zr rfl (ZC (b:=qb) (o:=0+i * 3) rfl ?_)
        refine Zr rfl (ZD (b:=qb) (o:=0+i * 3+1) (v:=iv (((mbL g cs).getD i Mb.z).b)) rfl rq (by have:=Y3 (l:=(qtL g.p (mbL g cs))) (i:=i) (j:=1) (by rw [Yb];omega) rfl;rw [Xg (by omega)] at this;exact this) ?_)
        refine Zr rfl (VL (a:=((mbL g (YP cs kq (min 1099511627776 ((cs.getD kq Cp.z).a+y5)))).getD i Mb.z).b) (b:=((mbL g cs).getD i Mb.z).b) rfl rfl ?_)
        intro t24 g24;cases t24
        ·have g24:¬ ((((mbL g (YP cs kq (min 1099511627776 ((cs.getD kq Cp.z).a+y5)))).getD i Mb.z).b) < (((mbL g cs).getD i Mb.z).b)):=of_decide_eq_false g24
         refine ZR (v:=.bool false) rfl rfl<|Ze rfl ?_
         refine Zr rfl (Ze rfl ?_)
         refine Zr rfl (Ze rfl ?_)
         refine Zr rfl (Zw (b:=tb) (o:=0) (k:=i) (j:=(i:Int)) (by rw [← et];rfl) rfl rfl hi ?_)
         refine Zr rfl (ZC (b:=tb) (o:=0+i * 3) rfl ?_)
         refine Zr rfl (ZD (b:=tb) (o:=0+i * 3+2) (v:=iv (((mbL g (YP cs kq (min 1099511627776 ((cs.getD kq Cp.z).a+y5)))).getD i Mb.z).b * g.p / 1000)) rfl rt (by have:=Y3 (l:=(qtL g.p (mbL g (YP cs kq (min 1099511627776 ((cs.getD kq Cp.z).a+y5)))))) (i:=i) (j:=2) (by rw [Yb,XD hkl];omega) rfl;rw [Xg (by rw [XD hkl];omega)] at this;exact this) ?_)
         refine Zr rfl (Ze rfl ?_)
         refine Zr rfl (Ze rfl ?_)
         refine Zr rfl (Zw (b:=qb) (o:=0) (k:=i) (j:=(i:Int)) (by rw [← eq];rfl) rfl rfl hi ?_)
         refine Zr rfl (ZC (b:=qb) (o:=0+i * 3) rfl ?_)
         refine Zr rfl (ZD (b:=qb) (o:=0+i * 3+2) (v:=iv (((mbL g cs).getD i Mb.z).b * g.p / 1000)) rfl rq (by have:=Y3 (l:=(qtL g.p (mbL g cs))) (i:=i) (j:=2) (by rw [Yb];omega) rfl;rw [Xg (by omega)] at this;exact this) ?_)
         refine Zr rfl (VL (a:=(((mbL g (YP cs kq (min 1099511627776 ((cs.getD kq Cp.z).a+y5)))).getD i Mb.z).b * g.p / 1000)) (b:=(((mbL g cs).getD i Mb.z).b * g.p / 1000)) rfl rfl ?_)
         intro t25 g25;cases t25
         ·have g25:¬ ((((mbL g (YP cs kq (min 1099511627776 ((cs.getD kq Cp.z).a+y5)))).getD i Mb.z).b * g.p / 1000) < (((mbL g cs).getD i Mb.z).b * g.p / 1000)):=of_decide_eq_false g25
          refine ZR (v:=.bool false) rfl rfl<|Ze rfl ?_
          refine Zr rfl (Ze rfl ?_)
          refine Zr rfl (Ze rfl ?_)
          refine Zr rfl (Zw (b:=tb) (o:=0) (k:=i) (j:=(i:Int)) (by rw [← et];rfl) rfl rfl hi ?_)
          refine Zr rfl (ZC (b:=tb) (o:=0+i * 3) rfl ?_)
          refine Zr rfl (ZD (b:=tb) (o:=0+i * 3) (v:=iv (((mbL g (YP cs kq (min 1099511627776 ((cs.getD kq Cp.z).a+y5)))).getD i Mb.z).g)) rfl rt (by have:=Y3 (l:=(qtL g.p (mbL g (YP cs kq (min 1099511627776 ((cs.getD kq Cp.z).a+y5)))))) (i:=i) (j:=0) (by rw [Yb,XD hkl];omega) rfl;rw [Xg (by rw [XD hkl];omega)] at this;exact this) ?_)
          refine Zr rfl (Ze rfl ?_)
          refine Zr rfl (Ze rfl ?_)
          refine Zr rfl (Zw (b:=sb) (o:=0) (k:=kq) (j:=(kq:Int)) (by rw [← es];rfl) rfl rfl hkn ?_)
          refine Zr rfl (ZC (b:=sb) (o:=0+kq * 3) rfl ?_)
          refine Zr rfl (ZD (b:=sb) (o:=0+kq * 3) (v:=iv ((cs.getD kq Cp.z).r)) rfl rs (KN (l:=cs) (i:=kq) (j:=0) (by omega) rfl) ?_)
          refine Zr rfl (UF (a:=((mbL g (YP cs kq (min 1099511627776 ((cs.getD kq Cp.z).a+y5)))).getD i Mb.z).g) (b:=(cs.getD kq Cp.z).r) rfl rfl ?_)
          intro t26 g26;cases t26
          ·have g26:¬ ((((mbL g (YP cs kq (min 1099511627776 ((cs.getD kq Cp.z).a+y5)))).getD i Mb.z).g)≠((cs.getD kq Cp.z).r)):=by simpa using g26
           refine Zr rfl (Ze rfl ?_)
           refine Zz rfl<|Zz rfl<|Zz rfl<|Zz rfl<|Zz rfl<|Zz rfl<|Zz rfl<|Zz rfl<|Zz rfl ?_
           refine Zr rfl (ZR (v:=.bool false) rfl rfl ?_)
           refine ZR (v:=.bool false) rfl rfl ?_
           refine ZJ (by repeat' first | exact True.intro | exact (fun h=>h) | refine And.intro ?_ ?_ | (intro h;have h:(_:Nat)=_:=h;omega)) ?_
           refine ZQ ?_
           first | refine ZV ?_ | skip
           show Zm _ _ _ _ _ _ _ _
           refine Zd rfl<|YY (a:=(i:Int)) (b:=1) rfl rfl ⟨by omega,by omega⟩<|Zd rfl<|Zh ?_
           exact ⟨k - 1,i+1,by omega,⟨by omega,hk,by omega,hs,hq,c1,ht⟩,rfl,rfl,rfl,rfl,rfl,rfl,rfl,rfl,rfl,trivial⟩
          ·have g26:(((mbL g (YP cs kq (min 1099511627776 ((cs.getD kq Cp.z).a+y5)))).getD i Mb.z).g)≠((cs.getD kq Cp.z).r):=by simpa using g26
           have hbq:=hb4 (by omega)
           refine Zr rfl (Ze rfl ?_)
           refine Zr rfl (Ze rfl ?_)
           refine Zr rfl (Ze rfl ?_)
           refine Zr rfl (Zw (b:=tb) (o:=0) (k:=i) (j:=(i:Int)) (by rw [← et];rfl) rfl rfl hi ?_)
           refine Zr rfl (YF (b:=tb) (o:=0+i * 3) rfl rt (by have:=Ve (l:=(qtL g.p (mbL g (YP cs kq (min 1099511627776 ((cs.getD kq Cp.z).a+y5)))))) (i:=i) (by rw [Yb,XD hkl];omega);rw [Xg (by rw [XD hkl];omega),hbq] at this;exact this) ?_)
           refine Zr rfl (Ze rfl ?_)
           refine Zr rfl (Ze rfl ?_)
           refine Zr rfl (Zw (b:=qb) (o:=0) (k:=i) (j:=(i:Int)) (by rw [← eq];rfl) rfl rfl hi ?_)
           refine Zr rfl (YF (b:=qb) (o:=0+i * 3) rfl rq (by have:=Ve (l:=(qtL g.p (mbL g cs))) (i:=i) (by rw [Yb];omega);rw [Xg (by omega)] at this;exact this) ?_)
           refine Zr rfl (ZR (v:=.bool false) rfl (Zgs rfl rfl) ?_)
           refine Zr rfl (ZR (v:=.bool false) rfl rfl ?_)
           refine ZR (v:=.bool false) rfl rfl ?_
           refine ZJ (by repeat' first | exact True.intro | exact (fun h=>h) | refine And.intro ?_ ?_ | (intro h;have h:(_:Nat)=_:=h;omega)) ?_
           refine ZQ ?_
           first | refine ZV ?_ | skip
           show Zm _ _ _ _ _ _ _ _
           refine Zd rfl<|YY (a:=(i:Int)) (b:=1) rfl rfl ⟨by omega,by omega⟩<|Zd rfl<|Zh ?_
           exact ⟨k - 1,i+1,by omega,⟨by omega,hk,by omega,hs,hq,c1,ht⟩,rfl,rfl,rfl,rfl,rfl,rfl,rfl,rfl,rfl,trivial⟩
         ·have g25:(((mbL g (YP cs kq (min 1099511627776 ((cs.getD kq Cp.z).a+y5)))).getD i Mb.z).b * g.p / 1000) < (((mbL g cs).getD i Mb.z).b * g.p / 1000):=of_decide_eq_true g25
          omega
        ·have g24:(((mbL g (YP cs kq (min 1099511627776 ((cs.getD kq Cp.z).a+y5)))).getD i Mb.z).b) < (((mbL g cs).getD i Mb.z).b):=of_decide_eq_true g24
         omega
       ·have g23:(((mbL g (YP cs kq (min 1099511627776 ((cs.getD kq Cp.z).a+y5)))).getD i Mb.z).g)≠(((mbL g cs).getD i Mb.z).g):=by simpa using g23
        omega
      ·have q22:¬ ((i:Int) < ((mbL g cs).length:Int)):=of_decide_eq_false q22
       first | (refine X2 ?_;show wCM _ _ _ _ _ _ _ _ _) | skip
       refine Zk<|Z6 s (vs:=[]) rfl (Vu hkn0)<|Zd rfl<|Zh ?_
       exact And.intro trivial (Exists.intro _ (And.intro rfl rfl))
end
end
end Go.Ax

/-! What is Z0 as_ arguments. -/
namespace Go.Ax
open Go Go.RowKit Go.Proofs Go.ChangeShapes Go.WideShapes Go.Deep

theorem qR {P:Program} (pre:List Imp) {w:World} (h:∀ x∈pre,∀ (i:Nat) v,x.cs[i]? = some v→w.cell? ⟨x.blk,x.off+i,none⟩=some v∧Xs v=true) :
  ∃ (r:Ren) (H:Hp),Rel P r w.heap.size H w∧(∀ b loc,r b=some loc→b < H.next)∧(∀ (b:Nat) x,pre[b]? = some x→b < H.next∧r b=some ⟨x.blk,x.off,none⟩∧H.t.get b=some (.ro x.cs)):=by
 obtain ⟨r,H,h1,h2,h3,h4,h5⟩:=Zeg (P:=P) pre [] w h (fun x hx=>by simp at hx)
 refine ⟨r,H,h1,h3,fun b x hx=>?_⟩
 have:=zS hx
 obtain ⟨a,c⟩:=h5 b x (by simpa using hx)
 exact ⟨by rw [h2];simpa using this,a,c⟩
end Go.Ax


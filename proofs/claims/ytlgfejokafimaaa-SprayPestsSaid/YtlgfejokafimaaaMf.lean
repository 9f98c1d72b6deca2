import Derived.Test.YtlgfejokafimaaaMe
import Derived.Test.YtlgfejokafimaaaRows
import Derived.Test.YtlgfejokafimaaaChecked
import Derived.Deep.Slices
import Derived.Deep.Fields
import Derived.ChangeSame
set_option linter.all false
/-
 Pool: try (99) (written by program).
-/
namespace Go.Ax
open Go Go.RowKit Go.Proofs

noncomputable section
theorem jU:Try.prog.underlying 126=some (.map 130 3):=by kernel_rfl
def plc (n:Nat) (p:Nat→Int):List Value:=(List.range n).map fun k=>iv (p k)
theorem qm {n:Nat} {p:Nat→Int}:(plc n p).length=n:=by unfold plc;simp
theorem ZaE {n k:Nat} {p:Nat→Int} (h:k < n):(plc n p)[0+k * 1]? = some (iv (p k)):=by
 unfold plc
 rw [Nat.zero_add,Nat.mul_one,List.getElem?_map,List.getElem?_range h];rfl
theorem Zbc {n j:Nat} {p:Nat→Int} {d:Int} (h:j < n):(plc n p).set (0+j * 1) (iv d)=plc n (Vi p j d):=by
 rw [Nat.zero_add,Nat.mul_one]
 apply List.ext_getElem?
 intro i
 unfold plc
 rw [List.getElem?_set]
 by_cases e:j=i
 ·subst e
  rw [if_pos rfl,List.length_map,List.length_range,if_pos h,List.getElem?_map,List.getElem?_range h]
  show some (iv d)=some (iv (Vi p j d j));rw [Y4]
 ·rw [if_neg e,List.getElem?_map,List.getElem?_map]
  by_cases hi:i < n
  ·rw [List.getElem?_range hi];show some (iv (p i))=some (iv (Vi p j d i));rw [Yw (Ne.symm e)]
  ·rw [List.getElem?_eq_none (by simp;omega)];rfl
structure Pq where
 n:Nat
 D:Nat→List Int
 B:Nat→Int
 cr:Int
 lim:Int
 b1:Nat
 b2:Nat
 b3:Nat
 b4:Nat
 b5:Nat
 pb:Nat
 gb:Nat
 ba:Option Addr
 bc:Nat
 da:Option Addr
 dc:Nat
 sa:Nat→Option Addr
 cp:Nat→Nat
def zl (n:Nat) (sa:Nat→Option Addr) (D:Nat→List Int) (cp:Nat→Nat):List Value:=(List.range n).map fun k=>.slice (sa k) (D k).length (cp k)
theorem Zbu {n k:Nat} {sa:Nat→Option Addr} {D:Nat→List Int} {cp:Nat→Nat} (h:k < n):(zl n sa D cp)[0+k * 1]? = some (.slice (sa k) (D k).length (cp k)):=by
 unfold zl
 rw [Nat.zero_add,Nat.mul_one,List.getElem?_map,List.getElem?_range h];rfl
structure PqH (X:Pq) (H:Hp):Prop where
 c1:Rd H X.b1 [.slice (some ⟨X.pb,0,none⟩) X.n X.n]
 c2:Rd H X.b2 [.slice X.ba X.n X.bc,.slice X.da X.n X.dc,iv X.cr]
 c3:Rd H X.b3 [.map (some X.gb)]
 c4:Rd H X.b4 [iv X.lim]
 c5:Rd H X.b5 [.func (.func 99) #[] #[pt X.b1,pt X.b2,pt X.b3,pt X.b4,pt X.b5]]
 bs:Sl H X.ba X.n X.bc (plc X.n X.B)
 ds:Sl H X.da X.n X.dc (zl X.n X.sa X.D X.cp)
 dd:∀ k,k < X.n→Sl H (X.sa k) (X.D k).length (X.cp k) (cI (X.D k))
 lt:X.pb < H.next∧X.gb < H.next
structure PqO (X:Pq):Prop where
 ne:X.pb≠X.gb
 n1:X.b1≠X.pb∧X.b1≠X.gb
 n2:X.b2≠X.pb∧X.b2≠X.gb
 n3:X.b3≠X.pb∧X.b3≠X.gb
 n4:X.b4≠X.pb∧X.b4≠X.gb
 n5:X.b5≠X.pb∧X.b5≠X.gb
 nb:∀ b,X.ba=some ⟨b,0,none⟩→b≠X.pb∧b≠X.gb
 nd:∀ b,X.da=some ⟨b,0,none⟩→b≠X.pb∧b≠X.gb
 ns:∀ k,k < X.n→∀ b,X.sa k=some ⟨b,0,none⟩→b≠X.pb∧b≠X.gb
theorem PqH.keep {X:Pq} {H H1:Hp} (h:PqH X H) (o:PqO X) (k:Zf H H1 [X.pb,X.gb]):PqH X H1:=by
 have m:∀ x,x≠X.pb∧x≠X.gb→x ∉ [X.pb,X.gb]:=fun x q=>by simp;exact q
 exact ⟨k.rd h.c1 (m _ o.n1),k.rd h.c2 (m _ o.n2),k.rd h.c3 (m _ o.n3),k.rd h.c4 (m _ o.n4),k.rd h.c5 (m _ o.n5),k.sl h.bs (fun b e=>m b (o.nb b e)),k.sl h.ds (fun b e=>m b (o.nd b e)),fun i hi=>k.sl (h.dd i hi) (fun b e=>m b (o.ns i hi b e)),Nat.lt_of_lt_of_le h.lt.1 k.1,Nat.lt_of_lt_of_le h.lt.2 k.1⟩
def TrR (X:Pq) (j:Nat) (p:Nat→Int) (v:Value) (H':Hp):Prop:=
 (∃ p2,v=.tuple #[.int .u8 0,.bool true]∧Uw X.n X.D X.B X.cr X.lim j p p2∧Cl H' X.pb (plc X.n p2))∨
  (∃ (s:Nat) (p2:Nat→Int) (L:ML Se) (c:Nat),v=.tuple #[.int .u8 (s:Int),.bool false]∧s < 256∧zQ X.n X.D X.B X.cr X.lim j p (fun b=>s.testBit b)∧(∀ i,i < j→p2 i=p i)∧Cl H' X.pb (plc X.n p2)∧Mpa seV H' X.gb L c∧DnQ j X.B p L c)
section
variable {kn:Kn} {lo:Nat} {H:Hp}
theorem jF {l:List Int} {i:Nat} (h:i < l.length):l.getD i 0∈l:=by
 rw [List.getD_eq_getElem?_getD,List.getElem?_eq_getElem h];exact List.getElem_mem h
theorem jD {p p2:Nat→Int} {j:Nat} {d:Int} (h:∀ i,i < j→p2 i=p i):∀ i,i < j+1→Vi p2 j d i=Vi p j d i:=by
 intro i hi
 by_cases e:i=j
 ·subst e;rw [Y4,Y4]
 ·rw [Yw e,Yw e];exact h i (by omega)
theorem Uw.fullc {n j:Nat} {D:Nat→List Int} {B:Nat→Int} {cr lim:Int} {p p0:Nat→Int} (e:j=n) (h:OkQ j D B cr lim p) (hp:∀ i,i < j→p0 i=p i):Uw n D B cr lim j p p0:=by
 subst e
 exact ⟨h.congr hp,hp,fun q _ e=>.inl fun i hi=>by rw [e i hi,hp i hi]⟩
theorem XG.back_ {n j i:Nat} {D:Nat→List Int} {B:Nat→Int} {cr lim:Int} {p p2:Nat→Int} {s:Nat→Bool} (h:XG n D B cr lim j p s i) (hj:j < n) (hr:(D j).Pairwise (· < ·)) (hi:i < (D j).length) (hf:Uw n D B cr lim (j+1) (Vi p j ((D j).getD i 0)) p2):Uw n D B cr lim j p p2:=Uw.back h hj hr hi hf
set_option maxRecDepth 100000 in
set_option maxHeartbeats 4000000 in
theorem zs (s:Snd Try.prog kn) {X:Pq} (ho:PqO X) (hn:X.n≤8) (hcr:1≤X.cr) (hDs:∀ k,k < X.n→(X.D k).Pairwise (· < ·)) (hDl:∀ k,k < X.n→(X.D k).length≤41) (hlp:lo≤X.pb) (hlg:lo≤X.gb) {j:Nat} {p p0:Nat→Int} {L:ML Se} {c:Nat} (hjn:j≤X.n) (hP:PqH X H) (hp0:∀ i,i < j→p0 i=p i) (cp:Cl H X.pb (plc X.n p0)) (hmp:Mpa seV H X.gb L c) (hd:DnQ j X.B p L c) (hok:OkQ j X.D X.B X.cr X.lim p) (ih:∀ {H:Hp} {p p0:Nat→Int} {L:ML Se} {c:Nat},j+1≤X.n→PqH X H→(∀ i,i < j+1→p0 i=p i)→Cl H X.pb (plc X.n p0)→Mpa seV H X.gb L c→DnQ (j+1) X.B p L c→OkQ (j+1) X.D X.B X.cr X.lim p→FnM Try.prog lo 99 [iv ((j+1:Nat):Int),pt X.b1,pt X.b2,pt X.b3,pt X.b4,pt X.b5] H fun v H'=>TrR X (j+1) p v H'∧Zf H H' [X.pb,X.gb]) :
  FnM Try.prog lo 99 [iv (j:Int),pt X.b1,pt X.b2,pt X.b3,pt X.b4,pt X.b5] H fun v H'=>TrR X j p v H'∧Zf H H' [X.pb,X.gb]:=by
 refine WG s Try.func99 B99 N99 Z99 L99 (by simp) ?_
 have hk:=Zf.refl H [X.pb,X.gb]
 obtain ⟨one_,on1,on2,on3,on4,on5,_,_,_⟩:=id ho
 have hlt:=hP.lt
 have u1:=hP.c1
 have u2:=hP.c2
 have u3:=hP.c3
 have u4:=hP.c4
 have u5:=hP.c5
 refine Zm<|Ze rfl<|Ze rfl<|Zi ?_
 first | refine Zdk ?_ | refine Zbk ?_
 refine Zm<|Ze rfl<|YH (b:=X.b1) (o:=0) (v:=.slice (some ⟨X.pb,0,none⟩) X.n X.n) rfl u1 rfl<|Va (m:=X.n) rfl<|zU (a:=(j:Int)) (b:=(X.n:Int)) rfl rfl<|Zi ?_
 refine And.intro (fun q1=>?_) (fun q1=>?_)
 ·have q1:(j:Int)=(X.n:Int):=by simpa using q1
  have ejn:j=X.n:=by omega
  refine Zm<|Ze rfl<|Ze rfl<|Zi ?_
  exact And.intro trivial (Exists.intro _ (And.intro rfl ⟨.inl ⟨p0,rfl,Uw.fullc ejn hok hp0,cp⟩,hk⟩))
 ·have q1:¬ ((j:Int)=(X.n:Int)):=by simpa using q1
  have hj:j < X.n:=by omega
  first | refine Yl ?_ | skip
  first | refine Yl ?_ | skip
  refine Zm<|YB (b:=X.b2) (o:=0) rfl<|YH (b:=X.b2) (o:=1) (v:=.slice X.da X.n X.dc) rfl u2 rfl<|Ze rfl ?_
  have ds0:=(hP.keep ho hk).ds
  rcases id ds0 with ⟨_,h0d,_⟩ | ⟨db,ed,rd,_⟩
  ·omega
  have ldb:=rd.lt
  refine zr (b:=db) (o:=0) (k:=j) (j:=(j:Int)) (by rw [← ed];rfl) rfl rfl hj<|YH (b:=db) (o:=0+j * 1) (v:=.slice (X.sa j) ((X.D j).length) (X.cp j)) rfl rd (Zbu hj)<|Va (m:=(X.D j).length) rfl<|Ze rfl<|Zi ?_
  refine VL s (fn:=Try.f99) ZeN N99 Zd3 (fun z:Nat × Nat=>[(0,iv (j:Int)),(1,pt X.b1),(2,pt X.b2),(3,pt X.b3),(4,pt X.b4),(5,pt X.b5),(7,.int .u8 (z.2:Int)),(23,.slice (X.sa j) ((X.D j).length) (X.cp j)),(24,iv ((X.D j).length:Int)),(25,iv (z.1:Int))])
   (fun k z H'=>z.1+k=(X.D j).length∧z.2 < 256∧XG X.n X.D X.B X.cr X.lim j p (fun b=>z.2.testBit b) z.1∧Zf H H' [X.pb,X.gb]∧∃ (p2:Nat→Int) (L:ML Se) (c:Nat),(∀ i,i < j→p2 i=p i)∧Cl H' X.pb (plc X.n p2)∧Mpa seV H' X.gb L c∧DnQ j X.B p L c) (X.D j).length (0,0) ⟨by simp,by decide,XG.zero (fun b=>Nat.zero_testBit b),hk,p0,L,c,hp0,cp,hmp,hd⟩ ⟨rfl,rfl,rfl,rfl,rfl,rfl,rfl,rfl,rfl,rfl,trivial⟩ ?_
  rintro k ⟨i,sb⟩ L1 ⟨hik,hs,hq,hk,p2,L,c,hp2,cp,hmp,hd⟩
  simp only [] at hik hs hq hmp hd
  have hQ:=hP.keep ho hk
  have mk:=hk.1
  have hpl:=cp.1
  have hml:=hmp.1
  have u1:=hQ.c1
  have u2:=hQ.c2
  have u3:=hQ.c3
  have u4:=hQ.c4
  have lu1:=u1.lt
  have lu2:=u2.lt
  have lu3:=u3.lt
  have lu4:=u4.lt
  have u5:=hQ.c5
  have lu5:=u5.lt
  refine Zm<|Q1 (a:=(i:Int)) (b:=((X.D j).length:Int)) rfl rfl<|Zi ?_
  refine And.intro (fun q2=>?_) (fun q2=>?_)
  ·have q2:(i:Int) < ((X.D j).length:Int):=of_decide_eq_true q2
   have hil:i < (X.D j).length:=by omega
   have hdj:=hDl j hj
   first | refine Yl ?_ | skip
   refine Zm ?_
   have sd0:=hQ.dd j hj
   rcases id sd0 with ⟨_,h0s,_⟩ | ⟨qb,eq,rq,_⟩
   ·omega
   have lqb:=rq.lt
   have oq:=ho.ns j hj qb eq
   refine zr (b:=qb) (o:=0) (k:=i) (j:=(i:Int)) (by rw [← eq];rfl) rfl rfl hil<|YH (b:=qb) (o:=0+i * 1) (v:=iv ((X.D j).getD i 0)) rfl rq (Jq hil)<|Ze rfl<|Zi<|Zm<|YB (b:=X.b2) (o:=0) rfl<|YH (b:=X.b2) (o:=0) (v:=.slice X.ba X.n X.bc) rfl u2 rfl<|Ze rfl ?_
   have sb0:=(hP.keep ho hk).bs
   rcases id sb0 with ⟨_,h0b,_⟩ | ⟨wb,ew,rw_,_⟩
   ·omega
   have lwb:=rw_.lt
   have ow:=ho.nb wb ew
   refine zr (b:=wb) (o:=0) (k:=j) (j:=(j:Int)) (by rw [← ew];rfl) rfl rfl hj<|YH (b:=wb) (o:=0+j * 1) (v:=iv (X.B j)) rfl rw_ (ZaE hj)<|Ze rfl<|Zl (v:=.agg #[iv (X.B j),iv ((X.D j).getD i 0)]) rfl (by kernel_rfl)<|W4 ?_
   intro H1 kH1 nH1 c1
   have c1:Cl H1 L1.next [iv 0,iv 0]:=c1
   have mH1:=kH1.1
   have hk:=hk.trans (kH1.mono (by simp))
   have cp:=kH1.cl cp (by simp)
   have hmp:=kH1.mpa hmp (by simp)
   have u1:=kH1.rd u1 (by simp)
   have u2:=kH1.rd u2 (by simp)
   have u3:=kH1.rd u3 (by simp)
   have u4:=kH1.rd u4 (by simp)
   have u5:=kH1.rd u5 (by simp)
   have rq:=kH1.rd rq (by simp)
   have rw_:=kH1.rd rw_ (by simp)
   refine Qe (b:=L1.next) (o:=0) rfl rfl c1 (by omega) rfl rfl (by simp) ?_
   intro H2 kH2 nH2 sH2
   have mH2:=kH2.1
   have hk:=hk.new kH2 (fun b hb=>by simp at hb ⊢;omega)
   have cp:=kH2.cl cp (by first | (simp;done) | (simp;omega))
   have hmp:=kH2.mpa hmp (by simp;omega)
   have u1:=kH2.rd u1 (by first | (simp;done) | (simp;omega))
   have u2:=kH2.rd u2 (by first | (simp;done) | (simp;omega))
   have u3:=kH2.rd u3 (by first | (simp;done) | (simp;omega))
   have u4:=kH2.rd u4 (by first | (simp;done) | (simp;omega))
   have u5:=kH2.rd u5 (by first | (simp;done) | (simp;omega))
   have rq:=kH2.rd rq (by first | (simp;done) | (simp;omega))
   have rw_:=kH2.rd rw_ (by first | (simp;done) | (simp;omega))
   have c1:Cl H2 L1.next [iv (X.B j),iv ((X.D j).getD i 0)]:=sH2
   refine Zi<|Zm<|YH (b:=X.b3) (o:=0) (v:=.map (some X.gb)) rfl u3 rfl<|XL (b:=L1.next) (o:=0) rfl c1.rd (show row 2 _ _=some [iv (X.B j),iv ((X.D j).getD i 0)] from rfl)<|YB (b:=X.b2) (o:=0) rfl<|YH (b:=X.b2) (o:=2) (v:=iv X.cr) rfl u2 rfl<|XM (t:=.fn (.func 100) #[]) rfl (Xc s.hN (jn s (H:=H2) (bed:=X.B j) (d:=((X.D j).getD i 0)) (cr:=X.cr) hmp hd (by omega) (by omega))) ?_
   rintro _ H3 ⟨t,rfl,hr,kH3⟩
   have mH3:=kH3.1
   have hk:=hk.trans (kH3.mono (by simp))
   have cp:=kH3.cl cp (by simp)
   have hmp:=kH3.mpa hmp (by simp)
   have u1:=kH3.rd u1 (by simp)
   have u2:=kH3.rd u2 (by simp)
   have u3:=kH3.rd u3 (by simp)
   have u4:=kH3.rd u4 (by simp)
   have u5:=kH3.rd u5 (by simp)
   have rq:=kH3.rd rq (by simp)
   have rw_:=kH3.rd rw_ (by simp)
   have c1:=kH3.cl c1 (by simp)
   have htl:=hr.lt (by omega)
   refine Ze rfl<|Zi<|Zm<|Ze rfl<|YH (b:=X.b4) (o:=0) (v:=iv X.lim) rfl u4 rfl<|j3 (a:=((X.D j).getD i 0)) (b:=X.lim) rfl rfl<|Ze rfl<|Zi ?_
   refine And.intro (fun q3=>?_) (fun q3=>?_)
   ·have q3:((X.D j).getD i 0) > X.lim:=of_decide_eq_true q3
    have hlt:X.lim < (X.D j).getD i 0:=by omega
    first | (refine W8 ?_;show wCM _ _ _ _ _ _ _ _ _) | skip
    refine Zm<|Ze rfl<|Ze rfl<|Ze rfl<|Zi ?_
    exact And.intro trivial (Exists.intro _ (And.intro rfl ⟨.inr ⟨sb,p2,L,c,rfl,hs,hq.bad hj (hDs j hj) (.inr ⟨hil,hlt⟩),hp2,cp,hmp,hd⟩,hk⟩))
   ·have q3:¬ (((X.D j).getD i 0) > X.lim):=of_decide_eq_false q3
    have hle:(X.D j).getD i 0≤X.lim:=by omega
    refine Zm<|Ze rfl<|Zl (v:=.bool (decide (t≠0))) rfl (Zaf rfl) ?_
    by_cases ht0:t=0
    ·subst ht0
     rw [show decide ((0:Nat)≠0)=false from rfl]
     refine Ze rfl<|Zi<|YE ?_
     first | refine Yl ?_ | skip
     refine qH<|Z8 (b:=X.b1) (o:=0) (v:=.slice (some ⟨X.pb,0,none⟩) X.n X.n) rfl u1 rfl<|ZJ rfl<|Z8 (b:=X.b3) (o:=0) (v:=.map (some X.gb)) rfl u3 rfl<|Uf (b:=L1.next) (o:=0) rfl c1.rd (show row 2 _ _=some [iv (X.B j),iv ((X.D j).getD i 0)] from rfl)<|ZJ rfl<|ZJ rfl<|XR (b:=X.pb) (o:=0) (k:=j) (j:=(j:Int)) rfl rfl rfl hj<|qC (b:=X.pb) (o:=0+j * 1) (v:=iv ((X.D j).getD i 0)) rfl rfl cp hlp rfl rfl (by rw [qm];omega) ?_
     intro H4 kH4 nH4 cp2
     have mH4:=kH4.1
     rw [Zbc hj] at cp2
     have hk:=hk.new kH4 (fun b hb=>by simp at hb ⊢;omega)
     have hmp:=kH4.mpa hmp (by simp;omega)
     have u1:=kH4.rd u1 (by first | (simp;done) | (simp;omega))
     have u2:=kH4.rd u2 (by first | (simp;done) | (simp;omega))
     have u3:=kH4.rd u3 (by first | (simp;done) | (simp;omega))
     have u4:=kH4.rd u4 (by first | (simp;done) | (simp;omega))
     have u5:=kH4.rd u5 (by first | (simp;done) | (simp;omega))
     have rq:=kH4.rd rq (by first | (simp;done) | (simp;omega))
     have rw_:=kH4.rd rw_ (by first | (simp;done) | (simp;omega))
     have c1:=kH4.cl c1 (by first | (simp;done) | (simp;omega))
     have cp:=cp2
     have hry:=hr.yes hcr
     have hgn:ZQ ((X.B j,((X.D j).getD i 0)):Se) L=none:=by
      cases hg:ZQ ((X.B j,((X.D j).getD i 0)):Se) L with
      | none=>rfl
      | some v0=>
       obtain ⟨k0,q0,q1,q2,_⟩:=hd.some hg
       exact absurd q2 (hry.1 k0 q0 q1)
     obtain ⟨H5,fH5,kH5,nH5,hmp2⟩:=jp (P:=Try.prog) (lo:=lo) (H:=H4) Je jU (a:=((X.B j,((X.D j).getD i 0)):Se)) (v:=iv (j:Int)) hmp hlg rfl
     refine Zbf (b:=X.gb) (Zcq rfl rfl rfl) rfl (fH5 _ _ _ _ _ _ _ _ rfl rfl rfl) ?_
     have mH5:=kH5.1
     have hk:=hk.new kH5 (fun b hb=>by simp at hb ⊢;omega)
     have u1:=kH5.rd u1 (by first | (simp;done) | (simp;omega))
     have u2:=kH5.rd u2 (by first | (simp;done) | (simp;omega))
     have u3:=kH5.rd u3 (by first | (simp;done) | (simp;omega))
     have u4:=kH5.rd u4 (by first | (simp;done) | (simp;omega))
     have u5:=kH5.rd u5 (by first | (simp;done) | (simp;omega))
     have rq:=kH5.rd rq (by first | (simp;done) | (simp;omega))
     have rw_:=kH5.rd rw_ (by first | (simp;done) | (simp;omega))
     have c1:=kH5.cl c1 (by first | (simp;done) | (simp;omega))
     have cp:=kH5.cl cp (by first | (simp;done) | (simp;omega))
     have hmp:=hmp2
     have hd2:=hd.put hgn
     refine Y7 (by repeat' first | exact True.intro | exact (fun h=>h) | refine And.intro ?_ ?_ | (intro h;have h:(_:Nat)=_:=h;omega)) ?_
     refine Zm<|YH (b:=X.b5) (o:=0) (v:=.func (.func 99) #[] #[pt X.b1,pt X.b2,pt X.b3,pt X.b4,pt X.b5]) rfl u5 rfl<|Ze rfl<|Jm (a:=(j:Int)) (b:=1) rfl rfl ⟨by omega,by omega⟩ ?_
     have hok2:=hok.put (D:=X.D) (d:=((X.D j).getD i 0)) (jF hil) hle hry.1 hry.2
     refine XM (t:=.fn (.func 99) #[pt X.b1,pt X.b2,pt X.b3,pt X.b4,pt X.b5]) rfl (Ub s.hN (show FnM Try.prog lo 99 [iv ((j:Int)+1),pt X.b1,pt X.b2,pt X.b3,pt X.b4,pt X.b5] H5 _ from ih (H:=H5) (p:=Vi p j ((X.D j).getD i 0)) (p0:=Vi p2 j ((X.D j).getD i 0)) (by omega) (hP.keep ho hk) (jD hp2) cp hmp hd2 hok2)) ?_
     rintro v H6 ⟨hres,kH6⟩
     have mH6:=kH6.1
     have hk:=hk.new kH6 (fun b hb=>by simp at hb ⊢;omega)
     have u1:=kH6.rd u1 (by first | (simp;done) | (simp;omega))
     have u2:=kH6.rd u2 (by first | (simp;done) | (simp;omega))
     have u3:=kH6.rd u3 (by first | (simp;done) | (simp;omega))
     have u4:=kH6.rd u4 (by first | (simp;done) | (simp;omega))
     have u5:=kH6.rd u5 (by first | (simp;done) | (simp;omega))
     have rq:=kH6.rd rq (by first | (simp;done) | (simp;omega))
     have rw_:=kH6.rd rw_ (by first | (simp;done) | (simp;omega))
     have c1:=kH6.cl c1 (by first | (simp;done) | (simp;omega))
     rcases hres with ⟨p3,rfl,hf,cp⟩ | ⟨m,p3,L3,c3_,rfl,hm,hbad,hp3q,cp,hmp,hd3⟩
     ·refine Ze rfl<|Zl (v:=.int .u8 0) rfl (by kernel_rfl)<|Zl (v:=.bool true) rfl (by kernel_rfl)<|Ze rfl<|Ze rfl<|Zi<|Zm<|Ze rfl<|Zi<|YC<|Zm<|Ze rfl<|Ze rfl<|Zi ?_
      exact And.intro trivial (Exists.intro _ (And.intro rfl ⟨.inl ⟨p3,rfl,hq.back_ hj (hDs j hj) hil hf,cp⟩,hk⟩))
     ·have hp3:∀ i,i < j→p3 i=p i:=fun i hi=>by rw [hp3q i (by omega),Yw (by omega)]
      refine Ze rfl<|Zl (v:=.int .u8 ((m:Nat):Int)) rfl (by kernel_rfl)<|Zl (v:=.bool false) rfl (by kernel_rfl)<|Ze rfl<|Ze rfl<|Zi<|Zm<|Ze rfl<|Zi<|YE ?_
      first | refine Yl ?_ | skip
      refine Zm<|YH (b:=X.b3) (o:=0) (v:=.map (some X.gb)) rfl u3 rfl<|XL (b:=L1.next) (o:=0) rfl c1.rd (show row 2 _ _=some [iv (X.B j),iv ((X.D j).getD i 0)] from rfl)<|Zc6 (a:=((X.B j,((X.D j).getD i 0)):Se)) Je jU rfl rfl hmp hlg (qz rfl rfl) rfl ?_
      intro H7 kH7 nH7 hmp2
      have mH7:=kH7.1
      have hk:=hk.new kH7 (fun b hb=>by simp at hb ⊢;omega)
      have u1:=kH7.rd u1 (by first | (simp;done) | (simp;omega))
      have u2:=kH7.rd u2 (by first | (simp;done) | (simp;omega))
      have u3:=kH7.rd u3 (by first | (simp;done) | (simp;omega))
      have u4:=kH7.rd u4 (by first | (simp;done) | (simp;omega))
      have u5:=kH7.rd u5 (by first | (simp;done) | (simp;omega))
      have rq:=kH7.rd rq (by first | (simp;done) | (simp;omega))
      have rw_:=kH7.rd rw_ (by first | (simp;done) | (simp;omega))
      have c1:=kH7.cl c1 (by first | (simp;done) | (simp;omega))
      have cp:=kH7.cl cp (by first | (simp;done) | (simp;omega))
      have hmp:=hmp2
      have hd3:DnQ j X.B p (Vm ((X.B j,((X.D j).getD i 0)):Se) L3) c3_:=by
       have:=hd3.del (p:=p) (fun k hk=>Yw (by omega))
       rw [Y4] at this
       exact this
      refine Zi<|Zm<|Ze rfl<|Ze rfl ?_
      obtain ⟨H8,fH8,kH8⟩:=Zdc (kn:=kn) (lo:=lo) (H:=H7) (j:=(j:Int)) (d:=j) (s:=m) (by omega) rfl hm
      refine Z1 s (vs:=[.int .u8 (m:Int),iv (j:Int)]) rfl (Zk fH8) ?_
      have mH8:=kH8.1
      have hk:=hk.trans (kH8.mono (by simp))
      have u1:=kH8.rd u1 (by simp)
      have u2:=kH8.rd u2 (by simp)
      have u3:=kH8.rd u3 (by simp)
      have u4:=kH8.rd u4 (by simp)
      have u5:=kH8.rd u5 (by simp)
      have rq:=kH8.rd rq (by simp)
      have rw_:=kH8.rd rw_ (by simp)
      have c1:=kH8.cl c1 (by simp)
      have cp:=kH8.cl cp (by simp)
      have hmp:=kH8.mpa hmp (by simp)
      cases hmj:m.testBit j
      ·refine Zl (v:=.bool true) rfl rfl<|Zi<|YC<|Zm<|Ze rfl<|Ze rfl<|Ze rfl<|Zi ?_
       exact And.intro trivial (Exists.intro _ (And.intro rfl ⟨.inr ⟨m,p3,_,_,rfl,hm,hbad.down hmj,hp3,cp,hmp,hd3⟩,hk⟩))
      ·refine Zl (v:=.bool false) rfl rfl<|Zi<|YE ?_
       first | refine Yl ?_ | skip
       show Zo _ _ _ _ _ _ _ _
       refine Ze rfl<|Ze rfl<|Ze rfl ?_
       obtain ⟨H9,fH9,kH9⟩:=QT (kn:=kn) (lo:=lo) (H:=H8) (j:=(j:Int)) (d:=j) (by omega) rfl
       refine Z1 s (vs:=[iv (j:Int)]) rfl (Zk fH9) ?_
       have mH9:=kH9.1
       have hk:=hk.trans (kH9.mono (by simp))
       have u1:=kH9.rd u1 (by simp)
       have u2:=kH9.rd u2 (by simp)
       have u3:=kH9.rd u3 (by simp)
       have u4:=kH9.rd u4 (by simp)
       have u5:=kH9.rd u5 (by simp)
       have rq:=kH9.rd rq (by simp)
       have rw_:=kH9.rd rw_ (by simp)
       have c1:=kH9.cl c1 (by simp)
       have cp:=kH9.cl cp (by simp)
       have hmp:=kH9.mpa hmp (by simp)
       refine Zl (v:=.int .u8 ((m &&& (2 ^ 8 - (2 ^ j+1)):Nat):Int)) rfl (jR hm (UX (by omega)) rfl rfl) ?_
       have hcl:m &&& (2 ^ 8 - (2 ^ j+1)) < 256:=Nat.lt_of_le_of_lt Nat.and_le_left hm
       have hst:sb ||| (m &&& (2 ^ 8 - (2 ^ j+1))) < 256:=Nat.or_lt_two_pow (n:=8) hs hcl
       have hq2:XG X.n X.D X.B X.cr X.lim j p (fun b=>(sb ||| (m &&& (2 ^ 8 - (2 ^ j+1)))).testBit b) (i+1):=hq.more hil hbad (fun b=>by
        show Nat.testBit (_ ||| _) b=_
        rw [Nat.testBit_or,Zb4 hm (by omega)])
       refine Zl (v:=.int .u8 ((sb ||| (m &&& (2 ^ 8 - (2 ^ j+1))):Nat):Int)) rfl (Zdj hs hcl rfl rfl)<|Ze rfl<|Zi ?_
       show Zo _ _ _ _ _ _ _ _
       refine Jm (a:=(i:Int)) (b:=1) rfl rfl ⟨by omega,by omega⟩<|Ze rfl<|Zi ?_
       exact ⟨k - 1,(i+1,_),by omega,⟨by simp only [];omega,hst,hq2,hk,p3,_,_,hp3,cp,hmp,hd3⟩,rfl,rfl,rfl,rfl,rfl,rfl,rfl,rfl,rfl,rfl,trivial⟩
    ·rw [decide_eq_true ht0]
     refine Ze rfl<|Zi<|YC<|Zm<|Ze rfl<|Ze rfl ?_
     have hst:sb ||| t < 256:=Nat.or_lt_two_pow (n:=8) hs htl
     have hq2:=hq.riv hil hj hr ht0
     refine Zl (v:=.int .u8 ((sb ||| t:Nat):Int)) rfl (Zdj hs htl rfl rfl)<|Ze rfl<|Zi ?_
     first | (refine W8 ?_;show wCM _ _ _ _ _ _ _ _ _) | skip
     show Zo _ _ _ _ _ _ _ _
     refine Jm (a:=(i:Int)) (b:=1) rfl rfl ⟨by omega,by omega⟩<|Ze rfl<|Zi ?_
     exact ⟨k - 1,(i+1,sb ||| t),by omega,⟨by simp only [];omega,hst,hq2,hk,p2,L,c,hp2,cp,hmp,hd⟩,rfl,rfl,rfl,rfl,rfl,rfl,rfl,rfl,rfl,rfl,trivial⟩
  ·have q2:¬ ((i:Int) < ((X.D j).length:Int)):=of_decide_eq_false q2
   first | (refine W8 ?_;show wCM _ _ _ _ _ _ _ _ _) | skip
   refine Zm<|Ze rfl<|Ze rfl<|Ze rfl<|Zi ?_
   exact And.intro trivial (Exists.intro _ (And.intro rfl ⟨.inr ⟨sb,p2,L,c,rfl,hs,hq.bad hj (hDs j hj) (.inl (by omega)),hp2,cp,hmp,hd⟩,hk⟩))
theorem Za4 (s:Snd Try.prog kn) {X:Pq} (ho:PqO X) (hn:X.n≤8) (hcr:1≤X.cr) (hDs:∀ k,k < X.n→(X.D k).Pairwise (· < ·)) (hDl:∀ k,k < X.n→(X.D k).length≤41) (hlp:lo≤X.pb) (hlg:lo≤X.gb):∀ (d:Nat) {j:Nat} {p p0:Nat→Int} {L:ML Se} {c:Nat} {H:Hp},j+d=X.n→PqH X H→(∀ i,i < j→p0 i=p i)→Cl H X.pb (plc X.n p0)→Mpa seV H X.gb L c→DnQ j X.B p L c→OkQ j X.D X.B X.cr X.lim p→FnM Try.prog lo 99 [iv (j:Int),pt X.b1,pt X.b2,pt X.b3,pt X.b4,pt X.b5] H fun v H'=>TrR X j p v H'∧Zf H H' [X.pb,X.gb]
 | 0,j,_,_,_,_,_,hj,a1,a2,a3,a4,a5,a6=>zs s ho hn hcr hDs hDl hlp hlg (by omega) a1 a2 a3 a4 a5 a6 (fun h=>by omega)
 | d+1,j,_,_,_,_,_,hj,a1,a2,a3,a4,a5,a6=>zs s ho hn hcr hDs hDl hlp hlg (by omega) a1 a2 a3 a4 a5 a6 (fun _ b1 b2 b3 b4 b5 b6=>Za4 s ho hn hcr hDs hDl hlp hlg d (by omega) b1 b2 b3 b4 b5 b6)
end
end
end Go.Ax

/-
 Pool: first,latest (84,83) (written by program).
-/
namespace Go.Ax
open Go Go.RowKit Go.Proofs

noncomputable section
theorem ZcG:∃ i,Try.prog.info? 3=some i∧i.bytes≤8:=by
 have h:(Try.prog.info? 3).map (fun i=>Nat.ble i.bytes 8)=some true:=by kernel_rfl
 cases e:Try.prog.info? 3 with
 | none=>rw [e] at h;cases h
 | some i=>rw [e] at h;exact ⟨i,rfl,Nat.le_of_ble_eq_true (by simpa using h)⟩
theorem Zez {n:Nat}:plc n (fun _=>0)=jd (List.replicate n 0):=by
 apply List.ext_getElem?
 intro i
 unfold plc jd
 by_cases h:i < n
 ·rw [List.getElem?_map,List.getElem?_range h,List.getElem?_map,List.getElem?_replicate,if_pos h];rfl
 ·rw [List.getElem?_eq_none (by simp;omega),List.getElem?_eq_none (by simp;omega)]
theorem OkQ.zero {D:Nat→List Int} {B:Nat→Int} {cr lim:Int} {p:Nat→Int}:OkQ 0 D B cr lim p:=⟨fun i h=>by omega,fun i h=>by omega,fun i j _ h=>by omega,fun i h=>by omega⟩
theorem zQ.none_ {n:Nat} {D:Nat→List Int} {B:Nat→Int} {cr lim:Int} {p:Nat→Int} {s:Nat→Bool} (h:zQ n D B cr lim 0 p s):∀ q,¬ OkQ n D B cr lim q:=fun q hq=>h.2 q hq fun b hb=>by have:=h.1 b hb;omega
section
variable {kn:Kn} {lo:Nat} {H:Hp}
theorem jE {sa:Option Addr} {n cap:Nat} {p:Nat→Int} (hs:Sl H sa n cap (plc n p)) (hn:n≤1000):∃ H',FnX Try.prog kn lo 83 [.slice sa n cap] H (iv (ltQ n p)) H'∧Zf H H' []:=by
 have key:=Zs (kn:=kn) (lo:=lo) (H:=H) (args:=[.slice sa n cap]) (Q:=fun w H'=>w=iv (ltQ n p)∧Zf H H' []) Try.func83 B83 N83 Z83 L83 (by simp) ?_
 ·obtain ⟨w,H',h,rfl,q⟩:=key;exact ⟨H',h,q⟩
 have hk:=Zf.refl H []
 refine Zd<|Za rfl<|Zb<|Zd<|Za rfl<|Zb<|Zd<|Za rfl<|YI (m:=n) rfl<|Za rfl<|Zb ?_
 refine YO (fn:=Try.f83) Zen N83 ZdF (fun i:Nat=>[(3,iv (ltQ i p)),(6,.slice sa n cap),(7,iv (n:Int)),(8,iv (i:Int))])
  (fun k i H'=>i+k=n∧Zf H H' []) n 0 ⟨by simp,hk⟩ ⟨rfl,rfl,rfl,rfl,trivial⟩ ?_
 rintro k i L1 ⟨hik,hk⟩
 refine Zd<|YY (a:=(i:Int)) (b:=(n:Int)) rfl rfl<|Zb ?_
 refine And.intro (fun q1=>?_) (fun q1=>?_)
 ·have q1:(i:Int) < (n:Int):=of_decide_eq_true q1
  first | refine ZE ?_ | skip
  refine Zd ?_
  have hin:i < n:=by omega
  have sq0:=hk.sl0 hs
  rcases id sq0 with ⟨_,h0q,_⟩ | ⟨qb,eq,rq,_⟩
  ·omega
  have lq:=rq.1
  have oq:=hs.old qb eq
  refine Xz (b:=qb) (o:=0) (k:=i) (j:=(i:Int)) (by rw [← eq];rfl) rfl rfl hin<|ZG (b:=qb) (o:=0+i * 1) (v:=iv (p i)) rfl rq (ZaE hin)<|Za rfl<|Zb ?_
  show Zw _ _ _ _ _ _ _ _
  refine Za rfl<|Za rfl<|Zcl (a:=(ltQ i p)) (b:=(p i)) rfl rfl<|Za rfl<|Zb ?_
  show Zw _ _ _ _ _ _ _ _
  refine YK (a:=(i:Int)) (b:=1) rfl rfl ⟨by omega,by omega⟩<|Za rfl<|Zb ?_
  exact ⟨k - 1,i+1,by omega,⟨by omega,hk⟩,rfl,rfl,rfl,rfl,trivial⟩
 ·have q1:¬ ((i:Int) < (n:Int)):=of_decide_eq_false q1
  first | (refine Ve ?_;show wC _ _ _ _ _ _ _ _ _) | skip
  refine Zd<|Za rfl<|Za rfl<|Zb ?_
  have e:i=n:=by omega
  subst e
  exact And.intro trivial (Exists.intro _ (And.intro rfl ⟨rfl,hk⟩))
set_option maxRecDepth 100000 in
set_option maxHeartbeats 1000000 in
theorem ZaA (s:Snd Try.prog kn) {n:Nat} {D:Nat→List Int} {B:Nat→Int} {cr:Int} {ba da:Option Addr} {bc dc:Nat} {sa:Nat→Option Addr} {cq:Nat→Nat} (hbs:Sl H ba n bc (plc n B)) (hds:Sl H da n dc (zl n sa D cq)) (hdd:∀ k,k < n→Sl H (sa k) (D k).length (cq k) (cI (D k))) (hn:n≤8) (hcr:1≤cr) (hDs:∀ k,k < n→(D k).Pairwise (· < ·)) (hDl:∀ k,k < n→(D k).length≤41) {lim:Int} (hlo:lo≤H.next) :
  FnM Try.prog lo 84 [.agg #[.slice ba n bc,.slice da n dc,iv cr],iv lim] H fun v H'=>Zf H H' []∧∃ pb,lo≤pb∧H.next≤pb∧((∃ p,v=.tuple #[.slice (some ⟨pb,0,none⟩) n n,.bool true]∧Uw n D B cr lim 0 (fun _=>0) p∧Rd H' pb (plc n p))∨(v=.tuple #[.slice (some ⟨pb,0,none⟩) n n,.bool false]∧∀ q,¬ OkQ n D B cr lim q)):=by
 refine WG s Try.func84 B84 N84 Z84 L84 (by simp) ?_
 have hk:=Zf.refl H []
 have ob:=hbs.old
 have od:=hds.old
 refine Zm<|Vl (v:=.agg #[.slice ba n bc,.slice da n dc,iv cr]) rfl ?_
 intro H1 kH1 nH1 c1
 have c1:Cl H1 H.next [.slice ba n bc,.slice da n dc,iv cr]:=c1
 have mH1:=kH1.1
 have hk:=hk.trans kH1
 refine Vl (v:=iv lim) rfl ?_
 intro H2 kH2 nH2 c2
 have c2:Cl H2 H1.next [iv lim]:=c2
 have mH2:=kH2.1
 have hk:=hk.trans kH2
 have c1:=kH2.cl c1 (by simp)
 refine Ze rfl<|Ze rfl<|Zi<|Zm<|YB (b:=H.next) (o:=0) rfl<|YH (b:=H.next) (o:=1) (v:=.slice da n dc) rfl c1.rd rfl<|Va (m:=n) rfl ?_
 obtain ⟨i3,hi3,hby⟩:=ZcG
 obtain ⟨H3,hH3⟩:∃ H3,H2.new (.cells (jd (List.replicate n 0)) 3 false)=H3:=⟨_,rfl⟩
 refine Wk (v:=.slice (some ⟨H2.next,0,none⟩) n n) (H':=H3) (k:=.heavy) rfl (by kernel_rfl) ((JX (m:=n) yu zo3 hi3 hby rfl rfl (by omega)).trans (by rw [hH3])) (fun b e=>by cases e) ?_
 obtain ⟨kH3,nH3,cp⟩:=ZR hH3;clear hH3
 have mH3:=kH3.1
 have hk:=hk.trans kH3
 have c1:=kH3.cl c1 (by simp)
 have c2:=kH3.cl c2 (by simp)
 obtain ⟨pb,epb⟩:∃ pb,pb=H2.next:=⟨_,rfl⟩
 rw [← Zez,← epb] at cp
 have cp:Cl H3 pb (plc n fun _=>0):=cp
 rw [← epb]
 refine W4 ?_
 intro H4 kH4 nH4 c4
 have c4:Cl H4 H3.next [.slice none 0 0]:=c4
 have mH4:=kH4.1
 have hk:=hk.trans kH4
 have c1:=kH4.cl c1 (by simp)
 have c2:=kH4.cl c2 (by simp)
 have cp:=kH4.cl cp (by simp)
 refine jT (b:=H3.next) (o:=0) rfl rfl c4 (by omega) rfl rfl (by simp) ?_
 intro H5 kH5 nH5 sH5
 have mH5:=kH5.1
 have hk:=hk.new kH5 (fun b hb=>by simp at hb ⊢;omega)
 have c1:=kH5.cl c1 (by first | (simp;done) | (simp;omega))
 have c2:=kH5.cl c2 (by first | (simp;done) | (simp;omega))
 have cp:=kH5.cl cp (by first | (simp;done) | (simp;omega))
 have c4:Cl H5 H3.next [.slice (some ⟨pb,0,none⟩) n n]:=sH5
 refine Zi<|Zm<|qs (enc:=seV) ?_
 intro H6 kH6 nH6 hmp
 have mH6:=kH6.1
 have hk:=hk.trans kH6
 have c1:=kH6.cl c1 (by simp)
 have c2:=kH6.cl c2 (by simp)
 have cp:=kH6.cl cp (by simp)
 have c4:=kH6.cl c4 (by simp)
 obtain ⟨gb,egb⟩:∃ gb,gb=H5.next:=⟨_,rfl⟩
 rw [← egb] at hmp ⊢
 refine W4 ?_
 intro H7 kH7 nH7 c7
 have c7:Cl H7 H6.next [(.map none)]:=c7
 have mH7:=kH7.1
 have hk:=hk.trans kH7
 have c1:=kH7.cl c1 (by simp)
 have c2:=kH7.cl c2 (by simp)
 have cp:=kH7.cl cp (by simp)
 have c4:=kH7.cl c4 (by simp)
 have hmp:=kH7.mpa hmp (by simp)
 refine jT (b:=H6.next) (o:=0) rfl rfl c7 (by omega) rfl rfl (by simp) ?_
 intro H8 kH8 nH8 sH8
 have mH8:=kH8.1
 have hk:=hk.new kH8 (fun b hb=>by simp at hb ⊢;omega)
 have c1:=kH8.cl c1 (by first | (simp;done) | (simp;omega))
 have c2:=kH8.cl c2 (by first | (simp;done) | (simp;omega))
 have cp:=kH8.cl cp (by first | (simp;done) | (simp;omega))
 have c4:=kH8.cl c4 (by first | (simp;done) | (simp;omega))
 have hmp:=kH8.mpa hmp (by simp;omega)
 have c7:Cl H8 H6.next [.map (some gb)]:=sH8
 refine Zi<|Zm<|W4 ?_
 intro H9 kH9 nH9 c9
 have c9:Cl H9 H8.next [.nilFunc]:=c9
 have mH9:=kH9.1
 have hk:=hk.trans kH9
 have c1:=kH9.cl c1 (by simp)
 have c2:=kH9.cl c2 (by simp)
 have cp:=kH9.cl cp (by simp)
 have c4:=kH9.cl c4 (by simp)
 have hmp:=kH9.mpa hmp (by simp)
 have c7:=kH9.cl c7 (by simp)
 refine Zi<|Zm<|Zl (v:=.func (.func 99) #[] #[pt H3.next,pt H.next,pt H6.next,pt H1.next,pt H8.next]) rfl (by kernel_rfl)<|jT (b:=H8.next) (o:=0) rfl rfl c9 (by omega) rfl rfl (by simp) ?_
 intro H10 kH10 nH10 sH10
 have mH10:=kH10.1
 have hk:=hk.new kH10 (fun b hb=>by simp at hb ⊢;omega)
 have c1:=kH10.cl c1 (by first | (simp;done) | (simp;omega))
 have c2:=kH10.cl c2 (by first | (simp;done) | (simp;omega))
 have cp:=kH10.cl cp (by first | (simp;done) | (simp;omega))
 have c4:=kH10.cl c4 (by first | (simp;done) | (simp;omega))
 have hmp:=kH10.mpa hmp (by simp;omega)
 have c7:=kH10.cl c7 (by first | (simp;done) | (simp;omega))
 have c9:Cl H10 H8.next [.func (.func 99) #[] #[pt H3.next,pt H.next,pt H6.next,pt H1.next,pt H8.next]]:=sH10
 refine Zi<|Zm<|YH (b:=H8.next) (o:=0) (v:=.func (.func 99) #[] #[pt H3.next,pt H.next,pt H6.next,pt H1.next,pt H8.next]) rfl c9.rd rfl ?_
 have ho:PqO (⟨n,D,B,cr,lim,H3.next,H.next,H6.next,H1.next,H8.next,pb,gb,ba,bc,da,dc,sa,cq⟩:Pq):=⟨by show pb≠gb;omega,by show H3.next≠pb∧H3.next≠gb;omega,by show H.next≠pb∧H.next≠gb;omega,by show H6.next≠pb∧H6.next≠gb;omega,by show H1.next≠pb∧H1.next≠gb;omega,by show H8.next≠pb∧H8.next≠gb;omega,fun b e=>by have:=ob b e;show b≠pb∧b≠gb;omega,fun b e=>by have:=od b e;show b≠pb∧b≠gb;omega,fun k hk b e=>by have:=(hdd k hk).old b e;show b≠pb∧b≠gb;omega⟩
 have hP:PqH (⟨n,D,B,cr,lim,H3.next,H.next,H6.next,H1.next,H8.next,pb,gb,ba,bc,da,dc,sa,cq⟩:Pq) H10:=⟨c4.rd,c1.rd,c7.rd,c2.rd,c9.rd,hk.sl0 hbs,hk.sl0 hds,fun k hk2=>hk.sl0 (hdd k hk2),cp.1,hmp.1⟩
 have ht:=Za4 (lo:=lo) s ho hn hcr hDs hDl (by show lo≤pb;omega) (by show lo≤gb;omega) n (j:=0) (p:=fun _=>0) (p0:=fun _=>0) (H:=H10) (by show 0+n=n;omega) hP (fun _ _=>rfl) cp hmp DnQ.nil OkQ.zero
 refine XM (t:=.fn (.func 99) #[pt H3.next,pt H.next,pt H6.next,pt H1.next,pt H8.next]) rfl (Ub s.hN (by simpa using ht)) ?_
 rintro v H11 ⟨hres,kH11⟩
 have kH11:Zf H10 H11 [pb,gb]:=kH11
 have mH11:=kH11.1
 have hk:=hk.new kH11 (fun b hb=>by simp at hb ⊢;omega)
 have c1:=kH11.cl c1 (by first | (simp;done) | (simp;omega))
 have c2:=kH11.cl c2 (by first | (simp;done) | (simp;omega))
 have c4:=kH11.cl c4 (by first | (simp;done) | (simp;omega))
 have c7:=kH11.cl c7 (by first | (simp;done) | (simp;omega))
 have c9:=kH11.cl c9 (by first | (simp;done) | (simp;omega))
 rcases hres with ⟨p2,rfl,hf,cp⟩ | ⟨m,p2,L,c,rfl,hm,hbad,_,cp,_,_⟩
 ·refine Ze rfl<|Zl (v:=.int .u8 0) rfl (by kernel_rfl)<|Zl (v:=.bool true) rfl (by kernel_rfl)<|Ze rfl<|Ze rfl<|Zi<|Zm<|YH (b:=H3.next) (o:=0) (v:=.slice (some ⟨pb,0,none⟩) n n) rfl c4.rd rfl<|Ze rfl<|Ze rfl<|Ze rfl<|Zi ?_
  exact And.intro trivial (Exists.intro _ (And.intro rfl ⟨hk,pb,by omega,by omega,.inl ⟨p2,rfl,hf,cp.rd⟩⟩))
 ·refine Ze rfl<|Zl (v:=.int .u8 ((m:Nat):Int)) rfl (by kernel_rfl)<|Zl (v:=.bool false) rfl (by kernel_rfl)<|Ze rfl<|Ze rfl<|Zi<|Zm<|YH (b:=H3.next) (o:=0) (v:=.slice (some ⟨pb,0,none⟩) n n) rfl c4.rd rfl<|Ze rfl<|Ze rfl<|Ze rfl<|Zi ?_
  exact And.intro trivial (Exists.intro _ (And.intro rfl ⟨hk,pb,by omega,by omega,.inr ⟨rfl,hbad.none_⟩⟩))
end
end
end Go.Ax

/-
 Pool: best (55) (written by program).
-/
namespace Go.Ax
open Go Go.RowKit Go.Proofs

noncomputable section
def FdQ (n:Nat) (D:Nat→List Int) (B:Nat→Int) (cr:Int) (lim:Int) (pv:Value) (fd:Bool) (H':Hp):Prop:=
 (fd=false∧pv=.slice none 0 0∧lim=16384)∨(fd=true∧∃ p pb,pv=.slice (some ⟨pb,0,none⟩) n n∧SoQ n D B cr 16384 p∧lim=ltQ n p - 1∧Rd H' pb (plc n p))
theorem FdQ.keep {n:Nat} {D:Nat→List Int} {B:Nat→Int} {cr lim:Int} {pv:Value} {fd:Bool} {H1 H2:Hp} (h:FdQ n D B cr lim pv fd H1) (k:Zf H1 H2 []):FdQ n D B cr lim pv fd H2:=
 h.imp id fun ⟨e,p,pb,a,b,c,d⟩=>⟨e,p,pb,a,b,c,k.rd d (by simp)⟩
def BsT (n:Nat) (D:Nat→List Int) (B:Nat→Int) (cr:Int) (v:Value) (H':Hp):Prop:=
 (∃ p pb,v=.tuple #[.slice (some ⟨pb,0,none⟩) n n,.bool true]∧Q8 n D B cr 16384 p∧Rd H' pb (plc n p))∨(v=.tuple #[.slice none 0 0,.bool false]∧∀ q,¬ OkQ n D B cr 16384 q)
theorem FdQ.end_ {n:Nat} {D:Nat→List Int} {B:Nat→Int} {cr lim:Int} {pv:Value} {fd:Bool} {H':Hp} (h:FdQ n D B cr lim pv fd H') (hn:∀ q,OkQ n D B cr lim q→n=0) (h0:lim=16384→∀ q,¬ OkQ n D B cr lim q):BsT n D B cr (.tuple #[pv,.bool fd]) H':=by
 rcases h with ⟨rfl,rfl,e⟩ | ⟨rfl,p,pb,rfl,hs,e,r⟩
 ·exact .inr ⟨rfl,fun q hq=>h0 e q (by rw [e];exact hq)⟩
 ·exact .inl ⟨p,pb,rfl,hs.best (by rw [← e];exact hn),r⟩
section
variable {kn:Kn} {lo:Nat} {H:Hp}
set_option maxRecDepth 100000 in
set_option maxHeartbeats 1000000 in
theorem Zbh (s:Snd Try.prog kn) {n:Nat} {D:Nat→List Int} {B:Nat→Int} {cr:Int} {ba da:Option Addr} {bc dc:Nat} {sa:Nat→Option Addr} {cq:Nat→Nat} (hbs:Sl H ba n bc (plc n B)) (hds:Sl H da n dc (zl n sa D cq)) (hdd:∀ k,k < n→Sl H (sa k) (D k).length (cq k) (cI (D k))) (hn:n≤8) (hcr:1≤cr) (hDs:∀ k,k < n→(D k).Pairwise (· < ·)) (hDl:∀ k,k < n→(D k).length≤41) (hD:∀ k,k < n→∀ d∈D k,0≤d∧d≤16384) (hlo:lo≤H.next) :
  FnM Try.prog lo 55 [.agg #[.slice ba n bc,.slice da n dc,iv cr]] H fun v H'=>Zf H H' []∧BsT n D B cr v H':=by
 refine WG s Try.func55 B55 N55 Z55 L55 (by simp) ?_
 have hk:=Zf.refl H []
 refine Zm<|Vl (v:=.agg #[.slice ba n bc,.slice da n dc,iv cr]) rfl ?_
 intro H1 kH1 nH1 c1
 have c1:Cl H1 H.next [.slice ba n bc,.slice da n dc,iv cr]:=c1
 have mH1:=kH1.1
 have hk:=hk.trans kH1
 refine Ze rfl<|Ze rfl<|Zi<|Zm<|Ze rfl<|Zi ?_
 have d1:Cl H1 H.next [.slice ba n bc,.slice da n dc,iv cr]:=c1
 refine VL s (fn:=Try.f55) ZdD N55 Zeu (fun z:Int × Value × Bool=>[(1,pt H.next),(2,z.2.1),(3,.bool z.2.2),(4,iv z.1)])
  (fun k z H'=>(z.1+1).toNat=k∧-1≤z.1∧z.1≤16384∧Zf H H' []∧Cl H' H.next [.slice ba n bc,.slice da n dc,iv cr]∧FdQ n D B cr z.1 z.2.1 z.2.2 H') _ (16384,.slice none 0 0,false) ⟨rfl,by decide,by decide,hk,d1,.inl ⟨rfl,rfl,rfl⟩⟩ ⟨rfl,rfl,rfl,rfl,trivial⟩ ?_
 rintro k ⟨lim,pv,fd⟩ L1 ⟨hlk,hl1,hl2,hk,d1,hfd⟩
 simp only [] at hlk hl1 hl2 hfd
 have mk:=hk.1
 refine Zm<|Ze rfl<|ZaH (a:=lim) (b:=0) rfl rfl<|Zi ?_
 refine And.intro (fun q1=>?_) (fun q1=>?_)
 ·have q1:lim ≥ 0:=of_decide_eq_true q1
  first | refine Yl ?_ | skip
  refine Zm<|XL (b:=H.next) (o:=0) rfl d1.rd (show row 3 _ _=some [.slice ba n bc,.slice da n dc,iv cr] from rfl)<|Ze rfl<|XM (t:=.fn (.func 84) #[]) rfl (Xc s.hN (ZaA s (H:=L1) (lim:=lim) (hk.sl0 hbs) (hk.sl0 hds) (fun k h=>hk.sl0 (hdd k h)) hn hcr hDs hDl (by omega))) ?_
  rintro v H2 ⟨kH2,pb,_,_,hres⟩
  have mH2:=kH2.1
  have hk:=hk.trans kH2
  have d1:=kH2.cl d1 (by simp)
  have hfd:=hfd.keep kH2
  rcases hres with ⟨p,rfl,hf,rp⟩ | ⟨rfl,hno⟩
  ·have hlim0:0≤lim:=by omega
   have hlt:ltQ n p≤lim:=UW.2 ⟨hlim0,hf.1.le⟩
   have hl0:0≤ltQ n p:=((UW (p:=p) (n:=n)).1 (Int.le_refl _)).1
   have hso:SoQ n D B cr 16384 p:=SoQ.of (fun i hi d hd=>(hD i hi d hd).1) hf hl2
   refine Ze rfl<|Zl (v:=.slice (some ⟨pb,0,none⟩) n n) rfl (by kernel_rfl)<|Zl (v:=.bool true) rfl (by kernel_rfl)<|Ze rfl<|Ze rfl<|Zi<|Zm<|Ze rfl<|Zl (v:=.bool false) rfl rfl<|Zi<|YE ?_
   first | refine Yl ?_ | skip
   show Zo _ _ _ _ _ _ _ _
   refine Ze rfl<|Ze rfl<|Ze rfl<|Zi ?_
   show Zo _ _ _ _ _ _ _ _
   refine Ze rfl ?_
   obtain ⟨H3,fH3,kH3⟩:=jE (kn:=kn) (lo:=lo) (H:=H2) (sa:=some ⟨pb,0,none⟩) (n:=n) (cap:=n) (p:=p) (.inr ⟨pb,rfl,rp,Nat.le_refl _⟩) (by omega)
   refine Z1 s (vs:=[.slice (some ⟨pb,0,none⟩) n n]) rfl (Zk fH3) ?_
   have mH3:=kH3.1
   have hk:=hk.trans kH3
   have d1:=kH3.cl d1 (by simp)
   have hfd:=hfd.keep kH3
   have rp:=kH3.rd rp (by simp)
   refine Zdn (a:=(ltQ n p)) (b:=1) rfl rfl ⟨by omega,by omega⟩<|Ze rfl<|Zi ?_
   exact ⟨_,(ltQ n p - 1,_,true),by omega,⟨rfl,by simp only [];omega,by simp only [];omega,hk,d1,.inr ⟨rfl,p,pb,rfl,hso,rfl,rp⟩⟩,rfl,rfl,rfl,rfl,trivial⟩
  ·have hend:∀ q,OkQ n D B cr lim q→n=0:=fun q hq=>absurd hq (hno q)
   have hzer:lim=16384→∀ q,¬ OkQ n D B cr lim q:=fun _=>hno
   refine Ze rfl<|Zl (v:=.slice (some ⟨pb,0,none⟩) n n) rfl (by kernel_rfl)<|Zl (v:=.bool false) rfl (by kernel_rfl)<|Ze rfl<|Ze rfl<|Zi<|Zm<|Ze rfl<|Zl (v:=.bool true) rfl rfl<|Zi<|YC ?_
   first | (refine W8 ?_;show wCM _ _ _ _ _ _ _ _ _) | skip
   refine Zm<|Ze rfl<|Ze rfl<|Ze rfl<|Ze rfl<|Zi ?_
   exact And.intro trivial (Exists.intro _ (And.intro rfl ⟨hk,hfd.end_ hend hzer⟩))
 ·have q1:¬ (lim ≥ 0):=of_decide_eq_false q1
  have hend:∀ q,OkQ n D B cr lim q→n=0:=fun q hq=>Classical.byContradiction fun h0=>by have a:=hq.le 0 (by omega);have b:=(hD 0 (by omega) _ (hq.mem 0 (by omega))).1;omega
  have hzer:lim=16384→∀ q,¬ OkQ n D B cr lim q:=fun e=>by omega
  first | (refine W8 ?_;show wCM _ _ _ _ _ _ _ _ _) | skip
  refine Zm<|Ze rfl<|Ze rfl<|Ze rfl<|Ze rfl<|Zi ?_
  exact And.intro trivial (Exists.intro _ (And.intro rfl ⟨hk,hfd.end_ hend hzer⟩))
end
end
end Go.Ax

/-
 Pool: newPlanner (54) (written by program).
-/
namespace Go.Ax
open Go Go.RowKit Go.Proofs

noncomputable section
theorem Zft:∃ i,Try.prog.info? 97=some i∧i.size=3:=by
 have h:(Try.prog.info? 97).map (fun i=>i.size)=some 3:=by kernel_rfl
 cases e:Try.prog.info? 97 with
 | none=>rw [e] at h;cases h
 | some i=>rw [e] at h;simp at h;exact ⟨i,rfl,h⟩
theorem a97:XT Try.prog 97=some true:=by kernel_rfl
theorem Zeq:Z7 Try.prog 95=some (28,1):=by kernel_rfl
theorem ZeS:Try.prog.underlying 95=some (.slice 28):=by kernel_rfl
theorem Zfj:Ym Try.prog 28=some (.slice none 0 0):=by kernel_rfl
theorem Acc.out {lo f e:Nat} {H H1:Hp} {v w:Value} {m:Nat} {ds:List Value} (h:Acc lo f e H w m ds) (k:Zf H H1 (bkv v).toList) (ap:Ap v w):Acc lo f e H1 w m ds:=by
 rcases h with h | ⟨b,rfl,q1,q2,q3,q4,q5⟩
 ·exact .inl h
 ·have hb:b ∉ (bkv v).toList:=fun hx=>ap b b (by cases e:bkv v with
   | none=>rw [e] at hx;simp at hx
   | some x=>rw [e] at hx;simp at hx;rw [hx]) rfl rfl
  exact .inr ⟨b,rfl,q1,q2,q3,Nat.lt_of_lt_of_le q4 k.1,by rw [k.2 b q4 hb];exact q5⟩
theorem Acc.lowL {lo lo2 f f2 e:Nat} {H:Hp} {w:Value} {m:Nat} {ds:List Value} (h:Acc lo f e H w m ds) (hl:lo2≤lo) (hf:f2≤f):Acc lo2 f2 e H w m ds:=
 h.imp id fun ⟨b,a1,a2,a3,a4,a5,a6⟩=>⟨b,a1,a2,by omega,by omega,a5,a6⟩
theorem Acc.apN {lo lo2 f e e2 f2:Nat} {H H2:Hp} {v w:Value} {n m:Nat} {cs ds:List Value} (h:Acc lo f e H v n cs) (h2:Acc lo2 f2 e2 H2 w m ds) (hf:H.next≤f2):Ap v w:=by
 intro b c h3 h4 e5
 subst e5
 have a:=(Qf h b (by rw [h3];simp)).2
 have b:=(Qf h2 b (by rw [h4];simp)).1
 omega
theorem Acc.apF {lo f e:Nat} {H:Hp} {w:Value} {m:Nat} {ds:List Value} (h:Acc lo f e H w m ds) {x i j:Nat} (hx:H.next≤x):Ap (.slice (some ⟨x,0,none⟩) i j) w:=by
 intro b c h1 h2 e1
 have:=(Qf h c (by rw [h2];simp)).2
 simp [bkv] at h1
 omega
def vA:Value→Option Addr
 | .slice a _ _=>a
 | _=>none
def vC:Value→Nat
 | .slice _ _ c=>c
 | _=>0
def wlc (n:Nat) (W:Nat→Value):List Value:=(List.range n).map W
theorem Zd7 {n:Nat} {W W2:Nat→Value} {v:Value} (h:∀ k,k < n→W2 k=W k) (hv:W2 n=v):wlc (n+1) W2=wlc n W ++ [v]:=by
 unfold wlc
 rw [List.range_succ,List.map_append]
 congr 1
 ·exact List.map_congr_left fun k hk=>h k (List.mem_range.1 hk)
 ·simp [hv]
theorem Zd9 {n:Nat} {p:Nat→Int}:plc (n+1) p=plc n p ++ [iv (p n)]:=by
 unfold plc
 rw [List.range_succ,List.map_append];rfl
theorem Zbl {n:Nat} {W:Nat→Value}:(wlc n W).length=n:=by unfold wlc;simp
def jY (W:Nat→Value) (n:Nat) (v:Value):Nat→Value:=fun k=>if k=n then v else W k
theorem Zbv {n:Nat} {W:Nat→Value} {D:Nat→List Int} (h:∀ k,k < n→W k=.slice (vA (W k)) (D k).length (vC (W k))):wlc n W=zl n (fun k=>vA (W k)) D (fun k=>vC (W k)):=by
 unfold wlc zl
 exact List.map_congr_left fun k hk=>h k (List.mem_range.1 hk)
structure NpQ (y:Yd) (lo f m:Nat) (v1 v2:Value) (W:Nat→Value) (H:Hp):Prop where
 a1:Acc lo f 3 H v1 m (plc m fun k=>(y.js.getD k Jb.z).b)
 a2:Acc lo f 28 H v2 m (wlc m W)
 aw:∀ k,k < m→Acc lo f 3 H (W k) (dyL y k).length (cI (dyL y k))∧Ap v1 (W k)∧Ap v2 (W k)
 ap:Ap v1 v2
theorem NpQ.keep {y:Yd} {lo f m:Nat} {v1 v2:Value} {W:Nat→Value} {H H1:Hp} (h:NpQ y lo f m v1 v2 W H) (k:Zf H H1 []):NpQ y lo f m v1 v2 W H1:=⟨h.a1.keep k,h.a2.keep k,fun i hi=>⟨(h.aw i hi).1.keep k,(h.aw i hi).2⟩,h.ap⟩
section
variable {kn:Kn} {lo:Nat} {H:Hp}
set_option maxRecDepth 100000 in
set_option maxHeartbeats 2000000 in
theorem yZ {a:Ya} {y:Yd} (hy:YaH H a y) (hB:YaB y) (hv:vY y=true) {cr:Int} (hlo:lo≤H.next):∃ v H',FnX Try.prog kn lo 54 [.agg (Ya.f a y).toArray,iv cr] H v H'∧∃ ba bc da dc sa cq,v=.agg #[.slice ba y.js.length bc,.slice da y.js.length dc,iv cr]∧Sl H' ba y.js.length bc (plc y.js.length fun k=>(y.js.getD k Jb.z).b)∧Sl H' da y.js.length dc (zl y.js.length sa (dyL y) cq)∧(∀ k,k < y.js.length→Sl H' (sa k) (dyL y k).length (cq k) (cI (dyL y k)))∧Zf H H' []:=by
 have key:=Zs (kn:=kn) (lo:=lo) (H:=H) (args:=[.agg (Ya.f a y).toArray,iv cr]) (Q:=fun w H'=>∃ ba bc da dc sa cq,w=.agg #[.slice ba y.js.length bc,.slice da y.js.length dc,iv cr]∧Sl H' ba y.js.length bc (plc y.js.length fun k=>(y.js.getD k Jb.z).b)∧Sl H' da y.js.length dc (zl y.js.length sa (dyL y) cq)∧(∀ k,k < y.js.length→Sl H' (sa k) (dyL y k).length (cq k) (cI (dyL y k)))∧Zf H H' []) Try.func54 B54 N54 Z54 L54 (by simp) ?_
 ·exact key
 have hk:=Zf.refl H []
 have hjl:=(ZbN hv).2.2.2.1
 refine Zd<|Yc (v:=.agg (Ya.f a y).toArray) rfl ?_
 intro H1 kH1 nH1 c1
 have c1:Cl H1 H.next [.slice a.pa y.ps.length a.pc,.slice a.ba y.bs.length a.bc,.slice a.sa y.ss.length a.sc,.slice a.ja y.js.length a.jc]:=c1
 have mH1:=kH1.1
 have hk:=hk.trans kH1
 refine Y8 ?_
 intro H2 kH2 nH2 c2
 have c2:Cl H2 H1.next [.slice none 0 0,.slice none 0 0,iv 0]:=c2
 have mH2:=kH2.1
 have hk:=hk.trans kH2
 have c1:=kH2.cl c1 (by simp)
 refine Zb<|Zd<|Za rfl<|Zg (v:=.agg #[.slice none 0 0,.slice none 0 0,iv cr]) rfl (by kernel_rfl)<|Y8 ?_
 intro H3 kH3 nH3 c3
 have c3:Cl H3 H2.next [.slice none 0 0,.slice none 0 0,iv 0]:=c3
 have mH3:=kH3.1
 have hk:=hk.trans kH3
 have c1:=kH3.cl c1 (by simp)
 have c2:=kH3.cl c2 (by simp)
 refine YS (b:=H2.next) (o:=0) rfl rfl c3 (by omega) rfl rfl (by simp) ?_
 intro H4 kH4 nH4 sH4
 have mH4:=kH4.1
 have hk:=hk.new kH4 (fun b hb=>by simp at hb ⊢;omega)
 have c1:=kH4.cl c1 (by first | (simp;done) | (simp;omega))
 have c2:=kH4.cl c2 (by first | (simp;done) | (simp;omega))
 have c3:Cl H4 H2.next [.slice none 0 0,.slice none 0 0,iv cr]:=sH4
 refine Zb<|Zd<|Zq (b:=H.next) (o:=0) rfl<|Zq (b:=H.next) (o:=0) rfl<|ZG (b:=H.next) (o:=3) (v:=.slice a.ja y.js.length a.jc) rfl c1.rd rfl<|YI (m:=y.js.length) rfl<|Za rfl<|Zb ?_
 have d2:Cl H4 (H.next) (Ya.f a y):=c1
 have d4:Cl H4 (H1.next) [.slice none 0 0,.slice none 0 0,iv 0]:=c2
 have d5:Cl H4 (H2.next) [.slice none 0 0,.slice none 0 0,iv cr]:=c3
 have l2:=d2.1
 have l4:=d4.1
 have l5:=d5.1
 refine YO (fn:=Try.f54) ZdI N54 Zd6 (fun m:Nat=>[(2,pt H.next),(4,pt H1.next),(5,pt H2.next),(12,.slice a.ja y.js.length a.jc),(13,iv (y.js.length:Int)),(14,iv (m:Int))])
  (fun k m H'=>m+k=y.js.length∧Zf H H' []∧H4.next≤H'.next∧Cl H' (H.next) (Ya.f a y)∧Cl H' (H1.next) [.slice none 0 0,.slice none 0 0,iv 0]∧∃ v1 v2 W,Cl H' (H2.next) [v1,v2,iv cr]∧NpQ y lo H4.next m v1 v2 W H') y.js.length 0 ⟨by simp,hk,by omega,d2,d4,_,_,(fun _=>.slice none 0 0),d5,.inl ⟨rfl,rfl,rfl⟩,.inl ⟨rfl,rfl,rfl⟩,fun k h=>by omega,fun b c h1=>by simp [bkv] at h1⟩ ⟨rfl,rfl,rfl,rfl,rfl,rfl,trivial⟩ ?_
 rintro k m L1 ⟨hmk,hk,hnx,d2,d4,v1,v2,W,d5,hN⟩
 have hk0:=hk
 have mk:=hk.1
 have kacc:=Zf.refl L1 []
 refine Zd<|YY (a:=(m:Int)) (b:=(y.js.length:Int)) rfl rfl<|Zb ?_
 refine And.intro (fun q1=>?_) (fun q1=>?_)
 ·have q1:(m:Int) < (y.js.length:Int):=of_decide_eq_true q1
  have hml:m < y.js.length:=by omega
  have sj0:=(hy.keep hk).j
  rcases id sj0 with ⟨_,h0j,_⟩ | ⟨jb,ej,rj,_⟩
  ·omega
  have lj:=rj.1
  have oj:=hy.j.old jb ej
  first | refine ZE ?_ | skip
  refine Zd<|Za rfl<|Xz (b:=jb) (o:=0) (k:=m) (j:=(m:Int)) (by rw [← ej];rfl) rfl rfl hml<|Yo (b:=jb) (o:=0+m * 4) rfl rj (VD (by omega))<|Y8 ?_
  intro H5 kH5 nH5 c5
  have c5:Cl H5 L1.next [iv 0,iv 0,iv 0,iv 0]:=c5
  have mH5:=kH5.1
  have hk:=hk.trans kH5
  have d2:=kH5.cl d2 (by simp)
  have d4:=kH5.cl d4 (by simp)
  have d5:=kH5.cl d5 (by simp)
  have kacc:=kacc.trans kH5
  have rj:=kH5.rd rj (by simp)
  refine Za rfl<|YS (b:=L1.next) (o:=0) rfl rfl c5 (by omega) rfl rfl (by simp) ?_
  intro H6 kH6 nH6 sH6
  have mH6:=kH6.1
  have hk:=hk.new kH6 (fun b hb=>by simp at hb ⊢;omega)
  have d2:=kH6.cl d2 (by first | (simp;done) | (simp;omega))
  have d4:=kH6.cl d4 (by first | (simp;done) | (simp;omega))
  have d5:=kH6.cl d5 (by first | (simp;done) | (simp;omega))
  have kacc:=kacc.new kH6 (fun b hb=>by simp at hb ⊢;omega)
  have rj:=kH6.rd rj (by first | (simp;done) | (simp;omega))
  have c5:Cl H6 L1.next [iv ((y.js.getD m Jb.z).b),iv ((y.js.getD m Jb.z).p),iv ((y.js.getD m Jb.z).u),iv ((y.js.getD m Jb.z).t)]:=sH6
  refine Zb<|Zd<|Zq (b:=H2.next) (o:=0) rfl<|ZG (b:=H2.next) (o:=0) (v:=v1) rfl d5.rd rfl<|Zq (b:=L1.next) (o:=0) rfl<|ZG (b:=L1.next) (o:=0) (v:=iv ((y.js.getD m Jb.z).b)) rfl c5.rd rfl ?_
  obtain ⟨H7,hH7⟩:∃ H7,H6.new (.cells [iv ((y.js.getD m Jb.z).b)] 3 false)=H7:=⟨_,rfl⟩
  refine XJ (H':=H7) (k:=.heavy) rfl (by kernel_rfl) ((WI (v:=iv ((y.js.getD m Jb.z).b)) yu zo3 rfl rfl rfl (by decide)).trans (by rw [← hH7];rfl)) (fun b e=>by cases e) ?_
  obtain ⟨kH7,nH7,c7⟩:=ZR hH7;clear hH7
  have c7:Cl H7 H6.next [iv ((y.js.getD m Jb.z).b)]:=c7
  have mH7:=kH7.1
  have hk:=hk.trans kH7
  have d2:=kH7.cl d2 (by simp)
  have d4:=kH7.cl d4 (by simp)
  have d5:=kH7.cl d5 (by simp)
  have kacc:=kacc.trans kH7
  have rj:=kH7.rd rj (by simp)
  have c5:=kH7.cl c5 (by simp)
  have hN:=hN.keep kacc
  obtain ⟨H8,kdH8,eH8,dH8,aH8,kbH8⟩:=We (P:=Try.prog) (lo:=lo) (k:=m) (t1:=28) yu Zc0 (c7.sl (Nat.le_refl 1)) rfl (by decide) rfl (by rw [qm];omega) (by omega) hN.a1 (by omega) (by omega)
  refine XJ (k:=kdH8) rfl (by cases v1<;>kernel_rfl) (eH8 _ _ _ _ _ _ _ rfl rfl) (zk dH8 _) ?_
  have hbk:=Qf hN.a1
  have d2:=kbH8.cl d2 (fun hx=>by have:=hbk _ hx;omega)
  have d4:=kbH8.cl d4 (fun hx=>by have:=hbk _ hx;omega)
  have d5:=kbH8.cl d5 (fun hx=>by have:=hbk _ hx;omega)
  have hk:=hk.new kbH8 (fun b hb=>.inr (by have:=hbk _ hb;omega))
  have hN2:Acc lo H4.next 28 H8 v2 m (wlc m W)∧(∀ k,k < m→Acc lo H4.next 3 H8 (W k) (dyL y k).length (cI (dyL y k))∧Ap (.slice (some ⟨H7.next,0,none⟩) (m+1) (m+1)) (W k)∧Ap v2 (W k))∧Ap (.slice (some ⟨H7.next,0,none⟩) (m+1) (m+1)) v2:=⟨hN.a2.out kbH8 hN.ap,fun k hk=>⟨(hN.aw k hk).1.out kbH8 (hN.aw k hk).2.1,(hN.aw k hk).1.apF (Nat.le_refl _),(hN.aw k hk).2.2⟩,hN.a2.apF (Nat.le_refl _)⟩
  have hA1:Acc lo H4.next 3 H8 (.slice (some ⟨H7.next,0,none⟩) (m+1) (m+1)) (m+1) (plc (m+1) fun k=>(y.js.getD k Jb.z).b):=by rw [Zd9];exact aH8
  have mH8:=kbH8.1
  refine Zq (b:=H2.next) (o:=0) rfl<|Zcs (b:=H2.next) (o:=0) (v:=.slice (some ⟨H7.next,0,none⟩) (m+1) (m+1)) rfl rfl d5 (by omega) rfl rfl (by simp) ?_
  intro H9 kH9 nH9 sH9
  have mH9:=kH9.1
  have hk:=hk.new kH9 (fun b hb=>by simp at hb ⊢;omega)
  have d2:=kH9.cl d2 (by first | (simp;done) | (simp;omega))
  have d4:=kH9.cl d4 (by first | (simp;done) | (simp;omega))
  have d5:Cl H9 H2.next [.slice (some ⟨H7.next,0,none⟩) (m+1) (m+1),v2,iv cr]:=sH9
  have hA1:=hA1.keepW kH9 (by omega)
  have hN2:Acc lo H4.next 28 H9 v2 m (wlc m W)∧(∀ k,k < m→Acc lo H4.next 3 H9 (W k) (dyL y k).length (cI (dyL y k))∧Ap (.slice (some ⟨H7.next,0,none⟩) (m+1) (m+1)) (W k)∧Ap v2 (W k))∧Ap (.slice (some ⟨H7.next,0,none⟩) (m+1) (m+1)) v2:=⟨hN2.1.keepW kH9 (by omega),fun k hk=>⟨(hN2.2.1 k hk).1.keepW kH9 (by omega),(hN2.2.1 k hk).2⟩,hN2.2.2⟩
  have kacc:=Zf.refl H9 []
  refine Zb ?_
  first | refine QK ?_ | refine qx ?_ | refine j5 ?_ | (refine zu ?_;refine QK ?_)
  have hA1_:=hA1
  refine Zz (b:=H2.next) (o:=0) rfl<|Z8 (b:=H2.next) (o:=1) (v:=v2) rfl d5.rd rfl<|Uf (b:=H.next) (o:=0) rfl d2.rd (show row 4 (Ya.f a y) 0=some (Ya.f a y) from rfl)<|ZJ rfl ?_
  obtain ⟨wv,H10,fH10,aH10,kH10⟩:=Ka (kn:=kn) (lo:=H9.next) (H:=H9) (hy.keep hk) hB hv (i:=m) hml (by omega)
  obtain ⟨sw,cw,rfl,_,_⟩:=aH10.sl
  refine UB (vs:=[.agg (Ya.f a y).toArray,iv (m:Int)]) rfl rfl (Zk fH10) ?_
  have hlow:lo≤H9.next:=by omega
  have mH10:=kH10.1
  have hk:=hk.trans kH10
  have d2:=kH10.cl d2 (by simp)
  have d4:=kH10.cl d4 (by simp)
  have d5:=kH10.cl d5 (by simp)
  have kacc:=kacc.trans kH10
  obtain ⟨H11,hH11⟩:∃ H11,H10.new (.cells [.slice sw ((dyL y m).length) cw] 28 false)=H11:=⟨_,rfl⟩
  refine KI (H':=H11) (k:=.heavy) rfl (by kernel_rfl) ((WI (v:=.slice sw ((dyL y m).length) cw) Zeq Zfj rfl rfl rfl (by decide)).trans (by rw [← hH11];rfl)) (fun b e=>by cases e) ?_
  obtain ⟨kH11,nH11,c11⟩:=ZR hH11;clear hH11
  have c11:Cl H11 H10.next [.slice sw ((dyL y m).length) cw]:=c11
  have mH11:=kH11.1
  have hk:=hk.trans kH11
  have d2:=kH11.cl d2 (by simp)
  have d4:=kH11.cl d4 (by simp)
  have d5:=kH11.cl d5 (by simp)
  have kacc:=kacc.trans kH11
  have hA1:=hA1.keep kacc
  have hQ2:=hN2.1.keep kacc
  have hD0:Acc lo H4.next 3 H11 (.slice sw (dyL y m).length cw) (dyL y m).length (cI (dyL y m)):=(aH10.lowL (by omega) (by omega)).keep kH11
  have apn1:Ap (.slice (some ⟨H7.next,0,none⟩) (m+1) (m+1)) (.slice sw (dyL y m).length cw):=hA1_.apN aH10 (by omega)
  have apn2:Ap v2 (.slice sw (dyL y m).length cw):=hN2.1.apN aH10 (by omega)
  obtain ⟨H12,kdH12,eH12,dH12,aH12,kbH12⟩:=We (P:=Try.prog) (lo:=lo) (k:=m) (t1:=95) Zeq ZeS (c11.sl (Nat.le_refl 1)) rfl (by decide) rfl (by rw [Zbl];omega) (by omega) hQ2 (by omega) (by omega)
  refine KI (k:=kdH12) rfl (by cases v2<;>kernel_rfl) (eH12 _ _ _ _ _ _ _ rfl rfl) (zk dH12 _) ?_
  have hbk:=Qf hQ2
  have d2:=kbH12.cl d2 (fun hx=>by have:=hbk _ hx;omega)
  have d4:=kbH12.cl d4 (fun hx=>by have:=hbk _ hx;omega)
  have d5:=kbH12.cl d5 (fun hx=>by have:=hbk _ hx;omega)
  have hk:=hk.new kbH12 (fun b hb=>.inr (by have:=hbk _ hb;omega))
  have hB1:=hA1.out kbH12 hN2.2.2.symm
  have hB2:=aH12
  have hBw:=hD0.out kbH12 apn2
  have hBx:Ap (.slice (some ⟨H7.next,0,none⟩) (m+1) (m+1)) (.slice sw (dyL y m).length cw)∧Ap (.slice (some ⟨H11.next,0,none⟩) (m+1) (m+1)) (.slice sw (dyL y m).length cw):=⟨apn1,hD0.apF (Nat.le_refl _)⟩
  have hB3:∀ k,k < m→Acc lo H4.next 3 H12 (W k) (dyL y k).length (cI (dyL y k))∧Ap (.slice (some ⟨H7.next,0,none⟩) (m+1) (m+1)) (W k)∧Ap (.slice (some ⟨H11.next,0,none⟩) (m+1) (m+1)) (W k):=fun k hk=>⟨((hN2.2.1 k hk).1.keep kacc).out kbH12 (hN2.2.1 k hk).2.2,(hN2.2.1 k hk).2.1,((hN2.2.1 k hk).1.keep kacc).apF (Nat.le_refl _)⟩
  have hB4:Ap (.slice (some ⟨H7.next,0,none⟩) (m+1) (m+1)) (.slice (some ⟨H11.next,0,none⟩) (m+1) (m+1)):=(hA1.apF (Nat.le_refl _)).symm
  have mH12:=kbH12.1
  refine Zz (b:=H2.next) (o:=0) rfl<|qC (b:=H2.next) (o:=1) (v:=.slice (some ⟨H11.next,0,none⟩) (m+1) (m+1)) rfl rfl d5 (by omega) rfl rfl (by simp) ?_
  intro H13 kH13 nH13 sH13
  have mH13:=kH13.1
  have hk:=hk.new kH13 (fun b hb=>by simp at hb ⊢;omega)
  have d2:=kH13.cl d2 (by first | (simp;done) | (simp;omega))
  have d4:=kH13.cl d4 (by first | (simp;done) | (simp;omega))
  have d5:Cl H13 H2.next [.slice (some ⟨H7.next,0,none⟩) (m+1) (m+1),.slice (some ⟨H11.next,0,none⟩) (m+1) (m+1),iv cr]:=sH13
  have hN3:NpQ y lo H4.next (m+1) (.slice (some ⟨H7.next,0,none⟩) (m+1) (m+1)) (.slice (some ⟨H11.next,0,none⟩) (m+1) (m+1)) (jY W m (.slice sw (dyL y m).length cw)) H13:=by
   refine ⟨hB1.keepW kH13 (by omega),?_,?_,?_⟩
   ·rw [Zd7 (W:=W) (v:=.slice sw (dyL y m).length cw) (fun k hk=>by unfold jY;rw [if_neg (by omega)]) (by unfold jY;rw [if_pos rfl])];exact hB2.keepW kH13 (by omega)
   ·intro k hkm
    unfold jY
    by_cases ekm:k=m
    ·subst ekm;rw [if_pos rfl];exact ⟨hBw.keepW kH13 (by omega),hBx.1,hBx.2⟩
    ·rw [if_neg ekm];exact ⟨(hB3 k (by omega)).1.keepW kH13 (by omega),(hB3 k (by omega)).2⟩
   ·exact hB4
  refine Y7 (by rcases dH12 with rfl | ⟨bH12,rfl,hbH12⟩<;>repeat' first | exact True.intro | exact (fun h=>h) | refine And.intro ?_ ?_ | (intro h;have h:(_:Nat)=_:=h;omega)) ?_
  show Zw _ _ _ _ _ _ _ _
  refine YK (a:=(m:Int)) (b:=1) rfl rfl ⟨by omega,by omega⟩<|Za rfl<|Zb ?_
  exact ⟨k - 1,m+1,by omega,⟨by omega,hk,by omega,d2,d4,_,_,jY W m (.slice sw (dyL y m).length cw),d5,hN3⟩,rfl,rfl,rfl,rfl,rfl,rfl,trivial⟩
 ·have q1:¬ ((m:Int) < (y.js.length:Int)):=of_decide_eq_false q1
  first | (refine Ve ?_;show wC _ _ _ _ _ _ _ _ _) | skip
  refine Zd ?_
  have ein:m=y.js.length:=by omega
  subst ein
  obtain ⟨ba,bc,rfl,hs1,o1⟩:=hN.a1.sl
  obtain ⟨da,dc,rfl,hs2,o2⟩:=hN.a2.sl
  refine Yo (b:=H2.next) (o:=0) rfl d5.rd (show row 3 _ _=some [.slice ba y.js.length bc,.slice da y.js.length dc,iv cr] from rfl)<|YS (b:=H1.next) (o:=0) rfl rfl d4 (by omega) rfl rfl (by simp) ?_
  intro H14 kH14 nH14 sH14
  have mH14:=kH14.1
  have hk:=hk.new kH14 (fun b hb=>by simp at hb ⊢;omega)
  have d2:=kH14.cl d2 (by first | (simp;done) | (simp;omega))
  have d5:=kH14.cl d5 (by first | (simp;done) | (simp;omega))
  have d4:Cl H14 H1.next [.slice ba y.js.length bc,.slice da y.js.length dc,iv cr]:=sH14
  refine Zb ?_
  have kZ:=kH14
  have hW:∀ k,k < y.js.length→W k=.slice (vA (W k)) (dyL y k).length (vC (W k)):=fun k hk=>by obtain ⟨a1,c1,e1,_,_⟩:=(hN.aw k hk).1.sl;rw [e1];rfl
  rw [Zbv hW] at hs2
  exact And.intro trivial (Exists.intro _ (And.intro (zK rfl a97 Zft rfl d4) ⟨ba,bc,da,dc,_,_,rfl,kZ.sl hs1 (fun b e=>by have:=o1 b e;simp;omega),kZ.sl hs2 (fun b e=>by have:=o2 b e;simp;omega),fun k hkk=>by
    obtain ⟨a1,c1,e1,s1,o3⟩:=(hN.aw k hkk).1.sl
    have q:=kZ.sl s1 (fun b e=>by have:=o3 b e;simp;omega)
    rw [e1];exact q,hk⟩))
end
end
end Go.Ax

/-
 Pool: Days,Plan (18,27) (written by program).
-/
namespace Go.Ax
open Go Go.RowKit Go.Proofs

noncomputable section
theorem KH {y:Yd} {i:Nat} {d:Int}:∀ {m:Nat},d∈dyT y i m↔∃ k,k < m∧d=(y.js.getD i Jb.z).u+(k:Int)∧(rcL y (y.js.getD i Jb.z) d).length=0
 | 0=>by simp [dyT]
 | m+1=>by
  have ih:=KH (y:=y) (i:=i) (d:=d) (m:=m)
  unfold dyT
  rw [List.mem_append,ih]
  constructor
  ·rintro (⟨k,hk,a⟩ | h)
   ·exact ⟨k,by omega,a⟩
   ·split at h
    ·rename_i q
     simp at h
     subst h
     exact ⟨m,by omega,rfl,q⟩
    ·simp at h
  ·rintro ⟨k,hk,rfl,b⟩
   by_cases e:k=m
   ·subst e;right;rw [if_pos b];simp
   ·exact .inl ⟨k,by omega,rfl,b⟩
theorem JH {y:Yd} {i:Nat}:∀ {m:Nat},(dyT y i m).Pairwise (· < ·)
 | 0=>List.Pairwise.nil
 | m+1=>by
  unfold dyT
  rw [List.pairwise_append]
  refine ⟨JH,by split<;>simp,fun a ha b hb=>?_⟩
  obtain ⟨k,hk,rfl,_⟩:=KH.1 ha
  split at hb
  ·rw [List.mem_singleton] at hb;subst hb;omega
  ·cases hb
theorem Zc4 {y:Yd} {i:Nat} (h:JbT y (y.js.getD i Jb.z)):∀ d∈dyL y i,0≤d∧d≤16384:=by
 intro d hd
 have:=h.jj
 obtain ⟨k,hk,rfl,_⟩:=KH.1 hd
 unfold nd at hk
 omega
theorem Za8 {y:Yd} {i:Nat} (h:JbT y (y.js.getD i Jb.z)):(dyL y i).length≤41:=Nat.le_trans (KX _) (Zaz h)
def bdN (y:Yd) (k:Nat):Int:=(y.js.getD k Jb.z).b
def DaT (y:Yd) (i:Int) (lo f:Nat) (v:Value) (H':Hp):Prop:=
 (vY y=false∧v=.tuple #[.slice none 0 0,iv 1])∨(vY y=true∧inB i 0 ((y.js.length:Int) - 1)=false∧v=.tuple #[.slice none 0 0,iv 2])∨
  (vY y=true∧∃ (k:Nat) (w:Value),i=(k:Int)∧k < y.js.length∧v=.tuple #[w,iv 0]∧Acc lo f 3 H' w (dyL y k).length (cI (dyL y k)))
def PlT (y:Yd) (cr:Int) (v:Value) (H':Hp):Prop:=
 (vY y=false∧v=.tuple #[.slice none 0 0,iv 1])∨(vY y=true∧inB cr 1 8=false∧v=.tuple #[.slice none 0 0,iv 2])∨
  (vY y=true∧inB cr 1 8=true∧((∃ p pb,v=.tuple #[.slice (some ⟨pb,0,none⟩) y.js.length y.js.length,iv 0]∧Q8 y.js.length (dyL y) (bdN y) cr 16384 p∧Rd H' pb (plc y.js.length p))∨(v=.tuple #[.slice none 0 0,iv 4]∧∀ q,¬ OkQ y.js.length (dyL y) (bdN y) cr 16384 q)))
section
variable {kn:Kn} {lo:Nat} {H:Hp}
set_option maxRecDepth 100000 in
set_option maxHeartbeats 1000000 in
theorem Zby (s:Snd Try.prog kn) {a:Ya} {y:Yd} (hy:YaH H a y) (hB:YaB y) {i:Int} (hlo:lo≤H.next) :
  FnM Try.prog lo 18 [.agg (Ya.f a y).toArray,iv i] H fun v H'=>Zf H H' []∧DaT y i lo H.next v H':=by
 refine WG s Try.func18 B18 N18 Z18 L18 (by simp) ?_
 have hk:=Zf.refl H []
 have hB3:=hB.2.2.2.1
 refine Zm<|Vl (v:=.agg (Ya.f a y).toArray) rfl ?_
 intro H1 kH1 nH1 c1
 have c1:Cl H1 H.next [.slice a.pa y.ps.length a.pc,.slice a.ba y.bs.length a.bc,.slice a.sa y.ss.length a.sc,.slice a.ja y.js.length a.jc]:=c1
 have mH1:=kH1.1
 have hk:=hk.trans kH1
 refine Ze rfl<|Ze rfl<|Zi<|Zm<|XL (b:=H.next) (o:=0) rfl c1.rd (show row 4 _ _=some [.slice a.pa y.ps.length a.pc,.slice a.ba y.bs.length a.bc,.slice a.sa y.ss.length a.sc,.slice a.ja y.js.length a.jc] from rfl)<|XM (t:=.fn (.func 40) #[]) rfl (Xc s.hN (Zcr s (H:=H1) (hy.keep hk) hB (by omega))) ?_
 rintro _ H2 ⟨rfl,kH2⟩
 have mH2:=kH2.1
 have hk:=hk.trans kH2
 have c1:=kH2.cl c1 (by simp)
 cases hv:vY y
 ·refine Zl (v:=.bool true) rfl rfl<|Zi<|YC<|Zm<|Ze rfl<|Ze rfl<|Zi ?_
  exact And.intro trivial (Exists.intro _ (And.intro rfl ⟨hk,.inl ⟨hv,rfl⟩⟩))
 ·refine Zl (v:=.bool false) rfl rfl<|Zi<|YE ?_
  first | refine Yl ?_ | skip
  refine Zm<|Ze rfl<|YB (b:=H.next) (o:=0) rfl<|YH (b:=H.next) (o:=3) (v:=.slice a.ja y.js.length a.jc) rfl c1.rd rfl<|Va (m:=y.js.length) rfl<|zB s rfl (US (by omega)) ?_
  intro tH3 H3 hH3 kH3
  have mH3:=kH3.1
  have hk:=hk.trans kH3
  have c1:=kH3.cl c1 (by simp)
  cases tH3
  ·have thH3:inB i 0 ((y.js.length:Int) - 1)=false:=hH3
   have uhH3:=YG thH3
   refine Zl (v:=.bool true) rfl rfl<|Zi<|YC<|Zm<|Ze rfl<|Ze rfl<|Zi ?_
   have hin:inB i 0 ((y.js.length:Int) - 1)=false:=by assumption
   exact And.intro trivial (Exists.intro _ (And.intro rfl ⟨hk,.inr (.inl ⟨hv,hin,rfl⟩)⟩))
  ·have thH3:inB i 0 ((y.js.length:Int) - 1)=true:=hH3
   have uhH3:=Yr thH3
   refine Zl (v:=.bool false) rfl rfl<|Zi<|YE ?_
   first | refine Yl ?_ | skip
   refine Zm<|XL (b:=H.next) (o:=0) rfl c1.rd (show row 4 _ _=some [.slice a.pa y.ps.length a.pc,.slice a.ba y.bs.length a.bc,.slice a.sa y.ss.length a.sc,.slice a.ja y.js.length a.jc] from rfl)<|Zl (v:=.agg (Ya.f a y).toArray) rfl (by kernel_rfl)<|Ze rfl ?_
   obtain ⟨kk,rfl⟩:∃ kk:Nat,i=(kk:Int):=⟨i.toNat,by omega⟩
   obtain ⟨wv,H4,fH4,aH4,kH4⟩:=Ka (kn:=kn) (lo:=lo) (H:=H3) (hy.keep hk) hB hv (i:=kk) (by omega) (by omega)
   refine Z1 s (vs:=[.agg (Ya.f a y).toArray,iv (kk:Int)]) rfl (Zk fH4) ?_
   have mH4:=kH4.1
   have hk:=hk.trans kH4
   have c1:=kH4.cl c1 (by simp)
   refine Ze rfl<|Ze rfl<|Zi ?_
   exact And.intro trivial (Exists.intro _ (And.intro rfl ⟨hk,.inr (.inr ⟨hv,kk,wv,rfl,by omega,rfl,aH4.low (by omega)⟩)⟩))
set_option maxRecDepth 100000 in
set_option maxHeartbeats 1000000 in
theorem Zb9 (s:Snd Try.prog kn) {a:Ya} {y:Yd} (hy:YaH H a y) (hB:YaB y) {cr:Int} (hlo:lo≤H.next) :
  FnM Try.prog lo 27 [.agg (Ya.f a y).toArray,iv cr] H fun v H'=>Zf H H' []∧PlT y cr v H':=by
 refine WG s Try.func27 B27 N27 Z27 L27 (by simp) ?_
 have hk:=Zf.refl H []
 refine Zm<|Vl (v:=.agg (Ya.f a y).toArray) rfl ?_
 intro H1 kH1 nH1 c1
 have c1:Cl H1 H.next [.slice a.pa y.ps.length a.pc,.slice a.ba y.bs.length a.bc,.slice a.sa y.ss.length a.sc,.slice a.ja y.js.length a.jc]:=c1
 have mH1:=kH1.1
 have hk:=hk.trans kH1
 refine Ze rfl<|Ze rfl<|Zi<|Zm<|XL (b:=H.next) (o:=0) rfl c1.rd (show row 4 _ _=some [.slice a.pa y.ps.length a.pc,.slice a.ba y.bs.length a.bc,.slice a.sa y.ss.length a.sc,.slice a.ja y.js.length a.jc] from rfl)<|XM (t:=.fn (.func 40) #[]) rfl (Xc s.hN (Zcr s (H:=H1) (hy.keep hk) hB (by omega))) ?_
 rintro _ H2 ⟨rfl,kH2⟩
 have mH2:=kH2.1
 have hk:=hk.trans kH2
 have c1:=kH2.cl c1 (by simp)
 cases hv:vY y
 ·refine Zl (v:=.bool true) rfl rfl<|Zi<|YC<|Zm<|Ze rfl<|Ze rfl<|Zi ?_
  exact And.intro trivial (Exists.intro _ (And.intro rfl ⟨hk,.inl ⟨hv,rfl⟩⟩))
 ·refine Zl (v:=.bool false) rfl rfl<|Zi<|YE ?_
  first | refine Yl ?_ | skip
  refine Zm<|Ze rfl<|zB s rfl (XZ) ?_
  intro tH3 H3 hH3 kH3
  have mH3:=kH3.1
  have hk:=hk.trans kH3
  have c1:=kH3.cl c1 (by simp)
  cases tH3
  ·have thH3:inB cr 1 8=false:=hH3
   have uhH3:=YG thH3
   refine Zl (v:=.bool true) rfl rfl<|Zi<|YC<|Zm<|Ze rfl<|Ze rfl<|Zi ?_
   have hin:inB cr 1 8=false:=by assumption
   exact And.intro trivial (Exists.intro _ (And.intro rfl ⟨hk,.inr (.inl ⟨hv,hin,rfl⟩)⟩))
  ·have thH3:inB cr 1 8=true:=hH3
   have uhH3:=Yr thH3
   refine Zl (v:=.bool false) rfl rfl<|Zi<|YE ?_
   first | refine Yl ?_ | skip
   refine Zm<|XL (b:=H.next) (o:=0) rfl c1.rd (show row 4 _ _=some [.slice a.pa y.ps.length a.pc,.slice a.ba y.bs.length a.bc,.slice a.sa y.ss.length a.sc,.slice a.ja y.js.length a.jc] from rfl)<|Zl (v:=.agg (Ya.f a y).toArray) rfl (by kernel_rfl)<|Ze rfl ?_
   obtain ⟨_,H4,fH4,ba,bc,da,dc,sa,cq,rfl,hbs,hds,hdd,kH4⟩:=yZ (kn:=kn) (lo:=lo) (H:=H3) (hy.keep hk) hB hv (cr:=cr) (by omega)
   refine Z1 s (vs:=[.agg (Ya.f a y).toArray,iv cr]) rfl (Zk fH4) ?_
   have mH4:=kH4.1
   have hk:=hk.trans kH4
   have c1:=kH4.cl c1 (by simp)
   refine XM (t:=.fn (.func 55) #[]) rfl (Xc s.hN (Zbh s (H:=H4) (n:=y.js.length) (D:=dyL y) (B:=bdN y) (cr:=cr) hbs hds hdd (ZbN hv).2.2.2.1 (by omega) (fun k _=>JH) (fun k hk=>Za8 (z9 hv hk)) (fun k hk=>Zc4 (z9 hv hk)) (by omega))) ?_
   rintro _ H5 ⟨kH5,hres⟩
   have mH5:=kH5.1
   have hk:=hk.trans kH5
   have c1:=kH5.cl c1 (by simp)
   rcases hres with ⟨p,pb,rfl,hbest,rp⟩ | ⟨rfl,hno⟩
   ·refine Ze rfl<|Zl (v:=.slice (some ⟨pb,0,none⟩) y.js.length y.js.length) rfl (by kernel_rfl)<|Zl (v:=.bool true) rfl (by kernel_rfl)<|Ze rfl<|Ze rfl<|Zi<|Zm<|Ze rfl<|Zl (v:=.bool false) rfl rfl<|Zi<|YE ?_
    first | refine Yl ?_ | skip
    refine Zm<|Ze rfl<|Ze rfl<|Ze rfl<|Zi ?_
    have hin:inB cr 1 8=true:=by assumption
    exact And.intro trivial (Exists.intro _ (And.intro rfl ⟨hk,.inr (.inr ⟨hv,hin,.inl ⟨p,pb,rfl,hbest,rp⟩⟩)⟩))
   ·refine Ze rfl<|Zl (v:=.slice none 0 0) rfl (by kernel_rfl)<|Zl (v:=.bool false) rfl (by kernel_rfl)<|Ze rfl<|Ze rfl<|Zi<|Zm<|Ze rfl<|Zl (v:=.bool true) rfl rfl<|Zi<|YC<|Zm<|Ze rfl<|Ze rfl<|Zi ?_
    have hin:inB cr 1 8=true:=by assumption
    exact And.intro trivial (Exists.intro _ (And.intro rfl ⟨hk,.inr (.inr ⟨hv,hin,.inr ⟨rfl,hno⟩⟩)⟩))
end
end
end Go.Ax

/-
 Pool: the example of the document;lists compared (33,24) (written by program).
-/
namespace Go.Ax
open Go Go.RowKit Go.Proofs

noncomputable section
def y0:Yd:=⟨[⟨100,2,2,[10,30]⟩],[⟨0,0,100,0⟩,⟨300,0,100,1⟩],[⟨60,80,50,60⟩,⟨300,101,0,99⟩],[⟨0,0,47,63⟩,⟨1,0,60,75⟩,⟨0,0,61,62⟩]⟩
section
variable {kn:Kn} {lo:Nat} {H:Hp}
set_option maxRecDepth 100000 in
theorem jI (hlo:lo≤H.next):∃ a H',FnX Try.prog kn lo 33 [] H (.agg (Ya.f a y0).toArray) H'∧YaH H' a y0∧Zf H H' []:=by
 have key:=Zs (kn:=kn) (lo:=lo) (H:=H) (args:=[]) (Q:=fun w H'=>∃ a,w=.agg (Ya.f a y0).toArray∧YaH H' a y0∧Zf H H' []) Try.func33 B33 N33 Z33 L33 (by simp) ?_
 ·obtain ⟨w,H',h,a,rfl,r⟩:=key;exact ⟨a,H',h,r⟩
 have hk:=Zf.refl H []
 refine Zd<|Y8 ?_
 intro H1 kH1 nH1 c1
 have c1:Cl H1 H.next [.slice none 0 0,.slice none 0 0,.slice none 0 0,.slice none 0 0]:=c1
 have mH1:=kH1.1
 have hk:=hk.trans kH1
 refine Zb<|Zd ?_
 obtain ⟨H2,hH2⟩:∃ H2,H1.new (.cells [iv 10,iv 30] 3 false)=H2:=⟨_,rfl⟩
 refine XJ (v:=.slice (some ⟨H1.next,0,none⟩) 2 2) (H':=H2) (k:=.heavy) rfl (by kernel_rfl) (Eq.trans (by kernel_rfl:_=some (Rs.val (.slice (some ⟨H1.next,0,none⟩) 2 2) (H1.new (.cells [iv 10,iv 30] 3 false)),Kd.heavy)) (by rw [hH2])) (fun b e=>by cases e) ?_
 obtain ⟨kH2,nH2,cw⟩:=ZR hH2;clear hH2
 have cw:Cl H2 H1.next [iv 10,iv 30]:=cw
 have mH2:=kH2.1
 have hk:=hk.trans kH2
 have c1:=kH2.cl c1 (by simp)
 refine Zg (v:=.agg #[iv 100,iv 2,.slice (some ⟨H1.next,0,none⟩) 2 2,iv 2]) rfl (by kernel_rfl) ?_
 obtain ⟨H3,hH3⟩:∃ H3,H2.new (.cells [iv 100,iv 2,.slice (some ⟨H1.next,0,none⟩) 2 2,iv 2] 60 false)=H3:=⟨_,rfl⟩
 refine XJ (v:=.slice (some ⟨H2.next,0,none⟩) 1 1) (H':=H3) (k:=.heavy) rfl (by kernel_rfl) (Eq.trans (by kernel_rfl:_=some (Rs.val (.slice (some ⟨H2.next,0,none⟩) 1 1) (H2.new (.cells [iv 100,iv 2,.slice (some ⟨H1.next,0,none⟩) 2 2,iv 2] 60 false)),Kd.heavy)) (by rw [hH3])) (fun b e=>by cases e) ?_
 obtain ⟨kH3,nH3,cp⟩:=ZR hH3;clear hH3
 have cp:Cl H3 H2.next [iv 100,iv 2,.slice (some ⟨H1.next,0,none⟩) 2 2,iv 2]:=cp
 have mH3:=kH3.1
 have hk:=hk.trans kH3
 have c1:=kH3.cl c1 (by simp)
 have cw:=kH3.cl cw (by simp)
 refine Zg (v:=.agg #[iv 0,iv 0,iv 100,iv 0]) rfl (by kernel_rfl)<|Zg (v:=.agg #[iv 300,iv 0,iv 100,iv 1]) rfl (by kernel_rfl) ?_
 obtain ⟨H4,hH4⟩:∃ H4,H3.new (.cells [iv 0,iv 0,iv 100,iv 0,iv 300,iv 0,iv 100,iv 1] 62 false)=H4:=⟨_,rfl⟩
 refine XJ (v:=.slice (some ⟨H3.next,0,none⟩) 2 2) (H':=H4) (k:=.heavy) rfl (by kernel_rfl) (Eq.trans (by kernel_rfl:_=some (Rs.val (.slice (some ⟨H3.next,0,none⟩) 2 2) (H3.new (.cells [iv 0,iv 0,iv 100,iv 0,iv 300,iv 0,iv 100,iv 1] 62 false)),Kd.heavy)) (by rw [hH4])) (fun b e=>by cases e) ?_
 obtain ⟨kH4,nH4,cb⟩:=ZR hH4;clear hH4
 have cb:Cl H4 H3.next [iv 0,iv 0,iv 100,iv 0,iv 300,iv 0,iv 100,iv 1]:=cb
 have mH4:=kH4.1
 have hk:=hk.trans kH4
 have c1:=kH4.cl c1 (by simp)
 have cw:=kH4.cl cw (by simp)
 have cp:=kH4.cl cp (by simp)
 refine Zg (v:=.agg #[iv 60,iv 80,iv 50,iv 60]) rfl (by kernel_rfl)<|Zg (v:=.agg #[iv 300,iv 101,iv 0,iv 99]) rfl (by kernel_rfl) ?_
 obtain ⟨H5,hH5⟩:∃ H5,H4.new (.cells [iv 60,iv 80,iv 50,iv 60,iv 300,iv 101,iv 0,iv 99] 64 false)=H5:=⟨_,rfl⟩
 refine XJ (v:=.slice (some ⟨H4.next,0,none⟩) 2 2) (H':=H5) (k:=.heavy) rfl (by kernel_rfl) (Eq.trans (by kernel_rfl:_=some (Rs.val (.slice (some ⟨H4.next,0,none⟩) 2 2) (H4.new (.cells [iv 60,iv 80,iv 50,iv 60,iv 300,iv 101,iv 0,iv 99] 64 false)),Kd.heavy)) (by rw [hH5])) (fun b e=>by cases e) ?_
 obtain ⟨kH5,nH5,cs⟩:=ZR hH5;clear hH5
 have cs:Cl H5 H4.next [iv 60,iv 80,iv 50,iv 60,iv 300,iv 101,iv 0,iv 99]:=cs
 have mH5:=kH5.1
 have hk:=hk.trans kH5
 have c1:=kH5.cl c1 (by simp)
 have cw:=kH5.cl cw (by simp)
 have cp:=kH5.cl cp (by simp)
 have cb:=kH5.cl cb (by simp)
 refine Zg (v:=.agg #[iv 0,iv 0,iv 47,iv 63]) rfl (by kernel_rfl)<|Zg (v:=.agg #[iv 1,iv 0,iv 60,iv 75]) rfl (by kernel_rfl)<|Zg (v:=.agg #[iv 0,iv 0,iv 61,iv 62]) rfl (by kernel_rfl) ?_
 obtain ⟨H6,hH6⟩:∃ H6,H5.new (.cells [iv 0,iv 0,iv 47,iv 63,iv 1,iv 0,iv 60,iv 75,iv 0,iv 0,iv 61,iv 62] 55 false)=H6:=⟨_,rfl⟩
 refine XJ (v:=.slice (some ⟨H5.next,0,none⟩) 3 3) (H':=H6) (k:=.heavy) rfl (by kernel_rfl) (Eq.trans (by kernel_rfl:_=some (Rs.val (.slice (some ⟨H5.next,0,none⟩) 3 3) (H5.new (.cells [iv 0,iv 0,iv 47,iv 63,iv 1,iv 0,iv 60,iv 75,iv 0,iv 0,iv 61,iv 62] 55 false)),Kd.heavy)) (by rw [hH6])) (fun b e=>by cases e) ?_
 obtain ⟨kH6,nH6,cj⟩:=ZR hH6;clear hH6
 have cj:Cl H6 H5.next [iv 0,iv 0,iv 47,iv 63,iv 1,iv 0,iv 60,iv 75,iv 0,iv 0,iv 61,iv 62]:=cj
 have mH6:=kH6.1
 have hk:=hk.trans kH6
 have c1:=kH6.cl c1 (by simp)
 have cw:=kH6.cl cw (by simp)
 have cp:=kH6.cl cp (by simp)
 have cb:=kH6.cl cb (by simp)
 have cs:=kH6.cl cs (by simp)
 refine Zg (v:=.agg #[.slice (some ⟨H2.next,0,none⟩) 1 1,.slice (some ⟨H3.next,0,none⟩) 2 2,.slice (some ⟨H4.next,0,none⟩) 2 2,.slice (some ⟨H5.next,0,none⟩) 3 3]) rfl (by kernel_rfl)<|YS (b:=H.next) (o:=0) rfl rfl c1 (by omega) rfl rfl (by simp) ?_
 intro H7 kH7 nH7 sH7
 have mH7:=kH7.1
 have hk:=hk.new kH7 (fun b hb=>by simp at hb ⊢;omega)
 have cw:=kH7.cl cw (by first | (simp;done) | (simp;omega))
 have cp:=kH7.cl cp (by first | (simp;done) | (simp;omega))
 have cb:=kH7.cl cb (by first | (simp;done) | (simp;omega))
 have cs:=kH7.cl cs (by first | (simp;done) | (simp;omega))
 have cj:=kH7.cl cj (by first | (simp;done) | (simp;omega))
 have c1:Cl H7 H.next [.slice (some ⟨H2.next,0,none⟩) 1 1,.slice (some ⟨H3.next,0,none⟩) 2 2,.slice (some ⟨H4.next,0,none⟩) 2 2,.slice (some ⟨H5.next,0,none⟩) 3 3]:=sH7
 refine Zb ?_
 exact And.intro trivial (Exists.intro _ (And.intro (zK rfl a27 Zfp rfl c1) ⟨(⟨some ⟨H2.next,0,none⟩,some ⟨H3.next,0,none⟩,some ⟨H4.next,0,none⟩,some ⟨H5.next,0,none⟩,1,2,2,3,fun _=>(some ⟨H1.next,0,none⟩,2)⟩:Ya),rfl,⟨.inr ⟨_,rfl,cp.rd,Nat.le_refl _⟩,fun i hi=>by
   have hi:i < 1:=hi
   obtain rfl:i=0:=by omega
   exact .inr ⟨_,rfl,cw.rd,Nat.le_refl _⟩,.inr ⟨_,rfl,cb.rd,Nat.le_refl _⟩,.inr ⟨_,rfl,cs.rd,Nat.le_refl _⟩,.inr ⟨_,rfl,cj.rd,Nat.le_refl _⟩⟩,hk⟩))
set_option maxRecDepth 100000 in
theorem yd {l:List Int} {pa pb:Option Addr} {cap1 cap2:Nat} (ha:Sl H pa l.length cap1 (cI l)) (hb:Sl H pb l.length cap2 (cI l)) (hlen:l.length≤1000000):∃ H',FnX Try.prog kn lo 24 [.slice pa l.length cap1,.slice pb l.length cap2] H (.bool true) H'∧Zf H H' []:=by
 have key:=Zs (kn:=kn) (lo:=lo) (H:=H) (args:=[.slice pa l.length cap1,.slice pb l.length cap2]) (Q:=fun w H'=>w=.bool true∧Zf H H' []) Try.func24 B24 N24 Z24 L24 (by simp) ?_
 ·obtain ⟨w,H',h,rfl,q⟩:=key;exact ⟨H',h,q⟩
 have hk:=Zf.refl H []
 have fa:=ha.old
 have fb:=hb.old
 refine Zd<|Za rfl<|Zb<|Zd<|Za rfl<|YI (m:=l.length) rfl<|Za rfl<|YI (m:=l.length) rfl<|Q9 (a:=(l.length:Int)) (b:=(l.length:Int)) rfl rfl ?_
 rw [show ((l.length:Int) != (l.length:Int))=false by simp]
 refine Zb<|YE ?_
 first | refine ZE ?_ | skip
 refine Zd<|Za rfl<|Zb ?_
 refine YO (fn:=Try.f24) Zek N24 Zd0 (fun i:Nat=>[(0,.slice pa l.length cap1),(1,.slice pb l.length cap2),(5,iv (i:Int))])
  (fun k i H'=>i+k=l.length∧Zf H H' []∧Sl H' pa l.length cap1 (cI l)∧Sl H' pb l.length cap2 (cI l)) l.length 0 ⟨by omega,hk,ha,hb⟩ ⟨rfl,rfl,rfl,trivial⟩ ?_
 rintro k i L1 ⟨hik,hk,ha,hb⟩
 have mk:=hk.1
 refine Zd<|Za rfl<|Za rfl<|YI (m:=l.length) rfl<|YY (a:=(i:Int)) (b:=(l.length:Int)) rfl rfl<|Zb ?_
 refine And.intro (fun q1=>?_) (fun q1=>?_)
 ·have q1:(i:Int) < (l.length:Int):=of_decide_eq_true q1
  have hi:i < l.length:=by omega
  rcases id ha with ⟨_,h0s,_⟩ | ⟨sb,es,rs,_⟩
  ·omega
  have ls:=rs.1
  rcases id hb with ⟨_,h0t,_⟩ | ⟨tb,et,rt,_⟩
  ·omega
  have lt:=rt.1
  first | refine ZE ?_ | skip
  refine Wf<|ZJ rfl<|ZJ rfl<|XR (b:=sb) (o:=0) (k:=i) (j:=(i:Int)) (by rw [← es];rfl) rfl rfl hi<|Z8 (b:=sb) (o:=0+i * 1) (v:=iv (l.getD i 0)) rfl rs (Jq hi)<|ZJ rfl<|ZJ rfl<|XR (b:=tb) (o:=0) (k:=i) (j:=(i:Int)) (by rw [← et];rfl) rfl rfl hi<|Z8 (b:=tb) (o:=0+i * 1) (v:=iv (l.getD i 0)) rfl rt (Jq hi)<|ZaG (a:=l.getD i 0) (b:=l.getD i 0) rfl rfl ?_
  rw [show ((l.getD i 0) != (l.getD i 0))=false by simp]
  refine Y7 (by repeat' first | exact True.intro | exact (fun h=>h) | refine And.intro ?_ ?_ | (intro h;have h:(_:Nat)=_:=h;omega)) ?_
  refine YE ?_
  first | refine ZE ?_ | skip
  show Zw _ _ _ _ _ _ _ _
  refine Za rfl<|YK (a:=(i:Int)) (b:=1) rfl rfl ⟨by omega,by omega⟩<|Za rfl<|Zb ?_
  exact ⟨k - 1,i+1,by omega,⟨by omega,hk,ha,hb⟩,rfl,rfl,rfl,trivial⟩
 ·have q1:¬ ((i:Int) < (l.length:Int)):=of_decide_eq_false q1
  first | (refine Ve ?_;show wC _ _ _ _ _ _ _ _ _) | skip
  refine Zd<|Za rfl<|Zb ?_
  exact And.intro trivial (Exists.intro _ (And.intro rfl ⟨rfl,hk⟩))
theorem vy0:vY y0=true:=by kernel_rfl
theorem ZcF:dyL y0 0=[47,61,62,63]:=by kernel_rfl
theorem Zex:dyL y0 1=[60,61,62,63,64,65,66,67,68,69,70]:=by kernel_rfl
theorem Zem:dyL y0 2=[61,62]:=by kernel_rfl
def p0:Nat→Int:=fun k=>([47,60,61]:List Int).getD k 0
theorem ok0:OkQ 3 (dyL y0) (bdN y0) 1 16384 p0 where
 mem i hi:=by
  obtain rfl | rfl | rfl:i=0∨i=1∨i=2:=by omega
  ·rw [ZcF];decide
  ·rw [Zex];decide
  ·rw [Zem];decide
 le i hi:=by
  obtain rfl | rfl | rfl:i=0∨i=1∨i=2:=by omega
  all_goals decide
 bed i j hij hj _:=by
  obtain ⟨rfl,rfl⟩ | ⟨rfl,rfl⟩ | ⟨rfl,rfl⟩:(i=0∧j=1)∨(i=0∧j=2)∨(i=1∧j=2):=by omega
  all_goals decide
 crew i hi:=by
  obtain rfl | rfl | rfl:i=0∨i=1∨i=2:=by omega
  all_goals decide
theorem Zdv:Q8 3 (dyL y0) (bdN y0) 1 16384 p0:=by
 refine ⟨ok0,fun q hq=>?_⟩
 have h0:=hq.mem 0 (by omega)
 have h1:=hq.mem 1 (by omega)
 have h2:=hq.mem 2 (by omega)
 rw [ZcF] at h0
 rw [Zex] at h1
 rw [Zem] at h2
 simp only [List.mem_cons,List.not_mem_nil,or_false] at h0 h1 h2
 have hb:=hq.bed 0 2 (by omega) (by omega) rfl
 have e0:ltQ 3 p0=61:=by decide
 have eq:ltQ 3 q=max (max (max 0 (q 0)) (q 1)) (q 2):=rfl
 rw [e0,eq]
 have a0:p0 0=47:=rfl
 have a1:p0 1=60:=rfl
 have a2:p0 2=61:=rfl
 refine ⟨by omega,fun e=>?_⟩
 have q0:q 0=47:=by omega
 have q2:q 2=61:=by omega
 by_cases e1:q 1=60
 ·left
  intro i hi
  obtain rfl | rfl | rfl:i=0∨i=1∨i=2:=by omega
  ·rw [q0,a0]
  ·rw [e1,a1]
  ·rw [q2,a2]
 ·right
  refine ⟨1,by omega,fun j hj=>?_,by omega⟩
  obtain rfl:j=0:=by omega
  rw [q0,a0]
end
end
end Go.Ax

/-
 Pool: the examples of the document hold (15) (written by program).
-/
namespace Go.Ax
open Go Go.RowKit Go.Proofs

noncomputable section
abbrev kn0:Kn:=⟨fun _=>none,fun _ _ _ _=>none⟩
theorem ZeW:inB 0 0 ((y0.js.length:Int) - 1)=true:=by kernel_rfl
theorem Ze9:inB 1 1 8=true:=by kernel_rfl
theorem pe0:peL [⟨3,100,200⟩]=11∧peH [⟨3,100,200⟩]=39∧peE [⟨3,100,200⟩]=0:=⟨by kernel_rfl,by kernel_rfl,by kernel_rfl⟩
theorem DaT.y0_ {lo f:Nat} {v:Value} {H:Hp} (h:DaT y0 0 lo f v H):∃ w,v=.tuple #[w,iv 0]∧Acc lo f 3 H w ([47,61,62,63]:List Int).length (cI [47,61,62,63]):=by
 rcases h with ⟨h,_⟩ | ⟨_,h,_⟩ | ⟨_,k,w,hk,_,hv,hw⟩
 ·rw [vy0] at h;cases h
 ·rw [ZeW] at h;cases h
 ·obtain rfl:k=0:=by omega
  rw [ZcF] at hw
  exact ⟨w,hv,hw⟩
theorem PlT.y0_ {v:Value} {H:Hp} (h:PlT y0 1 v H):∃ pb,v=.tuple #[.slice (some ⟨pb,0,none⟩) 3 3,iv 0]∧Rd H pb (cI [47,60,61]):=by
 rcases h with ⟨h,_⟩ | ⟨_,h,_⟩ | ⟨_,_,h⟩
 ·rw [vy0] at h;cases h
 ·rw [Ze9] at h;cases h
 ·rcases h with ⟨p,pb,hv,hb,hr⟩ | ⟨_,hn⟩
  ·refine ⟨pb,hv,?_⟩
   have e:=hb.uniq Zdv
   have:plc y0.js.length p=cI [47,60,61]:=by
    show [iv (p 0),iv (p 1),iv (p 2)]=[iv 47,iv 60,iv 61]
    rw [e 0 (by decide),e 1 (by decide),e 2 (by decide)];rfl
   rw [← this];exact hr
  ·exact absurd ok0 (hn p0)
section
variable {lo:Nat} {H:Hp}
theorem hB0:YaB y0:=⟨by decide,by decide,by decide,by decide,fun i hi=>by
 have hi:i < 1:=hi
 obtain rfl:i=0:=by omega
 decide⟩
set_option maxRecDepth 100000 in
set_option maxHeartbeats 2000000 in
theorem alive_C (s:Snd Try.prog kn0) (hlo:lo≤H.next):FnC Try.prog lo 15 [] H fun v _=>v=.bool true:=by
 refine Zb7 s Try.func15 B15 N15 Z15 L15 (by simp) ?_
 have hk:=Zf.refl H []
 refine Zm<|Ze rfl<|Zi<|Zm ?_
 obtain ⟨a,H1,fH1,hy,kH1⟩:=jI (kn:=kn0) (lo:=lo) (H:=H) (by omega)
 refine Z1 s (vs:=[]) rfl (ZW rfl (by simpa using fH1)) ?_
 have mH1:=kH1.1
 have hk:=hk.trans kH1
 have hyk:=Zf.refl H1 []
 refine W4 ?_
 intro H2 kH2 nH2 c2
 have c2:Cl H2 H1.next [.slice none 0 0,.slice none 0 0,.slice none 0 0,.slice none 0 0]:=c2
 have mH2:=kH2.1
 have hk:=hk.trans kH2
 have hyk:=hyk.trans kH2
 refine Qe (b:=H1.next) (o:=0) rfl rfl c2 (by omega) rfl rfl (by simp) ?_
 intro H3 kH3 nH3 sH3
 have mH3:=kH3.1
 have hk:=hk.new kH3 (fun b hb=>by simp at hb ⊢;omega)
 have hyk:=hyk.new kH3 (fun b hb=>by simp at hb ⊢;omega)
 have c2:Cl H3 H1.next [.slice a.pa 1 a.pc,.slice a.ba 2 a.bc,.slice a.sa 2 a.sc,.slice a.ja 3 a.jc]:=sH3
 refine Zi<|Zm<|XL (b:=H1.next) (o:=0) rfl c2.rd (show row 4 _ _=some [.slice a.pa 1 a.pc,.slice a.ba 2 a.bc,.slice a.sa 2 a.sc,.slice a.ja 3 a.jc] from rfl)<|XM (t:=.fn (.func 18) #[]) (vs:=[.agg (Ya.f a y0).toArray,iv 0]) rfl (Xc s.hN (Zby s (H:=H3) (i:=0) (hy.keep hyk) hB0 (by omega))) ?_
 rintro _ H4 ⟨kH4,hd⟩
 obtain ⟨dw,rfl,hdw⟩:=hd.y0_
 have mH4:=kH4.1
 have hk:=hk.trans kH4
 have hyk:=hyk.trans kH4
 have c2:=kH4.cl c2 (by simp)
 obtain ⟨da,dc,rfl,hds,_⟩:=hdw.sl
 have fds:=hds.old
 refine Ze rfl<|Zl (v:=.slice da 4 dc) rfl (by kernel_rfl)<|Zl (v:=iv 0) rfl (by kernel_rfl)<|Ze rfl<|Ze rfl<|Zi<|Zm<|XL (b:=H1.next) (o:=0) rfl c2.rd (show row 4 _ _=some [.slice a.pa 1 a.pc,.slice a.ba 2 a.bc,.slice a.sa 2 a.sc,.slice a.ja 3 a.jc] from rfl)<|XM (t:=.fn (.func 27) #[]) (vs:=[.agg (Ya.f a y0).toArray,iv 1]) rfl (Xc s.hN (Zb9 s (H:=H4) (cr:=1) (hy.keep hyk) hB0 (by omega))) ?_
 rintro _ H5 ⟨kH5,hp⟩
 obtain ⟨pb,rfl,hpl⟩:=hp.y0_
 have mH5:=kH5.1
 have hk:=hk.trans kH5
 have hyk:=hyk.trans kH5
 have c2:=kH5.cl c2 (by simp)
 have hds:=kH5.sl0 hds
 have hps:Sl H5 (some ⟨pb,0,none⟩) 3 3 (cI [47,60,61]):=.inr ⟨pb,rfl,hpl,Nat.le_refl _⟩
 have fps:=hps.old
 refine Ze rfl<|Zl (v:=.slice (some ⟨pb,0,none⟩) 3 3) rfl (by kernel_rfl)<|Zl (v:=iv 0) rfl (by kernel_rfl)<|Ze rfl<|Ze rfl<|Zi<|Zm<|Zl (v:=.agg #[iv 100,iv 200]) rfl (by kernel_rfl)<|Zl (v:=.agg #[iv 3,iv 100,iv 200]) rfl (by kernel_rfl) ?_
 obtain ⟨H6,hH6⟩:∃ H6,H5.new (.cells [iv 3,iv 100,iv 200] 57 false)=H6:=⟨_,rfl⟩
 refine Wk (v:=.slice (some ⟨H5.next,0,none⟩) 1 1) (H':=H6) (k:=.heavy) rfl (by kernel_rfl) (Eq.trans (by kernel_rfl:_=some (Rs.val (.slice (some ⟨H5.next,0,none⟩) 1 1) (H5.new (.cells [iv 3,iv 100,iv 200] 57 false)),Kd.heavy)) (by rw [hH6])) (fun b e=>by cases e) ?_
 obtain ⟨kH6,nH6,ct⟩:=ZR hH6;clear hH6
 have ct:Cl H6 H5.next [iv 3,iv 100,iv 200]:=ct
 have mH6:=kH6.1
 have hk:=hk.trans kH6
 have hyk:=hyk.trans kH6
 have c2:=kH6.cl c2 (by simp)
 have hds:=kH6.sl0 hds
 have hps:=kH6.sl0 hps
 obtain ⟨H7,fH7,kH7⟩:=Q7 (kn:=kn0) (lo:=lo) (H:=H6) (l:=[⟨3,100,200⟩]) (sa:=some ⟨H5.next,0,none⟩) (n:=1) (cap:=1) (.inr ⟨_,rfl,ct.rd,Nat.le_refl _⟩) rfl (by omega) (by omega)
 rw [pe0.1,pe0.2.1,pe0.2.2] at fH7
 refine Z1 s (vs:=[.slice (some ⟨H5.next,0,none⟩) 1 1]) rfl (Zk fH7) ?_
 have mH7:=kH7.1
 have hk:=hk.trans kH7
 have hyk:=hyk.trans kH7
 have c2:=kH7.cl c2 (by simp)
 have hds:=kH7.sl0 hds
 have hps:=kH7.sl0 hps
 have ct:=kH7.cl ct (by simp)
 refine Ze rfl<|Zl (v:=.agg #[iv 11,iv 39]) rfl (by kernel_rfl)<|Zl (v:=iv 0) rfl (by kernel_rfl)<|W4 ?_
 intro H8 kH8 nH8 c8
 have c8:Cl H8 H7.next [iv 0,iv 0]:=c8
 have mH8:=kH8.1
 have hk:=hk.trans kH8
 have hyk:=hyk.trans kH8
 have c2:=kH8.cl c2 (by simp)
 have hds:=kH8.sl0 hds
 have hps:=kH8.sl0 hps
 have ct:=kH8.cl ct (by simp)
 refine Qe (b:=H7.next) (o:=0) rfl rfl c8 (by omega) rfl rfl (by simp) ?_
 intro H9 kH9 nH9 sH9
 have mH9:=kH9.1
 have hk:=hk.new kH9 (fun b hb=>by simp at hb ⊢;omega)
 have hyk:=hyk.new kH9 (fun b hb=>by simp at hb ⊢;omega)
 have c2:=kH9.cl c2 (by first | (simp;done) | (simp;omega))
 have hds:=kH9.sl hds (fun b e=>by have:=fds b e;first | (simp;done) | (simp;omega))
 have hps:=kH9.sl hps (fun b e=>by have:=fps b e;first | (simp;done) | (simp;omega))
 have ct:=kH9.cl ct (by first | (simp;done) | (simp;omega))
 have c8:Cl H9 H7.next [iv 11,iv 39]:=sH9
 refine Ze rfl<|Zi<|Zm<|Ze rfl ?_
 obtain ⟨H10,hH10⟩:∃ H10,H9.new (.cells [iv 47,iv 61,iv 62,iv 63] 3 false)=H10:=⟨_,rfl⟩
 refine Wk (v:=.slice (some ⟨H9.next,0,none⟩) 4 4) (H':=H10) (k:=.heavy) rfl (by kernel_rfl) (Eq.trans (by kernel_rfl:_=some (Rs.val (.slice (some ⟨H9.next,0,none⟩) 4 4) (H9.new (.cells [iv 47,iv 61,iv 62,iv 63] 3 false)),Kd.heavy)) (by rw [hH10])) (fun b e=>by cases e) ?_
 obtain ⟨kH10,nH10,cl4⟩:=ZR hH10;clear hH10
 have cl4:Cl H10 H9.next [iv 47,iv 61,iv 62,iv 63]:=cl4
 have mH10:=kH10.1
 have hk:=hk.trans kH10
 have hyk:=hyk.trans kH10
 have c2:=kH10.cl c2 (by simp)
 have hds:=kH10.sl0 hds
 have hps:=kH10.sl0 hps
 have ct:=kH10.cl ct (by simp)
 have c8:=kH10.cl c8 (by simp)
 obtain ⟨H11,fH11,kH11⟩:=yd (kn:=kn0) (lo:=lo) (H:=H10) (l:=[47,61,62,63]) (pa:=da) (cap1:=dc) hds (pb:=some ⟨H9.next,0,none⟩) (cap2:=4) (.inr ⟨_,rfl,cl4.rd,Nat.le_refl _⟩) (by decide)
 refine Z1 s (v:=.bool true) (vs:=[.slice da 4 dc,.slice (some ⟨H9.next,0,none⟩) 4 4]) rfl (Zk fH11) ?_
 have mH11:=kH11.1
 have hk:=hk.trans kH11
 have hyk:=hyk.trans kH11
 have c2:=kH11.cl c2 (by simp)
 have hds:=kH11.sl0 hds
 have hps:=kH11.sl0 hps
 have ct:=kH11.cl ct (by simp)
 have c8:=kH11.cl c8 (by simp)
 have cl4:=kH11.cl cl4 (by simp)
 refine Ze rfl ?_
 refine YX rfl (Ze rfl ?_)
 refine YX rfl (QZ (a:=(0:Int)) (b:=(0:Int)) rfl rfl ?_)
 intro t12 ht12
 have t12e:t12=true:=by rw [← ht12];simp
 subst t12e
 refine Zl (v:=.bool true) rfl rfl<|Ze rfl ?_
 refine YX rfl (Ze rfl ?_)
 obtain ⟨H13,hH13⟩:∃ H13,H11.new (.cells [iv 47,iv 60,iv 61] 3 false)=H13:=⟨_,rfl⟩
 refine YX rfl (Wk (v:=.slice (some ⟨H11.next,0,none⟩) 3 3) (H':=H13) (k:=.heavy) rfl (by kernel_rfl) (Eq.trans (by kernel_rfl:_=some (Rs.val (.slice (some ⟨H11.next,0,none⟩) 3 3) (H11.new (.cells [iv 47,iv 60,iv 61] 3 false)),Kd.heavy)) (by rw [hH13])) (fun b e=>by cases e) ?_)
 obtain ⟨kH13,nH13,cl3⟩:=ZR hH13;clear hH13
 have cl3:Cl H13 H11.next [iv 47,iv 60,iv 61]:=cl3
 have mH13:=kH13.1
 have hk:=hk.trans kH13
 have hyk:=hyk.trans kH13
 have c2:=kH13.cl c2 (by simp)
 have hds:=kH13.sl0 hds
 have hps:=kH13.sl0 hps
 have ct:=kH13.cl ct (by simp)
 have c8:=kH13.cl c8 (by simp)
 have cl4:=kH13.cl cl4 (by simp)
 obtain ⟨H14,fH14,kH14⟩:=yd (kn:=kn0) (lo:=lo) (H:=H13) (l:=[47,60,61]) (pa:=some ⟨pb,0,none⟩) (cap1:=3) hps (pb:=some ⟨H11.next,0,none⟩) (cap2:=3) (.inr ⟨_,rfl,cl3.rd,Nat.le_refl _⟩) (by decide)
 refine YX rfl (Z1 s (v:=.bool true) (vs:=[.slice (some ⟨pb,0,none⟩) 3 3,.slice (some ⟨H11.next,0,none⟩) 3 3]) rfl (Zk fH14) ?_)
 have mH14:=kH14.1
 have hk:=hk.trans kH14
 have hyk:=hyk.trans kH14
 have c2:=kH14.cl c2 (by simp)
 have hds:=kH14.sl0 hds
 have hps:=kH14.sl0 hps
 have ct:=kH14.cl ct (by simp)
 have c8:=kH14.cl c8 (by simp)
 have cl4:=kH14.cl cl4 (by simp)
 have cl3:=kH14.cl cl3 (by simp)
 refine Zl (v:=.bool true) rfl rfl<|Ze rfl ?_
 refine YX rfl (Ze rfl ?_)
 refine YX rfl (QZ (a:=(0:Int)) (b:=(0:Int)) rfl rfl ?_)
 intro t15 ht15
 have t15e:t15=true:=by rw [← ht15];simp
 subst t15e
 refine Zl (v:=.bool true) rfl rfl<|Ze rfl ?_
 refine YX rfl (XL (b:=H7.next) (o:=0) rfl c8.rd (show row 2 _ _=some [iv 11,iv 39] from rfl) ?_)
 refine YX rfl (Zl (v:=.agg #[iv 11,iv 39]) rfl (by kernel_rfl) ?_)
 refine YX rfl (Zl (v:=.bool true) rfl (by kernel_rfl) ?_)
 refine Zl (v:=.bool true) rfl rfl<|Ze rfl ?_
 refine YX rfl (Ze rfl ?_)
 refine YX rfl (QZ (a:=(0:Int)) (b:=(0:Int)) rfl rfl ?_)
 intro t16 ht16
 have t16e:t16=true:=by rw [← ht16];simp
 subst t16e
 refine Zl (v:=.bool true) rfl rfl<|Ze rfl<|Zi ?_
 exact And.intro trivial (Exists.intro _ (And.intro rfl rfl))
end
end
end Go.Ax

/-
 Proved here: 'alive',the closed part that every law of spray ends in,returns true in every world,whatever is drawn,and leaves what lay below as_ it was. Conditions: none.
 It has no arguments;it is worked out by the contracts of the functions that it calls (K15).
-/
namespace Go.Ax
open Go Go.RowKit
theorem known_one {P:Program} {g:FuncId} {t:Bool} (hb:((P.funcs[g]?).bind (fun fn=>fn.body)).isSome=true) (hc:∀ w,Calls P g #[] w fun e w'=>e=.returned (.bool t)∧Below w.heap.size w w') :
  Known P ⟨fun f=>bif Nat.beq f g then some t else none,fun _ _ _ _=>none⟩:=by
 refine ⟨?_,fun f lo args H v H' _ h=>by cases h⟩
 intro f b h
 obtain ⟨hf,h1⟩:=Zc h
 clear h
 have hf:=Nat.eq_of_beq_eq_true hf
 subst hf
 cases h1
 refine ⟨?_,hc⟩
 cases hx:P.funcs[f]? with
 | none=>rw [hx] at hb;cases hb
 | some fn=>
  rw [hx] at hb
  cases hy:fn.body with
  | none=>rw [Option.bind_some,hy] at hb;cases hb
  | some c=>exact ⟨fn,c,rfl,hy⟩
theorem known_nothing {P:Program}:Known P ⟨fun _=>none,fun _ _ _ _=>none⟩:=⟨KM.nothing P,fun f lo args H v H' _ h=>by cases h⟩
end Go.Ax
namespace Go.Proofs.Ytlgfejokafimaaa.alive
open Go.RowKit
theorem mixed:Try.prog.follows .mixedOrders=true:=by kernel_rfl
theorem yU : (Try.prog.funcs.toList.all fun fn => !(fn.name == "runtime.NumGoroutine")) = true := by kernel_rfl
theorem noCount:Go.Ax.NoCount Try.prog:=fun f fn h=>by
 have h2:=List.all_eq_true.1 yU fn (by
  have:=Array.mem_of_getElem? h
  simpa using this)
 simpa using h2
theorem call (w:World):Calls Try.prog 15 #[] w fun e w'=>e=.returned (.bool true)∧Below w.heap.size w w':=
 Go.Ax.closed_callC (Go.Ax.alive_C ⟨mixed,noCount,Go.Ax.known_nothing⟩ (Nat.zero_le _)) w
theorem known:Go.Ax.Known Try.prog ⟨fun f=>bif Nat.beq f 15 then some true else none,fun _ _ _ _=>none⟩:=Go.Ax.known_one (by kernel_rfl) call
end Go.Proofs.Ytlgfejokafimaaa.alive

/-
 Pool: Needed (31,32);the law SprayPests (5) (written by program).
-/
namespace Go.Ax
open Go Go.RowKit Go.Proofs

noncomputable section
theorem Zc7:Try.prog.underlying 46=some (.struct (VF Try.prog 46)):=by kernel_rfl
theorem Zfl : (VF Try.prog 46).toList.map (fun f => (f.type, f.offset, f.name == "_")) = [(3, 0, false), (3, 1, false)] := by kernel_rfl
theorem Ze0:Program.stoodInHeld Try.prog 46=false:=by kernel_rfl
set_option maxRecDepth 100000 in
theorem Zfe {d:Nat} (a0 a1:Int):Zy Try.prog (Op.equalIn (d+2) 46 (.agg #[iv a0,iv a1]) (.agg #[iv a0,iv a1]))=some true:=by
 have h:=Qi (d:=d+1) (xs:=#[iv a0,iv a1]) (ys:=#[iv a0,iv a1]) (X2 Zc7) Ze0 (fun _=>true) (by
   intro q hq
   have h : (q.type, q.offset, q.name == "_") ∈ [(3, 0, false), (3, 1, false)] := by rw [← Zfl]; exact List.mem_map.mpr ⟨q, hq, rfl⟩
   simp only [List.mem_cons,List.not_mem_nil,or_false,Prod.mk.injEq] at h
   have one:∀ x:Int,Zy Try.prog (Op.equalIn (d+1) 3 (iv x) (iv x))=some true:=fun x=>by rw [JF];simp
   rcases h with ⟨h1,h2,h3⟩ | ⟨h1,h2,h3⟩<;>(refine ⟨by intro e;rw [e] at h3;simp at h3,?_⟩;rw [h1,h2])
   ·exact ⟨iv a0,iv a0,by kernel_rfl,by kernel_rfl,one a0⟩
   ·exact ⟨iv a1,iv a1,by kernel_rfl,by kernel_rfl,one a1⟩)
 rw [show d+2=d+1+1 from rfl,h]
 simp
set_option maxRecDepth 100000 in
theorem ZdK {n:Nat} {S:Rg} {d:Option Tmp} {x y:Operand} {p:String} {ty:TypeId} {a0 a1:Int} (hx:evS S x=some (.agg #[iv a0,iv a1])) (hy:evS S y=some (.agg #[iv a0,iv a1])):Zn Try.prog (frS n S) ⟨d,.binOp .eql 46 x y 46,ty,p,#[],none⟩=some (.bool true):=by
 have key:Zy Try.prog (do eqGuard .eql 46 x y (.agg #[iv a0,iv a1]) (.agg #[iv a0,iv a1]);binOp .eql 46 (.agg #[iv a0,iv a1]) (.agg #[iv a0,iv a1]))=some (.bool true):=by
  rw [YF,show Zy Try.prog (eqGuard .eql 46 x y (.agg #[iv a0,iv a1]) (.agg #[iv a0,iv a1]))=some () from by kernel_rfl,Option.bind_some]
  show Zy Try.prog (do pure (Value.bool (← Op.equalIn (9998+2) 46 (.agg #[iv a0,iv a1]) (.agg #[iv a0,iv a1]))))=_
  rw [YF,Zfe];rfl
 unfold Zn
 simp only [Yx,hx,hy,show flat (.agg #[iv a0,iv a1])=true from rfl,Bool.and_self,cond_true,key]
 rfl
set_option maxRecDepth 100000 in
theorem Zeh {n:Nat} {S:Rg} {d:Option Tmp} {x y:Operand} {p:String} {ty:TypeId} {b:Bool} (hx:evS S x=some (.bool b)) (hy:evS S y=some (.bool b)):Zn Try.prog (frS n S) ⟨d,.binOp .eql 4 x y 4,ty,p,#[],none⟩=some (.bool true):=by
 have e:∀ b:Bool,Zy Try.prog (do eqGuard .eql 4 x y (.bool b) (.bool b);binOp .eql 4 (.bool b) (.bool b))=some (.bool true):=fun b=>by
  cases b
  ·kernel_rfl
  ·kernel_rfl
 unfold Zn
 simp only [Yx,hx,hy,flat,Yt,Bool.and_self,cond_true,e]
def nE (l:List Tp) (q:Int):Int:=if peE l=0 then (if inB q 0 1099511627776=true then 0 else 2) else peE l
def nA (l:List Tp) (q:Int):Bool:=if peE l=0∧inB q 0 1099511627776=true then decide (peL l ≥ q) else false
def nB (l:List Tp) (q:Int):Bool:=if peE l=0∧inB q 0 1099511627776=true then decide (peH l ≥ q) else false
theorem Zcn {l:List Tp} {q:Int} (h:peE l≠0):nA l q=false∧nB l q=false∧nE l q=peE l:=by
 unfold nA nB nE;rw [if_neg (fun z=>h z.1),if_neg (fun z=>h z.1),if_neg h];exact ⟨rfl,rfl,rfl⟩
theorem Zco {l:List Tp} {q:Int} (h:peE l=0) (h2:inB q 0 1099511627776=false):nA l q=false∧nB l q=false∧nE l q=2:=by
 unfold nA nB nE;rw [if_neg (fun z=>by rw [h2] at z;cases z.2),if_neg (fun z=>by rw [h2] at z;cases z.2),if_pos h,if_neg (by rw [h2];simp)];exact ⟨rfl,rfl,rfl⟩
theorem ZdL {l:List Tp} {q:Int} (h:peE l=0) (h2:inB q 0 1099511627776=true):nA l q=decide (peL l ≥ q)∧nB l q=decide (peH l ≥ q)∧nE l q=0:=by
 unfold nA nB nE;rw [if_pos ⟨h,h2⟩,if_pos ⟨h,h2⟩,if_pos h,if_pos h2];exact ⟨rfl,rfl,rfl⟩
section
variable {kn:Kn} {lo:Nat} {H:Hp}
theorem jL {l:List Tp} {sa:Option Addr} {n cap:Nat} (hs:Sl H sa n cap (tpc l)) (hl:l.length=n) (hn:n≤1000) {q:Int} (hlo:lo≤H.next):∃ H',FnX Try.prog kn lo 31 [.slice sa n cap,iv q] H (.tuple #[.bool (nA l q),.bool (nB l q),iv (nE l q)]) H'∧Zf H H' []:=by
 have key:=Zs (kn:=kn) (lo:=lo) (H:=H) (args:=[.slice sa n cap,iv q]) (Q:=fun w H'=>w=(.tuple #[.bool (nA l q),.bool (nB l q),iv (nE l q)])∧Zf H H' []) Try.func31 B31 N31 Z31 L31 (by simp) ?_
 ·obtain ⟨w,H',h,rfl,q⟩:=key;exact ⟨H',h,q⟩
 have hk:=Zf.refl H []
 refine Zd<|Za rfl<|Za rfl<|Za rfl<|Zb<|Zd<|Za rfl ?_
 obtain ⟨H1,fH1,kH1⟩:=Q7 (kn:=kn) (lo:=lo) (H:=H) (hk.sl0 hs) hl hn (by omega)
 refine Zr (vs:=[.slice sa n cap]) rfl (Zk fH1) ?_
 have mH1:=kH1.1
 have hk:=hk.trans kH1
 refine Za rfl<|Zg (v:=.agg #[iv (peL l),iv (peH l)]) rfl (by kernel_rfl)<|Zg (v:=iv (peE l)) rfl (by kernel_rfl)<|Y8 ?_
 intro H2 kH2 nH2 c2
 have c2:Cl H2 H1.next [iv 0,iv 0]:=c2
 have mH2:=kH2.1
 have hk:=hk.trans kH2
 refine YS (b:=H1.next) (o:=0) rfl rfl c2 (by omega) rfl rfl (by simp) ?_
 intro H3 kH3 nH3 sH3
 have mH3:=kH3.1
 have hk:=hk.new kH3 (fun b hb=>by simp at hb ⊢;omega)
 have c2:Cl H3 H1.next [iv (peL l),iv (peH l)]:=sH3
 refine Za rfl<|Zb<|Zd<|Za rfl<|Q9 (a:=(peE l)) (b:=0) rfl rfl<|Zb ?_
 refine And.intro (fun q1=>?_) (fun q1=>?_)
 ·have q1:(peE l)≠0:=by simpa using q1
  refine Zd<|Za rfl<|Za rfl<|Za rfl<|Za rfl<|Zb ?_
  have hz:=Zcn (q:=q) (show peE l≠0 by omega)
  exact And.intro trivial (Exists.intro _ (And.intro rfl ⟨by rw [hz.1,hz.2.1,hz.2.2];rfl,hk⟩))
 ·have q1:¬ ((peE l)≠0):=by simpa using q1
  first | refine ZE ?_ | skip
  refine Zd<|Za rfl<|ZM rfl (XZ) ?_
  intro tH4 H4 hH4 kH4
  have mH4:=kH4.1
  have hk:=hk.trans kH4
  have c2:=kH4.cl c2 (by simp)
  cases tH4
  ·have thH4:inB q 0 1099511627776=false:=hH4
   have uhH4:=YG thH4
   refine Zg (v:=.bool true) rfl rfl<|Zb<|YC<|Zd<|Za rfl<|Za rfl<|Za rfl<|Zb ?_
   have hz:=Zco (q:=q) (show peE l=0 by omega) (by assumption)
   exact And.intro trivial (Exists.intro _ (And.intro rfl ⟨by rw [hz.1,hz.2.1,hz.2.2];rfl,hk⟩))
  ·have thH4:inB q 0 1099511627776=true:=hH4
   have uhH4:=Yr thH4
   refine Zg (v:=.bool false) rfl rfl<|Zb<|YE ?_
   first | refine ZE ?_ | skip
   refine Wf<|Zz (b:=H1.next) (o:=0) rfl<|Z8 (b:=H1.next) (o:=0) (v:=iv (peL l)) rfl c2.rd rfl<|ZJ rfl<|UA (a:=(peL l)) (b:=q) rfl rfl<|Zz (b:=H1.next) (o:=0) rfl<|Z8 (b:=H1.next) (o:=1) (v:=iv (peH l)) rfl c2.rd rfl<|ZJ rfl<|UA (a:=(peH l)) (b:=q) rfl rfl<|ZJ rfl<|ZJ rfl<|ZJ rfl ?_
   refine Y7 (by repeat' first | exact True.intro | exact (fun h=>h) | refine And.intro ?_ ?_ | (intro h;have h:(_:Nat)=_:=h;omega)) ?_
   have hz:=ZdL (q:=q) (show peE l=0 by omega) (by assumption)
   exact And.intro trivial (Exists.intro _ (And.intro rfl ⟨by rw [hz.1,hz.2.1,hz.2.2];rfl,hk⟩))
theorem KO {l:List Tp} {sa:Option Addr} {n cap:Nat} (hs:Sl H sa n cap (tpc l)) (hl:l.length=n) (hn:n≤1000) {q:Int} (hlo:lo≤H.next):∃ H',FnX Try.prog kn lo 32 [.slice sa n cap,iv q] H (.tuple #[.bool (nA l q),.bool (nB l q),iv (nE l q)]) H'∧Zf H H' []:=by
 have key:=Zs (kn:=kn) (lo:=lo) (H:=H) (args:=[.slice sa n cap,iv q]) (Q:=fun w H'=>w=(.tuple #[.bool (nA l q),.bool (nB l q),iv (nE l q)])∧Zf H H' []) Try.func32 B32 N32 Z32 L32 (by simp) ?_
 ·obtain ⟨w,H',h,rfl,q⟩:=key;exact ⟨H',h,q⟩
 have hk:=Zf.refl H []
 refine Zd<|Za rfl<|Za rfl<|Za rfl<|Zb<|Zd<|Za rfl ?_
 obtain ⟨H1,fH1,kH1⟩:=Qs (kn:=kn) (lo:=lo) (H:=H) (hk.sl0 hs) hl hn (by omega)
 refine Zr (vs:=[.slice sa n cap]) rfl (Zk fH1) ?_
 have mH1:=kH1.1
 have hk:=hk.trans kH1
 refine Za rfl<|Zg (v:=.agg #[iv (peL l),iv (peH l)]) rfl (by kernel_rfl)<|Zg (v:=iv (peE l)) rfl (by kernel_rfl)<|Y8 ?_
 intro H2 kH2 nH2 c2
 have c2:Cl H2 H1.next [iv 0,iv 0]:=c2
 have mH2:=kH2.1
 have hk:=hk.trans kH2
 refine YS (b:=H1.next) (o:=0) rfl rfl c2 (by omega) rfl rfl (by simp) ?_
 intro H3 kH3 nH3 sH3
 have mH3:=kH3.1
 have hk:=hk.new kH3 (fun b hb=>by simp at hb ⊢;omega)
 have c2:Cl H3 H1.next [iv (peL l),iv (peH l)]:=sH3
 refine Za rfl<|Zb<|Zd<|Za rfl<|Q9 (a:=(peE l)) (b:=0) rfl rfl<|Zb ?_
 refine And.intro (fun q1=>?_) (fun q1=>?_)
 ·have q1:(peE l)≠0:=by simpa using q1
  refine Zd<|Za rfl<|Za rfl<|Za rfl<|Za rfl<|Zb ?_
  have hz:=Zcn (q:=q) (show peE l≠0 by omega)
  exact And.intro trivial (Exists.intro _ (And.intro rfl ⟨by rw [hz.1,hz.2.1,hz.2.2];rfl,hk⟩))
 ·have q1:¬ ((peE l)≠0):=by simpa using q1
  first | refine ZE ?_ | skip
  refine Zd<|Za rfl<|ZM rfl (QN) ?_
  intro tH4 H4 hH4 kH4
  have mH4:=kH4.1
  have hk:=hk.trans kH4
  have c2:=kH4.cl c2 (by simp)
  cases tH4
  ·have thH4:inB q 0 1099511627776=false:=hH4
   have uhH4:=YG thH4
   refine Zg (v:=.bool true) rfl rfl<|Zb<|YC<|Zd<|Za rfl<|Za rfl<|Za rfl<|Zb ?_
   have hz:=Zco (q:=q) (show peE l=0 by omega) (by assumption)
   exact And.intro trivial (Exists.intro _ (And.intro rfl ⟨by rw [hz.1,hz.2.1,hz.2.2];rfl,hk⟩))
  ·have thH4:inB q 0 1099511627776=true:=hH4
   have uhH4:=Yr thH4
   refine Zg (v:=.bool false) rfl rfl<|Zb<|YE ?_
   first | refine ZE ?_ | skip
   refine Wf<|Zz (b:=H1.next) (o:=0) rfl<|Z8 (b:=H1.next) (o:=0) (v:=iv (peL l)) rfl c2.rd rfl<|ZJ rfl<|UA (a:=(peL l)) (b:=q) rfl rfl<|Zz (b:=H1.next) (o:=0) rfl<|Z8 (b:=H1.next) (o:=1) (v:=iv (peH l)) rfl c2.rd rfl<|ZJ rfl<|UA (a:=(peH l)) (b:=q) rfl rfl<|ZJ rfl<|ZJ rfl<|ZJ rfl ?_
   refine Y7 (by repeat' first | exact True.intro | exact (fun h=>h) | refine And.intro ?_ ?_ | (intro h;have h:(_:Nat)=_:=h;omega)) ?_
   have hz:=ZdL (q:=q) (show peE l=0 by omega) (by assumption)
   exact And.intro trivial (Exists.intro _ (And.intro rfl ⟨by rw [hz.1,hz.2.1,hz.2.2];rfl,hk⟩))
set_option maxRecDepth 100000 in
theorem qZ (hkn:kn.b 15=some true) {l:List Tp} {sa:Option Addr} {n cap:Nat} (hs:Sl H sa n cap (tpc l)) (hl:l.length=n) {q:Int} (hlo:lo≤H.next):∃ H',FnX Try.prog kn lo 5 [.slice sa n cap,iv q] H (.bool true) H':=by
 have key:=Zs (kn:=kn) (lo:=lo) (H:=H) (args:=[.slice sa n cap,iv q]) (Q:=fun w H'=>w=.bool true) Try.func5 B5 N5 Z5 L5 (by simp) ?_
 ·obtain ⟨w,H',h,rfl⟩:=key;exact ⟨H',h⟩
 have hk:=Zf.refl H []
 refine Zd<|Za rfl<|Zb<|Zd<|Za rfl<|YI (m:=n) rfl<|Ul (a:=(n:Int)) (b:=80) rfl rfl<|Zb ?_
 refine And.intro (fun q1=>?_) (fun q1=>?_)
 ·have q1:(n:Int) > 80:=of_decide_eq_true q1
  refine Zd<|Zr (vs:=[]) rfl (Qz hkn)<|Za rfl<|Zb ?_
  exact And.intro trivial (Exists.intro _ (And.intro rfl rfl))
 ·have q1:¬ ((n:Int) > 80):=of_decide_eq_false q1
  have hn:n≤1000:=by omega
  first | refine ZE ?_ | skip
  refine Zd<|Za rfl ?_
  obtain ⟨H1,fH1,kH1⟩:=Q7 (kn:=kn) (lo:=lo) (H:=H) (hk.sl0 hs) hl hn (by omega)
  refine Zr (vs:=[.slice sa n cap]) rfl (Zk fH1) ?_
  have mH1:=kH1.1
  have hk:=hk.trans kH1
  refine Za rfl<|Zg (v:=.agg #[iv (peL l),iv (peH l)]) rfl (by kernel_rfl)<|Zg (v:=iv (peE l)) rfl (by kernel_rfl)<|Y8 ?_
  intro H2 kH2 nH2 c2
  have c2:Cl H2 H1.next [iv 0,iv 0]:=c2
  have mH2:=kH2.1
  have hk:=hk.trans kH2
  refine YS (b:=H1.next) (o:=0) rfl rfl c2 (by omega) rfl rfl (by simp) ?_
  intro H3 kH3 nH3 sH3
  have mH3:=kH3.1
  have hk:=hk.new kH3 (fun b hb=>by simp at hb ⊢;omega)
  have c2:Cl H3 H1.next [iv (peL l),iv (peH l)]:=sH3
  refine Za rfl<|Zb<|Zd<|Za rfl ?_
  obtain ⟨H4,fH4,kH4⟩:=Qs (kn:=kn) (lo:=lo) (H:=H3) (hk.sl0 hs) hl hn (by omega)
  refine Zr (vs:=[.slice sa n cap]) rfl (Zk fH4) ?_
  have mH4:=kH4.1
  have hk:=hk.trans kH4
  have c2:=kH4.cl c2 (by simp)
  refine Za rfl<|Zg (v:=.agg #[iv (peL l),iv (peH l)]) rfl (by kernel_rfl)<|Zg (v:=iv (peE l)) rfl (by kernel_rfl)<|Y8 ?_
  intro H5 kH5 nH5 c5
  have c5:Cl H5 H4.next [iv 0,iv 0]:=c5
  have mH5:=kH5.1
  have hk:=hk.trans kH5
  have c2:=kH5.cl c2 (by simp)
  refine YS (b:=H4.next) (o:=0) rfl rfl c5 (by omega) rfl rfl (by simp) ?_
  intro H6 kH6 nH6 sH6
  have mH6:=kH6.1
  have hk:=hk.new kH6 (fun b hb=>by simp at hb ⊢;omega)
  have c2:=kH6.cl c2 (by first | (simp;done) | (simp;omega))
  have c5:Cl H6 H4.next [iv (peL l),iv (peH l)]:=sH6
  refine Za rfl<|Zb<|Zd<|Za rfl<|Za rfl ?_
  obtain ⟨H7,fH7,kH7⟩:=jL (kn:=kn) (lo:=lo) (H:=H6) (q:=q) (hk.sl0 hs) hl (by omega) (by omega)
  refine Zr (vs:=[.slice sa n cap,iv q]) rfl (Zk fH7) ?_
  have mH7:=kH7.1
  have hk:=hk.trans kH7
  have c2:=kH7.cl c2 (by simp)
  have c5:=kH7.cl c5 (by simp)
  refine Za rfl<|Zg (v:=.bool (nA l q)) rfl (by kernel_rfl)<|Zg (v:=.bool (nB l q)) rfl (by kernel_rfl)<|Zg (v:=iv (nE l q)) rfl (by kernel_rfl)<|Za rfl<|Za rfl<|Za rfl<|Zb<|Zd<|Za rfl<|Za rfl ?_
  obtain ⟨H8,fH8,kH8⟩:=KO (kn:=kn) (lo:=lo) (H:=H7) (q:=q) (hk.sl0 hs) hl (by omega) (by omega)
  refine Zr (vs:=[.slice sa n cap,iv q]) rfl (Zk fH8) ?_
  have mH8:=kH8.1
  have hk:=hk.trans kH8
  have c2:=kH8.cl c2 (by simp)
  have c5:=kH8.cl c5 (by simp)
  refine Za rfl<|Zg (v:=.bool (nA l q)) rfl (by kernel_rfl)<|Zg (v:=.bool (nB l q)) rfl (by kernel_rfl)<|Zg (v:=iv (nE l q)) rfl (by kernel_rfl)<|Za rfl<|Za rfl<|Za rfl<|Zb<|Zd<|Yo (b:=H1.next) (o:=0) rfl c2.rd (show row 2 _ _=some [iv (peL l),iv (peH l)] from rfl)<|Yo (b:=H4.next) (o:=0) rfl c5.rd (show row 2 _ _=some [iv (peL l),iv (peH l)] from rfl)<|Zg (v:=.bool true) rfl (ZdK rfl rfl)<|Za rfl ?_
  refine ZD rfl (Za rfl ?_)
  refine ZD rfl (Za rfl ?_)
  refine ZD rfl (zL (a:=(peE l)) (b:=(peE l)) rfl rfl ?_)
  intro t9 ht9
  have t9e:t9=true:=by rw [← ht9];simp
  subst t9e
  refine Zg (v:=.bool true) rfl rfl<|Za rfl ?_
  refine ZD rfl (Za rfl ?_)
  refine ZD rfl (Za rfl ?_)
  refine ZD rfl (Zg (v:=.bool true) rfl (Zeh (b:=nA l q) rfl rfl) ?_)
  refine Zg (v:=.bool true) rfl rfl<|Za rfl ?_
  refine ZD rfl (Za rfl ?_)
  refine ZD rfl (Za rfl ?_)
  refine ZD rfl (Zg (v:=.bool true) rfl (Zeh (b:=nB l q) rfl rfl) ?_)
  refine Zg (v:=.bool true) rfl rfl<|Za rfl ?_
  refine ZD rfl (Za rfl ?_)
  refine ZD rfl (Za rfl ?_)
  refine ZD rfl (zL (a:=(nE l q)) (b:=(nE l q)) rfl rfl ?_)
  intro t10 ht10
  have t10e:t10=true:=by rw [← ht10];simp
  subst t10e
  refine Zg (v:=.bool true) rfl rfl<|Za rfl ?_
  refine ZD rfl (Zr (vs:=[]) rfl (Qz hkn) ?_)
  refine Zg (v:=.bool true) rfl rfl<|Za rfl<|Zb ?_
  exact And.intro trivial (Exists.intro _ (And.intro rfl rfl))
end
end
end Go.Ax

namespace Go.Ax
open Go Go.RowKit Go.Proofs Go.ChangeShapes Go.WideShapes Go.Deep

def QY (P:Program) (t:TypeId):Prop:=∀ (H:Type) (enc:TypeId × Value→H) (w:World) (base:Nat) (spare:Nat→Bool) (held:Bool) (fuel:Nat) (cs:List Value) (x:DataW H × List MemPlace),
 DataW.trod enc P w base spare held fuel t cs=some x→cs.length=P.cellsOf t∧∀ j,j < cs.length→∃ n,cs[j]? = some (.int .i64 n)
theorem QY.int {P:Program} {t:TypeId} (ht:P.underlying t=some (.int .i64)) (hc:P.cellsOf t=1):QY P t:=by
 intro H enc w base spare held fuel cs x h
 obtain ⟨n,rfl,_⟩:=DataW.trod_int ht h
 refine ⟨by rw [hc];rfl,fun j hj=>⟨n,?_⟩⟩
 have:j=0:=by simp at hj;omega
 subst this;rfl
theorem QY.struct {P:Program} {t:TypeId} {fs:Array Field} (ht:P.underlying t=some (.struct fs)) (hf:∀ f∈fs.toList,QY P f.type)
  (hcov:((List.range (P.cellsOf t)).all fun j=>fs.toList.any fun f=>decide (f.offset≤j) && decide (j < f.offset+P.cellsOf f.type))=true):QY P t:=by
 intro H enc w base spare held fuel cs x h
 obtain ⟨xs,n,_,_,hlen,hxl,hg⟩:=DataW.trod_struct ht h
 refine ⟨hlen,fun j hj=>?_⟩
 have h1:=List.all_eq_true.1 hcov j (List.mem_range.2 (by omega))
 obtain ⟨f,hfm,h2⟩:=List.any_eq_true.1 h1
 simp only [Bool.and_eq_true,decide_eq_true_eq] at h2
 obtain ⟨i,hi,hfi⟩:=List.getElem_of_mem hfm
 have hfs:fs[i]? = some f:=by
  rw [← Array.getElem?_toList,List.getElem?_eq_getElem hi,hfi]
 have hi2:i < xs.length:=by simpa [hxl] using hi
 have h3:=hg i f hfs
 rw [List.getElem?_eq_getElem hi2] at h3
 obtain ⟨h4,h5⟩:=hf f hfm _ _ _ _ _ _ _ _ _ h3
 obtain ⟨m,hm⟩:=h5 (j - f.offset) (by omega)
 refine ⟨m,?_⟩
 rw [List.getElem?_take] at hm
 split at hm
 ·rw [List.getElem?_drop,show f.offset+(j - f.offset)=j by omega] at hm;exact hm
 ·cases hm

structure Kj {α:Type} (w:World) (v:Value) (f:α→List Value) (l:List α) (x:Imp):Prop where
 ok:∀ (i:Nat) u,x.cs[i]? = some u→w.cell? ⟨x.blk,x.off+i,none⟩=some u∧Yt u=true
 cs:x.cs=l.flatMap f
 v:(v=.slice none 0 0∧l=[])∨∃ cap,v=.slice (some ⟨x.blk,x.off,none⟩) l.length cap∧l.length≤cap
theorem zt {α:Type} {f:α→List Value} {k:Nat} (hk:0 < k):∀ {l:List α} (_:∀ x∈l,(f x).length=k) (i:Nat) (u:Value),(l.flatMap f)[i]? = some u→∃ x,l[i / k]? = some x∧(f x)[i % k]? = some u
 | [],_,i,u,h=>by simp at h
 | y :: r,hl,i,u,h=>by
  have hy:=hl y (List.mem_cons_self ..)
  rw [List.flatMap_cons,List.getElem?_append] at h
  split at h
  ·rename_i q
   rw [hy] at q
   refine ⟨y,?_,?_⟩
   ·rw [Nat.div_eq_of_lt q];rfl
   ·rw [Nat.mod_eq_of_lt q];exact h
  ·rename_i q
   rw [hy] at q h
   obtain ⟨x,h1,h2⟩:=zt hk (fun x hx=>hl x (List.mem_cons_of_mem _ hx)) _ u h
   refine ⟨x,?_,?_⟩
   ·rw [Nat.div_eq_sub_div hk (by omega)];exact h1
   ·rw [Nat.mod_eq_sub_mod (by omega)];exact h2
theorem z6 {H:Type} {enc:TypeId × Value→H} {P:Program} {w:World} {base b0:Nat} {r:Reach} {held:Bool} {α:Type} (f:α→List Value) (mk:(Nat→Int)→α) (k:Nat) {t e:TypeId} {fuel:Nat} {v:Value} {x:DataW H × List MemPlace}
  (ht:P.underlying t=some (.slice e)) (hI:QY P e) (hc:P.cellsOf e=k) (hk:0 < k) (hmk:∀ N:Nat→Int,f (mk N)=(List.range k).map fun j=>Value.int .i64 (N j))
  (hok:Cell.okWide P w r b0 t v) (h:DataW.trod enc P w base (fun _=>true) held fuel t [v]=some x):∃ (l:List α) (y:Imp),Kj w v f l y:=by
 rcases open_slice ht h with ⟨h0,_⟩ | ⟨a,len,cap,m,n,D,Pl,hcs,hb,hl,hm,hmm,hx,hi⟩
 ·cases h0
  exact ⟨[],⟨0,0,[]⟩,fun i u e=>by simp at e,rfl,.inl ⟨rfl,rfl⟩⟩
 ·cases hcs
  obtain ⟨blk,off,spot⟩:=a
  have hs:spot=none:=by
   unfold Cell.okWide at hok
   rw [ht] at hok
   unfold Cell.ok at hok
   simp only [ht] at hok
   exact hok.2.2.2.1
  subst hs
  simp only [if_true] at hmm
  subst hmm
  have hcell:∀ i,i < len→∀ j,j < k→∃ n,w.cell? ⟨blk,off+(i * k+j),none⟩=some (.int .i64 n):=by
   intro i hil j hj
   obtain ⟨cs',h1,h2⟩:=hi i (by omega)
   obtain ⟨h3,h4⟩:=hI _ _ _ _ _ _ _ _ _ h2
   obtain ⟨_,h5,h6⟩:=World.cells?_some h1
   obtain ⟨n,hn⟩:=h4 j (by omega)
   refine ⟨n,?_⟩
   have h7:=h6 j (by omega)
   rw [hn,hc,add_add] at h7
   have e:(⟨blk,off,none⟩:Addr).add (i * k+j)=⟨blk,off+(i * k+j),none⟩:=by
    unfold Addr.add
    by_cases q:i * k+j=0
    ·simp [q]
    ·simp
   rw [e] at h7
   exact h7
  refine ⟨(List.range len).map fun i=>mk fun j=>match w.cell? ⟨blk,off+(i * k+j),none⟩ with | some (.int _ n)=>n | _=>0,⟨blk,off,_⟩,?_,rfl,.inr ⟨m,by simp,by simpa using hl⟩⟩
  intro i u hu
  obtain ⟨y,h1,h2⟩:=zt hk (fun y hy=>by
   obtain ⟨i,_,rfl⟩:=List.mem_map.1 hy
   rw [hmk];simp) i u hu
  have hlt:i / k < len:=by
   have:=Jf h1
   simpa using this
  rw [List.getElem?_map,List.getElem?_range hlt] at h1
  simp only [Option.map_some,Option.some.injEq] at h1
  subst h1
  have hj:i % k < k:=Nat.mod_lt _ hk
  rw [hmk,List.getElem?_map,List.getElem?_range hj] at h2
  simp only [Option.map_some,Option.some.injEq] at h2
  obtain ⟨n,hn⟩:=hcell _ hlt _ hj
  rw [hn] at h2
  subst h2
  rw [Nat.div_add_mod' ] at hn
  exact ⟨hn,rfl⟩
theorem Kj.rel {α:Type} {w:World} {v:Value} {f:α→List Value} {l:List α} {x:Imp} (g:Kj w v f l x) {r:Ren} {H:Hp} {b:Nat} (hr:r b=some ⟨x.blk,x.off,none⟩) (hb:b < H.next) (hc:cellsOf H b=some x.cs) (hro:H.t.get b=some (.ro x.cs)) :
  ∃ a cap,VR r (.slice a l.length cap) v∧Sl H a l.length cap (l.flatMap f)∧∀ b,a=some ⟨b,0,none⟩→H.t.get b=some (.ro (l.flatMap f)):=by
 rcases g.v with ⟨rfl,rfl⟩ | ⟨cap,rfl,hl⟩
 ·exact ⟨none,0,.nilSlice,.inl ⟨.inl rfl,rfl,rfl,rfl⟩,fun b e=>by cases e⟩
 ·refine ⟨some ⟨b,0,none⟩,cap,?_,.inr ⟨b,rfl,⟨hb,by rw [hc,g.cs]⟩,hl⟩,fun b' e=>by cases e;rw [hro,g.cs]⟩
  have:=VR.slice (o:=0) (n:=l.length) (c:=cap) hr rfl hl
  simpa using this
end Go.Ax

/-! Slices of rows of plain cells,as_ arguments. -/
namespace Go.Ax
open Go Go.RowKit Go.Proofs Go.ChangeShapes Go.WideShapes Go.Deep

theorem QY.row {α:Type} {P:Program} {t:TypeId} {k:Nat} {f:α→List Value} {mk:(Nat→Int)→α} (h:QY P t) (hc:P.cellsOf t=k) (hmk:∀ N:Nat→Int,f (mk N)=(List.range k).map fun j=>Value.int .i64 (N j))
  {H:Type} {enc:TypeId × Value→H} {w:World} {base:Nat} {spare:Nat→Bool} {held:Bool} (fuel:Nat) (cs:List Value) (x:DataW H × List MemPlace) (hx:DataW.trod enc P w base spare held fuel t cs=some x):∃ y:α,cs=f y∧True:=by
 obtain ⟨h1,h2⟩:=h _ _ _ _ _ _ _ _ _ hx
 have:∃ N:Nat→Int,∀ j,j < cs.length→cs[j]? = some (.int .i64 (N j)):=by
  refine ⟨fun j=>match cs[j]? with | some (.int _ n)=>n | _=>0,fun j hj=>?_⟩
  obtain ⟨n,hn⟩:=h2 j hj
  simp [hn]
 obtain ⟨N,hN⟩:=this
 refine ⟨mk N,?_,trivial⟩
 rw [hmk]
 apply List.ext_getElem?
 intro j
 by_cases hj:j < k
 ·rw [hN j (by omega),List.getElem?_map,List.getElem?_range hj];rfl
 ·rw [List.getElem?_eq_none (by omega),List.getElem?_eq_none (by simp;omega)]
end Go.Ax

/-! Arguments that point to what points: inner slices,rows of slices. -/
namespace Go.Ax
open Go Go.RowKit Go.Proofs Go.ChangeShapes Go.WideShapes Go.Deep

def yc (imps:List Imp):Ren:=fun b=>(imps[b]?).map fun x=>⟨x.blk,x.off,none⟩
theorem j2 {P:Program} (imps outs:List Imp) (w:World) (h:∀ x∈imps,∀ (i:Nat) v,x.cs[i]? = some v→w.cell? ⟨x.blk,x.off+i,none⟩=some v∧Yt v=true)
  (hcs:∀ x∈outs,∀ (i:Nat) v,x.cs[i]? = some v→∃ v',w.cell? ⟨x.blk,x.off+i,none⟩=some v'∧VR (yc imps) v v') :
  ∃ (r:Ren) (H:Hp),Rel P r w.heap.size H w∧H.next=(imps ++ outs).length∧(∀ b loc,r b=some loc→b < H.next)∧Ren.Le (yc imps) r∧∀ (b:Nat) x,(imps ++ outs)[b]? = some x→r b=some ⟨x.blk,x.off,none⟩∧H.t.get b=some (.ro x.cs):=by
 have hall:∀ x∈imps ++ outs,∀ (i:Nat) v,x.cs[i]? = some v→∃ v',w.cell? ⟨x.blk,x.off+i,none⟩=some v'∧VR (yc imps) v v':=by
  intro x hx i v hv
  rcases List.mem_append.1 hx with hx | hx
  ·obtain ⟨h1,h2⟩:=h x hx i v hv
   exact ⟨v,h1,Ux h2⟩
  ·exact hcs x hx i v hv
 obtain ⟨t,ht⟩:=Zcu (fun b=>((imps ++ outs)[b]?).map fun x=>.ro x.cs) (imps ++ outs).length
 have hle:Ren.Le (yc imps) (fun b=>((imps ++ outs)[b]?).map fun x=>⟨x.blk,x.off,none⟩):=fun b loc e=>by
  unfold yc at e
  have hlt:b < imps.length:=by
   rcases Nat.lt_or_ge b imps.length with q | q
   ·exact q
   ·rw [List.getElem?_eq_none q] at e;cases e
  show ((imps ++ outs)[b]?).map _=_
  rw [List.getElem?_append_left hlt];exact e
 have hr:∀ (b:Nat) loc,((imps ++ outs)[b]?).map (fun x=>(⟨x.blk,x.off,none⟩:Loc))=some loc→∃ x,(imps ++ outs)[b]? = some x∧b < (imps ++ outs).length∧loc=⟨x.blk,x.off,none⟩∧t.get b=some (.ro x.cs):=by
  intro b loc e
  cases hx:(imps ++ outs)[b]? with
  | none=>rw [hx] at e;cases e
  | some x=>
   rw [hx] at e
   simp at e
   have hlt:=Jf hx
   exact ⟨x,rfl,hlt,e.symm,by rw [ht,if_pos hlt,hx];rfl⟩
 have low:∀ {g o:Nat} {v:Value},w.cell? ⟨g,o,none⟩=some v→g < w.heap.size:=fun {g o v} hv=>by
  unfold World.cell? at hv
  rcases Nat.lt_or_ge g w.heap.size with q | q
  ·exact q
  ·rw [Array.getElem?_eq_none q] at hv;cases hv
 refine ⟨fun b=>((imps ++ outs)[b]?).map fun x=>⟨x.blk,x.off,none⟩,{ next:=(imps ++ outs).length,t },⟨?_,?_,?_,Nat.le_refl _⟩,rfl,?_,hle,?_⟩
 ·intro b loc e
  obtain ⟨x,hx,hlt,rfl,hg⟩:=hr b loc e
  refine ⟨hlt,?_⟩
  show Dm _ _ _ (t.get b)
  rw [hg]
  cases hc:x.cs with
  | nil=>exact .inl rfl
  | cons v l=>
   obtain ⟨v',h1,_⟩:=hall x (List.mem_of_getElem? hx) 0 v (by rw [hc];rfl)
   exact .inr (low h1)
 ·intro b loc o e eo
  obtain ⟨x,hx,hlt,rfl,hg⟩:=hr b loc e
  rw [hg] at eo;cases eo
  refine ⟨rfl,fun i v ev=>?_⟩
  obtain ⟨v',h1,h2⟩:=hall x (List.mem_of_getElem? hx) i v ev
  unfold World.cell? at h1
  simp only at h1
  split at h1
  ·rename_i C e' f hC
   exact ⟨C,e',f,v',hC,by simpa using h1,h2.mono hle⟩
  ·cases h1
 ·intro b b' loc loc' e e' _ hl _
  obtain ⟨x,hx,hlt,rfl,hg⟩:=hr b loc e
  obtain ⟨o,h1,h2,h3⟩:=hl
  have:t.get b=some o:=h1
  rw [hg] at this;cases this
  cases h3
 ·intro b loc e
  obtain ⟨x,hx,hlt,rfl,hg⟩:=hr b loc e
  exact hlt
 ·intro b x hx
  have hlt:=Jf hx
  refine ⟨by simp only [hx,Option.map_some],?_⟩
  show t.get b=_
  rw [ht,if_pos hlt,hx];rfl

structure Zdr {α:Type} (w:World) (v:Value) (f:α→List Value) (l:List α) (x:Imp):Prop where
 ok:∀ (i:Nat) u,x.cs[i]? = some u→w.cell? ⟨x.blk,x.off+i,none⟩=some u∧Yt u=true
 cs:x.cs=l.flatMap f
 v:((v=.slice none 0 0∨∃ a',v=.slice (some a') 0 0)∧l=[])∨∃ cap,v=.slice (some ⟨x.blk,x.off,none⟩) l.length cap∧l.length≤cap
theorem Zdr.rel {α:Type} {w:World} {v:Value} {f:α→List Value} {l:List α} {x:Imp} (g:Zdr w v f l x) {r:Ren} {b:Nat} (hr:r b=some ⟨x.blk,x.off,none⟩) :
  ∃ a cap,VR r (.slice a l.length cap) v∧(∀ y,a=some ⟨y,0,none⟩→y=b)∧∀ H:Hp,b < H.next→H.t.get b=some (.ro x.cs)→Sl H a l.length cap (l.flatMap f):=by
 rcases g.v with ⟨rfl | ⟨a',rfl⟩,rfl⟩ | ⟨cap,rfl,hl⟩
 ·exact ⟨none,0,.nilSlice,fun y e=>by (cases e),fun H _ _=>.inl ⟨.inl rfl,rfl,rfl,rfl⟩⟩
 ·exact ⟨some ⟨0,0,some 0⟩,0,.weird (.inl rfl),fun y e=>by (cases e),fun H _ _=>.inl ⟨.inr rfl,rfl,rfl,rfl⟩⟩
 ·refine ⟨some ⟨b,0,none⟩,cap,?_,fun y e=>by (cases e;rfl),fun H hb hc=>.inr ⟨b,rfl,⟨hb,by unfold cellsOf;rw [hc,g.cs]⟩,hl⟩⟩
  have:=VR.slice (o:=0) (n:=l.length) (c:=cap) hr rfl hl
  simpa using this
structure RV where
 rv:Value
 l:List Int
 x:Imp
def RV.f (r:RV):List Value:=[r.rv]
def RV.Q (w:World) (r:RV):Prop:=Zdr w r.rv (fun n:Int=>[iv n]) r.l r.x
end Go.Ax

/-! What is flat as_ arguments. -/
namespace Go.Ax
open Go Go.RowKit Go.Proofs Go.ChangeShapes Go.WideShapes Go.Deep

theorem K3 {P:Program} (pre:List Imp) {w:World} (h:∀ x∈pre,∀ (i:Nat) v,x.cs[i]? = some v→w.cell? ⟨x.blk,x.off+i,none⟩=some v∧Yt v=true) :
  ∃ (r:Ren) (H:Hp),Rel P r w.heap.size H w∧(∀ b loc,r b=some loc→b < H.next)∧(∀ (b:Nat) x,pre[b]? = some x→b < H.next∧r b=some ⟨x.blk,x.off,none⟩∧H.t.get b=some (.ro x.cs)):=by
 obtain ⟨r,H,h1,h2,h3,h4,h5⟩:=j2 (P:=P) pre [] w h (fun x hx=>by simp at hx)
 refine ⟨r,H,h1,h3,fun b x hx=>?_⟩
 have:=Jf hx
 obtain ⟨a,c⟩:=h5 b x (by simpa using hx)
 exact ⟨by rw [h2];simpa using this,a,c⟩
end Go.Ax


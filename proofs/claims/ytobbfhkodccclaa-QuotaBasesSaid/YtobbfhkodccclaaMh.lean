import Derived.Test.YtobbfhkodccclaaMg
import Derived.Test.YtobbfhkodccclaaRows
set_option linter.all false
/-
 Pool: Play,where all events can be (18) (written by program).
-/
namespace Go.Ax
open Go Go.RowKit Go.Proofs

noncomputable section
noncomputable def R18D:RC:=(.dreg [oM 21 0,oD 22 4 4,⟨some 23,none,(.call ⟨(.value (.func 26)),#[(.tmp 21),(.tmp 22)],#[22,24]⟩ false)⟩,oJ 24 4 3,oL 25 24 1,oC 26 25 #[(.tmp 23),(.tmp 25)] #[60,3],oC 27 33 #[(.tmp 26)] #[27],oM 9 27] [127,63,31,8,0,3,0,0])
theorem ZkM:low Try.prog 41 (at_ Try.f18 [1,1,1,0])=some R18D:=by kernel_rfl
noncomputable def R18v:RC:=(.seq (.reg [oK 4 24 1,⟨some 6,none,(.mov (.const (.slice none 0 0)))⟩,oN 7 0,oN 8 0])
 (.seq (.seq (.reg [oM 10 0,oC 11 23 #[(.tmp 10)] #[22],oU 12 11,oM 13 12,⟨some 14,(some (13,false)),(.lda (.tmp 4) 4)⟩,oH 15 13 false 24 #[(.tmp 14)] #[24],oV 16 13 false 15,oO 17 13 16])
 (.cond (.tmp 17) (.seq (.reg [⟨some 6,none,(.mov (.const (.slice none 0 0)))⟩,oN 7 0,oN 8 1])
 .ret)
 .skip))
 (.seq (.seq (.reg [oM 18 2,oW 19 18,oQ 20 .gtr 19 256])
 (.cond (.tmp 20) (.seq (.reg [⟨some 6,none,(.mov (.const (.slice none 0 0)))⟩,oN 7 0,oN 8 3])
 .ret)
 .skip))
 (.seq (.other (at_ Try.f18 [1,1,1,0]))
 (.seq (.reg [oM 29 9,oM 30 2,oC 31 34 #[(.tmp 29),(.tmp 30)] #[69,36],oM 28 31,oE 32 28 0 3,oE 33 28 1 28,oM 7 32,oM 8 33])
 (.seq (.seq (.reg [oM 34 8,oQ 35 .neq 34 0])
 (.cond (.tmp 35) (.seq (.reg [oM 36 7,oM 37 8,⟨some 6,none,(.mov (.const (.slice none 0 0)))⟩,oM 7 36,oM 8 37])
 .ret)
 .skip))
 (.seq (.reg [oM 38 9,oC 39 35 #[(.tmp 38)] #[69],oM 40 7,oM 6 39,oM 7 40,oN 8 0])
 .ret)))))))
theorem V18:LV Try.prog 41 (at_ Try.f18 []) R18v:=by
 have e:at_ Try.f18 []=(.seq (at_ Try.f18 [0]) (.seq (at_ Try.f18 [1,0]) (.seq (at_ Try.f18 [1,1,0]) (.seq (at_ Try.f18 [1,1,1,0]) (at_ Try.f18 [1,1,1,1]))))):=by kernel_rfl
 rw [e]
 exact (.seq (.low (by kernel_rfl)) (.seq (.low (by kernel_rfl)) (.seq (.low (by kernel_rfl)) (.seq (.other _) (.low (by kernel_rfl))))))
theorem ZhH {ms:List Mb} {p:Int} (h:∀ m∈ms,okM m) (h0:0≤p) (h1:p≤1000):∀ a∈acs (qtL p ms),Ui 1099511627776 a:=by
 intro a ha
 obtain ⟨q,hq,e⟩:=List.mem_map.1 ha
 obtain ⟨m,hm,e2⟩:=List.mem_map.1 hq
 have k:=h m hm
 have m1:0≤m.b * p:=Int.mul_nonneg k.2.2.1 h0
 have m2:m.b * p≤m.b * 1000:=Int.mul_le_mul_of_nonneg_left h1 k.2.2.1
 have m3:m.b * p / 1000≤m.b:=Int.ediv_le_of_le_mul (by decide) m2
 have m4:0≤m.b * p / 1000:=Int.ediv_nonneg m1 (by decide)
 rw [← e,← e2]
 have:=k.2.2.2
 refine ⟨Int.le_refl _,m4,?_,Int.le_refl _,?_⟩
 ·show m.b * p / 1000≤_;omega
 ·show (0:Int)≤_;omega
theorem Zih {p:Int} {ms:List Mb}:(acs (qtL p ms)).map (·.g)=ms.map (·.g):=by
 unfold acs qtL
 rw [List.map_map,List.map_map]
 exact List.map_congr_left fun m _=>rfl
theorem Zew {ms:List Mb} (h:ms.Pairwise fun a b=>a.g < b.g):(ms.map (·.g)).Pairwise (· < ·):=List.pairwise_map.2 h
theorem ZeX {p:Int} {ms:List Mb} (h:ms.Pairwise fun a b=>a.g < b.g):∀ i j,i < j→j < ms.length→((qtL p ms).getD i Qt.z).g≠((qtL p ms).getD j Qt.z).g:=by
 intro i j hij hj e
 rw [yb (by omega),yb hj] at e
 have:=(List.pairwise_iff_getElem.1 h) i j (by omega) hj hij
 have e2:(ms.getD i Mb.z).g=(ms.getD j Mb.z).g:=e
 rw [List.getD_eq_getElem?_getD,List.getD_eq_getElem?_getD,List.getElem?_eq_getElem (by omega),List.getElem?_eq_getElem hj] at e2
 have e3:ms[i].g=ms[j].g:=e2
 omega
section
variable {kn:Kn} {lo:Nat} {H:Hp}
set_option maxRecDepth 100000 in
set_option maxHeartbeats 1000000 in
theorem ZdC (s:Snd Try.prog kn) {cs:List Cp} {sa:Option Addr} {n cap:Nat} (hs:Sl H sa n cap (cpc cs)) (hl:cs.length=n) (hn:n≤400) (hlo:lo≤H.next) (hmn:XR n=false) {g:Gl} (hvA0:vA cs g=true) (h12:(mbL g cs).length≤12) {vs:List Ev} {ea:Option Addr} {m ecap:Nat} (he:Sl H ea m ecap (evc vs)) (hm:vs.length=m) (hm2:m≤256) (hok:∀ j,j < m→(stp (stA (acs (qtL g.p (mbL g cs))) vs j) (vs.getD j Ev.z)).2=0) :
  FnM Try.prog lo 18 [.slice sa n cap,.agg (Gl.f g).toArray,.slice ea m ecap] H fun v H'=>∃ u,v=.tuple #[u,iv m,iv 0]∧Acc lo H.next 47 H' u (acs (qtL g.p (mbL g cs))).length (acc (stA (acs (qtL g.p (mbL g cs))) vs m))∧Keep H H' []:=by
 refine ZeJ s Try.func18 B18 N18 Z18 V18 (by simp) ?_
 have hk:=Keep.refl H []
 have fs:=hs.old
 have fe:=he.old
 refine Zv<|UN (v:=.agg (Gl.f g).toArray) rfl ?_
 intro H1 kH1 nH1 c1
 have c1:Cl H1 H.next [iv g.y,iv g.k,iv g.b,iv g.p]:=c1
 have mH1:=kH1.1
 have hk:=hk.trans kH1
 have hs:=kH1.sl0 hs
 have he:=kH1.sl0 he
 refine Zd rfl<|Zd rfl<|Zd rfl<|Zj<|Zv<|Zd rfl<|XB s rfl (Zb6 hs hl (by omega) (by omega)) ?_
 intro tH2 H2 hH2 kH2
 have mH2:=kH2.1
 have hk:=hk.trans kH2
 have hs:=kH2.sl0 hs
 have he:=kH2.sl0 he
 have c1:=kH2.cl c1 (by simp)
 cases tH2
 ·have qvC:=hH2
  refine Zo (v:=.bool true) rfl rfl<|Zd rfl<|WG rfl<|WG rfl<|WG rfl<|Zo (v:=.bool true) rfl rfl<|Zj ?_
  exact absurd hvA0 (by first | (rw [Uc qvC qvG];simp) | (unfold vA;rw [qvC];simp))
 ·have qvC:=hH2
  refine Zo (v:=.bool false) rfl rfl<|Zd rfl ?_
  refine YT rfl (Y3 (b:=H.next) (o:=0) rfl c1.rd (show row 4 _ _=some [iv g.y,iv g.k,iv g.b,iv g.p] from rfl) ?_)
  refine YT rfl (XB s rfl (ZbU (g:=g) (by omega)) ?_)
  intro tH3 H3 hH3 kH3
  have mH3:=kH3.1
  have hk:=hk.trans kH3
  have hs:=kH3.sl0 hs
  have he:=kH3.sl0 he
  have c1:=kH3.cl c1 (by simp)
  cases tH3
  ·have qvG:=hH3
   refine YT rfl (Zo (v:=.bool true) rfl rfl ?_)
   refine Zo (v:=.bool true) rfl rfl<|Zj ?_
   exact absurd hvA0 (by first | (rw [Uc qvC qvG];simp) | (unfold vA;rw [qvC];simp))
  ·have qvG:=hH3
   refine YT rfl (Zo (v:=.bool false) rfl rfl ?_)
   refine Zo (v:=.bool false) rfl rfl<|Zj<|ZP ?_
   first | refine YL ?_ | skip
   refine Zv<|Zd rfl<|jA (m:=m) rfl<|Zdt (a:=(m:Int)) (b:=256) rfl rfl<|Zj ?_
   refine And.intro (fun q1=>?_) (fun q1=>?_)
   ·have q1:(m:Int) > 256:=of_decide_eq_true q1
    exfalso;omega
   ·have q1:¬ ((m:Int) > 256):=of_decide_eq_false q1
    first | refine YL ?_ | skip
    have hvA:vA cs g=true:=Uc qvC qvG
    have hb:=(JJ hvA).1;have hg:=(JJ hvA).2;have hsm:=QZ hmn (by have:=(ZeQ qvC).1;omega)
    have hgt:=KC hg;have hmlen:=Vo (g:=g) hb;have hmok:=Jz hb hg
    refine U3 (zV ?_)
    have hxl:lo≤H3.next:=by omega
    refine qj s ZkM (S0:=[(0,.slice sa n cap),(2,.slice ea m ecap),(4,.pointer (some ⟨H.next,0,none⟩))]) ⟨rfl,rfl,rfl,trivial⟩ (fun done V H'=>Keep H3 H' []∧(done 0=true→V 0=.slice sa n cap)∧(done 1=true→V 1=.agg (Gl.f g).toArray)∧(done 2=true→∃ a cp,V 2=.slice a (mbL g cs).length cp∧Sl H' a (mbL g cs).length cp (mbc (mbL g cs)))∧(done 3=true→V 3=.pointer (some ⟨H.next,0+3,none⟩))∧(done 4=true→V 4=iv g.p)∧(done 5=true→Acc lo H3.next 44 H' (V 5) (qtL g.p (mbL g cs)).length (qtc (qtL g.p (mbL g cs))))∧(done 6=true→∃ mb L c Pp f,V 6=.map (some mb)∧H3.next≤f∧Bok lo f mb L c Pp (acs (qtL g.p (mbL g cs))) H')∧(done 7=true→∃ mb L c Pp f,V 7=.map (some mb)∧H3.next≤f∧Bok lo f mb L c Pp (acs (qtL g.p (mbL g cs))) H')) (fun _=>iv 0) (by decide) ⟨Keep.refl _ _,(fun h=>by cases h),(fun h=>by cases h),(fun h=>by cases h),(fun h=>by cases h),(fun h=>by cases h),(fun h=>by cases h),(fun h=>by cases h),(fun h=>by cases h)⟩ ⟨?_,?_,?_,?_,?_,?_,?_,?_,True.intro⟩ (fun done V H9 hd hp=>?_)
    ·rintro done V S' H' hd hm ⟨k,p0,p1,p2,p3,p4,p5,p6,p7⟩ kd
     exact Xg (Zd (kd.old rfl rfl) (Zj ⟨_,rfl,k,fun _=>rfl,p1,p2,p3,p4,p5,p6,p7⟩))
    ·rintro done V S' H' hd hm ⟨k,p0,p1,p2,p3,p4,p5,p6,p7⟩ kd
     exact Xg (Y3 (b:=H.next) (o:=0) (kd.old rfl rfl) (k.rd c1.rd (by simp)) rfl (Zj ⟨_,rfl,k,p0,fun _=>rfl,p2,p3,p4,p5,p6,p7⟩))
    ·rintro done V S' H' hd hm ⟨k,p0,p1,p2,p3,p4,p5,p6,p7⟩ kd
     have mk:=k.1
     have h14:lk S' 21=some (.slice sa n cap):=kd.own 0 rfl (hm 0 (by decide)) (p0 (hm 0 (by decide)))
     have h15:lk S' 22=some (.agg (Gl.f g).toArray):=kd.own 1 rfl (hm 1 (by decide)) (p1 (hm 1 (by decide)))
     refine Xg (YR (t:=.fn (.func 26) #[]) (vs:=[.slice sa n cap,.agg (Gl.f g).toArray]) (by simp only [YP,zg,evS,h14,h15];rfl) (Yi s.hN (WS (H:=H') s (k.sl0 hs) hl hsm hb hg (by omega))) ?_)
     rintro _ H2 ⟨k2,a,cp,rfl,hs2⟩
     exact Zj ⟨_,rfl,k.trans k2,p0,p1,fun _=>⟨a,cp,rfl,hs2⟩,p3,p4,fun h=>(p5 h).keep k2,fun h=>(by obtain ⟨mb,L,c,Pp,f,e,hf,hb⟩:=p6 h;exact ⟨mb,L,c,Pp,f,e,hf,hb.keep k2⟩),fun h=>(by obtain ⟨mb,L,c,Pp,f,e,hf,hb⟩:=p7 h;exact ⟨mb,L,c,Pp,f,e,hf,hb.keep k2⟩)⟩
    ·rintro done V S' H' hd hm ⟨k,p0,p1,p2,p3,p4,p5,p6,p7⟩ kd
     exact Xg (Wi (b:=H.next) (o:=0) (kd.old rfl rfl) (Zj ⟨_,rfl,k,p0,p1,p2,fun _=>rfl,p4,p5,p6,p7⟩))
    ·rintro done V S' H' hd hm ⟨k,p0,p1,p2,p3,p4,p5,p6,p7⟩ kd
     exact Xg (W3 (b:=H.next) (o:=0+3) (v:=iv g.p) (kd.own 3 rfl (hm 3 (by decide)) (p3 (hm 3 (by decide)))) (k.rd c1.rd (by simp)) rfl (Zj ⟨_,rfl,k,p0,p1,p2,p3,fun _=>rfl,p5,p6,p7⟩))
    ·rintro done V S' H' hd hm ⟨k,p0,p1,p2,p3,p4,p5,p6,p7⟩ kd
     have mk:=k.1
     obtain ⟨a,cp,e2,s2⟩:=p2 (hm 2 (by decide))
     have h16:lk S' 23=some (.slice a (mbL g cs).length cp):=kd.own 2 rfl (hm 2 (by decide)) e2
     have h18:lk S' 25=some (iv g.p):=kd.own 4 rfl (hm 4 (by decide)) (p4 (hm 4 (by decide)))
     obtain ⟨v,H2,f2,a2,k2⟩:=Us (kn:=kn) (lo:=lo) (H:=H') s2 rfl (by omega) (by omega) hmok (p:=g.p) (by omega) (by omega)
     exact Xg (Z5 s (t:=.fn (.func 25) #[]) (vs:=[.slice a (mbL g cs).length cp,iv g.p]) (by simp only [YP,zg,evS,h16,h18];rfl) (Zh f2) (Zj ⟨v,rfl,k.trans k2,p0,p1,fun h=>(by obtain ⟨a,cp,e,q⟩:=p2 h;exact ⟨a,cp,e,k2.sl0 q⟩),p3,p4,fun _=>a2.low (by omega),fun h=>(by obtain ⟨mb,L,c,Pp,f,e,hf,hb⟩:=p6 h;exact ⟨mb,L,c,Pp,f,e,hf,hb.keep k2⟩),fun h=>(by obtain ⟨mb,L,c,Pp,f,e,hf,hb⟩:=p7 h;exact ⟨mb,L,c,Pp,f,e,hf,hb.keep k2⟩)⟩))
    ·rintro done V S' H' hd hm ⟨k,p0,p1,p2,p3,p4,p5,p6,p7⟩ kd
     have mk:=k.1
     have h26:lk S' 26=some (V 5):=kd.own 5 rfl (hm 5 (by decide)) rfl
     obtain ⟨qa,qcap,e5,hqs,_⟩:=(p5 (hm 5 (by decide))).sl
     rw [X7] at e5 hqs
     rw [e5] at h26
     refine Xg (YR (t:=.fn (.func 33) #[]) (vs:=[.slice qa (mbL g cs).length qcap]) (by simp only [YP,zg,evS,h26];rfl) (Yi s.hN (Zfq (H:=H') s hqs X7 (by omega) (ZeX Q6) (by omega))) ?_)
     rintro _ H2 ⟨mb,L,c,Pp,rfl,hb2,k2⟩
     exact Zj ⟨_,rfl,k.trans k2,p0,p1,fun h=>(by obtain ⟨a,cp,e,q⟩:=p2 h;exact ⟨a,cp,e,k2.sl0 q⟩),p3,p4,fun h=>(p5 h).keep k2,fun _=>⟨mb,L,c,Pp,H'.next,rfl,mk,hb2⟩,fun h=>(by obtain ⟨mb,L,c,Pp,f,e,hf,hb⟩:=p7 h;exact ⟨mb,L,c,Pp,f,e,hf,hb.keep k2⟩)⟩
    ·rintro done V S' H' hd hm ⟨k,p0,p1,p2,p3,p4,p5,p6,p7⟩ kd
     exact Xg (Zd (kd.own 6 rfl (hm 6 (by decide)) rfl) (Zj ⟨V 6,rfl,k,p0,p1,p2,p3,p4,p5,p6,fun _=>p6 (hm 6 (by decide))⟩))
    obtain ⟨k9,_,_,_,_,_,_,_,p7⟩:=hp
    obtain ⟨mb,L,c,Pp,f,e7,hf,hB⟩:=p7 (hd 7 (by decide))
    have m9:=k9.1
    have hPx:∀ i,i < (acs (qtL g.p (mbL g cs))).length→H3.next≤Pp i:=fun i hi=>Nat.le_trans hf (hB.lw i hi).2.1
    have hal:=ZhH hmok (p:=g.p) (by omega) (by omega)
    have hk0:=hk
    have he:=k9.sl0 he
    have halen:(acs (qtL g.p (mbL g cs))).length=(mbL g cs).length:=by rw [KI,X7]
    show wCM _ _ _ _ _ _ _ _ _
    refine Zv<|Zd rfl<|Zd rfl ?_
    obtain ⟨H4,fH4,hB2,kp2⟩:=ZfX (kn:=kn) (lo:=lo) (H:=H9) hB he hm hm2 hal hok (H0:=H3) m9 hPx (fun b e=>by have:=fe b e;omega) hxl
    rw [← e7] at fH4
    refine Z5 s (vs:=[V 7,.slice ea m ecap]) rfl (Zh fH4) ?_
    have hkx:=kp2.keep k9 hPx
    have mH4:=kp2.le
    refine Zd rfl<|Zo (v:=iv (m:Int)) rfl (by kernel_rfl)<|Zo (v:=iv 0) rfl (by kernel_rfl)<|Zd rfl<|Zd rfl<|Zj<|Zv<|Zd rfl<|ZeP (a:=0) (b:=0) rfl rfl<|Zj<|ZP ?_
    first | refine YL ?_ | skip
    refine Zv<|Zd rfl ?_
    have hrise:((stA (acs (qtL g.p (mbL g cs))) vs m).map (·.g)).Pairwise (· < ·):=by rw [jn,Zih];exact Zew Q6
    refine YR (t:=.fn (.func 35) #[]) (vs:=[V 7]) rfl (Yi s.hN (by rw [e7];exact j9 (H:=H4) s hB2 hrise (by rw [Jm];omega) (by omega))) ?_
    rintro av H5 ⟨hav,kH5⟩
    have mH5:=kH5.1
    refine Zd rfl<|Zd rfl<|Zd rfl<|Zd rfl<|Zj ?_
    rw [Jm] at hav
    exact And.intro trivial (Exists.intro _ (And.intro rfl ⟨av,rfl,hav.low (by omega),hk0.trans (hkx.trans kH5)⟩))
end
end
end Go.Ax

/-
 Pool: lists compared (17,20);the example of the document (22) (written by program).
-/
namespace Go.Ax
open Go Go.RowKit Go.Proofs

noncomputable section
theorem Zhj:Try.prog.underlying 44=some (.struct (Qp Try.prog 44)):=by kernel_rfl
theorem Zku : (Qp Try.prog 44).toList.map (fun f => (f.type, f.offset, f.name == "_")) = [(3, 0, false), (3, 1, false), (3, 2, false)] := by kernel_rfl
theorem ZkB:Program.stoodInHeld Try.prog 44=false:=by kernel_rfl
set_option maxRecDepth 100000 in
theorem Zky {d:Nat} (a0 a1 a2:Int):ZK Try.prog (Op.equalIn (d+2) 44 (.agg #[iv a0,iv a1,iv a2]) (.agg #[iv a0,iv a1,iv a2]))=some true:=by
 have h:=JG (d:=d+1) (xs:=#[iv a0,iv a1,iv a2]) (ys:=#[iv a0,iv a1,iv a2]) (Wd Zhj) ZkB (fun _=>true) (by
   intro q hq
   have h : (q.type, q.offset, q.name == "_") ∈ [(3, 0, false), (3, 1, false), (3, 2, false)] := by rw [← Zku]; exact List.mem_map.mpr ⟨q, hq, rfl⟩
   simp only [List.mem_cons,List.not_mem_nil,or_false,Prod.mk.injEq] at h
   have one:∀ x:Int,ZK Try.prog (Op.equalIn (d+1) 3 (iv x) (iv x))=some true:=fun x=>by rw [jf];simp
   rcases h with ⟨h1,h2,h3⟩ | ⟨h1,h2,h3⟩ | ⟨h1,h2,h3⟩<;>(refine ⟨by intro e;rw [e] at h3;simp at h3,?_⟩;rw [h1,h2])
   ·exact ⟨iv a0,iv a0,by kernel_rfl,by kernel_rfl,one a0⟩
   ·exact ⟨iv a1,iv a1,by kernel_rfl,by kernel_rfl,one a1⟩
   ·exact ⟨iv a2,iv a2,by kernel_rfl,by kernel_rfl,one a2⟩)
 rw [show d+2=d+1+1 from rfl,h]
 simp
set_option maxRecDepth 100000 in
theorem ZjY {n:Nat} {S:Rg} {d:Option Tmp} {x y:Operand} {p:String} {ty:TypeId} {a0 a1 a2:Int} (hx:evS S x=some (.agg #[iv a0,iv a1,iv a2])) (hy:evS S y=some (.agg #[iv a0,iv a1,iv a2])):Zn Try.prog (frS n S) ⟨d,.binOp .neq 44 x y 44,ty,p,#[],none⟩=some (.bool false):=by
 have key:ZK Try.prog (do eqGuard .neq 44 x y (.agg #[iv a0,iv a1,iv a2]) (.agg #[iv a0,iv a1,iv a2]);binOp .neq 44 (.agg #[iv a0,iv a1,iv a2]) (.agg #[iv a0,iv a1,iv a2]))=some (.bool false):=by
  rw [YG,show ZK Try.prog (eqGuard .neq 44 x y (.agg #[iv a0,iv a1,iv a2]) (.agg #[iv a0,iv a1,iv a2]))=some () from by kernel_rfl,Option.bind_some]
  show ZK Try.prog (do pure (Value.bool (!(← Op.equalIn (9998+2) 44 (.agg #[iv a0,iv a1,iv a2]) (.agg #[iv a0,iv a1,iv a2])))))=_
  rw [YG,Zky];rfl
 unfold Zn
 simp only [ZX,hx,hy,show Z1 (.agg #[iv a0,iv a1,iv a2])=true from rfl,Bool.and_self,cond_true,key]
 rfl
theorem Zhp:Try.prog.underlying 47=some (.struct (Qp Try.prog 47)):=by kernel_rfl
theorem Zkm : (Qp Try.prog 47).toList.map (fun f => (f.type, f.offset, f.name == "_")) = [(3, 0, false), (3, 1, false), (3, 2, false), (3, 3, false)] := by kernel_rfl
theorem Zkn:Program.stoodInHeld Try.prog 47=false:=by kernel_rfl
set_option maxRecDepth 100000 in
theorem Zkt {d:Nat} (a0 a1 a2 a3:Int):ZK Try.prog (Op.equalIn (d+2) 47 (.agg #[iv a0,iv a1,iv a2,iv a3]) (.agg #[iv a0,iv a1,iv a2,iv a3]))=some true:=by
 have h:=JG (d:=d+1) (xs:=#[iv a0,iv a1,iv a2,iv a3]) (ys:=#[iv a0,iv a1,iv a2,iv a3]) (Wd Zhp) Zkn (fun _=>true) (by
   intro q hq
   have h : (q.type, q.offset, q.name == "_") ∈ [(3, 0, false), (3, 1, false), (3, 2, false), (3, 3, false)] := by rw [← Zkm]; exact List.mem_map.mpr ⟨q, hq, rfl⟩
   simp only [List.mem_cons,List.not_mem_nil,or_false,Prod.mk.injEq] at h
   have one:∀ x:Int,ZK Try.prog (Op.equalIn (d+1) 3 (iv x) (iv x))=some true:=fun x=>by rw [jf];simp
   rcases h with ⟨h1,h2,h3⟩ | ⟨h1,h2,h3⟩ | ⟨h1,h2,h3⟩ | ⟨h1,h2,h3⟩<;>(refine ⟨by intro e;rw [e] at h3;simp at h3,?_⟩;rw [h1,h2])
   ·exact ⟨iv a0,iv a0,by kernel_rfl,by kernel_rfl,one a0⟩
   ·exact ⟨iv a1,iv a1,by kernel_rfl,by kernel_rfl,one a1⟩
   ·exact ⟨iv a2,iv a2,by kernel_rfl,by kernel_rfl,one a2⟩
   ·exact ⟨iv a3,iv a3,by kernel_rfl,by kernel_rfl,one a3⟩)
 rw [show d+2=d+1+1 from rfl,h]
 simp
set_option maxRecDepth 100000 in
theorem Zik {n:Nat} {S:Rg} {d:Option Tmp} {x y:Operand} {p:String} {ty:TypeId} {a0 a1 a2 a3:Int} (hx:evS S x=some (.agg #[iv a0,iv a1,iv a2,iv a3])) (hy:evS S y=some (.agg #[iv a0,iv a1,iv a2,iv a3])):Zn Try.prog (frS n S) ⟨d,.binOp .neq 47 x y 47,ty,p,#[],none⟩=some (.bool false):=by
 have key:ZK Try.prog (do eqGuard .neq 47 x y (.agg #[iv a0,iv a1,iv a2,iv a3]) (.agg #[iv a0,iv a1,iv a2,iv a3]);binOp .neq 47 (.agg #[iv a0,iv a1,iv a2,iv a3]) (.agg #[iv a0,iv a1,iv a2,iv a3]))=some (.bool false):=by
  rw [YG,show ZK Try.prog (eqGuard .neq 47 x y (.agg #[iv a0,iv a1,iv a2,iv a3]) (.agg #[iv a0,iv a1,iv a2,iv a3]))=some () from by kernel_rfl,Option.bind_some]
  show ZK Try.prog (do pure (Value.bool (!(← Op.equalIn (9998+2) 47 (.agg #[iv a0,iv a1,iv a2,iv a3]) (.agg #[iv a0,iv a1,iv a2,iv a3])))))=_
  rw [YG,Zkt];rfl
 unfold Zn
 simp only [ZX,hx,hy,show Z1 (.agg #[iv a0,iv a1,iv a2,iv a3])=true from rfl,Bool.and_self,cond_true,key]
 rfl
theorem Zhw {P:Program} {S:Rg} {H:Hp} {a b x n:Nat} {t:TypeId} {cs:List Value} {v:Value} (ha:lk S a=some v) (hb:lk S b=some (.pointer (some ⟨x,0,none⟩))) (h1:Wf P t=some true) (hi:∃ i,P.info? t=some i∧i.size=n) (hl:cs.length=n) (h:Cl H x cs):Wm P S H [.tmp a,.cell b t]=some [v,.agg cs.toArray]:=by
 simp only [Wm,ha,hb,Zdh h1 hi h.rd hl]
def cs0:List Cp:=[⟨3,2022,1000⟩,⟨3,2023,1400⟩,⟨3,2024,900⟩,⟨3,2025,1301⟩,⟨8,2024,500⟩,⟨8,2021,9999⟩,⟨5,2020,700⟩]
def g0:Gl:=⟨2026,4,2,850⟩
section
variable {kn:Kn} {lo:Nat} {H:Hp}
set_option maxRecDepth 100000 in
theorem Js {l:List Qt} {pa pb:Option Addr} {cap1 cap2:Nat} (ha:Sl H pa l.length cap1 (qtc l)) (hb:Sl H pb l.length cap2 (qtc l)) (hlen:l.length≤1000000):∃ H',FnX Try.prog kn lo 17 [.slice pa l.length cap1,.slice pb l.length cap2] H (.bool true) H'∧Keep H H' []:=by
 have key:=Zp (kn:=kn) (lo:=lo) (H:=H) (args:=[.slice pa l.length cap1,.slice pb l.length cap2]) (Q:=fun w H'=>w=.bool true∧Keep H H' []) Try.func17 B17 N17 Z17 L17 (by simp) ?_
 ·obtain ⟨w,H',h,rfl,q⟩:=key;exact ⟨H',h,q⟩
 have hk:=Keep.refl H []
 have fa:=ha.old
 have fb:=hb.old
 refine Zc<|Za rfl<|Zb<|Zc<|Za rfl<|Z6 (m:=l.length) rfl<|Za rfl<|Z6 (m:=l.length) rfl<|UC (a:=(l.length:Int)) (b:=(l.length:Int)) rfl rfl ?_
 rw [show ((l.length:Int) != (l.length:Int))=false by simp]
 refine Zb<|ZP ?_
 first | refine Zi ?_ | skip
 refine Zc<|Za rfl<|Zb ?_
 refine Zt (fn:=Try.f17) Zi0 N17 ZiT (fun i:Nat=>[(0,.slice pa l.length cap1),(1,.slice pb l.length cap2),(5,iv (i:Int))])
  (fun k i H'=>i+k=l.length∧Keep H H' []∧Sl H' pa l.length cap1 (qtc l)∧Sl H' pb l.length cap2 (qtc l)) l.length 0 ⟨by omega,hk,ha,hb⟩ ⟨rfl,rfl,rfl,trivial⟩ ?_
 rintro k i L1 ⟨hik,hk,ha,hb⟩
 have mk:=hk.1
 refine Zc<|Za rfl<|Za rfl<|Z6 (m:=l.length) rfl<|ZC (a:=(i:Int)) (b:=(l.length:Int)) rfl rfl<|Zb ?_
 refine And.intro (fun q1=>?_) (fun q1=>?_)
 ·have q1:(i:Int) < (l.length:Int):=of_decide_eq_true q1
  have hi:i < l.length:=by omega
  rcases id ha with ⟨_,h0s,_⟩ | ⟨sb,es,rs,_⟩
  ·omega
  have ls:=rs.1
  rcases id hb with ⟨_,h0t,_⟩ | ⟨tb,et,rt,_⟩
  ·omega
  have lt:=rt.1
  first | refine Zi ?_ | skip
  refine YF<|Ze rfl<|Ze rfl<|ZA (b:=sb) (o:=0) (k:=i) (j:=(i:Int)) (by rw [← es];rfl) rfl rfl hi<|YS (b:=sb) (o:=0+i * 3) rfl rs (UQ (by omega))<|Ze rfl<|Ze rfl<|ZA (b:=tb) (o:=0) (k:=i) (j:=(i:Int)) (by rw [← et];rfl) rfl rfl hi<|YS (b:=tb) (o:=0+i * 3) rfl rt (UQ (by omega))<|Yl (v:=.bool false) rfl (ZjY (a0:=(l.getD i Qt.z).g) (a1:=(l.getD i Qt.z).b) (a2:=(l.getD i Qt.z).a) rfl rfl) ?_
  refine ZH (by repeat' first | exact True.intro | exact (fun h=>h) | refine And.intro ?_ ?_ | (intro h;have h:(_:Nat)=_:=h;omega)) ?_
  refine ZP ?_
  first | refine Zi ?_ | skip
  show Zl _ _ _ _ _ _ _ _
  refine Za rfl<|Zs (a:=(i:Int)) (b:=1) rfl rfl ⟨by omega,by omega⟩<|Za rfl<|Zb ?_
  exact ⟨k - 1,i+1,by omega,⟨by omega,hk,ha,hb⟩,rfl,rfl,rfl,trivial⟩
 ·have q1:¬ ((i:Int) < (l.length:Int)):=of_decide_eq_false q1
  refine Zc<|Za rfl<|Zb ?_
  exact And.intro trivial (Exists.intro _ (And.intro rfl ⟨rfl,hk⟩))
set_option maxRecDepth 100000 in
theorem Zeh {l:List Ac} {pa pb:Option Addr} {cap1 cap2:Nat} (ha:Sl H pa l.length cap1 (acc l)) (hb:Sl H pb l.length cap2 (acc l)) (hlen:l.length≤1000000):∃ H',FnX Try.prog kn lo 20 [.slice pa l.length cap1,.slice pb l.length cap2] H (.bool true) H'∧Keep H H' []:=by
 have key:=Zp (kn:=kn) (lo:=lo) (H:=H) (args:=[.slice pa l.length cap1,.slice pb l.length cap2]) (Q:=fun w H'=>w=.bool true∧Keep H H' []) Try.func20 B20 N20 Z20 L20 (by simp) ?_
 ·obtain ⟨w,H',h,rfl,q⟩:=key;exact ⟨H',h,q⟩
 have hk:=Keep.refl H []
 have fa:=ha.old
 have fb:=hb.old
 refine Zc<|Za rfl<|Zb<|Zc<|Za rfl<|Z6 (m:=l.length) rfl<|Za rfl<|Z6 (m:=l.length) rfl<|UC (a:=(l.length:Int)) (b:=(l.length:Int)) rfl rfl ?_
 rw [show ((l.length:Int) != (l.length:Int))=false by simp]
 refine Zb<|ZP ?_
 first | refine Zi ?_ | skip
 refine Zc<|Za rfl<|Zb ?_
 refine Zt (fn:=Try.f20) ZjF N20 Zij (fun i:Nat=>[(0,.slice pa l.length cap1),(1,.slice pb l.length cap2),(5,iv (i:Int))])
  (fun k i H'=>i+k=l.length∧Keep H H' []∧Sl H' pa l.length cap1 (acc l)∧Sl H' pb l.length cap2 (acc l)) l.length 0 ⟨by omega,hk,ha,hb⟩ ⟨rfl,rfl,rfl,trivial⟩ ?_
 rintro k i L1 ⟨hik,hk,ha,hb⟩
 have mk:=hk.1
 refine Zc<|Za rfl<|Za rfl<|Z6 (m:=l.length) rfl<|ZC (a:=(i:Int)) (b:=(l.length:Int)) rfl rfl<|Zb ?_
 refine And.intro (fun q1=>?_) (fun q1=>?_)
 ·have q1:(i:Int) < (l.length:Int):=of_decide_eq_true q1
  have hi:i < l.length:=by omega
  rcases id ha with ⟨_,h0s,_⟩ | ⟨sb,es,rs,_⟩
  ·omega
  have ls:=rs.1
  rcases id hb with ⟨_,h0t,_⟩ | ⟨tb,et,rt,_⟩
  ·omega
  have lt:=rt.1
  first | refine Zi ?_ | skip
  refine YF<|Ze rfl<|Ze rfl<|ZA (b:=sb) (o:=0) (k:=i) (j:=(i:Int)) (by rw [← es];rfl) rfl rfl hi<|YS (b:=sb) (o:=0+i * 4) rfl rs (Zab (by omega))<|Ze rfl<|Ze rfl<|ZA (b:=tb) (o:=0) (k:=i) (j:=(i:Int)) (by rw [← et];rfl) rfl rfl hi<|YS (b:=tb) (o:=0+i * 4) rfl rt (Zab (by omega))<|Yl (v:=.bool false) rfl (Zik (a0:=(l.getD i Ac.z).g) (a1:=(l.getD i Ac.z).q) (a2:=(l.getD i Ac.z).u) (a3:=(l.getD i Ac.z).x) rfl rfl) ?_
  refine ZH (by repeat' first | exact True.intro | exact (fun h=>h) | refine And.intro ?_ ?_ | (intro h;have h:(_:Nat)=_:=h;omega)) ?_
  refine ZP ?_
  first | refine Zi ?_ | skip
  show Zl _ _ _ _ _ _ _ _
  refine Za rfl<|Zs (a:=(i:Int)) (b:=1) rfl rfl ⟨by omega,by omega⟩<|Za rfl<|Zb ?_
  exact ⟨k - 1,i+1,by omega,⟨by omega,hk,ha,hb⟩,rfl,rfl,rfl,trivial⟩
 ·have q1:¬ ((i:Int) < (l.length:Int)):=of_decide_eq_false q1
  refine Zc<|Za rfl<|Zb ?_
  exact And.intro trivial (Exists.intro _ (And.intro rfl ⟨rfl,hk⟩))
set_option maxRecDepth 100000 in
theorem Zcx (hlo:lo≤H.next):∃ sa H',FnX Try.prog kn lo 22 [] H (.tuple #[.slice sa 7 7,.agg (Gl.f g0).toArray]) H'∧Sl H' sa 7 7 (cpc cs0)∧Keep H H' []:=by
 have key:=Zp (kn:=kn) (lo:=lo) (H:=H) (args:=[]) (Q:=fun w H'=>∃ sa,w=.tuple #[.slice sa 7 7,.agg (Gl.f g0).toArray]∧Sl H' sa 7 7 (cpc cs0)∧Keep H H' []) Try.func22 B22 N22 Z22 L22 (by simp) ?_
 ·obtain ⟨w,H',h,sa,rfl,r⟩:=key;exact ⟨sa,H',h,r⟩
 have hk:=Keep.refl H []
 refine Zc<|Za rfl<|WN ?_
 intro H1 kH1 nH1 c1
 have c1:Cl H1 H.next [iv 0,iv 0,iv 0,iv 0]:=c1
 have mH1:=kH1.1
 have hk:=hk.trans kH1
 refine Zb<|Zc<|Zg (v:=.agg #[iv 3,iv 2022,iv 1000]) rfl (by kernel_rfl)<|Zg (v:=.agg #[iv 3,iv 2023,iv 1400]) rfl (by kernel_rfl)<|Zg (v:=.agg #[iv 3,iv 2024,iv 900]) rfl (by kernel_rfl)<|Zg (v:=.agg #[iv 3,iv 2025,iv 1301]) rfl (by kernel_rfl)<|Zg (v:=.agg #[iv 8,iv 2024,iv 500]) rfl (by kernel_rfl)<|Zg (v:=.agg #[iv 8,iv 2021,iv 9999]) rfl (by kernel_rfl)<|Zg (v:=.agg #[iv 5,iv 2020,iv 700]) rfl (by kernel_rfl) ?_
 obtain ⟨H2,hH2⟩:∃ H2,H1.new (.cells [iv 3,iv 2022,iv 1000,iv 3,iv 2023,iv 1400,iv 3,iv 2024,iv 900,iv 3,iv 2025,iv 1301,iv 8,iv 2024,iv 500,iv 8,iv 2021,iv 9999,iv 5,iv 2020,iv 700] 52 false)=H2:=⟨_,rfl⟩
 refine Yy (v:=.slice (some ⟨H1.next,0,none⟩) 7 7) (H':=H2) (k:=.heavy) rfl (by kernel_rfl) (Eq.trans (by kernel_rfl:_=some (Rs.val (.slice (some ⟨H1.next,0,none⟩) 7 7) (H1.new (.cells [iv 3,iv 2022,iv 1000,iv 3,iv 2023,iv 1400,iv 3,iv 2024,iv 900,iv 3,iv 2025,iv 1301,iv 8,iv 2024,iv 500,iv 8,iv 2021,iv 9999,iv 5,iv 2020,iv 700] 52 false)),Kd.heavy)) (by rw [hH2])) (fun b e=>by cases e) ?_
 obtain ⟨kH2,nH2,cU⟩:=ZD hH2;clear hH2
 have mH2:=kH2.1
 have hk:=hk.trans kH2
 have c1:=kH2.cl c1 (by simp)
 refine Za rfl<|Zb<|Zc<|Za rfl<|Zg (v:=.agg #[iv 2026,iv 4,iv 2,iv 850]) rfl (by kernel_rfl)<|Za rfl<|W9 (b:=H.next) (o:=0) rfl rfl c1 (by omega) rfl rfl (by simp) ?_
 intro H3 kH3 nH3 sH3
 have mH3:=kH3.1
 have hk:=hk.new kH3 (fun b hb=>by simp at hb ⊢;omega)
 have cU:=kH3.cl cU (by first | (simp;done) | (simp;omega))
 have c1:Cl H3 H.next [iv 2026,iv 4,iv 2,iv 850]:=sH3
 refine Zb ?_
 exact And.intro trivial (Exists.intro _ (And.intro (Zhw rfl rfl a24 Zkb rfl c1) ⟨_,rfl,.inr ⟨_,rfl,cU.rd,Nat.le_refl _⟩,hk⟩))
end
end
end Go.Ax

/-
 Pool: the examples of the document hold (10) (written by program).
-/
namespace Go.Ax
open Go Go.RowKit Go.Proofs

noncomputable section
def q0:List Qt:=[⟨3,1350,1147⟩,⟨8,500,425⟩]
def s0:List Qt:=[⟨3,1350,73⟩,⟨8,500,27⟩]
def a0:List Ac:=[⟨3,1247,1247,53⟩,⟨8,325,325,75⟩]
def ev0:List Ev:=[⟨0,3,0,1000⟩,⟨1,8,3,100⟩,⟨0,3,0,300⟩,⟨0,8,0,400⟩]
theorem awv:vA cs0 g0=true:=by kernel_rfl
theorem awm:mbL g0 cs0=[⟨3,1350⟩,⟨8,500⟩]:=by kernel_rfl
theorem aw1:quL cs0 g0=q0∧quE cs0 g0=0:=by
 unfold quL quE
 rw [if_pos awv,if_pos awv,awm]
 exact ⟨by kernel_rfl,rfl⟩
theorem aw0:∀ m∈mbL g0 cs0,okM m:=by
 rw [awm]
 intro m hm
 simp only [List.mem_cons,List.not_mem_nil,or_false] at hm
 rcases hm with rfl | rfl<;>(unfold okM;simp)
theorem aw2:PcS cs0 g0 1500 811 0:=by
 unfold PcS
 rw [if_pos awv,if_pos (by kernel_rfl)]
 have e1:tot (mbL g0 cs0) 811=1499:=by rw [awm];kernel_rfl
 have e2:tot (mbL g0 cs0) 812=1502:=by rw [awm];kernel_rfl
 refine ⟨rfl,811,rfl,by decide,by omega,fun j hj hd=>?_⟩
 rcases Nat.lt_or_ge 811 j with q | q
 ·have:=ZaD aw0 (show 812≤j from q);omega
 ·exact q
theorem aw4:ShS cs0 g0 100 s0 0:=by
 unfold ShS
 rw [if_pos awv,if_pos (by kernel_rfl),awm,if_neg (by
  intro h
  have:ZW [⟨3,1350⟩,⟨8,500⟩]=1850:=by kernel_rfl
  omega)]
 refine ⟨rfl,[0],⟨by simp,fun p hp=>?_,fun p hp q hq hn=>?_⟩,by kernel_rfl,by kernel_rfl⟩
 ·simp at hp;subst hp;simp
 ·simp at hp hn;subst hp
  have hq1:q=1:=by simp at hq;omega
  subst hq1
  have e1:JX [⟨3,1350⟩,⟨8,500⟩] 100 0 = -1800:=by kernel_rfl
  have e2:JX [⟨3,1350⟩,⟨8,500⟩] 100 1 = -50:=by kernel_rfl
  left;omega
def al0:List Ac:=acs (qtL g0.p (mbL g0 cs0))
theorem Zel:al0=[⟨3,1147,0,0⟩,⟨8,425,0,0⟩]:=by unfold al0;rw [awm];kernel_rfl
theorem aw3:stA al0 ev0 4=a0∧al0.length=2:=by rw [Zel];exact ⟨by kernel_rfl,rfl⟩
theorem ZkQ:∀ j,j < 4→(stp (stA al0 ev0 j) (ev0.getD j Ev.z)).2=0:=by
 rw [Zel]
 have h0:(stp (stA [⟨3,1147,0,0⟩,⟨8,425,0,0⟩] ev0 0) (ev0.getD 0 Ev.z)).2=0:=by kernel_rfl
 have h1:(stp (stA [⟨3,1147,0,0⟩,⟨8,425,0,0⟩] ev0 1) (ev0.getD 1 Ev.z)).2=0:=by kernel_rfl
 have h2:(stp (stA [⟨3,1147,0,0⟩,⟨8,425,0,0⟩] ev0 2) (ev0.getD 2 Ev.z)).2=0:=by kernel_rfl
 have h3:(stp (stA [⟨3,1147,0,0⟩,⟨8,425,0,0⟩] ev0 3) (ev0.getD 3 Ev.z)).2=0:=by kernel_rfl
 intro j hj
 have hj:j=0∨j=1∨j=2∨j=3:=by omega
 rcases hj with rfl | rfl | rfl | rfl
 ·exact h0
 ·exact h1
 ·exact h2
 ·exact h3
abbrev kn0:Kn:=⟨fun _=>none,fun _ _ _ _=>none⟩
section
variable {lo:Nat} {H:Hp}
set_option maxRecDepth 100000 in
set_option maxHeartbeats 2000000 in
theorem awake_C (s:Snd Try.prog kn0) (hlo:lo≤H.next):FnC Try.prog lo 10 [] H fun v _=>v=.bool true:=by
 refine Zcc s Try.func10 B10 N10 Z10 L10 (by simp) ?_
 have hk:=Keep.refl H []
 refine Zv<|Zd rfl<|Zj<|Zv ?_
 obtain ⟨sa,H1,fH1,hs,kH1⟩:=Zcx (kn:=kn0) (lo:=lo) (H:=H) (by omega)
 refine Z5 s (vs:=[]) rfl (YN rfl (by simpa using fH1)) ?_
 have mH1:=kH1.1
 have hk:=hk.trans kH1
 have fs:=hs.old
 refine Zd rfl<|Zo (v:=.slice sa 7 7) rfl (by kernel_rfl)<|Zo (v:=.agg (Gl.f g0).toArray) rfl (by kernel_rfl)<|Zbe ?_
 intro H2 kH2 nH2 c2
 have c2:Cl H2 H1.next [iv 0,iv 0,iv 0,iv 0]:=c2
 have mH2:=kH2.1
 have hk:=hk.trans kH2
 have hs:=kH2.sl0 hs
 refine Zd rfl<|Zbr (b:=H1.next) (o:=0) rfl rfl c2 (by omega) rfl rfl (by simp) ?_
 intro H3 kH3 nH3 sH3
 have mH3:=kH3.1
 have hk:=hk.new kH3 (fun b hb=>by simp at hb ⊢;omega)
 have hs:=kH3.sl hs (fun b e=>by have:=fs b e;first | (simp;done) | (simp;omega))
 have c2:Cl H3 H1.next [iv g0.y,iv g0.k,iv g0.b,iv g0.p]:=sH3
 refine Zj<|Zv<|Zd rfl<|Y3 (b:=H1.next) (o:=0) rfl c2.rd (show row 4 _ _=some [iv g0.y,iv g0.k,iv g0.b,iv g0.p] from rfl)<|YR (t:=.fn (.func 11) #[]) (vs:=[.slice sa 7 7,.agg (Gl.f g0).toArray]) rfl (Yi s.hN (yU (H:=H3) s hs rfl (by omega) (by omega) rfl)) ?_
 rintro _ H4 ⟨uq,rfl,hu,kH4⟩
 rw [aw1.1] at hu
 rw [aw1.2]
 have mH4:=kH4.1
 have hk:=hk.trans kH4
 have hs:=kH4.sl0 hs
 have c2:=kH4.cl c2 (by simp)
 obtain ⟨qa,qcap,rfl,hq,_⟩:=hu.sl
 have fq:=hq.old
 refine Zd rfl<|Zo (v:=.slice qa q0.length qcap) rfl (by kernel_rfl)<|Zo (v:=iv 0) rfl (by kernel_rfl)<|Zd rfl<|Zd rfl<|Zj<|Zv<|Zd rfl<|Y3 (b:=H1.next) (o:=0) rfl c2.rd (show row 4 _ _=some [iv g0.y,iv g0.k,iv g0.b,iv g0.p] from rfl)<|YR (t:=.fn (.func 13) #[]) (vs:=[.slice sa 7 7,.agg (Gl.f g0).toArray,iv 1500]) rfl (Yi s.hN (zj (H:=H4) s hs rfl (by omega) (by omega) rfl)) ?_
 rintro _ H5 ⟨up,ue,rfl,hpc,kH5⟩
 obtain ⟨e1,e2⟩:=hpc.uniq aw2
 rw [e1,e2]
 have mH5:=kH5.1
 have hk:=hk.trans kH5
 have hs:=kH5.sl0 hs
 have c2:=kH5.cl c2 (by simp)
 have hq:=kH5.sl0 hq
 refine Zd rfl<|Zo (v:=iv 811) rfl (by kernel_rfl)<|Zo (v:=iv 0) rfl (by kernel_rfl)<|Zd rfl<|Zd rfl<|Zj<|Zv<|Zd rfl<|Y3 (b:=H1.next) (o:=0) rfl c2.rd (show row 4 _ _=some [iv g0.y,iv g0.k,iv g0.b,iv g0.p] from rfl)<|Zo (v:=.agg #[iv 0,iv 3,iv 0,iv 1000]) rfl (by kernel_rfl)<|Zo (v:=.agg #[iv 1,iv 8,iv 3,iv 100]) rfl (by kernel_rfl)<|Zo (v:=.agg #[iv 0,iv 3,iv 0,iv 300]) rfl (by kernel_rfl)<|Zo (v:=.agg #[iv 0,iv 8,iv 0,iv 400]) rfl (by kernel_rfl) ?_
 obtain ⟨H6,hH6⟩:∃ H6,H5.new (.cells [iv 0,iv 3,iv 0,iv 1000,iv 1,iv 8,iv 3,iv 100,iv 0,iv 3,iv 0,iv 300,iv 0,iv 8,iv 0,iv 400] 49 false)=H6:=⟨_,rfl⟩
 refine Wk (v:=.slice (some ⟨H5.next,0,none⟩) 4 4) (H':=H6) (k:=.heavy) rfl (by kernel_rfl) (Eq.trans (by kernel_rfl:_=some (Rs.val (.slice (some ⟨H5.next,0,none⟩) 4 4) (H5.new (.cells [iv 0,iv 3,iv 0,iv 1000,iv 1,iv 8,iv 3,iv 100,iv 0,iv 3,iv 0,iv 300,iv 0,iv 8,iv 0,iv 400] 49 false)),Kd.heavy)) (by rw [hH6])) (fun b e=>by cases e) ?_
 obtain ⟨kH6,nH6,cE⟩:=ZD hH6;clear hH6
 have mH6:=kH6.1
 have hk:=hk.trans kH6
 have hs:=kH6.sl0 hs
 have c2:=kH6.cl c2 (by simp)
 have hq:=kH6.sl0 hq
 refine YR (t:=.fn (.func 18) #[]) (vs:=[.slice sa 7 7,.agg (Gl.f g0).toArray,.slice (some ⟨H5.next,0,none⟩) 4 4]) rfl (Yi s.hN (ZdC (H:=H6) s hs rfl (by omega) (by omega) rfl awv (by rw [awm];decide) (vs:=ev0) (.inr ⟨_,rfl,cE.rd,Nat.le_refl _⟩) rfl (by omega) ZkQ)) ?_
 rintro _ H7 ⟨ua,rfl,hua,kH7⟩
 have e3:acs (qtL g0.p (mbL g0 cs0))=al0:=rfl
 rw [e3,aw3.1,aw3.2] at hua
 have mH7:=kH7.1
 have hk:=hk.trans kH7
 have hs:=kH7.sl0 hs
 have c2:=kH7.cl c2 (by simp)
 have hq:=kH7.sl0 hq
 have cE:=kH7.cl cE (by simp)
 obtain ⟨pa,pcap,rfl,hpy,_⟩:=hua.sl
 have fp:=hpy.old
 refine Zd rfl<|Zo (v:=.slice pa 2 pcap) rfl (by kernel_rfl)<|Zo (v:=iv ((4:Nat):Int)) rfl (by kernel_rfl)<|Zo (v:=iv 0) rfl (by kernel_rfl)<|Zd rfl<|Zd rfl<|Zd rfl<|Zj<|Zv<|Zd rfl<|Y3 (b:=H1.next) (o:=0) rfl c2.rd (show row 4 _ _=some [iv g0.y,iv g0.k,iv g0.b,iv g0.p] from rfl)<|YR (t:=.fn (.func 15) #[]) (vs:=[.slice sa 7 7,.agg (Gl.f g0).toArray,iv 100]) rfl (Yi s.hN (yy (H:=H7) s hs rfl (by omega) (by omega) rfl)) ?_
 rintro _ H8 ⟨us,ls,es2,rfl,hsh,hsl,kH8⟩
 obtain ⟨e4,e5⟩:=hsh.uniq aw4
 rw [e4] at hsl
 rw [e5]
 have mH8:=kH8.1
 have hk:=hk.trans kH8
 have hs:=kH8.sl0 hs
 have c2:=kH8.cl c2 (by simp)
 have hq:=kH8.sl0 hq
 have cE:=kH8.cl cE (by simp)
 have hpy:=kH8.sl0 hpy
 obtain ⟨ra,rcap,rfl,hr⟩:=hsl
 have fr:=hr.old
 refine Zd rfl<|Zo (v:=.slice ra s0.length rcap) rfl (by kernel_rfl)<|Zo (v:=iv 0) rfl (by kernel_rfl)<|Zd rfl<|Zd rfl<|Zj<|Zv<|Zd rfl<|Zo (v:=.agg #[iv 3,iv 1350,iv 1147]) rfl (by kernel_rfl)<|Zo (v:=.agg #[iv 8,iv 500,iv 425]) rfl (by kernel_rfl) ?_
 obtain ⟨H9,hH9⟩:∃ H9,H8.new (.cells [iv 3,iv 1350,iv 1147,iv 8,iv 500,iv 425] 44 false)=H9:=⟨_,rfl⟩
 refine Wk (v:=.slice (some ⟨H8.next,0,none⟩) 2 2) (H':=H9) (k:=.heavy) rfl (by kernel_rfl) (Eq.trans (by kernel_rfl:_=some (Rs.val (.slice (some ⟨H8.next,0,none⟩) 2 2) (H8.new (.cells [iv 3,iv 1350,iv 1147,iv 8,iv 500,iv 425] 44 false)),Kd.heavy)) (by rw [hH9])) (fun b e=>by cases e) ?_
 obtain ⟨kH9,nH9,cQ⟩:=ZD hH9;clear hH9
 have mH9:=kH9.1
 have hk:=hk.trans kH9
 have hs:=kH9.sl0 hs
 have c2:=kH9.cl c2 (by simp)
 have hq:=kH9.sl0 hq
 have cE:=kH9.cl cE (by simp)
 have hpy:=kH9.sl0 hpy
 have hr:=kH9.sl0 hr
 obtain ⟨H10,fH10,kH10⟩:=Js (kn:=kn0) (lo:=lo) (H:=H9) (l:=q0) hq (pb:=some ⟨H8.next,0,none⟩) (cap2:=2) (.inr ⟨_,rfl,cQ.rd,Nat.le_refl _⟩) (by decide)
 refine Z5 s (v:=.bool true) (vs:=[.slice qa q0.length qcap,.slice (some ⟨H8.next,0,none⟩) 2 2]) rfl (Zh fH10) ?_
 have mH10:=kH10.1
 have hk:=hk.trans kH10
 have hs:=kH10.sl0 hs
 have c2:=kH10.cl c2 (by simp)
 have hq:=kH10.sl0 hq
 have cE:=kH10.cl cE (by simp)
 have hpy:=kH10.sl0 hpy
 have hr:=kH10.sl0 hr
 have cQ:=kH10.cl cQ (by simp)
 refine Zo (v:=.bool false) rfl rfl<|Zd rfl ?_
 refine YT rfl (Zd rfl ?_)
 refine YT rfl (UK (a:=(0:Int)) (b:=(0:Int)) rfl rfl ?_)
 intro t11 ht11
 have t11e:t11=false:=by rw [← ht11];simp
 subst t11e
 refine Zo (v:=.bool false) rfl rfl<|Zd rfl ?_
 refine YT rfl (Zd rfl ?_)
 refine YT rfl (UK (a:=(811:Int)) (b:=(811:Int)) rfl rfl ?_)
 intro t12 ht12
 have t12e:t12=false:=by rw [← ht12];simp
 subst t12e
 refine Zo (v:=.bool false) rfl rfl<|Zd rfl ?_
 refine YT rfl (Zd rfl ?_)
 refine YT rfl (UK (a:=(0:Int)) (b:=(0:Int)) rfl rfl ?_)
 intro t13 ht13
 have t13e:t13=false:=by rw [← ht13];simp
 subst t13e
 refine Zo (v:=.bool false) rfl rfl<|Zj<|ZP ?_
 first | refine YL ?_ | skip
 refine Zv<|Zd rfl<|Zo (v:=.agg #[iv 3,iv 1247,iv 1247,iv 53]) rfl (by kernel_rfl)<|Zo (v:=.agg #[iv 8,iv 325,iv 325,iv 75]) rfl (by kernel_rfl) ?_
 obtain ⟨H14,hH14⟩:∃ H14,H10.new (.cells [iv 3,iv 1247,iv 1247,iv 53,iv 8,iv 325,iv 325,iv 75] 47 false)=H14:=⟨_,rfl⟩
 refine Wk (v:=.slice (some ⟨H10.next,0,none⟩) 2 2) (H':=H14) (k:=.heavy) rfl (by kernel_rfl) (Eq.trans (by kernel_rfl:_=some (Rs.val (.slice (some ⟨H10.next,0,none⟩) 2 2) (H10.new (.cells [iv 3,iv 1247,iv 1247,iv 53,iv 8,iv 325,iv 325,iv 75] 47 false)),Kd.heavy)) (by rw [hH14])) (fun b e=>by cases e) ?_
 obtain ⟨kH14,nH14,cA⟩:=ZD hH14;clear hH14
 have mH14:=kH14.1
 have hk:=hk.trans kH14
 have hs:=kH14.sl0 hs
 have c2:=kH14.cl c2 (by simp)
 have hq:=kH14.sl0 hq
 have cE:=kH14.cl cE (by simp)
 have hpy:=kH14.sl0 hpy
 have hr:=kH14.sl0 hr
 have cQ:=kH14.cl cQ (by simp)
 obtain ⟨H15,fH15,kH15⟩:=Zeh (kn:=kn0) (lo:=lo) (H:=H14) (l:=a0) (pa:=pa) (cap1:=pcap) hpy (pb:=some ⟨H10.next,0,none⟩) (cap2:=2) (.inr ⟨_,rfl,cA.rd,Nat.le_refl _⟩) (by decide)
 refine Z5 s (v:=.bool true) (vs:=[.slice pa 2 pcap,.slice (some ⟨H10.next,0,none⟩) 2 2]) rfl (Zh fH15) ?_
 have mH15:=kH15.1
 have hk:=hk.trans kH15
 have hs:=kH15.sl0 hs
 have c2:=kH15.cl c2 (by simp)
 have hq:=kH15.sl0 hq
 have cE:=kH15.cl cE (by simp)
 have hpy:=kH15.sl0 hpy
 have hr:=kH15.sl0 hr
 have cQ:=kH15.cl cQ (by simp)
 have cA:=kH15.cl cA (by simp)
 refine Zo (v:=.bool false) rfl rfl<|Zd rfl ?_
 refine YT rfl (Zd rfl ?_)
 refine YT rfl (UK (a:=(4:Int)) (b:=(4:Int)) rfl rfl ?_)
 intro t16 ht16
 have t16e:t16=false:=by rw [← ht16];simp
 subst t16e
 refine Zo (v:=.bool false) rfl rfl<|Zd rfl ?_
 refine YT rfl (Zd rfl ?_)
 refine YT rfl (UK (a:=(0:Int)) (b:=(0:Int)) rfl rfl ?_)
 intro t17 ht17
 have t17e:t17=false:=by rw [← ht17];simp
 subst t17e
 refine Zo (v:=.bool false) rfl rfl<|Zj<|ZP ?_
 first | refine YL ?_ | skip
 refine Zv<|Zd rfl<|Zo (v:=.agg #[iv 3,iv 1350,iv 73]) rfl (by kernel_rfl)<|Zo (v:=.agg #[iv 8,iv 500,iv 27]) rfl (by kernel_rfl) ?_
 obtain ⟨H18,hH18⟩:∃ H18,H15.new (.cells [iv 3,iv 1350,iv 73,iv 8,iv 500,iv 27] 44 false)=H18:=⟨_,rfl⟩
 refine Wk (v:=.slice (some ⟨H15.next,0,none⟩) 2 2) (H':=H18) (k:=.heavy) rfl (by kernel_rfl) (Eq.trans (by kernel_rfl:_=some (Rs.val (.slice (some ⟨H15.next,0,none⟩) 2 2) (H15.new (.cells [iv 3,iv 1350,iv 73,iv 8,iv 500,iv 27] 44 false)),Kd.heavy)) (by rw [hH18])) (fun b e=>by cases e) ?_
 obtain ⟨kH18,nH18,cS⟩:=ZD hH18;clear hH18
 have mH18:=kH18.1
 have hk:=hk.trans kH18
 have hs:=kH18.sl0 hs
 have c2:=kH18.cl c2 (by simp)
 have hq:=kH18.sl0 hq
 have cE:=kH18.cl cE (by simp)
 have hpy:=kH18.sl0 hpy
 have hr:=kH18.sl0 hr
 have cQ:=kH18.cl cQ (by simp)
 have cA:=kH18.cl cA (by simp)
 obtain ⟨H19,fH19,kH19⟩:=Js (kn:=kn0) (lo:=lo) (H:=H18) (l:=s0) hr (pb:=some ⟨H15.next,0,none⟩) (cap2:=2) (.inr ⟨_,rfl,cS.rd,Nat.le_refl _⟩) (by decide)
 refine Z5 s (v:=.bool true) (vs:=[.slice ra s0.length rcap,.slice (some ⟨H15.next,0,none⟩) 2 2]) rfl (Zh fH19) ?_
 have mH19:=kH19.1
 have hk:=hk.trans kH19
 have hs:=kH19.sl0 hs
 have c2:=kH19.cl c2 (by simp)
 have hq:=kH19.sl0 hq
 have cE:=kH19.cl cE (by simp)
 have hpy:=kH19.sl0 hpy
 have hr:=kH19.sl0 hr
 have cQ:=kH19.cl cQ (by simp)
 have cA:=kH19.cl cA (by simp)
 have cS:=kH19.cl cS (by simp)
 refine Zd rfl ?_
 refine YT rfl (Zd rfl ?_)
 refine YT rfl (ZeN (a:=(0:Int)) (b:=(0:Int)) rfl rfl ?_)
 intro t20 ht20
 have t20e:t20=true:=by rw [← ht20];simp
 subst t20e
 refine Zo (v:=.bool true) rfl rfl<|Zd rfl<|Zj ?_
 exact And.intro trivial (Exists.intro _ (And.intro rfl rfl))
end
end
end Go.Ax

/-
 Proved here: 'awake',the closed part that every law of quota ends in,returns true in every world,whatever is drawn,and leaves what lay below as it was. Conditions: none.
 It has no arguments;it is worked out by the contracts of the functions that it calls (K25).
-/
namespace Go.Ax
open Go Go.RowKit
theorem known_one {P:Program} {g:FuncId} {t:Bool} (hb:((P.funcs[g]?).bind (fun fn=>fn.body)).isSome=true) (hc:∀ w,Calls P g #[] w fun e w'=>e=.returned (.bool t)∧Below w.heap.size w w') :
  Known P ⟨fun f=>bif Nat.beq f g then some t else none,fun _ _ _ _=>none⟩:=by
 refine ⟨?_,fun f lo args H v H' _ h=>by cases h⟩
 intro f b h
 obtain ⟨hf,h1⟩:=Zf h
 clear h
 have hf:=Nat.eq_of_beq_eq_true hf
 subst hf
 cases h1
 refine ⟨?_,hc⟩
 cases hx:P.funcs[f]? with
 | none=>rw [hx] at hb;cases hb
 | some fn=>
  rw [hx] at hb
  cases hy:fn.body with
  | none=>rw [Option.bind_some,hy] at hb;cases hb
  | some c=>exact ⟨fn,c,rfl,hy⟩
theorem known_nothing {P:Program}:Known P ⟨fun _=>none,fun _ _ _ _=>none⟩:=⟨qE.nothing P,fun f lo args H v H' _ h=>by cases h⟩
end Go.Ax
namespace Go.Proofs.Ytobbfhkodccclaa.alive
open Go.RowKit
theorem ZgB:Try.prog.follows .mixedOrders=true:=by kernel_rfl
theorem ZbD : (Try.prog.funcs.toList.all fun fn => !(fn.name == "runtime.NumGoroutine")) = true := by kernel_rfl
theorem Zcr:Go.Ax.NoCount Try.prog:=fun f fn h=>by
 have h2:=List.all_eq_true.1 ZbD fn (by
  have:=Array.mem_of_getElem? h
  simpa using this)
 simpa using h2
theorem call (w:World):Calls Try.prog 10 #[] w fun e w'=>e=.returned (.bool true)∧Below w.heap.size w w':=
 Go.Ax.closed_callC (Go.Ax.awake_C ⟨ZgB,Zcr,Go.Ax.known_nothing⟩ (Nat.zero_le _)) w
theorem zd:Go.Ax.Known Try.prog ⟨fun f=>bif Nat.beq f 10 then some true else none,fun _ _ _ _=>none⟩:=Go.Ax.known_one (by kernel_rfl) call
theorem snd:Go.Ax.Snd Try.prog ⟨fun f=>bif Nat.beq f 10 then some true else none,fun _ _ _ _=>none⟩:=⟨ZgB,Zcr,zd⟩
end Go.Proofs.Ytobbfhkodccclaa.alive

/-
 Pool: the law QuotaBases,whatever the input (written by program).
-/
namespace Go.Ax
open Go Go.RowKit Go.Proofs

noncomputable section
theorem Ze9 {cs:List Cp} {g:Gl}:(quL cs g).length≤cs.length:=by
 unfold quL
 split
 ·rename_i h;rw [X7];exact Vo (JJ h).1
 ·simp
theorem ShS.len {cs:List Cp} {g:Gl} {tot e:Int} {l:List Qt} (h:ShS cs g tot l e):l.length≤cs.length:=by
 unfold ShS at h
 split at h
 ·rename_i hv
  split at h
  ·split at h
   ·rw [h.1];simp
   ·obtain ⟨_,ps,_,_,el⟩:=h
    rw [el,Vl];exact Vo (JJ hv).1
  ·rw [h.1];simp
 ·rw [h.1];simp
theorem ZeY {n:Nat} (h:XR n=false):n≤260:=by
 simp only [XR,Bool.or_eq_false_iff,Bool.and_eq_false_iff,decide_eq_false_iff_not] at h
 omega
section
variable {kn:Kn} {lo:Nat} {H:Hp}
set_option maxRecDepth 100000 in
set_option maxHeartbeats 4000000 in
theorem ZcG (s:Snd Try.prog kn) (hkn:kn.b 10=some true) {cs:List Cp} {sa:Option Addr} {n cap:Nat} (hs:Sl H sa n cap (cpc cs)) (hl:cs.length=n) {g:Gl} {dm tot:Int} (hlo:lo≤H.next):FnC Try.prog lo 3 [.slice sa n cap,.agg (Gl.f g).toArray,iv dm,iv tot] H fun v _=>v=.bool true:=by
 refine Zcc s Try.func3 B3 N3 Z3 L3 (by simp) ?_
 have hk:=Keep.refl H []
 have fs:=hs.old
 refine Zv<|UN (v:=.agg (Gl.f g).toArray) rfl ?_
 intro H1 kH1 nH1 c1
 have c1:Cl H1 H.next [iv g.y,iv g.k,iv g.b,iv g.p]:=c1
 have mH1:=kH1.1
 have hk:=hk.trans kH1
 have hs:=kH1.sl0 hs
 refine Zd rfl<|Zj<|Zv<|Zd rfl<|XB s rfl (Ze4 (sa:=sa) (n:=n) (cap:=cap)) ?_
 intro tH2 H2 hH2 kH2
 have mH2:=kH2.1
 have hk:=hk.trans kH2
 have hs:=kH2.sl0 hs
 have c1:=kH2.cl c1 (by simp)
 cases tH2
 ·have hmn:XR n=false:=hH2
  have hn:=ZeY hmn
  refine Zj<|ZP ?_
  first | refine YL ?_ | skip
  refine Zv<|Zd rfl<|Y3 (b:=H.next) (o:=0) rfl c1.rd (show row 4 _ _=some [iv g.y,iv g.k,iv g.b,iv g.p] from rfl)<|YR (t:=.fn (.func 11) #[]) (vs:=[.slice sa n cap,.agg (Gl.f g).toArray]) rfl (Yi s.hN (yU (H:=H2) s hs hl (by omega) (by omega) hmn)) ?_
  rintro _ H3 ⟨uq,rfl,hu,kH3⟩
  have mH3:=kH3.1
  have hk:=hk.trans kH3
  have hs:=kH3.sl0 hs
  have c1:=kH3.cl c1 (by simp)
  obtain ⟨qa,qcap,rfl,hq,_⟩:=hu.sl
  have fq:=hq.old
  refine Zd rfl<|Zo (v:=.slice qa ((quL cs g).length) qcap) rfl (by kernel_rfl)<|Zo (v:=iv (quE cs g)) rfl (by kernel_rfl)<|Zd rfl<|Zd rfl<|Zj<|Zv<|Zd rfl<|Y3 (b:=H.next) (o:=0) rfl c1.rd (show row 4 _ _=some [iv g.y,iv g.k,iv g.b,iv g.p] from rfl) ?_
  obtain ⟨uq2,H4,fH4,hu2,kH4⟩:=qD (kn:=kn) (lo:=lo) (H:=H3) hs hl (by omega) (by omega) (g:=g)
  obtain ⟨qb,qcapb,rfl,hqb,_⟩:=hu2.sl
  have fqb:=hqb.old
  refine Z5 s (vs:=[.slice sa n cap,.agg (Gl.f g).toArray]) rfl (Zh fH4) ?_
  have mH4:=kH4.1
  have hk:=hk.trans kH4
  have hs:=kH4.sl0 hs
  have c1:=kH4.cl c1 (by simp)
  have hq:=kH4.sl0 hq
  refine Zd rfl<|Zo (v:=.slice qb ((quL cs g).length) qcapb) rfl (by kernel_rfl)<|Zo (v:=iv (quE cs g)) rfl (by kernel_rfl)<|Zd rfl<|Zd rfl<|Zj<|Zv<|Zd rfl<|Y3 (b:=H.next) (o:=0) rfl c1.rd (show row 4 _ _=some [iv g.y,iv g.k,iv g.b,iv g.p] from rfl)<|Zd rfl<|YR (t:=.fn (.func 13) #[]) (vs:=[.slice sa n cap,.agg (Gl.f g).toArray,iv dm]) rfl (Yi s.hN (zj (H:=H4) s hs hl (by omega) (by omega) hmn (dm:=dm))) ?_
  rintro _ H5 ⟨up,ue,rfl,hpc,kH5⟩
  have mH5:=kH5.1
  have hk:=hk.trans kH5
  have hs:=kH5.sl0 hs
  have c1:=kH5.cl c1 (by simp)
  have hq:=kH5.sl0 hq
  have hqb:=kH5.sl0 hqb
  refine Zd rfl<|Zo (v:=iv up) rfl (by kernel_rfl)<|Zo (v:=iv ue) rfl (by kernel_rfl)<|Zd rfl<|Zd rfl<|Zj<|Zv<|Zd rfl<|Y3 (b:=H.next) (o:=0) rfl c1.rd (show row 4 _ _=some [iv g.y,iv g.k,iv g.b,iv g.p] from rfl)<|Zd rfl ?_
  obtain ⟨up2,ue2,H6,fH6,hpc2,kH6⟩:=yp (kn:=kn) (lo:=lo) (H:=H5) hs hl (by omega) (by omega) (g:=g) (dm:=dm)
  obtain ⟨e1,e2⟩:=hpc2.uniq hpc
  subst e1 e2
  refine Z5 s (vs:=[.slice sa n cap,.agg (Gl.f g).toArray,iv dm]) rfl (Zh fH6) ?_
  have mH6:=kH6.1
  have hk:=hk.trans kH6
  have hs:=kH6.sl0 hs
  have c1:=kH6.cl c1 (by simp)
  have hq:=kH6.sl0 hq
  have hqb:=kH6.sl0 hqb
  refine Zd rfl<|Zo (v:=iv up2) rfl (by kernel_rfl)<|Zo (v:=iv ue2) rfl (by kernel_rfl)<|Zd rfl<|Zd rfl<|Zj<|Zv<|Zd rfl<|Y3 (b:=H.next) (o:=0) rfl c1.rd (show row 4 _ _=some [iv g.y,iv g.k,iv g.b,iv g.p] from rfl)<|Zd rfl<|YR (t:=.fn (.func 15) #[]) (vs:=[.slice sa n cap,.agg #[iv g.y,iv g.k,iv g.b,iv g.p],iv tot]) rfl (Yi s.hN (yy (H:=H6) s hs hl (by omega) (by omega) hmn (tot:=tot))) ?_
  rintro _ H7 ⟨us,ls,es,rfl,hsh,hsl,kH7⟩
  have mH7:=kH7.1
  have hk:=hk.trans kH7
  have hs:=kH7.sl0 hs
  have c1:=kH7.cl c1 (by simp)
  have hq:=kH7.sl0 hq
  have hqb:=kH7.sl0 hqb
  obtain ⟨ra,rcap,rfl,hr⟩:=hsl
  have fr:=hr.old
  refine Zd rfl<|Zo (v:=.slice ra ls.length rcap) rfl (by kernel_rfl)<|Zo (v:=iv es) rfl (by kernel_rfl)<|Zd rfl<|Zd rfl<|Zj<|Zv<|Zd rfl<|Y3 (b:=H.next) (o:=0) rfl c1.rd (show row 4 _ _=some [iv g.y,iv g.k,iv g.b,iv g.p] from rfl)<|Zd rfl ?_
  obtain ⟨us2,ls2,es2,H8,fH8,hsh2,hsl2,kH8⟩:=qN (kn:=kn) (lo:=lo) (H:=H7) hs hl (by omega) (by omega) (g:=g) (tot:=tot)
  obtain ⟨e3,e4⟩:=hsh2.uniq hsh
  subst e3 e4
  obtain ⟨rb,rcapb,rfl,hrb⟩:=hsl2
  have frb:=hrb.old
  refine Z5 s (vs:=[.slice sa n cap,.agg (Gl.f g).toArray,iv tot]) rfl (Zh fH8) ?_
  have mH8:=kH8.1
  have hk:=hk.trans kH8
  have hs:=kH8.sl0 hs
  have c1:=kH8.cl c1 (by simp)
  have hq:=kH8.sl0 hq
  have hqb:=kH8.sl0 hqb
  have hr:=kH8.sl0 hr
  refine Zd rfl<|Zo (v:=.slice rb ls2.length rcapb) rfl (by kernel_rfl)<|Zo (v:=iv es2) rfl (by kernel_rfl)<|Zd rfl<|Zd rfl<|Zj<|Zv<|Zd rfl<|Zd rfl ?_
  obtain ⟨H9,fH9,kH9⟩:=Js (kn:=kn) (lo:=lo) (H:=H8) hq hqb (Nat.le_trans Ze9 (by omega))
  refine Z5 s (v:=.bool true) (vs:=[.slice qa ((quL cs g).length) qcap,.slice qb ((quL cs g).length) qcapb]) rfl (Zh fH9) ?_
  have mH9:=kH9.1
  have hk:=hk.trans kH9
  have hs:=kH9.sl0 hs
  have c1:=kH9.cl c1 (by simp)
  have hq:=kH9.sl0 hq
  have hqb:=kH9.sl0 hqb
  have hr:=kH9.sl0 hr
  have hrb:=kH9.sl0 hrb
  refine Zd rfl ?_
  refine YT rfl (Zd rfl ?_)
  refine YT rfl (Zd rfl ?_)
  refine YT rfl (qZ (a:=quE cs g) rfl rfl ?_)
  refine Zo (v:=.bool true) rfl rfl<|Zd rfl ?_
  refine YT rfl (Zd rfl ?_)
  refine YT rfl (Zd rfl ?_)
  refine YT rfl (qZ (a:=up2) rfl rfl ?_)
  refine Zo (v:=.bool true) rfl rfl<|Zd rfl ?_
  refine YT rfl (Zd rfl ?_)
  refine YT rfl (Zd rfl ?_)
  refine YT rfl (qZ (a:=ue2) rfl rfl ?_)
  refine Zo (v:=.bool true) rfl rfl<|Zd rfl ?_
  refine YT rfl (Zd rfl ?_)
  refine YT rfl (Zd rfl ?_)
  obtain ⟨H10,fH10,kH10⟩:=Js (kn:=kn) (lo:=lo) (H:=H9) hr hrb (Nat.le_trans hsh2.len (by omega))
  refine YT rfl (Z5 s (v:=.bool true) (vs:=[.slice ra ls2.length rcap,.slice rb ls2.length rcapb]) rfl (Zh fH10) ?_)
  have mH10:=kH10.1
  have hk:=hk.trans kH10
  have hs:=kH10.sl0 hs
  have c1:=kH10.cl c1 (by simp)
  have hq:=kH10.sl0 hq
  have hqb:=kH10.sl0 hqb
  have hr:=kH10.sl0 hr
  have hrb:=kH10.sl0 hrb
  refine Zo (v:=.bool true) rfl rfl<|Zd rfl ?_
  refine YT rfl (Zd rfl ?_)
  refine YT rfl (Zd rfl ?_)
  refine YT rfl (qZ (a:=es2) rfl rfl ?_)
  refine Zo (v:=.bool true) rfl rfl<|Zd rfl ?_
  refine YT rfl (Z5 s (vs:=[]) rfl (Kp hkn) ?_)
  refine Zo (v:=.bool true) rfl rfl<|Zd rfl<|Zj ?_
  exact And.intro trivial (Exists.intro _ (And.intro rfl rfl))
 ·refine Zj<|Yz<|Zv<|Z5 s (vs:=[]) rfl (Kp hkn)<|Zd rfl<|Zj ?_
  exact And.intro trivial (Exists.intro _ (And.intro rfl rfl))
end
end
end Go.Ax

/-! What is Z1 as arguments. -/
namespace Go.Ax
open Go Go.RowKit Go.Proofs Go.ChangeShapes Go.WideShapes Go.Deep

theorem qG {P:Program} (pre:List Imp) {w:World} (h:∀ x∈pre,∀ (i:Nat) v,x.cs[i]? = some v→w.cell? ⟨x.blk,x.off+i,none⟩=some v∧Xs v=true) :
  ∃ (r:Ren) (H:Hp),Rel P r w.heap.size H w∧(∀ b loc,r b=some loc→b < H.next)∧(∀ (b:Nat) x,pre[b]? = some x→b < H.next∧r b=some ⟨x.blk,x.off,none⟩∧H.t.get b=some (.ro x.cs)):=by
 obtain ⟨r,H,h1,h2,h3,h4,h5⟩:=Zdm (P:=P) pre [] w h (fun x hx=>by simp at hx)
 refine ⟨r,H,h1,h3,fun b x hx=>?_⟩
 have:=KZ hx
 obtain ⟨a,c⟩:=h5 b x (by simpa using hx)
 exact ⟨by rw [h2];simpa using this,a,c⟩
end Go.Ax


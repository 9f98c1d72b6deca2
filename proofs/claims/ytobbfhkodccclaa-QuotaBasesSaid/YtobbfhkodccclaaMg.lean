import Derived.Test.YtobbfhkodccclaaMf
set_option linter.all false
/-
 Pool: gather: the amounts of each grower,in a map (44) (written by program).
-/
namespace Go.Ax
open Go Go.RowKit Go.Proofs

noncomputable section
section
variable {P:Program} {kn:Kn} {lo n:Nat} {r:List RO} {S:Rg} {H:Hp} {K:Rg→Hp→Prop} {d:Option Nat} {rd:Bool} {masks:List Nat}
theorem Zaq {ops:List RO} {K:Exit→Rg→Hp→Prop} (h:Zw P kn lo n masks ops [] S H fun S' H'=>K .normal S' H'):wCM P kn lo n rd (.dreg ops masks) S H K:=.inl h
theorem Zd7 {id:Nat} {ops:List RO} {K:Exit→Rg→Hp→Prop} (h:Zw P kn lo n masks ops [] S H fun S' H'=>K .normal S' H'):wCM P kn lo n rd (.block id (.dreg ops masks)) S H K:=.inl h
theorem ZdX {id:Nat} {ops:List RO} {c:RC} {K:Exit→Rg→Hp→Prop} (h:Zw P kn lo n masks ops [] S H fun S' H'=>wCM P kn lo n rd c S' H' K):wCM P kn lo n rd (.seq (.block id (.dreg ops masks)) c) S H K:=.inl h
theorem XB (s:Snd P kn) {c:Call} {f:FuncId} {v:Value} {args:List Value} {t0:Bool} (ht:YP S c=some (.fn (.func f) #[],v :: args)) (h:∃ H',FnX P kn lo f (v :: args) H (.bool t0) H'∧Keep H H' [])
  (hk:∀ t H',t0=t→Keep H H' []→Zr P kn lo n r (Zy S d (.bool t)) H' K) (hs:We f=false:=by rfl):Zr P kn lo n (⟨d,none,.call c true⟩ :: r) S H K:=by
 obtain ⟨H',hf,k⟩:=h
 exact Z5 s ht (Zh hf hs) (hk t0 H' rfl k)
end
theorem JW {P:Program} {lo:Nat} {H:Hp} {t0 t1 e ep:TypeId} {size k cap2 f:Nat} {a:Option Addr} {v:Value} {cs news:List Value} (he:ZT P t0=some (e,size)) (ht:P.underlying t1=some (.slice ep))
  (hs:Sl H a 1 cap2 news) (hl:news.length=1 * size) (hz:0 < size) (hone:news.all one=true) (hcl:cs.length=k * size) (hk:k < 1000) (ha:Acc lo f e H v k cs) (hlo:lo≤H.next) (hf:f≤H.next) :
  ∃ H1 kd,(∀ (n:Nat) (S:Rg) (d:Option Tmp) (x y:Operand) (ty:TypeId) (p:String),evS S x=some v→evS S y=some (.slice a 1 cap2)→Zq P lo (frS n S) H ⟨d,.call ⟨.builtin .append,#[x,y],#[t0,t1]⟩,ty,p,#[],none⟩=some (.val (.slice (some ⟨H.next,0,none⟩) (k+1) (k+1)) H1,kd))∧(kd=.heavy∨∃ b,kd=.store b∧f≤b∧bkv v=some b)∧
   Acc lo f e H1 (.slice (some ⟨H.next,0,none⟩) (k+1) (k+1)) (k+1) (cs ++ news)∧YW f H H1∧(∀ (w:Value) (m:Nat) (ds:List Value),Acc lo f e H w m ds→Ap v w→Acc lo f e H1 w m ds):=by
 rcases ha with ⟨rfl,rfl,rfl⟩ | ⟨b,rfl,h0,hb,hlb,hn,hg⟩
 ·refine ⟨H.new (.cells news e true),.heavy,?_,.inl rfl,?_,YW.of (ZD rfl).1 hf,fun w m ds hw _=>hw.keep (ZD rfl).1⟩
  ·intro n S d x y ty p hx hy
   unfold Zq
   simp only [evs,ZX,hx,hy,Yg,List.getElem?_toArray,List.getElem?_cons_zero,List.getElem?_cons_succ,he,ht,Uy hs hl,Z0]
   rfl
  ·refine .inr ⟨H.next,rfl,by omega,hf,hlo,Nat.lt_succ_self _,?_⟩
   show (H.t.set H.next _).get H.next=_
   rw [Tr.get_set,if_pos rfl];rfl
 ·have h1:Nat.ble (0+(k+1) * size) cs.length=false:=by
   cases h:Nat.ble (0+(k+1) * size) cs.length with
   | false=>rfl
   | true=>have:=Nat.le_of_ble_eq_true h;rw [hcl,Nat.succ_mul] at this;omega
  have h2:Nat.beq (0+k * size) cs.length=true:=by rw [hcl,Nat.zero_add];exact Nat.beq_refl _
  have h3:Nat.ble (k+1) 1048576=true:=Nat.ble_eq_true_of_le (by omega)
  have h4:Nat.beq e e=true:=Nat.beq_refl e
  refine ⟨({ H with t:=H.t.set b .dead }:Hp).new (.cells (cs ++ news) e true),.store b,?_,.inr ⟨b,rfl,hb,rfl⟩,?_,?_,?_⟩
  ·intro n S d x y ty p hx hy
   unfold Zq
   simp only [evs,ZX,hx,hy,Yg,List.getElem?_toArray,List.getElem?_cons_zero,List.getElem?_cons_succ,he,ht,Uy hs hl,Z0,hg,h1,h2,h3,h4,hone,Nat.ble_eq_true_of_le hlb,Bool.and_self,cond_true,cond_false,List.drop_zero,show Nat.beq 1 0=false from rfl]
  ·refine .inr ⟨H.next,rfl,by omega,hf,hlo,Nat.lt_succ_self _,?_⟩
   show ((H.t.set b .dead).set H.next _).get H.next=_
   rw [Tr.get_set,if_pos rfl]
  ·exact QD hb hf
  ·intro w m ds hw hap
   rcases hw with h | ⟨b2,rfl,q1,q2,q3,q4,q5⟩
   ·exact .inl h
   ·have hne:b≠b2:=hap b b2 rfl rfl
    refine .inr ⟨b2,rfl,q1,q2,q3,Nat.lt_succ_of_lt q4,?_⟩
    show ((H.t.set b .dead).set H.next _).get b2=_
    rw [Tr.get_set,if_neg (by omega),Tr.get_set,if_neg (fun e=>hne e.symm)]
    exact q5
section
variable {P:Program} {lo:Nat} {H:Hp} {α:Type} [DecidableEq α] {enc:α→Value}
theorem Zbv {tm tk te:TypeId} (k:XL P tk enc) (hu:P.underlying tm=some (.map tk te)) {b c:Nat} {L:ML α} {a:α} {v:Value} (hm:Mqa enc H b L c) (hl:lo≤b) :
  ∃ H',(∀ (S:Rg) (n:Nat) x y w dd ty p,evS S x=some (.map (some b))→evS S y=some (enc a)→evS S w=some v→Zq P lo (frS n S) H ⟨dd,.mapUpdate tm x y w,ty,p,#[],none⟩=some (.skip H',.store b))∧Keep H H' [b]∧H'.next=H.next∧Mqa enc H' b (Xp a v c L) (Xd a c L):=by
 obtain ⟨k1,k2⟩:=Jf (H:=H) (b:=b) (o:=.mq (mEs enc (Xp a v c L)) (Xd a c L)) (fun cs e=>by cases e)
 exact ⟨_,fun S n x y w dd ty p hx hy hw=>ZcS k hu hx hy hw hm hl,k1,rfl,hm.1,k2⟩
theorem YW.mqa {f:Nat} {H H1:Hp} {b:Nat} {L:ML α} {c:Nat} (k:YW f H H1) (h:Mqa enc H b L c) (hb:b < f):Mqa enc H1 b L c:=⟨Nat.lt_of_lt_of_le h.1 k.le,by rw [k.same b hb];exact h.2⟩
theorem Acc.keepB {lo f f2:Nat} {e:TypeId} {H H1:Hp} {v:Value} {n:Nat} {cs:List Value} (h:Acc lo f e H v n cs) (k:YW f2 H H1) (hx:∀ b,bkv v=some b→b < f2):Acc lo f e H1 v n cs:=
 h.imp id fun ⟨b,e1,h0,hf,hl,hn,hg⟩=>⟨b,e1,h0,hf,hl,Nat.lt_of_lt_of_le hn k.le,by rw [k.same b (hx b (by rw [e1];rfl))];exact hg⟩
theorem Acc.keepN {lo f:Nat} {e:TypeId} {H H1:Hp} {v:Value} {n bd:Nat} {cs:List Value} (h:Acc lo f e H v n cs) (k:Keep H H1 [bd]) (hx:∀ b,bkv v=some b→b≠bd):Acc lo f e H1 v n cs:=
 h.imp id fun ⟨b,e1,h0,hf,hl,hn,hg⟩=>⟨b,e1,h0,hf,hl,Nat.lt_of_lt_of_le hn k.1,by rw [k.2 b hn (by have:=hx b (by rw [e1];rfl);simpa using this)];exact hg⟩
theorem Acc.lt {lo f:Nat} {e:TypeId} {H:Hp} {v:Value} {n:Nat} {cs:List Value} (h:Acc lo f e H v n cs) (b:Nat) (hb:bkv v=some b):b < H.next:=by
 rcases h with ⟨_,_,rfl⟩ | ⟨b2,rfl,_,_,_,hn,_⟩
 ·cases hb
 ·cases hb;exact hn
end
theorem Zgy:Try.prog.underlying 80=some (.map 3 67):=by kernel_rfl
theorem ZgG:ZK Try.prog (zeroValue 67)=some (.slice none 0 0):=by kernel_rfl
structure Gat (lo f:Nat) (g:Gl) (cs:List Cp) (H:Hp) (L:ML Int) (c:Nat):Prop where
 wf:WfA L c
 key:∀ x,(Yk x L).isSome=true↔ZJ g x cs≠[]
 val:∀ x v,Yk x L=some v→Acc lo f 3 H v (ZJ g x cs).length (cI (ZJ g x cs))
 ap:∀ x y v w,x≠y→Yk x L=some v→Yk y L=some w→Ap v w
theorem Gat.nil {lo f:Nat} {g:Gl} {H:Hp}:Gat lo f g [] H [] 0:=⟨WfA.nil,fun x=>by simp [Yk,ZJ],(fun x v h=>by cases h),(fun x y v w _ h=>by cases h)⟩
theorem Gat.keep {lo f:Nat} {g:Gl} {cs:List Cp} {H H1:Hp} {L:ML Int} {c:Nat} (h:Gat lo f g cs H L c) (k:Keep H H1 []):Gat lo f g cs H1 L c:=⟨h.wf,h.key,fun x v e=>(h.val x v e).keep k,h.ap⟩
theorem Gat.keepW {lo f b:Nat} {g:Gl} {cs:List Cp} {H H1:Hp} {L:ML Int} {c:Nat} (h:Gat lo f g cs H L c) (k:Keep H H1 [b]) (hb:b < f):Gat lo f g cs H1 L c:=⟨h.wf,h.key,fun x v e=>(h.val x v e).keepW k hb,h.ap⟩
theorem Gat.at' {lo f:Nat} {g:Gl} {cs:List Cp} {H:Hp} {L:ML Int} {c:Nat} (h:Gat lo f g cs H L c) (x:Int):Acc lo f 3 H ((Yk x L).getD (.slice none 0 0)) (ZJ g x cs).length (cI (ZJ g x cs)):=by
 cases e:Yk x L with
 | some v=>exact h.val x v e
 | none=>
  have:ZJ g x cs=[]:=Classical.byContradiction fun q=>by have:=(h.key x).2 q;rw [e] at this;cases this
  rw [this];exact .inl ⟨rfl,rfl,rfl⟩
theorem Zg0 {g:Gl} {x:Int} {c:Cp} (h:inY g c=false):okX g x c=false:=by simp [okX,h]
theorem ZgJ {g:Gl} {x:Int} {c:Cp} (h:c.r≠x):okX g x c=false:=by simp [okX,h]
theorem Gat.no {lo f:Nat} {g:Gl} {cs:List Cp} {i:Nat} {H:Hp} {L:ML Int} {c:Nat} (h:Gat lo f g (cs.take i) H L c) (hi:i < cs.length) (hy:inY g (cs.getD i Cp.z)=false):Gat lo f g (cs.take (i+1)) H L c:=by
 have e:∀ x,ZJ g x (cs.take (i+1))=ZJ g x (cs.take i):=fun x=>KS hi (Zg0 hy)
 exact ⟨h.wf,fun x=>by rw [e];exact h.key x,fun x v q=>by rw [e];exact h.val x v q,h.ap⟩
theorem Gat.yes {lo f:Nat} {g:Gl} {cs:List Cp} {i:Nat} {H H1:Hp} {L:ML Int} {c j1 j2:Nat} (h:Gat lo f g (cs.take i) H L c) (hi:i < cs.length) (hy:inY g (cs.getD i Cp.z)=true) {v0:Value} (e0:v0=(Yk (cs.getD i Cp.z).r L).getD (.slice none 0 0))
  (q3:Acc lo f 3 H1 (.slice (some ⟨H.next,0,none⟩) j1 j2) ((ZJ g (cs.getD i Cp.z).r (cs.take i)).length+1) (cI (ZJ g (cs.getD i Cp.z).r (cs.take i)) ++ [iv (cs.getD i Cp.z).a]))
  (q5:∀ (w:Value) (m:Nat) (ds:List Value),Acc lo f 3 H w m ds→Ap v0 w→Acc lo f 3 H1 w m ds) :
  Gat lo f g (cs.take (i+1)) H1 (Xp (cs.getD i Cp.z).r (.slice (some ⟨H.next,0,none⟩) j1 j2) c L) (Xd (cs.getD i Cp.z).r c L):=by
 have e1:ZJ g (cs.getD i Cp.z).r (cs.take (i+1))=ZJ g (cs.getD i Cp.z).r (cs.take i) ++ [(cs.getD i Cp.z).a]:=zw hi (by unfold okX;rw [hy];simp)
 have e2:∀ x,x≠(cs.getD i Cp.z).r→ZJ g x (cs.take (i+1))=ZJ g x (cs.take i):=fun x hx=>KS hi (ZgJ fun q=>hx q.symm)
 have ha:∀ y w,y≠(cs.getD i Cp.z).r→Yk y L=some w→Ap v0 w:=by
  intro y w hy e
  cases q:Yk (cs.getD i Cp.z).r L with
  | none=>rw [q] at e0;subst e0;intro b c h;cases h
  | some u=>rw [q] at e0;subst e0;exact h.ap _ _ _ _ (fun q=>hy q.symm) q e
 refine ⟨h.wf.put _ _,fun x=>?_,fun x v e=>?_,fun x y v w hxy ex ey=>?_⟩
 ·rw [VZ]
  split
  ·rename_i q;subst q;rw [e1];simp
  ·rename_i q;rw [e2 x q];exact h.key x
 ·rw [VZ] at e
  split at e
  ·rename_i q;subst q;cases e;rw [e1,List.length_append];unfold cI at *;rw [List.map_append];exact q3
  ·rename_i q;rw [e2 x q];exact q5 _ _ _ (h.val x v e) (ha x v q e)
 ·rw [VZ] at ex ey
  split at ex
  ·rename_i q;subst q;cases ex
   rw [if_neg (fun q=>hxy q.symm)] at ey
   exact (h.val y w ey).ap _ _
  ·split at ey
   ·cases ey;exact ((h.val x v ex).ap _ _).symm
   ·exact h.ap x y v w hxy ex ey
theorem Uz {L:ML Int} {x:Int}:(Yk x L).isSome=true↔x∈L.map (·.1):=zR
theorem Gat.len {lo f:Nat} {g:Gl} {cs:List Cp} {H:Hp} {L:ML Int} {c:Nat} (h:Gat lo f g cs H L c):L.length≤cs.length:=by
 have:=Xt (D:=L.map (·.1)) (L:=cs.map (·.r)) h.wf.keys fun x hx=>by
  obtain ⟨c,hc,e,_⟩:=Um.1 ((h.key x).1 (Uz.2 hx))
  exact List.mem_map.2 ⟨c,hc,e⟩
 simpa using this
section
variable {kn:Kn} {lo:Nat} {H:Hp}
set_option maxRecDepth 100000 in
set_option maxHeartbeats 1000000 in
theorem ZcR (s:Snd Try.prog kn) {cs:List Cp} {sa:Option Addr} {n cap:Nat} {g:Gl} (hs:Sl H sa n cap (cpc cs)) (hl:cs.length=n) (hn:n≤260) (hb:cs.any YO=false) (hg:vG g=true) (hlo:lo≤H.next) :
  FnM Try.prog lo 44 [.slice sa n cap,.agg (Gl.f g).toArray] H fun v H'=>∃ mb L c f,v=.map (some mb)∧H.next≤mb∧mb < f∧f≤H'.next∧Mqa iv H' mb L c∧Gat lo f g cs H' L c∧Keep H H' []:=by
 refine WV s Try.func44 B44 N44 Z44 L44 (by simp) ?_
 have hk:=Keep.refl H []
 have fs:=hs.old
 have hgt:=KC hg
 refine Zv<|UN (v:=.agg (Gl.f g).toArray) rfl ?_
 intro H1 kH1 nH1 c1
 have c1:Cl H1 H.next [iv g.y,iv g.k,iv g.b,iv g.p]:=c1
 have mH1:=kH1.1
 have hk:=hk.trans kH1
 have hs:=kH1.sl0 hs
 refine Zd rfl<|Zj<|Zv<|jZ (enc:=iv) ?_
 intro H2 kH2 nH2 hmq
 have mH2:=kH2.1
 have hk:=hk.trans kH2
 have hs:=kH2.sl0 hs
 have c1:=kH2.cl c1 (by simp)
 refine Zd rfl<|Zj<|Zv<|Zd rfl<|jA (m:=n) rfl<|Zd rfl<|Zj ?_
 refine VF s (fn:=Try.f44) ZhO N44 Zix (fun i:Nat=>[(3,pt H.next),(5,.map (some H1.next)),(9,.slice sa n cap),(10,iv (n:Int)),(11,iv (i:Int))])
  (fun k i H'=>i+k=n∧Keep H H' []∧H2.next≤H'.next∧Sl H' sa n cap (cpc cs)∧Cl H' H.next [iv g.y,iv g.k,iv g.b,iv g.p]∧∃ L c,Mqa iv H' H1.next L c∧Gat lo H2.next g (cs.take i) H' L c) n 0 ⟨by omega,hk,Nat.le_refl _,hs,c1,[],0,hmq,Gat.nil⟩ ⟨rfl,rfl,rfl,rfl,rfl,trivial⟩ ?_
 rintro k i L1 ⟨hik,hk,hnx,hs,cg,L,c,hmq,hG⟩
 have mk:=hk.1;have kacc:=Keep.refl L1 []
 refine Zv<|zD (a:=(i:Int)) (b:=(n:Int)) rfl rfl<|Zj ?_
 refine And.intro (fun q1=>?_) (fun q1=>?_)
 ·have q1:(i:Int) < (n:Int):=of_decide_eq_true q1
  have hi:i < n:=by omega
  rcases id hs with ⟨_,h0s,_⟩ | ⟨sb,es,rs,_⟩
  ·omega
  have ls:=rs.1
  have lsb2:=fs sb es
  have hcx:=zi (Zdd (z:=Cp.z) hb (show i < cs.length by omega))
  have hla:=Jd (g:=g) (x:=(cs.getD i Cp.z).r) (cs:=cs.take i)
  rw [List.length_take] at hla
  first | refine YL ?_ | skip
  refine Zv<|Za5 (b:=sb) (o:=0) (k:=i) (j:=(i:Int)) (by rw [← es];rfl) rfl rfl hi<|Y3 (b:=sb) (o:=0+i * 3) rfl rs (Uk (by omega))<|Zbe ?_
  intro H3 kH3 nH3 c3
  have c3:Cl H3 L1.next [iv 0,iv 0,iv 0]:=c3
  have mH3:=kH3.1
  have hk:=hk.trans kH3
  have hs:=kH3.sl0 hs
  have cg:=kH3.cl cg (by simp)
  have kacc:=kacc.trans kH3
  have rs:=kH3.rd rs (by simp)
  refine Zbr (b:=L1.next) (o:=0) rfl rfl c3 (by omega) rfl rfl (by simp) ?_
  intro H4 kH4 nH4 sH4
  have mH4:=kH4.1
  have hk:=hk.new kH4 (fun b hb=>by simp at hb ⊢;omega)
  have hs:=kH4.sl hs (fun b e=>by have:=fs b e;first | (simp;done) | (simp;omega))
  have cg:=kH4.cl cg (by first | (simp;done) | (simp;omega))
  have kacc:=kacc.new kH4 (fun b hb=>by simp at hb ⊢;omega)
  have rs:=kH4.rd rs (by first | (simp;done) | (simp;omega))
  have c3:Cl H4 L1.next [iv ((cs.getD i Cp.z).r),iv ((cs.getD i Cp.z).y),iv ((cs.getD i Cp.z).a)]:=sH4
  refine Zj<|Zv<|Wi (b:=L1.next) (o:=0) rfl<|W3 (b:=L1.next) (o:=1) (v:=iv ((cs.getD i Cp.z).y)) rfl c3.rd rfl<|Wi (b:=H.next) (o:=0) rfl<|W3 (b:=H.next) (o:=0) (v:=iv g.y) rfl cg.rd rfl<|Wi (b:=H.next) (o:=0) rfl<|W3 (b:=H.next) (o:=1) (v:=iv g.k) rfl cg.rd rfl<|ZhL (a:=g.y) (b:=g.k) rfl rfl ⟨by omega,by omega⟩<|ZdR (a:=(cs.getD i Cp.z).y) (b:=g.y - g.k) rfl rfl ?_
  intro t2 g2;cases t2
  ·have g2:¬ (((cs.getD i Cp.z).y) ≥ (g.y - g.k)):=of_decide_eq_false g2
   refine Zd rfl<|WG rfl<|WG rfl<|WG rfl<|WG rfl<|WG rfl<|Zo (v:=.bool false) rfl rfl<|Zj<|ZP ?_
   first | refine YL ?_ | skip
   show Zr _ _ _ _ _ _ _ _
   refine yd (a:=(i:Int)) (b:=1) rfl rfl ⟨by omega,by omega⟩<|Zd rfl<|Zj ?_
   have hyn:inY g (cs.getD i Cp.z)=false:=by simp only [inY,Bool.and_eq_false_iff,decide_eq_false_iff_not];omega
   exact ⟨k - 1,i+1,by omega,⟨by omega,hk,by omega,hs,cg,L,c,kacc.mqa hmq (by simp),(hG.keep kacc).no (by omega) hyn⟩,rfl,rfl,rfl,rfl,rfl,trivial⟩
  ·have g2:((cs.getD i Cp.z).y) ≥ (g.y - g.k):=of_decide_eq_true g2
   refine Zd rfl ?_
   refine YT rfl (Wi (b:=L1.next) (o:=0) rfl ?_)
   refine YT rfl (W3 (b:=L1.next) (o:=1) (v:=iv ((cs.getD i Cp.z).y)) rfl c3.rd rfl ?_)
   refine YT rfl (Wi (b:=H.next) (o:=0) rfl ?_)
   refine YT rfl (W3 (b:=H.next) (o:=0) (v:=iv g.y) rfl cg.rd rfl ?_)
   refine YT rfl (ZdO (a:=(cs.getD i Cp.z).y) (b:=g.y) rfl rfl ?_)
   intro t3 g3;cases t3
   ·have g3:¬ (((cs.getD i Cp.z).y) < g.y):=of_decide_eq_false g3
    refine Zo (v:=.bool false) rfl rfl<|Zj<|ZP ?_
    first | refine YL ?_ | skip
    show Zr _ _ _ _ _ _ _ _
    refine yd (a:=(i:Int)) (b:=1) rfl rfl ⟨by omega,by omega⟩<|Zd rfl<|Zj ?_
    have hyn:inY g (cs.getD i Cp.z)=false:=by simp only [inY,Bool.and_eq_false_iff,decide_eq_false_iff_not];omega
    exact ⟨k - 1,i+1,by omega,⟨by omega,hk,by omega,hs,cg,L,c,kacc.mqa hmq (by simp),(hG.keep kacc).no (by omega) hyn⟩,rfl,rfl,rfl,rfl,rfl,trivial⟩
   ·have g3:((cs.getD i Cp.z).y) < g.y:=of_decide_eq_true g3
    refine Zo (v:=.bool true) rfl rfl<|Zj<|Yz ?_
    first | refine Zaq ?_ | refine Zd7 ?_ | refine ZdX ?_ | (refine YY ?_;refine Zaq ?_)
    refine Ze rfl<|ZS (b:=L1.next) (o:=0) rfl<|ZM (b:=L1.next) (o:=0) (v:=iv ((cs.getD i Cp.z).r)) rfl c3.rd rfl<|Ze rfl<|ZS (b:=L1.next) (o:=0) rfl<|ZM (b:=L1.next) (o:=0) (v:=iv ((cs.getD i Cp.z).r)) rfl c3.rd rfl ?_
    obtain ⟨wv,ewv⟩:∃ wv,wv=(Yk (cs.getD i Cp.z).r L).getD (.slice none 0 0):=⟨_,rfl⟩
    have hmq1:=kacc.mqa hmq (by simp)
    refine Wg (v:=wv) (H':=H4) (k:=.read H1.next) (yG rfl rfl) rfl ((QI jy Zgy ZgG rfl rfl rfl hmq1 false).trans (by rw [ewv];rfl)) (fun q e=>by cases e;exact hmq1.1)<|ZS (b:=L1.next) (o:=0) rfl<|ZM (b:=L1.next) (o:=2) (v:=iv ((cs.getD i Cp.z).a)) rfl c3.rd rfl ?_
    obtain ⟨H5,hH5⟩:∃ H5,H4.new (.cells [iv ((cs.getD i Cp.z).a)] 3 false)=H5:=⟨_,rfl⟩
    refine Wg (H':=H5) (k:=.heavy) rfl (by kernel_rfl) ((YU (v:=iv ((cs.getD i Cp.z).a)) Qm zo3 rfl rfl rfl (by decide)).trans (by rw [← hH5];rfl)) (fun b e=>by cases e) ?_
    obtain ⟨kH5,nH5,c5⟩:=ZD hH5;clear hH5
    have c5:Cl H5 H4.next [iv ((cs.getD i Cp.z).a)]:=c5
    have mH5:=kH5.1
    have hk:=hk.trans kH5
    have hs:=kH5.sl0 hs
    have cg:=kH5.cl cg (by simp)
    have kacc:=kacc.trans kH5
    have rs:=kH5.rd rs (by simp)
    have c3:=kH5.cl c3 (by simp)
    have hG1:=hG.keep kacc
    have hmq1:=kacc.mqa hmq (by simp)
    have hat:=hG1.at' (cs.getD i Cp.z).r
    rw [← ewv] at hat
    have hat0:∀ b,bkv wv=some b→b < L1.next:=by rw [ewv];exact (hG.at' (cs.getD i Cp.z).r).lt
    obtain ⟨H6,kdH6,eH6,dH6,aH6,kbH6,oth⟩:=JW (P:=Try.prog) (lo:=lo) (k:=(ZJ g (cs.getD i Cp.z).r (cs.take i)).length) (t1:=67) Qm J0 (c5.sl (Nat.le_refl 1)) rfl (by decide) rfl (by rw [Vx,Nat.mul_one]) (by omega) hat (by omega) (by omega)
    have dH6:kdH6=.heavy∨∃ b,kdH6=.store b∧H2.next≤b∧b < L1.next:=dH6.imp id fun ⟨b,x,y,z⟩=>⟨b,x,y,hat0 b z⟩
    refine Wg (k:=kdH6) rfl (by cases wv<;>kernel_rfl) (eH6 _ _ _ _ _ _ _ rfl rfl) (Qx (dH6.imp id fun ⟨b,x,y,_⟩=>⟨b,x,y⟩) _) ?_
    have hk:=kbH6.keep hk (by omega)
    have hs:=kbH6.sl hs (fun b e=>by have:=fs b e;omega)
    have cg:=kbH6.cl cg (by omega)
    have mH6:=kbH6.1
    have hmq1:=kbH6.mqa hmq1 (by omega)
    have hyy:inY g (cs.getD i Cp.z)=true:=by simp only [inY,Bool.and_eq_true,decide_eq_true_eq];omega
    have hG1:=hG1.yes (by omega) hyy ewv aH6 oth
    obtain ⟨H7,fH7,kH7,nH7,hmq2⟩:=Zbv (P:=Try.prog) (lo:=lo) (H:=H6) jy Zgy (a:=(cs.getD i Cp.z).r) (v:=.slice (some ⟨H5.next,0,none⟩) ((ZJ g (cs.getD i Cp.z).r (cs.take i)).length+1) ((ZJ g (cs.getD i Cp.z).r (cs.take i)).length+1)) hmq1 (by omega)
    refine Zfp (b:=H1.next) (Zgn rfl rfl rfl) rfl (fH7 _ _ _ _ _ _ _ _ rfl rfl rfl) ?_
    have mH7:=kH7.1
    have hk:=hk.new kH7 (fun b hb=>by simp at hb ⊢;omega)
    have hs:=kH7.sl hs (fun b e=>by have:=fs b e;first | (simp;done) | (simp;omega))
    have cg:=kH7.cl cg (by first | (simp;done) | (simp;omega))
    have hG2:=hG1.keepW kH7 (by omega)
    refine ZH (by rcases dH6 with rfl | ⟨bH6,rfl,hbH6,hvH6⟩<;>repeat' first | exact True.intro | exact (fun h=>h) | refine And.intro ?_ ?_ | (intro h;have h:(_:Nat)=_:=h;omega)) ?_
    show Zr _ _ _ _ _ _ _ _
    refine yd (a:=(i:Int)) (b:=1) rfl rfl ⟨by omega,by omega⟩<|Zd rfl<|Zj ?_
    exact ⟨k - 1,i+1,by omega,⟨by omega,hk,by omega,hs,cg,_,_,hmq2,hG2⟩,rfl,rfl,rfl,rfl,rfl,trivial⟩
 ·have q1:¬ ((i:Int) < (n:Int)):=of_decide_eq_false q1
  first | (refine Jx ?_;show wCM _ _ _ _ _ _ _ _ _) | skip
  refine Zv<|Zd rfl<|Zd rfl<|Zj ?_
  have e:i=n:=by omega
  rw [e,← hl,List.take_length] at hG
  exact And.intro trivial (Exists.intro _ (And.intro rfl ⟨H1.next,L,c,H2.next,rfl,by omega,by omega,by omega,hmq,hG,hk⟩))
end
end
end Go.Ax

/-
 Pool: membersOf: who counts,with the base,by number (26) (written by program).
-/
namespace Go.Ax
open Go Go.RowKit Go.Proofs

noncomputable section
section
variable {P:Program} {kn:Kn} {lo n:Nat}
theorem U3 {rd:Bool} {x y:RC} {S:Rg} {H:Hp} {K:Exit→Rg→Hp→Prop} (h:wCM P kn lo n rd x S H fun e S' H'=>match e with | .normal=>wCM P kn lo n rd y S' H' K | e=>K e S' H'):wCM P kn lo n rd (.seq x y) S H K:=h
theorem K4 {rd:Bool} {id:Nat} {b:RC} {S:Rg} {H:Hp} {K:Exit→Rg→Hp→Prop} (h:wCM P kn lo n rd b S H fun e S' H'=>match e with | .exit j=>(bif Nat.beq j id then K .normal S' H' else K (.exit j) S' H') | e=>K e S' H'):wCM P kn lo n rd (.block id b) S H K:=h
theorem zV {rd:Bool} {c:Code} {S:Rg} {H:Hp} {K:Exit→Rg→Hp→Prop} (h:Yq P lo n rd c S H K):wCM P kn lo n rd (.other c) S H K:=h
theorem Xg {o:RO} {S:Rg} {H:Hp} {K:Rg→Hp→Prop} (h:Zr P kn lo n [o] S H K):Xx P kn lo n S H o K:=h
theorem KD.own {ops:List RO} {V:Nat→Value} {done:Nat→Bool} {S S':Rg} (h:KD ops V done S S') (i:Nat) {d:Nat} {v:Value} (hi:(ops[i]?).map (·.dst)=some (some d)) (hd:done i=true) (hv:V i=v):lk S' d=some v:=by
 cases ho:ops[i]? with
 | none=>rw [ho] at hi;cases hi
 | some o=>rw [ho] at hi;rw [← hv];exact h.1 i o d ho (by simpa using hi) hd
theorem KD.old {ops:List RO} {V:Nat→Value} {done:Nat→Bool} {S S':Rg} (h:KD ops V done S S') {j:Nat} {v:Value} (hv:lk S j=some v) (hj:(ops.all fun o=>!(o.dst == some j))=true):lk S' j=some v:=
 h.2 j v hv fun o ho e=>by have:=List.all_eq_true.1 hj o ho;rw [e] at this;simp at this
end
def mbY (g:Gl) (cs:List Cp) (y:Int × Value × Nat):Mb:=⟨y.1,bs g cs y.1⟩
theorem qA {α:Type}:∀ {L:ML α},(L.map (·.1)).Nodup→∀ p q,p∈L→q∈L→p.1=q.1→p=q
 | a :: l,hn,p,q,hp,hq,e=>by
  simp only [List.map_cons,List.nodup_cons] at hn
  rcases List.mem_cons.1 hp with rfl | hp'<;>rcases List.mem_cons.1 hq with rfl | hq'
  ·rfl
  ·exact absurd (List.mem_map.2 ⟨q,hq',e.symm⟩:p.1∈l.map (·.1)) hn.1
  ·exact absurd (List.mem_map.2 ⟨p,hp',e⟩:q.1∈l.map (·.1)) hn.1
  ·exact qA hn.2 p q hp' hq' e
theorem Gat.app {lo f:Nat} {g:Gl} {cs:List Cp} {H:Hp} {L:ML Int} {c:Nat} (h:Gat lo f g cs H L c) {y z:Int × Value × Nat} (hy:y∈L) (hz:z∈L) (e:y≠z):Ap y.2.1 z.2.1:=
 h.ap y.1 z.1 _ _ (fun q=>e (qA h.wf.keys y z hy hz q)) (Q0 h.wf y hy) (Q0 h.wf z hz)
theorem Gat.ne {lo f:Nat} {g:Gl} {cs:List Cp} {H:Hp} {L:ML Int} {c:Nat} (h:Gat lo f g cs H L c) {y:Int × Value × Nat} (hy:y∈L):ZJ g y.1 cs≠[]:=(h.key y.1).1 (Uz.2 (List.mem_map.2 ⟨y,hy,rfl⟩))
theorem zr {α β:Type} {f:α→β}:∀ {l:List α},l.Nodup→(∀ a∈l,∀ b∈l,f a=f b→a=b)→(l.map f).Nodup
 | [],_,_=>List.nodup_nil
 | a :: l,h,k=>by
  rw [List.nodup_cons] at h
  rw [List.map_cons,List.nodup_cons]
  refine ⟨fun q=>?_,zr h.2 fun x hx y hy=>k x (List.mem_cons_of_mem _ hx) y (List.mem_cons_of_mem _ hy)⟩
  obtain ⟨b,hb,e⟩:=List.mem_map.1 q
  have:=k a List.mem_cons_self b (List.mem_cons_of_mem _ hb) e.symm
  subst this;exact h.1 hb
theorem Zdx {lo f:Nat} {g:Gl} {cs:List Cp} {H:Hp} {L:ML Int} {c:Nat} (h:Gat lo f g cs H L c) (hb:cs.any YO=false) {D:ML Int} (hn:D.Nodup) (hD:∀ y,y∈D↔y∈L) {ms:List Mb} (hp:ms.Perm (D.map (mbY g cs))) (hs:ms.Pairwise fun a b=>a.g≤b.g):ms=mbL g cs:=by
 have hg:(ms.map (·.g)).Nodup:=by
  refine (hp.map (·.g)).nodup_iff.2 ?_
  rw [List.map_map]
  exact zr hn fun a ha b hb e=>qA h.wf.keys a b ((hD a).1 ha) ((hD b).1 hb) e
 have hs2:ms.Pairwise fun a b=>a.g < b.g:=by
  have h2:ms.Pairwise fun a b=>a.g≠b.g:=List.pairwise_map.1 hg
  exact (hs.and h2).imp fun q=>by omega
 refine Zf0 hs2 Q6 fun m=>?_
 rw [hp.mem_iff,qy hb,List.mem_map]
 constructor
 ·rintro ⟨y,hy,rfl⟩;exact ⟨h.ne ((hD y).1 hy),rfl⟩
 ·rintro ⟨h1,h2⟩
  obtain ⟨y,hy,e⟩:=List.mem_map.1 (Uz.1 ((h.key m.g).2 h1))
  refine ⟨y,(hD y).2 hy,?_⟩
  unfold mbY;rw [e,← h2]
theorem Zim:ZT Try.prog 60=some (79,2):=by kernel_rfl
theorem ZkH:YA Try.prog 79=some (.agg #[iv 0,iv 0]):=by kernel_rfl
theorem ZkD:Try.prog.underlying 60=some (.slice 79):=by kernel_rfl
theorem Zhz {g:Gl} {cs:List Cp} {x:Int} {k:Nat} (h:(ZJ g x cs).length=k):top (min g.b.toNat k) (dsc (ZJ g x cs)) / ((min g.b.toNat k:Nat):Int)=bs g cs x:=by
 unfold bs avg
 rw [Wy,h]
 congr 1
 unfold top
 congr 1
 rw [List.take_eq_take_iff,Wy,h]
 omega
section
variable {kn:Kn} {lo:Nat} {H:Hp}
theorem ZcT:∃ H',FnX Try.prog kn lo 47 [.slice none 0 0,.func (.func 48) #[] #[]] H (.tuple #[]) H'∧Keep H H' []:=by
 have key:=Zp (kn:=kn) (lo:=lo) (H:=H) (args:=[.slice none 0 0,.func (.func 48) #[] #[]]) (Q:=fun w H'=>w=.tuple #[]∧Keep H H' []) Try.func47 B47 N47 Z47 L47 (by simp) ?_
 ·obtain ⟨w,H',h,rfl,r⟩:=key;exact ⟨H',h,r⟩
 have hk:=Keep.refl H []
 refine Zc<|YD (v:=.func (.func 48) #[] #[]) rfl ?_
 intro H1 kH1 nH1 c1
 have c1:Cl H1 H.next [.func (.func 48) #[] #[]]:=c1
 have mH1:=kH1.1
 have hk:=hk.trans kH1
 refine Zb ?_
 show Zl _ _ _ _ _ _ _ _
 refine Za rfl<|Zg (v:=.func (.func 63) #[] #[pt H.next]) rfl (by kernel_rfl) ?_
 obtain ⟨H2,fH2,kH2⟩:=Zc5 (kn:=kn) (lo:=lo) (H:=H1) (cv:=.func (.func 63) #[] #[.pointer (some ⟨H.next,0,none⟩)])
 refine Zu (vs:=[.slice none 0 0,.func (.func 63) #[] #[.pointer (some ⟨H.next,0,none⟩)]]) rfl (Zh fH2) ?_
 have mH2:=kH2.1
 have hk:=hk.trans kH2
 have c1:=kH2.cl c1 (by simp)
 refine Zb ?_
 exact And.intro trivial (Exists.intro _ (And.intro rfl ⟨rfl,hk⟩))
theorem Acc.low_b {lo f:Nat} {e:TypeId} {H:Hp} {v:Value} {n:Nat} {cs:List Value} (h:Acc lo f e H v n cs) (b:Nat) (hb:bkv v=some b):f≤b∧b < H.next:=by
 rcases h with ⟨_,_,rfl⟩ | ⟨b2,rfl,_,q,_,hn,_⟩
 ·cases hb
 ·cases hb;exact ⟨q,hn⟩
theorem YW.ita {f:Nat} {H H1:Hp} {it m c:Nat} {D:ML Int} (k:YW f H H1) (h:Ita H it m c D) (hb:it < f):Ita H1 it m c D:=⟨Nat.lt_of_lt_of_le h.1 k.le,by rw [k.same it hb];exact h.2⟩
set_option maxRecDepth 100000 in
set_option maxHeartbeats 1000000 in
theorem WS (s:Snd Try.prog kn) {cs:List Cp} {sa:Option Addr} {n cap:Nat} {g:Gl} (hs:Sl H sa n cap (cpc cs)) (hl:cs.length=n) (hn:n≤60) (hb:cs.any YO=false) (hg:vG g=true) (hlo:lo≤H.next) :
  FnM Try.prog lo 26 [.slice sa n cap,.agg (Gl.f g).toArray] H fun v H'=>Keep H H' []∧∃ a cap,v=.slice a (mbL g cs).length cap∧Sl H' a (mbL g cs).length cap (mbc (mbL g cs)):=by
 refine WV s Try.func26 B26 N26 Z26 L26 (by simp) ?_
 have hk:=Keep.refl H []
 have fs:=hs.old
 have hgt:=KC hg
 refine Zv<|UN (v:=.agg (Gl.f g).toArray) rfl ?_
 intro H1 kH1 nH1 c1
 have c1:Cl H1 H.next [iv g.y,iv g.k,iv g.b,iv g.p]:=c1
 have mH1:=kH1.1
 have hk:=hk.trans kH1
 have hs:=kH1.sl0 hs
 refine Zd rfl<|Zj<|Zv<|Zd rfl<|Zj<|Zv<|Zd rfl<|Y3 (b:=H.next) (o:=0) rfl c1.rd (show row 4 _ _=some [iv g.y,iv g.k,iv g.b,iv g.p] from rfl)<|YR (t:=.fn (.func 44) #[]) rfl (Yi s.hN (ZcR (H:=H1) s hs hl (by omega) hb hg (by omega))) ?_
 rintro _ H2 ⟨mb,L,c,f,rfl,hmb1,hmb2,hf,hmq,hG,kH2⟩
 have mH2:=kH2.1
 have hk:=hk.trans kH2
 have hs:=kH2.sl0 hs
 have c1:=kH2.cl c1 (by simp)
 have hlt:∀ y∈L,∀ b,bkv y.2.1=some b→b < H2.next:=fun y hy=>(hG.val _ _ (Q0 hG.wf y hy)).lt
 refine ZbP rfl hmq ?_
 intro H3 kH3 nH3 iH3
 have mH3:=kH3.1
 have hk:=hk.trans kH3
 have hs:=kH3.sl0 hs
 have c1:=kH3.cl c1 (by simp)
 have hmq:=kH3.mqa hmq (by simp)
 have hG:=hG.keep kH3
 refine Zj ?_
 obtain ⟨it,eit⟩:∃ it,it=H2.next:=⟨_,rfl⟩
 have hit:=iH3
 rw [← eit] at hit
 have hne:mb≠it:=by omega
 have hoit:H.next≤it:=by omega
 rw [← eit] at hlt
 have hLn:=hG.len
 have hU0:∀ y∈L,y ∉ ([]:ML Int)→Acc lo f 3 H3 y.2.1 (ZJ g y.1 cs).length (cI (ZJ g y.1 cs)):=fun y hy _=>hG.val _ _ (Q0 hG.wf y hy)
 refine VF s (fn:=Try.f26) Zjy N26 ZjT (fun z:ML Int × Value=>[(3,.pointer (some ⟨H.next,0,none⟩)),(5,z.2),(11,.pointer (some ⟨it,0,none⟩))])
  (fun k z H'=>k=L.length - z.1.length∧z.1.Nodup∧(∀ y∈z.1,y∈L)∧Keep H H' []∧H3.next≤H'.next∧Ita H' it mb c z.1∧Mqa iv H' mb L c∧Cl H' H.next [iv g.y,iv g.k,iv g.b,iv g.p]∧(∀ y∈L,y ∉ z.1→Acc lo f 3 H' y.2.1 (ZJ g y.1 cs).length (cI (ZJ g y.1 cs)))∧Acc lo H3.next 79 H' z.2 z.1.length (mbc (z.1.map (mbY g cs)))) _ ([],.slice none 0 0) ⟨rfl,List.nodup_nil,(fun y h=>by cases h),hk,Nat.le_refl _,hit,hmq,c1,hU0,.inl ⟨rfl,rfl,rfl⟩⟩ ⟨rfl,rfl,by rw [eit];rfl,True.intro⟩ ?_
 rintro k ⟨D,wv⟩ L1 ⟨hkk,hnd,hD,hk,f2,i2,m2,cg,hU,hacc⟩
 simp only [] at hkk hnd hD i2 hU hacc
 refine Zv (Zcj rfl i2 m2 hG.wf hD jy.fl (by omega) (fun hall=>?_) (fun y hy hny G3 k3 n3 i3=>?_))
 ·refine Zo (v:=.bool false) rfl (by kernel_rfl) (Zj (U3 (Jt (t:=false) rfl (fun h=>by cases h) fun _=>Jx ?_)))
  show wCM _ _ _ _ _ _ _ _ _
  have hDL:∀ y,y∈D↔y∈L:=fun y=>⟨hD y,hall y⟩
  have hDn:=Xt hnd hD
  rcases hacc with ⟨hz0,_,rfl⟩ | ⟨bd,rfl,hz0,hbd1,hbd2,hbd3,hbd4⟩
  ·refine Zv<|Zd rfl ?_
   obtain ⟨H4,fH4,kH4⟩:=ZcT (kn:=kn) (lo:=lo) (H:=L1)
   refine Z5 s (vs:=[.slice none 0 0,.func (.func 48) #[] #[]]) rfl (Zh fH4) ?_
   have mH4:=kH4.1
   have hk:=hk.trans kH4
   have hD0:D=[]:=List.eq_nil_of_length_eq_zero hz0
   subst hD0
   have hms:=Zdx hG hb hnd hDL (ms:=[]) (.refl _) List.Pairwise.nil
   refine Zj<|Zv<|Zd rfl<|Zd rfl<|Zj ?_
   exact And.intro trivial (Exists.intro _ (And.intro rfl ⟨hk,none,0,by rw [← hms];rfl,by rw [← hms];exact .inl ⟨.inl rfl,rfl,rfl,rfl⟩⟩))
  ·refine Zv<|Zd rfl ?_
   have hml:(D.map (mbY g cs)).length=D.length:=by rw [List.length_map]
   obtain ⟨σ,H5,fH5,hpr,hso,ktH5,czH5⟩:=Zd4 (kn:=kn) (lo:=lo) (H:=L1) (ms:=D.map (mbY g cs)) (bd:=bd) (cap:=D.length) hbd2 (by omega) ⟨hbd3,79,true,hbd4⟩ (by omega)
   rw [hml] at fH5
   refine Z5 s (vs:=[.slice (some ⟨bd,0,none⟩) D.length D.length,.func (.func 48) #[] #[]]) rfl (Zh fH5) ?_
   have hk:=hk.new ktH5.kp (fun b hb=>.inr (by simp at hb;omega))
   have mH5:=ktH5.kp.1
   have hms:=Zdx hG hb hnd hDL (yI hpr) (J6 (f:=fun m:Mb=>m.g) hso)
   have hdl:D.length=(mbL g cs).length:=by rw [← hms,jN,hml]
   rw [hms] at czH5
   refine Zj<|Zv<|Zd rfl<|Zd rfl<|Zj ?_
   exact And.intro trivial (Exists.intro _ (And.intro rfl ⟨hk,some ⟨bd,0,none⟩,D.length,by rw [← hdl];rfl,.inr ⟨bd,rfl,czH5.rd,by omega⟩⟩))
 ·have hay:=hU y hy hny
  rcases hay with ⟨ha0,_⟩ | ⟨bd,ev,ha0,hf1,hlb,hbn,hgb⟩
  ·exact absurd (List.eq_nil_of_length_eq_zero ha0) (hG.ne hy)
  have hbl:=hlt y hy bd (by rw [ev];rfl)
  obtain ⟨K,eK⟩:∃ K,K=(ZJ g y.1 cs).length:=⟨_,rfl⟩
  rw [← eK] at ev ha0
  have m3:Mqa iv G3 mb L c:=k3.mqa m2 (by simpa using hne)
  have hsub:∀ x∈D ++ [y],x∈L:=fun x hx=>by
   rcases List.mem_append.1 hx with h | h
   ·exact hD x h
   ·simp at h;rw [h];exact hy
  have hnd2:(D ++ [y]).Nodup:=List.nodup_append.2 ⟨hnd,by simp,fun a ha b hb e=>hny (by simp at hb;rw [← hb,← e];exact ha)⟩
  have hlen2:(D ++ [y]).length=D.length+1:=by simp
  have hDL:=Xt hnd2 hsub
  have hKn:=Jd (g:=g) (x:=y.1) (cs:=cs)
  have hain:=jz (g:=g) (x:=y.1) hb
  have hgb3:G3.t.get bd=some (.cells (cI (ZJ g y.1 cs)) 3 true):=by rw [k3.2 bd hbn (by simp;omega)];exact hgb
  have cb3:Cl G3 bd (cI (ZJ g y.1 cs)):=⟨by omega,3,true,hgb3⟩
  have cg3:=k3.cl cg (by simp;omega)
  have hk:=hk.new k3 (fun b hb=>.inr (by simp at hb;omega))
  obtain ⟨G4,f4,kt4,c4⟩:=Ze5 (kn:=kn) (lo:=lo) (H:=G3) (bd:=bd) (xs:=(ZJ g y.1 cs)) (k:=K) hlb eK.symm ha0 (by omega) cb3 hgb3 (by omega) hain (mb:=g.b) (by omega) (by omega)
  have k4:=kt4.kp
  have mH4:=k4.1
  have cg4:=k4.cl cg3 (by simp;omega)
  have hsl4:Sl G4 (some ⟨bd,0,none⟩) (min g.b.toNat K) K (cI (dsc (ZJ g y.1 cs))):=.inr ⟨bd,rfl,c4.rd,by omega⟩
  obtain ⟨G5,f5,k5⟩:=Zbu (kn:=kn) (lo:=lo) (H:=G4) hsl4 (by omega) (by rw [Wy];omega) (by rw [Wy];omega) (by omega) (jm hb)
  rw [Zhz eK.symm] at f5
  have mH5:=k5.1
  have k45:Keep G3 G5 [bd]:=k4.trans (k5.mono (by simp))
  have hk:=hk.new k45 (fun b hb=>.inr (by simp at hb;omega))
  have hacc5:Acc lo H3.next 79 G5 wv D.length (mbc (D.map (mbY g cs))):=(hacc.keepW k3 (by omega)).keepW k45 (by omega)
  refine Zo (v:=.bool true) rfl (by kernel_rfl) (Zj (U3 (Jt (t:=true) rfl (fun _=>YL ?_) fun h=>by cases h)))
  refine K4 (Zv (ZbZ rfl i3 m3 hG.wf hy jy.fl ?_))
  rw [ev]
  refine Zo (v:=iv y.1) rfl (by kernel_rfl) (Zo (v:=.slice (some ⟨bd,0,none⟩) K K) rfl (by kernel_rfl) (Zd rfl (Zd rfl (Zj ?_))))
  refine ZdA (Zd rfl (Zd rfl (Zd rfl (Wi rfl (W3 (v:=iv g.b) rfl cg3.rd rfl ?_)))))
  refine Z5 s (vs:=[.slice (some ⟨bd,0,none⟩) K K,iv g.b]) rfl (Zh f4)<|Z5 s (vs:=[.slice (some ⟨bd,0,none⟩) (min g.b.toNat K) K]) rfl (Zh f5)<|Zo (v:=.agg #[iv y.1,iv (bs g cs y.1)]) rfl (by kernel_rfl) ?_
  have kacc:=Keep.refl G5 []
  obtain ⟨H6,hH6⟩:∃ H6,G5.new (.cells [iv y.1,iv (bs g cs y.1)] 79 false)=H6:=⟨_,rfl⟩
  refine Wk (H':=H6) (k:=.heavy) rfl (by kernel_rfl) ((YU (v:=.agg #[iv y.1,iv (bs g cs y.1)]) Zim ZkH rfl rfl rfl (by decide)).trans (by rw [← hH6];rfl)) (fun b e=>by cases e) ?_
  obtain ⟨kH6,nH6,c6⟩:=ZD hH6;clear hH6
  have c6:Cl H6 G5.next [iv y.1,iv (bs g cs y.1)]:=c6
  have mH6:=kH6.1
  have hk:=hk.trans kH6
  have kacc:=kacc.trans kH6
  obtain ⟨H7,kdH7,eH7,dH7,aH7,kbH7⟩:=Yw (P:=Try.prog) (lo:=lo) (k:=D.length) (t1:=60) Zim ZkD (c6.sl (Nat.le_refl 1)) rfl (by decide) rfl (by rw [Zfn,List.length_map]) (by omega) (hacc5.keep kacc) (by omega) (by omega)
  refine Wk (k:=kdH7) rfl (by cases wv<;>kernel_rfl) (eH7 _ _ _ _ _ _ _ rfl rfl) (Qx dH7 _) ?_
  have hk:=kbH7.keep hk (by omega)
  have mH7:=kbH7.1
  have ka:YW H3.next G5 H7:=⟨Nat.le_trans kH6.1 kbH7.1,fun b q=>(kbH7.2 b q).trans (kH6.2 b (by omega) (by simp)),fun b cs q1 q2=>(kbH7.3 b cs q1 q2).elim fun x y=>kH6.3 b cs x y⟩
  refine Zd rfl (Zj ?_)
  have hU2:∀ z∈L,z ∉ D ++ [y]→Acc lo f 3 H7 z.2.1 (ZJ g z.1 cs).length (cI (ZJ g z.1 cs)):=fun z hz hnz=>by
   have hzy:z≠y:=fun e=>hnz (by rw [e];simp)
   have q1:=(hU z hz (fun e=>hnz (by simp [e]))).keepN k3 (fun b q=>by have:=hG.val _ _ (Q0 hG.wf z hz);have:=hlt z hz b q;have:=(hU z hz (fun e=>hnz (by simp [e]))).low_b b q;omega)
   exact (q1.keepN k45 (fun b q=>hG.app hz hy hzy b bd q (by rw [ev];rfl))).keepB ka (fun b q=>by have:=hlt z hz b q;omega)
  have i5:Ita H7 it mb c (D ++ [y]):=ka.ita (k45.ita i3 (by simp;omega)) (by omega)
  have m5:Mqa iv H7 mb L c:=ka.mqa (k45.mqa m3 (by simp;omega)) (by omega)
  have cg5:=ka.cl (k45.cl cg3 (by simp;omega)) (by omega)
  refine ⟨_,(D ++ [y],_),by simp only [hlen2];omega,⟨rfl,hnd2,hsub,hk,by omega,i5,m5,cg5,hU2,?_⟩,rfl,rfl,rfl,True.intro⟩
  simp only []
  rw [hlen2]
  unfold mbc
  rw [List.map_append,List.flatMap_append]
  exact aH7
end
end
end Go.Ax

/-! Drawn regions whose values are told by the run: calls that come to one of several ends. Pieces of code over the machine. -/
namespace Go.Ax
open Go Go.RowKit
section
variable {P:Program} {kn:Kn} {lo n:Nat} {rd:Bool}
def Zdi (V:Nat→Value) (i:Nat) (v:Value):Nat→Value:=fun j=>bif Nat.beq j i then v else V j
def Zi8 (P:Program) (kn:Kn) (lo n:Nat) (ops:List RO) (HP:(Nat→Bool)→(Nat→Value)→Hp→Prop) (S:Rg) (i m:Nat) (o:RO):Prop:=
 ∀ (done:Nat→Bool) (V:Nat→Value) (S':Rg) (H':Hp),done i=false→(∀ j,m.testBit j=true→done j=true)→HP done V H'→KD ops V done S S'→Xx P kn lo n S' H' o fun S2 H2=>∃ v,S2=Zy S' o.dst v∧HP (Zaf done i) (Zdi V i v) H2
def ZfZ (P:Program) (kn:Kn) (lo n:Nat) (ops:List RO) (HP:(Nat→Bool)→(Nat→Value)→Hp→Prop) (S:Rg) (ms:List Nat):List RO→Nat→Prop
 | [],_=>True
 | o :: r,i=>Zi8 P kn lo n ops HP S i (ms.getD (ops.length - 1 - i) 0) o∧ZfZ P kn lo n ops HP S ms r (i+1)
theorem Zay {ops:List RO} {HP:(Nat→Bool)→(Nat→Value)→Hp→Prop} {S:Rg} {ms:List Nat}:∀ (l:List RO) (k:Nat),ZfZ P kn lo n ops HP S ms l k→∀ i o,l[i]? = some o→Zi8 P kn lo n ops HP S (k+i) (ms.getD (ops.length - 1 - (k+i)) 0) o
 | [],_,_,i,o,e=>by simp at e
 | x :: l,k,h,i,o,e=>by
  cases i with
  | zero=>simp at e;subst e;exact h.1
  | succ i=>rw [show k+(i+1)=k+1+i by omega];exact Zay l (k+1) h.2 i o (by simpa using e)
theorem Zcy (s:Snd P kn) {id:Nat} {ops:Array Oper} {ord:Nat→Bool} {rl:List RO} {S:Rg} {H:Hp} {K:Exit→Rg→Hp→Prop} (hreg:Qe ops=true) (hl:Xb P n ops.toList ord ops.toList 0=some rl) {HP:(Nat→Bool)→(Nat→Value)→Hp→Prop} {V0:Nat→Value} (hnd:(rl.filterMap (·.dst)).Nodup) (h0:HP (fun _=>false) V0 H) (hops:ZfZ P kn lo n rl HP S (X5 ops.toList 0 []) rl 0) (hend:∀ done V H',(∀ i,i < rl.length→done i=true)→HP done V H'→K .normal (Zct V rl 0 S) H') :
  Yq P lo n rd (.region id ops true) S H K:=by
 obtain ⟨hlen,hget⟩:=QC ops.toList 0 hl
 have hlen:rl.length=ops.size:=by simpa using hlen
 have hR:=V2 hreg
 have key:∀ (fuel t:Nat) (L:Array Bool) (V:Nat→Value) (S':Rg) (H':Hp),L.size=ops.size→todo ops L≤fuel→(∀ (i:Nat) o,ops[i]? = some o→Ya L i→∀ e∈o.after,Region.binds .any e=true→Ya L e.on)→HP (fun i=>L.getD i false) V H'→KD rl V (fun i=>L.getD i false) S S'→
   Ug P lo n rd ops (Region.linearise.go .any ops fuel t L []) S' H' K:=by
  have fin:∀ (L:Array Bool) (V:Nat→Value) (S':Rg) (H':Hp),(∀ i,i < ops.size→Ya L i)→HP (fun i=>L.getD i false) V H'→KD rl V (fun i=>L.getD i false) S S'→Ug P lo n rd ops [] S' H' K:=by
   intro L V S' H' hall hHP hKD
   have hk:=hend _ V H' (fun i hi=>hall i (by rw [← hlen];exact hi)) hHP
   have hsub:=qS (V:=V) (S':=S') rl 0 S hnd (fun i o d e1 e2=>by
    have hi:i < rl.length:=by
     rcases Nat.lt_or_ge i rl.length with q | q
     ·exact q
     ·rw [List.getElem?_eq_none q] at e1;cases e1
    rw [Nat.zero_add]
    exact hKD.1 i o d e1 e2 (hall i (by rw [← hlen];exact hi))) hKD.2
   exact fun base r w A tmps ds rdv cs k hlo hrel hF hn hr hS=>Ug.nil hk base r w A tmps ds rdv cs k hlo hrel hF hn hr fun j v e=>hS j v (hsub j v e)
  intro fuel
  induction fuel with
  | zero=>
   intro t L V S' H' hL hf hcl hHP hKD
   simp only [Region.linearise.go,List.reverse_nil]
   exact fin L V S' H' (U0 (by omega)) hHP hKD
  | succ fuel ih=>
   intro t L V S' H' hL hf hcl hHP hKD
   have hgo:Region.linearise.go .any ops (fuel+1) t L []=match (Region.ready .any ops L)[t % (Region.ready .any ops L).length]? with
    | some i=>Region.linearise.go .any ops fuel (t / (Region.ready .any ops L).length) (L.setIfInBounds i true) [i]
    | none=>[]:=by
    simp only [Region.linearise.go]
    rfl
   cases hi:(Region.ready .any ops L)[t % (Region.ready .any ops L).length]? with
   | none=>
    have hnil:Region.ready .any ops L=[]:=by
     cases hr:Region.ready .any ops L with
     | nil=>rfl
     | cons x xs=>
      rw [hr] at hi
      have hlt:t % (x :: xs).length < (x :: xs).length:=Nat.mod_lt _ (by simp)
      rw [List.getElem?_eq_getElem hlt] at hi
      cases hi
    rw [hgo,hi]
    exact fin L V S' H' (V8 hR hL hnil) hHP hKD
   | some i=>
    have hmem:=List.mem_of_getElem? hi
    obtain ⟨hlt,hun,o,ho,hr⟩:=VH.1 hmem
    have hLi:i < L.size:=by rw [hL];exact hlt
    have hunD:L.getD i false=false:=by
     have:L[i]? = some (L[i]'hLi):=Array.getElem?_eq_getElem hLi
     simp only [Array.getD_eq_getD_getElem?,this,Option.getD_some] at hun ⊢
     exact hun
    have hun':¬ Ya L i:=by unfold Ya;rw [hunD];simp
    rw [hgo,hi]
    simp only
    rw [linearise_go_acc,List.reverse_singleton,List.singleton_append]
    obtain ⟨ro,hrl,hro⟩:=hget i o (by simpa using ho)
    have hanc:∀ j,Anc ops i j→Ya L j:=by
     have cl:∀ {a b},Anc ops a b→Ya L a→Ya L b:=by
      intro a b ha
      induction ha with
      | edge ho he hb=>exact fun hj=>hcl _ _ ho hj _ he hb
      | more ho he hb _ ih=>exact fun hj=>ih (hcl _ _ ho hj _ he hb)
     intro j ha
     cases ha with
     | edge ho' he hb=>rw [ho] at ho';cases ho';exact hr _ he hb
     | more ho' he hb ha=>rw [ho] at ho';cases ho';exact cl ha (hr _ he hb)
    have hm:=UP ops
    have h1:=Zay rl 0 hops i ro hrl
    rw [Nat.zero_add,hlen] at h1
    have hmask:∀ j,((X5 ops.toList 0 []).getD (ops.size - 1 - i) 0).testBit j=true→L.getD j false=true:=by
     intro j hj
     have hlt':ops.size - 1 - i < (X5 ops.toList 0 []).length:=by rw [hm.1];omega
     have hg:=List.getElem?_eq_getElem hlt'
     rw [List.getD_eq_getElem?_getD,hg,Option.getD_some] at hj
     exact hanc j (hm.2 i _ hlt hg j hj)
    refine JQ s ho hro (h1 _ V S' H' hunD hmask hHP hKD) fun {S2 H2} q=>?_
    obtain ⟨v0,rfl,hHP2⟩:=q
    have hset:(fun j=>(L.setIfInBounds i true).getD j false)=Zaf (fun j=>L.getD j false) i:=by
     funext j
     unfold Zaf
     by_cases e:j=i
     ·subst e
      rw [Nat.beq_refl,cond_true]
      exact (Yn hLi).2 (.inl rfl)
     ·have:Nat.beq j i=false:=by
       cases hb:Nat.beq j i with
       | false=>rfl
       | true=>exact absurd (Nat.eq_of_beq_eq_true hb) e
      rw [this,cond_false]
      simp only [Array.getD_eq_getD_getElem?,Array.getElem?_setIfInBounds]
      rw [if_neg (fun q=>e q.symm)]
    refine ih _ _ (Zdi V i v0) _ _ (by simp [hL]) (by have:=Q5 hLi hlt hun';omega) ?_ (by rw [hset];exact hHP2) ?_
    ·intro j oj hoj hdj e he hb
     rcases (Yn hLi).1 hdj with rfl | hdj
     ·rw [ho] at hoj;cases hoj
      exact (Yn hLi).2 (.inr (hr _ he hb))
     ·exact (Yn hLi).2 (.inr (hcl _ _ hoj hdj _ he hb))
    ·rw [hset]
     refine ⟨fun j oj d e1 e2 e3=>?_,fun j v e q=>?_⟩
     ·by_cases e:j=i
      ·subst e
       rw [hrl] at e1;cases e1
       rw [e2]
       simp only [Zy,lk,Zdi,Nat.beq_refl,cond_true]
      ·have hV:Zdi V i v0 j=V j:=by
        have:Nat.beq j i=false:=by
         cases hb:Nat.beq j i with
         | false=>rfl
         | true=>exact absurd (Nat.eq_of_beq_eq_true hb) e
        simp only [Zdi,this,cond_false]
       rw [hV]
       have hd:L.getD j false=true:=by
        unfold Zaf at e3
        have:Nat.beq j i=false:=by
         cases hb:Nat.beq j i with
         | false=>rfl
         | true=>exact absurd (Nat.eq_of_beq_eq_true hb) e
        rw [this,cond_false] at e3
        exact e3
       cases hod:ro.dst with
       | none=>exact hKD.1 j oj d e1 e2 hd
       | some d'=>
        have hne:d'≠d:=fun q=>e (WP hnd j i oj ro d e1 hrl e2 (by rw [hod,q]))
        have hb:Nat.beq d' d=false:=by
         cases hb:Nat.beq d' d with
         | false=>rfl
         | true=>exact absurd (Nat.eq_of_beq_eq_true hb) hne
        simp only [Zy,lk,hb,cond_false]
        exact hKD.1 j oj d e1 e2 hd
     ·cases hod:ro.dst with
      | none=>exact hKD.2 j v e q
      | some d'=>
       have hne:d'≠j:=fun x=>q ro (List.mem_of_getElem? hrl) (by rw [hod,x])
       have hb:Nat.beq d' j=false:=by
        cases hb:Nat.beq d' j with
        | false=>rfl
        | true=>exact absurd (Nat.eq_of_beq_eq_true hb) hne
       simp only [Zy,lk,hb,cond_false]
       exact hKD.2 j v e q
 intro base r w A tmps ds rdv cs k hlo hrel hF hn hr hS
 have hst:=key ops.size (w.tape w.drawn (.order A.fn id)) (Array.replicate ops.size false) V0 S H (by simp) (by
  unfold todo;have:=List.countP_le_length (p:=fun i=>!(Array.replicate ops.size false).getD i false) (l:=List.range ops.size);simpa using this)
  (fun i o ho hd=>by unfold Ya at hd;simp [Array.getD_eq_getD_getElem?,Array.getElem?_replicate] at hd;split at hd<;>simp at hd)
  (by
   have:(fun i=>(Array.replicate ops.size false).getD i false)=fun _=>false:=by
    funext i
    simp only [Array.getD_eq_getD_getElem?,Array.getElem?_replicate]
    split<;>rfl
   rw [this];exact h0)
  ⟨fun i o d _ _ hd=>by simp [Array.getD_eq_getD_getElem?,Array.getElem?_replicate] at hd;split at hd<;>simp at hd,fun j v e _=>e⟩
 have hrel':Rel P r base H { w with drawn:=w.drawn+1 }:=⟨hrel.dom,hrel.cont,hrel.inj,hrel.top⟩
 have hp0:Zx P lo base r H w r H { w with drawn:=w.drawn+1 }:=⟨.refl r,hrel',Nat.le_refl _,fun _ _ e=>.inl e,fun k hk q=>rfl,fun _ _=>rfl,⟨rfl,rfl,rfl,Nat.le_refl _⟩⟩
 obtain ⟨e,S1,H1,T1,a,b,q⟩:=hst base r { w with drawn:=w.drawn+1 } A tmps ds rdv cs k hlo hrel' hF hn hr hS
 refine ⟨e,S1,H1,T1,a,b,Z8.of_steps (Steps.one KQ) ?_⟩
 simp only [Region.schedule,s.hm,Bool.true_or,if_true]
 exact Z8.after hlo hp0 (JB.refl A) q
theorem ZeA {c:Code} {l:List RO} {ms:List Nat} (h:low P n c=some (.dreg l ms)):∃ id ops ord,c=.region id ops true∧Qe ops=true∧Xb P n ops.toList ord ops.toList 0=some l∧ms=X5 ops.toList 0 []:=by
 cases c<;>simp only [low] at h
 case region id ops draw=>
  cases draw with
  | true=>
   simp only [cond_true] at h
   obtain ⟨hr,h⟩:=Zf h
   split at h<;>first | (cases h;done) | skip
   rename_i x hx
   cases h
   exact ⟨id,ops,_,rfl,hr,hx,rfl⟩
  | false=>
   simp only [cond_false] at h
   split at h<;>cases h
 all_goals first | (cases h;done) | (split at h<;>first | (cases h;done) | (split at h<;>cases h;done))
theorem qj (s:Snd P kn) {c:Code} {rl:List RO} {ms:List Nat} {S S0:Rg} {H:Hp} {K:Exit→Rg→Hp→Prop} (hL:low P n c=some (.dreg rl ms)) (hS:WB S0 S) (HP:(Nat→Bool)→(Nat→Value)→Hp→Prop) (V0:Nat→Value) (hnd:(rl.filterMap (·.dst)).Nodup) (h0:HP (fun _=>false) V0 H) (hops:ZfZ P kn lo n rl HP S0 ms rl 0)
  (hend:∀ done V H',(∀ i,i < rl.length→done i=true)→HP done V H'→K .normal (Zct V rl 0 S0) H'):Yq P lo n rd c S H K:=by
 obtain ⟨id,ops,ord,rfl,hr,hl,rfl⟩:=ZeA hL
 exact (Zcy s hr hl hnd h0 hops hend).forget hS.get
theorem ZgI (s:Snd P kn) {c:Code} {r:RC} (hl:LV P n c r):∀ {S:Rg} {H:Hp} {K:Exit→Rg→Hp→Prop},wCM P kn lo n rd r S H K→Yq P lo n rd c S H K:=by
 induction hl with
 | low h=>exact fun w=>Ym s _ h w
 | other c=>exact fun w=>w
 | seq _ _ ih1 ih2=>exact fun w=>Yq.seq ((ih1 w).mono fun e S' H' q=>by
   cases e with
   | normal=>exact ih2 q
   | _=>exact q)
 | block id _ ih=>exact fun w=>Yq.block (ih w)
 | cond o _ _ ih1 ih2=>
  intro S H K w
  simp only [wCM] at w
  split at w<;>first | exact w.elim | skip
  rename_i t ht
  cases t with
  | true=>exact Yq.cond ht (ih1 (w.1 rfl))
  | false=>exact Yq.cond ht (ih2 (w.2 rfl))
theorem ZeJ {f:FuncId} {fn:Func} {R:RC} {n:Nat} {rs:List ResultVar} {args:List Value} {H:Hp} {Q:Value→Hp→Prop} (s:Snd P kn) (hf:P.funcs[f]? = some fn) (hb:fn.body=some (at_ fn [])) (hn:fn.ntmps=n) (hz:fn.results.toList=rs) (hL:LV P n (at_ fn []) R) (hl:args.length≤n)
  (h:wCM P kn lo n false R (VA args 0) H fun e S' H'=>(match e with | .normal=>True | .ret=>True | _=>False)∧∃ vs,Wm P S' H' rs=some vs∧Q (XY vs) H'):FnM P lo f args H Q:=by
 subst hn hz
 exact zv hf hb hl (ZgI s hL h)
end
end Go.Ax

/-
 Pool: Quotas,Percent,Shares (11,13,15) (written by program).
-/
namespace Go.Ax
open Go Go.RowKit Go.Proofs

noncomputable section
noncomputable def R11D:RC:=(.dreg [oM 14 0,oD 15 3 4,⟨some 16,none,(.call ⟨(.value (.func 26)),#[(.tmp 14),(.tmp 15)],#[22,24]⟩ false)⟩,oJ 17 3 3,oL 18 17 1,oC 19 25 #[(.tmp 16),(.tmp 18)] #[60,3],oM 4 19,oN 5 0] [127,63,31,8,0,3,0,0])
theorem Zks:low Try.prog 20 (at_ Try.f11 [1,1,0])=some R11D:=by kernel_rfl
noncomputable def R11v:RC:=(.seq (.reg [oK 3 24 1,⟨some 4,none,(.mov (.const (.slice none 0 0)))⟩,oN 5 0])
 (.seq (.seq (.reg [oM 6 0,oC 7 23 #[(.tmp 6)] #[22],oU 8 7,oM 9 8,⟨some 10,(some (9,false)),(.lda (.tmp 3) 4)⟩,oH 11 9 false 24 #[(.tmp 10)] #[24],oV 12 9 false 11,oO 13 9 12])
 (.cond (.tmp 13) (.seq (.reg [⟨some 4,none,(.mov (.const (.slice none 0 0)))⟩,oN 5 1])
 .ret)
 .skip))
 (.seq (.other (at_ Try.f11 [1,1,0]))
 .ret)))
theorem V11:LV Try.prog 20 (at_ Try.f11 []) R11v:=by
 have e:at_ Try.f11 []=(.seq (at_ Try.f11 [0]) (.seq (at_ Try.f11 [1,0]) (.seq (at_ Try.f11 [1,1,0]) (at_ Try.f11 [1,1,1])))):=by kernel_rfl
 rw [e]
 exact (.seq (.low (by kernel_rfl)) (.seq (.low (by kernel_rfl)) (.seq (.other _) (.low (by kernel_rfl)))))
theorem Uc {cs:List Cp} {g:Gl} {a b:Bool} (h1:vC cs=a) (h2:vG g=b):vA cs g=(a && b):=by unfold vA;rw [h1,h2]
theorem QZ {n:Nat} (h:XR n=false) (h2:n≤256):n≤60:=by
 simp only [XR,Bool.or_eq_false_iff,Bool.and_eq_false_iff,decide_eq_false_iff_not] at h
 omega
theorem Jz {g:Gl} {cs:List Cp} (hb:cs.any YO=false) (hg:vG g=true):∀ m∈mbL g cs,okM m:=Zhi hb hg
section
variable {kn:Kn} {lo:Nat} {H:Hp}
set_option maxRecDepth 100000 in
set_option maxHeartbeats 1000000 in
theorem yU (s:Snd Try.prog kn) {cs:List Cp} {sa:Option Addr} {n cap:Nat} (hs:Sl H sa n cap (cpc cs)) (hl:cs.length=n) (hn:n≤400) (hlo:lo≤H.next) (hmn:XR n=false) {g:Gl} :
  FnM Try.prog lo 11 [.slice sa n cap,.agg (Gl.f g).toArray] H fun v H'=>∃ u,v=.tuple #[u,iv (quE cs g)]∧Acc lo H.next 44 H' u (quL cs g).length (qtc (quL cs g))∧Keep H H' []:=by
 refine ZeJ s Try.func11 B11 N11 Z11 V11 (by simp) ?_
 have hk:=Keep.refl H []
 have fs:=hs.old
 refine Zv<|UN (v:=.agg (Gl.f g).toArray) rfl ?_
 intro H1 kH1 nH1 c1
 have c1:Cl H1 H.next [iv g.y,iv g.k,iv g.b,iv g.p]:=c1
 have mH1:=kH1.1
 have hk:=hk.trans kH1
 have hs:=kH1.sl0 hs
 refine Zd rfl<|Zd rfl<|Zj<|Zv<|Zd rfl<|XB s rfl (Zb6 hs hl (by omega) (by omega)) ?_
 intro tH2 H2 hH2 kH2
 have mH2:=kH2.1
 have hk:=hk.trans kH2
 have hs:=kH2.sl0 hs
 have c1:=kH2.cl c1 (by simp)
 cases tH2
 ·have qvC:=hH2
  refine Zo (v:=.bool true) rfl rfl<|Zd rfl<|WG rfl<|WG rfl<|WG rfl<|Zo (v:=.bool true) rfl rfl<|Zj<|Yz<|Zv<|Zd rfl<|Zd rfl<|Zj ?_
  have hvA:vA cs g=false:=by first | (rw [Uc qvC qvG];rfl) | (unfold vA;rw [qvC];rfl)
  exact And.intro trivial (Exists.intro _ (And.intro rfl ⟨.slice none 0 0,by unfold quE;rw [if_neg (by rw [hvA];simp)];rfl,by unfold quL;rw [if_neg (by rw [hvA];simp)];exact .inl ⟨rfl,rfl,rfl⟩,hk⟩))
 ·have qvC:=hH2
  refine Zo (v:=.bool false) rfl rfl<|Zd rfl ?_
  refine YT rfl (Y3 (b:=H.next) (o:=0) rfl c1.rd (show row 4 _ _=some [iv g.y,iv g.k,iv g.b,iv g.p] from rfl) ?_)
  refine YT rfl (XB s rfl (ZbU (g:=g) (by omega)) ?_)
  intro tH3 H3 hH3 kH3
  have mH3:=kH3.1
  have hk:=hk.trans kH3
  have hs:=kH3.sl0 hs
  have c1:=kH3.cl c1 (by simp)
  cases tH3
  ·have qvG:=hH3
   refine YT rfl (Zo (v:=.bool true) rfl rfl ?_)
   refine Zo (v:=.bool true) rfl rfl<|Zj<|Yz<|Zv<|Zd rfl<|Zd rfl<|Zj ?_
   have hvA:vA cs g=false:=by first | (rw [Uc qvC qvG];rfl) | (unfold vA;rw [qvC];rfl)
   exact And.intro trivial (Exists.intro _ (And.intro rfl ⟨.slice none 0 0,by unfold quE;rw [if_neg (by rw [hvA];simp)];rfl,by unfold quL;rw [if_neg (by rw [hvA];simp)];exact .inl ⟨rfl,rfl,rfl⟩,hk⟩))
  ·have qvG:=hH3
   refine YT rfl (Zo (v:=.bool false) rfl rfl ?_)
   refine Zo (v:=.bool false) rfl rfl<|Zj<|ZP ?_
   first | refine YL ?_ | skip
   have hvA:vA cs g=true:=Uc qvC qvG
   have hb:=(JJ hvA).1;have hg:=(JJ hvA).2;have hsm:=QZ hmn (by have:=(ZeQ qvC).1;omega)
   have hgt:=KC hg;have hmlen:=Vo (g:=g) hb;have hmok:=Jz hb hg
   refine U3 (zV ?_)
   have hxl:lo≤H3.next:=by omega
   refine qj s Zks (S0:=[(0,.slice sa n cap),(3,.pointer (some ⟨H.next,0,none⟩))]) ⟨rfl,rfl,trivial⟩ (fun done V H'=>Keep H3 H' []∧(done 0=true→V 0=.slice sa n cap)∧(done 1=true→V 1=.agg (Gl.f g).toArray)∧(done 2=true→∃ a cp,V 2=.slice a (mbL g cs).length cp∧Sl H' a (mbL g cs).length cp (mbc (mbL g cs)))∧(done 3=true→V 3=.pointer (some ⟨H.next,0+3,none⟩))∧(done 4=true→V 4=iv g.p)∧(done 5=true→Acc lo H3.next 44 H' (V 5) (qtL g.p (mbL g cs)).length (qtc (qtL g.p (mbL g cs))))∧(done 6=true→Acc lo H3.next 44 H' (V 6) (qtL g.p (mbL g cs)).length (qtc (qtL g.p (mbL g cs))))∧(done 7=true→V 7=iv 0)) (fun _=>iv 0) (by decide) ⟨Keep.refl _ _,(fun h=>by cases h),(fun h=>by cases h),(fun h=>by cases h),(fun h=>by cases h),(fun h=>by cases h),(fun h=>by cases h),(fun h=>by cases h),(fun h=>by cases h)⟩ ⟨?_,?_,?_,?_,?_,?_,?_,?_,True.intro⟩ (fun done V H9 hd hp=>?_)
   ·rintro done V S' H' hd hm ⟨k,p0,p1,p2,p3,p4,p5,p6,p7⟩ kd
    exact Xg (Zd (kd.old rfl rfl) (Zj ⟨_,rfl,k,fun _=>rfl,p1,p2,p3,p4,p5,p6,p7⟩))
   ·rintro done V S' H' hd hm ⟨k,p0,p1,p2,p3,p4,p5,p6,p7⟩ kd
    exact Xg (Y3 (b:=H.next) (o:=0) (kd.old rfl rfl) (k.rd c1.rd (by simp)) rfl (Zj ⟨_,rfl,k,p0,fun _=>rfl,p2,p3,p4,p5,p6,p7⟩))
   ·rintro done V S' H' hd hm ⟨k,p0,p1,p2,p3,p4,p5,p6,p7⟩ kd
    have mk:=k.1
    have h14:lk S' 14=some (.slice sa n cap):=kd.own 0 rfl (hm 0 (by decide)) (p0 (hm 0 (by decide)))
    have h15:lk S' 15=some (.agg (Gl.f g).toArray):=kd.own 1 rfl (hm 1 (by decide)) (p1 (hm 1 (by decide)))
    refine Xg (YR (t:=.fn (.func 26) #[]) (vs:=[.slice sa n cap,.agg (Gl.f g).toArray]) (by simp only [YP,zg,evS,h14,h15];rfl) (Yi s.hN (WS (H:=H') s (k.sl0 hs) hl hsm hb hg (by omega))) ?_)
    rintro _ H2 ⟨k2,a,cp,rfl,hs2⟩
    exact Zj ⟨_,rfl,k.trans k2,p0,p1,fun _=>⟨a,cp,rfl,hs2⟩,p3,p4,fun h=>(p5 h).keep k2,fun h=>(p6 h).keep k2,p7⟩
   ·rintro done V S' H' hd hm ⟨k,p0,p1,p2,p3,p4,p5,p6,p7⟩ kd
    exact Xg (Wi (b:=H.next) (o:=0) (kd.old rfl rfl) (Zj ⟨_,rfl,k,p0,p1,p2,fun _=>rfl,p4,p5,p6,p7⟩))
   ·rintro done V S' H' hd hm ⟨k,p0,p1,p2,p3,p4,p5,p6,p7⟩ kd
    exact Xg (W3 (b:=H.next) (o:=0+3) (v:=iv g.p) (kd.own 3 rfl (hm 3 (by decide)) (p3 (hm 3 (by decide)))) (k.rd c1.rd (by simp)) rfl (Zj ⟨_,rfl,k,p0,p1,p2,p3,fun _=>rfl,p5,p6,p7⟩))
   ·rintro done V S' H' hd hm ⟨k,p0,p1,p2,p3,p4,p5,p6,p7⟩ kd
    have mk:=k.1
    obtain ⟨a,cp,e2,s2⟩:=p2 (hm 2 (by decide))
    have h16:lk S' 16=some (.slice a (mbL g cs).length cp):=kd.own 2 rfl (hm 2 (by decide)) e2
    have h18:lk S' 18=some (iv g.p):=kd.own 4 rfl (hm 4 (by decide)) (p4 (hm 4 (by decide)))
    obtain ⟨v,H2,f2,a2,k2⟩:=Us (kn:=kn) (lo:=lo) (H:=H') s2 rfl (by omega) (by omega) hmok (p:=g.p) (by omega) (by omega)
    exact Xg (Z5 s (t:=.fn (.func 25) #[]) (vs:=[.slice a (mbL g cs).length cp,iv g.p]) (by simp only [YP,zg,evS,h16,h18];rfl) (Zh f2) (Zj ⟨v,rfl,k.trans k2,p0,p1,fun h=>(by obtain ⟨a,cp,e,q⟩:=p2 h;exact ⟨a,cp,e,k2.sl0 q⟩),p3,p4,fun _=>a2.low (by omega),fun h=>(p6 h).keep k2,p7⟩))
   ·rintro done V S' H' hd hm ⟨k,p0,p1,p2,p3,p4,p5,p6,p7⟩ kd
    exact Xg (Zd (kd.own 5 rfl (hm 5 (by decide)) rfl) (Zj ⟨V 5,rfl,k,p0,p1,p2,p3,p4,p5,fun _=>p5 (hm 5 (by decide)),p7⟩))
   ·rintro done V S' H' hd hm ⟨k,p0,p1,p2,p3,p4,p5,p6,p7⟩ kd
    exact Xg (Zd rfl (Zj ⟨_,rfl,k,p0,p1,p2,p3,p4,p5,p6,fun _=>rfl⟩))
   obtain ⟨k,p0,p1,p2,p3,p4,p5,p6,p7⟩:=hp
   have p6:=p6 (hd 6 (by decide));have p7:=p7 (hd 7 (by decide))
   have mk:=k.1
   refine js ⟨True.intro,[V 6,V 7],rfl,V 6,?_,?_,hk.trans k⟩
   ·rw [p7];unfold quE;rw [if_pos hvA];rfl
   ·unfold quL;rw [if_pos hvA];exact p6.low (by omega)
end
end
end Go.Ax

/-
 Pool: Percent,and the document's (13,14) (written by program).
-/
namespace Go.Ax
open Go Go.RowKit Go.Proofs

noncomputable section
def tot (ms:List Mb) (k:Nat):Int:=Y5 (qtL (k:Int) ms)
theorem ZaD {ms:List Mb} (h:∀ m∈ms,okM m) {j k:Nat} (hjk:j≤k):tot ms j≤tot ms k:=by
 unfold tot
 induction ms with
 | nil=>exact Int.le_refl _
 | cons m ms ih=>
  have ih:=ih fun x hx=>h x (List.mem_cons_of_mem _ hx)
  have hm:=(h m List.mem_cons_self).2.2.1
  have h1:m.b * (j:Int)≤m.b * (k:Int):=Int.mul_le_mul_of_nonneg_left (by omega) hm
  have h2:m.b * (j:Int) / 1000≤m.b * (k:Int) / 1000:=Int.ediv_le_ediv (by decide) h1
  have e:∀ k:Int,Y5 (qtL k (m :: ms))=m.b * k / 1000+Y5 (qtL k ms):=fun k=>rfl
  rw [e,e]
  omega
theorem Zem {ms:List Mb}:tot ms 0=0:=by
 unfold tot
 induction ms with
 | nil=>rfl
 | cons m ms ih=>
  show m.b * ((0:Nat):Int) / 1000+Y5 (qtL ((0:Nat):Int) ms)=0
  rw [ih];simp
def Mx (ms:List Mb) (dm:Int) (m:Nat):Prop:=m≤1000∧tot ms m≤dm∧∀ j,j≤1000→tot ms j≤dm→j≤m
theorem Mx.uniq {ms:List Mb} {dm:Int} {m m':Nat} (h:Mx ms dm m) (h':Mx ms dm m'):m=m':=by
 have a:=h.2.2 m' h'.1 h'.2.1
 have b:=h'.2.2 m h.1 h.2.1
 omega
theorem Mx.of {ms:List Mb} {dm:Int} (hm:∀ m∈ms,okM m) (hd:0≤dm) {m:Nat} (h:Lst (ZdS ms dm) 1000 m):Mx ms dm m:=by
 obtain ⟨h1,h2,h3⟩:=h
 refine ⟨h1,?_,fun j hj hd2=>?_⟩
 ·rcases h2 with rfl | h2
  ·rw [Zem];exact hd
  ·rcases Nat.eq_zero_or_pos m with rfl | h0
   ·rw [Zem];exact hd
   ·have:=of_decide_eq_false h2
    have e:(((m - 1:Nat):Int)+1)=(m:Int):=by omega
    rw [e] at this
    unfold tot;omega
 ·rcases h3 with rfl | h3
  ·exact hj
  ·have:=of_decide_eq_true h3
   rcases Nat.lt_or_ge m j with q | q
   ·have t:=ZaD hm (show m+1≤j from q)
    have e:(((m+1:Nat):Int))=(m:Int)+1:=by omega
    unfold tot at t hd2
    rw [e] at t
    omega
   ·exact q
def PcS (cs:List Cp) (g:Gl) (dm v e:Int):Prop:=if vA cs g=true then (if inB dm 0 1099511627776=true then e=0∧∃ m:Nat,v=m∧Mx (mbL g cs) dm m else v=0∧e=2) else v=0∧e=1
theorem PcS.uniq {cs:List Cp} {g:Gl} {dm v e v' e':Int} (h:PcS cs g dm v e) (h':PcS cs g dm v' e'):v=v'∧e=e':=by
 unfold PcS at h h'
 split at h<;>rename_i q
 ·rw [if_pos q] at h'
  split at h<;>rename_i q2
  ·rw [if_pos q2] at h'
   obtain ⟨rfl,m,rfl,hm⟩:=h
   obtain ⟨rfl,m',rfl,hm'⟩:=h'
   exact ⟨by rw [hm.uniq hm'],rfl⟩
  ·rw [if_neg q2] at h'
   exact ⟨h.1.trans h'.1.symm,h.2.trans h'.2.symm⟩
 ·rw [if_neg q] at h'
  exact ⟨h.1.trans h'.1.symm,h.2.trans h'.2.symm⟩
theorem yb {p:Int} {ms:List Mb} {i:Nat} (h:i < ms.length):(qtL p ms).getD i Qt.z=qtM p (ms.getD i Mb.z):=by
 unfold qtL
 rw [List.getD_eq_getElem?_getD,List.getElem?_map,List.getD_eq_getElem?_getD,List.getElem?_eq_getElem h];rfl
theorem X7 {p:Int} {ms:List Mb}:(qtL p ms).length=ms.length:=by unfold qtL;rw [List.length_map]
theorem zA {a b:List Qt}:Y5 (a ++ b)=Y5 a+Y5 b:=by unfold Y5;rw [List.map_append,VL]
theorem ZgV {p:Int} {ms:List Mb} {i:Nat} (h:i < ms.length):Y5 ((qtL p ms).take (i+1))=Y5 ((qtL p ms).take i)+(ms.getD i Mb.z).b * p / 1000:=by
 rw [Y4 (z:=Qt.z) (by rw [X7];exact h),zA,yb h]
 show _+((ms.getD i Mb.z).b * p / 1000+0)=_
 omega
theorem ZfD {l:List Qt} (h:∀ q∈l,okQ q) (i:Nat) (hl:l.length≤400):0≤Y5 (l.take i)∧Y5 (l.take i)≤2199023255552 * 400:=by
 have q:∀ a∈(l.take i).map (·.a),0≤a∧a≤2199023255552:=qf fun q hq=>h q (List.mem_of_mem_take hq)
 have:=Vr (k:=((l.take i).map (·.a)).length) q
 rw [KG] at this
 have e:min ((l.take i).map (·.a)).length ((l.take i).map (·.a)).length≤400:=by simp only [List.length_map,List.length_take];omega
 have:=Zao (B:=2199023255552) (by decide) e
 unfold Y5
 omega
section
variable {kn:Kn} {lo:Nat} {H:Hp}
set_option maxRecDepth 100000 in
theorem yp {cs:List Cp} {sa:Option Addr} {n cap:Nat} (hs:Sl H sa n cap (cpc cs)) (hl:cs.length=n) (hn:n≤400) (hlo:lo≤H.next) {g:Gl} {dm:Int}:∃ v e H',FnX Try.prog kn lo 14 [.slice sa n cap,.agg (Gl.f g).toArray,iv dm] H (.tuple #[iv v,iv e]) H'∧PcS cs g dm v e∧Keep H H' []:=by
 have key:=Zp (kn:=kn) (lo:=lo) (H:=H) (args:=[.slice sa n cap,.agg (Gl.f g).toArray,iv dm]) (Q:=fun w H'=>∃ v e,w=.tuple #[iv v,iv e]∧PcS cs g dm v e∧Keep H H' []) Try.func14 B14 N14 Z14 L14 (by simp) ?_
 ·obtain ⟨w,H',h,v,e,rfl,q⟩:=key;exact ⟨v,e,H',h,q⟩
 have hk:=Keep.refl H []
 have fs:=hs.old
 refine Zc<|YD (v:=.agg (Gl.f g).toArray) rfl ?_
 intro H1 kH1 nH1 c1
 have c1:Cl H1 H.next [iv g.y,iv g.k,iv g.b,iv g.p]:=c1
 have mH1:=kH1.1
 have hk:=hk.trans kH1
 have hs:=kH1.sl0 hs
 refine Za rfl<|Za rfl<|Zb<|Zc<|Za rfl<|Y2 (b:=H.next) (o:=0) rfl c1.rd (show row 4 _ _=some [iv g.y,iv g.k,iv g.b,iv g.p] from rfl)<|ZN rfl (Zd0 hs hl (by omega) (by omega)) ?_
 intro tH2 H2 hH2 kH2
 have mH2:=kH2.1
 have hk:=hk.trans kH2
 have hs:=kH2.sl0 hs
 have c1:=kH2.cl c1 (by simp)
 cases tH2
 ·have hvA:vA cs g=false:=hH2
  refine Zg (v:=.bool true) rfl rfl<|Zb<|Yz<|Zc<|Za rfl<|Za rfl<|Zb ?_
  exact And.intro trivial (Exists.intro _ (And.intro rfl ⟨0,1,rfl,by unfold PcS;rw [if_neg (by rw [hvA];simp)];exact ⟨rfl,rfl⟩,hk⟩))
 ·have hvA:vA cs g=true:=hH2
  obtain ⟨hb,hg⟩:=JJ hvA
  refine Zg (v:=.bool false) rfl rfl<|Zb<|ZP ?_
  first | refine Zi ?_ | skip
  refine Zc<|Za rfl<|ZN rfl (WA (n:=dm) (a:=0) (m:=1099511627776)) ?_
  intro tH3 H3 hH3 kH3
  have mH3:=kH3.1
  have hk:=hk.trans kH3
  have hs:=kH3.sl0 hs
  have c1:=kH3.cl c1 (by simp)
  cases tH3
  ·have hdm:=hH3;have hdmu:=Y7 hH3
   refine Zg (v:=.bool true) rfl rfl<|Zb<|Yz<|Zc<|Za rfl<|Za rfl<|Zb ?_
   exact And.intro trivial (Exists.intro _ (And.intro rfl ⟨0,2,rfl,by unfold PcS;rw [if_pos hvA,if_neg (by rw [hdm];simp)];exact ⟨rfl,rfl⟩,hk⟩))
  ·have hdm:=hH3;have hdmu:=Yv hH3
   refine Zg (v:=.bool false) rfl rfl<|Zb<|ZP ?_
   first | refine Zi ?_ | skip
   refine Zc<|Za rfl<|Y2 (b:=H.next) (o:=0) rfl c1.rd (show row 4 _ _=some [iv g.y,iv g.k,iv g.b,iv g.p] from rfl) ?_
   obtain ⟨qv,H4,fH4,hqa,kH4⟩:=zH (kn:=kn) (lo:=lo) (H:=H3) hs hl hn (by omega) hb hg
   refine Zu (vs:=[.slice sa n cap,.agg (Gl.f g).toArray]) rfl (Zh fH4) ?_
   have mH4:=kH4.1
   have hk:=hk.trans kH4
   have hs:=kH4.sl0 hs
   have c1:=kH4.cl c1 (by simp)
   obtain ⟨qa,qcap,rfl,hqs,_⟩:=hqa.sl
   rw [X7] at hqs ⊢
   have hgt:=KC hg;have hmlen:=Vo (g:=g) hb;have hmok:=Jz hb hg
   have fq:=hqs.old
   obtain ⟨M,eM⟩:∃ M,M=(mbL g cs).length:=⟨_,rfl⟩
   rw [← eM] at hqs ⊢
   refine Za rfl<|Zb<|Zc<|Za rfl<|Zb<|Zc<|Za rfl<|Zb ?_
   refine Zt (fn:=Try.f14) Zjj N14 ZiS (fun y:Nat × Nat=>[(2,iv dm),(8,.slice qa M qcap),(9,iv (y.2:Int)),(10,iv (y.1:Int))])
    (fun k y H'=>y.1+k=1001∧Keep H H' []∧Sl H' qa M qcap (qtc (qtL g.p (mbL g cs)))∧y.2≤1000∧tot (mbL g cs) y.2≤dm∧∀ j,j < y.1→tot (mbL g cs) j≤dm→j≤y.2) 1001 (0,0) ⟨by simp,hk,hqs,by simp,by simp only [];rw [Zem];omega,fun j h=>absurd h (by simp)⟩ ⟨rfl,rfl,rfl,rfl,trivial⟩ ?_
   rintro k ⟨y,b⟩ L1 ⟨hyk,hk,hqs,hy1,hy2,hy3⟩
   simp only [] at hyk hy1 hy2 hy3
   have mk:=hk.1
   refine Zc<|Za rfl<|Xr (a:=(y:Int)) (b:=1000) rfl rfl<|Zb ?_
   refine And.intro (fun q1=>?_) (fun q1=>?_)
   ·have q1:(y:Int)≤1000:=of_decide_eq_true q1
    first | refine Zi ?_ | skip
    refine Zc<|Za rfl<|Zb<|Zc<|Za rfl<|Zb ?_
    have hqok:=Zdv hmok (p:=(y:Int)) (by omega) (by omega)
    refine Zt (fn:=Try.f14) Zj7 N14 ZjX (fun i:Nat=>[(2,iv dm),(8,.slice qa M qcap),(9,iv (b:Int)),(10,iv (y:Int)),(11,iv (Y5 ((qtL (y:Int) (mbL g cs)).take i))),(12,iv (i:Int))])
     (fun m i H'=>i+m=M∧Keep H H' []∧Sl H' qa M qcap (qtc (qtL g.p (mbL g cs)))) M 0 ⟨by omega,hk,hqs⟩ ⟨rfl,rfl,rfl,rfl,rfl,rfl,trivial⟩ ?_
    rintro m i L2 ⟨him,hk,hqs⟩
    have mk2:=hk.1
    refine Zc<|Za rfl<|Za rfl<|Z6 (m:=M) rfl<|ZC (a:=(i:Int)) (b:=(M:Int)) rfl rfl<|Zb ?_
    refine And.intro (fun q2=>?_) (fun q2=>?_)
    ·have q2:(i:Int) < (M:Int):=of_decide_eq_true q2
     have hi:i < M:=by omega
     rcases id hqs with ⟨_,h0s,_⟩ | ⟨sb,es,rs,_⟩
     ·omega
     have ls:=rs.1
     have hmi:=Y9 (z:=Mb.z) hmok (show i < (mbL g cs).length by omega)
     obtain ⟨hm1,hm2,hm3,hm4⟩:=hmi
     have hmul:=jb hm3 hm4 (show 0≤(y:Int) by omega) (show (y:Int)≤1000 by omega)
     have hal:=ZfD hqok i (by rw [X7];omega)
     first | refine Zi ?_ | skip
     show Zl _ _ _ _ _ _ _ _
     refine Za rfl<|Za rfl<|Za rfl<|YZ (b:=sb) (o:=0) (k:=i) (j:=(i:Int)) (by rw [← es];rfl) rfl rfl hi<|ZB (b:=sb) (o:=0+i * 3) rfl<|ZZ (b:=sb) (o:=0+i * 3+1) (v:=iv (((mbL g cs).getD i Mb.z).b)) rfl rs (by have:=VY (l:=(qtL g.p (mbL g cs))) (i:=i) (j:=1) (by rw [X7];omega) rfl;rw [yb (by omega)] at this;exact this)<|Za rfl<|Wp (a:=((mbL g cs).getD i Mb.z).b) (b:=(y:Int)) rfl rfl ⟨by omega,by omega⟩<|JU (a:=(((mbL g cs).getD i Mb.z).b) * (y:Int)) (b:=1000) rfl rfl (by omega) (by omega) ⟨by omega,by omega⟩<|Zs (a:=(Y5 ((qtL (y:Int) (mbL g cs)).take i))) (b:=((((mbL g cs).getD i Mb.z).b) * (y:Int)) / 1000) rfl rfl ⟨by omega,by omega⟩<|Za rfl<|Zb ?_
     show Zl _ _ _ _ _ _ _ _
     refine Za rfl<|Zs (a:=(i:Int)) (b:=1) rfl rfl ⟨by omega,by omega⟩<|Za rfl<|Zb ?_
     exact ⟨m - 1,i+1,by omega,⟨by omega,hk,hqs⟩,rfl,rfl,rfl,rfl,by rw [ZgV (by omega)];rfl,rfl,trivial⟩
    ·have q2:¬ ((i:Int) < (M:Int)):=of_decide_eq_false q2
     have eiM:i=M:=by omega
     rw [eiM,List.take_of_length_le (by rw [X7];omega)]
     first | (refine Zz ?_;show wC _ _ _ _ _ _ _ _ _) | skip
     refine Zc<|Za rfl<|Za rfl<|Xr (a:=(Y5 (qtL (y:Int) (mbL g cs)))) (b:=dm) rfl rfl<|Zb ?_
     refine And.intro (fun q3=>?_) (fun q3=>?_)
     ·have q3:(Y5 (qtL (y:Int) (mbL g cs)))≤dm:=of_decide_eq_true q3
      show Zl _ _ _ _ _ _ _ _
      refine Za rfl<|Za rfl<|Zb ?_
      show Zl _ _ _ _ _ _ _ _
      refine Za rfl<|Zs (a:=(y:Int)) (b:=1) rfl rfl ⟨by omega,by omega⟩<|Za rfl<|Zb ?_
      exact ⟨k - 1,(y+1,y),by omega,⟨by simp only [];omega,hk,hqs,by simp only [];omega,by simp only [];unfold tot;omega,fun j hj h=>by simp only [] at hj ⊢;omega⟩,rfl,rfl,rfl,rfl,trivial⟩
     ·have q3:¬ ((Y5 (qtL (y:Int) (mbL g cs)))≤dm):=of_decide_eq_false q3
      first | refine Zi ?_ | skip
      show Zl _ _ _ _ _ _ _ _
      refine Za rfl<|Zs (a:=(y:Int)) (b:=1) rfl rfl ⟨by omega,by omega⟩<|Za rfl<|Zb ?_
      exact ⟨k - 1,(y+1,b),by omega,⟨by simp only [];omega,hk,hqs,hy1,hy2,fun j hj h=>by rcases Nat.lt_or_ge j y with c | c;exact hy3 j c h;rw [show j=y by omega] at h;unfold tot at h;omega⟩,rfl,rfl,rfl,rfl,trivial⟩
   ·have q1:¬ ((y:Int)≤1000):=of_decide_eq_false q1
    first | (refine Zz ?_;show wC _ _ _ _ _ _ _ _ _) | skip
    refine Zc<|Za rfl<|Za rfl<|Za rfl<|Zb ?_
    have ey:y=1001:=by omega
    rw [ey] at hy3
    exact And.intro trivial (Exists.intro _ (And.intro rfl ⟨(b:Int),0,rfl,by unfold PcS;rw [if_pos hvA,if_pos hdm];exact ⟨rfl,b,rfl,hy1,hy2,fun j hj h=>hy3 j (by omega) h⟩,hk⟩))
set_option maxRecDepth 100000 in
set_option maxHeartbeats 1000000 in
theorem zj (s:Snd Try.prog kn) {cs:List Cp} {sa:Option Addr} {n cap:Nat} (hs:Sl H sa n cap (cpc cs)) (hl:cs.length=n) (hn:n≤400) (hlo:lo≤H.next) (hmn:XR n=false) {g:Gl} {dm:Int} :
  FnM Try.prog lo 13 [.slice sa n cap,.agg (Gl.f g).toArray,iv dm] H fun v H'=>∃ u e,v=.tuple #[iv u,iv e]∧PcS cs g dm u e∧Keep H H' []:=by
 refine WV s Try.func13 B13 N13 Z13 L13 (by simp) ?_
 have hk:=Keep.refl H []
 have fs:=hs.old
 refine Zv<|UN (v:=.agg (Gl.f g).toArray) rfl ?_
 intro H1 kH1 nH1 c1
 have c1:Cl H1 H.next [iv g.y,iv g.k,iv g.b,iv g.p]:=c1
 have mH1:=kH1.1
 have hk:=hk.trans kH1
 have hs:=kH1.sl0 hs
 refine Zd rfl<|Zd rfl<|Zj<|Zv<|Zd rfl<|XB s rfl (Zb6 hs hl (by omega) (by omega)) ?_
 intro tH2 H2 hH2 kH2
 have mH2:=kH2.1
 have hk:=hk.trans kH2
 have hs:=kH2.sl0 hs
 have c1:=kH2.cl c1 (by simp)
 cases tH2
 ·have qvC:=hH2
  refine Zo (v:=.bool true) rfl rfl<|Zd rfl<|WG rfl<|WG rfl<|WG rfl<|Zo (v:=.bool true) rfl rfl<|Zj<|Yz<|Zv<|Zd rfl<|Zd rfl<|Zj ?_
  have hvA:vA cs g=false:=by first | (rw [Uc qvC qvG];rfl) | (unfold vA;rw [qvC];rfl)
  exact And.intro trivial (Exists.intro _ (And.intro rfl ⟨0,1,rfl,by unfold PcS;rw [if_neg (by rw [hvA];simp)];exact ⟨rfl,rfl⟩,hk⟩))
 ·have qvC:=hH2
  refine Zo (v:=.bool false) rfl rfl<|Zd rfl ?_
  refine YT rfl (Y3 (b:=H.next) (o:=0) rfl c1.rd (show row 4 _ _=some [iv g.y,iv g.k,iv g.b,iv g.p] from rfl) ?_)
  refine YT rfl (XB s rfl (ZbU (g:=g) (by omega)) ?_)
  intro tH3 H3 hH3 kH3
  have mH3:=kH3.1
  have hk:=hk.trans kH3
  have hs:=kH3.sl0 hs
  have c1:=kH3.cl c1 (by simp)
  cases tH3
  ·have qvG:=hH3
   refine YT rfl (Zo (v:=.bool true) rfl rfl ?_)
   refine Zo (v:=.bool true) rfl rfl<|Zj<|Yz<|Zv<|Zd rfl<|Zd rfl<|Zj ?_
   have hvA:vA cs g=false:=by first | (rw [Uc qvC qvG];rfl) | (unfold vA;rw [qvC];rfl)
   exact And.intro trivial (Exists.intro _ (And.intro rfl ⟨0,1,rfl,by unfold PcS;rw [if_neg (by rw [hvA];simp)];exact ⟨rfl,rfl⟩,hk⟩))
  ·have qvG:=hH3
   refine YT rfl (Zo (v:=.bool false) rfl rfl ?_)
   refine Zo (v:=.bool false) rfl rfl<|Zj<|ZP ?_
   first | refine YL ?_ | skip
   refine Zv<|Zd rfl ?_
   have hvA:vA cs g=true:=Uc qvC qvG
   have hb:=(JJ hvA).1;have hg:=(JJ hvA).2;have hsm:=QZ hmn (by have:=(ZeQ qvC).1;omega)
   have hgt:=KC hg;have hmlen:=Vo (g:=g) hb;have hmok:=Jz hb hg
   refine XB s rfl (XH (n:=dm) (m:=1099511627776)) ?_
   intro tH4 H4 hH4 kH4
   have mH4:=kH4.1
   have hk:=hk.trans kH4
   have hs:=kH4.sl0 hs
   have c1:=kH4.cl c1 (by simp)
   cases tH4
   ·have hdm:=hH4;have hdmu:=Y7 hH4
    refine Zo (v:=.bool true) rfl rfl<|Zj<|Yz<|Zv<|Zd rfl<|Zd rfl<|Zj ?_
    exact And.intro trivial (Exists.intro _ (And.intro rfl ⟨0,2,rfl,by unfold PcS;rw [if_pos hvA,if_neg (by rw [hdm];simp)];exact ⟨rfl,rfl⟩,hk⟩))
   ·have hdm:=hH4;have hdmu:=Yv hH4
    refine Zo (v:=.bool false) rfl rfl<|Zj<|ZP ?_
    first | refine YL ?_ | skip
    refine Zv<|Zd rfl<|Y3 (b:=H.next) (o:=0) rfl c1.rd (show row 4 _ _=some [iv g.y,iv g.k,iv g.b,iv g.p] from rfl)<|YR (t:=.fn (.func 26) #[]) rfl (Yi s.hN (WS (H:=H4) s hs hl hsm hb hg (by omega))) ?_
    rintro _ H5 ⟨kH5,ma,mcap,rfl,hms⟩
    have mH5:=kH5.1
    have hk:=hk.trans kH5
    have hs:=kH5.sl0 hs
    have c1:=kH5.cl c1 (by simp)
    have fm:=hms.old
    refine Zd rfl ?_
    obtain ⟨m,H6,fH6,hL,kH6⟩:=jT (kn:=kn) (lo:=lo) (H:=H5) hms rfl (by omega) (by omega) hmok (dm:=dm)
    refine Z5 s (vs:=[.slice ma (mbL g cs).length mcap,iv dm]) rfl (Zh fH6) ?_
    have mH6:=kH6.1
    have hk:=hk.trans kH6
    have hs:=kH6.sl0 hs
    have c1:=kH6.cl c1 (by simp)
    have hms:=kH6.sl0 hms
    refine Zd rfl<|Zd rfl<|Zj ?_
    exact And.intro trivial (Exists.intro _ (And.intro rfl ⟨(m:Int),0,rfl,by unfold PcS;rw [if_pos hvA,if_pos hdm];exact ⟨rfl,m,rfl,Mx.of hmok hdmu.1 hL⟩,hk⟩))
end
end
end Go.Ax

/-
 Pool: Shares (15) (written by program).
-/
namespace Go.Ax
open Go Go.RowKit Go.Proofs

noncomputable section
def JX (ms:List Mb) (tot:Int) (x:Nat):Int:=-(tot * (ms.getD x Mb.z).b % ZW ms)
def shX (ms:List Mb) (tot:Int) (ps:List Nat):List Qt:=(List.range ms.length).map fun i=>⟨(ms.getD i Mb.z).g,(ms.getD i Mb.z).b,tot * (ms.getD i Mb.z).b / ZW ms+(if i∈ps then 1 else 0)⟩
theorem Vl {ms:List Mb} {tot:Int} {ps:List Nat}:(shX ms tot ps).length=ms.length:=by simp [shX]
structure Pso (key:Nat→Int) (n:Nat) (ps:List Nat):Prop where
 nd:ps.Nodup
 lt:∀ p∈ps,p < n
 bf:∀ p∈ps,∀ q,q < n→q ∉ ps→Lk key p q
theorem Zep {n:Nat} {s:Nat→Nat} (p:PRm 0 n (fun i=>i) s) {q:Nat} (h:q < n):∃ i,i < n∧s i=q:=by
 have hid:rg (fun i:Nat=>i) 0 n=List.range n:=by unfold rg;rw [List.range_eq_range'];simp
 have hp:=p.perm
 rw [hid] at hp
 have:=hp.mem_iff.2 (List.mem_range.2 h)
 unfold rg at this
 obtain ⟨i,hi,e⟩:=List.mem_map.1 this
 refine ⟨i,?_,e⟩
 have:=List.mem_range'.1 hi
 omega
theorem Pso.of {key:Nat→Int} {n K:Nat} {s:Nat→Nat} (p:PRm 0 n (fun i=>i) s) (h:So key 0 n s) (hK:K≤n):Pso key n ((List.range K).map s):=by
 refine ⟨zr List.nodup_range fun a ha b hb e=>Zck p (by have:=List.mem_range.1 ha;omega) (by have:=List.mem_range.1 hb;omega) e,fun x hx=>?_,fun x hx q hq hn=>?_⟩
 ·obtain ⟨i,hi,rfl⟩:=List.mem_map.1 hx
  exact qK p (by have:=List.mem_range.1 hi;omega)
 ·obtain ⟨i,hi,rfl⟩:=List.mem_map.1 hx
  obtain ⟨j,hj,rfl⟩:=Zep p hq
  have hjK:¬ j < K:=fun q=>hn (List.mem_map.2 ⟨j,List.mem_range.2 q,rfl⟩)
  have:=List.mem_range.1 hi
  exact h i j (Nat.zero_le _) (by omega) hj
theorem Pso.sub {key:Nat→Int} {n:Nat} {ps qs:List Nat} (h:Pso key n ps) (k:Pso key n qs) (e:ps.length=qs.length) {i:Nat} (hi:i∈ps):i∈qs:=by
 refine Classical.byContradiction fun hn=>?_
 have:∃ j,j∈qs∧j ∉ ps:=Classical.byContradiction fun q=>by
  have hs:∀ x∈i :: qs,x∈ps:=fun x hx=>by
   rcases List.mem_cons.1 hx with rfl | hx
   ·exact hi
   ·exact Classical.byContradiction fun z=>q ⟨x,hx,z⟩
  have:=Xt (List.nodup_cons.2 ⟨hn,k.nd⟩) hs
  simp only [List.length_cons] at this
  omega
 obtain ⟨j,hj,hj2⟩:=this
 have a:=h.bf i hi j (k.lt j hj) hj2
 have b:=k.bf j hj i (h.lt i hi) hn
 unfold Lk at a b
 omega
theorem Pso.shX {ms:List Mb} {tot:Int} {key:Nat→Int} {n:Nat} {ps qs:List Nat} (h:Pso key n ps) (k:Pso key n qs) (e:ps.length=qs.length):shX ms tot ps=shX ms tot qs:=by
 unfold Go.Ax.shX
 refine List.map_congr_left fun i _=>?_
 have:i∈ps↔i∈qs:=⟨h.sub k e,k.sub h e.symm⟩
 simp only [this]
def ShS (cs:List Cp) (g:Gl) (tot:Int) (l:List Qt) (e:Int):Prop:=
 if vA cs g=true then (if inB tot 0 1048576=true then (if ZW (mbL g cs)=0 then l=[]∧e=4 else e=0∧∃ ps,Pso (JX (mbL g cs) tot) (mbL g cs).length ps∧ps.length=(Uf (mbL g cs) tot).toNat∧l=shX (mbL g cs) tot ps) else l=[]∧e=2) else l=[]∧e=1
theorem ShS.uniq {cs:List Cp} {g:Gl} {tot e e':Int} {l l':List Qt} (h:ShS cs g tot l e) (h':ShS cs g tot l' e'):l=l'∧e=e':=by
 unfold ShS at h h'
 split at h<;>rename_i q
 ·rw [if_pos q] at h'
  split at h<;>rename_i q2
  ·rw [if_pos q2] at h'
   split at h<;>rename_i q3
   ·rw [if_pos q3] at h';exact ⟨h.1.trans h'.1.symm,h.2.trans h'.2.symm⟩
   ·rw [if_neg q3] at h'
    obtain ⟨e0,ps,h1,h2,el⟩:=h
    obtain ⟨e0',qs,h1',h2',el'⟩:=h'
    exact ⟨el.trans ((h1.shX h1' (h2.trans h2'.symm)).trans el'.symm),e0.trans e0'.symm⟩
  ·rw [if_neg q2] at h';exact ⟨h.1.trans h'.1.symm,h.2.trans h'.2.symm⟩
 ·rw [if_neg q] at h';exact ⟨h.1.trans h'.1.symm,h.2.trans h'.2.symm⟩
theorem jk {ms:List Mb} (h:∀ m∈ms,okM m) (hl:ms.length≤400):0≤ZW ms∧ZW ms≤439804651110400:=by
 have:=Vr (k:=(ms.map (·.b)).length) (Zcq h)
 rw [KG] at this
 have e:min (ms.map (·.b)).length (ms.map (·.b)).length≤400:=by simp only [List.length_map];omega
 have:=Zao (B:=1099511627776) (by decide) e
 unfold ZW
 omega
theorem Zam {ms:List Mb} (h:ZW ms≠0):0 < ms.length:=by
 rcases Nat.eq_zero_or_pos ms.length with e | e
 ·have:ms=[]:=List.eq_nil_of_length_eq_zero e
  subst this;exact (h (show YQ (fun x=>x) ([]:List Int)=0 from rfl)).elim
 ·exact e
section
variable {kn:Kn} {lo:Nat} {H:Hp}
set_option maxRecDepth 100000 in
set_option maxHeartbeats 1000000 in
theorem yy (s:Snd Try.prog kn) {cs:List Cp} {sa:Option Addr} {n cap:Nat} (hs:Sl H sa n cap (cpc cs)) (hl:cs.length=n) (hn:n≤400) (hlo:lo≤H.next) (hmn:XR n=false) {g:Gl} {tot:Int} :
  FnM Try.prog lo 15 [.slice sa n cap,.agg (Gl.f g).toArray,iv tot] H fun v H'=>∃ u l e,v=.tuple #[u,iv e]∧ShS cs g tot l e∧(∃ a cp,u=.slice a l.length cp∧Sl H' a l.length cp (qtc l))∧Keep H H' []:=by
 refine WV s Try.func15 B15 N15 Z15 L15 (by simp) ?_
 have hk:=Keep.refl H []
 have fs:=hs.old
 refine Zv<|UN (v:=.agg (Gl.f g).toArray) rfl ?_
 intro H1 kH1 nH1 c1
 have c1:Cl H1 H.next [iv g.y,iv g.k,iv g.b,iv g.p]:=c1
 have mH1:=kH1.1
 have hk:=hk.trans kH1
 have hs:=kH1.sl0 hs
 refine Zd rfl<|Zd rfl<|Zj<|Zv<|Zd rfl<|XB s rfl (Zb6 hs hl (by omega) (by omega)) ?_
 intro tH2 H2 hH2 kH2
 have mH2:=kH2.1
 have hk:=hk.trans kH2
 have hs:=kH2.sl0 hs
 have c1:=kH2.cl c1 (by simp)
 cases tH2
 ·have qvC:=hH2
  refine Zo (v:=.bool true) rfl rfl<|Zd rfl<|WG rfl<|WG rfl<|WG rfl<|Zo (v:=.bool true) rfl rfl<|Zj<|Yz<|Zv<|Zd rfl<|Zd rfl<|Zj ?_
  have hvA:vA cs g=false:=by first | (rw [Uc qvC qvG];rfl) | (unfold vA;rw [qvC];rfl)
  exact And.intro trivial (Exists.intro _ (And.intro rfl ⟨.slice none 0 0,[],1,rfl,by unfold ShS;rw [if_neg (by rw [hvA];simp)];exact ⟨rfl,rfl⟩,⟨none,0,rfl,.inl ⟨.inl rfl,rfl,rfl,rfl⟩⟩,hk⟩))
 ·have qvC:=hH2
  refine Zo (v:=.bool false) rfl rfl<|Zd rfl ?_
  refine YT rfl (Y3 (b:=H.next) (o:=0) rfl c1.rd (show row 4 _ _=some [iv g.y,iv g.k,iv g.b,iv g.p] from rfl) ?_)
  refine YT rfl (XB s rfl (ZbU (g:=g) (by omega)) ?_)
  intro tH3 H3 hH3 kH3
  have mH3:=kH3.1
  have hk:=hk.trans kH3
  have hs:=kH3.sl0 hs
  have c1:=kH3.cl c1 (by simp)
  cases tH3
  ·have qvG:=hH3
   refine YT rfl (Zo (v:=.bool true) rfl rfl ?_)
   refine Zo (v:=.bool true) rfl rfl<|Zj<|Yz<|Zv<|Zd rfl<|Zd rfl<|Zj ?_
   have hvA:vA cs g=false:=by first | (rw [Uc qvC qvG];rfl) | (unfold vA;rw [qvC];rfl)
   exact And.intro trivial (Exists.intro _ (And.intro rfl ⟨.slice none 0 0,[],1,rfl,by unfold ShS;rw [if_neg (by rw [hvA];simp)];exact ⟨rfl,rfl⟩,⟨none,0,rfl,.inl ⟨.inl rfl,rfl,rfl,rfl⟩⟩,hk⟩))
  ·have qvG:=hH3
   refine YT rfl (Zo (v:=.bool false) rfl rfl ?_)
   refine Zo (v:=.bool false) rfl rfl<|Zj<|ZP ?_
   first | refine YL ?_ | skip
   refine Zv<|Zd rfl ?_
   have hvA:vA cs g=true:=Uc qvC qvG
   have hb:=(JJ hvA).1;have hg:=(JJ hvA).2;have hsm:=QZ hmn (by have:=(ZeQ qvC).1;omega)
   have hgt:=KC hg;have hmlen:=Vo (g:=g) hb;have hmok:=Jz hb hg
   refine XB s rfl (XH (n:=tot) (m:=1048576)) ?_
   intro tH4 H4 hH4 kH4
   have mH4:=kH4.1
   have hk:=hk.trans kH4
   have hs:=kH4.sl0 hs
   have c1:=kH4.cl c1 (by simp)
   cases tH4
   ·have hdm:=hH4;have hdmu:=Y7 hH4
    refine Zo (v:=.bool true) rfl rfl<|Zj<|Yz<|Zv<|Zd rfl<|Zd rfl<|Zj ?_
    exact And.intro trivial (Exists.intro _ (And.intro rfl ⟨.slice none 0 0,[],2,rfl,by unfold ShS;rw [if_pos hvA,if_neg (by rw [hdm];simp)];exact ⟨rfl,rfl⟩,⟨none,0,rfl,.inl ⟨.inl rfl,rfl,rfl,rfl⟩⟩,hk⟩))
   ·have hdm:=hH4;have hdmu:=Yv hH4
    refine Zo (v:=.bool false) rfl rfl<|Zj<|ZP ?_
    first | refine YL ?_ | skip
    refine Zv<|Zd rfl<|Y3 (b:=H.next) (o:=0) rfl c1.rd (show row 4 _ _=some [iv g.y,iv g.k,iv g.b,iv g.p] from rfl)<|YR (t:=.fn (.func 26) #[]) rfl (Yi s.hN (WS (H:=H4) s hs hl hsm hb hg (by omega))) ?_
    rintro _ H5 ⟨kH5,ma,mcap,rfl,hms⟩
    have mH5:=kH5.1
    have hk:=hk.trans kH5
    have hs:=kH5.sl0 hs
    have c1:=kH5.cl c1 (by simp)
    have fm:=hms.old
    refine Zd rfl<|Zj<|Zv<|Zd rfl ?_
    obtain ⟨H6,fH6,kH6⟩:=JR (kn:=kn) (lo:=lo) (H:=H5) hms rfl (by omega) (by omega) hmok
    refine Z5 s (vs:=[.slice ma (mbL g cs).length mcap]) rfl (Zh fH6) ?_
    have mH6:=kH6.1
    have hk:=hk.trans kH6
    have hs:=kH6.sl0 hs
    have c1:=kH6.cl c1 (by simp)
    have hms:=kH6.sl0 hms
    have hab:=jk hmok (by omega)
    refine Zd5 (a:=(ZW (mbL g cs))) (b:=0) rfl rfl<|Zj ?_
    refine And.intro (fun q1=>?_) (fun q1=>?_)
    ·have q1:(ZW (mbL g cs))=0:=by simpa using q1
     refine Zv<|Zd rfl<|Zd rfl<|Zj ?_
     have hze:ZW (mbL g cs)=0:=by omega
     exact And.intro trivial (Exists.intro _ (And.intro rfl ⟨.slice none 0 0,[],4,rfl,by unfold ShS;rw [if_pos hvA,if_pos hdm,if_pos hze];exact ⟨rfl,rfl⟩,⟨none,0,rfl,.inl ⟨.inl rfl,rfl,rfl,rfl⟩⟩,hk⟩))
    ·have q1:¬ ((ZW (mbL g cs))=0):=by simpa using q1
     first | refine YL ?_ | skip
     refine Zv<|Zd rfl<|Zd rfl ?_
     have hne:ZW (mbL g cs)≠0:=by omega
     have hpos:=Zam hne
     have hlen:=hmlen
     obtain ⟨σ,qb,H7,fH7,hpr,hso,hqb,hq,kH7⟩:=jY (kn:=kn) (lo:=lo) (H:=H6) hms rfl (by omega) (by omega) hmok (by omega) hpos hdmu.1 hdmu.2 (by omega) hab.2
     refine Z5 s (vs:=[.slice ma (mbL g cs).length mcap,iv tot]) rfl (Zh fH7) ?_
     have mH7:=kH7.1
     have hk:=hk.trans kH7
     have hs:=kH7.sl0 hs
     have c1:=kH7.cl c1 (by simp)
     have hms:=kH7.sl0 hms
     refine Zd rfl<|Zd rfl<|Zj ?_
     have hmk:=zf (tot:=tot) (show 0 < ZW (mbL g cs) by omega)
     have hps:=Pso.of (K:=(Uf (mbL g cs) tot).toNat) hpr hso (by omega)
     exact And.intro trivial (Exists.intro _ (And.intro rfl ⟨_,_,0,rfl,by unfold ShS;rw [if_pos hvA,if_pos hdm,if_neg hne];exact ⟨rfl,_,hps,by rw [List.length_map,List.length_range],rfl⟩,⟨some ⟨qb,0,none⟩,(mbL g cs).length,by rw [Vl],by rw [Vl];exact .inr ⟨qb,rfl,hq.rd,Nat.le_refl _⟩⟩,hk⟩))
end
end
end Go.Ax

/-
 Pool: the document: Shares (16) (written by program).
-/
namespace Go.Ax
open Go Go.RowKit Go.Proofs

noncomputable section
theorem ZgK:∃ i,Try.prog.info? 3=some i∧i.bytes≤8:=by
 have h:(Try.prog.info? 3).map (fun i=>i.bytes)=some 8:=by kernel_rfl
 cases e:Try.prog.info? 3 with
 | none=>rw [e] at h;cases h
 | some i=>rw [e] at h;simp at h;exact ⟨i,rfl,by omega⟩
theorem ZfC {l:List Int}:ZcB l=cI l:=rfl
theorem ZdL {l:List Int} {i:Nat} {v:Int}:(cI l).set (0+i * 1) (iv v)=cI (l.set i v):=by
 rw [Nat.zero_add,Nat.mul_one];unfold cI;rw [List.map_set]
theorem jg {α:Type} {n i:Nat} {f:Nat→α} {z:α} (h:i < n):((List.range n).map f).getD i z=f i:=by
 rw [List.getD_eq_getElem?_getD,List.getElem?_map,List.getElem?_range h];rfl
theorem Ji {α:Type} {n i:Nat} {f g:Nat→α} {v:α} (h1:g i=v) (h2:∀ j,j≠i→g j=f j):((List.range n).map f).set i v=(List.range n).map g:=by
 refine List.ext_getElem? fun j=>?_
 rw [List.getElem?_set]
 by_cases q:i=j
 ·subst q
  rw [if_pos rfl]
  split
  ·rename_i hl
   simp only [List.length_map,List.length_range] at hl
   rw [List.getElem?_map,List.getElem?_range hl,Option.map_some,h1]
  ·rename_i hl
   rw [List.getElem?_eq_none (by simpa using hl)]
 ·rw [if_neg q,List.getElem?_map,List.getElem?_map]
  rcases Nat.lt_or_ge j n with c | c
  ·rw [List.getElem?_range c,Option.map_some,Option.map_some,h2 j (fun e=>q e.symm)]
  ·rw [List.getElem?_eq_none (by simpa using c)];rfl
def QA (ms:List Mb) (tot p:Int) (i:Nat):List Qt:=(List.range ms.length).map fun j=>⟨(ms.getD j Mb.z).g,(ms.getD j Mb.z).b,if j < i then tot * (ms.getD j Mb.z).b / ZW ms else (ms.getD j Mb.z).b * p / 1000⟩
theorem Uq {ms:List Mb} {tot p:Int} {i:Nat}:(QA ms tot p i).length=ms.length:=by simp [QA]
theorem KV {ms:List Mb} {tot p:Int} {i j:Nat} (h:j < ms.length):(QA ms tot p i).getD j Qt.z=⟨(ms.getD j Mb.z).g,(ms.getD j Mb.z).b,if j < i then tot * (ms.getD j Mb.z).b / ZW ms else (ms.getD j Mb.z).b * p / 1000⟩:=jg h
theorem ZhB {ms:List Mb} {tot p:Int}:qtL p ms=QA ms tot p 0:=by
 refine List.ext_getElem? fun j=>?_
 unfold qtL QA
 rcases Nat.lt_or_ge j ms.length with c | c
 ·simp [c,qtM]
 ·simp [c]
theorem Zhb {ms:List Mb} {tot p:Int} {i:Nat}:(QA ms tot p i).set i ⟨(ms.getD i Mb.z).g,(ms.getD i Mb.z).b,tot * (ms.getD i Mb.z).b / ZW ms⟩=QA ms tot p (i+1):=
 Ji (by rw [if_pos (by omega)]) fun j hj=>by
  by_cases q:j < i
  ·rw [if_pos q,if_pos (by omega)]
  ·rw [if_neg q,if_neg (by omega)]
theorem Zd8 {ms:List Mb} {tot p:Int}:QA ms tot p ms.length=shX ms tot []:=by
 unfold QA shX
 refine List.map_congr_left fun j hj=>?_
 rw [if_pos (List.mem_range.1 hj)]
 simp
def yn (ms:List Mb) (tot:Int) (j:Nat):Int:=tot * (ms.getD j Mb.z).b % ZW ms
def zW (ms:List Mb) (tot:Int) (i:Nat):List Int:=(List.range ms.length).map fun j=>if j < i then yn ms tot j else 0
def Kx (ms:List Mb) (tot:Int) (ps:List Nat):List Int:=(List.range ms.length).map fun j=>if j∈ps then -1 else yn ms tot j
theorem Zc7 {ms:List Mb} {tot:Int} {i:Nat}:(zW ms tot i).length=ms.length:=by simp [zW]
theorem Jr {ms:List Mb} {tot:Int} {ps:List Nat}:(Kx ms tot ps).length=ms.length:=by simp [Kx]
theorem ZhM {ms:List Mb} {tot:Int}:List.replicate ms.length 0=zW ms tot 0:=by
 unfold zW
 simp only [Nat.not_lt_zero,if_false]
 rw [List.map_const',List.length_range]
theorem ZgR {ms:List Mb} {tot:Int} {i:Nat}:(zW ms tot i).set i (yn ms tot i)=zW ms tot (i+1):=
 Ji (by rw [if_pos (by omega)]) fun j hj=>by
  by_cases q:j < i
  ·rw [if_pos q,if_pos (by omega)]
  ·rw [if_neg q,if_neg (by omega)]
theorem ZdI {ms:List Mb} {tot:Int}:zW ms tot ms.length=Kx ms tot []:=by
 unfold zW Kx
 refine List.map_congr_left fun j hj=>?_
 rw [if_pos (List.mem_range.1 hj)]
 simp
theorem ZbS {ms:List Mb} {tot:Int} {ps:List Nat} {j:Nat} (h:j < ms.length):(Kx ms tot ps).getD j 0=if j∈ps then -1 else yn ms tot j:=jg h
theorem ZgO {ms:List Mb} {tot:Int} {ps:List Nat} {m:Nat}:(Kx ms tot ps).set m (-1)=Kx ms tot (ps ++ [m]):=
 Ji (by rw [if_pos (by simp)]) fun j hj=>by
  have:j∈ps ++ [m]↔j∈ps:=by simp [hj]
  simp only [this]
theorem ZdE {ms:List Mb} {tot:Int} {ps:List Nat} {j:Nat} (h:j < ms.length):(shX ms tot ps).getD j Qt.z=⟨(ms.getD j Mb.z).g,(ms.getD j Mb.z).b,tot * (ms.getD j Mb.z).b / ZW ms+(if j∈ps then 1 else 0)⟩:=jg h
theorem ZiB {ms:List Mb} {tot:Int} {ps:List Nat} {m:Nat}:(shX ms tot ps).set m ⟨(ms.getD m Mb.z).g,(ms.getD m Mb.z).b,tot * (ms.getD m Mb.z).b / ZW ms+1⟩=shX ms tot (ps ++ [m]):=
 Ji (by rw [if_pos (by simp)]) fun j hj=>by
  have:j∈ps ++ [m]↔j∈ps:=by simp [hj]
  simp only [this]
def Pk (key:Nat→Int) (ps:List Nat) (i:Nat) (x:Int):Prop:=(x = -1∧∀ j,j < i→j∈ps)∨∃ m:Nat,x=m∧m < i∧m ∉ ps∧∀ j,j < i→j ∉ ps→j≠m→Lk key m j
theorem Pk.skip {key:Nat→Int} {ps:List Nat} {i:Nat} {x:Int} (h:Pk key ps i x) (hc:i∈ps∨∃ m:Nat,x=m∧key m≤key i):Pk key ps (i+1) x:=by
 rcases h with ⟨h1,h2⟩ | ⟨m,h1,h2,h3,h4⟩
 ·refine .inl ⟨h1,fun j hj=>?_⟩
  rcases Nat.lt_or_ge j i with q | q
  ·exact h2 j q
  ·have:j=i:=by omega
   subst this
   rcases hc with c | ⟨m,c,_⟩
   ·exact c
   ·omega
 ·refine .inr ⟨m,h1,by omega,h3,fun j hj hn hm=>?_⟩
  rcases Nat.lt_or_ge j i with q | q
  ·exact h4 j q hn hm
  ·have:j=i:=by omega
   subst this
   rcases hc with c | ⟨m',c,d⟩
   ·exact absurd c hn
   ·have:m'=m:=by omega
    subst this
    unfold Lk;omega
theorem Pk.take {key:Nat→Int} {ps:List Nat} {i:Nat} {x:Int} (h:Pk key ps i x) (hi:i ∉ ps) (hc:x < 0∨∃ m:Nat,x=m∧key i < key m):Pk key ps (i+1) i:=by
 refine .inr ⟨i,rfl,by omega,hi,fun j hj hn hji=>?_⟩
 rcases h with ⟨h1,h2⟩ | ⟨m,h1,h2,h3,h4⟩
 ·exact absurd (h2 j (by omega)) hn
 ·rcases hc with c | ⟨m',c,d⟩
  ·omega
  ·have:m'=m:=by omega
   subst this
   by_cases q:j=m'
   ·subst q;exact .inl d
   ·have:=h4 j (by omega) hn q
    unfold Lk at this ⊢;omega
theorem Pk.init {key:Nat→Int} {ps:List Nat}:Pk key ps 0 (-1):=.inl ⟨rfl,fun j h=>absurd h (by omega)⟩
theorem Pk.found {key:Nat→Int} {ps:List Nat} {n:Nat} {x:Int} (h:Pk key ps n x) (hl:ps.length < n) (p:Pso key n ps):∃ m:Nat,x=m∧m < n∧m ∉ ps∧Pso key n (ps ++ [m]):=by
 rcases h with ⟨h1,h2⟩ | ⟨m,h1,h2,h3,h4⟩
 ·exfalso
  have:=Xt (D:=List.range n) (L:=ps) List.nodup_range fun x hx=>h2 x (List.mem_range.1 hx)
  rw [List.length_range] at this
  omega
 ·refine ⟨m,h1,h2,h3,List.nodup_append.2 ⟨p.nd,by simp,fun a ha b hb e=>h3 (by simp at hb;rw [← hb,← e];exact ha)⟩,fun q hq=>?_,fun q hq r hr hn=>?_⟩
  ·rcases List.mem_append.1 hq with hq | hq
   ·exact p.lt q hq
   ·simp at hq;omega
  ·have hn1:r ∉ ps:=fun z=>hn (List.mem_append.2 (.inl z))
   have hn2:r≠m:=fun z=>hn (by rw [z];simp)
   rcases List.mem_append.1 hq with hq | hq
   ·exact p.bf q hq r hr hn1
   ·simp at hq;subst hq;exact h4 r hr hn1 hn2
theorem Pso.nil {key:Nat→Int} {n:Nat}:Pso key n []:=⟨List.nodup_nil,(fun p h=>by cases h),(fun p h=>by cases h)⟩
theorem ZhF {ms:List Mb} {i:Nat} (h:i < ms.length):ZW (ms.take (i+1))=ZW (ms.take i)+(ms.getD i Mb.z).b:=by
 unfold ZW
 rw [Y4 (z:=Mb.z) h,List.map_append,VL]
 show _+((ms.getD i Mb.z).b+0)=_
 omega
theorem ZcV {ms:List Mb} (h:∀ m∈ms,okM m) (i:Nat) (hl:ms.length≤400):0≤ZW (ms.take i)∧ZW (ms.take i)≤439804651110400:=jk (fun m hm=>h m (List.mem_of_mem_take hm)) (by rw [List.length_take];omega)
theorem Zf9 {ms:List Mb} {tot:Int} {i:Nat} (h:i < ms.length):Y5 ((shP ms tot).take (i+1))=Y5 ((shP ms tot).take i)+tot * (ms.getD i Mb.z).b / ZW ms:=by
 have hl:i < (shP ms tot).length:=by unfold shP;rw [List.length_map];exact h
 rw [Y4 (z:=Qt.z) hl,zA]
 have e:(shP ms tot).getD i Qt.z=shQ ms tot (ms.getD i Mb.z):=by
  unfold shP;rw [List.getD_eq_getElem?_getD,List.getElem?_map,List.getD_eq_getElem?_getD,List.getElem?_eq_getElem h];rfl
 rw [e]
 show _+(tot * (ms.getD i Mb.z).b / ZW ms+0)=_
 omega
theorem jK {ms:List Mb} {tot:Int} (hm:∀ m∈ms,okM m) (ht0:0≤tot) (ht1:tot≤1048576) (ha:0 < ZW ms) (i:Nat):0≤Y5 ((shP ms tot).take i)∧Y5 ((shP ms tot).take i)≤Y5 (shP ms tot):=by
 have ok:=Zbm hm ht0 ht1 ha
 have h1:0≤Y5 ((shP ms tot).take i):=Jh fun a h=>(qf (fun q hq=>ok q (List.mem_of_mem_take hq)) a h).1
 have h2:0≤Y5 ((shP ms tot).drop i):=Jh fun a h=>(qf (fun q hq=>ok q (List.mem_of_mem_drop hq)) a h).1
 have h3:Y5 ((shP ms tot).take i ++ (shP ms tot).drop i)=Y5 (shP ms tot):=by rw [List.take_append_drop]
 rw [zA] at h3
 omega
section
variable {kn:Kn} {lo:Nat} {H:Hp}
set_option maxRecDepth 100000 in
set_option maxHeartbeats 1000000 in
theorem qN {cs:List Cp} {sa:Option Addr} {n cap:Nat} (hs:Sl H sa n cap (cpc cs)) (hl:cs.length=n) (hn:n≤400) (hlo:lo≤H.next) {g:Gl} {tot:Int}:∃ u l e H',FnX Try.prog kn lo 16 [.slice sa n cap,.agg (Gl.f g).toArray,iv tot] H (.tuple #[u,iv e]) H'∧ShS cs g tot l e∧(∃ a cp,u=.slice a l.length cp∧Sl H' a l.length cp (qtc l))∧Keep H H' []:=by
 have key:=Zp (kn:=kn) (lo:=lo) (H:=H) (args:=[.slice sa n cap,.agg (Gl.f g).toArray,iv tot]) (Q:=fun w H'=>∃ u l e,w=.tuple #[u,iv e]∧ShS cs g tot l e∧(∃ a cp,u=.slice a l.length cp∧Sl H' a l.length cp (qtc l))∧Keep H H' []) Try.func16 B16 N16 Z16 L16 (by simp) ?_
 ·obtain ⟨w,H',h,u,l,e,rfl,q⟩:=key;exact ⟨u,l,e,H',h,q⟩
 have hk:=Keep.refl H []
 have fs:=hs.old
 refine Zc<|YD (v:=.agg (Gl.f g).toArray) rfl ?_
 intro H1 kH1 nH1 c1
 have c1:Cl H1 H.next [iv g.y,iv g.k,iv g.b,iv g.p]:=c1
 have mH1:=kH1.1
 have hk:=hk.trans kH1
 have hs:=kH1.sl0 hs
 refine Za rfl<|Za rfl<|Zb<|Zc<|Za rfl<|Y2 (b:=H.next) (o:=0) rfl c1.rd (show row 4 _ _=some [iv g.y,iv g.k,iv g.b,iv g.p] from rfl)<|ZN rfl (Zd0 hs hl (by omega) (by omega)) ?_
 intro tH2 H2 hH2 kH2
 have mH2:=kH2.1
 have hk:=hk.trans kH2
 have hs:=kH2.sl0 hs
 have c1:=kH2.cl c1 (by simp)
 cases tH2
 ·have hvA:vA cs g=false:=hH2
  refine Zg (v:=.bool true) rfl rfl<|Zb<|Yz<|Zc<|Za rfl<|Za rfl<|Zb ?_
  exact And.intro trivial (Exists.intro _ (And.intro rfl ⟨.slice none 0 0,[],1,rfl,by unfold ShS;rw [if_neg (by rw [hvA];simp)];exact ⟨rfl,rfl⟩,⟨none,0,rfl,.inl ⟨.inl rfl,rfl,rfl,rfl⟩⟩,hk⟩))
 ·have hvA:vA cs g=true:=hH2
  obtain ⟨hb,hg⟩:=JJ hvA
  refine Zg (v:=.bool false) rfl rfl<|Zb<|ZP ?_
  first | refine Zi ?_ | skip
  refine Zc<|Za rfl<|ZN rfl (WA (n:=tot) (a:=0) (m:=1048576)) ?_
  intro tH3 H3 hH3 kH3
  have mH3:=kH3.1
  have hk:=hk.trans kH3
  have hs:=kH3.sl0 hs
  have c1:=kH3.cl c1 (by simp)
  cases tH3
  ·have hdm:=hH3;have hdmu:=Y7 hH3
   refine Zg (v:=.bool true) rfl rfl<|Zb<|Yz<|Zc<|Za rfl<|Za rfl<|Zb ?_
   exact And.intro trivial (Exists.intro _ (And.intro rfl ⟨.slice none 0 0,[],2,rfl,by unfold ShS;rw [if_pos hvA,if_neg (by rw [hdm];simp)];exact ⟨rfl,rfl⟩,⟨none,0,rfl,.inl ⟨.inl rfl,rfl,rfl,rfl⟩⟩,hk⟩))
  ·have hdm:=hH3;have hdmu:=Yv hH3
   refine Zg (v:=.bool false) rfl rfl<|Zb<|ZP ?_
   first | refine Zi ?_ | skip
   refine Zc<|Za rfl<|Y2 (b:=H.next) (o:=0) rfl c1.rd (show row 4 _ _=some [iv g.y,iv g.k,iv g.b,iv g.p] from rfl) ?_
   obtain ⟨qv,H4,fH4,hqa,kH4⟩:=zH (kn:=kn) (lo:=lo) (H:=H3) hs hl hn (by omega) hb hg
   refine Zu (vs:=[.slice sa n cap,.agg (Gl.f g).toArray]) rfl (Zh fH4) ?_
   have mH4:=kH4.1
   have hk:=hk.trans kH4
   have hs:=kH4.sl0 hs
   have c1:=kH4.cl c1 (by simp)
   have hqq:=hqa.sl
   obtain ⟨qa,qcap,rfl,hqs,_⟩:=hqq
   rw [X7] at hqs hqa ⊢
   have hgt:=KC hg;have hmlen:=Vo (g:=g) hb;have hmok:=Jz hb hg
   have fq:=hqs.old
   obtain ⟨M,eM⟩:∃ M,M=(mbL g cs).length:=⟨_,rfl⟩
   rw [← eM] at hqs hqa ⊢
   have hqa:=hqa.low (f':=H.next) (by omega)
   refine Za rfl<|Zb<|Zc<|Za rfl<|Zb<|Zc<|Za rfl<|Zb ?_
   refine Zt (fn:=Try.f16) ZjB N16 ZhZ (fun i:Nat=>[(2,iv tot),(8,.slice qa M qcap),(9,iv (ZW ((mbL g cs).take i))),(10,iv (i:Int))])
    (fun k i H'=>i+k=M∧Keep H H' []∧Sl H' qa M qcap (qtc (qtL g.p (mbL g cs)))∧Acc lo H.next 44 H' (.slice qa M qcap) M (qtc (qtL g.p (mbL g cs)))) M 0 ⟨by omega,hk,hqs,hqa⟩ ⟨rfl,rfl,rfl,rfl,trivial⟩ ?_
   rintro k i L1 ⟨hik,hk,hqs,hqa⟩
   have mk:=hk.1
   refine Zc<|Za rfl<|Za rfl<|Z6 (m:=M) rfl<|ZC (a:=(i:Int)) (b:=(M:Int)) rfl rfl<|Zb ?_
   refine And.intro (fun q1=>?_) (fun q1=>?_)
   ·have q1:(i:Int) < (M:Int):=of_decide_eq_true q1
    have hi:i < M:=by omega
    rcases id hqs with ⟨_,h0s,_⟩ | ⟨sb,es,rs,_⟩
    ·omega
    have ls:=rs.1
    have hmi:=Y9 (z:=Mb.z) hmok (show i < (mbL g cs).length by omega)
    obtain ⟨hm1,hm2,hm3,hm4⟩:=hmi
    have hal:=ZcV hmok i (by omega)
    first | refine Zi ?_ | skip
    show Zl _ _ _ _ _ _ _ _
    refine Za rfl<|Za rfl<|Za rfl<|YZ (b:=sb) (o:=0) (k:=i) (j:=(i:Int)) (by rw [← es];rfl) rfl rfl hi<|ZB (b:=sb) (o:=0+i * 3) rfl<|ZZ (b:=sb) (o:=0+i * 3+1) (v:=iv (((mbL g cs).getD i Mb.z).b)) rfl rs (by have:=VY (l:=(qtL g.p (mbL g cs))) (i:=i) (j:=1) (by rw [X7];omega) rfl;rw [yb (by omega)] at this;exact this)<|Zs (a:=(ZW ((mbL g cs).take i))) (b:=((mbL g cs).getD i Mb.z).b) rfl rfl ⟨by omega,by omega⟩<|Za rfl<|Zb ?_
    show Zl _ _ _ _ _ _ _ _
    refine Za rfl<|Zs (a:=(i:Int)) (b:=1) rfl rfl ⟨by omega,by omega⟩<|Za rfl<|Zb ?_
    exact ⟨k - 1,i+1,by omega,⟨by omega,hk,hqs,hqa⟩,rfl,rfl,by rw [ZhF (by omega)];rfl,rfl,trivial⟩
   ·have q1:¬ ((i:Int) < (M:Int)):=of_decide_eq_false q1
    have eiM:i=(mbL g cs).length:=by omega
    rw [eiM,List.take_length]
    have hab:=jk hmok (by omega)
    first | (refine Zz ?_;show wC _ _ _ _ _ _ _ _ _) | skip
    refine Zc<|Za rfl<|VJ (a:=(ZW (mbL g cs))) (b:=0) rfl rfl<|Zb ?_
    refine And.intro (fun q2=>?_) (fun q2=>?_)
    ·have q2:(ZW (mbL g cs))=0:=by simpa using q2
     refine Zc<|Za rfl<|Za rfl<|Zb ?_
     have hze:ZW (mbL g cs)=0:=by omega
     exact And.intro trivial (Exists.intro _ (And.intro rfl ⟨.slice none 0 0,[],4,rfl,by unfold ShS;rw [if_pos hvA,if_pos hdm,if_pos hze];exact ⟨rfl,rfl⟩,⟨none,0,rfl,.inl ⟨.inl rfl,rfl,rfl,rfl⟩⟩,hk⟩))
    ·have q2:¬ ((ZW (mbL g cs))=0):=by simpa using q2
     have hne:ZW (mbL g cs)≠0:=by omega
     have hpos:=Zam hne
     rcases hqa with ⟨z,_⟩ | ⟨qb,eqb,_,hqf,hql,hqn,hqg⟩
     ·exfalso;omega
     injection eqb with e1 e2 e3
     subst e1
     have e3:=e3.symm
     subst e3
     have ha0:0 < ZW (mbL g cs):=by omega
     have hq:Cl L1 qb (qtc (QA (mbL g cs) tot g.p 0)):=by rw [← ZhB];exact ⟨hqn,44,true,hqg⟩
     have hmk:=zf (tot:=tot) ha0;have hmd:Uf (mbL g cs) tot=tot - Y5 (shP (mbL g cs) tot):=rfl
     first | refine Zi ?_ | skip
     refine Zc<|Za rfl<|Za rfl<|Zb<|Zc<|Za rfl<|Z6 (m:=M) rfl ?_
     obtain ⟨i3,hi3,hby⟩:=ZgK
     obtain ⟨H5,hH5⟩:∃ H5,L1.new (.cells (ZcB (List.replicate M 0)) 3 false)=H5:=⟨_,rfl⟩
     refine Yy (v:=.slice (some ⟨L1.next,0,none⟩) M M) (H':=H5) (k:=.heavy) rfl (by kernel_rfl) ((yj (m:=M) Qm zo3 hi3 hby rfl rfl (by omega)).trans (by rw [hH5])) (fun b e=>by cases e) ?_
     obtain ⟨kH5,nH5,hr⟩:=ZD hH5;clear hH5
     have mH5:=kH5.1
     have hk:=hk.trans kH5
     have hq:=kH5.cl hq (by simp)
     obtain ⟨rb,erb⟩:∃ rb,rb=L1.next:=⟨_,rfl⟩
     have hr:Cl H5 rb (cI (zW (mbL g cs) tot 0)):=by rw [erb,← ZhM,← ZfC,← eM];exact hr
     rw [← erb]
     have hqrb:qb < rb:=by omega
     have hrl:lo≤rb:=by omega
     refine Za rfl<|Zb<|Zc<|Za rfl<|Zb ?_
     refine Zt (fn:=Try.f16) ZiX N16 ZjJ (fun i:Nat=>[(2,iv tot),(8,.slice (some ⟨qb,0,none⟩) M M),(9,iv (ZW (mbL g cs))),(11,iv (tot - Y5 ((shP (mbL g cs) tot).take i))),(12,.slice (some ⟨rb,0,none⟩) M M),(13,iv (i:Int))])
      (fun k i H'=>i+k=M∧Keep H H' []∧Cl H' qb (qtc (QA (mbL g cs) tot g.p i))∧Cl H' rb (cI (zW (mbL g cs) tot i))) M 0 ⟨by omega,hk,hq,hr⟩ ⟨rfl,rfl,rfl,by simp only [List.take_zero];exact congrArg (fun z=>some (iv z)) (by show tot=tot - 0;omega),rfl,rfl,trivial⟩ ?_
     rintro k i L2 ⟨hik,hk,hq,hr⟩
     have mk:=hk.1
     refine Zc<|Za rfl<|Za rfl<|Z6 (m:=M) rfl<|ZC (a:=(i:Int)) (b:=(M:Int)) rfl rfl<|Zb ?_
     refine And.intro (fun q3=>?_) (fun q3=>?_)
     ·have q3:(i:Int) < (M:Int):=of_decide_eq_true q3
      have hi:i < M:=by omega
      have hmi:=Y9 (z:=Mb.z) hmok (show i < (mbL g cs).length by omega)
      obtain ⟨hm1,hm2,hm3,hm4⟩:=hmi
      have hmul:=jb hdmu.1 hdmu.2 hm3 hm4
      have hqd:=Int.ediv_nonneg hmul.1 (show 0≤ZW (mbL g cs) by omega);have hqe:=Int.ediv_le_self (ZW (mbL g cs)) hmul.1
      have htk:=jK (tot:=tot) hmok hdmu.1 hdmu.2 ha0 i
      have htk2:=jK (tot:=tot) hmok hdmu.1 hdmu.2 ha0 (i+1)
      rw [Zf9 (by omega)] at htk2
      first | refine Zi ?_ | skip
      refine Zc<|Za rfl<|Za rfl<|Za rfl<|Za rfl<|Za rfl<|YZ (b:=qb) (o:=0) (k:=i) (j:=(i:Int)) rfl rfl rfl (by omega)<|ZB (b:=qb) (o:=0+i * 3) rfl<|ZZ (b:=qb) (o:=0+i * 3+1) (v:=iv ((mbL g cs).getD i Mb.z).b) rfl hq.rd (by have:=VY (l:=QA (mbL g cs) tot g.p i) (i:=i) (j:=1) (by rw [Uq];omega) rfl;rw [KV (by omega)] at this;exact this)<|Wp (a:=tot) (b:=((mbL g cs).getD i Mb.z).b) rfl rfl ⟨by omega,by omega⟩<|Za rfl<|JU (a:=tot * (((mbL g cs).getD i Mb.z).b)) (b:=(ZW (mbL g cs))) rfl rfl (by omega) (by omega) ⟨by omega,by omega⟩<|YZ (b:=qb) (o:=0) (k:=i) (j:=(i:Int)) rfl rfl rfl (by omega)<|ZB (b:=qb) (o:=0+i * 3) rfl<|K5 (b:=qb) (o:=0+i * 3+2) rfl rfl hq (by omega) rfl rfl (by rw [U5,Uq];omega) ?_
      intro H6 kH6 nH6 sH6
      have mH6:=kH6.1
      have hq:Cl H6 qb (qtc (QA (mbL g cs) tot g.p (i+1))):=by rw [← Zhb];rw [ja (by rw [Uq];omega),KV (by omega)] at sH6;exact sH6
      have hr:=kH6.cl hr (by simp;omega)
      have hk:=hk.new kH6 (fun b hb=>.inr (by simp at hb;omega))
      refine Zb<|Zc<|Za rfl<|Za rfl<|Za rfl<|Za rfl<|Za rfl<|YZ (b:=qb) (o:=0) (k:=i) (j:=(i:Int)) rfl rfl rfl (by omega)<|ZB (b:=qb) (o:=0+i * 3) rfl<|ZZ (b:=qb) (o:=0+i * 3+1) (v:=iv ((mbL g cs).getD i Mb.z).b) rfl hq.rd (by have:=VY (l:=QA (mbL g cs) tot g.p (i+1)) (i:=i) (j:=1) (by rw [Uq];omega) rfl;rw [KV (by omega)] at this;exact this)<|Wp (a:=tot) (b:=((mbL g cs).getD i Mb.z).b) rfl rfl ⟨by omega,by omega⟩<|Za rfl<|ZhC (a:=tot * (((mbL g cs).getD i Mb.z).b)) (b:=(ZW (mbL g cs))) rfl rfl (by omega) (by omega) ⟨by omega,by omega⟩ ⟨by omega,by omega⟩<|YZ (b:=rb) (o:=0) (k:=i) (j:=(i:Int)) rfl rfl rfl (by omega)<|K5 (b:=rb) (o:=0+i * 1) rfl rfl hr (by omega) rfl rfl (by rw [Vx,Zc7];omega) ?_
      intro H7 kH7 nH7 sH7
      have mH7:=kH7.1
      have hr:Cl H7 rb (cI (zW (mbL g cs) tot (i+1))):=by rw [← ZgR,← ZdL];exact sH7
      have hq:=kH7.cl hq (by simp;omega)
      have hk:=hk.new kH7 (fun b hb=>.inr (by simp at hb;omega))
      refine Zb ?_
      show Zl _ _ _ _ _ _ _ _
      refine Za rfl<|Za rfl<|Za rfl<|YZ (b:=qb) (o:=0) (k:=i) (j:=(i:Int)) rfl rfl rfl (by omega)<|ZB (b:=qb) (o:=0+i * 3) rfl<|ZZ (b:=qb) (o:=0+i * 3+2) (v:=iv (tot * ((mbL g cs).getD i Mb.z).b / ZW (mbL g cs))) rfl hq.rd (by have:=VY (l:=QA (mbL g cs) tot g.p (i+1)) (i:=i) (j:=2) (by rw [Uq];omega) rfl;rw [KV (by omega)] at this;simp only [if_pos (Nat.lt_succ_self _)] at this;exact this)<|Z4 (a:=(tot - Y5 ((shP (mbL g cs) tot).take i))) (b:=(tot * ((mbL g cs).getD i Mb.z).b / ZW (mbL g cs))) rfl rfl ⟨by omega,by omega⟩<|Za rfl<|Zb ?_
      show Zl _ _ _ _ _ _ _ _
      refine Za rfl<|Zs (a:=(i:Int)) (b:=1) rfl rfl ⟨by omega,by omega⟩<|Za rfl<|Zb ?_
      exact ⟨k - 1,i+1,by omega,⟨by omega,hk,hq,hr⟩,rfl,rfl,rfl,by rw [Zf9 (by omega)];exact congrArg (fun z=>some (iv z)) (by omega),rfl,rfl,trivial⟩
     ·have q3:¬ ((i:Int) < (M:Int)):=of_decide_eq_false q3
      have eiM:i=(mbL g cs).length:=by omega
      subst eiM
      rw [Zd8] at hq
      rw [ZdI] at hr
      have hshl:(shP (mbL g cs) tot).length=(mbL g cs).length:=by unfold shP;rw [List.length_map]
      obtain ⟨K,eK⟩:∃ K:Nat,K=(Uf (mbL g cs) tot).toNat:=⟨_,rfl⟩
      have hlf:tot - Y5 ((shP (mbL g cs) tot).take (mbL g cs).length)=(K:Int):=by rw [List.take_of_length_le (by omega)];omega
      rw [hlf]
      first | (refine Zz ?_;show wC _ _ _ _ _ _ _ _ _) | skip
      refine Zt (fn:=Try.f16) Zh5 N16 Zjq (fun ps:List Nat=>[(8,.slice (some ⟨qb,0,none⟩) M M),(11,iv ((K:Int) - (ps.length:Int))),(12,.slice (some ⟨rb,0,none⟩) M M)])
       (fun k ps H'=>ps.length+k=K∧Keep H H' []∧Cl H' qb (qtc (shX (mbL g cs) tot ps))∧Cl H' rb (cI (Kx (mbL g cs) tot ps))∧Pso (JX (mbL g cs) tot) (mbL g cs).length ps) K [] ⟨by simp,hk,hq,hr,Pso.nil⟩ ⟨rfl,by simp only [List.length_nil];exact congrArg (fun z=>some (iv z)) (by omega),rfl,trivial⟩ ?_
      rintro k ps L3 ⟨hpk,hk,hq,hr,hps⟩
      have mk:=hk.1
      refine Zc<|Za rfl<|WC (a:=((K:Int) - (ps.length:Int))) (b:=0) rfl rfl<|Zb ?_
      refine And.intro (fun q4=>?_) (fun q4=>?_)
      ·have q4:((K:Int) - (ps.length:Int)) > 0:=of_decide_eq_true q4
       first | refine Zi ?_ | skip
       refine Zc<|Za rfl<|Zb<|Zc<|Za rfl<|Zb ?_
       refine Zt (fn:=Try.f16) ZjW N16 Zje (fun y:Int × Nat=>[(8,.slice (some ⟨qb,0,none⟩) M M),(11,iv ((K:Int) - (ps.length:Int))),(12,.slice (some ⟨rb,0,none⟩) M M),(14,iv y.1),(15,iv (y.2:Int))])
        (fun k4 y H'=>y.2+k4=M∧Keep H H' []∧Cl H' qb (qtc (shX (mbL g cs) tot ps))∧Cl H' rb (cI (Kx (mbL g cs) tot ps))∧Pk (JX (mbL g cs) tot) ps y.2 y.1) M (-1,0) ⟨by simp,hk,hq,hr,Pk.init⟩ ⟨rfl,rfl,rfl,rfl,rfl,trivial⟩ ?_
       rintro k4 ⟨x,i⟩ L4 ⟨hik,hk,hq,hr,hP⟩
       simp only [] at hik hP
       have mk:=hk.1
       refine Zc<|Za rfl<|Za rfl<|Z6 (m:=M) rfl<|ZC (a:=(i:Int)) (b:=(M:Int)) rfl rfl<|Zb ?_
       refine And.intro (fun q5=>?_) (fun q5=>?_)
       ·have q5:(i:Int) < (M:Int):=of_decide_eq_true q5
        have hi:i < M:=by omega
        have hia:=ZbS (tot:=tot) (ps:=ps) (show i < (mbL g cs).length by omega)
        obtain ⟨rx,erx⟩:∃ rx,rx=(Kx (mbL g cs) tot ps).getD i 0:=⟨_,rfl⟩
        rw [← erx] at hia
        have hcn:0≤yn (mbL g cs) tot i:=Int.emod_nonneg _ hne
        have hin:rx < 0→i∈ps:=fun q=>Classical.byContradiction fun z=>by rw [if_neg z] at hia;omega
        have hnin:0≤rx→i ∉ ps:=fun q z=>by rw [if_pos z] at hia;omega
        have hci:0≤rx→rx=yn (mbL g cs) tot i:=fun q=>by rw [if_neg (hnin q)] at hia;exact hia
        first | refine Zi ?_ | skip
        refine YF<|Ze rfl<|Ze rfl<|ZA (b:=rb) (o:=0) (k:=i) (j:=(i:Int)) rfl rfl rfl (by omega)<|ZM (b:=rb) (o:=0+i * 1) (v:=iv rx) rfl hr.rd (by rw [erx];exact UB (by rw [Jr];omega))<|Zad (a:=rx) (b:=0) rfl rfl ?_
        intro t6 g6;cases t6
        ·have g6:¬ (rx ≥ 0):=of_decide_eq_false g6
         refine Ze rfl<|ZE rfl<|ZE rfl<|ZE rfl<|QW rfl<|QW rfl<|QW rfl<|QW rfl<|QW rfl<|QW rfl<|QW rfl<|QW rfl<|QW rfl<|ZE rfl<|Yl (v:=.bool false) rfl rfl ?_
         refine ZH (by repeat' first | exact True.intro | exact (fun h=>h) | refine And.intro ?_ ?_ | (intro h;have h:(_:Nat)=_:=h;omega)) ?_
         refine ZP ?_
         first | refine Zi ?_ | skip
         show Zl _ _ _ _ _ _ _ _
         refine Za rfl<|Zs (a:=(i:Int)) (b:=1) rfl rfl ⟨by omega,by omega⟩<|Za rfl<|Zb ?_
         have hPn:Pk (JX (mbL g cs) tot) ps (i+1) x:=hP.skip (by first | (exact .inl (hin (by omega))) | exact .inr ⟨m,hxm,by unfold JX;unfold yn at hcm hci;omega⟩)
         exact ⟨k4 - 1,(x,i+1),by omega,⟨by simp only [];omega,hk,hq,hr,hPn⟩,rfl,rfl,rfl,rfl,rfl,trivial⟩
        ·have g6:rx ≥ 0:=of_decide_eq_true g6
         refine Ze rfl ?_
         refine ZY rfl (Ze rfl ?_)
         refine ZY rfl (Jg (a:=x) (b:=0) rfl rfl ?_)
         intro t7 g7;cases t7
         ·have g7:¬ (x < 0):=of_decide_eq_false g7
          refine ZY rfl (Ze rfl ?_)
          refine ZY rfl (Ze rfl ?_)
          refine ZY rfl (Ze rfl ?_)
          refine ZY rfl (ZA (b:=rb) (o:=0) (k:=i) (j:=(i:Int)) rfl rfl rfl (by omega) ?_)
          refine ZY rfl (ZM (b:=rb) (o:=0+i * 1) (v:=iv rx) rfl hr.rd (by rw [erx];exact UB (by rw [Jr];omega)) ?_)
          refine ZY rfl (Ze rfl ?_)
          refine ZY rfl (Ze rfl ?_)
          obtain ⟨m,hxm,hm1,hm2,hm3⟩:=hP.resolve_left (fun z=>by have:=z.1;omega)
          obtain ⟨ry,ery⟩:∃ ry,ry=(Kx (mbL g cs) tot ps).getD m 0:=⟨_,rfl⟩
          have hcm:=ZbS (tot:=tot) (ps:=ps) (show m < (mbL g cs).length by omega)
          rw [← ery,if_neg hm2] at hcm
          have hci:=hci (by omega)
          refine ZY rfl (ZA (b:=rb) (o:=0) (k:=m) (j:=x) rfl rfl hxm (by omega) ?_)
          refine ZY rfl (ZM (b:=rb) (o:=0+m * 1) (v:=iv ry) rfl hr.rd (by rw [ery];exact UB (by rw [Jr];omega)) ?_)
          refine ZY rfl (Q4 (a:=rx) (b:=ry) rfl rfl ?_)
          intro t8 g8;cases t8
          ·have g8:¬ (rx > ry):=of_decide_eq_false g8
           refine ZY rfl (Yl (v:=.bool false) rfl rfl ?_)
           refine Yl (v:=.bool false) rfl rfl ?_
           refine ZH (by repeat' first | exact True.intro | exact (fun h=>h) | refine And.intro ?_ ?_ | (intro h;have h:(_:Nat)=_:=h;omega)) ?_
           refine ZP ?_
           first | refine Zi ?_ | skip
           show Zl _ _ _ _ _ _ _ _
           refine Za rfl<|Zs (a:=(i:Int)) (b:=1) rfl rfl ⟨by omega,by omega⟩<|Za rfl<|Zb ?_
           have hPn:Pk (JX (mbL g cs) tot) ps (i+1) x:=hP.skip (by first | (exact .inl (hin (by omega))) | exact .inr ⟨m,hxm,by unfold JX;unfold yn at hcm hci;omega⟩)
           exact ⟨k4 - 1,(x,i+1),by omega,⟨by simp only [];omega,hk,hq,hr,hPn⟩,rfl,rfl,rfl,rfl,rfl,trivial⟩
          ·have g8:rx > ry:=of_decide_eq_true g8
           refine ZY rfl (Yl (v:=.bool true) rfl rfl ?_)
           refine Yl (v:=.bool true) rfl rfl ?_
           refine ZH (by repeat' first | exact True.intro | exact (fun h=>h) | refine And.intro ?_ ?_ | (intro h;have h:(_:Nat)=_:=h;omega)) ?_
           refine Yz ?_
           show Zl _ _ _ _ _ _ _ _
           refine Za rfl<|Za rfl<|Zb ?_
           show Zl _ _ _ _ _ _ _ _
           refine Za rfl<|Zs (a:=(i:Int)) (b:=1) rfl rfl ⟨by omega,by omega⟩<|Za rfl<|Zb ?_
           have hPn:Pk (JX (mbL g cs) tot) ps (i+1) i:=hP.take (hnin (by omega)) (by first | (exact .inl (by omega)) | exact .inr ⟨m,hxm,by unfold JX;unfold yn at hcm hci;omega⟩)
           exact ⟨k4 - 1,((i:Int),i+1),by omega,⟨by simp only [];omega,hk,hq,hr,hPn⟩,rfl,rfl,rfl,rfl,rfl,trivial⟩
         ·have g7:x < 0:=of_decide_eq_true g7
          refine ZY rfl (Ze rfl ?_)
          refine ZE rfl<|ZE rfl<|ZE rfl<|ZE rfl<|ZE rfl<|ZE rfl<|ZE rfl<|ZE rfl<|ZE rfl ?_
          refine ZY rfl (Yl (v:=.bool true) rfl rfl ?_)
          refine Yl (v:=.bool true) rfl rfl ?_
          refine ZH (by repeat' first | exact True.intro | exact (fun h=>h) | refine And.intro ?_ ?_ | (intro h;have h:(_:Nat)=_:=h;omega)) ?_
          refine Yz ?_
          show Zl _ _ _ _ _ _ _ _
          refine Za rfl<|Za rfl<|Zb ?_
          show Zl _ _ _ _ _ _ _ _
          refine Za rfl<|Zs (a:=(i:Int)) (b:=1) rfl rfl ⟨by omega,by omega⟩<|Za rfl<|Zb ?_
          have hPn:Pk (JX (mbL g cs) tot) ps (i+1) i:=hP.take (hnin (by omega)) (by first | (exact .inl (by omega)) | exact .inr ⟨m,hxm,by unfold JX;unfold yn at hcm hci;omega⟩)
          exact ⟨k4 - 1,((i:Int),i+1),by omega,⟨by simp only [];omega,hk,hq,hr,hPn⟩,rfl,rfl,rfl,rfl,rfl,trivial⟩
       ·have q5:¬ ((i:Int) < (M:Int)):=of_decide_eq_false q5
        have eiM:i=(mbL g cs).length:=by omega
        subst eiM
        obtain ⟨m,hxm,hm1,hm2,hps2⟩:=hP.found (by omega) hps
        have hmi:=Y9 (z:=Mb.z) hmok (show m < (mbL g cs).length by omega)
        obtain ⟨hm_1,hm_2,hm3,hm4⟩:=hmi
        have hmul:=jb hdmu.1 hdmu.2 hm3 hm4
        have hqd:=Int.ediv_nonneg hmul.1 (show 0≤ZW (mbL g cs) by omega);have hqe:=Int.ediv_le_self (ZW (mbL g cs)) hmul.1
        first | (refine Zz ?_;show wC _ _ _ _ _ _ _ _ _) | skip
        refine Zc<|Za rfl<|Za rfl<|Za rfl<|Za rfl<|YZ (b:=qb) (o:=0) (k:=m) (j:=x) rfl rfl hxm (by omega)<|ZB (b:=qb) (o:=0+m * 3) rfl<|ZZ (b:=qb) (o:=0+m * 3+2) (v:=iv (tot * ((mbL g cs).getD m Mb.z).b / ZW (mbL g cs))) rfl hq.rd (by have:=VY (l:=shX (mbL g cs) tot ps) (i:=m) (j:=2) (by rw [Vl];omega) rfl;rw [ZdE (by omega),if_neg hm2,Int.add_zero] at this;exact this)<|Zs (a:=(tot * ((mbL g cs).getD m Mb.z).b / ZW (mbL g cs))) (b:=1) rfl rfl ⟨by omega,by omega⟩<|YZ (b:=qb) (o:=0) (k:=m) (j:=x) rfl rfl hxm (by omega)<|ZB (b:=qb) (o:=0+m * 3) rfl<|K5 (b:=qb) (o:=0+m * 3+2) rfl rfl hq (by omega) rfl rfl (by rw [U5,Vl];omega) ?_
        intro H8 kH8 nH8 sH8
        have mH8:=kH8.1
        have hq:Cl H8 qb (qtc (shX (mbL g cs) tot (ps ++ [m]))):=by rw [← ZiB];rw [ja (by rw [Vl];omega),ZdE (by omega)] at sH8;exact sH8
        have hr:=kH8.cl hr (by simp;omega)
        have hk:=hk.new kH8 (fun b hb=>.inr (by simp at hb;omega))
        refine Zb ?_
        show Zl _ _ _ _ _ _ _ _
        refine Za rfl<|Za rfl<|YZ (b:=rb) (o:=0) (k:=m) (j:=x) rfl rfl hxm (by omega)<|K5 (b:=rb) (o:=0+m * 1) rfl rfl hr (by omega) rfl rfl (by rw [Vx,Jr];omega) ?_
        intro H9 kH9 nH9 sH9
        have mH9:=kH9.1
        have hr:Cl H9 rb (cI (Kx (mbL g cs) tot (ps ++ [m]))):=by rw [← ZgO,← ZdL];exact sH9
        have hq:=kH9.cl hq (by simp;omega)
        have hk:=hk.new kH9 (fun b hb=>.inr (by simp at hb;omega))
        refine Zb ?_
        show Zl _ _ _ _ _ _ _ _
        refine Za rfl<|Z4 (a:=((K:Int) - (ps.length:Int))) (b:=1) rfl rfl ⟨by omega,by omega⟩<|Za rfl<|Zb ?_
        exact ⟨k - 1,ps ++ [m],by omega,⟨by simp;omega,hk,hq,hr,hps2⟩,rfl,by simp only [List.length_append,List.length_singleton];exact congrArg (fun z=>some (iv z)) (by omega),rfl,trivial⟩
      ·have q4:¬ (((K:Int) - (ps.length:Int)) > 0):=of_decide_eq_false q4
       first | (refine Zz ?_;show wC _ _ _ _ _ _ _ _ _) | skip
       refine Zc<|Za rfl<|Za rfl<|Za rfl<|Zb ?_
       exact And.intro trivial (Exists.intro _ (And.intro rfl ⟨_,_,0,rfl,by unfold ShS;rw [if_pos hvA,if_pos hdm,if_neg hne];exact ⟨rfl,ps,hps,by omega,rfl⟩,⟨some ⟨qb,0,none⟩,M,by rw [Vl,← eM],by rw [Vl,← eM];exact .inr ⟨qb,rfl,hq.rd,Nat.le_refl _⟩⟩,hk⟩))
end
end
end Go.Ax

/-
 Pool: sorting: insertion sort,and in part (written by program).
-/
namespace Go.Ax
open Go Go.RowKit Go.Proofs

noncomputable section
structure yo (a i j:Nat) (g:Nat→Int):Prop where
 so:∀ p q,a≤p→p≤q→q≤i→p≠j→q≠j→g p≤g q
 lt:∀ q,j < q→q≤i→g j≤g q
 aj:a≤j
 ji:j≤i
theorem yo.init {a i:Nat} {g:Nat→Int} (h:Sor (fun x:Int=>x) a i g) (ha:a≤i):yo a i i g:=⟨fun p q h1 h2 h3 h4 h5=>h p q h1 h2 (by omega),fun q h1 h2=>by omega,ha,Nat.le_refl _⟩
theorem yo.step {a i j:Nat} {g:Nat→Int} (h:yo a i j g) (hj:a < j) (hl:g j < g (j - 1)):yo a i (j - 1) (swp g j (j - 1)):=by
 have h0:=h.aj
 have h1:=h.ji
 have hlt:=h.lt
 have hso:=h.so
 refine ⟨fun p q a1 a2 a3 a4 a5=>?_,fun q a1 a2=>?_,by omega,by omega⟩
 ·by_cases e1:p=j
  ·subst e1
   rw [Ub]
   by_cases e2:q=p
   ·subst e2;rw [Ub];exact Int.le_refl _
   ·rw [X6 (by omega) (by omega)];exact hso (p - 1) q (by omega) (by omega) a3 (by omega) (by omega)
  ·by_cases e2:q=j
   ·subst e2
    rw [Ub,X6 (by omega) (by omega)];exact hso p (q - 1) a1 (by omega) (by omega) (by omega) (by omega)
   ·rw [X6 (by omega) (by omega),X6 (by omega) (by omega)];exact hso p q a1 a2 a3 e1 e2
 ·rw [jO]
  by_cases e2:q=j
  ·subst e2;rw [Ub];omega
  ·rw [X6 (by omega) (by omega)];exact hlt q (by omega) a2
theorem yo.done {a i j:Nat} {g:Nat→Int} (h:yo a i j g) (hd:a < j→¬ g j < g (j - 1)):Sor (fun x:Int=>x) a (i+1) g:=by
 have h0:=h.aj
 have h1:=h.ji
 have hlt:=h.lt
 have hso:=h.so
 intro p q a1 a2 a3
 show g p≤g q
 by_cases e1:p=j
 ·subst e1
  by_cases e2:q=p
  ·subst e2;exact Int.le_refl _
  ·exact hlt q (by omega) (by omega)
 ·by_cases e2:q=j
  ·subst e2
   have c1:=hd (by omega)
   have c2:g p≤g (q - 1):=hso p (q - 1) a1 (by omega) (by omega) e1 (by omega)
   omega
  ·exact hso p q a1 a2 (by omega) e1 e2
theorem Sor.one {a:Nat} {g:Nat→Int}:Sor (fun x:Int=>x) a (a+1) g:=fun p q h1 h2 h3=>by rw [show p=q by omega];exact Int.le_refl _
theorem Sor.next {a i:Nat} {g:Nat→Int} (h:Sor (fun x:Int=>x) a i g) (hi:a < i) (hl:¬ g i < g (i - 1)):Sor (fun x:Int=>x) a (i+1) g:=(yo.init h (by omega)).done fun _=>hl
theorem Sor.swap {a i j k:Nat} {g:Nat→Int} (h:Sor (fun x:Int=>x) a i g) (hj:i≤j) (hk:i≤k):Sor (fun x:Int=>x) a i (swp g j k):=fun p q h1 h2 h3=>by
 show swp g j k p≤swp g j k q
 rw [X6 (by omega) (by omega),X6 (by omega) (by omega)];exact h p q h1 h2 h3
section
variable {kn:Kn} {lo:Nat} {H:Hp}
theorem ZeS (hlo:lo≤H.next) {bd cap n:Nat} {g:Nat→Int} (hlb:lo≤bd) (hn:n≤1000000) (hc:Cl H bd (cF n g)) {a b:Nat} (hab:a≤b) (hb:b≤n):∃ H' g',FnX Try.prog kn lo 85 [.slice (some ⟨bd,0,none⟩) n cap,iv (a:Int),iv (b:Int)] H (.tuple #[]) H'∧PRm a b g g'∧Sor (fun x:Int=>x) a b g'∧Keep H H' [bd]∧Cl H' bd (cF n g'):=by
 have key:=Zp (kn:=kn) (lo:=lo) (H:=H) (args:=[.slice (some ⟨bd,0,none⟩) n cap,iv (a:Int),iv (b:Int)]) (Q:=fun w H'=>w=.tuple #[]∧∃ g':Nat→Int,PRm a b g g'∧Sor (fun x:Int=>x) a b g'∧Keep H H' [bd]∧Cl H' bd (cF n g')) Try.func85 B85 N85 Z85 L85 (by simp) ?_
 ·obtain ⟨w,H',h,rfl,g',r⟩:=key;exact ⟨H',g',h,r⟩
 have hk:=Keep.refl H [bd]
 refine Zc<|Za rfl<|Zs (a:=(a:Int)) (b:=1) rfl rfl ⟨by omega,by omega⟩<|Za rfl<|Zb ?_
 refine Zt (fn:=Try.f85) Zgq N85 Zgo (fun i:Nat=>[(0,.slice (some ⟨bd,0,none⟩) n cap),(1,iv (a:Int)),(2,iv (b:Int)),(6,iv (i:Int))])
  (fun k i H'=>k=b+1 - i∧a+1≤i∧(i≤b∨i=a+1)∧∃ g':Nat→Int,PRm a b g g'∧Sor (fun x:Int=>x) a i g'∧Keep H H' [bd]∧Cl H' bd (cF n g')) _ (a+1) ⟨rfl,Nat.le_refl _,.inr rfl,g,PRm.refl _ _ _,Sor.one,hk,hc⟩ ⟨rfl,rfl,rfl,ivq (by omega),trivial⟩ ?_
 rintro k i L1 ⟨rfl,hi1,hi2,gx1,hp,hs,hk,hc⟩
 refine Zc<|Za rfl<|Za rfl<|ZC (a:=(i:Int)) (b:=(b:Int)) rfl rfl<|Zb ?_
 refine And.intro (fun q1=>?_) (fun q1=>?_)
 ·have q1:(i:Int) < (b:Int):=of_decide_eq_true q1
  first | refine Zi ?_ | skip
  refine Zc<|Za rfl<|Za rfl<|Zb ?_
  have hib:i < b:=by omega
  refine Zt (fn:=Try.f85) Zi1 N85 Zjl (fun j:Nat=>[(0,.slice (some ⟨bd,0,none⟩) n cap),(1,iv (a:Int)),(2,iv (b:Int)),(6,iv (i:Int)),(7,iv (j:Int))])
   (fun k j H'=>k=j+1∧∃ g':Nat→Int,PRm a b g g'∧yo a i j g'∧Keep H H' [bd]∧Cl H' bd (cF n g')) _ i ⟨rfl,gx1,hp,yo.init hs (by omega),hk,hc⟩ ⟨rfl,rfl,rfl,rfl,rfl,trivial⟩ ?_
  rintro k j L2 ⟨rfl,gx2,hp,hin,hk,hc⟩
  have qaj:=hin.aj;have qji:=hin.ji
  refine YF<|Ze rfl<|Ze rfl<|Q4 (a:=(j:Int)) (b:=(a:Int)) rfl rfl ?_
  intro t2 g2;cases t2
  ·have g2:¬ ((j:Int) > (a:Int)):=of_decide_eq_false g2
   refine Ze rfl<|ZE rfl<|ZE rfl<|ZE rfl<|ZE rfl<|ZE rfl<|ZE rfl<|ZE rfl<|ZE rfl<|ZE rfl<|ZE rfl<|Yl (v:=.bool false) rfl rfl ?_
   refine ZH (by repeat' first | exact True.intro | exact (fun h=>h) | refine And.intro ?_ ?_ | (intro h;have h:(_:Nat)=_:=h;omega)) ?_
   refine ZP ?_
   first | (refine Zz ?_;show wC _ _ _ _ _ _ _ _ _) | skip
   show Zl _ _ _ _ _ _ _ _
   refine Za rfl<|Zs (a:=(i:Int)) (b:=1) rfl rfl ⟨by omega,by omega⟩<|Za rfl<|Zb ?_
   exact ⟨_,i+1,by omega,⟨rfl,by omega,by omega,gx2,hp,hin.done (fun h=>by omega),hk,hc⟩,rfl,rfl,rfl,ivq (by omega),trivial⟩
  ·have g2:(j:Int) > (a:Int):=of_decide_eq_true g2
   refine Ze rfl ?_
   refine ZY rfl (Ze rfl ?_)
   refine ZY rfl (Ze rfl ?_)
   refine ZY rfl (ZA (b:=bd) (o:=0) (k:=j) (j:=(j:Int)) rfl rfl (by omega) (by omega) ?_)
   refine ZY rfl (ZM (b:=bd) (o:=0+j * 1) (v:=iv (gx2 j)) rfl hc.rd (ZbN (by omega)) ?_)
   refine ZY rfl (Ze rfl ?_)
   refine ZY rfl (Ze rfl ?_)
   refine ZY rfl (Xm (a:=(j:Int)) (b:=1) rfl rfl ⟨by omega,by omega⟩ ?_)
   refine ZY rfl (ZA (b:=bd) (o:=0) (k:=j - 1) (j:=(j:Int) - 1) rfl rfl (by omega) (by omega) ?_)
   refine ZY rfl (ZM (b:=bd) (o:=0+(j - 1) * 1) (v:=iv (gx2 (j - 1))) rfl hc.rd (ZbN (by omega)) ?_)
   obtain ⟨H1,fH1,kH1⟩:=ZfR (kn:=kn) (lo:=lo) (H:=L2) (gx2 j) (gx2 (j - 1))
   refine ZY rfl (YC (vs:=[iv (gx2 j),iv (gx2 (j - 1))]) rfl (Zh fH1) ?_)
   have mH1:=kH1.1
   have hc:=kH1.cl hc (by simp)
   have hk:=hk.trans (kH1.mono (by simp))
   refine Yl (v:=.bool (decide (gx2 j < gx2 (j - 1)))) rfl rfl ?_
   refine ZH (by repeat' first | exact True.intro | exact (fun h=>h) | refine And.intro ?_ ?_ | (intro h;have h:(_:Nat)=_:=h;omega)) ?_
   refine And.intro (fun q3=>?_) (fun q3=>?_)
   ·have q3:gx2 j < gx2 (j - 1):=of_decide_eq_true q3
    first | refine Zi ?_ | skip
    first | refine Ye ?_ | refine Wu ?_ | refine Vw ?_ | (refine YY ?_;refine Ye ?_)
    refine Ze rfl<|Ze rfl<|Ze rfl<|Ze rfl<|Xm (a:=(j:Int)) (b:=1) rfl rfl ⟨by omega,by omega⟩<|Ze rfl<|Ze rfl<|Xm (a:=(j:Int)) (b:=1) rfl rfl ⟨by omega,by omega⟩<|ZA (b:=bd) (o:=0) (k:=j - 1) (j:=(j:Int) - 1) rfl rfl (by omega) (by omega)<|ZM (b:=bd) (o:=0+(j - 1) * 1) (v:=iv (gx2 (j - 1))) rfl hc.rd (ZbN (by omega))<|Ze rfl<|Ze rfl<|ZA (b:=bd) (o:=0) (k:=j) (j:=(j:Int)) rfl rfl (by omega) (by omega)<|ZM (b:=bd) (o:=0+j * 1) (v:=iv (gx2 j)) rfl hc.rd (ZbN (by omega))<|ZA (b:=bd) (o:=0) (k:=j) (j:=(j:Int)) rfl rfl (by omega) (by omega)<|Zgj (b:=bd) (o:=0+j * 1) rfl rfl hc hlb rfl rfl (by rw [Zes];omega) ?_
    intro H2 kH2 nH2 sH2
    have mH2:=kH2.1
    have hk:=hk.trans kH2
    rw [ZdM (by omega)] at sH2
    have hc:=sH2
    refine ZA (b:=bd) (o:=0) (k:=j - 1) (j:=(j:Int) - 1) rfl rfl (by omega) (by omega)<|Zgj (b:=bd) (o:=0+(j - 1) * 1) rfl rfl hc hlb rfl rfl (by rw [Zes];omega) ?_
    intro H3 kH3 nH3 sH3
    have mH3:=kH3.1
    have hk:=hk.trans kH3
    rw [ZdM (by omega)] at sH3
    have hc:=sH3
    have hc:Cl H3 bd (cF n (swp gx2 j (j - 1))):=hc
    refine ZH (by repeat' first | exact True.intro | exact (fun h=>h) | refine And.intro ?_ ?_ | (intro h;have h:(_:Nat)=_:=h;omega)) ?_
    show Zl _ _ _ _ _ _ _ _
    refine Za rfl<|Z4 (a:=(j:Int)) (b:=1) rfl rfl ⟨by omega,by omega⟩<|Za rfl<|Zb ?_
    exact ⟨_,j - 1,by omega,⟨rfl,_,hp.trans (PRm.swap (by omega) (by omega) (by omega) (by omega)),hin.step (by omega) (by omega),hk,hc⟩,rfl,rfl,rfl,rfl,ivq (by omega),trivial⟩
   ·have q3:¬ (gx2 j < gx2 (j - 1)):=of_decide_eq_false q3
    first | (refine Zz ?_;show wC _ _ _ _ _ _ _ _ _) | skip
    show Zl _ _ _ _ _ _ _ _
    refine Za rfl<|Zs (a:=(i:Int)) (b:=1) rfl rfl ⟨by omega,by omega⟩<|Za rfl<|Zb ?_
    exact ⟨_,i+1,by omega,⟨rfl,by omega,by omega,gx2,hp,hin.done (fun h=>by omega),hk,hc⟩,rfl,rfl,rfl,ivq (by omega),trivial⟩
 ·have q1:¬ ((i:Int) < (b:Int)):=of_decide_eq_false q1
  first | (refine Zz ?_;show wC _ _ _ _ _ _ _ _ _) | skip
  exact And.intro trivial (Exists.intro _ (And.intro rfl ⟨rfl,gx1,hp,fun p q h1 h2 h3=>hs p q h1 h2 (by omega),hk,hc⟩))
end
section
variable {kn:Kn} {lo:Nat} {H:Hp}
end
end
end Go.Ax

/-! Sorting: what pdqsort does to at most twelve. -/
namespace Go.Ax
open Go Go.RowKit Go.Proofs
noncomputable section
section
variable {kn:Kn} {lo:Nat} {H:Hp}
set_option maxRecDepth 100000 in
set_option maxHeartbeats 2000000 in
theorem ZgH {bd cap n:Nat} (hlb:lo≤bd) (hn2:n < 13):∀ (M:Nat) (H:Hp) (A B:Nat) (g:Nat→Int) (l:Nat),lo≤H.next→A≤B→B≤n→B - A < M→l≤64→Cl H bd (cF n g)→Low (fun x:Int=>x) A B g→∃ H' g',FnX Try.prog kn lo 80 [.slice (some ⟨bd,0,none⟩) n cap,iv (A:Int),iv (B:Int),iv (l:Int)] H (.tuple #[]) H'∧PRm A B g g'∧Sor (fun x:Int=>x) A B g'∧Keep H H' [bd]∧Cl H' bd (cF n g'):=by
 intro M H A B g l hlo hAB hBn hM hl hc h0
 have key:=Zp (kn:=kn) (lo:=lo) (H:=H) (args:=[.slice (some ⟨bd,0,none⟩) n cap,iv (A:Int),iv (B:Int),iv (l:Int)]) (Q:=fun w H'=>w=.tuple #[]∧∃ g':Nat→Int,PRm A B g g'∧Sor (fun x:Int=>x) A B g'∧Keep H H' [bd]∧Cl H' bd (cF n g')) Try.func80 B80 N80 Z80 L80 (by simp) ?_
 ·obtain ⟨w,H',h,rfl,g',q⟩:=key;exact ⟨H',g',h,q⟩
 obtain ⟨H1,g1,h1,p1,s1,k1,c1⟩:=ZeS (kn:=kn) (lo:=lo) (H:=H) hlo (cap:=cap) hlb (by omega) hc hAB hBn
 refine Zc (Za rfl (Zb (Zc (Za rfl (Zb (W4 (QT ?_)))))))
 refine Zt Zgb N80 Zgs (fun _:Unit=>[(0,.slice (some ⟨bd,0,none⟩) n cap),(1,iv (A:Int)),(2,iv (B:Int))]) (fun k _ H'=>H'=H) 0 () rfl ⟨rfl,rfl,rfl,True.intro⟩ ?_
 rintro k _ H2 rfl
 refine W4 (Zc (Za rfl (Za rfl (Z4 (a:=(B:Int)) (b:=(A:Int)) rfl rfl ⟨by omega,by omega⟩ (Za rfl (Zb ?_))))))
 refine Wx (Zc (Za rfl (Xr (a:=(B:Int) - (A:Int)) (b:=12) rfl rfl (Zb ?_))))
 refine Wv (t:=true) (by show some (Value.bool (decide ((B:Int) - (A:Int)≤12)))=_;rw [decide_eq_true (by omega)]) (fun _=>?_) (fun h=>by cases h)
 refine Zc (Za rfl (Za rfl (Za rfl (Zu (vs:=[.slice (some ⟨bd,0,none⟩) n cap,iv (A:Int),iv (B:Int)]) rfl (Zh h1) (Zb ?_)))))
 exact ⟨True.intro,[],rfl,rfl,g1,p1,s1,k1,c1⟩
end
end
end Go.Ax

/-
 Pool: the keys of a map,sorted (72,79,70,71,56,57) (written by program).
-/
namespace Go.Ax
open Go Go.RowKit Go.Proofs

noncomputable section
theorem _root_.Go.Ax.Keep.mqa0 {α:Type} [DecidableEq α] {enc:α→Value} {H H1:Hp} (k:Keep H H1 []) {b:Nat} {L:ML α} {c:Nat} (h:Mqa enc H b L c):Mqa enc H1 b L c:=k.mqa h (by simp)
structure Xl (f:Nat) (W:List Nat) (H H':Hp):Prop where
 le:H.next≤H'.next
 same:∀ b,b < f→b ∉ W→H'.t.get b=H.t.get b
 rox:∀ b cs,b < H'.next→H'.t.get b=some (.ro cs)→b < H.next∧H.t.get b=some (.ro cs)
theorem Xl.trans {f:Nat} {W:List Nat} {H H1 H2:Hp} (h:Xl f W H H1) (k:Xl f W H1 H2):Xl f W H H2:=
 ⟨Nat.le_trans h.1 k.1,fun b hb hw=>(k.2 b hb hw).trans (h.2 b hb hw),fun b cs hb hg=>(k.3 b cs hb hg).elim fun x y=>h.3 b cs x y⟩
theorem Xl.low {f f':Nat} {W:List Nat} {H H1:Hp} (h:Xl f W H H1) (hf:f'≤f):Xl f' W H H1:=⟨h.1,fun b hb hw=>h.2 b (Nat.lt_of_lt_of_le hb hf) hw,h.3⟩
theorem Xl.of {f:Nat} {W l:List Nat} {H H1:Hp} (h:Keep H H1 l) (hf:f≤H.next) (hl:∀ b∈l,b∈W∨f≤b):Xl f W H H1:=
 ⟨h.1,fun b hb hw=>h.2 b (Nat.lt_of_lt_of_le hb hf) fun q=>(hl b q).elim (fun x=>hw x) (fun x=>by omega),h.3⟩
theorem Xl.mqa {α:Type} [DecidableEq α] {enc:α→Value} {f:Nat} {W:List Nat} {H H1:Hp} (k:Xl f W H H1) {b:Nat} {L:ML α} {c:Nat} (h:Mqa enc H b L c) (hb:b < f) (hw:b ∉ W):Mqa enc H1 b L c:=⟨Nat.lt_of_lt_of_le h.1 k.le,by rw [k.same b hb hw];exact h.2⟩
theorem Xl.ita {α:Type} {f:Nat} {W:List Nat} {H H1:Hp} (k:Xl f W H H1) {r m c:Nat} {D:ML α} (h:Ita H r m c D) (hb:r < f) (hw:r ∉ W):Ita H1 r m c D:=⟨Nat.lt_of_lt_of_le h.1 k.le,by rw [k.same r hb hw];exact h.2⟩
section
variable {kn:Kn} {lo:Nat} {H:Hp}
set_option maxRecDepth 100000 in
theorem Ze2 (s:Snd Try.prog kn) {W:List Nat} {Y:Nat→ML Int→Hp→Prop} (hlo:lo≤H.next) {bm m c l:Nat} {L:ML Int} (hbm:Rd H bm [.map (some m)]) (hm:Mqa iv H m L c) (hw:WfA L c) (hW:∀ b∈W,b < H.next∧b≠m)
  (h0:∀ H1,Keep H H1 []→H1.next=H.next+1→Y (H.next+1) [] H1)
  (hy:∀ D x H1,H.next+1≤H1.next→D.length < L.length→x∈L→Y (H.next+1) D H1→X2 Try.prog lo (.fn (.yield l) #[]) [iv x.1] H1 fun v H2=>v=.bool true∧Xl (H.next+1) W H1 H2∧Y (H.next+1) (D ++ [x]) H2)
  (hyk:∀ D H1 H2,Y (H.next+1) D H1→Keep H1 H2 [H.next]→H2.next=H1.next→Y (H.next+1) D H2) :
  FnM Try.prog lo 72 [.func (.yield l) #[] #[],.pointer (some ⟨bm,0,none⟩)] H fun v H'=>v=.tuple #[]∧Xl H.next W H H'∧∃ D:ML Int,D.Perm L∧Y (H.next+1) D H':=by
 have hnW:H.next ∉ W:=fun q=>by have:=(hW _ q).1;omega
 have hmW:m ∉ W:=fun q=>(hW _ q).2 rfl
 refine WV s Try.func72 B72 N72 Z72 L72 (by simp) ?_
 refine Zv (W3 rfl hbm rfl (ZbP rfl hm fun H1 k1 n1 i1=>Zj (K4 (zV ?_))))
 refine VF s ZiU N72 Zjk (fun _:ML Int=>[(0,.func (.yield l) #[] #[]),(5,.pointer (some ⟨H.next,0,none⟩))])
  (fun k D H'=>k=L.length - D.length∧D.Nodup∧(∀ y∈D,y∈L)∧Xl H.next W H H'∧Ita H' H.next m c D∧Mqa iv H' m L c∧Y (H.next+1) D H'∧H.next+1≤H'.next) _ [] ⟨rfl,List.nodup_nil,(fun y h=>by cases h),Xl.of k1 (Nat.le_refl _) (by simp),i1,k1.mqa0 hm,h0 H1 k1 n1,by omega⟩ ⟨rfl,rfl,True.intro⟩ ?_
 rintro k D H2 ⟨rfl,hn,hD,k2,i2,m2,y2,l2⟩
 have hne:m≠H.next:=Nat.ne_of_lt hm.1
 refine Zv (Zcj rfl i2 m2 hw hD jy.fl hlo (fun hall=>?_) (fun y hyL hny H3 k3 n3 i3=>?_))
 ·refine Zo (v:=.bool false) rfl (by kernel_rfl) (Zj (U3 (Jt (t:=false) rfl (fun h=>by cases h) fun _=>Jx ?_)))
  exact ⟨True.intro,[],rfl,rfl,k2,D,VU hn hw.nodup fun x=>⟨hD x,hall x⟩,y2⟩
 ·have hsub:∀ x∈D ++ [y],x∈L:=fun x hx=>by
   rcases List.mem_append.1 hx with h | h
   ·exact hD x h
   ·simp at h;rw [h];exact hyL
  have hnd:(D ++ [y]).Nodup:=List.nodup_append.2 ⟨hn,by simp,fun a ha b hb e=>hny (by simp at hb;rw [← hb,← e];exact ha)⟩
  have hlen:(D ++ [y]).length=D.length+1:=by simp
  have hDL:D.length < L.length:=by have:=Xt hnd hsub;omega
  have m3:Mqa iv H3 m L c:=k3.mqa m2 (by simpa using hne)
  refine Zo (v:=.bool true) rfl (by kernel_rfl) (Zj (U3 (Jt (t:=true) rfl (fun _=>YL ?_) fun h=>by cases h)))
  refine K4 (Zv (ZbZ rfl i3 m3 hw hyL jy.fl (Zo (v:=iv y.1) rfl (by kernel_rfl) (Zd rfl (Zj ?_)))))
  refine Zv (Zd rfl (Zd rfl (YR rfl (hy D y H3 (by omega) hDL hyL (hyk D H2 H3 y2 k3 n3)) ?_)))
  rintro v H4 ⟨rfl,k4,y4⟩
  refine Zo (v:=.bool false) rfl (by kernel_rfl) (Zj (Jt (t:=false) rfl (fun h=>by cases h) fun _=>YL ?_))
  have k24:Xl H.next W H H4:=k2.trans ((Xl.of k3 (by omega) (by simp)).trans (k4.low (by omega)))
  exact ⟨_,D ++ [y],by rw [hlen];omega,⟨rfl,hnd,hsub,k24,k4.ita i3 (by omega) hnW,k4.mqa m3 (by have:=hm.1;omega) hmW,y4,by have:=k4.le;omega⟩,rfl,rfl,True.intro⟩
theorem ZjG:ZT Try.prog 67=some (3,1):=by kernel_rfl
theorem ZhP:Try.prog.underlying 67=some (.slice 3):=by kernel_rfl
def ApY (lo b2 l rr:Nat) (asg body:Code) (S0:Rg) (f:Nat) (D:ML Int) (H:Hp):Prop:=
 Lp Try.prog H l .ready none 13 S0 [7] asg body rr∧l < f∧b2 < l∧f≤H.next∧H.t.get rr=some (.dfr (some []))∧rr < l∧b2≠rr∧∃ v,Cl H b2 [v]∧one v=true∧v.cells.toList=[v]∧Acc lo f 3 H v D.length (D.map fun x=>iv x.1)
theorem YW.lp {P:Program} {f:Nat} {H H1:Hp} {l:Nat} {st:LoopState} {pe:Option Code} {n:Nat} {S:Rg} {ps:List Tmp} {asg body:Code} {r:Nat} (k:YW f H H1) (h:Lp P H l st pe n S ps asg body r) (hl:l < f):Lp P H1 l st pe n S ps asg body r:=by
 obtain ⟨fn,T,g,q⟩:=h
 exact ⟨fn,T,by rw [k.same _ hl];exact g,q⟩
set_option maxRecDepth 100000 in
set_option maxHeartbeats 1000000 in
theorem qQ (s:Snd Try.prog kn) (hlo:lo≤H.next) {bm m c:Nat} {L:ML Int} (hbm:Rd H bm [.map (some m)]) (hm:Mqa iv H m L c) (hw:WfA L c) (hL:L.length≤12) :
  FnM Try.prog lo 79 [.slice none 0 0,.func (.func 72) #[] #[.pointer (some ⟨bm,0,none⟩)]] H fun v H'=>Keep H H' []∧∃ D:ML Int,D.Perm L∧Acc lo H.next 3 H' v D.length (D.map fun x=>iv x.1):=by
 refine Zex s Try.func79 B79 N79 Z79 L79 (by simp) ?_
 refine KM (qz (UN rfl fun H1 k1 n1 c1=>Zd rfl (Zj ?_)))
 refine KM (KM (qz (Zd rfl (Zj (ZcN (Zc0 ?_))))))
 rw [Zil]
 refine YV.range rfl fun H2 k2 n2 g2 l2=>?_
 have hb2:H.next < H1.next:=by omega
 have c2:Cl H2 H.next [.slice none 0 0]:=k2.cl c1 (by simp)
 have hbm2:Rd H2 bm [.map (some m)]:=k2.rd (k1.rd hbm (by simp)) (by simp)
 have hm2:Mqa iv H2 m L c:=k2.mqa0 (k1.mqa0 hm)
 have k12:Keep H H2 []:=k1.new k2 (by simp)
 generalize hasg:at_ Try.f79 [1,0,1,0,0]=asg at l2
 generalize hbody:at_ Try.f79 [1,0,1,0,1]=body at l2
 generalize hS0:(Zy (Zy (Zy (VA [Value.slice none 0 0,Value.func (Fn.func 72) #[] #[Value.pointer (some { block:=bm,off:=0 })]] 0) (some 2) (Value.pointer (some { block:=H.next,off:=0 }))) (some 4) (Value.slice none 0 0)) (some 6) (Value.func (Fn.func 72) #[] #[Value.pointer (some { block:=bm,off:=0 })]))=S0 at l2
 have hf:=Ze2 (kn:=kn) (lo:=lo) s (H:=H2) (W:=[H.next,H1.next+1]) (Y:=ApY lo H.next (H1.next+1) H1.next asg body S0) (l:=H1.next+1) (by omega) hbm2 hm2 hw (by
   intro b hb
   have:=hm.1
   simp at hb
   rcases hb with rfl | rfl<;>omega) (fun H3 k3 n3=>?_) (fun D x H3 hn hD hx hY=>?_) (fun D H3 H4 hY k4 n4=>?_)
 ·refine ⟨_,K9 s.hN (by simpa using hf),fun v H3 hQ=>?_⟩
  obtain ⟨_,k3,D,hD,l3,hlf,hbl,hfn,hdf,hrl,hbr,v3,c3,h1,h2,a3⟩:=hQ
  refine ⟨.ready,none,S0,l3,by simp,fun H4 hset=>?_⟩
  have k4:=hset.keep
  have c4:Cl H4 H.next [v3]:=k4.cl c3 (by simp;omega)
  subst hS0
  refine KM (qz (W3 rfl c4.rd rfl (Zd rfl (Zj (Zfi ⟨True.intro,.inr ⟨H1.next,rfl,by omega,?_,fun H5 n5 k5=>⟨[v3],rfl,?_,D,hD,?_⟩⟩⟩)))))
  ·rw [k4.same H1.next (by omega) (by simp)];exact hdf
  ·refine ⟨by have:=k12.le;have:=k3.le;have:=k4.le;have:=k5.le;omega,fun b hb _=>?_,fun b cs hb hg=>?_⟩
   ·rw [k5.same b (by have:=k12.le;have:=k3.le;have:=k4.le;omega) (by simp;omega),k4.same b (by have:=k12.le;have:=k3.le;omega) (by simp;omega),k3.same b (by have:=k12.le;omega) (by simp;omega),k12.same b hb (by simp)]
   ·obtain ⟨q1,g1⟩:=k5.rox b cs hb hg
    obtain ⟨q2,g2⟩:=k4.rox b cs q1 g1
    obtain ⟨q3,g3⟩:=k3.rox b cs q2 g2
    exact k12.rox b cs q3 g3
  ·have a4:=a3.keepW k4 (by omega)
   have a5:=a4.keepW k5 (by omega)
   exact a5.imp id fun ⟨b,e1,e2,e3,e4⟩=>⟨b,e1,e2,by have:=k12.le;omega,e4⟩
 ·exact ⟨l2.keep k3 (by omega) (by simp),by omega,by omega,by omega,by rw [k3.same H1.next (by omega) (by simp)];exact g2,by omega,by omega,_,k3.cl c2 (by simp),rfl,rfl,.inl ⟨rfl,rfl,rfl⟩⟩
 ·obtain ⟨l3,hlf,hbl,hfn,hdf,hrl,hbr,v3,c3,h1,h2',a3⟩:=hY
  have hmono:=k12.le
  subst hasg hbody
  have hb:Ko [7] [iv x.1] S0=some ((7,iv x.1) :: S0):=rfl
  refine (Zha s.hm l3 (by omega) (by decide) hb (Q:=fun b H'=>b=true∧Xl (H2.next+1) [H.next,H1.next+1] H3 H'∧ApY lo H.next (H1.next+1) H1.next (at_ Try.f79 [1,0,1,0,0]) (at_ Try.f79 [1,0,1,0,1]) S0 (H2.next+1) (D ++ [x]) H') ?_).mono fun v H' ⟨b,e,q1,q2,q3⟩=>⟨by rw [e,q1],q2,q3⟩
  have hN:Try.f79.ntmps=13:=N79
  refine Ym (kn:=kn) s _ (by rw [← hN];exact Zjo) (ZdA (Zd rfl (Zj ⟨True.intro,l3,fun H4 hset=>?_⟩)))
  have k4:=hset.keep
  have n4:H4.next=H3.next:=hset.1
  have l4:=hset.lp l3
  have c4:Cl H4 H.next [v3]:=k4.cl c3 (by simp;omega)
  have a4:=a3.keepW k4 hlf
  subst hS0
  refine Ym (kn:=kn) s _ (by rw [← hN];exact ZiN) (Zg4 (W3 rfl c4.rd rfl (Zd rfl ?_)))
  refine Wk rfl rfl (YU (v:=iv x.1) ZjG zo3 rfl rfl rfl (by decide)) (fun q e=>by cases e) ?_
  obtain ⟨k5,n5,c5⟩:=ZD (H:=H4) (cs:=[iv x.1]) (e:=3) (l:=false) rfl
  have hlen:(D.map fun x=>iv x.1).length=D.length * 1:=by simp
  obtain ⟨H6,kd,e6,d6,a6,kb6⟩:=Yw (P:=Try.prog) (lo:=lo) (k:=D.length) (t1:=67) (f:=H2.next+1) ZjG ZhP (c5.sl (Nat.le_refl 1)) rfl (by decide) rfl hlen (by omega) (a4.keep k5) (by omega) (by omega)
  refine Wk (k:=kd) rfl (by kernel_rfl) (e6 _ _ _ _ _ _ _ rfl rfl) (fun q e=>by rcases d6 with rfl | ⟨b6,rfl,hb6⟩<;>cases e) ?_
  have c6:Cl H6 H.next [v3]:=kb6.cl (k5.cl c4 (by simp)) (by omega)
  have l6:=kb6.lp (l4.keep k5 (by omega) (by simp)) (by omega)
  have m6:=kb6.le
  have kf6:Xl (H2.next+1) [H.next,H1.next+1] H3 H6:=((Xl.of k4 (by omega) (by simp)).trans (Xl.of k5 (by omega) (by simp))).trans ⟨kb6.le,fun b hb _=>kb6.same b hb,kb6.rox⟩
  refine ZiI rfl rfl c6 hlo rfl rfl (by simp) fun H7 k7 n7 c7=>Zj ⟨l6.keep k7 (by omega) (by simp;omega),fun H8 hset8=>⟨rfl,?_,?_⟩⟩
  ·exact (kf6.trans (Xl.of k7 (by omega) (by simp))).trans (Xl.of hset8.keep (by omega) (by simp))
  ·have k8:=hset8.keep
   have n8:H8.next=H7.next:=hset8.1
   have kf8:=(kf6.trans (Xl.of k7 (by omega) (by simp))).trans (Xl.of (f:=H2.next+1) (W:=[H.next,H1.next+1]) k8 (by omega) (by simp))
   have a8:=(a6.keepW k7 (by omega)).keepW k8 (by omega)
   refine ⟨hset8.lp (l6.keep k7 (by omega) (by simp;omega)),hlf,hbl,by omega,by rw [kf8.same H1.next (by omega) (by simp;omega)];exact hdf,hrl,hbr,_,k8.cl c7 (by simp;omega),rfl,rfl,?_⟩
   simpa using a8
 ·obtain ⟨l3,hlf,hbl,hfn,hdf,hrl,hbr,v3,c3,h1,h2',a3⟩:=hY
  exact ⟨l3.keep k4 (by omega) (by simp;omega),hlf,hbl,by omega,by rw [k4.same H1.next (by omega) (by simp;omega)];exact hdf,hrl,hbr,v3,k4.cl c3 (by simp;omega),h1,h2',a3.keepW k4 (by omega)⟩
theorem ZbF (s:Snd Try.prog kn) (hlo:lo≤H.next) {bm m c:Nat} {L:ML Int} (hbm:Rd H bm [.map (some m)]) (hm:Mqa iv H m L c) (hw:WfA L c) (hL:L.length≤12) :
  FnM Try.prog lo 70 [.func (.func 72) #[] #[.pointer (some ⟨bm,0,none⟩)]] H fun v H'=>Keep H H' []∧∃ D:ML Int,D.Perm L∧Acc lo H.next 3 H' v D.length (D.map fun x=>iv x.1):=by
 refine WV s Try.func70 B70 N70 Z70 L70 (by simp) ?_
 refine Zv (Zd rfl (Zj (Zv (Zd rfl (YR (t:=.fn (.func 79) #[]) rfl (Yi s.hN (qQ s hlo hbm hm hw hL)) fun v H1 hq=>Zd rfl (Zj (js ⟨True.intro,[v],rfl,hq⟩)))))))
theorem ZeC (m:Nat):∃ H',FnX Try.prog kn lo 57 [.map (some m)] H (.func (.func 72) #[] #[.pointer (some ⟨H.next,0,none⟩)]) H'∧Keep H H' []∧Rd H' H.next [.map (some m)]:=by
 have key:=Zp (kn:=kn) (lo:=lo) (H:=H) (args:=[.map (some m)]) (Q:=fun w H'=>w=.func (.func 72) #[] #[.pointer (some ⟨H.next,0,none⟩)]∧Keep H H' []∧Rd H' H.next [.map (some m)]) Try.func57 B57 N57 Z57 L57 (by simp) ?_
 ·obtain ⟨w,H',h,rfl,q⟩:=key;exact ⟨H',h,q⟩
 refine Zc (YD rfl fun H1 k1 n1 c1=>Za rfl (Zb ?_))
 refine Zc (Zg (v:=.func (.func 72) #[] #[.pointer (some ⟨H.next,0,none⟩)]) rfl (by kernel_rfl) (Za rfl (Zb ?_)))
 exact ⟨True.intro,[.func (.func 72) #[] #[.pointer (some ⟨H.next,0,none⟩)]],rfl,rfl,k1,c1.rd⟩
theorem ZeR:∃ H',FnX Try.prog kn lo 85 [.slice none 0 0,iv 0,iv 0] H (.tuple #[]) H'∧Keep H H' []:=by
 have key:=Zp (kn:=kn) (lo:=lo) (H:=H) (args:=[.slice none 0 0,iv 0,iv 0]) (Q:=fun w H'=>w=.tuple #[]∧Keep H H' []) Try.func85 B85 N85 Z85 L85 (by simp) ?_
 ·obtain ⟨w,H',h,rfl,q⟩:=key;exact ⟨H',h,q⟩
 refine Zc (Za rfl (Zs (a:=0) (b:=1) rfl rfl ⟨by omega,by omega⟩ (Za rfl (Zb (W4 (QT ?_))))))
 refine Zt Zgq N85 Zgo (fun _:Unit=>[(2,iv 0),(6,iv 1)]) (fun k _ H'=>H'=H) 0 () rfl ⟨rfl,rfl,True.intro⟩ ?_
 rintro k _ H1 rfl
 refine Wx (Zc (Za rfl (Za rfl (ZC (a:=1) (b:=0) rfl rfl (Zb (Wv (t:=false) rfl (fun h=>by cases h) fun _=>Zz ?_))))))
 exact ⟨True.intro,[],rfl,rfl,Keep.refl _ _⟩
theorem Zfk {lim:Int}:∃ H',FnX Try.prog kn lo 80 [.slice none 0 0,iv 0,iv 0,iv lim] H (.tuple #[]) H'∧Keep H H' []:=by
 have key:=Zp (kn:=kn) (lo:=lo) (H:=H) (args:=[.slice none 0 0,iv 0,iv 0,iv lim]) (Q:=fun w H'=>w=.tuple #[]∧Keep H H' []) Try.func80 B80 N80 Z80 L80 (by simp) ?_
 ·obtain ⟨w,H',h,rfl,q⟩:=key;exact ⟨H',h,q⟩
 obtain ⟨H1,h1,k1⟩:=ZeR (kn:=kn) (lo:=lo) (H:=H)
 refine Zc (Za rfl (Zb (Zc (Za rfl (Zb (W4 (QT ?_)))))))
 refine Zt Zgb N80 Zgs (fun _:Unit=>[(0,.slice none 0 0),(1,iv 0),(2,iv 0)]) (fun k _ H'=>H'=H) 0 () rfl ⟨rfl,rfl,rfl,True.intro⟩ ?_
 rintro k _ H2 rfl
 refine W4 (Zc (Za rfl (Za rfl (Z4 (a:=0) (b:=0) rfl rfl ⟨by omega,by omega⟩ (Za rfl (Zb ?_))))))
 refine Wx (Zc (Za rfl (Xr (a:=0 - 0) (b:=12) rfl rfl (Zb ?_))))
 refine Wv (t:=true) rfl (fun _=>?_) (fun h=>by cases h)
 refine Zc (Za rfl (Za rfl (Za rfl (Zu rfl (Zh h1) (Zb ?_)))))
 exact ⟨True.intro,[],rfl,rfl,k1⟩
theorem ZgE (xs:List Int):cF xs.length (fun i=>xs.getD i 0)=xs.map iv:=Zh0

theorem Zfh (hlo:lo≤H.next) {bd cap:Nat} {xs:List Int} (hlb:lo≤bd) (hn:xs.length < 13) (hc:Cl H bd (cI xs)) :
  ∃ H',FnX Try.prog kn lo 71 [.slice (some ⟨bd,0,none⟩) xs.length cap] H (.tuple #[]) H'∧Keep H H' [bd]∧∃ ys,ys.Perm xs∧ys.Pairwise (·≤·)∧Cl H' bd (cI ys):=by
 have key:=Zp (kn:=kn) (lo:=lo) (H:=H) (args:=[.slice (some ⟨bd,0,none⟩) xs.length cap]) (Q:=fun w H'=>w=.tuple #[]∧Keep H H' [bd]∧∃ ys,ys.Perm xs∧ys.Pairwise (·≤·)∧Cl H' bd (cI ys)) Try.func71 B71 N71 Z71 L71 (by simp) ?_
 ·obtain ⟨w,H',h,rfl,q⟩:=key;exact ⟨H',h,q⟩
 obtain ⟨H1,h1,k1⟩:=Zeu (kn:=kn) (lo:=lo) (H:=H) (n:=xs.length) (by omega)
 have hbl:=ZfL (n:=xs.length) (by omega)
 have hc1:Cl H1 bd (cF xs.length (fun i=>xs.getD i 0)):=by rw [ZgE];exact k1.cl hc (by simp)
 obtain ⟨H2,g2,h2,p2,s2,k2,c2⟩:=ZgH (kn:=kn) (lo:=lo) (bd:=bd) (cap:=cap) (n:=xs.length) hlb hn (xs.length+1) H1 0 xs.length (fun i=>xs.getD i 0) (Qz xs.length) (by have:=k1.le;omega) (Nat.zero_le _) (Nat.le_refl _) (by omega) (by omega) hc1 (fun i h0=>by omega)
 refine Zc (Za rfl (Z6 rfl (Za rfl (Zb ?_))))
 refine z9 (Za rfl (Za rfl (Za rfl (Zg (v:=.int .u64 xs.length) rfl (zC (n:=xs.length) (j:=(xs.length:Int)) (by omega) rfl rfl) (Zu rfl (Zh h1) (Zu (vs:=[.slice (some ⟨bd,0,none⟩) xs.length cap,iv 0,iv (xs.length:Int),iv (Qz xs.length:Int)]) rfl (Zh h2) (Zb ?_)))))))
 refine ⟨True.intro,[],rfl,rfl,(k1.mono (by simp)).trans k2,rg g2 0 xs.length,?_,?_,?_⟩
 ·refine p2.perm.trans ?_
  have:(rg (fun i=>xs.getD i 0) 0 xs.length)=xs:=by
   have e:=ZgC (n:=xs.length) (g:=fun i=>xs.getD i 0)
   rw [ZgE] at e
   exact (List.map_inj_right (f:=iv) (fun a b h=>by cases h;rfl)).1 e.symm
  rw [this]
 ·rw [List.pairwise_iff_getElem]
  intro i j hi hj hij
  simp only [ZaQ] at hi hj
  have q:=s2 i j (by omega) (by omega) (by omega)
  simpa [rg] using q
 ·show Cl H2 bd ((rg g2 0 xs.length).map iv)
  rw [← ZgC];exact c2
theorem Zdg:∃ H',FnX Try.prog kn lo 71 [.slice none 0 0] H (.tuple #[]) H'∧Keep H H' []:=by
 have key:=Zp (kn:=kn) (lo:=lo) (H:=H) (args:=[.slice none 0 0]) (Q:=fun w H'=>w=.tuple #[]∧Keep H H' []) Try.func71 B71 N71 Z71 L71 (by simp) ?_
 ·obtain ⟨w,H',h,rfl,q⟩:=key;exact ⟨H',h,q⟩
 obtain ⟨H1,h1,k1⟩:=Zeu (kn:=kn) (lo:=lo) (H:=H) (n:=0) (by omega)
 obtain ⟨H2,h2,k2⟩:=Zfk (kn:=kn) (lo:=lo) (H:=H1) (lim:=(Qz 0:Int))
 refine Zc (Za rfl (Z6 (m:=0) rfl (Za rfl (Zb ?_))))
 refine z9 (Za rfl (Za rfl (Za rfl (Zg (v:=.int .u64 ((0:Nat):Int)) rfl (zC (n:=0) (j:=((0:Nat):Int)) (by omega) rfl rfl) (Zu rfl (Zh h1) (Zu (vs:=[.slice none 0 0,iv 0,iv 0,iv (Qz 0:Int)]) rfl (Zh h2) (Zb ?_)))))))
 exact ⟨True.intro,[],rfl,rfl,k1.trans k2⟩
theorem ZcQ (s:Snd Try.prog kn) (hlo:lo≤H.next) {bm m c:Nat} {L:ML Int} (hbm:Rd H bm [.map (some m)]) (hm:Mqa iv H m L c) (hw:WfA L c) (hL:L.length≤12) :
  FnM Try.prog lo 56 [.func (.func 72) #[] #[.pointer (some ⟨bm,0,none⟩)]] H fun v H'=>Keep H H' []∧∃ a ys cap,v=.slice a ys.length cap∧Sl H' a ys.length cap (cI ys)∧ys.Pairwise (·≤·)∧ys.Perm (L.map (·.1)):=by
 refine WV s Try.func56 B56 N56 Z56 L56 (by simp) ?_
 refine Zv (Zd rfl (Zj (Zv (Zd rfl (YR (t:=.fn (.func 70) #[]) rfl (Yi s.hN (ZbF s hlo hbm hm hw hL)) ?_)))))
 rintro v H1 ⟨k1,D,hD,ha⟩
 have hDl:=hD.length_eq
 rcases ha with ⟨h0,h01,rfl⟩ | ⟨b,rfl,_,hb,hlb,hbn,hg⟩
 ·obtain ⟨H2,h2,k2⟩:=Zdg (kn:=kn) (lo:=lo) (H:=H1)
  have hL0:L=[]:=List.eq_nil_of_length_eq_zero (by omega)
  subst hL0
  refine Zd rfl (Zj (Zv (Zd rfl (Z5 s rfl (Zh h2) (Zj ?_)))))
  refine Zv (Zd rfl (Zd rfl (Zj (js ⟨True.intro,[.slice none 0 0],rfl,k1.trans k2,none,[],0,rfl,.inl ⟨.inl rfl,rfl,rfl,rfl⟩,List.Pairwise.nil,.refl _⟩))))
 have hc:Cl H1 b (cI (D.map (·.1))):=⟨hbn,3,true,by rw [hg];simp [cI,Function.comp_def]⟩
 have hlen:(D.map (·.1)).length=D.length:=by simp
 obtain ⟨H2,h2,k2,ys,hp,hs,hc2⟩:=Zfh (kn:=kn) (lo:=lo) (H:=H1) (cap:=D.length) (by have:=k1.le;omega) hlb (by rw [hlen];omega) hc
 rw [hlen] at h2
 have hyl:ys.length=D.length:=by rw [hp.length_eq,hlen]
 refine Zd rfl (Zj (Zv (Zd rfl (Z5 s rfl (Zh h2) (Zj ?_)))))
 refine Zv (Zd rfl (Zd rfl (Zj (js ⟨True.intro,[.slice (some ⟨b,0,none⟩) D.length D.length],rfl,k1.new k2 (fun x hx=>.inr (by simp at hx;omega)),some ⟨b,0,none⟩,ys,D.length,by rw [hyl];rfl,.inr ⟨b,rfl,hc2.rd,by omega⟩,hs,?_⟩))))
 exact hp.trans (hD.map _)
end
end
end Go.Ax

/-
 Pool: the book: what events do (no program in it),and where it lies (written by program).
-/
namespace Go.Ax
open Go Go.RowKit Go.Proofs

noncomputable section
def fI (al:List Ac) (x:Int):Option Nat:=al.findIdx? fun a=>decide (a.g=x)
theorem KU {al:List Ac} {x:Int} {i:Nat} (h:fI al x=some i):i < al.length∧(al.getD i Ac.z).g=x:=by
 unfold fI at h
 rw [List.findIdx?_eq_some_iff_getElem] at h
 obtain ⟨hi,h1,_⟩:=h
 refine ⟨hi,?_⟩
 rw [List.getD_eq_getElem?_getD,List.getElem?_eq_getElem hi]
 exact of_decide_eq_true h1
def stp (al:List Ac) (v:Ev):List Ac × Int:=
 if okE v=false then (al,1) else
 match fI al v.g with
 | none=>(al,4)
 | some i=>
  if v.k=0 then (al.set i ⟨(al.getD i Ac.z).g,(al.getD i Ac.z).q,(al.getD i Ac.z).u+min v.a ((al.getD i Ac.z).q - (al.getD i Ac.z).u),(al.getD i Ac.z).x+(v.a - min v.a ((al.getD i Ac.z).q - (al.getD i Ac.z).u))⟩,0) else
  match fI al v.t with
  | none=>(al,4)
  | some j=>if i=j then (al,5) else if (al.getD i Ac.z).q - (al.getD i Ac.z).u < v.a then (al,10) else
    ((al.set i ⟨(al.getD i Ac.z).g,(al.getD i Ac.z).q - v.a,(al.getD i Ac.z).u,(al.getD i Ac.z).x⟩).set j ⟨(al.getD j Ac.z).g,(al.getD j Ac.z).q+v.a,(al.getD j Ac.z).u,(al.getD j Ac.z).x⟩,0)
theorem qM {al:List Ac} {v:Ev} (h:okE v=false):stp al v=(al,1):=by unfold stp;rw [if_pos h]
theorem zL {al:List Ac} {v:Ev} (h:okE v=true) (h1:fI al v.g=none):stp al v=(al,4):=by unfold stp;rw [if_neg (by rw [h];simp),h1]
theorem J2 {al:List Ac} {v:Ev} {i:Nat} (h:okE v=true) (h1:fI al v.g=some i) (hk:v.k=0):stp al v=(al.set i ⟨(al.getD i Ac.z).g,(al.getD i Ac.z).q,(al.getD i Ac.z).u+min v.a ((al.getD i Ac.z).q - (al.getD i Ac.z).u),(al.getD i Ac.z).x+(v.a - min v.a ((al.getD i Ac.z).q - (al.getD i Ac.z).u))⟩,0):=by unfold stp;rw [if_neg (by rw [h];simp),h1];simp only [];rw [if_pos hk]
theorem JK {al:List Ac} {v:Ev} {i:Nat} (h:okE v=true) (h1:fI al v.g=some i) (hk:v.k≠0) (h2:fI al v.t=none):stp al v=(al,4):=by unfold stp;rw [if_neg (by rw [h];simp),h1];simp only [];rw [if_neg hk,h2]
theorem JZ {al:List Ac} {v:Ev} {i:Nat} (h:okE v=true) (h1:fI al v.g=some i) (hk:v.k≠0) (h2:fI al v.t=some i):stp al v=(al,5):=by unfold stp;rw [if_neg (by rw [h];simp),h1];simp only [];rw [if_neg hk,h2];simp only [if_true]
theorem JO {al:List Ac} {v:Ev} {i j:Nat} (h:okE v=true) (h1:fI al v.g=some i) (hk:v.k≠0) (h2:fI al v.t=some j) (hij:i≠j) (hs:(al.getD i Ac.z).q - (al.getD i Ac.z).u < v.a):stp al v=(al,10):=by unfold stp;rw [if_neg (by rw [h];simp),h1];simp only [];rw [if_neg hk,h2];simp only [];rw [if_neg hij,if_pos hs]
theorem JI {al:List Ac} {v:Ev} {i j:Nat} (h:okE v=true) (h1:fI al v.g=some i) (hk:v.k≠0) (h2:fI al v.t=some j) (hij:i≠j) (hs:¬ (al.getD i Ac.z).q - (al.getD i Ac.z).u < v.a):stp al v=((al.set i ⟨(al.getD i Ac.z).g,(al.getD i Ac.z).q - v.a,(al.getD i Ac.z).u,(al.getD i Ac.z).x⟩).set j ⟨(al.getD j Ac.z).g,(al.getD j Ac.z).q+v.a,(al.getD j Ac.z).u,(al.getD j Ac.z).x⟩,0):=by unfold stp;rw [if_neg (by rw [h];simp),h1];simp only [];rw [if_neg hk,h2];simp only [];rw [if_neg hij,if_neg hs]
def Ui (B:Int) (a:Ac):Prop:=0≤a.u∧a.u≤a.q∧a.q≤B∧0≤a.x∧a.x≤B
theorem Ui.mono {B C:Int} {a:Ac} (h:Ui B a) (hb:B≤C):Ui C a:=by unfold Ui at *;omega
theorem jr {α:Type} {l:List α} {i:Nat} {v:α} {p:α→Prop} (h:∀ a∈l,p a) (hv:p v):∀ a∈l.set i v,p a:=fun a ha=>by
 rcases List.mem_or_eq_of_mem_set ha with h1 | h1
 ·exact h a h1
 ·rw [h1];exact hv
theorem Zg1 {al:List Ac} {v:Ev} {B:Int} (h:∀ a∈al,Ui B a) (hB:0≤B):∀ a∈(stp al v).1,Ui (B+1099511627776) a:=by
 have hm:∀ a∈al,Ui (B+1099511627776) a:=fun a ha=>(h a ha).mono (by omega)
 cases he:okE v with
 | false=>rw [qM he];exact hm
 | true=>
  have ht:=Zgx he
  cases h1:fI al v.g with
  | none=>rw [zL he h1];exact hm
  | some i=>
   have ai:=Y9 (z:=Ac.z) h (KU h1).1
   by_cases hk:v.k=0
   ·rw [J2 he h1 hk]
    refine jr hm ?_
    unfold Ui at *
    simp only []
    omega
   ·cases h2:fI al v.t with
    | none=>rw [JK he h1 hk h2];exact hm
    | some j=>
     have aj:=Y9 (z:=Ac.z) h (KU h2).1
     by_cases hij:i=j
     ·subst hij;rw [JZ he h1 hk h2];exact hm
     ·by_cases hs:(al.getD i Ac.z).q - (al.getD i Ac.z).u < v.a
      ·rw [JO he h1 hk h2 hij hs];exact hm
      ·rw [JI he h1 hk h2 hij hs]
       refine jr (jr hm ?_) ?_<;>(unfold Ui at *;simp only [];omega)
theorem Qn {α β:Type} {f:α→β} {l:List α} {i:Nat} {v z:α} (h:f v=f (l.getD i z)):(l.set i v).map f=l.map f:=by
 refine List.ext_getElem? fun j=>?_
 rw [List.getElem?_map,List.getElem?_map,List.getElem?_set]
 by_cases q:i=j
 ·subst q
  rw [if_pos rfl]
  split
  ·rename_i hl
   rw [List.getElem?_eq_getElem hl,Option.map_some,Option.map_some,h,List.getD_eq_getElem?_getD,List.getElem?_eq_getElem hl];rfl
  ·rename_i hl
   rw [List.getElem?_eq_none (by omega)]
 ·rw [if_neg q]
theorem Vi {α:Type} {l:List α} {i j:Nat} {v z:α} (h:i≠j):(l.set i v).getD j z=l.getD j z:=by
 rw [List.getD_eq_getElem?_getD,List.getD_eq_getElem?_getD,List.getElem?_set_ne h]
theorem Ka {α:Type} {l:List α} {i:Nat} {v z:α} (h:i < l.length):(l.set i v).getD i z=v:=by
 rw [List.getD_eq_getElem?_getD,List.getElem?_set_self h];rfl
theorem Ze8 {al:List Ac} {v:Ev}:(stp al v).1.map (·.g)=al.map (·.g):=by
 cases he:okE v with
 | false=>rw [qM he]
 | true=>
  cases h1:fI al v.g with
  | none=>rw [zL he h1]
  | some i=>
   by_cases hk:v.k=0
   ·rw [J2 he h1 hk];exact Qn (z:=Ac.z) rfl
   ·cases h2:fI al v.t with
    | none=>rw [JK he h1 hk h2]
    | some j=>
     by_cases hij:i=j
     ·subst hij;rw [JZ he h1 hk h2]
     ·by_cases hs:(al.getD i Ac.z).q - (al.getD i Ac.z).u < v.a
      ·rw [JO he h1 hk h2 hij hs]
      ·rw [JI he h1 hk h2 hij hs]
       refine (Qn (f:=fun a:Ac=>a.g) (z:=Ac.z) ?_).trans (Qn (f:=fun a:Ac=>a.g) (z:=Ac.z) ?_)
       ·rw [Vi hij]
       ·rfl
def stA (al:List Ac) (vs:List Ev):Nat→List Ac
 | 0=>al
 | k+1=>(stp (stA al vs k) (vs.getD k Ev.z)).1
theorem jn {al:List Ac} {vs:List Ev}:∀ k,(stA al vs k).map (·.g)=al.map (·.g)
 | 0=>rfl
 | k+1=>Ze8.trans (jn k)
theorem Jm {al:List Ac} {vs:List Ev} (k:Nat):(stA al vs k).length=al.length:=by
 have:=congrArg List.length (jn (al:=al) (vs:=vs) k)
 simpa using this
theorem Zec {al:List Ac} {vs:List Ev} (h:∀ a∈al,Ui 1099511627776 a):∀ k:Nat,∀ a∈stA al vs k,Ui (1099511627776 * ((k:Int)+1)) a
 | 0=>fun a ha=>(h a ha).mono (by omega)
 | k+1=>fun a ha=>(Zg1 (Zec h k) (by omega) a ha).mono (by omega)
def Ply (al:List Ac) (vs:List Ev) (n:Nat) (e:Int):Prop:=
 n≤vs.length∧(∀ j,j < n→(stp (stA al vs j) (vs.getD j Ev.z)).2=0)∧((n=vs.length∧e=0)∨(n < vs.length∧e=(stp (stA al vs n) (vs.getD n Ev.z)).2∧e≠0))
theorem Ply.uniq {al:List Ac} {vs:List Ev} {n n':Nat} {e e':Int} (h:Ply al vs n e) (h':Ply al vs n' e'):n=n'∧e=e':=by
 have key:∀ {n n':Nat} {e e':Int},Ply al vs n e→Ply al vs n' e'→¬ n < n':=by
  intro n n' e e' h h' q
  have h1:=h'.2.1 n q
  rcases h.2.2 with ⟨a,_⟩ | ⟨a,b,c⟩
  ·have:=h'.1;omega
  ·exact c (b.trans h1)
 have e1:n=n':=by have:=key h h';have:=key h' h;omega
 subst e1
 refine ⟨rfl,?_⟩
 rcases h.2.2 with ⟨a,b⟩ | ⟨a,b,c⟩<;>rcases h'.2.2 with ⟨a',b'⟩ | ⟨a',b',c'⟩
 ·rw [b,b']
 ·omega
 ·omega
 ·rw [b,b']
structure Bok (lo f mb:Nat) (L:ML Int) (c:Nat) (P:Nat→Nat) (al:List Ac) (H:Hp):Prop where
 mq:Mqa iv H mb L c
 wf:WfA L c
 val:∀ i,i < al.length→Yk (al.getD i Ac.z).g L=some (.pointer (some ⟨P i,0,none⟩))
 no:∀ x,(∀ i,i < al.length→(al.getD i Ac.z).g≠x)→Yk x L=none
 cl:∀ i,i < al.length→Sc H (P i) (Ac.f (al.getD i Ac.z))
 inj:∀ i j,i < al.length→j < al.length→P i=P j→i=j
 lw:∀ i,i < al.length→lo≤P i∧f≤P i∧P i≠mb
 lm:lo≤mb∧f≤mb
theorem Bok.keep {lo f mb:Nat} {L:ML Int} {c:Nat} {P:Nat→Nat} {al:List Ac} {H H1:Hp} (h:Bok lo f mb L c P al H) (k:Keep H H1 []):Bok lo f mb L c P al H1:=
 ⟨k.mqa0 h.mq,h.wf,h.val,h.no,fun i hi=>k.sc (h.cl i hi) (by simp),h.inj,h.lw,h.lm⟩
theorem Bok.keepW {lo f mb b:Nat} {L:ML Int} {c:Nat} {P:Nat→Nat} {al:List Ac} {H H1:Hp} (h:Bok lo f mb L c P al H) (k:Keep H H1 [b]) (h1:mb≠b) (h2:∀ i,i < al.length→P i≠b):Bok lo f mb L c P al H1:=
 ⟨k.mqa h.mq (by simpa using h1),h.wf,h.val,h.no,fun i hi=>k.sc (h.cl i hi) (by simpa using h2 i hi),h.inj,h.lw,h.lm⟩
theorem Bok.set {lo f mb i:Nat} {L:ML Int} {c:Nat} {P:Nat→Nat} {al:List Ac} {H H1:Hp} {a:Ac} (h:Bok lo f mb L c P al H) (hi:i < al.length) (k:Keep H H1 [P i]) (hc:Sc H1 (P i) (Ac.f a)) (hg:a.g=(al.getD i Ac.z).g):Bok lo f mb L c P (al.set i a) H1:=by
 have hat:∀ j,((al.set i a).getD j Ac.z).g=(al.getD j Ac.z).g:=fun j=>by
  by_cases q:i=j
  ·subst q;rw [Ka hi,hg]
  ·rw [Vi q]
 refine ⟨k.mqa h.mq (by simpa using ((h.lw i hi).2.2).symm),h.wf,fun j hj=>?_,fun x hx=>h.no x fun j hj=>?_,fun j hj=>?_,fun j j' hj hj'=>?_,fun j hj=>?_,h.lm⟩<;>(try rw [List.length_set] at hj)
 ·rw [hat];exact h.val j hj
 ·have:=hx j (by rw [List.length_set];exact hj);rw [hat] at this;exact this
 ·by_cases q:i=j
  ·subst q;rw [Ka hi];exact hc
  ·rw [Vi q];exact k.sc (h.cl j hj) (by simp;exact fun e=>q (h.inj i j hi hj e.symm))
 ·rw [List.length_set] at hj';exact h.inj j j' hj hj'
 ·exact h.lw j hj
theorem Zbo {P:Program} {kn:Kn} {lo n:Nat} {masks:List Nat} {r:List RO} {ks:List Kd} {S:Rg} {H:Hp} {K:Rg→Hp→Prop} {d:Option Nat} {x y:Operand} {b o:Nat} {cs:List Value} {v:Value} (hx:evS S x=some (.pointer (some ⟨b,o,none⟩))) (hy:evS S y=some v) (hc:Sc H b cs) (hl:lo≤b) (hv:v.cells.toList=[v]) (h1:one v=true) (ho:o < cs.length)
  (h:∀ H1,Keep H H1 [b]→H1.next=H.next→Sc H1 b (cs.set o v)→Zw P kn lo n masks r (.store b :: ks) (Zy S d undef) H1 K):Zw P kn lo n masks (⟨d,none,.st x y⟩ :: r) ks S H K:=by
 simp only [Zw,wRO,wRI,hx,hy]
 obtain ⟨_,e,g⟩:=id hc
 exact ⟨cs,e,false,g,hl,hv,h1,ho,fun H1 hH1=>by obtain ⟨a,b,c⟩:=Zgt hc hH1;exact h H1 a b c⟩
end
end Go.Ax

/-
 Pool: an account,what is left of it (77,78);a load brought (68) (written by program).
-/
namespace Go.Ax
open Go Go.RowKit Go.Proofs

noncomputable section
noncomputable def Ue:Code→Array Oper
 | .region _ ops _=>ops
 | _=>#[]
section
variable {P:Program} {kn:Kn} {lo n:Nat} {rd:Bool} {r:List RP} {S:Rg} {H:Hp} {D:List Deferred} {d:Option Nat} {x y:Operand} {K:Exit→Rg→Hp→List Deferred→Prop}
theorem Zhd {v:Value} (hx:evS S x=some v) (h:Vq P kn lo n rd r (Zy S d v) H D K):Vq P kn lo n rd (.ro ⟨d,none,.mov x⟩ :: r) S H D K:=.inl (by simp only [wRO,wRI,hx];exact h)
theorem ZgP {o:Oper} {v:Value} (hd:Ve S o.op.operands.toList=true) (hv:Zn P (frS n S) o=some v) (h:Vq P kn lo n rd r (Zy S d v) H D K):Vq P kn lo n rd (.ro ⟨d,none,.pur o⟩ :: r) S H D K:=.inl ⟨hd,v,hv,h⟩
end
section
variable {P:Program} {kn:Kn} {lo n:Nat} {masks:List Nat} {r:List RO} {ks:List Kd} {S:Rg} {H:Hp} {d:Option Nat} {x y:Operand} {K:Value→Hp→Prop}
end
theorem Zeb:Try.prog.underlying 69=some (.map 3 91):=by kernel_rfl
theorem Zee:ZK Try.prog (zeroValue 91)=some (.pointer none):=by kernel_rfl
section
variable {kn:Kn} {lo:Nat} {H:Hp}
theorem Zdw {mb c:Nat} {L:ML Int} (hq:Mqa iv H mb L c) {x:Int} {p:Nat} (hg:Yk x L=some (.pointer (some ⟨p,0,none⟩))):∃ H',FnX Try.prog kn lo 77 [.map (some mb),iv x] H (.pointer (some ⟨p,0,none⟩)) H'∧Keep H H' []:=by
 have key:=Zp (kn:=kn) (lo:=lo) (H:=H) (args:=[.map (some mb),iv x]) (Q:=fun w H'=>w=.pointer (some ⟨p,0,none⟩)∧Keep H H' []) Try.func77 B77 N77 Z77 L77 (by simp) ?_
 ·obtain ⟨w,H',h,rfl,q⟩:=key;exact ⟨H',h,q⟩
 have hk:=Keep.refl H []
 refine Zc<|Za rfl<|Zb<|Zc<|Za rfl<|Za rfl<|Yy (v:=.tuple #[.pointer (some ⟨p,0,none⟩),.bool true]) (H':=H) (k:=.read mb) (yG rfl rfl) rfl ((QI jy Zeb Zee rfl rfl rfl hq true).trans (by rw [hg];rfl)) (fun q e=>by cases e;exact hq.1)<|Za rfl<|Zg (v:=pt p) rfl (by kernel_rfl)<|Zg (v:=.bool true) rfl (by kernel_rfl)<|Za rfl<|Za rfl<|Zb<|Zc<|Za rfl<|Zg (v:=.bool false) rfl rfl<|Zb<|ZP ?_
 first | refine Zi ?_ | skip
 refine Zc<|Za rfl<|Za rfl<|Zb ?_
 exact And.intro trivial (Exists.intro _ (And.intro rfl ⟨rfl,hk⟩))
theorem ZbL {p:Nat} {a:Ac} (ca:Cl H p [iv a.g,iv a.q,iv a.u,iv a.x]) {Bd:Int} (ha:Ui Bd a) (hB:Bd≤329853488332800):∃ H',FnX Try.prog kn lo 78 [.pointer (some ⟨p,0,none⟩)] H (iv (a.q - a.u)) H'∧Keep H H' []:=by
 have key:=Zp (kn:=kn) (lo:=lo) (H:=H) (args:=[.pointer (some ⟨p,0,none⟩)]) (Q:=fun w H'=>w=iv (a.q - a.u)∧Keep H H' []) Try.func78 B78 N78 Z78 L78 (by simp) ?_
 ·obtain ⟨w,H',h,rfl,q⟩:=key;exact ⟨H',h,q⟩
 have hk:=Keep.refl H []
 obtain ⟨ha1,ha2,ha3,ha4,ha5⟩:=ha
 refine Zc<|Za rfl<|Zb<|YF<|Ze rfl<|Vu (a:=⟨p,0,none⟩) rfl<|ZS (b:=p) (o:=0) rfl<|ZM (b:=p) (o:=1) (v:=iv a.q) rfl ca.rd rfl<|Ze rfl<|Vu (a:=⟨p,0,none⟩) rfl<|ZS (b:=p) (o:=0) rfl<|ZM (b:=p) (o:=2) (v:=iv a.u) rfl ca.rd rfl<|Xm (a:=a.q) (b:=a.u) rfl rfl ⟨by omega,by omega⟩<|Ze rfl ?_
 refine ZH (by repeat' first | exact True.intro | exact (fun h=>h) | refine And.intro ?_ ?_ | (intro h;have h:(_:Nat)=_:=h;omega)) ?_
 exact And.intro trivial (Exists.intro _ (And.intro rfl ⟨rfl,hk⟩))
set_option maxRecDepth 100000 in
theorem Zen {f mb c:Nat} {L:ML Int} {Pp:Nat→Nat} {al:List Ac} (hB:Bok lo f mb L c Pp al H) {v:Ev} {i:Nat} (hi:i < al.length) (hx:(al.getD i Ac.z).g=v.g) {Bd:Int} (hac:Ui Bd (al.getD i Ac.z)) (hBd:Bd≤329853488332800) (hv1:1≤v.a) (hv2:v.a≤1099511627776) (hlo:lo≤H.next):∃ H',FnX Try.prog kn lo 68 [.map (some mb),.agg (Ev.f v).toArray] H (.tuple #[]) H'∧Bok lo f mb L c Pp (al.set i ⟨(al.getD i Ac.z).g,(al.getD i Ac.z).q,(al.getD i Ac.z).u+min v.a ((al.getD i Ac.z).q - (al.getD i Ac.z).u),(al.getD i Ac.z).x+(v.a - min v.a ((al.getD i Ac.z).q - (al.getD i Ac.z).u))⟩) H'∧Keep H H' [Pp i]:=by
 have key:=Zp (kn:=kn) (lo:=lo) (H:=H) (args:=[.map (some mb),.agg (Ev.f v).toArray]) (Q:=fun w H'=>w=.tuple #[]∧Bok lo f mb L c Pp (al.set i ⟨(al.getD i Ac.z).g,(al.getD i Ac.z).q,(al.getD i Ac.z).u+min v.a ((al.getD i Ac.z).q - (al.getD i Ac.z).u),(al.getD i Ac.z).x+(v.a - min v.a ((al.getD i Ac.z).q - (al.getD i Ac.z).u))⟩) H'∧Keep H H' [Pp i]) Try.func68 B68 N68 Z68 L68 (by simp) ?_
 ·obtain ⟨w,H',h,rfl,q⟩:=key;exact ⟨H',h,q⟩
 obtain ⟨a,ea⟩:∃ a,a=al.getD i Ac.z:=⟨_,rfl⟩
 obtain ⟨pi,epi⟩:∃ pi,pi=Pp i:=⟨_,rfl⟩
 have hval:=hB.val i hi
 rw [hx,← epi] at hval
 have spi:Sc H pi [iv a.g,iv a.q,iv a.u,iv a.x]:=by rw [epi,ea];exact hB.cl i hi
 have ca:=spi.cl
 have hlw:=hB.lw i hi
 rw [← epi] at hlw
 have hmq:=hB.mq
 have lmb:=hmq.1
 have lpi:=ca.1
 rw [← ea] at hac
 obtain ⟨ha1,ha2,ha3,ha4,ha5⟩:=id hac
 have hk:=Keep.refl H [pi]
 refine Zc<|YD (v:=.agg (Ev.f v).toArray) rfl ?_
 intro H1 kH1 nH1 c1
 have c1:Cl H1 H.next [iv v.k,iv v.g,iv v.t,iv v.a]:=c1
 have mH1:=kH1.1
 have hk:=(show Keep H H1 [pi] from hk.trans (kH1.mono (by simp)))
 have hmq:=kH1.mqa hmq (by simp)
 have spi:=kH1.sc spi (by simp)
 have ca:=kH1.cl ca (by simp)
 refine Zb<|Zc<|Za rfl<|ZB (b:=H.next) (o:=0) rfl<|ZZ (b:=H.next) (o:=1) (v:=iv v.g) rfl c1.rd rfl ?_
 obtain ⟨H2,fH2,kH2⟩:=Zdw (kn:=kn) (lo:=lo) (H:=H1) hmq hval
 refine Zu (vs:=[.map (some mb),iv v.g]) rfl (Zh fH2) ?_
 have mH2:=kH2.1
 have hk:=(show Keep H H2 [pi] from hk.trans (kH2.mono (by simp)))
 have hmq:=kH2.mqa hmq (by simp)
 have spi:=kH2.sc spi (by simp)
 have ca:=kH2.cl ca (by simp)
 have c1:=kH2.cl c1 (by simp)
 refine Za rfl<|Zb<|YF<|ZS (b:=H.next) (o:=0) rfl<|ZM (b:=H.next) (o:=3) (v:=iv v.a) rfl c1.rd rfl<|Ze rfl ?_
 obtain ⟨H3,fH3,kH3⟩:=ZbL (kn:=kn) (lo:=H2.next) (H:=H2) ca hac hBd
 refine WL (vs:=[.pointer (some ⟨pi,0,none⟩)]) rfl rfl (Zh fH3) ?_
 have mH3:=kH3.1
 have hk:=(show Keep H H3 [pi] from hk.trans (kH3.mono (by simp)))
 have hmq:=kH3.mqa hmq (by simp)
 have spi:=kH3.sc spi (by simp)
 have ca:=kH3.cl ca (by simp)
 have c1:=kH3.cl c1 (by simp)
 refine ZjL (a:=v.a) (b:=(a.q - a.u)) rfl rfl<|Ze rfl ?_
 refine ZH (by repeat' first | exact True.intro | exact (fun h=>h) | refine And.intro ?_ ?_ | (intro h;have h:(_:Nat)=_:=h;omega)) ?_
 refine Zc<|Za rfl<|ZbT (a:=⟨pi,0,none⟩) rfl<|ZB (b:=pi) (o:=0) rfl<|ZZ (b:=pi) (o:=2) (v:=iv a.u) rfl ca.rd rfl<|Za rfl<|Zs (a:=a.u) (b:=min v.a (a.q - a.u)) rfl rfl ⟨by omega,by omega⟩<|ZbT (a:=⟨pi,0,none⟩) rfl<|ZB (b:=pi) (o:=0) rfl<|Zho (b:=pi) (o:=2) rfl rfl spi (by omega) rfl rfl (by simp) ?_
 intro H4 kH4 nH4 sH4
 have mH4:=kH4.1
 have hk:=(show Keep H H4 [pi] from by first | exact hk.trans kH4 | exact hk.trans (kH4.mono (by simp)) | exact hk.new kH4 (fun b hb=>by simp at hb ⊢;omega))
 have hmq:=kH4.mqa hmq (by simp;omega)
 have c1:=kH4.cl c1 (by first | (simp;done) | (simp;omega))
 have spi:Sc H4 pi [iv a.g,iv a.q,iv (a.u+(min v.a (a.q - a.u))),iv a.x]:=sH4
 have ca:=spi.cl
 refine Zb ?_
 first | refine Ye ?_ | (refine YY ?_;refine Ye ?_)
 refine Ze rfl<|Vu (a:=⟨pi,0,none⟩) rfl<|ZS (b:=pi) (o:=0) rfl<|ZM (b:=pi) (o:=3) (v:=iv a.x) rfl ca.rd rfl<|ZS (b:=H.next) (o:=0) rfl<|ZM (b:=H.next) (o:=3) (v:=iv v.a) rfl c1.rd rfl<|Ze rfl<|Xm (a:=v.a) (b:=min v.a (a.q - a.u)) rfl rfl ⟨by omega,by omega⟩<|XX (a:=a.x) (b:=v.a - (min v.a (a.q - a.u))) rfl rfl ⟨by omega,by omega⟩<|Vu (a:=⟨pi,0,none⟩) rfl<|ZS (b:=pi) (o:=0) rfl<|Zbo (b:=pi) (o:=3) rfl rfl spi (by omega) rfl rfl (by simp) ?_
 intro H5 kH5 nH5 sH5
 have mH5:=kH5.1
 have hk:=(show Keep H H5 [pi] from by first | exact hk.trans kH5 | exact hk.trans (kH5.mono (by simp)) | exact hk.new kH5 (fun b hb=>by simp at hb ⊢;omega))
 have hmq:=kH5.mqa hmq (by simp;omega)
 have c1:=kH5.cl c1 (by first | (simp;done) | (simp;omega))
 have spi:Sc H5 pi [iv a.g,iv a.q,iv (a.u+(min v.a (a.q - a.u))),iv (a.x+(v.a - (min v.a (a.q - a.u))))]:=sH5
 have ca:=spi.cl
 refine ZH (by repeat' first | exact True.intro | exact (fun h=>h) | refine And.intro ?_ ?_ | (intro h;have h:(_:Nat)=_:=h;omega)) ?_
 have hset:=hB.set hi (epi ▸ hk) (a:=⟨a.g,a.q,a.u+(min v.a (a.q - a.u)),a.x+(v.a - (min v.a (a.q - a.u)))⟩) (by rw [← epi];exact spi) (by rw [← ea])
 exact And.intro trivial (Exists.intro _ (And.intro rfl ⟨rfl,by rw [← ea];exact hset,epi ▸ hk⟩))
end
end
end Go.Ax

/-
 Pool: a quota leased (69) (written by program).
-/
namespace Go.Ax
open Go Go.RowKit Go.Proofs

noncomputable section
theorem Zgl:Try.prog.underlying 91=some (.pointer 47):=by kernel_rfl
theorem Zet {lo n:Nat} {H:Hp} {S:Rg} {x y:Operand} {d:Option Tmp} {ty:TypeId} {s:String} {p q:Nat} {cs ds:List Value} (hx:evS S x=some (.pointer (some ⟨p,0,none⟩))) (hy:evS S y=some (.pointer (some ⟨q,0,none⟩))) (hp:Sc H p cs) (hq:Sc H q ds) :
  Zq Try.prog lo (frS n S) H ⟨d,.binOp .eql 91 x y 91,ty,s,#[],none⟩=some (.val (.bool (Nat.beq p q)) H,.heavy):=by
 obtain ⟨_,e1,g1⟩:=hp
 obtain ⟨_,e2,g2⟩:=hq
 obtain ⟨i,hi,hs⟩:=Zkq
 have hz:Nat.beq i.size 0=false:=by rw [hs];rfl
 have key:K0 Try.prog H 91 (.pointer (some ⟨p,0,none⟩)) (.pointer (some ⟨q,0,none⟩))=some (Nat.beq p q):=by
  unfold K0
  simp only [Zgl,hi,g1,g2,hz,cond_false]
 unfold Zq
 simp only [ZX,hx,hy,key]
theorem Zdb {n:Nat} {S:Rg} {x y:Operand} {d:Option Tmp} {ty:TypeId} {s:String} {p q:Nat} (hx:evS S x=some (.pointer (some ⟨p,0,none⟩))) (hy:evS S y=some (.pointer (some ⟨q,0,none⟩))):Zn Try.prog (frS n S) ⟨d,.binOp .eql 91 x y 91,ty,s,#[],none⟩=none:=by
 have hd:Vv Try.prog 91 (.pointer (some ⟨p,0,none⟩)) (.pointer (some ⟨q,0,none⟩))=false:=by
  unfold Vv
  simp only [Zgl]
 unfold Zn
 simp only [ZX,hx,hy,show Z1 (.pointer (some ⟨p,0,none⟩))=false from rfl,Bool.false_and,cond_false,hd]
section
variable {kn:Kn} {lo:Nat} {H:Hp}
set_option maxRecDepth 100000 in
theorem ZdK {f mb c:Nat} {L:ML Int} {Pp:Nat→Nat} {al:List Ac} (hB:Bok lo f mb L c Pp al H) {v:Ev} {i:Nat} (hi:i < al.length) (hx:(al.getD i Ac.z).g=v.g) {Bd:Int} (hac:Ui Bd (al.getD i Ac.z)) (hBd:Bd≤329853488332800) (hv1:1≤v.a) (hv2:v.a≤1099511627776) (hlo:lo≤H.next) (hs:¬ (al.getD i Ac.z).q - (al.getD i Ac.z).u < v.a) {j:Nat} (hj:j < al.length) (hy:(al.getD j Ac.z).g=v.t) (hbc:Ui Bd (al.getD j Ac.z)) (hij:i≠j):∃ H',FnX Try.prog kn lo 69 [.map (some mb),.agg (Ev.f v).toArray] H (.tuple #[]) H'∧Bok lo f mb L c Pp ((al.set i ⟨(al.getD i Ac.z).g,(al.getD i Ac.z).q - v.a,(al.getD i Ac.z).u,(al.getD i Ac.z).x⟩).set j ⟨(al.getD j Ac.z).g,(al.getD j Ac.z).q+v.a,(al.getD j Ac.z).u,(al.getD j Ac.z).x⟩) H'∧Keep H H' [Pp i,Pp j]:=by
 have key:=Zp (kn:=kn) (lo:=lo) (H:=H) (args:=[.map (some mb),.agg (Ev.f v).toArray]) (Q:=fun w H'=>w=.tuple #[]∧Bok lo f mb L c Pp ((al.set i ⟨(al.getD i Ac.z).g,(al.getD i Ac.z).q - v.a,(al.getD i Ac.z).u,(al.getD i Ac.z).x⟩).set j ⟨(al.getD j Ac.z).g,(al.getD j Ac.z).q+v.a,(al.getD j Ac.z).u,(al.getD j Ac.z).x⟩) H'∧Keep H H' [Pp i,Pp j]) Try.func69 B69 N69 Z69 L69 (by simp) ?_
 ·obtain ⟨w,H',h,rfl,q⟩:=key;exact ⟨H',h,q⟩
 obtain ⟨a,ea⟩:∃ a,a=al.getD i Ac.z:=⟨_,rfl⟩
 obtain ⟨pi,epi⟩:∃ pi,pi=Pp i:=⟨_,rfl⟩
 have hval:=hB.val i hi
 rw [hx,← epi] at hval
 have spi:Sc H pi [iv a.g,iv a.q,iv a.u,iv a.x]:=by rw [epi,ea];exact hB.cl i hi
 have ca:=spi.cl
 have hlw:=hB.lw i hi
 rw [← epi] at hlw
 have hmq:=hB.mq
 have lmb:=hmq.1
 have lpi:=ca.1
 rw [← ea] at hac
 obtain ⟨ha1,ha2,ha3,ha4,ha5⟩:=id hac
 obtain ⟨b,eb⟩:∃ b,b=al.getD j Ac.z:=⟨_,rfl⟩
 obtain ⟨pj,epj⟩:∃ pj,pj=Pp j:=⟨_,rfl⟩
 have hval2:=hB.val j hj
 rw [hy,← epj] at hval2
 have spj:Sc H pj [iv b.g,iv b.q,iv b.u,iv b.x]:=by rw [epj,eb];exact hB.cl j hj
 have cb:=spj.cl
 have hlw2:=hB.lw j hj
 rw [← epj] at hlw2
 have lpj:=cb.1
 rw [← eb] at hbc
 obtain ⟨hb1,hb2,hb3,hb4,hb5⟩:=id hbc
 have hpq:pi≠pj:=fun z=>hij (hB.inj i j hi hj (by rw [← epi,← epj];exact z))
 have hbq:Nat.beq pi pj=false:=by
  cases hb:Nat.beq pi pj with
  | false=>rfl
  | true=>exact absurd (Nat.eq_of_beq_eq_true hb) hpq
 rw [← ea] at hs
 have hk:=Keep.refl H [pi,pj]
 have kb:=Keep.refl H []
 refine Zc<|YD (v:=.agg (Ev.f v).toArray) rfl ?_
 intro H1 kH1 nH1 c1
 have c1:Cl H1 H.next [iv v.k,iv v.g,iv v.t,iv v.a]:=c1
 have mH1:=kH1.1
 have hk:=(show Keep H H1 [pi,pj] from hk.trans (kH1.mono (by simp)))
 have hmq:=kH1.mqa hmq (by simp)
 have spi:=kH1.sc spi (by simp)
 have ca:=kH1.cl ca (by simp)
 have spj:=kH1.sc spj (by simp)
 have cb:=kH1.cl cb (by simp)
 have kb:=kb.trans kH1
 refine Zb<|YF<|Ze rfl<|ZS (b:=H.next) (o:=0) rfl<|ZM (b:=H.next) (o:=1) (v:=iv v.g) rfl c1.rd rfl ?_
 obtain ⟨H2,fH2,kH2⟩:=Zdw (kn:=kn) (lo:=H1.next) (H:=H1) hmq hval
 refine WL (vs:=[.map (some mb),iv v.g]) rfl rfl (Zh fH2) ?_
 have mH2:=kH2.1
 have hk:=(show Keep H H2 [pi,pj] from hk.trans (kH2.mono (by simp)))
 have hmq:=kH2.mqa hmq (by simp)
 have spi:=kH2.sc spi (by simp)
 have ca:=kH2.cl ca (by simp)
 have spj:=kH2.sc spj (by simp)
 have cb:=kH2.cl cb (by simp)
 have kb:=kb.trans kH2
 have c1:=kH2.cl c1 (by simp)
 refine Ze rfl<|ZS (b:=H.next) (o:=0) rfl<|ZM (b:=H.next) (o:=2) (v:=iv v.t) rfl c1.rd rfl ?_
 obtain ⟨H3,fH3,kH3⟩:=Zdw (kn:=kn) (lo:=lo) (H:=H2) hmq hval2
 refine YC (vs:=[.map (some mb),iv v.t]) rfl (Zh fH3) ?_
 have mH3:=kH3.1
 have hk:=(show Keep H H3 [pi,pj] from hk.trans (kH3.mono (by simp)))
 have hmq:=kH3.mqa hmq (by simp)
 have spi:=kH3.sc spi (by simp)
 have ca:=kH3.cl ca (by simp)
 have spj:=kH3.sc spj (by simp)
 have cb:=kH3.cl cb (by simp)
 have kb:=kb.trans kH3
 have c1:=kH3.cl c1 (by simp)
 refine Ze rfl<|Ze rfl ?_
 refine ZH (by repeat' first | exact True.intro | exact (fun h=>h) | refine And.intro ?_ ?_ | (intro h;have h:(_:Nat)=_:=h;omega)) ?_
 refine Zc<|Za rfl<|Za rfl<|Yy (v:=.bool (Nat.beq pi pj)) (H':=H3) (k:=.heavy) (yG rfl rfl) (Zdb rfl rfl) (Zet rfl rfl spi spj) (fun q e=>by cases e) ?_
 rw [show Nat.beq pi pj=false from hbq]
 refine Zb<|ZP ?_
 first | refine Zi ?_ | skip
 refine YF<|Ze rfl ?_
 obtain ⟨H4,fH4,kH4⟩:=ZbL (kn:=kn) (lo:=H3.next) (H:=H3) ca hac hBd
 refine WL (vs:=[.pointer (some ⟨pi,0,none⟩)]) rfl rfl (Zh fH4) ?_
 have mH4:=kH4.1
 have hk:=(show Keep H H4 [pi,pj] from hk.trans (kH4.mono (by simp)))
 have hmq:=kH4.mqa hmq (by simp)
 have spi:=kH4.sc spi (by simp)
 have ca:=kH4.cl ca (by simp)
 have spj:=kH4.sc spj (by simp)
 have cb:=kH4.cl cb (by simp)
 have kb:=kb.trans kH4
 have c1:=kH4.cl c1 (by simp)
 refine ZS (b:=H.next) (o:=0) rfl<|ZM (b:=H.next) (o:=3) (v:=iv v.a) rfl c1.rd rfl<|Vd (a:=(a.q - a.u)) (b:=v.a) rfl rfl ?_
 refine ZH (by repeat' first | exact True.intro | exact (fun h=>h) | refine And.intro ?_ ?_ | (intro h;have h:(_:Nat)=_:=h;omega)) ?_
 refine And.intro (fun q1=>?_) (fun q1=>?_)
 ·have q1:(a.q - a.u) < v.a:=of_decide_eq_true q1
  exfalso;omega
 ·have q1:¬ ((a.q - a.u) < v.a):=of_decide_eq_false q1
  first | refine Zi ?_ | skip
  refine YF<|Ze rfl<|Vu (a:=⟨pi,0,none⟩) rfl<|ZS (b:=pi) (o:=0) rfl<|ZM (b:=pi) (o:=1) (v:=iv a.q) rfl ca.rd rfl<|ZS (b:=H.next) (o:=0) rfl<|ZM (b:=H.next) (o:=3) (v:=iv v.a) rfl c1.rd rfl<|Xm (a:=a.q) (b:=v.a) rfl rfl ⟨by omega,by omega⟩<|Vu (a:=⟨pi,0,none⟩) rfl<|ZS (b:=pi) (o:=0) rfl ?_
  have hBk:=hB.keep kb
  refine Zbo (b:=pi) (o:=1) rfl rfl spi (by omega) rfl rfl (by simp) ?_
  intro H5 kH5 nH5 sH5
  have mH5:=kH5.1
  have hk:=(show Keep H H5 [pi,pj] from by first | exact hk.trans kH5 | exact hk.trans (kH5.mono (by simp)) | exact hk.new kH5 (fun b hb=>by simp at hb ⊢;omega))
  have hmq:=kH5.mqa hmq (by simp;omega)
  have spj:=kH5.sc spj (by simp;omega)
  have cb:=kH5.cl cb (by first | (simp;done) | (simp;omega))
  have c1:=kH5.cl c1 (by first | (simp;done) | (simp;omega))
  have spi:Sc H5 pi [iv a.g,iv (a.q - v.a),iv a.u,iv a.x]:=sH5
  have ca:=spi.cl
  have hB1:=hBk.set hi (epi ▸ kH5) (a:=⟨a.g,a.q - v.a,a.u,a.x⟩) (by rw [← epi];exact spi) (by rw [← ea])
  have kx:=Keep.refl H5 []
  refine ZH (by repeat' first | exact True.intro | exact (fun h=>h) | refine And.intro ?_ ?_ | (intro h;have h:(_:Nat)=_:=h;omega)) ?_
  first | refine Ye ?_ | (refine YY ?_;refine Ye ?_)
  refine Ze rfl<|Vu (a:=⟨pj,0,none⟩) rfl<|ZS (b:=pj) (o:=0) rfl<|ZM (b:=pj) (o:=1) (v:=iv b.q) rfl cb.rd rfl<|ZS (b:=H.next) (o:=0) rfl<|ZM (b:=H.next) (o:=3) (v:=iv v.a) rfl c1.rd rfl<|XX (a:=b.q) (b:=v.a) rfl rfl ⟨by omega,by omega⟩<|Vu (a:=⟨pj,0,none⟩) rfl<|ZS (b:=pj) (o:=0) rfl<|Zbo (b:=pj) (o:=1) rfl rfl spj (by omega) rfl rfl (by simp) ?_
  intro H6 kH6 nH6 sH6
  have mH6:=kH6.1
  have hk:=(show Keep H H6 [pi,pj] from by first | exact hk.trans kH6 | exact hk.trans (kH6.mono (by simp)) | exact hk.new kH6 (fun b hb=>by simp at hb ⊢;omega))
  have hmq:=kH6.mqa hmq (by simp;omega)
  have c1:=kH6.cl c1 (by first | (simp;done) | (simp;omega))
  have spi:=kH6.sc spi (by simp;omega)
  have ca:=kH6.cl ca (by first | (simp;done) | (simp;omega))
  have spj:Sc H6 pj [iv b.g,iv (b.q+v.a),iv b.u,iv b.x]:=sH6
  have cb:=spj.cl
  have hfin:=(hB1.keep kx).set (by rw [List.length_set];exact hj) (epj ▸ kH6) (a:=⟨b.g,b.q+v.a,b.u,b.x⟩) (by rw [← epj];exact spj) (by rw [Vi hij,← eb])
  rw [ea,eb] at hfin
  refine ZH (by repeat' first | exact True.intro | exact (fun h=>h) | refine And.intro ?_ ?_ | (intro h;have h:(_:Nat)=_:=h;omega)) ?_
  exact And.intro trivial (Exists.intro _ (And.intro rfl ⟨rfl,hfin,epi ▸ epj ▸ hk⟩))
end
end
end Go.Ax

/-
 Pool: what happens (55) (written by program).
-/
namespace Go.Ax
open Go Go.RowKit Go.Proofs

noncomputable section
def YX (Pp:Nat→Nat) (n:Nat) (H H':Hp):Prop:=∃ l,Keep H H' l∧∀ b∈l,∃ i,i < n∧b=Pp i
theorem YX.of {Pp:Nat→Nat} {n:Nat} {H H':Hp} (k:Keep H H' []):YX Pp n H H':=⟨[],k,fun b h=>by cases h⟩
theorem YX.trans {Pp:Nat→Nat} {n:Nat} {H H1 H2:Hp} (h:YX Pp n H H1) (k:YX Pp n H1 H2):YX Pp n H H2:=by
 obtain ⟨l,h1,h2⟩:=h
 obtain ⟨m,k1,k2⟩:=k
 refine ⟨l ++ m,(h1.mono (fun x hx=>by simp [hx])).trans (k1.mono (fun x hx=>by simp [hx])),fun b hb=>?_⟩
 rcases List.mem_append.1 hb with q | q
 ·exact h2 b q
 ·exact k2 b q
theorem YX.cl {Pp:Nat→Nat} {n:Nat} {H H1:Hp} (h:YX Pp n H H1) {b:Nat} {cs:List Value} (c:Cl H b cs) (hb:∀ i,i < n→Pp i≠b):Cl H1 b cs:=by
 obtain ⟨l,h1,h2⟩:=h
 exact h1.cl c fun q=>by obtain ⟨i,hi,e⟩:=h2 b q;exact hb i hi e.symm
theorem YX.le {Pp:Nat→Nat} {n:Nat} {H H1:Hp} (h:YX Pp n H H1):H.next≤H1.next:=by obtain ⟨l,h1,_⟩:=h;exact h1.1
theorem YX.sl {Pp:Nat→Nat} {n:Nat} {H H1:Hp} (h:YX Pp n H H1) {a:Option Addr} {m cap:Nat} {cs:List Value} (c:Sl H a m cap cs) (hb:∀ b,a=some ⟨b,0,none⟩→∀ i,i < n→Pp i≠b):Sl H1 a m cap cs:=by
 obtain ⟨l,h1,h2⟩:=h
 exact h1.sl c fun b e q=>by obtain ⟨i,hi,e2⟩:=h2 b q;exact hb b e i hi e2.symm
theorem YX.keep {Pp:Nat→Nat} {n:Nat} {H0 H H1:Hp} (h:YX Pp n H H1) (k:Keep H0 H []) (hb:∀ i,i < n→H0.next≤Pp i):Keep H0 H1 []:=by
 obtain ⟨l,h1,h2⟩:=h
 exact k.new h1 fun b q=>by obtain ⟨i,hi,e⟩:=h2 b q;have:=hb i hi;right;omega
section
variable {kn:Kn} {lo:Nat} {H:Hp}
set_option maxRecDepth 100000 in
theorem ZeU {f mb c:Nat} {L:ML Int} {Pp:Nat→Nat} {al':List Ac} {v:Ev} (hok:okE v=true) (hvk:v.k=((0:Nat):Int)) (hlo:lo≤H.next) {m:Nat}
  (hcall:∀ H1,Keep H H1 []→∃ H2,FnX Try.prog kn lo 68 [.map (some mb),.agg (Ev.f v).toArray] H1 (.tuple #[]) H2∧Bok lo f mb L c Pp al' H2∧YX Pp m H1 H2) :
  ∃ H',FnX Try.prog kn lo 55 [.map (some mb),.agg (Ev.f v).toArray] H (.tuple #[]) H'∧Bok lo f mb L c Pp al' H'∧YX Pp m H H':=by
 have key:=Zp (kn:=kn) (lo:=lo) (H:=H) (args:=[.map (some mb),.agg (Ev.f v).toArray]) (Q:=fun w H'=>w=.tuple #[]∧Bok lo f mb L c Pp al' H'∧YX Pp m H H') Try.func55 B55 N55 Z55 L55 (by simp) ?_
 ·obtain ⟨w,H',h,rfl,q⟩:=key;exact ⟨H',h,q⟩
 have hk:=Keep.refl H []
 refine Zc<|YD (v:=.agg (Ev.f v).toArray) rfl ?_
 intro H1 kH1 nH1 c1
 have c1:Cl H1 H.next [iv v.k,iv v.g,iv v.t,iv v.a]:=c1
 have mH1:=kH1.1
 have hk:=hk.trans kH1
 refine Zb<|Zc<|Y2 (b:=H.next) (o:=0) rfl c1.rd (show row 4 _ _=some [iv v.k,iv v.g,iv v.t,iv v.a] from rfl) ?_
 obtain ⟨H2,fH2,kH2⟩:=Zb4 (kn:=kn) (lo:=lo) (H:=H1) (e:=v) (by omega)
 rw [hok] at fH2
 refine Zu (v:=.bool false) (vs:=[.agg (Ev.f v).toArray]) rfl (Zh fH2) ?_
 have mH2:=kH2.1
 have hk:=hk.trans kH2
 have c1:=kH2.cl c1 (by simp)
 refine Zb<|ZP ?_
 first | refine Zi ?_ | skip
 refine Zc<|Za rfl<|Zg (v:=.func (.func 68) #[.map (some mb)] #[]) rfl (by kernel_rfl)<|Za rfl<|Zg (v:=.func (.func 69) #[.map (some mb)] #[]) rfl (by kernel_rfl)<|Zg (v:=.agg #[.func (.func 68) #[.map (some mb)] #[],.func (.func 69) #[.map (some mb)] #[]]) rfl (by kernel_rfl)<|WN ?_
 intro H3 kH3 nH3 c3
 have c3:Cl H3 H2.next [.nilFunc,.nilFunc]:=c3
 have mH3:=kH3.1
 have hk:=hk.trans kH3
 have c1:=kH3.cl c1 (by simp)
 refine W9 (b:=H2.next) (o:=0) rfl rfl c3 (by omega) rfl rfl (by simp) ?_
 intro H4 kH4 nH4 sH4
 have mH4:=kH4.1
 have hk:=hk.new kH4 (fun b hb=>by simp at hb ⊢;omega)
 have c1:=kH4.cl c1 (by first | (simp;done) | (simp;omega))
 have c3:Cl H4 H2.next [.func (.func 68) #[.map (some mb)] #[],.func (.func 69) #[.map (some mb)] #[]]:=sH4
 refine Zb ?_
 first | refine Ye ?_ | (refine YY ?_;refine Ye ?_)
 refine ZS (b:=H.next) (o:=0) rfl<|ZM (b:=H.next) (o:=0) (v:=iv v.k) rfl c1.rd rfl<|Zb0 (b:=H2.next) (o:=0) (k:=0) (j:=v.k) rfl rfl hvk (by decide)<|ZM (b:=H2.next) (o:=0) (v:=.func (.func 68) #[.map (some mb)] #[]) rfl c3.rd rfl<|YS (b:=H.next) (o:=0) rfl c1.rd (show row 4 _ _=some [iv v.k,iv v.g,iv v.t,iv v.a] from rfl) ?_
 obtain ⟨H5,fH5,hb2,kp2⟩:=hcall H4 hk
 refine YC (vs:=[.map (some mb),.agg (Ev.f v).toArray]) rfl (Zh fH5) ?_
 have mx:=kp2.le
 refine ZH (by repeat' first | exact True.intro | exact (fun h=>h) | refine And.intro ?_ ?_ | (intro h;have h:(_:Nat)=_:=h;omega)) ?_
 exact And.intro trivial (Exists.intro _ (And.intro rfl ⟨rfl,hb2,(YX.of hk).trans kp2⟩))
set_option maxRecDepth 100000 in
theorem Zfv {f mb c:Nat} {L:ML Int} {Pp:Nat→Nat} {al':List Ac} {v:Ev} (hok:okE v=true) (hvk:v.k=((1:Nat):Int)) (hlo:lo≤H.next) {m:Nat}
  (hcall:∀ H1,Keep H H1 []→∃ H2,FnX Try.prog kn lo 69 [.map (some mb),.agg (Ev.f v).toArray] H1 (.tuple #[]) H2∧Bok lo f mb L c Pp al' H2∧YX Pp m H1 H2) :
  ∃ H',FnX Try.prog kn lo 55 [.map (some mb),.agg (Ev.f v).toArray] H (.tuple #[]) H'∧Bok lo f mb L c Pp al' H'∧YX Pp m H H':=by
 have key:=Zp (kn:=kn) (lo:=lo) (H:=H) (args:=[.map (some mb),.agg (Ev.f v).toArray]) (Q:=fun w H'=>w=.tuple #[]∧Bok lo f mb L c Pp al' H'∧YX Pp m H H') Try.func55 B55 N55 Z55 L55 (by simp) ?_
 ·obtain ⟨w,H',h,rfl,q⟩:=key;exact ⟨H',h,q⟩
 have hk:=Keep.refl H []
 refine Zc<|YD (v:=.agg (Ev.f v).toArray) rfl ?_
 intro H1 kH1 nH1 c1
 have c1:Cl H1 H.next [iv v.k,iv v.g,iv v.t,iv v.a]:=c1
 have mH1:=kH1.1
 have hk:=hk.trans kH1
 refine Zb<|Zc<|Y2 (b:=H.next) (o:=0) rfl c1.rd (show row 4 _ _=some [iv v.k,iv v.g,iv v.t,iv v.a] from rfl) ?_
 obtain ⟨H2,fH2,kH2⟩:=Zb4 (kn:=kn) (lo:=lo) (H:=H1) (e:=v) (by omega)
 rw [hok] at fH2
 refine Zu (v:=.bool false) (vs:=[.agg (Ev.f v).toArray]) rfl (Zh fH2) ?_
 have mH2:=kH2.1
 have hk:=hk.trans kH2
 have c1:=kH2.cl c1 (by simp)
 refine Zb<|ZP ?_
 first | refine Zi ?_ | skip
 refine Zc<|Za rfl<|Zg (v:=.func (.func 68) #[.map (some mb)] #[]) rfl (by kernel_rfl)<|Za rfl<|Zg (v:=.func (.func 69) #[.map (some mb)] #[]) rfl (by kernel_rfl)<|Zg (v:=.agg #[.func (.func 68) #[.map (some mb)] #[],.func (.func 69) #[.map (some mb)] #[]]) rfl (by kernel_rfl)<|WN ?_
 intro H3 kH3 nH3 c3
 have c3:Cl H3 H2.next [.nilFunc,.nilFunc]:=c3
 have mH3:=kH3.1
 have hk:=hk.trans kH3
 have c1:=kH3.cl c1 (by simp)
 refine W9 (b:=H2.next) (o:=0) rfl rfl c3 (by omega) rfl rfl (by simp) ?_
 intro H4 kH4 nH4 sH4
 have mH4:=kH4.1
 have hk:=hk.new kH4 (fun b hb=>by simp at hb ⊢;omega)
 have c1:=kH4.cl c1 (by first | (simp;done) | (simp;omega))
 have c3:Cl H4 H2.next [.func (.func 68) #[.map (some mb)] #[],.func (.func 69) #[.map (some mb)] #[]]:=sH4
 refine Zb ?_
 first | refine Ye ?_ | (refine YY ?_;refine Ye ?_)
 refine ZS (b:=H.next) (o:=0) rfl<|ZM (b:=H.next) (o:=0) (v:=iv v.k) rfl c1.rd rfl<|Zb0 (b:=H2.next) (o:=0) (k:=1) (j:=v.k) rfl rfl hvk (by decide)<|ZM (b:=H2.next) (o:=1) (v:=.func (.func 69) #[.map (some mb)] #[]) rfl c3.rd rfl<|YS (b:=H.next) (o:=0) rfl c1.rd (show row 4 _ _=some [iv v.k,iv v.g,iv v.t,iv v.a] from rfl) ?_
 obtain ⟨H5,fH5,hb2,kp2⟩:=hcall H4 hk
 refine YC (vs:=[.map (some mb),.agg (Ev.f v).toArray]) rfl (Zh fH5) ?_
 have mx:=kp2.le
 refine ZH (by repeat' first | exact True.intro | exact (fun h=>h) | refine And.intro ?_ ?_ | (intro h;have h:(_:Nat)=_:=h;omega)) ?_
 exact And.intro trivial (Exists.intro _ (And.intro rfl ⟨rfl,hb2,(YX.of hk).trans kp2⟩))
theorem ZcP {f mb c:Nat} {L:ML Int} {Pp:Nat→Nat} {al:List Ac} (hB:Bok lo f mb L c Pp al H) {v:Ev} {Bd:Int} (hac:∀ a∈al,Ui Bd a) (hBd:Bd≤329853488332800) (hlo:lo≤H.next) (h0:(stp al v).2=0) :
  ∃ H',FnX Try.prog kn lo 55 [.map (some mb),.agg (Ev.f v).toArray] H (.tuple #[]) H'∧Bok lo f mb L c Pp (stp al v).1 H'∧YX Pp al.length H H':=by
 cases he:okE v with
 | false=>rw [qM he] at h0;cases h0
 | true=>
  have ht:=Zgx he
  cases h1:fI al v.g with
  | none=>rw [zL he h1] at h0;cases h0
  | some i=>
   obtain ⟨hi,hx⟩:=KU h1
   have ai:=Y9 (z:=Ac.z) hac hi
   by_cases hk0:v.k=0
   ·rw [J2 he h1 hk0]
    refine ZeU he hk0 hlo fun H1 k1=>?_
    obtain ⟨H2,f2,b2,k2⟩:=Zen (kn:=kn) (lo:=lo) (H:=H1) (hB.keep k1) hi hx ai hBd ht.2.2.2.1 ht.2.2.2.2 (by have:=k1.1;omega)
    exact ⟨H2,f2,b2,[Pp i],k2,fun b hb=>⟨i,hi,by simpa using hb⟩⟩
   ·cases h2:fI al v.t with
    | none=>rw [JK he h1 hk0 h2] at h0;cases h0
    | some j=>
     obtain ⟨hj,hy⟩:=KU h2
     have aj:=Y9 (z:=Ac.z) hac hj
     by_cases hij:i=j
     ·subst hij;rw [JZ he h1 hk0 h2] at h0;cases h0
     ·by_cases hs:(al.getD i Ac.z).q - (al.getD i Ac.z).u < v.a
      ·rw [JO he h1 hk0 h2 hij hs] at h0;cases h0
      ·rw [JI he h1 hk0 h2 hij hs]
       have hk1:v.k=((1:Nat):Int):=by rcases ht.1 with z | z;exact absurd z hk0;exact z.1
       refine Zfv he hk1 hlo fun H1 k1=>?_
       obtain ⟨H2,f2,b2,k2⟩:=ZdK (kn:=kn) (lo:=lo) (H:=H1) (hB.keep k1) hi hx ai hBd ht.2.2.2.1 ht.2.2.2.2 (by have:=k1.1;omega) hs hj hy aj hij
       exact ⟨H2,f2,b2,[Pp i,Pp j],k2,fun b hb=>by
        simp at hb
        rcases hb with e | e
        ·exact ⟨i,hi,e⟩
        ·exact ⟨j,hj,e⟩⟩
end
end
end Go.Ax

/-
 Pool: events are played (34,54) (written by program).
-/
namespace Go.Ax
open Go Go.RowKit Go.Proofs

noncomputable section
theorem N34:Try.f34.ntmps=22:=by kernel_rfl
theorem Z34:Try.f34.results.toList=((List.toArray [(.tmp 4),(.cell 5 28)]):Array ResultVar).toList:=by kernel_rfl
theorem B34:Try.f34.body=some (at_ Try.f34 []):=by kernel_rfl
def R34x1:RC:=(.seq (.seq (.reg [oM 9 1,oW 10 9,oN 11 0])
 (.block 0 (.other (at_ Try.f34 [1,1,0,1,0]))))
 (.seq (.reg [oM 21 4,oM 4 21,⟨none,none,(.st (.tmp 5) (.const (.int .i64 0)))⟩])
 .ret))
theorem Zh9:low Try.prog 22 (at_ Try.f34 [1,1])=some R34x1:=by kernel_rfl
theorem ZjZ:at_ Try.f34 [1,1,0,1,0]=.loop (at_ Try.f34 [1,1,0,1,0,0]):=by kernel_rfl
def R34x2:RC:=(.seq (.reg [⟨some 12,none,(.cmp .lss (.tmp 11) (.tmp 10))⟩])
 (.seq (.cond (.tmp 12) .skip
 (.exit 0))
 (.seq (.block 1 (.seq (.reg [oI 13 9 11 4,oD 14 13 4,⟨some 7,none,(.alc 49 [(.int .i64 0),(.int .i64 0),(.int .i64 0),(.int .i64 0)])⟩,⟨none,none,(.sta (.tmp 7) (.tmp 14) 4)⟩])
 (.seq (.reg [oM 15 0,oD 16 7 4,oC 17 55 #[(.tmp 15),(.tmp 16)] #[69,49]])
 (.reg [oM 18 4,oR 19 .add 18 1,oM 4 19]))))
 (.reg [oR 20 .add 11 1,oM 11 20]))))
theorem Zjw:low Try.prog Try.f34.ntmps (at_ Try.f34 [1,1,0,1,0,0])=some R34x2:=by kernel_rfl
theorem ZkP:at_ Try.f34 []=.seq (at_ Try.f34 [0]) (at_ Try.f34 [1]):=by kernel_rfl
theorem ZkT:at_ Try.f34 [1]=.seq (at_ Try.f34 [1,0]) (at_ Try.f34 [1,1]):=by kernel_rfl
theorem Zkd:at_ Try.f34 [0]=.region 0 (Ue (at_ Try.f34 [0])) false:=by kernel_rfl
theorem ZkG:Ql Try.prog 22 (Ue (at_ Try.f34 [0])).toList (Ue (at_ Try.f34 [0])).toList=some [(.ro ⟨(some 4),none,(.mov (.const (.int .i64 0)))⟩),(.ro ⟨(some 5),none,(.alc 28 [(.int .i64 0)])⟩)]:=by kernel_rfl
theorem ZkI:at_ Try.f34 [1,0]=.region 1 (Ue (at_ Try.f34 [1,0])) false:=by kernel_rfl
theorem Zkv : Ql Try.prog 22 (Ue (at_ Try.f34 [1, 0])).toList (Ue (at_ Try.f34 [1, 0])).toList = some [(.ro ⟨(some 8), none, (.pur ⟨(some 8), (.makeFunc (.func 54) (List.toArray []) (List.toArray [(.tmp 5)])), 1, "", (List.toArray []), none⟩)⟩), (.dfr none ⟨(.value (.tmp 8)), (List.toArray []), (List.toArray [])⟩)] := by kernel_rfl
theorem ZkL:at_ Try.f54 []=.seq (at_ Try.f54 [0]) (at_ Try.f54 [1]):=by kernel_rfl
theorem ZkC:at_ Try.f54 [1]=.seq (at_ Try.f54 [1,0]) (at_ Try.f54 [1,1]):=by kernel_rfl
theorem C54:at_ Try.f54 [1,1]=.cond (.tmp 8) (at_ Try.f54 [1,1,0]) (at_ Try.f54 [1,1,1]):=by kernel_rfl
theorem K54:at_ Try.f54 [1,1,1]=.skip:=by kernel_rfl
theorem Zko:at_ Try.f54 [0]=.region 0 (Ue (at_ Try.f54 [0])) false:=by kernel_rfl
theorem Zki : QG Try.prog 10 (Ue (at_ Try.f54 [0])).toList (Ue (at_ Try.f54 [0])).toList = some [(.rcv (some 4)), (.ro ⟨(some 5), none, (.pur ⟨(some 5), (.typeAssert (.tmp 4) 20 28 true), 92, "", (List.toArray []), none⟩)⟩), (.ro ⟨(some 3), none, (.mov (.tmp 5))⟩), (.ro ⟨(some 6), none, (.pur ⟨(some 6), (.extract (.tmp 3) 0), 28, "", (List.toArray []), none⟩)⟩), (.ro ⟨(some 7), none, (.pur ⟨(some 7), (.extract (.tmp 3) 1), 4, "", (List.toArray []), none⟩)⟩), (.ro ⟨(some 1), none, (.mov (.tmp 6))⟩), (.ro ⟨(some 2), none, (.mov (.tmp 7))⟩)] := by kernel_rfl
theorem ZkU:at_ Try.f54 [1,0]=.region 1 (Ue (at_ Try.f54 [1,0])) false:=by kernel_rfl
theorem Zkj:QG Try.prog 10 (Ue (at_ Try.f54 [1,0])).toList (Ue (at_ Try.f54 [1,0])).toList=some [(.ro ⟨(some 8),none,(.mov (.tmp 2))⟩)]:=by kernel_rfl
theorem a28:Wf Try.prog 28=some false:=by kernel_rfl
theorem Zhk {P:Program} {S:Rg} {H:Hp} {a b y:Nat} {u:TypeId} {w v:Value} (ha:lk S a=some w) (hb:lk S b=some (.pointer (some ⟨y,0,none⟩))) (h2:Wf P u=some false) (h':Cl H y [v]) :
  Wm P S H [.tmp a,.cell b u]=some [w,v]:=by
 simp only [Wm,ha,hb,Zd1 h2 h'.rd]
theorem ZgM {P:Program} {kn:Kn} {lo n:Nat} {rd:Bool} {r:List RP} {S:Rg} {H:Hp} {D:List Deferred} {d:Option Nat} {K:Exit→Rg→Hp→List Deferred→Prop} {e:TypeId} {z:List Value} (h:∀ H1,Keep H H1 []→H1.next=H.next+1→Cl H1 H.next z→Vq P kn lo n rd r (Zy S d (.pointer (some ⟨H.next,0,none⟩))) H1 D K):Vq P kn lo n rd (.ro ⟨d,none,.alc e z⟩ :: r) S H D K:=.inl (by
 simp only [wRO,wRI]
 intro H1 hH1
 obtain ⟨k1,n1,c1⟩:=ZD hH1
 exact h H1 k1 n1 c1)
theorem YX.new {Pp:Nat→Nat} {n b:Nat} {H H1 H2:Hp} (h:YX Pp n H H1) (k:Keep H1 H2 [b]) (hb:H.next≤b):YX Pp n H H2:=by
 obtain ⟨l,h1,h2⟩:=h
 exact ⟨l,h1.new k (fun x hx=>.inr (by simp at hx;omega)),h2⟩
section
variable {kn:Kn} {lo:Nat} {H:Hp}
theorem Zby {b:Nat}:ZdN Try.prog kn lo 54 [.pointer (some ⟨b,0,none⟩)] H none none H:=by
 have key:∃ H',ZdN Try.prog kn lo 54 [.pointer (some ⟨b,0,none⟩)] H none none H'∧H'=H:=?_
 ·obtain ⟨H',h,rfl⟩:=key;exact h
 refine ZfP (P:=Try.prog) (kn:=kn) (lo:=lo) (args:=[.pointer (some ⟨b,0,none⟩)]) (H:=H) (p:=none) (p':=none) (Q:=fun H'=>H'=H) Try.func54 B54 (by rw [N54];simp) (by rw [Z54]) ?_
 rw [N54]
 refine VS.seq ZkL (VS.reg Zko Zki ?_)
 refine And.intro rfl (Exists.intro (.tuple #[iv 0,.bool false]) (And.intro (by kernel_rfl) ?_))
 refine And.intro rfl (Exists.intro (iv 0) (And.intro (by kernel_rfl) ?_))
 refine And.intro rfl (Exists.intro (.bool false) (And.intro (by kernel_rfl) ?_))
 refine VS.seq ZkC (VS.reg ZkU Zkj ?_)
 refine VS.cond C54 (t:=false) rfl (fun e=>by cases e) (fun _=>VS.skip K54 ?_)
 exact ⟨.inl rfl,rfl,rfl⟩
set_option maxRecDepth 100000 in
set_option maxHeartbeats 1000000 in
theorem ZfX {f mb c:Nat} {L:ML Int} {Pp:Nat→Nat} {al:List Ac} (hB:Bok lo f mb L c Pp al H) {vs:List Ev} {ea:Option Addr} {m ecap:Nat} (hs:Sl H ea m ecap (evc vs)) (hm:vs.length=m) (hm2:m≤256) (hal:∀ a∈al,Ui 1099511627776 a) (hok:∀ j,j < m→(stp (stA al vs j) (vs.getD j Ev.z)).2=0) {H0:Hp} (hF:H0.next≤H.next) (hP0':∀ i,i < al.length→H0.next≤Pp i) (hold:∀ b,ea=some ⟨b,0,none⟩→b < H0.next) (hlo:lo≤H0.next):∃ H',FnX Try.prog kn lo 34 [.map (some mb),.slice ea m ecap] H (.tuple #[iv m,iv 0]) H'∧Bok lo f mb L c Pp (stA al vs m) H'∧YX Pp al.length H H':=by
 have key:=Zau (P:=Try.prog) (kn:=kn) (lo:=lo) (args:=[.map (some mb),.slice ea m ecap]) (H:=H) (Q:=fun w H'=>w=.tuple #[iv m,iv 0]∧Bok lo f mb L c Pp (stA al vs m) H'∧YX Pp al.length H H') Try.func34 B34 (by rw [N34];simp) ?_
 ·obtain ⟨w,H',h,rfl,q⟩:=key;exact ⟨H',h,q⟩
 rw [N34,Z34]
 have hup:∀ i,i < al.length→Pp i < H.next:=fun i hi=>(hB.cl i hi).1
 have hmb:=hB.mq.1
 have hlow:∀ i,i < al.length→H0.next≤Pp i:=hP0'
 have fs:∀ b,ea=some ⟨b,0,none⟩→b < H0.next:=hold
 refine Ua.seqRR ZkP (jL Zkd ZkG ?_)
 refine Zhd rfl (ZgM fun H1 k1 n1 c1=>?_)
 refine Ua.seqRR ZkT (jL ZkI Zkv ?_)
 refine ZgP (v:=.func (.func 54) #[] #[.pointer (some ⟨H.next,0,none⟩)]) rfl (by kernel_rfl) ?_
 refine And.intro rfl ?_
 have hB:=hB.keep k1
 have hs:=k1.sl0 hs
 have ce:Cl H1 H.next [iv 0]:=c1
 have m1:=k1.1
 refine Ua.of (Xk _ _ Zh9 ?_)
 refine Zc<|Za rfl<|Z6 (m:=m) rfl<|Za rfl<|Zb ?_
 refine Zt (fn:=Try.f34) ZjZ N34 Zjw (fun i:Nat=>[(0,.map (some mb)),(4,iv (i:Int)),(5,pt H.next),(9,.slice ea m ecap),(10,iv (m:Int)),(11,iv (i:Int))])
  (fun k i H'=>i+k=m∧YX Pp al.length H1 H'∧Bok lo f mb L c Pp (stA al vs i) H'∧Cl H' H.next [iv 0]∧Sl H' ea m ecap (evc vs)) m 0 ⟨by omega,YX.of (Keep.refl _ _),hB,ce,hs⟩ ⟨rfl,rfl,rfl,rfl,rfl,rfl,trivial⟩ ?_
 rintro k i L1 ⟨hik,kp,hB,ce,hs⟩
 have mL:=kp.le;have kacc:=Keep.refl L1 []
 refine Zc<|ZC (a:=(i:Int)) (b:=(m:Int)) rfl rfl<|Zb ?_
 refine And.intro (fun q1=>?_) (fun q1=>?_)
 ·have q1:(i:Int) < (m:Int):=of_decide_eq_true q1
  have hi:i < m:=by omega
  rcases id hs with ⟨_,h0s,_⟩ | ⟨sb,es,rs,_⟩
  ·omega
  have ls:=rs.1
  have lsb2:=fs sb es
  first | refine Zi ?_ | skip
  refine Zc<|YZ (b:=sb) (o:=0) (k:=i) (j:=(i:Int)) (by rw [← es];rfl) rfl rfl hi<|Y2 (b:=sb) (o:=0+i * 4) rfl rs (Zds (by omega))<|WN ?_
  intro H2 kH2 nH2 c2
  have c2:Cl H2 L1.next [iv 0,iv 0,iv 0,iv 0]:=c2
  have mH2:=kH2.1
  have kacc:=kacc.trans kH2
  have ce:=kH2.cl ce (by simp)
  have hs:=kH2.sl0 hs
  have hB:=hB.keep kH2
  have rs:=kH2.rd rs (by simp)
  refine W9 (b:=L1.next) (o:=0) rfl rfl c2 (by omega) rfl rfl (by simp) ?_
  intro H3 kH3 nH3 sH3
  have mH3:=kH3.1
  have kacc:=kacc.new kH3 (fun b hb=>by simp at hb ⊢;omega)
  have ce:=kH3.cl ce (by first | (simp;done) | (simp;omega))
  have hs:=kH3.sl hs (fun b e=>by have:=fs b e;first | (simp;done) | (simp;omega))
  have hB:=hB.keepW kH3 (by omega) (fun j hj=>by have:=hup j (by rw [Jm] at hj;exact hj);omega)
  have rs:=kH3.rd rs (by first | (simp;done) | (simp;omega))
  have c2:Cl H3 L1.next [iv ((vs.getD i Ev.z).k),iv ((vs.getD i Ev.z).g),iv ((vs.getD i Ev.z).t),iv ((vs.getD i Ev.z).a)]:=sH3
  refine Zb<|Zc<|Za rfl<|Y2 (b:=L1.next) (o:=0) rfl c2.rd (show row 4 _ _=some [iv ((vs.getD i Ev.z).k),iv ((vs.getD i Ev.z).g),iv ((vs.getD i Ev.z).t),iv ((vs.getD i Ev.z).a)] from rfl) ?_
  have hac:=Zec (vs:=vs) hal i
  obtain ⟨H4,fH4,hB2,kq⟩:=ZcP (kn:=kn) (lo:=lo) (H:=H3) hB hac (by omega) (by omega) (hok i hi)
  refine Zu (vs:=[.map (some mb),.agg (Ev.f (vs.getD i Ev.z)).toArray]) rfl (Zh fH4) ?_
  rw [Jm] at kq
  have kp2:=(kp.trans (YX.of kacc)).trans kq
  have mH4:=kq.le
  have ce:=kq.cl ce (fun j hj=>by have:=hup j hj;omega)
  have hs:=kq.sl hs (fun b e j hj=>by have:=fs b e;have:=hlow j hj;omega)
  refine Zb ?_
  show Zl _ _ _ _ _ _ _ _
  refine Za rfl<|Zs (a:=(i:Int)) (b:=1) rfl rfl ⟨by omega,by omega⟩<|Za rfl<|Zb ?_
  show Zl _ _ _ _ _ _ _ _
  refine Zs (a:=(i:Int)) (b:=1) rfl rfl ⟨by omega,by omega⟩<|Za rfl<|Zb ?_
  exact ⟨k - 1,i+1,by omega,⟨by omega,kp2,hB2,ce,hs⟩,rfl,rfl,rfl,rfl,rfl,rfl,trivial⟩
 ·have q1:¬ ((i:Int) < (m:Int)):=of_decide_eq_false q1
  have kfin:=(YX.of k1).trans kp
  first | (refine Zz ?_;show wC _ _ _ _ _ _ _ _ _) | skip
  refine Zc<|Za rfl<|Za rfl<|K5 (b:=H.next) (o:=0) rfl rfl ce (by omega) rfl rfl (by simp) ?_
  intro H5 kH5 nH5 sH5
  have mH5:=kH5.1
  have hs:=kH5.sl hs (fun b e=>by have:=fs b e;first | (simp;done) | (simp;omega))
  have hB:=hB.keepW kH5 (by omega) (fun j hj=>by have:=hup j (by rw [Jm] at hj;exact hj);omega)
  have kfin:=kfin.new kH5 (by omega)
  have ce:Cl H5 H.next [iv 0]:=sH5
  refine Zb ?_
  have eim:i=m:=by omega
  subst eim
  exact ⟨54,#[.pointer (some ⟨H.next,0,none⟩)],rfl,Or.inl ⟨Or.inr rfl,H5,Zby,_,Zhk rfl rfl a28 ce,rfl,hB,kfin⟩⟩
end
end
end Go.Ax

/-
 Pool: the book opened;all accounts (33,35) (written by program).
-/
namespace Go.Ax
open Go Go.RowKit Go.Proofs

noncomputable section
theorem Zfy {P:Program} {kn:Kn} {lo n:Nat} {r:List RO} {S:Rg} {H:Hp} {K:Rg→Hp→Prop} {d:Option Nat} {x:Operand} {e:TypeId} {v:Value} (hx:evS S x=some v) (h:∀ H1,Keep H H1 []→H1.next=H.next+1→Sc H1 H.next v.cells.toList→Zr P kn lo n r (Zy S d (.pointer (some ⟨H.next,0,none⟩))) H1 K):Zr P kn lo n (⟨d,none,.box e x⟩ :: r) S H K:=by
 simp only [Zr,Xx,Xw,wRI,hx]
 intro H1 hH1
 obtain ⟨k1,n1,_⟩:=ZD hH1
 exact h H1 k1 n1 (Zg7 hH1)
def acQ (q:Qt):Ac:=⟨q.g,q.a,0,0⟩
def acs (l:List Qt):List Ac:=l.map acQ
theorem KI {l:List Qt}:(acs l).length=l.length:=by simp [acs]
theorem Zda {l:List Qt} {i:Nat} (h:i < l.length):(acs l).getD i Ac.z=acQ (l.getD i Qt.z):=by
 unfold acs
 rw [List.getD_eq_getElem?_getD,List.getElem?_map,List.getD_eq_getElem?_getD,List.getElem?_eq_getElem h];rfl
theorem ZcD {α:Type} {l:List α} {i j:Nat} {z:α} (h:j < i):(l.take i).getD j z=l.getD j z:=by
 rw [List.getD_eq_getElem?_getD,List.getD_eq_getElem?_getD,List.getElem?_take,if_pos h]
theorem US {α:Type} {l:List α} {i:Nat} {a z:α} (h:i < l.length):(l ++ [a]).getD i z=l.getD i z:=by
 rw [List.getD_eq_getElem?_getD,List.getD_eq_getElem?_getD,List.getElem?_append_left h]
theorem Up {α:Type} {l:List α} {a z:α}:(l ++ [a]).getD l.length z=a:=by
 rw [List.getD_eq_getElem?_getD,List.getElem?_append_right (Nat.le_refl _)];simp
theorem Bok.nil {lo f mb:Nat} {P:Nat→Nat} {H:Hp} (h:Mqa iv H mb ([]:ML Int) 0) (h1:lo≤mb) (h2:f≤mb):Bok lo f mb [] 0 P [] H:=
 ⟨h,WfA.nil,(fun i h=>by cases h),(fun x _=>rfl),(fun i h=>by cases h),(fun i j h=>by cases h),(fun i h=>by cases h),h1,h2⟩
theorem Bok.add {lo f mb b:Nat} {L:ML Int} {c:Nat} {P:Nat→Nat} {al:List Ac} {H H1 H2:Hp} {a:Ac} (h:Bok lo f mb L c P al H) (k1:Keep H H1 []) (hs:Sc H1 b (Ac.f a)) (hb:H.next≤b) (hlb:lo≤b) (hf:f≤b) (hno:∀ i,i < al.length→(al.getD i Ac.z).g≠a.g)
  (k2:Keep H1 H2 [mb]) (hm:Mqa iv H2 mb (Xp a.g (.pointer (some ⟨b,0,none⟩)) c L) (Xd a.g c L)):Bok lo f mb (Xp a.g (.pointer (some ⟨b,0,none⟩)) c L) (Xd a.g c L) (fun j=>if j=al.length then b else P j) (al ++ [a]) H2:=by
 have hmb:=h.mq.1
 have hP:∀ i,i < al.length→P i < H.next:=fun i hi=>(h.cl i hi).1
 refine ⟨hm,h.wf.put _ _,fun j hj=>?_,fun x hx=>?_,fun j hj=>?_,fun i j hi hj e=>?_,fun j hj=>?_,h.lm⟩<;>(try rw [List.length_append,List.length_singleton] at hj)
 ·by_cases q:j=al.length
  ·subst q;rw [Up,VZ,if_pos rfl];simp
  ·have hj2:j < al.length:=by omega
   rw [US hj2,VZ,if_neg (hno j hj2),h.val j hj2]
   simp [q]
 ·have h1:=hx al.length (by simp)
  rw [Up] at h1
  rw [VZ,if_neg (fun e=>h1 e.symm)]
  exact h.no x fun i hi=>by have:=hx i (by simp;omega);rw [US hi] at this;exact this
 ·by_cases q:j=al.length
  ·subst q;rw [Up,if_pos rfl];exact k2.sc hs (by simp;omega)
  ·have hj2:j < al.length:=by omega
   rw [US hj2,if_neg q]
   exact k2.sc (k1.sc (h.cl j hj2) (by simp)) (by have:=(h.lw j hj2).2.2;simpa using this)
 ·rw [List.length_append,List.length_singleton] at hi
  by_cases q:i=al.length<;>by_cases q2:j=al.length
  ·omega
  ·rw [if_pos q,if_neg q2] at e;have:=hP j (by omega);omega
  ·rw [if_neg q,if_pos q2] at e;have:=hP i (by omega);omega
  ·rw [if_neg q,if_neg q2] at e;exact h.inj i j (by omega) (by omega) e
 ·by_cases q:j=al.length
  ·rw [if_pos q];exact ⟨hlb,hf,by omega⟩
  ·rw [if_neg q];exact h.lw j (by omega)
theorem Bok.keys {lo f mb:Nat} {L:ML Int} {c:Nat} {P:Nat→Nat} {al:List Ac} {H:Hp} (h:Bok lo f mb L c P al H) (hr:(al.map (·.g)).Pairwise (· < ·)) {ys:List Int} (hp:ys.Perm (L.map (·.1))) (hs:ys.Pairwise (·≤·)):ys=al.map (·.g):=by
 have hn:(al.map (·.g)).Nodup:=hr.imp fun q e=>by omega
 have hmem:∀ x,x∈L.map (·.1)↔x∈al.map (·.g):=fun x=>by
  rw [← Uz]
  constructor
  ·intro q
   refine Classical.byContradiction fun z=>?_
   rw [h.no x fun i hi e=>z (List.mem_map.2 ⟨al.getD i Ac.z,by rw [List.getD_eq_getElem?_getD,List.getElem?_eq_getElem hi];exact List.getElem_mem hi,e⟩)] at q
   cases q
  ·intro q
   obtain ⟨a,ha,e⟩:=List.mem_map.1 q
   obtain ⟨i,hi,e2⟩:=List.mem_iff_getElem.1 ha
   have:=h.val i hi
   rw [List.getD_eq_getElem?_getD,List.getElem?_eq_getElem hi] at this
   have e3:((some al[i]).getD Ac.z).g=x:=by rw [e2];exact e
   rw [e3] at this
   rw [this];rfl
 have hp2:ys.Perm (al.map (·.g)):=hp.trans (VU h.wf.keys hn hmem)
 exact List.Perm.eq_of_pairwise (le:=fun x y:Int=>x≤y) (fun x y _ _ h1 h2=>by omega) hs (hr.imp fun q=>by omega) hp2
theorem Bok.len {lo f mb:Nat} {L:ML Int} {c:Nat} {P:Nat→Nat} {al:List Ac} {H:Hp} (h:Bok lo f mb L c P al H):L.length≤al.length:=by
 have:=Xt (D:=L.map (·.1)) (L:=al.map (·.g)) h.wf.keys fun x hx=>by
  refine Classical.byContradiction fun z=>?_
  have q:=Uz.2 hx
  rw [h.no x fun i hi e=>z (List.mem_map.2 ⟨al.getD i Ac.z,by rw [List.getD_eq_getElem?_getD,List.getElem?_eq_getElem hi];exact List.getElem_mem hi,e⟩)] at q
  cases q
 simpa using this
theorem ZiE:ZT Try.prog 37=some (47,4):=by kernel_rfl
theorem Zkx:YA Try.prog 47=some (.agg #[iv 0,iv 0,iv 0,iv 0]):=by kernel_rfl
theorem Zkc:Try.prog.underlying 37=some (.slice 47):=by kernel_rfl
section
variable {kn:Kn} {lo:Nat} {H:Hp}
set_option maxRecDepth 100000 in
set_option maxHeartbeats 1000000 in
theorem Zfq (s:Snd Try.prog kn) {qs:List Qt} {sa:Option Addr} {n cap:Nat} (hs:Sl H sa n cap (qtc qs)) (hl:qs.length=n) (hn:n≤260) (hd:∀ i j,i < j→j < n→(qs.getD i Qt.z).g≠(qs.getD j Qt.z).g) (hlo:lo≤H.next) :
  FnM Try.prog lo 33 [.slice sa n cap] H fun v H'=>∃ mb L c Pp,v=.map (some mb)∧Bok lo H.next mb L c Pp (acs qs) H'∧Keep H H' []:=by
 refine WV s Try.func33 B33 N33 Z33 L33 (by simp) ?_
 have hk:=Keep.refl H []
 have fs:=hs.old
 refine Zv<|Zd rfl<|Zj<|Zv<|jZ (enc:=iv) ?_
 intro H1 kH1 nH1 hmq
 have mH1:=kH1.1
 have hk:=hk.trans kH1
 have hs:=kH1.sl0 hs
 refine Zd rfl<|Zj<|Zv<|Zd rfl<|jA (m:=n) rfl<|Zd rfl<|Zj ?_
 refine VF s (fn:=Try.f33) Zib N33 Zi7 (fun i:Nat=>[(3,.map (some H.next)),(7,.slice sa n cap),(8,iv (n:Int)),(9,iv (i:Int))])
  (fun k i H'=>i+k=n∧Keep H H' []∧H1.next≤H'.next∧Sl H' sa n cap (qtc qs)∧∃ L c Pp,Bok lo H.next H.next L c Pp ((acs qs).take i) H') n 0 ⟨by omega,hk,Nat.le_refl _,hs,[],0,(fun _=>0),Bok.nil hmq hlo (Nat.le_refl _)⟩ ⟨rfl,rfl,rfl,rfl,trivial⟩ ?_
 rintro k i L1 ⟨hik,hk,hnx,hs,L,c,Pp,hB⟩
 have mk:=hk.1;have kacc:=Keep.refl L1 []
 refine Zv<|zD (a:=(i:Int)) (b:=(n:Int)) rfl rfl<|Zj ?_
 refine And.intro (fun q1=>?_) (fun q1=>?_)
 ·have q1:(i:Int) < (n:Int):=of_decide_eq_true q1
  have hi:i < n:=by omega
  rcases id hs with ⟨_,h0s,_⟩ | ⟨sb,es,rs,_⟩
  ·omega
  have ls:=rs.1
  have lsb2:=fs sb es
  first | refine YL ?_ | skip
  refine Zv<|Za5 (b:=sb) (o:=0) (k:=i) (j:=(i:Int)) (by rw [← es];rfl) rfl rfl hi<|Y3 (b:=sb) (o:=0+i * 3) rfl rs (UQ (by omega))<|Zbe ?_
  intro H2 kH2 nH2 c2
  have c2:Cl H2 L1.next [iv 0,iv 0,iv 0]:=c2
  have mH2:=kH2.1
  have hk:=hk.trans kH2
  have hs:=kH2.sl0 hs
  have kacc:=kacc.trans kH2
  have rs:=kH2.rd rs (by simp)
  refine Zbr (b:=L1.next) (o:=0) rfl rfl c2 (by omega) rfl rfl (by simp) ?_
  intro H3 kH3 nH3 sH3
  have mH3:=kH3.1
  have hk:=hk.new kH3 (fun b hb=>by simp at hb ⊢;omega)
  have hs:=kH3.sl hs (fun b e=>by have:=fs b e;first | (simp;done) | (simp;omega))
  have kacc:=kacc.new kH3 (fun b hb=>by simp at hb ⊢;omega)
  have rs:=kH3.rd rs (by first | (simp;done) | (simp;omega))
  have c2:Cl H3 L1.next [iv ((qs.getD i Qt.z).g),iv ((qs.getD i Qt.z).b),iv ((qs.getD i Qt.z).a)]:=sH3
  refine Zj ?_
  show Zr _ _ _ _ _ _ _ _
  refine Zd rfl<|Wi (b:=L1.next) (o:=0) rfl<|W3 (b:=L1.next) (o:=0) (v:=iv ((qs.getD i Qt.z).g)) rfl c2.rd rfl<|Wi (b:=L1.next) (o:=0) rfl<|W3 (b:=L1.next) (o:=0) (v:=iv ((qs.getD i Qt.z).g)) rfl c2.rd rfl<|Wi (b:=L1.next) (o:=0) rfl<|W3 (b:=L1.next) (o:=2) (v:=iv ((qs.getD i Qt.z).a)) rfl c2.rd rfl<|Zo (v:=.agg #[iv ((qs.getD i Qt.z).g),iv ((qs.getD i Qt.z).a),iv 0,iv 0]) rfl (by kernel_rfl)<|Zfy rfl ?_
  intro H4 kH4 nH4 sb2
  have mH4:=kH4.1
  have hk:=hk.trans kH4
  have hs:=kH4.sl0 hs
  have kacc:=kacc.trans kH4
  have rs:=kH4.rd rs (by simp)
  have c2:=kH4.cl c2 (by simp)
  have hmq1:=(hB.keep kacc).mq
  refine ZfW (enc:=iv) jy Zeb (a:=(qs.getD i Qt.z).g) rfl rfl rfl hmq1 (by omega) ?_
  intro H5 kH5 nH5 mq2
  have mH5:=kH5.1
  have htl:((acs qs).take i).length=i:=by rw [List.length_take,KI];omega
  have hB2:=hB.add (b:=H3.next) (a:=acQ (qs.getD i Qt.z)) kacc (by exact sb2) (by omega) (by omega) (by omega) (fun j hj=>by rw [htl] at hj;rw [ZcD hj,Zda (by omega)];exact hd j i hj (by omega)) kH5 mq2
  have htk:(acs qs).take (i+1)=(acs qs).take i ++ [acQ (qs.getD i Qt.z)]:=by rw [Y4 (z:=Ac.z) (by rw [KI];omega),Zda (by omega)]
  rw [← htk] at hB2
  have hk:=hk.new kH5 (fun b hb=>by simp at hb ⊢;omega)
  have hs:=kH5.sl hs (fun b e=>by have:=fs b e;first | (simp;done) | (simp;omega))
  have rs:=kH5.rd rs (by first | (simp;done) | (simp;omega))
  have c2:=kH5.cl c2 (by first | (simp;done) | (simp;omega))
  refine Zj ?_
  show Zr _ _ _ _ _ _ _ _
  refine yd (a:=(i:Int)) (b:=1) rfl rfl ⟨by omega,by omega⟩<|Zd rfl<|Zj ?_
  exact ⟨k - 1,i+1,by omega,⟨by omega,hk,by omega,hs,_,_,_,hB2⟩,rfl,rfl,rfl,rfl,trivial⟩
 ·have q1:¬ ((i:Int) < (n:Int)):=of_decide_eq_false q1
  first | (refine Jx ?_;show wCM _ _ _ _ _ _ _ _ _) | skip
  refine Zv<|Zd rfl<|Zd rfl<|Zj ?_
  have e:i=n:=by omega
  rw [e,List.take_of_length_le (by rw [KI];omega)] at hB
  exact And.intro trivial (Exists.intro _ (And.intro rfl ⟨H.next,L,c,Pp,rfl,hB,hk⟩))
theorem Bok.keepB {lo f f2 mb:Nat} {L:ML Int} {c:Nat} {P:Nat→Nat} {al:List Ac} {H H1:Hp} (h:Bok lo f mb L c P al H) (k:YW f2 H H1) (h1:mb < f2) (h2:∀ i,i < al.length→P i < f2):Bok lo f mb L c P al H1:=
 ⟨k.mqa h.mq h1,h.wf,h.val,h.no,fun i hi=>k.sc (h.cl i hi) (h2 i hi),h.inj,h.lw,h.lm⟩
set_option maxRecDepth 100000 in
set_option maxHeartbeats 1000000 in
theorem j9 (s:Snd Try.prog kn) {f mb c:Nat} {L:ML Int} {Pp:Nat→Nat} {al:List Ac} (hB:Bok lo f mb L c Pp al H) (hr:(al.map (·.g)).Pairwise (· < ·)) (hal:al.length≤12) (hlo:lo≤H.next) :
  FnM Try.prog lo 35 [.map (some mb)] H fun v H'=>Acc lo H.next 47 H' v al.length (acc al)∧Keep H H' []:=by
 refine WV s Try.func35 B35 N35 Z35 L35 (by simp) ?_
 have hk:=Keep.refl H []
 have hB0:=hB
 refine Zv<|Zd rfl<|Zj<|Zv<|Zd rfl<|Zj<|Zv<|Zd rfl ?_
 obtain ⟨H1,fH1,kH1,kb⟩:=ZeC (kn:=kn) (lo:=lo) (H:=H) mb
 refine Z5 s (vs:=[.map (some mb)]) rfl (Zh fH1) ?_
 have mH1:=kH1.1
 have hk:=hk.trans kH1
 have hB:=hB.keep kH1
 have hLl:=hB.len
 refine YR (t:=.fn (.func 56) #[]) rfl (Yi s.hN (ZcQ (H:=H1) s (by omega) kb hB.mq hB.wf (by omega))) ?_
 rintro _ H2 ⟨kH2,ya,ys,ycap,rfl,hy,hsrt,hperm⟩
 have mH2:=kH2.1
 have hk:=hk.trans kH2
 have hB:=hB.keep kH2
 have hys:=hB.keys hr hperm hsrt
 have fy:=hy.old
 have hyl:ys.length=al.length:=by rw [hys,List.length_map]
 rw [hyl] at hy ⊢
 have hyi:∀ i,i < al.length→ys.getD i 0=(al.getD i Ac.z).g:=fun i hi=>by rw [hys];exact zl (z:=Ac.z) hi
 obtain ⟨N,eN⟩:∃ N,N=al.length:=⟨_,rfl⟩
 rw [← eN] at hy ⊢
 refine jA (m:=N) rfl<|Zd rfl<|Zj ?_
 refine VF s (fn:=Try.f35) Zju N35 Zif (fun z:Nat × Value=>[(0,.map (some mb)),(3,z.2),(8,.slice ya N ycap),(9,iv (N:Int)),(10,iv (z.1:Int))])
  (fun k z H'=>z.1+k=N∧Keep H H' []∧H2.next≤H'.next∧Sl H' ya N ycap (cI ys)∧Bok lo f mb L c Pp al H'∧Acc lo H2.next 47 H' z.2 z.1 (acc (al.take z.1))) N (0,.slice none 0 0) ⟨by simp,hk,Nat.le_refl _,hy,hB,.inl ⟨rfl,rfl,rfl⟩⟩ ⟨rfl,rfl,rfl,rfl,rfl,trivial⟩ ?_
 rintro k ⟨i,wv⟩ L1 ⟨hik,hk,hnx,hy,hB,hacc⟩
 have mk:=hk.1;have kacc:=Keep.refl L1 []
 simp only [] at hik hacc
 refine Zv<|zD (a:=(i:Int)) (b:=(N:Int)) rfl rfl<|Zj ?_
 refine And.intro (fun q1=>?_) (fun q1=>?_)
 ·have q1:(i:Int) < (N:Int):=of_decide_eq_true q1
  have hi:i < N:=by omega
  rcases id hy with ⟨_,h0s,_⟩ | ⟨sb,es,rs,_⟩
  ·omega
  have ls:=rs.1
  have lsb2:=fy sb es
  have hval:=hB.val i (by omega)
  have hPi:=(hB.cl i (by omega)).1;have hPx:=hB0.cl i (by omega)
  have hPl:=hPx.1
  first | refine YL ?_ | skip
  refine Zv<|Za5 (b:=sb) (o:=0) (k:=i) (j:=(i:Int)) (by rw [← es];rfl) rfl rfl hi<|W3 (b:=sb) (o:=0+i * 1) (v:=iv ((al.getD i Ac.z).g)) rfl rs (by rw [← hyi i (by omega)];exact UB (by omega))<|Zd rfl<|Zj ?_
  show Zr _ _ _ _ _ _ _ _
  refine Zd rfl<|Zd rfl<|Zd rfl ?_
  obtain ⟨pi,epi⟩:∃ pi,pi=Pp i:=⟨_,rfl⟩
  rw [← epi] at hval hPl
  have ca:Cl L1 pi (Ac.f (al.getD i Ac.z)):=by rw [epi];exact (hB.cl i (by omega)).cl
  refine Wk (v:=.pointer (some ⟨pi,0,none⟩)) (H':=L1) (k:=.read mb) (yG rfl rfl) rfl ((QI jy Zeb Zee rfl rfl rfl hB.mq false).trans (by rw [hval];rfl)) (fun q e=>by cases e;exact hB.mq.1)<|ZfM (a:=⟨pi,0,none⟩) rfl<|Y3 (b:=pi) (o:=0) rfl ca.rd (show row 4 _ _=some [iv ((al.getD i Ac.z).g),iv ((al.getD i Ac.z).q),iv ((al.getD i Ac.z).u),iv ((al.getD i Ac.z).x)] from rfl) ?_
  obtain ⟨H3,hH3⟩:∃ H3,L1.new (.cells [iv ((al.getD i Ac.z).g),iv ((al.getD i Ac.z).q),iv ((al.getD i Ac.z).u),iv ((al.getD i Ac.z).x)] 47 false)=H3:=⟨_,rfl⟩
  refine Wk (H':=H3) (k:=.heavy) rfl (by kernel_rfl) ((YU (v:=.agg (Ac.f (al.getD i Ac.z)).toArray) ZiE Zkx rfl rfl rfl (by decide)).trans (by rw [← hH3];rfl)) (fun b e=>by cases e) ?_
  obtain ⟨kH3,nH3,c3⟩:=ZD hH3;clear hH3
  have c3:Cl H3 L1.next [iv ((al.getD i Ac.z).g),iv ((al.getD i Ac.z).q),iv ((al.getD i Ac.z).u),iv ((al.getD i Ac.z).x)]:=c3
  have mH3:=kH3.1
  have hk:=hk.trans kH3
  have kacc:=kacc.trans kH3
  have hy:=kH3.sl0 hy
  have hB:=hB.keep kH3
  have rs:=kH3.rd rs (by simp)
  have ca:=kH3.cl ca (by simp)
  have kB:=kacc
  obtain ⟨H4,kdH4,eH4,dH4,aH4,kbH4⟩:=Yw (P:=Try.prog) (lo:=lo) (k:=i) (t1:=37) ZiE Zkc (c3.sl (Nat.le_refl 1)) rfl (by decide) rfl (by rw [ZeV,List.length_take];omega) (by omega) (hacc.keep kacc) (by omega) (by omega)
  refine Wk (k:=kdH4) rfl (by cases wv<;>kernel_rfl) (eH4 _ _ _ _ _ _ _ rfl rfl) (Qx dH4 _) ?_
  have hk:=kbH4.keep hk (by omega)
  have hy:=kbH4.sl hy (fun b e=>by have:=fy b e;omega)
  have mH4:=kbH4.1
  have hB:=hB.keepB kbH4 (by have:=hB0.mq.1;omega) (fun j hj=>by have:=(hB0.cl j hj).1;omega)
  refine Zd rfl<|Zj ?_
  show Zr _ _ _ _ _ _ _ _
  refine yd (a:=(i:Int)) (b:=1) rfl rfl ⟨by omega,by omega⟩<|Zd rfl<|Zj ?_
  have hU:al.take (i+1)=al.take i ++ [al.getD i Ac.z]:=Y4 (by omega)
  have hacc2:Acc lo H2.next 47 H4 (.slice (some ⟨H3.next,0,none⟩) (i+1) (i+1)) (i+1) (acc (al.take (i+1))):=by rw [hU];unfold acc;rw [List.flatMap_append];exact aH4
  exact ⟨k - 1,(i+1,_),by omega,⟨by simp only [];omega,hk,by omega,hy,hB,hacc2⟩,rfl,rfl,rfl,rfl,rfl,trivial⟩
 ·have q1:¬ ((i:Int) < (N:Int)):=of_decide_eq_false q1
  first | (refine Jx ?_;show wCM _ _ _ _ _ _ _ _ _) | skip
  refine Zv<|Zd rfl<|Zd rfl<|Zj ?_
  have e:i=N:=by omega
  have ht:al.take N=al:=by rw [eN,List.take_length]
  rw [e,ht] at hacc
  exact And.intro trivial (Exists.intro _ (And.intro rfl ⟨hacc.low (by omega),hk⟩))
end
end
end Go.Ax


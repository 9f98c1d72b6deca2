import Derived.Test.YtlgfejokafimaaaMb
set_option linter.all false
namespace Go.Ax
open Go Go.RowKit

section
variable {P:Program} {fn:FuncId} {tmps:Array Value} {k:List Item} {ds:List Deferred} {cs:List Frame} {w w':World} {c:Frame} {l:Nat} {v:Value}
theorem JL (hr:(Instr.beginRound l).run P w=.ok () w'):step P (lone (mkF fn tmps (.beginRound :: k) ds .normal (some l)) cs w)=.next (lone (mkF fn tmps k ds .normal (some l)) cs w'):=
 step_lone_go (by simp [stepG,stepG.exec,stepG.apply,mkF,Sem.runT_eq,hr,Result.andThen,Frame.finish])
theorem KQ (hr:(Instr.endRound l none).run P w=.ok v w'):step P (lone (mkF fn tmps [] ds .normal (some l)) (c :: cs) w)=.next (lone (c.finish v) cs w'):=
 step_lone_go (by simp [stepG,stepG.exec,mkF,Sem.runT_eq,hr,doReturn])
theorem KR (hr:(Instr.endRound l (some .ret)).run P w=.ok v w'):step P (lone (mkF fn tmps (.code .ret :: k) ds .normal (some l)) (c :: cs) w)=.next (lone (c.finish v) cs w'):=
 step_lone_go (by simp [stepG,stepG.exec,mkF,Sem.runT_eq,hr,doReturn])
theorem JO {id:Nat} (hx:exitTo id k=none) (hr:(Instr.endRound l (some (.exit id))).run P w=.ok v w'):step P (lone (mkF fn tmps (.code (.exit id) :: k) ds .normal (some l)) (c :: cs) w)=.next (lone (c.finish v) cs w'):=
 step_lone_go (by simp [stepG,stepG.exec,mkF,hx,Sem.runT_eq,hr,doReturn])
end

section
variable {P:Program} {lo base:Nat}
theorem Qx:∀ {ps:List Tmp} {vs:List Value} {T T':Tr Value},Xf T ps vs=some T'→ps.length=vs.length
 | [],[],_,_,_=>rfl
 | _ :: ps,_ :: vs,T,T',h=>by simp only [Xf] at h;simp [Qx h]
 | [],_ :: _,_,_,h=>by simp [Xf] at h
 | _ :: _,[],_,_,h=>by simp [Xf] at h
theorem J9 {r:Ren} {n:Nat}:∀ {ps:List Tmp} {vs vs':List Value} {T T':Tr Value} {tmps:Array Value},Xf T ps vs=some T'→Xk r n T tmps→(∀ t∈ps,t < n)→LR r vs vs'→
  Xk r n T' ((ps.zip vs').foldl (fun tmps (x:Tmp × Value)=>tmps.setIfInBounds x.1 x.2) tmps)
 | [],[],vs',T,T',tmps,h,hT,_,_=>by simp only [Xf] at h;cases h;simpa using hT
 | t :: ps,v :: vs,vs',T,T',tmps,h,hT,hb,hl=>by
  simp only [Xf] at h
  match vs' with
  | []=>exact absurd hl.1 (by simp)
  | v' :: vs'=>
   have h1:VR r v v':=hl.2 0 v v' rfl rfl
   have h2:LR r vs vs':=⟨by simpa using hl.1,fun i a b x y=>hl.2 (i+1) a b x y⟩
   simp only [List.zip_cons_cons,List.foldl_cons]
   exact J9 h (hT.set t (hb t (by simp)) h1) (fun x hx=>hb x (by simp [hx])) h2
 | [],_ :: _,_,_,_,_,h,_,_,_=>by simp [Xf] at h
 | _ :: _,[],_,_,_,_,h,_,_,_=>by simp [Xf] at h

def yI (P:Program) (lo base:Nat) (r:Ren) (H:Hp) (w:World) (fr0:Frame) (e:En) (H':Hp):Prop:=
 ∀ c rest,∃ r' w',Zr P lo base r H w r' H' w'∧
  match e with
  | .ret v=>∃ v',VR r' v v'∧Steps P (lone fr0 (c :: rest) w) (lone (c.finish v') rest w')
  | .pan v=>∃ v',VR r' v v'∧Steps P (lone fr0 (c :: rest) w) (lone (c.raise [{ v:=v',recovered:=false }]) rest w')

theorem KS {C:CallF} (hC:WH P C) (hA:Xo C) (hm:P.follows .mixedOrders=true) (hN:NoCount P) {D:Target→List Value→Hp→Par→Option (En × Hp × Par)} (hD:yq P lo D) {m:Nat} {f:FuncId} {args:List Value} {H:Hp} {e:En} {H':Hp} {p':Par}
  (h:Xg P lo C D m f args H none=some (e,H',p')) (hlo:lo≤H.next) {r:Ren} {w:World} (hrel:Rel P r base H w) {args':Array Value} (hargs:LR r args args'.toList) :
  (callFunc f args').run P w=.ok (.enter f args') w∧yI P lo base r H w (Frame.enter P f args' .normal) e H':=by
 obtain ⟨⟨fn,b,h1,h2⟩,_⟩:=KJ hC hA hm hD h hlo hrel hargs (kind:=.normal) (K:=fun _=>[]) (.inl ⟨rfl,fun _=>rfl⟩) (pc:=none) rfl (fun _=>rfl)
 refine ⟨Wu hN h1 h2 _ _,fun c rest=>?_⟩
 obtain ⟨_,r',w',pc',fr,q1,q2,q3,q4,q5,q6⟩:=KJ hC hA hm hD h hlo hrel hargs (kind:=.normal) (K:=fun _=>c :: rest) (.inl ⟨rfl,fun _=>rfl⟩) (pc:=none) rfl (fun _=>rfl)
 refine ⟨r',w',q1,?_⟩
 cases e with
 | ret v=>
  obtain ⟨v',hv,⟨a,b',d⟩⟩:=q5
  exact ⟨v',hv,q6.trans (Steps.one (step_leave_returned ⟨a,b',q4,d⟩))⟩
 | pan v=>
  obtain ⟨v',hv,hg⟩:=q5
  exact ⟨v',hv,q6.trans (Steps.one (step_leave_panicked hg))⟩
end
end Go.Ax

namespace Go.Ax
open Go Go.RowKit

section
variable {P:Program} {lo base:Nat}
theorem yz {kn:Kn} {n m l:Nat} {cap:Array Value} {args:List Value} {H:Hp} {e:En} {H':Hp} {p':Par} (hC:WH P (Yh P kn m n)) (hA:Xo (Yh P kn m n)) (hm:P.follows .mixedOrders=true)
  (h:Yi P kn m (n+1) lo (.fn (.yield l) cap) args H none=some (e,H',p')) (hlo:lo≤H.next) {r:Ren} {w:World} (hrel:Rel P r base H w) {loc:Loc} (hloc:r l=some loc) {args':Array Value} (hargs:LR r args args'.toList) :
  ∃ f tm asg body,(Instr.yield loc.blk args').run P w=.ok (.round loc.blk f tm asg body) w∧yI P lo base r H w (Frame.round loc.blk f tm asg body .normal) e H':=by
 simp only [Yi] at h
 split at h<;>first | (cases h;done) | skip
 rename_i pe fn n0 T params asg body df _ hget
 split at h<;>first | (cases h;done) | skip
 rename_i T' hst
 obtain ⟨hb0,h1⟩:=Zc h
 clear h
 have hb:=Nat.le_of_ble_eq_true hb0
 clear hb0
 obtain ⟨hck,h⟩:=Zc h1
 clear h1
 simp only [Bool.and_eq_true,List.all_eq_true] at hck
 obtain ⟨R,c1,c2,c3,c4,c5,c6,c7,c8,l9,c9,c10⟩:=hrel.cont _ _ _ hloc hget
 subst c3 c4 c6 c7 c8
 have hT:=J9 hst c5 (fun t ht=>by have:=hck.2 t ht;simpa [Nat.blt_eq] using this) hargs
 have hsz:args'.size=R.params.size:=by
  have a:=Qx hst
  have b:=hargs.1
  simp at a b
  omega
 have htm:(R.params.zip args').foldl (fun tmps (t,a)=>tmps.setIfInBounds t a) R.tmps=(R.params.toList.zip args'.toList).foldl (fun tmps (x:Tmp × Value)=>tmps.setIfInBounds x.1 x.2) R.tmps:=by
  rw [← Array.foldl_toList,Array.toList_zip]
 refine ⟨R.fn,_,R.assign,R.body,run_yield c1 hsz,?_⟩
 rw [htm]
 generalize (R.params.toList.zip args'.toList).foldl (fun tmps (x:Tmp × Value)=>tmps.setIfInBounds x.1 x.2) R.tmps=tm at hT
 intro c rest
 split at h<;>first | (cases h;done) | skip
 rename_i A H1 hrc
 obtain ⟨r1,w1,tm1,ds1,pc1,hp1,hF1,hS1,hpp1,hArr1,_⟩:=(KM (kind:=.normal) (rd:=some loc.blk) (K:=fun _=>c :: rest) hC hA hm (.inl ⟨rfl,fun _=>rfl⟩) m).1 R.assign [.beginRound,.code R.body] r w H _ tm [] none none _ _ _ _ hrc hlo hrel
  ⟨hT,.nil,⟨loc,hloc,rfl⟩⟩ rfl (fun _=>rfl)
 have hArr1:Steps P (lone (Frame.round loc.blk R.fn tm R.assign R.body .normal) (c :: rest) w) (lone (mkF R.fn tm1 [.beginRound,.code R.body] ds1 .normal (some loc.blk)) (c :: rest) w1):=hArr1
 have hfn1:A.fn=R.fn:=hS1.fn
 split at h<;>first | (cases h;done) | skip
 rename_i pe' fn' n' T2 ps' as_' bo' df' hget1
 have hloc1:=hp1.le _ _ hloc
 obtain ⟨R1,d1,d2,d3,d4,d5,d6,d7,d8,l9',d9,d10⟩:=hp1.rel.cont _ _ _ hloc1 hget1
 have hbeg:=run_beginRound (P:=P) d1 d2
 have hlt1:=(hp1.rel.at hloc1 hget1 rfl).2
 have hp2:=Zr.change (lo:=lo) hp1.rel hloc1 ⟨_,hget1,by simp,rfl⟩ hb (o:=.lp .busy pe' fn' n' T2 ps' as_' bo' df') (w':=w1.putObj loc.blk (.loop { R1 with state:=.busy })) World.putObj_size (fun k hk=>World.putObj_heap_other hk) ⟨rfl,rfl,rfl⟩
  ⟨{ R1 with state:=.busy },World.putObj_heap_same hlt1,rfl,d3,d4,d5,d6,d7,d8,l9',d9,d10⟩
 have hlo1:lo≤H1.next:=Nat.le_trans hlo hp1.next
 split at h<;>first | (cases h;done) | skip
 rename_i e3 A3 H3 p3 hrb
 obtain ⟨r3,w3,tm3,ds3,pc3,hp3,hF3,hS3,_,hArr3,_⟩:=(KM (kind:=.normal) (rd:=some loc.blk) (K:=fun _=>c :: rest) hC hA hm (.inl ⟨rfl,fun _=>rfl⟩) m).1 R.body [] r1 _ { H1 with t:=H1.t.set l (.lp .busy pe' fn' n' T2 ps' as_' bo' df') } A tm1 ds1 none none _ _ _ _ hrb hlo1 hp2.rel hF1 rfl (fun _=>rfl)
 have hp13:=(hp1.trans hlo hp2).trans hlo hp3
 have hloc3:=hp3.le _ _ hloc1
 have hM:Steps P (lone (Frame.round loc.blk R.fn tm R.assign R.body .normal) (c :: rest) w) (lone (mkF A.fn tm1 [.code R.body] ds1 .normal (some loc.blk)) (c :: rest) (w1.putObj loc.blk (.loop { R1 with state:=.busy }))):=by
  rw [hfn1]
  exact hArr1.trans (Steps.one (JL hbeg))
 split at h<;>first | (cases h;done) | skip
 rename_i _ pe3 a b c' d e' g h' hdf hget3
 obtain ⟨R3,q1,q2,q3,q4,q5,q6,q7,q8,l9'',q9,q10⟩:=hp3.rel.cont _ _ _ hloc3 hget3
 have hlt3:=(hp3.rel.at hloc3 hget3 rfl).2
 have hds:ds3=[]:=by
  have:=hF3.D
  rw [hdf] at this
  cases this
  rfl
 subst hds
 have put:∀ (st:LoopState) (pe:Option Code),Zr P lo base r H w r3 { H3 with t:=H3.t.set l (.lp st pe a b c' d e' g h') } (w3.putObj loc.blk (.loop { R3 with state:=st,pending:=pe })):=fun st pe=>
  hp13.trans hlo (Zr.change (lo:=lo) hp3.rel hloc3 ⟨_,hget3,by simp,rfl⟩ hb (o:=.lp st pe a b c' d e' g h') (w':=w3.putObj loc.blk (.loop { R3 with state:=st,pending:=pe })) World.putObj_size (fun k hk=>World.putObj_heap_other hk) ⟨rfl,rfl,rfl⟩
   ⟨{ R3 with state:=st,pending:=pe },World.putObj_heap_same hlt3,rfl,rfl,q4,q5,q6,q7,q8,l9'',q9,q10⟩)
 split at h<;>first | (cases h;done) | skip
 ·cases h
  exact ⟨r3,_,put .ready none,_,.bool true,(hM.trans hArr3).trans (Steps.one (KQ (run_endRound none q1)))⟩
 ·cases h
  obtain ⟨kx,hs⟩:=hArr3
  exact ⟨r3,_,put .done (some .ret),_,.bool false,(hM.trans hs).trans (Steps.one (KR (run_endRound (some .ret) q1)))⟩
 ·cases h
  rename_i id
  obtain ⟨kx,hx,hs⟩:=hArr3
  exact ⟨r3,_,put .done (some (.exit id)),_,.bool false,(hM.trans hs).trans (Steps.one (JO (hx.trans rfl) (run_endRound (some (.exit id)) q1)))⟩
 ·cases h
  obtain ⟨todo,v',hv,hs⟩:=hArr3
  rw [hfn1] at hs hM
  have hfn:=hck.1
  obtain ⟨fnX,hX⟩:=Option.isSome_iff_exists.1 hfn
  exact ⟨r3,w3,hp13,v',hv,(hM.trans hs).trans (Steps.one (step_leave_panicked ⟨rfl,rfl,fnX,hX⟩))⟩
end
end Go.Ax

namespace Go.Ax
open Go Go.RowKit

section
variable {P:Program}
theorem Zr.of_below {lo base:Nat} {r:Ren} {H:Hp} {w w':World} (h:Rel P r base H w) (hb:Below w.heap.size w w'):Zr P lo base r H w r H w' where
 le:=.refl r
 rel:={
  dom:=fun b loc e=>⟨(h.dom b loc e).1,(h.dom b loc e).2.more hb.size⟩
  cont:=fun b loc o e1 e2=>by
   have hdm:=(h.dom b loc e1).2
   rw [e2] at hdm
   exact (h.cont b loc o e1 e2).keep hdm h.top (hb.block _)
  inj:=h.inj
  top:=Nat.le_trans h.top hb.size }
 next:=Nat.le_refl _
 place:=fun _ _ e=>.inl e
 keep:=fun k hk _=>hb.block k hk
 old:=fun _ _=>rfl
 str:=⟨hb.os,hb.tape,hb.output,hb.size⟩

def KT (P:Program) (kn:Kn):Prop:=∀ f b,kn.b f=some b→(∃ fn c,P.funcs[f]? = some fn∧fn.body=some c)∧∀ w,Calls P f #[] w fun e w'=>e=.returned (.bool b)∧Below w.heap.size w w'
def Zaz (P:Program) (lo:Nat) (f:FuncId) (args:List Value) (H:Hp) (v:Value) (H':Hp):Prop:=
 (∃ fn c,P.funcs[f]? = some fn∧fn.body=some c)∧∀ (r:Ren) (base:Nat) (w:World) (args':Array Value),Rel P r base H w→LR r args args'.toList→lo≤H.next→yI P lo base r H w (Frame.enter P f args' .normal) (.ret v) H'
def ZcX (P:Program) (kn:Kn):Prop:=∀ f lo args H v H',XK f=true→kn.s f lo args H=some (v,H')→ZcR lo H H'→Zaz P lo f args H v H'
structure Known (P:Program) (kn:Kn):Prop where
 b:KT P kn
 s:ZcX P kn
theorem KT.nothing (P:Program):KT P ⟨fun _=>none,fun _ _ _ _=>none⟩:=fun _ _ h=>by cases h
theorem Zr.low {lo lo' base:Nat} {r r':Ren} {H H':Hp} {w w':World} (h:Zr P lo base r H w r' H' w') (hl:lo'≤lo):Zr P lo' base r H w r' H' w' where
 le:=h.le
 rel:=h.rel
 next:=h.next
 place:=fun b loc e=>(h.place b loc e).imp id fun ⟨x,y⟩=>⟨x,y.imp id fun ⟨b0,l0,a,c,d⟩=>⟨b0,l0,a,c,Nat.le_trans hl d⟩⟩
 keep:=fun k hk q=>h.keep k hk fun b loc e1 e2=>Nat.lt_of_lt_of_le (q b loc e1 e2) hl
 old:=fun b hb=>h.old b (Nat.lt_of_lt_of_le hb hl)
 str:=h.str

theorem Qw {r:Ren} {v:Value} {vs:List Value} {as_:Array Value} (h:LR r (v :: vs) as_.toList):∃ v' l',as_=(v' :: l').toArray∧VR r v v'∧LR r vs l':=by
 obtain ⟨l⟩:=as_
 match l with
 | []=>exact absurd h.1 (by simp)
 | v' :: l'=>exact ⟨v',l',rfl,h.2 0 v v' rfl rfl,⟨by simpa using h.1,fun i a b x y=>h.2 (i+1) a b x y⟩⟩

theorem Ki {C:CallF} (hC:WH P C) (hA:Xo C) (hm:P.follows .mixedOrders=true) (hN:NoCount P) {lo base:Nat} {D:Target→List Value→Hp→Par→Option (En × Hp × Par)} (hD:yq P lo D) {m:Nat} {t:TypeId} {v:Value} {name:String} {f:FuncId} {x:Value} {rest:List Value} {H:Hp} {e:En} {H':Hp} {p':Par}
  (hv:UD P t v name=some (f,x)) (h:Xg P lo C D m f (x :: rest) H none=some (e,H',p')) (hlo:lo≤H.next) {r:Ren} {w:World} (hrel:Rel P r base H w) {v':Value} {l':List Value} (h1:VR r v v') (h2:LR r rest l') :
  (callMethod (.iface t v') name l'.toArray).run P w=.ok (.enter f (v' :: l').toArray) w∧yI P lo base r H w (Frame.enter P f (v' :: l').toArray .normal) e H':=by
 obtain ⟨rfl,hr⟩:=ZaW hv
 obtain ⟨a,b⟩:=KS hC hA hm hN hD h hlo hrel (args':=(v' :: l').toArray) (by simpa using LR.cons h1 h2)
 refine ⟨?_,b⟩
 obtain ⟨k,hk⟩:∃ k,P.types.size+Made.depth=k+1:=by
  have:0 < Made.depth:=by decide
  exact ⟨P.types.size+Made.depth - 1,by omega⟩
 have:(#[v'] ++ l'.toArray:Array Value)=(v' :: l').toArray:=by simp
 simp only [callMethod,Sem.run_bind,run_program,Result.andThen_ok,hk,hr,this]
 exact a

theorem VK (hm:P.follows .mixedOrders=true) (hN:NoCount P) {kn:Kn} (hkn:Known P kn) (m:Nat):∀ n,WH P (Yh P kn m n)∧∀ lo,yq P lo (fun t args H p=>Yi P kn m n lo t args H p):=by
 intro n
 have known:∀ (lo:Nat) (t:Target) (args:List Value) (H:Hp) (e:En) (H':Hp),(∃ b,UE kn t args=some b∧e=.ret (.bool b)∧H'=H)→lo≤H.next→∀ (r:Ren) (base:Nat) (w:World) (t':Target) (args':Array Value),Rel P r base H w→TgR r t t'→LR r args args'.toList→
   ∃ nx fr0,(invoke t' args').run P w=.ok nx w∧XS P .normal nx=some fr0∧yI P lo base r H w fr0 e H':=by
  intro lo t args H e H' ⟨b,hk,he,hH⟩ hlo r base w t' args' hrel ht ha
  subst he hH
  unfold UE at hk
  split at hk<;>first | (cases hk;done) | skip
  rename_i f cap
  obtain ⟨hc,hk⟩:=Zc hk
  have hc:=Nat.eq_of_beq_eq_true hc
  obtain ⟨⟨fn,c,h1,h2⟩,hcalls⟩:=hkn.b f b hk
  obtain ⟨f',cap',rfl,hf,hcap⟩:=ht
  cases hf
  have e1:args' = #[]:=by
   have:=ha.1
   simp at this
   exact Array.eq_empty_of_size_eq_zero (by simpa using this.symm)
  have e2:cap' = #[]:=by
   have:=hcap.1
   simp at this
   exact Array.eq_empty_of_size_eq_zero (by omega)
  subst e1 e2
  refine ⟨.enter f #[],_,Wu hN h1 h2 _ _,rfl,fun c0 rest=>?_⟩
  obtain ⟨e',w',fr,⟨rfl,hb⟩,hs,_,hl⟩:=hcalls w (c0 :: rest)
  exact ⟨r,w',Zr.of_below hrel hb,.bool b,.bool b,Steps.trans hs (Steps.one (step_leave_returned hl))⟩
 have spec:∀ (lo:Nat) (t:Target) (args:List Value) (H:Hp) (e:En) (H':Hp),(∃ v,UA kn lo t args H=some (v,H')∧e=.ret v)→lo≤H.next→∀ (r:Ren) (base:Nat) (w:World) (t':Target) (args':Array Value),Rel P r base H w→TgR r t t'→LR r args args'.toList→
   ∃ nx fr0,(invoke t' args').run P w=.ok nx w∧XS P .normal nx=some fr0∧yI P lo base r H w fr0 e H':=by
  intro lo t args H e H' ⟨v,hk,he⟩ hlo r base w t' args' hrel ht ha
  subst he
  obtain ⟨f,cap,rfl,hs,hk,ho⟩:=QQ hk
  obtain ⟨⟨fn,c,h1,h2⟩,hb⟩:=hkn.s f lo _ H v H' hs hk ho
  obtain ⟨f',cap',rfl,hf,hcap⟩:=ht
  cases hf
  refine ⟨.enter f (args' ++ cap'),_,Wu hN h1 h2 _ _,rfl,fun c0 rest=>?_⟩
  obtain ⟨r',w',hp,v',hv,hst⟩:=hb r base w (args' ++ cap') hrel (by simpa using LR.append ha hcap) hlo c0 rest
  exact ⟨r',w',hp,v',hv,hst⟩
 induction n with
 | zero=>
  refine ⟨fun lo t args H e H' h hlo r base w t' args' hrel ht ha=>?_,fun lo f cap args H p e H' p' h=>?_⟩
  ·rcases V1 h with hk | hk | ⟨p',h⟩
   rotate_left
   ·obtain ⟨nx,fr0,a,b,c⟩:=spec lo t args H e H' hk hlo r base w t' args' hrel ht ha
    refine ⟨nx,fr0,a,b,fun c0 rest=>?_⟩
    have:=c c0 rest
    cases e<;>exact this
   rotate_left
   ·obtain ⟨nx,fr0,a,b,c⟩:=known lo t args H e H' hk hlo r base w t' args' hrel ht ha
    refine ⟨nx,fr0,a,b,fun c0 rest=>?_⟩
    have:=c c0 rest
    cases e<;>exact this
   ·simp [Yi] at h
  ·simp [Yi] at h
 | succ n ih=>
  obtain ⟨hC,hD⟩:=ih
  have hA:Xo (Yh P kn m n):=(WY P kn m n).2
  constructor
  ·intro lo t args H e H' h hlo r base w t' args' hrel ht ha
   suffices hs:∃ nx fr0,(invoke t' args').run P w=.ok nx w∧XS P .normal nx=some fr0∧yI P lo base r H w fr0 e H' by
    obtain ⟨nx,fr0,a,b,c⟩:=hs
    refine ⟨nx,fr0,a,b,fun c0 rest=>?_⟩
    have:=c c0 rest
    cases e<;>exact this
   rcases V1 h with hk | hk | ⟨p',h⟩
   ·exact known lo t args H e H' hk hlo r base w t' args' hrel ht ha
   ·exact spec lo t args H e H' hk hlo r base w t' args' hrel ht ha
   cases t with
   | fn f cap=>
    obtain ⟨f',cap',rfl,hf,hcap⟩:=ht
    cases hf with
    | func g=>
     simp only [Yi] at h
     obtain ⟨a,b⟩:=KS hC hA hm hN (hD lo) h hlo hrel (args':=args' ++ cap') (by simpa using LR.append ha hcap)
     exact ⟨_,_,a,rfl,b⟩
    | method name=>
     simp only [Yi] at h
     split at h<;>first | (cases h;done) | skip
     split at h<;>first | (cases h;done) | skip
     rename_i f x hv
     obtain ⟨u',l',rfl,q1,q2⟩:=Qw ha
     obtain ⟨v',rfl,q3⟩:=QK q1
     obtain ⟨a,b⟩:=Ki hC hA hm hN (hD lo) hv h hlo hrel q3 q2
     refine ⟨.enter f _,_,?_,rfl,b⟩
     have ext:∀ y:Value,((y :: l').toArray.extract 1 (y :: l').toArray.size)=l'.toArray:=fun y=>by simp
     simp only [invoke,ext]
     simpa using a
    | methodOf ty name=>
     simp only [Yi] at h
     split at h<;>first | (cases h;done) | skip
     split at h<;>first | (cases h;done) | skip
     rename_i dsc hni hu _ _ f x hv
     obtain ⟨v',l',rfl,q1,q2⟩:=Qw ha
     obtain ⟨a,b⟩:=Ki hC hA hm hN (hD lo) hv h hlo hrel q1 q2
     refine ⟨.enter f _,_,?_,rfl,b⟩
     have:((v' :: l').toArray.extract 1 (v' :: l').toArray.size)=l'.toArray:=by simp
     simp only [invoke,this]
     cases dsc<;>first | (exact absurd rfl (hni _)) | simpa [UW hu] using a
    | yield hl=>
     obtain ⟨f,tm,asg,body,a,b⟩:=yz hC hA hm h hlo hrel hl ha
     exact ⟨_,_,a,rfl,b⟩
   | _=>simp [Yi] at h
  ·intro lo f cap args H p e H' p' h hlo r base w cap' args' pc c cs hrel hcap ha hp
   simp only [Yi] at h
   obtain ⟨⟨fn,b,h1,h2⟩,r',w',pc',fr,q1,q2,q3,q4,q5,q6⟩:=KJ hC hA hm (hD lo) h hlo hrel (args':=args' ++ cap') (by simpa using LR.append ha hcap) (kind:=.deferred) (K:=fun p=>{ c with mode:=Xu p } :: cs) (.inr ⟨rfl,c,cs,fun _=>rfl⟩) hp (fun q=>by cases q)
   exact ⟨args' ++ cap',Wu hN h1 h2 _ _,r',w',pc',fr,q1,q2,q4,q5,q6⟩

end
end Go.Ax

/-! The evaluator for all inputs,1: code with what the types tell worked out ('low..'),and what it asks ('w..'). -/
namespace Go.Ax
open Go Go.RowKit
noncomputable section

abbrev Rg:=List (Nat × Value)
def lk:Rg→Nat→Option Value
 | [],_=>none
 | (i,v) :: r,j=>bif Nat.beq i j then some v else lk r j
def evS (S:Rg):Operand→Option Value
 | .tmp t=>lk S t
 | .const v=>bif flat v then some v else none
 | .func f=>some (.func (.func f) #[] #[])
 | .global _=>none
def jx (S:Rg):List Operand→Option (List Value)
 | []=>some []
 | x :: r=>match evS S x with | none=>none | some v=>match jx S r with | none=>none | some vs=>some (v :: vs)
def trS:Rg→Tr Value
 | []=>.nil
 | (i,v) :: r=>(trS r).set i v
def frS (n:Nat) (S:Rg):Fr:={ fn:=0,n:=n,T:=trS S,defers:=[],round:=none }

inductive RI where
 | mov (x:Operand)
 | nilc (x:Operand)
 | addo (x:Operand) (off:Nat)
 | idx (x i:Operand) (size:Nat)
 | idxa (x i:Operand) (len size:Nat)
 | ld (x:Operand) (n:Nat)
 | lda (x:Operand) (n:Nat)
 | st (x y:Operand)
 | sta (x y:Operand) (n:Nat)
 | ari (op:BinOp) (x y:Operand)
 | cmp (op:BinOp) (x y:Operand)
 | cmpb (op:BinOp) (x y:Operand)
 | len (x:Operand)
 | mm (small:Bool) (x y:Operand)
 | call (c:Call) (ord:Bool)
 | box (e:TypeId) (x:Operand)
 | alc (e:TypeId) (z:List Value)
 | pur (o:Oper)
 | mem (o:Oper)
 | mst (o:Oper)
 | dead
 | rng (x:Operand)
 | nxt (x:Operand)
 | ent (x:Operand)
structure RO where
 dst:Option Nat
 guard:Option (Nat × Bool)
 ri:RI
inductive RC where
 | skip
 | exit (id:Nat)
 | ret
 | seq (x y:RC)
 | cond (o:Operand) (x y:RC)
 | block (id:Nat) (b:RC)
 | scp (b:RC)
 | reg (ops:List RO)
 | dreg (ops:List RO) (masks:List Nat)
 | other (c:Code)

def Kf (P:Program) (t:TypeId):Bool:=match P.underlying t with | some (.int .i64)=>true | _=>false
def Zcl:BinOp→Bool
 | .add | .sub | .mul | .quo | .rem=>true
 | _=>false
def zC:BinOp→Bool
 | .eql | .neq | .lss | .leq | .gtr | .geq=>true
 | _=>false

def YZ (o : Oper) : Oper := { o with pos := "", after := #[], guard := none }
def ye (ops:List Oper):Bool:=ops.any fun o=>o.guard.isSome
def ZdZ (P:Program) (op:BinOp) (t:TypeId):Bool:=match op,P.underlying t with | .eql,some (.pointer _)=>true | _,_=>false
def X2 (P:Program) (ops:List Oper) (ord:Bool) (o:Oper):Option RI:=
 match o.op with
 | .move x | .assign x=>some (.mov x)
 | .nilCheck x=>some (.nilc x)
 | .fieldAddr s x f=>match P.underlying s with
  | some (.struct fs)=>match fs[f]? with
   | some fd=>match P.info? fd.type with
    | some i=>bif Nat.beq i.size 0 then none else some (.addo x fd.offset)
    | none=>none
   | none=>none
  | _=>none
 | .indexAddr t x i=>match P.underlying t with
  | some (.slice e)=>match P.info? e with | some inf=>some (.idx x i inf.size) | none=>none
  | some (.array len e)=>match P.info? e with | some inf=>some (.idxa x i len inf.size) | none=>none
  | _=>none
 | .load t x=>match P.info? t,XO P t with
  | some i,some true=>some (.lda x i.size)
  | some _,some false=>some (.ld x 1)
  | _,_=>none
 | .store t x y=>match P.info? t with
  | some i=>bif Nat.beq i.size 1 then (match XO P t with | some false=>some (.st x y) | _=>some (.sta x y i.size)) else some (.sta x y i.size)
  | none=>none
 | .binOp op t x y _=>bif Kf P t then (bif Zcl op then some (.ari op x y) else bif zC op then (bif ye ops then some (.cmpb op x y) else some (.cmp op x y)) else some (.pur (YZ o))) else bif ZdZ P op t then some (.mem (YZ o)) else some (.pur (YZ o))
 | .box e x=>some (.box e x)
 | .alloc e=>match Ym P e with | some z=>some (.alc e z.cells.toList) | none=>none
 | .call c=>match c.callee with
  | .builtin .len=>match c.argTypes[0]? with
   | some t=>match P.underlying t,c.args.toList with
    | some (.slice _),[x]=>some (.len x)
    | _,_=>some (.pur (YZ o))
   | none=>none
  | .builtin .min=>match c.args.toList with | [x,y]=>bif Kf P o.type then some (.mm true x y) else some (.pur (YZ o)) | _=>some (.pur (YZ o))
  | .builtin .max=>match c.args.toList with | [x,y]=>bif Kf P o.type then some (.mm false x y) else some (.pur (YZ o)) | _=>some (.pur (YZ o))
  | .builtin _=>some (.mem (YZ o))
  | _=>some (.call c ord)
 | .buildSlice .. | .makeSlice ..=>some (.mem (YZ o))
 | .panic _=>some .dead
 | .slice t ..=>match P.underlying t with | some .string=>some (.pur (YZ o)) | _=>some (.mem (YZ o))
 | .pick .. | .build .. | .unOp .. | .convert .. | .makeInterface .. | .makeFunc .. | .field .. | .index .. | .extract .. | .typeAssert ..=>some (.pur (YZ o))
 | .range t x=>match P.underlying t with | some (.map _ _)=>some (.rng x) | _=>none
 | .next x false=>some (.nxt x)
 | .entry x=>some (.ent x)
 | .makeMap .. | .lookup .. | .mapEntry ..=>some (.mem (YZ o))
 | .mapUpdate .. | .insert .. | .entryStore ..=>some (.mst (YZ o))
 | _=>none

def WM (P:Program) (n:Nat) (ops:List Oper) (ord:Bool) (o:Oper):Option RO:=
 match X2 P ops ord o with
 | none=>none
 | some ri=>
  bif (match o.dst with | none=>true | some d=>Nat.ble (d+1) n) then
   match o.guard with
   | none=>some { dst:=o.dst,guard:=none,ri }
   | some (j,w)=>match ops[j]? with
    | some g=>match g.dst with
     | some d=>some { dst:=o.dst,guard:=some (d,w),ri }
     | none=>none
    | none=>none
  else none
def YS (P:Program) (n:Nat) (ops:List Oper) (ord:Nat→Bool):List Oper→Nat→Option (List RO)
 | [],_=>some []
 | o :: r,i=>match WM P n ops (ord i) o with
  | none=>none
  | some x=>match YS P n ops ord r (i+1) with
   | none=>none
   | some l=>some (x :: l)
def low (P:Program) (n:Nat):Code→Option RC
 | .skip | .label _=>some .skip
 | .exit id=>some (.exit id)
 | .ret=>some .ret
 | .seq x y=>match low P n x with | none=>none | some a=>match low P n y with | none=>none | some b=>some (.seq a b)
 | .cond o x y=>match low P n x with | none=>none | some a=>match low P n y with | none=>none | some b=>some (.cond o a b)
 | .block id b=>match low P n b with | none=>none | some a=>some (.block id a)
 | .region _ ops draw=>
  bif draw then
   bif Qk ops then
    let anc:=U8 ops.toList
    match YS P n ops.toList (fun i=>Wj ops.toList anc i) ops.toList 0 with
    | none=>none
    | some l=>some (.dreg l (X8 ops.toList 0 []))
   else none
  else match YS P n ops.toList (fun _=>true) ops.toList 0 with | none=>none | some l=>some (.reg l)
 | .scope b=>match low P n b with | none=>none | some a=>some (.scp a)
 | .loop b=>some (.other (.loop b))
 | .rangeFunc f ps a b=>some (.other (.rangeFunc f ps a b))
 | _=>none

def VX:Code→List Nat→Code
 | .seq a _,0 :: r=>VX a r
 | .seq _ b,_ :: r=>VX b r
 | .cond _ a _,0 :: r=>VX a r
 | .cond _ _ b,_ :: r=>VX b r
 | .block _ b,_ :: r=>VX b r
 | .scope b,_ :: r=>VX b r
 | .loop b,_ :: r=>VX b r
 | .rangeFunc _ _ a _,0 :: r=>VX a r
 | .rangeFunc _ _ _ b,_ :: r=>VX b r
 | c,_=>c
def at_ (f:Func) (p:List Nat):Code:=VX (f.body.getD .skip) p

def Hp.up (H:Hp) (b:Nat) (o:Ob):Hp:={ H with t:=H.t.set b o }
def InR (x:Int):Prop:=-9223372036854775808≤x∧x < 9223372036854775808

def ZJ (P:Program) (kn:Kn) (lo:Nat) (t:Target) (args:List Value) (H:Hp) (v:Value) (H':Hp):Prop:=
 ∃ N,∀ m k,N≤m→N≤k→Yh P kn m k lo t args H=some (.ret v,H')

def ZG (S:Rg) (T:Tr Value):Prop:=∀ j v,lk S j=some v→T.get j=some v

def Tri (P:Program) (kn:Kn) (lo n:Nat) (rd:Bool) (c:Code) (S:Rg) (H:Hp) (K:Exit→Rg→Hp→Prop):Prop:=
 ∀ A:Fr,A.n=n→A.round.isSome=rd→ZG S A.T→
  ∃ e S' H' T',K e S' H'∧ZG S' T'∧∃ N,∀ f m k,N≤f→N≤m→N≤k→Zj P lo (Yh P kn m k) f c A H none=some (e,{ A with T:=T' },H',none)

def Xp (S:Rg) (c:Call):Option (Target × List Value):=
 match jx S c.args.toList with
 | none=>none
 | some vs=>
  match c.callee with
  | .builtin _=>none
  | .invoke r name=>match evS S r with | some v=>some (.fn (.method name) #[],v :: vs) | none=>none
  | .value f=>match evS S f with
   | some (.func fn first cap)=>some (.fn fn cap,first.toList ++ vs)
   | _=>none

def We (S:Rg):List Operand→Bool
 | []=>true
 | x :: r=>(match evS S x with | some _=>true | none=>false) && We S r

section
variable (P:Program) (kn:Kn) (lo n:Nat) (rd:Bool)
def wRI (S:Rg) (H:Hp) (K:Value→Hp→Kd→Prop):RI→Prop
 | .mov x=>match evS S x with | some v=>K v H .pure | none=>False
 | .nilc x=>match evS S x with
  | some (.pointer (some a))=>K (.pointer (some a)) H .pure
  | some (.iface t v)=>K (.iface t v) H .pure
  | some (.func (.func f) a b)=>K (.func (.func f) a b) H .pure
  | some (.func (.yield f) a b)=>K (.func (.yield f) a b) H .pure
  | _=>False
 | .addo x off=>match evS S x with
  | some (.pointer (some ⟨b,o,none⟩))=>K (.pointer (some ⟨b,o+off,none⟩)) H .pure
  | _=>False
 | .idx x i size=>match evS S x,evS S i with
  | some (.slice (some ⟨b,o,none⟩) len _),some (.int _ j)=>∃ k:Nat,j=(k:Int)∧k < len∧K (.pointer (some ⟨b,o+k * size,none⟩)) H .pure
  | _,_=>False
 | .idxa x i len size=>match evS S x,evS S i with
  | some (.pointer (some ⟨b,o,none⟩)),some (.int _ j)=>∃ k:Nat,j=(k:Int)∧k < len∧K (.pointer (some ⟨b,o+k * size,none⟩)) H .pure
  | _,_=>False
 | .ld x _=>match evS S x with
  | some (.pointer (some ⟨b,o,none⟩))=>∃ cs v,cellsOf H b=some cs∧cs[o]? = some v∧K v H (.read b)
  | _=>False
 | .lda x m=>match evS S x with
  | some (.pointer (some ⟨b,o,none⟩))=>∃ cs r,cellsOf H b=some cs∧row m cs o=some r∧K (.agg r.toArray) H (.read b)
  | _=>False
 | .st x y=>match evS S x,evS S y with
  | some (.pointer (some ⟨b,o,none⟩)),some v=>∃ cs e l,H.t.get b=some (.cells cs e l)∧lo≤b∧v.cells.toList=[v]∧one v=true∧o < cs.length∧∀ H1,H.up b (.cells (cs.set o v) e l)=H1→K undef H1 (.store b)
  | _,_=>False
 | .sta x y m=>match evS S x,evS S y with
  | some (.pointer (some ⟨b,o,none⟩)),some v=>∃ cs e l,H.t.get b=some (.cells cs e l)∧lo≤b∧v.cells.toList.length=m∧v.cells.toList.all one=true∧o+m≤cs.length∧∀ H1,H.up b (.cells (Yk cs o v.cells.toList) e l)=H1→K undef H1 (.store b)
  | _,_=>False
 | .ari op x y=>match op,evS S x,evS S y with
  | .add,some (.int .i64 a),some (.int .i64 b)=>InR (a+b)∧K (.int .i64 (a+b)) H .pure
  | .sub,some (.int .i64 a),some (.int .i64 b)=>InR (a - b)∧K (.int .i64 (a - b)) H .pure
  | .mul,some (.int .i64 a),some (.int .i64 b)=>InR (a * b)∧K (.int .i64 (a * b)) H .pure
  | .quo,some (.int .i64 a),some (.int .i64 b)=>0≤a∧0 < b∧InR a∧K (.int .i64 (a / b)) H .pure
  | .rem,some (.int .i64 a),some (.int .i64 b)=>0≤a∧0 < b∧InR a∧InR b∧K (.int .i64 (a % b)) H .pure
  | _,_,_=>False
 | .cmp op x y=>match op,evS S x,evS S y with
  | .eql,some (.int .i64 a),some (.int .i64 b)=>K (.bool (a == b)) H .pure
  | .neq,some (.int .i64 a),some (.int .i64 b)=>K (.bool (a != b)) H .pure
  | .lss,some (.int .i64 a),some (.int .i64 b)=>K (.bool (decide (a < b))) H .pure
  | .leq,some (.int .i64 a),some (.int .i64 b)=>K (.bool (decide (a≤b))) H .pure
  | .gtr,some (.int .i64 a),some (.int .i64 b)=>K (.bool (decide (a > b))) H .pure
  | .geq,some (.int .i64 a),some (.int .i64 b)=>K (.bool (decide (a ≥ b))) H .pure
  | _,_,_=>False
 | .cmpb op x y=>match op,evS S x,evS S y with
  | .eql,some (.int .i64 a),some (.int .i64 b)=>∀ t,(a == b)=t→K (.bool t) H .pure
  | .neq,some (.int .i64 a),some (.int .i64 b)=>∀ t,(a != b)=t→K (.bool t) H .pure
  | .lss,some (.int .i64 a),some (.int .i64 b)=>∀ t,decide (a < b)=t→K (.bool t) H .pure
  | .leq,some (.int .i64 a),some (.int .i64 b)=>∀ t,decide (a≤b)=t→K (.bool t) H .pure
  | .gtr,some (.int .i64 a),some (.int .i64 b)=>∀ t,decide (a > b)=t→K (.bool t) H .pure
  | .geq,some (.int .i64 a),some (.int .i64 b)=>∀ t,decide (a ≥ b)=t→K (.bool t) H .pure
  | _,_,_=>False
 | .len x=>match evS S x with
  | some (.slice _ m _)=>K (.int .i64 m) H .pure
  | _=>False
 | .mm small x y=>match evS S x,evS S y with
  | some (.int .i64 a),some (.int .i64 b)=>K (.int .i64 (bif small then min a b else max a b)) H .pure
  | _,_=>False
 | .call c ord=>match Xp S c with
  | some (t,vs)=>bif !ord && Wx t then ∃ v H' b,ZJ P kn lo t vs H v H'∧lo≤b∧zj t=some b∧b < H.next∧QE H H' b∧K v H' (.store b)
   else ∃ v H',ZJ P kn (bif ord then lo else H.next) t vs H v H'∧K v H' (bif ord then .full else .heavy)
  | none=>False
 | .box e x=>match evS S x with
  | some v=>∀ H1,H.new (.cells v.cells.toList e false)=H1→K (ptr H.next) H1 .heavy
  | none=>False
 | .alc e z=>∀ H1,H.new (.cells z e false)=H1→K (ptr H.next) H1 .heavy
 | .dead=>False
 | .rng _=>False
 | .nxt _=>False
 | .ent _=>False
 | .mst o=>We S o.op.operands.toList=true∧Zo P (frS n S) o=none∧∃ H' k,Zu P lo (frS n S) H o=some (.skip H',k)∧K undef H' k
 | .pur o=>We S o.op.operands.toList=true∧∃ v,Zo P (frS n S) o=some v∧K v H .pure
 | .mem o=>We S o.op.operands.toList=true∧((∃ v,Zo P (frS n S) o=some v∧K v H .pure)∨
   (Zo P (frS n S) o=none∧∃ v H' k,Zu P lo (frS n S) H o=some (.val v H',k)∧(∀ b,k=.read b→b < H.next)∧K v H' k))

def Zv (S:Rg) (d:Option Nat) (v:Value):Rg:=match d with | none=>S | some d=>(d,v) :: S

def wRO (S:Rg) (H:Hp) (o:RO) (K:Rg→Hp→Kd→Prop):Prop:=
 match o.guard with
 | none=>wRI P kn lo n S H (fun v H' k=>K (Zv S o.dst v) H' k) o.ri
 | some (g,want)=>match lk S g with
  | some (.bool true)=>bif want then wRI P kn lo n S H (fun v H' k=>K (Zv S o.dst v) H' k) o.ri else K (Zv S o.dst undef) H .pure
  | some (.bool false)=>bif want then K (Zv S o.dst undef) H .pure else wRI P kn lo n S H (fun v H' k=>K (Zv S o.dst v) H' k) o.ri
  | some (.tuple _)=>K (Zv S o.dst undef) H .pure
  | _=>False
def Zw:List RO→Rg→Hp→(Rg→Hp→Prop)→Prop
 | [],S,H,K=>K S H
 | o :: r,S,H,K=>wRO P kn lo n S H o fun S' H' _=>Zw r S' H' K

def VH:Kd→Kd→Prop
 | .pure,_ | _,.pure=>False
 | .full,_ | _,.full=>True
 | .store b,.read c | .read c,.store b=>b=c
 | .store _,_ | _,.store _=>True
 | _,_=>False
def V4 (k:Kd):Nat→List Kd→Prop
 | _,[]=>True
 | m,c :: cs=>(bif Nat.beq (Nat.mod m 2) 1 then True else ¬ VH k c)∧V4 k (Nat.div m 2) cs
def Q7:List Kd→List Nat→Prop
 | k :: ks,m :: ms=>V4 k m ks.reverse∧Q7 ks ms
 | _,_=>True
def Zx (masks:List Nat):List RO→List Kd→Rg→Hp→(Rg→Hp→Prop)→Prop
 | [],ks,S,H,K=>(bif ks.all calm then True else Q7 ks masks)∧K S H
 | o :: r,ks,S,H,K=>wRO P kn lo n S H o fun S' H' k=>match k with | .read b=>b < H.next∧Zx masks r (.read b :: ks) S' H' K | k=>Zx masks r (k :: ks) S' H' K

def kdW (o:RO) (H:Hp):Kd→Kd
 | .heavy=>match o.ri with | .alc _ _=>.mk H.next | .box _ _=>.mk H.next | _=>.heavy
 | k=>k
def VP:Kd→Kd→Prop
 | .store b,.mk c | .mk c,.store b=>b=c
 | k,c=>VH k c
def Vd (k:Kd):Nat→List Kd→Prop
 | _,[]=>True
 | m,c :: cs=>(bif Nat.beq (Nat.mod m 2) 1 then True else ¬ VP k c)∧Vd k (Nat.div m 2) cs
def QM:List Kd→List Nat→Prop
 | k :: ks,m :: ms=>Vd k m ks.reverse∧QM ks ms
 | _,_=>True
def WZ (masks:List Nat):List RO→List Kd→Rg→Hp→(Rg→Hp→Prop)→Prop
 | [],ks,S,H,K=>QM ks masks∧K S H
 | o :: r,ks,S,H,K=>wRO P kn lo n S H o fun S' H' k=>match kdW o H k with | .read b=>b < H.next∧WZ masks r (.read b :: ks) S' H' K | k=>WZ masks r (k :: ks) S' H' K

def wC:RC→Rg→Hp→(Exit→Rg→Hp→Prop)→Prop
 | .skip,S,H,K=>K .normal S H
 | .exit id,S,H,K=>K (.exit id) S H
 | .ret,S,H,K=>K .ret S H
 | .seq x y,S,H,K=>wC x S H fun e S' H'=>match e with | .normal=>wC y S' H' K | e=>K e S' H'
 | .cond o x y,S,H,K=>match evS S o with
  | some (.bool b)=>(b=true→wC x S H K)∧(b=false→wC y S H K)
  | _=>False
 | .block id b,S,H,K=>wC b S H fun e S' H'=>match e with | .exit j=>(bif Nat.beq j id then K .normal S' H' else K (.exit j) S' H') | e=>K e S' H'
 | .scp b,S,H,K=>wC b S H K
 | .reg ops,S,H,K=>Zw P kn lo n ops S H fun S' H'=>K .normal S' H'
 | .dreg ops masks,S,H,K=>Zx P kn lo n masks ops [] S H (fun S' H'=>K .normal S' H')∨WG lo H∧WZ P kn lo n masks ops [] S H fun S' H'=>K .normal S' H'
 | .other c,S,H,K=>Tri P kn lo n rd c S H K
end
end
end Go.Ax

/-! The evaluator for all inputs,2: what is asked is enough for one operation. -/
namespace Go.Ax
open Go Go.RowKit

theorem qy:∀ (S:Rg) (j:Nat),(trS S).get j=lk S j
 | [],j=>by simp [trS,Tr.get_nil,lk]
 | (i,v) :: r,j=>by
  simp only [trS,lk,Tr.get_set,qy r j,ZA]
  by_cases h:j=i
  ·subst h;simp
  ·rw [if_neg h,decide_eq_false (fun e=>h e.symm)];rfl
theorem YC (n:Nat) (S:Rg) (x:Operand):ev (frS n S) x=evS S x:=by
 cases x<;>simp [ev,evS,frS,qy]
section
variable {S:Rg} {A:Fr}
theorem ZH (hA:ZG S A.T) {x:Operand} {v:Value} (h:evS S x=some v):ev A x=some v:=by
 cases x with
 | tmp t=>exact hA t v h
 | const c=>exact h
 | func f=>exact h
 | global g=>exact h
theorem ZaO (hA:ZG S A.T):∀ {xs:List Operand} {vs:List Value},jx S xs=some vs→evs A xs=some vs
 | [],vs,h=>h
 | x :: xs,vs,h=>by
  simp only [jx] at h
  cases h1:evS S x with
  | none=>simp [h1] at h
  | some v=>
   cases h2:jx S xs with
   | none=>simp [h1,h2] at h
   | some vs'=>
    simp [h1,h2] at h;subst h
    simp only [evs,ZH hA h1,ZaO hA h2]
theorem JX (hA:ZG S A.T) {c:Call} {p:Target × List Value} (h:Xp S c=some p):Yz A c=some p:=by
 unfold Xp at h
 unfold Yz
 cases h1:jx S c.args.toList with
 | none=>simp [h1] at h
 | some vs=>
  simp only [h1] at h
  simp only [ZaO hA h1]
  cases hc:c.callee with
  | builtin b=>simp [hc] at h
  | invoke r name=>
   simp only [hc] at h ⊢
   cases h2:evS S r with
   | none=>simp [h2] at h
   | some v=>simp only [h2] at h;simp only [ZH hA h2];exact h
  | value f=>
   simp only [hc] at h ⊢
   cases h2:evS S f with
   | none=>simp [h2] at h
   | some v=>simp only [h2] at h;simp only [ZH hA h2];exact h
theorem zS:∀ {l:List Operand},We S l=true→∀ x∈l,∃ v,evS S x=some v
 | [],_,x,hx=>by cases hx
 | y :: l,h,x,hx=>by
  simp only [We,Bool.and_eq_true] at h
  cases hx with
  | head=>
   cases h1:evS S y with
   | none=>simp [h1] at h
   | some v=>exact ⟨v,rfl⟩
  | tail _ hx=>exact zS h.2 x hx
theorem XX (hA:ZG S A.T) {n:Nat} {o:Oper} (h:We S o.op.operands.toList=true):∀ x∈o.op.operands,ev A x=ev (frS n S) x:=by
 intro x hx
 obtain ⟨v,hv⟩:=zS h x (by simpa using hx)
 rw [YC,hv,ZH hA hv]
end

theorem wrap_i64 {x:Int} (h:InR x):IntKind.i64.wrap x=x:=by
 obtain ⟨h1,h2⟩:=h
 unfold IntKind.wrap IntKind.bits IntKind.signed
 simp
 omega
theorem Jp (b o k:Nat):Addr.add ⟨b,o,none⟩ k=⟨b,o+k,none⟩:=by
 unfold Addr.add
 by_cases h:k=0
 ·subst h;rfl
 ·rw [if_neg h]

def WC (P:Program) (kn:Kn) (lo:Nat) (ord:Bool) (A:Fr) (H:Hp) (K:Value→Hp→Kd→Prop) (o:Oper):Prop:=
 (∃ v H' k,aOp P lo A H o=some (.val v H',k)∧((∀ b,k=.read b→b < H.next)→zW k H=true)∧K v H' k)∨(∃ H' k,aOp P lo A H o=some (.skip H',k)∧K undef H' k)∨
 (∃ t vs v H',aOp P lo A H o=some (.call t vs,.full)∧(!ord && Wx t)=false∧ZJ P kn (bif ord then lo else H.next) t vs H v H'∧K v H' (bif ord then .full else .heavy))∨
 (∃ t vs v H' b,aOp P lo A H o=some (.call t vs,.full)∧ord=false∧Wx t=true∧ZJ P kn lo t vs H v H'∧Wc lo t H H'=some b∧K v H' (.store b))

theorem Zce {k:Kd} {H:Hp}:(∀ b,k=.read b→b < H.next)→zW k H=true:=by
 intro h
 cases k with
 | read b=>exact Nat.ble_eq_true_of_le (h b rfl)
 | _=>rfl

section
variable {P:Program} {kn:Kn} {lo n:Nat} {ops:List Oper} {ord:Bool} {A:Fr} {S:Rg} {H:Hp} {K:Value→Hp→Kd→Prop} {o:Oper}
theorem Z0 {v:Value} (h:Zo P A o=some v) (hk:K v H .pure):WC P kn lo ord A H K o:=
 .inl ⟨v,H,.pure,by unfold aOp;rw [h],Zce,hk⟩
theorem Vn {v:Value} {H':Hp} {k:Kd} (h1:Zo P A o=none) (h2:Zu P lo A H o=some (.val v H',k)) (hk:K v H' k):WC P kn lo ord A H K o:=
 .inl ⟨v,H',k,by unfold aOp;rw [h1];exact h2,Zce,hk⟩
theorem J7 {H':Hp} {k:Kd} (h1:Zo P A o=none) (h2:Zu P lo A H o=some (.skip H',k)) (hk:K undef H' k):WC P kn lo ord A H K o:=
 .inr (.inl ⟨H',k,by unfold aOp;rw [h1];exact h2,hk⟩)


theorem W7 (B:Fr) (o:Oper):Zo P B (YZ o)=Zo P B o:=rfl
theorem QV (B:Fr) (o:Oper):Zu P lo B H (YZ o)=Zu P lo B H o:=rfl
theorem Y2 (hA:ZG S A.T) (h:wRI P kn lo n S H K (.pur (YZ o))):WC P kn lo ord A H K o:=by
 obtain ⟨hd,v,hv,hk⟩:=h
 rw [W7] at hv
 have hd:We S o.op.operands.toList=true:=hd
 exact Z0 ((XR (XX hA hd)).trans hv) hk
theorem VS (hA:ZG S A.T) (h:wRI P kn lo n S H K (.mem (YZ o))):WC P kn lo ord A H K o:=by
 obtain ⟨hd,⟨v,hv,hk⟩ | ⟨h1,v,H',k,h2,_,hk⟩⟩:=h
 all_goals have hd:We S o.op.operands.toList=true:=hd
 ·rw [W7] at hv
  exact Z0 ((XR (XX hA hd)).trans hv) hk
 ·rw [W7] at h1
  rw [QV] at h2
  exact Vn ((XR (XX hA hd)).trans h1) ((W3 (XX hA hd)).trans h2) hk
theorem qZ (hA:ZG S A.T) (h:wRI P kn lo n S H K (.mst (YZ o))):WC P kn lo ord A H K o:=by
 obtain ⟨hd,h1,H',k,h2,hk⟩:=h
 have hd:We S o.op.operands.toList=true:=hd
 rw [W7] at h1
 rw [QV] at h2
 exact J7 ((XR (XX hA hd)).trans h1) ((W3 (XX hA hd)).trans h2) hk
theorem qg {c:Call} (hb:∀ b,c.callee≠.builtin b) (hop:o.op=.call c) (hA:ZG S A.T) (h:wRI P kn lo n S H K (.call c ord)):WC P kn lo ord A H K o:=by
 simp only [wRI] at h
 split at h<;>first | exact h.elim | skip
 rename_i t vs ht
 have e1:aOp P lo A H o=some (.call t vs,.full):=by
  have e:Zo P A o=none:=by
   unfold Zo;rw [hop]
   cases hcal:c.callee with
   | builtin b=>exact absurd hcal (hb b)
   | _=>simp only [hcal]
  unfold aOp
  rw [e]
  unfold Zu
  rw [hop]
  cases hcal:c.callee with
  | builtin b=>exact absurd hcal (hb b)
  | _=>simp only [hcal,JX hA ht]
 cases hm:(!ord && Wx t) with
 | false=>
  rw [hm] at h
  simp only [cond_false] at h
  obtain ⟨v,H',hc,hk⟩:=h
  exact .inr (.inr (.inl ⟨t,vs,v,H',e1,hm,hc,hk⟩))
 | true=>
  rw [hm] at h
  simp only [cond_true] at h
  obtain ⟨v,H',b,hc,h1,h2,h3,h4,hk⟩:=h
  simp only [Bool.and_eq_true,Bool.not_eq_true'] at hm
  refine .inr (.inr (.inr ⟨t,vs,v,H',b,e1,hm.1,hm.2,hc,?_,hk⟩))
  unfold Wc
  rw [h2]
  simp only
  rw [if_pos ⟨h1,h4⟩]

theorem Jf {a b:Int} (ha:0≤a) (_hb:0 < b):a.tdiv b=a / b:=Int.tdiv_eq_ediv_of_nonneg ha
theorem Zao {a b:Int} (ha:0≤a):a.tmod b=a % b:=Int.tmod_eq_emod_of_nonneg ha
theorem jG {op:BinOp} {t ty:TypeId} {x y:Operand} (hop:o.op=.binOp op t x y ty) (hA:ZG S A.T) (h:wRI P kn lo n S H K (.ari op x y)):WC P kn lo ord A H K o:=by
 simp only [wRI] at h
 split at h<;>first | exact h.elim | skip
 ·rename_i a b h1 h2
  obtain ⟨hr,h⟩:=h
  refine Z0 ?_ h
  have:Zo P A o=some (.int .i64 (IntKind.i64.wrap (a+b))):=by unfold Zo;rw [hop];simp only [ZH hA h1,ZH hA h2];rfl
  rw [this,wrap_i64 hr]
 ·rename_i a b h1 h2
  obtain ⟨hr,h⟩:=h
  refine Z0 ?_ h
  have:Zo P A o=some (.int .i64 (IntKind.i64.wrap (a - b))):=by unfold Zo;rw [hop];simp only [ZH hA h1,ZH hA h2];rfl
  rw [this,wrap_i64 hr]
 ·rename_i a b h1 h2
  obtain ⟨hr,h⟩:=h
  refine Z0 ?_ h
  have:Zo P A o=some (.int .i64 (IntKind.i64.wrap (a * b))):=by unfold Zo;rw [hop];simp only [ZH hA h1,ZH hA h2];rfl
  rw [this,wrap_i64 hr]
 ·rename_i a b h1 h2
  obtain ⟨ha,hb,hr,h⟩:=h
  refine Z0 ?_ h
  have:Zo P A o=match Zz P (Op.intDiv .quo .i64 a b) with | some v=>bif flat v then some v else none | none=>none:=by unfold Zo;rw [hop];simp only [ZH hA h1,ZH hA h2];rfl
  rw [this]
  unfold Op.intDiv
  rw [if_neg (by omega)]
  simp only [Jf ha hb]
  show some (Value.int .i64 (IntKind.i64.wrap (a / b)))=_
  rw [wrap_i64 ⟨by have:=Int.ediv_nonneg ha (Int.le_of_lt hb);omega,by have:=Int.ediv_le_self b ha;have:=hr.2;omega⟩]
 ·rename_i a b h1 h2
  obtain ⟨ha,hb,hr,hr2,h⟩:=h
  refine Z0 ?_ h
  have:Zo P A o=match Zz P (Op.intDiv .rem .i64 a b) with | some v=>bif flat v then some v else none | none=>none:=by unfold Zo;rw [hop];simp only [ZH hA h1,ZH hA h2];rfl
  rw [this]
  unfold Op.intDiv
  rw [if_neg (by omega)]
  simp only [Zao ha]
  rfl
theorem ju {op:BinOp} {t ty:TypeId} {x y:Operand} (hop:o.op=.binOp op t x y ty) (hA:ZG S A.T) (h:wRI P kn lo n S H K (.cmp op x y)):WC P kn lo ord A H K o:=by
 simp only [wRI] at h
 split at h<;>first | exact h.elim | skip
 all_goals
  rename_i a b h1 h2
  refine Z0 ?_ h
  unfold Zo;rw [hop];simp only [ZH hA h1,ZH hA h2];rfl
theorem qk {op:BinOp} {t ty:TypeId} {x y:Operand} (hop:o.op=.binOp op t x y ty) (hA:ZG S A.T) (h:wRI P kn lo n S H K (.cmpb op x y)):WC P kn lo ord A H K o:=by
 simp only [wRI] at h
 split at h<;>first | exact h.elim | skip
 all_goals
  rename_i a b h1 h2
  refine Z0 ?_ (h _ rfl)
  unfold Zo;rw [hop];simp only [ZH hA h1,ZH hA h2];rfl
theorem ZcO (a b:Int):(if b < a then b else a)=min a b:=by
 rw [Int.min_def]
 split<;>split<;>omega
theorem ZcK (a b:Int):(if b > a then b else a)=max a b:=by
 rw [Int.max_def]
 split<;>split<;>omega

theorem VN {ri:RI} (hl:X2 P ops ord o=some ri) (hA:ZG S A.T) (h:wRI P kn lo n S H K ri):WC P kn lo ord A H K o:=by
 unfold X2 at hl
 split at hl<;>(rename_i hop;first | (cases hl;done) | skip)
 case h_1 x=>
  cases hl
  simp only [wRI] at h
  split at h<;>first | exact h.elim | skip
  rename_i v hv
  exact Z0 (by unfold Zo;rw [hop];exact ZH hA hv) h
 case h_2 x=>
  cases hl
  simp only [wRI] at h
  split at h<;>first | exact h.elim | skip
  rename_i v hv
  exact Z0 (by unfold Zo;rw [hop];exact ZH hA hv) h
 case h_3 x=>
  cases hl
  simp only [wRI] at h
  split at h<;>first | exact h.elim | skip
  all_goals
   rename_i hv
   exact Z0 (by unfold Zo;rw [hop];simp only [ZH hA hv]) h
 case h_4 s x f=>
  split at hl<;>first | (cases hl;done) | skip
  rename_i fs hs
  split at hl<;>first | (cases hl;done) | skip
  rename_i fd hf
  split at hl<;>first | (cases hl;done) | skip
  rename_i i hi
  cases hz:Nat.beq i.size 0 with
  | true=>rw [hz] at hl;cases hl
  | false=>
   rw [hz] at hl;cases hl
   simp only [wRI] at h
   split at h<;>first | exact h.elim | skip
   rename_i b o' hv
   exact Z0 (by unfold Zo;rw [hop];simp only [ZH hA hv,hs,hf,hi,hz,cond_false,Jp]) h
 case h_5 t x i=>
  split at hl<;>first | (cases hl;done) | skip
  ·rename_i e ht
   split at hl<;>first | (cases hl;done) | skip
   rename_i inf hi
   cases hl
   simp only [wRI] at h
   split at h<;>first | exact h.elim | skip
   rename_i b o' len cp kd j h1 h2
   obtain ⟨k,rfl,hk,h⟩:=h
   exact Z0 (by unfold Zo;rw [hop];simp only [ZH hA h1,ZH hA h2,ht,hi,show ((k:Nat):Int)=Int.ofNat k from rfl,Nat.ble_eq_true_of_le (show k+1≤len from hk),cond_true,Jp]) h
  ·rename_i len e ht
   split at hl<;>first | (cases hl;done) | skip
   rename_i inf hi
   cases hl
   simp only [wRI] at h
   split at h<;>first | exact h.elim | skip
   rename_i b o' kd j h1 h2
   obtain ⟨k,rfl,hk,h⟩:=h
   exact Z0 (by unfold Zo;rw [hop];simp only [ZH hA h1,ZH hA h2,ht,hi,show ((k:Nat):Int)=Int.ofNat k from rfl,Nat.ble_eq_true_of_le (show k+1≤len from hk),cond_true,Jp]) h
 case h_6 t x=>
  split at hl<;>first | (cases hl;done) | skip
  ·rename_i i hi ha
   cases hl
   simp only [wRI] at h
   split at h<;>first | exact h.elim | skip
   rename_i b o' hv
   obtain ⟨cs,r,hc,hr,h⟩:=h
   exact Vn (by unfold Zo;rw [hop]) (by unfold Zu;rw [hop];simp only [ZH hA hv,WS,hc,ha,hi,hr]) h
  ·rename_i i hi ha
   cases hl
   simp only [wRI] at h
   split at h<;>first | exact h.elim | skip
   rename_i b o' hv
   obtain ⟨cs,v,hc,hr,h⟩:=h
   exact Vn (by unfold Zo;rw [hop]) (by unfold Zu;rw [hop];simp only [ZH hA hv,WS,hc,ha,hr]) h
 case h_7 t x y=>
  split at hl<;>first | (cases hl;done) | skip
  rename_i i hi
  have key:∀ m,i.size=m→wRI P kn lo n S H K (.sta x y m)→WC P kn lo ord A H K o:=by
   intro m hm h
   simp only [wRI] at h
   split at h<;>first | exact h.elim | skip
   rename_i b o' v h1 h2
   obtain ⟨cs,e,l,hc,hlo,hv1,hv2,ho,h⟩:=h
   refine J7 (by unfold Zo;rw [hop]) (k:=.store b) (H':=H.up b (.cells (Yk cs o' v.cells.toList) e l)) ?_ (h _ rfl)
   unfold Zu
   rw [hop]
   simp only [ZH hA h1,ZH hA h2,Ud,hc,hi,hm,Nat.ble_eq_true_of_le hlo,Nat.ble_eq_true_of_le ho,hv1,hv2,Nat.beq_refl,Bool.and_true,cond_true]
   rfl
  cases hz:Nat.beq i.size 1 with
  | false=>rw [hz] at hl;cases hl;exact key _ rfl h
  | true=>
   rw [hz] at hl
   simp only [cond_true] at hl
   split at hl
   ·cases hl
    refine key 1 (Nat.eq_of_beq_eq_true hz) ?_
    simp only [wRI] at h ⊢
    split at h<;>first | exact h.elim | skip
    rename_i b o' v h1 h2
    obtain ⟨cs,e,l,hc,hlo,hv1,hv2,ho,h⟩:=h
    refine ⟨cs,e,l,hc,hlo,by rw [hv1];rfl,by rw [hv1];simp [hv2],ho,?_⟩
    rw [hv1]
    exact h
   ·cases hl;exact key _ rfl h
 case h_8 op t x y ty=>
  cases hi:Kf P t with
  | false=>
   rw [hi] at hl
   simp only [cond_false] at hl
   cases hpt:ZdZ P op t with
   | true=>rw [hpt] at hl;cases hl;exact VS hA h
   | false=>rw [hpt] at hl;cases hl;exact Y2 hA h
  | true=>
   rw [hi] at hl
   simp only [cond_true] at hl
   cases ha:Zcl op with
   | true=>rw [ha] at hl;cases hl;exact jG hop hA h
   | false=>
    rw [ha] at hl
    simp only [cond_false] at hl
    cases hc:zC op with
    | true=>
     rw [hc] at hl
     simp only [cond_true] at hl
     cases hg:ye ops with
     | true=>rw [hg] at hl;cases hl;exact qk hop hA h
     | false=>rw [hg] at hl;cases hl;exact ju hop hA h
    | false=>rw [hc] at hl;cases hl;exact Y2 hA h
 case h_9 e x=>
  cases hl
  simp only [wRI] at h
  split at h<;>first | exact h.elim | skip
  rename_i v hv
  exact Vn (by unfold Zo;rw [hop]) (by unfold Zu;rw [hop];simp only [ZH hA hv]) (h _ rfl)
 case h_10 e=>
  split at hl<;>first | (cases hl;done) | skip
  rename_i z hz
  cases hl
  simp only [wRI] at h
  exact Vn (by unfold Zo;rw [hop]) (by unfold Zu;rw [hop];simp only [hz]) (h _ rfl)
 case h_11 c=>
  split at hl
  ·rename_i hcal
   split at hl<;>first | (cases hl;done) | skip
   rename_i t ht
   split at hl
   ·rename_i e x hu hargs
    cases hl
    simp only [wRI] at h
    split at h<;>first | exact h.elim | skip
    rename_i a m cp hv
    refine Z0 ?_ h
    unfold Zo
    rw [hop]
    simp only [hcal,hargs,evs,ZH hA hv,WN,ht,hu]
   ·cases hl;exact Y2 hA h
  ·rename_i hcal
   split at hl
   ·rename_i x y hargs
    cases hi:Kf P o.type with
    | false=>rw [hi] at hl;cases hl;exact Y2 hA h
    | true=>
     rw [hi] at hl;cases hl
     simp only [wRI] at h
     split at h<;>first | exact h.elim | skip
     rename_i a b h1 h2
     refine Z0 ?_ h
     unfold Zo
     rw [hop]
     simp only [hcal,hargs,evs,ZH hA h1,ZH hA h2,cond_true]
     show some (Value.int .i64 (if b < a then b else a))=_
     rw [ZcO]
   ·cases hl;exact Y2 hA h
  ·rename_i hcal
   split at hl
   ·rename_i x y hargs
    cases hi:Kf P o.type with
    | false=>rw [hi] at hl;cases hl;exact Y2 hA h
    | true=>
     rw [hi] at hl;cases hl
     simp only [wRI] at h
     split at h<;>first | exact h.elim | skip
     rename_i a b h1 h2
     refine Z0 ?_ h
     unfold Zo
     rw [hop]
     simp only [hcal,hargs,evs,ZH hA h1,ZH hA h2,cond_false]
     show some (Value.int .i64 (if b > a then b else a))=_
     rw [ZcK]
   ·cases hl;exact Y2 hA h
  ·cases hl;exact VS hA h
  ·rename_i hcal
   cases hl;exact qg (fun b e=>hcal b e) hop hA h
 case h_15=>
  split at hl
  ·cases hl;exact Y2 hA h
  ·cases hl;exact VS hA h
 all_goals first
  | (cases hl;exact VS hA h)
  | (cases hl;exact qZ hA h)
  | (cases hl;exact Y2 hA h)
  | (cases hl;exact False.elim h)
  | (split at hl<;>first | (cases hl;done) | (cases hl;exact False.elim h))
end
end Go.Ax

/-! The evaluator for all inputs,3: what is asked is enough for regions and code. -/
namespace Go.Ax
open Go Go.RowKit

noncomputable def Yp (T:Tr Value) (d:Option Nat) (v:Value):Tr Value:=match d with | none=>T | some d=>T.set d v
theorem ZB {S:Rg} {T:Tr Value} (h:ZG S T) (d:Option Nat) (v:Value):ZG (Zv S d v) (Yp T d v):=by
 cases d with
 | none=>exact h
 | some d=>
  intro j u hj
  simp only [Zv,lk,ZA] at hj
  simp only [Yp,Tr.get_set]
  by_cases e:j=d
  ·subst e;simpa using hj
  ·rw [decide_eq_false (fun q=>e q.symm)] at hj
   rw [if_neg e]
   exact h j u hj
theorem KN {A:Fr} {d:Option Nat} (h:(match d with | none=>true | some d=>Nat.ble (d+1) A.n)=true) (v:Value):A.put d v=some { A with T:=Yp A.T d v }:=by
 cases d with
 | none=>rfl
 | some d=>simp only [Fr.put];simp only at h;rw [h];rfl

section
variable {P:Program} {kn:Kn} {lo n:Nat}

theorem WV {ops:Array Oper} {ord:Bool} {A:Fr} {S:Rg} {H:Hp} {K:Rg→Hp→Kd→Prop} {o:Oper} {ro:RO} (hl:WM P n ops.toList ord o=some ro) (hA:ZG S A.T) (hn:A.n=n) (h:wRO P kn lo n S H ro K) :
  (∀ v,A.put o.dst v=some { A with T:=Yp A.T o.dst v })∧
  ((ZE ops A o=some false∧K (Zv S o.dst undef) H .pure)∨(ZE ops A o=some true∧WC P kn lo ord A H (fun v H' k=>K (Zv S o.dst v) H' k) o)):=by
 unfold WM at hl
 split at hl<;>first | (cases hl;done) | skip
 rename_i ri hri
 obtain ⟨hd,hl⟩:=Zc hl
 refine ⟨KN (by rw [hn];exact hd),?_⟩
 split at hl
 ·rename_i hg
  cases hl
  simp only [wRO] at h
  exact .inr ⟨by unfold ZE;rw [hg],VN hri hA h⟩
 ·rename_i j w hg
  split at hl<;>first | (cases hl;done) | skip
  rename_i g hj
  split at hl<;>first | (cases hl;done) | skip
  rename_i d hgd
  cases hl
  have hj':ops[j]? = some g:=by simpa using hj
  simp only [wRO] at h
  split at h<;>first | exact h.elim | skip
  ·rename_i hb
   have hw:ZE ops A o=some (true == w):=by unfold ZE;rw [hg];simp only [hj',hgd,hA d _ hb]
   cases w with
   | true=>exact .inr ⟨by rw [hw];rfl,VN hri hA h⟩
   | false=>exact .inl ⟨by rw [hw];rfl,h⟩
  ·rename_i hb
   have hw:ZE ops A o=some (false == w):=by unfold ZE;rw [hg];simp only [hj',hgd,hA d _ hb]
   cases w with
   | true=>exact .inl ⟨by rw [hw];rfl,h⟩
   | false=>exact .inr ⟨by rw [hw];rfl,VN hri hA h⟩
  ·rename_i vs hb
   exact .inl ⟨by unfold ZE;rw [hg];simp only [hj',hgd,hA d _ hb],h⟩

theorem Q2 {ops:Array Oper}:∀ (rest pre:List Oper) {rl:List RO} {A:Fr} {S:Rg} {H:Hp} {K:Rg→Hp→Prop},ops.toList=pre ++ rest→YS P n ops.toList (fun _=>true) rest pre.length=some rl→ZG S A.T→A.n=n→Zw P kn lo n rl S H K→
  ∃ S' H' T',K S' H'∧ZG S' T'∧∃ N,∀ m k,N≤m→N≤k→ZX P lo (Yh P kn m k) ops (List.range' pre.length rest.length) A H none=some (.normal,{ A with T:=T' },H',none)
 | [],pre,rl,A,S,H,K,he,hl,hA,hn,h=>by
  simp only [YS] at hl;cases hl
  exact ⟨S,H,A.T,h,hA,0,fun m k _ _=>rfl⟩
 | o :: rest,pre,rl,A,S,H,K,he,hl,hA,hn,h=>by
  simp only [YS] at hl
  split at hl<;>first | (cases hl;done) | skip
  rename_i ro hro
  split at hl<;>first | (cases hl;done) | skip
  rename_i l hrest
  cases hl
  simp only [Zw] at h
  have ho:ops[pre.length]? = some o:=by
   have:ops.toList[pre.length]? = some o:=by rw [he];simp
   simpa using this
  have he2:ops.toList=(pre ++ [o]) ++ rest:=by rw [he];simp
  have ih:=fun {A':Fr} {S':Rg} {H':Hp} (hA':ZG S' A'.T) (hn':A'.n=n) (h':Zw P kn lo n l S' H' K)=>Q2 rest (pre ++ [o]) (rl:=l) he2 (by simpa using hrest) hA' hn' h'
  simp only [List.length_append,List.length_singleton] at ih
  obtain ⟨hput,hcase⟩:=WV hro hA hn h
  have hr:List.range' pre.length (o :: rest).length=pre.length :: List.range' (pre.length+1) rest.length:=by simp [List.range']
  rw [hr]
  rcases hcase with ⟨hw,h⟩ | ⟨hw,hdone⟩
  ·obtain ⟨S',H',T',a,b,N,c⟩:=ih (A':={ A with T:=Yp A.T o.dst undef }) (ZB hA o.dst undef) hn h
   refine ⟨S',H',T',a,b,N,fun m k hm hk=>?_⟩
   rw [ZX]
   simp only [ho,hw,hput]
   exact c m k hm hk
  ·rcases hdone with ⟨v,H1,kd,e,_,h⟩ | ⟨H1,kd,e,h⟩ | ⟨t,vs,v,H1,e,_,⟨N1,hc⟩,h⟩ | ⟨_,_,_,_,_,_,hf,_⟩
   rotate_right
   ·cases hf
   ·obtain ⟨S',H',T',a,b,N,c⟩:=ih (A':={ A with T:=Yp A.T o.dst v }) (ZB hA o.dst v) hn h
    refine ⟨S',H',T',a,b,N,fun m k hm hk=>?_⟩
    rw [ZX]
    simp only [ho,hw,e,hput]
    exact c m k hm hk
   ·obtain ⟨S',H',T',a,b,N,c⟩:=ih (A':={ A with T:=Yp A.T o.dst undef }) (ZB hA o.dst undef) hn h
    refine ⟨S',H',T',a,b,N,fun m k hm hk=>?_⟩
    rw [ZX]
    simp only [ho,hw,e,hput]
    exact c m k hm hk
   ·obtain ⟨S',H',T',a,b,N,c⟩:=ih (A':={ A with T:=Yp A.T o.dst v }) (ZB hA o.dst v) hn h
    refine ⟨S',H',T',a,b,N+N1,fun m k hm hk=>?_⟩
    rw [ZX]
    have:=hc m k (by omega) (by omega)
    simp only [cond_true] at this
    simp only [ho,hw,e,this,hput]
    exact c m k (by omega) (by omega)

theorem Uv {H:Hp} {k:Kd} {X:Kd→Prop} (h:match k with | .read b=>b < H.next∧X (.read b) | k=>X k):(∀ b,k=.read b→b < H.next)∧X k:=by
 cases k with
 | read b=>exact ⟨fun c e=>(by cases e;exact h.1),h.2⟩
 | _=>exact ⟨fun c e=>(by cases e),h⟩
def WE:Kd→Kd
 | .mk _=>.heavy
 | k=>k
theorem jp {A:Fr} {H H':Hp} {o:Oper} {v:Value} {k:Kd} (h:aOp P lo A H o=some (.val v H',k)):WE (KE o H k)=k:=by
 cases k with
 | heavy=>unfold KE;cases Qc o<;>rfl
 | mk b=>
  exfalso
  unfold aOp at h
  split at h
  ·cases h
  ·exact Vw h
 | _=>rfl
theorem jC {A:Fr} {H H':Hp} {o:Oper} {k:Kd} (h:aOp P lo A H o=some (.skip H',k)):WE k=k:=by
 cases k with
 | mk b=>
  exfalso
  unfold aOp at h
  split at h
  ·cases h
  ·exact Vw h
 | _=>rfl
theorem jh (ks:List Kd):(ks.map WE).all calm=ks.all calm:=by
 rw [List.all_map]
 congr 1
 funext k
 cases k<;>rfl
theorem yK (k c:Kd):YJ (WE k) (WE c)=YJ k c:=by cases k<;>cases c<;>rfl
theorem Jo (k:Kd) (m:Nat):∀ (cs:List Kd) (n:Nat),ZS.belowG YJ (WE k) m (cs.map WE) n=ZS.belowG YJ k m cs n
 | [],_=>rfl
 | c :: cs,n=>by simp only [List.map_cons,ZS.belowG,yK,Jo k m cs]
theorem JB:∀ (ks:List Kd) (ms:List Nat),ZS YJ (ks.map WE) ms=ZS YJ ks ms
 | [],ms=>by simp [ZS]
 | k :: ks,[]=>by simp [ZS]
 | k :: ks,m :: ms=>by
  have:=Jo k m ks ks.length
  simp only [List.map_cons,ZS,List.length_map,JB ks ms,this]
theorem Qm {ops:Array Oper} {masks:List Nat}:∀ (rest pre:List Oper) {rl:List RO} {A:Fr} {S:Rg} {H:Hp} {ks:List Kd} {K:Rg→Hp→Prop},ops.toList=pre ++ rest→YS P n ops.toList (fun i=>Wj ops.toList (U8 ops.toList) i) rest pre.length=some rl→ZG S A.T→A.n=n→Zx P kn lo n masks rl (ks.map WE) S H K→
  ∃ S' H' T' ks',K S' H'∧(bif (ks'.map WE).all calm then True else Q7 (ks'.map WE) masks)∧ZG S' T'∧∃ N,∀ m k,N≤m→N≤k→Z7 P lo (Yh P kn m k) ops rest pre.length ks A H=some (ks',{ A with T:=T' },H')
 | [],pre,rl,A,S,H,ks,K,he,hl,hA,hn,h=>by
  simp only [YS] at hl;cases hl
  exact ⟨S,H,A.T,ks,h.2,h.1,hA,0,fun m k _ _=>rfl⟩
 | o :: rest,pre,rl,A,S,H,ks,K,he,hl,hA,hn,h=>by
  simp only [YS] at hl
  split at hl<;>first | (cases hl;done) | skip
  rename_i ro hro
  split at hl<;>first | (cases hl;done) | skip
  rename_i l hrest
  cases hl
  simp only [Zx] at h
  have he2:ops.toList=(pre ++ [o]) ++ rest:=by rw [he];simp
  have ih:=fun {A':Fr} {S':Rg} {H':Hp} {ks':List Kd} (hA':ZG S' A'.T) (hn':A'.n=n) (h':Zx P kn lo n masks l (ks'.map WE) S' H' K)=>Qm rest (pre ++ [o]) (rl:=l) he2 (by simpa using hrest) hA' hn' h'
  simp only [List.length_append,List.length_singleton] at ih
  obtain ⟨hput,hcase⟩:=WV hro hA hn h
  rcases hcase with ⟨hw,h⟩ | ⟨hw,hdone⟩
  ·obtain ⟨S',H',T',ks',a,a2,b,N,c⟩:=ih (ks':=.pure :: ks) (A':={ A with T:=Yp A.T o.dst undef }) (ZB hA o.dst undef) hn h
   refine ⟨S',H',T',ks',a,a2,b,N,fun m k hm hk=>?_⟩
   rw [Z7]
   simp only [hw,hput]
   exact c m k hm hk
  ·rcases hdone with ⟨v,H1,kd,e,hkd,h⟩ | ⟨H1,kd,e,h⟩ | ⟨t,vs,v,H1,e,hmk,⟨N1,hc⟩,h⟩ | ⟨t,vs,v,H1,bk,e,hord,hmk,⟨N1,hc⟩,hob,h⟩
   ·obtain ⟨hb,h⟩:=Uv (X:=fun k=>Zx P kn lo n masks l (k :: ks.map WE) (Zv S o.dst v) H1 K) h
    rw [← jp e,← List.map_cons] at h
    obtain ⟨S',H',T',ks',a,a2,b,N,c⟩:=ih (A':={ A with T:=Yp A.T o.dst v }) (ZB hA o.dst v) hn h
    refine ⟨S',H',T',ks',a,a2,b,N,fun m k hm hk=>?_⟩
    rw [Z7]
    have hkd:zW kd H=true:=hkd hb
    simp only [hw,e,hkd,hput,cond_true]
    exact c m k hm hk
   ·obtain ⟨_,h⟩:=Uv (X:=fun k=>Zx P kn lo n masks l (k :: ks.map WE) (Zv S o.dst undef) H1 K) h
    rw [← jC e,← List.map_cons] at h
    obtain ⟨S',H',T',ks',a,a2,b,N,c⟩:=ih (A':={ A with T:=Yp A.T o.dst undef }) (ZB hA o.dst undef) hn h
    refine ⟨S',H',T',ks',a,a2,b,N,fun m k hm hk=>?_⟩
    rw [Z7]
    simp only [hw,e,hput]
    exact c m k hm hk
   ·cases ho:Wj ops.toList (U8 ops.toList) pre.length with
    | true=>
     simp only [ho,cond_true] at hc h
     obtain ⟨S',H',T',ks',a,a2,b,N,c⟩:=ih (ks':=.full :: ks) (A':={ A with T:=Yp A.T o.dst v }) (ZB hA o.dst v) hn h
     refine ⟨S',H',T',ks',a,a2,b,N+N1,fun m k hm hk=>?_⟩
     rw [Z7]
     simp only [hw,e,ho,cond_true,hc m k (by omega) (by omega),hput]
     exact c m k (by omega) (by omega)
    | false=>
     simp only [ho,cond_false] at hc h
     obtain ⟨S',H',T',ks',a,a2,b,N,c⟩:=ih (ks':=.heavy :: ks) (A':={ A with T:=Yp A.T o.dst v }) (ZB hA o.dst v) hn h
     refine ⟨S',H',T',ks',a,a2,b,N+N1,fun m k hm hk=>?_⟩
     rw [Z7]
     have hmk:Wx t=false:=by simpa [ho] using hmk
     simp only [hw,e,ho,hmk,cond_false,hc m k (by omega) (by omega),hput]
     exact c m k (by omega) (by omega)
   ·obtain ⟨S',H',T',ks',a,a2,b,N,c⟩:=ih (ks':=.store bk :: ks) (A':={ A with T:=Yp A.T o.dst v }) (ZB hA o.dst v) hn h
    refine ⟨S',H',T',ks',a,a2,b,N+N1,fun m k hm hk=>?_⟩
    rw [Z7]
    simp only [hw,e,hord,hmk,cond_false,cond_true,hc m k (by omega) (by omega),hob,hput]
    exact c m k (by omega) (by omega)

theorem jN {k c:Kd} (h:¬ VH k c):YJ k c=false:=by
 cases k<;>cases c<;>simp_all [VH,YJ,ZA]
theorem Qv {k c:Kd}:∀ (l:List Kd) (m:Nat),V4 k m (l ++ [c])→V4 k m l∧(m.testBit l.length=true∨¬ VH k c)
 | [],m,h=>by
  simp only [List.nil_append,V4] at h
  refine ⟨trivial,?_⟩
  cases hb:Nat.beq (Nat.mod m 2) 1 with
  | true=>
   left
   have:=Nat.eq_of_beq_eq_true hb
   simp only [List.length_nil,Nat.testBit_zero]
   exact decide_eq_true this
  | false=>rw [hb] at h;exact .inr h.1
 | d :: l,m,h=>by
  simp only [List.cons_append,V4] at h
  obtain ⟨h1,h2⟩:=Qv l _ h.2
  refine ⟨⟨h.1,h1⟩,h2.imp (fun q=>?_) id⟩
  simp only [List.length_cons]
  rw [Nat.testBit_succ]
  exact q
theorem yb {k:Kd} {m:Nat}:∀ (cs:List Kd),V4 k m cs.reverse→ZS.belowG YJ k m cs cs.length=true
 | [],_=>rfl
 | c :: cs,h=>by
  rw [List.reverse_cons] at h
  obtain ⟨h1,h2⟩:=Qv _ _ h
  simp only [ZS.belowG,Bool.and_eq_true,List.length_cons,Nat.add_sub_cancel]
  refine ⟨?_,yb cs h1⟩
  rw [List.length_reverse] at h2
  rcases h2 with h2 | h2
  ·rw [h2];simp
  ·simp [jN h2]
theorem zA:∀ (ks:List Kd) (ms:List Nat),Q7 ks ms→ZS YJ ks ms=true
 | [],ms,_=>by simp [ZS]
 | k :: ks,[],_=>by simp [ZS]
 | k :: ks,m :: ms,h=>by
  simp only [ZS,Bool.and_eq_true]
  exact ⟨yb ks h.1,zA ks ms h.2⟩

theorem ZaM {lo:Nat} {H:Hp} (h:WG lo H):Km lo H=true:=by
 unfold Km
 refine List.all_eq_true.2 fun b hb=>?_
 have hb:=List.mem_range.1 hb
 cases hg:H.t.get b with
 | none=>simp
 | some ob=>
  cases ob with
  | ro cs=>
   have:=h b cs hb hg
   simp only [Bool.or_false]
   exact Nat.ble_eq_true_of_le this
  | _=>simp
def Zai (a w:Kd):Prop:=a=w∨(w=.heavy∧∃ b,a=.mk b)
inductive JS:List Kd→List Kd→Prop
 | nil:JS [] []
 | cons {a w:Kd} {as_ ws:List Kd}:Zai a w→JS as_ ws→JS (a :: as_) (w :: ws)
theorem JS.length_eq:∀ {as_ ws:List Kd},JS as_ ws→as_.length=ws.length
 | _,_,.nil=>rfl
 | _,_,.cons _ h=>congrArg (· + 1) h.length_eq
theorem yi {a w c d:Kd} (h:Zai a w) (k:Zai c d) (hn:¬ VP w d):Yl a c=false:=by
 rcases h with rfl | ⟨rfl,b,rfl⟩<;>rcases k with rfl | ⟨rfl,e,rfl⟩
 ·cases a<;>cases c<;>simp_all [VP,Yl,VH,YJ,ZA]
 ·cases a<;>simp_all [VP,Yl,VH,YJ,ZA]
 ·cases c<;>simp_all [VP,Yl,VH,YJ,ZA]
 ·simp [Yl,YJ]
theorem UP {k c:Kd}:∀ (l:List Kd) (m:Nat),Vd k m (l ++ [c])→Vd k m l∧(m.testBit l.length=true∨¬ VP k c)
 | [],m,h=>by
  simp only [List.nil_append,Vd] at h
  refine ⟨trivial,?_⟩
  cases hb:Nat.beq (Nat.mod m 2) 1 with
  | true=>
   left
   have:=Nat.eq_of_beq_eq_true hb
   simp only [List.length_nil,Nat.testBit_zero]
   exact decide_eq_true this
  | false=>rw [hb] at h;exact .inr h.1
 | d :: l,m,h=>by
  simp only [List.cons_append,Vd] at h
  obtain ⟨h1,h2⟩:=UP l _ h.2
  refine ⟨⟨h.1,h1⟩,h2.imp (fun q=>?_) id⟩
  simp only [List.length_cons]
  rw [Nat.testBit_succ]
  exact q
theorem JZ {a k:Kd} {m:Nat} (hk:Zai a k):∀ (as_ cs:List Kd),JS as_ cs→Vd k m cs.reverse→ZS.belowG Yl a m as_ as_.length=true
 | _,_,.nil,_=>rfl
 | x :: as_,c :: cs,.cons hx hl,h=>by
  rw [List.reverse_cons] at h
  obtain ⟨h1,h2⟩:=UP _ _ h
  simp only [ZS.belowG,Bool.and_eq_true,List.length_cons,Nat.add_sub_cancel]
  refine ⟨?_,JZ hk as_ cs hl h1⟩
  rw [List.length_reverse,← hl.length_eq] at h2
  rcases h2 with h2 | h2
  ·rw [h2];simp
  ·simp [yi hk hx h2]
theorem J1:∀ (as_ ks:List Kd) (ms:List Nat),JS as_ ks→QM ks ms→ZS Yl as_ ms=true
 | _,_,ms,.nil,_=>by simp [ZS]
 | a :: as_,k :: ks,[],.cons _ _,_=>by simp [ZS]
 | a :: as_,k :: ks,m :: ms,.cons h1 h2,h=>by
  simp only [ZS,Bool.and_eq_true]
  exact ⟨JZ h1 as_ ks h2 h.1,J1 as_ ks ms h2 h.2⟩
def Zbt:RI→Bool | .alc _ _=>true | .box _ _=>true | _=>false
theorem jL {ops:List Oper} {ord:Bool} {o:Oper} {ro:RO} (hl:WM P n ops ord o=some ro) (hm:Zbt ro.ri=true):(∃ t,o.op=.alloc t)∨∃ t x,o.op=.box t x:=by
 unfold WM at hl
 split at hl<;>first | (cases hl;done) | skip
 rename_i ri hri
 obtain ⟨_,hl⟩:=Zc hl
 have e:ro.ri=ri:=by
  split at hl
  ·cases hl;rfl
  ·split at hl<;>first | (cases hl;done) | skip
   split at hl<;>first | (cases hl;done) | skip
   cases hl;rfl
 rw [e] at hm
 unfold X2 at hri
 split at hri<;>first
  | (rename_i h;exact .inl ⟨_,h⟩)
  | (rename_i h;exact .inr ⟨_,_,h⟩)
  | (exfalso;(try simp only [Bool.cond_eq_ite] at hri);(repeat' split at hri)<;>first | (cases hri;done) | (cases hri;cases hm;done) | (simp only [Option.some.injEq] at hri;subst hri;cases hm))
theorem jT {A:Fr} {H:Hp} {o:Oper} {rs:Rs} {k:Kd} (h:(∃ t,o.op=.alloc t)∨∃ t x,o.op=.box t x) (e:aOp P lo A H o=some (rs,k)):(∃ v H',rs=.val v H')∧Qc o=true:=by
 rcases h with ⟨t,h⟩ | ⟨t,x,h⟩
 ·unfold aOp Zo at e
  rw [h] at e
  simp only at e
  unfold Zu at e
  rw [h] at e
  simp only at e
  split at e<;>cases e
  exact ⟨⟨_,_,rfl⟩,by unfold Qc;rw [h]⟩
 ·unfold aOp Zo at e
  rw [h] at e
  simp only at e
  unfold Zu at e
  rw [h] at e
  simp only at e
  split at e<;>cases e
  exact ⟨⟨_,_,rfl⟩,by unfold Qc;rw [h]⟩
theorem qt {ro:RO} {H:Hp} {k:Kd} (h:Zbt ro.ri=false):kdW ro H k=k:=by
 unfold kdW
 cases k<;>try rfl
 cases hr:ro.ri<;>rw [hr] at h<;>first | rfl | cases h
theorem Zat {ops:List Oper} {ord:Bool} {A:Fr} {H H':Hp} {o:Oper} {ro:RO} {v:Value} {k:Kd} (hl:WM P n ops ord o=some ro) (h:aOp P lo A H o=some (.val v H',k)):Zai (KE o H k) (kdW ro H k):=by
 cases hm:Zbt ro.ri with
 | true=>
  have:=(jT (jL hl hm) h).2
  left
  cases k<;>try rfl
  unfold KE kdW
  rw [this]
  simp only [cond_true]
  cases hr:ro.ri<;>rw [hr] at hm<;>first | rfl | cases hm
 | false=>
  rw [qt hm]
  cases k with
  | heavy=>unfold KE;cases Qc o<;>first | exact .inl rfl | exact .inr ⟨rfl,_,rfl⟩
  | _=>exact .inl rfl
theorem UY {ops:List Oper} {ord:Bool} {A:Fr} {H:Hp} {o:Oper} {ro:RO} {rs:Rs} {k k':Kd} (hl:WM P n ops ord o=some ro) (h:aOp P lo A H o=some (rs,k)) (hr:∀ v H',rs≠.val v H'):kdW ro H k'=k':=by
 cases hm:Zbt ro.ri with
 | true=>obtain ⟨⟨v,H',e⟩,_⟩:=jT (jL hl hm) h;exact absurd e (hr v H')
 | false=>exact qt hm
theorem UO {ops:Array Oper} {masks:List Nat}:∀ (rest pre:List Oper) {rl:List RO} {A:Fr} {S:Rg} {H:Hp} {ks ws:List Kd} {K:Rg→Hp→Prop},ops.toList=pre ++ rest→YS P n ops.toList (fun i=>Wj ops.toList (U8 ops.toList) i) rest pre.length=some rl→ZG S A.T→A.n=n→JS ks ws→WZ P kn lo n masks rl ws S H K→
  ∃ S' H' T' ks' ws',K S' H'∧JS ks' ws'∧QM ws' masks∧ZG S' T'∧∃ N,∀ m k,N≤m→N≤k→Z7 P lo (Yh P kn m k) ops rest pre.length ks A H=some (ks',{ A with T:=T' },H')
 | [],pre,rl,A,S,H,ks,ws,K,he,hl,hA,hn,hks,h=>by
  simp only [YS] at hl;cases hl
  exact ⟨S,H,A.T,ks,ws,h.2,hks,h.1,hA,0,fun m k _ _=>rfl⟩
 | o :: rest,pre,rl,A,S,H,ks,ws,K,he,hl,hA,hn,hks,h=>by
  simp only [YS] at hl
  split at hl<;>first | (cases hl;done) | skip
  rename_i ro hro
  split at hl<;>first | (cases hl;done) | skip
  rename_i l hrest
  cases hl
  simp only [WZ] at h
  have he2:ops.toList=(pre ++ [o]) ++ rest:=by rw [he];simp
  have ih:=fun {A':Fr} {S':Rg} {H':Hp} {ks' ws':List Kd} (hA':ZG S' A'.T) (hn':A'.n=n) (hk':JS ks' ws') (h':WZ P kn lo n masks l ws' S' H' K)=>UO rest (pre ++ [o]) (rl:=l) he2 (by simpa using hrest) hA' hn' hk' h'
  simp only [List.length_append,List.length_singleton] at ih
  obtain ⟨hput,hcase⟩:=WV hro hA hn h
  rcases hcase with ⟨hw,h⟩ | ⟨hw,hdone⟩
  ·obtain ⟨S',H',T',ks',ws',a,a1,a2,b,N,c⟩:=ih (ks':=.pure :: ks) (ws':=.pure :: ws) (A':={ A with T:=Yp A.T o.dst undef }) (ZB hA o.dst undef) hn (.cons (.inl rfl) hks) h
   refine ⟨S',H',T',ks',ws',a,a1,a2,b,N,fun m k hm hk=>?_⟩
   rw [Z7]
   simp only [hw,hput]
   exact c m k hm hk
  ·rcases hdone with ⟨v,H1,kd,e,hkd,h⟩ | ⟨H1,kd,e,h⟩ | ⟨t,vs,v,H1,e,hmk,⟨N1,hc⟩,h⟩ | ⟨t,vs,v,H1,bk,e,hord,hmk,⟨N1,hc⟩,hob,h⟩
   ·obtain ⟨hb,h⟩:=Uv (X:=fun k=>WZ P kn lo n masks l (k :: ws) (Zv S o.dst v) H1 K) h
    obtain ⟨S',H',T',ks',ws',a,a1,a2,b,N,c⟩:=ih (A':={ A with T:=Yp A.T o.dst v }) (ZB hA o.dst v) hn (.cons (Zat hro e) hks) h
    refine ⟨S',H',T',ks',ws',a,a1,a2,b,N,fun m k hm hk=>?_⟩
    rw [Z7]
    have hkd:zW kd H=true:=hkd fun b hb2=>hb b (by rw [hb2];rfl)
    simp only [hw,e,hkd,hput,cond_true]
    exact c m k hm hk
   ·rw [UY hro e (fun _ _ q=>by cases q)] at h
    obtain ⟨_,h⟩:=Uv (X:=fun k=>WZ P kn lo n masks l (k :: ws) (Zv S o.dst undef) H1 K) h
    obtain ⟨S',H',T',ks',ws',a,a1,a2,b,N,c⟩:=ih (A':={ A with T:=Yp A.T o.dst undef }) (ZB hA o.dst undef) hn (.cons (.inl rfl) hks) h
    refine ⟨S',H',T',ks',ws',a,a1,a2,b,N,fun m k hm hk=>?_⟩
    rw [Z7]
    simp only [hw,e,hput]
    exact c m k hm hk
   ·rw [UY hro e (fun _ _ q=>by cases q)] at h
    cases ho:Wj ops.toList (U8 ops.toList) pre.length with
    | true=>
     simp only [ho,cond_true] at hc h
     obtain ⟨S',H',T',ks',ws',a,a1,a2,b,N,c⟩:=ih (ks':=.full :: ks) (ws':=.full :: ws) (A':={ A with T:=Yp A.T o.dst v }) (ZB hA o.dst v) hn (.cons (.inl rfl) hks) h
     refine ⟨S',H',T',ks',ws',a,a1,a2,b,N+N1,fun m k hm hk=>?_⟩
     rw [Z7]
     simp only [hw,e,ho,cond_true,hc m k (by omega) (by omega),hput]
     exact c m k (by omega) (by omega)
    | false=>
     simp only [ho,cond_false] at hc h
     obtain ⟨S',H',T',ks',ws',a,a1,a2,b,N,c⟩:=ih (ks':=.heavy :: ks) (ws':=.heavy :: ws) (A':={ A with T:=Yp A.T o.dst v }) (ZB hA o.dst v) hn (.cons (.inl rfl) hks) h
     refine ⟨S',H',T',ks',ws',a,a1,a2,b,N+N1,fun m k hm hk=>?_⟩
     rw [Z7]
     have hmk:Wx t=false:=by simpa [ho] using hmk
     simp only [hw,e,ho,hmk,cond_false,hc m k (by omega) (by omega),hput]
     exact c m k (by omega) (by omega)
   ·rw [UY hro e (fun _ _ q=>by cases q)] at h
    obtain ⟨S',H',T',ks',ws',a,a1,a2,b,N,c⟩:=ih (ks':=.store bk :: ks) (ws':=.store bk :: ws) (A':={ A with T:=Yp A.T o.dst v }) (ZB hA o.dst v) hn (.cons (.inl rfl) hks) h
    refine ⟨S',H',T',ks',ws',a,a1,a2,b,N+N1,fun m k hm hk=>?_⟩
    rw [Z7]
    simp only [hw,e,hord,hmk,cond_false,cond_true,hc m k (by omega) (by omega),hob,hput]
    exact c m k (by omega) (by omega)

theorem Tri.mono {rd:Bool} {c:Code} {S:Rg} {H:Hp} {K K':Exit→Rg→Hp→Prop} (h:Tri P kn lo n rd c S H K) (hk:∀ e S' H',K e S' H'→K' e S' H'):Tri P kn lo n rd c S H K':=by
 intro A h1 h2 h3
 obtain ⟨e,S',H',T',a,b⟩:=h A h1 h2 h3
 exact ⟨e,S',H',T',hk _ _ _ a,b⟩
theorem Tri.seq {rd:Bool} {x y:Code} {S:Rg} {H:Hp} {K:Exit→Rg→Hp→Prop} (h:Tri P kn lo n rd x S H fun e S' H'=>match e with | .normal=>Tri P kn lo n rd y S' H' K | e=>K e S' H'):Tri P kn lo n rd (.seq x y) S H K:=by
 intro A h1 h2 h3
 obtain ⟨e,S1,H1,T1,a,b,N1,c⟩:=h A h1 h2 h3
 cases e with
 | normal=>
  obtain ⟨e,S',H',T',a',b',N2,c'⟩:=a { A with T:=T1 } h1 h2 b
  refine ⟨e,S',H',T',a',b',N1+N2+1,fun f m k hf hm hk=>?_⟩
  obtain ⟨f,rfl⟩:∃ g,f=g+1:=⟨f - 1,by omega⟩
  rw [Zj]
  simp only [c f m k (by omega) (by omega) (by omega)]
  exact c' f m k (by omega) (by omega) (by omega)
 | _=>
  refine ⟨_,S1,H1,T1,a,b,N1+1,fun f m k hf hm hk=>?_⟩
  obtain ⟨f,rfl⟩:∃ g,f=g+1:=⟨f - 1,by omega⟩
  rw [Zj]
  simp only [c f m k (by omega) (by omega) (by omega)]

theorem Yy (rd:Bool):∀ (c:Code) {rc:RC} {S:Rg} {H:Hp} {K:Exit→Rg→Hp→Prop},low P n c=some rc→wC P kn lo n rd rc S H K→Tri P kn lo n rd c S H K
 | .skip,rc,S,H,K,hl,h=>by
  simp only [low] at hl;cases hl
  intro A _ _ h3
  refine ⟨.normal,S,H,A.T,h,h3,1,fun f m k hf hm hk=>?_⟩
  obtain ⟨f,rfl⟩:∃ g,f=g+1:=⟨f - 1,by omega⟩
  rfl
 | .label l,rc,S,H,K,hl,h=>by
  simp only [low] at hl;cases hl
  intro A _ _ h3
  refine ⟨.normal,S,H,A.T,h,h3,1,fun f m k hf hm hk=>?_⟩
  obtain ⟨f,rfl⟩:∃ g,f=g+1:=⟨f - 1,by omega⟩
  rfl
 | .exit id,rc,S,H,K,hl,h=>by
  simp only [low] at hl;cases hl
  intro A _ _ h3
  refine ⟨.exit id,S,H,A.T,h,h3,1,fun f m k hf hm hk=>?_⟩
  obtain ⟨f,rfl⟩:∃ g,f=g+1:=⟨f - 1,by omega⟩
  rfl
 | .ret,rc,S,H,K,hl,h=>by
  simp only [low] at hl;cases hl
  intro A _ _ h3
  refine ⟨.ret,S,H,A.T,h,h3,1,fun f m k hf hm hk=>?_⟩
  obtain ⟨f,rfl⟩:∃ g,f=g+1:=⟨f - 1,by omega⟩
  rfl
 | .seq x y,rc,S,H,K,hl,h=>by
  simp only [low] at hl
  split at hl<;>first | (cases hl;done) | skip
  rename_i a ha
  split at hl<;>first | (cases hl;done) | skip
  rename_i b hb
  cases hl
  refine Tri.seq ((Yy rd x ha h).mono fun e S' H' q=>?_)
  cases e with
  | normal=>exact Yy rd y hb q
  | _=>exact q
 | .cond o x y,rc,S,H,K,hl,h=>by
  simp only [low] at hl
  split at hl<;>first | (cases hl;done) | skip
  rename_i a ha
  split at hl<;>first | (cases hl;done) | skip
  rename_i b hb
  cases hl
  simp only [wC] at h
  split at h<;>first | exact h.elim | skip
  rename_i t ht
  intro A h1 h2 h3
  cases t with
  | true=>
   obtain ⟨e,S',H',T',p,q,N,r⟩:=Yy rd x ha (h.1 rfl) A h1 h2 h3
   refine ⟨e,S',H',T',p,q,N+1,fun f m k hf hm hk=>?_⟩
   obtain ⟨f,rfl⟩:∃ g,f=g+1:=⟨f - 1,by omega⟩
   rw [Zj]
   simp only [ZH h3 ht]
   exact r f m k (by omega) (by omega) (by omega)
  | false=>
   obtain ⟨e,S',H',T',p,q,N,r⟩:=Yy rd y hb (h.2 rfl) A h1 h2 h3
   refine ⟨e,S',H',T',p,q,N+1,fun f m k hf hm hk=>?_⟩
   obtain ⟨f,rfl⟩:∃ g,f=g+1:=⟨f - 1,by omega⟩
   rw [Zj]
   simp only [ZH h3 ht]
   exact r f m k (by omega) (by omega) (by omega)
 | .block id b,rc,S,H,K,hl,h=>by
  simp only [low] at hl
  split at hl<;>first | (cases hl;done) | skip
  rename_i a ha
  cases hl
  simp only [wC] at h
  intro A h1 h2 h3
  obtain ⟨e,S',H',T',p,q,N,r⟩:=Yy rd b ha h A h1 h2 h3
  have unf:∀ f m k,Zj P lo (Yh P kn m k) (f+1) (.block id b) A H none=match Zj P lo (Yh P kn m k) f b A H none with
   | some (.exit j,A',H',p')=>bif Nat.beq j id then some (.normal,A',H',p') else some (.exit j,A',H',p')
   | r=>r:=fun f m k=>by rw [Zj];rfl
  cases e with
  | exit j=>
   simp only at p
   cases hj:Nat.beq j id with
   | true=>
    rw [hj] at p
    refine ⟨.normal,S',H',T',p,q,N+1,fun f m k hf hm hk=>?_⟩
    obtain ⟨f,rfl⟩:∃ g,f=g+1:=⟨f - 1,by omega⟩
    rw [unf,r f m k (by omega) (by omega) (by omega)]
    simp only [hj,cond_true]
   | false=>
    rw [hj] at p
    refine ⟨.exit j,S',H',T',p,q,N+1,fun f m k hf hm hk=>?_⟩
    obtain ⟨f,rfl⟩:∃ g,f=g+1:=⟨f - 1,by omega⟩
    rw [unf,r f m k (by omega) (by omega) (by omega)]
    simp only [hj,cond_false]
  | _=>
   refine ⟨_,S',H',T',p,q,N+1,fun f m k hf hm hk=>?_⟩
   obtain ⟨f,rfl⟩:∃ g,f=g+1:=⟨f - 1,by omega⟩
   rw [unf,r f m k (by omega) (by omega) (by omega)]
 | .region id ops draw,rc,S,H,K,hl,h=>by
  simp only [low] at hl
  cases draw with
  | true=>
   simp only [cond_true] at hl
   obtain ⟨hreg,hl⟩:=Zc hl
   split at hl<;>first | (cases hl;done) | skip
   rename_i l hro
   cases hl
   simp only [wC] at h
   intro A h1 h2 h3
   rcases h with h | ⟨hrl,h⟩
   rotate_left
   ·obtain ⟨S',H',T',ks,ws,a,a1,a2,b,N,r⟩:=UO (ops:=ops) (ks:=[]) (ws:=[]) ops.toList [] (by simp) hro h3 h1 .nil h
    refine ⟨.normal,S',H',T',a,b,N+1,fun f m k hf hm hk=>?_⟩
    obtain ⟨f,rfl⟩:∃ g,f=g+1:=⟨f - 1,by omega⟩
    rw [Zj]
    have hd:drawn P lo (Yh P kn m k) ops A H=some ({ A with T:=T' },H'):=by
     unfold drawn
     have:=r m k (by omega) (by omega)
     simp only [List.length_nil] at this
     rw [this]
     have:((ks.all calm || ZS YJ ks (X8 ops.toList 0 []) || (ZS Yl ks (X8 ops.toList 0 []) && Km lo H)) && Qk ops)=true:=by
      rw [hreg,Bool.and_true,J1 _ _ _ a1 a2,ZaM hrl]
      simp only [Bool.and_self,Bool.or_true]
     simp only [this,cond_true]
    simp only [hd,cond_true]
   obtain ⟨S',H',T',ks,a,a2,b,N,r⟩:=Qm (ops:=ops) (ks:=[]) ops.toList [] (by simp) hro h3 h1 h
   refine ⟨.normal,S',H',T',a,b,N+1,fun f m k hf hm hk=>?_⟩
   obtain ⟨f,rfl⟩:∃ g,f=g+1:=⟨f - 1,by omega⟩
   rw [Zj]
   have hd:drawn P lo (Yh P kn m k) ops A H=some ({ A with T:=T' },H'):=by
    unfold drawn
    have:=r m k (by omega) (by omega)
    simp only [List.length_nil] at this
    rw [this]
    have:((ks.all calm || ZS YJ ks (X8 ops.toList 0 []) || (ZS Yl ks (X8 ops.toList 0 []) && Km lo H)) && Qk ops)=true:=by
     rw [hreg,Bool.and_true]
     rw [jh] at a2
     cases hc:ks.all calm with
     | true=>simp only [Bool.true_or]
     | false=>
      rw [hc] at a2
      simp only [cond_false] at a2
      have e:=zA _ _ a2
      rw [JB] at e
      rw [e]
      simp only [Bool.or_true,Bool.true_or]
    simp only [this,cond_true]
   simp only [hd,cond_true]
  | false=>
   simp only [cond_false] at hl
   split at hl<;>first | (cases hl;done) | skip
   rename_i l hro
   cases hl
   simp only [wC] at h
   intro A h1 h2 h3
   obtain ⟨S',H',T',a,b,N,r⟩:=Q2 (ops:=ops) ops.toList [] (by simp) hro h3 h1 h
   refine ⟨.normal,S',H',T',a,b,N+1,fun f m k hf hm hk=>?_⟩
   obtain ⟨f,rfl⟩:∃ g,f=g+1:=⟨f - 1,by omega⟩
   rw [Zj]
   have:=r m k (by omega) (by omega)
   simp only [List.length_nil] at this
   simp only [cond_false,List.range_eq_range']
   simpa using this
 | .loop b,rc,S,H,K,hl,h=>by simp only [low] at hl;cases hl;exact h
 | .rangeFunc fo ps a b,rc,S,H,K,hl,h=>by simp only [low] at hl;cases hl;exact h
 | .scope b,rc,S,H,K,hl,h=>by
  simp only [low] at hl
  split at hl<;>first | (cases hl;done) | skip
  rename_i a ha
  cases hl
  simp only [wC] at h
  intro A h1 h2 h3
  obtain ⟨e,S',H',T',p,q,N,r⟩:=Yy rd b ha h A h1 h2 h3
  refine ⟨e,S',H',T',p,q,N+1,fun f m k hf hm hk=>?_⟩
  obtain ⟨f,rfl⟩:∃ g,f=g+1:=⟨f - 1,by omega⟩
  rw [Zj]
  exact r f m k (by omega) (by omega) (by omega)
 | .goto l,rc,S,H,K,hl,h=>by simp only [low] at hl;cases hl
 | .refuse w,rc,S,H,K,hl,h=>by simp only [low] at hl;cases hl

theorem Tri.loop {rd:Bool} {b:Code} {K:Exit→Rg→Hp→Prop} (I:Nat→Rg→Hp→Prop)
  (hb:∀ k S H,I k S H→Tri P kn lo n rd b S H fun e S' H'=>match e with | .normal=>∃ k',k' < k∧I k' S' H' | e=>K e S' H') :
  ∀ k S H,I k S H→Tri P kn lo n rd (.loop b) S H K:=by
 intro k
 induction k using Nat.strongRecOn with
 | ind k ih=>
  intro S H hI A h1 h2 h3
  obtain ⟨e,S1,H1,T1,p,q,N,r⟩:=hb k S H hI A h1 h2 h3
  have unf:∀ f m k,Zj P lo (Yh P kn m k) (f+1) (.loop b) A H none=match Zj P lo (Yh P kn m k) f b A H none with
   | some (.normal,A',H',p')=>Zj P lo (Yh P kn m k) f (.loop b) A' H' p'
   | r=>r:=fun f m k=>by rw [Zj];rfl
  cases e with
  | normal=>
   obtain ⟨k',hk',hI'⟩:=p
   obtain ⟨e,S',H',T',p',q',N',r'⟩:=ih k' hk' S1 H1 hI' { A with T:=T1 } h1 h2 q
   refine ⟨e,S',H',T',p',q',N+N'+1,fun f m k hf hm hk=>?_⟩
   obtain ⟨f,rfl⟩:∃ g,f=g+1:=⟨f - 1,by omega⟩
   rw [unf,r f m k (by omega) (by omega) (by omega)]
   exact r' f m k (by omega) (by omega) (by omega)
  | _=>
   refine ⟨_,S1,H1,T1,p,q,N+1,fun f m k hf hm hk=>?_⟩
   obtain ⟨f,rfl⟩:∃ g,f=g+1:=⟨f - 1,by omega⟩
   rw [unf,r f m k (by omega) (by omega) (by omega)]

theorem Tri.forget {rd:Bool} {c:Code} {S S0:Rg} {H:Hp} {K:Exit→Rg→Hp→Prop} (h:Tri P kn lo n rd c S0 H K) (hs:∀ j v,lk S0 j=some v→lk S j=some v):Tri P kn lo n rd c S H K:=
 fun A h1 h2 h3=>h A h1 h2 fun j v e=>h3 j v (hs j v e)
end
end Go.Ax

/-! The evaluator for all inputs,4: functions and calls. -/
namespace Go.Ax
open Go Go.RowKit

def VV:List Value→Nat→Rg
 | [],_=>[]
 | v :: r,i=>(i,v) :: VV r (i+1)
theorem qO:∀ (vs:List Value) (i j:Nat),j < i→lk (VV vs i) j=none
 | [],_,_,_=>rfl
 | v :: r,i,j,h=>by
  simp only [VV,lk,ZA]
  rw [decide_eq_false (by omega)]
  exact qO r (i+1) j (by omega)
theorem JV:∀ (vs:List Value) (i:Nat) (T:Tr Value) (j:Nat),(Un vs i T).get j=match lk (VV vs i) j with | some v=>some v | none=>T.get j
 | [],i,T,j=>rfl
 | v :: r,i,T,j=>by
  simp only [Un,VV,lk,ZA]
  rw [JV r (i+1)]
  by_cases h:i=j
  ·subst h
   rw [qO r (i+1) i (by omega)]
   simp [Tr.get_set]
  ·rw [decide_eq_false h]
   simp only [cond_false]
   cases lk (VV r (i+1)) j with
   | some u=>rfl
   | none=>simp only [Tr.get_set];rw [if_neg (fun e=>h e.symm)]
theorem Vc (vs:List Value):ZG (VV vs 0) (Un vs 0 .nil):=fun j v h=>by rw [JV,h]

noncomputable def Ww (P:Program) (S:Rg) (H:Hp):List ResultVar→Option (List Value)
 | []=>some []
 | .tmp t :: r=>match lk S t with
  | none=>none
  | some v=>match Ww P S H r with | none=>none | some vs=>some (v :: vs)
 | .cell a t :: r=>match lk S a with
  | some (.pointer (some ad))=>match WS P H t ad with
   | none=>none
   | some v=>match Ww P S H r with | none=>none | some vs=>some (v :: vs)
  | _=>none
theorem V6 {P:Program} {S:Rg} {H:Hp} {A:Fr} (hA:ZG S A.T):∀ {l:List ResultVar} {vs:List Value},Ww P S H l=some vs→Y0 P A H l=some vs
 | [],vs,h=>h
 | .tmp t :: r,vs,h=>by
  simp only [Ww] at h
  cases h1:lk S t with
  | none=>simp [h1] at h
  | some v=>
   cases h2:Ww P S H r with
   | none=>simp [h1,h2] at h
   | some us=>simp [h1,h2] at h;subst h;simp only [Y0,hA t v h1,V6 hA h2]
 | .cell a t :: r,vs,h=>by
  simp only [Ww] at h
  split at h<;>first | (cases h;done) | skip
  rename_i ad h1
  cases h3:WS P H t ad with
  | none=>simp [h3] at h
  | some v=>
   cases h2:Ww P S H r with
   | none=>simp [h3,h2] at h
   | some us=>simp [h3,h2] at h;subst h;simp only [Y0,hA a _ h1,h3,V6 hA h2]

def Wz:List Value→Value
 | [v]=>v
 | vs=>.tuple vs.toArray

def FnX (P:Program) (kn:Kn) (lo:Nat) (f:FuncId) (args:List Value) (H:Hp) (v:Value) (H':Hp):Prop:=
 ∃ N,∀ m k,N≤m→N≤k→Xg P lo (Yh P kn m k) (fun t a H p=>Yi P kn m k lo t a H p) m f args H none=some (.ret v,H',none)

section
variable {P:Program} {kn:Kn} {lo:Nat}
theorem JJ {f:FuncId} {fn:Func} {c:Code} {args:List Value} {H:Hp} {Q:Value→Hp→Prop} (hf:P.funcs[f]? = some fn) (hc:fn.body=some c) (hl:args.length≤fn.ntmps)
  (h:Tri P kn lo fn.ntmps false c (VV args 0) H fun e S' H'=>(match e with | .normal=>True | .ret=>True | _=>False)∧∃ vs,Ww P S' H' fn.results.toList=some vs∧Q (Wz vs) H') :
  ∃ v H',FnX P kn lo f args H v H'∧Q v H':=by
 obtain ⟨e,S',H',T',⟨he,vs,hres,hq⟩,hk,N,hr⟩:=h { fn:=f,n:=fn.ntmps,T:=Un args 0 .nil,defers:=[],round:=none } rfl rfl (Vc args)
 refine ⟨Wz vs,H',⟨N+1,fun m k hm hk'=>?_⟩,hq⟩
 obtain ⟨m',rfl⟩:∃ g,m=g+1:=⟨m - 1,by omega⟩
 have hr:=hr (m'+1) (m'+1) k (by omega) (by omega) (by omega)
 have hu:Z9 P lo (fun t a H p=>Yi P kn (m'+1) k lo t a H p) fn (m'+1) { fn:=f,n:=fn.ntmps,T:=T',defers:=[],round:=none } H' none=some (.ret (Wz vs),H'):=by
  rw [Z9]
  simp only [V6 (A:={ fn:=f,n:=fn.ntmps,T:=T',defers:=[],round:=none }) hk hres]
  match vs with
  | []=>rfl
  | [v]=>rfl
  | v :: u :: r=>rfl
 unfold Xg
 simp only [hf,hc,Nat.ble_eq_true_of_le hl,cond_true,hr]
 cases e<;>simp only at he<;>simp only [hu]

theorem ZaD {f:FuncId} {cap:Array Value} {args:List Value} {H:Hp} (hs:XK f=false):UA kn lo (.fn (.func f) cap) args H=none:=by
 unfold UA;simp only [hs,cond_false]
theorem ZV {f:FuncId} {cap:Array Value} {args:List Value} {H:Hp} {v:Value} {H':Hp} (hk:UE kn (.fn (.func f) cap) args=none) (h:FnX P kn lo f (args ++ cap.toList) H v H') (hs:XK f=false:=by rfl):ZJ P kn lo (.fn (.func f) cap) args H v H':=by
 obtain ⟨N,h⟩:=h
 refine ⟨N+1,fun m k hm hk'=>?_⟩
 obtain ⟨k,rfl⟩:∃ g,k=g+1:=⟨k - 1,by omega⟩
 have:=h m k (by omega) (by omega)
 have e:Yi P kn m (k+1) lo (.fn (.func f) cap) args H none=some (.ret v,H',none):=this
 unfold Yh
 simp only [hk,ZaD hs,e]
theorem Zk {f:FuncId} {args:List Value} {a:Value} {H:Hp} {v:Value} {H':Hp} (h:FnX P kn lo f (a :: args) H v H') (hs:XK f=false:=by rfl):ZJ P kn lo (.fn (.func f) #[]) (a :: args) H v H':=
 ZV rfl (by simpa using h) hs
theorem VG {f:FuncId} {b:Bool} {H:Hp} (h:kn f=some b):ZJ P kn lo (.fn (.func f) #[]) [] H (.bool b) H:=
 ⟨0,fun m k _ _=>by unfold Yh;simp only [UE,List.size_toArray,List.length_nil,Nat.beq_refl,cond_true,h]⟩
end
end Go.Ax

/-! The evaluator for all inputs,5: words for heaps,and steps. -/
namespace Go.Ax
open Go Go.RowKit

def Cl (H:Hp) (b:Nat) (cs:List Value):Prop:=b < H.next∧∃ e l,H.t.get b=some (.cells cs e l)
structure Zf (H H':Hp) (l:List Nat):Prop where
 le:H.next≤H'.next
 same:∀ b,b < H.next→b ∉ l→H'.t.get b=H.t.get b
 /-- nothing more is only read -/
 rox:∀ b cs,b < H'.next→H'.t.get b=some (.ro cs)→b < H.next∧H.t.get b=some (.ro cs)
theorem Zf.low {H H':Hp} {l:List Nat} {lo:Nat} (k:Zf H H' l) (h:WG lo H):WG lo H':=fun b cs hb hg=>by
 obtain ⟨h1,h2⟩:=k.3 b cs hb hg
 exact h b cs h1 h2
theorem Zf.refl (H:Hp) (l:List Nat):Zf H H l:=⟨Nat.le_refl _,fun _ _ _=>rfl,fun _ _ h k=>⟨h,k⟩⟩
theorem Zf.trans {H H1 H2:Hp} {l:List Nat} (h:Zf H H1 l) (k:Zf H1 H2 l):Zf H H2 l:=
 ⟨Nat.le_trans h.1 k.1,fun b hb hl=>(k.2 b (Nat.lt_of_lt_of_le hb h.1) hl).trans (h.2 b hb hl),fun b cs hb hg=>(k.3 b cs hb hg).elim fun a c=>h.3 b cs a c⟩
theorem Zf.mono {H H1:Hp} {l l':List Nat} (h:Zf H H1 l) (k:∀ b,b∈l→b∈l'):Zf H H1 l':=⟨h.1,fun b hb hl=>h.2 b hb fun q=>hl (k b q),h.3⟩
theorem Zf.cl {H H1:Hp} {l:List Nat} (h:Zf H H1 l) {b:Nat} {cs:List Value} (hc:Cl H b cs) (hl:b ∉ l):Cl H1 b cs:=by
 obtain ⟨h1,e,lz,h2⟩:=hc
 exact ⟨Nat.lt_of_lt_of_le h1 h.1,e,lz,by rw [h.2 b h1 hl];exact h2⟩
theorem Zf.new {H H1 H2:Hp} {l l':List Nat} (h:Zf H H1 l) (k:Zf H1 H2 l') (hl:∀ b,b∈l'→b∈l∨H.next≤b):Zf H H2 l:=
 ⟨Nat.le_trans h.1 k.1,fun b hb hn=>(k.2 b (Nat.lt_of_lt_of_le hb h.1) fun q=>(hl b q).elim hn (fun r=>absurd hb (by omega))).trans (h.2 b hb hn),fun b cs hb hg=>(k.3 b cs hb hg).elim fun a c=>h.3 b cs a c⟩
theorem Cl.of {H:Hp} {b:Nat} {cs:List Value} (h:Cl H b cs):cellsOf H b=some cs:=by
 obtain ⟨_,e,l,h⟩:=h;unfold cellsOf;rw [h]
theorem Cl.lt {H:Hp} {b:Nat} {cs:List Value} (h:Cl H b cs):b < H.next:=h.1
theorem WP {H H1:Hp} {b:Nat} {cs cs':List Value} {e:TypeId} {l:Bool} (hc:Cl H b cs) (h:H.up b (.cells cs' e l)=H1):Zf H H1 [b]∧H1.next=H.next∧Cl H1 b cs':=by
 subst h
 refine ⟨⟨Nat.le_refl _,fun c _ hn=>?_,fun c xs hb hg=>?_⟩,rfl,hc.1,e,l,?_⟩
 ·show (H.t.set b _).get c=_
  rw [Tr.get_set,if_neg (by simpa using hn)]
 ·have hg:(H.t.set b (.cells cs' e l)).get c=some (.ro xs):=hg
  rw [Tr.get_set] at hg
  split at hg
  ·cases hg
  ·exact ⟨hb,hg⟩
 ·show (H.t.set b _).get b=_
  rw [Tr.get_set,if_pos rfl]
theorem ZM {H H1:Hp} {cs:List Value} {e:TypeId} {l:Bool} (h:H.new (.cells cs e l)=H1):Zf H H1 []∧H1.next=H.next+1∧Cl H1 H.next cs:=by
 subst h
 refine ⟨⟨Nat.le_succ _,fun c hc _=>?_,fun c xs hb hg=>?_⟩,rfl,Nat.lt_succ_self _,e,l,?_⟩
 ·show (H.t.set H.next _).get c=_
  rw [Tr.get_set,if_neg (by omega)]
 ·have hg:(H.t.set H.next (.cells cs e l)).get c=some (.ro xs):=hg
  have hb:c < H.next+1:=hb
  rw [Tr.get_set] at hg
  split at hg
  ·cases hg
  ·exact ⟨by omega,hg⟩
 ·show (H.t.set H.next _).get H.next=_
  rw [Tr.get_set,if_pos rfl]

def Rd (H:Hp) (b:Nat) (cs:List Value):Prop:=b < H.next∧cellsOf H b=some cs
theorem Cl.rd {H:Hp} {b:Nat} {cs:List Value} (h:Cl H b cs):Rd H b cs:=⟨h.1,h.of⟩
theorem Rd.lt {H:Hp} {b:Nat} {cs:List Value} (h:Rd H b cs):b < H.next:=h.1
theorem Rd.of {H:Hp} {b:Nat} {cs:List Value} (h:Rd H b cs):cellsOf H b=some cs:=h.2
theorem Zf.rd {H H1:Hp} {l:List Nat} (h:Zf H H1 l) {b:Nat} {cs:List Value} (hc:Rd H b cs) (hl:b ∉ l):Rd H1 b cs:=by
 obtain ⟨h1,h2⟩:=hc
 exact ⟨Nat.lt_of_lt_of_le h1 h.1,by unfold cellsOf at h2 ⊢;rw [h.2 b h1 hl];exact h2⟩
def Sl (H:Hp) (a:Option Addr) (n cap:Nat) (cs:List Value):Prop:=((a=none∨a=some ⟨0,0,some 0⟩)∧n=0∧cap=0∧cs=[])∨∃ b,a=some ⟨b,0,none⟩∧Rd H b cs∧n≤cap
theorem Zf.sl {H H1:Hp} {l:List Nat} (h:Zf H H1 l) {a:Option Addr} {n cap:Nat} {cs:List Value} (hc:Sl H a n cap cs) (hl:∀ b,a=some ⟨b,0,none⟩→b ∉ l):Sl H1 a n cap cs:=
 hc.imp id fun ⟨b,e,r,q⟩=>⟨b,e,h.rd r (hl b e),q⟩
theorem Zf.sl0 {H H1:Hp} (h:Zf H H1 []) {a:Option Addr} {n cap:Nat} {cs:List Value} (hc:Sl H a n cap cs):Sl H1 a n cap cs:=h.sl hc fun _ _=>by simp

theorem WQ {α:Type} {f:α→List Value} {size:Nat}:∀ {l:List α} (_:∀ x∈l,(f x).length=size) {i:Nat} {x:α},l[i]? = some x→row size (l.flatMap f) (0+i * size)=some (f x)
 | [],_,i,x,h=>by simp at h
 | y :: l,hf,0,x,h=>by
  simp at h;subst h
  have:=hf y (by simp)
  simp only [List.flatMap_cons,row,Nat.zero_mul,Nat.add_zero,List.drop_zero,ZA]
  rw [List.take_append_of_le_length (by omega),List.take_of_length_le (by omega),this]
  simp
 | y :: l,hf,i+1,x,h=>by
  have hy:=hf y (by simp)
  have ih:=WQ (l:=l) (fun z hz=>hf z (by simp [hz])) (i:=i) (x:=x) (by simpa using h)
  unfold row at ih ⊢
  rw [Nat.zero_add] at ih ⊢
  rw [List.flatMap_cons,List.drop_append,hy,List.drop_eq_nil_of_le (by rw [hy];exact Nat.le_trans (Nat.le_mul_of_pos_left size (Nat.succ_pos i)) (Nat.le_refl _)),List.nil_append]
  have e:(i+1) * size - size=i * size:=by rw [Nat.succ_mul];omega
  rw [e]
  exact ih
def jv (ws:List Int):List Value:=ws.map (Value.int .i64)
section
variable {P:Program} {kn:Kn} {lo:Nat}
theorem ZdY {f:FuncId} {a:Value} {args:List Value} {b:Bool} {H:Hp} {K:Value→Hp→Prop} (h:∃ H',FnX P kn lo f (a :: args) H (.bool b) H'∧Zf H H' []) (hk:∀ t H',b=t→Zf H H' []→K (.bool t) H') (hs:XK f=false:=by rfl) :
  ∃ v H',ZJ P kn lo (.fn (.func f) #[]) (a :: args) H v H'∧K v H':=by
 obtain ⟨H',h,k⟩:=h
 exact ⟨_,H',Zk h hs,hk b H' rfl k⟩
theorem jH (n:Nat):ZL [.int .i64 0] n=jv (List.replicate n 0):=by
 induction n with
 | zero=>rfl
 | succ n ih=>simp only [ZL,ih,jv,List.replicate_succ,List.map_cons];rfl
theorem JR {n:Nat} {S:Rg} {H:Hp} {d:Option Tmp} {t e ty:TypeId} {x y:Operand} {p:String} {i:TypeInfo} {m:Nat} (he:ZZ P t=some (e,1)) (hz:Ym P e=some (.int .i64 0)) (hi:P.info? e=some i) (hb:i.bytes≤8)
  (hx:evS S x=some (.int .i64 (m:Int))) (hy:evS S y=some (.int .i64 (m:Int))) (hm:m≤1048576) :
  Zu P lo (frS n S) H ⟨d,.makeSlice t x y,ty,p,#[],none⟩=some (.val (.slice (some ⟨H.next,0,none⟩) m m) (H.new (.cells (jv (List.replicate m 0)) e false)),.heavy):=by
 have h1:Nat.ble (i.bytes * m) 1099511627776=true:=Nat.ble_eq_true_of_le (Nat.le_trans (Nat.mul_le_mul hb hm) (by decide))
 unfold Zu
 simp only [YC,hx,hy,he,hz,hi,show ((m:Nat):Int)=Int.ofNat m from rfl,Nat.ble_eq_true_of_le (Nat.le_refl m),h1,Nat.ble_eq_true_of_le hm,Bool.and_true,cond_true]
 rw [← jH]
 rfl

theorem zc {H:Hp} {size n cap:Nat} {a:Option Addr} {cs:List Value} (hs:Sl H a n cap cs) (hl:cs.length=n * size):Xm H size (.slice a n cap)=some (n,cs):=by
 rcases hs with ⟨rfl | rfl,rfl,rfl,rfl⟩ | ⟨b,rfl,hr,_⟩
 ·rfl
 ·rfl
 ·have h:row (n * size) cs 0=some cs:=by
   unfold row
   simp only [List.drop_zero,ZA,← hl,List.take_length,decide_true,cond_true]
  simp only [Xm,hr.of,h]
theorem Zt {f:FuncId} {fn:Func} {R:RC} {n:Nat} {rs:List ResultVar} {args:List Value} {H:Hp} {Q:Value→Hp→Prop} (hf:P.funcs[f]? = some fn) (hb:fn.body=some (at_ fn [])) (hn:fn.ntmps=n) (hz:fn.results.toList=rs) (hL:low P fn.ntmps (at_ fn [])=some R) (hl:args.length≤n)
  (h:wC P kn lo n false R (VV args 0) H fun e S' H'=>(match e with | .normal=>True | .ret=>True | _=>False)∧∃ vs,Ww P S' H' rs=some vs∧Q (Wz vs) H') :
  ∃ v H',FnX P kn lo f args H v H'∧Q v H':=by
 subst hn hz
 exact JJ hf hb hl (Yy false _ hL h)
def JM:Rg→Rg→Prop
 | [],_=>True
 | (j,v) :: r,S=>lk S j=some v∧JM r S
theorem JM.get:∀ {S0 S:Rg},JM S0 S→∀ j v,lk S0 j=some v→lk S j=some v
 | [],_,_,j,v,h=>by cases h
 | (i,u) :: r,S,hs,j,v,h=>by
  simp only [lk,ZA] at h
  by_cases e:i=j
  ·subst e
   simp only [decide_true,cond_true,Option.some.injEq] at h
   subst h
   exact hs.1
  ·rw [decide_eq_false e] at h
   exact hs.2.get j v h
theorem YO {α:Type} {c b:Code} {fn:Func} {n:Nat} {R:RC} {rd:Bool} {S:Rg} {H:Hp} {K:Exit→Rg→Hp→Prop} (hc:c=.loop b) (hn:fn.ntmps=n) (hL:low P fn.ntmps b=some R) (SS:α→Rg) (I:Nat→α→Hp→Prop)
  (k:Nat) (a:α) (hI:I k a H) (hS:JM (SS a) S)
  (hb:∀ k a H,I k a H→wC P kn lo n rd R (SS a) H fun e S' H'=>match e with | .normal=>∃ k' a',k' < k∧I k' a' H'∧JM (SS a') S' | e=>K e S' H') :
  Tri P kn lo n rd c S H K:=by
 subst hc hn
 refine Tri.loop (fun k S H=>∃ a,I k a H∧JM (SS a) S) (fun k S H q=>?_) k S H ⟨a,hI,hS⟩
 obtain ⟨a,q,hs⟩:=q
 refine Tri.forget ((Yy rd _ hL (hb k a H q)).mono fun e S' H' r=>?_) hs.get
 cases e with
 | normal=>obtain ⟨k',a',x,y,z⟩:=r;exact ⟨k',x,a',y,z⟩
 | _=>exact r
end
end Go.Ax

/-! The evaluator for all inputs,6: ranges over functions. -/
namespace Go.Ax
open Go Go.RowKit

section
variable {P:Program} {kn:Kn} {lo n:Nat}

def Y5 (P:Program) (kn:Kn) (lo n:Nat) (c:Code) (S:Rg) (H:Hp) (K:Exit→Rg→Hp→List Deferred→Prop):Prop:=
 ∀ A:Fr,A.n=n→A.round=none→(P.funcs[A.fn]?).isSome=true→ZG S A.T→
  ∃ e S' H' T' D,K e S' H' D∧ZG S' T'∧∃ N,∀ f m k,N≤f→N≤m→N≤k→Zj P lo (Yh P kn m k) f c A H none=some (e,{ A with T:=T',defers:=D ++ A.defers },H',none)

theorem Y5.of {c:Code} {S:Rg} {H:Hp} {K:Exit→Rg→Hp→List Deferred→Prop} (h:Tri P kn lo n false c S H fun e S' H'=>K e S' H' []):Y5 P kn lo n c S H K:=by
 intro A h1 h2 _ h3
 obtain ⟨e,S',H',T',a,b,N,r⟩:=h A h1 (by rw [h2];rfl) h3
 exact ⟨e,S',H',T',[],a,b,N,r⟩
theorem Y5.seqR {x y:Code} {S:Rg} {H:Hp} {K:Exit→Rg→Hp→List Deferred→Prop} (h:Tri P kn lo n false x S H fun e S' H'=>match e with | .normal=>Y5 P kn lo n y S' H' K | e=>K e S' H' []):Y5 P kn lo n (.seq x y) S H K:=by
 intro A h1 h2 h4 h3
 obtain ⟨e,S1,H1,T1,a,b,N1,c⟩:=h A h1 (by rw [h2];rfl) h3
 cases e with
 | normal=>
  obtain ⟨e,S',H',T',D,a',b',N2,c'⟩:=a { A with T:=T1 } h1 h2 h4 b
  refine ⟨e,S',H',T',D,a',b',N1+N2+1,fun f m k hf hm hk=>?_⟩
  obtain ⟨f,rfl⟩:∃ g,f=g+1:=⟨f - 1,by omega⟩
  rw [Zj]
  simp only [c f m k (by omega) (by omega) (by omega)]
  exact c' f m k (by omega) (by omega) (by omega)
 | _=>
  refine ⟨_,S1,H1,T1,[],a,b,N1+1,fun f m k hf hm hk=>?_⟩
  obtain ⟨f,rfl⟩:∃ g,f=g+1:=⟨f - 1,by omega⟩
  rw [Zj]
  simp only [c f m k (by omega) (by omega) (by omega),List.nil_append]
theorem Y5.seqL {x y:Code} {S:Rg} {H:Hp} {K:Exit→Rg→Hp→List Deferred→Prop} (h:Y5 P kn lo n x S H fun e S' H' D=>match e with | .normal=>Tri P kn lo n false y S' H' (fun e S2 H2=>K e S2 H2 D) | e=>K e S' H' D):Y5 P kn lo n (.seq x y) S H K:=by
 intro A h1 h2 h4 h3
 obtain ⟨e,S1,H1,T1,D,a,b,N1,c⟩:=h A h1 h2 h4 h3
 cases e with
 | normal=>
  obtain ⟨e,S',H',T',a',b',N2,c'⟩:=a { A with T:=T1,defers:=D ++ A.defers } h1 (by show A.round.isSome=false;rw [h2];rfl) b
  refine ⟨e,S',H',T',D,a',b',N1+N2+1,fun f m k hf hm hk=>?_⟩
  obtain ⟨f,rfl⟩:∃ g,f=g+1:=⟨f - 1,by omega⟩
  rw [Zj]
  simp only [c f m k (by omega) (by omega) (by omega)]
  exact c' f m k (by omega) (by omega) (by omega)
 | _=>
  refine ⟨_,S1,H1,T1,D,a,b,N1+1,fun f m k hf hm hk=>?_⟩
  obtain ⟨f,rfl⟩:∃ g,f=g+1:=⟨f - 1,by omega⟩
  rw [Zj]
  simp only [c f m k (by omega) (by omega) (by omega)]
theorem Y5.scope {b:Code} {S:Rg} {H:Hp} {K:Exit→Rg→Hp→List Deferred→Prop} (h:Y5 P kn lo n b S H K):Y5 P kn lo n (.scope b) S H K:=by
 intro A h1 h2 h4 h3
 obtain ⟨e,S',H',T',D,p,q,N,r⟩:=h A h1 h2 h4 h3
 refine ⟨e,S',H',T',D,p,q,N+1,fun f m k hf hm hk=>?_⟩
 obtain ⟨f,rfl⟩:∃ g,f=g+1:=⟨f - 1,by omega⟩
 rw [Zj]
 exact r f m k (by omega) (by omega) (by omega)
theorem Y5.block {id:Nat} {b:Code} {S:Rg} {H:Hp} {K:Exit→Rg→Hp→List Deferred→Prop} (h:Y5 P kn lo n b S H fun e S' H' D=>match e with | .exit j=>(bif Nat.beq j id then K .normal S' H' D else K (.exit j) S' H' D) | e=>K e S' H' D):Y5 P kn lo n (.block id b) S H K:=by
 intro A h1 h2 h4 h3
 obtain ⟨e,S',H',T',D,p,q,N,r⟩:=h A h1 h2 h4 h3
 have unf:∀ f m k,Zj P lo (Yh P kn m k) (f+1) (.block id b) A H none=match Zj P lo (Yh P kn m k) f b A H none with
  | some (.exit j,A',H',p')=>bif Nat.beq j id then some (.normal,A',H',p') else some (.exit j,A',H',p')
  | r=>r:=fun f m k=>by rw [Zj];rfl
 cases e with
 | exit j=>
  simp only at p
  cases hj:Nat.beq j id with
  | true=>
   rw [hj] at p
   refine ⟨.normal,S',H',T',D,p,q,N+1,fun f m k hf hm hk=>?_⟩
   obtain ⟨f,rfl⟩:∃ g,f=g+1:=⟨f - 1,by omega⟩
   rw [unf,r f m k (by omega) (by omega) (by omega)]
   simp only [hj,cond_true]
  | false=>
   rw [hj] at p
   refine ⟨.exit j,S',H',T',D,p,q,N+1,fun f m k hf hm hk=>?_⟩
   obtain ⟨f,rfl⟩:∃ g,f=g+1:=⟨f - 1,by omega⟩
   rw [unf,r f m k (by omega) (by omega) (by omega)]
   simp only [hj,cond_false]
 | _=>
  refine ⟨_,S',H',T',D,p,q,N+1,fun f m k hf hm hk=>?_⟩
  obtain ⟨f,rfl⟩:∃ g,f=g+1:=⟨f - 1,by omega⟩
  rw [unf,r f m k (by omega) (by omega) (by omega)]

def Lp (P:Program) (H:Hp) (l:Nat) (st:LoopState) (pe:Option Code) (n:Nat) (S:Rg) (ps:List Tmp) (asg body:Code) (r:Nat):Prop:=
 ∃ fn T,H.t.get l=some (.lp st pe fn n T ps asg body r)∧(P.funcs[fn]?).isSome=true∧ZG S T
theorem Lp.keep {H H1:Hp} {l:Nat} {st:LoopState} {pe:Option Code} {n:Nat} {S:Rg} {ps:List Tmp} {asg body:Code} {r:Nat} {w:List Nat} (h:Lp P H l st pe n S ps asg body r) (k:Zf H H1 w) (hl:l < H.next) (hw:l ∉ w):Lp P H1 l st pe n S ps asg body r:=by
 obtain ⟨fn,T,a,b⟩:=h
 exact ⟨fn,T,by rw [k.2 l hl hw];exact a,b⟩
theorem Lp.weak {H:Hp} {l:Nat} {st:LoopState} {pe:Option Code} {n:Nat} {S S0:Rg} {ps:List Tmp} {asg body:Code} {r:Nat} (h:Lp P H l st pe n S ps asg body r) (k:JM S0 S):Lp P H l st pe n S0 ps asg body r:=by
 obtain ⟨fn,T,a,b,c⟩:=h
 exact ⟨fn,T,a,b,fun j v e=>c j v (k.get j v e)⟩
def Vg (H:Hp) (l:Nat) (st:LoopState) (pe:Option Code) (H1:Hp):Prop:=
 H1.next=H.next∧(∀ b,b≠l→H1.t.get b=H.t.get b)∧(∀ st0 pe0 fn n T ps asg body r,H.t.get l=some (.lp st0 pe0 fn n T ps asg body r)→H1.t.get l=some (.lp st pe fn n T ps asg body r))∧∀ cs,H1.t.get l≠some (.ro cs)
theorem Vg.keep {H H1:Hp} {l:Nat} {st:LoopState} {pe:Option Code} (h:Vg H l st pe H1):Zf H H1 [l]:=⟨by rw [h.1];exact Nat.le_refl _,fun b _ hb=>h.2.1 b (by simpa using hb),fun b cs hb hg=>by
 by_cases e:b=l
 ·subst e;exact absurd hg (h.2.2.2 cs)
 ·exact ⟨by rw [h.1] at hb;exact hb,by rw [h.2.1 b e] at hg;exact hg⟩⟩
theorem Vg.lp {H H1:Hp} {l:Nat} {st st0:LoopState} {pe pe0:Option Code} {n:Nat} {S:Rg} {ps:List Tmp} {asg body:Code} {r:Nat} (h:Vg H l st pe H1) (k:Lp P H l st0 pe0 n S ps asg body r):Lp P H1 l st pe n S ps asg body r:=by
 obtain ⟨fn,T,a,b⟩:=k
 exact ⟨fn,T,h.2.2.1 _ _ _ _ _ _ _ _ _ a,b⟩
theorem WU {H:Hp} {l:Nat} {st st0:LoopState} {pe pe0:Option Code} {fn:FuncId} {n:Nat} {T:Tr Value} {ps:List Tmp} {asg body:Code} {r:Nat} (h:H.t.get l=some (.lp st0 pe0 fn n T ps asg body r)):Vg H l st pe { H with t:=H.t.set l (.lp st pe fn n T ps asg body r) }:=by
 refine ⟨rfl,fun b hb=>by simp only [Tr.get_set];rw [if_neg hb],fun st1 pe1 fn1 n1 T1 ps1 asg1 body1 r1 e=>?_,fun cs e=>by simp only [Tr.get_set,if_true] at e;cases e⟩
 rw [h] at e;cases e
 simp only [Tr.get_set,if_true]

def Jn:List Tmp→List Value→Rg→Option Rg
 | [],[],S=>some S
 | t :: ts,v :: vs,S=>Jn ts vs ((t,v) :: S)
 | _,_,_=>none
theorem zH:∀ (ps:List Tmp) (vs:List Value) (S S1:Rg) (T:Tr Value),ZG S T→Jn ps vs S=some S1→∃ T1,Xf T ps vs=some T1∧ZG S1 T1
 | [],[],S,S1,T,h,e=>by simp only [Jn] at e;cases e;exact ⟨T,rfl,h⟩
 | [],_ :: _,_,_,_,_,e=>by simp [Jn] at e
 | _ :: _,[],_,_,_,_,e=>by simp [Jn] at e
 | t :: ts,v :: vs,S,S1,T,h,e=>by
  simp only [Jn] at e
  exact zH ts vs _ S1 (T.set t v) (ZB h (some t) v) e

theorem Zbm {m k l:Nat} {cap:Array Value} {args:List Value} {H:Hp}:Yi P kn m (k+1) lo (.fn (.yield l) cap) args H none=match H.t.get l with
  | some (.lp .ready pe fn n T params asg body df)=>
   match Xf T params args with
   | none=>none
   | some T'=>
    bif Nat.ble lo l then
    bif (P.funcs[fn]?).isSome && params.all (fun t=>Nat.blt t n) then
    match Zj P lo (Yh P kn m k) m asg { fn,n,T:=T',defers:=[],round:=some l } H none with
    | some (.normal,A,H1,none)=>
     match H1.t.get l with
     | some (.lp .ready pe' fn' n' T2 ps' as_' bo' df')=>
      match Zj P lo (Yh P kn m k) m body A { H1 with t:=H1.t.set l (.lp .busy pe' fn' n' T2 ps' as_' bo' df') } none with
      | none=>none
      | some (e,A',H3,_)=>
       match A'.defers,H3.t.get l with
       | [],some (.lp _ _ a b c d e' g h)=>
        match e with
        | .normal=>some (.ret (.bool true),{ H3 with t:=H3.t.set l (.lp .ready none a b c d e' g h) },none)
        | .ret=>some (.ret (.bool false),{ H3 with t:=H3.t.set l (.lp .done (some .ret) a b c d e' g h) },none)
        | .exit id=>some (.ret (.bool false),{ H3 with t:=H3.t.set l (.lp .done (some (.exit id)) a b c d e' g h) },none)
        | .panic [{ v,recovered:=false,goexit:=false }]=>some (.pan v,H3,none)
        | _=>none
       | _,_=>none
     | _=>none
    | _=>none
    else none
    else none
  | _=>none:=by
 simp only [Yi]
 cases H.t.get l with
 | none=>rfl
 | some o=>
  cases o with
  | lp st a b c d e f g h=>cases st<;>rfl
  | _=>rfl
theorem ZaZ {H:Hp} {l:Nat} {S S1:Rg} {ps:List Tmp} {asg body:Code} {r:Nat} {pe:Option Code} {args:List Value} {Q:Bool→Hp→Prop} (hl:Lp P H l .ready pe n S ps asg body r) (hlo:lo≤l) (hps:ps.all (fun t=>Nat.blt t n)=true) (hb:Jn ps args S=some S1)
  (h:Tri P kn lo n true asg S1 H fun e S2 H1=>(match e with | .normal=>True | _=>False)∧Lp P H1 l .ready pe n S ps asg body r∧∀ H2,Vg H1 l .busy pe H2→Tri P kn lo n true body S2 H2 fun e S3 H3=>Lp P H3 l .busy pe n S ps asg body r∧
   (match e with | .normal=>∀ H4,Vg H3 l .ready none H4→Q true H4 | .ret=>∀ H4,Vg H3 l .done (some .ret) H4→Q false H4 | .exit id=>∀ H4,Vg H3 l .done (some (.exit id)) H4→Q false H4 | _=>False)) :
  ∃ b H',ZJ P kn lo (.fn (.yield l) #[]) args H (.bool b) H'∧Q b H':=by
 obtain ⟨fn,T,hg,hfn,hk⟩:=hl
 obtain ⟨T1,hT1,hk1⟩:=zH ps args S S1 T hk hb
 obtain ⟨e,S2,H1,T2,⟨he,hl1,hbody⟩,hk2,N1,r1⟩:=h { fn,n,T:=T1,defers:=[],round:=some l } rfl rfl hk1
 cases e<;>simp only at he
 obtain ⟨fn1,Ta,hg1,hfn1,hka⟩:=hl1
 obtain ⟨e,S3,H3,T3,⟨hl3,hq⟩,hk3,N2,r2⟩:=hbody _ (WU (st:=.busy) (pe:=pe) hg1) { fn,n,T:=T2,defers:=[],round:=some l } rfl rfl hk2
 obtain ⟨fn3,Tb,hg3,hfn3,hkb⟩:=hl3
 have run:∀ m k,N1+N2+1≤m→N1+N2+1≤k→∀ v st' pe',(match e with | .normal=>some (En.ret (.bool true),LoopState.ready,(none:Option Code)) | .ret=>some (.ret (.bool false),.done,some .ret) | .exit id=>some (.ret (.bool false),.done,some (.exit id)) | _=>none)=some (.ret v,st',pe')→
   Yh P kn m k lo (.fn (.yield l) #[]) args H=some (.ret v,{ H3 with t:=H3.t.set l (.lp st' pe' fn3 n Tb ps asg body r) }):=by
  intro m k hm hk' v st' pe' hv
  obtain ⟨k,rfl⟩:∃ g,k=g+1:=⟨k - 1,by omega⟩
  have r1':=r1 m m k (by omega) (by omega) (by omega)
  have r2':=r2 m m k (by omega) (by omega) (by omega)
  have key:Yi P kn m (k+1) lo (.fn (.yield l) #[]) args H none=some (.ret v,{ H3 with t:=H3.t.set l (.lp st' pe' fn3 n Tb ps asg body r) },none):=by
   rw [Zbm]
   simp only [hg,hT1,Nat.ble_eq_true_of_le hlo,hfn,hps,Bool.and_true,cond_true,r1',hg1,r2',hg3]
   cases e<;>simp at hv
   all_goals
    obtain ⟨rfl,rfl,rfl⟩:=hv
    rfl
  unfold Yh
  simp only [UE,UA,key]
 cases e<;>simp only at hq
 ·exact ⟨true,_,⟨N1+N2+1,fun m k hm hk=>run m k hm hk _ _ _ rfl⟩,hq _ (WU hg3)⟩
 ·exact ⟨false,_,⟨N1+N2+1,fun m k hm hk=>run m k hm hk _ _ _ rfl⟩,hq _ (WU hg3)⟩
 ·exact ⟨false,_,⟨N1+N2+1,fun m k hm hk=>run m k hm hk _ _ _ rfl⟩,hq _ (WU hg3)⟩

theorem Y5.range {fo:Operand} {ps:Array Tmp} {asg body:Code} {S:Rg} {H:Hp} {K:Exit→Rg→Hp→List Deferred→Prop} {fn:Fn} {first cap:Array Value} (hfo:evS S fo=some (.func fn first cap))
  (h:∀ H1,Zf H H1 []→H1.next=H.next+2→H1.t.get H.next=some (.dfr (some []))→Lp P H1 (H.next+1) .ready none n S ps.toList asg body H.next→
   ∃ v H2,ZJ P kn lo (.fn fn cap) (first.toList ++ [.func (.yield (H.next+1)) #[] #[]]) H1 v H2∧∃ st pe S',Lp P H2 (H.next+1) st pe n S' ps.toList asg body H.next∧st≠.busy∧
    ∀ H3,Vg H2 (H.next+1) .exhausted pe H3→match pe with | none=>K .normal S H3 [{ target:=.collected H.next,args:=#[] }] | some (.exit id)=>K (.exit id) S H3 [{ target:=.collected H.next,args:=#[] }] | some .ret=>K .ret S H3 [{ target:=.collected H.next,args:=#[] }] | _=>False) :
  Y5 P kn lo n (.rangeFunc fo ps asg body) S H K:=by
 intro A h1 h2 h4 h3
 obtain ⟨v,H2,⟨N,hc⟩,st,pe,S',⟨fn',T',hg,hfn,hk⟩,hst,hK⟩:=h ((H.new (.dfr (some []))).new (.lp .ready none A.fn A.n A.T ps.toList asg body H.next))
  ⟨by show H.next≤H.next+1+1;omega,fun b hb _=>by simp only [Hp.new,Tr.get_set];rw [if_neg (by omega),if_neg (by omega)],fun b cs hb hg=>by
   have hb:b < H.next+1+1:=hb
   simp only [Hp.new,Tr.get_set] at hg
   by_cases e1:b=H.next+1
   ·rw [if_pos e1] at hg;cases hg
   ·rw [if_neg e1] at hg
    by_cases e2:b=H.next
    ·rw [if_pos e2] at hg;cases hg
    ·rw [if_neg e2] at hg;exact ⟨by omega,hg⟩⟩ rfl (by simp only [Hp.new,Tr.get_set];rw [if_neg (by omega),if_pos trivial]) ⟨A.fn,A.T,by simp only [Hp.new,Tr.get_set];rw [if_pos trivial,h1],h4,h3⟩
 have hK:=hK _ (WU (st:=.exhausted) (pe:=pe) hg)
 cases pe with
 | none=>
  refine ⟨.normal,S,_,A.T,_,hK,h3,N+1,fun f m k hf hm hk=>?_⟩
  obtain ⟨f,rfl⟩:∃ g,f=g+1:=⟨f - 1,by omega⟩
  have hc':=hc m k (by omega) (by omega)
  rw [Zj]
  simp only [h2,ZH h3 hfo,hc',hg]
  cases st<;>first | exact absurd rfl hst | rfl
 | some c=>
  cases c<;>simp only at hK
  ·refine ⟨.exit _,S,_,A.T,_,hK,h3,N+1,fun f m k hf hm hk=>?_⟩
   obtain ⟨f,rfl⟩:∃ g,f=g+1:=⟨f - 1,by omega⟩
   have hc':=hc m k (by omega) (by omega)
   rw [Zj]
   simp only [h2,ZH h3 hfo,hc',hg]
   cases st<;>first | exact absurd rfl hst | rfl
  ·refine ⟨.ret,S,_,A.T,_,hK,h3,N+1,fun f m k hf hm hk=>?_⟩
   obtain ⟨f,rfl⟩:∃ g,f=g+1:=⟨f - 1,by omega⟩
   have hc':=hc m k (by omega) (by omega)
   rw [Zj]
   simp only [h2,ZH h3 hfo,hc',hg]
   cases st<;>first | exact absurd rfl hst | rfl

theorem zq {H:Hp} {r:Nat} {o:Ob} (ho:∀ cs,o≠.ro cs):Zf H { H with t:=H.t.set r o } [r]:=by
 refine ⟨Nat.le_refl _,fun b _ hb=>?_,fun b cs hb hg=>?_⟩
 ·simp only [Tr.get_set];rw [if_neg (by simpa using hb)]
 ·simp only [Tr.get_set] at hg
  split at hg
  ·cases hg;exact absurd rfl (ho cs)
  ·exact ⟨hb,hg⟩
theorem zM {f:FuncId} {fn:Func} {c:Code} {args:List Value} {H:Hp} {Q:Value→Hp→Prop} (hf:P.funcs[f]? = some fn) (hc:fn.body=some c) (hl:args.length≤fn.ntmps)
  (h:Y5 P kn lo fn.ntmps c (VV args 0) H fun e S' H' D=>(match e with | .normal=>True | .ret=>True | _=>False)∧
   ((D=[]∧∃ vs,Ww P S' H' fn.results.toList=some vs∧Q (Wz vs) H')∨
    ∃ r,D=[{ target:=.collected r,args:=#[] }]∧lo≤r∧H'.t.get r=some (.dfr (some []))∧∀ H2,H2.next=H'.next→Zf H' H2 [r]→∃ vs,Ww P S' H2 fn.results.toList=some vs∧Q (Wz vs) H2)) :
  ∃ v H',FnX P kn lo f args H v H'∧Q v H':=by
 obtain ⟨e,S',H',T',D,⟨he,hcase⟩,hk,N,hr⟩:=h { fn:=f,n:=fn.ntmps,T:=Un args 0 .nil,defers:=[],round:=none } rfl rfl (by rw [hf];rfl) (Vc args)
 have last:∀ m k H2 vs,1≤m→Ww P S' H2 fn.results.toList=some vs→Z9 P lo (fun t a H p=>Yi P kn m k lo t a H p) fn m { fn:=f,n:=fn.ntmps,T:=T',defers:=[],round:=none } H2 none=some (.ret (Wz vs),H2):=by
  intro m k H2 vs hm hres
  obtain ⟨m',rfl⟩:∃ g,m=g+1:=⟨m - 1,by omega⟩
  rw [Z9]
  simp only [V6 (A:={ fn:=f,n:=fn.ntmps,T:=T',defers:=[],round:=none }) hk hres]
  match vs with
  | []=>rfl
  | [v]=>rfl
  | v :: u :: r=>rfl
 rcases hcase with ⟨rfl,vs,hres,hq⟩ | ⟨r,rfl,hlr,hg,hcase⟩
 ·refine ⟨Wz vs,H',⟨N+1,fun m k hm hk'=>?_⟩,hq⟩
  have hr:=hr m m k (by omega) (by omega) (by omega)
  simp only [List.append_nil] at hr
  unfold Xg
  simp only [hf,hc,Nat.ble_eq_true_of_le hl,cond_true,hr]
  cases e<;>simp only at he<;>simp only [last m k H' vs (by omega) hres]
 ·obtain ⟨vs,hres,hq⟩:=hcase { H' with t:=H'.t.set r (.dfr none) } rfl (zq (fun cs e=>by cases e))
  refine ⟨Wz vs,_,⟨N+2,fun m k hm hk'=>?_⟩,hq⟩
  have hr:=hr m m k (by omega) (by omega) (by omega)
  simp only [List.append_nil] at hr
  have hu:Z9 P lo (fun t a H p=>Yi P kn m k lo t a H p) fn m { fn:=f,n:=fn.ntmps,T:=T',defers:=[{ target:=.collected r,args:=#[] }],round:=none } H' none=some (.ret (Wz vs),{ H' with t:=H'.t.set r (.dfr none) }):=by
   obtain ⟨m',rfl⟩:∃ g,m=g+2:=⟨m - 2,by omega⟩
   rw [Z9]
   simp only [hg,Nat.ble_eq_true_of_le hlr,cond_true,List.nil_append]
   rw [Z9]
   simp only [V6 (A:={ fn:=f,n:=fn.ntmps,T:=T',defers:=[],round:=none }) hk hres]
   match vs with
   | []=>rfl
   | [v]=>rfl
   | v :: u :: r=>rfl
  unfold Xg
  simp only [hf,hc,Nat.ble_eq_true_of_le hl,cond_true,hr]
  cases e<;>simp only at he<;>simp only [hu]
end
end Go.Ax

/-! The evaluator for all inputs,7: panics,and deferred calls. -/
namespace Go.Ax
open Go Go.RowKit

section
variable {P:Program} {kn:Kn} {lo n:Nat} {rd:Bool}

theorem j5 {ops:List Oper} {ord ord':Bool} {o:Oper} {c:Call} (h:X2 P ops ord o=some (.call c ord')):o.op=.call c∧∀ b,c.callee≠.builtin b:=by
 unfold X2 at h
 split at h<;>rename_i hop<;>(repeat' (first | (cases h;done) | (unfold cond at h) | (split at h)))
 all_goals first
  | (cases h;done)
  | (injection h with h;injection h with h1 h2;subst h1;refine ⟨hop,fun b e=>?_⟩;simp_all;done)
  | skip
inductive LV (P:Program) (n:Nat):Code→RC→Prop
 | low {c:Code} {r:RC}:Go.Ax.low P n c=some r→LV P n c r
 | other (c:Code):LV P n c (.other c)
 | seq {x y:Code} {a b:RC}:LV P n x a→LV P n y b→LV P n (.seq x y) (.seq a b)
 | block (id:Nat) {x:Code} {a:RC}:LV P n x a→LV P n (.block id x) (.block id a)
 | cond (o:Operand) {x y:Code} {a b:RC}:LV P n x a→LV P n y b→LV P n (.cond o x y) (.cond o a b)
theorem Tri.blockV {id:Nat} {b:Code} {S:Rg} {H:Hp} {K:Exit→Rg→Hp→Prop} (h:Tri P kn lo n rd b S H fun e S' H'=>match e with | .exit j=>(bif Nat.beq j id then K .normal S' H' else K (.exit j) S' H') | e=>K e S' H'):Tri P kn lo n rd (.block id b) S H K:=by
 intro A h1 h2 h3
 obtain ⟨e,S',H',T',p,q,N,r⟩:=h A h1 h2 h3
 have unf:∀ f m k,Zj P lo (Yh P kn m k) (f+1) (.block id b) A H none=match Zj P lo (Yh P kn m k) f b A H none with
  | some (.exit j,A',H',p')=>bif Nat.beq j id then some (.normal,A',H',p') else some (.exit j,A',H',p')
  | r=>r:=fun f m k=>by rw [Zj];rfl
 cases e with
 | exit j=>
  simp only at p
  cases hj:Nat.beq j id with
  | true=>
   rw [hj] at p
   refine ⟨.normal,S',H',T',p,q,N+1,fun f m k hf hm hk=>?_⟩
   obtain ⟨f,rfl⟩:∃ g,f=g+1:=⟨f - 1,by omega⟩
   rw [unf,r f m k (by omega) (by omega) (by omega)]
   simp only [hj,cond_true]
  | false=>
   rw [hj] at p
   refine ⟨.exit j,S',H',T',p,q,N+1,fun f m k hf hm hk=>?_⟩
   obtain ⟨f,rfl⟩:∃ g,f=g+1:=⟨f - 1,by omega⟩
   rw [unf,r f m k (by omega) (by omega) (by omega)]
   simp only [hj,cond_false]
 | _=>
  refine ⟨_,S',H',T',p,q,N+1,fun f m k hf hm hk=>?_⟩
  obtain ⟨f,rfl⟩:∃ g,f=g+1:=⟨f - 1,by omega⟩
  rw [unf,r f m k (by omega) (by omega) (by omega)]
theorem Tri.cond {o:Operand} {x y:Code} {S:Rg} {H:Hp} {K:Exit→Rg→Hp→Prop} {t:Bool} (ht:evS S o=some (.bool t)) (hx:t=true→Tri P kn lo n rd x S H K) (hy:t=false→Tri P kn lo n rd y S H K):Tri P kn lo n rd (.cond o x y) S H K:=by
 intro A h1 h2 h3
 cases t with
 | true=>
  obtain ⟨e,S',H',T',p,q,N,r⟩:=hx rfl A h1 h2 h3
  refine ⟨e,S',H',T',p,q,N+1,fun f m k hf hm hk=>?_⟩
  obtain ⟨f,rfl⟩:∃ g,f=g+1:=⟨f - 1,by omega⟩
  rw [Zj]
  simp only [ZH h3 ht]
  exact r f m k (by omega) (by omega) (by omega)
 | false=>
  obtain ⟨e,S',H',T',p,q,N,r⟩:=hy rfl A h1 h2 h3
  refine ⟨e,S',H',T',p,q,N+1,fun f m k hf hm hk=>?_⟩
  obtain ⟨f,rfl⟩:∃ g,f=g+1:=⟨f - 1,by omega⟩
  rw [Zj]
  simp only [ZH h3 ht]
  exact r f m k (by omega) (by omega) (by omega)
theorem ZdP {c:Code} {r:RC} (hl:LV P n c r):∀ {S:Rg} {H:Hp} {K:Exit→Rg→Hp→Prop},wC P kn lo n rd r S H K→Tri P kn lo n rd c S H K:=by
 induction hl with
 | low h=>exact fun w=>Yy rd _ h w
 | other c=>exact fun w=>w
 | seq _ _ ih1 ih2=>exact fun w=>Tri.seq ((ih1 w).mono fun e S' H' q=>by
   cases e with
   | normal=>exact ih2 q
   | _=>exact q)
 | block id _ ih=>exact fun w=>Tri.blockV (ih w)
 | cond o _ _ ih1 ih2=>
  intro S H K w
  simp only [wC] at w
  split at w<;>first | exact w.elim | skip
  rename_i t ht
  exact Tri.cond ht (fun h=>ih1 (w.1 h)) (fun h=>ih2 (w.2 h))
end
end Go.Ax

/-! The evaluator for all inputs,8: iterators whose loop panics,and functions with a deferred call that recovers. -/
namespace Go.Ax
open Go Go.RowKit

section
variable {P:Program} {kn:Kn} {lo n:Nat}

/-! Deferred functions,which may recover. -/
def Qz (P:Program) (kn:Kn) (lo n:Nat) (c:Code) (S:Rg) (H:Hp) (p:Par) (K:Exit→Rg→Hp→Par→Prop):Prop:=
 ∀ A:Fr,A.n=n→A.round=none→ZG S A.T→
  ∃ e S' H' T' p',K e S' H' p'∧ZG S' T'∧∃ N,∀ f m k,N≤f→N≤m→N≤k→Zj P lo (Yh P kn m k) f c A H p=some (e,{ A with T:=T' },H',p')
theorem Qz.seq {c x y:Code} {S:Rg} {H:Hp} {p:Par} {K:Exit→Rg→Hp→Par→Prop} (hc:c=.seq x y) (h:Qz P kn lo n x S H p fun e S' H' p'=>match e with | .normal=>Qz P kn lo n y S' H' p' K | e=>K e S' H' p'):Qz P kn lo n c S H p K:=by
 subst hc
 intro A h1 h2 h3
 obtain ⟨e,S1,H1,T1,p1,a,b,N1,c⟩:=h A h1 h2 h3
 cases e with
 | normal=>
  obtain ⟨e,S',H',T',p',a',b',N2,c'⟩:=a { A with T:=T1 } h1 h2 b
  refine ⟨e,S',H',T',p',a',b',N1+N2+1,fun f m k hf hm hk=>?_⟩
  obtain ⟨f,rfl⟩:∃ g,f=g+1:=⟨f - 1,by omega⟩
  rw [Zj]
  simp only [c f m k (by omega) (by omega) (by omega)]
  exact c' f m k (by omega) (by omega) (by omega)
 | _=>
  refine ⟨_,S1,H1,T1,p1,a,b,N1+1,fun f m k hf hm hk=>?_⟩
  obtain ⟨f,rfl⟩:∃ g,f=g+1:=⟨f - 1,by omega⟩
  rw [Zj]
  simp only [c f m k (by omega) (by omega) (by omega)]
theorem Qz.cond {c:Code} {o:Operand} {x y:Code} {S:Rg} {H:Hp} {p:Par} {K:Exit→Rg→Hp→Par→Prop} {t:Bool} (hc:c=.cond o x y) (ht:evS S o=some (.bool t)) (hx:t=true→Qz P kn lo n x S H p K) (hy:t=false→Qz P kn lo n y S H p K):Qz P kn lo n c S H p K:=by
 subst hc
 intro A h1 h2 h3
 cases t with
 | true=>
  obtain ⟨e,S',H',T',p',a,q,N,r⟩:=hx rfl A h1 h2 h3
  refine ⟨e,S',H',T',p',a,q,N+1,fun f m k hf hm hk=>?_⟩
  obtain ⟨f,rfl⟩:∃ g,f=g+1:=⟨f - 1,by omega⟩
  rw [Zj]
  simp only [ZH h3 ht]
  exact r f m k (by omega) (by omega) (by omega)
 | false=>
  obtain ⟨e,S',H',T',p',a,q,N,r⟩:=hy rfl A h1 h2 h3
  refine ⟨e,S',H',T',p',a,q,N+1,fun f m k hf hm hk=>?_⟩
  obtain ⟨f,rfl⟩:∃ g,f=g+1:=⟨f - 1,by omega⟩
  rw [Zj]
  simp only [ZH h3 ht]
  exact r f m k (by omega) (by omega) (by omega)
theorem Qz.skip {c:Code} {S:Rg} {H:Hp} {p:Par} {K:Exit→Rg→Hp→Par→Prop} (hc:c=.skip) (h:K .normal S H p):Qz P kn lo n c S H p K:=by
 subst hc
 intro A h1 h2 h3
 refine ⟨.normal,S,H,A.T,p,h,h3,1,fun f m k hf hm hk=>?_⟩
 obtain ⟨f,rfl⟩:∃ g,f=g+1:=⟨f - 1,by omega⟩
 rfl
inductive RQ where
 | ro (o:RO)
 | rcv (d:Option Nat)
def Zch (P:Program) (n:Nat) (ops:List Oper) (o:Oper):Option RQ:=
 match o.op,o.guard with
 | .call { callee:=.builtin .recover,args:=⟨[]⟩,.. },none=>bif (match o.dst with | none=>true | some d=>Nat.ble (d+1) n) then some (.rcv o.dst) else none
 | _,_=>match WM P n ops true o with | some r=>some (.ro r) | none=>none
def QP (P:Program) (n:Nat) (ops:List Oper):List Oper→Option (List RQ)
 | []=>some []
 | o :: r=>match Zch P n ops o with
  | none=>none
  | some x=>match QP P n ops r with | none=>none | some l=>some (x :: l)
def Qh (P:Program) (kn:Kn) (lo n:Nat):List RQ→Rg→Hp→Par→(Rg→Hp→Par→Prop)→Prop
 | [],S,H,p,K=>K S H p
 | .ro o :: r,S,H,p,K=>wRO P kn lo n S H o fun S' H' _=>Qh P kn lo n r S' H' p K
 | .rcv d :: r,S,H,p,K=>match p with
  | some (v,false)=>Qh P kn lo n r (Zv S d v) H (some (v,true)) K
  | p=>Qh P kn lo n r (Zv S d .nilIface) H p K
theorem Ql {ops:Array Oper}:∀ (rest pre:List Oper) {rl:List RQ} {A:Fr} {S:Rg} {H:Hp} {p:Par} {K:Rg→Hp→Par→Prop},ops.toList=pre ++ rest→QP P n ops.toList rest=some rl→ZG S A.T→A.n=n→A.round=none→Qh P kn lo n rl S H p K→
  ∃ S' H' T' p',K S' H' p'∧ZG S' T'∧∃ N,∀ m k,N≤m→N≤k→ZX P lo (Yh P kn m k) ops (List.range' pre.length rest.length) A H p=some (.normal,{ A with T:=T' },H',p')
 | [],pre,rl,A,S,H,p,K,he,hl,hA,hn,hr,h=>by
  simp only [QP] at hl;cases hl
  exact ⟨S,H,A.T,p,h,hA,0,fun m k _ _=>rfl⟩
 | o :: rest,pre,rl,A,S,H,p,K,he,hl,hA,hn,hr,h=>by
  simp only [QP] at hl
  split at hl<;>first | (cases hl;done) | skip
  rename_i rp hrp
  split at hl<;>first | (cases hl;done) | skip
  rename_i l hrest
  cases hl
  have ho:ops[pre.length]? = some o:=by
   have:ops.toList[pre.length]? = some o:=by rw [he];simp
   simpa using this
  have he2:ops.toList=(pre ++ [o]) ++ rest:=by rw [he];simp
  have ih:=fun {A':Fr} {S':Rg} {H':Hp} {p':Par} (hA':ZG S' A'.T) (hn':A'.n=n) (hr':A'.round=none) (h':Qh P kn lo n l S' H' p' K)=>Ql rest (pre ++ [o]) (rl:=l) he2 hrest hA' hn' hr' h'
  simp only [List.length_append,List.length_singleton] at ih
  have hrg:List.range' pre.length (o :: rest).length=pre.length :: List.range' (pre.length+1) rest.length:=by simp [List.range']
  rw [hrg]
  unfold Zch at hrp
  split at hrp
  ·rename_i ts hop hg
   obtain ⟨hdst,hrp⟩:=Zc hrp
   cases hrp
   have hw:ZE ops A o=some true:=by unfold ZE;rw [hg]
   have ea:aOp P lo A H o=some (.recov,.full):=by
    have:Zo P A o=none:=by unfold Zo;rw [hop];rfl
    unfold aOp;rw [this];unfold Zu;rw [hop];rfl
   have hput:=fun v=>KN (A:=A) (d:=o.dst) (by rw [hn];exact hdst) v
   by_cases hp:∃ v,p=some (v,false)
   ·obtain ⟨v,rfl⟩:=hp
    obtain ⟨S',H',T',p',a,b,N,c⟩:=ih (A':={ A with T:=Yp A.T o.dst v }) (ZB hA o.dst v) hn hr h
    refine ⟨S',H',T',p',a,b,N,fun m k hm hk=>?_⟩
    rw [ZX]
    simp only [ho,hw,ea,hr,hput]
    have:=c m k hm hk
    simp only [hr] at this
    exact this
   ·have h':Qh P kn lo n l (Zv S o.dst .nilIface) H p K:=by
     match p,hp,h with
     | none,_,h=>exact h
     | some (v,true),_,h=>exact h
     | some (v,false),hp,_=>exact absurd ⟨v,rfl⟩ hp
    obtain ⟨S',H',T',p',a,b,N,c⟩:=ih (A':={ A with T:=Yp A.T o.dst .nilIface }) (ZB hA o.dst .nilIface) hn hr h'
    refine ⟨S',H',T',p',a,b,N,fun m k hm hk=>?_⟩
    have:=c m k hm hk
    simp only [hr] at this
    rw [ZX]
    simp only [ho,hw,ea,hr,hput]
    match p,hp with
    | none,_=>exact this
    | some (v,true),_=>exact this
    | some (v,false),hp=>exact absurd ⟨v,rfl⟩ hp
  ·split at hrp<;>first | (cases hrp;done) | skip
   rename_i ro hro
   cases hrp
   simp only [Qh] at h
   obtain ⟨hput,hcase⟩:=WV hro hA hn h
   rcases hcase with ⟨hw,h⟩ | ⟨hw,hdone⟩
   ·obtain ⟨S',H',T',p',a,b,N,c⟩:=ih (A':={ A with T:=Yp A.T o.dst undef }) (ZB hA o.dst undef) hn hr h
    refine ⟨S',H',T',p',a,b,N,fun m k hm hk=>?_⟩
    rw [ZX]
    simp only [ho,hw,hput]
    exact c m k hm hk
   ·rcases hdone with ⟨v,H1,kd,e1,_,h⟩ | ⟨H1,kd,e1,h⟩ | ⟨t,vs,v,H1,e1,_,⟨N1,hc⟩,h⟩ | ⟨_,_,_,_,_,_,hf,_⟩
    rotate_right
    ·cases hf
    ·obtain ⟨S',H',T',p',a,b,N,c⟩:=ih (A':={ A with T:=Yp A.T o.dst v }) (ZB hA o.dst v) hn hr h
     refine ⟨S',H',T',p',a,b,N,fun m k hm hk=>?_⟩
     rw [ZX]
     simp only [ho,hw,e1,hput]
     exact c m k hm hk
    ·obtain ⟨S',H',T',p',a,b,N,c⟩:=ih (A':={ A with T:=Yp A.T o.dst undef }) (ZB hA o.dst undef) hn hr h
     refine ⟨S',H',T',p',a,b,N,fun m k hm hk=>?_⟩
     rw [ZX]
     simp only [ho,hw,e1,hput]
     exact c m k hm hk
    ·obtain ⟨S',H',T',p',a,b,N,c⟩:=ih (A':={ A with T:=Yp A.T o.dst v }) (ZB hA o.dst v) hn hr h
     refine ⟨S',H',T',p',a,b,N+N1,fun m k hm hk=>?_⟩
     rw [ZX]
     have:=hc m k (by omega) (by omega)
     simp only [cond_true] at this
     simp only [ho,hw,e1,this,hput]
     exact c m k (by omega) (by omega)
theorem Qz.reg {c:Code} {id:Nat} {ops:Array Oper} {rl:List RQ} {S:Rg} {H:Hp} {p:Par} {K:Exit→Rg→Hp→Par→Prop} (hc:c=.region id ops false) (hl:QP P n ops.toList ops.toList=some rl) (h:Qh P kn lo n rl S H p fun S' H' p'=>K .normal S' H' p'):Qz P kn lo n c S H p K:=by
 subst hc
 intro A h1 h2 h3
 obtain ⟨S',H',T',p',a,b,N,r⟩:=Ql (ops:=ops) (A:=A) ops.toList [] (by simp) hl h3 h1 h2 h
 refine ⟨.normal,S',H',T',p',a,b,N+1,fun f m k hf hm hk=>?_⟩
 obtain ⟨f,rfl⟩:∃ g,f=g+1:=⟨f - 1,by omega⟩
 rw [Zj]
 have:=r m k (by omega) (by omega)
 simp only [List.length_nil] at this
 simp only [cond_false,List.range_eq_range']
 simpa using this
end
end Go.Ax

/-! The evaluator for all inputs,9: drawn regions that panic. -/
namespace Go.Ax
open Go Go.RowKit

section
variable {P:Program} {kn:Kn} {lo n:Nat} {rd:Bool}
end
end Go.Ax

/-! Steps of drawn regions,one theorem each,and pieces (written by program). -/
namespace Go.Ax
open Go Go.RowKit
section
variable {P:Program} {kn:Kn} {lo n:Nat} {masks:List Nat} {r:List RO} {ks:List Kd} {S:Rg} {H:Hp} {K:Rg→Hp→Prop} {d:Option Nat} {x y:Operand} {rd:Bool}
theorem W1 {ops:List RO} {c:RC} {K:Exit→Rg→Hp→Prop} (h:Zx P kn lo n masks ops [] S H fun S' H'=>wC P kn lo n rd c S' H' K):wC P kn lo n rd (.seq (.dreg ops masks) c) S H K:=.inl h
theorem Yr {v:Value} (hx:evS S x=some v) (h:Zx P kn lo n masks r (.pure :: ks) (Zv S d v) H K):Zx P kn lo n masks (⟨d,none,.mov x⟩ :: r) ks S H K:=by
 show match evS S x with | some v=>Zx P kn lo n masks r (.pure :: ks) (Zv S d v) H K | none=>False
 rw [hx];exact h
theorem ZC {b o off:Nat} (hx:evS S x=some (.pointer (some ⟨b,o,none⟩))) (h:Zx P kn lo n masks r (.pure :: ks) (Zv S d (.pointer (some ⟨b,o+off,none⟩))) H K):Zx P kn lo n masks (⟨d,none,.addo x off⟩ :: r) ks S H K:=by
 simp only [Zx,wRO,wRI,hx];exact h
theorem Yb {b o m:Nat} {cs:List Value} {v:Value} (hx:evS S x=some (.pointer (some ⟨b,o,none⟩))) (hc:Rd H b cs) (hv:cs[o]? = some v) (h:Zx P kn lo n masks r (.read b :: ks) (Zv S d v) H K):Zx P kn lo n masks (⟨d,none,.ld x m⟩ :: r) ks S H K:=by
 simp only [Zx,wRO,wRI,hx];exact ⟨cs,v,hc.of,hv,hc.lt,h⟩
theorem QZ {o:Oper} {v:Value} (hd:We S o.op.operands.toList=true) (hv:Zo P (frS n S) o=some v) (h:Zx P kn lo n masks r (.pure :: ks) (Zv S d v) H K):Zx P kn lo n masks (⟨d,none,.pur o⟩ :: r) ks S H K:=⟨hd,v,hv,h⟩
theorem Zam {b o m:Nat} {cs:List Value} {v:Value} (hx:evS S x=some (.pointer (some ⟨b,o,none⟩))) (hy:evS S y=some v) (hc:Cl H b cs) (hl:lo≤b) (hm:v.cells.toList.length=m) (h1:v.cells.toList.all one=true) (ho:o+m≤cs.length)
  (h:∀ H1,Zf H H1 [b]→H1.next=H.next→Cl H1 b (Yk cs o v.cells.toList)→Zx P kn lo n masks r (.store b :: ks) (Zv S d undef) H1 K):Zx P kn lo n masks (⟨d,none,.sta x y m⟩ :: r) ks S H K:=by
 simp only [Zx,wRO,wRI,hx,hy]
 obtain ⟨_,e,l,g⟩:=id hc
 exact ⟨cs,e,l,g,hl,hm,h1,ho,fun H1 hH1=>by obtain ⟨a,b,c⟩:=WP hc hH1;exact h H1 a b c⟩
theorem Xv (hp:(bif ks.all calm then True else Q7 ks masks)) (h:K S H):Zx P kn lo n masks [] ks S H K:=⟨hp,h⟩
theorem Uh {b o m:Nat} {cs q:List Value} (hx:evS S x=some (.pointer (some ⟨b,o,none⟩))) (hc:Rd H b cs) (hv:row m cs o=some q) (h:Zx P kn lo n masks r (.read b :: ks) (Zv S d (.agg q.toArray)) H K):Zx P kn lo n masks (⟨d,none,.lda x m⟩ :: r) ks S H K:=by
 simp only [Zx,wRO,wRI,hx];exact ⟨cs,q,hc.of,hv,hc.lt,h⟩
theorem ZcL {a:Option Addr} {m c:Nat} (hx:evS S x=some (.slice a m c)) (h:Zx P kn lo n masks r (.pure :: ks) (Zv S d (.int .i64 (m:Int))) H K):Zx P kn lo n masks (⟨d,none,.len x⟩ :: r) ks S H K:=by
 simp only [Zx,wRO,wRI,hx];exact h
theorem QS {a b:Int} (hx:evS S x=some (.int .i64 a)) (hy:evS S y=some (.int .i64 b)) (h2:InR (a+b)) (h:Zx P kn lo n masks r (.pure :: ks) (Zv S d (.int .i64 (a+b))) H K):Zx P kn lo n masks (⟨d,none,.ari .add x y⟩ :: r) ks S H K:=by
 simp only [Zx,wRO,wRI,hx,hy];exact ⟨h2,h⟩
theorem WJ {b o len cap size k:Nat} {kd:IntKind} {j:Int} (hx:evS S x=some (.slice (some ⟨b,o,none⟩) len cap)) (hy:evS S y=some (.int kd j)) (hj:j=(k:Int)) (hk:k < len) (h:Zx P kn lo n masks r (.pure :: ks) (Zv S d (.pointer (some ⟨b,o+k * size,none⟩))) H K):Zx P kn lo n masks (⟨d,none,.idx x y size⟩ :: r) ks S H K:=by
 simp only [Zx,wRO,wRI,hx,hy];exact ⟨k,hj,hk,h⟩
theorem Uo {c:Call} {t:Target} {vs:List Value} {v:Value} {H':Hp} (ht:Xp S c=some (t,vs)) (hm:Wx t=false) (hc:ZJ P kn H.next t vs H v H') (h:Zx P kn lo n masks r (.heavy :: ks) (Zv S d v) H' K):Zx P kn lo n masks (⟨d,none,.call c false⟩ :: r) ks S H K:=by
 simp only [Zx,wRO,wRI,ht,hm,Bool.and_false,cond_false];exact ⟨v,H',hc,h⟩
theorem Zav {c:Call} {t:Target} {vs:List Value} {v:Value} {H':Hp} (ht:Xp S c=some (t,vs)) (hc:ZJ P kn lo t vs H v H') (h:Zx P kn lo n masks r (.full :: ks) (Zv S d v) H' K):Zx P kn lo n masks (⟨d,none,.call c true⟩ :: r) ks S H K:=by
 simp only [Zx,wRO,wRI,ht,Bool.not_true,Bool.false_and,cond_false,cond_true];exact ⟨v,H',hc,h⟩
theorem qe {a b:Int} (hx:evS S x=some (.int .i64 a)) (hy:evS S y=some (.int .i64 b)) (h2:InR (a - b)) (h:Zx P kn lo n masks r (.pure :: ks) (Zv S d (.int .i64 (a - b))) H K):Zx P kn lo n masks (⟨d,none,.ari .sub x y⟩ :: r) ks S H K:=by
 simp only [Zx,wRO,wRI,hx,hy];exact ⟨h2,h⟩
theorem Ui {g:Nat} {t:Bool} {ri:RI} (hg:lk S g=some (.bool t)) (h:Zx P kn lo n masks (⟨d,none,ri⟩ :: r) ks S H K):Zx P kn lo n masks (⟨d,some (g,t),ri⟩ :: r) ks S H K:=by
 cases t<;>(simp only [Zx,wRO,hg] at h ⊢;exact h)
theorem Zea {small:Bool} {a b:Int} (hx:evS S x=some (.int .i64 a)) (hy:evS S y=some (.int .i64 b)) (h:Zx P kn lo n masks r (.pure :: ks) (Zv S d (.int .i64 (bif small then min a b else max a b))) H K):Zx P kn lo n masks (⟨d,none,.mm small x y⟩ :: r) ks S H K:=by
 simp only [Zx,wRO,wRI,hx,hy];exact h
theorem JY {b o:Nat} {cs:List Value} {v:Value} (hx:evS S x=some (.pointer (some ⟨b,o,none⟩))) (hy:evS S y=some v) (hc:Cl H b cs) (hl:lo≤b) (hv:v.cells.toList=[v]) (h1:one v=true) (ho:o < cs.length)
  (h:∀ H1,Zf H H1 [b]→H1.next=H.next→Cl H1 b (cs.set o v)→Zx P kn lo n masks r (.store b :: ks) (Zv S d undef) H1 K):Zx P kn lo n masks (⟨d,none,.st x y⟩ :: r) ks S H K:=by
 simp only [Zx,wRO,wRI,hx,hy]
 obtain ⟨_,e,l,g⟩:=id hc
 exact ⟨cs,e,l,g,hl,hv,h1,ho,fun H1 hH1=>by obtain ⟨a,b,c⟩:=WP hc hH1;exact h H1 a b c⟩
theorem VL {ops:List RO} {K:Exit→Rg→Hp→Prop} (h:Zx P kn lo n masks ops [] S H fun S' H'=>K .normal S' H'):wC P kn lo n rd (.dreg ops masks) S H K:=.inl h
theorem ZR {g:Nat} {t:Bool} {ri:RI} (hg:lk S g=some (.bool (!t))) (h:Zx P kn lo n masks r (.pure :: ks) (Zv S d undef) H K):Zx P kn lo n masks (⟨d,some (g,t),ri⟩ :: r) ks S H K:=by
 cases t<;>(simp only [Zx,wRO,hg,Bool.not_true,Bool.not_false,cond_true,cond_false] at h ⊢;exact h)
theorem j7 {e:TypeId} {z:List Value} (h:∀ H1,Zf H H1 []→H1.next=H.next+1→Cl H1 H.next z→Zx P kn lo n masks r (.heavy :: ks) (Zv S d (.pointer (some ⟨H.next,0,none⟩))) H1 K):Zx P kn lo n masks (⟨d,none,.alc e z⟩ :: r) ks S H K:=by
 simp only [Zx,wRO,wRI]
 intro H1 hH1
 obtain ⟨k1,n1,c1⟩:=ZM hH1
 exact h H1 k1 n1 c1
theorem Zdq {f:FuncId} {fn:Func} {R:RC} {n:Nat} {rs:List ResultVar} {args:List Value} {H:Hp} {Q:Value→Hp→Prop} (hf:P.funcs[f]? = some fn) (hb:fn.body=some (at_ fn [])) (hn:fn.ntmps=n) (hz:fn.results.toList=rs) (hL:LV P n (at_ fn []) R) (hl:args.length≤n)
  (h:wC P kn lo n false R (VV args 0) H fun e S' H'=>(match e with | .normal=>True | .ret=>True | _=>False)∧∃ vs,Ww P S' H' rs=some vs∧Q (Wz vs) H') :
  ∃ v H',FnX P kn lo f args H v H'∧Q v H':=by
 subst hn hz
 exact JJ hf hb hl (ZdP hL h)
theorem KO {o:Oper} {v:Value} {H':Hp} {k:Kd} (hd:We S o.op.operands.toList=true) (hp:Zo P (frS n S) o=none) (hh:Zu P lo (frS n S) H o=some (.val v H',k)) (hb:∀ b,k=.read b→b < H.next)
  (h:Zx P kn lo n masks r (k :: ks) (Zv S d v) H' K):Zx P kn lo n masks (⟨d,none,.mem o⟩ :: r) ks S H K:=⟨hd,.inr ⟨hp,v,H',k,hh,hb,by cases k with | read b=>exact ⟨hb b rfl,h⟩ | _=>exact h⟩⟩
end
end Go.Ax

namespace Go.Ax
open Go Go.RowKit

section
variable {P:Program} {kn:Kn} {lo n:Nat}
theorem qq {c:Code} {a b:RC} (h:low P n c=some (.seq a b)):∃ x y,c=.seq x y∧low P n x=some a∧low P n y=some b:=by
 cases c<;>simp only [low] at h<;>try (cases h;done)
 ·rename_i id ops draw
  cases draw<;>simp only [cond_true,cond_false] at h
  ·split at h<;>cases h
  ·obtain ⟨_,h⟩:=Zc h
   split at h<;>cases h
 ·rename_i x y
  split at h<;>first | (cases h;done) | skip
  rename_i a' ha
  split at h<;>first | (cases h;done) | skip
  rename_i b' hb
  cases h
  exact ⟨x,y,rfl,ha,hb⟩
 ·split at h<;>first | (cases h;done) | skip
  split at h<;>cases h
 ·split at h<;>cases h
 ·split at h<;>cases h
theorem jD {c:Code} {id:Nat} {a:RC} (h:low P n c=some (.block id a)):∃ x,c=.block id x∧low P n x=some a:=by
 cases c<;>simp only [low] at h<;>try (cases h;done)
 ·rename_i id ops draw
  cases draw<;>simp only [cond_true,cond_false] at h
  ·split at h<;>cases h
  ·obtain ⟨_,h⟩:=Zc h
   split at h<;>cases h
 ·split at h<;>first | (cases h;done) | skip
  split at h<;>cases h
 ·split at h<;>first | (cases h;done) | skip
  split at h<;>cases h
 ·rename_i id' x
  split at h<;>first | (cases h;done) | skip
  rename_i a' ha
  cases h
  exact ⟨x,rfl,ha⟩
 ·split at h<;>cases h
theorem jA {c d:Code} (h:low P n c=some (.other d)):c=d:=by
 cases c<;>simp only [low] at h<;>try (cases h;done)
 ·rename_i id ops draw
  cases draw<;>simp only [cond_true,cond_false] at h
  ·split at h<;>cases h
  ·obtain ⟨_,h⟩:=Zc h
   split at h<;>cases h
 ·split at h<;>first | (cases h;done) | skip
  split at h<;>cases h
 ·split at h<;>first | (cases h;done) | skip
  split at h<;>cases h
 ·split at h<;>cases h
 ·cases h;rfl
 ·cases h;rfl
 ·split at h<;>cases h
theorem Y5.lowR {c:Code} {a b:RC} {S:Rg} {H:Hp} {K:Exit→Rg→Hp→List Deferred→Prop} (hL:low P n c=some (.seq a b)) (h:wC P kn lo n false a S H fun e S' H'=>match e with | .normal=>∀ y,low P n y=some b→Y5 P kn lo n y S' H' K | e=>K e S' H' []):Y5 P kn lo n c S H K:=by
 obtain ⟨x,y,rfl,hx,hy⟩:=qq hL
 refine Y5.seqR ((Yy false x hx h).mono fun e S' H' q=>?_)
 cases e with
 | normal=>exact q y hy
 | _=>exact q
theorem Y5.lowL {c:Code} {a b:RC} {S:Rg} {H:Hp} {K:Exit→Rg→Hp→List Deferred→Prop} (hL:low P n c=some (.seq a b)) (h:∀ x,low P n x=some a→Y5 P kn lo n x S H fun e S' H' D=>match e with | .normal=>wC P kn lo n false b S' H' (fun e S2 H2=>K e S2 H2 D) | e=>K e S' H' D):Y5 P kn lo n c S H K:=by
 obtain ⟨x,y,rfl,hx,hy⟩:=qq hL
 refine Y5.seqL fun A h1 h2 h3 h4=>?_
 obtain ⟨e,S',H',T',D,q,r⟩:=h x hx A h1 h2 h3 h4
 refine ⟨e,S',H',T',D,?_,r⟩
 cases e with
 | normal=>exact Yy false y hy q
 | _=>exact q
theorem Y5.lowB {c:Code} {id:Nat} {d:Code} {S:Rg} {H:Hp} {K:Exit→Rg→Hp→List Deferred→Prop} (hL:low P n c=some (.block id (.other d))) (h:Y5 P kn lo n d S H fun e S' H' D=>match e with | .exit j=>(bif Nat.beq j id then K .normal S' H' D else K (.exit j) S' H' D) | e=>K e S' H' D):Y5 P kn lo n c S H K:=by
 obtain ⟨x,rfl,hx⟩:=jD hL
 have:=jA hx
 subst this
 exact Y5.block h
theorem Zae {f:FuncId} {fn:Func} {R:RC} {n:Nat} {rs:List ResultVar} {args:List Value} {H:Hp} {Q:Value→Hp→Prop} (hf:P.funcs[f]? = some fn) (hb:fn.body=some (at_ fn [])) (hn:fn.ntmps=n) (hz:fn.results.toList=rs) (hL:low P fn.ntmps (at_ fn [])=some R) (hl:args.length≤n)
  (h:∀ y,low P n y=some R→Y5 P kn lo n y (VV args 0) H fun e S' H' D=>(match e with | .normal=>True | .ret=>True | _=>False)∧
   ((D=[]∧∃ vs,Ww P S' H' rs=some vs∧Q (Wz vs) H')∨
    ∃ r,D=[{ target:=.collected r,args:=#[] }]∧lo≤r∧H'.t.get r=some (.dfr (some []))∧∀ H2,H2.next=H'.next→Zf H' H2 [r]→∃ vs,Ww P S' H2 rs=some vs∧Q (Wz vs) H2)) :
  ∃ v H',FnX P kn lo f args H v H'∧Q v H':=by
 subst hn hz
 exact zM hf hb hl (h _ hL)
end
end Go.Ax

/-! Lemmas of no seat (gathered by program). -/
namespace Go.Ax
open Go Go.RowKit

abbrev pt (b:Nat):Value:=.pointer (some ⟨b,0,none⟩)
abbrev iv (x:Int):Value:=.int .i64 x
abbrev ZeC:Value:=.tuple #[]
theorem YN {A B:Prop} (h:A):(true=true→A)∧(true=false→B):=⟨fun _=>h,fun q=>Bool.noConfusion q⟩
theorem YI {A B:Prop} (h:B):(false=true→A)∧(false=false→B):=⟨fun q=>Bool.noConfusion q,fun _=>h⟩
theorem JK {α:Type} {l:List α} {i:Nat} {x:α} (h:l[i]? = some x):i < l.length:=by
 rcases Nat.lt_or_ge i l.length with q | q
 ·exact q
 ·rw [List.getElem?_eq_none q] at h;cases h
section
variable {P:Program} {kn:Kn} {lo:Nat} {H:Hp}
theorem JH:∀ (z vs pre:List Value),z.length=vs.length→Yk (pre ++ z) pre.length vs=pre ++ vs
 | [],[],pre,_=>by simp [Yk]
 | [],_ :: _,_,h=>by simp at h
 | _ :: _,[],_,h=>by simp at h
 | y :: z,v :: vs,pre,h=>by
  rw [Yk,List.set_append_right _ _ (Nat.le_refl _),Nat.sub_self,List.set_cons_zero]
  have:=JH z vs (pre ++ [v]) (by simpa using h)
  simp only [List.append_assoc,List.singleton_append,List.length_append,List.length_singleton] at this
  exact this
theorem X3 {n:Nat} {S:Rg} {H:Hp} {d:Option Tmp} {t e ty:TypeId} {p:String} {size:Nat} {z v:Value} {x:Operand} (he:ZZ P t=some (e,size)) (hz:Ym P e=some z) (hzs:z.cells.toList.length=size) (hx:evS S x=some v) (hv:v.cells.toList.length=size) (hs:size≤16777216) :
  Zu P lo (frS n S) H ⟨d,.buildSlice t 1 #[(0,x)],ty,p,#[],none⟩=some (.val (.slice (some ⟨H.next,0,none⟩) 1 1) (H.new (.cells v.cells.toList e false)),.heavy):=by
 have hp:=JH z.cells.toList v.cells.toList [] (by rw [hzs,hv])
 simp only [List.nil_append,List.length_nil] at hp
 have h2:Nat.ble (0+size) z.cells.toList.length=true:=Nat.ble_eq_true_of_le (by rw [hzs];omega)
 unfold Zu
 simp only [YT,YC,hx,he,hz,Nat.one_mul,Nat.ble_eq_true_of_le hs,cond_true,ZL,List.append_nil,WF,Nat.zero_mul,hv,Nat.beq_refl,h2,Bool.and_self,hp]
end
theorem Cl.sl {H:Hp} {b n cap:Nat} {cs:List Value} (h:Cl H b cs) (hn:n≤cap):Sl H (some ⟨b,0,none⟩) n cap cs:=.inr ⟨b,rfl,h.rd,hn⟩
theorem qS {n:Nat} {cs l:List Value} {i j:Nat} {v:Value} (h:row n cs i=some l) (hj:l[j]? = some v):cs[i+j]? = some v:=by
 obtain ⟨e,hl⟩:=Uu h
 have hjl:=JK hj
 rw [e,List.getElem?_take,if_pos (by omega),List.getElem?_drop] at hj
 exact hj
def Acc (lo f:Nat) (e:TypeId) (H:Hp) (v:Value) (n:Nat) (cs:List Value):Prop:=
 (n=0∧cs=[]∧v=.slice none 0 0)∨∃ b,v=.slice (some ⟨b,0,none⟩) n n∧0 < n∧f≤b∧lo≤b∧b < H.next∧H.t.get b=some (.cells cs e true)
theorem Acc.sl {lo f:Nat} {e:TypeId} {H:Hp} {v:Value} {n:Nat} {cs:List Value} (h:Acc lo f e H v n cs):∃ a cap,v=.slice a n cap∧Sl H a n cap cs∧∀ b,a=some ⟨b,0,none⟩→f≤b:=by
 rcases h with ⟨rfl,rfl,rfl⟩ | ⟨b,rfl,h0,hf,hl,hn,hg⟩
 ·exact ⟨none,0,rfl,.inl ⟨.inl rfl,rfl,rfl,rfl⟩,fun b e=>by cases e⟩
 ·refine ⟨_,_,rfl,.inr ⟨b,rfl,⟨hn,?_⟩,Nat.le_refl _⟩,fun b e=>by cases e;exact hf⟩
  unfold cellsOf;rw [hg]
theorem Acc.keep {lo f:Nat} {e:TypeId} {H H1:Hp} {v:Value} {n:Nat} {cs:List Value} (h:Acc lo f e H v n cs) (k:Zf H H1 []):Acc lo f e H1 v n cs:=
 h.imp id fun ⟨b,e1,h0,hf,hl,hn,hg⟩=>⟨b,e1,h0,hf,hl,Nat.lt_of_lt_of_le hn k.1,by rw [k.2 b hn (by simp)];exact hg⟩
structure Wq (f:Nat) (H H1:Hp):Prop where
 le:H.next≤H1.next
 same:∀ b,b < f→H1.t.get b=H.t.get b
 rox:∀ b cs,b < H1.next→H1.t.get b=some (.ro cs)→b < H.next∧H.t.get b=some (.ro cs)
theorem Wq.keep {f:Nat} {F H H1:Hp} {l:List Nat} (h:Wq f H H1) (k:Zf F H l) (hf:F.next≤f):Zf F H1 l:=
 ⟨Nat.le_trans k.1 h.1,fun b hb hl=>(h.2 b (Nat.lt_of_lt_of_le hb hf)).trans (k.2 b hb hl),fun b cs hb hg=>(h.3 b cs hb hg).elim fun x y=>k.3 b cs x y⟩
theorem Wq.of {f:Nat} {H H1:Hp} (k:Zf H H1 []) (hf:f≤H.next):Wq f H H1:=⟨k.1,fun b hb=>k.2 b (Nat.lt_of_lt_of_le hb hf) (by simp),k.3⟩
section
variable {P:Program} {lo:Nat}
theorem QB {H:Hp} {t0 t1 e ep:TypeId} {size k cap2 f:Nat} {a:Option Addr} {v:Value} {cs news:List Value} (he:ZZ P t0=some (e,size)) (ht:P.underlying t1=some (.slice ep))
  (hs:Sl H a 1 cap2 news) (hl:news.length=1 * size) (hz:0 < size) (hone:news.all one=true) (hcl:cs.length=k * size) (hk:k < 1000) (ha:Acc lo f e H v k cs) (hlo:lo≤H.next) (hf:f≤H.next) :
  ∃ H1 kd,(∀ (n:Nat) (S:Rg) (d:Option Tmp) (x y:Operand) (ty:TypeId) (p:String),evS S x=some v→evS S y=some (.slice a 1 cap2)→Zu P lo (frS n S) H ⟨d,.call ⟨.builtin .append,#[x,y],#[t0,t1]⟩,ty,p,#[],none⟩=some (.val (.slice (some ⟨H.next,0,none⟩) (k+1) (k+1)) H1,kd))∧(kd=.heavy∨∃ b,kd=.store b∧f≤b)∧
   Acc lo f e H1 (.slice (some ⟨H.next,0,none⟩) (k+1) (k+1)) (k+1) (cs ++ news)∧Wq f H H1:=by
 rcases ha with ⟨rfl,rfl,rfl⟩ | ⟨b,rfl,h0,hb,hlb,hn,hg⟩
 ·refine ⟨H.new (.cells news e true),.heavy,?_,.inl rfl,?_,?_⟩
  ·intro n S d x y ty p hx hy
   unfold Zu
   simp only [evs,YC,hx,hy,Ys,List.getElem?_toArray,List.getElem?_cons_zero,List.getElem?_cons_succ,he,ht,zc hs hl,Z6]
   rfl
  ·refine .inr ⟨H.next,rfl,by omega,hf,hlo,Nat.lt_succ_self _,?_⟩
   show (H.t.set H.next _).get H.next=_
   rw [Tr.get_set,if_pos rfl];rfl
  ·exact Wq.of (ZM rfl).1 hf
 ·have h1:Nat.ble (0+(k+1) * size) cs.length=false:=by
   cases h:Nat.ble (0+(k+1) * size) cs.length with
   | false=>rfl
   | true=>have:=Nat.le_of_ble_eq_true h;rw [hcl,Nat.succ_mul] at this;omega
  have h2:Nat.beq (0+k * size) cs.length=true:=by rw [hcl,Nat.zero_add];exact Nat.beq_refl _
  have h3:Nat.ble (k+1) 1048576=true:=Nat.ble_eq_true_of_le (by omega)
  have h4:Nat.beq e e=true:=Nat.beq_refl e
  refine ⟨({ H with t:=H.t.set b .dead }:Hp).new (.cells (cs ++ news) e true),.store b,?_,.inr ⟨b,rfl,hb⟩,?_,?_⟩
  ·intro n S d x y ty p hx hy
   unfold Zu
   simp only [evs,YC,hx,hy,Ys,List.getElem?_toArray,List.getElem?_cons_zero,List.getElem?_cons_succ,he,ht,zc hs hl,Z6,hg,h1,h2,h3,h4,hone,Nat.ble_eq_true_of_le hlb,Bool.and_self,cond_true,cond_false,List.drop_zero,show Nat.beq 1 0=false from rfl]
  ·refine .inr ⟨H.next,rfl,by omega,hf,hlo,Nat.lt_succ_self _,?_⟩
   show ((H.t.set b .dead).set H.next _).get H.next=_
   rw [Tr.get_set,if_pos rfl]
  ·refine ⟨Nat.le_succ _,fun c hc=>?_,fun c xs hc hx=>?_⟩
   ·show ((H.t.set b .dead).set H.next _).get c=_
    rw [Tr.get_set,if_neg (by omega),Tr.get_set,if_neg (by omega)]
   ·have hx:((H.t.set b .dead).set H.next (.cells (cs ++ news) e true)).get c=some (.ro xs):=hx
    have hc:c < H.next+1:=hc
    rw [Tr.get_set] at hx
    split at hx
    ·cases hx
    ·rw [Tr.get_set] at hx
     split at hx
     ·cases hx
     ·exact ⟨by omega,hx⟩
end
theorem KZ {kd:Kd} {f:Nat} (h:kd=.heavy∨∃ b,kd=.store b∧f≤b) (n:Nat):∀ b,kd=.read b→b < n:=by
 rcases h with rfl | ⟨b,rfl,_⟩<;>intro c e<;>cases e
theorem Acc.keepW {lo f:Nat} {e:TypeId} {H H1:Hp} {v:Value} {n x:Nat} {cs:List Value} (h:Acc lo f e H v n cs) (k:Zf H H1 [x]) (hx:x < f):Acc lo f e H1 v n cs:=
 h.imp id fun ⟨b,e1,h0,hf,hl,hn,hg⟩=>⟨b,e1,h0,hf,hl,Nat.lt_of_lt_of_le hn k.1,by rw [k.2 b hn (by simp;omega)];exact hg⟩
theorem yf {P:Program} {t:TypeId} {n:Nat} (ht:XO P t=some true) (hi:∃ i,P.info? t=some i∧i.size=n) {H:Hp} {b:Nat} {cs:List Value} (h:Rd H b cs) (hl:cs.length=n):WS P H t ⟨b,0,none⟩=some (.agg cs.toArray):=by
 obtain ⟨i,h1,h2⟩:=hi
 have hr:row i.size cs 0=some cs:=by
  unfold row
  rw [h2,← hl]
  simp [ZA]
 unfold WS
 simp only [h.of,ht,h1,hr]
theorem Sl.old {H:Hp} {a:Option Addr} {n c:Nat} {cs:List Value} (h:Sl H a n c cs) (b:Nat) (e:a=some ⟨b,0,none⟩):b < H.next:=by
 rcases h with ⟨h | h,_⟩ | ⟨b',e',h,_⟩
 ·rw [h] at e;cases e
 ·rw [h] at e;cases e
 ·rw [e'] at e;cases e;exact h.lt
theorem Wq.cl {f:Nat} {H H1:Hp} {b:Nat} {cs:List Value} (h:Wq f H H1) (hc:Cl H b cs) (hb:b < f):Cl H1 b cs:=by
 obtain ⟨h1,e,lz,h2⟩:=hc
 exact ⟨Nat.lt_of_lt_of_le h1 h.1,e,lz,by rw [h.2 b hb];exact h2⟩
theorem Wq.rd {f:Nat} {H H1:Hp} {b:Nat} {cs:List Value} (h:Wq f H H1) (hc:Rd H b cs) (hb:b < f):Rd H1 b cs:=by
 obtain ⟨h1,h2⟩:=hc
 exact ⟨Nat.lt_of_lt_of_le h1 h.1,by unfold cellsOf at h2 ⊢;rw [h.2 b hb];exact h2⟩
theorem Ul {P:Program} {lo:Nat} {H:Hp} {t0 t1 e ep:TypeId} {size k cap2 f:Nat} {a:Option Addr} {v:Value} {cs news:List Value} (he:ZZ P t0=some (e,size)) (ht:P.underlying t1=some (.slice ep))
  (hs:Sl H a 1 cap2 news) (hl:news.length=1 * size) (hz:0 < size) (hone:news.all one=true) (hcl:cs.length=k * size) (hk:k < 1000) (ha:Acc lo f e H v k cs) (hlo:lo≤H.next) (hf:f≤H.next) :
  ∃ H1 kd,(∀ (n:Nat) (S:Rg) (d:Option Tmp) (x y:Operand) (ty:TypeId) (p:String),evS S x=some v→evS S y=some (.slice a 1 cap2)→Zu P lo (frS n S) H ⟨d,.call ⟨.builtin .append,#[x,y],#[t0,t1]⟩,ty,p,#[],none⟩=some (.val (.slice (some ⟨H.next,0,none⟩) (k+1) (k+1)) H1,kd))∧(kd=.heavy∨∃ b,kd=.store b∧f≤b)∧
   Acc lo f e H1 (.slice (some ⟨H.next,0,none⟩) (k+1) (k+1)) (k+1) (cs ++ news)∧Wq f H H1:=by
 exact QB he ht hs hl hz hone hcl hk ha hlo hf
theorem Wq.sl {f:Nat} {H H1:Hp} {a:Option Addr} {n c:Nat} {cs:List Value} (h:Wq f H H1) (hc:Sl H a n c cs) (hb:∀ b,a=some ⟨b,0,none⟩→b < f):Sl H1 a n c cs:=
 hc.imp id fun ⟨b,e,r,q⟩=>⟨b,e,h.rd r (hb b e),q⟩
def Zdi (b0 lo f:Nat) (e:TypeId) (H:Hp) (v:Value) (n:Nat) (cs:List Value):Prop:=
 (n=0∧cs=[]∧v=.slice (some ⟨b0,0,none⟩) 0 0∧b0 < H.next∧∃ e0,H.t.get b0=some (.cells [] e0 false))∨∃ b,v=.slice (some ⟨b,0,none⟩) n n∧0 < n∧f≤b∧lo≤b∧b < H.next∧H.t.get b=some (.cells cs e true)
theorem Zdi.keep {b0 lo f:Nat} {e:TypeId} {H H1:Hp} {v:Value} {n:Nat} {cs:List Value} (h:Zdi b0 lo f e H v n cs) (k:Zf H H1 []):Zdi b0 lo f e H1 v n cs:=
 h.imp (fun ⟨h1,h2,h3,h4,e0,h5⟩=>⟨h1,h2,h3,Nat.lt_of_lt_of_le h4 k.1,e0,by rw [k.2 b0 h4 (by simp)];exact h5⟩) fun ⟨b,e1,h0,hf,hl,hn,hg⟩=>⟨b,e1,h0,hf,hl,Nat.lt_of_lt_of_le hn k.1,by rw [k.2 b hn (by simp)];exact hg⟩
section
variable {P:Program} {lo:Nat}
end
end Go.Ax

/-! Steps of drawn regions: comparisons. -/
namespace Go.Ax
open Go Go.RowKit
section
variable {P:Program} {kn:Kn} {lo n:Nat} {masks:List Nat} {r:List RO} {ks:List Kd} {S:Rg} {H:Hp} {K:Rg→Hp→Prop} {d:Option Nat} {x y:Operand} {a b:Int}
theorem yc (hx:evS S x=some (.int .i64 a)) (hy:evS S y=some (.int .i64 b)) (h:Zx P kn lo n masks r (.pure :: ks) (Zv S d (.bool (decide (a≤b)))) H K):Zx P kn lo n masks (⟨d,none,.cmp .leq x y⟩ :: r) ks S H K:=by
 simp only [Zx,wRO,wRI,hx,hy];exact h
theorem Zak (hx:evS S x=some (.int .i64 a)) (hy:evS S y=some (.int .i64 b)) (h:Zx P kn lo n masks r (.pure :: ks) (Zv S d (.bool (decide (a > b)))) H K):Zx P kn lo n masks (⟨d,none,.cmp .gtr x y⟩ :: r) ks S H K:=by
 simp only [Zx,wRO,wRI,hx,hy];exact h
theorem Zan (hx:evS S x=some (.int .i64 a)) (hy:evS S y=some (.int .i64 b)) (h:Zx P kn lo n masks r (.pure :: ks) (Zv S d (.bool (a != b))) H K):Zx P kn lo n masks (⟨d,none,.cmp .neq x y⟩ :: r) ks S H K:=by
 simp only [Zx,wRO,wRI,hx,hy];exact h
end
end Go.Ax

/-! Steps of plain regions,one theorem each (written by program,out of those of drawn regions). -/
namespace Go.Ax
open Go Go.RowKit
section
variable {P:Program} {kn:Kn} {lo n:Nat} {r:List RO} {S:Rg} {H:Hp} {K:Rg→Hp→Prop} {d:Option Nat} {x y:Operand} {rd:Bool} {a b:Int}
theorem Ze {ops:List RO} {c:RC} {K:Exit→Rg→Hp→Prop} (h:Zw P kn lo n ops S H fun S' H'=>wC P kn lo n rd c S' H' K):wC P kn lo n rd (.seq (.reg ops) c) S H K:=h
theorem zm {ops:List RO} {K:Exit→Rg→Hp→Prop} (h:Zw P kn lo n ops S H fun S' H'=>K .normal S' H'):wC P kn lo n rd (.reg ops) S H K:=h
theorem ZK {K:Exit→Rg→Hp→Prop} (h:K .normal S H):wC P kn lo n rd .skip S H K:=h
theorem Ze8 {id:Nat} {ops:List RO} {K:Exit→Rg→Hp→Prop} (h:Zw P kn lo n ops S H fun S' H'=>K .normal S' H'):wC P kn lo n rd (.block id (.reg ops)) S H K:=h
theorem ZeK {id:Nat} {ops:List RO} {c:RC} {K:Exit→Rg→Hp→Prop} (h:Zw P kn lo n ops S H fun S' H'=>wC P kn lo n rd c S' H' K):wC P kn lo n rd (.seq (.block id (.reg ops)) c) S H K:=h
theorem JA (h:K S H):Zw P kn lo n [] S H K:=h
theorem KW {id:Nat} {masks:List Nat} {ops:List RO} {K:Exit→Rg→Hp→Prop} (h:Zx P kn lo n masks ops [] S H fun S' H'=>K .normal S' H'):wC P kn lo n rd (.block id (.dreg ops masks)) S H K:=.inl h
theorem qh {id:Nat} {masks:List Nat} {ops:List RO} {c:RC} {K:Exit→Rg→Hp→Prop} (h:Zx P kn lo n masks ops [] S H fun S' H'=>wC P kn lo n rd c S' H' K):wC P kn lo n rd (.seq (.block id (.dreg ops masks)) c) S H K:=.inl h
theorem Vb {id:Nat} {K:Exit→Rg→Hp→Prop} (h:K (.exit id) S H):wC P kn lo n rd (.exit id) S H K:=h
theorem Zb (h:K S H):Zw P kn lo n [] S H K:=h
theorem Ye {e:TypeId} {v:Value} (hx:evS S x=some v) (h:∀ H1,Zf H H1 []→H1.next=H.next+1→Cl H1 H.next v.cells.toList→Zw P kn lo n r (Zv S d (.pointer (some ⟨H.next,0,none⟩))) H1 K):Zw P kn lo n (⟨d,none,.box e x⟩ :: r) S H K:=by
 simp only [Zw,wRO,wRI,hx]
 intro H1 hH1
 obtain ⟨k1,n1,c1⟩:=ZM hH1
 exact h H1 k1 n1 c1
theorem Za {v:Value} (hx:evS S x=some v) (h:Zw P kn lo n r (Zv S d v) H K):Zw P kn lo n (⟨d,none,.mov x⟩ :: r) S H K:=by
 show match evS S x with | some v=>Zw P kn lo n r (Zv S d v) H K | none=>False
 rw [hx];exact h
theorem Zn {b o off:Nat} (hx:evS S x=some (.pointer (some ⟨b,o,none⟩))) (h:Zw P kn lo n r (Zv S d (.pointer (some ⟨b,o+off,none⟩))) H K):Zw P kn lo n (⟨d,none,.addo x off⟩ :: r) S H K:=by
 simp only [Zw,wRO,wRI,hx];exact h
theorem ZD {b o m:Nat} {cs:List Value} {v:Value} (hx:evS S x=some (.pointer (some ⟨b,o,none⟩))) (hc:Rd H b cs) (hv:cs[o]? = some v) (h:Zw P kn lo n r (Zv S d v) H K):Zw P kn lo n (⟨d,none,.ld x m⟩ :: r) S H K:=by
 simp only [Zw,wRO,wRI,hx];exact ⟨cs,v,hc.of,hv,h⟩
theorem Zg {o:Oper} {v:Value} (hd:We S o.op.operands.toList=true) (hv:Zo P (frS n S) o=some v) (h:Zw P kn lo n r (Zv S d v) H K):Zw P kn lo n (⟨d,none,.pur o⟩ :: r) S H K:=⟨hd,v,hv,h⟩
theorem Xz {b o m:Nat} {cs:List Value} {v:Value} (hx:evS S x=some (.pointer (some ⟨b,o,none⟩))) (hy:evS S y=some v) (hc:Cl H b cs) (hl:lo≤b) (hm:v.cells.toList.length=m) (h1:v.cells.toList.all one=true) (ho:o+m≤cs.length)
  (h:∀ H1,Zf H H1 [b]→H1.next=H.next→Cl H1 b (Yk cs o v.cells.toList)→Zw P kn lo n r (Zv S d undef) H1 K):Zw P kn lo n (⟨d,none,.sta x y m⟩ :: r) S H K:=by
 simp only [Zw,wRO,wRI,hx,hy]
 obtain ⟨_,e,l,g⟩:=id hc
 exact ⟨cs,e,l,g,hl,hm,h1,ho,fun H1 hH1=>by obtain ⟨a,b,c⟩:=WP hc hH1;exact h H1 a b c⟩
theorem Z3 {b o m:Nat} {cs q:List Value} (hx:evS S x=some (.pointer (some ⟨b,o,none⟩))) (hc:Rd H b cs) (hv:row m cs o=some q) (h:Zw P kn lo n r (Zv S d (.agg q.toArray)) H K):Zw P kn lo n (⟨d,none,.lda x m⟩ :: r) S H K:=by
 simp only [Zw,wRO,wRI,hx];exact ⟨cs,q,hc.of,hv,h⟩
theorem YL {a:Option Addr} {m c:Nat} (hx:evS S x=some (.slice a m c)) (h:Zw P kn lo n r (Zv S d (.int .i64 (m:Int))) H K):Zw P kn lo n (⟨d,none,.len x⟩ :: r) S H K:=by
 simp only [Zw,wRO,wRI,hx];exact h
theorem Yw {a b:Int} (hx:evS S x=some (.int .i64 a)) (hy:evS S y=some (.int .i64 b)) (h2:InR (a+b)) (h:Zw P kn lo n r (Zv S d (.int .i64 (a+b))) H K):Zw P kn lo n (⟨d,none,.ari .add x y⟩ :: r) S H K:=by
 simp only [Zw,wRO,wRI,hx,hy];exact ⟨h2,h⟩
theorem XH {b o len cap size k:Nat} {kd:IntKind} {j:Int} (hx:evS S x=some (.slice (some ⟨b,o,none⟩) len cap)) (hy:evS S y=some (.int kd j)) (hj:j=(k:Int)) (hk:k < len) (h:Zw P kn lo n r (Zv S d (.pointer (some ⟨b,o+k * size,none⟩))) H K):Zw P kn lo n (⟨d,none,.idx x y size⟩ :: r) S H K:=by
 simp only [Zw,wRO,wRI,hx,hy];exact ⟨k,hj,hk,h⟩
theorem Zq {c:Call} {t:Target} {vs:List Value} {v:Value} {H':Hp} (ht:Xp S c=some (t,vs)) (hc:ZJ P kn lo t vs H v H') (h:Zw P kn lo n r (Zv S d v) H' K):Zw P kn lo n (⟨d,none,.call c true⟩ :: r) S H K:=by
 simp only [Zw,wRO,wRI,ht,Bool.not_true,Bool.false_and,cond_false,cond_true];exact ⟨v,H',hc,h⟩
theorem Q8 {a b:Int} (hx:evS S x=some (.int .i64 a)) (hy:evS S y=some (.int .i64 b)) (h2:InR (a * b)) (h:Zw P kn lo n r (Zv S d (.int .i64 (a * b))) H K):Zw P kn lo n (⟨d,none,.ari .mul x y⟩ :: r) S H K:=by
 simp only [Zw,wRO,wRI,hx,hy];exact ⟨h2,h⟩
theorem Qb {a b:Int} (hx:evS S x=some (.int .i64 a)) (hy:evS S y=some (.int .i64 b)) (h2:InR (a - b)) (h:Zw P kn lo n r (Zv S d (.int .i64 (a - b))) H K):Zw P kn lo n (⟨d,none,.ari .sub x y⟩ :: r) S H K:=by
 simp only [Zw,wRO,wRI,hx,hy];exact ⟨h2,h⟩
theorem yl {a b:Int} (hx:evS S x=some (.int .i64 a)) (hy:evS S y=some (.int .i64 b)) (h0:0≤a) (h1:0 < b) (h2:InR a) (h:Zw P kn lo n r (Zv S d (.int .i64 (a / b))) H K):Zw P kn lo n (⟨d,none,.ari .quo x y⟩ :: r) S H K:=by
 simp only [Zw,wRO,wRI,hx,hy];exact ⟨h0,h1,h2,h⟩
theorem Zs {g:Nat} {t:Bool} {ri:RI} (hg:lk S g=some (.bool t)) (h:Zw P kn lo n (⟨d,none,ri⟩ :: r) S H K):Zw P kn lo n (⟨d,some (g,t),ri⟩ :: r) S H K:=by
 cases t<;>(simp only [Zw,wRO,hg] at h ⊢;exact h)
theorem Zco {small:Bool} {a b:Int} (hx:evS S x=some (.int .i64 a)) (hy:evS S y=some (.int .i64 b)) (h:Zw P kn lo n r (Zv S d (.int .i64 (bif small then min a b else max a b))) H K):Zw P kn lo n (⟨d,none,.mm small x y⟩ :: r) S H K:=by
 simp only [Zw,wRO,wRI,hx,hy];exact h
theorem Zcg {b o:Nat} {cs:List Value} {v:Value} (hx:evS S x=some (.pointer (some ⟨b,o,none⟩))) (hy:evS S y=some v) (hc:Cl H b cs) (hl:lo≤b) (hv:v.cells.toList=[v]) (h1:one v=true) (ho:o < cs.length)
  (h:∀ H1,Zf H H1 [b]→H1.next=H.next→Cl H1 b (cs.set o v)→Zw P kn lo n r (Zv S d undef) H1 K):Zw P kn lo n (⟨d,none,.st x y⟩ :: r) S H K:=by
 simp only [Zw,wRO,wRI,hx,hy]
 obtain ⟨_,e,l,g⟩:=id hc
 exact ⟨cs,e,l,g,hl,hv,h1,ho,fun H1 hH1=>by obtain ⟨a,b,c⟩:=WP hc hH1;exact h H1 a b c⟩
theorem Zh {g:Nat} {t:Bool} {ri:RI} (hg:lk S g=some (.bool (!t))) (h:Zw P kn lo n r (Zv S d undef) H K):Zw P kn lo n (⟨d,some (g,t),ri⟩ :: r) S H K:=by
 cases t<;>(simp only [Zw,wRO,hg,Bool.not_true,Bool.not_false,cond_true,cond_false] at h ⊢;exact h)
theorem Xw {e:TypeId} {z:List Value} (h:∀ H1,Zf H H1 []→H1.next=H.next+1→Cl H1 H.next z→Zw P kn lo n r (Zv S d (.pointer (some ⟨H.next,0,none⟩))) H1 K):Zw P kn lo n (⟨d,none,.alc e z⟩ :: r) S H K:=by
 simp only [Zw,wRO,wRI]
 intro H1 hH1
 obtain ⟨k1,n1,c1⟩:=ZM hH1
 exact h H1 k1 n1 c1
theorem Xs {o:Oper} {v:Value} {H':Hp} {k:Kd} (hd:We S o.op.operands.toList=true) (hp:Zo P (frS n S) o=none) (hh:Zu P lo (frS n S) H o=some (.val v H',k)) (hb:∀ b,k=.read b→b < H.next)
  (h:Zw P kn lo n r (Zv S d v) H' K):Zw P kn lo n (⟨d,none,.mem o⟩ :: r) S H K:=⟨hd,.inr ⟨hp,v,H',k,hh,hb,h⟩⟩
theorem YY (hx:evS S x=some (.int .i64 a)) (hy:evS S y=some (.int .i64 b)) (h:Zw P kn lo n r (Zv S d (.bool (decide (a < b)))) H K):Zw P kn lo n (⟨d,none,.cmp .lss x y⟩ :: r) S H K:=by
 simp only [Zw,wRO,wRI,hx,hy];exact h
theorem j1 (hx:evS S x=some (.int .i64 a)) (hy:evS S y=some (.int .i64 b)) (h:∀ t,(decide (a < b))=t→Zw P kn lo n r (Zv S d (.bool t)) H K):Zw P kn lo n (⟨d,none,.cmpb .lss x y⟩ :: r) S H K:=by
 simp only [Zw,wRO,wRI,hx,hy];exact h
theorem XP (hx:evS S x=some (.int .i64 a)) (hy:evS S y=some (.int .i64 b)) (h:∀ t,(decide (a≤b))=t→Zw P kn lo n r (Zv S d (.bool t)) H K):Zw P kn lo n (⟨d,none,.cmpb .leq x y⟩ :: r) S H K:=by
 simp only [Zw,wRO,wRI,hx,hy];exact h
theorem zp (hx:evS S x=some (.int .i64 a)) (hy:evS S y=some (.int .i64 b)) (h:Zw P kn lo n r (Zv S d (.bool (decide (a > b)))) H K):Zw P kn lo n (⟨d,none,.cmp .gtr x y⟩ :: r) S H K:=by
 simp only [Zw,wRO,wRI,hx,hy];exact h
theorem zK (hx:evS S x=some (.int .i64 a)) (hy:evS S y=some (.int .i64 b)) (h:∀ t,(decide (a > b))=t→Zw P kn lo n r (Zv S d (.bool t)) H K):Zw P kn lo n (⟨d,none,.cmpb .gtr x y⟩ :: r) S H K:=by
 simp only [Zw,wRO,wRI,hx,hy];exact h
theorem WO (hx:evS S x=some (.int .i64 a)) (hy:evS S y=some (.int .i64 b)) (h:Zw P kn lo n r (Zv S d (.bool (decide (a ≥ b)))) H K):Zw P kn lo n (⟨d,none,.cmp .geq x y⟩ :: r) S H K:=by
 simp only [Zw,wRO,wRI,hx,hy];exact h
theorem Zah (hx:evS S x=some (.int .i64 a)) (hy:evS S y=some (.int .i64 b)) (h:Zw P kn lo n r (Zv S d (.bool (a == b))) H K):Zw P kn lo n (⟨d,none,.cmp .eql x y⟩ :: r) S H K:=by
 simp only [Zw,wRO,wRI,hx,hy];exact h
theorem Zal (hx:evS S x=some (.int .i64 a)) (hy:evS S y=some (.int .i64 b)) (h:∀ t,(a == b)=t→Zw P kn lo n r (Zv S d (.bool t)) H K):Zw P kn lo n (⟨d,none,.cmpb .eql x y⟩ :: r) S H K:=by
 simp only [Zw,wRO,wRI,hx,hy];exact h
theorem zI (hx:evS S x=some (.int .i64 a)) (hy:evS S y=some (.int .i64 b)) (h:Zw P kn lo n r (Zv S d (.bool (a != b))) H K):Zw P kn lo n (⟨d,none,.cmp .neq x y⟩ :: r) S H K:=by
 simp only [Zw,wRO,wRI,hx,hy];exact h
theorem j6 (hx:evS S x=some (.int .i64 a)) (hy:evS S y=some (.int .i64 b)) (h:∀ t,(a != b)=t→Zw P kn lo n r (Zv S d (.bool t)) H K):Zw P kn lo n (⟨d,none,.cmpb .neq x y⟩ :: r) S H K:=by
 simp only [Zw,wRO,wRI,hx,hy];exact h
theorem Z2 {c:Call} {f:FuncId} {v:Value} {args:List Value} {t0:Bool} (ht:Xp S c=some (.fn (.func f) #[],v :: args)) (h:∃ H',FnX P kn lo f (v :: args) H (.bool t0) H'∧Zf H H' [])
  (hk:∀ t H',t0=t→Zf H H' []→Zw P kn lo n r (Zv S d (.bool t)) H' K) (hs:XK f=false:=by rfl):Zw P kn lo n (⟨d,none,.call c true⟩ :: r) S H K:=by
 obtain ⟨H',hf,k⟩:=h
 exact Zq ht (Zk hf hs) (hk t0 H' rfl k)

end
end Go.Ax

/-! The evaluator for all inputs,10: operations that are left as_ plain ones (arithmetic that may wrap). -/
namespace Go.Ax
open Go Go.RowKit

def yG (P:Program) (n:Nat) (ops:List Oper) (raw:Bool) (o:Oper):Option RO:=
 bif raw then
  match o.guard with
  | none=>bif (match o.dst with | none=>true | some d=>Nat.ble (d+1) n) then some { dst:=o.dst,guard:=none,ri:=.pur (YZ o) } else none
  | some _=>none
 else WM P n ops true o
def Zet:List Nat→Nat→Bool
 | [],_=>false
 | x :: l,i=>Nat.beq x i || Zet l i
def VM (P:Program) (n:Nat) (ops:List Oper) (raw:List Nat):List Oper→Nat→Option (List RO)
 | [],_=>some []
 | o :: r,i=>match yG P n ops (Zet raw i) o with
  | none=>none
  | some x=>match VM P n ops raw r (i+1) with
   | none=>none
   | some l=>some (x :: l)
section
variable {P:Program} {kn:Kn} {lo n:Nat} {rd:Bool}
theorem yY {ops:Array Oper} {raw:Bool} {A:Fr} {S:Rg} {H:Hp} {K:Rg→Hp→Kd→Prop} {o:Oper} {ro:RO} (hl:yG P n ops.toList raw o=some ro) (hA:ZG S A.T) (hn:A.n=n) (h:wRO P kn lo n S H ro K) :
  (∀ v,A.put o.dst v=some { A with T:=Yp A.T o.dst v })∧
  ((ZE ops A o=some false∧K (Zv S o.dst undef) H .pure)∨(ZE ops A o=some true∧WC P kn lo true A H (fun v H' k=>K (Zv S o.dst v) H' k) o)):=by
 unfold yG at hl
 cases raw with
 | false=>exact WV hl hA hn h
 | true=>
  simp only [cond_true] at hl
  split at hl<;>first | (cases hl;done) | skip
  rename_i hg
  obtain ⟨hd,hl⟩:=Zc hl
  cases hl
  exact ⟨KN (by rw [hn];exact hd),.inr ⟨by unfold ZE;rw [hg],Y2 hA h⟩⟩
theorem Qt {ops:Array Oper} {raw:List Nat}:∀ (rest pre:List Oper) {rl:List RO} {A:Fr} {S:Rg} {H:Hp} {K:Rg→Hp→Prop},ops.toList=pre ++ rest→VM P n ops.toList raw rest pre.length=some rl→ZG S A.T→A.n=n→Zw P kn lo n rl S H K→
  ∃ S' H' T',K S' H'∧ZG S' T'∧∃ N,∀ m k,N≤m→N≤k→ZX P lo (Yh P kn m k) ops (List.range' pre.length rest.length) A H none=some (.normal,{ A with T:=T' },H',none)
 | [],pre,rl,A,S,H,K,he,hl,hA,hn,h=>by
  simp only [VM] at hl;cases hl
  exact ⟨S,H,A.T,h,hA,0,fun m k _ _=>rfl⟩
 | o :: rest,pre,rl,A,S,H,K,he,hl,hA,hn,h=>by
  simp only [VM] at hl
  split at hl<;>first | (cases hl;done) | skip
  rename_i ro hro
  split at hl<;>first | (cases hl;done) | skip
  rename_i l hrest
  cases hl
  simp only [Zw] at h
  have ho:ops[pre.length]? = some o:=by
   have:ops.toList[pre.length]? = some o:=by rw [he];simp
   simpa using this
  have he2:ops.toList=(pre ++ [o]) ++ rest:=by rw [he];simp
  have ih:=fun {A':Fr} {S':Rg} {H':Hp} (hA':ZG S' A'.T) (hn':A'.n=n) (h':Zw P kn lo n l S' H' K)=>Qt rest (pre ++ [o]) (rl:=l) he2 (by simpa using hrest) hA' hn' h'
  simp only [List.length_append,List.length_singleton] at ih
  obtain ⟨hput,hcase⟩:=yY hro hA hn h
  have hr:List.range' pre.length (o :: rest).length=pre.length :: List.range' (pre.length+1) rest.length:=by simp [List.range']
  rw [hr]
  rcases hcase with ⟨hw,h⟩ | ⟨hw,hdone⟩
  ·obtain ⟨S',H',T',a,b,N,c⟩:=ih (A':={ A with T:=Yp A.T o.dst undef }) (ZB hA o.dst undef) hn h
   refine ⟨S',H',T',a,b,N,fun m k hm hk=>?_⟩
   rw [ZX]
   simp only [ho,hw,hput]
   exact c m k hm hk
  ·rcases hdone with ⟨v,H1,kd,e,_,h⟩ | ⟨H1,kd,e,h⟩ | ⟨t,vs,v,H1,e,_,⟨N1,hc⟩,h⟩ | ⟨_,_,_,_,_,_,hf,_⟩
   rotate_right
   ·cases hf
   ·obtain ⟨S',H',T',a,b,N,c⟩:=ih (A':={ A with T:=Yp A.T o.dst v }) (ZB hA o.dst v) hn h
    refine ⟨S',H',T',a,b,N,fun m k hm hk=>?_⟩
    rw [ZX]
    simp only [ho,hw,e,hput]
    exact c m k hm hk
   ·obtain ⟨S',H',T',a,b,N,c⟩:=ih (A':={ A with T:=Yp A.T o.dst undef }) (ZB hA o.dst undef) hn h
    refine ⟨S',H',T',a,b,N,fun m k hm hk=>?_⟩
    rw [ZX]
    simp only [ho,hw,e,hput]
    exact c m k hm hk
   ·obtain ⟨S',H',T',a,b,N,c⟩:=ih (A':={ A with T:=Yp A.T o.dst v }) (ZB hA o.dst v) hn h
    refine ⟨S',H',T',a,b,N+N1,fun m k hm hk=>?_⟩
    rw [ZX]
    have:=hc m k (by omega) (by omega)
    simp only [cond_true] at this
    simp only [ho,hw,e,this,hput]
    exact c m k (by omega) (by omega)

theorem ZaU {c:Code} {id:Nat} {ops:Array Oper} {raw:List Nat} {rl:List RO} {S:Rg} {H:Hp} {K:Exit→Rg→Hp→Prop} (hc:c=.region id ops false) (hl:VM P n ops.toList raw ops.toList 0=some rl) (h:Zw P kn lo n rl S H fun S' H'=>K .normal S' H'):Tri P kn lo n rd c S H K:=by
 subst hc
 intro A h1 h2 h3
 obtain ⟨S',H',T',a,b,N,r⟩:=Qt (ops:=ops) (raw:=raw) ops.toList [] (by simp) hl h3 h1 h
 refine ⟨.normal,S',H',T',a,b,N+1,fun f m k hf hm hk=>?_⟩
 obtain ⟨f,rfl⟩:∃ g,f=g+1:=⟨f - 1,by omega⟩
 rw [Zj]
 have:=r m k (by omega) (by omega)
 simp only [List.length_nil] at this
 simp only [cond_false,List.range_eq_range']
 simpa using this
end
end Go.Ax


/-! The evaluator for all inputs: what is given lies in blocks that are only read. -/
namespace Go.Ax
open Go Go.RowKit

structure Imp where
 blk:Nat
 off:Nat
 cs:List Value

theorem Zcj (f:Nat→Option Ob):∀ n,∃ t:Tr Ob,∀ b,t.get b=if b < n then f b else none
 | 0=>⟨.nil,fun b=>by simp [Tr.get_nil]⟩
 | n+1=>by
  obtain ⟨t,h⟩:=Zcj f n
  cases e:f n with
  | none=>
   refine ⟨t,fun b=>?_⟩
   rw [h]
   by_cases hb:b < n
   ·rw [if_pos hb,if_pos (by omega)]
   ·rw [if_neg hb]
    by_cases hb2:b < n+1
    ·rw [if_pos hb2,show b=n by omega,e]
    ·rw [if_neg hb2]
  | some o=>
   refine ⟨t.set n o,fun b=>?_⟩
   rw [Tr.get_set,h]
   by_cases hb:b=n
   ·subst hb;rw [if_pos rfl,if_pos (by omega),e]
   ·rw [if_neg hb]
    by_cases hb2:b < n
    ·rw [if_pos hb2,if_pos (by omega)]
    ·rw [if_neg hb2,if_neg (by omega)]

section
variable {P:Program}
theorem qX (hm:P.follows .mixedOrders=true) (hN:NoCount P) {kn:Kn} (hkn:Known P kn) {f:FuncId} {args:List Value} {H H':Hp} {b:Bool} {w:World} {r:Ren} {args':Array Value}
  (hrel:Rel P r w.heap.size H w) (hr:∀ b loc,r b=some loc→b < H.next) (ha:LR r args args'.toList) (h:FnX P kn H.next f args H (.bool b) H') :
  Calls P f args' w fun e w'=>e=.returned (.bool b)∧Below w.heap.size w w':=by
 obtain ⟨N,h⟩:=h
 have he:=h N N (Nat.le_refl _) (Nat.le_refl _)
 obtain ⟨hC,hD⟩:=VK hm hN hkn N N
 have hA:Xo (Yh P kn N N):=(WY P kn N N).2
 intro cs
 obtain ⟨_,r',w',pc',fr,q1,q2,q3,q4,q5,q6⟩:=KJ hC hA hm (hD H.next) he (Nat.le_refl _) hrel (args':=args') ha (kind:=.normal) (K:=fun _=>cs) (.inl ⟨rfl,fun _=>rfl⟩) (pc:=none) rfl (fun _=>rfl)
 obtain ⟨v',hv,⟨g1,g2,g3⟩⟩:=q5
 have:=XY hv
 subst this
 exact ⟨.returned (.bool b),w',fr,⟨rfl,q1.below hrel fun b loc e=>.inl (hr b loc e)⟩,q6,q3,g1,g2,q4,g3⟩
end
end Go.Ax

/-! Code whose outcome hangs on what is drawn (ranges over maps): triples over the machine itself. -/
namespace Go.Ax
open Go Go.RowKit
section
variable {P:Program} {kn:Kn} {lo n:Nat} {rd:Bool}

structure Snd (P:Program) (kn:Kn):Prop where
 hm:P.follows .mixedOrders=true
 hN:NoCount P
 hk:Known P kn

def Yj (P:Program) (lo n:Nat) (rd:Bool) (c:Code) (S:Rg) (H:Hp) (K:Exit→Rg→Hp→Prop):Prop:=
 ∀ (base:Nat) (r:Ren) (w:World) (A:Fr) (tmps:Array Value) (ds:List Deferred) (rdv:Option Nat) (cs:List Frame) (k:List Item),
  lo≤H.next→Rel P r base H w→FrR r A tmps ds rdv→A.n=n→A.round.isSome=rd→ZG S A.T→
  ∃ e S' H' T',K e S' H'∧ZG S' T'∧ZN P lo base r H w (lone (mkF A.fn tmps (.code c :: k) ds .normal rdv) cs w) .normal rdv (fun _=>cs) k A e { A with T:=T' } H' none
def V3 (P:Program) (lo n:Nat) (rd:Bool) (ops:Array Oper) (l:List Nat) (S:Rg) (H:Hp) (K:Exit→Rg→Hp→Prop):Prop:=
 ∀ (base:Nat) (r:Ren) (w:World) (A:Fr) (tmps:Array Value) (ds:List Deferred) (rdv:Option Nat) (cs:List Frame) (k:List Item),
  lo≤H.next→Rel P r base H w→FrR r A tmps ds rdv→A.n=n→A.round.isSome=rd→ZG S A.T→
  ∃ e S' H' T',K e S' H'∧ZG S' T'∧ZN P lo base r H w (lone (mkF A.fn tmps (.inRegion ops l :: k) ds .normal rdv) cs w) .normal rdv (fun _=>cs) k A e { A with T:=T' } H' none

theorem Yj.of (s:Snd P kn) {c:Code} {S:Rg} {H:Hp} {K:Exit→Rg→Hp→Prop} (h:Tri P kn lo n rd c S H K):Yj P lo n rd c S H K:=by
 intro base r w A tmps ds rdv cs k hlo hrel hF hn hr hS
 obtain ⟨e,S',H',T',hK,hk,N,run⟩:=h A hn hr hS
 have q:=(KM (rd:=rdv) (kind:=.normal) (K:=fun _=>cs) (base:=base) (VK s.hm s.hN s.hk N N).1 (WY P kn N N).2 s.hm (.inl ⟨rfl,fun _=>rfl⟩) N).1 c k r w H A tmps ds none none e _ H' none (run N N N (Nat.le_refl _) (Nat.le_refl _) (Nat.le_refl _)) hlo hrel hF rfl (fun _=>rfl)
 exact ⟨e,S',H',T',hK,hk,q⟩
theorem Yj.mono {c:Code} {S:Rg} {H:Hp} {K K':Exit→Rg→Hp→Prop} (h:Yj P lo n rd c S H K) (hk:∀ e S' H',K e S' H'→K' e S' H'):Yj P lo n rd c S H K':=by
 intro base r w A tmps ds rdv cs k hlo hrel hF hn hr hS
 obtain ⟨e,S',H',T',a,b⟩:=h base r w A tmps ds rdv cs k hlo hrel hF hn hr hS
 exact ⟨e,S',H',T',hk _ _ _ a,b⟩
theorem Yj.forget {c:Code} {S S0:Rg} {H:Hp} {K:Exit→Rg→Hp→Prop} (h:Yj P lo n rd c S0 H K) (hs:∀ j v,lk S0 j=some v→lk S j=some v):Yj P lo n rd c S H K:=
 fun base r w A tmps ds rdv cs k hlo hrel hF hn hr hS=>h base r w A tmps ds rdv cs k hlo hrel hF hn hr fun j v e=>hS j v (hs j v e)

theorem ZN.go {base:Nat} {r:Ren} {H H1:Hp} {w:World} {M:Machine} {rdv:Option Nat} {cs:List Frame} {k k1:List Item} {A:Fr} {T1:Tr Value} {X:Exit→Hp→Tr Value→Prop} (hlo:lo≤H.next)
  (h:ZN P lo base r H w M .normal rdv (fun _=>cs) k1 A .normal { A with T:=T1 } H1 none)
  (go:∀ r1 w1 tm1 ds1,lo≤H1.next→Rel P r1 base H1 w1→FrR r1 { A with T:=T1 } tm1 ds1 rdv→
   ∃ e H' T',X e H' T'∧ZN P lo base r1 H1 w1 (lone (mkF A.fn tm1 k1 ds1 .normal rdv) cs w1) .normal rdv (fun _=>cs) k { A with T:=T1 } e { A with T:=T' } H' none) :
  ∃ e H' T',X e H' T'∧ZN P lo base r H w M .normal rdv (fun _=>cs) k A e { A with T:=T' } H' none:=by
 obtain ⟨r1,w1,tm1,ds1,pc1,post,hF1,hsm,hp1,harr,_⟩:=h
 have harr:Steps P M (lone (mkF A.fn tm1 k1 ds1 .normal rdv) cs w1):=harr
 obtain ⟨e,H',T',hX,q⟩:=go r1 w1 tm1 ds1 (Nat.le_trans hlo post.next) post.rel hF1
 exact ⟨e,H',T',hX,ZN.of_steps harr (ZN.after hlo post hsm q)⟩

theorem Yj.skip {S:Rg} {H:Hp} {K:Exit→Rg→Hp→Prop} (h:K .normal S H):Yj P lo n rd .skip S H K:=
 fun base r w A tmps ds rdv cs k hlo hrel hF hn hr hS=>⟨.normal,S,H,A.T,h,hS,r,w,tmps,ds,none,Zr.refl hrel,hF,.refl _,rfl,Steps.one qx,fun _=>rfl⟩
theorem Yj.label {l:Nat} {S:Rg} {H:Hp} {K:Exit→Rg→Hp→Prop} (h:K .normal S H):Yj P lo n rd (.label l) S H K:=
 fun base r w A tmps ds rdv cs k hlo hrel hF hn hr hS=>⟨.normal,S,H,A.T,h,hS,r,w,tmps,ds,none,Zr.refl hrel,hF,.refl _,rfl,Steps.one z0,fun _=>rfl⟩
theorem Yj.exit {id:Nat} {S:Rg} {H:Hp} {K:Exit→Rg→Hp→Prop} (h:K (.exit id) S H):Yj P lo n rd (.exit id) S H K:=
 fun base r w A tmps ds rdv cs k hlo hrel hF hn hr hS=>⟨.exit id,S,H,A.T,h,hS,r,w,tmps,ds,none,Zr.refl hrel,hF,.refl _,rfl,⟨k,rfl,.refl _ _⟩,fun _=>rfl⟩
theorem Yj.ret {S:Rg} {H:Hp} {K:Exit→Rg→Hp→Prop} (h:K .ret S H):Yj P lo n rd .ret S H K:=
 fun base r w A tmps ds rdv cs k hlo hrel hF hn hr hS=>⟨.ret,S,H,A.T,h,hS,r,w,tmps,ds,none,Zr.refl hrel,hF,.refl _,rfl,⟨k,.refl _ _⟩,fun _=>rfl⟩
theorem Yj.seq {x y:Code} {S:Rg} {H:Hp} {K:Exit→Rg→Hp→Prop} (h:Yj P lo n rd x S H fun e S' H'=>match e with | .normal=>Yj P lo n rd y S' H' K | e=>K e S' H'):Yj P lo n rd (.seq x y) S H K:=by
 intro base r w A tmps ds rdv cs k hlo hrel hF hn hr hS
 obtain ⟨e,S1,H1,T1,a,b,q⟩:=h base r w A tmps ds rdv cs (.code y :: k) hlo hrel hF hn hr hS
 cases e with
 | normal=>
  obtain ⟨e2,H2,T2,⟨S2,x1,x2⟩,q2⟩:=q.go (X:=fun e H' T'=>∃ S',K e S' H'∧ZG S' T') hlo fun r1 w1 tm1 ds1 hlo1 hrel1 hF1=>by
   obtain ⟨e2,S2,H2,T2,a2,b2,q2⟩:=a base r1 w1 { A with T:=T1 } tm1 ds1 rdv cs k hlo1 hrel1 hF1 hn hr b
   exact ⟨e2,H2,T2,⟨S2,a2,b2⟩,q2⟩
  exact ⟨e2,S2,H2,T2,x1,x2,ZN.of_steps (Steps.one Jl) q2⟩
 | _=>exact ⟨_,S1,H1,T1,a,b,ZN.of_steps (Steps.one Jl) (q.left (fun id _=>by simp [exitTo]) (by simp))⟩
theorem Yj.cond {o:Operand} {x y:Code} {t:Bool} {S:Rg} {H:Hp} {K:Exit→Rg→Hp→Prop} (ho:evS S o=some (.bool t)) (h:Yj P lo n rd (if t then x else y) S H K):Yj P lo n rd (.cond o x y) S H K:=by
 intro base r w A tmps ds rdv cs k hlo hrel hF hn hr hS
 have hv:=XY (evR hF.T (ZH hS ho))
 obtain ⟨e,S1,H1,T1,a,b,q⟩:=h base r w A tmps ds rdv cs k hlo hrel hF hn hr hS
 exact ⟨e,S1,H1,T1,a,b,ZN.of_steps (Steps.one (K5 hv)) q⟩
theorem Yj.block {id:Nat} {b:Code} {S:Rg} {H:Hp} {K:Exit→Rg→Hp→Prop} (h:Yj P lo n rd b S H fun e S' H'=>match e with | .exit j=>(bif Nat.beq j id then K .normal S' H' else K (.exit j) S' H') | e=>K e S' H'):Yj P lo n rd (.block id b) S H K:=by
 intro base r w A tmps ds rdv cs k hlo hrel hF hn hr hS
 obtain ⟨e,S1,H1,T1,a,b,q⟩:=h base r w A tmps ds rdv cs (.inBlock id :: k) hlo hrel hF hn hr hS
 cases e with
 | normal=>
  refine ⟨.normal,S1,H1,T1,a,b,ZN.of_steps (Steps.one XJ) ?_⟩
  obtain ⟨r1,w1,tm1,ds1,pc1,p1,p2,p3,p4,p5,p6⟩:=q
  exact ⟨r1,w1,tm1,ds1,pc1,p1,p2,p3,p4,Steps.trans p5 (Steps.one Ug),p6⟩
 | exit j=>
  simp only at a
  cases hj:Nat.beq j id with
  | true=>
   rw [hj] at a
   have hji:j=id:=Nat.eq_of_beq_eq_true hj
   subst hji
   obtain ⟨r',w',tmps',ds',pc',h1,h2,h3,h4,⟨kx,hk,hs⟩,h6⟩:=q
   have hk':exitTo j kx=some k:=by rw [hk];simp [exitTo]
   exact ⟨.normal,S1,H1,T1,a,b,ZN.of_steps (Steps.one XJ) ⟨r',w',tmps',ds',pc',h1,h2,h3,h4,hs.trans (Steps.one (KX hk')),h6⟩⟩
  | false=>
   rw [hj] at a
   refine ⟨.exit j,S1,H1,T1,a,b,ZN.of_steps (Steps.one XJ) (q.left (fun id' hid=>?_) (by simp))⟩
   cases hid
   have hne:id≠j:=by rintro rfl;simp at hj
   simp [exitTo,hne]
 | _=>exact ⟨_,S1,H1,T1,a,b,ZN.of_steps (Steps.one XJ) (q.left (fun id' hid=>by cases hid) (by simp))⟩
theorem Yj.scope {c:Code} {S:Rg} {H:Hp} {K:Exit→Rg→Hp→Prop} (h:Yj P lo n rd c S H K):Yj P lo n rd (.scope c) S H K:=by
 intro base r w A tmps ds rdv cs k hlo hrel hF hn hr hS
 obtain ⟨e,S1,H1,T1,a,b,q⟩:=h base r w A tmps ds rdv cs (.inScope c :: k) hlo hrel hF hn hr hS
 cases e with
 | normal=>
  refine ⟨.normal,S1,H1,T1,a,b,ZN.of_steps (Steps.one Vv) ?_⟩
  obtain ⟨r1,w1,tm1,ds1,pc1,p1,p2,p3,p4,p5,p6⟩:=q
  exact ⟨r1,w1,tm1,ds1,pc1,p1,p2,p3,p4,Steps.trans p5 (Steps.one V2),p6⟩
 | _=>exact ⟨_,S1,H1,T1,a,b,ZN.of_steps (Steps.one Vv) (q.left (fun id _=>by simp [exitTo]) (by simp))⟩
theorem Yj.loop {b:Code} {K:Exit→Rg→Hp→Prop} (I:Nat→Rg→Hp→Prop)
  (hb:∀ k S H,I k S H→Yj P lo n rd b S H fun e S' H'=>match e with | .normal=>∃ k',k' < k∧I k' S' H' | e=>K e S' H') :
  ∀ k S H,I k S H→Yj P lo n rd (.loop b) S H K:=by
 have key:∀ m S H,I m S H→∀ (base:Nat) (r:Ren) (w:World) (A:Fr) (tmps:Array Value) (ds:List Deferred) (rdv:Option Nat) (cs:List Frame) (k:List Item),
   lo≤H.next→Rel P r base H w→FrR r A tmps ds rdv→A.n=n→A.round.isSome=rd→ZG S A.T→
   ∃ e H' T',(∃ S',K e S' H'∧ZG S' T')∧ZN P lo base r H w (lone (mkF A.fn tmps (.code b :: .inLoop b :: k) ds .normal rdv) cs w) .normal rdv (fun _=>cs) k A e { A with T:=T' } H' none:=by
  intro m
  induction m using Nat.strongRecOn with
  | ind m ih=>
   intro S H hI base r w A tmps ds rdv cs k hlo hrel hF hn hr hS
   obtain ⟨e,S1,H1,T1,a,b',q⟩:=hb m S H hI base r w A tmps ds rdv cs (.inLoop b :: k) hlo hrel hF hn hr hS
   cases e with
   | normal=>
    obtain ⟨m',hm',hI'⟩:=a
    exact q.go (X:=fun e H' T'=>∃ S',K e S' H'∧ZG S' T') hlo fun r1 w1 tm1 ds1 hlo1 hrel1 hF1=>by
     obtain ⟨e2,H2,T2,hX,q2⟩:=ih m' hm' S1 H1 hI' base r1 w1 { A with T:=T1 } tm1 ds1 rdv cs k hlo1 hrel1 hF1 hn hr b'
     exact ⟨e2,H2,T2,hX,ZN.of_steps (Steps.one KA) q2⟩
   | _=>exact ⟨_,H1,T1,⟨S1,a,b'⟩,q.left (fun id _=>by simp [exitTo]) (by simp)⟩
 intro m S H hI base r w A tmps ds rdv cs k hlo hrel hF hn hr hS
 obtain ⟨e,H',T',⟨S',x1,x2⟩,q⟩:=key m S H hI base r w A tmps ds rdv cs k hlo hrel hF hn hr hS
 exact ⟨e,S',H',T',x1,x2,ZN.of_steps (Steps.one qK) q⟩

def XV (P:Program) (lo:Nat) (t:Target) (args:List Value) (H:Hp) (Q:Value→Hp→Prop):Prop:=
 ∀ (r:Ren) (base:Nat) (w:World) (t':Target) (args':Array Value),lo≤H.next→Rel P r base H w→TgR r t t'→LR r args args'.toList→
  ∃ nx fr0,(invoke t' args').run P w=.ok nx w∧XS P .normal nx=some fr0∧∀ c rest,∃ v H' r' w',Q v H'∧Zr P lo base r H w r' H' w'∧∃ v',VR r' v v'∧Steps P (lone fr0 (c :: rest) w) (lone (c.finish v') rest w')
theorem XV.of (s:Snd P kn) {t:Target} {args:List Value} {H:Hp} {v:Value} {H':Hp} (h:ZJ P kn lo t args H v H'):XV P lo t args H fun u H1=>u=v∧H1=H':=by
 obtain ⟨N,h⟩:=h
 intro r base w t' args' hlo hrel ht ha
 obtain ⟨nx,fr0,a,b,c⟩:=(VK s.hm s.hN s.hk N N).1 lo t args H _ _ (h N N (Nat.le_refl _) (Nat.le_refl _)) hlo r base w t' args' hrel ht ha
 refine ⟨nx,fr0,a,b,fun c0 rest=>?_⟩
 obtain ⟨r',w',hp,v',hv,hs⟩:=c c0 rest
 exact ⟨v,H',r',w',⟨rfl,rfl⟩,hp,v',hv,hs⟩
theorem XV.mono {t:Target} {args:List Value} {H:Hp} {Q Q':Value→Hp→Prop} (h:XV P lo t args H Q) (hq:∀ v H',Q v H'→Q' v H'):XV P lo t args H Q':=by
 intro r base w t' args' hlo hrel ht ha
 obtain ⟨nx,fr0,a,b,c⟩:=h r base w t' args' hlo hrel ht ha
 refine ⟨nx,fr0,a,b,fun c0 rest=>?_⟩
 obtain ⟨v,H',r',w',q,x⟩:=c c0 rest
 exact ⟨v,H',r',w',hq _ _ q,x⟩

theorem V3.val {ops:Array Oper} {i:Nat} {rest:List Nat} {o:Oper} {S:Rg} {H:Hp} {K:Exit→Rg→Hp→Prop} (ho:ops[i]? = some o) (hd:∀ c,o.op≠.defer c)
  (h:∀ (base:Nat) (r:Ren) (w:World) (A:Fr) (tmps:Array Value) (ds:List Deferred) (rdv:Option Nat),lo≤H.next→Rel P r base H w→FrR r A tmps ds rdv→A.n=n→ZG S A.T→
   Region.wanted o (yielded ops tmps)=true∧∃ v H1 r1 v' w1 A1,(execOp (evT tmps) o).run P w=.ok (.value v') w1∧VR r1 v v'∧Zr P lo base r H w r1 H1 w1∧A.put o.dst v=some A1∧A1 = { A with T:=Yp A.T o.dst v }∧V3 P lo n rd ops rest (Zv S o.dst v) H1 K) :
  V3 P lo n rd ops (i :: rest) S H K:=by
 intro base r w A tmps ds rdv cs k hlo hrel hF hn hr hS
 obtain ⟨hw,v,H1,r1,v',w1,A1,hrun,hv,hpost,hput,hA1,hrest⟩:=h base r w A tmps ds rdv hlo hrel hF hn hS
 obtain ⟨hF1,hs1,_⟩:=Zar (hF.mono hpost.le) hput hv
 subst hA1
 obtain ⟨e,S',H',T',a,b,q⟩:=hrest base r1 w1 _ _ ds rdv cs k (Nat.le_trans hlo hpost.next) hpost.rel hF1 hn hr (ZB hS o.dst v)
 exact ⟨e,S',H',T',a,b,ZN.of_steps (Steps.one (YA ho hw (.inr hd) hrun)) (ZN.after hlo hpost hs1 q)⟩
theorem V3.nil {ops:Array Oper} {S:Rg} {H:Hp} {K:Exit→Rg→Hp→Prop} (h:K .normal S H):V3 P lo n rd ops [] S H K:=
 fun base r w A tmps ds rdv cs k hlo hrel hF hn hr hS=>⟨.normal,S,H,A.T,h,hS,r,w,tmps,ds,none,Zr.refl hrel,hF,.refl _,rfl,Steps.one WK,fun _=>rfl⟩
theorem Yj.region {id:Nat} {ops:Array Oper} {S:Rg} {H:Hp} {K:Exit→Rg→Hp→Prop} (h:V3 P lo n rd ops (List.range ops.size) S H K):Yj P lo n rd (.region id ops false) S H K:=by
 intro base r w A tmps ds rdv cs k hlo hrel hF hn hr hS
 obtain ⟨e,S1,H1,T1,a,b,q⟩:=h base r w A tmps ds rdv cs k hlo hrel hF hn hr hS
 exact ⟨e,S1,H1,T1,a,b,ZN.of_steps (Steps.one Kb) q⟩
end
end Go.Ax

/-! Maps whose keys and values are flat: what look-ups,entries,and updates come to. -/
namespace Go.Ax
open Go Go.RowKit
noncomputable section
section
variable {P:Program} {α:Type} [DecidableEq α]
theorem YD {β γ:Type} (f:β→Sem γ):∀ (x:Sem β),Zz P (x >>= f)=(Zz P x).bind fun a=>Zz P (f a):=by
 intro x
 induction x with
 | pure a=>rfl
 | program k ih=>exact ih P
 | _=>rfl
theorem Xr {β:Type} (a:β):Zz P (pure a:Sem β)=some a:=rfl
theorem ZcJ {β:Type} {c:Prop} [Decidable c] (a b:Sem β):Zz P (if c then a else b)=if c then Zz P a else Zz P b:=by split<;>rfl
theorem X9 {t:TypeId} {d:TypeDesc} (hu:P.underlying t=some d):Zz P (underlying t)=some d:=by
 simp only [underlying,YD,program,Zz,hu,Option.bind_some]
 rfl
structure Xc (P:Program) (t:TypeId) (enc:α→Value):Prop where
 fl:∀ a,flat (enc a)=true
 chk:∀ a e,Zz P (Instr.checkKey e 10000 t (enc a))=some ()
 now:∃ d,P.underlying t=some d∧((∀ a b,Instr.sameNow d (enc a) (enc b)=some (decide (a=b)))∨((∀ a b,Instr.sameNow d (enc a) (enc b)=none)∧∀ a b,Zz P (Op.equal t (enc a) (enc b))=some (decide (a=b))))
 bits:∀ a,Instr.sameBits 10000 (enc a) (enc a)=true
abbrev ML (α:Type):=List (α × Value × Nat)
def YV (enc:α→Value) (x:α × Value × Nat):MapEntry:=⟨enc x.1,x.2.1,x.2.2⟩
def mEs (enc:α→Value) (L:ML α):Array MapEntry:=(L.map (YV enc)).toArray
def Xn (a:α):ML α→Nat→Option (Nat × Value)
 | [],_=>none
 | x :: r,i=>if a=x.1 then some (i,x.2.1) else Xn a r (i+1)
def ZQ (a:α):ML α→Option Value
 | []=>none
 | x :: r=>if a=x.1 then some x.2.1 else ZQ a r
def Yt (a:α) (c:Nat):ML α→Nat
 | []=>c
 | x :: r=>if a=x.1 then x.2.2 else Yt a c r
def X6 (a:α) (z:Value) (c:Nat):ML α→ML α
 | []=>[(a,z,c)]
 | x :: r=>if a=x.1 then x :: r else x :: X6 a z c r
def YW (a:α) (v:Value) (c:Nat):ML α→ML α
 | []=>[(a,v,c)]
 | x :: r=>if a=x.1 then (x.1,v,x.2.2) :: r else x :: YW a v c r
def YR (a:α) (c:Nat) (L:ML α):Nat:=if (ZQ a L).isSome then c else c+1
def Vq (b:Nat) (v:Value):ML α→ML α
 | []=>[]
 | x :: r=>if b=x.2.2 then (x.1,v,x.2.2) :: r else x :: Vq b v r
structure WfA (L:ML α) (c:Nat):Prop where
 keys:(L.map (·.1)).Nodup
 borns:(L.map (·.2.2)).Nodup
 lt:∀ x∈L,x.2.2 < c
theorem UQ (a:α):∀ (L:ML α) (k:Nat),(Xn a L k).map (·.2)=ZQ a L
 | [],k=>rfl
 | x :: r,k=>by
  simp only [Xn,ZQ]
  split
  ·rfl
  ·exact UQ a r (k+1)
theorem Ux {a:α} {v:Value}:∀ {L:ML α},ZQ a L=some v→∃ b,(a,v,b)∈L
 | [],h=>by simp [ZQ] at h
 | x :: r,h=>by
  simp only [ZQ] at h
  split at h
  ·rename_i e;cases h;exact ⟨x.2.2,by simp [e]⟩
  ·obtain ⟨b,q⟩:=Ux h;exact ⟨b,by simp [q]⟩
theorem qu {L:ML α} {c:Nat} (hw:WfA L c):∀ x∈L,ZQ x.1 L=some x.2.1:=by
 have:=hw.keys
 clear hw
 induction L with
 | nil=>intro x h;cases h
 | cons y r ih=>
  intro x hx
  simp only [ZQ]
  rcases List.mem_cons.1 hx with rfl | hx
  ·rw [if_pos rfl]
  ·simp only [List.map_cons,List.nodup_cons] at this
   rw [if_neg (fun e:x.1=y.1=>this.1 (List.mem_map.2 ⟨x,hx,e⟩))]
   exact ih this.2 x hx
theorem QN (a a':α) (v:Value) (c:Nat):∀ (L:ML α),ZQ a' (YW a v c L)=if a'=a then some v else ZQ a' L
 | []=>by simp [YW,ZQ]
 | x :: r=>by
  simp only [YW]
  split
  ·rename_i h
   subst h
   simp only [ZQ]
   split<;>rfl
  ·rename_i h
   simp only [ZQ]
   split
   ·rename_i e
    subst e
    rw [if_neg (fun e=>h e.symm)]
   ·exact QN a a' v c r
theorem zX (a:α) (v:Value) (c:Nat):∀ (L:ML α) b,b∈(YW a v c L).map (·.1)↔b=a∨b∈L.map (·.1)
 | [],b=>by simp [YW]
 | x :: r,b=>by
  simp only [YW]
  split
  ·rename_i h;subst h;simp
  ·simp only [List.map_cons,List.mem_cons,zX a v c r b]
   constructor
   ·rintro (h | h | h)<;>simp [h]
   ·rintro (h | h | h)<;>simp [h]
theorem J8 (a:α) (v:Value) (c:Nat):∀ (L:ML α) b,b∈(YW a v c L).map (·.2.2)→b=c∨b∈L.map (·.2.2)
 | [],b=>by simp [YW]
 | x :: r,b=>by
  simp only [YW]
  split
  ·intro h;exact .inr (by simpa using h)
  ·intro h
   simp only [List.map_cons,List.mem_cons] at h ⊢
   rcases h with h | h
   ·exact .inr (.inl h)
   ·rcases J8 a v c r b h with h | h
    ·exact .inl h
    ·exact .inr (.inr h)
theorem WfA.nil:WfA ([]:ML α) 0:=⟨List.nodup_nil,List.nodup_nil,fun x h=>by cases h⟩
theorem WfA.put {L:ML α} {c:Nat} (h:WfA L c) (a:α) (v:Value):WfA (YW a v c L) (YR a c L):=by
 have key:∀ (L:ML α),(L.map (·.1)).Nodup→(L.map (·.2.2)).Nodup→(∀ x∈L,x.2.2 < c)→
   ((YW a v c L).map (·.1)).Nodup∧((YW a v c L).map (·.2.2)).Nodup∧∀ x∈YW a v c L,x.2.2 < YR a c L:=by
  intro L
  induction L with
  | nil=>intro _ _ _;simp [YW,YR,ZQ]
  | cons x r ih=>
   intro h1 h2 h3
   simp only [List.map_cons,List.nodup_cons] at h1 h2
   simp only [YW]
   split
   ·rename_i e
    subst e
    refine ⟨by simp only [List.map_cons,List.nodup_cons];exact h1,by simp only [List.map_cons,List.nodup_cons];exact h2,fun y hy=>?_⟩
    have hc:YR x.1 c (x :: r)=c:=by simp [YR,ZQ]
    rw [hc]
    rcases List.mem_cons.1 hy with rfl | hy
    ·exact h3 x (by simp)
    ·exact h3 y (by simp [hy])
   ·rename_i e
    obtain ⟨p,q,s⟩:=ih h1.2 h2.2 (fun y hy=>h3 y (by simp [hy]))
    have hc:YR a c (x :: r)=YR a c r:=by simp [YR,ZQ,e]
    rw [hc]
    have hge:c≤YR a c r:=by unfold YR;split<;>omega
    refine ⟨?_,?_,fun y hy=>?_⟩
    ·simp only [List.map_cons,List.nodup_cons,zX]
     exact ⟨by rintro (q | q);exact e q.symm;exact h1.1 q,p⟩
    ·simp only [List.map_cons,List.nodup_cons]
     refine ⟨fun hm=>?_,q⟩
     rcases J8 a v c r _ hm with q | q
     ·have:=h3 x (by simp);omega
     ·exact h2.1 q
    ·rcases List.mem_cons.1 hy with rfl | hy
     ·have:=h3 y (by simp);omega
     ·exact s y hy
 obtain ⟨p,q,s⟩:=key L h.keys h.borns h.lt
 exact ⟨p,q,s⟩
theorem ZbQ {L:ML α} {c:Nat} (h:WfA L c) (a:α) (z v:Value):Vq (Yt a c L) v (X6 a z c L)=YW a v c L:=by
 have key:∀ (L:ML α),(L.map (·.2.2)).Nodup→(∀ x∈L,x.2.2 < c)→Vq (Yt a c L) v (X6 a z c L)=YW a v c L∧(Yt a c L=c∨Yt a c L∈L.map (·.2.2)):=by
  intro L
  induction L with
  | nil=>intro _ _;simp [Yt,X6,Vq,YW]
  | cons x r ih=>
   intro h2 h3
   simp only [List.map_cons,List.nodup_cons] at h2
   simp only [Yt,X6,YW]
   split
   ·simp [Vq]
   ·obtain ⟨p,q⟩:=ih h2.2 (fun y hy=>h3 y (by simp [hy]))
    have hne:Yt a c r≠x.2.2:=by
     intro e
     rcases q with q | q
     ·have:=h3 x (by simp);omega
     ·exact h2.1 (e ▸ q)
    refine ⟨by simp only [Vq,if_neg hne,p],?_⟩
    rcases q with q | q
    ·exact .inl q
    ·exact .inr (by simp [q])
 exact (key L h.borns h.lt).1

section
variable {t:TypeId} {enc:α→Value}
theorem Jz {d:TypeDesc} (h:∀ a b:α,Instr.sameNow d (enc a) (enc b)=some (decide (a=b))) (a:α):∀ (L:ML α) (i:Nat),Instr.findNow d (enc a) (L.map (YV enc)) i=some (Xn a L i)
 | [],i=>rfl
 | x :: r,i=>by
  simp only [List.map_cons,Instr.findNow,YV,h,Xn]
  by_cases e:a=x.1
  ·simp [e]
  ·rw [decide_eq_false e,if_neg e]
   exact Jz h a r (i+1)
theorem Q6 (h:∀ a b:α,Zz P (Op.equal t (enc a) (enc b))=some (decide (a=b))) (a:α):∀ (L:ML α) (i:Nat),Zz P (Instr.findAsking t (enc a) (L.map (YV enc)) i)=some (Xn a L i)
 | [],i=>rfl
 | x :: r,i=>by
  simp only [List.map_cons,Instr.findAsking,YV,YD,h,Option.bind_some,Xn]
  by_cases e:a=x.1
  ·simp [e,Xr]
  ·rw [decide_eq_false e,if_neg e]
   exact Q6 h a r (i+1)
theorem Xc.find (k:Xc P t enc) (a:α) (L:ML α):Zz P (Instr.findKey t (enc a) (mEs enc L).toList)=some (Xn a L 0):=by
 obtain ⟨d,hu,hd⟩:=k.now
 have hl:(mEs enc L).toList=L.map (YV enc):=by simp [mEs]
 unfold Instr.findKey
 rw [hl,YD,X9 hu,Option.bind_some]
 rcases hd with h | ⟨h1,h2⟩
 ·rw [Jz h];rfl
 ·cases L with
  | nil=>rfl
  | cons x r=>
   have:Instr.findNow d (enc a) ((x :: r).map (YV enc)) 0=none:=by
    simp only [List.map_cons,Instr.findNow,YV,h1]
   rw [this]
   exact Q6 h2 a (x :: r) 0
theorem KI {a:α} {i:Nat} {v:Value}:∀ {L:ML α} {k:Nat},Xn a L k=some (i,v)→∃ j x,i=k+j∧L[j]? = some x∧x.1=a∧x.2.1=v∧Yt a 0 L=x.2.2∧(∀ c,Yt a c L=x.2.2)∧(∀ z c,X6 a z c L=L)∧∀ u c,YW a u c L=L.set j (x.1,u,x.2.2)
 | [],k,h=>by simp [Xn] at h
 | x :: r,k,h=>by
  simp only [Xn] at h
  split at h
  ·rename_i e
   cases h
   exact ⟨0,x,rfl,rfl,e.symm,rfl,by simp [Yt,e],by simp [Yt,e],by simp [X6,e],by simp [YW,e]⟩
  ·rename_i e
   obtain ⟨j,y,h1,h2,h3,h4,h5,h6,h7,h8⟩:=KI h
   exact ⟨j+1,y,by omega,by simpa using h2,h3,h4,by simp [Yt,e,h5],by simp [Yt,e,h6],by simp [X6,e,h7],by simp [YW,e,h8]⟩
theorem zi {a:α}:∀ {L:ML α} {k:Nat},Xn a L k=none→ZQ a L=none∧(∀ c,Yt a c L=c)∧(∀ z c,X6 a z c L=L ++ [(a,z,c)])∧∀ u c,YW a u c L=L ++ [(a,u,c)]
 | [],k,_=>⟨rfl,fun _=>rfl,fun _ _=>rfl,fun _ _=>rfl⟩
 | x :: r,k,h=>by
  simp only [Xn] at h
  split at h
  ·cases h
  ·rename_i e
   obtain ⟨p,q,s,u⟩:=zi h
   exact ⟨by simp [ZQ,e,p],by simp [Yt,e,q],by simp [X6,e,s],by simp [YW,e,u]⟩
theorem qG (k:Xc P t enc) {tm te:TypeId} (hu:P.underlying tm=some (.map t te)) {z:Value} (hz:Zz P (zeroValue te)=some z) (a:α) (L:ML α) (ok:Bool) :
  Zz P (Wp tm (mEs enc L) (enc a) ok)=some (if ok then .tuple #[(ZQ a L).getD z,.bool (ZQ a L).isSome] else (ZQ a L).getD z):=by
 unfold Wp
 simp only [YD,X9 hu,Option.bind_some,k.chk,k.find]
 rw [← UQ a L 0]
 cases Xn a L 0 with
 | none=>simp only [YD,hz,Option.bind_some,Option.map_none,Option.getD_none,Option.isSome_none,Xr]
 | some q=>simp only [YD,Xr,Option.bind_some,Option.map_some,Option.getD_some,Option.isSome_some]
theorem V8 {L:ML α} {j:Nat} {x:α × Value × Nat} (hx:L[j]? = some x) {f:MapEntry→MapEntry} {y:α × Value × Nat} (hf:f (YV enc x)=YV enc y):(mEs enc L).modify j f=mEs enc (L.set j y):=by
 unfold mEs
 rw [List.modify_toArray]
 congr 1
 apply List.ext_getElem?
 intro i
 rw [List.getElem?_modify,List.getElem?_map,List.getElem?_map,List.getElem?_set]
 by_cases e:j=i
 ·subst e
  have hlt:j < L.length:=by
   rcases Nat.lt_or_ge j L.length with q | q
   ·exact q
   ·rw [List.getElem?_eq_none q] at hx;cases hx
  simp only [if_true,hlt,hx,Option.map_some]
  show some (f (YV enc x))=_
  rw [hf]
 ·simp [e]
theorem zB {β:Type}:∀ {L:List β} {j:Nat} {x:β},L[j]? = some x→L.set j x=L
 | [],j,x,h=>by simp at h
 | y :: r,0,x,h=>by simp at h;subst h;rfl
 | y :: r,j+1,x,h=>by simp at h;simp [zB h]
theorem zU {L:ML α} {a:α} {v:Value} {c:Nat}:(mEs enc L).push { key:=enc a,val:=v,born:=c }=mEs enc (L ++ [(a,v,c)]):=by
 unfold mEs
 simp [YV]
theorem qP (k:Xc P t enc) {tm te:TypeId} (hu:P.underlying tm=some (.map t te)) (a:α) (L:ML α) (c:Nat) (v:Value) :
  Zz P (XN tm (mEs enc L) c (enc a) v)=some (mEs enc (YW a v c L),YR a c L):=by
 unfold XN
 simp only [YD,X9 hu,Option.bind_some,k.chk,k.find]
 have hg:=UQ a L 0
 cases hf:Xn a L 0 with
 | none=>
  obtain ⟨p,_,_,u⟩:=zi hf
  simp only [Xr,zU,u,YR,p]
  rfl
 | some q=>
  obtain ⟨i,w⟩:=q
  rw [hf] at hg
  obtain ⟨j,x,h1,h2,h3,h4,_,_,_,h8⟩:=KI hf
  have hij:i=j:=by omega
  subst hij
  have hkey:(((mEs enc L)[i]?).map (·.key)).getD (enc a)=enc a:=by
   simp only [mEs,List.getElem?_toArray,List.getElem?_map,h2,Option.map_some,Option.getD_some,YV,h3]
  simp only [hkey,Instr.keyThatStays,k.bits,if_true,YD,Xr,Option.bind_some]
  rw [h8,V8 (y:=(x.1,v,x.2.2)) h2 (by simp [YV,h3])]
  simp only [Option.map_some] at hg
  rw [show YR a c L=c by unfold YR;rw [← hg];rfl]
def VJ (a:α):ML α→ML α
 | []=>[]
 | x :: r=>if a=x.1 then r else x :: VJ a r
theorem zx {a:α}:∀ {L:ML α} {n i:Nat} {w:Value},Xn a L n=some (i,w)→n≤i∧VJ a L=L.eraseIdx (i - n)
 | [],_,_,_,h=>by cases h
 | x :: r,n,i,w,h=>by
  unfold Xn at h
  unfold VJ
  split at h
  ·rename_i q
   cases h
   rw [if_pos q,Nat.sub_self]
   exact ⟨Nat.le_refl _,rfl⟩
  ·rename_i q
   obtain ⟨h1,h2⟩:=zx h
   rw [if_neg q,h2,show i - n=(i - (n+1))+1 by omega]
   exact ⟨by omega,rfl⟩
theorem J6 {a:α}:∀ {L:ML α} {n:Nat},Xn a L n=none→VJ a L=L
 | [],_,_=>rfl
 | x :: r,n,h=>by
  unfold Xn at h
  unfold VJ
  split at h
  ·cases h
  ·rename_i q;rw [if_neg q,J6 h]
theorem Ks {β γ:Type} (f:β→γ):∀ (L:List β) (i:Nat),(L.map f).eraseIdx i=(L.eraseIdx i).map f
 | [],_=>rfl
 | _ :: _,0=>rfl
 | x :: L,i+1=>by
  show f x :: (L.map f).eraseIdx i=f x :: (L.eraseIdx i).map f
  rw [Ks f L i]
theorem ZbM (k:Xc P t enc) {tm te:TypeId} (hu:P.underlying tm=some (.map t te)) (a:α) (L:ML α) :
  Zz P (VI tm (mEs enc L) (enc a))=some (mEs enc (VJ a L)):=by
 unfold VI
 simp only [YD,X9 hu,Option.bind_some,k.chk,k.find]
 cases hf:Xn a L 0 with
 | none=>simp only [Xr,J6 hf]
 | some q=>
  obtain ⟨i,w⟩:=q
  obtain ⟨_,h2⟩:=zx hf
  simp only [Xr,h2,Nat.sub_zero]
  congr 1
  unfold mEs
  apply Array.toList_inj.1
  rw [← Ks]
  simp
theorem Zad (k:Xc P t enc) {tm te:TypeId} (hu:P.underlying tm=some (.map t te)) {z:Value} (hz:Zz P (zeroValue te)=some z) (a:α) (L:ML α) (c:Nat) :
  Zz P (UI tm (mEs enc L) c (enc a))=some (.tuple #[(ZQ a L).getD z,goInt (Yt a c L)],mEs enc (X6 a z c L),YR a c L):=by
 unfold UI
 simp only [YD,X9 hu,Option.bind_some,k.chk,k.find]
 have hg:=UQ a L 0
 cases hf:Xn a L 0 with
 | none=>
  obtain ⟨p,q,s,u⟩:=zi hf
  simp only [YD,hz,Option.bind_some,Xr,zU,s,q,YR,p]
  rfl
 | some q=>
  obtain ⟨i,w⟩:=q
  rw [hf] at hg
  obtain ⟨j,x,h1,h2,h3,h4,_,h6,h7,h8⟩:=KI hf
  have hij:i=j:=by omega
  subst hij
  have hkey:(((mEs enc L)[i]?).map (·.key)).getD (enc a)=enc a:=by
   simp only [mEs,List.getElem?_toArray,List.getElem?_map,h2,Option.map_some,Option.getD_some,YV,h3]
  have hborn:(((mEs enc L)[i]?).map (fun x=>(x.born:Int))).getD 0=(x.2.2:Int):=by
   simp only [mEs,List.getElem?_toArray,List.getElem?_map,h2,Option.map_some,Option.getD_some,YV]
  simp only [hkey,hborn,Instr.keyThatStays,k.bits,if_true,YD,Xr,Option.bind_some]
  rw [h7,V8 (y:=x) h2 (by simp [YV,h3]),zB h2,h6]
  simp only [Option.map_some] at hg
  rw [show YR a c L=c by unfold YR;rw [← hg];rfl,← hg]
  rfl
theorem ZaR (L:ML α) (b:Nat) (v:Value) (hb:∃ x∈L,x.2.2=b):Zz P (XL (mEs enc L) (goInt b) v)=some (mEs enc (Vq b v L)):=by
 unfold XL
 have hi:Zz P (asInt (goInt b))=some (b:Int):=rfl
 simp only [YD,hi,Option.bind_some]
 have key:∀ (L:ML α),(∃ x∈L,x.2.2=b)→∃ i x,(L.map (YV enc)).findIdx? (fun e=>(e.born:Int) == (b:Int))=some i∧L[i]? = some x∧Vq b v L=L.set i (x.1,v,x.2.2):=by
  intro L
  induction L with
  | nil=>rintro ⟨x,h,_⟩;cases h
  | cons y r ih=>
   intro ⟨x,hx,hxb⟩
   simp only [List.map_cons,List.findIdx?_cons,Vq]
   by_cases e:b=y.2.2
   ·subst e
    refine ⟨0,y,by simp [YV],rfl,by simp⟩
   ·rcases List.mem_cons.1 hx with rfl | hx
    ·exact absurd hxb.symm e
    ·obtain ⟨i,z,h1,h2,h3⟩:=ih ⟨x,hx,hxb⟩
     have hne:((YV enc y).born:Int)≠(b:Int):=by
      intro q
      have:y.2.2=b:=Int.ofNat_inj.1 q
      exact e this.symm
     refine ⟨i+1,z,by simp [hne,h1],by simpa using h2,by simp [e,h3]⟩
 obtain ⟨i,x,h1,h2,h3⟩:=key L hb
 have hidx:(mEs enc L).findIdx? (fun e=>(e.born:Int) == (b:Int))=some i:=by
  unfold mEs;rw [List.findIdx?_toArray];exact h1
 rw [hidx]
 simp only [Xr]
 rw [V8 (y:=(x.1,v,x.2.2)) h2 (by simp [YV]),h3]
theorem ZbA {L:ML α} {a:α} {z:Value} {c:Nat}:∃ x∈X6 a z c L,x.2.2=Yt a c L:=by
 induction L with
 | nil=>exact ⟨(a,z,c),by simp [X6],rfl⟩
 | cons y r ih=>
  simp only [X6,Yt]
  split
  ·exact ⟨y,by simp,rfl⟩
  ·obtain ⟨x,h1,h2⟩:=ih
   exact ⟨x,by simp [h1],h2⟩
theorem qN (a a':α) (z:Value) (c:Nat) (L:ML α):(ZQ a' (X6 a z c L)).getD z=(ZQ a' L).getD z:=by
 induction L with
 | nil=>simp only [X6,ZQ];split<;>rfl
 | cons y r ih=>
  simp only [X6]
  split
  ·rfl
  ·simp only [ZQ]
   split
   ·rfl
   ·exact ih
/-! Maps whose values point. -/
def MLR (r:Ren):ML α→ML α→Prop
 | [],[]=>True
 | x :: l,y :: l'=>(y.1=x.1∧y.2.2=x.2.2∧VR r x.2.1 y.2.1)∧MLR r l l'
 | _,_=>False
theorem ZaT {r:Ren}:∀ {L:ML α} {l':List MapEntry},EsR r (L.map (YV enc)) l'→∃ L',l'=L'.map (YV enc)∧MLR r L L'
 | [],[],_=>⟨[],rfl,True.intro⟩
 | x :: L,y :: l',h=>by
  obtain ⟨L',e,k⟩:=ZaT (L:=L) (l':=l') h.2
  obtain ⟨key,val,born⟩:=y
  have h1:key=enc x.1:=h.1.1
  have h2:born=x.2.2:=h.1.2.1
  subst h1 h2
  exact ⟨(x.1,val,x.2.2) :: L',by rw [e];rfl,⟨rfl,rfl,h.1.2.2⟩,k⟩
 | [],_ :: _,h=>h.elim
 | _ :: _,[],h=>h.elim
theorem jV {r:Ren}:∀ {L L':ML α},MLR r L L'→EsR r (L.map (YV enc)) (L'.map (YV enc))
 | [],[],_=>True.intro
 | x :: L,y :: L',h=>⟨⟨by show enc y.1=enc x.1;rw [h.1.1],h.1.2.1,h.1.2.2⟩,jV h.2⟩
 | [],_ :: _,h=>h.elim
 | _ :: _,[],h=>h.elim
theorem MLR.get {r:Ren} (a:α):∀ {L L':ML α},MLR r L L'→(ZQ a L=none∧ZQ a L'=none)∨∃ v v',ZQ a L=some v∧ZQ a L'=some v'∧VR r v v'
 | [],[],_=>.inl ⟨rfl,rfl⟩
 | x :: L,y :: L',h=>by
  simp only [ZQ,h.1.1]
  split
  ·exact .inr ⟨_,_,rfl,rfl,h.1.2.2⟩
  ·exact MLR.get a h.2
 | [],_ :: _,h=>h.elim
 | _ :: _,[],h=>h.elim
theorem MLR.born {r:Ren} (a:α) (c:Nat):∀ {L L':ML α},MLR r L L'→Yt a c L'=Yt a c L
 | [],[],_=>rfl
 | x :: L,y :: L',h=>by simp only [Yt,h.1.1,h.1.2.1,MLR.born a c h.2]
 | [],_ :: _,h=>h.elim
 | _ :: _,[],h=>h.elim
theorem MLR.ent {r:Ren} (a:α) {z:Value} (hz:VR r z z) (c:Nat):∀ {L L':ML α},MLR r L L'→MLR r (X6 a z c L) (X6 a z c L')
 | [],[],_=>⟨⟨rfl,rfl,hz⟩,True.intro⟩
 | x :: L,y :: L',h=>by
  simp only [X6,h.1.1]
  split
  ·exact h
  ·exact ⟨h.1,MLR.ent a hz c h.2⟩
 | [],_ :: _,h=>h.elim
 | _ :: _,[],h=>h.elim
theorem MLR.sto {r:Ren} (b:Nat) {v v':Value} (hv:VR r v v'):∀ {L L':ML α},MLR r L L'→MLR r (Vq b v L) (Vq b v' L')
 | [],[],_=>True.intro
 | x :: L,y :: L',h=>by
  simp only [Vq,h.1.2.1]
  split
  ·exact ⟨⟨h.1.1,rfl,hv⟩,h.2⟩
  ·exact ⟨h.1,MLR.sto b hv h.2⟩
 | [],_ :: _,h=>h.elim
 | _ :: _,[],h=>h.elim
theorem MLR.put {r:Ren} (a:α) {v v':Value} (hv:VR r v v') (c:Nat):∀ {L L':ML α},MLR r L L'→MLR r (YW a v c L) (YW a v' c L')
 | [],[],_=>⟨⟨rfl,rfl,hv⟩,True.intro⟩
 | x :: L,y :: L',h=>by
  simp only [YW,h.1.1]
  split
  ·exact ⟨⟨rfl,h.1.2.1,hv⟩,h.2⟩
  ·exact ⟨h.1,MLR.put a hv c h.2⟩
 | [],_ :: _,h=>h.elim
 | _ :: _,[],h=>h.elim
theorem MLR.mem {r:Ren}:∀ {L L':ML α},MLR r L L'→∀ y∈L',∃ x∈L,y.1=x.1∧y.2.2=x.2.2∧VR r x.2.1 y.2.1
 | [],[],_,y,hy=>by cases hy
 | x :: L,y :: L',h,u,hu=>by
  rcases List.mem_cons.1 hu with rfl | hu
  ·exact ⟨x,by simp,h.1⟩
  ·obtain ⟨v,hv,q⟩:=MLR.mem h.2 u hu
   exact ⟨v,by simp [hv],q⟩
 | [],_ :: _,h,_,_=>h.elim
 | _ :: _,[],h,_,_=>h.elim
theorem MLR.mem' {r:Ren}:∀ {L L':ML α},MLR r L L'→∀ x∈L,∃ y∈L',y.1=x.1∧y.2.2=x.2.2∧VR r x.2.1 y.2.1
 | [],[],_,y,hy=>by cases hy
 | x :: L,y :: L',h,u,hu=>by
  rcases List.mem_cons.1 hu with rfl | hu
  ·exact ⟨y,by simp,h.1⟩
  ·obtain ⟨v,hv,q⟩:=MLR.mem' h.2 u hu
   exact ⟨v,by simp [hv],q⟩
 | [],_ :: _,h,_,_=>h.elim
 | _ :: _,[],h,_,_=>h.elim
theorem MLR.borns {r:Ren}:∀ {L L':ML α},MLR r L L'→L'.map (·.2.2)=L.map (·.2.2)
 | [],[],_=>rfl
 | x :: L,y :: L',h=>by simp only [List.map_cons,h.1.2.1,MLR.borns h.2]
 | [],_ :: _,h=>h.elim
 | _ :: _,[],h=>h.elim
theorem MLR.bornIn {r:Ren} {b:Nat}:∀ {L L':ML α},MLR r L L'→(∃ e∈L,e.2.2=b)→∃ e∈L',e.2.2=b
 | [],[],_,h=>h
 | x :: L,y :: L',h,⟨e,he,hb⟩=>by
  rcases List.mem_cons.1 he with rfl | he
  ·exact ⟨y,by simp,h.1.2.1.trans hb⟩
  ·obtain ⟨u,hu,q⟩:=MLR.bornIn h.2 ⟨e,he,hb⟩
   exact ⟨u,by simp [hu],q⟩
 | [],_ :: _,h,_=>h.elim
 | _ :: _,[],h,_=>h.elim
section
variable {base lo:Nat} {r:Ren} {H:Hp} {w:World}
theorem zr (h:Rel P r base H w) {b c:Nat} {L:ML α} {loc:Loc} (e:r b=some loc) (hg:H.t.get b=some (.mq (mEs enc L) c)):∃ L',w.heap[loc.blk]? = some (.map (mEs enc L') c)∧MLR r L L'∧loc.blk < w.heap.size:=by
 obtain ⟨es',ho,hes⟩:=h.cont _ _ _ e hg
 have hl:(mEs enc L).toList=L.map (YV enc):=by simp [mEs]
 rw [hl] at hes
 obtain ⟨L',e1,k⟩:=ZaT hes
 have:es'=mEs enc L':=by unfold mEs;rw [← e1]
 subst this
 refine ⟨L',ho,k,?_⟩
 rcases Nat.lt_or_ge loc.blk w.heap.size with q | q
 ·exact q
 ·rw [Array.getElem?_eq_none q] at ho;cases ho
theorem yh (h:Rel P r base H w) {b c c':Nat} {L L2 L2':ML α} {loc:Loc} (e:r b=some loc) (hg:H.t.get b=some (.mq (mEs enc L) c)) (hlb:lo≤b) (hk:MLR r L2 L2') :
  (setObj loc.blk (.map (mEs enc L2') c')).run P w=.ok () { w with heap:=w.heap.setIfInBounds loc.blk (.map (mEs enc L2') c') }∧Zr P lo base r H w r { H with t:=H.t.set b (.mq (mEs enc L2) c') } { w with heap:=w.heap.setIfInBounds loc.blk (.map (mEs enc L2') c') }:=by
 obtain ⟨L',ho,_,hlt⟩:=zr h e hg
 refine ⟨by simp [setObj,Sem.run,ho],?_⟩
 refine Zr.change h e ⟨_,hg,by simp,rfl⟩ hlb (by simp) (fun q hq=>?_) ⟨rfl,rfl,rfl⟩ ?_
 ·show (w.heap.setIfInBounds loc.blk _)[q]? = _
  rw [Array.getElem?_setIfInBounds,if_neg (fun e=>hq e.symm)]
 ·refine ⟨mEs enc L2',?_,?_⟩
  ·show (w.heap.setIfInBounds loc.blk _)[loc.blk]? = _
   rw [Array.getElem?_setIfInBounds,if_pos rfl,if_pos hlt]
  ·have h1:(mEs enc L2).toList=L2.map (YV enc):=by simp [mEs]
   have h2:(mEs enc L2').toList=L2'.map (YV enc):=by simp [mEs]
   rw [h1,h2]
   exact jV hk
theorem Za4 (h:Rel P r base H w) (k:Xc P t enc) {tm te:TypeId} (hu:P.underlying tm=some (.map t te)) {z:Value} (hz:Zz P (zeroValue te)=some z) (hf:flat z=true) {b c:Nat} {a:α} {L:ML α} (hg:H.t.get b=some (.mq (mEs enc L) c)) {m' k':Value} (hm:VR r (.map (some b)) m') (hk:VR r (enc a) k') :
  ∃ v',(Instr.lookup tm m' k' false).run P w=.ok v' w∧VR r ((ZQ a L).getD z) v':=by
 rw [ZF (k.fl a) hk]
 cases hm with
 | mapv e=>
  rename_i loc
  obtain ⟨L',ho,hml,_⟩:=zr h e hg
  refine ⟨(ZQ a L').getD z,?_,?_⟩
  ·rw [Wy hu ho]
   have:=ZT _ (qG k hu hz a L' false) w
   simpa using this
  ·rcases hml.get a with ⟨e1,e2⟩ | ⟨v,v',e1,e2,hv⟩
   ·rw [e1,e2];exact Yf hf
   ·rw [e1,e2];exact hv
theorem jO (h:Rel P r base H w) (k:Xc P t enc) {tm te:TypeId} (hu:P.underlying tm=some (.map t te)) {z:Value} (hz:Zz P (zeroValue te)=some z) (hf:flat z=true) {b c:Nat} {a:α} {L:ML α} (hg:H.t.get b=some (.mq (mEs enc L) c)) (hlb:lo≤b) {m' k':Value} (hm:VR r (.map (some b)) m') (hk:VR r (enc a) k') :
  ∃ v' w',(Instr.mapEntry tm m' k').run P w=.ok v' w'∧VR r (.tuple #[(ZQ a L).getD z,goInt (Yt a c L)]) v'∧Zr P lo base r H w r { H with t:=H.t.set b (.mq (mEs enc (X6 a z c L)) (YR a c L)) } w':=by
 rw [ZF (k.fl a) hk]
 cases hm with
 | mapv e=>
  rename_i loc
  obtain ⟨L',ho,hml,_⟩:=zr h e hg
  obtain ⟨hrun,hpost⟩:=yh (lo:=lo) (c':=YR a c L) h e hg hlb (hml.ent a (Yf hf) c)
  have hc:YR a c L'=YR a c L:=by
   unfold YR
   rcases hml.get a with ⟨e1,e2⟩ | ⟨v,v',e1,e2,hv⟩<;>rw [e1,e2]<;>rfl
  refine ⟨.tuple #[(ZQ a L').getD z,goInt (Yt a c L')],_,?_,?_,hpost⟩
  ·rw [Kw hu ho (Zad k hu hz a L' c),hc]
   simp only [Sem.run_bind,hrun,Result.andThen_ok,Sem.run_pure]
  ·refine .tuple rfl fun i u u' e1 e2=>?_
   match i with
   | 0=>
    simp at e1 e2
    subst e1 e2
    rcases hml.get a with ⟨e1,e2⟩ | ⟨v,v',e1,e2,hv⟩
    ·rw [e1,e2];exact Yf hf
    ·rw [e1,e2];exact hv
   | 1=>
    simp at e1 e2
    subst e1 e2
    rw [hml.born]
    exact Yf rfl
   | i+2=>simp at e1
theorem Zdk (h:Rel P r base H w) (k:Xc P t enc) {tm te:TypeId} (hu:P.underlying tm=some (.map t te)) {b c:Nat} {a:α} {L:ML α} {v:Value} (hg:H.t.get b=some (.mq (mEs enc L) c)) (hlb:lo≤b) {m' k' v':Value} (hm:VR r (.map (some b)) m') (hk:VR r (enc a) k') (hv:VR r v v') :
  ∃ w',(Instr.mapUpdate tm m' k' v').run P w=.ok () w'∧Zr P lo base r H w r { H with t:=H.t.set b (.mq (mEs enc (YW a v c L)) (YR a c L)) } w':=by
 rw [ZF (k.fl a) hk]
 cases hm with
 | mapv e=>
  rename_i loc
  obtain ⟨L',ho,hml,_⟩:=zr h e hg
  obtain ⟨hrun,hpost⟩:=yh (lo:=lo) (c':=YR a c L) h e hg hlb (hml.put a hv c)
  have hc:YR a c L'=YR a c L:=by
   unfold YR
   rcases hml.get a with ⟨e1,e2⟩ | ⟨v,v',e1,e2,hv⟩<;>rw [e1,e2]<;>rfl
  exact ⟨_,by rw [Ue hu ho (qP k hu a L' c v'),hc];exact hrun,hpost⟩
theorem ZaL (h:Rel P r base H w) {tm:TypeId} {b c st:Nat} {L:ML α} {v:Value} (hg:H.t.get b=some (.mq (mEs enc L) c)) (hlb:lo≤b) (hb:∃ e∈L,e.2.2=st) {m' s' v':Value} (hm:VR r (.map (some b)) m') (hs:VR r (goInt st) s') (hv:VR r v v') :
  ∃ w',(Instr.entryStore tm m' s' v').run P w=.ok () w'∧Zr P lo base r H w r { H with t:=H.t.set b (.mq (mEs enc (Vq st v L)) c) } w':=by
 rw [ZF (rfl:flat (goInt st)=true) hs]
 cases hm with
 | mapv e=>
  rename_i loc
  obtain ⟨L',ho,hml,_⟩:=zr h e hg
  obtain ⟨hrun,hpost⟩:=yh (lo:=lo) (c':=c) h e hg hlb (hml.sto st hv)
  exact ⟨_,by rw [Vm ho (ZaR L' st v' (hml.bornIn hb))];exact hrun,hpost⟩
end
end
end
end
end Go.Ax


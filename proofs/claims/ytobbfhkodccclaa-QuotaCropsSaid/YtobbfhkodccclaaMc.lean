import Derived.Test.YtobbfhkodccclaaMb
set_option linter.all false
namespace Go.Ax
open Go Go.RowKit

section
variable {P:Program} {lo base:Nat}
theorem Za9 {kn:Kn} {n m l:Nat} {cap:Array Value} {args:List Value} {H:Hp} {e:En} {H':Hp} {p':Par} (hC:Vs P (YE P kn m n)) (hA:Wb (YE P kn m n)) (hm:P.follows .mixedOrders=true)
  (h:Yv P kn m (n+1) lo (.fn (.yield l) cap) args H none=some (e,H',p')) (hlo:lo≤H.next) {r:Ren} {w:World} (hrel:Rel P r base H w) {loc:Loc} (hloc:r l=some loc) {args':Array Value} (hargs:LR r args args'.toList) :
  ∃ f tm asg body,(Instr.yield loc.blk args').run P w=.ok (.round loc.blk f tm asg body) w∧Zaz P lo base r H w (Frame.round loc.blk f tm asg body .normal) e H':=by
 simp only [Yv] at h
 split at h<;>first | (cases h;done) | skip
 rename_i pe fn n0 T params asg body df _ hget
 split at h<;>first | (cases h;done) | skip
 rename_i T' hst
 obtain ⟨hb0,h1⟩:=Zf h
 clear h
 have hb:=Nat.le_of_ble_eq_true hb0
 clear hb0
 obtain ⟨hck,h⟩:=Zf h1
 clear h1
 simp only [Bool.and_eq_true,List.all_eq_true] at hck
 obtain ⟨R,c1,c2,c3,c4,c5,c6,c7,c8,l9,c9,c10⟩:=hrel.cont _ _ _ hloc hget
 subst c3 c4 c6 c7 c8
 have hT:=JE hst c5 (fun t ht=>by have:=hck.2 t ht;simpa [Nat.blt_eq] using this) hargs
 have hsz:args'.size=R.params.size:=by
  have a:=Uw hst
  have b:=hargs.1
  simp at a b
  omega
 have htm:(R.params.zip args').foldl (fun tmps (t,a)=>tmps.setIfInBounds t a) R.tmps=(R.params.toList.zip args'.toList).foldl (fun tmps (x:Tmp × Value)=>tmps.setIfInBounds x.1 x.2) R.tmps:=by
  rw [← Array.foldl_toList,Array.toList_zip]
 refine ⟨R.fn,_,R.assign,R.body,run_yield c1 hsz,?_⟩
 rw [htm]
 generalize (R.params.toList.zip args'.toList).foldl (fun tmps (x:Tmp × Value)=>tmps.setIfInBounds x.1 x.2) R.tmps=tm at hT
 intro c rest
 split at h<;>first | (cases h;done) | skip
 rename_i A H1 hrc
 obtain ⟨r1,w1,tm1,ds1,pc1,hp1,hF1,hS1,hpp1,hArr1,_⟩:=(yZ (kind:=.normal) (rd:=some loc.blk) (K:=fun _=>c :: rest) hC hA hm (.inl ⟨rfl,fun _=>rfl⟩) m).1 R.assign [.beginRound,.code R.body] r w H _ tm [] none none _ _ _ _ hrc hlo hrel
  ⟨hT,.nil,⟨loc,hloc,rfl⟩⟩ rfl (fun _=>rfl)
 have hArr1:Steps P (lone (Frame.round loc.blk R.fn tm R.assign R.body .normal) (c :: rest) w) (lone (mkF R.fn tm1 [.beginRound,.code R.body] ds1 .normal (some loc.blk)) (c :: rest) w1):=hArr1
 have hfn1:A.fn=R.fn:=hS1.fn
 split at h<;>first | (cases h;done) | skip
 rename_i pe' fn' n' T2 ps' as_' bo' df' hget1
 have hloc1:=hp1.le _ _ hloc
 obtain ⟨R1,d1,d2,d3,d4,d5,d6,d7,d8,l9',d9,d10⟩:=hp1.rel.cont _ _ _ hloc1 hget1
 have hbeg:=run_beginRound (P:=P) d1 d2
 have hlt1:=(hp1.rel.at hloc1 hget1 rfl).2
 have hp2:=Zt.change (lo:=lo) hp1.rel hloc1 ⟨_,hget1,by simp,rfl⟩ hb (o:=.lp .busy pe' fn' n' T2 ps' as_' bo' df') (w':=w1.putObj loc.blk (.loop { R1 with state:=.busy })) World.putObj_size (fun k hk=>World.putObj_heap_other hk) ⟨rfl,rfl,rfl⟩
  ⟨{ R1 with state:=.busy },World.putObj_heap_same hlt1,rfl,d3,d4,d5,d6,d7,d8,l9',d9,d10⟩
 have hlo1:lo≤H1.next:=Nat.le_trans hlo hp1.next
 split at h<;>first | (cases h;done) | skip
 rename_i e3 A3 H3 p3 hrb
 obtain ⟨r3,w3,tm3,ds3,pc3,hp3,hF3,hS3,_,hArr3,_⟩:=(yZ (kind:=.normal) (rd:=some loc.blk) (K:=fun _=>c :: rest) hC hA hm (.inl ⟨rfl,fun _=>rfl⟩) m).1 R.body [] r1 _ { H1 with t:=H1.t.set l (.lp .busy pe' fn' n' T2 ps' as_' bo' df') } A tm1 ds1 none none _ _ _ _ hrb hlo1 hp2.rel hF1 rfl (fun _=>rfl)
 have hp13:=(hp1.trans hlo hp2).trans hlo hp3
 have hloc3:=hp3.le _ _ hloc1
 have hM:Steps P (lone (Frame.round loc.blk R.fn tm R.assign R.body .normal) (c :: rest) w) (lone (mkF A.fn tm1 [.code R.body] ds1 .normal (some loc.blk)) (c :: rest) (w1.putObj loc.blk (.loop { R1 with state:=.busy }))):=by
  rw [hfn1]
  exact hArr1.trans (Steps.one (Qo hbeg))
 split at h<;>first | (cases h;done) | skip
 rename_i _ pe3 a b c' d e' g h' hdf hget3
 obtain ⟨R3,q1,q2,q3,q4,q5,q6,q7,q8,l9'',q9,q10⟩:=hp3.rel.cont _ _ _ hloc3 hget3
 have hlt3:=(hp3.rel.at hloc3 hget3 rfl).2
 have hds:ds3=[]:=by
  have:=hF3.D
  rw [hdf] at this
  cases this
  rfl
 subst hds
 have put:∀ (st:LoopState) (pe:Option Code),Zt P lo base r H w r3 { H3 with t:=H3.t.set l (.lp st pe a b c' d e' g h') } (w3.putObj loc.blk (.loop { R3 with state:=st,pending:=pe })):=fun st pe=>
  hp13.trans hlo (Zt.change (lo:=lo) hp3.rel hloc3 ⟨_,hget3,by simp,rfl⟩ hb (o:=.lp st pe a b c' d e' g h') (w':=w3.putObj loc.blk (.loop { R3 with state:=st,pending:=pe })) World.putObj_size (fun k hk=>World.putObj_heap_other hk) ⟨rfl,rfl,rfl⟩
   ⟨{ R3 with state:=st,pending:=pe },World.putObj_heap_same hlt3,rfl,rfl,q4,q5,q6,q7,q8,l9'',q9,q10⟩)
 split at h<;>first | (cases h;done) | skip
 ·cases h
  exact ⟨r3,_,put .ready none,_,.bool true,(hM.trans hArr3).trans (Steps.one (Jh (run_endRound none q1)))⟩
 ·cases h
  obtain ⟨kx,hs⟩:=hArr3
  exact ⟨r3,_,put .done (some .ret),_,.bool false,(hM.trans hs).trans (Steps.one (Jn (run_endRound (some .ret) q1)))⟩
 ·cases h
  rename_i id
  obtain ⟨kx,hx,hs⟩:=hArr3
  exact ⟨r3,_,put .done (some (.exit id)),_,.bool false,(hM.trans hs).trans (Steps.one (Qi (hx.trans rfl) (run_endRound (some (.exit id)) q1)))⟩
 ·cases h
  obtain ⟨todo,v',hv,hs⟩:=hArr3
  rw [hfn1] at hs hM
  have hfn:=hck.1
  obtain ⟨fnX,hX⟩:=Option.isSome_iff_exists.1 hfn
  exact ⟨r3,w3,hp13,v',hv,(hM.trans hs).trans (Steps.one (step_leave_panicked ⟨rfl,rfl,fnX,hX⟩))⟩
end
end Go.Ax

namespace Go.Ax
open Go Go.RowKit

section
variable {P:Program}
theorem Zt.of_below {lo base:Nat} {r:Ren} {H:Hp} {w w':World} (h:Rel P r base H w) (hb:Below w.heap.size w w'):Zt P lo base r H w r H w' where
 le:=.refl r
 rel:={
  dom:=fun b loc e=>⟨(h.dom b loc e).1,(h.dom b loc e).2.more hb.size⟩
  cont:=fun b loc o e1 e2=>by
   have hdm:=(h.dom b loc e1).2
   rw [e2] at hdm
   exact (h.cont b loc o e1 e2).keep hdm h.top (hb.block _)
  inj:=h.inj
  top:=Nat.le_trans h.top hb.size }
 next:=Nat.le_refl _
 place:=fun _ _ e=>.inl e
 keep:=fun k hk _=>hb.block k hk
 old:=fun _ _=>rfl
 str:=⟨hb.os,hb.tape,hb.output,hb.size⟩

def y9 (P:Program) (kn:Kn):Prop:=∀ f b,kn.b f=some b→(∃ fn c,P.funcs[f]? = some fn∧fn.body=some c)∧∀ w,Calls P f #[] w fun e w'=>e=.returned (.bool b)∧Below w.heap.size w w'
def Zc3 (P:Program) (lo:Nat) (f:FuncId) (args:List Value) (H:Hp) (v:Value) (H':Hp):Prop:=
 (∃ fn c,P.funcs[f]? = some fn∧fn.body=some c)∧∀ (r:Ren) (base:Nat) (w:World) (args':Array Value),Rel P r base H w→LR r args args'.toList→lo≤H.next→Zaz P lo base r H w (Frame.enter P f args' .normal) (.ret v) H'
def ZgN (P:Program) (kn:Kn):Prop:=∀ f lo args H v H',WI f=true→kn.s f lo args H=some (v,H')→ZgM lo H H'→Zc3 P lo f args H v H'
structure Known (P:Program) (kn:Kn):Prop where
 b:y9 P kn
 s:ZgN P kn
theorem y9.nothing (P:Program):y9 P ⟨fun _=>none,fun _ _ _ _=>none⟩:=fun _ _ h=>by cases h
theorem Zt.low {lo lo' base:Nat} {r r':Ren} {H H':Hp} {w w':World} (h:Zt P lo base r H w r' H' w') (hl:lo'≤lo):Zt P lo' base r H w r' H' w' where
 le:=h.le
 rel:=h.rel
 next:=h.next
 place:=fun b loc e=>(h.place b loc e).imp id fun ⟨x,y⟩=>⟨x,y.imp id fun ⟨b0,l0,a,c,d⟩=>⟨b0,l0,a,c,Nat.le_trans hl d⟩⟩
 keep:=fun k hk q=>h.keep k hk fun b loc e1 e2=>Nat.lt_of_lt_of_le (q b loc e1 e2) hl
 old:=fun b hb=>h.old b (Nat.lt_of_lt_of_le hb hl)
 str:=h.str

theorem Kr {r:Ren} {v:Value} {vs:List Value} {as_:Array Value} (h:LR r (v :: vs) as_.toList):∃ v' l',as_=(v' :: l').toArray∧VR r v v'∧LR r vs l':=by
 obtain ⟨l⟩:=as_
 match l with
 | []=>exact absurd h.1 (by simp)
 | v' :: l'=>exact ⟨v',l',rfl,h.2 0 v v' rfl rfl,⟨by simpa using h.1,fun i a b x y=>h.2 (i+1) a b x y⟩⟩

theorem z4 {C:CallF} (hC:Vs P C) (hA:Wb C) (hm:P.follows .mixedOrders=true) (hN:NoCount P) {lo base:Nat} {D:Target→List Value→Hp→Par→Option (En × Hp × Par)} (hD:jK P lo D) {m:Nat} {t:TypeId} {v:Value} {name:String} {f:FuncId} {x:Value} {rest:List Value} {H:Hp} {e:En} {H':Hp} {p':Par}
  (hv:Q7 P t v name=some (f,x)) (h:Y9 P lo C D m f (x :: rest) H none=some (e,H',p')) (hlo:lo≤H.next) {r:Ren} {w:World} (hrel:Rel P r base H w) {v':Value} {l':List Value} (h1:VR r v v') (h2:LR r rest l') :
  (callMethod (.iface t v') name l'.toArray).run P w=.ok (.enter f (v' :: l').toArray) w∧Zaz P lo base r H w (Frame.enter P f (v' :: l').toArray .normal) e H':=by
 obtain ⟨rfl,hr⟩:=Zec hv
 obtain ⟨a,b⟩:=qW hC hA hm hN hD h hlo hrel (args':=(v' :: l').toArray) (by simpa using LR.cons h1 h2)
 refine ⟨?_,b⟩
 obtain ⟨k,hk⟩:∃ k,P.types.size+Made.depth=k+1:=by
  have:0 < Made.depth:=by decide
  exact ⟨P.types.size+Made.depth - 1,by omega⟩
 have:(#[v'] ++ l'.toArray:Array Value)=(v' :: l').toArray:=by simp
 simp only [callMethod,Sem.run_bind,run_program,Result.andThen_ok,hk,hr,this]
 exact a

theorem QW (hm:P.follows .mixedOrders=true) (hN:NoCount P) {kn:Kn} (hkn:Known P kn) (m:Nat):∀ n,Vs P (YE P kn m n)∧∀ lo,jK P lo (fun t args H p=>Yv P kn m n lo t args H p):=by
 intro n
 have KR:∀ (lo:Nat) (t:Target) (args:List Value) (H:Hp) (e:En) (H':Hp),(∃ b,Km kn t args=some b∧e=.ret (.bool b)∧H'=H)→lo≤H.next→∀ (r:Ren) (base:Nat) (w:World) (t':Target) (args':Array Value),Rel P r base H w→TgR r t t'→LR r args args'.toList→
   ∃ nx fr0,(invoke t' args').run P w=.ok nx w∧Wq P .normal nx=some fr0∧Zaz P lo base r H w fr0 e H':=by
  intro lo t args H e H' ⟨b,hk,he,hH⟩ hlo r base w t' args' hrel ht ha
  subst he hH
  unfold Km at hk
  split at hk<;>first | (cases hk;done) | skip
  rename_i f cap
  obtain ⟨hc,hk⟩:=Zf hk
  have hc:=Nat.eq_of_beq_eq_true hc
  obtain ⟨⟨fn,c,h1,h2⟩,hcalls⟩:=hkn.b f b hk
  obtain ⟨f',cap',rfl,hf,hcap⟩:=ht
  cases hf
  have e1:args' = #[]:=by
   have:=ha.1
   simp at this
   exact Array.eq_empty_of_size_eq_zero (by simpa using this.symm)
  have e2:cap' = #[]:=by
   have:=hcap.1
   simp at this
   exact Array.eq_empty_of_size_eq_zero (by omega)
  subst e1 e2
  refine ⟨.enter f #[],_,Vi hN h1 h2 _ _,rfl,fun c0 rest=>?_⟩
  obtain ⟨e',w',fr,⟨rfl,hb⟩,hs,_,hl⟩:=hcalls w (c0 :: rest)
  exact ⟨r,w',Zt.of_below hrel hb,.bool b,.bool b,Steps.trans hs (Steps.one (step_leave_returned hl))⟩
 have spec:∀ (lo:Nat) (t:Target) (args:List Value) (H:Hp) (e:En) (H':Hp),(∃ v,Ke kn lo t args H=some (v,H')∧e=.ret v)→lo≤H.next→∀ (r:Ren) (base:Nat) (w:World) (t':Target) (args':Array Value),Rel P r base H w→TgR r t t'→LR r args args'.toList→
   ∃ nx fr0,(invoke t' args').run P w=.ok nx w∧Wq P .normal nx=some fr0∧Zaz P lo base r H w fr0 e H':=by
  intro lo t args H e H' ⟨v,hk,he⟩ hlo r base w t' args' hrel ht ha
  subst he
  obtain ⟨f,cap,rfl,hs,hk,ho⟩:=zC hk
  obtain ⟨⟨fn,c,h1,h2⟩,hb⟩:=hkn.s f lo _ H v H' hs hk ho
  obtain ⟨f',cap',rfl,hf,hcap⟩:=ht
  cases hf
  refine ⟨.enter f (args' ++ cap'),_,Vi hN h1 h2 _ _,rfl,fun c0 rest=>?_⟩
  obtain ⟨r',w',hp,v',hv,hst⟩:=hb r base w (args' ++ cap') hrel (by simpa using LR.append ha hcap) hlo c0 rest
  exact ⟨r',w',hp,v',hv,hst⟩
 induction n with
 | zero=>
  refine ⟨fun lo t args H e H' h hlo r base w t' args' hrel ht ha=>?_,fun lo f cap args H p e H' p' h=>?_⟩
  ·rcases QF h with hk | hk | ⟨p',h⟩
   rotate_left
   ·obtain ⟨nx,fr0,a,b,c⟩:=spec lo t args H e H' hk hlo r base w t' args' hrel ht ha
    refine ⟨nx,fr0,a,b,fun c0 rest=>?_⟩
    have:=c c0 rest
    cases e<;>exact this
   rotate_left
   ·obtain ⟨nx,fr0,a,b,c⟩:=KR lo t args H e H' hk hlo r base w t' args' hrel ht ha
    refine ⟨nx,fr0,a,b,fun c0 rest=>?_⟩
    have:=c c0 rest
    cases e<;>exact this
   ·simp [Yv] at h
  ·simp [Yv] at h
 | succ n ih=>
  obtain ⟨hC,hD⟩:=ih
  have hA:Wb (YE P kn m n):=(QG P kn m n).2
  constructor
  ·intro lo t args H e H' h hlo r base w t' args' hrel ht ha
   suffices hs:∃ nx fr0,(invoke t' args').run P w=.ok nx w∧Wq P .normal nx=some fr0∧Zaz P lo base r H w fr0 e H' by
    obtain ⟨nx,fr0,a,b,c⟩:=hs
    refine ⟨nx,fr0,a,b,fun c0 rest=>?_⟩
    have:=c c0 rest
    cases e<;>exact this
   rcases QF h with hk | hk | ⟨p',h⟩
   ·exact KR lo t args H e H' hk hlo r base w t' args' hrel ht ha
   ·exact spec lo t args H e H' hk hlo r base w t' args' hrel ht ha
   cases t with
   | fn f cap=>
    obtain ⟨f',cap',rfl,hf,hcap⟩:=ht
    cases hf with
    | func g=>
     simp only [Yv] at h
     obtain ⟨a,b⟩:=qW hC hA hm hN (hD lo) h hlo hrel (args':=args' ++ cap') (by simpa using LR.append ha hcap)
     exact ⟨_,_,a,rfl,b⟩
    | method name=>
     simp only [Yv] at h
     split at h<;>first | (cases h;done) | skip
     split at h<;>first | (cases h;done) | skip
     rename_i f x hv
     obtain ⟨u',l',rfl,q1,q2⟩:=Kr ha
     obtain ⟨v',rfl,q3⟩:=KJ q1
     obtain ⟨a,b⟩:=z4 hC hA hm hN (hD lo) hv h hlo hrel q3 q2
     refine ⟨.enter f _,_,?_,rfl,b⟩
     have ext:∀ y:Value,((y :: l').toArray.extract 1 (y :: l').toArray.size)=l'.toArray:=fun y=>by simp
     simp only [invoke,ext]
     simpa using a
    | methodOf ty name=>
     simp only [Yv] at h
     split at h<;>first | (cases h;done) | skip
     split at h<;>first | (cases h;done) | skip
     rename_i dsc hni hu _ _ f x hv
     obtain ⟨v',l',rfl,q1,q2⟩:=Kr ha
     obtain ⟨a,b⟩:=z4 hC hA hm hN (hD lo) hv h hlo hrel q1 q2
     refine ⟨.enter f _,_,?_,rfl,b⟩
     have:((v' :: l').toArray.extract 1 (v' :: l').toArray.size)=l'.toArray:=by simp
     simp only [invoke,this]
     cases dsc<;>first | (exact absurd rfl (hni _)) | simpa [JS hu] using a
    | yield hl=>
     obtain ⟨f,tm,asg,body,a,b⟩:=Za9 hC hA hm h hlo hrel hl ha
     exact ⟨_,_,a,rfl,b⟩
   | _=>simp [Yv] at h
  ·intro lo f cap args H p e H' p' h hlo r base w cap' args' pc c cs hrel hcap ha hp
   simp only [Yv] at h
   obtain ⟨⟨fn,b,h1,h2⟩,r',w',pc',fr,q1,q2,q3,q4,q5,q6⟩:=Zbd hC hA hm (hD lo) h hlo hrel (args':=args' ++ cap') (by simpa using LR.append ha hcap) (kind:=.deferred) (K:=fun p=>{ c with mode:=X6 p } :: cs) (.inr ⟨rfl,c,cs,fun _=>rfl⟩) hp (fun q=>by cases q)
   exact ⟨args' ++ cap',Vi hN h1 h2 _ _,r',w',pc',fr,q1,q2,q4,q5,q6⟩

end
end Go.Ax

/-! The evaluator for all inputs,1: code with what the types tell worked out ('low..'),and what it asks ('w..'). -/
namespace Go.Ax
open Go Go.RowKit
noncomputable section

abbrev Rg:=List (Nat × Value)
def lk:Rg→Nat→Option Value
 | [],_=>none
 | (i,v) :: r,j=>bif Nat.beq i j then some v else lk r j
def evS (S:Rg):Operand→Option Value
 | .tmp t=>lk S t
 | .const v=>bif Z0 v then some v else none
 | .func f=>some (.func (.func f) #[] #[])
 | .global _=>none
def zj (S:Rg):List Operand→Option (List Value)
 | []=>some []
 | x :: r=>match evS S x with | none=>none | some v=>match zj S r with | none=>none | some vs=>some (v :: vs)
def trS:Rg→Tr Value
 | []=>.nil
 | (i,v) :: r=>(trS r).set i v
def frS (n:Nat) (S:Rg):Fr:={ fn:=0,n:=n,T:=trS S,defers:=[],round:=none }

inductive RI where
 | mov (x:Operand)
 | nilc (x:Operand)
 | addo (x:Operand) (off:Nat)
 | idx (x i:Operand) (size:Nat)
 | idxa (x i:Operand) (len size:Nat)
 | ld (x:Operand) (n:Nat)
 | lda (x:Operand) (n:Nat)
 | st (x y:Operand)
 | sta (x y:Operand) (n:Nat)
 | ari (op:BinOp) (x y:Operand)
 | cmp (op:BinOp) (x y:Operand)
 | cmpb (op:BinOp) (x y:Operand)
 | len (x:Operand)
 | mm (small:Bool) (x y:Operand)
 | call (c:Call) (ord:Bool)
 | box (e:TypeId) (x:Operand)
 | alc (e:TypeId) (z:List Value)
 | pur (o:Oper)
 | mem (o:Oper)
 | mst (o:Oper)
 | dead
 | rng (x:Operand)
 | nxt (x:Operand)
 | ent (x:Operand)
structure RO where
 dst:Option Nat
 guard:Option (Nat × Bool)
 ri:RI
inductive RC where
 | skip
 | exit (id:Nat)
 | ret
 | seq (x y:RC)
 | cond (o:Operand) (x y:RC)
 | block (id:Nat) (b:RC)
 | scp (b:RC)
 | reg (ops:List RO)
 | dreg (ops:List RO) (masks:List Nat)
 | other (c:Code)

def yB (P:Program) (t:TypeId):Bool:=match P.underlying t with | some (.int .i64)=>true | _=>false
def Zf5:BinOp→Bool
 | .add | .sub | .mul | .quo | .rem=>true
 | _=>false
def j3:BinOp→Bool
 | .eql | .neq | .lss | .leq | .gtr | .geq=>true
 | _=>false

def Xy (o : Oper) : Oper := { o with pos := "", after := #[], guard := none }
def jO (ops:List Oper):Bool:=ops.any fun o=>o.guard.isSome
def ZhA (P:Program) (op:BinOp) (t:TypeId):Bool:=match op,P.underlying t with | .eql,some (.pointer _)=>true | _,_=>false
def WF (P:Program) (ops:List Oper) (ord:Bool) (o:Oper):Option RI:=
 match o.op with
 | .move x | .assign x=>some (.mov x)
 | .nilCheck x=>some (.nilc x)
 | .fieldAddr s x f=>match P.underlying s with
  | some (.struct fs)=>match fs[f]? with
   | some fd=>match P.info? fd.type with
    | some i=>bif Nat.beq i.size 0 then none else some (.addo x fd.offset)
    | none=>none
   | none=>none
  | _=>none
 | .indexAddr t x i=>match P.underlying t with
  | some (.slice e)=>match P.info? e with | some inf=>some (.idx x i inf.size) | none=>none
  | some (.array len e)=>match P.info? e with | some inf=>some (.idxa x i len inf.size) | none=>none
  | _=>none
 | .load t x=>match P.info? t,Wj P t with
  | some i,some true=>some (.lda x i.size)
  | some _,some false=>some (.ld x 1)
  | _,_=>none
 | .store t x y=>match P.info? t with
  | some i=>bif Nat.beq i.size 1 then (match Wj P t with | some false=>some (.st x y) | _=>some (.sta x y i.size)) else some (.sta x y i.size)
  | none=>none
 | .binOp op t x y _=>bif yB P t then (bif Zf5 op then some (.ari op x y) else bif j3 op then (bif jO ops then some (.cmpb op x y) else some (.cmp op x y)) else some (.pur (Xy o))) else bif ZhA P op t then some (.mem (Xy o)) else some (.pur (Xy o))
 | .box e x=>some (.box e x)
 | .alloc e=>match Yt P e with | some z=>some (.alc e z.cells.toList) | none=>none
 | .call c=>match c.callee with
  | .builtin .len=>match c.argTypes[0]? with
   | some t=>match P.underlying t,c.args.toList with
    | some (.slice _),[x]=>some (.len x)
    | _,_=>some (.pur (Xy o))
   | none=>none
  | .builtin .min=>match c.args.toList with | [x,y]=>bif yB P o.type then some (.mm true x y) else some (.pur (Xy o)) | _=>some (.pur (Xy o))
  | .builtin .max=>match c.args.toList with | [x,y]=>bif yB P o.type then some (.mm false x y) else some (.pur (Xy o)) | _=>some (.pur (Xy o))
  | .builtin _=>some (.mem (Xy o))
  | _=>some (.call c ord)
 | .buildSlice .. | .makeSlice ..=>some (.mem (Xy o))
 | .panic _=>some .dead
 | .slice t ..=>match P.underlying t with | some .string=>some (.pur (Xy o)) | _=>some (.mem (Xy o))
 | .pick .. | .build .. | .unOp .. | .convert .. | .makeInterface .. | .makeFunc .. | .field .. | .index .. | .extract .. | .typeAssert ..=>some (.pur (Xy o))
 | .range t x=>match P.underlying t with | some (.map _ _)=>some (.rng x) | _=>none
 | .next x false=>some (.nxt x)
 | .entry x=>some (.ent x)
 | .makeMap .. | .lookup .. | .mapEntry ..=>some (.mem (Xy o))
 | .mapUpdate .. | .insert .. | .entryStore ..=>some (.mst (Xy o))
 | _=>none

def W5 (P:Program) (n:Nat) (ops:List Oper) (ord:Bool) (o:Oper):Option RO:=
 match WF P ops ord o with
 | none=>none
 | some ri=>
  bif (match o.dst with | none=>true | some d=>Nat.ble (d+1) n) then
   match o.guard with
   | none=>some { dst:=o.dst,guard:=none,ri }
   | some (j,w)=>match ops[j]? with
    | some g=>match g.dst with
     | some d=>some { dst:=o.dst,guard:=some (d,w),ri }
     | none=>none
    | none=>none
  else none
def Y4 (P:Program) (n:Nat) (ops:List Oper) (ord:Nat→Bool):List Oper→Nat→Option (List RO)
 | [],_=>some []
 | o :: r,i=>match W5 P n ops (ord i) o with
  | none=>none
  | some x=>match Y4 P n ops ord r (i+1) with
   | none=>none
   | some l=>some (x :: l)
def low (P:Program) (n:Nat):Code→Option RC
 | .skip | .label _=>some .skip
 | .exit id=>some (.exit id)
 | .ret=>some .ret
 | .seq x y=>match low P n x with | none=>none | some a=>match low P n y with | none=>none | some b=>some (.seq a b)
 | .cond o x y=>match low P n x with | none=>none | some a=>match low P n y with | none=>none | some b=>some (.cond o a b)
 | .block id b=>match low P n b with | none=>none | some a=>some (.block id a)
 | .region _ ops draw=>
  bif draw then
   bif Qh ops then
    let anc:=JJ ops.toList
    match Y4 P n ops.toList (fun i=>WY ops.toList anc i) ops.toList 0 with
    | none=>none
    | some l=>some (.dreg l (We ops.toList 0 []))
   else none
  else match Y4 P n ops.toList (fun _=>true) ops.toList 0 with | none=>none | some l=>some (.reg l)
 | .scope b=>match low P n b with | none=>none | some a=>some (.scp a)
 | .loop b=>some (.other (.loop b))
 | .rangeFunc f ps a b=>some (.other (.rangeFunc f ps a b))
 | _=>none

def Qj:Code→List Nat→Code
 | .seq a _,0 :: r=>Qj a r
 | .seq _ b,_ :: r=>Qj b r
 | .cond _ a _,0 :: r=>Qj a r
 | .cond _ _ b,_ :: r=>Qj b r
 | .block _ b,_ :: r=>Qj b r
 | .scope b,_ :: r=>Qj b r
 | .loop b,_ :: r=>Qj b r
 | .rangeFunc _ _ a _,0 :: r=>Qj a r
 | .rangeFunc _ _ _ b,_ :: r=>Qj b r
 | c,_=>c
def at_ (f:Func) (p:List Nat):Code:=Qj (f.body.getD .skip) p

def Hp.up (H:Hp) (b:Nat) (o:Ob):Hp:={ H with t:=H.t.set b o }
def InR (x:Int):Prop:=-9223372036854775808≤x∧x < 9223372036854775808

def X4 (P:Program) (kn:Kn) (lo:Nat) (t:Target) (args:List Value) (H:Hp) (v:Value) (H':Hp):Prop:=
 ∃ N,∀ m k,N≤m→N≤k→YE P kn m k lo t args H=some (.ret v,H')

def ZT (S:Rg) (T:Tr Value):Prop:=∀ j v,lk S j=some v→T.get j=some v

def Tri (P:Program) (kn:Kn) (lo n:Nat) (rd:Bool) (c:Code) (S:Rg) (H:Hp) (K:Exit→Rg→Hp→Prop):Prop:=
 ∀ A:Fr,A.n=n→A.round.isSome=rd→ZT S A.T→
  ∃ e S' H' T',K e S' H'∧ZT S' T'∧∃ N,∀ f m k,N≤f→N≤m→N≤k→Zj P lo (YE P kn m k) f c A H none=some (e,{ A with T:=T' },H',none)

def YO (S:Rg) (c:Call):Option (Target × List Value):=
 match zj S c.args.toList with
 | none=>none
 | some vs=>
  match c.callee with
  | .builtin _=>none
  | .invoke r name=>match evS S r with | some v=>some (.fn (.method name) #[],v :: vs) | none=>none
  | .value f=>match evS S f with
   | some (.func fn first cap)=>some (.fn fn cap,first.toList ++ vs)
   | _=>none

def Vl (S:Rg):List Operand→Bool
 | []=>true
 | x :: r=>(match evS S x with | some _=>true | none=>false) && Vl S r

section
variable (P:Program) (kn:Kn) (lo n:Nat) (rd:Bool)
def wRI (S:Rg) (H:Hp) (K:Value→Hp→Kd→Prop):RI→Prop
 | .mov x=>match evS S x with | some v=>K v H .pure | none=>False
 | .nilc x=>match evS S x with
  | some (.pointer (some a))=>K (.pointer (some a)) H .pure
  | some (.iface t v)=>K (.iface t v) H .pure
  | some (.func (.func f) a b)=>K (.func (.func f) a b) H .pure
  | some (.func (.yield f) a b)=>K (.func (.yield f) a b) H .pure
  | _=>False
 | .addo x off=>match evS S x with
  | some (.pointer (some ⟨b,o,none⟩))=>K (.pointer (some ⟨b,o+off,none⟩)) H .pure
  | _=>False
 | .idx x i size=>match evS S x,evS S i with
  | some (.slice (some ⟨b,o,none⟩) len _),some (.int _ j)=>∃ k:Nat,j=(k:Int)∧k < len∧K (.pointer (some ⟨b,o+k * size,none⟩)) H .pure
  | _,_=>False
 | .idxa x i len size=>match evS S x,evS S i with
  | some (.pointer (some ⟨b,o,none⟩)),some (.int _ j)=>∃ k:Nat,j=(k:Int)∧k < len∧K (.pointer (some ⟨b,o+k * size,none⟩)) H .pure
  | _,_=>False
 | .ld x _=>match evS S x with
  | some (.pointer (some ⟨b,o,none⟩))=>∃ cs v,cellsOf H b=some cs∧cs[o]? = some v∧K v H (.read b)
  | _=>False
 | .lda x m=>match evS S x with
  | some (.pointer (some ⟨b,o,none⟩))=>∃ cs r,cellsOf H b=some cs∧row m cs o=some r∧K (.agg r.toArray) H (.read b)
  | _=>False
 | .st x y=>match evS S x,evS S y with
  | some (.pointer (some ⟨b,o,none⟩)),some v=>∃ cs e l,H.t.get b=some (.cells cs e l)∧lo≤b∧v.cells.toList=[v]∧one v=true∧o < cs.length∧∀ H1,H.up b (.cells (cs.set o v) e l)=H1→K undef H1 (.store b)
  | _,_=>False
 | .sta x y m=>match evS S x,evS S y with
  | some (.pointer (some ⟨b,o,none⟩)),some v=>∃ cs e l,H.t.get b=some (.cells cs e l)∧lo≤b∧v.cells.toList.length=m∧v.cells.toList.all one=true∧o+m≤cs.length∧∀ H1,H.up b (.cells (Z9 cs o v.cells.toList) e l)=H1→K undef H1 (.store b)
  | _,_=>False
 | .ari op x y=>match op,evS S x,evS S y with
  | .add,some (.int .i64 a),some (.int .i64 b)=>InR (a+b)∧K (.int .i64 (a+b)) H .pure
  | .sub,some (.int .i64 a),some (.int .i64 b)=>InR (a - b)∧K (.int .i64 (a - b)) H .pure
  | .mul,some (.int .i64 a),some (.int .i64 b)=>InR (a * b)∧K (.int .i64 (a * b)) H .pure
  | .quo,some (.int .i64 a),some (.int .i64 b)=>0≤a∧0 < b∧InR a∧K (.int .i64 (a / b)) H .pure
  | .rem,some (.int .i64 a),some (.int .i64 b)=>0≤a∧0 < b∧InR a∧InR b∧K (.int .i64 (a % b)) H .pure
  | _,_,_=>False
 | .cmp op x y=>match op,evS S x,evS S y with
  | .eql,some (.int .i64 a),some (.int .i64 b)=>K (.bool (a == b)) H .pure
  | .neq,some (.int .i64 a),some (.int .i64 b)=>K (.bool (a != b)) H .pure
  | .lss,some (.int .i64 a),some (.int .i64 b)=>K (.bool (decide (a < b))) H .pure
  | .leq,some (.int .i64 a),some (.int .i64 b)=>K (.bool (decide (a≤b))) H .pure
  | .gtr,some (.int .i64 a),some (.int .i64 b)=>K (.bool (decide (a > b))) H .pure
  | .geq,some (.int .i64 a),some (.int .i64 b)=>K (.bool (decide (a ≥ b))) H .pure
  | _,_,_=>False
 | .cmpb op x y=>match op,evS S x,evS S y with
  | .eql,some (.int .i64 a),some (.int .i64 b)=>∀ t,(a == b)=t→K (.bool t) H .pure
  | .neq,some (.int .i64 a),some (.int .i64 b)=>∀ t,(a != b)=t→K (.bool t) H .pure
  | .lss,some (.int .i64 a),some (.int .i64 b)=>∀ t,decide (a < b)=t→K (.bool t) H .pure
  | .leq,some (.int .i64 a),some (.int .i64 b)=>∀ t,decide (a≤b)=t→K (.bool t) H .pure
  | .gtr,some (.int .i64 a),some (.int .i64 b)=>∀ t,decide (a > b)=t→K (.bool t) H .pure
  | .geq,some (.int .i64 a),some (.int .i64 b)=>∀ t,decide (a ≥ b)=t→K (.bool t) H .pure
  | _,_,_=>False
 | .len x=>match evS S x with
  | some (.slice _ m _)=>K (.int .i64 m) H .pure
  | _=>False
 | .mm small x y=>match evS S x,evS S y with
  | some (.int .i64 a),some (.int .i64 b)=>K (.int .i64 (bif small then min a b else max a b)) H .pure
  | _,_=>False
 | .call c ord=>match YO S c with
  | some (t,vs)=>bif !ord && Vh t then ∃ v H' b,X4 P kn lo t vs H v H'∧lo≤b∧qJ t=some b∧b < H.next∧KK H H' b∧K v H' (.store b)
   else ∃ v H',X4 P kn (bif ord then lo else H.next) t vs H v H'∧K v H' (bif ord then .full else .heavy)
  | none=>False
 | .box e x=>match evS S x with
  | some v=>∀ H1,H.new (.cells v.cells.toList e false)=H1→K (ptr H.next) H1 .heavy
  | none=>False
 | .alc e z=>∀ H1,H.new (.cells z e false)=H1→K (ptr H.next) H1 .heavy
 | .dead=>False
 | .rng _=>False
 | .nxt _=>False
 | .ent _=>False
 | .mst o=>Vl S o.op.operands.toList=true∧Zn P (frS n S) o=none∧∃ H' k,Zv P lo (frS n S) H o=some (.skip H',k)∧K undef H' k
 | .pur o=>Vl S o.op.operands.toList=true∧∃ v,Zn P (frS n S) o=some v∧K v H .pure
 | .mem o=>Vl S o.op.operands.toList=true∧((∃ v,Zn P (frS n S) o=some v∧K v H .pure)∨
   (Zn P (frS n S) o=none∧∃ v H' k,Zv P lo (frS n S) H o=some (.val v H',k)∧(∀ b,k=.read b→b < H.next)∧K v H' k))

def Zy (S:Rg) (d:Option Nat) (v:Value):Rg:=match d with | none=>S | some d=>(d,v) :: S

def wRO (S:Rg) (H:Hp) (o:RO) (K:Rg→Hp→Kd→Prop):Prop:=
 match o.guard with
 | none=>wRI P kn lo n S H (fun v H' k=>K (Zy S o.dst v) H' k) o.ri
 | some (g,want)=>match lk S g with
  | some (.bool true)=>bif want then wRI P kn lo n S H (fun v H' k=>K (Zy S o.dst v) H' k) o.ri else K (Zy S o.dst undef) H .pure
  | some (.bool false)=>bif want then K (Zy S o.dst undef) H .pure else wRI P kn lo n S H (fun v H' k=>K (Zy S o.dst v) H' k) o.ri
  | some (.tuple _)=>K (Zy S o.dst undef) H .pure
  | _=>False
def Zq:List RO→Rg→Hp→(Rg→Hp→Prop)→Prop
 | [],S,H,K=>K S H
 | o :: r,S,H,K=>wRO P kn lo n S H o fun S' H' _=>Zq r S' H' K

def UZ:Kd→Kd→Prop
 | .pure,_ | _,.pure=>False
 | .full,_ | _,.full=>True
 | .store b,.read c | .read c,.store b=>b=c
 | .store _,_ | _,.store _=>True
 | _,_=>False
def QB (k:Kd):Nat→List Kd→Prop
 | _,[]=>True
 | m,c :: cs=>(bif Nat.beq (Nat.mod m 2) 1 then True else ¬ UZ k c)∧QB k (Nat.div m 2) cs
def K3:List Kd→List Nat→Prop
 | k :: ks,m :: ms=>QB k m ks.reverse∧K3 ks ms
 | _,_=>True
def Zu (masks:List Nat):List RO→List Kd→Rg→Hp→(Rg→Hp→Prop)→Prop
 | [],ks,S,H,K=>(bif ks.all calm then True else K3 ks masks)∧K S H
 | o :: r,ks,S,H,K=>wRO P kn lo n S H o fun S' H' k=>match k with | .read b=>b < H.next∧Zu masks r (.read b :: ks) S' H' K | k=>Zu masks r (k :: ks) S' H' K

def kdW (o:RO) (H:Hp):Kd→Kd
 | .heavy=>match o.ri with | .alc _ _=>.mk H.next | .box _ _=>.mk H.next | _=>.heavy
 | k=>k
def U8:Kd→Kd→Prop
 | .store b,.mk c | .mk c,.store b=>b=c
 | k,c=>UZ k c
def V1 (k:Kd):Nat→List Kd→Prop
 | _,[]=>True
 | m,c :: cs=>(bif Nat.beq (Nat.mod m 2) 1 then True else ¬ U8 k c)∧V1 k (Nat.div m 2) cs
def KO:List Kd→List Nat→Prop
 | k :: ks,m :: ms=>V1 k m ks.reverse∧KO ks ms
 | _,_=>True
def V5 (masks:List Nat):List RO→List Kd→Rg→Hp→(Rg→Hp→Prop)→Prop
 | [],ks,S,H,K=>KO ks masks∧K S H
 | o :: r,ks,S,H,K=>wRO P kn lo n S H o fun S' H' k=>match kdW o H k with | .read b=>b < H.next∧V5 masks r (.read b :: ks) S' H' K | k=>V5 masks r (k :: ks) S' H' K

def wC:RC→Rg→Hp→(Exit→Rg→Hp→Prop)→Prop
 | .skip,S,H,K=>K .normal S H
 | .exit id,S,H,K=>K (.exit id) S H
 | .ret,S,H,K=>K .ret S H
 | .seq x y,S,H,K=>wC x S H fun e S' H'=>match e with | .normal=>wC y S' H' K | e=>K e S' H'
 | .cond o x y,S,H,K=>match evS S o with
  | some (.bool b)=>(b=true→wC x S H K)∧(b=false→wC y S H K)
  | _=>False
 | .block id b,S,H,K=>wC b S H fun e S' H'=>match e with | .exit j=>(bif Nat.beq j id then K .normal S' H' else K (.exit j) S' H') | e=>K e S' H'
 | .scp b,S,H,K=>wC b S H K
 | .reg ops,S,H,K=>Zq P kn lo n ops S H fun S' H'=>K .normal S' H'
 | .dreg ops masks,S,H,K=>Zu P kn lo n masks ops [] S H (fun S' H'=>K .normal S' H')∨VB lo H∧V5 P kn lo n masks ops [] S H fun S' H'=>K .normal S' H'
 | .other c,S,H,K=>Tri P kn lo n rd c S H K
end
end
end Go.Ax

/-! The evaluator for all inputs,2: what is asked is enough for one operation. -/
namespace Go.Ax
open Go Go.RowKit

theorem Zbx:∀ (S:Rg) (j:Nat),(trS S).get j=lk S j
 | [],j=>by simp [trS,Tr.get_nil,lk]
 | (i,v) :: r,j=>by
  simp only [trS,lk,Tr.get_set,Zbx r j,ZG]
  by_cases h:j=i
  ·subst h;simp
  ·rw [if_neg h,decide_eq_false (fun e=>h e.symm)];rfl
theorem Yo (n:Nat) (S:Rg) (x:Operand):ev (frS n S) x=evS S x:=by
 cases x<;>simp [ev,evS,frS,Zbx]
section
variable {S:Rg} {A:Fr}
theorem ZU (hA:ZT S A.T) {x:Operand} {v:Value} (h:evS S x=some v):ev A x=some v:=by
 cases x with
 | tmp t=>exact hA t v h
 | const c=>exact h
 | func f=>exact h
 | global g=>exact h
theorem Zdw (hA:ZT S A.T):∀ {xs:List Operand} {vs:List Value},zj S xs=some vs→evs A xs=some vs
 | [],vs,h=>h
 | x :: xs,vs,h=>by
  simp only [zj] at h
  cases h1:evS S x with
  | none=>simp [h1] at h
  | some v=>
   cases h2:zj S xs with
   | none=>simp [h1,h2] at h
   | some vs'=>
    simp [h1,h2] at h;subst h
    simp only [evs,ZU hA h1,Zdw hA h2]
theorem U4 (hA:ZT S A.T) {c:Call} {p:Target × List Value} (h:YO S c=some p):YW A c=some p:=by
 unfold YO at h
 unfold YW
 cases h1:zj S c.args.toList with
 | none=>simp [h1] at h
 | some vs=>
  simp only [h1] at h
  simp only [Zdw hA h1]
  cases hc:c.callee with
  | builtin b=>simp [hc] at h
  | invoke r name=>
   simp only [hc] at h ⊢
   cases h2:evS S r with
   | none=>simp [h2] at h
   | some v=>simp only [h2] at h;simp only [ZU hA h2];exact h
  | value f=>
   simp only [hc] at h ⊢
   cases h2:evS S f with
   | none=>simp [h2] at h
   | some v=>simp only [h2] at h;simp only [ZU hA h2];exact h
theorem Zao:∀ {l:List Operand},Vl S l=true→∀ x∈l,∃ v,evS S x=some v
 | [],_,x,hx=>by cases hx
 | y :: l,h,x,hx=>by
  simp only [Vl,Bool.and_eq_true] at h
  cases hx with
  | head=>
   cases h1:evS S y with
   | none=>simp [h1] at h
   | some v=>exact ⟨v,rfl⟩
  | tail _ hx=>exact Zao h.2 x hx
theorem Wx (hA:ZT S A.T) {n:Nat} {o:Oper} (h:Vl S o.op.operands.toList=true):∀ x∈o.op.operands,ev A x=ev (frS n S) x:=by
 intro x hx
 obtain ⟨v,hv⟩:=Zao h x (by simpa using hx)
 rw [Yo,hv,ZU hA hv]
end

theorem wrap_i64 {x:Int} (h:InR x):IntKind.i64.wrap x=x:=by
 obtain ⟨h1,h2⟩:=h
 unfold IntKind.wrap IntKind.bits IntKind.signed
 simp
 omega
theorem QT (b o k:Nat):Addr.add ⟨b,o,none⟩ k=⟨b,o+k,none⟩:=by
 unfold Addr.add
 by_cases h:k=0
 ·subst h;rfl
 ·rw [if_neg h]

def VU (P:Program) (kn:Kn) (lo:Nat) (ord:Bool) (A:Fr) (H:Hp) (K:Value→Hp→Kd→Prop) (o:Oper):Prop:=
 (∃ v H' k,aOp P lo A H o=some (.val v H',k)∧((∀ b,k=.read b→b < H.next)→Zaf k H=true)∧K v H' k)∨(∃ H' k,aOp P lo A H o=some (.skip H',k)∧K undef H' k)∨
 (∃ t vs v H',aOp P lo A H o=some (.call t vs,.full)∧(!ord && Vh t)=false∧X4 P kn (bif ord then lo else H.next) t vs H v H'∧K v H' (bif ord then .full else .heavy))∨
 (∃ t vs v H' b,aOp P lo A H o=some (.call t vs,.full)∧ord=false∧Vh t=true∧X4 P kn lo t vs H v H'∧WN lo t H H'=some b∧K v H' (.store b))

theorem Zf0 {k:Kd} {H:Hp}:(∀ b,k=.read b→b < H.next)→Zaf k H=true:=by
 intro h
 cases k with
 | read b=>exact Nat.ble_eq_true_of_le (h b rfl)
 | _=>rfl

section
variable {P:Program} {kn:Kn} {lo n:Nat} {ops:List Oper} {ord:Bool} {A:Fr} {S:Rg} {H:Hp} {K:Value→Hp→Kd→Prop} {o:Oper}
theorem Yl {v:Value} (h:Zn P A o=some v) (hk:K v H .pure):VU P kn lo ord A H K o:=
 .inl ⟨v,H,.pure,by unfold aOp;rw [h],Zf0,hk⟩
theorem UA {v:Value} {H':Hp} {k:Kd} (h1:Zn P A o=none) (h2:Zv P lo A H o=some (.val v H',k)) (hk:K v H' k):VU P kn lo ord A H K o:=
 .inl ⟨v,H',k,by unfold aOp;rw [h1];exact h2,Zf0,hk⟩
theorem z9 {H':Hp} {k:Kd} (h1:Zn P A o=none) (h2:Zv P lo A H o=some (.skip H',k)) (hk:K undef H' k):VU P kn lo ord A H K o:=
 .inr (.inl ⟨H',k,by unfold aOp;rw [h1];exact h2,hk⟩)


theorem Uk (B:Fr) (o:Oper):Zn P B (Xy o)=Zn P B o:=rfl
theorem zP (B:Fr) (o:Oper):Zv P lo B H (Xy o)=Zv P lo B H o:=rfl
theorem XO (hA:ZT S A.T) (h:wRI P kn lo n S H K (.pur (Xy o))):VU P kn lo ord A H K o:=by
 obtain ⟨hd,v,hv,hk⟩:=h
 rw [Uk] at hv
 have hd:Vl S o.op.operands.toList=true:=hd
 exact Yl ((Wi (Wx hA hd)).trans hv) hk
theorem U5 (hA:ZT S A.T) (h:wRI P kn lo n S H K (.mem (Xy o))):VU P kn lo ord A H K o:=by
 obtain ⟨hd,⟨v,hv,hk⟩ | ⟨h1,v,H',k,h2,_,hk⟩⟩:=h
 all_goals have hd:Vl S o.op.operands.toList=true:=hd
 ·rw [Uk] at hv
  exact Yl ((Wi (Wx hA hd)).trans hv) hk
 ·rw [Uk] at h1
  rw [zP] at h2
  exact UA ((Wi (Wx hA hd)).trans h1) ((VX (Wx hA hd)).trans h2) hk
theorem Zct (hA:ZT S A.T) (h:wRI P kn lo n S H K (.mst (Xy o))):VU P kn lo ord A H K o:=by
 obtain ⟨hd,h1,H',k,h2,hk⟩:=h
 have hd:Vl S o.op.operands.toList=true:=hd
 rw [Uk] at h1
 rw [zP] at h2
 exact z9 ((Wi (Wx hA hd)).trans h1) ((VX (Wx hA hd)).trans h2) hk
theorem Zat {c:Call} (hb:∀ b,c.callee≠.builtin b) (hop:o.op=.call c) (hA:ZT S A.T) (h:wRI P kn lo n S H K (.call c ord)):VU P kn lo ord A H K o:=by
 simp only [wRI] at h
 split at h<;>first | exact h.elim | skip
 rename_i t vs ht
 have e1:aOp P lo A H o=some (.call t vs,.full):=by
  have e:Zn P A o=none:=by
   unfold Zn;rw [hop]
   cases hcal:c.callee with
   | builtin b=>exact absurd hcal (hb b)
   | _=>simp only [hcal]
  unfold aOp
  rw [e]
  unfold Zv
  rw [hop]
  cases hcal:c.callee with
  | builtin b=>exact absurd hcal (hb b)
  | _=>simp only [hcal,U4 hA ht]
 cases hm:(!ord && Vh t) with
 | false=>
  rw [hm] at h
  simp only [cond_false] at h
  obtain ⟨v,H',hc,hk⟩:=h
  exact .inr (.inr (.inl ⟨t,vs,v,H',e1,hm,hc,hk⟩))
 | true=>
  rw [hm] at h
  simp only [cond_true] at h
  obtain ⟨v,H',b,hc,h1,h2,h3,h4,hk⟩:=h
  simp only [Bool.and_eq_true,Bool.not_eq_true'] at hm
  refine .inr (.inr (.inr ⟨t,vs,v,H',b,e1,hm.1,hm.2,hc,?_,hk⟩))
  unfold WN
  rw [h2]
  simp only
  rw [if_pos ⟨h1,h4⟩]

theorem ZdW {a b:Int} (ha:0≤a) (_hb:0 < b):a.tdiv b=a / b:=Int.tdiv_eq_ediv_of_nonneg ha
theorem Zdr {a b:Int} (ha:0≤a):a.tmod b=a % b:=Int.tmod_eq_emod_of_nonneg ha
theorem ZcF {op:BinOp} {t ty:TypeId} {x y:Operand} (hop:o.op=.binOp op t x y ty) (hA:ZT S A.T) (h:wRI P kn lo n S H K (.ari op x y)):VU P kn lo ord A H K o:=by
 simp only [wRI] at h
 split at h<;>first | exact h.elim | skip
 ·rename_i a b h1 h2
  obtain ⟨hr,h⟩:=h
  refine Yl ?_ h
  have:Zn P A o=some (.int .i64 (IntKind.i64.wrap (a+b))):=by unfold Zn;rw [hop];simp only [ZU hA h1,ZU hA h2];rfl
  rw [this,wrap_i64 hr]
 ·rename_i a b h1 h2
  obtain ⟨hr,h⟩:=h
  refine Yl ?_ h
  have:Zn P A o=some (.int .i64 (IntKind.i64.wrap (a - b))):=by unfold Zn;rw [hop];simp only [ZU hA h1,ZU hA h2];rfl
  rw [this,wrap_i64 hr]
 ·rename_i a b h1 h2
  obtain ⟨hr,h⟩:=h
  refine Yl ?_ h
  have:Zn P A o=some (.int .i64 (IntKind.i64.wrap (a * b))):=by unfold Zn;rw [hop];simp only [ZU hA h1,ZU hA h2];rfl
  rw [this,wrap_i64 hr]
 ·rename_i a b h1 h2
  obtain ⟨ha,hb,hr,h⟩:=h
  refine Yl ?_ h
  have:Zn P A o=match ZH P (Op.intDiv .quo .i64 a b) with | some v=>bif Z0 v then some v else none | none=>none:=by unfold Zn;rw [hop];simp only [ZU hA h1,ZU hA h2];rfl
  rw [this]
  unfold Op.intDiv
  rw [if_neg (by omega)]
  simp only [ZdW ha hb]
  show some (Value.int .i64 (IntKind.i64.wrap (a / b)))=_
  rw [wrap_i64 ⟨by have:=Int.ediv_nonneg ha (Int.le_of_lt hb);omega,by have:=Int.ediv_le_self b ha;have:=hr.2;omega⟩]
 ·rename_i a b h1 h2
  obtain ⟨ha,hb,hr,hr2,h⟩:=h
  refine Yl ?_ h
  have:Zn P A o=match ZH P (Op.intDiv .rem .i64 a b) with | some v=>bif Z0 v then some v else none | none=>none:=by unfold Zn;rw [hop];simp only [ZU hA h1,ZU hA h2];rfl
  rw [this]
  unfold Op.intDiv
  rw [if_neg (by omega)]
  simp only [Zdr ha]
  rfl
theorem Zce {op:BinOp} {t ty:TypeId} {x y:Operand} (hop:o.op=.binOp op t x y ty) (hA:ZT S A.T) (h:wRI P kn lo n S H K (.cmp op x y)):VU P kn lo ord A H K o:=by
 simp only [wRI] at h
 split at h<;>first | exact h.elim | skip
 all_goals
  rename_i a b h1 h2
  refine Yl ?_ h
  unfold Zn;rw [hop];simp only [ZU hA h1,ZU hA h2];rfl
theorem ZaO {op:BinOp} {t ty:TypeId} {x y:Operand} (hop:o.op=.binOp op t x y ty) (hA:ZT S A.T) (h:wRI P kn lo n S H K (.cmpb op x y)):VU P kn lo ord A H K o:=by
 simp only [wRI] at h
 split at h<;>first | exact h.elim | skip
 all_goals
  rename_i a b h1 h2
  refine Yl ?_ (h _ rfl)
  unfold Zn;rw [hop];simp only [ZU hA h1,ZU hA h2];rfl
theorem Zhj (a b:Int):(if b < a then b else a)=min a b:=by
 rw [Int.min_def]
 split<;>split<;>omega
theorem Zgz (a b:Int):(if b > a then b else a)=max a b:=by
 rw [Int.max_def]
 split<;>split<;>omega

theorem U7 {ri:RI} (hl:WF P ops ord o=some ri) (hA:ZT S A.T) (h:wRI P kn lo n S H K ri):VU P kn lo ord A H K o:=by
 unfold WF at hl
 split at hl<;>(rename_i hop;first | (cases hl;done) | skip)
 case h_1 x=>
  cases hl
  simp only [wRI] at h
  split at h<;>first | exact h.elim | skip
  rename_i v hv
  exact Yl (by unfold Zn;rw [hop];exact ZU hA hv) h
 case h_2 x=>
  cases hl
  simp only [wRI] at h
  split at h<;>first | exact h.elim | skip
  rename_i v hv
  exact Yl (by unfold Zn;rw [hop];exact ZU hA hv) h
 case h_3 x=>
  cases hl
  simp only [wRI] at h
  split at h<;>first | exact h.elim | skip
  all_goals
   rename_i hv
   exact Yl (by unfold Zn;rw [hop];simp only [ZU hA hv]) h
 case h_4 s x f=>
  split at hl<;>first | (cases hl;done) | skip
  rename_i fs hs
  split at hl<;>first | (cases hl;done) | skip
  rename_i fd hf
  split at hl<;>first | (cases hl;done) | skip
  rename_i i hi
  cases hz:Nat.beq i.size 0 with
  | true=>rw [hz] at hl;cases hl
  | false=>
   rw [hz] at hl;cases hl
   simp only [wRI] at h
   split at h<;>first | exact h.elim | skip
   rename_i b o' hv
   exact Yl (by unfold Zn;rw [hop];simp only [ZU hA hv,hs,hf,hi,hz,cond_false,QT]) h
 case h_5 t x i=>
  split at hl<;>first | (cases hl;done) | skip
  ·rename_i e ht
   split at hl<;>first | (cases hl;done) | skip
   rename_i inf hi
   cases hl
   simp only [wRI] at h
   split at h<;>first | exact h.elim | skip
   rename_i b o' len cp kd j h1 h2
   obtain ⟨k,rfl,hk,h⟩:=h
   exact Yl (by unfold Zn;rw [hop];simp only [ZU hA h1,ZU hA h2,ht,hi,show ((k:Nat):Int)=Int.ofNat k from rfl,Nat.ble_eq_true_of_le (show k+1≤len from hk),cond_true,QT]) h
  ·rename_i len e ht
   split at hl<;>first | (cases hl;done) | skip
   rename_i inf hi
   cases hl
   simp only [wRI] at h
   split at h<;>first | exact h.elim | skip
   rename_i b o' kd j h1 h2
   obtain ⟨k,rfl,hk,h⟩:=h
   exact Yl (by unfold Zn;rw [hop];simp only [ZU hA h1,ZU hA h2,ht,hi,show ((k:Nat):Int)=Int.ofNat k from rfl,Nat.ble_eq_true_of_le (show k+1≤len from hk),cond_true,QT]) h
 case h_6 t x=>
  split at hl<;>first | (cases hl;done) | skip
  ·rename_i i hi ha
   cases hl
   simp only [wRI] at h
   split at h<;>first | exact h.elim | skip
   rename_i b o' hv
   obtain ⟨cs,r,hc,hr,h⟩:=h
   exact UA (by unfold Zn;rw [hop]) (by unfold Zv;rw [hop];simp only [ZU hA hv,W4,hc,ha,hi,hr]) h
  ·rename_i i hi ha
   cases hl
   simp only [wRI] at h
   split at h<;>first | exact h.elim | skip
   rename_i b o' hv
   obtain ⟨cs,v,hc,hr,h⟩:=h
   exact UA (by unfold Zn;rw [hop]) (by unfold Zv;rw [hop];simp only [ZU hA hv,W4,hc,ha,hr]) h
 case h_7 t x y=>
  split at hl<;>first | (cases hl;done) | skip
  rename_i i hi
  have key:∀ m,i.size=m→wRI P kn lo n S H K (.sta x y m)→VU P kn lo ord A H K o:=by
   intro m hm h
   simp only [wRI] at h
   split at h<;>first | exact h.elim | skip
   rename_i b o' v h1 h2
   obtain ⟨cs,e,l,hc,hlo,hv1,hv2,ho,h⟩:=h
   refine z9 (by unfold Zn;rw [hop]) (k:=.store b) (H':=H.up b (.cells (Z9 cs o' v.cells.toList) e l)) ?_ (h _ rfl)
   unfold Zv
   rw [hop]
   simp only [ZU hA h1,ZU hA h2,QH,hc,hi,hm,Nat.ble_eq_true_of_le hlo,Nat.ble_eq_true_of_le ho,hv1,hv2,Nat.beq_refl,Bool.and_true,cond_true]
   rfl
  cases hz:Nat.beq i.size 1 with
  | false=>rw [hz] at hl;cases hl;exact key _ rfl h
  | true=>
   rw [hz] at hl
   simp only [cond_true] at hl
   split at hl
   ·cases hl
    refine key 1 (Nat.eq_of_beq_eq_true hz) ?_
    simp only [wRI] at h ⊢
    split at h<;>first | exact h.elim | skip
    rename_i b o' v h1 h2
    obtain ⟨cs,e,l,hc,hlo,hv1,hv2,ho,h⟩:=h
    refine ⟨cs,e,l,hc,hlo,by rw [hv1];rfl,by rw [hv1];simp [hv2],ho,?_⟩
    rw [hv1]
    exact h
   ·cases hl;exact key _ rfl h
 case h_8 op t x y ty=>
  cases hi:yB P t with
  | false=>
   rw [hi] at hl
   simp only [cond_false] at hl
   cases hpt:ZhA P op t with
   | true=>rw [hpt] at hl;cases hl;exact U5 hA h
   | false=>rw [hpt] at hl;cases hl;exact XO hA h
  | true=>
   rw [hi] at hl
   simp only [cond_true] at hl
   cases ha:Zf5 op with
   | true=>rw [ha] at hl;cases hl;exact ZcF hop hA h
   | false=>
    rw [ha] at hl
    simp only [cond_false] at hl
    cases hc:j3 op with
    | true=>
     rw [hc] at hl
     simp only [cond_true] at hl
     cases hg:jO ops with
     | true=>rw [hg] at hl;cases hl;exact ZaO hop hA h
     | false=>rw [hg] at hl;cases hl;exact Zce hop hA h
    | false=>rw [hc] at hl;cases hl;exact XO hA h
 case h_9 e x=>
  cases hl
  simp only [wRI] at h
  split at h<;>first | exact h.elim | skip
  rename_i v hv
  exact UA (by unfold Zn;rw [hop]) (by unfold Zv;rw [hop];simp only [ZU hA hv]) (h _ rfl)
 case h_10 e=>
  split at hl<;>first | (cases hl;done) | skip
  rename_i z hz
  cases hl
  simp only [wRI] at h
  exact UA (by unfold Zn;rw [hop]) (by unfold Zv;rw [hop];simp only [hz]) (h _ rfl)
 case h_11 c=>
  split at hl
  ·rename_i hcal
   split at hl<;>first | (cases hl;done) | skip
   rename_i t ht
   split at hl
   ·rename_i e x hu hargs
    cases hl
    simp only [wRI] at h
    split at h<;>first | exact h.elim | skip
    rename_i a m cp hv
    refine Yl ?_ h
    unfold Zn
    rw [hop]
    simp only [hcal,hargs,evs,ZU hA hv,VM,ht,hu]
   ·cases hl;exact XO hA h
  ·rename_i hcal
   split at hl
   ·rename_i x y hargs
    cases hi:yB P o.type with
    | false=>rw [hi] at hl;cases hl;exact XO hA h
    | true=>
     rw [hi] at hl;cases hl
     simp only [wRI] at h
     split at h<;>first | exact h.elim | skip
     rename_i a b h1 h2
     refine Yl ?_ h
     unfold Zn
     rw [hop]
     simp only [hcal,hargs,evs,ZU hA h1,ZU hA h2,cond_true]
     show some (Value.int .i64 (if b < a then b else a))=_
     rw [Zhj]
   ·cases hl;exact XO hA h
  ·rename_i hcal
   split at hl
   ·rename_i x y hargs
    cases hi:yB P o.type with
    | false=>rw [hi] at hl;cases hl;exact XO hA h
    | true=>
     rw [hi] at hl;cases hl
     simp only [wRI] at h
     split at h<;>first | exact h.elim | skip
     rename_i a b h1 h2
     refine Yl ?_ h
     unfold Zn
     rw [hop]
     simp only [hcal,hargs,evs,ZU hA h1,ZU hA h2,cond_false]
     show some (Value.int .i64 (if b > a then b else a))=_
     rw [Zgz]
   ·cases hl;exact XO hA h
  ·cases hl;exact U5 hA h
  ·rename_i hcal
   cases hl;exact Zat (fun b e=>hcal b e) hop hA h
 case h_15=>
  split at hl
  ·cases hl;exact XO hA h
  ·cases hl;exact U5 hA h
 all_goals first
  | (cases hl;exact U5 hA h)
  | (cases hl;exact Zct hA h)
  | (cases hl;exact XO hA h)
  | (cases hl;exact False.elim h)
  | (split at hl<;>first | (cases hl;done) | (cases hl;exact False.elim h))
end
end Go.Ax

/-! The evaluator for all inputs,3: what is asked is enough for regions and code. -/
namespace Go.Ax
open Go Go.RowKit

noncomputable def YD (T:Tr Value) (d:Option Nat) (v:Value):Tr Value:=match d with | none=>T | some d=>T.set d v
theorem ZL {S:Rg} {T:Tr Value} (h:ZT S T) (d:Option Nat) (v:Value):ZT (Zy S d v) (YD T d v):=by
 cases d with
 | none=>exact h
 | some d=>
  intro j u hj
  simp only [Zy,lk,ZG] at hj
  simp only [YD,Tr.get_set]
  by_cases e:j=d
  ·subst e;simpa using hj
  ·rw [decide_eq_false (fun q=>e q.symm)] at hj
   rw [if_neg e]
   exact h j u hj
theorem qe {A:Fr} {d:Option Nat} (h:(match d with | none=>true | some d=>Nat.ble (d+1) A.n)=true) (v:Value):A.put d v=some { A with T:=YD A.T d v }:=by
 cases d with
 | none=>rfl
 | some d=>simp only [Fr.put];simp only at h;rw [h];rfl

section
variable {P:Program} {kn:Kn} {lo n:Nat}

theorem VK {ops:Array Oper} {ord:Bool} {A:Fr} {S:Rg} {H:Hp} {K:Rg→Hp→Kd→Prop} {o:Oper} {ro:RO} (hl:W5 P n ops.toList ord o=some ro) (hA:ZT S A.T) (hn:A.n=n) (h:wRO P kn lo n S H ro K) :
  (∀ v,A.put o.dst v=some { A with T:=YD A.T o.dst v })∧
  ((ZF ops A o=some false∧K (Zy S o.dst undef) H .pure)∨(ZF ops A o=some true∧VU P kn lo ord A H (fun v H' k=>K (Zy S o.dst v) H' k) o)):=by
 unfold W5 at hl
 split at hl<;>first | (cases hl;done) | skip
 rename_i ri hri
 obtain ⟨hd,hl⟩:=Zf hl
 refine ⟨qe (by rw [hn];exact hd),?_⟩
 split at hl
 ·rename_i hg
  cases hl
  simp only [wRO] at h
  exact .inr ⟨by unfold ZF;rw [hg],U7 hri hA h⟩
 ·rename_i j w hg
  split at hl<;>first | (cases hl;done) | skip
  rename_i g hj
  split at hl<;>first | (cases hl;done) | skip
  rename_i d hgd
  cases hl
  have hj':ops[j]? = some g:=by simpa using hj
  simp only [wRO] at h
  split at h<;>first | exact h.elim | skip
  ·rename_i hb
   have hw:ZF ops A o=some (true == w):=by unfold ZF;rw [hg];simp only [hj',hgd,hA d _ hb]
   cases w with
   | true=>exact .inr ⟨by rw [hw];rfl,U7 hri hA h⟩
   | false=>exact .inl ⟨by rw [hw];rfl,h⟩
  ·rename_i hb
   have hw:ZF ops A o=some (false == w):=by unfold ZF;rw [hg];simp only [hj',hgd,hA d _ hb]
   cases w with
   | true=>exact .inl ⟨by rw [hw];rfl,h⟩
   | false=>exact .inr ⟨by rw [hw];rfl,U7 hri hA h⟩
  ·rename_i vs hb
   exact .inl ⟨by unfold ZF;rw [hg];simp only [hj',hgd,hA d _ hb],h⟩

theorem zh {ops:Array Oper}:∀ (rest pre:List Oper) {rl:List RO} {A:Fr} {S:Rg} {H:Hp} {K:Rg→Hp→Prop},ops.toList=pre ++ rest→Y4 P n ops.toList (fun _=>true) rest pre.length=some rl→ZT S A.T→A.n=n→Zq P kn lo n rl S H K→
  ∃ S' H' T',K S' H'∧ZT S' T'∧∃ N,∀ m k,N≤m→N≤k→Ya P lo (YE P kn m k) ops (List.range' pre.length rest.length) A H none=some (.normal,{ A with T:=T' },H',none)
 | [],pre,rl,A,S,H,K,he,hl,hA,hn,h=>by
  simp only [Y4] at hl;cases hl
  exact ⟨S,H,A.T,h,hA,0,fun m k _ _=>rfl⟩
 | o :: rest,pre,rl,A,S,H,K,he,hl,hA,hn,h=>by
  simp only [Y4] at hl
  split at hl<;>first | (cases hl;done) | skip
  rename_i ro hro
  split at hl<;>first | (cases hl;done) | skip
  rename_i l hrest
  cases hl
  simp only [Zq] at h
  have ho:ops[pre.length]? = some o:=by
   have:ops.toList[pre.length]? = some o:=by rw [he];simp
   simpa using this
  have he2:ops.toList=(pre ++ [o]) ++ rest:=by rw [he];simp
  have ih:=fun {A':Fr} {S':Rg} {H':Hp} (hA':ZT S' A'.T) (hn':A'.n=n) (h':Zq P kn lo n l S' H' K)=>zh rest (pre ++ [o]) (rl:=l) he2 (by simpa using hrest) hA' hn' h'
  simp only [List.length_append,List.length_singleton] at ih
  obtain ⟨hput,hcase⟩:=VK hro hA hn h
  have hr:List.range' pre.length (o :: rest).length=pre.length :: List.range' (pre.length+1) rest.length:=by simp [List.range']
  rw [hr]
  rcases hcase with ⟨hw,h⟩ | ⟨hw,hdone⟩
  ·obtain ⟨S',H',T',a,b,N,c⟩:=ih (A':={ A with T:=YD A.T o.dst undef }) (ZL hA o.dst undef) hn h
   refine ⟨S',H',T',a,b,N,fun m k hm hk=>?_⟩
   rw [Ya]
   simp only [ho,hw,hput]
   exact c m k hm hk
  ·rcases hdone with ⟨v,H1,kd,e,_,h⟩ | ⟨H1,kd,e,h⟩ | ⟨t,vs,v,H1,e,_,⟨N1,hc⟩,h⟩ | ⟨_,_,_,_,_,_,hf,_⟩
   rotate_right
   ·cases hf
   ·obtain ⟨S',H',T',a,b,N,c⟩:=ih (A':={ A with T:=YD A.T o.dst v }) (ZL hA o.dst v) hn h
    refine ⟨S',H',T',a,b,N,fun m k hm hk=>?_⟩
    rw [Ya]
    simp only [ho,hw,e,hput]
    exact c m k hm hk
   ·obtain ⟨S',H',T',a,b,N,c⟩:=ih (A':={ A with T:=YD A.T o.dst undef }) (ZL hA o.dst undef) hn h
    refine ⟨S',H',T',a,b,N,fun m k hm hk=>?_⟩
    rw [Ya]
    simp only [ho,hw,e,hput]
    exact c m k hm hk
   ·obtain ⟨S',H',T',a,b,N,c⟩:=ih (A':={ A with T:=YD A.T o.dst v }) (ZL hA o.dst v) hn h
    refine ⟨S',H',T',a,b,N+N1,fun m k hm hk=>?_⟩
    rw [Ya]
    have:=hc m k (by omega) (by omega)
    simp only [cond_true] at this
    simp only [ho,hw,e,this,hput]
    exact c m k (by omega) (by omega)

theorem Jl {H:Hp} {k:Kd} {X:Kd→Prop} (h:match k with | .read b=>b < H.next∧X (.read b) | k=>X k):(∀ b,k=.read b→b < H.next)∧X k:=by
 cases k with
 | read b=>exact ⟨fun c e=>(by cases e;exact h.1),h.2⟩
 | _=>exact ⟨fun c e=>(by cases e),h⟩
def Vy:Kd→Kd
 | .mk _=>.heavy
 | k=>k
theorem Zcd {A:Fr} {H H':Hp} {o:Oper} {v:Value} {k:Kd} (h:aOp P lo A H o=some (.val v H',k)):Vy (qo o H k)=k:=by
 cases k with
 | heavy=>unfold qo;cases JN o<;>rfl
 | mk b=>
  exfalso
  unfold aOp at h
  split at h
  ·cases h
  ·exact Uy h
 | _=>rfl
theorem Zcf {A:Fr} {H H':Hp} {o:Oper} {k:Kd} (h:aOp P lo A H o=some (.skip H',k)):Vy k=k:=by
 cases k with
 | mk b=>
  exfalso
  unfold aOp at h
  split at h
  ·cases h
  ·exact Uy h
 | _=>rfl
theorem ZcH (ks:List Kd):(ks.map Vy).all calm=ks.all calm:=by
 rw [List.all_map]
 congr 1
 funext k
 cases k<;>rfl
theorem Za3 (k c:Kd):Y7 (Vy k) (Vy c)=Y7 k c:=by cases k<;>cases c<;>rfl
theorem KW (k:Kd) (m:Nat):∀ (cs:List Kd) (n:Nat),Yd.belowG Y7 (Vy k) m (cs.map Vy) n=Yd.belowG Y7 k m cs n
 | [],_=>rfl
 | c :: cs,n=>by simp only [List.map_cons,Yd.belowG,Za3,KW k m cs]
theorem KU:∀ (ks:List Kd) (ms:List Nat),Yd Y7 (ks.map Vy) ms=Yd Y7 ks ms
 | [],ms=>by simp [Yd]
 | k :: ks,[]=>by simp [Yd]
 | k :: ks,m :: ms=>by
  have:=KW k m ks ks.length
  simp only [List.map_cons,Yd,List.length_map,KU ks ms,this]
theorem J6 {ops:Array Oper} {masks:List Nat}:∀ (rest pre:List Oper) {rl:List RO} {A:Fr} {S:Rg} {H:Hp} {ks:List Kd} {K:Rg→Hp→Prop},ops.toList=pre ++ rest→Y4 P n ops.toList (fun i=>WY ops.toList (JJ ops.toList) i) rest pre.length=some rl→ZT S A.T→A.n=n→Zu P kn lo n masks rl (ks.map Vy) S H K→
  ∃ S' H' T' ks',K S' H'∧(bif (ks'.map Vy).all calm then True else K3 (ks'.map Vy) masks)∧ZT S' T'∧∃ N,∀ m k,N≤m→N≤k→Yq P lo (YE P kn m k) ops rest pre.length ks A H=some (ks',{ A with T:=T' },H')
 | [],pre,rl,A,S,H,ks,K,he,hl,hA,hn,h=>by
  simp only [Y4] at hl;cases hl
  exact ⟨S,H,A.T,ks,h.2,h.1,hA,0,fun m k _ _=>rfl⟩
 | o :: rest,pre,rl,A,S,H,ks,K,he,hl,hA,hn,h=>by
  simp only [Y4] at hl
  split at hl<;>first | (cases hl;done) | skip
  rename_i ro hro
  split at hl<;>first | (cases hl;done) | skip
  rename_i l hrest
  cases hl
  simp only [Zu] at h
  have he2:ops.toList=(pre ++ [o]) ++ rest:=by rw [he];simp
  have ih:=fun {A':Fr} {S':Rg} {H':Hp} {ks':List Kd} (hA':ZT S' A'.T) (hn':A'.n=n) (h':Zu P kn lo n masks l (ks'.map Vy) S' H' K)=>J6 rest (pre ++ [o]) (rl:=l) he2 (by simpa using hrest) hA' hn' h'
  simp only [List.length_append,List.length_singleton] at ih
  obtain ⟨hput,hcase⟩:=VK hro hA hn h
  rcases hcase with ⟨hw,h⟩ | ⟨hw,hdone⟩
  ·obtain ⟨S',H',T',ks',a,a2,b,N,c⟩:=ih (ks':=.pure :: ks) (A':={ A with T:=YD A.T o.dst undef }) (ZL hA o.dst undef) hn h
   refine ⟨S',H',T',ks',a,a2,b,N,fun m k hm hk=>?_⟩
   rw [Yq]
   simp only [hw,hput]
   exact c m k hm hk
  ·rcases hdone with ⟨v,H1,kd,e,hkd,h⟩ | ⟨H1,kd,e,h⟩ | ⟨t,vs,v,H1,e,hmk,⟨N1,hc⟩,h⟩ | ⟨t,vs,v,H1,bk,e,hord,hmk,⟨N1,hc⟩,hob,h⟩
   ·obtain ⟨hb,h⟩:=Jl (X:=fun k=>Zu P kn lo n masks l (k :: ks.map Vy) (Zy S o.dst v) H1 K) h
    rw [← Zcd e,← List.map_cons] at h
    obtain ⟨S',H',T',ks',a,a2,b,N,c⟩:=ih (A':={ A with T:=YD A.T o.dst v }) (ZL hA o.dst v) hn h
    refine ⟨S',H',T',ks',a,a2,b,N,fun m k hm hk=>?_⟩
    rw [Yq]
    have hkd:Zaf kd H=true:=hkd hb
    simp only [hw,e,hkd,hput,cond_true]
    exact c m k hm hk
   ·obtain ⟨_,h⟩:=Jl (X:=fun k=>Zu P kn lo n masks l (k :: ks.map Vy) (Zy S o.dst undef) H1 K) h
    rw [← Zcf e,← List.map_cons] at h
    obtain ⟨S',H',T',ks',a,a2,b,N,c⟩:=ih (A':={ A with T:=YD A.T o.dst undef }) (ZL hA o.dst undef) hn h
    refine ⟨S',H',T',ks',a,a2,b,N,fun m k hm hk=>?_⟩
    rw [Yq]
    simp only [hw,e,hput]
    exact c m k hm hk
   ·cases ho:WY ops.toList (JJ ops.toList) pre.length with
    | true=>
     simp only [ho,cond_true] at hc h
     obtain ⟨S',H',T',ks',a,a2,b,N,c⟩:=ih (ks':=.full :: ks) (A':={ A with T:=YD A.T o.dst v }) (ZL hA o.dst v) hn h
     refine ⟨S',H',T',ks',a,a2,b,N+N1,fun m k hm hk=>?_⟩
     rw [Yq]
     simp only [hw,e,ho,cond_true,hc m k (by omega) (by omega),hput]
     exact c m k (by omega) (by omega)
    | false=>
     simp only [ho,cond_false] at hc h
     obtain ⟨S',H',T',ks',a,a2,b,N,c⟩:=ih (ks':=.heavy :: ks) (A':={ A with T:=YD A.T o.dst v }) (ZL hA o.dst v) hn h
     refine ⟨S',H',T',ks',a,a2,b,N+N1,fun m k hm hk=>?_⟩
     rw [Yq]
     have hmk:Vh t=false:=by simpa [ho] using hmk
     simp only [hw,e,ho,hmk,cond_false,hc m k (by omega) (by omega),hput]
     exact c m k (by omega) (by omega)
   ·obtain ⟨S',H',T',ks',a,a2,b,N,c⟩:=ih (ks':=.store bk :: ks) (A':={ A with T:=YD A.T o.dst v }) (ZL hA o.dst v) hn h
    refine ⟨S',H',T',ks',a,a2,b,N+N1,fun m k hm hk=>?_⟩
    rw [Yq]
    simp only [hw,e,hord,hmk,cond_false,cond_true,hc m k (by omega) (by omega),hob,hput]
    exact c m k (by omega) (by omega)

theorem Zdq {k c:Kd} (h:¬ UZ k c):Y7 k c=false:=by
 cases k<;>cases c<;>simp_all [UZ,Y7,ZG]
theorem Kp {k c:Kd}:∀ (l:List Kd) (m:Nat),QB k m (l ++ [c])→QB k m l∧(m.testBit l.length=true∨¬ UZ k c)
 | [],m,h=>by
  simp only [List.nil_append,QB] at h
  refine ⟨trivial,?_⟩
  cases hb:Nat.beq (Nat.mod m 2) 1 with
  | true=>
   left
   have:=Nat.eq_of_beq_eq_true hb
   simp only [List.length_nil,Nat.testBit_zero]
   exact decide_eq_true this
  | false=>rw [hb] at h;exact .inr h.1
 | d :: l,m,h=>by
  simp only [List.cons_append,QB] at h
  obtain ⟨h1,h2⟩:=Kp l _ h.2
  refine ⟨⟨h.1,h1⟩,h2.imp (fun q=>?_) id⟩
  simp only [List.length_cons]
  rw [Nat.testBit_succ]
  exact q
theorem jy {k:Kd} {m:Nat}:∀ (cs:List Kd),QB k m cs.reverse→Yd.belowG Y7 k m cs cs.length=true
 | [],_=>rfl
 | c :: cs,h=>by
  rw [List.reverse_cons] at h
  obtain ⟨h1,h2⟩:=Kp _ _ h
  simp only [Yd.belowG,Bool.and_eq_true,List.length_cons,Nat.add_sub_cancel]
  refine ⟨?_,jy cs h1⟩
  rw [List.length_reverse] at h2
  rcases h2 with h2 | h2
  ·rw [h2];simp
  ·simp [Zdq h2]
theorem j0:∀ (ks:List Kd) (ms:List Nat),K3 ks ms→Yd Y7 ks ms=true
 | [],ms,_=>by simp [Yd]
 | k :: ks,[],_=>by simp [Yd]
 | k :: ks,m :: ms,h=>by
  simp only [Yd,Bool.and_eq_true]
  exact ⟨jy ks h.1,j0 ks ms h.2⟩

theorem ZcY {lo:Nat} {H:Hp} (h:VB lo H):yj lo H=true:=by
 unfold yj
 refine List.all_eq_true.2 fun b hb=>?_
 have hb:=List.mem_range.1 hb
 cases hg:H.t.get b with
 | none=>simp
 | some ob=>
  cases ob with
  | ro cs=>
   have:=h b cs hb hg
   simp only [Bool.or_false]
   exact Nat.ble_eq_true_of_le this
  | _=>simp
def Zc8 (a w:Kd):Prop:=a=w∨(w=.heavy∧∃ b,a=.mk b)
inductive zX:List Kd→List Kd→Prop
 | nil:zX [] []
 | cons {a w:Kd} {as_ ws:List Kd}:Zc8 a w→zX as_ ws→zX (a :: as_) (w :: ws)
theorem zX.length_eq:∀ {as_ ws:List Kd},zX as_ ws→as_.length=ws.length
 | _,_,.nil=>rfl
 | _,_,.cons _ h=>congrArg (· + 1) h.length_eq
theorem ZaM {a w c d:Kd} (h:Zc8 a w) (k:Zc8 c d) (hn:¬ U8 w d):YA a c=false:=by
 rcases h with rfl | ⟨rfl,b,rfl⟩<;>rcases k with rfl | ⟨rfl,e,rfl⟩
 ·cases a<;>cases c<;>simp_all [U8,YA,UZ,Y7,ZG]
 ·cases a<;>simp_all [U8,YA,UZ,Y7,ZG]
 ·cases c<;>simp_all [U8,YA,UZ,Y7,ZG]
 ·simp [YA,Y7]
theorem JB {k c:Kd}:∀ (l:List Kd) (m:Nat),V1 k m (l ++ [c])→V1 k m l∧(m.testBit l.length=true∨¬ U8 k c)
 | [],m,h=>by
  simp only [List.nil_append,V1] at h
  refine ⟨trivial,?_⟩
  cases hb:Nat.beq (Nat.mod m 2) 1 with
  | true=>
   left
   have:=Nat.eq_of_beq_eq_true hb
   simp only [List.length_nil,Nat.testBit_zero]
   exact decide_eq_true this
  | false=>rw [hb] at h;exact .inr h.1
 | d :: l,m,h=>by
  simp only [List.cons_append,V1] at h
  obtain ⟨h1,h2⟩:=JB l _ h.2
  refine ⟨⟨h.1,h1⟩,h2.imp (fun q=>?_) id⟩
  simp only [List.length_cons]
  rw [Nat.testBit_succ]
  exact q
theorem yD {a k:Kd} {m:Nat} (hk:Zc8 a k):∀ (as_ cs:List Kd),zX as_ cs→V1 k m cs.reverse→Yd.belowG YA a m as_ as_.length=true
 | _,_,.nil,_=>rfl
 | x :: as_,c :: cs,.cons hx hl,h=>by
  rw [List.reverse_cons] at h
  obtain ⟨h1,h2⟩:=JB _ _ h
  simp only [Yd.belowG,Bool.and_eq_true,List.length_cons,Nat.add_sub_cancel]
  refine ⟨?_,yD hk as_ cs hl h1⟩
  rw [List.length_reverse,← hl.length_eq] at h2
  rcases h2 with h2 | h2
  ·rw [h2];simp
  ·simp [ZaM hk hx h2]
theorem yI:∀ (as_ ks:List Kd) (ms:List Nat),zX as_ ks→KO ks ms→Yd YA as_ ms=true
 | _,_,ms,.nil,_=>by simp [Yd]
 | a :: as_,k :: ks,[],.cons _ _,_=>by simp [Yd]
 | a :: as_,k :: ks,m :: ms,.cons h1 h2,h=>by
  simp only [Yd,Bool.and_eq_true]
  exact ⟨yD h1 as_ ks h2 h.1,yI as_ ks ms h2 h.2⟩
def Zfy:RI→Bool | .alc _ _=>true | .box _ _=>true | _=>false
theorem ZcM {ops:List Oper} {ord:Bool} {o:Oper} {ro:RO} (hl:W5 P n ops ord o=some ro) (hm:Zfy ro.ri=true):(∃ t,o.op=.alloc t)∨∃ t x,o.op=.box t x:=by
 unfold W5 at hl
 split at hl<;>first | (cases hl;done) | skip
 rename_i ri hri
 obtain ⟨_,hl⟩:=Zf hl
 have e:ro.ri=ri:=by
  split at hl
  ·cases hl;rfl
  ·split at hl<;>first | (cases hl;done) | skip
   split at hl<;>first | (cases hl;done) | skip
   cases hl;rfl
 rw [e] at hm
 unfold WF at hri
 split at hri<;>first
  | (rename_i h;exact .inl ⟨_,h⟩)
  | (rename_i h;exact .inr ⟨_,_,h⟩)
  | (exfalso;(try simp only [Bool.cond_eq_ite] at hri);(repeat' split at hri)<;>first | (cases hri;done) | (cases hri;cases hm;done) | (simp only [Option.some.injEq] at hri;subst hri;cases hm))
theorem ZcK {A:Fr} {H:Hp} {o:Oper} {rs:Rs} {k:Kd} (h:(∃ t,o.op=.alloc t)∨∃ t x,o.op=.box t x) (e:aOp P lo A H o=some (rs,k)):(∃ v H',rs=.val v H')∧JN o=true:=by
 rcases h with ⟨t,h⟩ | ⟨t,x,h⟩
 ·unfold aOp Zn at e
  rw [h] at e
  simp only at e
  unfold Zv at e
  rw [h] at e
  simp only at e
  split at e<;>cases e
  exact ⟨⟨_,_,rfl⟩,by unfold JN;rw [h]⟩
 ·unfold aOp Zn at e
  rw [h] at e
  simp only at e
  unfold Zv at e
  rw [h] at e
  simp only at e
  split at e<;>cases e
  exact ⟨⟨_,_,rfl⟩,by unfold JN;rw [h]⟩
theorem ZbD {ro:RO} {H:Hp} {k:Kd} (h:Zfy ro.ri=false):kdW ro H k=k:=by
 unfold kdW
 cases k<;>try rfl
 cases hr:ro.ri<;>rw [hr] at h<;>first | rfl | cases h
theorem ZdY {ops:List Oper} {ord:Bool} {A:Fr} {H H':Hp} {o:Oper} {ro:RO} {v:Value} {k:Kd} (hl:W5 P n ops ord o=some ro) (h:aOp P lo A H o=some (.val v H',k)):Zc8 (qo o H k) (kdW ro H k):=by
 cases hm:Zfy ro.ri with
 | true=>
  have:=(ZcK (ZcM hl hm) h).2
  left
  cases k<;>try rfl
  unfold qo kdW
  rw [this]
  simp only [cond_true]
  cases hr:ro.ri<;>rw [hr] at hm<;>first | rfl | cases hm
 | false=>
  rw [ZbD hm]
  cases k with
  | heavy=>unfold qo;cases JN o<;>first | exact .inl rfl | exact .inr ⟨rfl,_,rfl⟩
  | _=>exact .inl rfl
theorem JH {ops:List Oper} {ord:Bool} {A:Fr} {H:Hp} {o:Oper} {ro:RO} {rs:Rs} {k k':Kd} (hl:W5 P n ops ord o=some ro) (h:aOp P lo A H o=some (rs,k)) (hr:∀ v H',rs≠.val v H'):kdW ro H k'=k':=by
 cases hm:Zfy ro.ri with
 | true=>obtain ⟨⟨v,H',e⟩,_⟩:=ZcK (ZcM hl hm) h;exact absurd e (hr v H')
 | false=>exact ZbD hm
theorem Jy {ops:Array Oper} {masks:List Nat}:∀ (rest pre:List Oper) {rl:List RO} {A:Fr} {S:Rg} {H:Hp} {ks ws:List Kd} {K:Rg→Hp→Prop},ops.toList=pre ++ rest→Y4 P n ops.toList (fun i=>WY ops.toList (JJ ops.toList) i) rest pre.length=some rl→ZT S A.T→A.n=n→zX ks ws→V5 P kn lo n masks rl ws S H K→
  ∃ S' H' T' ks' ws',K S' H'∧zX ks' ws'∧KO ws' masks∧ZT S' T'∧∃ N,∀ m k,N≤m→N≤k→Yq P lo (YE P kn m k) ops rest pre.length ks A H=some (ks',{ A with T:=T' },H')
 | [],pre,rl,A,S,H,ks,ws,K,he,hl,hA,hn,hks,h=>by
  simp only [Y4] at hl;cases hl
  exact ⟨S,H,A.T,ks,ws,h.2,hks,h.1,hA,0,fun m k _ _=>rfl⟩
 | o :: rest,pre,rl,A,S,H,ks,ws,K,he,hl,hA,hn,hks,h=>by
  simp only [Y4] at hl
  split at hl<;>first | (cases hl;done) | skip
  rename_i ro hro
  split at hl<;>first | (cases hl;done) | skip
  rename_i l hrest
  cases hl
  simp only [V5] at h
  have he2:ops.toList=(pre ++ [o]) ++ rest:=by rw [he];simp
  have ih:=fun {A':Fr} {S':Rg} {H':Hp} {ks' ws':List Kd} (hA':ZT S' A'.T) (hn':A'.n=n) (hk':zX ks' ws') (h':V5 P kn lo n masks l ws' S' H' K)=>Jy rest (pre ++ [o]) (rl:=l) he2 (by simpa using hrest) hA' hn' hk' h'
  simp only [List.length_append,List.length_singleton] at ih
  obtain ⟨hput,hcase⟩:=VK hro hA hn h
  rcases hcase with ⟨hw,h⟩ | ⟨hw,hdone⟩
  ·obtain ⟨S',H',T',ks',ws',a,a1,a2,b,N,c⟩:=ih (ks':=.pure :: ks) (ws':=.pure :: ws) (A':={ A with T:=YD A.T o.dst undef }) (ZL hA o.dst undef) hn (.cons (.inl rfl) hks) h
   refine ⟨S',H',T',ks',ws',a,a1,a2,b,N,fun m k hm hk=>?_⟩
   rw [Yq]
   simp only [hw,hput]
   exact c m k hm hk
  ·rcases hdone with ⟨v,H1,kd,e,hkd,h⟩ | ⟨H1,kd,e,h⟩ | ⟨t,vs,v,H1,e,hmk,⟨N1,hc⟩,h⟩ | ⟨t,vs,v,H1,bk,e,hord,hmk,⟨N1,hc⟩,hob,h⟩
   ·obtain ⟨hb,h⟩:=Jl (X:=fun k=>V5 P kn lo n masks l (k :: ws) (Zy S o.dst v) H1 K) h
    obtain ⟨S',H',T',ks',ws',a,a1,a2,b,N,c⟩:=ih (A':={ A with T:=YD A.T o.dst v }) (ZL hA o.dst v) hn (.cons (ZdY hro e) hks) h
    refine ⟨S',H',T',ks',ws',a,a1,a2,b,N,fun m k hm hk=>?_⟩
    rw [Yq]
    have hkd:Zaf kd H=true:=hkd fun b hb2=>hb b (by rw [hb2];rfl)
    simp only [hw,e,hkd,hput,cond_true]
    exact c m k hm hk
   ·rw [JH hro e (fun _ _ q=>by cases q)] at h
    obtain ⟨_,h⟩:=Jl (X:=fun k=>V5 P kn lo n masks l (k :: ws) (Zy S o.dst undef) H1 K) h
    obtain ⟨S',H',T',ks',ws',a,a1,a2,b,N,c⟩:=ih (A':={ A with T:=YD A.T o.dst undef }) (ZL hA o.dst undef) hn (.cons (.inl rfl) hks) h
    refine ⟨S',H',T',ks',ws',a,a1,a2,b,N,fun m k hm hk=>?_⟩
    rw [Yq]
    simp only [hw,e,hput]
    exact c m k hm hk
   ·rw [JH hro e (fun _ _ q=>by cases q)] at h
    cases ho:WY ops.toList (JJ ops.toList) pre.length with
    | true=>
     simp only [ho,cond_true] at hc h
     obtain ⟨S',H',T',ks',ws',a,a1,a2,b,N,c⟩:=ih (ks':=.full :: ks) (ws':=.full :: ws) (A':={ A with T:=YD A.T o.dst v }) (ZL hA o.dst v) hn (.cons (.inl rfl) hks) h
     refine ⟨S',H',T',ks',ws',a,a1,a2,b,N+N1,fun m k hm hk=>?_⟩
     rw [Yq]
     simp only [hw,e,ho,cond_true,hc m k (by omega) (by omega),hput]
     exact c m k (by omega) (by omega)
    | false=>
     simp only [ho,cond_false] at hc h
     obtain ⟨S',H',T',ks',ws',a,a1,a2,b,N,c⟩:=ih (ks':=.heavy :: ks) (ws':=.heavy :: ws) (A':={ A with T:=YD A.T o.dst v }) (ZL hA o.dst v) hn (.cons (.inl rfl) hks) h
     refine ⟨S',H',T',ks',ws',a,a1,a2,b,N+N1,fun m k hm hk=>?_⟩
     rw [Yq]
     have hmk:Vh t=false:=by simpa [ho] using hmk
     simp only [hw,e,ho,hmk,cond_false,hc m k (by omega) (by omega),hput]
     exact c m k (by omega) (by omega)
   ·rw [JH hro e (fun _ _ q=>by cases q)] at h
    obtain ⟨S',H',T',ks',ws',a,a1,a2,b,N,c⟩:=ih (ks':=.store bk :: ks) (ws':=.store bk :: ws) (A':={ A with T:=YD A.T o.dst v }) (ZL hA o.dst v) hn (.cons (.inl rfl) hks) h
    refine ⟨S',H',T',ks',ws',a,a1,a2,b,N+N1,fun m k hm hk=>?_⟩
    rw [Yq]
    simp only [hw,e,hord,hmk,cond_false,cond_true,hc m k (by omega) (by omega),hob,hput]
    exact c m k (by omega) (by omega)

theorem Tri.mono {rd:Bool} {c:Code} {S:Rg} {H:Hp} {K K':Exit→Rg→Hp→Prop} (h:Tri P kn lo n rd c S H K) (hk:∀ e S' H',K e S' H'→K' e S' H'):Tri P kn lo n rd c S H K':=by
 intro A h1 h2 h3
 obtain ⟨e,S',H',T',a,b⟩:=h A h1 h2 h3
 exact ⟨e,S',H',T',hk _ _ _ a,b⟩
theorem Tri.seq {rd:Bool} {x y:Code} {S:Rg} {H:Hp} {K:Exit→Rg→Hp→Prop} (h:Tri P kn lo n rd x S H fun e S' H'=>match e with | .normal=>Tri P kn lo n rd y S' H' K | e=>K e S' H'):Tri P kn lo n rd (.seq x y) S H K:=by
 intro A h1 h2 h3
 obtain ⟨e,S1,H1,T1,a,b,N1,c⟩:=h A h1 h2 h3
 cases e with
 | normal=>
  obtain ⟨e,S',H',T',a',b',N2,c'⟩:=a { A with T:=T1 } h1 h2 b
  refine ⟨e,S',H',T',a',b',N1+N2+1,fun f m k hf hm hk=>?_⟩
  obtain ⟨f,rfl⟩:∃ g,f=g+1:=⟨f - 1,by omega⟩
  rw [Zj]
  simp only [c f m k (by omega) (by omega) (by omega)]
  exact c' f m k (by omega) (by omega) (by omega)
 | _=>
  refine ⟨_,S1,H1,T1,a,b,N1+1,fun f m k hf hm hk=>?_⟩
  obtain ⟨f,rfl⟩:∃ g,f=g+1:=⟨f - 1,by omega⟩
  rw [Zj]
  simp only [c f m k (by omega) (by omega) (by omega)]

theorem Xh (rd:Bool):∀ (c:Code) {rc:RC} {S:Rg} {H:Hp} {K:Exit→Rg→Hp→Prop},low P n c=some rc→wC P kn lo n rd rc S H K→Tri P kn lo n rd c S H K
 | .skip,rc,S,H,K,hl,h=>by
  simp only [low] at hl;cases hl
  intro A _ _ h3
  refine ⟨.normal,S,H,A.T,h,h3,1,fun f m k hf hm hk=>?_⟩
  obtain ⟨f,rfl⟩:∃ g,f=g+1:=⟨f - 1,by omega⟩
  rfl
 | .label l,rc,S,H,K,hl,h=>by
  simp only [low] at hl;cases hl
  intro A _ _ h3
  refine ⟨.normal,S,H,A.T,h,h3,1,fun f m k hf hm hk=>?_⟩
  obtain ⟨f,rfl⟩:∃ g,f=g+1:=⟨f - 1,by omega⟩
  rfl
 | .exit id,rc,S,H,K,hl,h=>by
  simp only [low] at hl;cases hl
  intro A _ _ h3
  refine ⟨.exit id,S,H,A.T,h,h3,1,fun f m k hf hm hk=>?_⟩
  obtain ⟨f,rfl⟩:∃ g,f=g+1:=⟨f - 1,by omega⟩
  rfl
 | .ret,rc,S,H,K,hl,h=>by
  simp only [low] at hl;cases hl
  intro A _ _ h3
  refine ⟨.ret,S,H,A.T,h,h3,1,fun f m k hf hm hk=>?_⟩
  obtain ⟨f,rfl⟩:∃ g,f=g+1:=⟨f - 1,by omega⟩
  rfl
 | .seq x y,rc,S,H,K,hl,h=>by
  simp only [low] at hl
  split at hl<;>first | (cases hl;done) | skip
  rename_i a ha
  split at hl<;>first | (cases hl;done) | skip
  rename_i b hb
  cases hl
  refine Tri.seq ((Xh rd x ha h).mono fun e S' H' q=>?_)
  cases e with
  | normal=>exact Xh rd y hb q
  | _=>exact q
 | .cond o x y,rc,S,H,K,hl,h=>by
  simp only [low] at hl
  split at hl<;>first | (cases hl;done) | skip
  rename_i a ha
  split at hl<;>first | (cases hl;done) | skip
  rename_i b hb
  cases hl
  simp only [wC] at h
  split at h<;>first | exact h.elim | skip
  rename_i t ht
  intro A h1 h2 h3
  cases t with
  | true=>
   obtain ⟨e,S',H',T',p,q,N,r⟩:=Xh rd x ha (h.1 rfl) A h1 h2 h3
   refine ⟨e,S',H',T',p,q,N+1,fun f m k hf hm hk=>?_⟩
   obtain ⟨f,rfl⟩:∃ g,f=g+1:=⟨f - 1,by omega⟩
   rw [Zj]
   simp only [ZU h3 ht]
   exact r f m k (by omega) (by omega) (by omega)
  | false=>
   obtain ⟨e,S',H',T',p,q,N,r⟩:=Xh rd y hb (h.2 rfl) A h1 h2 h3
   refine ⟨e,S',H',T',p,q,N+1,fun f m k hf hm hk=>?_⟩
   obtain ⟨f,rfl⟩:∃ g,f=g+1:=⟨f - 1,by omega⟩
   rw [Zj]
   simp only [ZU h3 ht]
   exact r f m k (by omega) (by omega) (by omega)
 | .block id b,rc,S,H,K,hl,h=>by
  simp only [low] at hl
  split at hl<;>first | (cases hl;done) | skip
  rename_i a ha
  cases hl
  simp only [wC] at h
  intro A h1 h2 h3
  obtain ⟨e,S',H',T',p,q,N,r⟩:=Xh rd b ha h A h1 h2 h3
  have unf:∀ f m k,Zj P lo (YE P kn m k) (f+1) (.block id b) A H none=match Zj P lo (YE P kn m k) f b A H none with
   | some (.exit j,A',H',p')=>bif Nat.beq j id then some (.normal,A',H',p') else some (.exit j,A',H',p')
   | r=>r:=fun f m k=>by rw [Zj];rfl
  cases e with
  | exit j=>
   simp only at p
   cases hj:Nat.beq j id with
   | true=>
    rw [hj] at p
    refine ⟨.normal,S',H',T',p,q,N+1,fun f m k hf hm hk=>?_⟩
    obtain ⟨f,rfl⟩:∃ g,f=g+1:=⟨f - 1,by omega⟩
    rw [unf,r f m k (by omega) (by omega) (by omega)]
    simp only [hj,cond_true]
   | false=>
    rw [hj] at p
    refine ⟨.exit j,S',H',T',p,q,N+1,fun f m k hf hm hk=>?_⟩
    obtain ⟨f,rfl⟩:∃ g,f=g+1:=⟨f - 1,by omega⟩
    rw [unf,r f m k (by omega) (by omega) (by omega)]
    simp only [hj,cond_false]
  | _=>
   refine ⟨_,S',H',T',p,q,N+1,fun f m k hf hm hk=>?_⟩
   obtain ⟨f,rfl⟩:∃ g,f=g+1:=⟨f - 1,by omega⟩
   rw [unf,r f m k (by omega) (by omega) (by omega)]
 | .region id ops draw,rc,S,H,K,hl,h=>by
  simp only [low] at hl
  cases draw with
  | true=>
   simp only [cond_true] at hl
   obtain ⟨hreg,hl⟩:=Zf hl
   split at hl<;>first | (cases hl;done) | skip
   rename_i l hro
   cases hl
   simp only [wC] at h
   intro A h1 h2 h3
   rcases h with h | ⟨hrl,h⟩
   rotate_left
   ·obtain ⟨S',H',T',ks,ws,a,a1,a2,b,N,r⟩:=Jy (ops:=ops) (ks:=[]) (ws:=[]) ops.toList [] (by simp) hro h3 h1 .nil h
    refine ⟨.normal,S',H',T',a,b,N+1,fun f m k hf hm hk=>?_⟩
    obtain ⟨f,rfl⟩:∃ g,f=g+1:=⟨f - 1,by omega⟩
    rw [Zj]
    have hd:drawn P lo (YE P kn m k) ops A H=some ({ A with T:=T' },H'):=by
     unfold drawn
     have:=r m k (by omega) (by omega)
     simp only [List.length_nil] at this
     rw [this]
     have:((ks.all calm || Yd Y7 ks (We ops.toList 0 []) || (Yd YA ks (We ops.toList 0 []) && yj lo H)) && Qh ops)=true:=by
      rw [hreg,Bool.and_true,yI _ _ _ a1 a2,ZcY hrl]
      simp only [Bool.and_self,Bool.or_true]
     simp only [this,cond_true]
    simp only [hd,cond_true]
   obtain ⟨S',H',T',ks,a,a2,b,N,r⟩:=J6 (ops:=ops) (ks:=[]) ops.toList [] (by simp) hro h3 h1 h
   refine ⟨.normal,S',H',T',a,b,N+1,fun f m k hf hm hk=>?_⟩
   obtain ⟨f,rfl⟩:∃ g,f=g+1:=⟨f - 1,by omega⟩
   rw [Zj]
   have hd:drawn P lo (YE P kn m k) ops A H=some ({ A with T:=T' },H'):=by
    unfold drawn
    have:=r m k (by omega) (by omega)
    simp only [List.length_nil] at this
    rw [this]
    have:((ks.all calm || Yd Y7 ks (We ops.toList 0 []) || (Yd YA ks (We ops.toList 0 []) && yj lo H)) && Qh ops)=true:=by
     rw [hreg,Bool.and_true]
     rw [ZcH] at a2
     cases hc:ks.all calm with
     | true=>simp only [Bool.true_or]
     | false=>
      rw [hc] at a2
      simp only [cond_false] at a2
      have e:=j0 _ _ a2
      rw [KU] at e
      rw [e]
      simp only [Bool.or_true,Bool.true_or]
    simp only [this,cond_true]
   simp only [hd,cond_true]
  | false=>
   simp only [cond_false] at hl
   split at hl<;>first | (cases hl;done) | skip
   rename_i l hro
   cases hl
   simp only [wC] at h
   intro A h1 h2 h3
   obtain ⟨S',H',T',a,b,N,r⟩:=zh (ops:=ops) ops.toList [] (by simp) hro h3 h1 h
   refine ⟨.normal,S',H',T',a,b,N+1,fun f m k hf hm hk=>?_⟩
   obtain ⟨f,rfl⟩:∃ g,f=g+1:=⟨f - 1,by omega⟩
   rw [Zj]
   have:=r m k (by omega) (by omega)
   simp only [List.length_nil] at this
   simp only [cond_false,List.range_eq_range']
   simpa using this
 | .loop b,rc,S,H,K,hl,h=>by simp only [low] at hl;cases hl;exact h
 | .rangeFunc fo ps a b,rc,S,H,K,hl,h=>by simp only [low] at hl;cases hl;exact h
 | .scope b,rc,S,H,K,hl,h=>by
  simp only [low] at hl
  split at hl<;>first | (cases hl;done) | skip
  rename_i a ha
  cases hl
  simp only [wC] at h
  intro A h1 h2 h3
  obtain ⟨e,S',H',T',p,q,N,r⟩:=Xh rd b ha h A h1 h2 h3
  refine ⟨e,S',H',T',p,q,N+1,fun f m k hf hm hk=>?_⟩
  obtain ⟨f,rfl⟩:∃ g,f=g+1:=⟨f - 1,by omega⟩
  rw [Zj]
  exact r f m k (by omega) (by omega) (by omega)
 | .goto l,rc,S,H,K,hl,h=>by simp only [low] at hl;cases hl
 | .refuse w,rc,S,H,K,hl,h=>by simp only [low] at hl;cases hl

theorem Tri.loop {rd:Bool} {b:Code} {K:Exit→Rg→Hp→Prop} (I:Nat→Rg→Hp→Prop)
  (hb:∀ k S H,I k S H→Tri P kn lo n rd b S H fun e S' H'=>match e with | .normal=>∃ k',k' < k∧I k' S' H' | e=>K e S' H') :
  ∀ k S H,I k S H→Tri P kn lo n rd (.loop b) S H K:=by
 intro k
 induction k using Nat.strongRecOn with
 | ind k ih=>
  intro S H hI A h1 h2 h3
  obtain ⟨e,S1,H1,T1,p,q,N,r⟩:=hb k S H hI A h1 h2 h3
  have unf:∀ f m k,Zj P lo (YE P kn m k) (f+1) (.loop b) A H none=match Zj P lo (YE P kn m k) f b A H none with
   | some (.normal,A',H',p')=>Zj P lo (YE P kn m k) f (.loop b) A' H' p'
   | r=>r:=fun f m k=>by rw [Zj];rfl
  cases e with
  | normal=>
   obtain ⟨k',hk',hI'⟩:=p
   obtain ⟨e,S',H',T',p',q',N',r'⟩:=ih k' hk' S1 H1 hI' { A with T:=T1 } h1 h2 q
   refine ⟨e,S',H',T',p',q',N+N'+1,fun f m k hf hm hk=>?_⟩
   obtain ⟨f,rfl⟩:∃ g,f=g+1:=⟨f - 1,by omega⟩
   rw [unf,r f m k (by omega) (by omega) (by omega)]
   exact r' f m k (by omega) (by omega) (by omega)
  | _=>
   refine ⟨_,S1,H1,T1,p,q,N+1,fun f m k hf hm hk=>?_⟩
   obtain ⟨f,rfl⟩:∃ g,f=g+1:=⟨f - 1,by omega⟩
   rw [unf,r f m k (by omega) (by omega) (by omega)]

theorem Tri.forget {rd:Bool} {c:Code} {S S0:Rg} {H:Hp} {K:Exit→Rg→Hp→Prop} (h:Tri P kn lo n rd c S0 H K) (hs:∀ j v,lk S0 j=some v→lk S j=some v):Tri P kn lo n rd c S H K:=
 fun A h1 h2 h3=>h A h1 h2 fun j v e=>h3 j v (hs j v e)
end
end Go.Ax

/-! The evaluator for all inputs,4: functions and calls. -/
namespace Go.Ax
open Go Go.RowKit

def VS:List Value→Nat→Rg
 | [],_=>[]
 | v :: r,i=>(i,v) :: VS r (i+1)
theorem Zbr:∀ (vs:List Value) (i j:Nat),j < i→lk (VS vs i) j=none
 | [],_,_,_=>rfl
 | v :: r,i,j,h=>by
  simp only [VS,lk,ZG]
  rw [decide_eq_false (by omega)]
  exact Zbr r (i+1) j (by omega)
theorem yo:∀ (vs:List Value) (i:Nat) (T:Tr Value) (j:Nat),(Qf vs i T).get j=match lk (VS vs i) j with | some v=>some v | none=>T.get j
 | [],i,T,j=>rfl
 | v :: r,i,T,j=>by
  simp only [Qf,VS,lk,ZG]
  rw [yo r (i+1)]
  by_cases h:i=j
  ·subst h
   rw [Zbr r (i+1) i (by omega)]
   simp [Tr.get_set]
  ·rw [decide_eq_false h]
   simp only [cond_false]
   cases lk (VS r (i+1)) j with
   | some u=>rfl
   | none=>simp only [Tr.get_set];rw [if_neg (fun e=>h e.symm)]
theorem Ww (vs:List Value):ZT (VS vs 0) (Qf vs 0 .nil):=fun j v h=>by rw [yo,h]

noncomputable def Wt (P:Program) (S:Rg) (H:Hp):List ResultVar→Option (List Value)
 | []=>some []
 | .tmp t :: r=>match lk S t with
  | none=>none
  | some v=>match Wt P S H r with | none=>none | some vs=>some (v :: vs)
 | .cell a t :: r=>match lk S a with
  | some (.pointer (some ad))=>match W4 P H t ad with
   | none=>none
   | some v=>match Wt P S H r with | none=>none | some vs=>some (v :: vs)
  | _=>none
theorem Qv {P:Program} {S:Rg} {H:Hp} {A:Fr} (hA:ZT S A.T):∀ {l:List ResultVar} {vs:List Value},Wt P S H l=some vs→Xc P A H l=some vs
 | [],vs,h=>h
 | .tmp t :: r,vs,h=>by
  simp only [Wt] at h
  cases h1:lk S t with
  | none=>simp [h1] at h
  | some v=>
   cases h2:Wt P S H r with
   | none=>simp [h1,h2] at h
   | some us=>simp [h1,h2] at h;subst h;simp only [Xc,hA t v h1,Qv hA h2]
 | .cell a t :: r,vs,h=>by
  simp only [Wt] at h
  split at h<;>first | (cases h;done) | skip
  rename_i ad h1
  cases h3:W4 P H t ad with
  | none=>simp [h3] at h
  | some v=>
   cases h2:Wt P S H r with
   | none=>simp [h3,h2] at h
   | some us=>simp [h3,h2] at h;subst h;simp only [Xc,hA a _ h1,h3,Qv hA h2]

def X7:List Value→Value
 | [v]=>v
 | vs=>.tuple vs.toArray

def FnX (P:Program) (kn:Kn) (lo:Nat) (f:FuncId) (args:List Value) (H:Hp) (v:Value) (H':Hp):Prop:=
 ∃ N,∀ m k,N≤m→N≤k→Y9 P lo (YE P kn m k) (fun t a H p=>Yv P kn m k lo t a H p) m f args H none=some (.ret v,H',none)

section
variable {P:Program} {kn:Kn} {lo:Nat}
theorem zb {f:FuncId} {fn:Func} {c:Code} {args:List Value} {H:Hp} {Q:Value→Hp→Prop} (hf:P.funcs[f]? = some fn) (hc:fn.body=some c) (hl:args.length≤fn.ntmps)
  (h:Tri P kn lo fn.ntmps false c (VS args 0) H fun e S' H'=>(match e with | .normal=>True | .ret=>True | _=>False)∧∃ vs,Wt P S' H' fn.results.toList=some vs∧Q (X7 vs) H') :
  ∃ v H',FnX P kn lo f args H v H'∧Q v H':=by
 obtain ⟨e,S',H',T',⟨he,vs,hres,hq⟩,hk,N,hr⟩:=h { fn:=f,n:=fn.ntmps,T:=Qf args 0 .nil,defers:=[],round:=none } rfl rfl (Ww args)
 refine ⟨X7 vs,H',⟨N+1,fun m k hm hk'=>?_⟩,hq⟩
 obtain ⟨m',rfl⟩:∃ g,m=g+1:=⟨m - 1,by omega⟩
 have hr:=hr (m'+1) (m'+1) k (by omega) (by omega) (by omega)
 have hu:Z4 P lo (fun t a H p=>Yv P kn (m'+1) k lo t a H p) fn (m'+1) { fn:=f,n:=fn.ntmps,T:=T',defers:=[],round:=none } H' none=some (.ret (X7 vs),H'):=by
  rw [Z4]
  simp only [Qv (A:={ fn:=f,n:=fn.ntmps,T:=T',defers:=[],round:=none }) hk hres]
  match vs with
  | []=>rfl
  | [v]=>rfl
  | v :: u :: r=>rfl
 unfold Y9
 simp only [hf,hc,Nat.ble_eq_true_of_le hl,cond_true,hr]
 cases e<;>simp only at he<;>simp only [hu]

theorem Zdg {f:FuncId} {cap:Array Value} {args:List Value} {H:Hp} (hs:WI f=false):Ke kn lo (.fn (.func f) cap) args H=none:=by
 unfold Ke;simp only [hs,cond_false]
theorem YK {f:FuncId} {cap:Array Value} {args:List Value} {H:Hp} {v:Value} {H':Hp} (hk:Km kn (.fn (.func f) cap) args=none) (h:FnX P kn lo f (args ++ cap.toList) H v H') (hs:WI f=false:=by rfl):X4 P kn lo (.fn (.func f) cap) args H v H':=by
 obtain ⟨N,h⟩:=h
 refine ⟨N+1,fun m k hm hk'=>?_⟩
 obtain ⟨k,rfl⟩:∃ g,k=g+1:=⟨k - 1,by omega⟩
 have:=h m k (by omega) (by omega)
 have e:Yv P kn m (k+1) lo (.fn (.func f) cap) args H none=some (.ret v,H',none):=this
 unfold YE
 simp only [hk,Zdg hs,e]
theorem Zi {f:FuncId} {args:List Value} {a:Value} {H:Hp} {v:Value} {H':Hp} (h:FnX P kn lo f (a :: args) H v H') (hs:WI f=false:=by rfl):X4 P kn lo (.fn (.func f) #[]) (a :: args) H v H':=
 YK rfl (by simpa using h) hs
theorem Vu {f:FuncId} {b:Bool} {H:Hp} (h:kn f=some b):X4 P kn lo (.fn (.func f) #[]) [] H (.bool b) H:=
 ⟨0,fun m k _ _=>by unfold YE;simp only [Km,List.size_toArray,List.length_nil,Nat.beq_refl,cond_true,h]⟩
end
end Go.Ax

/-! The evaluator for all inputs,5: words for heaps,and steps. -/
namespace Go.Ax
open Go Go.RowKit

def Cl (H:Hp) (b:Nat) (cs:List Value):Prop:=b < H.next∧∃ e l,H.t.get b=some (.cells cs e l)
structure Keep (H H':Hp) (l:List Nat):Prop where
 le:H.next≤H'.next
 same:∀ b,b < H.next→b ∉ l→H'.t.get b=H.t.get b
 /-- nothing more is only read -/
 rox:∀ b cs,b < H'.next→H'.t.get b=some (.ro cs)→b < H.next∧H.t.get b=some (.ro cs)
theorem Keep.low {H H':Hp} {l:List Nat} {lo:Nat} (k:Keep H H' l) (h:VB lo H):VB lo H':=fun b cs hb hg=>by
 obtain ⟨h1,h2⟩:=k.3 b cs hb hg
 exact h b cs h1 h2
theorem Keep.refl (H:Hp) (l:List Nat):Keep H H l:=⟨Nat.le_refl _,fun _ _ _=>rfl,fun _ _ h k=>⟨h,k⟩⟩
theorem Keep.trans {H H1 H2:Hp} {l:List Nat} (h:Keep H H1 l) (k:Keep H1 H2 l):Keep H H2 l:=
 ⟨Nat.le_trans h.1 k.1,fun b hb hl=>(k.2 b (Nat.lt_of_lt_of_le hb h.1) hl).trans (h.2 b hb hl),fun b cs hb hg=>(k.3 b cs hb hg).elim fun a c=>h.3 b cs a c⟩
theorem Keep.mono {H H1:Hp} {l l':List Nat} (h:Keep H H1 l) (k:∀ b,b∈l→b∈l'):Keep H H1 l':=⟨h.1,fun b hb hl=>h.2 b hb fun q=>hl (k b q),h.3⟩
theorem Keep.cl {H H1:Hp} {l:List Nat} (h:Keep H H1 l) {b:Nat} {cs:List Value} (hc:Cl H b cs) (hl:b ∉ l):Cl H1 b cs:=by
 obtain ⟨h1,e,lz,h2⟩:=hc
 exact ⟨Nat.lt_of_lt_of_le h1 h.1,e,lz,by rw [h.2 b h1 hl];exact h2⟩
theorem Keep.new {H H1 H2:Hp} {l l':List Nat} (h:Keep H H1 l) (k:Keep H1 H2 l') (hl:∀ b,b∈l'→b∈l∨H.next≤b):Keep H H2 l:=
 ⟨Nat.le_trans h.1 k.1,fun b hb hn=>(k.2 b (Nat.lt_of_lt_of_le hb h.1) fun q=>(hl b q).elim hn (fun r=>absurd hb (by omega))).trans (h.2 b hb hn),fun b cs hb hg=>(k.3 b cs hb hg).elim fun a c=>h.3 b cs a c⟩
theorem Cl.of {H:Hp} {b:Nat} {cs:List Value} (h:Cl H b cs):cellsOf H b=some cs:=by
 obtain ⟨_,e,l,h⟩:=h;unfold cellsOf;rw [h]
theorem Cl.lt {H:Hp} {b:Nat} {cs:List Value} (h:Cl H b cs):b < H.next:=h.1
theorem WK {H H1:Hp} {b:Nat} {cs cs':List Value} {e:TypeId} {l:Bool} (hc:Cl H b cs) (h:H.up b (.cells cs' e l)=H1):Keep H H1 [b]∧H1.next=H.next∧Cl H1 b cs':=by
 subst h
 refine ⟨⟨Nat.le_refl _,fun c _ hn=>?_,fun c xs hb hg=>?_⟩,rfl,hc.1,e,l,?_⟩
 ·show (H.t.set b _).get c=_
  rw [Tr.get_set,if_neg (by simpa using hn)]
 ·have hg:(H.t.set b (.cells cs' e l)).get c=some (.ro xs):=hg
  rw [Tr.get_set] at hg
  split at hg
  ·cases hg
  ·exact ⟨hb,hg⟩
 ·show (H.t.set b _).get b=_
  rw [Tr.get_set,if_pos rfl]
theorem ZO {H H1:Hp} {cs:List Value} {e:TypeId} {l:Bool} (h:H.new (.cells cs e l)=H1):Keep H H1 []∧H1.next=H.next+1∧Cl H1 H.next cs:=by
 subst h
 refine ⟨⟨Nat.le_succ _,fun c hc _=>?_,fun c xs hb hg=>?_⟩,rfl,Nat.lt_succ_self _,e,l,?_⟩
 ·show (H.t.set H.next _).get c=_
  rw [Tr.get_set,if_neg (by omega)]
 ·have hg:(H.t.set H.next (.cells cs e l)).get c=some (.ro xs):=hg
  have hb:c < H.next+1:=hb
  rw [Tr.get_set] at hg
  split at hg
  ·cases hg
  ·exact ⟨by omega,hg⟩
 ·show (H.t.set H.next _).get H.next=_
  rw [Tr.get_set,if_pos rfl]

def Rd (H:Hp) (b:Nat) (cs:List Value):Prop:=b < H.next∧cellsOf H b=some cs
theorem Cl.rd {H:Hp} {b:Nat} {cs:List Value} (h:Cl H b cs):Rd H b cs:=⟨h.1,h.of⟩
theorem Rd.lt {H:Hp} {b:Nat} {cs:List Value} (h:Rd H b cs):b < H.next:=h.1
theorem Rd.of {H:Hp} {b:Nat} {cs:List Value} (h:Rd H b cs):cellsOf H b=some cs:=h.2
theorem Keep.rd {H H1:Hp} {l:List Nat} (h:Keep H H1 l) {b:Nat} {cs:List Value} (hc:Rd H b cs) (hl:b ∉ l):Rd H1 b cs:=by
 obtain ⟨h1,h2⟩:=hc
 exact ⟨Nat.lt_of_lt_of_le h1 h.1,by unfold cellsOf at h2 ⊢;rw [h.2 b h1 hl];exact h2⟩
def Sl (H:Hp) (a:Option Addr) (n cap:Nat) (cs:List Value):Prop:=((a=none∨a=some ⟨0,0,some 0⟩)∧n=0∧cap=0∧cs=[])∨∃ b,a=some ⟨b,0,none⟩∧Rd H b cs∧n≤cap
theorem Keep.sl {H H1:Hp} {l:List Nat} (h:Keep H H1 l) {a:Option Addr} {n cap:Nat} {cs:List Value} (hc:Sl H a n cap cs) (hl:∀ b,a=some ⟨b,0,none⟩→b ∉ l):Sl H1 a n cap cs:=
 hc.imp id fun ⟨b,e,r,q⟩=>⟨b,e,h.rd r (hl b e),q⟩
theorem Keep.sl0 {H H1:Hp} (h:Keep H H1 []) {a:Option Addr} {n cap:Nat} {cs:List Value} (hc:Sl H a n cap cs):Sl H1 a n cap cs:=h.sl hc fun _ _=>by simp

theorem Vg {α:Type} {f:α→List Value} {size:Nat}:∀ {l:List α} (_:∀ x∈l,(f x).length=size) {i:Nat} {x:α},l[i]? = some x→row size (l.flatMap f) (0+i * size)=some (f x)
 | [],_,i,x,h=>by simp at h
 | y :: l,hf,0,x,h=>by
  simp at h;subst h
  have:=hf y (by simp)
  simp only [List.flatMap_cons,row,Nat.zero_mul,Nat.add_zero,List.drop_zero,ZG]
  rw [List.take_append_of_le_length (by omega),List.take_of_length_le (by omega),this]
  simp
 | y :: l,hf,i+1,x,h=>by
  have hy:=hf y (by simp)
  have ih:=Vg (l:=l) (fun z hz=>hf z (by simp [hz])) (i:=i) (x:=x) (by simpa using h)
  unfold row at ih ⊢
  rw [Nat.zero_add] at ih ⊢
  rw [List.flatMap_cons,List.drop_append,hy,List.drop_eq_nil_of_le (by rw [hy];exact Nat.le_trans (Nat.le_mul_of_pos_left size (Nat.succ_pos i)) (Nat.le_refl _)),List.nil_append]
  have e:(i+1) * size - size=i * size:=by rw [Nat.succ_mul];omega
  rw [e]
  exact ih
theorem VO {α:Type} {f:α→List Value} {size:Nat}:∀ {l:List α} (_:∀ x∈l,(f x).length=size),(l.flatMap f).length=l.length * size
 | [],_=>by simp
 | y :: l,hf=>by
  rw [List.flatMap_cons,List.length_append,hf y (by simp),VO fun z hz=>hf z (by simp [hz]),List.length_cons,Nat.succ_mul];omega
theorem jq {α:Type} {f:α→List Value} {size:Nat}:∀ {l:List α} (_:∀ x∈l,(f x).length=size) {i k:Nat} {x y:α} {v:Value},l[i]? = some x→k < size→(f x).set k v=f y→(l.flatMap f).set (0+i * size+k) v=(l.set i y).flatMap f
 | [],_,i,k,x,y,v,h,_,_=>by simp at h
 | z :: l,hf,0,k,x,y,v,h,hk,e=>by
  simp at h;subst h
  have:=hf z (by simp)
  simp only [List.flatMap_cons,Nat.zero_mul,Nat.add_zero,Nat.zero_add,List.set_cons_zero]
  rw [List.set_append_left _ _ (by omega),e]
 | z :: l,hf,i+1,k,x,y,v,h,hk,e=>by
  have hz:=hf z (by simp)
  have ih:=jq (l:=l) (fun u hu=>hf u (by simp [hu])) (i:=i) (k:=k) (x:=x) (y:=y) (v:=v) (by simpa using h) hk e
  rw [Nat.zero_add] at ih ⊢
  have e2:(i+1) * size+k - size=i * size+k:=by rw [Nat.succ_mul];omega
  rw [List.flatMap_cons,List.set_append_right _ _ (by rw [hz,Nat.succ_mul];omega),hz,e2,ih,List.set_cons_succ,List.flatMap_cons]

section
variable {P:Program} {kn:Kn} {lo:Nat}
theorem UK {H:Hp} {size n cap:Nat} {a:Option Addr} {cs:List Value} (hs:Sl H a n cap cs) (hl:cs.length=n * size):Xr H size (.slice a n cap)=some (n,cs):=by
 rcases hs with ⟨rfl | rfl,rfl,rfl,rfl⟩ | ⟨b,rfl,hr,_⟩
 ·rfl
 ·rfl
 ·have h:row (n * size) cs 0=some cs:=by
   unfold row
   simp only [List.drop_zero,ZG,← hl,List.take_length,decide_true,cond_true]
  simp only [Xr,hr.of,h]
theorem Q1 {n:Nat} {S:Rg} {H:Hp} {d:Option Tmp} {t0 t1 e e0 ty ep:TypeId} {x y:Operand} {p:String} {size m cap b0:Nat} {a:Option Addr} {cs:List Value} (he:ZS P t0=some (e,size)) (ht:P.underlying t1=some (.slice ep)) (h0:H.t.get b0=some (.cells [] e0 false))
  (hx:evS S x=some (.slice (some ⟨b0,0,none⟩) 0 0)) (hy:evS S y=some (.slice a m cap)) (hs:Sl H a m cap cs) (hl:cs.length=m * size) (hm:m≤1048576) (hm0:0 < m) :
  Zv P lo (frS n S) H ⟨d,.call ⟨.builtin .append,#[x,y],#[t0,t1]⟩,ty,p,#[],none⟩=some (.val (.slice (some ⟨H.next,0,none⟩) m m) (H.new (.cells cs e true)),.heavy):=by
 have h1:Nat.beq m 0=false:=by rw [ZG];simp;omega
 have h2:Nat.ble (0+m) 0=false:=by
  cases h:Nat.ble (0+m) 0 with
  | false=>rfl
  | true=>have:=Nat.le_of_ble_eq_true h;omega
 have h3:row (0 * size) ([]:List Value) 0=some []:=by simp [row,ZG]
 unfold Zv
 simp only [evs,Yo,hx,hy,Ys,List.getElem?_toArray,List.getElem?_cons_zero,List.getElem?_cons_succ,he,ht,UK hs hl,Z5,h0,Nat.zero_add,Nat.ble_eq_true_of_le hm,h1,cond_true,cond_false]
 rw [Nat.zero_add] at h2
 simp only [h2,cond_false,h3,List.nil_append]
theorem J1 {n:Nat} {S:Rg} {H:Hp} {d:Option Tmp} {t0 t1 e ty ep:TypeId} {x y:Operand} {p:String} {size cap b0:Nat} {a:Option Addr} {cs:List Value} (he:ZS P t0=some (e,size)) (ht:P.underlying t1=some (.slice ep))
  (hx:evS S x=some (.slice (some ⟨b0,0,none⟩) 0 0)) (hy:evS S y=some (.slice a 0 cap)) (hs:Sl H a 0 cap cs) (hl:cs.length=0) :
  Zv P lo (frS n S) H ⟨d,.call ⟨.builtin .append,#[x,y],#[t0,t1]⟩,ty,p,#[],none⟩=some (.val (.slice (some ⟨b0,0,none⟩) 0 0) H,.pure):=by
 unfold Zv
 simp only [evs,Yo,hx,hy,Ys,List.getElem?_toArray,List.getElem?_cons_zero,List.getElem?_cons_succ,he,ht,UK (size:=size) hs (by simpa using hl),Z5]
 rfl
theorem jS {n:Nat} {S:Rg} {H:Hp} {d:Option Tmp} {t e ty:TypeId} {p:String} {size:Nat} {z:Value} (he:ZS P t=some (e,size)) (hz:Yt P e=some z) :
  Zv P lo (frS n S) H ⟨d,.buildSlice t 0 #[],ty,p,#[],none⟩=some (.val (.slice (some ⟨H.next,0,none⟩) 0 0) (H.new (.cells [] e false)),.heavy):=by
 unfold Zv
 simp only [Xb,he,hz,Nat.zero_mul]
 rfl
theorem Zs {f:FuncId} {fn:Func} {R:RC} {n:Nat} {rs:List ResultVar} {args:List Value} {H:Hp} {Q:Value→Hp→Prop} (hf:P.funcs[f]? = some fn) (hb:fn.body=some (at_ fn [])) (hn:fn.ntmps=n) (hz:fn.results.toList=rs) (hL:low P fn.ntmps (at_ fn [])=some R) (hl:args.length≤n)
  (h:wC P kn lo n false R (VS args 0) H fun e S' H'=>(match e with | .normal=>True | .ret=>True | _=>False)∧∃ vs,Wt P S' H' rs=some vs∧Q (X7 vs) H') :
  ∃ v H',FnX P kn lo f args H v H'∧Q v H':=by
 subst hn hz
 exact zb hf hb hl (Xh false _ hL h)
def WM:Rg→Rg→Prop
 | [],_=>True
 | (j,v) :: r,S=>lk S j=some v∧WM r S
theorem WM.get:∀ {S0 S:Rg},WM S0 S→∀ j v,lk S0 j=some v→lk S j=some v
 | [],_,_,j,v,h=>by cases h
 | (i,u) :: r,S,hs,j,v,h=>by
  simp only [lk,ZG] at h
  by_cases e:i=j
  ·subst e
   simp only [decide_true,cond_true,Option.some.injEq] at h
   subst h
   exact hs.1
  ·rw [decide_eq_false e] at h
   exact hs.2.get j v h
theorem ZA {α:Type} {c b:Code} {fn:Func} {n:Nat} {R:RC} {rd:Bool} {S:Rg} {H:Hp} {K:Exit→Rg→Hp→Prop} (hc:c=.loop b) (hn:fn.ntmps=n) (hL:low P fn.ntmps b=some R) (SS:α→Rg) (I:Nat→α→Hp→Prop)
  (k:Nat) (a:α) (hI:I k a H) (hS:WM (SS a) S)
  (hb:∀ k a H,I k a H→wC P kn lo n rd R (SS a) H fun e S' H'=>match e with | .normal=>∃ k' a',k' < k∧I k' a' H'∧WM (SS a') S' | e=>K e S' H') :
  Tri P kn lo n rd c S H K:=by
 subst hc hn
 refine Tri.loop (fun k S H=>∃ a,I k a H∧WM (SS a) S) (fun k S H q=>?_) k S H ⟨a,hI,hS⟩
 obtain ⟨a,q,hs⟩:=q
 refine Tri.forget ((Xh rd _ hL (hb k a H q)).mono fun e S' H' r=>?_) hs.get
 cases e with
 | normal=>obtain ⟨k',a',x,y,z⟩:=r;exact ⟨k',x,a',y,z⟩
 | _=>exact r
end
end Go.Ax

/-! The evaluator for all inputs,6: ranges over functions. -/
namespace Go.Ax
open Go Go.RowKit

section
variable {P:Program} {kn:Kn} {lo n:Nat}

def V4 (P:Program) (kn:Kn) (lo n:Nat) (c:Code) (S:Rg) (H:Hp) (K:Exit→Rg→Hp→List Deferred→Prop):Prop:=
 ∀ A:Fr,A.n=n→A.round=none→(P.funcs[A.fn]?).isSome=true→ZT S A.T→
  ∃ e S' H' T' D,K e S' H' D∧ZT S' T'∧∃ N,∀ f m k,N≤f→N≤m→N≤k→Zj P lo (YE P kn m k) f c A H none=some (e,{ A with T:=T',defers:=D ++ A.defers },H',none)

theorem V4.of {c:Code} {S:Rg} {H:Hp} {K:Exit→Rg→Hp→List Deferred→Prop} (h:Tri P kn lo n false c S H fun e S' H'=>K e S' H' []):V4 P kn lo n c S H K:=by
 intro A h1 h2 _ h3
 obtain ⟨e,S',H',T',a,b,N,r⟩:=h A h1 (by rw [h2];rfl) h3
 exact ⟨e,S',H',T',[],a,b,N,r⟩
theorem V4.scope {b:Code} {S:Rg} {H:Hp} {K:Exit→Rg→Hp→List Deferred→Prop} (h:V4 P kn lo n b S H K):V4 P kn lo n (.scope b) S H K:=by
 intro A h1 h2 h4 h3
 obtain ⟨e,S',H',T',D,p,q,N,r⟩:=h A h1 h2 h4 h3
 refine ⟨e,S',H',T',D,p,q,N+1,fun f m k hf hm hk=>?_⟩
 obtain ⟨f,rfl⟩:∃ g,f=g+1:=⟨f - 1,by omega⟩
 rw [Zj]
 exact r f m k (by omega) (by omega) (by omega)
theorem V4.block {id:Nat} {b:Code} {S:Rg} {H:Hp} {K:Exit→Rg→Hp→List Deferred→Prop} (h:V4 P kn lo n b S H fun e S' H' D=>match e with | .exit j=>(bif Nat.beq j id then K .normal S' H' D else K (.exit j) S' H' D) | e=>K e S' H' D):V4 P kn lo n (.block id b) S H K:=by
 intro A h1 h2 h4 h3
 obtain ⟨e,S',H',T',D,p,q,N,r⟩:=h A h1 h2 h4 h3
 have unf:∀ f m k,Zj P lo (YE P kn m k) (f+1) (.block id b) A H none=match Zj P lo (YE P kn m k) f b A H none with
  | some (.exit j,A',H',p')=>bif Nat.beq j id then some (.normal,A',H',p') else some (.exit j,A',H',p')
  | r=>r:=fun f m k=>by rw [Zj];rfl
 cases e with
 | exit j=>
  simp only at p
  cases hj:Nat.beq j id with
  | true=>
   rw [hj] at p
   refine ⟨.normal,S',H',T',D,p,q,N+1,fun f m k hf hm hk=>?_⟩
   obtain ⟨f,rfl⟩:∃ g,f=g+1:=⟨f - 1,by omega⟩
   rw [unf,r f m k (by omega) (by omega) (by omega)]
   simp only [hj,cond_true]
  | false=>
   rw [hj] at p
   refine ⟨.exit j,S',H',T',D,p,q,N+1,fun f m k hf hm hk=>?_⟩
   obtain ⟨f,rfl⟩:∃ g,f=g+1:=⟨f - 1,by omega⟩
   rw [unf,r f m k (by omega) (by omega) (by omega)]
   simp only [hj,cond_false]
 | _=>
  refine ⟨_,S',H',T',D,p,q,N+1,fun f m k hf hm hk=>?_⟩
  obtain ⟨f,rfl⟩:∃ g,f=g+1:=⟨f - 1,by omega⟩
  rw [unf,r f m k (by omega) (by omega) (by omega)]

def Lp (P:Program) (H:Hp) (l:Nat) (st:LoopState) (pe:Option Code) (n:Nat) (S:Rg) (ps:List Tmp) (asg body:Code) (r:Nat):Prop:=
 ∃ fn T,H.t.get l=some (.lp st pe fn n T ps asg body r)∧(P.funcs[fn]?).isSome=true∧ZT S T
theorem Lp.keep {H H1:Hp} {l:Nat} {st:LoopState} {pe:Option Code} {n:Nat} {S:Rg} {ps:List Tmp} {asg body:Code} {r:Nat} {w:List Nat} (h:Lp P H l st pe n S ps asg body r) (k:Keep H H1 w) (hl:l < H.next) (hw:l ∉ w):Lp P H1 l st pe n S ps asg body r:=by
 obtain ⟨fn,T,a,b⟩:=h
 exact ⟨fn,T,by rw [k.2 l hl hw];exact a,b⟩
def UE (H:Hp) (l:Nat) (st:LoopState) (pe:Option Code) (H1:Hp):Prop:=
 H1.next=H.next∧(∀ b,b≠l→H1.t.get b=H.t.get b)∧(∀ st0 pe0 fn n T ps asg body r,H.t.get l=some (.lp st0 pe0 fn n T ps asg body r)→H1.t.get l=some (.lp st pe fn n T ps asg body r))∧∀ cs,H1.t.get l≠some (.ro cs)
theorem UE.keep {H H1:Hp} {l:Nat} {st:LoopState} {pe:Option Code} (h:UE H l st pe H1):Keep H H1 [l]:=⟨by rw [h.1];exact Nat.le_refl _,fun b _ hb=>h.2.1 b (by simpa using hb),fun b cs hb hg=>by
 by_cases e:b=l
 ·subst e;exact absurd hg (h.2.2.2 cs)
 ·exact ⟨by rw [h.1] at hb;exact hb,by rw [h.2.1 b e] at hg;exact hg⟩⟩
theorem UE.lp {H H1:Hp} {l:Nat} {st st0:LoopState} {pe pe0:Option Code} {n:Nat} {S:Rg} {ps:List Tmp} {asg body:Code} {r:Nat} (h:UE H l st pe H1) (k:Lp P H l st0 pe0 n S ps asg body r):Lp P H1 l st pe n S ps asg body r:=by
 obtain ⟨fn,T,a,b⟩:=k
 exact ⟨fn,T,h.2.2.1 _ _ _ _ _ _ _ _ _ a,b⟩
theorem VV {H:Hp} {l:Nat} {st st0:LoopState} {pe pe0:Option Code} {fn:FuncId} {n:Nat} {T:Tr Value} {ps:List Tmp} {asg body:Code} {r:Nat} (h:H.t.get l=some (.lp st0 pe0 fn n T ps asg body r)):UE H l st pe { H with t:=H.t.set l (.lp st pe fn n T ps asg body r) }:=by
 refine ⟨rfl,fun b hb=>by simp only [Tr.get_set];rw [if_neg hb],fun st1 pe1 fn1 n1 T1 ps1 asg1 body1 r1 e=>?_,fun cs e=>by simp only [Tr.get_set,if_true] at e;cases e⟩
 rw [h] at e;cases e
 simp only [Tr.get_set,if_true]

def J9:List Tmp→List Value→Rg→Option Rg
 | [],[],S=>some S
 | t :: ts,v :: vs,S=>J9 ts vs ((t,v) :: S)
 | _,_,_=>none
theorem jA:∀ (ps:List Tmp) (vs:List Value) (S S1:Rg) (T:Tr Value),ZT S T→J9 ps vs S=some S1→∃ T1,X1 T ps vs=some T1∧ZT S1 T1
 | [],[],S,S1,T,h,e=>by simp only [J9] at e;cases e;exact ⟨T,rfl,h⟩
 | [],_ :: _,_,_,_,_,e=>by simp [J9] at e
 | _ :: _,[],_,_,_,_,e=>by simp [J9] at e
 | t :: ts,v :: vs,S,S1,T,h,e=>by
  simp only [J9] at e
  exact jA ts vs _ S1 (T.set t v) (ZL h (some t) v) e

theorem V4.range {fo:Operand} {ps:Array Tmp} {asg body:Code} {S:Rg} {H:Hp} {K:Exit→Rg→Hp→List Deferred→Prop} {fn:Fn} {first cap:Array Value} (hfo:evS S fo=some (.func fn first cap))
  (h:∀ H1,Keep H H1 []→H1.next=H.next+2→H1.t.get H.next=some (.dfr (some []))→Lp P H1 (H.next+1) .ready none n S ps.toList asg body H.next→
   ∃ v H2,X4 P kn lo (.fn fn cap) (first.toList ++ [.func (.yield (H.next+1)) #[] #[]]) H1 v H2∧∃ st pe S',Lp P H2 (H.next+1) st pe n S' ps.toList asg body H.next∧st≠.busy∧
    ∀ H3,UE H2 (H.next+1) .exhausted pe H3→match pe with | none=>K .normal S H3 [{ target:=.collected H.next,args:=#[] }] | some (.exit id)=>K (.exit id) S H3 [{ target:=.collected H.next,args:=#[] }] | some .ret=>K .ret S H3 [{ target:=.collected H.next,args:=#[] }] | _=>False) :
  V4 P kn lo n (.rangeFunc fo ps asg body) S H K:=by
 intro A h1 h2 h4 h3
 obtain ⟨v,H2,⟨N,hc⟩,st,pe,S',⟨fn',T',hg,hfn,hk⟩,hst,hK⟩:=h ((H.new (.dfr (some []))).new (.lp .ready none A.fn A.n A.T ps.toList asg body H.next))
  ⟨by show H.next≤H.next+1+1;omega,fun b hb _=>by simp only [Hp.new,Tr.get_set];rw [if_neg (by omega),if_neg (by omega)],fun b cs hb hg=>by
   have hb:b < H.next+1+1:=hb
   simp only [Hp.new,Tr.get_set] at hg
   by_cases e1:b=H.next+1
   ·rw [if_pos e1] at hg;cases hg
   ·rw [if_neg e1] at hg
    by_cases e2:b=H.next
    ·rw [if_pos e2] at hg;cases hg
    ·rw [if_neg e2] at hg;exact ⟨by omega,hg⟩⟩ rfl (by simp only [Hp.new,Tr.get_set];rw [if_neg (by omega),if_pos trivial]) ⟨A.fn,A.T,by simp only [Hp.new,Tr.get_set];rw [if_pos trivial,h1],h4,h3⟩
 have hK:=hK _ (VV (st:=.exhausted) (pe:=pe) hg)
 cases pe with
 | none=>
  refine ⟨.normal,S,_,A.T,_,hK,h3,N+1,fun f m k hf hm hk=>?_⟩
  obtain ⟨f,rfl⟩:∃ g,f=g+1:=⟨f - 1,by omega⟩
  have hc':=hc m k (by omega) (by omega)
  rw [Zj]
  simp only [h2,ZU h3 hfo,hc',hg]
  cases st<;>first | exact absurd rfl hst | rfl
 | some c=>
  cases c<;>simp only at hK
  ·refine ⟨.exit _,S,_,A.T,_,hK,h3,N+1,fun f m k hf hm hk=>?_⟩
   obtain ⟨f,rfl⟩:∃ g,f=g+1:=⟨f - 1,by omega⟩
   have hc':=hc m k (by omega) (by omega)
   rw [Zj]
   simp only [h2,ZU h3 hfo,hc',hg]
   cases st<;>first | exact absurd rfl hst | rfl
  ·refine ⟨.ret,S,_,A.T,_,hK,h3,N+1,fun f m k hf hm hk=>?_⟩
   obtain ⟨f,rfl⟩:∃ g,f=g+1:=⟨f - 1,by omega⟩
   have hc':=hc m k (by omega) (by omega)
   rw [Zj]
   simp only [h2,ZU h3 hfo,hc',hg]
   cases st<;>first | exact absurd rfl hst | rfl

theorem jC {H:Hp} {r:Nat} {o:Ob} (ho:∀ cs,o≠.ro cs):Keep H { H with t:=H.t.set r o } [r]:=by
 refine ⟨Nat.le_refl _,fun b _ hb=>?_,fun b cs hb hg=>?_⟩
 ·simp only [Tr.get_set];rw [if_neg (by simpa using hb)]
 ·simp only [Tr.get_set] at hg
  split at hg
  ·cases hg;exact absurd rfl (ho cs)
  ·exact ⟨hb,hg⟩
end
end Go.Ax

/-! The evaluator for all inputs,7: panics,and deferred calls. -/
namespace Go.Ax
open Go Go.RowKit

def ZeP (v:Value):Exit:=.panic [{ v,recovered:=false }]
section
variable {P:Program} {kn:Kn} {lo n:Nat} {rd:Bool}

def Zed (P:Program) (kn:Kn) (lo:Nat) (t:Target) (args:List Value) (H:Hp) (v:Value) (H':Hp):Prop:=
 ∃ N,∀ m k,N≤m→N≤k→YE P kn m k lo t args H=some (.pan v,H')
inductive RP where
 | ro (o:RO)
 | pan (x:Operand)
 | dfr (d:Option Nat) (c:Call)
def ZfX (P:Program) (n:Nat) (ops:List Oper) (o:Oper):Option RP:=
 match o.op,o.guard with
 | .panic x,none=>some (.pan x)
 | .defer c,none=>match c.callee with
  | .builtin _=>none
  | _=>bif (match o.dst with | none=>true | some d=>Nat.ble (d+1) n) then some (.dfr o.dst c) else none
 | _,_=>match W5 P n ops true o with | some r=>some (.ro r) | none=>none
def QA (P:Program) (n:Nat) (ops:List Oper):List Oper→Option (List RP)
 | []=>some []
 | o :: r=>match ZfX P n ops o with
  | none=>none
  | some x=>match QA P n ops r with | none=>none | some l=>some (x :: l)
def ZgO (P:Program) (kn:Kn) (lo:Nat) (S:Rg) (H:Hp) (o:RO) (K:Value→Hp→Prop):Prop:=
 match o.guard,o.ri with
 | none,.call c true=>match YO S c with
  | some (t,vs)=>∃ v H',Zed P kn lo t vs H v H'∧K v H'
  | none=>False
 | _,_=>False
def Vv (P:Program) (kn:Kn) (lo n:Nat) (rd:Bool):List RP→Rg→Hp→List Deferred→(Exit→Rg→Hp→List Deferred→Prop)→Prop
 | [],S,H,D,K=>K .normal S H D
 | .ro o :: r,S,H,D,K=>(wRO P kn lo n S H o fun S' H' _=>Vv P kn lo n rd r S' H' D K)∨ZgO P kn lo S H o fun v H'=>K (ZeP v) S H' D
 | .pan x :: _,S,H,D,K=>match evS S x with
  | some (.iface t v)=>K (ZeP (.iface t v)) S H D
  | _=>False
 | .dfr d c :: r,S,H,D,K=>rd=false∧match YO S c with
  | some (t,vs)=>Vv P kn lo n rd r (Zy S d undef) H ({ target:=t,args:=vs.toArray } :: D) K
  | none=>False

theorem Zab {ops:List Oper} {ord ord':Bool} {o:Oper} {c:Call} (h:WF P ops ord o=some (.call c ord')):o.op=.call c∧∀ b,c.callee≠.builtin b:=by
 unfold WF at h
 split at h<;>rename_i hop<;>(repeat' (first | (cases h;done) | (unfold cond at h) | (split at h)))
 all_goals first
  | (cases h;done)
  | (injection h with h;injection h with h1 h2;subst h1;refine ⟨hop,fun b e=>?_⟩;simp_all;done)
  | skip
theorem ZaA {ops:Array Oper} {A:Fr} {S:Rg} {H:Hp} {K:Value→Hp→Prop} {o:Oper} {ro:RO} (hl:W5 P n ops.toList true o=some ro) (hA:ZT S A.T) (h:ZgO P kn lo S H ro K) :
  ZF ops A o=some true∧∃ t vs v H',aOp P lo A H o=some (.call t vs,.full)∧Zed P kn lo t vs H v H'∧K v H':=by
 unfold W5 at hl
 split at hl<;>first | (cases hl;done) | skip
 rename_i ri hri
 obtain ⟨hd,hl⟩:=Zf hl
 unfold ZgO at h
 split at h<;>first | exact h.elim | skip
 rename_i c hg hc
 split at h<;>first | exact h.elim | skip
 rename_i t vs ht
 have hgo:o.guard=none:=by
  split at hl
  ·rename_i e;exact e
  ·split at hl<;>first | (cases hl;done) | skip
   split at hl<;>first | (cases hl;done) | skip
   cases hl;cases hg
 rw [hgo] at hl
 simp only [Option.some.injEq] at hl
 subst hl
 simp only at hc
 subst hc
 obtain ⟨hop,hb⟩:=Zab hri
 obtain ⟨v,H',hcall,hk⟩:=h
 refine ⟨by unfold ZF;rw [hgo],t,vs,v,H',?_,hcall,hk⟩
 have e:Zn P A o=none:=by
  unfold Zn;rw [hop]
  cases hcal:c.callee with
  | builtin b=>exact absurd hcal (hb b)
  | _=>simp only [hcal]
 unfold aOp
 rw [e]
 unfold Zv
 rw [hop]
 cases hcal:c.callee with
 | builtin b=>exact absurd hcal (hb b)
 | _=>simp only [hcal,U4 hA ht]
theorem Ki {ops:Array Oper}:∀ (rest pre:List Oper) {rl:List RP} {A:Fr} {S:Rg} {H:Hp} {D ds:List Deferred} {K:Exit→Rg→Hp→List Deferred→Prop},ops.toList=pre ++ rest→QA P n ops.toList rest=some rl→ZT S A.T→A.n=n→A.round.isSome=rd→A.defers=D ++ ds→Vv P kn lo n rd rl S H D K→
  ∃ e S' H' T' D',K e S' H' D'∧ZT S' T'∧∃ N,∀ m k,N≤m→N≤k→Ya P lo (YE P kn m k) ops (List.range' pre.length rest.length) A H none=some (e,{ A with T:=T',defers:=D' ++ ds },H',none)
 | [],pre,rl,A,S,H,D,ds,K,he,hl,hA,hn,hr,hd,h=>by
  simp only [QA] at hl;cases hl
  refine ⟨.normal,S,H,A.T,D,h,hA,0,fun m k _ _=>?_⟩
  rw [← hd];rfl
 | o :: rest,pre,rl,A,S,H,D,ds,K,he,hl,hA,hn,hr,hd,h=>by
  simp only [QA] at hl
  split at hl<;>first | (cases hl;done) | skip
  rename_i rp hrp
  split at hl<;>first | (cases hl;done) | skip
  rename_i l hrest
  cases hl
  have ho:ops[pre.length]? = some o:=by
   have:ops.toList[pre.length]? = some o:=by rw [he];simp
   simpa using this
  have he2:ops.toList=(pre ++ [o]) ++ rest:=by rw [he];simp
  have ih:=fun {A':Fr} {S':Rg} {H':Hp} {D':List Deferred} (hA':ZT S' A'.T) (hn':A'.n=n) (hr':A'.round.isSome=rd) (hd':A'.defers=D' ++ ds) (h':Vv P kn lo n rd l S' H' D' K)=>Ki rest (pre ++ [o]) (rl:=l) he2 hrest hA' hn' hr' hd' h'
  simp only [List.length_append,List.length_singleton] at ih
  have hrg:List.range' pre.length (o :: rest).length=pre.length :: List.range' (pre.length+1) rest.length:=by simp [List.range']
  rw [hrg]
  unfold ZfX at hrp
  split at hrp
  ·rename_i x hop hg
   cases hrp
   simp only [Vv] at h
   split at h<;>first | exact h.elim | skip
   rename_i t v hx
   have hw:ZF ops A o=some true:=by unfold ZF;rw [hg]
   have ea:aOp P lo A H o=some (.pan (.iface t v),.full):=by
    have:Zn P A o=none:=by unfold Zn;rw [hop]
    unfold aOp;rw [this];unfold Zv;rw [hop];simp only [ZU hA hx]
   refine ⟨_,S,H,A.T,D,h,hA,0,fun m k _ _=>?_⟩
   rw [Ya]
   simp only [ho,hw,ea]
   rw [← hd];rfl
  ·rename_i c hop hg
   split at hrp<;>first | (cases hrp;done) | skip
   rename_i hb
   obtain ⟨hdst,hrp⟩:=Zf hrp
   cases hrp
   simp only [Vv] at h
   obtain ⟨rfl,h⟩:=h
   split at h<;>first | exact h.elim | skip
   rename_i t vs ht
   have hw:ZF ops A o=some true:=by unfold ZF;rw [hg]
   have ea:aOp P lo A H o=some (.dfr { target:=t,args:=vs.toArray },.full):=by
    have:Zn P A o=none:=by unfold Zn;rw [hop]
    unfold aOp;rw [this];unfold Zv;rw [hop]
    cases hcal:c.callee with
    | builtin b=>exact absurd hcal (hb b)
    | _=>simp only [hcal,U4 hA ht]
   have hrn:A.round=none:=by cases hq:A.round with | none=>rfl | some x=>rw [hq] at hr;cases hr
   have hput:=qe (A:=({ fn:=A.fn,n:=A.n,T:=A.T,defers:={ target:=t,args:=vs.toArray } :: A.defers,round:=none }:Fr)) (d:=o.dst) (by rw [show ({ fn:=A.fn,n:=A.n,T:=A.T,defers:={ target:=t,args:=vs.toArray } :: A.defers,round:=none }:Fr).n=n from hn];exact hdst) undef
   obtain ⟨e,S',H',T',D',a,b,N,c'⟩:=ih (A':={ A with T:=YD A.T o.dst undef,defers:={ target:=t,args:=vs.toArray } :: A.defers }) (ZL hA o.dst undef) hn hr (by simp only [hd];rfl) h
   refine ⟨e,S',H',T',D',a,b,N,fun m k hm hk=>?_⟩
   rw [Ya]
   simp only [ho,hw,ea,hrn,hput]
   have:=c' m k hm hk
   simp only [hrn] at this
   exact this
  ·rename_i hx1 hx2
   split at hrp<;>first | (cases hrp;done) | skip
   rename_i ro hro
   cases hrp
   simp only [Vv] at h
   rcases h with h | h
   ·obtain ⟨hput,hcase⟩:=VK hro hA hn h
    rcases hcase with ⟨hw,h⟩ | ⟨hw,hdone⟩
    ·obtain ⟨e,S',H',T',D',a,b,N,c⟩:=ih (A':={ A with T:=YD A.T o.dst undef }) (ZL hA o.dst undef) hn hr hd h
     refine ⟨e,S',H',T',D',a,b,N,fun m k hm hk=>?_⟩
     rw [Ya]
     simp only [ho,hw,hput]
     exact c m k hm hk
    ·rcases hdone with ⟨v,H1,kd,e1,_,h⟩ | ⟨H1,kd,e1,h⟩ | ⟨t,vs,v,H1,e1,_,⟨N1,hc⟩,h⟩ | ⟨_,_,_,_,_,_,hf,_⟩
     rotate_right
     ·cases hf
     ·obtain ⟨e,S',H',T',D',a,b,N,c⟩:=ih (A':={ A with T:=YD A.T o.dst v }) (ZL hA o.dst v) hn hr hd h
      refine ⟨e,S',H',T',D',a,b,N,fun m k hm hk=>?_⟩
      rw [Ya]
      simp only [ho,hw,e1,hput]
      exact c m k hm hk
     ·obtain ⟨e,S',H',T',D',a,b,N,c⟩:=ih (A':={ A with T:=YD A.T o.dst undef }) (ZL hA o.dst undef) hn hr hd h
      refine ⟨e,S',H',T',D',a,b,N,fun m k hm hk=>?_⟩
      rw [Ya]
      simp only [ho,hw,e1,hput]
      exact c m k hm hk
     ·obtain ⟨e,S',H',T',D',a,b,N,c⟩:=ih (A':={ A with T:=YD A.T o.dst v }) (ZL hA o.dst v) hn hr hd h
      refine ⟨e,S',H',T',D',a,b,N+N1,fun m k hm hk=>?_⟩
      rw [Ya]
      have:=hc m k (by omega) (by omega)
      simp only [cond_true] at this
      simp only [ho,hw,e1,this,hput]
      exact c m k (by omega) (by omega)
   ·obtain ⟨hw,t,vs,v,H',e1,⟨N1,hc⟩,hk⟩:=ZaA hro hA h
    refine ⟨_,S,H',A.T,D,hk,hA,N1,fun m k hm hk'=>?_⟩
    rw [Ya]
    simp only [ho,hw,e1,hc m k hm hk']
    rw [← hd];rfl

theorem jf {c:Code} {id:Nat} {ops:Array Oper} {rl:List RP} {S:Rg} {H:Hp} {K:Exit→Rg→Hp→List Deferred→Prop} (hc:c=.region id ops false) (hl:QA P n ops.toList ops.toList=some rl) (h:Vv P kn lo n false rl S H [] K):V4 P kn lo n c S H K:=by
 subst hc
 intro A h1 h2 h4 h3
 obtain ⟨e,S',H',T',D',a,b,N,r⟩:=Ki (ops:=ops) (rd:=false) (A:=A) (ds:=A.defers) (D:=[]) ops.toList [] (by simp) hl h3 h1 (by rw [h2];rfl) rfl h
 refine ⟨e,S',H',T',D',a,b,N+1,fun f m k hf hm hk=>?_⟩
 obtain ⟨f,rfl⟩:∃ g,f=g+1:=⟨f - 1,by omega⟩
 rw [Zj]
 have:=r m k (by omega) (by omega)
 simp only [List.length_nil] at this
 simp only [cond_false,List.range_eq_range']
 simpa using this
inductive LV (P:Program) (n:Nat):Code→RC→Prop
 | low {c:Code} {r:RC}:Go.Ax.low P n c=some r→LV P n c r
 | other (c:Code):LV P n c (.other c)
 | seq {x y:Code} {a b:RC}:LV P n x a→LV P n y b→LV P n (.seq x y) (.seq a b)
 | block (id:Nat) {x:Code} {a:RC}:LV P n x a→LV P n (.block id x) (.block id a)
 | cond (o:Operand) {x y:Code} {a b:RC}:LV P n x a→LV P n y b→LV P n (.cond o x y) (.cond o a b)
theorem Tri.blockV {id:Nat} {b:Code} {S:Rg} {H:Hp} {K:Exit→Rg→Hp→Prop} (h:Tri P kn lo n rd b S H fun e S' H'=>match e with | .exit j=>(bif Nat.beq j id then K .normal S' H' else K (.exit j) S' H') | e=>K e S' H'):Tri P kn lo n rd (.block id b) S H K:=by
 intro A h1 h2 h3
 obtain ⟨e,S',H',T',p,q,N,r⟩:=h A h1 h2 h3
 have unf:∀ f m k,Zj P lo (YE P kn m k) (f+1) (.block id b) A H none=match Zj P lo (YE P kn m k) f b A H none with
  | some (.exit j,A',H',p')=>bif Nat.beq j id then some (.normal,A',H',p') else some (.exit j,A',H',p')
  | r=>r:=fun f m k=>by rw [Zj];rfl
 cases e with
 | exit j=>
  simp only at p
  cases hj:Nat.beq j id with
  | true=>
   rw [hj] at p
   refine ⟨.normal,S',H',T',p,q,N+1,fun f m k hf hm hk=>?_⟩
   obtain ⟨f,rfl⟩:∃ g,f=g+1:=⟨f - 1,by omega⟩
   rw [unf,r f m k (by omega) (by omega) (by omega)]
   simp only [hj,cond_true]
  | false=>
   rw [hj] at p
   refine ⟨.exit j,S',H',T',p,q,N+1,fun f m k hf hm hk=>?_⟩
   obtain ⟨f,rfl⟩:∃ g,f=g+1:=⟨f - 1,by omega⟩
   rw [unf,r f m k (by omega) (by omega) (by omega)]
   simp only [hj,cond_false]
 | _=>
  refine ⟨_,S',H',T',p,q,N+1,fun f m k hf hm hk=>?_⟩
  obtain ⟨f,rfl⟩:∃ g,f=g+1:=⟨f - 1,by omega⟩
  rw [unf,r f m k (by omega) (by omega) (by omega)]
theorem Tri.cond {o:Operand} {x y:Code} {S:Rg} {H:Hp} {K:Exit→Rg→Hp→Prop} {t:Bool} (ht:evS S o=some (.bool t)) (hx:t=true→Tri P kn lo n rd x S H K) (hy:t=false→Tri P kn lo n rd y S H K):Tri P kn lo n rd (.cond o x y) S H K:=by
 intro A h1 h2 h3
 cases t with
 | true=>
  obtain ⟨e,S',H',T',p,q,N,r⟩:=hx rfl A h1 h2 h3
  refine ⟨e,S',H',T',p,q,N+1,fun f m k hf hm hk=>?_⟩
  obtain ⟨f,rfl⟩:∃ g,f=g+1:=⟨f - 1,by omega⟩
  rw [Zj]
  simp only [ZU h3 ht]
  exact r f m k (by omega) (by omega) (by omega)
 | false=>
  obtain ⟨e,S',H',T',p,q,N,r⟩:=hy rfl A h1 h2 h3
  refine ⟨e,S',H',T',p,q,N+1,fun f m k hf hm hk=>?_⟩
  obtain ⟨f,rfl⟩:∃ g,f=g+1:=⟨f - 1,by omega⟩
  rw [Zj]
  simp only [ZU h3 ht]
  exact r f m k (by omega) (by omega) (by omega)
theorem Zf4 {c:Code} {r:RC} (hl:LV P n c r):∀ {S:Rg} {H:Hp} {K:Exit→Rg→Hp→Prop},wC P kn lo n rd r S H K→Tri P kn lo n rd c S H K:=by
 induction hl with
 | low h=>exact fun w=>Xh rd _ h w
 | other c=>exact fun w=>w
 | seq _ _ ih1 ih2=>exact fun w=>Tri.seq ((ih1 w).mono fun e S' H' q=>by
   cases e with
   | normal=>exact ih2 q
   | _=>exact q)
 | block id _ ih=>exact fun w=>Tri.blockV (ih w)
 | cond o _ _ ih1 ih2=>
  intro S H K w
  simp only [wC] at w
  split at w<;>first | exact w.elim | skip
  rename_i t ht
  exact Tri.cond ht (fun h=>ih1 (w.1 h)) (fun h=>ih2 (w.2 h))
end
end Go.Ax

/-! The evaluator for all inputs,8: iterators whose loop panics,and functions with a deferred call that recovers. -/
namespace Go.Ax
open Go Go.RowKit

section
variable {P:Program} {kn:Kn} {lo n:Nat}

theorem V4.seqRR {c x y:Code} {S:Rg} {H:Hp} {K:Exit→Rg→Hp→List Deferred→Prop} (hc:c=.seq x y) (h:V4 P kn lo n x S H fun e S' H' D=>match e with | .normal=>V4 P kn lo n y S' H' (fun e S2 H2 D2=>K e S2 H2 (D2 ++ D)) | e=>K e S' H' D):V4 P kn lo n c S H K:=by
 subst hc
 intro A h1 h2 h4 h3
 obtain ⟨e,S1,H1,T1,D,a,b,N1,c⟩:=h A h1 h2 h4 h3
 cases e with
 | normal=>
  obtain ⟨e,S',H',T',D2,a',b',N2,c'⟩:=a { A with T:=T1,defers:=D ++ A.defers } h1 h2 h4 b
  refine ⟨e,S',H',T',D2 ++ D,a',b',N1+N2+1,fun f m k hf hm hk=>?_⟩
  obtain ⟨f,rfl⟩:∃ g,f=g+1:=⟨f - 1,by omega⟩
  rw [Zj]
  simp only [c f m k (by omega) (by omega) (by omega)]
  rw [List.append_assoc]
  exact c' f m k (by omega) (by omega) (by omega)
 | _=>
  refine ⟨_,S1,H1,T1,D,a,b,N1+1,fun f m k hf hm hk=>?_⟩
  obtain ⟨f,rfl⟩:∃ g,f=g+1:=⟨f - 1,by omega⟩
  rw [Zj]
  simp only [c f m k (by omega) (by omega) (by omega)]

def ZdE (P:Program) (kn:Kn) (lo:Nat) (g:FuncId) (args:List Value) (H:Hp) (p p':Par) (H':Hp):Prop:=
 ∃ N v,∀ m k,N≤m→N≤k→Y9 P lo (YE P kn m k) (fun t a H p=>Yv P kn m k lo t a H p) m g args H p=some (.ret v,H',p')

/-! Deferred functions,which may recover. -/
def Ue (P:Program) (kn:Kn) (lo n:Nat) (c:Code) (S:Rg) (H:Hp) (p:Par) (K:Exit→Rg→Hp→Par→Prop):Prop:=
 ∀ A:Fr,A.n=n→A.round=none→ZT S A.T→
  ∃ e S' H' T' p',K e S' H' p'∧ZT S' T'∧∃ N,∀ f m k,N≤f→N≤m→N≤k→Zj P lo (YE P kn m k) f c A H p=some (e,{ A with T:=T' },H',p')
theorem Ue.seq {c x y:Code} {S:Rg} {H:Hp} {p:Par} {K:Exit→Rg→Hp→Par→Prop} (hc:c=.seq x y) (h:Ue P kn lo n x S H p fun e S' H' p'=>match e with | .normal=>Ue P kn lo n y S' H' p' K | e=>K e S' H' p'):Ue P kn lo n c S H p K:=by
 subst hc
 intro A h1 h2 h3
 obtain ⟨e,S1,H1,T1,p1,a,b,N1,c⟩:=h A h1 h2 h3
 cases e with
 | normal=>
  obtain ⟨e,S',H',T',p',a',b',N2,c'⟩:=a { A with T:=T1 } h1 h2 b
  refine ⟨e,S',H',T',p',a',b',N1+N2+1,fun f m k hf hm hk=>?_⟩
  obtain ⟨f,rfl⟩:∃ g,f=g+1:=⟨f - 1,by omega⟩
  rw [Zj]
  simp only [c f m k (by omega) (by omega) (by omega)]
  exact c' f m k (by omega) (by omega) (by omega)
 | _=>
  refine ⟨_,S1,H1,T1,p1,a,b,N1+1,fun f m k hf hm hk=>?_⟩
  obtain ⟨f,rfl⟩:∃ g,f=g+1:=⟨f - 1,by omega⟩
  rw [Zj]
  simp only [c f m k (by omega) (by omega) (by omega)]
theorem Ue.cond {c:Code} {o:Operand} {x y:Code} {S:Rg} {H:Hp} {p:Par} {K:Exit→Rg→Hp→Par→Prop} {t:Bool} (hc:c=.cond o x y) (ht:evS S o=some (.bool t)) (hx:t=true→Ue P kn lo n x S H p K) (hy:t=false→Ue P kn lo n y S H p K):Ue P kn lo n c S H p K:=by
 subst hc
 intro A h1 h2 h3
 cases t with
 | true=>
  obtain ⟨e,S',H',T',p',a,q,N,r⟩:=hx rfl A h1 h2 h3
  refine ⟨e,S',H',T',p',a,q,N+1,fun f m k hf hm hk=>?_⟩
  obtain ⟨f,rfl⟩:∃ g,f=g+1:=⟨f - 1,by omega⟩
  rw [Zj]
  simp only [ZU h3 ht]
  exact r f m k (by omega) (by omega) (by omega)
 | false=>
  obtain ⟨e,S',H',T',p',a,q,N,r⟩:=hy rfl A h1 h2 h3
  refine ⟨e,S',H',T',p',a,q,N+1,fun f m k hf hm hk=>?_⟩
  obtain ⟨f,rfl⟩:∃ g,f=g+1:=⟨f - 1,by omega⟩
  rw [Zj]
  simp only [ZU h3 ht]
  exact r f m k (by omega) (by omega) (by omega)
theorem Ue.skip {c:Code} {S:Rg} {H:Hp} {p:Par} {K:Exit→Rg→Hp→Par→Prop} (hc:c=.skip) (h:K .normal S H p):Ue P kn lo n c S H p K:=by
 subst hc
 intro A h1 h2 h3
 refine ⟨.normal,S,H,A.T,p,h,h3,1,fun f m k hf hm hk=>?_⟩
 obtain ⟨f,rfl⟩:∃ g,f=g+1:=⟨f - 1,by omega⟩
 rfl
inductive RQ where
 | ro (o:RO)
 | rcv (d:Option Nat)
def ZfS (P:Program) (n:Nat) (ops:List Oper) (o:Oper):Option RQ:=
 match o.op,o.guard with
 | .call { callee:=.builtin .recover,args:=⟨[]⟩,.. },none=>bif (match o.dst with | none=>true | some d=>Nat.ble (d+1) n) then some (.rcv o.dst) else none
 | _,_=>match W5 P n ops true o with | some r=>some (.ro r) | none=>none
def Qq (P:Program) (n:Nat) (ops:List Oper):List Oper→Option (List RQ)
 | []=>some []
 | o :: r=>match ZfS P n ops o with
  | none=>none
  | some x=>match Qq P n ops r with | none=>none | some l=>some (x :: l)
def Ko (P:Program) (kn:Kn) (lo n:Nat):List RQ→Rg→Hp→Par→(Rg→Hp→Par→Prop)→Prop
 | [],S,H,p,K=>K S H p
 | .ro o :: r,S,H,p,K=>wRO P kn lo n S H o fun S' H' _=>Ko P kn lo n r S' H' p K
 | .rcv d :: r,S,H,p,K=>match p with
  | some (v,false)=>Ko P kn lo n r (Zy S d v) H (some (v,true)) K
  | p=>Ko P kn lo n r (Zy S d .nilIface) H p K
theorem Kk {ops:Array Oper}:∀ (rest pre:List Oper) {rl:List RQ} {A:Fr} {S:Rg} {H:Hp} {p:Par} {K:Rg→Hp→Par→Prop},ops.toList=pre ++ rest→Qq P n ops.toList rest=some rl→ZT S A.T→A.n=n→A.round=none→Ko P kn lo n rl S H p K→
  ∃ S' H' T' p',K S' H' p'∧ZT S' T'∧∃ N,∀ m k,N≤m→N≤k→Ya P lo (YE P kn m k) ops (List.range' pre.length rest.length) A H p=some (.normal,{ A with T:=T' },H',p')
 | [],pre,rl,A,S,H,p,K,he,hl,hA,hn,hr,h=>by
  simp only [Qq] at hl;cases hl
  exact ⟨S,H,A.T,p,h,hA,0,fun m k _ _=>rfl⟩
 | o :: rest,pre,rl,A,S,H,p,K,he,hl,hA,hn,hr,h=>by
  simp only [Qq] at hl
  split at hl<;>first | (cases hl;done) | skip
  rename_i rp hrp
  split at hl<;>first | (cases hl;done) | skip
  rename_i l hrest
  cases hl
  have ho:ops[pre.length]? = some o:=by
   have:ops.toList[pre.length]? = some o:=by rw [he];simp
   simpa using this
  have he2:ops.toList=(pre ++ [o]) ++ rest:=by rw [he];simp
  have ih:=fun {A':Fr} {S':Rg} {H':Hp} {p':Par} (hA':ZT S' A'.T) (hn':A'.n=n) (hr':A'.round=none) (h':Ko P kn lo n l S' H' p' K)=>Kk rest (pre ++ [o]) (rl:=l) he2 hrest hA' hn' hr' h'
  simp only [List.length_append,List.length_singleton] at ih
  have hrg:List.range' pre.length (o :: rest).length=pre.length :: List.range' (pre.length+1) rest.length:=by simp [List.range']
  rw [hrg]
  unfold ZfS at hrp
  split at hrp
  ·rename_i ts hop hg
   obtain ⟨hdst,hrp⟩:=Zf hrp
   cases hrp
   have hw:ZF ops A o=some true:=by unfold ZF;rw [hg]
   have ea:aOp P lo A H o=some (.recov,.full):=by
    have:Zn P A o=none:=by unfold Zn;rw [hop];rfl
    unfold aOp;rw [this];unfold Zv;rw [hop];rfl
   have hput:=fun v=>qe (A:=A) (d:=o.dst) (by rw [hn];exact hdst) v
   by_cases hp:∃ v,p=some (v,false)
   ·obtain ⟨v,rfl⟩:=hp
    obtain ⟨S',H',T',p',a,b,N,c⟩:=ih (A':={ A with T:=YD A.T o.dst v }) (ZL hA o.dst v) hn hr h
    refine ⟨S',H',T',p',a,b,N,fun m k hm hk=>?_⟩
    rw [Ya]
    simp only [ho,hw,ea,hr,hput]
    have:=c m k hm hk
    simp only [hr] at this
    exact this
   ·have h':Ko P kn lo n l (Zy S o.dst .nilIface) H p K:=by
     match p,hp,h with
     | none,_,h=>exact h
     | some (v,true),_,h=>exact h
     | some (v,false),hp,_=>exact absurd ⟨v,rfl⟩ hp
    obtain ⟨S',H',T',p',a,b,N,c⟩:=ih (A':={ A with T:=YD A.T o.dst .nilIface }) (ZL hA o.dst .nilIface) hn hr h'
    refine ⟨S',H',T',p',a,b,N,fun m k hm hk=>?_⟩
    have:=c m k hm hk
    simp only [hr] at this
    rw [Ya]
    simp only [ho,hw,ea,hr,hput]
    match p,hp with
    | none,_=>exact this
    | some (v,true),_=>exact this
    | some (v,false),hp=>exact absurd ⟨v,rfl⟩ hp
  ·split at hrp<;>first | (cases hrp;done) | skip
   rename_i ro hro
   cases hrp
   simp only [Ko] at h
   obtain ⟨hput,hcase⟩:=VK hro hA hn h
   rcases hcase with ⟨hw,h⟩ | ⟨hw,hdone⟩
   ·obtain ⟨S',H',T',p',a,b,N,c⟩:=ih (A':={ A with T:=YD A.T o.dst undef }) (ZL hA o.dst undef) hn hr h
    refine ⟨S',H',T',p',a,b,N,fun m k hm hk=>?_⟩
    rw [Ya]
    simp only [ho,hw,hput]
    exact c m k hm hk
   ·rcases hdone with ⟨v,H1,kd,e1,_,h⟩ | ⟨H1,kd,e1,h⟩ | ⟨t,vs,v,H1,e1,_,⟨N1,hc⟩,h⟩ | ⟨_,_,_,_,_,_,hf,_⟩
    rotate_right
    ·cases hf
    ·obtain ⟨S',H',T',p',a,b,N,c⟩:=ih (A':={ A with T:=YD A.T o.dst v }) (ZL hA o.dst v) hn hr h
     refine ⟨S',H',T',p',a,b,N,fun m k hm hk=>?_⟩
     rw [Ya]
     simp only [ho,hw,e1,hput]
     exact c m k hm hk
    ·obtain ⟨S',H',T',p',a,b,N,c⟩:=ih (A':={ A with T:=YD A.T o.dst undef }) (ZL hA o.dst undef) hn hr h
     refine ⟨S',H',T',p',a,b,N,fun m k hm hk=>?_⟩
     rw [Ya]
     simp only [ho,hw,e1,hput]
     exact c m k hm hk
    ·obtain ⟨S',H',T',p',a,b,N,c⟩:=ih (A':={ A with T:=YD A.T o.dst v }) (ZL hA o.dst v) hn hr h
     refine ⟨S',H',T',p',a,b,N+N1,fun m k hm hk=>?_⟩
     rw [Ya]
     have:=hc m k (by omega) (by omega)
     simp only [cond_true] at this
     simp only [ho,hw,e1,this,hput]
     exact c m k (by omega) (by omega)
theorem Ue.reg {c:Code} {id:Nat} {ops:Array Oper} {rl:List RQ} {S:Rg} {H:Hp} {p:Par} {K:Exit→Rg→Hp→Par→Prop} (hc:c=.region id ops false) (hl:Qq P n ops.toList ops.toList=some rl) (h:Ko P kn lo n rl S H p fun S' H' p'=>K .normal S' H' p'):Ue P kn lo n c S H p K:=by
 subst hc
 intro A h1 h2 h3
 obtain ⟨S',H',T',p',a,b,N,r⟩:=Kk (ops:=ops) (A:=A) ops.toList [] (by simp) hl h3 h1 h2 h
 refine ⟨.normal,S',H',T',p',a,b,N+1,fun f m k hf hm hk=>?_⟩
 obtain ⟨f,rfl⟩:∃ g,f=g+1:=⟨f - 1,by omega⟩
 rw [Zj]
 have:=r m k (by omega) (by omega)
 simp only [List.length_nil] at this
 simp only [cond_false,List.range_eq_range']
 simpa using this
theorem Zfj {g:FuncId} {fn:Func} {c:Code} {args:List Value} {H:Hp} {p p':Par} {Q:Hp→Prop} (hf:P.funcs[g]? = some fn) (hc:fn.body=some c) (hl:args.length≤fn.ntmps) (hres:fn.results.toList=[])
  (h:Ue P kn lo fn.ntmps c (VS args 0) H p fun e S' H' q=>(e=.normal∨e=.ret)∧q=p'∧Q H'):∃ H',ZdE P kn lo g args H p p' H'∧Q H':=by
 obtain ⟨e,S',H',T',q,⟨he,rfl,hq⟩,hk,N,hr⟩:=h { fn:=g,n:=fn.ntmps,T:=Qf args 0 .nil,defers:=[],round:=none } rfl rfl (Ww args)
 refine ⟨H',⟨N+1,X7 [],fun m k hm hk'=>?_⟩,hq⟩
 have hr:=hr m m k (by omega) (by omega) (by omega)
 obtain ⟨m',rfl⟩:∃ g,m=g+1:=⟨m - 1,by omega⟩
 have hu:Z4 P lo (fun t a H p=>Yv P kn (m'+1) k lo t a H p) fn (m'+1) { fn:=g,n:=fn.ntmps,T:=T',defers:=[],round:=none } H' none=some (.ret (X7 []),H'):=by
  rw [Z4]
  simp only [hres,Xc]
  rfl
 unfold Y9
 simp only [hf,hc,Nat.ble_eq_true_of_le hl,cond_true,hr]
 rcases he with rfl | rfl<;>simp only [hu]
end
end Go.Ax

/-! The evaluator for all inputs,9: drawn regions that panic. -/
namespace Go.Ax
open Go Go.RowKit

section
variable {P:Program} {kn:Kn} {lo n:Nat} {rd:Bool}
theorem Zaj {f:FuncId} {fn:Func} {c:Code} {args:List Value} {H:Hp} {Q:Value→Hp→Prop} (hf:P.funcs[f]? = some fn) (hc:fn.body=some c) (hl:args.length≤fn.ntmps)
  (h:V4 P kn lo fn.ntmps c (VS args 0) H fun e S' H' D=>∃ g cap,D=[{ target:=.fn (.func g) cap,args:=#[] }]∧
    (((e=.normal∨e=.ret)∧∃ H3,ZdE P kn lo g cap.toList H' none none H3∧∃ vs,Wt P S' H3 fn.results.toList=some vs∧Q (X7 vs) H3)∨
     ∃ v,e=ZeP v∧∃ H3,ZdE P kn lo g cap.toList H' (some (v,false)) (some (v,true)) H3∧∃ vs,Wt P S' H3 fn.results.toList=some vs∧Q (X7 vs) H3)) :
  ∃ v H',FnX P kn lo f args H v H'∧Q v H':=by
 obtain ⟨e,S',H',T',D,⟨g,cap,rfl,hcase⟩,hk,N,hr⟩:=h { fn:=f,n:=fn.ntmps,T:=Qf args 0 .nil,defers:=[],round:=none } rfl rfl (by rw [hf];rfl) (Ww args)
 have last:∀ D m H2 vs,1≤m→Wt P S' H2 fn.results.toList=some vs→Z4 P lo D fn m { fn:=f,n:=fn.ntmps,T:=T',defers:=[],round:=none } H2 none=some (.ret (X7 vs),H2):=by
  intro D m H2 vs hm hres
  obtain ⟨m',rfl⟩:∃ g,m=g+1:=⟨m - 1,by omega⟩
  rw [Z4]
  simp only [Qv (A:={ fn:=f,n:=fn.ntmps,T:=T',defers:=[],round:=none }) hk hres]
  match vs with
  | []=>rfl
  | [v]=>rfl
  | v :: u :: r=>rfl
 have unw:∀ (pm pm':Par) (N2:Nat) (dv:Value) (H3:Hp) (vs:List Value) (m k:Nat),N2+3≤m→N2+3≤k→(match pm' with | some (_,true)=>none | m'=>m')=none→
   (∀ m k,N2≤m→N2≤k→Y9 P lo (YE P kn m k) (fun t a H p=>Yv P kn m k lo t a H p) m g cap.toList H' pm=some (.ret dv,H3,pm'))→Wt P S' H3 fn.results.toList=some vs→
   Z4 P lo (fun t a H p=>Yv P kn m k lo t a H p) fn m { fn:=f,n:=fn.ntmps,T:=T',defers:=[{ target:=.fn (.func g) cap,args:=#[] }],round:=none } H' pm=some (.ret (X7 vs),H3):=by
  intro pm pm' N2 dv H3 vs m k hm hk2 hp hd hres
  have hev:Yv P kn m k lo (.fn (.func g) cap) [] H' pm=some (.ret dv,H3,pm'):=by
   obtain ⟨k,rfl⟩:∃ g,k=g+1:=⟨k - 1,by omega⟩
   have:=hd m k (by omega) (by omega)
   rw [← this]
   simp only [Yv,List.nil_append]
   rfl
  obtain ⟨m',rfl⟩:∃ g,m=g+3:=⟨m - 3,by omega⟩
  rw [Z4.eq_def]
  simp only [hev]
  have key:∀ q:Par,q=none→Z4 P lo (fun t a H p=>Yv P kn (m'+3) k lo t a H p) fn (m'+2) { fn:=f,n:=fn.ntmps,T:=T',defers:=[],round:=none } H3 q=some (.ret (X7 vs),H3):=fun q hq=>by
   subst hq
   exact last _ _ _ _ (by omega) hres
  exact key _ hp
 rcases hcase with ⟨he,H3,⟨N2,dv,hd⟩,vs,hres,hq⟩ | ⟨v,rfl,H3,⟨N2,dv,hd⟩,vs,hres,hq⟩
 ·refine ⟨X7 vs,H3,⟨N+N2+3,fun m k hm hk'=>?_⟩,hq⟩
  have hr:=hr m m k (by omega) (by omega) (by omega)
  simp only [List.append_nil] at hr
  have hu:=unw none none N2 dv H3 vs m k (by omega) (by omega) rfl hd hres
  unfold Y9
  simp only [hf,hc,Nat.ble_eq_true_of_le hl,cond_true,hr]
  rcases he with rfl | rfl<;>simp only [hu]
 ·refine ⟨X7 vs,H3,⟨N+N2+3,fun m k hm hk'=>?_⟩,hq⟩
  have hr:=hr m m k (by omega) (by omega) (by omega)
  simp only [List.append_nil] at hr
  have hu:=unw (some (v,false)) (some (v,true)) N2 dv H3 vs m k (by omega) (by omega) rfl hd hres
  unfold Y9
  simp only [hf,hc,Nat.ble_eq_true_of_le hl,cond_true,hr,ZeP,hu]
end
end Go.Ax

/-! Steps of drawn regions,one theorem each,and pieces (written by program). -/
namespace Go.Ax
open Go Go.RowKit
section
variable {P:Program} {kn:Kn} {lo n:Nat} {masks:List Nat} {r:List RO} {ks:List Kd} {S:Rg} {H:Hp} {K:Rg→Hp→Prop} {d:Option Nat} {x y:Operand} {rd:Bool}
theorem Y0 {ops:List RO} {c:RC} {K:Exit→Rg→Hp→Prop} (h:Zu P kn lo n masks ops [] S H fun S' H'=>wC P kn lo n rd c S' H' K):wC P kn lo n rd (.seq (.dreg ops masks) c) S H K:=.inl h
theorem Ze {v:Value} (hx:evS S x=some v) (h:Zu P kn lo n masks r (.pure :: ks) (Zy S d v) H K):Zu P kn lo n masks (⟨d,none,.mov x⟩ :: r) ks S H K:=by
 show match evS S x with | some v=>Zu P kn lo n masks r (.pure :: ks) (Zy S d v) H K | none=>False
 rw [hx];exact h
theorem Vw {a:Addr} (hx:evS S x=some (.pointer (some a))) (h:Zu P kn lo n masks r (.pure :: ks) (Zy S d (.pointer (some a))) H K):Zu P kn lo n masks (⟨d,none,.nilc x⟩ :: r) ks S H K:=by
 simp only [Zu,wRO,wRI,hx];exact h
theorem ZC {b o off:Nat} (hx:evS S x=some (.pointer (some ⟨b,o,none⟩))) (h:Zu P kn lo n masks r (.pure :: ks) (Zy S d (.pointer (some ⟨b,o+off,none⟩))) H K):Zu P kn lo n masks (⟨d,none,.addo x off⟩ :: r) ks S H K:=by
 simp only [Zu,wRO,wRI,hx];exact h
theorem ZD {b o m:Nat} {cs:List Value} {v:Value} (hx:evS S x=some (.pointer (some ⟨b,o,none⟩))) (hc:Rd H b cs) (hv:cs[o]? = some v) (h:Zu P kn lo n masks r (.read b :: ks) (Zy S d v) H K):Zu P kn lo n masks (⟨d,none,.ld x m⟩ :: r) ks S H K:=by
 simp only [Zu,wRO,wRI,hx];exact ⟨cs,v,hc.of,hv,hc.lt,h⟩
theorem ZR {o:Oper} {v:Value} (hd:Vl S o.op.operands.toList=true) (hv:Zn P (frS n S) o=some v) (h:Zu P kn lo n masks r (.pure :: ks) (Zy S d v) H K):Zu P kn lo n masks (⟨d,none,.pur o⟩ :: r) ks S H K:=⟨hd,v,hv,h⟩
theorem ZJ (hp:(bif ks.all calm then True else K3 ks masks)) (h:K S H):Zu P kn lo n masks [] ks S H K:=⟨hp,h⟩
theorem YF {b o m:Nat} {cs q:List Value} (hx:evS S x=some (.pointer (some ⟨b,o,none⟩))) (hc:Rd H b cs) (hv:row m cs o=some q) (h:Zu P kn lo n masks r (.read b :: ks) (Zy S d (.agg q.toArray)) H K):Zu P kn lo n masks (⟨d,none,.lda x m⟩ :: r) ks S H K:=by
 simp only [Zu,wRO,wRI,hx];exact ⟨cs,q,hc.of,hv,hc.lt,h⟩
theorem Zhp {a b:Int} (hx:evS S x=some (.int .i64 a)) (hy:evS S y=some (.int .i64 b)) (h0:0≤a) (h1:0 < b) (h2:InR a) (h3:InR b) (h:Zu P kn lo n masks r (.pure :: ks) (Zy S d (.int .i64 (a % b))) H K):Zu P kn lo n masks (⟨d,none,.ari .rem x y⟩ :: r) ks S H K:=by
 simp only [Zu,wRO,wRI,hx,hy];exact ⟨h0,h1,h2,h3,h⟩
theorem X5 {a b:Int} (hx:evS S x=some (.int .i64 a)) (hy:evS S y=some (.int .i64 b)) (h2:InR (a+b)) (h:Zu P kn lo n masks r (.pure :: ks) (Zy S d (.int .i64 (a+b))) H K):Zu P kn lo n masks (⟨d,none,.ari .add x y⟩ :: r) ks S H K:=by
 simp only [Zu,wRO,wRI,hx,hy];exact ⟨h2,h⟩
theorem Zw {b o len cap size k:Nat} {kd:IntKind} {j:Int} (hx:evS S x=some (.slice (some ⟨b,o,none⟩) len cap)) (hy:evS S y=some (.int kd j)) (hj:j=(k:Int)) (hk:k < len) (h:Zu P kn lo n masks r (.pure :: ks) (Zy S d (.pointer (some ⟨b,o+k * size,none⟩))) H K):Zu P kn lo n masks (⟨d,none,.idx x y size⟩ :: r) ks S H K:=by
 simp only [Zu,wRO,wRI,hx,hy];exact ⟨k,hj,hk,h⟩
theorem ZbT {b o len size k:Nat} {kd:IntKind} {j:Int} (hx:evS S x=some (.pointer (some ⟨b,o,none⟩))) (hy:evS S y=some (.int kd j)) (hj:j=(k:Int)) (hk:k < len) (h:Zu P kn lo n masks r (.pure :: ks) (Zy S d (.pointer (some ⟨b,o+k * size,none⟩))) H K):Zu P kn lo n masks (⟨d,none,.idxa x y len size⟩ :: r) ks S H K:=by
 simp only [Zu,wRO,wRI,hx,hy];exact ⟨k,hj,hk,h⟩
theorem WO {c:Call} {t:Target} {vs:List Value} {v:Value} {H':Hp} (ht:YO S c=some (t,vs)) (hm:Vh t=false) (hc:X4 P kn H.next t vs H v H') (h:Zu P kn lo n masks r (.heavy :: ks) (Zy S d v) H' K):Zu P kn lo n masks (⟨d,none,.call c false⟩ :: r) ks S H K:=by
 simp only [Zu,wRO,wRI,ht,hm,Bool.and_false,cond_false];exact ⟨v,H',hc,h⟩
theorem Yy {c:Call} {t:Target} {vs:List Value} {v:Value} {H':Hp} (ht:YO S c=some (t,vs)) (hc:X4 P kn lo t vs H v H') (h:Zu P kn lo n masks r (.full :: ks) (Zy S d v) H' K):Zu P kn lo n masks (⟨d,none,.call c true⟩ :: r) ks S H K:=by
 simp only [Zu,wRO,wRI,ht,Bool.not_true,Bool.false_and,cond_false,cond_true];exact ⟨v,H',hc,h⟩
theorem Zdt {a b:Int} (hx:evS S x=some (.int .i64 a)) (hy:evS S y=some (.int .i64 b)) (h2:InR (a * b)) (h:Zu P kn lo n masks r (.pure :: ks) (Zy S d (.int .i64 (a * b))) H K):Zu P kn lo n masks (⟨d,none,.ari .mul x y⟩ :: r) ks S H K:=by
 simp only [Zu,wRO,wRI,hx,hy];exact ⟨h2,h⟩
theorem Xd {a b:Int} (hx:evS S x=some (.int .i64 a)) (hy:evS S y=some (.int .i64 b)) (h2:InR (a - b)) (h:Zu P kn lo n masks r (.pure :: ks) (Zy S d (.int .i64 (a - b))) H K):Zu P kn lo n masks (⟨d,none,.ari .sub x y⟩ :: r) ks S H K:=by
 simp only [Zu,wRO,wRI,hx,hy];exact ⟨h2,h⟩
theorem Zhu {a b:Int} (hx:evS S x=some (.int .i64 a)) (hy:evS S y=some (.int .i64 b)) (h0:0≤a) (h1:0 < b) (h2:InR a) (h:Zu P kn lo n masks r (.pure :: ks) (Zy S d (.int .i64 (a / b))) H K):Zu P kn lo n masks (⟨d,none,.ari .quo x y⟩ :: r) ks S H K:=by
 simp only [Zu,wRO,wRI,hx,hy];exact ⟨h0,h1,h2,h⟩
theorem W2 {c:Code} {R:RC} {S S0:Rg} {H:Hp} {K:Exit→Rg→Hp→Prop} (hL:low P n c=some R) (hS:WM S0 S) (h:wC P kn lo n rd R S0 H K):Tri P kn lo n rd c S H K:=Tri.forget (Xh rd _ hL h) hS.get
theorem Zr {g:Nat} {t:Bool} {ri:RI} (hg:lk S g=some (.bool t)) (h:Zu P kn lo n masks (⟨d,none,ri⟩ :: r) ks S H K):Zu P kn lo n masks (⟨d,some (g,t),ri⟩ :: r) ks S H K:=by
 cases t<;>(simp only [Zu,wRO,hg] at h ⊢;exact h)
theorem Zi6 {small:Bool} {a b:Int} (hx:evS S x=some (.int .i64 a)) (hy:evS S y=some (.int .i64 b)) (h:Zu P kn lo n masks r (.pure :: ks) (Zy S d (.int .i64 (bif small then min a b else max a b))) H K):Zu P kn lo n masks (⟨d,none,.mm small x y⟩ :: r) ks S H K:=by
 simp only [Zu,wRO,wRI,hx,hy];exact h
theorem Zgk {b o:Nat} {cs:List Value} {v:Value} (hx:evS S x=some (.pointer (some ⟨b,o,none⟩))) (hy:evS S y=some v) (hc:Cl H b cs) (hl:lo≤b) (hv:v.cells.toList=[v]) (h1:one v=true) (ho:o < cs.length)
  (h:∀ H1,Keep H H1 [b]→H1.next=H.next→Cl H1 b (cs.set o v)→Zu P kn lo n masks r (.store b :: ks) (Zy S d undef) H1 K):Zu P kn lo n masks (⟨d,none,.st x y⟩ :: r) ks S H K:=by
 simp only [Zu,wRO,wRI,hx,hy]
 obtain ⟨_,e,l,g⟩:=id hc
 exact ⟨cs,e,l,g,hl,hv,h1,ho,fun H1 hH1=>by obtain ⟨a,b,c⟩:=WK hc hH1;exact h H1 a b c⟩
theorem Yc {ops:List RO} {K:Exit→Rg→Hp→Prop} (h:Zu P kn lo n masks ops [] S H fun S' H'=>K .normal S' H'):wC P kn lo n rd (.dreg ops masks) S H K:=.inl h
theorem Zz {g:Nat} {t:Bool} {ri:RI} (hg:lk S g=some (.bool (!t))) (h:Zu P kn lo n masks r (.pure :: ks) (Zy S d undef) H K):Zu P kn lo n masks (⟨d,some (g,t),ri⟩ :: r) ks S H K:=by
 cases t<;>(simp only [Zu,wRO,hg,Bool.not_true,Bool.not_false,cond_true,cond_false] at h ⊢;exact h)
theorem ZdJ {f:FuncId} {fn:Func} {R:RC} {n:Nat} {rs:List ResultVar} {args:List Value} {H:Hp} {Q:Value→Hp→Prop} (hf:P.funcs[f]? = some fn) (hb:fn.body=some (at_ fn [])) (hn:fn.ntmps=n) (hz:fn.results.toList=rs) (hL:LV P n (at_ fn []) R) (hl:args.length≤n)
  (h:wC P kn lo n false R (VS args 0) H fun e S' H'=>(match e with | .normal=>True | .ret=>True | _=>False)∧∃ vs,Wt P S' H' rs=some vs∧Q (X7 vs) H') :
  ∃ v H',FnX P kn lo f args H v H'∧Q v H':=by
 subst hn hz
 exact zb hf hb hl (Zf4 hL h)
theorem Je {o:Oper} {v:Value} {H':Hp} {k:Kd} (hd:Vl S o.op.operands.toList=true) (hp:Zn P (frS n S) o=none) (hh:Zv P lo (frS n S) H o=some (.val v H',k)) (hb:∀ b,k=.read b→b < H.next)
  (h:Zu P kn lo n masks r (k :: ks) (Zy S d v) H' K):Zu P kn lo n masks (⟨d,none,.mem o⟩ :: r) ks S H K:=⟨hd,.inr ⟨hp,v,H',k,hh,hb,by cases k with | read b=>exact ⟨hb b rfl,h⟩ | _=>exact h⟩⟩
theorem ZcX {c:Code} {R:RC} {S S0:Rg} {H:Hp} {K:Exit→Rg→Hp→Prop} (hL:LV P n c R) (hS:WM S0 S) (h:wC P kn lo n rd R S0 H K):Tri P kn lo n rd c S H K:=Tri.forget (Zf4 hL h) hS.get
end
end Go.Ax

namespace Go.Ax
open Go Go.RowKit

section
variable {P:Program} {kn:Kn} {lo n:Nat}
theorem ZcO {t:TypeId} (ht:Wj P t=some false) {H:Hp} {b:Nat} {v:Value} (h:Rd H b [v]):W4 P H t ⟨b,0,none⟩=some v:=by
 unfold W4
 simp only [h.of,ht]
 rfl
end
end Go.Ax

/-! Lemmas of no seat (gathered by program). -/
namespace Go.Ax
open Go Go.RowKit

abbrev pt (b:Nat):Value:=.pointer (some ⟨b,0,none⟩)
abbrev iv (x:Int):Value:=.int .i64 x
theorem YN {A B:Prop} (h:A):(true=true→A)∧(true=false→B):=⟨fun _=>h,fun q=>Bool.noConfusion q⟩
theorem ZQ {A B:Prop} (h:B):(false=true→A)∧(false=false→B):=⟨fun q=>Bool.noConfusion q,fun _=>h⟩
theorem zS {α:Type} {l:List α} {i:Nat} {x:α} (h:l[i]? = some x):i < l.length:=by
 rcases Nat.lt_or_ge i l.length with q | q
 ·exact q
 ·rw [List.getElem?_eq_none q] at h;cases h
section
variable {P:Program} {kn:Kn} {lo:Nat} {H:Hp}
theorem zT:∀ (z vs pre:List Value),z.length=vs.length→Z9 (pre ++ z) pre.length vs=pre ++ vs
 | [],[],pre,_=>by simp [Z9]
 | [],_ :: _,_,h=>by simp at h
 | _ :: _,[],_,h=>by simp at h
 | y :: z,v :: vs,pre,h=>by
  rw [Z9,List.set_append_right _ _ (Nat.le_refl _),Nat.sub_self,List.set_cons_zero]
  have:=zT z vs (pre ++ [v]) (by simpa using h)
  simp only [List.append_assoc,List.singleton_append,List.length_append,List.length_singleton] at this
  exact this
theorem Xj {n:Nat} {S:Rg} {H:Hp} {d:Option Tmp} {t e ty:TypeId} {p:String} {size:Nat} {z v:Value} {x:Operand} (he:ZS P t=some (e,size)) (hz:Yt P e=some z) (hzs:z.cells.toList.length=size) (hx:evS S x=some v) (hv:v.cells.toList.length=size) (hs:size≤16777216) :
  Zv P lo (frS n S) H ⟨d,.buildSlice t 1 #[(0,x)],ty,p,#[],none⟩=some (.val (.slice (some ⟨H.next,0,none⟩) 1 1) (H.new (.cells v.cells.toList e false)),.heavy):=by
 have hp:=zT z.cells.toList v.cells.toList [] (by rw [hzs,hv])
 simp only [List.nil_append,List.length_nil] at hp
 have h2:Nat.ble (0+size) z.cells.toList.length=true:=Nat.ble_eq_true_of_le (by rw [hzs];omega)
 unfold Zv
 simp only [Xb,Yo,hx,he,hz,Nat.one_mul,Nat.ble_eq_true_of_le hs,cond_true,ZZ,List.append_nil,VA,Nat.zero_mul,hv,Nat.beq_refl,h2,Bool.and_self,hp]
end
theorem Cl.sl {H:Hp} {b n cap:Nat} {cs:List Value} (h:Cl H b cs) (hn:n≤cap):Sl H (some ⟨b,0,none⟩) n cap cs:=.inr ⟨b,rfl,h.rd,hn⟩
theorem KI {n:Nat} {cs l:List Value} {i j:Nat} {v:Value} (h:row n cs i=some l) (hj:l[j]? = some v):cs[i+j]? = some v:=by
 obtain ⟨e,hl⟩:=QQ h
 have hjl:=zS hj
 rw [e,List.getElem?_take,if_pos (by omega),List.getElem?_drop] at hj
 exact hj
def Acc (lo f:Nat) (e:TypeId) (H:Hp) (v:Value) (n:Nat) (cs:List Value):Prop:=
 (n=0∧cs=[]∧v=.slice none 0 0)∨∃ b,v=.slice (some ⟨b,0,none⟩) n n∧0 < n∧f≤b∧lo≤b∧b < H.next∧H.t.get b=some (.cells cs e true)
theorem Acc.sl {lo f:Nat} {e:TypeId} {H:Hp} {v:Value} {n:Nat} {cs:List Value} (h:Acc lo f e H v n cs):∃ a cap,v=.slice a n cap∧Sl H a n cap cs∧∀ b,a=some ⟨b,0,none⟩→f≤b:=by
 rcases h with ⟨rfl,rfl,rfl⟩ | ⟨b,rfl,h0,hf,hl,hn,hg⟩
 ·exact ⟨none,0,rfl,.inl ⟨.inl rfl,rfl,rfl,rfl⟩,fun b e=>by cases e⟩
 ·refine ⟨_,_,rfl,.inr ⟨b,rfl,⟨hn,?_⟩,Nat.le_refl _⟩,fun b e=>by cases e;exact hf⟩
  unfold cellsOf;rw [hg]
theorem Acc.keep {lo f:Nat} {e:TypeId} {H H1:Hp} {v:Value} {n:Nat} {cs:List Value} (h:Acc lo f e H v n cs) (k:Keep H H1 []):Acc lo f e H1 v n cs:=
 h.imp id fun ⟨b,e1,h0,hf,hl,hn,hg⟩=>⟨b,e1,h0,hf,hl,Nat.lt_of_lt_of_le hn k.1,by rw [k.2 b hn (by simp)];exact hg⟩
structure YZ (f:Nat) (H H1:Hp):Prop where
 le:H.next≤H1.next
 same:∀ b,b < f→H1.t.get b=H.t.get b
 rox:∀ b cs,b < H1.next→H1.t.get b=some (.ro cs)→b < H.next∧H.t.get b=some (.ro cs)
theorem YZ.keep {f:Nat} {F H H1:Hp} {l:List Nat} (h:YZ f H H1) (k:Keep F H l) (hf:F.next≤f):Keep F H1 l:=
 ⟨Nat.le_trans k.1 h.1,fun b hb hl=>(h.2 b (Nat.lt_of_lt_of_le hb hf)).trans (k.2 b hb hl),fun b cs hb hg=>(h.3 b cs hb hg).elim fun x y=>k.3 b cs x y⟩
theorem YZ.of {f:Nat} {H H1:Hp} (k:Keep H H1 []) (hf:f≤H.next):YZ f H H1:=⟨k.1,fun b hb=>k.2 b (Nat.lt_of_lt_of_le hb hf) (by simp),k.3⟩
section
variable {P:Program} {lo:Nat}
theorem Ku {H:Hp} {t0 t1 e ep:TypeId} {size k cap2 f:Nat} {a:Option Addr} {v:Value} {cs news:List Value} (he:ZS P t0=some (e,size)) (ht:P.underlying t1=some (.slice ep))
  (hs:Sl H a 1 cap2 news) (hl:news.length=1 * size) (hz:0 < size) (hone:news.all one=true) (hcl:cs.length=k * size) (hk:k < 1000) (ha:Acc lo f e H v k cs) (hlo:lo≤H.next) (hf:f≤H.next) :
  ∃ H1 kd,(∀ (n:Nat) (S:Rg) (d:Option Tmp) (x y:Operand) (ty:TypeId) (p:String),evS S x=some v→evS S y=some (.slice a 1 cap2)→Zv P lo (frS n S) H ⟨d,.call ⟨.builtin .append,#[x,y],#[t0,t1]⟩,ty,p,#[],none⟩=some (.val (.slice (some ⟨H.next,0,none⟩) (k+1) (k+1)) H1,kd))∧(kd=.heavy∨∃ b,kd=.store b∧f≤b)∧
   Acc lo f e H1 (.slice (some ⟨H.next,0,none⟩) (k+1) (k+1)) (k+1) (cs ++ news)∧YZ f H H1:=by
 rcases ha with ⟨rfl,rfl,rfl⟩ | ⟨b,rfl,h0,hb,hlb,hn,hg⟩
 ·refine ⟨H.new (.cells news e true),.heavy,?_,.inl rfl,?_,?_⟩
  ·intro n S d x y ty p hx hy
   unfold Zv
   simp only [evs,Yo,hx,hy,Ys,List.getElem?_toArray,List.getElem?_cons_zero,List.getElem?_cons_succ,he,ht,UK hs hl,Z5]
   rfl
  ·refine .inr ⟨H.next,rfl,by omega,hf,hlo,Nat.lt_succ_self _,?_⟩
   show (H.t.set H.next _).get H.next=_
   rw [Tr.get_set,if_pos rfl];rfl
  ·exact YZ.of (ZO rfl).1 hf
 ·have h1:Nat.ble (0+(k+1) * size) cs.length=false:=by
   cases h:Nat.ble (0+(k+1) * size) cs.length with
   | false=>rfl
   | true=>have:=Nat.le_of_ble_eq_true h;rw [hcl,Nat.succ_mul] at this;omega
  have h2:Nat.beq (0+k * size) cs.length=true:=by rw [hcl,Nat.zero_add];exact Nat.beq_refl _
  have h3:Nat.ble (k+1) 1048576=true:=Nat.ble_eq_true_of_le (by omega)
  have h4:Nat.beq e e=true:=Nat.beq_refl e
  refine ⟨({ H with t:=H.t.set b .dead }:Hp).new (.cells (cs ++ news) e true),.store b,?_,.inr ⟨b,rfl,hb⟩,?_,?_⟩
  ·intro n S d x y ty p hx hy
   unfold Zv
   simp only [evs,Yo,hx,hy,Ys,List.getElem?_toArray,List.getElem?_cons_zero,List.getElem?_cons_succ,he,ht,UK hs hl,Z5,hg,h1,h2,h3,h4,hone,Nat.ble_eq_true_of_le hlb,Bool.and_self,cond_true,cond_false,List.drop_zero,show Nat.beq 1 0=false from rfl]
  ·refine .inr ⟨H.next,rfl,by omega,hf,hlo,Nat.lt_succ_self _,?_⟩
   show ((H.t.set b .dead).set H.next _).get H.next=_
   rw [Tr.get_set,if_pos rfl]
  ·refine ⟨Nat.le_succ _,fun c hc=>?_,fun c xs hc hx=>?_⟩
   ·show ((H.t.set b .dead).set H.next _).get c=_
    rw [Tr.get_set,if_neg (by omega),Tr.get_set,if_neg (by omega)]
   ·have hx:((H.t.set b .dead).set H.next (.cells (cs ++ news) e true)).get c=some (.ro xs):=hx
    have hc:c < H.next+1:=hc
    rw [Tr.get_set] at hx
    split at hx
    ·cases hx
    ·rw [Tr.get_set] at hx
     split at hx
     ·cases hx
     ·exact ⟨by omega,hx⟩
end
theorem Qs {kd:Kd} {f:Nat} (h:kd=.heavy∨∃ b,kd=.store b∧f≤b) (n:Nat):∀ b,kd=.read b→b < n:=by
 rcases h with rfl | ⟨b,rfl,_⟩<;>intro c e<;>cases e
theorem Acc.keepW {lo f:Nat} {e:TypeId} {H H1:Hp} {v:Value} {n x:Nat} {cs:List Value} (h:Acc lo f e H v n cs) (k:Keep H H1 [x]) (hx:x < f):Acc lo f e H1 v n cs:=
 h.imp id fun ⟨b,e1,h0,hf,hl,hn,hg⟩=>⟨b,e1,h0,hf,hl,Nat.lt_of_lt_of_le hn k.1,by rw [k.2 b hn (by simp;omega)];exact hg⟩
theorem Zen {P:Program} {t:TypeId} {n:Nat} (ht:Wj P t=some true) (hi:∃ i,P.info? t=some i∧i.size=n) {H:Hp} {b:Nat} {cs:List Value} (h:Rd H b cs) (hl:cs.length=n):W4 P H t ⟨b,0,none⟩=some (.agg cs.toArray):=by
 obtain ⟨i,h1,h2⟩:=hi
 have hr:row i.size cs 0=some cs:=by
  unfold row
  rw [h2,← hl]
  simp [ZG]
 unfold W4
 simp only [h.of,ht,h1,hr]
theorem Sl.old {H:Hp} {a:Option Addr} {n c:Nat} {cs:List Value} (h:Sl H a n c cs) (b:Nat) (e:a=some ⟨b,0,none⟩):b < H.next:=by
 rcases h with ⟨h | h,_⟩ | ⟨b',e',h,_⟩
 ·rw [h] at e;cases e
 ·rw [h] at e;cases e
 ·rw [e'] at e;cases e;exact h.lt
theorem YZ.cl {f:Nat} {H H1:Hp} {b:Nat} {cs:List Value} (h:YZ f H H1) (hc:Cl H b cs) (hb:b < f):Cl H1 b cs:=by
 obtain ⟨h1,e,lz,h2⟩:=hc
 exact ⟨Nat.lt_of_lt_of_le h1 h.1,e,lz,by rw [h.2 b hb];exact h2⟩
theorem YZ.rd {f:Nat} {H H1:Hp} {b:Nat} {cs:List Value} (h:YZ f H H1) (hc:Rd H b cs) (hb:b < f):Rd H1 b cs:=by
 obtain ⟨h1,h2⟩:=hc
 exact ⟨Nat.lt_of_lt_of_le h1 h.1,by unfold cellsOf at h2 ⊢;rw [h.2 b hb];exact h2⟩
theorem Yu {P:Program} {lo:Nat} {H:Hp} {t0 t1 e ep:TypeId} {size k cap2 f:Nat} {a:Option Addr} {v:Value} {cs news:List Value} (he:ZS P t0=some (e,size)) (ht:P.underlying t1=some (.slice ep))
  (hs:Sl H a 1 cap2 news) (hl:news.length=1 * size) (hz:0 < size) (hone:news.all one=true) (hcl:cs.length=k * size) (hk:k < 1000) (ha:Acc lo f e H v k cs) (hlo:lo≤H.next) (hf:f≤H.next) :
  ∃ H1 kd,(∀ (n:Nat) (S:Rg) (d:Option Tmp) (x y:Operand) (ty:TypeId) (p:String),evS S x=some v→evS S y=some (.slice a 1 cap2)→Zv P lo (frS n S) H ⟨d,.call ⟨.builtin .append,#[x,y],#[t0,t1]⟩,ty,p,#[],none⟩=some (.val (.slice (some ⟨H.next,0,none⟩) (k+1) (k+1)) H1,kd))∧(kd=.heavy∨∃ b,kd=.store b∧f≤b)∧
   Acc lo f e H1 (.slice (some ⟨H.next,0,none⟩) (k+1) (k+1)) (k+1) (cs ++ news)∧YZ f H H1:=by
 exact Ku he ht hs hl hz hone hcl hk ha hlo hf
theorem qz {H H1:Hp} {o:Ob} (h:H.new o=H1):H1.t.get H.next=some o:=by
 subst h
 show (H.t.set H.next _).get H.next=_
 rw [Tr.get_set,if_pos rfl]
theorem YZ.sl {f:Nat} {H H1:Hp} {a:Option Addr} {n c:Nat} {cs:List Value} (h:YZ f H H1) (hc:Sl H a n c cs) (hb:∀ b,a=some ⟨b,0,none⟩→b < f):Sl H1 a n c cs:=
 hc.imp id fun ⟨b,e,r,q⟩=>⟨b,e,h.rd r (hb b e),q⟩
def ZeF (b0 lo f:Nat) (e:TypeId) (H:Hp) (v:Value) (n:Nat) (cs:List Value):Prop:=
 (n=0∧cs=[]∧v=.slice (some ⟨b0,0,none⟩) 0 0∧b0 < H.next∧∃ e0,H.t.get b0=some (.cells [] e0 false))∨∃ b,v=.slice (some ⟨b,0,none⟩) n n∧0 < n∧f≤b∧lo≤b∧b < H.next∧H.t.get b=some (.cells cs e true)
theorem ZeF.keep {b0 lo f:Nat} {e:TypeId} {H H1:Hp} {v:Value} {n:Nat} {cs:List Value} (h:ZeF b0 lo f e H v n cs) (k:Keep H H1 []):ZeF b0 lo f e H1 v n cs:=
 h.imp (fun ⟨h1,h2,h3,h4,e0,h5⟩=>⟨h1,h2,h3,Nat.lt_of_lt_of_le h4 k.1,e0,by rw [k.2 b0 h4 (by simp)];exact h5⟩) fun ⟨b,e1,h0,hf,hl,hn,hg⟩=>⟨b,e1,h0,hf,hl,Nat.lt_of_lt_of_le hn k.1,by rw [k.2 b hn (by simp)];exact hg⟩
section
variable {P:Program} {lo:Nat}
theorem Q9 {H:Hp} {t0 t1 e ep e0:TypeId} {size m cap b0 f:Nat} {a:Option Addr} {cs:List Value} (he:ZS P t0=some (e,size)) (ht:P.underlying t1=some (.slice ep)) (hs:Sl H a m cap cs) (hl:cs.length=m * size) (hm:m≤1000) (hz:0 < size)
  (h0:H.t.get b0=some (.cells [] e0 false)) (hb:b0 < H.next) (hlo:lo≤H.next) (hf:f≤H.next) (hfb:f≤b0) :
  ∃ v H1 kd,(∀ (n:Nat) (S:Rg) (d:Option Tmp) (x y:Operand) (ty:TypeId) (p:String),evS S x=some (.slice (some ⟨b0,0,none⟩) 0 0)→evS S y=some (.slice a m cap)→Zv P lo (frS n S) H ⟨d,.call ⟨.builtin .append,#[x,y],#[t0,t1]⟩,ty,p,#[],none⟩=some (.val v H1,kd))∧(kd=.pure∨kd=.heavy)∧
   ZeF b0 lo f e H1 v m cs∧Keep H H1 []:=by
 rcases Nat.eq_zero_or_pos m with rfl | hp
 ·have hc:cs=[]:=by cases cs with | nil=>rfl | cons _ _=>simp at hl
  exact ⟨_,H,.pure,fun n S d x y ty p hx hy=>J1 he ht hx hy hs (by rw [hl];simp),.inl rfl,.inl ⟨rfl,hc,rfl,hb,e0,h0⟩,Keep.refl _ _⟩
 ·exact ⟨_,_,.heavy,fun n S d x y ty p hx hy=>Q1 he ht h0 hx hy hs hl (by omega) hp,.inr rfl,.inr ⟨H.next,rfl,hp,hf,hlo,(ZO rfl).2.2.1,qz rfl⟩,(ZO rfl).1⟩
end
end Go.Ax

/-! Steps of drawn regions: comparisons. -/
namespace Go.Ax
open Go Go.RowKit
section
variable {P:Program} {kn:Kn} {lo n:Nat} {masks:List Nat} {r:List RO} {ks:List Kd} {S:Rg} {H:Hp} {K:Rg→Hp→Prop} {d:Option Nat} {x y:Operand} {a b:Int}
theorem W8 (hx:evS S x=some (.int .i64 a)) (hy:evS S y=some (.int .i64 b)) (h:Zu P kn lo n masks r (.pure :: ks) (Zy S d (.bool (decide (a < b)))) H K):Zu P kn lo n masks (⟨d,none,.cmp .lss x y⟩ :: r) ks S H K:=by
 simp only [Zu,wRO,wRI,hx,hy];exact h
theorem VL (hx:evS S x=some (.int .i64 a)) (hy:evS S y=some (.int .i64 b)) (h:∀ t,(decide (a < b))=t→Zu P kn lo n masks r (.pure :: ks) (Zy S d (.bool t)) H K):Zu P kn lo n masks (⟨d,none,.cmpb .lss x y⟩ :: r) ks S H K:=by
 simp only [Zu,wRO,wRI,hx,hy];exact h
theorem Zc0 (hx:evS S x=some (.int .i64 a)) (hy:evS S y=some (.int .i64 b)) (h:∀ t,(decide (a≤b))=t→Zu P kn lo n masks r (.pure :: ks) (Zy S d (.bool t)) H K):Zu P kn lo n masks (⟨d,none,.cmpb .leq x y⟩ :: r) ks S H K:=by
 simp only [Zu,wRO,wRI,hx,hy];exact h
theorem Zd8 (hx:evS S x=some (.int .i64 a)) (hy:evS S y=some (.int .i64 b)) (h:Zu P kn lo n masks r (.pure :: ks) (Zy S d (.bool (decide (a > b)))) H K):Zu P kn lo n masks (⟨d,none,.cmp .gtr x y⟩ :: r) ks S H K:=by
 simp only [Zu,wRO,wRI,hx,hy];exact h
theorem VF (hx:evS S x=some (.int .i64 a)) (hy:evS S y=some (.int .i64 b)) (h:∀ t,(decide (a > b))=t→Zu P kn lo n masks r (.pure :: ks) (Zy S d (.bool t)) H K):Zu P kn lo n masks (⟨d,none,.cmpb .gtr x y⟩ :: r) ks S H K:=by
 simp only [Zu,wRO,wRI,hx,hy];exact h
theorem ZdM (hx:evS S x=some (.int .i64 a)) (hy:evS S y=some (.int .i64 b)) (h:∀ t,(decide (a ≥ b))=t→Zu P kn lo n masks r (.pure :: ks) (Zy S d (.bool t)) H K):Zu P kn lo n masks (⟨d,none,.cmpb .geq x y⟩ :: r) ks S H K:=by
 simp only [Zu,wRO,wRI,hx,hy];exact h
theorem UN (hx:evS S x=some (.int .i64 a)) (hy:evS S y=some (.int .i64 b)) (h:∀ t,(a == b)=t→Zu P kn lo n masks r (.pure :: ks) (Zy S d (.bool t)) H K):Zu P kn lo n masks (⟨d,none,.cmpb .eql x y⟩ :: r) ks S H K:=by
 simp only [Zu,wRO,wRI,hx,hy];exact h
theorem UF (hx:evS S x=some (.int .i64 a)) (hy:evS S y=some (.int .i64 b)) (h:∀ t,(a != b)=t→Zu P kn lo n masks r (.pure :: ks) (Zy S d (.bool t)) H K):Zu P kn lo n masks (⟨d,none,.cmpb .neq x y⟩ :: r) ks S H K:=by
 simp only [Zu,wRO,wRI,hx,hy];exact h
end
end Go.Ax

/-! Steps of plain regions,one theorem each (written by program,out of those of drawn regions). -/
namespace Go.Ax
open Go Go.RowKit
section
variable {P:Program} {kn:Kn} {lo n:Nat} {r:List RO} {S:Rg} {H:Hp} {K:Rg→Hp→Prop} {d:Option Nat} {x y:Operand} {rd:Bool} {a b:Int}
theorem Zc {ops:List RO} {c:RC} {K:Exit→Rg→Hp→Prop} (h:Zq P kn lo n ops S H fun S' H'=>wC P kn lo n rd c S' H' K):wC P kn lo n rd (.seq (.reg ops) c) S H K:=h
theorem zk {ops:List RO} {K:Exit→Rg→Hp→Prop} (h:Zq P kn lo n ops S H fun S' H'=>K .normal S' H'):wC P kn lo n rd (.reg ops) S H K:=h
theorem Zl {K:Exit→Rg→Hp→Prop} (h:K .normal S H):wC P kn lo n rd .skip S H K:=h
theorem ZjJ {id:Nat} {ops:List RO} {K:Exit→Rg→Hp→Prop} (h:Zq P kn lo n ops S H fun S' H'=>K .normal S' H'):wC P kn lo n rd (.block id (.reg ops)) S H K:=h
theorem ZjG {id:Nat} {ops:List RO} {c:RC} {K:Exit→Rg→Hp→Prop} (h:Zq P kn lo n ops S H fun S' H'=>wC P kn lo n rd c S' H' K):wC P kn lo n rd (.seq (.block id (.reg ops)) c) S H K:=h
theorem YV (h:K S H):Zq P kn lo n [] S H K:=h
theorem WB {id:Nat} {masks:List Nat} {ops:List RO} {K:Exit→Rg→Hp→Prop} (h:Zu P kn lo n masks ops [] S H fun S' H'=>K .normal S' H'):wC P kn lo n rd (.block id (.dreg ops masks)) S H K:=.inl h
theorem VC {id:Nat} {masks:List Nat} {ops:List RO} {c:RC} {K:Exit→Rg→Hp→Prop} (h:Zu P kn lo n masks ops [] S H fun S' H'=>wC P kn lo n rd c S' H' K):wC P kn lo n rd (.seq (.block id (.dreg ops masks)) c) S H K:=.inl h
theorem ZE {id:Nat} {K:Exit→Rg→Hp→Prop} (h:K (.exit id) S H):wC P kn lo n rd (.exit id) S H K:=h
theorem Zb (h:K S H):Zq P kn lo n [] S H K:=h
theorem Y5 {e:TypeId} {v:Value} (hx:evS S x=some v) (h:∀ H1,Keep H H1 []→H1.next=H.next+1→Cl H1 H.next v.cells.toList→Zq P kn lo n r (Zy S d (.pointer (some ⟨H.next,0,none⟩))) H1 K):Zq P kn lo n (⟨d,none,.box e x⟩ :: r) S H K:=by
 simp only [Zq,wRO,wRI,hx]
 intro H1 hH1
 obtain ⟨k1,n1,c1⟩:=ZO hH1
 exact h H1 k1 n1 c1
theorem Za {v:Value} (hx:evS S x=some v) (h:Zq P kn lo n r (Zy S d v) H K):Zq P kn lo n (⟨d,none,.mov x⟩ :: r) S H K:=by
 show match evS S x with | some v=>Zq P kn lo n r (Zy S d v) H K | none=>False
 rw [hx];exact h
theorem Zb0 {a:Addr} (hx:evS S x=some (.pointer (some a))) (h:Zq P kn lo n r (Zy S d (.pointer (some a))) H K):Zq P kn lo n (⟨d,none,.nilc x⟩ :: r) S H K:=by
 simp only [Zq,wRO,wRI,hx];exact h
theorem ZI {b o off:Nat} (hx:evS S x=some (.pointer (some ⟨b,o,none⟩))) (h:Zq P kn lo n r (Zy S d (.pointer (some ⟨b,o+off,none⟩))) H K):Zq P kn lo n (⟨d,none,.addo x off⟩ :: r) S H K:=by
 simp only [Zq,wRO,wRI,hx];exact h
theorem Yi {b o m:Nat} {cs:List Value} {v:Value} (hx:evS S x=some (.pointer (some ⟨b,o,none⟩))) (hc:Rd H b cs) (hv:cs[o]? = some v) (h:Zq P kn lo n r (Zy S d v) H K):Zq P kn lo n (⟨d,none,.ld x m⟩ :: r) S H K:=by
 simp only [Zq,wRO,wRI,hx];exact ⟨cs,v,hc.of,hv,h⟩
theorem Zg {o:Oper} {v:Value} (hd:Vl S o.op.operands.toList=true) (hv:Zn P (frS n S) o=some v) (h:Zq P kn lo n r (Zy S d v) H K):Zq P kn lo n (⟨d,none,.pur o⟩ :: r) S H K:=⟨hd,v,hv,h⟩
theorem Vc {b o m:Nat} {cs:List Value} {v:Value} (hx:evS S x=some (.pointer (some ⟨b,o,none⟩))) (hy:evS S y=some v) (hc:Cl H b cs) (hl:lo≤b) (hm:v.cells.toList.length=m) (h1:v.cells.toList.all one=true) (ho:o+m≤cs.length)
  (h:∀ H1,Keep H H1 [b]→H1.next=H.next→Cl H1 b (Z9 cs o v.cells.toList)→Zq P kn lo n r (Zy S d undef) H1 K):Zq P kn lo n (⟨d,none,.sta x y m⟩ :: r) S H K:=by
 simp only [Zq,wRO,wRI,hx,hy]
 obtain ⟨_,e,l,g⟩:=id hc
 exact ⟨cs,e,l,g,hl,hm,h1,ho,fun H1 hH1=>by obtain ⟨a,b,c⟩:=WK hc hH1;exact h H1 a b c⟩
theorem Wo {b o m:Nat} {cs q:List Value} (hx:evS S x=some (.pointer (some ⟨b,o,none⟩))) (hc:Rd H b cs) (hv:row m cs o=some q) (h:Zq P kn lo n r (Zy S d (.agg q.toArray)) H K):Zq P kn lo n (⟨d,none,.lda x m⟩ :: r) S H K:=by
 simp only [Zq,wRO,wRI,hx];exact ⟨cs,q,hc.of,hv,h⟩
theorem Yz {a:Option Addr} {m c:Nat} (hx:evS S x=some (.slice a m c)) (h:Zq P kn lo n r (Zy S d (.int .i64 (m:Int))) H K):Zq P kn lo n (⟨d,none,.len x⟩ :: r) S H K:=by
 simp only [Zq,wRO,wRI,hx];exact h
theorem ZB {a b:Int} (hx:evS S x=some (.int .i64 a)) (hy:evS S y=some (.int .i64 b)) (h2:InR (a+b)) (h:Zq P kn lo n r (Zy S d (.int .i64 (a+b))) H K):Zq P kn lo n (⟨d,none,.ari .add x y⟩ :: r) S H K:=by
 simp only [Zq,wRO,wRI,hx,hy];exact ⟨h2,h⟩
theorem WP {b o len cap size k:Nat} {kd:IntKind} {j:Int} (hx:evS S x=some (.slice (some ⟨b,o,none⟩) len cap)) (hy:evS S y=some (.int kd j)) (hj:j=(k:Int)) (hk:k < len) (h:Zq P kn lo n r (Zy S d (.pointer (some ⟨b,o+k * size,none⟩))) H K):Zq P kn lo n (⟨d,none,.idx x y size⟩ :: r) S H K:=by
 simp only [Zq,wRO,wRI,hx,hy];exact ⟨k,hj,hk,h⟩
theorem Zx {c:Call} {t:Target} {vs:List Value} {v:Value} {H':Hp} (ht:YO S c=some (t,vs)) (hc:X4 P kn lo t vs H v H') (h:Zq P kn lo n r (Zy S d v) H' K):Zq P kn lo n (⟨d,none,.call c true⟩ :: r) S H K:=by
 simp only [Zq,wRO,wRI,ht,Bool.not_true,Bool.false_and,cond_false,cond_true];exact ⟨v,H',hc,h⟩
theorem V6 {a b:Int} (hx:evS S x=some (.int .i64 a)) (hy:evS S y=some (.int .i64 b)) (h2:InR (a * b)) (h:Zq P kn lo n r (Zy S d (.int .i64 (a * b))) H K):Zq P kn lo n (⟨d,none,.ari .mul x y⟩ :: r) S H K:=by
 simp only [Zq,wRO,wRI,hx,hy];exact ⟨h2,h⟩
theorem Z8 {a b:Int} (hx:evS S x=some (.int .i64 a)) (hy:evS S y=some (.int .i64 b)) (h2:InR (a - b)) (h:Zq P kn lo n r (Zy S d (.int .i64 (a - b))) H K):Zq P kn lo n (⟨d,none,.ari .sub x y⟩ :: r) S H K:=by
 simp only [Zq,wRO,wRI,hx,hy];exact ⟨h2,h⟩
theorem Zd1 {a b:Int} (hx:evS S x=some (.int .i64 a)) (hy:evS S y=some (.int .i64 b)) (h0:0≤a) (h1:0 < b) (h2:InR a) (h:Zq P kn lo n r (Zy S d (.int .i64 (a / b))) H K):Zq P kn lo n (⟨d,none,.ari .quo x y⟩ :: r) S H K:=by
 simp only [Zq,wRO,wRI,hx,hy];exact ⟨h0,h1,h2,h⟩
theorem ZK {g:Nat} {t:Bool} {ri:RI} (hg:lk S g=some (.bool t)) (h:Zq P kn lo n (⟨d,none,ri⟩ :: r) S H K):Zq P kn lo n (⟨d,some (g,t),ri⟩ :: r) S H K:=by
 cases t<;>(simp only [Zq,wRO,hg] at h ⊢;exact h)
theorem Zhb {a b:Int} (t:Bool) (hx:evS S x=some (.int .i64 a)) (hy:evS S y=some (.int .i64 b)) (ht:decide (a < b)=t) (h:Zq P kn lo n r (Zy S d (.bool t)) H K):Zq P kn lo n (⟨d,none,.cmpb .lss x y⟩ :: r) S H K:=by
 simp only [Zq,wRO,wRI,hx,hy];intro u hu;rw [ht] at hu;subst hu;exact h
theorem ZiD {small:Bool} {a b:Int} (hx:evS S x=some (.int .i64 a)) (hy:evS S y=some (.int .i64 b)) (h:Zq P kn lo n r (Zy S d (.int .i64 (bif small then min a b else max a b))) H K):Zq P kn lo n (⟨d,none,.mm small x y⟩ :: r) S H K:=by
 simp only [Zq,wRO,wRI,hx,hy];exact h
theorem ZdU {b o:Nat} {cs:List Value} {v:Value} (hx:evS S x=some (.pointer (some ⟨b,o,none⟩))) (hy:evS S y=some v) (hc:Cl H b cs) (hl:lo≤b) (hv:v.cells.toList=[v]) (h1:one v=true) (ho:o < cs.length)
  (h:∀ H1,Keep H H1 [b]→H1.next=H.next→Cl H1 b (cs.set o v)→Zq P kn lo n r (Zy S d undef) H1 K):Zq P kn lo n (⟨d,none,.st x y⟩ :: r) S H K:=by
 simp only [Zq,wRO,wRI,hx,hy]
 obtain ⟨_,e,l,g⟩:=id hc
 exact ⟨cs,e,l,g,hl,hv,h1,ho,fun H1 hH1=>by obtain ⟨a,b,c⟩:=WK hc hH1;exact h H1 a b c⟩
theorem Zp {g:Nat} {t:Bool} {ri:RI} (hg:lk S g=some (.bool (!t))) (h:Zq P kn lo n r (Zy S d undef) H K):Zq P kn lo n (⟨d,some (g,t),ri⟩ :: r) S H K:=by
 cases t<;>(simp only [Zq,wRO,hg,Bool.not_true,Bool.not_false,cond_true,cond_false] at h ⊢;exact h)
theorem WQ {e:TypeId} {z:List Value} (h:∀ H1,Keep H H1 []→H1.next=H.next+1→Cl H1 H.next z→Zq P kn lo n r (Zy S d (.pointer (some ⟨H.next,0,none⟩))) H1 K):Zq P kn lo n (⟨d,none,.alc e z⟩ :: r) S H K:=by
 simp only [Zq,wRO,wRI]
 intro H1 hH1
 obtain ⟨k1,n1,c1⟩:=ZO hH1
 exact h H1 k1 n1 c1
theorem X0 {o:Oper} {v:Value} {H':Hp} {k:Kd} (hd:Vl S o.op.operands.toList=true) (hp:Zn P (frS n S) o=none) (hh:Zv P lo (frS n S) H o=some (.val v H',k)) (hb:∀ b,k=.read b→b < H.next)
  (h:Zq P kn lo n r (Zy S d v) H' K):Zq P kn lo n (⟨d,none,.mem o⟩ :: r) S H K:=⟨hd,.inr ⟨hp,v,H',k,hh,hb,h⟩⟩
theorem ZM (hx:evS S x=some (.int .i64 a)) (hy:evS S y=some (.int .i64 b)) (h:Zq P kn lo n r (Zy S d (.bool (decide (a < b)))) H K):Zq P kn lo n (⟨d,none,.cmp .lss x y⟩ :: r) S H K:=by
 simp only [Zq,wRO,wRI,hx,hy];exact h
theorem Xi (hx:evS S x=some (.int .i64 a)) (hy:evS S y=some (.int .i64 b)) (h:∀ t,(decide (a < b))=t→Zq P kn lo n r (Zy S d (.bool t)) H K):Zq P kn lo n (⟨d,none,.cmpb .lss x y⟩ :: r) S H K:=by
 simp only [Zq,wRO,wRI,hx,hy];exact h
theorem Wl (hx:evS S x=some (.int .i64 a)) (hy:evS S y=some (.int .i64 b)) (h:Zq P kn lo n r (Zy S d (.bool (decide (a≤b)))) H K):Zq P kn lo n (⟨d,none,.cmp .leq x y⟩ :: r) S H K:=by
 simp only [Zq,wRO,wRI,hx,hy];exact h
theorem jN (hx:evS S x=some (.int .i64 a)) (hy:evS S y=some (.int .i64 b)) (h:∀ t,(decide (a≤b))=t→Zq P kn lo n r (Zy S d (.bool t)) H K):Zq P kn lo n (⟨d,none,.cmpb .leq x y⟩ :: r) S H K:=by
 simp only [Zq,wRO,wRI,hx,hy];exact h
theorem Vo (hx:evS S x=some (.int .i64 a)) (hy:evS S y=some (.int .i64 b)) (h:Zq P kn lo n r (Zy S d (.bool (decide (a > b)))) H K):Zq P kn lo n (⟨d,none,.cmp .gtr x y⟩ :: r) S H K:=by
 simp only [Zq,wRO,wRI,hx,hy];exact h
theorem Zd0 (hx:evS S x=some (.int .i64 a)) (hy:evS S y=some (.int .i64 b)) (h:Zq P kn lo n r (Zy S d (.bool (decide (a ≥ b)))) H K):Zq P kn lo n (⟨d,none,.cmp .geq x y⟩ :: r) S H K:=by
 simp only [Zq,wRO,wRI,hx,hy];exact h
theorem Jx (hx:evS S x=some (.int .i64 a)) (hy:evS S y=some (.int .i64 b)) (h:Zq P kn lo n r (Zy S d (.bool (a == b))) H K):Zq P kn lo n (⟨d,none,.cmp .eql x y⟩ :: r) S H K:=by
 simp only [Zq,wRO,wRI,hx,hy];exact h
theorem Zaa (hx:evS S x=some (.int .i64 a)) (hy:evS S y=some (.int .i64 b)) (h:∀ t,(a == b)=t→Zq P kn lo n r (Zy S d (.bool t)) H K):Zq P kn lo n (⟨d,none,.cmpb .eql x y⟩ :: r) S H K:=by
 simp only [Zq,wRO,wRI,hx,hy];exact h
theorem UO (hx:evS S x=some (.int .i64 a)) (hy:evS S y=some (.int .i64 b)) (h:Zq P kn lo n r (Zy S d (.bool (a != b))) H K):Zq P kn lo n (⟨d,none,.cmp .neq x y⟩ :: r) S H K:=by
 simp only [Zq,wRO,wRI,hx,hy];exact h
theorem jg (hx:evS S x=some (.int .i64 a)) (hy:evS S y=some (.int .i64 b)) (h:∀ t,(a != b)=t→Zq P kn lo n r (Zy S d (.bool t)) H K):Zq P kn lo n (⟨d,none,.cmpb .neq x y⟩ :: r) S H K:=by
 simp only [Zq,wRO,wRI,hx,hy];exact h
theorem ZX {c:Call} {f:FuncId} {v:Value} {args:List Value} {t0:Bool} (ht:YO S c=some (.fn (.func f) #[],v :: args)) (h:∃ H',FnX P kn lo f (v :: args) H (.bool t0) H'∧Keep H H' [])
  (hk:∀ t H',t0=t→Keep H H' []→Zq P kn lo n r (Zy S d (.bool t)) H' K) (hs:WI f=false:=by rfl):Zq P kn lo n (⟨d,none,.call c true⟩ :: r) S H K:=by
 obtain ⟨H',hf,k⟩:=h
 exact Zx ht (Zi hf hs) (hk t0 H' rfl k)

end
end Go.Ax

/-! The evaluator for all inputs,10: operations that are left as_ plain ones (arithmetic that may wrap). -/
namespace Go.Ax
open Go Go.RowKit

section
variable {P:Program} {kn:Kn} {lo n:Nat} {rd:Bool}
end
end Go.Ax


/-! The evaluator for all inputs: what is given lies in blocks that are only read. -/
namespace Go.Ax
open Go Go.RowKit

structure Imp where
 blk:Nat
 off:Nat
 cs:List Value

theorem Zf9 (f:Nat→Option Ob):∀ n,∃ t:Tr Ob,∀ b,t.get b=if b < n then f b else none
 | 0=>⟨.nil,fun b=>by simp [Tr.get_nil]⟩
 | n+1=>by
  obtain ⟨t,h⟩:=Zf9 f n
  cases e:f n with
  | none=>
   refine ⟨t,fun b=>?_⟩
   rw [h]
   by_cases hb:b < n
   ·rw [if_pos hb,if_pos (by omega)]
   ·rw [if_neg hb]
    by_cases hb2:b < n+1
    ·rw [if_pos hb2,show b=n by omega,e]
    ·rw [if_neg hb2]
  | some o=>
   refine ⟨t.set n o,fun b=>?_⟩
   rw [Tr.get_set,h]
   by_cases hb:b=n
   ·subst hb;rw [if_pos rfl,if_pos (by omega),e]
   ·rw [if_neg hb]
    by_cases hb2:b < n
    ·rw [if_pos hb2,if_pos (by omega)]
    ·rw [if_neg hb2,if_neg (by omega)]

section
variable {P:Program}
end
end Go.Ax

/-! Code whose outcome hangs on what is drawn (ranges over maps): triples over the machine itself. -/
namespace Go.Ax
open Go Go.RowKit
section
variable {P:Program} {kn:Kn} {lo n:Nat} {rd:Bool}

structure Snd (P:Program) (kn:Kn):Prop where
 hm:P.follows .mixedOrders=true
 hN:NoCount P
 hk:Known P kn

def Yn (P:Program) (lo n:Nat) (rd:Bool) (c:Code) (S:Rg) (H:Hp) (K:Exit→Rg→Hp→Prop):Prop:=
 ∀ (base:Nat) (r:Ren) (w:World) (A:Fr) (tmps:Array Value) (ds:List Deferred) (rdv:Option Nat) (cs:List Frame) (k:List Item),
  lo≤H.next→Rel P r base H w→FrR r A tmps ds rdv→A.n=n→A.round.isSome=rd→ZT S A.T→
  ∃ e S' H' T',K e S' H'∧ZT S' T'∧Z1 P lo base r H w (lone (mkF A.fn tmps (.code c :: k) ds .normal rdv) cs w) .normal rdv (fun _=>cs) k A e { A with T:=T' } H' none
def Up (P:Program) (lo n:Nat) (rd:Bool) (ops:Array Oper) (l:List Nat) (S:Rg) (H:Hp) (K:Exit→Rg→Hp→Prop):Prop:=
 ∀ (base:Nat) (r:Ren) (w:World) (A:Fr) (tmps:Array Value) (ds:List Deferred) (rdv:Option Nat) (cs:List Frame) (k:List Item),
  lo≤H.next→Rel P r base H w→FrR r A tmps ds rdv→A.n=n→A.round.isSome=rd→ZT S A.T→
  ∃ e S' H' T',K e S' H'∧ZT S' T'∧Z1 P lo base r H w (lone (mkF A.fn tmps (.inRegion ops l :: k) ds .normal rdv) cs w) .normal rdv (fun _=>cs) k A e { A with T:=T' } H' none

theorem Yn.of (s:Snd P kn) {c:Code} {S:Rg} {H:Hp} {K:Exit→Rg→Hp→Prop} (h:Tri P kn lo n rd c S H K):Yn P lo n rd c S H K:=by
 intro base r w A tmps ds rdv cs k hlo hrel hF hn hr hS
 obtain ⟨e,S',H',T',hK,hk,N,run⟩:=h A hn hr hS
 have q:=(yZ (rd:=rdv) (kind:=.normal) (K:=fun _=>cs) (base:=base) (QW s.hm s.hN s.hk N N).1 (QG P kn N N).2 s.hm (.inl ⟨rfl,fun _=>rfl⟩) N).1 c k r w H A tmps ds none none e _ H' none (run N N N (Nat.le_refl _) (Nat.le_refl _) (Nat.le_refl _)) hlo hrel hF rfl (fun _=>rfl)
 exact ⟨e,S',H',T',hK,hk,q⟩
theorem Yn.mono {c:Code} {S:Rg} {H:Hp} {K K':Exit→Rg→Hp→Prop} (h:Yn P lo n rd c S H K) (hk:∀ e S' H',K e S' H'→K' e S' H'):Yn P lo n rd c S H K':=by
 intro base r w A tmps ds rdv cs k hlo hrel hF hn hr hS
 obtain ⟨e,S',H',T',a,b⟩:=h base r w A tmps ds rdv cs k hlo hrel hF hn hr hS
 exact ⟨e,S',H',T',hk _ _ _ a,b⟩
theorem Yn.forget {c:Code} {S S0:Rg} {H:Hp} {K:Exit→Rg→Hp→Prop} (h:Yn P lo n rd c S0 H K) (hs:∀ j v,lk S0 j=some v→lk S j=some v):Yn P lo n rd c S H K:=
 fun base r w A tmps ds rdv cs k hlo hrel hF hn hr hS=>h base r w A tmps ds rdv cs k hlo hrel hF hn hr fun j v e=>hS j v (hs j v e)

theorem Z1.go {base:Nat} {r:Ren} {H H1:Hp} {w:World} {M:Machine} {rdv:Option Nat} {cs:List Frame} {k k1:List Item} {A:Fr} {T1:Tr Value} {X:Exit→Hp→Tr Value→Prop} (hlo:lo≤H.next)
  (h:Z1 P lo base r H w M .normal rdv (fun _=>cs) k1 A .normal { A with T:=T1 } H1 none)
  (go:∀ r1 w1 tm1 ds1,lo≤H1.next→Rel P r1 base H1 w1→FrR r1 { A with T:=T1 } tm1 ds1 rdv→
   ∃ e H' T',X e H' T'∧Z1 P lo base r1 H1 w1 (lone (mkF A.fn tm1 k1 ds1 .normal rdv) cs w1) .normal rdv (fun _=>cs) k { A with T:=T1 } e { A with T:=T' } H' none) :
  ∃ e H' T',X e H' T'∧Z1 P lo base r H w M .normal rdv (fun _=>cs) k A e { A with T:=T' } H' none:=by
 obtain ⟨r1,w1,tm1,ds1,pc1,post,hF1,hsm,hp1,harr,_⟩:=h
 have harr:Steps P M (lone (mkF A.fn tm1 k1 ds1 .normal rdv) cs w1):=harr
 obtain ⟨e,H',T',hX,q⟩:=go r1 w1 tm1 ds1 (Nat.le_trans hlo post.next) post.rel hF1
 exact ⟨e,H',T',hX,Z1.of_steps harr (Z1.after hlo post hsm q)⟩

theorem Yn.skip {S:Rg} {H:Hp} {K:Exit→Rg→Hp→Prop} (h:K .normal S H):Yn P lo n rd .skip S H K:=
 fun base r w A tmps ds rdv cs k hlo hrel hF hn hr hS=>⟨.normal,S,H,A.T,h,hS,r,w,tmps,ds,none,Zt.refl hrel,hF,.refl _,rfl,Steps.one Zbt,fun _=>rfl⟩
theorem Yn.label {l:Nat} {S:Rg} {H:Hp} {K:Exit→Rg→Hp→Prop} (h:K .normal S H):Yn P lo n rd (.label l) S H K:=
 fun base r w A tmps ds rdv cs k hlo hrel hF hn hr hS=>⟨.normal,S,H,A.T,h,hS,r,w,tmps,ds,none,Zt.refl hrel,hF,.refl _,rfl,Steps.one Zak,fun _=>rfl⟩
theorem Yn.exit {id:Nat} {S:Rg} {H:Hp} {K:Exit→Rg→Hp→Prop} (h:K (.exit id) S H):Yn P lo n rd (.exit id) S H K:=
 fun base r w A tmps ds rdv cs k hlo hrel hF hn hr hS=>⟨.exit id,S,H,A.T,h,hS,r,w,tmps,ds,none,Zt.refl hrel,hF,.refl _,rfl,⟨k,rfl,.refl _ _⟩,fun _=>rfl⟩
theorem Yn.ret {S:Rg} {H:Hp} {K:Exit→Rg→Hp→Prop} (h:K .ret S H):Yn P lo n rd .ret S H K:=
 fun base r w A tmps ds rdv cs k hlo hrel hF hn hr hS=>⟨.ret,S,H,A.T,h,hS,r,w,tmps,ds,none,Zt.refl hrel,hF,.refl _,rfl,⟨k,.refl _ _⟩,fun _=>rfl⟩
theorem Yn.seq {x y:Code} {S:Rg} {H:Hp} {K:Exit→Rg→Hp→Prop} (h:Yn P lo n rd x S H fun e S' H'=>match e with | .normal=>Yn P lo n rd y S' H' K | e=>K e S' H'):Yn P lo n rd (.seq x y) S H K:=by
 intro base r w A tmps ds rdv cs k hlo hrel hF hn hr hS
 obtain ⟨e,S1,H1,T1,a,b,q⟩:=h base r w A tmps ds rdv cs (.code y :: k) hlo hrel hF hn hr hS
 cases e with
 | normal=>
  obtain ⟨e2,H2,T2,⟨S2,x1,x2⟩,q2⟩:=q.go (X:=fun e H' T'=>∃ S',K e S' H'∧ZT S' T') hlo fun r1 w1 tm1 ds1 hlo1 hrel1 hF1=>by
   obtain ⟨e2,S2,H2,T2,a2,b2,q2⟩:=a base r1 w1 { A with T:=T1 } tm1 ds1 rdv cs k hlo1 hrel1 hF1 hn hr b
   exact ⟨e2,H2,T2,⟨S2,a2,b2⟩,q2⟩
  exact ⟨e2,S2,H2,T2,x1,x2,Z1.of_steps (Steps.one zm) q2⟩
 | _=>exact ⟨_,S1,H1,T1,a,b,Z1.of_steps (Steps.one zm) (q.left (fun id _=>by simp [exitTo]) (by simp))⟩
theorem Yn.cond {o:Operand} {x y:Code} {t:Bool} {S:Rg} {H:Hp} {K:Exit→Rg→Hp→Prop} (ho:evS S o=some (.bool t)) (h:Yn P lo n rd (if t then x else y) S H K):Yn P lo n rd (.cond o x y) S H K:=by
 intro base r w A tmps ds rdv cs k hlo hrel hF hn hr hS
 have hv:=W1 (evR hF.T (ZU hS ho))
 obtain ⟨e,S1,H1,T1,a,b,q⟩:=h base r w A tmps ds rdv cs k hlo hrel hF hn hr hS
 exact ⟨e,S1,H1,T1,a,b,Z1.of_steps (Steps.one (jb hv)) q⟩
theorem Yn.block {id:Nat} {b:Code} {S:Rg} {H:Hp} {K:Exit→Rg→Hp→Prop} (h:Yn P lo n rd b S H fun e S' H'=>match e with | .exit j=>(bif Nat.beq j id then K .normal S' H' else K (.exit j) S' H') | e=>K e S' H'):Yn P lo n rd (.block id b) S H K:=by
 intro base r w A tmps ds rdv cs k hlo hrel hF hn hr hS
 obtain ⟨e,S1,H1,T1,a,b,q⟩:=h base r w A tmps ds rdv cs (.inBlock id :: k) hlo hrel hF hn hr hS
 cases e with
 | normal=>
  refine ⟨.normal,S1,H1,T1,a,b,Z1.of_steps (Steps.one Wp) ?_⟩
  obtain ⟨r1,w1,tm1,ds1,pc1,p1,p2,p3,p4,p5,p6⟩:=q
  exact ⟨r1,w1,tm1,ds1,pc1,p1,p2,p3,p4,Steps.trans p5 (Steps.one Qu),p6⟩
 | exit j=>
  simp only at a
  cases hj:Nat.beq j id with
  | true=>
   rw [hj] at a
   have hji:j=id:=Nat.eq_of_beq_eq_true hj
   subst hji
   obtain ⟨r',w',tmps',ds',pc',h1,h2,h3,h4,⟨kx,hk,hs⟩,h6⟩:=q
   have hk':exitTo j kx=some k:=by rw [hk];simp [exitTo]
   exact ⟨.normal,S1,H1,T1,a,b,Z1.of_steps (Steps.one Wp) ⟨r',w',tmps',ds',pc',h1,h2,h3,h4,hs.trans (Steps.one (ja hk')),h6⟩⟩
  | false=>
   rw [hj] at a
   refine ⟨.exit j,S1,H1,T1,a,b,Z1.of_steps (Steps.one Wp) (q.left (fun id' hid=>?_) (by simp))⟩
   cases hid
   have hne:id≠j:=by rintro rfl;simp at hj
   simp [exitTo,hne]
 | _=>exact ⟨_,S1,H1,T1,a,b,Z1.of_steps (Steps.one Wp) (q.left (fun id' hid=>by cases hid) (by simp))⟩
theorem Yn.scope {c:Code} {S:Rg} {H:Hp} {K:Exit→Rg→Hp→Prop} (h:Yn P lo n rd c S H K):Yn P lo n rd (.scope c) S H K:=by
 intro base r w A tmps ds rdv cs k hlo hrel hF hn hr hS
 obtain ⟨e,S1,H1,T1,a,b,q⟩:=h base r w A tmps ds rdv cs (.inScope c :: k) hlo hrel hF hn hr hS
 cases e with
 | normal=>
  refine ⟨.normal,S1,H1,T1,a,b,Z1.of_steps (Steps.one Ut) ?_⟩
  obtain ⟨r1,w1,tm1,ds1,pc1,p1,p2,p3,p4,p5,p6⟩:=q
  exact ⟨r1,w1,tm1,ds1,pc1,p1,p2,p3,p4,Steps.trans p5 (Steps.one QD),p6⟩
 | _=>exact ⟨_,S1,H1,T1,a,b,Z1.of_steps (Steps.one Ut) (q.left (fun id _=>by simp [exitTo]) (by simp))⟩
theorem Yn.loop {b:Code} {K:Exit→Rg→Hp→Prop} (I:Nat→Rg→Hp→Prop)
  (hb:∀ k S H,I k S H→Yn P lo n rd b S H fun e S' H'=>match e with | .normal=>∃ k',k' < k∧I k' S' H' | e=>K e S' H') :
  ∀ k S H,I k S H→Yn P lo n rd (.loop b) S H K:=by
 have key:∀ m S H,I m S H→∀ (base:Nat) (r:Ren) (w:World) (A:Fr) (tmps:Array Value) (ds:List Deferred) (rdv:Option Nat) (cs:List Frame) (k:List Item),
   lo≤H.next→Rel P r base H w→FrR r A tmps ds rdv→A.n=n→A.round.isSome=rd→ZT S A.T→
   ∃ e H' T',(∃ S',K e S' H'∧ZT S' T')∧Z1 P lo base r H w (lone (mkF A.fn tmps (.code b :: .inLoop b :: k) ds .normal rdv) cs w) .normal rdv (fun _=>cs) k A e { A with T:=T' } H' none:=by
  intro m
  induction m using Nat.strongRecOn with
  | ind m ih=>
   intro S H hI base r w A tmps ds rdv cs k hlo hrel hF hn hr hS
   obtain ⟨e,S1,H1,T1,a,b',q⟩:=hb m S H hI base r w A tmps ds rdv cs (.inLoop b :: k) hlo hrel hF hn hr hS
   cases e with
   | normal=>
    obtain ⟨m',hm',hI'⟩:=a
    exact q.go (X:=fun e H' T'=>∃ S',K e S' H'∧ZT S' T') hlo fun r1 w1 tm1 ds1 hlo1 hrel1 hF1=>by
     obtain ⟨e2,H2,T2,hX,q2⟩:=ih m' hm' S1 H1 hI' base r1 w1 { A with T:=T1 } tm1 ds1 rdv cs k hlo1 hrel1 hF1 hn hr b'
     exact ⟨e2,H2,T2,hX,Z1.of_steps (Steps.one yf) q2⟩
   | _=>exact ⟨_,H1,T1,⟨S1,a,b'⟩,q.left (fun id _=>by simp [exitTo]) (by simp)⟩
 intro m S H hI base r w A tmps ds rdv cs k hlo hrel hF hn hr hS
 obtain ⟨e,H',T',⟨S',x1,x2⟩,q⟩:=key m S H hI base r w A tmps ds rdv cs k hlo hrel hF hn hr hS
 exact ⟨e,S',H',T',x1,x2,Z1.of_steps (Steps.one ZbJ) q⟩

def Wd (P:Program) (lo:Nat) (t:Target) (args:List Value) (H:Hp) (Q:Value→Hp→Prop):Prop:=
 ∀ (r:Ren) (base:Nat) (w:World) (t':Target) (args':Array Value),lo≤H.next→Rel P r base H w→TgR r t t'→LR r args args'.toList→
  ∃ nx fr0,(invoke t' args').run P w=.ok nx w∧Wq P .normal nx=some fr0∧∀ c rest,∃ v H' r' w',Q v H'∧Zt P lo base r H w r' H' w'∧∃ v',VR r' v v'∧Steps P (lone fr0 (c :: rest) w) (lone (c.finish v') rest w')
theorem Wd.of (s:Snd P kn) {t:Target} {args:List Value} {H:Hp} {v:Value} {H':Hp} (h:X4 P kn lo t args H v H'):Wd P lo t args H fun u H1=>u=v∧H1=H':=by
 obtain ⟨N,h⟩:=h
 intro r base w t' args' hlo hrel ht ha
 obtain ⟨nx,fr0,a,b,c⟩:=(QW s.hm s.hN s.hk N N).1 lo t args H _ _ (h N N (Nat.le_refl _) (Nat.le_refl _)) hlo r base w t' args' hrel ht ha
 refine ⟨nx,fr0,a,b,fun c0 rest=>?_⟩
 obtain ⟨r',w',hp,v',hv,hs⟩:=c c0 rest
 exact ⟨v,H',r',w',⟨rfl,rfl⟩,hp,v',hv,hs⟩
theorem Wd.mono {t:Target} {args:List Value} {H:Hp} {Q Q':Value→Hp→Prop} (h:Wd P lo t args H Q) (hq:∀ v H',Q v H'→Q' v H'):Wd P lo t args H Q':=by
 intro r base w t' args' hlo hrel ht ha
 obtain ⟨nx,fr0,a,b,c⟩:=h r base w t' args' hlo hrel ht ha
 refine ⟨nx,fr0,a,b,fun c0 rest=>?_⟩
 obtain ⟨v,H',r',w',q,x⟩:=c c0 rest
 exact ⟨v,H',r',w',hq _ _ q,x⟩

theorem Up.val {ops:Array Oper} {i:Nat} {rest:List Nat} {o:Oper} {S:Rg} {H:Hp} {K:Exit→Rg→Hp→Prop} (ho:ops[i]? = some o) (hd:∀ c,o.op≠.defer c)
  (h:∀ (base:Nat) (r:Ren) (w:World) (A:Fr) (tmps:Array Value) (ds:List Deferred) (rdv:Option Nat),lo≤H.next→Rel P r base H w→FrR r A tmps ds rdv→A.n=n→ZT S A.T→
   Region.wanted o (yielded ops tmps)=true∧∃ v H1 r1 v' w1 A1,(execOp (evT tmps) o).run P w=.ok (.value v') w1∧VR r1 v v'∧Zt P lo base r H w r1 H1 w1∧A.put o.dst v=some A1∧A1 = { A with T:=YD A.T o.dst v }∧Up P lo n rd ops rest (Zy S o.dst v) H1 K) :
  Up P lo n rd ops (i :: rest) S H K:=by
 intro base r w A tmps ds rdv cs k hlo hrel hF hn hr hS
 obtain ⟨hw,v,H1,r1,v',w1,A1,hrun,hv,hpost,hput,hA1,hrest⟩:=h base r w A tmps ds rdv hlo hrel hF hn hS
 obtain ⟨hF1,hs1,_⟩:=Zdf (hF.mono hpost.le) hput hv
 subst hA1
 obtain ⟨e,S',H',T',a,b,q⟩:=hrest base r1 w1 _ _ ds rdv cs k (Nat.le_trans hlo hpost.next) hpost.rel hF1 hn hr (ZL hS o.dst v)
 exact ⟨e,S',H',T',a,b,Z1.of_steps (Steps.one (YX ho hw (.inr hd) hrun)) (Z1.after hlo hpost hs1 q)⟩
theorem Up.nil {ops:Array Oper} {S:Rg} {H:Hp} {K:Exit→Rg→Hp→Prop} (h:K .normal S H):Up P lo n rd ops [] S H K:=
 fun base r w A tmps ds rdv cs k hlo hrel hF hn hr hS=>⟨.normal,S,H,A.T,h,hS,r,w,tmps,ds,none,Zt.refl hrel,hF,.refl _,rfl,Steps.one VE,fun _=>rfl⟩
theorem Yn.region {id:Nat} {ops:Array Oper} {S:Rg} {H:Hp} {K:Exit→Rg→Hp→Prop} (h:Up P lo n rd ops (List.range ops.size) S H K):Yn P lo n rd (.region id ops false) S H K:=by
 intro base r w A tmps ds rdv cs k hlo hrel hF hn hr hS
 obtain ⟨e,S1,H1,T1,a,b,q⟩:=h base r w A tmps ds rdv cs k hlo hrel hF hn hr hS
 exact ⟨e,S1,H1,T1,a,b,Z1.of_steps (Steps.one yr) q⟩
end
end Go.Ax

/-! Maps whose keys and values are Z0: what look-ups,entries,and updates come to. -/
namespace Go.Ax
open Go Go.RowKit
noncomputable section
section
variable {P:Program} {α:Type} [DecidableEq α]
theorem YC {β γ:Type} (f:β→Sem γ):∀ (x:Sem β),ZH P (x >>= f)=(ZH P x).bind fun a=>ZH P (f a):=by
 intro x
 induction x with
 | pure a=>rfl
 | program k ih=>exact ih P
 | _=>rfl
theorem XZ {β:Type} (a:β):ZH P (pure a:Sem β)=some a:=rfl
theorem Zg8 {β:Type} {c:Prop} [Decidable c] (a b:Sem β):ZH P (if c then a else b)=if c then ZH P a else ZH P b:=by split<;>rfl
theorem Wh {t:TypeId} {d:TypeDesc} (hu:P.underlying t=some d):ZH P (underlying t)=some d:=by
 simp only [underlying,YC,program,ZH,hu,Option.bind_some]
 rfl
structure XP (P:Program) (t:TypeId) (enc:α→Value):Prop where
 fl:∀ a,Z0 (enc a)=true
 chk:∀ a e,ZH P (Instr.checkKey e 10000 t (enc a))=some ()
 now:∃ d,P.underlying t=some d∧((∀ a b,Instr.sameNow d (enc a) (enc b)=some (decide (a=b)))∨((∀ a b,Instr.sameNow d (enc a) (enc b)=none)∧∀ a b,ZH P (Op.equal t (enc a) (enc b))=some (decide (a=b))))
 bits:∀ a,Instr.sameBits 10000 (enc a) (enc a)=true
abbrev ML (α:Type):=List (α × Value × Nat)
def Xn (enc:α→Value) (x:α × Value × Nat):MapEntry:=⟨enc x.1,x.2.1,x.2.2⟩
def mEs (enc:α→Value) (L:ML α):Array MapEntry:=(L.map (Xn enc)).toArray
def Wf (a:α):ML α→Nat→Option (Nat × Value)
 | [],_=>none
 | x :: r,i=>if a=x.1 then some (i,x.2.1) else Wf a r (i+1)
def Yg (a:α):ML α→Option Value
 | []=>none
 | x :: r=>if a=x.1 then some x.2.1 else Yg a r
def WS (a:α) (c:Nat):ML α→Nat
 | []=>c
 | x :: r=>if a=x.1 then x.2.2 else WS a c r
def Kv (a:α) (z:Value) (c:Nat):ML α→ML α
 | []=>[(a,z,c)]
 | x :: r=>if a=x.1 then x :: r else x :: Kv a z c r
def Xo (a:α) (v:Value) (c:Nat):ML α→ML α
 | []=>[(a,v,c)]
 | x :: r=>if a=x.1 then (x.1,v,x.2.2) :: r else x :: Xo a v c r
def Y8 (a:α) (c:Nat) (L:ML α):Nat:=if (Yg a L).isSome then c else c+1
def qh (b:Nat) (v:Value):ML α→ML α
 | []=>[]
 | x :: r=>if b=x.2.2 then (x.1,v,x.2.2) :: r else x :: qh b v r
structure WfA (L:ML α) (c:Nat):Prop where
 keys:(L.map (·.1)).Nodup
 borns:(L.map (·.2.2)).Nodup
 lt:∀ x∈L,x.2.2 < c
theorem VI (a:α):∀ (L:ML α) (k:Nat),(Wf a L k).map (·.2)=Yg a L
 | [],k=>rfl
 | x :: r,k=>by
  simp only [Wf,Yg]
  split
  ·rfl
  ·exact VI a r (k+1)
theorem je {a:α}:∀ {L:ML α},Yg a L=none↔∀ x∈L,a≠x.1
 | []=>by simp [Yg]
 | x :: r=>by
  simp only [Yg]
  split
  ·rename_i h;simp [h]
  ·rename_i h;rw [je];simp [h]
theorem qV {a:α} {v:Value}:∀ {L:ML α},Yg a L=some v→∃ b,(a,v,b)∈L
 | [],h=>by simp [Yg] at h
 | x :: r,h=>by
  simp only [Yg] at h
  split at h
  ·rename_i e;cases h;exact ⟨x.2.2,by simp [e]⟩
  ·obtain ⟨b,q⟩:=qV h;exact ⟨b,by simp [q]⟩
theorem Q8 {L:ML α} {c:Nat} (hw:WfA L c):∀ x∈L,Yg x.1 L=some x.2.1:=by
 have:=hw.keys
 clear hw
 induction L with
 | nil=>intro x h;cases h
 | cons y r ih=>
  intro x hx
  simp only [Yg]
  rcases List.mem_cons.1 hx with rfl | hx
  ·rw [if_pos rfl]
  ·simp only [List.map_cons,List.nodup_cons] at this
   rw [if_neg (fun e:x.1=y.1=>this.1 (List.mem_map.2 ⟨x,hx,e⟩))]
   exact ih this.2 x hx
theorem V8 (a a':α) (v:Value) (c:Nat):∀ (L:ML α),Yg a' (Xo a v c L)=if a'=a then some v else Yg a' L
 | []=>by simp [Xo,Yg]
 | x :: r=>by
  simp only [Xo]
  split
  ·rename_i h
   subst h
   simp only [Yg]
   split<;>rfl
  ·rename_i h
   simp only [Yg]
   split
   ·rename_i e
    subst e
    rw [if_neg (fun e=>h e.symm)]
   ·exact V8 a a' v c r
theorem K7 (a:α) (v:Value) (c:Nat):∀ (L:ML α) b,b∈(Xo a v c L).map (·.1)↔b=a∨b∈L.map (·.1)
 | [],b=>by simp [Xo]
 | x :: r,b=>by
  simp only [Xo]
  split
  ·rename_i h;subst h;simp
  ·simp only [List.map_cons,List.mem_cons,K7 a v c r b]
   constructor
   ·rintro (h | h | h)<;>simp [h]
   ·rintro (h | h | h)<;>simp [h]
theorem yG (a:α) (v:Value) (c:Nat):∀ (L:ML α) b,b∈(Xo a v c L).map (·.2.2)→b=c∨b∈L.map (·.2.2)
 | [],b=>by simp [Xo]
 | x :: r,b=>by
  simp only [Xo]
  split
  ·intro h;exact .inr (by simpa using h)
  ·intro h
   simp only [List.map_cons,List.mem_cons] at h ⊢
   rcases h with h | h
   ·exact .inr (.inl h)
   ·rcases yG a v c r b h with h | h
    ·exact .inl h
    ·exact .inr (.inr h)
theorem WfA.nil:WfA ([]:ML α) 0:=⟨List.nodup_nil,List.nodup_nil,fun x h=>by cases h⟩
theorem WfA.put {L:ML α} {c:Nat} (h:WfA L c) (a:α) (v:Value):WfA (Xo a v c L) (Y8 a c L):=by
 have key:∀ (L:ML α),(L.map (·.1)).Nodup→(L.map (·.2.2)).Nodup→(∀ x∈L,x.2.2 < c)→
   ((Xo a v c L).map (·.1)).Nodup∧((Xo a v c L).map (·.2.2)).Nodup∧∀ x∈Xo a v c L,x.2.2 < Y8 a c L:=by
  intro L
  induction L with
  | nil=>intro _ _ _;simp [Xo,Y8,Yg]
  | cons x r ih=>
   intro h1 h2 h3
   simp only [List.map_cons,List.nodup_cons] at h1 h2
   simp only [Xo]
   split
   ·rename_i e
    subst e
    refine ⟨by simp only [List.map_cons,List.nodup_cons];exact h1,by simp only [List.map_cons,List.nodup_cons];exact h2,fun y hy=>?_⟩
    have hc:Y8 x.1 c (x :: r)=c:=by simp [Y8,Yg]
    rw [hc]
    rcases List.mem_cons.1 hy with rfl | hy
    ·exact h3 x (by simp)
    ·exact h3 y (by simp [hy])
   ·rename_i e
    obtain ⟨p,q,s⟩:=ih h1.2 h2.2 (fun y hy=>h3 y (by simp [hy]))
    have hc:Y8 a c (x :: r)=Y8 a c r:=by simp [Y8,Yg,e]
    rw [hc]
    have hge:c≤Y8 a c r:=by unfold Y8;split<;>omega
    refine ⟨?_,?_,fun y hy=>?_⟩
    ·simp only [List.map_cons,List.nodup_cons,K7]
     exact ⟨by rintro (q | q);exact e q.symm;exact h1.1 q,p⟩
    ·simp only [List.map_cons,List.nodup_cons]
     refine ⟨fun hm=>?_,q⟩
     rcases yG a v c r _ hm with q | q
     ·have:=h3 x (by simp);omega
     ·exact h2.1 q
    ·rcases List.mem_cons.1 hy with rfl | hy
     ·have:=h3 y (by simp);omega
     ·exact s y hy
 obtain ⟨p,q,s⟩:=key L h.keys h.borns h.lt
 exact ⟨p,q,s⟩
section
variable {t:TypeId} {enc:α→Value}
theorem K5 {d:TypeDesc} (h:∀ a b:α,Instr.sameNow d (enc a) (enc b)=some (decide (a=b))) (a:α):∀ (L:ML α) (i:Nat),Instr.findNow d (enc a) (L.map (Xn enc)) i=some (Wf a L i)
 | [],i=>rfl
 | x :: r,i=>by
  simp only [List.map_cons,Instr.findNow,Xn,h,Wf]
  by_cases e:a=x.1
  ·simp [e]
  ·rw [decide_eq_false e,if_neg e]
   exact K5 h a r (i+1)
theorem zL (h:∀ a b:α,ZH P (Op.equal t (enc a) (enc b))=some (decide (a=b))) (a:α):∀ (L:ML α) (i:Nat),ZH P (Instr.findAsking t (enc a) (L.map (Xn enc)) i)=some (Wf a L i)
 | [],i=>rfl
 | x :: r,i=>by
  simp only [List.map_cons,Instr.findAsking,Xn,YC,h,Option.bind_some,Wf]
  by_cases e:a=x.1
  ·simp [e,XZ]
  ·rw [decide_eq_false e,if_neg e]
   exact zL h a r (i+1)
theorem XP.find (k:XP P t enc) (a:α) (L:ML α):ZH P (Instr.findKey t (enc a) (mEs enc L).toList)=some (Wf a L 0):=by
 obtain ⟨d,hu,hd⟩:=k.now
 have hl:(mEs enc L).toList=L.map (Xn enc):=by simp [mEs]
 unfold Instr.findKey
 rw [hl,YC,Wh hu,Option.bind_some]
 rcases hd with h | ⟨h1,h2⟩
 ·rw [K5 h];rfl
 ·cases L with
  | nil=>rfl
  | cons x r=>
   have:Instr.findNow d (enc a) ((x :: r).map (Xn enc)) 0=none:=by
    simp only [List.map_cons,Instr.findNow,Xn,h1]
   rw [this]
   exact zL h2 a (x :: r) 0
theorem qd {a:α} {i:Nat} {v:Value}:∀ {L:ML α} {k:Nat},Wf a L k=some (i,v)→∃ j x,i=k+j∧L[j]? = some x∧x.1=a∧x.2.1=v∧WS a 0 L=x.2.2∧(∀ c,WS a c L=x.2.2)∧(∀ z c,Kv a z c L=L)∧∀ u c,Xo a u c L=L.set j (x.1,u,x.2.2)
 | [],k,h=>by simp [Wf] at h
 | x :: r,k,h=>by
  simp only [Wf] at h
  split at h
  ·rename_i e
   cases h
   exact ⟨0,x,rfl,rfl,e.symm,rfl,by simp [WS,e],by simp [WS,e],by simp [Kv,e],by simp [Xo,e]⟩
  ·rename_i e
   obtain ⟨j,y,h1,h2,h3,h4,h5,h6,h7,h8⟩:=qd h
   exact ⟨j+1,y,by omega,by simpa using h2,h3,h4,by simp [WS,e,h5],by simp [WS,e,h6],by simp [Kv,e,h7],by simp [Xo,e,h8]⟩
theorem KC {a:α}:∀ {L:ML α} {k:Nat},Wf a L k=none→Yg a L=none∧(∀ c,WS a c L=c)∧(∀ z c,Kv a z c L=L ++ [(a,z,c)])∧∀ u c,Xo a u c L=L ++ [(a,u,c)]
 | [],k,_=>⟨rfl,fun _=>rfl,fun _ _=>rfl,fun _ _=>rfl⟩
 | x :: r,k,h=>by
  simp only [Wf] at h
  split at h
  ·cases h
  ·rename_i e
   obtain ⟨p,q,s,u⟩:=KC h
   exact ⟨by simp [Yg,e,p],by simp [WS,e,q],by simp [Kv,e,s],by simp [Xo,e,u]⟩
theorem Zb2 (k:XP P t enc) {tm te:TypeId} (hu:P.underlying tm=some (.map t te)) {z:Value} (hz:ZH P (zeroValue te)=some z) (a:α) (L:ML α) (ok:Bool) :
  ZH P (Vm tm (mEs enc L) (enc a) ok)=some (if ok then .tuple #[(Yg a L).getD z,.bool (Yg a L).isSome] else (Yg a L).getD z):=by
 unfold Vm
 simp only [YC,Wh hu,Option.bind_some,k.chk,k.find]
 rw [← VI a L 0]
 cases Wf a L 0 with
 | none=>simp only [YC,hz,Option.bind_some,Option.map_none,Option.getD_none,Option.isSome_none,XZ]
 | some q=>simp only [YC,XZ,Option.bind_some,Option.map_some,Option.getD_some,Option.isSome_some]
theorem QL {L:ML α} {j:Nat} {x:α × Value × Nat} (hx:L[j]? = some x) {f:MapEntry→MapEntry} {y:α × Value × Nat} (hf:f (Xn enc x)=Xn enc y):(mEs enc L).modify j f=mEs enc (L.set j y):=by
 unfold mEs
 rw [List.modify_toArray]
 congr 1
 apply List.ext_getElem?
 intro i
 rw [List.getElem?_modify,List.getElem?_map,List.getElem?_map,List.getElem?_set]
 by_cases e:j=i
 ·subst e
  have hlt:j < L.length:=by
   rcases Nat.lt_or_ge j L.length with q | q
   ·exact q
   ·rw [List.getElem?_eq_none q] at hx;cases hx
  simp only [if_true,hlt,hx,Option.map_some]
  show some (f (Xn enc x))=_
  rw [hf]
 ·simp [e]
theorem jQ {β:Type}:∀ {L:List β} {j:Nat} {x:β},L[j]? = some x→L.set j x=L
 | [],j,x,h=>by simp at h
 | y :: r,0,x,h=>by simp at h;subst h;rfl
 | y :: r,j+1,x,h=>by simp at h;simp [jQ h]
theorem Zam {L:ML α} {a:α} {v:Value} {c:Nat}:(mEs enc L).push { key:=enc a,val:=v,born:=c }=mEs enc (L ++ [(a,v,c)]):=by
 unfold mEs
 simp [Xn]
theorem qT (k:XP P t enc) {tm te:TypeId} (hu:P.underlying tm=some (.map t te)) (a:α) (L:ML α) (c:Nat) (v:Value) :
  ZH P (Wg tm (mEs enc L) c (enc a) v)=some (mEs enc (Xo a v c L),Y8 a c L):=by
 unfold Wg
 simp only [YC,Wh hu,Option.bind_some,k.chk,k.find]
 have hg:=VI a L 0
 cases hf:Wf a L 0 with
 | none=>
  obtain ⟨p,_,_,u⟩:=KC hf
  simp only [XZ,Zam,u,Y8,p]
  rfl
 | some q=>
  obtain ⟨i,w⟩:=q
  rw [hf] at hg
  obtain ⟨j,x,h1,h2,h3,h4,_,_,_,h8⟩:=qd hf
  have hij:i=j:=by omega
  subst hij
  have hkey:(((mEs enc L)[i]?).map (·.key)).getD (enc a)=enc a:=by
   simp only [mEs,List.getElem?_toArray,List.getElem?_map,h2,Option.map_some,Option.getD_some,Xn,h3]
  simp only [hkey,Instr.keyThatStays,k.bits,if_true,YC,XZ,Option.bind_some]
  rw [h8,QL (y:=(x.1,v,x.2.2)) h2 (by simp [Xn,h3])]
  simp only [Option.map_some] at hg
  rw [show Y8 a c L=c by unfold Y8;rw [← hg];rfl]
theorem Zhs (k:XP P t enc) {tm te:TypeId} (hu:P.underlying tm=some (.map t te)) {z:Value} (hz:ZH P (zeroValue te)=some z) (a:α) (L:ML α) (c:Nat) :
  ZH P (Ju tm (mEs enc L) c (enc a))=some (.tuple #[(Yg a L).getD z,goInt (WS a c L)],mEs enc (Kv a z c L),Y8 a c L):=by
 unfold Ju
 simp only [YC,Wh hu,Option.bind_some,k.chk,k.find]
 have hg:=VI a L 0
 cases hf:Wf a L 0 with
 | none=>
  obtain ⟨p,q,s,u⟩:=KC hf
  simp only [YC,hz,Option.bind_some,XZ,Zam,s,q,Y8,p]
  rfl
 | some q=>
  obtain ⟨i,w⟩:=q
  rw [hf] at hg
  obtain ⟨j,x,h1,h2,h3,h4,_,h6,h7,h8⟩:=qd hf
  have hij:i=j:=by omega
  subst hij
  have hkey:(((mEs enc L)[i]?).map (·.key)).getD (enc a)=enc a:=by
   simp only [mEs,List.getElem?_toArray,List.getElem?_map,h2,Option.map_some,Option.getD_some,Xn,h3]
  have hborn:(((mEs enc L)[i]?).map (fun x=>(x.born:Int))).getD 0=(x.2.2:Int):=by
   simp only [mEs,List.getElem?_toArray,List.getElem?_map,h2,Option.map_some,Option.getD_some,Xn]
  simp only [hkey,hborn,Instr.keyThatStays,k.bits,if_true,YC,XZ,Option.bind_some]
  rw [h7,QL (y:=x) h2 (by simp [Xn,h3]),jQ h2,h6]
  simp only [Option.map_some] at hg
  rw [show Y8 a c L=c by unfold Y8;rw [← hg];rfl,← hg]
  rfl
theorem Zg5 (L:ML α) (b:Nat) (v:Value) (hb:∃ x∈L,x.2.2=b):ZH P (Wm (mEs enc L) (goInt b) v)=some (mEs enc (qh b v L)):=by
 unfold Wm
 have hi:ZH P (asInt (goInt b))=some (b:Int):=rfl
 simp only [YC,hi,Option.bind_some]
 have key:∀ (L:ML α),(∃ x∈L,x.2.2=b)→∃ i x,(L.map (Xn enc)).findIdx? (fun e=>(e.born:Int) == (b:Int))=some i∧L[i]? = some x∧qh b v L=L.set i (x.1,v,x.2.2):=by
  intro L
  induction L with
  | nil=>rintro ⟨x,h,_⟩;cases h
  | cons y r ih=>
   intro ⟨x,hx,hxb⟩
   simp only [List.map_cons,List.findIdx?_cons,qh]
   by_cases e:b=y.2.2
   ·subst e
    refine ⟨0,y,by simp [Xn],rfl,by simp⟩
   ·rcases List.mem_cons.1 hx with rfl | hx
    ·exact absurd hxb.symm e
    ·obtain ⟨i,z,h1,h2,h3⟩:=ih ⟨x,hx,hxb⟩
     have hne:((Xn enc y).born:Int)≠(b:Int):=by
      intro q
      have:y.2.2=b:=Int.ofNat_inj.1 q
      exact e this.symm
     refine ⟨i+1,z,by simp [hne,h1],by simpa using h2,by simp [e,h3]⟩
 obtain ⟨i,x,h1,h2,h3⟩:=key L hb
 have hidx:(mEs enc L).findIdx? (fun e=>(e.born:Int) == (b:Int))=some i:=by
  unfold mEs;rw [List.findIdx?_toArray];exact h1
 rw [hidx]
 simp only [XZ]
 rw [QL (y:=(x.1,v,x.2.2)) h2 (by simp [Xn]),h3]
theorem ZgR {t:TypeId} (hu:P.underlying t=some (.int .i64)):XP P t (fun x:Int=>Value.int .i64 x) where
 fl:=fun _=>rfl
 chk:=fun a e=>by
  show ZH P (Instr.checkKey e (9999+1) t (.int .i64 a))=_
  rw [Instr.checkKey,YC,Wh hu,Option.bind_some]
  rfl
 now:=⟨_,hu,.inl fun a b=>by
  simp only [Instr.sameNow,if_true]
  by_cases h:a=b<;>simp [h]⟩
 bits:=fun a=>by simp [Instr.sameBits]
/-! Maps whose values point. -/
def MLR (r:Ren):ML α→ML α→Prop
 | [],[]=>True
 | x :: l,y :: l'=>(y.1=x.1∧y.2.2=x.2.2∧VR r x.2.1 y.2.1)∧MLR r l l'
 | _,_=>False
theorem ZcP {r:Ren}:∀ {L:ML α} {l':List MapEntry},EsR r (L.map (Xn enc)) l'→∃ L',l'=L'.map (Xn enc)∧MLR r L L'
 | [],[],_=>⟨[],rfl,True.intro⟩
 | x :: L,y :: l',h=>by
  obtain ⟨L',e,k⟩:=ZcP (L:=L) (l':=l') h.2
  obtain ⟨key,val,born⟩:=y
  have h1:key=enc x.1:=h.1.1
  have h2:born=x.2.2:=h.1.2.1
  subst h1 h2
  exact ⟨(x.1,val,x.2.2) :: L',by rw [e];rfl,⟨rfl,rfl,h.1.2.2⟩,k⟩
 | [],_ :: _,h=>h.elim
 | _ :: _,[],h=>h.elim
theorem ZcN {r:Ren}:∀ {L L':ML α},MLR r L L'→EsR r (L.map (Xn enc)) (L'.map (Xn enc))
 | [],[],_=>True.intro
 | x :: L,y :: L',h=>⟨⟨by show enc y.1=enc x.1;rw [h.1.1],h.1.2.1,h.1.2.2⟩,ZcN h.2⟩
 | [],_ :: _,h=>h.elim
 | _ :: _,[],h=>h.elim
theorem MLR.get {r:Ren} (a:α):∀ {L L':ML α},MLR r L L'→(Yg a L=none∧Yg a L'=none)∨∃ v v',Yg a L=some v∧Yg a L'=some v'∧VR r v v'
 | [],[],_=>.inl ⟨rfl,rfl⟩
 | x :: L,y :: L',h=>by
  simp only [Yg,h.1.1]
  split
  ·exact .inr ⟨_,_,rfl,rfl,h.1.2.2⟩
  ·exact MLR.get a h.2
 | [],_ :: _,h=>h.elim
 | _ :: _,[],h=>h.elim
theorem MLR.born {r:Ren} (a:α) (c:Nat):∀ {L L':ML α},MLR r L L'→WS a c L'=WS a c L
 | [],[],_=>rfl
 | x :: L,y :: L',h=>by simp only [WS,h.1.1,h.1.2.1,MLR.born a c h.2]
 | [],_ :: _,h=>h.elim
 | _ :: _,[],h=>h.elim
theorem MLR.ent {r:Ren} (a:α) {z:Value} (hz:VR r z z) (c:Nat):∀ {L L':ML α},MLR r L L'→MLR r (Kv a z c L) (Kv a z c L')
 | [],[],_=>⟨⟨rfl,rfl,hz⟩,True.intro⟩
 | x :: L,y :: L',h=>by
  simp only [Kv,h.1.1]
  split
  ·exact h
  ·exact ⟨h.1,MLR.ent a hz c h.2⟩
 | [],_ :: _,h=>h.elim
 | _ :: _,[],h=>h.elim
theorem MLR.sto {r:Ren} (b:Nat) {v v':Value} (hv:VR r v v'):∀ {L L':ML α},MLR r L L'→MLR r (qh b v L) (qh b v' L')
 | [],[],_=>True.intro
 | x :: L,y :: L',h=>by
  simp only [qh,h.1.2.1]
  split
  ·exact ⟨⟨h.1.1,rfl,hv⟩,h.2⟩
  ·exact ⟨h.1,MLR.sto b hv h.2⟩
 | [],_ :: _,h=>h.elim
 | _ :: _,[],h=>h.elim
theorem MLR.put {r:Ren} (a:α) {v v':Value} (hv:VR r v v') (c:Nat):∀ {L L':ML α},MLR r L L'→MLR r (Xo a v c L) (Xo a v' c L')
 | [],[],_=>⟨⟨rfl,rfl,hv⟩,True.intro⟩
 | x :: L,y :: L',h=>by
  simp only [Xo,h.1.1]
  split
  ·exact ⟨⟨rfl,h.1.2.1,hv⟩,h.2⟩
  ·exact ⟨h.1,MLR.put a hv c h.2⟩
 | [],_ :: _,h=>h.elim
 | _ :: _,[],h=>h.elim
theorem MLR.mem {r:Ren}:∀ {L L':ML α},MLR r L L'→∀ y∈L',∃ x∈L,y.1=x.1∧y.2.2=x.2.2∧VR r x.2.1 y.2.1
 | [],[],_,y,hy=>by cases hy
 | x :: L,y :: L',h,u,hu=>by
  rcases List.mem_cons.1 hu with rfl | hu
  ·exact ⟨x,by simp,h.1⟩
  ·obtain ⟨v,hv,q⟩:=MLR.mem h.2 u hu
   exact ⟨v,by simp [hv],q⟩
 | [],_ :: _,h,_,_=>h.elim
 | _ :: _,[],h,_,_=>h.elim
theorem MLR.mem' {r:Ren}:∀ {L L':ML α},MLR r L L'→∀ x∈L,∃ y∈L',y.1=x.1∧y.2.2=x.2.2∧VR r x.2.1 y.2.1
 | [],[],_,y,hy=>by cases hy
 | x :: L,y :: L',h,u,hu=>by
  rcases List.mem_cons.1 hu with rfl | hu
  ·exact ⟨y,by simp,h.1⟩
  ·obtain ⟨v,hv,q⟩:=MLR.mem' h.2 u hu
   exact ⟨v,by simp [hv],q⟩
 | [],_ :: _,h,_,_=>h.elim
 | _ :: _,[],h,_,_=>h.elim
theorem MLR.borns {r:Ren}:∀ {L L':ML α},MLR r L L'→L'.map (·.2.2)=L.map (·.2.2)
 | [],[],_=>rfl
 | x :: L,y :: L',h=>by simp only [List.map_cons,h.1.2.1,MLR.borns h.2]
 | [],_ :: _,h=>h.elim
 | _ :: _,[],h=>h.elim
theorem MLR.bornIn {r:Ren} {b:Nat}:∀ {L L':ML α},MLR r L L'→(∃ e∈L,e.2.2=b)→∃ e∈L',e.2.2=b
 | [],[],_,h=>h
 | x :: L,y :: L',h,⟨e,he,hb⟩=>by
  rcases List.mem_cons.1 he with rfl | he
  ·exact ⟨y,by simp,h.1.2.1.trans hb⟩
  ·obtain ⟨u,hu,q⟩:=MLR.bornIn h.2 ⟨e,he,hb⟩
   exact ⟨u,by simp [hu],q⟩
 | [],_ :: _,h,_=>h.elim
 | _ :: _,[],h,_=>h.elim
section
variable {base lo:Nat} {r:Ren} {H:Hp} {w:World}
theorem jc (h:Rel P r base H w) {b c:Nat} {L:ML α} {loc:Loc} (e:r b=some loc) (hg:H.t.get b=some (.mq (mEs enc L) c)):∃ L',w.heap[loc.blk]? = some (.map (mEs enc L') c)∧MLR r L L'∧loc.blk < w.heap.size:=by
 obtain ⟨es',ho,hes⟩:=h.cont _ _ _ e hg
 have hl:(mEs enc L).toList=L.map (Xn enc):=by simp [mEs]
 rw [hl] at hes
 obtain ⟨L',e1,k⟩:=ZcP hes
 have:es'=mEs enc L':=by unfold mEs;rw [← e1]
 subst this
 refine ⟨L',ho,k,?_⟩
 rcases Nat.lt_or_ge loc.blk w.heap.size with q | q
 ·exact q
 ·rw [Array.getElem?_eq_none q] at ho;cases ho
theorem Zbg (h:Rel P r base H w) {b c c':Nat} {L L2 L2':ML α} {loc:Loc} (e:r b=some loc) (hg:H.t.get b=some (.mq (mEs enc L) c)) (hlb:lo≤b) (hk:MLR r L2 L2') :
  (setObj loc.blk (.map (mEs enc L2') c')).run P w=.ok () { w with heap:=w.heap.setIfInBounds loc.blk (.map (mEs enc L2') c') }∧Zt P lo base r H w r { H with t:=H.t.set b (.mq (mEs enc L2) c') } { w with heap:=w.heap.setIfInBounds loc.blk (.map (mEs enc L2') c') }:=by
 obtain ⟨L',ho,_,hlt⟩:=jc h e hg
 refine ⟨by simp [setObj,Sem.run,ho],?_⟩
 refine Zt.change h e ⟨_,hg,by simp,rfl⟩ hlb (by simp) (fun q hq=>?_) ⟨rfl,rfl,rfl⟩ ?_
 ·show (w.heap.setIfInBounds loc.blk _)[q]? = _
  rw [Array.getElem?_setIfInBounds,if_neg (fun e=>hq e.symm)]
 ·refine ⟨mEs enc L2',?_,?_⟩
  ·show (w.heap.setIfInBounds loc.blk _)[loc.blk]? = _
   rw [Array.getElem?_setIfInBounds,if_pos rfl,if_pos hlt]
  ·have h1:(mEs enc L2).toList=L2.map (Xn enc):=by simp [mEs]
   have h2:(mEs enc L2').toList=L2'.map (Xn enc):=by simp [mEs]
   rw [h1,h2]
   exact ZcN hk
theorem Ze0 (h:Rel P r base H w) (k:XP P t enc) {tm te:TypeId} (hu:P.underlying tm=some (.map t te)) {z:Value} (hz:ZH P (zeroValue te)=some z) (hf:Z0 z=true) {b c:Nat} {a:α} {L:ML α} (hg:H.t.get b=some (.mq (mEs enc L) c)) {m' k':Value} (hm:VR r (.map (some b)) m') (hk:VR r (enc a) k') :
  ∃ v',(Instr.lookup tm m' k' false).run P w=.ok v' w∧VR r ((Yg a L).getD z) v':=by
 rw [ZW (k.fl a) hk]
 cases hm with
 | mapv e=>
  rename_i loc
  obtain ⟨L',ho,hml,_⟩:=jc h e hg
  refine ⟨(Yg a L').getD z,?_,?_⟩
  ·rw [Vk hu ho]
   have:=Ym _ (Zb2 k hu hz a L' false) w
   simpa using this
  ·rcases hml.get a with ⟨e1,e2⟩ | ⟨v,v',e1,e2,hv⟩
   ·rw [e1,e2];exact Yw hf
   ·rw [e1,e2];exact hv
theorem Zek (h:Rel P r base H w) (k:XP P t enc) {tm te:TypeId} (hu:P.underlying tm=some (.map t te)) {z:Value} (hz:ZH P (zeroValue te)=some z) (hf:Z0 z=true) {b c:Nat} {a:α} {L:ML α} (hg:H.t.get b=some (.mq (mEs enc L) c)) (hlb:lo≤b) {m' k':Value} (hm:VR r (.map (some b)) m') (hk:VR r (enc a) k') :
  ∃ v' w',(Instr.mapEntry tm m' k').run P w=.ok v' w'∧VR r (.tuple #[(Yg a L).getD z,goInt (WS a c L)]) v'∧Zt P lo base r H w r { H with t:=H.t.set b (.mq (mEs enc (Kv a z c L)) (Y8 a c L)) } w':=by
 rw [ZW (k.fl a) hk]
 cases hm with
 | mapv e=>
  rename_i loc
  obtain ⟨L',ho,hml,_⟩:=jc h e hg
  obtain ⟨hrun,hpost⟩:=Zbg (lo:=lo) (c':=Y8 a c L) h e hg hlb (hml.ent a (Yw hf) c)
  have hc:Y8 a c L'=Y8 a c L:=by
   unfold Y8
   rcases hml.get a with ⟨e1,e2⟩ | ⟨v,v',e1,e2,hv⟩<;>rw [e1,e2]<;>rfl
  refine ⟨.tuple #[(Yg a L').getD z,goInt (WS a c L')],_,?_,?_,hpost⟩
  ·rw [z8 hu ho (Zhs k hu hz a L' c),hc]
   simp only [Sem.run_bind,hrun,Result.andThen_ok,Sem.run_pure]
  ·refine .tuple rfl fun i u u' e1 e2=>?_
   match i with
   | 0=>
    simp at e1 e2
    subst e1 e2
    rcases hml.get a with ⟨e1,e2⟩ | ⟨v,v',e1,e2,hv⟩
    ·rw [e1,e2];exact Yw hf
    ·rw [e1,e2];exact hv
   | 1=>
    simp at e1 e2
    subst e1 e2
    rw [hml.born]
    exact Yw rfl
   | i+2=>simp at e1
theorem ZgL (h:Rel P r base H w) (k:XP P t enc) {tm te:TypeId} (hu:P.underlying tm=some (.map t te)) {b c:Nat} {a:α} {L:ML α} {v:Value} (hg:H.t.get b=some (.mq (mEs enc L) c)) (hlb:lo≤b) {m' k' v':Value} (hm:VR r (.map (some b)) m') (hk:VR r (enc a) k') (hv:VR r v v') :
  ∃ w',(Instr.mapUpdate tm m' k' v').run P w=.ok () w'∧Zt P lo base r H w r { H with t:=H.t.set b (.mq (mEs enc (Xo a v c L)) (Y8 a c L)) } w':=by
 rw [ZW (k.fl a) hk]
 cases hm with
 | mapv e=>
  rename_i loc
  obtain ⟨L',ho,hml,_⟩:=jc h e hg
  obtain ⟨hrun,hpost⟩:=Zbg (lo:=lo) (c':=Y8 a c L) h e hg hlb (hml.put a hv c)
  have hc:Y8 a c L'=Y8 a c L:=by
   unfold Y8
   rcases hml.get a with ⟨e1,e2⟩ | ⟨v,v',e1,e2,hv⟩<;>rw [e1,e2]<;>rfl
  exact ⟨_,by rw [QJ hu ho (qT k hu a L' c v'),hc];exact hrun,hpost⟩
theorem ZdF (h:Rel P r base H w) {tm:TypeId} {b c st:Nat} {L:ML α} {v:Value} (hg:H.t.get b=some (.mq (mEs enc L) c)) (hlb:lo≤b) (hb:∃ e∈L,e.2.2=st) {m' s' v':Value} (hm:VR r (.map (some b)) m') (hs:VR r (goInt st) s') (hv:VR r v v') :
  ∃ w',(Instr.entryStore tm m' s' v').run P w=.ok () w'∧Zt P lo base r H w r { H with t:=H.t.set b (.mq (mEs enc (qh st v L)) c) } w':=by
 rw [ZW (rfl:Z0 (goInt st)=true) hs]
 cases hm with
 | mapv e=>
  rename_i loc
  obtain ⟨L',ho,hml,_⟩:=jc h e hg
  obtain ⟨hrun,hpost⟩:=Zbg (lo:=lo) (c':=c) h e hg hlb (hml.sto st hv)
  exact ⟨_,by rw [US ho (Zg5 L' st v' (hml.bornIn hb))];exact hrun,hpost⟩
end
end
end
end
end Go.Ax


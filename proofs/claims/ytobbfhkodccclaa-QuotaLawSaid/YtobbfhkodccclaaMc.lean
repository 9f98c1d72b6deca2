import Derived.Test.YtobbfhkodccclaaMb
set_option linter.all false
namespace Go.Ax
open Go Go.RowKit

section
variable {P:Program} {lo base:Nat}
theorem Zaw {kn:Kn} {n m l:Nat} {cap:Array Value} {args:List Value} {H:Hp} {e:En} {H':Hp} {p':Par} (hC:Vn P (Yv P kn m n)) (hA:X0 (Yv P kn m n)) (hm:P.follows .mixedOrders=true)
  (h:Yn P kn m (n+1) lo (.fn (.yield l) cap) args H none=some (e,H',p')) (hlo:lo≤H.next) {r:Ren} {w:World} (hrel:Rel P r base H w) {loc:Loc} (hloc:r l=some loc) {args':Array Value} (hargs:LR r args args'.toList) :
  ∃ f tm asg body,(Instr.yield loc.blk args').run P w=.ok (.round loc.blk f tm asg body) w∧ZaQ P lo base r H w (Frame.round loc.blk f tm asg body .normal) e H':=by
 simp only [Yn] at h
 split at h<;>first | (cases h;done) | skip
 rename_i pe fn n0 T params asg body df _ hget
 split at h<;>first | (cases h;done) | skip
 rename_i T' hst
 obtain ⟨hb0,h1⟩:=Ze h
 clear h
 have hb:=Nat.le_of_ble_eq_true hb0
 clear hb0
 obtain ⟨hck,h⟩:=Ze h1
 clear h1
 simp only [Bool.and_eq_true,List.all_eq_true] at hck
 obtain ⟨R,c1,c2,c3,c4,c5,c6,c7,c8,l9,c9,c10⟩:=hrel.cont _ _ _ hloc hget
 subst c3 c4 c6 c7 c8
 have hT:=JG hst c5 (fun t ht=>by have:=hck.2 t ht;simpa [Nat.blt_eq] using this) hargs
 have hsz:args'.size=R.params.size:=by
  have a:=Un hst
  have b:=hargs.1
  simp at a b
  omega
 have htm:(R.params.zip args').foldl (fun tmps (t,a)=>tmps.setIfInBounds t a) R.tmps=(R.params.toList.zip args'.toList).foldl (fun tmps (x:Tmp × Value)=>tmps.setIfInBounds x.1 x.2) R.tmps:=by
  rw [← Array.foldl_toList,Array.toList_zip]
 refine ⟨R.fn,_,R.assign,R.body,run_yield c1 hsz,?_⟩
 rw [htm]
 generalize (R.params.toList.zip args'.toList).foldl (fun tmps (x:Tmp × Value)=>tmps.setIfInBounds x.1 x.2) R.tmps=tm at hT
 intro c rest
 split at h<;>first | (cases h;done) | skip
 rename_i A H1 hrc
 obtain ⟨r1,w1,tm1,ds1,pc1,hp1,hF1,hS1,hpp1,hArr1,_⟩:=(qr (kind:=.normal) (rd:=some loc.blk) (K:=fun _=>c :: rest) hC hA hm (.inl ⟨rfl,fun _=>rfl⟩) m).1 R.assign [.beginRound,.code R.body] r w H _ tm [] none none _ _ _ _ hrc hlo hrel
  ⟨hT,.nil,⟨loc,hloc,rfl⟩⟩ rfl (fun _=>rfl)
 have hArr1:Steps P (lone (Frame.round loc.blk R.fn tm R.assign R.body .normal) (c :: rest) w) (lone (mkF R.fn tm1 [.beginRound,.code R.body] ds1 .normal (some loc.blk)) (c :: rest) w1):=hArr1
 have hfn1:A.fn=R.fn:=hS1.fn
 split at h<;>first | (cases h;done) | skip
 rename_i pe' fn' n' T2 ps' as_' bo' df' hget1
 have hloc1:=hp1.le _ _ hloc
 obtain ⟨R1,d1,d2,d3,d4,d5,d6,d7,d8,l9',d9,d10⟩:=hp1.rel.cont _ _ _ hloc1 hget1
 have hbeg:=run_beginRound (P:=P) d1 d2
 have hlt1:=(hp1.rel.at hloc1 hget1 rfl).2
 have hp2:=Zq.change (lo:=lo) hp1.rel hloc1 ⟨_,hget1,by simp,rfl⟩ hb (o:=.lp .busy pe' fn' n' T2 ps' as_' bo' df') (w':=w1.putObj loc.blk (.loop { R1 with state:=.busy })) World.putObj_size (fun k hk=>World.putObj_heap_other hk) ⟨rfl,rfl,rfl⟩
  ⟨{ R1 with state:=.busy },World.putObj_heap_same hlt1,rfl,d3,d4,d5,d6,d7,d8,l9',d9,d10⟩
 have hlo1:lo≤H1.next:=Nat.le_trans hlo hp1.next
 split at h<;>first | (cases h;done) | skip
 rename_i e3 A3 H3 p3 hrb
 obtain ⟨r3,w3,tm3,ds3,pc3,hp3,hF3,hS3,_,hArr3,_⟩:=(qr (kind:=.normal) (rd:=some loc.blk) (K:=fun _=>c :: rest) hC hA hm (.inl ⟨rfl,fun _=>rfl⟩) m).1 R.body [] r1 _ { H1 with t:=H1.t.set l (.lp .busy pe' fn' n' T2 ps' as_' bo' df') } A tm1 ds1 none none _ _ _ _ hrb hlo1 hp2.rel hF1 rfl (fun _=>rfl)
 have hp13:=(hp1.trans hlo hp2).trans hlo hp3
 have hloc3:=hp3.le _ _ hloc1
 have hM:Steps P (lone (Frame.round loc.blk R.fn tm R.assign R.body .normal) (c :: rest) w) (lone (mkF A.fn tm1 [.code R.body] ds1 .normal (some loc.blk)) (c :: rest) (w1.putObj loc.blk (.loop { R1 with state:=.busy }))):=by
  rw [hfn1]
  exact hArr1.trans (Steps.one (UY hbeg))
 split at h<;>first | (cases h;done) | skip
 rename_i _ pe3 a b c' d e' g h' hdf hget3
 obtain ⟨R3,q1,q2,q3,q4,q5,q6,q7,q8,l9'',q9,q10⟩:=hp3.rel.cont _ _ _ hloc3 hget3
 have hlt3:=(hp3.rel.at hloc3 hget3 rfl).2
 have hds:ds3=[]:=by
  have:=hF3.D
  rw [hdf] at this
  cases this
  rfl
 subst hds
 have put:∀ (st:LoopState) (pe:Option Code),Zq P lo base r H w r3 { H3 with t:=H3.t.set l (.lp st pe a b c' d e' g h') } (w3.putObj loc.blk (.loop { R3 with state:=st,pending:=pe })):=fun st pe=>
  hp13.trans hlo (Zq.change (lo:=lo) hp3.rel hloc3 ⟨_,hget3,by simp,rfl⟩ hb (o:=.lp st pe a b c' d e' g h') (w':=w3.putObj loc.blk (.loop { R3 with state:=st,pending:=pe })) World.putObj_size (fun k hk=>World.putObj_heap_other hk) ⟨rfl,rfl,rfl⟩
   ⟨{ R3 with state:=st,pending:=pe },World.putObj_heap_same hlt3,rfl,rfl,q4,q5,q6,q7,q8,l9'',q9,q10⟩)
 split at h<;>first | (cases h;done) | skip
 ·cases h
  exact ⟨r3,_,put .ready none,_,.bool true,(hM.trans hArr3).trans (Steps.one (QF (run_endRound none q1)))⟩
 ·cases h
  obtain ⟨kx,hs⟩:=hArr3
  exact ⟨r3,_,put .done (some .ret),_,.bool false,(hM.trans hs).trans (Steps.one (Q1 (run_endRound (some .ret) q1)))⟩
 ·cases h
  rename_i id
  obtain ⟨kx,hx,hs⟩:=hArr3
  exact ⟨r3,_,put .done (some (.exit id)),_,.bool false,(hM.trans hs).trans (Steps.one (U5 (hx.trans rfl) (run_endRound (some (.exit id)) q1)))⟩
 ·cases h
  obtain ⟨todo,v',hv,hs⟩:=hArr3
  rw [hfn1] at hs hM
  have hfn:=hck.1
  obtain ⟨fnX,hX⟩:=Option.isSome_iff_exists.1 hfn
  exact ⟨r3,w3,hp13,v',hv,(hM.trans hs).trans (Steps.one (step_leave_panicked ⟨rfl,rfl,fnX,hX⟩))⟩
end
end Go.Ax

namespace Go.Ax
open Go Go.RowKit

section
variable {P:Program}
theorem Zq.of_below {lo base:Nat} {r:Ren} {H:Hp} {w w':World} (h:Rel P r base H w) (hb:Below w.heap.size w w'):Zq P lo base r H w r H w' where
 le:=.refl r
 rel:={
  dom:=fun b loc e=>⟨(h.dom b loc e).1,(h.dom b loc e).2.more hb.size⟩
  cont:=fun b loc o e1 e2=>by
   have hdm:=(h.dom b loc e1).2
   rw [e2] at hdm
   exact (h.cont b loc o e1 e2).keep hdm h.top (hb.block _)
  inj:=h.inj
  top:=Nat.le_trans h.top hb.size }
 next:=Nat.le_refl _
 place:=fun _ _ e=>.inl e
 keep:=fun k hk _=>hb.block k hk
 old:=fun _ _=>rfl
 str:=⟨hb.os,hb.tape,hb.output,hb.size⟩

def y0 (P:Program) (kn:Kn):Prop:=∀ f b,kn.b f=some b→(∃ fn c,P.funcs[f]? = some fn∧fn.body=some c)∧∀ w,Calls P f #[] w fun e w'=>e=.returned (.bool b)∧Below w.heap.size w w'
def ZcI (P:Program) (lo:Nat) (f:FuncId) (args:List Value) (H:Hp) (v:Value) (H':Hp):Prop:=
 (∃ fn c,P.funcs[f]? = some fn∧fn.body=some c)∧∀ (r:Ren) (base:Nat) (w:World) (args':Array Value),Rel P r base H w→LR r args args'.toList→lo≤H.next→ZaQ P lo base r H w (Frame.enter P f args' .normal) (.ret v) H'
def ZgB (P:Program) (kn:Kn):Prop:=∀ f lo args H v H',Ww f=true→kn.s f lo args H=some (v,H')→Zgb lo H H'→ZcI P lo f args H v H'
structure Known (P:Program) (kn:Kn):Prop where
 b:y0 P kn
 s:ZgB P kn
theorem y0.nothing (P:Program):y0 P ⟨fun _=>none,fun _ _ _ _=>none⟩:=fun _ _ h=>by cases h
theorem Zq.low {lo lo' base:Nat} {r r':Ren} {H H':Hp} {w w':World} (h:Zq P lo base r H w r' H' w') (hl:lo'≤lo):Zq P lo' base r H w r' H' w' where
 le:=h.le
 rel:=h.rel
 next:=h.next
 place:=fun b loc e=>(h.place b loc e).imp id fun ⟨x,y⟩=>⟨x,y.imp id fun ⟨b0,l0,a,c,d⟩=>⟨b0,l0,a,c,Nat.le_trans hl d⟩⟩
 keep:=fun k hk q=>h.keep k hk fun b loc e1 e2=>Nat.lt_of_lt_of_le (q b loc e1 e2) hl
 old:=fun b hb=>h.old b (Nat.lt_of_lt_of_le hb hl)
 str:=h.str

theorem JY {r:Ren} {v:Value} {vs:List Value} {as_:Array Value} (h:LR r (v :: vs) as_.toList):∃ v' l',as_=(v' :: l').toArray∧VR r v v'∧LR r vs l':=by
 obtain ⟨l⟩:=as_
 match l with
 | []=>exact absurd h.1 (by simp)
 | v' :: l'=>exact ⟨v',l',rfl,h.2 0 v v' rfl rfl,⟨by simpa using h.1,fun i a b x y=>h.2 (i+1) a b x y⟩⟩

theorem z8 {C:CallF} (hC:Vn P C) (hA:X0 C) (hm:P.follows .mixedOrders=true) (hN:NoCount P) {lo base:Nat} {D:Target→List Value→Hp→Par→Option (En × Hp × Par)} (hD:jQ P lo D) {m:Nat} {t:TypeId} {v:Value} {name:String} {f:FuncId} {x:Value} {rest:List Value} {H:Hp} {e:En} {H':Hp} {p':Par}
  (hv:QZ P t v name=some (f,x)) (h:YZ P lo C D m f (x :: rest) H none=some (e,H',p')) (hlo:lo≤H.next) {r:Ren} {w:World} (hrel:Rel P r base H w) {v':Value} {l':List Value} (h1:VR r v v') (h2:LR r rest l') :
  (callMethod (.iface t v') name l'.toArray).run P w=.ok (.enter f (v' :: l').toArray) w∧ZaQ P lo base r H w (Frame.enter P f (v' :: l').toArray .normal) e H':=by
 obtain ⟨rfl,hr⟩:=ZdF hv
 obtain ⟨a,b⟩:=y8 hC hA hm hN hD h hlo hrel (args':=(v' :: l').toArray) (by simpa using LR.cons h1 h2)
 refine ⟨?_,b⟩
 obtain ⟨k,hk⟩:∃ k,P.types.size+Made.depth=k+1:=by
  have:0 < Made.depth:=by decide
  exact ⟨P.types.size+Made.depth - 1,by omega⟩
 have:(#[v'] ++ l'.toArray:Array Value)=(v' :: l').toArray:=by simp
 simp only [callMethod,Sem.run_bind,run_program,Result.andThen_ok,hk,hr,this]
 exact a

theorem QE (hm:P.follows .mixedOrders=true) (hN:NoCount P) {kn:Kn} (hkn:Known P kn) (m:Nat):∀ n,Vn P (Yv P kn m n)∧∀ lo,jQ P lo (fun t args H p=>Yn P kn m n lo t args H p):=by
 intro n
 have K2:∀ (lo:Nat) (t:Target) (args:List Value) (H:Hp) (e:En) (H':Hp),(∃ b,JK kn t args=some b∧e=.ret (.bool b)∧H'=H)→lo≤H.next→∀ (r:Ren) (base:Nat) (w:World) (t':Target) (args':Array Value),Rel P r base H w→TgR r t t'→LR r args args'.toList→
   ∃ nx fr0,(invoke t' args').run P w=.ok nx w∧Wc P .normal nx=some fr0∧ZaQ P lo base r H w fr0 e H':=by
  intro lo t args H e H' ⟨b,hk,he,hH⟩ hlo r base w t' args' hrel ht ha
  subst he hH
  unfold JK at hk
  split at hk<;>first | (cases hk;done) | skip
  rename_i f cap
  obtain ⟨hc,hk⟩:=Ze hk
  have hc:=Nat.eq_of_beq_eq_true hc
  obtain ⟨⟨fn,c,h1,h2⟩,hcalls⟩:=hkn.b f b hk
  obtain ⟨f',cap',rfl,hf,hcap⟩:=ht
  cases hf
  have e1:args' = #[]:=by
   have:=ha.1
   simp at this
   exact Array.eq_empty_of_size_eq_zero (by simpa using this.symm)
  have e2:cap' = #[]:=by
   have:=hcap.1
   simp at this
   exact Array.eq_empty_of_size_eq_zero (by omega)
  subst e1 e2
  refine ⟨.enter f #[],_,WX hN h1 h2 _ _,rfl,fun c0 rest=>?_⟩
  obtain ⟨e',w',fr,⟨rfl,hb⟩,hs,_,hl⟩:=hcalls w (c0 :: rest)
  exact ⟨r,w',Zq.of_below hrel hb,.bool b,.bool b,Steps.trans hs (Steps.one (step_leave_returned hl))⟩
 have spec:∀ (lo:Nat) (t:Target) (args:List Value) (H:Hp) (e:En) (H':Hp),(∃ v,JV kn lo t args H=some (v,H')∧e=.ret v)→lo≤H.next→∀ (r:Ren) (base:Nat) (w:World) (t':Target) (args':Array Value),Rel P r base H w→TgR r t t'→LR r args args'.toList→
   ∃ nx fr0,(invoke t' args').run P w=.ok nx w∧Wc P .normal nx=some fr0∧ZaQ P lo base r H w fr0 e H':=by
  intro lo t args H e H' ⟨v,hk,he⟩ hlo r base w t' args' hrel ht ha
  subst he
  obtain ⟨f,cap,rfl,hs,hk,ho⟩:=KL hk
  obtain ⟨⟨fn,c,h1,h2⟩,hb⟩:=hkn.s f lo _ H v H' hs hk ho
  obtain ⟨f',cap',rfl,hf,hcap⟩:=ht
  cases hf
  refine ⟨.enter f (args' ++ cap'),_,WX hN h1 h2 _ _,rfl,fun c0 rest=>?_⟩
  obtain ⟨r',w',hp,v',hv,hst⟩:=hb r base w (args' ++ cap') hrel (by simpa using LR.append ha hcap) hlo c0 rest
  exact ⟨r',w',hp,v',hv,hst⟩
 induction n with
 | zero=>
  refine ⟨fun lo t args H e H' h hlo r base w t' args' hrel ht ha=>?_,fun lo f cap args H p e H' p' h=>?_⟩
  ·rcases Qb h with hk | hk | ⟨p',h⟩
   rotate_left
   ·obtain ⟨nx,fr0,a,b,c⟩:=spec lo t args H e H' hk hlo r base w t' args' hrel ht ha
    refine ⟨nx,fr0,a,b,fun c0 rest=>?_⟩
    have:=c c0 rest
    cases e<;>exact this
   rotate_left
   ·obtain ⟨nx,fr0,a,b,c⟩:=K2 lo t args H e H' hk hlo r base w t' args' hrel ht ha
    refine ⟨nx,fr0,a,b,fun c0 rest=>?_⟩
    have:=c c0 rest
    cases e<;>exact this
   ·simp [Yn] at h
  ·simp [Yn] at h
 | succ n ih=>
  obtain ⟨hC,hD⟩:=ih
  have hA:X0 (Yv P kn m n):=(Qo P kn m n).2
  constructor
  ·intro lo t args H e H' h hlo r base w t' args' hrel ht ha
   suffices hs:∃ nx fr0,(invoke t' args').run P w=.ok nx w∧Wc P .normal nx=some fr0∧ZaQ P lo base r H w fr0 e H' by
    obtain ⟨nx,fr0,a,b,c⟩:=hs
    refine ⟨nx,fr0,a,b,fun c0 rest=>?_⟩
    have:=c c0 rest
    cases e<;>exact this
   rcases Qb h with hk | hk | ⟨p',h⟩
   ·exact K2 lo t args H e H' hk hlo r base w t' args' hrel ht ha
   ·exact spec lo t args H e H' hk hlo r base w t' args' hrel ht ha
   cases t with
   | fn f cap=>
    obtain ⟨f',cap',rfl,hf,hcap⟩:=ht
    cases hf with
    | func g=>
     simp only [Yn] at h
     obtain ⟨a,b⟩:=y8 hC hA hm hN (hD lo) h hlo hrel (args':=args' ++ cap') (by simpa using LR.append ha hcap)
     exact ⟨_,_,a,rfl,b⟩
    | method name=>
     simp only [Yn] at h
     split at h<;>first | (cases h;done) | skip
     split at h<;>first | (cases h;done) | skip
     rename_i f x hv
     obtain ⟨u',l',rfl,q1,q2⟩:=JY ha
     obtain ⟨v',rfl,q3⟩:=Ki q1
     obtain ⟨a,b⟩:=z8 hC hA hm hN (hD lo) hv h hlo hrel q3 q2
     refine ⟨.enter f _,_,?_,rfl,b⟩
     have ext:∀ y:Value,((y :: l').toArray.extract 1 (y :: l').toArray.size)=l'.toArray:=fun y=>by simp
     simp only [invoke,ext]
     simpa using a
    | methodOf ty name=>
     simp only [Yn] at h
     split at h<;>first | (cases h;done) | skip
     split at h<;>first | (cases h;done) | skip
     rename_i dsc hni hu _ _ f x hv
     obtain ⟨v',l',rfl,q1,q2⟩:=JY ha
     obtain ⟨a,b⟩:=z8 hC hA hm hN (hD lo) hv h hlo hrel q1 q2
     refine ⟨.enter f _,_,?_,rfl,b⟩
     have:((v' :: l').toArray.extract 1 (v' :: l').toArray.size)=l'.toArray:=by simp
     simp only [invoke,this]
     cases dsc<;>first | (exact absurd rfl (hni _)) | simpa [Jh hu] using a
    | yield hl=>
     obtain ⟨f,tm,asg,body,a,b⟩:=Zaw hC hA hm h hlo hrel hl ha
     exact ⟨_,_,a,rfl,b⟩
   | _=>simp [Yn] at h
  ·intro lo f cap args H p e H' p' h hlo r base w cap' args' pc c cs hrel hcap ha hp
   simp only [Yn] at h
   obtain ⟨⟨fn,b,h1,h2⟩,r',w',pc',fr,q1,q2,q3,q4,q5,q6⟩:=Zac hC hA hm (hD lo) h hlo hrel (args':=args' ++ cap') (by simpa using LR.append ha hcap) (kind:=.deferred) (K:=fun p=>{ c with mode:=XW p } :: cs) (.inr ⟨rfl,c,cs,fun _=>rfl⟩) hp (fun q=>by cases q)
   exact ⟨args' ++ cap',WX hN h1 h2 _ _,r',w',pc',fr,q1,q2,q4,q5,q6⟩

end
end Go.Ax

/-! The evaluator for all inputs,1: code with what the types tell worked out ('low..'),and what it asks ('w..'). -/
namespace Go.Ax
open Go Go.RowKit
noncomputable section

abbrev Rg:=List (Nat × Value)
def lk:Rg→Nat→Option Value
 | [],_=>none
 | (i,v) :: r,j=>bif Nat.beq i j then some v else lk r j
def evS (S:Rg):Operand→Option Value
 | .tmp t=>lk S t
 | .const v=>bif ZS v then some v else none
 | .func f=>some (.func (.func f) #[] #[])
 | .global _=>none
def zq (S:Rg):List Operand→Option (List Value)
 | []=>some []
 | x :: r=>match evS S x with | none=>none | some v=>match zq S r with | none=>none | some vs=>some (v :: vs)
def trS:Rg→Tr Value
 | []=>.nil
 | (i,v) :: r=>(trS r).set i v
def frS (n:Nat) (S:Rg):Fr:={ fn:=0,n:=n,T:=trS S,defers:=[],round:=none }

inductive RI where
 | mov (x:Operand)
 | nilc (x:Operand)
 | addo (x:Operand) (off:Nat)
 | idx (x i:Operand) (size:Nat)
 | idxa (x i:Operand) (len size:Nat)
 | ld (x:Operand) (n:Nat)
 | lda (x:Operand) (n:Nat)
 | st (x y:Operand)
 | sta (x y:Operand) (n:Nat)
 | ari (op:BinOp) (x y:Operand)
 | cmp (op:BinOp) (x y:Operand)
 | cmpb (op:BinOp) (x y:Operand)
 | len (x:Operand)
 | mm (small:Bool) (x y:Operand)
 | call (c:Call) (ord:Bool)
 | box (e:TypeId) (x:Operand)
 | alc (e:TypeId) (z:List Value)
 | pur (o:Oper)
 | mem (o:Oper)
 | mst (o:Oper)
 | dead
 | rng (x:Operand)
 | nxt (x:Operand)
 | ent (x:Operand)
structure RO where
 dst:Option Nat
 guard:Option (Nat × Bool)
 ri:RI
inductive RC where
 | skip
 | exit (id:Nat)
 | ret
 | seq (x y:RC)
 | cond (o:Operand) (x y:RC)
 | block (id:Nat) (b:RC)
 | scp (b:RC)
 | reg (ops:List RO)
 | dreg (ops:List RO) (masks:List Nat)
 | other (c:Code)

def zL (P:Program) (t:TypeId):Bool:=match P.underlying t with | some (.int .i64)=>true | _=>false
def Zfs:BinOp→Bool
 | .add | .sub | .mul | .quo | .rem=>true
 | _=>false
def jX:BinOp→Bool
 | .eql | .neq | .lss | .leq | .gtr | .geq=>true
 | _=>false

def Xl (o : Oper) : Oper := { o with pos := "", after := #[], guard := none }
def ja (ops:List Oper):Bool:=ops.any fun o=>o.guard.isSome
def ZhG (P:Program) (op:BinOp) (t:TypeId):Bool:=match op,P.underlying t with | .eql,some (.pointer _)=>true | _,_=>false
def Wz (P:Program) (ops:List Oper) (ord:Bool) (o:Oper):Option RI:=
 match o.op with
 | .move x | .assign x=>some (.mov x)
 | .nilCheck x=>some (.nilc x)
 | .fieldAddr s x f=>match P.underlying s with
  | some (.struct fs)=>match fs[f]? with
   | some fd=>match P.info? fd.type with
    | some i=>bif Nat.beq i.size 0 then none else some (.addo x fd.offset)
    | none=>none
   | none=>none
  | _=>none
 | .indexAddr t x i=>match P.underlying t with
  | some (.slice e)=>match P.info? e with | some inf=>some (.idx x i inf.size) | none=>none
  | some (.array len e)=>match P.info? e with | some inf=>some (.idxa x i len inf.size) | none=>none
  | _=>none
 | .load t x=>match P.info? t,X3 P t with
  | some i,some true=>some (.lda x i.size)
  | some _,some false=>some (.ld x 1)
  | _,_=>none
 | .store t x y=>match P.info? t with
  | some i=>bif Nat.beq i.size 1 then (match X3 P t with | some false=>some (.st x y) | _=>some (.sta x y i.size)) else some (.sta x y i.size)
  | none=>none
 | .binOp op t x y _=>bif zL P t then (bif Zfs op then some (.ari op x y) else bif jX op then (bif ja ops then some (.cmpb op x y) else some (.cmp op x y)) else some (.pur (Xl o))) else bif ZhG P op t then some (.mem (Xl o)) else some (.pur (Xl o))
 | .box e x=>some (.box e x)
 | .alloc e=>match Yt P e with | some z=>some (.alc e z.cells.toList) | none=>none
 | .call c=>match c.callee with
  | .builtin .len=>match c.argTypes[0]? with
   | some t=>match P.underlying t,c.args.toList with
    | some (.slice _),[x]=>some (.len x)
    | _,_=>some (.pur (Xl o))
   | none=>none
  | .builtin .min=>match c.args.toList with | [x,y]=>bif zL P o.type then some (.mm true x y) else some (.pur (Xl o)) | _=>some (.pur (Xl o))
  | .builtin .max=>match c.args.toList with | [x,y]=>bif zL P o.type then some (.mm false x y) else some (.pur (Xl o)) | _=>some (.pur (Xl o))
  | .builtin _=>some (.mem (Xl o))
  | _=>some (.call c ord)
 | .buildSlice .. | .makeSlice ..=>some (.mem (Xl o))
 | .panic _=>some .dead
 | .slice t ..=>match P.underlying t with | some .string=>some (.pur (Xl o)) | _=>some (.mem (Xl o))
 | .pick .. | .build .. | .unOp .. | .convert .. | .makeInterface .. | .makeFunc .. | .field .. | .index .. | .extract .. | .typeAssert ..=>some (.pur (Xl o))
 | .range t x=>match P.underlying t with | some (.map _ _)=>some (.rng x) | _=>none
 | .next x false=>some (.nxt x)
 | .entry x=>some (.ent x)
 | .makeMap .. | .lookup .. | .mapEntry ..=>some (.mem (Xl o))
 | .mapUpdate .. | .insert .. | .entryStore ..=>some (.mst (Xl o))
 | _=>none

def Va (P:Program) (n:Nat) (ops:List Oper) (ord:Bool) (o:Oper):Option RO:=
 match Wz P ops ord o with
 | none=>none
 | some ri=>
  bif (match o.dst with | none=>true | some d=>Nat.ble (d+1) n) then
   match o.guard with
   | none=>some { dst:=o.dst,guard:=none,ri }
   | some (j,w)=>match ops[j]? with
    | some g=>match g.dst with
     | some d=>some { dst:=o.dst,guard:=some (d,w),ri }
     | none=>none
    | none=>none
  else none
def YT (P:Program) (n:Nat) (ops:List Oper) (ord:Nat→Bool):List Oper→Nat→Option (List RO)
 | [],_=>some []
 | o :: r,i=>match Va P n ops (ord i) o with
  | none=>none
  | some x=>match YT P n ops ord r (i+1) with
   | none=>none
   | some l=>some (x :: l)
def low (P:Program) (n:Nat):Code→Option RC
 | .skip | .label _=>some .skip
 | .exit id=>some (.exit id)
 | .ret=>some .ret
 | .seq x y=>match low P n x with | none=>none | some a=>match low P n y with | none=>none | some b=>some (.seq a b)
 | .cond o x y=>match low P n x with | none=>none | some a=>match low P n y with | none=>none | some b=>some (.cond o a b)
 | .block id b=>match low P n b with | none=>none | some a=>some (.block id a)
 | .region _ ops draw=>
  bif draw then
   bif U2 ops then
    let anc:=Je ops.toList
    match YT P n ops.toList (fun i=>WM ops.toList anc i) ops.toList 0 with
    | none=>none
    | some l=>some (.dreg l (X2 ops.toList 0 []))
   else none
  else match YT P n ops.toList (fun _=>true) ops.toList 0 with | none=>none | some l=>some (.reg l)
 | .scope b=>match low P n b with | none=>none | some a=>some (.scp a)
 | .loop b=>some (.other (.loop b))
 | .rangeFunc f ps a b=>some (.other (.rangeFunc f ps a b))
 | _=>none

def UZ:Code→List Nat→Code
 | .seq a _,0 :: r=>UZ a r
 | .seq _ b,_ :: r=>UZ b r
 | .cond _ a _,0 :: r=>UZ a r
 | .cond _ _ b,_ :: r=>UZ b r
 | .block _ b,_ :: r=>UZ b r
 | .scope b,_ :: r=>UZ b r
 | .loop b,_ :: r=>UZ b r
 | .rangeFunc _ _ a _,0 :: r=>UZ a r
 | .rangeFunc _ _ _ b,_ :: r=>UZ b r
 | c,_=>c
def at_ (f:Func) (p:List Nat):Code:=UZ (f.body.getD .skip) p

def Hp.up (H:Hp) (b:Nat) (o:Ob):Hp:={ H with t:=H.t.set b o }
def InR (x:Int):Prop:=-9223372036854775808≤x∧x < 9223372036854775808

def XV (P:Program) (kn:Kn) (lo:Nat) (t:Target) (args:List Value) (H:Hp) (v:Value) (H':Hp):Prop:=
 ∃ N,∀ m k,N≤m→N≤k→Yv P kn m k lo t args H=some (.ret v,H')

def ZI (S:Rg) (T:Tr Value):Prop:=∀ j v,lk S j=some v→T.get j=some v

def Tri (P:Program) (kn:Kn) (lo n:Nat) (rd:Bool) (c:Code) (S:Rg) (H:Hp) (K:Exit→Rg→Hp→Prop):Prop:=
 ∀ A:Fr,A.n=n→A.round.isSome=rd→ZI S A.T→
  ∃ e S' H' T',K e S' H'∧ZI S' T'∧∃ N,∀ f m k,N≤f→N≤m→N≤k→Zj P lo (Yv P kn m k) f c A H none=some (e,{ A with T:=T' },H',none)

def YH (S:Rg) (c:Call):Option (Target × List Value):=
 match zq S c.args.toList with
 | none=>none
 | some vs=>
  match c.callee with
  | .builtin _=>none
  | .invoke r name=>match evS S r with | some v=>some (.fn (.method name) #[],v :: vs) | none=>none
  | .value f=>match evS S f with
   | some (.func fn first cap)=>some (.fn fn cap,first.toList ++ vs)
   | _=>none

def W7 (S:Rg):List Operand→Bool
 | []=>true
 | x :: r=>(match evS S x with | some _=>true | none=>false) && W7 S r

section
variable (P:Program) (kn:Kn) (lo n:Nat) (rd:Bool)
def wRI (S:Rg) (H:Hp) (K:Value→Hp→Kd→Prop):RI→Prop
 | .mov x=>match evS S x with | some v=>K v H .pure | none=>False
 | .nilc x=>match evS S x with
  | some (.pointer (some a))=>K (.pointer (some a)) H .pure
  | some (.iface t v)=>K (.iface t v) H .pure
  | some (.func (.func f) a b)=>K (.func (.func f) a b) H .pure
  | some (.func (.yield f) a b)=>K (.func (.yield f) a b) H .pure
  | _=>False
 | .addo x off=>match evS S x with
  | some (.pointer (some ⟨b,o,none⟩))=>K (.pointer (some ⟨b,o+off,none⟩)) H .pure
  | _=>False
 | .idx x i size=>match evS S x,evS S i with
  | some (.slice (some ⟨b,o,none⟩) len _),some (.int _ j)=>∃ k:Nat,j=(k:Int)∧k < len∧K (.pointer (some ⟨b,o+k * size,none⟩)) H .pure
  | _,_=>False
 | .idxa x i len size=>match evS S x,evS S i with
  | some (.pointer (some ⟨b,o,none⟩)),some (.int _ j)=>∃ k:Nat,j=(k:Int)∧k < len∧K (.pointer (some ⟨b,o+k * size,none⟩)) H .pure
  | _,_=>False
 | .ld x _=>match evS S x with
  | some (.pointer (some ⟨b,o,none⟩))=>∃ cs v,cellsOf H b=some cs∧cs[o]? = some v∧K v H (.read b)
  | _=>False
 | .lda x m=>match evS S x with
  | some (.pointer (some ⟨b,o,none⟩))=>∃ cs r,cellsOf H b=some cs∧row m cs o=some r∧K (.agg r.toArray) H (.read b)
  | _=>False
 | .st x y=>match evS S x,evS S y with
  | some (.pointer (some ⟨b,o,none⟩)),some v=>∃ cs e l,H.t.get b=some (.cells cs e l)∧lo≤b∧v.cells.toList=[v]∧one v=true∧o < cs.length∧∀ H1,H.up b (.cells (cs.set o v) e l)=H1→K undef H1 (.store b)
  | _,_=>False
 | .sta x y m=>match evS S x,evS S y with
  | some (.pointer (some ⟨b,o,none⟩)),some v=>∃ cs e l,H.t.get b=some (.cells cs e l)∧lo≤b∧v.cells.toList.length=m∧v.cells.toList.all one=true∧o+m≤cs.length∧∀ H1,H.up b (.cells (Z1 cs o v.cells.toList) e l)=H1→K undef H1 (.store b)
  | _,_=>False
 | .ari op x y=>match op,evS S x,evS S y with
  | .add,some (.int .i64 a),some (.int .i64 b)=>InR (a+b)∧K (.int .i64 (a+b)) H .pure
  | .sub,some (.int .i64 a),some (.int .i64 b)=>InR (a - b)∧K (.int .i64 (a - b)) H .pure
  | .mul,some (.int .i64 a),some (.int .i64 b)=>InR (a * b)∧K (.int .i64 (a * b)) H .pure
  | .quo,some (.int .i64 a),some (.int .i64 b)=>0≤a∧0 < b∧InR a∧K (.int .i64 (a / b)) H .pure
  | .rem,some (.int .i64 a),some (.int .i64 b)=>0≤a∧0 < b∧InR a∧InR b∧K (.int .i64 (a % b)) H .pure
  | _,_,_=>False
 | .cmp op x y=>match op,evS S x,evS S y with
  | .eql,some (.int .i64 a),some (.int .i64 b)=>K (.bool (a == b)) H .pure
  | .neq,some (.int .i64 a),some (.int .i64 b)=>K (.bool (a != b)) H .pure
  | .lss,some (.int .i64 a),some (.int .i64 b)=>K (.bool (decide (a < b))) H .pure
  | .leq,some (.int .i64 a),some (.int .i64 b)=>K (.bool (decide (a≤b))) H .pure
  | .gtr,some (.int .i64 a),some (.int .i64 b)=>K (.bool (decide (a > b))) H .pure
  | .geq,some (.int .i64 a),some (.int .i64 b)=>K (.bool (decide (a ≥ b))) H .pure
  | _,_,_=>False
 | .cmpb op x y=>match op,evS S x,evS S y with
  | .eql,some (.int .i64 a),some (.int .i64 b)=>∀ t,(a == b)=t→K (.bool t) H .pure
  | .neq,some (.int .i64 a),some (.int .i64 b)=>∀ t,(a != b)=t→K (.bool t) H .pure
  | .lss,some (.int .i64 a),some (.int .i64 b)=>∀ t,decide (a < b)=t→K (.bool t) H .pure
  | .leq,some (.int .i64 a),some (.int .i64 b)=>∀ t,decide (a≤b)=t→K (.bool t) H .pure
  | .gtr,some (.int .i64 a),some (.int .i64 b)=>∀ t,decide (a > b)=t→K (.bool t) H .pure
  | .geq,some (.int .i64 a),some (.int .i64 b)=>∀ t,decide (a ≥ b)=t→K (.bool t) H .pure
  | _,_,_=>False
 | .len x=>match evS S x with
  | some (.slice _ m _)=>K (.int .i64 m) H .pure
  | _=>False
 | .mm small x y=>match evS S x,evS S y with
  | some (.int .i64 a),some (.int .i64 b)=>K (.int .i64 (bif small then min a b else max a b)) H .pure
  | _,_=>False
 | .call c ord=>match YH S c with
  | some (t,vs)=>bif !ord && WV t then ∃ v H' b,XV P kn lo t vs H v H'∧lo≤b∧qk t=some b∧b < H.next∧Kj H H' b∧K v H' (.store b)
   else ∃ v H',XV P kn (bif ord then lo else H.next) t vs H v H'∧K v H' (bif ord then .full else .heavy)
  | none=>False
 | .box e x=>match evS S x with
  | some v=>∀ H1,H.new (.cells v.cells.toList e false)=H1→K (ptr H.next) H1 .heavy
  | none=>False
 | .alc e z=>∀ H1,H.new (.cells z e false)=H1→K (ptr H.next) H1 .heavy
 | .dead=>False
 | .rng _=>False
 | .nxt _=>False
 | .ent _=>False
 | .mst o=>W7 S o.op.operands.toList=true∧Zn P (frS n S) o=none∧∃ H' k,Zu P lo (frS n S) H o=some (.skip H',k)∧K undef H' k
 | .pur o=>W7 S o.op.operands.toList=true∧∃ v,Zn P (frS n S) o=some v∧K v H .pure
 | .mem o=>W7 S o.op.operands.toList=true∧((∃ v,Zn P (frS n S) o=some v∧K v H .pure)∨
   (Zn P (frS n S) o=none∧∃ v H' k,Zu P lo (frS n S) H o=some (.val v H',k)∧(∀ b,k=.read b→b < H.next)∧K v H' k))

def Zt (S:Rg) (d:Option Nat) (v:Value):Rg:=match d with | none=>S | some d=>(d,v) :: S

def wRO (S:Rg) (H:Hp) (o:RO) (K:Rg→Hp→Kd→Prop):Prop:=
 match o.guard with
 | none=>wRI P kn lo n S H (fun v H' k=>K (Zt S o.dst v) H' k) o.ri
 | some (g,want)=>match lk S g with
  | some (.bool true)=>bif want then wRI P kn lo n S H (fun v H' k=>K (Zt S o.dst v) H' k) o.ri else K (Zt S o.dst undef) H .pure
  | some (.bool false)=>bif want then K (Zt S o.dst undef) H .pure else wRI P kn lo n S H (fun v H' k=>K (Zt S o.dst v) H' k) o.ri
  | some (.tuple _)=>K (Zt S o.dst undef) H .pure
  | _=>False
def Zp:List RO→Rg→Hp→(Rg→Hp→Prop)→Prop
 | [],S,H,K=>K S H
 | o :: r,S,H,K=>wRO P kn lo n S H o fun S' H' _=>Zp r S' H' K

def Uw:Kd→Kd→Prop
 | .pure,_ | _,.pure=>False
 | .full,_ | _,.full=>True
 | .store b,.read c | .read c,.store b=>b=c
 | .store _,_ | _,.store _=>True
 | _,_=>False
def Ql (k:Kd):Nat→List Kd→Prop
 | _,[]=>True
 | m,c :: cs=>(bif Nat.beq (Nat.mod m 2) 1 then True else ¬ Uw k c)∧Ql k (Nat.div m 2) cs
def K3:List Kd→List Nat→Prop
 | k :: ks,m :: ms=>Ql k m ks.reverse∧K3 ks ms
 | _,_=>True
def Zv (masks:List Nat):List RO→List Kd→Rg→Hp→(Rg→Hp→Prop)→Prop
 | [],ks,S,H,K=>(bif ks.all calm then True else K3 ks masks)∧K S H
 | o :: r,ks,S,H,K=>wRO P kn lo n S H o fun S' H' k=>match k with | .read b=>b < H.next∧Zv masks r (.read b :: ks) S' H' K | k=>Zv masks r (k :: ks) S' H' K

def kdW (o:RO) (H:Hp):Kd→Kd
 | .heavy=>match o.ri with | .alc _ _=>.mk H.next | .box _ _=>.mk H.next | _=>.heavy
 | k=>k
def UK:Kd→Kd→Prop
 | .store b,.mk c | .mk c,.store b=>b=c
 | k,c=>Uw k c
def V3 (k:Kd):Nat→List Kd→Prop
 | _,[]=>True
 | m,c :: cs=>(bif Nat.beq (Nat.mod m 2) 1 then True else ¬ UK k c)∧V3 k (Nat.div m 2) cs
def Kh:List Kd→List Nat→Prop
 | k :: ks,m :: ms=>V3 k m ks.reverse∧Kh ks ms
 | _,_=>True
def VP (masks:List Nat):List RO→List Kd→Rg→Hp→(Rg→Hp→Prop)→Prop
 | [],ks,S,H,K=>Kh ks masks∧K S H
 | o :: r,ks,S,H,K=>wRO P kn lo n S H o fun S' H' k=>match kdW o H k with | .read b=>b < H.next∧VP masks r (.read b :: ks) S' H' K | k=>VP masks r (k :: ks) S' H' K

def wC:RC→Rg→Hp→(Exit→Rg→Hp→Prop)→Prop
 | .skip,S,H,K=>K .normal S H
 | .exit id,S,H,K=>K (.exit id) S H
 | .ret,S,H,K=>K .ret S H
 | .seq x y,S,H,K=>wC x S H fun e S' H'=>match e with | .normal=>wC y S' H' K | e=>K e S' H'
 | .cond o x y,S,H,K=>match evS S o with
  | some (.bool b)=>(b=true→wC x S H K)∧(b=false→wC y S H K)
  | _=>False
 | .block id b,S,H,K=>wC b S H fun e S' H'=>match e with | .exit j=>(bif Nat.beq j id then K .normal S' H' else K (.exit j) S' H') | e=>K e S' H'
 | .scp b,S,H,K=>wC b S H K
 | .reg ops,S,H,K=>Zp P kn lo n ops S H fun S' H'=>K .normal S' H'
 | .dreg ops masks,S,H,K=>Zv P kn lo n masks ops [] S H (fun S' H'=>K .normal S' H')∨Vi lo H∧VP P kn lo n masks ops [] S H fun S' H'=>K .normal S' H'
 | .other c,S,H,K=>Tri P kn lo n rd c S H K
end
end
end Go.Ax

/-! The evaluator for all inputs,2: what is asked is enough for one operation. -/
namespace Go.Ax
open Go Go.RowKit

theorem Zbd:∀ (S:Rg) (j:Nat),(trS S).get j=lk S j
 | [],j=>by simp [trS,Tr.get_nil,lk]
 | (i,v) :: r,j=>by
  simp only [trS,lk,Tr.get_set,Zbd r j,ZE]
  by_cases h:j=i
  ·subst h;simp
  ·rw [if_neg h,decide_eq_false (fun e=>h e.symm)];rfl
theorem Ym (n:Nat) (S:Rg) (x:Operand):ev (frS n S) x=evS S x:=by
 cases x<;>simp [ev,evS,frS,Zbd]
section
variable {S:Rg} {A:Fr}
theorem ZH (hA:ZI S A.T) {x:Operand} {v:Value} (h:evS S x=some v):ev A x=some v:=by
 cases x with
 | tmp t=>exact hA t v h
 | const c=>exact h
 | func f=>exact h
 | global g=>exact h
theorem Zdd (hA:ZI S A.T):∀ {xs:List Operand} {vs:List Value},zq S xs=some vs→evs A xs=some vs
 | [],vs,h=>h
 | x :: xs,vs,h=>by
  simp only [zq] at h
  cases h1:evS S x with
  | none=>simp [h1] at h
  | some v=>
   cases h2:zq S xs with
   | none=>simp [h1,h2] at h
   | some vs'=>
    simp [h1,h2] at h;subst h
    simp only [evs,ZH hA h1,Zdd hA h2]
theorem UQ (hA:ZI S A.T) {c:Call} {p:Target × List Value} (h:YH S c=some p):YN A c=some p:=by
 unfold YH at h
 unfold YN
 cases h1:zq S c.args.toList with
 | none=>simp [h1] at h
 | some vs=>
  simp only [h1] at h
  simp only [Zdd hA h1]
  cases hc:c.callee with
  | builtin b=>simp [hc] at h
  | invoke r name=>
   simp only [hc] at h ⊢
   cases h2:evS S r with
   | none=>simp [h2] at h
   | some v=>simp only [h2] at h;simp only [ZH hA h2];exact h
  | value f=>
   simp only [hc] at h ⊢
   cases h2:evS S f with
   | none=>simp [h2] at h
   | some v=>simp only [h2] at h;simp only [ZH hA h2];exact h
theorem jt:∀ {l:List Operand},W7 S l=true→∀ x∈l,∃ v,evS S x=some v
 | [],_,x,hx=>by cases hx
 | y :: l,h,x,hx=>by
  simp only [W7,Bool.and_eq_true] at h
  cases hx with
  | head=>
   cases h1:evS S y with
   | none=>simp [h1] at h
   | some v=>exact ⟨v,rfl⟩
  | tail _ hx=>exact jt h.2 x hx
theorem Wk (hA:ZI S A.T) {n:Nat} {o:Oper} (h:W7 S o.op.operands.toList=true):∀ x∈o.op.operands,ev A x=ev (frS n S) x:=by
 intro x hx
 obtain ⟨v,hv⟩:=jt h x (by simpa using hx)
 rw [Ym,hv,ZH hA hv]
end

theorem wrap_i64 {x:Int} (h:InR x):IntKind.i64.wrap x=x:=by
 obtain ⟨h1,h2⟩:=h
 unfold IntKind.wrap IntKind.bits IntKind.signed
 simp
 omega
theorem QY (b o k:Nat):Addr.add ⟨b,o,none⟩ k=⟨b,o+k,none⟩:=by
 unfold Addr.add
 by_cases h:k=0
 ·subst h;rfl
 ·rw [if_neg h]

def VF (P:Program) (kn:Kn) (lo:Nat) (ord:Bool) (A:Fr) (H:Hp) (K:Value→Hp→Kd→Prop) (o:Oper):Prop:=
 (∃ v H' k,aOp P lo A H o=some (.val v H',k)∧((∀ b,k=.read b→b < H.next)→jL k H=true)∧K v H' k)∨(∃ H' k,aOp P lo A H o=some (.skip H',k)∧K undef H' k)∨
 (∃ t vs v H',aOp P lo A H o=some (.call t vs,.full)∧(!ord && WV t)=false∧XV P kn (bif ord then lo else H.next) t vs H v H'∧K v H' (bif ord then .full else .heavy))∨
 (∃ t vs v H' b,aOp P lo A H o=some (.call t vs,.full)∧ord=false∧WV t=true∧XV P kn lo t vs H v H'∧Wu lo t H H'=some b∧K v H' (.store b))

theorem Ze5 {k:Kd} {H:Hp}:(∀ b,k=.read b→b < H.next)→jL k H=true:=by
 intro h
 cases k with
 | read b=>exact Nat.ble_eq_true_of_le (h b rfl)
 | _=>rfl

section
variable {P:Program} {kn:Kn} {lo n:Nat} {ops:List Oper} {ord:Bool} {A:Fr} {S:Rg} {H:Hp} {K:Value→Hp→Kd→Prop} {o:Oper}
theorem Ye {v:Value} (h:Zn P A o=some v) (hk:K v H .pure):VF P kn lo ord A H K o:=
 .inl ⟨v,H,.pure,by unfold aOp;rw [h],Ze5,hk⟩
theorem Uk {v:Value} {H':Hp} {k:Kd} (h1:Zn P A o=none) (h2:Zu P lo A H o=some (.val v H',k)) (hk:K v H' k):VF P kn lo ord A H K o:=
 .inl ⟨v,H',k,by unfold aOp;rw [h1];exact h2,Ze5,hk⟩
theorem zM {H':Hp} {k:Kd} (h1:Zn P A o=none) (h2:Zu P lo A H o=some (.skip H',k)) (hk:K undef H' k):VF P kn lo ord A H K o:=
 .inr (.inl ⟨H',k,by unfold aOp;rw [h1];exact h2,hk⟩)


theorem VU (B:Fr) (o:Oper):Zn P B (Xl o)=Zn P B o:=rfl
theorem zn (B:Fr) (o:Oper):Zu P lo B H (Xl o)=Zu P lo B H o:=rfl
theorem XC (hA:ZI S A.T) (h:wRI P kn lo n S H K (.pur (Xl o))):VF P kn lo ord A H K o:=by
 obtain ⟨hd,v,hv,hk⟩:=h
 rw [VU] at hv
 have hd:W7 S o.op.operands.toList=true:=hd
 exact Ye ((X6 (Wk hA hd)).trans hv) hk
theorem US (hA:ZI S A.T) (h:wRI P kn lo n S H K (.mem (Xl o))):VF P kn lo ord A H K o:=by
 obtain ⟨hd,⟨v,hv,hk⟩ | ⟨h1,v,H',k,h2,_,hk⟩⟩:=h
 all_goals have hd:W7 S o.op.operands.toList=true:=hd
 ·rw [VU] at hv
  exact Ye ((X6 (Wk hA hd)).trans hv) hk
 ·rw [VU] at h1
  rw [zn] at h2
  exact Uk ((X6 (Wk hA hd)).trans h1) ((VY (Wk hA hd)).trans h2) hk
theorem ZbO (hA:ZI S A.T) (h:wRI P kn lo n S H K (.mst (Xl o))):VF P kn lo ord A H K o:=by
 obtain ⟨hd,h1,H',k,h2,hk⟩:=h
 have hd:W7 S o.op.operands.toList=true:=hd
 rw [VU] at h1
 rw [zn] at h2
 exact zM ((X6 (Wk hA hd)).trans h1) ((VY (Wk hA hd)).trans h2) hk
theorem ZaM {c:Call} (hb:∀ b,c.callee≠.builtin b) (hop:o.op=.call c) (hA:ZI S A.T) (h:wRI P kn lo n S H K (.call c ord)):VF P kn lo ord A H K o:=by
 simp only [wRI] at h
 split at h<;>first | exact h.elim | skip
 rename_i t vs ht
 have e1:aOp P lo A H o=some (.call t vs,.full):=by
  have e:Zn P A o=none:=by
   unfold Zn;rw [hop]
   cases hcal:c.callee with
   | builtin b=>exact absurd hcal (hb b)
   | _=>simp only [hcal]
  unfold aOp
  rw [e]
  unfold Zu
  rw [hop]
  cases hcal:c.callee with
  | builtin b=>exact absurd hcal (hb b)
  | _=>simp only [hcal,UQ hA ht]
 cases hm:(!ord && WV t) with
 | false=>
  rw [hm] at h
  simp only [cond_false] at h
  obtain ⟨v,H',hc,hk⟩:=h
  exact .inr (.inr (.inl ⟨t,vs,v,H',e1,hm,hc,hk⟩))
 | true=>
  rw [hm] at h
  simp only [cond_true] at h
  obtain ⟨v,H',b,hc,h1,h2,h3,h4,hk⟩:=h
  simp only [Bool.and_eq_true,Bool.not_eq_true'] at hm
  refine .inr (.inr (.inr ⟨t,vs,v,H',b,e1,hm.1,hm.2,hc,?_,hk⟩))
  unfold Wu
  rw [h2]
  simp only
  rw [if_pos ⟨h1,h4⟩]

theorem Zda {a b:Int} (ha:0≤a) (_hb:0 < b):a.tdiv b=a / b:=Int.tdiv_eq_ediv_of_nonneg ha
theorem ZcM {a b:Int} (ha:0≤a):a.tmod b=a % b:=Int.tmod_eq_emod_of_nonneg ha
theorem ZbE {op:BinOp} {t ty:TypeId} {x y:Operand} (hop:o.op=.binOp op t x y ty) (hA:ZI S A.T) (h:wRI P kn lo n S H K (.ari op x y)):VF P kn lo ord A H K o:=by
 simp only [wRI] at h
 split at h<;>first | exact h.elim | skip
 ·rename_i a b h1 h2
  obtain ⟨hr,h⟩:=h
  refine Ye ?_ h
  have:Zn P A o=some (.int .i64 (IntKind.i64.wrap (a+b))):=by unfold Zn;rw [hop];simp only [ZH hA h1,ZH hA h2];rfl
  rw [this,wrap_i64 hr]
 ·rename_i a b h1 h2
  obtain ⟨hr,h⟩:=h
  refine Ye ?_ h
  have:Zn P A o=some (.int .i64 (IntKind.i64.wrap (a - b))):=by unfold Zn;rw [hop];simp only [ZH hA h1,ZH hA h2];rfl
  rw [this,wrap_i64 hr]
 ·rename_i a b h1 h2
  obtain ⟨hr,h⟩:=h
  refine Ye ?_ h
  have:Zn P A o=some (.int .i64 (IntKind.i64.wrap (a * b))):=by unfold Zn;rw [hop];simp only [ZH hA h1,ZH hA h2];rfl
  rw [this,wrap_i64 hr]
 ·rename_i a b h1 h2
  obtain ⟨ha,hb,hr,h⟩:=h
  refine Ye ?_ h
  have:Zn P A o=match ZB P (Op.intDiv .quo .i64 a b) with | some v=>bif ZS v then some v else none | none=>none:=by unfold Zn;rw [hop];simp only [ZH hA h1,ZH hA h2];rfl
  rw [this]
  unfold Op.intDiv
  rw [if_neg (by omega)]
  simp only [Zda ha hb]
  show some (Value.int .i64 (IntKind.i64.wrap (a / b)))=_
  rw [wrap_i64 ⟨by have:=Int.ediv_nonneg ha (Int.le_of_lt hb);omega,by have:=Int.ediv_le_self b ha;have:=hr.2;omega⟩]
 ·rename_i a b h1 h2
  obtain ⟨ha,hb,hr,hr2,h⟩:=h
  refine Ye ?_ h
  have:Zn P A o=match ZB P (Op.intDiv .rem .i64 a b) with | some v=>bif ZS v then some v else none | none=>none:=by unfold Zn;rw [hop];simp only [ZH hA h1,ZH hA h2];rfl
  rw [this]
  unfold Op.intDiv
  rw [if_neg (by omega)]
  simp only [ZcM ha]
  rfl
theorem ZbR {op:BinOp} {t ty:TypeId} {x y:Operand} (hop:o.op=.binOp op t x y ty) (hA:ZI S A.T) (h:wRI P kn lo n S H K (.cmp op x y)):VF P kn lo ord A H K o:=by
 simp only [wRI] at h
 split at h<;>first | exact h.elim | skip
 all_goals
  rename_i a b h1 h2
  refine Ye ?_ h
  unfold Zn;rw [hop];simp only [ZH hA h1,ZH hA h2];rfl
theorem j9 {op:BinOp} {t ty:TypeId} {x y:Operand} (hop:o.op=.binOp op t x y ty) (hA:ZI S A.T) (h:wRI P kn lo n S H K (.cmpb op x y)):VF P kn lo ord A H K o:=by
 simp only [wRI] at h
 split at h<;>first | exact h.elim | skip
 all_goals
  rename_i a b h1 h2
  refine Ye ?_ (h _ rfl)
  unfold Zn;rw [hop];simp only [ZH hA h1,ZH hA h2];rfl
theorem Zgv (a b:Int):(if b < a then b else a)=min a b:=by
 rw [Int.min_def]
 split<;>split<;>omega
theorem ZgC (a b:Int):(if b > a then b else a)=max a b:=by
 rw [Int.max_def]
 split<;>split<;>omega

theorem UT {ri:RI} (hl:Wz P ops ord o=some ri) (hA:ZI S A.T) (h:wRI P kn lo n S H K ri):VF P kn lo ord A H K o:=by
 unfold Wz at hl
 split at hl<;>(rename_i hop;first | (cases hl;done) | skip)
 case h_1 x=>
  cases hl
  simp only [wRI] at h
  split at h<;>first | exact h.elim | skip
  rename_i v hv
  exact Ye (by unfold Zn;rw [hop];exact ZH hA hv) h
 case h_2 x=>
  cases hl
  simp only [wRI] at h
  split at h<;>first | exact h.elim | skip
  rename_i v hv
  exact Ye (by unfold Zn;rw [hop];exact ZH hA hv) h
 case h_3 x=>
  cases hl
  simp only [wRI] at h
  split at h<;>first | exact h.elim | skip
  all_goals
   rename_i hv
   exact Ye (by unfold Zn;rw [hop];simp only [ZH hA hv]) h
 case h_4 s x f=>
  split at hl<;>first | (cases hl;done) | skip
  rename_i fs hs
  split at hl<;>first | (cases hl;done) | skip
  rename_i fd hf
  split at hl<;>first | (cases hl;done) | skip
  rename_i i hi
  cases hz:Nat.beq i.size 0 with
  | true=>rw [hz] at hl;cases hl
  | false=>
   rw [hz] at hl;cases hl
   simp only [wRI] at h
   split at h<;>first | exact h.elim | skip
   rename_i b o' hv
   exact Ye (by unfold Zn;rw [hop];simp only [ZH hA hv,hs,hf,hi,hz,cond_false,QY]) h
 case h_5 t x i=>
  split at hl<;>first | (cases hl;done) | skip
  ·rename_i e ht
   split at hl<;>first | (cases hl;done) | skip
   rename_i inf hi
   cases hl
   simp only [wRI] at h
   split at h<;>first | exact h.elim | skip
   rename_i b o' len cp kd j h1 h2
   obtain ⟨k,rfl,hk,h⟩:=h
   exact Ye (by unfold Zn;rw [hop];simp only [ZH hA h1,ZH hA h2,ht,hi,show ((k:Nat):Int)=Int.ofNat k from rfl,Nat.ble_eq_true_of_le (show k+1≤len from hk),cond_true,QY]) h
  ·rename_i len e ht
   split at hl<;>first | (cases hl;done) | skip
   rename_i inf hi
   cases hl
   simp only [wRI] at h
   split at h<;>first | exact h.elim | skip
   rename_i b o' kd j h1 h2
   obtain ⟨k,rfl,hk,h⟩:=h
   exact Ye (by unfold Zn;rw [hop];simp only [ZH hA h1,ZH hA h2,ht,hi,show ((k:Nat):Int)=Int.ofNat k from rfl,Nat.ble_eq_true_of_le (show k+1≤len from hk),cond_true,QY]) h
 case h_6 t x=>
  split at hl<;>first | (cases hl;done) | skip
  ·rename_i i hi ha
   cases hl
   simp only [wRI] at h
   split at h<;>first | exact h.elim | skip
   rename_i b o' hv
   obtain ⟨cs,r,hc,hr,h⟩:=h
   exact Uk (by unfold Zn;rw [hop]) (by unfold Zu;rw [hop];simp only [ZH hA hv,Vb,hc,ha,hi,hr]) h
  ·rename_i i hi ha
   cases hl
   simp only [wRI] at h
   split at h<;>first | exact h.elim | skip
   rename_i b o' hv
   obtain ⟨cs,v,hc,hr,h⟩:=h
   exact Uk (by unfold Zn;rw [hop]) (by unfold Zu;rw [hop];simp only [ZH hA hv,Vb,hc,ha,hr]) h
 case h_7 t x y=>
  split at hl<;>first | (cases hl;done) | skip
  rename_i i hi
  have key:∀ m,i.size=m→wRI P kn lo n S H K (.sta x y m)→VF P kn lo ord A H K o:=by
   intro m hm h
   simp only [wRI] at h
   split at h<;>first | exact h.elim | skip
   rename_i b o' v h1 h2
   obtain ⟨cs,e,l,hc,hlo,hv1,hv2,ho,h⟩:=h
   refine zM (by unfold Zn;rw [hop]) (k:=.store b) (H':=H.up b (.cells (Z1 cs o' v.cells.toList) e l)) ?_ (h _ rfl)
   unfold Zu
   rw [hop]
   simp only [ZH hA h1,ZH hA h2,U9,hc,hi,hm,Nat.ble_eq_true_of_le hlo,Nat.ble_eq_true_of_le ho,hv1,hv2,Nat.beq_refl,Bool.and_true,cond_true]
   rfl
  cases hz:Nat.beq i.size 1 with
  | false=>rw [hz] at hl;cases hl;exact key _ rfl h
  | true=>
   rw [hz] at hl
   simp only [cond_true] at hl
   split at hl
   ·cases hl
    refine key 1 (Nat.eq_of_beq_eq_true hz) ?_
    simp only [wRI] at h ⊢
    split at h<;>first | exact h.elim | skip
    rename_i b o' v h1 h2
    obtain ⟨cs,e,l,hc,hlo,hv1,hv2,ho,h⟩:=h
    refine ⟨cs,e,l,hc,hlo,by rw [hv1];rfl,by rw [hv1];simp [hv2],ho,?_⟩
    rw [hv1]
    exact h
   ·cases hl;exact key _ rfl h
 case h_8 op t x y ty=>
  cases hi:zL P t with
  | false=>
   rw [hi] at hl
   simp only [cond_false] at hl
   cases hpt:ZhG P op t with
   | true=>rw [hpt] at hl;cases hl;exact US hA h
   | false=>rw [hpt] at hl;cases hl;exact XC hA h
  | true=>
   rw [hi] at hl
   simp only [cond_true] at hl
   cases ha:Zfs op with
   | true=>rw [ha] at hl;cases hl;exact ZbE hop hA h
   | false=>
    rw [ha] at hl
    simp only [cond_false] at hl
    cases hc:jX op with
    | true=>
     rw [hc] at hl
     simp only [cond_true] at hl
     cases hg:ja ops with
     | true=>rw [hg] at hl;cases hl;exact j9 hop hA h
     | false=>rw [hg] at hl;cases hl;exact ZbR hop hA h
    | false=>rw [hc] at hl;cases hl;exact XC hA h
 case h_9 e x=>
  cases hl
  simp only [wRI] at h
  split at h<;>first | exact h.elim | skip
  rename_i v hv
  exact Uk (by unfold Zn;rw [hop]) (by unfold Zu;rw [hop];simp only [ZH hA hv]) (h _ rfl)
 case h_10 e=>
  split at hl<;>first | (cases hl;done) | skip
  rename_i z hz
  cases hl
  simp only [wRI] at h
  exact Uk (by unfold Zn;rw [hop]) (by unfold Zu;rw [hop];simp only [hz]) (h _ rfl)
 case h_11 c=>
  split at hl
  ·rename_i hcal
   split at hl<;>first | (cases hl;done) | skip
   rename_i t ht
   split at hl
   ·rename_i e x hu hargs
    cases hl
    simp only [wRI] at h
    split at h<;>first | exact h.elim | skip
    rename_i a m cp hv
    refine Ye ?_ h
    unfold Zn
    rw [hop]
    simp only [hcal,hargs,evs,ZH hA hv,VG,ht,hu]
   ·cases hl;exact XC hA h
  ·rename_i hcal
   split at hl
   ·rename_i x y hargs
    cases hi:zL P o.type with
    | false=>rw [hi] at hl;cases hl;exact XC hA h
    | true=>
     rw [hi] at hl;cases hl
     simp only [wRI] at h
     split at h<;>first | exact h.elim | skip
     rename_i a b h1 h2
     refine Ye ?_ h
     unfold Zn
     rw [hop]
     simp only [hcal,hargs,evs,ZH hA h1,ZH hA h2,cond_true]
     show some (Value.int .i64 (if b < a then b else a))=_
     rw [Zgv]
   ·cases hl;exact XC hA h
  ·rename_i hcal
   split at hl
   ·rename_i x y hargs
    cases hi:zL P o.type with
    | false=>rw [hi] at hl;cases hl;exact XC hA h
    | true=>
     rw [hi] at hl;cases hl
     simp only [wRI] at h
     split at h<;>first | exact h.elim | skip
     rename_i a b h1 h2
     refine Ye ?_ h
     unfold Zn
     rw [hop]
     simp only [hcal,hargs,evs,ZH hA h1,ZH hA h2,cond_false]
     show some (Value.int .i64 (if b > a then b else a))=_
     rw [ZgC]
   ·cases hl;exact XC hA h
  ·cases hl;exact US hA h
  ·rename_i hcal
   cases hl;exact ZaM (fun b e=>hcal b e) hop hA h
 case h_15=>
  split at hl
  ·cases hl;exact XC hA h
  ·cases hl;exact US hA h
 all_goals first
  | (cases hl;exact US hA h)
  | (cases hl;exact ZbO hA h)
  | (cases hl;exact XC hA h)
  | (cases hl;exact False.elim h)
  | (split at hl<;>first | (cases hl;done) | (cases hl;exact False.elim h))
end
end Go.Ax

/-! The evaluator for all inputs,3: what is asked is enough for regions and code. -/
namespace Go.Ax
open Go Go.RowKit

noncomputable def Yx (T:Tr Value) (d:Option Nat) (v:Value):Tr Value:=match d with | none=>T | some d=>T.set d v
theorem ZD {S:Rg} {T:Tr Value} (h:ZI S T) (d:Option Nat) (v:Value):ZI (Zt S d v) (Yx T d v):=by
 cases d with
 | none=>exact h
 | some d=>
  intro j u hj
  simp only [Zt,lk,ZE] at hj
  simp only [Yx,Tr.get_set]
  by_cases e:j=d
  ·subst e;simpa using hj
  ·rw [decide_eq_false (fun q=>e q.symm)] at hj
   rw [if_neg e]
   exact h j u hj
theorem yJ {A:Fr} {d:Option Nat} (h:(match d with | none=>true | some d=>Nat.ble (d+1) A.n)=true) (v:Value):A.put d v=some { A with T:=Yx A.T d v }:=by
 cases d with
 | none=>rfl
 | some d=>simp only [Fr.put];simp only at h;rw [h];rfl

section
variable {P:Program} {kn:Kn} {lo n:Nat}

theorem Vz {ops:Array Oper} {ord:Bool} {A:Fr} {S:Rg} {H:Hp} {K:Rg→Hp→Kd→Prop} {o:Oper} {ro:RO} (hl:Va P n ops.toList ord o=some ro) (hA:ZI S A.T) (hn:A.n=n) (h:wRO P kn lo n S H ro K) :
  (∀ v,A.put o.dst v=some { A with T:=Yx A.T o.dst v })∧
  ((ZA ops A o=some false∧K (Zt S o.dst undef) H .pure)∨(ZA ops A o=some true∧VF P kn lo ord A H (fun v H' k=>K (Zt S o.dst v) H' k) o)):=by
 unfold Va at hl
 split at hl<;>first | (cases hl;done) | skip
 rename_i ri hri
 obtain ⟨hd,hl⟩:=Ze hl
 refine ⟨yJ (by rw [hn];exact hd),?_⟩
 split at hl
 ·rename_i hg
  cases hl
  simp only [wRO] at h
  exact .inr ⟨by unfold ZA;rw [hg],UT hri hA h⟩
 ·rename_i j w hg
  split at hl<;>first | (cases hl;done) | skip
  rename_i g hj
  split at hl<;>first | (cases hl;done) | skip
  rename_i d hgd
  cases hl
  have hj':ops[j]? = some g:=by simpa using hj
  simp only [wRO] at h
  split at h<;>first | exact h.elim | skip
  ·rename_i hb
   have hw:ZA ops A o=some (true == w):=by unfold ZA;rw [hg];simp only [hj',hgd,hA d _ hb]
   cases w with
   | true=>exact .inr ⟨by rw [hw];rfl,UT hri hA h⟩
   | false=>exact .inl ⟨by rw [hw];rfl,h⟩
  ·rename_i hb
   have hw:ZA ops A o=some (false == w):=by unfold ZA;rw [hg];simp only [hj',hgd,hA d _ hb]
   cases w with
   | true=>exact .inl ⟨by rw [hw];rfl,h⟩
   | false=>exact .inr ⟨by rw [hw];rfl,UT hri hA h⟩
  ·rename_i vs hb
   exact .inl ⟨by unfold ZA;rw [hg];simp only [hj',hgd,hA d _ hb],h⟩

theorem KX {ops:Array Oper}:∀ (rest pre:List Oper) {rl:List RO} {A:Fr} {S:Rg} {H:Hp} {K:Rg→Hp→Prop},ops.toList=pre ++ rest→YT P n ops.toList (fun _=>true) rest pre.length=some rl→ZI S A.T→A.n=n→Zp P kn lo n rl S H K→
  ∃ S' H' T',K S' H'∧ZI S' T'∧∃ N,∀ m k,N≤m→N≤k→Z0 P lo (Yv P kn m k) ops (List.range' pre.length rest.length) A H none=some (.normal,{ A with T:=T' },H',none)
 | [],pre,rl,A,S,H,K,he,hl,hA,hn,h=>by
  simp only [YT] at hl;cases hl
  exact ⟨S,H,A.T,h,hA,0,fun m k _ _=>rfl⟩
 | o :: rest,pre,rl,A,S,H,K,he,hl,hA,hn,h=>by
  simp only [YT] at hl
  split at hl<;>first | (cases hl;done) | skip
  rename_i ro hro
  split at hl<;>first | (cases hl;done) | skip
  rename_i l hrest
  cases hl
  simp only [Zp] at h
  have ho:ops[pre.length]? = some o:=by
   have:ops.toList[pre.length]? = some o:=by rw [he];simp
   simpa using this
  have he2:ops.toList=(pre ++ [o]) ++ rest:=by rw [he];simp
  have ih:=fun {A':Fr} {S':Rg} {H':Hp} (hA':ZI S' A'.T) (hn':A'.n=n) (h':Zp P kn lo n l S' H' K)=>KX rest (pre ++ [o]) (rl:=l) he2 (by simpa using hrest) hA' hn' h'
  simp only [List.length_append,List.length_singleton] at ih
  obtain ⟨hput,hcase⟩:=Vz hro hA hn h
  have hr:List.range' pre.length (o :: rest).length=pre.length :: List.range' (pre.length+1) rest.length:=by simp [List.range']
  rw [hr]
  rcases hcase with ⟨hw,h⟩ | ⟨hw,hdone⟩
  ·obtain ⟨S',H',T',a,b,N,c⟩:=ih (A':={ A with T:=Yx A.T o.dst undef }) (ZD hA o.dst undef) hn h
   refine ⟨S',H',T',a,b,N,fun m k hm hk=>?_⟩
   rw [Z0]
   simp only [ho,hw,hput]
   exact c m k hm hk
  ·rcases hdone with ⟨v,H1,kd,e,_,h⟩ | ⟨H1,kd,e,h⟩ | ⟨t,vs,v,H1,e,_,⟨N1,hc⟩,h⟩ | ⟨_,_,_,_,_,_,hf,_⟩
   rotate_right
   ·cases hf
   ·obtain ⟨S',H',T',a,b,N,c⟩:=ih (A':={ A with T:=Yx A.T o.dst v }) (ZD hA o.dst v) hn h
    refine ⟨S',H',T',a,b,N,fun m k hm hk=>?_⟩
    rw [Z0]
    simp only [ho,hw,e,hput]
    exact c m k hm hk
   ·obtain ⟨S',H',T',a,b,N,c⟩:=ih (A':={ A with T:=Yx A.T o.dst undef }) (ZD hA o.dst undef) hn h
    refine ⟨S',H',T',a,b,N,fun m k hm hk=>?_⟩
    rw [Z0]
    simp only [ho,hw,e,hput]
    exact c m k hm hk
   ·obtain ⟨S',H',T',a,b,N,c⟩:=ih (A':={ A with T:=Yx A.T o.dst v }) (ZD hA o.dst v) hn h
    refine ⟨S',H',T',a,b,N+N1,fun m k hm hk=>?_⟩
    rw [Z0]
    have:=hc m k (by omega) (by omega)
    simp only [cond_true] at this
    simp only [ho,hw,e,this,hput]
    exact c m k (by omega) (by omega)

theorem QK {H:Hp} {k:Kd} {X:Kd→Prop} (h:match k with | .read b=>b < H.next∧X (.read b) | k=>X k):(∀ b,k=.read b→b < H.next)∧X k:=by
 cases k with
 | read b=>exact ⟨fun c e=>(by cases e;exact h.1),h.2⟩
 | _=>exact ⟨fun c e=>(by cases e),h⟩
def Vh:Kd→Kd
 | .mk _=>.heavy
 | k=>k
theorem Zb6 {A:Fr} {H H':Hp} {o:Oper} {v:Value} {k:Kd} (h:aOp P lo A H o=some (.val v H',k)):Vh (yR o H k)=k:=by
 cases k with
 | heavy=>unfold yR;cases Jo o<;>rfl
 | mk b=>
  exfalso
  unfold aOp at h
  split at h
  ·cases h
  ·exact UC h
 | _=>rfl
theorem ZbT {A:Fr} {H H':Hp} {o:Oper} {k:Kd} (h:aOp P lo A H o=some (.skip H',k)):Vh k=k:=by
 cases k with
 | mk b=>
  exfalso
  unfold aOp at h
  split at h
  ·cases h
  ·exact UC h
 | _=>rfl
theorem Zb0 (ks:List Kd):(ks.map Vh).all calm=ks.all calm:=by
 rw [List.all_map]
 congr 1
 funext k
 cases k<;>rfl
theorem Zab (k c:Kd):YX (Vh k) (Vh c)=YX k c:=by cases k<;>cases c<;>rfl
theorem Kr (k:Kd) (m:Nat):∀ (cs:List Kd) (n:Nat),Z4.belowG YX (Vh k) m (cs.map Vh) n=Z4.belowG YX k m cs n
 | [],_=>rfl
 | c :: cs,n=>by simp only [List.map_cons,Z4.belowG,Zab,Kr k m cs]
theorem ze:∀ (ks:List Kd) (ms:List Nat),Z4 YX (ks.map Vh) ms=Z4 YX ks ms
 | [],ms=>by simp [Z4]
 | k :: ks,[]=>by simp [Z4]
 | k :: ks,m :: ms=>by
  have:=Kr k m ks ks.length
  simp only [List.map_cons,Z4,List.length_map,ze ks ms,this]
theorem JZ {ops:Array Oper} {masks:List Nat}:∀ (rest pre:List Oper) {rl:List RO} {A:Fr} {S:Rg} {H:Hp} {ks:List Kd} {K:Rg→Hp→Prop},ops.toList=pre ++ rest→YT P n ops.toList (fun i=>WM ops.toList (Je ops.toList) i) rest pre.length=some rl→ZI S A.T→A.n=n→Zv P kn lo n masks rl (ks.map Vh) S H K→
  ∃ S' H' T' ks',K S' H'∧(bif (ks'.map Vh).all calm then True else K3 (ks'.map Vh) masks)∧ZI S' T'∧∃ N,∀ m k,N≤m→N≤k→Yi P lo (Yv P kn m k) ops rest pre.length ks A H=some (ks',{ A with T:=T' },H')
 | [],pre,rl,A,S,H,ks,K,he,hl,hA,hn,h=>by
  simp only [YT] at hl;cases hl
  exact ⟨S,H,A.T,ks,h.2,h.1,hA,0,fun m k _ _=>rfl⟩
 | o :: rest,pre,rl,A,S,H,ks,K,he,hl,hA,hn,h=>by
  simp only [YT] at hl
  split at hl<;>first | (cases hl;done) | skip
  rename_i ro hro
  split at hl<;>first | (cases hl;done) | skip
  rename_i l hrest
  cases hl
  simp only [Zv] at h
  have he2:ops.toList=(pre ++ [o]) ++ rest:=by rw [he];simp
  have ih:=fun {A':Fr} {S':Rg} {H':Hp} {ks':List Kd} (hA':ZI S' A'.T) (hn':A'.n=n) (h':Zv P kn lo n masks l (ks'.map Vh) S' H' K)=>JZ rest (pre ++ [o]) (rl:=l) he2 (by simpa using hrest) hA' hn' h'
  simp only [List.length_append,List.length_singleton] at ih
  obtain ⟨hput,hcase⟩:=Vz hro hA hn h
  rcases hcase with ⟨hw,h⟩ | ⟨hw,hdone⟩
  ·obtain ⟨S',H',T',ks',a,a2,b,N,c⟩:=ih (ks':=.pure :: ks) (A':={ A with T:=Yx A.T o.dst undef }) (ZD hA o.dst undef) hn h
   refine ⟨S',H',T',ks',a,a2,b,N,fun m k hm hk=>?_⟩
   rw [Yi]
   simp only [hw,hput]
   exact c m k hm hk
  ·rcases hdone with ⟨v,H1,kd,e,hkd,h⟩ | ⟨H1,kd,e,h⟩ | ⟨t,vs,v,H1,e,hmk,⟨N1,hc⟩,h⟩ | ⟨t,vs,v,H1,bk,e,hord,hmk,⟨N1,hc⟩,hob,h⟩
   ·obtain ⟨hb,h⟩:=QK (X:=fun k=>Zv P kn lo n masks l (k :: ks.map Vh) (Zt S o.dst v) H1 K) h
    rw [← Zb6 e,← List.map_cons] at h
    obtain ⟨S',H',T',ks',a,a2,b,N,c⟩:=ih (A':={ A with T:=Yx A.T o.dst v }) (ZD hA o.dst v) hn h
    refine ⟨S',H',T',ks',a,a2,b,N,fun m k hm hk=>?_⟩
    rw [Yi]
    have hkd:jL kd H=true:=hkd hb
    simp only [hw,e,hkd,hput,cond_true]
    exact c m k hm hk
   ·obtain ⟨_,h⟩:=QK (X:=fun k=>Zv P kn lo n masks l (k :: ks.map Vh) (Zt S o.dst undef) H1 K) h
    rw [← ZbT e,← List.map_cons] at h
    obtain ⟨S',H',T',ks',a,a2,b,N,c⟩:=ih (A':={ A with T:=Yx A.T o.dst undef }) (ZD hA o.dst undef) hn h
    refine ⟨S',H',T',ks',a,a2,b,N,fun m k hm hk=>?_⟩
    rw [Yi]
    simp only [hw,e,hput]
    exact c m k hm hk
   ·cases ho:WM ops.toList (Je ops.toList) pre.length with
    | true=>
     simp only [ho,cond_true] at hc h
     obtain ⟨S',H',T',ks',a,a2,b,N,c⟩:=ih (ks':=.full :: ks) (A':={ A with T:=Yx A.T o.dst v }) (ZD hA o.dst v) hn h
     refine ⟨S',H',T',ks',a,a2,b,N+N1,fun m k hm hk=>?_⟩
     rw [Yi]
     simp only [hw,e,ho,cond_true,hc m k (by omega) (by omega),hput]
     exact c m k (by omega) (by omega)
    | false=>
     simp only [ho,cond_false] at hc h
     obtain ⟨S',H',T',ks',a,a2,b,N,c⟩:=ih (ks':=.heavy :: ks) (A':={ A with T:=Yx A.T o.dst v }) (ZD hA o.dst v) hn h
     refine ⟨S',H',T',ks',a,a2,b,N+N1,fun m k hm hk=>?_⟩
     rw [Yi]
     have hmk:WV t=false:=by simpa [ho] using hmk
     simp only [hw,e,ho,hmk,cond_false,hc m k (by omega) (by omega),hput]
     exact c m k (by omega) (by omega)
   ·obtain ⟨S',H',T',ks',a,a2,b,N,c⟩:=ih (ks':=.store bk :: ks) (A':={ A with T:=Yx A.T o.dst v }) (ZD hA o.dst v) hn h
    refine ⟨S',H',T',ks',a,a2,b,N+N1,fun m k hm hk=>?_⟩
    rw [Yi]
    simp only [hw,e,hord,hmk,cond_false,cond_true,hc m k (by omega) (by omega),hob,hput]
    exact c m k (by omega) (by omega)

theorem ZcR {k c:Kd} (h:¬ Uw k c):YX k c=false:=by
 cases k<;>cases c<;>simp_all [Uw,YX,ZE]
theorem JS {k c:Kd}:∀ (l:List Kd) (m:Nat),Ql k m (l ++ [c])→Ql k m l∧(m.testBit l.length=true∨¬ Uw k c)
 | [],m,h=>by
  simp only [List.nil_append,Ql] at h
  refine ⟨trivial,?_⟩
  cases hb:Nat.beq (Nat.mod m 2) 1 with
  | true=>
   left
   have:=Nat.eq_of_beq_eq_true hb
   simp only [List.length_nil,Nat.testBit_zero]
   exact decide_eq_true this
  | false=>rw [hb] at h;exact .inr h.1
 | d :: l,m,h=>by
  simp only [List.cons_append,Ql] at h
  obtain ⟨h1,h2⟩:=JS l _ h.2
  refine ⟨⟨h.1,h1⟩,h2.imp (fun q=>?_) id⟩
  simp only [List.length_cons]
  rw [Nat.testBit_succ]
  exact q
theorem jK {k:Kd} {m:Nat}:∀ (cs:List Kd),Ql k m cs.reverse→Z4.belowG YX k m cs cs.length=true
 | [],_=>rfl
 | c :: cs,h=>by
  rw [List.reverse_cons] at h
  obtain ⟨h1,h2⟩:=JS _ _ h
  simp only [Z4.belowG,Bool.and_eq_true,List.length_cons,Nat.add_sub_cancel]
  refine ⟨?_,jK cs h1⟩
  rw [List.length_reverse] at h2
  rcases h2 with h2 | h2
  ·rw [h2];simp
  ·simp [ZcR h2]
theorem qM:∀ (ks:List Kd) (ms:List Nat),K3 ks ms→Z4 YX ks ms=true
 | [],ms,_=>by simp [Z4]
 | k :: ks,[],_=>by simp [Z4]
 | k :: ks,m :: ms,h=>by
  simp only [Z4,Bool.and_eq_true]
  exact ⟨jK ks h.1,qM ks ms h.2⟩

theorem Zcx {lo:Nat} {H:Hp} (h:Vi lo H):zE lo H=true:=by
 unfold zE
 refine List.all_eq_true.2 fun b hb=>?_
 have hb:=List.mem_range.1 hb
 cases hg:H.t.get b with
 | none=>simp
 | some ob=>
  cases ob with
  | ro cs=>
   have:=h b cs hb hg
   simp only [Bool.or_false]
   exact Nat.ble_eq_true_of_le this
  | _=>simp
def Zct (a w:Kd):Prop:=a=w∨(w=.heavy∧∃ b,a=.mk b)
inductive zw:List Kd→List Kd→Prop
 | nil:zw [] []
 | cons {a w:Kd} {as_ ws:List Kd}:Zct a w→zw as_ ws→zw (a :: as_) (w :: ws)
theorem zw.length_eq:∀ {as_ ws:List Kd},zw as_ ws→as_.length=ws.length
 | _,_,.nil=>rfl
 | _,_,.cons _ h=>congrArg (· + 1) h.length_eq
theorem Zaj {a w c d:Kd} (h:Zct a w) (k:Zct c d) (hn:¬ UK w d):Ys a c=false:=by
 rcases h with rfl | ⟨rfl,b,rfl⟩<;>rcases k with rfl | ⟨rfl,e,rfl⟩
 ·cases a<;>cases c<;>simp_all [UK,Ys,Uw,YX,ZE]
 ·cases a<;>simp_all [UK,Ys,Uw,YX,ZE]
 ·cases c<;>simp_all [UK,Ys,Uw,YX,ZE]
 ·simp [Ys,YX]
theorem Qv {k c:Kd}:∀ (l:List Kd) (m:Nat),V3 k m (l ++ [c])→V3 k m l∧(m.testBit l.length=true∨¬ UK k c)
 | [],m,h=>by
  simp only [List.nil_append,V3] at h
  refine ⟨trivial,?_⟩
  cases hb:Nat.beq (Nat.mod m 2) 1 with
  | true=>
   left
   have:=Nat.eq_of_beq_eq_true hb
   simp only [List.length_nil,Nat.testBit_zero]
   exact decide_eq_true this
  | false=>rw [hb] at h;exact .inr h.1
 | d :: l,m,h=>by
  simp only [List.cons_append,V3] at h
  obtain ⟨h1,h2⟩:=Qv l _ h.2
  refine ⟨⟨h.1,h1⟩,h2.imp (fun q=>?_) id⟩
  simp only [List.length_cons]
  rw [Nat.testBit_succ]
  exact q
theorem zO {a k:Kd} {m:Nat} (hk:Zct a k):∀ (as_ cs:List Kd),zw as_ cs→V3 k m cs.reverse→Z4.belowG Ys a m as_ as_.length=true
 | _,_,.nil,_=>rfl
 | x :: as_,c :: cs,.cons hx hl,h=>by
  rw [List.reverse_cons] at h
  obtain ⟨h1,h2⟩:=Qv _ _ h
  simp only [Z4.belowG,Bool.and_eq_true,List.length_cons,Nat.add_sub_cancel]
  refine ⟨?_,zO hk as_ cs hl h1⟩
  rw [List.length_reverse,← hl.length_eq] at h2
  rcases h2 with h2 | h2
  ·rw [h2];simp
  ·simp [Zaj hk hx h2]
theorem zU:∀ (as_ ks:List Kd) (ms:List Nat),zw as_ ks→Kh ks ms→Z4 Ys as_ ms=true
 | _,_,ms,.nil,_=>by simp [Z4]
 | a :: as_,k :: ks,[],.cons _ _,_=>by simp [Z4]
 | a :: as_,k :: ks,m :: ms,.cons h1 h2,h=>by
  simp only [Z4,Bool.and_eq_true]
  exact ⟨zO h1 as_ ks h2 h.1,zU as_ ks ms h2 h.2⟩
def ZeL:RI→Bool | .alc _ _=>true | .box _ _=>true | _=>false
theorem Zdx {ops:List Oper} {ord:Bool} {o:Oper} {ro:RO} (hl:Va P n ops ord o=some ro) (hm:ZeL ro.ri=true):(∃ t,o.op=.alloc t)∨∃ t x,o.op=.box t x:=by
 unfold Va at hl
 split at hl<;>first | (cases hl;done) | skip
 rename_i ri hri
 obtain ⟨_,hl⟩:=Ze hl
 have e:ro.ri=ri:=by
  split at hl
  ·cases hl;rfl
  ·split at hl<;>first | (cases hl;done) | skip
   split at hl<;>first | (cases hl;done) | skip
   cases hl;rfl
 rw [e] at hm
 unfold Wz at hri
 split at hri<;>first
  | (rename_i h;exact .inl ⟨_,h⟩)
  | (rename_i h;exact .inr ⟨_,_,h⟩)
  | (exfalso;(try simp only [Bool.cond_eq_ite] at hri);(repeat' split at hri)<;>first | (cases hri;done) | (cases hri;cases hm;done) | (simp only [Option.some.injEq] at hri;subst hri;cases hm))
theorem ZcZ {A:Fr} {H:Hp} {o:Oper} {rs:Rs} {k:Kd} (h:(∃ t,o.op=.alloc t)∨∃ t x,o.op=.box t x) (e:aOp P lo A H o=some (rs,k)):(∃ v H',rs=.val v H')∧Jo o=true:=by
 rcases h with ⟨t,h⟩ | ⟨t,x,h⟩
 ·unfold aOp Zn at e
  rw [h] at e
  simp only at e
  unfold Zu at e
  rw [h] at e
  simp only at e
  split at e<;>cases e
  exact ⟨⟨_,_,rfl⟩,by unfold Jo;rw [h]⟩
 ·unfold aOp Zn at e
  rw [h] at e
  simp only at e
  unfold Zu at e
  rw [h] at e
  simp only at e
  split at e<;>cases e
  exact ⟨⟨_,_,rfl⟩,by unfold Jo;rw [h]⟩
theorem Zbs {ro:RO} {H:Hp} {k:Kd} (h:ZeL ro.ri=false):kdW ro H k=k:=by
 unfold kdW
 cases k<;>try rfl
 cases hr:ro.ri<;>rw [hr] at h<;>first | rfl | cases h
theorem ZcT {ops:List Oper} {ord:Bool} {A:Fr} {H H':Hp} {o:Oper} {ro:RO} {v:Value} {k:Kd} (hl:Va P n ops ord o=some ro) (h:aOp P lo A H o=some (.val v H',k)):Zct (yR o H k) (kdW ro H k):=by
 cases hm:ZeL ro.ri with
 | true=>
  have:=(ZcZ (Zdx hl hm) h).2
  left
  cases k<;>try rfl
  unfold yR kdW
  rw [this]
  simp only [cond_true]
  cases hr:ro.ri<;>rw [hr] at hm<;>first | rfl | cases hm
 | false=>
  rw [Zbs hm]
  cases k with
  | heavy=>unfold yR;cases Jo o<;>first | exact .inl rfl | exact .inr ⟨rfl,_,rfl⟩
  | _=>exact .inl rfl
theorem Jm {ops:List Oper} {ord:Bool} {A:Fr} {H:Hp} {o:Oper} {ro:RO} {rs:Rs} {k k':Kd} (hl:Va P n ops ord o=some ro) (h:aOp P lo A H o=some (rs,k)) (hr:∀ v H',rs≠.val v H'):kdW ro H k'=k':=by
 cases hm:ZeL ro.ri with
 | true=>obtain ⟨⟨v,H',e⟩,_⟩:=ZcZ (Zdx hl hm) h;exact absurd e (hr v H')
 | false=>exact Zbs hm
theorem QB {ops:Array Oper} {masks:List Nat}:∀ (rest pre:List Oper) {rl:List RO} {A:Fr} {S:Rg} {H:Hp} {ks ws:List Kd} {K:Rg→Hp→Prop},ops.toList=pre ++ rest→YT P n ops.toList (fun i=>WM ops.toList (Je ops.toList) i) rest pre.length=some rl→ZI S A.T→A.n=n→zw ks ws→VP P kn lo n masks rl ws S H K→
  ∃ S' H' T' ks' ws',K S' H'∧zw ks' ws'∧Kh ws' masks∧ZI S' T'∧∃ N,∀ m k,N≤m→N≤k→Yi P lo (Yv P kn m k) ops rest pre.length ks A H=some (ks',{ A with T:=T' },H')
 | [],pre,rl,A,S,H,ks,ws,K,he,hl,hA,hn,hks,h=>by
  simp only [YT] at hl;cases hl
  exact ⟨S,H,A.T,ks,ws,h.2,hks,h.1,hA,0,fun m k _ _=>rfl⟩
 | o :: rest,pre,rl,A,S,H,ks,ws,K,he,hl,hA,hn,hks,h=>by
  simp only [YT] at hl
  split at hl<;>first | (cases hl;done) | skip
  rename_i ro hro
  split at hl<;>first | (cases hl;done) | skip
  rename_i l hrest
  cases hl
  simp only [VP] at h
  have he2:ops.toList=(pre ++ [o]) ++ rest:=by rw [he];simp
  have ih:=fun {A':Fr} {S':Rg} {H':Hp} {ks' ws':List Kd} (hA':ZI S' A'.T) (hn':A'.n=n) (hk':zw ks' ws') (h':VP P kn lo n masks l ws' S' H' K)=>QB rest (pre ++ [o]) (rl:=l) he2 (by simpa using hrest) hA' hn' hk' h'
  simp only [List.length_append,List.length_singleton] at ih
  obtain ⟨hput,hcase⟩:=Vz hro hA hn h
  rcases hcase with ⟨hw,h⟩ | ⟨hw,hdone⟩
  ·obtain ⟨S',H',T',ks',ws',a,a1,a2,b,N,c⟩:=ih (ks':=.pure :: ks) (ws':=.pure :: ws) (A':={ A with T:=Yx A.T o.dst undef }) (ZD hA o.dst undef) hn (.cons (.inl rfl) hks) h
   refine ⟨S',H',T',ks',ws',a,a1,a2,b,N,fun m k hm hk=>?_⟩
   rw [Yi]
   simp only [hw,hput]
   exact c m k hm hk
  ·rcases hdone with ⟨v,H1,kd,e,hkd,h⟩ | ⟨H1,kd,e,h⟩ | ⟨t,vs,v,H1,e,hmk,⟨N1,hc⟩,h⟩ | ⟨t,vs,v,H1,bk,e,hord,hmk,⟨N1,hc⟩,hob,h⟩
   ·obtain ⟨hb,h⟩:=QK (X:=fun k=>VP P kn lo n masks l (k :: ws) (Zt S o.dst v) H1 K) h
    obtain ⟨S',H',T',ks',ws',a,a1,a2,b,N,c⟩:=ih (A':={ A with T:=Yx A.T o.dst v }) (ZD hA o.dst v) hn (.cons (ZcT hro e) hks) h
    refine ⟨S',H',T',ks',ws',a,a1,a2,b,N,fun m k hm hk=>?_⟩
    rw [Yi]
    have hkd:jL kd H=true:=hkd fun b hb2=>hb b (by rw [hb2];rfl)
    simp only [hw,e,hkd,hput,cond_true]
    exact c m k hm hk
   ·rw [Jm hro e (fun _ _ q=>by cases q)] at h
    obtain ⟨_,h⟩:=QK (X:=fun k=>VP P kn lo n masks l (k :: ws) (Zt S o.dst undef) H1 K) h
    obtain ⟨S',H',T',ks',ws',a,a1,a2,b,N,c⟩:=ih (A':={ A with T:=Yx A.T o.dst undef }) (ZD hA o.dst undef) hn (.cons (.inl rfl) hks) h
    refine ⟨S',H',T',ks',ws',a,a1,a2,b,N,fun m k hm hk=>?_⟩
    rw [Yi]
    simp only [hw,e,hput]
    exact c m k hm hk
   ·rw [Jm hro e (fun _ _ q=>by cases q)] at h
    cases ho:WM ops.toList (Je ops.toList) pre.length with
    | true=>
     simp only [ho,cond_true] at hc h
     obtain ⟨S',H',T',ks',ws',a,a1,a2,b,N,c⟩:=ih (ks':=.full :: ks) (ws':=.full :: ws) (A':={ A with T:=Yx A.T o.dst v }) (ZD hA o.dst v) hn (.cons (.inl rfl) hks) h
     refine ⟨S',H',T',ks',ws',a,a1,a2,b,N+N1,fun m k hm hk=>?_⟩
     rw [Yi]
     simp only [hw,e,ho,cond_true,hc m k (by omega) (by omega),hput]
     exact c m k (by omega) (by omega)
    | false=>
     simp only [ho,cond_false] at hc h
     obtain ⟨S',H',T',ks',ws',a,a1,a2,b,N,c⟩:=ih (ks':=.heavy :: ks) (ws':=.heavy :: ws) (A':={ A with T:=Yx A.T o.dst v }) (ZD hA o.dst v) hn (.cons (.inl rfl) hks) h
     refine ⟨S',H',T',ks',ws',a,a1,a2,b,N+N1,fun m k hm hk=>?_⟩
     rw [Yi]
     have hmk:WV t=false:=by simpa [ho] using hmk
     simp only [hw,e,ho,hmk,cond_false,hc m k (by omega) (by omega),hput]
     exact c m k (by omega) (by omega)
   ·rw [Jm hro e (fun _ _ q=>by cases q)] at h
    obtain ⟨S',H',T',ks',ws',a,a1,a2,b,N,c⟩:=ih (ks':=.store bk :: ks) (ws':=.store bk :: ws) (A':={ A with T:=Yx A.T o.dst v }) (ZD hA o.dst v) hn (.cons (.inl rfl) hks) h
    refine ⟨S',H',T',ks',ws',a,a1,a2,b,N+N1,fun m k hm hk=>?_⟩
    rw [Yi]
    simp only [hw,e,hord,hmk,cond_false,cond_true,hc m k (by omega) (by omega),hob,hput]
    exact c m k (by omega) (by omega)

theorem Tri.mono {rd:Bool} {c:Code} {S:Rg} {H:Hp} {K K':Exit→Rg→Hp→Prop} (h:Tri P kn lo n rd c S H K) (hk:∀ e S' H',K e S' H'→K' e S' H'):Tri P kn lo n rd c S H K':=by
 intro A h1 h2 h3
 obtain ⟨e,S',H',T',a,b⟩:=h A h1 h2 h3
 exact ⟨e,S',H',T',hk _ _ _ a,b⟩
theorem Tri.seq {rd:Bool} {x y:Code} {S:Rg} {H:Hp} {K:Exit→Rg→Hp→Prop} (h:Tri P kn lo n rd x S H fun e S' H'=>match e with | .normal=>Tri P kn lo n rd y S' H' K | e=>K e S' H'):Tri P kn lo n rd (.seq x y) S H K:=by
 intro A h1 h2 h3
 obtain ⟨e,S1,H1,T1,a,b,N1,c⟩:=h A h1 h2 h3
 cases e with
 | normal=>
  obtain ⟨e,S',H',T',a',b',N2,c'⟩:=a { A with T:=T1 } h1 h2 b
  refine ⟨e,S',H',T',a',b',N1+N2+1,fun f m k hf hm hk=>?_⟩
  obtain ⟨f,rfl⟩:∃ g,f=g+1:=⟨f - 1,by omega⟩
  rw [Zj]
  simp only [c f m k (by omega) (by omega) (by omega)]
  exact c' f m k (by omega) (by omega) (by omega)
 | _=>
  refine ⟨_,S1,H1,T1,a,b,N1+1,fun f m k hf hm hk=>?_⟩
  obtain ⟨f,rfl⟩:∃ g,f=g+1:=⟨f - 1,by omega⟩
  rw [Zj]
  simp only [c f m k (by omega) (by omega) (by omega)]

theorem Y3 (rd:Bool):∀ (c:Code) {rc:RC} {S:Rg} {H:Hp} {K:Exit→Rg→Hp→Prop},low P n c=some rc→wC P kn lo n rd rc S H K→Tri P kn lo n rd c S H K
 | .skip,rc,S,H,K,hl,h=>by
  simp only [low] at hl;cases hl
  intro A _ _ h3
  refine ⟨.normal,S,H,A.T,h,h3,1,fun f m k hf hm hk=>?_⟩
  obtain ⟨f,rfl⟩:∃ g,f=g+1:=⟨f - 1,by omega⟩
  rfl
 | .label l,rc,S,H,K,hl,h=>by
  simp only [low] at hl;cases hl
  intro A _ _ h3
  refine ⟨.normal,S,H,A.T,h,h3,1,fun f m k hf hm hk=>?_⟩
  obtain ⟨f,rfl⟩:∃ g,f=g+1:=⟨f - 1,by omega⟩
  rfl
 | .exit id,rc,S,H,K,hl,h=>by
  simp only [low] at hl;cases hl
  intro A _ _ h3
  refine ⟨.exit id,S,H,A.T,h,h3,1,fun f m k hf hm hk=>?_⟩
  obtain ⟨f,rfl⟩:∃ g,f=g+1:=⟨f - 1,by omega⟩
  rfl
 | .ret,rc,S,H,K,hl,h=>by
  simp only [low] at hl;cases hl
  intro A _ _ h3
  refine ⟨.ret,S,H,A.T,h,h3,1,fun f m k hf hm hk=>?_⟩
  obtain ⟨f,rfl⟩:∃ g,f=g+1:=⟨f - 1,by omega⟩
  rfl
 | .seq x y,rc,S,H,K,hl,h=>by
  simp only [low] at hl
  split at hl<;>first | (cases hl;done) | skip
  rename_i a ha
  split at hl<;>first | (cases hl;done) | skip
  rename_i b hb
  cases hl
  refine Tri.seq ((Y3 rd x ha h).mono fun e S' H' q=>?_)
  cases e with
  | normal=>exact Y3 rd y hb q
  | _=>exact q
 | .cond o x y,rc,S,H,K,hl,h=>by
  simp only [low] at hl
  split at hl<;>first | (cases hl;done) | skip
  rename_i a ha
  split at hl<;>first | (cases hl;done) | skip
  rename_i b hb
  cases hl
  simp only [wC] at h
  split at h<;>first | exact h.elim | skip
  rename_i t ht
  intro A h1 h2 h3
  cases t with
  | true=>
   obtain ⟨e,S',H',T',p,q,N,r⟩:=Y3 rd x ha (h.1 rfl) A h1 h2 h3
   refine ⟨e,S',H',T',p,q,N+1,fun f m k hf hm hk=>?_⟩
   obtain ⟨f,rfl⟩:∃ g,f=g+1:=⟨f - 1,by omega⟩
   rw [Zj]
   simp only [ZH h3 ht]
   exact r f m k (by omega) (by omega) (by omega)
  | false=>
   obtain ⟨e,S',H',T',p,q,N,r⟩:=Y3 rd y hb (h.2 rfl) A h1 h2 h3
   refine ⟨e,S',H',T',p,q,N+1,fun f m k hf hm hk=>?_⟩
   obtain ⟨f,rfl⟩:∃ g,f=g+1:=⟨f - 1,by omega⟩
   rw [Zj]
   simp only [ZH h3 ht]
   exact r f m k (by omega) (by omega) (by omega)
 | .block id b,rc,S,H,K,hl,h=>by
  simp only [low] at hl
  split at hl<;>first | (cases hl;done) | skip
  rename_i a ha
  cases hl
  simp only [wC] at h
  intro A h1 h2 h3
  obtain ⟨e,S',H',T',p,q,N,r⟩:=Y3 rd b ha h A h1 h2 h3
  have unf:∀ f m k,Zj P lo (Yv P kn m k) (f+1) (.block id b) A H none=match Zj P lo (Yv P kn m k) f b A H none with
   | some (.exit j,A',H',p')=>bif Nat.beq j id then some (.normal,A',H',p') else some (.exit j,A',H',p')
   | r=>r:=fun f m k=>by rw [Zj];rfl
  cases e with
  | exit j=>
   simp only at p
   cases hj:Nat.beq j id with
   | true=>
    rw [hj] at p
    refine ⟨.normal,S',H',T',p,q,N+1,fun f m k hf hm hk=>?_⟩
    obtain ⟨f,rfl⟩:∃ g,f=g+1:=⟨f - 1,by omega⟩
    rw [unf,r f m k (by omega) (by omega) (by omega)]
    simp only [hj,cond_true]
   | false=>
    rw [hj] at p
    refine ⟨.exit j,S',H',T',p,q,N+1,fun f m k hf hm hk=>?_⟩
    obtain ⟨f,rfl⟩:∃ g,f=g+1:=⟨f - 1,by omega⟩
    rw [unf,r f m k (by omega) (by omega) (by omega)]
    simp only [hj,cond_false]
  | _=>
   refine ⟨_,S',H',T',p,q,N+1,fun f m k hf hm hk=>?_⟩
   obtain ⟨f,rfl⟩:∃ g,f=g+1:=⟨f - 1,by omega⟩
   rw [unf,r f m k (by omega) (by omega) (by omega)]
 | .region id ops draw,rc,S,H,K,hl,h=>by
  simp only [low] at hl
  cases draw with
  | true=>
   simp only [cond_true] at hl
   obtain ⟨hreg,hl⟩:=Ze hl
   split at hl<;>first | (cases hl;done) | skip
   rename_i l hro
   cases hl
   simp only [wC] at h
   intro A h1 h2 h3
   rcases h with h | ⟨hrl,h⟩
   rotate_left
   ·obtain ⟨S',H',T',ks,ws,a,a1,a2,b,N,r⟩:=QB (ops:=ops) (ks:=[]) (ws:=[]) ops.toList [] (by simp) hro h3 h1 .nil h
    refine ⟨.normal,S',H',T',a,b,N+1,fun f m k hf hm hk=>?_⟩
    obtain ⟨f,rfl⟩:∃ g,f=g+1:=⟨f - 1,by omega⟩
    rw [Zj]
    have hd:drawn P lo (Yv P kn m k) ops A H=some ({ A with T:=T' },H'):=by
     unfold drawn
     have:=r m k (by omega) (by omega)
     simp only [List.length_nil] at this
     rw [this]
     have:((ks.all calm || Z4 YX ks (X2 ops.toList 0 []) || (Z4 Ys ks (X2 ops.toList 0 []) && zE lo H)) && U2 ops)=true:=by
      rw [hreg,Bool.and_true,zU _ _ _ a1 a2,Zcx hrl]
      simp only [Bool.and_self,Bool.or_true]
     simp only [this,cond_true]
    simp only [hd,cond_true]
   obtain ⟨S',H',T',ks,a,a2,b,N,r⟩:=JZ (ops:=ops) (ks:=[]) ops.toList [] (by simp) hro h3 h1 h
   refine ⟨.normal,S',H',T',a,b,N+1,fun f m k hf hm hk=>?_⟩
   obtain ⟨f,rfl⟩:∃ g,f=g+1:=⟨f - 1,by omega⟩
   rw [Zj]
   have hd:drawn P lo (Yv P kn m k) ops A H=some ({ A with T:=T' },H'):=by
    unfold drawn
    have:=r m k (by omega) (by omega)
    simp only [List.length_nil] at this
    rw [this]
    have:((ks.all calm || Z4 YX ks (X2 ops.toList 0 []) || (Z4 Ys ks (X2 ops.toList 0 []) && zE lo H)) && U2 ops)=true:=by
     rw [hreg,Bool.and_true]
     rw [Zb0] at a2
     cases hc:ks.all calm with
     | true=>simp only [Bool.true_or]
     | false=>
      rw [hc] at a2
      simp only [cond_false] at a2
      have e:=qM _ _ a2
      rw [ze] at e
      rw [e]
      simp only [Bool.or_true,Bool.true_or]
    simp only [this,cond_true]
   simp only [hd,cond_true]
  | false=>
   simp only [cond_false] at hl
   split at hl<;>first | (cases hl;done) | skip
   rename_i l hro
   cases hl
   simp only [wC] at h
   intro A h1 h2 h3
   obtain ⟨S',H',T',a,b,N,r⟩:=KX (ops:=ops) ops.toList [] (by simp) hro h3 h1 h
   refine ⟨.normal,S',H',T',a,b,N+1,fun f m k hf hm hk=>?_⟩
   obtain ⟨f,rfl⟩:∃ g,f=g+1:=⟨f - 1,by omega⟩
   rw [Zj]
   have:=r m k (by omega) (by omega)
   simp only [List.length_nil] at this
   simp only [cond_false,List.range_eq_range']
   simpa using this
 | .loop b,rc,S,H,K,hl,h=>by simp only [low] at hl;cases hl;exact h
 | .rangeFunc fo ps a b,rc,S,H,K,hl,h=>by simp only [low] at hl;cases hl;exact h
 | .scope b,rc,S,H,K,hl,h=>by
  simp only [low] at hl
  split at hl<;>first | (cases hl;done) | skip
  rename_i a ha
  cases hl
  simp only [wC] at h
  intro A h1 h2 h3
  obtain ⟨e,S',H',T',p,q,N,r⟩:=Y3 rd b ha h A h1 h2 h3
  refine ⟨e,S',H',T',p,q,N+1,fun f m k hf hm hk=>?_⟩
  obtain ⟨f,rfl⟩:∃ g,f=g+1:=⟨f - 1,by omega⟩
  rw [Zj]
  exact r f m k (by omega) (by omega) (by omega)
 | .goto l,rc,S,H,K,hl,h=>by simp only [low] at hl;cases hl
 | .refuse w,rc,S,H,K,hl,h=>by simp only [low] at hl;cases hl

theorem Tri.loop {rd:Bool} {b:Code} {K:Exit→Rg→Hp→Prop} (I:Nat→Rg→Hp→Prop)
  (hb:∀ k S H,I k S H→Tri P kn lo n rd b S H fun e S' H'=>match e with | .normal=>∃ k',k' < k∧I k' S' H' | e=>K e S' H') :
  ∀ k S H,I k S H→Tri P kn lo n rd (.loop b) S H K:=by
 intro k
 induction k using Nat.strongRecOn with
 | ind k ih=>
  intro S H hI A h1 h2 h3
  obtain ⟨e,S1,H1,T1,p,q,N,r⟩:=hb k S H hI A h1 h2 h3
  have unf:∀ f m k,Zj P lo (Yv P kn m k) (f+1) (.loop b) A H none=match Zj P lo (Yv P kn m k) f b A H none with
   | some (.normal,A',H',p')=>Zj P lo (Yv P kn m k) f (.loop b) A' H' p'
   | r=>r:=fun f m k=>by rw [Zj];rfl
  cases e with
  | normal=>
   obtain ⟨k',hk',hI'⟩:=p
   obtain ⟨e,S',H',T',p',q',N',r'⟩:=ih k' hk' S1 H1 hI' { A with T:=T1 } h1 h2 q
   refine ⟨e,S',H',T',p',q',N+N'+1,fun f m k hf hm hk=>?_⟩
   obtain ⟨f,rfl⟩:∃ g,f=g+1:=⟨f - 1,by omega⟩
   rw [unf,r f m k (by omega) (by omega) (by omega)]
   exact r' f m k (by omega) (by omega) (by omega)
  | _=>
   refine ⟨_,S1,H1,T1,p,q,N+1,fun f m k hf hm hk=>?_⟩
   obtain ⟨f,rfl⟩:∃ g,f=g+1:=⟨f - 1,by omega⟩
   rw [unf,r f m k (by omega) (by omega) (by omega)]

theorem Tri.forget {rd:Bool} {c:Code} {S S0:Rg} {H:Hp} {K:Exit→Rg→Hp→Prop} (h:Tri P kn lo n rd c S0 H K) (hs:∀ j v,lk S0 j=some v→lk S j=some v):Tri P kn lo n rd c S H K:=
 fun A h1 h2 h3=>h A h1 h2 fun j v e=>h3 j v (hs j v e)
end
end Go.Ax

/-! The evaluator for all inputs,4: functions and calls. -/
namespace Go.Ax
open Go Go.RowKit

def VB:List Value→Nat→Rg
 | [],_=>[]
 | v :: r,i=>(i,v) :: VB r (i+1)
theorem Zbp:∀ (vs:List Value) (i j:Nat),j < i→lk (VB vs i) j=none
 | [],_,_,_=>rfl
 | v :: r,i,j,h=>by
  simp only [VB,lk,ZE]
  rw [decide_eq_false (by omega)]
  exact Zbp r (i+1) j (by omega)
theorem yh:∀ (vs:List Value) (i:Nat) (T:Tr Value) (j:Nat),(UV vs i T).get j=match lk (VB vs i) j with | some v=>some v | none=>T.get j
 | [],i,T,j=>rfl
 | v :: r,i,T,j=>by
  simp only [UV,VB,lk,ZE]
  rw [yh r (i+1)]
  by_cases h:i=j
  ·subst h
   rw [Zbp r (i+1) i (by omega)]
   simp [Tr.get_set]
  ·rw [decide_eq_false h]
   simp only [cond_false]
   cases lk (VB r (i+1)) j with
   | some u=>rfl
   | none=>simp only [Tr.get_set];rw [if_neg (fun e=>h e.symm)]
theorem Wj (vs:List Value):ZI (VB vs 0) (UV vs 0 .nil):=fun j v h=>by rw [yh,h]

noncomputable def Wg (P:Program) (S:Rg) (H:Hp):List ResultVar→Option (List Value)
 | []=>some []
 | .tmp t :: r=>match lk S t with
  | none=>none
  | some v=>match Wg P S H r with | none=>none | some vs=>some (v :: vs)
 | .cell a t :: r=>match lk S a with
  | some (.pointer (some ad))=>match Vb P H t ad with
   | none=>none
   | some v=>match Wg P S H r with | none=>none | some vs=>some (v :: vs)
  | _=>none
theorem U8 {P:Program} {S:Rg} {H:Hp} {A:Fr} (hA:ZI S A.T):∀ {l:List ResultVar} {vs:List Value},Wg P S H l=some vs→Y4 P A H l=some vs
 | [],vs,h=>h
 | .tmp t :: r,vs,h=>by
  simp only [Wg] at h
  cases h1:lk S t with
  | none=>simp [h1] at h
  | some v=>
   cases h2:Wg P S H r with
   | none=>simp [h1,h2] at h
   | some us=>simp [h1,h2] at h;subst h;simp only [Y4,hA t v h1,U8 hA h2]
 | .cell a t :: r,vs,h=>by
  simp only [Wg] at h
  split at h<;>first | (cases h;done) | skip
  rename_i ad h1
  cases h3:Vb P H t ad with
  | none=>simp [h3] at h
  | some v=>
   cases h2:Wg P S H r with
   | none=>simp [h3,h2] at h
   | some us=>simp [h3,h2] at h;subst h;simp only [Y4,hA a _ h1,h3,U8 hA h2]

def X1:List Value→Value
 | [v]=>v
 | vs=>.tuple vs.toArray

def FnX (P:Program) (kn:Kn) (lo:Nat) (f:FuncId) (args:List Value) (H:Hp) (v:Value) (H':Hp):Prop:=
 ∃ N,∀ m k,N≤m→N≤k→YZ P lo (Yv P kn m k) (fun t a H p=>Yn P kn m k lo t a H p) m f args H none=some (.ret v,H',none)

section
variable {P:Program} {kn:Kn} {lo:Nat}
theorem zj {f:FuncId} {fn:Func} {c:Code} {args:List Value} {H:Hp} {Q:Value→Hp→Prop} (hf:P.funcs[f]? = some fn) (hc:fn.body=some c) (hl:args.length≤fn.ntmps)
  (h:Tri P kn lo fn.ntmps false c (VB args 0) H fun e S' H'=>(match e with | .normal=>True | .ret=>True | _=>False)∧∃ vs,Wg P S' H' fn.results.toList=some vs∧Q (X1 vs) H') :
  ∃ v H',FnX P kn lo f args H v H'∧Q v H':=by
 obtain ⟨e,S',H',T',⟨he,vs,hres,hq⟩,hk,N,hr⟩:=h { fn:=f,n:=fn.ntmps,T:=UV args 0 .nil,defers:=[],round:=none } rfl rfl (Wj args)
 refine ⟨X1 vs,H',⟨N+1,fun m k hm hk'=>?_⟩,hq⟩
 obtain ⟨m',rfl⟩:∃ g,m=g+1:=⟨m - 1,by omega⟩
 have hr:=hr (m'+1) (m'+1) k (by omega) (by omega) (by omega)
 have hu:ZX P lo (fun t a H p=>Yn P kn (m'+1) k lo t a H p) fn (m'+1) { fn:=f,n:=fn.ntmps,T:=T',defers:=[],round:=none } H' none=some (.ret (X1 vs),H'):=by
  rw [ZX]
  simp only [U8 (A:={ fn:=f,n:=fn.ntmps,T:=T',defers:=[],round:=none }) hk hres]
  match vs with
  | []=>rfl
  | [v]=>rfl
  | v :: u :: r=>rfl
 unfold YZ
 simp only [hf,hc,Nat.ble_eq_true_of_le hl,cond_true,hr]
 cases e<;>simp only at he<;>simp only [hu]

theorem ZdQ {f:FuncId} {cap:Array Value} {args:List Value} {H:Hp} (hs:Ww f=false):JV kn lo (.fn (.func f) cap) args H=none:=by
 unfold JV;simp only [hs,cond_false]
theorem YF {f:FuncId} {cap:Array Value} {args:List Value} {H:Hp} {v:Value} {H':Hp} (hk:JK kn (.fn (.func f) cap) args=none) (h:FnX P kn lo f (args ++ cap.toList) H v H') (hs:Ww f=false:=by rfl):XV P kn lo (.fn (.func f) cap) args H v H':=by
 obtain ⟨N,h⟩:=h
 refine ⟨N+1,fun m k hm hk'=>?_⟩
 obtain ⟨k,rfl⟩:∃ g,k=g+1:=⟨k - 1,by omega⟩
 have:=h m k (by omega) (by omega)
 have e:Yn P kn m (k+1) lo (.fn (.func f) cap) args H none=some (.ret v,H',none):=this
 unfold Yv
 simp only [hk,ZdQ hs,e]
theorem Zh {f:FuncId} {args:List Value} {a:Value} {H:Hp} {v:Value} {H':Hp} (h:FnX P kn lo f (a :: args) H v H') (hs:Ww f=false:=by rfl):XV P kn lo (.fn (.func f) #[]) (a :: args) H v H':=
 YF rfl (by simpa using h) hs
theorem WC {f:FuncId} {b:Bool} {H:Hp} (h:kn f=some b):XV P kn lo (.fn (.func f) #[]) [] H (.bool b) H:=
 ⟨0,fun m k _ _=>by unfold Yv;simp only [JK,List.size_toArray,List.length_nil,Nat.beq_refl,cond_true,h]⟩
end
end Go.Ax

/-! The evaluator for all inputs,5: words for heaps,and steps. -/
namespace Go.Ax
open Go Go.RowKit

def Cl (H:Hp) (b:Nat) (cs:List Value):Prop:=b < H.next∧∃ e l,H.t.get b=some (.cells cs e l)
structure Keep (H H':Hp) (l:List Nat):Prop where
 le:H.next≤H'.next
 same:∀ b,b < H.next→b ∉ l→H'.t.get b=H.t.get b
 /-- nothing more is only read -/
 rox:∀ b cs,b < H'.next→H'.t.get b=some (.ro cs)→b < H.next∧H.t.get b=some (.ro cs)
theorem Keep.low {H H':Hp} {l:List Nat} {lo:Nat} (k:Keep H H' l) (h:Vi lo H):Vi lo H':=fun b cs hb hg=>by
 obtain ⟨h1,h2⟩:=k.3 b cs hb hg
 exact h b cs h1 h2
theorem Keep.refl (H:Hp) (l:List Nat):Keep H H l:=⟨Nat.le_refl _,fun _ _ _=>rfl,fun _ _ h k=>⟨h,k⟩⟩
theorem Keep.trans {H H1 H2:Hp} {l:List Nat} (h:Keep H H1 l) (k:Keep H1 H2 l):Keep H H2 l:=
 ⟨Nat.le_trans h.1 k.1,fun b hb hl=>(k.2 b (Nat.lt_of_lt_of_le hb h.1) hl).trans (h.2 b hb hl),fun b cs hb hg=>(k.3 b cs hb hg).elim fun a c=>h.3 b cs a c⟩
theorem Keep.mono {H H1:Hp} {l l':List Nat} (h:Keep H H1 l) (k:∀ b,b∈l→b∈l'):Keep H H1 l':=⟨h.1,fun b hb hl=>h.2 b hb fun q=>hl (k b q),h.3⟩
theorem Keep.cl {H H1:Hp} {l:List Nat} (h:Keep H H1 l) {b:Nat} {cs:List Value} (hc:Cl H b cs) (hl:b ∉ l):Cl H1 b cs:=by
 obtain ⟨h1,e,lz,h2⟩:=hc
 exact ⟨Nat.lt_of_lt_of_le h1 h.1,e,lz,by rw [h.2 b h1 hl];exact h2⟩
theorem Keep.new {H H1 H2:Hp} {l l':List Nat} (h:Keep H H1 l) (k:Keep H1 H2 l') (hl:∀ b,b∈l'→b∈l∨H.next≤b):Keep H H2 l:=
 ⟨Nat.le_trans h.1 k.1,fun b hb hn=>(k.2 b (Nat.lt_of_lt_of_le hb h.1) fun q=>(hl b q).elim hn (fun r=>absurd hb (by omega))).trans (h.2 b hb hn),fun b cs hb hg=>(k.3 b cs hb hg).elim fun a c=>h.3 b cs a c⟩
theorem Cl.of {H:Hp} {b:Nat} {cs:List Value} (h:Cl H b cs):cellsOf H b=some cs:=by
 obtain ⟨_,e,l,h⟩:=h;unfold cellsOf;rw [h]
theorem Cl.lt {H:Hp} {b:Nat} {cs:List Value} (h:Cl H b cs):b < H.next:=h.1
theorem Wy {H H1:Hp} {b:Nat} {cs cs':List Value} {e:TypeId} {l:Bool} (hc:Cl H b cs) (h:H.up b (.cells cs' e l)=H1):Keep H H1 [b]∧H1.next=H.next∧Cl H1 b cs':=by
 subst h
 refine ⟨⟨Nat.le_refl _,fun c _ hn=>?_,fun c xs hb hg=>?_⟩,rfl,hc.1,e,l,?_⟩
 ·show (H.t.set b _).get c=_
  rw [Tr.get_set,if_neg (by simpa using hn)]
 ·have hg:(H.t.set b (.cells cs' e l)).get c=some (.ro xs):=hg
  rw [Tr.get_set] at hg
  split at hg
  ·cases hg
  ·exact ⟨hb,hg⟩
 ·show (H.t.set b _).get b=_
  rw [Tr.get_set,if_pos rfl]
theorem ZL {H H1:Hp} {cs:List Value} {e:TypeId} {l:Bool} (h:H.new (.cells cs e l)=H1):Keep H H1 []∧H1.next=H.next+1∧Cl H1 H.next cs:=by
 subst h
 refine ⟨⟨Nat.le_succ _,fun c hc _=>?_,fun c xs hb hg=>?_⟩,rfl,Nat.lt_succ_self _,e,l,?_⟩
 ·show (H.t.set H.next _).get c=_
  rw [Tr.get_set,if_neg (by omega)]
 ·have hg:(H.t.set H.next (.cells cs e l)).get c=some (.ro xs):=hg
  have hb:c < H.next+1:=hb
  rw [Tr.get_set] at hg
  split at hg
  ·cases hg
  ·exact ⟨by omega,hg⟩
 ·show (H.t.set H.next _).get H.next=_
  rw [Tr.get_set,if_pos rfl]

def Rd (H:Hp) (b:Nat) (cs:List Value):Prop:=b < H.next∧cellsOf H b=some cs
theorem Cl.rd {H:Hp} {b:Nat} {cs:List Value} (h:Cl H b cs):Rd H b cs:=⟨h.1,h.of⟩
theorem Rd.lt {H:Hp} {b:Nat} {cs:List Value} (h:Rd H b cs):b < H.next:=h.1
theorem Rd.of {H:Hp} {b:Nat} {cs:List Value} (h:Rd H b cs):cellsOf H b=some cs:=h.2
theorem Keep.rd {H H1:Hp} {l:List Nat} (h:Keep H H1 l) {b:Nat} {cs:List Value} (hc:Rd H b cs) (hl:b ∉ l):Rd H1 b cs:=by
 obtain ⟨h1,h2⟩:=hc
 exact ⟨Nat.lt_of_lt_of_le h1 h.1,by unfold cellsOf at h2 ⊢;rw [h.2 b h1 hl];exact h2⟩
def Sl (H:Hp) (a:Option Addr) (n cap:Nat) (cs:List Value):Prop:=((a=none∨a=some ⟨0,0,some 0⟩)∧n=0∧cap=0∧cs=[])∨∃ b,a=some ⟨b,0,none⟩∧Rd H b cs∧n≤cap
theorem Keep.sl {H H1:Hp} {l:List Nat} (h:Keep H H1 l) {a:Option Addr} {n cap:Nat} {cs:List Value} (hc:Sl H a n cap cs) (hl:∀ b,a=some ⟨b,0,none⟩→b ∉ l):Sl H1 a n cap cs:=
 hc.imp id fun ⟨b,e,r,q⟩=>⟨b,e,h.rd r (hl b e),q⟩
theorem Keep.sl0 {H H1:Hp} (h:Keep H H1 []) {a:Option Addr} {n cap:Nat} {cs:List Value} (hc:Sl H a n cap cs):Sl H1 a n cap cs:=h.sl hc fun _ _=>by simp

theorem W9 {α:Type} {f:α→List Value} {size:Nat}:∀ {l:List α} (_:∀ x∈l,(f x).length=size) {i:Nat} {x:α},l[i]? = some x→row size (l.flatMap f) (0+i * size)=some (f x)
 | [],_,i,x,h=>by simp at h
 | y :: l,hf,0,x,h=>by
  simp at h;subst h
  have:=hf y (by simp)
  simp only [List.flatMap_cons,row,Nat.zero_mul,Nat.add_zero,List.drop_zero,ZE]
  rw [List.take_append_of_le_length (by omega),List.take_of_length_le (by omega),this]
  simp
 | y :: l,hf,i+1,x,h=>by
  have hy:=hf y (by simp)
  have ih:=W9 (l:=l) (fun z hz=>hf z (by simp [hz])) (i:=i) (x:=x) (by simpa using h)
  unfold row at ih ⊢
  rw [Nat.zero_add] at ih ⊢
  rw [List.flatMap_cons,List.drop_append,hy,List.drop_eq_nil_of_le (by rw [hy];exact Nat.le_trans (Nat.le_mul_of_pos_left size (Nat.succ_pos i)) (Nat.le_refl _)),List.nil_append]
  have e:(i+1) * size - size=i * size:=by rw [Nat.succ_mul];omega
  rw [e]
  exact ih
theorem UB {α:Type} {f:α→List Value} {size:Nat}:∀ {l:List α} (_:∀ x∈l,(f x).length=size),(l.flatMap f).length=l.length * size
 | [],_=>by simp
 | y :: l,hf=>by
  rw [List.flatMap_cons,List.length_append,hf y (by simp),UB fun z hz=>hf z (by simp [hz]),List.length_cons,Nat.succ_mul];omega
theorem qV {α:Type} {f:α→List Value} {size:Nat}:∀ {l:List α} (_:∀ x∈l,(f x).length=size) {i k:Nat} {x y:α} {v:Value},l[i]? = some x→k < size→(f x).set k v=f y→(l.flatMap f).set (0+i * size+k) v=(l.set i y).flatMap f
 | [],_,i,k,x,y,v,h,_,_=>by simp at h
 | z :: l,hf,0,k,x,y,v,h,hk,e=>by
  simp at h;subst h
  have:=hf z (by simp)
  simp only [List.flatMap_cons,Nat.zero_mul,Nat.add_zero,Nat.zero_add,List.set_cons_zero]
  rw [List.set_append_left _ _ (by omega),e]
 | z :: l,hf,i+1,k,x,y,v,h,hk,e=>by
  have hz:=hf z (by simp)
  have ih:=qV (l:=l) (fun u hu=>hf u (by simp [hu])) (i:=i) (k:=k) (x:=x) (y:=y) (v:=v) (by simpa using h) hk e
  rw [Nat.zero_add] at ih ⊢
  have e2:(i+1) * size+k - size=i * size+k:=by rw [Nat.succ_mul];omega
  rw [List.flatMap_cons,List.set_append_right _ _ (by rw [hz,Nat.succ_mul];omega),hz,e2,ih,List.set_cons_succ,List.flatMap_cons]

section
variable {P:Program} {kn:Kn} {lo:Nat}
theorem Jl {H:Hp} {size n cap:Nat} {a:Option Addr} {cs:List Value} (hs:Sl H a n cap cs) (hl:cs.length=n * size):Xc H size (.slice a n cap)=some (n,cs):=by
 rcases hs with ⟨rfl | rfl,rfl,rfl,rfl⟩ | ⟨b,rfl,hr,_⟩
 ·rfl
 ·rfl
 ·have h:row (n * size) cs 0=some cs:=by
   unfold row
   simp only [List.drop_zero,ZE,← hl,List.take_length,decide_true,cond_true]
  simp only [Xc,hr.of,h]
theorem Zr {f:FuncId} {fn:Func} {R:RC} {n:Nat} {rs:List ResultVar} {args:List Value} {H:Hp} {Q:Value→Hp→Prop} (hf:P.funcs[f]? = some fn) (hb:fn.body=some (at_ fn [])) (hn:fn.ntmps=n) (hz:fn.results.toList=rs) (hL:low P fn.ntmps (at_ fn [])=some R) (hl:args.length≤n)
  (h:wC P kn lo n false R (VB args 0) H fun e S' H'=>(match e with | .normal=>True | .ret=>True | _=>False)∧∃ vs,Wg P S' H' rs=some vs∧Q (X1 vs) H') :
  ∃ v H',FnX P kn lo f args H v H'∧Q v H':=by
 subst hn hz
 exact zj hf hb hl (Y3 false _ hL h)
def WD:Rg→Rg→Prop
 | [],_=>True
 | (j,v) :: r,S=>lk S j=some v∧WD r S
theorem WD.get:∀ {S0 S:Rg},WD S0 S→∀ j v,lk S0 j=some v→lk S j=some v
 | [],_,_,j,v,h=>by cases h
 | (i,u) :: r,S,hs,j,v,h=>by
  simp only [lk,ZE] at h
  by_cases e:i=j
  ·subst e
   simp only [decide_true,cond_true,Option.some.injEq] at h
   subst h
   exact hs.1
  ·rw [decide_eq_false e] at h
   exact hs.2.get j v h
theorem Zx {α:Type} {c b:Code} {fn:Func} {n:Nat} {R:RC} {rd:Bool} {S:Rg} {H:Hp} {K:Exit→Rg→Hp→Prop} (hc:c=.loop b) (hn:fn.ntmps=n) (hL:low P fn.ntmps b=some R) (SS:α→Rg) (I:Nat→α→Hp→Prop)
  (k:Nat) (a:α) (hI:I k a H) (hS:WD (SS a) S)
  (hb:∀ k a H,I k a H→wC P kn lo n rd R (SS a) H fun e S' H'=>match e with | .normal=>∃ k' a',k' < k∧I k' a' H'∧WD (SS a') S' | e=>K e S' H') :
  Tri P kn lo n rd c S H K:=by
 subst hc hn
 refine Tri.loop (fun k S H=>∃ a,I k a H∧WD (SS a) S) (fun k S H q=>?_) k S H ⟨a,hI,hS⟩
 obtain ⟨a,q,hs⟩:=q
 refine Tri.forget ((Y3 rd _ hL (hb k a H q)).mono fun e S' H' r=>?_) hs.get
 cases e with
 | normal=>obtain ⟨k',a',x,y,z⟩:=r;exact ⟨k',x,a',y,z⟩
 | _=>exact r
end
end Go.Ax

/-! The evaluator for all inputs,6: ranges over functions. -/
namespace Go.Ax
open Go Go.RowKit

section
variable {P:Program} {kn:Kn} {lo n:Nat}

def V4 (P:Program) (kn:Kn) (lo n:Nat) (c:Code) (S:Rg) (H:Hp) (K:Exit→Rg→Hp→List Deferred→Prop):Prop:=
 ∀ A:Fr,A.n=n→A.round=none→(P.funcs[A.fn]?).isSome=true→ZI S A.T→
  ∃ e S' H' T' D,K e S' H' D∧ZI S' T'∧∃ N,∀ f m k,N≤f→N≤m→N≤k→Zj P lo (Yv P kn m k) f c A H none=some (e,{ A with T:=T',defers:=D ++ A.defers },H',none)

theorem V4.of {c:Code} {S:Rg} {H:Hp} {K:Exit→Rg→Hp→List Deferred→Prop} (h:Tri P kn lo n false c S H fun e S' H'=>K e S' H' []):V4 P kn lo n c S H K:=by
 intro A h1 h2 _ h3
 obtain ⟨e,S',H',T',a,b,N,r⟩:=h A h1 (by rw [h2];rfl) h3
 exact ⟨e,S',H',T',[],a,b,N,r⟩
theorem V4.scope {b:Code} {S:Rg} {H:Hp} {K:Exit→Rg→Hp→List Deferred→Prop} (h:V4 P kn lo n b S H K):V4 P kn lo n (.scope b) S H K:=by
 intro A h1 h2 h4 h3
 obtain ⟨e,S',H',T',D,p,q,N,r⟩:=h A h1 h2 h4 h3
 refine ⟨e,S',H',T',D,p,q,N+1,fun f m k hf hm hk=>?_⟩
 obtain ⟨f,rfl⟩:∃ g,f=g+1:=⟨f - 1,by omega⟩
 rw [Zj]
 exact r f m k (by omega) (by omega) (by omega)
theorem V4.block {id:Nat} {b:Code} {S:Rg} {H:Hp} {K:Exit→Rg→Hp→List Deferred→Prop} (h:V4 P kn lo n b S H fun e S' H' D=>match e with | .exit j=>(bif Nat.beq j id then K .normal S' H' D else K (.exit j) S' H' D) | e=>K e S' H' D):V4 P kn lo n (.block id b) S H K:=by
 intro A h1 h2 h4 h3
 obtain ⟨e,S',H',T',D,p,q,N,r⟩:=h A h1 h2 h4 h3
 have unf:∀ f m k,Zj P lo (Yv P kn m k) (f+1) (.block id b) A H none=match Zj P lo (Yv P kn m k) f b A H none with
  | some (.exit j,A',H',p')=>bif Nat.beq j id then some (.normal,A',H',p') else some (.exit j,A',H',p')
  | r=>r:=fun f m k=>by rw [Zj];rfl
 cases e with
 | exit j=>
  simp only at p
  cases hj:Nat.beq j id with
  | true=>
   rw [hj] at p
   refine ⟨.normal,S',H',T',D,p,q,N+1,fun f m k hf hm hk=>?_⟩
   obtain ⟨f,rfl⟩:∃ g,f=g+1:=⟨f - 1,by omega⟩
   rw [unf,r f m k (by omega) (by omega) (by omega)]
   simp only [hj,cond_true]
  | false=>
   rw [hj] at p
   refine ⟨.exit j,S',H',T',D,p,q,N+1,fun f m k hf hm hk=>?_⟩
   obtain ⟨f,rfl⟩:∃ g,f=g+1:=⟨f - 1,by omega⟩
   rw [unf,r f m k (by omega) (by omega) (by omega)]
   simp only [hj,cond_false]
 | _=>
  refine ⟨_,S',H',T',D,p,q,N+1,fun f m k hf hm hk=>?_⟩
  obtain ⟨f,rfl⟩:∃ g,f=g+1:=⟨f - 1,by omega⟩
  rw [unf,r f m k (by omega) (by omega) (by omega)]

def Lp (P:Program) (H:Hp) (l:Nat) (st:LoopState) (pe:Option Code) (n:Nat) (S:Rg) (ps:List Tmp) (asg body:Code) (r:Nat):Prop:=
 ∃ fn T,H.t.get l=some (.lp st pe fn n T ps asg body r)∧(P.funcs[fn]?).isSome=true∧ZI S T
theorem Lp.keep {H H1:Hp} {l:Nat} {st:LoopState} {pe:Option Code} {n:Nat} {S:Rg} {ps:List Tmp} {asg body:Code} {r:Nat} {w:List Nat} (h:Lp P H l st pe n S ps asg body r) (k:Keep H H1 w) (hl:l < H.next) (hw:l ∉ w):Lp P H1 l st pe n S ps asg body r:=by
 obtain ⟨fn,T,a,b⟩:=h
 exact ⟨fn,T,by rw [k.2 l hl hw];exact a,b⟩
def Ur (H:Hp) (l:Nat) (st:LoopState) (pe:Option Code) (H1:Hp):Prop:=
 H1.next=H.next∧(∀ b,b≠l→H1.t.get b=H.t.get b)∧(∀ st0 pe0 fn n T ps asg body r,H.t.get l=some (.lp st0 pe0 fn n T ps asg body r)→H1.t.get l=some (.lp st pe fn n T ps asg body r))∧∀ cs,H1.t.get l≠some (.ro cs)
theorem Ur.keep {H H1:Hp} {l:Nat} {st:LoopState} {pe:Option Code} (h:Ur H l st pe H1):Keep H H1 [l]:=⟨by rw [h.1];exact Nat.le_refl _,fun b _ hb=>h.2.1 b (by simpa using hb),fun b cs hb hg=>by
 by_cases e:b=l
 ·subst e;exact absurd hg (h.2.2.2 cs)
 ·exact ⟨by rw [h.1] at hb;exact hb,by rw [h.2.1 b e] at hg;exact hg⟩⟩
theorem Ur.lp {H H1:Hp} {l:Nat} {st st0:LoopState} {pe pe0:Option Code} {n:Nat} {S:Rg} {ps:List Tmp} {asg body:Code} {r:Nat} (h:Ur H l st pe H1) (k:Lp P H l st0 pe0 n S ps asg body r):Lp P H1 l st pe n S ps asg body r:=by
 obtain ⟨fn,T,a,b⟩:=k
 exact ⟨fn,T,h.2.2.1 _ _ _ _ _ _ _ _ _ a,b⟩
theorem VA {H:Hp} {l:Nat} {st st0:LoopState} {pe pe0:Option Code} {fn:FuncId} {n:Nat} {T:Tr Value} {ps:List Tmp} {asg body:Code} {r:Nat} (h:H.t.get l=some (.lp st0 pe0 fn n T ps asg body r)):Ur H l st pe { H with t:=H.t.set l (.lp st pe fn n T ps asg body r) }:=by
 refine ⟨rfl,fun b hb=>by simp only [Tr.get_set];rw [if_neg hb],fun st1 pe1 fn1 n1 T1 ps1 asg1 body1 r1 e=>?_,fun cs e=>by simp only [Tr.get_set,if_true] at e;cases e⟩
 rw [h] at e;cases e
 simp only [Tr.get_set,if_true]

def J3:List Tmp→List Value→Rg→Option Rg
 | [],[],S=>some S
 | t :: ts,v :: vs,S=>J3 ts vs ((t,v) :: S)
 | _,_,_=>none
theorem jc:∀ (ps:List Tmp) (vs:List Value) (S S1:Rg) (T:Tr Value),ZI S T→J3 ps vs S=some S1→∃ T1,XO T ps vs=some T1∧ZI S1 T1
 | [],[],S,S1,T,h,e=>by simp only [J3] at e;cases e;exact ⟨T,rfl,h⟩
 | [],_ :: _,_,_,_,_,e=>by simp [J3] at e
 | _ :: _,[],_,_,_,_,e=>by simp [J3] at e
 | t :: ts,v :: vs,S,S1,T,h,e=>by
  simp only [J3] at e
  exact jc ts vs _ S1 (T.set t v) (ZD h (some t) v) e

theorem V4.range {fo:Operand} {ps:Array Tmp} {asg body:Code} {S:Rg} {H:Hp} {K:Exit→Rg→Hp→List Deferred→Prop} {fn:Fn} {first cap:Array Value} (hfo:evS S fo=some (.func fn first cap))
  (h:∀ H1,Keep H H1 []→H1.next=H.next+2→H1.t.get H.next=some (.dfr (some []))→Lp P H1 (H.next+1) .ready none n S ps.toList asg body H.next→
   ∃ v H2,XV P kn lo (.fn fn cap) (first.toList ++ [.func (.yield (H.next+1)) #[] #[]]) H1 v H2∧∃ st pe S',Lp P H2 (H.next+1) st pe n S' ps.toList asg body H.next∧st≠.busy∧
    ∀ H3,Ur H2 (H.next+1) .exhausted pe H3→match pe with | none=>K .normal S H3 [{ target:=.collected H.next,args:=#[] }] | some (.exit id)=>K (.exit id) S H3 [{ target:=.collected H.next,args:=#[] }] | some .ret=>K .ret S H3 [{ target:=.collected H.next,args:=#[] }] | _=>False) :
  V4 P kn lo n (.rangeFunc fo ps asg body) S H K:=by
 intro A h1 h2 h4 h3
 obtain ⟨v,H2,⟨N,hc⟩,st,pe,S',⟨fn',T',hg,hfn,hk⟩,hst,hK⟩:=h ((H.new (.dfr (some []))).new (.lp .ready none A.fn A.n A.T ps.toList asg body H.next))
  ⟨by show H.next≤H.next+1+1;omega,fun b hb _=>by simp only [Hp.new,Tr.get_set];rw [if_neg (by omega),if_neg (by omega)],fun b cs hb hg=>by
   have hb:b < H.next+1+1:=hb
   simp only [Hp.new,Tr.get_set] at hg
   by_cases e1:b=H.next+1
   ·rw [if_pos e1] at hg;cases hg
   ·rw [if_neg e1] at hg
    by_cases e2:b=H.next
    ·rw [if_pos e2] at hg;cases hg
    ·rw [if_neg e2] at hg;exact ⟨by omega,hg⟩⟩ rfl (by simp only [Hp.new,Tr.get_set];rw [if_neg (by omega),if_pos trivial]) ⟨A.fn,A.T,by simp only [Hp.new,Tr.get_set];rw [if_pos trivial,h1],h4,h3⟩
 have hK:=hK _ (VA (st:=.exhausted) (pe:=pe) hg)
 cases pe with
 | none=>
  refine ⟨.normal,S,_,A.T,_,hK,h3,N+1,fun f m k hf hm hk=>?_⟩
  obtain ⟨f,rfl⟩:∃ g,f=g+1:=⟨f - 1,by omega⟩
  have hc':=hc m k (by omega) (by omega)
  rw [Zj]
  simp only [h2,ZH h3 hfo,hc',hg]
  cases st<;>first | exact absurd rfl hst | rfl
 | some c=>
  cases c<;>simp only at hK
  ·refine ⟨.exit _,S,_,A.T,_,hK,h3,N+1,fun f m k hf hm hk=>?_⟩
   obtain ⟨f,rfl⟩:∃ g,f=g+1:=⟨f - 1,by omega⟩
   have hc':=hc m k (by omega) (by omega)
   rw [Zj]
   simp only [h2,ZH h3 hfo,hc',hg]
   cases st<;>first | exact absurd rfl hst | rfl
  ·refine ⟨.ret,S,_,A.T,_,hK,h3,N+1,fun f m k hf hm hk=>?_⟩
   obtain ⟨f,rfl⟩:∃ g,f=g+1:=⟨f - 1,by omega⟩
   have hc':=hc m k (by omega) (by omega)
   rw [Zj]
   simp only [h2,ZH h3 hfo,hc',hg]
   cases st<;>first | exact absurd rfl hst | rfl

theorem jC {H:Hp} {r:Nat} {o:Ob} (ho:∀ cs,o≠.ro cs):Keep H { H with t:=H.t.set r o } [r]:=by
 refine ⟨Nat.le_refl _,fun b _ hb=>?_,fun b cs hb hg=>?_⟩
 ·simp only [Tr.get_set];rw [if_neg (by simpa using hb)]
 ·simp only [Tr.get_set] at hg
  split at hg
  ·cases hg;exact absurd rfl (ho cs)
  ·exact ⟨hb,hg⟩
end
end Go.Ax

/-! The evaluator for all inputs,7: panics,and deferred calls. -/
namespace Go.Ax
open Go Go.RowKit

def Ze0 (v:Value):Exit:=.panic [{ v,recovered:=false }]
section
variable {P:Program} {kn:Kn} {lo n:Nat} {rd:Bool}

def Zcd (P:Program) (kn:Kn) (lo:Nat) (t:Target) (args:List Value) (H:Hp) (v:Value) (H':Hp):Prop:=
 ∃ N,∀ m k,N≤m→N≤k→Yv P kn m k lo t args H=some (.pan v,H')
inductive RP where
 | ro (o:RO)
 | pan (x:Operand)
 | dfr (d:Option Nat) (c:Call)
def Ze4 (P:Program) (n:Nat) (ops:List Oper) (o:Oper):Option RP:=
 match o.op,o.guard with
 | .panic x,none=>some (.pan x)
 | .defer c,none=>match c.callee with
  | .builtin _=>none
  | _=>bif (match o.dst with | none=>true | some d=>Nat.ble (d+1) n) then some (.dfr o.dst c) else none
 | _,_=>match Va P n ops true o with | some r=>some (.ro r) | none=>none
def Qj (P:Program) (n:Nat) (ops:List Oper):List Oper→Option (List RP)
 | []=>some []
 | o :: r=>match Ze4 P n ops o with
  | none=>none
  | some x=>match Qj P n ops r with | none=>none | some l=>some (x :: l)
def ZfX (P:Program) (kn:Kn) (lo:Nat) (S:Rg) (H:Hp) (o:RO) (K:Value→Hp→Prop):Prop:=
 match o.guard,o.ri with
 | none,.call c true=>match YH S c with
  | some (t,vs)=>∃ v H',Zcd P kn lo t vs H v H'∧K v H'
  | none=>False
 | _,_=>False
def Vl (P:Program) (kn:Kn) (lo n:Nat) (rd:Bool):List RP→Rg→Hp→List Deferred→(Exit→Rg→Hp→List Deferred→Prop)→Prop
 | [],S,H,D,K=>K .normal S H D
 | .ro o :: r,S,H,D,K=>(wRO P kn lo n S H o fun S' H' _=>Vl P kn lo n rd r S' H' D K)∨ZfX P kn lo S H o fun v H'=>K (Ze0 v) S H' D
 | .pan x :: _,S,H,D,K=>match evS S x with
  | some (.iface t v)=>K (Ze0 (.iface t v)) S H D
  | _=>False
 | .dfr d c :: r,S,H,D,K=>rd=false∧match YH S c with
  | some (t,vs)=>Vl P kn lo n rd r (Zt S d undef) H ({ target:=t,args:=vs.toArray } :: D) K
  | none=>False

theorem jy {ops:List Oper} {ord ord':Bool} {o:Oper} {c:Call} (h:Wz P ops ord o=some (.call c ord')):o.op=.call c∧∀ b,c.callee≠.builtin b:=by
 unfold Wz at h
 split at h<;>rename_i hop<;>(repeat' (first | (cases h;done) | (unfold cond at h) | (split at h)))
 all_goals first
  | (cases h;done)
  | (injection h with h;injection h with h1 h2;subst h1;refine ⟨hop,fun b e=>?_⟩;simp_all;done)
  | skip
theorem Zaf {ops:Array Oper} {A:Fr} {S:Rg} {H:Hp} {K:Value→Hp→Prop} {o:Oper} {ro:RO} (hl:Va P n ops.toList true o=some ro) (hA:ZI S A.T) (h:ZfX P kn lo S H ro K) :
  ZA ops A o=some true∧∃ t vs v H',aOp P lo A H o=some (.call t vs,.full)∧Zcd P kn lo t vs H v H'∧K v H':=by
 unfold Va at hl
 split at hl<;>first | (cases hl;done) | skip
 rename_i ri hri
 obtain ⟨hd,hl⟩:=Ze hl
 unfold ZfX at h
 split at h<;>first | exact h.elim | skip
 rename_i c hg hc
 split at h<;>first | exact h.elim | skip
 rename_i t vs ht
 have hgo:o.guard=none:=by
  split at hl
  ·rename_i e;exact e
  ·split at hl<;>first | (cases hl;done) | skip
   split at hl<;>first | (cases hl;done) | skip
   cases hl;cases hg
 rw [hgo] at hl
 simp only [Option.some.injEq] at hl
 subst hl
 simp only at hc
 subst hc
 obtain ⟨hop,hb⟩:=jy hri
 obtain ⟨v,H',hcall,hk⟩:=h
 refine ⟨by unfold ZA;rw [hgo],t,vs,v,H',?_,hcall,hk⟩
 have e:Zn P A o=none:=by
  unfold Zn;rw [hop]
  cases hcal:c.callee with
  | builtin b=>exact absurd hcal (hb b)
  | _=>simp only [hcal]
 unfold aOp
 rw [e]
 unfold Zu
 rw [hop]
 cases hcal:c.callee with
 | builtin b=>exact absurd hcal (hb b)
 | _=>simp only [hcal,UQ hA ht]
theorem JO {ops:Array Oper}:∀ (rest pre:List Oper) {rl:List RP} {A:Fr} {S:Rg} {H:Hp} {D ds:List Deferred} {K:Exit→Rg→Hp→List Deferred→Prop},ops.toList=pre ++ rest→Qj P n ops.toList rest=some rl→ZI S A.T→A.n=n→A.round.isSome=rd→A.defers=D ++ ds→Vl P kn lo n rd rl S H D K→
  ∃ e S' H' T' D',K e S' H' D'∧ZI S' T'∧∃ N,∀ m k,N≤m→N≤k→Z0 P lo (Yv P kn m k) ops (List.range' pre.length rest.length) A H none=some (e,{ A with T:=T',defers:=D' ++ ds },H',none)
 | [],pre,rl,A,S,H,D,ds,K,he,hl,hA,hn,hr,hd,h=>by
  simp only [Qj] at hl;cases hl
  refine ⟨.normal,S,H,A.T,D,h,hA,0,fun m k _ _=>?_⟩
  rw [← hd];rfl
 | o :: rest,pre,rl,A,S,H,D,ds,K,he,hl,hA,hn,hr,hd,h=>by
  simp only [Qj] at hl
  split at hl<;>first | (cases hl;done) | skip
  rename_i rp hrp
  split at hl<;>first | (cases hl;done) | skip
  rename_i l hrest
  cases hl
  have ho:ops[pre.length]? = some o:=by
   have:ops.toList[pre.length]? = some o:=by rw [he];simp
   simpa using this
  have he2:ops.toList=(pre ++ [o]) ++ rest:=by rw [he];simp
  have ih:=fun {A':Fr} {S':Rg} {H':Hp} {D':List Deferred} (hA':ZI S' A'.T) (hn':A'.n=n) (hr':A'.round.isSome=rd) (hd':A'.defers=D' ++ ds) (h':Vl P kn lo n rd l S' H' D' K)=>JO rest (pre ++ [o]) (rl:=l) he2 hrest hA' hn' hr' hd' h'
  simp only [List.length_append,List.length_singleton] at ih
  have hrg:List.range' pre.length (o :: rest).length=pre.length :: List.range' (pre.length+1) rest.length:=by simp [List.range']
  rw [hrg]
  unfold Ze4 at hrp
  split at hrp
  ·rename_i x hop hg
   cases hrp
   simp only [Vl] at h
   split at h<;>first | exact h.elim | skip
   rename_i t v hx
   have hw:ZA ops A o=some true:=by unfold ZA;rw [hg]
   have ea:aOp P lo A H o=some (.pan (.iface t v),.full):=by
    have:Zn P A o=none:=by unfold Zn;rw [hop]
    unfold aOp;rw [this];unfold Zu;rw [hop];simp only [ZH hA hx]
   refine ⟨_,S,H,A.T,D,h,hA,0,fun m k _ _=>?_⟩
   rw [Z0]
   simp only [ho,hw,ea]
   rw [← hd];rfl
  ·rename_i c hop hg
   split at hrp<;>first | (cases hrp;done) | skip
   rename_i hb
   obtain ⟨hdst,hrp⟩:=Ze hrp
   cases hrp
   simp only [Vl] at h
   obtain ⟨rfl,h⟩:=h
   split at h<;>first | exact h.elim | skip
   rename_i t vs ht
   have hw:ZA ops A o=some true:=by unfold ZA;rw [hg]
   have ea:aOp P lo A H o=some (.dfr { target:=t,args:=vs.toArray },.full):=by
    have:Zn P A o=none:=by unfold Zn;rw [hop]
    unfold aOp;rw [this];unfold Zu;rw [hop]
    cases hcal:c.callee with
    | builtin b=>exact absurd hcal (hb b)
    | _=>simp only [hcal,UQ hA ht]
   have hrn:A.round=none:=by cases hq:A.round with | none=>rfl | some x=>rw [hq] at hr;cases hr
   have hput:=yJ (A:=({ fn:=A.fn,n:=A.n,T:=A.T,defers:={ target:=t,args:=vs.toArray } :: A.defers,round:=none }:Fr)) (d:=o.dst) (by rw [show ({ fn:=A.fn,n:=A.n,T:=A.T,defers:={ target:=t,args:=vs.toArray } :: A.defers,round:=none }:Fr).n=n from hn];exact hdst) undef
   obtain ⟨e,S',H',T',D',a,b,N,c'⟩:=ih (A':={ A with T:=Yx A.T o.dst undef,defers:={ target:=t,args:=vs.toArray } :: A.defers }) (ZD hA o.dst undef) hn hr (by simp only [hd];rfl) h
   refine ⟨e,S',H',T',D',a,b,N,fun m k hm hk=>?_⟩
   rw [Z0]
   simp only [ho,hw,ea,hrn,hput]
   have:=c' m k hm hk
   simp only [hrn] at this
   exact this
  ·rename_i hx1 hx2
   split at hrp<;>first | (cases hrp;done) | skip
   rename_i ro hro
   cases hrp
   simp only [Vl] at h
   rcases h with h | h
   ·obtain ⟨hput,hcase⟩:=Vz hro hA hn h
    rcases hcase with ⟨hw,h⟩ | ⟨hw,hdone⟩
    ·obtain ⟨e,S',H',T',D',a,b,N,c⟩:=ih (A':={ A with T:=Yx A.T o.dst undef }) (ZD hA o.dst undef) hn hr hd h
     refine ⟨e,S',H',T',D',a,b,N,fun m k hm hk=>?_⟩
     rw [Z0]
     simp only [ho,hw,hput]
     exact c m k hm hk
    ·rcases hdone with ⟨v,H1,kd,e1,_,h⟩ | ⟨H1,kd,e1,h⟩ | ⟨t,vs,v,H1,e1,_,⟨N1,hc⟩,h⟩ | ⟨_,_,_,_,_,_,hf,_⟩
     rotate_right
     ·cases hf
     ·obtain ⟨e,S',H',T',D',a,b,N,c⟩:=ih (A':={ A with T:=Yx A.T o.dst v }) (ZD hA o.dst v) hn hr hd h
      refine ⟨e,S',H',T',D',a,b,N,fun m k hm hk=>?_⟩
      rw [Z0]
      simp only [ho,hw,e1,hput]
      exact c m k hm hk
     ·obtain ⟨e,S',H',T',D',a,b,N,c⟩:=ih (A':={ A with T:=Yx A.T o.dst undef }) (ZD hA o.dst undef) hn hr hd h
      refine ⟨e,S',H',T',D',a,b,N,fun m k hm hk=>?_⟩
      rw [Z0]
      simp only [ho,hw,e1,hput]
      exact c m k hm hk
     ·obtain ⟨e,S',H',T',D',a,b,N,c⟩:=ih (A':={ A with T:=Yx A.T o.dst v }) (ZD hA o.dst v) hn hr hd h
      refine ⟨e,S',H',T',D',a,b,N+N1,fun m k hm hk=>?_⟩
      rw [Z0]
      have:=hc m k (by omega) (by omega)
      simp only [cond_true] at this
      simp only [ho,hw,e1,this,hput]
      exact c m k (by omega) (by omega)
   ·obtain ⟨hw,t,vs,v,H',e1,⟨N1,hc⟩,hk⟩:=Zaf hro hA h
    refine ⟨_,S,H',A.T,D,hk,hA,N1,fun m k hm hk'=>?_⟩
    rw [Z0]
    simp only [ho,hw,e1,hc m k hm hk']
    rw [← hd];rfl

theorem jj {c:Code} {id:Nat} {ops:Array Oper} {rl:List RP} {S:Rg} {H:Hp} {K:Exit→Rg→Hp→List Deferred→Prop} (hc:c=.region id ops false) (hl:Qj P n ops.toList ops.toList=some rl) (h:Vl P kn lo n false rl S H [] K):V4 P kn lo n c S H K:=by
 subst hc
 intro A h1 h2 h4 h3
 obtain ⟨e,S',H',T',D',a,b,N,r⟩:=JO (ops:=ops) (rd:=false) (A:=A) (ds:=A.defers) (D:=[]) ops.toList [] (by simp) hl h3 h1 (by rw [h2];rfl) rfl h
 refine ⟨e,S',H',T',D',a,b,N+1,fun f m k hf hm hk=>?_⟩
 obtain ⟨f,rfl⟩:∃ g,f=g+1:=⟨f - 1,by omega⟩
 rw [Zj]
 have:=r m k (by omega) (by omega)
 simp only [List.length_nil] at this
 simp only [cond_false,List.range_eq_range']
 simpa using this
inductive LV (P:Program) (n:Nat):Code→RC→Prop
 | low {c:Code} {r:RC}:Go.Ax.low P n c=some r→LV P n c r
 | other (c:Code):LV P n c (.other c)
 | seq {x y:Code} {a b:RC}:LV P n x a→LV P n y b→LV P n (.seq x y) (.seq a b)
 | block (id:Nat) {x:Code} {a:RC}:LV P n x a→LV P n (.block id x) (.block id a)
 | cond (o:Operand) {x y:Code} {a b:RC}:LV P n x a→LV P n y b→LV P n (.cond o x y) (.cond o a b)
theorem Tri.blockV {id:Nat} {b:Code} {S:Rg} {H:Hp} {K:Exit→Rg→Hp→Prop} (h:Tri P kn lo n rd b S H fun e S' H'=>match e with | .exit j=>(bif Nat.beq j id then K .normal S' H' else K (.exit j) S' H') | e=>K e S' H'):Tri P kn lo n rd (.block id b) S H K:=by
 intro A h1 h2 h3
 obtain ⟨e,S',H',T',p,q,N,r⟩:=h A h1 h2 h3
 have unf:∀ f m k,Zj P lo (Yv P kn m k) (f+1) (.block id b) A H none=match Zj P lo (Yv P kn m k) f b A H none with
  | some (.exit j,A',H',p')=>bif Nat.beq j id then some (.normal,A',H',p') else some (.exit j,A',H',p')
  | r=>r:=fun f m k=>by rw [Zj];rfl
 cases e with
 | exit j=>
  simp only at p
  cases hj:Nat.beq j id with
  | true=>
   rw [hj] at p
   refine ⟨.normal,S',H',T',p,q,N+1,fun f m k hf hm hk=>?_⟩
   obtain ⟨f,rfl⟩:∃ g,f=g+1:=⟨f - 1,by omega⟩
   rw [unf,r f m k (by omega) (by omega) (by omega)]
   simp only [hj,cond_true]
  | false=>
   rw [hj] at p
   refine ⟨.exit j,S',H',T',p,q,N+1,fun f m k hf hm hk=>?_⟩
   obtain ⟨f,rfl⟩:∃ g,f=g+1:=⟨f - 1,by omega⟩
   rw [unf,r f m k (by omega) (by omega) (by omega)]
   simp only [hj,cond_false]
 | _=>
  refine ⟨_,S',H',T',p,q,N+1,fun f m k hf hm hk=>?_⟩
  obtain ⟨f,rfl⟩:∃ g,f=g+1:=⟨f - 1,by omega⟩
  rw [unf,r f m k (by omega) (by omega) (by omega)]
theorem Tri.cond {o:Operand} {x y:Code} {S:Rg} {H:Hp} {K:Exit→Rg→Hp→Prop} {t:Bool} (ht:evS S o=some (.bool t)) (hx:t=true→Tri P kn lo n rd x S H K) (hy:t=false→Tri P kn lo n rd y S H K):Tri P kn lo n rd (.cond o x y) S H K:=by
 intro A h1 h2 h3
 cases t with
 | true=>
  obtain ⟨e,S',H',T',p,q,N,r⟩:=hx rfl A h1 h2 h3
  refine ⟨e,S',H',T',p,q,N+1,fun f m k hf hm hk=>?_⟩
  obtain ⟨f,rfl⟩:∃ g,f=g+1:=⟨f - 1,by omega⟩
  rw [Zj]
  simp only [ZH h3 ht]
  exact r f m k (by omega) (by omega) (by omega)
 | false=>
  obtain ⟨e,S',H',T',p,q,N,r⟩:=hy rfl A h1 h2 h3
  refine ⟨e,S',H',T',p,q,N+1,fun f m k hf hm hk=>?_⟩
  obtain ⟨f,rfl⟩:∃ g,f=g+1:=⟨f - 1,by omega⟩
  rw [Zj]
  simp only [ZH h3 ht]
  exact r f m k (by omega) (by omega) (by omega)
theorem Zfe {c:Code} {r:RC} (hl:LV P n c r):∀ {S:Rg} {H:Hp} {K:Exit→Rg→Hp→Prop},wC P kn lo n rd r S H K→Tri P kn lo n rd c S H K:=by
 induction hl with
 | low h=>exact fun w=>Y3 rd _ h w
 | other c=>exact fun w=>w
 | seq _ _ ih1 ih2=>exact fun w=>Tri.seq ((ih1 w).mono fun e S' H' q=>by
   cases e with
   | normal=>exact ih2 q
   | _=>exact q)
 | block id _ ih=>exact fun w=>Tri.blockV (ih w)
 | cond o _ _ ih1 ih2=>
  intro S H K w
  simp only [wC] at w
  split at w<;>first | exact w.elim | skip
  rename_i t ht
  exact Tri.cond ht (fun h=>ih1 (w.1 h)) (fun h=>ih2 (w.2 h))
end
end Go.Ax

/-! The evaluator for all inputs,8: iterators whose loop panics,and functions with a deferred call that recovers. -/
namespace Go.Ax
open Go Go.RowKit

section
variable {P:Program} {kn:Kn} {lo n:Nat}

theorem V4.seqRR {c x y:Code} {S:Rg} {H:Hp} {K:Exit→Rg→Hp→List Deferred→Prop} (hc:c=.seq x y) (h:V4 P kn lo n x S H fun e S' H' D=>match e with | .normal=>V4 P kn lo n y S' H' (fun e S2 H2 D2=>K e S2 H2 (D2 ++ D)) | e=>K e S' H' D):V4 P kn lo n c S H K:=by
 subst hc
 intro A h1 h2 h4 h3
 obtain ⟨e,S1,H1,T1,D,a,b,N1,c⟩:=h A h1 h2 h4 h3
 cases e with
 | normal=>
  obtain ⟨e,S',H',T',D2,a',b',N2,c'⟩:=a { A with T:=T1,defers:=D ++ A.defers } h1 h2 h4 b
  refine ⟨e,S',H',T',D2 ++ D,a',b',N1+N2+1,fun f m k hf hm hk=>?_⟩
  obtain ⟨f,rfl⟩:∃ g,f=g+1:=⟨f - 1,by omega⟩
  rw [Zj]
  simp only [c f m k (by omega) (by omega) (by omega)]
  rw [List.append_assoc]
  exact c' f m k (by omega) (by omega) (by omega)
 | _=>
  refine ⟨_,S1,H1,T1,D,a,b,N1+1,fun f m k hf hm hk=>?_⟩
  obtain ⟨f,rfl⟩:∃ g,f=g+1:=⟨f - 1,by omega⟩
  rw [Zj]
  simp only [c f m k (by omega) (by omega) (by omega)]

def ZdD (P:Program) (kn:Kn) (lo:Nat) (g:FuncId) (args:List Value) (H:Hp) (p p':Par) (H':Hp):Prop:=
 ∃ N v,∀ m k,N≤m→N≤k→YZ P lo (Yv P kn m k) (fun t a H p=>Yn P kn m k lo t a H p) m g args H p=some (.ret v,H',p')

/-! Deferred functions,which may recover. -/
def VV (P:Program) (kn:Kn) (lo n:Nat) (c:Code) (S:Rg) (H:Hp) (p:Par) (K:Exit→Rg→Hp→Par→Prop):Prop:=
 ∀ A:Fr,A.n=n→A.round=none→ZI S A.T→
  ∃ e S' H' T' p',K e S' H' p'∧ZI S' T'∧∃ N,∀ f m k,N≤f→N≤m→N≤k→Zj P lo (Yv P kn m k) f c A H p=some (e,{ A with T:=T' },H',p')
theorem VV.seq {c x y:Code} {S:Rg} {H:Hp} {p:Par} {K:Exit→Rg→Hp→Par→Prop} (hc:c=.seq x y) (h:VV P kn lo n x S H p fun e S' H' p'=>match e with | .normal=>VV P kn lo n y S' H' p' K | e=>K e S' H' p'):VV P kn lo n c S H p K:=by
 subst hc
 intro A h1 h2 h3
 obtain ⟨e,S1,H1,T1,p1,a,b,N1,c⟩:=h A h1 h2 h3
 cases e with
 | normal=>
  obtain ⟨e,S',H',T',p',a',b',N2,c'⟩:=a { A with T:=T1 } h1 h2 b
  refine ⟨e,S',H',T',p',a',b',N1+N2+1,fun f m k hf hm hk=>?_⟩
  obtain ⟨f,rfl⟩:∃ g,f=g+1:=⟨f - 1,by omega⟩
  rw [Zj]
  simp only [c f m k (by omega) (by omega) (by omega)]
  exact c' f m k (by omega) (by omega) (by omega)
 | _=>
  refine ⟨_,S1,H1,T1,p1,a,b,N1+1,fun f m k hf hm hk=>?_⟩
  obtain ⟨f,rfl⟩:∃ g,f=g+1:=⟨f - 1,by omega⟩
  rw [Zj]
  simp only [c f m k (by omega) (by omega) (by omega)]
theorem VV.cond {c:Code} {o:Operand} {x y:Code} {S:Rg} {H:Hp} {p:Par} {K:Exit→Rg→Hp→Par→Prop} {t:Bool} (hc:c=.cond o x y) (ht:evS S o=some (.bool t)) (hx:t=true→VV P kn lo n x S H p K) (hy:t=false→VV P kn lo n y S H p K):VV P kn lo n c S H p K:=by
 subst hc
 intro A h1 h2 h3
 cases t with
 | true=>
  obtain ⟨e,S',H',T',p',a,q,N,r⟩:=hx rfl A h1 h2 h3
  refine ⟨e,S',H',T',p',a,q,N+1,fun f m k hf hm hk=>?_⟩
  obtain ⟨f,rfl⟩:∃ g,f=g+1:=⟨f - 1,by omega⟩
  rw [Zj]
  simp only [ZH h3 ht]
  exact r f m k (by omega) (by omega) (by omega)
 | false=>
  obtain ⟨e,S',H',T',p',a,q,N,r⟩:=hy rfl A h1 h2 h3
  refine ⟨e,S',H',T',p',a,q,N+1,fun f m k hf hm hk=>?_⟩
  obtain ⟨f,rfl⟩:∃ g,f=g+1:=⟨f - 1,by omega⟩
  rw [Zj]
  simp only [ZH h3 ht]
  exact r f m k (by omega) (by omega) (by omega)
theorem VV.skip {c:Code} {S:Rg} {H:Hp} {p:Par} {K:Exit→Rg→Hp→Par→Prop} (hc:c=.skip) (h:K .normal S H p):VV P kn lo n c S H p K:=by
 subst hc
 intro A h1 h2 h3
 refine ⟨.normal,S,H,A.T,p,h,h3,1,fun f m k hf hm hk=>?_⟩
 obtain ⟨f,rfl⟩:∃ g,f=g+1:=⟨f - 1,by omega⟩
 rfl
inductive RQ where
 | ro (o:RO)
 | rcv (d:Option Nat)
def Zfj (P:Program) (n:Nat) (ops:List Oper) (o:Oper):Option RQ:=
 match o.op,o.guard with
 | .call { callee:=.builtin .recover,args:=⟨[]⟩,.. },none=>bif (match o.dst with | none=>true | some d=>Nat.ble (d+1) n) then some (.rcv o.dst) else none
 | _,_=>match Va P n ops true o with | some r=>some (.ro r) | none=>none
def Qk (P:Program) (n:Nat) (ops:List Oper):List Oper→Option (List RQ)
 | []=>some []
 | o :: r=>match Zfj P n ops o with
  | none=>none
  | some x=>match Qk P n ops r with | none=>none | some l=>some (x :: l)
def JP (P:Program) (kn:Kn) (lo n:Nat):List RQ→Rg→Hp→Par→(Rg→Hp→Par→Prop)→Prop
 | [],S,H,p,K=>K S H p
 | .ro o :: r,S,H,p,K=>wRO P kn lo n S H o fun S' H' _=>JP P kn lo n r S' H' p K
 | .rcv d :: r,S,H,p,K=>match p with
  | some (v,false)=>JP P kn lo n r (Zt S d v) H (some (v,true)) K
  | p=>JP P kn lo n r (Zt S d .nilIface) H p K
theorem JJ {ops:Array Oper}:∀ (rest pre:List Oper) {rl:List RQ} {A:Fr} {S:Rg} {H:Hp} {p:Par} {K:Rg→Hp→Par→Prop},ops.toList=pre ++ rest→Qk P n ops.toList rest=some rl→ZI S A.T→A.n=n→A.round=none→JP P kn lo n rl S H p K→
  ∃ S' H' T' p',K S' H' p'∧ZI S' T'∧∃ N,∀ m k,N≤m→N≤k→Z0 P lo (Yv P kn m k) ops (List.range' pre.length rest.length) A H p=some (.normal,{ A with T:=T' },H',p')
 | [],pre,rl,A,S,H,p,K,he,hl,hA,hn,hr,h=>by
  simp only [Qk] at hl;cases hl
  exact ⟨S,H,A.T,p,h,hA,0,fun m k _ _=>rfl⟩
 | o :: rest,pre,rl,A,S,H,p,K,he,hl,hA,hn,hr,h=>by
  simp only [Qk] at hl
  split at hl<;>first | (cases hl;done) | skip
  rename_i rp hrp
  split at hl<;>first | (cases hl;done) | skip
  rename_i l hrest
  cases hl
  have ho:ops[pre.length]? = some o:=by
   have:ops.toList[pre.length]? = some o:=by rw [he];simp
   simpa using this
  have he2:ops.toList=(pre ++ [o]) ++ rest:=by rw [he];simp
  have ih:=fun {A':Fr} {S':Rg} {H':Hp} {p':Par} (hA':ZI S' A'.T) (hn':A'.n=n) (hr':A'.round=none) (h':JP P kn lo n l S' H' p' K)=>JJ rest (pre ++ [o]) (rl:=l) he2 hrest hA' hn' hr' h'
  simp only [List.length_append,List.length_singleton] at ih
  have hrg:List.range' pre.length (o :: rest).length=pre.length :: List.range' (pre.length+1) rest.length:=by simp [List.range']
  rw [hrg]
  unfold Zfj at hrp
  split at hrp
  ·rename_i ts hop hg
   obtain ⟨hdst,hrp⟩:=Ze hrp
   cases hrp
   have hw:ZA ops A o=some true:=by unfold ZA;rw [hg]
   have ea:aOp P lo A H o=some (.recov,.full):=by
    have:Zn P A o=none:=by unfold Zn;rw [hop];rfl
    unfold aOp;rw [this];unfold Zu;rw [hop];rfl
   have hput:=fun v=>yJ (A:=A) (d:=o.dst) (by rw [hn];exact hdst) v
   by_cases hp:∃ v,p=some (v,false)
   ·obtain ⟨v,rfl⟩:=hp
    obtain ⟨S',H',T',p',a,b,N,c⟩:=ih (A':={ A with T:=Yx A.T o.dst v }) (ZD hA o.dst v) hn hr h
    refine ⟨S',H',T',p',a,b,N,fun m k hm hk=>?_⟩
    rw [Z0]
    simp only [ho,hw,ea,hr,hput]
    have:=c m k hm hk
    simp only [hr] at this
    exact this
   ·have h':JP P kn lo n l (Zt S o.dst .nilIface) H p K:=by
     match p,hp,h with
     | none,_,h=>exact h
     | some (v,true),_,h=>exact h
     | some (v,false),hp,_=>exact absurd ⟨v,rfl⟩ hp
    obtain ⟨S',H',T',p',a,b,N,c⟩:=ih (A':={ A with T:=Yx A.T o.dst .nilIface }) (ZD hA o.dst .nilIface) hn hr h'
    refine ⟨S',H',T',p',a,b,N,fun m k hm hk=>?_⟩
    have:=c m k hm hk
    simp only [hr] at this
    rw [Z0]
    simp only [ho,hw,ea,hr,hput]
    match p,hp with
    | none,_=>exact this
    | some (v,true),_=>exact this
    | some (v,false),hp=>exact absurd ⟨v,rfl⟩ hp
  ·split at hrp<;>first | (cases hrp;done) | skip
   rename_i ro hro
   cases hrp
   simp only [JP] at h
   obtain ⟨hput,hcase⟩:=Vz hro hA hn h
   rcases hcase with ⟨hw,h⟩ | ⟨hw,hdone⟩
   ·obtain ⟨S',H',T',p',a,b,N,c⟩:=ih (A':={ A with T:=Yx A.T o.dst undef }) (ZD hA o.dst undef) hn hr h
    refine ⟨S',H',T',p',a,b,N,fun m k hm hk=>?_⟩
    rw [Z0]
    simp only [ho,hw,hput]
    exact c m k hm hk
   ·rcases hdone with ⟨v,H1,kd,e1,_,h⟩ | ⟨H1,kd,e1,h⟩ | ⟨t,vs,v,H1,e1,_,⟨N1,hc⟩,h⟩ | ⟨_,_,_,_,_,_,hf,_⟩
    rotate_right
    ·cases hf
    ·obtain ⟨S',H',T',p',a,b,N,c⟩:=ih (A':={ A with T:=Yx A.T o.dst v }) (ZD hA o.dst v) hn hr h
     refine ⟨S',H',T',p',a,b,N,fun m k hm hk=>?_⟩
     rw [Z0]
     simp only [ho,hw,e1,hput]
     exact c m k hm hk
    ·obtain ⟨S',H',T',p',a,b,N,c⟩:=ih (A':={ A with T:=Yx A.T o.dst undef }) (ZD hA o.dst undef) hn hr h
     refine ⟨S',H',T',p',a,b,N,fun m k hm hk=>?_⟩
     rw [Z0]
     simp only [ho,hw,e1,hput]
     exact c m k hm hk
    ·obtain ⟨S',H',T',p',a,b,N,c⟩:=ih (A':={ A with T:=Yx A.T o.dst v }) (ZD hA o.dst v) hn hr h
     refine ⟨S',H',T',p',a,b,N+N1,fun m k hm hk=>?_⟩
     rw [Z0]
     have:=hc m k (by omega) (by omega)
     simp only [cond_true] at this
     simp only [ho,hw,e1,this,hput]
     exact c m k (by omega) (by omega)
theorem VV.reg {c:Code} {id:Nat} {ops:Array Oper} {rl:List RQ} {S:Rg} {H:Hp} {p:Par} {K:Exit→Rg→Hp→Par→Prop} (hc:c=.region id ops false) (hl:Qk P n ops.toList ops.toList=some rl) (h:JP P kn lo n rl S H p fun S' H' p'=>K .normal S' H' p'):VV P kn lo n c S H p K:=by
 subst hc
 intro A h1 h2 h3
 obtain ⟨S',H',T',p',a,b,N,r⟩:=JJ (ops:=ops) (A:=A) ops.toList [] (by simp) hl h3 h1 h2 h
 refine ⟨.normal,S',H',T',p',a,b,N+1,fun f m k hf hm hk=>?_⟩
 obtain ⟨f,rfl⟩:∃ g,f=g+1:=⟨f - 1,by omega⟩
 rw [Zj]
 have:=r m k (by omega) (by omega)
 simp only [List.length_nil] at this
 simp only [cond_false,List.range_eq_range']
 simpa using this
theorem Zer {g:FuncId} {fn:Func} {c:Code} {args:List Value} {H:Hp} {p p':Par} {Q:Hp→Prop} (hf:P.funcs[g]? = some fn) (hc:fn.body=some c) (hl:args.length≤fn.ntmps) (hres:fn.results.toList=[])
  (h:VV P kn lo fn.ntmps c (VB args 0) H p fun e S' H' q=>(e=.normal∨e=.ret)∧q=p'∧Q H'):∃ H',ZdD P kn lo g args H p p' H'∧Q H':=by
 obtain ⟨e,S',H',T',q,⟨he,rfl,hq⟩,hk,N,hr⟩:=h { fn:=g,n:=fn.ntmps,T:=UV args 0 .nil,defers:=[],round:=none } rfl rfl (Wj args)
 refine ⟨H',⟨N+1,X1 [],fun m k hm hk'=>?_⟩,hq⟩
 have hr:=hr m m k (by omega) (by omega) (by omega)
 obtain ⟨m',rfl⟩:∃ g,m=g+1:=⟨m - 1,by omega⟩
 have hu:ZX P lo (fun t a H p=>Yn P kn (m'+1) k lo t a H p) fn (m'+1) { fn:=g,n:=fn.ntmps,T:=T',defers:=[],round:=none } H' none=some (.ret (X1 []),H'):=by
  rw [ZX]
  simp only [hres,Y4]
  rfl
 unfold YZ
 simp only [hf,hc,Nat.ble_eq_true_of_le hl,cond_true,hr]
 rcases he with rfl | rfl<;>simp only [hu]
end
end Go.Ax

/-! The evaluator for all inputs,9: drawn regions that panic. -/
namespace Go.Ax
open Go Go.RowKit

section
variable {P:Program} {kn:Kn} {lo n:Nat} {rd:Bool}
theorem jH {f:FuncId} {fn:Func} {c:Code} {args:List Value} {H:Hp} {Q:Value→Hp→Prop} (hf:P.funcs[f]? = some fn) (hc:fn.body=some c) (hl:args.length≤fn.ntmps)
  (h:V4 P kn lo fn.ntmps c (VB args 0) H fun e S' H' D=>∃ g cap,D=[{ target:=.fn (.func g) cap,args:=#[] }]∧
    (((e=.normal∨e=.ret)∧∃ H3,ZdD P kn lo g cap.toList H' none none H3∧∃ vs,Wg P S' H3 fn.results.toList=some vs∧Q (X1 vs) H3)∨
     ∃ v,e=Ze0 v∧∃ H3,ZdD P kn lo g cap.toList H' (some (v,false)) (some (v,true)) H3∧∃ vs,Wg P S' H3 fn.results.toList=some vs∧Q (X1 vs) H3)) :
  ∃ v H',FnX P kn lo f args H v H'∧Q v H':=by
 obtain ⟨e,S',H',T',D,⟨g,cap,rfl,hcase⟩,hk,N,hr⟩:=h { fn:=f,n:=fn.ntmps,T:=UV args 0 .nil,defers:=[],round:=none } rfl rfl (by rw [hf];rfl) (Wj args)
 have last:∀ D m H2 vs,1≤m→Wg P S' H2 fn.results.toList=some vs→ZX P lo D fn m { fn:=f,n:=fn.ntmps,T:=T',defers:=[],round:=none } H2 none=some (.ret (X1 vs),H2):=by
  intro D m H2 vs hm hres
  obtain ⟨m',rfl⟩:∃ g,m=g+1:=⟨m - 1,by omega⟩
  rw [ZX]
  simp only [U8 (A:={ fn:=f,n:=fn.ntmps,T:=T',defers:=[],round:=none }) hk hres]
  match vs with
  | []=>rfl
  | [v]=>rfl
  | v :: u :: r=>rfl
 have unw:∀ (pm pm':Par) (N2:Nat) (dv:Value) (H3:Hp) (vs:List Value) (m k:Nat),N2+3≤m→N2+3≤k→(match pm' with | some (_,true)=>none | m'=>m')=none→
   (∀ m k,N2≤m→N2≤k→YZ P lo (Yv P kn m k) (fun t a H p=>Yn P kn m k lo t a H p) m g cap.toList H' pm=some (.ret dv,H3,pm'))→Wg P S' H3 fn.results.toList=some vs→
   ZX P lo (fun t a H p=>Yn P kn m k lo t a H p) fn m { fn:=f,n:=fn.ntmps,T:=T',defers:=[{ target:=.fn (.func g) cap,args:=#[] }],round:=none } H' pm=some (.ret (X1 vs),H3):=by
  intro pm pm' N2 dv H3 vs m k hm hk2 hp hd hres
  have hev:Yn P kn m k lo (.fn (.func g) cap) [] H' pm=some (.ret dv,H3,pm'):=by
   obtain ⟨k,rfl⟩:∃ g,k=g+1:=⟨k - 1,by omega⟩
   have:=hd m k (by omega) (by omega)
   rw [← this]
   simp only [Yn,List.nil_append]
   rfl
  obtain ⟨m',rfl⟩:∃ g,m=g+3:=⟨m - 3,by omega⟩
  rw [ZX.eq_def]
  simp only [hev]
  have key:∀ q:Par,q=none→ZX P lo (fun t a H p=>Yn P kn (m'+3) k lo t a H p) fn (m'+2) { fn:=f,n:=fn.ntmps,T:=T',defers:=[],round:=none } H3 q=some (.ret (X1 vs),H3):=fun q hq=>by
   subst hq
   exact last _ _ _ _ (by omega) hres
  exact key _ hp
 rcases hcase with ⟨he,H3,⟨N2,dv,hd⟩,vs,hres,hq⟩ | ⟨v,rfl,H3,⟨N2,dv,hd⟩,vs,hres,hq⟩
 ·refine ⟨X1 vs,H3,⟨N+N2+3,fun m k hm hk'=>?_⟩,hq⟩
  have hr:=hr m m k (by omega) (by omega) (by omega)
  simp only [List.append_nil] at hr
  have hu:=unw none none N2 dv H3 vs m k (by omega) (by omega) rfl hd hres
  unfold YZ
  simp only [hf,hc,Nat.ble_eq_true_of_le hl,cond_true,hr]
  rcases he with rfl | rfl<;>simp only [hu]
 ·refine ⟨X1 vs,H3,⟨N+N2+3,fun m k hm hk'=>?_⟩,hq⟩
  have hr:=hr m m k (by omega) (by omega) (by omega)
  simp only [List.append_nil] at hr
  have hu:=unw (some (v,false)) (some (v,true)) N2 dv H3 vs m k (by omega) (by omega) rfl hd hres
  unfold YZ
  simp only [hf,hc,Nat.ble_eq_true_of_le hl,cond_true,hr,Ze0,hu]
end
end Go.Ax

/-! Steps of drawn regions,one theorem each,and pieces (written by program). -/
namespace Go.Ax
open Go Go.RowKit
section
variable {P:Program} {kn:Kn} {lo n:Nat} {masks:List Nat} {r:List RO} {ks:List Kd} {S:Rg} {H:Hp} {K:Rg→Hp→Prop} {d:Option Nat} {x y:Operand} {rd:Bool}
theorem YV {ops:List RO} {c:RC} {K:Exit→Rg→Hp→Prop} (h:Zv P kn lo n masks ops [] S H fun S' H'=>wC P kn lo n rd c S' H' K):wC P kn lo n rd (.seq (.dreg ops masks) c) S H K:=.inl h
theorem Zf {v:Value} (hx:evS S x=some v) (h:Zv P kn lo n masks r (.pure :: ks) (Zt S d v) H K):Zv P kn lo n masks (⟨d,none,.mov x⟩ :: r) ks S H K:=by
 show match evS S x with | some v=>Zv P kn lo n masks r (.pure :: ks) (Zt S d v) H K | none=>False
 rw [hx];exact h
theorem Ve {a:Addr} (hx:evS S x=some (.pointer (some a))) (h:Zv P kn lo n masks r (.pure :: ks) (Zt S d (.pointer (some a))) H K):Zv P kn lo n masks (⟨d,none,.nilc x⟩ :: r) ks S H K:=by
 simp only [Zv,wRO,wRI,hx];exact h
theorem Yl {b o off:Nat} (hx:evS S x=some (.pointer (some ⟨b,o,none⟩))) (h:Zv P kn lo n masks r (.pure :: ks) (Zt S d (.pointer (some ⟨b,o+off,none⟩))) H K):Zv P kn lo n masks (⟨d,none,.addo x off⟩ :: r) ks S H K:=by
 simp only [Zv,wRO,wRI,hx];exact h
theorem ZP {b o m:Nat} {cs:List Value} {v:Value} (hx:evS S x=some (.pointer (some ⟨b,o,none⟩))) (hc:Rd H b cs) (hv:cs[o]? = some v) (h:Zv P kn lo n masks r (.read b :: ks) (Zt S d v) H K):Zv P kn lo n masks (⟨d,none,.ld x m⟩ :: r) ks S H K:=by
 simp only [Zv,wRO,wRI,hx];exact ⟨cs,v,hc.of,hv,hc.lt,h⟩
theorem XF {o:Oper} {v:Value} (hd:W7 S o.op.operands.toList=true) (hv:Zn P (frS n S) o=some v) (h:Zv P kn lo n masks r (.pure :: ks) (Zt S d v) H K):Zv P kn lo n masks (⟨d,none,.pur o⟩ :: r) ks S H K:=⟨hd,v,hv,h⟩
theorem ZN (hp:(bif ks.all calm then True else K3 ks masks)) (h:K S H):Zv P kn lo n masks [] ks S H K:=⟨hp,h⟩
theorem YJ {b o m:Nat} {cs q:List Value} (hx:evS S x=some (.pointer (some ⟨b,o,none⟩))) (hc:Rd H b cs) (hv:row m cs o=some q) (h:Zv P kn lo n masks r (.read b :: ks) (Zt S d (.agg q.toArray)) H K):Zv P kn lo n masks (⟨d,none,.lda x m⟩ :: r) ks S H K:=by
 simp only [Zv,wRO,wRI,hx];exact ⟨cs,q,hc.of,hv,hc.lt,h⟩
theorem ZgI {a b:Int} (hx:evS S x=some (.int .i64 a)) (hy:evS S y=some (.int .i64 b)) (h0:0≤a) (h1:0 < b) (h2:InR a) (h3:InR b) (h:Zv P kn lo n masks r (.pure :: ks) (Zt S d (.int .i64 (a % b))) H K):Zv P kn lo n masks (⟨d,none,.ari .rem x y⟩ :: r) ks S H K:=by
 simp only [Zv,wRO,wRI,hx,hy];exact ⟨h0,h1,h2,h3,h⟩
theorem XU {a b:Int} (hx:evS S x=some (.int .i64 a)) (hy:evS S y=some (.int .i64 b)) (h2:InR (a+b)) (h:Zv P kn lo n masks r (.pure :: ks) (Zt S d (.int .i64 (a+b))) H K):Zv P kn lo n masks (⟨d,none,.ari .add x y⟩ :: r) ks S H K:=by
 simp only [Zv,wRO,wRI,hx,hy];exact ⟨h2,h⟩
theorem Zz {b o len cap size k:Nat} {kd:IntKind} {j:Int} (hx:evS S x=some (.slice (some ⟨b,o,none⟩) len cap)) (hy:evS S y=some (.int kd j)) (hj:j=(k:Int)) (hk:k < len) (h:Zv P kn lo n masks r (.pure :: ks) (Zt S d (.pointer (some ⟨b,o+k * size,none⟩))) H K):Zv P kn lo n masks (⟨d,none,.idx x y size⟩ :: r) ks S H K:=by
 simp only [Zv,wRO,wRI,hx,hy];exact ⟨k,hj,hk,h⟩
theorem Zbv {b o len size k:Nat} {kd:IntKind} {j:Int} (hx:evS S x=some (.pointer (some ⟨b,o,none⟩))) (hy:evS S y=some (.int kd j)) (hj:j=(k:Int)) (hk:k < len) (h:Zv P kn lo n masks r (.pure :: ks) (Zt S d (.pointer (some ⟨b,o+k * size,none⟩))) H K):Zv P kn lo n masks (⟨d,none,.idxa x y len size⟩ :: r) ks S H K:=by
 simp only [Zv,wRO,wRI,hx,hy];exact ⟨k,hj,hk,h⟩
theorem WE {c:Call} {t:Target} {vs:List Value} {v:Value} {H':Hp} (ht:YH S c=some (t,vs)) (hm:WV t=false) (hc:XV P kn H.next t vs H v H') (h:Zv P kn lo n masks r (.heavy :: ks) (Zt S d v) H' K):Zv P kn lo n masks (⟨d,none,.call c false⟩ :: r) ks S H K:=by
 simp only [Zv,wRO,wRI,ht,hm,Bool.and_false,cond_false];exact ⟨v,H',hc,h⟩
theorem Yr {c:Call} {t:Target} {vs:List Value} {v:Value} {H':Hp} (ht:YH S c=some (t,vs)) (hc:XV P kn lo t vs H v H') (h:Zv P kn lo n masks r (.full :: ks) (Zt S d v) H' K):Zv P kn lo n masks (⟨d,none,.call c true⟩ :: r) ks S H K:=by
 simp only [Zv,wRO,wRI,ht,Bool.not_true,Bool.false_and,cond_false,cond_true];exact ⟨v,H',hc,h⟩
theorem Zco {a b:Int} (hx:evS S x=some (.int .i64 a)) (hy:evS S y=some (.int .i64 b)) (h2:InR (a * b)) (h:Zv P kn lo n masks r (.pure :: ks) (Zt S d (.int .i64 (a * b))) H K):Zv P kn lo n masks (⟨d,none,.ari .mul x y⟩ :: r) ks S H K:=by
 simp only [Zv,wRO,wRI,hx,hy];exact ⟨h2,h⟩
theorem Xk {a b:Int} (hx:evS S x=some (.int .i64 a)) (hy:evS S y=some (.int .i64 b)) (h2:InR (a - b)) (h:Zv P kn lo n masks r (.pure :: ks) (Zt S d (.int .i64 (a - b))) H K):Zv P kn lo n masks (⟨d,none,.ari .sub x y⟩ :: r) ks S H K:=by
 simp only [Zv,wRO,wRI,hx,hy];exact ⟨h2,h⟩
theorem ZgD {a b:Int} (hx:evS S x=some (.int .i64 a)) (hy:evS S y=some (.int .i64 b)) (h0:0≤a) (h1:0 < b) (h2:InR a) (h:Zv P kn lo n masks r (.pure :: ks) (Zt S d (.int .i64 (a / b))) H K):Zv P kn lo n masks (⟨d,none,.ari .quo x y⟩ :: r) ks S H K:=by
 simp only [Zv,wRO,wRI,hx,hy];exact ⟨h0,h1,h2,h⟩
theorem WT {c:Code} {R:RC} {S S0:Rg} {H:Hp} {K:Exit→Rg→Hp→Prop} (hL:low P n c=some R) (hS:WD S0 S) (h:wC P kn lo n rd R S0 H K):Tri P kn lo n rd c S H K:=Tri.forget (Y3 rd _ hL h) hS.get
theorem Xz {g:Nat} {t:Bool} {ri:RI} (hg:lk S g=some (.bool t)) (h:Zv P kn lo n masks (⟨d,none,ri⟩ :: r) ks S H K):Zv P kn lo n masks (⟨d,some (g,t),ri⟩ :: r) ks S H K:=by
 cases t<;>(simp only [Zv,wRO,hg] at h ⊢;exact h)
theorem Zha {small:Bool} {a b:Int} (hx:evS S x=some (.int .i64 a)) (hy:evS S y=some (.int .i64 b)) (h:Zv P kn lo n masks r (.pure :: ks) (Zt S d (.int .i64 (bif small then min a b else max a b))) H K):Zv P kn lo n masks (⟨d,none,.mm small x y⟩ :: r) ks S H K:=by
 simp only [Zv,wRO,wRI,hx,hy];exact h
theorem Ze6 {b o:Nat} {cs:List Value} {v:Value} (hx:evS S x=some (.pointer (some ⟨b,o,none⟩))) (hy:evS S y=some v) (hc:Cl H b cs) (hl:lo≤b) (hv:v.cells.toList=[v]) (h1:one v=true) (ho:o < cs.length)
  (h:∀ H1,Keep H H1 [b]→H1.next=H.next→Cl H1 b (cs.set o v)→Zv P kn lo n masks r (.store b :: ks) (Zt S d undef) H1 K):Zv P kn lo n masks (⟨d,none,.st x y⟩ :: r) ks S H K:=by
 simp only [Zv,wRO,wRI,hx,hy]
 obtain ⟨_,e,l,g⟩:=id hc
 exact ⟨cs,e,l,g,hl,hv,h1,ho,fun H1 hH1=>by obtain ⟨a,b,c⟩:=Wy hc hH1;exact h H1 a b c⟩
theorem Z2 {ops:List RO} {K:Exit→Rg→Hp→Prop} (h:Zv P kn lo n masks ops [] S H fun S' H'=>K .normal S' H'):wC P kn lo n rd (.dreg ops masks) S H K:=.inl h
theorem Yz {g:Nat} {t:Bool} {ri:RI} (hg:lk S g=some (.bool (!t))) (h:Zv P kn lo n masks r (.pure :: ks) (Zt S d undef) H K):Zv P kn lo n masks (⟨d,some (g,t),ri⟩ :: r) ks S H K:=by
 cases t<;>(simp only [Zv,wRO,hg,Bool.not_true,Bool.not_false,cond_true,cond_false] at h ⊢;exact h)
theorem ZdM {f:FuncId} {fn:Func} {R:RC} {n:Nat} {rs:List ResultVar} {args:List Value} {H:Hp} {Q:Value→Hp→Prop} (hf:P.funcs[f]? = some fn) (hb:fn.body=some (at_ fn [])) (hn:fn.ntmps=n) (hz:fn.results.toList=rs) (hL:LV P n (at_ fn []) R) (hl:args.length≤n)
  (h:wC P kn lo n false R (VB args 0) H fun e S' H'=>(match e with | .normal=>True | .ret=>True | _=>False)∧∃ vs,Wg P S' H' rs=some vs∧Q (X1 vs) H') :
  ∃ v H',FnX P kn lo f args H v H'∧Q v H':=by
 subst hn hz
 exact zj hf hb hl (Zfe hL h)
theorem Q7 {o:Oper} {v:Value} {H':Hp} {k:Kd} (hd:W7 S o.op.operands.toList=true) (hp:Zn P (frS n S) o=none) (hh:Zu P lo (frS n S) H o=some (.val v H',k)) (hb:∀ b,k=.read b→b < H.next)
  (h:Zv P kn lo n masks r (k :: ks) (Zt S d v) H' K):Zv P kn lo n masks (⟨d,none,.mem o⟩ :: r) ks S H K:=⟨hd,.inr ⟨hp,v,H',k,hh,hb,by cases k with | read b=>exact ⟨hb b rfl,h⟩ | _=>exact h⟩⟩
theorem Zdi {c:Code} {R:RC} {S S0:Rg} {H:Hp} {K:Exit→Rg→Hp→Prop} (hL:LV P n c R) (hS:WD S0 S) (h:wC P kn lo n rd R S0 H K):Tri P kn lo n rd c S H K:=Tri.forget (Zfe hL h) hS.get
end
end Go.Ax

namespace Go.Ax
open Go Go.RowKit

section
variable {P:Program} {kn:Kn} {lo n:Nat}
theorem ZcN {t:TypeId} (ht:X3 P t=some false) {H:Hp} {b:Nat} {v:Value} (h:Rd H b [v]):Vb P H t ⟨b,0,none⟩=some v:=by
 unfold Vb
 simp only [h.of,ht]
 rfl
end
end Go.Ax

/-! Lemmas of no seat (gathered by program). -/
namespace Go.Ax
open Go Go.RowKit

abbrev pt (b:Nat):Value:=.pointer (some ⟨b,0,none⟩)
abbrev iv (x:Int):Value:=.int .i64 x
theorem Xm {A B:Prop} (h:A):(true=true→A)∧(true=false→B):=⟨fun _=>h,fun q=>Bool.noConfusion q⟩
theorem ZR {A B:Prop} (h:B):(false=true→A)∧(false=false→B):=⟨fun q=>Bool.noConfusion q,fun _=>h⟩
theorem K4 {α:Type} {l:List α} {i:Nat} {x:α} (h:l[i]? = some x):i < l.length:=by
 rcases Nat.lt_or_ge i l.length with q | q
 ·exact q
 ·rw [List.getElem?_eq_none q] at h;cases h
section
variable {P:Program} {kn:Kn} {lo:Nat} {H:Hp}
theorem KZ:∀ (z vs pre:List Value),z.length=vs.length→Z1 (pre ++ z) pre.length vs=pre ++ vs
 | [],[],pre,_=>by simp [Z1]
 | [],_ :: _,_,h=>by simp at h
 | _ :: _,[],_,h=>by simp at h
 | y :: z,v :: vs,pre,h=>by
  rw [Z1,List.set_append_right _ _ (Nat.le_refl _),Nat.sub_self,List.set_cons_zero]
  have:=KZ z vs (pre ++ [v]) (by simpa using h)
  simp only [List.append_assoc,List.singleton_append,List.length_append,List.length_singleton] at this
  exact this
theorem Xu {n:Nat} {S:Rg} {H:Hp} {d:Option Tmp} {t e ty:TypeId} {p:String} {size:Nat} {z v:Value} {x:Operand} (he:ZT P t=some (e,size)) (hz:Yt P e=some z) (hzs:z.cells.toList.length=size) (hx:evS S x=some v) (hv:v.cells.toList.length=size) (hs:size≤16777216) :
  Zu P lo (frS n S) H ⟨d,.buildSlice t 1 #[(0,x)],ty,p,#[],none⟩=some (.val (.slice (some ⟨H.next,0,none⟩) 1 1) (H.new (.cells v.cells.toList e false)),.heavy):=by
 have hp:=KZ z.cells.toList v.cells.toList [] (by rw [hzs,hv])
 simp only [List.nil_append,List.length_nil] at hp
 have h2:Nat.ble (0+size) z.cells.toList.length=true:=Nat.ble_eq_true_of_le (by rw [hzs];omega)
 unfold Zu
 simp only [Y9,Ym,hx,he,hz,Nat.one_mul,Nat.ble_eq_true_of_le hs,cond_true,ZQ,List.append_nil,Vf,Nat.zero_mul,hv,Nat.beq_refl,h2,Bool.and_self,hp]
end
theorem Cl.sl {H:Hp} {b n cap:Nat} {cs:List Value} (h:Cl H b cs) (hn:n≤cap):Sl H (some ⟨b,0,none⟩) n cap cs:=.inr ⟨b,rfl,h.rd,hn⟩
theorem yX {n:Nat} {cs l:List Value} {i j:Nat} {v:Value} (h:row n cs i=some l) (hj:l[j]? = some v):cs[i+j]? = some v:=by
 obtain ⟨e,hl⟩:=Qu h
 have hjl:=K4 hj
 rw [e,List.getElem?_take,if_pos (by omega),List.getElem?_drop] at hj
 exact hj
def Acc (lo f:Nat) (e:TypeId) (H:Hp) (v:Value) (n:Nat) (cs:List Value):Prop:=
 (n=0∧cs=[]∧v=.slice none 0 0)∨∃ b,v=.slice (some ⟨b,0,none⟩) n n∧0 < n∧f≤b∧lo≤b∧b < H.next∧H.t.get b=some (.cells cs e true)
theorem Acc.sl {lo f:Nat} {e:TypeId} {H:Hp} {v:Value} {n:Nat} {cs:List Value} (h:Acc lo f e H v n cs):∃ a cap,v=.slice a n cap∧Sl H a n cap cs∧∀ b,a=some ⟨b,0,none⟩→f≤b:=by
 rcases h with ⟨rfl,rfl,rfl⟩ | ⟨b,rfl,h0,hf,hl,hn,hg⟩
 ·exact ⟨none,0,rfl,.inl ⟨.inl rfl,rfl,rfl,rfl⟩,fun b e=>by cases e⟩
 ·refine ⟨_,_,rfl,.inr ⟨b,rfl,⟨hn,?_⟩,Nat.le_refl _⟩,fun b e=>by cases e;exact hf⟩
  unfold cellsOf;rw [hg]
theorem Acc.keep {lo f:Nat} {e:TypeId} {H H1:Hp} {v:Value} {n:Nat} {cs:List Value} (h:Acc lo f e H v n cs) (k:Keep H H1 []):Acc lo f e H1 v n cs:=
 h.imp id fun ⟨b,e1,h0,hf,hl,hn,hg⟩=>⟨b,e1,h0,hf,hl,Nat.lt_of_lt_of_le hn k.1,by rw [k.2 b hn (by simp)];exact hg⟩
structure YR (f:Nat) (H H1:Hp):Prop where
 le:H.next≤H1.next
 same:∀ b,b < f→H1.t.get b=H.t.get b
 rox:∀ b cs,b < H1.next→H1.t.get b=some (.ro cs)→b < H.next∧H.t.get b=some (.ro cs)
theorem YR.keep {f:Nat} {F H H1:Hp} {l:List Nat} (h:YR f H H1) (k:Keep F H l) (hf:F.next≤f):Keep F H1 l:=
 ⟨Nat.le_trans k.1 h.1,fun b hb hl=>(h.2 b (Nat.lt_of_lt_of_le hb hf)).trans (k.2 b hb hl),fun b cs hb hg=>(h.3 b cs hb hg).elim fun x y=>k.3 b cs x y⟩
theorem YR.of {f:Nat} {H H1:Hp} (k:Keep H H1 []) (hf:f≤H.next):YR f H H1:=⟨k.1,fun b hb=>k.2 b (Nat.lt_of_lt_of_le hb hf) (by simp),k.3⟩
section
variable {P:Program} {lo:Nat}
theorem J7 {H:Hp} {t0 t1 e ep:TypeId} {size k cap2 f:Nat} {a:Option Addr} {v:Value} {cs news:List Value} (he:ZT P t0=some (e,size)) (ht:P.underlying t1=some (.slice ep))
  (hs:Sl H a 1 cap2 news) (hl:news.length=1 * size) (hz:0 < size) (hone:news.all one=true) (hcl:cs.length=k * size) (hk:k < 1000) (ha:Acc lo f e H v k cs) (hlo:lo≤H.next) (hf:f≤H.next) :
  ∃ H1 kd,(∀ (n:Nat) (S:Rg) (d:Option Tmp) (x y:Operand) (ty:TypeId) (p:String),evS S x=some v→evS S y=some (.slice a 1 cap2)→Zu P lo (frS n S) H ⟨d,.call ⟨.builtin .append,#[x,y],#[t0,t1]⟩,ty,p,#[],none⟩=some (.val (.slice (some ⟨H.next,0,none⟩) (k+1) (k+1)) H1,kd))∧(kd=.heavy∨∃ b,kd=.store b∧f≤b)∧
   Acc lo f e H1 (.slice (some ⟨H.next,0,none⟩) (k+1) (k+1)) (k+1) (cs ++ news)∧YR f H H1:=by
 rcases ha with ⟨rfl,rfl,rfl⟩ | ⟨b,rfl,h0,hb,hlb,hn,hg⟩
 ·refine ⟨H.new (.cells news e true),.heavy,?_,.inl rfl,?_,?_⟩
  ·intro n S d x y ty p hx hy
   unfold Zu
   simp only [evs,Ym,hx,hy,Yw,List.getElem?_toArray,List.getElem?_cons_zero,List.getElem?_cons_succ,he,ht,Jl hs hl,Z9]
   rfl
  ·refine .inr ⟨H.next,rfl,by omega,hf,hlo,Nat.lt_succ_self _,?_⟩
   show (H.t.set H.next _).get H.next=_
   rw [Tr.get_set,if_pos rfl];rfl
  ·exact YR.of (ZL rfl).1 hf
 ·have h1:Nat.ble (0+(k+1) * size) cs.length=false:=by
   cases h:Nat.ble (0+(k+1) * size) cs.length with
   | false=>rfl
   | true=>have:=Nat.le_of_ble_eq_true h;rw [hcl,Nat.succ_mul] at this;omega
  have h2:Nat.beq (0+k * size) cs.length=true:=by rw [hcl,Nat.zero_add];exact Nat.beq_refl _
  have h3:Nat.ble (k+1) 1048576=true:=Nat.ble_eq_true_of_le (by omega)
  have h4:Nat.beq e e=true:=Nat.beq_refl e
  refine ⟨({ H with t:=H.t.set b .dead }:Hp).new (.cells (cs ++ news) e true),.store b,?_,.inr ⟨b,rfl,hb⟩,?_,?_⟩
  ·intro n S d x y ty p hx hy
   unfold Zu
   simp only [evs,Ym,hx,hy,Yw,List.getElem?_toArray,List.getElem?_cons_zero,List.getElem?_cons_succ,he,ht,Jl hs hl,Z9,hg,h1,h2,h3,h4,hone,Nat.ble_eq_true_of_le hlb,Bool.and_self,cond_true,cond_false,List.drop_zero,show Nat.beq 1 0=false from rfl]
  ·refine .inr ⟨H.next,rfl,by omega,hf,hlo,Nat.lt_succ_self _,?_⟩
   show ((H.t.set b .dead).set H.next _).get H.next=_
   rw [Tr.get_set,if_pos rfl]
  ·refine ⟨Nat.le_succ _,fun c hc=>?_,fun c xs hc hx=>?_⟩
   ·show ((H.t.set b .dead).set H.next _).get c=_
    rw [Tr.get_set,if_neg (by omega),Tr.get_set,if_neg (by omega)]
   ·have hx:((H.t.set b .dead).set H.next (.cells (cs ++ news) e true)).get c=some (.ro xs):=hx
    have hc:c < H.next+1:=hc
    rw [Tr.get_set] at hx
    split at hx
    ·cases hx
    ·rw [Tr.get_set] at hx
     split at hx
     ·cases hx
     ·exact ⟨by omega,hx⟩
end
theorem Jj {kd:Kd} {f:Nat} (h:kd=.heavy∨∃ b,kd=.store b∧f≤b) (n:Nat):∀ b,kd=.read b→b < n:=by
 rcases h with rfl | ⟨b,rfl,_⟩<;>intro c e<;>cases e
theorem Acc.keepW {lo f:Nat} {e:TypeId} {H H1:Hp} {v:Value} {n x:Nat} {cs:List Value} (h:Acc lo f e H v n cs) (k:Keep H H1 [x]) (hx:x < f):Acc lo f e H1 v n cs:=
 h.imp id fun ⟨b,e1,h0,hf,hl,hn,hg⟩=>⟨b,e1,h0,hf,hl,Nat.lt_of_lt_of_le hn k.1,by rw [k.2 b hn (by simp;omega)];exact hg⟩
theorem Zc4 {P:Program} {t:TypeId} {n:Nat} (ht:X3 P t=some true) (hi:∃ i,P.info? t=some i∧i.size=n) {H:Hp} {b:Nat} {cs:List Value} (h:Rd H b cs) (hl:cs.length=n):Vb P H t ⟨b,0,none⟩=some (.agg cs.toArray):=by
 obtain ⟨i,h1,h2⟩:=hi
 have hr:row i.size cs 0=some cs:=by
  unfold row
  rw [h2,← hl]
  simp [ZE]
 unfold Vb
 simp only [h.of,ht,h1,hr]
theorem Sl.old {H:Hp} {a:Option Addr} {n c:Nat} {cs:List Value} (h:Sl H a n c cs) (b:Nat) (e:a=some ⟨b,0,none⟩):b < H.next:=by
 rcases h with ⟨h | h,_⟩ | ⟨b',e',h,_⟩
 ·rw [h] at e;cases e
 ·rw [h] at e;cases e
 ·rw [e'] at e;cases e;exact h.lt
theorem YR.cl {f:Nat} {H H1:Hp} {b:Nat} {cs:List Value} (h:YR f H H1) (hc:Cl H b cs) (hb:b < f):Cl H1 b cs:=by
 obtain ⟨h1,e,lz,h2⟩:=hc
 exact ⟨Nat.lt_of_lt_of_le h1 h.1,e,lz,by rw [h.2 b hb];exact h2⟩
theorem YR.rd {f:Nat} {H H1:Hp} {b:Nat} {cs:List Value} (h:YR f H H1) (hc:Rd H b cs) (hb:b < f):Rd H1 b cs:=by
 obtain ⟨h1,h2⟩:=hc
 exact ⟨Nat.lt_of_lt_of_le h1 h.1,by unfold cellsOf at h2 ⊢;rw [h.2 b hb];exact h2⟩
theorem YB {P:Program} {lo:Nat} {H:Hp} {t0 t1 e ep:TypeId} {size k cap2 f:Nat} {a:Option Addr} {v:Value} {cs news:List Value} (he:ZT P t0=some (e,size)) (ht:P.underlying t1=some (.slice ep))
  (hs:Sl H a 1 cap2 news) (hl:news.length=1 * size) (hz:0 < size) (hone:news.all one=true) (hcl:cs.length=k * size) (hk:k < 1000) (ha:Acc lo f e H v k cs) (hlo:lo≤H.next) (hf:f≤H.next) :
  ∃ H1 kd,(∀ (n:Nat) (S:Rg) (d:Option Tmp) (x y:Operand) (ty:TypeId) (p:String),evS S x=some v→evS S y=some (.slice a 1 cap2)→Zu P lo (frS n S) H ⟨d,.call ⟨.builtin .append,#[x,y],#[t0,t1]⟩,ty,p,#[],none⟩=some (.val (.slice (some ⟨H.next,0,none⟩) (k+1) (k+1)) H1,kd))∧(kd=.heavy∨∃ b,kd=.store b∧f≤b)∧
   Acc lo f e H1 (.slice (some ⟨H.next,0,none⟩) (k+1) (k+1)) (k+1) (cs ++ news)∧YR f H H1:=by
 exact J7 he ht hs hl hz hone hcl hk ha hlo hf
theorem Zeo {H H1:Hp} {o:Ob} (h:H.new o=H1):H1.t.get H.next=some o:=by
 subst h
 show (H.t.set H.next _).get H.next=_
 rw [Tr.get_set,if_pos rfl]
theorem YR.sl {f:Nat} {H H1:Hp} {a:Option Addr} {n c:Nat} {cs:List Value} (h:YR f H H1) (hc:Sl H a n c cs) (hb:∀ b,a=some ⟨b,0,none⟩→b < f):Sl H1 a n c cs:=
 hc.imp id fun ⟨b,e,r,q⟩=>⟨b,e,h.rd r (hb b e),q⟩
def Zf0 (b0 lo f:Nat) (e:TypeId) (H:Hp) (v:Value) (n:Nat) (cs:List Value):Prop:=
 (n=0∧cs=[]∧v=.slice (some ⟨b0,0,none⟩) 0 0∧b0 < H.next∧∃ e0,H.t.get b0=some (.cells [] e0 false))∨∃ b,v=.slice (some ⟨b,0,none⟩) n n∧0 < n∧f≤b∧lo≤b∧b < H.next∧H.t.get b=some (.cells cs e true)
theorem Zf0.keep {b0 lo f:Nat} {e:TypeId} {H H1:Hp} {v:Value} {n:Nat} {cs:List Value} (h:Zf0 b0 lo f e H v n cs) (k:Keep H H1 []):Zf0 b0 lo f e H1 v n cs:=
 h.imp (fun ⟨h1,h2,h3,h4,e0,h5⟩=>⟨h1,h2,h3,Nat.lt_of_lt_of_le h4 k.1,e0,by rw [k.2 b0 h4 (by simp)];exact h5⟩) fun ⟨b,e1,h0,hf,hl,hn,hg⟩=>⟨b,e1,h0,hf,hl,Nat.lt_of_lt_of_le hn k.1,by rw [k.2 b hn (by simp)];exact hg⟩
section
variable {P:Program} {lo:Nat}
end
end Go.Ax

/-! Steps of drawn regions: comparisons. -/
namespace Go.Ax
open Go Go.RowKit
section
variable {P:Program} {kn:Kn} {lo n:Nat} {masks:List Nat} {r:List RO} {ks:List Kd} {S:Rg} {H:Hp} {K:Rg→Hp→Prop} {d:Option Nat} {x y:Operand} {a b:Int}
theorem Vc (hx:evS S x=some (.int .i64 a)) (hy:evS S y=some (.int .i64 b)) (h:Zv P kn lo n masks r (.pure :: ks) (Zt S d (.bool (decide (a < b)))) H K):Zv P kn lo n masks (⟨d,none,.cmp .lss x y⟩ :: r) ks S H K:=by
 simp only [Zv,wRO,wRI,hx,hy];exact h
theorem qD (hx:evS S x=some (.int .i64 a)) (hy:evS S y=some (.int .i64 b)) (h:∀ t,(decide (a < b))=t→Zv P kn lo n masks r (.pure :: ks) (Zt S d (.bool t)) H K):Zv P kn lo n masks (⟨d,none,.cmpb .lss x y⟩ :: r) ks S H K:=by
 simp only [Zv,wRO,wRI,hx,hy];exact h
theorem ZcX (hx:evS S x=some (.int .i64 a)) (hy:evS S y=some (.int .i64 b)) (h:Zv P kn lo n masks r (.pure :: ks) (Zt S d (.bool (decide (a > b)))) H K):Zv P kn lo n masks (⟨d,none,.cmp .gtr x y⟩ :: r) ks S H K:=by
 simp only [Zv,wRO,wRI,hx,hy];exact h
theorem Kq (hx:evS S x=some (.int .i64 a)) (hy:evS S y=some (.int .i64 b)) (h:∀ t,(decide (a > b))=t→Zv P kn lo n masks r (.pure :: ks) (Zt S d (.bool t)) H K):Zv P kn lo n masks (⟨d,none,.cmpb .gtr x y⟩ :: r) ks S H K:=by
 simp only [Zv,wRO,wRI,hx,hy];exact h
end
end Go.Ax

/-! Steps of plain regions,one theorem each (written by program,out of those of drawn regions). -/
namespace Go.Ax
open Go Go.RowKit
section
variable {P:Program} {kn:Kn} {lo n:Nat} {r:List RO} {S:Rg} {H:Hp} {K:Rg→Hp→Prop} {d:Option Nat} {x y:Operand} {rd:Bool} {a b:Int}
theorem Zc {ops:List RO} {c:RC} {K:Exit→Rg→Hp→Prop} (h:Zp P kn lo n ops S H fun S' H'=>wC P kn lo n rd c S' H' K):wC P kn lo n rd (.seq (.reg ops) c) S H K:=h
theorem KQ {ops:List RO} {K:Exit→Rg→Hp→Prop} (h:Zp P kn lo n ops S H fun S' H'=>K .normal S' H'):wC P kn lo n rd (.reg ops) S H K:=h
theorem Zl {K:Exit→Rg→Hp→Prop} (h:K .normal S H):wC P kn lo n rd .skip S H K:=h
theorem Zi7 {id:Nat} {ops:List RO} {K:Exit→Rg→Hp→Prop} (h:Zp P kn lo n ops S H fun S' H'=>K .normal S' H'):wC P kn lo n rd (.block id (.reg ops)) S H K:=h
theorem ZiK {id:Nat} {ops:List RO} {c:RC} {K:Exit→Rg→Hp→Prop} (h:Zp P kn lo n ops S H fun S' H'=>wC P kn lo n rd c S' H' K):wC P kn lo n rd (.seq (.block id (.reg ops)) c) S H K:=h
theorem YO (h:K S H):Zp P kn lo n [] S H K:=h
theorem Wm {id:Nat} {masks:List Nat} {ops:List RO} {K:Exit→Rg→Hp→Prop} (h:Zv P kn lo n masks ops [] S H fun S' H'=>K .normal S' H'):wC P kn lo n rd (.block id (.dreg ops masks)) S H K:=.inl h
theorem Vt {id:Nat} {masks:List Nat} {ops:List RO} {c:RC} {K:Exit→Rg→Hp→Prop} (h:Zv P kn lo n masks ops [] S H fun S' H'=>wC P kn lo n rd c S' H' K):wC P kn lo n rd (.seq (.block id (.dreg ops masks)) c) S H K:=.inl h
theorem ZC {id:Nat} {K:Exit→Rg→Hp→Prop} (h:K (.exit id) S H):wC P kn lo n rd (.exit id) S H K:=h
theorem Zb (h:K S H):Zp P kn lo n [] S H K:=h
theorem Y7 {e:TypeId} {v:Value} (hx:evS S x=some v) (h:∀ H1,Keep H H1 []→H1.next=H.next+1→Cl H1 H.next v.cells.toList→Zp P kn lo n r (Zt S d (.pointer (some ⟨H.next,0,none⟩))) H1 K):Zp P kn lo n (⟨d,none,.box e x⟩ :: r) S H K:=by
 simp only [Zp,wRO,wRI,hx]
 intro H1 hH1
 obtain ⟨k1,n1,c1⟩:=ZL hH1
 exact h H1 k1 n1 c1
theorem Za {v:Value} (hx:evS S x=some v) (h:Zp P kn lo n r (Zt S d v) H K):Zp P kn lo n (⟨d,none,.mov x⟩ :: r) S H K:=by
 show match evS S x with | some v=>Zp P kn lo n r (Zt S d v) H K | none=>False
 rw [hx];exact h
theorem Za4 {a:Addr} (hx:evS S x=some (.pointer (some a))) (h:Zp P kn lo n r (Zt S d (.pointer (some a))) H K):Zp P kn lo n (⟨d,none,.nilc x⟩ :: r) S H K:=by
 simp only [Zp,wRO,wRI,hx];exact h
theorem ZK {b o off:Nat} (hx:evS S x=some (.pointer (some ⟨b,o,none⟩))) (h:Zp P kn lo n r (Zt S d (.pointer (some ⟨b,o+off,none⟩))) H K):Zp P kn lo n (⟨d,none,.addo x off⟩ :: r) S H K:=by
 simp only [Zp,wRO,wRI,hx];exact h
theorem Yq {b o m:Nat} {cs:List Value} {v:Value} (hx:evS S x=some (.pointer (some ⟨b,o,none⟩))) (hc:Rd H b cs) (hv:cs[o]? = some v) (h:Zp P kn lo n r (Zt S d v) H K):Zp P kn lo n (⟨d,none,.ld x m⟩ :: r) S H K:=by
 simp only [Zp,wRO,wRI,hx];exact ⟨cs,v,hc.of,hv,h⟩
theorem Zg {o:Oper} {v:Value} (hd:W7 S o.op.operands.toList=true) (hv:Zn P (frS n S) o=some v) (h:Zp P kn lo n r (Zt S d v) H K):Zp P kn lo n (⟨d,none,.pur o⟩ :: r) S H K:=⟨hd,v,hv,h⟩
theorem Vs {b o m:Nat} {cs:List Value} {v:Value} (hx:evS S x=some (.pointer (some ⟨b,o,none⟩))) (hy:evS S y=some v) (hc:Cl H b cs) (hl:lo≤b) (hm:v.cells.toList.length=m) (h1:v.cells.toList.all one=true) (ho:o+m≤cs.length)
  (h:∀ H1,Keep H H1 [b]→H1.next=H.next→Cl H1 b (Z1 cs o v.cells.toList)→Zp P kn lo n r (Zt S d undef) H1 K):Zp P kn lo n (⟨d,none,.sta x y m⟩ :: r) S H K:=by
 simp only [Zp,wRO,wRI,hx,hy]
 obtain ⟨_,e,l,g⟩:=id hc
 exact ⟨cs,e,l,g,hl,hm,h1,ho,fun H1 hH1=>by obtain ⟨a,b,c⟩:=Wy hc hH1;exact h H1 a b c⟩
theorem WF {b o m:Nat} {cs q:List Value} (hx:evS S x=some (.pointer (some ⟨b,o,none⟩))) (hc:Rd H b cs) (hv:row m cs o=some q) (h:Zp P kn lo n r (Zt S d (.agg q.toArray)) H K):Zp P kn lo n (⟨d,none,.lda x m⟩ :: r) S H K:=by
 simp only [Zp,wRO,wRI,hx];exact ⟨cs,q,hc.of,hv,h⟩
theorem YG {a:Option Addr} {m c:Nat} (hx:evS S x=some (.slice a m c)) (h:Zp P kn lo n r (Zt S d (.int .i64 (m:Int))) H K):Zp P kn lo n (⟨d,none,.len x⟩ :: r) S H K:=by
 simp only [Zp,wRO,wRI,hx];exact h
theorem Zy {a b:Int} (hx:evS S x=some (.int .i64 a)) (hy:evS S y=some (.int .i64 b)) (h2:InR (a+b)) (h:Zp P kn lo n r (Zt S d (.int .i64 (a+b))) H K):Zp P kn lo n (⟨d,none,.ari .add x y⟩ :: r) S H K:=by
 simp only [Zp,wRO,wRI,hx,hy];exact ⟨h2,h⟩
theorem W8 {b o len cap size k:Nat} {kd:IntKind} {j:Int} (hx:evS S x=some (.slice (some ⟨b,o,none⟩) len cap)) (hy:evS S y=some (.int kd j)) (hj:j=(k:Int)) (hk:k < len) (h:Zp P kn lo n r (Zt S d (.pointer (some ⟨b,o+k * size,none⟩))) H K):Zp P kn lo n (⟨d,none,.idx x y size⟩ :: r) S H K:=by
 simp only [Zp,wRO,wRI,hx,hy];exact ⟨k,hj,hk,h⟩
theorem Zs {c:Call} {t:Target} {vs:List Value} {v:Value} {H':Hp} (ht:YH S c=some (t,vs)) (hc:XV P kn lo t vs H v H') (h:Zp P kn lo n r (Zt S d v) H' K):Zp P kn lo n (⟨d,none,.call c true⟩ :: r) S H K:=by
 simp only [Zp,wRO,wRI,ht,Bool.not_true,Bool.false_and,cond_false,cond_true];exact ⟨v,H',hc,h⟩
theorem VJ {a b:Int} (hx:evS S x=some (.int .i64 a)) (hy:evS S y=some (.int .i64 b)) (h2:InR (a * b)) (h:Zp P kn lo n r (Zt S d (.int .i64 (a * b))) H K):Zp P kn lo n (⟨d,none,.ari .mul x y⟩ :: r) S H K:=by
 simp only [Zp,wRO,wRI,hx,hy];exact ⟨h2,h⟩
theorem ZZ {a b:Int} (hx:evS S x=some (.int .i64 a)) (hy:evS S y=some (.int .i64 b)) (h2:InR (a - b)) (h:Zp P kn lo n r (Zt S d (.int .i64 (a - b))) H K):Zp P kn lo n (⟨d,none,.ari .sub x y⟩ :: r) S H K:=by
 simp only [Zp,wRO,wRI,hx,hy];exact ⟨h2,h⟩
theorem Zdc {a b:Int} (hx:evS S x=some (.int .i64 a)) (hy:evS S y=some (.int .i64 b)) (h0:0≤a) (h1:0 < b) (h2:InR a) (h:Zp P kn lo n r (Zt S d (.int .i64 (a / b))) H K):Zp P kn lo n (⟨d,none,.ari .quo x y⟩ :: r) S H K:=by
 simp only [Zp,wRO,wRI,hx,hy];exact ⟨h0,h1,h2,h⟩
theorem ZO {g:Nat} {t:Bool} {ri:RI} (hg:lk S g=some (.bool t)) (h:Zp P kn lo n (⟨d,none,ri⟩ :: r) S H K):Zp P kn lo n (⟨d,some (g,t),ri⟩ :: r) S H K:=by
 cases t<;>(simp only [Zp,wRO,hg] at h ⊢;exact h)
theorem Zgk {a b:Int} (t:Bool) (hx:evS S x=some (.int .i64 a)) (hy:evS S y=some (.int .i64 b)) (ht:decide (a < b)=t) (h:Zp P kn lo n r (Zt S d (.bool t)) H K):Zp P kn lo n (⟨d,none,.cmpb .lss x y⟩ :: r) S H K:=by
 simp only [Zp,wRO,wRI,hx,hy];intro u hu;rw [ht] at hu;subst hu;exact h
theorem Zhb {small:Bool} {a b:Int} (hx:evS S x=some (.int .i64 a)) (hy:evS S y=some (.int .i64 b)) (h:Zp P kn lo n r (Zt S d (.int .i64 (bif small then min a b else max a b))) H K):Zp P kn lo n (⟨d,none,.mm small x y⟩ :: r) S H K:=by
 simp only [Zp,wRO,wRI,hx,hy];exact h
theorem ZcB {b o:Nat} {cs:List Value} {v:Value} (hx:evS S x=some (.pointer (some ⟨b,o,none⟩))) (hy:evS S y=some v) (hc:Cl H b cs) (hl:lo≤b) (hv:v.cells.toList=[v]) (h1:one v=true) (ho:o < cs.length)
  (h:∀ H1,Keep H H1 [b]→H1.next=H.next→Cl H1 b (cs.set o v)→Zp P kn lo n r (Zt S d undef) H1 K):Zp P kn lo n (⟨d,none,.st x y⟩ :: r) S H K:=by
 simp only [Zp,wRO,wRI,hx,hy]
 obtain ⟨_,e,l,g⟩:=id hc
 exact ⟨cs,e,l,g,hl,hv,h1,ho,fun H1 hH1=>by obtain ⟨a,b,c⟩:=Wy hc hH1;exact h H1 a b c⟩
theorem Zw {g:Nat} {t:Bool} {ri:RI} (hg:lk S g=some (.bool (!t))) (h:Zp P kn lo n r (Zt S d undef) H K):Zp P kn lo n (⟨d,some (g,t),ri⟩ :: r) S H K:=by
 cases t<;>(simp only [Zp,wRO,hg,Bool.not_true,Bool.not_false,cond_true,cond_false] at h ⊢;exact h)
theorem W0 {e:TypeId} {z:List Value} (h:∀ H1,Keep H H1 []→H1.next=H.next+1→Cl H1 H.next z→Zp P kn lo n r (Zt S d (.pointer (some ⟨H.next,0,none⟩))) H1 K):Zp P kn lo n (⟨d,none,.alc e z⟩ :: r) S H K:=by
 simp only [Zp,wRO,wRI]
 intro H1 hH1
 obtain ⟨k1,n1,c1⟩:=ZL hH1
 exact h H1 k1 n1 c1
theorem XQ {o:Oper} {v:Value} {H':Hp} {k:Kd} (hd:W7 S o.op.operands.toList=true) (hp:Zn P (frS n S) o=none) (hh:Zu P lo (frS n S) H o=some (.val v H',k)) (hb:∀ b,k=.read b→b < H.next)
  (h:Zp P kn lo n r (Zt S d v) H' K):Zp P kn lo n (⟨d,none,.mem o⟩ :: r) S H K:=⟨hd,.inr ⟨hp,v,H',k,hh,hb,h⟩⟩
theorem ZF (hx:evS S x=some (.int .i64 a)) (hy:evS S y=some (.int .i64 b)) (h:Zp P kn lo n r (Zt S d (.bool (decide (a < b)))) H K):Zp P kn lo n (⟨d,none,.cmp .lss x y⟩ :: r) S H K:=by
 simp only [Zp,wRO,wRI,hx,hy];exact h
theorem Xd (hx:evS S x=some (.int .i64 a)) (hy:evS S y=some (.int .i64 b)) (h:∀ t,(decide (a < b))=t→Zp P kn lo n r (Zt S d (.bool t)) H K):Zp P kn lo n (⟨d,none,.cmpb .lss x y⟩ :: r) S H K:=by
 simp only [Zp,wRO,wRI,hx,hy];exact h
theorem W2 (hx:evS S x=some (.int .i64 a)) (hy:evS S y=some (.int .i64 b)) (h:Zp P kn lo n r (Zt S d (.bool (decide (a≤b)))) H K):Zp P kn lo n (⟨d,none,.cmp .leq x y⟩ :: r) S H K:=by
 simp only [Zp,wRO,wRI,hx,hy];exact h
theorem Zdt (hx:evS S x=some (.int .i64 a)) (hy:evS S y=some (.int .i64 b)) (h:∀ t,(decide (a≤b))=t→Zp P kn lo n r (Zt S d (.bool t)) H K):Zp P kn lo n (⟨d,none,.cmpb .leq x y⟩ :: r) S H K:=by
 simp only [Zp,wRO,wRI,hx,hy];exact h
theorem WZ (hx:evS S x=some (.int .i64 a)) (hy:evS S y=some (.int .i64 b)) (h:Zp P kn lo n r (Zt S d (.bool (decide (a > b)))) H K):Zp P kn lo n (⟨d,none,.cmp .gtr x y⟩ :: r) S H K:=by
 simp only [Zp,wRO,wRI,hx,hy];exact h
theorem Zch (hx:evS S x=some (.int .i64 a)) (hy:evS S y=some (.int .i64 b)) (h:Zp P kn lo n r (Zt S d (.bool (decide (a ≥ b)))) H K):Zp P kn lo n (⟨d,none,.cmp .geq x y⟩ :: r) S H K:=by
 simp only [Zp,wRO,wRI,hx,hy];exact h
theorem QT (hx:evS S x=some (.int .i64 a)) (hy:evS S y=some (.int .i64 b)) (h:Zp P kn lo n r (Zt S d (.bool (a == b))) H K):Zp P kn lo n (⟨d,none,.cmp .eql x y⟩ :: r) S H K:=by
 simp only [Zp,wRO,wRI,hx,hy];exact h
theorem qL (hx:evS S x=some (.int .i64 a)) (hy:evS S y=some (.int .i64 b)) (h:∀ t,(a == b)=t→Zp P kn lo n r (Zt S d (.bool t)) H K):Zp P kn lo n (⟨d,none,.cmpb .eql x y⟩ :: r) S H K:=by
 simp only [Zp,wRO,wRI,hx,hy];exact h
theorem Us (hx:evS S x=some (.int .i64 a)) (hy:evS S y=some (.int .i64 b)) (h:Zp P kn lo n r (Zt S d (.bool (a != b))) H K):Zp P kn lo n (⟨d,none,.cmp .neq x y⟩ :: r) S H K:=by
 simp only [Zp,wRO,wRI,hx,hy];exact h
theorem jF (hx:evS S x=some (.int .i64 a)) (hy:evS S y=some (.int .i64 b)) (h:∀ t,(a != b)=t→Zp P kn lo n r (Zt S d (.bool t)) H K):Zp P kn lo n (⟨d,none,.cmpb .neq x y⟩ :: r) S H K:=by
 simp only [Zp,wRO,wRI,hx,hy];exact h
theorem Yk {c:Call} {f:FuncId} {v:Value} {args:List Value} {t0:Bool} (ht:YH S c=some (.fn (.func f) #[],v :: args)) (h:∃ H',FnX P kn lo f (v :: args) H (.bool t0) H'∧Keep H H' [])
  (hk:∀ t H',t0=t→Keep H H' []→Zp P kn lo n r (Zt S d (.bool t)) H' K) (hs:Ww f=false:=by rfl):Zp P kn lo n (⟨d,none,.call c true⟩ :: r) S H K:=by
 obtain ⟨H',hf,k⟩:=h
 exact Zs ht (Zh hf hs) (hk t0 H' rfl k)

end
end Go.Ax

/-! The evaluator for all inputs,10: operations that are left as_ plain ones (arithmetic that may wrap). -/
namespace Go.Ax
open Go Go.RowKit

section
variable {P:Program} {kn:Kn} {lo n:Nat} {rd:Bool}
end
end Go.Ax


/-! The evaluator for all inputs: what is given lies in blocks that are only read. -/
namespace Go.Ax
open Go Go.RowKit

structure Imp where
 blk:Nat
 off:Nat
 cs:List Value

theorem Zff (f:Nat→Option Ob):∀ n,∃ t:Tr Ob,∀ b,t.get b=if b < n then f b else none
 | 0=>⟨.nil,fun b=>by simp [Tr.get_nil]⟩
 | n+1=>by
  obtain ⟨t,h⟩:=Zff f n
  cases e:f n with
  | none=>
   refine ⟨t,fun b=>?_⟩
   rw [h]
   by_cases hb:b < n
   ·rw [if_pos hb,if_pos (by omega)]
   ·rw [if_neg hb]
    by_cases hb2:b < n+1
    ·rw [if_pos hb2,show b=n by omega,e]
    ·rw [if_neg hb2]
  | some o=>
   refine ⟨t.set n o,fun b=>?_⟩
   rw [Tr.get_set,h]
   by_cases hb:b=n
   ·subst hb;rw [if_pos rfl,if_pos (by omega),e]
   ·rw [if_neg hb]
    by_cases hb2:b < n
    ·rw [if_pos hb2,if_pos (by omega)]
    ·rw [if_neg hb2,if_neg (by omega)]

section
variable {P:Program}
end
end Go.Ax

/-! Code whose outcome hangs on what is drawn (ranges over maps): triples over the machine itself. -/
namespace Go.Ax
open Go Go.RowKit
section
variable {P:Program} {kn:Kn} {lo n:Nat} {rd:Bool}

structure Snd (P:Program) (kn:Kn):Prop where
 hm:P.follows .mixedOrders=true
 hN:NoCount P
 hk:Known P kn

def Yf (P:Program) (lo n:Nat) (rd:Bool) (c:Code) (S:Rg) (H:Hp) (K:Exit→Rg→Hp→Prop):Prop:=
 ∀ (base:Nat) (r:Ren) (w:World) (A:Fr) (tmps:Array Value) (ds:List Deferred) (rdv:Option Nat) (cs:List Frame) (k:List Item),
  lo≤H.next→Rel P r base H w→FrR r A tmps ds rdv→A.n=n→A.round.isSome=rd→ZI S A.T→
  ∃ e S' H' T',K e S' H'∧ZI S' T'∧ZU P lo base r H w (lone (mkF A.fn tmps (.code c :: k) ds .normal rdv) cs w) .normal rdv (fun _=>cs) k A e { A with T:=T' } H' none
def Ub (P:Program) (lo n:Nat) (rd:Bool) (ops:Array Oper) (l:List Nat) (S:Rg) (H:Hp) (K:Exit→Rg→Hp→Prop):Prop:=
 ∀ (base:Nat) (r:Ren) (w:World) (A:Fr) (tmps:Array Value) (ds:List Deferred) (rdv:Option Nat) (cs:List Frame) (k:List Item),
  lo≤H.next→Rel P r base H w→FrR r A tmps ds rdv→A.n=n→A.round.isSome=rd→ZI S A.T→
  ∃ e S' H' T',K e S' H'∧ZI S' T'∧ZU P lo base r H w (lone (mkF A.fn tmps (.inRegion ops l :: k) ds .normal rdv) cs w) .normal rdv (fun _=>cs) k A e { A with T:=T' } H' none

theorem Yf.of (s:Snd P kn) {c:Code} {S:Rg} {H:Hp} {K:Exit→Rg→Hp→Prop} (h:Tri P kn lo n rd c S H K):Yf P lo n rd c S H K:=by
 intro base r w A tmps ds rdv cs k hlo hrel hF hn hr hS
 obtain ⟨e,S',H',T',hK,hk,N,run⟩:=h A hn hr hS
 have q:=(qr (rd:=rdv) (kind:=.normal) (K:=fun _=>cs) (base:=base) (QE s.hm s.hN s.hk N N).1 (Qo P kn N N).2 s.hm (.inl ⟨rfl,fun _=>rfl⟩) N).1 c k r w H A tmps ds none none e _ H' none (run N N N (Nat.le_refl _) (Nat.le_refl _) (Nat.le_refl _)) hlo hrel hF rfl (fun _=>rfl)
 exact ⟨e,S',H',T',hK,hk,q⟩
theorem Yf.mono {c:Code} {S:Rg} {H:Hp} {K K':Exit→Rg→Hp→Prop} (h:Yf P lo n rd c S H K) (hk:∀ e S' H',K e S' H'→K' e S' H'):Yf P lo n rd c S H K':=by
 intro base r w A tmps ds rdv cs k hlo hrel hF hn hr hS
 obtain ⟨e,S',H',T',a,b⟩:=h base r w A tmps ds rdv cs k hlo hrel hF hn hr hS
 exact ⟨e,S',H',T',hk _ _ _ a,b⟩
theorem Yf.forget {c:Code} {S S0:Rg} {H:Hp} {K:Exit→Rg→Hp→Prop} (h:Yf P lo n rd c S0 H K) (hs:∀ j v,lk S0 j=some v→lk S j=some v):Yf P lo n rd c S H K:=
 fun base r w A tmps ds rdv cs k hlo hrel hF hn hr hS=>h base r w A tmps ds rdv cs k hlo hrel hF hn hr fun j v e=>hS j v (hs j v e)

theorem ZU.go {base:Nat} {r:Ren} {H H1:Hp} {w:World} {M:Machine} {rdv:Option Nat} {cs:List Frame} {k k1:List Item} {A:Fr} {T1:Tr Value} {X:Exit→Hp→Tr Value→Prop} (hlo:lo≤H.next)
  (h:ZU P lo base r H w M .normal rdv (fun _=>cs) k1 A .normal { A with T:=T1 } H1 none)
  (go:∀ r1 w1 tm1 ds1,lo≤H1.next→Rel P r1 base H1 w1→FrR r1 { A with T:=T1 } tm1 ds1 rdv→
   ∃ e H' T',X e H' T'∧ZU P lo base r1 H1 w1 (lone (mkF A.fn tm1 k1 ds1 .normal rdv) cs w1) .normal rdv (fun _=>cs) k { A with T:=T1 } e { A with T:=T' } H' none) :
  ∃ e H' T',X e H' T'∧ZU P lo base r H w M .normal rdv (fun _=>cs) k A e { A with T:=T' } H' none:=by
 obtain ⟨r1,w1,tm1,ds1,pc1,post,hF1,hsm,hp1,harr,_⟩:=h
 have harr:Steps P M (lone (mkF A.fn tm1 k1 ds1 .normal rdv) cs w1):=harr
 obtain ⟨e,H',T',hX,q⟩:=go r1 w1 tm1 ds1 (Nat.le_trans hlo post.next) post.rel hF1
 exact ⟨e,H',T',hX,ZU.of_steps harr (ZU.after hlo post hsm q)⟩

theorem Yf.skip {S:Rg} {H:Hp} {K:Exit→Rg→Hp→Prop} (h:K .normal S H):Yf P lo n rd .skip S H K:=
 fun base r w A tmps ds rdv cs k hlo hrel hF hn hr hS=>⟨.normal,S,H,A.T,h,hS,r,w,tmps,ds,none,Zq.refl hrel,hF,.refl _,rfl,Steps.one Zbb,fun _=>rfl⟩
theorem Yf.label {l:Nat} {S:Rg} {H:Hp} {K:Exit→Rg→Hp→Prop} (h:K .normal S H):Yf P lo n rd (.label l) S H K:=
 fun base r w A tmps ds rdv cs k hlo hrel hF hn hr hS=>⟨.normal,S,H,A.T,h,hS,r,w,tmps,ds,none,Zq.refl hrel,hF,.refl _,rfl,Steps.one jw,fun _=>rfl⟩
theorem Yf.exit {id:Nat} {S:Rg} {H:Hp} {K:Exit→Rg→Hp→Prop} (h:K (.exit id) S H):Yf P lo n rd (.exit id) S H K:=
 fun base r w A tmps ds rdv cs k hlo hrel hF hn hr hS=>⟨.exit id,S,H,A.T,h,hS,r,w,tmps,ds,none,Zq.refl hrel,hF,.refl _,rfl,⟨k,rfl,.refl _ _⟩,fun _=>rfl⟩
theorem Yf.ret {S:Rg} {H:Hp} {K:Exit→Rg→Hp→Prop} (h:K .ret S H):Yf P lo n rd .ret S H K:=
 fun base r w A tmps ds rdv cs k hlo hrel hF hn hr hS=>⟨.ret,S,H,A.T,h,hS,r,w,tmps,ds,none,Zq.refl hrel,hF,.refl _,rfl,⟨k,.refl _ _⟩,fun _=>rfl⟩
theorem Yf.seq {x y:Code} {S:Rg} {H:Hp} {K:Exit→Rg→Hp→Prop} (h:Yf P lo n rd x S H fun e S' H'=>match e with | .normal=>Yf P lo n rd y S' H' K | e=>K e S' H'):Yf P lo n rd (.seq x y) S H K:=by
 intro base r w A tmps ds rdv cs k hlo hrel hF hn hr hS
 obtain ⟨e,S1,H1,T1,a,b,q⟩:=h base r w A tmps ds rdv cs (.code y :: k) hlo hrel hF hn hr hS
 cases e with
 | normal=>
  obtain ⟨e2,H2,T2,⟨S2,x1,x2⟩,q2⟩:=q.go (X:=fun e H' T'=>∃ S',K e S' H'∧ZI S' T') hlo fun r1 w1 tm1 ds1 hlo1 hrel1 hF1=>by
   obtain ⟨e2,S2,H2,T2,a2,b2,q2⟩:=a base r1 w1 { A with T:=T1 } tm1 ds1 rdv cs k hlo1 hrel1 hF1 hn hr b
   exact ⟨e2,H2,T2,⟨S2,a2,b2⟩,q2⟩
  exact ⟨e2,S2,H2,T2,x1,x2,ZU.of_steps (Steps.one KF) q2⟩
 | _=>exact ⟨_,S1,H1,T1,a,b,ZU.of_steps (Steps.one KF) (q.left (fun id _=>by simp [exitTo]) (by simp))⟩
theorem Yf.cond {o:Operand} {x y:Code} {t:Bool} {S:Rg} {H:Hp} {K:Exit→Rg→Hp→Prop} (ho:evS S o=some (.bool t)) (h:Yf P lo n rd (if t then x else y) S H K):Yf P lo n rd (.cond o x y) S H K:=by
 intro base r w A tmps ds rdv cs k hlo hrel hF hn hr hS
 have hv:=WU (evR hF.T (ZH hS ho))
 obtain ⟨e,S1,H1,T1,a,b,q⟩:=h base r w A tmps ds rdv cs k hlo hrel hF hn hr hS
 exact ⟨e,S1,H1,T1,a,b,ZU.of_steps (Steps.one (yM hv)) q⟩
theorem Yf.block {id:Nat} {b:Code} {S:Rg} {H:Hp} {K:Exit→Rg→Hp→Prop} (h:Yf P lo n rd b S H fun e S' H'=>match e with | .exit j=>(bif Nat.beq j id then K .normal S' H' else K (.exit j) S' H') | e=>K e S' H'):Yf P lo n rd (.block id b) S H K:=by
 intro base r w A tmps ds rdv cs k hlo hrel hF hn hr hS
 obtain ⟨e,S1,H1,T1,a,b,q⟩:=h base r w A tmps ds rdv cs (.inBlock id :: k) hlo hrel hF hn hr hS
 cases e with
 | normal=>
  refine ⟨.normal,S1,H1,T1,a,b,ZU.of_steps (Steps.one We) ?_⟩
  obtain ⟨r1,w1,tm1,ds1,pc1,p1,p2,p3,p4,p5,p6⟩:=q
  exact ⟨r1,w1,tm1,ds1,pc1,p1,p2,p3,p4,Steps.trans p5 (Steps.one Qm),p6⟩
 | exit j=>
  simp only at a
  cases hj:Nat.beq j id with
  | true=>
   rw [hj] at a
   have hji:j=id:=Nat.eq_of_beq_eq_true hj
   subst hji
   obtain ⟨r',w',tmps',ds',pc',h1,h2,h3,h4,⟨kx,hk,hs⟩,h6⟩:=q
   have hk':exitTo j kx=some k:=by rw [hk];simp [exitTo]
   exact ⟨.normal,S1,H1,T1,a,b,ZU.of_steps (Steps.one We) ⟨r',w',tmps',ds',pc',h1,h2,h3,h4,hs.trans (Steps.one (qu hk')),h6⟩⟩
  | false=>
   rw [hj] at a
   refine ⟨.exit j,S1,H1,T1,a,b,ZU.of_steps (Steps.one We) (q.left (fun id' hid=>?_) (by simp))⟩
   cases hid
   have hne:id≠j:=by rintro rfl;simp at hj
   simp [exitTo,hne]
 | _=>exact ⟨_,S1,H1,T1,a,b,ZU.of_steps (Steps.one We) (q.left (fun id' hid=>by cases hid) (by simp))⟩
theorem Yf.scope {c:Code} {S:Rg} {H:Hp} {K:Exit→Rg→Hp→Prop} (h:Yf P lo n rd c S H K):Yf P lo n rd (.scope c) S H K:=by
 intro base r w A tmps ds rdv cs k hlo hrel hF hn hr hS
 obtain ⟨e,S1,H1,T1,a,b,q⟩:=h base r w A tmps ds rdv cs (.inScope c :: k) hlo hrel hF hn hr hS
 cases e with
 | normal=>
  refine ⟨.normal,S1,H1,T1,a,b,ZU.of_steps (Steps.one UA) ?_⟩
  obtain ⟨r1,w1,tm1,ds1,pc1,p1,p2,p3,p4,p5,p6⟩:=q
  exact ⟨r1,w1,tm1,ds1,pc1,p1,p2,p3,p4,Steps.trans p5 (Steps.one Qi),p6⟩
 | _=>exact ⟨_,S1,H1,T1,a,b,ZU.of_steps (Steps.one UA) (q.left (fun id _=>by simp [exitTo]) (by simp))⟩
theorem Yf.loop {b:Code} {K:Exit→Rg→Hp→Prop} (I:Nat→Rg→Hp→Prop)
  (hb:∀ k S H,I k S H→Yf P lo n rd b S H fun e S' H'=>match e with | .normal=>∃ k',k' < k∧I k' S' H' | e=>K e S' H') :
  ∀ k S H,I k S H→Yf P lo n rd (.loop b) S H K:=by
 have key:∀ m S H,I m S H→∀ (base:Nat) (r:Ren) (w:World) (A:Fr) (tmps:Array Value) (ds:List Deferred) (rdv:Option Nat) (cs:List Frame) (k:List Item),
   lo≤H.next→Rel P r base H w→FrR r A tmps ds rdv→A.n=n→A.round.isSome=rd→ZI S A.T→
   ∃ e H' T',(∃ S',K e S' H'∧ZI S' T')∧ZU P lo base r H w (lone (mkF A.fn tmps (.code b :: .inLoop b :: k) ds .normal rdv) cs w) .normal rdv (fun _=>cs) k A e { A with T:=T' } H' none:=by
  intro m
  induction m using Nat.strongRecOn with
  | ind m ih=>
   intro S H hI base r w A tmps ds rdv cs k hlo hrel hF hn hr hS
   obtain ⟨e,S1,H1,T1,a,b',q⟩:=hb m S H hI base r w A tmps ds rdv cs (.inLoop b :: k) hlo hrel hF hn hr hS
   cases e with
   | normal=>
    obtain ⟨m',hm',hI'⟩:=a
    exact q.go (X:=fun e H' T'=>∃ S',K e S' H'∧ZI S' T') hlo fun r1 w1 tm1 ds1 hlo1 hrel1 hF1=>by
     obtain ⟨e2,H2,T2,hX,q2⟩:=ih m' hm' S1 H1 hI' base r1 w1 { A with T:=T1 } tm1 ds1 rdv cs k hlo1 hrel1 hF1 hn hr b'
     exact ⟨e2,H2,T2,hX,ZU.of_steps (Steps.one zP) q2⟩
   | _=>exact ⟨_,H1,T1,⟨S1,a,b'⟩,q.left (fun id _=>by simp [exitTo]) (by simp)⟩
 intro m S H hI base r w A tmps ds rdv cs k hlo hrel hF hn hr hS
 obtain ⟨e,H',T',⟨S',x1,x2⟩,q⟩:=key m S H hI base r w A tmps ds rdv cs k hlo hrel hF hn hr hS
 exact ⟨e,S',H',T',x1,x2,ZU.of_steps (Steps.one ZaX) q⟩

def XY (P:Program) (lo:Nat) (t:Target) (args:List Value) (H:Hp) (Q:Value→Hp→Prop):Prop:=
 ∀ (r:Ren) (base:Nat) (w:World) (t':Target) (args':Array Value),lo≤H.next→Rel P r base H w→TgR r t t'→LR r args args'.toList→
  ∃ nx fr0,(invoke t' args').run P w=.ok nx w∧Wc P .normal nx=some fr0∧∀ c rest,∃ v H' r' w',Q v H'∧Zq P lo base r H w r' H' w'∧∃ v',VR r' v v'∧Steps P (lone fr0 (c :: rest) w) (lone (c.finish v') rest w')
theorem XY.of (s:Snd P kn) {t:Target} {args:List Value} {H:Hp} {v:Value} {H':Hp} (h:XV P kn lo t args H v H'):XY P lo t args H fun u H1=>u=v∧H1=H':=by
 obtain ⟨N,h⟩:=h
 intro r base w t' args' hlo hrel ht ha
 obtain ⟨nx,fr0,a,b,c⟩:=(QE s.hm s.hN s.hk N N).1 lo t args H _ _ (h N N (Nat.le_refl _) (Nat.le_refl _)) hlo r base w t' args' hrel ht ha
 refine ⟨nx,fr0,a,b,fun c0 rest=>?_⟩
 obtain ⟨r',w',hp,v',hv,hs⟩:=c c0 rest
 exact ⟨v,H',r',w',⟨rfl,rfl⟩,hp,v',hv,hs⟩
theorem XY.mono {t:Target} {args:List Value} {H:Hp} {Q Q':Value→Hp→Prop} (h:XY P lo t args H Q) (hq:∀ v H',Q v H'→Q' v H'):XY P lo t args H Q':=by
 intro r base w t' args' hlo hrel ht ha
 obtain ⟨nx,fr0,a,b,c⟩:=h r base w t' args' hlo hrel ht ha
 refine ⟨nx,fr0,a,b,fun c0 rest=>?_⟩
 obtain ⟨v,H',r',w',q,x⟩:=c c0 rest
 exact ⟨v,H',r',w',hq _ _ q,x⟩

theorem Ub.val {ops:Array Oper} {i:Nat} {rest:List Nat} {o:Oper} {S:Rg} {H:Hp} {K:Exit→Rg→Hp→Prop} (ho:ops[i]? = some o) (hd:∀ c,o.op≠.defer c)
  (h:∀ (base:Nat) (r:Ren) (w:World) (A:Fr) (tmps:Array Value) (ds:List Deferred) (rdv:Option Nat),lo≤H.next→Rel P r base H w→FrR r A tmps ds rdv→A.n=n→ZI S A.T→
   Region.wanted o (yielded ops tmps)=true∧∃ v H1 r1 v' w1 A1,(execOp (evT tmps) o).run P w=.ok (.value v') w1∧VR r1 v v'∧Zq P lo base r H w r1 H1 w1∧A.put o.dst v=some A1∧A1 = { A with T:=Yx A.T o.dst v }∧Ub P lo n rd ops rest (Zt S o.dst v) H1 K) :
  Ub P lo n rd ops (i :: rest) S H K:=by
 intro base r w A tmps ds rdv cs k hlo hrel hF hn hr hS
 obtain ⟨hw,v,H1,r1,v',w1,A1,hrun,hv,hpost,hput,hA1,hrest⟩:=h base r w A tmps ds rdv hlo hrel hF hn hS
 obtain ⟨hF1,hs1,_⟩:=Zc7 (hF.mono hpost.le) hput hv
 subst hA1
 obtain ⟨e,S',H',T',a,b,q⟩:=hrest base r1 w1 _ _ ds rdv cs k (Nat.le_trans hlo hpost.next) hpost.rel hF1 hn hr (ZD hS o.dst v)
 exact ⟨e,S',H',T',a,b,ZU.of_steps (Steps.one (YP ho hw (.inr hd) hrun)) (ZU.after hlo hpost hs1 q)⟩
theorem Ub.nil {ops:Array Oper} {S:Rg} {H:Hp} {K:Exit→Rg→Hp→Prop} (h:K .normal S H):Ub P lo n rd ops [] S H K:=
 fun base r w A tmps ds rdv cs k hlo hrel hF hn hr hS=>⟨.normal,S,H,A.T,h,hS,r,w,tmps,ds,none,Zq.refl hrel,hF,.refl _,rfl,Steps.one Vq,fun _=>rfl⟩
theorem Yf.region {id:Nat} {ops:Array Oper} {S:Rg} {H:Hp} {K:Exit→Rg→Hp→Prop} (h:Ub P lo n rd ops (List.range ops.size) S H K):Yf P lo n rd (.region id ops false) S H K:=by
 intro base r w A tmps ds rdv cs k hlo hrel hF hn hr hS
 obtain ⟨e,S1,H1,T1,a,b,q⟩:=h base r w A tmps ds rdv cs k hlo hrel hF hn hr hS
 exact ⟨e,S1,H1,T1,a,b,ZU.of_steps (Steps.one yi) q⟩
end
end Go.Ax

/-! Maps whose keys and values are ZS: what look-ups,entries,and updates come to. -/
namespace Go.Ax
open Go Go.RowKit
noncomputable section
section
variable {P:Program} {α:Type} [DecidableEq α]
theorem Yu {β γ:Type} (f:β→Sem γ):∀ (x:Sem β),ZB P (x >>= f)=(ZB P x).bind fun a=>ZB P (f a):=by
 intro x
 induction x with
 | pure a=>rfl
 | program k ih=>exact ih P
 | _=>rfl
theorem XN {β:Type} (a:β):ZB P (pure a:Sem β)=some a:=rfl
theorem ZfJ {β:Type} {c:Prop} [Decidable c] (a b:Sem β):ZB P (if c then a else b)=if c then ZB P a else ZB P b:=by split<;>rfl
theorem Wa {t:TypeId} {d:TypeDesc} (hu:P.underlying t=some d):ZB P (underlying t)=some d:=by
 simp only [underlying,Yu,program,ZB,hu,Option.bind_some]
 rfl
structure XE (P:Program) (t:TypeId) (enc:α→Value):Prop where
 fl:∀ a,ZS (enc a)=true
 chk:∀ a e,ZB P (Instr.checkKey e 10000 t (enc a))=some ()
 now:∃ d,P.underlying t=some d∧((∀ a b,Instr.sameNow d (enc a) (enc b)=some (decide (a=b)))∨((∀ a b,Instr.sameNow d (enc a) (enc b)=none)∧∀ a b,ZB P (Op.equal t (enc a) (enc b))=some (decide (a=b))))
 bits:∀ a,Instr.sameBits 10000 (enc a) (enc a)=true
abbrev ML (α:Type):=List (α × Value × Nat)
def Xb (enc:α→Value) (x:α × Value × Nat):MapEntry:=⟨enc x.1,x.2.1,x.2.2⟩
def mEs (enc:α→Value) (L:ML α):Array MapEntry:=(L.map (Xb enc)).toArray
def X9 (a:α):ML α→Nat→Option (Nat × Value)
 | [],_=>none
 | x :: r,i=>if a=x.1 then some (i,x.2.1) else X9 a r (i+1)
def Z7 (a:α):ML α→Option Value
 | []=>none
 | x :: r=>if a=x.1 then some x.2.1 else Z7 a r
def WJ (a:α) (c:Nat):ML α→Nat
 | []=>c
 | x :: r=>if a=x.1 then x.2.2 else WJ a c r
def J8 (a:α) (z:Value) (c:Nat):ML α→ML α
 | []=>[(a,z,c)]
 | x :: r=>if a=x.1 then x :: r else x :: J8 a z c r
def Y6 (a:α) (v:Value) (c:Nat):ML α→ML α
 | []=>[(a,v,c)]
 | x :: r=>if a=x.1 then (x.1,v,x.2.2) :: r else x :: Y6 a v c r
def YY (a:α) (c:Nat) (L:ML α):Nat:=if (Z7 a L).isSome then c else c+1
def yY (b:Nat) (v:Value):ML α→ML α
 | []=>[]
 | x :: r=>if b=x.2.2 then (x.1,v,x.2.2) :: r else x :: yY b v r
structure WfA (L:ML α) (c:Nat):Prop where
 keys:(L.map (·.1)).Nodup
 borns:(L.map (·.2.2)).Nodup
 lt:∀ x∈L,x.2.2 < c
theorem Vy (a:α):∀ (L:ML α) (k:Nat),(X9 a L k).map (·.2)=Z7 a L
 | [],k=>rfl
 | x :: r,k=>by
  simp only [X9,Z7]
  split
  ·rfl
  ·exact Vy a r (k+1)
theorem jh {a:α}:∀ {L:ML α},Z7 a L=none↔∀ x∈L,a≠x.1
 | []=>by simp [Z7]
 | x :: r=>by
  simp only [Z7]
  split
  ·rename_i h;simp [h]
  ·rename_i h;rw [jh];simp [h]
theorem yC {a:α} {v:Value}:∀ {L:ML α},Z7 a L=some v→∃ b,(a,v,b)∈L
 | [],h=>by simp [Z7] at h
 | x :: r,h=>by
  simp only [Z7] at h
  split at h
  ·rename_i e;cases h;exact ⟨x.2.2,by simp [e]⟩
  ·obtain ⟨b,q⟩:=yC h;exact ⟨b,by simp [q]⟩
theorem QW {L:ML α} {c:Nat} (hw:WfA L c):∀ x∈L,Z7 x.1 L=some x.2.1:=by
 have:=hw.keys
 clear hw
 induction L with
 | nil=>intro x h;cases h
 | cons y r ih=>
  intro x hx
  simp only [Z7]
  rcases List.mem_cons.1 hx with rfl | hx
  ·rw [if_pos rfl]
  ·simp only [List.map_cons,List.nodup_cons] at this
   rw [if_neg (fun e:x.1=y.1=>this.1 (List.mem_map.2 ⟨x,hx,e⟩))]
   exact ih this.2 x hx
theorem VK (a a':α) (v:Value) (c:Nat):∀ (L:ML α),Z7 a' (Y6 a v c L)=if a'=a then some v else Z7 a' L
 | []=>by simp [Y6,Z7]
 | x :: r=>by
  simp only [Y6]
  split
  ·rename_i h
   subst h
   simp only [Z7]
   split<;>rfl
  ·rename_i h
   simp only [Z7]
   split
   ·rename_i e
    subst e
    rw [if_neg (fun e=>h e.symm)]
   ·exact VK a a' v c r
theorem zb (a:α) (v:Value) (c:Nat):∀ (L:ML α) b,b∈(Y6 a v c L).map (·.1)↔b=a∨b∈L.map (·.1)
 | [],b=>by simp [Y6]
 | x :: r,b=>by
  simp only [Y6]
  split
  ·rename_i h;subst h;simp
  ·simp only [List.map_cons,List.mem_cons,zb a v c r b]
   constructor
   ·rintro (h | h | h)<;>simp [h]
   ·rintro (h | h | h)<;>simp [h]
theorem zG (a:α) (v:Value) (c:Nat):∀ (L:ML α) b,b∈(Y6 a v c L).map (·.2.2)→b=c∨b∈L.map (·.2.2)
 | [],b=>by simp [Y6]
 | x :: r,b=>by
  simp only [Y6]
  split
  ·intro h;exact .inr (by simpa using h)
  ·intro h
   simp only [List.map_cons,List.mem_cons] at h ⊢
   rcases h with h | h
   ·exact .inr (.inl h)
   ·rcases zG a v c r b h with h | h
    ·exact .inl h
    ·exact .inr (.inr h)
theorem WfA.nil:WfA ([]:ML α) 0:=⟨List.nodup_nil,List.nodup_nil,fun x h=>by cases h⟩
theorem WfA.put {L:ML α} {c:Nat} (h:WfA L c) (a:α) (v:Value):WfA (Y6 a v c L) (YY a c L):=by
 have key:∀ (L:ML α),(L.map (·.1)).Nodup→(L.map (·.2.2)).Nodup→(∀ x∈L,x.2.2 < c)→
   ((Y6 a v c L).map (·.1)).Nodup∧((Y6 a v c L).map (·.2.2)).Nodup∧∀ x∈Y6 a v c L,x.2.2 < YY a c L:=by
  intro L
  induction L with
  | nil=>intro _ _ _;simp [Y6,YY,Z7]
  | cons x r ih=>
   intro h1 h2 h3
   simp only [List.map_cons,List.nodup_cons] at h1 h2
   simp only [Y6]
   split
   ·rename_i e
    subst e
    refine ⟨by simp only [List.map_cons,List.nodup_cons];exact h1,by simp only [List.map_cons,List.nodup_cons];exact h2,fun y hy=>?_⟩
    have hc:YY x.1 c (x :: r)=c:=by simp [YY,Z7]
    rw [hc]
    rcases List.mem_cons.1 hy with rfl | hy
    ·exact h3 x (by simp)
    ·exact h3 y (by simp [hy])
   ·rename_i e
    obtain ⟨p,q,s⟩:=ih h1.2 h2.2 (fun y hy=>h3 y (by simp [hy]))
    have hc:YY a c (x :: r)=YY a c r:=by simp [YY,Z7,e]
    rw [hc]
    have hge:c≤YY a c r:=by unfold YY;split<;>omega
    refine ⟨?_,?_,fun y hy=>?_⟩
    ·simp only [List.map_cons,List.nodup_cons,zb]
     exact ⟨by rintro (q | q);exact e q.symm;exact h1.1 q,p⟩
    ·simp only [List.map_cons,List.nodup_cons]
     refine ⟨fun hm=>?_,q⟩
     rcases zG a v c r _ hm with q | q
     ·have:=h3 x (by simp);omega
     ·exact h2.1 q
    ·rcases List.mem_cons.1 hy with rfl | hy
     ·have:=h3 y (by simp);omega
     ·exact s y hy
 obtain ⟨p,q,s⟩:=key L h.keys h.borns h.lt
 exact ⟨p,q,s⟩
section
variable {t:TypeId} {enc:α→Value}
theorem zd {d:TypeDesc} (h:∀ a b:α,Instr.sameNow d (enc a) (enc b)=some (decide (a=b))) (a:α):∀ (L:ML α) (i:Nat),Instr.findNow d (enc a) (L.map (Xb enc)) i=some (X9 a L i)
 | [],i=>rfl
 | x :: r,i=>by
  simp only [List.map_cons,Instr.findNow,Xb,h,X9]
  by_cases e:a=x.1
  ·simp [e]
  ·rw [decide_eq_false e,if_neg e]
   exact zd h a r (i+1)
theorem KU (h:∀ a b:α,ZB P (Op.equal t (enc a) (enc b))=some (decide (a=b))) (a:α):∀ (L:ML α) (i:Nat),ZB P (Instr.findAsking t (enc a) (L.map (Xb enc)) i)=some (X9 a L i)
 | [],i=>rfl
 | x :: r,i=>by
  simp only [List.map_cons,Instr.findAsking,Xb,Yu,h,Option.bind_some,X9]
  by_cases e:a=x.1
  ·simp [e,XN]
  ·rw [decide_eq_false e,if_neg e]
   exact KU h a r (i+1)
theorem XE.find (k:XE P t enc) (a:α) (L:ML α):ZB P (Instr.findKey t (enc a) (mEs enc L).toList)=some (X9 a L 0):=by
 obtain ⟨d,hu,hd⟩:=k.now
 have hl:(mEs enc L).toList=L.map (Xb enc):=by simp [mEs]
 unfold Instr.findKey
 rw [hl,Yu,Wa hu,Option.bind_some]
 rcases hd with h | ⟨h1,h2⟩
 ·rw [zd h];rfl
 ·cases L with
  | nil=>rfl
  | cons x r=>
   have:Instr.findNow d (enc a) ((x :: r).map (Xb enc)) 0=none:=by
    simp only [List.map_cons,Instr.findNow,Xb,h1]
   rw [this]
   exact KU h2 a (x :: r) 0
theorem ql {a:α} {i:Nat} {v:Value}:∀ {L:ML α} {k:Nat},X9 a L k=some (i,v)→∃ j x,i=k+j∧L[j]? = some x∧x.1=a∧x.2.1=v∧WJ a 0 L=x.2.2∧(∀ c,WJ a c L=x.2.2)∧(∀ z c,J8 a z c L=L)∧∀ u c,Y6 a u c L=L.set j (x.1,u,x.2.2)
 | [],k,h=>by simp [X9] at h
 | x :: r,k,h=>by
  simp only [X9] at h
  split at h
  ·rename_i e
   cases h
   exact ⟨0,x,rfl,rfl,e.symm,rfl,by simp [WJ,e],by simp [WJ,e],by simp [J8,e],by simp [Y6,e]⟩
  ·rename_i e
   obtain ⟨j,y,h1,h2,h3,h4,h5,h6,h7,h8⟩:=ql h
   exact ⟨j+1,y,by omega,by simpa using h2,h3,h4,by simp [WJ,e,h5],by simp [WJ,e,h6],by simp [J8,e,h7],by simp [Y6,e,h8]⟩
theorem Kl {a:α}:∀ {L:ML α} {k:Nat},X9 a L k=none→Z7 a L=none∧(∀ c,WJ a c L=c)∧(∀ z c,J8 a z c L=L ++ [(a,z,c)])∧∀ u c,Y6 a u c L=L ++ [(a,u,c)]
 | [],k,_=>⟨rfl,fun _=>rfl,fun _ _=>rfl,fun _ _=>rfl⟩
 | x :: r,k,h=>by
  simp only [X9] at h
  split at h
  ·cases h
  ·rename_i e
   obtain ⟨p,q,s,u⟩:=Kl h
   exact ⟨by simp [Z7,e,p],by simp [WJ,e,q],by simp [J8,e,s],by simp [Y6,e,u]⟩
theorem Zba (k:XE P t enc) {tm te:TypeId} (hu:P.underlying tm=some (.map t te)) {z:Value} (hz:ZB P (zeroValue te)=some z) (a:α) (L:ML α) (ok:Bool) :
  ZB P (W5 tm (mEs enc L) (enc a) ok)=some (if ok then .tuple #[(Z7 a L).getD z,.bool (Z7 a L).isSome] else (Z7 a L).getD z):=by
 unfold W5
 simp only [Yu,Wa hu,Option.bind_some,k.chk,k.find]
 rw [← Vy a L 0]
 cases X9 a L 0 with
 | none=>simp only [Yu,hz,Option.bind_some,Option.map_none,Option.getD_none,Option.isSome_none,XN]
 | some q=>simp only [Yu,XN,Option.bind_some,Option.map_some,Option.getD_some,Option.isSome_some]
theorem Qf {L:ML α} {j:Nat} {x:α × Value × Nat} (hx:L[j]? = some x) {f:MapEntry→MapEntry} {y:α × Value × Nat} (hf:f (Xb enc x)=Xb enc y):(mEs enc L).modify j f=mEs enc (L.set j y):=by
 unfold mEs
 rw [List.modify_toArray]
 congr 1
 apply List.ext_getElem?
 intro i
 rw [List.getElem?_modify,List.getElem?_map,List.getElem?_map,List.getElem?_set]
 by_cases e:j=i
 ·subst e
  have hlt:j < L.length:=by
   rcases Nat.lt_or_ge j L.length with q | q
   ·exact q
   ·rw [List.getElem?_eq_none q] at hx;cases hx
  simp only [if_true,hlt,hx,Option.map_some]
  show some (f (Xb enc x))=_
  rw [hf]
 ·simp [e]
theorem qG {β:Type}:∀ {L:List β} {j:Nat} {x:β},L[j]? = some x→L.set j x=L
 | [],j,x,h=>by simp at h
 | y :: r,0,x,h=>by simp at h;subst h;rfl
 | y :: r,j+1,x,h=>by simp at h;simp [qG h]
theorem qR {L:ML α} {a:α} {v:Value} {c:Nat}:(mEs enc L).push { key:=enc a,val:=v,born:=c }=mEs enc (L ++ [(a,v,c)]):=by
 unfold mEs
 simp [Xb]
theorem yr (k:XE P t enc) {tm te:TypeId} (hu:P.underlying tm=some (.map t te)) (a:α) (L:ML α) (c:Nat) (v:Value) :
  ZB P (X8 tm (mEs enc L) c (enc a) v)=some (mEs enc (Y6 a v c L),YY a c L):=by
 unfold X8
 simp only [Yu,Wa hu,Option.bind_some,k.chk,k.find]
 have hg:=Vy a L 0
 cases hf:X9 a L 0 with
 | none=>
  obtain ⟨p,_,_,u⟩:=Kl hf
  simp only [XN,qR,u,YY,p]
  rfl
 | some q=>
  obtain ⟨i,w⟩:=q
  rw [hf] at hg
  obtain ⟨j,x,h1,h2,h3,h4,_,_,_,h8⟩:=ql hf
  have hij:i=j:=by omega
  subst hij
  have hkey:(((mEs enc L)[i]?).map (·.key)).getD (enc a)=enc a:=by
   simp only [mEs,List.getElem?_toArray,List.getElem?_map,h2,Option.map_some,Option.getD_some,Xb,h3]
  simp only [hkey,Instr.keyThatStays,k.bits,if_true,Yu,XN,Option.bind_some]
  rw [h8,Qf (y:=(x.1,v,x.2.2)) h2 (by simp [Xb,h3])]
  simp only [Option.map_some] at hg
  rw [show YY a c L=c by unfold YY;rw [← hg];rfl]
theorem Zgo (k:XE P t enc) {tm te:TypeId} (hu:P.underlying tm=some (.map t te)) {z:Value} (hz:ZB P (zeroValue te)=some z) (a:α) (L:ML α) (c:Nat) :
  ZB P (Q3 tm (mEs enc L) c (enc a))=some (.tuple #[(Z7 a L).getD z,goInt (WJ a c L)],mEs enc (J8 a z c L),YY a c L):=by
 unfold Q3
 simp only [Yu,Wa hu,Option.bind_some,k.chk,k.find]
 have hg:=Vy a L 0
 cases hf:X9 a L 0 with
 | none=>
  obtain ⟨p,q,s,u⟩:=Kl hf
  simp only [Yu,hz,Option.bind_some,XN,qR,s,q,YY,p]
  rfl
 | some q=>
  obtain ⟨i,w⟩:=q
  rw [hf] at hg
  obtain ⟨j,x,h1,h2,h3,h4,_,h6,h7,h8⟩:=ql hf
  have hij:i=j:=by omega
  subst hij
  have hkey:(((mEs enc L)[i]?).map (·.key)).getD (enc a)=enc a:=by
   simp only [mEs,List.getElem?_toArray,List.getElem?_map,h2,Option.map_some,Option.getD_some,Xb,h3]
  have hborn:(((mEs enc L)[i]?).map (fun x=>(x.born:Int))).getD 0=(x.2.2:Int):=by
   simp only [mEs,List.getElem?_toArray,List.getElem?_map,h2,Option.map_some,Option.getD_some,Xb]
  simp only [hkey,hborn,Instr.keyThatStays,k.bits,if_true,Yu,XN,Option.bind_some]
  rw [h7,Qf (y:=x) h2 (by simp [Xb,h3]),qG h2,h6]
  simp only [Option.map_some] at hg
  rw [show YY a c L=c by unfold YY;rw [← hg];rfl,← hg]
  rfl
theorem ZfQ (L:ML α) (b:Nat) (v:Value) (hb:∃ x∈L,x.2.2=b):ZB P (Wd (mEs enc L) (goInt b) v)=some (mEs enc (yY b v L)):=by
 unfold Wd
 have hi:ZB P (asInt (goInt b))=some (b:Int):=rfl
 simp only [Yu,hi,Option.bind_some]
 have key:∀ (L:ML α),(∃ x∈L,x.2.2=b)→∃ i x,(L.map (Xb enc)).findIdx? (fun e=>(e.born:Int) == (b:Int))=some i∧L[i]? = some x∧yY b v L=L.set i (x.1,v,x.2.2):=by
  intro L
  induction L with
  | nil=>rintro ⟨x,h,_⟩;cases h
  | cons y r ih=>
   intro ⟨x,hx,hxb⟩
   simp only [List.map_cons,List.findIdx?_cons,yY]
   by_cases e:b=y.2.2
   ·subst e
    refine ⟨0,y,by simp [Xb],rfl,by simp⟩
   ·rcases List.mem_cons.1 hx with rfl | hx
    ·exact absurd hxb.symm e
    ·obtain ⟨i,z,h1,h2,h3⟩:=ih ⟨x,hx,hxb⟩
     have hne:((Xb enc y).born:Int)≠(b:Int):=by
      intro q
      have:y.2.2=b:=Int.ofNat_inj.1 q
      exact e this.symm
     refine ⟨i+1,z,by simp [hne,h1],by simpa using h2,by simp [e,h3]⟩
 obtain ⟨i,x,h1,h2,h3⟩:=key L hb
 have hidx:(mEs enc L).findIdx? (fun e=>(e.born:Int) == (b:Int))=some i:=by
  unfold mEs;rw [List.findIdx?_toArray];exact h1
 rw [hidx]
 simp only [XN]
 rw [Qf (y:=(x.1,v,x.2.2)) h2 (by simp [Xb]),h3]
theorem Zge {t:TypeId} (hu:P.underlying t=some (.int .i64)):XE P t (fun x:Int=>Value.int .i64 x) where
 fl:=fun _=>rfl
 chk:=fun a e=>by
  show ZB P (Instr.checkKey e (9999+1) t (.int .i64 a))=_
  rw [Instr.checkKey,Yu,Wa hu,Option.bind_some]
  rfl
 now:=⟨_,hu,.inl fun a b=>by
  simp only [Instr.sameNow,if_true]
  by_cases h:a=b<;>simp [h]⟩
 bits:=fun a=>by simp [Instr.sameBits]
/-! Maps whose values point. -/
def MLR (r:Ren):ML α→ML α→Prop
 | [],[]=>True
 | x :: l,y :: l'=>(y.1=x.1∧y.2.2=x.2.2∧VR r x.2.1 y.2.1)∧MLR r l l'
 | _,_=>False
theorem Zdo {r:Ren}:∀ {L:ML α} {l':List MapEntry},EsR r (L.map (Xb enc)) l'→∃ L',l'=L'.map (Xb enc)∧MLR r L L'
 | [],[],_=>⟨[],rfl,True.intro⟩
 | x :: L,y :: l',h=>by
  obtain ⟨L',e,k⟩:=Zdo (L:=L) (l':=l') h.2
  obtain ⟨key,val,born⟩:=y
  have h1:key=enc x.1:=h.1.1
  have h2:born=x.2.2:=h.1.2.1
  subst h1 h2
  exact ⟨(x.1,val,x.2.2) :: L',by rw [e];rfl,⟨rfl,rfl,h.1.2.2⟩,k⟩
 | [],_ :: _,h=>h.elim
 | _ :: _,[],h=>h.elim
theorem ZcD {r:Ren}:∀ {L L':ML α},MLR r L L'→EsR r (L.map (Xb enc)) (L'.map (Xb enc))
 | [],[],_=>True.intro
 | x :: L,y :: L',h=>⟨⟨by show enc y.1=enc x.1;rw [h.1.1],h.1.2.1,h.1.2.2⟩,ZcD h.2⟩
 | [],_ :: _,h=>h.elim
 | _ :: _,[],h=>h.elim
theorem MLR.get {r:Ren} (a:α):∀ {L L':ML α},MLR r L L'→(Z7 a L=none∧Z7 a L'=none)∨∃ v v',Z7 a L=some v∧Z7 a L'=some v'∧VR r v v'
 | [],[],_=>.inl ⟨rfl,rfl⟩
 | x :: L,y :: L',h=>by
  simp only [Z7,h.1.1]
  split
  ·exact .inr ⟨_,_,rfl,rfl,h.1.2.2⟩
  ·exact MLR.get a h.2
 | [],_ :: _,h=>h.elim
 | _ :: _,[],h=>h.elim
theorem MLR.born {r:Ren} (a:α) (c:Nat):∀ {L L':ML α},MLR r L L'→WJ a c L'=WJ a c L
 | [],[],_=>rfl
 | x :: L,y :: L',h=>by simp only [WJ,h.1.1,h.1.2.1,MLR.born a c h.2]
 | [],_ :: _,h=>h.elim
 | _ :: _,[],h=>h.elim
theorem MLR.ent {r:Ren} (a:α) {z:Value} (hz:VR r z z) (c:Nat):∀ {L L':ML α},MLR r L L'→MLR r (J8 a z c L) (J8 a z c L')
 | [],[],_=>⟨⟨rfl,rfl,hz⟩,True.intro⟩
 | x :: L,y :: L',h=>by
  simp only [J8,h.1.1]
  split
  ·exact h
  ·exact ⟨h.1,MLR.ent a hz c h.2⟩
 | [],_ :: _,h=>h.elim
 | _ :: _,[],h=>h.elim
theorem MLR.sto {r:Ren} (b:Nat) {v v':Value} (hv:VR r v v'):∀ {L L':ML α},MLR r L L'→MLR r (yY b v L) (yY b v' L')
 | [],[],_=>True.intro
 | x :: L,y :: L',h=>by
  simp only [yY,h.1.2.1]
  split
  ·exact ⟨⟨h.1.1,rfl,hv⟩,h.2⟩
  ·exact ⟨h.1,MLR.sto b hv h.2⟩
 | [],_ :: _,h=>h.elim
 | _ :: _,[],h=>h.elim
theorem MLR.put {r:Ren} (a:α) {v v':Value} (hv:VR r v v') (c:Nat):∀ {L L':ML α},MLR r L L'→MLR r (Y6 a v c L) (Y6 a v' c L')
 | [],[],_=>⟨⟨rfl,rfl,hv⟩,True.intro⟩
 | x :: L,y :: L',h=>by
  simp only [Y6,h.1.1]
  split
  ·exact ⟨⟨rfl,h.1.2.1,hv⟩,h.2⟩
  ·exact ⟨h.1,MLR.put a hv c h.2⟩
 | [],_ :: _,h=>h.elim
 | _ :: _,[],h=>h.elim
theorem MLR.mem {r:Ren}:∀ {L L':ML α},MLR r L L'→∀ y∈L',∃ x∈L,y.1=x.1∧y.2.2=x.2.2∧VR r x.2.1 y.2.1
 | [],[],_,y,hy=>by cases hy
 | x :: L,y :: L',h,u,hu=>by
  rcases List.mem_cons.1 hu with rfl | hu
  ·exact ⟨x,by simp,h.1⟩
  ·obtain ⟨v,hv,q⟩:=MLR.mem h.2 u hu
   exact ⟨v,by simp [hv],q⟩
 | [],_ :: _,h,_,_=>h.elim
 | _ :: _,[],h,_,_=>h.elim
theorem MLR.mem' {r:Ren}:∀ {L L':ML α},MLR r L L'→∀ x∈L,∃ y∈L',y.1=x.1∧y.2.2=x.2.2∧VR r x.2.1 y.2.1
 | [],[],_,y,hy=>by cases hy
 | x :: L,y :: L',h,u,hu=>by
  rcases List.mem_cons.1 hu with rfl | hu
  ·exact ⟨y,by simp,h.1⟩
  ·obtain ⟨v,hv,q⟩:=MLR.mem' h.2 u hu
   exact ⟨v,by simp [hv],q⟩
 | [],_ :: _,h,_,_=>h.elim
 | _ :: _,[],h,_,_=>h.elim
theorem MLR.borns {r:Ren}:∀ {L L':ML α},MLR r L L'→L'.map (·.2.2)=L.map (·.2.2)
 | [],[],_=>rfl
 | x :: L,y :: L',h=>by simp only [List.map_cons,h.1.2.1,MLR.borns h.2]
 | [],_ :: _,h=>h.elim
 | _ :: _,[],h=>h.elim
theorem MLR.bornIn {r:Ren} {b:Nat}:∀ {L L':ML α},MLR r L L'→(∃ e∈L,e.2.2=b)→∃ e∈L',e.2.2=b
 | [],[],_,h=>h
 | x :: L,y :: L',h,⟨e,he,hb⟩=>by
  rcases List.mem_cons.1 he with rfl | he
  ·exact ⟨y,by simp,h.1.2.1.trans hb⟩
  ·obtain ⟨u,hu,q⟩:=MLR.bornIn h.2 ⟨e,he,hb⟩
   exact ⟨u,by simp [hu],q⟩
 | [],_ :: _,h,_=>h.elim
 | _ :: _,[],h,_=>h.elim
section
variable {base lo:Nat} {r:Ren} {H:Hp} {w:World}
theorem qZ (h:Rel P r base H w) {b c:Nat} {L:ML α} {loc:Loc} (e:r b=some loc) (hg:H.t.get b=some (.mq (mEs enc L) c)):∃ L',w.heap[loc.blk]? = some (.map (mEs enc L') c)∧MLR r L L'∧loc.blk < w.heap.size:=by
 obtain ⟨es',ho,hes⟩:=h.cont _ _ _ e hg
 have hl:(mEs enc L).toList=L.map (Xb enc):=by simp [mEs]
 rw [hl] at hes
 obtain ⟨L',e1,k⟩:=Zdo hes
 have:es'=mEs enc L':=by unfold mEs;rw [← e1]
 subst this
 refine ⟨L',ho,k,?_⟩
 rcases Nat.lt_or_ge loc.blk w.heap.size with q | q
 ·exact q
 ·rw [Array.getElem?_eq_none q] at ho;cases ho
theorem Zav (h:Rel P r base H w) {b c c':Nat} {L L2 L2':ML α} {loc:Loc} (e:r b=some loc) (hg:H.t.get b=some (.mq (mEs enc L) c)) (hlb:lo≤b) (hk:MLR r L2 L2') :
  (setObj loc.blk (.map (mEs enc L2') c')).run P w=.ok () { w with heap:=w.heap.setIfInBounds loc.blk (.map (mEs enc L2') c') }∧Zq P lo base r H w r { H with t:=H.t.set b (.mq (mEs enc L2) c') } { w with heap:=w.heap.setIfInBounds loc.blk (.map (mEs enc L2') c') }:=by
 obtain ⟨L',ho,_,hlt⟩:=qZ h e hg
 refine ⟨by simp [setObj,Sem.run,ho],?_⟩
 refine Zq.change h e ⟨_,hg,by simp,rfl⟩ hlb (by simp) (fun q hq=>?_) ⟨rfl,rfl,rfl⟩ ?_
 ·show (w.heap.setIfInBounds loc.blk _)[q]? = _
  rw [Array.getElem?_setIfInBounds,if_neg (fun e=>hq e.symm)]
 ·refine ⟨mEs enc L2',?_,?_⟩
  ·show (w.heap.setIfInBounds loc.blk _)[loc.blk]? = _
   rw [Array.getElem?_setIfInBounds,if_pos rfl,if_pos hlt]
  ·have h1:(mEs enc L2).toList=L2.map (Xb enc):=by simp [mEs]
   have h2:(mEs enc L2').toList=L2'.map (Xb enc):=by simp [mEs]
   rw [h1,h2]
   exact ZcD hk
theorem ZeY (h:Rel P r base H w) (k:XE P t enc) {tm te:TypeId} (hu:P.underlying tm=some (.map t te)) {z:Value} (hz:ZB P (zeroValue te)=some z) (hf:ZS z=true) {b c:Nat} {a:α} {L:ML α} (hg:H.t.get b=some (.mq (mEs enc L) c)) {m' k':Value} (hm:VR r (.map (some b)) m') (hk:VR r (enc a) k') :
  ∃ v',(Instr.lookup tm m' k' false).run P w=.ok v' w∧VR r ((Z7 a L).getD z) v':=by
 rw [ZJ (k.fl a) hk]
 cases hm with
 | mapv e=>
  rename_i loc
  obtain ⟨L',ho,hml,_⟩:=qZ h e hg
  refine ⟨(Z7 a L').getD z,?_,?_⟩
  ·rw [W1 hu ho]
   have:=Yg _ (Zba k hu hz a L' false) w
   simpa using this
  ·rcases hml.get a with ⟨e1,e2⟩ | ⟨v,v',e1,e2,hv⟩
   ·rw [e1,e2];exact Yp hf
   ·rw [e1,e2];exact hv
theorem ZdU (h:Rel P r base H w) (k:XE P t enc) {tm te:TypeId} (hu:P.underlying tm=some (.map t te)) {z:Value} (hz:ZB P (zeroValue te)=some z) (hf:ZS z=true) {b c:Nat} {a:α} {L:ML α} (hg:H.t.get b=some (.mq (mEs enc L) c)) (hlb:lo≤b) {m' k':Value} (hm:VR r (.map (some b)) m') (hk:VR r (enc a) k') :
  ∃ v' w',(Instr.mapEntry tm m' k').run P w=.ok v' w'∧VR r (.tuple #[(Z7 a L).getD z,goInt (WJ a c L)]) v'∧Zq P lo base r H w r { H with t:=H.t.set b (.mq (mEs enc (J8 a z c L)) (YY a c L)) } w':=by
 rw [ZJ (k.fl a) hk]
 cases hm with
 | mapv e=>
  rename_i loc
  obtain ⟨L',ho,hml,_⟩:=qZ h e hg
  obtain ⟨hrun,hpost⟩:=Zav (lo:=lo) (c':=YY a c L) h e hg hlb (hml.ent a (Yp hf) c)
  have hc:YY a c L'=YY a c L:=by
   unfold YY
   rcases hml.get a with ⟨e1,e2⟩ | ⟨v,v',e1,e2,hv⟩<;>rw [e1,e2]<;>rfl
  refine ⟨.tuple #[(Z7 a L').getD z,goInt (WJ a c L')],_,?_,?_,hpost⟩
  ·rw [yf hu ho (Zgo k hu hz a L' c),hc]
   simp only [Sem.run_bind,hrun,Result.andThen_ok,Sem.run_pure]
  ·refine .tuple rfl fun i u u' e1 e2=>?_
   match i with
   | 0=>
    simp at e1 e2
    subst e1 e2
    rcases hml.get a with ⟨e1,e2⟩ | ⟨v,v',e1,e2,hv⟩
    ·rw [e1,e2];exact Yp hf
    ·rw [e1,e2];exact hv
   | 1=>
    simp at e1 e2
    subst e1 e2
    rw [hml.born]
    exact Yp rfl
   | i+2=>simp at e1
theorem ZfI (h:Rel P r base H w) (k:XE P t enc) {tm te:TypeId} (hu:P.underlying tm=some (.map t te)) {b c:Nat} {a:α} {L:ML α} {v:Value} (hg:H.t.get b=some (.mq (mEs enc L) c)) (hlb:lo≤b) {m' k' v':Value} (hm:VR r (.map (some b)) m') (hk:VR r (enc a) k') (hv:VR r v v') :
  ∃ w',(Instr.mapUpdate tm m' k' v').run P w=.ok () w'∧Zq P lo base r H w r { H with t:=H.t.set b (.mq (mEs enc (Y6 a v c L)) (YY a c L)) } w':=by
 rw [ZJ (k.fl a) hk]
 cases hm with
 | mapv e=>
  rename_i loc
  obtain ⟨L',ho,hml,_⟩:=qZ h e hg
  obtain ⟨hrun,hpost⟩:=Zav (lo:=lo) (c':=YY a c L) h e hg hlb (hml.put a hv c)
  have hc:YY a c L'=YY a c L:=by
   unfold YY
   rcases hml.get a with ⟨e1,e2⟩ | ⟨v,v',e1,e2,hv⟩<;>rw [e1,e2]<;>rfl
  exact ⟨_,by rw [Qq hu ho (yr k hu a L' c v'),hc];exact hrun,hpost⟩
theorem ZcE (h:Rel P r base H w) {tm:TypeId} {b c st:Nat} {L:ML α} {v:Value} (hg:H.t.get b=some (.mq (mEs enc L) c)) (hlb:lo≤b) (hb:∃ e∈L,e.2.2=st) {m' s' v':Value} (hm:VR r (.map (some b)) m') (hs:VR r (goInt st) s') (hv:VR r v v') :
  ∃ w',(Instr.entryStore tm m' s' v').run P w=.ok () w'∧Zq P lo base r H w r { H with t:=H.t.set b (.mq (mEs enc (yY st v L)) c) } w':=by
 rw [ZJ (rfl:ZS (goInt st)=true) hs]
 cases hm with
 | mapv e=>
  rename_i loc
  obtain ⟨L',ho,hml,_⟩:=qZ h e hg
  obtain ⟨hrun,hpost⟩:=Zav (lo:=lo) (c':=c) h e hg hlb (hml.sto st hv)
  exact ⟨_,by rw [Ux ho (ZfQ L' st v' (hml.bornIn hb))];exact hrun,hpost⟩
end
end
end
end
end Go.Ax


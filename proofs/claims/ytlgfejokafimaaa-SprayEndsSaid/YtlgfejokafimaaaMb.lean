import Derived.Test.YtlgfejokafimaaaMa
import Derived.Orders
import Derived.RangeFuncRecord
import Derived.Defers
import Derived.RangeFuncLeaves
set_option linter.all false
namespace Go.Ax
open Go Go.RowKit

def mkF (fn:FuncId) (tmps:Array Value) (todo:List Item) (ds:List Deferred) (kind:CallKind) (rd:Option Nat):Frame:=
 { fn,tmps,todo,defers:=ds,mode:=.run,kind,roundOf:=rd }

section moves
variable {P:Program} {fn:FuncId} {tmps:Array Value} {k:List Item} {ds:List Deferred} {kind:CallKind} {rd:Option Nat} {cs:List Frame} {w:World}
theorem qx:step P (lone (mkF fn tmps (.code .skip :: k) ds kind rd) cs w)=.next (lone (mkF fn tmps k ds kind rd) cs w):=
 step_lone_go (by simp [stepG,stepG.exec,mkF])
theorem z0 {l:Nat}:step P (lone (mkF fn tmps (.code (.label l) :: k) ds kind rd) cs w)=.next (lone (mkF fn tmps k ds kind rd) cs w):=
 step_lone_go (by simp [stepG,stepG.exec,mkF])
theorem Ug {id:Nat}:step P (lone (mkF fn tmps (.inBlock id :: k) ds kind rd) cs w)=.next (lone (mkF fn tmps k ds kind rd) cs w):=
 step_lone_go (by simp [stepG,stepG.exec,mkF])
theorem V2 {c:Code}:step P (lone (mkF fn tmps (.inScope c :: k) ds kind rd) cs w)=.next (lone (mkF fn tmps k ds kind rd) cs w):=
 step_lone_go (by simp [stepG,stepG.exec,mkF])
theorem Vv {c:Code}:step P (lone (mkF fn tmps (.code (.scope c) :: k) ds kind rd) cs w)=.next (lone (mkF fn tmps (.code c :: .inScope c :: k) ds kind rd) cs w):=
 step_lone_go (by simp [stepG,stepG.exec,mkF])
theorem Jl {x y:Code}:step P (lone (mkF fn tmps (.code (.seq x y) :: k) ds kind rd) cs w)=.next (lone (mkF fn tmps (.code x :: .code y :: k) ds kind rd) cs w):=
 step_lone_go (by simp [stepG,stepG.exec,mkF])
theorem K5 {c:Operand} {x y:Code} {t:Bool} (h:evT tmps c=.bool t):step P (lone (mkF fn tmps (.code (.cond c x y) :: k) ds kind rd) cs w)=.next (lone (mkF fn tmps (.code (if t then x else y) :: k) ds kind rd) cs w):=
 step_lone_go (by
  have:=yB (mkF fn tmps (.code (.cond c x y) :: k) ds kind rd)
  simp only [mkF] at this
  simp [stepG,stepG.exec,mkF,this,h])
theorem XJ {id:Nat} {c:Code}:step P (lone (mkF fn tmps (.code (.block id c) :: k) ds kind rd) cs w)=.next (lone (mkF fn tmps (.code c :: .inBlock id :: k) ds kind rd) cs w):=
 step_lone_go (by simp [stepG,stepG.exec,mkF])
theorem qK {c:Code}:step P (lone (mkF fn tmps (.code (.loop c) :: k) ds kind rd) cs w)=.next (lone (mkF fn tmps (.code c :: .inLoop c :: k) ds kind rd) cs w):=
 step_lone_go (by simp [stepG,stepG.exec,mkF])
theorem KA {c:Code}:step P (lone (mkF fn tmps (.inLoop c :: k) ds kind rd) cs w)=.next (lone (mkF fn tmps (.code c :: .inLoop c :: k) ds kind rd) cs w):=
 step_lone_go (by simp [stepG,stepG.exec,mkF])
theorem KX {id:Nat} {k':List Item} (h:exitTo id k=some k'):step P (lone (mkF fn tmps (.code (.exit id) :: k) ds kind rd) cs w)=.next (lone (mkF fn tmps k' ds kind rd) cs w):=
 step_lone_go (by simp [stepG,stepG.exec,mkF,h])
theorem Kb {id:Nat} {ops:Array Oper}:step P (lone (mkF fn tmps (.code (.region id ops false) :: k) ds kind rd) cs w)=.next (lone (mkF fn tmps (.inRegion ops (List.range ops.size) :: k) ds kind rd) cs w):=
 step_lone_go (by simp [stepG,stepG.exec,mkF])
theorem KH {id:Nat} {ops:Array Oper}:step P (lone (mkF fn tmps (.code (.region id ops true) :: k) ds kind rd) cs w) =
  .next (lone (mkF fn tmps (.inRegion ops (Region.schedule (P.follows .mixedOrders) ops (w.tape w.drawn (.order fn id))) :: k) ds kind rd) cs { w with drawn:=w.drawn+1 }):=
 step_lone_go (by simp [stepG,stepG.exec,mkF,choose,Sem.run,Question.forced,Question.cut])
theorem WK {ops:Array Oper}:step P (lone (mkF fn tmps (.inRegion ops [] :: k) ds kind rd) cs w)=.next (lone (mkF fn tmps k ds kind rd) cs w):=
 step_lone_go (by simp [stepG,stepG.exec,mkF])
theorem yS:step P (lone (mkF fn tmps (.code .ret :: k) ds kind none) cs w)=.next (lone { mkF fn tmps (.code .ret :: k) ds kind none with mode:=.returning } cs w):=
 step_lone_go (by simp [stepG,stepG.exec,mkF])
theorem yp:step P (lone (mkF fn tmps [] ds kind none) cs w)=.next (lone { mkF fn tmps [] ds kind none with mode:=.returning } cs w):=
 step_lone_go (by simp [stepG,stepG.exec,mkF])

/-! ### One operation -/
variable {ops:Array Oper} {i:Nat} {rest:List Nat} {o:Oper}
def Wo (tmps:Array Value) (dst:Option Tmp) (v:Value):Array Value:=
 match dst with
 | some d=>tmps.setIfInBounds d v
 | none=>tmps
theorem Xi (v:Value) (ho:ops[i]? = some o):(mkF fn tmps (.inRegion ops (i :: rest) :: k) ds kind rd).finish v=mkF fn (Wo tmps o.dst v) (.inRegion ops rest :: k) ds kind rd:=by
 simp only [Frame.finish,mkF,ho,Option.bind_some,Wo]
 cases o.dst<;>rfl
theorem UV (ho:ops[i]? = some o) (hw:Region.wanted o (yielded ops tmps)=false) :
  step P (lone (mkF fn tmps (.inRegion ops (i :: rest) :: k) ds kind rd) cs w)=.next (lone (mkF fn (Wo tmps o.dst undef) (.inRegion ops rest :: k) ds kind rd) cs w):=by
 rw [← Xi undef ho]
 exact step_lone_go (by simp [stepG,stepG.exec,mkF,ho,hw])
theorem X4 (ho:ops[i]? = some o) (hw:Region.wanted o (yielded ops tmps)=true) (hd:rd=none∨∀ c,o.op≠.defer c) :
  stepG P true { frame:=mkF fn tmps (.inRegion ops (i :: rest) :: k) ds kind rd,callers:=cs,status:=.running,dying:=none } w =
   stepG.apply P true (mkF fn tmps (.inRegion ops (i :: rest) :: k) ds kind rd) cs none (execOp (evT tmps) o) w:=by
 have he:=yB (mkF fn tmps (.inRegion ops (i :: rest) :: k) ds kind rd)
 simp only [mkF] at he
 rcases hd with rfl | hd
 ·simp [stepG,stepG.exec,stepG.oper,Frame.oper?,mkF,ho,hw,he]
 ·cases rd with
  | none=>simp [stepG,stepG.exec,stepG.oper,Frame.oper?,mkF,ho,hw,he]
  | some l=>
   cases hop:o.op with
   | defer c=>exact absurd hop (hd c)
   | _=>simp [stepG,stepG.exec,stepG.oper,Frame.oper?,mkF,ho,hw,he,hop]
variable (ho:ops[i]? = some o) (hw:Region.wanted o (yielded ops tmps)=true) (hd:rd=none∨∀ c,o.op≠.defer c)
include ho hw hd
theorem YA {v:Value} {w':World} (hr:(execOp (evT tmps) o).run P w=.ok (.value v) w') :
  step P (lone (mkF fn tmps (.inRegion ops (i :: rest) :: k) ds kind rd) cs w)=.next (lone (mkF fn (Wo tmps o.dst v) (.inRegion ops rest :: k) ds kind rd) cs w'):=by
 refine step_lone_go ?_
 rw [X4 ho hw hd,← Xi v ho]
 simp [stepG.apply,hr]
theorem Wt {w':World} (hr:(execOp (evT tmps) o).run P w=.ok .skip w') :
  step P (lone (mkF fn tmps (.inRegion ops (i :: rest) :: k) ds kind rd) cs w)=.next (lone (mkF fn (Wo tmps o.dst undef) (.inRegion ops rest :: k) ds kind rd) cs w'):=by
 refine step_lone_go ?_
 rw [X4 ho hw hd,← Xi undef ho]
 simp [stepG.apply,hr]
theorem ZaE {d:Deferred} {w':World} (hr:(execOp (evT tmps) o).run P w=.ok (.defer d) w') :
  step P (lone (mkF fn tmps (.inRegion ops (i :: rest) :: k) ds kind rd) cs w)=.next (lone (mkF fn (Wo tmps o.dst undef) (.inRegion ops rest :: k) (d :: ds) kind rd) cs w'):=by
 refine step_lone_go ?_
 have:({ mkF fn tmps (.inRegion ops (i :: rest) :: k) ds kind rd with defers:=d :: ds }:Frame).finish undef=mkF fn (Wo tmps o.dst undef) (.inRegion ops rest :: k) (d :: ds) kind rd:=Xi (ds:=d :: ds) undef ho
 rw [X4 ho hw hd,← this]
 simp only [stepG.apply,Sem.runT_eq,hr,if_true,GStep.bare_after]
 rfl
theorem z7 {v:Value} {w':World} (hr:(execOp (evT tmps) o).run P w=.halt (.panic v) w') :
  step P (lone (mkF fn tmps (.inRegion ops (i :: rest) :: k) ds kind rd) cs w) =
   .next (lone { mkF fn tmps (.inRegion ops (i :: rest) :: k) ds kind rd with mode:=.panicking [{ v,recovered:=false }] } cs w'):=by
 refine step_lone_go ?_
 rw [X4 ho hw hd]
 simp [stepG.apply,hr,Frame.raise,mkF]
theorem Um {f:FuncId} {args:Array Value} {w':World} (hr:(execOp (evT tmps) o).run P w=.ok (.enter f args) w') :
  step P (lone (mkF fn tmps (.inRegion ops (i :: rest) :: k) ds kind rd) cs w) =
   .next (lone (Frame.enter P f args .normal) (mkF fn tmps (.inRegion ops (i :: rest) :: k) ds kind rd :: cs) w'):=by
 refine step_lone_go ?_
 rw [X4 ho hw hd]
 simp [stepG.apply,hr,mkF]
theorem UN {l:Nat} {f:FuncId} {ts:Array Value} {asg body:Code} {w':World} (hr:(execOp (evT tmps) o).run P w=.ok (.round l f ts asg body) w') :
  step P (lone (mkF fn tmps (.inRegion ops (i :: rest) :: k) ds kind rd) cs w) =
   .next (lone (Frame.round l f ts asg body .normal) (mkF fn tmps (.inRegion ops (i :: rest) :: k) ds kind rd :: cs) w'):=by
 refine step_lone_go ?_
 rw [X4 ho hw hd]
 simp [stepG.apply,hr,mkF]
theorem QC {w':World} (hrd:rd=none) (hr:(execOp (evT tmps) o).run P w=.ok .recover w') (ht:tryRecover (mkF fn tmps (.inRegion ops (i :: rest) :: k) ds kind rd) cs=none) :
  step P (lone (mkF fn tmps (.inRegion ops (i :: rest) :: k) ds kind rd) cs w)=.next (lone (mkF fn (Wo tmps o.dst .nilIface) (.inRegion ops rest :: k) ds kind rd) cs w'):=by
 refine step_lone_go ?_
 subst hrd
 rw [X4 ho hw (.inl rfl),← Xi .nilIface ho]
 simp only [stepG.apply,Sem.runT_eq,hr,if_true,GStep.bare_after]
 have:(mkF fn tmps (.inRegion ops (i :: rest) :: k) ds kind none).roundOf=none:=rfl
 simp only [this,ht]
 rfl
theorem Qy {w':World} {v:Value} {cs':List Frame} (hrd:rd=none) (hr:(execOp (evT tmps) o).run P w=.ok .recover w') (ht:tryRecover (mkF fn tmps (.inRegion ops (i :: rest) :: k) ds kind rd) cs=some (v,cs')) :
  step P (lone (mkF fn tmps (.inRegion ops (i :: rest) :: k) ds kind rd) cs w)=.next (lone (mkF fn (Wo tmps o.dst v) (.inRegion ops rest :: k) ds kind rd) cs' w'):=by
 refine step_lone_go ?_
 subst hrd
 rw [X4 ho hw (.inl rfl),← Xi v ho]
 simp only [stepG.apply,Sem.runT_eq,hr,if_true,GStep.bare_after]
 have:(mkF fn tmps (.inRegion ops (i :: rest) :: k) ds kind none).roundOf=none:=rfl
 simp only [this,ht]
 rfl
end moves
end Go.Ax

namespace Go.Ax
open Go Go.RowKit

def RdR (r:Ren):Option Nat→Option Nat→Prop
 | none,x=>x=none
 | some l,x=>∃ loc,r l=some loc∧x=some loc.blk
theorem RdR.mono {r r':Ren} (h:Ren.Le r r') {a b:Option Nat} (k:RdR r a b):RdR r' a b:=by
 cases a with
 | none=>exact k
 | some l=>obtain ⟨loc,e,q⟩:=k;exact ⟨loc,h _ _ e,q⟩
def WL (r:Ren):Par→Par→Prop
 | none,x=>x=none
 | some (v,b),x=>∃ v',VR r v v'∧x=some (v',b)
theorem WL.mono {r r':Ren} (h:Ren.Le r r') {a b:Par} (k:WL r a b):WL r' a b:=by
 cases a with
 | none=>exact k
 | some q=>obtain ⟨v,b'⟩:=q;obtain ⟨v',e,q⟩:=k;exact ⟨v',e.mono h,q⟩
def Xu:Par→FrameMode
 | none=>.returning
 | some (v,b)=>.panicking [{ v,recovered:=b }]
def KOK (kind:CallKind) (K:Par→List Frame):Prop:=
 (kind=.normal∧∀ p,K p=K none)∨(kind=.deferred∧∃ (c:Frame) (rest:List Frame),∀ p,K p = { c with mode:=Xu p } :: rest)

structure FrR (r:Ren) (A:Fr) (tmps:Array Value) (ds:List Deferred) (rd:Option Nat):Prop where
 T:Xk r A.n A.T tmps
 D:DsR r A.defers ds
 R:RdR r A.round rd
theorem FrR.mono {r r':Ren} (h:Ren.Le r r') {A:Fr} {tmps:Array Value} {ds:List Deferred} {rd:Option Nat} (k:FrR r A tmps ds rd):FrR r' A tmps ds rd:=⟨k.T.mono h,k.D.mono h,k.R.mono h⟩

structure QA (A A':Fr):Prop where
 fn:A'.fn=A.fn
 n:A'.n=A.n
 round:A'.round=A.round
theorem QA.refl (A:Fr):QA A A:=⟨rfl,rfl,rfl⟩
theorem QA.trans {a b c:Fr} (h:QA a b) (k:QA b c):QA a c:=⟨k.fn.trans h.fn,k.n.trans h.n,k.round.trans h.round⟩

def Arr (P:Program) (r:Ren) (M:Machine) (fn:FuncId) (tmps:Array Value) (ds:List Deferred) (kind:CallKind) (rd:Option Nat) (cs:List Frame) (w:World) (k:List Item):Exit→Prop
 | .normal=>Steps P M (lone (mkF fn tmps k ds kind rd) cs w)
 | .exit id=>∃ kx,exitTo id kx=exitTo id k∧Steps P M (lone (mkF fn tmps (.code (.exit id) :: kx) ds kind rd) cs w)
 | .ret=>∃ kx,Steps P M (lone (mkF fn tmps (.code .ret :: kx) ds kind rd) cs w)
 | .panic [{ v,recovered:=false,goexit:=false }]=>∃ todo v',VR r v v'∧Steps P M (lone { mkF fn tmps todo ds kind rd with mode:=.panicking [{ v:=v',recovered:=false }] } cs w)
 | _=>False

def ZN (P:Program) (lo base:Nat) (r:Ren) (H:Hp) (w:World) (M:Machine) (kind:CallKind) (rd:Option Nat) (K:Par→List Frame) (k:List Item) (A:Fr) (e:Exit) (A':Fr) (H':Hp) (p':Par):Prop:=
 ∃ r' w' tmps' ds' pc',Zr P lo base r H w r' H' w'∧FrR r' A' tmps' ds' rd∧QA A A'∧WL r' p' pc'∧Arr P r' M A.fn tmps' ds' kind rd (K pc') w' k e∧(kind=.normal→p'=none)

theorem ZN.of_steps {P:Program} {lo base:Nat} {r:Ren} {H:Hp} {w:World} {M M1:Machine} {kind:CallKind} {rd:Option Nat} {K:Par→List Frame} {k:List Item} {A A':Fr} {e:Exit} {H':Hp} {p':Par} (hs:Steps P M M1)
  (h:ZN P lo base r H w M1 kind rd K k A e A' H' p'):ZN P lo base r H w M kind rd K k A e A' H' p':=by
 obtain ⟨r',w',tmps',ds',pc',h1,h2,h3,h4,h5,h6⟩:=h
 refine ⟨r',w',tmps',ds',pc',h1,h2,h3,h4,?_,h6⟩
 unfold Arr at h5 ⊢
 split at h5
 ·exact hs.trans h5
 ·obtain ⟨kx,a,b⟩:=h5;exact ⟨kx,a,hs.trans b⟩
 ·obtain ⟨kx,b⟩:=h5;exact ⟨kx,hs.trans b⟩
 ·obtain ⟨t,v',a,b⟩:=h5;exact ⟨t,v',a,hs.trans b⟩
 ·exact h5.elim

theorem ZN.after {P:Program} {lo base:Nat} {r r1:Ren} {H H1:Hp} {w w1:World} {M:Machine} {kind:CallKind} {rd:Option Nat} {K:Par→List Frame} {k:List Item} {A A1 A':Fr} {e:Exit} {H':Hp} {p':Par} (hlo:lo≤H.next)
  (hp:Zr P lo base r H w r1 H1 w1) (hsm:QA A A1) (h:ZN P lo base r1 H1 w1 M kind rd K k A1 e A' H' p'):ZN P lo base r H w M kind rd K k A e A' H' p':=by
 obtain ⟨r',w',tmps',ds',pc',h1,h2,h3,h4,h5,h6⟩:=h
 rw [hsm.fn] at h5
 exact ⟨r',w',tmps',ds',pc',hp.trans hlo h1,h2,hsm.trans h3,h4,h5,h6⟩

def XS (P:Program) (kind:CallKind):Next→Option Frame
 | .enter f a=>some (Frame.enter P f a kind)
 | .round l f tmps asg body=>some (Frame.round l f tmps asg body kind)
 | _=>none
def WH (P:Program) (C:CallF):Prop:=
 ∀ lo t args H e H',C lo t args H=some (e,H')→lo≤H.next→∀ r base w t' (args':Array Value),Rel P r base H w→TgR r t t'→LR r args args'.toList→
  ∃ nx fr0,(invoke t' args').run P w=.ok nx w∧XS P .normal nx=some fr0∧∀ c rest,∃ r' w',Zr P lo base r H w r' H' w'∧
   match e with
   | .ret v=>∃ v',VR r' v v'∧Steps P (lone fr0 (c :: rest) w) (lone (c.finish v') rest w')
   | .pan v=>∃ v',VR r' v v'∧Steps P (lone fr0 (c :: rest) w) (lone (c.raise [{ v:=v',recovered:=false }]) rest w')

section
variable {P:Program} {lo base:Nat} {r:Ren} {A:Fr} {H:Hp} {w:World} {tmps:Array Value} {ds:List Deferred} {rd:Option Nat}

theorem Xb (hT:Xk r A.n A.T tmps) {ops:Array Oper} {o:Oper} {b:Bool} (h:ZE ops A o=some b):Region.wanted o (yielded ops tmps)=b:=by
 unfold ZE at h
 unfold Region.wanted
 cases hg:o.guard with
 | none=>simp [hg] at h;simp [h]
 | some q=>
  obtain ⟨j,want⟩:=q
  simp only [hg] at h ⊢
  cases ho:ops[j]? with
  | none=>simp [ho] at h
  | some g=>
   simp only [ho] at h
   cases hd:g.dst with
   | none=>simp [hd] at h
   | some d=>
    simp only [hd] at h
    cases hv:A.T.get d with
    | none=>simp [hv] at h
    | some v=>
     obtain ⟨v',e,q⟩:=hT.2 d v hv
     rw [hv] at h
     split at h<;>first | (cases h;done) | skip
     ·rename_i b' heq
      cases heq;cases h
      have:=XY q
      subst this
      simp [yielded,ho,hd,e]
     ·rename_i vs heq
      cases heq;cases h
      have:∃ vs',v'=.tuple vs':=by cases q;exact ⟨_,rfl⟩
      obtain ⟨vs',rfl⟩:=this
      simp [yielded,ho,hd,e]

theorem Zar (hF:FrR r A tmps ds rd) {dst:Option Tmp} {v v':Value} {A':Fr} (h:A.put dst v=some A') (q:VR r v v'):FrR r A' (Wo tmps dst v') ds rd∧QA A A'∧A'.defers=A.defers:=by
 unfold Fr.put at h
 cases dst with
 | none=>simp at h;subst h;exact ⟨hF,.refl _,rfl⟩
 | some d=>
  simp only at h
  obtain ⟨hb,h⟩:=Zc h
  have hb:=Nat.le_of_ble_eq_true hb
  cases h
  exact ⟨⟨hF.T.set d (by omega) q,hF.D,hF.R⟩,⟨rfl,rfl,rfl⟩,rfl⟩

theorem Wi (r:Ren):VR r undef undef:=Yf rfl

theorem Q0 {o:Oper} {c:Call} (hop:o.op=.defer c):Zo P A o=none:=by unfold Zo;simp only [hop]
theorem Jd {o:Oper} {c:Call} (hop:o.op=.defer c) {rs:Rs} {k:Kd} (h:Zu P lo A H o=some (rs,k)):∃ d,rs=.dfr d:=by
 unfold Zu at h
 simp only [hop] at h
 cases hc:c.callee<;>simp only [hc] at h
 ·cases ht:Yz A c with
  | none=>simp [ht] at h
  | some q=>obtain ⟨t,vs⟩:=q;simp [ht] at h;exact ⟨_,h.1.symm⟩
 ·cases ht:Yz A c with
  | none=>simp [ht] at h
  | some q=>obtain ⟨t,vs⟩:=q;simp [ht] at h;exact ⟨_,h.1.symm⟩
 ·cases h

theorem VZ (h:Rel P r base H w) (hlo:lo≤H.next) (hT:Xk r A.n A.T tmps) {o:Oper} {rs:Rs} {k:Kd} (he:aOp P lo A H o=some (rs,k)):OpS P lo base r H w (execOp (evT tmps) o) rs∧((∀ c,o.op≠.defer c)∨∃ d,rs=.dfr d):=by
 unfold aOp at he
 cases hp:Zo P A o with
 | some v=>
  rw [hp] at he
  cases he
  obtain ⟨v',q,hy⟩:=zP hT hp
  refine ⟨⟨r,v',w,hy w,q,Zr.refl h⟩,.inl fun c hc=>?_⟩
  rw [Q0 hc] at hp;cases hp
 | none=>
  rw [hp] at he
  refine ⟨Vx h hlo hT he,?_⟩
  by_cases hd:∃ c,o.op=.defer c
  ·obtain ⟨c,hc⟩:=hd;exact .inr (Jd hc he)
  ·exact .inl fun c hc=>hd ⟨c,hc⟩

theorem yx {kind:CallKind} {K:Par→List Frame} (hK:KOK kind K) (fr:Frame) (hk:fr.kind=kind) (p:Par) (hp:p=none∨∃ v,p=some (v,true)):tryRecover fr (K p)=none:=by
 unfold tryRecover
 rcases hK with ⟨rfl,_⟩ | ⟨rfl,c,rest,hc⟩
 ·rw [hk]
 ·rw [hk,hc]
  rcases hp with rfl | ⟨v,rfl⟩<;>rfl
theorem z3 {kind:CallKind} {K:Par→List Frame} (hK:KOK kind K) (hn:kind≠.normal) (fr:Frame) (hk:fr.kind=kind) (v:Value):tryRecover fr (K (some (v,false)))=some (v,K (some (v,true))):=by
 unfold tryRecover
 rcases hK with ⟨rfl,_⟩ | ⟨rfl,c,rest,hc⟩
 ·exact absurd rfl hn
 ·rw [hk,hc,hc];rfl

theorem Zes {C:CallF} (hC:WH P C) {kind:CallKind} {K:Par→List Frame} (hK:KOK kind K) (k:List Item) (ops:Array Oper):∀ (l:List Nat) (r:Ren) (w:World) (H:Hp) (A:Fr) (tmps:Array Value) (ds:List Deferred) (p pc:Par) (e:Exit) (A':Fr) (H':Hp) (p':Par),
  ZX P lo C ops l A H p=some (e,A',H',p')→lo≤H.next→Rel P r base H w→FrR r A tmps ds rd→WL r p pc→(kind=.normal→p=none)→
  ZN P lo base r H w (lone (mkF A.fn tmps (.inRegion ops l :: k) ds kind rd) (K pc) w) kind rd K k A e A' H' p':=by
 intro l
 induction l with
 | nil=>
  intro r w H A tmps ds p pc e A' H' p' h hlo hrel hF hp hn
  simp only [ZX] at h
  cases h
  exact ⟨r,w,tmps,ds,pc,Zr.refl hrel,hF,.refl _,hp,Steps.one WK,hn⟩
 | cons i rest ih=>
  intro r w H A tmps ds p pc e A' H' p' h hlo hrel hF hp hn
  simp only [ZX] at h
  cases ho:ops[i]? with
  | none=>simp [ho] at h
  | some o=>
   simp only [ho] at h
   cases hw:ZE ops A o with
   | none=>simp [hw] at h
   | some b=>
    have hwr:=Xb hF.T hw
    have goOn:∀ {r1:Ren} {w1:World} {H1:Hp} {A0 A1:Fr} {ds1:List Deferred} {p1 pc1:Par} {v v':Value} {tm1:Array Value},Zr P lo base r H w r1 H1 w1→FrR r1 A0 tm1 ds1 rd→QA A A0→WL r1 p1 pc1→(kind=.normal→p1=none)→
      VR r1 v v'→A0.put o.dst v=some A1→ZX P lo C ops rest A1 H1 p1=some (e,A',H',p')→
      Steps P (lone (mkF A.fn tmps (.inRegion ops (i :: rest) :: k) ds kind rd) (K pc) w) (lone (mkF A.fn (Wo tm1 o.dst v') (.inRegion ops rest :: k) ds1 kind rd) (K pc1) w1)→
      ZN P lo base r H w (lone (mkF A.fn tmps (.inRegion ops (i :: rest) :: k) ds kind rd) (K pc) w) kind rd K k A e A' H' p':=by
     intro r1 w1 H1 A0 A1 ds1 p1 pc1 v v' tm1 hpost hF0 hsm hp1 hn1 hv hput hrun hsteps
     obtain ⟨hF1,hs1,_⟩:=Zar hF0 hput hv
     have hsm2:=hsm.trans hs1
     have:=ih r1 w1 H1 A1 (Wo tm1 o.dst v') ds1 p1 pc1 e A' H' p' hrun (Nat.le_trans hlo hpost.next) hpost.rel hF1 hp1 hn1
     rw [hsm2.fn] at this
     exact ZN.of_steps hsteps (ZN.after hlo hpost hsm2 this)
    cases b with
    | false=>
     simp only [hw] at h
     cases hput:A.put o.dst undef with
     | none=>simp [hput] at h
     | some A1=>
      simp only [hput] at h
      exact goOn (Zr.refl hrel) hF (.refl _) hp hn (Wi r) hput h (Steps.one (UV ho hwr))
    | true=>
     simp only [hw] at h
     cases hop:aOp P lo A H o with
     | none=>simp [hop] at h
     | some q=>
      obtain ⟨rs,kd⟩:=q
      obtain ⟨hS,hdef⟩:=VZ hrel hlo hF.T hop
      simp only [hop] at h
      cases rs with
      | val v H1=>
       have hd:rd=none∨∀ c,o.op≠.defer c:=.inr (hdef.resolve_right fun ⟨d,hd⟩=>by cases hd)
       obtain ⟨r1,v',w1,hr,hv,hpost⟩:=hS
       simp only at h
       cases hput:A.put o.dst v with
       | none=>simp [hput] at h
       | some A1=>
        simp only [hput] at h
        exact goOn hpost (hF.mono hpost.le) (.refl _) (hp.mono hpost.le) hn hv hput h (Steps.one (YA ho hwr hd hr))
      | skip H1=>
       have hd:rd=none∨∀ c,o.op≠.defer c:=.inr (hdef.resolve_right fun ⟨d,hd⟩=>by cases hd)
       obtain ⟨w1,hr,hpost⟩:=hS
       simp only at h
       cases hput:A.put o.dst undef with
       | none=>simp [hput] at h
       | some A1=>
        simp only [hput] at h
        exact goOn hpost (hF.mono hpost.le) (.refl _) (hp.mono hpost.le) hn (Wi r) hput h (Steps.one (Wt ho hwr hd hr))
      | dfr d=>
       simp only at h
       cases hrd:A.round with
       | some l=>simp [hrd] at h
       | none=>
        have hrd':rd=none:=by have:=hF.R;rw [hrd] at this;exact this
        simp only [hrd] at h
        obtain ⟨d',hr,hdr⟩:=hS
        split at h
        rotate_left
        ·cases h
        ·rename_i A1 hput
         rw [← hrd] at hput
         exact goOn (A0:={ A with defers:=d :: A.defers }) (Zr.refl hrel) ⟨hF.T,.cons hdr hF.D,hF.R⟩ ⟨rfl,rfl,rfl⟩ hp hn (Wi r) hput h (Steps.one (ZaE ho hwr (.inl hrd') hr))
      | recov=>
       simp only at h
       cases hrd:A.round with
       | some l=>simp [hrd] at h
       | none=>
        have hrd':rd=none:=by have:=hF.R;rw [hrd] at this;exact this
        simp only [hrd] at h
        have hr:(execOp (evT tmps) o).run P w=.ok .recover w:=hS
        have hd:rd=none∨∀ c,o.op≠.defer c:=.inl hrd'
        have case0:∀ q,(p=none∨∃ v,p=some (v,true))→A.put o.dst .nilIface=some q→ZX P lo C ops rest q H p=some (e,A',H',p')→
          ZN P lo base r H w (lone (mkF A.fn tmps (.inRegion ops (i :: rest) :: k) ds kind rd) (K pc) w) kind rd K k A e A' H' p':=fun q hpp hput hrun=>by
         have hpc:pc=none∨∃ v,pc=some (v,true):=by
          rcases hpp with rfl | ⟨v,rfl⟩
          ·exact .inl hp
          ·obtain ⟨v',_,e⟩:=hp;exact .inr ⟨v',e⟩
         exact goOn (Zr.refl hrel) hF (.refl _) hp hn .nilIface hput hrun (Steps.one (QC ho hwr hd hrd' hr (yx hK _ rfl pc hpc)))
        cases p with
        | none=>
         simp only at h
         cases hput:A.put o.dst .nilIface with
         | none=>simp [hput] at h
         | some A1=>simp only [hput] at h;exact case0 A1 (.inl rfl) hput h
        | some q=>
         obtain ⟨v,bb⟩:=q
         cases bb with
         | true=>
          simp only at h
          cases hput:A.put o.dst .nilIface with
          | none=>simp [hput] at h
          | some A1=>simp only [hput] at h;exact case0 A1 (.inr ⟨v,rfl⟩) hput h
         | false=>
          simp only at h
          cases hput:A.put o.dst v with
          | none=>simp [hput] at h
          | some A1=>
           simp only [hput] at h
           obtain ⟨v',hv,rfl⟩:=hp
           have hnk:kind≠.normal:=fun q=>by have:=hn q;cases this
           exact goOn (p1:=some (v,true)) (pc1:=some (v',true)) (Zr.refl hrel) hF (.refl _) ⟨v',hv,rfl⟩ (fun q=>absurd q hnk) hv hput h (Steps.one (Qy ho hwr hd hrd' hr (z3 hK hnk _ rfl v')))
      | pan v=>
       have hd:rd=none∨∀ c,o.op≠.defer c:=.inr (hdef.resolve_right fun ⟨d,hd⟩=>by cases hd)
       obtain ⟨v',hr,hv⟩:=hS
       simp only at h
       cases h
       exact ⟨r,w,tmps,ds,pc,Zr.refl hrel,hF,.refl _,hp,⟨_,v',hv,Steps.one (z7 ho hwr hd hr)⟩,hn⟩
      | call t args=>
       have hd:rd=none∨∀ c,o.op≠.defer c:=.inr (hdef.resolve_right fun ⟨d,hd⟩=>by cases hd)
       obtain ⟨t',args',hr,ht,ha⟩:=hS
       simp only at h
       cases hc:C lo t args H with
       | none=>simp [hc] at h
       | some q=>
        obtain ⟨en,H1⟩:=q
        obtain ⟨nx,fr0,hi,hfo,hrest⟩:=hC lo t args H en H1 hc hlo r base w t' args' hrel ht ha
        obtain ⟨r1,w1,hpost,hend⟩:=hrest (mkF A.fn tmps (.inRegion ops (i :: rest) :: k) ds kind rd) (K pc)
        have henter:step P (lone (mkF A.fn tmps (.inRegion ops (i :: rest) :: k) ds kind rd) (K pc) w)=.next (lone fr0 (mkF A.fn tmps (.inRegion ops (i :: rest) :: k) ds kind rd :: K pc) w):=by
         rw [hi] at hr
         cases nx<;>simp only [XS] at hfo<;>cases hfo
         ·exact Um ho hwr hd hr
         ·exact UN ho hwr hd hr
        simp only [hc] at h
        cases en with
        | ret v=>
         obtain ⟨v',hv,hsteps⟩:=hend
         simp only at h
         cases hput:A.put o.dst v with
         | none=>simp [hput] at h
         | some A1=>
          simp only [hput] at h
          rw [Xi v' ho] at hsteps
          exact goOn hpost (hF.mono hpost.le) (.refl _) (hp.mono hpost.le) hn hv hput h (Steps.head henter hsteps)
        | pan v=>
         obtain ⟨v',hv,hsteps⟩:=hend
         simp only at h
         cases h
         exact ⟨r1,w1,tmps,ds,pc,hpost,hF.mono hpost.le,.refl _,hp.mono hpost.le,⟨_,v',hv,Steps.head henter hsteps⟩,hn⟩
end
end Go.Ax

namespace Go.Ax
open Go Go.RowKit

def Chg (lo:Nat) (H H':Hp):Kd→Prop
 | .pure | .read _=>H'=H
 | .heavy=>H.next≤H'.next∧∀ c,c < H.next→H'.t.get c=H.t.get c
 | .store b=>H.next≤H'.next∧lo≤b∧∀ c,c < H.next→c≠b→H'.t.get c=H.t.get c
 | .full=>H.next≤H'.next∧∀ c,c < lo→H'.t.get c=H.t.get c
 | .mk b=>b=H.next∧∃ cs e,H'=H.new (.cells cs e false)

theorem Chg.new (lo:Nat) (H:Hp) (o:Ob):Chg lo H (H.new o) .heavy:=⟨Nat.le_succ _,fun c hc=>by simp only [Hp.new,Tr.get_set];rw [if_neg (by omega)]⟩
theorem Chg.set {lo b:Nat} (h:lo≤b) (H:Hp) (o:Ob):Chg lo H { H with t:=H.t.set b o } (.store b):=⟨Nat.le_refl _,h,fun c _ hc=>by simp only [Tr.get_set];rw [if_neg hc]⟩
theorem Chg.setNew {lo b:Nat} (h:lo≤b) (H:Hp) (o o':Ob):Chg lo H ({ H with t:=H.t.set b o }.new o') (.store b):=
 ⟨Nat.le_succ _,h,fun c hc hb=>by simp only [Hp.new,Tr.get_set];rw [if_neg (by omega),if_neg hb]⟩

theorem Qi {lo:Nat} {H:Hp} {e:TypeId} {size:Nat} {s:Value} {n:Nat} {news:List Value} {rs:Rs} {k:Kd} (h:Z6 lo H e size s n news=some (rs,k)):∃ v H',rs=.val v H'∧Chg lo H H' k:=by
 unfold Z6 at h
 split at h
 ·obtain ⟨_,h⟩:=Zc h
  cases hn:Nat.beq n 0<;>rw [hn] at h<;>simp only [cond_true,cond_false] at h<;>cases h
  ·exact ⟨_,_,rfl,Chg.new _ _ _⟩
  ·exact ⟨_,_,rfl,rfl⟩
 ·rename_i a len cap
  obtain ⟨_,h⟩:=Zc h
  cases hn:Nat.beq n 0<;>rw [hn] at h<;>simp only [cond_true,cond_false] at h
  ·split at h<;>first | (cases h;done) | skip
   ·rename_i cs e' _ hget
    cases hc:Nat.ble (len+n) cap<;>rw [hc] at h<;>simp only [cond_true,cond_false] at h
    ·split at h<;>first | (cases h;done) | skip
     cases h
     exact ⟨_,_,rfl,Chg.new _ _ _⟩
    ·obtain ⟨hb,h⟩:=Zc h
     simp only [Bool.and_eq_true] at hb
     cases h
     exact ⟨_,_,rfl,Chg.set (Nat.le_of_ble_eq_true hb.1.1) _ _⟩
   ·rename_i cs e' _ hget
    obtain ⟨hb,h⟩:=Zc h
    simp only [Bool.and_eq_true] at hb
    have hlo:=Nat.le_of_ble_eq_true hb.1.2
    cases hc:Nat.ble (a.off+(len+n) * size) cs.length<;>rw [hc] at h<;>simp only [cond_true,cond_false] at h
    ·obtain ⟨_,h⟩:=Zc h
     cases h
     exact ⟨_,_,rfl,Chg.setNew hlo _ _ _⟩
    ·cases h
     exact ⟨_,_,rfl,Chg.set hlo _ _⟩
   ·obtain ⟨hb,h⟩:=Zc h
    simp only [Bool.and_eq_true] at hb
    cases h
    exact ⟨_,_,rfl,Chg.setNew (Nat.le_of_ble_eq_true hb.1.1.2) _ _ _⟩
  ·cases h
   exact ⟨_,_,rfl,rfl⟩
 ·cases h

theorem JF {lo lo':Nat} {H:Hp} {e:TypeId} {size:Nat} {s:Value} {n:Nat} {news:List Value} {rs:Rs} (h:Z6 lo H e size s n news=some (rs,.heavy)):Z6 lo' H e size s n news=some (rs,.heavy):=by
 unfold Z6 at h ⊢
 split at h
 ·exact h
 ·rename_i a len cap
  obtain ⟨h0,h⟩:=Zc h
  rw [h0]
  simp only [cond_true]
  cases hn:Nat.beq n 0<;>rw [hn] at h<;>simp only [cond_true,cond_false] at h ⊢
  ·split at h<;>first | (cases h;done) | skip
   ·rename_i cs e' _ hget
    cases hc:Nat.ble (len+n) cap<;>rw [hc] at h<;>simp only [cond_true,cond_false] at h ⊢
    ·exact h
    ·obtain ⟨hb,h⟩:=Zc h
     cases h
   ·rename_i cs e' _ hget
    obtain ⟨hb,h⟩:=Zc h
    cases hc:Nat.ble (a.off+(len+n) * size) cs.length<;>rw [hc] at h<;>simp only [cond_true,cond_false] at h
    ·obtain ⟨_,h⟩:=Zc h
     cases h
    ·cases h
   ·obtain ⟨_,h⟩:=Zc h
    cases h
  ·cases h
 ·cases h

section
variable {P:Program} {lo:Nat} {A:Fr} {H:Hp}
theorem zf {b:Builtin} {ts:Array TypeId} {vs:List Value} {rs:Rs} {k:Kd} (h:Ys P lo H b ts vs=some (rs,k)) :
  (∃ v H',rs=.val v H'∧Chg lo H H' k)∨rs=.recov∨∃ v,rs=.pan v:=by
 unfold Ys at h
 split at h
 ·(repeat' split at h)<;>first | (cases h;done) | skip
  ·exact .inl (Qi h)
  ·obtain ⟨_,h⟩:=Zc h
   exact .inl (Qi h)
 ·split at h<;>first | (cases h;done) | skip
  split at h<;>first | (cases h;done) | skip
  ·simp only at h
   split at h<;>first | (cases h;done) | skip
   split at h<;>first | (cases h;done) | skip
   obtain ⟨hb,h⟩:=Zc h
   simp only [Bool.and_eq_true] at hb
   cases h
   have hlo:=Nat.le_of_ble_eq_true hb.1.1
   exact .inl ⟨_,_,rfl,Nat.le_refl _,fun c hc=>by simp only [Tr.get_set];rw [if_neg (by omega)]⟩
  ·cases h;exact .inl ⟨_,_,rfl,rfl⟩
 ·(repeat' split at h)<;>first | (cases h;done) | (cases h;exact .inl ⟨_,_,rfl,rfl⟩)
 ·split at h<;>first | (cases h;done) | skip
  split at h<;>first | (cases h;done) | skip
  split at h<;>first | (cases h;done) | skip
  obtain ⟨hb,h⟩:=Zc h
  simp only [Bool.and_eq_true] at hb
  split at h<;>first | (cases h;done) | skip
  cases h
  exact .inl ⟨_,_,rfl,Chg.set (Nat.le_of_ble_eq_true hb.2) _ _⟩
 ·cases h;exact .inr (.inr ⟨_,rfl⟩)
 ·cases h;exact .inr (.inl rfl)
 ·cases h

theorem yr {t:TypeId} {a:Addr} {v:Value} {H':Hp} (h:Ud P lo H t a v=some H'):Chg lo H H' (.store a.block):=by
 unfold Ud at h
 (repeat' split at h)<;>first | (cases h;done) | skip
 obtain ⟨hb,h⟩:=Zc h
 simp only [Bool.and_eq_true] at hb
 cases h
 exact Chg.set (Nat.le_of_ble_eq_true hb.1.1.1) _ _

theorem YF {t:TypeId} {m k v:Value} {rs:Rs} {kd:Kd} (h:WX P lo H t m k v=some (rs,kd)):∃ H' b,rs=.skip H'∧kd=.store b∧Chg lo H H' (.store b):=by
 unfold WX at h
 split at h<;>first | (cases h;done) | skip
 split at h<;>first | (cases h;done) | skip
 all_goals
  obtain ⟨hb,h⟩:=Zc h
  simp only [Bool.and_eq_true] at hb
  split at h<;>first | (cases h;done) | skip
  cases h
  exact ⟨_,_,rfl,rfl,Chg.set (Nat.le_of_ble_eq_true hb.2) _ _⟩

theorem W8 {t:TypeId} {m k:Value} {rs:Rs} {kd:Kd} (h:UU P lo H t m k=some (rs,kd)):∃ v H' b,rs=.val v H'∧kd=.store b∧Chg lo H H' (.store b):=by
 unfold UU at h
 split at h<;>first | (cases h;done) | skip
 split at h<;>first | (cases h;done) | skip
 obtain ⟨hb,h⟩:=Zc h
 simp only [Bool.and_eq_true] at hb
 split at h<;>first | (cases h;done) | skip
 obtain ⟨_,h⟩:=Zc h
 cases h
 exact ⟨_,_,_,rfl,rfl,Chg.set (Nat.le_of_ble_eq_true hb.2) _ _⟩
theorem Xt {m s v:Value} {rs:Rs} {kd:Kd} (h:XB P lo H m s v=some (rs,kd)):∃ H' b,rs=.skip H'∧kd=.store b∧Chg lo H H' (.store b):=by
 unfold XB at h
 split at h<;>first | (cases h;done) | skip
 split at h<;>first | (cases h;done) | skip
 obtain ⟨hb,h⟩:=Zc h
 simp only [Bool.and_eq_true] at hb
 split at h<;>first | (cases h;done) | skip
 cases h
 exact ⟨_,_,rfl,rfl,Chg.set (Nat.le_of_ble_eq_true hb.2) _ _⟩

theorem W6 {o:Oper} {rs:Rs} {k:Kd} (h:Zu P lo A H o=some (rs,k)) :
  (∃ v H',rs=.val v H'∧Chg lo H H' k)∨(∃ H',rs=.skip H'∧Chg lo H H' k∧∃ b,k=.store b)∨(∃ d,rs=.dfr d)∨rs=.recov∨(∃ t vs,rs=.call t vs)∨∃ v,rs=.pan v:=by
 unfold Zu at h
 cases hop:o.op<;>simp only [hop] at h<;>try (cases h;done)
 case alloc e=>
  (repeat' split at h)<;>first | (cases h;done) | skip
  cases h;exact .inl ⟨_,_,rfl,Chg.new _ _ _⟩
 case box e x=>
  (repeat' split at h)<;>first | (cases h;done) | skip
  cases h;exact .inl ⟨_,_,rfl,Chg.new _ _ _⟩
 case buildSlice t len parts=>
  split at h<;>first | (cases h;done) | skip
  split at h<;>first | (cases h;done) | skip
  obtain ⟨_,h⟩:=Zc h
  split at h<;>first | (cases h;done) | skip
  cases h;exact .inl ⟨_,_,rfl,Chg.new _ _ _⟩
 case load t a=>
  (repeat' split at h)<;>first | (cases h;done) | skip
  cases h;exact .inl ⟨_,_,rfl,rfl⟩
 case store t a x=>
  (repeat' split at h)<;>first | (cases h;done) | skip
  rename_i hs
  cases h;exact .inr (.inl ⟨_,rfl,yr hs,_,rfl⟩)
 case makeSlice t l c=>
  (repeat' split at h)<;>first | (cases h;done) | skip
  obtain ⟨_,h⟩:=Zc h
  cases h;exact .inl ⟨_,_,rfl,Chg.new _ _ _⟩
 case slice t x lw hi mx=>
  (repeat' split at h)<;>first | (cases h;done) | (obtain ⟨_,h⟩:=Zc h;cases h;done) | skip
  all_goals
   obtain ⟨_,h⟩:=Zc h
   cases h
   exact .inl ⟨_,_,rfl,rfl⟩
 case call c=>
  (repeat' split at h)<;>first | (cases h;done) | skip
  ·rcases zf h with q | q | q
   ·exact .inl q
   ·exact .inr (.inr (.inr (.inl q)))
   ·exact .inr (.inr (.inr (.inr (.inr q))))
  ·cases h;exact .inr (.inr (.inr (.inr (.inl ⟨_,_,rfl⟩))))
 case defer c=>
  (repeat' split at h)<;>first | (cases h;done) | skip
  cases h;exact .inr (.inr (.inl ⟨_,rfl⟩))
 case makeMap t r0=>
  cases r0 with
  | some x=>cases h
  | none=>cases h;exact .inl ⟨_,_,rfl,Chg.new _ _ _⟩
 case lookup t x ix ok=>
  split at h<;>first | (cases h;done) | skip
  ·split at h<;>first | (cases h;done) | skip
   all_goals
    obtain ⟨_,h⟩:=Zc h
    split at h<;>first | (cases h;done) | skip
    obtain ⟨_,h⟩:=Zc h
    cases h;exact .inl ⟨_,_,rfl,rfl⟩
  ·obtain ⟨_,h⟩:=Zc h
   split at h<;>first | (cases h;done) | skip
   obtain ⟨_,h⟩:=Zc h
   cases h;exact .inl ⟨_,_,rfl,rfl⟩
 case mapEntry t m k=>
  split at h<;>first | (cases h;done) | skip
  obtain ⟨v,H',b,rfl,rfl,q⟩:=W8 h
  exact .inl ⟨_,_,rfl,q⟩
 case entryStore t m s x=>
  split at h<;>first | (cases h;done) | skip
  obtain ⟨H',b,rfl,rfl,q⟩:=Xt h
  exact .inr (.inl ⟨_,rfl,q,_,rfl⟩)
 case mapUpdate t m k x=>
  split at h<;>first | (cases h;done) | skip
  obtain ⟨H',b,rfl,rfl,q⟩:=YF h
  exact .inr (.inl ⟨_,rfl,q,_,rfl⟩)
 case insert t m k x=>
  split at h<;>first | (cases h;done) | skip
  obtain ⟨H',b,rfl,rfl,q⟩:=YF h
  exact .inr (.inl ⟨_,rfl,q,_,rfl⟩)
 case binOp op t x y yt=>
  cases op<;>simp only at h<;>try (cases h;done)
  (repeat' split at h)<;>first | (cases h;done) | skip
  cases h;exact .inl ⟨_,_,rfl,Nat.le_refl _,fun _ _=>rfl⟩
 case panic x=>
  (repeat' split at h)<;>first | (cases h;done) | skip
  cases h;exact .inr (.inr (.inr (.inr (.inr ⟨_,rfl⟩))))

theorem zz {lo':Nat} {b:Builtin} {ts:Array TypeId} {vs:List Value} {rs:Rs} (h:Ys P lo H b ts vs=some (rs,.heavy)):Ys P lo' H b ts vs=some (rs,.heavy):=by
 unfold Ys at h ⊢
 split at h
 ·split at h<;>first | (cases h;done) | skip
  split at h<;>first | (cases h;done) | skip
  ·split at h<;>first | (cases h;done) | skip
   exact JF h
  ·split at h<;>first | (cases h;done) | skip
   obtain ⟨h0,h⟩:=Zc h
   rw [h0]
   exact JF h
 ·split at h<;>first | (cases h;done) | skip
  split at h<;>first | (cases h;done) | skip
  simp only at h
  split at h<;>first | (cases h;done) | skip
  split at h<;>first | (cases h;done) | skip
  obtain ⟨_,h⟩:=Zc h
  cases h
 ·exact h
 ·split at h<;>first | (cases h;done) | skip
  split at h<;>first | (cases h;done) | skip
  split at h<;>first | (cases h;done) | skip
  obtain ⟨_,h⟩:=Zc h
  split at h<;>cases h
 ·cases h
 ·cases h
 ·cases h

theorem jo {lo':Nat} {o:Oper} {rs:Rs} (h:Zu P lo A H o=some (rs,.heavy)):Zu P lo' A H o=some (rs,.heavy):=by
 unfold Zu at h ⊢
 cases hop:o.op<;>simp only [hop] at h ⊢<;>try (first | exact h | (cases h;done))
 case binOp op t x y yt=>
  cases op<;>first | exact h | (simp only at h ⊢;first | exact h | (cases h;done)) | (cases h;done)
 case store t a x=>
  (repeat' split at h)<;>first | (cases h;done) | skip
 case mapEntry t m k=>
  split at h<;>first | (cases h;done) | skip
  obtain ⟨_,_,_,_,e2,_⟩:=W8 h
  cases e2
 case entryStore t m s x=>
  split at h<;>first | (cases h;done) | skip
  obtain ⟨_,_,_,e2,_⟩:=Xt h
  cases e2
 case mapUpdate t m k x=>
  split at h<;>first | (cases h;done) | skip
  obtain ⟨_,_,e,_⟩:=YF h
  obtain ⟨_,_,_,e2,_⟩:=YF h
  cases e2
 case insert t m k x=>
  split at h<;>first | (cases h;done) | skip
  obtain ⟨_,_,_,e2,_⟩:=YF h
  cases e2
 case call c=>
  split at h
  ·split at h<;>first | (cases h;done) | skip
   exact zz h
  ·exact h
end
end Go.Ax

namespace Go.Ax
open Go Go.RowKit
section
variable {P:Program} {lo:Nat} {A:Fr} {H:Hp}

def Lit (P:Program) (A:Fr) (H:Hp) (o:Oper) (v:Value):Kd→Prop
 | .pure=>∀ (r:Ren) (w:World) (tmps:Array Value),Xk r A.n A.T tmps→∃ v',VR r v v'∧(execOp (evT tmps) o).run P w=.ok (.value v') w
 | .read b=>∃ ob,H.t.get b=some ob∧∀ (r:Ren) (w:World) (tmps:Array Value),Xk r A.n A.T tmps→∃ loc,r b=some loc∧
   (ObR P r loc ob w.heap[loc.blk]?→∃ v',VR r v v'∧(execOp (evT tmps) o).run P w=.ok (.value v') w)
 | _=>True

theorem Xj {c:Call} {b:Builtin} {o:Oper} (hop:o.op=.call c) (hc:c.callee=.builtin b) (tmps:Array Value) (w:World) :
  (execOp (evT tmps) o).run P w=(builtin b c.argTypes o.type (c.args.map fun | .const _=>true | _=>false) (c.args.map (evT tmps))).run P w:=by
 simp only [execOp,hop,resolve,hc,Sem.run_bind,Sem.run_pure,Result.andThen_ok,invoke];rfl

theorem Qu {lo:Nat} {e:TypeId} {size n:Nat} {s:Value} {news:List Value} {v:Value} {H':Hp} (h:Z6 lo H e size s n news=some (.val v H',.pure)):n=0∧v=s∧n≤1048576∧((∃ a len cap,s=.slice (some a) len cap∧len≤1048576)∨∃ c,s=.slice none 0 c):=by
 unfold Z6 at h
 split at h
 ·obtain ⟨hb,h⟩:=Zc h
  simp only [Bool.and_eq_true,ZA,decide_eq_true_eq] at hb
  cases hn:Nat.beq n 0<;>rw [hn] at h<;>simp only [cond_true,cond_false] at h<;>cases h
  rw [ZA] at hn
  have:=of_decide_eq_true hn
  subst this
  have hl:=hb.1.2
  subst hl
  exact ⟨rfl,rfl,by omega,.inr ⟨_,rfl⟩⟩
 ·rename_i a len cap
  obtain ⟨hb,h⟩:=Zc h
  have hb:=Nat.le_of_ble_eq_true hb
  cases hn:Nat.beq n 0<;>rw [hn] at h<;>simp only [cond_true,cond_false] at h
  ·split at h<;>first | (cases h;done) | skip
   ·rename_i cs e' _ hget
    cases hc:Nat.ble (len+n) cap<;>rw [hc] at h<;>simp only [cond_true,cond_false] at h
    ·split at h<;>first | (cases h;done) | skip
    ·obtain ⟨_,h⟩:=Zc h
     cases h
   ·rename_i cs e' _ hget
    obtain ⟨_,h⟩:=Zc h
    cases hc:Nat.ble (a.off+(len+n) * size) cs.length<;>rw [hc] at h<;>simp only [cond_true,cond_false] at h
    ·obtain ⟨_,h⟩:=Zc h
     cases h
    ·cases h
   ·obtain ⟨_,h⟩:=Zc h
    cases h
  ·cases h
   rw [ZA] at hn
   have:=of_decide_eq_true hn
   subst this
   exact ⟨rfl,rfl,by omega,.inl ⟨a,len,cap,rfl,by omega⟩⟩
 ·cases h
theorem VW {lo:Nat} {e:TypeId} {size n:Nat} {s:Value} {news:List Value} {rs:Rs} {b:Nat} (h:Z6 lo H e size s n news=some (rs,.read b)):False:=by
 unfold Z6 at h
 split at h
 ·obtain ⟨_,h⟩:=Zc h
  cases hn:Nat.beq n 0<;>rw [hn] at h<;>simp only [cond_true,cond_false] at h<;>cases h
 ·rename_i a len cap
  obtain ⟨_,h⟩:=Zc h
  cases hn:Nat.beq n 0<;>rw [hn] at h<;>simp only [cond_true,cond_false] at h
  ·split at h<;>first | (cases h;done) | skip
   ·cases hc:Nat.ble (len+n) cap<;>rw [hc] at h<;>simp only [cond_true,cond_false] at h
    ·split at h<;>first | (cases h;done) | skip
    ·obtain ⟨_,h⟩:=Zc h
     cases h
   ·rename_i cs e' _ hget
    obtain ⟨_,h⟩:=Zc h
    cases hc:Nat.ble (a.off+(len+n) * size) cs.length<;>rw [hc] at h<;>simp only [cond_true,cond_false] at h
    ·obtain ⟨_,h⟩:=Zc h
     cases h
    ·cases h
   ·obtain ⟨_,h⟩:=Zc h
    cases h
  ·cases h
 ·cases h

theorem Q4 {r:Ren} {w:World} {sT xT ty e:TypeId} {i:TypeInfo} {z s s' x':Value} {size:Nat} {L:List Value} (hu:P.underlying sT=some (.slice e))
  (hi:P.info? e=some i) (hsz:i.size=size) (hb:i.bytes≤1048576) (hz:Ym P e=some z) (hzs:z.cells.size=size) (ks:VR r s s') (hL:L.length=0) (hx:Src P w xT size z x' 0 L)
  (hs:(∃ a len cap,s=.slice (some a) len cap∧len≤1048576)∨∃ c,s=.slice none 0 c):(Builtin.append_ #[sT,xT] ty #[s',x']).run P w=.ok s' w:=by
 have hzr:=fun w=>(ZO hz w).1
 have hL0:L=[]:=List.eq_nil_of_length_eq_zero hL
 subst hL0
 rcases hs with ⟨a,len,cap,rfl,hl⟩ | ⟨c,rfl⟩
 ·obtain ⟨x0,c',e3,hle⟩:∃ x0 c',s'=.slice (some x0) len c'∧len≤c':=by
   cases ks with
   | slice e l q=>exact ⟨_,_,rfl,q⟩
   | loose e l a b=>exact ⟨_,_,rfl,a⟩
   | weird _=>exact ⟨_,_,rfl,Nat.zero_le _⟩
  rw [e3]
  exact XC hu hi hsz hb hzr hzs rfl (by omega) (by omega) hx (w':=w) rfl
 ·rw [Y1 ks]
  cases ks
  exact XC hu hi hsz hb hzr hzs rfl (by omega) (by omega) hx (w':=w) rfl

theorem qf {x':Value} {size:Nat} (h:∃ a c,x'=.slice a 0 c) (w:World):(Builtin.firstCells size 0 x').run P w=.ok ([]:List Value).toArray w:=by
 obtain ⟨a,c,rfl⟩:=h
 cases a with
 | none=>rfl
 | some a=>simp [Builtin.firstCells,loadCells,loadCellsFrom]

theorem ZdD {o:Oper} {v:Value} {H':Hp} {k:Kd} (h:Zu P lo A H o=some (.val v H',k)):Lit P A H o v k:=by
 have h0:=h
 unfold Zu at h
 cases hop:o.op<;>simp only [hop] at h<;>try (cases h;done)
 case alloc e=>
  split at h<;>first | (cases h;done) | skip
  cases h;trivial
 case box e x=>
  split at h<;>first | (cases h;done) | skip
  cases h;trivial
 case buildSlice t len parts=>
  split at h<;>first | (cases h;done) | skip
  split at h<;>first | (cases h;done) | skip
  obtain ⟨_,h⟩:=Zc h
  split at h<;>first | (cases h;done) | skip
  cases h;trivial
 case makeSlice t l c=>
  split at h<;>first | (cases h;done) | skip
  split at h<;>first | (cases h;done) | skip
  obtain ⟨_,h⟩:=Zc h
  cases h;trivial
 case store t a x=>
  split at h<;>first | (cases h;done) | skip
  split at h<;>first | (cases h;done) | skip
 case binOp op t x y yt=>
  cases op<;>simp only at h<;>try (cases h;done)
  (repeat' split at h)<;>first | (cases h;done) | skip
  cases h;trivial
 case makeMap t r0=>
  cases r0 with
  | some x=>cases h
  | none=>cases h;trivial
 case lookup t x ix ok=>
  split at h<;>first | (cases h;done) | skip
  ·rename_i kt et b kv hu hx hix
   split at h<;>first | (cases h;done) | skip
   ·rename_i es c hget
    obtain ⟨hk,h⟩:=Zc h
    split at h<;>first | (cases h;done) | skip
    rename_i v0 hp
    obtain ⟨hv,h⟩:=Zc h
    cases h
    refine ⟨_,hget,fun r w tmps hT=>?_⟩
    have kx:=evR hT hx
    have kk:=ZF hk (evR hT hix)
    generalize hgx:evT tmps x=x' at kx
    cases kx with
    | mapv e=>
     refine ⟨_,e,fun hOb=>⟨_,Xe hv,?_⟩⟩
     unfold execOp
     simp only [hop,hgx,kk,Sem.run_bind,Wy hu hOb,ZT _ hp w,Result.andThen_ok,Sem.run_pure]
   ·rename_i es c hget
    obtain ⟨hk,h⟩:=Zc h
    split at h<;>first | (cases h;done) | skip
    rename_i v0 got hp
    obtain ⟨hv,h⟩:=Zc h
    cases h
    refine ⟨_,hget,fun r w tmps hT=>?_⟩
    have kx:=evR hT hx
    have kk:=ZF hk (evR hT hix)
    generalize hgx:evT tmps x=x' at kx
    cases kx with
    | mapv e=>
     refine ⟨_,e,fun hOb=>?_⟩
     obtain ⟨es',hOb,hes⟩:=hOb
     obtain ⟨v',hq,hvr⟩:=qw hes hp hv ok
     refine ⟨_,hvr,?_⟩
     unfold execOp
     simp only [hop,hgx,kk,Sem.run_bind,Wy hu hOb,ZT _ hq w,Result.andThen_ok,Sem.run_pure]
  ·rename_i kt et kv hu hx hix
   obtain ⟨hk,h⟩:=Zc h
   split at h<;>first | (cases h;done) | skip
   rename_i v0 hp
   obtain ⟨hv,h⟩:=Zc h
   cases h
   intro r w tmps hT
   have kx:=evR hT hx
   have kk:=ZF hk (evR hT hix)
   generalize hgx:evT tmps x=x' at kx
   cases kx
   refine ⟨_,Xe hv,?_⟩
   unfold execOp
   simp only [hop,hgx,kk,Sem.run_bind,ZT _ hp w,Result.andThen_ok,Sem.run_pure]
 case mapEntry t m k=>
  split at h<;>first | (cases h;done) | skip
  obtain ⟨_,_,_,_,rfl,_⟩:=W8 h
  trivial
 case entryStore t m s x=>
  split at h<;>first | (cases h;done) | skip
  obtain ⟨_,_,e,_⟩:=Xt h
  cases e
 case mapUpdate t m k x=>
  split at h<;>first | (cases h;done) | skip
  obtain ⟨_,_,e,_⟩:=YF h
  cases e
 case insert t m k x=>
  split at h<;>first | (cases h;done) | skip
  obtain ⟨_,_,e,_⟩:=YF h
  cases e
 case load t a=>
  split at h<;>first | (cases h;done) | skip
  rename_i ad ha
  split at h<;>first | (cases h;done) | skip
  rename_i v0 hl
  cases h
  obtain ⟨ob,hget⟩:=QW hl
  refine ⟨_,hget,fun r w tmps hT=>?_⟩
  obtain ⟨loc,e1,e2,e3⟩:=UT (evR hT ha)
  refine ⟨loc,e1,fun hOb=>?_⟩
  obtain ⟨v',q,hrun⟩:=yX (w:=w) hget hl e1 hOb
  refine ⟨v',q,?_⟩
  unfold execOp
  simp only [hop,e3,Instr.loadAt,Instr.sureAddr,Sem.run_bind,Sem.run_pure,Result.andThen_ok,hrun]
 case slice t x lw hi mx=>
  have hex:∀ (tmps:Array Value) (w:World) (v':Value),(Instr.sliceAt t (evT tmps x) (lw.map (evT tmps)) (hi.map (evT tmps)) (mx.map (evT tmps))).run P w=.ok v' w→(execOp (evT tmps) o).run P w=.ok (.value v') w:=fun tmps w v' q=>by
   unfold execOp
   simp only [hop,Sem.run_bind,q,Result.andThen_ok,Sem.run_pure]
  cases k with
  | pure=>
   intro r w tmps hT
   obtain ⟨_,hk⟩:=JI (r:=r) hT hop h0
   rcases hk with ⟨_,v',q,hrun⟩ | ⟨b,ob,hf,_⟩
   ·exact ⟨v',q,hex tmps w v' (hrun w)⟩
   ·cases hf
  | read b=>
   have hsome:∃ ob,H.t.get b=some ob:=by
    revert h
    (repeat' split)<;>intro h<;>first | (cases h;done) | (obtain ⟨_,h⟩:=Zc h;cases h;done) | skip
    all_goals
     obtain ⟨_,h⟩:=Zc h
     cases h
     exact ⟨_,by assumption⟩
   obtain ⟨ob,hget⟩:=hsome
   refine ⟨ob,hget,fun r w tmps hT=>?_⟩
   obtain ⟨_,hk⟩:=JI (r:=r) hT hop h0
   rcases hk with ⟨hf,_⟩ | ⟨b',ob',hb,hget',hk⟩
   ·cases hf
   ·cases hb
    rw [hget] at hget';cases hget'
    have hloc:∃ loc,r b=some loc:=by
     revert h
     (repeat' split)<;>intro h<;>first | (cases h;done) | (obtain ⟨_,h⟩:=Zc h;cases h;done) | skip
     ·skip
      obtain ⟨_,h⟩:=Zc h
      cases h
      obtain ⟨loc,c',e1,_⟩:=Xq (evR hT (x:=x) (by assumption)) (.inl (by assumption))
      exact ⟨loc,e1⟩
     ·skip
      obtain ⟨_,h⟩:=Zc h
      cases h
      obtain ⟨loc,c',e1,_⟩:=Xq (evR hT (x:=x) (by assumption)) (.inl (by assumption))
      exact ⟨loc,e1⟩
     ·skip
      obtain ⟨_,h⟩:=Zc h
      cases h
      obtain ⟨loc,c',e1,_⟩:=Xq (evR hT (x:=x) (by assumption)) (.inl (by assumption))
      exact ⟨loc,e1⟩
     ·skip
      obtain ⟨_,h⟩:=Zc h
      cases h
      obtain ⟨loc,e1,_⟩:=UT (evR hT (x:=x) (by assumption))
      exact ⟨loc,e1⟩
    obtain ⟨loc,hl⟩:=hloc
    refine ⟨loc,hl,fun hOb=>?_⟩
    obtain ⟨v',q,hrun⟩:=hk (fun loc' e=>by rw [hl] at e;cases e;exact ⟨_,hOb⟩)
    exact ⟨v',q,hex tmps w v' (hrun w)⟩
  | _=>trivial
 case call c=>
  cases hc:c.callee with
  | invoke x name=>simp only [hc] at h;split at h<;>cases h
  | value f=>simp only [hc] at h;split at h<;>cases h
  | builtin b=>
   simp only [hc] at h
   cases hvs:evs A c.args.toList with
   | none=>simp [hvs] at h
   | some vs=>
    simp only [hvs] at h
    have hargs:∀ (r:Ren) (tmps:Array Value),Xk r A.n A.T tmps→LR r vs (c.args.map (evT tmps)).toList:=fun r tmps hT=>by
     have:=yL hT hvs
     simpa using this
    unfold Ys at h
    split at h
    ·rename_i s x
     split at h<;>first | (cases h;done) | skip
     rename_i t0 t1 h0' h1'
     split at h<;>first | (cases h;done) | skip
     ·rename_i e size e1 hse hu1
      obtain ⟨hu,hsz0,hcells,i,z,hi,hsz,hby,hz,hzs⟩:=ZU hse
      split at h<;>first | (cases h;done) | skip
      rename_i n news hsrc
      cases k with
      | pure=>
       obtain ⟨hn,hv,_,hs⟩:=Qu h
       subst hn;subst hv
       intro r w tmps hT
       obtain ⟨s',x',hl,ks,kx⟩:=Ko (hargs r tmps hT)
       have hx0:∃ a c,x'=.slice a 0 c:=by
        unfold Xm at hsrc
        split at hsrc
        ·obtain ⟨q,hsrc⟩:=Zc hsrc
         rw [ZA] at q
         have:=of_decide_eq_true q
         subst this
         cases kx;exact ⟨none,0,rfl⟩
        ·split at hsrc<;>first | (cases hsrc;done) | skip
         ·split at hsrc<;>first | (cases hsrc;done) | skip
          cases hsrc
          cases kx<;>exact ⟨_,_,rfl⟩
         ·obtain ⟨q,hsrc⟩:=Zc hsrc
          rw [ZA] at q
          have q:=of_decide_eq_true q
          subst q
          cases kx<;>exact ⟨_,_,rfl⟩
        ·cases hsrc
       refine ⟨s',ks,?_⟩
       have harr:c.args.map (evT tmps) = #[s',x']:=by apply Array.toList_inj.1;rw [hl]
       rw [Xj hop hc,harr]
       have hx:Src P w t1 size z x' 0 []:=by
        refine .inl ⟨e1,hu1,?_,fun w' _=>qf hx0 w'⟩
        obtain ⟨a,c',rfl⟩:=hx0;rfl
       have:=Q4 (w:=w) (ty:=o.type) hu hi hsz hby hz hzs ks (L:=[]) rfl hx hs
       rw [← Vk h0' h1'] at this
       simp only [builtin,Sem.run_bind,this,Result.andThen_ok,Sem.run_pure]
      | read b=>exact (VW h).elim
      | _=>trivial
     ·rename_i e size kk hse hu1
      obtain ⟨hu,hsz0,hcells,i,z,hi,hsz,hby,hz,hzs⟩:=ZU hse
      split at h<;>first | (cases h;done) | skip
      rename_i kx' n z' hzz
      rw [hz] at hzz;cases hzz
      obtain ⟨_,h⟩:=Zc h
      cases k with
      | pure=>
       obtain ⟨hn,hv,_,hs⟩:=Qu h
       subst hn;subst hv
       intro r w tmps hT
       obtain ⟨s',x',hl,ks,kx⟩:=Ko (hargs r tmps hT)
       have ex:x'=.int kx' ((0:Nat):Int):=Xl kx
       refine ⟨s',ks,?_⟩
       have harr:c.args.map (evT tmps) = #[s',x']:=by apply Array.toList_inj.1;rw [hl]
       rw [Xj hop hc,harr]
       have:=Q4 (w:=w) (ty:=o.type) hu hi hsz hby hz hzs ks (L:=ZL z.cells.toList 0) rfl (.inr ⟨kk,kx',hu1,ex,rfl⟩) hs
       rw [← Vk h0' h1'] at this
       simp only [builtin,Sem.run_bind,this,Result.andThen_ok,Sem.run_pure]
      | read b=>exact (VW h).elim
      | _=>trivial
    ·split at h<;>first | (cases h;done) | skip
     rename_i d s _ t0 h0'
     split at h<;>first | (cases h;done) | skip
     ·simp only at h
      split at h<;>first | (cases h;done) | skip
      split at h<;>first | (cases h;done) | skip
      obtain ⟨_,h⟩:=Zc h
      cases h;trivial
     ·rename_i e0 dl dc sa sl sc hse
      cases h
      intro r w tmps hT
      obtain ⟨d',s',hl,kd,ks⟩:=Ko (hargs r tmps hT)
      obtain ⟨hu,hsz0,hcells,i,z,hi,hsz,hby,hz,hzs⟩:=ZU (e:=e0.1) (size:=e0.2) hse
      have hd:=Y1 kd
      cases kd
      have hs':∃ sa' sc',s'=.slice sa' sl sc':=by cases ks<;>exact ⟨_,_,rfl⟩
      obtain ⟨sa',sc',rfl⟩:=hs'
      have hm:Nat.min sl 0=0:=Nat.min_zero _
      refine ⟨.int .i64 0,.int _ _,?_⟩
      have harr:c.args.map (evT tmps) = #[.slice none 0 0,.slice sa' sl sc']:=by apply Array.toList_inj.1;rw [hl]
      rw [Xj hop hc,harr]
      have hlenr:∀ w:World,(Builtin.lenOf (.slice sa' sl sc')).run P w=.ok sl w:=fun _=>rfl
      have hfirst:(Builtin.firstCells i.size 0 (.slice sa' sl sc')).run P w=.ok #[] w:=by
       cases sa'<;>simp [Builtin.firstCells,loadCells,loadCellsFrom]
      simp only [builtin,Builtin.copy_,h0',List.getElem?_toArray,List.getElem?_cons_zero,List.getElem?_cons_succ,Sem.run_bind,run_underlying hu,Result.andThen_ok,hlenr,ZI hi,hm,hfirst,Sem.run_pure,goInt]
      rfl
    ·rename_i a0 n0 c0
     split at h<;>first | (cases h;done) | skip
     rename_i t h0'
     split at h<;>first | (cases h;done) | skip
     ·rename_i e hu
      cases h
      intro r w tmps hT
      obtain ⟨x',hl,kx⟩:=UM (hargs r tmps hT)
      have hx:=Y1 kx
      subst hx
      refine ⟨_,.int _ _,?_⟩
      have harr:c.args.map (evT tmps) = #[.slice none n0 c0]:=by apply Array.toList_inj.1;rw [hl]
      rw [Xj hop hc,harr]
      simp [builtin,Builtin.cap_,h0',run_underlying hu,goInt]
     ·rename_i e ad hu
      split at h<;>first | (cases h;done) | skip
      ·rename_i cs e' hsp hget
       cases h
       refine ⟨_,hget,fun r w tmps hT=>?_⟩
       obtain ⟨x',hl,kx⟩:=UM (hargs r tmps hT)
       obtain ⟨loc,c',e1,e2,e3,e4⟩:=Xq kx (.inl hsp)
       refine ⟨loc,e1,fun hOb=>?_⟩
       obtain ⟨C,hC,hcR,hzz⟩:=hOb
       rcases hzz with ⟨_,hln,hd0,hCs⟩ | ⟨_,_,hf,_⟩
       rotate_left
       ·cases hf
       rcases e4 with ⟨_,hcc,hle⟩ | ⟨_,_,hf,_⟩
       rotate_left
       ·rw [hln] at hf;cases hf
       subst hcc
       subst e3
       refine ⟨.int .i64 c',.int _ _,?_⟩
       have harr:c.args.map (evT tmps) = #[.slice (some ⟨loc.blk,ad.off+loc.delta,none⟩) n0 c']:=by apply Array.toList_inj.1;rw [hl]
       rw [Xj hop hc,harr]
       simp [builtin,Builtin.cap_,h0',run_underlying hu,goInt]
      ·rename_i cs hsp hget
       cases h
       refine ⟨_,hget,fun r w tmps hT=>?_⟩
       obtain ⟨x',hl,kx⟩:=UM (hargs r tmps hT)
       obtain ⟨loc,c',e1,e2,e3,e4⟩:=Xq kx (.inl hsp)
       refine ⟨loc,e1,fun hOb=>?_⟩
       have hln:loc.loose=none:=hOb.1
       rcases e4 with ⟨_,hcc,hle⟩ | ⟨_,_,hf,_⟩
       rotate_left
       ·rw [hln] at hf;cases hf
       subst hcc
       subst e3
       refine ⟨.int .i64 c',.int _ _,?_⟩
       have harr:c.args.map (evT tmps) = #[.slice (some ⟨loc.blk,ad.off+loc.delta,none⟩) n0 c']:=by apply Array.toList_inj.1;rw [hl]
       rw [Xj hop hc,harr]
       simp [builtin,Builtin.cap_,h0',run_underlying hu,goInt]
    ·split at h<;>first | (cases h;done) | skip
     split at h<;>first | (cases h;done) | skip
     split at h<;>first | (cases h;done) | skip
     obtain ⟨_,h⟩:=Zc h
     split at h<;>first | (cases h;done) | skip
     cases h;trivial
    ·cases h
    ·cases h
    ·cases h
 case defer c=>(repeat' split at h)<;>cases h
 case panic x=>(repeat' split at h)<;>cases h
end
end Go.Ax

namespace Go.Ax
open Go Go.RowKit

/-! ### What an operation looks at -/
theorem Je {t:Nat}:∀ {l:List Operand},Operand.tmp t∈l→t∈W9 l
 | [],h=>by cases h
 | x :: l,h=>by
  cases h with
  | head=>simp [W9]
  | tail _ h=>
   have:=Je h
   cases x<;>simp [W9,this]

noncomputable def jI (T:Tr Value):List Nat→Tr Value
 | []=>.nil
 | t :: l=>match T.get t with
  | some v=>(jI T l).set t v
  | none=>jI T l
theorem Vl (T:Tr Value) (t:Nat):∀ l:List Nat,(jI T l).get t=if t∈l then T.get t else none
 | []=>by simp [jI,Tr.get_nil]
 | x :: l=>by
  unfold jI
  cases h:T.get x with
  | none=>
   simp only
   rw [Vl T t l]
   by_cases hx:t=x
   ·subst hx;simp [h]
   ·simp [hx]
  | some v=>
   simp only
   rw [Tr.get_set,Vl T t l]
   by_cases hx:t=x
   ·subst hx;simp [h]
   ·simp [hx]
noncomputable def Fr.cut (A:Fr) (l:List Nat):Fr:={ A with T:=jI A.T l }

section
variable {P:Program} {lo:Nat} {A B:Fr} {H:Hp}
theorem Zc2 {l:List Nat} {x:Operand} (h:∀ t,x=.tmp t→t∈l):ev (A.cut l) x=ev A x:=by
 cases x with
 | tmp t=>simp only [ev,Fr.cut,Vl,if_pos (h t rfl)]
 | _=>rfl
theorem Wn:∀ {xs:List Operand},(∀ x∈xs,ev A x=ev B x)→evs A xs=evs B xs
 | [],_=>rfl
 | x :: xs,h=>by simp only [evs];rw [h x (by simp),Wn fun y hy=>h y (by simp [hy])]
theorem Vr:∀ {xs:List (Nat × Operand)},(∀ x∈xs,ev A x.2=ev B x.2)→YT A xs=YT B xs
 | [],_=>rfl
 | (i,x) :: xs,h=>by simp only [YT];rw [h (i,x) (by simp),Vr fun y hy=>h y (by simp [hy])]
theorem Kt {x:Option Operand} (h:∀ y∈x.toList,ev A y=ev B y):evO A x=evO B x:=by
 cases x with
 | none=>rfl
 | some x=>simp only [evO];rw [h x (by simp)]
theorem Qj {d:Nat} {x:Option Operand} (h:∀ y∈x.toList,ev A y=ev B y):YK A d x=YK B d x:=by
 cases x with
 | none=>rfl
 | some x=>simp only [YK];rw [h x (by simp)]
theorem Uz {c:Call} (h:∀ x∈c.operands,ev A x=ev B x):Yz A c=Yz B c:=by
 have ha:evs A c.args.toList=evs B c.args.toList:=Wn fun x hx=>h x (by simp [Call.operands];exact .inr (by simpa using hx))
 unfold Yz
 rw [ha]
 cases hc:c.callee with
 | builtin b=>rfl
 | invoke r n=>simp only [h r (by simp [Call.operands,hc])]
 | value f=>simp only [h f (by simp [Call.operands,hc])]

theorem XR {o:Oper} (h:∀ x∈o.op.operands,ev A x=ev B x):Zo P A o=Zo P B o:=by
 unfold Zo
 cases hop:o.op<;>simp only [hop,Op.operands] at h ⊢
 case move x=>exact h x (by simp)
 case assign x=>exact h x (by simp)
 case pick c a b=>rw [h c (by simp),h a (by simp),h b (by simp)]
 case build t ps=>rw [Vr (A:=A) (B:=B) fun x hx=>h x.2 (by simp;exact ⟨x.1,by simpa using hx⟩)]
 case nilCheck x=>rw [h x (by simp)]
 case binOp op t x y _=>rw [h x (by simp),h y (by simp)]
 case unOp op t x=>rw [h x (by simp)]
 case convert s d x=>rw [h x (by simp)]
 case makeInterface t x=>rw [h x (by simp)]
 case makeFunc fn a b=>
  rw [Wn (A:=A) (B:=B) (xs:=a.toList) fun x hx=>h x (by simp;exact .inl (by simpa using hx)),Wn (A:=A) (B:=B) (xs:=b.toList) fun x hx=>h x (by simp;exact .inr (by simpa using hx))]
 case fieldAddr s x f=>rw [h x (by simp)]
 case field t x f=>rw [h x (by simp)]
 case indexAddr t x i=>rw [h x (by simp),h i (by simp)]
 case index t x i=>rw [h x (by simp),h i (by simp)]
 case extract x i=>rw [h x (by simp)]
 case typeAssert x _ _ _=>rw [h x (by simp)]
 case slice t x lw hi mx=>
  rw [h x (by simp),Kt (A:=A) (B:=B) (x:=lw) fun y hy=>h y (by cases lw<;>simp_all),Kt (A:=A) (B:=B) (x:=hi) fun y hy=>h y (by cases hi<;>simp_all)]
 case call c=>
  cases hc:c.callee with
  | builtin b=>simp only [hc];rw [Wn (A:=A) (B:=B) (xs:=c.args.toList) fun x hx=>h x (by simp [Call.operands,hc];simpa using hx)]
  | _=>rfl

theorem W3 {o:Oper} (h:∀ x∈o.op.operands,ev A x=ev B x):Zu P lo A H o=Zu P lo B H o:=by
 unfold Zu
 cases hop:o.op<;>simp only [hop,Op.operands] at h ⊢
 case box e x=>rw [h x (by simp)]
 case buildSlice t len ps=>rw [Vr (A:=A) (B:=B) fun x hx=>h x.2 (by simp;exact ⟨x.1,by simpa using hx⟩)]
 case load t a=>rw [h a (by simp)]
 case store t a x=>rw [h a (by simp),h x (by simp)]
 case makeSlice t l c=>rw [h l (by simp),h c (by simp)]
 case lookup t x ix ok=>rw [h x (by simp),h ix (by simp)]
 case mapEntry t m k=>rw [h m (by simp),h k (by simp)]
 case entryStore t m s x=>rw [h m (by simp),h s (by simp),h x (by simp)]
 case mapUpdate t m k x=>rw [h m (by simp),h k (by simp),h x (by simp)]
 case insert t m k x=>rw [h m (by simp),h k (by simp),h x (by simp)]
 case slice t x lw hi mx=>
  have hb1:∀ d,YK A d lw=YK B d lw:=fun d=>Qj fun y hy=>h y (by cases lw<;>simp_all)
  have hb2:∀ d,YK A d hi=YK B d hi:=fun d=>Qj fun y hy=>h y (by cases hi<;>simp_all)
  rw [h x (by simp)]
  simp only [hb1,hb2]
 case call c=>
  cases hc:c.callee with
  | builtin b=>simp only [hc];rw [Wn (A:=A) (B:=B) (xs:=c.args.toList) fun x hx=>h x (by simp [Call.operands,hc];simpa using hx)]
  | _=>simp only [hc];rw [Uz (A:=A) (B:=B) h]
 case defer c=>
  cases hc:c.callee with
  | builtin b=>rfl
  | _=>simp only [hc];rw [Uz (A:=A) (B:=B) h]
 case binOp op t x y yt=>cases op<;>first | rfl | (have hx:=h x (by simp);have hy:=h y (by simp);simp only [hx,hy])
 case panic x=>rw [h x (by simp)]

theorem qM {ops:Array Oper} {o:Oper} {l:List Nat} (hl:∀ t∈Yq ops o,t∈l):∀ x∈o.op.operands,ev (A.cut l) x=ev A x:=fun x hx=>Zc2 fun t ht=>by
 subst ht
 refine hl t ?_
 have:=Je (l:=o.op.operands.toList) (t:=t) (by simpa using hx)
 unfold Yq
 (repeat' split)<;>simp [this]
theorem WB {ops:Array Oper} {o:Oper}:aOp P lo (A.cut (Yq ops o)) H o=aOp P lo A H o:=by
 unfold aOp
 rw [XR (qM fun _ h=>h),W3 (qM fun _ h=>h)]
theorem YP {ops:Array Oper} {o:Oper}:ZE ops (A.cut (Yq ops o)) o=ZE ops A o:=by
 unfold ZE
 cases hg:o.guard with
 | none=>rfl
 | some q=>
  obtain ⟨j,want⟩:=q
  simp only
  cases ho:ops[j]? with
  | none=>rfl
  | some g=>
   simp only
   cases hd:g.dst with
   | none=>rfl
   | some d=>
    simp only
    have:(A.cut (Yq ops o)).T.get d=A.T.get d:=by
     simp only [Fr.cut,Vl]
     rw [if_pos]
     unfold Yq
     simp [hg,ho,hd]
    rw [this]
end
section
variable {P:Program} {lo:Nat} {A:Fr} {H:Hp}
theorem ZdJ {o:Oper} {v:Value} {H':Hp} (he:Zu P lo A H o=some (.val v H',.heavy)) (hm:Qc o=true) :
  (∀ c,o.op≠.defer c)∧∃ cs e,H'=H.new (.cells cs e false)∧∀ (r:Ren) (w:World) (tmps:Array Value),Xk r A.n A.T tmps→
   ∃ v' C,(execOp (evT tmps) o).run P w=.ok (.value v') (w.alloc (.cells C e))∧LR r cs C.toList∧∀ r2:Ren,r2 H.next=some ⟨w.heap.size,0,none⟩→VR r2 v v':=by
 refine ⟨fun c hc=>(by unfold Qc at hm;rw [hc] at hm;cases hm),?_⟩
 have ptrV:∀ (n:Nat) (w:World) (r2:Ren),r2 n=some ⟨w.heap.size,0,none⟩→VR r2 (ptr n) (.pointer (some ⟨w.heap.size,0,none⟩)):=fun n w r2 e=>by
  have:=VR.ptr (r:=r2) (o:=0) e
  simpa [ptr] using this
 have slV:∀ (n:Nat) (w:World) (r2:Ren) (a b:Nat),a≤b→r2 n=some ⟨w.heap.size,0,none⟩→VR r2 (.slice (some ⟨n,0,none⟩) a b) (.slice (some ⟨w.heap.size,0,none⟩) a b):=fun n w r2 a b h e=>by
  have:=VR.slice (r:=r2) (o:=0) e rfl h
  simpa using this
 have val:∀ {s:Sem Value} {u:Value} {w w':World},s.run P w=.ok u w'→(do pure (.value (← s)):Sem Next).run P w=.ok (.value u) w':=fun h1=>by simp only [Sem.run_bind,h1,Result.andThen_ok,Sem.run_pure]
 unfold Zu at he
 unfold Qc at hm
 unfold execOp
 cases hop:o.op<;>simp only [hop] at he hm ⊢<;>try (cases hm;done)
 case alloc e=>
  cases hz:Ym P e with
  | none=>simp [hz] at he
  | some z=>
   simp [hz] at he
   obtain ⟨rfl,rfl⟩:=he
   refine ⟨_,e,rfl,fun r w tmps hT=>⟨_,z.cells,val ?_,Wl (ZO hz w).2,fun r2 h2=>ptrV _ _ _ h2⟩⟩
   simp only [Instr.alloc,Sem.run_bind,(ZO hz w).1,Result.andThen_ok,newVar,Z8,Sem.run_pure]
 case box e x=>
  cases hx:ev A x with
  | none=>simp [hx] at he
  | some v=>
   simp [hx] at he
   obtain ⟨rfl,rfl⟩:=he
   refine ⟨_,e,rfl,fun r w tmps hT=>⟨_,(evT tmps x).cells,val ?_,(evR hT hx).cells,fun r2 h2=>ptrV _ _ _ h2⟩⟩
   simp only [Instr.box,Sem.run_bind,newVar,Z8,Result.andThen_ok,Sem.run_pure]
 case buildSlice t len parts=>
  cases hse:ZZ P t with
  | none=>simp [hse] at he
  | some q=>
   obtain ⟨e,size⟩:=q
   obtain ⟨hu,hsz0,hcells,i,z,hi,hsz,hby,hz,hzs⟩:=ZU hse
   cases hp:YT A parts.toList with
   | none=>simp [hse,hp] at he
   | some ps=>
    simp only [hse,hp,hz] at he
    obtain ⟨hb,he⟩:=Zc he
    have hb:=Nat.le_of_ble_eq_true hb
    cases hf:WF (fun k=>some (k * size,size)) (ZL z.cells.toList len) ps with
    | none=>simp [hf] at he
    | some cs=>
     simp [hf] at he
     obtain ⟨rfl,rfl⟩:=he
     refine ⟨_,e,rfl,fun r w tmps hT=>?_⟩
     obtain ⟨pl1,pl2⟩:=za hT hp
     have hlist:(parts.map fun (x:Nat × Operand)=>(x.1,evT tmps x.2)).toList=parts.toList.map fun p=>(p.1,evT tmps p.2):=by simp
     have hzr:((Array.range (len * size)).map fun i=>z.cells[i % z.cells.size]!)=(ZL z.cells.toList len).toArray:=by
      have:=Xa z.cells len
      rw [hzs] at this ⊢;exact this
     obtain ⟨C',e',k'⟩:=Jc (r:=r) _ ps _ _ (ZL z.cells.toList len).toArray _ (by simpa using WT (Wl (ZO hz w).2) len) pl1 pl2 hf
     refine ⟨_,C',val ?_,k',fun r2 h2=>slV _ _ _ _ _ (Nat.le_refl len) h2⟩
     have hbig:¬ (len * size > 2 ^ 24):=by omega
     unfold Instr.buildSlice
     simp only [Sem.run_bind,run_underlying hu,Result.andThen_ok,ZI hi,hsz,hbig,if_false]
     by_cases hls:len * size=0
     ·have hlen0:len=0:=by
       rcases Nat.mul_eq_zero.1 hls with q | q
       ·exact q
       ·omega
      subst hlen0
      simp only [Nat.zero_mul,if_true,Sem.run_pure,Result.andThen_ok,hlist]
      have e2:Instr.fill (fun k=>some (k * size,size)) ((Array.range 0).map fun i=>(#[]:Array Value)[i % (#[]:Array Value).size]!) (parts.toList.map fun p=>(p.1,evT tmps p.2))=some C':=by
       have:((Array.range 0).map fun i=>(#[]:Array Value)[i % (#[]:Array Value).size]!)=(ZL z.cells.toList 0).toArray:=by simp [ZL]
       rw [this];exact e'
      simp only [e2,Z8,Result.andThen_ok,Sem.run_pure,Sem.run_bind]
     ·simp only [hls,if_false,Sem.run_bind,(ZO hz w).1,Result.andThen_ok,Sem.run_pure,hlist,hzr,e',Z8]
 case makeSlice t l c=>
  cases hse:ZZ P t with
  | none=>simp [hse] at he
  | some q=>
   obtain ⟨e,size⟩:=q
   obtain ⟨hu,hsz0,hcells,i,z,hi,hsz,hby,hz,hzs⟩:=ZU hse
   cases hl:ev A l with
   | none=>simp [hse,hl] at he
   | some lv=>
    cases hcv:ev A c with
    | none=>simp [hse,hl,hcv] at he
    | some cv=>
     rw [hse,hl,hcv] at he
     split at he<;>first | (cases he;done) | skip
     rename_i e' size' kl n km m heq1 heq2 heq3
     cases heq1;cases heq2;cases heq3
     simp only [hz,hi] at he
     obtain ⟨hb,he⟩:=Zc he
     simp only [Bool.and_eq_true] at hb
     obtain ⟨⟨h1,h2⟩,h3⟩:=hb
     have h1:=Nat.le_of_ble_eq_true h1
     have h2:=Nat.le_of_ble_eq_true h2
     have h3:=Nat.le_of_ble_eq_true h3
     simp at he
     obtain ⟨rfl,rfl⟩:=he
     refine ⟨_,e,rfl,fun r w tmps hT=>?_⟩
     have el:evT tmps l=.int kl (n:Int):=Xl (evR hT hl)
     have ec:evT tmps c=.int km (m:Int):=Xl (evR hT hcv)
     have hzr:((Array.range (m * size)).map fun i=>z.cells[i % z.cells.size]!)=(ZL z.cells.toList m).toArray:=by
      have:=Xa z.cells m
      rw [hzs] at this ⊢;exact this
     refine ⟨_,(ZL z.cells.toList m).toArray,val ?_,by simpa using WT (Wl (ZO hz w).2) m,fun r2 h2=>slV _ _ _ _ _ h1 h2⟩
     have hwn:IntKind.i64.wrap (n:Int)=n:=by rw [IntKind.wrap_i64];omega
     have hwm:IntKind.i64.wrap (m:Int)=m:=by rw [IntKind.wrap_i64];omega
     have hbm:¬ ((i.bytes:Int) * (m:Int) > 2 ^ 48):=by
      have:((i.bytes * m:Nat):Int)≤1099511627776:=by omega
      rw [Int.natCast_mul] at this;omega
     have hroom:∀ (k:Nat) (w:World),(askRoom k).run P w=.ok () w:=fun k w=>by
      unfold askRoom;split<;>rfl
     have hcond:((decide ((m:Int) < 0) || decide ((i.bytes:Int) * (m:Int) > 2 ^ 48)) || decide ((n:Int) < 0) || decide ((n:Int) > (m:Int)))=false:=by
      simp only [hbm,decide_false,Bool.or_false,Bool.or_eq_false_iff,decide_eq_false_iff_not]
      omega
     unfold Instr.makeSlice
     simp only [Sem.run_bind,run_underlying hu,Result.andThen_ok,el,ec,asInt,asIntOf,Sem.run_pure,XQ hi,hwn,hwm]
     have hcond':¬ (((decide ((m:Int) < 0) || decide ((i.bytes:Int) * (m:Int) > 2 ^ 48))=true∨(n:Int) < 0)∨(n:Int) > (m:Int)):=by
      simp only [hbm,decide_false,Bool.or_false,decide_eq_true_eq];omega
     rw [if_neg (by simpa using hcond')]
     simp only [Sem.run_bind,hroom,Result.andThen_ok,ZI hi,hsz,Int.toNat_natCast]
     by_cases hm0:m * size=0
     ·have hm00:m=0:=by
       rcases Nat.mul_eq_zero.1 hm0 with q | q
       ·exact q
       ·omega
      subst hm00
      have hn00:n=0:=by omega
      subst hn00
      simp only [Nat.zero_mul,if_true,Sem.run_bind,Sem.run_pure,Result.andThen_ok]
      have e2:((Array.range 0).map fun i=>(#[]:Array Value)[i % (#[]:Array Value).size]!)=(ZL z.cells.toList 0).toArray:=by simp [ZL]
      rw [e2]
      simp only [Z8,Result.andThen_ok,Sem.run_pure,Sem.run_bind]
     ·simp only [hm0,if_false,Sem.run_bind,(ZO hz w).1,Result.andThen_ok,Sem.run_pure,hzr,Z8]
theorem qz {o:Oper} (hm:Qc o=true):Zo P A o=none:=by
 unfold Qc at hm
 unfold Zo
 cases hop:o.op<;>simp only [hop] at hm ⊢<;>cases hm
end
section
variable {P:Program} {lo:Nat} {A:Fr} {H:Hp}
theorem UK {lo:Nat} {e:TypeId} {size n:Nat} {s:Value} {news:List Value} {rs:Rs} {b:Nat} (h:Z6 lo H e size s n news=some (rs,.mk b)):False:=by
 unfold Z6 at h
 split at h
 ·obtain ⟨_,h⟩:=Zc h
  cases hn:Nat.beq n 0<;>rw [hn] at h<;>simp only [cond_true,cond_false] at h<;>cases h
 ·rename_i a len cap
  obtain ⟨_,h⟩:=Zc h
  cases hn:Nat.beq n 0<;>rw [hn] at h<;>simp only [cond_true,cond_false] at h
  ·split at h<;>first | (cases h;done) | skip
   ·cases hc:Nat.ble (len+n) cap<;>rw [hc] at h<;>simp only [cond_true,cond_false] at h
    ·split at h<;>first | (cases h;done) | skip
    ·obtain ⟨_,h⟩:=Zc h
     cases h
   ·rename_i cs e' _ hget
    obtain ⟨_,h⟩:=Zc h
    cases hc:Nat.ble (a.off+(len+n) * size) cs.length<;>rw [hc] at h<;>simp only [cond_true,cond_false] at h
    ·obtain ⟨_,h⟩:=Zc h
     cases h
    ·cases h
   ·obtain ⟨_,h⟩:=Zc h
    cases h
  ·cases h
 ·cases h
theorem JQ {b:Builtin} {ts:Array TypeId} {vs:List Value} {rs:Rs} {x:Nat} (h:Ys P lo H b ts vs=some (rs,.mk x)):False:=by
 unfold Ys at h
 split at h
 ·(repeat' split at h)<;>first | (cases h;done) | skip
  ·exact UK h
  ·obtain ⟨_,h⟩:=Zc h
   exact UK h
 ·split at h<;>first | (cases h;done) | skip
  split at h<;>first | (cases h;done) | skip
  simp only at h
  split at h<;>first | (cases h;done) | skip
  split at h<;>first | (cases h;done) | skip
  obtain ⟨_,h⟩:=Zc h
  cases h
 ·(repeat' split at h)<;>cases h
 ·split at h<;>first | (cases h;done) | skip
  split at h<;>first | (cases h;done) | skip
  split at h<;>first | (cases h;done) | skip
  obtain ⟨_,h⟩:=Zc h
  split at h<;>cases h
 ·cases h
 ·cases h
 ·cases h
theorem Vw {o:Oper} {rs:Rs} {x:Nat} (h:Zu P lo A H o=some (rs,.mk x)):False:=by
 unfold Zu at h
 cases hop:o.op<;>simp only [hop] at h<;>try (cases h;done)
 case call c=>
  (repeat' split at h)<;>first | (cases h;done) | exact JQ h
 case binOp op t x y yt=>
  cases op<;>simp only at h<;>try (cases h;done)
  (repeat' split at h)<;>cases h
 case mapEntry t m k=>
  split at h<;>first | (cases h;done) | skip
  obtain ⟨_,_,_,_,e2,_⟩:=W8 h
  cases e2
 case entryStore t m s x=>
  split at h<;>first | (cases h;done) | skip
  obtain ⟨_,_,_,e2,_⟩:=Xt h
  cases e2
 case mapUpdate t m k x=>
  split at h<;>first | (cases h;done) | skip
  obtain ⟨_,_,_,e,_⟩:=YF h
  cases e
 case insert t m k x=>
  split at h<;>first | (cases h;done) | skip
  obtain ⟨_,_,_,e,_⟩:=YF h
  cases e
 case lookup t x ix ok=>
  split at h<;>first | (cases h;done) | skip
  ·split at h<;>first | (cases h;done) | skip
   all_goals
    obtain ⟨_,h⟩:=Zc h
    split at h<;>first | (cases h;done) | skip
    obtain ⟨_,h⟩:=Zc h
    cases h
  ·obtain ⟨_,h⟩:=Zc h
   split at h<;>first | (cases h;done) | skip
   obtain ⟨_,h⟩:=Zc h
   cases h
 all_goals
  (repeat' split at h)<;>first | (cases h;done) | (obtain ⟨_,h⟩:=Zc h;(repeat' split at h)<;>cases h)
end
end Go.Ax

namespace Go.Ax
open Go Go.RowKit

/-! ### Which operations surely run before which -/
inductive Anc (ops:Array Oper):Nat→Nat→Prop
 | edge {j:Nat} {o:Oper} {e:Edge}:ops[j]? = some o→e∈o.after→Region.binds .any e=true→Anc ops j e.on
 | more {j i:Nat} {o:Oper} {e:Edge}:ops[j]? = some o→e∈o.after→Region.binds .any e=true→Anc ops e.on i→Anc ops j i

theorem U6 (look:Nat→Nat) (i:Nat):∀ (es:List Edge) (s:Nat),(U7 look es s).testBit i=true→s.testBit i=true∨∃ e∈es,Region.binds .any e=true∧(e.on=i∨(look e.on).testBit i=true)
 | [],s,h=>.inl h
 | e :: es,s,h=>by
  unfold U7 at h
  cases hb:Region.binds .any e with
  | false=>
   rw [hb] at h
   simp only [cond_false] at h
   rcases U6 look i es s h with q | ⟨e',q1,q2⟩
   ·exact .inl q
   ·exact .inr ⟨e',by simp [q1],q2⟩
  | true=>
   rw [hb] at h
   simp only [cond_true] at h
   rcases U6 look i es _ h with q | ⟨e',q1,q2⟩
   ·simp only [Nat.testBit_or,Bool.or_eq_true] at q
    rcases q with (q | q) | q
    ·exact .inl q
    ·refine .inr ⟨e,by simp,hb,.inl ?_⟩
     rw [Nat.testBit_two_pow] at q
     simpa using q
    ·exact .inr ⟨e,by simp,hb,.inr q⟩
   ·exact .inr ⟨e',by simp [q1],q2⟩

theorem jr {α:Type} (n:Nat) (k:Nat→α):ZaI n k=k n:=by cases n<;>rfl

def QG (ops:Array Oper) (n:Nat) (acc:List Nat):Prop:=acc.length=n∧∀ j m,j < n→acc[n - 1 - j]? = some m→∀ i,m.testBit i=true→Anc ops j i
theorem qo (ops:Array Oper):∀ (l:List Oper) (j:Nat) (acc:List Nat),(∀ k,l[k]? = ops[j+k]?)→QG ops j acc→QG ops (j+l.length) (X8 l j acc)
 | [],j,acc,_,h=>by simpa [X8] using h
 | o :: l,j,acc,hl,h=>by
  rw [X8,jr]
  have ho:ops[j]? = some o:=by simpa using (hl 0).symm
  have hstep:QG ops (j+1) (U7 (fun i=>bif Nat.ble (i+1) j then acc.getD (j - 1 - i) 0 else 0) o.after.toList 0 :: acc):=by
   refine ⟨by simp [h.1],fun j' m hj' hm i hi=>?_⟩
   by_cases hjj:j'=j
   ·subst hjj
    simp at hm
    subst hm
    rcases U6 _ i _ _ hi with q | ⟨e,q1,q2,q3⟩
    ·simp at q
    ·have he:e∈o.after:=by simpa using q1
     rcases q3 with q3 | q3
     ·rw [← q3];exact .edge ho he q2
     ·cases hb:Nat.ble (e.on+1) j' with
      | false=>rw [hb] at q3;simp at q3
      | true=>
       rw [hb] at q3
       have hlt:=Nat.le_of_ble_eq_true hb
       simp only [cond_true] at q3
       cases hg:acc[j' - 1 - e.on]? with
       | none=>rw [hg] at q3;simp at q3
       | some m'=>
        rw [hg] at q3
        exact .more ho he q2 (h.2 e.on m' (by omega) hg i q3)
   ·have:j+1 - 1 - j'=(j - 1 - j')+1:=by omega
    rw [this,List.getElem?_cons_succ] at hm
    exact h.2 j' m (by omega) hm i hi
  have:=qo ops l (j+1) _ (fun k=>by have:=hl (k+1);simpa [Nat.add_assoc,Nat.add_comm 1 k] using this) hstep
  simpa [Nat.add_assoc,Nat.add_comm 1 l.length] using this
theorem Uw (ops:Array Oper):QG ops ops.size (X8 ops.toList 0 []):=by
 have:=qo ops ops.toList 0 [] (fun k=>by simp) ⟨rfl,fun j m h=>by omega⟩
 simpa using this

theorem Qq {α:Type} {bad:α→α→Bool} {k:α} {m:Nat}:∀ {cs:List α} ,ZS.belowG bad k m cs cs.length=true→∀ i c,i < cs.length→cs[cs.length - 1 - i]? = some c→bad k c=true→m.testBit i=true
 | [],_,i,c,hi,_,_=>by simp at hi
 | x :: cs,h,i,c,hi,hc,hb=>by
  simp only [List.length_cons,ZS.belowG,Nat.add_sub_cancel,Bool.and_eq_true,Bool.or_eq_true,Bool.not_eq_true'] at h hi hc
  by_cases hii:i=cs.length
  ·subst hii
   simp at hc
   subst hc
   rcases h.1 with q | q
   ·rw [hb] at q;cases q
   ·exact q
  ·have:cs.length - i=(cs.length - 1 - i)+1:=by omega
   rw [this,List.getElem?_cons_succ] at hc
   exact Qq h.2 i c (by omega) hc hb
theorem VF {α:Type} {bad:α→α→Bool}:∀ {xs:List α} {ms:List Nat},ZS bad xs ms=true→ms.length=xs.length→∀ i j x y m,i < j→j < xs.length→xs[xs.length - 1 - j]? = some x→xs[xs.length - 1 - i]? = some y→ms[xs.length - 1 - j]? = some m→
  bad x y=true→m.testBit i=true
 | [],_,_,_,i,j,x,y,m,_,hj,_,_,_,_=>by simp at hj
 | a :: xs,[],_,hl,_,_,_,_,_,_,_,_,_,_,_=>by simp at hl
 | a :: xs,b :: ms,h,hl,i,j,x,y,m,hij,hj,hx,hy,hm,hb=>by
  simp only [ZS,Bool.and_eq_true] at h
  simp only [List.length_cons,Nat.add_sub_cancel] at hj hx hy hm hl
  by_cases hjj:j=xs.length
  ·subst hjj
   simp at hx hm
   subst hx;subst hm
   have:xs.length - i=(xs.length - 1 - i)+1:=by omega
   rw [this,List.getElem?_cons_succ] at hy
   exact Qq h.1 i y hij hy hb
  ·have e1:xs.length - j=(xs.length - 1 - j)+1:=by omega
   have e2:xs.length - i=(xs.length - 1 - i)+1:=by omega
   rw [e1,List.getElem?_cons_succ] at hx hm
   rw [e2,List.getElem?_cons_succ] at hy
   exact VF h.2 (by omega) i j x y m hij (by omega) hx hy hm hb
theorem Qe {α:Type} {bad:α→α→Bool} {ops:Array Oper} {f:Nat→α} {xs:List α} (hxs:xs.length=ops.size) (hf:∀ j,j < ops.size→xs[ops.size - 1 - j]? = some (f j)) (h:ZS bad xs (X8 ops.toList 0 [])=true) {i j:Nat} (hij:i < j) (hj:j < ops.size)
  (hb:bad (f j) (f i)=true):Anc ops j i:=by
 have hm:=Uw ops
 have hlt:ops.size - 1 - j < (X8 ops.toList 0 []).length:=by rw [hm.1];omega
 have hget:=List.getElem?_eq_getElem hlt
 have:=VF h (by rw [hm.1,hxs]) i j (f j) (f i) _ hij (by omega) (by rw [hxs];exact hf j hj) (by rw [hxs];exact hf i (by omega)) (by rw [hxs];exact hget) hb
 exact hm.2 j _ hj hget i this

theorem yj {α:Type} {bad:α→α→Bool} {ops:Array Oper} {f:Nat→α} {xs:List α} {n:Nat} (hxs:xs.length=n) (hn:n≤ops.size) (hf:∀ j,j < n→xs[n - 1 - j]? = some (f j)) (h:ZS bad xs ((X8 ops.toList 0 []).drop (ops.size - n))=true) {i j:Nat} (hij:i < j) (hj:j < n)
  (hb:bad (f j) (f i)=true):Anc ops j i:=by
 have hm:=Uw ops
 have hlt:ops.size - 1 - j < (X8 ops.toList 0 []).length:=by rw [hm.1];omega
 have hget:=List.getElem?_eq_getElem hlt
 have hget2:((X8 ops.toList 0 []).drop (ops.size - n))[n - 1 - j]? = some ((X8 ops.toList 0 [])[ops.size - 1 - j]'hlt):=by
  rw [List.getElem?_drop,← hget];congr 1;omega
 have:=VF h (by rw [List.length_drop,hm.1,hxs];omega) i j (f j) (f i) _ hij (by omega) (by rw [hxs];exact hf j hj) (by rw [hxs];exact hf i (by omega)) (by rw [hxs];exact hget2) hb
 exact hm.2 j _ (by omega) hget i this
theorem yC {ops:Array Oper} {n:Nat} (h:z8 (U8 ops.toList) (n+1)=true) {j:Nat} (hnj:n < j) (hj:j < ops.size):Anc ops j n:=by
 have hm:=Uw ops
 have hlt:ops.size - 1 - j < (X8 ops.toList 0 []).length:=by rw [hm.1];omega
 have hget:=List.getElem?_eq_getElem hlt
 refine hm.2 j _ hj hget n ?_
 have hl:(U8 ops.toList)[j]? = some ((X8 ops.toList 0 [])[ops.size - 1 - j]'hlt):=by
  unfold U8
  rw [List.getElem?_reverse (by rw [hm.1];exact hj),← hget,hm.1]
 have:=List.all_eq_true.1 h _ (List.mem_of_getElem? (i:=j - (n+1)) (by rw [List.getElem?_drop,← hl];congr 1;omega))
 simpa using this

theorem U3 (ops:Array Oper):∀ (l:List Oper) (acc:List (Option Nat × List Nat)),Kv ops l acc=(l.map fun o=>(o.dst,Yq ops o)).reverse ++ acc
 | [],acc=>by simp [Kv]
 | o :: l,acc=>by rw [Kv,U3 ops l];simp
theorem KY {α:Type} (l:List α) (j:Nat) (h:j < l.length):l.reverse[l.length - 1 - j]? = l[j]?:=by
 rw [List.getElem?_reverse (by omega)]
 congr 1
 omega

theorem Uk:∀ (l:List Oper) (k:Nat),QL l k=true→∀ i o,l[i]? = some o→∀ e∈o.after,Region.binds .any e=true→e.on < k+i
 | [],_,_,i,o,h,_,_,_=>by simp at h
 | x :: l,k,h,i,o,ho,e,he,hb=>by
  simp only [QL,Bool.and_eq_true] at h
  cases i with
  | zero=>
   simp at ho;subst ho
   have:=List.all_eq_true.1 h.1 e (by simpa using he)
   simp only [hb,Bool.not_true,Bool.false_or] at this
   have:=Nat.le_of_ble_eq_true this
   omega
  | succ i=>
   have:=Uk l (k+1) h.2 i o (by simpa using ho) e he hb
   omega

structure yZ (ops:Array Oper):Prop where
 back:∀ (i:Nat) o,ops[i]? = some o→∀ e∈o.after,Region.binds .any e=true→e.on < i
 apart:∀ (i j:Nat) oi oj,ops[i]? = some oi→ops[j]? = some oj→i < j→hit (oj.dst,Yq ops oj) (oi.dst,Yq ops oi)=true→Anc ops j i
theorem Ub {ops:Array Oper} (h:Qk ops=true):yZ ops:=by
 unfold Qk at h
 simp only [Bool.and_eq_true] at h
 refine ⟨fun i o ho e he hb=>?_,fun i j oi oj hi hj hij hh=>?_⟩
 ·have:=Uk ops.toList 0 h.1 i o (by simpa using ho) e he hb
  omega
 ·have hjs:j < ops.size:=by
   rcases Nat.lt_or_ge j ops.size with q | q
   ·exact q
   ·rw [Array.getElem?_eq_none q] at hj;cases hj
  refine Qe (bad:=hit) (f:=fun j=>match ops[j]? with | some o=>(o.dst,Yq ops o) | none=>(none,[])) (xs:=Kv ops ops.toList []) ?_ ?_ h.2 hij hjs ?_
  ·rw [U3];simp
  ·intro k hk
   rw [U3]
   simp only [List.append_nil]
   have:ops.size=(ops.toList.map fun o=>(o.dst,Yq ops o)).length:=by simp
   rw [this,KY _ _ (by simpa using hk)]
   simp [hk]
  ·simp only [hi,hj];exact hh
end Go.Ax

namespace Go.Ax
open Go Go.RowKit

/-! ### The steps of a drawn region,in the order of the text -/
def Xo (C:CallF):Prop:=∀ lo t args H e H',C lo t args H=some (e,H')→lo≤H.next→H.next≤H'.next∧∀ b,b < lo→H'.t.get b=H.t.get b

theorem X0 {lo:Nat} {t:Target} {H H':Hp} {b:Nat} (h:Wc lo t H H'=some b):lo≤b∧QE H H' b:=by
 unfold Wc at h
 split at h
 ·split at h
  ·rename_i w;cases h;exact w
  ·cases h
 ·cases h
inductive XW (P:Program) (lo:Nat) (C:CallF) (ops:Array Oper) (o:Oper) (A:Fr) (H:Hp):Kd→Value→Hp→Prop
 | passed:ZE ops A o=some false→XW P lo C ops o A H .pure undef H
 | val {v:Value} {H':Hp} {k:Kd}:ZE ops A o=some true→aOp P lo A H o=some (.val v H',k)→zW k H=true→XW P lo C ops o A H k v H'
 | mk {v:Value} {H':Hp}:ZE ops A o=some true→aOp P lo A H o=some (.val v H',.heavy)→Qc o=true→XW P lo C ops o A H (.mk H.next) v H'
 | skip {H':Hp} {k:Kd}:ZE ops A o=some true→aOp P lo A H o=some (.skip H',k)→XW P lo C ops o A H k undef H'
 | full {t:Target} {args:List Value} {k:Kd} {v:Value} {H':Hp}:ZE ops A o=some true→aOp P lo A H o=some (.call t args,k)→C lo t args H=some (.ret v,H')→XW P lo C ops o A H .full v H'
 | quiet {t:Target} {args:List Value} {k:Kd} {v:Value} {H':Hp}:ZE ops A o=some true→aOp P lo A H o=some (.call t args,k)→C H.next t args H=some (.ret v,H')→XW P lo C ops o A H .heavy v H'
 | one {t:Target} {args:List Value} {k:Kd} {v:Value} {H':Hp} {b:Nat}:ZE ops A o=some true→aOp P lo A H o=some (.call t args,k)→C lo t args H=some (.ret v,H')→lo≤b→QE H H' b→XW P lo C ops o A H (.store b) v H'

theorem JU {P:Program} {lo:Nat} {C:CallF} {ops:Array Oper} {o:Oper} {A:Fr} {H:Hp} {k:Kd} {v:Value} {H':Hp} (hw:ZE ops A o=some true) (h:aOp P lo A H o=some (.val v H',k)) (hk:zW k H=true):XW P lo C ops o A H (KE o H k) v H':=by
 cases k with
 | heavy=>
  unfold KE
  cases hm:Qc o with
  | true=>exact .mk hw h hm
  | false=>exact .val hw h hk
 | _=>exact .val hw h hk
def WG (lo:Nat) (H:Hp):Prop:=∀ b cs,b < H.next→H.t.get b=some (.ro cs)→b < lo
theorem yU {lo:Nat} {H:Hp} (h:Km lo H=true):WG lo H:=fun b cs hb hg=>by
 have:=List.all_eq_true.1 h b (List.mem_range.2 hb)
 rw [hg] at this
 simp only [Bool.or_false] at this
 have:=Nat.le_of_ble_eq_true this
 omega
theorem Kq {k c:Kd} (h:Yl k c=true):YJ k c=true:=by
 cases k<;>cases c<;>first | exact h | rfl

structure Qs (P:Program) (lo:Nat) (C:CallF) (ops:Array Oper) (As:Nat→Fr) (Hs:Nat→Hp) (kd:Nat→Kd) (n:Nat):Prop where
 step:∀ j,j < n→∃ o v,ops[j]? = some o∧XW P lo C ops o (As j) (Hs j) (kd j) v (Hs (j+1))∧(As j).put o.dst v=some (As (j+1))

theorem Jq {P:Program} {lo:Nat} {C:CallF} {ops:Array Oper}:∀ (l:List Oper) (i:Nat) (ks:List Kd) (A:Fr) (H:Hp) (ks':List Kd) (A':Fr) (H':Hp),(∀ k,l[k]? = ops[i+k]?)→Z7 P lo C ops l i ks A H=some (ks',A',H')→
  ∃ (As:Nat→Fr) (Hs:Nat→Hp) (kd:Nat→Kd),As i=A∧Hs i=H∧As (i+l.length)=A'∧Hs (i+l.length)=H'∧ks'=((List.range l.length).map fun j=>kd (i+j)).reverse ++ ks∧
   ∀ j,i≤j→j < i+l.length→∃ o v,ops[j]? = some o∧XW P lo C ops o (As j) (Hs j) (kd j) v (Hs (j+1))∧(As j).put o.dst v=some (As (j+1))
 | [],i,ks,A,H,ks',A',H',_,h=>by
  simp only [Z7] at h
  cases h
  exact ⟨fun _=>A,fun _=>H,fun _=>.pure,rfl,rfl,rfl,rfl,by simp,fun j h1 h2=>by simp at h2;omega⟩
 | o :: l,i,ks,A,H,ks',A',H',hl,h=>by
  have ho:ops[i]? = some o:=by simpa using (hl 0).symm
  have key:∀ (k:Kd) (v:Value) (H1:Hp) (A1:Fr),XW P lo C ops o A H k v H1→A.put o.dst v=some A1→Z7 P lo C ops l (i+1) (k :: ks) A1 H1=some (ks',A',H')→
    ∃ (As:Nat→Fr) (Hs:Nat→Hp) (kd:Nat→Kd),As i=A∧Hs i=H∧As (i+(o :: l).length)=A'∧Hs (i+(o :: l).length)=H'∧ks'=((List.range (o :: l).length).map fun j=>kd (i+j)).reverse ++ ks∧
     ∀ j,i≤j→j < i+(o :: l).length→∃ o v,ops[j]? = some o∧XW P lo C ops o (As j) (Hs j) (kd j) v (Hs (j+1))∧(As j).put o.dst v=some (As (j+1)):=by
   intro k v H1 A1 hd hp hr
   obtain ⟨As,Hs,kd,e1,e2,e3,e4,e5,e6⟩:=Jq l (i+1) (k :: ks) A1 H1 ks' A' H' (fun k=>by have:=hl (k+1);simpa [Nat.add_assoc,Nat.add_comm 1 k] using this) hr
   refine ⟨fun j=>if j=i then A else As j,fun j=>if j=i then H else Hs j,fun j=>if j=i then k else kd j,by simp,by simp,?_,?_,?_,?_⟩
   ·have:¬ (i+(o :: l).length=i):=by simp
    simp only [this,if_false]
    rw [← e3];congr 1;simp;omega
   ·have:¬ (i+(o :: l).length=i):=by simp
    simp only [this,if_false]
    rw [← e4];congr 1;simp;omega
   ·rw [e5]
    simp only [List.length_cons,List.range_succ_eq_map,List.map_cons,List.map_map,List.reverse_cons,List.append_assoc,List.singleton_append,Nat.add_zero,if_true]
    congr 2
    apply List.map_congr_left
    intro j _
    simp only [Function.comp]
    rw [if_neg (by omega)]
    congr 1;omega
   ·intro j h1 h2
    by_cases hji:j=i
    ·subst hji
     have:¬ (j+1=j):=by omega
     simp only [if_true,this,if_false,e1,e2]
     exact ⟨o,v,ho,hd,hp⟩
    ·have h3:¬ (j+1=i):=by omega
     simp only [hji,if_false,h3]
     exact e6 j (by omega) (by simp at h2 ⊢;omega)
  simp only [Z7] at h
  cases hw:ZE ops A o with
  | none=>simp [hw] at h
  | some b=>
   cases b with
   | false=>
    simp only [hw] at h
    cases hput:A.put o.dst undef with
    | none=>simp [hput] at h
    | some A1=>simp only [hput] at h;exact key _ _ _ _ (.passed hw) hput h
   | true=>
    simp only [hw] at h
    cases hop:aOp P lo A H o with
    | none=>simp [hop] at h
    | some q=>
     obtain ⟨rs,k⟩:=q
     simp only [hop] at h
     cases rs with
     | val v H1=>
      simp only at h
      obtain ⟨hkd,h⟩:=Zc h
      cases hput:A.put o.dst v with
      | none=>simp [hput] at h
      | some A1=>simp only [hput] at h;exact key _ _ _ _ (JU hw hop hkd) hput h
     | skip H1=>
      simp only at h
      cases hput:A.put o.dst undef with
      | none=>simp [hput] at h
      | some A1=>simp only [hput] at h;exact key _ _ _ _ (.skip hw hop) hput h
     | call t args=>
      simp only at h
      cases hord:Wj ops.toList (U8 ops.toList) i with
      | true=>
       rw [hord] at h
       simp only [cond_true] at h
       split at h<;>first | (cases h;done) | skip
       rename_i v H1 hC
       cases hput:A.put o.dst v with
       | none=>simp [hput] at h
       | some A1=>simp only [hput] at h;exact key _ _ _ _ (.full hw hop hC) hput h
      | false=>
       rw [hord] at h
       simp only [cond_false] at h
       cases hmk:Wx t with
       | true=>
        rw [hmk] at h
        simp only [cond_true] at h
        split at h<;>first | (cases h;done) | skip
        rename_i v H1 hC
        cases hob:Wc lo t H H1 with
        | none=>simp [hob] at h
        | some b=>
         simp only [hob] at h
         cases hput:A.put o.dst v with
         | none=>simp [hput] at h
         | some A1=>simp only [hput] at h;exact key _ _ _ _ (.one hw hop hC (X0 hob).1 (X0 hob).2) hput h
       | false=>
        rw [hmk] at h
        simp only [cond_false] at h
        split at h<;>first | (cases h;done) | skip
        rename_i v H1 hC
        cases hput:A.put o.dst v with
        | none=>simp [hput] at h
        | some A1=>simp only [hput] at h;exact key _ _ _ _ (.quiet hw hop hC) hput h
     | _=>simp at h

theorem zG {P:Program} {lo:Nat} {C:CallF} {ops:Array Oper} {A A':Fr} {H H':Hp} (h:drawn P lo C ops A H=some (A',H')):∃ (As:Nat→Fr) (Hs:Nat→Hp) (kd:Nat→Kd),As 0=A∧Hs 0=H∧As ops.size=A'∧Hs ops.size=H'∧Qs P lo C ops As Hs kd ops.size∧yZ ops∧
  (∀ i j,i < j→j < ops.size→Yl (kd j) (kd i)=true→Anc ops j i)∧(WG lo H∨∀ i j,i < j→j < ops.size→YJ (kd j) (kd i)=true→Anc ops j i):=by
 unfold drawn at h
 split at h<;>first | (cases h;done) | skip
 rename_i ks A1 H1 hr
 obtain ⟨hb,h⟩:=Zc h
 cases h
 simp only [Bool.and_eq_true,Bool.or_eq_true] at hb
 obtain ⟨As,Hs,kd,e1,e2,e3,e4,e5,e6⟩:=Jq ops.toList 0 [] A H ks A' H' (fun k=>by simp) hr
 simp only [Nat.zero_add,Array.length_toList,List.append_nil] at e3 e4 e5 e6
 have hget:∀ j,j < ops.size→ks[ops.size - 1 - j]? = some (kd j):=fun j hj=>by
  rw [e5]
  have:ops.size=((List.range ops.size).map fun j=>kd j).length:=by simp
  conv=>lhs;rw [this]
  have hl:((List.range (List.map (fun j=>kd j) (List.range ops.size)).length).map fun j=>kd j)=(List.range ops.size).map fun j=>kd j:=by simp
  rw [hl,KY _ _ (by simpa using hj)]
  simp [hj]
 have hlen:ks.length=ops.size:=by rw [e5];simp
 suffices hs:(∀ i j,i < j→j < ops.size→YJ (kd j) (kd i)=true→Anc ops j i)∨((∀ i j,i < j→j < ops.size→Yl (kd j) (kd i)=true→Anc ops j i)∧WG lo H) by
  refine ⟨As,Hs,kd,e1,e2,e3,e4,⟨fun j hj=>e6 j (Nat.zero_le _) hj⟩,Ub hb.2,?_⟩
  rcases hs with hs | ⟨hs,hr⟩
  ·exact ⟨fun i j a b c=>hs i j a b (Kq c),.inr hs⟩
  ·exact ⟨hs,.inl hr⟩
 rcases hb.1 with (hcalm | hp) | hp
 ·refine .inl fun i j hij hj hc=>?_
  exfalso
  have c1:=List.all_eq_true.1 hcalm (kd j) (List.mem_of_getElem? (hget j hj))
  have c2:=List.all_eq_true.1 hcalm (kd i) (List.mem_of_getElem? (hget i (by omega)))
  revert hc c1 c2
  cases kd j<;>cases kd i<;>simp [calm,YJ]
 ·exact .inl fun i j hij hj hc=>Qe (f:=kd) hlen hget hp hij hj hc
 ·exact .inr ⟨fun i j hij hj hc=>Qe (f:=kd) hlen hget hp.1 hij hj hc,yU hp.2⟩

theorem Qs.le {P:Program} {lo:Nat} {C:CallF} {ops:Array Oper} {As:Nat→Fr} {Hs:Nat→Hp} {kd:Nat→Kd} {n:Nat} (h:Qs P lo C ops As Hs kd n):n≤ops.size:=by
 rcases Nat.eq_zero_or_pos n with rfl | hp
 ·exact Nat.zero_le _
 ·obtain ⟨o,v,ho,_⟩:=h.step (n - 1) (by omega)
  rcases Nat.lt_or_ge (n - 1) ops.size with q | q
  ·omega
  ·rw [Array.getElem?_eq_none q] at ho;cases ho

def JW (P:Program) (lo:Nat) (C:CallF) (ops:Array Oper) (o:Oper) (A:Fr) (H:Hp) (v:Value) (H':Hp):Prop:=
 ZE ops A o=some true∧((∃ k,aOp P lo A H o=some (.pan v,k)∧H'=H)∨∃ t args k lo',aOp P lo A H o=some (.call t args,k)∧(lo'=lo∨lo'=H.next)∧C lo' t args H=some (.pan v,H'))
def PK2 (k:Kd):Prop:=k=.full∨k=.heavy

theorem Qr {P:Program} {lo:Nat} {C:CallF} {ops:Array Oper}:∀ (l:List Oper) (i:Nat) (ks:List Kd) (A:Fr) (H:Hp) (ks':List Kd) (v:Value) (H':Hp),(∀ k,l[k]? = ops[i+k]?)→Xd P lo C ops l i ks A H=some (ks',v,H')→
  ∃ (d:Nat) (As:Nat→Fr) (Hs:Nat→Hp) (kd:Nat→Kd),d < l.length∧As i=A∧Hs i=H∧PK2 (kd (i+d))∧ks'=((List.range (d+1)).map fun j=>kd (i+j)).reverse ++ ks∧
   (∀ j,i≤j→j < i+d→∃ o v,ops[j]? = some o∧XW P lo C ops o (As j) (Hs j) (kd j) v (Hs (j+1))∧(As j).put o.dst v=some (As (j+1)))∧
   ∃ o,ops[i+d]? = some o∧JW P lo C ops o (As (i+d)) (Hs (i+d)) v H'
 | [],i,ks,A,H,ks',v,H',_,h=>by
  simp only [Xd] at h
  cases h
 | o :: l,i,ks,A,H,ks',pv,H',hl,h=>by
  have ho:ops[i]? = some o:=by simpa using (hl 0).symm
  have key:∀ (k:Kd) (v:Value) (H1:Hp) (A1:Fr),XW P lo C ops o A H k v H1→A.put o.dst v=some A1→Xd P lo C ops l (i+1) (k :: ks) A1 H1=some (ks',pv,H')→
    ∃ (d:Nat) (As:Nat→Fr) (Hs:Nat→Hp) (kd:Nat→Kd),d < (o :: l).length∧As i=A∧Hs i=H∧PK2 (kd (i+d))∧ks'=((List.range (d+1)).map fun j=>kd (i+j)).reverse ++ ks∧
     (∀ j,i≤j→j < i+d→∃ o v,ops[j]? = some o∧XW P lo C ops o (As j) (Hs j) (kd j) v (Hs (j+1))∧(As j).put o.dst v=some (As (j+1)))∧
     ∃ o,ops[i+d]? = some o∧JW P lo C ops o (As (i+d)) (Hs (i+d)) pv H':=by
   intro k v H1 A1 hd hp hr
   obtain ⟨d,As,Hs,kd,e0,e1,e2,e3,e5,e6,e7⟩:=Qr l (i+1) (k :: ks) A1 H1 ks' pv H' (fun k=>by have:=hl (k+1);simpa [Nat.add_assoc,Nat.add_comm 1 k] using this) hr
   have hd1:i+(d+1)=i+1+d:=by omega
   have hne:¬ (i+1+d=i):=by omega
   refine ⟨d+1,fun j=>if j=i then A else As j,fun j=>if j=i then H else Hs j,fun j=>if j=i then k else kd j,by simp;omega,by simp,by simp,?_,?_,?_,?_⟩
   ·simp only [hd1,if_neg hne];exact e3
   ·rw [e5]
    rw [List.range_succ_eq_map (n:=d+1)]
    simp only [List.map_cons,List.map_map,List.reverse_cons,List.append_assoc,List.singleton_append,Nat.add_zero,if_true]
    congr 2
    apply List.map_congr_left
    intro j _
    simp only [Function.comp]
    rw [if_neg (by omega)]
    congr 1;omega
   ·intro j h1 h2
    by_cases hji:j=i
    ·subst hji
     have:¬ (j+1=j):=by omega
     simp only [if_true,this,if_false,e1,e2]
     exact ⟨o,v,ho,hd,hp⟩
    ·have h3:¬ (j+1=i):=by omega
     simp only [hji,if_false,h3]
     exact e6 j (by omega) (by omega)
   ·simp only [hd1,if_neg hne];exact e7
  have stop:∀ (kp:Kd) (v:Value) (H1:Hp),PK2 kp→JW P lo C ops o A H v H1→some (kp :: ks,v,H1)=some (ks',pv,H')→
    ∃ (d:Nat) (As:Nat→Fr) (Hs:Nat→Hp) (kd:Nat→Kd),d < (o :: l).length∧As i=A∧Hs i=H∧PK2 (kd (i+d))∧ks'=((List.range (d+1)).map fun j=>kd (i+j)).reverse ++ ks∧
     (∀ j,i≤j→j < i+d→∃ o v,ops[j]? = some o∧XW P lo C ops o (As j) (Hs j) (kd j) v (Hs (j+1))∧(As j).put o.dst v=some (As (j+1)))∧
     ∃ o,ops[i+d]? = some o∧JW P lo C ops o (As (i+d)) (Hs (i+d)) pv H':=by
   intro kp v H1 hkp hp he
   cases he
   exact ⟨0,fun _=>A,fun _=>H,fun _=>kp,by simp,rfl,rfl,hkp,by simp,fun j h1 h2=>by omega,o,ho,hp⟩
  simp only [Xd] at h
  cases hw:ZE ops A o with
  | none=>simp [hw] at h
  | some b=>
   cases b with
   | false=>
    simp only [hw] at h
    cases hput:A.put o.dst undef with
    | none=>simp [hput] at h
    | some A1=>simp only [hput] at h;exact key _ _ _ _ (.passed hw) hput h
   | true=>
    simp only [hw] at h
    cases hop:aOp P lo A H o with
    | none=>simp [hop] at h
    | some q=>
     obtain ⟨rs,k⟩:=q
     simp only [hop] at h
     cases rs with
     | val v H1=>
      simp only at h
      obtain ⟨hkd,h⟩:=Zc h
      cases hput:A.put o.dst v with
      | none=>simp [hput] at h
      | some A1=>simp only [hput] at h;exact key _ _ _ _ (JU hw hop hkd) hput h
     | skip H1=>
      simp only at h
      cases hput:A.put o.dst undef with
      | none=>simp [hput] at h
      | some A1=>simp only [hput] at h;exact key _ _ _ _ (.skip hw hop) hput h
     | pan v=>exact stop _ _ _ (.inl rfl) ⟨hw,.inl ⟨k,hop,rfl⟩⟩ h
     | call t args=>
      simp only at h
      cases hord:Wj ops.toList (U8 ops.toList) i with
      | true=>
       rw [hord] at h
       simp only [cond_true] at h
       split at h<;>first | (cases h;done) | skip
       ·rename_i v H1 hC
        cases hput:A.put o.dst v with
        | none=>simp [hput] at h
        | some A1=>simp only [hput] at h;exact key _ _ _ _ (.full hw hop hC) hput h
       ·rename_i v H1 hC
        exact stop _ _ _ (.inl rfl) ⟨hw,.inr ⟨t,args,k,lo,hop,.inl rfl,hC⟩⟩ h
      | false=>
       rw [hord] at h
       simp only [cond_false] at h
       cases hmk:Wx t with
       | true=>
        rw [hmk] at h
        simp only [cond_true] at h
        split at h<;>first | (cases h;done) | skip
        rename_i v H1 hC
        cases hob:Wc lo t H H1 with
        | none=>simp [hob] at h
        | some b=>
         simp only [hob] at h
         cases hput:A.put o.dst v with
         | none=>simp [hput] at h
         | some A1=>simp only [hput] at h;exact key _ _ _ _ (.one hw hop hC (X0 hob).1 (X0 hob).2) hput h
       | false=>
        rw [hmk] at h
        simp only [cond_false] at h
        split at h<;>first | (cases h;done) | skip
        ·rename_i v H1 hC
         cases hput:A.put o.dst v with
         | none=>simp [hput] at h
         | some A1=>simp only [hput] at h;exact key _ _ _ _ (.quiet hw hop hC) hput h
        ·rename_i v H1 hC
         exact stop _ _ _ (.inr rfl) ⟨hw,.inr ⟨t,args,k,H.next,hop,.inr rfl,hC⟩⟩ h
     | _=>simp at h

theorem J3 {P:Program} {lo:Nat} {C:CallF} {ops:Array Oper} {A:Fr} {H:Hp} {v:Value} {H':Hp} (h:JG P lo C ops A H=some (v,H')):∃ (n:Nat) (As:Nat→Fr) (Hs:Nat→Hp) (kd:Nat→Kd) (o:Oper),As 0=A∧Hs 0=H∧Qs P lo C ops As Hs kd n∧yZ ops∧
  (∀ i j,i < j→j≤n→YJ (kd j) (kd i)=true→Anc ops j i)∧(∀ j,n < j→j < ops.size→Anc ops j n)∧PK2 (kd n)∧ops[n]? = some o∧JW P lo C ops o (As n) (Hs n) v H':=by
 unfold JG at h
 split at h<;>first | (cases h;done) | skip
 rename_i ks v1 H1 hr
 obtain ⟨hb,h⟩:=Zc h
 cases h
 simp only [Bool.and_eq_true] at hb
 obtain ⟨n,As,Hs,kd,e0,e1,e2,e3,e5,e6,o,ho,hp⟩:=Qr ops.toList 0 [] A H ks v H' (fun k=>by simp) hr
 simp only [Nat.zero_add,Array.length_toList,List.append_nil] at e0 e3 e5 e6 ho hp
 have hlen:ks.length=n+1:=by rw [e5];simp
 rw [hlen] at hb
 refine ⟨n,As,Hs,kd,o,e1,e2,⟨fun j hj=>e6 j (Nat.zero_le _) hj⟩,Ub hb.2,fun i j hij hj hc=>?_,fun j h1 h2=>yC hb.1.2 h1 h2,e3,ho,hp⟩
 have hget:∀ j,j < n+1→ks[n+1 - 1 - j]? = some (kd j):=fun j hj=>by
  rw [e5]
  have hl:((List.range (n+1)).map fun j=>kd j).length=n+1:=by simp
  have:=KY ((List.range (n+1)).map fun j=>kd j) j (by rw [hl];exact hj)
  rw [hl] at this
  rw [this]
  simp [hj]
 exact yj (f:=kd) hlen (by omega) hget hb.1.1 hij (by omega) hc

/-! ### The order that the machine draws -/
theorem VQ {ops:Array Oper} {L:Array Bool} {i:Nat}:i∈Region.ready .any ops L↔(i < ops.size∧L.getD i true=false∧∃ o,ops[i]? = some o∧∀ e∈o.after,Region.binds .any e=true→L.getD e.on false=true):=by
 unfold Region.ready
 simp only [List.mem_filter,List.mem_range,Bool.and_eq_true,Bool.not_eq_true']
 constructor
 ·rintro ⟨h1,h2,h3⟩
  refine ⟨h1,h2,?_⟩
  cases ho:ops[i]? with
  | none=>simp [ho] at h3
  | some o=>
   refine ⟨o,rfl,fun e he hb=>?_⟩
   simp only [ho,Option.map_some,Option.getD_some,Array.all_eq_true'] at h3
   have:=h3 e he
   simpa [hb] using this
 ·rintro ⟨h1,h2,o,ho,h3⟩
  refine ⟨h1,h2,?_⟩
  simp only [ho,Option.map_some,Option.getD_some,Array.all_eq_true']
  intro e he
  cases hb:Region.binds .any e with
  | false=>simp
  | true=>simp [h3 e he hb]
theorem Uc {ops:Array Oper} {L:Array Bool} (hS:yZ ops) (hL:L.size=ops.size) (h:Region.ready .any ops L=[]):∀ i,i < ops.size→L.getD i false=true:=by
 intro i
 induction i using Nat.strongRecOn with
 | _ i ih=>
  intro hi
  cases hb:L.getD i true with
  | true=>
   have:L[i]? = some (L[i]'(by omega)):=Array.getElem?_eq_getElem (by omega)
   simp only [Array.getD_eq_getD_getElem?,this,Option.getD_some] at hb ⊢
   exact hb
  | false=>
   exfalso
   have ho:ops[i]? = some ops[i]:=Array.getElem?_eq_getElem hi
   have:i∈Region.ready .any ops L:=VQ.2 ⟨hi,hb,_,ho,fun e he hbind=>ih e.on (hS.back i _ ho e he hbind) (by have:=hS.back i _ ho e he hbind;omega)⟩
   rw [h] at this
   cases this
end Go.Ax

namespace Go.Ax
open Go Go.RowKit

structure PK (lo:Nat) (r:Ren) (nx:Nat) (w:World) (r':Ren) (w':World):Prop where
 le:Ren.Le r r'
 place:∀ b loc,r' b=some loc→r b=some loc∨(nx≤b∧((w.heap.size≤loc.blk∧loc.blk < w'.heap.size)∨∃ b0 loc0,r b0=some loc0∧loc0.blk=loc.blk∧lo≤b0))
 keep:∀ k,k < w.heap.size→(∀ b loc,r b=some loc→loc.blk=k→b < lo)→w'.heap[k]? = w.heap[k]?
 str:Str w w'
theorem PK.refl (lo:Nat) (r:Ren) (nx:Nat) (w:World):PK lo r nx w r w:=⟨.refl r,fun _ _ e=>.inl e,fun _ _ _=>rfl,.refl w⟩
theorem PK.drew {lo:Nat} {r:Ren} {nx:Nat} {w:World} (n:Nat):PK lo r nx w r { w with drawn:=n }:=⟨.refl r,fun _ _ e=>.inl e,fun _ _ _=>rfl,⟨rfl,rfl,rfl,Nat.le_refl _⟩⟩
theorem PK.up {lo:Nat} {r:Ren} {nx:Nat} {w w':World} {n:Nat} (hn:w'.heap.size≤n) {b:Nat} {loc:Loc} (h:r b=some loc∨(nx≤b∧((w.heap.size≤loc.blk∧loc.blk < w'.heap.size)∨∃ b0 loc0,r b0=some loc0∧loc0.blk=loc.blk∧lo≤b0))) :
  r b=some loc∨(nx≤b∧((w.heap.size≤loc.blk∧loc.blk < n)∨∃ b0 loc0,r b0=some loc0∧loc0.blk=loc.blk∧lo≤b0)):=by
 rcases h with q | ⟨q1,q2 | q2⟩
 ·exact .inl q
 ·exact .inr ⟨q1,.inl ⟨q2.1,by omega⟩⟩
 ·exact .inr ⟨q1,.inr q2⟩
theorem PK.step {P:Program} {lo lo' base nx:Nat} {r r' rr r3 r2:Ren} {w w' w2:World} {Hx Hy:Hp} (h:PK lo r nx w r' w') (hp:Zr P lo' base rr Hx w' r3 Hy w2) (hlo:lo≤lo') (hnx:nx≤Hx.next) (hr:∀ b loc,rr b=some loc→r' b=some loc)
  (hle:Ren.Le r' r2) (h2:∀ b loc,r2 b=some loc→r' b=some loc∨r3 b=some loc):PK lo r nx w r2 w2:=by
 have hplace:∀ b loc,r' b=some loc→∀ k,loc.blk=k→k < w.heap.size→(∀ b loc,r b=some loc→loc.blk=k→b < lo)→b < lo:=fun b loc e k hk hks hpre=>by
  rcases h.place b loc e with g | ⟨g1,g2 | ⟨b0,l0,f1,f2,f3⟩⟩
  ·exact hpre b loc g hk
  ·omega
  ·have:=hpre b0 l0 f1 (f2.trans hk);omega
 refine ⟨h.le.trans hle,fun b loc e=>?_,fun k hk hpre=>?_,h.str.trans hp.str⟩
 ·rcases h2 b loc e with e1 | e1
  ·exact PK.up hp.str.size (h.place b loc e1)
  ·rcases hp.place b loc e1 with g | ⟨g1,g2⟩
   ·exact PK.up hp.str.size (h.place b loc (hr b loc g))
   ·refine .inr ⟨by omega,?_⟩
    rcases g2 with g2 | ⟨b0,loc0,f1,f2,f3⟩
    ·exact .inl ⟨Nat.le_trans h.str.size g2.1,g2.2⟩
    ·rcases PK.up hp.str.size (h.place b0 loc0 (hr b0 loc0 f1)) with q | ⟨q1,q2⟩
     ·exact .inr ⟨b0,loc0,q,f2,by omega⟩
     ·rw [← f2];exact q2
 ·rw [hp.keep k (Nat.lt_of_lt_of_le hk h.str.size) (fun b loc e q=>by have:=hplace b loc (hr b loc e) k q hk hpre;omega)]
  exact h.keep k hk hpre

section
variable {P:Program} {lo:Nat} {C:CallF} {ops:Array Oper} {n:Nat} {As:Nat→Fr} {Hs:Nat→Hp} {kd:Nat→Kd}

theorem KP {A A':Fr} {dst:Option Tmp} {v:Value} (h:A.put dst v=some A') (t:Nat):A'.T.get t=if dst=some t then some v else A.T.get t:=by
 unfold Fr.put at h
 cases dst with
 | none=>cases h;simp
 | some d=>
  simp only at h
  obtain ⟨_,h⟩:=Zc h
  cases h
  simp only [Tr.get_set]
  by_cases hd:t=d
  ·subst hd;simp
  ·rw [if_neg hd,if_neg (by simpa using fun e=>hd e.symm)]
theorem ya {A A':Fr} {dst:Option Tmp} {v:Value} (h:A.put dst v=some A'):A'.fn=A.fn∧A'.n=A.n∧A'.defers=A.defers∧A'.round=A.round∧∀ d,dst=some d→d < A.n:=by
 unfold Fr.put at h
 cases dst with
 | none=>cases h;exact ⟨rfl,rfl,rfl,rfl,fun _ e=>by cases e⟩
 | some d=>
  simp only at h
  obtain ⟨hb,h⟩:=Zc h
  have hlt:d < A.n:=Nat.le_of_ble_eq_true hb
  cases h
  exact ⟨rfl,rfl,rfl,rfl,fun x e=>by cases e;exact hlt⟩

theorem XW.chg (hA:Xo C) {o:Oper} {A:Fr} {H H':Hp} {k:Kd} {v:Value} (h:XW P lo C ops o A H k v H') (hlo:lo≤H.next):Chg lo H H' k:=by
 cases h with
 | passed _=>rfl
 | val _ he _=>
  unfold aOp at he
  cases hp:Zo P A o with
  | some u=>rw [hp] at he;cases he;rfl
  | none=>
   rw [hp] at he
   rcases W6 he with ⟨v',H'',e,q⟩ | ⟨H'',e,_⟩ | ⟨d,e⟩ | e | ⟨t,vs,e⟩ | ⟨u,e⟩<;>cases e
   exact q
 | mk _ he hm=>
  unfold aOp at he
  rw [qz hm] at he
  obtain ⟨_,cs,e,q,_⟩:=ZdJ he hm
  exact ⟨rfl,cs,e,q⟩
 | skip _ he=>
  unfold aOp at he
  cases hp:Zo P A o with
  | some u=>rw [hp] at he;cases he
  | none=>
   rw [hp] at he
   rcases W6 he with ⟨v',H'',e,q⟩ | ⟨H'',e,q,_⟩ | ⟨d,e⟩ | e | ⟨t,vs,e⟩ | ⟨u,e⟩<;>cases e
   exact q
 | full _ _ hc=>exact hA _ _ _ _ _ _ hc hlo
 | quiet _ _ hc=>exact hA _ _ _ _ _ _ hc (Nat.le_refl _)
 | one _ _ hc hb ho=>exact ⟨(hA _ _ _ _ _ _ hc hlo).1,hb,fun c h1 h2=>ho c h1 h2⟩

theorem Chg.next {H H':Hp} {k:Kd} (h:Chg lo H H' k):H.next≤H'.next:=by
 cases k with
 | pure=>rw [show H'=H from h];exact Nat.le_refl _
 | read b=>rw [show H'=H from h];exact Nat.le_refl _
 | heavy=>exact h.1
 | store b=>exact h.1
 | full=>exact h.1
 | mk b=>obtain ⟨_,cs,e,q⟩:=h;subst q;exact Nat.le_succ _
theorem Chg.calm {H H':Hp} {k:Kd} (h:Chg lo H H' k) (hc:calm k=true):∀ c,c < H.next→H'.t.get c=H.t.get c:=by
 cases k with
 | pure=>rw [show H'=H from h];exact fun _ _=>rfl
 | read b=>rw [show H'=H from h];exact fun _ _=>rfl
 | heavy=>exact h.2
 | store b=>cases hc
 | full=>cases hc
 | mk b=>obtain ⟨_,cs,e,q⟩:=h;subst q;exact (Chg.new lo H _).2
theorem Chg.low {H H':Hp} {k:Kd} (h:Chg lo H H' k) (hlo:lo≤H.next):∀ c,c < lo→H'.t.get c=H.t.get c:=fun c hc=>by
 cases k with
 | pure=>rw [show H'=H from h]
 | read b=>rw [show H'=H from h]
 | heavy=>exact h.2 c (by omega)
 | store b=>exact h.2.2 c (by omega) (by have:=h.2.1;omega)
 | full=>exact h.2 c hc
 | mk b=>obtain ⟨_,cs,e,q⟩:=h;subst q;exact (Chg.new lo H _).2 c (by omega)

variable (hA:Xo C) (hT:Qs P lo C ops As Hs kd n) (hlo:lo≤(Hs 0).next)
include hA hT hlo
theorem X1:∀ j,j≤n→lo≤(Hs j).next∧(Hs 0).next≤(Hs j).next:=by
 intro j
 induction j with
 | zero=>intro _;exact ⟨hlo,Nat.le_refl _⟩
 | succ j ih=>
  intro hj
  obtain ⟨h1,h2⟩:=ih (by omega)
  obtain ⟨o,v,_,hd,_⟩:=hT.step j (by omega)
  have:=(hd.chg hA h1).next
  omega
theorem U9 {j:Nat} (hj:j < n):Chg lo (Hs j) (Hs (j+1)) (kd j):=by
 obtain ⟨o,v,_,hd,_⟩:=hT.step j hj
 exact hd.chg hA (X1 hA hT hlo j (by omega)).1
theorem Z5 {i j:Nat} (hij:i≤j) (hj:j≤n):(Hs i).next≤(Hs j).next:=by
 induction hij with
 | refl=>exact Nat.le_refl _
 | step h ih=>
  rename_i m
  have q1:=(U9 hA hT hlo (j:=m) (by omega)).next
  have q2:=ih (by omega)
  exact Nat.le_trans q2 q1
theorem ZaA {i p b:Nat} (hip:i≤p) (hp:p≤n) (hb:b < (Hs i).next) (hc:∀ j,i≤j→j < p→calm (kd j)=true∨∃ c,kd j=.store c∧c≠b):(Hs p).t.get b=(Hs i).t.get b:=by
 induction hip with
 | refl=>rfl
 | step h ih=>
  rename_i m
  have h1:=ih (by omega) (fun j a b=>hc j a (by omega))
  have hlt:b < (Hs m).next:=by have:=Z5 hA hT hlo h (by omega:m≤n);omega
  have hch:=U9 hA hT hlo (j:=m) (by omega)
  rcases hc m h (by omega) with q | ⟨c,q,hne⟩
  ·exact (hch.calm q b hlt).trans h1
  ·rw [q] at hch
   exact (hch.2.2 b hlt (fun e=>hne e.symm)).trans h1
theorem Ju {j:Nat} (hj:j≤n):∀ c,c < lo→(Hs j).t.get c=(Hs 0).t.get c:=by
 induction j with
 | zero=>exact fun _ _=>rfl
 | succ j ih=>
  intro c hc
  have h1:=ih (by omega) c hc
  have h2:=(U9 hA hT hlo (j:=j) (by omega)).low (X1 hA hT hlo j (by omega)).1 c hc
  exact h2.trans h1
omit hA hlo
theorem Jt:∀ j,j≤n→(As j).fn=(As 0).fn∧(As j).n=(As 0).n∧(As j).defers=(As 0).defers∧(As j).round=(As 0).round:=by
 intro j
 induction j with
 | zero=>intro _;exact ⟨rfl,rfl,rfl,rfl⟩
 | succ j ih=>
  intro hj
  obtain ⟨h1,h2,h3,h4⟩:=ih (by omega)
  obtain ⟨o,v,_,_,hp⟩:=hT.step j (by omega)
  obtain ⟨g1,g2,g3,g4,_⟩:=ya hp
  exact ⟨g1.trans h1,g2.trans h2,g3.trans h3,g4.trans h4⟩
end

def Ren.below (r:Ren) (n:Nat):Ren:=fun b=>if b < n then r b else none
theorem ZW {r:Ren} {n b:Nat} {loc:Loc} (h:r.below n b=some loc):b < n∧r b=some loc:=by
 unfold Ren.below at h
 split at h
 ·exact ⟨by assumption,h⟩
 ·cases h
theorem Vs {r:Ren} {n b:Nat} {loc:Loc} (hb:b < n) (h:r b=some loc):r.below n b=some loc:=by
 unfold Ren.below;rw [if_pos hb];exact h
theorem j9 (r:Ren) (n:Nat):Ren.Le (r.below n) r:=fun _ _ e=>(ZW e).2
theorem Y9 {r r2:Ren} (h:Ren.Le r r2) {n n2:Nat} (hn:n≤n2):Ren.Le (r.below n) (r2.below n2):=fun b loc e=>by
 obtain ⟨a,q⟩:=ZW e
 exact Vs (by omega) (h b loc q)
theorem V9 {r:Ren} {n:Nat} (h:∀ b loc,r b=some loc→b < n):r.below n=r:=by
 funext b
 unfold Ren.below
 split
 ·rfl
 ·rename_i hb
  cases e:r b with
  | none=>rfl
  | some loc=>exact absurd (h b loc e) hb

/-! ### The state of a drawn region,some of whose operations have run -/
def XU (ops:Array Oper) (i:Nat):Option Tmp:=(ops[i]?).bind (·.dst)
def ZY (L:Array Bool) (i:Nat):Prop:=L.getD i false=true

def Wr (k:Kd) (b:Nat):Prop:=k=.store b∨k=.full
def Wv (kd:Nat→Kd) (n:Nat) (L:Array Bool) (b q:Nat):Prop:=∀ j,j < n→Wr (kd j) b→(ZY L j↔j < q)
def yg (lo:Nat) (H:Hp) (b:Nat):Prop:=b < lo∧∃ cs,H.t.get b=some (.ro cs)
structure Zeh (P:Program) (base n:Nat) (kd:Nat→Kd) (L:Array Bool) (r':Ren) (Hq:Hp) (q:Nat) (w':World):Prop where
 dom:∀ b loc,r' b=some loc→b < Hq.next→Wv kd n L b q→Dm base w'.heap.size loc (Hq.t.get b)
 cont:∀ b loc ob,r' b=some loc→b < Hq.next→Wv kd n L b q→Hq.t.get b=some ob→ObR P (r'.below Hq.next) loc ob w'.heap[loc.blk]?
 inj:∀ b1 b2 l1 l2,r' b1=some l1→r' b2=some l2→b1 < Hq.next→b2 < Hq.next→Wv kd n L b1 q→Wv kd n L b2 q→l1.blk=l2.blk→Wg Hq b1→Wg Hq b2→b1=b2

structure Inv (P:Program) (lo base:Nat) (ops:Array Oper) (n:Nat) (As:Nat→Fr) (Hs:Nat→Hp) (kd:Nat→Kd) (r:Ren) (w:World) (L:Array Bool) (s:Nat) (r':Ren) (w':World) (tm:Array Value):Prop where
 size:L.size=ops.size
 closed:∀ (i:Nat) o,ops[i]? = some o→ZY L i→∀ e∈o.after,Region.binds .any e=true→ZY L e.on
 sle:s≤n
 sdone:∀ i,i < s→(kd i=.heavy∨calm (kd i)=false)→ZY L i
 rels:∀ q,s≤q→q≤n→Zeh P base n kd L r' (Hs q) q w'
 own:∀ b loc,r' b=some loc→b < (Hs 0).next∨∃ i,i < n∧ZY L i∧(Hs i).next≤b∧b < (Hs (i+1)).next
 low:WG lo (Hs 0)→∀ b loc,r' b=some loc→loc.blk < w'.heap.size∨yg lo (Hs 0) b
 sep:WG lo (Hs 0)→∀ j,s≤j→j < n→ZY L j→∀ b loc,kd j=.mk b→r' b=some loc→∀ b0 loc0,r' b0=some loc0→loc0.blk=loc.blk→b0=b∨yg lo (Hs 0) b0
 top:base≤w'.heap.size
 tsize:tm.size=(As 0).n
 tm:∀ t m,m≤n→(∀ i,i < m→XU ops i=some t→ZY L i)→(∀ i,m≤i→i < n→XU ops i=some t→¬ ZY L i)→∀ v,(As m).T.get t=some v→∃ v',tm[t]? = some v'∧VR (r'.below (Hs (max m s)).next) v v'
 pk:PK lo r (Hs 0).next w r' w'

theorem Inv.anc {P:Program} {lo base:Nat} {ops:Array Oper} {n:Nat} {As:Nat→Fr} {Hs:Nat→Hp} {kd:Nat→Kd} {r:Ren} {w:World} {L:Array Bool} {s:Nat} {r':Ren} {w':World} {tm:Array Value} (h:Inv P lo base ops n As Hs kd r w L s r' w' tm) {j i:Nat}
  (ha:Anc ops j i):ZY L j→ZY L i:=by
 induction ha with
 | edge ho he hb=>exact fun hj=>h.closed _ _ ho hj _ he hb
 | more ho he hb _ ih=>exact fun hj=>ih (h.closed _ _ ho hj _ he hb)
theorem Inv.ready {P:Program} {lo base:Nat} {ops:Array Oper} {n:Nat} {As:Nat→Fr} {Hs:Nat→Hp} {kd:Nat→Kd} {r:Ren} {w:World} {L:Array Bool} {s:Nat} {r':Ren} {w':World} {tm:Array Value} (h:Inv P lo base ops n As Hs kd r w L s r' w' tm) {i j:Nat} {o:Oper}
  (ho:ops[i]? = some o) (hr:∀ e∈o.after,Region.binds .any e=true→ZY L e.on) (ha:Anc ops i j):ZY L j:=by
 cases ha with
 | edge ho' he hb=>rw [ho] at ho';cases ho';exact hr _ he hb
 | more ho' he hb ha=>rw [ho] at ho';cases ho';exact h.anc ha (hr _ he hb)

theorem Yg {L:Array Bool} {i j:Nat} (hi:i < L.size):ZY (L.setIfInBounds i true) j↔(j=i∨ZY L j):=by
 unfold ZY
 simp only [Array.getD_eq_getD_getElem?,Array.getElem?_setIfInBounds]
 by_cases h:i=j
 ·subst h;simp [hi]
 ·rw [if_neg h]
  constructor
  ·exact .inr
  ·rintro (e | e)
   ·exact absurd e.symm h
   ·exact e

theorem Inv.next {P:Program} {lo base:Nat} {C:CallF} {ops:Array Oper} {n:Nat} {As:Nat→Fr} {Hs:Nat→Hp} {kd:Nat→Kd} {r:Ren} {w:World} {L:Array Bool} {s:Nat} {r':Ren} {w':World} {tm:Array Value} (hA:Xo C) (hlo:lo≤(Hs 0).next) (hS:yZ ops) (hT:Qs P lo C ops As Hs kd n)
  (h:Inv P lo base ops n As Hs kd r w L s r' w' tm) {i:Nat} {o:Oper} {v v':Value} (hi:i < n) (ho:ops[i]? = some o) (hun:¬ ZY L i) (hr:∀ e∈o.after,Region.binds .any e=true→ZY L e.on) (hput:(As i).put o.dst v=some (As (i+1)))
  {s2:Nat} {r2:Ren} {w2:World} (hss:s≤s2) (hs2:s2≤n) (hsd:∀ j,j < s2→(kd j=.heavy∨calm (kd j)=false)→j=i∨ZY L j) (hrel:∀ q,s2≤q→q≤n→Zeh P base n kd (L.setIfInBounds i true) r2 (Hs q) q w2) (hle:Ren.Le r' r2)
  (hown:∀ b loc,r2 b=some loc→r' b=some loc∨((Hs i).next≤b∧b < (Hs (i+1)).next)) (hlow:WG lo (Hs 0)→∀ b loc,r2 b=some loc→loc.blk < w2.heap.size∨yg lo (Hs 0) b)
  (hsep:WG lo (Hs 0)→∀ j,s2≤j→j < n→(j=i∨ZY L j)→∀ b loc,kd j=.mk b→r2 b=some loc→∀ b0 loc0,r2 b0=some loc0→loc0.blk=loc.blk→b0=b∨yg lo (Hs 0) b0) (htop:base≤w2.heap.size)
  (hv:VR (r2.below (Hs (max (i+1) s2)).next) v v') (hpk:PK lo r (Hs 0).next w r2 w2) :
  Inv P lo base ops n As Hs kd r w (L.setIfInBounds i true) s2 r2 w2 (Wo tm o.dst v'):=by
 have hnle:=hT.le
 have hLi:i < L.size:=by rw [h.size];omega
 have hds:XU ops i=o.dst:=by simp [XU,ho]
 refine ⟨by simpa using h.size,?_,hs2,fun j hj hk=>(Yg hLi).2 (hsd j hj hk),hrel,?_,hlow,fun hr j h1 h2 h3=>hsep hr j h1 h2 ((Yg hLi).1 h3),htop,?_,?_,hpk⟩
 ·intro j o' ho' hj e he hb
  rw [Yg hLi] at hj ⊢
  rcases hj with rfl | hj
  ·rw [ho] at ho';cases ho';exact .inr (hr e he hb)
  ·exact .inr (h.closed j o' ho' hj e he hb)
 ·intro b loc e
  rcases hown b loc e with q | q
  ·rcases h.own b loc q with q | ⟨j,a,b',c⟩
   ·exact .inl q
   ·exact .inr ⟨j,a,(Yg hLi).2 (.inr b'),c⟩
  ·exact .inr ⟨i,hi,(Yg hLi).2 (.inl rfl),q⟩
 ·unfold Wo
  cases o.dst<;>simp [h.tsize]
 ·intro t m hm h1 h2 u hu
  by_cases hdt:o.dst=some t
  ·-- the operation's own temporary
   have him:i < m:=by
    rcases Nat.lt_or_ge i m with q | q
    ·exact q
    ·exact absurd ((Yg hLi).2 (.inl rfl)) (h2 i q hi (by rw [hds];exact hdt))
   have hno:∀ j,i < j→j < m→XU ops j≠some t:=fun j hij hjm hd=>by
    have hdj:=h1 j hjm hd
    rw [Yg hLi] at hdj
    rcases hdj with rfl | hdj
    ·omega
    ·have hoj:ops[j]? = some ops[j]:=Array.getElem?_eq_getElem (by omega)
     have hdj':ops[j].dst=some t:=by simpa [XU,hoj] using hd
     have ha:=hS.apart i j o ops[j] ho hoj hij (by
      unfold hit Zcn
      rw [hdj',hdt];simp [Nat.beq_refl])
     exact hun (h.anc ha hdj)
   have hgo:∀ m,i < m→m≤n→(∀ j,i < j→j < m→XU ops j≠some t)→(As m).T.get t=some v:=by
    intro m
    induction m with
    | zero=>intro a _ _;omega
    | succ m ih=>
     intro a b c
     obtain ⟨om,vm,hom,_,hpm⟩:=hT.step m (by omega)
     by_cases hmi:m=i
     ·subst hmi
      rw [ho] at hom;cases hom
      rw [KP hput,if_pos hdt]
     ·rw [KP hpm,if_neg]
      ·exact ih (by omega) (by omega) (fun j x y=>c j x (by omega))
      ·have:=c m (by omega) (by omega)
       simpa [XU,hom] using this
   rw [hgo m him hm hno] at hu
   cases hu
   have hlt:t < tm.size:=by
    rw [h.tsize,← (Jt hT i (by omega)).2.1]
    exact (ya hput).2.2.2.2 t hdt
   refine ⟨v',?_,hv.mono (Y9 (.refl _) (Z5 hA hT hlo (by omega) (by omega)))⟩
   rw [hdt]
   simp [Wo,hlt]
  ·-- another one
   have h1':∀ j,j < m→XU ops j=some t→ZY L j:=fun j hj hd=>by
    have:=h1 j hj hd
    rw [Yg hLi] at this
    rcases this with rfl | q
    ·rw [hds] at hd;exact absurd hd hdt
    ·exact q
   have h2':∀ j,m≤j→j < n→XU ops j=some t→¬ ZY L j:=fun j a b c d=>h2 j a b c ((Yg hLi).2 (.inr d))
   obtain ⟨u',e,q⟩:=h.tm t m hm h1' h2' u hu
   refine ⟨u',?_,q.mono (Y9 hle (Z5 hA hT hlo (by omega) (by omega)))⟩
   unfold Wo
   cases hd:o.dst with
   | none=>exact e
   | some d=>
    have hne:d≠t:=fun x=>hdt (by rw [hd,x])
    simp only [Array.getElem?_setIfInBounds]
    rw [if_neg hne];exact e

theorem Inv.reads {P:Program} {lo base:Nat} {C:CallF} {ops:Array Oper} {n:Nat} {As:Nat→Fr} {Hs:Nat→Hp} {kd:Nat→Kd} {r:Ren} {w:World} {L:Array Bool} {s:Nat} {r':Ren} {w':World} {tm:Array Value} (hS:yZ ops) (hT:Qs P lo C ops As Hs kd n)
  (h:Inv P lo base ops n As Hs kd r w L s r' w' tm) {i:Nat} {o:Oper} (hi:i≤n) (ho:ops[i]? = some o) (hun:¬ ZY L i) (hr:∀ e∈o.after,Region.binds .any e=true→ZY L e.on) :
  Xk (r'.below (Hs (max i s)).next) ((As i).cut (Yq ops o)).n ((As i).cut (Yq ops o)).T tm:=by
 have hnle:=hT.le
 refine ⟨by rw [h.tsize];exact (Jt hT i (by omega)).2.1.symm,fun t v hv=>?_⟩
 simp only [Fr.cut,Vl] at hv
 by_cases ht:t∈Yq ops o
 ·rw [if_pos ht] at hv
  have hin:∀ d,d=t→Zbg (some d) (Yq ops o)=true:=fun d hd=>by
   subst hd
   unfold Zbg
   exact List.any_eq_true.2 ⟨d,ht,by simp [Nat.beq_refl]⟩
  refine h.tm t i (by omega) (fun j hj hd=>?_) (fun j hij hj hd hdone=>?_) v hv
  ·have hoj:ops[j]? = some ops[j]:=Array.getElem?_eq_getElem (by omega)
   have hdj:ops[j].dst=some t:=by simpa [XU,hoj] using hd
   have ha:=hS.apart j i ops[j] o hoj ho hj (by
    unfold hit
    rw [hdj];simp only [hin t rfl,Bool.or_true,Bool.true_or])
   exact h.ready ho hr ha
  ·by_cases hji:j=i
   ·subst hji;exact hun hdone
   ·have hoj:ops[j]? = some ops[j]:=Array.getElem?_eq_getElem (by omega)
    have hdj:ops[j].dst=some t:=by simpa [XU,hoj] using hd
    have ha:=hS.apart i j o ops[j] ho hoj (by omega) (by
     unfold hit
     rw [hdj];simp only [hin t rfl,Bool.true_or])
    exact hun (h.anc ha hdone)
 ·rw [if_neg ht] at hv;cases hv
end Go.Ax

namespace Go.Ax
open Go Go.RowKit

structure Cx where
 rest:List Nat
 k:List Item
 ds:List Deferred
 kind:CallKind
 rd:Option Nat
 cs:List Frame
def XI (X:Cx) (P:Program) (fn:FuncId) (ops:Array Oper) (i:Nat) (tm:Array Value) (w:World) (o:Oper) (v':Value) (w2:World):Prop:=
 Steps P (lone (mkF fn tm (.inRegion ops (i :: X.rest) :: X.k) X.ds X.kind X.rd) X.cs w) (lone (mkF fn (Wo tm o.dst v') (.inRegion ops X.rest :: X.k) X.ds X.kind X.rd) X.cs w2)

theorem Vj {a b:Kd} (ha:calm a=false) (hb:calm b=false):Yl a b=true:=by
 cases a<;>cases b<;>simp [calm] at ha hb<;>rfl
theorem Vt {b:Kd} (hb:calm b=false):Yl .heavy b=true∧Yl b .heavy=true:=by
 cases b<;>simp [calm] at hb<;>exact ⟨rfl,rfl⟩
theorem Wr.calm {k:Kd} {b:Nat} (h:Wr k b):calm k=false:=by rcases h with rfl | rfl<;>rfl
theorem qv {k:Kd} {b:Nat} (h:Wr k b):Yl k (.read b)=true∧Yl (.read b) k=true:=by
 rcases h with rfl | rfl<;>simp [Yl,YJ,Nat.beq_refl]
theorem Zeg {k:Kd} {b:Nat} (h:Wr k b):Yl k (.mk b)=true∧Yl (.mk b) k=true:=by
 rcases h with rfl | rfl<;>simp [Yl,YJ,Nat.beq_refl]

section
variable {P:Program} {lo base:Nat} {C:CallF} {ops:Array Oper} {n:Nat} {As:Nat→Fr} {Hs:Nat→Hp} {kd:Nat→Kd} {r:Ren} {w:World}
variable {L:Array Bool} {s:Nat} {r':Ren} {w':World} {tm:Array Value} {X:Cx}

theorem XA {o:Oper} {fn:FuncId} {tm:Array Value} {i:Nat} {w w2:World} {v':Value} (ho:ops[i]? = some o) (hw:Region.wanted o (yielded ops tm)=true) (hd:∀ c,o.op≠.defer c) (hr:(execOp (evT tm) o).run P w=.ok (.value v') w2):XI X P fn ops i tm w o v' w2:=
 Steps.one (YA ho hw (.inr hd) hr)

structure Wh (P:Program) (lo:Nat) (C:CallF) (ops:Array Oper) (n:Nat) (As:Nat→Fr) (Hs:Nat→Hp) (kd:Nat→Kd):Prop where
 A:Xo C
 S:yZ ops
 T:Qs P lo C ops As Hs kd n
 cl:∀ i j,i < j→j < n→Yl (kd j) (kd i)=true→Anc ops j i
 ro:WG lo (Hs 0)∨∀ i j,i < j→j < n→YJ (kd j) (kd i)=true→Anc ops j i
 lo:lo≤(Hs 0).next

theorem Uy (U:Wh P lo C ops n As Hs kd) {b i q:Nat} (hiq:i≤q) (hq:q≤n) (hb:b < (Hs i).next) (hw:∀ j,i≤j→j < q→¬ Wr (kd j) b):(Hs q).t.get b=(Hs i).t.get b:=
 ZaA U.A U.T U.lo hiq hq hb fun j h1 h2=>by
  cases hk:kd j with
  | store c=>exact .inr ⟨c,rfl,fun e=>hw j h1 h2 (.inl (by rw [hk,e]))⟩
  | full=>exact absurd (.inr hk) (hw j h1 h2)
  | _=>exact .inl rfl
theorem jF (U:Wh P lo C ops n As Hs kd) {b q1 q2:Nat} (h12:q1≤q2) (hq:q2≤n) (hb:b < (Hs q1).next) (s1:Wv kd n L b q1) (s2:Wv kd n L b q2):(Hs q2).t.get b=(Hs q1).t.get b:=
 Uy U h12 hq hb fun j h1 h2 hw=>by
  have a:=(s2 j (by omega) hw).2 h2
  have:=(s1 j (by omega) hw).1 a
  omega
theorem YM {i b q:Nat} (hLi:i < L.size) (hnw:¬ Wr (kd i) b):Wv kd n (L.setIfInBounds i true) b q↔Wv kd n L b q:=by
 unfold Wv
 refine forall_congr' fun j=>forall_congr' fun hj=>forall_congr' fun hw=>?_
 rw [Yg hLi]
 have:j≠i:=fun e=>hnw (e ▸ hw)
 simp [this]
theorem yn (U:Wh P lo C ops n As Hs kd) (h:Inv P lo base ops n As Hs kd r w L s r' w' tm) {i:Nat} (hi:i < n) (hun:¬ ZY L i) {b:Nat} {loc:Loc} (e:r' b=some loc) (hb:(Hs i).next≤b) :
  (Hs (i+1)).next≤b∧∃ j,i < j∧j < n∧ZY L j∧(Hs j).next≤b∧b < (Hs (j+1)).next:=by
 rcases h.own b loc e with q | ⟨j,a,b',c,d⟩
 ·have:=Z5 U.A U.T U.lo (i:=0) (j:=i) (by omega) (by omega);omega
 ·by_cases hji:j=i
  ·subst hji;exact absurd b' hun
  ·rcases Nat.lt_or_ge j i with q | q
   ·have:=Z5 U.A U.T U.lo (i:=j+1) (j:=i) (by omega) (by omega);omega
   ·have:=Z5 U.A U.T U.lo (i:=i+1) (j:=j) (by omega) (by omega)
    exact ⟨by omega,j,by omega,a,b',c,d⟩
theorem qn (U:Wh P lo C ops n As Hs kd) (h:Inv P lo base ops n As Hs kd r w L s r' w' tm):∀ b loc,r' b=some loc→b < (Hs n).next:=by
 intro b loc e
 rcases h.own b loc e with q | ⟨j,a,_,_,d⟩
 ·have:=Z5 U.A U.T U.lo (i:=0) (j:=n) (by omega) (by omega);omega
 ·have:=Z5 U.A U.T U.lo (i:=j+1) (j:=n) (by omega) (by omega);omega
theorem Vz (U:Wh P lo C ops n As Hs kd) {j b:Nat} (hj:j < n) (hk:kd j=.mk b):b=(Hs j).next∧(Hs (j+1)).next=b+1∧∃ cs e,(Hs (j+1)).t.get b=some (.cells cs e false):=by
 have:=U9 U.A U.T U.lo hj
 rw [hk] at this
 obtain ⟨e1,cs,e,e2⟩:=this
 refine ⟨e1,by rw [e2,e1];rfl,cs,e,?_⟩
 rw [e2,e1]
 simp only [Hp.new,Tr.get_set,if_true]

theorem qE (U:Wh P lo C ops n As Hs kd) (h:Inv P lo base ops n As Hs kd r w L s r' w' tm) {i:Nat} (hi:i < n) (hun:¬ ZY L i) {o:Oper} (ho:ops[i]? = some o) (hr:∀ e∈o.after,Region.binds .any e=true→ZY L e.on)
  (hk:kd i=.heavy∨calm (kd i)=false) (b:Nat):Wv kd n L b i:=by
 intro j hj hw
 have hc1:Yl (kd i) (kd j)=true:=by
  rcases hk with q | q
  ·rw [q];exact (Vt hw.calm).1
  ·exact Vj q hw.calm
 have hc2:Yl (kd j) (kd i)=true:=by
  rcases hk with q | q
  ·rw [q];exact (Vt hw.calm).2
  ·exact Vj hw.calm q
 constructor
 ·intro hd
  rcases Nat.lt_or_ge j i with q | q
  ·exact q
  ·by_cases hji:j=i
   ·subst hji;exact absurd hd hun
   ·exact absurd (h.anc (U.cl i j (by omega) hj hc2) hd) hun
 ·intro q
  exact h.ready ho hr (U.cl j i q hi hc1)
theorem yM (h:Inv P lo base ops n As Hs kd r w L s r' w' tm) {i:Nat} (hsi:s≤i) (hi:i≤n) (hs:∀ b,Wv kd n L b i):Rel P (r'.below (Hs i).next) base (Hs i) w':=by
 have R:=h.rels i hsi hi
 refine ⟨fun b loc e=>?_,fun b loc ob e eo=>?_,fun b1 b2 l1 l2 e1 e2 e3 v1 v2=>?_,h.top⟩
 ·obtain ⟨hb,e⟩:=ZW e
  exact ⟨hb,R.dom b loc e hb (hs b)⟩
 ·obtain ⟨hb,e⟩:=ZW e
  exact R.cont b loc ob e hb (hs b) eo
 ·obtain ⟨hb1,e1⟩:=ZW e1
  obtain ⟨hb2,e2⟩:=ZW e2
  exact R.inj b1 b2 l1 l2 e1 e2 hb1 hb2 (hs b1) (hs b2) e3 v1 v2

theorem Vf (U:Wh P lo C ops n As Hs kd) (h:Inv P lo base ops n As Hs kd r w L s r' w' tm) {i:Nat} (hi:i < n) (hun:¬ ZY L i) {o:Oper} {v:Value} (ho:ops[i]? = some o) (hr:∀ e∈o.after,Region.binds .any e=true→ZY L e.on)
  (hput:(As i).put o.dst v=some (As (i+1))) (hc:kd i=.pure∨∃ b,kd i=.read b) {v':Value} (hv:VR (r'.below (Hs (max i s)).next) v v') (hs:XI X P (As 0).fn ops i tm w' o v' w') :
  ∃ s2 r2 w2 v',XI X P (As 0).fn ops i tm w' o v' w2∧Inv P lo base ops n As Hs kd r w (L.setIfInBounds i true) s2 r2 w2 (Wo tm o.dst v'):=by
 have hLi:i < L.size:=by have:=U.T.le;rw [h.size];omega
 have hnw:∀ b,¬ Wr (kd i) b:=fun b hw=>by
  have:=hw.calm
  rcases hc with q | ⟨b,q⟩<;>rw [q] at this<;>cases this
 have hsame:Hs (i+1)=Hs i:=by
  have hch:=U9 U.A U.T U.lo (j:=i) hi
  rcases hc with q | ⟨b,q⟩<;>rw [q] at hch<;>exact hch
 have hmax:(Hs (max (i+1) s)).next=(Hs (max i s)).next:=by
  rcases Nat.lt_or_ge i s with q | q
  ·rw [Nat.max_eq_right q,Nat.max_eq_right (by omega)]
  ·rw [Nat.max_eq_left (by omega),Nat.max_eq_left q,hsame]
 refine ⟨s,r',w',v',hs,h.next U.A U.lo U.S U.T hi ho hun hr hput (Nat.le_refl _) h.sle (fun j hj hk=>.inr (h.sdone j hj hk)) (fun q h1 h2=>?_) (.refl _)
  (fun _ _ e=>.inl e) h.low (fun hro j h1 h2 h3 b loc hk=>?_) h.top (by rw [hmax];exact hv) h.pk⟩
 ·have R:=h.rels q h1 h2
  exact ⟨fun b loc e hb hsy=>R.dom b loc e hb ((YM hLi (hnw b)).1 hsy),fun b loc ob e hb hsy=>R.cont b loc ob e hb ((YM hLi (hnw b)).1 hsy),fun b1 b2 l1 l2 e1 e2 g1 g2 s1 s2=>R.inj b1 b2 l1 l2 e1 e2 g1 g2 ((YM hLi (hnw b1)).1 s1) ((YM hLi (hnw b2)).1 s2)⟩
 ·rcases h3 with rfl | h3
  ·exfalso
   rcases hc with q | ⟨b,q⟩<;>rw [q] at hk<;>cases hk
  ·exact h.sep hro j h1 h2 h3 b loc hk

theorem ZbT (U:Wh P lo C ops n As Hs kd) (h:Inv P lo base ops n As Hs kd r w L s r' w' tm) {i:Nat} (hi:i < n) (hun:¬ ZY L i) {o:Oper} {v:Value} (ho:ops[i]? = some o) (hr:∀ e∈o.after,Region.binds .any e=true→ZY L e.on)
  (hput:(As i).put o.dst v=some (As (i+1))) {b:Nat} (hk:kd i=.mk b) {cs:List Value} {e:TypeId} (hH:Hs (i+1)=(Hs i).new (.cells cs e false)) {C':Array Value} {v':Value} (hL:LR (r'.below (Hs (max i s)).next) cs C'.toList)
  (hv:∀ r2:Ren,r2 (Hs i).next=some ⟨w'.heap.size,0,none⟩→VR r2 v v') (hs:XI X P (As 0).fn ops i tm w' o v' (w'.alloc (.cells C' e))) :
  ∃ s2 r2 w2 v',XI X P (As 0).fn ops i tm w' o v' w2∧Inv P lo base ops n As Hs kd r w (L.setIfInBounds i true) s2 r2 w2 (Wo tm o.dst v'):=by
 have hLi:i < L.size:=by have:=U.T.le;rw [h.size];omega
 have hnw:∀ b,¬ Wr (kd i) b:=fun b hw=>by have:=hw.calm;rw [hk] at this;cases this
 obtain ⟨hb,hb1,_⟩:=Vz U hi hk
 have hnone:r' b=none:=by
  cases e:r' b with
  | none=>rfl
  | some loc=>have:=(yn U h hi hun e (by omega)).1;omega
 have hsz:(w'.alloc (.cells C' e)).heap.size=w'.heap.size+1:=by simp [World.size_alloc]
 have hold:∀ k,k < w'.heap.size→(w'.alloc (.cells C' e)).heap[k]? = w'.heap[k]?:=fun k hk=>by
  show (w'.heap.push _)[k]? = _
  rw [Array.getElem?_push,if_neg (by omega)]
 have hnew:(w'.alloc (.cells C' e)).heap[w'.heap.size]? = some (.cells C' e (0,0)):=by
  show (w'.heap.push _)[w'.heap.size]? = _
  simp
 have hle:=Ren.le_add (⟨w'.heap.size,0,none⟩:Loc) hnone
 have part:∀ x loc,r'.add b ⟨w'.heap.size,0,none⟩ x=some loc→(x=b∧loc=⟨w'.heap.size,0,none⟩)∨(x≠b∧r' x=some loc):=fun x loc e=>by
  unfold Ren.add at e
  by_cases hx:x=b
  ·rw [if_pos hx] at e;cases e;exact .inl ⟨hx,rfl⟩
  ·rw [if_neg hx] at e;exact .inr ⟨hx,e⟩
 have hnxt:=X1 U.A U.T U.lo i (by omega)
 have cont:∀ q,s≤q→q≤n→b < (Hs q).next→Wv kd n L b q→i+1≤q∧(Hs q).t.get b=some (.cells cs e false):=fun q h1 h2 hbq hsy=>by
  have hiq:i+1≤q:=by
   rcases Nat.lt_or_ge i q with x | x
   ·exact x
   ·have:=Z5 U.A U.T U.lo x (by omega);omega
  refine ⟨hiq,?_⟩
  rw [Uy U hiq h2 (by omega) fun j a c hw=>?_,hH,hb]
  ·simp only [Hp.new,Tr.get_set,if_true]
  ·have hd:=(hsy j (by omega) hw).2 c
   exact hun (h.anc (U.cl i j (by omega) (by omega) (by rw [hk];exact (Zeg hw).1)) hd)
 have small:∀ q,s≤q→q≤n→∀ x loc,r' x=some loc→x < (Hs q).next→Wv kd n L x q→Wg (Hs q) x→loc.blk < w'.heap.size:=fun q h1 h2 x loc e hx hsy ⟨o',e1,_,e3⟩=>by
  have:=(h.rels q h1 h2).dom x loc e hx hsy
  rw [e1] at this
  exact (this.own e3).2
 refine ⟨s,r'.add b ⟨w'.heap.size,0,none⟩,w'.alloc (.cells C' e),v',hs,h.next U.A U.lo U.S U.T hi ho hun hr hput (Nat.le_refl _) h.sle (fun j hj hk=>.inr (h.sdone j hj hk)) (fun q h1 h2=>?_) hle
  (fun x loc e=>?_) (fun hro x loc e=>?_) (fun hro j h1 h2 h3 x loc hkx e x0 loc0 e0 hblk=>?_) (by rw [hsz];have:=h.top;omega) ?_ ?_⟩
 ·have R:=h.rels q h1 h2
  refine ⟨fun x loc e hx hsy=>?_,fun x loc ob e hx hsy eo=>?_,fun b1 b2 l1 l2 e1 e2 g1 g2 s1 s2 e3 v1 v2=>?_⟩
  ·have hsy:=(YM hLi (hnw x)).1 hsy
   rcases part x loc e with ⟨rfl,rfl⟩ | ⟨_,e⟩
   ·rw [(cont q h1 h2 hx hsy).2]
    have:=h.top
    exact ⟨this,by rw [hsz];exact Nat.lt_succ_self _⟩
   ·exact (R.dom x loc e hx hsy).more (by rw [hsz];omega)
  ·have hsy:=(YM hLi (hnw x)).1 hsy
   rcases part x loc e with ⟨rfl,rfl⟩ | ⟨_,e⟩
   ·obtain ⟨hiq,hg⟩:=cont q h1 h2 hx hsy
    rw [hg] at eo
    cases eo
    rw [hnew]
    have hm:=Z5 U.A U.T U.lo (i:=max i s) (j:=q) (by omega) h2
    exact ⟨C',rfl,Kz (hL.mono (Y9 hle hm)) rfl,.inl ⟨rfl,rfl,rfl,by have:=hL.1;simpa using this.symm⟩⟩
   ·have hdm:=R.dom x loc e hx hsy
    rw [eo] at hdm
    exact ((R.cont x loc ob e hx hsy eo).keep hdm h.top (hold _)).mono (Y9 hle (Nat.le_refl _))
  ·have t1:=(YM hLi (hnw b1)).1 s1
   have t2:=(YM hLi (hnw b2)).1 s2
   rcases part b1 l1 e1 with ⟨rfl,rfl⟩ | ⟨_,q1⟩<;>rcases part b2 l2 e2 with ⟨rfl,rfl⟩ | ⟨_,q2⟩
   ·rfl
   ·have:=small q h1 h2 b2 l2 q2 g2 t2 v2;simp only at e3;omega
   ·have:=small q h1 h2 b1 l1 q1 g1 t1 v1;simp only at e3;omega
   ·exact R.inj b1 b2 l1 l2 q1 q2 g1 g2 t1 t2 e3 v1 v2
 ·rcases part x loc e with ⟨rfl,rfl⟩ | ⟨_,e⟩
  ·exact .inr ⟨by omega,by omega⟩
  ·exact .inl e
 ·rcases part x loc e with ⟨rfl,rfl⟩ | ⟨_,e⟩
  ·exact .inl (by rw [hsz];exact Nat.lt_succ_self _)
  ·exact (h.low hro x loc e).imp (fun q=>by rw [hsz];omega) id
 ·rcases h3 with rfl | h3
  ·rw [hk] at hkx;cases hkx
   rcases part _ loc e with ⟨_,rfl⟩ | ⟨q,_⟩
   ·rcases part x0 loc0 e0 with ⟨q,_⟩ | ⟨_,q⟩
    ·exact .inl q
    ·rcases h.low hro x0 loc0 q with z | z
     ·simp only at hblk;omega
     ·exact .inr z
   ·exact absurd rfl q
  ·obtain ⟨a1,a2,_⟩:=Vz U h2 hkx
   have hxb:x≠b:=fun q=>by
    subst q
    by_cases hji:j=i
    ·subst hji;exact hun h3
    ·rcases Nat.lt_or_ge j i with z | z
     ·have:=Z5 U.A U.T U.lo (i:=j+1) (j:=i) (by omega) (by omega);omega
     ·have:=Z5 U.A U.T U.lo (i:=i+1) (j:=j) (by omega) (by omega);omega
   rcases part x loc e with ⟨q,_⟩ | ⟨_,ex⟩
   ·exact absurd q hxb
   ·rcases part x0 loc0 e0 with ⟨rfl,rfl⟩ | ⟨_,ex0⟩
    ·rcases h.low hro x loc ex with z | z
     ·simp only at hblk;omega
     ·have:=z.1;have:=X1 U.A U.T U.lo j (by omega);omega
    ·exact h.sep hro j h1 h2 h3 x loc hkx ex x0 loc0 ex0 hblk
 ·refine hv _ (Vs ?_ ?_)
  ·have:=Z5 U.A U.T U.lo (i:=i+1) (j:=max (i+1) s) (by omega) (by have:=h.sle;omega)
   omega
  ·rw [← hb];exact Ren.add_same _ _ _
 ·refine ⟨h.pk.le.trans hle,fun x loc e=>?_,fun k hk hpre=>?_,h.pk.str.trans ⟨rfl,rfl,rfl,by rw [hsz];omega⟩⟩
  ·rcases part x loc e with ⟨rfl,rfl⟩ | ⟨_,e⟩
   ·exact .inr ⟨by omega,.inl ⟨h.pk.str.size,by rw [hsz];exact Nat.lt_succ_self _⟩⟩
   ·exact PK.up (by rw [hsz];omega) (h.pk.place x loc e)
  ·rw [hold k (Nat.lt_of_lt_of_le hk h.pk.str.size)]
   exact h.pk.keep k hk hpre

theorem Jw (U:Wh P lo C ops n As Hs kd) (h:Inv P lo base ops n As Hs kd r w L s r' w' tm) {i:Nat} (hi:i < n) (hun:¬ ZY L i) {o:Oper} {v:Value} (ho:ops[i]? = some o) (hr:∀ e∈o.after,Region.binds .any e=true→ZY L e.on)
  (hput:(As i).put o.dst v=some (As (i+1))) (hk:kd i=.heavy) {r3:Ren} {w2:World} {v':Value} (hpost:Zr P (Hs i).next base (r'.below (Hs i).next) (Hs i) w' r3 (Hs (i+1)) w2) (hv:VR r3 v v') (hs:XI X P (As 0).fn ops i tm w' o v' w2) :
  ∃ s2 r2 w2 v',XI X P (As 0).fn ops i tm w' o v' w2∧Inv P lo base ops n As Hs kd r w (L.setIfInBounds i true) s2 r2 w2 (Wo tm o.dst v'):=by
 have hLi:i < L.size:=by have:=U.T.le;rw [h.size];omega
 have hnw:∀ b,¬ Wr (kd i) b:=fun b hw=>by have:=hw.calm;rw [hk] at this;cases this
 have hsi:s≤i:=by
  rcases Nat.lt_or_ge i s with q | q
  ·exact absurd (h.sdone i q (.inl hk)) hun
  ·exact q
 have hnx:=X1 U.A U.T U.lo i (by omega)
 have hmono:=Z5 U.A U.T U.lo (i:=i) (j:=i+1) (by omega) (by omega)
 have hsz:=hpost.str.size
 have hnewr:∀ b loc,r' b=some loc→(Hs i).next≤b→(Hs (i+1)).next≤b:=fun b loc e hb=>(yn U h hi hun e hb).1
 have h3:∀ b loc,r3 b=some loc→(b < (Hs i).next∧r' b=some loc)∨((Hs i).next≤b∧b < (Hs (i+1)).next∧w'.heap.size≤loc.blk∧loc.blk < w2.heap.size):=fun b loc e=>by
  have hdom:=(hpost.rel.dom b loc e).1
  rcases hpost.place b loc e with q | ⟨q1,q2⟩
  ·exact .inl (ZW q)
  ·rcases q2 with q2 | ⟨b0,l0,f1,f2,f3⟩
   ·exact .inr ⟨q1,hdom,q2.1,q2.2⟩
   ·have:=(ZW f1).1;omega
 let r2:Ren:=fun b=>match r' b with | some l=>some l | none=>r3 b
 have hle1:Ren.Le r' r2:=fun b loc e=>by simp only [r2,e]
 have hle3:Ren.Le r3 r2:=fun b loc e=>by
  rcases h3 b loc e with ⟨_,q⟩ | ⟨q1,q2,_⟩
  ·simp only [r2,q]
  ·cases hr':r' b with
   | none=>simp only [r2,hr',e]
   | some l=>have:=hnewr b l hr' q1;omega
 have hle3':Ren.Le r3 (r2.below (Hs (i+1)).next):=fun b loc e=>Vs (hpost.rel.dom b loc e).1 (hle3 b loc e)
 have hsplit:∀ b loc,r2 b=some loc→r' b=some loc∨(r' b=none∧r3 b=some loc):=fun b loc e=>by
  simp only [r2] at e
  cases hr':r' b with
  | none=>rw [hr'] at e;exact .inr ⟨rfl,e⟩
  | some l=>rw [hr'] at e;cases e;exact .inl rfl
 have hnew3:∀ b loc,r' b=none→r3 b=some loc→(Hs i).next≤b∧b < (Hs (i+1)).next∧w'.heap.size≤loc.blk∧loc.blk < w2.heap.size:=fun b loc e1 e2=>by
  rcases h3 b loc e2 with ⟨_,q⟩ | q
  ·rw [e1] at q;cases q
  ·exact q
 have hkeep:∀ k,k < w'.heap.size→w2.heap[k]? = w'.heap[k]?:=fun k hk=>hpost.keep k hk fun b loc e _=>(ZW e).1
 have cont:∀ q,q≤n→∀ b loc,r' b=none→r3 b=some loc→b < (Hs q).next→Wv kd n L b q→i+1≤q∧(Hs q).t.get b=(Hs (i+1)).t.get b:=fun q hq b loc e1 e2 hbq hsy=>by
  obtain ⟨x1,x2,_⟩:=hnew3 b loc e1 e2
  have hiq:i+1≤q:=by
   rcases Nat.lt_or_ge i q with x | x
   ·exact x
   ·have:=Z5 U.A U.T U.lo x (by omega);omega
  refine ⟨hiq,Uy U hiq hq x2 fun j a c hw=>?_⟩
  have hd:=(hsy j (by omega) hw).2 c
  exact hun (h.anc (U.cl i j (by omega) (by omega) (by rw [hk];exact (Vt hw.calm).2)) hd)
 have small:∀ q,s≤q→q≤n→∀ x loc,r' x=some loc→x < (Hs q).next→Wv kd n L x q→Wg (Hs q) x→loc.blk < w'.heap.size:=fun q h1 h2 x loc e hx hsy ⟨o',e1,_,e3⟩=>by
  have:=(h.rels q h1 h2).dom x loc e hx hsy
  rw [e1] at this
  exact (this.own e3).2
 have hpk2:PK lo r (Hs 0).next w r2 w2:=h.pk.step hpost hnx.1 hnx.2 (fun b loc e=>(ZW e).2) hle1 (fun b loc e=>by
  rcases hsplit b loc e with q | ⟨_,q⟩
  ·exact .inl q
  ·exact .inr q)
 refine ⟨s,r2,w2,v',hs,h.next U.A U.lo U.S U.T hi ho hun hr hput (Nat.le_refl _) h.sle (fun j hj hk=>.inr (h.sdone j hj hk)) (fun q h1 h2=>?_) hle1
  (fun b loc e=>?_) (fun hro b loc e=>?_) (fun hro j h1 h2 h3j x loc hkx e x0 loc0 e0 hblk=>?_) (by have:=h.top;omega) ?_ hpk2⟩
 ·have R:=h.rels q h1 h2
  refine ⟨fun b loc e hb hsy=>?_,fun b loc ob e hb hsy eo=>?_,fun b1 b2 l1 l2 e1 e2 g1 g2 s1 s2 e3 v1 v2=>?_⟩
  ·have hsy:=(YM hLi (hnw b)).1 hsy
   rcases hsplit b loc e with q' | ⟨q1,q2⟩
   ·exact (R.dom b loc q' hb hsy).more hsz
   ·rw [(cont q h2 b loc q1 q2 hb hsy).2]
    exact (hpost.rel.dom b loc q2).2
  ·have hsy:=(YM hLi (hnw b)).1 hsy
   rcases hsplit b loc e with q' | ⟨q1,q2⟩
   ·have hdm:=R.dom b loc q' hb hsy
    rw [eo] at hdm
    exact ((R.cont b loc ob q' hb hsy eo).keep hdm h.top (hkeep _)).mono (Y9 hle1 (Nat.le_refl _))
   ·obtain ⟨hiq,hg⟩:=cont q h2 b loc q1 q2 hb hsy
    rw [hg] at eo
    have hm2:=Z5 U.A U.T U.lo hiq h2
    exact (hpost.rel.cont b loc ob q2 eo).mono (hle3'.trans (Y9 (.refl _) hm2))
  ·have t1:=(YM hLi (hnw b1)).1 s1
   have t2:=(YM hLi (hnw b2)).1 s2
   rcases hsplit b1 l1 e1 with q1 | ⟨q1,p1⟩<;>rcases hsplit b2 l2 e2 with q2 | ⟨q2,p2⟩
   ·exact R.inj b1 b2 l1 l2 q1 q2 g1 g2 t1 t2 e3 v1 v2
   ·have:=small q h1 h2 b1 l1 q1 g1 t1 v1
    have:=(hnew3 b2 l2 q2 p2).2.2.1
    omega
   ·have:=small q h1 h2 b2 l2 q2 g2 t2 v2
    have:=(hnew3 b1 l1 q1 p1).2.2.1
    omega
   ·have c1:=(cont q h2 b1 l1 q1 p1 g1 t1).2
    have c2:=(cont q h2 b2 l2 q2 p2 g2 t2).2
    have lv:∀ b,(Hs q).t.get b=(Hs (i+1)).t.get b→Wg (Hs q) b→Wg (Hs (i+1)) b:=fun b hb ⟨ob,x,y⟩=>⟨ob,by rw [← hb];exact x,y⟩
    exact hpost.rel.inj b1 b2 l1 l2 p1 p2 e3 (lv _ c1 v1) (lv _ c2 v2)
 ·rcases hsplit b loc e with q | ⟨q1,q2⟩
  ·exact .inl q
  ·obtain ⟨a,b',_⟩:=hnew3 b loc q1 q2;exact .inr ⟨a,b'⟩
 ·rcases hsplit b loc e with q | ⟨q1,q2⟩
  ·exact (h.low hro b loc q).imp (fun q=>by omega) id
  ·exact .inl (hnew3 b loc q1 q2).2.2.2
 ·rcases h3j with rfl | h3j
  ·rw [hk] at hkx;cases hkx
  ·obtain ⟨a1,a2,_⟩:=Vz U h2 hkx
   rcases hsplit x loc e with ex | ⟨q1,q2⟩
   ·rcases hsplit x0 loc0 e0 with ex0 | ⟨p1,p2⟩
    ·exact h.sep hro j h1 h2 h3j x loc hkx ex x0 loc0 ex0 hblk
    ·have:=(hnew3 x0 loc0 p1 p2).2.2.1
     rcases h.low hro x loc ex with z | z
     ·omega
     ·have:=z.1;have:=X1 U.A U.T U.lo j (by omega);omega
   ·exfalso
    obtain ⟨b1,b2,_⟩:=hnew3 x loc q1 q2
    by_cases hji:j=i
    ·subst hji;exact hun h3j
    ·rcases Nat.lt_or_ge j i with z | z
     ·have:=Z5 U.A U.T U.lo (i:=j+1) (j:=i) (by omega) (by omega);omega
     ·have:=Z5 U.A U.T U.lo (i:=i+1) (j:=j) (by omega) (by omega);omega
 ·rw [Nat.max_eq_left (by omega)]
  exact hv.mono hle3'

theorem WW (U:Wh P lo C ops n As Hs kd) (h:Inv P lo base ops n As Hs kd r w L s r' w' tm) {i:Nat} (hi:i < n) (hun:¬ ZY L i) {o:Oper} {v:Value} (ho:ops[i]? = some o) (hr:∀ e∈o.after,Region.binds .any e=true→ZY L e.on)
  (hput:(As i).put o.dst v=some (As (i+1))) (hk:calm (kd i)=false) {r3:Ren} {w2:World} {v':Value} (hpost:Zr P lo base (r'.below (Hs i).next) (Hs i) w' r3 (Hs (i+1)) w2) (hv:VR r3 v v') (hs:XI X P (As 0).fn ops i tm w' o v' w2) :
  ∃ s2 r2 w2 v',XI X P (As 0).fn ops i tm w' o v' w2∧Inv P lo base ops n As Hs kd r w (L.setIfInBounds i true) s2 r2 w2 (Wo tm o.dst v'):=by
 have hLi:i < L.size:=by have:=U.T.le;rw [h.size];omega
 have hsi:s≤i:=by
  rcases Nat.lt_or_ge i s with q | q
  ·exact absurd (h.sdone i q (.inr hk)) hun
  ·exact q
 have hnx:=X1 U.A U.T U.lo i (by omega)
 have hmono:=Z5 U.A U.T U.lo (i:=i) (j:=i+1) (by omega) (by omega)
 have hsz:=hpost.str.size
 have hsyn:=qE U h hi hun ho hr (.inr hk)
 have ahead:∀ b loc,r' b=some loc→(Hs i).next≤b→(Hs (i+1)).next≤b∧(∀ c,kd i=.store c→c≠b)∧(∃ c,kd i=.store c)∧∃ j,i < j∧j < n∧ZY L j∧kd j=.mk b∧WG lo (Hs 0):=fun b loc e hb=>by
  obtain ⟨h1,j,h2,h3,h4,h5,h6⟩:=yn U h hi hun e hb
  refine ⟨h1,?_⟩
  have hch:=U9 U.A U.T U.lo (j:=j) h3
  have no:Yl (kd j) (kd i)=true→False:=fun hc=>hun (h.anc (U.cl i j h2 h3 hc) h4)
  have mk:kd j=.mk b:=by
   cases hkj:kd j with
   | pure=>rw [hkj] at hch;rw [show Hs (j+1)=Hs j from hch] at h6;omega
   | read x=>rw [hkj] at hch;rw [show Hs (j+1)=Hs j from hch] at h6;omega
   | heavy=>exact (no (by rw [hkj];exact (Vt hk).1)).elim
   | store x=>exact (no (Vj (by rw [hkj];rfl) hk)).elim
   | full=>exact (no (Vj (by rw [hkj];rfl) hk)).elim
   | mk x=>obtain ⟨a1,a2,_⟩:=Vz U h3 hkj;rw [show x=b by omega]
  have st:∃ c,kd i=.store c:=by
   cases hki:kd i with
   | store c=>exact ⟨c,rfl⟩
   | full=>exact (no (by rw [mk,hki];rfl)).elim
   | _=>rw [hki] at hk;cases hk
  refine ⟨fun c hc e=>no (by rw [mk,hc,e];simp [Yl]),st,j,h2,h3,h4,mk,?_⟩
  rcases U.ro with q | q
  ·exact q
  ·obtain ⟨c,hc⟩:=st
   exact (hun (h.anc (q i j h2 h3 (by rw [mk,hc];rfl)) h4)).elim
 have h3:∀ b loc,r3 b=some loc→(b < (Hs i).next∧r' b=some loc)∨((Hs i).next≤b∧b < (Hs (i+1)).next∧((w'.heap.size≤loc.blk∧loc.blk < w2.heap.size)∨∃ b0 loc0,b0 < (Hs i).next∧r' b0=some loc0∧loc0.blk=loc.blk∧lo≤b0)):=fun b loc e=>by
  have hdom:=(hpost.rel.dom b loc e).1
  rcases hpost.place b loc e with q | ⟨q1,q2⟩
  ·exact .inl (ZW q)
  ·refine .inr ⟨q1,hdom,?_⟩
   rcases q2 with q2 | ⟨b0,l0,f1,f2,f3⟩
   ·exact .inl q2
   ·exact .inr ⟨b0,l0,(ZW f1).1,(ZW f1).2,f2,f3⟩
 have hdom3:∀ b loc,r3 b=some loc→b < (Hs (i+1)).next:=fun b loc e=>(hpost.rel.dom b loc e).1
 let r2:Ren:=fun b=>match r3 b with | some l=>some l | none=>r' b
 have hle3:Ren.Le r3 r2:=fun b loc e=>by simp only [r2,e]
 have hle1:Ren.Le r' r2:=fun b loc e=>by
  cases hr3:r3 b with
  | none=>simp only [r2,hr3,e]
  | some l=>
   rcases h3 b l hr3 with ⟨_,q⟩ | ⟨q1,q2,_⟩
   ·rw [e] at q;cases q;simp only [r2,hr3]
   ·have:=(ahead b loc e q1).1;omega
 have hle3':Ren.Le r3 (r2.below (Hs (i+1)).next):=fun b loc e=>Vs (hdom3 b loc e) (hle3 b loc e)
 have hsplit:∀ b loc,r2 b=some loc→r3 b=some loc∨(r' b=some loc∧(Hs i).next≤b):=fun b loc e=>by
  simp only [r2] at e
  cases hr3:r3 b with
  | some l=>rw [hr3] at e;cases e;exact .inl rfl
  | none=>
   rw [hr3] at e
   refine .inr ⟨e,?_⟩
   rcases Nat.lt_or_ge b (Hs i).next with q | q
   ·have:=hpost.le b loc (Vs q e);rw [hr3] at this;cases this
   ·exact q
 have hsyn2:∀ b,Wv kd n (L.setIfInBounds i true) b (i+1):=fun b j hj hw=>by
  rw [Yg hLi,hsyn b j hj hw];omega
 have same:∀ q,i+1≤q→q≤n→∀ b,b < (Hs (i+1)).next→Wv kd n (L.setIfInBounds i true) b q→(Hs q).t.get b=(Hs (i+1)).t.get b:=fun q h1 h2 b hb hsy=>jF U h1 h2 hb (hsyn2 b) hsy
 have lv:∀ q b,(Hs q).t.get b=(Hs (i+1)).t.get b→Wg (Hs q) b→Wg (Hs (i+1)) b:=fun q b hb ⟨ob,x,y⟩=>⟨ob,by rw [← hb];exact x,y⟩
 have stays:∀ b loc,r' b=some loc→(Hs i).next≤b→loc.blk < w'.heap.size∧w2.heap[loc.blk]? = w'.heap[loc.blk]?:=fun b loc e hb=>by
  obtain ⟨_,_,_,j,h1,h2,h4,hmk,hro⟩:=ahead b loc e hb
  have hlt:loc.blk < w'.heap.size:=by
   rcases h.low hro b loc e with z | z
   ·exact z
   ·have:=z.1;omega
  refine ⟨hlt,hpost.keep _ hlt fun b0 loc0 e0 hblk=>?_⟩
  obtain ⟨x1,x2⟩:=ZW e0
  rcases h.sep hro j (by omega) h2 h4 b loc hmk e b0 loc0 x2 hblk with z | z
  ·omega
  ·exact z.1
 have syncL:∀ b loc,r' b=some loc→(Hs i).next≤b→∀ q,Wv kd n (L.setIfInBounds i true) b q→Wv kd n L b q:=fun b loc e hb q hsy=>by
  obtain ⟨_,hne,⟨c,hc⟩,_⟩:=ahead b loc e hb
  refine (YM hLi fun hw=>?_).1 hsy
  rcases hw with z | z
  ·exact hne b z rfl
  ·rw [hc] at z;cases z
 have notro:∀ q,q≤n→∀ b,yg lo (Hs 0) b→¬ Wg (Hs q) b:=fun q hq b ⟨z1,cs,z2⟩ ⟨o',e1,_,e3⟩=>by
  rw [Ju U.A U.T U.lo hq b z1,z2] at e1
  cases e1;cases e3
 have cross:∀ q,i+1≤q→q≤n→∀ b1 b2 l1 l2,r3 b1=some l1→r' b2=some l2→(Hs i).next≤b2→Wg (Hs q) b1→l1.blk=l2.blk→False:=fun q h1 h2 b1 b2 l1 l2 e1 e2 hb2 v1 hblk=>by
  obtain ⟨_,_,_,j,x1,x2,x4,hmk,hro⟩:=ahead b2 l2 e2 hb2
  have hlt:=(stays b2 l2 e2 hb2).1
  rcases h3 b1 l1 e1 with ⟨y1,y2⟩ | ⟨y1,y2,y3 | ⟨b0,l0,y3,y4,y5,y6⟩⟩
  ·rcases h.sep hro j (by omega) x2 x4 b2 l2 hmk e2 b1 l1 y2 hblk with z | z
   ·omega
   ·exact notro q h2 b1 z v1
  ·omega
  ·rcases h.sep hro j (by omega) x2 x4 b2 l2 hmk e2 b0 l0 y4 (y5.trans hblk) with z | z
   ·omega
   ·have:=z.1;omega
 refine ⟨i+1,r2,w2,v',hs,h.next U.A U.lo U.S U.T hi ho hun hr hput (by omega) (by omega) (fun j hj hkj=>?_) (fun q h1 h2=>?_) hle1
  (fun b loc e=>?_) (fun hro b loc e=>?_) (fun hro j h1 h2 h3j x loc hkx e x0 loc0 e0 hblk=>?_) (by have:=h.top;omega) ?_
  (h.pk.step hpost (Nat.le_refl _) hnx.2 (fun b loc e=>(ZW e).2) hle1 (fun b loc e=>by
   rcases hsplit b loc e with q | ⟨q,_⟩
   ·exact .inr q
   ·exact .inl q))⟩
 ·by_cases hji:j=i
  ·exact .inl hji
  ·refine .inr (h.ready ho hr (U.cl j i (by omega) hi ?_))
   rcases hkj with q | q
   ·rw [q];exact (Vt hk).2
   ·exact Vj hk q
 ·have R:=h.rels q (by omega) h2
  have hm2:=Z5 U.A U.T U.lo h1 h2
  refine ⟨fun b loc e hb hsy=>?_,fun b loc ob e hb hsy eo=>?_,fun b1 b2 l1 l2 e1 e2 g1 g2 s1 s2 e3 v1 v2=>?_⟩
  ·rcases hsplit b loc e with e | ⟨e,hbi⟩
   ·rw [same q h1 h2 b (hdom3 b loc e) hsy]
    exact (hpost.rel.dom b loc e).2
   ·exact (R.dom b loc e hb (syncL b loc e hbi q hsy)).more hsz
  ·rcases hsplit b loc e with e | ⟨e,hbi⟩
   ·rw [same q h1 h2 b (hdom3 b loc e) hsy] at eo
    exact (hpost.rel.cont b loc ob e eo).mono (hle3'.trans (Y9 (.refl _) hm2))
   ·rw [(stays b loc e hbi).2]
    exact (R.cont b loc ob e hb (syncL b loc e hbi q hsy) eo).mono (Y9 hle1 (Nat.le_refl _))
  ·rcases hsplit b1 l1 e1 with q1 | ⟨q1,p1⟩<;>rcases hsplit b2 l2 e2 with q2 | ⟨q2,p2⟩
   ·exact hpost.rel.inj b1 b2 l1 l2 q1 q2 e3 (lv q _ (same q h1 h2 b1 (hdom3 b1 l1 q1) s1) v1) (lv q _ (same q h1 h2 b2 (hdom3 b2 l2 q2) s2) v2)
   ·exact (cross q h1 h2 b1 b2 l1 l2 q1 q2 p2 v1 e3).elim
   ·exact (cross q h1 h2 b2 b1 l2 l1 q2 q1 p1 v2 e3.symm).elim
   ·exact R.inj b1 b2 l1 l2 q1 q2 g1 g2 (syncL b1 l1 q1 p1 q s1) (syncL b2 l2 q2 p2 q s2) e3 v1 v2
 ·rcases hsplit b loc e with e | ⟨e,_⟩
  ·rcases h3 b loc e with ⟨_,q⟩ | ⟨q1,q2,_⟩
   ·exact .inl q
   ·exact .inr ⟨q1,q2⟩
  ·exact .inl e
 ·rcases hsplit b loc e with e | ⟨e,_⟩
  ·rcases h3 b loc e with ⟨_,q⟩ | ⟨q1,q2,q3 | ⟨b0,l0,y3,y4,y5,y6⟩⟩
   ·exact (h.low hro b loc q).imp (fun q=>by omega) id
   ·exact .inl q3.2
   ·rcases h.low hro b0 l0 y4 with z | z
    ·exact .inl (by omega)
    ·have:=z.1;omega
  ·exact (h.low hro b loc e).imp (fun q=>by omega) id
 ·rcases h3j with rfl | h3j
  ·omega
  ·obtain ⟨a1,a2,_⟩:=Vz U h2 hkx
   have hmj:=Z5 U.A U.T U.lo (i:=i+1) (j:=j) h1 (by omega)
   have hmj2:=X1 U.A U.T U.lo j (by omega)
   have ex:r' x=some loc:=by
    rcases hsplit x loc e with q | ⟨q,_⟩
    ·have:=hdom3 x loc q;omega
    ·exact q
   rcases hsplit x0 loc0 e0 with q | ⟨q,_⟩
   ·rcases h3 x0 loc0 q with ⟨_,y⟩ | ⟨q1,q2,q3 | ⟨b0,l0,y3,y4,y5,y6⟩⟩
    ·exact h.sep hro j (by omega) h2 h3j x loc hkx ex x0 loc0 y hblk
    ·rcases h.low hro x loc ex with z | z
     ·omega
     ·have:=z.1;omega
    ·rcases h.sep hro j (by omega) h2 h3j x loc hkx ex b0 l0 y4 (y5.trans hblk) with z | z
     ·omega
     ·have:=z.1;omega
   ·exact h.sep hro j (by omega) h2 h3j x loc hkx ex x0 loc0 q hblk
 ·rw [Nat.max_eq_left (by omega)]
  exact hv.mono hle3'
end
end Go.Ax

namespace Go.Ax
open Go Go.RowKit
section
variable {P:Program} {lo base:Nat} {C:CallF} {ops:Array Oper} {n:Nat} {As:Nat→Fr} {Hs:Nat→Hp} {kd:Nat→Kd} {r:Ren} {w:World}
variable {L:Array Bool} {s:Nat} {r':Ren} {w':World} {tm:Array Value} {X:Cx}

theorem Y8 {A:Fr} {H:Hp} {o:Oper} {rs:Rs} {k:Kd} (h:aOp P lo A H o=some (rs,k)) (hnd:∀ d,rs≠.dfr d):∀ c,o.op≠.defer c:=fun c hc=>by
 unfold aOp at h
 rw [Q0 hc] at h
 obtain ⟨d,e⟩:=Jd hc h
 exact hnd d e

theorem Qf (hC:WH P C) {lo:Nat} {t:Target} {args:List Value} {H H':Hp} {v:Value} (hc:C lo t args H=some (.ret v,H')) (hlo:lo≤H.next) {r':Ren} {w':World} {fn:FuncId} {t':Target} {args':Array Value} (hrel:Rel P r' base H w') (ht:TgR r' t t') (ha:LR r' args args'.toList) {i:Nat} {o:Oper}
  (ho:ops[i]? = some o) (hwr:Region.wanted o (yielded ops tm)=true) (hnd:∀ c,o.op≠.defer c) (hrun:(execOp (evT tm) o).run P w'=(invoke t' args').run P w') :
  ∃ v' r3 w2,VR r3 v v'∧Zr P lo base r' H w' r3 H' w2∧XI X P fn ops i tm w' o v' w2:=by
 obtain ⟨nx,fr0,hinv,hfo,hrest⟩:=hC _ _ _ _ _ _ hc hlo r' base w' t' args' hrel ht ha
 obtain ⟨r3,w2,hpost,v',hv,hsteps⟩:=hrest (mkF fn tm (.inRegion ops (i :: X.rest) :: X.k) X.ds X.kind X.rd) X.cs
 have henter:step P (lone (mkF fn tm (.inRegion ops (i :: X.rest) :: X.k) X.ds X.kind X.rd) X.cs w')=.next (lone fr0 (mkF fn tm (.inRegion ops (i :: X.rest) :: X.k) X.ds X.kind X.rd :: X.cs) w'):=by
  rw [hinv] at hrun
  cases nx<;>simp only [XS] at hfo<;>cases hfo
  ·exact Um ho hwr (.inr hnd) hrun
  ·exact UN ho hwr (.inr hnd) hrun
 rw [Xi v' ho] at hsteps
 exact ⟨v',r3,w2,hv,hpost,Steps.head henter hsteps⟩

theorem zF (hC:WH P C) (U:Wh P lo C ops n As Hs kd) (h:Inv P lo base ops n As Hs kd r w L s r' w' tm) {i:Nat} (hi:i < n) (hun:¬ ZY L i) {o:Oper} (ho:ops[i]? = some o) (hr:∀ e∈o.after,Region.binds .any e=true→ZY L e.on) :
  ∃ s2 r2 w2 v',XI X P (As 0).fn ops i tm w' o v' w2∧Inv P lo base ops n As Hs kd r w (L.setIfInBounds i true) s2 r2 w2 (Wo tm o.dst v'):=by
 obtain ⟨o',v,ho',hd,hput⟩:=U.T.step i hi
 rw [ho] at ho';cases ho'
 have hTm:=h.reads U.S U.T (Nat.le_of_lt hi) ho hun hr
 generalize hH':Hs (i+1)=H' at hd
 generalize hk:kd i=k at hd
 have hlonx:=(X1 U.A U.T U.lo i (by omega)).1
 have inOrder:(kd i=.heavy∨calm (kd i)=false)→s≤i∧Rel P (r'.below (Hs i).next) base (Hs i) w'∧Xk (r'.below (Hs i).next) ((As i).cut (Yq ops o)).n ((As i).cut (Yq ops o)).T tm:=fun hkk=>by
  have hsi:s≤i:=by
   rcases Nat.lt_or_ge i s with q | q
   ·exact absurd (h.sdone i q hkk) hun
   ·exact q
  rw [Nat.max_eq_left hsi] at hTm
  exact ⟨hsi,yM h hsi (by omega) (qE U h hi hun ho hr hkk),hTm⟩
 cases hd with
 | passed hw=>
  rw [← YP] at hw
  have hwr:=Xb hTm hw
  exact Vf U h hi hun ho hr hput (.inl hk) (Wi _) (Steps.one (UV ho hwr))
 | mk hw he hm=>
  rw [← YP] at hw
  have hwr:=Xb hTm hw
  rw [← WB (ops:=ops)] at he
  unfold aOp at he
  rw [qz hm] at he
  obtain ⟨hnd,cs,e,hHn,hrun⟩:=ZdJ he hm
  obtain ⟨v',C',hy,hL,hv⟩:=hrun _ w' tm hTm
  exact ZbT U h hi hun ho hr hput hk (hH'.trans hHn) hL hv (XA ho hwr hnd hy)
 | val hw he hkd=>
  rw [← YP] at hw
  have hwr:=Xb hTm hw
  have hnd:=Y8 he (fun d=>by simp)
  rw [← WB (ops:=ops)] at he
  unfold aOp at he
  cases hp:Zo P ((As i).cut (Yq ops o)) o with
  | some u=>
   rw [hp] at he
   cases he
   obtain ⟨v',q,hy⟩:=zP hTm hp
   exact Vf U h hi hun ho hr hput (.inl hk) q (XA ho hwr hnd (hy w'))
  | none=>
   rw [hp] at he
   have hlit:=ZdD he
   cases k with
   | pure=>
    obtain ⟨v',q,hy⟩:=hlit _ w' tm hTm
    exact Vf U h hi hun ho hr hput (.inl hk) q (XA ho hwr hnd hy)
   | read b=>
    obtain ⟨ob,hget,hlit⟩:=hlit
    obtain ⟨loc,hloc,hrun⟩:=hlit _ w' tm hTm
    have hbi:b < (Hs i).next:=Nat.le_of_ble_eq_true hkd
    obtain ⟨hbm,hloc'⟩:=ZW hloc
    have hle:max i s≤n:=by have:=h.sle;omega
    have after:∀ j,i < j→j < n→Wr (kd j) b→¬ ZY L j:=fun j h1 h2 hw hd=>hun (h.anc (U.cl i j h1 h2 (by rw [hk];exact (qv hw).1)) hd)
    have ahead:∀ j,j < i→Wr (kd j) b→ZY L j:=fun j h1 hw=>h.ready ho hr (U.cl j i h1 hi (by rw [hk];exact (qv hw).2))
    have self:¬ Wr (kd i) b:=fun hw=>by have:=hw.calm;rw [hk] at this;cases this
    clear hw
    have hsy:Wv kd n L b (max i s):=fun j hj hw=>by
     constructor
     ·intro hd
      rcases Nat.lt_or_ge j i with q | q
      ·omega
      ·by_cases hji:j=i
       ·subst hji;exact absurd hw self
       ·exact absurd hd (after j (by omega) hj hw)
     ·intro q
      rcases Nat.lt_or_ge j i with z | z
      ·exact ahead j z hw
      ·exact h.sdone j (by omega) (.inr hw.calm)
    have heq:(Hs (max i s)).t.get b=(Hs i).t.get b:=Uy U (by omega) hle hbi fun j h1 h2 hw=>by
     by_cases hji:j=i
     ·subst hji;exact self hw
     ·exact after j (by omega) (by omega) hw (h.sdone j (by omega) (.inr hw.calm))
    have hOb:ObR P (r'.below (Hs (max i s)).next) loc ob w'.heap[loc.blk]?:=(h.rels (max i s) (by omega) hle).cont b loc ob hloc' hbm hsy (by rw [heq];exact hget)
    obtain ⟨v',q,hy⟩:=hrun hOb
    exact Vf U h hi hun ho hr hput (.inr ⟨b,hk⟩) q (XA ho hwr hnd hy)
   | heavy=>
    obtain ⟨hsi,hrel,hTm⟩:=inOrder (.inl hk)
    obtain ⟨r3,v',w2,hrun,hv,hpost⟩:=Vx hrel (Nat.le_refl _) hTm (jo (lo':=(Hs i).next) he)
    rw [← hH'] at hpost
    exact Jw U h hi hun ho hr hput hk hpost hv (XA ho hwr hnd hrun)
   | store b=>
    have hE:calm (kd i)=false:=by rw [hk];rfl
    obtain ⟨hsi,hrel,hTm⟩:=inOrder (.inr hE)
    obtain ⟨r3,v',w2,hrun,hv,hpost⟩:=Vx hrel hlonx hTm he
    rw [← hH'] at hpost
    exact WW U h hi hun ho hr hput hE hpost hv (XA ho hwr hnd hrun)
   | full=>
    have hE:calm (kd i)=false:=by rw [hk];rfl
    obtain ⟨hsi,hrel,hTm⟩:=inOrder (.inr hE)
    obtain ⟨r3,v',w2,hrun,hv,hpost⟩:=Vx hrel hlonx hTm he
    rw [← hH'] at hpost
    exact WW U h hi hun ho hr hput hE hpost hv (XA ho hwr hnd hrun)
   | mk b=>exact (Vw he).elim
 | skip hw he=>
  rw [← YP] at hw
  have hwr:=Xb hTm hw
  have hnd:=Y8 he (fun d=>by simp)
  rw [← WB (ops:=ops)] at he
  unfold aOp at he
  cases hp:Zo P ((As i).cut (Yq ops o)) o with
  | some u=>rw [hp] at he;cases he
  | none=>
   rw [hp] at he
   have hst:∃ b,k=.store b:=by
    rcases W6 he with ⟨v',H'',e,q⟩ | ⟨H'',e,q,b,hb⟩ | ⟨d,e⟩ | e | ⟨t,vs,e⟩ | ⟨u,e⟩<;>cases e
    exact ⟨b,hb⟩
   obtain ⟨b,hb⟩:=hst
   have hE:calm (kd i)=false:=by rw [hk,hb];rfl
   obtain ⟨hsi,hrel,hTm⟩:=inOrder (.inr hE)
   obtain ⟨w2,hrun,hpost⟩:=Vx hrel hlonx hTm he
   rw [← hH'] at hpost
   exact WW U h hi hun ho hr hput hE hpost (Wi _) (Steps.one (Wt ho hwr (.inr hnd) hrun))
 | full hw he hc=>
  rw [← YP] at hw
  have hwr:=Xb hTm hw
  have hnd:=Y8 he (fun d=>by simp)
  rw [← WB (ops:=ops)] at he
  have hE:calm (kd i)=false:=by rw [hk];rfl
  obtain ⟨hsi,hrel,hTm⟩:=inOrder (.inr hE)
  obtain ⟨⟨t',args',hrun,ht,ha⟩,_⟩:=VZ hrel hlonx hTm he
  obtain ⟨v',r3,w2,hv,hpost,hs⟩:=Qf (X:=X) (fn:=(As 0).fn) hC hc hlonx hrel ht ha ho hwr hnd hrun
  rw [← hH'] at hpost
  exact WW U h hi hun ho hr hput hE hpost hv hs
 | one hw he hc hb ho1=>
  rw [← YP] at hw
  have hwr:=Xb hTm hw
  have hnd:=Y8 he (fun d=>by simp)
  rw [← WB (ops:=ops)] at he
  have hE:calm (kd i)=false:=by rw [hk];rfl
  obtain ⟨hsi,hrel,hTm⟩:=inOrder (.inr hE)
  obtain ⟨⟨t',args',hrun,ht,ha⟩,_⟩:=VZ hrel hlonx hTm he
  obtain ⟨v',r3,w2,hv,hpost,hs⟩:=Qf (X:=X) (fn:=(As 0).fn) hC hc hlonx hrel ht ha ho hwr hnd hrun
  rw [← hH'] at hpost
  exact WW U h hi hun ho hr hput hE hpost hv hs
 | quiet hw he hc=>
  rw [← YP] at hw
  have hwr:=Xb hTm hw
  have hnd:=Y8 he (fun d=>by simp)
  rw [← WB (ops:=ops)] at he
  obtain ⟨hsi,hrel,hTm⟩:=inOrder (.inl hk)
  obtain ⟨⟨t',args',hrun,ht,ha⟩,_⟩:=VZ hrel hlonx hTm he
  obtain ⟨v',r3,w2,hv,hpost,hs⟩:=Qf (X:=X) (fn:=(As 0).fn) hC hc (Nat.le_refl _) hrel ht ha ho hwr hnd hrun
  rw [← hH'] at hpost
  exact Jw U h hi hun ho hr hput hk hpost hv hs
end
end Go.Ax

namespace Go.Ax
open Go Go.RowKit

theorem Qo {p q:Nat→Bool}:∀ (l:List Nat),(∀ x∈l,q x=true→p x=true)→l.countP q≤l.countP p
 | [],_=>by simp
 | x :: l,h=>by
  have ih:=Qo l (fun y hy=>h y (by simp [hy]))
  simp only [List.countP_cons]
  cases hq:q x with
  | false=>simp;omega
  | true=>rw [h x (by simp) hq];simp;omega
theorem Kl {p q:Nat→Bool}:∀ (l:List Nat) (a:Nat),a∈l→(∀ x∈l,q x=true→p x=true)→p a=true→q a=false→l.countP q+1≤l.countP p
 | [],a,ha,_,_,_=>by cases ha
 | x :: l,a,ha,h,hp,hq=>by
  simp only [List.countP_cons]
  by_cases hx:x=a
  ·subst hx
   have:=Qo l (fun y hy=>h y (by simp [hy]))
   rw [hp,hq];simp;omega
  ·have ih:=Kl l a (by cases ha with | head=>exact absurd rfl hx | tail _ q=>exact q) (fun y hy=>h y (by simp [hy])) hp hq
   cases hq':q x with
   | false=>simp;omega
   | true=>rw [h x (by simp) hq'];simp;omega

def todo (ops:Array Oper) (L:Array Bool):Nat:=(List.range ops.size).countP fun i=>!L.getD i false
theorem Qg {ops:Array Oper} {L:Array Bool} (h:todo ops L=0) (i:Nat) (hi:i < ops.size):ZY L i:=by
 unfold todo at h
 rw [List.countP_eq_zero] at h
 have:=h i (by simpa using hi)
 simpa [ZY] using this
theorem Jk {ops:Array Oper} {L:Array Bool} {i:Nat} (hL:i < L.size) (hi:i < ops.size) (hun:¬ ZY L i):todo ops (L.setIfInBounds i true)+1≤todo ops L:=by
 unfold todo
 refine Kl _ i (by simpa using hi) (fun x _ hx=>?_) (by simpa [ZY] using hun) ?_
 ·simp only [Bool.not_eq_true',Bool.not_eq_eq_eq_not] at hx ⊢
  cases hd:L.getD x false with
  | false=>rfl
  | true=>
   have:ZY (L.setIfInBounds i true) x:=(Yg hL).2 (.inr hd)
   unfold ZY at this
   rw [this] at hx;cases hx
 ·have:ZY (L.setIfInBounds i true) i:=(Yg hL).2 (.inl rfl)
  unfold ZY at this
  rw [this];rfl

section
variable {P:Program} {lo base:Nat} {C:CallF} {ops:Array Oper} {As:Nat→Fr} {Hs:Nat→Hp} {kd:Nat→Kd} {r:Ren} {w:World}

theorem yW (hC:WH P C) (U:Wh P lo C ops ops.size As Hs kd) (k:List Item) (ds:List Deferred) (kind:CallKind) (rd:Option Nat) (cs:List Frame):∀ (fuel t:Nat) (L:Array Bool) (s:Nat) (r':Ren) (w':World) (tm:Array Value),
  Inv P lo base ops ops.size As Hs kd r w L s r' w' tm→todo ops L≤fuel→
  ∃ L2 s2 r2 w2 tm2,Inv P lo base ops ops.size As Hs kd r w L2 s2 r2 w2 tm2∧(∀ i,i < ops.size→ZY L2 i)∧
   Steps P (lone (mkF (As 0).fn tm (.inRegion ops (Region.linearise.go .any ops fuel t L []) :: k) ds kind rd) cs w') (lone (mkF (As 0).fn tm2 (.inRegion ops [] :: k) ds kind rd) cs w2):=by
 intro fuel
 induction fuel with
 | zero=>
  intro t L s r' w' tm h hf
  exact ⟨L,s,r',w',tm,h,Qg (by omega),by simp only [Region.linearise.go,List.reverse_nil];exact Steps.refl _ _⟩
 | succ fuel ih=>
  intro t L s r' w' tm h hf
  have hgo:Region.linearise.go .any ops (fuel+1) t L []=match (Region.ready .any ops L)[t % (Region.ready .any ops L).length]? with
   | some i=>Region.linearise.go .any ops fuel (t / (Region.ready .any ops L).length) (L.setIfInBounds i true) [i]
   | none=>[]:=by
   simp only [Region.linearise.go]
   rfl
  cases hi:(Region.ready .any ops L)[t % (Region.ready .any ops L).length]? with
  | none=>
   have hnil:Region.ready .any ops L=[]:=by
    cases hr:Region.ready .any ops L with
    | nil=>rfl
    | cons x xs=>
     rw [hr] at hi
     have hlt:t % (x :: xs).length < (x :: xs).length:=Nat.mod_lt _ (by simp)
     rw [List.getElem?_eq_getElem hlt] at hi
     cases hi
   rw [hgo,hi]
   exact ⟨L,s,r',w',tm,h,Uc U.S h.size hnil,Steps.refl _ _⟩
  | some i=>
   have hmem:=List.mem_of_getElem? hi
   obtain ⟨hlt,hun,o,ho,hr⟩:=VQ.1 hmem
   have hLi:i < L.size:=by rw [h.size];exact hlt
   have hun':¬ ZY L i:=by
    unfold ZY
    have:L[i]? = some (L[i]'hLi):=Array.getElem?_eq_getElem hLi
    simp only [Array.getD_eq_getD_getElem?,this,Option.getD_some] at hun ⊢
    simp [hun]
   rw [hgo,hi]
   simp only
   rw [linearise_go_acc,List.reverse_singleton,List.singleton_append]
   obtain ⟨s2,r2,w2,v',hs,hinv⟩:=zF (X:=⟨Region.linearise.go .any ops fuel (t / (Region.ready .any ops L).length) (L.setIfInBounds i true) [],k,ds,kind,rd,cs⟩) hC U h hlt hun' ho hr
   obtain ⟨L3,s3,r3,w3,tm3,h3,hall,hs3⟩:=ih (t / (Region.ready .any ops L).length) (L.setIfInBounds i true) s2 r2 w2 _ hinv (by have:=Jk hLi hlt hun';omega)
   exact ⟨L3,s3,r3,w3,tm3,h3,hall,hs.trans hs3⟩

theorem yD (hC:WH P C) {n:Nat} (U:Wh P lo C ops n As Hs kd) {kp:Kd} (hkp:PK2 kp) (hcl:∀ i,i < n→YJ kp (kd i)=true→Anc ops n i) (hbe:∀ j,n < j→j < ops.size→Anc ops j n) {o:Oper} (ho:ops[n]? = some o) {v:Value} {H':Hp} (hp:JW P lo C ops o (As n) (Hs n) v H')
  (k:List Item) (ds:List Deferred) (kind:CallKind) (rd:Option Nat) (cs:List Frame):∀ (fuel t:Nat) (L:Array Bool) (s:Nat) (r':Ren) (w':World) (tm:Array Value),
  Inv P lo base ops n As Hs kd r w L s r' w' tm→(∀ j,n≤j→¬ ZY L j)→todo ops L≤fuel→
  ∃ r2 w2 tm2 td v',Zr P lo base r (Hs 0) w r2 H' w2∧VR r2 v v'∧tm2.size=(As 0).n∧(∀ t u,(∀ i,i < n→XU ops i≠some t)→(As 0).T.get t=some u→∃ u',tm2[t]? = some u'∧VR r2 u u')∧
   Steps P (lone (mkF (As 0).fn tm (.inRegion ops (Region.linearise.go .any ops fuel t L []) :: k) ds kind rd) cs w') (lone { mkF (As 0).fn tm2 td ds kind rd with mode:=.panicking [{ v:=v',recovered:=false }] } cs w2):=by
 have hnlt:n < ops.size:=by
  rcases Nat.lt_or_ge n ops.size with q | q
  ·exact q
  ·rw [Array.getElem?_eq_none q] at ho;cases ho
 intro fuel
 induction fuel with
 | zero=>
  intro t L s r' w' tm h hL hf
  exact absurd (Qg (by omega) n hnlt) (hL n (Nat.le_refl _))
 | succ fuel ih=>
  intro t L s r' w' tm h hL hf
  have hgo:Region.linearise.go .any ops (fuel+1) t L []=match (Region.ready .any ops L)[t % (Region.ready .any ops L).length]? with
   | some i=>Region.linearise.go .any ops fuel (t / (Region.ready .any ops L).length) (L.setIfInBounds i true) [i]
   | none=>[]:=by
   simp only [Region.linearise.go]
   rfl
  cases hi:(Region.ready .any ops L)[t % (Region.ready .any ops L).length]? with
  | none=>
   exfalso
   have hnil:Region.ready .any ops L=[]:=by
    cases hr:Region.ready .any ops L with
    | nil=>rfl
    | cons x xs=>
     rw [hr] at hi
     have hlt:t % (x :: xs).length < (x :: xs).length:=Nat.mod_lt _ (by simp)
     rw [List.getElem?_eq_getElem hlt] at hi
     cases hi
   exact hL n (Nat.le_refl _) (Uc U.S h.size hnil n hnlt)
  | some i=>
   have hmem:=List.mem_of_getElem? hi
   obtain ⟨hlt,hun,o',ho',hr⟩:=VQ.1 hmem
   have hLi:i < L.size:=by rw [h.size];exact hlt
   have hun':¬ ZY L i:=by
    unfold ZY
    have:L[i]? = some (L[i]'hLi):=Array.getElem?_eq_getElem hLi
    simp only [Array.getD_eq_getD_getElem?,this,Option.getD_some] at hun ⊢
    simp [hun]
   rw [hgo,hi]
   simp only
   rw [linearise_go_acc,List.reverse_singleton,List.singleton_append]
   by_cases hin:i=n
   ·subst hin
    rw [ho] at ho';cases ho'
    have hTm:=h.reads U.S U.T (Nat.le_refl i) ho hun' hr
    have hsi:=h.sle
    have hnx:=X1 U.A U.T U.lo i (Nat.le_refl _)
    have hsy:∀ b,Wv kd i L b i:=fun b j hj hw=>⟨fun _=>hj,fun _=>h.ready ho hr (hcl j hj (by rcases hkp with rfl | rfl<;>rcases hw with e | e<;>rw [e]<;>rfl))⟩
    have he1:r'.below (Hs i).next=r':=V9 (qn U h)
    have hrel:=yM h hsi (Nat.le_refl i) hsy
    rw [he1] at hrel
    rw [Nat.max_eq_left (by omega),he1] at hTm
    obtain ⟨hw,hcase⟩:=hp
    rw [← YP] at hw
    have hwr:=Xb hTm hw
    have fin:∀ (r3:Ren) (w2:World) (v':Value) (td:List Item),Zr P lo base r' (Hs i) w' r3 H' w2→VR r3 v v'→Steps P (lone (mkF (As 0).fn tm (.inRegion ops (i :: Region.linearise.go .any ops fuel (t / (Region.ready .any ops L).length) (L.setIfInBounds i true) []) :: k) ds kind rd) cs w') (lone { mkF (As 0).fn tm td ds kind rd with mode:=.panicking [{ v:=v',recovered:=false }] } cs w2)→
      ∃ r2 w2 tm2 td v',Zr P lo base r (Hs 0) w r2 H' w2∧VR r2 v v'∧tm2.size=(As 0).n∧(∀ t u,(∀ j,j < i→XU ops j≠some t)→(As 0).T.get t=some u→∃ u',tm2[t]? = some u'∧VR r2 u u')∧
       Steps P (lone (mkF (As 0).fn tm (.inRegion ops (i :: Region.linearise.go .any ops fuel (t / (Region.ready .any ops L).length) (L.setIfInBounds i true) []) :: k) ds kind rd) cs w') (lone { mkF (As 0).fn tm2 td ds kind rd with mode:=.panicking [{ v:=v',recovered:=false }] } cs w2):=by
     intro r3 w2 v' td hpost hv hs
     have hpk:=h.pk.step hpost (Nat.le_refl _) hnx.2 (fun _ _ e=>e) hpost.le (fun _ _ e=>.inr e)
     refine ⟨r3,w2,tm,td,v',⟨hpk.le,hpost.rel,Nat.le_trans hnx.2 hpost.next,hpk.place,hpk.keep,fun c hc=>(hpost.old c hc).trans (Ju U.A U.T U.lo (Nat.le_refl _) c hc),hpk.str⟩,hv,h.tsize,fun t u hno hu=>?_,hs⟩
     obtain ⟨u',e,q⟩:=h.tm t 0 (Nat.zero_le _) (fun j hj=>by omega) (fun j _ hj hd=>absurd hd (hno j hj)) u hu
     exact ⟨u',e,(q.mono (j9 _ _)).mono hpost.le⟩
    rcases hcase with ⟨kk,he,rfl⟩ | ⟨t1,args,kk,lo',he,hlo',hc⟩
    ·have hnd:=Y8 he (fun d=>by simp)
     rw [← WB (ops:=ops)] at he
     obtain ⟨⟨v',hrun,hv⟩,_⟩:=VZ hrel hnx.1 hTm he
     exact fin r' w' v' _ (Zr.refl hrel) hv (Steps.one (z7 ho hwr (.inr hnd) hrun))
    ·have hnd:=Y8 he (fun d=>by simp)
     rw [← WB (ops:=ops)] at he
     obtain ⟨⟨t',args',hrun,ht,ha⟩,_⟩:=VZ hrel hnx.1 hTm he
     have hl1:lo≤lo':=by rcases hlo' with rfl | rfl<;>first | exact Nat.le_refl _ | exact hnx.1
     have hl2:lo'≤(Hs i).next:=by rcases hlo' with rfl | rfl<;>first | exact hnx.1 | exact Nat.le_refl _
     obtain ⟨nx,fr0,hinv,hfo,hrest⟩:=hC _ _ _ _ _ _ hc hl2 r' base w' t' args' hrel ht ha
     obtain ⟨r3,w2,hpost,v',hv,hsteps⟩:=hrest (mkF (As 0).fn tm (.inRegion ops (i :: Region.linearise.go .any ops fuel (t / (Region.ready .any ops L).length) (L.setIfInBounds i true) []) :: k) ds kind rd) cs
     have henter:step P (lone (mkF (As 0).fn tm (.inRegion ops (i :: Region.linearise.go .any ops fuel (t / (Region.ready .any ops L).length) (L.setIfInBounds i true) []) :: k) ds kind rd) cs w')=.next (lone fr0 (mkF (As 0).fn tm (.inRegion ops (i :: Region.linearise.go .any ops fuel (t / (Region.ready .any ops L).length) (L.setIfInBounds i true) []) :: k) ds kind rd :: cs) w'):=by
      rw [hinv] at hrun
      cases nx<;>simp only [XS] at hfo<;>cases hfo
      ·exact Um ho hwr (.inr hnd) hrun
      ·exact UN ho hwr (.inr hnd) hrun
     exact fin r3 w2 v' _ (hpost.lower hl1) hv (Steps.head henter hsteps)
   ·have hiltn:i < n:=by
     rcases Nat.lt_or_ge i n with q | q
     ·exact q
     ·exact absurd (h.ready ho' hr (hbe i (by omega) hlt)) (hL n (Nat.le_refl _))
    obtain ⟨s2,r2,w2,v',hs,hinv⟩:=zF (X:=⟨Region.linearise.go .any ops fuel (t / (Region.ready .any ops L).length) (L.setIfInBounds i true) [],k,ds,kind,rd,cs⟩) hC U h hiltn hun' ho' hr
    obtain ⟨r3,w3,tm3,td,v3,h1,h2,h3,h4,h5⟩:=ih (t / (Region.ready .any ops L).length) (L.setIfInBounds i true) s2 r2 w2 _ hinv (fun j hj=>by
     rw [Yg hLi]
     rintro (q | q)
     ·omega
     ·exact hL j hj q) (by have:=Jk hLi hlt hun';omega)
    exact ⟨r3,w3,tm3,td,v3,h1,h2,h3,h4,hs.trans h5⟩

theorem Jh {n:Nat} (U:Wh P lo C ops n As Hs kd) {tmps:Array Value} {ds:List Deferred} {rd:Option Nat} (hrel:Rel P r base (Hs 0) w) (hF:FrR r (As 0) tmps ds rd) :
  (∀ i,¬ ZY (Array.replicate ops.size false) i)∧Inv P lo base ops n As Hs kd r w (Array.replicate ops.size false) 0 r { w with drawn:=w.drawn+1 } tmps:=by
 have hdom0:∀ b loc,r b=some loc→b < (Hs 0).next:=fun b loc e=>(hrel.dom b loc e).1
 have hnone:∀ i,¬ ZY (Array.replicate ops.size false) i:=fun i=>by
  unfold ZY
  simp only [Array.getD_eq_getD_getElem?,Array.getElem?_replicate]
  split<;>simp
 refine ⟨hnone,?_⟩
 have hT:=U.T
 have hbelow:∀ q,q≤n→r.below (Hs q).next=r:=fun q hq=>V9 fun b loc e=>by
  have:=Z5 U.A U.T U.lo (i:=0) (j:=q) (by omega) hq
  have:=hdom0 b loc e
  omega
 have same:∀ q,q≤n→∀ b,b < (Hs 0).next→Wv kd n (Array.replicate ops.size false) b q→(Hs q).t.get b=(Hs 0).t.get b:=fun q hq b hb hsy=>Uy U (by omega) hq hb fun j h1 h2 hw=>hnone j ((hsy j (by omega) hw).2 h2)
 refine ⟨by simp,fun i o _ hd=>absurd hd (hnone i),by omega,fun j hj=>by omega,fun q h1 h2=>?_,fun b loc e=>.inl (hdom0 b loc e),fun hro b loc e=>?_,fun _ j _ _ hd=>absurd hd (hnone j),hrel.top,hF.T.1,?_,PK.drew _⟩
 ·refine ⟨fun b loc e hb hsy=>?_,fun b loc ob e hb hsy eo=>?_,fun b1 b2 l1 l2 f1 f2 g1 g2 s1 s2 f3 v1 v2=>?_⟩
  ·rw [same q h2 b (hdom0 b loc e) hsy]
   exact (hrel.dom b loc e).2
  ·rw [hbelow q h2]
   rw [same q h2 b (hdom0 b loc e) hsy] at eo
   exact hrel.cont b loc ob e eo
  ·have lv:∀ b loc,r b=some loc→Wv kd n (Array.replicate ops.size false) b q→Wg (Hs q) b→Wg (Hs 0) b:=fun b loc e hsy ⟨ob,y1,y2⟩=>⟨ob,by rw [← same q h2 b (hdom0 b loc e) hsy];exact y1,y2⟩
   exact hrel.inj b1 b2 l1 l2 f1 f2 f3 (lv _ _ f1 s1 v1) (lv _ _ f2 s2 v2)
 ·have hd:=(hrel.dom b loc e).2
  cases hg:(Hs 0).t.get b with
  | none=>rw [hg] at hd;exact .inl hd.2
  | some ob=>
   cases ob with
   | ro cs=>exact .inr ⟨hro b cs (hdom0 b loc e) hg,cs,hg⟩
   | _=>rw [hg] at hd;exact .inl hd.2
 ·intro t m hmle h1 h2 v hv
  have hno:∀ i,i < m→XU ops i≠some t:=fun i hi hd=>hnone i (h1 i hi hd)
  have hback:∀ m,m≤n→(∀ i,i < m→XU ops i≠some t)→(As m).T.get t=(As 0).T.get t:=by
   intro m
   induction m with
   | zero=>intro _ _;rfl
   | succ m ih=>
    intro x y
    obtain ⟨om,vm,hom,_,hpm⟩:=hT.step m (by omega)
    rw [KP hpm,if_neg,ih (by omega) (fun i z=>y i (by omega))]
    have:=y m (by omega)
    simpa [XU,hom] using this
  rw [hback m hmle hno] at hv
  rw [hbelow _ (by omega)]
  exact hF.T.2 t v hv

theorem ZcW (hC:WH P C) (hA:Xo C) (hm:P.follows .mixedOrders=true) {A A':Fr} {H H':Hp} (h:drawn P lo C ops A H=some (A',H')) (hlo:lo≤H.next) {tmps:Array Value} {ds:List Deferred} {rd:Option Nat} (hrel:Rel P r base H w) (hF:FrR r A tmps ds rd)
  (id:Nat) (k:List Item) (kind:CallKind) (cs:List Frame):∃ r' w' tm',Zr P lo base r H w r' H' w'∧FrR r' A' tm' ds rd∧QA A A'∧
   Steps P (lone (mkF A.fn tmps (.code (.region id ops true) :: k) ds kind rd) cs w) (lone (mkF A.fn tm' k ds kind rd) cs w'):=by
 obtain ⟨As,Hs,kd,e1,e2,e3,e4,hT,hS,hcl,hro⟩:=zG h
 subst e1 e2
 have U:Wh P lo C ops ops.size As Hs kd:=⟨hA,hS,hT,hcl,hro,hlo⟩
 obtain ⟨_,hstart⟩:=Jh U hrel hF
 obtain ⟨L2,s2,r2,w2,tm2,hI,hall,hsteps⟩:=yW hC U k ds kind rd cs ops.size (w.tape w.drawn (.order (As 0).fn id)) _ _ _ _ _ hstart (by
  unfold todo;have:=List.countP_le_length (p:=fun i=>!(Array.replicate ops.size false).getD i false) (l:=List.range ops.size);simpa using this)
 have hb2:r2.below (Hs ops.size).next=r2:=V9 (qn U hI)
 have hrel2:=yM hI hI.sle (Nat.le_refl _) fun b j hj _=>⟨fun _=>hj,fun _=>hall j hj⟩
 rw [hb2] at hrel2
 have hfr:=Jt hT ops.size (Nat.le_refl _)
 subst e3 e4
 refine ⟨r2,w2,tm2,⟨hI.pk.le,hrel2,Z5 hA hT hlo (by omega) (by omega),hI.pk.place,hI.pk.keep,Ju hA hT hlo (Nat.le_refl _),hI.pk.str⟩,⟨⟨?_,fun t v hv=>?_⟩,?_,?_⟩,⟨hfr.1,hfr.2.1,hfr.2.2.2⟩,?_⟩
 ·rw [hI.tsize,hfr.2.1]
 ·have:=hI.tm t ops.size (Nat.le_refl _) (fun i hi _=>hall i hi) (fun i x y=>by omega) v hv
  rw [Nat.max_eq_left hI.sle,hb2] at this
  exact this
 ·rw [hfr.2.2.1];exact hF.D.mono hI.pk.le
 ·rw [hfr.2.2.2];exact hF.R.mono hI.pk.le
 ·refine Steps.head KH (Steps.trans ?_ (Steps.one (WK (ops:=ops))))
  simp only [Region.schedule,hm,Bool.true_or,if_true]
  exact hsteps

theorem ZcD (hC:WH P C) (hA:Xo C) (hm:P.follows .mixedOrders=true) {A:Fr} {H H':Hp} {v:Value} (h:JG P lo C ops A H=some (v,H')) (hlo:lo≤H.next) {tmps:Array Value} {ds:List Deferred} {rd:Option Nat} (hrel:Rel P r base H w) (hF:FrR r A tmps ds rd)
  (id:Nat) (k:List Item) (kind:CallKind) (cs:List Frame):∃ r' w' tm' td v',Zr P lo base r H w r' H' w'∧VR r' v v'∧FrR r' (A.drop (zd ops)) tm' ds rd∧
   Steps P (lone (mkF A.fn tmps (.code (.region id ops true) :: k) ds kind rd) cs w) (lone { mkF A.fn tm' td ds kind rd with mode:=.panicking [{ v:=v',recovered:=false }] } cs w'):=by
 obtain ⟨n,As,Hs,kd,o,e1,e2,hT,hS,hcl,hbe,hkn,ho,hp⟩:=J3 h
 subst e1 e2
 have U:Wh P lo C ops n As Hs kd:=⟨hA,hS,hT,fun i j a b c=>hcl i j a (by omega) (Kq c),.inr fun i j a b c=>hcl i j a (by omega) c,hlo⟩
 obtain ⟨hnone,hstart⟩:=Jh U hrel hF
 obtain ⟨r2,w2,tm2,td,v',h1,h2,h3,h4,h5⟩:=yD hC U hkn (fun i hi hc=>hcl i n hi (Nat.le_refl _) hc) hbe ho hp k ds kind rd cs ops.size (w.tape w.drawn (.order (As 0).fn id)) _ _ _ _ _ hstart (fun j _=>hnone j) (by
  unfold todo;have:=List.countP_le_length (p:=fun i=>!(Array.replicate ops.size false).getD i false) (l:=List.range ops.size);simpa using this)
 refine ⟨r2,w2,tm2,td,v',h1,h2,⟨⟨h3,fun t u hu=>?_⟩,hF.D.mono h1.le,hF.R.mono h1.le⟩,?_⟩
 ·simp only [Fr.drop,zJ] at hu
  by_cases hd:t∈zd ops
  ·rw [if_pos hd] at hu;cases hu
  ·rw [if_neg hd] at hu
   refine h4 t u (fun i _ hi=>hd ?_) hu
   unfold XU at hi
   cases hoi:ops[i]? with
   | none=>rw [hoi] at hi;cases hi
   | some oi=>
    rw [hoi] at hi
    unfold zd
    exact List.mem_filterMap.2 ⟨oi,by have:=Array.mem_of_getElem? hoi;simpa using this,hi⟩
 ·refine Steps.head KH ?_
  simp only [Region.schedule,hm,Bool.true_or,if_true]
  exact h5
end
end Go.Ax

namespace Go.Ax
open Go Go.RowKit

/-! ### What a piece of code leaves of the heap,without a machine -/
def Old (lo:Nat) (H H':Hp):Prop:=H.next≤H'.next∧∀ b,b < lo→H'.t.get b=H.t.get b
theorem Old.refl (lo:Nat) (H:Hp):Old lo H H:=⟨Nat.le_refl _,fun _ _=>rfl⟩
theorem Old.trans {lo:Nat} {a b c:Hp} (h:Old lo a b) (k:Old lo b c):Old lo a c:=⟨Nat.le_trans h.1 k.1,fun x hx=>(k.2 x hx).trans (h.2 x hx)⟩
theorem Chg.old {lo:Nat} {H H':Hp} {k:Kd} (h:Chg lo H H' k) (hlo:lo≤H.next):Old lo H H':=⟨h.next,h.low hlo⟩
theorem Old.set {lo:Nat} (H:Hp) {b:Nat} (hb:lo≤b) (o:Ob):Old lo H { H with t:=H.t.set b o }:=⟨Nat.le_refl _,fun x hx=>by simp only [Tr.get_set];rw [if_neg (by omega)]⟩
theorem Old.new {lo:Nat} (H:Hp) (hlo:lo≤H.next) (o:Ob):Old lo H (H.new o):=⟨Nat.le_succ _,fun x hx=>by simp only [Hp.new,Tr.get_set];rw [if_neg (by omega)]⟩

section
variable {P:Program} {lo:Nat} {C:CallF}
theorem qL {A:Fr} {H:Hp} {o:Oper} {rs:Rs} {k:Kd} (h:aOp P lo A H o=some (rs,k)) (hlo:lo≤H.next):(∀ v H',rs=.val v H'→Old lo H H')∧∀ H',rs=.skip H'→Old lo H H':=by
 unfold aOp at h
 cases hp:Zo P A o with
 | some u=>
  rw [hp] at h;cases h
  exact ⟨fun v H' e=>(by cases e;exact .refl _ _),fun H' e=>(by cases e)⟩
 | none=>
  rw [hp] at h
  rcases W6 h with ⟨v',H'',e,q⟩ | ⟨H'',e,q,_⟩ | ⟨d,e⟩ | e | ⟨t,vs,e⟩ | ⟨u,e⟩<;>subst e
  ·exact ⟨fun v H' e=>(by cases e;exact q.old hlo),fun H' e=>(by cases e)⟩
  ·exact ⟨fun v H' e=>(by cases e),fun H' e=>(by cases e;exact q.old hlo)⟩
  ·exact ⟨fun v H' e=>(by cases e),fun H' e=>(by cases e)⟩
  ·exact ⟨fun v H' e=>(by cases e),fun H' e=>(by cases e)⟩
  ·exact ⟨fun v H' e=>(by cases e),fun H' e=>(by cases e)⟩
  ·exact ⟨fun v H' e=>(by cases e),fun H' e=>(by cases e)⟩

theorem Y6 (hA:Xo C) {ops:Array Oper}:∀ (l:List Nat) (A:Fr) (H:Hp) (p:Par) (e:Exit) (A':Fr) (H':Hp) (p':Par),ZX P lo C ops l A H p=some (e,A',H',p')→lo≤H.next→Old lo H H'
 | [],A,H,p,e,A',H',p',h,_=>by simp only [ZX] at h;cases h;exact .refl _ _
 | i :: l,A,H,p,e,A',H',p',h,hlo=>by
  simp only [ZX] at h
  split at h<;>first | (cases h;done) | skip
  split at h<;>first | (cases h;done) | skip
  ·split at h<;>first | (cases h;done) | skip
   exact Y6 hA l _ _ _ _ _ _ _ h hlo
  ·split at h<;>first | (cases h;done) | skip
   ·rename_i hop
    split at h<;>first | (cases h;done) | skip
    have q:=(qL hop hlo).1 _ _ rfl
    exact q.trans (Y6 hA l _ _ _ _ _ _ _ h (Nat.le_trans hlo q.1))
   ·rename_i hop
    split at h<;>first | (cases h;done) | skip
    have q:=(qL hop hlo).2 _ rfl
    exact q.trans (Y6 hA l _ _ _ _ _ _ _ h (Nat.le_trans hlo q.1))
   ·split at h<;>first | (cases h;done) | skip
    split at h<;>first | (cases h;done) | skip
    exact Y6 hA l _ _ _ _ _ _ _ h hlo
   ·split at h<;>first | (cases h;done) | skip
    split at h<;>first | (cases h;done) | skip
    ·split at h<;>first | (cases h;done) | skip
     exact Y6 hA l _ _ _ _ _ _ _ h hlo
    ·split at h<;>first | (cases h;done) | skip
     exact Y6 hA l _ _ _ _ _ _ _ h hlo
   ·cases h;exact .refl _ _
   ·split at h<;>first | (cases h;done) | skip
    ·rename_i hc
     split at h<;>first | (cases h;done) | skip
     have q:Old lo _ _:=hA _ _ _ _ _ _ hc hlo
     exact q.trans (Y6 hA l _ _ _ _ _ _ _ h (Nat.le_trans hlo q.1))
    ·rename_i hc
     cases h
     exact hA _ _ _ _ _ _ hc hlo

theorem jl (hA:Xo C) {ops:Array Oper} {A A':Fr} {H H':Hp} (h:drawn P lo C ops A H=some (A',H')) (hlo:lo≤H.next):Old lo H H':=by
 obtain ⟨As,Hs,kd,e1,e2,e3,e4,hT,hS,hcl⟩:=zG h
 subst e1 e2 e3 e4
 exact ⟨Z5 hA hT hlo (by omega) (by omega),Ju hA hT hlo (Nat.le_refl _)⟩

theorem yP (hA:Xo C) {ops:Array Oper} {A:Fr} {H H':Hp} {v:Value} (h:JG P lo C ops A H=some (v,H')) (hlo:lo≤H.next):Old lo H H':=by
 obtain ⟨n,As,Hs,kd,o,e1,e2,hT,hS,hcl,hbe,hkn,ho,hp⟩:=J3 h
 subst e1 e2
 have q:Old lo (Hs 0) (Hs n):=⟨Z5 hA hT hlo (by omega) (by omega),Ju hA hT hlo (Nat.le_refl _)⟩
 obtain ⟨_,hcase⟩:=hp
 rcases hcase with ⟨_,_,rfl⟩ | ⟨_,_,_,lo',_,hlo',hc⟩
 ·exact q
 ·have hl1:lo≤lo':=by rcases hlo' with rfl | rfl<;>first | exact Nat.le_refl _ | exact Nat.le_trans hlo q.1
  have hl2:lo'≤(Hs n).next:=by rcases hlo' with rfl | rfl<;>first | exact Nat.le_trans hlo q.1 | exact Nat.le_refl _
  have q2:=hA _ _ _ _ _ _ hc hl2
  exact q.trans ⟨q2.1,fun b hb=>q2.2 b (Nat.lt_of_lt_of_le hb hl1)⟩

theorem Yo (hA:Xo C):∀ (f:Nat) (c:Code) (A:Fr) (H:Hp) (p:Par) (e:Exit) (A':Fr) (H':Hp) (p':Par),Zj P lo C f c A H p=some (e,A',H',p')→lo≤H.next→Old lo H H'
 | 0,_,_,_,_,_,_,_,_,h,_=>by simp [Zj] at h
 | f+1,c,A,H,p,e,A',H',p',h,hlo=>by
  cases c with
  | skip=>simp only [Zj] at h;cases h;exact .refl _ _
  | label l=>simp only [Zj] at h;cases h;exact .refl _ _
  | exit id=>simp only [Zj] at h;cases h;exact .refl _ _
  | ret=>simp only [Zj] at h;cases h;exact .refl _ _
  | seq x y=>
   simp only [Zj] at h
   cases hx:Zj P lo C f x A H p with
   | none=>rw [hx] at h;simp at h
   | some q=>
    obtain ⟨e1,A1,H1,p1⟩:=q
    have q:=Yo hA f x A H p _ _ _ _ hx hlo
    rw [hx] at h
    cases e1<;>simp only at h<;>first | (cases h;exact q) | exact q.trans (Yo hA f y _ _ _ _ _ _ _ h (Nat.le_trans hlo q.1))
  | cond o x y=>
   simp only [Zj] at h
   split at h<;>first | (cases h;done) | skip
   ·exact Yo hA f x _ _ _ _ _ _ _ h hlo
   ·exact Yo hA f y _ _ _ _ _ _ _ h hlo
  | block id b=>
   simp only [Zj] at h
   cases hx:Zj P lo C f b A H p with
   | none=>rw [hx] at h;simp at h
   | some q=>
    obtain ⟨e1,A1,H1,p1⟩:=q
    have q:=Yo hA f b A H p _ _ _ _ hx hlo
    rw [hx] at h
    cases e1<;>simp only at h<;>first | (cases h;exact q) | skip
    rename_i j
    cases hj:Nat.beq j id<;>rw [hj] at h<;>simp only [cond_true,cond_false] at h<;>cases h<;>exact q
  | loop b=>
   simp only [Zj] at h
   cases hx:Zj P lo C f b A H p with
   | none=>rw [hx] at h;simp at h
   | some q=>
    obtain ⟨e1,A1,H1,p1⟩:=q
    have q:=Yo hA f b A H p _ _ _ _ hx hlo
    rw [hx] at h
    cases e1<;>simp only at h<;>first | (cases h;exact q) | exact q.trans (Yo hA f (.loop b) _ _ _ _ _ _ _ h (Nat.le_trans hlo q.1))
  | region id ops draw=>
   simp only [Zj] at h
   cases draw with
   | true=>
    simp only [cond_true] at h
    split at h
    ·rename_i hd
     cases h
     exact jl hA hd hlo
    ·split at h<;>first | (cases h;done) | skip
     rename_i hd
     cases h
     exact yP hA hd hlo
   | false=>
    simp only [cond_false] at h
    exact Y6 hA _ _ _ _ _ _ _ _ h hlo
  | rangeFunc fo params asg body=>
   simp only [Zj] at h
   split at h<;>first | (cases h;done) | skip
   have q0:Old lo H ((H.new (.dfr (some []))).new (.lp .ready none A.fn A.n A.T params.toList asg body H.next)):=(Old.new H hlo _).trans (Old.new _ (by simp only [Hp.new];omega) _)
   split at h<;>first | (cases h;done) | skip
   ·rename_i hc
    cases h
    exact q0.trans (hA _ _ _ _ _ _ hc (Nat.le_trans hlo q0.1))
   ·rename_i hc
    have q1:Old lo _ _:=hA _ _ _ _ _ _ hc (Nat.le_trans hlo q0.1)
    split at h<;>first | (cases h;done) | skip
    have q2:∀ H'' o,Old lo H'' { H'' with t:=H''.t.set (H.next+1) o }:=fun H'' o=>Old.set H'' (by omega) o
    split at h<;>first | (cases h;done) | skip
    split at h<;>first | (cases h;done) | skip
    all_goals
     cases h
     exact (q0.trans q1).trans (q2 _ _)
  | scope b=>
   simp only [Zj] at h
   exact Yo hA f b _ _ _ _ _ _ _ h hlo
  | goto l=>simp [Zj] at h
  | refuse s=>simp [Zj] at h

def ZaK (lo:Nat) (D:Target→List Value→Hp→Par→Option (En × Hp × Par)):Prop:=∀ t args H p e H' p',D t args H p=some (e,H',p')→lo≤H.next→Old lo H H'
theorem Uf {D:Target→List Value→Hp→Par→Option (En × Hp × Par)} (hD:ZaK lo D) {fn:Func}:∀ (f:Nat) (A:Fr) (H:Hp) (m:Par) (e:En) (H':Hp),Z9 P lo D fn f A H m=some (e,H')→lo≤H.next→Old lo H H'
 | 0,_,_,_,_,_,h,_=>by simp [Z9] at h
 | f+1,A,H,m,e,H',h,hlo=>by
  simp only [Z9] at h
  split at h
  ·split at h<;>first | (cases h;done) | skip
   ·cases h;exact .refl _ _
   ·split at h<;>first | (cases h;done) | skip
    ·cases h;exact .refl _ _
    ·cases h;exact .refl _ _
  ·split at h
   ·split at h<;>first | (cases h;done) | skip
    obtain ⟨hb,h⟩:=Zc h
    have hb:=Nat.le_of_ble_eq_true hb
    exact (Old.set H hb _).trans (Uf hD f _ _ _ _ _ h hlo)
   ·split at h<;>first | (cases h;done) | skip
    rename_i hd
    have q:=hD _ _ _ _ _ _ _ hd hlo
    exact q.trans (Uf hD f _ _ _ _ _ h (Nat.le_trans hlo q.1))
   ·cases h

theorem VC (hA:Xo C) {D:Target→List Value→Hp→Par→Option (En × Hp × Par)} (hD:ZaK lo D) {m:Nat} {f:FuncId} {args:List Value} {H:Hp} {p:Par} {e:En} {H':Hp} {p':Par} (h:Xg P lo C D m f args H p=some (e,H',p')) (hlo:lo≤H.next):Old lo H H':=by
 unfold Xg at h
 split at h<;>first | (cases h;done) | skip
 split at h<;>first | (cases h;done) | skip
 obtain ⟨_,h⟩:=Zc h
 split at h<;>first | (cases h;done) | skip
 all_goals
  rename_i hc
  have q:=Yo hA _ _ _ _ _ _ _ _ _ hc hlo
  split at h<;>first | (cases h;done) | skip
  rename_i hu
  cases h
  exact q.trans (Uf hD _ _ _ _ _ _ hu (Nat.le_trans hlo q.1))

noncomputable def Yh (P:Program) (kn:Kn) (m n:Nat):CallF:=fun lo t args H=>match UE kn t args with
 | some b=>some (.ret (.bool b),H)
 | none=>match UA kn lo t args H with
  | some (v,H')=>some (.ret v,H')
  | none=>match Yi P kn m n lo t args H none with | some (e,H',_)=>some (e,H') | none=>none
theorem QQ {kn:Kn} {lo:Nat} {t:Target} {args:List Value} {H:Hp} {v:Value} {H':Hp} (h:UA kn lo t args H=some (v,H')):∃ f cap,t=.fn (.func f) cap∧XK f=true∧kn.s f lo (args ++ cap.toList) H=some (v,H')∧ZcR lo H H':=by
 unfold UA at h
 split at h<;>first | (cases h;done) | skip
 rename_i f cap
 obtain ⟨hs,h⟩:=Zc h
 split at h<;>first | (cases h;done) | skip
 rename_i hk
 split at h<;>first | (cases h;done) | skip
 rename_i ho
 cases h
 exact ⟨f,cap,rfl,hs,hk,ho⟩
theorem V1 {kn:Kn} {m n lo:Nat} {t:Target} {args:List Value} {H:Hp} {e:En} {H':Hp} (h:Yh P kn m n lo t args H=some (e,H')) :
  (∃ b,UE kn t args=some b∧e=.ret (.bool b)∧H'=H)∨(∃ v,UA kn lo t args H=some (v,H')∧e=.ret v)∨∃ p',Yi P kn m n lo t args H none=some (e,H',p'):=by
 unfold Yh at h
 cases hk:UE kn t args with
 | some b=>
  rw [hk] at h
  simp only at h
  cases h
  exact .inl ⟨b,rfl,rfl,rfl⟩
 | none=>
  rw [hk] at h
  simp only at h
  split at h
  ·rename_i hs
   cases h
   exact .inr (.inl ⟨_,hs,rfl⟩)
  ·split at h<;>first | (cases h;done) | skip
   rename_i he
   cases h
   exact .inr (.inr ⟨_,he⟩)

theorem WY (P:Program) (kn:Kn) (m:Nat):∀ (n:Nat),(∀ lo,ZaK lo fun t args H p=>Yi P kn m n lo t args H p)∧Xo (Yh P kn m n):=by
 intro n
 have step:∀ n,(∀ lo,ZaK lo fun t args H p=>Yi P kn m n lo t args H p)→Xo (Yh P kn m n):=by
  intro n hD lo t args H e H' h hlo
  rcases V1 h with ⟨b,_,_,rfl⟩ | ⟨v,hs,_⟩ | ⟨p',he⟩
  ·exact Old.refl _ _
  ·obtain ⟨_,_,_,_,_,ho⟩:=QQ hs
   exact ho
  ·exact hD lo _ _ _ _ _ _ _ he hlo
 suffices hD:∀ lo,ZaK lo fun t args H p=>Yi P kn m n lo t args H p from ⟨hD,step n hD⟩
 induction n with
 | zero=>intro lo t args H p e H' p' h;simp [Yi] at h
 | succ n ih=>
  have hA:Xo (Yh P kn m n):=step n ih
  intro lo t args H p e H' p' h hlo
  simp only [Yi] at h
  split at h
  ·exact VC hA (ih lo) h hlo
  ·split at h<;>first | (cases h;done) | skip
   split at h<;>first | (cases h;done) | skip
   exact VC hA (ih lo) h hlo
  ·split at h<;>first | (cases h;done) | skip
   split at h<;>first | (cases h;done) | skip
   exact VC hA (ih lo) h hlo
  ·split at h<;>first | (cases h;done) | skip
   split at h<;>first | (cases h;done) | skip
   obtain ⟨hb,h⟩:=Zc h
   have hb:=Nat.le_of_ble_eq_true hb
   obtain ⟨_,h⟩:=Zc h
   split at h<;>first | (cases h;done) | skip
   rename_i h1
   have q1:=Yo hA _ _ _ _ _ _ _ _ _ h1 hlo
   split at h<;>first | (cases h;done) | skip
   split at h<;>first | (cases h;done) | skip
   rename_i h2
   have q2:=Yo hA _ _ _ _ _ _ _ _ _ h2 (Nat.le_trans hlo q1.1)
   have q3:=(q1.trans (Old.set _ hb _)).trans q2
   split at h<;>first | (cases h;done) | skip
   split at h<;>first | (cases h;done) | skip
   ·cases h;exact q3.trans (Old.set _ hb _)
   ·cases h;exact q3.trans (Old.set _ hb _)
   ·cases h;exact q3.trans (Old.set _ hb _)
   ·cases h;exact q3
  ·cases h
end
end Go.Ax

namespace Go.Ax
open Go Go.RowKit

section
variable {P:Program} {fn:FuncId} {tmps:Array Value} {k:List Item} {ds:List Deferred} {kind:CallKind} {rd:Option Nat} {cs:List Frame} {w:World}
theorem UR {g:Operand} {ps:Array Tmp} {asg body:Code} {l:Nat} {mark:List Deferred} {w₁:World} {d:Deferred} {nx:Next} {fr0:Frame}
  (he:(Instr.enterLoop fn tmps ps asg body rd).run P w=.ok (l,mark) w₁) (hres:(resolve (evT tmps) (rangeCall g l) 0).run P w₁=.ok d w₁)
  (hinv:(invoke d.target d.args).run P w₁=.ok nx w₁) (hfo:XS P .normal nx=some fr0) :
  step P (lone (mkF fn tmps (.code (.rangeFunc g ps asg body) :: k) ds kind rd) cs w)=.next (lone fr0 (mkF fn tmps (.inRangeFunc l :: k) (mark ++ ds) kind rd :: cs) w₁):=
 step_lone_go (by
  have hev:=yB (mkF fn tmps (.inRangeFunc l :: k) (mark ++ ds) kind rd)
  simp only [mkF] at hev
  have hres':Sem.run P (resolve (evT tmps) { callee:=.value g,args:=#[.const (.func (.yield l) #[] #[])],argTypes:=#[] } 0) w₁=.ok d w₁:=hres
  cases nx<;>simp only [XS] at hfo<;>cases hfo<;>
   simp [stepG,stepG.exec,mkF,Sem.runT_eq,he,GStep.bare_after,stepG.apply,hev,Sem.run_bind,hres',hinv,Result.andThen])
theorem Vh {l:Nat} {jump:Option Code} {w':World} (h:(Instr.endLoop l).run P w=.ok jump w') :
  step P (lone (mkF fn tmps (.endRangeFunc l :: k) ds kind rd) cs w)=.next (lone (mkF fn tmps ((jump.map Item.code).toList ++ k) ds kind rd) cs w'):=
 step_lone_go (by simp [stepG,stepG.exec,mkF,Sem.runT_eq,h,GStep.bare_after])
theorem Ut {l:Nat} {v:Value}:(mkF fn tmps (.inRangeFunc l :: k) ds kind rd).finish v=mkF fn tmps (.endRangeFunc l :: k) ds kind rd:=by simp [Frame.finish,mkF]
end

section
variable {P:Program} {lo base:Nat} {C:CallF} {kind:CallKind} {rd:Option Nat} {K:Par→List Frame}
theorem ZN.left {r:Ren} {H:Hp} {w:World} {M:Machine} {k k1:List Item} {A A':Fr} {e:Exit} {H':Hp} {p':Par} (hx:∀ id,e=.exit id→exitTo id k1=exitTo id k) (he:e≠.normal)
  (h:ZN P lo base r H w M kind rd K k1 A e A' H' p'):ZN P lo base r H w M kind rd K k A e A' H' p':=by
 obtain ⟨r',w',tmps',ds',pc',h1,h2,h3,h4,h5,h6⟩:=h
 refine ⟨r',w',tmps',ds',pc',h1,h2,h3,h4,?_,h6⟩
 unfold Arr at h5 ⊢
 split at h5
 ·exact absurd rfl he
 ·obtain ⟨kx,a,b⟩:=h5;exact ⟨kx,a.trans (hx _ rfl),b⟩
 ·exact h5
 ·exact h5
 ·exact h5.elim
theorem ZN.next {r:Ren} {H H1:Hp} {w:World} {M:Machine} {k k1:List Item} {A A1 A':Fr} {e:Exit} {H':Hp} {p1 p':Par} (hlo:lo≤H.next) (h:ZN P lo base r H w M kind rd K k1 A .normal A1 H1 p1)
  (g:∀ r1 w1 tmps1 ds1 pc1,Rel P r1 base H1 w1→FrR r1 A1 tmps1 ds1 rd→WL r1 p1 pc1→(kind=.normal→p1=none)→lo≤H1.next→
   ZN P lo base r1 H1 w1 (lone (mkF A1.fn tmps1 k1 ds1 kind rd) (K pc1) w1) kind rd K k A1 e A' H' p'):ZN P lo base r H w M kind rd K k A e A' H' p':=by
 obtain ⟨r',w',tmps',ds',pc',h1,h2,h3,h4,h5,h6⟩:=h
 have:=g r' w' tmps' ds' pc' h1.rel h2 h4 h6 (Nat.le_trans hlo h1.next)
 rw [h3.fn] at this
 exact ZN.of_steps h5 (ZN.after hlo h1 h3 this)

theorem Zbo (hC:WH P C) {f:Nat} {fo:Operand} {params:Array Tmp} {asg body:Code} {k:List Item} {r:Ren} {w:World} {H:Hp} {A:Fr} {tmps:Array Value} {ds:List Deferred} {p pc:Par} {e:Exit} {A':Fr} {H':Hp} {p':Par}
  (h:Zj P lo C (f+1) (.rangeFunc fo params asg body) A H p=some (e,A',H',p')) (hlo:lo≤H.next) (hrel:Rel P r base H w) (hF:FrR r A tmps ds rd) (hp:WL r p pc) (hn:kind=.normal→p=none) :
  ZN P lo base r H w (lone (mkF A.fn tmps (.code (.rangeFunc fo params asg body) :: k) ds kind rd) (K pc) w) kind rd K k A e A' H' p':=by
 simp only [Zj] at h
 cases hrd:A.round with
 | some l=>simp [hrd] at h
 | none=>
  have hrd':rd=none:=by have:=hF.R;rw [hrd] at this;exact this
  subst hrd'
  cases hev:ev A fo with
  | none=>simp [hrd,hev] at h
  | some v=>
   have kv:=evR hF.T hev
   simp only [hrd,hev] at h
   split at h<;>first | (cases h;done) | skip
   rename_i fn first cap _ heq
   cases heq
   generalize hg:evT tmps fo=u at kv
   cases kv with
   | func kfn s1 k1 s2 k2=>
    rename_i fn' A2 B2
    have post1:Zr P lo base r H w (r.add H.next ⟨w.heap.size,0,none⟩) (H.new (.dfr (some []))) (w.alloc (.deferred (some []))):=
     Zr.fresh hrel hlo (x:=.deferred (some [])) rfl ⟨rfl,rfl,rfl⟩ ⟨[],rfl,.nil⟩
    have e0:(r.add H.next ⟨w.heap.size,0,none⟩) H.next=some ⟨w.heap.size,0,none⟩:=Ren.add_same _ _ _
    have hlo1:lo≤(H.new (.dfr (some []))).next:=Nat.le_trans hlo (Nat.le_succ _)
    generalize hr1:r.add H.next ⟨w.heap.size,0,none⟩=r1 at post1 e0
    have hn1:=post1.rel.none_next
    have hle2:=Ren.le_add (⟨(w.alloc (.deferred (some []))).heap.size,0,none⟩:Loc) hn1
    have post2:=Zr.fresh post1.rel hlo1 (o:=.lp .ready none A.fn A.n A.T params.toList asg body H.next)
     (x:=.loop { state:=.ready,pending:=none,fn:=A.fn,tmps,params,assign:=asg,body,defers:=w.heap.size }) (lz:=none)
     (w':=(w.alloc (.deferred (some []))).alloc (.loop { state:=.ready,pending:=none,fn:=A.fn,tmps,params,assign:=asg,body,defers:=w.heap.size })) rfl ⟨rfl,rfl,rfl⟩
     ⟨_,rfl,rfl,rfl,rfl,(hF.T.mono post1.le).mono hle2,rfl,rfl,rfl,_,hle2 _ _ e0,rfl⟩
    have e1:(r1.add (H.new (.dfr (some []))).next ⟨(w.alloc (.deferred (some []))).heap.size,0,none⟩) (H.next+1)=some ⟨w.heap.size+1,0,none⟩:=by
     have:=Ren.add_same r1 (H.new (.dfr (some []))).next ⟨(w.alloc (.deferred (some []))).heap.size,0,none⟩
     rw [World.size_alloc] at this ⊢
     exact this
    have e00:=hle2 _ _ e0
    have post:=post1.trans hlo post2
    clear post2 hle2
    generalize hr2:r1.add (H.new (.dfr (some []))).next ⟨(w.alloc (.deferred (some []))).heap.size,0,none⟩=r2 at post e1 e00
    generalize hH2:(H.new (.dfr (some []))).new (.lp .ready none A.fn A.n A.T params.toList asg body H.next)=H2 at post h
    generalize hw2:(w.alloc (.deferred (some []))).alloc (.loop { state:=.ready,pending:=none,fn:=A.fn,tmps,params,assign:=asg,body,defers:=w.heap.size })=w2 at post
    have henter:=run_enterLoop_outer (P:=P) (w:=w) A.fn tmps params asg body
    rw [hw2] at henter
    have hargs:LR r2 (first.toList ++ [.func (.yield (H.next+1)) #[] #[]]) (A2 ++ #[Value.func (.yield (w.heap.size+1)) #[] #[]]).toList:=by
     have a:=(YG.2 ⟨s1,k1⟩).mono post.le
     have b:LR r2 [.func (.yield (H.next+1)) #[] #[]] [.func (.yield (w.heap.size+1)) #[] #[]]:=
      LR.cons (.func (.yield e1) rfl (fun i v v' q=>by simp at q) rfl (fun i v v' q=>by simp at q)) LR.nil
     have:=LR.append a b
     simpa using this
    have hres:(resolve (evT tmps) (rangeCall fo (w.heap.size+1)) 0).run P w2=.ok { target:=.fn fn' B2,args:=A2 ++ #[Value.func (.yield (w.heap.size+1)) #[] #[]] } w2:=by
     have hcst:∀ c,evT tmps (.const c)=c:=fun _=>rfl
     simp [resolve,Deferred.ofValue,hg,hcst]
    cases hc:C lo (.fn fn cap) (first.toList ++ [.func (.yield (H.next+1)) #[] #[]]) H2 with
    | none=>simp [hc] at h
    | some q=>
     obtain ⟨en,H3⟩:=q
     have hlo2:lo≤H2.next:=Nat.le_trans hlo post.next
     obtain ⟨nx,fr0,hi,hfo,hrest⟩:=hC lo _ _ H2 en H3 hc hlo2 r2 base w2 (.fn fn' B2) _ post.rel ⟨_,_,rfl,kfn.mono post.le,(YG.2 ⟨s2,k2⟩).mono post.le⟩ hargs
     obtain ⟨r3,w3,post3,hend⟩:=hrest (mkF A.fn tmps (.inRangeFunc (w.heap.size+1) :: k) ([{ target:=.collected w.heap.size,args:=#[] }] ++ ds) kind none) (K pc)
     have hstep:=UR (k:=k) (ds:=ds) (kind:=kind) (cs:=K pc) henter hres hi hfo
     have pp:=post.trans hlo post3
     have hF1:FrR r3 ({ fn:=A.fn,n:=A.n,T:=A.T,defers:={ target:=.collected H.next,args:=#[] } :: A.defers,round:=none }:Fr) tmps ([{ target:=.collected w.heap.size,args:=#[] }] ++ ds) none:=by
      have:=hF.mono pp.le
      refine ⟨this.T,?_,rfl⟩
      exact DsR.cons ⟨⟨_,post3.le _ _ e00,rfl⟩,LR.nil⟩ this.D
     simp only [hc] at h
     cases en with
     | pan v=>
      obtain ⟨v',hv,hsteps⟩:=hend
      simp only at h
      cases h
      exact ⟨r3,w3,tmps,_,pc,pp,hF1,⟨rfl,rfl,hrd.symm⟩,hp.mono pp.le,⟨_,v',hv,Steps.head hstep hsteps⟩,hn⟩
     | ret v=>
      obtain ⟨v',hv,hsteps⟩:=hend
      simp only at h
      split at h<;>first | (cases h;done) | skip
      rename_i st pe a b c d e' g h' hget
      have hl3:r3 (H.next+1)=some ⟨w.heap.size+1,0,none⟩:=post3.le _ _ e1
      obtain ⟨R,c1,c2,c3,c4,c5,c6,c7,c8,l9,c9,c10⟩:=post3.rel.cont _ _ _ hl3 hget
      have hst:st≠.busy:=by rintro rfl;simp at h
      have hend':(Instr.endLoop (w.heap.size+1)).run P w3=.ok pe (w3.putObj (w.heap.size+1) (.loop { R with state:=.exhausted })):=by
       rw [run_endLoop c1 (by rw [c2];exact hst),c3]
      have hlt:w.heap.size+1 < w3.heap.size:=(post3.rel.at hl3 hget rfl).2
      have post4:=Zr.change (lo:=lo) post3.rel hl3 ⟨_,hget,by simp,rfl⟩ (by omega) (o:=.lp .exhausted pe a b c d e' g h') (w':=w3.putObj (w.heap.size+1) (.loop { R with state:=.exhausted })) (World.putObj_size) (fun k hk=>World.putObj_heap_other hk) ⟨rfl,rfl,rfl⟩
       ⟨{ R with state:=.exhausted },World.putObj_heap_same hlt,rfl,c3,c4,c5,c6,c7,c8,l9,c9,c10⟩
      have pq:=pp.trans hlo post4
      rw [Ut] at hsteps
      have hall:=(Steps.head hstep hsteps).trans (Steps.one (Vh (k:=k) hend'))
      split at h
      ·exact absurd rfl hst
      split at h<;>first | (cases h;done) | skip
      all_goals
       cases h
       exact ⟨r3,_,tmps,_,pc,pq,hF1,⟨rfl,rfl,hrd.symm⟩,hp.mono pp.le,by first | exact hall | exact ⟨_,rfl,hall⟩ | exact ⟨_,hall⟩,hn⟩
end
end Go.Ax

namespace Go.Ax
open Go Go.RowKit
section
variable {P:Program} {lo base:Nat} {C:CallF} {kind:CallKind} {rd:Option Nat} {K:Par→List Frame}

theorem KM (hC:WH P C) (hA:Xo C) (hm:P.follows .mixedOrders=true) (hK:KOK kind K):∀ (f:Nat),
  (∀ (c:Code) (k:List Item) (r:Ren) (w:World) (H:Hp) (A:Fr) (tmps:Array Value) (ds:List Deferred) (p pc:Par) (e:Exit) (A':Fr) (H':Hp) (p':Par),
   Zj P lo C f c A H p=some (e,A',H',p')→lo≤H.next→Rel P r base H w→FrR r A tmps ds rd→WL r p pc→(kind=.normal→p=none)→
   ZN P lo base r H w (lone (mkF A.fn tmps (.code c :: k) ds kind rd) (K pc) w) kind rd K k A e A' H' p')∧
  (∀ (b:Code) (k:List Item) (r:Ren) (w:World) (H:Hp) (A:Fr) (tmps:Array Value) (ds:List Deferred) (p pc:Par) (e:Exit) (A':Fr) (H':Hp) (p':Par),
   Zj P lo C f (.loop b) A H p=some (e,A',H',p')→lo≤H.next→Rel P r base H w→FrR r A tmps ds rd→WL r p pc→(kind=.normal→p=none)→
   ZN P lo base r H w (lone (mkF A.fn tmps (.inLoop b :: k) ds kind rd) (K pc) w) kind rd K k A e A' H' p'):=by
 intro f
 induction f with
 | zero=>
  exact ⟨fun c k r w H A tmps ds p pc e A' H' p' h=>by simp [Zj] at h,fun b k r w H A tmps ds p pc e A' H' p' h=>by simp [Zj] at h⟩
 | succ f ih=>
  have loopc:∀ (b:Code) (k:List Item) (r:Ren) (w:World) (H:Hp) (A:Fr) (tmps:Array Value) (ds:List Deferred) (p pc:Par) (e:Exit) (A':Fr) (H':Hp) (p':Par),
    Zj P lo C (f+1) (.loop b) A H p=some (e,A',H',p')→lo≤H.next→Rel P r base H w→FrR r A tmps ds rd→WL r p pc→(kind=.normal→p=none)→
    ZN P lo base r H w (lone (mkF A.fn tmps (.code b :: .inLoop b :: k) ds kind rd) (K pc) w) kind rd K k A e A' H' p':=by
   intro b k r w H A tmps ds p pc e A' H' p' h hlo hrel hF hp hn
   simp only [Zj] at h
   cases hx:Zj P lo C f b A H p with
   | none=>rw [hx] at h;simp at h
   | some q=>
    obtain ⟨e1,A1,H1,p1⟩:=q
    have q:=ih.1 b (.inLoop b :: k) r w H A tmps ds p pc _ _ _ _ hx hlo hrel hF hp hn
    rw [hx] at h
    cases e1 with
    | normal=>
     simp only at h
     exact q.next hlo fun r1 w1 tm1 ds1 pc1 a b' c d e=>ih.2 b k r1 w1 _ _ tm1 ds1 _ pc1 _ _ _ _ h e a b' c d
    | _=>
     simp only at h
     cases h
     exact q.left (fun id _=>by simp [exitTo]) (by simp)
  refine ⟨?_,fun b k r w H A tmps ds p pc e A' H' p' h hlo hrel hF hp hn=>ZN.of_steps (Steps.one KA) (loopc b k r w H A tmps ds p pc e A' H' p' h hlo hrel hF hp hn)⟩
  intro c k r w H A tmps ds p pc e A' H' p' h hlo hrel hF hp hn
  cases c with
  | skip=>simp only [Zj] at h;cases h;exact ⟨r,w,tmps,ds,pc,Zr.refl hrel,hF,.refl _,hp,Steps.one qx,hn⟩
  | label l=>simp only [Zj] at h;cases h;exact ⟨r,w,tmps,ds,pc,Zr.refl hrel,hF,.refl _,hp,Steps.one z0,hn⟩
  | exit id=>simp only [Zj] at h;cases h;exact ⟨r,w,tmps,ds,pc,Zr.refl hrel,hF,.refl _,hp,⟨k,rfl,.refl _ _⟩,hn⟩
  | ret=>simp only [Zj] at h;cases h;exact ⟨r,w,tmps,ds,pc,Zr.refl hrel,hF,.refl _,hp,⟨k,.refl _ _⟩,hn⟩
  | seq x y=>
   simp only [Zj] at h
   refine ZN.of_steps (Steps.one Jl) ?_
   cases hx:Zj P lo C f x A H p with
   | none=>rw [hx] at h;simp at h
   | some q=>
    obtain ⟨e1,A1,H1,p1⟩:=q
    have q:=ih.1 x (.code y :: k) r w H A tmps ds p pc _ _ _ _ hx hlo hrel hF hp hn
    rw [hx] at h
    cases e1 with
    | normal=>
     simp only at h
     exact q.next hlo fun r1 w1 tm1 ds1 pc1 a b' c d e=>ih.1 y k r1 w1 _ _ tm1 ds1 _ pc1 _ _ _ _ h e a b' c d
    | _=>
     simp only at h
     cases h
     exact q.left (fun id _=>by simp [exitTo]) (by simp)
  | cond o x y=>
   simp only [Zj] at h
   split at h<;>first | (cases h;done) | skip
   ·rename_i he
    have hv:=XY (evR hF.T he)
    have:=K5 (P:=P) (fn:=A.fn) (k:=k) (ds:=ds) (kind:=kind) (rd:=rd) (cs:=K pc) (w:=w) (x:=x) (y:=y) hv
    simp only [if_true] at this
    exact ZN.of_steps (Steps.one this) (ih.1 x k r w H A tmps ds p pc _ _ _ _ h hlo hrel hF hp hn)
   ·rename_i he
    have hv:=XY (evR hF.T he)
    have:=K5 (P:=P) (fn:=A.fn) (k:=k) (ds:=ds) (kind:=kind) (rd:=rd) (cs:=K pc) (w:=w) (x:=x) (y:=y) hv
    simp only [Bool.false_eq_true,if_false] at this
    exact ZN.of_steps (Steps.one this) (ih.1 y k r w H A tmps ds p pc _ _ _ _ h hlo hrel hF hp hn)
  | block id b=>
   simp only [Zj] at h
   refine ZN.of_steps (Steps.one XJ) ?_
   cases hx:Zj P lo C f b A H p with
   | none=>rw [hx] at h;simp at h
   | some q=>
    obtain ⟨e1,A1,H1,p1⟩:=q
    have q:=ih.1 b (.inBlock id :: k) r w H A tmps ds p pc _ _ _ _ hx hlo hrel hF hp hn
    rw [hx] at h
    cases e1 with
    | normal=>
     simp only at h
     cases h
     exact q.next hlo fun r1 w1 tm1 ds1 pc1 a b' c d e=>⟨r1,w1,tm1,ds1,pc1,Zr.refl a,b',.refl _,c,Steps.one Ug,d⟩
    | exit j=>
     simp only at h
     cases hj:Nat.beq j id with
     | true=>
      rw [hj] at h
      simp only [cond_true] at h
      cases h
      have hji:j=id:=Nat.eq_of_beq_eq_true hj
      subst hji
      obtain ⟨r',w',tmps',ds',pc',h1,h2,h3,h4,⟨kx,hk,hs⟩,h6⟩:=q
      have hk':exitTo j kx=some k:=by rw [hk];simp [exitTo]
      exact ⟨r',w',tmps',ds',pc',h1,h2,h3,h4,hs.trans (Steps.one (KX hk')),h6⟩
     | false=>
      rw [hj] at h
      simp only [cond_false] at h
      cases h
      refine q.left (fun id' hid=>?_) (by simp)
      cases hid
      have hne:id≠j:=by rintro rfl;simp at hj
      simp [exitTo,hne]
    | _=>
     simp only at h
     cases h
     exact q.left (fun id' hid=>by cases hid) (by simp)
  | loop b=>exact ZN.of_steps (Steps.one qK) (loopc b k r w H A tmps ds p pc e A' H' p' h hlo hrel hF hp hn)
  | region id ops draw=>
   simp only [Zj] at h
   cases draw with
   | true=>
    simp only [cond_true] at h
    split at h
    ·rename_i hd
     cases h
     obtain ⟨r',w',tm',h1,h2,h3,h4⟩:=ZcW (kind:=kind) hC hA hm hd hlo hrel hF id k (K pc)
     exact ⟨r',w',tm',ds,pc,h1,h2,h3,hp.mono h1.le,h4,hn⟩
    ·split at h<;>first | (cases h;done) | skip
     rename_i hd
     cases h
     obtain ⟨r',w',tm',td,v',h1,h2,h3,h4⟩:=ZcD (kind:=kind) hC hA hm hd hlo hrel hF id k (K pc)
     exact ⟨r',w',tm',ds,pc,h1,h3,⟨rfl,rfl,rfl⟩,hp.mono h1.le,⟨td,v',h2,h4⟩,hn⟩
   | false=>
    simp only [cond_false] at h
    exact ZN.of_steps (Steps.one Kb) (Zes hC hK k ops _ r w H A tmps ds p pc e A' H' p' h hlo hrel hF hp hn)
  | rangeFunc fo params asg body=>exact Zbo hC h hlo hrel hF hp hn
  | scope b=>
   simp only [Zj] at h
   refine ZN.of_steps (Steps.one Vv) ?_
   have q:=ih.1 b (.inScope b :: k) r w H A tmps ds p pc _ _ _ _ h hlo hrel hF hp hn
   cases e with
   | normal=>exact q.next hlo fun r1 w1 tm1 ds1 pc1 a b' c d e=>⟨r1,w1,tm1,ds1,pc1,Zr.refl a,b',.refl _,c,Steps.one V2,d⟩
   | _=>exact q.left (fun id _=>by simp [exitTo]) (by simp)
  | goto l=>simp [Zj] at h
  | refuse s=>simp [Zj] at h
end
end Go.Ax

namespace Go.Ax
open Go Go.RowKit

section
variable {P:Program} {lo base:Nat} {r:Ren} {A:Fr} {H:Hp} {w:World} {tmps:Array Value}

def ZaQ (tmps:Array Value):ResultVar→Sem Value
 | .tmp t=>pure (tmps.getD t undef)
 | .cell a t=>do loadVar t (← asAddr (tmps.getD a undef))

theorem Q3 (h:Rel P r base H w) (hT:Xk r A.n A.T tmps):∀ {rs:List ResultVar} {vs:List Value},Y0 P A H rs=some vs→∃ vs',LR r vs vs'∧(rs.mapM (ZaQ tmps)).run P w=.ok vs' w
 | [],vs,e=>by simp only [Y0] at e;cases e;exact ⟨[],LR.nil,rfl⟩
 | .tmp t :: rs,vs,e=>by
  simp only [Y0] at e
  cases ht:A.T.get t with
  | none=>simp [ht] at e
  | some v=>
   obtain ⟨v',hv,q⟩:=hT.2 t v ht
   cases hr:Y0 P A H rs with
   | none=>simp [ht,hr] at e
   | some us=>
    simp only [ht,hr] at e
    cases e
    obtain ⟨us',a,b⟩:=Q3 h hT hr
    refine ⟨v' :: us',LR.cons q a,?_⟩
    rw [List.mapM_cons]
    simp only [ZaQ,Array.getD_eq_getD_getElem?,hv,Option.getD_some,Sem.run_bind,Sem.run_pure,Result.andThen_ok,b]
 | .cell x t :: rs,vs,e=>by
  simp only [Y0] at e
  split at e<;>first | (cases e;done) | skip
  rename_i ad ht
  obtain ⟨v',hv,q⟩:=hT.2 x _ ht
  split at e<;>first | (cases e;done) | skip
  rename_i v hl
  split at e<;>first | (cases e;done) | skip
  rename_i us hr
  cases e
  obtain ⟨us',a,b⟩:=Q3 h hT hr
  obtain ⟨loc,hloc,hsp,rfl⟩:=UT q
  have hl0:=hl
  obtain ⟨ob,hget⟩:=QW hl
  obtain ⟨u,hu,hrun⟩:=yX hget hl0 hloc (h.cont _ _ _ hloc hget)
  refine ⟨u :: us',LR.cons hu a,?_⟩
  rw [List.mapM_cons]
  simp only [ZaQ,Array.getD_eq_getD_getElem?,hv,Option.getD_some,Sem.run_bind,Sem.run_pure,Result.andThen_ok,asAddr,hrun,b]

def yu:List Value→Value
 | [v]=>v
 | vs=>.tuple vs.toArray
theorem Kc (h:Rel P r base H w) (hT:Xk r A.n A.T tmps) {fn:Func} {vs:List Value} (e:Y0 P A H fn.results.toList=some vs) :
  ∃ vs',LR r vs vs'∧(results fn tmps).run P w=.ok (yu vs') w:=by
 obtain ⟨vs',a,b⟩:=Q3 h hT e
 refine ⟨vs',a,?_⟩
 have hm:(fn.results.mapM (ZaQ tmps)).run P w=.ok vs'.toArray w:=by
  rw [← Array.toArray_toList (xs:=fn.results),List.mapM_toArray,Sem.run_map,b]
  rfl
 show ((do let vs ← fn.results.mapM (ZaQ tmps);pure (if h:vs.size=1 then vs[0] else .tuple vs):Sem Value)).run P w=_
 rw [Sem.run_bind,hm,Result.andThen_ok,Sem.run_pure]
 congr 1
 match vs' with
 | []=>rfl
 | [v]=>rfl
 | v :: u :: l=>simp [yu]

def ZcN (P:Program) (r:Ren) (e:En) (fr:Frame) (w:World):Prop:=
 match e with
 | .ret v=>∃ v',VR r v v'∧fr.going P w (.returned v')
 | .pan v=>∃ v',VR r v v'∧fr.going P w (.panicked [{ v:=v',recovered:=false }])

def yq (P:Program) (lo:Nat) (D:Target→List Value→Hp→Par→Option (En × Hp × Par)):Prop:=
 ∀ f cap args H p e H' p',D (.fn (.func f) cap) args H p=some (e,H',p')→lo≤H.next→∀ r base w (cap' args':Array Value) pc (c:Frame) cs,Rel P r base H w→LR r cap.toList cap'.toList→LR r args args'.toList→WL r p pc→
  ∃ fArgs,(invoke (.fn (.func f) cap') args').run P w=.ok (.enter f fArgs) w∧∃ r' w' pc' fr,Zr P lo base r H w r' H' w'∧WL r' p' pc'∧fr.kind=.deferred∧ZcN P r' e fr w'∧
   Steps P (lone (Frame.enter P f fArgs .deferred) ({ c with mode:=Xu pc } :: cs) w) (lone fr ({ c with mode:=Xu pc' } :: cs) w')

def WR:Par→Par
 | some (_,true)=>none
 | m=>m
theorem zD (p:Par):settle (Xu p)=Xu (WR p):=by
 cases p with
 | none=>rfl
 | some q=>obtain ⟨v,b⟩:=q;cases b<;>rfl
theorem yk {r:Ren} {p pc:Par} (h:WL r p pc):WL r (WR p) (WR pc):=by
 cases p with
 | none=>cases h;rfl
 | some q=>
  obtain ⟨v,b⟩:=q
  obtain ⟨v',hv,rfl⟩:=h
  cases b
  ·exact ⟨v',hv,rfl⟩
  ·rfl
theorem Qn (p:Par):Xu p≠.run:=by
 cases p with
 | none=>simp [Xu]
 | some q=>obtain ⟨v,b⟩:=q;simp [Xu]

theorem Vy {D:Target→List Value→Hp→Par→Option (En × Hp × Par)} (hD:yq P lo D) {fn:Func} {g:FuncId} (hfn:P.funcs[g]? = some fn):∀ (f:Nat) (r:Ren) (w:World) (A:Fr) (H:Hp) (ds:List Deferred) (m pm:Par) (e:En) (H':Hp),
  Z9 P lo D fn f A H m=some (e,H')→lo≤H.next→Rel P r base H w→DsR r A.defers ds→WL r m pm→∀ (fr:Frame) (cs:List Frame),Xk r A.n A.T fr.tmps→fr.fn=g→fr.defers=ds→fr.mode=Xu pm→
  ∃ r' w' fr',Zr P lo base r H w r' H' w'∧fr'.fn=g∧fr'.kind=fr.kind∧Steps P (lone fr cs w) (lone fr' cs w')∧ZcN P r' e fr' w'
 | 0,_,_,_,_,_,_,_,_,_,h,_,_,_,_,_,_,_,_,_,_=>by simp [Z9] at h
 | f+1,r,w,A,H,ds,m,pm,e,H',h,hlo,hrel,hds,hp,fr,cs,hT,hg,hfd,hmo=>by
  simp only [Z9] at h
  cases hAd:A.defers with
  | nil=>
   rw [hAd] at h hds
   cases hds
   simp only at h
   split at h<;>first | (cases h;done) | skip
   ·cases h
    obtain ⟨v',hv,rfl⟩:=hp
    exact ⟨r,w,fr,Zr.refl hrel,hg,rfl,.refl _ _,v',hv,hmo,hfd,fn,by rw [hg];exact hfn⟩
   ·cases hp
    split at h<;>first | (cases h;done) | skip
    ·rename_i v hr
     cases h
     obtain ⟨vs',a,b⟩:=Kc hrel hT hr
     obtain ⟨v',rfl,q⟩:∃ v',vs'=[v']∧VR r v v':=by
      cases vs' with
      | nil=>exact absurd a.1 (by simp)
      | cons v' t=>
       have:t=[]:=by have:=a.1;simp at this;exact this
       subst this
       exact ⟨v',rfl,a.2 0 v v' rfl rfl⟩
     exact ⟨r,w,fr,Zr.refl hrel,hg,rfl,.refl _ _,v',q,hmo,hfd,fn,by rw [hg];exact hfn,b⟩
    ·rename_i vs hne hr
     cases h
     obtain ⟨vs',a,b⟩:=Kc hrel hT hr
     have hpk:yu vs'=.tuple vs'.toArray:=by
      match vs' with
      | []=>rfl
      | [v']=>
       exfalso
       have:=a.1
       match vs with
       | [v]=>exact hne v rfl
       | []=>simp at this
       | _ :: _ :: _=>simp at this
      | _ :: _ :: _=>rfl
     refine ⟨r,w,fr,Zr.refl hrel,hg,rfl,.refl _ _,.tuple vs'.toArray,?_,hmo,hfd,fn,by rw [hg];exact hfn,by rw [b,hpk]⟩
     exact .tuple (by simpa using a.1) (fun i x y hx hy=>a.2 i x y (by simpa using hx) (by simpa using hy))
  | cons d dA=>
   rw [hAd] at h hds
   cases hds with
   | cons hd hrest=>
   rename_i d' ds'
   simp only at h
   split at h
   ·rename_i b htar
    split at h<;>first | (cases h;done) | skip
    rename_i calls hget
    obtain ⟨hb,h⟩:=Zc h
    have hb:=Nat.le_of_ble_eq_true hb
    have ht:=hd.1
    rw [htar] at ht
    obtain ⟨loc,hloc,htar'⟩:=ht
    obtain ⟨calls',hc1,hc2⟩:=hrel.cont _ _ _ hloc hget
    have hlt:=(hrel.at hloc hget rfl).2
    have hst:=step_collected (P:=P) (cs:=cs) (by rw [hmo];exact Qn pm) hfd htar' (run_takeDeferred hc1)
    have post:=Zr.change (lo:=lo) hrel hloc ⟨_,hget,by simp,rfl⟩ hb (o:=.dfr none) (w':=w.putObj loc.blk (.deferred none)) World.putObj_size (fun k hk=>World.putObj_heap_other hk) ⟨rfl,rfl,rfl⟩ (World.putObj_heap_same hlt)
    obtain ⟨r',w',fr',p1,p2,p3,p4,p5⟩:=Vy hD hfn f r _ _ _ (calls' ++ ds') m pm e H' h hlo post.rel (hc2.append hrest) hp { fr with defers:=calls' ++ ds' } cs hT hg rfl hmo
    exact ⟨r',w',fr',post.trans hlo p1,p2,p3,Steps.head hst p4,p5⟩
   ·rename_i q cap htar
    split at h<;>first | (cases h;done) | skip
    rename_i v H1 m1 hcall
    have ht:=hd.1
    rw [htar] at ht
    obtain ⟨f',cap',htar',hf',hcap⟩:=ht
    cases hf'
    obtain ⟨fArgs,hinv,r1,w1,pc1,fr1,post,hp1,hk1,hL,hs⟩:=hD q cap d.args.toList H m _ H1 m1 hcall hlo r base w cap' d'.args pm { fr with defers:=ds' } cs hrel hcap hd.2 hp
    obtain ⟨v',hv,hgo⟩:=hL
    have hst:=step_defer (P:=P) (cs:=cs) (by rw [hmo];exact Qn pm) hfd htar' (by rw [htar'];exact hinv)
    have hfr:({ { fr with defers:=ds' } with mode:=Xu pm }:Frame) = { fr with defers:=ds' }:=by rw [← hmo]
    rw [hfr] at hs
    have hret:=step_going_returned (c:={ { fr with defers:=ds' } with mode:=Xu pc1 }) (cs:=cs) hk1 hgo
    simp only [zD] at hret
    obtain ⟨r',w',fr',p1,p2,p3,p4,p5⟩:=Vy hD hfn f r1 w1 { A with defers:=dA } H1 ds' (WR m1) (WR pc1) e H' h (Nat.le_trans hlo post.next) post.rel (hrest.mono post.le) (yk hp1)
     { { fr with defers:=ds' } with mode:=Xu (WR pc1) } cs (hT.mono post.le) hg rfl rfl
    exact ⟨r',w',fr',post.trans hlo p1,p2,p3,Steps.head hst (hs.trans (Steps.head hret p4)),p5⟩
   ·cases h
end
end Go.Ax

namespace Go.Ax
open Go Go.RowKit

section
variable {P:Program} {lo base:Nat}

theorem zQ:∀ (vs:List Value) (i:Nat) (T:Tr Value) (t:Nat),(Un vs i T).get t=if i≤t∧t < i+vs.length then vs[t - i]? else T.get t
 | [],i,T,t=>by simp only [Un,List.length_nil];rw [if_neg (by omega)]
 | v :: vs,i,T,t=>by
  simp only [Un,zQ vs (i+1) (T.set i v) t,Tr.get_set,List.length_cons]
  by_cases h1:t=i
  ·subst h1
   rw [if_neg (by omega),if_pos rfl,if_pos (by omega)]
   simp
  ·by_cases h2:i+1≤t∧t < i+1+vs.length
   ·rw [if_pos h2,if_pos (by omega)]
    obtain ⟨j,hj⟩:∃ j,t=i+1+j:=⟨t - (i+1),by omega⟩
    subst hj
    have e1:i+1+j - (i+1)=j:=by omega
    have e2:i+1+j - i=j+1:=by omega
    rw [e1,e2]
    simp
   ·rw [if_neg h2,if_neg h1,if_neg (by omega)]

theorem V5 {r:Ren} {args:List Value} {args':Array Value} (h:LR r args args'.toList) (n:Nat) (hn:args.length≤n):Xk r n (Un args 0 .nil) (args' ++ Array.replicate (n - args'.size) undef):=by
 have hs:args.length=args'.size:=by simpa using h.1
 refine ⟨by simp;omega,fun t v e=>?_⟩
 rw [zQ] at e
 split at e
 ·rename_i ht
  have ht:t < args'.size:=by omega
  simp only [Nat.sub_zero] at e
  refine ⟨args'[t],?_,h.2 t v _ e (by simp [ht])⟩
  rw [Array.getElem?_append_left ht]
  simp [ht]
 ·simp [Tr.get_nil] at e

def j3 (P:Program) (lo base:Nat) (r:Ren) (H:Hp) (w:World) (f:FuncId) (args':Array Value) (kind:CallKind) (K:Par→List Frame) (pc:Par) (e:En) (H':Hp) (p':Par):Prop:=
 ∃ r' w' pc' fr,Zr P lo base r H w r' H' w'∧WL r' p' pc'∧fr.fn=f∧fr.kind=kind∧ZcN P r' e fr w'∧Steps P (lone (Frame.enter P f args' kind) (K pc) w) (lone fr (K pc') w')

theorem KJ {C:CallF} (hC:WH P C) (hA:Xo C) (hm:P.follows .mixedOrders=true) {D:Target→List Value→Hp→Par→Option (En × Hp × Par)} (hD:yq P lo D) {m:Nat} {f:FuncId} {args:List Value} {H:Hp} {p:Par} {e:En} {H':Hp} {p':Par}
  (h:Xg P lo C D m f args H p=some (e,H',p')) (hlo:lo≤H.next) {r:Ren} {w:World} (hrel:Rel P r base H w) {args':Array Value} (hargs:LR r args args'.toList) {kind:CallKind} {K:Par→List Frame} (hK:KOK kind K) {pc:Par} (hp:WL r p pc) (hn:kind=.normal→p=none) :
  (∃ fn b,P.funcs[f]? = some fn∧fn.body=some b)∧j3 P lo base r H w f args' kind K pc e H' p':=by
 unfold Xg at h
 cases hfn:P.funcs[f]? with
 | none=>simp [hfn] at h
 | some fn=>
  cases hb:fn.body with
  | none=>simp [hfn,hb] at h
  | some b=>
   refine ⟨⟨fn,b,rfl,hb⟩,?_⟩
   simp only [hfn,hb] at h
   obtain ⟨hle,h⟩:=Zc h
   have hle:=Nat.le_of_ble_eq_true hle
   have hent:Frame.enter P f args' kind=mkF f (args' ++ Array.replicate (fn.ntmps - args'.size) undef) [.code b] [] kind none:=by
    simp [Frame.enter,mkF,hfn,hb]
   have hT:=V5 hargs fn.ntmps hle
   have fin:∀ (A:Fr) (H1:Hp) (p1:Par) (r1:Ren) (w1:World) (tm:Array Value) (ds:List Deferred) (pc1:Par) (mm pm:Par) (todo:List Item),Zr P lo base r H w r1 H1 w1→FrR r1 A tm ds none→WL r1 p1 pc1→WL r1 mm pm→(match Z9 P lo D fn m A H1 mm with | some (e,H'')=>some (e,H'',p1) | none=>none)=some (e,H',p')→
     Steps P (lone (Frame.enter P f args' kind) (K pc) w) (lone { mkF f tm todo ds kind none with mode:=Xu pm } (K pc1) w1)→j3 P lo base r H w f args' kind K pc e H' p':=by
    intro A H1 p1 r1 w1 tm ds pc1 mm pm todo hpost hF hp1 hmm hu hs
    cases hv:Z9 P lo D fn m A H1 mm with
    | none=>rw [hv] at hu;cases hu
    | some q=>
     obtain ⟨e1,H2⟩:=q
     rw [hv] at hu
     cases hu
     obtain ⟨r',w',fr',q1,q2,q3,q4,q5⟩:=Vy hD hfn m r1 w1 A H1 ds mm pm e H' hv (Nat.le_trans hlo hpost.next) hpost.rel hF.D hmm { mkF f tm todo ds kind none with mode:=Xu pm } (K pc1) hF.T rfl rfl rfl
     exact ⟨r',w',pc1,fr',hpost.trans hlo q1,hp1.mono q1.le,q2,q3,q5,hs.trans q4⟩
   cases hc:Zj P lo C m b { fn:=f,n:=fn.ntmps,T:=Un args 0 .nil,defers:=[],round:=none } H p with
   | none=>simp [hc] at h
   | some q=>
    obtain ⟨ex,A,H1,p1⟩:=q
    obtain ⟨r1,w1,tm,ds,pc1,hpost,hF,hS,hp1,hArr,_⟩:=(KM (rd:=none) hC hA hm hK m).1 b [] r w H _ _ [] p pc ex A H1 p1 hc hlo hrel ⟨hT,.nil,rfl⟩ hp hn
    simp only at hArr
    rw [← hent] at hArr
    rw [hc] at h
    cases ex with
    | normal=>
     exact fin A H1 p1 r1 w1 tm ds pc1 none none [] hpost hF hp1 rfl h (hArr.trans (Steps.one yp))
    | ret=>
     obtain ⟨kx,hs⟩:=hArr
     exact fin A H1 p1 r1 w1 tm ds pc1 none none _ hpost hF hp1 rfl h (hs.trans (Steps.one yS))
    | panic chain=>
     unfold Arr at hArr
     split at hArr
     ·rename_i heq;cases heq
     ·rename_i heq;cases heq
     ·rename_i heq;cases heq
     ·rename_i v heq
      cases heq
      obtain ⟨todo,v',hv,hs⟩:=hArr
      exact fin A H1 p1 r1 w1 tm ds pc1 (some (v,false)) (some (v',false)) todo hpost hF hp1 ⟨v',hv,rfl⟩ h hs
     ·exact hArr.elim
    | _=>simp at h

/-! ### Methods,and what is entered -/
theorem UW {t:TypeId} {d:TypeDesc} (h:P.underlying t=some d) (w:World):(underlying t).run P w=.ok d w:=run_underlying h w
theorem ZaW {t:TypeId} {v x:Value} {name:String} {f:FuncId} (h:UD P t v name=some (f,x)):x=v∧∀ (n:Nat) (w:World) (v':Value),(method (n+1) t v' name).run P w=.ok (f,v') w:=by
 unfold UD at h
 cases hi:P.info? t with
 | none=>simp [hi] at h
 | some i=>
  simp only [hi] at h
  cases hf:i.methods.toList.find? (fun m=>m.name == name) with
  | none=>rw [hf] at h;simp at h
  | some m=>
   rw [hf] at h
   simp only at h
   have hf':i.methods.find? (fun m=>m.name == name)=some m:=by rw [← Array.find?_toList];exact hf
   split at h<;>first | (cases h;done) | skip
   ·rename_i hp hfu hu
    cases h
    refine ⟨rfl,fun n w v'=>?_⟩
    simp only [method,Sem.run_bind,XQ hi,Result.andThen_ok,hf',hp,follow,Sem.run_pure,hfu,receiverAt,UW hu,Place.get]
   ·rename_i hp hfu hu
    cases h
    refine ⟨rfl,fun n w v'=>?_⟩
    simp only [method,Sem.run_bind,XQ hi,Result.andThen_ok,hf',hp,follow,Sem.run_pure,hfu,receiverAt,UW hu]
    rfl

def NoCount (P : Program) : Prop := ∀ (f : FuncId) fn, P.funcs[f]? = some fn → (fn.name == "runtime.NumGoroutine") = false
theorem Wu (hN:NoCount P) {f:FuncId} {fn:Func} {b:Code} (hf:P.funcs[f]? = some fn) (hb:fn.body=some b) (args:Array Value) (w:World):(callFunc f args).run P w=.ok (.enter f args) w:=by
 have:=hN f fn hf
 simp only [callFunc,Sem.run_bind,run_program,Result.andThen_ok,hf,this,hb,Option.isNone_some,Bool.false_eq_true,if_false,Sem.run_pure]
end
end Go.Ax


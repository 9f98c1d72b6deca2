import Derived.Test.YtobbfhkodccclaaMc
import Derived.Maps.RangeRun
import Derived.Test.YtobbfhkodccclaaChecked
set_option linter.all false
/-! Code whose outcome hangs on what is drawn,2: lowered code,step by step. -/
namespace Go.Ax
open Go Go.RowKit
noncomputable section
section
variable (P:Program) (kn:Kn) (lo n:Nat) (rd:Bool)
def Zjw (P:Program) (lo:Nat) (t:Target) (args:List Value) (H:Hp) (Q:Value→Hp→Prop):Prop:=
 ∀ (r:Ren) (base:Nat) (w:World) (t':Target) (args':Array Value),lo≤H.next→Rel P r base H w→TgR r t t'→LR r args args'.toList→
  ∃ v H' r' w' v',Q v H'∧Zt P lo base r H w r' H' w'∧VR r' v v'∧(invoke t' args').run P w=.ok (.value v') w'
def ZjD (S:Rg) (H:Hp) (K:Value→Hp→Prop) (o:Oper):Prop:=
 match o.op with
 | .makeMap _ none=>K (.map (some H.next)) (H.new (.mq #[] 0))
 | .lookup t x y false=>∃ (α:Type) (_:DecidableEq α) (enc:α→Value) (kt et:TypeId) (a:α) (L:ML α) (b c:Nat) (z:Value),XP P kt enc∧P.underlying t=some (.map kt et)∧ZH P (zeroValue et)=some z∧Z0 z=true∧
   evS S x=some (.map (some b))∧evS S y=some (enc a)∧H.t.get b=some (.mq (mEs enc L) c)∧K ((Yg a L).getD z) H
 | .mapEntry t x y=>∃ (α:Type) (_:DecidableEq α) (enc:α→Value) (kt et:TypeId) (a:α) (L:ML α) (b c:Nat) (z:Value),XP P kt enc∧P.underlying t=some (.map kt et)∧ZH P (zeroValue et)=some z∧Z0 z=true∧
   evS S x=some (.map (some b))∧evS S y=some (enc a)∧H.t.get b=some (.mq (mEs enc L) c)∧lo≤b∧K (.tuple #[(Yg a L).getD z,goInt (WS a c L)]) { H with t:=H.t.set b (.mq (mEs enc (Kv a z c L)) (Y8 a c L)) }
 | _=>False
def Ziu (S:Rg) (H:Hp) (K:Value→Hp→Prop) (o:Oper):Prop:=
 match o.op with
 | .entryStore _ x y u=>∃ (α:Type) (_:DecidableEq α) (enc:α→Value) (L:ML α) (b c st:Nat) (v:Value),evS S x=some (.map (some b))∧evS S y=some (goInt st)∧evS S u=some v∧H.t.get b=some (.mq (mEs enc L) c)∧lo≤b∧(∃ e∈L,e.2.2=st)∧
   K undef { H with t:=H.t.set b (.mq (mEs enc (qh st v L)) c) }
 | .mapUpdate t x y u=>∃ (α:Type) (_:DecidableEq α) (enc:α→Value) (kt et:TypeId) (a:α) (L:ML α) (b c:Nat) (v:Value),XP P kt enc∧P.underlying t=some (.map kt et)∧
   evS S x=some (.map (some b))∧evS S y=some (enc a)∧evS S u=some v∧H.t.get b=some (.mq (mEs enc L) c)∧lo≤b∧K undef { H with t:=H.t.set b (.mq (mEs enc (Xo a v c L)) (Y8 a c L)) }
 | _=>False
def Xw (S:Rg) (H:Hp) (K:Value→Hp→Prop):RI→Prop
 | .call c _=>match YO S c with
  | some (t,vs)=>∃ Q:Value→Hp→Prop,(Wd P lo t vs H Q∨Zjw P lo t vs H Q)∧∀ v H',Q v H'→K v H'
  | none=>False
 | .rng x=>match evS S x with
  | some (.map none)=>∀ H1,H.new (.it none 0 #[] 0)=H1→K (ptr H.next) H1
  | some (.map (some m))=>∃ es c,(H.t.get m=some (.mp es c)∨H.t.get m=some (.mq es c))∧∀ H1,H.new (.it (some m) c #[] c)=H1→K (ptr H.next) H1
  | _=>False
 | .nxt x=>match evS S x with
  | some (.pointer (some ⟨b,0,none⟩))=>
   (∃ s se la,H.t.get b=some (.it none s se la)∧K (.tuple #[.bool false]) H)∨
   (∃ m s se la es c,H.t.get b=some (.it (some m) s se la)∧H.t.get m=some (.mq es c)∧(∀ e∈es.toList,e.born < s∧Z0 e.key=true)∧s≤la∧lo≤b∧
    ((leftOf es se).size=0→K (.tuple #[.bool false]) H)∧
    ∀ e∈(leftOf es se).toList,∀ H1,H.up b (.it (some m) s (se.push e.born) c)=H1→K (.tuple #[.bool true,e.key,e.val]) H1)∨
   ∃ m s se la es c,H.t.get b=some (.it (some m) s se la)∧H.t.get m=some (.mp es c)∧(∀ e∈es.toList,e.born < s∧Z0 e.key=true∧Z0 e.val=true)∧s≤la∧lo≤b∧
    ((leftOf es se).size=0→K (.tuple #[.bool false]) H)∧
    ∀ e∈(leftOf es se).toList,∀ H1,H.up b (.it (some m) s (se.push e.born) c)=H1→K (.tuple #[.bool true,e.key,e.val]) H1
  | _=>False
 | .ent x=>match evS S x with
  | some (.pointer (some ⟨b,0,none⟩))=>∃ m s se la es e,H.t.get b=some (.it (some m) s (Array.push se e.born) la)∧((H.t.get m=some (.mp es la)∧Z0 e.val=true)∨H.t.get m=some (.mq es la))∧e∈es.toList∧(es.toList.map (·.born)).Nodup∧Z0 e.key=true∧K (.tuple #[e.key,e.val]) H
  | _=>False
 | .mem o=>wRI P kn lo n S H (fun v H' _=>K v H') (.mem o)∨ZjD P lo S H K o
 | .mst o=>wRI P kn lo n S H (fun v H' _=>K v H') (.mst o)∨Ziu P lo S H K o
 | ri=>wRI P kn lo n S H (fun v H' _=>K v H') ri
def Xx (S:Rg) (H:Hp) (o:RO) (K:Rg→Hp→Prop):Prop:=
 match o.guard with
 | none=>Xw P kn lo n S H (fun v H'=>K (Zy S o.dst v) H') o.ri
 | some (g,want)=>match lk S g with
  | some (.bool true)=>bif want then Xw P kn lo n S H (fun v H'=>K (Zy S o.dst v) H') o.ri else K (Zy S o.dst undef) H
  | some (.bool false)=>bif want then K (Zy S o.dst undef) H else Xw P kn lo n S H (fun v H'=>K (Zy S o.dst v) H') o.ri
  | some (.tuple _)=>K (Zy S o.dst undef) H
  | _=>False
def Zm:List RO→Rg→Hp→(Rg→Hp→Prop)→Prop
 | [],S,H,K=>K S H
 | o :: r,S,H,K=>Xx P kn lo n S H o fun S' H'=>Zm r S' H' K
def KD (ops:List RO) (V:Nat→Value) (done:Nat→Bool) (S S':Rg):Prop:=
 (∀ i o d,ops[i]? = some o→o.dst=some d→done i=true→lk S' d=some (V i))∧∀ j v,lk S j=some v→(∀ o∈ops,o.dst≠some j)→lk S' j=some v
def Zb9 (V:Nat→Value):List RO→Nat→Rg→Rg
 | [],_,S=>S
 | o :: r,i,S=>Zb9 V r (i+1) (Zy S o.dst (V i))
def jP (done:Nat→Bool) (i:Nat):Nat→Bool:=fun j=>bif Nat.beq j i then true else done j
def ZjF (ops:List RO) (V:Nat→Value) (HP:(Nat→Bool)→Hp→Prop) (S:Rg) (i m:Nat) (o:RO):Prop:=
 ∀ (done:Nat→Bool) (S':Rg) (H':Hp),done i=false→(∀ j,m.testBit j=true→done j=true)→HP done H'→KD ops V done S S'→Xx P kn lo n S' H' o fun S2 H2=>S2=Zy S' o.dst (V i)∧HP (jP done i) H2
def Zg3 (ops:List RO) (V:Nat→Value) (HP:(Nat→Bool)→Hp→Prop) (S:Rg) (ms:List Nat):List RO→Nat→Prop
 | [],_=>True
 | o :: r,i=>ZjF P kn lo n ops V HP S i (ms.getD (ops.length - 1 - i) 0) o∧Zg3 ops V HP S ms r (i+1)
def wDI (ms:List Nat) (ops:List RO) (S:Rg) (H:Hp) (K:Rg→Hp→Prop):Prop:=
 ∃ (V:Nat→Value) (HP:(Nat→Bool)→Hp→Prop),(ops.filterMap (·.dst)).Nodup∧HP (fun _=>false) H∧Zg3 P kn lo n ops V HP S ms ops 0∧∀ done H',(∀ i,i < ops.length→done i=true)→HP done H'→K (Zb9 V ops 0 S) H'
def wCM:RC→Rg→Hp→(Exit→Rg→Hp→Prop)→Prop
 | .skip,S,H,K=>K .normal S H
 | .exit id,S,H,K=>K (.exit id) S H
 | .ret,S,H,K=>K .ret S H
 | .seq x y,S,H,K=>wCM x S H fun e S' H'=>match e with | .normal=>wCM y S' H' K | e=>K e S' H'
 | .cond o x y,S,H,K=>match evS S o with
  | some (.bool b)=>(b=true→wCM x S H K)∧(b=false→wCM y S H K)
  | _=>False
 | .block id b,S,H,K=>wCM b S H fun e S' H'=>match e with | .exit j=>(bif Nat.beq j id then K .normal S' H' else K (.exit j) S' H') | e=>K e S' H'
 | .scp b,S,H,K=>wCM b S H K
 | .reg ops,S,H,K=>Zm P kn lo n ops S H fun S' H'=>K .normal S' H'
 | .dreg ops masks,S,H,K=>Zu P kn lo n masks ops [] S H (fun S' H'=>K .normal S' H')∨(VB lo H∧V5 P kn lo n masks ops [] S H fun S' H'=>K .normal S' H')∨wDI P kn lo n masks ops S H fun S' H'=>K .normal S' H'
 | .other c,S,H,K=>Yn P lo n rd c S H K
end
section
variable {P:Program} {kn:Kn} {lo n:Nat} {rd:Bool}
theorem Za1 {ops:Array Oper} {ord:Bool} {A:Fr} {S:Rg} {H:Hp} {K:Rg→Hp→Prop} {o:Oper} {ro:RO} (hl:W5 P n ops.toList ord o=some ro) (hA:ZT S A.T) (hn:A.n=n) (h:Xx P kn lo n S H ro K) :
  (∀ v,A.put o.dst v=some { A with T:=YD A.T o.dst v })∧
  ((ZF ops A o=some false∧K (Zy S o.dst undef) H)∨(ZF ops A o=some true∧∃ ri,WF P ops.toList ord o=some ri∧Xw P kn lo n S H (fun v H'=>K (Zy S o.dst v) H') ri)):=by
 unfold W5 at hl
 split at hl<;>first | (cases hl;done) | skip
 rename_i ri hri
 obtain ⟨hd,hl⟩:=Zf hl
 refine ⟨qe (by rw [hn];exact hd),?_⟩
 split at hl
 ·rename_i hg
  cases hl
  simp only [Xx] at h
  exact .inr ⟨by unfold ZF;rw [hg],ri,hri,h⟩
 ·rename_i j w hg
  split at hl<;>first | (cases hl;done) | skip
  rename_i g hj
  split at hl<;>first | (cases hl;done) | skip
  rename_i d hgd
  cases hl
  have hj':ops[j]? = some g:=by simpa using hj
  simp only [Xx] at h
  split at h<;>first | exact h.elim | skip
  ·rename_i hb
   have hw:ZF ops A o=some (true == w):=by unfold ZF;rw [hg];simp only [hj',hgd,hA d _ hb]
   cases w with
   | true=>exact .inr ⟨by rw [hw];rfl,ri,hri,h⟩
   | false=>exact .inl ⟨by rw [hw];rfl,h⟩
  ·rename_i hb
   have hw:ZF ops A o=some (false == w):=by unfold ZF;rw [hg];simp only [hj',hgd,hA d _ hb]
   cases w with
   | true=>exact .inl ⟨by rw [hw];rfl,h⟩
   | false=>exact .inr ⟨by rw [hw];rfl,ri,hri,h⟩
  ·rename_i vs hb
   exact .inl ⟨by unfold ZF;rw [hg];simp only [hj',hgd,hA d _ hb],h⟩
theorem ZfQ {ops:List Oper} {ord:Bool} {o:Oper} {x:Operand} (h:WF P ops ord o=some (.rng x)):∃ t k e,o.op=.range t x∧P.underlying t=some (.map k e):=by
 unfold WF at h
 split at h<;>rename_i hop<;>(repeat' (first | (cases h;done) | (unfold cond at h) | (split at h)))
 all_goals first
  | (cases h;done)
  | (rename_i hu;cases h;exact ⟨_,_,_,hop,hu⟩)
theorem Zfv {ops:List Oper} {ord:Bool} {o:Oper} {x:Operand} (h:WF P ops ord o=some (.nxt x)):o.op=.next x false:=by
 unfold WF at h
 split at h<;>rename_i hop<;>(repeat' (first | (cases h;done) | (unfold cond at h) | (split at h)))
 all_goals first
  | (cases h;done)
  | (cases h;exact hop)
theorem ZeD {ops:List Oper} {ord:Bool} {o:Oper} {x:Operand} (h:WF P ops ord o=some (.ent x)):o.op=.entry x:=by
 unfold WF at h
 split at h<;>rename_i hop<;>(repeat' (first | (cases h;done) | (unfold cond at h) | (split at h)))
 all_goals first
  | (cases h;done)
  | (cases h;exact hop)
theorem ZfK {ops:List Oper} {ord:Bool} {o x:Oper} (h:WF P ops ord o=some (.mem x)):x=Xy o:=by
 unfold WF at h
 split at h<;>rename_i hop<;>(repeat' (first | (cases h;done) | (unfold cond at h) | (split at h)))
 all_goals first
  | (cases h;done)
  | (cases h;rfl)
theorem ZfM {ops:List Oper} {ord:Bool} {o x:Oper} (h:WF P ops ord o=some (.mst x)):x=Xy o:=by
 unfold WF at h
 split at h<;>rename_i hop<;>(repeat' (first | (cases h;done) | (unfold cond at h) | (split at h)))
 all_goals first
  | (cases h;done)
  | (cases h;rfl)
theorem jF {A:Fr} {S:Rg} {H:Hp} {o:Oper} {c:Call} {t:Target} {vs:List Value} (hb:∀ b,c.callee≠.builtin b) (hop:o.op=.call c) (hA:ZT S A.T) (ht:YO S c=some (t,vs)):aOp P lo A H o=some (.call t vs,.full):=by
 have e:Zn P A o=none:=by
  unfold Zn;rw [hop]
  cases hcal:c.callee with
  | builtin b=>exact absurd hcal (hb b)
  | _=>simp only [hcal]
 unfold aOp
 rw [e]
 unfold Zv
 rw [hop]
 cases hcal:c.callee with
 | builtin b=>exact absurd hcal (hb b)
 | _=>simp only [hcal,U4 hA ht]
theorem ZaU {base:Nat} {r:Ren} {H:Hp} {w:World} (h:Rel P r base H w) (hlo:lo≤H.next) {t k e:TypeId} (hu:P.underlying t=some (.map k e)) {v v':Value} (hv:VR r v v') {ob:Ob}
  (ho:(v=.map none∧ob=.it none 0 #[] 0)∨∃ m es c,v=.map (some m)∧(H.t.get m=some (.mp es c)∨H.t.get m=some (.mq es c))∧ob=.it (some m) c #[] c) :
  ∃ r1 v1 w1,(Instr.range t v').run P w=.ok v1 w1∧VR r1 (ptr H.next) v1∧Zt P lo base r H w r1 (H.new ob) w1:=by
 rcases ho with ⟨rfl,rfl⟩ | ⟨m,es,c,rfl,hg,rfl⟩
 ·cases hv
  refine ⟨_,.pointer (some ⟨w.heap.size,0,none⟩),{ w with heap:=w.heap.push (.mapIter none 0 #[] 0) },?_,KG r H.next w none,Zt.fresh h hlo rfl ⟨rfl,rfl,rfl⟩ ⟨rfl,rfl⟩⟩
  simp only [Instr.range,Sem.run_bind,run_underlying hu,Result.andThen_ok,Sem.run_pure]
  rfl
 ·cases hv with
  | mapv hm=>
   rename_i loc
   obtain ⟨es2,hob⟩:∃ es2,w.heap[loc.blk]? = some (.map es2 c):=by
    rcases hg with hg | hg
    ·exact ⟨es,h.cont _ _ _ hm hg⟩
    ·obtain ⟨es',a,_⟩:=h.cont _ _ _ hm hg
     exact ⟨es',a⟩
   refine ⟨_,.pointer (some ⟨w.heap.size,0,none⟩),{ w with heap:=w.heap.push (.mapIter (some loc.blk) c #[] c) },?_,KG r H.next w none,Zt.fresh h hlo rfl ⟨rfl,rfl,rfl⟩ ⟨rfl,loc,Ren.le_add _ h.none_next _ _ hm,rfl⟩⟩
   simp only [Instr.range,Sem.run_bind,run_underlying hu,Result.andThen_ok,Sem.run_pure,getObj,Sem.run,hob,Result.andThen]
   rfl
theorem Zhd {base:Nat} {r:Ren} {H:Hp} {w:World} (h:Rel P r base H w) {b m s la c:Nat} {se:Array Nat} {es:Array MapEntry} {v':Value} (hv:VR r (.pointer (some ⟨b,0,none⟩)) v') (hb:H.t.get b=some (.it (some m) s se la)) (hm:H.t.get m=some (.mp es c))
  (hold:∀ e∈es.toList,e.born < s) (hsc:s≤la) (hlb:lo≤b) (ty:TypeId) :
  ((leftOf es se).size=0∧(Instr.next v' false ty).run P w=.ok (.tuple #[.bool false]) w)∨
  ∃ e∈(leftOf es se).toList,∃ w1,(Instr.next v' false ty).run P w=.ok (.tuple #[.bool true,e.key,e.val]) w1∧Zt P lo base r H w r (H.up b (.it (some m) s (se.push e.born) c)) w1:=by
 cases hv with
 | ptr hr=>
  rename_i loc
  obtain ⟨hd,l,hl,hob⟩:=h.cont _ _ _ hr hb
  have hom:w.heap[l.blk]? = some (.map es c):=h.cont _ _ _ hl hm
  have hlt:loc.blk < w.heap.size:=by
   rcases Nat.lt_or_ge loc.blk w.heap.size with q | q
   ·exact q
   ·rw [Array.getElem?_eq_none q] at hob;cases hob
  rw [hd]
  rcases run_next_at (P:=P) w ty loc.blk l.blk s la se es c hob hom hold hsc with q | ⟨e,he,w1,hw,hrun⟩
  ·exact .inl q
  ·refine .inr ⟨e,he,_,hrun,?_⟩
   have hheap:w1.heap=w.heap:=by rcases hw with rfl | rfl<;>rfl
   have hstr:w1.os=w.os∧w1.tape=w.tape∧w1.output=w.output:=by rcases hw with rfl | rfl<;>exact ⟨rfl,rfl,rfl⟩
   refine Zt.change h hr ⟨_,hb,by simp,rfl⟩ hlb (by show (w1.heap.setIfInBounds _ _).size=_;rw [hheap];simp) (fun q hq=>?_) hstr ?_
   ·show (w1.heap.setIfInBounds loc.blk _)[q]? = _
    rw [hheap,Array.getElem?_setIfInBounds,if_neg (fun e=>hq e.symm)]
   ·refine ⟨hd,l,hl,?_⟩
    show (w1.heap.setIfInBounds loc.blk _)[loc.blk]? = _
    rw [hheap,Array.getElem?_setIfInBounds,if_pos rfl,if_pos hlt]
theorem EsR.mem {r:Ren}:∀ {l l':List MapEntry},EsR r l l'→∀ y∈l',∃ x∈l,y.key=x.key∧y.born=x.born∧VR r x.val y.val
 | [],[],_,y,hy=>by cases hy
 | x :: l,y :: l',h,u,hu=>by
  rcases List.mem_cons.1 hu with rfl | hu
  ·exact ⟨x,by simp,h.1⟩
  ·obtain ⟨v,hv,q⟩:=EsR.mem h.2 u hu
   exact ⟨v,by simp [hv],q⟩
 | [],_ :: _,h,_,_=>h.elim
 | _ :: _,[],h,_,_=>h.elim
theorem EsR.mem' {r:Ren}:∀ {l l':List MapEntry},EsR r l l'→∀ x∈l,∃ y∈l',y.key=x.key∧y.born=x.born∧VR r x.val y.val
 | [],[],_,y,hy=>by cases hy
 | x :: l,y :: l',h,u,hu=>by
  rcases List.mem_cons.1 hu with rfl | hu
  ·exact ⟨y,by simp,h.1⟩
  ·obtain ⟨v,hv,q⟩:=EsR.mem' h.2 u hu
   exact ⟨v,by simp [hv],q⟩
 | [],_ :: _,h,_,_=>h.elim
 | _ :: _,[],h,_,_=>h.elim
theorem EsR.borns {r:Ren}:∀ {l l':List MapEntry},EsR r l l'→l'.map (·.born)=l.map (·.born)
 | [],[],_=>rfl
 | x :: l,y :: l',h=>by simp only [List.map_cons,h.1.2.1,EsR.borns h.2]
 | [],_ :: _,h=>h.elim
 | _ :: _,[],h=>h.elim
theorem EsR.left {r:Ren} {es es':Array MapEntry} (h:EsR r es.toList es'.toList) (se:Array Nat):EsR r (leftOf es se).toList (leftOf es' se).toList:=by
 have key:∀ {l l':List MapEntry},EsR r l l'→EsR r (l.filter fun e=>!se.contains e.born) (l'.filter fun e=>!se.contains e.born):=by
  intro l
  induction l with
  | nil=>intro l' h;cases l' with
   | nil=>exact True.intro
   | cons _ _=>exact h.elim
  | cons x l ih=>intro l' h;cases l' with
   | nil=>exact h.elim
   | cons y l'=>
    simp only [List.filter_cons,h.1.2.1]
    split
    ·exact ⟨h.1,ih h.2⟩
    ·exact ih h.2
 have e:∀ es:Array MapEntry,(leftOf es se).toList=es.toList.filter fun e=>!se.contains e.born:=fun es=>by
  unfold leftOf;simp
 rw [e,e];exact key h
theorem ZeX {base:Nat} {r:Ren} {H:Hp} {w:World} (h:Rel P r base H w) {b m s la c:Nat} {se:Array Nat} {es:Array MapEntry} {v':Value} (hv:VR r (.pointer (some ⟨b,0,none⟩)) v') (hb:H.t.get b=some (.it (some m) s se la)) (hm:H.t.get m=some (.mq es c))
  (hold:∀ e∈es.toList,e.born < s) (hsc:s≤la) (hlb:lo≤b) (ty:TypeId) :
  ((leftOf es se).size=0∧(Instr.next v' false ty).run P w=.ok (.tuple #[.bool false]) w)∨
  ∃ e∈(leftOf es se).toList,∃ u w1,VR r e.val u∧(Instr.next v' false ty).run P w=.ok (.tuple #[.bool true,e.key,u]) w1∧Zt P lo base r H w r (H.up b (.it (some m) s (se.push e.born) c)) w1:=by
 cases hv with
 | ptr hr=>
  rename_i loc
  obtain ⟨hd,l,hl,hob⟩:=h.cont _ _ _ hr hb
  obtain ⟨es',hom,hes⟩:=h.cont _ _ _ hl hm
  have hlt:loc.blk < w.heap.size:=by
   rcases Nat.lt_or_ge loc.blk w.heap.size with q | q
   ·exact q
   ·rw [Array.getElem?_eq_none q] at hob;cases hob
  have hold':∀ e∈es'.toList,e.born < s:=fun e he=>by
   obtain ⟨x,hx,_,q,_⟩:=hes.mem e he
   rw [q];exact hold x hx
  have hleft:=hes.left se
  rw [hd]
  rcases run_next_at (P:=P) w ty loc.blk l.blk s la se es' c hob hom hold' hsc with ⟨q1,q2⟩ | ⟨e,he,w1,hw,hrun⟩
  ·refine .inl ⟨?_,q2⟩
   have hlen:=congrArg List.length hleft.borns
   simp only [List.length_map] at hlen
   have:(leftOf es se).toList.length=0:=by rw [← hlen];simpa using q1
   simpa using this
  ·obtain ⟨x,hx,ek,eb,ev⟩:=hleft.mem e he
   refine .inr ⟨x,hx,e.val,_,ev,by rw [ek] at hrun;exact hrun,?_⟩
   have hheap:w1.heap=w.heap:=by rcases hw with rfl | rfl<;>rfl
   have hstr:w1.os=w.os∧w1.tape=w.tape∧w1.output=w.output:=by rcases hw with rfl | rfl<;>exact ⟨rfl,rfl,rfl⟩
   rw [← eb]
   refine Zt.change h hr ⟨_,hb,by simp,rfl⟩ hlb (by show (w1.heap.setIfInBounds _ _).size=_;rw [hheap];simp) (fun q hq=>?_) hstr ?_
   ·show (w1.heap.setIfInBounds loc.blk _)[q]? = _
    rw [hheap,Array.getElem?_setIfInBounds,if_neg (fun e=>hq e.symm)]
   ·refine ⟨hd,l,hl,?_⟩
    show (w1.heap.setIfInBounds loc.blk _)[loc.blk]? = _
    rw [hheap,Array.getElem?_setIfInBounds,if_pos rfl,if_pos hlt]
theorem Zdc {base:Nat} {r:Ren} {H:Hp} {w:World} (h:Rel P r base H w) {b m s la:Nat} {se:Array Nat} {es:Array MapEntry} {e:MapEntry} {v':Value} (hv:VR r (.pointer (some ⟨b,0,none⟩)) v') (hb:H.t.get b=some (.it (some m) s (se.push e.born) la)) (hm:H.t.get m=some (.mq es la))
  (he:e∈es.toList) (hn:(es.toList.map (·.born)).Nodup):∃ u,VR r e.val u∧(Instr.entry v').run P w=.ok (.tuple #[e.key,u]) w:=by
 cases hv with
 | ptr hr=>
  rename_i loc
  obtain ⟨hd,l,hl,hob⟩:=h.cont _ _ _ hr hb
  obtain ⟨es',hom,hes⟩:=h.cont _ _ _ hl hm
  rw [hd]
  obtain ⟨x,hx,ek,eb,ev⟩:=hes.mem' e he
  refine ⟨x.val,ev,?_⟩
  have:=run_entry_at (P:=P) w loc.blk l.blk s se es' la x (by rw [eb];exact hob) hom hx (by rw [hes.borns];exact hn)
  rw [ek] at this
  exact this
theorem Zb8 {base:Nat} {r:Ren} {H:Hp} {w:World} (h:Rel P r base H w) {b s la:Nat} {se:Array Nat} {v':Value} (hv:VR r (.pointer (some ⟨b,0,none⟩)) v') (hb:H.t.get b=some (.it none s se la)) (ty:TypeId) :
  (Instr.next v' false ty).run P w=.ok (.tuple #[.bool false]) w:=by
 cases hv with
 | ptr hr=>
  rename_i loc
  obtain ⟨hd,hob⟩:=h.cont _ _ _ hr hb
  rw [hd]
  simp only [Instr.next,getObj,Sem.run_bind,Sem.run,hob,Result.andThen]
  rfl
theorem ZeV {base:Nat} {r:Ren} {H:Hp} {w:World} (h:Rel P r base H w) {b m s la:Nat} {se:Array Nat} {es:Array MapEntry} {e:MapEntry} {v':Value} (hv:VR r (.pointer (some ⟨b,0,none⟩)) v') (hb:H.t.get b=some (.it (some m) s (se.push e.born) la)) (hm:H.t.get m=some (.mp es la))
  (he:e∈es.toList) (hn:(es.toList.map (·.born)).Nodup):(Instr.entry v').run P w=.ok (.tuple #[e.key,e.val]) w:=by
 cases hv with
 | ptr hr=>
  rename_i loc
  obtain ⟨hd,l,hl,hob⟩:=h.cont _ _ _ hr hb
  have hom:w.heap[l.blk]? = some (.map es la):=h.cont _ _ _ hl hm
  rw [hd]
  exact run_entry_at w loc.blk l.blk s se es la e hob hom he hn
section
variable {base:Nat} {r:Ren} {H:Hp} {w:World} {A:Fr} {tmps:Array Value} {ds:List Deferred} {rdv:Option Nat} {cs:List Frame} {k:List Item} {ops:Array Oper} {i:Nat} {rest:List Nat} {o:Oper} {S:Rg} {K:Exit→Rg→Hp→Prop}
theorem WL (hlo:lo≤H.next) (hF:FrR r A tmps ds rdv) (hn:A.n=n) (hr:A.round.isSome=rd) (hS:ZT S A.T) (hput:∀ v,A.put o.dst v=some { A with T:=YD A.T o.dst v })
  {r1:Ren} {H1:Hp} {w1:World} {v v':Value} (hpost:Zt P lo base r H w r1 H1 w1) (hv:VR r1 v v')
  (hs:Steps P (lone (mkF A.fn tmps (.inRegion ops (i :: rest) :: k) ds .normal rdv) cs w) (lone (mkF A.fn (Vd tmps o.dst v') (.inRegion ops rest :: k) ds .normal rdv) cs w1))
  (hrest:Up P lo n rd ops rest (Zy S o.dst v) H1 K) :
  ∃ e S' H' T',K e S' H'∧ZT S' T'∧Z1 P lo base r H w (lone (mkF A.fn tmps (.inRegion ops (i :: rest) :: k) ds .normal rdv) cs w) .normal rdv (fun _=>cs) k A e { A with T:=T' } H' none:=by
 obtain ⟨hF1,hs1,_⟩:=Zdf (hF.mono hpost.le) (hput v) hv
 obtain ⟨e,S',H',T',a,b,q⟩:=hrest base r1 w1 _ _ ds rdv cs k (Nat.le_trans hlo hpost.next) hpost.rel hF1 hn hr (ZL hS o.dst v)
 exact ⟨e,S',H',T',a,b,Z1.of_steps hs (Z1.after hlo hpost hs1 q)⟩
theorem qf (hlo:lo≤H.next) (hrel:Rel P r base H w) (hF:FrR r A tmps ds rdv) (hn:A.n=n) (hr:A.round.isSome=rd) (hS:ZT S A.T) (hput:∀ v,A.put o.dst v=some { A with T:=YD A.T o.dst v }) (ho:ops[i]? = some o) (hw:Region.wanted o (yielded ops tmps)=true)
  {t:Target} {vs:List Value} (hop:aOp P lo A H o=some (.call t vs,.full)) {Q:Value→Hp→Prop} (hc:Wd P lo t vs H Q) (hrest:∀ v H1,Q v H1→Up P lo n rd ops rest (Zy S o.dst v) H1 K) :
  ∃ e S' H' T',K e S' H'∧ZT S' T'∧Z1 P lo base r H w (lone (mkF A.fn tmps (.inRegion ops (i :: rest) :: k) ds .normal rdv) cs w) .normal rdv (fun _=>cs) k A e { A with T:=T' } H' none:=by
 obtain ⟨hSx,hdef⟩:=Qg hrel hlo hF.T hop
 have hd:rdv=none∨∀ c,o.op≠.defer c:=.inr (hdef.resolve_right fun ⟨d,hd⟩=>by cases hd)
 obtain ⟨t',args',hrun,ht,ha⟩:=hSx
 obtain ⟨nx,fr0,hi,hfo,hb⟩:=hc r base w t' args' hlo hrel ht ha
 obtain ⟨v,H1,r1,w1,hq,hpost,v',hv,hsteps⟩:=hb (mkF A.fn tmps (.inRegion ops (i :: rest) :: k) ds .normal rdv) cs
 have henter:step P (lone (mkF A.fn tmps (.inRegion ops (i :: rest) :: k) ds .normal rdv) cs w)=.next (lone fr0 (mkF A.fn tmps (.inRegion ops (i :: rest) :: k) ds .normal rdv :: cs) w):=by
  rw [hi] at hrun
  cases nx<;>simp only [Wq] at hfo<;>cases hfo
  ·exact QS ho hw hd hrun
  ·exact JA ho hw hd hrun
 rw [XK v' ho] at hsteps
 exact WL hlo hF hn hr hS hput hpost hv (Steps.head henter hsteps) (hrest v H1 hq)
end
theorem Wd.low {lo':Nat} {t:Target} {args:List Value} {H:Hp} {Q:Value→Hp→Prop} (h:Wd P lo' t args H Q) (hl:lo≤lo') (hn:lo'≤H.next):Wd P lo t args H Q:=by
 intro r base w t' args' hlo hrel ht ha
 obtain ⟨nx,fr0,a,b,c⟩:=h r base w t' args' hn hrel ht ha
 refine ⟨nx,fr0,a,b,fun c0 rest=>?_⟩
 obtain ⟨v,H',r',w',q,hp,x⟩:=c c0 rest
 exact ⟨v,H',r',w',q,hp.low hl,x⟩
theorem J4 (s:Snd P kn) {ops:Array Oper} {ord:Bool} {i:Nat} {rest:List Nat} {o:Oper} {ro:RO} {Q:Rg→Hp→Prop} {S:Rg} {H:Hp} {K:Exit→Rg→Hp→Prop} (ho:ops[i]? = some o) (hro:W5 P n ops.toList ord o=some ro) (h:Xx P kn lo n S H ro Q)
  (ih:∀ {S' H'},Q S' H'→Up P lo n rd ops rest S' H' K):Up P lo n rd ops (i :: rest) S H K:=by
  intro base r w A tmps ds rdv cs k hlo hrel hF hn hr hS
  obtain ⟨hput,hcase⟩:=Za1 hro hS hn h
  rcases hcase with ⟨hw,hk⟩ | ⟨hw,ri,hri,hk⟩
  ·exact WL hlo hF hn hr hS hput (Zt.refl hrel) (W0 r) (Steps.one (JQ ho (XE hF.T hw))) (ih hk)
  ·have hwr:=XE hF.T hw
   have gen:wRI P kn lo n S H (fun v H' _=>Q (Zy S o.dst v) H') ri→∃ e S' H' T',K e S' H'∧ZT S' T'∧Z1 P lo base r H w (lone (mkF A.fn tmps (.inRegion ops (i :: rest) :: k) ds .normal rdv) cs w) .normal rdv (fun _=>cs) k A e { A with T:=T' } H' none:=by
    intro hk
    rcases U7 hri hS hk with ⟨v,H1,kd,hop,_,hk⟩ | ⟨H1,kd,hop,hk⟩ | ⟨t,vs,v,H1,hop,_,hc,hk⟩ | ⟨t,vs,v,H1,b,hop,_,_,hc,_,hk⟩
    ·obtain ⟨⟨r1,v',w1,hrun,hv,hpost⟩,hdef⟩:=Qg hrel hlo hF.T hop
     have hd:rdv=none∨∀ c,o.op≠.defer c:=.inr (hdef.resolve_right fun ⟨d,hd⟩=>by cases hd)
     exact WL hlo hF hn hr hS hput hpost hv (Steps.one (YX ho hwr hd hrun)) (ih hk)
    ·obtain ⟨⟨w1,hrun,hpost⟩,hdef⟩:=Qg hrel hlo hF.T hop
     have hd:rdv=none∨∀ c,o.op≠.defer c:=.inr (hdef.resolve_right fun ⟨d,hd⟩=>by cases hd)
     exact WL hlo hF hn hr hS hput hpost (W0 r) (Steps.one (W7 ho hwr hd hrun)) (ih hk)
    ·refine qf hlo hrel hF hn hr hS hput ho hwr hop (Q:=fun u H2=>u=v∧H2=H1) ?_ fun v1 H2 ⟨e1,e2⟩=>by subst e1 e2;exact ih hk
     cases ord with
     | true=>exact Wd.of s hc
     | false=>exact (Wd.of s hc).low hlo (Nat.le_refl _)
    ·exact qf hlo hrel hF hn hr hS hput ho hwr hop (Wd.of s hc) fun v1 H2 ⟨e1,e2⟩=>by subst e1 e2;exact ih hk
   have nodef:∀ {x:Op},o.op=x→(∀ c,x≠.defer c)→rdv=none∨∀ c,o.op≠.defer c:=fun e q=>.inr fun c=>by rw [e];exact q c
   cases ri with
   | call c ord=>
    obtain ⟨hop,hnb⟩:=Zab hri
    simp only [Xw] at hk
    split at hk<;>first | exact hk.elim | skip
    rename_i t vs ht
    obtain ⟨Q,hc | hc,hq⟩:=hk
    ·exact qf hlo hrel hF hn hr hS hput ho hwr (jF hnb hop hS ht) hc fun v H1 q=>ih (hq v H1 q)
    ·obtain ⟨⟨t',args',hrun,ht',ha'⟩,_⟩:=Qg hrel hlo hF.T (jF (lo:=lo) (H:=H) hnb hop hS ht)
     obtain ⟨v,H1,r1,w1,v',hqv,hpost,hv,hi⟩:=hc r base w t' args' hlo hrel ht' ha'
     exact WL hlo hF hn hr hS hput hpost hv (Steps.one (YX ho hwr (nodef hop (fun c e=>by cases e)) (hrun.trans hi))) (ih (hq v H1 hqv))
   | rng x=>
    obtain ⟨t,kt,et,hop,hu⟩:=ZfQ hri
    simp only [Xw] at hk
    have fin:∀ (v:Value) (ob:Ob),evS S x=some v→((v=.map none∧ob=.it none 0 #[] 0)∨∃ m es c,v=.map (some m)∧(H.t.get m=some (.mp es c)∨H.t.get m=some (.mq es c))∧ob=.it (some m) c #[] c)→
      Q (Zy S o.dst (ptr H.next)) (H.new ob)→∃ e S' H' T',K e S' H'∧ZT S' T'∧Z1 P lo base r H w (lone (mkF A.fn tmps (.inRegion ops (i :: rest) :: k) ds .normal rdv) cs w) .normal rdv (fun _=>cs) k A e { A with T:=T' } H' none:=by
     intro v ob hx hob hk
     obtain ⟨r1,v1,w1,hrun,hv1,hpost⟩:=ZaU (lo:=lo) hrel hlo hu (evR hF.T (ZU hS hx)) hob
     refine WL hlo hF hn hr hS hput hpost hv1 (Steps.one (YX ho hwr (nodef hop (fun c e=>by cases e)) ?_)) (ih hk)
     unfold execOp;rw [hop]
     first | (simp only [Sem.run_bind,hrun,Result.andThen_ok,Sem.run_pure];done) | (show (Instr.range t (evT tmps x) >>= fun v=>pure (Next.value v)).run P w=_;rw [Sem.run_bind,hrun];rfl)
    split at hk<;>first | exact hk.elim | skip
    ·rename_i hx
     exact fin _ _ hx (.inl ⟨rfl,rfl⟩) (hk _ rfl)
    ·rename_i m hx
     obtain ⟨es,c,hg,hk⟩:=hk
     exact fin _ _ hx (.inr ⟨m,es,c,rfl,hg,rfl⟩) (hk _ rfl)
   | nxt x=>
    have hop:=Zfv hri
    simp only [Xw] at hk
    split at hk<;>first | exact hk.elim | skip
    rename_i b hx
    have hv:=evR hF.T (ZU hS hx)
    have ex:∀ {v1:Value} {w1:World},(Instr.next (evT tmps x) false o.type).run P w=.ok v1 w1→(execOp (evT tmps) o).run P w=.ok (.value v1) w1:=fun hrun=>by
     unfold execOp;rw [hop]
     first | (simp only [Sem.run_bind,hrun,Result.andThen_ok,Sem.run_pure];done) | (show (Instr.next (evT tmps x) false o.type >>= fun v=>pure (Next.value v)).run P w=_;rw [Sem.run_bind,hrun];rfl)
    have pairR:∀ {a u u':Value},Z0 a=true→VR r u u'→VR r (.tuple #[.bool true,a,u]) (.tuple #[.bool true,a,u']):=fun ha hu=>by
     refine .tuple rfl fun i q q' e1 e2=>?_
     match i with
     | 0=>simp at e1 e2;subst e1 e2;exact Yw rfl
     | 1=>simp at e1 e2;subst e1 e2;exact Yw ha
     | 2=>simp at e1 e2;subst e1 e2;exact hu
     | i+3=>simp at e1
    rcases hk with ⟨sn,se,la,hb,hk⟩ | ⟨m,sn,se,la,es,c,hb,hm,hfl,hsc,hlb,hk0,hk1⟩ | ⟨m,sn,se,la,es,c,hb,hm,hfl,hsc,hlb,hk0,hk1⟩
    ·exact WL hlo hF hn hr hS hput (Zt.refl hrel) (XW (v:=.tuple #[.bool false]) rfl) (Steps.one (YX ho hwr (nodef hop (fun c e=>by cases e)) (ex (Zb8 hrel hv hb _)))) (ih hk)
    ·rcases ZeX (lo:=lo) hrel hv hb hm (fun e he=>(hfl e he).1) hsc hlb o.type with ⟨h0,hrun⟩ | ⟨e,he,u,w1,hvu,hrun,hpost⟩
     ·exact WL hlo hF hn hr hS hput (Zt.refl hrel) (XW (v:=.tuple #[.bool false]) rfl) (Steps.one (YX ho hwr (nodef hop (fun c e=>by cases e)) (ex hrun))) (ih (hk0 h0))
     ·exact WL hlo hF hn hr hS hput hpost (pairR (hfl e (mem_left he).1).2 hvu) (Steps.one (YX ho hwr (nodef hop (fun c e=>by cases e)) (ex hrun))) (ih (hk1 e he _ rfl))
    ·rcases Zhd (lo:=lo) hrel hv hb hm (fun e he=>(hfl e he).1) hsc hlb o.type with ⟨h0,hrun⟩ | ⟨e,he,w1,hrun,hpost⟩
     ·exact WL hlo hF hn hr hS hput (Zt.refl hrel) (XW (v:=.tuple #[.bool false]) rfl) (Steps.one (YX ho hwr (nodef hop (fun c e=>by cases e)) (ex hrun))) (ih (hk0 h0))
     ·have hfe:=hfl e (mem_left he).1
      have hff:J5 (.tuple #[.bool true,e.key,e.val])=true:=by
       show (Z0 (.bool true) && (Z0 e.key && (Z0 e.val && true)))=true
       rw [hfe.2.1,hfe.2.2]
       rfl
      exact WL hlo hF hn hr hS hput hpost (XW hff) (Steps.one (YX ho hwr (nodef hop (fun c e=>by cases e)) (ex hrun))) (ih (hk1 e he _ rfl))
   | ent x=>
    have hop:=ZeD hri
    simp only [Xw] at hk
    split at hk<;>first | exact hk.elim | skip
    rename_i b hx
    have hv:=evR hF.T (ZU hS hx)
    obtain ⟨m,sn,se,la,es,e,hb,hm,he,hnd,hf1,hk⟩:=hk
    obtain ⟨u,hvu,hrun⟩:∃ u,VR r (.tuple #[e.key,e.val]) (.tuple #[e.key,u])∧(Instr.entry (evT tmps x)).run P w=.ok (.tuple #[e.key,u]) w:=by
     rcases hm with ⟨hm,hf2⟩ | hm
     ·exact ⟨e.val,XW (v:=.tuple #[e.key,e.val]) (by simp [J5,hf1,hf2]),ZeV hrel hv hb hm he hnd⟩
     ·obtain ⟨u,q1,q2⟩:=Zdc hrel hv hb hm he hnd
      refine ⟨u,.tuple rfl fun i q q' e1 e2=>?_,q2⟩
      match i with
      | 0=>simp at e1 e2;subst e1 e2;exact Yw hf1
      | 1=>simp at e1 e2;subst e1 e2;exact q1
      | i+2=>simp at e1
    refine WL hlo hF hn hr hS hput (Zt.refl hrel) hvu (Steps.one (YX ho hwr (nodef hop (fun c e=>by cases e)) ?_)) (ih hk)
    unfold execOp;rw [hop]
    first | (simp only [Sem.run_bind,hrun,Result.andThen_ok,Sem.run_pure];done) | (show (Instr.entry (evT tmps x) >>= fun v=>pure (Next.value v)).run P w=_;rw [Sem.run_bind,hrun];rfl)
   | mem o0=>
    simp only [Xw] at hk
    rcases hk with hk | hk
    ·exact gen hk
    ·have:=ZfK hri
     subst this
     have hex:∀ {x:Op},(Xy o).op=x→o.op=x:=fun e=>e
     unfold ZjD at hk
     split at hk<;>first | exact hk.elim | skip
     ·rename_i t hop
      have hop:=hex hop
      have hpost:Zt P lo base r H w (r.add H.next ⟨w.heap.size,0,none⟩) (H.new (.mq #[] 0)) { w with heap:=w.heap.push (.map #[] 0) }:=Zt.fresh hrel hlo rfl ⟨rfl,rfl,rfl⟩ ⟨#[],rfl,True.intro⟩
      refine WL hlo hF hn hr hS hput hpost (.mapv (Ren.add_same r H.next _)) (Steps.one (YX ho hwr (nodef hop (fun c e=>by cases e)) ?_)) (ih hk)
      unfold execOp;rw [hop]
      rfl
     ·rename_i t x y hop
      have hop:=hex hop
      obtain ⟨α,dec,enc,kt,et,a,L,b,c,z,k1,k2,k3,k4,k5,k6,k7,hk⟩:=hk
      obtain ⟨v',hrun,hv⟩:=Ze0 hrel k1 k2 k3 k4 k7 (evR hF.T (ZU hS k5)) (evR hF.T (ZU hS k6))
      refine WL hlo hF hn hr hS hput (Zt.refl hrel) hv (Steps.one (YX ho hwr (nodef hop (fun c e=>by cases e)) ?_)) (ih hk)
      unfold execOp;rw [hop]
      first | (simp only [Sem.run_bind,hrun,Result.andThen_ok,Sem.run_pure];done) | (show (Instr.lookup t (evT tmps x) (evT tmps y) false >>= fun v=>pure (Next.value v)).run P w=_;rw [Sem.run_bind,hrun];rfl)
     ·rename_i t x y hop
      have hop:=hex hop
      obtain ⟨α,dec,enc,kt,et,a,L,b,c,z,k1,k2,k3,k4,k5,k6,k7,k8,hk⟩:=hk
      obtain ⟨v',w',hrun,hv,hpost⟩:=Zek hrel k1 k2 k3 k4 k7 k8 (evR hF.T (ZU hS k5)) (evR hF.T (ZU hS k6))
      refine WL hlo hF hn hr hS hput hpost hv (Steps.one (YX ho hwr (nodef hop (fun c e=>by cases e)) ?_)) (ih hk)
      unfold execOp;rw [hop]
      first | (simp only [Sem.run_bind,hrun,Result.andThen_ok,Sem.run_pure];done) | (show (Instr.mapEntry t (evT tmps x) (evT tmps y) >>= fun v=>pure (Next.value v)).run P w=_;rw [Sem.run_bind,hrun];rfl)
   | mst o0=>
    simp only [Xw] at hk
    rcases hk with hk | hk
    ·exact gen hk
    ·have:=ZfM hri
     subst this
     have hex:∀ {x:Op},(Xy o).op=x→o.op=x:=fun e=>e
     unfold Ziu at hk
     split at hk<;>first | exact hk.elim | skip
     ·rename_i t x y u hop
      have hop:=hex hop
      obtain ⟨α,dec,enc,L,b,c,st,v,k1,k2,k3,k4,k5,k6,hk⟩:=hk
      obtain ⟨w',hrun,hpost⟩:=ZdF (tm:=t) hrel k4 k5 k6 (evR hF.T (ZU hS k1)) (evR hF.T (ZU hS k2)) (evR hF.T (ZU hS k3))
      refine WL hlo hF hn hr hS hput hpost (W0 r) (Steps.one (W7 ho hwr (nodef hop (fun c e=>by cases e)) ?_)) (ih hk)
      unfold execOp;rw [hop]
      first | (simp only [Sem.run_bind,hrun,Result.andThen_ok,Sem.run_pure];done) | (show (Instr.entryStore t (evT tmps x) (evT tmps y) (evT tmps u) >>= fun _=>pure Next.none).run P w=_;rw [Sem.run_bind,hrun];rfl)
     ·rename_i t x y u hop
      have hop:=hex hop
      obtain ⟨α,dec,enc,kt,et,a,L,b,c,v,k1,k2,k3,k4,k5,k6,k7,hk⟩:=hk
      obtain ⟨w',hrun,hpost⟩:=ZgL hrel k1 k2 k6 k7 (evR hF.T (ZU hS k3)) (evR hF.T (ZU hS k4)) (evR hF.T (ZU hS k5))
      refine WL hlo hF hn hr hS hput hpost (W0 r) (Steps.one (W7 ho hwr (nodef hop (fun c e=>by cases e)) ?_)) (ih hk)
      unfold execOp;rw [hop]
      first | (simp only [Sem.run_bind,hrun,Result.andThen_ok,Sem.run_pure];done) | (show (Instr.mapUpdate t (evT tmps x) (evT tmps y) (evT tmps u) >>= fun _=>pure Next.none).run P w=_;rw [Sem.run_bind,hrun];rfl)
   | _=>exact gen hk
theorem Kl (s:Snd P kn) {ops:Array Oper}:∀ (rest pre:List Oper) {rl:List RO} {S:Rg} {H:Hp} {K:Exit→Rg→Hp→Prop},ops.toList=pre ++ rest→Y4 P n ops.toList (fun _=>true) rest pre.length=some rl→Zm P kn lo n rl S H (fun S' H'=>K .normal S' H')→
  Up P lo n rd ops (List.range' pre.length rest.length) S H K
 | [],pre,rl,S,H,K,he,hl,h=>by
  simp only [Y4] at hl;cases hl
  exact Up.nil h
 | o :: rest,pre,rl,S,H,K,he,hl,h=>by
  simp only [Y4] at hl
  split at hl<;>first | (cases hl;done) | skip
  rename_i ro hro
  split at hl<;>first | (cases hl;done) | skip
  rename_i l hrest
  cases hl
  simp only [Zm] at h
  have he2:ops.toList=(pre ++ [o]) ++ rest:=by rw [he];simp
  have ho:ops[pre.length]? = some o:=by
   have:ops.toList[pre.length]? = some o:=by rw [he];simp
   simpa using this
  have ih:=fun {S':Rg} {H':Hp} (h':Zm P kn lo n l S' H' fun S' H'=>K .normal S' H')=>Kl s rest (pre ++ [o]) (rl:=l) he2 (by simpa using hrest) h'
  simp only [List.length_append,List.length_singleton] at ih
  exact J4 s ho hro h ih
theorem QN {P:Program} {n:Nat} {ops:List Oper} {ord:Nat→Bool}:∀ (l:List Oper) (k:Nat) {rl:List RO},Y4 P n ops ord l k=some rl→rl.length=l.length∧∀ i o,l[i]? = some o→∃ ro,rl[i]? = some ro∧W5 P n ops (ord (k+i)) o=some ro
 | [],_,rl,h=>by simp only [Y4] at h;cases h;exact ⟨rfl,fun i o e=>by simp at e⟩
 | x :: l,k,rl,h=>by
  simp only [Y4] at h
  split at h<;>first | (cases h;done) | skip
  rename_i ro hro
  split at h<;>first | (cases h;done) | skip
  rename_i q hq
  cases h
  obtain ⟨a,b⟩:=QN l (k+1) hq
  refine ⟨by simp [a],fun i o e=>?_⟩
  cases i with
  | zero=>simp at e;subst e;exact ⟨ro,rfl,hro⟩
  | succ i=>
   obtain ⟨r',c,d⟩:=b i o (by simpa using e)
   exact ⟨r',by simpa using c,by rw [show k+(i+1)=k+1+i by omega];exact d⟩
theorem Zai {P:Program} {kn:Kn} {lo n:Nat} {ops:List RO} {V:Nat→Value} {HP:(Nat→Bool)→Hp→Prop} {S:Rg} {ms:List Nat}:∀ (l:List RO) (k:Nat),Zg3 P kn lo n ops V HP S ms l k→∀ i o,l[i]? = some o→ZjF P kn lo n ops V HP S (k+i) (ms.getD (ops.length - 1 - (k+i)) 0) o
 | [],_,_,i,o,e=>by simp at e
 | x :: l,k,h,i,o,e=>by
  cases i with
  | zero=>simp at e;subst e;exact h.1
  | succ i=>rw [show k+(i+1)=k+1+i by omega];exact Zai l (k+1) h.2 i o (by simpa using e)
theorem qg {V:Nat→Value} {S':Rg}:∀ (l:List RO) (k:Nat) (S:Rg),(l.filterMap (·.dst)).Nodup→(∀ i o d,l[i]? = some o→o.dst=some d→lk S' d=some (V (k+i)))→(∀ j v,lk S j=some v→(∀ o∈l,o.dst≠some j)→lk S' j=some v)→∀ j v,lk (Zb9 V l k S) j=some v→lk S' j=some v
 | [],k,S,_,_,h2,j,v,h=>h2 j v h (fun o ho=>by cases ho)
 | o :: l,k,S,hn,h1,h2,j,v,h=>by
  simp only [Zb9] at h
  have hn':(l.filterMap (·.dst)).Nodup:=by
   rw [List.filterMap_cons] at hn
   split at hn
   ·exact hn
   ·exact (List.nodup_cons.1 hn).2
  refine qg l (k+1) _ hn' (fun i o' d e1 e2=>by rw [show k+1+i=k+(i+1) by omega];exact h1 (i+1) o' d (by simpa using e1) e2) (fun j v e q=>?_) j v h
  cases hd:o.dst with
  | none=>
   rw [hd] at e
   exact h2 j v e fun o' ho'=>by
    rcases List.mem_cons.1 ho' with rfl | ho'
    ·rw [hd];simp
    ·exact q o' ho'
  | some d=>
   rw [hd] at e
   simp only [Zy,lk,ZG] at e
   by_cases hdj:d=j
   ·subst hdj
    simp only [decide_true,cond_true,Option.some.injEq] at e
    subst e
    exact h1 0 o d rfl hd
   ·rw [decide_eq_false hdj] at e
    exact h2 j v e fun o' ho'=>by
     rcases List.mem_cons.1 ho' with rfl | ho'
     ·rw [hd];simpa using hdj
     ·exact q o' ho'
theorem WU {l:List RO} (h:(l.filterMap (·.dst)).Nodup):∀ (i j:Nat) oi oj d,l[i]? = some oi→l[j]? = some oj→oi.dst=some d→oj.dst=some d→i=j:=by
 induction l with
 | nil=>intro i j oi oj d e;simp at e
 | cons a l ih=>
  rw [List.filterMap_cons] at h
  have hmem:∀ (j:Nat) oj d,l[j]? = some oj→oj.dst=some d→d∈l.filterMap (·.dst):=fun j oj d e hd=>List.mem_filterMap.2 ⟨oj,List.mem_of_getElem? e,hd⟩
  intro i j oi oj d ei ej hi hj
  cases i with
  | zero=>
   cases j with
   | zero=>rfl
   | succ j=>
    simp at ei ej;subst ei
    rw [hi] at h
    exact absurd (hmem j oj d ej hj) (List.nodup_cons.1 h).1
  | succ i=>
   cases j with
   | zero=>
    simp at ei ej;subst ej
    rw [hj] at h
    exact absurd (hmem i oi d ei hi) (List.nodup_cons.1 h).1
   | succ j=>
    simp at ei ej
    have h':(l.filterMap (·.dst)).Nodup:=by
     split at h
     ·exact h
     ·exact (List.nodup_cons.1 h).2
    exact congrArg (· + 1) (ih h' i j oi oj d ei ej hi hj)
theorem Zca (s:Snd P kn) {id:Nat} {ops:Array Oper} {ord:Nat→Bool} {rl:List RO} {S:Rg} {H:Hp} {K:Exit→Rg→Hp→Prop} (hreg:Qh ops=true) (hl:Y4 P n ops.toList ord ops.toList 0=some rl) (h:wDI P kn lo n (We ops.toList 0 []) rl S H fun S' H'=>K .normal S' H') :
  Yn P lo n rd (.region id ops true) S H K:=by
 obtain ⟨V,HP,hnd,h0,hops,hend⟩:=h
 obtain ⟨hlen,hget⟩:=QN ops.toList 0 hl
 have hlen:rl.length=ops.size:=by simpa using hlen
 have hR:=Ud hreg
 have key:∀ (fuel t:Nat) (L:Array Bool) (S':Rg) (H':Hp),L.size=ops.size→todo ops L≤fuel→(∀ (i:Nat) o,ops[i]? = some o→Z2 L i→∀ e∈o.after,Region.binds .any e=true→Z2 L e.on)→HP (fun i=>L.getD i false) H'→KD rl V (fun i=>L.getD i false) S S'→
   Up P lo n rd ops (Region.linearise.go .any ops fuel t L []) S' H' K:=by
  have fin:∀ (L:Array Bool) (S':Rg) (H':Hp),(∀ i,i < ops.size→Z2 L i)→HP (fun i=>L.getD i false) H'→KD rl V (fun i=>L.getD i false) S S'→Up P lo n rd ops [] S' H' K:=by
   intro L S' H' hall hHP hKD
   have hk:=hend _ H' (fun i hi=>hall i (by rw [← hlen];exact hi)) hHP
   have hsub:=qg (V:=V) (S':=S') rl 0 S hnd (fun i o d e1 e2=>by
    have hi:i < rl.length:=by
     rcases Nat.lt_or_ge i rl.length with q | q
     ·exact q
     ·rw [List.getElem?_eq_none q] at e1;cases e1
    rw [Nat.zero_add]
    exact hKD.1 i o d e1 e2 (hall i (by rw [← hlen];exact hi))) hKD.2
   exact fun base r w A tmps ds rdv cs k hlo hrel hF hn hr hS=>Up.nil hk base r w A tmps ds rdv cs k hlo hrel hF hn hr fun j v e=>hS j v (hsub j v e)
  intro fuel
  induction fuel with
  | zero=>
   intro t L S' H' hL hf hcl hHP hKD
   simp only [Region.linearise.go,List.reverse_nil]
   exact fin L S' H' (U9 (by omega)) hHP hKD
  | succ fuel ih=>
   intro t L S' H' hL hf hcl hHP hKD
   have hgo:Region.linearise.go .any ops (fuel+1) t L []=match (Region.ready .any ops L)[t % (Region.ready .any ops L).length]? with
    | some i=>Region.linearise.go .any ops fuel (t / (Region.ready .any ops L).length) (L.setIfInBounds i true) [i]
    | none=>[]:=by
    simp only [Region.linearise.go]
    rfl
   cases hi:(Region.ready .any ops L)[t % (Region.ready .any ops L).length]? with
   | none=>
    have hnil:Region.ready .any ops L=[]:=by
     cases hr:Region.ready .any ops L with
     | nil=>rfl
     | cons x xs=>
      rw [hr] at hi
      have hlt:t % (x :: xs).length < (x :: xs).length:=Nat.mod_lt _ (by simp)
      rw [List.getElem?_eq_getElem hlt] at hi
      cases hi
    rw [hgo,hi]
    exact fin L S' H' (Ui hR hL hnil) hHP hKD
   | some i=>
    have hmem:=List.mem_of_getElem? hi
    obtain ⟨hlt,hun,o,ho,hr⟩:=VT.1 hmem
    have hLi:i < L.size:=by rw [hL];exact hlt
    have hunD:L.getD i false=false:=by
     have:L[i]? = some (L[i]'hLi):=Array.getElem?_eq_getElem hLi
     simp only [Array.getD_eq_getD_getElem?,this,Option.getD_some] at hun ⊢
     exact hun
    have hun':¬ Z2 L i:=by unfold Z2;rw [hunD];simp
    rw [hgo,hi]
    simp only
    rw [linearise_go_acc,List.reverse_singleton,List.singleton_append]
    obtain ⟨ro,hrl,hro⟩:=hget i o (by simpa using ho)
    have hanc:∀ j,Anc ops i j→Z2 L j:=by
     have cl:∀ {a b},Anc ops a b→Z2 L a→Z2 L b:=by
      intro a b ha
      induction ha with
      | edge ho he hb=>exact fun hj=>hcl _ _ ho hj _ he hb
      | more ho he hb _ ih=>exact fun hj=>ih (hcl _ _ ho hj _ he hb)
     intro j ha
     cases ha with
     | edge ho' he hb=>rw [ho] at ho';cases ho';exact hr _ he hb
     | more ho' he hb ha=>rw [ho] at ho';cases ho';exact cl ha (hr _ he hb)
    have hm:=Ux ops
    have h1:=Zai rl 0 hops i ro hrl
    rw [Nat.zero_add,hlen] at h1
    have hmask:∀ j,((We ops.toList 0 []).getD (ops.size - 1 - i) 0).testBit j=true→L.getD j false=true:=by
     intro j hj
     have hlt':ops.size - 1 - i < (We ops.toList 0 []).length:=by rw [hm.1];omega
     have hg:=List.getElem?_eq_getElem hlt'
     rw [List.getD_eq_getElem?_getD,hg,Option.getD_some] at hj
     exact hanc j (hm.2 i _ hlt hg j hj)
    refine J4 s ho hro (h1 _ S' H' hunD hmask hHP hKD) fun {S2 H2} q=>?_
    obtain ⟨rfl,hHP2⟩:=q
    have hset:(fun j=>(L.setIfInBounds i true).getD j false)=jP (fun j=>L.getD j false) i:=by
     funext j
     unfold jP
     by_cases e:j=i
     ·subst e
      rw [Nat.beq_refl,cond_true]
      exact (Yj hLi).2 (.inl rfl)
     ·have:Nat.beq j i=false:=by
       cases hb:Nat.beq j i with
       | false=>rfl
       | true=>exact absurd (Nat.eq_of_beq_eq_true hb) e
      rw [this,cond_false]
      simp only [Array.getD_eq_getD_getElem?,Array.getElem?_setIfInBounds]
      rw [if_neg (fun q=>e q.symm)]
    refine ih _ _ _ _ (by simp [hL]) (by have:=Ja hLi hlt hun';omega) ?_ (by rw [hset];exact hHP2) ?_
    ·intro j oj hoj hdj e he hb
     rcases (Yj hLi).1 hdj with rfl | hdj
     ·rw [ho] at hoj;cases hoj
      exact (Yj hLi).2 (.inr (hr _ he hb))
     ·exact (Yj hLi).2 (.inr (hcl _ _ hoj hdj _ he hb))
    ·rw [hset]
     refine ⟨fun j oj d e1 e2 e3=>?_,fun j v e q=>?_⟩
     ·by_cases e:j=i
      ·subst e
       rw [hrl] at e1;cases e1
       rw [e2]
       simp only [Zy,lk,Nat.beq_refl,cond_true]
      ·have hd:L.getD j false=true:=by
        unfold jP at e3
        have:Nat.beq j i=false:=by
         cases hb:Nat.beq j i with
         | false=>rfl
         | true=>exact absurd (Nat.eq_of_beq_eq_true hb) e
        rw [this,cond_false] at e3
        exact e3
       cases hod:ro.dst with
       | none=>exact hKD.1 j oj d e1 e2 hd
       | some d'=>
        have hne:d'≠d:=fun q=>e (WU hnd j i oj ro d e1 hrl e2 (by rw [hod,q]))
        have hb:Nat.beq d' d=false:=by
         cases hb:Nat.beq d' d with
         | false=>rfl
         | true=>exact absurd (Nat.eq_of_beq_eq_true hb) hne
        simp only [Zy,lk,hb,cond_false]
        exact hKD.1 j oj d e1 e2 hd
     ·cases hod:ro.dst with
      | none=>exact hKD.2 j v e q
      | some d'=>
       have hne:d'≠j:=fun x=>q ro (List.mem_of_getElem? hrl) (by rw [hod,x])
       have hb:Nat.beq d' j=false:=by
        cases hb:Nat.beq d' j with
        | false=>rfl
        | true=>exact absurd (Nat.eq_of_beq_eq_true hb) hne
       simp only [Zy,lk,hb,cond_false]
       exact hKD.2 j v e q
 intro base r w A tmps ds rdv cs k hlo hrel hF hn hr hS
 have hst:=key ops.size (w.tape w.drawn (.order A.fn id)) (Array.replicate ops.size false) S H (by simp) (by
  unfold todo;have:=List.countP_le_length (p:=fun i=>!(Array.replicate ops.size false).getD i false) (l:=List.range ops.size);simpa using this)
  (fun i o ho hd=>by unfold Z2 at hd;simp [Array.getD_eq_getD_getElem?,Array.getElem?_replicate] at hd;split at hd<;>simp at hd)
  (by
   have:(fun i=>(Array.replicate ops.size false).getD i false)=fun _=>false:=by
    funext i
    simp only [Array.getD_eq_getD_getElem?,Array.getElem?_replicate]
    split<;>rfl
   rw [this];exact h0)
  ⟨fun i o d _ _ hd=>by simp [Array.getD_eq_getD_getElem?,Array.getElem?_replicate] at hd;split at hd<;>simp at hd,fun j v e _=>e⟩
 have hrel':Rel P r base H { w with drawn:=w.drawn+1 }:=⟨hrel.dom,hrel.cont,hrel.inj,hrel.top⟩
 have hp0:Zt P lo base r H w r H { w with drawn:=w.drawn+1 }:=⟨.refl r,hrel',Nat.le_refl _,fun _ _ e=>.inl e,fun k hk q=>rfl,fun _ _=>rfl,⟨rfl,rfl,rfl,Nat.le_refl _⟩⟩
 obtain ⟨e,S1,H1,T1,a,b,q⟩:=hst base r { w with drawn:=w.drawn+1 } A tmps ds rdv cs k hlo hrel' hF hn hr hS
 refine ⟨e,S1,H1,T1,a,b,Z1.of_steps (Steps.one KH) ?_⟩
 simp only [Region.schedule,s.hm,Bool.true_or,if_true]
 exact Z1.after hlo hp0 (JY.refl A) q
theorem Yh (s:Snd P kn):∀ (c:Code) {rc:RC} {S:Rg} {H:Hp} {K:Exit→Rg→Hp→Prop},low P n c=some rc→wCM P kn lo n rd rc S H K→Yn P lo n rd c S H K
 | .skip,rc,S,H,K,hl,h=>by simp only [low] at hl;cases hl;exact Yn.skip h
 | .label l,rc,S,H,K,hl,h=>by simp only [low] at hl;cases hl;exact Yn.label h
 | .exit id,rc,S,H,K,hl,h=>by simp only [low] at hl;cases hl;exact Yn.exit h
 | .ret,rc,S,H,K,hl,h=>by simp only [low] at hl;cases hl;exact Yn.ret h
 | .seq x y,rc,S,H,K,hl,h=>by
  simp only [low] at hl
  split at hl<;>first | (cases hl;done) | skip
  rename_i a ha
  split at hl<;>first | (cases hl;done) | skip
  rename_i b hb
  cases hl
  simp only [wCM] at h
  refine Yn.seq ((Yh s x ha h).mono fun e S' H' q=>?_)
  cases e with
  | normal=>exact Yh s y hb q
  | _=>exact q
 | .cond o x y,rc,S,H,K,hl,h=>by
  simp only [low] at hl
  split at hl<;>first | (cases hl;done) | skip
  rename_i a ha
  split at hl<;>first | (cases hl;done) | skip
  rename_i b hb
  cases hl
  simp only [wCM] at h
  split at h<;>first | exact h.elim | skip
  rename_i t ht
  cases t with
  | true=>exact Yn.cond ht (Yh s x ha (h.1 rfl))
  | false=>exact Yn.cond ht (Yh s y hb (h.2 rfl))
 | .block id b,rc,S,H,K,hl,h=>by
  simp only [low] at hl
  split at hl<;>first | (cases hl;done) | skip
  rename_i a ha
  cases hl
  simp only [wCM] at h
  exact Yn.block (Yh s b ha h)
 | .region id ops draw,rc,S,H,K,hl,h=>by
  cases draw with
  | true=>
   have hl0:=hl
   simp only [low] at hl
   simp only [cond_true] at hl
   obtain ⟨hreg,hl⟩:=Zf hl
   split at hl<;>first | (cases hl;done) | skip
   rename_i l hro
   cases hl
   simp only [wCM] at h
   rcases h with h | h | h
   ·exact Yn.of s (Xh rd (.region id ops true) hl0 (by simp only [wC];exact .inl h))
   ·exact Yn.of s (Xh rd (.region id ops true) hl0 (by simp only [wC];exact .inr h))
   ·exact Zca s hreg hro h
  | false=>
   simp only [low] at hl
   simp only [cond_false] at hl
   split at hl<;>first | (cases hl;done) | skip
   rename_i l hro
   cases hl
   simp only [wCM] at h
   refine Yn.region ?_
   have:=Kl (rd:=rd) s (ops:=ops) ops.toList [] (by simp) hro h
   simpa [List.range_eq_range'] using this
 | .loop b,rc,S,H,K,hl,h=>by simp only [low] at hl;cases hl;exact h
 | .rangeFunc fo ps a b,rc,S,H,K,hl,h=>by simp only [low] at hl;cases hl;exact h
 | .scope b,rc,S,H,K,hl,h=>by
  simp only [low] at hl
  split at hl<;>first | (cases hl;done) | skip
  rename_i a ha
  cases hl
  simp only [wCM] at h
  exact Yn.scope (Yh s b ha h)
 | .goto l,rc,S,H,K,hl,h=>by simp only [low] at hl;cases hl
 | .refuse w,rc,S,H,K,hl,h=>by simp only [low] at hl;cases hl
theorem XL {α:Type} {c b:Code} {fn:Func} {n:Nat} {R:RC} {rd:Bool} {S:Rg} {H:Hp} {K:Exit→Rg→Hp→Prop} (s:Snd P kn) (hc:c=.loop b) (hn:fn.ntmps=n) (hL:low P fn.ntmps b=some R) (SS:α→Rg) (I:Nat→α→Hp→Prop)
  (k:Nat) (a:α) (hI:I k a H) (hS:WM (SS a) S)
  (hb:∀ k a H,I k a H→wCM P kn lo n rd R (SS a) H fun e S' H'=>match e with | .normal=>∃ k' a',k' < k∧I k' a' H'∧WM (SS a') S' | e=>K e S' H') :
  Yn P lo n rd c S H K:=by
 subst hc hn
 refine Yn.loop (fun k S H=>∃ a,I k a H∧WM (SS a) S) (fun k S H q=>?_) k S H ⟨a,hI,hS⟩
 obtain ⟨a,q,hs⟩:=q
 refine Yn.forget ((Yh s _ hL (hb k a H q)).mono fun e S' H' r=>?_) hs.get
 cases e with
 | normal=>obtain ⟨k',a',x,y,z⟩:=r;exact ⟨k',x,a',y,z⟩
 | _=>exact r
def FnM (P:Program) (lo:Nat) (f:FuncId) (args:List Value) (H:Hp) (Q:Value→Hp→Prop):Prop:=
 (∃ fn c,P.funcs[f]? = some fn∧fn.body=some c)∧∀ (r:Ren) (base:Nat) (w:World) (args':Array Value),lo≤H.next→Rel P r base H w→LR r args args'.toList→
  ∀ c rest,∃ v H' r' w',Q v H'∧Zt P lo base r H w r' H' w'∧∃ v',VR r' v v'∧Steps P (lone (Frame.enter P f args' .normal) (c :: rest) w) (lone (c.finish v') rest w')
theorem zo {f:FuncId} {fn:Func} {c:Code} {args:List Value} {H:Hp} {Q:Value→Hp→Prop} (hf:P.funcs[f]? = some fn) (hc:fn.body=some c) (hl:args.length≤fn.ntmps)
  (h:Yn P lo fn.ntmps false c (VS args 0) H fun e S' H'=>(match e with | .normal=>True | .ret=>True | _=>False)∧∃ vs,Wt P S' H' fn.results.toList=some vs∧Q (X7 vs) H'):FnM P lo f args H Q:=by
 refine ⟨⟨fn,c,hf,hc⟩,fun r base w args' hlo hrel hargs c0 rest=>?_⟩
 have hent:Frame.enter P f args' .normal=mkF f (args' ++ Array.replicate (fn.ntmps - args'.size) undef) [.code c] [] .normal none:=by
  simp [Frame.enter,mkF,hf,hc]
 have hT:=V9 hargs fn.ntmps hl
 obtain ⟨e,S1,H1,T1,⟨he,vs,hres,hq⟩,hk,r1,w1,tm,ds,pc1,hpost,hF,hS,hp1,hArr,_⟩:=h base r w { fn:=f,n:=fn.ntmps,T:=Qf args 0 .nil,defers:=[],round:=none } _ [] none (c0 :: rest) [] hlo hrel ⟨hT,.nil,rfl⟩ rfl rfl (Ww args)
 simp only at hArr
 rw [← hent] at hArr
 have hu:Z4 P lo (fun _ _ _ _=>none) fn 1 { fn:=f,n:=fn.ntmps,T:=T1,defers:=[],round:=none } H1 none=some (.ret (X7 vs),H1):=by
  rw [Z4]
  simp only [Qv (A:={ fn:=f,n:=fn.ntmps,T:=T1,defers:=[],round:=none }) hk hres]
  match vs with
  | []=>rfl
  | [v]=>rfl
  | v :: u :: r=>rfl
 have hD:jK P lo (fun _ _ _ _=>none):=fun f cap args H p e H' p' h=>by cases h
 have fin:∀ (todo:List Item),Steps P (lone (Frame.enter P f args' .normal) (c0 :: rest) w) (lone { mkF f tm todo ds .normal none with mode:=.returning } (c0 :: rest) w1)→∃ v H' r' w',Q v H'∧Zt P lo base r H w r' H' w'∧∃ v',VR r' v v'∧Steps P (lone (Frame.enter P f args' .normal) (c0 :: rest) w) (lone (c0.finish v') rest w'):=by
  intro todo hs
  obtain ⟨r',w',fr',q1,q2,q3,q4,q5⟩:=VQ hD hf 1 r1 w1 _ H1 ds none none _ H1 hu (Nat.le_trans hlo hpost.next) hpost.rel hF.D rfl { mkF f tm todo ds .normal none with mode:=.returning } (c0 :: rest) hF.T rfl rfl rfl
  obtain ⟨v',hv,⟨a,b,d⟩⟩:=q5
  exact ⟨X7 vs,H1,r',w',hq,hpost.trans hlo q1,v',hv,(hs.trans q4).trans (Steps.one (step_leave_returned ⟨a,b,by rw [q3];rfl,d⟩))⟩
 cases e with
 | normal=>exact fin [] (hArr.trans (Steps.one yQ))
 | ret=>
  obtain ⟨kx,hs⟩:=hArr
  exact fin _ (hs.trans (Steps.one qK))
 | _=>exact he.elim
theorem WZ {f:FuncId} {fn:Func} {R:RC} {n:Nat} {rs:List ResultVar} {args:List Value} {H:Hp} {Q:Value→Hp→Prop} (s:Snd P kn) (hf:P.funcs[f]? = some fn) (hb:fn.body=some (at_ fn [])) (hn:fn.ntmps=n) (hz:fn.results.toList=rs) (hL:low P fn.ntmps (at_ fn [])=some R) (hl:args.length≤n)
  (h:wCM P kn lo n false R (VS args 0) H fun e S' H'=>(match e with | .normal=>True | .ret=>True | _=>False)∧∃ vs,Wt P S' H' rs=some vs∧Q (X7 vs) H'):FnM P lo f args H Q:=by
 subst hn hz
 exact zo hf hb hl (Yh s _ hL h)
theorem FnM.of (s:Snd P kn) {f:FuncId} {args:List Value} {H:Hp} {v:Value} {H':Hp} (hb:∃ fn c,P.funcs[f]? = some fn∧fn.body=some c) (h:FnX P kn lo f args H v H'):FnM P lo f args H fun u H1=>u=v∧H1=H':=by
 obtain ⟨N,h⟩:=h
 refine ⟨hb,fun r base w args' hlo hrel hargs c0 rest=>?_⟩
 obtain ⟨_,hback⟩:=qW (QW s.hm s.hN s.hk N N).1 (QG P kn N N).2 s.hm s.hN ((QW s.hm s.hN s.hk N N).2 lo) (h N N (Nat.le_refl _) (Nat.le_refl _)) hlo hrel hargs
 obtain ⟨r',w',hp,v',hv,hs⟩:=hback c0 rest
 exact ⟨v,H',r',w',⟨rfl,rfl⟩,hp,v',hv,hs⟩
theorem FnM.mono {f:FuncId} {args:List Value} {H:Hp} {Q Q':Value→Hp→Prop} (h:FnM P lo f args H Q) (hq:∀ v H',Q v H'→Q' v H'):FnM P lo f args H Q':=
 ⟨h.1,fun r base w args' hlo hrel hargs c0 rest=>by
  obtain ⟨v,H',r',w',q,x⟩:=h.2 r base w args' hlo hrel hargs c0 rest
  exact ⟨v,H',r',w',hq _ _ q,x⟩⟩
theorem KX (hN:NoCount P) {f:FuncId} {cap:Array Value} {args:List Value} {H:Hp} {Q:Value→Hp→Prop} (h:FnM P lo f (args ++ cap.toList) H Q):Wd P lo (.fn (.func f) cap) args H Q:=by
 obtain ⟨⟨fn,c,h1,h2⟩,h⟩:=h
 intro r base w t' args' hlo hrel ht ha
 obtain ⟨f',cap',rfl,hf,hcap⟩:=ht
 cases hf
 exact ⟨.enter f (args' ++ cap'),_,Vi hN h1 h2 _ _,rfl,h r base w (args' ++ cap') hlo hrel (by simpa using LR.append ha hcap)⟩
theorem Ye (hN:NoCount P) {f:FuncId} {args:List Value} {a:Value} {H:Hp} {Q:Value→Hp→Prop} (h:FnM P lo f (a :: args) H Q):Wd P lo (.fn (.func f) #[]) (a :: args) H Q:=
 KX hN (by simpa using h)
theorem Zc3.of {f:FuncId} {args:List Value} {H:Hp} {v:Value} {H':Hp} (h:FnM P lo f args H fun u H1=>u=v∧H1=H'):Zc3 P lo f args H v H':=by
 refine ⟨h.1,fun r base w args' hrel hargs hlo c0 rest=>?_⟩
 obtain ⟨u,H1,r',w',⟨rfl,rfl⟩,hp,x⟩:=h.2 r base w args' hlo hrel hargs c0 rest
 exact ⟨r',w',hp,x⟩
end
end
end Go.Ax

/-! Steps of plain regions whose calls come to several ends (written by program,out of AxN). -/
namespace Go.Ax
open Go Go.RowKit
section
variable {P:Program} {kn:Kn} {lo n:Nat} {r:List RO} {S:Rg} {H:Hp} {K:Rg→Hp→Prop} {d:Option Nat} {x y:Operand} {rd:Bool} {a b:Int}
theorem Zk {ops:List RO} {c:RC} {K:Exit→Rg→Hp→Prop} (h:Zm P kn lo n ops S H fun S' H'=>wCM P kn lo n rd c S' H' K):wCM P kn lo n rd (.seq (.reg ops) c) S H K:=h
theorem ZdN {ops:List RO} {K:Exit→Rg→Hp→Prop} (h:Zm P kn lo n ops S H fun S' H'=>K .normal S' H'):wCM P kn lo n rd (.reg ops) S H K:=h
theorem ZV {K:Exit→Rg→Hp→Prop} (h:K .normal S H):wCM P kn lo n rd .skip S H K:=h
theorem qC {K:Exit→Rg→Hp→Prop} (h:K .ret S H):wCM P kn lo n rd .ret S H K:=h
theorem Zg7 {id:Nat} {ops:List RO} {K:Exit→Rg→Hp→Prop} (h:Zm P kn lo n ops S H fun S' H'=>K .normal S' H'):wCM P kn lo n rd (.block id (.reg ops)) S H K:=h
theorem ZjH {id:Nat} {ops:List RO} {c:RC} {K:Exit→Rg→Hp→Prop} (h:Zm P kn lo n ops S H fun S' H'=>wCM P kn lo n rd c S' H' K):wCM P kn lo n rd (.seq (.block id (.reg ops)) c) S H K:=h
theorem X2 {id:Nat} {K:Exit→Rg→Hp→Prop} (h:K (.exit id) S H):wCM P kn lo n rd (.exit id) S H K:=h
theorem Zh (h:K S H):Zm P kn lo n [] S H K:=h
theorem Jv {o:Operand} {x y:RC} {t:Bool} {K:Exit→Rg→Hp→Prop} (ho:evS S o=some (.bool t)) (h1:t=true→wCM P kn lo n rd x S H K) (h2:t=false→wCM P kn lo n rd y S H K):wCM P kn lo n rd (.cond o x y) S H K:=by
 simp only [wCM,ho];exact ⟨h1,h2⟩
theorem YR {c:Call} {t:Target} {vs:List Value} {ord:Bool} {Q:Value→Hp→Prop} (ht:YO S c=some (t,vs)) (hc:Wd P lo t vs H Q) (h:∀ v H',Q v H'→Zm P kn lo n r (Zy S d v) H' K):Zm P kn lo n (⟨d,none,.call c ord⟩ :: r) S H K:=by
 simp only [Zm,Xx,Xw,ht];exact ⟨Q,.inl hc,h⟩
theorem Z6 (s:Snd P kn) {c:Call} {t:Target} {vs:List Value} {ord:Bool} {v:Value} {H':Hp} (ht:YO S c=some (t,vs)) (hc:X4 P kn lo t vs H v H') (h:Zm P kn lo n r (Zy S d v) H' K):Zm P kn lo n (⟨d,none,.call c ord⟩ :: r) S H K:=
 YR ht (Wd.of s hc) fun v1 H1 ⟨e1,e2⟩=>by subst e1 e2;exact h
theorem UJ {e:TypeId} {v:Value} (hx:evS S x=some v) (h:∀ H1,Keep H H1 []→H1.next=H.next+1→Cl H1 H.next v.cells.toList→Zm P kn lo n r (Zy S d (.pointer (some ⟨H.next,0,none⟩))) H1 K):Zm P kn lo n (⟨d,none,.box e x⟩ :: r) S H K:=by
 simp only [Zm,Xx,Xw,wRI,hx]
 intro H1 hH1
 obtain ⟨k1,n1,c1⟩:=ZO hH1
 exact h H1 k1 n1 c1
theorem Zd {v:Value} (hx:evS S x=some v) (h:Zm P kn lo n r (Zy S d v) H K):Zm P kn lo n (⟨d,none,.mov x⟩ :: r) S H K:=by
 show match evS S x with | some v=>Zm P kn lo n r (Zy S d v) H K | none=>False
 rw [hx];exact h
theorem ZfO {a:Addr} (hx:evS S x=some (.pointer (some a))) (h:Zm P kn lo n r (Zy S d (.pointer (some a))) H K):Zm P kn lo n (⟨d,none,.nilc x⟩ :: r) S H K:=by
 simp only [Zm,Xx,Xw,wRI,hx];exact h
theorem YS {b o off:Nat} (hx:evS S x=some (.pointer (some ⟨b,o,none⟩))) (h:Zm P kn lo n r (Zy S d (.pointer (some ⟨b,o+off,none⟩))) H K):Zm P kn lo n (⟨d,none,.addo x off⟩ :: r) S H K:=by
 simp only [Zm,Xx,Xw,wRI,hx];exact h
theorem XQ {b o m:Nat} {cs:List Value} {v:Value} (hx:evS S x=some (.pointer (some ⟨b,o,none⟩))) (hc:Rd H b cs) (hv:cs[o]? = some v) (h:Zm P kn lo n r (Zy S d v) H K):Zm P kn lo n (⟨d,none,.ld x m⟩ :: r) S H K:=by
 simp only [Zm,Xx,Xw,wRI,hx];exact ⟨cs,v,hc.of,hv,h⟩
theorem Zo {o:Oper} {v:Value} (hd:Vl S o.op.operands.toList=true) (hv:Zn P (frS n S) o=some v) (h:Zm P kn lo n r (Zy S d v) H K):Zm P kn lo n (⟨d,none,.pur o⟩ :: r) S H K:=⟨hd,v,hv,h⟩
theorem qU {b o m:Nat} {cs:List Value} {v:Value} (hx:evS S x=some (.pointer (some ⟨b,o,none⟩))) (hy:evS S y=some v) (hc:Cl H b cs) (hl:lo≤b) (hm:v.cells.toList.length=m) (h1:v.cells.toList.all one=true) (ho:o+m≤cs.length)
  (h:∀ H1,Keep H H1 [b]→H1.next=H.next→Cl H1 b (Z9 cs o v.cells.toList)→Zm P kn lo n r (Zy S d undef) H1 K):Zm P kn lo n (⟨d,none,.sta x y m⟩ :: r) S H K:=by
 simp only [Zm,Xx,Xw,wRI,hx,hy]
 obtain ⟨_,e,l,g⟩:=id hc
 exact ⟨cs,e,l,g,hl,hm,h1,ho,fun H1 hH1=>by obtain ⟨a,b,c⟩:=WK hc hH1;exact h H1 a b c⟩
theorem Y1 {b o m:Nat} {cs q:List Value} (hx:evS S x=some (.pointer (some ⟨b,o,none⟩))) (hc:Rd H b cs) (hv:row m cs o=some q) (h:Zm P kn lo n r (Zy S d (.agg q.toArray)) H K):Zm P kn lo n (⟨d,none,.lda x m⟩ :: r) S H K:=by
 simp only [Zm,Xx,Xw,wRI,hx];exact ⟨cs,q,hc.of,hv,h⟩
theorem XR {a:Option Addr} {m c:Nat} (hx:evS S x=some (.slice a m c)) (h:Zm P kn lo n r (Zy S d (.int .i64 (m:Int))) H K):Zm P kn lo n (⟨d,none,.len x⟩ :: r) S H K:=by
 simp only [Zm,Xx,Xw,wRI,hx];exact h
theorem Zdz {a b:Int} (hx:evS S x=some (.int .i64 a)) (hy:evS S y=some (.int .i64 b)) (h0:0≤a) (h1:0 < b) (h2:InR a) (h3:InR b) (h:Zm P kn lo n r (Zy S d (.int .i64 (a % b))) H K):Zm P kn lo n (⟨d,none,.ari .rem x y⟩ :: r) S H K:=by
 simp only [Zm,Xx,Xw,wRI,hx,hy];exact ⟨h0,h1,h2,h3,h⟩
theorem YY {a b:Int} (hx:evS S x=some (.int .i64 a)) (hy:evS S y=some (.int .i64 b)) (h2:InR (a+b)) (h:Zm P kn lo n r (Zy S d (.int .i64 (a+b))) H K):Zm P kn lo n (⟨d,none,.ari .add x y⟩ :: r) S H K:=by
 simp only [Zm,Xx,Xw,wRI,hx,hy];exact ⟨h2,h⟩
theorem Qx {b o len cap size k:Nat} {kd:IntKind} {j:Int} (hx:evS S x=some (.slice (some ⟨b,o,none⟩) len cap)) (hy:evS S y=some (.int kd j)) (hj:j=(k:Int)) (hk:k < len) (h:Zm P kn lo n r (Zy S d (.pointer (some ⟨b,o+k * size,none⟩))) H K):Zm P kn lo n (⟨d,none,.idx x y size⟩ :: r) S H K:=by
 simp only [Zm,Xx,Xw,wRI,hx,hy];exact ⟨k,hj,hk,h⟩
theorem ZgJ {a b:Int} (hx:evS S x=some (.int .i64 a)) (hy:evS S y=some (.int .i64 b)) (h2:InR (a - b)) (h:Zm P kn lo n r (Zy S d (.int .i64 (a - b))) H K):Zm P kn lo n (⟨d,none,.ari .sub x y⟩ :: r) S H K:=by
 simp only [Zm,Xx,Xw,wRI,hx,hy];exact ⟨h2,h⟩
theorem YH {g:Nat} {t:Bool} {ri:RI} (hg:lk S g=some (.bool t)) (h:Zm P kn lo n (⟨d,none,ri⟩ :: r) S H K):Zm P kn lo n (⟨d,some (g,t),ri⟩ :: r) S H K:=by
 cases t<;>(simp only [Zm,Xx,hg] at h ⊢;exact h)
theorem Zbv {small:Bool} {a b:Int} (hx:evS S x=some (.int .i64 a)) (hy:evS S y=some (.int .i64 b)) (h:Zm P kn lo n r (Zy S d (.int .i64 (bif small then min a b else max a b))) H K):Zm P kn lo n (⟨d,none,.mm small x y⟩ :: r) S H K:=by
 simp only [Zm,Xx,Xw,wRI,hx,hy];exact h
theorem Zf8 {b o:Nat} {cs:List Value} {v:Value} (hx:evS S x=some (.pointer (some ⟨b,o,none⟩))) (hy:evS S y=some v) (hc:Cl H b cs) (hl:lo≤b) (hv:v.cells.toList=[v]) (h1:one v=true) (ho:o < cs.length)
  (h:∀ H1,Keep H H1 [b]→H1.next=H.next→Cl H1 b (cs.set o v)→Zm P kn lo n r (Zy S d undef) H1 K):Zm P kn lo n (⟨d,none,.st x y⟩ :: r) S H K:=by
 simp only [Zm,Xx,Xw,wRI,hx,hy]
 obtain ⟨_,e,l,g⟩:=id hc
 exact ⟨cs,e,l,g,hl,hv,h1,ho,fun H1 hH1=>by obtain ⟨a,b,c⟩:=WK hc hH1;exact h H1 a b c⟩
theorem XU {g:Nat} {t:Bool} {ri:RI} (hg:lk S g=some (.bool (!t))) (h:Zm P kn lo n r (Zy S d undef) H K):Zm P kn lo n (⟨d,some (g,t),ri⟩ :: r) S H K:=by
 cases t<;>(simp only [Zm,Xx,hg,Bool.not_true,Bool.not_false,cond_true,cond_false] at h ⊢;exact h)
theorem qx {e:TypeId} {z:List Value} (h:∀ H1,Keep H H1 []→H1.next=H.next+1→Cl H1 H.next z→Zm P kn lo n r (Zy S d (.pointer (some ⟨H.next,0,none⟩))) H1 K):Zm P kn lo n (⟨d,none,.alc e z⟩ :: r) S H K:=by
 simp only [Zm,Xx,Xw,wRI]
 intro H1 hH1
 obtain ⟨k1,n1,c1⟩:=ZO hH1
 exact h H1 k1 n1 c1
theorem Xm {o:Oper} {v:Value} {H':Hp} {k:Kd} (hd:Vl S o.op.operands.toList=true) (hp:Zn P (frS n S) o=none) (hh:Zv P lo (frS n S) H o=some (.val v H',k)) (hb:∀ b,k=.read b→b < H.next)
  (h:Zm P kn lo n r (Zy S d v) H' K):Zm P kn lo n (⟨d,none,.mem o⟩ :: r) S H K:=.inl ⟨hd,.inr ⟨hp,v,H',k,hh,hb,h⟩⟩
theorem Vf (hx:evS S x=some (.int .i64 a)) (hy:evS S y=some (.int .i64 b)) (h:Zm P kn lo n r (Zy S d (.bool (decide (a < b)))) H K):Zm P kn lo n (⟨d,none,.cmp .lss x y⟩ :: r) S H K:=by
 simp only [Zm,Xx,Xw,wRI,hx,hy];exact h
theorem Zag (hx:evS S x=some (.int .i64 a)) (hy:evS S y=some (.int .i64 b)) (h:∀ t,(decide (a < b))=t→Zm P kn lo n r (Zy S d (.bool t)) H K):Zm P kn lo n (⟨d,none,.cmpb .lss x y⟩ :: r) S H K:=by
 simp only [Zm,Xx,Xw,wRI,hx,hy];exact h
theorem jm (hx:evS S x=some (.int .i64 a)) (hy:evS S y=some (.int .i64 b)) (h:Zm P kn lo n r (Zy S d (.bool (decide (a > b)))) H K):Zm P kn lo n (⟨d,none,.cmp .gtr x y⟩ :: r) S H K:=by
 simp only [Zm,Xx,Xw,wRI,hx,hy];exact h
theorem ZdL (hx:evS S x=some (.int .i64 a)) (hy:evS S y=some (.int .i64 b)) (h:∀ t,(decide (a ≥ b))=t→Zm P kn lo n r (Zy S d (.bool t)) H K):Zm P kn lo n (⟨d,none,.cmpb .geq x y⟩ :: r) S H K:=by
 simp only [Zm,Xx,Xw,wRI,hx,hy];exact h
theorem jM (hx:evS S x=some (.int .i64 a)) (hy:evS S y=some (.int .i64 b)) (h:Zm P kn lo n r (Zy S d (.bool (a == b))) H K):Zm P kn lo n (⟨d,none,.cmp .eql x y⟩ :: r) S H K:=by
 simp only [Zm,Xx,Xw,wRI,hx,hy];exact h
theorem UU (hx:evS S x=some (.int .i64 a)) (hy:evS S y=some (.int .i64 b)) (h:∀ t,(a == b)=t→Zm P kn lo n r (Zy S d (.bool t)) H K):Zm P kn lo n (⟨d,none,.cmpb .eql x y⟩ :: r) S H K:=by
 simp only [Zm,Xx,Xw,wRI,hx,hy];exact h
theorem zx (hx:evS S x=some (.int .i64 a)) (hy:evS S y=some (.int .i64 b)) (h:Zm P kn lo n r (Zy S d (.bool (a != b))) H K):Zm P kn lo n (⟨d,none,.cmp .neq x y⟩ :: r) S H K:=by
 simp only [Zm,Xx,Xw,wRI,hx,hy];exact h
theorem WD (hx:evS S x=some (.int .i64 a)) (hy:evS S y=some (.int .i64 b)) (h:∀ t,(a != b)=t→Zm P kn lo n r (Zy S d (.bool t)) H K):Zm P kn lo n (⟨d,none,.cmpb .neq x y⟩ :: r) S H K:=by
 simp only [Zm,Xx,Xw,wRI,hx,hy];exact h
end
end Go.Ax

/-! Code whose outcome hangs on what is drawn,4: ranges over functions. -/
namespace Go.Ax
open Go Go.RowKit
noncomputable section
section
variable {P:Program} {kn:Kn} {lo n:Nat}
def YU (P:Program) (lo n:Nat) (c:Code) (S:Rg) (H:Hp) (K:Exit→Rg→Hp→List Deferred→Prop):Prop:=
 ∀ (base:Nat) (r:Ren) (w:World) (A:Fr) (tmps:Array Value) (ds:List Deferred) (cs:List Frame) (k:List Item),
  lo≤H.next→Rel P r base H w→FrR r A tmps ds none→A.n=n→A.round=none→(P.funcs[A.fn]?).isSome=true→ZT S A.T→
  ∃ e S' H' T' D,K e S' H' D∧ZT S' T'∧Z1 P lo base r H w (lone (mkF A.fn tmps (.code c :: k) ds .normal none) cs w) .normal none (fun _=>cs) k A e { A with T:=T',defers:=D ++ A.defers } H' none
theorem YU.of {c:Code} {S:Rg} {H:Hp} {K:Exit→Rg→Hp→List Deferred→Prop} (h:Yn P lo n false c S H fun e S' H'=>K e S' H' []):YU P lo n c S H K:=by
 intro base r w A tmps ds cs k hlo hrel hF hn hr _ hS
 obtain ⟨e,S',H',T',a,b,q⟩:=h base r w A tmps ds none cs k hlo hrel hF hn (by rw [hr];rfl) hS
 exact ⟨e,S',H',T',[],a,b,q⟩
theorem YU.mono {c:Code} {S:Rg} {H:Hp} {K K':Exit→Rg→Hp→List Deferred→Prop} (h:YU P lo n c S H K) (hk:∀ e S' H' D,K e S' H' D→K' e S' H' D):YU P lo n c S H K':=by
 intro base r w A tmps ds cs k hlo hrel hF hn hr hf hS
 obtain ⟨e,S',H',T',D,a,b⟩:=h base r w A tmps ds cs k hlo hrel hF hn hr hf hS
 exact ⟨e,S',H',T',D,hk _ _ _ _ a,b⟩
theorem YU.seq {x y:Code} {S:Rg} {H:Hp} {K:Exit→Rg→Hp→List Deferred→Prop} (h:YU P lo n x S H fun e S' H' D=>match e with | .normal=>YU P lo n y S' H' (fun e S2 H2 D2=>K e S2 H2 (D2 ++ D)) | e=>K e S' H' D):YU P lo n (.seq x y) S H K:=by
 intro base r w A tmps ds cs k hlo hrel hF hn hr hf hS
 obtain ⟨e,S1,H1,T1,D1,a,b,q⟩:=h base r w A tmps ds cs (.code y :: k) hlo hrel hF hn hr hf hS
 cases e with
 | normal=>
  obtain ⟨r1,w1,tm1,ds1,pc1,post,hF1,hsm,hp1,harr,_⟩:=q
  have harr:Steps P _ (lone (mkF A.fn tm1 (.code y :: k) ds1 .normal none) cs w1):=harr
  obtain ⟨e2,S2,H2,T2,D2,a2,b2,q2⟩:=a base r1 w1 { A with T:=T1,defers:=D1 ++ A.defers } tm1 ds1 cs k (Nat.le_trans hlo post.next) post.rel hF1 hn hr hf b
  refine ⟨e2,S2,H2,T2,D2 ++ D1,a2,b2,?_⟩
  rw [List.append_assoc]
  exact Z1.of_steps (Steps.one zm) (Z1.of_steps harr (Z1.after hlo post hsm q2))
 | _=>exact ⟨_,S1,H1,T1,D1,a,b,Z1.of_steps (Steps.one zm) (q.left (fun id _=>by simp [exitTo]) (by simp))⟩
theorem YU.block {id:Nat} {b:Code} {S:Rg} {H:Hp} {K:Exit→Rg→Hp→List Deferred→Prop} (h:YU P lo n b S H fun e S' H' D=>match e with | .exit j=>(bif Nat.beq j id then K .normal S' H' D else K (.exit j) S' H' D) | e=>K e S' H' D):YU P lo n (.block id b) S H K:=by
 intro base r w A tmps ds cs k hlo hrel hF hn hr hf hS
 obtain ⟨e,S1,H1,T1,D1,a,b,q⟩:=h base r w A tmps ds cs (.inBlock id :: k) hlo hrel hF hn hr hf hS
 cases e with
 | normal=>
  refine ⟨.normal,S1,H1,T1,D1,a,b,Z1.of_steps (Steps.one Wp) ?_⟩
  obtain ⟨r1,w1,tm1,ds1,pc1,p1,p2,p3,p4,p5,p6⟩:=q
  exact ⟨r1,w1,tm1,ds1,pc1,p1,p2,p3,p4,Steps.trans p5 (Steps.one Qu),p6⟩
 | exit j=>
  simp only at a
  cases hj:Nat.beq j id with
  | true=>
   rw [hj] at a
   have hji:j=id:=Nat.eq_of_beq_eq_true hj
   subst hji
   obtain ⟨r',w',tmps',ds',pc',h1,h2,h3,h4,⟨kx,hk,hs⟩,h6⟩:=q
   have hk':exitTo j kx=some k:=by rw [hk];simp [exitTo]
   exact ⟨.normal,S1,H1,T1,D1,a,b,Z1.of_steps (Steps.one Wp) ⟨r',w',tmps',ds',pc',h1,h2,h3,h4,hs.trans (Steps.one (ja hk')),h6⟩⟩
  | false=>
   rw [hj] at a
   refine ⟨.exit j,S1,H1,T1,D1,a,b,Z1.of_steps (Steps.one Wp) (q.left (fun id' hid=>?_) (by simp))⟩
   cases hid
   have hne:id≠j:=by rintro rfl;simp at hj
   simp [exitTo,hne]
 | _=>exact ⟨_,S1,H1,T1,D1,a,b,Z1.of_steps (Steps.one Wp) (q.left (fun id' hid=>by cases hid) (by simp))⟩
theorem YU.scope {c:Code} {S:Rg} {H:Hp} {K:Exit→Rg→Hp→List Deferred→Prop} (h:YU P lo n c S H K):YU P lo n (.scope c) S H K:=by
 intro base r w A tmps ds cs k hlo hrel hF hn hr hf hS
 obtain ⟨e,S1,H1,T1,D1,a,b,q⟩:=h base r w A tmps ds cs (.inScope c :: k) hlo hrel hF hn hr hf hS
 cases e with
 | normal=>
  refine ⟨.normal,S1,H1,T1,D1,a,b,Z1.of_steps (Steps.one Ut) ?_⟩
  obtain ⟨r1,w1,tm1,ds1,pc1,p1,p2,p3,p4,p5,p6⟩:=q
  exact ⟨r1,w1,tm1,ds1,pc1,p1,p2,p3,p4,Steps.trans p5 (Steps.one QD),p6⟩
 | _=>exact ⟨_,S1,H1,T1,D1,a,b,Z1.of_steps (Steps.one Ut) (q.left (fun id _=>by simp [exitTo]) (by simp))⟩

theorem Zhg (hm:P.follows .mixedOrders=true) {H:Hp} {l:Nat} {S S1:Rg} {ps:List Tmp} {asg body:Code} {rc:Nat} {pe:Option Code} {args:List Value} {Q:Bool→Hp→Prop} (hl:Lp P H l .ready pe n S ps asg body rc) (hll:lo≤l) (hps:ps.all (fun t=>Nat.blt t n)=true) (hb:J9 ps args S=some S1)
  (h:Yn P lo n true asg S1 H fun e S2 H1=>(match e with | .normal=>True | _=>False)∧Lp P H1 l .ready pe n S ps asg body rc∧∀ H2,UE H1 l .busy pe H2→Yn P lo n true body S2 H2 fun e S3 H3=>Lp P H3 l .busy pe n S ps asg body rc∧
   (match e with | .normal=>∀ H4,UE H3 l .ready none H4→Q true H4 | .ret=>∀ H4,UE H3 l .done (some .ret) H4→Q false H4 | .exit id=>∀ H4,UE H3 l .done (some (.exit id)) H4→Q false H4 | _=>False)) :
  Wd P lo (.fn (.yield l) #[]) args H fun v H'=>∃ b,v=.bool b∧Q b H':=by
 obtain ⟨fn,T,hget,hfn,hk⟩:=hl
 obtain ⟨T1,hst,hk1⟩:=jA ps args S S1 T hk hb
 intro r base w t' args' hlo hrel ht hargs
 obtain ⟨f',cap',rfl,hf,hcap⟩:=ht
 cases hf with
 | yield hloc=>
 rename_i loc
 obtain ⟨R,c1,c2,c3,c4,c5,c6,c7,c8,l9,c9,c10⟩:=hrel.cont _ _ _ hloc hget
 subst c3 c4 c6 c7 c8
 have hT:=JE hst c5 (fun t ht=>by have:=List.all_eq_true.1 hps t ht;simpa [Nat.blt_eq] using this) hargs
 have hsz:args'.size=R.params.size:=by
  have a:=Uw hst
  have b:=hargs.1
  simp at a b
  omega
 have htm:(R.params.zip args').foldl (fun tmps (t,a)=>tmps.setIfInBounds t a) R.tmps=(R.params.toList.zip args'.toList).foldl (fun tmps (x:Tmp × Value)=>tmps.setIfInBounds x.1 x.2) R.tmps:=by
  rw [← Array.foldl_toList,Array.toList_zip]
 refine ⟨.round loc.blk R.fn _ R.assign R.body,_,run_yield c1 hsz,rfl,?_⟩
 rw [htm]
 generalize (R.params.toList.zip args'.toList).foldl (fun tmps (x:Tmp × Value)=>tmps.setIfInBounds x.1 x.2) R.tmps=tm at hT
 intro c rest
 obtain ⟨e,S2,H1,T2,⟨he,hl1,hbody⟩,hk2,q⟩:=h base r w { fn:=R.fn,n,T:=T1,defers:=[],round:=some l } tm [] (some loc.blk) (c :: rest) [.beginRound,.code R.body] hlo hrel ⟨hT,.nil,⟨loc,hloc,rfl⟩⟩ rfl rfl hk1
 cases e<;>simp only at he
 obtain ⟨r1,w1,tm1,ds1,pc1,hp1,hF1,hS1,hpp1,hArr1,_⟩:=q
 have hArr1:Steps P (lone (Frame.round loc.blk R.fn tm R.assign R.body .normal) (c :: rest) w) (lone (mkF R.fn tm1 [.beginRound,.code R.body] ds1 .normal (some loc.blk)) (c :: rest) w1):=hArr1
 obtain ⟨fn1,Ta,hget1,hfn1,hka⟩:=hl1
 have hloc1:=hp1.le _ _ hloc
 obtain ⟨R1,d1,d2,d3,d4,d5,d6,d7,d8,l9',d9,d10⟩:=hp1.rel.cont _ _ _ hloc1 hget1
 have hbeg:=run_beginRound (P:=P) d1 d2
 have hlt1:=(hp1.rel.at hloc1 hget1 rfl).2
 have hp2:=Zt.change (lo:=lo) hp1.rel hloc1 ⟨_,hget1,by simp,rfl⟩ hll (o:=.lp .busy _ fn1 n Ta _ _ _ rc) (w':=w1.putObj loc.blk (.loop { R1 with state:=.busy })) World.putObj_size (fun k hk=>World.putObj_heap_other hk) ⟨rfl,rfl,rfl⟩
  ⟨{ R1 with state:=.busy },World.putObj_heap_same hlt1,rfl,d3,d4,d5,d6,d7,d8,l9',d9,d10⟩
 have hlo1:lo≤H1.next:=Nat.le_trans hlo hp1.next
 obtain ⟨e,S3,H3,T3,⟨hl3,hq⟩,hk3,q⟩:=hbody _ (VV hget1) base r1 _ { fn:=R.fn,n,T:=T2,defers:=[],round:=some l } tm1 ds1 (some loc.blk) (c :: rest) [] hlo1 hp2.rel hF1 rfl rfl hk2
 obtain ⟨r3,w3,tm3,ds3,pc3,hp3,hF3,hS3,_,hArr3,_⟩:=q
 have hp13:=(hp1.trans hlo hp2).trans hlo hp3
 have hloc3:=hp3.le _ _ hloc1
 have hM:Steps P (lone (Frame.round loc.blk R.fn tm R.assign R.body .normal) (c :: rest) w) (lone (mkF R.fn tm1 [.code R.body] ds1 .normal (some loc.blk)) (c :: rest) (w1.putObj loc.blk (.loop { R1 with state:=.busy }))):=
  hArr1.trans (Steps.one (Qo hbeg))
 obtain ⟨fn3,Tb,hget3,hfn3,hkb⟩:=hl3
 obtain ⟨R3,q1,q2,q3,q4,q5,q6,q7,q8,l9'',q9,q10⟩:=hp3.rel.cont _ _ _ hloc3 hget3
 have hlt3:=(hp3.rel.at hloc3 hget3 rfl).2
 have hds:ds3=[]:=by
  have:=hF3.D
  cases this
  rfl
 subst hds
 have put:∀ (st:LoopState) (pe:Option Code),Zt P lo base r H w r3 { H3 with t:=H3.t.set l (.lp st pe fn3 n Tb R.params.toList R.assign R.body rc) } (w3.putObj loc.blk (.loop { R3 with state:=st,pending:=pe })):=fun st pe=>
  hp13.trans hlo (Zt.change (lo:=lo) hp3.rel hloc3 ⟨_,hget3,by simp,rfl⟩ hll (o:=.lp st pe fn3 n Tb R.params.toList R.assign R.body rc) (w':=w3.putObj loc.blk (.loop { R3 with state:=st,pending:=pe })) World.putObj_size (fun k hk=>World.putObj_heap_other hk) ⟨rfl,rfl,rfl⟩
   ⟨{ R3 with state:=st,pending:=pe },World.putObj_heap_same hlt3,rfl,rfl,q4,q5,q6,q7,q8,l9'',q9,q10⟩)
 cases e with
 | normal=>exact ⟨.bool true,_,r3,_,⟨true,rfl,hq _ (VV hget3)⟩,put .ready none,_,.bool true,(hM.trans hArr3).trans (Steps.one (Jh (run_endRound none q1)))⟩
 | ret=>
  obtain ⟨kx,hs⟩:=hArr3
  exact ⟨.bool false,_,r3,_,⟨false,rfl,hq _ (VV hget3)⟩,put .done (some .ret),_,.bool false,(hM.trans hs).trans (Steps.one (Jn (run_endRound (some .ret) q1)))⟩
 | exit id=>
  obtain ⟨kx,hx,hs⟩:=hArr3
  exact ⟨.bool false,_,r3,_,⟨false,rfl,hq _ (VV hget3)⟩,put .done (some (.exit id)),_,.bool false,(hM.trans hs).trans (Steps.one (Qi (hx.trans rfl) (run_endRound (some (.exit id)) q1)))⟩
 | _=>exact hq.elim

theorem YU.range {fo:Operand} {ps:Array Tmp} {asg body:Code} {S:Rg} {H:Hp} {K:Exit→Rg→Hp→List Deferred→Prop} {fn:Fn} {first cap:Array Value} (hfo:evS S fo=some (.func fn first cap))
  (h:∀ H1,Keep H H1 []→H1.next=H.next+2→H1.t.get H.next=some (.dfr (some []))→Lp P H1 (H.next+1) .ready none n S ps.toList asg body H.next→
   ∃ Q:Value→Hp→Prop,Wd P lo (.fn fn cap) (first.toList ++ [.func (.yield (H.next+1)) #[] #[]]) H1 Q∧∀ v H2,Q v H2→∃ st pe S',Lp P H2 (H.next+1) st pe n S' ps.toList asg body H.next∧st≠.busy∧
    ∀ H3,UE H2 (H.next+1) .exhausted pe H3→match pe with | none=>K .normal S H3 [{ target:=.collected H.next,args:=#[] }] | some (.exit id)=>K (.exit id) S H3 [{ target:=.collected H.next,args:=#[] }] | some .ret=>K .ret S H3 [{ target:=.collected H.next,args:=#[] }] | _=>False) :
  YU P lo n (.rangeFunc fo ps asg body) S H K:=by
 intro base r w A tmps ds cs k hlo hrel hF hn hrd hfn hS
 have kv:=evR hF.T (ZU hS hfo)
 generalize hg:evT tmps fo=u at kv
 cases kv with
 | func kfn s1 k1 s2 k2=>
  rename_i fn' A2 B2
  have post1:Zt P lo base r H w (r.add H.next ⟨w.heap.size,0,none⟩) (H.new (.dfr (some []))) (w.alloc (.deferred (some []))):=
   Zt.fresh hrel hlo (x:=.deferred (some [])) rfl ⟨rfl,rfl,rfl⟩ ⟨[],rfl,.nil⟩
  have e0:(r.add H.next ⟨w.heap.size,0,none⟩) H.next=some ⟨w.heap.size,0,none⟩:=Ren.add_same _ _ _
  have hlo1:lo≤(H.new (.dfr (some []))).next:=Nat.le_trans hlo (Nat.le_succ _)
  generalize hr1:r.add H.next ⟨w.heap.size,0,none⟩=r1 at post1 e0
  have hn1:=post1.rel.none_next
  have hle2:=Ren.le_add (⟨(w.alloc (.deferred (some []))).heap.size,0,none⟩:Loc) hn1
  have post2:=Zt.fresh post1.rel hlo1 (o:=.lp .ready none A.fn A.n A.T ps.toList asg body H.next)
   (x:=.loop { state:=.ready,pending:=none,fn:=A.fn,tmps,params:=ps,assign:=asg,body,defers:=w.heap.size }) (lz:=none)
   (w':=(w.alloc (.deferred (some []))).alloc (.loop { state:=.ready,pending:=none,fn:=A.fn,tmps,params:=ps,assign:=asg,body,defers:=w.heap.size })) rfl ⟨rfl,rfl,rfl⟩
   ⟨_,rfl,rfl,rfl,rfl,(hF.T.mono post1.le).mono hle2,rfl,rfl,rfl,_,hle2 _ _ e0,rfl⟩
  have e1:(r1.add (H.new (.dfr (some []))).next ⟨(w.alloc (.deferred (some []))).heap.size,0,none⟩) (H.next+1)=some ⟨w.heap.size+1,0,none⟩:=by
   have:=Ren.add_same r1 (H.new (.dfr (some []))).next ⟨(w.alloc (.deferred (some []))).heap.size,0,none⟩
   rw [World.size_alloc] at this ⊢
   exact this
  have e00:=hle2 _ _ e0
  have post:=post1.trans hlo post2
  clear post2 hle2
  generalize hr2:r1.add (H.new (.dfr (some []))).next ⟨(w.alloc (.deferred (some []))).heap.size,0,none⟩=r2 at post e1 e00
  obtain ⟨Q,hcall,hQ⟩:=h ((H.new (.dfr (some []))).new (.lp .ready none A.fn A.n A.T ps.toList asg body H.next))
   ⟨by show H.next≤H.next+1+1;omega,fun b hb _=>by simp only [Hp.new,Tr.get_set];rw [if_neg (by omega),if_neg (by omega)],fun b cs hb hg=>by
    have hb:b < H.next+1+1:=hb
    simp only [Hp.new,Tr.get_set] at hg
    by_cases e1:b=H.next+1
    ·rw [if_pos e1] at hg;cases hg
    ·rw [if_neg e1] at hg
     by_cases e2:b=H.next
     ·rw [if_pos e2] at hg;cases hg
     ·rw [if_neg e2] at hg;exact ⟨by omega,hg⟩⟩ rfl (by simp only [Hp.new,Tr.get_set];rw [if_neg (by omega),if_pos trivial]) ⟨A.fn,A.T,by simp only [Hp.new,Tr.get_set];rw [if_pos trivial,hn],hfn,hS⟩
  generalize hH2:(H.new (.dfr (some []))).new (.lp .ready none A.fn A.n A.T ps.toList asg body H.next)=H2 at post hcall
  generalize hw2:(w.alloc (.deferred (some []))).alloc (.loop { state:=.ready,pending:=none,fn:=A.fn,tmps,params:=ps,assign:=asg,body,defers:=w.heap.size })=w2 at post
  have henter:=run_enterLoop_outer (P:=P) (w:=w) A.fn tmps ps asg body
  rw [hw2] at henter
  have hargs:LR r2 (first.toList ++ [.func (.yield (H.next+1)) #[] #[]]) (A2 ++ #[Value.func (.yield (w.heap.size+1)) #[] #[]]).toList:=by
   have a:=(Y6.2 ⟨s1,k1⟩).mono post.le
   have b:LR r2 [.func (.yield (H.next+1)) #[] #[]] [.func (.yield (w.heap.size+1)) #[] #[]]:=
    LR.cons (.func (.yield e1) rfl (fun i v v' q=>by simp at q) rfl (fun i v v' q=>by simp at q)) LR.nil
   have:=LR.append a b
   simpa using this
  have hres:(resolve (evT tmps) (rangeCall fo (w.heap.size+1)) 0).run P w2=.ok { target:=.fn fn' B2,args:=A2 ++ #[Value.func (.yield (w.heap.size+1)) #[] #[]] } w2:=by
   have hcst:∀ c,evT tmps (.const c)=c:=fun _=>rfl
   simp [resolve,Deferred.ofValue,hg,hcst]
  have hlo2:lo≤H2.next:=Nat.le_trans hlo post.next
  obtain ⟨nx,fr0,hi,hfo',hrest⟩:=hcall r2 base w2 (.fn fn' B2) _ hlo2 post.rel ⟨_,_,rfl,kfn.mono post.le,(Y6.2 ⟨s2,k2⟩).mono post.le⟩ hargs
  obtain ⟨v,H3,r3,w3,hq,post3,v',hv,hsteps⟩:=hrest (mkF A.fn tmps (.inRangeFunc (w.heap.size+1) :: k) ([{ target:=.collected w.heap.size,args:=#[] }] ++ ds) .normal none) cs
  have hstep:=QV (k:=k) (ds:=ds) (kind:=.normal) (cs:=cs) henter hres hi hfo'
  have pp:=post.trans hlo post3
  have hF1:FrR r3 ({ fn:=A.fn,n:=A.n,T:=A.T,defers:={ target:=.collected H.next,args:=#[] } :: A.defers,round:=A.round }:Fr) tmps ([{ target:=.collected w.heap.size,args:=#[] }] ++ ds) none:=by
   have:=hF.mono pp.le
   refine ⟨this.T,?_,this.R⟩
   exact DsR.cons ⟨⟨_,post3.le _ _ e00,rfl⟩,LR.nil⟩ this.D
  obtain ⟨st,pe,S',⟨fn3,T3,hget,hfn3,hk3⟩,hst,hK⟩:=hQ v H3 hq
  have hl3:r3 (H.next+1)=some ⟨w.heap.size+1,0,none⟩:=post3.le _ _ e1
  obtain ⟨R,c1,c2,c3,c4,c5,c6,c7,c8,l9,c9,c10⟩:=post3.rel.cont _ _ _ hl3 hget
  have hend':(Instr.endLoop (w.heap.size+1)).run P w3=.ok pe (w3.putObj (w.heap.size+1) (.loop { R with state:=.exhausted })):=by
   rw [run_endLoop c1 (by rw [c2];exact hst),c3]
  have hlt:w.heap.size+1 < w3.heap.size:=(post3.rel.at hl3 hget rfl).2
  have post4:=Zt.change (lo:=lo) post3.rel hl3 ⟨_,hget,by simp,rfl⟩ (by omega) (o:=.lp .exhausted pe fn3 n T3 ps.toList asg body H.next) (w':=w3.putObj (w.heap.size+1) (.loop { R with state:=.exhausted })) (World.putObj_size) (fun k hk=>World.putObj_heap_other hk) ⟨rfl,rfl,rfl⟩
   ⟨{ R with state:=.exhausted },World.putObj_heap_same hlt,rfl,c3,c4,c5,c6,c7,c8,l9,c9,c10⟩
  have pq:=pp.trans hlo post4
  rw [Q0] at hsteps
  have hall:=(Steps.head hstep hsteps).trans (Steps.one (Uo (k:=k) hend'))
  have hK:=hK _ (VV (st:=.exhausted) (pe:=pe) hget)
  cases pe with
  | none=>exact ⟨.normal,S,_,A.T,[{ target:=.collected H.next,args:=#[] }],hK,hS,r3,_,tmps,_,none,pq,hF1,⟨rfl,rfl,rfl⟩,rfl,hall,fun _=>rfl⟩
  | some c=>
   cases c<;>simp only at hK
   ·exact ⟨.exit _,S,_,A.T,[{ target:=.collected H.next,args:=#[] }],hK,hS,r3,_,tmps,_,none,pq,hF1,⟨rfl,rfl,rfl⟩,rfl,⟨_,rfl,hall⟩,fun _=>rfl⟩
   ·exact ⟨.ret,S,_,A.T,[{ target:=.collected H.next,args:=#[] }],hK,hS,r3,_,tmps,_,none,pq,hF1,⟨rfl,rfl,rfl⟩,rfl,⟨_,hall⟩,fun _=>rfl⟩
theorem j7 {f:FuncId} {fn:Func} {c:Code} {args:List Value} {H:Hp} {Q:Value→Hp→Prop} (hf:P.funcs[f]? = some fn) (hc:fn.body=some c) (hl:args.length≤fn.ntmps)
  (h:YU P lo fn.ntmps c (VS args 0) H fun e S' H' D=>(match e with | .normal=>True | .ret=>True | _=>False)∧
   ((D=[]∧∃ vs,Wt P S' H' fn.results.toList=some vs∧Q (X7 vs) H')∨
    ∃ r,D=[{ target:=.collected r,args:=#[] }]∧lo≤r∧H'.t.get r=some (.dfr (some []))∧∀ H2,H2.next=H'.next→Keep H' H2 [r]→∃ vs,Wt P S' H2 fn.results.toList=some vs∧Q (X7 vs) H2)):FnM P lo f args H Q:=by
 refine ⟨⟨fn,c,hf,hc⟩,fun r base w args' hlo hrel hargs c0 rest=>?_⟩
 have hent:Frame.enter P f args' .normal=mkF f (args' ++ Array.replicate (fn.ntmps - args'.size) undef) [.code c] [] .normal none:=by
  simp [Frame.enter,mkF,hf,hc]
 have hT:=V9 hargs fn.ntmps hl
 obtain ⟨e,S1,H1,T1,D,⟨he,hcase⟩,hk,r1,w1,tm,ds,pc1,hpost,hF,hS,hp1,hArr,_⟩:=h base r w { fn:=f,n:=fn.ntmps,T:=Qf args 0 .nil,defers:=[],round:=none } _ [] (c0 :: rest) [] hlo hrel ⟨hT,.nil,rfl⟩ rfl rfl (by rw [hf];rfl) (Ww args)
 simp only at hArr
 rw [← hent] at hArr
 have last:∀ g H2 vs,Wt P S1 H2 fn.results.toList=some vs→Z4 P lo (fun _ _ _ _=>none) fn (g+1) { fn:=f,n:=fn.ntmps,T:=T1,defers:=[],round:=none } H2 none=some (.ret (X7 vs),H2):=by
  intro g H2 vs hres
  rw [Z4]
  simp only [Qv (A:={ fn:=f,n:=fn.ntmps,T:=T1,defers:=[],round:=none }) hk hres]
  match vs with
  | []=>rfl
  | [v]=>rfl
  | v :: u :: r=>rfl
 have hu:∃ v H2,Q v H2∧Z4 P lo (fun _ _ _ _=>none) fn 2 { fn:=f,n:=fn.ntmps,T:=T1,defers:=D ++ [],round:=none } H1 none=some (.ret v,H2):=by
  rcases hcase with ⟨rfl,vs,hres,hq⟩ | ⟨rr,rfl,hlr,hg,hcase⟩
  ·exact ⟨_,_,hq,last 1 H1 vs hres⟩
  ·obtain ⟨vs,hres,hq⟩:=hcase { H1 with t:=H1.t.set rr (.dfr none) } rfl (jC (fun cs e=>by cases e))
   refine ⟨_,_,hq,?_⟩
   rw [Z4]
   simp only [List.append_nil,hg,Nat.ble_eq_true_of_le hlr,cond_true,List.nil_append]
   exact last 0 _ vs hres
 obtain ⟨v,H2,hq,hu⟩:=hu
 have hD:jK P lo (fun _ _ _ _=>none):=fun f cap args H p e H' p' h=>by cases h
 have fin:∀ (todo:List Item),Steps P (lone (Frame.enter P f args' .normal) (c0 :: rest) w) (lone { mkF f tm todo ds .normal none with mode:=.returning } (c0 :: rest) w1)→∃ v H' r' w',Q v H'∧Zt P lo base r H w r' H' w'∧∃ v',VR r' v v'∧Steps P (lone (Frame.enter P f args' .normal) (c0 :: rest) w) (lone (c0.finish v') rest w'):=by
  intro todo hs
  obtain ⟨r',w',fr',q1,q2,q3,q4,q5⟩:=VQ hD hf 2 r1 w1 _ H1 ds none none _ H2 hu (Nat.le_trans hlo hpost.next) hpost.rel hF.D rfl { mkF f tm todo ds .normal none with mode:=.returning } (c0 :: rest) hF.T rfl rfl rfl
  obtain ⟨v',hv,⟨a,b,d⟩⟩:=q5
  exact ⟨v,H2,r',w',hq,hpost.trans hlo q1,v',hv,(hs.trans q4).trans (Steps.one (step_leave_returned ⟨a,b,by rw [q3];rfl,d⟩))⟩
 cases e with
 | normal=>exact fin [] (hArr.trans (Steps.one yQ))
 | ret=>
  obtain ⟨kx,hs⟩:=hArr
  exact fin _ (hs.trans (Steps.one qK))
 | _=>exact he.elim
end
end
end Go.Ax

/-! Maps whose keys and values are Z0: the operations,and ranges over them. -/
namespace Go.Ax
open Go Go.RowKit
noncomputable section
section
variable {P:Program} {kn:Kn} {lo n:Nat} {α:Type} [DecidableEq α] {enc:α→Value}
def Mpa (enc:α→Value) (H:Hp) (b:Nat) (L:ML α) (c:Nat):Prop:=b < H.next∧H.t.get b=some (.mp (mEs enc L) c)
def Ita (H:Hp) (r m c:Nat) (D:ML α):Prop:=r < H.next∧H.t.get r=some (.it (some m) c (D.map (·.2.2)).toArray c)
theorem Keep.mpa {H H1:Hp} {l:List Nat} (k:Keep H H1 l) {b:Nat} {L:ML α} {c:Nat} (h:Mpa enc H b L c) (hb:b ∉ l):Mpa enc H1 b L c:=⟨Nat.lt_of_lt_of_le h.1 k.le,by rw [k.same b h.1 hb];exact h.2⟩
theorem Keep.ita {H H1:Hp} {l:List Nat} (k:Keep H H1 l) {r m c:Nat} {D:ML α} (h:Ita H r m c D) (hb:r ∉ l):Ita H1 r m c D:=⟨Nat.lt_of_lt_of_le h.1 k.le,by rw [k.same r h.1 hb];exact h.2⟩
theorem Q4 {H:Hp} {b:Nat} {o:Ob} (ho:∀ cs,o≠.ro cs):Keep H { H with t:=H.t.set b o } [b]∧({ H with t:=H.t.set b o }:Hp).t.get b=some o:=⟨jC ho,by simp only [Tr.get_set,if_true]⟩
theorem zQ {H:Hp} {o:Ob} (ho:∀ cs,o≠.ro cs):Keep H (H.new o) []∧(H.new o).next=H.next+1∧(H.new o).t.get H.next=some o:=by
 refine ⟨⟨Nat.le_succ _,fun b hb _=>?_,fun b cs hb hg=>?_⟩,rfl,?_⟩
 ·simp only [Hp.new,Tr.get_set];rw [if_neg (by omega)]
 ·have hb:b < H.next+1:=hb
  simp only [Hp.new,Tr.get_set] at hg
  split at hg
  ·cases hg;exact absurd rfl (ho cs)
  ·exact ⟨by omega,hg⟩
 ·simp only [Hp.new,Tr.get_set,if_true]
theorem yd {S:Rg} {x y:Operand} {a b:Value} (hx:evS S x=some a) (hy:evS S y=some b):Vl S [x,y]=true:=by simp [Vl,hx,hy]
theorem Zgo {S:Rg} {x y z:Operand} {a b c:Value} (hx:evS S x=some a) (hy:evS S y=some b) (hz:evS S z=some c):Vl S [x,y,z]=true:=by simp [Vl,hx,hy,hz]
section
variable {tm tk te:TypeId} {S:Rg} {H:Hp} {x y:Operand} {b c:Nat} {L:ML α} {a:α} {z:Value} {dd:Option Tmp} {ty:TypeId} {p:String}
theorem z6 (k:XP P tk enc) (hu:P.underlying tm=some (.map tk te)) (hz:ZH P (zeroValue te)=some z) (hx:evS S x=some (.map (some b))) (hy:evS S y=some (enc a)) (hm:Mpa enc H b L c) (ok:Bool) (hf:J5 (if ok then .tuple #[(Yg a L).getD z,.bool (Yg a L).isSome] else (Yg a L).getD z)=true) :
  Zv P lo (frS n S) H ⟨dd,.lookup tm x y ok,ty,p,#[],none⟩=some (.val (if ok then .tuple #[(Yg a L).getD z,.bool (Yg a L).isSome] else (Yg a L).getD z) H,.read b):=by
 unfold Zv
 simp only [hu,Yo,hx,hy,hm.2,k.fl,cond_true,Zb2 k hu hz,hf]
theorem Zeq (k:XP P tk enc) (hu:P.underlying tm=some (.map tk te)) {w:Operand} {v:Value} (hx:evS S x=some (.map (some b))) (hy:evS S y=some (enc a)) (hw:evS S w=some v) (hm:Mpa enc H b L c) (hl:lo≤b) (hf:Z0 v=true) :
  Zv P lo (frS n S) H ⟨dd,.mapUpdate tm x y w,ty,p,#[],none⟩=some (.skip { H with t:=H.t.set b (.mp (mEs enc (Xo a v c L)) (Y8 a c L)) },.store b):=by
 unfold Zv
 simp only [Yo,hx,hy,hw,Vq,hu,hm.2,k.fl,hf,Nat.ble_eq_true_of_le hl,Bool.and_self,cond_true,qT k hu]
end
section
variable {r:List RO} {S:Rg} {H:Hp} {K:Rg→Hp→Prop} {d:Option Nat} {x y:Operand}
theorem ZfI {o:Oper} {H':Hp} {k:Kd} (hd:Vl S o.op.operands.toList=true) (hp:Zn P (frS n S) o=none) (hh:Zv P lo (frS n S) H o=some (.skip H',k)) (h:Zq P kn lo n r (Zy S d undef) H' K):Zq P kn lo n (⟨d,none,.mst o⟩ :: r) S H K:=⟨hd,hp,H',k,hh,h⟩
variable {tm tk te:TypeId} {b c:Nat} {L:ML α} {a:α} {z:Value} {dd:Option Tmp} {ty:TypeId} {p:String}
end
/-! Maps whose values point,step by step. -/
def Mqa (enc:α→Value) (H:Hp) (b:Nat) (L:ML α) (c:Nat):Prop:=b < H.next∧H.t.get b=some (.mq (mEs enc L) c)
theorem Keep.mqa {H H1:Hp} {l:List Nat} (k:Keep H H1 l) {b:Nat} {L:ML α} {c:Nat} (h:Mqa enc H b L c) (hb:b ∉ l):Mqa enc H1 b L c:=⟨Nat.lt_of_lt_of_le h.1 k.le,by rw [k.same b h.1 hb];exact h.2⟩
section
variable {r:List RO} {S:Rg} {H:Hp} {K:Rg→Hp→Prop} {d:Option Nat} {x y:Operand} {tm tk te:TypeId} {b c:Nat} {L:ML α} {a:α} {z:Value} {dd:Option Tmp} {ty:TypeId} {p:String}
theorem jZ (h:∀ H1,Keep H H1 []→H1.next=H.next+1→Mqa enc H1 H.next ([]:ML α) 0→Zm P kn lo n r (Zy S d (.map (some H.next))) H1 K):Zm P kn lo n (⟨d,none,.mem ⟨dd,.makeMap tm none,ty,p,#[],none⟩⟩ :: r) S H K:=by
 obtain ⟨k1,k2,k3⟩:=zQ (H:=H) (o:=.mq #[] 0) (fun cs e=>by cases e)
 exact .inr (h _ k1 k2 ⟨by rw [k2];omega,k3⟩)
theorem ZbC {m:Nat} (hx:evS S x=some (.map (some m))) (hm:Mqa enc H m L c) (h:∀ H1,Keep H H1 []→H1.next=H.next+1→Ita H1 H.next m c ([]:ML α)→Zm P kn lo n r (Zy S d (.pointer (some ⟨H.next,0,none⟩))) H1 K):Zm P kn lo n (⟨d,none,.rng x⟩ :: r) S H K:=by
 obtain ⟨k1,k2,k3⟩:=zQ (H:=H) (o:=.it (some m) c #[] c) (fun cs e=>by cases e)
 simp only [Zm,Xx,Xw,hx]
 exact ⟨_,c,.inr hm.2,fun H1 e=>by subst e;exact h _ k1 k2 ⟨by rw [k2];omega,k3⟩⟩
theorem ZgE (k:XP P tk enc) (hu:P.underlying tm=some (.map tk te)) (hz:ZH P (zeroValue te)=some z) (a:α) (L:ML α):ZH P (jT tm (mEs enc L) (enc a))=some ((Yg a L).getD z,(Yg a L).isSome):=by
 unfold jT
 simp only [YC,Wh hu,Option.bind_some,k.chk,k.find]
 rw [← VI a L 0]
 cases Wf a L 0 with
 | none=>simp only [YC,hz,Option.bind_some,Option.map_none,Option.getD_none,Option.isSome_none,XZ]
 | some q=>simp only [XZ,Option.map_some,Option.getD_some,Option.isSome_some]
theorem QC (k:XP P tk enc) (hu:P.underlying tm=some (.map tk te)) (hz:ZH P (zeroValue te)=some z) (hf:Z0 z=true) (hx:evS S x=some (.map (some b))) (hy:evS S y=some (enc a)) (hm:Mqa enc H b L c) (ok:Bool) :
  Zv P lo (frS n S) H ⟨dd,.lookup tm x y ok,ty,p,#[],none⟩=some (.val (bif ok then .tuple #[(Yg a L).getD z,.bool (Yg a L).isSome] else (Yg a L).getD z) H,.read b):=by
 have h1:((Yg a L).isSome || Z0 ((Yg a L).getD z))=true:=by
  cases Yg a L with
  | none=>simpa using hf
  | some v=>rfl
 unfold Zv
 simp only [hu,Yo,hx,hy,hm.2,k.fl,cond_true,ZgE k hu hz,h1]
theorem Zcc (k:XP P tk enc) (hu:P.underlying tm=some (.map tk te)) {w:Operand} {v:Value} (hx:evS S x=some (.map (some b))) (hy:evS S y=some (enc a)) (hw:evS S w=some v) (hm:Mqa enc H b L c) (hl:lo≤b) :
  Zv P lo (frS n S) H ⟨dd,.mapUpdate tm x y w,ty,p,#[],none⟩=some (.skip { H with t:=H.t.set b (.mq (mEs enc (Xo a v c L)) (Y8 a c L)) },.store b):=by
 unfold Zv
 simp only [Yo,hx,hy,hw,Vq,hu,hm.2,k.fl,Nat.ble_eq_true_of_le hl,Bool.and_self,cond_true,qT k hu]
theorem Zfc (k:XP P tk enc) (hu:P.underlying tm=some (.map tk te)) {w:Operand} {v:Value} (hx:evS S x=some (.map (some b))) (hy:evS S y=some (enc a)) (hw:evS S w=some v) (hm:Mqa enc H b L c) (hl:lo≤b)
  (h:∀ H1,Keep H H1 [b]→H1.next=H.next→Mqa enc H1 b (Xo a v c L) (Y8 a c L)→Zm P kn lo n r (Zy S d undef) H1 K):Zm P kn lo n (⟨d,none,.mst ⟨dd,.mapUpdate tm x y w,ty,p,#[],none⟩⟩ :: r) S H K:=by
 obtain ⟨k1,k2⟩:=Q4 (H:=H) (b:=b) (o:=.mq (mEs enc (Xo a v c L)) (Y8 a c L)) (fun cs e=>by cases e)
 exact .inr ⟨α,inferInstance,enc,tk,te,a,L,b,c,v,k,hu,hx,hy,hw,hm.2,hl,h _ k1 rfl ⟨hm.1,k2⟩⟩
theorem ZbZ {r0 m:Nat} {D:ML α} (hx:evS S x=some (.pointer (some ⟨r0,0,none⟩))) (hi:Ita H r0 m c D) (hm:Mqa enc H m L c) (hw:WfA L c) (hD:∀ y∈D,y∈L) (hk:∀ a,Z0 (enc a)=true) (hl:lo≤r0)
  (h0:(∀ y∈L,y∈D)→Zm P kn lo n r (Zy S d (.tuple #[.bool false])) H K)
  (h1:∀ y∈L,y ∉ D→∀ H1,Keep H H1 [r0]→H1.next=H.next→Ita H1 r0 m c (D ++ [y])→Zm P kn lo n r (Zy S d (.tuple #[.bool true,enc y.1,y.2.1])) H1 K):Zm P kn lo n (⟨d,none,.nxt x⟩ :: r) S H K:=by
 have left:∀ e,e∈(leftOf (mEs enc L) (D.map (·.2.2)).toArray).toList↔∃ y∈L,e=Xn enc y∧y.2.2 ∉ D.map (·.2.2):=by
  intro e
  unfold leftOf mEs
  simp only [List.filter_toArray,List.mem_filter,List.mem_map,Bool.not_eq_true',List.contains_toArray]
  constructor
  ·rintro ⟨⟨y,hy,rfl⟩,h⟩
   refine ⟨y,hy,rfl,fun hm=>?_⟩
   have:List.contains (List.map (fun x=>x.2.2) D) (Xn enc y).born=true:=List.contains_iff_mem.2 (List.mem_map.2 hm)
   rw [this] at h;cases h
  ·rintro ⟨y,hy,rfl,h⟩
   refine ⟨⟨y,hy,rfl⟩,?_⟩
   cases hc:List.contains (List.map (fun x=>x.2.2) D) (Xn enc y).born with
   | false=>rfl
   | true=>exact absurd (List.mem_map.1 (List.contains_iff_mem.1 hc)) h
 simp only [Zm,Xx,Xw,hx]
 refine .inr (.inl ⟨m,c,_,c,_,c,hi.2,hm.2,fun e he=>?_,Nat.le_refl _,hl,fun hz=>h0 fun y hy=>?_,fun e he H1 e1=>?_⟩)
 ·have he:e∈L.map (Xn enc):=by simpa [mEs] using he
  obtain ⟨y,hy,rfl⟩:=List.mem_map.1 he
  exact ⟨hw.lt y hy,hk _⟩
 ·have hnil:∀ e,e ∉ (leftOf (mEs enc L) (D.map (·.2.2)).toArray).toList:=by
   intro e he
   have:=List.length_pos_of_mem he
   simp at this
   omega
  have:y.2.2∈D.map (·.2.2):=Classical.byContradiction fun q=>hnil _ ((left _).2 ⟨y,hy,rfl,q⟩)
  obtain ⟨u,hu,he⟩:=List.mem_map.1 this
  have inj:∀ {L:ML α},(L.map (·.2.2)).Nodup→∀ p q,p∈L→q∈L→p.2.2=q.2.2→p=q:=by
   intro L
   induction L with
   | nil=>intro _ p q hp;cases hp
   | cons a l ih=>
    intro hn p q hp hq e
    simp only [List.map_cons,List.nodup_cons] at hn
    rcases List.mem_cons.1 hp with rfl | hp'<;>rcases List.mem_cons.1 hq with rfl | hq'
    ·rfl
    ·exact absurd (List.mem_map.2 ⟨q,hq',e.symm⟩:p.2.2∈l.map (·.2.2)) hn.1
    ·exact absurd (List.mem_map.2 ⟨p,hp',e⟩:q.2.2∈l.map (·.2.2)) hn.1
    ·exact ih hn.2 p q hp' hq' e
  rw [← inj hw.borns u y (hD u hu) hy he]
  exact hu
 ·obtain ⟨y,hy,rfl,hb⟩:=(left e).1 he
  subst e1
  obtain ⟨k1,k2⟩:=Q4 (H:=H) (b:=r0) (o:=.it (some m) c ((D.map (·.2.2)).toArray.push (Xn enc y).born) c) (fun cs e=>by cases e)
  refine h1 y hy (fun q=>hb (List.mem_map.2 ⟨y,q,rfl⟩)) _ k1 rfl ⟨hi.1,?_⟩
  have:((D ++ [y]).map (·.2.2)).toArray=(D.map (·.2.2)).toArray.push (Xn enc y).born:=by simp [Xn]
  rw [this]
  exact k2
theorem Zbs {r0 m:Nat} {D:ML α} {e:α × Value × Nat} (hx:evS S x=some (.pointer (some ⟨r0,0,none⟩))) (hi:Ita H r0 m c (D ++ [e])) (hm:Mqa enc H m L c) (hw:WfA L c) (he:e∈L) (hk:∀ a,Z0 (enc a)=true)
  (h:Zm P kn lo n r (Zy S d (.tuple #[enc e.1,e.2.1])) H K):Zm P kn lo n (⟨d,none,.ent x⟩ :: r) S H K:=by
 simp only [Zm,Xx,Xw,hx]
 refine ⟨m,c,(D.map (·.2.2)).toArray,c,mEs enc L,Xn enc e,?_,.inr hm.2,?_,?_,hk _,h⟩
 ·have:((D ++ [e]).map (·.2.2)).toArray=(D.map (·.2.2)).toArray.push (Xn enc e).born:=by simp [Xn]
  rw [← this]
  exact hi.2
 ·simp only [mEs];exact List.mem_map.2 ⟨e,he,rfl⟩
 ·have:(mEs enc L).toList.map (·.born)=L.map (·.2.2):=by simp [mEs,Xn,Function.comp_def]
  rw [this];exact hw.borns
end
/-! What has been given of a map. -/
open Classical in
theorem XN {β:Type}:∀ {D L:List β},D.Nodup→(∀ x∈D,x∈L)→D.length≤L.length
 | [],_,_,_=>Nat.zero_le _
 | x :: D,L,hn,hs=>by
  rw [List.nodup_cons] at hn
  have hx:=hs x (by simp)
  have:=XN (D:=D) (L:=L.erase x) hn.2 fun y hy=>(List.mem_erase_of_ne (fun e:y=x=>hn.1 (e ▸ hy))).2 (hs y (by simp [hy]))
  rw [List.length_erase_of_mem hx] at this
  have:=List.length_pos_of_mem hx
  simp only [List.length_cons]
  omega
open Classical in
theorem Uj {β:Type}:∀ {D L:List β},D.Nodup→L.Nodup→(∀ x,x∈D↔x∈L)→D.Perm L
 | [],L,_,_,h=>by
  have:L=[]:=List.eq_nil_iff_forall_not_mem.2 fun x hx=>by have:=(h x).2 hx;cases this
  subst this;exact .nil
 | x :: D,L,hn,hl,h=>by
  rw [List.nodup_cons] at hn
  have hx:=(h x).1 (by simp)
  have:=Uj (D:=D) (L:=L.erase x) hn.2 (hl.erase x) fun y=>by
   rw [hl.mem_erase_iff]
   constructor
   ·intro hy;exact ⟨fun e:y=x=>hn.1 (e ▸ hy),(h y).1 (by simp [hy])⟩
   ·rintro ⟨h1,h2⟩
    rcases List.mem_cons.1 ((h y).2 h2) with e | e
    ·exact absurd e h1
    ·exact e
  exact (List.Perm.cons x this).trans (List.perm_cons_erase hx).symm
theorem WfA.nodup {L:ML α} {c:Nat} (h:WfA L c):L.Nodup:=by
 have:=h.keys
 clear h
 induction L with
 | nil=>exact List.nodup_nil
 | cons x l ih=>
  simp only [List.map_cons,List.nodup_cons] at this
  exact List.nodup_cons.2 ⟨fun hx=>this.1 (List.mem_map.2 ⟨x,hx,rfl⟩),ih this.2⟩
end
end
end Go.Ax

/-! Lowered code with a range over a function,over the machine. -/
namespace Go.Ax
open Go Go.RowKit
noncomputable section
section
variable (P:Program) (kn:Kn) (lo n:Nat)
def UG:RC→Rg→Hp→(Exit→Rg→Hp→List Deferred→Prop)→Prop
 | .seq x y,S,H,K=>UG x S H fun e S' H' D=>match e with | .normal=>UG y S' H' (fun e S2 H2 D2=>K e S2 H2 (D2 ++ D)) | e=>K e S' H' D
 | .block id b,S,H,K=>UG b S H fun e S' H' D=>match e with | .exit j=>(bif Nat.beq j id then K .normal S' H' D else K (.exit j) S' H' D) | e=>K e S' H' D
 | .scp b,S,H,K=>UG b S H K
 | .other c,S,H,K=>YU P lo n c S H K
 | r,S,H,K=>wCM P kn lo n false r S H fun e S' H'=>K e S' H' []
end
section
variable {P:Program} {kn:Kn} {lo n:Nat}
theorem Vb (s:Snd P kn):∀ (c:Code) {rc:RC} {S:Rg} {H:Hp} {K:Exit→Rg→Hp→List Deferred→Prop},low P n c=some rc→UG P kn lo n rc S H K→YU P lo n c S H K
 | .seq x y,rc,S,H,K,hl,h=>by
  simp only [low] at hl
  split at hl<;>first | (cases hl;done) | skip
  rename_i a ha
  split at hl<;>first | (cases hl;done) | skip
  rename_i b hb
  cases hl
  simp only [UG] at h
  refine YU.seq ((Vb s x ha h).mono fun e S' H' D q=>?_)
  cases e with
  | normal=>exact Vb s y hb q
  | _=>exact q
 | .block id b,rc,S,H,K,hl,h=>by
  simp only [low] at hl
  split at hl<;>first | (cases hl;done) | skip
  rename_i a ha
  cases hl
  simp only [UG] at h
  exact YU.block (Vb s b ha h)
 | .scope b,rc,S,H,K,hl,h=>by
  simp only [low] at hl
  split at hl<;>first | (cases hl;done) | skip
  rename_i a ha
  cases hl
  simp only [UG] at h
  exact YU.scope (Vb s b ha h)
 | .loop b,rc,S,H,K,hl,h=>by simp only [low] at hl;cases hl;exact h
 | .rangeFunc fo ps a b,rc,S,H,K,hl,h=>by simp only [low] at hl;cases hl;exact h
 | .skip,rc,S,H,K,hl,h=>YU.of (Yh s .skip hl (by simp only [low] at hl;cases hl;exact h))
 | .label l,rc,S,H,K,hl,h=>YU.of (Yh s (.label l) hl (by simp only [low] at hl;cases hl;exact h))
 | .exit id,rc,S,H,K,hl,h=>YU.of (Yh s (.exit id) hl (by simp only [low] at hl;cases hl;exact h))
 | .ret,rc,S,H,K,hl,h=>YU.of (Yh s .ret hl (by simp only [low] at hl;cases hl;exact h))
 | .cond o x y,rc,S,H,K,hl,h=>YU.of (Yh s (.cond o x y) hl (by
  simp only [low] at hl
  split at hl<;>first | (cases hl;done) | skip
  split at hl<;>first | (cases hl;done) | skip
  cases hl;exact h))
 | .region id ops true,rc,S,H,K,hl,h=>YU.of (Yh s (.region id ops true) hl (by
  simp only [low,cond_true] at hl
  obtain ⟨_,hl⟩:=Zf hl
  split at hl<;>first | (cases hl;done) | skip
  cases hl;exact h))
 | .region id ops false,rc,S,H,K,hl,h=>YU.of (Yh s (.region id ops false) hl (by
  simp only [low,cond_false] at hl
  split at hl<;>first | (cases hl;done) | skip
  cases hl;exact h))
 | .goto l,rc,S,H,K,hl,h=>by simp only [low] at hl;cases hl
 | .refuse w,rc,S,H,K,hl,h=>by simp only [low] at hl;cases hl
theorem ZcZ {f:FuncId} {fn:Func} {R:RC} {n:Nat} {rs:List ResultVar} {args:List Value} {H:Hp} {Q:Value→Hp→Prop} (s:Snd P kn) (hf:P.funcs[f]? = some fn) (hb:fn.body=some (at_ fn [])) (hn:fn.ntmps=n) (hz:fn.results.toList=rs) (hL:low P fn.ntmps (at_ fn [])=some R) (hl:args.length≤n)
  (h:UG P kn lo n R (VS args 0) H fun e S' H' D=>(match e with | .normal=>True | .ret=>True | _=>False)∧
   ((D=[]∧∃ vs,Wt P S' H' rs=some vs∧Q (X7 vs) H')∨
    ∃ r,D=[{ target:=.collected r,args:=#[] }]∧lo≤r∧H'.t.get r=some (.dfr (some []))∧∀ H2,H2.next=H'.next→Keep H' H2 [r]→∃ vs,Wt P S' H2 rs=some vs∧Q (X7 vs) H2)):FnM P lo f args H Q:=by
 subst hn hz
 exact j7 hf hb hl (Vb s _ hL h)
theorem KP {a:RC} {c:RC} {S:Rg} {H:Hp} {K:Exit→Rg→Hp→List Deferred→Prop} (h:UG P kn lo n a S H fun e S' H' D=>match e with | .normal=>UG P kn lo n c S' H' (fun e S2 H2 D2=>K e S2 H2 (D2 ++ D)) | e=>K e S' H' D):UG P kn lo n (.seq a c) S H K:=h
theorem qn {ops:List RO} {S:Rg} {H:Hp} {K:Exit→Rg→Hp→List Deferred→Prop} (h:Zm P kn lo n ops S H fun S' H'=>K .normal S' H' []):UG P kn lo n (.reg ops) S H K:=h
theorem Zcj {id:Nat} {b:RC} {S:Rg} {H:Hp} {K:Exit→Rg→Hp→List Deferred→Prop} (h:UG P kn lo n b S H fun e S' H' D=>match e with | .exit j=>(bif Nat.beq j id then K .normal S' H' D else K (.exit j) S' H' D) | e=>K e S' H' D):UG P kn lo n (.block id b) S H K:=h
theorem Zcn {c:Code} {S:Rg} {H:Hp} {K:Exit→Rg→Hp→List Deferred→Prop} (h:YU P lo n c S H K):UG P kn lo n (.other c) S H K:=h
theorem Zfe {S:Rg} {H:Hp} {K:Exit→Rg→Hp→List Deferred→Prop} (h:K .ret S H []):UG P kn lo n .ret S H K:=h
end
end
end Go.Ax

/-! From what a function comes to,whatever is drawn,to a call as_ the statements have it. -/
namespace Go.Ax
open Go Go.RowKit
section
variable {P:Program} {kn:Kn} {lo:Nat}
def FnC (P:Program) (lo:Nat) (f:FuncId) (args:List Value) (H:Hp) (Q:Value→Hp→Prop):Prop:=
 ∀ (r:Ren) (base:Nat) (w:World) (args':Array Value),lo≤H.next→Rel P r base H w→LR r args args'.toList→
  Calls P f args' w fun e w'=>∃ v H' r' v',e=.returned v'∧Q v H'∧Zt P lo base r H w r' H' w'∧VR r' v v'
theorem ZaV {f:FuncId} {fn:Func} {c:Code} {args:List Value} {H:Hp} {Q:Value→Hp→Prop} (hf:P.funcs[f]? = some fn) (hc:fn.body=some c) (hl:args.length≤fn.ntmps)
  (h:Yn P lo fn.ntmps false c (VS args 0) H fun e S' H'=>(match e with | .normal=>True | .ret=>True | _=>False)∧∃ vs,Wt P S' H' fn.results.toList=some vs∧Q (X7 vs) H'):FnC P lo f args H Q:=by
 intro r base w args' hlo hrel hargs cs
 have hent:Frame.enter P f args' .normal=mkF f (args' ++ Array.replicate (fn.ntmps - args'.size) undef) [.code c] [] .normal none:=by
  simp [Frame.enter,mkF,hf,hc]
 have hT:=V9 hargs fn.ntmps hl
 obtain ⟨e,S1,H1,T1,⟨he,vs,hres,hq⟩,hk,r1,w1,tm,ds,pc1,hpost,hF,hS,hp1,hArr,_⟩:=h base r w { fn:=f,n:=fn.ntmps,T:=Qf args 0 .nil,defers:=[],round:=none } _ [] none cs [] hlo hrel ⟨hT,.nil,rfl⟩ rfl rfl (Ww args)
 simp only at hArr
 rw [← hent] at hArr
 have hu:Z4 P lo (fun _ _ _ _=>none) fn 1 { fn:=f,n:=fn.ntmps,T:=T1,defers:=[],round:=none } H1 none=some (.ret (X7 vs),H1):=by
  rw [Z4]
  simp only [Qv (A:={ fn:=f,n:=fn.ntmps,T:=T1,defers:=[],round:=none }) hk hres]
  match vs with
  | []=>rfl
  | [v]=>rfl
  | v :: u :: r=>rfl
 have hD:jK P lo (fun _ _ _ _=>none):=fun f cap args H p e H' p' h=>by cases h
 have fin:∀ (todo:List Item),Steps P (lone (Frame.enter P f args' .normal) cs w) (lone { mkF f tm todo ds .normal none with mode:=.returning } cs w1)→
   ∃ e w' fr,(∃ v H' r' v',e=.returned v'∧Q v H'∧Zt P lo base r H w r' H' w'∧VR r' v v')∧Comes P (lone (Frame.enter P f args' .normal) cs w) (lone fr cs w') e∧fr.fn=f∧fr.leaving P w' e:=by
  intro todo hs
  obtain ⟨r',w',fr',q1,q2,q3,q4,q5⟩:=VQ hD hf 1 r1 w1 _ H1 ds none none _ H1 hu (Nat.le_trans hlo hpost.next) hpost.rel hF.D rfl { mkF f tm todo ds .normal none with mode:=.returning } cs hF.T rfl rfl rfl
  obtain ⟨v',hv,⟨a,b,d⟩⟩:=q5
  exact ⟨.returned v',w',fr',⟨X7 vs,H1,r',v',rfl,hq,hpost.trans hlo q1,hv⟩,hs.trans q4,q2,a,b,by rw [q3];rfl,d⟩
 cases e with
 | normal=>exact fin [] (hArr.trans (Steps.one yQ))
 | ret=>
  obtain ⟨kx,hs⟩:=hArr
  exact fin _ (hs.trans (Steps.one qK))
 | _=>exact he.elim
theorem ZbW {f:FuncId} {fn:Func} {R:RC} {n:Nat} {rs:List ResultVar} {args:List Value} {H:Hp} {Q:Value→Hp→Prop} (s:Snd P kn) (hf:P.funcs[f]? = some fn) (hb:fn.body=some (at_ fn [])) (hn:fn.ntmps=n) (hz:fn.results.toList=rs) (hL:low P fn.ntmps (at_ fn [])=some R) (hl:args.length≤n)
  (h:wCM P kn lo n false R (VS args 0) H fun e S' H'=>(match e with | .normal=>True | .ret=>True | _=>False)∧∃ vs,Wt P S' H' rs=some vs∧Q (X7 vs) H'):FnC P lo f args H Q:=by
 subst hn hz
 exact ZaV hf hb hl (Yh s _ hL h)
theorem zy {f:FuncId} {args:List Value} {H:Hp} {b:Bool} {w:World} {r:Ren} {args':Array Value}
  (hrel:Rel P r w.heap.size H w) (hr:∀ b loc,r b=some loc→b < H.next) (ha:LR r args args'.toList) (h:FnC P H.next f args H fun v _=>v=.bool b) :
  Calls P f args' w fun e w'=>e=.returned (.bool b)∧Below w.heap.size w w':=
 (h r w.heap.size w args' (Nat.le_refl _) hrel ha).mono fun e w' ⟨v,H',r',v',he,hq,hp,hv⟩=>by
  subst hq
  have:=W1 hv
  subst this
  exact ⟨he,hp.below hrel fun b loc e=>.inl (hr b loc e)⟩
theorem closed_callC {f:FuncId} {b:Bool} (h:FnC P 0 f [] { next:=0,t:=.nil } fun v _=>v=.bool b) (w:World):Calls P f #[] w fun e w'=>e=.returned (.bool b)∧Below w.heap.size w w':=by
 have hrel:Rel P (fun _=>none) w.heap.size { next:=0,t:=.nil } w:=⟨fun _ _ e=>(by cases e),fun _ _ _ e=>(by cases e),fun _ _ _ _ e=>(by cases e),Nat.le_refl _⟩
 exact zy (args':=#[]) hrel (fun _ _ e=>by cases e) (by simpa using LR.nil) h
end
end Go.Ax

/-! Short names for operations. -/
namespace Go.Ax
open Go Go.RowKit Go.Proofs
abbrev oM (d x:Nat):RO:=⟨some d,none,.mov (.tmp x)⟩
abbrev oN (d:Nat) (x:Int):RO:=⟨some d,none,.mov (.const (.int .i64 x))⟩
abbrev oG (d g:Nat) (t:Bool) (x:Nat):RO:=⟨some d,some (g,t),.mov (.tmp x)⟩
abbrev oE (d x i t : Nat) : RO := ⟨some d, none, .pur ⟨some d, .extract (.tmp x) i, t, "", #[], none⟩⟩
abbrev oC (d f:Nat) (a:Array Operand) (t:Array TypeId):RO:=⟨some d,none,.call ⟨.value (.func f),a,t⟩ true⟩
abbrev oH (d g:Nat) (b:Bool) (f:Nat) (a:Array Operand) (t:Array TypeId):RO:=⟨some d,some (g,b),.call ⟨.value (.func f),a,t⟩ true⟩
abbrev oA (d x y : Nat) : RO := ⟨some d, none, .pur ⟨some d, .pick (.tmp x) (.tmp y) (.const (.bool false)), 4, "", #[], none⟩⟩
abbrev oO (d x y : Nat) : RO := ⟨some d, none, .pur ⟨some d, .pick (.tmp x) (.const (.bool true)) (.tmp y), 4, "", #[], none⟩⟩
abbrev oI (d x y s:Nat):RO:=⟨some d,none,.idx (.tmp x) (.tmp y) s⟩
abbrev oL (d x s:Nat):RO:=⟨some d,none,.ld (.tmp x) s⟩
abbrev oB (d:Nat) (o:BinOp) (x:Nat) (c:Int):RO:=⟨some d,none,.cmpb o (.tmp x) (.const (.int .i64 c))⟩
abbrev oBg (d g:Nat) (t:Bool) (o:BinOp) (x:Nat) (c:Int):RO:=⟨some d,some (g,t),.cmpb o (.tmp x) (.const (.int .i64 c))⟩
abbrev oQ (d:Nat) (o:BinOp) (x:Nat) (c:Int):RO:=⟨some d,none,.cmp o (.tmp x) (.const (.int .i64 c))⟩
abbrev oR (d:Nat) (o:BinOp) (x:Nat) (c:Int):RO:=⟨some d,none,.ari o (.tmp x) (.const (.int .i64 c))⟩
abbrev oS (d:Nat) (o:BinOp) (x y:Nat):RO:=⟨some d,none,.ari o (.tmp x) (.tmp y)⟩
abbrev oD (d x s:Nat):RO:=⟨some d,none,.lda (.tmp x) s⟩
abbrev oJ (d x s:Nat):RO:=⟨some d,none,.addo (.tmp x) s⟩
abbrev oK (d t x:Nat):RO:=⟨some d,none,.box t (.tmp x)⟩
abbrev oF (d:Nat):RO:=⟨some d,none,.mov (.const (.bool false))⟩
abbrev oU (d x : Nat) : RO := ⟨some d, none, .pur ⟨some d, .unOp .not 4 (.tmp x), 4, "", #[], none⟩⟩
abbrev oV (d g : Nat) (t : Bool) (x : Nat) : RO := ⟨some d, some (g, t), .pur ⟨some d, .unOp .not 4 (.tmp x), 4, "", #[], none⟩⟩
abbrev oIg (d g:Nat) (t:Bool) (x y s:Nat):RO:=⟨some d,some (g,t),.idx (.tmp x) (.tmp y) s⟩
abbrev oLg (d g:Nat) (t:Bool) (x s:Nat):RO:=⟨some d,some (g,t),.ld (.tmp x) s⟩
abbrev oW (d x:Nat):RO:=⟨some d,none,.len (.tmp x)⟩
end Go.Ax

/-! What 'low' makes of functions of pool (written by program). -/
namespace Go.Ax
open Go Go.RowKit Go.Proofs
theorem N7:Try.f7.ntmps=324:=by kernel_rfl
theorem Z7:Try.f7.results.toList=(#[(.tmp 10)]:Array ResultVar).toList:=by kernel_rfl
theorem B7:Try.f7.body=some (at_ Try.f7 []):=by kernel_rfl
noncomputable def R7:RC:=(.seq (.reg [oK 6 24 1,oF 10])
 (.seq (.seq (.reg [oM 28 0,oW 29 28,oQ 30 .gtr 29 60])
 (.cond (.tmp 30) (.seq (.reg [oC 31 10 #[] #[],oM 10 31])
 .ret)
 .skip))
 (.seq (.reg [oM 33 0,oD 34 6 4,oC 35 11 #[(.tmp 33),(.tmp 34)] #[22,24],oM 32 35,oE 36 32 0 27,oE 37 32 1 28,oM 11 36,oM 12 37])
 (.seq (.seq (.reg [oM 38 12,oQ 39 .neq 38 0])
 (.cond (.tmp 39) (.seq (.reg [oM 40 11,oW 41 40,oB 42 .eql 41 0,oM 43 42,oG 44 43 true 12,oBg 45 43 true .eql 44 1,oA 46 43 45,oM 47 46,oH 48 47 true 10 #[] #[],oA 49 47 48,oM 10 49])
 .ret)
 .skip))
 (.seq (.seq (.reg [oM 50 0,oD 51 6 4,oC 52 21 #[(.tmp 50),(.tmp 51)] #[22,24],oU 53 52])
 (.cond (.tmp 53) (.seq (.reg [oF 10])
 .ret)
 .skip))
 (.seq (.seq (.reg [oN 13 0])
 (.block 0 (.other (at_ Try.f7 [1,1,1,1,1,0,1,0]))))
 (.seq (.seq (.reg [oM 176 0,oW 177 176,oQ 178 .eql 177 0])
 (.cond (.tmp 178) (.seq (.reg [oM 179 11,oW 180 179,oB 181 .eql 180 0,oM 182 181,oH 183 182 true 10 #[] #[],oA 184 182 183,oM 10 184])
 .ret)
 .skip))
 (.seq (.reg [⟨some 19,none,.mov (.const (.slice none 0 0))⟩])
 (.seq (.seq (.reg [oN 20 0])
 (.block 4 (.other (at_ Try.f7 [1,1,1,1,1,1,1,1,0,1,0]))))
 (.seq (.reg [oM 205 19,oD 206 6 4,oC 207 11 #[(.tmp 205),(.tmp 206)] #[22,24],oM 204 207,oE 208 204 0 27,oE 209 204 1 28,oM 21 208,oM 22 209])
 (.seq (.reg [oM 210 3, ⟨some 211, none, (.pur ⟨some 211, (.convert 5 3 (.tmp 210)), 3, "", #[], none⟩)⟩, oM 212 0, oW 213 212, oS 214 .rem 211 213, oM 23 214])
 (.seq (.reg [⟨some 215, none, (.mem ⟨some 215, (.buildSlice 22 0 #[]), 22, "", #[], none⟩)⟩, oM 216 0, ⟨some 217, none, (.mem ⟨some 217, (.call ⟨(.builtin .append), #[(.tmp 215), (.tmp 216)], #[22, 22]⟩), 22, "", #[], none⟩)⟩, oM 24 217])
 (.seq (.reg [oM 218 24, oM 219 23, oM 220 0, oM 221 23, oI 222 220 221 3, oJ 223 222 2, oL 224 223 1, oM 225 4, ⟨some 226, none, (.pur ⟨some 226, (.convert 42 3 (.tmp 225)), 3, "", #[], none⟩)⟩, oS 227 .add 224 226, ⟨some 228, none, (.mm true (.const (.int .i64 1099511627776)) (.tmp 227))⟩, oI 229 218 219 3, oJ 230 229 2, ⟨none, none, (.st (.tmp 230) (.tmp 228))⟩])
 (.seq (.reg [oM 232 24,oD 233 6 4,oC 234 11 #[(.tmp 232),(.tmp 233)] #[22,24],oM 231 234,oE 235 231 0 27,oE 236 231 1 28,oM 25 235,oM 26 236])
 (.seq (.seq (.reg [oM 237 22,oB 238 .neq 237 0,oM 239 238,oG 240 239 false 26,oBg 241 239 false .neq 240 0,oO 242 239 241,oM 243 242,oG 244 243 false 11,oG 245 243 false 21,oH 246 243 false 17 #[(.tmp 244),(.tmp 245)] #[27,27],oV 247 243 false 246,oO 248 243 247,oM 249 248,oG 250 249 false 25,⟨some 251,some (249,false),(.len (.tmp 250))⟩,oG 252 249 false 11,⟨some 253,some (249,false),(.len (.tmp 252))⟩,⟨some 254,some (249,false),(.cmpb .neq (.tmp 251) (.tmp 253))⟩,oO 255 249 254])
 (.cond (.tmp 255) (.seq (.reg [oF 10])
 .ret)
 .skip))
 (.seq (.seq (.reg [oN 27 0])
 (.block 6 (.other (at_ Try.f7 [1,1,1,1,1,1,1,1,1,1,1,1,1,1,1,0,1,0]))))
 (.seq (.reg [oC 323 10 #[] #[],oM 10 323])
 .ret)))))))))))))))))
theorem L7:low Try.prog Try.f7.ntmps (at_ Try.f7 [])=some R7:=by kernel_rfl
theorem Zkx:at_ Try.f7 [1,1,1,1,1,0,1,0]=.loop (at_ Try.f7 [1,1,1,1,1,0,1,0,0]):=by kernel_rfl
noncomputable def R7x1:RC:=(.seq (.seq (.reg [oM 54 13,oM 55 11,oW 56 55,⟨some 57,none,(.cmp .lss (.tmp 54) (.tmp 56))⟩])
 (.cond (.tmp 57) .skip
 (.exit 0)))
 (.seq (.block 1 (.seq (.reg [oN 14 0,oN 15 0,oN 16 0])
 (.seq (.seq (.reg [oN 17 0])
 (.block 2 (.other (at_ Try.f7 [1,1,1,1,1,0,1,0,0,1,0,0,1,0,1,0]))))
 (.seq (.dreg [oM 111 16, oB 112 .eql 111 0, oM 113 112, oG 114 113 false 11, oG 115 113 false 13, oIg 116 113 false 114 115 3, ⟨some 117, some (113, false), (.addo (.tmp 116) 1)⟩, oLg 118 113 false 117 1, oG 119 113 false 14, ⟨some 120, some (113, false), (.cmpb .lss (.tmp 118) (.tmp 119))⟩, oO 121 113 120, oM 122 121, oG 123 122 false 11, oG 124 122 false 13, oIg 125 122 false 123 124 3, ⟨some 126, some (122, false), (.addo (.tmp 125) 1)⟩, oLg 127 122 false 126 1, oG 128 122 false 15, ⟨some 129, some (122, false), (.cmpb .gtr (.tmp 127) (.tmp 128))⟩, oO 130 122 129, oM 131 130, oG 132 131 false 11, oG 133 131 false 13, oIg 134 131 false 132 133 3, ⟨some 135, some (131, false), (.addo (.tmp 134) 2)⟩, oLg 136 131 false 135 1, oG 137 131 false 11, oG 138 131 false 13, oIg 139 131 false 137 138 3, ⟨some 140, some (131, false), (.addo (.tmp 139) 1)⟩, oLg 141 131 false 140 1, ⟨some 142, some (131, false), (.cmpb .gtr (.tmp 136) (.tmp 141))⟩, oO 143 131 142, oM 144 143, oG 145 144 false 13, oBg 146 144 false .gtr 145 0, oG 147 144 false 146, oG 148 147 true 11, oG 149 147 true 13, oIg 150 147 true 148 149 3, ⟨some 151, some (147, true), (.addo (.tmp 150) 0)⟩, oLg 152 147 true 151 1, oG 153 147 true 11, oG 154 147 true 13, ⟨some 155, some (147, true), (.ari .sub (.tmp 154) (.const (.int .i64 1)))⟩, oIg 156 147 true 153 155 3, ⟨some 157, some (147, true), (.addo (.tmp 156) 0)⟩, oLg 158 147 true 157 1, ⟨some 159, some (147, true), (.cmpb .leq (.tmp 152) (.tmp 158))⟩, ⟨some 160, some (144, false), (.pur ⟨some 160, (.pick (.tmp 147) (.tmp 159) (.const (.bool false))), 4, "", #[], none⟩)⟩, oO 161 144 160, oM 162 161, ⟨some 163, some (162, false), (.addo (.tmp 6) 2)⟩, oLg 164 162 false 163 1, oBg 165 162 false .eql 164 1, oG 166 162 false 165, oG 167 166 true 11, oG 168 166 true 13, oIg 169 166 true 167 168 3, ⟨some 170, some (166, true), (.addo (.tmp 169) 1)⟩, oLg 171 166 true 170 1, oG 172 166 true 15, ⟨some 173, some (166, true), (.cmpb .neq (.tmp 171) (.tmp 172))⟩, ⟨some 174, some (162, false), (.pur ⟨some 174, (.pick (.tmp 166) (.tmp 173) (.const (.bool false))), 4, "", #[], none⟩)⟩, oO 175 162 174] [18446744073709551615, 9223372036854775807, 4611686018427387903, 72057594037927935, 1152921504606846975, 576460752303423487, 288230376151711743, 72057594037927935, 72057594037927935, 36028797018963967, 18014398509481983, 9007199254740991, 4503599627370495, 2251799813685247, 1125899906842623, 562949953421311, 281474976710655, 136476880797695, 66108136620031, 30923764531199, 8933531975679, 137438953471, 137438953471, 2199023255551, 1099511627775, 549755813887, 137438953471, 137438953471, 68719476735, 34359738367, 17179869183, 8589934591, 4294967295, 2147483647, 1008730111, 471859199, 203423743, 2097151, 2097151, 33554431, 16777215, 8388607, 2097151, 2097151, 1048575, 524287, 262143, 4095, 65535, 32767, 16383, 4095, 4095, 2047, 1023, 511, 7, 127, 63, 31, 7, 7, 3, 1, 0])
 (.cond (.tmp 175) (.seq (.reg [oF 10])
 .ret)
 .skip)))))
 (.reg [oM 58 13,oR 59 .add 58 1,oM 13 59])))
theorem ZjW:low Try.prog Try.f7.ntmps (at_ Try.f7 [1,1,1,1,1,0,1,0,0])=some R7x1:=by kernel_rfl
theorem ZjL:at_ Try.f7 [1,1,1,1,1,0,1,0,0,1,0,0,1,0,1,0]=.loop (at_ Try.f7 [1,1,1,1,1,0,1,0,0,1,0,0,1,0,1,0,0]):=by kernel_rfl
noncomputable def R7x2:RC:=(.seq (.seq (.reg [oM 60 17,oM 61 0,oW 62 61,⟨some 63,none,(.cmp .lss (.tmp 60) (.tmp 62))⟩])
 (.cond (.tmp 63) .skip
 (.exit 2)))
 (.seq (.block 3 (.seq (.reg [oM 66 0,oM 67 17,oI 68 66 67 3,oD 69 68 3,⟨some 18,none,(.alc 52 [(.int .i64 0),(.int .i64 0),(.int .i64 0)])⟩,⟨none,none,(.sta (.tmp 18) (.tmp 69) 3)⟩])
 (.seq (.seq (.dreg [oJ 70 18 0,oL 71 70 1,oM 72 11,oM 73 13,oI 74 72 73 3,oJ 75 74 0,oL 76 75 1,⟨some 77,none,(.cmpb .neq (.tmp 71) (.tmp 76))⟩,oM 78 77,⟨some 79,some (78,false),(.addo (.tmp 18) 1)⟩,oLg 80 78 false 79 1,⟨some 81,some (78,false),(.addo (.tmp 6) 0)⟩,oLg 82 78 false 81 1,⟨some 83,some (78,false),(.cmpb .geq (.tmp 80) (.tmp 82))⟩,oO 84 78 83,oM 85 84,⟨some 86,some (85,false),(.addo (.tmp 18) 1)⟩,oLg 87 85 false 86 1,⟨some 88,some (85,false),(.addo (.tmp 6) 0)⟩,oLg 89 85 false 88 1,⟨some 90,some (85,false),(.addo (.tmp 6) 1)⟩,oLg 91 85 false 90 1,⟨some 92,some (85,false),(.ari .sub (.tmp 89) (.tmp 91))⟩,⟨some 93,some (85,false),(.cmpb .lss (.tmp 87) (.tmp 92))⟩,oO 94 85 93] [16777215,8388607,3997695,1114111,65535,327679,65535,131071,65535,32767,16383,8191,2559,511,1023,511,255,127,60,28,12,0,0,1,0])
 (.cond (.tmp 94) (.exit 3)
 .skip))
 (.seq (.seq (.reg [oM 95 16,oB 96 .eql 95 0,oM 97 96,⟨some 98,some (97,false),(.addo (.tmp 18) 2)⟩,oLg 99 97 false 98 1,oG 100 97 false 14,⟨some 101,some (97,false),(.cmpb .lss (.tmp 99) (.tmp 100))⟩,oO 102 97 101])
 (.cond (.tmp 102) (.reg [oJ 103 18 2,oL 104 103 1,oM 14 104])
 .skip))
 (.seq (.reg [oM 105 15,oJ 106 18 2,oL 107 106 1,⟨some 108,none,(.mm false (.tmp 105) (.tmp 107))⟩,oM 15 108])
 (.reg [oM 109 16,oR 110 .add 109 1,oM 16 110]))))))
 (.reg [oM 64 17,oR 65 .add 64 1,oM 17 65])))
theorem ZjX:low Try.prog Try.f7.ntmps (at_ Try.f7 [1,1,1,1,1,0,1,0,0,1,0,0,1,0,1,0,0])=some R7x2:=by kernel_rfl
theorem ZjS:at_ Try.f7 [1,1,1,1,1,1,1,1,0,1,0]=.loop (at_ Try.f7 [1,1,1,1,1,1,1,1,0,1,0,0]):=by kernel_rfl
noncomputable def R7x3:RC:=(.seq (.seq (.reg [oM 185 20,oM 186 0,oW 187 186,⟨some 188,none,(.cmp .lss (.tmp 185) (.tmp 187))⟩])
 (.cond (.tmp 188) .skip
 (.exit 4)))
 (.seq (.block 5 (.reg [oM 191 19, oM 192 0, oM 193 20, oM 194 2, ⟨some 195, none, (.pur ⟨some 195, (.convert 5 3 (.tmp 194)), 3, "", #[], none⟩)⟩, oS 196 .add 193 195, oM 197 0, oW 198 197, oS 199 .rem 196 198, oI 200 192 199 3, oD 201 200 3, ⟨some 202, none, (.mem ⟨some 202, (.buildSlice 22 1 #[(0, (.tmp 201))]), 22, "", #[], none⟩)⟩, ⟨some 203, none, (.mem ⟨some 203, (.call ⟨(.builtin .append), #[(.tmp 191), (.tmp 202)], #[22, 22]⟩), 22, "", #[], none⟩)⟩, oM 19 203]))
 (.reg [oM 189 20,oR 190 .add 189 1,oM 20 190])))
theorem ZjP:low Try.prog Try.f7.ntmps (at_ Try.f7 [1,1,1,1,1,1,1,1,0,1,0,0])=some R7x3:=by kernel_rfl
theorem Zkf:at_ Try.f7 [1,1,1,1,1,1,1,1,1,1,1,1,1,1,1,0,1,0]=.loop (at_ Try.f7 [1,1,1,1,1,1,1,1,1,1,1,1,1,1,1,0,1,0,0]):=by kernel_rfl
noncomputable def R7x4:RC:=(.seq (.seq (.reg [oM 256 27,oM 257 11,oW 258 257,⟨some 259,none,(.cmp .lss (.tmp 256) (.tmp 258))⟩])
 (.cond (.tmp 259) .skip
 (.exit 6)))
 (.seq (.block 7 (.seq (.dreg [oM 262 25, oM 263 27, oI 264 262 263 3, oJ 265 264 0, oL 266 265 1, oM 267 11, oM 268 27, oI 269 267 268 3, oJ 270 269 0, oL 271 270 1, ⟨some 272, none, (.cmpb .neq (.tmp 266) (.tmp 271))⟩, oM 273 272, oG 274 273 false 25, oG 275 273 false 27, oIg 276 273 false 274 275 3, ⟨some 277, some (273, false), (.addo (.tmp 276) 1)⟩, oLg 278 273 false 277 1, oG 279 273 false 11, oG 280 273 false 27, oIg 281 273 false 279 280 3, ⟨some 282, some (273, false), (.addo (.tmp 281) 1)⟩, oLg 283 273 false 282 1, ⟨some 284, some (273, false), (.cmpb .lss (.tmp 278) (.tmp 283))⟩, oO 285 273 284, oM 286 285, oG 287 286 false 25, oG 288 286 false 27, oIg 289 286 false 287 288 3, ⟨some 290, some (286, false), (.addo (.tmp 289) 2)⟩, oLg 291 286 false 290 1, oG 292 286 false 11, oG 293 286 false 27, oIg 294 286 false 292 293 3, ⟨some 295, some (286, false), (.addo (.tmp 294) 2)⟩, oLg 296 286 false 295 1, ⟨some 297, some (286, false), (.cmpb .lss (.tmp 291) (.tmp 296))⟩, oO 298 286 297, oM 299 298, oG 300 299 false 25, oG 301 299 false 27, oIg 302 299 false 300 301 3, ⟨some 303, some (299, false), (.addo (.tmp 302) 0)⟩, oLg 304 299 false 303 1, oG 305 299 false 0, oG 306 299 false 23, oIg 307 299 false 305 306 3, ⟨some 308, some (299, false), (.addo (.tmp 307) 0)⟩, oLg 309 299 false 308 1, ⟨some 310, some (299, false), (.cmpb .neq (.tmp 304) (.tmp 309))⟩, oG 311 299 false 310, oG 312 311 true 25, oG 313 311 true 27, oIg 314 311 true 312 313 3, ⟨some 315, some (311, true), (.lda (.tmp 314) 3)⟩, oG 316 311 true 11, oG 317 311 true 27, oIg 318 311 true 316 317 3, ⟨some 319, some (311, true), (.lda (.tmp 318) 3)⟩, ⟨some 320, some (311, true), .pur ⟨some 320, (.binOp .neq 44 (.tmp 315) (.tmp 319) 44), 4, "", #[], none⟩⟩, ⟨some 321, some (299, false), (.pur ⟨some 321, (.pick (.tmp 311) (.tmp 320) (.const (.bool false))), 4, "", #[], none⟩)⟩, oO 322 299 321] [1152921504606846975, 576460752303423487, 288230376151711743, 127226689473216511, 55169095435288575, 1125899906842623, 1125899906842623, 9007199254740991, 4503599627370495, 1125899906842623, 1125899906842623, 562949953421311, 281474976710655, 132216273240063, 61847529062399, 26663156973567, 274877906943, 274877906943, 4398046511103, 2199023255551, 1099511627775, 274877906943, 274877906943, 137438953471, 68719476735, 34359738367, 16139681791, 7549747199, 3254779903, 33554431, 33554431, 536870911, 268435455, 134217727, 33554431, 33554431, 16777215, 8388607, 4194303, 1970175, 921599, 397311, 4095, 4095, 65535, 32767, 16383, 4095, 4095, 2047, 1023, 480, 224, 96, 0, 0, 15, 7, 3, 0, 0])
 (.cond (.tmp 322) (.seq (.reg [oF 10])
 .ret)
 .skip)))
 (.reg [oM 260 27,oR 261 .add 260 1,oM 27 261])))
theorem Zj9:low Try.prog Try.f7.ntmps (at_ Try.f7 [1,1,1,1,1,1,1,1,1,1,1,1,1,1,1,0,1,0,0])=some R7x4:=by kernel_rfl
theorem N10:Try.f10.ntmps=87:=by kernel_rfl
theorem Z10:Try.f10.results.toList=(#[(.tmp 0)]:Array ResultVar).toList:=by kernel_rfl
theorem B10:Try.f10.body=some (at_ Try.f10 []):=by kernel_rfl
noncomputable def R10:RC:=(.seq (.reg [oF 0])
 (.seq (.reg [oC 13 22 #[] #[],oM 12 13,oE 14 12 0 22,oE 15 12 1 24,⟨some 2,none,(.alc 24 [(.int .i64 0),(.int .i64 0),(.int .i64 0),(.int .i64 0)])⟩,oM 1 14,⟨none,none,(.sta (.tmp 2) (.tmp 15) 4)⟩])
 (.seq (.reg [oM 17 1,oD 18 2 4,oC 19 11 #[(.tmp 17),(.tmp 18)] #[22,24],oM 16 19,oE 20 16 0 27,oE 21 16 1 28,oM 3 20,oM 4 21])
 (.seq (.reg [oM 23 1,oD 24 2 4,oC 25 13 #[(.tmp 23),(.tmp 24),(.const (.int .i64 1500))] #[22,24,3],oM 22 25,oE 26 22 0 3,oE 27 22 1 28,oM 5 26,oM 6 27])
 (.seq (.reg [oM 29 1, oD 30 2 4, ⟨some 31, none, .pur ⟨some 31, (.build 49 #[(1, (.const (.int .i64 3))), (3, (.const (.int .i64 1000)))]), 49, "", #[], none⟩⟩, ⟨some 32, none, .pur ⟨some 32, (.build 49 #[(0, (.const (.int .i64 1))), (1, (.const (.int .i64 8))), (2, (.const (.int .i64 3))), (3, (.const (.int .i64 100)))]), 49, "", #[], none⟩⟩, ⟨some 33, none, .pur ⟨some 33, (.build 49 #[(1, (.const (.int .i64 3))), (3, (.const (.int .i64 300)))]), 49, "", #[], none⟩⟩, ⟨some 34, none, .pur ⟨some 34, (.build 49 #[(1, (.const (.int .i64 8))), (3, (.const (.int .i64 400)))]), 49, "", #[], none⟩⟩, ⟨some 35, none, (.mem ⟨some 35, (.buildSlice 36 4 #[(0, (.tmp 31)), (1, (.tmp 32)), (2, (.tmp 33)), (3, (.tmp 34))]), 36, "", #[], none⟩)⟩, oC 36 18 #[(.tmp 29), (.tmp 30), (.tmp 35)] #[22, 24, 36], oM 28 36, oE 37 28 0 37, oE 38 28 1 3, oE 39 28 2 28, oM 7 37, oM 8 38, oM 9 39])
 (.seq (.reg [oM 41 1,oD 42 2 4,oC 43 15 #[(.tmp 41),(.tmp 42),(.const (.int .i64 100))] #[22,24,3],oM 40 43,oE 44 40 0 27,oE 45 40 1 28,oM 10 44,oM 11 45])
 (.seq (.seq (.reg [oM 46 3, ⟨some 47, none, .pur ⟨some 47, (.build 44 #[(0, (.const (.int .i64 3))), (1, (.const (.int .i64 1350))), (2, (.const (.int .i64 1147)))]), 44, "", #[], none⟩⟩, ⟨some 48, none, .pur ⟨some 48, (.build 44 #[(0, (.const (.int .i64 8))), (1, (.const (.int .i64 500))), (2, (.const (.int .i64 425)))]), 44, "", #[], none⟩⟩, ⟨some 49, none, (.mem ⟨some 49, (.buildSlice 27 2 #[(0, (.tmp 47)), (1, (.tmp 48))]), 27, "", #[], none⟩)⟩, oC 50 17 #[(.tmp 46), (.tmp 49)] #[27, 27], oU 51 50, oM 52 51, oG 53 52 false 4, oBg 54 52 false .neq 53 0, oO 55 52 54, oM 56 55, oG 57 56 false 5, oBg 58 56 false .neq 57 811, oO 59 56 58, oM 60 59, oG 61 60 false 6, oBg 62 60 false .neq 61 0, oO 63 60 62])
 (.cond (.tmp 63) (.seq (.reg [oF 0])
 .ret)
 .skip))
 (.seq (.seq (.reg [oM 64 7, ⟨some 65, none, .pur ⟨some 65, (.build 47 #[(0, (.const (.int .i64 3))), (1, (.const (.int .i64 1247))), (2, (.const (.int .i64 1247))), (3, (.const (.int .i64 53)))]), 47, "", #[], none⟩⟩, ⟨some 66, none, .pur ⟨some 66, (.build 47 #[(0, (.const (.int .i64 8))), (1, (.const (.int .i64 325))), (2, (.const (.int .i64 325))), (3, (.const (.int .i64 75)))]), 47, "", #[], none⟩⟩, ⟨some 67, none, (.mem ⟨some 67, (.buildSlice 37 2 #[(0, (.tmp 65)), (1, (.tmp 66))]), 37, "", #[], none⟩)⟩, oC 68 20 #[(.tmp 64), (.tmp 67)] #[37, 37], oU 69 68, oM 70 69, oG 71 70 false 8, oBg 72 70 false .neq 71 4, oO 73 70 72, oM 74 73, oG 75 74 false 9, oBg 76 74 false .neq 75 0, oO 77 74 76])
 (.cond (.tmp 77) (.seq (.reg [oF 0])
 .ret)
 .skip))
 (.seq (.reg [oM 78 10, ⟨some 79, none, .pur ⟨some 79, (.build 44 #[(0, (.const (.int .i64 3))), (1, (.const (.int .i64 1350))), (2, (.const (.int .i64 73)))]), 44, "", #[], none⟩⟩, ⟨some 80, none, .pur ⟨some 80, (.build 44 #[(0, (.const (.int .i64 8))), (1, (.const (.int .i64 500))), (2, (.const (.int .i64 27)))]), 44, "", #[], none⟩⟩, ⟨some 81, none, (.mem ⟨some 81, (.buildSlice 27 2 #[(0, (.tmp 79)), (1, (.tmp 80))]), 27, "", #[], none⟩)⟩, oC 82 17 #[(.tmp 78), (.tmp 81)] #[27, 27], oM 83 82, oG 84 83 true 11, oBg 85 83 true .eql 84 0, oA 86 83 85, oM 0 86])
 .ret)))))))))
theorem L10:low Try.prog Try.f10.ntmps (at_ Try.f10 [])=some R10:=by kernel_rfl
theorem N11:Try.f11.ntmps=20:=by kernel_rfl
theorem Z11:Try.f11.results.toList=(#[(.tmp 4),(.tmp 5)]:Array ResultVar).toList:=by kernel_rfl
theorem B11:Try.f11.body=some (at_ Try.f11 []):=by kernel_rfl
theorem N13:Try.f13.ntmps=24:=by kernel_rfl
theorem Z13:Try.f13.results.toList=(#[(.tmp 6),(.tmp 7)]:Array ResultVar).toList:=by kernel_rfl
theorem B13:Try.f13.body=some (at_ Try.f13 []):=by kernel_rfl
noncomputable def R13:RC:=(.seq (.reg [oK 4 24 1,oN 6 0,oN 7 0])
 (.seq (.seq (.reg [oM 8 0,oC 9 23 #[(.tmp 8)] #[22],oU 10 9,oM 11 10,⟨some 12,some (11,false),(.lda (.tmp 4) 4)⟩,oH 13 11 false 24 #[(.tmp 12)] #[24],oV 14 11 false 13,oO 15 11 14])
 (.cond (.tmp 15) (.seq (.reg [oN 6 0,oN 7 1])
 .ret)
 .skip))
 (.seq (.seq (.reg [oM 16 2,oC 17 28 #[(.tmp 16),(.const (.int .i64 1099511627776))] #[3,3],oU 18 17])
 (.cond (.tmp 18) (.seq (.reg [oN 6 0,oN 7 2])
 .ret)
 .skip))
 (.seq (.reg [oM 19 0,oD 20 4 4,oC 21 26 #[(.tmp 19),(.tmp 20)] #[22,24],oM 22 2,oC 23 29 #[(.tmp 21),(.tmp 22)] #[60,3],oM 6 23,oN 7 0])
 .ret))))
theorem L13:low Try.prog Try.f13.ntmps (at_ Try.f13 [])=some R13:=by kernel_rfl
theorem N15:Try.f15.ntmps=29:=by kernel_rfl
theorem Z15:Try.f15.results.toList=(#[(.tmp 6),(.tmp 7)]:Array ResultVar).toList:=by kernel_rfl
theorem B15:Try.f15.body=some (at_ Try.f15 []):=by kernel_rfl
noncomputable def R15:RC:=(.seq (.reg [oK 4 24 1,⟨some 6,none,(.mov (.const (.slice none 0 0)))⟩,oN 7 0])
 (.seq (.seq (.reg [oM 9 0,oC 10 23 #[(.tmp 9)] #[22],oU 11 10,oM 12 11,⟨some 13,some (12,false),(.lda (.tmp 4) 4)⟩,oH 14 12 false 24 #[(.tmp 13)] #[24],oV 15 12 false 14,oO 16 12 15])
 (.cond (.tmp 16) (.seq (.reg [⟨some 6,none,(.mov (.const (.slice none 0 0)))⟩,oN 7 1])
 .ret)
 .skip))
 (.seq (.seq (.reg [oM 17 2,oC 18 28 #[(.tmp 17),(.const (.int .i64 1048576))] #[3,3],oU 19 18])
 (.cond (.tmp 19) (.seq (.reg [⟨some 6,none,(.mov (.const (.slice none 0 0)))⟩,oN 7 2])
 .ret)
 .skip))
 (.seq (.reg [oM 20 0,oD 21 4 4,oC 22 26 #[(.tmp 20),(.tmp 21)] #[22,24],oM 8 22])
 (.seq (.seq (.reg [oM 23 8,oC 24 31 #[(.tmp 23)] #[60],oQ 25 .eql 24 0])
 (.cond (.tmp 25) (.seq (.reg [⟨some 6,none,(.mov (.const (.slice none 0 0)))⟩,oN 7 4])
 .ret)
 .skip))
 (.seq (.reg [oM 26 8,oM 27 2,oC 28 32 #[(.tmp 26),(.tmp 27)] #[60,3],oM 6 28,oN 7 0])
 .ret))))))
theorem L15:low Try.prog Try.f15.ntmps (at_ Try.f15 [])=some R15:=by kernel_rfl
theorem N17:Try.f17.ntmps=26:=by kernel_rfl
theorem Z17:Try.f17.results.toList=(#[(.tmp 4)]:Array ResultVar).toList:=by kernel_rfl
theorem B17:Try.f17.body=some (at_ Try.f17 []):=by kernel_rfl
noncomputable def R17:RC:=(.seq (.reg [oF 4])
 (.seq (.seq (.reg [oM 6 0,oW 7 6,oM 8 1,oW 9 8,⟨some 10,none,(.cmp .neq (.tmp 7) (.tmp 9))⟩])
 (.cond (.tmp 10) (.seq (.reg [oF 4])
 .ret)
 .skip))
 (.seq (.seq (.reg [oN 5 0])
 (.block 0 (.other (at_ Try.f17 [1,1,0,1,0]))))
 (.seq (.reg [⟨some 4,none,.mov (.const (.bool true))⟩])
 .ret))))
theorem L17:low Try.prog Try.f17.ntmps (at_ Try.f17 [])=some R17:=by kernel_rfl
theorem ZiU:at_ Try.f17 [1,1,0,1,0]=.loop (at_ Try.f17 [1,1,0,1,0,0]):=by kernel_rfl
noncomputable def R17x1:RC:=(.seq (.seq (.reg [oM 11 5,oM 12 0,oW 13 12,⟨some 14,none,(.cmp .lss (.tmp 11) (.tmp 13))⟩])
 (.cond (.tmp 14) .skip
 (.exit 0)))
 (.seq (.block 1 (.seq (.dreg [oM 17 0, oM 18 5, oI 19 17 18 3, oD 20 19 3, oM 21 1, oM 22 5, oI 23 21 22 3, oD 24 23 3, ⟨some 25, none, .pur ⟨some 25, (.binOp .neq 44 (.tmp 20) (.tmp 24) 44), 4, "", #[], none⟩⟩] [255, 112, 48, 0, 0, 7, 3, 0, 0])
 (.cond (.tmp 25) (.seq (.reg [oF 4])
 .ret)
 .skip)))
 (.reg [oM 15 5,oR 16 .add 15 1,oM 5 16])))
theorem ZiS:low Try.prog Try.f17.ntmps (at_ Try.f17 [1,1,0,1,0,0])=some R17x1:=by kernel_rfl
theorem N18:Try.f18.ntmps=41:=by kernel_rfl
theorem Z18:Try.f18.results.toList=(#[(.tmp 6),(.tmp 7),(.tmp 8)]:Array ResultVar).toList:=by kernel_rfl
theorem B18:Try.f18.body=some (at_ Try.f18 []):=by kernel_rfl
theorem N20:Try.f20.ntmps=26:=by kernel_rfl
theorem Z20:Try.f20.results.toList=(#[(.tmp 4)]:Array ResultVar).toList:=by kernel_rfl
theorem B20:Try.f20.body=some (at_ Try.f20 []):=by kernel_rfl
noncomputable def R20:RC:=(.seq (.reg [oF 4])
 (.seq (.seq (.reg [oM 6 0,oW 7 6,oM 8 1,oW 9 8,⟨some 10,none,(.cmp .neq (.tmp 7) (.tmp 9))⟩])
 (.cond (.tmp 10) (.seq (.reg [oF 4])
 .ret)
 .skip))
 (.seq (.seq (.reg [oN 5 0])
 (.block 0 (.other (at_ Try.f20 [1,1,0,1,0]))))
 (.seq (.reg [⟨some 4,none,.mov (.const (.bool true))⟩])
 .ret))))
theorem L20:low Try.prog Try.f20.ntmps (at_ Try.f20 [])=some R20:=by kernel_rfl
theorem ZiZ:at_ Try.f20 [1,1,0,1,0]=.loop (at_ Try.f20 [1,1,0,1,0,0]):=by kernel_rfl
noncomputable def R20x1:RC:=(.seq (.seq (.reg [oM 11 5,oM 12 0,oW 13 12,⟨some 14,none,(.cmp .lss (.tmp 11) (.tmp 13))⟩])
 (.cond (.tmp 14) .skip
 (.exit 0)))
 (.seq (.block 1 (.seq (.dreg [oM 17 0, oM 18 5, oI 19 17 18 4, oD 20 19 4, oM 21 1, oM 22 5, oI 23 21 22 4, oD 24 23 4, ⟨some 25, none, .pur ⟨some 25, (.binOp .neq 47 (.tmp 20) (.tmp 24) 47), 4, "", #[], none⟩⟩] [255, 112, 48, 0, 0, 7, 3, 0, 0])
 (.cond (.tmp 25) (.seq (.reg [oF 4])
 .ret)
 .skip)))
 (.reg [oM 15 5,oR 16 .add 15 1,oM 5 16])))
theorem Zi2:low Try.prog Try.f20.ntmps (at_ Try.f20 [1,1,0,1,0,0])=some R20x1:=by kernel_rfl
theorem N21:Try.f21.ntmps=11:=by kernel_rfl
theorem Z21:Try.f21.results.toList=(#[(.tmp 4)]:Array ResultVar).toList:=by kernel_rfl
theorem B21:Try.f21.body=some (at_ Try.f21 []):=by kernel_rfl
noncomputable def R21:RC:=(.seq (.reg [oK 3 24 1,oF 4])
 (.seq (.reg [oM 5 0,oC 6 38 #[(.tmp 5)] #[22],oM 7 6,⟨some 8,some (7,true),(.lda (.tmp 3) 4)⟩,oH 9 7 true 39 #[(.tmp 8)] #[24],oA 10 7 9,oM 4 10])
 .ret))
theorem L21:low Try.prog Try.f21.ntmps (at_ Try.f21 [])=some R21:=by kernel_rfl
theorem N22:Try.f22.ntmps=13:=by kernel_rfl
theorem Z22:Try.f22.results.toList=(#[(.tmp 0),(.cell 1 24)]:Array ResultVar).toList:=by kernel_rfl
theorem B22:Try.f22.body=some (at_ Try.f22 []):=by kernel_rfl
noncomputable def R22:RC:=(.seq (.reg [⟨some 0,none,.mov (.const (.slice none 0 0))⟩,⟨some 1,none,(.alc 24 [(.int .i64 0),(.int .i64 0),(.int .i64 0),(.int .i64 0)])⟩])
 (.seq (.reg [⟨some 3, none, .pur ⟨some 3, (.build 52 #[(0, (.const (.int .i64 3))), (1, (.const (.int .i64 2022))), (2, (.const (.int .i64 1000)))]), 52, "", #[], none⟩⟩, ⟨some 4, none, .pur ⟨some 4, (.build 52 #[(0, (.const (.int .i64 3))), (1, (.const (.int .i64 2023))), (2, (.const (.int .i64 1400)))]), 52, "", #[], none⟩⟩, ⟨some 5, none, .pur ⟨some 5, (.build 52 #[(0, (.const (.int .i64 3))), (1, (.const (.int .i64 2024))), (2, (.const (.int .i64 900)))]), 52, "", #[], none⟩⟩, ⟨some 6, none, .pur ⟨some 6, (.build 52 #[(0, (.const (.int .i64 3))), (1, (.const (.int .i64 2025))), (2, (.const (.int .i64 1301)))]), 52, "", #[], none⟩⟩, ⟨some 7, none, .pur ⟨some 7, (.build 52 #[(0, (.const (.int .i64 8))), (1, (.const (.int .i64 2024))), (2, (.const (.int .i64 500)))]), 52, "", #[], none⟩⟩, ⟨some 8, none, .pur ⟨some 8, (.build 52 #[(0, (.const (.int .i64 8))), (1, (.const (.int .i64 2021))), (2, (.const (.int .i64 9999)))]), 52, "", #[], none⟩⟩, ⟨some 9, none, .pur ⟨some 9, (.build 52 #[(0, (.const (.int .i64 5))), (1, (.const (.int .i64 2020))), (2, (.const (.int .i64 700)))]), 52, "", #[], none⟩⟩, ⟨some 10, none, (.mem ⟨some 10, (.buildSlice 22 7 #[(0, (.tmp 3)), (1, (.tmp 4)), (2, (.tmp 5)), (3, (.tmp 6)), (4, (.tmp 7)), (5, (.tmp 8)), (6, (.tmp 9))]), 22, "", #[], none⟩)⟩, oM 2 10])
 (.seq (.reg [oM 11 2, ⟨some 12, none, (.pur ⟨some 12, (.build 24 #[(0, (.const (.int .i64 2026))), (1, (.const (.int .i64 4))), (2, (.const (.int .i64 2))), (3, (.const (.int .i64 850)))]), 24, "", #[], none⟩)⟩, oM 0 11, ⟨none, none, (.sta (.tmp 1) (.tmp 12) 4)⟩])
 .ret)))
theorem L22:low Try.prog Try.f22.ntmps (at_ Try.f22 [])=some R22:=by kernel_rfl
theorem N23:Try.f23.ntmps=16:=by kernel_rfl
theorem Z23:Try.f23.results.toList=(#[(.tmp 2)]:Array ResultVar).toList:=by kernel_rfl
theorem B23:Try.f23.body=some (at_ Try.f23 []):=by kernel_rfl
noncomputable def R23:RC:=(.seq (.reg [oF 2])
 (.seq (.reg [oM 3 0,oW 4 3,oB 5 .leq 4 256,oM 6 5,oG 7 6 true 0,oH 8 6 true 40 #[(.tmp 7),(.func 41)] #[22,77],oV 9 6 true 8,oA 10 6 9,oM 11 10,oG 12 11 true 0,oH 13 11 true 42 #[(.tmp 12)] #[22],oV 14 11 true 13,oA 15 11 14,oM 2 15])
 .ret))
theorem L23:low Try.prog Try.f23.ntmps (at_ Try.f23 [])=some R23:=by kernel_rfl
theorem N24:Try.f24.ntmps=23:=by kernel_rfl
theorem Z24:Try.f24.results.toList=(#[(.tmp 2)]:Array ResultVar).toList:=by kernel_rfl
theorem B24:Try.f24.body=some (at_ Try.f24 []):=by kernel_rfl
noncomputable def R24:RC:=(.seq (.reg [oK 1 24 0,oF 2])
 (.seq (.reg [oJ 3 1 0,oL 4 3 1,oC 5 28 #[(.tmp 4),(.const (.int .i64 9999))] #[3,3],oM 6 5,⟨some 7,some (6,true),(.addo (.tmp 1) 1)⟩,oLg 8 6 true 7 1,oH 9 6 true 43 #[(.tmp 8),(.const (.int .i64 10))] #[3,3],oA 10 6 9,oM 11 10,⟨some 12,some (11,true),(.addo (.tmp 1) 2)⟩,oLg 13 11 true 12 1,⟨some 14,some (11,true),(.addo (.tmp 1) 1)⟩,oLg 15 11 true 14 1,oH 16 11 true 43 #[(.tmp 13),(.tmp 15)] #[3,3],oA 17 11 16,oM 18 17,⟨some 19,some (18,true),(.addo (.tmp 1) 3)⟩,oLg 20 18 true 19 1,oH 21 18 true 28 #[(.tmp 20),(.const (.int .i64 1000))] #[3,3],oA 22 18 21,oM 2 22])
 .ret))
theorem L24:low Try.prog Try.f24.ntmps (at_ Try.f24 [])=some R24:=by kernel_rfl
theorem N25:Try.f25.ntmps=29:=by kernel_rfl
theorem Z25:Try.f25.results.toList=(#[(.tmp 4)]:Array ResultVar).toList:=by kernel_rfl
theorem B25:Try.f25.body=some (at_ Try.f25 []):=by kernel_rfl
noncomputable def R25:RC:=(.seq (.reg [⟨some 4,none,.mov (.const (.slice none 0 0))⟩])
 (.seq (.reg [⟨some 5,none,.mov (.const (.slice none 0 0))⟩])
 (.seq (.seq (.reg [oM 8 0,oW 9 8,oN 10 0])
 (.block 0 (.other (at_ Try.f25 [1,1,0,1,0]))))
 (.seq (.reg [oM 28 5,oM 4 28])
 .ret))))
theorem L25:low Try.prog Try.f25.ntmps (at_ Try.f25 [])=some R25:=by kernel_rfl
theorem ZiN:at_ Try.f25 [1,1,0,1,0]=.loop (at_ Try.f25 [1,1,0,1,0,0]):=by kernel_rfl
noncomputable def R25x1:RC:=(.seq (.reg [⟨some 11,none,(.cmp .lss (.tmp 10) (.tmp 9))⟩])
 (.seq (.cond (.tmp 11) .skip
 (.exit 0))
 (.seq (.block 1 (.seq (.reg [oI 12 8 10 2,oD 13 12 2,⟨some 7,none,(.alc 79 [(.int .i64 0),(.int .i64 0)])⟩,⟨none,none,(.sta (.tmp 7) (.tmp 13) 2)⟩])
 (.reg [oM 14 5, oJ 15 7 0, oL 16 15 1, oJ 17 7 1, oL 18 17 1, oJ 19 7 1, oL 20 19 1, oM 21 1, oS 22 .mul 20 21, oR 23 .quo 22 1000, ⟨some 24, none, .pur ⟨some 24, (.build 44 #[(0, (.tmp 16)), (1, (.tmp 18)), (2, (.tmp 23))]), 44, "", #[], none⟩⟩, ⟨some 25, none, (.mem ⟨some 25, (.buildSlice 27 1 #[(0, (.tmp 24))]), 27, "", #[], none⟩)⟩, ⟨some 26, none, (.mem ⟨some 26, (.call ⟨(.builtin .append), #[(.tmp 14), (.tmp 25)], #[27, 27]⟩), 27, "", #[], none⟩)⟩, oM 5 26])))
 (.reg [oR 27 .add 10 1,oM 10 27]))))
theorem ZiM:low Try.prog Try.f25.ntmps (at_ Try.f25 [1,1,0,1,0,0])=some R25x1:=by kernel_rfl
theorem N26:Try.f26.ntmps=30:=by kernel_rfl
theorem Z26:Try.f26.results.toList=(#[(.tmp 4)]:Array ResultVar).toList:=by kernel_rfl
theorem B26:Try.f26.body=some (at_ Try.f26 []):=by kernel_rfl
noncomputable def R26:RC:=(.seq (.reg [oK 3 24 1,⟨some 4,none,.mov (.const (.slice none 0 0))⟩])
 (.seq (.reg [⟨some 5,none,.mov (.const (.slice none 0 0))⟩])
 (.seq (.seq (.reg [oM 8 0,oD 9 3 4,oC 10 44 #[(.tmp 8),(.tmp 9)] #[22,24],⟨some 11,none,(.rng (.tmp 10))⟩])
 (.block 0 (.other (at_ Try.f26 [1,1,0,1,0]))))
 (.seq (.reg [oM 27 5,oC 28 47 #[(.tmp 27),(.func 48)] #[60,85]])
 (.seq (.reg [oM 29 5,oM 4 29])
 .ret)))))
theorem L26:low Try.prog Try.f26.ntmps (at_ Try.f26 [])=some R26:=by kernel_rfl
theorem Zif:at_ Try.f26 [1,1,0,1,0]=.loop (at_ Try.f26 [1,1,0,1,0,0]):=by kernel_rfl
noncomputable def R26x1:RC:=(.seq (.reg [⟨some 12,none,(.nxt (.tmp 11))⟩,oE 13 12 0 4])
 (.seq (.cond (.tmp 13) .skip
 (.exit 0))
 (.block 1 (.seq (.reg [⟨some 14,none,(.ent (.tmp 11))⟩,oE 15 14 0 3,oE 16 14 1 67,oM 6 15,oM 7 16])
 (.reg [oM 17 5, oM 18 6, oM 19 7, oJ 20 3 2, oL 21 20 1, oC 22 46 #[(.tmp 19), (.tmp 21)] #[67, 3], oC 23 45 #[(.tmp 22)] #[67], ⟨some 24, none, .pur ⟨some 24, (.build 79 #[(0, (.tmp 18)), (1, (.tmp 23))]), 79, "", #[], none⟩⟩, ⟨some 25, none, (.mem ⟨some 25, (.buildSlice 60 1 #[(0, (.tmp 24))]), 60, "", #[], none⟩)⟩, ⟨some 26, none, (.mem ⟨some 26, (.call ⟨(.builtin .append), #[(.tmp 17), (.tmp 25)], #[60, 60]⟩), 60, "", #[], none⟩)⟩, oM 5 26])))))
theorem ZiB:low Try.prog Try.f26.ntmps (at_ Try.f26 [1,1,0,1,0,0])=some R26x1:=by kernel_rfl
theorem N28:Try.f28.ntmps=12:=by kernel_rfl
theorem Z28:Try.f28.results.toList=(#[(.tmp 4)]:Array ResultVar).toList:=by kernel_rfl
theorem B28:Try.f28.body=some (at_ Try.f28 []):=by kernel_rfl
noncomputable def R28:RC:=(.seq (.reg [oF 4])
 (.seq (.reg [oM 5 0,⟨some 6,none,(.cmpb .leq (.const (.int .i64 0)) (.tmp 5))⟩,oM 7 6,oG 8 7 true 0,oG 9 7 true 1,⟨some 10,some (7,true),(.cmpb .leq (.tmp 8) (.tmp 9))⟩,oA 11 7 10,oM 4 11])
 .ret))
theorem L28:low Try.prog Try.f28.ntmps (at_ Try.f28 [])=some R28:=by kernel_rfl
theorem N29:Try.f29.ntmps=7:=by kernel_rfl
theorem Z29:Try.f29.results.toList=(#[(.tmp 4)]:Array ResultVar).toList:=by kernel_rfl
theorem B29:Try.f29.body=some (at_ Try.f29 []):=by kernel_rfl
noncomputable def R29:RC:=(.seq (.reg [oK 2 60 0,oK 3 3 1,oN 4 0])
 (.seq (.reg [⟨some 5, none, (.pur ⟨some 5, (.makeFunc (.func 51) #[] #[(.tmp 2), (.tmp 3)]), 89, "", #[], none⟩)⟩, oC 6 50 #[(.const (.int .i64 1000)), (.tmp 5)] #[3, 89], oM 4 6])
 .ret))
theorem L29:low Try.prog Try.f29.ntmps (at_ Try.f29 [])=some R29:=by kernel_rfl
theorem N30:Try.f30.ntmps=15:=by kernel_rfl
theorem Z30:Try.f30.results.toList=(#[(.tmp 6)]:Array ResultVar).toList:=by kernel_rfl
theorem B30:Try.f30.body=some (at_ Try.f30 []):=by kernel_rfl
noncomputable def R30:RC:=(.seq (.reg [oF 6])
 (.seq (.reg [oM 7 1,oM 8 0,⟨some 9,none,(.cmpb .leq (.tmp 7) (.tmp 8))⟩,oM 10 9,oG 11 10 true 0,oG 12 10 true 2,⟨some 13,some (10,true),(.cmpb .leq (.tmp 11) (.tmp 12))⟩,oA 14 10 13,oM 6 14])
 .ret))
theorem L30:low Try.prog Try.f30.ntmps (at_ Try.f30 [])=some R30:=by kernel_rfl
theorem N31:Try.f31.ntmps=18:=by kernel_rfl
theorem Z31:Try.f31.results.toList=(#[(.tmp 2)]:Array ResultVar).toList:=by kernel_rfl
theorem B31:Try.f31.body=some (at_ Try.f31 []):=by kernel_rfl
noncomputable def R31:RC:=(.seq (.reg [oN 2 0])
 (.seq (.reg [oN 3 0])
 (.seq (.seq (.reg [oM 6 0,oW 7 6,oN 8 0])
 (.block 0 (.other (at_ Try.f31 [1,1,0,1,0]))))
 (.seq (.reg [oM 17 3,oM 2 17])
 .ret))))
theorem L31:low Try.prog Try.f31.ntmps (at_ Try.f31 [])=some R31:=by kernel_rfl
theorem Zhz:at_ Try.f31 [1,1,0,1,0]=.loop (at_ Try.f31 [1,1,0,1,0,0]):=by kernel_rfl
noncomputable def R31x1:RC:=(.seq (.reg [⟨some 9,none,(.cmp .lss (.tmp 8) (.tmp 7))⟩])
 (.seq (.cond (.tmp 9) .skip
 (.exit 0))
 (.seq (.block 1 (.seq (.reg [oI 10 6 8 2,oD 11 10 2,⟨some 5,none,(.alc 79 [(.int .i64 0),(.int .i64 0)])⟩,⟨none,none,(.sta (.tmp 5) (.tmp 11) 2)⟩])
 (.reg [oM 12 3,oJ 13 5 1,oL 14 13 1,oS 15 .add 12 14,oM 3 15])))
 (.reg [oR 16 .add 8 1,oM 8 16]))))
theorem Zih:low Try.prog Try.f31.ntmps (at_ Try.f31 [1,1,0,1,0,0])=some R31x1:=by kernel_rfl
theorem N32:Try.f32.ntmps=57:=by kernel_rfl
theorem Z32:Try.f32.results.toList=(#[(.tmp 4)]:Array ResultVar).toList:=by kernel_rfl
theorem B32:Try.f32.body=some (at_ Try.f32 []):=by kernel_rfl
noncomputable def R32:RC:=(.seq (.reg [⟨some 4,none,.mov (.const (.slice none 0 0))⟩])
 (.seq (.reg [oM 11 0,oC 12 31 #[(.tmp 11)] #[60],oM 5 12])
 (.seq (.reg [⟨some 6,none,.mov (.const (.slice none 0 0))⟩])
 (.seq (.seq (.reg [oM 13 0,oW 14 13,oN 15 0])
 (.block 0 (.other (at_ Try.f32 [1,1,1,0,1,0]))))
 (.seq (.seq (.reg [oM 34 0, oM 35 1, oC 36 53 #[(.tmp 34), (.tmp 35)] #[60, 3], oM 37 1, oM 38 6, oC 39 52 #[(.tmp 38)] #[27], oS 40 .sub 37 39, ⟨some 41, none, (.mem ⟨some 41, (.slice 67 (.tmp 36) none (some (.tmp 40)) none), 67, "", #[], none⟩)⟩, oW 42 41, oN 43 0])
 (.block 2 (.other (at_ Try.f32 [1,1,1,1,0,1,0]))))
 (.seq (.reg [oM 56 6,oM 4 56])
 .ret))))))
theorem L32:low Try.prog Try.f32.ntmps (at_ Try.f32 [])=some R32:=by kernel_rfl
theorem Zjt:at_ Try.f32 [1,1,1,0,1,0]=.loop (at_ Try.f32 [1,1,1,0,1,0,0]):=by kernel_rfl
noncomputable def R32x1:RC:=(.seq (.reg [⟨some 16,none,(.cmp .lss (.tmp 15) (.tmp 14))⟩])
 (.seq (.cond (.tmp 16) .skip
 (.exit 0))
 (.seq (.block 1 (.seq (.reg [oI 17 13 15 2,oD 18 17 2,⟨some 8,none,(.alc 79 [(.int .i64 0),(.int .i64 0)])⟩,⟨none,none,(.sta (.tmp 8) (.tmp 18) 2)⟩])
 (.dreg [oM 19 6, oJ 20 8 0, oL 21 20 1, oJ 22 8 1, oL 23 22 1, oM 24 1, oJ 25 8 1, oL 26 25 1, oS 27 .mul 24 26, oM 28 5, oS 29 .quo 27 28, ⟨some 30, none, .pur ⟨some 30, (.build 44 #[(0, (.tmp 21)), (1, (.tmp 23)), (2, (.tmp 29))]), 44, "", #[], none⟩⟩, ⟨some 31, none, (.mem ⟨some 31, (.buildSlice 27 1 #[(0, (.tmp 30))]), 27, "", #[], none⟩)⟩, ⟨some 32, none, (.mem ⟨some 32, (.call ⟨(.builtin .append), #[(.tmp 19), (.tmp 31)], #[27, 27]⟩), 27, "", #[], none⟩)⟩, oM 6 32] [16383, 8191, 4094, 2046, 992, 0, 224, 64, 0, 0, 8, 0, 2, 0, 0])))
 (.reg [oR 33 .add 15 1,oM 15 33]))))
theorem Zhy:low Try.prog Try.f32.ntmps (at_ Try.f32 [1,1,1,0,1,0,0])=some R32x1:=by kernel_rfl
theorem Zh0:at_ Try.f32 [1,1,1,1,0,1,0]=.loop (at_ Try.f32 [1,1,1,1,0,1,0,0]):=by kernel_rfl
noncomputable def R32x2:RC:=(.seq (.reg [⟨some 44,none,(.cmp .lss (.tmp 43) (.tmp 42))⟩])
 (.seq (.cond (.tmp 44) .skip
 (.exit 2))
 (.seq (.block 3 (.seq (.reg [oI 45 41 43 1,oL 46 45 1,oM 10 46])
 (.reg [oM 47 6,oM 48 10,oI 49 47 48 3,oJ 50 49 2,oL 51 50 1,oR 52 .add 51 1,oI 53 47 48 3,oJ 54 53 2,⟨none,none,.st (.tmp 54) (.tmp 52)⟩])))
 (.reg [oR 55 .add 43 1,oM 43 55]))))
theorem Ziz:low Try.prog Try.f32.ntmps (at_ Try.f32 [1,1,1,1,0,1,0,0])=some R32x2:=by kernel_rfl
theorem N33:Try.f33.ntmps=24:=by kernel_rfl
theorem Z33:Try.f33.results.toList=(#[(.tmp 2)]:Array ResultVar).toList:=by kernel_rfl
theorem B33:Try.f33.body=some (at_ Try.f33 []):=by kernel_rfl
noncomputable def R33:RC:=(.seq (.reg [⟨some 2,none,.mov (.const (.map none))⟩])
 (.seq (.reg [⟨some 6, none, (.mem ⟨some 6, (.makeMap 69 none), 69, "", #[], none⟩)⟩, oM 3 6])
 (.seq (.seq (.reg [oM 7 0,oW 8 7,oN 9 0])
 (.block 0 (.other (at_ Try.f33 [1,1,0,1,0]))))
 (.seq (.reg [oM 23 3,oM 2 23])
 .ret))))
theorem L33:low Try.prog Try.f33.ntmps (at_ Try.f33 [])=some R33:=by kernel_rfl
theorem Zjh:at_ Try.f33 [1,1,0,1,0]=.loop (at_ Try.f33 [1,1,0,1,0,0]):=by kernel_rfl
noncomputable def R33x1:RC:=(.seq (.reg [⟨some 10,none,(.cmp .lss (.tmp 9) (.tmp 8))⟩])
 (.seq (.cond (.tmp 10) .skip
 (.exit 0))
 (.seq (.block 1 (.seq (.reg [oI 11 7 9 3,oD 12 11 3,⟨some 5,none,(.alc 44 [(.int .i64 0),(.int .i64 0),(.int .i64 0)])⟩,⟨none,none,(.sta (.tmp 5) (.tmp 12) 3)⟩])
 (.reg [oM 13 3, oJ 14 5 0, oL 15 14 1, oJ 16 5 0, oL 17 16 1, oJ 18 5 2, oL 19 18 1, ⟨some 20, none, (.pur ⟨some 20, (.build 47 #[(0, (.tmp 17)), (1, (.tmp 19))]), 47, "", #[], none⟩)⟩, oK 21 47 20, ⟨none, none, (.mst ⟨none, (.mapUpdate 69 (.tmp 13) (.tmp 15) (.tmp 21)), 0, "", #[], none⟩)⟩])))
 (.reg [oR 22 .add 9 1,oM 9 22]))))
theorem Zjk:low Try.prog Try.f33.ntmps (at_ Try.f33 [1,1,0,1,0,0])=some R33x1:=by kernel_rfl
theorem N35:Try.f35.ntmps=24:=by kernel_rfl
theorem Z35:Try.f35.results.toList=(#[(.tmp 2)]:Array ResultVar).toList:=by kernel_rfl
theorem B35:Try.f35.body=some (at_ Try.f35 []):=by kernel_rfl
noncomputable def R35:RC:=(.seq (.reg [⟨some 2,none,.mov (.const (.slice none 0 0))⟩])
 (.seq (.reg [⟨some 3,none,.mov (.const (.slice none 0 0))⟩])
 (.seq (.seq (.reg [oM 6 0,oC 7 57 #[(.tmp 6)] #[69],oC 8 56 #[(.tmp 7)] #[96],oW 9 8,oN 10 0])
 (.block 0 (.other (at_ Try.f35 [1,1,0,1,0]))))
 (.seq (.reg [oM 23 3,oM 2 23])
 .ret))))
theorem L35:low Try.prog Try.f35.ntmps (at_ Try.f35 [])=some R35:=by kernel_rfl
theorem Zh4:at_ Try.f35 [1,1,0,1,0]=.loop (at_ Try.f35 [1,1,0,1,0,0]):=by kernel_rfl
noncomputable def R35x1:RC:=(.seq (.reg [⟨some 11,none,(.cmp .lss (.tmp 10) (.tmp 9))⟩])
 (.seq (.cond (.tmp 11) .skip
 (.exit 0))
 (.seq (.block 1 (.seq (.reg [oI 12 8 10 1,oL 13 12 1,oM 5 13])
 (.reg [oM 14 3, oM 15 0, oM 16 5, ⟨some 17, none, (.mem ⟨some 17, (.lookup 69 (.tmp 15) (.tmp 16) false), 91, "", #[], none⟩)⟩, ⟨some 18, none, (.nilc (.tmp 17))⟩, oD 19 18 4, ⟨some 20, none, (.mem ⟨some 20, (.buildSlice 37 1 #[(0, (.tmp 19))]), 37, "", #[], none⟩)⟩, ⟨some 21, none, (.mem ⟨some 21, (.call ⟨(.builtin .append), #[(.tmp 14), (.tmp 20)], #[37, 37]⟩), 37, "", #[], none⟩)⟩, oM 3 21])))
 (.reg [oR 22 .add 10 1,oM 10 22]))))
theorem Zjo:low Try.prog Try.f35.ntmps (at_ Try.f35 [1,1,0,1,0,0])=some R35x1:=by kernel_rfl
theorem N38:Try.f38.ntmps=62:=by kernel_rfl
theorem Z38:Try.f38.results.toList=(#[(.tmp 2)]:Array ResultVar).toList:=by kernel_rfl
theorem B38:Try.f38.body=some (at_ Try.f38 []):=by kernel_rfl
noncomputable def R38:RC:=(.seq (.reg [oF 2])
 (.seq (.seq (.reg [oN 3 0])
 (.block 0 (.other (at_ Try.f38 [1,0,1,0]))))
 (.seq (.reg [oM 59 0,oW 60 59,oQ 61 .leq 60 256,oM 2 61])
 .ret)))
theorem L38:low Try.prog Try.f38.ntmps (at_ Try.f38 [])=some R38:=by kernel_rfl
theorem Zi9:at_ Try.f38 [1,0,1,0]=.loop (at_ Try.f38 [1,0,1,0,0]):=by kernel_rfl
noncomputable def R38x1:RC:=(.seq (.seq (.reg [oM 6 3,oM 7 0,oW 8 7,⟨some 9,none,(.cmpb .lss (.tmp 6) (.tmp 8))⟩,oM 10 9,oG 11 10 true 3,oBg 12 10 true .leq 11 256,oA 13 10 12])
 (.cond (.tmp 13) .skip
 (.exit 0)))
 (.seq (.block 1 (.seq (.reg [oM 16 0,oM 17 3,oI 18 16 17 3,oD 19 18 3,⟨some 4,none,(.alc 52 [(.int .i64 0),(.int .i64 0),(.int .i64 0)])⟩,⟨none,none,(.sta (.tmp 4) (.tmp 19) 3)⟩])
 (.seq (.seq (.reg [oJ 20 4 0,oL 21 20 1,oC 22 30 #[(.tmp 21),(.const (.int .i64 0)),(.const (.int .i64 1023))] #[3,3,3],oU 23 22,oM 24 23,⟨some 25,some (24,false),(.addo (.tmp 4) 1)⟩,oLg 26 24 false 25 1,oH 27 24 false 30 #[(.tmp 26),(.const (.int .i64 0)),(.const (.int .i64 9999))] #[3,3,3],oV 28 24 false 27,oO 29 24 28,oM 30 29,⟨some 31,some (30,false),(.addo (.tmp 4) 2)⟩,oLg 32 30 false 31 1,oH 33 30 false 30 #[(.tmp 32),(.const (.int .i64 0)),(.const (.int .i64 1099511627776))] #[3,3,3],oV 34 30 false 33,oO 35 30 34])
 (.cond (.tmp 35) (.seq (.reg [oF 2])
 .ret)
 .skip))
 (.seq (.reg [oN 5 0])
 (.block 2 (.other (at_ Try.f38 [1,0,1,0,0,1,0,0,1,1,1,0])))))))
 (.reg [oM 14 3,oR 15 .add 14 1,oM 3 15])))
theorem ZhX:low Try.prog Try.f38.ntmps (at_ Try.f38 [1,0,1,0,0])=some R38x1:=by kernel_rfl
theorem Zix:at_ Try.f38 [1,0,1,0,0,1,0,0,1,1,1,0]=.loop (at_ Try.f38 [1,0,1,0,0,1,0,0,1,1,1,0,0]):=by kernel_rfl
noncomputable def R38x2:RC:=(.seq (.seq (.reg [oM 36 5,oM 37 3,⟨some 38,none,(.cmp .lss (.tmp 36) (.tmp 37))⟩])
 (.cond (.tmp 38) .skip
 (.exit 2)))
 (.seq (.block 3 (.seq (.dreg [oM 41 0,oM 42 5,oI 43 41 42 3,oJ 44 43 0,oL 45 44 1,oJ 46 4 0,oL 47 46 1,⟨some 48,none,(.cmpb .eql (.tmp 45) (.tmp 47))⟩,oM 49 48,oG 50 49 true 0,oG 51 49 true 5,oIg 52 49 true 50 51 3,⟨some 53,some (49,true),(.addo (.tmp 52) 1)⟩,oLg 54 49 true 53 1,⟨some 55,some (49,true),(.addo (.tmp 4) 1)⟩,oLg 56 49 true 55 1,⟨some 57,some (49,true),(.cmpb .eql (.tmp 54) (.tmp 56))⟩,oA 58 49 57] [131071,65535,16895,511,8191,4095,2047,511,511,255,127,32,0,15,7,3,0,0])
 (.cond (.tmp 58) (.seq (.reg [oF 2])
 .ret)
 .skip)))
 (.reg [oM 39 5,oR 40 .add 39 1,oM 5 40])))
theorem ZhL:low Try.prog Try.f38.ntmps (at_ Try.f38 [1,0,1,0,0,1,0,0,1,1,1,0,0])=some R38x2:=by kernel_rfl
theorem N39:Try.f39.ntmps=23:=by kernel_rfl
theorem Z39:Try.f39.results.toList=(#[(.tmp 2)]:Array ResultVar).toList:=by kernel_rfl
theorem B39:Try.f39.body=some (at_ Try.f39 []):=by kernel_rfl
noncomputable def R39:RC:=(.seq (.reg [oK 1 24 0,oF 2])
 (.seq (.reg [oJ 3 1 0,oL 4 3 1,oC 5 30 #[(.tmp 4),(.const (.int .i64 0)),(.const (.int .i64 9999))] #[3,3,3],oM 6 5,⟨some 7,some (6,true),(.addo (.tmp 1) 1)⟩,oLg 8 6 true 7 1,oH 9 6 true 30 #[(.tmp 8),(.const (.int .i64 1)),(.const (.int .i64 10))] #[3,3,3],oA 10 6 9,oM 11 10,⟨some 12,some (11,true),(.addo (.tmp 1) 2)⟩,oLg 13 11 true 12 1,⟨some 14,some (11,true),(.addo (.tmp 1) 1)⟩,oLg 15 11 true 14 1,oH 16 11 true 30 #[(.tmp 13),(.const (.int .i64 1)),(.tmp 15)] #[3,3,3],oA 17 11 16,oM 18 17,⟨some 19,some (18,true),(.addo (.tmp 1) 3)⟩,oLg 20 18 true 19 1,oH 21 18 true 30 #[(.tmp 20),(.const (.int .i64 0)),(.const (.int .i64 1000))] #[3,3,3],oA 22 18 21,oM 2 22])
 .ret))
theorem L39:low Try.prog Try.f39.ntmps (at_ Try.f39 [])=some R39:=by kernel_rfl
theorem N40:Try.f40.ntmps=9:=by kernel_rfl
theorem Z40:Try.f40.results.toList=(#[(.tmp 4)]:Array ResultVar).toList:=by kernel_rfl
theorem B40:Try.f40.body=some (at_ Try.f40 []):=by kernel_rfl
noncomputable def R40:RC:=(.seq (.reg [oF 4])
 (.seq (.reg [oM 5 0,oM 6 1,oC 7 59 #[(.tmp 5),(.tmp 6)] #[22,77],oQ 8 .geq 7 0,oM 4 8])
 .ret))
theorem L40:low Try.prog Try.f40.ntmps (at_ Try.f40 [])=some R40:=by kernel_rfl
theorem N41:Try.f41.ntmps=19:=by kernel_rfl
theorem Z41:Try.f41.results.toList=(#[(.tmp 2)]:Array ResultVar).toList:=by kernel_rfl
theorem B41:Try.f41.body=some (at_ Try.f41 []):=by kernel_rfl
noncomputable def R41:RC:=(.seq (.reg [oK 1 52 0,oF 2])
 (.seq (.reg [oJ 3 1 0,oL 4 3 1,oC 5 28 #[(.tmp 4),(.const (.int .i64 1023))] #[3,3],oU 6 5,oM 7 6,⟨some 8,some (7,false),(.addo (.tmp 1) 1)⟩,oLg 9 7 false 8 1,oH 10 7 false 28 #[(.tmp 9),(.const (.int .i64 9999))] #[3,3],oV 11 7 false 10,oO 12 7 11,oM 13 12,⟨some 14,some (13,false),(.addo (.tmp 1) 2)⟩,oLg 15 13 false 14 1,oH 16 13 false 28 #[(.tmp 15),(.const (.int .i64 1099511627776))] #[3,3],oV 17 13 false 16,oO 18 13 17,oM 2 18])
 .ret))
theorem L41:low Try.prog Try.f41.ntmps (at_ Try.f41 [])=some R41:=by kernel_rfl
theorem N42:Try.f42.ntmps=25:=by kernel_rfl
theorem Z42:Try.f42.results.toList=(#[(.tmp 2)]:Array ResultVar).toList:=by kernel_rfl
theorem B42:Try.f42.body=some (at_ Try.f42 []):=by kernel_rfl
noncomputable def R42:RC:=(.seq (.reg [oF 2])
 (.seq (.reg [⟨some 7, none, (.mem ⟨some 7, (.makeMap 100 none), 100, "", #[], none⟩)⟩, oM 3 7])
 (.seq (.seq (.reg [oM 8 0,oW 9 8,oN 10 0])
 (.block 0 (.other (at_ Try.f42 [1,1,0,1,0]))))
 (.seq (.reg [oF 2])
 .ret))))
theorem L42:low Try.prog Try.f42.ntmps (at_ Try.f42 [])=some R42:=by kernel_rfl
theorem Zjy:at_ Try.f42 [1,1,0,1,0]=.loop (at_ Try.f42 [1,1,0,1,0,0]):=by kernel_rfl
noncomputable def R42x1:RC:=(.seq (.reg [⟨some 11,none,(.cmp .lss (.tmp 10) (.tmp 9))⟩])
 (.seq (.cond (.tmp 11) .skip
 (.exit 0))
 (.seq (.block 1 (.seq (.reg [oI 12 8 10 3,oD 13 12 3,⟨some 5,none,(.alc 52 [(.int .i64 0),(.int .i64 0),(.int .i64 0)])⟩,⟨none,none,(.sta (.tmp 5) (.tmp 13) 3)⟩])
 (.seq (.reg [oJ 14 5 0, oL 15 14 1, oJ 16 5 1, oL 17 16 1, ⟨some 18, none, .pur ⟨some 18, (.build 102 #[(0, (.tmp 15)), (1, (.tmp 17))]), 102, "", #[], none⟩⟩, ⟨some 6, none, (.alc 102 [(.int .i64 0), (.int .i64 0)])⟩, ⟨none, none, (.sta (.tmp 6) (.tmp 18) 2)⟩])
 (.seq (.seq (.reg [oM 19 3, oD 20 6 2, ⟨some 21, none, (.mem ⟨some 21, (.lookup 100 (.tmp 19) (.tmp 20) false), 4, "", #[], none⟩)⟩])
 (.cond (.tmp 21) (.seq (.reg [⟨some 2,none,.mov (.const (.bool true))⟩])
 .ret)
 .skip))
 (.reg [oM 22 3, oD 23 6 2, ⟨none, none, (.mst ⟨none, (.mapUpdate 100 (.tmp 22) (.tmp 23) (.const (.bool true))), 0, "", #[], none⟩)⟩])))))
 (.reg [oR 24 .add 10 1,oM 10 24]))))
theorem ZiW:low Try.prog Try.f42.ntmps (at_ Try.f42 [1,1,0,1,0,0])=some R42x1:=by kernel_rfl
theorem N43:Try.f43.ntmps=12:=by kernel_rfl
theorem Z43:Try.f43.results.toList=(#[(.tmp 4)]:Array ResultVar).toList:=by kernel_rfl
theorem B43:Try.f43.body=some (at_ Try.f43 []):=by kernel_rfl
noncomputable def R43:RC:=(.seq (.reg [oF 4])
 (.seq (.reg [oM 5 0,⟨some 6,none,(.cmpb .leq (.const (.int .i64 1)) (.tmp 5))⟩,oM 7 6,oG 8 7 true 0,oG 9 7 true 1,⟨some 10,some (7,true),(.cmpb .leq (.tmp 8) (.tmp 9))⟩,oA 11 7 10,oM 4 11])
 .ret))
theorem L43:low Try.prog Try.f43.ntmps (at_ Try.f43 [])=some R43:=by kernel_rfl
theorem N44:Try.f44.ntmps=43:=by kernel_rfl
theorem Z44:Try.f44.results.toList=(#[(.tmp 4)]:Array ResultVar).toList:=by kernel_rfl
theorem B44:Try.f44.body=some (at_ Try.f44 []):=by kernel_rfl
noncomputable def R44:RC:=(.seq (.reg [oK 3 24 1,⟨some 4,none,.mov (.const (.map none))⟩])
 (.seq (.reg [⟨some 8, none, (.mem ⟨some 8, (.makeMap 80 none), 80, "", #[], none⟩)⟩, oM 5 8])
 (.seq (.seq (.reg [oM 9 0,oW 10 9,oN 11 0])
 (.block 0 (.other (at_ Try.f44 [1,1,0,1,0]))))
 (.seq (.reg [oM 42 5,oM 4 42])
 .ret))))
theorem L44:low Try.prog Try.f44.ntmps (at_ Try.f44 [])=some R44:=by kernel_rfl
theorem ZiX:at_ Try.f44 [1,1,0,1,0]=.loop (at_ Try.f44 [1,1,0,1,0,0]):=by kernel_rfl
noncomputable def R44x1:RC:=(.seq (.reg [⟨some 12,none,(.cmp .lss (.tmp 11) (.tmp 10))⟩])
 (.seq (.cond (.tmp 12) .skip
 (.exit 0))
 (.seq (.block 1 (.seq (.reg [oI 13 9 11 3,oD 14 13 3,⟨some 7,none,(.alc 52 [(.int .i64 0),(.int .i64 0),(.int .i64 0)])⟩,⟨none,none,(.sta (.tmp 7) (.tmp 14) 3)⟩])
 (.seq (.reg [oJ 15 7 1,oL 16 15 1,oJ 17 3 0,oL 18 17 1,oJ 19 3 1,oL 20 19 1,oS 21 .sub 18 20,⟨some 22,none,(.cmpb .geq (.tmp 16) (.tmp 21))⟩,oM 23 22,⟨some 24,some (23,true),(.addo (.tmp 7) 1)⟩,oLg 25 23 true 24 1,⟨some 26,some (23,true),(.addo (.tmp 3) 0)⟩,oLg 27 23 true 26 1,⟨some 28,some (23,true),(.cmpb .lss (.tmp 25) (.tmp 27))⟩,oA 29 23 28])
 (.cond (.tmp 29) (.dreg [oM 30 5, oJ 31 7 0, oL 32 31 1, oM 33 5, oJ 34 7 0, oL 35 34 1, ⟨some 36, none, (.mem ⟨some 36, (.lookup 80 (.tmp 33) (.tmp 35) false), 67, "", #[], none⟩)⟩, oJ 37 7 2, oL 38 37 1, ⟨some 39, none, (.mem ⟨some 39, (.buildSlice 67 1 #[(0, (.tmp 38))]), 67, "", #[], none⟩)⟩, ⟨some 40, none, (.mem ⟨some 40, (.call ⟨(.builtin .append), #[(.tmp 36), (.tmp 39)], #[67, 67]⟩), 67, "", #[], none⟩)⟩, ⟨none, none, (.mst ⟨none, (.mapUpdate 80 (.tmp 30) (.tmp 32) (.tmp 40)), 0, "", #[], none⟩)⟩] [2047, 1016, 384, 128, 0, 56, 16, 0, 0, 2, 0, 0])
 .skip))))
 (.reg [oR 41 .add 11 1,oM 11 41]))))
theorem Zit:low Try.prog Try.f44.ntmps (at_ Try.f44 [1,1,0,1,0,0])=some R44x1:=by kernel_rfl
theorem N45:Try.f45.ntmps=20:=by kernel_rfl
theorem Z45:Try.f45.results.toList=(#[(.tmp 2)]:Array ResultVar).toList:=by kernel_rfl
theorem B45:Try.f45.body=some (at_ Try.f45 []):=by kernel_rfl
noncomputable def R45:RC:=(.seq (.reg [oN 2 0])
 (.seq (.reg [oN 3 0])
 (.seq (.seq (.reg [oM 6 0,oW 7 6,oN 8 0])
 (.block 0 (.other (at_ Try.f45 [1,1,0,1,0]))))
 (.seq (.reg [oM 16 3,oM 17 0,oW 18 17,oS 19 .quo 16 18,oM 2 19])
 .ret))))
theorem L45:low Try.prog Try.f45.ntmps (at_ Try.f45 [])=some R45:=by kernel_rfl
theorem Zjl:at_ Try.f45 [1,1,0,1,0]=.loop (at_ Try.f45 [1,1,0,1,0,0]):=by kernel_rfl
noncomputable def R45x1:RC:=(.seq (.reg [⟨some 9,none,(.cmp .lss (.tmp 8) (.tmp 7))⟩])
 (.seq (.cond (.tmp 9) .skip
 (.exit 0))
 (.seq (.block 1 (.seq (.reg [oI 10 6 8 1,oL 11 10 1,oM 5 11])
 (.reg [oM 12 3,oM 13 5,oS 14 .add 12 13,oM 3 14])))
 (.reg [oR 15 .add 8 1,oM 8 15]))))
theorem ZiI:low Try.prog Try.f45.ntmps (at_ Try.f45 [1,1,0,1,0,0])=some R45x1:=by kernel_rfl
theorem N46:Try.f46.ntmps=13:=by kernel_rfl
theorem Z46:Try.f46.results.toList=(#[(.tmp 4)]:Array ResultVar).toList:=by kernel_rfl
theorem B46:Try.f46.body=some (at_ Try.f46 []):=by kernel_rfl
noncomputable def R46:RC:=(.seq (.reg [⟨some 4,none,.mov (.const (.slice none 0 0))⟩])
 (.seq (.reg [oM 5 0,oC 6 60 #[(.tmp 5),(.func 61)] #[67,104]])
 (.seq (.reg [oM 7 0, oM 8 1, oM 9 0, oW 10 9, ⟨some 11, none, (.mm true (.tmp 8) (.tmp 10))⟩, ⟨some 12, none, (.mem ⟨some 12, (.slice 67 (.tmp 7) none (some (.tmp 11)) none), 67, "", #[], none⟩)⟩, oM 4 12])
 .ret)))
theorem L46:low Try.prog Try.f46.ntmps (at_ Try.f46 [])=some R46:=by kernel_rfl
theorem N47:Try.f47.ntmps=7:=by kernel_rfl
theorem Z47:Try.f47.results.toList=(#[]:Array ResultVar).toList:=by kernel_rfl
theorem B47:Try.f47.body=some (at_ Try.f47 []):=by kernel_rfl
noncomputable def R47:RC:=(.seq (.reg [oK 3 85 1])
 (.reg [oM 4 0, ⟨some 5, none, (.pur ⟨some 5, (.makeFunc (.func 63) #[] #[(.tmp 3)]), 107, "", #[], none⟩)⟩, oC 6 62 #[(.tmp 4), (.tmp 5)] #[60, 107]]))
theorem L47:low Try.prog Try.f47.ntmps (at_ Try.f47 [])=some R47:=by kernel_rfl
theorem N48:Try.f48.ntmps=5:=by kernel_rfl
theorem Z48:Try.f48.results.toList=(#[(.tmp 2)]:Array ResultVar).toList:=by kernel_rfl
theorem B48:Try.f48.body=some (at_ Try.f48 []):=by kernel_rfl
noncomputable def R48:RC:=(.seq (.reg [oK 1 79 0,oN 2 0])
 (.seq (.reg [oJ 3 1 0,oL 4 3 1,oM 2 4])
 .ret))
theorem L48:low Try.prog Try.f48.ntmps (at_ Try.f48 [])=some R48:=by kernel_rfl
theorem N50:Try.f50.ntmps=26:=by kernel_rfl
theorem Z50:Try.f50.results.toList=(#[(.tmp 4)]:Array ResultVar).toList:=by kernel_rfl
theorem B50:Try.f50.body=some (at_ Try.f50 []):=by kernel_rfl
noncomputable def R50:RC:=(.seq (.reg [oN 4 0])
 (.seq (.reg [oM 8 0,oN 5 0,oM 6 8])
 (.seq (.block 0 (.other (at_ Try.f50 [1,1,0,0])))
 (.seq (.reg [oM 25 5,oM 4 25])
 .ret))))
theorem L50:low Try.prog Try.f50.ntmps (at_ Try.f50 [])=some R50:=by kernel_rfl
theorem ZhM:at_ Try.f50 [1,1,0,0]=.loop (at_ Try.f50 [1,1,0,0,0]):=by kernel_rfl
noncomputable def R50x1:RC:=(.seq (.seq (.reg [oM 9 5,oM 10 6,⟨some 11,none,(.cmp .lss (.tmp 9) (.tmp 10))⟩])
 (.cond (.tmp 11) .skip
 (.exit 0)))
 (.block 1 (.seq (.reg [oM 12 5, oM 13 6, oS 14 .add 12 13, ⟨some 15, none, .pur ⟨some 15, (.convert 3 109 (.tmp 14)), 109, "", #[], none⟩⟩, ⟨some 16, none, .pur ⟨some 16, (.binOp .shr 109 (.tmp 15) (.const (.int .u64 1)) 109), 109, "", #[], none⟩⟩, ⟨some 17, none, (.pur ⟨some 17, (.convert 109 3 (.tmp 16)), 3, "", #[], none⟩)⟩, oM 7 17])
 (.seq (.reg [oM 18 1,oM 19 7,⟨some 20,none,(.call ⟨(.value (.tmp 18)),#[(.tmp 19)],#[3]⟩ true)⟩,oU 21 20])
 (.cond (.tmp 21) (.reg [oM 22 7,oR 23 .add 22 1,oM 5 23])
 (.reg [oM 24 7,oM 6 24]))))))
theorem Zju:low Try.prog Try.f50.ntmps (at_ Try.f50 [1,1,0,0,0])=some R50x1:=by kernel_rfl
theorem N51:Try.f51.ntmps=12:=by kernel_rfl
theorem Z51:Try.f51.results.toList=(#[(.tmp 4)]:Array ResultVar).toList:=by kernel_rfl
theorem B51:Try.f51.body=some (at_ Try.f51 []):=by kernel_rfl
noncomputable def R51:RC:=(.seq (.reg [oF 4])
 (.seq (.dreg [oL 5 1 1,oM 6 0,oR 7 .add 6 1,⟨some 8,none,.call ⟨(.value (.func 25)),#[(.tmp 5),(.tmp 7)],#[60,3]⟩ false⟩,⟨some 9,none,(.call ⟨(.value (.func 52)),#[(.tmp 8)],#[27]⟩ false)⟩,oL 10 2 1,⟨some 11,none,(.cmp .gtr (.tmp 9) (.tmp 10))⟩,oM 4 11] [127,63,0,15,7,2,0,0])
 .ret))
theorem L51:low Try.prog Try.f51.ntmps (at_ Try.f51 [])=some R51:=by kernel_rfl
theorem N52:Try.f52.ntmps=18:=by kernel_rfl
theorem Z52:Try.f52.results.toList=(#[(.tmp 2)]:Array ResultVar).toList:=by kernel_rfl
theorem B52:Try.f52.body=some (at_ Try.f52 []):=by kernel_rfl
noncomputable def R52:RC:=(.seq (.reg [oN 2 0])
 (.seq (.reg [oN 3 0])
 (.seq (.seq (.reg [oM 6 0,oW 7 6,oN 8 0])
 (.block 0 (.other (at_ Try.f52 [1,1,0,1,0]))))
 (.seq (.reg [oM 17 3,oM 2 17])
 .ret))))
theorem L52:low Try.prog Try.f52.ntmps (at_ Try.f52 [])=some R52:=by kernel_rfl
theorem Zik:at_ Try.f52 [1,1,0,1,0]=.loop (at_ Try.f52 [1,1,0,1,0,0]):=by kernel_rfl
noncomputable def R52x1:RC:=(.seq (.reg [⟨some 9,none,(.cmp .lss (.tmp 8) (.tmp 7))⟩])
 (.seq (.cond (.tmp 9) .skip
 (.exit 0))
 (.seq (.block 1 (.seq (.reg [oI 10 6 8 3,oD 11 10 3,⟨some 5,none,(.alc 44 [(.int .i64 0),(.int .i64 0),(.int .i64 0)])⟩,⟨none,none,(.sta (.tmp 5) (.tmp 11) 3)⟩])
 (.reg [oM 12 3,oJ 13 5 2,oL 14 13 1,oS 15 .add 12 14,oM 3 15])))
 (.reg [oR 16 .add 8 1,oM 8 16]))))
theorem ZhZ:low Try.prog Try.f52.ntmps (at_ Try.f52 [1,1,0,1,0,0])=some R52x1:=by kernel_rfl
theorem N53:Try.f53.ntmps=24:=by kernel_rfl
theorem Z53:Try.f53.results.toList=(#[(.tmp 4)]:Array ResultVar).toList:=by kernel_rfl
theorem B53:Try.f53.body=some (at_ Try.f53 []):=by kernel_rfl
noncomputable def R53:RC:=(.seq (.reg [oK 2 60 0,oK 3 3 1,⟨some 4,none,.mov (.const (.slice none 0 0))⟩])
 (.seq (.reg [oL 8 2 1,oC 9 31 #[(.tmp 8)] #[60],⟨some 5,none,(.alc 3 [(.int .i64 0)])⟩,⟨none,none,.st (.tmp 5) (.tmp 9)⟩])
 (.seq (.reg [⟨some 6,none,.mov (.const (.slice none 0 0))⟩])
 (.seq (.seq (.reg [oL 10 2 1,oW 11 10,oN 12 0])
 (.block 0 (.other (at_ Try.f53 [1,1,1,0,1,0]))))
 (.seq (.reg [oM 20 6, ⟨some 21, none, (.pur ⟨some 21, (.makeFunc (.func 66) #[] #[(.tmp 3), (.tmp 2), (.tmp 5)]), 104, "", #[], none⟩)⟩, oC 22 60 #[(.tmp 20), (.tmp 21)] #[67, 104]])
 (.seq (.reg [oM 23 6,oM 4 23])
 .ret))))))
theorem L53:low Try.prog Try.f53.ntmps (at_ Try.f53 [])=some R53:=by kernel_rfl
theorem Zim:at_ Try.f53 [1,1,1,0,1,0]=.loop (at_ Try.f53 [1,1,1,0,1,0,0]):=by kernel_rfl
noncomputable def R53x1:RC:=(.seq (.reg [⟨some 13,none,(.cmp .lss (.tmp 12) (.tmp 11))⟩])
 (.seq (.cond (.tmp 13) .skip
 (.exit 0))
 (.seq (.block 1 (.seq (.reg [oM 14 12,oM 7 14])
 (.reg [oM 15 6, oM 16 7, ⟨some 17, none, (.mem ⟨some 17, (.buildSlice 67 1 #[(0, (.tmp 16))]), 67, "", #[], none⟩)⟩, ⟨some 18, none, (.mem ⟨some 18, (.call ⟨(.builtin .append), #[(.tmp 15), (.tmp 17)], #[67, 67]⟩), 67, "", #[], none⟩)⟩, oM 6 18])))
 (.reg [oR 19 .add 12 1,oM 12 19]))))
theorem Zh5:low Try.prog Try.f53.ntmps (at_ Try.f53 [1,1,1,0,1,0,0])=some R53x1:=by kernel_rfl
theorem N54:Try.f54.ntmps=10:=by kernel_rfl
theorem Z54:Try.f54.results.toList=(#[]:Array ResultVar).toList:=by kernel_rfl
theorem B54:Try.f54.body=some (at_ Try.f54 []):=by kernel_rfl
theorem N55:Try.f55.ntmps=19:=by kernel_rfl
theorem Z55:Try.f55.results.toList=(#[]:Array ResultVar).toList:=by kernel_rfl
theorem B55:Try.f55.body=some (at_ Try.f55 []):=by kernel_rfl
noncomputable def R55:RC:=(.seq (.reg [oK 3 49 1])
 (.seq (.seq (.reg [oD 5 3 4,oC 6 67 #[(.tmp 5)] #[49]])
 (.cond (.tmp 6) (.reg [⟨some 7, none, .pur ⟨some 7, (.makeInterface 28 (.const (.int .i64 1))), 20, "", #[], none⟩⟩, ⟨none, none, .dead⟩])
 .skip))
 (.seq (.reg [oM 8 0, ⟨some 9, none, (.pur ⟨some 9, (.makeFunc (.func 68) #[(.tmp 8)] #[]), 93, "", #[], none⟩)⟩, oM 10 0, ⟨some 11, none, (.pur ⟨some 11, (.makeFunc (.func 69) #[(.tmp 10)] #[]), 93, "", #[], none⟩)⟩, ⟨some 12, none, .pur ⟨some 12, (.build 110 #[(0, (.tmp 9)), (1, (.tmp 11))]), 110, "", #[], none⟩⟩, ⟨some 4, none, (.alc 110 [.nilFunc, .nilFunc])⟩, ⟨none, none, (.sta (.tmp 4) (.tmp 12) 2)⟩])
 (.dreg [oJ 13 3 0,oL 14 13 1,⟨some 15,none,(.idxa (.tmp 4) (.tmp 14) 2 1)⟩,oL 16 15 1,oD 17 3 4,⟨some 18,none,.call ⟨(.value (.tmp 16)),#[(.tmp 17)],#[49]⟩ true⟩] [31,0,7,3,1,0]))))
theorem L55:low Try.prog Try.f55.ntmps (at_ Try.f55 [])=some R55:=by kernel_rfl
theorem N56:Try.f56.ntmps=9:=by kernel_rfl
theorem Z56:Try.f56.results.toList=(#[(.tmp 2)]:Array ResultVar).toList:=by kernel_rfl
theorem B56:Try.f56.body=some (at_ Try.f56 []):=by kernel_rfl
noncomputable def R56:RC:=(.seq (.reg [⟨some 2,none,.mov (.const (.slice none 0 0))⟩])
 (.seq (.reg [oM 4 0,oC 5 70 #[(.tmp 4)] #[96],oM 3 5])
 (.seq (.reg [oM 6 3,oC 7 71 #[(.tmp 6)] #[67]])
 (.seq (.reg [oM 8 3,oM 2 8])
 .ret))))
theorem L56:low Try.prog Try.f56.ntmps (at_ Try.f56 [])=some R56:=by kernel_rfl
theorem N57:Try.f57.ntmps=4:=by kernel_rfl
theorem Z57:Try.f57.results.toList=(#[(.tmp 2)]:Array ResultVar).toList:=by kernel_rfl
theorem B57:Try.f57.body=some (at_ Try.f57 []):=by kernel_rfl
noncomputable def R57:RC:=(.seq (.reg [oK 1 69 0,⟨some 2,none,.mov (.const .nilFunc)⟩])
 (.seq (.reg [⟨some 3, none, (.pur ⟨some 3, (.makeFunc (.func 72) #[] #[(.tmp 1)]), 95, "", #[], none⟩)⟩, oM 2 3])
 .ret))
theorem L57:low Try.prog Try.f57.ntmps (at_ Try.f57 [])=some R57:=by kernel_rfl
theorem N59:Try.f59.ntmps=19:=by kernel_rfl
theorem Z59:Try.f59.results.toList=(#[(.tmp 4)]:Array ResultVar).toList:=by kernel_rfl
theorem B59:Try.f59.body=some (at_ Try.f59 []):=by kernel_rfl
noncomputable def R59:RC:=(.seq (.reg [oN 4 0])
 (.seq (.seq (.reg [oM 6 0,oW 7 6,oN 8 0])
 (.block 0 (.other (at_ Try.f59 [1,0,1,0]))))
 (.seq (.reg [⟨some 4,none,.mov (.const (.int .i64 (-1)))⟩])
 .ret)))
theorem L59:low Try.prog Try.f59.ntmps (at_ Try.f59 [])=some R59:=by kernel_rfl
theorem ZiJ:at_ Try.f59 [1,0,1,0]=.loop (at_ Try.f59 [1,0,1,0,0]):=by kernel_rfl
noncomputable def R59x1:RC:=(.seq (.reg [⟨some 9,none,(.cmp .lss (.tmp 8) (.tmp 7))⟩])
 (.seq (.cond (.tmp 9) .skip
 (.exit 0))
 (.seq (.block 1 (.seq (.reg [oM 10 8,oM 5 10])
 (.seq (.reg [oM 11 1,oM 12 0,oM 13 5,oI 14 12 13 3,oD 15 14 3,⟨some 16,none,.call ⟨(.value (.tmp 11)),#[(.tmp 15)],#[52]⟩ true⟩])
 (.cond (.tmp 16) (.seq (.reg [oM 17 5,oM 4 17])
 .ret)
 .skip))))
 (.reg [oR 18 .add 8 1,oM 8 18]))))
theorem ZiC:low Try.prog Try.f59.ntmps (at_ Try.f59 [1,0,1,0,0])=some R59x1:=by kernel_rfl
theorem N60:Try.f60.ntmps=7:=by kernel_rfl
theorem Z60:Try.f60.results.toList=(#[]:Array ResultVar).toList:=by kernel_rfl
theorem B60:Try.f60.body=some (at_ Try.f60 []):=by kernel_rfl
noncomputable def R60:RC:=(.seq (.reg [oK 3 104 1])
 (.reg [oM 4 0, ⟨some 5, none, (.pur ⟨some 5, (.makeFunc (.func 74) #[] #[(.tmp 3)]), 106, "", #[], none⟩)⟩, oC 6 73 #[(.tmp 4), (.tmp 5)] #[67, 106]]))
theorem L60:low Try.prog Try.f60.ntmps (at_ Try.f60 [])=some R60:=by kernel_rfl
theorem N61:Try.f61.ntmps=5:=by kernel_rfl
theorem Z61:Try.f61.results.toList=(#[(.tmp 2)]:Array ResultVar).toList:=by kernel_rfl
theorem B61:Try.f61.body=some (at_ Try.f61 []):=by kernel_rfl
noncomputable def R61:RC:=(.seq (.reg [oN 2 0])
 (.seq (.reg [oM 3 0, ⟨some 4, none, (.pur ⟨some 4, (.unOp .neg 3 (.tmp 3)), 3, "", #[], none⟩)⟩, oM 2 4])
 .ret))
theorem L61:low Try.prog Try.f61.ntmps (at_ Try.f61 [])=some R61:=by kernel_rfl
theorem N62:Try.f62.ntmps=9:=by kernel_rfl
theorem Z62:Try.f62.results.toList=(#[]:Array ResultVar).toList:=by kernel_rfl
theorem B62:Try.f62.body=some (at_ Try.f62 []):=by kernel_rfl
noncomputable def R62:RC:=(.reg [oM 4 0,oM 5 0,oW 6 5,oM 7 1,oC 8 75 #[(.tmp 4),(.tmp 6),(.tmp 7)] #[60,3,107]])
theorem L62:low Try.prog Try.f62.ntmps (at_ Try.f62 [])=some R62:=by kernel_rfl
theorem N63:Try.f63.ntmps=13:=by kernel_rfl
theorem Z63:Try.f63.results.toList=(#[(.tmp 5)]:Array ResultVar).toList:=by kernel_rfl
theorem B63:Try.f63.body=some (at_ Try.f63 []):=by kernel_rfl
noncomputable def R63:RC:=(.seq (.reg [oK 3 79 0,oK 4 79 1,oN 5 0])
 (.seq (.dreg [oL 6 2 1,oD 7 3 2,⟨some 8,none,(.call ⟨(.value (.tmp 6)),#[(.tmp 7)],#[79]⟩ false)⟩,oL 9 2 1,oD 10 4 2,⟨some 11,none,(.call ⟨(.value (.tmp 9)),#[(.tmp 10)],#[79]⟩ true)⟩,oC 12 64 #[(.tmp 8),(.tmp 11)] #[3,3],oM 5 12] [127,63,31,0,0,3,0,0])
 .ret))
theorem L63:low Try.prog Try.f63.ntmps (at_ Try.f63 [])=some R63:=by kernel_rfl
theorem N64:Try.f64.ntmps=20:=by kernel_rfl
theorem Z64:Try.f64.results.toList=(#[(.tmp 4)]:Array ResultVar).toList:=by kernel_rfl
theorem B64:Try.f64.body=some (at_ Try.f64 []):=by kernel_rfl
noncomputable def R64:RC:=(.seq (.reg [oN 4 0])
 (.seq (.reg [oM 7 0,oC 8 76 #[(.tmp 7)] #[3],oM 5 8])
 (.seq (.reg [oM 9 1,oC 10 76 #[(.tmp 9)] #[3],oM 6 10])
 (.seq (.seq (.reg [oM 11 5])
 (.cond (.tmp 11) (.seq (.seq (.reg [oM 12 6])
 (.cond (.tmp 12) (.seq (.reg [oN 4 0])
 .ret)
 .skip))
 (.seq (.reg [⟨some 4,none,.mov (.const (.int .i64 (-1)))⟩])
 .ret))
 .skip))
 (.seq (.seq (.reg [oM 13 6])
 (.cond (.tmp 13) (.seq (.reg [oN 4 1])
 .ret)
 .skip))
 (.seq (.seq (.reg [oM 14 0,oM 15 1,⟨some 16,none,(.cmp .lss (.tmp 14) (.tmp 15))⟩])
 (.cond (.tmp 16) (.seq (.reg [⟨some 4,none,.mov (.const (.int .i64 (-1)))⟩])
 .ret)
 .skip))
 (.seq (.seq (.reg [oM 17 0,oM 18 1,⟨some 19,none,(.cmp .gtr (.tmp 17) (.tmp 18))⟩])
 (.cond (.tmp 19) (.seq (.reg [oN 4 1])
 .ret)
 .skip))
 (.seq (.reg [oN 4 0])
 .ret))))))))
theorem L64:low Try.prog Try.f64.ntmps (at_ Try.f64 [])=some R64:=by kernel_rfl
theorem N66:Try.f66.ntmps=16:=by kernel_rfl
theorem Z66:Try.f66.results.toList=(#[(.tmp 5)]:Array ResultVar).toList:=by kernel_rfl
theorem B66:Try.f66.body=some (at_ Try.f66 []):=by kernel_rfl
noncomputable def R66:RC:=(.seq (.reg [oN 5 0])
 (.seq (.dreg [oL 6 1 1, oL 7 2 1, oM 8 0, oI 9 7 8 2, oJ 10 9 1, oL 11 10 1, oS 12 .mul 6 11, oL 13 3 1, oS 14 .rem 12 13, ⟨some 15, none, (.pur ⟨some 15, (.unOp .neg 3 (.tmp 14)), 3, "", #[], none⟩)⟩, oM 5 15] [1023, 511, 255, 0, 63, 30, 14, 6, 0, 0, 0])
 .ret))
theorem L66:low Try.prog Try.f66.ntmps (at_ Try.f66 [])=some R66:=by kernel_rfl
theorem N67:Try.f67.ntmps=30:=by kernel_rfl
theorem Z67:Try.f67.results.toList=(#[(.tmp 2)]:Array ResultVar).toList:=by kernel_rfl
theorem B67:Try.f67.body=some (at_ Try.f67 []):=by kernel_rfl
noncomputable def R67:RC:=(.seq (.reg [oK 1 49 0,oF 2])
 (.seq (.seq (.reg [oJ 3 1 0,oL 4 3 1,oB 5 .neq 4 0,oM 6 5,⟨some 7,some (6,true),(.addo (.tmp 1) 0)⟩,oLg 8 6 true 7 1,oBg 9 6 true .neq 8 1,oA 10 6 9])
 (.cond (.tmp 10) (.seq (.reg [⟨some 2,none,.mov (.const (.bool true))⟩])
 .ret)
 .skip))
 (.seq (.seq (.reg [oJ 11 1 0,oL 12 11 1,oB 13 .eql 12 1,oM 14 13,⟨some 15,some (14,true),(.addo (.tmp 1) 2)⟩,oLg 16 14 true 15 1,oH 17 14 true 28 #[(.tmp 16),(.const (.int .i64 1023))] #[3,3],oV 18 14 true 17,oA 19 14 18])
 (.cond (.tmp 19) (.seq (.reg [⟨some 2,none,.mov (.const (.bool true))⟩])
 .ret)
 .skip))
 (.seq (.reg [oJ 20 1 1,oL 21 20 1,oC 22 28 #[(.tmp 21),(.const (.int .i64 1023))] #[3,3],oU 23 22,oM 24 23,⟨some 25,some (24,false),(.addo (.tmp 1) 3)⟩,oLg 26 24 false 25 1,oH 27 24 false 43 #[(.tmp 26),(.const (.int .i64 1099511627776))] #[3,3],oV 28 24 false 27,oO 29 24 28,oM 2 29])
 .ret))))
theorem L67:low Try.prog Try.f67.ntmps (at_ Try.f67 [])=some R67:=by kernel_rfl
theorem N68:Try.f68.ntmps=34:=by kernel_rfl
theorem Z68:Try.f68.results.toList=(#[]:Array ResultVar).toList:=by kernel_rfl
theorem B68:Try.f68.body=some (at_ Try.f68 []):=by kernel_rfl
noncomputable def R68:RC:=(.seq (.reg [oK 3 49 1])
 (.seq (.reg [oM 6 0,oJ 7 3 1,oL 8 7 1,oC 9 77 #[(.tmp 6),(.tmp 8)] #[69,3],oM 4 9])
 (.seq (.dreg [oJ 10 3 3,oL 11 10 1,oM 12 4,⟨some 13,none,.call ⟨(.value (.func 78)),#[(.tmp 12)],#[91]⟩ false⟩,⟨some 14,none,(.mm true (.tmp 11) (.tmp 13))⟩,oM 5 14] [31,15,4,0,1,0])
 (.seq (.reg [oM 15 4,⟨some 16,none,(.nilc (.tmp 15))⟩,oJ 17 16 2,oL 18 17 1,oM 19 5,oS 20 .add 18 19,⟨some 21,none,(.nilc (.tmp 15))⟩,oJ 22 21 2,⟨none,none,.st (.tmp 22) (.tmp 20)⟩])
 (.dreg [oM 23 4,⟨some 24,none,(.nilc (.tmp 23))⟩,oJ 25 24 3,oL 26 25 1,oJ 27 3 3,oL 28 27 1,oM 29 5,oS 30 .sub 28 29,oS 31 .add 26 30,⟨some 32,none,(.nilc (.tmp 23))⟩,oJ 33 32 3,⟨none,none,.st (.tmp 33) (.tmp 31)⟩] [2047,1023,511,255,112,0,16,0,7,3,1,0])))))
theorem L68:low Try.prog Try.f68.ntmps (at_ Try.f68 [])=some R68:=by kernel_rfl
theorem N69:Try.f69.ntmps=42:=by kernel_rfl
theorem Z69:Try.f69.results.toList=(#[]:Array ResultVar).toList:=by kernel_rfl
theorem B69:Try.f69.body=some (at_ Try.f69 []):=by kernel_rfl
noncomputable def R69:RC:=(.seq (.reg [oK 3 49 1])
 (.seq (.dreg [oM 6 0,oJ 7 3 1,oL 8 7 1,⟨some 9,none,(.call ⟨(.value (.func 77)),#[(.tmp 6),(.tmp 8)],#[69,3]⟩ false)⟩,oM 10 0,oJ 11 3 2,oL 12 11 1,oC 13 77 #[(.tmp 10),(.tmp 12)] #[69,3],oM 4 9,oM 5 13] [511,255,127,32,0,0,7,2,0,0])
 (.seq (.seq (.reg [oM 14 4, oM 15 5, ⟨some 16, none, (.mem ⟨some 16, (.binOp .eql 91 (.tmp 14) (.tmp 15) 91), 4, "", #[], none⟩)⟩])
 (.cond (.tmp 16) (.reg [⟨some 17, none, .pur ⟨some 17, (.makeInterface 28 (.const (.int .i64 5))), 20, "", #[], none⟩⟩, ⟨none, none, .dead⟩])
 .skip))
 (.seq (.seq (.dreg [oM 18 4,⟨some 19,none,(.call ⟨(.value (.func 78)),#[(.tmp 18)],#[91]⟩ false)⟩,oJ 20 3 3,oL 21 20 1,⟨some 22,none,(.cmp .lss (.tmp 19) (.tmp 21))⟩] [15,4,0,1,0])
 (.cond (.tmp 22) (.reg [⟨some 23, none, .pur ⟨some 23, (.makeInterface 28 (.const (.int .i64 10))), 20, "", #[], none⟩⟩, ⟨none, none, .dead⟩])
 .skip))
 (.seq (.dreg [oM 24 4,⟨some 25,none,(.nilc (.tmp 24))⟩,oJ 26 25 1,oL 27 26 1,oJ 28 3 3,oL 29 28 1,oS 30 .sub 27 29,⟨some 31,none,(.nilc (.tmp 24))⟩,oJ 32 31 1,⟨none,none,.st (.tmp 32) (.tmp 30)⟩] [511,255,127,63,16,0,7,3,1,0])
 (.dreg [oM 33 5,⟨some 34,none,(.nilc (.tmp 33))⟩,oJ 35 34 1,oL 36 35 1,oJ 37 3 3,oL 38 37 1,oS 39 .add 36 38,⟨some 40,none,(.nilc (.tmp 33))⟩,oJ 41 40 1,⟨none,none,.st (.tmp 41) (.tmp 39)⟩] [511,255,127,63,16,0,7,3,1,0]))))))
theorem L69:low Try.prog Try.f69.ntmps (at_ Try.f69 [])=some R69:=by kernel_rfl
theorem N70:Try.f70.ntmps=5:=by kernel_rfl
theorem Z70:Try.f70.results.toList=(#[(.tmp 2)]:Array ResultVar).toList:=by kernel_rfl
theorem B70:Try.f70.body=some (at_ Try.f70 []):=by kernel_rfl
noncomputable def R70:RC:=(.seq (.reg [⟨some 2,none,.mov (.const (.slice none 0 0))⟩])
 (.seq (.reg [oM 3 0,oC 4 79 #[(.const (.slice none 0 0)),(.tmp 3)] #[67,96],oM 2 4])
 .ret))
theorem L70:low Try.prog Try.f70.ntmps (at_ Try.f70 [])=some R70:=by kernel_rfl
theorem N71:Try.f71.ntmps=11:=by kernel_rfl
theorem Z71:Try.f71.results.toList=(#[]:Array ResultVar).toList:=by kernel_rfl
theorem B71:Try.f71.body=some (at_ Try.f71 []):=by kernel_rfl
noncomputable def R71:RC:=(.seq (.reg [oM 3 0,oW 4 3,oM 2 4])
 (.reg [oM 5 0, oM 6 2, oM 7 2, ⟨some 8, none, (.pur ⟨some 8, (.convert 3 109 (.tmp 7)), 109, "", #[], none⟩)⟩, oC 9 81 #[(.tmp 8)] #[109], oC 10 80 #[(.tmp 5), (.const (.int .i64 0)), (.tmp 6), (.tmp 9)] #[67, 3, 3, 3]]))
theorem L71:low Try.prog Try.f71.ntmps (at_ Try.f71 [])=some R71:=by kernel_rfl
theorem N72:Try.f72.ntmps=14:=by kernel_rfl
theorem Z72:Try.f72.results.toList=(#[]:Array ResultVar).toList:=by kernel_rfl
theorem B72:Try.f72.body=some (at_ Try.f72 []):=by kernel_rfl
noncomputable def R72:RC:=(.seq (.reg [oL 4 1 1,⟨some 5,none,(.rng (.tmp 4))⟩])
 (.block 0 (.other (at_ Try.f72 [1,0]))))
theorem L72:low Try.prog Try.f72.ntmps (at_ Try.f72 [])=some R72:=by kernel_rfl
theorem ZiH:at_ Try.f72 [1,0]=.loop (at_ Try.f72 [1,0,0]):=by kernel_rfl
noncomputable def R72x1:RC:=(.seq (.reg [⟨some 6,none,(.nxt (.tmp 5))⟩,oE 7 6 0 4])
 (.seq (.cond (.tmp 7) .skip
 (.exit 0))
 (.block 1 (.seq (.reg [⟨some 8,none,(.ent (.tmp 5))⟩,oE 9 8 0 3,oM 3 9])
 (.seq (.reg [oM 10 0,oM 11 3,⟨some 12,none,(.call ⟨(.value (.tmp 10)),#[(.tmp 11)],#[3]⟩ true)⟩,oU 13 12])
 (.cond (.tmp 13) .ret
 .skip))))))
theorem Zjr:low Try.prog Try.f72.ntmps (at_ Try.f72 [1,0,0])=some R72x1:=by kernel_rfl
theorem N73:Try.f73.ntmps=9:=by kernel_rfl
theorem Z73:Try.f73.results.toList=(#[]:Array ResultVar).toList:=by kernel_rfl
theorem B73:Try.f73.body=some (at_ Try.f73 []):=by kernel_rfl
noncomputable def R73:RC:=(.reg [oM 4 0,oM 5 0,oW 6 5,oM 7 1,oC 8 82 #[(.tmp 4),(.tmp 6),(.tmp 7)] #[67,3,106]])
theorem L73:low Try.prog Try.f73.ntmps (at_ Try.f73 [])=some R73:=by kernel_rfl
theorem N74:Try.f74.ntmps=13:=by kernel_rfl
theorem Z74:Try.f74.results.toList=(#[(.tmp 5)]:Array ResultVar).toList:=by kernel_rfl
theorem B74:Try.f74.body=some (at_ Try.f74 []):=by kernel_rfl
noncomputable def R74:RC:=(.seq (.reg [oN 5 0])
 (.seq (.dreg [oL 6 2 1,oM 7 0,⟨some 8,none,(.call ⟨(.value (.tmp 6)),#[(.tmp 7)],#[3]⟩ false)⟩,oL 9 2 1,oM 10 1,⟨some 11,none,(.call ⟨(.value (.tmp 9)),#[(.tmp 10)],#[3]⟩ true)⟩,oC 12 64 #[(.tmp 8),(.tmp 11)] #[3,3],oM 5 12] [127,63,31,0,0,3,0,0])
 .ret))
theorem L74:low Try.prog Try.f74.ntmps (at_ Try.f74 [])=some R74:=by kernel_rfl
theorem N75:Try.f75.ntmps=63:=by kernel_rfl
theorem Z75:Try.f75.results.toList=(#[]:Array ResultVar).toList:=by kernel_rfl
theorem B75:Try.f75.body=some (at_ Try.f75 []):=by kernel_rfl
noncomputable def R75:RC:=(.seq (.reg [oN 6 20])
 (.seq (.reg [oM 10 6,oN 7 0,oM 8 10])
 (.seq (.block 0 (.other (at_ Try.f75 [1,1,0,0])))
 (.seq (.reg [oM 23 0,oM 24 7,oM 25 1,oM 26 2,oC 27 83 #[(.tmp 23),(.tmp 24),(.tmp 25),(.tmp 26)] #[60,3,3,107]])
 (.block 2 (.other (at_ Try.f75 [1,1,1,1,0])))))))
theorem L75:low Try.prog Try.f75.ntmps (at_ Try.f75 [])=some R75:=by kernel_rfl
theorem ZfU:at_ Try.f75 [1,1,0,0]=.loop (at_ Try.f75 [1,1,0,0,0]):=by kernel_rfl
noncomputable def R75x1:RC:=(.seq (.seq (.reg [oM 11 8,oM 12 1,⟨some 13,none,(.cmp .leq (.tmp 11) (.tmp 12))⟩])
 (.cond (.tmp 13) .skip
 (.exit 0)))
 (.block 1 (.seq (.reg [oM 14 0,oM 15 7,oM 16 8,oM 17 2,oC 18 83 #[(.tmp 14),(.tmp 15),(.tmp 16),(.tmp 17)] #[60,3,3,107]])
 (.seq (.reg [oM 19 8,oM 7 19])
 (.reg [oM 20 8,oM 21 6,oS 22 .add 20 21,oM 8 22])))))
theorem Zf3:low Try.prog Try.f75.ntmps (at_ Try.f75 [1,1,0,0,0])=some R75x1:=by kernel_rfl
theorem ZfW:at_ Try.f75 [1,1,1,1,0]=.loop (at_ Try.f75 [1,1,1,1,0,0]):=by kernel_rfl
noncomputable def R75x2:RC:=(.seq (.seq (.reg [oM 28 6,oM 29 1,⟨some 30,none,(.cmp .lss (.tmp 28) (.tmp 29))⟩])
 (.cond (.tmp 30) .skip
 (.exit 2)))
 (.block 3 (.seq (.reg [oM 31 6,⟨some 32,none,(.ari .mul (.const (.int .i64 2)) (.tmp 31))⟩,oN 7 0,oM 8 32])
 (.seq (.block 4 (.other (at_ Try.f75 [1,1,1,1,0,0,1,0,1,0,0])))
 (.seq (.seq (.reg [oM 49 7,oM 50 6,oS 51 .add 49 50,oM 9 51])
 (.seq (.reg [oM 52 9,oM 53 1,⟨some 54,none,(.cmp .lss (.tmp 52) (.tmp 53))⟩])
 (.cond (.tmp 54) (.reg [oM 55 0,oM 56 7,oM 57 9,oM 58 1,oM 59 2,oC 60 84 #[(.tmp 55),(.tmp 56),(.tmp 57),(.tmp 58),(.tmp 59)] #[60,3,3,3,107]])
 .skip)))
 (.reg [oM 61 6,oR 62 .mul 61 2,oM 6 62]))))))
theorem Zgf:low Try.prog Try.f75.ntmps (at_ Try.f75 [1,1,1,1,0,0])=some R75x2:=by kernel_rfl
theorem Zji:at_ Try.f75 [1,1,1,1,0,0,1,0,1,0,0]=.loop (at_ Try.f75 [1,1,1,1,0,0,1,0,1,0,0,0]):=by kernel_rfl
noncomputable def R75x3:RC:=(.seq (.seq (.reg [oM 33 8,oM 34 1,⟨some 35,none,(.cmp .leq (.tmp 33) (.tmp 34))⟩])
 (.cond (.tmp 35) .skip
 (.exit 4)))
 (.block 5 (.seq (.reg [oM 36 0,oM 37 7,oM 38 7,oM 39 6,oS 40 .add 38 39,oM 41 8,oM 42 2,oC 43 84 #[(.tmp 36),(.tmp 37),(.tmp 40),(.tmp 41),(.tmp 42)] #[60,3,3,3,107]])
 (.seq (.reg [oM 44 8,oM 7 44])
 (.reg [oM 45 8,oM 46 6,⟨some 47,none,(.ari .mul (.const (.int .i64 2)) (.tmp 46))⟩,oS 48 .add 45 47,oM 8 48])))))
theorem ZiV:low Try.prog Try.f75.ntmps (at_ Try.f75 [1,1,1,1,0,0,1,0,1,0,0,0])=some R75x3:=by kernel_rfl
theorem N76:Try.f76.ntmps=6:=by kernel_rfl
theorem Z76:Try.f76.results.toList=(#[(.tmp 2)]:Array ResultVar).toList:=by kernel_rfl
theorem B76:Try.f76.body=some (at_ Try.f76 []):=by kernel_rfl
noncomputable def R76:RC:=(.seq (.reg [oF 2])
 (.seq (.reg [oM 3 0,oM 4 0,⟨some 5,none,(.cmp .neq (.tmp 3) (.tmp 4))⟩,oM 2 5])
 .ret))
theorem L76:low Try.prog Try.f76.ntmps (at_ Try.f76 [])=some R76:=by kernel_rfl
theorem N77:Try.f77.ntmps=17:=by kernel_rfl
theorem Z77:Try.f77.results.toList=(#[(.tmp 4)]:Array ResultVar).toList:=by kernel_rfl
theorem B77:Try.f77.body=some (at_ Try.f77 []):=by kernel_rfl
noncomputable def R77:RC:=(.seq (.reg [⟨some 4,none,.mov (.const (.pointer none))⟩])
 (.seq (.reg [oM 8 0, oM 9 1, ⟨some 10, none, (.mem ⟨some 10, (.lookup 69 (.tmp 8) (.tmp 9) true), 122, "", #[], none⟩)⟩, oM 7 10, oE 11 7 0 91, oE 12 7 1 4, oM 5 11, oM 6 12])
 (.seq (.seq (.reg [oM 13 6,oU 14 13])
 (.cond (.tmp 14) (.reg [⟨some 15, none, .pur ⟨some 15, (.makeInterface 28 (.const (.int .i64 4))), 20, "", #[], none⟩⟩, ⟨none, none, .dead⟩])
 .skip))
 (.seq (.reg [oM 16 5,oM 4 16])
 .ret))))
theorem L77:low Try.prog Try.f77.ntmps (at_ Try.f77 [])=some R77:=by kernel_rfl
theorem N78:Try.f78.ntmps=12:=by kernel_rfl
theorem Z78:Try.f78.results.toList=(#[(.tmp 2)]:Array ResultVar).toList:=by kernel_rfl
theorem B78:Try.f78.body=some (at_ Try.f78 []):=by kernel_rfl
noncomputable def R78:RC:=(.seq (.reg [oN 2 0])
 (.seq (.dreg [oM 3 0,⟨some 4,none,(.nilc (.tmp 3))⟩,oJ 5 4 1,oL 6 5 1,oM 7 0,⟨some 8,none,(.nilc (.tmp 7))⟩,oJ 9 8 2,oL 10 9 1,oS 11 .sub 6 10,oM 2 11] [511,255,112,48,16,0,7,3,1,0])
 .ret))
theorem L78:low Try.prog Try.f78.ntmps (at_ Try.f78 [])=some R78:=by kernel_rfl
theorem N79:Try.f79.ntmps=13:=by kernel_rfl
theorem Z79:Try.f79.results.toList=(#[(.tmp 4)]:Array ResultVar).toList:=by kernel_rfl
theorem B79:Try.f79.body=some (at_ Try.f79 []):=by kernel_rfl
noncomputable def R79:RC:=(.seq (.reg [oK 2 67 0,⟨some 4,none,.mov (.const (.slice none 0 0))⟩])
 (.seq (.seq (.reg [oM 6 1])
 (.block 0 (.other (at_ Try.f79 [1,0,1,0]))))
 (.seq (.reg [oL 12 2 1,oM 4 12])
 .ret)))
theorem L79:low Try.prog Try.f79.ntmps (at_ Try.f79 [])=some R79:=by kernel_rfl
theorem Zir:at_ Try.f79 [1,0,1,0]=.rangeFunc (.tmp 6) (#[7]) (at_ Try.f79 [1,0,1,0,0]) (at_ Try.f79 [1,0,1,0,1]):=by kernel_rfl
noncomputable def R79x1:RC:=(.reg [oM 5 7])
theorem Zid:low Try.prog Try.f79.ntmps (at_ Try.f79 [1,0,1,0,0])=some R79x1:=by kernel_rfl
noncomputable def R79x2 : RC := (.block 1 (.reg [oL 8 2 1, oM 9 5, ⟨some 10, none, (.mem ⟨some 10, (.buildSlice 67 1 #[(0, (.tmp 9))]), 67, "", #[], none⟩)⟩, ⟨some 11, none, (.mem ⟨some 11, (.call ⟨(.builtin .append), #[(.tmp 8), (.tmp 10)], #[67, 67]⟩), 67, "", #[], none⟩)⟩, ⟨none, none, .st (.tmp 2) (.tmp 11)⟩]))
theorem ZjB:low Try.prog Try.f79.ntmps (at_ Try.f79 [1,0,1,0,1])=some R79x2:=by kernel_rfl
theorem N80:Try.f80.ntmps=134:=by kernel_rfl
theorem Z80:Try.f80.results.toList=(#[]:Array ResultVar).toList:=by kernel_rfl
theorem B80:Try.f80.body=some (at_ Try.f80 []):=by kernel_rfl
noncomputable def R80:RC:=(.seq (.reg [⟨some 8,none,.mov (.const (.bool true))⟩])
 (.seq (.reg [⟨some 9,none,.mov (.const (.bool true))⟩])
 (.block 0 (.other (at_ Try.f80 [1,1,0])))))
theorem L80:low Try.prog Try.f80.ntmps (at_ Try.f80 [])=some R80:=by kernel_rfl
theorem Zgm:at_ Try.f80 [1,1,0]=.loop (at_ Try.f80 [1,1,0,0]):=by kernel_rfl
noncomputable def R80x1:RC:=(.block 1 (.seq (.reg [oM 19 2,oM 20 1,oS 21 .sub 19 20,oM 10 21])
 (.seq (.seq (.reg [oM 22 10,oQ 23 .leq 22 12])
 (.cond (.tmp 23) (.seq (.reg [oM 24 0,oM 25 1,oM 26 2,oC 27 85 #[(.tmp 24),(.tmp 25),(.tmp 26)] #[67,3,3]])
 .ret)
 .skip))
 (.seq (.seq (.reg [oM 28 3,oQ 29 .eql 28 0])
 (.cond (.tmp 29) (.seq (.reg [oM 30 0,oM 31 1,oM 32 2,oC 33 86 #[(.tmp 30),(.tmp 31),(.tmp 32)] #[67,3,3]])
 .ret)
 .skip))
 (.seq (.seq (.reg [oM 34 8,oU 35 34])
 (.cond (.tmp 35) (.seq (.reg [oM 36 0,oM 37 1,oM 38 2,oC 39 87 #[(.tmp 36),(.tmp 37),(.tmp 38)] #[67,3,3]])
 (.reg [oM 40 3,oR 41 .sub 40 1,oM 3 41]))
 .skip))
 (.seq (.reg [oM 43 0,oM 44 1,oM 45 2,oC 46 88 #[(.tmp 43),(.tmp 44),(.tmp 45)] #[67,3,3],oM 42 46,oE 47 42 0 3,oE 48 42 1 124,oM 11 47,oM 12 48])
 (.seq (.seq (.reg [oM 49 12,oQ 50 .eql 49 2])
 (.cond (.tmp 50) (.seq (.reg [oM 51 0,oM 52 1,oM 53 2,oC 54 89 #[(.tmp 51),(.tmp 52),(.tmp 53)] #[67,3,3]])
 (.seq (.reg [oM 55 2,oR 56 .sub 55 1,oM 57 11,oM 58 1,oS 59 .sub 57 58,oS 60 .sub 56 59,oM 11 60])
 (.reg [oN 12 1])))
 .skip))
 (.seq (.seq (.reg [oM 61 8,oM 62 61,oG 63 62 true 9,oA 64 62 63,oM 65 64,oG 66 65 true 12,oBg 67 65 true .eql 66 1,oA 68 65 67])
 (.cond (.tmp 68) (.seq (.reg [oM 69 0,oM 70 1,oM 71 2,oC 72 90 #[(.tmp 69),(.tmp 70),(.tmp 71)] #[67,3,3]])
 (.cond (.tmp 72) .ret
 .skip))
 .skip))
 (.seq (.seq (.dreg [oM 73 1,oB 74 .gtr 73 0,oM 75 74,oG 76 75 true 0,oG 77 75 true 1,⟨some 78,some (75,true),(.ari .sub (.tmp 77) (.const (.int .i64 1)))⟩,oIg 79 75 true 76 78 1,oLg 80 75 true 79 1,oG 81 75 true 0,oG 82 75 true 11,oIg 83 75 true 81 82 1,oLg 84 75 true 83 1,oH 85 75 true 91 #[(.tmp 80),(.tmp 84)] #[3,3],oV 86 75 true 85,oA 87 75 86] [16383,8191,4095,1799,775,7,7,127,63,23,7,7,3,1,0])
 (.cond (.tmp 87) (.seq (.reg [oM 88 0,oM 89 1,oM 90 2,oM 91 11,oC 92 92 #[(.tmp 88),(.tmp 89),(.tmp 90),(.tmp 91)] #[67,3,3,3],oM 13 92])
 (.seq (.reg [oM 93 13,oM 1 93])
 (.exit 1)))
 .skip))
 (.seq (.reg [oM 95 0,oM 96 1,oM 97 2,oM 98 11,oC 99 93 #[(.tmp 95),(.tmp 96),(.tmp 97),(.tmp 98)] #[67,3,3,3],oM 94 99,oE 100 94 0 3,oE 101 94 1 4,oM 14 100,oM 15 101])
 (.seq (.reg [oM 102 15,oM 9 102])
 (.seq (.reg [oM 103 14,oM 104 1,oS 105 .sub 103 104,oM 106 2,oM 107 14,oS 108 .sub 106 107,oM 16 105,oM 17 108])
 (.seq (.reg [oM 109 10,oR 110 .quo 109 8,oM 18 110])
 (.seq (.reg [oM 111 16,oM 112 17,⟨some 113,none,(.cmp .lss (.tmp 111) (.tmp 112))⟩])
 (.cond (.tmp 113) (.seq (.reg [oM 114 16,oM 115 18,⟨some 116,none,(.cmp .geq (.tmp 114) (.tmp 115))⟩,oM 8 116])
 (.seq (.reg [oM 117 0,oM 118 1,oM 119 14,oM 120 3,oC 121 80 #[(.tmp 117),(.tmp 118),(.tmp 119),(.tmp 120)] #[67,3,3,3]])
 (.reg [oM 122 14,oR 123 .add 122 1,oM 1 123])))
 (.seq (.reg [oM 124 17,oM 125 18,⟨some 126,none,(.cmp .geq (.tmp 124) (.tmp 125))⟩,oM 8 126])
 (.seq (.reg [oM 127 0,oM 128 14,oR 129 .add 128 1,oM 130 2,oM 131 3,oC 132 80 #[(.tmp 127),(.tmp 129),(.tmp 130),(.tmp 131)] #[67,3,3,3]])
 (.reg [oM 133 14,oM 2 133]))))))))))))))))))
theorem Zgl:low Try.prog Try.f80.ntmps (at_ Try.f80 [1,1,0,0])=some R80x1:=by kernel_rfl
theorem N81:Try.f81.ntmps=8:=by kernel_rfl
theorem Z81:Try.f81.results.toList=(#[(.tmp 2)]:Array ResultVar).toList:=by kernel_rfl
theorem B81:Try.f81.body=some (at_ Try.f81 []):=by kernel_rfl
noncomputable def R81:RC:=(.seq (.reg [oN 2 0])
 (.seq (.cond (.const (.bool false)) (.seq (.reg [oM 3 0, ⟨some 4, none, (.pur ⟨some 4, (.convert 109 42 (.tmp 3)), 42, "", #[], none⟩)⟩, oC 5 94 #[(.tmp 4)] #[42], oM 2 5])
 .ret)
 .skip)
 (.seq (.reg [oM 6 0,oC 7 95 #[(.tmp 6)] #[133],oM 2 7])
 .ret)))
theorem L81:low Try.prog Try.f81.ntmps (at_ Try.f81 [])=some R81:=by kernel_rfl
theorem N82:Try.f82.ntmps=63:=by kernel_rfl
theorem Z82:Try.f82.results.toList=(#[]:Array ResultVar).toList:=by kernel_rfl
theorem B82:Try.f82.body=some (at_ Try.f82 []):=by kernel_rfl
noncomputable def R82:RC:=(.seq (.reg [oN 6 20])
 (.seq (.reg [oM 10 6,oN 7 0,oM 8 10])
 (.seq (.block 0 (.other (at_ Try.f82 [1,1,0,0])))
 (.seq (.reg [oM 23 0,oM 24 7,oM 25 1,oM 26 2,oC 27 96 #[(.tmp 23),(.tmp 24),(.tmp 25),(.tmp 26)] #[67,3,3,106]])
 (.block 2 (.other (at_ Try.f82 [1,1,1,1,0])))))))
theorem L82:low Try.prog Try.f82.ntmps (at_ Try.f82 [])=some R82:=by kernel_rfl
theorem Zh2:at_ Try.f82 [1,1,0,0]=.loop (at_ Try.f82 [1,1,0,0,0]):=by kernel_rfl
noncomputable def R82x1:RC:=(.seq (.seq (.reg [oM 11 8,oM 12 1,⟨some 13,none,(.cmp .leq (.tmp 11) (.tmp 12))⟩])
 (.cond (.tmp 13) .skip
 (.exit 0)))
 (.block 1 (.seq (.reg [oM 14 0,oM 15 7,oM 16 8,oM 17 2,oC 18 96 #[(.tmp 14),(.tmp 15),(.tmp 16),(.tmp 17)] #[67,3,3,106]])
 (.seq (.reg [oM 19 8,oM 7 19])
 (.reg [oM 20 8,oM 21 6,oS 22 .add 20 21,oM 8 22])))))
theorem Zjc:low Try.prog Try.f82.ntmps (at_ Try.f82 [1,1,0,0,0])=some R82x1:=by kernel_rfl
theorem ZhJ:at_ Try.f82 [1,1,1,1,0]=.loop (at_ Try.f82 [1,1,1,1,0,0]):=by kernel_rfl
noncomputable def R82x2:RC:=(.seq (.seq (.reg [oM 28 6,oM 29 1,⟨some 30,none,(.cmp .lss (.tmp 28) (.tmp 29))⟩])
 (.cond (.tmp 30) .skip
 (.exit 2)))
 (.block 3 (.seq (.reg [oM 31 6,⟨some 32,none,(.ari .mul (.const (.int .i64 2)) (.tmp 31))⟩,oN 7 0,oM 8 32])
 (.seq (.block 4 (.other (at_ Try.f82 [1,1,1,1,0,0,1,0,1,0,0])))
 (.seq (.seq (.reg [oM 49 7,oM 50 6,oS 51 .add 49 50,oM 9 51])
 (.seq (.reg [oM 52 9,oM 53 1,⟨some 54,none,(.cmp .lss (.tmp 52) (.tmp 53))⟩])
 (.cond (.tmp 54) (.reg [oM 55 0,oM 56 7,oM 57 9,oM 58 1,oM 59 2,oC 60 97 #[(.tmp 55),(.tmp 56),(.tmp 57),(.tmp 58),(.tmp 59)] #[67,3,3,3,106]])
 .skip)))
 (.reg [oM 61 6,oR 62 .mul 61 2,oM 6 62]))))))
theorem Zjs:low Try.prog Try.f82.ntmps (at_ Try.f82 [1,1,1,1,0,0])=some R82x2:=by kernel_rfl
theorem Zi7:at_ Try.f82 [1,1,1,1,0,0,1,0,1,0,0]=.loop (at_ Try.f82 [1,1,1,1,0,0,1,0,1,0,0,0]):=by kernel_rfl
noncomputable def R82x3:RC:=(.seq (.seq (.reg [oM 33 8,oM 34 1,⟨some 35,none,(.cmp .leq (.tmp 33) (.tmp 34))⟩])
 (.cond (.tmp 35) .skip
 (.exit 4)))
 (.block 5 (.seq (.reg [oM 36 0,oM 37 7,oM 38 7,oM 39 6,oS 40 .add 38 39,oM 41 8,oM 42 2,oC 43 97 #[(.tmp 36),(.tmp 37),(.tmp 40),(.tmp 41),(.tmp 42)] #[67,3,3,3,106]])
 (.seq (.reg [oM 44 8,oM 7 44])
 (.reg [oM 45 8,oM 46 6,⟨some 47,none,(.ari .mul (.const (.int .i64 2)) (.tmp 46))⟩,oS 48 .add 45 47,oM 8 48])))))
theorem Zjv:low Try.prog Try.f82.ntmps (at_ Try.f82 [1,1,1,1,0,0,1,0,1,0,0,0])=some R82x3:=by kernel_rfl
theorem N83:Try.f83.ntmps=53:=by kernel_rfl
theorem Z83:Try.f83.results.toList=(#[]:Array ResultVar).toList:=by kernel_rfl
theorem B83:Try.f83.body=some (at_ Try.f83 []):=by kernel_rfl
noncomputable def R83:RC:=(.seq (.reg [oM 10 1,oR 11 .add 10 1,oM 8 11])
 (.block 0 (.other (at_ Try.f83 [1,0]))))
theorem L83:low Try.prog Try.f83.ntmps (at_ Try.f83 [])=some R83:=by kernel_rfl
theorem Zgn:at_ Try.f83 [1,0]=.loop (at_ Try.f83 [1,0,0]):=by kernel_rfl
noncomputable def R83x1:RC:=(.seq (.seq (.reg [oM 12 8,oM 13 2,⟨some 14,none,(.cmp .lss (.tmp 12) (.tmp 13))⟩])
 (.cond (.tmp 14) .skip
 (.exit 0)))
 (.seq (.block 1 (.seq (.reg [oM 17 8,oM 9 17])
 (.block 2 (.other (at_ Try.f83 [1,0,0,1,0,0,1,0])))))
 (.reg [oM 15 8,oR 16 .add 15 1,oM 8 16])))
theorem Zgi:low Try.prog Try.f83.ntmps (at_ Try.f83 [1,0,0])=some R83x1:=by kernel_rfl
theorem Zi0:at_ Try.f83 [1,0,0,1,0,0,1,0]=.loop (at_ Try.f83 [1,0,0,1,0,0,1,0,0]):=by kernel_rfl
noncomputable def R83x2:RC:=(.seq (.seq (.dreg [oM 18 9,oM 19 1,⟨some 20,none,(.cmpb .gtr (.tmp 18) (.tmp 19))⟩,oM 21 20,oG 22 21 true 3,oG 23 21 true 0,oG 24 21 true 9,oIg 25 21 true 23 24 2,⟨some 26,some (21,true),(.lda (.tmp 25) 2)⟩,oG 27 21 true 0,oG 28 21 true 9,⟨some 29,some (21,true),(.ari .sub (.tmp 28) (.const (.int .i64 1)))⟩,oIg 30 21 true 27 29 2,⟨some 31,some (21,true),(.lda (.tmp 30) 2)⟩,⟨some 32,some (21,true),(.call ⟨(.value (.tmp 22)),#[(.tmp 26),(.tmp 31)],#[79,79]⟩ true)⟩,oBg 33 21 true .lss 32 0,oA 34 21 33] [65535,32767,16383,7695,3599,1039,15,15,239,111,15,15,15,7,3,0,0])
 (.cond (.tmp 34) .skip
 (.exit 2)))
 (.seq (.block 3 (.dreg [oM 37 0,oM 38 9,oM 39 0,oM 40 9,oR 41 .sub 40 1,oM 42 0,oM 43 9,oR 44 .sub 43 1,oI 45 42 44 2,oD 46 45 2,oM 47 0,oM 48 9,oI 49 47 48 2,oD 50 49 2,oI 51 37 38 2,⟨none,none,(.sta (.tmp 51) (.tmp 46) 2)⟩,oI 52 39 41 2,⟨none,none,(.sta (.tmp 52) (.tmp 50) 2)⟩] [131071,65535,32739,16355,7168,3072,0,0,480,224,64,0,0,8,0,0,0,0]))
 (.reg [oM 35 9,oR 36 .sub 35 1,oM 9 36])))
theorem Zjd:low Try.prog Try.f83.ntmps (at_ Try.f83 [1,0,0,1,0,0,1,0,0])=some R83x2:=by kernel_rfl
theorem N84:Try.f84.ntmps=220:=by kernel_rfl
theorem Z84:Try.f84.results.toList=(#[]:Array ResultVar).toList:=by kernel_rfl
theorem B84:Try.f84.body=some (at_ Try.f84 []):=by kernel_rfl
theorem Ziv:at_ Try.f84 [0,1,0,1,1,0,0]=.loop (at_ Try.f84 [0,1,0,1,1,0,0,0]):=by kernel_rfl
noncomputable def R84x1:RC:=(.seq (.seq (.reg [oM 31 10,oM 32 11,⟨some 33,none,(.cmp .lss (.tmp 31) (.tmp 32))⟩])
 (.cond (.tmp 33) .skip
 (.exit 0)))
 (.block 1 (.seq (.reg [oM 34 10, oM 35 11, oS 36 .add 34 35, ⟨some 37, none, .pur ⟨some 37, (.convert 3 109 (.tmp 36)), 109, "", #[], none⟩⟩, ⟨some 38, none, .pur ⟨some 38, (.binOp .shr 109 (.tmp 37) (.const (.int .u64 1)) 109), 109, "", #[], none⟩⟩, ⟨some 39, none, (.pur ⟨some 39, (.convert 109 3 (.tmp 38)), 3, "", #[], none⟩)⟩, oM 12 39])
 (.seq (.dreg [oM 40 4,oM 41 0,oM 42 12,oI 43 41 42 2,oD 44 43 2,oM 45 0,oM 46 1,oI 47 45 46 2,oD 48 47 2,⟨some 49,none,(.call ⟨(.value (.tmp 40)),#[(.tmp 44),(.tmp 48)],#[79,79]⟩ true)⟩,oQ 50 .lss 49 0] [1023,511,224,96,0,0,14,6,0,0,0])
 (.cond (.tmp 50) (.reg [oM 51 12,oR 52 .add 51 1,oM 10 52])
 (.reg [oM 53 12,oM 11 53]))))))
theorem Zip:low Try.prog Try.f84.ntmps (at_ Try.f84 [0,1,0,1,1,0,0,0])=some R84x1:=by kernel_rfl
theorem Zjm:at_ Try.f84 [0,1,0,1,1,1,0,1,0]=.loop (at_ Try.f84 [0,1,0,1,1,1,0,1,0,0]):=by kernel_rfl
noncomputable def R84x2:RC:=(.seq (.seq (.reg [oM 55 13,oM 56 10,oR 57 .sub 56 1,⟨some 58,none,(.cmp .lss (.tmp 55) (.tmp 57))⟩])
 (.cond (.tmp 58) .skip
 (.exit 2)))
 (.seq (.block 3 (.dreg [oM 61 0,oM 62 13,oM 63 0,oM 64 13,oR 65 .add 64 1,oM 66 0,oM 67 13,oR 68 .add 67 1,oI 69 66 68 2,oD 70 69 2,oM 71 0,oM 72 13,oI 73 71 72 2,oD 74 73 2,oI 75 61 62 2,⟨none,none,(.sta (.tmp 75) (.tmp 70) 2)⟩,oI 76 63 65 2,⟨none,none,(.sta (.tmp 76) (.tmp 74) 2)⟩] [131071,65535,32739,16355,7168,3072,0,0,480,224,64,0,0,8,0,0,0,0]))
 (.reg [oM 59 13,oR 60 .add 59 1,oM 13 60])))
theorem Zjg:low Try.prog Try.f84.ntmps (at_ Try.f84 [0,1,0,1,1,1,0,1,0,0])=some R84x2:=by kernel_rfl
theorem Zh1:at_ Try.f84 [1,0,1,0,1,1,0,0]=.loop (at_ Try.f84 [1,0,1,0,1,1,0,0,0]):=by kernel_rfl
noncomputable def R84x3:RC:=(.seq (.seq (.reg [oM 83 14,oM 84 15,⟨some 85,none,(.cmp .lss (.tmp 83) (.tmp 84))⟩])
 (.cond (.tmp 85) .skip
 (.exit 4)))
 (.block 5 (.seq (.reg [oM 86 14, oM 87 15, oS 88 .add 86 87, ⟨some 89, none, .pur ⟨some 89, (.convert 3 109 (.tmp 88)), 109, "", #[], none⟩⟩, ⟨some 90, none, .pur ⟨some 90, (.binOp .shr 109 (.tmp 89) (.const (.int .u64 1)) 109), 109, "", #[], none⟩⟩, ⟨some 91, none, (.pur ⟨some 91, (.convert 109 3 (.tmp 90)), 3, "", #[], none⟩)⟩, oM 16 91])
 (.seq (.dreg [oM 92 4,oM 93 0,oM 94 2,oI 95 93 94 2,oD 96 95 2,oM 97 0,oM 98 16,oI 99 97 98 2,oD 100 99 2,⟨some 101,none,(.call ⟨(.value (.tmp 92)),#[(.tmp 96),(.tmp 100)],#[79,79]⟩ true)⟩,oQ 102 .lss 101 0,oU 103 102] [2047,1023,511,224,96,0,0,14,6,0,0,0])
 (.cond (.tmp 103) (.reg [oM 104 16,oR 105 .add 104 1,oM 14 105])
 (.reg [oM 106 16,oM 15 106]))))))
theorem Zi4:low Try.prog Try.f84.ntmps (at_ Try.f84 [1,0,1,0,1,1,0,0,0])=some R84x3:=by kernel_rfl
theorem Zi1:at_ Try.f84 [1,0,1,0,1,1,1,0,1,0]=.loop (at_ Try.f84 [1,0,1,0,1,1,1,0,1,0,0]):=by kernel_rfl
noncomputable def R84x4:RC:=(.seq (.seq (.reg [oM 108 17,oM 109 14,⟨some 110,none,(.cmp .gtr (.tmp 108) (.tmp 109))⟩])
 (.cond (.tmp 110) .skip
 (.exit 6)))
 (.seq (.block 7 (.dreg [oM 113 0,oM 114 17,oM 115 0,oM 116 17,oR 117 .sub 116 1,oM 118 0,oM 119 17,oR 120 .sub 119 1,oI 121 118 120 2,oD 122 121 2,oM 123 0,oM 124 17,oI 125 123 124 2,oD 126 125 2,oI 127 113 114 2,⟨none,none,(.sta (.tmp 127) (.tmp 122) 2)⟩,oI 128 115 117 2,⟨none,none,(.sta (.tmp 128) (.tmp 126) 2)⟩] [131071,65535,32739,16355,7168,3072,0,0,480,224,64,0,0,8,0,0,0,0]))
 (.reg [oM 111 17,oR 112 .sub 111 1,oM 17 112])))
theorem Zjf:low Try.prog Try.f84.ntmps (at_ Try.f84 [1,0,1,0,1,1,1,0,1,0,0])=some R84x4:=by kernel_rfl
theorem ZiO:at_ Try.f84 [1,1,1,1,1,1,1,0,0]=.loop (at_ Try.f84 [1,1,1,1,1,1,1,0,0,0]):=by kernel_rfl
noncomputable def R84x5:RC:=(.seq (.seq (.reg [oM 149 20,oM 150 21,⟨some 151,none,(.cmp .lss (.tmp 149) (.tmp 150))⟩])
 (.cond (.tmp 151) .skip
 (.exit 8)))
 (.block 9 (.seq (.reg [oM 152 20, oM 153 21, oS 154 .add 152 153, ⟨some 155, none, .pur ⟨some 155, (.convert 3 109 (.tmp 154)), 109, "", #[], none⟩⟩, ⟨some 156, none, .pur ⟨some 156, (.binOp .shr 109 (.tmp 155) (.const (.int .u64 1)) 109), 109, "", #[], none⟩⟩, ⟨some 157, none, (.pur ⟨some 157, (.convert 109 3 (.tmp 156)), 3, "", #[], none⟩)⟩, oM 23 157])
 (.seq (.dreg [oM 158 4,oM 159 0,oM 160 22,oM 161 23,oS 162 .sub 160 161,oI 163 159 162 2,oD 164 163 2,oM 165 0,oM 166 23,oI 167 165 166 2,oD 168 167 2,⟨some 169,none,(.call ⟨(.value (.tmp 158)),#[(.tmp 164),(.tmp 168)],#[79,79]⟩ true)⟩,oQ 170 .lss 169 0,oU 171 170] [8191,4095,2047,896,384,0,0,62,30,12,0,0,0,0])
 (.cond (.tmp 171) (.reg [oM 172 23,oR 173 .add 172 1,oM 20 173])
 (.reg [oM 174 23,oM 21 174]))))))
theorem Zja:low Try.prog Try.f84.ntmps (at_ Try.f84 [1,1,1,1,1,1,1,0,0,0])=some R84x5:=by kernel_rfl
theorem N85:Try.f85.ntmps=49:=by kernel_rfl
theorem Z85:Try.f85.results.toList=(#[]:Array ResultVar).toList:=by kernel_rfl
theorem B85:Try.f85.body=some (at_ Try.f85 []):=by kernel_rfl
noncomputable def R85:RC:=(.seq (.reg [oM 8 1,oR 9 .add 8 1,oM 6 9])
 (.block 0 (.other (at_ Try.f85 [1,0]))))
theorem L85:low Try.prog Try.f85.ntmps (at_ Try.f85 [])=some R85:=by kernel_rfl
theorem ZfV:at_ Try.f85 [1,0]=.loop (at_ Try.f85 [1,0,0]):=by kernel_rfl
noncomputable def R85x1:RC:=(.seq (.seq (.reg [oM 10 6,oM 11 2,⟨some 12,none,(.cmp .lss (.tmp 10) (.tmp 11))⟩])
 (.cond (.tmp 12) .skip
 (.exit 0)))
 (.seq (.block 1 (.seq (.reg [oM 15 6,oM 7 15])
 (.block 2 (.other (at_ Try.f85 [1,0,0,1,0,0,1,0])))))
 (.reg [oM 13 6,oR 14 .add 13 1,oM 6 14])))
theorem ZfT:low Try.prog Try.f85.ntmps (at_ Try.f85 [1,0,0])=some R85x1:=by kernel_rfl
theorem Zin:at_ Try.f85 [1,0,0,1,0,0,1,0]=.loop (at_ Try.f85 [1,0,0,1,0,0,1,0,0]):=by kernel_rfl
noncomputable def R85x2:RC:=(.seq (.seq (.dreg [oM 16 7,oM 17 1,⟨some 18,none,(.cmpb .gtr (.tmp 16) (.tmp 17))⟩,oM 19 18,oG 20 19 true 0,oG 21 19 true 7,oIg 22 19 true 20 21 1,oLg 23 19 true 22 1,oG 24 19 true 0,oG 25 19 true 7,⟨some 26,some (19,true),(.ari .sub (.tmp 25) (.const (.int .i64 1)))⟩,oIg 27 19 true 24 26 1,oLg 28 19 true 27 1,oH 29 19 true 91 #[(.tmp 23),(.tmp 28)] #[3,3],oA 30 19 29] [16383,8191,3855,1807,527,15,15,127,63,15,15,7,3,0,0])
 (.cond (.tmp 30) .skip
 (.exit 2)))
 (.seq (.block 3 (.dreg [oM 33 0,oM 34 7,oM 35 0,oM 36 7,oR 37 .sub 36 1,oM 38 0,oM 39 7,oR 40 .sub 39 1,oI 41 38 40 1,oL 42 41 1,oM 43 0,oM 44 7,oI 45 43 44 1,oL 46 45 1,oI 47 33 34 1,⟨none,none,(.st (.tmp 47) (.tmp 42))⟩,oI 48 35 37 1,⟨none,none,(.st (.tmp 48) (.tmp 46))⟩] [131071,65535,32739,16355,7168,3072,0,0,480,224,64,0,0,8,0,0,0,0]))
 (.reg [oM 31 7,oR 32 .sub 31 1,oM 7 32])))
theorem ZhU:low Try.prog Try.f85.ntmps (at_ Try.f85 [1,0,0,1,0,0,1,0,0])=some R85x2:=by kernel_rfl
theorem N91:Try.f91.ntmps=17:=by kernel_rfl
theorem Z91:Try.f91.results.toList=(#[(.tmp 4)]:Array ResultVar).toList:=by kernel_rfl
theorem B91:Try.f91.body=some (at_ Try.f91 []):=by kernel_rfl
noncomputable def R91:RC:=(.seq (.reg [oF 4])
 (.seq (.reg [oM 5 0,oC 6 76 #[(.tmp 5)] #[3],oM 7 6,oG 8 7 true 1,oH 9 7 true 76 #[(.tmp 8)] #[3],oV 10 7 true 9,oA 11 7 10,oM 12 11,oG 13 12 false 0,oG 14 12 false 1,⟨some 15,some (12,false),(.cmpb .lss (.tmp 13) (.tmp 14))⟩,oO 16 12 15,oM 4 16])
 .ret))
theorem L91:low Try.prog Try.f91.ntmps (at_ Try.f91 [])=some R91:=by kernel_rfl
theorem N95:Try.f95.ntmps=25:=by kernel_rfl
theorem Z95:Try.f95.results.toList=(#[(.tmp 2)]:Array ResultVar).toList:=by kernel_rfl
theorem B95:Try.f95.body=some (at_ Try.f95 []):=by kernel_rfl
noncomputable def R95:RC:=(.seq (.reg [oN 2 0])
 (.seq (.seq (.reg [oM 3 0, ⟨some 4, none, .pur ⟨some 4, (.binOp .geq 133 (.tmp 3) (.const (.int .u64 4294967296)) 133), 4, "", #[], none⟩⟩])
 (.cond (.tmp 4) (.seq (.reg [oM 5 0, ⟨some 6, none, (.pur ⟨some 6, (.binOp .shr 133 (.tmp 5) (.const (.int .u64 32)) 109), 133, "", #[], none⟩)⟩, oM 0 6])
 (.reg [oN 2 32]))
 .skip))
 (.seq (.seq (.reg [oM 7 0, ⟨some 8, none, .pur ⟨some 8, (.binOp .geq 133 (.tmp 7) (.const (.int .u64 65536)) 133), 4, "", #[], none⟩⟩])
 (.cond (.tmp 8) (.seq (.reg [oM 9 0, ⟨some 10, none, (.pur ⟨some 10, (.binOp .shr 133 (.tmp 9) (.const (.int .u64 16)) 109), 133, "", #[], none⟩)⟩, oM 0 10])
 (.reg [oM 11 2,oR 12 .add 11 16,oM 2 12]))
 .skip))
 (.seq (.seq (.reg [oM 13 0, ⟨some 14, none, .pur ⟨some 14, (.binOp .geq 133 (.tmp 13) (.const (.int .u64 256)) 133), 4, "", #[], none⟩⟩])
 (.cond (.tmp 14) (.seq (.reg [oM 15 0, ⟨some 16, none, (.pur ⟨some 16, (.binOp .shr 133 (.tmp 15) (.const (.int .u64 8)) 109), 133, "", #[], none⟩)⟩, oM 0 16])
 (.reg [oM 17 2,oR 18 .add 17 8,oM 2 18]))
 .skip))
 (.seq (.reg [oM 19 2, oM 20 0, ⟨some 21, none, .pur ⟨some 21, (.convert 133 5 (.tmp 20)), 5, "", #[], none⟩⟩, ⟨some 22, none, .pur ⟨some 22, (.index 9 (.const (.string (.mk #[0, 1, 2, 2, 3, 3, 3, 3, 4, 4, 4, 4, 4, 4, 4, 4, 5, 5, 5, 5, 5, 5, 5, 5, 5, 5, 5, 5, 5, 5, 5, 5, 6, 6, 6, 6, 6, 6, 6, 6, 6, 6, 6, 6, 6, 6, 6, 6, 6, 6, 6, 6, 6, 6, 6, 6, 6, 6, 6, 6, 6, 6, 6, 6, 7, 7, 7, 7, 7, 7, 7, 7, 7, 7, 7, 7, 7, 7, 7, 7, 7, 7, 7, 7, 7, 7, 7, 7, 7, 7, 7, 7, 7, 7, 7, 7, 7, 7, 7, 7, 7, 7, 7, 7, 7, 7, 7, 7, 7, 7, 7, 7, 7, 7, 7, 7, 7, 7, 7, 7, 7, 7, 7, 7, 7, 7, 7, 7, 8, 8, 8, 8, 8, 8, 8, 8, 8, 8, 8, 8, 8, 8, 8, 8, 8, 8, 8, 8, 8, 8, 8, 8, 8, 8, 8, 8, 8, 8, 8, 8, 8, 8, 8, 8, 8, 8, 8, 8, 8, 8, 8, 8, 8, 8, 8, 8, 8, 8, 8, 8, 8, 8, 8, 8, 8, 8, 8, 8, 8, 8, 8, 8, 8, 8, 8, 8, 8, 8, 8, 8, 8, 8, 8, 8, 8, 8, 8, 8, 8, 8, 8, 8, 8, 8, 8, 8, 8, 8, 8, 8, 8, 8, 8, 8, 8, 8, 8, 8, 8, 8, 8, 8, 8, 8, 8, 8, 8, 8, 8, 8, 8, 8, 8, 8, 8, 8, 8, 8, 8, 8, 8, 8, 8, 8, 8, 8]))) (.tmp 21)), 5, "", #[], none⟩⟩, ⟨some 23, none, (.pur ⟨some 23, (.convert 5 3 (.tmp 22)), 3, "", #[], none⟩)⟩, oS 24 .add 19 23, oM 2 24])
 .ret)))))
theorem L95:low Try.prog Try.f95.ntmps (at_ Try.f95 [])=some R95:=by kernel_rfl
theorem N96:Try.f96.ntmps=53:=by kernel_rfl
theorem Z96:Try.f96.results.toList=(#[]:Array ResultVar).toList:=by kernel_rfl
theorem B96:Try.f96.body=some (at_ Try.f96 []):=by kernel_rfl
noncomputable def R96:RC:=(.seq (.reg [oM 10 1,oR 11 .add 10 1,oM 8 11])
 (.block 0 (.other (at_ Try.f96 [1,0]))))
theorem L96:low Try.prog Try.f96.ntmps (at_ Try.f96 [])=some R96:=by kernel_rfl
theorem ZhI:at_ Try.f96 [1,0]=.loop (at_ Try.f96 [1,0,0]):=by kernel_rfl
noncomputable def R96x1:RC:=(.seq (.seq (.reg [oM 12 8,oM 13 2,⟨some 14,none,(.cmp .lss (.tmp 12) (.tmp 13))⟩])
 (.cond (.tmp 14) .skip
 (.exit 0)))
 (.seq (.block 1 (.seq (.reg [oM 17 8,oM 9 17])
 (.block 2 (.other (at_ Try.f96 [1,0,0,1,0,0,1,0])))))
 (.reg [oM 15 8,oR 16 .add 15 1,oM 8 16])))
theorem ZhQ:low Try.prog Try.f96.ntmps (at_ Try.f96 [1,0,0])=some R96x1:=by kernel_rfl
theorem Zi8:at_ Try.f96 [1,0,0,1,0,0,1,0]=.loop (at_ Try.f96 [1,0,0,1,0,0,1,0,0]):=by kernel_rfl
noncomputable def R96x2:RC:=(.seq (.seq (.dreg [oM 18 9,oM 19 1,⟨some 20,none,(.cmpb .gtr (.tmp 18) (.tmp 19))⟩,oM 21 20,oG 22 21 true 3,oG 23 21 true 0,oG 24 21 true 9,oIg 25 21 true 23 24 1,oLg 26 21 true 25 1,oG 27 21 true 0,oG 28 21 true 9,⟨some 29,some (21,true),(.ari .sub (.tmp 28) (.const (.int .i64 1)))⟩,oIg 30 21 true 27 29 1,oLg 31 21 true 30 1,⟨some 32,some (21,true),(.call ⟨(.value (.tmp 22)),#[(.tmp 26),(.tmp 31)],#[3,3]⟩ true)⟩,oBg 33 21 true .lss 32 0,oA 34 21 33] [65535,32767,16383,7695,3599,1039,15,15,239,111,15,15,15,7,3,0,0])
 (.cond (.tmp 34) .skip
 (.exit 2)))
 (.seq (.block 3 (.dreg [oM 37 0,oM 38 9,oM 39 0,oM 40 9,oR 41 .sub 40 1,oM 42 0,oM 43 9,oR 44 .sub 43 1,oI 45 42 44 1,oL 46 45 1,oM 47 0,oM 48 9,oI 49 47 48 1,oL 50 49 1,oI 51 37 38 1,⟨none,none,(.st (.tmp 51) (.tmp 46))⟩,oI 52 39 41 1,⟨none,none,(.st (.tmp 52) (.tmp 50))⟩] [131071,65535,32739,16355,7168,3072,0,0,480,224,64,0,0,8,0,0,0,0]))
 (.reg [oM 35 9,oR 36 .sub 35 1,oM 9 36])))
theorem ZhV:low Try.prog Try.f96.ntmps (at_ Try.f96 [1,0,0,1,0,0,1,0,0])=some R96x2:=by kernel_rfl
theorem N97:Try.f97.ntmps=220:=by kernel_rfl
theorem Z97:Try.f97.results.toList=(#[]:Array ResultVar).toList:=by kernel_rfl
theorem B97:Try.f97.body=some (at_ Try.f97 []):=by kernel_rfl
theorem ZhK:at_ Try.f97 [0,1,0,1,1,0,0]=.loop (at_ Try.f97 [0,1,0,1,1,0,0,0]):=by kernel_rfl
noncomputable def R97x1:RC:=(.seq (.seq (.reg [oM 31 10,oM 32 11,⟨some 33,none,(.cmp .lss (.tmp 31) (.tmp 32))⟩])
 (.cond (.tmp 33) .skip
 (.exit 0)))
 (.block 1 (.seq (.reg [oM 34 10, oM 35 11, oS 36 .add 34 35, ⟨some 37, none, .pur ⟨some 37, (.convert 3 109 (.tmp 36)), 109, "", #[], none⟩⟩, ⟨some 38, none, .pur ⟨some 38, (.binOp .shr 109 (.tmp 37) (.const (.int .u64 1)) 109), 109, "", #[], none⟩⟩, ⟨some 39, none, (.pur ⟨some 39, (.convert 109 3 (.tmp 38)), 3, "", #[], none⟩)⟩, oM 12 39])
 (.seq (.dreg [oM 40 4,oM 41 0,oM 42 12,oI 43 41 42 1,oL 44 43 1,oM 45 0,oM 46 1,oI 47 45 46 1,oL 48 47 1,⟨some 49,none,(.call ⟨(.value (.tmp 40)),#[(.tmp 44),(.tmp 48)],#[3,3]⟩ true)⟩,oQ 50 .lss 49 0] [1023,511,224,96,0,0,14,6,0,0,0])
 (.cond (.tmp 50) (.reg [oM 51 12,oR 52 .add 51 1,oM 10 52])
 (.reg [oM 53 12,oM 11 53]))))))
theorem Zjj:low Try.prog Try.f97.ntmps (at_ Try.f97 [0,1,0,1,1,0,0,0])=some R97x1:=by kernel_rfl
theorem ZiR:at_ Try.f97 [0,1,0,1,1,1,0,1,0]=.loop (at_ Try.f97 [0,1,0,1,1,1,0,1,0,0]):=by kernel_rfl
noncomputable def R97x2:RC:=(.seq (.seq (.reg [oM 55 13,oM 56 10,oR 57 .sub 56 1,⟨some 58,none,(.cmp .lss (.tmp 55) (.tmp 57))⟩])
 (.cond (.tmp 58) .skip
 (.exit 2)))
 (.seq (.block 3 (.dreg [oM 61 0,oM 62 13,oM 63 0,oM 64 13,oR 65 .add 64 1,oM 66 0,oM 67 13,oR 68 .add 67 1,oI 69 66 68 1,oL 70 69 1,oM 71 0,oM 72 13,oI 73 71 72 1,oL 74 73 1,oI 75 61 62 1,⟨none,none,(.st (.tmp 75) (.tmp 70))⟩,oI 76 63 65 1,⟨none,none,(.st (.tmp 76) (.tmp 74))⟩] [131071,65535,32739,16355,7168,3072,0,0,480,224,64,0,0,8,0,0,0,0]))
 (.reg [oM 59 13,oR 60 .add 59 1,oM 13 60])))
theorem ZhR:low Try.prog Try.f97.ntmps (at_ Try.f97 [0,1,0,1,1,1,0,1,0,0])=some R97x2:=by kernel_rfl
theorem ZhY:at_ Try.f97 [1,0,1,0,1,1,0,0]=.loop (at_ Try.f97 [1,0,1,0,1,1,0,0,0]):=by kernel_rfl
noncomputable def R97x3:RC:=(.seq (.seq (.reg [oM 83 14,oM 84 15,⟨some 85,none,(.cmp .lss (.tmp 83) (.tmp 84))⟩])
 (.cond (.tmp 85) .skip
 (.exit 4)))
 (.block 5 (.seq (.reg [oM 86 14, oM 87 15, oS 88 .add 86 87, ⟨some 89, none, .pur ⟨some 89, (.convert 3 109 (.tmp 88)), 109, "", #[], none⟩⟩, ⟨some 90, none, .pur ⟨some 90, (.binOp .shr 109 (.tmp 89) (.const (.int .u64 1)) 109), 109, "", #[], none⟩⟩, ⟨some 91, none, (.pur ⟨some 91, (.convert 109 3 (.tmp 90)), 3, "", #[], none⟩)⟩, oM 16 91])
 (.seq (.dreg [oM 92 4,oM 93 0,oM 94 2,oI 95 93 94 1,oL 96 95 1,oM 97 0,oM 98 16,oI 99 97 98 1,oL 100 99 1,⟨some 101,none,(.call ⟨(.value (.tmp 92)),#[(.tmp 96),(.tmp 100)],#[3,3]⟩ true)⟩,oQ 102 .lss 101 0,oU 103 102] [2047,1023,511,224,96,0,0,14,6,0,0,0])
 (.cond (.tmp 103) (.reg [oM 104 16,oR 105 .add 104 1,oM 14 105])
 (.reg [oM 106 16,oM 15 106]))))))
theorem Zjx:low Try.prog Try.f97.ntmps (at_ Try.f97 [1,0,1,0,1,1,0,0,0])=some R97x3:=by kernel_rfl
theorem ZhE:at_ Try.f97 [1,0,1,0,1,1,1,0,1,0]=.loop (at_ Try.f97 [1,0,1,0,1,1,1,0,1,0,0]):=by kernel_rfl
noncomputable def R97x4:RC:=(.seq (.seq (.reg [oM 108 17,oM 109 14,⟨some 110,none,(.cmp .gtr (.tmp 108) (.tmp 109))⟩])
 (.cond (.tmp 110) .skip
 (.exit 6)))
 (.seq (.block 7 (.dreg [oM 113 0,oM 114 17,oM 115 0,oM 116 17,oR 117 .sub 116 1,oM 118 0,oM 119 17,oR 120 .sub 119 1,oI 121 118 120 1,oL 122 121 1,oM 123 0,oM 124 17,oI 125 123 124 1,oL 126 125 1,oI 127 113 114 1,⟨none,none,(.st (.tmp 127) (.tmp 122))⟩,oI 128 115 117 1,⟨none,none,(.st (.tmp 128) (.tmp 126))⟩] [131071,65535,32739,16355,7168,3072,0,0,480,224,64,0,0,8,0,0,0,0]))
 (.reg [oM 111 17,oR 112 .sub 111 1,oM 17 112])))
theorem ZhW:low Try.prog Try.f97.ntmps (at_ Try.f97 [1,0,1,0,1,1,1,0,1,0,0])=some R97x4:=by kernel_rfl
theorem Ziq:at_ Try.f97 [1,1,1,1,1,1,1,0,0]=.loop (at_ Try.f97 [1,1,1,1,1,1,1,0,0,0]):=by kernel_rfl
noncomputable def R97x5:RC:=(.seq (.seq (.reg [oM 149 20,oM 150 21,⟨some 151,none,(.cmp .lss (.tmp 149) (.tmp 150))⟩])
 (.cond (.tmp 151) .skip
 (.exit 8)))
 (.block 9 (.seq (.reg [oM 152 20, oM 153 21, oS 154 .add 152 153, ⟨some 155, none, .pur ⟨some 155, (.convert 3 109 (.tmp 154)), 109, "", #[], none⟩⟩, ⟨some 156, none, .pur ⟨some 156, (.binOp .shr 109 (.tmp 155) (.const (.int .u64 1)) 109), 109, "", #[], none⟩⟩, ⟨some 157, none, (.pur ⟨some 157, (.convert 109 3 (.tmp 156)), 3, "", #[], none⟩)⟩, oM 23 157])
 (.seq (.dreg [oM 158 4,oM 159 0,oM 160 22,oM 161 23,oS 162 .sub 160 161,oI 163 159 162 1,oL 164 163 1,oM 165 0,oM 166 23,oI 167 165 166 1,oL 168 167 1,⟨some 169,none,(.call ⟨(.value (.tmp 158)),#[(.tmp 164),(.tmp 168)],#[3,3]⟩ true)⟩,oQ 170 .lss 169 0,oU 171 170] [8191,4095,2047,896,384,0,0,62,30,12,0,0,0,0])
 (.cond (.tmp 171) (.reg [oM 172 23,oR 173 .add 172 1,oM 20 173])
 (.reg [oM 174 23,oM 21 174]))))))
theorem Zh7:low Try.prog Try.f97.ntmps (at_ Try.f97 [1,1,1,1,1,1,1,0,0,0])=some R97x5:=by kernel_rfl
theorem N98:Try.f98.ntmps=58:=by kernel_rfl
theorem Z98:Try.f98.results.toList=(#[]:Array ResultVar).toList:=by kernel_rfl
theorem B98:Try.f98.body=some (at_ Try.f98 []):=by kernel_rfl
noncomputable def R98:RC:=(.seq (.reg [oM 12 2,oM 13 1,oS 14 .sub 12 13,oM 10 14])
 (.seq (.reg [oM 15 3,oM 16 2,oS 17 .sub 15 16,oM 11 17])
 (.seq (.block 0 (.other (at_ Try.f98 [1,1,0,0])))
 (.reg [oM 50 0,oM 51 2,oM 52 10,oS 53 .sub 51 52,oM 54 2,oM 55 10,oM 56 4,oC 57 105 #[(.tmp 50),(.tmp 53),(.tmp 54),(.tmp 55),(.tmp 56)] #[60,3,3,3,107]]))))
theorem L98:low Try.prog Try.f98.ntmps (at_ Try.f98 [])=some R98:=by kernel_rfl
theorem Ziw:at_ Try.f98 [1,1,0,0]=.loop (at_ Try.f98 [1,1,0,0,0]):=by kernel_rfl
noncomputable def R98x1:RC:=(.seq (.seq (.reg [oM 18 10,oM 19 11,⟨some 20,none,(.cmp .neq (.tmp 18) (.tmp 19))⟩])
 (.cond (.tmp 20) .skip
 (.exit 0)))
 (.block 1 (.seq (.reg [oM 21 10,oM 22 11,⟨some 23,none,(.cmp .gtr (.tmp 21) (.tmp 22))⟩])
 (.cond (.tmp 23) (.seq (.reg [oM 24 0,oM 25 2,oM 26 10,oS 27 .sub 25 26,oM 28 2,oM 29 11,oM 30 4,oC 31 105 #[(.tmp 24),(.tmp 27),(.tmp 28),(.tmp 29),(.tmp 30)] #[60,3,3,3,107]])
 (.reg [oM 32 10,oM 33 11,oS 34 .sub 32 33,oM 10 34]))
 (.seq (.reg [oM 35 0,oM 36 2,oM 37 10,oS 38 .sub 36 37,oM 39 2,oM 40 11,oS 41 .add 39 40,oM 42 10,oS 43 .sub 41 42,oM 44 10,oM 45 4,oC 46 105 #[(.tmp 35),(.tmp 38),(.tmp 43),(.tmp 44),(.tmp 45)] #[60,3,3,3,107]])
 (.reg [oM 47 11,oM 48 10,oS 49 .sub 47 48,oM 11 49]))))))
theorem Zjb:low Try.prog Try.f98.ntmps (at_ Try.f98 [1,1,0,0,0])=some R98x1:=by kernel_rfl
theorem ZiL:Try.f104.ntmps=58:=by kernel_rfl
theorem Zkc:Try.f104.results.toList=(#[]:Array ResultVar).toList:=by kernel_rfl
theorem ZjU:Try.f104.body=some (at_ Try.f104 []):=by kernel_rfl
noncomputable def R104:RC:=(.seq (.reg [oM 12 2,oM 13 1,oS 14 .sub 12 13,oM 10 14])
 (.seq (.reg [oM 15 3,oM 16 2,oS 17 .sub 15 16,oM 11 17])
 (.seq (.block 0 (.other (at_ Try.f104 [1,1,0,0])))
 (.reg [oM 50 0,oM 51 2,oM 52 10,oS 53 .sub 51 52,oM 54 2,oM 55 10,oM 56 4,oC 57 107 #[(.tmp 50),(.tmp 53),(.tmp 54),(.tmp 55),(.tmp 56)] #[67,3,3,3,106]]))))
theorem Zky:low Try.prog Try.f104.ntmps (at_ Try.f104 [])=some R104:=by kernel_rfl
theorem ZgD:at_ Try.f104 [1,1,0,0]=.loop (at_ Try.f104 [1,1,0,0,0]):=by kernel_rfl
noncomputable def R104x1:RC:=(.seq (.seq (.reg [oM 18 10,oM 19 11,⟨some 20,none,(.cmp .neq (.tmp 18) (.tmp 19))⟩])
 (.cond (.tmp 20) .skip
 (.exit 0)))
 (.block 1 (.seq (.reg [oM 21 10,oM 22 11,⟨some 23,none,(.cmp .gtr (.tmp 21) (.tmp 22))⟩])
 (.cond (.tmp 23) (.seq (.reg [oM 24 0,oM 25 2,oM 26 10,oS 27 .sub 25 26,oM 28 2,oM 29 11,oM 30 4,oC 31 107 #[(.tmp 24),(.tmp 27),(.tmp 28),(.tmp 29),(.tmp 30)] #[67,3,3,3,106]])
 (.reg [oM 32 10,oM 33 11,oS 34 .sub 32 33,oM 10 34]))
 (.seq (.reg [oM 35 0,oM 36 2,oM 37 10,oS 38 .sub 36 37,oM 39 2,oM 40 11,oS 41 .add 39 40,oM 42 10,oS 43 .sub 41 42,oM 44 10,oM 45 4,oC 46 107 #[(.tmp 35),(.tmp 38),(.tmp 43),(.tmp 44),(.tmp 45)] #[67,3,3,3,106]])
 (.reg [oM 47 11,oM 48 10,oS 49 .sub 47 48,oM 11 49]))))))
theorem Zhx:low Try.prog Try.f104.ntmps (at_ Try.f104 [1,1,0,0,0])=some R104x1:=by kernel_rfl
theorem ZhS:Try.f105.ntmps=38:=by kernel_rfl
theorem Zks:Try.f105.results.toList=(#[]:Array ResultVar).toList:=by kernel_rfl
theorem Zkz:Try.f105.body=some (at_ Try.f105 []):=by kernel_rfl
noncomputable def R105:RC:=(.seq (.reg [oN 10 0])
 (.block 0 (.other (at_ Try.f105 [1,0]))))
theorem ZjO:low Try.prog Try.f105.ntmps (at_ Try.f105 [])=some R105:=by kernel_rfl
theorem ZgP:at_ Try.f105 [1,0]=.loop (at_ Try.f105 [1,0,0]):=by kernel_rfl
noncomputable def R105x1:RC:=(.seq (.seq (.reg [oM 11 10,oM 12 3,⟨some 13,none,(.cmp .lss (.tmp 11) (.tmp 12))⟩])
 (.cond (.tmp 13) .skip
 (.exit 0)))
 (.seq (.block 1 (.dreg [oM 16 0,oM 17 1,oM 18 10,oS 19 .add 17 18,oM 20 0,oM 21 2,oM 22 10,oS 23 .add 21 22,oM 24 0,oM 25 2,oM 26 10,oS 27 .add 25 26,oI 28 24 27 2,oD 29 28 2,oM 30 0,oM 31 1,oM 32 10,oS 33 .add 31 32,oI 34 30 33 2,oD 35 34 2,oI 36 16 19 2,⟨none,none,(.sta (.tmp 36) (.tmp 29) 2)⟩,oI 37 20 23 2,⟨none,none,(.sta (.tmp 37) (.tmp 35) 2)⟩] [8388607,4194303,2096911,1048335,507904,245760,98304,0,0,0,7936,3840,1536,0,0,0,96,0,0,0,6,0,0,0]))
 (.reg [oM 14 10,oR 15 .add 14 1,oM 10 15])))
theorem Zgx:low Try.prog Try.f105.ntmps (at_ Try.f105 [1,0,0])=some R105x1:=by kernel_rfl
theorem ZhG:Try.f107.ntmps=38:=by kernel_rfl
theorem Zj2:Try.f107.results.toList=(#[]:Array ResultVar).toList:=by kernel_rfl
theorem ZjM:Try.f107.body=some (at_ Try.f107 []):=by kernel_rfl
noncomputable def R107:RC:=(.seq (.reg [oN 10 0])
 (.block 0 (.other (at_ Try.f107 [1,0]))))
theorem Zkn:low Try.prog Try.f107.ntmps (at_ Try.f107 [])=some R107:=by kernel_rfl
theorem Zgy:at_ Try.f107 [1,0]=.loop (at_ Try.f107 [1,0,0]):=by kernel_rfl
noncomputable def R107x1:RC:=(.seq (.seq (.reg [oM 11 10,oM 12 3,⟨some 13,none,(.cmp .lss (.tmp 11) (.tmp 12))⟩])
 (.cond (.tmp 13) .skip
 (.exit 0)))
 (.seq (.block 1 (.dreg [oM 16 0,oM 17 1,oM 18 10,oS 19 .add 17 18,oM 20 0,oM 21 2,oM 22 10,oS 23 .add 21 22,oM 24 0,oM 25 2,oM 26 10,oS 27 .add 25 26,oI 28 24 27 1,oL 29 28 1,oM 30 0,oM 31 1,oM 32 10,oS 33 .add 31 32,oI 34 30 33 1,oL 35 34 1,oI 36 16 19 1,⟨none,none,(.st (.tmp 36) (.tmp 29))⟩,oI 37 20 23 1,⟨none,none,(.st (.tmp 37) (.tmp 35))⟩] [8388607,4194303,2096911,1048335,507904,245760,98304,0,0,0,7936,3840,1536,0,0,0,96,0,0,0,6,0,0,0]))
 (.reg [oM 14 10,oR 15 .add 14 1,oM 10 15])))
theorem Zg2:low Try.prog Try.f107.ntmps (at_ Try.f107 [1,0,0])=some R107x1:=by kernel_rfl
end Go.Ax


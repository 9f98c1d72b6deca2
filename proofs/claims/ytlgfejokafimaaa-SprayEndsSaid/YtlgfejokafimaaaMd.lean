import Derived.Test.YtlgfejokafimaaaMc
import Derived.Maps.RangeRun
import Derived.Test.YtlgfejokafimaaaChecked
import Derived.Below
set_option linter.all false
/-! Code whose outcome hangs on what is drawn,2: lowered code,step by step. -/
namespace Go.Ax
open Go Go.RowKit
noncomputable section
section
variable (P:Program) (kn:Kn) (lo n:Nat) (rd:Bool)
def ZdU (P:Program) (lo:Nat) (t:Target) (args:List Value) (H:Hp) (Q:Value→Hp→Prop):Prop:=
 ∀ (r:Ren) (base:Nat) (w:World) (t':Target) (args':Array Value),lo≤H.next→Rel P r base H w→TgR r t t'→LR r args args'.toList→
  ∃ v H' r' w' v',Q v H'∧Zr P lo base r H w r' H' w'∧VR r' v v'∧(invoke t' args').run P w=.ok (.value v') w'
def Zd5 (S:Rg) (H:Hp) (K:Value→Hp→Prop) (o:Oper):Prop:=
 match o.op with
 | .makeMap _ none=>K (.map (some H.next)) (H.new (.mq #[] 0))
 | .lookup t x y false=>∃ (α:Type) (_:DecidableEq α) (enc:α→Value) (kt et:TypeId) (a:α) (L:ML α) (b c:Nat) (z:Value),Xc P kt enc∧P.underlying t=some (.map kt et)∧Zz P (zeroValue et)=some z∧flat z=true∧
   evS S x=some (.map (some b))∧evS S y=some (enc a)∧H.t.get b=some (.mq (mEs enc L) c)∧K ((ZQ a L).getD z) H
 | .mapEntry t x y=>∃ (α:Type) (_:DecidableEq α) (enc:α→Value) (kt et:TypeId) (a:α) (L:ML α) (b c:Nat) (z:Value),Xc P kt enc∧P.underlying t=some (.map kt et)∧Zz P (zeroValue et)=some z∧flat z=true∧
   evS S x=some (.map (some b))∧evS S y=some (enc a)∧H.t.get b=some (.mq (mEs enc L) c)∧lo≤b∧K (.tuple #[(ZQ a L).getD z,goInt (Yt a c L)]) { H with t:=H.t.set b (.mq (mEs enc (X6 a z c L)) (YR a c L)) }
 | _=>False
def Zey (S:Rg) (H:Hp) (K:Value→Hp→Prop) (o:Oper):Prop:=
 match o.op with
 | .entryStore _ x y u=>∃ (α:Type) (_:DecidableEq α) (enc:α→Value) (L:ML α) (b c st:Nat) (v:Value),evS S x=some (.map (some b))∧evS S y=some (goInt st)∧evS S u=some v∧H.t.get b=some (.mq (mEs enc L) c)∧lo≤b∧(∃ e∈L,e.2.2=st)∧
   K undef { H with t:=H.t.set b (.mq (mEs enc (Vq st v L)) c) }
 | .mapUpdate t x y u=>∃ (α:Type) (_:DecidableEq α) (enc:α→Value) (kt et:TypeId) (a:α) (L:ML α) (b c:Nat) (v:Value),Xc P kt enc∧P.underlying t=some (.map kt et)∧
   evS S x=some (.map (some b))∧evS S y=some (enc a)∧evS S u=some v∧H.t.get b=some (.mq (mEs enc L) c)∧lo≤b∧K undef { H with t:=H.t.set b (.mq (mEs enc (YW a v c L)) (YR a c L)) }
 | _=>False
def Xy (S:Rg) (H:Hp) (K:Value→Hp→Prop):RI→Prop
 | .call c _=>match Xp S c with
  | some (t,vs)=>∃ Q:Value→Hp→Prop,(XV P lo t vs H Q∨ZdU P lo t vs H Q)∧∀ v H',Q v H'→K v H'
  | none=>False
 | .rng x=>match evS S x with
  | some (.map none)=>∀ H1,H.new (.it none 0 #[] 0)=H1→K (ptr H.next) H1
  | some (.map (some m))=>∃ es c,(H.t.get m=some (.mp es c)∨H.t.get m=some (.mq es c))∧∀ H1,H.new (.it (some m) c #[] c)=H1→K (ptr H.next) H1
  | _=>False
 | .nxt x=>match evS S x with
  | some (.pointer (some ⟨b,0,none⟩))=>
   (∃ s se la,H.t.get b=some (.it none s se la)∧K (.tuple #[.bool false]) H)∨
   (∃ m s se la es c,H.t.get b=some (.it (some m) s se la)∧H.t.get m=some (.mq es c)∧(∀ e∈es.toList,e.born < s∧flat e.key=true)∧s≤la∧lo≤b∧
    ((leftOf es se).size=0→K (.tuple #[.bool false]) H)∧
    ∀ e∈(leftOf es se).toList,∀ H1,H.up b (.it (some m) s (se.push e.born) c)=H1→K (.tuple #[.bool true,e.key,e.val]) H1)∨
   ∃ m s se la es c,H.t.get b=some (.it (some m) s se la)∧H.t.get m=some (.mp es c)∧(∀ e∈es.toList,e.born < s∧flat e.key=true∧flat e.val=true)∧s≤la∧lo≤b∧
    ((leftOf es se).size=0→K (.tuple #[.bool false]) H)∧
    ∀ e∈(leftOf es se).toList,∀ H1,H.up b (.it (some m) s (se.push e.born) c)=H1→K (.tuple #[.bool true,e.key,e.val]) H1
  | _=>False
 | .ent x=>match evS S x with
  | some (.pointer (some ⟨b,0,none⟩))=>∃ m s se la es e,H.t.get b=some (.it (some m) s (Array.push se e.born) la)∧((H.t.get m=some (.mp es la)∧flat e.val=true)∨H.t.get m=some (.mq es la))∧e∈es.toList∧(es.toList.map (·.born)).Nodup∧flat e.key=true∧K (.tuple #[e.key,e.val]) H
  | _=>False
 | .mem o=>wRI P kn lo n S H (fun v H' _=>K v H') (.mem o)∨Zd5 P lo S H K o
 | .mst o=>wRI P kn lo n S H (fun v H' _=>K v H') (.mst o)∨Zey P lo S H K o
 | ri=>wRI P kn lo n S H (fun v H' _=>K v H') ri
def XF (S:Rg) (H:Hp) (o:RO) (K:Rg→Hp→Prop):Prop:=
 match o.guard with
 | none=>Xy P kn lo n S H (fun v H'=>K (Zv S o.dst v) H') o.ri
 | some (g,want)=>match lk S g with
  | some (.bool true)=>bif want then Xy P kn lo n S H (fun v H'=>K (Zv S o.dst v) H') o.ri else K (Zv S o.dst undef) H
  | some (.bool false)=>bif want then K (Zv S o.dst undef) H else Xy P kn lo n S H (fun v H'=>K (Zv S o.dst v) H') o.ri
  | some (.tuple _)=>K (Zv S o.dst undef) H
  | _=>False
def Zp:List RO→Rg→Hp→(Rg→Hp→Prop)→Prop
 | [],S,H,K=>K S H
 | o :: r,S,H,K=>XF P kn lo n S H o fun S' H'=>Zp r S' H' K
def KD (ops:List RO) (V:Nat→Value) (done:Nat→Bool) (S S':Rg):Prop:=
 (∀ i o d,ops[i]? = some o→o.dst=some d→done i=true→lk S' d=some (V i))∧∀ j v,lk S j=some v→(∀ o∈ops,o.dst≠some j)→lk S' j=some v
def Zbv (V:Nat→Value):List RO→Nat→Rg→Rg
 | [],_,S=>S
 | o :: r,i,S=>Zbv V r (i+1) (Zv S o.dst (V i))
def U0 (done:Nat→Bool) (i:Nat):Nat→Bool:=fun j=>bif Nat.beq j i then true else done j
def Zd1 (ops:List RO) (V:Nat→Value) (HP:(Nat→Bool)→Hp→Prop) (S:Rg) (i m:Nat) (o:RO):Prop:=
 ∀ (done:Nat→Bool) (S':Rg) (H':Hp),done i=false→(∀ j,m.testBit j=true→done j=true)→HP done H'→KD ops V done S S'→XF P kn lo n S' H' o fun S2 H2=>S2=Zv S' o.dst (V i)∧HP (U0 done i) H2
def ZcU (ops:List RO) (V:Nat→Value) (HP:(Nat→Bool)→Hp→Prop) (S:Rg) (ms:List Nat):List RO→Nat→Prop
 | [],_=>True
 | o :: r,i=>Zd1 P kn lo n ops V HP S i (ms.getD (ops.length - 1 - i) 0) o∧ZcU ops V HP S ms r (i+1)
def wDI (ms:List Nat) (ops:List RO) (S:Rg) (H:Hp) (K:Rg→Hp→Prop):Prop:=
 ∃ (V:Nat→Value) (HP:(Nat→Bool)→Hp→Prop),(ops.filterMap (·.dst)).Nodup∧HP (fun _=>false) H∧ZcU P kn lo n ops V HP S ms ops 0∧∀ done H',(∀ i,i < ops.length→done i=true)→HP done H'→K (Zbv V ops 0 S) H'
def wCM:RC→Rg→Hp→(Exit→Rg→Hp→Prop)→Prop
 | .skip,S,H,K=>K .normal S H
 | .exit id,S,H,K=>K (.exit id) S H
 | .ret,S,H,K=>K .ret S H
 | .seq x y,S,H,K=>wCM x S H fun e S' H'=>match e with | .normal=>wCM y S' H' K | e=>K e S' H'
 | .cond o x y,S,H,K=>match evS S o with
  | some (.bool b)=>(b=true→wCM x S H K)∧(b=false→wCM y S H K)
  | _=>False
 | .block id b,S,H,K=>wCM b S H fun e S' H'=>match e with | .exit j=>(bif Nat.beq j id then K .normal S' H' else K (.exit j) S' H') | e=>K e S' H'
 | .scp b,S,H,K=>wCM b S H K
 | .reg ops,S,H,K=>Zp P kn lo n ops S H fun S' H'=>K .normal S' H'
 | .dreg ops masks,S,H,K=>Zx P kn lo n masks ops [] S H (fun S' H'=>K .normal S' H')∨(WG lo H∧WZ P kn lo n masks ops [] S H fun S' H'=>K .normal S' H')∨wDI P kn lo n masks ops S H fun S' H'=>K .normal S' H'
 | .other c,S,H,K=>Yj P lo n rd c S H K
end
section
variable {P:Program} {kn:Kn} {lo n:Nat} {rd:Bool}
theorem yQ {ops:Array Oper} {ord:Bool} {A:Fr} {S:Rg} {H:Hp} {K:Rg→Hp→Prop} {o:Oper} {ro:RO} (hl:WM P n ops.toList ord o=some ro) (hA:ZG S A.T) (hn:A.n=n) (h:XF P kn lo n S H ro K) :
  (∀ v,A.put o.dst v=some { A with T:=Yp A.T o.dst v })∧
  ((ZE ops A o=some false∧K (Zv S o.dst undef) H)∨(ZE ops A o=some true∧∃ ri,X2 P ops.toList ord o=some ri∧Xy P kn lo n S H (fun v H'=>K (Zv S o.dst v) H') ri)):=by
 unfold WM at hl
 split at hl<;>first | (cases hl;done) | skip
 rename_i ri hri
 obtain ⟨hd,hl⟩:=Zc hl
 refine ⟨KN (by rw [hn];exact hd),?_⟩
 split at hl
 ·rename_i hg
  cases hl
  simp only [XF] at h
  exact .inr ⟨by unfold ZE;rw [hg],ri,hri,h⟩
 ·rename_i j w hg
  split at hl<;>first | (cases hl;done) | skip
  rename_i g hj
  split at hl<;>first | (cases hl;done) | skip
  rename_i d hgd
  cases hl
  have hj':ops[j]? = some g:=by simpa using hj
  simp only [XF] at h
  split at h<;>first | exact h.elim | skip
  ·rename_i hb
   have hw:ZE ops A o=some (true == w):=by unfold ZE;rw [hg];simp only [hj',hgd,hA d _ hb]
   cases w with
   | true=>exact .inr ⟨by rw [hw];rfl,ri,hri,h⟩
   | false=>exact .inl ⟨by rw [hw];rfl,h⟩
  ·rename_i hb
   have hw:ZE ops A o=some (false == w):=by unfold ZE;rw [hg];simp only [hj',hgd,hA d _ hb]
   cases w with
   | true=>exact .inl ⟨by rw [hw];rfl,h⟩
   | false=>exact .inr ⟨by rw [hw];rfl,ri,hri,h⟩
  ·rename_i vs hb
   exact .inl ⟨by unfold ZE;rw [hg];simp only [hj',hgd,hA d _ hb],h⟩
theorem Za3 {ops:List Oper} {ord:Bool} {o:Oper} {x:Operand} (h:X2 P ops ord o=some (.rng x)):∃ t k e,o.op=.range t x∧P.underlying t=some (.map k e):=by
 unfold X2 at h
 split at h<;>rename_i hop<;>(repeat' (first | (cases h;done) | (unfold cond at h) | (split at h)))
 all_goals first
  | (cases h;done)
  | (rename_i hu;cases h;exact ⟨_,_,_,hop,hu⟩)
theorem ZbR {ops:List Oper} {ord:Bool} {o:Oper} {x:Operand} (h:X2 P ops ord o=some (.nxt x)):o.op=.next x false:=by
 unfold X2 at h
 split at h<;>rename_i hop<;>(repeat' (first | (cases h;done) | (unfold cond at h) | (split at h)))
 all_goals first
  | (cases h;done)
  | (cases h;exact hop)
theorem Zb5 {ops:List Oper} {ord:Bool} {o:Oper} {x:Operand} (h:X2 P ops ord o=some (.ent x)):o.op=.entry x:=by
 unfold X2 at h
 split at h<;>rename_i hop<;>(repeat' (first | (cases h;done) | (unfold cond at h) | (split at h)))
 all_goals first
  | (cases h;done)
  | (cases h;exact hop)
theorem ZbZ {ops:List Oper} {ord:Bool} {o x:Oper} (h:X2 P ops ord o=some (.mem x)):x=YZ o:=by
 unfold X2 at h
 split at h<;>rename_i hop<;>(repeat' (first | (cases h;done) | (unfold cond at h) | (split at h)))
 all_goals first
  | (cases h;done)
  | (cases h;rfl)
theorem Zbb {ops:List Oper} {ord:Bool} {o x:Oper} (h:X2 P ops ord o=some (.mst x)):x=YZ o:=by
 unfold X2 at h
 split at h<;>rename_i hop<;>(repeat' (first | (cases h;done) | (unfold cond at h) | (split at h)))
 all_goals first
  | (cases h;done)
  | (cases h;rfl)
theorem zt {A:Fr} {S:Rg} {H:Hp} {o:Oper} {c:Call} {t:Target} {vs:List Value} (hb:∀ b,c.callee≠.builtin b) (hop:o.op=.call c) (hA:ZG S A.T) (ht:Xp S c=some (t,vs)):aOp P lo A H o=some (.call t vs,.full):=by
 have e:Zo P A o=none:=by
  unfold Zo;rw [hop]
  cases hcal:c.callee with
  | builtin b=>exact absurd hcal (hb b)
  | _=>simp only [hcal]
 unfold aOp
 rw [e]
 unfold Zu
 rw [hop]
 cases hcal:c.callee with
 | builtin b=>exact absurd hcal (hb b)
 | _=>simp only [hcal,JX hA ht]
theorem yJ {base:Nat} {r:Ren} {H:Hp} {w:World} (h:Rel P r base H w) (hlo:lo≤H.next) {t k e:TypeId} (hu:P.underlying t=some (.map k e)) {v v':Value} (hv:VR r v v') {ob:Ob}
  (ho:(v=.map none∧ob=.it none 0 #[] 0)∨∃ m es c,v=.map (some m)∧(H.t.get m=some (.mp es c)∨H.t.get m=some (.mq es c))∧ob=.it (some m) c #[] c) :
  ∃ r1 v1 w1,(Instr.range t v').run P w=.ok v1 w1∧VR r1 (ptr H.next) v1∧Zr P lo base r H w r1 (H.new ob) w1:=by
 rcases ho with ⟨rfl,rfl⟩ | ⟨m,es,c,rfl,hg,rfl⟩
 ·cases hv
  refine ⟨_,.pointer (some ⟨w.heap.size,0,none⟩),{ w with heap:=w.heap.push (.mapIter none 0 #[] 0) },?_,QD r H.next w none,Zr.fresh h hlo rfl ⟨rfl,rfl,rfl⟩ ⟨rfl,rfl⟩⟩
  simp only [Instr.range,Sem.run_bind,run_underlying hu,Result.andThen_ok,Sem.run_pure]
  rfl
 ·cases hv with
  | mapv hm=>
   rename_i loc
   obtain ⟨es2,hob⟩:∃ es2,w.heap[loc.blk]? = some (.map es2 c):=by
    rcases hg with hg | hg
    ·exact ⟨es,h.cont _ _ _ hm hg⟩
    ·obtain ⟨es',a,_⟩:=h.cont _ _ _ hm hg
     exact ⟨es',a⟩
   refine ⟨_,.pointer (some ⟨w.heap.size,0,none⟩),{ w with heap:=w.heap.push (.mapIter (some loc.blk) c #[] c) },?_,QD r H.next w none,Zr.fresh h hlo rfl ⟨rfl,rfl,rfl⟩ ⟨rfl,loc,Ren.le_add _ h.none_next _ _ hm,rfl⟩⟩
   simp only [Instr.range,Sem.run_bind,run_underlying hu,Result.andThen_ok,Sem.run_pure,getObj,Sem.run,hob,Result.andThen]
   rfl
theorem Zc0 {base:Nat} {r:Ren} {H:Hp} {w:World} (h:Rel P r base H w) {b m s la c:Nat} {se:Array Nat} {es:Array MapEntry} {v':Value} (hv:VR r (.pointer (some ⟨b,0,none⟩)) v') (hb:H.t.get b=some (.it (some m) s se la)) (hm:H.t.get m=some (.mp es c))
  (hold:∀ e∈es.toList,e.born < s) (hsc:s≤la) (hlb:lo≤b) (ty:TypeId) :
  ((leftOf es se).size=0∧(Instr.next v' false ty).run P w=.ok (.tuple #[.bool false]) w)∨
  ∃ e∈(leftOf es se).toList,∃ w1,(Instr.next v' false ty).run P w=.ok (.tuple #[.bool true,e.key,e.val]) w1∧Zr P lo base r H w r (H.up b (.it (some m) s (se.push e.born) c)) w1:=by
 cases hv with
 | ptr hr=>
  rename_i loc
  obtain ⟨hd,l,hl,hob⟩:=h.cont _ _ _ hr hb
  have hom:w.heap[l.blk]? = some (.map es c):=h.cont _ _ _ hl hm
  have hlt:loc.blk < w.heap.size:=by
   rcases Nat.lt_or_ge loc.blk w.heap.size with q | q
   ·exact q
   ·rw [Array.getElem?_eq_none q] at hob;cases hob
  rw [hd]
  rcases run_next_at (P:=P) w ty loc.blk l.blk s la se es c hob hom hold hsc with q | ⟨e,he,w1,hw,hrun⟩
  ·exact .inl q
  ·refine .inr ⟨e,he,_,hrun,?_⟩
   have hheap:w1.heap=w.heap:=by rcases hw with rfl | rfl<;>rfl
   have hstr:w1.os=w.os∧w1.tape=w.tape∧w1.output=w.output:=by rcases hw with rfl | rfl<;>exact ⟨rfl,rfl,rfl⟩
   refine Zr.change h hr ⟨_,hb,by simp,rfl⟩ hlb (by show (w1.heap.setIfInBounds _ _).size=_;rw [hheap];simp) (fun q hq=>?_) hstr ?_
   ·show (w1.heap.setIfInBounds loc.blk _)[q]? = _
    rw [hheap,Array.getElem?_setIfInBounds,if_neg (fun e=>hq e.symm)]
   ·refine ⟨hd,l,hl,?_⟩
    show (w1.heap.setIfInBounds loc.blk _)[loc.blk]? = _
    rw [hheap,Array.getElem?_setIfInBounds,if_pos rfl,if_pos hlt]
theorem EsR.mem {r:Ren}:∀ {l l':List MapEntry},EsR r l l'→∀ y∈l',∃ x∈l,y.key=x.key∧y.born=x.born∧VR r x.val y.val
 | [],[],_,y,hy=>by cases hy
 | x :: l,y :: l',h,u,hu=>by
  rcases List.mem_cons.1 hu with rfl | hu
  ·exact ⟨x,by simp,h.1⟩
  ·obtain ⟨v,hv,q⟩:=EsR.mem h.2 u hu
   exact ⟨v,by simp [hv],q⟩
 | [],_ :: _,h,_,_=>h.elim
 | _ :: _,[],h,_,_=>h.elim
theorem EsR.mem' {r:Ren}:∀ {l l':List MapEntry},EsR r l l'→∀ x∈l,∃ y∈l',y.key=x.key∧y.born=x.born∧VR r x.val y.val
 | [],[],_,y,hy=>by cases hy
 | x :: l,y :: l',h,u,hu=>by
  rcases List.mem_cons.1 hu with rfl | hu
  ·exact ⟨y,by simp,h.1⟩
  ·obtain ⟨v,hv,q⟩:=EsR.mem' h.2 u hu
   exact ⟨v,by simp [hv],q⟩
 | [],_ :: _,h,_,_=>h.elim
 | _ :: _,[],h,_,_=>h.elim
theorem EsR.borns {r:Ren}:∀ {l l':List MapEntry},EsR r l l'→l'.map (·.born)=l.map (·.born)
 | [],[],_=>rfl
 | x :: l,y :: l',h=>by simp only [List.map_cons,h.1.2.1,EsR.borns h.2]
 | [],_ :: _,h=>h.elim
 | _ :: _,[],h=>h.elim
theorem EsR.left {r:Ren} {es es':Array MapEntry} (h:EsR r es.toList es'.toList) (se:Array Nat):EsR r (leftOf es se).toList (leftOf es' se).toList:=by
 have key:∀ {l l':List MapEntry},EsR r l l'→EsR r (l.filter fun e=>!se.contains e.born) (l'.filter fun e=>!se.contains e.born):=by
  intro l
  induction l with
  | nil=>intro l' h;cases l' with
   | nil=>exact True.intro
   | cons _ _=>exact h.elim
  | cons x l ih=>intro l' h;cases l' with
   | nil=>exact h.elim
   | cons y l'=>
    simp only [List.filter_cons,h.1.2.1]
    split
    ·exact ⟨h.1,ih h.2⟩
    ·exact ih h.2
 have e:∀ es:Array MapEntry,(leftOf es se).toList=es.toList.filter fun e=>!se.contains e.born:=fun es=>by
  unfold leftOf;simp
 rw [e,e];exact key h
theorem Zbz {base:Nat} {r:Ren} {H:Hp} {w:World} (h:Rel P r base H w) {b m s la c:Nat} {se:Array Nat} {es:Array MapEntry} {v':Value} (hv:VR r (.pointer (some ⟨b,0,none⟩)) v') (hb:H.t.get b=some (.it (some m) s se la)) (hm:H.t.get m=some (.mq es c))
  (hold:∀ e∈es.toList,e.born < s) (hsc:s≤la) (hlb:lo≤b) (ty:TypeId) :
  ((leftOf es se).size=0∧(Instr.next v' false ty).run P w=.ok (.tuple #[.bool false]) w)∨
  ∃ e∈(leftOf es se).toList,∃ u w1,VR r e.val u∧(Instr.next v' false ty).run P w=.ok (.tuple #[.bool true,e.key,u]) w1∧Zr P lo base r H w r (H.up b (.it (some m) s (se.push e.born) c)) w1:=by
 cases hv with
 | ptr hr=>
  rename_i loc
  obtain ⟨hd,l,hl,hob⟩:=h.cont _ _ _ hr hb
  obtain ⟨es',hom,hes⟩:=h.cont _ _ _ hl hm
  have hlt:loc.blk < w.heap.size:=by
   rcases Nat.lt_or_ge loc.blk w.heap.size with q | q
   ·exact q
   ·rw [Array.getElem?_eq_none q] at hob;cases hob
  have hold':∀ e∈es'.toList,e.born < s:=fun e he=>by
   obtain ⟨x,hx,_,q,_⟩:=hes.mem e he
   rw [q];exact hold x hx
  have hleft:=hes.left se
  rw [hd]
  rcases run_next_at (P:=P) w ty loc.blk l.blk s la se es' c hob hom hold' hsc with ⟨q1,q2⟩ | ⟨e,he,w1,hw,hrun⟩
  ·refine .inl ⟨?_,q2⟩
   have hlen:=congrArg List.length hleft.borns
   simp only [List.length_map] at hlen
   have:(leftOf es se).toList.length=0:=by rw [← hlen];simpa using q1
   simpa using this
  ·obtain ⟨x,hx,ek,eb,ev⟩:=hleft.mem e he
   refine .inr ⟨x,hx,e.val,_,ev,by rw [ek] at hrun;exact hrun,?_⟩
   have hheap:w1.heap=w.heap:=by rcases hw with rfl | rfl<;>rfl
   have hstr:w1.os=w.os∧w1.tape=w.tape∧w1.output=w.output:=by rcases hw with rfl | rfl<;>exact ⟨rfl,rfl,rfl⟩
   rw [← eb]
   refine Zr.change h hr ⟨_,hb,by simp,rfl⟩ hlb (by show (w1.heap.setIfInBounds _ _).size=_;rw [hheap];simp) (fun q hq=>?_) hstr ?_
   ·show (w1.heap.setIfInBounds loc.blk _)[q]? = _
    rw [hheap,Array.getElem?_setIfInBounds,if_neg (fun e=>hq e.symm)]
   ·refine ⟨hd,l,hl,?_⟩
    show (w1.heap.setIfInBounds loc.blk _)[loc.blk]? = _
    rw [hheap,Array.getElem?_setIfInBounds,if_pos rfl,if_pos hlt]
theorem ZaC {base:Nat} {r:Ren} {H:Hp} {w:World} (h:Rel P r base H w) {b m s la:Nat} {se:Array Nat} {es:Array MapEntry} {e:MapEntry} {v':Value} (hv:VR r (.pointer (some ⟨b,0,none⟩)) v') (hb:H.t.get b=some (.it (some m) s (se.push e.born) la)) (hm:H.t.get m=some (.mq es la))
  (he:e∈es.toList) (hn:(es.toList.map (·.born)).Nodup):∃ u,VR r e.val u∧(Instr.entry v').run P w=.ok (.tuple #[e.key,u]) w:=by
 cases hv with
 | ptr hr=>
  rename_i loc
  obtain ⟨hd,l,hl,hob⟩:=h.cont _ _ _ hr hb
  obtain ⟨es',hom,hes⟩:=h.cont _ _ _ hl hm
  rw [hd]
  obtain ⟨x,hx,ek,eb,ev⟩:=hes.mem' e he
  refine ⟨x.val,ev,?_⟩
  have:=run_entry_at (P:=P) w loc.blk l.blk s se es' la x (by rw [eb];exact hob) hom hx (by rw [hes.borns];exact hn)
  rw [ek] at this
  exact this
theorem jy {base:Nat} {r:Ren} {H:Hp} {w:World} (h:Rel P r base H w) {b s la:Nat} {se:Array Nat} {v':Value} (hv:VR r (.pointer (some ⟨b,0,none⟩)) v') (hb:H.t.get b=some (.it none s se la)) (ty:TypeId) :
  (Instr.next v' false ty).run P w=.ok (.tuple #[.bool false]) w:=by
 cases hv with
 | ptr hr=>
  rename_i loc
  obtain ⟨hd,hob⟩:=h.cont _ _ _ hr hb
  rw [hd]
  simp only [Instr.next,getObj,Sem.run_bind,Sem.run,hob,Result.andThen]
  rfl
theorem Zbh {base:Nat} {r:Ren} {H:Hp} {w:World} (h:Rel P r base H w) {b m s la:Nat} {se:Array Nat} {es:Array MapEntry} {e:MapEntry} {v':Value} (hv:VR r (.pointer (some ⟨b,0,none⟩)) v') (hb:H.t.get b=some (.it (some m) s (se.push e.born) la)) (hm:H.t.get m=some (.mp es la))
  (he:e∈es.toList) (hn:(es.toList.map (·.born)).Nodup):(Instr.entry v').run P w=.ok (.tuple #[e.key,e.val]) w:=by
 cases hv with
 | ptr hr=>
  rename_i loc
  obtain ⟨hd,l,hl,hob⟩:=h.cont _ _ _ hr hb
  have hom:w.heap[l.blk]? = some (.map es la):=h.cont _ _ _ hl hm
  rw [hd]
  exact run_entry_at w loc.blk l.blk s se es la e hob hom he hn
section
variable {base:Nat} {r:Ren} {H:Hp} {w:World} {A:Fr} {tmps:Array Value} {ds:List Deferred} {rdv:Option Nat} {cs:List Frame} {k:List Item} {ops:Array Oper} {i:Nat} {rest:List Nat} {o:Oper} {S:Rg} {K:Exit→Rg→Hp→Prop}
theorem Wd (hlo:lo≤H.next) (hF:FrR r A tmps ds rdv) (hn:A.n=n) (hr:A.round.isSome=rd) (hS:ZG S A.T) (hput:∀ v,A.put o.dst v=some { A with T:=Yp A.T o.dst v })
  {r1:Ren} {H1:Hp} {w1:World} {v v':Value} (hpost:Zr P lo base r H w r1 H1 w1) (hv:VR r1 v v')
  (hs:Steps P (lone (mkF A.fn tmps (.inRegion ops (i :: rest) :: k) ds .normal rdv) cs w) (lone (mkF A.fn (Wo tmps o.dst v') (.inRegion ops rest :: k) ds .normal rdv) cs w1))
  (hrest:V3 P lo n rd ops rest (Zv S o.dst v) H1 K) :
  ∃ e S' H' T',K e S' H'∧ZG S' T'∧ZN P lo base r H w (lone (mkF A.fn tmps (.inRegion ops (i :: rest) :: k) ds .normal rdv) cs w) .normal rdv (fun _=>cs) k A e { A with T:=T' } H' none:=by
 obtain ⟨hF1,hs1,_⟩:=Zar (hF.mono hpost.le) (hput v) hv
 obtain ⟨e,S',H',T',a,b,q⟩:=hrest base r1 w1 _ _ ds rdv cs k (Nat.le_trans hlo hpost.next) hpost.rel hF1 hn hr (ZB hS o.dst v)
 exact ⟨e,S',H',T',a,b,ZN.of_steps hs (ZN.after hlo hpost hs1 q)⟩
theorem zl (hlo:lo≤H.next) (hrel:Rel P r base H w) (hF:FrR r A tmps ds rdv) (hn:A.n=n) (hr:A.round.isSome=rd) (hS:ZG S A.T) (hput:∀ v,A.put o.dst v=some { A with T:=Yp A.T o.dst v }) (ho:ops[i]? = some o) (hw:Region.wanted o (yielded ops tmps)=true)
  {t:Target} {vs:List Value} (hop:aOp P lo A H o=some (.call t vs,.full)) {Q:Value→Hp→Prop} (hc:XV P lo t vs H Q) (hrest:∀ v H1,Q v H1→V3 P lo n rd ops rest (Zv S o.dst v) H1 K) :
  ∃ e S' H' T',K e S' H'∧ZG S' T'∧ZN P lo base r H w (lone (mkF A.fn tmps (.inRegion ops (i :: rest) :: k) ds .normal rdv) cs w) .normal rdv (fun _=>cs) k A e { A with T:=T' } H' none:=by
 obtain ⟨hSx,hdef⟩:=VZ hrel hlo hF.T hop
 have hd:rdv=none∨∀ c,o.op≠.defer c:=.inr (hdef.resolve_right fun ⟨d,hd⟩=>by cases hd)
 obtain ⟨t',args',hrun,ht,ha⟩:=hSx
 obtain ⟨nx,fr0,hi,hfo,hb⟩:=hc r base w t' args' hlo hrel ht ha
 obtain ⟨v,H1,r1,w1,hq,hpost,v',hv,hsteps⟩:=hb (mkF A.fn tmps (.inRegion ops (i :: rest) :: k) ds .normal rdv) cs
 have henter:step P (lone (mkF A.fn tmps (.inRegion ops (i :: rest) :: k) ds .normal rdv) cs w)=.next (lone fr0 (mkF A.fn tmps (.inRegion ops (i :: rest) :: k) ds .normal rdv :: cs) w):=by
  rw [hi] at hrun
  cases nx<;>simp only [XS] at hfo<;>cases hfo
  ·exact Um ho hw hd hrun
  ·exact UN ho hw hd hrun
 rw [Xi v' ho] at hsteps
 exact Wd hlo hF hn hr hS hput hpost hv (Steps.head henter hsteps) (hrest v H1 hq)
end
theorem XV.low {lo':Nat} {t:Target} {args:List Value} {H:Hp} {Q:Value→Hp→Prop} (h:XV P lo' t args H Q) (hl:lo≤lo') (hn:lo'≤H.next):XV P lo t args H Q:=by
 intro r base w t' args' hlo hrel ht ha
 obtain ⟨nx,fr0,a,b,c⟩:=h r base w t' args' hn hrel ht ha
 refine ⟨nx,fr0,a,b,fun c0 rest=>?_⟩
 obtain ⟨v,H',r',w',q,hp,x⟩:=c c0 rest
 exact ⟨v,H',r',w',q,hp.low hl,x⟩
theorem Kg (s:Snd P kn) {ops:Array Oper} {ord:Bool} {i:Nat} {rest:List Nat} {o:Oper} {ro:RO} {Q:Rg→Hp→Prop} {S:Rg} {H:Hp} {K:Exit→Rg→Hp→Prop} (ho:ops[i]? = some o) (hro:WM P n ops.toList ord o=some ro) (h:XF P kn lo n S H ro Q)
  (ih:∀ {S' H'},Q S' H'→V3 P lo n rd ops rest S' H' K):V3 P lo n rd ops (i :: rest) S H K:=by
  intro base r w A tmps ds rdv cs k hlo hrel hF hn hr hS
  obtain ⟨hput,hcase⟩:=yQ hro hS hn h
  rcases hcase with ⟨hw,hk⟩ | ⟨hw,ri,hri,hk⟩
  ·exact Wd hlo hF hn hr hS hput (Zr.refl hrel) (Wi r) (Steps.one (UV ho (Xb hF.T hw))) (ih hk)
  ·have hwr:=Xb hF.T hw
   have gen:wRI P kn lo n S H (fun v H' _=>Q (Zv S o.dst v) H') ri→∃ e S' H' T',K e S' H'∧ZG S' T'∧ZN P lo base r H w (lone (mkF A.fn tmps (.inRegion ops (i :: rest) :: k) ds .normal rdv) cs w) .normal rdv (fun _=>cs) k A e { A with T:=T' } H' none:=by
    intro hk
    rcases VN hri hS hk with ⟨v,H1,kd,hop,_,hk⟩ | ⟨H1,kd,hop,hk⟩ | ⟨t,vs,v,H1,hop,_,hc,hk⟩ | ⟨t,vs,v,H1,b,hop,_,_,hc,_,hk⟩
    ·obtain ⟨⟨r1,v',w1,hrun,hv,hpost⟩,hdef⟩:=VZ hrel hlo hF.T hop
     have hd:rdv=none∨∀ c,o.op≠.defer c:=.inr (hdef.resolve_right fun ⟨d,hd⟩=>by cases hd)
     exact Wd hlo hF hn hr hS hput hpost hv (Steps.one (YA ho hwr hd hrun)) (ih hk)
    ·obtain ⟨⟨w1,hrun,hpost⟩,hdef⟩:=VZ hrel hlo hF.T hop
     have hd:rdv=none∨∀ c,o.op≠.defer c:=.inr (hdef.resolve_right fun ⟨d,hd⟩=>by cases hd)
     exact Wd hlo hF hn hr hS hput hpost (Wi r) (Steps.one (Wt ho hwr hd hrun)) (ih hk)
    ·refine zl hlo hrel hF hn hr hS hput ho hwr hop (Q:=fun u H2=>u=v∧H2=H1) ?_ fun v1 H2 ⟨e1,e2⟩=>by subst e1 e2;exact ih hk
     cases ord with
     | true=>exact XV.of s hc
     | false=>exact (XV.of s hc).low hlo (Nat.le_refl _)
    ·exact zl hlo hrel hF hn hr hS hput ho hwr hop (XV.of s hc) fun v1 H2 ⟨e1,e2⟩=>by subst e1 e2;exact ih hk
   have nodef:∀ {x:Op},o.op=x→(∀ c,x≠.defer c)→rdv=none∨∀ c,o.op≠.defer c:=fun e q=>.inr fun c=>by rw [e];exact q c
   cases ri with
   | call c ord=>
    obtain ⟨hop,hnb⟩:=j5 hri
    simp only [Xy] at hk
    split at hk<;>first | exact hk.elim | skip
    rename_i t vs ht
    obtain ⟨Q,hc | hc,hq⟩:=hk
    ·exact zl hlo hrel hF hn hr hS hput ho hwr (zt hnb hop hS ht) hc fun v H1 q=>ih (hq v H1 q)
    ·obtain ⟨⟨t',args',hrun,ht',ha'⟩,_⟩:=VZ hrel hlo hF.T (zt (lo:=lo) (H:=H) hnb hop hS ht)
     obtain ⟨v,H1,r1,w1,v',hqv,hpost,hv,hi⟩:=hc r base w t' args' hlo hrel ht' ha'
     exact Wd hlo hF hn hr hS hput hpost hv (Steps.one (YA ho hwr (nodef hop (fun c e=>by cases e)) (hrun.trans hi))) (ih (hq v H1 hqv))
   | rng x=>
    obtain ⟨t,kt,et,hop,hu⟩:=Za3 hri
    simp only [Xy] at hk
    have fin:∀ (v:Value) (ob:Ob),evS S x=some v→((v=.map none∧ob=.it none 0 #[] 0)∨∃ m es c,v=.map (some m)∧(H.t.get m=some (.mp es c)∨H.t.get m=some (.mq es c))∧ob=.it (some m) c #[] c)→
      Q (Zv S o.dst (ptr H.next)) (H.new ob)→∃ e S' H' T',K e S' H'∧ZG S' T'∧ZN P lo base r H w (lone (mkF A.fn tmps (.inRegion ops (i :: rest) :: k) ds .normal rdv) cs w) .normal rdv (fun _=>cs) k A e { A with T:=T' } H' none:=by
     intro v ob hx hob hk
     obtain ⟨r1,v1,w1,hrun,hv1,hpost⟩:=yJ (lo:=lo) hrel hlo hu (evR hF.T (ZH hS hx)) hob
     refine Wd hlo hF hn hr hS hput hpost hv1 (Steps.one (YA ho hwr (nodef hop (fun c e=>by cases e)) ?_)) (ih hk)
     unfold execOp;rw [hop]
     first | (simp only [Sem.run_bind,hrun,Result.andThen_ok,Sem.run_pure];done) | (show (Instr.range t (evT tmps x) >>= fun v=>pure (Next.value v)).run P w=_;rw [Sem.run_bind,hrun];rfl)
    split at hk<;>first | exact hk.elim | skip
    ·rename_i hx
     exact fin _ _ hx (.inl ⟨rfl,rfl⟩) (hk _ rfl)
    ·rename_i m hx
     obtain ⟨es,c,hg,hk⟩:=hk
     exact fin _ _ hx (.inr ⟨m,es,c,rfl,hg,rfl⟩) (hk _ rfl)
   | nxt x=>
    have hop:=ZbR hri
    simp only [Xy] at hk
    split at hk<;>first | exact hk.elim | skip
    rename_i b hx
    have hv:=evR hF.T (ZH hS hx)
    have ex:∀ {v1:Value} {w1:World},(Instr.next (evT tmps x) false o.type).run P w=.ok v1 w1→(execOp (evT tmps) o).run P w=.ok (.value v1) w1:=fun hrun=>by
     unfold execOp;rw [hop]
     first | (simp only [Sem.run_bind,hrun,Result.andThen_ok,Sem.run_pure];done) | (show (Instr.next (evT tmps x) false o.type >>= fun v=>pure (Next.value v)).run P w=_;rw [Sem.run_bind,hrun];rfl)
    have pairR:∀ {a u u':Value},flat a=true→VR r u u'→VR r (.tuple #[.bool true,a,u]) (.tuple #[.bool true,a,u']):=fun ha hu=>by
     refine .tuple rfl fun i q q' e1 e2=>?_
     match i with
     | 0=>simp at e1 e2;subst e1 e2;exact Yf rfl
     | 1=>simp at e1 e2;subst e1 e2;exact Yf ha
     | 2=>simp at e1 e2;subst e1 e2;exact hu
     | i+3=>simp at e1
    rcases hk with ⟨sn,se,la,hb,hk⟩ | ⟨m,sn,se,la,es,c,hb,hm,hfl,hsc,hlb,hk0,hk1⟩ | ⟨m,sn,se,la,es,c,hb,hm,hfl,hsc,hlb,hk0,hk1⟩
    ·exact Wd hlo hF hn hr hS hput (Zr.refl hrel) (Xe (v:=.tuple #[.bool false]) rfl) (Steps.one (YA ho hwr (nodef hop (fun c e=>by cases e)) (ex (jy hrel hv hb _)))) (ih hk)
    ·rcases Zbz (lo:=lo) hrel hv hb hm (fun e he=>(hfl e he).1) hsc hlb o.type with ⟨h0,hrun⟩ | ⟨e,he,u,w1,hvu,hrun,hpost⟩
     ·exact Wd hlo hF hn hr hS hput (Zr.refl hrel) (Xe (v:=.tuple #[.bool false]) rfl) (Steps.one (YA ho hwr (nodef hop (fun c e=>by cases e)) (ex hrun))) (ih (hk0 h0))
     ·exact Wd hlo hF hn hr hS hput hpost (pairR (hfl e (mem_left he).1).2 hvu) (Steps.one (YA ho hwr (nodef hop (fun c e=>by cases e)) (ex hrun))) (ih (hk1 e he _ rfl))
    ·rcases Zc0 (lo:=lo) hrel hv hb hm (fun e he=>(hfl e he).1) hsc hlb o.type with ⟨h0,hrun⟩ | ⟨e,he,w1,hrun,hpost⟩
     ·exact Wd hlo hF hn hr hS hput (Zr.refl hrel) (Xe (v:=.tuple #[.bool false]) rfl) (Steps.one (YA ho hwr (nodef hop (fun c e=>by cases e)) (ex hrun))) (ih (hk0 h0))
     ·have hfe:=hfl e (mem_left he).1
      have hff:VA (.tuple #[.bool true,e.key,e.val])=true:=by
       show (flat (.bool true) && (flat e.key && (flat e.val && true)))=true
       rw [hfe.2.1,hfe.2.2]
       rfl
      exact Wd hlo hF hn hr hS hput hpost (Xe hff) (Steps.one (YA ho hwr (nodef hop (fun c e=>by cases e)) (ex hrun))) (ih (hk1 e he _ rfl))
   | ent x=>
    have hop:=Zb5 hri
    simp only [Xy] at hk
    split at hk<;>first | exact hk.elim | skip
    rename_i b hx
    have hv:=evR hF.T (ZH hS hx)
    obtain ⟨m,sn,se,la,es,e,hb,hm,he,hnd,hf1,hk⟩:=hk
    obtain ⟨u,hvu,hrun⟩:∃ u,VR r (.tuple #[e.key,e.val]) (.tuple #[e.key,u])∧(Instr.entry (evT tmps x)).run P w=.ok (.tuple #[e.key,u]) w:=by
     rcases hm with ⟨hm,hf2⟩ | hm
     ·exact ⟨e.val,Xe (v:=.tuple #[e.key,e.val]) (by simp [VA,hf1,hf2]),Zbh hrel hv hb hm he hnd⟩
     ·obtain ⟨u,q1,q2⟩:=ZaC hrel hv hb hm he hnd
      refine ⟨u,.tuple rfl fun i q q' e1 e2=>?_,q2⟩
      match i with
      | 0=>simp at e1 e2;subst e1 e2;exact Yf hf1
      | 1=>simp at e1 e2;subst e1 e2;exact q1
      | i+2=>simp at e1
    refine Wd hlo hF hn hr hS hput (Zr.refl hrel) hvu (Steps.one (YA ho hwr (nodef hop (fun c e=>by cases e)) ?_)) (ih hk)
    unfold execOp;rw [hop]
    first | (simp only [Sem.run_bind,hrun,Result.andThen_ok,Sem.run_pure];done) | (show (Instr.entry (evT tmps x) >>= fun v=>pure (Next.value v)).run P w=_;rw [Sem.run_bind,hrun];rfl)
   | mem o0=>
    simp only [Xy] at hk
    rcases hk with hk | hk
    ·exact gen hk
    ·have:=ZbZ hri
     subst this
     have hex:∀ {x:Op},(YZ o).op=x→o.op=x:=fun e=>e
     unfold Zd5 at hk
     split at hk<;>first | exact hk.elim | skip
     ·rename_i t hop
      have hop:=hex hop
      have hpost:Zr P lo base r H w (r.add H.next ⟨w.heap.size,0,none⟩) (H.new (.mq #[] 0)) { w with heap:=w.heap.push (.map #[] 0) }:=Zr.fresh hrel hlo rfl ⟨rfl,rfl,rfl⟩ ⟨#[],rfl,True.intro⟩
      refine Wd hlo hF hn hr hS hput hpost (.mapv (Ren.add_same r H.next _)) (Steps.one (YA ho hwr (nodef hop (fun c e=>by cases e)) ?_)) (ih hk)
      unfold execOp;rw [hop]
      rfl
     ·rename_i t x y hop
      have hop:=hex hop
      obtain ⟨α,dec,enc,kt,et,a,L,b,c,z,k1,k2,k3,k4,k5,k6,k7,hk⟩:=hk
      obtain ⟨v',hrun,hv⟩:=Za4 hrel k1 k2 k3 k4 k7 (evR hF.T (ZH hS k5)) (evR hF.T (ZH hS k6))
      refine Wd hlo hF hn hr hS hput (Zr.refl hrel) hv (Steps.one (YA ho hwr (nodef hop (fun c e=>by cases e)) ?_)) (ih hk)
      unfold execOp;rw [hop]
      first | (simp only [Sem.run_bind,hrun,Result.andThen_ok,Sem.run_pure];done) | (show (Instr.lookup t (evT tmps x) (evT tmps y) false >>= fun v=>pure (Next.value v)).run P w=_;rw [Sem.run_bind,hrun];rfl)
     ·rename_i t x y hop
      have hop:=hex hop
      obtain ⟨α,dec,enc,kt,et,a,L,b,c,z,k1,k2,k3,k4,k5,k6,k7,k8,hk⟩:=hk
      obtain ⟨v',w',hrun,hv,hpost⟩:=jO hrel k1 k2 k3 k4 k7 k8 (evR hF.T (ZH hS k5)) (evR hF.T (ZH hS k6))
      refine Wd hlo hF hn hr hS hput hpost hv (Steps.one (YA ho hwr (nodef hop (fun c e=>by cases e)) ?_)) (ih hk)
      unfold execOp;rw [hop]
      first | (simp only [Sem.run_bind,hrun,Result.andThen_ok,Sem.run_pure];done) | (show (Instr.mapEntry t (evT tmps x) (evT tmps y) >>= fun v=>pure (Next.value v)).run P w=_;rw [Sem.run_bind,hrun];rfl)
   | mst o0=>
    simp only [Xy] at hk
    rcases hk with hk | hk
    ·exact gen hk
    ·have:=Zbb hri
     subst this
     have hex:∀ {x:Op},(YZ o).op=x→o.op=x:=fun e=>e
     unfold Zey at hk
     split at hk<;>first | exact hk.elim | skip
     ·rename_i t x y u hop
      have hop:=hex hop
      obtain ⟨α,dec,enc,L,b,c,st,v,k1,k2,k3,k4,k5,k6,hk⟩:=hk
      obtain ⟨w',hrun,hpost⟩:=ZaL (tm:=t) hrel k4 k5 k6 (evR hF.T (ZH hS k1)) (evR hF.T (ZH hS k2)) (evR hF.T (ZH hS k3))
      refine Wd hlo hF hn hr hS hput hpost (Wi r) (Steps.one (Wt ho hwr (nodef hop (fun c e=>by cases e)) ?_)) (ih hk)
      unfold execOp;rw [hop]
      first | (simp only [Sem.run_bind,hrun,Result.andThen_ok,Sem.run_pure];done) | (show (Instr.entryStore t (evT tmps x) (evT tmps y) (evT tmps u) >>= fun _=>pure Next.none).run P w=_;rw [Sem.run_bind,hrun];rfl)
     ·rename_i t x y u hop
      have hop:=hex hop
      obtain ⟨α,dec,enc,kt,et,a,L,b,c,v,k1,k2,k3,k4,k5,k6,k7,hk⟩:=hk
      obtain ⟨w',hrun,hpost⟩:=Zdk hrel k1 k2 k6 k7 (evR hF.T (ZH hS k3)) (evR hF.T (ZH hS k4)) (evR hF.T (ZH hS k5))
      refine Wd hlo hF hn hr hS hput hpost (Wi r) (Steps.one (Wt ho hwr (nodef hop (fun c e=>by cases e)) ?_)) (ih hk)
      unfold execOp;rw [hop]
      first | (simp only [Sem.run_bind,hrun,Result.andThen_ok,Sem.run_pure];done) | (show (Instr.mapUpdate t (evT tmps x) (evT tmps y) (evT tmps u) >>= fun _=>pure Next.none).run P w=_;rw [Sem.run_bind,hrun];rfl)
   | _=>exact gen hk
theorem Qp (s:Snd P kn) {ops:Array Oper}:∀ (rest pre:List Oper) {rl:List RO} {S:Rg} {H:Hp} {K:Exit→Rg→Hp→Prop},ops.toList=pre ++ rest→YS P n ops.toList (fun _=>true) rest pre.length=some rl→Zp P kn lo n rl S H (fun S' H'=>K .normal S' H')→
  V3 P lo n rd ops (List.range' pre.length rest.length) S H K
 | [],pre,rl,S,H,K,he,hl,h=>by
  simp only [YS] at hl;cases hl
  exact V3.nil h
 | o :: rest,pre,rl,S,H,K,he,hl,h=>by
  simp only [YS] at hl
  split at hl<;>first | (cases hl;done) | skip
  rename_i ro hro
  split at hl<;>first | (cases hl;done) | skip
  rename_i l hrest
  cases hl
  simp only [Zp] at h
  have he2:ops.toList=(pre ++ [o]) ++ rest:=by rw [he];simp
  have ho:ops[pre.length]? = some o:=by
   have:ops.toList[pre.length]? = some o:=by rw [he];simp
   simpa using this
  have ih:=fun {S':Rg} {H':Hp} (h':Zp P kn lo n l S' H' fun S' H'=>K .normal S' H')=>Qp s rest (pre ++ [o]) (rl:=l) he2 (by simpa using hrest) h'
  simp only [List.length_append,List.length_singleton] at ih
  exact Kg s ho hro h ih
theorem JC {P:Program} {n:Nat} {ops:List Oper} {ord:Nat→Bool}:∀ (l:List Oper) (k:Nat) {rl:List RO},YS P n ops ord l k=some rl→rl.length=l.length∧∀ i o,l[i]? = some o→∃ ro,rl[i]? = some ro∧WM P n ops (ord (k+i)) o=some ro
 | [],_,rl,h=>by simp only [YS] at h;cases h;exact ⟨rfl,fun i o e=>by simp at e⟩
 | x :: l,k,rl,h=>by
  simp only [YS] at h
  split at h<;>first | (cases h;done) | skip
  rename_i ro hro
  split at h<;>first | (cases h;done) | skip
  rename_i q hq
  cases h
  obtain ⟨a,b⟩:=JC l (k+1) hq
  refine ⟨by simp [a],fun i o e=>?_⟩
  cases i with
  | zero=>simp at e;subst e;exact ⟨ro,rfl,hro⟩
  | succ i=>
   obtain ⟨r',c,d⟩:=b i o (by simpa using e)
   exact ⟨r',by simpa using c,by rw [show k+(i+1)=k+1+i by omega];exact d⟩
theorem zL {P:Program} {kn:Kn} {lo n:Nat} {ops:List RO} {V:Nat→Value} {HP:(Nat→Bool)→Hp→Prop} {S:Rg} {ms:List Nat}:∀ (l:List RO) (k:Nat),ZcU P kn lo n ops V HP S ms l k→∀ i o,l[i]? = some o→Zd1 P kn lo n ops V HP S (k+i) (ms.getD (ops.length - 1 - (k+i)) 0) o
 | [],_,_,i,o,e=>by simp at e
 | x :: l,k,h,i,o,e=>by
  cases i with
  | zero=>simp at e;subst e;exact h.1
  | succ i=>rw [show k+(i+1)=k+1+i by omega];exact zL l (k+1) h.2 i o (by simpa using e)
theorem qs {V:Nat→Value} {S':Rg}:∀ (l:List RO) (k:Nat) (S:Rg),(l.filterMap (·.dst)).Nodup→(∀ i o d,l[i]? = some o→o.dst=some d→lk S' d=some (V (k+i)))→(∀ j v,lk S j=some v→(∀ o∈l,o.dst≠some j)→lk S' j=some v)→∀ j v,lk (Zbv V l k S) j=some v→lk S' j=some v
 | [],k,S,_,_,h2,j,v,h=>h2 j v h (fun o ho=>by cases ho)
 | o :: l,k,S,hn,h1,h2,j,v,h=>by
  simp only [Zbv] at h
  have hn':(l.filterMap (·.dst)).Nodup:=by
   rw [List.filterMap_cons] at hn
   split at hn
   ·exact hn
   ·exact (List.nodup_cons.1 hn).2
  refine qs l (k+1) _ hn' (fun i o' d e1 e2=>by rw [show k+1+i=k+(i+1) by omega];exact h1 (i+1) o' d (by simpa using e1) e2) (fun j v e q=>?_) j v h
  cases hd:o.dst with
  | none=>
   rw [hd] at e
   exact h2 j v e fun o' ho'=>by
    rcases List.mem_cons.1 ho' with rfl | ho'
    ·rw [hd];simp
    ·exact q o' ho'
  | some d=>
   rw [hd] at e
   simp only [Zv,lk,ZA] at e
   by_cases hdj:d=j
   ·subst hdj
    simp only [decide_true,cond_true,Option.some.injEq] at e
    subst e
    exact h1 0 o d rfl hd
   ·rw [decide_eq_false hdj] at e
    exact h2 j v e fun o' ho'=>by
     rcases List.mem_cons.1 ho' with rfl | ho'
     ·rw [hd];simpa using hdj
     ·exact q o' ho'
theorem VU {l:List RO} (h:(l.filterMap (·.dst)).Nodup):∀ (i j:Nat) oi oj d,l[i]? = some oi→l[j]? = some oj→oi.dst=some d→oj.dst=some d→i=j:=by
 induction l with
 | nil=>intro i j oi oj d e;simp at e
 | cons a l ih=>
  rw [List.filterMap_cons] at h
  have hmem:∀ (j:Nat) oj d,l[j]? = some oj→oj.dst=some d→d∈l.filterMap (·.dst):=fun j oj d e hd=>List.mem_filterMap.2 ⟨oj,List.mem_of_getElem? e,hd⟩
  intro i j oi oj d ei ej hi hj
  cases i with
  | zero=>
   cases j with
   | zero=>rfl
   | succ j=>
    simp at ei ej;subst ei
    rw [hi] at h
    exact absurd (hmem j oj d ej hj) (List.nodup_cons.1 h).1
  | succ i=>
   cases j with
   | zero=>
    simp at ei ej;subst ej
    rw [hj] at h
    exact absurd (hmem i oi d ei hi) (List.nodup_cons.1 h).1
   | succ j=>
    simp at ei ej
    have h':(l.filterMap (·.dst)).Nodup:=by
     split at h
     ·exact h
     ·exact (List.nodup_cons.1 h).2
    exact congrArg (· + 1) (ih h' i j oi oj d ei ej hi hj)
theorem jk (s:Snd P kn) {id:Nat} {ops:Array Oper} {ord:Nat→Bool} {rl:List RO} {S:Rg} {H:Hp} {K:Exit→Rg→Hp→Prop} (hreg:Qk ops=true) (hl:YS P n ops.toList ord ops.toList 0=some rl) (h:wDI P kn lo n (X8 ops.toList 0 []) rl S H fun S' H'=>K .normal S' H') :
  Yj P lo n rd (.region id ops true) S H K:=by
 obtain ⟨V,HP,hnd,h0,hops,hend⟩:=h
 obtain ⟨hlen,hget⟩:=JC ops.toList 0 hl
 have hlen:rl.length=ops.size:=by simpa using hlen
 have hR:=Ub hreg
 have key:∀ (fuel t:Nat) (L:Array Bool) (S':Rg) (H':Hp),L.size=ops.size→todo ops L≤fuel→(∀ (i:Nat) o,ops[i]? = some o→ZY L i→∀ e∈o.after,Region.binds .any e=true→ZY L e.on)→HP (fun i=>L.getD i false) H'→KD rl V (fun i=>L.getD i false) S S'→
   V3 P lo n rd ops (Region.linearise.go .any ops fuel t L []) S' H' K:=by
  have fin:∀ (L:Array Bool) (S':Rg) (H':Hp),(∀ i,i < ops.size→ZY L i)→HP (fun i=>L.getD i false) H'→KD rl V (fun i=>L.getD i false) S S'→V3 P lo n rd ops [] S' H' K:=by
   intro L S' H' hall hHP hKD
   have hk:=hend _ H' (fun i hi=>hall i (by rw [← hlen];exact hi)) hHP
   have hsub:=qs (V:=V) (S':=S') rl 0 S hnd (fun i o d e1 e2=>by
    have hi:i < rl.length:=by
     rcases Nat.lt_or_ge i rl.length with q | q
     ·exact q
     ·rw [List.getElem?_eq_none q] at e1;cases e1
    rw [Nat.zero_add]
    exact hKD.1 i o d e1 e2 (hall i (by rw [← hlen];exact hi))) hKD.2
   exact fun base r w A tmps ds rdv cs k hlo hrel hF hn hr hS=>V3.nil hk base r w A tmps ds rdv cs k hlo hrel hF hn hr fun j v e=>hS j v (hsub j v e)
  intro fuel
  induction fuel with
  | zero=>
   intro t L S' H' hL hf hcl hHP hKD
   simp only [Region.linearise.go,List.reverse_nil]
   exact fin L S' H' (Qg (by omega)) hHP hKD
  | succ fuel ih=>
   intro t L S' H' hL hf hcl hHP hKD
   have hgo:Region.linearise.go .any ops (fuel+1) t L []=match (Region.ready .any ops L)[t % (Region.ready .any ops L).length]? with
    | some i=>Region.linearise.go .any ops fuel (t / (Region.ready .any ops L).length) (L.setIfInBounds i true) [i]
    | none=>[]:=by
    simp only [Region.linearise.go]
    rfl
   cases hi:(Region.ready .any ops L)[t % (Region.ready .any ops L).length]? with
   | none=>
    have hnil:Region.ready .any ops L=[]:=by
     cases hr:Region.ready .any ops L with
     | nil=>rfl
     | cons x xs=>
      rw [hr] at hi
      have hlt:t % (x :: xs).length < (x :: xs).length:=Nat.mod_lt _ (by simp)
      rw [List.getElem?_eq_getElem hlt] at hi
      cases hi
    rw [hgo,hi]
    exact fin L S' H' (Uc hR hL hnil) hHP hKD
   | some i=>
    have hmem:=List.mem_of_getElem? hi
    obtain ⟨hlt,hun,o,ho,hr⟩:=VQ.1 hmem
    have hLi:i < L.size:=by rw [hL];exact hlt
    have hunD:L.getD i false=false:=by
     have:L[i]? = some (L[i]'hLi):=Array.getElem?_eq_getElem hLi
     simp only [Array.getD_eq_getD_getElem?,this,Option.getD_some] at hun ⊢
     exact hun
    have hun':¬ ZY L i:=by unfold ZY;rw [hunD];simp
    rw [hgo,hi]
    simp only
    rw [linearise_go_acc,List.reverse_singleton,List.singleton_append]
    obtain ⟨ro,hrl,hro⟩:=hget i o (by simpa using ho)
    have hanc:∀ j,Anc ops i j→ZY L j:=by
     have cl:∀ {a b},Anc ops a b→ZY L a→ZY L b:=by
      intro a b ha
      induction ha with
      | edge ho he hb=>exact fun hj=>hcl _ _ ho hj _ he hb
      | more ho he hb _ ih=>exact fun hj=>ih (hcl _ _ ho hj _ he hb)
     intro j ha
     cases ha with
     | edge ho' he hb=>rw [ho] at ho';cases ho';exact hr _ he hb
     | more ho' he hb ha=>rw [ho] at ho';cases ho';exact cl ha (hr _ he hb)
    have hm:=Uw ops
    have h1:=zL rl 0 hops i ro hrl
    rw [Nat.zero_add,hlen] at h1
    have hmask:∀ j,((X8 ops.toList 0 []).getD (ops.size - 1 - i) 0).testBit j=true→L.getD j false=true:=by
     intro j hj
     have hlt':ops.size - 1 - i < (X8 ops.toList 0 []).length:=by rw [hm.1];omega
     have hg:=List.getElem?_eq_getElem hlt'
     rw [List.getD_eq_getElem?_getD,hg,Option.getD_some] at hj
     exact hanc j (hm.2 i _ hlt hg j hj)
    refine Kg s ho hro (h1 _ S' H' hunD hmask hHP hKD) fun {S2 H2} q=>?_
    obtain ⟨rfl,hHP2⟩:=q
    have hset:(fun j=>(L.setIfInBounds i true).getD j false)=U0 (fun j=>L.getD j false) i:=by
     funext j
     unfold U0
     by_cases e:j=i
     ·subst e
      rw [Nat.beq_refl,cond_true]
      exact (Yg hLi).2 (.inl rfl)
     ·have:Nat.beq j i=false:=by
       cases hb:Nat.beq j i with
       | false=>rfl
       | true=>exact absurd (Nat.eq_of_beq_eq_true hb) e
      rw [this,cond_false]
      simp only [Array.getD_eq_getD_getElem?,Array.getElem?_setIfInBounds]
      rw [if_neg (fun q=>e q.symm)]
    refine ih _ _ _ _ (by simp [hL]) (by have:=Jk hLi hlt hun';omega) ?_ (by rw [hset];exact hHP2) ?_
    ·intro j oj hoj hdj e he hb
     rcases (Yg hLi).1 hdj with rfl | hdj
     ·rw [ho] at hoj;cases hoj
      exact (Yg hLi).2 (.inr (hr _ he hb))
     ·exact (Yg hLi).2 (.inr (hcl _ _ hoj hdj _ he hb))
    ·rw [hset]
     refine ⟨fun j oj d e1 e2 e3=>?_,fun j v e q=>?_⟩
     ·by_cases e:j=i
      ·subst e
       rw [hrl] at e1;cases e1
       rw [e2]
       simp only [Zv,lk,Nat.beq_refl,cond_true]
      ·have hd:L.getD j false=true:=by
        unfold U0 at e3
        have:Nat.beq j i=false:=by
         cases hb:Nat.beq j i with
         | false=>rfl
         | true=>exact absurd (Nat.eq_of_beq_eq_true hb) e
        rw [this,cond_false] at e3
        exact e3
       cases hod:ro.dst with
       | none=>exact hKD.1 j oj d e1 e2 hd
       | some d'=>
        have hne:d'≠d:=fun q=>e (VU hnd j i oj ro d e1 hrl e2 (by rw [hod,q]))
        have hb:Nat.beq d' d=false:=by
         cases hb:Nat.beq d' d with
         | false=>rfl
         | true=>exact absurd (Nat.eq_of_beq_eq_true hb) hne
        simp only [Zv,lk,hb,cond_false]
        exact hKD.1 j oj d e1 e2 hd
     ·cases hod:ro.dst with
      | none=>exact hKD.2 j v e q
      | some d'=>
       have hne:d'≠j:=fun x=>q ro (List.mem_of_getElem? hrl) (by rw [hod,x])
       have hb:Nat.beq d' j=false:=by
        cases hb:Nat.beq d' j with
        | false=>rfl
        | true=>exact absurd (Nat.eq_of_beq_eq_true hb) hne
       simp only [Zv,lk,hb,cond_false]
       exact hKD.2 j v e q
 intro base r w A tmps ds rdv cs k hlo hrel hF hn hr hS
 have hst:=key ops.size (w.tape w.drawn (.order A.fn id)) (Array.replicate ops.size false) S H (by simp) (by
  unfold todo;have:=List.countP_le_length (p:=fun i=>!(Array.replicate ops.size false).getD i false) (l:=List.range ops.size);simpa using this)
  (fun i o ho hd=>by unfold ZY at hd;simp [Array.getD_eq_getD_getElem?,Array.getElem?_replicate] at hd;split at hd<;>simp at hd)
  (by
   have:(fun i=>(Array.replicate ops.size false).getD i false)=fun _=>false:=by
    funext i
    simp only [Array.getD_eq_getD_getElem?,Array.getElem?_replicate]
    split<;>rfl
   rw [this];exact h0)
  ⟨fun i o d _ _ hd=>by simp [Array.getD_eq_getD_getElem?,Array.getElem?_replicate] at hd;split at hd<;>simp at hd,fun j v e _=>e⟩
 have hrel':Rel P r base H { w with drawn:=w.drawn+1 }:=⟨hrel.dom,hrel.cont,hrel.inj,hrel.top⟩
 have hp0:Zr P lo base r H w r H { w with drawn:=w.drawn+1 }:=⟨.refl r,hrel',Nat.le_refl _,fun _ _ e=>.inl e,fun k hk q=>rfl,fun _ _=>rfl,⟨rfl,rfl,rfl,Nat.le_refl _⟩⟩
 obtain ⟨e,S1,H1,T1,a,b,q⟩:=hst base r { w with drawn:=w.drawn+1 } A tmps ds rdv cs k hlo hrel' hF hn hr hS
 refine ⟨e,S1,H1,T1,a,b,ZN.of_steps (Steps.one KH) ?_⟩
 simp only [Region.schedule,s.hm,Bool.true_or,if_true]
 exact ZN.after hlo hp0 (QA.refl A) q
theorem Xh (s:Snd P kn):∀ (c:Code) {rc:RC} {S:Rg} {H:Hp} {K:Exit→Rg→Hp→Prop},low P n c=some rc→wCM P kn lo n rd rc S H K→Yj P lo n rd c S H K
 | .skip,rc,S,H,K,hl,h=>by simp only [low] at hl;cases hl;exact Yj.skip h
 | .label l,rc,S,H,K,hl,h=>by simp only [low] at hl;cases hl;exact Yj.label h
 | .exit id,rc,S,H,K,hl,h=>by simp only [low] at hl;cases hl;exact Yj.exit h
 | .ret,rc,S,H,K,hl,h=>by simp only [low] at hl;cases hl;exact Yj.ret h
 | .seq x y,rc,S,H,K,hl,h=>by
  simp only [low] at hl
  split at hl<;>first | (cases hl;done) | skip
  rename_i a ha
  split at hl<;>first | (cases hl;done) | skip
  rename_i b hb
  cases hl
  simp only [wCM] at h
  refine Yj.seq ((Xh s x ha h).mono fun e S' H' q=>?_)
  cases e with
  | normal=>exact Xh s y hb q
  | _=>exact q
 | .cond o x y,rc,S,H,K,hl,h=>by
  simp only [low] at hl
  split at hl<;>first | (cases hl;done) | skip
  rename_i a ha
  split at hl<;>first | (cases hl;done) | skip
  rename_i b hb
  cases hl
  simp only [wCM] at h
  split at h<;>first | exact h.elim | skip
  rename_i t ht
  cases t with
  | true=>exact Yj.cond ht (Xh s x ha (h.1 rfl))
  | false=>exact Yj.cond ht (Xh s y hb (h.2 rfl))
 | .block id b,rc,S,H,K,hl,h=>by
  simp only [low] at hl
  split at hl<;>first | (cases hl;done) | skip
  rename_i a ha
  cases hl
  simp only [wCM] at h
  exact Yj.block (Xh s b ha h)
 | .region id ops draw,rc,S,H,K,hl,h=>by
  cases draw with
  | true=>
   have hl0:=hl
   simp only [low] at hl
   simp only [cond_true] at hl
   obtain ⟨hreg,hl⟩:=Zc hl
   split at hl<;>first | (cases hl;done) | skip
   rename_i l hro
   cases hl
   simp only [wCM] at h
   rcases h with h | h | h
   ·exact Yj.of s (Yy rd (.region id ops true) hl0 (by simp only [wC];exact .inl h))
   ·exact Yj.of s (Yy rd (.region id ops true) hl0 (by simp only [wC];exact .inr h))
   ·exact jk s hreg hro h
  | false=>
   simp only [low] at hl
   simp only [cond_false] at hl
   split at hl<;>first | (cases hl;done) | skip
   rename_i l hro
   cases hl
   simp only [wCM] at h
   refine Yj.region ?_
   have:=Qp (rd:=rd) s (ops:=ops) ops.toList [] (by simp) hro h
   simpa [List.range_eq_range'] using this
 | .loop b,rc,S,H,K,hl,h=>by simp only [low] at hl;cases hl;exact h
 | .rangeFunc fo ps a b,rc,S,H,K,hl,h=>by simp only [low] at hl;cases hl;exact h
 | .scope b,rc,S,H,K,hl,h=>by
  simp only [low] at hl
  split at hl<;>first | (cases hl;done) | skip
  rename_i a ha
  cases hl
  simp only [wCM] at h
  exact Yj.scope (Xh s b ha h)
 | .goto l,rc,S,H,K,hl,h=>by simp only [low] at hl;cases hl
 | .refuse w,rc,S,H,K,hl,h=>by simp only [low] at hl;cases hl
theorem VT {α:Type} {c b:Code} {fn:Func} {n:Nat} {R:RC} {rd:Bool} {S:Rg} {H:Hp} {K:Exit→Rg→Hp→Prop} (s:Snd P kn) (hc:c=.loop b) (hn:fn.ntmps=n) (hL:low P fn.ntmps b=some R) (SS:α→Rg) (I:Nat→α→Hp→Prop)
  (k:Nat) (a:α) (hI:I k a H) (hS:JM (SS a) S)
  (hb:∀ k a H,I k a H→wCM P kn lo n rd R (SS a) H fun e S' H'=>match e with | .normal=>∃ k' a',k' < k∧I k' a' H'∧JM (SS a') S' | e=>K e S' H') :
  Yj P lo n rd c S H K:=by
 subst hc hn
 refine Yj.loop (fun k S H=>∃ a,I k a H∧JM (SS a) S) (fun k S H q=>?_) k S H ⟨a,hI,hS⟩
 obtain ⟨a,q,hs⟩:=q
 refine Yj.forget ((Xh s _ hL (hb k a H q)).mono fun e S' H' r=>?_) hs.get
 cases e with
 | normal=>obtain ⟨k',a',x,y,z⟩:=r;exact ⟨k',x,a',y,z⟩
 | _=>exact r
def FnM (P:Program) (lo:Nat) (f:FuncId) (args:List Value) (H:Hp) (Q:Value→Hp→Prop):Prop:=
 (∃ fn c,P.funcs[f]? = some fn∧fn.body=some c)∧∀ (r:Ren) (base:Nat) (w:World) (args':Array Value),lo≤H.next→Rel P r base H w→LR r args args'.toList→
  ∀ c rest,∃ v H' r' w',Q v H'∧Zr P lo base r H w r' H' w'∧∃ v',VR r' v v'∧Steps P (lone (Frame.enter P f args' .normal) (c :: rest) w) (lone (c.finish v') rest w')
theorem yw {f:FuncId} {fn:Func} {c:Code} {args:List Value} {H:Hp} {Q:Value→Hp→Prop} (hf:P.funcs[f]? = some fn) (hc:fn.body=some c) (hl:args.length≤fn.ntmps)
  (h:Yj P lo fn.ntmps false c (VV args 0) H fun e S' H'=>(match e with | .normal=>True | .ret=>True | _=>False)∧∃ vs,Ww P S' H' fn.results.toList=some vs∧Q (Wz vs) H'):FnM P lo f args H Q:=by
 refine ⟨⟨fn,c,hf,hc⟩,fun r base w args' hlo hrel hargs c0 rest=>?_⟩
 have hent:Frame.enter P f args' .normal=mkF f (args' ++ Array.replicate (fn.ntmps - args'.size) undef) [.code c] [] .normal none:=by
  simp [Frame.enter,mkF,hf,hc]
 have hT:=V5 hargs fn.ntmps hl
 obtain ⟨e,S1,H1,T1,⟨he,vs,hres,hq⟩,hk,r1,w1,tm,ds,pc1,hpost,hF,hS,hp1,hArr,_⟩:=h base r w { fn:=f,n:=fn.ntmps,T:=Un args 0 .nil,defers:=[],round:=none } _ [] none (c0 :: rest) [] hlo hrel ⟨hT,.nil,rfl⟩ rfl rfl (Vc args)
 simp only at hArr
 rw [← hent] at hArr
 have hu:Z9 P lo (fun _ _ _ _=>none) fn 1 { fn:=f,n:=fn.ntmps,T:=T1,defers:=[],round:=none } H1 none=some (.ret (Wz vs),H1):=by
  rw [Z9]
  simp only [V6 (A:={ fn:=f,n:=fn.ntmps,T:=T1,defers:=[],round:=none }) hk hres]
  match vs with
  | []=>rfl
  | [v]=>rfl
  | v :: u :: r=>rfl
 have hD:yq P lo (fun _ _ _ _=>none):=fun f cap args H p e H' p' h=>by cases h
 have fin:∀ (todo:List Item),Steps P (lone (Frame.enter P f args' .normal) (c0 :: rest) w) (lone { mkF f tm todo ds .normal none with mode:=.returning } (c0 :: rest) w1)→∃ v H' r' w',Q v H'∧Zr P lo base r H w r' H' w'∧∃ v',VR r' v v'∧Steps P (lone (Frame.enter P f args' .normal) (c0 :: rest) w) (lone (c0.finish v') rest w'):=by
  intro todo hs
  obtain ⟨r',w',fr',q1,q2,q3,q4,q5⟩:=Vy hD hf 1 r1 w1 _ H1 ds none none _ H1 hu (Nat.le_trans hlo hpost.next) hpost.rel hF.D rfl { mkF f tm todo ds .normal none with mode:=.returning } (c0 :: rest) hF.T rfl rfl rfl
  obtain ⟨v',hv,⟨a,b,d⟩⟩:=q5
  exact ⟨Wz vs,H1,r',w',hq,hpost.trans hlo q1,v',hv,(hs.trans q4).trans (Steps.one (step_leave_returned ⟨a,b,by rw [q3];rfl,d⟩))⟩
 cases e with
 | normal=>exact fin [] (hArr.trans (Steps.one yp))
 | ret=>
  obtain ⟨kx,hs⟩:=hArr
  exact fin _ (hs.trans (Steps.one yS))
 | _=>exact he.elim
theorem WA {f:FuncId} {fn:Func} {R:RC} {n:Nat} {rs:List ResultVar} {args:List Value} {H:Hp} {Q:Value→Hp→Prop} (s:Snd P kn) (hf:P.funcs[f]? = some fn) (hb:fn.body=some (at_ fn [])) (hn:fn.ntmps=n) (hz:fn.results.toList=rs) (hL:low P fn.ntmps (at_ fn [])=some R) (hl:args.length≤n)
  (h:wCM P kn lo n false R (VV args 0) H fun e S' H'=>(match e with | .normal=>True | .ret=>True | _=>False)∧∃ vs,Ww P S' H' rs=some vs∧Q (Wz vs) H'):FnM P lo f args H Q:=by
 subst hn hz
 exact yw hf hb hl (Xh s _ hL h)
theorem FnM.of (s:Snd P kn) {f:FuncId} {args:List Value} {H:Hp} {v:Value} {H':Hp} (hb:∃ fn c,P.funcs[f]? = some fn∧fn.body=some c) (h:FnX P kn lo f args H v H'):FnM P lo f args H fun u H1=>u=v∧H1=H':=by
 obtain ⟨N,h⟩:=h
 refine ⟨hb,fun r base w args' hlo hrel hargs c0 rest=>?_⟩
 obtain ⟨_,hback⟩:=KS (VK s.hm s.hN s.hk N N).1 (WY P kn N N).2 s.hm s.hN ((VK s.hm s.hN s.hk N N).2 lo) (h N N (Nat.le_refl _) (Nat.le_refl _)) hlo hrel hargs
 obtain ⟨r',w',hp,v',hv,hs⟩:=hback c0 rest
 exact ⟨v,H',r',w',⟨rfl,rfl⟩,hp,v',hv,hs⟩
theorem FnM.mono {f:FuncId} {args:List Value} {H:Hp} {Q Q':Value→Hp→Prop} (h:FnM P lo f args H Q) (hq:∀ v H',Q v H'→Q' v H'):FnM P lo f args H Q':=
 ⟨h.1,fun r base w args' hlo hrel hargs c0 rest=>by
  obtain ⟨v,H',r',w',q,x⟩:=h.2 r base w args' hlo hrel hargs c0 rest
  exact ⟨v,H',r',w',hq _ _ q,x⟩⟩
theorem Ua (hN:NoCount P) {f:FuncId} {cap:Array Value} {args:List Value} {H:Hp} {Q:Value→Hp→Prop} (h:FnM P lo f (args ++ cap.toList) H Q):XV P lo (.fn (.func f) cap) args H Q:=by
 obtain ⟨⟨fn,c,h1,h2⟩,h⟩:=h
 intro r base w t' args' hlo hrel ht ha
 obtain ⟨f',cap',rfl,hf,hcap⟩:=ht
 cases hf
 exact ⟨.enter f (args' ++ cap'),_,Wu hN h1 h2 _ _,rfl,h r base w (args' ++ cap') hlo hrel (by simpa using LR.append ha hcap)⟩
theorem Y7 (hN:NoCount P) {f:FuncId} {args:List Value} {a:Value} {H:Hp} {Q:Value→Hp→Prop} (h:FnM P lo f (a :: args) H Q):XV P lo (.fn (.func f) #[]) (a :: args) H Q:=
 Ua hN (by simpa using h)
theorem Zaz.of {f:FuncId} {args:List Value} {H:Hp} {v:Value} {H':Hp} (h:FnM P lo f args H fun u H1=>u=v∧H1=H'):Zaz P lo f args H v H':=by
 refine ⟨h.1,fun r base w args' hrel hargs hlo c0 rest=>?_⟩
 obtain ⟨u,H1,r',w',⟨rfl,rfl⟩,hp,x⟩:=h.2 r base w args' hlo hrel hargs c0 rest
 exact ⟨r',w',hp,x⟩
end
end
end Go.Ax

/-! Steps of plain regions whose calls come to several ends (written by program,out of AxN). -/
namespace Go.Ax
open Go Go.RowKit
section
variable {P:Program} {kn:Kn} {lo n:Nat} {r:List RO} {S:Rg} {H:Hp} {K:Rg→Hp→Prop} {d:Option Nat} {x y:Operand} {rd:Bool} {a b:Int}
theorem Zm {ops:List RO} {c:RC} {K:Exit→Rg→Hp→Prop} (h:Zp P kn lo n ops S H fun S' H'=>wCM P kn lo n rd c S' H' K):wCM P kn lo n rd (.seq (.reg ops) c) S H K:=h
theorem Zdm {ops:List RO} {K:Exit→Rg→Hp→Prop} (h:Zp P kn lo n ops S H fun S' H'=>K .normal S' H'):wCM P kn lo n rd (.reg ops) S H K:=h
theorem Yn {K:Exit→Rg→Hp→Prop} (h:K .normal S H):wCM P kn lo n rd .skip S H K:=h
theorem Zfv {id:Nat} {ops:List RO} {K:Exit→Rg→Hp→Prop} (h:Zp P kn lo n ops S H fun S' H'=>K .normal S' H'):wCM P kn lo n rd (.block id (.reg ops)) S H K:=h
theorem ZeJ {id:Nat} {ops:List RO} {c:RC} {K:Exit→Rg→Hp→Prop} (h:Zp P kn lo n ops S H fun S' H'=>wCM P kn lo n rd c S' H' K):wCM P kn lo n rd (.seq (.block id (.reg ops)) c) S H K:=h
theorem W5 {id:Nat} {K:Exit→Rg→Hp→Prop} (h:K (.exit id) S H):wCM P kn lo n rd (.exit id) S H K:=h
theorem Zdn {b:RC} {K:Exit→Rg→Hp→Prop} (h:wCM P kn lo n rd b S H K):wCM P kn lo n rd (.scp b) S H K:=h
theorem ZbD {b c:RC} {K:Exit→Rg→Hp→Prop} (h:wCM P kn lo n rd b S H fun e S' H'=>match e with | .normal=>wCM P kn lo n rd c S' H' K | e=>K e S' H'):wCM P kn lo n rd (.seq (.scp b) c) S H K:=h
theorem Zi (h:K S H):Zp P kn lo n [] S H K:=h
theorem K7 {o:Operand} {x y:RC} {t:Bool} {K:Exit→Rg→Hp→Prop} (ho:evS S o=some (.bool t)) (h1:t=true→wCM P kn lo n rd x S H K) (h2:t=false→wCM P kn lo n rd y S H K):wCM P kn lo n rd (.cond o x y) S H K:=by
 simp only [wCM,ho];exact ⟨h1,h2⟩
theorem XM {c:Call} {t:Target} {vs:List Value} {ord:Bool} {Q:Value→Hp→Prop} (ht:Xp S c=some (t,vs)) (hc:XV P lo t vs H Q) (h:∀ v H',Q v H'→Zp P kn lo n r (Zv S d v) H' K):Zp P kn lo n (⟨d,none,.call c ord⟩ :: r) S H K:=by
 simp only [Zp,XF,Xy,ht];exact ⟨Q,.inl hc,h⟩
theorem Z4 (s:Snd P kn) {c:Call} {t:Target} {vs:List Value} {ord:Bool} {v:Value} {H':Hp} (ht:Xp S c=some (t,vs)) (hc:ZJ P kn lo t vs H v H') (h:Zp P kn lo n r (Zv S d v) H' K):Zp P kn lo n (⟨d,none,.call c ord⟩ :: r) S H K:=
 XM ht (XV.of s hc) fun v1 H1 ⟨e1,e2⟩=>by subst e1 e2;exact h
theorem Vu {e:TypeId} {v:Value} (hx:evS S x=some v) (h:∀ H1,Zf H H1 []→H1.next=H.next+1→Cl H1 H.next v.cells.toList→Zp P kn lo n r (Zv S d (.pointer (some ⟨H.next,0,none⟩))) H1 K):Zp P kn lo n (⟨d,none,.box e x⟩ :: r) S H K:=by
 simp only [Zp,XF,Xy,wRI,hx]
 intro H1 hH1
 obtain ⟨k1,n1,c1⟩:=ZM hH1
 exact h H1 k1 n1 c1
theorem Zd {v:Value} (hx:evS S x=some v) (h:Zp P kn lo n r (Zv S d v) H K):Zp P kn lo n (⟨d,none,.mov x⟩ :: r) S H K:=by
 show match evS S x with | some v=>Zp P kn lo n r (Zv S d v) H K | none=>False
 rw [hx];exact h
theorem YB {b o off:Nat} (hx:evS S x=some (.pointer (some ⟨b,o,none⟩))) (h:Zp P kn lo n r (Zv S d (.pointer (some ⟨b,o+off,none⟩))) H K):Zp P kn lo n (⟨d,none,.addo x off⟩ :: r) S H K:=by
 simp only [Zp,XF,Xy,wRI,hx];exact h
theorem YE {b o m:Nat} {cs:List Value} {v:Value} (hx:evS S x=some (.pointer (some ⟨b,o,none⟩))) (hc:Rd H b cs) (hv:cs[o]? = some v) (h:Zp P kn lo n r (Zv S d v) H K):Zp P kn lo n (⟨d,none,.ld x m⟩ :: r) S H K:=by
 simp only [Zp,XF,Xy,wRI,hx];exact ⟨cs,v,hc.of,hv,h⟩
theorem Zl {o:Oper} {v:Value} (hd:We S o.op.operands.toList=true) (hv:Zo P (frS n S) o=some v) (h:Zp P kn lo n r (Zv S d v) H K):Zp P kn lo n (⟨d,none,.pur o⟩ :: r) S H K:=⟨hd,v,hv,h⟩
theorem U5 {b o m:Nat} {cs:List Value} {v:Value} (hx:evS S x=some (.pointer (some ⟨b,o,none⟩))) (hy:evS S y=some v) (hc:Cl H b cs) (hl:lo≤b) (hm:v.cells.toList.length=m) (h1:v.cells.toList.all one=true) (ho:o+m≤cs.length)
  (h:∀ H1,Zf H H1 [b]→H1.next=H.next→Cl H1 b (Yk cs o v.cells.toList)→Zp P kn lo n r (Zv S d undef) H1 K):Zp P kn lo n (⟨d,none,.sta x y m⟩ :: r) S H K:=by
 simp only [Zp,XF,Xy,wRI,hx,hy]
 obtain ⟨_,e,l,g⟩:=id hc
 exact ⟨cs,e,l,g,hl,hm,h1,ho,fun H1 hH1=>by obtain ⟨a,b,c⟩:=WP hc hH1;exact h H1 a b c⟩
theorem XG {b o m:Nat} {cs q:List Value} (hx:evS S x=some (.pointer (some ⟨b,o,none⟩))) (hc:Rd H b cs) (hv:row m cs o=some q) (h:Zp P kn lo n r (Zv S d (.agg q.toArray)) H K):Zp P kn lo n (⟨d,none,.lda x m⟩ :: r) S H K:=by
 simp only [Zp,XF,Xy,wRI,hx];exact ⟨cs,q,hc.of,hv,h⟩
theorem W0 {a:Option Addr} {m c:Nat} (hx:evS S x=some (.slice a m c)) (h:Zp P kn lo n r (Zv S d (.int .i64 (m:Int))) H K):Zp P kn lo n (⟨d,none,.len x⟩ :: r) S H K:=by
 simp only [Zp,XF,Xy,wRI,hx];exact h
theorem Jg {a b:Int} (hx:evS S x=some (.int .i64 a)) (hy:evS S y=some (.int .i64 b)) (h2:InR (a+b)) (h:Zp P kn lo n r (Zv S d (.int .i64 (a+b))) H K):Zp P kn lo n (⟨d,none,.ari .add x y⟩ :: r) S H K:=by
 simp only [Zp,XF,Xy,wRI,hx,hy];exact ⟨h2,h⟩
theorem zb {b o len cap size k:Nat} {kd:IntKind} {j:Int} (hx:evS S x=some (.slice (some ⟨b,o,none⟩) len cap)) (hy:evS S y=some (.int kd j)) (hj:j=(k:Int)) (hk:k < len) (h:Zp P kn lo n r (Zv S d (.pointer (some ⟨b,o+k * size,none⟩))) H K):Zp P kn lo n (⟨d,none,.idx x y size⟩ :: r) S H K:=by
 simp only [Zp,XF,Xy,wRI,hx,hy];exact ⟨k,hj,hk,h⟩
theorem Zc5 {a b:Int} (hx:evS S x=some (.int .i64 a)) (hy:evS S y=some (.int .i64 b)) (h2:InR (a - b)) (h:Zp P kn lo n r (Zv S d (.int .i64 (a - b))) H K):Zp P kn lo n (⟨d,none,.ari .sub x y⟩ :: r) S H K:=by
 simp only [Zp,XF,Xy,wRI,hx,hy];exact ⟨h2,h⟩
theorem YX {g:Nat} {t:Bool} {ri:RI} (hg:lk S g=some (.bool t)) (h:Zp P kn lo n (⟨d,none,ri⟩ :: r) S H K):Zp P kn lo n (⟨d,some (g,t),ri⟩ :: r) S H K:=by
 cases t<;>(simp only [Zp,XF,hg] at h ⊢;exact h)
theorem Zaa {b o:Nat} {cs:List Value} {v:Value} (hx:evS S x=some (.pointer (some ⟨b,o,none⟩))) (hy:evS S y=some v) (hc:Cl H b cs) (hl:lo≤b) (hv:v.cells.toList=[v]) (h1:one v=true) (ho:o < cs.length)
  (h:∀ H1,Zf H H1 [b]→H1.next=H.next→Cl H1 b (cs.set o v)→Zp P kn lo n r (Zv S d undef) H1 K):Zp P kn lo n (⟨d,none,.st x y⟩ :: r) S H K:=by
 simp only [Zp,XF,Xy,wRI,hx,hy]
 obtain ⟨_,e,l,g⟩:=id hc
 exact ⟨cs,e,l,g,hl,hv,h1,ho,fun H1 hH1=>by obtain ⟨a,b,c⟩:=WP hc hH1;exact h H1 a b c⟩
theorem Yc {g:Nat} {t:Bool} {ri:RI} (hg:lk S g=some (.bool (!t))) (h:Zp P kn lo n r (Zv S d undef) H K):Zp P kn lo n (⟨d,some (g,t),ri⟩ :: r) S H K:=by
 cases t<;>(simp only [Zp,XF,hg,Bool.not_true,Bool.not_false,cond_true,cond_false] at h ⊢;exact h)
theorem W4 {e:TypeId} {z:List Value} (h:∀ H1,Zf H H1 []→H1.next=H.next+1→Cl H1 H.next z→Zp P kn lo n r (Zv S d (.pointer (some ⟨H.next,0,none⟩))) H1 K):Zp P kn lo n (⟨d,none,.alc e z⟩ :: r) S H K:=by
 simp only [Zp,XF,Xy,wRI]
 intro H1 hH1
 obtain ⟨k1,n1,c1⟩:=ZM hH1
 exact h H1 k1 n1 c1
theorem Wk {o:Oper} {v:Value} {H':Hp} {k:Kd} (hd:We S o.op.operands.toList=true) (hp:Zo P (frS n S) o=none) (hh:Zu P lo (frS n S) H o=some (.val v H',k)) (hb:∀ b,k=.read b→b < H.next)
  (h:Zp P kn lo n r (Zv S d v) H' K):Zp P kn lo n (⟨d,none,.mem o⟩ :: r) S H K:=.inl ⟨hd,.inr ⟨hp,v,H',k,hh,hb,h⟩⟩
theorem Jj (hx:evS S x=some (.int .i64 a)) (hy:evS S y=some (.int .i64 b)) (h:Zp P kn lo n r (Zv S d (.bool (decide (a < b)))) H K):Zp P kn lo n (⟨d,none,.cmp .lss x y⟩ :: r) S H K:=by
 simp only [Zp,XF,Xy,wRI,hx,hy];exact h
theorem Zaf (hx:evS S x=some (.int .i64 a)) (hy:evS S y=some (.int .i64 b)) (h:Zp P kn lo n r (Zv S d (.bool (decide (a > b)))) H K):Zp P kn lo n (⟨d,none,.cmp .gtr x y⟩ :: r) S H K:=by
 simp only [Zp,XF,Xy,wRI,hx,hy];exact h
theorem UH (hx:evS S x=some (.int .i64 a)) (hy:evS S y=some (.int .i64 b)) (h:∀ t,(decide (a > b))=t→Zp P kn lo n r (Zv S d (.bool t)) H K):Zp P kn lo n (⟨d,none,.cmpb .gtr x y⟩ :: r) S H K:=by
 simp only [Zp,XF,Xy,wRI,hx,hy];exact h
theorem jX (hx:evS S x=some (.int .i64 a)) (hy:evS S y=some (.int .i64 b)) (h:Zp P kn lo n r (Zv S d (.bool (decide (a ≥ b)))) H K):Zp P kn lo n (⟨d,none,.cmp .geq x y⟩ :: r) S H K:=by
 simp only [Zp,XF,Xy,wRI,hx,hy];exact h
theorem zE (hx:evS S x=some (.int .i64 a)) (hy:evS S y=some (.int .i64 b)) (h:Zp P kn lo n r (Zv S d (.bool (a == b))) H K):Zp P kn lo n (⟨d,none,.cmp .eql x y⟩ :: r) S H K:=by
 simp only [Zp,XF,Xy,wRI,hx,hy];exact h
theorem QR (hx:evS S x=some (.int .i64 a)) (hy:evS S y=some (.int .i64 b)) (h:∀ t,(a == b)=t→Zp P kn lo n r (Zv S d (.bool t)) H K):Zp P kn lo n (⟨d,none,.cmpb .eql x y⟩ :: r) S H K:=by
 simp only [Zp,XF,Xy,wRI,hx,hy];exact h
end
end Go.Ax

/-! Code whose outcome hangs on what is drawn,4: ranges over functions. -/
namespace Go.Ax
open Go Go.RowKit
noncomputable section
section
variable {P:Program} {kn:Kn} {lo n:Nat}
def Wb (P:Program) (lo n:Nat) (c:Code) (S:Rg) (H:Hp) (K:Exit→Rg→Hp→List Deferred→Prop):Prop:=
 ∀ (base:Nat) (r:Ren) (w:World) (A:Fr) (tmps:Array Value) (ds:List Deferred) (cs:List Frame) (k:List Item),
  lo≤H.next→Rel P r base H w→FrR r A tmps ds none→A.n=n→A.round=none→(P.funcs[A.fn]?).isSome=true→ZG S A.T→
  ∃ e S' H' T' D,K e S' H' D∧ZG S' T'∧ZN P lo base r H w (lone (mkF A.fn tmps (.code c :: k) ds .normal none) cs w) .normal none (fun _=>cs) k A e { A with T:=T',defers:=D ++ A.defers } H' none
theorem Wb.of {c:Code} {S:Rg} {H:Hp} {K:Exit→Rg→Hp→List Deferred→Prop} (h:Yj P lo n false c S H fun e S' H'=>K e S' H' []):Wb P lo n c S H K:=by
 intro base r w A tmps ds cs k hlo hrel hF hn hr _ hS
 obtain ⟨e,S',H',T',a,b,q⟩:=h base r w A tmps ds none cs k hlo hrel hF hn (by rw [hr];rfl) hS
 exact ⟨e,S',H',T',[],a,b,q⟩
theorem Wb.mono {c:Code} {S:Rg} {H:Hp} {K K':Exit→Rg→Hp→List Deferred→Prop} (h:Wb P lo n c S H K) (hk:∀ e S' H' D,K e S' H' D→K' e S' H' D):Wb P lo n c S H K':=by
 intro base r w A tmps ds cs k hlo hrel hF hn hr hf hS
 obtain ⟨e,S',H',T',D,a,b⟩:=h base r w A tmps ds cs k hlo hrel hF hn hr hf hS
 exact ⟨e,S',H',T',D,hk _ _ _ _ a,b⟩
theorem Wb.seq {x y:Code} {S:Rg} {H:Hp} {K:Exit→Rg→Hp→List Deferred→Prop} (h:Wb P lo n x S H fun e S' H' D=>match e with | .normal=>Wb P lo n y S' H' (fun e S2 H2 D2=>K e S2 H2 (D2 ++ D)) | e=>K e S' H' D):Wb P lo n (.seq x y) S H K:=by
 intro base r w A tmps ds cs k hlo hrel hF hn hr hf hS
 obtain ⟨e,S1,H1,T1,D1,a,b,q⟩:=h base r w A tmps ds cs (.code y :: k) hlo hrel hF hn hr hf hS
 cases e with
 | normal=>
  obtain ⟨r1,w1,tm1,ds1,pc1,post,hF1,hsm,hp1,harr,_⟩:=q
  have harr:Steps P _ (lone (mkF A.fn tm1 (.code y :: k) ds1 .normal none) cs w1):=harr
  obtain ⟨e2,S2,H2,T2,D2,a2,b2,q2⟩:=a base r1 w1 { A with T:=T1,defers:=D1 ++ A.defers } tm1 ds1 cs k (Nat.le_trans hlo post.next) post.rel hF1 hn hr hf b
  refine ⟨e2,S2,H2,T2,D2 ++ D1,a2,b2,?_⟩
  rw [List.append_assoc]
  exact ZN.of_steps (Steps.one Jl) (ZN.of_steps harr (ZN.after hlo post hsm q2))
 | _=>exact ⟨_,S1,H1,T1,D1,a,b,ZN.of_steps (Steps.one Jl) (q.left (fun id _=>by simp [exitTo]) (by simp))⟩
theorem Wb.block {id:Nat} {b:Code} {S:Rg} {H:Hp} {K:Exit→Rg→Hp→List Deferred→Prop} (h:Wb P lo n b S H fun e S' H' D=>match e with | .exit j=>(bif Nat.beq j id then K .normal S' H' D else K (.exit j) S' H' D) | e=>K e S' H' D):Wb P lo n (.block id b) S H K:=by
 intro base r w A tmps ds cs k hlo hrel hF hn hr hf hS
 obtain ⟨e,S1,H1,T1,D1,a,b,q⟩:=h base r w A tmps ds cs (.inBlock id :: k) hlo hrel hF hn hr hf hS
 cases e with
 | normal=>
  refine ⟨.normal,S1,H1,T1,D1,a,b,ZN.of_steps (Steps.one XJ) ?_⟩
  obtain ⟨r1,w1,tm1,ds1,pc1,p1,p2,p3,p4,p5,p6⟩:=q
  exact ⟨r1,w1,tm1,ds1,pc1,p1,p2,p3,p4,Steps.trans p5 (Steps.one Ug),p6⟩
 | exit j=>
  simp only at a
  cases hj:Nat.beq j id with
  | true=>
   rw [hj] at a
   have hji:j=id:=Nat.eq_of_beq_eq_true hj
   subst hji
   obtain ⟨r',w',tmps',ds',pc',h1,h2,h3,h4,⟨kx,hk,hs⟩,h6⟩:=q
   have hk':exitTo j kx=some k:=by rw [hk];simp [exitTo]
   exact ⟨.normal,S1,H1,T1,D1,a,b,ZN.of_steps (Steps.one XJ) ⟨r',w',tmps',ds',pc',h1,h2,h3,h4,hs.trans (Steps.one (KX hk')),h6⟩⟩
  | false=>
   rw [hj] at a
   refine ⟨.exit j,S1,H1,T1,D1,a,b,ZN.of_steps (Steps.one XJ) (q.left (fun id' hid=>?_) (by simp))⟩
   cases hid
   have hne:id≠j:=by rintro rfl;simp at hj
   simp [exitTo,hne]
 | _=>exact ⟨_,S1,H1,T1,D1,a,b,ZN.of_steps (Steps.one XJ) (q.left (fun id' hid=>by cases hid) (by simp))⟩
theorem Wb.scope {c:Code} {S:Rg} {H:Hp} {K:Exit→Rg→Hp→List Deferred→Prop} (h:Wb P lo n c S H K):Wb P lo n (.scope c) S H K:=by
 intro base r w A tmps ds cs k hlo hrel hF hn hr hf hS
 obtain ⟨e,S1,H1,T1,D1,a,b,q⟩:=h base r w A tmps ds cs (.inScope c :: k) hlo hrel hF hn hr hf hS
 cases e with
 | normal=>
  refine ⟨.normal,S1,H1,T1,D1,a,b,ZN.of_steps (Steps.one Vv) ?_⟩
  obtain ⟨r1,w1,tm1,ds1,pc1,p1,p2,p3,p4,p5,p6⟩:=q
  exact ⟨r1,w1,tm1,ds1,pc1,p1,p2,p3,p4,Steps.trans p5 (Steps.one V2),p6⟩
 | _=>exact ⟨_,S1,H1,T1,D1,a,b,ZN.of_steps (Steps.one Vv) (q.left (fun id _=>by simp [exitTo]) (by simp))⟩

theorem Wb.range {fo:Operand} {ps:Array Tmp} {asg body:Code} {S:Rg} {H:Hp} {K:Exit→Rg→Hp→List Deferred→Prop} {fn:Fn} {first cap:Array Value} (hfo:evS S fo=some (.func fn first cap))
  (h:∀ H1,Zf H H1 []→H1.next=H.next+2→H1.t.get H.next=some (.dfr (some []))→Lp P H1 (H.next+1) .ready none n S ps.toList asg body H.next→
   ∃ Q:Value→Hp→Prop,XV P lo (.fn fn cap) (first.toList ++ [.func (.yield (H.next+1)) #[] #[]]) H1 Q∧∀ v H2,Q v H2→∃ st pe S',Lp P H2 (H.next+1) st pe n S' ps.toList asg body H.next∧st≠.busy∧
    ∀ H3,Vg H2 (H.next+1) .exhausted pe H3→match pe with | none=>K .normal S H3 [{ target:=.collected H.next,args:=#[] }] | some (.exit id)=>K (.exit id) S H3 [{ target:=.collected H.next,args:=#[] }] | some .ret=>K .ret S H3 [{ target:=.collected H.next,args:=#[] }] | _=>False) :
  Wb P lo n (.rangeFunc fo ps asg body) S H K:=by
 intro base r w A tmps ds cs k hlo hrel hF hn hrd hfn hS
 have kv:=evR hF.T (ZH hS hfo)
 generalize hg:evT tmps fo=u at kv
 cases kv with
 | func kfn s1 k1 s2 k2=>
  rename_i fn' A2 B2
  have post1:Zr P lo base r H w (r.add H.next ⟨w.heap.size,0,none⟩) (H.new (.dfr (some []))) (w.alloc (.deferred (some []))):=
   Zr.fresh hrel hlo (x:=.deferred (some [])) rfl ⟨rfl,rfl,rfl⟩ ⟨[],rfl,.nil⟩
  have e0:(r.add H.next ⟨w.heap.size,0,none⟩) H.next=some ⟨w.heap.size,0,none⟩:=Ren.add_same _ _ _
  have hlo1:lo≤(H.new (.dfr (some []))).next:=Nat.le_trans hlo (Nat.le_succ _)
  generalize hr1:r.add H.next ⟨w.heap.size,0,none⟩=r1 at post1 e0
  have hn1:=post1.rel.none_next
  have hle2:=Ren.le_add (⟨(w.alloc (.deferred (some []))).heap.size,0,none⟩:Loc) hn1
  have post2:=Zr.fresh post1.rel hlo1 (o:=.lp .ready none A.fn A.n A.T ps.toList asg body H.next)
   (x:=.loop { state:=.ready,pending:=none,fn:=A.fn,tmps,params:=ps,assign:=asg,body,defers:=w.heap.size }) (lz:=none)
   (w':=(w.alloc (.deferred (some []))).alloc (.loop { state:=.ready,pending:=none,fn:=A.fn,tmps,params:=ps,assign:=asg,body,defers:=w.heap.size })) rfl ⟨rfl,rfl,rfl⟩
   ⟨_,rfl,rfl,rfl,rfl,(hF.T.mono post1.le).mono hle2,rfl,rfl,rfl,_,hle2 _ _ e0,rfl⟩
  have e1:(r1.add (H.new (.dfr (some []))).next ⟨(w.alloc (.deferred (some []))).heap.size,0,none⟩) (H.next+1)=some ⟨w.heap.size+1,0,none⟩:=by
   have:=Ren.add_same r1 (H.new (.dfr (some []))).next ⟨(w.alloc (.deferred (some []))).heap.size,0,none⟩
   rw [World.size_alloc] at this ⊢
   exact this
  have e00:=hle2 _ _ e0
  have post:=post1.trans hlo post2
  clear post2 hle2
  generalize hr2:r1.add (H.new (.dfr (some []))).next ⟨(w.alloc (.deferred (some []))).heap.size,0,none⟩=r2 at post e1 e00
  obtain ⟨Q,hcall,hQ⟩:=h ((H.new (.dfr (some []))).new (.lp .ready none A.fn A.n A.T ps.toList asg body H.next))
   ⟨by show H.next≤H.next+1+1;omega,fun b hb _=>by simp only [Hp.new,Tr.get_set];rw [if_neg (by omega),if_neg (by omega)],fun b cs hb hg=>by
    have hb:b < H.next+1+1:=hb
    simp only [Hp.new,Tr.get_set] at hg
    by_cases e1:b=H.next+1
    ·rw [if_pos e1] at hg;cases hg
    ·rw [if_neg e1] at hg
     by_cases e2:b=H.next
     ·rw [if_pos e2] at hg;cases hg
     ·rw [if_neg e2] at hg;exact ⟨by omega,hg⟩⟩ rfl (by simp only [Hp.new,Tr.get_set];rw [if_neg (by omega),if_pos trivial]) ⟨A.fn,A.T,by simp only [Hp.new,Tr.get_set];rw [if_pos trivial,hn],hfn,hS⟩
  generalize hH2:(H.new (.dfr (some []))).new (.lp .ready none A.fn A.n A.T ps.toList asg body H.next)=H2 at post hcall
  generalize hw2:(w.alloc (.deferred (some []))).alloc (.loop { state:=.ready,pending:=none,fn:=A.fn,tmps,params:=ps,assign:=asg,body,defers:=w.heap.size })=w2 at post
  have henter:=run_enterLoop_outer (P:=P) (w:=w) A.fn tmps ps asg body
  rw [hw2] at henter
  have hargs:LR r2 (first.toList ++ [.func (.yield (H.next+1)) #[] #[]]) (A2 ++ #[Value.func (.yield (w.heap.size+1)) #[] #[]]).toList:=by
   have a:=(YG.2 ⟨s1,k1⟩).mono post.le
   have b:LR r2 [.func (.yield (H.next+1)) #[] #[]] [.func (.yield (w.heap.size+1)) #[] #[]]:=
    LR.cons (.func (.yield e1) rfl (fun i v v' q=>by simp at q) rfl (fun i v v' q=>by simp at q)) LR.nil
   have:=LR.append a b
   simpa using this
  have hres:(resolve (evT tmps) (rangeCall fo (w.heap.size+1)) 0).run P w2=.ok { target:=.fn fn' B2,args:=A2 ++ #[Value.func (.yield (w.heap.size+1)) #[] #[]] } w2:=by
   have hcst:∀ c,evT tmps (.const c)=c:=fun _=>rfl
   simp [resolve,Deferred.ofValue,hg,hcst]
  have hlo2:lo≤H2.next:=Nat.le_trans hlo post.next
  obtain ⟨nx,fr0,hi,hfo',hrest⟩:=hcall r2 base w2 (.fn fn' B2) _ hlo2 post.rel ⟨_,_,rfl,kfn.mono post.le,(YG.2 ⟨s2,k2⟩).mono post.le⟩ hargs
  obtain ⟨v,H3,r3,w3,hq,post3,v',hv,hsteps⟩:=hrest (mkF A.fn tmps (.inRangeFunc (w.heap.size+1) :: k) ([{ target:=.collected w.heap.size,args:=#[] }] ++ ds) .normal none) cs
  have hstep:=UR (k:=k) (ds:=ds) (kind:=.normal) (cs:=cs) henter hres hi hfo'
  have pp:=post.trans hlo post3
  have hF1:FrR r3 ({ fn:=A.fn,n:=A.n,T:=A.T,defers:={ target:=.collected H.next,args:=#[] } :: A.defers,round:=A.round }:Fr) tmps ([{ target:=.collected w.heap.size,args:=#[] }] ++ ds) none:=by
   have:=hF.mono pp.le
   refine ⟨this.T,?_,this.R⟩
   exact DsR.cons ⟨⟨_,post3.le _ _ e00,rfl⟩,LR.nil⟩ this.D
  obtain ⟨st,pe,S',⟨fn3,T3,hget,hfn3,hk3⟩,hst,hK⟩:=hQ v H3 hq
  have hl3:r3 (H.next+1)=some ⟨w.heap.size+1,0,none⟩:=post3.le _ _ e1
  obtain ⟨R,c1,c2,c3,c4,c5,c6,c7,c8,l9,c9,c10⟩:=post3.rel.cont _ _ _ hl3 hget
  have hend':(Instr.endLoop (w.heap.size+1)).run P w3=.ok pe (w3.putObj (w.heap.size+1) (.loop { R with state:=.exhausted })):=by
   rw [run_endLoop c1 (by rw [c2];exact hst),c3]
  have hlt:w.heap.size+1 < w3.heap.size:=(post3.rel.at hl3 hget rfl).2
  have post4:=Zr.change (lo:=lo) post3.rel hl3 ⟨_,hget,by simp,rfl⟩ (by omega) (o:=.lp .exhausted pe fn3 n T3 ps.toList asg body H.next) (w':=w3.putObj (w.heap.size+1) (.loop { R with state:=.exhausted })) (World.putObj_size) (fun k hk=>World.putObj_heap_other hk) ⟨rfl,rfl,rfl⟩
   ⟨{ R with state:=.exhausted },World.putObj_heap_same hlt,rfl,c3,c4,c5,c6,c7,c8,l9,c9,c10⟩
  have pq:=pp.trans hlo post4
  rw [Ut] at hsteps
  have hall:=(Steps.head hstep hsteps).trans (Steps.one (Vh (k:=k) hend'))
  have hK:=hK _ (WU (st:=.exhausted) (pe:=pe) hget)
  cases pe with
  | none=>exact ⟨.normal,S,_,A.T,[{ target:=.collected H.next,args:=#[] }],hK,hS,r3,_,tmps,_,none,pq,hF1,⟨rfl,rfl,rfl⟩,rfl,hall,fun _=>rfl⟩
  | some c=>
   cases c<;>simp only at hK
   ·exact ⟨.exit _,S,_,A.T,[{ target:=.collected H.next,args:=#[] }],hK,hS,r3,_,tmps,_,none,pq,hF1,⟨rfl,rfl,rfl⟩,rfl,⟨_,rfl,hall⟩,fun _=>rfl⟩
   ·exact ⟨.ret,S,_,A.T,[{ target:=.collected H.next,args:=#[] }],hK,hS,r3,_,tmps,_,none,pq,hF1,⟨rfl,rfl,rfl⟩,rfl,⟨_,hall⟩,fun _=>rfl⟩
end
end
end Go.Ax

/-! Maps whose keys and values are flat: the operations,and ranges over them. -/
namespace Go.Ax
open Go Go.RowKit
noncomputable section
section
variable {P:Program} {kn:Kn} {lo n:Nat} {α:Type} [DecidableEq α] {enc:α→Value}
def Mpa (enc:α→Value) (H:Hp) (b:Nat) (L:ML α) (c:Nat):Prop:=b < H.next∧H.t.get b=some (.mp (mEs enc L) c)
def Ita (H:Hp) (r m c:Nat) (D:ML α):Prop:=r < H.next∧H.t.get r=some (.it (some m) c (D.map (·.2.2)).toArray c)
theorem Zf.mpa {H H1:Hp} {l:List Nat} (k:Zf H H1 l) {b:Nat} {L:ML α} {c:Nat} (h:Mpa enc H b L c) (hb:b ∉ l):Mpa enc H1 b L c:=⟨Nat.lt_of_lt_of_le h.1 k.le,by rw [k.same b h.1 hb];exact h.2⟩
theorem Zf.mpa0 {H H1:Hp} (k:Zf H H1 []) {b:Nat} {L:ML α} {c:Nat} (h:Mpa enc H b L c):Mpa enc H1 b L c:=k.mpa h (by simp)
theorem Zf.ita {H H1:Hp} {l:List Nat} (k:Zf H H1 l) {r m c:Nat} {D:ML α} (h:Ita H r m c D) (hb:r ∉ l):Ita H1 r m c D:=⟨Nat.lt_of_lt_of_le h.1 k.le,by rw [k.same r h.1 hb];exact h.2⟩
theorem Vp {H:Hp} {b:Nat} {o:Ob} (ho:∀ cs,o≠.ro cs):Zf H { H with t:=H.t.set b o } [b]∧({ H with t:=H.t.set b o }:Hp).t.get b=some o:=⟨zq ho,by simp only [Tr.get_set,if_true]⟩
theorem zZ {H:Hp} {o:Ob} (ho:∀ cs,o≠.ro cs):Zf H (H.new o) []∧(H.new o).next=H.next+1∧(H.new o).t.get H.next=some o:=by
 refine ⟨⟨Nat.le_succ _,fun b hb _=>?_,fun b cs hb hg=>?_⟩,rfl,?_⟩
 ·simp only [Hp.new,Tr.get_set];rw [if_neg (by omega)]
 ·have hb:b < H.next+1:=hb
  simp only [Hp.new,Tr.get_set] at hg
  split at hg
  ·cases hg;exact absurd rfl (ho cs)
  ·exact ⟨by omega,hg⟩
 ·simp only [Hp.new,Tr.get_set,if_true]
theorem qQ {S:Rg} {x y:Operand} {a b:Value} (hx:evS S x=some a) (hy:evS S y=some b):We S [x,y]=true:=by simp [We,hx,hy]
theorem Zck {S:Rg} {x y z:Operand} {a b c:Value} (hx:evS S x=some a) (hy:evS S y=some b) (hz:evS S z=some c):We S [x,y,z]=true:=by simp [We,hx,hy,hz]
section
variable {tm tk te:TypeId} {S:Rg} {H:Hp} {x y:Operand} {b c:Nat} {L:ML α} {a:α} {z:Value} {dd:Option Tmp} {ty:TypeId} {p:String}
theorem qY:Zu P lo (frS n S) H ⟨dd,.makeMap tm none,ty,p,#[],none⟩=some (.val (.map (some H.next)) (H.new (.mp #[] 0)),.heavy):=rfl
theorem Qa (k:Xc P tk enc) (hu:P.underlying tm=some (.map tk te)) (hz:Zz P (zeroValue te)=some z) (hx:evS S x=some (.map (some b))) (hy:evS S y=some (enc a)) (hm:Mpa enc H b L c) (ok:Bool) (hf:VA (if ok then .tuple #[(ZQ a L).getD z,.bool (ZQ a L).isSome] else (ZQ a L).getD z)=true) :
  Zu P lo (frS n S) H ⟨dd,.lookup tm x y ok,ty,p,#[],none⟩=some (.val (if ok then .tuple #[(ZQ a L).getD z,.bool (ZQ a L).isSome] else (ZQ a L).getD z) H,.read b):=by
 unfold Zu
 simp only [hu,YC,hx,hy,hm.2,k.fl,cond_true,qG k hu hz,hf]
theorem yR (k:Xc P tk enc) (hu:P.underlying tm=some (.map tk te)) (hz:Zz P (zeroValue te)=some z) (hx:evS S x=some (.map (some b))) (hy:evS S y=some (enc a)) (hm:Mpa enc H b L c) (hl:lo≤b) (hf:flat ((ZQ a L).getD z)=true) :
  Zu P lo (frS n S) H ⟨dd,.mapEntry tm x y,ty,p,#[],none⟩=some (.val (.tuple #[(ZQ a L).getD z,goInt (Yt a c L)]) { H with t:=H.t.set b (.mp (mEs enc (X6 a z c L)) (YR a c L)) },.store b):=by
 have hft:VA (.tuple #[(ZQ a L).getD z,goInt (Yt a c L)])=true:=by
  show (flat ((ZQ a L).getD z) && (true && true))=true
  rw [hf];rfl
 unfold Zu
 simp only [YC,hx,hy,UU,hu,hm.2,k.fl,Nat.ble_eq_true_of_le hl,Bool.and_self,cond_true,Zad k hu hz,hft]
theorem Zay (k:Xc P tk enc) (hu:P.underlying tm=some (.map tk te)) {w:Operand} {v:Value} (hx:evS S x=some (.map (some b))) (hy:evS S y=some (enc a)) (hw:evS S w=some v) (hm:Mpa enc H b L c) (hl:lo≤b) (hf:flat v=true) :
  Zu P lo (frS n S) H ⟨dd,.mapUpdate tm x y w,ty,p,#[],none⟩=some (.skip { H with t:=H.t.set b (.mp (mEs enc (YW a v c L)) (YR a c L)) },.store b):=by
 unfold Zu
 simp only [YC,hx,hy,hw,WX,hu,hm.2,k.fl,hf,Nat.ble_eq_true_of_le hl,Bool.and_self,cond_true,qP k hu]
theorem jR (k:Xc P tk enc) (hu:P.underlying tm=some (.map tk te)) (hx:evS S x=some (.map (some b))) (hy:evS S y=some (enc a)) (hm:Mpa enc H b L c) (hl:lo≤b) {t1:TypeId} :
  Zu P lo (frS n S) H ⟨dd,.call ⟨.builtin .delete,#[x,y],#[tm,t1]⟩,ty,p,#[],none⟩=some (.val (.tuple #[]) { H with t:=H.t.set b (.mp (mEs enc (VJ a L)) c) },.store b):=by
 unfold Zu
 simp only [evs,YC,hx,hy,Ys,List.getElem?_toArray,List.getElem?_cons_zero,hu,hm.2,k.fl,Nat.ble_eq_true_of_le hl,Bool.and_self,cond_true,ZbM k hu]
theorem jM {w:Operand} {v:Value} {st:Nat} (hx:evS S x=some (.map (some b))) (hy:evS S y=some (goInt st)) (hw:evS S w=some v) (hm:Mpa enc H b L c) (hl:lo≤b) (hf:flat v=true) (hb:∃ e∈L,e.2.2=st) :
  Zu P lo (frS n S) H ⟨dd,.entryStore tm x y w,ty,p,#[],none⟩=some (.skip { H with t:=H.t.set b (.mp (mEs enc (Vq st v L)) c) },.store b):=by
 have hfs:flat (goInt st)=true:=rfl
 unfold Zu
 simp only [YC,hx,hy,hw,XB,hm.2,hfs,hf,Nat.ble_eq_true_of_le hl,Bool.and_self,cond_true,ZaR L st v hb]
end
section
variable {r:List RO} {S:Rg} {H:Hp} {K:Rg→Hp→Prop} {d:Option Nat} {x y:Operand}
theorem ZbK {o:Oper} {H':Hp} {k:Kd} (hd:We S o.op.operands.toList=true) (hp:Zo P (frS n S) o=none) (hh:Zu P lo (frS n S) H o=some (.skip H',k)) (h:Zp P kn lo n r (Zv S d undef) H' K):Zp P kn lo n (⟨d,none,.mst o⟩ :: r) S H K:=.inl ⟨hd,hp,H',k,hh,h⟩
variable {tm tk te:TypeId} {b c:Nat} {L:ML α} {a:α} {z:Value} {dd:Option Tmp} {ty:TypeId} {p:String}
theorem qH (h:∀ H1,Zf H H1 []→H1.next=H.next+1→Mpa enc H1 H.next ([]:ML α) 0→Zp P kn lo n r (Zv S d (.map (some H.next))) H1 K):Zp P kn lo n (⟨d,none,.mem ⟨dd,.makeMap tm none,ty,p,#[],none⟩⟩ :: r) S H K:=by
 obtain ⟨k1,k2,k3⟩:=zZ (H:=H) (o:=.mp #[] 0) (fun cs e=>by cases e)
 exact Wk rfl rfl qY (fun b e=>by cases e) (h _ k1 k2 ⟨by rw [k2];omega,k3⟩)
theorem qB (k:Xc P tk enc) (hu:P.underlying tm=some (.map tk te)) (hz:Zz P (zeroValue te)=some z) (hx:evS S x=some (.map (some b))) (hy:evS S y=some (enc a)) (hm:Mpa enc H b L c) (hf:flat ((ZQ a L).getD z)=true)
  (h:Zp P kn lo n r (Zv S d ((ZQ a L).getD z)) H K):Zp P kn lo n (⟨d,none,.mem ⟨dd,.lookup tm x y false,ty,p,#[],none⟩⟩ :: r) S H K:=by
 have hft:VA ((ZQ a L).getD z)=true:=by
  generalize (ZQ a L).getD z=v at hf
  cases v<;>first | exact hf | skip
  rename_i cs
  show cs.toList.all flat=true
  have hf:cs.toList.all Yx=true:=hf
  rw [List.all_eq_true] at hf ⊢
  intro v hv
  have:=hf v hv
  cases v<;>first | exact this | (simp [Yx] at this)
 exact Wk (qQ hx hy) rfl (Qa k hu hz hx hy hm false hft) (fun q e=>by cases e;exact hm.1) h
theorem jS (k:Xc P tk enc) (hu:P.underlying tm=some (.map tk te)) (hz:Zz P (zeroValue te)=some z) (hx:evS S x=some (.map (some b))) (hy:evS S y=some (enc a)) (hm:Mpa enc H b L c) (hf:flat ((ZQ a L).getD z)=true)
  (h:Zp P kn lo n r (Zv S d (.tuple #[(ZQ a L).getD z,.bool (ZQ a L).isSome])) H K):Zp P kn lo n (⟨d,none,.mem ⟨dd,.lookup tm x y true,ty,p,#[],none⟩⟩ :: r) S H K:=by
 have hft:VA (.tuple #[(ZQ a L).getD z,.bool (ZQ a L).isSome])=true:=by
  show (flat ((ZQ a L).getD z) && (true && true))=true
  rw [hf];rfl
 exact Wk (qQ hx hy) rfl (Qa k hu hz hx hy hm true hft) (fun q e=>by cases e;exact hm.1) h
theorem ZaN (k:Xc P tk enc) (hu:P.underlying tm=some (.map tk te)) (hz:Zz P (zeroValue te)=some z) (hx:evS S x=some (.map (some b))) (hy:evS S y=some (enc a)) (hm:Mpa enc H b L c) (hl:lo≤b) (hf:flat ((ZQ a L).getD z)=true)
  (h:∀ H1,Zf H H1 [b]→H1.next=H.next→Mpa enc H1 b (X6 a z c L) (YR a c L)→Zp P kn lo n r (Zv S d (.tuple #[(ZQ a L).getD z,goInt (Yt a c L)])) H1 K):Zp P kn lo n (⟨d,none,.mem ⟨dd,.mapEntry tm x y,ty,p,#[],none⟩⟩ :: r) S H K:=by
 obtain ⟨k1,k2⟩:=Vp (H:=H) (b:=b) (o:=.mp (mEs enc (X6 a z c L)) (YR a c L)) (fun cs e=>by cases e)
 exact Wk (qQ hx hy) rfl (yR k hu hz hx hy hm hl hf) (fun q e=>by cases e) (h _ k1 rfl ⟨hm.1,k2⟩)
theorem Zdo (k:Xc P tk enc) (hu:P.underlying tm=some (.map tk te)) (hx:evS S x=some (.map (some b))) (hy:evS S y=some (enc a)) (hm:Mpa enc H b L c) (hl:lo≤b) {t1:TypeId} (hd:We S (Op.call ⟨.builtin .delete,#[x,y],#[tm,t1]⟩).operands.toList=true) (hp:Zo P (frS n S) ⟨dd,.call ⟨.builtin .delete,#[x,y],#[tm,t1]⟩,ty,p,#[],none⟩=none)
  (h:∀ H1,Zf H H1 [b]→H1.next=H.next→Mpa enc H1 b (VJ a L) c→Zp P kn lo n r (Zv S d (.tuple #[])) H1 K):Zp P kn lo n (⟨d,none,.mem ⟨dd,.call ⟨.builtin .delete,#[x,y],#[tm,t1]⟩,ty,p,#[],none⟩⟩ :: r) S H K:=by
 obtain ⟨k1,k2⟩:=Vp (H:=H) (b:=b) (o:=.mp (mEs enc (VJ a L)) c) (fun cs e=>by cases e)
 exact Wk hd hp (jR k hu hx hy hm hl) (fun q e=>by cases e) (h _ k1 rfl ⟨hm.1,k2⟩)
theorem ZcA {w:Operand} {v:Value} {st:Nat} (hx:evS S x=some (.map (some b))) (hy:evS S y=some (goInt st)) (hw:evS S w=some v) (hm:Mpa enc H b L c) (hl:lo≤b) (hf:flat v=true) (hb:∃ e∈L,e.2.2=st)
  (h:∀ H1,Zf H H1 [b]→H1.next=H.next→Mpa enc H1 b (Vq st v L) c→Zp P kn lo n r (Zv S d undef) H1 K):Zp P kn lo n (⟨d,none,.mst ⟨dd,.entryStore tm x y w,ty,p,#[],none⟩⟩ :: r) S H K:=by
 obtain ⟨k1,k2⟩:=Vp (H:=H) (b:=b) (o:=.mp (mEs enc (Vq st v L)) c) (fun cs e=>by cases e)
 exact ZbK (Zck hx hy hw) rfl (jM (tm:=tm) hx hy hw hm hl hf hb) (h _ k1 rfl ⟨hm.1,k2⟩)
theorem ZcP {m:Nat} (hx:evS S x=some (.map (some m))) (hm:Mpa enc H m L c) (h:∀ H1,Zf H H1 []→H1.next=H.next+1→Ita H1 H.next m c ([]:ML α)→Zp P kn lo n r (Zv S d (.pointer (some ⟨H.next,0,none⟩))) H1 K):Zp P kn lo n (⟨d,none,.rng x⟩ :: r) S H K:=by
 obtain ⟨k1,k2,k3⟩:=zZ (H:=H) (o:=.it (some m) c #[] c) (fun cs e=>by cases e)
 simp only [Zp,XF,Xy,hx]
 exact ⟨_,c,.inl hm.2,fun H1 e=>by subst e;exact h _ k1 k2 ⟨by rw [k2];omega,k3⟩⟩
theorem Zcy {r0 m:Nat} {D:ML α} (hx:evS S x=some (.pointer (some ⟨r0,0,none⟩))) (hi:Ita H r0 m c D) (hm:Mpa enc H m L c) (hw:WfA L c) (hD:∀ y∈D,y∈L) (hk:∀ a,flat (enc a)=true) (hf:∀ y∈L,flat y.2.1=true) (hl:lo≤r0)
  (h0:(∀ y∈L,y∈D)→Zp P kn lo n r (Zv S d (.tuple #[.bool false])) H K)
  (h1:∀ y∈L,y ∉ D→∀ H1,Zf H H1 [r0]→H1.next=H.next→Ita H1 r0 m c (D ++ [y])→Zp P kn lo n r (Zv S d (.tuple #[.bool true,enc y.1,y.2.1])) H1 K):Zp P kn lo n (⟨d,none,.nxt x⟩ :: r) S H K:=by
 have left:∀ e,e∈(leftOf (mEs enc L) (D.map (·.2.2)).toArray).toList↔∃ y∈L,e=YV enc y∧y.2.2 ∉ D.map (·.2.2):=by
  intro e
  unfold leftOf mEs
  simp only [List.filter_toArray,List.mem_filter,List.mem_map,Bool.not_eq_true',List.contains_toArray]
  constructor
  ·rintro ⟨⟨y,hy,rfl⟩,h⟩
   refine ⟨y,hy,rfl,fun hm=>?_⟩
   have:List.contains (List.map (fun x=>x.2.2) D) (YV enc y).born=true:=List.contains_iff_mem.2 (List.mem_map.2 hm)
   rw [this] at h;cases h
  ·rintro ⟨y,hy,rfl,h⟩
   refine ⟨⟨y,hy,rfl⟩,?_⟩
   cases hc:List.contains (List.map (fun x=>x.2.2) D) (YV enc y).born with
   | false=>rfl
   | true=>exact absurd (List.mem_map.1 (List.contains_iff_mem.1 hc)) h
 simp only [Zp,XF,Xy,hx]
 refine .inr (.inr ⟨m,c,_,c,_,c,hi.2,hm.2,fun e he=>?_,Nat.le_refl _,hl,fun hz=>h0 fun y hy=>?_,fun e he H1 e1=>?_⟩)
 ·have he:e∈L.map (YV enc):=by simpa [mEs] using he
  obtain ⟨y,hy,rfl⟩:=List.mem_map.1 he
  exact ⟨hw.lt y hy,hk _,hf y hy⟩
 ·have hnil:∀ e,e ∉ (leftOf (mEs enc L) (D.map (·.2.2)).toArray).toList:=by
   intro e he
   have:=List.length_pos_of_mem he
   simp at this
   omega
  have:y.2.2∈D.map (·.2.2):=Classical.byContradiction fun q=>hnil _ ((left _).2 ⟨y,hy,rfl,q⟩)
  obtain ⟨u,hu,he⟩:=List.mem_map.1 this
  have inj:∀ {L:ML α},(L.map (·.2.2)).Nodup→∀ p q,p∈L→q∈L→p.2.2=q.2.2→p=q:=by
   intro L
   induction L with
   | nil=>intro _ p q hp;cases hp
   | cons a l ih=>
    intro hn p q hp hq e
    simp only [List.map_cons,List.nodup_cons] at hn
    rcases List.mem_cons.1 hp with rfl | hp'<;>rcases List.mem_cons.1 hq with rfl | hq'
    ·rfl
    ·exact absurd (List.mem_map.2 ⟨q,hq',e.symm⟩:p.2.2∈l.map (·.2.2)) hn.1
    ·exact absurd (List.mem_map.2 ⟨p,hp',e⟩:q.2.2∈l.map (·.2.2)) hn.1
    ·exact ih hn.2 p q hp' hq' e
  rw [← inj hw.borns u y (hD u hu) hy he]
  exact hu
 ·obtain ⟨y,hy,rfl,hb⟩:=(left e).1 he
  subst e1
  obtain ⟨k1,k2⟩:=Vp (H:=H) (b:=r0) (o:=.it (some m) c ((D.map (·.2.2)).toArray.push (YV enc y).born) c) (fun cs e=>by cases e)
  refine h1 y hy (fun q=>hb (List.mem_map.2 ⟨y,q,rfl⟩)) _ k1 rfl ⟨hi.1,?_⟩
  have:((D ++ [y]).map (·.2.2)).toArray=(D.map (·.2.2)).toArray.push (YV enc y).born:=by simp [YV]
  rw [this]
  exact k2
theorem Zdl {r0 m:Nat} {D:ML α} {e:α × Value × Nat} (hx:evS S x=some (.pointer (some ⟨r0,0,none⟩))) (hi:Ita H r0 m c (D ++ [e])) (hm:Mpa enc H m L c) (hw:WfA L c) (he:e∈L) (hk:∀ a,flat (enc a)=true) (hf:flat e.2.1=true)
  (h:Zp P kn lo n r (Zv S d (.tuple #[enc e.1,e.2.1])) H K):Zp P kn lo n (⟨d,none,.ent x⟩ :: r) S H K:=by
 simp only [Zp,XF,Xy,hx]
 refine ⟨m,c,(D.map (·.2.2)).toArray,c,mEs enc L,YV enc e,?_,.inl ⟨hm.2,hf⟩,?_,?_,hk _,h⟩
 ·have:((D ++ [e]).map (·.2.2)).toArray=(D.map (·.2.2)).toArray.push (YV enc e).born:=by simp [YV]
  rw [← this]
  exact hi.2
 ·simp only [mEs];exact List.mem_map.2 ⟨e,he,rfl⟩
 ·have:(mEs enc L).toList.map (·.born)=L.map (·.2.2):=by simp [mEs,YV,Function.comp_def]
  rw [this];exact hw.borns
end
/-! Maps whose values point,step by step. -/
section
variable {r:List RO} {S:Rg} {H:Hp} {K:Rg→Hp→Prop} {d:Option Nat} {x y:Operand} {tm tk te:TypeId} {b c:Nat} {L:ML α} {a:α} {z:Value} {dd:Option Tmp} {ty:TypeId} {p:String}
end
/-! What has been given of a map. -/
open Classical in
theorem Ky {β:Type}:∀ {D L:List β},D.Nodup→(∀ x∈D,x∈L)→D.length≤L.length
 | [],_,_,_=>Nat.zero_le _
 | x :: D,L,hn,hs=>by
  rw [List.nodup_cons] at hn
  have hx:=hs x (by simp)
  have:=Ky (D:=D) (L:=L.erase x) hn.2 fun y hy=>(List.mem_erase_of_ne (fun e:y=x=>hn.1 (e ▸ hy))).2 (hs y (by simp [hy]))
  rw [List.length_erase_of_mem hx] at this
  have:=List.length_pos_of_mem hx
  simp only [List.length_cons]
  omega
open Classical in
theorem WfA.nodup {L:ML α} {c:Nat} (h:WfA L c):L.Nodup:=by
 have:=h.keys
 clear h
 induction L with
 | nil=>exact List.nodup_nil
 | cons x l ih=>
  simp only [List.map_cons,List.nodup_cons] at this
  exact List.nodup_cons.2 ⟨fun hx=>this.1 (List.mem_map.2 ⟨x,hx,rfl⟩),ih this.2⟩
end
end
end Go.Ax

/-! Lowered code with a range over a function,over the machine. -/
namespace Go.Ax
open Go Go.RowKit
noncomputable section
section
variable (P:Program) (kn:Kn) (lo n:Nat)
end
section
variable {P:Program} {kn:Kn} {lo n:Nat}
end
end
end Go.Ax

/-! From what a function comes to,whatever is drawn,to a call as_ the statements have it. -/
namespace Go.Ax
open Go Go.RowKit
section
variable {P:Program} {kn:Kn} {lo:Nat}
def FnC (P:Program) (lo:Nat) (f:FuncId) (args:List Value) (H:Hp) (Q:Value→Hp→Prop):Prop:=
 ∀ (r:Ren) (base:Nat) (w:World) (args':Array Value),lo≤H.next→Rel P r base H w→LR r args args'.toList→
  Calls P f args' w fun e w'=>∃ v H' r' v',e=.returned v'∧Q v H'∧Zr P lo base r H w r' H' w'∧VR r' v v'
theorem yy {f:FuncId} {fn:Func} {c:Code} {args:List Value} {H:Hp} {Q:Value→Hp→Prop} (hf:P.funcs[f]? = some fn) (hc:fn.body=some c) (hl:args.length≤fn.ntmps)
  (h:Yj P lo fn.ntmps false c (VV args 0) H fun e S' H'=>(match e with | .normal=>True | .ret=>True | _=>False)∧∃ vs,Ww P S' H' fn.results.toList=some vs∧Q (Wz vs) H'):FnC P lo f args H Q:=by
 intro r base w args' hlo hrel hargs cs
 have hent:Frame.enter P f args' .normal=mkF f (args' ++ Array.replicate (fn.ntmps - args'.size) undef) [.code c] [] .normal none:=by
  simp [Frame.enter,mkF,hf,hc]
 have hT:=V5 hargs fn.ntmps hl
 obtain ⟨e,S1,H1,T1,⟨he,vs,hres,hq⟩,hk,r1,w1,tm,ds,pc1,hpost,hF,hS,hp1,hArr,_⟩:=h base r w { fn:=f,n:=fn.ntmps,T:=Un args 0 .nil,defers:=[],round:=none } _ [] none cs [] hlo hrel ⟨hT,.nil,rfl⟩ rfl rfl (Vc args)
 simp only at hArr
 rw [← hent] at hArr
 have hu:Z9 P lo (fun _ _ _ _=>none) fn 1 { fn:=f,n:=fn.ntmps,T:=T1,defers:=[],round:=none } H1 none=some (.ret (Wz vs),H1):=by
  rw [Z9]
  simp only [V6 (A:={ fn:=f,n:=fn.ntmps,T:=T1,defers:=[],round:=none }) hk hres]
  match vs with
  | []=>rfl
  | [v]=>rfl
  | v :: u :: r=>rfl
 have hD:yq P lo (fun _ _ _ _=>none):=fun f cap args H p e H' p' h=>by cases h
 have fin:∀ (todo:List Item),Steps P (lone (Frame.enter P f args' .normal) cs w) (lone { mkF f tm todo ds .normal none with mode:=.returning } cs w1)→
   ∃ e w' fr,(∃ v H' r' v',e=.returned v'∧Q v H'∧Zr P lo base r H w r' H' w'∧VR r' v v')∧Comes P (lone (Frame.enter P f args' .normal) cs w) (lone fr cs w') e∧fr.fn=f∧fr.leaving P w' e:=by
  intro todo hs
  obtain ⟨r',w',fr',q1,q2,q3,q4,q5⟩:=Vy hD hf 1 r1 w1 _ H1 ds none none _ H1 hu (Nat.le_trans hlo hpost.next) hpost.rel hF.D rfl { mkF f tm todo ds .normal none with mode:=.returning } cs hF.T rfl rfl rfl
  obtain ⟨v',hv,⟨a,b,d⟩⟩:=q5
  exact ⟨.returned v',w',fr',⟨Wz vs,H1,r',v',rfl,hq,hpost.trans hlo q1,hv⟩,hs.trans q4,q2,a,b,by rw [q3];rfl,d⟩
 cases e with
 | normal=>exact fin [] (hArr.trans (Steps.one yp))
 | ret=>
  obtain ⟨kx,hs⟩:=hArr
  exact fin _ (hs.trans (Steps.one yS))
 | _=>exact he.elim
theorem Zb0 {f:FuncId} {fn:Func} {R:RC} {n:Nat} {rs:List ResultVar} {args:List Value} {H:Hp} {Q:Value→Hp→Prop} (s:Snd P kn) (hf:P.funcs[f]? = some fn) (hb:fn.body=some (at_ fn [])) (hn:fn.ntmps=n) (hz:fn.results.toList=rs) (hL:low P fn.ntmps (at_ fn [])=some R) (hl:args.length≤n)
  (h:wCM P kn lo n false R (VV args 0) H fun e S' H'=>(match e with | .normal=>True | .ret=>True | _=>False)∧∃ vs,Ww P S' H' rs=some vs∧Q (Wz vs) H'):FnC P lo f args H Q:=by
 subst hn hz
 exact yy hf hb hl (Xh s _ hL h)
theorem yV {f:FuncId} {args:List Value} {H:Hp} {b:Bool} {w:World} {r:Ren} {args':Array Value}
  (hrel:Rel P r w.heap.size H w) (hr:∀ b loc,r b=some loc→b < H.next) (ha:LR r args args'.toList) (h:FnC P H.next f args H fun v _=>v=.bool b) :
  Calls P f args' w fun e w'=>e=.returned (.bool b)∧Below w.heap.size w w':=
 (h r w.heap.size w args' (Nat.le_refl _) hrel ha).mono fun e w' ⟨v,H',r',v',he,hq,hp,hv⟩=>by
  subst hq
  have:=XY hv
  subst this
  exact ⟨he,hp.below hrel fun b loc e=>.inl (hr b loc e)⟩
theorem closed_callC {f:FuncId} {b:Bool} (h:FnC P 0 f [] { next:=0,t:=.nil } fun v _=>v=.bool b) (w:World):Calls P f #[] w fun e w'=>e=.returned (.bool b)∧Below w.heap.size w w':=by
 have hrel:Rel P (fun _=>none) w.heap.size { next:=0,t:=.nil } w:=⟨fun _ _ e=>(by cases e),fun _ _ _ e=>(by cases e),fun _ _ _ _ e=>(by cases e),Nat.le_refl _⟩
 exact yV (args':=#[]) hrel (fun _ _ e=>by cases e) (by simpa using LR.nil) h
end
end Go.Ax

/-! Short names for operations. -/
namespace Go.Ax
open Go Go.RowKit Go.Proofs
abbrev oM (d x:Nat):RO:=⟨some d,none,.mov (.tmp x)⟩
abbrev oN (d:Nat) (x:Int):RO:=⟨some d,none,.mov (.const (.int .i64 x))⟩
abbrev oG (d g:Nat) (t:Bool) (x:Nat):RO:=⟨some d,some (g,t),.mov (.tmp x)⟩
abbrev oE (d x i t : Nat) : RO := ⟨some d, none, .pur ⟨some d, .extract (.tmp x) i, t, "", #[], none⟩⟩
abbrev oC (d f:Nat) (a:Array Operand) (t:Array TypeId):RO:=⟨some d,none,.call ⟨.value (.func f),a,t⟩ true⟩
abbrev oH (d g:Nat) (b:Bool) (f:Nat) (a:Array Operand) (t:Array TypeId):RO:=⟨some d,some (g,b),.call ⟨.value (.func f),a,t⟩ true⟩
abbrev oA (d x y : Nat) : RO := ⟨some d, none, .pur ⟨some d, .pick (.tmp x) (.tmp y) (.const (.bool false)), 4, "", #[], none⟩⟩
abbrev oO (d x y : Nat) : RO := ⟨some d, none, .pur ⟨some d, .pick (.tmp x) (.const (.bool true)) (.tmp y), 4, "", #[], none⟩⟩
abbrev oI (d x y s:Nat):RO:=⟨some d,none,.idx (.tmp x) (.tmp y) s⟩
abbrev oL (d x s:Nat):RO:=⟨some d,none,.ld (.tmp x) s⟩
abbrev oB (d:Nat) (o:BinOp) (x:Nat) (c:Int):RO:=⟨some d,none,.cmpb o (.tmp x) (.const (.int .i64 c))⟩
abbrev oBg (d g:Nat) (t:Bool) (o:BinOp) (x:Nat) (c:Int):RO:=⟨some d,some (g,t),.cmpb o (.tmp x) (.const (.int .i64 c))⟩
abbrev oQ (d:Nat) (o:BinOp) (x:Nat) (c:Int):RO:=⟨some d,none,.cmp o (.tmp x) (.const (.int .i64 c))⟩
abbrev oR (d:Nat) (o:BinOp) (x:Nat) (c:Int):RO:=⟨some d,none,.ari o (.tmp x) (.const (.int .i64 c))⟩
abbrev oS (d:Nat) (o:BinOp) (x y:Nat):RO:=⟨some d,none,.ari o (.tmp x) (.tmp y)⟩
abbrev oD (d x s:Nat):RO:=⟨some d,none,.lda (.tmp x) s⟩
abbrev oJ (d x s:Nat):RO:=⟨some d,none,.addo (.tmp x) s⟩
abbrev oK (d t x:Nat):RO:=⟨some d,none,.box t (.tmp x)⟩
abbrev oF (d:Nat):RO:=⟨some d,none,.mov (.const (.bool false))⟩
abbrev oU (d x : Nat) : RO := ⟨some d, none, .pur ⟨some d, .unOp .not 4 (.tmp x), 4, "", #[], none⟩⟩
abbrev oV (d g : Nat) (t : Bool) (x : Nat) : RO := ⟨some d, some (g, t), .pur ⟨some d, .unOp .not 4 (.tmp x), 4, "", #[], none⟩⟩
abbrev oIg (d g:Nat) (t:Bool) (x y s:Nat):RO:=⟨some d,some (g,t),.idx (.tmp x) (.tmp y) s⟩
abbrev oLg (d g:Nat) (t:Bool) (x s:Nat):RO:=⟨some d,some (g,t),.ld (.tmp x) s⟩
abbrev oW (d x:Nat):RO:=⟨some d,none,.len (.tmp x)⟩
end Go.Ax

/-! What 'low' makes of functions of pool (written by program). -/
namespace Go.Ax
open Go Go.RowKit Go.Proofs
theorem N12:Try.f12.ntmps=109:=by kernel_rfl
theorem Z12:Try.f12.results.toList=(#[(.tmp 2)]:Array ResultVar).toList:=by kernel_rfl
theorem B12:Try.f12.body=some (at_ Try.f12 []):=by kernel_rfl
noncomputable def R12:RC:=(.seq (.reg [oF 2])
 (.seq (.seq (.reg [oM 10 0,oW 11 10,oQ 12 .gtr 11 64])
 (.cond (.tmp 12) (.seq (.reg [oC 13 15 #[] #[],oM 2 13])
 .ret)
 .skip))
 (.seq (.reg [oM 15 0,oC 16 29 #[(.tmp 15)] #[44],oM 14 16,oE 17 14 0 46,oE 18 14 1 31,⟨some 3,none,(.alc 46 [(.int .i64 0),(.int .i64 0)])⟩,⟨none,none,(.sta (.tmp 3) (.tmp 17) 2)⟩,oM 4 18])
 (.seq (.seq (.reg [oM 19 4,oQ 20 .neq 19 0])
 (.cond (.tmp 20) (.seq (.reg [oD 21 3 2, ⟨some 22, none, .pur ⟨some 22, (.build 46 #[]), 46, "", #[], none⟩⟩, ⟨some 23, none, (.pur ⟨some 23, (.binOp .eql 46 (.tmp 21) (.tmp 22) 46), 4, "", #[], none⟩)⟩, oM 24 23, oG 25 24 true 4, oBg 26 24 true .eql 25 1, oA 27 24 26, oM 28 27, oH 29 28 true 15 #[] #[], oA 30 28 29, oM 2 30])
 .ret)
 .skip))
 (.seq (.reg [⟨some 5,none,(.alc 46 [(.int .i64 0),(.int .i64 0)])⟩])
 (.seq (.seq (.reg [oM 31 0,oW 32 31,oN 33 0])
 (.block 0 (.other (at_ Try.f12 [1,1,1,1,1,0,1,0]))))
 (.seq (.reg [oD 103 3 2, oD 104 5 2, ⟨some 105, none, (.pur ⟨some 105, (.binOp .eql 46 (.tmp 103) (.tmp 104) 46), 4, "", #[], none⟩)⟩, oM 106 105, oH 107 106 true 15 #[] #[], oA 108 106 107, oM 2 108])
 .ret)))))))
theorem L12:low Try.prog Try.f12.ntmps (at_ Try.f12 [])=some R12:=by kernel_rfl
theorem Zep:at_ Try.f12 [1,1,1,1,1,0,1,0]=.loop (at_ Try.f12 [1,1,1,1,1,0,1,0,0]):=by kernel_rfl
noncomputable def R12x1:RC:=(.seq (.reg [⟨some 34,none,(.cmp .lss (.tmp 33) (.tmp 32))⟩])
 (.seq (.cond (.tmp 34) .skip
 (.exit 0))
 (.seq (.block 1 (.seq (.reg [oI 35 31 33 3,oD 36 35 3,⟨some 7,none,(.alc 57 [(.int .i64 0),(.int .i64 0),(.int .i64 0)])⟩,⟨none,none,(.sta (.tmp 7) (.tmp 36) 3)⟩])
 (.seq (.reg [oD 38 7 3, ⟨some 39, none, (.mem ⟨some 39, (.buildSlice 44 1 #[(0, (.tmp 38))]), 44, "", #[], none⟩)⟩, oC 40 29 #[(.tmp 39)] #[44], oM 37 40, oE 41 37 0 46, oE 42 37 1 31, ⟨some 8, none, (.alc 46 [(.int .i64 0), (.int .i64 0)])⟩, ⟨none, none, (.sta (.tmp 8) (.tmp 41) 2)⟩, oM 9 42])
 (.seq (.seq (.reg [oM 43 9, oB 44 .neq 43 0, oM 45 44, ⟨some 46, some (45, false), (.addo (.tmp 8) 0)⟩, oLg 47 45 false 46 1, oBg 48 45 false .lss 47 0, oO 49 45 48, oM 50 49, ⟨some 51, some (50, false), (.addo (.tmp 8) 0)⟩, oLg 52 50 false 51 1, ⟨some 53, some (50, false), (.addo (.tmp 8) 1)⟩, oLg 54 50 false 53 1, ⟨some 55, some (50, false), (.cmpb .gtr (.tmp 52) (.tmp 54))⟩, oO 56 50 55, oM 57 56, ⟨some 58, some (57, false), (.lda (.tmp 7) 3)⟩, ⟨some 59, some (57, false), (.addo (.tmp 8) 0)⟩, oLg 60 57 false 59 1, oH 61 57 false 39 #[(.tmp 58), (.tmp 60)] #[57, 3], oV 62 57 false 61, oO 63 57 62, oM 64 63, ⟨some 65, some (64, false), .lda (.tmp 7) 3⟩, ⟨some 66, some (64, false), (.addo (.tmp 8) 1)⟩, oLg 67 64 false 66 1, oH 68 64 false 39 #[(.tmp 65), (.tmp 67)] #[57, 3], oV 69 64 false 68, oO 70 64 69, oM 71 70, ⟨some 72, some (71, false), (.addo (.tmp 8) 0)⟩, oLg 73 71 false 72 1, oBg 74 71 false .gtr 73 0, oG 75 71 false 74, ⟨some 76, some (75, true), .lda (.tmp 7) 3⟩, ⟨some 77, some (75, true), (.addo (.tmp 8) 0)⟩, oLg 78 75 true 77 1, ⟨some 79, some (75, true), (.ari .sub (.tmp 78) (.const (.int .i64 1)))⟩, oH 80 75 true 39 #[(.tmp 76), (.tmp 79)] #[57, 3], ⟨some 81, some (71, false), (.pur ⟨some 81, (.pick (.tmp 75) (.tmp 80) (.const (.bool false))), 4, "", #[], none⟩)⟩, oO 82 71 81, oM 83 82, ⟨some 84, some (83, false), (.lda (.tmp 7) 3)⟩, ⟨some 85, some (83, false), (.addo (.tmp 8) 1)⟩, oLg 86 83 false 85 1, ⟨some 87, some (83, false), (.ari .add (.tmp 86) (.const (.int .i64 1)))⟩, oH 88 83 false 39 #[(.tmp 84), (.tmp 87)] #[57, 3], oO 89 83 88])
 (.cond (.tmp 89) (.seq (.reg [oF 2])
 .ret)
 .skip))
 (.dreg [oJ 90 5 0,oL 91 90 1,oJ 92 8 0,oL 93 92 1,oS 94 .add 91 93,oJ 95 5 1,oL 96 95 1,oJ 97 8 1,oL 98 97 1,oS 99 .add 96 98,oJ 100 5 0,⟨none,none,(.st (.tmp 100) (.tmp 94))⟩,oJ 101 5 1,⟨none,none,(.st (.tmp 101) (.tmp 99))⟩] [8191,4095,1151,127,480,128,0,32,0,15,4,0,1,0])))))
 (.reg [oR 102 .add 33 1,oM 33 102]))))
theorem Zdt:low Try.prog Try.f12.ntmps (at_ Try.f12 [1,1,1,1,1,0,1,0,0])=some R12x1:=by kernel_rfl
theorem N15:Try.f15.ntmps=51:=by kernel_rfl
theorem Z15:Try.f15.results.toList=(#[(.tmp 0)]:Array ResultVar).toList:=by kernel_rfl
theorem B15:Try.f15.body=some (at_ Try.f15 []):=by kernel_rfl
noncomputable def R15:RC:=(.seq (.reg [oF 0])
 (.seq (.reg [oC 8 33 #[] #[],⟨some 1,none,(.alc 27 [(.slice none 0 0),(.slice none 0 0),(.slice none 0 0),(.slice none 0 0)])⟩,⟨none,none,(.sta (.tmp 1) (.tmp 8) 4)⟩])
 (.seq (.reg [oD 10 1 4,oC 11 18 #[(.tmp 10),(.const (.int .i64 0))] #[27,3],oM 9 11,oE 12 9 0 28,oE 13 9 1 31,oM 2 12,oM 3 13])
 (.seq (.reg [oD 15 1 4,oC 16 27 #[(.tmp 15),(.const (.int .i64 1))] #[27,3],oM 14 16,oE 17 14 0 28,oE 18 14 1 31,oM 4 17,oM 5 18])
 (.seq (.reg [⟨some 20, none, .pur ⟨some 20, (.build 46 #[(0, (.const (.int .i64 100))), (1, (.const (.int .i64 200)))]), 46, "", #[], none⟩⟩, ⟨some 21, none, .pur ⟨some 21, (.build 57 #[(0, (.const (.int .i64 3))), (1, (.tmp 20))]), 57, "", #[], none⟩⟩, ⟨some 22, none, (.mem ⟨some 22, (.buildSlice 44 1 #[(0, (.tmp 21))]), 44, "", #[], none⟩)⟩, oC 23 29 #[(.tmp 22)] #[44], oM 19 23, oE 24 19 0 46, oE 25 19 1 31, ⟨some 6, none, (.alc 46 [(.int .i64 0), (.int .i64 0)])⟩, ⟨none, none, (.sta (.tmp 6) (.tmp 24) 2)⟩, oM 7 25])
 (.seq (.reg [oM 26 2, ⟨some 27, none, (.mem ⟨some 27, (.buildSlice 28 4 #[(0, (.const (.int .i64 47))), (1, (.const (.int .i64 61))), (2, (.const (.int .i64 62))), (3, (.const (.int .i64 63)))]), 28, "", #[], none⟩)⟩, oC 28 24 #[(.tmp 26), (.tmp 27)] #[28, 28], oM 29 28, oG 30 29 true 3, oBg 31 29 true .eql 30 0, oA 32 29 31, oM 33 32, oG 34 33 true 4, ⟨some 35, some (33, true), (.mem ⟨some 35, (.buildSlice 28 3 #[(0, (.const (.int .i64 47))), (1, (.const (.int .i64 60))), (2, (.const (.int .i64 61)))]), 28, "", #[], none⟩)⟩, oH 36 33 true 24 #[(.tmp 34), (.tmp 35)] #[28, 28], oA 37 33 36, oM 38 37, oG 39 38 true 5, oBg 40 38 true .eql 39 0, oA 41 38 40, oM 42 41, ⟨some 43, some (42, true), .lda (.tmp 6) 2⟩, ⟨some 44, some (42, true), .pur ⟨some 44, (.build 46 #[(0, (.const (.int .i64 11))), (1, (.const (.int .i64 39)))]), 46, "", #[], none⟩⟩, ⟨some 45, some (42, true), (.pur ⟨some 45, (.binOp .eql 46 (.tmp 43) (.tmp 44) 46), 4, "", #[], none⟩)⟩, oA 46 42 45, oM 47 46, oG 48 47 true 7, oBg 49 47 true .eql 48 0, oA 50 47 49, oM 0 50])
 .ret))))))
theorem L15:low Try.prog Try.f15.ntmps (at_ Try.f15 [])=some R15:=by kernel_rfl
theorem N18:Try.f18.ntmps=19:=by kernel_rfl
theorem Z18:Try.f18.results.toList=(#[(.tmp 4),(.tmp 5)]:Array ResultVar).toList:=by kernel_rfl
theorem B18:Try.f18.body=some (at_ Try.f18 []):=by kernel_rfl
noncomputable def R18:RC:=(.seq (.reg [oK 2 27 0,⟨some 4,none,(.mov (.const (.slice none 0 0)))⟩,oN 5 0])
 (.seq (.seq (.reg [oD 6 2 4,oC 7 40 #[(.tmp 6)] #[27],oU 8 7])
 (.cond (.tmp 8) (.seq (.reg [⟨some 4,none,(.mov (.const (.slice none 0 0)))⟩,oN 5 1])
 .ret)
 .skip))
 (.seq (.seq (.reg [oM 9 1,oJ 10 2 3,oL 11 10 1,oW 12 11,oC 13 41 #[(.tmp 9),(.tmp 12)] #[3,3],oU 14 13])
 (.cond (.tmp 14) (.seq (.reg [⟨some 4,none,(.mov (.const (.slice none 0 0)))⟩,oN 5 2])
 .ret)
 .skip))
 (.seq (.reg [oD 15 2 4, ⟨some 16, none, (.pur ⟨some 16, (.build 82 #[(0, (.tmp 15))]), 82, "", #[], none⟩)⟩, oM 17 1, oC 18 46 #[(.tmp 16), (.tmp 17)] #[82, 3], oM 4 18, oN 5 0])
 .ret))))
theorem L18:low Try.prog Try.f18.ntmps (at_ Try.f18 [])=some R18:=by kernel_rfl
theorem N24:Try.f24.ntmps=26:=by kernel_rfl
theorem Z24:Try.f24.results.toList=(#[(.tmp 4)]:Array ResultVar).toList:=by kernel_rfl
theorem B24:Try.f24.body=some (at_ Try.f24 []):=by kernel_rfl
noncomputable def R24:RC:=(.seq (.reg [oF 4])
 (.seq (.seq (.reg [oM 6 0,oW 7 6,oM 8 1,oW 9 8,⟨some 10,none,(.cmp .neq (.tmp 7) (.tmp 9))⟩])
 (.cond (.tmp 10) (.seq (.reg [oF 4])
 .ret)
 .skip))
 (.seq (.seq (.reg [oN 5 0])
 (.block 0 (.other (at_ Try.f24 [1,1,0,1,0]))))
 (.seq (.reg [⟨some 4,none,.mov (.const (.bool true))⟩])
 .ret))))
theorem L24:low Try.prog Try.f24.ntmps (at_ Try.f24 [])=some R24:=by kernel_rfl
theorem Zex:at_ Try.f24 [1,1,0,1,0]=.loop (at_ Try.f24 [1,1,0,1,0,0]):=by kernel_rfl
noncomputable def R24x1:RC:=(.seq (.seq (.reg [oM 11 5,oM 12 0,oW 13 12,⟨some 14,none,(.cmp .lss (.tmp 11) (.tmp 13))⟩])
 (.cond (.tmp 14) .skip
 (.exit 0)))
 (.seq (.block 1 (.seq (.dreg [oM 17 0,oM 18 5,oI 19 17 18 1,oL 20 19 1,oM 21 1,oM 22 5,oI 23 21 22 1,oL 24 23 1,⟨some 25,none,(.cmp .neq (.tmp 20) (.tmp 24))⟩] [255,112,48,0,0,7,3,0,0])
 (.cond (.tmp 25) (.seq (.reg [oF 4])
 .ret)
 .skip)))
 (.reg [oM 15 5,oR 16 .add 15 1,oM 5 16])))
theorem ZdB:low Try.prog Try.f24.ntmps (at_ Try.f24 [1,1,0,1,0,0])=some R24x1:=by kernel_rfl
theorem N27:Try.f27.ntmps=25:=by kernel_rfl
theorem Z27:Try.f27.results.toList=(#[(.tmp 4),(.tmp 5)]:Array ResultVar).toList:=by kernel_rfl
theorem B27:Try.f27.body=some (at_ Try.f27 []):=by kernel_rfl
noncomputable def R27:RC:=(.seq (.reg [oK 2 27 0,⟨some 4,none,(.mov (.const (.slice none 0 0)))⟩,oN 5 0])
 (.seq (.seq (.reg [oD 8 2 4,oC 9 40 #[(.tmp 8)] #[27],oU 10 9])
 (.cond (.tmp 10) (.seq (.reg [⟨some 4,none,(.mov (.const (.slice none 0 0)))⟩,oN 5 1])
 .ret)
 .skip))
 (.seq (.seq (.reg [oM 11 1,oC 12 53 #[(.tmp 11),(.const (.int .i64 1)),(.const (.int .i64 8))] #[3,3,3],oU 13 12])
 (.cond (.tmp 13) (.seq (.reg [⟨some 4,none,(.mov (.const (.slice none 0 0)))⟩,oN 5 2])
 .ret)
 .skip))
 (.seq (.reg [oD 15 2 4, ⟨some 16, none, (.pur ⟨some 16, (.build 82 #[(0, (.tmp 15))]), 82, "", #[], none⟩)⟩, oM 17 1, oC 18 54 #[(.tmp 16), (.tmp 17)] #[82, 3], oC 19 55 #[(.tmp 18)] #[97], oM 14 19, oE 20 14 0 28, oE 21 14 1 4, oM 6 20, oM 7 21])
 (.seq (.seq (.reg [oM 22 7,oU 23 22])
 (.cond (.tmp 23) (.seq (.reg [⟨some 4,none,(.mov (.const (.slice none 0 0)))⟩,oN 5 4])
 .ret)
 .skip))
 (.seq (.reg [oM 24 6,oM 4 24,oN 5 0])
 .ret))))))
theorem L27:low Try.prog Try.f27.ntmps (at_ Try.f27 [])=some R27:=by kernel_rfl
theorem N29:Try.f29.ntmps=17:=by kernel_rfl
theorem Z29:Try.f29.results.toList=(#[(.cell 2 46),(.tmp 3)]:Array ResultVar).toList:=by kernel_rfl
theorem B29:Try.f29.body=some (at_ Try.f29 []):=by kernel_rfl
noncomputable def R29:RC:=(.seq (.reg [⟨some 2,none,(.alc 46 [(.int .i64 0),(.int .i64 0)])⟩,oN 3 0])
 (.seq (.seq (.reg [oM 4 0,oW 5 4,oQ 6 .gtr 5 64])
 (.cond (.tmp 6) (.seq (.reg [⟨some 7, none, .pur ⟨some 7, (.build 46 #[]), 46, "", #[], none⟩⟩, ⟨none, none, (.sta (.tmp 2) (.tmp 7) 2)⟩, oN 3 3])
 .ret)
 .skip))
 (.seq (.seq (.reg [oM 8 0,oC 9 57 #[(.tmp 8),(.func 58)] #[44,74],oU 10 9])
 (.cond (.tmp 10) (.seq (.reg [⟨some 11, none, .pur ⟨some 11, (.build 46 #[]), 46, "", #[], none⟩⟩, ⟨none, none, (.sta (.tmp 2) (.tmp 11) 2)⟩, oN 3 1])
 .ret)
 .skip))
 (.seq (.reg [oM 12 0, oC 13 59 #[(.tmp 12), (.func 60)] #[44, 103], oM 14 0, oC 15 59 #[(.tmp 14), (.func 61)] #[44, 103], ⟨some 16, none, .pur ⟨some 16, (.build 46 #[(0, (.tmp 13)), (1, (.tmp 15))]), 46, "", #[], none⟩⟩, ⟨none, none, (.sta (.tmp 2) (.tmp 16) 2)⟩, oN 3 0])
 .ret))))
theorem L29:low Try.prog Try.f29.ntmps (at_ Try.f29 [])=some R29:=by kernel_rfl
theorem N33:Try.f33.ntmps=15:=by kernel_rfl
theorem Z33:Try.f33.results.toList=(#[(.cell 0 27)]:Array ResultVar).toList:=by kernel_rfl
theorem B33:Try.f33.body=some (at_ Try.f33 []):=by kernel_rfl
noncomputable def R33:RC:=(.seq (.reg [⟨some 0,none,(.alc 27 [(.slice none 0 0),(.slice none 0 0),(.slice none 0 0),(.slice none 0 0)])⟩])
 (.seq (.reg [⟨some 1, none, (.mem ⟨some 1, (.buildSlice 28 2 #[(0, (.const (.int .i64 10))), (1, (.const (.int .i64 30)))]), 28, "", #[], none⟩)⟩, ⟨some 2, none, .pur ⟨some 2, (.build 60 #[(0, (.const (.int .i64 100))), (1, (.const (.int .i64 2))), (2, (.tmp 1)), (3, (.const (.int .i64 2)))]), 60, "", #[], none⟩⟩, ⟨some 3, none, (.mem ⟨some 3, (.buildSlice 22 1 #[(0, (.tmp 2))]), 22, "", #[], none⟩)⟩, ⟨some 4, none, .pur ⟨some 4, (.build 62 #[(2, (.const (.int .i64 100)))]), 62, "", #[], none⟩⟩, ⟨some 5, none, .pur ⟨some 5, (.build 62 #[(0, (.const (.int .i64 300))), (2, (.const (.int .i64 100))), (3, (.const (.int .i64 1)))]), 62, "", #[], none⟩⟩, ⟨some 6, none, (.mem ⟨some 6, (.buildSlice 23 2 #[(0, (.tmp 4)), (1, (.tmp 5))]), 23, "", #[], none⟩)⟩, ⟨some 7, none, .pur ⟨some 7, (.build 64 #[(0, (.const (.int .i64 60))), (1, (.const (.int .i64 80))), (2, (.const (.int .i64 50))), (3, (.const (.int .i64 60)))]), 64, "", #[], none⟩⟩, ⟨some 8, none, .pur ⟨some 8, (.build 64 #[(0, (.const (.int .i64 300))), (1, (.const (.int .i64 101))), (3, (.const (.int .i64 99)))]), 64, "", #[], none⟩⟩, ⟨some 9, none, (.mem ⟨some 9, (.buildSlice 24 2 #[(0, (.tmp 7)), (1, (.tmp 8))]), 24, "", #[], none⟩)⟩, ⟨some 10, none, .pur ⟨some 10, (.build 55 #[(2, (.const (.int .i64 47))), (3, (.const (.int .i64 63)))]), 55, "", #[], none⟩⟩, ⟨some 11, none, .pur ⟨some 11, (.build 55 #[(0, (.const (.int .i64 1))), (2, (.const (.int .i64 60))), (3, (.const (.int .i64 75)))]), 55, "", #[], none⟩⟩, ⟨some 12, none, .pur ⟨some 12, (.build 55 #[(2, (.const (.int .i64 61))), (3, (.const (.int .i64 62)))]), 55, "", #[], none⟩⟩, ⟨some 13, none, (.mem ⟨some 13, (.buildSlice 25 3 #[(0, (.tmp 10)), (1, (.tmp 11)), (2, (.tmp 12))]), 25, "", #[], none⟩)⟩, ⟨some 14, none, .pur ⟨some 14, (.build 27 #[(0, (.tmp 3)), (1, (.tmp 6)), (2, (.tmp 9)), (3, (.tmp 13))]), 27, "", #[], none⟩⟩, ⟨none, none, (.sta (.tmp 0) (.tmp 14) 4)⟩])
 .ret))
theorem L33:low Try.prog Try.f33.ntmps (at_ Try.f33 [])=some R33:=by kernel_rfl
theorem N39:Try.f39.ntmps=27:=by kernel_rfl
theorem Z39:Try.f39.results.toList=(#[(.tmp 4)]:Array ResultVar).toList:=by kernel_rfl
theorem B39:Try.f39.body=some (at_ Try.f39 []):=by kernel_rfl
noncomputable def R39:RC:=(.seq (.reg [oK 2 57 0,oF 4])
 (.seq (.reg [oM 5 1,oJ 6 2 1,oJ 7 6 0,oL 8 7 1,oS 9 .mul 5 8,oR 10 .quo 9 1000,oJ 11 2 0,oL 12 11 1,⟨some 13,none,(.cmpb .leq (.tmp 10) (.tmp 12))⟩,oM 14 13,⟨some 15,some (14,true),(.addo (.tmp 2) 0)⟩,oLg 16 14 true 15 1,oG 17 14 true 1,⟨some 18,some (14,true),(.addo (.tmp 2) 1)⟩,⟨some 19,some (14,true),(.addo (.tmp 18) 1)⟩,oLg 20 14 true 19 1,⟨some 21,some (14,true),.ari .mul (.tmp 17) (.tmp 20)⟩,⟨some 22,some (14,true),.ari .add (.tmp 21) (.const (.int .i64 1000))⟩,⟨some 23,some (14,true),.ari .sub (.tmp 22) (.const (.int .i64 1))⟩,⟨some 24,some (14,true),.ari .quo (.tmp 23) (.const (.int .i64 1000))⟩,⟨some 25,some (14,true),(.cmpb .leq (.tmp 16) (.tmp 24))⟩,oA 26 14 25,oM 4 26])
 .ret))
theorem L39:low Try.prog Try.f39.ntmps (at_ Try.f39 [])=some R39:=by kernel_rfl
theorem N40:Try.f40.ntmps=49:=by kernel_rfl
theorem Z40:Try.f40.results.toList=(#[(.tmp 2)]:Array ResultVar).toList:=by kernel_rfl
theorem B40:Try.f40.body=some (at_ Try.f40 []):=by kernel_rfl
noncomputable def R40:RC:=(.seq (.reg [oK 1 27 0,oF 2])
 (.seq (.seq (.reg [oJ 3 1 0,oL 4 3 1,oW 5 4,oB 6 .gtr 5 8,oM 7 6,⟨some 8,some (7,false),(.addo (.tmp 1) 1)⟩,oLg 9 7 false 8 1,⟨some 10,some (7,false),(.len (.tmp 9))⟩,oBg 11 7 false .gtr 10 16,oO 12 7 11,oM 13 12,⟨some 14,some (13,false),(.addo (.tmp 1) 2)⟩,oLg 15 13 false 14 1,⟨some 16,some (13,false),(.len (.tmp 15))⟩,oBg 17 13 false .gtr 16 16,oO 18 13 17,oM 19 18,⟨some 20,some (19,false),(.addo (.tmp 1) 3)⟩,oLg 21 19 false 20 1,⟨some 22,some (19,false),(.len (.tmp 21))⟩,oBg 23 19 false .gtr 22 8,oO 24 19 23])
 (.cond (.tmp 24) (.seq (.reg [oF 2])
 .ret)
 .skip))
 (.seq (.seq (.reg [oJ 25 1 0,oL 26 25 1,oC 27 65 #[(.tmp 26),(.func 66)] #[22,108],oU 28 27,oM 29 28,⟨some 30,some (29,false),(.addo (.tmp 1) 1)⟩,oLg 31 29 false 30 1,oH 32 29 false 67 #[(.tmp 31),(.func 68)] #[23,110],oV 33 29 false 32,oO 34 29 33,oM 35 34,⟨some 36,some (35,false),(.addo (.tmp 1) 2)⟩,oLg 37 35 false 36 1,oH 38 35 false 69 #[(.tmp 37),(.func 70)] #[24,112],oV 39 35 false 38,oO 40 35 39])
 (.cond (.tmp 40) (.seq (.reg [oF 2])
 .ret)
 .skip))
 (.seq (.reg [oJ 41 1 3, oL 42 41 1, ⟨some 43, none, (.pur ⟨some 43, (.makeFunc (.func 72) #[] #[(.tmp 1)]), 115, "", #[], none⟩)⟩, oC 44 71 #[(.tmp 42), (.tmp 43)] #[25, 115], oM 45 44, ⟨some 46, some (45, true), (.lda (.tmp 1) 4)⟩, oH 47 45 true 74 #[(.tmp 46)] #[27], oA 48 45 47, oM 2 48])
 .ret))))
theorem L40:low Try.prog Try.f40.ntmps (at_ Try.f40 [])=some R40:=by kernel_rfl
theorem N41:Try.f41.ntmps=9:=by kernel_rfl
theorem Z41:Try.f41.results.toList=(#[(.tmp 4)]:Array ResultVar).toList:=by kernel_rfl
theorem B41:Try.f41.body=some (at_ Try.f41 []):=by kernel_rfl
noncomputable def R41:RC:=(.seq (.reg [oF 4])
 (.seq (.reg [oM 5 0,oM 6 1,oR 7 .sub 6 1,oC 8 53 #[(.tmp 5),(.const (.int .i64 0)),(.tmp 7)] #[3,3,3],oM 4 8])
 .ret))
theorem L41:low Try.prog Try.f41.ntmps (at_ Try.f41 [])=some R41:=by kernel_rfl
theorem N42:Try.f42.ntmps=5:=by kernel_rfl
theorem Z42:Try.f42.results.toList=(#[(.tmp 2)]:Array ResultVar).toList:=by kernel_rfl
theorem B42:Try.f42.body=some (at_ Try.f42 []):=by kernel_rfl
noncomputable def R42:RC:=(.seq (.reg [oF 2])
 (.seq (.reg [oM 3 0,oC 4 53 #[(.tmp 3),(.const (.int .i64 0)),(.const (.int .i64 16384))] #[3,3,3],oM 2 4])
 .ret))
theorem L42:low Try.prog Try.f42.ntmps (at_ Try.f42 [])=some R42:=by kernel_rfl
theorem N46:Try.f46.ntmps=21:=by kernel_rfl
theorem Z46:Try.f46.results.toList=(#[(.tmp 4)]:Array ResultVar).toList:=by kernel_rfl
theorem B46:Try.f46.body=some (at_ Try.f46 []):=by kernel_rfl
noncomputable def R46:RC:=(.seq (.reg [oK 2 82 0,⟨some 4,none,.mov (.const (.slice none 0 0))⟩])
 (.seq (.reg [⟨some 5,none,(.alc 28 [(.slice none 0 0)])⟩])
 (.seq (.seq (.reg [oD 8 2 4,oM 9 1,oC 10 48 #[(.tmp 8),(.tmp 9)] #[82,3]])
 (.block 0 (.other (at_ Try.f46 [1,1,0,1,0]))))
 (.seq (.reg [oL 20 5 1,oM 4 20])
 .ret))))
theorem L46:low Try.prog Try.f46.ntmps (at_ Try.f46 [])=some R46:=by kernel_rfl
theorem Zd3:at_ Try.f46 [1,1,0,1,0]=.rangeFunc (.tmp 10) (#[11,12]) (at_ Try.f46 [1,1,0,1,0,0]) (at_ Try.f46 [1,1,0,1,0,1]):=by kernel_rfl
noncomputable def R46x1:RC:=(.seq (.reg [oM 6 11])
 (.reg [oM 7 12]))
theorem ZdV:low Try.prog Try.f46.ntmps (at_ Try.f46 [1,1,0,1,0,0])=some R46x1:=by kernel_rfl
noncomputable def R46x2:RC:=(.block 1 (.seq (.reg [oM 13 7,oW 14 13,oQ 15 .eql 14 0])
 (.cond (.tmp 15) (.reg [oL 16 5 1, oM 17 6, ⟨some 18, none, (.mem ⟨some 18, (.buildSlice 28 1 #[(0, (.tmp 17))]), 28, "", #[], none⟩)⟩, ⟨some 19, none, (.mem ⟨some 19, (.call ⟨(.builtin .append), #[(.tmp 16), (.tmp 18)], #[28, 28]⟩), 28, "", #[], none⟩)⟩, ⟨none, none, .st (.tmp 5) (.tmp 19)⟩])
 .skip)))
theorem Zd7:low Try.prog Try.f46.ntmps (at_ Try.f46 [1,1,0,1,0,1])=some R46x2:=by kernel_rfl
theorem N48:Try.f48.ntmps=6:=by kernel_rfl
theorem Z48:Try.f48.results.toList=(#[(.tmp 4)]:Array ResultVar).toList:=by kernel_rfl
theorem B48:Try.f48.body=some (at_ Try.f48 []):=by kernel_rfl
noncomputable def R48:RC:=(.seq (.reg [oK 2 82 0,oK 3 3 1,⟨some 4,none,.mov (.const .nilFunc)⟩])
 (.seq (.reg [⟨some 5, none, (.pur ⟨some 5, (.makeFunc (.func 79) #[] #[(.tmp 2), (.tmp 3)]), 88, "", #[], none⟩)⟩, oM 4 5])
 .ret))
theorem L48:low Try.prog Try.f48.ntmps (at_ Try.f48 [])=some R48:=by kernel_rfl
theorem N51:Try.f51.ntmps=9:=by kernel_rfl
theorem Z51:Try.f51.results.toList=(#[(.tmp 4)]:Array ResultVar).toList:=by kernel_rfl
theorem B51:Try.f51.body=some (at_ Try.f51 []):=by kernel_rfl
noncomputable def R51:RC:=(.seq (.reg [oK 3 80 1,oF 4])
 (.seq (.reg [oM 5 0, ⟨some 6, none, (.pur ⟨some 6, (.makeFunc (.func 81) #[] #[(.tmp 3)]), 80, "", #[], none⟩)⟩, oC 7 80 #[(.tmp 5), (.tmp 6)] #[28, 80], oU 8 7, oM 4 8])
 .ret))
theorem L51:low Try.prog Try.f51.ntmps (at_ Try.f51 [])=some R51:=by kernel_rfl
theorem N52:Try.f52.ntmps=82:=by kernel_rfl
theorem Z52:Try.f52.results.toList=(#[(.tmp 6)]:Array ResultVar).toList:=by kernel_rfl
theorem B52:Try.f52.body=some (at_ Try.f52 []):=by kernel_rfl
noncomputable def R52:RC:=(.seq (.reg [oK 3 82 0,⟨some 6,none,.mov (.const (.slice none 0 0))⟩])
 (.seq (.reg [oJ 14 3 0,oJ 15 14 3,oL 16 15 1,oM 17 1,oI 18 16 17 4,oD 19 18 4,⟨some 7,none,(.alc 55 [(.int .i64 0),(.int .i64 0),(.int .i64 0),(.int .i64 0)])⟩,⟨none,none,(.sta (.tmp 7) (.tmp 19) 4)⟩])
 (.seq (.dreg [oJ 20 3 0,oJ 21 20 1,oL 22 21 1,oJ 23 7 0,oL 24 23 1,oI 25 22 24 4,oD 26 25 4,oJ 27 3 0,oJ 28 27 0,oL 29 28 1,oJ 30 7 1,oL 31 30 1,oI 32 29 31 4,oD 33 32 4,⟨some 8,none,(.alc 62 [(.int .i64 0),(.int .i64 0),(.int .i64 0),(.int .i64 0)])⟩,⟨some 9,none,(.alc 60 [(.int .i64 0),(.int .i64 0),(.slice none 0 0),(.int .i64 0)])⟩,⟨none,none,(.sta (.tmp 8) (.tmp 26) 4)⟩,⟨none,none,(.sta (.tmp 9) (.tmp 33) 4)⟩] [131071,49279,0,0,8064,3968,1024,0,384,128,0,63,31,8,0,3,1,0])
 (.seq (.reg [⟨some 10,none,.mov (.const (.slice none 0 0))⟩])
 (.seq (.seq (.reg [oJ 34 3 0,oJ 35 34 2,oL 36 35 1,oW 37 36,oN 38 0])
 (.block 0 (.other (at_ Try.f52 [1,1,1,1,0,1,0]))))
 (.seq (.reg [oM 81 10,oM 6 81])
 .ret))))))
theorem L52:low Try.prog Try.f52.ntmps (at_ Try.f52 [])=some R52:=by kernel_rfl
theorem Zdu:at_ Try.f52 [1,1,1,1,0,1,0]=.loop (at_ Try.f52 [1,1,1,1,0,1,0,0]):=by kernel_rfl
noncomputable def R52x1:RC:=(.seq (.reg [⟨some 39,none,(.cmp .lss (.tmp 38) (.tmp 37))⟩])
 (.seq (.cond (.tmp 39) .skip
 (.exit 0))
 (.seq (.block 1 (.seq (.reg [oM 40 38,oI 41 36 38 4,oD 42 41 4,⟨some 12,none,(.alc 64 [(.int .i64 0),(.int .i64 0),(.int .i64 0),(.int .i64 0)])⟩,oM 11 40,⟨none,none,(.sta (.tmp 12) (.tmp 42) 4)⟩])
 (.seq (.dreg [oJ 43 12 0,oL 44 43 1,oJ 45 8 0,oL 46 45 1,oS 47 .sub 44 46,⟨some 48,none,(.call ⟨(.value (.func 82)),#[(.tmp 47)],#[3]⟩ false)⟩,oJ 49 12 1,oL 50 49 1,oJ 51 8 1,oL 52 51 1,oS 53 .sub 50 52,⟨some 54,none,(.call ⟨(.value (.func 82)),#[(.tmp 53)],#[3]⟩ false)⟩,oS 55 .add 48 54,oJ 56 9 0,oL 57 56 1,oC 58 82 #[(.tmp 57)] #[3],⟨some 59,none,(.cmp .leq (.tmp 55) (.tmp 58))⟩,oM 13 59] [131071,65535,28671,8192,0,4095,2047,960,256,0,64,0,31,15,4,0,1,0])
 (.seq (.reg [oM 60 13,oM 61 60,oG 62 61 true 2,⟨some 63,some (61,true),(.addo (.tmp 12) 3)⟩,oLg 64 61 true 63 1,⟨some 65,some (61,true),(.cmpb .leq (.tmp 62) (.tmp 64))⟩,oA 66 61 65,oM 67 66,⟨some 68,some (67,true),(.addo (.tmp 12) 2)⟩,oLg 69 67 true 68 1,oG 70 67 true 2,⟨some 71,some (67,true),(.addo (.tmp 9) 1)⟩,oLg 72 67 true 71 1,⟨some 73,some (67,true),(.ari .add (.tmp 70) (.tmp 72))⟩,⟨some 74,some (67,true),(.cmpb .leq (.tmp 69) (.tmp 73))⟩,oA 75 67 74])
 (.cond (.tmp 75) (.reg [oM 76 10, oM 77 11, ⟨some 78, none, (.mem ⟨some 78, (.buildSlice 28 1 #[(0, (.tmp 77))]), 28, "", #[], none⟩)⟩, ⟨some 79, none, (.mem ⟨some 79, (.call ⟨(.builtin .append), #[(.tmp 76), (.tmp 78)], #[28, 28]⟩), 28, "", #[], none⟩)⟩, oM 10 79])
 .skip)))))
 (.reg [oR 80 .add 38 1,oM 38 80]))))
theorem Zez:low Try.prog Try.f52.ntmps (at_ Try.f52 [1,1,1,1,0,1,0,0])=some R52x1:=by kernel_rfl
theorem N53:Try.f53.ntmps=15:=by kernel_rfl
theorem Z53:Try.f53.results.toList=(#[(.tmp 6)]:Array ResultVar).toList:=by kernel_rfl
theorem B53:Try.f53.body=some (at_ Try.f53 []):=by kernel_rfl
noncomputable def R53:RC:=(.seq (.reg [oF 6])
 (.seq (.reg [oM 7 1,oM 8 0,⟨some 9,none,(.cmpb .leq (.tmp 7) (.tmp 8))⟩,oM 10 9,oG 11 10 true 0,oG 12 10 true 2,⟨some 13,some (10,true),(.cmpb .leq (.tmp 11) (.tmp 12))⟩,oA 14 10 13,oM 6 14])
 .ret))
theorem L53:low Try.prog Try.f53.ntmps (at_ Try.f53 [])=some R53:=by kernel_rfl
theorem N54:Try.f54.ntmps=36:=by kernel_rfl
theorem Z54:Try.f54.results.toList=(#[(.cell 4 97)]:Array ResultVar).toList:=by kernel_rfl
theorem B54:Try.f54.body=some (at_ Try.f54 []):=by kernel_rfl
noncomputable def R54:RC:=(.seq (.reg [oK 2 82 0,⟨some 4,none,(.alc 97 [(.slice none 0 0),(.slice none 0 0),(.int .i64 0)])⟩])
 (.seq (.reg [oM 8 1, ⟨some 9, none, .pur ⟨some 9, (.build 97 #[(2, (.tmp 8))]), 97, "", #[], none⟩⟩, ⟨some 5, none, (.alc 97 [(.slice none 0 0), (.slice none 0 0), (.int .i64 0)])⟩, ⟨none, none, (.sta (.tmp 5) (.tmp 9) 3)⟩])
 (.seq (.seq (.reg [oJ 10 2 0,oJ 11 10 3,oL 12 11 1,oW 13 12,oN 14 0])
 (.block 0 (.other (at_ Try.f54 [1,1,0,1,0]))))
 (.seq (.reg [oD 35 5 3,⟨none,none,(.sta (.tmp 4) (.tmp 35) 3)⟩])
 .ret))))
theorem L54:low Try.prog Try.f54.ntmps (at_ Try.f54 [])=some R54:=by kernel_rfl
theorem Zd2:at_ Try.f54 [1,1,0,1,0]=.loop (at_ Try.f54 [1,1,0,1,0,0]):=by kernel_rfl
noncomputable def R54x1:RC:=(.seq (.reg [⟨some 15,none,(.cmp .lss (.tmp 14) (.tmp 13))⟩])
 (.seq (.cond (.tmp 15) .skip
 (.exit 0))
 (.seq (.block 1 (.seq (.reg [oM 16 14,oI 17 12 14 4,oD 18 17 4,⟨some 7,none,(.alc 55 [(.int .i64 0),(.int .i64 0),(.int .i64 0),(.int .i64 0)])⟩,oM 6 16,⟨none,none,(.sta (.tmp 7) (.tmp 18) 4)⟩])
 (.seq (.reg [oJ 19 5 0, oL 20 19 1, oJ 21 7 0, oL 22 21 1, ⟨some 23, none, (.mem ⟨some 23, (.buildSlice 28 1 #[(0, (.tmp 22))]), 28, "", #[], none⟩)⟩, ⟨some 24, none, (.mem ⟨some 24, (.call ⟨(.builtin .append), #[(.tmp 20), (.tmp 23)], #[28, 28]⟩), 28, "", #[], none⟩)⟩, oJ 25 5 0, ⟨none, none, .st (.tmp 25) (.tmp 24)⟩])
 (.dreg [oJ 26 5 1, oL 27 26 1, oD 28 2 4, oM 29 6, ⟨some 30, none, .call ⟨(.value (.func 46)), #[(.tmp 28), (.tmp 29)], #[82, 3]⟩ false⟩, ⟨some 31, none, (.mem ⟨some 31, (.buildSlice 95 1 #[(0, (.tmp 30))]), 95, "", #[], none⟩)⟩, ⟨some 32, none, (.mem ⟨some 32, (.call ⟨(.builtin .append), #[(.tmp 27), (.tmp 31)], #[95, 95]⟩), 95, "", #[], none⟩)⟩, oJ 33 5 1, ⟨none, none, .st (.tmp 33) (.tmp 32)⟩] [255, 127, 63, 28, 12, 0, 0, 1, 0]))))
 (.reg [oR 34 .add 14 1,oM 14 34]))))
theorem ZeE:low Try.prog Try.f54.ntmps (at_ Try.f54 [1,1,0,1,0,0])=some R54x1:=by kernel_rfl
theorem N55:Try.f55.ntmps=23:=by kernel_rfl
theorem Z55:Try.f55.results.toList=(#[(.tmp 2),(.tmp 3)]:Array ResultVar).toList:=by kernel_rfl
theorem B55:Try.f55.body=some (at_ Try.f55 []):=by kernel_rfl
noncomputable def R55:RC:=(.seq (.reg [oK 1 97 0,⟨some 2,none,(.mov (.const (.slice none 0 0)))⟩,oF 3])
 (.seq (.seq (.reg [oN 4 16384])
 (.block 0 (.other (at_ Try.f55 [1,0,1,0]))))
 (.seq (.reg [oM 21 2,oM 22 3,oM 2 21,oM 3 22])
 .ret)))
theorem L55:low Try.prog Try.f55.ntmps (at_ Try.f55 [])=some R55:=by kernel_rfl
theorem Zei:at_ Try.f55 [1,0,1,0]=.loop (at_ Try.f55 [1,0,1,0,0]):=by kernel_rfl
noncomputable def R55x1:RC:=(.seq (.seq (.reg [oM 7 4,oQ 8 .geq 7 0])
 (.cond (.tmp 8) .skip
 (.exit 0)))
 (.seq (.block 1 (.seq (.reg [oD 13 1 3,oM 14 4,oC 15 84 #[(.tmp 13),(.tmp 14)] #[97,3],oM 12 15,oE 16 12 0 28,oE 17 12 1 4,oM 5 16,oM 6 17])
 (.seq (.seq (.reg [oM 18 6,oU 19 18])
 (.cond (.tmp 19) (.exit 0)
 .skip))
 (.reg [oM 20 5,oM 2 20,⟨some 3,none,.mov (.const (.bool true))⟩]))))
 (.reg [oM 9 2,oC 10 83 #[(.tmp 9)] #[28],oR 11 .sub 10 1,oM 4 11])))
theorem ZdR:low Try.prog Try.f55.ntmps (at_ Try.f55 [1,0,1,0,0])=some R55x1:=by kernel_rfl
theorem N57:Try.f57.ntmps=9:=by kernel_rfl
theorem Z57:Try.f57.results.toList=(#[(.tmp 4)]:Array ResultVar).toList:=by kernel_rfl
theorem B57:Try.f57.body=some (at_ Try.f57 []):=by kernel_rfl
noncomputable def R57:RC:=(.seq (.reg [oK 3 74 1,oF 4])
 (.seq (.reg [oM 5 0, ⟨some 6, none, (.pur ⟨some 6, (.makeFunc (.func 87) #[] #[(.tmp 3)]), 74, "", #[], none⟩)⟩, oC 7 86 #[(.tmp 5), (.tmp 6)] #[44, 74], oU 8 7, oM 4 8])
 .ret))
theorem L57:low Try.prog Try.f57.ntmps (at_ Try.f57 [])=some R57:=by kernel_rfl
theorem N58:Try.f58.ntmps=27:=by kernel_rfl
theorem Z58:Try.f58.results.toList=(#[(.tmp 2)]:Array ResultVar).toList:=by kernel_rfl
theorem B58:Try.f58.body=some (at_ Try.f58 []):=by kernel_rfl
noncomputable def R58:RC:=(.seq (.reg [oK 1 57 0,oF 2])
 (.seq (.reg [oJ 3 1 0,oL 4 3 1,oC 5 53 #[(.tmp 4),(.const (.int .i64 0)),(.const (.int .i64 1048576))] #[3,3,3],oM 6 5,⟨some 7,some (6,true),(.addo (.tmp 1) 1)⟩,⟨some 8,some (6,true),(.addo (.tmp 7) 0)⟩,oLg 9 6 true 8 1,⟨some 10,some (6,true),(.cmpb .leq (.const (.int .i64 1)) (.tmp 9))⟩,oA 11 6 10,oM 12 11,⟨some 13,some (12,true),(.addo (.tmp 1) 1)⟩,⟨some 14,some (12,true),(.addo (.tmp 13) 0)⟩,oLg 15 12 true 14 1,⟨some 16,some (12,true),(.addo (.tmp 1) 1)⟩,⟨some 17,some (12,true),(.addo (.tmp 16) 1)⟩,oLg 18 12 true 17 1,⟨some 19,some (12,true),(.cmpb .leq (.tmp 15) (.tmp 18))⟩,oA 20 12 19,oM 21 20,⟨some 22,some (21,true),(.addo (.tmp 1) 1)⟩,⟨some 23,some (21,true),(.addo (.tmp 22) 1)⟩,oLg 24 21 true 23 1,oBg 25 21 true .leq 24 1000,oA 26 21 25,oM 2 26])
 .ret))
theorem L58:low Try.prog Try.f58.ntmps (at_ Try.f58 [])=some R58:=by kernel_rfl
theorem N59:Try.f59.ntmps=21:=by kernel_rfl
theorem Z59:Try.f59.results.toList=(#[(.tmp 4)]:Array ResultVar).toList:=by kernel_rfl
theorem B59:Try.f59.body=some (at_ Try.f59 []):=by kernel_rfl
noncomputable def R59:RC:=(.seq (.reg [oN 4 0])
 (.seq (.reg [oN 5 0])
 (.seq (.seq (.reg [oM 8 0,oW 9 8,oN 10 0])
 (.block 0 (.other (at_ Try.f59 [1,1,0,1,0]))))
 (.seq (.reg [oM 20 5,oM 4 20])
 .ret))))
theorem L59:low Try.prog Try.f59.ntmps (at_ Try.f59 [])=some R59:=by kernel_rfl
theorem ZdE:at_ Try.f59 [1,1,0,1,0]=.loop (at_ Try.f59 [1,1,0,1,0,0]):=by kernel_rfl
noncomputable def R59x1:RC:=(.seq (.reg [⟨some 11,none,(.cmp .lss (.tmp 10) (.tmp 9))⟩])
 (.seq (.cond (.tmp 11) .skip
 (.exit 0))
 (.seq (.block 1 (.seq (.reg [oI 12 8 10 3,oD 13 12 3,⟨some 7,none,(.alc 57 [(.int .i64 0),(.int .i64 0),(.int .i64 0)])⟩,⟨none,none,(.sta (.tmp 7) (.tmp 13) 3)⟩])
 (.reg [oM 14 5,oM 15 1,oD 16 7 3,⟨some 17,none,(.call ⟨(.value (.tmp 15)),#[(.tmp 16)],#[57]⟩ true)⟩,oS 18 .add 14 17,oM 5 18])))
 (.reg [oR 19 .add 10 1,oM 10 19]))))
theorem ZeG:low Try.prog Try.f59.ntmps (at_ Try.f59 [1,1,0,1,0,0])=some R59x1:=by kernel_rfl
theorem N60:Try.f60.ntmps=13:=by kernel_rfl
theorem Z60:Try.f60.results.toList=(#[(.tmp 2)]:Array ResultVar).toList:=by kernel_rfl
theorem B60:Try.f60.body=some (at_ Try.f60 []):=by kernel_rfl
theorem N61:Try.f61.ntmps=12:=by kernel_rfl
theorem Z61:Try.f61.results.toList=(#[(.tmp 2)]:Array ResultVar).toList:=by kernel_rfl
theorem B61:Try.f61.body=some (at_ Try.f61 []):=by kernel_rfl
noncomputable def R61:RC:=(.seq (.reg [oK 1 57 0,oN 2 0])
 (.seq (.reg [oJ 3 1 0,oL 4 3 1,oR 5 .add 4 1,oR 6 .mul 5 1000,oR 7 .sub 6 1,oJ 8 1 1,oJ 9 8 0,oL 10 9 1,oS 11 .quo 7 10,oM 2 11])
 .ret))
theorem L61:low Try.prog Try.f61.ntmps (at_ Try.f61 [])=some R61:=by kernel_rfl
theorem N65:Try.f65.ntmps=9:=by kernel_rfl
theorem Z65:Try.f65.results.toList=(#[(.tmp 4)]:Array ResultVar).toList:=by kernel_rfl
theorem B65:Try.f65.body=some (at_ Try.f65 []):=by kernel_rfl
noncomputable def R65:RC:=(.seq (.reg [oK 3 108 1,oF 4])
 (.seq (.reg [oM 5 0, ⟨some 6, none, (.pur ⟨some 6, (.makeFunc (.func 89) #[] #[(.tmp 3)]), 108, "", #[], none⟩)⟩, oC 7 88 #[(.tmp 5), (.tmp 6)] #[22, 108], oU 8 7, oM 4 8])
 .ret))
theorem L65:low Try.prog Try.f65.ntmps (at_ Try.f65 [])=some R65:=by kernel_rfl
theorem N66:Try.f66.ntmps=29:=by kernel_rfl
theorem Z66:Try.f66.results.toList=(#[(.tmp 2)]:Array ResultVar).toList:=by kernel_rfl
theorem B66:Try.f66.body=some (at_ Try.f66 []):=by kernel_rfl
noncomputable def R66:RC:=(.seq (.reg [oK 1 60 0,oF 2])
 (.seq (.reg [oJ 4 1 0,oL 5 4 1,oC 6 90 #[(.tmp 5)] #[3],oM 7 6,⟨some 8,some (7,true),(.addo (.tmp 1) 1)⟩,oLg 9 7 true 8 1,oH 10 7 true 53 #[(.tmp 9),(.const (.int .i64 0)),(.const (.int .i64 30))] #[3,3,3],oA 11 7 10,oM 12 11,⟨some 13,some (12,true),(.addo (.tmp 1) 3)⟩,oLg 14 12 true 13 1,oH 15 12 true 53 #[(.tmp 14),(.const (.int .i64 1)),(.const (.int .i64 16))] #[3,3,3],oA 16 12 15,oM 3 16])
 (.seq (.reg [oM 17 3,oM 18 17,⟨some 19,some (18,true),(.addo (.tmp 1) 2)⟩,oLg 20 18 true 19 1,⟨some 21,some (18,true),(.len (.tmp 20))⟩,oBg 22 18 true .leq 21 8,oA 23 18 22,oM 24 23,⟨some 25,some (24,true),(.addo (.tmp 1) 2)⟩,oLg 26 24 true 25 1,oH 27 24 true 51 #[(.tmp 26),(.func 91)] #[28,80],oA 28 24 27,oM 2 28])
 .ret)))
theorem L66:low Try.prog Try.f66.ntmps (at_ Try.f66 [])=some R66:=by kernel_rfl
theorem N67:Try.f67.ntmps=9:=by kernel_rfl
theorem Z67:Try.f67.results.toList=(#[(.tmp 4)]:Array ResultVar).toList:=by kernel_rfl
theorem B67:Try.f67.body=some (at_ Try.f67 []):=by kernel_rfl
noncomputable def R67:RC:=(.seq (.reg [oK 3 110 1,oF 4])
 (.seq (.reg [oM 5 0, ⟨some 6, none, (.pur ⟨some 6, (.makeFunc (.func 93) #[] #[(.tmp 3)]), 110, "", #[], none⟩)⟩, oC 7 92 #[(.tmp 5), (.tmp 6)] #[23, 110], oU 8 7, oM 4 8])
 .ret))
theorem L67:low Try.prog Try.f67.ntmps (at_ Try.f67 [])=some R67:=by kernel_rfl
theorem N68:Try.f68.ntmps=21:=by kernel_rfl
theorem Z68:Try.f68.results.toList=(#[(.tmp 2)]:Array ResultVar).toList:=by kernel_rfl
theorem B68:Try.f68.body=some (at_ Try.f68 []):=by kernel_rfl
noncomputable def R68:RC:=(.seq (.reg [oK 1 62 0,oF 2])
 (.seq (.reg [oJ 3 1 0,oL 4 3 1,oC 5 90 #[(.tmp 4)] #[3],oM 6 5,⟨some 7,some (6,true),(.addo (.tmp 1) 1)⟩,oLg 8 6 true 7 1,oH 9 6 true 90 #[(.tmp 8)] #[3],oA 10 6 9,oM 11 10,⟨some 12,some (11,true),(.addo (.tmp 1) 2)⟩,oLg 13 11 true 12 1,oH 14 11 true 42 #[(.tmp 13)] #[3],oA 15 11 14,oM 16 15,⟨some 17,some (16,true),(.addo (.tmp 1) 3)⟩,oLg 18 16 true 17 1,oH 19 16 true 41 #[(.tmp 18),(.const (.int .i64 8))] #[3,3],oA 20 16 19,oM 2 20])
 .ret))
theorem L68:low Try.prog Try.f68.ntmps (at_ Try.f68 [])=some R68:=by kernel_rfl
theorem N69:Try.f69.ntmps=9:=by kernel_rfl
theorem Z69:Try.f69.results.toList=(#[(.tmp 4)]:Array ResultVar).toList:=by kernel_rfl
theorem B69:Try.f69.body=some (at_ Try.f69 []):=by kernel_rfl
noncomputable def R69:RC:=(.seq (.reg [oK 3 112 1,oF 4])
 (.seq (.reg [oM 5 0, ⟨some 6, none, (.pur ⟨some 6, (.makeFunc (.func 95) #[] #[(.tmp 3)]), 112, "", #[], none⟩)⟩, oC 7 94 #[(.tmp 5), (.tmp 6)] #[24, 112], oU 8 7, oM 4 8])
 .ret))
theorem L69:low Try.prog Try.f69.ntmps (at_ Try.f69 [])=some R69:=by kernel_rfl
theorem N70:Try.f70.ntmps=28:=by kernel_rfl
theorem Z70:Try.f70.results.toList=(#[(.tmp 2)]:Array ResultVar).toList:=by kernel_rfl
theorem B70:Try.f70.body=some (at_ Try.f70 []):=by kernel_rfl
noncomputable def R70:RC:=(.seq (.reg [oK 1 64 0,oF 2])
 (.seq (.reg [oJ 3 1 0,oL 4 3 1,oC 5 90 #[(.tmp 4)] #[3],oM 6 5,⟨some 7,some (6,true),(.addo (.tmp 1) 1)⟩,oLg 8 6 true 7 1,oH 9 6 true 90 #[(.tmp 8)] #[3],oA 10 6 9,oM 11 10,⟨some 12,some (11,true),(.addo (.tmp 1) 2)⟩,oLg 13 11 true 12 1,oH 14 11 true 42 #[(.tmp 13)] #[3],oA 15 11 14,oM 16 15,⟨some 17,some (16,true),(.addo (.tmp 1) 3)⟩,oLg 18 16 true 17 1,oH 19 16 true 42 #[(.tmp 18)] #[3],oA 20 16 19,oM 21 20,⟨some 22,some (21,true),(.addo (.tmp 1) 2)⟩,oLg 23 21 true 22 1,⟨some 24,some (21,true),(.addo (.tmp 1) 3)⟩,oLg 25 21 true 24 1,⟨some 26,some (21,true),(.cmpb .leq (.tmp 23) (.tmp 25))⟩,oA 27 21 26,oM 2 27])
 .ret))
theorem L70:low Try.prog Try.f70.ntmps (at_ Try.f70 [])=some R70:=by kernel_rfl
theorem N71:Try.f71.ntmps=9:=by kernel_rfl
theorem Z71:Try.f71.results.toList=(#[(.tmp 4)]:Array ResultVar).toList:=by kernel_rfl
theorem B71:Try.f71.body=some (at_ Try.f71 []):=by kernel_rfl
noncomputable def R71:RC:=(.seq (.reg [oK 3 115 1,oF 4])
 (.seq (.reg [oM 5 0, ⟨some 6, none, (.pur ⟨some 6, (.makeFunc (.func 97) #[] #[(.tmp 3)]), 115, "", #[], none⟩)⟩, oC 7 96 #[(.tmp 5), (.tmp 6)] #[25, 115], oU 8 7, oM 4 8])
 .ret))
theorem L71:low Try.prog Try.f71.ntmps (at_ Try.f71 [])=some R71:=by kernel_rfl
theorem N72:Try.f72.ntmps=7:=by kernel_rfl
theorem Z72:Try.f72.results.toList=(#[(.tmp 3)]:Array ResultVar).toList:=by kernel_rfl
theorem B72:Try.f72.body=some (at_ Try.f72 []):=by kernel_rfl
noncomputable def R72:RC:=(.seq (.reg [oK 2 55 0,oF 3])
 (.seq (.reg [oD 4 2 4,oD 5 1 4,oC 6 73 #[(.tmp 4),(.tmp 5)] #[55,27],oM 3 6])
 .ret))
theorem L72:low Try.prog Try.f72.ntmps (at_ Try.f72 [])=some R72:=by kernel_rfl
theorem N73:Try.f73.ntmps=57:=by kernel_rfl
theorem Z73:Try.f73.results.toList=(#[(.tmp 4)]:Array ResultVar).toList:=by kernel_rfl
theorem B73:Try.f73.body=some (at_ Try.f73 []):=by kernel_rfl
noncomputable def R73:RC:=(.seq (.reg [oK 2 55 0,oK 3 27 1,oF 4])
 (.seq (.seq (.reg [oJ 6 2 0,oL 7 6 1,oJ 8 3 1,oL 9 8 1,oW 10 9,oC 11 41 #[(.tmp 7),(.tmp 10)] #[3,3],oU 12 11,oM 13 12,⟨some 14,some (13,false),(.addo (.tmp 2) 1)⟩,oLg 15 13 false 14 1,⟨some 16,some (13,false),(.addo (.tmp 3) 0)⟩,oLg 17 13 false 16 1,⟨some 18,some (13,false),(.len (.tmp 17))⟩,oH 19 13 false 41 #[(.tmp 15),(.tmp 18)] #[3,3],oV 20 13 false 19,oO 21 13 20])
 (.cond (.tmp 21) (.seq (.reg [oF 4])
 .ret)
 .skip))
 (.seq (.reg [oJ 22 2 2,oL 23 22 1,oC 24 42 #[(.tmp 23)] #[3],oM 25 24,⟨some 26,some (25,true),(.addo (.tmp 2) 3)⟩,oLg 27 25 true 26 1,oH 28 25 true 42 #[(.tmp 27)] #[3],oA 29 25 28,oM 30 29,⟨some 31,some (30,true),(.addo (.tmp 2) 3)⟩,oLg 32 30 true 31 1,⟨some 33,some (30,true),(.addo (.tmp 2) 2)⟩,oLg 34 30 true 33 1,⟨some 35,some (30,true),(.ari .sub (.tmp 32) (.tmp 34))⟩,oH 36 30 true 53 #[(.tmp 35),(.const (.int .i64 0)),(.const (.int .i64 40))] #[3,3,3],oA 37 30 36,oM 5 37])
 (.seq (.dreg [oM 38 5,oM 39 38,⟨some 40,some (39,true),(.addo (.tmp 3) 1)⟩,oLg 41 39 true 40 1,⟨some 42,some (39,true),(.addo (.tmp 2) 0)⟩,oLg 43 39 true 42 1,oIg 44 39 true 41 43 4,⟨some 45,some (39,true),(.addo (.tmp 44) 3)⟩,oLg 46 39 true 45 1,⟨some 47,some (39,true),(.addo (.tmp 3) 0)⟩,oLg 48 39 true 47 1,⟨some 49,some (39,true),(.addo (.tmp 2) 1)⟩,oLg 50 39 true 49 1,oIg 51 39 true 48 50 4,⟨some 52,some (39,true),(.addo (.tmp 51) 2)⟩,oLg 53 39 true 52 1,⟨some 54,some (39,true),(.len (.tmp 53))⟩,oH 55 39 true 41 #[(.tmp 46),(.tmp 54)] #[3,3],oA 56 39 55,oM 4 56] [524287,262143,131071,65027,32259,15875,7683,2051,3,515,3,255,127,63,19,3,7,3,1,0])
 .ret))))
theorem L73:low Try.prog Try.f73.ntmps (at_ Try.f73 [])=some R73:=by kernel_rfl
theorem N74:Try.f74.ntmps=38:=by kernel_rfl
theorem Z74:Try.f74.results.toList=(#[(.tmp 2)]:Array ResultVar).toList:=by kernel_rfl
theorem B74:Try.f74.body=some (at_ Try.f74 []):=by kernel_rfl
noncomputable def R74:RC:=(.seq (.reg [oK 1 27 0,oF 2])
 (.seq (.reg [⟨some 7, none, (.mem ⟨some 7, (.makeMap 121 none), 121, "", #[], none⟩)⟩, oM 3 7])
 (.seq (.seq (.reg [oJ 8 1 3,oL 9 8 1,oW 10 9,oN 11 0])
 (.block 0 (.other (at_ Try.f74 [1,1,0,1,0]))))
 (.seq (.reg [⟨some 2,none,.mov (.const (.bool true))⟩])
 .ret))))
theorem L74:low Try.prog Try.f74.ntmps (at_ Try.f74 [])=some R74:=by kernel_rfl
theorem ZeI:at_ Try.f74 [1,1,0,1,0]=.loop (at_ Try.f74 [1,1,0,1,0,0]):=by kernel_rfl
noncomputable def R74x1:RC:=(.seq (.reg [⟨some 12,none,(.cmp .lss (.tmp 11) (.tmp 10))⟩])
 (.seq (.cond (.tmp 12) .skip
 (.exit 0))
 (.seq (.block 1 (.seq (.reg [oI 13 9 11 4,oD 14 13 4,⟨some 5,none,(.alc 55 [(.int .i64 0),(.int .i64 0),(.int .i64 0),(.int .i64 0)])⟩,⟨none,none,(.sta (.tmp 5) (.tmp 14) 4)⟩])
 (.seq (.reg [oJ 15 5 0, oL 16 15 1, oJ 17 5 1, oL 18 17 1, ⟨some 19, none, .pur ⟨some 19, (.build 123 #[(0, (.tmp 16)), (1, (.tmp 18))]), 123, "", #[], none⟩⟩, ⟨some 6, none, (.alc 123 [(.int .i64 0), (.int .i64 0)])⟩, ⟨none, none, (.sta (.tmp 6) (.tmp 19) 2)⟩])
 (.seq (.dreg [oM 20 3, oD 21 6 2, ⟨some 22, none, (.mem ⟨some 22, (.lookup 121 (.tmp 20) (.tmp 21) false), 3, "", #[], none⟩)⟩, oR 23 .add 22 1, ⟨some 24, none, (.mem ⟨some 24, (.mapEntry 121 (.tmp 20) (.tmp 21)), 0, "", #[], none⟩)⟩, oE 25 24 1 3, ⟨none, none, (.mst ⟨none, (.entryStore 121 (.tmp 20) (.tmp 25) (.tmp 23)), 0, "", #[], none⟩)⟩] [63, 19, 3, 7, 3, 0, 0])
 (.seq (.dreg [oM 26 3, oD 27 6 2, ⟨some 28, none, (.mem ⟨some 28, (.lookup 121 (.tmp 26) (.tmp 27) false), 3, "", #[], none⟩)⟩, oJ 29 1 0, oL 30 29 1, oJ 31 5 1, oL 32 31 1, oI 33 30 32 4, oJ 34 33 3, oL 35 34 1, ⟨some 36, none, (.cmp .gtr (.tmp 28) (.tmp 35))⟩] [1023, 504, 248, 120, 32, 0, 8, 0, 3, 0, 0])
 (.cond (.tmp 36) (.seq (.reg [oF 2])
 .ret)
 .skip))))))
 (.reg [oR 37 .add 11 1,oM 11 37]))))
theorem ZeA:low Try.prog Try.f74.ntmps (at_ Try.f74 [1,1,0,1,0,0])=some R74x1:=by kernel_rfl
theorem N78:Try.f78.ntmps=28:=by kernel_rfl
theorem Z78:Try.f78.results.toList=(#[(.tmp 4)]:Array ResultVar).toList:=by kernel_rfl
theorem B78:Try.f78.body=some (at_ Try.f78 []):=by kernel_rfl
noncomputable def R78:RC:=(.seq (.reg [oK 2 82 0,oK 3 55 1,oN 4 0])
 (.seq (.reg [oJ 6 2 0,oJ 7 6 1,oL 8 7 1,oJ 9 3 0,oL 10 9 1,oI 11 8 10 4,oD 12 11 4,⟨some 5,none,(.alc 62 [(.int .i64 0),(.int .i64 0),(.int .i64 0),(.int .i64 0)])⟩,⟨none,none,(.sta (.tmp 5) (.tmp 12) 4)⟩])
 (.seq (.dreg [oJ 13 5 2,oL 14 13 1,oJ 15 2 0,oJ 16 15 0,oL 17 16 1,oJ 18 3 1,oL 19 18 1,oI 20 17 19 4,oJ 21 20 2,oL 22 21 1,oJ 23 5 3,oL 24 23 1,oI 25 22 24 1,oL 26 25 1,oS 27 .sub 14 26,oM 4 27] [32767,16383,8188,4092,1024,0,508,252,124,32,0,12,4,0,1,0])
 .ret)))
theorem L78:low Try.prog Try.f78.ntmps (at_ Try.f78 [])=some R78:=by kernel_rfl
theorem N79:Try.f79.ntmps=32:=by kernel_rfl
theorem Z79:Try.f79.results.toList=(#[]:Array ResultVar).toList:=by kernel_rfl
theorem B79:Try.f79.body=some (at_ Try.f79 []):=by kernel_rfl
noncomputable def R79:RC:=(.seq (.reg [oJ 6 1 0,oJ 7 6 3,oL 8 7 1,oL 9 2 1,oI 10 8 9 4,oD 11 10 4,⟨some 4,none,(.alc 55 [(.int .i64 0),(.int .i64 0),(.int .i64 0),(.int .i64 0)])⟩,⟨none,none,(.sta (.tmp 4) (.tmp 11) 4)⟩])
 (.seq (.reg [oJ 12 4 2,oL 13 12 1,oM 5 13])
 (.block 0 (.other (at_ Try.f79 [1,1,0])))))
theorem L79:low Try.prog Try.f79.ntmps (at_ Try.f79 [])=some R79:=by kernel_rfl
theorem Zem:at_ Try.f79 [1,1,0]=.loop (at_ Try.f79 [1,1,0,0]):=by kernel_rfl
noncomputable def R79x1:RC:=(.seq (.seq (.dreg [oM 14 5,oJ 15 4 3,oL 16 15 1,oD 17 1 4,oD 18 4 4,⟨some 19,none,.call ⟨(.value (.func 78)),#[(.tmp 17),(.tmp 18)],#[82,55]⟩ false⟩,⟨some 20,none,(.mm true (.tmp 16) (.tmp 19))⟩,⟨some 21,none,(.cmp .leq (.tmp 14) (.tmp 20))⟩] [127,62,24,0,0,2,0,0])
 (.cond (.tmp 21) .skip
 (.exit 0)))
 (.seq (.block 1 (.seq (.reg [oM 24 0,oM 25 5,oD 26 1 4,oL 27 2 1,oM 28 5,oC 29 52 #[(.tmp 26),(.tmp 27),(.tmp 28)] #[82,3,3],⟨some 30,none,(.call ⟨(.value (.tmp 24)),#[(.tmp 25),(.tmp 29)],#[3,28]⟩ true)⟩,oU 31 30])
 (.cond (.tmp 31) .ret
 .skip)))
 (.reg [oM 22 5,oR 23 .add 22 1,oM 5 23])))
theorem ZdK:low Try.prog Try.f79.ntmps (at_ Try.f79 [1,1,0,0])=some R79x1:=by kernel_rfl
theorem N80:Try.f80.ntmps=9:=by kernel_rfl
theorem Z80:Try.f80.results.toList=(#[(.tmp 4)]:Array ResultVar).toList:=by kernel_rfl
theorem B80:Try.f80.body=some (at_ Try.f80 []):=by kernel_rfl
noncomputable def R80:RC:=(.seq (.reg [oF 4])
 (.seq (.reg [oM 5 0,oM 6 1,oC 7 98 #[(.tmp 5),(.tmp 6)] #[28,80],oQ 8 .geq 7 0,oM 4 8])
 .ret))
theorem L80:low Try.prog Try.f80.ntmps (at_ Try.f80 [])=some R80:=by kernel_rfl
theorem N81:Try.f81.ntmps=8:=by kernel_rfl
theorem Z81:Try.f81.results.toList=(#[(.tmp 3)]:Array ResultVar).toList:=by kernel_rfl
theorem B81:Try.f81.body=some (at_ Try.f81 []):=by kernel_rfl
noncomputable def R81:RC:=(.seq (.reg [oF 3])
 (.seq (.reg [oL 4 1 1,oM 5 0,⟨some 6,none,(.call ⟨(.value (.tmp 4)),#[(.tmp 5)],#[3]⟩ true)⟩,oU 7 6,oM 3 7])
 .ret))
theorem L81:low Try.prog Try.f81.ntmps (at_ Try.f81 [])=some R81:=by kernel_rfl
theorem N82:Try.f82.ntmps=6:=by kernel_rfl
theorem Z82:Try.f82.results.toList=(#[(.tmp 2)]:Array ResultVar).toList:=by kernel_rfl
theorem B82:Try.f82.body=some (at_ Try.f82 []):=by kernel_rfl
noncomputable def R82:RC:=(.seq (.reg [oN 2 0])
 (.seq (.reg [oM 3 0,oM 4 0,oS 5 .mul 3 4,oM 2 5])
 .ret))
theorem L82:low Try.prog Try.f82.ntmps (at_ Try.f82 [])=some R82:=by kernel_rfl
theorem N83:Try.f83.ntmps=17:=by kernel_rfl
theorem Z83:Try.f83.results.toList=(#[(.tmp 2)]:Array ResultVar).toList:=by kernel_rfl
theorem B83:Try.f83.body=some (at_ Try.f83 []):=by kernel_rfl
noncomputable def R83:RC:=(.seq (.reg [oN 2 0])
 (.seq (.reg [oN 3 0])
 (.seq (.seq (.reg [oM 6 0,oW 7 6,oN 8 0])
 (.block 0 (.other (at_ Try.f83 [1,1,0,1,0]))))
 (.seq (.reg [oM 16 3,oM 2 16])
 .ret))))
theorem L83:low Try.prog Try.f83.ntmps (at_ Try.f83 [])=some R83:=by kernel_rfl
theorem ZdQ:at_ Try.f83 [1,1,0,1,0]=.loop (at_ Try.f83 [1,1,0,1,0,0]):=by kernel_rfl
noncomputable def R83x1:RC:=(.seq (.reg [⟨some 9,none,(.cmp .lss (.tmp 8) (.tmp 7))⟩])
 (.seq (.cond (.tmp 9) .skip
 (.exit 0))
 (.seq (.block 1 (.seq (.reg [oI 10 6 8 1,oL 11 10 1,oM 5 11])
 (.reg [oM 12 3,oM 13 5,⟨some 14,none,(.mm false (.tmp 12) (.tmp 13))⟩,oM 3 14])))
 (.reg [oR 15 .add 8 1,oM 8 15]))))
theorem Zdv:low Try.prog Try.f83.ntmps (at_ Try.f83 [1,1,0,1,0,0])=some R83x1:=by kernel_rfl
theorem N84:Try.f84.ntmps=24:=by kernel_rfl
theorem Z84:Try.f84.results.toList=(#[(.tmp 4),(.tmp 5)]:Array ResultVar).toList:=by kernel_rfl
theorem B84:Try.f84.body=some (at_ Try.f84 []):=by kernel_rfl
noncomputable def R84:RC:=(.seq (.reg [oK 2 97 0,oK 3 3 1,⟨some 4,none,(.mov (.const (.slice none 0 0)))⟩,oF 5])
 (.seq (.reg [oJ 11 2 1, oL 12 11 1, oW 13 12, ⟨some 14, none, (.mem ⟨some 14, (.makeSlice 28 (.tmp 13) (.tmp 13)), 28, "", #[], none⟩)⟩, ⟨some 6, none, (.alc 28 [(.slice none 0 0)])⟩, ⟨none, none, .st (.tmp 6) (.tmp 14)⟩])
 (.seq (.reg [⟨some 15, none, (.mem ⟨some 15, (.makeMap 126 none), 126, "", #[], none⟩)⟩, ⟨some 7, none, (.alc 126 [(.map none)])⟩, ⟨none, none, .st (.tmp 7) (.tmp 15)⟩])
 (.seq (.reg [⟨some 8,none,(.alc 127 [.nilFunc])⟩])
 (.seq (.reg [⟨some 16, none, .pur ⟨some 16, (.makeFunc (.func 99) #[] #[(.tmp 6), (.tmp 2), (.tmp 7), (.tmp 3), (.tmp 8)]), 127, "", #[], none⟩⟩, ⟨none, none, .st (.tmp 8) (.tmp 16)⟩])
 (.seq (.reg [oL 18 8 1,⟨some 19,none,(.call ⟨(.value (.tmp 18)),#[(.const (.int .i64 0))],#[3]⟩ true)⟩,oM 17 19,oE 20 17 0 128,oE 21 17 1 4,oM 9 20,oM 10 21])
 (.seq (.reg [oL 22 6 1,oM 23 10,oM 4 22,oM 5 23])
 .ret)))))))
theorem L84:low Try.prog Try.f84.ntmps (at_ Try.f84 [])=some R84:=by kernel_rfl
theorem N86:Try.f86.ntmps=9:=by kernel_rfl
theorem Z86:Try.f86.results.toList=(#[(.tmp 4)]:Array ResultVar).toList:=by kernel_rfl
theorem B86:Try.f86.body=some (at_ Try.f86 []):=by kernel_rfl
noncomputable def R86:RC:=(.seq (.reg [oF 4])
 (.seq (.reg [oM 5 0,oM 6 1,oC 7 103 #[(.tmp 5),(.tmp 6)] #[44,74],oQ 8 .geq 7 0,oM 4 8])
 .ret))
theorem L86:low Try.prog Try.f86.ntmps (at_ Try.f86 [])=some R86:=by kernel_rfl
theorem N87:Try.f87.ntmps=8:=by kernel_rfl
theorem Z87:Try.f87.results.toList=(#[(.tmp 3)]:Array ResultVar).toList:=by kernel_rfl
theorem B87:Try.f87.body=some (at_ Try.f87 []):=by kernel_rfl
noncomputable def R87:RC:=(.seq (.reg [oK 2 57 0,oF 3])
 (.seq (.reg [oL 4 1 1,oD 5 2 3,⟨some 6,none,(.call ⟨(.value (.tmp 4)),#[(.tmp 5)],#[57]⟩ true)⟩,oU 7 6,oM 3 7])
 .ret))
theorem L87:low Try.prog Try.f87.ntmps (at_ Try.f87 [])=some R87:=by kernel_rfl
theorem N88:Try.f88.ntmps=9:=by kernel_rfl
theorem Z88:Try.f88.results.toList=(#[(.tmp 4)]:Array ResultVar).toList:=by kernel_rfl
theorem B88:Try.f88.body=some (at_ Try.f88 []):=by kernel_rfl
noncomputable def R88:RC:=(.seq (.reg [oF 4])
 (.seq (.reg [oM 5 0,oM 6 1,oC 7 104 #[(.tmp 5),(.tmp 6)] #[22,108],oQ 8 .geq 7 0,oM 4 8])
 .ret))
theorem L88:low Try.prog Try.f88.ntmps (at_ Try.f88 [])=some R88:=by kernel_rfl
theorem N89:Try.f89.ntmps=8:=by kernel_rfl
theorem Z89:Try.f89.results.toList=(#[(.tmp 3)]:Array ResultVar).toList:=by kernel_rfl
theorem B89:Try.f89.body=some (at_ Try.f89 []):=by kernel_rfl
noncomputable def R89:RC:=(.seq (.reg [oK 2 60 0,oF 3])
 (.seq (.reg [oL 4 1 1,oD 5 2 4,⟨some 6,none,(.call ⟨(.value (.tmp 4)),#[(.tmp 5)],#[60]⟩ true)⟩,oU 7 6,oM 3 7])
 .ret))
theorem L89:low Try.prog Try.f89.ntmps (at_ Try.f89 [])=some R89:=by kernel_rfl
theorem N90:Try.f90.ntmps=5:=by kernel_rfl
theorem Z90:Try.f90.results.toList=(#[(.tmp 2)]:Array ResultVar).toList:=by kernel_rfl
theorem B90:Try.f90.body=some (at_ Try.f90 []):=by kernel_rfl
noncomputable def R90:RC:=(.seq (.reg [oF 2])
 (.seq (.reg [oM 3 0,oC 4 53 #[(.tmp 3),(.const (.int .i64 0)),(.const (.int .i64 65536))] #[3,3,3],oM 2 4])
 .ret))
theorem L90:low Try.prog Try.f90.ntmps (at_ Try.f90 [])=some R90:=by kernel_rfl
theorem N91:Try.f91.ntmps=5:=by kernel_rfl
theorem Z91:Try.f91.results.toList=(#[(.tmp 2)]:Array ResultVar).toList:=by kernel_rfl
theorem B91:Try.f91.body=some (at_ Try.f91 []):=by kernel_rfl
noncomputable def R91:RC:=(.seq (.reg [oF 2])
 (.seq (.reg [oM 3 0,oC 4 53 #[(.tmp 3),(.const (.int .i64 0)),(.const (.int .i64 365))] #[3,3,3],oM 2 4])
 .ret))
theorem L91:low Try.prog Try.f91.ntmps (at_ Try.f91 [])=some R91:=by kernel_rfl
theorem N92:Try.f92.ntmps=9:=by kernel_rfl
theorem Z92:Try.f92.results.toList=(#[(.tmp 4)]:Array ResultVar).toList:=by kernel_rfl
theorem B92:Try.f92.body=some (at_ Try.f92 []):=by kernel_rfl
noncomputable def R92:RC:=(.seq (.reg [oF 4])
 (.seq (.reg [oM 5 0,oM 6 1,oC 7 105 #[(.tmp 5),(.tmp 6)] #[23,110],oQ 8 .geq 7 0,oM 4 8])
 .ret))
theorem L92:low Try.prog Try.f92.ntmps (at_ Try.f92 [])=some R92:=by kernel_rfl
theorem N93:Try.f93.ntmps=8:=by kernel_rfl
theorem Z93:Try.f93.results.toList=(#[(.tmp 3)]:Array ResultVar).toList:=by kernel_rfl
theorem B93:Try.f93.body=some (at_ Try.f93 []):=by kernel_rfl
noncomputable def R93:RC:=(.seq (.reg [oK 2 62 0,oF 3])
 (.seq (.reg [oL 4 1 1,oD 5 2 4,⟨some 6,none,(.call ⟨(.value (.tmp 4)),#[(.tmp 5)],#[62]⟩ true)⟩,oU 7 6,oM 3 7])
 .ret))
theorem L93:low Try.prog Try.f93.ntmps (at_ Try.f93 [])=some R93:=by kernel_rfl
theorem N94:Try.f94.ntmps=9:=by kernel_rfl
theorem Z94:Try.f94.results.toList=(#[(.tmp 4)]:Array ResultVar).toList:=by kernel_rfl
theorem B94:Try.f94.body=some (at_ Try.f94 []):=by kernel_rfl
noncomputable def R94:RC:=(.seq (.reg [oF 4])
 (.seq (.reg [oM 5 0,oM 6 1,oC 7 106 #[(.tmp 5),(.tmp 6)] #[24,112],oQ 8 .geq 7 0,oM 4 8])
 .ret))
theorem L94:low Try.prog Try.f94.ntmps (at_ Try.f94 [])=some R94:=by kernel_rfl
theorem N95:Try.f95.ntmps=8:=by kernel_rfl
theorem Z95:Try.f95.results.toList=(#[(.tmp 3)]:Array ResultVar).toList:=by kernel_rfl
theorem B95:Try.f95.body=some (at_ Try.f95 []):=by kernel_rfl
noncomputable def R95:RC:=(.seq (.reg [oK 2 64 0,oF 3])
 (.seq (.reg [oL 4 1 1,oD 5 2 4,⟨some 6,none,(.call ⟨(.value (.tmp 4)),#[(.tmp 5)],#[64]⟩ true)⟩,oU 7 6,oM 3 7])
 .ret))
theorem L95:low Try.prog Try.f95.ntmps (at_ Try.f95 [])=some R95:=by kernel_rfl
theorem N96:Try.f96.ntmps=9:=by kernel_rfl
theorem Z96:Try.f96.results.toList=(#[(.tmp 4)]:Array ResultVar).toList:=by kernel_rfl
theorem B96:Try.f96.body=some (at_ Try.f96 []):=by kernel_rfl
noncomputable def R96:RC:=(.seq (.reg [oF 4])
 (.seq (.reg [oM 5 0,oM 6 1,oC 7 107 #[(.tmp 5),(.tmp 6)] #[25,115],oQ 8 .geq 7 0,oM 4 8])
 .ret))
theorem L96:low Try.prog Try.f96.ntmps (at_ Try.f96 [])=some R96:=by kernel_rfl
theorem N97:Try.f97.ntmps=8:=by kernel_rfl
theorem Z97:Try.f97.results.toList=(#[(.tmp 3)]:Array ResultVar).toList:=by kernel_rfl
theorem B97:Try.f97.body=some (at_ Try.f97 []):=by kernel_rfl
noncomputable def R97:RC:=(.seq (.reg [oK 2 55 0,oF 3])
 (.seq (.reg [oL 4 1 1,oD 5 2 4,⟨some 6,none,(.call ⟨(.value (.tmp 4)),#[(.tmp 5)],#[55]⟩ true)⟩,oU 7 6,oM 3 7])
 .ret))
theorem L97:low Try.prog Try.f97.ntmps (at_ Try.f97 [])=some R97:=by kernel_rfl
theorem N98:Try.f98.ntmps=19:=by kernel_rfl
theorem Z98:Try.f98.results.toList=(#[(.tmp 4)]:Array ResultVar).toList:=by kernel_rfl
theorem B98:Try.f98.body=some (at_ Try.f98 []):=by kernel_rfl
noncomputable def R98:RC:=(.seq (.reg [oN 4 0])
 (.seq (.seq (.reg [oM 6 0,oW 7 6,oN 8 0])
 (.block 0 (.other (at_ Try.f98 [1,0,1,0]))))
 (.seq (.reg [⟨some 4,none,.mov (.const (.int .i64 (-1)))⟩])
 .ret)))
theorem L98:low Try.prog Try.f98.ntmps (at_ Try.f98 [])=some R98:=by kernel_rfl
theorem Zeu:at_ Try.f98 [1,0,1,0]=.loop (at_ Try.f98 [1,0,1,0,0]):=by kernel_rfl
noncomputable def R98x1:RC:=(.seq (.reg [⟨some 9,none,(.cmp .lss (.tmp 8) (.tmp 7))⟩])
 (.seq (.cond (.tmp 9) .skip
 (.exit 0))
 (.seq (.block 1 (.seq (.reg [oM 10 8,oM 5 10])
 (.seq (.reg [oM 11 1,oM 12 0,oM 13 5,oI 14 12 13 1,oL 15 14 1,⟨some 16,none,.call ⟨(.value (.tmp 11)),#[(.tmp 15)],#[3]⟩ true⟩])
 (.cond (.tmp 16) (.seq (.reg [oM 17 5,oM 4 17])
 .ret)
 .skip))))
 (.reg [oR 18 .add 8 1,oM 8 18]))))
theorem ZdM:low Try.prog Try.f98.ntmps (at_ Try.f98 [1,0,1,0,0])=some R98x1:=by kernel_rfl
theorem N99:Try.f99.ntmps=81:=by kernel_rfl
theorem Z99:Try.f99.results.toList=(#[(.tmp 7),(.tmp 8)]:Array ResultVar).toList:=by kernel_rfl
theorem B99:Try.f99.body=some (at_ Try.f99 []):=by kernel_rfl
noncomputable def R99:RC:=(.seq (.reg [⟨some 7,none,(.mov (.const (.int .u8 0)))⟩,oF 8])
 (.scp (.seq (.seq (.reg [oM 15 0,oL 16 1 1,oW 17 16,⟨some 18,none,(.cmp .eql (.tmp 15) (.tmp 17))⟩])
 (.cond (.tmp 18) (.seq (.reg [⟨some 7,none,.mov (.const (.int .u8 0))⟩,⟨some 8,none,.mov (.const (.bool true))⟩])
 .ret)
 .skip))
 (.seq .skip
 (.seq (.seq (.reg [oJ 19 2 1,oL 20 19 1,oM 21 0,oI 22 20 21 1,oL 23 22 1,oW 24 23,oN 25 0])
 (.block 0 (.other (at_ Try.f99 [1,0,1,1,0,1,0]))))
 (.seq (.reg [oM 80 7,oM 7 80,oF 8])
 .ret))))))
theorem L99:low Try.prog Try.f99.ntmps (at_ Try.f99 [])=some R99:=by kernel_rfl
theorem Zec:at_ Try.f99 [1,0,1,1,0,1,0]=.loop (at_ Try.f99 [1,0,1,1,0,1,0,0]):=by kernel_rfl
noncomputable def R99x1:RC:=(.seq (.reg [⟨some 26,none,(.cmp .lss (.tmp 25) (.tmp 24))⟩])
 (.seq (.cond (.tmp 26) .skip
 (.exit 0))
 (.seq (.block 1 (.seq (.reg [oI 27 23 25 1,oL 28 27 1,oM 10 28])
 (.seq (.reg [oJ 29 2 0, oL 30 29 1, oM 31 0, oI 32 30 31 1, oL 33 32 1, oM 34 10, ⟨some 35, none, .pur ⟨some 35, (.build 130 #[(0, (.tmp 33)), (1, (.tmp 34))]), 130, "", #[], none⟩⟩, ⟨some 11, none, (.alc 130 [(.int .i64 0), (.int .i64 0)])⟩, ⟨none, none, (.sta (.tmp 11) (.tmp 35) 2)⟩])
 (.seq (.reg [oL 36 3 1,oD 37 11 2,oJ 38 2 2,oL 39 38 1,oC 40 100 #[(.tmp 36),(.tmp 37),(.tmp 39)] #[126,130,3],oM 12 40])
 (.seq (.block 2 (.seq (.reg [oM 42 10,oL 43 4 1,⟨some 44,none,(.cmp .gtr (.tmp 42) (.tmp 43))⟩,oM 41 44])
 (.cond (.tmp 41) (.exit 0)
 (.seq (.reg [oM 46 12, ⟨some 47, none, (.pur ⟨some 47, (.binOp .neq 128 (.tmp 46) (.const (.int .u8 0)) 128), 4, "", #[], none⟩)⟩, oM 45 47])
 (.cond (.tmp 45) (.seq (.reg [oM 48 7, oM 49 12, ⟨some 50, none, (.pur ⟨some 50, (.binOp .or 128 (.tmp 48) (.tmp 49) 128), 128, "", #[], none⟩)⟩, oM 7 50])
 (.exit 1))
 .skip)))))
 (.seq (.dreg [oL 51 1 1, oM 52 0, oL 53 3 1, oD 54 11 2, oM 55 10, oM 56 0, oI 57 51 52 1, ⟨none, none, .st (.tmp 57) (.tmp 55)⟩, ⟨none, none, (.mst ⟨none, (.mapUpdate 126 (.tmp 53) (.tmp 54) (.tmp 56)), 0, "", #[], none⟩)⟩] [255, 83, 19, 0, 0, 0, 0, 0, 0])
 (.seq (.reg [oL 59 5 1,oM 60 0,oR 61 .add 60 1,⟨some 62,none,(.call ⟨(.value (.tmp 59)),#[(.tmp 61)],#[3]⟩ true)⟩,oM 58 62,oE 63 58 0 128,oE 64 58 1 4,oM 13 63,oM 14 64])
 (.seq (.seq (.reg [oM 65 14])
 (.cond (.tmp 65) (.seq (.reg [⟨some 7,none,.mov (.const (.int .u8 0))⟩,⟨some 8,none,.mov (.const (.bool true))⟩])
 .ret)
 .skip))
 (.seq (.reg [oL 66 3 1, oD 67 11 2, ⟨none, none, (.mem ⟨none, (.call ⟨(.builtin .delete), #[(.tmp 66), (.tmp 67)], #[126, 130]⟩), 0, "", #[], none⟩)⟩])
 (.seq (.seq (.reg [oM 68 13,oM 69 0,oC 70 101 #[(.tmp 68),(.tmp 69)] #[128,3],oU 71 70])
 (.cond (.tmp 71) (.seq (.reg [oM 72 13,oM 7 72,oF 8])
 .ret)
 .skip))
 (.reg [oM 73 7, oM 74 13, oM 75 0, oC 76 102 #[(.tmp 75)] #[3], ⟨some 77, none, .pur ⟨some 77, (.binOp .andNot 128 (.tmp 74) (.tmp 76) 128), 128, "", #[], none⟩⟩, ⟨some 78, none, (.pur ⟨some 78, (.binOp .or 128 (.tmp 73) (.tmp 77) 128), 128, "", #[], none⟩)⟩, oM 7 78])))))))))))
 (.reg [oR 79 .add 25 1,oM 25 79]))))
theorem Zdw:low Try.prog Try.f99.ntmps (at_ Try.f99 [1,0,1,1,0,1,0,0])=some R99x1:=by kernel_rfl
theorem ZdT:Try.f100.ntmps=42:=by kernel_rfl
theorem Ze1:Try.f100.results.toList=(#[(.tmp 6)]:Array ResultVar).toList:=by kernel_rfl
theorem Ze6:Try.f100.body=some (at_ Try.f100 []):=by kernel_rfl
noncomputable def R100:RC:=(.seq (.reg [oK 4 130 1,⟨some 6,none,.mov (.const (.int .u8 0))⟩])
 (.seq (.seq (.reg [oM 13 0, oD 14 4 2, ⟨some 15, none, (.mem ⟨some 15, (.lookup 126 (.tmp 13) (.tmp 14) true), 139, "", #[], none⟩)⟩, oM 12 15, oE 16 12 0 3, oE 17 12 1 4, oM 7 16, oM 8 17])
 (.seq (.reg [oM 18 8])
 (.cond (.tmp 18) (.seq (.reg [oM 19 7,oC 20 102 #[(.tmp 19)] #[3],oM 6 20])
 .ret)
 .skip)))
 (.seq (.reg [⟨some 9,none,.mov (.const (.int .u8 0))⟩])
 (.seq (.seq (.reg [oM 21 0,⟨some 22,none,(.rng (.tmp 21))⟩])
 (.block 0 (.other (at_ Try.f100 [1,1,1,0,1,0]))))
 (.seq (.seq (.reg [oM 37 9,oC 38 108 #[(.tmp 37)] #[128],oM 39 2,⟨some 40,none,(.cmp .lss (.tmp 38) (.tmp 39))⟩])
 (.cond (.tmp 40) (.seq (.reg [⟨some 6,none,.mov (.const (.int .u8 0))⟩])
 .ret)
 .skip))
 (.seq (.reg [oM 41 9,oM 6 41])
 .ret))))))
theorem Ze2:low Try.prog Try.f100.ntmps (at_ Try.f100 [])=some R100:=by kernel_rfl
theorem ZcS:at_ Try.f100 [1,1,1,0,1,0]=.loop (at_ Try.f100 [1,1,1,0,1,0,0]):=by kernel_rfl
noncomputable def R100x1:RC:=(.seq (.reg [⟨some 23,none,(.nxt (.tmp 22))⟩,oE 24 23 0 4])
 (.seq (.cond (.tmp 24) .skip
 (.exit 0))
 (.block 1 (.seq (.reg [⟨some 25,none,(.ent (.tmp 22))⟩,oE 26 25 0 130,oE 27 25 1 3,⟨some 10,none,(.alc 130 [(.int .i64 0),(.int .i64 0)])⟩,⟨none,none,(.sta (.tmp 10) (.tmp 26) 2)⟩,oM 11 27])
 (.seq (.reg [oJ 28 10 1,oL 29 28 1,oJ 30 4 1,oL 31 30 1,⟨some 32,none,(.cmp .eql (.tmp 29) (.tmp 31))⟩])
 (.cond (.tmp 32) (.reg [oM 33 9, oM 34 11, oC 35 102 #[(.tmp 34)] #[3], ⟨some 36, none, (.pur ⟨some 36, (.binOp .or 128 (.tmp 33) (.tmp 35) 128), 128, "", #[], none⟩)⟩, oM 9 36])
 .skip))))))
theorem ZcF:low Try.prog Try.f100.ntmps (at_ Try.f100 [1,1,1,0,1,0,0])=some R100x1:=by kernel_rfl
theorem Zfw:Try.f101.ntmps=10:=by kernel_rfl
theorem Zfl:Try.f101.results.toList=(#[(.tmp 4)]:Array ResultVar).toList:=by kernel_rfl
theorem ZeL:Try.f101.body=some (at_ Try.f101 []):=by kernel_rfl
noncomputable def R101:RC:=(.seq (.reg [oF 4])
 (.seq (.reg [oM 5 0, oM 6 1, oC 7 102 #[(.tmp 6)] #[3], ⟨some 8, none, .pur ⟨some 8, (.binOp .and 128 (.tmp 5) (.tmp 7) 128), 128, "", #[], none⟩⟩, ⟨some 9, none, (.pur ⟨some 9, (.binOp .neq 128 (.tmp 8) (.const (.int .u8 0)) 128), 4, "", #[], none⟩)⟩, oM 4 9])
 .ret))
theorem ZeV:low Try.prog Try.f101.ntmps (at_ Try.f101 [])=some R101:=by kernel_rfl
theorem Zfg:Try.f102.ntmps=5:=by kernel_rfl
theorem Zfq:Try.f102.results.toList=(#[(.tmp 2)]:Array ResultVar).toList:=by kernel_rfl
theorem ZeS:Try.f102.body=some (at_ Try.f102 []):=by kernel_rfl
noncomputable def R102:RC:=(.seq (.reg [⟨some 2,none,.mov (.const (.int .u8 0))⟩])
 (.seq (.reg [oM 3 0, ⟨some 4, none, (.pur ⟨some 4, (.binOp .shl 128 (.const (.int .u8 1)) (.tmp 3) 3), 128, "", #[], none⟩)⟩, oM 2 4])
 .ret))
theorem ZfD:low Try.prog Try.f102.ntmps (at_ Try.f102 [])=some R102:=by kernel_rfl
theorem Zee:Try.f103.ntmps=19:=by kernel_rfl
theorem ZeZ:Try.f103.results.toList=(#[(.tmp 4)]:Array ResultVar).toList:=by kernel_rfl
theorem Zfp:Try.f103.body=some (at_ Try.f103 []):=by kernel_rfl
noncomputable def R103:RC:=(.seq (.reg [oN 4 0])
 (.seq (.seq (.reg [oM 6 0,oW 7 6,oN 8 0])
 (.block 0 (.other (at_ Try.f103 [1,0,1,0]))))
 (.seq (.reg [⟨some 4,none,.mov (.const (.int .i64 (-1)))⟩])
 .ret)))
theorem ZeO:low Try.prog Try.f103.ntmps (at_ Try.f103 [])=some R103:=by kernel_rfl
theorem Zdr:at_ Try.f103 [1,0,1,0]=.loop (at_ Try.f103 [1,0,1,0,0]):=by kernel_rfl
noncomputable def R103x1:RC:=(.seq (.reg [⟨some 9,none,(.cmp .lss (.tmp 8) (.tmp 7))⟩])
 (.seq (.cond (.tmp 9) .skip
 (.exit 0))
 (.seq (.block 1 (.seq (.reg [oM 10 8,oM 5 10])
 (.seq (.reg [oM 11 1,oM 12 0,oM 13 5,oI 14 12 13 3,oD 15 14 3,⟨some 16,none,.call ⟨(.value (.tmp 11)),#[(.tmp 15)],#[57]⟩ true⟩])
 (.cond (.tmp 16) (.seq (.reg [oM 17 5,oM 4 17])
 .ret)
 .skip))))
 (.reg [oR 18 .add 8 1,oM 8 18]))))
theorem Zcz:low Try.prog Try.f103.ntmps (at_ Try.f103 [1,0,1,0,0])=some R103x1:=by kernel_rfl
theorem Zdx:Try.f104.ntmps=19:=by kernel_rfl
theorem Zfh:Try.f104.results.toList=(#[(.tmp 4)]:Array ResultVar).toList:=by kernel_rfl
theorem ZfA:Try.f104.body=some (at_ Try.f104 []):=by kernel_rfl
noncomputable def R104:RC:=(.seq (.reg [oN 4 0])
 (.seq (.seq (.reg [oM 6 0,oW 7 6,oN 8 0])
 (.block 0 (.other (at_ Try.f104 [1,0,1,0]))))
 (.seq (.reg [⟨some 4,none,.mov (.const (.int .i64 (-1)))⟩])
 .ret)))
theorem ZfB:low Try.prog Try.f104.ntmps (at_ Try.f104 [])=some R104:=by kernel_rfl
theorem Zc8:at_ Try.f104 [1,0,1,0]=.loop (at_ Try.f104 [1,0,1,0,0]):=by kernel_rfl
noncomputable def R104x1:RC:=(.seq (.reg [⟨some 9,none,(.cmp .lss (.tmp 8) (.tmp 7))⟩])
 (.seq (.cond (.tmp 9) .skip
 (.exit 0))
 (.seq (.block 1 (.seq (.reg [oM 10 8,oM 5 10])
 (.seq (.reg [oM 11 1,oM 12 0,oM 13 5,oI 14 12 13 4,oD 15 14 4,⟨some 16,none,.call ⟨(.value (.tmp 11)),#[(.tmp 15)],#[60]⟩ true⟩])
 (.cond (.tmp 16) (.seq (.reg [oM 17 5,oM 4 17])
 .ret)
 .skip))))
 (.reg [oR 18 .add 8 1,oM 8 18]))))
theorem ZcY:low Try.prog Try.f104.ntmps (at_ Try.f104 [1,0,1,0,0])=some R104x1:=by kernel_rfl
theorem ZdI:Try.f105.ntmps=19:=by kernel_rfl
theorem ZeN:Try.f105.results.toList=(#[(.tmp 4)]:Array ResultVar).toList:=by kernel_rfl
theorem Zft:Try.f105.body=some (at_ Try.f105 []):=by kernel_rfl
noncomputable def R105:RC:=(.seq (.reg [oN 4 0])
 (.seq (.seq (.reg [oM 6 0,oW 7 6,oN 8 0])
 (.block 0 (.other (at_ Try.f105 [1,0,1,0]))))
 (.seq (.reg [⟨some 4,none,.mov (.const (.int .i64 (-1)))⟩])
 .ret)))
theorem ZeX:low Try.prog Try.f105.ntmps (at_ Try.f105 [])=some R105:=by kernel_rfl
theorem Zcw:at_ Try.f105 [1,0,1,0]=.loop (at_ Try.f105 [1,0,1,0,0]):=by kernel_rfl
noncomputable def R105x1:RC:=(.seq (.reg [⟨some 9,none,(.cmp .lss (.tmp 8) (.tmp 7))⟩])
 (.seq (.cond (.tmp 9) .skip
 (.exit 0))
 (.seq (.block 1 (.seq (.reg [oM 10 8,oM 5 10])
 (.seq (.reg [oM 11 1,oM 12 0,oM 13 5,oI 14 12 13 4,oD 15 14 4,⟨some 16,none,.call ⟨(.value (.tmp 11)),#[(.tmp 15)],#[62]⟩ true⟩])
 (.cond (.tmp 16) (.seq (.reg [oM 17 5,oM 4 17])
 .ret)
 .skip))))
 (.reg [oR 18 .add 8 1,oM 8 18]))))
theorem Zdh:low Try.prog Try.f105.ntmps (at_ Try.f105 [1,0,1,0,0])=some R105x1:=by kernel_rfl
theorem ZdF:Try.f106.ntmps=19:=by kernel_rfl
theorem Ze5:Try.f106.results.toList=(#[(.tmp 4)]:Array ResultVar).toList:=by kernel_rfl
theorem Zfm:Try.f106.body=some (at_ Try.f106 []):=by kernel_rfl
noncomputable def R106:RC:=(.seq (.reg [oN 4 0])
 (.seq (.seq (.reg [oM 6 0,oW 7 6,oN 8 0])
 (.block 0 (.other (at_ Try.f106 [1,0,1,0]))))
 (.seq (.reg [⟨some 4,none,.mov (.const (.int .i64 (-1)))⟩])
 .ret)))
theorem Zfd:low Try.prog Try.f106.ntmps (at_ Try.f106 [])=some R106:=by kernel_rfl
theorem Zde:at_ Try.f106 [1,0,1,0]=.loop (at_ Try.f106 [1,0,1,0,0]):=by kernel_rfl
noncomputable def R106x1:RC:=(.seq (.reg [⟨some 9,none,(.cmp .lss (.tmp 8) (.tmp 7))⟩])
 (.seq (.cond (.tmp 9) .skip
 (.exit 0))
 (.seq (.block 1 (.seq (.reg [oM 10 8,oM 5 10])
 (.seq (.reg [oM 11 1,oM 12 0,oM 13 5,oI 14 12 13 4,oD 15 14 4,⟨some 16,none,.call ⟨(.value (.tmp 11)),#[(.tmp 15)],#[64]⟩ true⟩])
 (.cond (.tmp 16) (.seq (.reg [oM 17 5,oM 4 17])
 .ret)
 .skip))))
 (.reg [oR 18 .add 8 1,oM 8 18]))))
theorem ZcQ:low Try.prog Try.f106.ntmps (at_ Try.f106 [1,0,1,0,0])=some R106x1:=by kernel_rfl
theorem Zdz:Try.f107.ntmps=19:=by kernel_rfl
theorem Zfe:Try.f107.results.toList=(#[(.tmp 4)]:Array ResultVar).toList:=by kernel_rfl
theorem Zfx:Try.f107.body=some (at_ Try.f107 []):=by kernel_rfl
noncomputable def R107:RC:=(.seq (.reg [oN 4 0])
 (.seq (.seq (.reg [oM 6 0,oW 7 6,oN 8 0])
 (.block 0 (.other (at_ Try.f107 [1,0,1,0]))))
 (.seq (.reg [⟨some 4,none,.mov (.const (.int .i64 (-1)))⟩])
 .ret)))
theorem Zfy:low Try.prog Try.f107.ntmps (at_ Try.f107 [])=some R107:=by kernel_rfl
theorem ZcG:at_ Try.f107 [1,0,1,0]=.loop (at_ Try.f107 [1,0,1,0,0]):=by kernel_rfl
noncomputable def R107x1:RC:=(.seq (.reg [⟨some 9,none,(.cmp .lss (.tmp 8) (.tmp 7))⟩])
 (.seq (.cond (.tmp 9) .skip
 (.exit 0))
 (.seq (.block 1 (.seq (.reg [oM 10 8,oM 5 10])
 (.seq (.reg [oM 11 1,oM 12 0,oM 13 5,oI 14 12 13 4,oD 15 14 4,⟨some 16,none,.call ⟨(.value (.tmp 11)),#[(.tmp 15)],#[55]⟩ true⟩])
 (.cond (.tmp 16) (.seq (.reg [oM 17 5,oM 4 17])
 .ret)
 .skip))))
 (.reg [oR 18 .add 8 1,oM 8 18]))))
theorem Zdp:low Try.prog Try.f107.ntmps (at_ Try.f107 [1,0,1,0,0])=some R107x1:=by kernel_rfl
theorem Ze4:Try.f108.ntmps=5:=by kernel_rfl
theorem Zfk:Try.f108.results.toList=(#[(.tmp 2)]:Array ResultVar).toList:=by kernel_rfl
theorem ZeM:Try.f108.body=some (at_ Try.f108 []):=by kernel_rfl
noncomputable def R108:RC:=(.seq (.reg [oN 2 0])
 (.seq (.reg [oM 3 0,oC 4 109 #[(.tmp 3)] #[5],oM 2 4])
 .ret))
theorem Zfs:low Try.prog Try.f108.ntmps (at_ Try.f108 [])=some R108:=by kernel_rfl
theorem Ze9:Try.f109.ntmps=6:=by kernel_rfl
theorem ZeT:Try.f109.results.toList=(#[(.tmp 2)]:Array ResultVar).toList:=by kernel_rfl
theorem Ze7:Try.f109.body=some (at_ Try.f109 []):=by kernel_rfl
noncomputable def R109:RC:=(.seq (.reg [oN 2 0])
 (.seq (.reg [oM 3 0, ⟨some 4, none, .pur ⟨some 4, (.index 9 (.const (.string (.mk #[0, 1, 1, 2, 1, 2, 2, 3, 1, 2, 2, 3, 2, 3, 3, 4, 1, 2, 2, 3, 2, 3, 3, 4, 2, 3, 3, 4, 3, 4, 4, 5, 1, 2, 2, 3, 2, 3, 3, 4, 2, 3, 3, 4, 3, 4, 4, 5, 2, 3, 3, 4, 3, 4, 4, 5, 3, 4, 4, 5, 4, 5, 5, 6, 1, 2, 2, 3, 2, 3, 3, 4, 2, 3, 3, 4, 3, 4, 4, 5, 2, 3, 3, 4, 3, 4, 4, 5, 3, 4, 4, 5, 4, 5, 5, 6, 2, 3, 3, 4, 3, 4, 4, 5, 3, 4, 4, 5, 4, 5, 5, 6, 3, 4, 4, 5, 4, 5, 5, 6, 4, 5, 5, 6, 5, 6, 6, 7, 1, 2, 2, 3, 2, 3, 3, 4, 2, 3, 3, 4, 3, 4, 4, 5, 2, 3, 3, 4, 3, 4, 4, 5, 3, 4, 4, 5, 4, 5, 5, 6, 2, 3, 3, 4, 3, 4, 4, 5, 3, 4, 4, 5, 4, 5, 5, 6, 3, 4, 4, 5, 4, 5, 5, 6, 4, 5, 5, 6, 5, 6, 6, 7, 2, 3, 3, 4, 3, 4, 4, 5, 3, 4, 4, 5, 4, 5, 5, 6, 3, 4, 4, 5, 4, 5, 5, 6, 4, 5, 5, 6, 5, 6, 6, 7, 3, 4, 4, 5, 4, 5, 5, 6, 4, 5, 5, 6, 5, 6, 6, 7, 4, 5, 5, 6, 5, 6, 6, 7, 5, 6, 6, 7, 6, 7, 7, 8]))) (.tmp 3)), 5, "", #[], none⟩⟩, ⟨some 5, none, (.pur ⟨some 5, (.convert 5 3 (.tmp 4)), 3, "", #[], none⟩)⟩, oM 2 5])
 .ret))
theorem Zfo:low Try.prog Try.f109.ntmps (at_ Try.f109 [])=some R109:=by kernel_rfl
end Go.Ax

/-! Plans: jobs and their days (no program in it). -/
namespace Go.Ax
def cnQ (n:Nat) (q:Nat→Int) (d:Int):Nat:=((List.range n).filter fun k=>decide (q k=d)).length
theorem yd {n:Nat} {q:Nat→Int} {d:Int}:cnQ (n+1) q d=cnQ n q d+(if q n=d then 1 else 0):=by
 unfold cnQ
 rw [List.range_succ,List.filter_append,List.length_append]
 congr 1
 by_cases h:q n=d
 ·rw [if_pos h];simp [h]
 ·rw [if_neg h];simp [h]
theorem UC {p q:Nat→Int} {d:Int}:∀ {n:Nat},(∀ b,b < n→p b=d→q b=d)→cnQ n p d≤cnQ n q d
 | 0,_=>Nat.le_refl _
 | n+1,h=>by
  have ih:=UC (n:=n) fun b hb=>h b (by omega)
  rw [yd,yd]
  have:=h n (by omega)
  by_cases e:p n=d
  ·rw [if_pos e,if_pos (this e)];omega
  ·rw [if_neg e];omega
theorem Zc4 {q:Nat→Int} {d:Int} {j n:Nat} (h:j≤n):cnQ j q d≤cnQ n q d:=by
 induction h with
 | refl=>exact Nat.le_refl _
 | step _ ih=>rw [yd];omega
theorem J4 {p q:Nat→Int} {d:Int} {n:Nat} (h:∀ b,b < n→p b=q b):cnQ n p d=cnQ n q d:=
 Nat.le_antisymm (UC fun b hb e=>by rw [← h b hb];exact e) (UC fun b hb e=>by rw [h b hb];exact e)
structure OkQ (n:Nat) (D:Nat→List Int) (B:Nat→Int) (cr lim:Int) (q:Nat→Int):Prop where
 mem:∀ i,i < n→q i∈D i
 le:∀ i,i < n→q i≤lim
 bed:∀ i j,i < j→j < n→B i=B j→q i≠q j
 crew:∀ i,i < n→(cnQ n q (q i):Int)≤cr
section
variable {n:Nat} {D:Nat→List Int} {B:Nat→Int} {cr lim:Int} {p q:Nat→Int}
theorem OkQ.congr (h:OkQ n D B cr lim p) (e:∀ i,i < n→q i=p i):OkQ n D B cr lim q where
 mem i hi:=by rw [e i hi];exact h.mem i hi
 le i hi:=by rw [e i hi];exact h.le i hi
 bed i j hij hj hb:=by rw [e i (by omega),e j hj];exact h.bed i j hij hj hb
 crew i hi:=by rw [e i hi,J4 (q:=p) e];exact h.crew i hi
theorem OkQ.upto (h:OkQ n D B cr lim p) {l2:Int} (hl:∀ i,i < n→p i≤l2):OkQ n D B cr l2 p:=⟨h.mem,hl,h.bed,h.crew⟩
def Vi (p:Nat→Int) (j:Nat) (d:Int):Nat→Int:=fun i=>if i=j then d else p i
theorem Y3 {j:Nat} {d:Int}:Vi p j d j=d:=by unfold Vi;rw [if_pos rfl]
theorem Yv {j i:Nat} {d:Int} (h:i≠j):Vi p j d i=p i:=by unfold Vi;rw [if_neg h]
theorem OkQ.put {j:Nat} {d:Int} (h:OkQ j D B cr lim p) (hm:d∈D j) (hl:d≤lim) (hb:∀ k,k < j→B k=B j→p k≠d) (hc:(cnQ j p d:Int) < cr):OkQ (j+1) D B cr lim (Vi p j d) where
 mem i hi:=by
  by_cases e:i=j
  ·subst e;rw [Y3];exact hm
  ·rw [Yv e];exact h.mem i (by omega)
 le i hi:=by
  by_cases e:i=j
  ·subst e;rw [Y3];exact hl
  ·rw [Yv e];exact h.le i (by omega)
 bed i k hik hk hB:=by
  by_cases e:k=j
  ·subst e;rw [Y3,Yv (by omega)];exact hb i hik hB
  ·rw [Yv e,Yv (by omega)];exact h.bed i k hik (by omega) hB
 crew i hi:=by
  have e1:∀ x,cnQ j (Vi p j d) x=cnQ j p x:=fun x=>J4 fun b hb=>Yv (by omega)
  rw [yd,e1,Y3]
  by_cases e:i=j
  ·subst e;rw [Y3,if_pos rfl];omega
  ·rw [Yv e]
   have:=h.crew i (by omega)
   by_cases e2:d=p i
   ·rw [← e2,if_pos rfl];omega
   ·rw [if_neg e2];omega
def zT (n:Nat) (D:Nat→List Int) (B:Nat→Int) (cr lim:Int) (j:Nat) (p:Nat→Int) (s:Nat→Bool):Prop:=
 (∀ b,s b=true→b < j)∧∀ q,OkQ n D B cr lim q→(∀ b,s b=true→q b=p b)→False
def XT (n:Nat) (D:Nat→List Int) (B:Nat→Int) (cr lim:Int) (j:Nat) (p:Nat→Int) (s:Nat→Bool) (i:Nat):Prop:=
 (∀ b,s b=true→b < j)∧∀ q,OkQ n D B cr lim q→(∀ b,s b=true→q b=p b)→q j ∉ (D j).take i
theorem XT.zero {j:Nat} {s:Nat→Bool} (hs:∀ b,s b=false):XT n D B cr lim j p s 0:=⟨fun b h=>(by rw [hs b] at h;cases h),fun q _ _ h=>(by simp at h)⟩
theorem XT.next {j i:Nat} {s s2:Nat→Bool} (h:XT n D B cr lim j p s i) (hi:i < (D j).length) (hs:∀ b,s b=true→s2 b=true) (h2:∀ b,s2 b=true→b < j) (hd:∀ q,OkQ n D B cr lim q→(∀ b,s2 b=true→q b=p b)→q j≠(D j).getD i 0):XT n D B cr lim j p s2 (i+1):=by
 refine ⟨h2,fun q hq ha hm=>?_⟩
 rw [List.take_add_one,List.getElem?_eq_getElem hi] at hm
 rcases List.mem_append.1 hm with hm | hm
 ·exact h.2 q hq (fun b hb=>ha b (hs b hb)) hm
 ·refine hd q hq ha ?_
  rw [List.getD_eq_getElem?_getD,List.getElem?_eq_getElem hi]
  simpa using hm
theorem jE {j k:Nat} {d:Int} (hk:k < j) (hj:j < n) (hB:B k=B j) (hp:p k=d) (hq:OkQ n D B cr lim q) (he:q k=p k):q j≠d:=fun e=>hq.bed k j hk hj hB (by rw [he,hp,e])
theorem yE {j:Nat} {d:Int} (hj:j < n) (hc:cr≤(cnQ j p d:Int)) (hq:OkQ n D B cr lim q) (he:∀ b,b < j→p b=d→q b=p b):q j≠d:=fun e=>by
 have h1:cnQ j p d≤cnQ j q d:=UC fun b hb hp=>by rw [he b hb hp];exact hp
 have h2:cnQ (j+1) q d=cnQ j q d+1:=by rw [yd,if_pos e]
 have h3:cnQ (j+1) q d≤cnQ n q d:=Zc4 (by omega)
 have h4:=hq.crew j hj
 rw [e] at h4
 omega
theorem XT.bad {j i:Nat} {s:Nat→Bool} (h:XT n D B cr lim j p s i) (hj:j < n) (hr:(D j).Pairwise (· < ·)) (hi:(D j).length≤i∨(i < (D j).length∧lim < (D j).getD i 0)):zT n D B cr lim j p s:=by
 refine ⟨h.1,fun q hq ha=>h.2 q hq ha ?_⟩
 have hm:=hq.mem j hj
 rcases hi with hi | ⟨hi,hl⟩
 ·rw [List.take_of_length_le hi];exact hm
 ·obtain ⟨k,hk,e⟩:=List.mem_iff_getElem.1 hm
  rcases Nat.lt_or_ge k i with c | c
  ·exact List.mem_iff_getElem.2 ⟨k,by rw [List.length_take];omega,by rw [List.getElem_take];exact e⟩
  ·exfalso
   have hle:=hq.le j hj
   rw [List.getD_eq_getElem?_getD,List.getElem?_eq_getElem hi] at hl
   have hl:lim < (D j)[i]:=hl
   rcases Nat.lt_or_ge i k with c2 | c2
   ·have:=List.pairwise_iff_getElem.1 hr i k hi hk c2
    omega
   ·have:k=i:=by omega
    subst this;omega
def LxQ (n:Nat) (q p:Nat→Int):Prop:=(∀ i,i < n→q i=p i)∨∃ i,i < n∧(∀ j,j < i→q j=p j)∧p i < q i
theorem LxQ.antisymm (h1:LxQ n q p) (h2:LxQ n p q):∀ i,i < n→p i=q i:=by
 rcases h1 with h1 | ⟨i,hi,a,b⟩
 ·exact fun i hi=>(h1 i hi).symm
 ·rcases h2 with h2 | ⟨k,hk,c,d⟩
  ·exact h2
  ·exfalso
   rcases Nat.lt_trichotomy i k with z | z | z
   ·have:=c i z;omega
   ·subst z;omega
   ·have:=a k z;omega
def Uq (n:Nat) (D:Nat→List Int) (B:Nat→Int) (cr lim:Int) (j:Nat) (p p2:Nat→Int):Prop:=
 OkQ n D B cr lim p2∧(∀ i,i < j→p2 i=p i)∧∀ q,OkQ n D B cr lim q→(∀ i,i < j→q i=p i)→LxQ n q p2
theorem Uq.full (h:OkQ n D B cr lim p):Uq n D B cr lim n p p:=⟨h,fun _ _=>rfl,fun _ _ e=>.inl e⟩
theorem Uq.back {j i:Nat} {s:Nat→Bool} {p2:Nat→Int} (h:XT n D B cr lim j p s i) (hj:j < n) (hr:(D j).Pairwise (· < ·)) (hi:i < (D j).length) (hf:Uq n D B cr lim (j+1) (Vi p j ((D j).getD i 0)) p2):Uq n D B cr lim j p p2:=by
 obtain ⟨h1,h2,h3⟩:=hf
 refine ⟨h1,fun k hk=>by rw [h2 k (by omega),Yv (by omega)],fun q hq ha=>?_⟩
 have hn:=h.2 q hq fun b hb=>ha b (h.1 b hb)
 have hd:(D j).getD i 0=(D j)[i]:=by rw [List.getD_eq_getElem?_getD,List.getElem?_eq_getElem hi];rfl
 have e2:p2 j=(D j)[i]:=by rw [h2 j (by omega),Y3,hd]
 obtain ⟨k,hk,e⟩:=List.mem_iff_getElem.1 (hq.mem j hj)
 have hki:i≤k:=by
  rcases Nat.lt_or_ge k i with c | c
  ·exact absurd (List.mem_iff_getElem.2 ⟨k,by rw [List.length_take];omega,by rw [List.getElem_take];exact e⟩) hn
  ·exact c
 rcases Nat.eq_or_lt_of_le hki with c | c
 ·subst c
  refine h3 q hq fun b hb=>?_
  by_cases hbj:b=j
  ·subst hbj;rw [Y3,hd,e]
  ·rw [Yv hbj];exact ha b (by omega)
 ·have:=List.pairwise_iff_getElem.1 hr i k hi hk c
  refine .inr ⟨j,hj,fun b hb=>?_,by omega⟩
  rw [ha b hb,h2 b (by omega),Yv (by omega)]
theorem zT.down {j:Nat} {d:Int} {s:Nat→Bool} (h:zT n D B cr lim (j+1) (Vi p j d) s) (hj:s j=false):zT n D B cr lim j p s:=by
 have hne:∀ b,s b=true→b≠j:=fun b hb e=>by rw [e,hj] at hb;cases hb
 refine ⟨fun b hb=>by have:=h.1 b hb;have:=hne b hb;omega,fun q hq ha=>h.2 q hq fun b hb=>by rw [Yv (hne b hb)];exact ha b hb⟩
theorem XT.more {j i:Nat} {s m:Nat→Bool} (h:XT n D B cr lim j p s i) (hi:i < (D j).length) (hm:zT n D B cr lim (j+1) (Vi p j ((D j).getD i 0)) m) {s2:Nat→Bool} (e:∀ b,s2 b=(s b || (m b && decide (b≠j)))):XT n D B cr lim j p s2 (i+1):=by
 refine h.next hi (fun b hb=>by rw [e,hb];rfl) (fun b hb=>?_) fun q hq ha hd=>hm.2 q hq fun b hb=>?_
 ·rw [e] at hb
  simp only [Bool.or_eq_true,Bool.and_eq_true,decide_eq_true_eq] at hb
  rcases hb with hb | ⟨hb,hne⟩
  ·exact h.1 b hb
  ·have:=hm.1 b hb;omega
 ·by_cases hbj:b=j
  ·subst hbj;rw [Y3];exact hd
  ·rw [Yv hbj];exact ha b (by rw [e,hb];simp [hbj])
def ltQ:Nat→(Nat→Int)→Int
 | 0,_=>0
 | n+1,p=>max (ltQ n p) (p n)
theorem Qd {x:Int}:∀ {n:Nat},ltQ n p≤x↔0≤x∧∀ i,i < n→p i≤x
 | 0=>by simp [ltQ]
 | n+1=>by
  have ih:=Qd (x:=x) (n:=n)
  unfold ltQ
  constructor
  ·intro h
   obtain ⟨a,b⟩:=ih.1 (by omega)
   refine ⟨a,fun i hi=>?_⟩
   by_cases e:i=n
   ·subst e;omega
   ·exact b i (by omega)
  ·rintro ⟨a,b⟩
   have:=ih.2 ⟨a,fun i hi=>b i (by omega)⟩
   have:=b n (by omega)
   omega
def QU (n:Nat) (D:Nat→List Int) (B:Nat→Int) (cr lim:Int) (p:Nat→Int):Prop:=
 OkQ n D B cr lim p∧∀ q,OkQ n D B cr lim q→ltQ n p≤ltQ n q∧(ltQ n q=ltQ n p→LxQ n q p)
theorem QU.uniq (h1:QU n D B cr lim p) (h2:QU n D B cr lim q):∀ i,i < n→p i=q i:=by
 have a:=h1.2 q h2.1
 have b:=h2.2 p h1.1
 exact (a.2 (by omega)).antisymm (b.2 (by omega))
def SoQ (n:Nat) (D:Nat→List Int) (B:Nat→Int) (cr lim:Int) (p:Nat→Int):Prop:=
 OkQ n D B cr lim p∧∀ q,OkQ n D B cr lim q→ltQ n p≤ltQ n q→ltQ n q=ltQ n p→LxQ n q p
theorem SoQ.of {l2:Int} (hD:∀ i,i < n→∀ d∈D i,0≤d) (h:Uq n D B cr l2 0 p q) (hl:l2≤lim):SoQ n D B cr lim q:=by
 obtain ⟨h1,_,h3⟩:=h
 refine ⟨h1.upto fun i hi=>by have:=h1.le i hi;omega,fun r hr _ he=>h3 r (hr.upto fun i hi=>?_) fun i hi=>by omega⟩
 have:=(Qd (p:=r) (x:=ltQ n r) (n:=n)).1 (Int.le_refl _)
 have h4:=this.2 i hi
 have h5:ltQ n q≤max 0 l2:=Qd.2 ⟨by omega,fun k hk=>by have:=h1.le k hk;omega⟩
 have h6:=hD i hi _ (hr.mem i hi)
 have h7:0≤l2:=by have:=h1.le i hi;have:=hD i hi _ (h1.mem i hi);omega
 omega
theorem SoQ.best (h:SoQ n D B cr lim p) (hn:∀ q,OkQ n D B cr (ltQ n p - 1) q→n=0):QU n D B cr lim p:=by
 refine ⟨h.1,fun q hq=>?_⟩
 have hle:ltQ n p≤ltQ n q:=by
  rcases Int.lt_or_le (ltQ n q) (ltQ n p) with c | c
  ·have h0:=hn q (hq.upto fun i hi=>by have:=((Qd (p:=q) (x:=ltQ n q) (n:=n)).1 (Int.le_refl _)).2 i hi;omega)
   subst h0
   exact Int.le_refl 0
  ·exact c
 exact ⟨hle,fun e=>h.2 q hq hle e⟩
end
end Go.Ax

/-
 Pool: what a yard is,and what is valid (written by program).
-/
namespace Go.Ax
open Go Go.RowKit Go.Proofs

theorem Zc7:∃ i,Try.prog.info? 46=some i∧i.size=2:=by
 have h:(Try.prog.info? 46).map (fun i=>i.size)=some 2:=by kernel_rfl
 cases e:Try.prog.info? 46 with
 | none=>rw [e] at h;cases h
 | some i=>rw [e] at h;simp at h;exact ⟨i,rfl,h⟩
theorem a46:XO Try.prog 46=some true:=by kernel_rfl
theorem ZeR:∃ i,Try.prog.info? 27=some i∧i.size=4:=by
 have h:(Try.prog.info? 27).map (fun i=>i.size)=some 4:=by kernel_rfl
 cases e:Try.prog.info? 27 with
 | none=>rw [e] at h;cases h
 | some i=>rw [e] at h;simp at h;exact ⟨i,rfl,h⟩
theorem a27:XO Try.prog 27=some true:=by kernel_rfl
theorem zo {P:Program} {S:Rg} {H:Hp} {a x n:Nat} {t:TypeId} {cs:List Value} (ha:lk S a=some (.pointer (some ⟨x,0,none⟩))) (h1:XO P t=some true) (hi:∃ i,P.info? t=some i∧i.size=n) (hl:cs.length=n) (h:Cl H x cs):Ww P S H [.cell a t]=some [.agg cs.toArray]:=by
 simp only [Ww,ha,yf h1 hi h.rd hl]
def inB (n a b:Int):Bool:=decide (a≤n) && decide (n≤b)
theorem YH {n a b:Int} (h:inB n a b=true):a≤n∧n≤b:=by simpa [inB] using h
theorem Y4 {n a b:Int} (h:inB n a b=false):¬ (a≤n∧n≤b):=by
 intro q;simp [inB] at h;omega
theorem QO {α:Type} {l:List α} {i:Nat} {z:α} (h:i < l.length):l[i]? = some (l.getD i z):=by
 rw [List.getD_eq_getElem?_getD,List.getElem?_eq_getElem h];rfl
structure Bd where
 x:Int
 y:Int
 h:Int
 m:Int
def Bd.z:Bd:=⟨0,0,0,0⟩
def Bd.f (p:Bd):List Value:=[iv p.x,iv p.y,iv p.h,iv p.m]
structure Sd where
 x:Int
 y:Int
 u:Int
 t:Int
def Sd.z:Sd:=⟨0,0,0,0⟩
def Sd.f (p:Sd):List Value:=[iv p.x,iv p.y,iv p.u,iv p.t]
structure Jb where
 b:Int
 p:Int
 u:Int
 t:Int
def Jb.z:Jb:=⟨0,0,0,0⟩
def Jb.f (p:Jb):List Value:=[iv p.b,iv p.p,iv p.u,iv p.t]
structure Tp where
 c:Int
 l:Int
 h:Int
def Tp.z:Tp:=⟨0,0,0⟩
def Tp.f (p:Tp):List Value:=[iv p.c,iv p.l,iv p.h]
def bdc (l:List Bd):List Value:=l.flatMap Bd.f
theorem Up {l:List Bd} {i:Nat} (h:i < l.length):row 4 (bdc l) (0+i * 4)=some (l.getD i Bd.z).f:=WQ (f:=Bd.f) (fun _ _=>rfl) (QO h)
theorem Zb3 {l:List Bd} {i j:Nat} {v:Value} (h:i < l.length) (hj:(l.getD i Bd.z).f[j]? = some v):(bdc l)[0+i * 4+j]? = some v:=qS (Up h) hj
def sdc (l:List Sd):List Value:=l.flatMap Sd.f
theorem zs {l:List Sd} {i:Nat} (h:i < l.length):row 4 (sdc l) (0+i * 4)=some (l.getD i Sd.z).f:=WQ (f:=Sd.f) (fun _ _=>rfl) (QO h)
def jbc (l:List Jb):List Value:=l.flatMap Jb.f
theorem Vo {l:List Jb} {i:Nat} (h:i < l.length):row 4 (jbc l) (0+i * 4)=some (l.getD i Jb.z).f:=WQ (f:=Jb.f) (fun _ _=>rfl) (QO h)
def tpc (l:List Tp):List Value:=l.flatMap Tp.f
theorem Ji {l:List Tp} {i:Nat} (h:i < l.length):row 3 (tpc l) (0+i * 3)=some (l.getD i Tp.z).f:=WQ (f:=Tp.f) (fun _ _=>rfl) (QO h)
def cI (xs:List Int):List Value:=xs.map iv
theorem Zau {xs:List Int}:(cI xs).length=xs.length:=by simp [cI]
theorem Jx {ys:List Int} {i:Nat} (h:i < ys.length):(cI ys)[0+i * 1]? = some (iv (ys.getD i 0)):=by
 rw [Nat.mul_one,Nat.zero_add]
 simp [cI,h]
structure Pd where
 re:Int
 st:Int
 us:Int
 wt:List Int
def Pd.z:Pd:=⟨0,0,0,[]⟩
abbrev Wa:=Option Addr × Nat
def Pd.f (w:Wa) (p:Pd):List Value:=[iv p.re,iv p.st,.slice w.1 p.wt.length w.2,iv p.us]
def pdc (ws:Nat→Wa) (ps:List Pd):List Value:=(List.range ps.length).flatMap fun i=>Pd.f (ws i) (ps.getD i Pd.z)
theorem Q5 {ws:Nat→Wa} {ps:List Pd} {i:Nat} (h:i < ps.length):row 4 (pdc ws ps) (0+i * 4)=some (Pd.f (ws i) (ps.getD i Pd.z)):=
 WQ (f:=fun i=>Pd.f (ws i) (ps.getD i Pd.z)) (fun _ _=>rfl) (by rw [List.getElem?_range h])
theorem KU {ws:Nat→Wa} {ps:List Pd} {i j:Nat} {v:Value} (h:i < ps.length) (hj:(Pd.f (ws i) (ps.getD i Pd.z))[j]? = some v):(pdc ws ps)[0+i * 4+j]? = some v:=qS (Q5 h) hj
structure Yd where
 ps:List Pd
 bs:List Bd
 ss:List Sd
 js:List Jb
structure Ya where
 pa:Option Addr
 ba:Option Addr
 sa:Option Addr
 ja:Option Addr
 pc:Nat
 bc:Nat
 sc:Nat
 jc:Nat
 ws:Nat→Wa
def Ya.f (a:Ya) (y:Yd):List Value:=[.slice a.pa y.ps.length a.pc,.slice a.ba y.bs.length a.bc,.slice a.sa y.ss.length a.sc,.slice a.ja y.js.length a.jc]
structure YaH (H:Hp) (a:Ya) (y:Yd):Prop where
 p:Sl H a.pa y.ps.length a.pc (pdc a.ws y.ps)
 w:∀ i,i < y.ps.length→Sl H (a.ws i).1 (y.ps.getD i Pd.z).wt.length (a.ws i).2 (cI (y.ps.getD i Pd.z).wt)
 b:Sl H a.ba y.bs.length a.bc (bdc y.bs)
 s:Sl H a.sa y.ss.length a.sc (sdc y.ss)
 j:Sl H a.ja y.js.length a.jc (jbc y.js)
theorem YaH.keep {H H1:Hp} {a:Ya} {y:Yd} (h:YaH H a y) (k:Zf H H1 []):YaH H1 a y:=⟨k.sl0 h.p,fun i hi=>k.sl0 (h.w i hi),k.sl0 h.b,k.sl0 h.s,k.sl0 h.j⟩
def vP (p:Pd):Bool:=inB p.re 0 65536 && inB p.st 0 30 && inB p.us 1 16 && decide (p.wt.length≤8) && p.wt.all fun d=>inB d 0 365
def vB (b:Bd):Bool:=inB b.x 0 65536 && inB b.y 0 65536 && inB b.h 0 16384 && inB b.m 0 7
def vS (s:Sd):Bool:=inB s.x 0 65536 && inB s.y 0 65536 && inB s.u 0 16384 && inB s.t 0 16384 && decide (s.u≤s.t)
def vT (t:Tp):Bool:=inB t.c 0 1048576 && decide (1≤t.l) && decide (t.l≤t.h) && decide (t.h≤1000)
def jP (y:Yd) (j:Jb):Pd:=y.ps.getD j.p.toNat Pd.z
def jB (y:Yd) (j:Jb):Bd:=y.bs.getD j.b.toNat Bd.z
def vJ (y:Yd) (j:Jb):Bool:=inB j.b 0 (y.bs.length - 1) && inB j.p 0 (y.ps.length - 1) && inB j.u 0 16384 && inB j.t 0 16384 && inB (j.t - j.u) 0 40 && inB (jB y j).m 0 ((jP y j).wt.length - 1)
def usN (l:List Jb) (j:Jb):Nat:=(l.filter fun k=>decide (k.b=j.b) && decide (k.p=j.p)).length
def vU (y:Yd):Bool:=y.js.all fun j=>decide ((usN y.js j:Int)≤(jP y j).us)
def vY (y:Yd):Bool:=decide (y.ps.length≤8) && decide (y.bs.length≤16) && decide (y.ss.length≤16) && decide (y.js.length≤8) && y.ps.all vP && y.bs.all vB && y.ss.all vS && y.js.all (vJ y) && vU y
section
variable {kn:Kn} {lo:Nat} {H:Hp}
theorem Wm {n a m:Int}:∃ H',FnX Try.prog kn lo 53 [iv n,iv a,iv m] H (.bool (inB n a m)) H'∧Zf H H' []:=by
 have key:=Zt (kn:=kn) (lo:=lo) (H:=H) (args:=[iv n,iv a,iv m]) (Q:=fun w H'=>w=.bool (inB n a m)∧Zf H H' []) Try.func53 B53 N53 Z53 L53 (by simp) ?_
 ·obtain ⟨w,H',h,rfl,q⟩:=key;exact ⟨H',h,q⟩
 repeat' first
  | (intro t ht;cases t)
  | exact And.intro trivial (Exists.intro _ (And.intro rfl ⟨by simp_all [Wz,inB]<;>(intros;omega),Zf.refl _ _⟩))
  | refine And.intro rfl (Exists.intro _ (And.intro rfl ?_))
theorem Us {n:Int}:∃ H',FnX Try.prog kn lo 90 [iv n] H (.bool (inB n 0 65536)) H'∧Zf H H' []:=by
 have key:=Zt (kn:=kn) (lo:=lo) (H:=H) (args:=[iv n]) (Q:=fun w H'=>w=.bool (inB n 0 65536)∧Zf H H' []) Try.func90 B90 N90 Z90 L90 (by simp) ?_
 ·obtain ⟨w,H',h,rfl,q⟩:=key;exact ⟨H',h,q⟩
 have hk:=Zf.refl H []
 refine Ze<|Za rfl<|Zb<|Ze<|Za rfl<|Z2 rfl (Wm) ?_
 intro tH1 H1 hH1 kH1
 have mH1:=kH1.1
 have hk:=hk.trans kH1
 cases tH1
 ·have thH1:inB n 0 65536=false:=hH1
  have uhH1:=Y4 thH1
  refine Za rfl<|Zb ?_
  exact And.intro trivial (Exists.intro _ (And.intro rfl ⟨congrArg Value.bool (show false=inB n 0 65536 from by symm;assumption),hk⟩))
 ·have thH1:inB n 0 65536=true:=hH1
  have uhH1:=YH thH1
  refine Za rfl<|Zb ?_
  exact And.intro trivial (Exists.intro _ (And.intro rfl ⟨congrArg Value.bool (show true=inB n 0 65536 from by symm;assumption),hk⟩))
theorem US {n:Int}:∃ H',FnX Try.prog kn lo 42 [iv n] H (.bool (inB n 0 16384)) H'∧Zf H H' []:=by
 have key:=Zt (kn:=kn) (lo:=lo) (H:=H) (args:=[iv n]) (Q:=fun w H'=>w=.bool (inB n 0 16384)∧Zf H H' []) Try.func42 B42 N42 Z42 L42 (by simp) ?_
 ·obtain ⟨w,H',h,rfl,q⟩:=key;exact ⟨H',h,q⟩
 have hk:=Zf.refl H []
 refine Ze<|Za rfl<|Zb<|Ze<|Za rfl<|Z2 rfl (Wm) ?_
 intro tH1 H1 hH1 kH1
 have mH1:=kH1.1
 have hk:=hk.trans kH1
 cases tH1
 ·have thH1:inB n 0 16384=false:=hH1
  have uhH1:=Y4 thH1
  refine Za rfl<|Zb ?_
  exact And.intro trivial (Exists.intro _ (And.intro rfl ⟨congrArg Value.bool (show false=inB n 0 16384 from by symm;assumption),hk⟩))
 ·have thH1:inB n 0 16384=true:=hH1
  have uhH1:=YH thH1
  refine Za rfl<|Zb ?_
  exact And.intro trivial (Exists.intro _ (And.intro rfl ⟨congrArg Value.bool (show true=inB n 0 16384 from by symm;assumption),hk⟩))
theorem Zby {n:Int}:∃ H',FnX Try.prog kn lo 91 [iv n] H (.bool (inB n 0 365)) H'∧Zf H H' []:=by
 have key:=Zt (kn:=kn) (lo:=lo) (H:=H) (args:=[iv n]) (Q:=fun w H'=>w=.bool (inB n 0 365)∧Zf H H' []) Try.func91 B91 N91 Z91 L91 (by simp) ?_
 ·obtain ⟨w,H',h,rfl,q⟩:=key;exact ⟨H',h,q⟩
 have hk:=Zf.refl H []
 refine Ze<|Za rfl<|Zb<|Ze<|Za rfl<|Z2 rfl (Wm) ?_
 intro tH1 H1 hH1 kH1
 have mH1:=kH1.1
 have hk:=hk.trans kH1
 cases tH1
 ·have thH1:inB n 0 365=false:=hH1
  have uhH1:=Y4 thH1
  refine Za rfl<|Zb ?_
  exact And.intro trivial (Exists.intro _ (And.intro rfl ⟨congrArg Value.bool (show false=inB n 0 365 from by symm;assumption),hk⟩))
 ·have thH1:inB n 0 365=true:=hH1
  have uhH1:=YH thH1
  refine Za rfl<|Zb ?_
  exact And.intro trivial (Exists.intro _ (And.intro rfl ⟨congrArg Value.bool (show true=inB n 0 365 from by symm;assumption),hk⟩))
theorem UB {n m:Int} (hm:-1000000≤m∧m≤1000000):∃ H',FnX Try.prog kn lo 41 [iv n,iv m] H (.bool (inB n 0 (m - 1))) H'∧Zf H H' []:=by
 have key:=Zt (kn:=kn) (lo:=lo) (H:=H) (args:=[iv n,iv m]) (Q:=fun w H'=>w=.bool (inB n 0 (m - 1))∧Zf H H' []) Try.func41 B41 N41 Z41 L41 (by simp) ?_
 ·obtain ⟨w,H',h,rfl,q⟩:=key;exact ⟨H',h,q⟩
 have hk:=Zf.refl H []
 refine Ze<|Za rfl<|Zb<|Ze<|Za rfl<|Za rfl<|Qb (a:=m) (b:=1) rfl rfl ⟨by omega,by omega⟩<|Z2 rfl (Wm) ?_
 intro tH1 H1 hH1 kH1
 have mH1:=kH1.1
 have hk:=hk.trans kH1
 cases tH1
 ·have thH1:inB n 0 (m - 1)=false:=hH1
  have uhH1:=Y4 thH1
  refine Za rfl<|Zb ?_
  exact And.intro trivial (Exists.intro _ (And.intro rfl ⟨congrArg Value.bool (show false=inB n 0 (m - 1) from by symm;assumption),hk⟩))
 ·have thH1:inB n 0 (m - 1)=true:=hH1
  have uhH1:=YH thH1
  refine Za rfl<|Zb ?_
  exact And.intro trivial (Exists.intro _ (And.intro rfl ⟨congrArg Value.bool (show true=inB n 0 (m - 1) from by symm;assumption),hk⟩))
theorem ZdS {b:Bd}:∃ H',FnX Try.prog kn lo 68 [.agg (Bd.f b).toArray] H (.bool (vB b)) H'∧Zf H H' []:=by
 have key:=Zt (kn:=kn) (lo:=lo) (H:=H) (args:=[.agg (Bd.f b).toArray]) (Q:=fun w H'=>w=.bool (vB b)∧Zf H H' []) Try.func68 B68 N68 Z68 L68 (by simp) ?_
 ·obtain ⟨w,H',h,rfl,q⟩:=key;exact ⟨H',h,q⟩
 have hk:=Zf.refl H []
 refine Ze<|Ye (v:=.agg (Bd.f b).toArray) rfl ?_
 intro H1 kH1 nH1 c1
 have c1:Cl H1 H.next [iv b.x,iv b.y,iv b.h,iv b.m]:=c1
 have mH1:=kH1.1
 have hk:=hk.trans kH1
 refine Za rfl<|Zb<|Ze<|Zn (b:=H.next) (o:=0) rfl<|ZD (b:=H.next) (o:=0) (v:=iv b.x) rfl c1.rd rfl<|Z2 rfl (Us) ?_
 intro tH2 H2 hH2 kH2
 have mH2:=kH2.1
 have hk:=hk.trans kH2
 have c1:=kH2.cl c1 (by simp)
 cases tH2
 ·have thH2:inB b.x 0 65536=false:=hH2
  have uhH2:=Y4 thH2
  refine Za rfl<|Zh rfl<|Zh rfl<|Zh rfl<|Zg (v:=.bool false) rfl rfl<|Za rfl<|Zh rfl<|Zh rfl<|Zh rfl<|Zg (v:=.bool false) rfl rfl<|Za rfl<|Zh rfl<|Zh rfl<|Zh rfl<|Zg (v:=.bool false) rfl rfl<|Za rfl<|Zb ?_
  exact And.intro trivial (Exists.intro _ (And.intro rfl ⟨congrArg Value.bool (show false=vB b from by symm;rw [← Bool.not_eq_true];simp only [vB,inB,Bool.and_eq_true,decide_eq_true_eq];omega),hk⟩))
 ·have thH2:inB b.x 0 65536=true:=hH2
  have uhH2:=YH thH2
  refine Za rfl ?_
  refine Zs rfl (Zn (b:=H.next) (o:=0) rfl ?_)
  refine Zs rfl (ZD (b:=H.next) (o:=1) (v:=iv b.y) rfl c1.rd rfl ?_)
  refine Zs rfl (Z2 rfl (Us) ?_)
  intro tH3 H3 hH3 kH3
  have mH3:=kH3.1
  have hk:=hk.trans kH3
  have c1:=kH3.cl c1 (by simp)
  cases tH3
  ·have thH3:inB b.y 0 65536=false:=hH3
   have uhH3:=Y4 thH3
   refine Zg (v:=.bool false) rfl rfl<|Za rfl<|Zh rfl<|Zh rfl<|Zh rfl<|Zg (v:=.bool false) rfl rfl<|Za rfl<|Zh rfl<|Zh rfl<|Zh rfl<|Zg (v:=.bool false) rfl rfl<|Za rfl<|Zb ?_
   exact And.intro trivial (Exists.intro _ (And.intro rfl ⟨congrArg Value.bool (show false=vB b from by symm;rw [← Bool.not_eq_true];simp only [vB,inB,Bool.and_eq_true,decide_eq_true_eq];omega),hk⟩))
  ·have thH3:inB b.y 0 65536=true:=hH3
   have uhH3:=YH thH3
   refine Zg (v:=.bool true) rfl rfl<|Za rfl ?_
   refine Zs rfl (Zn (b:=H.next) (o:=0) rfl ?_)
   refine Zs rfl (ZD (b:=H.next) (o:=2) (v:=iv b.h) rfl c1.rd rfl ?_)
   refine Zs rfl (Z2 rfl (US) ?_)
   intro tH4 H4 hH4 kH4
   have mH4:=kH4.1
   have hk:=hk.trans kH4
   have c1:=kH4.cl c1 (by simp)
   cases tH4
   ·have thH4:inB b.h 0 16384=false:=hH4
    have uhH4:=Y4 thH4
    refine Zg (v:=.bool false) rfl rfl<|Za rfl<|Zh rfl<|Zh rfl<|Zh rfl<|Zg (v:=.bool false) rfl rfl<|Za rfl<|Zb ?_
    exact And.intro trivial (Exists.intro _ (And.intro rfl ⟨congrArg Value.bool (show false=vB b from by symm;rw [← Bool.not_eq_true];simp only [vB,inB,Bool.and_eq_true,decide_eq_true_eq];omega),hk⟩))
   ·have thH4:inB b.h 0 16384=true:=hH4
    have uhH4:=YH thH4
    refine Zg (v:=.bool true) rfl rfl<|Za rfl ?_
    refine Zs rfl (Zn (b:=H.next) (o:=0) rfl ?_)
    refine Zs rfl (ZD (b:=H.next) (o:=3) (v:=iv b.m) rfl c1.rd rfl ?_)
    refine Zs rfl (Z2 rfl (UB (by omega)) ?_)
    intro tH5 H5 hH5 kH5
    have mH5:=kH5.1
    have hk:=hk.trans kH5
    have c1:=kH5.cl c1 (by simp)
    cases tH5
    ·have thH5:inB b.m 0 (8 - 1)=false:=hH5
     have uhH5:=Y4 thH5
     refine Zg (v:=.bool false) rfl rfl<|Za rfl<|Zb ?_
     exact And.intro trivial (Exists.intro _ (And.intro rfl ⟨congrArg Value.bool (show false=vB b from by symm;rw [← Bool.not_eq_true];simp only [vB,inB,Bool.and_eq_true,decide_eq_true_eq];omega),hk⟩))
    ·have thH5:inB b.m 0 (8 - 1)=true:=hH5
     have uhH5:=YH thH5
     refine Zg (v:=.bool true) rfl rfl<|Za rfl<|Zb ?_
     exact And.intro trivial (Exists.intro _ (And.intro rfl ⟨congrArg Value.bool (show true=vB b from by symm;simp only [vB,inB,Bool.and_eq_true,decide_eq_true_eq];omega),hk⟩))
theorem ZeB {s:Sd}:∃ H',FnX Try.prog kn lo 70 [.agg (Sd.f s).toArray] H (.bool (vS s)) H'∧Zf H H' []:=by
 have key:=Zt (kn:=kn) (lo:=lo) (H:=H) (args:=[.agg (Sd.f s).toArray]) (Q:=fun w H'=>w=.bool (vS s)∧Zf H H' []) Try.func70 B70 N70 Z70 L70 (by simp) ?_
 ·obtain ⟨w,H',h,rfl,q⟩:=key;exact ⟨H',h,q⟩
 have hk:=Zf.refl H []
 refine Ze<|Ye (v:=.agg (Sd.f s).toArray) rfl ?_
 intro H1 kH1 nH1 c1
 have c1:Cl H1 H.next [iv s.x,iv s.y,iv s.u,iv s.t]:=c1
 have mH1:=kH1.1
 have hk:=hk.trans kH1
 refine Za rfl<|Zb<|Ze<|Zn (b:=H.next) (o:=0) rfl<|ZD (b:=H.next) (o:=0) (v:=iv s.x) rfl c1.rd rfl<|Z2 rfl (Us) ?_
 intro tH2 H2 hH2 kH2
 have mH2:=kH2.1
 have hk:=hk.trans kH2
 have c1:=kH2.cl c1 (by simp)
 cases tH2
 ·have thH2:inB s.x 0 65536=false:=hH2
  have uhH2:=Y4 thH2
  refine Za rfl<|Zh rfl<|Zh rfl<|Zh rfl<|Zg (v:=.bool false) rfl rfl<|Za rfl<|Zh rfl<|Zh rfl<|Zh rfl<|Zg (v:=.bool false) rfl rfl<|Za rfl<|Zh rfl<|Zh rfl<|Zh rfl<|Zg (v:=.bool false) rfl rfl<|Za rfl<|Zh rfl<|Zh rfl<|Zh rfl<|Zh rfl<|Zh rfl<|Zg (v:=.bool false) rfl rfl<|Za rfl<|Zb ?_
  exact And.intro trivial (Exists.intro _ (And.intro rfl ⟨congrArg Value.bool (show false=vS s from by symm;rw [← Bool.not_eq_true];simp only [vS,inB,Bool.and_eq_true,decide_eq_true_eq];omega),hk⟩))
 ·have thH2:inB s.x 0 65536=true:=hH2
  have uhH2:=YH thH2
  refine Za rfl ?_
  refine Zs rfl (Zn (b:=H.next) (o:=0) rfl ?_)
  refine Zs rfl (ZD (b:=H.next) (o:=1) (v:=iv s.y) rfl c1.rd rfl ?_)
  refine Zs rfl (Z2 rfl (Us) ?_)
  intro tH3 H3 hH3 kH3
  have mH3:=kH3.1
  have hk:=hk.trans kH3
  have c1:=kH3.cl c1 (by simp)
  cases tH3
  ·have thH3:inB s.y 0 65536=false:=hH3
   have uhH3:=Y4 thH3
   refine Zg (v:=.bool false) rfl rfl<|Za rfl<|Zh rfl<|Zh rfl<|Zh rfl<|Zg (v:=.bool false) rfl rfl<|Za rfl<|Zh rfl<|Zh rfl<|Zh rfl<|Zg (v:=.bool false) rfl rfl<|Za rfl<|Zh rfl<|Zh rfl<|Zh rfl<|Zh rfl<|Zh rfl<|Zg (v:=.bool false) rfl rfl<|Za rfl<|Zb ?_
   exact And.intro trivial (Exists.intro _ (And.intro rfl ⟨congrArg Value.bool (show false=vS s from by symm;rw [← Bool.not_eq_true];simp only [vS,inB,Bool.and_eq_true,decide_eq_true_eq];omega),hk⟩))
  ·have thH3:inB s.y 0 65536=true:=hH3
   have uhH3:=YH thH3
   refine Zg (v:=.bool true) rfl rfl<|Za rfl ?_
   refine Zs rfl (Zn (b:=H.next) (o:=0) rfl ?_)
   refine Zs rfl (ZD (b:=H.next) (o:=2) (v:=iv s.u) rfl c1.rd rfl ?_)
   refine Zs rfl (Z2 rfl (US) ?_)
   intro tH4 H4 hH4 kH4
   have mH4:=kH4.1
   have hk:=hk.trans kH4
   have c1:=kH4.cl c1 (by simp)
   cases tH4
   ·have thH4:inB s.u 0 16384=false:=hH4
    have uhH4:=Y4 thH4
    refine Zg (v:=.bool false) rfl rfl<|Za rfl<|Zh rfl<|Zh rfl<|Zh rfl<|Zg (v:=.bool false) rfl rfl<|Za rfl<|Zh rfl<|Zh rfl<|Zh rfl<|Zh rfl<|Zh rfl<|Zg (v:=.bool false) rfl rfl<|Za rfl<|Zb ?_
    exact And.intro trivial (Exists.intro _ (And.intro rfl ⟨congrArg Value.bool (show false=vS s from by symm;rw [← Bool.not_eq_true];simp only [vS,inB,Bool.and_eq_true,decide_eq_true_eq];omega),hk⟩))
   ·have thH4:inB s.u 0 16384=true:=hH4
    have uhH4:=YH thH4
    refine Zg (v:=.bool true) rfl rfl<|Za rfl ?_
    refine Zs rfl (Zn (b:=H.next) (o:=0) rfl ?_)
    refine Zs rfl (ZD (b:=H.next) (o:=3) (v:=iv s.t) rfl c1.rd rfl ?_)
    refine Zs rfl (Z2 rfl (US) ?_)
    intro tH5 H5 hH5 kH5
    have mH5:=kH5.1
    have hk:=hk.trans kH5
    have c1:=kH5.cl c1 (by simp)
    cases tH5
    ·have thH5:inB s.t 0 16384=false:=hH5
     have uhH5:=Y4 thH5
     refine Zg (v:=.bool false) rfl rfl<|Za rfl<|Zh rfl<|Zh rfl<|Zh rfl<|Zh rfl<|Zh rfl<|Zg (v:=.bool false) rfl rfl<|Za rfl<|Zb ?_
     exact And.intro trivial (Exists.intro _ (And.intro rfl ⟨congrArg Value.bool (show false=vS s from by symm;rw [← Bool.not_eq_true];simp only [vS,inB,Bool.and_eq_true,decide_eq_true_eq];omega),hk⟩))
    ·have thH5:inB s.t 0 16384=true:=hH5
     have uhH5:=YH thH5
     refine Zg (v:=.bool true) rfl rfl<|Za rfl ?_
     refine Zs rfl (Zn (b:=H.next) (o:=0) rfl ?_)
     refine Zs rfl (ZD (b:=H.next) (o:=2) (v:=iv s.u) rfl c1.rd rfl ?_)
     refine Zs rfl (Zn (b:=H.next) (o:=0) rfl ?_)
     refine Zs rfl (ZD (b:=H.next) (o:=3) (v:=iv s.t) rfl c1.rd rfl ?_)
     refine Zs rfl (XP (a:=s.u) (b:=s.t) rfl rfl ?_)
     intro t1 g1;cases t1
     ·have g1:¬ (s.u≤s.t):=of_decide_eq_false g1
      refine Zg (v:=.bool false) rfl rfl<|Za rfl<|Zb ?_
      exact And.intro trivial (Exists.intro _ (And.intro rfl ⟨congrArg Value.bool (show false=vS s from by symm;rw [← Bool.not_eq_true];simp only [vS,inB,Bool.and_eq_true,decide_eq_true_eq];omega),hk⟩))
     ·have g1:s.u≤s.t:=of_decide_eq_true g1
      refine Zg (v:=.bool true) rfl rfl<|Za rfl<|Zb ?_
      exact And.intro trivial (Exists.intro _ (And.intro rfl ⟨congrArg Value.bool (show true=vS s from by symm;simp only [vS,inB,Bool.and_eq_true,decide_eq_true_eq];omega),hk⟩))
theorem Zer {t:Tp}:∃ H',FnX Try.prog kn lo 58 [.agg (Tp.f t).toArray] H (.bool (vT t)) H'∧Zf H H' []:=by
 have key:=Zt (kn:=kn) (lo:=lo) (H:=H) (args:=[.agg (Tp.f t).toArray]) (Q:=fun w H'=>w=.bool (vT t)∧Zf H H' []) Try.func58 B58 N58 Z58 L58 (by simp) ?_
 ·obtain ⟨w,H',h,rfl,q⟩:=key;exact ⟨H',h,q⟩
 have hk:=Zf.refl H []
 refine Ze<|Ye (v:=.agg (Tp.f t).toArray) rfl ?_
 intro H1 kH1 nH1 c1
 have c1:Cl H1 H.next [iv t.c,iv t.l,iv t.h]:=c1
 have mH1:=kH1.1
 have hk:=hk.trans kH1
 refine Za rfl<|Zb<|Ze<|Zn (b:=H.next) (o:=0) rfl<|ZD (b:=H.next) (o:=0) (v:=iv t.c) rfl c1.rd rfl<|Z2 rfl (Wm) ?_
 intro tH2 H2 hH2 kH2
 have mH2:=kH2.1
 have hk:=hk.trans kH2
 have c1:=kH2.cl c1 (by simp)
 cases tH2
 ·have thH2:inB t.c 0 1048576=false:=hH2
  have uhH2:=Y4 thH2
  refine Za rfl<|Zh rfl<|Zh rfl<|Zh rfl<|Zh rfl<|Zg (v:=.bool false) rfl rfl<|Za rfl<|Zh rfl<|Zh rfl<|Zh rfl<|Zh rfl<|Zh rfl<|Zh rfl<|Zh rfl<|Zg (v:=.bool false) rfl rfl<|Za rfl<|Zh rfl<|Zh rfl<|Zh rfl<|Zh rfl<|Zg (v:=.bool false) rfl rfl<|Za rfl<|Zb ?_
  exact And.intro trivial (Exists.intro _ (And.intro rfl ⟨congrArg Value.bool (show false=vT t from by symm;rw [← Bool.not_eq_true];simp only [vT,inB,Bool.and_eq_true,decide_eq_true_eq];omega),hk⟩))
 ·have thH2:inB t.c 0 1048576=true:=hH2
  have uhH2:=YH thH2
  refine Za rfl ?_
  refine Zs rfl (Zn (b:=H.next) (o:=0) rfl ?_)
  refine Zs rfl (Zn (b:=H.next) (o:=1) rfl ?_)
  refine Zs rfl (ZD (b:=H.next) (o:=1) (v:=iv t.l) rfl c1.rd rfl ?_)
  refine Zs rfl (XP (a:=1) (b:=t.l) rfl rfl ?_)
  intro t1 g1;cases t1
  ·have g1:¬ (1≤t.l):=of_decide_eq_false g1
   refine Zg (v:=.bool false) rfl rfl<|Za rfl<|Zh rfl<|Zh rfl<|Zh rfl<|Zh rfl<|Zh rfl<|Zh rfl<|Zh rfl<|Zg (v:=.bool false) rfl rfl<|Za rfl<|Zh rfl<|Zh rfl<|Zh rfl<|Zh rfl<|Zg (v:=.bool false) rfl rfl<|Za rfl<|Zb ?_
   exact And.intro trivial (Exists.intro _ (And.intro rfl ⟨congrArg Value.bool (show false=vT t from by symm;rw [← Bool.not_eq_true];simp only [vT,inB,Bool.and_eq_true,decide_eq_true_eq];omega),hk⟩))
  ·have g1:1≤t.l:=of_decide_eq_true g1
   refine Zg (v:=.bool true) rfl rfl<|Za rfl ?_
   refine Zs rfl (Zn (b:=H.next) (o:=0) rfl ?_)
   refine Zs rfl (Zn (b:=H.next) (o:=1) rfl ?_)
   refine Zs rfl (ZD (b:=H.next) (o:=1) (v:=iv t.l) rfl c1.rd rfl ?_)
   refine Zs rfl (Zn (b:=H.next) (o:=0) rfl ?_)
   refine Zs rfl (Zn (b:=H.next) (o:=1) rfl ?_)
   refine Zs rfl (ZD (b:=H.next) (o:=2) (v:=iv t.h) rfl c1.rd rfl ?_)
   refine Zs rfl (XP (a:=t.l) (b:=t.h) rfl rfl ?_)
   intro t2 g2;cases t2
   ·have g2:¬ (t.l≤t.h):=of_decide_eq_false g2
    refine Zg (v:=.bool false) rfl rfl<|Za rfl<|Zh rfl<|Zh rfl<|Zh rfl<|Zh rfl<|Zg (v:=.bool false) rfl rfl<|Za rfl<|Zb ?_
    exact And.intro trivial (Exists.intro _ (And.intro rfl ⟨congrArg Value.bool (show false=vT t from by symm;rw [← Bool.not_eq_true];simp only [vT,inB,Bool.and_eq_true,decide_eq_true_eq];omega),hk⟩))
   ·have g2:t.l≤t.h:=of_decide_eq_true g2
    refine Zg (v:=.bool true) rfl rfl<|Za rfl ?_
    refine Zs rfl (Zn (b:=H.next) (o:=0) rfl ?_)
    refine Zs rfl (Zn (b:=H.next) (o:=1) rfl ?_)
    refine Zs rfl (ZD (b:=H.next) (o:=2) (v:=iv t.h) rfl c1.rd rfl ?_)
    refine Zs rfl (XP (a:=t.h) (b:=1000) rfl rfl ?_)
    intro t3 g3;cases t3
    ·have g3:¬ (t.h≤1000):=of_decide_eq_false g3
     refine Zg (v:=.bool false) rfl rfl<|Za rfl<|Zb ?_
     exact And.intro trivial (Exists.intro _ (And.intro rfl ⟨congrArg Value.bool (show false=vT t from by symm;rw [← Bool.not_eq_true];simp only [vT,inB,Bool.and_eq_true,decide_eq_true_eq];omega),hk⟩))
    ·have g3:t.h≤1000:=of_decide_eq_true g3
     refine Zg (v:=.bool true) rfl rfl<|Za rfl<|Zb ?_
     exact And.intro trivial (Exists.intro _ (And.intro rfl ⟨congrArg Value.bool (show true=vT t from by symm;simp only [vT,inB,Bool.and_eq_true,decide_eq_true_eq];omega),hk⟩))
theorem XE {α:Type} {l:List α} {p:α→Bool} {z:α}:((List.range l.length).all fun i=>p (l.getD i z))=l.all p:=by
 rw [Bool.eq_iff_iff,List.all_eq_true,List.all_eq_true]
 constructor
 ·intro h x hx
  obtain ⟨i,hi,e⟩:=List.mem_iff_getElem.1 hx
  have:=h i (List.mem_range.2 hi)
  rw [List.getD_eq_getElem?_getD,List.getElem?_eq_getElem hi] at this
  rw [← e];exact this
 ·intro h i hi
  have hi:=List.mem_range.1 hi
  refine h _ ?_
  rw [List.getD_eq_getElem?_getD,List.getElem?_eq_getElem hi]
  exact List.getElem_mem hi
theorem U4 {n:Nat} {ok:Nat→Bool} {x:Bool} (h:x=true↔∃ i,i < n∧(!(ok i))=true):(!x)=(List.range n).all ok:=by
 rw [Bool.eq_iff_iff,List.all_eq_true]
 constructor
 ·intro hx i hi
  cases e:ok i with
  | true=>rfl
  | false=>
   have:=h.2 ⟨i,List.mem_range.1 hi,by rw [e];rfl⟩
   rw [this] at hx;cases hx
 ·intro ha
  cases e:x with
  | false=>rfl
  | true=>
   obtain ⟨i,hi,q⟩:=h.1 e
   rw [ha i (List.mem_range.2 hi)] at q;cases q
theorem ZbH {xs:List Int} {sa:Option Addr} {n cap:Nat} (hs:Sl H sa n cap (cI xs)) (hl:xs.length=n) (hn:n≤1000000) (hlo:lo≤H.next) {F:FuncId} {gc:Array Value} {bad:Nat→Bool} (hc:∀ i,i < n→∀ H1,Zf H H1 []→∃ H2,ZJ Try.prog kn lo (.fn (.func F) gc) [iv (xs.getD i 0)] H1 (.bool (bad i)) H2∧Zf H1 H2 []):∃ x H',FnX Try.prog kn lo 98 [.slice sa n cap,.func (.func F) #[] gc] H (iv x) H'∧(decide (x ≥ 0)=true↔∃ i,i < n∧bad i=true)∧Zf H H' []:=by
 have key:=Zt (kn:=kn) (lo:=lo) (H:=H) (args:=[.slice sa n cap,.func (.func F) #[] gc]) (Q:=fun w H'=>∃ x,w=iv x∧(decide (x ≥ 0)=true↔∃ i,i < n∧bad i=true)∧Zf H H' []) Try.func98 B98 N98 Z98 L98 (by simp) ?_
 ·obtain ⟨w,H',h,x,rfl,r⟩:=key;exact ⟨x,H',h,r⟩
 have hk:=Zf.refl H []
 refine Ze<|Za rfl<|Zb<|Ze<|Za rfl<|YL (m:=n) rfl<|Za rfl<|Zb ?_
 refine YO (fn:=Try.f98) Zeu N98 ZdM (fun i:Nat=>[(0,.slice sa n cap),(1,.func (.func F) #[] gc),(7,iv (n:Int)),(8,iv (i:Int))])
  (fun k i H'=>i+k=n∧Zf H H' []∧∀ j,j < i→bad j=false) n 0 ⟨by omega,hk,fun j h=>absurd h (by omega)⟩ ⟨rfl,rfl,rfl,rfl,trivial⟩ ?_
 rintro k i L1 ⟨hik,hk,hall⟩
 have mk:=hk.1
 refine Ze<|YY (a:=(i:Int)) (b:=(n:Int)) rfl rfl<|Zb ?_
 refine And.intro (fun q1=>?_) (fun q1=>?_)
 ·have q1:(i:Int) < (n:Int):=of_decide_eq_true q1
  have hi:i < n:=by omega
  have ss0:=hk.sl0 hs
  rcases id ss0 with ⟨_,h0s,_⟩ | ⟨sb,es,rs,_⟩
  ·omega
  have ls:=rs.1
  have fs:=hs.old
  first | refine ZK ?_ | skip
  refine Ze<|Za rfl<|Za rfl<|Zb<|Ze<|Za rfl<|Za rfl<|Za rfl<|XH (b:=sb) (o:=0) (k:=i) (j:=(i:Int)) (by rw [← es];rfl) rfl rfl hi<|ZD (b:=sb) (o:=0+i * 1) (v:=iv (xs.getD i 0)) rfl rs (Jx (by omega)) ?_
  obtain ⟨H1,fH1,kH1⟩:=hc i hi L1 hk
  have mH1:=kH1.1
  have hk:=hk.trans kH1
  have rs:=kH1.rd rs (by simp)
  cases hb:bad i
  ·rw [hb] at fH1
   refine Zq (v:=.bool false) (vs:=[iv (xs.getD i 0)]) rfl fH1<|Zb<|YI ?_
   first | refine ZK ?_ | skip
   show Zw _ _ _ _ _ _ _ _
   refine Yw (a:=(i:Int)) (b:=1) rfl rfl ⟨by omega,by omega⟩<|Za rfl<|Zb ?_
   exact ⟨k - 1,i+1,by omega,⟨by omega,hk,fun j hj=>by rcases Nat.lt_or_ge j i with c | c;exact hall j c;rw [show j=i by omega];exact hb⟩,rfl,rfl,rfl,rfl,trivial⟩
  ·rw [hb] at fH1
   refine Zq (v:=.bool true) (vs:=[iv (xs.getD i 0)]) rfl fH1<|Zb<|YN<|Ze<|Za rfl<|Za rfl<|Zb ?_
   exact And.intro trivial (Exists.intro _ (And.intro rfl ⟨(i:Int),rfl,⟨fun _=>⟨i,hi,hb⟩,fun _=>decide_eq_true (by omega)⟩,hk⟩))
 ·have q1:¬ ((i:Int) < (n:Int)):=of_decide_eq_false q1
  refine Ze<|Za rfl<|Zb ?_
  exact And.intro trivial (Exists.intro _ (And.intro rfl ⟨-1,rfl,⟨fun h=>absurd (of_decide_eq_true h) (by omega),fun ⟨j,hj,q⟩=>by rw [hall j (by omega)] at q;cases q⟩,hk⟩))
theorem Zb9 {xs:List Int} {sa:Option Addr} {n cap:Nat} (hs:Sl H sa n cap (cI xs)) (hl:xs.length=n) (hn:n≤1000000) (hlo:lo≤H.next) {F:FuncId} {gc:Array Value} {bad:Nat→Bool} (hc:∀ i,i < n→∀ H1,Zf H H1 []→∃ H2,ZJ Try.prog kn lo (.fn (.func F) gc) [iv (xs.getD i 0)] H1 (.bool (bad i)) H2∧Zf H1 H2 []):∃ b H',FnX Try.prog kn lo 80 [.slice sa n cap,.func (.func F) #[] gc] H (.bool b) H'∧(b=true↔∃ i,i < n∧bad i=true)∧Zf H H' []:=by
 have key:=Zt (kn:=kn) (lo:=lo) (H:=H) (args:=[.slice sa n cap,.func (.func F) #[] gc]) (Q:=fun w H'=>∃ b,w=.bool b∧(b=true↔∃ i,i < n∧bad i=true)∧Zf H H' []) Try.func80 B80 N80 Z80 L80 (by simp) ?_
 ·obtain ⟨w,H',h,x,rfl,r⟩:=key;exact ⟨x,H',h,r⟩
 have hk:=Zf.refl H []
 refine Ze<|Za rfl<|Zb<|Ze<|Za rfl<|Za rfl ?_
 obtain ⟨x,H1,fH1,hx,kH1⟩:=ZbH (kn:=kn) (lo:=lo) (H:=H) hs hl hn (by omega) (bad:=bad) hc
 refine Zq (vs:=[.slice sa n cap,.func (.func F) #[] gc]) rfl (Zk fH1) ?_
 have mH1:=kH1.1
 have hk:=hk.trans kH1
 refine WO (a:=x) (b:=0) rfl rfl<|Za rfl<|Zb ?_
 exact And.intro trivial (Exists.intro _ (And.intro rfl ⟨_,rfl,hx,hk⟩))
theorem Za9 {E:Value} {G:FuncId} {gc:Array Value} {cc:Nat} {b:Bool} (r1:Rd H cc [.func (.func G) #[] gc]) (hg:∀ H1,Zf H H1 []→∃ H2,ZJ Try.prog kn lo (.fn (.func G) gc) [E] H1 (.bool b) H2∧Zf H1 H2 []):∃ H',FnX Try.prog kn lo 81 [E,.pointer (some ⟨cc,0,none⟩)] H (.bool (!b)) H'∧Zf H H' []:=by
 have key:=Zt (kn:=kn) (lo:=lo) (H:=H) (args:=[E,.pointer (some ⟨cc,0,none⟩)]) (Q:=fun w H'=>w=.bool (!b)∧Zf H H' []) Try.func81 B81 N81 Z81 L81 (by simp) ?_
 ·obtain ⟨w,H',h,rfl,q⟩:=key;exact ⟨H',h,q⟩
 have hk:=Zf.refl H []
 refine Ze<|Za rfl<|Zb<|Ze<|ZD (b:=cc) (o:=0) (v:=.func (.func G) #[] gc) rfl r1 rfl<|Za rfl ?_
 obtain ⟨H1,fH1,kH1⟩:=hg H hk
 refine Zq (v:=.bool b) (vs:=[E]) rfl fH1 ?_
 have mH1:=kH1.1
 have hk:=hk.trans kH1
 have r1:=kH1.rd r1 (by simp)
 refine Zg (v:=.bool (!b)) rfl rfl<|Za rfl<|Zb ?_
 exact And.intro trivial (Exists.intro _ (And.intro rfl ⟨rfl,hk⟩))
theorem ZbB {xs:List Int} {sa:Option Addr} {n cap:Nat} (hs:Sl H sa n cap (cI xs)) (hl:xs.length=n) (hn:n≤1000000) (hlo:lo≤H.next) {F:FuncId} {gc:Array Value} {ok:Nat→Bool} (hc:∀ i,i < n→∀ H1,Zf H H1 []→∃ H2,ZJ Try.prog kn lo (.fn (.func F) gc) [iv (xs.getD i 0)] H1 (.bool (ok i)) H2∧Zf H1 H2 []):∃ H',FnX Try.prog kn lo 51 [.slice sa n cap,.func (.func F) #[] gc] H (.bool ((List.range n).all ok)) H'∧Zf H H' []:=by
 have key:=Zt (kn:=kn) (lo:=lo) (H:=H) (args:=[.slice sa n cap,.func (.func F) #[] gc]) (Q:=fun w H'=>w=.bool ((List.range n).all ok)∧Zf H H' []) Try.func51 B51 N51 Z51 L51 (by simp) ?_
 ·obtain ⟨w,H',h,rfl,q⟩:=key;exact ⟨H',h,q⟩
 have hk:=Zf.refl H []
 refine Ze<|Ye (v:=.func (.func F) #[] gc) rfl ?_
 intro H1 kH1 nH1 c1
 have c1:Cl H1 H.next [.func (.func F) #[] gc]:=c1
 have mH1:=kH1.1
 have hk:=hk.trans kH1
 refine Za rfl<|Zb<|Ze<|Za rfl<|Zg (v:=.func (.func 81) #[] #[pt H.next]) rfl (by kernel_rfl) ?_
 obtain ⟨x,H2,fH2,hx,kH2⟩:=Zb9 (kn:=kn) (lo:=lo) (H:=H1) (hk.sl0 hs) hl hn (by omega) (F:=81) (gc:=#[.pointer (some ⟨H.next,0,none⟩)]) (bad:=fun i=>!(ok i)) (fun i hi H9 k9=>by
  obtain ⟨H8,f8,k8⟩:=Za9 (kn:=kn) (lo:=lo) (H:=H9) (E:=iv (xs.getD i 0)) (b:=ok i) (k9.rd c1.rd (by simp)) (fun H7 k7=>hc i hi H7 (hk.trans (k9.trans k7)))
  exact ⟨H8,ZV rfl (by simpa using f8),k8⟩)
 refine Zq (vs:=[.slice sa n cap,.func (.func 81) #[] #[pt H.next]]) rfl (Zk fH2) ?_
 have mH2:=kH2.1
 have hk:=hk.trans kH2
 have c1:=kH2.cl c1 (by simp)
 refine Zg (v:=.bool (!x)) rfl rfl<|Za rfl<|Zb ?_
 exact And.intro trivial (Exists.intro _ (And.intro rfl ⟨congrArg Value.bool (U4 hx),hk⟩))
end
end Go.Ax


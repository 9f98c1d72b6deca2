import Derived.Calls
import Derived.Below
import Derived.Laws.Entries
import Derived.Laws.Cells
import Derived.Laws.CopyRow
set_option linter.all false
namespace Go.Ax
open Go
noncomputable section

inductive Tr (α:Type) where
 | nil
 | node (v:Option α) (l r:Tr α)

def Tr.get {α:Type} (t:Tr α):Nat→Option α:=Tr.rec (fun _=>none) (fun v _ _ gl gr k=>
 Bool.rec (Bool.rec (gr (Nat.div k 2)) (gl (Nat.div k 2)) (Nat.beq (Nat.mod k 2) 1)) v (Nat.beq k 0)) t
def Tr.one {α:Type} (x:α):Nat→Nat→Tr α:=Nat.rec (fun _=>.nil) (fun _ ih k=>
 Bool.rec (Bool.rec (.node none .nil (ih (Nat.div k 2))) (.node none (ih (Nat.div k 2)) .nil) (Nat.beq (Nat.mod k 2) 1)) (.node (some x) .nil .nil) (Nat.beq k 0))
def Tr.set {α:Type} (t:Tr α) (k:Nat) (x:α):Tr α:=Tr.rec (fun k=>Tr.one x (Nat.succ k) k) (fun v l r sl sr k=>
 Bool.rec (Bool.rec (.node v l (sr (Nat.div k 2))) (.node v (sl (Nat.div k 2)) r) (Nat.beq (Nat.mod k 2) 1)) (.node (some x) l r) (Nat.beq k 0)) t k

def Tr.del {α:Type} (t:Tr α) (k:Nat):Tr α:=Tr.rec (fun _=>.nil) (fun v l r dl dr k=>
 Bool.rec (Bool.rec (.node v l (dr (Nat.div k 2))) (.node v (dl (Nat.div k 2)) r) (Nat.beq (Nat.mod k 2) 1)) (.node none l r) (Nat.beq k 0)) t k

inductive Ob where
 | cells (cs:List Value) (elem:TypeId) (loose:Bool)
 | ro (cs:List Value)
 | mp (es:Array MapEntry) (clock:Nat)
 | mq (es:Array MapEntry) (clock:Nat)
 | it (m:Option Nat) (since:Nat) (seen:Array Nat) (last:Nat)
 | lp (state:LoopState) (pending:Option Code) (fn:FuncId) (n:Nat) (T:Tr Value) (params:List Tmp) (code body:Code) (defers:Nat)
 | dfr (ds:Option (List Deferred))
 | dead

structure Hp where
 next:Nat
 t:Tr Ob

structure Fr where
 fn:FuncId
 n:Nat
 T:Tr Value
 defers:List Deferred
 round:Option Nat

def Yx:Value→Bool
 | .bool _ | .int _ _ | .string _ | .nilIface | .nilFunc | .pointer none | .map none=>true
 | .slice none n c=>Nat.beq n 0 && Nat.beq c 0
 | _=>false
def flat:Value→Bool
 | .agg cs=>cs.toList.all Yx
 | .tuple cs=>cs.toList.all Yx
 | .iface _ (.agg cs)=>cs.toList.all Yx
 | .iface _ v=>Yx v
 | v=>Yx v

def Zz {α:Type} (P:Program):Sem α→Option α
 | .pure a=>some a
 | .program k=>Zz P (k P)
 | _=>none

def ev (A:Fr):Operand→Option Value
 | .tmp t=>A.T.get t
 | .const v=>bif flat v then some v else none
 | .func f=>some (.func (.func f) #[] #[])
 | .global _=>none
def evs (A:Fr):List Operand→Option (List Value)
 | []=>some []
 | x :: r=>match ev A x with | none=>none | some v=>match evs A r with | none=>none | some vs=>some (v :: vs)

inductive Rs where
 | val (v:Value) (H:Hp)
 | skip (H:Hp)
 | dfr (d:Deferred)
 | recov
 | call (t:Target) (args:List Value)
 | pan (v:Value)

def Hp.new (H:Hp) (o:Ob):Hp:={ next:=H.next+1,t:=H.t.set H.next o }

def XO (P:Program) (t:TypeId):Option Bool:=
 match P.underlying t with
 | some (.struct _) | some (.array _ _)=>some true
 | some _=>some false
 | none=>none

def row (n:Nat) (cs:List Value) (i:Nat):Option (List Value):=
 let r:=(cs.drop i).take n
 bif Nat.beq r.length n then some r else none

def cellsOf (H:Hp) (b:Nat):Option (List Value):=match H.t.get b with | some (.cells cs _ _)=>some cs | some (.ro cs)=>some cs | _=>none

def WS (P:Program) (H:Hp) (t:TypeId) (a:Addr):Option Value:=
 match cellsOf H a.block with
 | some cs=>
  match a.spot,XO P t with
  | none,some true=>match P.info? t with
   | some i=>match row i.size cs a.off with | some r=>some (.agg r.toArray) | none=>none
   | none=>none
  | none,some false=>cs[a.off]?
  | _,_=>none
 | none=>none

def Yk:List Value→Nat→List Value→List Value
 | cs,_,[]=>cs
 | cs,i,v :: vs=>Yk (cs.set i v) (i+1) vs

def one:Value→Bool
 | .agg _ | .tuple _=>false
 | _=>true

def Ud (P:Program) (lo:Nat) (H:Hp) (t:TypeId) (a:Addr) (v:Value):Option Hp:=
 match H.t.get a.block with
 | some (.cells cs e l)=>
  match a.spot,P.info? t with
  | none,some i=>
   bif Nat.ble lo a.block && Nat.beq v.cells.toList.length i.size && Nat.ble (a.off+i.size) cs.length && v.cells.toList.all one then
    some { H with t:=H.t.set a.block (.cells (Yk cs a.off v.cells.toList) e l) }
   else none
  | _,_=>none
 | _=>none

def Ym (P:Program) (t:TypeId):Option Value:=
 match P.info? t with
 | some i=>match i.zero with
  | some z=>bif flat z then some z else none
  | none=>none
 | none=>none

def ptr (b:Nat):Value:=.pointer (some ⟨b,0,none⟩)

def ZZ (P:Program) (t:TypeId):Option (TypeId × Nat):=
 match P.underlying t with
 | some (.slice e)=>match P.info? e,Ym P e with
  | some i,some z=>bif Nat.beq i.size 0 || !(Nat.beq z.cells.toList.length i.size) || !(Nat.ble i.bytes 1048576) then none else some (e,i.size)
  | _,_=>none
 | _=>none

inductive Kd where
 | pure
 | read (b:Nat)
 | heavy
 | store (b:Nat)
 | full
 | mk (b:Nat)

def ZL (z:List Value):Nat→List Value
 | 0=>[]
 | n+1=>z ++ ZL z n

def Z6 (lo:Nat) (H:Hp) (e:TypeId) (size:Nat) (s:Value) (n:Nat) (news:List Value):Option (Rs × Kd):=
 match s with
 | .slice none len _=>
  bif Yx s && Nat.beq len 0 && Nat.ble n 1048576 then
   bif Nat.beq n 0 then some (.val s H,.pure) else some (.val (.slice (some ⟨H.next,0,none⟩) n n) (H.new (.cells news e true)),.heavy)
  else none
 | .slice (some a) len cap=>
  bif Nat.ble (len+n) 1048576 then
   bif Nat.beq n 0 then some (.val s H,.pure) else
   match a.spot,H.t.get a.block with
   | none,some (.cells cs e' false)=>
    bif Nat.ble (len+n) cap then
     bif Nat.ble lo a.block && Nat.ble (a.off+(len+n) * size) cs.length && news.all one then
      some (.val (.slice (some a) (len+n) cap) { H with t:=H.t.set a.block (.cells (Yk cs (a.off+len * size) news) e' false) },.store a.block)
     else none
    else match row (len * size) cs a.off with
     | some old=>some (.val (.slice (some ⟨H.next,0,none⟩) (len+n) (len+n)) (H.new (.cells (old ++ news) e true)),.heavy)
     | none=>none
   | none,some (.cells cs e' true)=>
    bif Nat.beq e e' && Nat.ble lo a.block && news.all one then
     bif Nat.ble (a.off+(len+n) * size) cs.length then
      some (.val (.slice (some a) (len+n) cap) { H with t:=H.t.set a.block (.cells (Yk cs (a.off+len * size) news) e' true) },.store a.block)
     else bif Nat.beq (a.off+len * size) cs.length then
      some (.val (.slice (some ⟨H.next,0,none⟩) (len+n) (len+n)) ({ H with t:=H.t.set a.block .dead }.new (.cells (cs.drop a.off ++ news) e true)),.store a.block)
     else none
    else none
   | some 0,some (.cells _ e' true)=>
    bif Nat.beq e e' && Nat.ble lo a.block && news.all one && Nat.beq len 0 then
     some (.val (.slice (some ⟨H.next,0,none⟩) n n) ({ H with t:=H.t.set a.block .dead }.new (.cells news e true)),.store a.block)
    else none
   | _,_=>none
  else none
 | _=>none

def Xm (H:Hp) (size:Nat):Value→Option (Nat × List Value)
 | .slice none n _=>bif Nat.beq n 0 then some (0,[]) else none
 | .slice (some a) n _=>
  match a.spot,cellsOf H a.block with
  | none,some cs=>match row (n * size) cs a.off with | some r=>some (n,r) | none=>none
  | some _,_=>bif Nat.beq n 0 then some (0,[]) else none
  | _,_=>none
 | _=>none

def VI (t:TypeId) (es:Array MapEntry) (k:Value):Sem (Array MapEntry):=do
 let .map key _ ← underlying t | stuck "delete"
 Instr.checkKey es.isEmpty 10000 key k
 match ← Instr.findKey key k es.toList with
 | some (i,_)=>pure (es.eraseIdxIfInBounds i)
 | none=>pure es
def Ys (P:Program) (lo:Nat) (H:Hp) (b:Builtin) (ts:Array TypeId) (vs:List Value):Option (Rs × Kd):=
 match b,vs with
 | .append,[s,x]=>
  match ts[0]?,ts[1]? with
  | some t0,some t1=>
   match ZZ P t0,P.underlying t1 with
   | some (e,size),some (.slice _)=>
    match Xm H size x with
    | some (n,news)=>Z6 lo H e size s n news
    | none=>none
   | some (e,size),some (.int _)=>
    match x,Ym P e with
    | .int _ (.ofNat n),some z=>bif Nat.ble n 1048576 then Z6 lo H e size s n (ZL z.cells.toList n) else none
    | _,_=>none
   | _,_=>none
  | _,_=>none
 | .copy,[d,s]=>
  match ts[0]? with
  | some t0=>
   match ZZ P t0,d,s with
   | some (_,size),.slice (some a) dl _,.slice sa sl sc=>
    let n:=Nat.min sl dl
    match Xm H size (.slice sa n sc) with
    | some (_,news)=>
     match a.spot,H.t.get a.block with
     | none,some (.cells cs e l)=>
      bif Nat.ble lo a.block && Nat.ble (a.off+n * size) cs.length && news.all one then
       some (.val (.int .i64 n) { H with t:=H.t.set a.block (.cells (Yk cs (a.off) news) e l) },.full)
      else none
     | _,_=>none
    | none=>none
   | some _,.slice none _ _,.slice _ _ _=>some (.val (.int .i64 0) H,.pure)
   | _,_,_=>none
  | none=>none
 | .cap,[.slice a _ c]=>
  match ts[0]? with
  | some t=>match P.underlying t,a with
   | some (.slice _),none=>some (.val (.int .i64 c) H,.pure)
   | some (.slice _),some ad=>match ad.spot,H.t.get ad.block with
    | none,some (.cells _ _ false)=>some (.val (.int .i64 c) H,.read ad.block)
    | none,some (.ro _)=>some (.val (.int .i64 c) H,.read ad.block)
    | _,_=>none
   | _,_=>none
  | none=>none
 | .delete,[m,k]=>
  match ts[0]? with
  | some t=>
   match P.underlying t,m with
   | some (.map _ _),.map (some b)=>
    match H.t.get b with
    | some (.mp es c)=>
     bif flat k && Nat.ble lo b then
      match Zz P (VI t es k) with
      | some es'=>some (.val (.tuple #[]) { H with t:=H.t.set b (.mp es' c) },.store b)
      | none=>none
     else none
    | _=>none
   | _,_=>none
  | none=>none
 | .panic,[.iface t v]=>some (.pan (.iface t v),.full)
 | .recover,[]=>some (.recov,.full)
 | _,_=>none

def Yz (A:Fr) (c:Call):Option (Target × List Value):=
 match evs A c.args.toList with
 | none=>none
 | some vs=>
  match c.callee with
  | .builtin _=>none
  | .invoke r name=>match ev A r with | some v=>some (.fn (.method name) #[],v :: vs) | none=>none
  | .value f=>match ev A f with
   | some (.func fn first cap)=>some (.fn fn cap,first.toList ++ vs)
   | _=>none

def YK (A:Fr) (dflt:Nat):Option Operand→Option Nat
 | none=>some dflt
 | some x=>match ev A x with
  | some (.int _ (.ofNat n))=>some n
  | _=>none

def YT (A:Fr):List (Nat × Operand)→Option (List (Nat × Value))
 | []=>some []
 | (i,x) :: r=>match ev A x with | none=>none | some v=>match YT A r with | none=>none | some vs=>some ((i,v) :: vs)

def WF (place:Nat→Option (Nat × Nat)):List Value→List (Nat × Value)→Option (List Value)
 | cs,[]=>some cs
 | cs,(i,v) :: rest=>
  match place i with
  | none=>none
  | some (off,size)=>
   bif Nat.beq v.cells.toList.length size && Nat.ble (off+size) cs.length then WF place (Yk cs off v.cells.toList) rest else none

def X7 (P:Program):List Field→Option (List (Nat × Nat))
 | []=>some []
 | f :: r=>match P.info? f.type with | none=>none | some i=>match X7 P r with | none=>none | some l=>some ((f.offset,i.size) :: l)

def evO (A:Fr):Option Operand→Option (Option Value)
 | none=>some none
 | some x=>match ev A x with | some v=>some (some v) | none=>none

def yN (P:Program) (H:Hp) (t:TypeId) (a b:Value):Option Bool:=
 match P.underlying t,a,b with
 | some (.pointer e),.pointer (some ⟨p,0,none⟩),.pointer (some ⟨q,0,none⟩)=>
  match P.info? e,H.t.get p,H.t.get q with
  | some i,some (.cells _ _ false),some (.cells _ _ false)=>bif Nat.beq i.size 0 then none else some (Nat.beq p q)
  | _,_,_=>none
 | _,_,_=>none
def VD (P:Program) (t:TypeId) (a b:Value):Bool:=
 match P.underlying t,a,b with
 | some (.pointer _),.pointer none,.pointer (some _) | some (.pointer _),.pointer (some _),.pointer none=>true
 | some (.interface _),.nilIface,.iface _ _ | some (.interface _),.iface _ _,.nilIface=>true
 | some (.slice _),.slice none _ _,.slice (some _) _ _ | some (.slice _),.slice (some _) _ _,.slice none _ _=>true
 | some (.map _ _),.map none,.map (some _) | some (.map _ _),.map (some _),.map none=>true
 | some (.func _ _ _),.nilFunc,.func _ _ _ | some (.func _ _ _),.func _ _ _,.nilFunc=>true
 | _,_,_=>false

def qr (P:Program) (t:TypeId) (cs:List Value) (off:Nat):Option Value:=
 match XO P t,P.info? t with
 | some true,some i=>match row i.size cs off with | some r=>some (.agg r.toArray) | none=>none
 | some false,some _=>cs[off]?
 | _,_=>none

def WN (P:Program) (b:Builtin) (ts:Array TypeId) (ty:TypeId) (consts:Array Bool) (vs:List Value):Option Value:=
 match b,vs with
 | .len,[.slice _ n _]=>
  match ts[0]? with
  | some t=>match P.underlying t with | some (.slice _)=>some (.int .i64 n) | _=>none
  | none=>none
 | .len,[v] | .min,[v] | .max,[v]=>flatCall P b ts ty consts [v]
 | .min,[v,u] | .max,[v,u]=>flatCall P b ts ty consts [v,u]
 | .min,[v,u,x] | .max,[v,u,x]=>flatCall P b ts ty consts [v,u,x]
 | .min,[v,u,x,y] | .max,[v,u,x,y]=>flatCall P b ts ty consts [v,u,x,y]
 | _,_=>none
where
 flatCall (P:Program) (b:Builtin) (ts:Array TypeId) (ty:TypeId) (consts:Array Bool) (vs:List Value):Option Value:=
  bif vs.all flat then
   match Zz P (builtin b ts ty consts vs.toArray) with
   | some (.value v)=>bif flat v then some v else none
   | _=>none
  else none

def Zo (P:Program) (A:Fr) (o:Oper):Option Value:=
 match o.op with
 | .move x | .assign x=>ev A x
 | .pick c a b=>match ev A c,ev A a,ev A b with
  | some (.bool t),some x,some y=>some (bif t then x else y)
  | _,_,_=>none
 | .build t parts=>
  match Ym P t,YT A parts.toList with
  | some z,some ps=>
   match P.underlying t with
   | some (.struct fs)=>match X7 P fs.toList with
    | some pl=>match WF (fun i=>pl[i]?) z.cells.toList ps with | some cs=>some (.agg cs.toArray) | none=>none
    | none=>none
   | some (.array _ e)=>match P.info? e with
    | some i=>match WF (fun k=>some (k * i.size,i.size)) z.cells.toList ps with | some cs=>some (.agg cs.toArray) | none=>none
    | none=>none
   | _=>none
  | _,_=>none
 | .nilCheck x=>match ev A x with
  | some (.pointer (some a))=>some (.pointer (some a))
  | some (.iface t v)=>some (.iface t v)
  | some (.func (.func f) a b)=>some (.func (.func f) a b)
  | some (.func (.yield f) a b)=>some (.func (.yield f) a b)
  | _=>none
 | .binOp op t x y _=>
  match ev A x,ev A y with
  | some a,some b=>
   bif flat a && flat b then
    match Zz P (do eqGuard op t x y a b;binOp op t a b) with
    | some v=>bif flat v then some v else none
    | none=>none
   else
    bif VD P t a b then
     match op with
     | .eql=>some (.bool false)
     | .neq=>some (.bool true)
     | _=>none
    else none
  | _,_=>none
 | .unOp op _ x=>match ev A x with
  | some v=>bif flat v then match Zz P (Op.unary op v) with
    | some r=>bif flat r then some r else none
    | none=>none
   else none
  | none=>none
 | .convert s d x=>match ev A x with
  | some v=>bif flat v then match Zz P (convert s d v) with
    | some r=>bif flat r then some r else none
    | none=>none
   else none
  | none=>none
 | .makeInterface t x=>match ev A x,P.underlying t with
  | some _,some (.interface _)=>none
  | some v,some _=>some (.iface t v)
  | _,_=>none
 | .makeFunc fn first cap=>match fn,evs A first.toList,evs A cap.toList with
  | .func f,some a,some b=>some (.func (.func f) a.toArray b.toArray)
  | .method m,some a,some b=>some (.func (.method m) a.toArray b.toArray)
  | .methodOf t m,some a,some b=>some (.func (.methodOf t m) a.toArray b.toArray)
  | _,_,_=>none
 | .fieldAddr s x f=>match P.underlying s,ev A x with
  | some (.struct fs),some (.pointer (some a))=>match fs[f]? with
   | some fd=>match P.info? fd.type with
    | some i=>bif Nat.beq i.size 0 then none else some (.pointer (some (a.add fd.offset)))
    | _=>none
   | none=>none
  | _,_=>none
 | .field t x f=>match P.underlying t,ev A x with
  | some (.struct fs),some (.agg cs)=>match fs[f]? with
   | some fd=>qr P fd.type cs.toList fd.offset
   | none=>none
  | _,_=>none
 | .indexAddr t x ix=>match P.underlying t,ev A x,ev A ix with
  | some (.slice e),some (.slice (some a) len _),some (.int _ (.ofNat i))=>
   match P.info? e with
   | some inf=>bif Nat.ble (i+1) len then some (.pointer (some (a.add (i * inf.size)))) else none
   | _=>none
  | some (.array len e),some (.pointer (some a)),some (.int _ (.ofNat i))=>
   match P.info? e with
   | some inf=>bif Nat.ble (i+1) len then some (.pointer (some (a.add (i * inf.size)))) else none
   | _=>none
  | _,_,_=>none
 | .index t x ix=>match P.underlying t,ev A x,ev A ix with
  | some (.array len e),some (.agg cs),some (.int _ (.ofNat i))=>
   match P.info? e with
   | some inf=>bif Nat.ble (i+1) len then qr P e cs.toList (i * inf.size) else none
   | _=>none
  | some .string,some v,some k=>
   bif flat v && flat k then match Zz P (Instr.index t v k) with
    | some r=>bif flat r then some r else none
    | none=>none
   else none
  | _,_,_=>none
 | .extract x i=>match ev A x with
  | some (.tuple vs)=>vs.toList[i]?
  | _=>none
 | .typeAssert x _ asserted ok=>match P.underlying asserted,ev A x with
  | some (.interface _),_=>none
  | some _,some (.iface t v)=>
   bif Nat.beq t asserted then some (bif ok then .tuple #[v,.bool true] else v)
   else bif ok then match Ym P asserted with | some z=>some (.tuple #[z,.bool false]) | none=>none
   else none
  | some _,some .nilIface=>bif ok then match Ym P asserted with | some z=>some (.tuple #[z,.bool false]) | none=>none else none
  | _,_=>none
 | .slice t x lw hi mx=>match P.underlying t,mx with
  | some .string,none=>
   match ev A x,evO A lw,evO A hi with
   | some v,some l,some h=>
    bif flat v && l.toList.all flat && h.toList.all flat then
     match Zz P (Instr.sliceAt t v l h none) with
     | some r=>bif flat r then some r else none
     | none=>none
    else none
   | _,_,_=>none
  | _,_=>none
 | .call c=>match c.callee with
  | .builtin b=>match evs A c.args.toList with
   | some vs=>WN P b c.argTypes o.type (c.args.map fun | .const _=>true | _=>false) vs
   | none=>none
  | _=>none
 | _=>none

def VA:Value→Bool
 | .tuple cs=>cs.toList.all flat
 | v=>flat v
def Wp (t:TypeId) (es:Array MapEntry) (k:Value) (ok:Bool):Sem Value:=do
 let .map key elem ← underlying t | stuck "lookup"
 Instr.checkKey es.isEmpty 10000 key k
 let (v,got) ← match ← Instr.findKey key k es.toList with
  | some (_,v)=>pure (v,true)
  | none=>pure (← zeroValue elem,false)
 pure (if ok then .tuple #[v,.bool got] else v)
def ZaP (t:TypeId) (es:Array MapEntry) (k:Value):Sem (Value × Bool):=do
 let .map key elem ← underlying t | stuck "lookup"
 Instr.checkKey es.isEmpty 10000 key k
 match ← Instr.findKey key k es.toList with
  | some (_,v)=>pure (v,true)
  | none=>pure (← zeroValue elem,false)
def XN (t:TypeId) (es:Array MapEntry) (clock:Nat) (k v:Value):Sem (Array MapEntry × Nat):=do
 let .map key _ ← underlying t | stuck "update"
 Instr.checkKey false 10000 key k
 match ← Instr.findKey key k es.toList with
 | some (i,_)=>do
  let k ← Instr.keyThatStays (((es[i]?).map (·.key)).getD k) k
  pure (es.modify i fun e=>{ e with key:=k,val:=v },clock)
 | none=>pure (es.push { key:=k,val:=v,born:=clock },clock+1)
def WX (P:Program) (lo:Nat) (H:Hp) (t:TypeId) (m k v:Value):Option (Rs × Kd):=
 match P.underlying t,m with
 | some (.map _ _),.map (some b)=>
  match H.t.get b with
  | some (.mp es c)=>
   bif flat k && flat v && Nat.ble lo b then
    match Zz P (XN t es c k v) with
    | some (es',c')=>some (.skip { H with t:=H.t.set b (.mp es' c') },.store b)
    | none=>none
   else none
  | some (.mq es c)=>
   bif flat k && Nat.ble lo b then
    match Zz P (XN t es c k v) with
    | some (es',c')=>some (.skip { H with t:=H.t.set b (.mq es' c') },.store b)
    | none=>none
   else none
  | _=>none
 | _,_=>none

def UI (t:TypeId) (es:Array MapEntry) (clock:Nat) (k:Value):Sem (Value × Array MapEntry × Nat):=do
 let .map key elem ← underlying t | stuck "entry"
 Instr.checkKey false 10000 key k
 match ← Instr.findKey key k es.toList with
 | some (i,v)=>do
  let k ← Instr.keyThatStays (((es[i]?).map (·.key)).getD k) k
  pure (.tuple #[v,goInt (((es[i]?).map (·.born)).getD 0)],es.modify i fun e=>{ e with key:=k },clock)
 | none=>do
  let zero ← zeroValue elem
  pure (.tuple #[zero,goInt clock],es.push { key:=k,val:=zero,born:=clock },clock+1)
def UU (P:Program) (lo:Nat) (H:Hp) (t:TypeId) (m k:Value):Option (Rs × Kd):=
 match P.underlying t,m with
 | some (.map _ _),.map (some b)=>
  match H.t.get b with
  | some (.mp es c)=>
   bif flat k && Nat.ble lo b then
    match Zz P (UI t es c k) with
    | some (v,es',c')=>bif VA v then some (.val v { H with t:=H.t.set b (.mp es' c') },.store b) else none
    | none=>none
   else none
  | _=>none
 | _,_=>none
def XL (es:Array MapEntry) (stamp value:Value):Sem (Array MapEntry):=do
 let born ← asInt stamp
 match es.findIdx? (fun e=>(e.born:Int) == born) with
 | some i=>pure (es.modify i fun e=>{ e with val:=value })
 | none => stuck "entryStore"
def XB (P:Program) (lo:Nat) (H:Hp) (m s v:Value):Option (Rs × Kd):=
 match m with
 | .map (some b)=>
  match H.t.get b with
  | some (.mp es c)=>
   bif flat s && flat v && Nat.ble lo b then
    match Zz P (XL es s v) with
    | some es'=>some (.skip { H with t:=H.t.set b (.mp es' c) },.store b)
    | none=>none
   else none
  | _=>none
 | _=>none

def Zu (P:Program) (lo:Nat) (A:Fr) (H:Hp) (o:Oper):Option (Rs × Kd):=
 match o.op with
 | .alloc e=>match Ym P e with | some z=>some (.val (ptr H.next) (H.new (.cells z.cells.toList e false)),.heavy) | none=>none
 | .box e x=>match ev A x with | some v=>some (.val (ptr H.next) (H.new (.cells v.cells.toList e false)),.heavy) | none=>none
 | .buildSlice t len parts=>
  match ZZ P t,YT A parts.toList with
  | some (e,size),some ps=>
   match Ym P e with
   | some z=>
    bif Nat.ble (len * size) 16777216 then
     match WF (fun k=>some (k * size,size)) (ZL z.cells.toList len) ps with
     | some cs=>some (.val (.slice (some ⟨H.next,0,none⟩) len len) (H.new (.cells cs e false)),.heavy)
     | none=>none
    else none
   | none=>none
  | _,_=>none
 | .load t a=>match ev A a with
  | some (.pointer (some ad))=>match WS P H t ad with | some v=>some (.val v H,.read ad.block) | none=>none
  | _=>none
 | .store t a x=>match ev A a,ev A x with
  | some (.pointer (some ad)),some v=>match Ud P lo H t ad v with | some H'=>some (.skip H',.store ad.block) | none=>none
  | _,_=>none
 | .makeSlice t l c=>match ZZ P t,ev A l,ev A c with
  | some (e,size),some (.int _ (.ofNat n)),some (.int _ (.ofNat m))=>
   match Ym P e,P.info? e with
   | some z,some i=>
    bif Nat.ble n m && Nat.ble (i.bytes * m) 1099511627776 && Nat.ble m 1048576 then
     some (.val (.slice (some ⟨H.next,0,none⟩) n m) (H.new (.cells (ZL z.cells.toList m) e false)),.heavy)
    else none
   | _,_=>none
  | _,_,_=>none
 | .slice t x lw hi mx=>match P.underlying t,ev A x,mx with
  | some (.slice e),some (.slice a len cap),none=>
   match P.info? e,YK A len hi,YK A 0 lw with
   | some i,some h,some l=>
    match a with
    | none=>bif Nat.beq len 0 && Nat.beq cap 0 && Nat.beq h 0 && Nat.beq l 0 then some (.val (.slice none 0 0) H,.pure) else none
    | some ad=>
     match ad.spot,H.t.get ad.block with
     | none,some (.cells _ e' true)=>
      bif Nat.beq e e' && !(Nat.beq i.size 0) && Nat.ble h len && Nat.ble l h then
       some (.val (bif !(Nat.beq l len) || Nat.beq l 0 then .slice (some (ad.add (l * i.size))) (h - l) (cap - l) else .slice (some ⟨ad.block,ad.off+l * i.size,some 0⟩) 0 0) H,.read ad.block)
      else none
     | none,some (.cells _ _ false)=>
      bif Nat.ble h cap && Nat.ble l h then
       some (.val (.slice (some (bif Nat.beq cap l then ad else ad.add (l * i.size))) (h - l) (cap - l)) H,.read ad.block)
      else none
     | none,some (.ro _)=>
      bif Nat.ble h cap && Nat.ble l h then
       some (.val (.slice (some (bif Nat.beq cap l then ad else ad.add (l * i.size))) (h - l) (cap - l)) H,.read ad.block)
      else none
     | some _,_=>bif Nat.beq len 0 && Nat.beq cap 0 && Nat.beq h 0 && Nat.beq l 0 then some (.val (.slice (some ad) 0 0) H,.pure) else none
     | _,_=>none
   | _,_,_=>none
  | some (.array n e),some (.pointer (some ad)),none=>
   match P.info? e,YK A n hi,YK A 0 lw with
   | some i,some h,some l=>
    match H.t.get ad.block with
    | some (.cells _ _ false)=>
     bif Nat.ble h n && Nat.ble l h then
      some (.val (.slice (some (bif Nat.beq n l then ad else ad.add (l * i.size))) (h - l) (n - l)) H,.read ad.block)
     else none
    | _=>none
   | _,_,_=>none
  | _,_,_=>none
 | .call c=>match c.callee with
  | .builtin b=>match evs A c.args.toList with
   | some vs=>Ys P lo H b c.argTypes vs
   | none=>none
  | _=>match Yz A c with | some (t,vs)=>some (.call t vs,.full) | none=>none
 | .defer c=>match c.callee with
  | .builtin _=>none
  | _=>match Yz A c with | some (t,vs)=>some (.dfr { target:=t,args:=vs.toArray },.full) | none=>none
 | .panic x=>match ev A x with | some (.iface t v)=>some (.pan (.iface t v),.full) | _=>none
 | .makeMap _ r=>match r with | none=>some (.val (.map (some H.next)) (H.new (.mp #[] 0)),.heavy) | some _=>none
 | .lookup t x ix ok=>match P.underlying t,ev A x,ev A ix with
  | some (.map _ _),some (.map (some b)),some k=>match H.t.get b with
   | some (.mp es _)=>
    bif flat k then
     match Zz P (Wp t es k ok) with
     | some v=>bif VA v then some (.val v H,.read b) else none
     | none=>none
    else none
   | some (.mq es _)=>
    bif flat k then
     match Zz P (ZaP t es k) with
     | some (v,got)=>bif got || flat v then some (.val (bif ok then .tuple #[v,.bool got] else v) H,.read b) else none
     | none=>none
    else none
   | _=>none
  | some (.map _ _),some (.map none),some k=>
   bif flat k then
    match Zz P (Instr.lookup t (.map none) k ok) with
    | some v=>bif VA v then some (.val v H,.pure) else none
    | none=>none
   else none
  | _,_,_=>none
 | .mapUpdate t m k x=>match ev A m,ev A k,ev A x with | some mv,some kv,some xv=>WX P lo H t mv kv xv | _,_,_=>none
 | .insert t m k x=>match ev A m,ev A k,ev A x with | some mv,some kv,some xv=>WX P lo H t mv kv xv | _,_,_=>none
 | .mapEntry t m k=>match ev A m,ev A k with | some mv,some kv=>UU P lo H t mv kv | _,_=>none
 | .entryStore _ m s x=>match ev A m,ev A s,ev A x with | some mv,some sv,some xv=>XB P lo H mv sv xv | _,_,_=>none
 | .binOp .eql t x y _=>match ev A x,ev A y with
  | some a,some b=>match yN P H t a b with | some c=>some (.val (.bool c) H,.heavy) | none=>none
  | _,_=>none
 | _=>none

def aOp (P:Program) (lo:Nat) (A:Fr) (H:Hp) (o:Oper):Option (Rs × Kd):=
 match Zo P A o with
 | some v=>some (.val v H,.pure)
 | none=>Zu P lo A H o

def ZE (ops:Array Oper) (A:Fr) (o:Oper):Option Bool:=
 match o.guard with
 | none=>some true
 | some (j,want)=>
  match ops[j]? with
  | some g=>match g.dst with
   | some d=>match A.T.get d with
    | some (.bool b)=>some (b == want)
    | some (.tuple _)=>some false
    | _=>none
   | none=>none
  | none=>none

def Fr.put (A:Fr) (dst:Option Tmp) (v:Value):Option Fr:=
 match dst with
 | none=>some A
 | some d=>bif Nat.ble (d+1) A.n then some { A with T:=A.T.set d v } else none

abbrev Par:=Option (Value × Bool)

inductive En where
 | ret (v:Value)
 | pan (v:Value)

abbrev CallF:=Nat→Target→List Value→Hp→Option (En × Hp)

def ZX (P:Program) (lo:Nat) (C:CallF) (ops:Array Oper):List Nat→Fr→Hp→Par→Option (Exit × Fr × Hp × Par)
 | [],A,H,p=>some (.normal,A,H,p)
 | i :: rest,A,H,p=>
  match ops[i]? with
  | none=>none
  | some o=>
   match ZE ops A o with
   | none=>none
   | some false=>match A.put o.dst undef with | some A'=>ZX P lo C ops rest A' H p | none=>none
   | some true=>
    match aOp P lo A H o with
    | none=>none
    | some (.val v H',_)=>match A.put o.dst v with | some A'=>ZX P lo C ops rest A' H' p | none=>none
    | some (.skip H',_)=>match A.put o.dst undef with | some A'=>ZX P lo C ops rest A' H' p | none=>none
    | some (.dfr d,_)=>
     match A.round with
     | some _=>none
     | none=>match { A with defers:=d :: A.defers }.put o.dst undef with | some A'=>ZX P lo C ops rest A' H p | none=>none
    | some (.recov,_)=>
     match A.round with
     | some _=>none
     | none=>match p with
      | some (v,false)=>match A.put o.dst v with | some A'=>ZX P lo C ops rest A' H (some (v,true)) | none=>none
      | _=>match A.put o.dst .nilIface with | some A'=>ZX P lo C ops rest A' H p | none=>none
    | some (.pan v,_)=>some (.panic [{ v,recovered:=false }],A,H,p)
    | some (.call t args,_)=>
     match C lo t args H with
     | none=>none
     | some (.ret v,H')=>match A.put o.dst v with | some A'=>ZX P lo C ops rest A' H' p | none=>none
     | some (.pan v,H')=>some (.panic [{ v,recovered:=false }],A,H',p)

def Xf (T:Tr Value):List Tmp→List Value→Option (Tr Value)
 | [],[]=>some T
 | t :: ts,v :: vs=>Xf (T.set t v) ts vs
 | _,_=>none

def ZaI {α:Type} (n:Nat) (k:Nat→α):α:=match n with | 0=>k 0 | m+1=>k (m+1)

def U7 (look:Nat→Nat):List Edge→Nat→Nat
 | [],s=>s
 | e :: r,s=>bif Region.binds .any e then U7 look r (s ||| 2 ^ e.on ||| look e.on) else U7 look r s

def X8:List Oper→Nat→List Nat→List Nat
 | [],_,acc=>acc
 | o :: rest,j,acc=>ZaI (U7 (fun i=>bif Nat.ble (i+1) j then acc.getD (j - 1 - i) 0 else 0) o.after.toList 0) fun v=>X8 rest (j+1) (v :: acc)
def U8 (ops:List Oper):List Nat:=(X8 ops 0 []).reverse

def Zbk (o:Oper):Bool:=
 match o.op with
 | .alloc _ | .box .. | .buildSlice .. | .load .. | .store .. | .makeSlice .. | .slice .. | .makeMap .. | .mapUpdate .. | .lookup .. | .insert .. | .range .. | .next .. | .entry _ | .mapEntry .. | .entryStore .. | .defer _ | .go _ | .panic _ | .send .. | .recv .. | .select .. | .ready _ | .waits _=>true
 | .call { callee:=.builtin b,.. }=>match b with | .len | .min | .max=>false | _=>true
 | .call _=>true
 | _=>false

def Wj (ops:List Oper) (anc:List Nat) (i:Nat):Bool:=
 go ops anc 0 (anc.getD i 0)
where
 go:List Oper→List Nat→Nat→Nat→Bool
  | o :: os,m :: ms,j,mi=>(!Zbk o || Nat.beq i j || (bif Nat.ble (j+1) i then mi.testBit j else m.testBit i)) && go os ms (j+1) mi
  | _,_,_,_=>true

def YJ:Kd→Kd→Bool
 | .pure,_ | _,.pure=>false
 | .full,_ | _,.full=>true
 | .store b,.read c | .read c,.store b=>Nat.beq b c
 | .store _,_ | _,.store _=>true
 | _,_=>false

def ZS {α:Type} (bad:α→α→Bool):List α→List Nat→Bool
 | k :: ks,m :: ms=>belowG bad k m ks ks.length && ZS bad ks ms
 | _,_=>true
where
 belowG (bad:α→α→Bool) (k:α) (m:Nat):List α→Nat→Bool
  | [],_=>true
  | c :: cs,n=>(!bad k c || m.testBit (n - 1)) && belowG bad k m cs (n - 1)

def W9:List Operand→List Nat
 | []=>[]
 | .tmp t :: r=>t :: W9 r
 | _ :: r=>W9 r
def Yq (ops:Array Oper) (o:Oper):List Nat:=
 match o.guard with
 | some (j,_)=>match ops[j]? with
  | some g=>match g.dst with
   | some d=>d :: W9 o.op.operands.toList
   | none=>W9 o.op.operands.toList
  | none=>W9 o.op.operands.toList
 | none=>W9 o.op.operands.toList
def Zbg:Option Nat→List Nat→Bool
 | none,_=>false
 | some d,l=>l.any (Nat.beq d)
def Zcn:Option Nat→Option Nat→Bool
 | some a,some b=>Nat.beq a b
 | _,_=>false
def hit (x y:Option Nat × List Nat):Bool:=Zbg x.1 y.2 || Zbg y.1 x.2 || Zcn x.1 y.1
def Kv (ops:Array Oper):List Oper→List (Option Nat × List Nat)→List (Option Nat × List Nat)
 | [],acc=>acc
 | o :: r,acc=>Kv ops r ((o.dst,Yq ops o) :: acc)
def QL:List Oper→Nat→Bool
 | [],_=>true
 | o :: r,j=>o.after.toList.all (fun e=>!Region.binds .any e || Nat.ble (e.on+1) j) && QL r (j+1)
def Qk (ops:Array Oper):Bool:=QL ops.toList 0 && ZS hit (Kv ops ops.toList []) (X8 ops.toList 0 [])

def Yl:Kd→Kd→Bool
 | .store b,.mk c | .mk c,.store b=>Nat.beq b c
 | k,c=>YJ k c
def Qc (o:Oper):Bool:=match o.op with | .alloc _ | .box .. | .buildSlice .. | .makeSlice ..=>true | _=>false
def KE (o:Oper) (H:Hp):Kd→Kd
 | .heavy=>bif Qc o then .mk H.next else .heavy
 | k=>k
def Km (lo:Nat) (H:Hp):Bool:=(List.range H.next).all fun b=>Nat.ble (b+1) lo || (match H.t.get b with | some (.ro _)=>false | _=>true)

def calm:Kd→Bool
 | .store _ | .full=>false
 | _=>true

def zW:Kd→Hp→Bool
 | .read b,H=>Nat.ble (b+1) H.next
 | _,_=>true

def Zbi (f:FuncId):Bool:=false
def zj:Target→Option Nat
 | .fn (.func f) cap=>bif Zbi f then (match cap.toList with | .pointer (some a) :: _=>some a.block | _=>none) else none
 | _=>none
def Wx (t:Target):Bool:=(zj t).isSome
def QE (H H':Hp) (b:Nat):Prop:=∀ c,c < H.next→c≠b→H'.t.get c=H.t.get c
open Classical in
def Wc (lo:Nat) (t:Target) (H H':Hp):Option Nat:=match zj t with
 | some b=>if lo≤b∧QE H H' b then some b else none
 | none=>none

def Z7 (P:Program) (lo:Nat) (C:CallF) (ops:Array Oper):List Oper→Nat→List Kd→Fr→Hp→Option (List Kd × Fr × Hp)
 | [],_,ks,A,H=>some (ks,A,H)
 | o :: rest,i,ks,A,H=>
  match ZE ops A o with
  | none=>none
  | some false=>match A.put o.dst undef with | some A'=>Z7 P lo C ops rest (i+1) (.pure :: ks) A' H | none=>none
  | some true=>
   match aOp P lo A H o with
   | some (.val v H',k)=>bif zW k H then (match A.put o.dst v with | some A'=>Z7 P lo C ops rest (i+1) (KE o H k :: ks) A' H' | none=>none) else none
   | some (.skip H',k)=>match A.put o.dst undef with | some A'=>Z7 P lo C ops rest (i+1) (k :: ks) A' H' | none=>none
   | some (.call t args,_)=>
    bif Wj ops.toList (U8 ops.toList) i then
     match C lo t args H with
     | some (.ret v,H')=>match A.put o.dst v with | some A'=>Z7 P lo C ops rest (i+1) (.full :: ks) A' H' | none=>none
     | _=>none
    else bif Wx t then
     match C lo t args H with
     | some (.ret v,H')=>match Wc lo t H H' with
      | some b=>match A.put o.dst v with | some A'=>Z7 P lo C ops rest (i+1) (.store b :: ks) A' H' | none=>none
      | none=>none
     | _=>none
    else
     match C H.next t args H with
     | some (.ret v,H')=>match A.put o.dst v with | some A'=>Z7 P lo C ops rest (i+1) (.heavy :: ks) A' H' | none=>none
     | _=>none
   | _=>none

def drawn (P:Program) (lo:Nat) (C:CallF) (ops:Array Oper) (A:Fr) (H:Hp):Option (Fr × Hp):=
 match Z7 P lo C ops ops.toList 0 [] A H with
 | some (ks,A',H')=>bif (ks.all calm || ZS YJ ks (X8 ops.toList 0 []) || (ZS Yl ks (X8 ops.toList 0 []) && Km lo H)) && Qk ops then some (A',H') else none
 | none=>none

def Xd (P:Program) (lo:Nat) (C:CallF) (ops:Array Oper):List Oper→Nat→List Kd→Fr→Hp→Option (List Kd × Value × Hp)
 | [],_,_,_,_=>none
 | o :: rest,i,ks,A,H=>
  match ZE ops A o with
  | none=>none
  | some false=>match A.put o.dst undef with | some A'=>Xd P lo C ops rest (i+1) (.pure :: ks) A' H | none=>none
  | some true=>
   match aOp P lo A H o with
   | some (.val v H',k)=>bif zW k H then (match A.put o.dst v with | some A'=>Xd P lo C ops rest (i+1) (KE o H k :: ks) A' H' | none=>none) else none
   | some (.skip H',k)=>match A.put o.dst undef with | some A'=>Xd P lo C ops rest (i+1) (k :: ks) A' H' | none=>none
   | some (.pan v,_)=>some (.full :: ks,v,H)
   | some (.call t args,_)=>
    bif Wj ops.toList (U8 ops.toList) i then
     match C lo t args H with
     | some (.ret v,H')=>match A.put o.dst v with | some A'=>Xd P lo C ops rest (i+1) (.full :: ks) A' H' | none=>none
     | some (.pan v,H')=>some (.full :: ks,v,H')
     | none=>none
    else bif Wx t then
     match C lo t args H with
     | some (.ret v,H')=>match Wc lo t H H' with
      | some b=>match A.put o.dst v with | some A'=>Xd P lo C ops rest (i+1) (.store b :: ks) A' H' | none=>none
      | none=>none
     | _=>none
    else
     match C H.next t args H with
     | some (.ret v,H')=>match A.put o.dst v with | some A'=>Xd P lo C ops rest (i+1) (.heavy :: ks) A' H' | none=>none
     | some (.pan v,H')=>some (.heavy :: ks,v,H')
     | none=>none
   | _=>none

def z8 (ms:List Nat) (n:Nat):Bool:=(ms.drop n).all fun m=>m.testBit (n - 1)
def JG (P:Program) (lo:Nat) (C:CallF) (ops:Array Oper) (A:Fr) (H:Hp):Option (Value × Hp):=
 match Xd P lo C ops ops.toList 0 [] A H with
 | some (ks,v,H')=>bif (ZS YJ ks ((X8 ops.toList 0 []).drop (ops.size - ks.length)) && z8 (U8 ops.toList) ks.length) && Qk ops then some (v,H') else none
 | none=>none
def ZaG (T:Tr Value):List Nat→Tr Value
 | []=>T
 | d :: l=>(ZaG T l).del d
def zd (ops:Array Oper):List Nat:=ops.toList.filterMap (·.dst)
def Fr.drop (A:Fr) (l:List Nat):Fr:={ A with T:=ZaG A.T l }

def Zj (P:Program) (lo:Nat) (C:CallF):Nat→Code→Fr→Hp→Par→Option (Exit × Fr × Hp × Par)
 | 0,_,_,_,_=>none
 | f+1,c,A,H,p=>
  match c with
  | .skip | .label _=>some (.normal,A,H,p)
  | .exit id=>some (.exit id,A,H,p)
  | .ret=>some (.ret,A,H,p)
  | .seq x y=>
   match Zj P lo C f x A H p with
   | some (.normal,A',H',p')=>Zj P lo C f y A' H' p'
   | r=>r
  | .cond o x y=>
   match ev A o with
   | some (.bool true)=>Zj P lo C f x A H p
   | some (.bool false)=>Zj P lo C f y A H p
   | _=>none
  | .block id b=>
   match Zj P lo C f b A H p with
   | some (.exit j,A',H',p')=>bif Nat.beq j id then some (.normal,A',H',p') else some (.exit j,A',H',p')
   | r=>r
  | .scope b=>Zj P lo C f b A H p
  | .loop b=>
   match Zj P lo C f b A H p with
   | some (.normal,A',H',p')=>Zj P lo C f (.loop b) A' H' p'
   | r=>r
  | .region _ ops draw=>
   bif draw then
    match drawn P lo C ops A H with
    | some (A',H')=>some (.normal,A',H',p)
    | none=>match JG P lo C ops A H with
     | some (v,H')=>some (.panic [{ v,recovered:=false }],A.drop (zd ops),H',p)
     | none=>none
   else ZX P lo C ops (List.range ops.size) A H p
  | .rangeFunc fo params asg body=>
   match A.round,ev A fo with
   | none,some (.func fn first cap)=>
    let r:=H.next
    let l:=H.next+1
    let H1:=(H.new (.dfr (some []))).new (.lp .ready none A.fn A.n A.T params.toList asg body r)
    let A1:={ A with defers:={ target:=.collected r,args:=#[] } :: A.defers }
    match C lo (.fn fn cap) (first.toList ++ [.func (.yield l) #[] #[]]) H1 with
    | none=>none
    | some (.pan v,H')=>some (.panic [{ v,recovered:=false }],A1,H',p)
    | some (.ret _,H')=>
     match H'.t.get l with
     | some (.lp st pe a b c d e g h)=>
      match st with
      | .busy=>none
      | _=>
       let H2:={ H' with t:=H'.t.set l (.lp .exhausted pe a b c d e g h) }
       match pe with
       | none=>some (.normal,A1,H2,p)
       | some (.exit id)=>some (.exit id,A1,H2,p)
       | some .ret=>some (.ret,A1,H2,p)
       | _=>none
     | _=>none
   | _,_=>none
  | _=>none

def Y0 (P:Program) (A:Fr) (H:Hp):List ResultVar→Option (List Value)
 | []=>some []
 | .tmp t :: r=>match A.T.get t with
  | none=>none
  | some v=>match Y0 P A H r with | none=>none | some vs=>some (v :: vs)
 | .cell a t :: r=>match A.T.get a with
  | some (.pointer (some ad))=>match WS P H t ad with
   | none=>none
   | some v=>match Y0 P A H r with | none=>none | some vs=>some (v :: vs)
  | _=>none

def Z9 (P:Program) (lo:Nat) (D:Target→List Value→Hp→Par→Option (En × Hp × Par)) (fn:Func):Nat→Fr→Hp→Par→Option (En × Hp)
 | 0,_,_,_=>none
 | f+1,A,H,m=>
  match A.defers with
  | []=>
   match m with
   | some (v,false)=>some (.pan v,H)
   | some (_,true)=>none
   | none=>match Y0 P A H fn.results.toList with
    | some [v]=>some (.ret v,H)
    | some vs=>some (.ret (.tuple vs.toArray),H)
    | none=>none
  | d :: ds=>
   match d.target with
   | .collected r=>
    match H.t.get r with
    | some (.dfr (some calls))=>bif Nat.ble lo r then Z9 P lo D fn f { A with defers:=calls ++ ds } { H with t:=H.t.set r (.dfr none) } m else none
    | _=>none
   | .fn (.func g) cap=>
    match D (.fn (.func g) cap) d.args.toList H m with
    | some (.ret _,H',m')=>
     Z9 P lo D fn f { A with defers:=ds } H' (match m' with | some (_,true)=>none | m'=>m')
    | _=>none
   | _=>none

def Un (vs:List Value):Nat→Tr Value→Tr Value:=fun i t=>
 match vs with
 | []=>t
 | v :: r=>Un r (i+1) (t.set i v)

def Xg (P:Program) (lo:Nat) (C:CallF) (D:Target→List Value→Hp→Par→Option (En × Hp × Par)) (m:Nat) (f:FuncId) (args:List Value) (H:Hp) (p:Par):Option (En × Hp × Par):=
 match P.funcs[f]? with
 | none=>none
 | some fn=>
  match fn.body with
  | none=>none
  | some b=>
   bif Nat.ble args.length fn.ntmps then
    match Zj P lo C m b { fn:=f,n:=fn.ntmps,T:=Un args 0 .nil,defers:=[],round:=none } H p with
    | some (.normal,A,H',p') | some (.ret,A,H',p')=>match Z9 P lo D fn m A H' none with | some (e,H'')=>some (e,H'',p') | none=>none
    | some (.panic [{ v,recovered:=false,goexit:=false }],A,H',p')=>match Z9 P lo D fn m A H' (some (v,false)) with | some (e,H'')=>some (e,H'',p') | none=>none
    | _=>none
   else none

def UD (P:Program) (t:TypeId) (v:Value) (name:String):Option (FuncId × Value):=
 match P.info? t with
 | none=>none
 | some i=>
  match i.methods.toList.find? (fun m=>m.name == name) with
  | none=>none
  | some m=>
   match m.path.toList,m.func,P.underlying t with
   | [],some (f,true),some (.pointer _)=>some (f,v)
   | [],some (_,false),some (.pointer _)=>none
   | [],some (f,false),some _=>some (f,v)
   | _,_,_=>none

structure Kn where
 b:FuncId→Option Bool
 s:FuncId→Nat→List Value→Hp→Option (Value × Hp)
instance:CoeFun Kn (fun _=>FuncId→Option Bool):=⟨Kn.b⟩
def XK (_f:FuncId):Bool:=Nat.beq _f 99999
def UE (kn:Kn):Target→List Value→Option Bool
 | .fn (.func f) cap,[]=>bif Nat.beq cap.size 0 then kn.b f else none
 | _,_=>none
def ZcR (lo:Nat) (H H':Hp):Prop:=H.next≤H'.next∧∀ b,b < lo→H'.t.get b=H.t.get b
open Classical in
def UA (kn:Kn) (lo:Nat) (t:Target) (args:List Value) (H:Hp):Option (Value × Hp):=
 match t with
 | .fn (.func f) cap=>bif XK f then (match kn.s f lo (args ++ cap.toList) H with | some (v,H')=>if ZcR lo H H' then some (v,H') else none | none=>none) else none
 | _=>none

def Yi (P:Program) (kn:Kn) (m:Nat):Nat→Nat→Target→List Value→Hp→Par→Option (En × Hp × Par)
 | 0,_,_,_,_,_=>none
 | n+1,lo,t,args,H,p=>
  let C:CallF:=fun lo t args H=>match UE kn t args with
   | some b=>some (.ret (.bool b),H)
   | none=>match UA kn lo t args H with
    | some (v,H')=>some (.ret v,H')
    | none=>match Yi P kn m n lo t args H none with | some (e,H',_)=>some (e,H') | none=>none
  let D:=fun t args H p=>Yi P kn m n lo t args H p
  match t with
  | .fn (.func f) cap=>Xg P lo C D m f (args ++ cap.toList) H p
  | .fn (.method name) _=>
   match args with
   | .iface ty v :: rest=>match UD P ty v name with
    | some (f,r)=>Xg P lo C D m f (r :: rest) H p
    | none=>none
   | _=>none
  | .fn (.methodOf ty name) _=>
   match args,P.underlying ty with
   | _,some (.interface _)=>none
   | v :: rest,some _=>match UD P ty v name with
    | some (f,r)=>Xg P lo C D m f (r :: rest) H p
    | none=>none
   | _,_=>none
  | .fn (.yield l) _=>
   match p,H.t.get l with
   | none,some (.lp .ready pe fn n T params asg body df)=>
    match Xf T params args with
    | none=>none
    | some T'=>
     bif Nat.ble lo l then
     bif (P.funcs[fn]?).isSome && params.all (fun t=>Nat.blt t n) then
     match Zj P lo C m asg { fn,n,T:=T',defers:=[],round:=some l } H none with
     | some (.normal,A,H1,none)=>
      match H1.t.get l with
      | some (.lp .ready pe' fn' n' T2 ps' as_' bo' df')=>
       let H2:={ H1 with t:=H1.t.set l (.lp .busy pe' fn' n' T2 ps' as_' bo' df') }
       match Zj P lo C m body A H2 none with
       | none=>none
       | some (e,A',H3,_)=>
        match A'.defers,H3.t.get l with
        | [],some (.lp _ _ a b c d e' g h)=>
         match e with
         | .normal=>some (.ret (.bool true),{ H3 with t:=H3.t.set l (.lp .ready none a b c d e' g h) },none)
         | .ret=>some (.ret (.bool false),{ H3 with t:=H3.t.set l (.lp .done (some .ret) a b c d e' g h) },none)
         | .exit id=>some (.ret (.bool false),{ H3 with t:=H3.t.set l (.lp .done (some (.exit id)) a b c d e' g h) },none)
         | .panic [{ v,recovered:=false,goexit:=false }]=>some (.pan v,H3,none)
         | _=>none
        | _,_=>none
      | _=>none
     | _=>none
     else none
     else none
   | _,_=>none
  | _=>none

end
end Go.Ax

namespace Go.Ax
open Go Go.RowKit

/-! ### The tree -/
theorem ZA (a b:Nat):Nat.beq a b=decide (a=b):=by
 cases h:Nat.beq a b
 ·symm;simp;intro e;subst e;simp [Nat.beq_refl] at h
 ·symm;simp;exact Nat.eq_of_beq_eq_true h

theorem XD {α:Type} (b:Bool) (x y:α):(Bool.rec (motive:=fun _=>α) x y b)=if b=true then y else x:=by cases b<;>rfl
theorem Tr.get_nil {α:Type} (k:Nat):(Tr.nil:Tr α).get k=none:=rfl
theorem Tr.get_node {α:Type} (v:Option α) (l r:Tr α) (k:Nat):(Tr.node v l r).get k=if k=0 then v else if k % 2=1 then l.get (k / 2) else r.get (k / 2):=by
 show Bool.rec (motive:=fun _=>Option α) (Bool.rec (motive:=fun _=>Option α) (r.get (k / 2)) (l.get (k / 2)) (Nat.beq (k % 2) 1)) v (Nat.beq k 0)=_
 rw [XD,XD,ZA,ZA]
 simp only [decide_eq_true_eq]
theorem Tr.one_succ {α:Type} (x:α) (f k:Nat):Tr.one x (f+1) k=if k=0 then .node (some x) .nil .nil else if k % 2=1 then .node none (Tr.one x f (k / 2)) .nil else .node none .nil (Tr.one x f (k / 2)):=by
 show Bool.rec (motive:=fun _=>Tr α) (Bool.rec (motive:=fun _=>Tr α) (.node none .nil (Tr.one x f (k / 2))) (.node none (Tr.one x f (k / 2)) .nil) (Nat.beq (k % 2) 1)) (.node (some x) .nil .nil) (Nat.beq k 0)=_
 rw [XD,XD,ZA,ZA]
 simp only [decide_eq_true_eq]
theorem Tr.set_nil {α:Type} (k:Nat) (x:α):(Tr.nil:Tr α).set k x=Tr.one x (k+1) k:=rfl
theorem Tr.set_node {α:Type} (v:Option α) (l r:Tr α) (k:Nat) (x:α):(Tr.node v l r).set k x=if k=0 then .node (some x) l r else if k % 2=1 then .node v (l.set (k / 2) x) r else .node v l (r.set (k / 2) x):=by
 show Bool.rec (motive:=fun _=>Tr α) (Bool.rec (motive:=fun _=>Tr α) (.node v l (r.set (k / 2) x)) (.node v (l.set (k / 2) x) r) (Nat.beq (k % 2) 1)) (.node (some x) l r) (Nat.beq k 0)=_
 rw [XD,XD,ZA,ZA]
 simp only [decide_eq_true_eq]
theorem Tr.get_one {α:Type} (x:α):∀ (f k j:Nat),k < f→(Tr.one x f k).get j=if j=k then some x else none
 | 0,k,j,h=>by omega
 | f+1,k,j,h=>by
  rw [Tr.one_succ]
  by_cases hk:k=0
  ·subst hk
   rw [if_pos rfl,Tr.get_node]
   by_cases hj:j=0
   ·simp [hj]
   ·rw [if_neg hj,if_neg hj];split<;>rfl
  ·rw [if_neg hk]
   by_cases h1:k % 2=1
   ·rw [if_pos h1,Tr.get_node,Tr.get_one x f (k / 2) (j / 2) (by omega)]
    by_cases hj:j=0
    ·rw [if_pos hj,if_neg (by omega)]
    ·rw [if_neg hj]
     by_cases hj1:j % 2=1
     ·rw [if_pos hj1]
      by_cases he:j=k
      ·rw [if_pos (by omega),if_pos he]
      ·rw [if_neg (by omega),if_neg he]
     ·rw [if_neg hj1,if_neg (by omega)];rfl
   ·rw [if_neg h1,Tr.get_node,Tr.get_one x f (k / 2) (j / 2) (by omega)]
    by_cases hj:j=0
    ·rw [if_pos hj,if_neg (by omega)]
    ·rw [if_neg hj]
     by_cases hj1:j % 2=1
     ·rw [if_pos hj1,if_neg (by omega)];rfl
     ·rw [if_neg hj1]
      by_cases he:j=k
      ·rw [if_pos (by omega),if_pos he]
      ·rw [if_neg (by omega),if_neg he]
theorem Tr.get_set {α:Type} (t:Tr α) (k:Nat) (x:α) (j:Nat):(t.set k x).get j=if j=k then some x else t.get j:=by
 induction t generalizing k j with
 | nil=>rw [Tr.set_nil,Tr.get_one x (k+1) k j (by omega),Tr.get_nil]
 | node v l r ihl ihr=>
  rw [Tr.set_node,Tr.get_node v l r j]
  by_cases hk:k=0
  ·subst hk
   rw [if_pos rfl,Tr.get_node]
   by_cases hj:j=0
   ·simp [hj]
   ·simp [hj]
  ·rw [if_neg hk]
   by_cases h1:k % 2=1
   ·rw [if_pos h1,Tr.get_node,ihl]
    by_cases hj:j=0
    ·rw [if_pos hj,if_pos hj,if_neg (by omega)]
    ·rw [if_neg hj,if_neg hj]
     by_cases hj1:j % 2=1
     ·rw [if_pos hj1,if_pos hj1]
      by_cases he:j=k
      ·rw [if_pos (by omega),if_pos he]
      ·rw [if_neg (by omega),if_neg he]
     ·rw [if_neg hj1,if_neg hj1,if_neg (by omega)]
   ·rw [if_neg h1,Tr.get_node,ihr]
    by_cases hj:j=0
    ·rw [if_pos hj,if_pos hj,if_neg (by omega)]
    ·rw [if_neg hj,if_neg hj]
     by_cases hj1:j % 2=1
     ·rw [if_pos hj1,if_pos hj1,if_neg (by omega)]
     ·rw [if_neg hj1,if_neg hj1]
      by_cases he:j=k
      ·rw [if_pos (by omega),if_pos he]
      ·rw [if_neg (by omega),if_neg he]

theorem Tr.del_nil {α:Type} (k:Nat):(Tr.nil:Tr α).del k=.nil:=rfl
theorem Tr.del_node {α:Type} (v:Option α) (l r:Tr α) (k:Nat):(Tr.node v l r).del k=if k=0 then .node none l r else if k % 2=1 then .node v (l.del (k / 2)) r else .node v l (r.del (k / 2)):=by
 show Bool.rec (motive:=fun _=>Tr α) (Bool.rec (motive:=fun _=>Tr α) (.node v l (r.del (k / 2))) (.node v (l.del (k / 2)) r) (Nat.beq (k % 2) 1)) (.node none l r) (Nat.beq k 0)=_
 rw [XD,XD,ZA,ZA]
 simp only [decide_eq_true_eq]
theorem Tr.get_del {α:Type}:∀ (t:Tr α) (k j:Nat),(t.del k).get j=if j=k then none else t.get j
 | .nil,k,j=>by rw [Tr.del_nil,Tr.get_nil];split<;>rfl
 | .node v l r,k,j=>by
  rw [Tr.del_node]
  by_cases hk:k=0
  ·subst hk
   rw [if_pos rfl,Tr.get_node,Tr.get_node]
   by_cases hj:j=0
   ·simp [hj]
   ·rw [if_neg hj,if_neg hj,if_neg hj]
  ·rw [if_neg hk]
   by_cases h1:k % 2=1
   ·rw [if_pos h1,Tr.get_node,Tr.get_node,Tr.get_del l (k / 2) (j / 2)]
    by_cases hj:j=0
    ·rw [if_pos hj,if_pos hj,if_neg (by omega)]
    ·rw [if_neg hj,if_neg hj]
     by_cases hj1:j % 2=1
     ·rw [if_pos hj1,if_pos hj1]
      by_cases he:j=k
      ·rw [if_pos (by omega),if_pos he]
      ·rw [if_neg (by omega),if_neg he]
     ·rw [if_neg hj1,if_neg hj1,if_neg (by omega)]
   ·rw [if_neg h1,Tr.get_node,Tr.get_node,Tr.get_del r (k / 2) (j / 2)]
    by_cases hj:j=0
    ·rw [if_pos hj,if_pos hj,if_neg (by omega)]
    ·rw [if_neg hj,if_neg hj]
     by_cases hj1:j % 2=1
     ·rw [if_pos hj1,if_pos hj1,if_neg (by omega)]
     ·rw [if_neg hj1,if_neg hj1]
      by_cases he:j=k
      ·rw [if_pos (by omega),if_pos he]
      ·rw [if_neg (by omega),if_neg he]
theorem zJ (T:Tr Value) (t:Nat):∀ l:List Nat,(ZaG T l).get t=if t∈l then none else T.get t
 | []=>by simp [ZaG]
 | d :: l=>by
  rw [ZaG,Tr.get_del,zJ T t l]
  by_cases h:t=d
  ·simp [h]
  ·by_cases h2:t∈l<;>simp [h,h2]

/-! ### Where the blocks lie,and which values are one -/
structure Loc where
 blk:Nat
 delta:Nat
 loose:Option (Nat × Nat)
abbrev Ren:=Nat→Option Loc
def Ren.Le (r r':Ren):Prop:=∀ b loc,r b=some loc→r' b=some loc
theorem Ren.Le.refl (r:Ren):Ren.Le r r:=fun _ _ h=>h
theorem Ren.Le.trans {a b c:Ren} (h:Ren.Le a b) (k:Ren.Le b c):Ren.Le a c:=fun x l e=>k x l (h x l e)

inductive FnR (r:Ren):Fn→Fn→Prop
 | func (f:FuncId):FnR r (.func f) (.func f)
 | method (m:String):FnR r (.method m) (.method m)
 | methodOf (t:TypeId) (m:String):FnR r (.methodOf t m) (.methodOf t m)
 | yield {l:Nat} {loc:Loc}:r l=some loc→FnR r (.yield l) (.yield loc.blk)

inductive VR (r:Ren):Value→Value→Prop
 | bool (b:Bool):VR r (.bool b) (.bool b)
 | int (k:IntKind) (n:Int):VR r (.int k n) (.int k n)
 | str (s:ByteArray):VR r (.string s) (.string s)
 | nilIface:VR r .nilIface .nilIface
 | nilFunc:VR r .nilFunc .nilFunc
 | nilPtr:VR r (.pointer none) (.pointer none)
 | nilMap:VR r (.map none) (.map none)
 | nilSlice:VR r (.slice none 0 0) (.slice none 0 0)
 | ptr {b o:Nat} {loc:Loc}:r b=some loc→VR r (.pointer (some ⟨b,o,none⟩)) (.pointer (some ⟨loc.blk,o+loc.delta,none⟩))
 | slice {b o n c:Nat} {loc:Loc}:r b=some loc→loc.loose=none→n≤c→VR r (.slice (some ⟨b,o,none⟩) n c) (.slice (some ⟨loc.blk,o+loc.delta,none⟩) n c)
 | loose {b o n c c' total sz:Nat} {loc:Loc}:r b=some loc→loc.loose=some (total,sz)→n≤c'→o+loc.delta+c' * sz=total→
   VR r (.slice (some ⟨b,o,none⟩) n c) (.slice (some ⟨loc.blk,o+loc.delta,none⟩) n c')
 | mapv {b:Nat} {loc:Loc}:r b=some loc→VR r (.map (some b)) (.map (some loc.blk))
 | weird {b o:Nat} {a':Addr} {c':Nat}:(c'=0∨∃ (loc:Loc) (total sz:Nat),r b=some loc∧loc.loose=some (total,sz)∧a'=⟨loc.blk,o+loc.delta,none⟩∧o+loc.delta+c' * sz=total)→
   VR r (.slice (some ⟨b,o,some 0⟩) 0 0) (.slice (some a') 0 c')
 | iface (t:TypeId) {v v':Value}:VR r v v'→VR r (.iface t v) (.iface t v')
 | func {fn fn':Fn} {A A' B B':Array Value}:FnR r fn fn'→A.size=A'.size→(∀ (i:Nat) v v',A[i]? = some v→A'[i]? = some v'→VR r v v')→
   B.size=B'.size→(∀ (i:Nat) v v',B[i]? = some v→B'[i]? = some v'→VR r v v')→VR r (.func fn A B) (.func fn' A' B')
 | agg {A A':Array Value}:A.size=A'.size→(∀ (i:Nat) v v',A[i]? = some v→A'[i]? = some v'→VR r v v')→VR r (.agg A) (.agg A')
 | tuple {A A':Array Value}:A.size=A'.size→(∀ (i:Nat) v v',A[i]? = some v→A'[i]? = some v'→VR r v v')→VR r (.tuple A) (.tuple A')

theorem FnR.mono {r r':Ren} (h:Ren.Le r r') {f f':Fn} (k:FnR r f f'):FnR r' f f':=by
 cases k with
 | func f=>exact .func f
 | method m=>exact .method m
 | methodOf t m=>exact .methodOf t m
 | yield e=>exact .yield (h _ _ e)

theorem VR.mono {r r':Ren} (h:Ren.Le r r') {v v':Value} (k:VR r v v'):VR r' v v':=by
 induction k with
 | bool b=>exact .bool b
 | int k n=>exact .int k n
 | str s=>exact .str s
 | nilIface=>exact .nilIface
 | nilFunc=>exact .nilFunc
 | nilPtr=>exact .nilPtr
 | nilMap=>exact .nilMap
 | nilSlice=>exact .nilSlice
 | ptr e=>exact .ptr (h _ _ e)
 | slice e l q=>exact .slice (h _ _ e) l q
 | loose e l a b=>exact .loose (h _ _ e) l a b
 | mapv e=>exact .mapv (h _ _ e)
 | weird q=>exact .weird (q.imp id fun ⟨loc,total,sz,e,q⟩=>⟨loc,total,sz,h _ _ e,q⟩)
 | iface t _ ih=>exact .iface t ih
 | func f s1 _ s2 _ ih1 ih2=>exact .func (f.mono h) s1 ih1 s2 ih2
 | agg s _ ih=>exact .agg s ih
 | tuple s _ ih=>exact .tuple s ih

def LR (r:Ren) (l l':List Value):Prop:=l.length=l'.length∧∀ (i:Nat) v v',l[i]? = some v→l'[i]? = some v'→VR r v v'
theorem LR.mono {r r':Ren} (h:Ren.Le r r') {l l':List Value} (k:LR r l l'):LR r' l l':=⟨k.1,fun i v v' a b=>(k.2 i v v' a b).mono h⟩
theorem LR.nil {r:Ren}:LR r [] []:=⟨rfl,fun i v v' a _=>by simp at a⟩
theorem LR.cons {r:Ren} {v v':Value} {l l':List Value} (h:VR r v v') (k:LR r l l'):LR r (v :: l) (v' :: l'):=
 ⟨by simp [k.1],fun i a b ha hb=>by
  cases i with
  | zero=>simp at ha hb;subst ha hb;exact h
  | succ i=>exact k.2 i a b (by simpa using ha) (by simpa using hb)⟩
theorem LR.of_cons {r:Ren} {v:Value} {l L:List Value} (h:LR r (v :: l) L):∃ v' l',L=v' :: l'∧VR r v v'∧LR r l l':=by
 cases L with
 | nil=>simpa using h.1
 | cons v' l'=>exact ⟨v',l',rfl,h.2 0 v v' rfl rfl,by simpa using h.1,fun i a b ha hb=>h.2 (i+1) a b (by simpa using ha) (by simpa using hb)⟩
theorem LR.of_nil {r:Ren} {L:List Value} (h:LR r [] L):L=[]:=by
 cases L with
 | nil=>rfl
 | cons _ _=>simpa using h.1
theorem LR.append {r:Ren} {a a' b b':List Value} (h:LR r a a') (k:LR r b b'):LR r (a ++ b) (a' ++ b'):=by
 induction a generalizing a' with
 | nil=>rw [h.of_nil];simpa using k
 | cons v l ih=>obtain ⟨v',l',rfl,hv,hl⟩:=h.of_cons;simpa using LR.cons hv (ih hl)
theorem LR.get {r:Ren} {l l':List Value} (h:LR r l l') {i:Nat} {v:Value} (e:l[i]? = some v):∃ v',l'[i]? = some v'∧VR r v v':=by
 have hi:i < l.length:=by
  rcases Nat.lt_or_ge i l.length with q | q
  ·exact q
  ·rw [List.getElem?_eq_none q] at e;cases e
 have hi':i < l'.length:=by rw [← h.1];exact hi
 exact ⟨l'[i],List.getElem?_eq_getElem hi',h.2 i v _ e (List.getElem?_eq_getElem hi')⟩
theorem LR.set {r:Ren} {l l':List Value} (h:LR r l l') (i:Nat) {v v':Value} (k:VR r v v'):LR r (l.set i v) (l'.set i v'):=by
 refine ⟨by simp [h.1],fun j a b ha hb=>?_⟩
 rw [List.getElem?_set] at ha hb
 by_cases hij:i=j
 ·simp only [hij,if_true] at ha hb
  split at ha
  ·split at hb
   ·simp at ha hb;subst ha hb;exact k
   ·cases hb
  ·cases ha
 ·simp only [hij,if_false] at ha hb
  exact h.2 j a b ha hb
theorem LR.drop {r:Ren} {l l':List Value} (h:LR r l l') (n:Nat):LR r (l.drop n) (l'.drop n):=
 ⟨by simp [h.1],fun j a b ha hb=>by rw [List.getElem?_drop] at ha hb;exact h.2 _ a b ha hb⟩
theorem LR.take {r:Ren} {l l':List Value} (h:LR r l l') (n:Nat):LR r (l.take n) (l'.take n):=
 ⟨by simp [h.1],fun j a b ha hb=>by
  rw [List.getElem?_take] at ha hb
  split at ha
  ·rename_i hj;rw [if_pos hj] at hb;exact h.2 _ a b ha hb
  ·cases ha⟩

theorem YG {r:Ren} {A A':Array Value}:LR r A.toList A'.toList↔(A.size=A'.size∧∀ (i:Nat) v v',A[i]? = some v→A'[i]? = some v'→VR r v v'):=by
 unfold LR
 simp
theorem VR.aggL {r:Ren} {l l':List Value} (h:LR r l l'):VR r (.agg l.toArray) (.agg l'.toArray):=.agg (by simpa using h.1) (by simpa using h.2)
theorem VR.tupleL {r:Ren} {l l':List Value} (h:LR r l l'):VR r (.tuple l.toArray) (.tuple l'.toArray):=.tuple (by simpa using h.1) (by simpa using h.2)
theorem VR.funcL {r:Ren} {fn fn':Fn} {a a' b b':List Value} (f:FnR r fn fn') (h:LR r a a') (k:LR r b b'):VR r (.func fn a.toArray b.toArray) (.func fn' a'.toArray b'.toArray):=
 .func f (by simpa using h.1) (by simpa using h.2) (by simpa using k.1) (by simpa using k.2)

/-! ### Values without addresses -/
theorem UG {r:Ren} {v:Value} (h:Yx v=true):VR r v v:=by
 cases v with
 | bool b=>exact .bool b
 | int k n=>exact .int k n
 | string s=>exact .str s
 | nilIface=>exact .nilIface
 | nilFunc=>exact .nilFunc
 | pointer a=>cases a with
  | none=>exact .nilPtr
  | some a=>simp [Yx] at h
 | map a=>cases a with
  | none=>exact .nilMap
  | some a=>simp [Yx] at h
 | slice a n c=>cases a with
  | none=>
   simp [Yx,ZA] at h
   obtain ⟨rfl,rfl⟩:=h
   exact .nilSlice
  | some a=>simp [Yx] at h
 | _=>simp [Yx] at h
theorem Q9 {r:Ren} {A:Array Value} (h:A.toList.all Yx=true):∀ (i:Nat) v v',A[i]? = some v→A[i]? = some v'→VR r v v':=by
 intro i v v' h1 h2
 rw [h1] at h2;cases h2
 refine UG ?_
 have:=List.all_eq_true.1 h v ?_
 ·exact this
 ·rw [Array.mem_toList_iff];exact Array.mem_of_getElem? h1
theorem Yf {r:Ren} {v:Value} (h:flat v=true):VR r v v:=by
 cases v with
 | agg A=>exact .agg rfl (Q9 h)
 | tuple A=>exact .tuple rfl (Q9 h)
 | iface t v=>
  refine .iface t ?_
  cases v with
  | agg A=>exact .agg rfl (Q9 h)
  | _=>exact UG (by simpa [flat] using h)
 | _=>exact UG (by simpa [flat] using h)
theorem yA {r:Ren} {v v':Value} (h:Yx v=true) (k:VR r v v'):v'=v:=by
 cases k<;>first | rfl | (simp [Yx] at h)
theorem Uj {r:Ren} {A A':Array Value} (h:A.toList.all Yx=true) (s:A.size=A'.size) (k:∀ (i:Nat) v v',A[i]? = some v→A'[i]? = some v'→VR r v v'):A'=A:=by
 apply Array.ext s.symm
 intro i h1 h2
 have:=k i A[i] A'[i] (Array.getElem?_eq_getElem h2) (Array.getElem?_eq_getElem h1)
 refine yA ?_ this
 exact List.all_eq_true.1 h _ (by rw [Array.mem_toList_iff];exact Array.getElem_mem h2)
theorem ZF {r:Ren} {v v':Value} (h:flat v=true) (k:VR r v v'):v'=v:=by
 cases k with
 | agg s k=>rw [Uj h s k]
 | tuple s k=>rw [Uj h s k]
 | iface t k=>
  cases k with
  | agg s k=>rw [Uj h s k]
  | _=>first | rfl | (simp [flat,Yx] at h)
 | _=>first | rfl | (simp [flat,Yx] at h)

theorem ZT {α:Type} {P:Program} (s:Sem α) {a:α} (h:Zz P s=some a) (w:World):s.run P w=.ok a w:=by
 induction s with
 | pure b=>simp [Zz] at h;subst h;rfl
 | program k ih=>simp only [Zz] at h;simp only [Sem.run];exact ih P h
 | _=>simp [Zz] at h
end Go.Ax

namespace Go.Ax
open Go Go.RowKit

def evT (tmps:Array Value):Operand→Value
 | .tmp t=>tmps.getD t undef
 | .const v=>v
 | .global g=>.pointer (some ⟨g,0,none⟩)
 | .func f=>.func (.func f) #[] #[]
theorem yB (fr:Frame):fr.eval=evT fr.tmps:=by funext x;cases x<;>rfl

def Xk (r:Ren) (n:Nat) (T:Tr Value) (tmps:Array Value):Prop:=tmps.size=n∧∀ t v,T.get t=some v→∃ v',tmps[t]? = some v'∧VR r v v'
theorem Xk.mono {r r':Ren} (h:Ren.Le r r') {n:Nat} {T:Tr Value} {tmps:Array Value} (k:Xk r n T tmps):Xk r' n T tmps:=
 ⟨k.1,fun t v e=>let ⟨v',e',q⟩:=k.2 t v e;⟨v',e',q.mono h⟩⟩
theorem Xk.set {r:Ren} {n:Nat} {T:Tr Value} {tmps:Array Value} (k:Xk r n T tmps) (d:Nat) (hd:d < n) {v v':Value} (q:VR r v v'):Xk r n (T.set d v) (tmps.setIfInBounds d v'):=by
 refine ⟨by simp [k.1],fun t u e=>?_⟩
 rw [Tr.get_set] at e
 rw [Array.getElem?_setIfInBounds]
 by_cases ht:t=d
 ·subst ht
  simp only [if_true] at e
  cases e
  rw [if_pos rfl,if_pos (by rw [k.1];exact hd)]
  exact ⟨v',rfl,q⟩
 ·rw [if_neg ht] at e
  rw [if_neg (fun h=>ht h.symm)]
  exact k.2 t u e

section
variable {r:Ren} {A:Fr} {tmps:Array Value}
theorem evR (hT:Xk r A.n A.T tmps) {x:Operand} {v:Value} (h:ev A x=some v):VR r v (evT tmps x):=by
 cases x with
 | tmp t=>
  obtain ⟨v',e,q⟩:=hT.2 t v h
  simp only [evT,Array.getD_eq_getD_getElem?,e,Option.getD_some]
  exact q
 | const c=>
  simp only [ev] at h
  cases hf:flat c with
  | true=>rw [hf] at h;simp at h;subst h;exact Yf hf
  | false=>rw [hf] at h;simp at h
 | func f=>
  simp only [ev] at h;cases h
  exact .func (.func f) rfl (fun i v v' e=>by simp at e) rfl (fun i v v' e=>by simp at e)
 | global g=>simp [ev] at h
theorem yL (hT:Xk r A.n A.T tmps):∀ {xs:List Operand} {vs:List Value},evs A xs=some vs→LR r vs (xs.map (evT tmps))
 | [],vs,h=>by simp [evs] at h;subst h;exact LR.nil
 | x :: xs,vs,h=>by
  simp only [evs] at h
  cases h1:ev A x with
  | none=>simp [h1] at h
  | some v=>
   cases h2:evs A xs with
   | none=>simp [h1,h2] at h
   | some vs'=>
    simp [h1,h2] at h;subst h
    exact LR.cons (evR hT h1) (yL hT h2)
end

/-! ### Facts on types -/
section
variable {P:Program} {w:World}
theorem XQ {t:TypeId} {i:TypeInfo} (h:P.info? t=some i) (w:World):(typeInfo t).run P w=.ok i w:=by
 simp [typeInfo,h]
theorem ZI {t:TypeId} {i:TypeInfo} (h:P.info? t=some i) (w:World):(sizeOf t).run P w=.ok i.size w:=by
 simp [sizeOf,XQ h]
theorem QI {t:TypeId} {b:Bool} (h:XO P t=some b) (w:World):(isAgg t).run P w=.ok b w:=by
 unfold XO at h
 unfold isAgg
 cases hu:P.underlying t with
 | none=>simp [hu] at h
 | some d=>
  simp only [hu] at h
  simp only [Sem.run_bind,run_underlying hu,Result.andThen_ok]
  cases d<;>simp at h<;>subst h<;>rfl
theorem ZO {t:TypeId} {z:Value} (h:Ym P t=some z) (w:World):(zeroValue t).run P w=.ok z w∧flat z=true:=by
 unfold Ym at h
 cases hi:P.info? t with
 | none=>simp [hi] at h
 | some i=>
  simp only [hi] at h
  cases hz:i.zero with
  | none=>simp [hz] at h
  | some z'=>
   simp only [hz] at h
   cases hf:flat z' with
   | false=>simp [hf] at h
   | true=>
    simp [hf] at h;subst h
    exact ⟨by simp [zeroValue,XQ hi,hz],hf⟩
theorem Uu {n:Nat} {cs l:List Value} {i:Nat} (h:row n cs i=some l):l=(cs.drop i).take n∧l.length=n:=by
 unfold row at h
 simp only [ZA] at h
 by_cases hc:((cs.drop i).take n).length=n
 ·rw [decide_eq_true hc] at h;cases h;exact ⟨rfl,hc⟩
 ·rw [decide_eq_false hc] at h;cases h
theorem zn {r:Ren} {t:TypeId} {cs cs':Array Value} {off:Nat} {v:Value} (h:qr P t cs.toList off=some v) (k:LR r cs.toList cs'.toList) :
  ∃ v',VR r v v'∧∀ w,(part t cs' off).run P w=.ok v' w:=by
 unfold qr at h
 cases ha:XO P t with
 | none=>simp [ha] at h
 | some b=>
  cases hi:P.info? t with
  | none=>cases b<;>simp [ha,hi] at h
  | some i=>
   cases b with
   | true=>
    simp only [ha,hi] at h
    cases hr:row i.size cs.toList off with
    | none=>simp [hr] at h
    | some l=>
     simp [hr] at h;subst h
     obtain ⟨e,hl⟩:=Uu hr
     refine ⟨.agg (cs'.extract off (off+i.size)),?_,fun w=>?_⟩
     ·have hq:LR r l ((cs'.toList.drop off).take i.size):=by rw [e];exact (k.drop off).take i.size
      have:=VR.aggL hq
      have e2:cs'.extract off (off+i.size)=((cs'.toList.drop off).take i.size).toArray:=by
       apply Array.toList_inj.1
       simp [Array.toList_extract,List.extract]
      rw [e2];exact this
     ·simp [part,QI ha,ZI hi]
   | false=>
    simp only [ha,hi] at h
    obtain ⟨v',e,q⟩:=k.get h
    refine ⟨v',q,fun w=>?_⟩
    have e':cs'[off]? = some v':=by simpa using e
    simp [part,QI ha,e']
end
end Go.Ax

namespace Go.Ax
open Go Go.RowKit

theorem VR.cells {r:Ren} {v v':Value} (h:VR r v v'):LR r v.cells.toList v'.cells.toList:=by
 cases h with
 | agg s k=>exact YG.2 ⟨s,k⟩
 | bool b=>exact LR.cons (.bool b) .nil
 | int k n=>exact LR.cons (.int k n) .nil
 | str s=>exact LR.cons (.str s) .nil
 | nilIface=>exact LR.cons .nilIface .nil
 | nilFunc=>exact LR.cons .nilFunc .nil
 | nilPtr=>exact LR.cons .nilPtr .nil
 | nilMap=>exact LR.cons .nilMap .nil
 | nilSlice=>exact LR.cons .nilSlice .nil
 | ptr e=>exact LR.cons (.ptr e) .nil
 | slice e l q=>exact LR.cons (.slice e l q) .nil
 | loose e l a b=>exact LR.cons (.loose e l a b) .nil
 | mapv e=>exact LR.cons (.mapv e) .nil
 | weird q=>exact LR.cons (.weird q) .nil
 | iface t k=>exact LR.cons (.iface t k) .nil
 | func f a b c d=>exact LR.cons (.func f a b c d) .nil
 | tuple s k=>exact LR.cons (.tuple s k) .nil

theorem VY:∀ (cs:List Value) (i:Nat) (vs:List Value),(Yk cs i vs).length=cs.length
 | _,_,[]=>rfl
 | cs,i,v :: vs=>by rw [Yk,VY];simp
theorem Ku {r:Ren}:∀ {vs vs' cs cs':List Value} (i:Nat),LR r cs cs'→LR r vs vs'→LR r (Yk cs i vs) (Yk cs' i vs')
 | [],vs',cs,cs',i,h,k=>by rw [k.of_nil];exact h
 | v :: vs,vs',cs,cs',i,h,k=>by
  obtain ⟨u,us,rfl,hu,hus⟩:=k.of_cons
  exact Ku (i+1) (h.set i hu) hus
theorem Ur:∀ (vs:List Value) (off j:Nat) (cs:Array Value),((vs.zipIdx j).foldl (fun cs (x:Value × Nat)=>cs.setIfInBounds (off+x.2) x.1) cs).toList=Yk cs.toList (off+j) vs
 | [],_,_,_=>rfl
 | v :: vs,off,j,cs=>by
  rw [List.zipIdx_cons,List.foldl_cons,Ur vs off (j+1)]
  simp [Yk,Nat.add_assoc]
theorem qj (v:Value) (off:Nat) (cs:Array Value):(v.cells.zipIdx.foldl (fun cs (x:Value × Nat)=>cs.setIfInBounds (off+x.2) x.1) cs).toList=Yk cs.toList off v.cells.toList:=by
 rw [← Array.foldl_toList]
 have:v.cells.zipIdx.toList=v.cells.toList.zipIdx:=by simp
 rw [this,Ur]
 simp

theorem Jc {r:Ren} (place:Nat→Option (Nat × Nat)):∀ (ps ps':List (Nat × Value)) (cs:List Value) (C:Array Value) (out:List Value),LR r cs C.toList→
  ps.length=ps'.length→(∀ (i:Nat) p p',ps[i]? = some p→ps'[i]? = some p'→p.1=p'.1∧VR r p.2 p'.2)→WF place cs ps=some out→
  ∃ C',Instr.fill place C ps'=some C'∧LR r out C'.toList
 | [],ps',cs,C,out,h,hl,hp,e=>by
  have:ps'=[]:=List.eq_nil_of_length_eq_zero hl.symm
  subst this
  simp only [WF] at e;cases e
  exact ⟨C,rfl,h⟩
 | (i,v) :: ps,ps',cs,C,out,h,hl,hp,e=>by
  cases ps' with
  | nil=>simp at hl
  | cons q ps'=>
   obtain ⟨i',v'⟩:=q
   obtain ⟨hi,hv⟩:=hp 0 (i,v) (i',v') rfl rfl
   simp only at hi hv
   subst hi
   simp only [WF] at e
   cases hpl:place i with
   | none=>simp [hpl] at e
   | some os=>
    obtain ⟨off,size⟩:=os
    simp only [hpl,ZA] at e
    by_cases hc:(decide (v.cells.toList.length=size) && Nat.ble (off+size) cs.length)=true
    ·rw [hc] at e
     simp only [cond_true] at e
     simp only [Bool.and_eq_true,decide_eq_true_eq] at hc
     obtain ⟨h1,h2⟩:=hc
     have h2':=Nat.le_of_ble_eq_true h2
     have hcl:=hv.cells
     have hlen:v'.cells.size=size:=by have:=hcl.1;simp at this h1;omega
     have hC:C.size=cs.length:=by have:=h.1;simp at this;omega
     obtain ⟨C',e',k'⟩:=Jc (r:=r) place ps ps' (Yk cs off v.cells.toList) (v'.cells.zipIdx.foldl (fun cs (x:Value × Nat)=>cs.setIfInBounds (off+x.2) x.1) C) out
      (by rw [qj];exact Ku off h hcl) (by simpa using hl) (fun j p p' a b=>hp (j+1) p p' (by simpa using a) (by simpa using b)) e
     refine ⟨C',?_,k'⟩
     simp only [Instr.fill,hpl]
     have:(decide (v'.cells.size≠size) || decide (off+v'.cells.size > C.size))=false:=by simp;omega
     rw [this]
     simpa using e'
    ·have:(decide (v.cells.toList.length=size) && Nat.ble (off+size) cs.length)=false:=Bool.eq_false_iff.2 hc
     rw [this] at e
     cases e

section
variable {P:Program} {r:Ren} {A:Fr} {tmps:Array Value}
theorem za (hT:Xk r A.n A.T tmps):∀ {xs:List (Nat × Operand)} {ps:List (Nat × Value)},YT A xs=some ps→
  ps.length=(xs.map fun p=>(p.1,evT tmps p.2)).length∧∀ (i:Nat) p p',ps[i]? = some p→(xs.map fun p=>(p.1,evT tmps p.2))[i]? = some p'→p.1=p'.1∧VR r p.2 p'.2
 | [],ps,h=>by simp [YT] at h;subst h;simp
 | (i,x) :: xs,ps,h=>by
  simp only [YT] at h
  cases h1:ev A x with
  | none=>simp [h1] at h
  | some v=>
   cases h2:YT A xs with
   | none=>simp [h1,h2] at h
   | some ps'=>
    simp [h1,h2] at h;subst h
    obtain ⟨a,b⟩:=za hT h2
    refine ⟨by simpa using a,fun j p p' e e'=>?_⟩
    cases j with
    | zero=>simp at e e';subst e e';exact ⟨rfl,evR hT h1⟩
    | succ j=>exact b j p p' (by simpa using e) (by simpa using e')
theorem QY:∀ {fs:List Field} {pl:List (Nat × Nat)},X7 P fs=some pl→∀ w,(fs.mapM fun f=>(do pure (f.offset,← sizeOf f.type):Sem (Nat × Nat))).run P w=.ok pl w
 | [],pl,h,w=>by simp [X7] at h;subst h;rfl
 | f :: fs,pl,h,w=>by
  simp only [X7] at h
  cases hi:P.info? f.type with
  | none=>simp [hi] at h
  | some i=>
   cases h2:X7 P fs with
   | none=>simp [hi,h2] at h
   | some l=>
    simp [hi,h2] at h;subst h
    have:=QY h2 w
    rw [List.mapM_cons]
    simp only [Sem.run_bind,ZI hi,Result.andThen_ok,Sem.run_pure,this]
theorem Wl {z:Value} (h:flat z=true):LR r z.cells.toList z.cells.toList:=(Yf (r:=r) h).cells
theorem Zbw (hT:Xk r A.n A.T tmps) {t:TypeId} {parts:Array (Nat × Operand)} {z:Value} {ps:List (Nat × Value)} (hz:Ym P t=some z) (hp:YT A parts.toList=some ps) {v:Value}
  (h:(match P.underlying t with
   | some (.struct fs)=>match X7 P fs.toList with
    | some pl=>match WF (fun i=>pl[i]?) z.cells.toList ps with | some cs=>some (Value.agg cs.toArray) | none=>none
    | none=>none
   | some (.array _ e)=>match P.info? e with
    | some i=>match WF (fun k=>some (k * i.size,i.size)) z.cells.toList ps with | some cs=>some (.agg cs.toArray) | none=>none
    | none=>none
   | _=>none)=some v):∃ v',VR r v v'∧∀ w,(Instr.build t (parts.map fun (i,x)=>(i,evT tmps x))).run P w=.ok v' w:=by
 obtain ⟨pl1,pl2⟩:=za hT hp
 have hlist:(parts.map fun (x:Nat × Operand)=>(x.1,evT tmps x.2)).toList=parts.toList.map fun p=>(p.1,evT tmps p.2):=by simp
 cases hu:P.underlying t with
 | none=>simp [hu] at h
 | some d=>
  cases d<;>simp only [hu] at h<;>try (cases h;done)
  case array n e=>
   cases hi:P.info? e with
   | none=>simp [hi] at h
   | some i=>
    simp only [hi] at h
    cases hf:WF (fun k=>some (k * i.size,i.size)) z.cells.toList ps with
    | none=>simp [hf] at h
    | some cs=>
     simp [hf] at h;subst h
     obtain ⟨C',e',k'⟩:=Jc (r:=r) _ ps _ _ z.cells _ (Wl (ZO hz default).2) pl1 pl2 hf
     refine ⟨.agg C',?_,fun w=>?_⟩
     ·have:=VR.aggL k';simpa using this
     ·unfold Instr.build
      simp only [Sem.run_bind,(ZO hz w).1,Result.andThen_ok,run_underlying hu,ZI hi,hlist,e']
      rfl
  case struct fs=>
   cases hpl:X7 P fs.toList with
   | none=>simp [hpl] at h
   | some pl=>
    simp only [hpl] at h
    cases hf:WF (fun i=>pl[i]?) z.cells.toList ps with
    | none=>simp [hf] at h
    | some cs=>
     simp [hf] at h;subst h
     obtain ⟨C',e',k'⟩:=Jc (r:=r) _ ps _ _ z.cells _ (Wl (ZO hz default).2) pl1 pl2 hf
     refine ⟨.agg C',?_,fun w=>?_⟩
     ·have:=VR.aggL k';simpa using this
     ·have hm:(fs.mapM fun f=>(do pure (f.offset,← sizeOf f.type):Sem (Nat × Nat))).run P w=.ok pl.toArray w:=by
       rw [← Array.toArray_toList (xs:=fs),List.mapM_toArray,Sem.run_map,QY hpl w]
       rfl
      have e'':Instr.fill (fun (i:Nat)=>pl.toArray[i]?) z.cells (parts.toList.map fun p=>(p.1,evT tmps p.2))=some C':=by
       have:(fun (i:Nat)=>pl.toArray[i]?)=fun (i:Nat)=>pl[i]?:=by funext i;simp
       rw [this];exact e'
      unfold Instr.build
      simp only [Sem.run_bind,(ZO hz w).1,Result.andThen_ok,run_underlying hu,hm,hlist,e'']
      rfl
end
end Go.Ax

namespace Go.Ax
open Go Go.RowKit
section
variable {P:Program} {r:Ren} {A:Fr} {tmps:Array Value}

theorem JT {vs vs':List Value} (h:vs.all flat=true) (k:LR r vs vs'):vs'=vs:=by
 induction vs generalizing vs' with
 | nil=>exact k.of_nil
 | cons v vs ih=>
  obtain ⟨u,us,rfl,hu,hus⟩:=k.of_cons
  simp only [List.all_cons,Bool.and_eq_true] at h
  rw [ZF h.1 hu,ih h.2 hus]

theorem Zc {α:Type} {b:Bool} {x:Option α} {v:α} (h:(bif b then x else none)=some v):b=true∧x=some v:=by
 cases b
 ·cases h
 ·exact ⟨rfl,h⟩

theorem Ze3 (hT:Xk r A.n A.T tmps) {x:Option Operand} {l:Option Value} (h:evO A x=some l):(l=none∧x.map (evT tmps)=none)∨∃ v v',l=some v∧x.map (evT tmps)=some v'∧VR r v v':=by
 cases x with
 | none=>simp [evO] at h;subst h;exact .inl ⟨rfl,rfl⟩
 | some x=>
  simp only [evO] at h
  cases h1:ev A x with
  | none=>simp [h1] at h
  | some v=>simp [h1] at h;subst h;exact .inr ⟨v,_,rfl,rfl,evR hT h1⟩

def KL (P:Program) (s:Sem Next) (v:Value):Prop:=∀ w,s.run P w=.ok (.value v) w

theorem YQ {b:Builtin} {ts:Array TypeId} {ty:TypeId} {consts:Array Bool} {vs vs':List Value} {v:Value} (k:LR r vs vs') (h:WN.flatCall P b ts ty consts vs=some v) :
  VR r v v∧KL P (builtin b ts ty consts vs'.toArray) v:=by
 unfold WN.flatCall at h
 obtain ⟨hf,h⟩:=Zc h
 cases hp:Zz P (builtin b ts ty consts vs.toArray) with
 | none=>simp [hp] at h
 | some x=>
  rw [hp] at h
  cases x<;>try (cases h;done)
  rename_i u
  obtain ⟨hu,h⟩:=Zc h
  cases h
  rw [JT hf k]
  exact ⟨Yf hu,fun w=>ZT _ hp w⟩

theorem yT {b:Builtin} {ts:Array TypeId} {ty:TypeId} {consts:Array Bool} {vs vs':List Value} {v:Value} (k:LR r vs vs') (h:WN P b ts ty consts vs=some v) :
  VR r v v∧KL P (builtin b ts ty consts vs'.toArray) v:=by
 unfold WN at h
 split at h
 ·rename_i a n c
  cases ht:ts[0]? with
  | none=>simp [ht] at h
  | some t=>
   simp only [ht] at h
   cases hu:P.underlying t with
   | none=>simp [hu] at h
   | some d=>
    cases d<;>simp only [hu] at h<;>try (cases h;done)
    cases h
    refine ⟨.int _ _,fun w=>?_⟩
    obtain ⟨u,us,rfl,hu',hus⟩:=k.of_cons
    rw [hus.of_nil]
    have hsl:∃ a' c',u=.slice a' n c':=by cases hu'<;>exact ⟨_,_,rfl⟩
    obtain ⟨a',c',rfl⟩:=hsl
    simp [builtin,Builtin.len_,ht,run_underlying hu,goInt]
 ·exact YQ k h
 ·exact YQ k h
 ·exact YQ k h
 ·exact YQ k h
 ·exact YQ k h
 ·exact YQ k h
 ·exact YQ k h
 ·exact YQ k h
 ·exact YQ k h
 ·cases h

theorem ji {t:TypeId} {a b a' b':Value} (h:VD P t a b=true) (ka:VR r a a') (kb:VR r b b') (d:Nat) (w:World) :
  (Op.equalIn (d+1) t a' b').run P w=.ok false w:=by
 unfold VD at h
 split at h<;>first | (cases h;done) | skip
 all_goals
  rename_i hu
  cases ka<;>cases kb<;>simp [Op.equalIn,run_underlying hu]
theorem K4 {t:TypeId} {a b a' b':Value} (h:VD P t a b=true) (ka:VR r a a') (kb:VR r b b') (op:BinOp) (x y:Operand) (w:World) :
  (eqGuard op t x y a' b').run P w=.ok () w:=by
 unfold VD at h
 split at h<;>first | (cases h;done) | skip
 all_goals
  cases ka<;>cases kb<;>(unfold eqGuard;cases op<;>rfl)
theorem Q1 {t:TypeId} {a b a' b':Value} (h:VD P t a b=true) (ka:VR r a a') (kb:VR r b b') :
  (binOp .eql t a' b'=do pure (.bool (← Op.equal t a' b')))∧(binOp .neq t a' b'=do pure (.bool (!(← Op.equal t a' b')))):=by
 unfold VD at h
 split at h<;>first | (cases h;done) | skip
 all_goals
  cases ka<;>cases kb<;>exact ⟨rfl,rfl⟩
theorem jK {t:TypeId} {a b a' b':Value} (h:VD P t a b=true) (ka:VR r a a') (kb:VR r b b') (x y:Operand) (w:World) :
  (do eqGuard .eql t x y a' b';binOp .eql t a' b').run P w=.ok (.bool false) w∧(do eqGuard .neq t x y a' b';binOp .neq t a' b').run P w=.ok (.bool true) w:=by
 have e:∀ w,(Op.equal t a' b').run P w=.ok false w:=fun w=>ji h ka kb 9999 w
 rw [(Q1 h ka kb).1,(Q1 h ka kb).2]
 simp only [Sem.run_bind,K4 h ka kb,Result.andThen_ok,e,Sem.run_pure,Bool.not_false,and_self]
end
end Go.Ax

namespace Go.Ax
open Go Go.RowKit
section
variable {P:Program} {r:Ren} {A:Fr} {tmps:Array Value}

theorem K9 {α:Type} {b:Bool} {x y:α}:(bif b then x else y)=if b=true then x else y:=by cases b<;>rfl

theorem UT {a:Addr} {v':Value} (h:VR r (.pointer (some a)) v'):∃ (loc:Loc) ,r a.block=some loc∧a.spot=none∧v'=.pointer (some ⟨loc.blk,a.off+loc.delta,none⟩):=by
 cases h with
 | ptr e=>exact ⟨_,e,rfl,rfl⟩
theorem KF {a:Addr} {loc:Loc} (hr:r a.block=some loc) (hs:a.spot=none) (n:Nat) :
  VR r (.pointer (some (a.add n))) (.pointer (some ((⟨loc.blk,a.off+loc.delta,none⟩:Addr).add n))):=by
 obtain ⟨b,o,s⟩:=a
 simp only at hr hs
 subst hs
 unfold Addr.add
 by_cases hn:n=0
 ·simp only [hn,if_true];exact .ptr hr
 ·simp only [hn,if_false]
  have:o+loc.delta+n=(o+n)+loc.delta:=by omega
  rw [this]
  exact .ptr hr
theorem Xq {a : Addr} {n c : Nat} {v' : Value} (h : VR r (.slice (some a) n c) v') (hsp : a.spot = none ∨ n ≠ 0) : ∃ (loc : Loc) (c' : Nat), r a.block = some loc ∧ a.spot = none ∧ v' = .slice (some ⟨loc.blk, a.off + loc.delta, none⟩) n c' ∧
    ((loc.loose = none ∧ c' = c ∧ n ≤ c) ∨ ∃ total sz, loc.loose = some (total, sz) ∧ n ≤ c' ∧ a.off + loc.delta + c' * sz = total) := by
  cases h with
  | slice e l q => exact ⟨_, _, e, rfl, rfl, .inl ⟨l, rfl, q⟩⟩
  | loose e l a b => exact ⟨_, _, e, rfl, rfl, .inr ⟨_, _, l, a, b⟩⟩
  | weird _ => rcases hsp with q | q
               · cases q
               · exact absurd rfl q

theorem qJ {a:Addr} {n c:Nat} {v':Value} {s:Nat} (h:VR r (.slice (some a) n c) v') (hs:a.spot=some s):∃ b o,a=⟨b,o,some 0⟩∧n=0∧c=0∧∃ a' c',v'=.slice (some a') 0 c'∧(c'=0∨∃ (loc:Loc) (total sz:Nat),r b=some loc∧loc.loose=some (total,sz)∧a'=⟨loc.blk,o+loc.delta,none⟩∧o+loc.delta+c' * sz=total):=by
 cases h with
 | slice e l q=>cases hs
 | loose e l a b=>cases hs
 | weird q=>exact ⟨_,_,rfl,rfl,rfl,_,_,rfl,q⟩
theorem XY {b:Bool} {u:Value} (h:VR r (.bool b) u):u=.bool b:=by cases h;rfl
theorem Xl {k:IntKind} {n:Int} {u:Value} (h:VR r (.int k n) u):u=.int k n:=by cases h;rfl
theorem QK {t:TypeId} {v u:Value} (h:VR r (.iface t v) u):∃ u',u=.iface t u'∧VR r v u':=by cases h;exact ⟨_,rfl,by assumption⟩
theorem X5 (a:Array Operand) (f:Operand→Value):(a.toList.map f).toArray=a.map f:=by apply Array.toList_inj.1;simp

set_option maxHeartbeats 1000000 in
theorem zP (hT:Xk r A.n A.T tmps) {o:Oper} {v:Value} (h:Zo P A o=some v):∃ v',VR r v v'∧KL P (execOp (evT tmps) o) v':=by
 unfold Zo at h
 unfold KL execOp
 cases hop:o.op<;>simp only [hop] at h ⊢<;>try (cases h;done)
 case move x=>exact ⟨_,evR hT h,fun w=>rfl⟩
 case assign x=>exact ⟨_,evR hT h,fun w=>rfl⟩
 case pick c a b=>
  cases hc:ev A c with
  | none=>simp [hc] at h
  | some cv=>
   cases cv<;>simp only [hc] at h<;>try (cases h;done)
   rename_i t
   cases ha:ev A a with
   | none=>simp [ha] at h
   | some av=>
    cases hb:ev A b with
    | none=>simp [ha,hb] at h
    | some bv=>
     simp only [ha,hb] at h
     have h1:=evR hT hc
     have h2:=evR hT ha
     have h3:=evR hT hb
     have e1:evT tmps c=.bool t:=XY h1
     refine ⟨if t then evT tmps a else evT tmps b,?_,fun w=>?_⟩
     ·cases t<;>simp at h<;>subst h<;>simp [h2,h3]
     ·rw [e1];cases t<;>simp [asBool]
 case build t parts=>
  cases hz:Ym P t with
  | none=>simp [hz] at h
  | some z=>
   cases hp:YT A parts.toList with
   | none=>simp [hz,hp] at h
   | some ps=>
    simp only [hz,hp] at h
    obtain ⟨v',k,hr⟩:=Zbw hT hz hp h
    refine ⟨v',k,fun w=>?_⟩
    simp only [Sem.run_bind]
    erw [hr w]
    rfl
 case nilCheck x=>
  cases hx:ev A x with
  | none=>simp [hx] at h
  | some xv=>
   have k:=evR hT hx
   simp only [hx] at h
   split at h<;>first | (cases h;done) | skip
   ·rename_i a heq;cases heq;cases h
    obtain ⟨loc,h1,h2,h3⟩:=UT k
    refine ⟨_,k,fun w=>?_⟩
    rw [h3];rfl
   ·rename_i t u heq;cases heq;cases h
    refine ⟨_,k,fun w=>?_⟩
    obtain ⟨u',e,_⟩:=QK k;rw [e];rfl
   ·rename_i f B C heq;cases heq;cases h
    refine ⟨_,k,fun w=>?_⟩
    generalize evT tmps x=u at k
    cases k with
    | func f _ _ _ _=>cases f;rfl
   ·rename_i f B C heq;cases heq;cases h
    refine ⟨_,k,fun w=>?_⟩
    generalize evT tmps x=u at k
    cases k with
    | func f _ _ _ _=>cases f;rfl
 case binOp op t x y yt=>
  cases hx:ev A x with
  | none=>simp [hx] at h
  | some a=>
   cases hy:ev A y with
   | none=>simp [hx,hy] at h
   | some b=>
    simp only [hx,hy] at h
    have k1:=evR hT hx
    have k2:=evR hT hy
    cases hf:(flat a && flat b) with
    | true=>
     rw [hf] at h
     simp only [cond_true] at h
     simp only [Bool.and_eq_true] at hf
     cases hp:Zz P (do eqGuard op t x y a b;binOp op t a b) with
     | none=>rw [hp] at h;cases h
     | some u=>
      rw [hp] at h
      obtain ⟨hu,h⟩:=Zc h
      cases h
      refine ⟨v,Yf hu,fun w=>?_⟩
      rw [ZF hf.1 k1,ZF hf.2 k2]
      have:=ZT _ hp w
      simp only [Sem.run_bind] at this ⊢
      rw [this];rfl
    | false=>
     rw [hf] at h
     simp only [cond_false] at h
     obtain ⟨hd,h⟩:=Zc h
     cases op<;>simp only at h<;>try (cases h;done)
     all_goals
      cases h
      refine ⟨_,.bool _,fun w=>?_⟩
      have:=jK hd k1 k2 x y w
      simp only [Sem.run_bind] at this ⊢
      first
       | (rw [this.1];rfl)
       | (rw [this.2];rfl)
 case unOp op t x=>
  cases hx:ev A x with
  | none=>simp [hx] at h
  | some a=>
   simp only [hx] at h
   have k1:=evR hT hx
   obtain ⟨hf,h⟩:=Zc h
   cases hp:Zz P (Op.unary op a) with
   | none=>rw [hp] at h;cases h
   | some u=>
    rw [hp] at h
    obtain ⟨hu,h⟩:=Zc h
    cases h
    refine ⟨v,Yf hu,fun w=>?_⟩
    rw [ZF hf k1]
    simp only [Sem.run_bind,ZT _ hp w];rfl
 case convert s d x=>
  cases hx:ev A x with
  | none=>simp [hx] at h
  | some a=>
   simp only [hx] at h
   have k1:=evR hT hx
   obtain ⟨hf,h⟩:=Zc h
   cases hp:Zz P (convert s d a) with
   | none=>rw [hp] at h;cases h
   | some u=>
    rw [hp] at h
    obtain ⟨hu,h⟩:=Zc h
    cases h
    refine ⟨v,Yf hu,fun w=>?_⟩
    rw [ZF hf k1]
    simp only [Sem.run_bind,ZT _ hp w];rfl
 case makeInterface t x=>
  cases hx:ev A x with
  | none=>simp [hx] at h
  | some a=>
   cases hu:P.underlying t with
   | none=>simp [hx,hu] at h
   | some d=>
    have k1:=evR hT hx
    refine ⟨.iface t (evT tmps x),?_,fun w=>?_⟩
    ·cases d<;>simp [hx,hu] at h<;>subst h<;>exact .iface t k1
    ·cases d<;>simp [hx,hu] at h<;>simp [Instr.makeInterface,run_underlying hu]
 case makeFunc fn first cap=>
  cases h1:evs A first.toList with
  | none=>cases fn<;>simp [h1] at h
  | some a=>
   cases h2:evs A cap.toList with
   | none=>cases fn<;>simp [h1,h2] at h
   | some b=>
    have k1:=yL hT h1
    have k2:=yL hT h2
    have e1:(first.toList.map (evT tmps)).toArray=first.map (evT tmps):=X5 _ _
    have e2:(cap.toList.map (evT tmps)).toArray=cap.map (evT tmps):=X5 _ _
    cases fn<;>simp only [h1,h2] at h<;>try (cases h;done)
    ·cases h
     exact ⟨_,VR.funcL (.func _) k1 k2,fun w=>by rw [e1,e2];rfl⟩
    ·cases h
     exact ⟨_,VR.funcL (.method _) k1 k2,fun w=>by rw [e1,e2];rfl⟩
    ·cases h
     exact ⟨_,VR.funcL (.methodOf _ _) k1 k2,fun w=>by rw [e1,e2];rfl⟩
 case fieldAddr s x f=>
  cases hu:P.underlying s with
  | none=>simp [hu] at h
  | some d=>
   cases d<;>simp only [hu] at h<;>try (cases h;done)
   rename_i fs
   cases hx:ev A x with
   | none=>simp [hx] at h
   | some xv=>
    have k:=evR hT hx
    simp only [hx] at h
    split at h<;>first | (cases h;done) | skip
    rename_i fs' a e1 e2
    cases e1;cases e2
    cases hf:fs[f]? with
    | none=>simp [hf] at h
    | some fd=>
     simp only [hf] at h
     cases hi:P.info? fd.type with
     | none=>simp [hi] at h
     | some i=>
      simp only [hi,ZA] at h
      by_cases hz:i.size=0
      ·simp [hz] at h
      ·simp [hz] at h
       subst h
       obtain ⟨loc,h1,h2,h3⟩:=UT k
       refine ⟨_,KF h1 h2 fd.offset,fun w=>?_⟩
       simp [Instr.fieldAt,run_underlying hu,hf,h3,Instr.sureAddr,fieldPlace,ZI hi,hz]
 case field t x f=>
  cases hu:P.underlying t with
  | none=>simp [hu] at h
  | some d=>
   cases d<;>simp only [hu] at h<;>try (cases h;done)
   rename_i fs
   cases hx:ev A x with
   | none=>simp [hx] at h
   | some xv=>
    have k:=evR hT hx
    simp only [hx] at h
    split at h<;>first | (cases h;done) | skip
    rename_i fs' cs e1 e2
    cases e1;cases e2
    cases hf:fs[f]? with
    | none=>simp [hf] at h
    | some fd=>
     simp only [hf] at h
     generalize hg:evT tmps x=u at k
     cases k with
     | agg s kk=>
      obtain ⟨v',q,hr⟩:=zn h (YG.2 ⟨s,kk⟩)
      refine ⟨v',q,fun w=>?_⟩
      simp [Instr.field,run_underlying hu,hf,asAgg,hr]
 case indexAddr t x ix=>
  cases hu:P.underlying t with
  | none=>simp [hu] at h
  | some d=>
   cases hx:ev A x with
   | none=>cases d<;>simp [hu,hx] at h
   | some xv=>
    cases hi:ev A ix with
    | none=>cases d<;>simp [hu,hx,hi] at h
    | some iv=>
     have k:=evR hT hx
     have ki:=evR hT hi
     simp only [hu,hx,hi] at h
     split at h<;>first | (cases h;done) | skip
     ·rename_i e a len c kd i e1 e2 e3
      cases e1;cases e2;cases e3
      cases hinf:P.info? e with
      | none=>simp [hinf] at h
      | some inf=>
       simp only [hinf] at h
       obtain ⟨hb,h⟩:=Zc h
       cases h
       have hb:=Nat.le_of_ble_eq_true hb
       obtain ⟨loc,c',h1,h2,h3,_⟩:=Xq k (.inr (by omega))
       have e4:evT tmps ix=.int kd (.ofNat i):=Xl ki
       refine ⟨_,KF h1 h2 (i * inf.size),fun w=>?_⟩
       rw [h3,e4]
       have hlt:(0:Int)≤(i:Int)∧(i:Int) < (len:Int):=by omega
       simp [Instr.indexAt,asIntOf,run_underlying hu,ZI hinf,hlt]
       intro;omega
     ·rename_i len e a kd i e1 e2 e3
      cases e1;cases e2;cases e3
      cases hinf:P.info? e with
      | none=>simp [hinf] at h
      | some inf=>
       simp only [hinf] at h
       obtain ⟨hb,h⟩:=Zc h
       cases h
       have hb:=Nat.le_of_ble_eq_true hb
       obtain ⟨loc,h1,h2,h3⟩:=UT k
       have e4:evT tmps ix=.int kd (.ofNat i):=Xl ki
       refine ⟨_,KF h1 h2 (i * inf.size),fun w=>?_⟩
       rw [h3,e4]
       have hlt:(0:Int)≤(i:Int)∧(i:Int) < (len:Int):=by omega
       simp [Instr.indexAt,Instr.sureAddr,asIntOf,run_underlying hu,ZI hinf,hlt]
       intro;omega
 case index t x ix=>
  cases hu:P.underlying t with
  | none=>simp [hu] at h
  | some d=>
   cases hx:ev A x with
   | none=>cases d<;>simp [hu,hx] at h
   | some xv=>
    cases hi:ev A ix with
    | none=>cases d<;>simp [hu,hx,hi] at h
    | some iv=>
     have k:=evR hT hx
     have ki:=evR hT hi
     simp only [hu,hx,hi] at h
     split at h<;>first | (cases h;done) | skip
     ·rename_i len e cs kd i e1 e2 e3
      cases e1;cases e2;cases e3
      cases hinf:P.info? e with
      | none=>simp [hinf] at h
      | some inf=>
       simp only [hinf] at h
       obtain ⟨hb,h⟩:=Zc h
       have hb:=Nat.le_of_ble_eq_true hb
       have e4:evT tmps ix=.int kd (.ofNat i):=Xl ki
       generalize hg:evT tmps x=u at k
       cases k with
       | agg s kk=>
        obtain ⟨v',q,hr⟩:=zn h (YG.2 ⟨s,kk⟩)
        refine ⟨v',q,fun w=>?_⟩
        have hlt:(0:Int)≤(i:Int)∧(i:Int) < (len:Int):=by omega
        rw [e4]
        simp [Instr.index,asIntOf,run_underlying hu,ZI hinf,hlt,hr]
        intro;omega
     ·rename_i v0 k0 e1 e2 e3
      cases e1;cases e2;cases e3
      obtain ⟨hf,h⟩:=Zc h
      simp only [Bool.and_eq_true] at hf
      cases hp:Zz P (Instr.index t xv iv) with
      | none=>rw [hp] at h;cases h
      | some u=>
       rw [hp] at h
       obtain ⟨hu',h⟩:=Zc h
       cases h
       refine ⟨v,Yf hu',fun w=>?_⟩
       rw [ZF hf.1 k,ZF hf.2 ki]
       simp only [Sem.run_bind,ZT _ hp w];rfl
 case extract x i=>
  cases hx:ev A x with
  | none=>simp [hx] at h
  | some xv=>
   have k:=evR hT hx
   simp only [hx] at h
   split at h<;>first | (cases h;done) | skip
   rename_i vs e1
   cases e1
   generalize hg:evT tmps x=u at k
   cases k with
   | tuple s kk=>
    obtain ⟨v',e,q⟩:=(YG.2 ⟨s,kk⟩).get h
    refine ⟨v',q,fun w=>?_⟩
    have e':_:=e
    rw [Array.getElem?_toList] at e'
    simp [Instr.extract,e']
 case typeAssert x xt asserted ok=>
  cases hu:P.underlying asserted with
  | none=>simp [hu] at h
  | some d=>
   cases hx:ev A x with
   | none=>cases d<;>simp [hu,hx] at h
   | some xv=>
    have k:=evR hT hx
    have hd:∀ ms,d≠.interface ms:=by rintro ms rfl;simp [hu] at h
    simp only [hu,hx] at h
    split at h<;>first | (cases h;done) | skip
    ·rename_i t u e1 e2 e3
     cases e2;cases e3
     generalize hg:evT tmps x=ux at k
     cases k with
     | iface t k=>
      rename_i u'
      simp only [ZA] at h
      by_cases hta:t=asserted
      ·subst hta
       simp only [decide_true,cond_true] at h
       cases ok with
       | true=>
        simp at h;subst h
        refine ⟨_,VR.tupleL (LR.cons k (LR.cons (.bool true) .nil)),fun w=>?_⟩
        cases d<;>simp_all [Instr.typeAssert,run_underlying hu]
       | false=>
        simp at h;subst h
        refine ⟨_,k,fun w=>?_⟩
        cases d<;>simp_all [Instr.typeAssert,run_underlying hu]
      ·simp only [hta,decide_false,cond_false] at h
       cases ok with
       | false=>simp at h
       | true=>
        simp at h
        cases hz:Ym P asserted with
        | none=>simp [hz] at h
        | some z=>
         simp [hz] at h;subst h
         refine ⟨_,VR.tupleL (LR.cons (Yf (ZO hz default).2) (LR.cons (.bool false) .nil)),fun w=>?_⟩
         have hz':=(ZO hz w).1
         cases d<;>simp_all [Instr.typeAssert,run_underlying hu]
    ·rename_i e1 e2 e3
     cases e2;cases e3
     generalize hg:evT tmps x=ux at k
     cases k
     cases ok with
     | false=>simp at h
     | true=>
      simp only [cond_true] at h
      cases hz:Ym P asserted with
      | none=>simp [hz] at h
      | some z=>
       simp [hz] at h;subst h
       refine ⟨_,VR.tupleL (LR.cons (Yf (ZO hz default).2) (LR.cons (.bool false) .nil)),fun w=>?_⟩
       have hz':=(ZO hz w).1
       cases d<;>simp_all [Instr.typeAssert,run_underlying hu]
 case slice t x lw hi mx=>
  cases hu:P.underlying t with
  | none=>simp [hu] at h
  | some d=>
   cases d<;>simp only [hu] at h<;>try (cases h;done)
   cases mx with
   | some m=>simp at h
   | none=>
    simp only at h
    cases hx:ev A x with
    | none=>simp [hx] at h
    | some xv=>
     cases hl:evO A lw with
     | none=>simp [hx,hl] at h
     | some l=>
      cases hh:evO A hi with
      | none=>simp [hx,hl,hh] at h
      | some hv=>
       simp only [hx,hl,hh] at h
       obtain ⟨hf,h⟩:=Zc h
       simp only [Bool.and_eq_true] at hf
       cases hp:Zz P (Instr.sliceAt t xv l hv none) with
       | none=>rw [hp] at h;cases h
       | some u=>
        rw [hp] at h
        obtain ⟨hu',h⟩:=Zc h
        cases h
        have same:∀ {q:Option Operand} {l:Option Value},evO A q=some l→l.toList.all flat=true→q.map (evT tmps)=l:=by
         intro q l e ha
         rcases Ze3 hT e with ⟨rfl,e2⟩ | ⟨v0,v1,rfl,e2,kk⟩
         ·exact e2
         ·rw [e2,ZF (by simpa using ha) kk]
        refine ⟨v,Yf hu',fun w=>?_⟩
        rw [ZF hf.1.1 (evR hT hx),same hl hf.1.2,same hh hf.2]
        simp only [Sem.run_bind,Option.map_none,ZT _ hp w];rfl
 case call c=>
  cases hc:c.callee<;>simp only [hc] at h<;>try (cases h;done)
  rename_i b
  cases hvs:evs A c.args.toList with
  | none=>simp [hvs] at h
  | some vs=>
   simp only [hvs] at h
   obtain ⟨q,hr⟩:=yT (yL hT hvs) h
   refine ⟨v,q,fun w=>?_⟩
   have:=hr w
   have e1:(c.args.toList.map (evT tmps)).toArray=c.args.map (evT tmps):=X5 _ _
   rw [e1] at this
   simp only [resolve,hc,Sem.run_bind,Sem.run_pure,Result.andThen_ok,invoke]
   exact this
end
end Go.Ax

namespace Go.Ax
open Go Go.RowKit

def V7 (r:Ren) (d:Nat) (cs:List Value) (C:Array Value):Prop:=∀ (i:Nat) v,cs[i]? = some v→∃ v',C[d+i]? = some v'∧VR r v v'

def TgR (r:Ren):Target→Target→Prop
 | .fn f cap,t=>∃ f' cap',t=.fn f' cap'∧FnR r f f'∧LR r cap.toList cap'.toList
 | .collected b,t=>∃ loc,r b=some loc∧t=.collected loc.blk
 | _,_=>False
def DR (r:Ren) (d d':Deferred):Prop:=TgR r d.target d'.target∧LR r d.args.toList d'.args.toList
inductive DsR (r:Ren):List Deferred→List Deferred→Prop
 | nil:DsR r [] []
 | cons {d d':Deferred} {l l':List Deferred}:DR r d d'→DsR r l l'→DsR r (d :: l) (d' :: l')

theorem TgR.mono {r r':Ren} (h:Ren.Le r r') {t t':Target} (k:TgR r t t'):TgR r' t t':=by
 cases t with
 | fn f cap=>obtain ⟨f',cap',e,a,b⟩:=k;exact ⟨f',cap',e,a.mono h,b.mono h⟩
 | collected b=>obtain ⟨loc,e,q⟩:=k;exact ⟨loc,h _ _ e,q⟩
 | _=>exact k.elim
theorem DR.mono {r r':Ren} (h:Ren.Le r r') {d d':Deferred} (k:DR r d d'):DR r' d d':=⟨k.1.mono h,k.2.mono h⟩
theorem DsR.mono {r r':Ren} (h:Ren.Le r r') {d d':List Deferred} (k:DsR r d d'):DsR r' d d':=by
 induction k with
 | nil=>exact .nil
 | cons a _ ih=>exact .cons (a.mono h) ih
theorem DsR.append {r:Ren} {a a' b b':List Deferred} (h:DsR r a a') (k:DsR r b b'):DsR r (a ++ b) (a' ++ b'):=by
 induction h with
 | nil=>exact k
 | cons x _ ih=>exact .cons x ih

def EsR (r:Ren):List MapEntry→List MapEntry→Prop
 | [],[]=>True
 | x :: l,y :: l'=>(y.key=x.key∧y.born=x.born∧VR r x.val y.val)∧EsR r l l'
 | _,_=>False
theorem EsR.mono {r r':Ren} (h:Ren.Le r r'):∀ {l l':List MapEntry},EsR r l l'→EsR r' l l'
 | [],[],_=>True.intro
 | x :: l,y :: l',k=>⟨⟨k.1.1,k.1.2.1,k.1.2.2.mono h⟩,EsR.mono h k.2⟩
 | [],_ :: _,k=>k.elim
 | _ :: _,[],k=>k.elim
def ObR (P:Program) (r:Ren) (loc:Loc):Ob→Option Obj→Prop
 | .cells cs e lz,o=>∃ C,o=some (.cells C e (0,0))∧V7 r loc.delta cs C∧
   ((lz=false∧loc.loose=none∧loc.delta=0∧C.size=cs.length)∨
    ∃ total sz,lz=true∧loc.loose=some (total,sz)∧C.size=total∧cs.length+loc.delta≤total∧0 < sz∧P.cellsOf e=sz)
 | .lp st pe fn n T ps asg body df,o=>∃ R:Loop,o=some (.loop R)∧R.state=st∧R.pending=pe∧R.fn=fn∧Xk r n T R.tmps∧R.params.toList=ps∧R.assign=asg∧R.body=body∧
   ∃ l,r df=some l∧R.defers=l.blk
 | .dfr none,o=>o=some (.deferred none)
 | .dfr (some ds),o=>∃ ds',o=some (.deferred (some ds'))∧DsR r ds ds'
 | .dead,_=>True
 | .mp es c,o=>o=some (.map es c)
 | .mq es c,o=>∃ es',o=some (.map es' c)∧EsR r es.toList es'.toList
 | .it none s se la,o=>loc.delta=0∧o=some (.mapIter none s se la)
 | .it (some m) s se la,o=>loc.delta=0∧∃ l,r m=some l∧o=some (.mapIter (some l.blk) s se la)
 | .ro cs,o=>loc.loose=none∧∀ (i:Nat) v,cs[i]? = some v→∃ C e f v',o=some (.cells C e f)∧C[loc.delta+i]? = some v'∧VR r v v'

theorem V7.mono {r r':Ren} (h:Ren.Le r r') {d:Nat} {cs:List Value} {C:Array Value} (k:V7 r d cs C):V7 r' d cs C:=
 fun i v e=>let ⟨v',a,b⟩:=k i v e;⟨v',a,b.mono h⟩
theorem ObR.mono {P:Program} {r r':Ren} (h:Ren.Le r r') {loc:Loc} {o:Ob} {x:Option Obj} (k:ObR P r loc o x):ObR P r' loc o x:=by
 cases o with
 | cells cs e lz=>obtain ⟨C,a,b,c⟩:=k;exact ⟨C,a,b.mono h,c⟩
 | lp st pe fn n T ps asg body df=>
  obtain ⟨R,a,b,c,d,e,f,g,i,l,j,q⟩:=k
  exact ⟨R,a,b,c,d,e.mono h,f,g,i,l,h _ _ j,q⟩
 | dfr ds=>cases ds with
  | none=>exact k
  | some ds=>obtain ⟨ds',a,b⟩:=k;exact ⟨ds',a,b.mono h⟩
 | dead=>trivial
 | mp es c=>exact k
 | mq es c=>obtain ⟨es',a,b⟩:=k;exact ⟨es',a,b.mono h⟩
 | it m s se la=>cases m with
  | none=>exact k
  | some m=>obtain ⟨d,l,a,b⟩:=k;exact ⟨d,l,h _ _ a,b⟩
 | ro cs=>exact ⟨k.1,fun i v e=>let ⟨C,e',f,v',a,b,c⟩:=k.2 i v e;⟨C,e',f,v',a,b,c.mono h⟩⟩

def yo:Ob→Bool
 | .ro _=>true
 | _=>false
def Wg (H:Hp) (b:Nat):Prop:=∃ o,H.t.get b=some o∧o≠.dead∧yo o=false
def Dm (base size:Nat) (loc:Loc):Option Ob→Prop
 | some (.ro cs)=>cs=[]∨loc.blk < base
 | _=>base≤loc.blk∧loc.blk < size
theorem Dm.more {base s s':Nat} {loc:Loc} {o:Option Ob} (h:Dm base s loc o) (k:s≤s'):Dm base s' loc o:=by
 cases o with
 | none=>exact ⟨h.1,Nat.lt_of_lt_of_le h.2 k⟩
 | some o=>cases o<;>first | exact h | exact ⟨h.1,Nat.lt_of_lt_of_le h.2 k⟩
theorem Dm.own {base s:Nat} {loc:Loc} {o:Ob} (h:Dm base s loc (some o)) (k:yo o=false):base≤loc.blk∧loc.blk < s:=by
 cases o<;>first | exact h | cases k
theorem Dm.of {base s:Nat} {loc:Loc} {o:Ob} (k:yo o=false) (h:base≤loc.blk∧loc.blk < s):Dm base s loc (some o):=by
 cases o<;>first | exact h | cases k
theorem ObR.keep {P:Program} {r:Ren} {loc:Loc} {o:Ob} {x y:Option Obj} {base s:Nat} (h:ObR P r loc o x) (d:Dm base s loc (some o)) (hb:base≤s) (k:loc.blk < s→y=x):ObR P r loc o y:=by
 cases o with
 | ro cs=>
  rcases d with d | d
  ·subst d;exact ⟨h.1,fun i v e=>by simp at e⟩
  ·rw [k (Nat.lt_of_lt_of_le d hb)];exact h
 | _=>rw [k d.2];exact h

structure Rel (P:Program) (r:Ren) (base:Nat) (H:Hp) (w:World):Prop where
 dom:∀ b loc,r b=some loc→b < H.next∧Dm base w.heap.size loc (H.t.get b)
 cont:∀ b loc o,r b=some loc→H.t.get b=some o→ObR P r loc o w.heap[loc.blk]?
 inj:∀ b b' loc loc',r b=some loc→r b'=some loc'→loc.blk=loc'.blk→Wg H b→Wg H b'→b=b'
 top:base≤w.heap.size

structure Str (w w':World):Prop where
 os:w'.os=w.os
 tape:w'.tape=w.tape
 output:w'.output=w.output
 size:w.heap.size≤w'.heap.size
theorem Str.refl (w:World):Str w w:=⟨rfl,rfl,rfl,Nat.le_refl _⟩
theorem Str.trans {a b c:World} (h:Str a b) (k:Str b c):Str a c:=⟨k.os.trans h.os,k.tape.trans h.tape,k.output.trans h.output,Nat.le_trans h.size k.size⟩

structure Zr (P:Program) (lo base:Nat) (r:Ren) (H:Hp) (w:World) (r':Ren) (H':Hp) (w':World):Prop where
 le:Ren.Le r r'
 rel:Rel P r' base H' w'
 next:H.next≤H'.next
 place:∀ b loc,r' b=some loc→r b=some loc∨(H.next≤b∧((w.heap.size≤loc.blk∧loc.blk < w'.heap.size)∨∃ b0 loc0,r b0=some loc0∧loc0.blk=loc.blk∧lo≤b0))
 keep:∀ k,k < w.heap.size→(∀ b loc,r b=some loc→loc.blk=k→b < lo)→w'.heap[k]? = w.heap[k]?
 old:∀ b,b < lo→H'.t.get b=H.t.get b
 str:Str w w'

section
variable {P:Program} {lo base:Nat} {r:Ren} {H:Hp} {w:World}
theorem Zr.refl (h:Rel P r base H w):Zr P lo base r H w r H w:=⟨.refl r,h,Nat.le_refl _,fun _ _ e=>.inl e,fun _ _ _=>rfl,fun _ _=>rfl,.refl w⟩
theorem Zr.trans {r1 r2:Ren} {H1 H2:Hp} {w1 w2:World} (hlo:lo≤H.next) (h:Zr P lo base r H w r1 H1 w1) (k:Zr P lo base r1 H1 w1 r2 H2 w2):Zr P lo base r H w r2 H2 w2 where
 le:=h.le.trans k.le
 rel:=k.rel
 next:=Nat.le_trans h.next k.next
 place:=fun b loc e=>by
  have hks:=k.str.size
  have up:∀ b loc,(r b=some loc∨(H.next≤b∧((w.heap.size≤loc.blk∧loc.blk < w1.heap.size)∨∃ b0 loc0,r b0=some loc0∧loc0.blk=loc.blk∧lo≤b0)))→(r b=some loc∨(H.next≤b∧((w.heap.size≤loc.blk∧loc.blk < w2.heap.size)∨∃ b0 loc0,r b0=some loc0∧loc0.blk=loc.blk∧lo≤b0))):=fun b loc q=>by
   rcases q with q | ⟨q1,q2 | q2⟩
   ·exact .inl q
   ·exact .inr ⟨q1,.inl ⟨q2.1,by omega⟩⟩
   ·exact .inr ⟨q1,.inr q2⟩
  rcases k.place b loc e with e1 | ⟨e1,e2⟩
  ·exact up _ _ (h.place b loc e1)
  ·refine .inr ⟨Nat.le_trans h.next e1,?_⟩
   rcases e2 with e2 | ⟨b0,loc0,f1,f2,f3⟩
   ·exact .inl ⟨Nat.le_trans h.str.size e2.1,e2.2⟩
   ·rcases up _ _ (h.place b0 loc0 f1) with g | ⟨g1,g2⟩
    ·exact .inr ⟨b0,loc0,g,f2,f3⟩
    ·rw [← f2];exact g2
 keep:=fun q hq hp=>by
  rw [k.keep q (Nat.lt_of_lt_of_le hq h.str.size) ?_,h.keep q hq hp]
  intro b loc e eq
  rcases h.place b loc e with g | ⟨g1,g2⟩
  ·exact hp b loc g eq
  ·rcases g2 with g2 | ⟨b0,loc0,f1,f2,f3⟩
   ·omega
   ·have:=hp b0 loc0 f1 (f2.trans eq)
    omega
 old:=fun b hb=>(k.old b hb).trans (h.old b hb)
 str:=h.str.trans k.str
theorem Zr.lower {r1:Ren} {H1:Hp} {w1:World} {lo':Nat} (h:Zr P lo base r H w r1 H1 w1) (hl:lo'≤lo):Zr P lo' base r H w r1 H1 w1 where
 le:=h.le
 rel:=h.rel
 next:=h.next
 place:=fun b loc e=>by
  rcases h.place b loc e with g | ⟨g1,g2 | ⟨b0,l0,a,b',c⟩⟩
  ·exact .inl g
  ·exact .inr ⟨g1,.inl g2⟩
  ·exact .inr ⟨g1,.inr ⟨b0,l0,a,b',by omega⟩⟩
 keep:=fun k hk hp=>h.keep k hk fun b loc e q=>by have:=hp b loc e q;omega
 old:=fun b hb=>h.old b (by omega)
 str:=h.str
theorem Rel.at (h:Rel P r base H w) {b:Nat} {loc:Loc} {o:Ob} (hr:r b=some loc) (hb:H.t.get b=some o) (k:yo o=false):base≤loc.blk∧loc.blk < w.heap.size:=by
 have:=(h.dom b loc hr).2
 rw [hb] at this
 exact this.own k
theorem Rel.liveAt (h:Rel P r base H w) {b:Nat} {loc:Loc} (hr:r b=some loc) (hl:Wg H b):base≤loc.blk∧loc.blk < w.heap.size:=by
 obtain ⟨o,h1,_,h3⟩:=hl
 exact h.at hr h1 h3
theorem Zr.below {r1:Ren} {H1:Hp} {w1:World} (hrel:Rel P r base H w) (hro:∀ b loc,r b=some loc→b < lo∨base≤loc.blk) (h:Zr P lo base r H w r1 H1 w1):Below base w w1:=
 ⟨h.str.os,h.str.tape,h.str.output,h.str.size,fun k hk=>h.keep k (Nat.lt_of_lt_of_le hk hrel.top) fun b loc e q=>by have:=hro b loc e;omega⟩

theorem Rel.drew (h:Rel P r base H w) (n:Nat):Rel P r base H { w with drawn:=n }:=⟨h.dom,h.cont,h.inj,h.top⟩

theorem Zr.change (h:Rel P r base H w) {b:Nat} {loc:Loc} (hb:r b=some loc) (hl:Wg H b) (hlo:lo≤b) {o:Ob} {w':World} (hs:w'.heap.size=w.heap.size)
  (ho:∀ k,k≠loc.blk→w'.heap[k]? = w.heap[k]?) (hst:w'.os=w.os∧w'.tape=w.tape∧w'.output=w.output) (hR:ObR P r loc o w'.heap[loc.blk]?) (hno:yo o=false:=by rfl) :
  Zr P lo base r H w r { H with t:=H.t.set b o } w' where
 le:=.refl r
 rel:={
  dom:=fun b' l e=>by
   rw [hs]
   refine ⟨(h.dom b' l e).1,?_⟩
   simp only [Tr.get_set]
   by_cases hbb:b'=b
   ·subst hbb
    rw [if_pos rfl]
    rw [hb] at e;cases e
    exact Dm.of hno (h.liveAt hb hl)
   ·rw [if_neg hbb];exact (h.dom b' l e).2
  cont:=fun b' l o' e1 e2=>by
   simp only [Tr.get_set] at e2
   by_cases hbb:b'=b
   ·subst hbb
    rw [if_pos rfl] at e2
    cases e2
    rw [hb] at e1;cases e1
    exact hR
   ·rw [if_neg hbb] at e2
    have hob:=h.cont b' l _ e1 e2
    have hdm:=(h.dom b' l e1).2
    rw [e2] at hdm
    cases o' with
    | dead=>trivial
    | ro cs=>
     have:=(h.liveAt hb hl).1
     rcases hdm with q | q
     ·subst q;exact ⟨hob.1,fun i v e=>by simp at e⟩
     ·rw [ho _ (by omega)];exact hob
    | _=>
     all_goals
      have hne:l.blk≠loc.blk:=fun heq=>hbb (h.inj b' b l loc e1 hb heq ⟨_,e2,by simp,rfl⟩ hl)
      rw [ho _ hne]
      exact hob
  inj:=fun b1 b2 l1 l2 e1 e2 e3 v1 v2=>by
   have key:∀ b',Wg { H with t:=H.t.set b o } b'→Wg H b':=fun b' ⟨o',f1,f2⟩=>by
    simp only [Tr.get_set] at f1
    by_cases hbb:b'=b
    ·subst hbb;exact hl
    ·rw [if_neg hbb] at f1;exact ⟨o',f1,f2⟩
   exact h.inj b1 b2 l1 l2 e1 e2 e3 (key _ v1) (key _ v2)
  top:=by rw [hs];exact h.top }
 next:=Nat.le_refl _
 place:=fun _ _ e=>.inl e
 keep:=fun k hk hp=>ho k (fun e=>by have:=hp b loc hb e.symm;omega)
 old:=fun b' hb'=>by simp only [Tr.get_set];rw [if_neg (by omega)]
 str:=⟨hst.1,hst.2.1,hst.2.2,by omega⟩

def Ren.add (r:Ren) (b:Nat) (loc:Loc):Ren:=fun x=>if x=b then some loc else r x
theorem Ren.add_same (r:Ren) (b:Nat) (loc:Loc):r.add b loc b=some loc:=by simp [Ren.add]
theorem Ren.le_add {r:Ren} {b:Nat} (loc:Loc) (h:r b=none):Ren.Le r (r.add b loc):=fun x l e=>by
 unfold Ren.add
 by_cases hx:x=b
 ·subst hx;rw [h] at e;cases e
 ·rw [if_neg hx];exact e
theorem Rel.none_next (h:Rel P r base H w):r H.next=none:=by
 cases e:r H.next with
 | none=>rfl
 | some loc=>have:=(h.dom _ _ e).1;omega

theorem Zr.fresh (h:Rel P r base H w) (hlo:lo≤H.next) {o:Ob} {x:Obj} {lz:Option (Nat × Nat)} {w':World} (hw:w'.heap=w.heap.push x) (hst:w'.os=w.os∧w'.tape=w.tape∧w'.output=w.output)
  (hR:ObR P (r.add H.next ⟨w.heap.size,0,lz⟩) ⟨w.heap.size,0,lz⟩ o (some x)) (hno:yo o=false:=by rfl):Zr P lo base r H w (r.add H.next ⟨w.heap.size,0,lz⟩) (H.new o) w':=by
 have hn:=h.none_next
 have hle:=Ren.le_add (⟨w.heap.size,0,lz⟩:Loc) hn
 have hsize:w'.heap.size=w.heap.size+1:=by rw [hw];simp
 have hold:∀ k,k < w.heap.size→w'.heap[k]? = w.heap[k]?:=fun k hk=>by rw [hw,Array.getElem?_push,if_neg (by omega)]
 have hnew:w'.heap[w.heap.size]? = some x:=by rw [hw];simp
 have part:∀ b loc,r.add H.next ⟨w.heap.size,0,lz⟩ b=some loc→(b=H.next∧loc=⟨w.heap.size,0,lz⟩)∨(b≠H.next∧r b=some loc):=fun b loc e=>by
  unfold Ren.add at e
  by_cases hb:b=H.next
  ·rw [if_pos hb] at e;cases e;exact .inl ⟨hb,rfl⟩
  ·rw [if_neg hb] at e;exact .inr ⟨hb,e⟩
 have hbase:=h.top
 refine ⟨hle,⟨?_,?_,?_,by omega⟩,Nat.le_succ _,?_,fun k hk _=>hold k hk,?_,⟨hst.1,hst.2.1,hst.2.2,by omega⟩⟩
 ·intro b loc e
  rw [hsize]
  simp only [Hp.new,Tr.get_set]
  rcases part b loc e with ⟨rfl,rfl⟩ | ⟨hb,e⟩
  ·rw [if_pos rfl]
   exact ⟨Nat.lt_succ_self _,Dm.of hno ⟨hbase,Nat.lt_succ_self _⟩⟩
  ·have:=h.dom b loc e
   rw [if_neg hb]
   exact ⟨Nat.lt_succ_of_lt this.1,this.2.more (Nat.le_succ _)⟩
 ·intro b loc o' e e2
  simp only [Hp.new,Tr.get_set] at e2
  rcases part b loc e with ⟨rfl,rfl⟩ | ⟨hb,e⟩
  ·rw [if_pos rfl] at e2;cases e2
   rw [hnew];exact hR
  ·rw [if_neg hb] at e2
   have hdm:=(h.dom b loc e).2
   rw [e2] at hdm
   exact ((h.cont b loc o' e e2).keep hdm hbase (hold _)).mono hle
 ·intro b1 b2 l1 l2 e1 e2 e3 v1 v2
  have key:∀ b',b'≠H.next→Wg (H.new o) b'→Wg H b':=fun b' hb' ⟨o',f1,f2⟩=>by
   simp only [Hp.new,Tr.get_set] at f1
   rw [if_neg hb'] at f1;exact ⟨o',f1,f2⟩
  rcases part b1 l1 e1 with ⟨rfl,rfl⟩ | ⟨hb1,e1⟩
  ·rcases part b2 l2 e2 with ⟨rfl,rfl⟩ | ⟨hb2,e2⟩
   ·rfl
   ·have:=(h.liveAt e2 (key _ hb2 v2)).2
    simp only at e3;omega
  ·rcases part b2 l2 e2 with ⟨rfl,rfl⟩ | ⟨hb2,e2⟩
   ·have:=(h.liveAt e1 (key _ hb1 v1)).2
    simp only at e3;omega
   ·exact h.inj b1 b2 l1 l2 e1 e2 e3 (key _ hb1 v1) (key _ hb2 v2)
 ·intro b loc e
  rcases part b loc e with ⟨rfl,rfl⟩ | ⟨hb,e⟩
  ·exact .inr ⟨Nat.le_refl _,.inl ⟨Nat.le_refl _,by rw [hsize];exact Nat.lt_succ_self _⟩⟩
  ·exact .inl e
 ·intro b hb
  simp only [Hp.new,Tr.get_set];rw [if_neg (by omega)]

theorem Zr.move (h:Rel P r base H w) (hlo:lo≤H.next) {b:Nat} {loc:Loc} (hb:r b=some loc) (hl:Wg H b) (hlb:lo≤b) {o:Ob} {d:Nat} {w':World} (hs:w'.heap.size=w.heap.size)
  (ho:∀ k,k≠loc.blk→w'.heap[k]? = w.heap[k]?) (hst:w'.os=w.os∧w'.tape=w.tape∧w'.output=w.output)
  (hR:ObR P (r.add H.next ⟨loc.blk,d,loc.loose⟩) ⟨loc.blk,d,loc.loose⟩ o w'.heap[loc.blk]?) (hno:yo o=false:=by rfl) :
  Zr P lo base r H w (r.add H.next ⟨loc.blk,d,loc.loose⟩) ({ H with t:=H.t.set b .dead }.new o) w':=by
 have hn:=h.none_next
 have hle:=Ren.le_add (⟨loc.blk,d,loc.loose⟩:Loc) hn
 have hbn:b≠H.next:=fun e=>by have:=(h.dom _ _ hb).1;omega
 have part:∀ b' l,r.add H.next ⟨loc.blk,d,loc.loose⟩ b'=some l→(b'=H.next∧l=⟨loc.blk,d,loc.loose⟩)∨(b'≠H.next∧r b'=some l):=fun b' l e=>by
  unfold Ren.add at e
  by_cases hb':b'=H.next
  ·rw [if_pos hb'] at e;cases e;exact .inl ⟨hb',rfl⟩
  ·rw [if_neg hb'] at e;exact .inr ⟨hb',e⟩
 have get:∀ b',b'≠H.next→({ H with t:=H.t.set b .dead }.new o).t.get b'=if b'=b then some .dead else H.t.get b':=fun b' hb'=>by
  simp only [Hp.new,Tr.get_set];rw [if_neg hb']
 have key:∀ b',b'≠H.next→Wg ({ H with t:=H.t.set b .dead }.new o) b'→b'≠b∧Wg H b':=fun b' hb' ⟨o',f1,f2⟩=>by
  rw [get b' hb'] at f1
  by_cases hbb:b'=b
  ·rw [if_pos hbb] at f1;cases f1;exact absurd rfl f2.1
  ·rw [if_neg hbb] at f1;exact ⟨hbb,o',f1,f2⟩
 have hbase:=h.top
 refine ⟨hle,⟨?_,?_,?_,by omega⟩,Nat.le_succ _,?_,?_,?_,⟨hst.1,hst.2.1,hst.2.2,by omega⟩⟩
 ·intro b' l e
  rw [hs]
  rcases part b' l e with ⟨rfl,rfl⟩ | ⟨hb',e⟩
  ·refine ⟨Nat.lt_succ_self _,?_⟩
   simp only [Hp.new,Tr.get_set]
   rw [if_pos trivial]
   have q:=h.liveAt hb hl
   exact Dm.of (loc:=⟨loc.blk,d,loc.loose⟩) hno q
  ·have:=h.dom b' l e
   refine ⟨Nat.lt_succ_of_lt this.1,?_⟩
   rw [get b' hb']
   by_cases hbb:b'=b
   ·rw [if_pos hbb]
    subst hbb
    rw [hb] at e;cases e
    exact h.liveAt hb hl
   ·rw [if_neg hbb];exact this.2
 ·intro b' l o' e e2
  rcases part b' l e with ⟨rfl,rfl⟩ | ⟨hb',e⟩
  ·simp only [Hp.new,Tr.get_set] at e2
   rw [if_pos trivial] at e2;cases e2
   exact hR
  ·rw [get b' hb'] at e2
   by_cases hbb:b'=b
   ·rw [if_pos hbb] at e2;cases e2;trivial
   ·rw [if_neg hbb] at e2
    have hob:=h.cont b' l _ e e2
    have hdm:=(h.dom b' l e).2
    rw [e2] at hdm
    cases o' with
    | dead=>trivial
    | ro cs=>
     refine ObR.mono hle ?_
     have:=(h.liveAt hb hl).1
     rcases hdm with q | q
     ·subst q;exact ⟨hob.1,fun i v e=>by simp at e⟩
     ·rw [ho _ (by omega)];exact hob
    | _=>
     all_goals
      have hne:l.blk≠loc.blk:=fun heq=>hbb (h.inj b' b l loc e hb heq ⟨_,e2,by simp,rfl⟩ hl)
      rw [ho _ hne]
      exact hob.mono hle
 ·intro b1 b2 l1 l2 e1 e2 e3 v1 v2
  rcases part b1 l1 e1 with ⟨rfl,rfl⟩ | ⟨hb1,e1⟩
  ·rcases part b2 l2 e2 with ⟨rfl,rfl⟩ | ⟨hb2,e2⟩
   ·rfl
   ·obtain ⟨q1,q2⟩:=key _ hb2 v2
    exact absurd (h.inj b2 b l2 loc e2 hb e3.symm q2 hl) q1
  ·obtain ⟨q1,q2⟩:=key _ hb1 v1
   rcases part b2 l2 e2 with ⟨rfl,rfl⟩ | ⟨hb2,e2⟩
   ·exact absurd (h.inj b1 b l1 loc e1 hb e3 q2 hl) q1
   ·exact h.inj b1 b2 l1 l2 e1 e2 e3 q2 (key _ hb2 v2).2
 ·intro b' l e
  rcases part b' l e with ⟨rfl,rfl⟩ | ⟨hb',e⟩
  ·exact .inr ⟨Nat.le_refl _,.inr ⟨b,loc,hb,rfl,hlb⟩⟩
  ·exact .inl e
 ·intro k hk hp
  exact ho k (fun e=>by have:=hp b loc hb e.symm;omega)
 ·intro b' hb'
  rw [get b' (by omega),if_neg (by omega)]
end
end Go.Ax

namespace Go.Ax
open Go Go.RowKit

theorem Jm:∀ (vs:List Value) (cs:List Value) (i k:Nat),(Yk cs i vs)[k]? = if i≤k∧k < i+vs.length then (if k < cs.length then vs[k - i]? else none) else cs[k]?
 | [],cs,i,k=>by
  have:¬ (i≤k∧k < i+0):=by omega
  simp [Yk]
  intro h1 h2;omega
 | v :: vs,cs,i,k=>by
  rw [Yk,Jm vs (cs.set i v) (i+1) k]
  by_cases h1:i+1≤k∧k < i+1+vs.length
  ·have h2:i≤k∧k < i+(v :: vs).length:=by simp;omega
   rw [if_pos h1,if_pos h2]
   simp only [List.length_set]
   have:k - i=(k - (i+1))+1:=by omega
   rw [this,List.getElem?_cons_succ]
  ·rw [if_neg h1,List.getElem?_set]
   by_cases hk:i=k
   ·subst hk
    have h2:i≤i∧i < i+(v :: vs).length:=by simp
    simp
   ·have h2:¬ (i≤k∧k < i+(v :: vs).length):=by simp;omega
    rw [if_neg hk,if_neg h2]

def laid (C:Array Value) (o:Nat) (vs:List Value):Array Value:=(C.toList.take o ++ vs ++ C.toList.drop (o+vs.length)).toArray
theorem U2 {C:Array Value} {o:Nat} {vs:List Value} (h:o+vs.length≤C.size):(laid C o vs).size=C.size:=by
 simp [laid];omega
theorem UF {C:Array Value} {o:Nat} {vs:List Value} (h:o+vs.length≤C.size) (k:Nat):(laid C o vs)[k]? = if o≤k∧k < o+vs.length then vs[k - o]? else C[k]?:=by
 unfold laid
 rw [List.getElem?_toArray,List.append_assoc]
 have hl:(C.toList.take o).length=o:=by simp;omega
 by_cases h1:k < o
 ·have:¬ (o≤k∧k < o+vs.length):=by omega
  rw [if_neg this,List.getElem?_append_left (by omega),List.getElem?_take,if_pos h1]
  simp
 ·rw [List.getElem?_append_right (by omega),hl]
  by_cases h2:k < o+vs.length
  ·rw [if_pos ⟨by omega,h2⟩,List.getElem?_append_left (by omega)]
  ·have:¬ (o≤k∧k < o+vs.length):=by omega
   rw [if_neg this,List.getElem?_append_right (by omega),List.getElem?_drop]
   have:o+vs.length+(k - o - vs.length)=k:=by omega
   rw [this];simp

theorem zN {r:Ren} {d:Nat} {cs:List Value} {C:Array Value} (h:V7 r d cs C) {vs vs':List Value} (k:LR r vs vs') (i:Nat) (hfit:d+i+vs'.length≤C.size) :
  V7 r d (Yk cs i vs) (laid C (d+i) vs'):=by
 intro j v e
 rw [Jm] at e
 rw [UF hfit]
 have hl:=k.1
 by_cases hj:i≤j∧j < i+vs.length
 ·rw [if_pos hj] at e
  have h2:d+i≤d+j∧d+j < d+i+vs'.length:=by omega
  rw [if_pos h2]
  split at e
  ·obtain ⟨v',e',q⟩:=k.get e
   have:d+j - (d+i)=j - i:=by omega
   rw [this]
   exact ⟨v',e',q⟩
  ·cases e
 ·rw [if_neg hj] at e
  have h2:¬ (d+i≤d+j∧d+j < d+i+vs'.length):=by omega
  rw [if_neg h2]
  exact h j v e

theorem ZdG {r:Ren} {v v':Value} (h:one v=true) (k:VR r v v'):v'.oneCell'=true:=by
 cases k<;>first | rfl | (simp [one] at h)
theorem V0 {r:Ren}:∀ {vs vs':List Value},vs.all one=true→LR r vs vs'→∀ v∈vs',v.oneCell'=true
 | [],vs',_,k=>by rw [k.of_nil];simp
 | v :: vs,vs',h,k=>by
  obtain ⟨u,us,rfl,hu,hus⟩:=k.of_cons
  simp only [List.all_cons,Bool.and_eq_true] at h
  intro x hx
  cases hx with
  | head=>exact ZdG h.1 hu
  | tail _ hx=>exact V0 h.2 hus x hx

section
variable {P:Program} {lo base:Nat} {r:Ren} {H:Hp} {w:World}
theorem Ve (h:Rel P r base H w) {b:Nat} {loc:Loc} {cs:List Value} {e:TypeId} {lz:Bool} (hr:r b=some loc) (hb:H.t.get b=some (.cells cs e lz)):ObR P r loc (.cells cs e lz) w.heap[loc.blk]?:=h.cont b loc _ hr hb

theorem QX {loc : Loc} {cs : List Value} {e : TypeId} {lz : Bool} {C : Array Value} (h : (lz = false ∧ loc.loose = none ∧ loc.delta = 0 ∧ C.size = cs.length) ∨
        ∃ total sz, lz = true ∧ loc.loose = some (total, sz) ∧ C.size = total ∧ cs.length + loc.delta ≤ total ∧ 0 < sz ∧ P.cellsOf e = sz) : cs.length + loc.delta ≤ C.size := by
  rcases h with ⟨_, _, h1, h2⟩ | ⟨t, s, _, _, h1, h2, _⟩ <;> omega

theorem Va (w:World) (g:Nat) (C:Array Value) (k:Nat) (h:k≠g):(w.setRow g C).heap[k]? = w.heap[k]?:=by
 simp only [World.setRow,Array.getElem?_modify]
 rw [if_neg (by omega)]
theorem VB (w:World) (g:Nat) (C:Array Value):(w.setRow g C).heap.size=w.heap.size:=by simp [World.setRow]

theorem Zr.put (h:Rel P r base H w) {b:Nat} {loc:Loc} {cs:List Value} {e:TypeId} {lz:Bool} {C:Array Value} (hr:r b=some loc) (hb:H.t.get b=some (.cells cs e lz)) (hlo:lo≤b)
  (hC:w.heap[loc.blk]? = some (.cells C e (0,0))) {vs vs':List Value} (k:LR r vs vs') (i:Nat) (hfit:i+vs.length≤cs.length) :
  Zr P lo base r H w r { H with t:=H.t.set b (.cells (Yk cs i vs) e lz) } (w.setRow loc.blk (laid C (loc.delta+i) vs')):=by
 obtain ⟨C0,e0,hc,hz⟩:=Ve h hr hb
 rw [hC] at e0;cases e0
 have hfits:=QX hz
 have hlen:=k.1
 refine Zr.change h hr ⟨_,hb,by simp,rfl⟩ hlo (VB _ _ _) (fun q hq=>Va _ _ _ _ hq) ⟨rfl,rfl,rfl⟩ ?_
 refine ⟨laid C (loc.delta+i) vs',setRow_heap w _ C _ e _ hC,zN hc k i (by omega),?_⟩
 rw [VY,U2 (by omega)]
 exact hz

theorem YU (g o n:Nat):(⟨g,o,none⟩:Addr).add n=⟨g,o+n,none⟩:=by
 unfold Addr.add;split<;>simp_all
theorem KG (w:World) {g:Nat} {C:Array Value} {e:TypeId} {f:Nat × Nat} (h:w.heap[g]? = some (.cells C e f)) (o:Nat):w.cell? ⟨g,o,none⟩=C[o]?:=by
 simp [World.cell?,h]

def K2:Ob→Option (List Value)
 | .cells cs _ _=>some cs
 | .ro cs=>some cs
 | _=>none
theorem JD {H:Hp} {b:Nat} {cs:List Value} (h:cellsOf H b=some cs):∃ ob,H.t.get b=some ob∧K2 ob=some cs:=by
 unfold cellsOf at h
 split at h<;>first | (cases h;done) | skip
 ·rename_i e l hg;cases h;exact ⟨_,hg,rfl⟩
 ·rename_i hg;cases h;exact ⟨_,hg,rfl⟩
theorem qT {loc:Loc} {ob:Ob} {cs:List Value} (hk:K2 ob=some cs) (hc:ObR P r loc ob w.heap[loc.blk]?) (i:Nat) (v:Value) (e:cs[i]? = some v):∃ v',w.cell? ⟨loc.blk,loc.delta+i,none⟩=some v'∧VR r v v':=by
 cases ob with
 | cells cs' e' lz=>
  cases hk
  obtain ⟨C,hC,hcells,_⟩:=hc
  obtain ⟨v',a,b⟩:=hcells i v e
  exact ⟨v',by rw [KG w hC];exact a,b⟩
 | ro cs'=>
  cases hk
  obtain ⟨C,e',f,v',a,b,c⟩:=hc.2 i v e
  exact ⟨v',by rw [KG w a];exact b,c⟩
 | _=>cases hk
theorem z4 {F:Nat→Option Value}:∀ (l:List Value),(∀ (i:Nat) v,l[i]? = some v→∃ v',F i=some v'∧VR r v v')→∃ L:List Value,LR r l L∧∀ (j:Nat) u,L[j]? = some u→F j=some u
 | [],_=>⟨[],.nil,fun j u h=>by simp at h⟩
 | v :: l,h=>by
  obtain ⟨v',a,b⟩:=h 0 v rfl
  obtain ⟨L,c,d⟩:=z4 (F:=fun i=>F (i+1)) l fun i u e=>h (i+1) u (by simpa using e)
  refine ⟨v' :: L,.cons b c,fun j u e=>?_⟩
  cases j with
  | zero=>simp at e;subst e;exact a
  | succ j=>exact d j u (by simpa using e)
theorem Zcm {loc:Loc} {ob:Ob} {cs l:List Value} {n off:Nat} (hk:K2 ob=some cs) (hc:ObR P r loc ob w.heap[loc.blk]?) (hrow:row n cs off=some l) :
  ∃ L:List Value,LR r l L∧L.length=n∧∀ (j:Nat) u,L[j]? = some u→w.cell? ((⟨loc.blk,off+loc.delta,none⟩:Addr).add j)=some u:=by
 obtain ⟨e1,hl⟩:=Uu hrow
 obtain ⟨L,a,b⟩:=z4 (r:=r) (F:=fun j=>w.cell? ((⟨loc.blk,off+loc.delta,none⟩:Addr).add j)) l fun i v e=>by
  rw [e1,List.getElem?_take] at e
  split at e
  ·rw [List.getElem?_drop] at e
   obtain ⟨v',f1,f2⟩:=qT hk hc _ v e
   refine ⟨v',?_,f2⟩
   rw [YU]
   have:off+loc.delta+i=loc.delta+(off+i):=by omega
   rw [this];exact f1
  ·cases e
 exact ⟨L,a,by rw [← a.1,hl],b⟩

theorem QW {t:TypeId} {a:Addr} {v:Value} (h:WS P H t a=some v):∃ ob,H.t.get a.block=some ob:=by
 unfold WS at h
 cases hcs:cellsOf H a.block with
 | none=>simp [hcs] at h
 | some cs=>exact ⟨_,(JD hcs).choose_spec.1⟩
theorem yX {t:TypeId} {a:Addr} {v:Value} {ob:Ob} {loc:Loc} (hget:H.t.get a.block=some ob) (h:WS P H t a=some v) (hr:r a.block=some loc)
  (hc:ObR P r loc ob w.heap[loc.blk]?):∃ v',VR r v v'∧(loadVar t ⟨loc.blk,a.off+loc.delta,none⟩).run P w=.ok v' w:=by
 unfold WS at h
 cases hcs:cellsOf H a.block with
 | none=>simp [hcs] at h
 | some cs=>
 obtain ⟨ob',hg',hk⟩:=JD hcs
 rw [hget] at hg';cases hg'
 simp only [hcs] at h
 cases hs:a.spot with
 | some s=>simp [hs] at h
 | none=>
  cases ha:XO P t with
  | none=>simp [hs,ha] at h
  | some b=>
   cases b with
   | true=>
    simp only [hs,ha] at h
    cases hi:P.info? t with
    | none=>simp [hi] at h
    | some i=>
     simp only [hi] at h
     cases hrow:row i.size cs a.off with
     | none=>simp [hrow] at h
     | some l=>
      simp [hrow] at h;subst h
      obtain ⟨L,hLR,hLlen,hL⟩:=Zcm (w:=w) hk hc hrow
      refine ⟨_,VR.aggL hLR,?_⟩
      have hrun:=run_loadCells_list (P:=P) w ⟨loc.blk,a.off+loc.delta,none⟩ L hL
      rw [hLlen] at hrun
      simp [loadVar,QI ha,ZI hi,hrun]
   | false=>
    simp only [hs,ha] at h
    obtain ⟨v',f1,f2⟩:=qT hk hc _ v h
    refine ⟨v',f2,?_⟩
    have hcell:w.cell? ⟨loc.blk,a.off+loc.delta,none⟩=some v':=by
     rw [Nat.add_comm];exact f1
    simp [loadVar,QI ha,hcell]

theorem Zbj (h:Rel P r base H w) {t:TypeId} {a:Addr} {v v':Value} {H':Hp} {loc:Loc} (hr:r a.block=some loc) (k:VR r v v') (he:Ud P lo H t a v=some H') :
  ∃ w',(storeVar t ⟨loc.blk,a.off+loc.delta,none⟩ v').run P w=.ok () w'∧Zr P lo base r H w r H' w'∧∃ cs e lz,H.t.get a.block=some (.cells cs e lz)∧∃ cs',H' = { H with t:=H.t.set a.block (.cells cs' e lz) }:=by
 unfold Ud at he
 cases hget:H.t.get a.block with
 | none=>simp [hget] at he
 | some o=>
  cases o<;>simp only [hget] at he<;>try (cases he;done)
  rename_i cs e lz
  cases hs:a.spot with
  | some s=>simp [hs] at he
  | none=>
   cases hi:P.info? t with
   | none=>simp [hs,hi] at he
   | some i=>
    simp only [hs,hi] at he
    obtain ⟨hb,he⟩:=Zc he
    cases he
    simp only [Bool.and_eq_true,ZA,decide_eq_true_eq] at hb
    obtain ⟨⟨⟨h1,h2⟩,h3⟩,h4⟩:=hb
    have h1:=Nat.le_of_ble_eq_true h1
    have h3:=Nat.le_of_ble_eq_true h3
    obtain ⟨C,hC,hcells,hz⟩:=Ve h hr hget
    have hfits:=QX hz
    have hcl:=k.cells
    have hlen:v'.cells.toList.length=i.size:=by rw [← hcl.1];exact h2
    have hp:=Zr.put (lo:=lo) h hr hget h1 hC hcl a.off (by omega)
    refine ⟨_,?_,hp,cs,e,lz,rfl,_,rfl⟩
    have hst:=run_storeCells_at P loc.blk (a.off+loc.delta) e v'.cells.toList 0 C w hC (by omega) (V0 h4 hcl)
    have hsz:v'.cells.size=i.size:=by simpa using hlen
    have hD:a.off+loc.delta=loc.delta+a.off:=by omega
    rw [hD] at hst ⊢
    simp only [Nat.add_zero] at hst
    simp only [storeVar,Sem.run_bind,ZI hi,Result.andThen_ok,hsz,ne_eq,not_true_eq_false,if_false]
    exact hst
end
end Go.Ax

namespace Go.Ax
open Go Go.RowKit

theorem Yu (z:List Value):∀ n,(ZL z n).length=n * z.length
 | 0=>by simp [ZL]
 | n+1=>by simp [ZL,Yu z n,Nat.add_mul,Nat.add_comm]
theorem KC (z:List Value):∀ (n i:Nat),i < n * z.length→(ZL z n)[i]? = z[i % z.length]?
 | 0,i,h=>by simp at h
 | n+1,i,h=>by
  rw [ZL]
  by_cases hi:i < z.length
  ·rw [List.getElem?_append_left hi,Nat.mod_eq_of_lt hi]
  ·have h2:i - z.length < n * z.length:=by rw [Nat.add_mul] at h;omega
   rw [List.getElem?_append_right (by omega),KC z n _ h2]
   congr 1
   rw [Nat.mod_eq_sub_mod (a:=i) (by omega)]
theorem Xa (z:Array Value) (n:Nat):((Array.range (n * z.size)).map fun i=>z[i % z.size]!)=(ZL z.toList n).toArray:=by
 apply Array.ext_getElem?
 intro i
 by_cases hi:i < n * z.size
 ·have e1:(ZL z.toList n).toArray[i]? = z.toList[i % z.toList.length]?:=by rw [List.getElem?_toArray];exact KC _ _ _ (by simpa using hi)
  rw [e1]
  have hz:0 < z.size:=by
   rcases Nat.eq_zero_or_pos z.size with h | h
   ·rw [h] at hi;simp at hi
   ·exact h
  have hm:i % z.size < z.size:=Nat.mod_lt _ hz
  simp [hi,hm]
 ·rw [Array.getElem?_eq_none (by simp;omega),List.getElem?_toArray,List.getElem?_eq_none (by rw [Yu];simp;omega)]

theorem WT {r:Ren} {z:List Value} (h:LR r z z):∀ n,LR r (ZL z n) (ZL z n)
 | 0=>LR.nil
 | n+1=>LR.append h (WT h n)

section
variable {P:Program} {lo base:Nat} {r:Ren} {H:Hp} {w:World}

theorem Z8 (e:TypeId) (C:Array Value) (w:World):(newRow e C).run P w=.ok ⟨w.heap.size,0,none⟩ (w.alloc (.cells C e)):=by
 rfl

theorem Kz {d:Nat} {cs:List Value} {C:Array Value} (k:LR r cs C.toList) (hd:d=0):V7 r d cs C:=by
 subst hd
 intro i v e
 obtain ⟨v',e',q⟩:=k.get e
 exact ⟨v',by simpa using e',q⟩

theorem Zr.exact_ (h:Rel P r base H w) (hlo:lo≤H.next) {cs:List Value} {C:Array Value} {e:TypeId} (k:LR r cs C.toList) :
  Zr P lo base r H w (r.add H.next ⟨w.heap.size,0,none⟩) (H.new (.cells cs e false)) (w.alloc (.cells C e)):=by
 have hle:=Ren.le_add (⟨w.heap.size,0,none⟩:Loc) h.none_next
 exact Zr.fresh h hlo rfl ⟨rfl,rfl,rfl⟩ ⟨C,rfl,Kz (k.mono hle) rfl,.inl ⟨rfl,rfl,rfl,by have:=k.1;simpa using this.symm⟩⟩
theorem Zr.loose_ (h:Rel P r base H w) (hlo:lo≤H.next) {cs rest:List Value} {C:Array Value} {e:TypeId} {total sz:Nat} (k:LR r cs C.toList) (hsz:0 < sz) (hc:P.cellsOf e=sz) (ht:C.size+rest.length=total) :
  Zr P lo base r H w (r.add H.next ⟨w.heap.size,0,some (total,sz)⟩) (H.new (.cells cs e true)) (w.alloc (.cells (C ++ rest.toArray) e)):=by
 have hle:=Ren.le_add (⟨w.heap.size,0,some (total,sz)⟩:Loc) h.none_next
 have hl:=k.1
 refine Zr.fresh h hlo rfl ⟨rfl,rfl,rfl⟩ ⟨C ++ rest.toArray,rfl,?_,.inr ⟨total,sz,rfl,rfl,by simpa using ht,by simp at hl ⊢;omega,hsz,hc⟩⟩
 intro i v e
 obtain ⟨v',e',q⟩:=(k.mono hle).get e
 refine ⟨v',?_,q⟩
 have hi:i < C.size:=by
  rcases Nat.lt_or_ge i C.size with h | h
  ·exact h
  ·rw [List.getElem?_eq_none (by simpa using h)] at e';cases e'
 simp only [Nat.zero_add]
 rw [Array.getElem?_append_left hi]
 simpa using e'

theorem ZU {t e:TypeId} {size:Nat} (h:ZZ P t=some (e,size)) :
  P.underlying t=some (.slice e)∧0 < size∧P.cellsOf e=size∧∃ i z,P.info? e=some i∧i.size=size∧i.bytes≤1048576∧Ym P e=some z∧z.cells.size=size:=by
 unfold ZZ at h
 cases hu:P.underlying t with
 | none=>simp [hu] at h
 | some d=>
  cases d<;>simp only [hu] at h<;>try (cases h;done)
  rename_i e'
  cases hi:P.info? e' with
  | none=>simp [hi] at h
  | some i=>
   cases hz:Ym P e' with
   | none=>simp [hi,hz] at h
   | some z=>
    simp only [hi,hz] at h
    cases hb:(Nat.beq i.size 0 || !(Nat.beq z.cells.toList.length i.size) || !(Nat.ble i.bytes 1048576)) with
    | true=>rw [hb] at h;cases h
    | false=>
     rw [hb] at h
     simp only [cond_false] at h
     cases h
     simp only [ZA,Bool.or_eq_false_iff,Bool.not_eq_false',decide_eq_false_iff_not,decide_eq_true_eq] at hb
     obtain ⟨⟨h1,h2⟩,h3⟩:=hb
     have h3:=Nat.le_of_ble_eq_true h3
     refine ⟨rfl,by omega,?_,i,z,hi,rfl,h3,hz,by simpa using h2⟩
     simp [Program.cellsOf,hi]

theorem ZaF (h:Rel P r base H w) {size n:Nat} {x x':Value} {news:List Value} (k:VR r x x') (hs:Xm H size x=some (n,news)) :
  ∃ L:List Value,LR r news L∧(Builtin.lenOf x').run P w=.ok n w∧(∀ w':World,w'.heap=w.heap→(Builtin.firstCells size n x').run P w'=.ok L.toArray w')∧L.length=n * size:=by
 unfold Xm at hs
 split at hs
 ·rename_i n' c
  obtain ⟨hb,hs⟩:=Zc hs
  cases hs
  cases k
  exact ⟨[],LR.nil,rfl,fun _ _=>rfl,by simp⟩
 ·rename_i a n' c
  split at hs<;>first | (cases hs;done) | skip
  rotate_left
  ·rename_i sp h1
   obtain ⟨hb,hs⟩:=Zc hs
   cases hs
   rw [ZA] at hb
   have hb:=of_decide_eq_true hb
   subst hb
   cases k with
   | slice e l q=>cases h1
   | loose e l a b=>cases h1
   | weird _=>exact ⟨[],LR.nil,rfl,fun w' _=>by simp [Builtin.firstCells,loadCells,loadCellsFrom],by simp⟩
  rename_i cs h1 h2
  cases hrow:row (n' * size) cs a.off with
  | none=>simp [hrow] at hs
  | some l=>
   simp [hrow] at hs
   obtain ⟨rfl,rfl⟩:=hs
   obtain ⟨loc,c',e1,e2,e3,_⟩:=Xq k (.inl h1)
   obtain ⟨ob,hg,hk⟩:=JD h2
   have hOb:=h.cont _ _ _ e1 hg
   obtain ⟨L,hLR,hLlen,hL⟩:=Zcm (w:=w) hk hOb hrow
   refine ⟨L,hLR,by rw [e3];rfl,fun w' hw=>?_,hLlen⟩
   rw [e3]
   have hrun:=run_loadCells_list (P:=P) w' ⟨loc.blk,a.off+loc.delta,none⟩ L (fun j u hj=>by
    have:=hL j u hj
    unfold World.cell? at this ⊢
    rw [hw];exact this)
   rw [hLlen] at hrun
   exact hrun
 ·cases hs

theorem Kj (need:Nat):∀ (k c B:Nat),c≤B→need+(need+768) / 4≤B→Builtin.growBy need k c≤B
 | 0,c,B,h,_=>h
 | k+1,c,B,h,hB=>by
  unfold Builtin.growBy
  split
  ·exact h
  ·exact Kj need k _ B (by omega) hB
theorem y7 {need old:Nat} (h:old < need) (hn:need≤1048576):Builtin.nextslicecap need old≤4194304:=by
 unfold Builtin.nextslicecap
 split
 ·omega
 ·split
  ·omega
  ·exact Kj need 4 old _ (by omega) (by omega)

theorem UJ {sT xT ty e:TypeId} {i:TypeInfo} {z:Value} {s x:Value} {b:Option Addr} {len cap n size:Nat} {old news:List Value} (hu:P.underlying sT=some (.slice e)) (hi:P.info? e=some i) (hsz:i.size=size) (hb:i.bytes≤1048576)
  (hz:∀ w,(zeroValue e).run P w=.ok z w) (hzs:z.cells.size=size) (hs:s=.slice b len cap) (hgrow:¬ len+n≤cap) (hneed:len+n≤1048576)
  (hold:∀ w':World,w'.heap=w.heap→(Builtin.firstCells size len s).run P w'=.ok old.toArray w')
  (hx:(∃ e1,P.underlying xT=some (.slice e1)∧(Builtin.lenOf x).run P w=.ok n w∧∀ w':World,w'.heap=w.heap→(Builtin.firstCells size n x).run P w'=.ok news.toArray w')∨
   (∃ k kx,P.underlying xT=some (.int k)∧x=.int kx n∧news=ZL z.cells.toList n)) :
  ∃ newCap w',(Builtin.append_ #[sT,xT] ty #[s,x]).run P w=.ok (.slice (some ⟨w.heap.size,0,none⟩) (len+n) newCap) w'∧len+n≤newCap∧
   w'=({ w with drawn:=w.drawn+1 }:World).alloc (.cells ((old.toArray ++ news.toArray) ++ (ZL z.cells.toList (newCap - (len+n))).toArray) e):=by
 have hcap:=y7 (need:=len+n) (old:=cap) (by omega) hneed
 have h2:¬ (Builtin.nextslicecap (len+n) cap * i.bytes > 2 ^ 48):=by
  have:Builtin.nextslicecap (len+n) cap * i.bytes≤4194304 * 1048576:=Nat.mul_le_mul hcap hb
  omega
 have h1:¬ (((len+n:Nat):Int) > IntKind.i64.max):=by
  have:IntKind.i64.max=9223372036854775807:=by decide
  rw [this];omega
 have hroom:∀ (k:Nat) (w:World),(askRoom k).run P w=.ok () w:=fun k w=>by
  unfold askRoom;split<;>rfl
 have hchoose:∀ w:World,(choose (.appendCap (len+n) cap e)).run P w=.ok ((Question.appendCap (len+n) cap e).cut (w.tape w.drawn (.appendCap (len+n) cap e))) { w with drawn:=w.drawn+1 }:=fun w=>by
  simp [choose,Sem.run,Question.forced]
 generalize hcc:(Question.appendCap (len+n) cap e).cut (w.tape w.drawn (.appendCap (len+n) cap e))=newCap
 have hge:len+n≤newCap:=by rw [← hcc];simp only [Question.cut];omega
 refine ⟨newCap,_,?_,hge,rfl⟩
 have hzr:Builtin.zeroCells z.cells (newCap - (len+n))=(ZL z.cells.toList (newCap - (len+n))).toArray:=by
  unfold Builtin.zeroCells;exact Xa _ _
 subst hs
 rcases hx with ⟨e1,hd,hlen,hnew⟩ | ⟨k,kx,hd,rfl,rfl⟩
 ·unfold Builtin.append_
  simp only [List.getElem?_toArray,List.getElem?_cons_zero,List.getElem?_cons_succ,Sem.run_bind,run_underlying hu,run_underlying hd,Result.andThen_ok,ZI hi,Sem.run_pure,Bool.false_eq_true,if_false,hlen,hgrow,XQ hi,h1,h2,hchoose,hroom,hsz,
   false_and,hcc,hold { w with drawn:=w.drawn+1 } rfl,hnew { w with drawn:=w.drawn+1 } rfl,hz,hzr,Z8,Bool.not_false,if_true]
 ·have hw:IntKind.i64.wrap (n:Int)=n:=by rw [IntKind.wrap_i64];omega
  have hneg:¬ ((n:Int) < 0):=by omega
  have hbig:¬ ((n:Int) * (i.bytes:Int) > 2 ^ 48):=by
   have:n * i.bytes≤1048576 * 1048576:=Nat.mul_le_mul (by omega) hb
   have:((n * i.bytes:Nat):Int)≤1099511627776:=by omega
   rw [Int.natCast_mul] at this
   omega
  have hzn:Builtin.zeroCells z.cells n=(ZL z.cells.toList n).toArray:=by
   unfold Builtin.zeroCells;exact Xa _ _
  have hne:¬ (n * size=0)∨(n * size=0∧(ZL z.cells.toList n)=[]):=by
   by_cases h:n * size=0
   ·refine .inr ⟨h,List.eq_nil_of_length_eq_zero ?_⟩
    rw [Yu];simpa [hzs] using h
   ·exact .inl h
  unfold Builtin.append_
  simp only [List.getElem?_toArray,List.getElem?_cons_zero,List.getElem?_cons_succ,Sem.run_bind,run_underlying hu,run_underlying hd,Result.andThen_ok,ZI hi,Sem.run_pure,if_true,asInt,asIntOf,hw,hneg,if_false,XQ hi,hbig,Int.toNat_natCast,hgrow,h1,h2,
   hchoose,hroom,hsz,false_and,hcc,hold { w with drawn:=w.drawn+1 } rfl,Bool.not_true,Bool.false_eq_true]
  rcases hne with h | ⟨h,h'⟩
  ·simp only [h,if_false,Sem.run_bind,hz,Result.andThen_ok,Sem.run_pure,hzn,hzr,Z8]
  ·simp only [h,if_true,Sem.run_pure,Result.andThen_ok,Sem.run_bind,hz,hzr,Z8,h']
end
end Go.Ax

namespace Go.Ax
open Go Go.RowKit
section
variable {P:Program} {lo base:Nat} {r:Ren} {H:Hp} {w:World}

def Src (P:Program) (w:World) (xT:TypeId) (size:Nat) (z x:Value) (n:Nat) (news:List Value):Prop:=
 (∃ e1,P.underlying xT=some (.slice e1)∧(Builtin.lenOf x).run P w=.ok n w∧∀ w':World,w'.heap=w.heap→(Builtin.firstCells size n x).run P w'=.ok news.toArray w')∨
 (∃ k kx,P.underlying xT=some (.int k)∧x=.int kx n∧news=ZL z.cells.toList n)

theorem XC {sT xT ty e:TypeId} {i:TypeInfo} {z s x:Value} {b:Option Addr} {len cap n size:Nat} {news:List Value} (hu:P.underlying sT=some (.slice e)) (hi:P.info? e=some i) (hsz:i.size=size) (hb:i.bytes≤1048576)
  (hz:∀ w,(zeroValue e).run P w=.ok z w) (hzs:z.cells.size=size) (hs:s=.slice b len cap) (hfit:len+n≤cap) (hneed:len+n≤1048576) (hx:Src P w xT size z x n news) {w':World}
  (hst:match b with | some a=>(storeCells (a.add (len * size)) news).run P w=.ok () w' | none=>w'=w) :
  (Builtin.append_ #[sT,xT] ty #[s,x]).run P w=.ok (.slice b (len+n) cap) w':=by
 subst hs
 rcases hx with ⟨e1,hd,hlen,hnew⟩ | ⟨k,kx,hd,rfl,rfl⟩
 ·unfold Builtin.append_
  simp only [List.getElem?_toArray,List.getElem?_cons_zero,List.getElem?_cons_succ,Sem.run_bind,run_underlying hu,run_underlying hd,Result.andThen_ok,ZI hi,Sem.run_pure,Bool.false_eq_true,if_false,hlen,hfit,if_true,hsz,Bool.not_false,hnew w rfl]
  cases b with
  | none=>simp only at hst;subst hst;rfl
  | some a=>simp only at hst;simp only [Sem.run_bind,hst,Result.andThen_ok,Sem.run_pure]
 ·have hw:IntKind.i64.wrap (n:Int)=n:=by rw [IntKind.wrap_i64];omega
  have hneg:¬ ((n:Int) < 0):=by omega
  have hbig:¬ ((n:Int) * (i.bytes:Int) > 2 ^ 48):=by
   have:n * i.bytes≤1048576 * 1048576:=Nat.mul_le_mul (by omega) hb
   have:((n * i.bytes:Nat):Int)≤1099511627776:=by omega
   rw [Int.natCast_mul] at this
   omega
  have hzn:Builtin.zeroCells z.cells n=(ZL z.cells.toList n).toArray:=by
   unfold Builtin.zeroCells;exact Xa _ _
  have hne:¬ (n * size=0)∨(n * size=0∧(ZL z.cells.toList n)=[]):=by
   by_cases h:n * size=0
   ·refine .inr ⟨h,List.eq_nil_of_length_eq_zero ?_⟩
    rw [Yu];simpa [hzs] using h
   ·exact .inl h
  unfold Builtin.append_
  simp only [List.getElem?_toArray,List.getElem?_cons_zero,List.getElem?_cons_succ,Sem.run_bind,run_underlying hu,run_underlying hd,Result.andThen_ok,ZI hi,Sem.run_pure,if_true,asInt,asIntOf,hw,hneg,if_false,XQ hi,hbig,Int.toNat_natCast,hfit,hsz,Bool.not_true,Bool.false_eq_true]
  rcases hne with h | ⟨h,h'⟩
  ·simp only [h,if_false,Sem.run_bind,hz,Result.andThen_ok,Sem.run_pure,hzn]
   cases b with
   | none=>simp only at hst;subst hst;rfl
   | some a=>simp only at hst;simp only [Sem.run_bind,hst,Result.andThen_ok,Sem.run_pure]
  ·rw [h'] at hst
   simp only [h,if_true,Sem.run_pure,Result.andThen_ok,Sem.run_bind]
   cases b with
   | none=>simp only at hst;subst hst;rfl
   | some a=>
    simp only at hst
    have:storeCells (a.add (len * size)) (#[]:Array Value).toList=storeCells (a.add (len * size)) []:=rfl
    simp only [this,Sem.run_bind,hst,Result.andThen_ok,Sem.run_pure]

def Zaq (P:Program) (lo base:Nat) (r:Ren) (H:Hp) (w:World) (s:Sem Value) (v:Value) (H':Hp):Prop:=
 ∃ r' v' w',s.run P w=.ok v' w'∧VR r' v v'∧Zr P lo base r H w r' H' w'

theorem Zr.deadNone (h:Rel P r base H w) {b:Nat} (hb:r b=none) (h1:lo≤b):Zr P lo base r H w r { H with t:=H.t.set b .dead } w:=by
 have hne:∀ c loc,r c=some loc→c≠b:=fun c loc e q=>by rw [q,hb] at e;cases e
 have hg:∀ c loc,r c=some loc→({ H with t:=H.t.set b .dead }:Hp).t.get c=H.t.get c:=fun c loc e=>by
  show (H.t.set b .dead).get c=_
  rw [Tr.get_set,if_neg (hne c loc e)]
 refine ⟨Ren.Le.refl r,⟨fun c loc e=>?_,fun c loc o e q=>?_,fun c c' loc loc' e e' q l l'=>?_,h.top⟩,Nat.le_refl _,fun c loc e=>.inl e,fun _ _ _=>rfl,fun c hc=>?_,Str.refl w⟩
 ·rw [hg c loc e];exact h.dom c loc e
 ·rw [hg c loc e] at q;exact h.cont c loc o e q
 ·refine h.inj c c' loc loc' e e' q ?_ ?_
  ·unfold Wg at l ⊢;rw [hg c loc e] at l;exact l
  ·unfold Wg at l' ⊢;rw [hg c' loc' e'] at l';exact l'
 ·show (H.t.set b .dead).get c=_
  rw [Tr.get_set,if_neg (by omega)]

theorem zk (h:Rel P r base H w) (hlo:lo≤H.next) {sT xT ty e:TypeId} {i:TypeInfo} {z s' x':Value} {a:Addr} {len cap n size:Nat} {news L:List Value} {v:Value} {H':Hp} {k:Kd} (hu:P.underlying sT=some (.slice e)) (hsz0:0 < size) (hcells:P.cellsOf e=size)
  (hi:P.info? e=some i) (hsz:i.size=size) (hb:i.bytes≤1048576) (hz:Ym P e=some z) (hzs:z.cells.size=size) (ks:VR r (.slice (some a) len cap) s') (kn:LR r news L) (hL:L.length=n * size) (hx:Src P w xT size z x' n L)
  (hn0:0 < n) (hsp:¬ a.spot=none)
  (ha:Z6 lo H e size (.slice (some a) len cap) n news=some (.val v H',k)):Zaq P lo base r H w (Builtin.append_ #[sT,xT] ty #[s',x']) v H':=by
 have hzr:=fun w=>(ZO hz w).1
 obtain ⟨sp,hsp'⟩:∃ sp,a.spot=some sp:=by
  cases q:a.spot with
  | none=>exact absurd q hsp
  | some x=>exact ⟨x,rfl⟩
 obtain ⟨ab,ao,rfl,rfl,rfl,a',c',rfl,hw⟩:=qJ ks hsp'
 unfold Z6 at ha
 simp only at ha
 obtain ⟨hneed,ha⟩:=Zc ha
 have hneed:=Nat.le_of_ble_eq_true hneed
 have hnb:Nat.beq n 0=false:=by rw [ZA];exact decide_eq_false (by omega)
 rw [hnb] at ha
 simp only [cond_false] at ha
 cases hget:H.t.get ab with
 | none=>rw [hget] at ha;cases ha
 | some ob=>
 rw [hget] at ha
 obtain ⟨cs,e',rfl⟩:∃ cs e',ob=.cells cs e' true:=by
  cases ob with
  | cells cs e' lz=>
   cases lz with
   | false=>cases ha
   | true=>exact ⟨_,_,rfl⟩
  | _=>cases ha
 simp only at ha
 obtain ⟨hc,ha2⟩:=Zc ha
 clear ha
 simp only [Bool.and_eq_true,ZA,decide_eq_true_eq] at hc
 obtain ⟨⟨⟨hee,h1⟩,h3⟩,_⟩:=hc
 have h1:=Nat.le_of_ble_eq_true h1
 subst hee
 cases ha2
 have hnl:news.length=n * size:=by rw [kn.1];exact hL
 by_cases hcap:n≤c'
 ·rcases hw with rfl | ⟨loc,total,sz,e1,hlo2,rfl,heq⟩
  ·omega
  obtain ⟨C,hC,hcR,hzz⟩:=Ve h e1 hget
  rcases hzz with ⟨hf,_⟩ | ⟨t2,s2,_,hlo3,hCs,hct,hsz2,hce⟩
  ·cases hf
  have hq:total=t2∧sz=s2:=by rw [hlo2] at hlo3;cases hlo3;exact ⟨rfl,rfl⟩
  obtain ⟨hq1,hq2⟩:=hq
  subst hq1
  subst hq2
  have hszz:sz=size:=by rw [← hce];exact hcells
  subst hszz
  have hcm:n * sz≤c' * sz:=Nat.mul_le_mul_right _ hcap
  let W:=w.setRow loc.blk (laid C (loc.delta+ao) L)
  have hfit2:loc.delta+ao+L.length≤C.size:=by omega
  have hW:W.heap[loc.blk]? = some (.cells (laid C (loc.delta+ao) L) e (0,0)):=setRow_heap w _ C _ e _ hC
  have hle2:=Ren.le_add (⟨loc.blk,loc.delta+ao,loc.loose⟩:Loc) h.none_next
  have hp:Zr P lo base r H w (r.add H.next ⟨loc.blk,loc.delta+ao,loc.loose⟩) ({ H with t:=H.t.set ab .dead }.new (.cells news e true)) W:=by
   refine Zr.move h hlo e1 ⟨_,hget,by simp,rfl⟩ h1 (VB _ _ _) (fun q hq=>Va _ _ _ _ hq) ⟨rfl,rfl,rfl⟩ ?_
   refine ⟨_,hW,?_,.inr ⟨total,sz,rfl,hlo2,?_,?_,hsz2,hce⟩⟩
   ·intro j u hj
    obtain ⟨u',f1,f2⟩:=kn.get hj
    refine ⟨u',?_,f2.mono hle2⟩
    have hjl:j < L.length:=by
     rcases Nat.lt_or_ge j L.length with q | q
     ·exact q
     ·rw [List.getElem?_eq_none q] at f1;cases f1
    show (laid C (loc.delta+ao) L)[loc.delta+ao+j]? = _
    rw [UF hfit2,if_pos ⟨by omega,by omega⟩]
    have:loc.delta+ao+j - (loc.delta+ao)=j:=by omega
    rw [this];exact f1
   ·rw [U2 hfit2];exact hCs
   ·show news.length+(loc.delta+ao)≤_
    omega
  refine ⟨_,.slice (some ⟨loc.blk,ao+loc.delta,none⟩) n c',W,?_,?_,hp⟩
  ·have hr:=XC (P:=P) (w:=w) (w':=W) (sT:=sT) (xT:=xT) (ty:=ty) (s:=.slice (some ⟨loc.blk,ao+loc.delta,none⟩) 0 c') (x:=x') (news:=L) (n:=n) hu hi hsz hb hzr hzs rfl (by omega) (by omega) hx (by
    simp only
    rw [YU]
    have:=run_storeCells_at P loc.blk (ao+loc.delta+0 * sz) e L 0 C w hC (by omega) (V0 h3 kn)
    have hD:ao+loc.delta+0 * sz=loc.delta+ao:=by omega
    rw [hD] at this ⊢
    simpa [laid,W] using this)
   simpa using hr
  ·have:=VR.loose (r:=Ren.add r H.next ⟨loc.blk,loc.delta+ao,loc.loose⟩) (o:=0) (n:=n) (c:=n) (c':=c') (Ren.add_same r H.next ⟨loc.blk,loc.delta+ao,loc.loose⟩) hlo2 hcap (by simp only;omega)
   simpa [Nat.add_comm] using this
 ·obtain ⟨newCap,w',hrun,hge,hw'⟩:=UJ (P:=P) (w:=w) (sT:=sT) (xT:=xT) (ty:=ty) (s:=.slice (some a') 0 c') (x:=x') (old:=[]) (news:=L) hu hi hsz hb hzr hzs rfl (n:=n) (by omega) (by omega) (fun w' _=>by simp [Builtin.firstCells,loadCells,loadCellsFrom]) hx
  have hk:Zr P lo base r H { w with drawn:=w.drawn+1 } r { H with t:=H.t.set ab .dead } { w with drawn:=w.drawn+1 }:=by
   cases e1:r ab with
   | none=>exact Zr.deadNone (h.drew (w.drawn+1)) e1 h1
   | some loc=>exact Zr.change (lo:=lo) (h.drew (w.drawn+1)) e1 ⟨_,hget,by simp,rfl⟩ h1 (o:=.dead) (w':={ w with drawn:=w.drawn+1 }) rfl (fun _ _=>rfl) ⟨rfl,rfl,rfl⟩ trivial
  have hp:=Zr.loose_ (lo:=lo) hk.rel (by exact hlo) (C:=L.toArray) (cs:=news) (rest:=ZL z.cells.toList (newCap - (0+n))) (e:=e) (total:=newCap * size) (sz:=size) (by simpa using kn) hsz0 hcells (by
   rw [Yu];simp only [List.size_toArray,Array.length_toList,hL,hzs]
   rw [← Nat.add_mul];congr 1;omega)
  have hpp:=Zr.trans (by exact hlo) hk hp
  refine ⟨r.add H.next ⟨w.heap.size,0,some (newCap * size,size)⟩,_,w',hrun,?_,?_⟩
  rotate_left
  ·rw [hw']
   have e1:((([]:List Value).toArray ++ L.toArray) ++ (ZL z.cells.toList (newCap - (0+n))).toArray)=L.toArray ++ (ZL z.cells.toList (newCap - (0+n))).toArray:=by simp
   rw [e1]
   exact ⟨hpp.le,hpp.rel,hpp.next,hpp.place,hpp.keep,hpp.old,⟨hpp.str.os,hpp.str.tape,hpp.str.output,hpp.str.size⟩⟩
  ·simp only [Nat.zero_add] at hge ⊢
   have:=VR.loose (r:=Ren.add r H.next ⟨w.heap.size,0,some (newCap * size,size)⟩) (o:=0) (n:=n) (c:=n) (c':=newCap) (Ren.add_same r H.next ⟨w.heap.size,0,some (newCap * size,size)⟩) rfl hge (by simp)
   simpa using this

theorem zv (h:Rel P r base H w) (hlo:lo≤H.next) {sT xT ty e:TypeId} {i:TypeInfo} {z s s' x':Value} {n size:Nat} {news L:List Value} {v:Value} {H':Hp} {k:Kd} (hu:P.underlying sT=some (.slice e)) (hsz0:0 < size) (hcells:P.cellsOf e=size)
  (hi:P.info? e=some i) (hsz:i.size=size) (hb:i.bytes≤1048576) (hz:Ym P e=some z) (hzs:z.cells.size=size) (ks:VR r s s') (kn:LR r news L) (hL:L.length=n * size) (hx:Src P w xT size z x' n L)
  (ha:Z6 lo H e size s n news=some (.val v H',k)):Zaq P lo base r H w (Builtin.append_ #[sT,xT] ty #[s',x']) v H':=by
 have hzr:=fun w=>(ZO hz w).1
 have hnl:news.length=n * size:=by rw [kn.1];exact hL
 have hsrc':∀ w':World,w'.heap=w.heap→Src P w' xT size z x' n L:=fun w' hw=>by
  rcases hx with ⟨e1,a,b,c⟩ | q
  ·refine .inl ⟨e1,a,?_,fun w2 h2=>c w2 (h2.trans hw)⟩
   cases x'<;>first | (simp [Builtin.lenOf,stuck] at b;done) | (simp [Builtin.lenOf] at b ⊢;exact b)
  ·exact .inr q
 by_cases hww:∃ a len cap,s=.slice (some a) len cap∧¬ a.spot=none∧n≠0
 ·obtain ⟨a,len,cap,rfl,q1,q2⟩:=hww
  exact zk h hlo hu hsz0 hcells hi hsz hb hz hzs ks kn hL hx (by omega) q1 ha
 unfold Z6 at ha
 split at ha
 ·-- nil
  rename_i len c
  obtain ⟨hc,ha⟩:=Zc ha
  simp only [Bool.and_eq_true,ZA,decide_eq_true_eq,Yx] at hc
  obtain ⟨⟨⟨hl0,hc0⟩,_⟩,hn⟩:=hc
  have hn:=Nat.le_of_ble_eq_true hn
  subst hl0;subst hc0
  cases ks
  by_cases hn0:n=0
  ·subst hn0
   simp only [ZA,decide_true,cond_true] at ha
   cases ha
   refine ⟨r,_,w,XC hu hi hsz hb hzr hzs rfl (by omega) (by omega) hx (w':=w) rfl,.nilSlice,Zr.refl h⟩
  ·simp only [ZA,hn0,decide_false,cond_false] at ha
   cases ha
   obtain ⟨newCap,w',hrun,hge,hw'⟩:=UJ (P:=P) (w:=w) (sT:=sT) (xT:=xT) (ty:=ty) (s:=.slice none 0 0) (x:=x') (old:=[]) (news:=L) hu hi hsz hb hzr hzs rfl (n:=n) (by omega) (by omega) (fun w' _=>rfl) hx
   have hrel:=h.drew (w.drawn+1)
   have hp:=Zr.loose_ (lo:=lo) hrel hlo (C:=L.toArray) (cs:=news) (rest:=ZL z.cells.toList (newCap - (0+n))) (e:=e) (total:=newCap * size) (sz:=size) (by simpa using kn) hsz0 hcells (by
    rw [Yu];simp only [List.size_toArray,Array.length_toList,hL,hzs]
    rw [← Nat.add_mul];congr 1;omega)
   refine ⟨r.add H.next ⟨w.heap.size,0,some (newCap * size,size)⟩,_,w',hrun,?_,?_⟩
   rotate_left
   ·rw [hw']
    have e1:((([]:List Value).toArray ++ L.toArray) ++ (ZL z.cells.toList (newCap - (0+n))).toArray)=L.toArray ++ (ZL z.cells.toList (newCap - (0+n))).toArray:=by simp
    rw [e1]
    exact ⟨hp.le,hp.rel,hp.next,hp.place,hp.keep,hp.old,⟨hp.str.os,hp.str.tape,hp.str.output,hp.str.size⟩⟩
   ·simp only [Nat.zero_add] at hge ⊢
    have:=VR.loose (r:=Ren.add r H.next ⟨w.heap.size,0,some (newCap * size,size)⟩) (o:=0) (n:=n) (c:=n) (c':=newCap) (Ren.add_same r H.next ⟨w.heap.size,0,some (newCap * size,size)⟩) rfl hge (by simp)
    simpa using this
 ·-- a slice with an address
  rename_i a len cap
  obtain ⟨hneed,ha⟩:=Zc ha
  have hneed:=Nat.le_of_ble_eq_true hneed
  by_cases hn0:n=0
  ·subst hn0
   simp only [ZA,decide_true,cond_true] at ha
   cases ha
   obtain ⟨x0,c',e3,hle⟩:∃ x0 c',s'=.slice (some x0) len c'∧len≤c':=by
    cases ks with
    | slice e l q=>exact ⟨_,_,rfl,q⟩
    | loose e l a b=>exact ⟨_,_,rfl,a⟩
    | weird _=>exact ⟨_,_,rfl,Nat.zero_le _⟩
   have hL0:L=[]:=List.eq_nil_of_length_eq_zero (by simpa using hL)
   subst hL0
   refine ⟨r,s',w,?_,ks,Zr.refl h⟩
   rw [e3]
   exact XC hu hi hsz hb hzr hzs rfl (by omega) (by omega) hx (w':=w) rfl
  ·simp only [ZA,hn0,decide_false,cond_false] at ha
   have hsp:a.spot=none:=Classical.byContradiction fun q=>hww ⟨a,len,cap,rfl,q,hn0⟩
   obtain ⟨loc,c',e1,e2,e3,e4⟩:=Xq ks (.inl hsp)
   obtain ⟨ab,ao,asp⟩:=a
   simp only at e1 e2 e3 e4 ha hsp
   subst e2
   split at ha<;>first | (cases ha;done) | (rename_i q _;cases q;done) | skip
   ·-- a block that is known whole
    rename_i cs e' _ hget
    obtain ⟨C,hC,hcR,hzz⟩:=Ve h e1 hget
    rcases hzz with ⟨_,hln,hd0,hCs⟩ | ⟨_,_,hf,_⟩
    rotate_left
    ·cases hf
    rcases e4 with ⟨_,hcc,hle⟩ | ⟨_,_,hf,_⟩
    rotate_left
    ·rw [hln] at hf;cases hf
    subst hcc
    by_cases hcap:len+n≤c'
    ·rw [Nat.ble_eq_true_of_le hcap] at ha
     simp only [cond_true] at ha
     obtain ⟨hc,ha⟩:=Zc ha
     simp only [Bool.and_eq_true] at hc
     obtain ⟨⟨h1,h2⟩,h3⟩:=hc
     have h1:=Nat.le_of_ble_eq_true h1
     have h2:=Nat.le_of_ble_eq_true h2
     cases ha
     have hmul:(len+n) * size=len * size+n * size:=Nat.add_mul _ _ _
     have hp:=Zr.put (lo:=lo) h e1 hget h1 hC kn (ao+len * size) (by omega)
     refine ⟨r,.slice (some ⟨loc.blk,ao+loc.delta,none⟩) (len+n) c',_,?_,.slice e1 hln hcap,hp⟩
     rw [e3]
     refine XC hu hi hsz hb hzr hzs rfl hcap hneed hx ?_
     simp only
     rw [YU]
     have:=run_storeCells_at P loc.blk (ao+loc.delta+len * size) e' L 0 C w hC (by omega) (V0 h3 kn)
     have hD:ao+loc.delta+len * size=loc.delta+(ao+len * size):=by omega
     rw [hD] at this ⊢
     simpa [laid] using this
    ·have hb':Nat.ble (len+n) c'=false:=by
      cases hq:Nat.ble (len+n) c' with
      | false=>rfl
      | true=>exact absurd (Nat.le_of_ble_eq_true hq) hcap
     rw [hb'] at ha
     simp only [cond_false] at ha
     cases hrow:row (len * size) cs ao with
     | none=>rw [hrow] at ha;cases ha
     | some old=>
      rw [hrow] at ha
      cases ha
      obtain ⟨el,hol⟩:=Uu hrow
      have hsrc:Xm H size (.slice (some ⟨ab,ao,none⟩) len c')=some (len,old):=by simp [Xm,cellsOf,hget,hrow]
      obtain ⟨O,kO,_,hfc,hOl⟩:=ZaF h ks hsrc
      rw [e3] at hfc
      obtain ⟨newCap,w',hrun,hge,hw'⟩:=UJ (P:=P) (w:=w) (sT:=sT) (xT:=xT) (ty:=ty) (s:=s') (x:=x') (old:=O) (news:=L) hu hi hsz hb hzr hzs e3 (n:=n) (by omega) (by omega) (fun w' hw=>by rw [e3];exact hfc w' hw) hx
      have hrel:=h.drew (w.drawn+1)
      have hp:=Zr.loose_ (lo:=lo) hrel hlo (C:=O.toArray ++ L.toArray) (cs:=old ++ news) (rest:=ZL z.cells.toList (newCap - (len+n))) (e:=e) (total:=newCap * size) (sz:=size) (by simpa using kO.append kn) hsz0 hcells (by
       rw [Yu];simp only [Array.size_append,List.size_toArray,Array.length_toList,hL,hOl,hzs]
       rw [← Nat.add_mul,← Nat.add_mul];congr 1;omega)
      refine ⟨r.add H.next ⟨w.heap.size,0,some (newCap * size,size)⟩,_,w',hrun,?_,?_⟩
      rotate_left
      ·rw [hw']
       exact ⟨hp.le,hp.rel,hp.next,hp.place,hp.keep,hp.old,⟨hp.str.os,hp.str.tape,hp.str.output,hp.str.size⟩⟩
      ·have:=VR.loose (r:=Ren.add r H.next ⟨w.heap.size,0,some (newCap * size,size)⟩) (o:=0) (n:=len+n) (c:=len+n) (c':=newCap) (Ren.add_same r H.next ⟨w.heap.size,0,some (newCap * size,size)⟩) rfl hge (by simp)
       simpa using this
   ·-- a block with room behind what is known
    rename_i cs e' _ hget
    obtain ⟨hc,ha⟩:=Zc ha
    simp only [Bool.and_eq_true,ZA,decide_eq_true_eq] at hc
    obtain ⟨⟨hee,h1⟩,h3⟩:=hc
    have h1:=Nat.le_of_ble_eq_true h1
    subst hee
    obtain ⟨C,hC,hcR,hzz⟩:=Ve h e1 hget
    rcases hzz with ⟨hf,_⟩ | ⟨total,sz,_,hlo2,hCs,hct,hsz2,hce⟩
    ·cases hf
    have hszz:sz=size:=by rw [← hce];exact hcells
    subst hszz
    rcases e4 with ⟨hf,_⟩ | ⟨t2,s2,hlo3,hle,heq⟩
    ·rw [hlo2] at hf;cases hf
    rw [hlo2] at hlo3;cases hlo3
    have hmul:(len+n) * sz=len * sz+n * sz:=Nat.add_mul _ _ _
    by_cases hin:ao+(len+n) * sz≤cs.length
    ·rw [Nat.ble_eq_true_of_le hin] at ha
     simp only [cond_true] at ha
     cases ha
     have hcap:len+n≤c':=by
      have:(len+n) * sz≤c' * sz:=by omega
      exact Nat.le_of_mul_le_mul_right this hsz2
     have hp:=Zr.put (lo:=lo) h e1 hget h1 hC kn (ao+len * sz) (by omega)
     refine ⟨r,.slice (some ⟨loc.blk,ao+loc.delta,none⟩) (len+n) c',_,?_,.loose e1 hlo2 hcap heq,hp⟩
     rw [e3]
     refine XC hu hi hsz hb hzr hzs rfl hcap hneed hx ?_
     simp only
     rw [YU]
     have:=run_storeCells_at P loc.blk (ao+loc.delta+len * sz) e L 0 C w hC (by omega) (V0 h3 kn)
     have hD:ao+loc.delta+len * sz=loc.delta+(ao+len * sz):=by omega
     rw [hD] at this ⊢
     simpa [laid] using this
    ·have hb':Nat.ble (ao+(len+n) * sz) cs.length=false:=by
      cases hq:Nat.ble (ao+(len+n) * sz) cs.length with
      | false=>rfl
      | true=>exact absurd (Nat.le_of_ble_eq_true hq) hin
     rw [hb'] at ha
     simp only [cond_false] at ha
     obtain ⟨hend,ha⟩:=Zc ha
     simp only [decide_eq_true_eq] at hend
     cases ha
     by_cases hcap:len+n≤c'
     ·-- it is written in place,beyond what is known
      have hcm:(len+n) * sz≤c' * sz:=Nat.mul_le_mul_right _ hcap
      let W:=w.setRow loc.blk (laid C (loc.delta+(ao+len * sz)) L)
      have hfit2:loc.delta+(ao+len * sz)+L.length≤C.size:=by omega
      have hW:W.heap[loc.blk]? = some (.cells (laid C (loc.delta+(ao+len * sz)) L) e (0,0)):=setRow_heap w _ C _ e _ hC
      have hle2:=Ren.le_add (⟨loc.blk,loc.delta+ao,loc.loose⟩:Loc) h.none_next
      have hp:Zr P lo base r H w (r.add H.next ⟨loc.blk,loc.delta+ao,loc.loose⟩) ({ H with t:=H.t.set ab .dead }.new (.cells (cs.drop ao ++ news) e true)) W:=by
       refine Zr.move h hlo e1 ⟨_,hget,by simp,rfl⟩ h1 (VB _ _ _) (fun q hq=>Va _ _ _ _ hq) ⟨rfl,rfl,rfl⟩ ?_
       refine ⟨_,hW,?_,.inr ⟨total,sz,rfl,hlo2,?_,?_,hsz2,hce⟩⟩
       ·intro j u hj
        have hdl:(cs.drop ao).length=len * sz:=by simp;omega
        by_cases hj1:j < len * sz
        ·rw [List.getElem?_append_left (by omega),List.getElem?_drop] at hj
         obtain ⟨u',f1,f2⟩:=hcR _ u hj
         refine ⟨u',?_,f2.mono hle2⟩
         show (laid C (loc.delta+(ao+len * sz)) L)[loc.delta+ao+j]? = _
         rw [UF hfit2,if_neg (by omega)]
         have:loc.delta+ao+j=loc.delta+(ao+j):=by omega
         rw [this];exact f1
        ·rw [List.getElem?_append_right (by omega),hdl] at hj
         obtain ⟨u',f1,f2⟩:=kn.get hj
         refine ⟨u',?_,f2.mono hle2⟩
         have hjl:j - len * sz < L.length:=by
          rcases Nat.lt_or_ge (j - len * sz) L.length with q | q
          ·exact q
          ·rw [List.getElem?_eq_none q] at f1;cases f1
         show (laid C (loc.delta+(ao+len * sz)) L)[loc.delta+ao+j]? = _
         have hj2:len * sz≤j:=by omega
         have hj3:j < len * sz+L.length:=by omega
         rw [UF hfit2,if_pos ⟨by omega,by omega⟩]
         have:loc.delta+ao+j - (loc.delta+(ao+len * sz))=j - len * sz:=by omega
         rw [this];exact f1
       ·rw [U2 hfit2];exact hCs
       ·simp only [List.length_append,List.length_drop];omega
      refine ⟨_,.slice (some ⟨loc.blk,ao+loc.delta,none⟩) (len+n) c',W,?_,?_,hp⟩
      ·rw [e3]
       refine XC hu hi hsz hb hzr hzs rfl hcap hneed hx ?_
       simp only
       rw [YU]
       have:=run_storeCells_at P loc.blk (ao+loc.delta+len * sz) e L 0 C w hC (by omega) (V0 h3 kn)
       have hD:ao+loc.delta+len * sz=loc.delta+(ao+len * sz):=by omega
       rw [hD] at this ⊢
       simpa [laid,W] using this
      ·have:=VR.loose (r:=Ren.add r H.next ⟨loc.blk,loc.delta+ao,loc.loose⟩) (o:=0) (n:=len+n) (c:=len+n) (c':=c') (Ren.add_same r H.next ⟨loc.blk,loc.delta+ao,loc.loose⟩) hlo2 hcap (by simp only;omega)
       simpa [Nat.add_comm] using this
     ·-- it grows
      have hold:∀ w':World,w'.heap=w.heap→(Builtin.firstCells sz len s').run P w'=.ok ((C.toList.drop (ao+loc.delta)).take (len * sz)).toArray w':=fun w' hw=>by
       rw [e3]
       have r2:=run_loadCells_list (P:=P) w' ⟨loc.blk,ao+loc.delta,none⟩ ((C.toList.drop (ao+loc.delta)).take (len * sz)) (fun j u hj=>by
        rw [YU,KG w' (by rw [hw];exact hC)]
        rw [List.getElem?_take] at hj
        split at hj
        ·rw [List.getElem?_drop,Array.getElem?_toList] at hj;exact hj
        ·cases hj)
       have hll:((C.toList.drop (ao+loc.delta)).take (len * sz)).length=len * sz:=by simp;omega
       rw [hll] at r2
       exact r2
      have kO:LR r (cs.drop ao) ((C.toList.drop (ao+loc.delta)).take (len * sz)):=by
       refine ⟨by simp;omega,fun j u u' g1 g2=>?_⟩
       rw [List.getElem?_drop] at g1
       rw [List.getElem?_take] at g2
       split at g2
       ·rw [List.getElem?_drop,Array.getElem?_toList] at g2
        obtain ⟨u2,f1,f2⟩:=hcR _ u g1
        have:ao+loc.delta+j=loc.delta+(ao+j):=by omega
        rw [this,f1] at g2
        cases g2;exact f2
       ·cases g2
      obtain ⟨newCap,w',hrun,hge,hw'⟩:=UJ (P:=P) (w:=w) (sT:=sT) (xT:=xT) (ty:=ty) (s:=s') (x:=x') (news:=L) hu hi hsz hb hzr hzs e3 (n:=n) hcap (by omega) hold hx
      have hk:=Zr.change (lo:=lo) (h.drew (w.drawn+1)) e1 ⟨_,hget,by simp,rfl⟩ h1 (o:=.dead) (w':={ w with drawn:=w.drawn+1 }) rfl (fun _ _=>rfl) ⟨rfl,rfl,rfl⟩ trivial
      have hp:=Zr.loose_ (lo:=lo) hk.rel (by exact hlo) (C:=((C.toList.drop (ao+loc.delta)).take (len * sz)).toArray ++ L.toArray) (cs:=cs.drop ao ++ news) (rest:=ZL z.cells.toList (newCap - (len+n))) (e:=e) (total:=newCap * sz) (sz:=sz) (by simpa using kO.append kn) hsz0 hcells (by
       have hOl:((C.toList.drop (ao+loc.delta)).take (len * sz)).length=len * sz:=by simp;omega
       rw [Yu];simp only [Array.size_append,List.size_toArray,Array.length_toList,hL,hOl,hzs]
       rw [← Nat.add_mul,← Nat.add_mul];congr 1;omega)
      have hpp:=Zr.trans (by exact hlo) hk hp
      refine ⟨r.add H.next ⟨w.heap.size,0,some (newCap * sz,sz)⟩,_,w',hrun,?_,?_⟩
      rotate_left
      ·rw [hw']
       exact ⟨hpp.le,hpp.rel,hpp.next,hpp.place,hpp.keep,hpp.old,⟨hpp.str.os,hpp.str.tape,hpp.str.output,hpp.str.size⟩⟩
      ·have:=VR.loose (r:=Ren.add r H.next ⟨w.heap.size,0,some (newCap * sz,sz)⟩) (o:=0) (n:=len+n) (c:=len+n) (c':=newCap) (Ren.add_same r H.next ⟨w.heap.size,0,some (newCap * sz,sz)⟩) rfl hge (by simp)
       simpa using this
 ·cases ha
end
end Go.Ax

namespace Go.Ax
open Go Go.RowKit
section
variable {P:Program} {lo base:Nat} {r:Ren} {A:Fr} {H:Hp} {w:World} {tmps:Array Value}

def OpS (P:Program) (lo base:Nat) (r:Ren) (H:Hp) (w:World) (s:Sem Next):Rs→Prop
 | .val v H'=>∃ r' v' w',s.run P w=.ok (.value v') w'∧VR r' v v'∧Zr P lo base r H w r' H' w'
 | .skip H'=>∃ w',s.run P w=.ok .skip w'∧Zr P lo base r H w r H' w'
 | .dfr d=>∃ d',s.run P w=.ok (.defer d') w∧DR r d d'
 | .recov=>s.run P w=.ok .recover w
 | .call t args=>∃ t' args',s.run P w=(invoke t' args').run P w∧TgR r t t'∧LR r args args'.toList
 | .pan v=>∃ v',s.run P w=.halt (.panic v') w∧VR r v v'

theorem OpS.value {s:Sem Value} {v:Value} {H':Hp} (h:Zaq P lo base r H w s v H'):OpS P lo base r H w (do pure (.value (← s))) (.val v H'):=by
 obtain ⟨r',v',w',h1,h2,h3⟩:=h
 exact ⟨r',v',w',by simp only [Sem.run_bind,h1,Result.andThen_ok,Sem.run_pure],h2,h3⟩

theorem Xe {r:Ren} {v:Value} (h:VA v=true):VR r v v:=by
 unfold VA at h
 split at h
 ·rename_i cs
  refine .tuple rfl fun i u u' e e'=>?_
  rw [e] at e';cases e'
  refine Yf (List.all_eq_true.1 h u ?_)
  exact Array.mem_toList_iff.2 (Array.mem_of_getElem? e)
 ·exact Yf h
theorem Wy {t kt et:TypeId} {b:Nat} {es:Array MapEntry} {c:Nat} {k:Value} {ok:Bool} {w:World} (hu:P.underlying t=some (.map kt et)) (hg:w.heap[b]? = some (.map es c)) :
  (Instr.lookup t (.map (some b)) k ok).run P w=(Wp t es k ok).run P w:=by
 have hgo:(getObj b).run P w=.ok (.map es c) w:=by simp [getObj,Sem.run,hg]
 unfold Instr.lookup Wp
 simp only [Sem.run_bind,run_underlying hu,Result.andThen_ok,hgo,Sem.run_pure]
 rfl
theorem Zy {α β:Type} (f:α→Sem β):∀ (x:Sem α),Zz P (x >>= f)=match Zz P x with | some a=>Zz P (f a) | none=>none:=by
 intro x
 induction x with
 | pure a=>rfl
 | program k ih=>exact ih P
 | _=>rfl
def FoR (r:Ren):Option (Nat × Value)→Option (Nat × Value)→Prop
 | none,none=>True
 | some (i,v),some (i',v')=>i'=i∧VR r v v'
 | _,_=>False
theorem Kk {d:TypeDesc} {k:Value}:∀ {l l':List MapEntry},EsR r l l'→∀ i,(Instr.findNow d k l i=none∧Instr.findNow d k l' i=none)∨∃ x x',Instr.findNow d k l i=some x∧Instr.findNow d k l' i=some x'∧FoR r x x'
 | [],[],_,i=>.inr ⟨none,none,rfl,rfl,True.intro⟩
 | x :: l,y :: l',h,i=>by
  obtain ⟨⟨h1,h2,h3⟩,h4⟩:=h
  simp only [Instr.findNow,h1]
  cases Instr.sameNow d k x.key with
  | none=>exact .inl ⟨rfl,rfl⟩
  | some b=>
   cases b with
   | true=>exact .inr ⟨_,_,rfl,rfl,rfl,h3⟩
   | false=>exact Kk h4 (i+1)
 | [],_ :: _,h,_=>h.elim
 | _ :: _,[],h,_=>h.elim
theorem J0 {t:TypeId} {k:Value}:∀ {l l':List MapEntry},EsR r l l'→∀ i x,Zz P (Instr.findAsking t k l i)=some x→∃ x',Zz P (Instr.findAsking t k l' i)=some x'∧FoR r x x'
 | [],[],_,i,x,hp=>by
  have:x=none:=by
   have hp:some (none:Option (Nat × Value))=some x:=hp
   cases hp;rfl
  subst this
  exact ⟨none,rfl,True.intro⟩
 | e :: l,y :: l',h,i,x,hp=>by
  obtain ⟨⟨h1,h2,h3⟩,h4⟩:=h
  simp only [Instr.findAsking,Zy,h1] at hp ⊢
  cases hq:Zz P (Op.equal t k e.key) with
  | none=>rw [hq] at hp;cases hp
  | some b=>
   rw [hq] at hp
   cases b with
   | true=>
    have hp:some (some (i,e.val))=some x:=hp
    cases hp
    exact ⟨_,rfl,rfl,h3⟩
   | false=>exact J0 h4 (i+1) x hp
 | [],_ :: _,h,_,_,_=>h.elim
 | _ :: _,[],h,_,_,_=>h.elim
theorem Kp {t:TypeId} {k:Value} {l l':List MapEntry} (h:EsR r l l') {x:Option (Nat × Value)} (hp:Zz P (Instr.findKey t k l)=some x):∃ x',Zz P (Instr.findKey t k l')=some x'∧FoR r x x':=by
 unfold Instr.findKey at hp ⊢
 rw [Zy] at hp ⊢
 cases hu:Zz P (underlying t) with
 | none=>rw [hu] at hp;cases hp
 | some d=>
  rw [hu] at hp
  simp only at hp ⊢
  rcases Kk (d:=d) (k:=k) h 0 with ⟨e1,e2⟩ | ⟨x0,x',e1,e2,hx⟩
  ·rw [e1] at hp;rw [e2];exact J0 h 0 x hp
  ·rw [e1] at hp;rw [e2]
   have hp:some x0=some x:=hp
   cases hp
   exact ⟨x',rfl,hx⟩
theorem EsR.empty:∀ {l l':List MapEntry},EsR r l l'→l'.isEmpty=l.isEmpty
 | [],[],_=>rfl
 | _ :: _,_ :: _,_=>rfl
 | [],_ :: _,h=>h.elim
 | _ :: _,[],h=>h.elim
theorem Kr (es:Array MapEntry):es.isEmpty=es.toList.isEmpty:=by
 rcases es with ⟨l⟩
 cases l<;>rfl
theorem qw {t:TypeId} {es es':Array MapEntry} {k v:Value} {got:Bool} (hR:EsR r es.toList es'.toList) (hp:Zz P (ZaP t es k)=some (v,got)) (hf:(got || flat v)=true) (ok:Bool) :
  ∃ v',Zz P (Wp t es' k ok)=some v'∧VR r (bif ok then .tuple #[v,.bool got] else v) v':=by
 unfold ZaP at hp
 unfold Wp
 rw [Zy] at hp ⊢
 split at hp<;>first | (cases hp;done) | skip
 rename_i d hd
 cases d<;>try (simp [Zz,stuck] at hp;done)
 rename_i kt et
 try simp only at hp
 try simp only []
 rw [Zy] at hp ⊢
 rw [Kr es',hR.empty,← Kr es]
 split at hp<;>first | (cases hp;done) | skip
 rename_i u1 h1
 try simp only at hp
 try simp only []
 rw [Zy] at hp
 split at hp<;>first | (cases hp;done) | skip
 rename_i x hx
 obtain ⟨x',hx',hxx⟩:=Kp hR hx
 rw [Zy,hx']
 have tup:∀ {v v':Value} {g:Bool},VR r v v'→VR r (bif ok then .tuple #[v,.bool g] else v) (if ok then .tuple #[v',.bool g] else v'):=by
  intro v v' g hv
  cases ok with
  | false=>exact hv
  | true=>
   refine .tuple rfl fun i u u' e1 e2=>?_
   match i with
   | 0=>simp at e1 e2;subst e1 e2;exact hv
   | 1=>simp at e1 e2;subst e1 e2;exact Yf rfl
   | i+2=>simp at e1
 match x,x',hxx with
 | some (i,w0),some (i',w'),hxx=>
  have hp:some (w0,true)=some (v,got):=hp
  cases hp
  exact ⟨_,rfl,tup hxx.2⟩
 | none,none,_=>
  simp only [Zy] at hp ⊢
  split at hp<;>first | (cases hp;done) | skip
  rename_i z hz
  have hp:some (z,false)=some (v,got):=hp
  cases hp
  try rw [hz]
  exact ⟨_,rfl,tup (Yf (by simpa using hf))⟩
theorem Ue {t kt et:TypeId} {b:Nat} {es es':Array MapEntry} {c c':Nat} {k v:Value} {w:World} (hu:P.underlying t=some (.map kt et)) (hg:w.heap[b]? = some (.map es c)) (hp:Zz P (XN t es c k v)=some (es',c')) :
  (Instr.mapUpdate t (.map (some b)) k v).run P w=(setObj b (.map es' c')).run P w:=by
 have hgo:(getObj b).run P w=.ok (.map es c) w:=by simp [getObj,Sem.run,hg]
 have hpu:Zz P (underlying t)=some (.map kt et):=by
  simp only [underlying,Zy,program,Zz,hu]
  rfl
 unfold XN at hp
 rw [Zy,hpu] at hp
 simp only at hp
 rw [Zy] at hp
 split at hp<;>first | (cases hp;done) | skip
 rename_i u1 h1
 rw [Zy] at hp
 split at hp<;>first | (cases hp;done) | skip
 rename_i u2 h2
 unfold Instr.mapUpdate
 simp only [Sem.run_bind,run_underlying hu,Result.andThen_ok,hgo,ZT _ h1 w,ZT _ h2 w]
 cases u2 with
 | none=>
  simp only at hp ⊢
  cases hp;rfl
 | some q=>
  obtain ⟨i,x⟩:=q
  simp only at hp ⊢
  rw [Zy] at hp
  split at hp<;>first | (cases hp;done) | skip
  rename_i k2 h3
  simp only [Sem.run_bind,ZT _ h3 w,Result.andThen_ok]
  cases hp;rfl

theorem y8 {t kt et:TypeId} {b:Nat} {es es':Array MapEntry} {c:Nat} {k:Value} {w:World} {ts:Array TypeId} {ty:TypeId} (h0:ts[0]? = some t) (hu:P.underlying t=some (.map kt et)) (hg:w.heap[b]? = some (.map es c)) (hp:Zz P (VI t es k)=some es') :
  (Builtin.delete_ ts ty #[.map (some b),k]).run P w=((setObj b (.map es' c)).run P w).andThen fun _ w=>.ok (.tuple #[]) w:=by
 have hgo:(getObj b).run P w=.ok (.map es c) w:=by simp [getObj,Sem.run,hg]
 have hpu:Zz P (underlying t)=some (.map kt et):=by
  simp only [underlying,Zy,program,Zz,hu]
  rfl
 unfold VI at hp
 rw [Zy,hpu] at hp
 simp only at hp
 rw [Zy] at hp
 split at hp<;>first | (cases hp;done) | skip
 rename_i u1 h1
 rw [Zy] at hp
 split at hp<;>first | (cases hp;done) | skip
 rename_i u2 h2
 unfold Builtin.delete_
 simp only [h0,List.getElem?_toArray,List.getElem?_cons_zero,List.getElem?_cons_succ,Sem.run_bind,run_underlying hu,Result.andThen_ok,hgo,ZT _ h1 w,ZT _ h2 w]
 cases u2 with
 | none=>simp only at hp ⊢;cases hp;simp only [Sem.run_bind,Sem.run_pure]
 | some q=>obtain ⟨i,x⟩:=q;simp only at hp ⊢;cases hp;simp only [Sem.run_bind,Sem.run_pure]

theorem EsR.get? {r:Ren}:∀ {l l':List MapEntry},EsR r l l'→∀ i:Nat,(l[i]? = none∧l'[i]? = none)∨∃ x y:MapEntry,l[i]? = some x∧l'[i]? = some y∧y.key=x.key∧y.born=x.born∧VR r x.val y.val
 | [],[],_,i=>.inl ⟨rfl,rfl⟩
 | x :: l,y :: l',h,0=>.inr ⟨x,y,rfl,rfl,h.1⟩
 | x :: l,y :: l',h,i+1=>by simpa using EsR.get? h.2 i
 | [],_ :: _,h,_=>h.elim
 | _ :: _,[],h,_=>h.elim
theorem EsR.modify {r:Ren} {f f':MapEntry→MapEntry} (hf:∀ x y:MapEntry,y.key=x.key∧y.born=x.born∧VR r x.val y.val→(f' y).key=(f x).key∧(f' y).born=(f x).born∧VR r (f x).val (f' y).val):∀ {l l':List MapEntry},EsR r l l'→∀ i,EsR r (l.modify i f) (l'.modify i f')
 | [],[],_,i=>by cases i<;>exact True.intro
 | x :: l,y :: l',h,0=>⟨hf x y h.1,h.2⟩
 | x :: l,y :: l',h,i+1=>⟨h.1,EsR.modify hf h.2 i⟩
 | [],_ :: _,h,_=>h.elim
 | _ :: _,[],h,_=>h.elim
theorem EsR.snoc {r:Ren} {x y:MapEntry} (q:y.key=x.key∧y.born=x.born∧VR r x.val y.val):∀ {l l':List MapEntry},EsR r l l'→EsR r (l ++ [x]) (l' ++ [y])
 | [],[],_=>⟨q,True.intro⟩
 | _ :: _,_ :: _,h=>⟨h.1,EsR.snoc q h.2⟩
 | [],_ :: _,h=>h.elim
 | _ :: _,[],h=>h.elim
theorem ql {t:TypeId} {es es':Array MapEntry} {c:Nat} {k v v':Value} (hR:EsR r es.toList es'.toList) (hv:VR r v v') {es2:Array MapEntry} {c2:Nat} (hp:Zz P (XN t es c k v)=some (es2,c2)) :
  ∃ es3,Zz P (XN t es' c k v')=some (es3,c2)∧EsR r es2.toList es3.toList:=by
 unfold XN at hp ⊢
 rw [Zy] at hp ⊢
 split at hp<;>first | (cases hp;done) | skip
 rename_i d hd
 cases d<;>try (simp [Zz,stuck] at hp;done)
 rename_i kt et
 try simp only at hp
 try simp only []
 rw [Zy] at hp ⊢
 split at hp<;>first | (cases hp;done) | skip
 rename_i u1 h1
 try simp only at hp
 try simp only []
 rw [Zy] at hp
 split at hp<;>first | (cases hp;done) | skip
 rename_i x hx
 obtain ⟨x',hx',hxx⟩:=Kp hR hx
 rw [Zy,hx']
 match x,x',hxx with
 | some (i,w0),some (i',w'),hxx=>
  obtain ⟨rfl,hw⟩:=hxx
  simp only at hp ⊢
  have hkey:((es'[i']?).map (·.key)).getD k=((es[i']?).map (·.key)).getD k:=by
   rw [← Array.getElem?_toList,← Array.getElem?_toList]
   rcases hR.get? i' with ⟨a,b⟩ | ⟨a,b,e1,e2,e3,_⟩
   ·rw [a,b]
   ·rw [e1,e2];simp [e3]
  rw [Zy] at hp ⊢
  rw [hkey]
  split at hp<;>first | (cases hp;done) | skip
  rename_i k2 hk2
  have hp:some (es.modify i' fun e=>{ e with key:=k2,val:=v },c)=some (es2,c2):=hp
  cases hp
  refine ⟨_,rfl,?_⟩
  rw [Array.toList_modify,Array.toList_modify]
  exact EsR.modify (f:=fun e=>{ e with key:=k2,val:=v }) (f':=fun e=>{ e with key:=k2,val:=v' }) (fun x y q=>⟨rfl,q.2.1,hv⟩) hR i'
 | none,none,_=>
  have hp:some (es.push { key:=k,val:=v,born:=c },c+1)=some (es2,c2):=hp
  cases hp
  refine ⟨_,rfl,?_⟩
  rw [Array.toList_push,Array.toList_push]
  exact EsR.snoc (x:={ key:=k,val:=v,born:=c }) (y:={ key:=k,val:=v',born:=c }) ⟨rfl,rfl,hv⟩ hR
theorem Kw {t kt et:TypeId} {b:Nat} {es es':Array MapEntry} {c c':Nat} {k v:Value} {w:World} (hu:P.underlying t=some (.map kt et)) (hg:w.heap[b]? = some (.map es c)) (hp:Zz P (UI t es c k)=some (v,es',c')) :
  (Instr.mapEntry t (.map (some b)) k).run P w=(do setObj b (.map es' c');pure v:Sem Value).run P w:=by
 have hgo:(getObj b).run P w=.ok (.map es c) w:=by simp [getObj,Sem.run,hg]
 have hpu:Zz P (underlying t)=some (.map kt et):=by
  simp only [underlying,Zy,program,Zz,hu]
  rfl
 unfold UI at hp
 rw [Zy,hpu] at hp
 simp only at hp
 rw [Zy] at hp
 split at hp<;>first | (cases hp;done) | skip
 rename_i u1 h1
 rw [Zy] at hp
 split at hp<;>first | (cases hp;done) | skip
 rename_i u2 h2
 unfold Instr.mapEntry
 simp only [Sem.run_bind,run_underlying hu,Result.andThen_ok,hgo,ZT _ h1 w,ZT _ h2 w]
 cases u2 with
 | none=>
  simp only at hp ⊢
  rw [Zy] at hp
  split at hp<;>first | (cases hp;done) | skip
  rename_i k2 h3
  simp only [Sem.run_bind,ZT _ h3 w,Result.andThen_ok]
  cases hp;rfl
 | some q=>
  obtain ⟨i,x⟩:=q
  simp only at hp ⊢
  rw [Zy] at hp
  split at hp<;>first | (cases hp;done) | skip
  rename_i k2 h3
  simp only [Sem.run_bind,ZT _ h3 w,Result.andThen_ok]
  cases hp;rfl
theorem Vm {t:TypeId} {b:Nat} {es es':Array MapEntry} {c:Nat} {s v:Value} {w:World} (hg:w.heap[b]? = some (.map es c)) (hp:Zz P (XL es s v)=some es') :
  (Instr.entryStore t (.map (some b)) s v).run P w=(setObj b (.map es' c)).run P w:=by
 have hgo:(getObj b).run P w=.ok (.map es c) w:=by simp [getObj,Sem.run,hg]
 unfold XL at hp
 rw [Zy] at hp
 split at hp<;>first | (cases hp;done) | skip
 rename_i u1 h1
 unfold Instr.entryStore
 simp only [Sem.run_bind,Result.andThen_ok,hgo,ZT _ h1 w]
 split at hp<;>first | (cases hp;done) | skip
 rename_i i hi
 cases hp
 rw [hi]

theorem QD (r:Ren) (n:Nat) (w:World) (lz:Option (Nat × Nat)):VR (r.add n ⟨w.heap.size,0,lz⟩) (ptr n) (.pointer (some ⟨w.heap.size,0,none⟩)):=by
 have:=VR.ptr (r:=r.add n ⟨w.heap.size,0,lz⟩) (o:=0) (Ren.add_same r n ⟨w.heap.size,0,lz⟩)
 simpa [ptr] using this
theorem Ke (r:Ren) (n:Nat) (w:World) {a b:Nat} (h:a≤b):VR (r.add n ⟨w.heap.size,0,none⟩) (.slice (some ⟨n,0,none⟩) a b) (.slice (some ⟨w.heap.size,0,none⟩) a b):=by
 have:=VR.slice (r:=r.add n ⟨w.heap.size,0,none⟩) (o:=0) (Ren.add_same r n ⟨w.heap.size,0,none⟩) rfl h
 simpa using this

theorem Y1 {n c:Nat} {u:Value} (h:VR r (.slice none n c) u):u=.slice none n c:=by cases h;rfl
theorem qC (hT:Xk r A.n A.T tmps) {d n:Nat} {q:Option Operand} (h:YK A d q=some n):(q=none∧n=d)∨∃ x k,q=some x∧evT tmps x=.int k (n:Int):=by
 cases q with
 | none=>simp [YK] at h;exact .inl ⟨rfl,h.symm⟩
 | some x=>
  simp only [YK] at h
  cases hx:ev A x with
  | none=>simp [hx] at h
  | some v=>
   rw [hx] at h
   split at h<;>first | (cases h;done) | skip
   rename_i k m heq
   cases heq;cases h
   exact .inr ⟨x,k,rfl,Xl (evR hT hx)⟩
theorem VO {k:IntKind} {n y:Nat} {c:BoundsCode} (h:n≤y) (w:World):(Instr.sliceBound (.int k (n:Int)) y c).run P w=.ok n w:=by
 have:(0:Int)≤(n:Int)∧(n:Int)≤(y:Int):=by omega
 simp [Instr.sliceBound,asIntOf]
 intro q;omega
theorem Xx (hT:Xk r A.n A.T tmps) {isS:Bool} {len cap l h:Nat} {lw hi:Option Operand} (hh:YK A len hi=some h) (hl:YK A 0 lw=some l) (h1:h≤cap) (h2:l≤h) (w:World) :
  (Instr.sliceBounds isS len cap (lw.map (evT tmps)) (hi.map (evT tmps)) none).run P w=.ok (l,h,cap) w:=by
 unfold Instr.sliceBounds
 rcases qC hT hh with ⟨rfl,rfl⟩ | ⟨x,k,rfl,e1⟩<;>rcases qC hT hl with ⟨rfl,rfl⟩ | ⟨y,k',rfl,e2⟩
 ·simp
 ·simp [e2,VO h2]
 ·simp [e1,VO h1]
 ·simp [e1,e2,VO h1,VO h2]

theorem JI {t:TypeId} {x:Operand} {lw hi mx:Option Operand} (hT:Xk r A.n A.T tmps) {v:Value} {H':Hp} {k:Kd} {lo:Nat} {o:Oper} (hop:o.op=.slice t x lw hi mx) (h:Zu P lo A H o=some (.val v H',k)) :
  H'=H∧((k=.pure∧∃ v',VR r v v'∧∀ w,(Instr.sliceAt t (evT tmps x) (lw.map (evT tmps)) (hi.map (evT tmps)) (mx.map (evT tmps))).run P w=.ok v' w)∨
   ∃ b ob,k=.read b∧H.t.get b=some ob∧((∀ loc,r b=some loc→∃ x,ObR P r loc ob x)→∃ v',VR r v v'∧∀ w,(Instr.sliceAt t (evT tmps x) (lw.map (evT tmps)) (hi.map (evT tmps)) (mx.map (evT tmps))).run P w=.ok v' w)):=by
 unfold Zu at h
 simp only [hop] at h
 split at h<;>first | (cases h;done) | skip
 ·rename_i e a len cap hu hx
  split at h<;>first | (cases h;done) | skip
  rename_i i hh ll hi' hhi hlo'
  cases a with
  | none=>
   simp only at h
   obtain ⟨hc,h⟩:=Zc h
   cases h
   simp only [Bool.and_eq_true,ZA,decide_eq_true_eq] at hc
   obtain ⟨⟨⟨rfl,rfl⟩,rfl⟩,rfl⟩:=hc
   refine ⟨rfl,.inl ⟨rfl,_,.nilSlice,fun w=>?_⟩⟩
   have k:=evR hT hx
   have e3:evT tmps x=.slice none 0 0:=Y1 k
   have hb:=Xx (P:=P) hT (isS:=true) (len:=0) (cap:=0) hhi hlo' (Nat.le_refl _) (Nat.le_refl _) w
   rw [e3]
   simp [Instr.sliceAt,Instr.slice,run_underlying hu,hb,ZI hi']
  | some ad=>
   simp only at h
   have k0:=evR hT hx
   cases hspt:ad.spot with
   | some sp=>
    rw [hspt] at h
    simp only at h
    obtain ⟨hc,h⟩:=Zc h
    cases h
    simp only [Bool.and_eq_true,ZA,decide_eq_true_eq] at hc
    obtain ⟨⟨⟨rfl,rfl⟩,rfl⟩,rfl⟩:=hc
    obtain ⟨wb,wo,rfl,_,_,a',c',e3,hw⟩:=qJ k0 hspt
    refine ⟨rfl,.inl ⟨rfl,.slice (some (if c'=0 then a' else a'.add (0 * i.size))) 0 (c' - 0),?_,fun w=>?_⟩⟩
    ·have q0:(if c'=0 then a' else a'.add (0 * i.size))=a':=by simp [Addr.add]
     rw [q0];exact .weird hw
    have hb:=Xx (P:=P) hT (isS:=true) (len:=0) (cap:=c') hhi hlo' (Nat.zero_le _) (Nat.le_refl _) w
    rw [e3]
    simp only [Instr.sliceAt,Instr.slice,Sem.run_bind,run_underlying hu,Result.andThen_ok,Option.map_none]
    simp only [hb,Result.andThen_ok,ZI hi',Sem.run_pure,Option.map_some]
    by_cases hcl:c'=0
    ·simp [hcl]
    ·simp [hcl]
   | none=>
   rw [hspt] at h
   obtain ⟨loc,c',e1,e2,e3,e4⟩:=Xq k0 (.inl hspt)
   split at h<;>first | (cases h;done) | (exfalso;rename_i q;cases q;done) | skip
   ·rename_i cs e' hget
    obtain ⟨hc,h⟩:=Zc h
    simp only [Bool.and_eq_true,ZA,decide_eq_true_eq,Bool.not_eq_true',decide_eq_false_iff_not] at hc
    obtain ⟨⟨⟨hee,hsz⟩,h1⟩,h2⟩:=hc
    cases h
    cases h3:(!(Nat.beq ll len) || Nat.beq ll 0) with
    | false=>
     rw [cond_false]
     simp only [Bool.or_eq_false_iff,Bool.not_eq_false',ZA,decide_eq_true_eq,decide_eq_false_iff_not] at h3
     obtain ⟨h3,h4⟩:=h3
     subst h3
     have h1:=Nat.le_of_ble_eq_true h1
     have h2:=Nat.le_of_ble_eq_true h2
     obtain rfl:hh=ll:=by omega
     refine ⟨rfl,.inr ⟨_,_,rfl,hget,fun hOb=>?_⟩⟩
     have hle:hh≤c':=by
      rcases e4 with ⟨_,_,q⟩ | ⟨_,_,_,q,_⟩
      ·omega
      ·exact q
     refine ⟨.slice (some (if c'=hh then ⟨loc.blk,ad.off+loc.delta,none⟩ else (⟨loc.blk,ad.off+loc.delta,none⟩:Addr).add (hh * i.size))) 0 (c' - hh),?_,fun w=>?_⟩
     ·by_cases hcl:c'=hh
      ·exact .weird (.inl (by omega))
      ·rw [if_neg hcl]
       rcases hOb with hOb
       obtain ⟨_,C,_,_,hzz⟩:=hOb loc e1
       rcases hzz with ⟨hf,_⟩ | ⟨total,sz,_,hlo2,_,_,hsz2,hce⟩
       ·cases hf
       rcases e4 with ⟨hf,_⟩ | ⟨t2,s2,hlo3,hle',heq⟩
       ·rw [hlo2] at hf;cases hf
       rw [hlo2] at hlo3;cases hlo3
       have hsi:i.size=sz:=by rw [← hce,← hee];simp [Program.cellsOf,hi']
       have hmul:(c' - hh) * sz=c' * sz - hh * sz:=Nat.sub_mul _ _ _
       have hml:hh * sz≤c' * sz:=Nat.mul_le_mul_right _ hle
       refine .weird (.inr ⟨loc,total,sz,e1,hlo2,?_,?_⟩)
       ·rw [YU,hsi];congr 1;omega
       ·rw [hsi,hmul];omega
     have hb:=Xx (P:=P) hT (isS:=true) (len:=hh) (cap:=c') hhi hlo' (by omega) (Nat.le_refl _) w
     rw [e3]
     simp only [Instr.sliceAt,Instr.slice,Sem.run_bind,run_underlying hu,Result.andThen_ok,Option.map_none]
     simp only [hb,Result.andThen_ok,ZI hi',Sem.run_pure,Option.map_some]
     by_cases hcl:c'=hh
     ·simp [hcl]
     ·simp [hcl]
    | true=>
    rw [cond_true]
    simp only [ZA,decide_eq_true_eq,Bool.not_eq_true',Bool.or_eq_true,decide_eq_false_iff_not] at h3
    have h1:=Nat.le_of_ble_eq_true h1
    have h2:=Nat.le_of_ble_eq_true h2
    subst hee
    refine ⟨rfl,.inr ⟨_,_,rfl,hget,fun hOb=>?_⟩⟩
    obtain ⟨_,C,_,_,hzz⟩:=hOb loc e1
    rcases hzz with ⟨hf,_⟩ | ⟨total,sz,_,hlo2,_,_,hsz2,hce⟩
    ·cases hf
    rcases e4 with ⟨hf,_⟩ | ⟨t2,s2,hlo3,hle,heq⟩
    ·rw [hlo2] at hf;cases hf
    rw [hlo2] at hlo3;cases hlo3
    have hsi:i.size=sz:=by rw [← hce];simp [Program.cellsOf,hi']
    have hlc:ll≤c':=by omega
    have hmul:(c' - ll) * sz=c' * sz - ll * sz:=Nat.sub_mul _ _ _
    have hml:ll * sz≤c' * sz:=Nat.mul_le_mul_right _ hlc
    refine ⟨.slice (some ((⟨loc.blk,ad.off+loc.delta,none⟩:Addr).add (ll * i.size))) (hh - ll) (c' - ll),?_,fun w=>?_⟩
    ·obtain ⟨ab,ao,asp⟩:=ad
     simp only at e1 e2 e3 heq
     subst e2
     rw [YU,YU]
     have:=VR.loose (r:=r) (o:=ao+ll * i.size) (n:=hh - ll) (c:=cap - ll) (c':=c' - ll) e1 hlo2 (by omega) (by rw [hsi,hmul];omega)
     have hD:ao+ll * i.size+loc.delta=ao+loc.delta+ll * i.size:=by omega
     rw [hD] at this
     exact this
    ·have hb:=Xx (P:=P) hT (isS:=true) (len:=len) (cap:=c') hhi hlo' (by omega) h2 w
     rw [e3]
     simp only [Instr.sliceAt,Instr.slice,Sem.run_bind,run_underlying hu,Result.andThen_ok,Option.map_none]
     simp only [hb,Result.andThen_ok,ZI hi',Sem.run_pure,Option.map_some]
     by_cases hcl:c'=ll
     ·have hll:ll=0:=by
       rcases h3 with h3 | h3
       ·omega
       ·exact h3
      subst hll
      simp [hcl,Addr.add]
     ·simp [hcl]
   ·rename_i cs e' hget
    obtain ⟨hc,h⟩:=Zc h
    cases h
    simp only [Bool.and_eq_true] at hc
    obtain ⟨h1,h2⟩:=hc
    have h1:=Nat.le_of_ble_eq_true h1
    have h2:=Nat.le_of_ble_eq_true h2
    refine ⟨rfl,.inr ⟨_,_,rfl,hget,fun hOb=>?_⟩⟩
    obtain ⟨_,C,_,_,hzz⟩:=hOb loc e1
    rcases hzz with ⟨_,hln,hd0,hCs⟩ | ⟨_,_,hf,_⟩
    rotate_left
    ·cases hf
    rcases e4 with ⟨_,hcc,hle⟩ | ⟨_,_,hf,_⟩
    rotate_left
    ·rw [hln] at hf;cases hf
    subst hcc
    obtain ⟨ab,ao,asp⟩:=ad
    simp only at e1 e2 e3
    subst e2
    refine ⟨.slice (some (if c'=ll then ⟨loc.blk,ao+loc.delta,none⟩ else (⟨loc.blk,ao+loc.delta,none⟩:Addr).add (ll * i.size))) (hh - ll) (c' - ll),?_,fun w=>?_⟩
    ·simp only [ZA]
     by_cases hcl:c'=ll
     ·simp only [hcl,decide_true,cond_true,if_true]
      exact VR.slice e1 hln (by omega)
     ·simp only [hcl,decide_false,cond_false,if_false]
      rw [YU,YU]
      have:=VR.slice (r:=r) (o:=ao+ll * i.size) (n:=hh - ll) (c:=c' - ll) e1 hln (by omega)
      have hD:ao+ll * i.size+loc.delta=ao+loc.delta+ll * i.size:=by omega
      rw [hD] at this
      exact this
    ·have hb:=Xx (P:=P) hT (isS:=true) (len:=len) (cap:=c') hhi hlo' h1 h2 w
     rw [e3]
     simp only [Instr.sliceAt,Instr.slice,Sem.run_bind,run_underlying hu,Result.andThen_ok,Option.map_none]
     simp only [hb,Result.andThen_ok,ZI hi',Sem.run_pure,Option.map_some]
     by_cases hcl:c'=ll<;>simp [hcl]
   ·rename_i cs hget
    obtain ⟨hc,h⟩:=Zc h
    cases h
    simp only [Bool.and_eq_true] at hc
    obtain ⟨h1,h2⟩:=hc
    have h1:=Nat.le_of_ble_eq_true h1
    have h2:=Nat.le_of_ble_eq_true h2
    refine ⟨rfl,.inr ⟨_,_,rfl,hget,fun hOb=>?_⟩⟩
    obtain ⟨_,hln,_⟩:=hOb loc e1
    rcases e4 with ⟨_,hcc,hle⟩ | ⟨_,_,hf,_⟩
    rotate_left
    ·rw [hln] at hf;cases hf
    subst hcc
    obtain ⟨ab,ao,asp⟩:=ad
    simp only at e1 e2 e3
    subst e2
    refine ⟨.slice (some (if c'=ll then ⟨loc.blk,ao+loc.delta,none⟩ else (⟨loc.blk,ao+loc.delta,none⟩:Addr).add (ll * i.size))) (hh - ll) (c' - ll),?_,fun w=>?_⟩
    ·simp only [ZA]
     by_cases hcl:c'=ll
     ·simp only [hcl,decide_true,cond_true,if_true]
      exact VR.slice e1 hln (by omega)
     ·simp only [hcl,decide_false,cond_false,if_false]
      rw [YU,YU]
      have:=VR.slice (r:=r) (o:=ao+ll * i.size) (n:=hh - ll) (c:=c' - ll) e1 hln (by omega)
      have hD:ao+ll * i.size+loc.delta=ao+loc.delta+ll * i.size:=by omega
      rw [hD] at this
      exact this
    ·have hb:=Xx (P:=P) hT (isS:=true) (len:=len) (cap:=c') hhi hlo' h1 h2 w
     rw [e3]
     simp only [Instr.sliceAt,Instr.slice,Sem.run_bind,run_underlying hu,Result.andThen_ok,Option.map_none]
     simp only [hb,Result.andThen_ok,ZI hi',Sem.run_pure,Option.map_some]
     by_cases hcl:c'=ll<;>simp [hcl]
 ·rename_i n e ad hu hx
  split at h<;>first | (cases h;done) | skip
  rename_i i hh ll hi' hhi hlo'
  split at h<;>first | (cases h;done) | skip
  rename_i cs e' hget
  obtain ⟨hc,h⟩:=Zc h
  cases h
  simp only [Bool.and_eq_true] at hc
  obtain ⟨h1,h2⟩:=hc
  have h1:=Nat.le_of_ble_eq_true h1
  have h2:=Nat.le_of_ble_eq_true h2
  have k0:=evR hT hx
  obtain ⟨loc,e1,e2,e3⟩:=UT k0
  refine ⟨rfl,.inr ⟨_,_,rfl,hget,fun hOb=>?_⟩⟩
  obtain ⟨_,C,_,_,hzz⟩:=hOb loc e1
  rcases hzz with ⟨_,hln,hd0,hCs⟩ | ⟨_,_,hf,_⟩
  rotate_left
  ·cases hf
  obtain ⟨ab,ao,asp⟩:=ad
  simp only at e1 e2 e3
  subst e2
  refine ⟨.slice (some (if n=ll then ⟨loc.blk,ao+loc.delta,none⟩ else (⟨loc.blk,ao+loc.delta,none⟩:Addr).add (ll * i.size))) (hh - ll) (n - ll),?_,fun w=>?_⟩
  ·simp only [ZA]
   by_cases hcl:n=ll
   ·simp only [hcl,decide_true,cond_true,if_true]
    exact VR.slice e1 hln (by omega)
   ·simp only [hcl,decide_false,cond_false,if_false]
    rw [YU,YU]
    have:=VR.slice (r:=r) (o:=ao+ll * i.size) (n:=hh - ll) (c:=n - ll) e1 hln (by omega)
    have hD:ao+ll * i.size+loc.delta=ao+loc.delta+ll * i.size:=by omega
    rw [hD] at this
    exact this
  ·have hb:=Xx (P:=P) hT (isS:=false) (len:=n) (cap:=n) hhi hlo' h1 h2 w
   rw [e3]
   simp only [Instr.sliceAt,Sem.run_bind,run_underlying hu,Result.andThen_ok,Option.map_none,Instr.sureAddr,Sem.run_pure]
   simp [hb,ZI hi']
theorem K6 {w:World} {a b:Addr} {C1 C2:Array Value} {e1 e2:TypeId} (ha:w.heap[a.block]? = some (.cells C1 e1 (0,0))) (hb:w.heap[b.block]? = some (.cells C2 e2 (0,0))) :
  (sameAddr a b).run P w=.ok (if a.block=b.block then a == b else false) w:=by
 have f1:∀ n,w.frozen? { block:=a.block,off:=n }=false:=fun n=>by unfold World.frozen?;simp [ha]
 have f2:∀ n,w.frozen? { block:=b.block,off:=n }=false:=fun n=>by unfold World.frozen?;simp [hb]
 have g1:w.frozen? a=false:=by unfold World.frozen?;simp [ha]
 have g2:w.frozen? b=false:=by unfold World.frozen?;simp [hb]
 have s1:w.shape? a.block=some (e1,C1.size):=by unfold World.shape?;simp [ha]
 have s2:w.shape? b.block=some (e2,C2.size):=by unfold World.shape?;simp [hb]
 unfold sameAddr
 by_cases q:a.block=b.block
 ·simp [q]
 ·have q2:(a.block == b.block)=false:=by simpa using q
  have st1:∀ w',w'=w→(stringish a).run P w'=.ok false w':=fun w' e=>by
   subst e
   unfold stringish
   simp [frozen,shape,Sem.run_bind,Sem.run,g1,s1,f1]
  have st2:∀ w',w'=w→(stringish b).run P w'=.ok false w':=fun w' e=>by
   subst e
   unfold stringish
   simp [frozen,shape,Sem.run_bind,Sem.run,g2,s2,f2]
  have v1:(noView a).run P w=.ok () w:=by unfold noView viewAt;simp [shape,Sem.run_bind,Sem.run,s1]
  have v2:(noView b).run P w=.ok () w:=by unfold noView viewAt;simp [shape,Sem.run_bind,Sem.run,s2]
  have m:(mayBeOne a b).run P w=.ok false w:=by
   unfold mayBeOne
   simp [Sem.run_bind,st1,st2]
  have fz:(frozen a).run P w=.ok false w:=by unfold frozen;simp [Sem.run,g1]
  simp [q,Sem.run_bind,fz,v1,v2,m]
theorem Zb4 (h:Rel P r base H w) {t:TypeId} {a b a' b':Value} {c:Bool} (he:yN P H t a b=some c) (ka:VR r a a') (kb:VR r b b') (x y:Operand) :
  (do eqGuard .eql t x y a' b';binOp .eql t a' b').run P w=.ok (.bool c) w:=by
 unfold yN at he
 split at he<;>first | (cases he;done) | skip
 rename_i e p q hu
 split at he<;>first | (cases he;done) | skip
 rename_i i c1 e1 c2 e2 hi hp hq
 cases hz:Nat.beq i.size 0 with
 | true=>rw [hz] at he;cases he
 | false=>
  rw [hz] at he
  simp only [cond_false,Option.some.injEq] at he
  have hz2:i.size≠0:=fun z=>by rw [z] at hz;cases hz
  cases ka with
  | ptr k1=>
   rename_i l1
   cases kb with
   | ptr k2=>
    rename_i l2
    obtain ⟨C1,o1,_,d1⟩:=h.cont _ _ _ k1 hp
    obtain ⟨C2,o2,_,d2⟩:=h.cont _ _ _ k2 hq
    have d1:l1.delta=0:=by
     rcases d1 with z | ⟨_,_,z,_⟩
     ·exact z.2.2.1
     ·cases z
    have d2:l2.delta=0:=by
     rcases d2 with z | ⟨_,_,z,_⟩
     ·exact z.2.2.1
     ·cases z
    rw [d1,d2]
    have es:(sameAddr ⟨l1.blk,0+0,none⟩ ⟨l2.blk,0+0,none⟩).run P w=.ok c w:=by
     rw [K6 (C1:=C1) (C2:=C2) o1 o2]
     by_cases hpq:p=q
     ·subst hpq
      rw [k1] at k2
      cases k2
      rw [← he]
      simp
     ·have hne:l1.blk≠l2.blk:=fun z=>hpq (h.inj p q l1 l2 k1 k2 z ⟨_,hp,by simp,rfl⟩ ⟨_,hq,by simp,rfl⟩)
      have:Nat.beq p q=false:=by
       cases hb:Nat.beq p q with
       | false=>rfl
       | true=>exact absurd (Nat.eq_of_beq_eq_true hb) hpq
      rw [if_neg hne,← he,this]
    have eb:(binOp .eql t (.pointer (some ⟨l1.blk,0+0,none⟩)) (.pointer (some ⟨l2.blk,0+0,none⟩)))=(do pure (.bool (← Op.equal t (.pointer (some ⟨l1.blk,0+0,none⟩)) (.pointer (some ⟨l2.blk,0+0,none⟩))))):=rfl
    have eq:(Op.equal t (.pointer (some ⟨l1.blk,0+0,none⟩)) (.pointer (some ⟨l2.blk,0+0,none⟩))).run P w=.ok c w:=by
     show (Op.equalIn (9999+1) t _ _).run P w=_
     unfold Op.equalIn
     simp only [Sem.run_bind,run_underlying hu,Result.andThen_ok,ZI hi]
     rw [if_pos hz2]
     exact es
    have eg:(eqGuard .eql t x y (.pointer (some ⟨l1.blk,0+0,none⟩)) (.pointer (some ⟨l2.blk,0+0,none⟩))).run P w=.ok () w:=rfl
    rw [eb]
    simp only [Sem.run_bind,eg,Result.andThen_ok,eq,Sem.run_pure]
end
end Go.Ax

namespace Go.Ax
open Go Go.RowKit
section
variable {P:Program} {lo base:Nat} {r:Ren} {A:Fr} {H:Hp} {w:World} {tmps:Array Value}

theorem Vk {ts:Array TypeId} {sT xT ty:TypeId} {s x:Value} (h0:ts[0]? = some sT) (h1:ts[1]? = some xT):Builtin.append_ ts ty #[s,x]=Builtin.append_ #[sT,xT] ty #[s,x]:=by
 unfold Builtin.append_
 simp only [h0,h1,List.getElem?_toArray,List.getElem?_cons_zero,List.getElem?_cons_succ]

theorem Ko {a b:Value} {l:List Value} (h:LR r [a,b] l):∃ a' b',l=[a',b']∧VR r a a'∧VR r b b':=by
 obtain ⟨a',l',rfl,ha,hl⟩:=h.of_cons
 obtain ⟨b',l'',rfl,hb,hl'⟩:=hl.of_cons
 rw [hl'.of_nil]
 exact ⟨a',b',rfl,ha,hb⟩
theorem UM {a:Value} {l:List Value} (h:LR r [a] l):∃ a',l=[a']∧VR r a a':=by
 obtain ⟨a',l',rfl,ha,hl⟩:=h.of_cons
 rw [hl.of_nil]
 exact ⟨a',rfl,ha⟩

theorem qU (h:Rel P r base H w) (hlo:lo≤H.next) {b:Builtin} {ts:Array TypeId} {ty:TypeId} {consts:Array Bool} {vs vs':List Value} {rs:Rs} {k:Kd} (kv:LR r vs vs') (hb:Ys P lo H b ts vs=some (rs,k)) :
  OpS P lo base r H w (builtin b ts ty consts vs'.toArray) rs:=by
 unfold Ys at hb
 split at hb
 ·-- append
  rename_i s x
  obtain ⟨s',x',rfl,ks,kx⟩:=Ko kv
  split at hb<;>first | (cases hb;done) | skip
  rename_i t0 t1 h0 h1
  have hap:=Vk (ty:=ty) (s:=s') (x:=x') h0 h1
  split at hb<;>first | (cases hb;done) | skip
  ·rename_i e size e1 hse hu1
   obtain ⟨hu,hsz0,hcells,i,z,hi,hsz,hby,hz,hzs⟩:=ZU hse
   split at hb<;>first | (cases hb;done) | skip
   rename_i n news hsrc
   obtain ⟨L,kn,hlen,hfc,hL⟩:=ZaF h kx hsrc
   have hval:∀ v H' k',Z6 lo H e size s n news=some (.val v H',k')→Zaq P lo base r H w (Builtin.append_ #[t0,t1] ty #[s',x']) v H':=fun v H' k' q=>
    zv h hlo hu hsz0 hcells hi hsz hby hz hzs ks kn hL (.inl ⟨e1,hu1,hlen,hfc⟩) q
   cases rs with
   | val v H'=>
    have:=OpS.value (hval v H' k hb)
    rw [← hap] at this
    exact this
   | _=>exfalso;revert hb;unfold Z6;(repeat' split)<;>simp [K9]<;>(repeat' split)<;>simp
  ·rename_i e size kk hse hu1
   obtain ⟨hu,hsz0,hcells,i,z,hi,hsz,hby,hz,hzs⟩:=ZU hse
   split at hb<;>first | (cases hb;done) | skip
   rename_i kx' n z' hzz
   rw [hz] at hzz;cases hzz
   obtain ⟨hn,hb⟩:=Zc hb
   have ex:x'=.int kx' (n:Int):=Xl kx
   have kzz:LR r (ZL z.cells.toList n) (ZL z.cells.toList n):=WT (Wl (ZO hz default).2) n
   have hL:(ZL z.cells.toList n).length=n * size:=by rw [Yu];simp [hzs]
   have hval:∀ v H' k',Z6 lo H e size s n (ZL z.cells.toList n)=some (.val v H',k')→Zaq P lo base r H w (Builtin.append_ #[t0,t1] ty #[s',x']) v H':=fun v H' k' q=>
    zv h hlo hu hsz0 hcells hi hsz hby hz hzs ks kzz hL (.inr ⟨kk,kx',hu1,ex,rfl⟩) q
   cases rs with
   | val v H'=>
    have:=OpS.value (hval v H' k hb)
    rw [← hap] at this
    exact this
   | _=>exfalso;revert hb;unfold Z6;(repeat' split)<;>simp [K9]<;>(repeat' split)<;>simp
 ·-- copy
  rename_i d s
  obtain ⟨d',s',rfl,kd,ks⟩:=Ko kv
  split at hb<;>first | (cases hb;done) | skip
  rename_i t0 h0
  split at hb<;>first | (cases hb;done) | skip
  ·rename_i e0 size a dl dc sa sl sc hse
   obtain ⟨hu,hsz0,hcells,i,z,hi,hsz,hby,hz,hzs⟩:=ZU hse
   simp only at hb
   split at hb<;>first | (cases hb;done) | skip
   rename_i n0 news hsrc
   split at hb<;>first | (cases hb;done) | skip
   rename_i cs e lz hspot hget
   obtain ⟨hc,hb⟩:=Zc hb
   cases hb
   simp only [Bool.and_eq_true] at hc
   obtain ⟨⟨h1,h2⟩,h3⟩:=hc
   have h1:=Nat.le_of_ble_eq_true h1
   have h2:=Nat.le_of_ble_eq_true h2
   obtain ⟨loc,c',e1,e2,e3,e4⟩:=Xq kd (.inl hspot)
   obtain ⟨C,hC,hcR,hzz⟩:=Ve h e1 hget
   have hmin:Nat.min sl dl≤sl:=Nat.min_le_left _ _
   have hs':∃ sa' sc',s'=.slice sa' sl sc'∧VR r (.slice sa (Nat.min sl dl) sc) (.slice sa' (Nat.min sl dl) sc'):=by
    cases ks with
    | nilSlice=>exact ⟨none,0,rfl,by have:Nat.min 0 dl=0:=Nat.zero_min _;rw [this];exact .nilSlice⟩
    | slice e l q=>exact ⟨_,_,rfl,.slice e l (Nat.le_trans hmin q)⟩
    | loose e l a b=>exact ⟨_,_,rfl,.loose e l (Nat.le_trans hmin a) b⟩
    | weird q=>exact ⟨_,_,rfl,by have:Nat.min 0 dl=0:=Nat.zero_min _;rw [this];exact .weird q⟩
   obtain ⟨sa',sc',rfl,ks2⟩:=hs'
   have hn0:n0=Nat.min sl dl:=by
    unfold Xm at hsrc
    split at hsrc
    ·rename_i heq;cases heq;obtain ⟨q,hsrc⟩:=Zc hsrc;cases hsrc
     have:Nat.beq (Nat.min sl dl) 0=true:=q
     rw [ZA] at this;exact (of_decide_eq_true this).symm
    ·rename_i heq;cases heq
     split at hsrc<;>first | (cases hsrc;done) | skip
     ·split at hsrc<;>first | (cases hsrc;done) | skip
      cases hsrc;rfl
     ·obtain ⟨q,hsrc⟩:=Zc hsrc
      cases hsrc
      have q:Nat.beq (Nat.min sl dl) 0=true:=q
      rw [ZA] at q;exact (of_decide_eq_true q).symm
    ·cases hsrc
   subst hn0
   obtain ⟨L,kn,_,hfc,hL⟩:=ZaF h ks2 hsrc
   have hnl:news.length=Nat.min sl dl * size:=by rw [kn.1];exact hL
   have hfits:=QX hzz
   have hp:=Zr.put (lo:=lo) h e1 hget h1 hC kn a.off (by omega)
   have hst:=run_storeCells_at P loc.blk (a.off+loc.delta) e L 0 C w hC (by omega) (V0 h3 kn)
   have hfc':=hfc w rfl
   have hlenr:∀ w:World,(Builtin.lenOf (.slice sa' sl sc')).run P w=.ok sl w:=fun _=>rfl
   have hfirst:(Builtin.firstCells size (Nat.min sl dl) (.slice sa' sl sc')).run P w=.ok L.toArray w:=by
    cases sa' with
    | none=>simpa [Builtin.firstCells] using hfc'
    | some q=>simpa [Builtin.firstCells] using hfc'
   refine ⟨r,.int .i64 (Nat.min sl dl:Nat),w.setRow loc.blk (laid C (loc.delta+a.off) L),?_,.int _ _,hp⟩
   rw [e3]
   have hD:a.off+loc.delta=loc.delta+a.off:=by omega
   rw [hD] at hst
   simp only [Nat.add_zero] at hst
   simp only [builtin,Builtin.copy_,h0,List.getElem?_toArray,List.getElem?_cons_zero,List.getElem?_cons_succ,Sem.run_bind,run_underlying hu,Result.andThen_ok,hlenr,ZI hi,hsz,hfirst,hD]
   have hst2:(storeCells ⟨loc.blk,loc.delta+a.off,none⟩ L).run P w=.ok () (w.setRow loc.blk (laid C (loc.delta+a.off) L)):=by simpa [laid] using hst
   simp only [hst2,Result.andThen_ok,Sem.run_pure,goInt]
  ·rename_i e0 dl dc sa sl sc hse
   obtain ⟨⟨e,size⟩⟩:Nonempty (TypeId × Nat):=⟨e0⟩
   cases hb
   have hdl:=Y1 kd
   obtain ⟨hu,hsz0,hcells,i,z,hi,hsz,hby,hz,hzs⟩:=ZU (e:=e0.1) (size:=e0.2) hse
   cases kd
   have hs':∃ sa' sc',s'=.slice sa' sl sc':=by cases ks<;>exact ⟨_,_,rfl⟩
   obtain ⟨sa',sc',rfl⟩:=hs'
   have hm:Nat.min sl 0=0:=Nat.min_zero _
   refine ⟨r,.int .i64 0,w,?_,.int _ _,Zr.refl h⟩
   have hlenr:∀ w:World,(Builtin.lenOf (.slice sa' sl sc')).run P w=.ok sl w:=fun _=>rfl
   have hfirst:(Builtin.firstCells i.size 0 (.slice sa' sl sc')).run P w=.ok #[] w:=by
    cases sa'<;>simp [Builtin.firstCells,loadCells,loadCellsFrom]
   simp only [builtin,Builtin.copy_,h0,List.getElem?_toArray,List.getElem?_cons_zero,List.getElem?_cons_succ,Sem.run_bind,run_underlying hu,Result.andThen_ok,hlenr,ZI hi,hm,hfirst,Sem.run_pure,goInt]
   rfl
 ·-- cap
  rename_i a n c
  obtain ⟨x',rfl,kx⟩:=UM kv
  split at hb<;>first | (cases hb;done) | skip
  rename_i t h0
  split at hb<;>first | (cases hb;done) | skip
  ·rename_i e hu
   cases hb
   have:=Y1 kx
   subst this
   refine ⟨r,.int .i64 c,w,?_,.int _ _,Zr.refl h⟩
   simp [builtin,Builtin.cap_,h0,run_underlying hu,goInt]
  ·rename_i e ad hu
   split at hb<;>first | (cases hb;done) | skip
   ·rename_i cs e' hsp hget
    cases hb
    obtain ⟨loc,c',e1,e2,e3,e4⟩:=Xq kx (.inl hsp)
    obtain ⟨C,hC,hcR,hzz⟩:=Ve h e1 hget
    rcases hzz with ⟨_,hln,hd0,hCs⟩ | ⟨_,_,hf,_⟩
    rotate_left
    ·cases hf
    rcases e4 with ⟨_,hcc,hle⟩ | ⟨_,_,hf,_⟩
    rotate_left
    ·rw [hln] at hf;cases hf
    subst hcc
    refine ⟨r,.int .i64 c',w,?_,.int _ _,Zr.refl h⟩
    rw [e3]
    simp [builtin,Builtin.cap_,h0,run_underlying hu,goInt]
   ·rename_i cs hsp hget
    cases hb
    obtain ⟨loc,c',e1,e2,e3,e4⟩:=Xq kx (.inl hsp)
    have hln:loc.loose=none:=(h.cont _ loc _ e1 hget).1
    rcases e4 with ⟨_,hcc,hle⟩ | ⟨_,_,hf,_⟩
    rotate_left
    ·rw [hln] at hf;cases hf
    subst hcc
    refine ⟨r,.int .i64 c',w,?_,.int _ _,Zr.refl h⟩
    rw [e3]
    simp [builtin,Builtin.cap_,h0,run_underlying hu,goInt]
 ·-- delete
  rename_i m k0
  obtain ⟨m',k',rfl,km,kk⟩:=Ko kv
  split at hb<;>first | (cases hb;done) | skip
  rename_i t h0
  split at hb<;>first | (cases hb;done) | skip
  rename_i kt et b hu
  split at hb<;>first | (cases hb;done) | skip
  rename_i es c hget
  obtain ⟨hc,hb⟩:=Zc hb
  simp only [Bool.and_eq_true] at hc
  obtain ⟨hk,hlb⟩:=hc
  split at hb<;>first | (cases hb;done) | skip
  rename_i es' hp
  cases hb
  rw [ZF hk kk]
  cases km with
  | mapv e=>
   rename_i loc
   have hob:w.heap[loc.blk]? = some (.map es c):=h.cont _ _ _ e hget
   have hlt:loc.blk < w.heap.size:=by
    rcases Nat.lt_or_ge loc.blk w.heap.size with q | q
    ·exact q
    ·rw [Array.getElem?_eq_none q] at hob;cases hob
   have hd:(Builtin.delete_ ts ty #[.map (some loc.blk),k0]).run P w=.ok (.tuple #[]) { w with heap:=w.heap.setIfInBounds loc.blk (.map es' c) }:=by
    rw [y8 h0 hu hob hp];simp [setObj,Sem.run,hob]
   refine ⟨r,.tuple #[],{ w with heap:=w.heap.setIfInBounds loc.blk (.map es' c) },?_,Xe rfl,?_⟩
   ·simp only [builtin,Sem.run_bind,hd,Result.andThen_ok,Sem.run_pure]
   ·refine Zr.change h e ⟨_,hget,by simp,rfl⟩ (Nat.le_of_ble_eq_true hlb) (by simp) (fun q hq=>?_) ⟨rfl,rfl,rfl⟩ ?_
    ·show (w.heap.setIfInBounds loc.blk (.map es' c))[q]? = _
     rw [Array.getElem?_setIfInBounds,if_neg (fun e=>hq e.symm)]
    ·show (w.heap.setIfInBounds loc.blk (.map es' c))[loc.blk]? = some (.map es' c)
     rw [Array.getElem?_setIfInBounds,if_pos rfl,if_pos hlt]
 ·-- panic
  rename_i t v
  obtain ⟨x',rfl,kx⟩:=UM kv
  cases hb
  obtain ⟨u',rfl,ku⟩:=QK kx
  exact ⟨.iface t u',by simp [builtin,Instr.panic,goPanic,Sem.run],.iface t ku⟩
 ·-- recover
  cases hb
  rw [kv.of_nil]
  rfl
 ·cases hb
end
end Go.Ax

namespace Go.Ax
open Go Go.RowKit
section
variable {P:Program} {lo base:Nat} {r:Ren} {A:Fr} {H:Hp} {w:World} {tmps:Array Value}

theorem UL (hT:Xk r A.n A.T tmps) {c:Call} {t:Target} {vs:List Value} (h:Yz A c=some (t,vs)) (ty:TypeId) :
  ∃ t' vs',(∀ w,(resolve (evT tmps) c ty).run P w=.ok { target:=t',args:=vs' } w)∧TgR r t t'∧LR r vs vs'.toList:=by
 unfold Yz at h
 cases hvs:evs A c.args.toList with
 | none=>simp [hvs] at h
 | some us=>
  simp only [hvs] at h
  have ku:=yL hT hvs
  have e1:(c.args.toList.map (evT tmps)).toArray=c.args.map (evT tmps):=X5 _ _
  cases hc:c.callee with
  | builtin b=>simp [hc] at h
  | invoke x name=>
   simp only [hc] at h
   cases hx:ev A x with
   | none=>simp [hx] at h
   | some v=>
    simp [hx] at h
    obtain ⟨rfl,rfl⟩:=h
    refine ⟨.fn (.method name) #[],#[evT tmps x] ++ c.args.map (evT tmps),fun w=>?_,⟨_,_,rfl,.method _,LR.nil⟩,?_⟩
    ·simp [resolve,hc]
    ·have:=LR.cons (evR hT hx) ku
     simpa using this
  | value f=>
   simp only [hc] at h
   cases hx:ev A f with
   | none=>simp [hx] at h
   | some v=>
    rw [hx] at h
    split at h<;>first | (cases h;done) | skip
    rename_i fn first cap heq
    cases heq;cases h
    have kf:=evR hT hx
    generalize hg:evT tmps f=u at kf
    cases kf with
    | func kfn s1 k1 s2 k2=>
     rename_i fn' A' B'
     refine ⟨.fn fn' B',A' ++ c.args.map (evT tmps),fun w=>?_,⟨_,_,rfl,kfn,YG.2 ⟨s2,k2⟩⟩,?_⟩
     ·simp [resolve,hc,Deferred.ofValue,hg]
     ·have:=LR.append (YG.2 ⟨s1,k1⟩) ku
      simpa using this

theorem KB (h:Rel P r base H w) {t:TypeId} {m k v m' k' v':Value} (km:VR r m m') (kk:VR r k k') (kv:VR r v v') {rs:Rs} {kd:Kd} (he:WX P lo H t m k v=some (rs,kd)) :
  ∃ H' w',rs=.skip H'∧(Instr.mapUpdate t m' k' v').run P w=.ok () w'∧Zr P lo base r H w r H' w':=by
 unfold WX at he
 split at he<;>first | (cases he;done) | skip
 rename_i kt et b hu
 split at he<;>first | (cases he;done) | skip
 ·rename_i es c hget
  obtain ⟨hb,he⟩:=Zc he
  simp only [Bool.and_eq_true] at hb
  obtain ⟨⟨hk,hv⟩,hlb⟩:=hb
  split at he<;>first | (cases he;done) | skip
  rename_i es' c' hp
  cases he
  rw [ZF hk kk,ZF hv kv]
  cases km with
  | mapv e=>
   rename_i loc
   have hob:w.heap[loc.blk]? = some (.map es c):=h.cont _ _ _ e hget
   have hlt:loc.blk < w.heap.size:=by
    rcases Nat.lt_or_ge loc.blk w.heap.size with q | q
    ·exact q
    ·rw [Array.getElem?_eq_none q] at hob;cases hob
   refine ⟨_,{ w with heap:=w.heap.setIfInBounds loc.blk (.map es' c') },rfl,?_,?_⟩
   ·rw [Ue hu hob hp];simp [setObj,Sem.run,hob]
   ·refine Zr.change h e ⟨_,hget,by simp,rfl⟩ (Nat.le_of_ble_eq_true hlb) (by simp) (fun q hq=>?_) ⟨rfl,rfl,rfl⟩ ?_
    ·show (w.heap.setIfInBounds loc.blk (.map es' c'))[q]? = _
     rw [Array.getElem?_setIfInBounds,if_neg (fun e=>hq e.symm)]
    ·show (w.heap.setIfInBounds loc.blk (.map es' c'))[loc.blk]? = some (.map es' c')
     rw [Array.getElem?_setIfInBounds,if_pos rfl,if_pos hlt]
 ·rename_i es c hget
  obtain ⟨hb,he⟩:=Zc he
  simp only [Bool.and_eq_true] at hb
  obtain ⟨hk,hlb⟩:=hb
  split at he<;>first | (cases he;done) | skip
  rename_i es' c' hp
  cases he
  rw [ZF hk kk]
  cases km with
  | mapv e=>
   rename_i loc
   obtain ⟨es1,hob,hes⟩:=h.cont _ _ _ e hget
   have hlt:loc.blk < w.heap.size:=by
    rcases Nat.lt_or_ge loc.blk w.heap.size with q | q
    ·exact q
    ·rw [Array.getElem?_eq_none q] at hob;cases hob
   obtain ⟨es3,hq,hes3⟩:=ql hes kv hp
   refine ⟨_,{ w with heap:=w.heap.setIfInBounds loc.blk (.map es3 c') },rfl,?_,?_⟩
   ·rw [Ue hu hob hq];simp [setObj,Sem.run,hob]
   ·refine Zr.change h e ⟨_,hget,by simp,rfl⟩ (Nat.le_of_ble_eq_true hlb) (by simp) (fun q hq=>?_) ⟨rfl,rfl,rfl⟩ ?_
    ·show (w.heap.setIfInBounds loc.blk (.map es3 c'))[q]? = _
     rw [Array.getElem?_setIfInBounds,if_neg (fun e=>hq e.symm)]
    ·refine ⟨es3,?_,hes3⟩
     show (w.heap.setIfInBounds loc.blk (.map es3 c'))[loc.blk]? = some (.map es3 c')
     rw [Array.getElem?_setIfInBounds,if_pos rfl,if_pos hlt]

theorem qm (h:Rel P r base H w) {b:Nat} {loc:Loc} {es es':Array MapEntry} {c c':Nat} (e:r b=some loc) (hget:H.t.get b=some (.mp es c)) (hlb:lo≤b) :
  w.heap[loc.blk]? = some (.map es c)∧(setObj loc.blk (.map es' c')).run P w=.ok () { w with heap:=w.heap.setIfInBounds loc.blk (.map es' c') }∧Zr P lo base r H w r { H with t:=H.t.set b (.mp es' c') } { w with heap:=w.heap.setIfInBounds loc.blk (.map es' c') }:=by
 have hob:w.heap[loc.blk]? = some (.map es c):=h.cont _ _ _ e hget
 have hlt:loc.blk < w.heap.size:=by
  rcases Nat.lt_or_ge loc.blk w.heap.size with q | q
  ·exact q
  ·rw [Array.getElem?_eq_none q] at hob;cases hob
 refine ⟨hob,by simp [setObj,Sem.run,hob],?_⟩
 refine Zr.change h e ⟨_,hget,by simp,rfl⟩ hlb (by simp) (fun q hq=>?_) ⟨rfl,rfl,rfl⟩ ?_
 ·show (w.heap.setIfInBounds loc.blk (.map es' c'))[q]? = _
  rw [Array.getElem?_setIfInBounds,if_neg (fun e=>hq e.symm)]
 ·show (w.heap.setIfInBounds loc.blk (.map es' c'))[loc.blk]? = some (.map es' c')
  rw [Array.getElem?_setIfInBounds,if_pos rfl,if_pos hlt]
theorem jZ (h:Rel P r base H w) {t:TypeId} {m k m' k':Value} (km:VR r m m') (kk:VR r k k') {rs:Rs} {kd:Kd} (he:UU P lo H t m k=some (rs,kd)) :
  ∃ v H' w',rs=.val v H'∧VR r v v∧(Instr.mapEntry t m' k').run P w=.ok v w'∧Zr P lo base r H w r H' w':=by
 unfold UU at he
 split at he<;>first | (cases he;done) | skip
 rename_i kt et b hu
 split at he<;>first | (cases he;done) | skip
 rename_i es c hget
 obtain ⟨hb,he⟩:=Zc he
 simp only [Bool.and_eq_true] at hb
 split at he<;>first | (cases he;done) | skip
 rename_i v es' c' hp
 obtain ⟨hv,he⟩:=Zc he
 cases he
 rw [ZF hb.1 kk]
 cases km with
 | mapv e=>
  obtain ⟨hob,hrun,hpost⟩:=qm (es':=es') (c':=c') h e hget (Nat.le_of_ble_eq_true hb.2)
  refine ⟨_,_,_,rfl,Xe hv,?_,hpost⟩
  rw [Kw hu hob hp]
  simp only [Sem.run_bind,hrun,Result.andThen_ok,Sem.run_pure]
theorem JN (h:Rel P r base H w) {t:TypeId} {m s v m' s' v':Value} (km:VR r m m') (ks:VR r s s') (kv:VR r v v') {rs:Rs} {kd:Kd} (he:XB P lo H m s v=some (rs,kd)) :
  ∃ H' w',rs=.skip H'∧(Instr.entryStore t m' s' v').run P w=.ok () w'∧Zr P lo base r H w r H' w':=by
 unfold XB at he
 split at he<;>first | (cases he;done) | skip
 rename_i b
 split at he<;>first | (cases he;done) | skip
 rename_i es c hget
 obtain ⟨hb,he⟩:=Zc he
 simp only [Bool.and_eq_true] at hb
 split at he<;>first | (cases he;done) | skip
 rename_i es' hp
 cases he
 rw [ZF hb.1.1 ks,ZF hb.1.2 kv]
 cases km with
 | mapv e=>
  obtain ⟨hob,hrun,hpost⟩:=qm (es':=es') (c':=c) h e hget (Nat.le_of_ble_eq_true hb.2)
  exact ⟨_,_,rfl,by rw [Vm hob hp];exact hrun,hpost⟩

theorem Vx (h:Rel P r base H w) (hlo:lo≤H.next) (hT:Xk r A.n A.T tmps) {o:Oper} {rs:Rs} {k:Kd} (he:Zu P lo A H o=some (rs,k)):OpS P lo base r H w (execOp (evT tmps) o) rs:=by
 have he0:=he
 unfold Zu at he
 unfold execOp
 cases hop:o.op<;>simp only [hop] at he ⊢<;>try (cases he;done)
 case alloc e=>
  cases hz:Ym P e with
  | none=>simp [hz] at he
  | some z=>
   simp [hz] at he
   obtain ⟨rfl,rfl⟩:=he
   refine OpS.value ⟨_,_,_,?_,QD r H.next w none,Zr.exact_ h hlo (C:=z.cells) (e:=e) (Wl (ZO hz w).2)⟩
   simp only [Instr.alloc,Sem.run_bind,(ZO hz w).1,Result.andThen_ok,newVar,Z8,Sem.run_pure]
 case box e x=>
  cases hx:ev A x with
  | none=>simp [hx] at he
  | some v=>
   simp [hx] at he
   obtain ⟨rfl,rfl⟩:=he
   refine OpS.value ⟨_,_,_,?_,QD r H.next w none,Zr.exact_ h hlo (C:=(evT tmps x).cells) (e:=e) (evR hT hx).cells⟩
   simp only [Instr.box,Sem.run_bind,newVar,Z8,Result.andThen_ok,Sem.run_pure]
 case buildSlice t len parts=>
  cases hse:ZZ P t with
  | none=>simp [hse] at he
  | some q=>
   obtain ⟨e,size⟩:=q
   obtain ⟨hu,hsz0,hcells,i,z,hi,hsz,hby,hz,hzs⟩:=ZU hse
   cases hp:YT A parts.toList with
   | none=>simp [hse,hp] at he
   | some ps=>
    simp only [hse,hp,hz] at he
    obtain ⟨hb,he⟩:=Zc he
    have hb:=Nat.le_of_ble_eq_true hb
    cases hf:WF (fun k=>some (k * size,size)) (ZL z.cells.toList len) ps with
    | none=>simp [hf] at he
    | some cs=>
     simp [hf] at he
     obtain ⟨rfl,rfl⟩:=he
     obtain ⟨pl1,pl2⟩:=za hT hp
     have hlist:(parts.map fun (x:Nat × Operand)=>(x.1,evT tmps x.2)).toList=parts.toList.map fun p=>(p.1,evT tmps p.2):=by simp
     have hzr:((Array.range (len * size)).map fun i=>z.cells[i % z.cells.size]!)=(ZL z.cells.toList len).toArray:=by
      have:=Xa z.cells len
      rw [hzs] at this ⊢;exact this
     obtain ⟨C',e',k'⟩:=Jc (r:=r) _ ps _ _ (ZL z.cells.toList len).toArray _ (by simpa using WT (Wl (ZO hz w).2) len) pl1 pl2 hf
     refine OpS.value ⟨_,_,_,?_,Ke r H.next w (Nat.le_refl len),Zr.exact_ h hlo (C:=C') (e:=e) k'⟩
     have hbig:¬ (len * size > 2 ^ 24):=by omega
     unfold Instr.buildSlice
     simp only [Sem.run_bind,run_underlying hu,Result.andThen_ok,ZI hi,hsz,hbig,if_false]
     by_cases hls:len * size=0
     ·have hlen0:len=0:=by
       rcases Nat.mul_eq_zero.1 hls with q | q
       ·exact q
       ·omega
      subst hlen0
      simp only [Nat.zero_mul,if_true,Sem.run_pure,Result.andThen_ok,hlist]
      have e2:Instr.fill (fun k=>some (k * size,size)) ((Array.range 0).map fun i=>(#[]:Array Value)[i % (#[]:Array Value).size]!) (parts.toList.map fun p=>(p.1,evT tmps p.2))=some C':=by
       have:((Array.range 0).map fun i=>(#[]:Array Value)[i % (#[]:Array Value).size]!)=(ZL z.cells.toList 0).toArray:=by simp [ZL]
       rw [this];exact e'
      simp only [e2,Z8,Result.andThen_ok,Sem.run_pure,Sem.run_bind]
     ·simp only [hls,if_false,Sem.run_bind,(ZO hz w).1,Result.andThen_ok,Sem.run_pure,hlist,hzr,e',Z8]
 case load t a=>
  cases ha:ev A a with
  | none=>simp [ha] at he
  | some av=>
   rw [ha] at he
   split at he<;>first | (cases he;done) | skip
   rename_i ad heq
   cases heq
   cases hl:WS P H t ad with
   | none=>simp [hl] at he
   | some v=>
    simp [hl] at he
    obtain ⟨rfl,rfl⟩:=he
    obtain ⟨loc,e1,e2,e3⟩:=UT (evR hT ha)
    obtain ⟨ob,hget⟩:=QW hl
    obtain ⟨v',q,hrun⟩:=yX (w:=w) hget hl e1 (h.cont _ _ _ e1 hget)
    refine OpS.value ⟨r,v',w,?_,q,Zr.refl h⟩
    rw [e3]
    simp only [Instr.loadAt,Instr.sureAddr,Sem.run_bind,Sem.run_pure,Result.andThen_ok,hrun]
 case store t a x=>
  cases ha:ev A a with
  | none=>simp [ha] at he
  | some av=>
   cases hx:ev A x with
   | none=>cases av<;>simp [ha,hx] at he
   | some xv=>
    rw [ha,hx] at he
    split at he<;>first | (cases he;done) | skip
    rename_i ad v heq heq2
    cases heq;cases heq2
    cases hl:Ud P lo H t ad xv with
    | none=>simp [hl] at he
    | some H'=>
     simp [hl] at he
     obtain ⟨rfl,rfl⟩:=he
     obtain ⟨loc,e1,e2,e3⟩:=UT (evR hT ha)
     obtain ⟨w',hrun,hp,_⟩:=Zbj h e1 (evR hT hx) hl
     refine ⟨w',?_,hp⟩
     rw [e3]
     simp only [Instr.storeAt,Instr.sureAddr,Sem.run_bind,Sem.run_pure,Result.andThen_ok,hrun]
 case makeSlice t l c=>
  cases hse:ZZ P t with
  | none=>simp [hse] at he
  | some q=>
   obtain ⟨e,size⟩:=q
   obtain ⟨hu,hsz0,hcells,i,z,hi,hsz,hby,hz,hzs⟩:=ZU hse
   cases hl:ev A l with
   | none=>simp [hse,hl] at he
   | some lv=>
    cases hcv:ev A c with
    | none=>simp [hse,hl,hcv] at he
    | some cv=>
     rw [hse,hl,hcv] at he
     split at he<;>first | (cases he;done) | skip
     rename_i e' size' kl n km m heq1 heq2 heq3
     cases heq1;cases heq2;cases heq3
     simp only [hz,hi] at he
     obtain ⟨hb,he⟩:=Zc he
     simp only [Bool.and_eq_true] at hb
     obtain ⟨⟨h1,h2⟩,h3⟩:=hb
     have h1:=Nat.le_of_ble_eq_true h1
     have h2:=Nat.le_of_ble_eq_true h2
     have h3:=Nat.le_of_ble_eq_true h3
     simp at he
     obtain ⟨rfl,rfl⟩:=he
     have el:evT tmps l=.int kl (n:Int):=Xl (evR hT hl)
     have ec:evT tmps c=.int km (m:Int):=Xl (evR hT hcv)
     have hzr:((Array.range (m * size)).map fun i=>z.cells[i % z.cells.size]!)=(ZL z.cells.toList m).toArray:=by
      have:=Xa z.cells m
      rw [hzs] at this ⊢;exact this
     refine OpS.value ⟨_,_,_,?_,Ke r H.next w h1,Zr.exact_ h hlo (C:=(ZL z.cells.toList m).toArray) (e:=e) (by simpa using WT (Wl (ZO hz w).2) m)⟩
     have hwn:IntKind.i64.wrap (n:Int)=n:=by rw [IntKind.wrap_i64];omega
     have hwm:IntKind.i64.wrap (m:Int)=m:=by rw [IntKind.wrap_i64];omega
     have hbm:¬ ((i.bytes:Int) * (m:Int) > 2 ^ 48):=by
      have:((i.bytes * m:Nat):Int)≤1099511627776:=by omega
      rw [Int.natCast_mul] at this;omega
     have hroom:∀ (k:Nat) (w:World),(askRoom k).run P w=.ok () w:=fun k w=>by
      unfold askRoom;split<;>rfl
     have hcond:((decide ((m:Int) < 0) || decide ((i.bytes:Int) * (m:Int) > 2 ^ 48)) || decide ((n:Int) < 0) || decide ((n:Int) > (m:Int)))=false:=by
      simp only [hbm,decide_false,Bool.or_false,Bool.or_eq_false_iff,decide_eq_false_iff_not]
      omega
     unfold Instr.makeSlice
     simp only [Sem.run_bind,run_underlying hu,Result.andThen_ok,el,ec,asInt,asIntOf,Sem.run_pure,XQ hi,hwn,hwm]
     have hcond':¬ (((decide ((m:Int) < 0) || decide ((i.bytes:Int) * (m:Int) > 2 ^ 48))=true∨(n:Int) < 0)∨(n:Int) > (m:Int)):=by
      simp only [hbm,decide_false,Bool.or_false,decide_eq_true_eq];omega
     rw [if_neg (by simpa using hcond')]
     simp only [Sem.run_bind,hroom,Result.andThen_ok,ZI hi,hsz,Int.toNat_natCast]
     by_cases hm0:m * size=0
     ·have hm00:m=0:=by
       rcases Nat.mul_eq_zero.1 hm0 with q | q
       ·exact q
       ·omega
      subst hm00
      have hn00:n=0:=by omega
      subst hn00
      simp only [Nat.zero_mul,if_true,Sem.run_bind,Sem.run_pure,Result.andThen_ok]
      have e2:((Array.range 0).map fun i=>(#[]:Array Value)[i % (#[]:Array Value).size]!)=(ZL z.cells.toList 0).toArray:=by simp [ZL]
      rw [e2]
      simp only [Z8,Result.andThen_ok,Sem.run_pure,Sem.run_bind]
     ·simp only [hm0,if_false,Sem.run_bind,(ZO hz w).1,Result.andThen_ok,Sem.run_pure,hzr,Z8]
 case slice t x lw hi mx=>
  cases rs with
  | val v H'=>
   obtain ⟨rfl,hk⟩:=JI (r:=r) hT hop he0
   rcases hk with ⟨_,v',q,hrun⟩ | ⟨b,ob,_,hget,hk⟩
   ·exact OpS.value ⟨r,v',w,hrun w,q,Zr.refl h⟩
   ·obtain ⟨v',q,hrun⟩:=hk (fun loc e=>⟨_,h.cont b loc ob e hget⟩)
    exact OpS.value ⟨r,v',w,hrun w,q,Zr.refl h⟩
  | _=>exfalso;revert he;(repeat' split)<;>simp [K9]<;>(repeat' split)<;>simp
 case call c=>
  cases hc:c.callee with
  | builtin b=>
   simp only [hc] at he
   cases hvs:evs A c.args.toList with
   | none=>simp [hvs] at he
   | some vs=>
    simp only [hvs] at he
    have:=qU h hlo (ty:=o.type) (consts:=c.args.map fun | .const _=>true | _=>false) (yL hT hvs) he
    rw [X5] at this
    have e1:∀ w,(do let d ← resolve (evT tmps) c o.type;invoke d.target d.args:Sem Next).run P w=(builtin b c.argTypes o.type (c.args.map fun | .const _=>true | _=>false) (c.args.map (evT tmps))).run P w:=fun w=>by
     simp only [resolve,hc,Sem.run_bind,Sem.run_pure,Result.andThen_ok,invoke];rfl
    unfold OpS at this ⊢
    cases rs<;>simp only [e1]<;>exact this
  | invoke x name=>
   simp only [hc] at he
   cases ht:Yz A c with
   | none=>simp [ht] at he
   | some q=>
    obtain ⟨t,vs⟩:=q
    simp [ht] at he
    obtain ⟨rfl,rfl⟩:=he
    obtain ⟨t',vs',hr,k1,k2⟩:=UL (P:=P) hT ht o.type
    exact ⟨t',vs',by simp only [Sem.run_bind,hr,Result.andThen_ok],k1,k2⟩
  | value f=>
   simp only [hc] at he
   cases ht:Yz A c with
   | none=>simp [ht] at he
   | some q=>
    obtain ⟨t,vs⟩:=q
    simp [ht] at he
    obtain ⟨rfl,rfl⟩:=he
    obtain ⟨t',vs',hr,k1,k2⟩:=UL (P:=P) hT ht o.type
    exact ⟨t',vs',by simp only [Sem.run_bind,hr,Result.andThen_ok],k1,k2⟩
 case defer c=>
  cases hc:c.callee with
  | builtin b=>simp [hc] at he
  | invoke x name=>
   simp only [hc] at he
   cases ht:Yz A c with
   | none=>simp [ht] at he
   | some q=>
    obtain ⟨t,vs⟩:=q
    simp [ht] at he
    obtain ⟨rfl,rfl⟩:=he
    obtain ⟨t',vs',hr,k1,k2⟩:=UL (P:=P) hT ht o.type
    exact ⟨{ target:=t',args:=vs' },by simp only [Sem.run_bind,hr,Result.andThen_ok,Sem.run_pure],k1,by simpa using k2⟩
  | value f=>
   simp only [hc] at he
   cases ht:Yz A c with
   | none=>simp [ht] at he
   | some q=>
    obtain ⟨t,vs⟩:=q
    simp [ht] at he
    obtain ⟨rfl,rfl⟩:=he
    obtain ⟨t',vs',hr,k1,k2⟩:=UL (P:=P) hT ht o.type
    exact ⟨{ target:=t',args:=vs' },by simp only [Sem.run_bind,hr,Result.andThen_ok,Sem.run_pure],k1,by simpa using k2⟩
 case makeMap t r0=>
  cases r0 with
  | some x=>cases he
  | none=>
   cases he
   exact OpS.value ⟨_,.map (some w.heap.size),_,rfl,.mapv (Ren.add_same r H.next ⟨w.heap.size,0,none⟩),Zr.fresh h hlo rfl ⟨rfl,rfl,rfl⟩ rfl⟩
 case lookup t x ix ok=>
  split at he<;>first | (cases he;done) | skip
  ·rename_i kt et b kv hu hx hix
   split at he<;>first | (cases he;done) | skip
   ·rename_i es c hget
    obtain ⟨hk,he⟩:=Zc he
    split at he<;>first | (cases he;done) | skip
    rename_i v hp
    obtain ⟨hv,he⟩:=Zc he
    cases he
    have kx:=evR hT hx
    have kk:=ZF hk (evR hT hix)
    generalize evT tmps x=x' at kx
    cases kx with
    | mapv e=>
     have hob:=h.cont _ _ _ e hget
     refine OpS.value ⟨r,v,w,?_,Xe hv,Zr.refl h⟩
     rw [kk,Wy hu hob];exact ZT _ hp w
   ·rename_i es c hget
    obtain ⟨hk,he⟩:=Zc he
    split at he<;>first | (cases he;done) | skip
    rename_i v got hp
    obtain ⟨hv,he⟩:=Zc he
    cases he
    have kx:=evR hT hx
    have kk:=ZF hk (evR hT hix)
    generalize evT tmps x=x' at kx
    cases kx with
    | mapv e=>
     obtain ⟨es',hob,hes⟩:=h.cont _ _ _ e hget
     obtain ⟨v',hq,hvr⟩:=qw hes hp hv ok
     refine OpS.value ⟨r,v',w,?_,hvr,Zr.refl h⟩
     rw [kk,Wy hu hob];exact ZT _ hq w
  ·rename_i kt et kv hu hx hix
   obtain ⟨hk,he⟩:=Zc he
   split at he<;>first | (cases he;done) | skip
   rename_i v hp
   obtain ⟨hv,he⟩:=Zc he
   cases he
   have kx:=evR hT hx
   have kk:=ZF hk (evR hT hix)
   generalize evT tmps x=x' at kx
   cases kx
   refine OpS.value ⟨r,v,w,?_,Xe hv,Zr.refl h⟩
   rw [kk];exact ZT _ hp w
 case mapEntry t m k=>
  split at he<;>first | (cases he;done) | skip
  rename_i mv kv hm hk
  obtain ⟨v,H',w',rfl,hv,hrun,hpost⟩:=jZ h (evR hT hm) (evR hT hk) he
  exact OpS.value ⟨r,v,w',hrun,hv,hpost⟩
 case entryStore t m s x=>
  split at he<;>first | (cases he;done) | skip
  rename_i mv sv xv hm hs hx
  obtain ⟨H',w',rfl,hrun,hpost⟩:=JN (t:=t) h (evR hT hm) (evR hT hs) (evR hT hx) he
  exact ⟨w',by simp only [Sem.run_bind,hrun,Result.andThen_ok,Sem.run_pure],hpost⟩
 case mapUpdate t m k x=>
  split at he<;>first | (cases he;done) | skip
  rename_i mv kv xv hm hk hx
  obtain ⟨H',w',rfl,hrun,hpost⟩:=KB h (evR hT hm) (evR hT hk) (evR hT hx) he
  exact ⟨w',by simp only [Sem.run_bind,hrun,Result.andThen_ok,Sem.run_pure],hpost⟩
 case insert t m k x=>
  split at he<;>first | (cases he;done) | skip
  rename_i mv kv xv hm hk hx
  obtain ⟨H',w',rfl,hrun,hpost⟩:=KB h (evR hT hm) (evR hT hk) (evR hT hx) he
  exact ⟨w',by simp only [Sem.run_bind,hrun,Result.andThen_ok,Sem.run_pure],hpost⟩
 case binOp op t x y yt=>
  cases op<;>simp only at he<;>try (cases he;done)
  split at he<;>first | (cases he;done) | skip
  rename_i a b hx hy
  split at he<;>first | (cases he;done) | skip
  rename_i c hc
  cases he
  refine ⟨r,_,w,?_,.bool _,Zr.refl h⟩
  have:=Zb4 h hc (evR hT hx) (evR hT hy) x y
  simp only [Sem.run_bind] at this ⊢
  rw [this];rfl
 case panic x=>
  cases hx:ev A x with
  | none=>simp [hx] at he
  | some xv=>
   rw [hx] at he
   split at he<;>first | (cases he;done) | skip
   rename_i t v heq
   cases heq
   simp at he
   obtain ⟨rfl,rfl⟩:=he
   obtain ⟨u',e1,ku⟩:=QK (evR hT hx)
   rw [e1]
   exact ⟨.iface t u',by simp [Instr.panic,goPanic,Sem.run],.iface t ku⟩
end
end Go.Ax


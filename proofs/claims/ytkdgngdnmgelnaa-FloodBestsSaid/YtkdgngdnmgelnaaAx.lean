import Derived.Calls
import Derived.Below
set_option linter.all false
namespace Go.Ax
open Go
noncomputable section
inductive Tr (α : Type) where
  | nil
  | node (v : Option α) (l r : Tr α)
def Tr.get {α : Type} (t : Tr α) : Nat → Option α := Tr.rec (fun _ => none) (fun v _ _ gl gr k =>
  Bool.rec (Bool.rec (gr (Nat.div k 2)) (gl (Nat.div k 2)) (Nat.beq (Nat.mod k 2) 1)) v (Nat.beq k 0)) t
def Tr.one {α : Type} (x : α) : Nat → Nat → Tr α := Nat.rec (fun _ => .nil) (fun _ ih k =>
  Bool.rec (Bool.rec (.node none .nil (ih (Nat.div k 2))) (.node none (ih (Nat.div k 2)) .nil) (Nat.beq (Nat.mod k 2) 1)) (.node (some x) .nil .nil) (Nat.beq k 0))
def Tr.set {α : Type} (t : Tr α) (k : Nat) (x : α) : Tr α := Tr.rec (fun k => Tr.one x (Nat.succ k) k) (fun v l r sl sr k =>
  Bool.rec (Bool.rec (.node v l (sr (Nat.div k 2))) (.node v (sl (Nat.div k 2)) r) (Nat.beq (Nat.mod k 2) 1)) (.node (some x) l r) (Nat.beq k 0)) t k
def Tr.del {α : Type} (t : Tr α) (k : Nat) : Tr α := Tr.rec (fun _ => .nil) (fun v l r dl dr k =>
  Bool.rec (Bool.rec (.node v l (dr (Nat.div k 2))) (.node v (dl (Nat.div k 2)) r) (Nat.beq (Nat.mod k 2) 1)) (.node none l r) (Nat.beq k 0)) t k
inductive Ob where
  | cells (cs : List Value) (elem : TypeId) (loose : Bool)
  | ro (cs : List Value)
  | mp (es : Array MapEntry) (clock : Nat)
  | lp (state : LoopState) (pending : Option Code) (fn : FuncId) (n : Nat) (T : Tr Value) (params : List Tmp) (code body : Code) (defers : Nat)
  | dfr (ds : Option (List Deferred))
  | dead
structure Hp where
  next : Nat
  t : Tr Ob
structure Fr where
  fn : FuncId
  n : Nat
  T : Tr Value
  defers : List Deferred
  round : Option Nat
def flat1 : Value → Bool
  | .bool _ | .int _ _ | .string _ | .nilIface | .nilFunc | .pointer none | .map none => true
  | .slice none n c => Nat.beq n 0 && Nat.beq c 0
  | _ => false
def flat : Value → Bool
  | .agg cs => cs.toList.all flat1
  | .tuple cs => cs.toList.all flat1
  | .iface _ (.agg cs) => cs.toList.all flat1
  | .iface _ v => flat1 v
  | v => flat1 v
def prun {α : Type} (P : Program) : Sem α → Option α
  | .pure a => some a
  | .program k => prun P (k P)
  | _ => none
def ev (A : Fr) : Operand → Option Value
  | .tmp t => A.T.get t
  | .const v => bif flat v then some v else none
  | .func f => some (.func (.func f) #[] #[])
  | .global _ => none
def evs (A : Fr) : List Operand → Option (List Value)
  | [] => some []
  | x :: r => match ev A x with | none => none | some v => match evs A r with | none => none | some vs => some (v :: vs)
inductive Rs where
  | val (v : Value) (H : Hp)
  | skip (H : Hp)
  | dfr (d : Deferred)
  | recov
  | call (t : Target) (args : List Value)
  | pan (v : Value)
def Hp.new (H : Hp) (o : Ob) : Hp := { next := H.next + 1, t := H.t.set H.next o }
def isAggB (P : Program) (t : TypeId) : Option Bool :=
  match P.underlying t with
  | some (.struct _) | some (.array _ _) => some true
  | some _ => some false
  | none => none
def row (n : Nat) (cs : List Value) (i : Nat) : Option (List Value) :=
  let r := (cs.drop i).take n
  bif Nat.beq r.length n then some r else none
def cellsOf (H : Hp) (b : Nat) : Option (List Value) := match H.t.get b with | some (.cells cs _ _) => some cs | some (.ro cs) => some cs | _ => none
def loadV (P : Program) (H : Hp) (t : TypeId) (a : Addr) : Option Value :=
  match cellsOf H a.block with
  | some cs =>
    match a.spot, isAggB P t with
    | none, some true => match P.info? t with
      | some i => match row i.size cs a.off with | some r => some (.agg r.toArray) | none => none
      | none => none
    | none, some false => cs[a.off]?
    | _, _ => none
  | none => none
def putRow : List Value → Nat → List Value → List Value
  | cs, _, [] => cs
  | cs, i, v :: vs => putRow (cs.set i v) (i + 1) vs
def one : Value → Bool
  | .agg _ | .tuple _ => false
  | _ => true
def storeV (P : Program) (lo : Nat) (H : Hp) (t : TypeId) (a : Addr) (v : Value) : Option Hp :=
  match H.t.get a.block with
  | some (.cells cs e l) =>
    match a.spot, P.info? t with
    | none, some i =>
      bif Nat.ble lo a.block && Nat.beq v.cells.toList.length i.size && Nat.ble (a.off + i.size) cs.length && v.cells.toList.all one then
        some { H with t := H.t.set a.block (.cells (putRow cs a.off v.cells.toList) e l) }
      else none
    | _, _ => none
  | _ => none
def zeroOf (P : Program) (t : TypeId) : Option Value :=
  match P.info? t with
  | some i => match i.zero with
    | some z => bif flat z then some z else none
    | none => none
  | none => none
def ptr (b : Nat) : Value := .pointer (some ⟨b, 0, none⟩)
def sliceElem (P : Program) (t : TypeId) : Option (TypeId × Nat) :=
  match P.underlying t with
  | some (.slice e) => match P.info? e, zeroOf P e with
    | some i, some z => bif Nat.beq i.size 0 || !(Nat.beq z.cells.toList.length i.size) || !(Nat.ble i.bytes 1048576) then none else some (e, i.size)
    | _, _ => none
  | _ => none
inductive Kd where
  | pure
  | read (b : Nat)
  | heavy
  | store (b : Nat)
  | full
  | mk (b : Nat)
def zeros (z : List Value) : Nat → List Value
  | 0 => []
  | n + 1 => z ++ zeros z n
def appendV (lo : Nat) (H : Hp) (e : TypeId) (size : Nat) (s : Value) (n : Nat) (news : List Value) : Option (Rs × Kd) :=
  match s with
  | .slice none len _ =>
    bif flat1 s && Nat.beq len 0 && Nat.ble n 1048576 then
      bif Nat.beq n 0 then some (.val s H, .pure) else some (.val (.slice (some ⟨H.next, 0, none⟩) n n) (H.new (.cells news e true)), .heavy)
    else none
  | .slice (some a) len cap =>
    bif Nat.ble (len + n) 1048576 then
      bif Nat.beq n 0 then some (.val s H, .pure) else
      match a.spot, H.t.get a.block with
      | none, some (.cells cs e' false) =>
        bif Nat.ble (len + n) cap then
          bif Nat.ble lo a.block && Nat.ble (a.off + (len + n) * size) cs.length && news.all one then
            some (.val (.slice (some a) (len + n) cap) { H with t := H.t.set a.block (.cells (putRow cs (a.off + len * size) news) e' false) }, .store a.block)
          else none
        else match row (len * size) cs a.off with
          | some old => some (.val (.slice (some ⟨H.next, 0, none⟩) (len + n) (len + n)) (H.new (.cells (old ++ news) e true)), .heavy)
          | none => none
      | none, some (.cells cs e' true) =>
        bif Nat.beq e e' && Nat.ble lo a.block && news.all one then
          bif Nat.ble (a.off + (len + n) * size) cs.length then
            some (.val (.slice (some a) (len + n) cap) { H with t := H.t.set a.block (.cells (putRow cs (a.off + len * size) news) e' true) }, .store a.block)
          else bif Nat.beq (a.off + len * size) cs.length then
            some (.val (.slice (some ⟨H.next, 0, none⟩) (len + n) (len + n)) ({ H with t := H.t.set a.block .dead }.new (.cells (cs.drop a.off ++ news) e true)), .store a.block)
          else none
        else none
      | _, _ => none
    else none
  | _ => none
def srcCells (H : Hp) (size : Nat) : Value → Option (Nat × List Value)
  | .slice none n _ => bif Nat.beq n 0 then some (0, []) else none
  | .slice (some a) n _ =>
    match a.spot, cellsOf H a.block with
    | none, some cs => match row (n * size) cs a.off with | some r => some (n, r) | none => none
    | some _, _ => bif Nat.beq n 0 then some (0, []) else none
    | _, _ => none
  | _ => none
def builtinV (P : Program) (lo : Nat) (H : Hp) (b : Builtin) (ts : Array TypeId) (vs : List Value) : Option (Rs × Kd) :=
  match b, vs with
  | .append, [s, x] =>
    match ts[0]?, ts[1]? with
    | some t0, some t1 =>
      match sliceElem P t0, P.underlying t1 with
      | some (e, size), some (.slice _) =>
        match srcCells H size x with
        | some (n, news) => appendV lo H e size s n news
        | none => none
      | some (e, size), some (.int _) =>
        match x, zeroOf P e with
        | .int _ (.ofNat n), some z => bif Nat.ble n 1048576 then appendV lo H e size s n (zeros z.cells.toList n) else none
        | _, _ => none
      | _, _ => none
    | _, _ => none
  | .copy, [d, s] =>
    match ts[0]? with
    | some t0 =>
      match sliceElem P t0, d, s with
      | some (_, size), .slice (some a) dl _, .slice sa sl sc =>
        let n := Nat.min sl dl
        match srcCells H size (.slice sa n sc) with
        | some (_, news) =>
          match a.spot, H.t.get a.block with
          | none, some (.cells cs e l) =>
            bif Nat.ble lo a.block && Nat.ble (a.off + n * size) cs.length && news.all one then
              some (.val (.int .i64 n) { H with t := H.t.set a.block (.cells (putRow cs (a.off) news) e l) }, .full)
            else none
          | _, _ => none
        | none => none
      | some _, .slice none _ _, .slice _ _ _ => some (.val (.int .i64 0) H, .pure)
      | _, _, _ => none
    | none => none
  | .cap, [.slice a _ c] =>
    match ts[0]? with
    | some t => match P.underlying t, a with
      | some (.slice _), none => some (.val (.int .i64 c) H, .pure)
      | some (.slice _), some ad => match ad.spot, H.t.get ad.block with
        | none, some (.cells _ _ false) => some (.val (.int .i64 c) H, .read ad.block)
        | none, some (.ro _) => some (.val (.int .i64 c) H, .read ad.block)
        | _, _ => none
      | _, _ => none
    | none => none
  | .panic, [.iface t v] => some (.pan (.iface t v), .full)
  | .recover, [] => some (.recov, .full)
  | _, _ => none
def targetOf (A : Fr) (c : Call) : Option (Target × List Value) :=
  match evs A c.args.toList with
  | none => none
  | some vs =>
    match c.callee with
    | .builtin _ => none
    | .invoke r name => match ev A r with | some v => some (.fn (.method name) #[], v :: vs) | none => none
    | .value f => match ev A f with
      | some (.func fn first cap) => some (.fn fn cap, first.toList ++ vs)
      | _ => none
def boundOf (A : Fr) (dflt : Nat) : Option Operand → Option Nat
  | none => some dflt
  | some x => match ev A x with
    | some (.int _ (.ofNat n)) => some n
    | _ => none
def partsOf (A : Fr) : List (Nat × Operand) → Option (List (Nat × Value))
  | [] => some []
  | (i, x) :: r => match ev A x with | none => none | some v => match partsOf A r with | none => none | some vs => some ((i, v) :: vs)
def fillL (place : Nat → Option (Nat × Nat)) : List Value → List (Nat × Value) → Option (List Value)
  | cs, [] => some cs
  | cs, (i, v) :: rest =>
    match place i with
    | none => none
    | some (off, size) =>
      bif Nat.beq v.cells.toList.length size && Nat.ble (off + size) cs.length then fillL place (putRow cs off v.cells.toList) rest else none
def placesOf (P : Program) : List Field → Option (List (Nat × Nat))
  | [] => some []
  | f :: r => match P.info? f.type with | none => none | some i => match placesOf P r with | none => none | some l => some ((f.offset, i.size) :: l)
def evO (A : Fr) : Option Operand → Option (Option Value)
  | none => some none
  | some x => match ev A x with | some v => some (some v) | none => none
def differ (P : Program) (t : TypeId) (a b : Value) : Bool :=
  match P.underlying t, a, b with
  | some (.pointer _), .pointer none, .pointer (some _) | some (.pointer _), .pointer (some _), .pointer none => true
  | some (.interface _), .nilIface, .iface _ _ | some (.interface _), .iface _ _, .nilIface => true
  | some (.slice _), .slice none _ _, .slice (some _) _ _ | some (.slice _), .slice (some _) _ _, .slice none _ _ => true
  | some (.map _ _), .map none, .map (some _) | some (.map _ _), .map (some _), .map none => true
  | some (.func _ _ _), .nilFunc, .func _ _ _ | some (.func _ _ _), .func _ _ _, .nilFunc => true
  | _, _, _ => false
def partV (P : Program) (t : TypeId) (cs : List Value) (off : Nat) : Option Value :=
  match isAggB P t, P.info? t with
  | some true, some i => match row i.size cs off with | some r => some (.agg r.toArray) | none => none
  | some false, some _ => cs[off]?
  | _, _ => none
def pureCall (P : Program) (b : Builtin) (ts : Array TypeId) (ty : TypeId) (consts : Array Bool) (vs : List Value) : Option Value :=
  match b, vs with
  | .len, [.slice _ n _] =>
    match ts[0]? with
    | some t => match P.underlying t with | some (.slice _) => some (.int .i64 n) | _ => none
    | none => none
  | .len, [v] | .min, [v] | .max, [v] => flatCall P b ts ty consts [v]
  | .min, [v, u] | .max, [v, u] => flatCall P b ts ty consts [v, u]
  | .min, [v, u, x] | .max, [v, u, x] => flatCall P b ts ty consts [v, u, x]
  | _, _ => none
where
  flatCall (P : Program) (b : Builtin) (ts : Array TypeId) (ty : TypeId) (consts : Array Bool) (vs : List Value) : Option Value :=
    bif vs.all flat then
      match prun P (builtin b ts ty consts vs.toArray) with
      | some (.value v) => bif flat v then some v else none
      | _ => none
    else none
def pureOp (P : Program) (A : Fr) (o : Oper) : Option Value :=
  match o.op with
  | .move x | .assign x => ev A x
  | .pick c a b => match ev A c, ev A a, ev A b with
    | some (.bool t), some x, some y => some (bif t then x else y)
    | _, _, _ => none
  | .build t parts =>
    match zeroOf P t, partsOf A parts.toList with
    | some z, some ps =>
      match P.underlying t with
      | some (.struct fs) => match placesOf P fs.toList with
        | some pl => match fillL (fun i => pl[i]?) z.cells.toList ps with | some cs => some (.agg cs.toArray) | none => none
        | none => none
      | some (.array _ e) => match P.info? e with
        | some i => match fillL (fun k => some (k * i.size, i.size)) z.cells.toList ps with | some cs => some (.agg cs.toArray) | none => none
        | none => none
      | _ => none
    | _, _ => none
  | .nilCheck x => match ev A x with
    | some (.pointer (some a)) => some (.pointer (some a))
    | some (.iface t v) => some (.iface t v)
    | some (.func (.func f) a b) => some (.func (.func f) a b)
    | some (.func (.yield f) a b) => some (.func (.yield f) a b)
    | _ => none
  | .binOp op t x y _ =>
    match ev A x, ev A y with
    | some a, some b =>
      bif flat a && flat b then
        match prun P (do eqGuard op t x y a b; binOp op t a b) with
        | some v => bif flat v then some v else none
        | none => none
      else
        bif differ P t a b then
          match op with
          | .eql => some (.bool false)
          | .neq => some (.bool true)
          | _ => none
        else none
    | _, _ => none
  | .unOp op _ x => match ev A x with
    | some v => bif flat v then match prun P (Op.unary op v) with
        | some r => bif flat r then some r else none
        | none => none
      else none
    | none => none
  | .convert s d x => match ev A x with
    | some v => bif flat v then match prun P (convert s d v) with
        | some r => bif flat r then some r else none
        | none => none
      else none
    | none => none
  | .makeInterface t x => match ev A x, P.underlying t with
    | some _, some (.interface _) => none
    | some v, some _ => some (.iface t v)
    | _, _ => none
  | .makeFunc fn first cap => match fn, evs A first.toList, evs A cap.toList with
    | .func f, some a, some b => some (.func (.func f) a.toArray b.toArray)
    | .method m, some a, some b => some (.func (.method m) a.toArray b.toArray)
    | .methodOf t m, some a, some b => some (.func (.methodOf t m) a.toArray b.toArray)
    | _, _, _ => none
  | .fieldAddr s x f => match P.underlying s, ev A x with
    | some (.struct fs), some (.pointer (some a)) => match fs[f]? with
      | some fd => match P.info? fd.type with
        | some i => bif Nat.beq i.size 0 then none else some (.pointer (some (a.add fd.offset)))
        | _ => none
      | none => none
    | _, _ => none
  | .field t x f => match P.underlying t, ev A x with
    | some (.struct fs), some (.agg cs) => match fs[f]? with
      | some fd => partV P fd.type cs.toList fd.offset
      | none => none
    | _, _ => none
  | .indexAddr t x ix => match P.underlying t, ev A x, ev A ix with
    | some (.slice e), some (.slice (some a) len _), some (.int _ (.ofNat i)) =>
      match P.info? e with
      | some inf => bif Nat.ble (i + 1) len then some (.pointer (some (a.add (i * inf.size)))) else none
      | _ => none
    | some (.array len e), some (.pointer (some a)), some (.int _ (.ofNat i)) =>
      match P.info? e with
      | some inf => bif Nat.ble (i + 1) len then some (.pointer (some (a.add (i * inf.size)))) else none
      | _ => none
    | _, _, _ => none
  | .index t x ix => match P.underlying t, ev A x, ev A ix with
    | some (.array len e), some (.agg cs), some (.int _ (.ofNat i)) =>
      match P.info? e with
      | some inf => bif Nat.ble (i + 1) len then partV P e cs.toList (i * inf.size) else none
      | _ => none
    | some .string, some v, some k =>
      bif flat v && flat k then match prun P (Instr.index t v k) with
        | some r => bif flat r then some r else none
        | none => none
      else none
    | _, _, _ => none
  | .extract x i => match ev A x with
    | some (.tuple vs) => vs.toList[i]?
    | _ => none
  | .typeAssert x _ asserted ok => match P.underlying asserted, ev A x with
    | some (.interface _), _ => none
    | some _, some (.iface t v) =>
      bif Nat.beq t asserted then some (bif ok then .tuple #[v, .bool true] else v)
      else bif ok then match zeroOf P asserted with | some z => some (.tuple #[z, .bool false]) | none => none
      else none
    | some _, some .nilIface => bif ok then match zeroOf P asserted with | some z => some (.tuple #[z, .bool false]) | none => none else none
    | _, _ => none
  | .slice t x lw hi mx => match P.underlying t, mx with
    | some .string, none =>
      match ev A x, evO A lw, evO A hi with
      | some v, some l, some h =>
        bif flat v && l.toList.all flat && h.toList.all flat then
          match prun P (Instr.sliceAt t v l h none) with
          | some r => bif flat r then some r else none
          | none => none
        else none
      | _, _, _ => none
    | _, _ => none
  | .call c => match c.callee with
    | .builtin b => match evs A c.args.toList with
      | some vs => pureCall P b c.argTypes o.type (c.args.map fun | .const _ => true | _ => false) vs
      | none => none
    | _ => none
  | _ => none
def flatT : Value → Bool
  | .tuple cs => cs.toList.all flat
  | v => flat v
def lookupIn (t : TypeId) (es : Array MapEntry) (k : Value) (ok : Bool) : Sem Value := do
  let .map key elem ← underlying t | stuck "lookup"
  Instr.checkKey es.isEmpty 10000 key k
  let (v, got) ← match ← Instr.findKey key k es.toList with
    | some (_, v) => pure (v, true)
    | none => pure (← zeroValue elem, false)
  pure (if ok then .tuple #[v, .bool got] else v)
def updateIn (t : TypeId) (es : Array MapEntry) (clock : Nat) (k v : Value) : Sem (Array MapEntry × Nat) := do
  let .map key _ ← underlying t | stuck "update"
  Instr.checkKey false 10000 key k
  match ← Instr.findKey key k es.toList with
  | some (i, _) => do
    let k ← Instr.keyThatStays (((es[i]?).map (·.key)).getD k) k
    pure (es.modify i fun e => { e with key := k, val := v }, clock)
  | none => pure (es.push { key := k, val := v, born := clock }, clock + 1)
def updateV (P : Program) (lo : Nat) (H : Hp) (t : TypeId) (m k v : Value) : Option (Rs × Kd) :=
  match P.underlying t, m with
  | some (.map _ _), .map (some b) =>
    match H.t.get b with
    | some (.mp es c) =>
      bif flat k && flat v && Nat.ble lo b then
        match prun P (updateIn t es c k v) with
        | some (es', c') => some (.skip { H with t := H.t.set b (.mp es' c') }, .store b)
        | none => none
      else none
    | _ => none
  | _, _ => none
def entryIn (t : TypeId) (es : Array MapEntry) (clock : Nat) (k : Value) : Sem (Value × Array MapEntry × Nat) := do
  let .map key elem ← underlying t | stuck "entry"
  Instr.checkKey false 10000 key k
  match ← Instr.findKey key k es.toList with
  | some (i, v) => do
    let k ← Instr.keyThatStays (((es[i]?).map (·.key)).getD k) k
    pure (.tuple #[v, goInt (((es[i]?).map (·.born)).getD 0)], es.modify i fun e => { e with key := k }, clock)
  | none => do
    let zero ← zeroValue elem
    pure (.tuple #[zero, goInt clock], es.push { key := k, val := zero, born := clock }, clock + 1)
def entryV (P : Program) (lo : Nat) (H : Hp) (t : TypeId) (m k : Value) : Option (Rs × Kd) :=
  match P.underlying t, m with
  | some (.map _ _), .map (some b) =>
    match H.t.get b with
    | some (.mp es c) =>
      bif flat k && Nat.ble lo b then
        match prun P (entryIn t es c k) with
        | some (v, es', c') => bif flatT v then some (.val v { H with t := H.t.set b (.mp es' c') }, .store b) else none
        | none => none
      else none
    | _ => none
  | _, _ => none
def entryStoreIn (es : Array MapEntry) (stamp value : Value) : Sem (Array MapEntry) := do
  let born ← asInt stamp
  match es.findIdx? (fun e => (e.born : Int) == born) with
  | some i => pure (es.modify i fun e => { e with val := value })
  | none => stuck "entryStore"
def entryStoreV (P : Program) (lo : Nat) (H : Hp) (m s v : Value) : Option (Rs × Kd) :=
  match m with
  | .map (some b) =>
    match H.t.get b with
    | some (.mp es c) =>
      bif flat s && flat v && Nat.ble lo b then
        match prun P (entryStoreIn es s v) with
        | some es' => some (.skip { H with t := H.t.set b (.mp es' c) }, .store b)
        | none => none
      else none
    | _ => none
  | _ => none
def heapOp (P : Program) (lo : Nat) (A : Fr) (H : Hp) (o : Oper) : Option (Rs × Kd) :=
  match o.op with
  | .alloc e => match zeroOf P e with | some z => some (.val (ptr H.next) (H.new (.cells z.cells.toList e false)), .heavy) | none => none
  | .box e x => match ev A x with | some v => some (.val (ptr H.next) (H.new (.cells v.cells.toList e false)), .heavy) | none => none
  | .buildSlice t len parts =>
    match sliceElem P t, partsOf A parts.toList with
    | some (e, size), some ps =>
      match zeroOf P e with
      | some z =>
        bif Nat.ble (len * size) 16777216 then
          match fillL (fun k => some (k * size, size)) (zeros z.cells.toList len) ps with
          | some cs => some (.val (.slice (some ⟨H.next, 0, none⟩) len len) (H.new (.cells cs e false)), .heavy)
          | none => none
        else none
      | none => none
    | _, _ => none
  | .load t a => match ev A a with
    | some (.pointer (some ad)) => match loadV P H t ad with | some v => some (.val v H, .read ad.block) | none => none
    | _ => none
  | .store t a x => match ev A a, ev A x with
    | some (.pointer (some ad)), some v => match storeV P lo H t ad v with | some H' => some (.skip H', .store ad.block) | none => none
    | _, _ => none
  | .makeSlice t l c => match sliceElem P t, ev A l, ev A c with
    | some (e, size), some (.int _ (.ofNat n)), some (.int _ (.ofNat m)) =>
      match zeroOf P e, P.info? e with
      | some z, some i =>
        bif Nat.ble n m && Nat.ble (i.bytes * m) 1099511627776 && Nat.ble m 1048576 then
          some (.val (.slice (some ⟨H.next, 0, none⟩) n m) (H.new (.cells (zeros z.cells.toList m) e false)), .heavy)
        else none
      | _, _ => none
    | _, _, _ => none
  | .slice t x lw hi mx => match P.underlying t, ev A x, mx with
    | some (.slice e), some (.slice a len cap), none =>
      match P.info? e, boundOf A len hi, boundOf A 0 lw with
      | some i, some h, some l =>
        match a with
        | none => bif Nat.beq len 0 && Nat.beq cap 0 && Nat.beq h 0 && Nat.beq l 0 then some (.val (.slice none 0 0) H, .pure) else none
        | some ad =>
          match ad.spot, H.t.get ad.block with
          | none, some (.cells _ e' true) =>
            bif Nat.beq e e' && !(Nat.beq i.size 0) && Nat.ble h len && Nat.ble l h then
              some (.val (bif !(Nat.beq l len) || Nat.beq l 0 then .slice (some (ad.add (l * i.size))) (h - l) (cap - l) else .slice (some ⟨0, 0, some 0⟩) 0 0) H, .read ad.block)
            else none
          | none, some (.cells _ _ false) =>
            bif Nat.ble h cap && Nat.ble l h then
              some (.val (.slice (some (bif Nat.beq cap l then ad else ad.add (l * i.size))) (h - l) (cap - l)) H, .read ad.block)
            else none
          | none, some (.ro _) =>
            bif Nat.ble h cap && Nat.ble l h then
              some (.val (.slice (some (bif Nat.beq cap l then ad else ad.add (l * i.size))) (h - l) (cap - l)) H, .read ad.block)
            else none
          | _, _ => none
      | _, _, _ => none
    | some (.array n e), some (.pointer (some ad)), none =>
      match P.info? e, boundOf A n hi, boundOf A 0 lw with
      | some i, some h, some l =>
        match H.t.get ad.block with
        | some (.cells _ _ false) =>
          bif Nat.ble h n && Nat.ble l h then
            some (.val (.slice (some (bif Nat.beq n l then ad else ad.add (l * i.size))) (h - l) (n - l)) H, .read ad.block)
          else none
        | _ => none
      | _, _, _ => none
    | _, _, _ => none
  | .call c => match c.callee with
    | .builtin b => match evs A c.args.toList with
      | some vs => builtinV P lo H b c.argTypes vs
      | none => none
    | _ => match targetOf A c with | some (t, vs) => some (.call t vs, .full) | none => none
  | .defer c => match c.callee with
    | .builtin _ => none
    | _ => match targetOf A c with | some (t, vs) => some (.dfr { target := t, args := vs.toArray }, .full) | none => none
  | .panic x => match ev A x with | some (.iface t v) => some (.pan (.iface t v), .full) | _ => none
  | .makeMap _ r => match r with | none => some (.val (.map (some H.next)) (H.new (.mp #[] 0)), .heavy) | some _ => none
  | .lookup t x ix ok => match P.underlying t, ev A x, ev A ix with
    | some (.map _ _), some (.map (some b)), some k => match H.t.get b with
      | some (.mp es _) =>
        bif flat k then
          match prun P (lookupIn t es k ok) with
          | some v => bif flatT v then some (.val v H, .read b) else none
          | none => none
        else none
      | _ => none
    | some (.map _ _), some (.map none), some k =>
      bif flat k then
        match prun P (Instr.lookup t (.map none) k ok) with
        | some v => bif flatT v then some (.val v H, .pure) else none
        | none => none
      else none
    | _, _, _ => none
  | .mapUpdate t m k x => match ev A m, ev A k, ev A x with | some mv, some kv, some xv => updateV P lo H t mv kv xv | _, _, _ => none
  | .insert t m k x => match ev A m, ev A k, ev A x with | some mv, some kv, some xv => updateV P lo H t mv kv xv | _, _, _ => none
  | .mapEntry t m k => match ev A m, ev A k with | some mv, some kv => entryV P lo H t mv kv | _, _ => none
  | .entryStore _ m s x => match ev A m, ev A s, ev A x with | some mv, some sv, some xv => entryStoreV P lo H mv sv xv | _, _, _ => none
  | _ => none
def aOp (P : Program) (lo : Nat) (A : Fr) (H : Hp) (o : Oper) : Option (Rs × Kd) :=
  match pureOp P A o with
  | some v => some (.val v H, .pure)
  | none => heapOp P lo A H o
def wantedA (ops : Array Oper) (A : Fr) (o : Oper) : Option Bool :=
  match o.guard with
  | none => some true
  | some (j, want) =>
    match ops[j]? with
    | some g => match g.dst with
      | some d => match A.T.get d with
        | some (.bool b) => some (b == want)
        | some (.tuple _) => some false
        | _ => none
      | none => none
    | none => none
def Fr.put (A : Fr) (dst : Option Tmp) (v : Value) : Option Fr :=
  match dst with
  | none => some A
  | some d => bif Nat.ble (d + 1) A.n then some { A with T := A.T.set d v } else none
abbrev Par := Option (Value × Bool)
inductive En where
  | ret (v : Value)
  | pan (v : Value)
abbrev CallF := Nat → Target → List Value → Hp → Option (En × Hp)
def runOps (P : Program) (lo : Nat) (C : CallF) (ops : Array Oper) : List Nat → Fr → Hp → Par → Option (Exit × Fr × Hp × Par)
  | [], A, H, p => some (.normal, A, H, p)
  | i :: rest, A, H, p =>
    match ops[i]? with
    | none => none
    | some o =>
      match wantedA ops A o with
      | none => none
      | some false => match A.put o.dst undef with | some A' => runOps P lo C ops rest A' H p | none => none
      | some true =>
        match aOp P lo A H o with
        | none => none
        | some (.val v H', _) => match A.put o.dst v with | some A' => runOps P lo C ops rest A' H' p | none => none
        | some (.skip H', _) => match A.put o.dst undef with | some A' => runOps P lo C ops rest A' H' p | none => none
        | some (.dfr d, _) =>
          match A.round with
          | some _ => none
          | none => match { A with defers := d :: A.defers }.put o.dst undef with | some A' => runOps P lo C ops rest A' H p | none => none
        | some (.recov, _) =>
          match A.round with
          | some _ => none
          | none => match p with
            | some (v, false) => match A.put o.dst v with | some A' => runOps P lo C ops rest A' H (some (v, true)) | none => none
            | _ => match A.put o.dst .nilIface with | some A' => runOps P lo C ops rest A' H p | none => none
        | some (.pan v, _) => some (.panic [{ v, recovered := false }], A, H, p)
        | some (.call t args, _) =>
          match C lo t args H with
          | none => none
          | some (.ret v, H') => match A.put o.dst v with | some A' => runOps P lo C ops rest A' H' p | none => none
          | some (.pan v, H') => some (.panic [{ v, recovered := false }], A, H', p)
def setTmps (T : Tr Value) : List Tmp → List Value → Option (Tr Value)
  | [], [] => some T
  | t :: ts, v :: vs => setTmps (T.set t v) ts vs
  | _, _ => none
def forceN {α : Type} (n : Nat) (k : Nat → α) : α := match n with | 0 => k 0 | m + 1 => k (m + 1)
def maskOf (look : Nat → Nat) : List Edge → Nat → Nat
  | [], s => s
  | e :: r, s => bif Region.binds .any e then maskOf look r (s ||| 2 ^ e.on ||| look e.on) else maskOf look r s
def ancR : List Oper → Nat → List Nat → List Nat
  | [], _, acc => acc
  | o :: rest, j, acc => forceN (maskOf (fun i => bif Nat.ble (i + 1) j then acc.getD (j - 1 - i) 0 else 0) o.after.toList 0) fun v => ancR rest (j + 1) (v :: acc)
def ancL (ops : List Oper) : List Nat := (ancR ops 0 []).reverse
def isCall (o : Oper) : Bool := match o.op with | .call { callee := .builtin _, .. } => false | .call _ => true | _ => false
def touches (o : Oper) : Bool :=
  match o.op with
  | .alloc _ | .box .. | .buildSlice .. | .load .. | .store .. | .makeSlice .. | .slice .. | .makeMap .. | .mapUpdate .. | .lookup .. | .insert .. | .range .. | .next .. | .entry _ | .mapEntry .. | .entryStore .. | .defer _ | .go _ | .panic _ | .send .. | .recv .. | .select .. | .ready _ | .waits _ => true
  | .call { callee := .builtin b, .. } => match b with | .len | .min | .max => false | _ => true
  | .call _ => true
  | _ => false
def ordered (ops : List Oper) (anc : List Nat) (i : Nat) : Bool :=
  go ops anc 0 (anc.getD i 0)
where
  go : List Oper → List Nat → Nat → Nat → Bool
    | o :: os, m :: ms, j, mi => (!touches o || Nat.beq i j || (bif Nat.ble (j + 1) i then mi.testBit j else m.testBit i)) && go os ms (j + 1) mi
    | _, _, _, _ => true
def clash : Kd → Kd → Bool
  | .pure, _ | _, .pure => false
  | .full, _ | _, .full => true
  | .store b, .read c | .read c, .store b => Nat.beq b c
  | .store _, _ | _, .store _ => true
  | _, _ => false
def pairsG {α : Type} (bad : α → α → Bool) : List α → List Nat → Bool
  | k :: ks, m :: ms => belowG bad k m ks ks.length && pairsG bad ks ms
  | _, _ => true
where
  belowG (bad : α → α → Bool) (k : α) (m : Nat) : List α → Nat → Bool
    | [], _ => true
    | c :: cs, n => (!bad k c || m.testBit (n - 1)) && belowG bad k m cs (n - 1)
def tmpsIn : List Operand → List Nat
  | [] => []
  | .tmp t :: r => t :: tmpsIn r
  | _ :: r => tmpsIn r
def readsOf (ops : Array Oper) (o : Oper) : List Nat :=
  match o.guard with
  | some (j, _) => match ops[j]? with
    | some g => match g.dst with
      | some d => d :: tmpsIn o.op.operands.toList
      | none => tmpsIn o.op.operands.toList
    | none => tmpsIn o.op.operands.toList
  | none => tmpsIn o.op.operands.toList
def hitD : Option Nat → List Nat → Bool
  | none, _ => false
  | some d, l => l.any (Nat.beq d)
def sameD : Option Nat → Option Nat → Bool
  | some a, some b => Nat.beq a b
  | _, _ => false
def hit (x y : Option Nat × List Nat) : Bool := hitD x.1 y.2 || hitD y.1 x.2 || sameD x.1 y.1
def infoR (ops : Array Oper) : List Oper → List (Option Nat × List Nat) → List (Option Nat × List Nat)
  | [], acc => acc
  | o :: r, acc => infoR ops r ((o.dst, readsOf ops o) :: acc)
def edgesOk : List Oper → Nat → Bool
  | [], _ => true
  | o :: r, j => o.after.toList.all (fun e => !Region.binds .any e || Nat.ble (e.on + 1) j) && edgesOk r (j + 1)
def isSelect (o : Oper) : Bool := match o.op with | .select .. => true | _ => false
def regOk (ops : Array Oper) : Bool := edgesOk ops.toList 0 && pairsG hit (infoR ops ops.toList []) (ancR ops.toList 0 [])
def clashR : Kd → Kd → Bool
  | .store b, .mk c | .mk c, .store b => Nat.beq b c
  | k, c => clash k c
def mkOp (o : Oper) : Bool := match o.op with | .alloc _ | .box .. | .buildSlice .. | .makeSlice .. => true | _ => false
def kdOf (o : Oper) (H : Hp) : Kd → Kd
  | .heavy => bif mkOp o then .mk H.next else .heavy
  | k => k
def roLow (lo : Nat) (H : Hp) : Bool := (List.range H.next).all fun b => Nat.ble (b + 1) lo || (match H.t.get b with | some (.ro _) => false | _ => true)
def calm : Kd → Bool
  | .store _ | .full => false
  | _ => true
def kdOk : Kd → Hp → Bool
  | .read b, H => Nat.ble (b + 1) H.next
  | _, _ => true
def marked : Target → Bool
  | .fn (.func _) _ => false
  | _ => false
def oneOnly (H H' : Hp) (b : Nat) : Prop := ∀ c, c < H.next → c ≠ b → H'.t.get c = H.t.get c
open Classical in
def oneBlock (lo : Nat) (H H' : Hp) : Option Nat := if h : ∃ b, lo ≤ b ∧ oneOnly H H' b then some (Classical.choose h) else none
def runDraw (P : Program) (lo : Nat) (C : CallF) (ops : Array Oper) : List Oper → Nat → List Kd → Fr → Hp → Option (List Kd × Fr × Hp)
  | [], _, ks, A, H => some (ks, A, H)
  | o :: rest, i, ks, A, H =>
    match wantedA ops A o with
    | none => none
    | some false => match A.put o.dst undef with | some A' => runDraw P lo C ops rest (i + 1) (.pure :: ks) A' H | none => none
    | some true =>
      match aOp P lo A H o with
      | some (.val v H', k) => bif kdOk k H then (match A.put o.dst v with | some A' => runDraw P lo C ops rest (i + 1) (kdOf o H k :: ks) A' H' | none => none) else none
      | some (.skip H', k) => match A.put o.dst undef with | some A' => runDraw P lo C ops rest (i + 1) (k :: ks) A' H' | none => none
      | some (.call t args, _) =>
        bif ordered ops.toList (ancL ops.toList) i then
          match C lo t args H with
          | some (.ret v, H') => match A.put o.dst v with | some A' => runDraw P lo C ops rest (i + 1) (.full :: ks) A' H' | none => none
          | _ => none
        else bif marked t then
          match C lo t args H with
          | some (.ret v, H') => match oneBlock lo H H' with
            | some b => match A.put o.dst v with | some A' => runDraw P lo C ops rest (i + 1) (.store b :: ks) A' H' | none => none
            | none => none
          | _ => none
        else
          match C H.next t args H with
          | some (.ret v, H') => match A.put o.dst v with | some A' => runDraw P lo C ops rest (i + 1) (.heavy :: ks) A' H' | none => none
          | _ => none
      | _ => none
def drawn (P : Program) (lo : Nat) (C : CallF) (ops : Array Oper) (A : Fr) (H : Hp) : Option (Fr × Hp) :=
  match runDraw P lo C ops ops.toList 0 [] A H with
  | some (ks, A', H') => bif (ks.all calm || pairsG clash ks (ancR ops.toList 0 []) || (pairsG clashR ks (ancR ops.toList 0 []) && roLow lo H)) && regOk ops then some (A', H') else none
  | none => none
def runDrawP (P : Program) (lo : Nat) (C : CallF) (ops : Array Oper) : List Oper → Nat → List Kd → Fr → Hp → Option (List Kd × Value × Hp)
  | [], _, _, _, _ => none
  | o :: rest, i, ks, A, H =>
    match wantedA ops A o with
    | none => none
    | some false => match A.put o.dst undef with | some A' => runDrawP P lo C ops rest (i + 1) (.pure :: ks) A' H | none => none
    | some true =>
      match aOp P lo A H o with
      | some (.val v H', k) => bif kdOk k H then (match A.put o.dst v with | some A' => runDrawP P lo C ops rest (i + 1) (kdOf o H k :: ks) A' H' | none => none) else none
      | some (.skip H', k) => match A.put o.dst undef with | some A' => runDrawP P lo C ops rest (i + 1) (k :: ks) A' H' | none => none
      | some (.pan v, _) => some (.full :: ks, v, H)
      | some (.call t args, _) =>
        bif ordered ops.toList (ancL ops.toList) i then
          match C lo t args H with
          | some (.ret v, H') => match A.put o.dst v with | some A' => runDrawP P lo C ops rest (i + 1) (.full :: ks) A' H' | none => none
          | some (.pan v, H') => some (.full :: ks, v, H')
          | none => none
        else bif marked t then
          match C lo t args H with
          | some (.ret v, H') => match oneBlock lo H H' with
            | some b => match A.put o.dst v with | some A' => runDrawP P lo C ops rest (i + 1) (.store b :: ks) A' H' | none => none
            | none => none
          | _ => none
        else
          match C H.next t args H with
          | some (.ret v, H') => match A.put o.dst v with | some A' => runDrawP P lo C ops rest (i + 1) (.heavy :: ks) A' H' | none => none
          | some (.pan v, H') => some (.heavy :: ks, v, H')
          | none => none
      | _ => none
def behindOk (ms : List Nat) (n : Nat) : Bool := (ms.drop n).all fun m => m.testBit (n - 1)
def drawnP (P : Program) (lo : Nat) (C : CallF) (ops : Array Oper) (A : Fr) (H : Hp) : Option (Value × Hp) :=
  match runDrawP P lo C ops ops.toList 0 [] A H with
  | some (ks, v, H') => bif (pairsG clash ks ((ancR ops.toList 0 []).drop (ops.size - ks.length)) && behindOk (ancL ops.toList) ks.length) && regOk ops then some (v, H') else none
  | none => none
def delT (T : Tr Value) : List Nat → Tr Value
  | [] => T
  | d :: l => (delT T l).del d
def dstsOf (ops : Array Oper) : List Nat := ops.toList.filterMap (·.dst)
def Fr.drop (A : Fr) (l : List Nat) : Fr := { A with T := delT A.T l }
def runCode (P : Program) (lo : Nat) (C : CallF) : Nat → Code → Fr → Hp → Par → Option (Exit × Fr × Hp × Par)
  | 0, _, _, _, _ => none
  | f + 1, c, A, H, p =>
    match c with
    | .skip | .label _ => some (.normal, A, H, p)
    | .exit id => some (.exit id, A, H, p)
    | .ret => some (.ret, A, H, p)
    | .seq x y =>
      match runCode P lo C f x A H p with
      | some (.normal, A', H', p') => runCode P lo C f y A' H' p'
      | r => r
    | .cond o x y =>
      match ev A o with
      | some (.bool true) => runCode P lo C f x A H p
      | some (.bool false) => runCode P lo C f y A H p
      | _ => none
    | .block id b =>
      match runCode P lo C f b A H p with
      | some (.exit j, A', H', p') => bif Nat.beq j id then some (.normal, A', H', p') else some (.exit j, A', H', p')
      | r => r
    | .loop b =>
      match runCode P lo C f b A H p with
      | some (.normal, A', H', p') => runCode P lo C f (.loop b) A' H' p'
      | r => r
    | .region _ ops draw =>
      bif draw then
        match drawn P lo C ops A H with
        | some (A', H') => some (.normal, A', H', p)
        | none => match drawnP P lo C ops A H with
          | some (v, H') => some (.panic [{ v, recovered := false }], A.drop (dstsOf ops), H', p)
          | none => none
      else runOps P lo C ops (List.range ops.size) A H p
    | .rangeFunc fo params asg body =>
      match A.round, ev A fo with
      | none, some (.func fn first cap) =>
        let r := H.next
        let l := H.next + 1
        let H1 := (H.new (.dfr (some []))).new (.lp .ready none A.fn A.n A.T params.toList asg body r)
        let A1 := { A with defers := { target := .collected r, args := #[] } :: A.defers }
        match C lo (.fn fn cap) (first.toList ++ [.func (.yield l) #[] #[]]) H1 with
        | none => none
        | some (.pan v, H') => some (.panic [{ v, recovered := false }], A1, H', p)
        | some (.ret _, H') =>
          match H'.t.get l with
          | some (.lp st pe a b c d e g h) =>
            match st with
            | .busy => none
            | _ =>
              let H2 := { H' with t := H'.t.set l (.lp .exhausted pe a b c d e g h) }
              match pe with
              | none => some (.normal, A1, H2, p)
              | some (.exit id) => some (.exit id, A1, H2, p)
              | some .ret => some (.ret, A1, H2, p)
              | _ => none
          | _ => none
      | _, _ => none
    | _ => none
def resultsV (P : Program) (A : Fr) (H : Hp) : List ResultVar → Option (List Value)
  | [] => some []
  | .tmp t :: r => match A.T.get t with
    | none => none
    | some v => match resultsV P A H r with | none => none | some vs => some (v :: vs)
  | .cell a t :: r => match A.T.get a with
    | some (.pointer (some ad)) => match loadV P H t ad with
      | none => none
      | some v => match resultsV P A H r with | none => none | some vs => some (v :: vs)
    | _ => none
def unwindV (P : Program) (lo : Nat) (D : Target → List Value → Hp → Par → Option (En × Hp × Par)) (fn : Func) : Nat → Fr → Hp → Par → Option (En × Hp)
  | 0, _, _, _ => none
  | f + 1, A, H, m =>
    match A.defers with
    | [] =>
      match m with
      | some (v, false) => some (.pan v, H)
      | some (_, true) => none
      | none => match resultsV P A H fn.results.toList with
        | some [v] => some (.ret v, H)
        | some vs => some (.ret (.tuple vs.toArray), H)
        | none => none
    | d :: ds =>
      match d.target with
      | .collected r =>
        match H.t.get r with
        | some (.dfr (some calls)) => bif Nat.ble lo r then unwindV P lo D fn f { A with defers := calls ++ ds } { H with t := H.t.set r (.dfr none) } m else none
        | _ => none
      | .fn (.func g) cap =>
        match D (.fn (.func g) cap) d.args.toList H m with
        | some (.ret _, H', m') =>
          unwindV P lo D fn f { A with defers := ds } H' (match m' with | some (_, true) => none | m' => m')
        | _ => none
      | _ => none
def trOf (vs : List Value) : Nat → Tr Value → Tr Value := fun i t =>
  match vs with
  | [] => t
  | v :: r => trOf r (i + 1) (t.set i v)
def runFunc (P : Program) (lo : Nat) (C : CallF) (D : Target → List Value → Hp → Par → Option (En × Hp × Par)) (m : Nat) (f : FuncId) (args : List Value) (H : Hp) (p : Par) : Option (En × Hp × Par) :=
  match P.funcs[f]? with
  | none => none
  | some fn =>
    match fn.body with
    | none => none
    | some b =>
      bif Nat.ble args.length fn.ntmps then
        match runCode P lo C m b { fn := f, n := fn.ntmps, T := trOf args 0 .nil, defers := [], round := none } H p with
        | some (.normal, A, H', p') | some (.ret, A, H', p') => match unwindV P lo D fn m A H' none with | some (e, H'') => some (e, H'', p') | none => none
        | some (.panic [{ v, recovered := false, goexit := false }], A, H', p') => match unwindV P lo D fn m A H' (some (v, false)) with | some (e, H'') => some (e, H'', p') | none => none
        | _ => none
      else none
def methodV (P : Program) (t : TypeId) (v : Value) (name : String) : Option (FuncId × Value) :=
  match P.info? t with
  | none => none
  | some i =>
    match i.methods.toList.find? (fun m => m.name == name) with
    | none => none
    | some m =>
      match m.path.toList, m.func, P.underlying t with
      | [], some (f, true), some (.pointer _) => some (f, v)
      | [], some (_, false), some (.pointer _) => none
      | [], some (f, false), some _ => some (f, v)
      | _, _, _ => none
def kcall (kn : FuncId → Option Bool) : Target → List Value → Option Bool
  | .fn (.func f) cap, [] => bif Nat.beq cap.size 0 then kn f else none
  | _, _ => none
def evCall (P : Program) (kn : FuncId → Option Bool) (m : Nat) : Nat → Nat → Target → List Value → Hp → Par → Option (En × Hp × Par)
  | 0, _, _, _, _, _ => none
  | n + 1, lo, t, args, H, p =>
    let C : CallF := fun lo t args H => match kcall kn t args with
      | some b => some (.ret (.bool b), H)
      | none => match evCall P kn m n lo t args H none with | some (e, H', _) => some (e, H') | none => none
    let D := fun t args H p => evCall P kn m n lo t args H p
    match t with
    | .fn (.func f) cap => runFunc P lo C D m f (args ++ cap.toList) H p
    | .fn (.method name) _ =>
      match args with
      | .iface ty v :: rest => match methodV P ty v name with
        | some (f, r) => runFunc P lo C D m f (r :: rest) H p
        | none => none
      | _ => none
    | .fn (.methodOf ty name) _ =>
      match args, P.underlying ty with
      | _, some (.interface _) => none
      | v :: rest, some _ => match methodV P ty v name with
        | some (f, r) => runFunc P lo C D m f (r :: rest) H p
        | none => none
      | _, _ => none
    | .fn (.yield l) _ =>
      match p, H.t.get l with
      | none, some (.lp .ready pe fn n T params asg body df) =>
        match setTmps T params args with
        | none => none
        | some T' =>
          bif Nat.ble lo l then
          bif (P.funcs[fn]?).isSome && params.all (fun t => Nat.blt t n) then
          match runCode P lo C m asg { fn, n, T := T', defers := [], round := some l } H none with
          | some (.normal, A, H1, none) =>
            match H1.t.get l with
            | some (.lp .ready pe' fn' n' T2 ps' as' bo' df') =>
              let H2 := { H1 with t := H1.t.set l (.lp .busy pe' fn' n' T2 ps' as' bo' df') }
              match runCode P lo C m body A H2 none with
              | none => none
              | some (e, A', H3, _) =>
                match A'.defers, H3.t.get l with
                | [], some (.lp _ _ a b c d e' g h) =>
                  match e with
                  | .normal => some (.ret (.bool true), { H3 with t := H3.t.set l (.lp .ready none a b c d e' g h) }, none)
                  | .ret => some (.ret (.bool false), { H3 with t := H3.t.set l (.lp .done (some .ret) a b c d e' g h) }, none)
                  | .exit id => some (.ret (.bool false), { H3 with t := H3.t.set l (.lp .done (some (.exit id)) a b c d e' g h) }, none)
                  | .panic [{ v, recovered := false, goexit := false }] => some (.pan v, H3, none)
                  | _ => none
                | _, _ => none
            | _ => none
          | _ => none
          else none
          else none
      | _, _ => none
    | _ => none
def evMain (P : Program) (kn : FuncId → Option Bool) (m n : Nat) (f : FuncId) : Option Bool :=
  match evCall P kn m n 0 (.fn (.func f) #[]) [] { next := 0, t := .nil } none with
  | some (.ret (.bool b), _, _) => some b
  | _ => none
end
end Go.Ax

import Derived.Test.YtkdgngdnmgelnaaAxS31
set_option linter.all false
/-! The evaluator for all inputs, 1: code with what the types tell worked out ('low..'), and what it asks ('w..'). -/
namespace Go.Ax
open Go Go.RowKit
noncomputable section
abbrev Rg := List (Nat × Value)
def lk : Rg → Nat → Option Value
  | [], _ => none
  | (i, v) :: r, j => bif Nat.beq i j then some v else lk r j
def evS (S : Rg) : Operand → Option Value
  | .tmp t => lk S t
  | .const v => bif flat v then some v else none
  | .func f => some (.func (.func f) #[] #[])
  | .global _ => none
def evsS (S : Rg) : List Operand → Option (List Value)
  | [] => some []
  | x :: r => match evS S x with | none => none | some v => match evsS S r with | none => none | some vs => some (v :: vs)
def trS : Rg → Tr Value
  | [] => .nil
  | (i, v) :: r => (trS r).set i v
def frS (n : Nat) (S : Rg) : Fr := { fn := 0, n := n, T := trS S, defers := [], round := none }
inductive RI where
  | mov (x : Operand)
  | nilc (x : Operand)
  | addo (x : Operand) (off : Nat)
  | idx (x i : Operand) (size : Nat)
  | idxa (x i : Operand) (len size : Nat)
  | ld (x : Operand) (n : Nat)
  | lda (x : Operand) (n : Nat)
  | st (x y : Operand)
  | sta (x y : Operand) (n : Nat)
  | ari (op : BinOp) (x y : Operand)
  | cmp (op : BinOp) (x y : Operand)
  | cmpb (op : BinOp) (x y : Operand)
  | len (x : Operand)
  | mm (small : Bool) (x y : Operand)
  | call (c : Call) (ord : Bool)
  | box (e : TypeId) (x : Operand)
  | alc (e : TypeId) (z : List Value)
  | pur (o : Oper)
  | mem (o : Oper)
  | dead
structure RO where
  dst : Option Nat
  guard : Option (Nat × Bool)
  ri : RI
inductive RC where
  | skip
  | exit (id : Nat)
  | ret
  | seq (x y : RC)
  | cond (o : Operand) (x y : RC)
  | block (id : Nat) (b : RC)
  | reg (ops : List RO)
  | dreg (ops : List RO) (masks : List Nat)
  | other (c : Code)
def isI64 (P : Program) (t : TypeId) : Bool := match P.underlying t with | some (.int .i64) => true | _ => false
def arith : BinOp → Bool
  | .add | .sub | .mul | .quo | .rem => true
  | _ => false
def compares : BinOp → Bool
  | .eql | .neq | .lss | .leq | .gtr | .geq => true
  | _ => false
def clean (o : Oper) : Oper := { o with pos := "", after := #[], guard := none }
def hasGuard (ops : List Oper) : Bool := ops.any fun o => o.guard.isSome
def lowRI (P : Program) (ops : List Oper) (ord : Bool) (o : Oper) : Option RI :=
  match o.op with
  | .move x | .assign x => some (.mov x)
  | .nilCheck x => some (.nilc x)
  | .fieldAddr s x f => match P.underlying s with
    | some (.struct fs) => match fs[f]? with
      | some fd => match P.info? fd.type with
        | some i => bif Nat.beq i.size 0 then none else some (.addo x fd.offset)
        | none => none
      | none => none
    | _ => none
  | .indexAddr t x i => match P.underlying t with
    | some (.slice e) => match P.info? e with | some inf => some (.idx x i inf.size) | none => none
    | some (.array len e) => match P.info? e with | some inf => some (.idxa x i len inf.size) | none => none
    | _ => none
  | .load t x => match P.info? t, isAggB P t with
    | some i, some true => some (.lda x i.size)
    | some _, some false => some (.ld x 1)
    | _, _ => none
  | .store t x y => match P.info? t with
    | some i => bif Nat.beq i.size 1 then (match isAggB P t with | some false => some (.st x y) | _ => some (.sta x y i.size)) else some (.sta x y i.size)
    | none => none
  | .binOp op t x y _ => bif isI64 P t then (bif arith op then some (.ari op x y) else bif compares op then (bif hasGuard ops then some (.cmpb op x y) else some (.cmp op x y)) else some (.pur (clean o))) else some (.pur (clean o))
  | .box e x => some (.box e x)
  | .alloc e => match zeroOf P e with | some z => some (.alc e z.cells.toList) | none => none
  | .call c => match c.callee with
    | .builtin .len => match c.argTypes[0]? with
      | some t => match P.underlying t, c.args.toList with
        | some (.slice _), [x] => some (.len x)
        | _, _ => some (.pur (clean o))
      | none => none
    | .builtin .min => match c.args.toList with | [x, y] => bif isI64 P o.type then some (.mm true x y) else some (.pur (clean o)) | _ => some (.pur (clean o))
    | .builtin .max => match c.args.toList with | [x, y] => bif isI64 P o.type then some (.mm false x y) else some (.pur (clean o)) | _ => some (.pur (clean o))
    | .builtin _ => some (.mem (clean o))
    | _ => some (.call c ord)
  | .buildSlice .. | .makeSlice .. => some (.mem (clean o))
  | .panic _ => some .dead
  | .slice t .. => match P.underlying t with | some .string => some (.pur (clean o)) | _ => some (.mem (clean o))
  | .pick .. | .build .. | .unOp .. | .convert .. | .makeInterface .. | .makeFunc .. | .field .. | .index .. | .extract .. | .typeAssert .. => some (.pur (clean o))
  | _ => none
def lowRO (P : Program) (n : Nat) (ops : List Oper) (ord : Bool) (o : Oper) : Option RO :=
  match lowRI P ops ord o with
  | none => none
  | some ri =>
    bif (match o.dst with | none => true | some d => Nat.ble (d + 1) n) then
      match o.guard with
      | none => some { dst := o.dst, guard := none, ri }
      | some (j, w) => match ops[j]? with
        | some g => match g.dst with
          | some d => some { dst := o.dst, guard := some (d, w), ri }
          | none => none
        | none => none
    else none
def lowROs (P : Program) (n : Nat) (ops : List Oper) (ord : Nat → Bool) : List Oper → Nat → Option (List RO)
  | [], _ => some []
  | o :: r, i => match lowRO P n ops (ord i) o with
    | none => none
    | some x => match lowROs P n ops ord r (i + 1) with
      | none => none
      | some l => some (x :: l)
def low (P : Program) (n : Nat) : Code → Option RC
  | .skip | .label _ => some .skip
  | .exit id => some (.exit id)
  | .ret => some .ret
  | .seq x y => match low P n x with | none => none | some a => match low P n y with | none => none | some b => some (.seq a b)
  | .cond o x y => match low P n x with | none => none | some a => match low P n y with | none => none | some b => some (.cond o a b)
  | .block id b => match low P n b with | none => none | some a => some (.block id a)
  | .region _ ops draw =>
    bif draw then
      bif regOk ops then
        let anc := ancL ops.toList
        match lowROs P n ops.toList (fun i => ordered ops.toList anc i) ops.toList 0 with
        | none => none
        | some l => some (.dreg l (ancR ops.toList 0 []))
      else none
    else match lowROs P n ops.toList (fun _ => true) ops.toList 0 with | none => none | some l => some (.reg l)
  | .loop b => some (.other (.loop b))
  | .rangeFunc f ps a b => some (.other (.rangeFunc f ps a b))
  | _ => none
def subAt : Code → List Nat → Code
  | .seq a _, 0 :: r => subAt a r
  | .seq _ b, _ :: r => subAt b r
  | .cond _ a _, 0 :: r => subAt a r
  | .cond _ _ b, _ :: r => subAt b r
  | .block _ b, _ :: r => subAt b r
  | .loop b, _ :: r => subAt b r
  | .rangeFunc _ _ a _, 0 :: r => subAt a r
  | .rangeFunc _ _ _ b, _ :: r => subAt b r
  | c, _ => c
def at_ (f : Func) (p : List Nat) : Code := subAt (f.body.getD .skip) p
def Hp.up (H : Hp) (b : Nat) (o : Ob) : Hp := { H with t := H.t.set b o }
def InR (x : Int) : Prop := -9223372036854775808 ≤ x ∧ x < 9223372036854775808
def CallsX (P : Program) (kn : FuncId → Option Bool) (lo : Nat) (t : Target) (args : List Value) (H : Hp) (v : Value) (H' : Hp) : Prop :=
  ∃ N, ∀ m k, N ≤ m → N ≤ k → callF P kn m k lo t args H = some (.ret v, H')
def Knows (S : Rg) (T : Tr Value) : Prop := ∀ j v, lk S j = some v → T.get j = some v
def Tri (P : Program) (kn : FuncId → Option Bool) (lo n : Nat) (rd : Bool) (c : Code) (S : Rg) (H : Hp) (K : Exit → Rg → Hp → Prop) : Prop :=
  ∀ A : Fr, A.n = n → A.round.isSome = rd → Knows S A.T →
    ∃ e S' H' T', K e S' H' ∧ Knows S' T' ∧ ∃ N, ∀ f m k, N ≤ f → N ≤ m → N ≤ k → runCode P lo (callF P kn m k) f c A H none = some (e, { A with T := T' }, H', none)
def targetS (S : Rg) (c : Call) : Option (Target × List Value) :=
  match evsS S c.args.toList with
  | none => none
  | some vs =>
    match c.callee with
    | .builtin _ => none
    | .invoke r name => match evS S r with | some v => some (.fn (.method name) #[], v :: vs) | none => none
    | .value f => match evS S f with
      | some (.func fn first cap) => some (.fn fn cap, first.toList ++ vs)
      | _ => none
def defd (S : Rg) : List Operand → Bool
  | [] => true
  | x :: r => (match evS S x with | some _ => true | none => false) && defd S r
section
variable (P : Program) (kn : FuncId → Option Bool) (lo n : Nat) (rd : Bool)
def wRI (S : Rg) (H : Hp) (K : Value → Hp → Kd → Prop) : RI → Prop
  | .mov x => match evS S x with | some v => K v H .pure | none => False
  | .nilc x => match evS S x with
    | some (.pointer (some a)) => K (.pointer (some a)) H .pure
    | some (.iface t v) => K (.iface t v) H .pure
    | some (.func (.func f) a b) => K (.func (.func f) a b) H .pure
    | some (.func (.yield f) a b) => K (.func (.yield f) a b) H .pure
    | _ => False
  | .addo x off => match evS S x with
    | some (.pointer (some ⟨b, o, none⟩)) => K (.pointer (some ⟨b, o + off, none⟩)) H .pure
    | _ => False
  | .idx x i size => match evS S x, evS S i with
    | some (.slice (some ⟨b, o, none⟩) len _), some (.int _ j) => ∃ k : Nat, j = (k : Int) ∧ k < len ∧ K (.pointer (some ⟨b, o + k * size, none⟩)) H .pure
    | _, _ => False
  | .idxa x i len size => match evS S x, evS S i with
    | some (.pointer (some ⟨b, o, none⟩)), some (.int _ j) => ∃ k : Nat, j = (k : Int) ∧ k < len ∧ K (.pointer (some ⟨b, o + k * size, none⟩)) H .pure
    | _, _ => False
  | .ld x _ => match evS S x with
    | some (.pointer (some ⟨b, o, none⟩)) => ∃ cs v, cellsOf H b = some cs ∧ cs[o]? = some v ∧ K v H (.read b)
    | _ => False
  | .lda x m => match evS S x with
    | some (.pointer (some ⟨b, o, none⟩)) => ∃ cs r, cellsOf H b = some cs ∧ row m cs o = some r ∧ K (.agg r.toArray) H (.read b)
    | _ => False
  | .st x y => match evS S x, evS S y with
    | some (.pointer (some ⟨b, o, none⟩)), some v => ∃ cs e l, H.t.get b = some (.cells cs e l) ∧ lo ≤ b ∧ v.cells.toList = [v] ∧ one v = true ∧ o < cs.length ∧ ∀ H1, H.up b (.cells (cs.set o v) e l) = H1 → K undef H1 (.store b)
    | _, _ => False
  | .sta x y m => match evS S x, evS S y with
    | some (.pointer (some ⟨b, o, none⟩)), some v => ∃ cs e l, H.t.get b = some (.cells cs e l) ∧ lo ≤ b ∧ v.cells.toList.length = m ∧ v.cells.toList.all one = true ∧ o + m ≤ cs.length ∧ ∀ H1, H.up b (.cells (putRow cs o v.cells.toList) e l) = H1 → K undef H1 (.store b)
    | _, _ => False
  | .ari op x y => match op, evS S x, evS S y with
    | .add, some (.int .i64 a), some (.int .i64 b) => InR (a + b) ∧ K (.int .i64 (a + b)) H .pure
    | .sub, some (.int .i64 a), some (.int .i64 b) => InR (a - b) ∧ K (.int .i64 (a - b)) H .pure
    | .mul, some (.int .i64 a), some (.int .i64 b) => InR (a * b) ∧ K (.int .i64 (a * b)) H .pure
    | .quo, some (.int .i64 a), some (.int .i64 b) => 0 ≤ a ∧ 0 < b ∧ InR a ∧ K (.int .i64 (a / b)) H .pure
    | .rem, some (.int .i64 a), some (.int .i64 b) => 0 ≤ a ∧ 0 < b ∧ InR a ∧ InR b ∧ K (.int .i64 (a % b)) H .pure
    | _, _, _ => False
  | .cmp op x y => match op, evS S x, evS S y with
    | .eql, some (.int .i64 a), some (.int .i64 b) => K (.bool (a == b)) H .pure
    | .neq, some (.int .i64 a), some (.int .i64 b) => K (.bool (a != b)) H .pure
    | .lss, some (.int .i64 a), some (.int .i64 b) => K (.bool (decide (a < b))) H .pure
    | .leq, some (.int .i64 a), some (.int .i64 b) => K (.bool (decide (a ≤ b))) H .pure
    | .gtr, some (.int .i64 a), some (.int .i64 b) => K (.bool (decide (a > b))) H .pure
    | .geq, some (.int .i64 a), some (.int .i64 b) => K (.bool (decide (a ≥ b))) H .pure
    | _, _, _ => False
  | .cmpb op x y => match op, evS S x, evS S y with
    | .eql, some (.int .i64 a), some (.int .i64 b) => ∀ t, (a == b) = t → K (.bool t) H .pure
    | .neq, some (.int .i64 a), some (.int .i64 b) => ∀ t, (a != b) = t → K (.bool t) H .pure
    | .lss, some (.int .i64 a), some (.int .i64 b) => ∀ t, decide (a < b) = t → K (.bool t) H .pure
    | .leq, some (.int .i64 a), some (.int .i64 b) => ∀ t, decide (a ≤ b) = t → K (.bool t) H .pure
    | .gtr, some (.int .i64 a), some (.int .i64 b) => ∀ t, decide (a > b) = t → K (.bool t) H .pure
    | .geq, some (.int .i64 a), some (.int .i64 b) => ∀ t, decide (a ≥ b) = t → K (.bool t) H .pure
    | _, _, _ => False
  | .len x => match evS S x with
    | some (.slice _ m _) => K (.int .i64 m) H .pure
    | _ => False
  | .mm small x y => match evS S x, evS S y with
    | some (.int .i64 a), some (.int .i64 b) => K (.int .i64 (bif small then min a b else max a b)) H .pure
    | _, _ => False
  | .call c ord => match targetS S c with
    | some (t, vs) => bif !ord && marked t then ∃ v H' b, CallsX P kn lo t vs H v H' ∧ lo ≤ b ∧ H'.t.get b ≠ H.t.get b ∧ b < H.next ∧ oneOnly H H' b ∧ K v H' (.store b)
      else ∃ v H', CallsX P kn (bif ord then lo else H.next) t vs H v H' ∧ K v H' (bif ord then .full else .heavy)
    | none => False
  | .box e x => match evS S x with
    | some v => ∀ H1, H.new (.cells v.cells.toList e false) = H1 → K (ptr H.next) H1 .heavy
    | none => False
  | .alc e z => ∀ H1, H.new (.cells z e false) = H1 → K (ptr H.next) H1 .heavy
  | .dead => False
  | .pur o => defd S o.op.operands.toList = true ∧ ∃ v, pureOp P (frS n S) o = some v ∧ K v H .pure
  | .mem o => defd S o.op.operands.toList = true ∧ ((∃ v, pureOp P (frS n S) o = some v ∧ K v H .pure) ∨
      (pureOp P (frS n S) o = none ∧ ∃ v H' k, heapOp P lo (frS n S) H o = some (.val v H', k) ∧ (∀ b, k = .read b → b < H.next) ∧ K v H' k))
def putS (S : Rg) (d : Option Nat) (v : Value) : Rg := match d with | none => S | some d => (d, v) :: S
def wRO (S : Rg) (H : Hp) (o : RO) (K : Rg → Hp → Kd → Prop) : Prop :=
  match o.guard with
  | none => wRI P kn lo n S H (fun v H' k => K (putS S o.dst v) H' k) o.ri
  | some (g, want) => match lk S g with
    | some (.bool true) => bif want then wRI P kn lo n S H (fun v H' k => K (putS S o.dst v) H' k) o.ri else K (putS S o.dst undef) H .pure
    | some (.bool false) => bif want then K (putS S o.dst undef) H .pure else wRI P kn lo n S H (fun v H' k => K (putS S o.dst v) H' k) o.ri
    | some (.tuple _) => K (putS S o.dst undef) H .pure
    | _ => False
def wOps : List RO → Rg → Hp → (Rg → Hp → Prop) → Prop
  | [], S, H, K => K S H
  | o :: r, S, H, K => wRO P kn lo n S H o fun S' H' _ => wOps r S' H' K
def clashP : Kd → Kd → Prop
  | .pure, _ | _, .pure => False
  | .full, _ | _, .full => True
  | .store b, .read c | .read c, .store b => b = c
  | .store _, _ | _, .store _ => True
  | _, _ => False
def belowP (k : Kd) : Nat → List Kd → Prop
  | _, [] => True
  | m, c :: cs => (bif Nat.beq (Nat.mod m 2) 1 then True else ¬ clashP k c) ∧ belowP k (Nat.div m 2) cs
def pairsP : List Kd → List Nat → Prop
  | k :: ks, m :: ms => belowP k m ks.reverse ∧ pairsP ks ms
  | _, _ => True
def wDraw (masks : List Nat) : List RO → List Kd → Rg → Hp → (Rg → Hp → Prop) → Prop
  | [], ks, S, H, K => (bif ks.all calm then True else pairsP ks masks) ∧ K S H
  | o :: r, ks, S, H, K => wRO P kn lo n S H o fun S' H' k => match k with | .read b => b < H.next ∧ wDraw masks r (.read b :: ks) S' H' K | k => wDraw masks r (k :: ks) S' H' K
def wC : RC → Rg → Hp → (Exit → Rg → Hp → Prop) → Prop
  | .skip, S, H, K => K .normal S H
  | .exit id, S, H, K => K (.exit id) S H
  | .ret, S, H, K => K .ret S H
  | .seq x y, S, H, K => wC x S H fun e S' H' => match e with | .normal => wC y S' H' K | e => K e S' H'
  | .cond o x y, S, H, K => match evS S o with
    | some (.bool b) => (b = true → wC x S H K) ∧ (b = false → wC y S H K)
    | _ => False
  | .block id b, S, H, K => wC b S H fun e S' H' => match e with | .exit j => (bif Nat.beq j id then K .normal S' H' else K (.exit j) S' H') | e => K e S' H'
  | .reg ops, S, H, K => wOps P kn lo n ops S H fun S' H' => K .normal S' H'
  | .dreg ops masks, S, H, K => wDraw P kn lo n masks ops [] S H fun S' H' => K .normal S' H'
  | .other c, S, H, K => Tri P kn lo n rd c S H K
end
end
end Go.Ax
